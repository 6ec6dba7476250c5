/-
  link: a call that writes a table, and answers a row. No statement is proved here.
-/
import Derived.Test.YtedcileokcbohaaDoorLiK
namespace Go.Proofs.YtedcileokcbohaaDoor
open Go.RowKit
set_option linter.unusedVariables false
set_option linter.unusedSimpArgs false
set_option maxRecDepth 100000

/-- A slice that is answered: whether it is nil, which of the new blocks it lies in, how long it is. -/
structure RS where
  b : Bool
  d : Nat
  len : Nat
  cap : Nat
def extOk (x : Mm) : Prop := ∀ e ∈ x, e.rw = true ∧ e.c.wf 0 = true
theorem ext_ren {x : Mm} (h : extOk x) (σ : Nat → Nat) : x.map (Ent.ren σ) = x := by
  induction x with
  | nil => rfl
  | cons e l ih =>
    have h1 := h e (by simp)
    rw [List.map_cons, ih (fun e he => h e (by simp [he]))]
    congr 1
    show (⟨e.rw, e.c.ren σ⟩ : Ent) = e
    rw [cren_id (n := 0) (fun _ h => absurd h (by omega)) _ h1.2]
theorem mvR {P : Program} {f : Nat} {args : List SV} {p : List SV} {s : TS} {K : SV → Mm → Prop} {Q : RS → TS → Mm → Prop} (hp : SV.wf.wfs 0 p = true) (hS : Spec P G f args (M0T p s) K) (h : ∀ r M1, K r M1 → ∃ (a : RS) (s' : TS) (ext : Mm) (t : Nat) (us : List Nat), Q a s' ext ∧ a.d ≤ ext.length ∧ extOk ext ∧ us.length = ext.length ∧ r = .ns a.b ((t :: us).getD a.d 0) 3 a.len a.cap ∧ 2 ≤ t ∧ (t :: us).Nodup ∧ (∀ u ∈ us, 2 ≤ u) ∧ M1[0]? = some e0 ∧ M1[1]? = some (rowT p s' t) ∧ (∃ c, M1[2]? = some ⟨true, c⟩) ∧ M1[t]? = some (recT' s') ∧ (∀ (i : Nat) (e : Ent), ext[i]? = some e → M1[us.getD i 0]? = some e)) : Spec P G f args (M0T p s) (fun r M1 => ∃ a s' ext, (Q a s' ext ∧ a.d ≤ ext.length ∧ extOk ext) ∧ r = .ns a.b (3 + a.d) 3 a.len a.cap ∧ M1 = M1T p s' ++ ext) := by
  refine Spec.re hS fun r M1 hK => ?_
  obtain ⟨a, s', ext, t, us, hq, hd, hx, hul, rfl, ht, hnd, hu2, h0, h1, ⟨c, h2⟩, h3, h4⟩ := h r M1 hK
  have hle : (M1T p s' ++ ext).length = 4 + ext.length := by rw [List.length_append]; rfl
  let σ : Nat → Nat := fun i => if i < 3 then i else (t :: us).getD (i - 3) 0
  have s1 : ∀ i, i < 3 → σ i = i := fun i hi => if_pos hi
  have s2 : ∀ i, σ (3 + i) = (t :: us).getD i 0 := fun i => by
    show (if 3 + i < 3 then 3 + i else (t :: us).getD (3 + i - 3) 0) = _
    rw [if_neg (by omega), Nat.add_sub_cancel_left]
  have cs : ∀ i e, (M1T p s' ++ ext)[i]? = some e → (i = 0 ∧ e = e0) ∨ (i = 1 ∧ e = rowT p s' 3) ∨ (i = 2 ∧ e = goneE) ∨ (∃ n, i = 3 + n ∧ n < (t :: us).length ∧ M1[σ i]? = some e ∧ e.rw = true ∧ e.c.wf 0 = true ∧ 2 ≤ σ i) := fun i e he => by
    match i, he with
    | 0, he => cases he; exact .inl ⟨rfl, rfl⟩
    | 1, he => cases he; exact .inr (.inl ⟨rfl, rfl⟩)
    | 2, he => cases he; exact .inr (.inr (.inl ⟨rfl, rfl⟩))
    | 3, he =>
      cases he
      have e3 : σ 3 = t := s2 0
      exact .inr (.inr (.inr ⟨0, rfl, by simp, by rw [e3]; exact h3, rfl, rfl, by rw [e3]; exact ht⟩))
    | i + 4, he =>
      have he' : ext[i]? = some e := by
        rw [List.getElem?_append_right (by show 4 ≤ i + 4; omega)] at he
        simpa [M1T] using he
      have e3 : σ (i + 4) = us.getD i 0 := by rw [show i + 4 = 3 + (i + 1) by omega, s2]; rfl
      have hil := lt_of_get he'
      have hm : us.getD i 0 ∈ us := by
        rw [List.getD_eq_getElem?_getD, List.getElem?_eq_getElem (by omega)]
        exact List.getElem_mem (by omega)
      obtain ⟨hx1, hx2⟩ := hx e (List.mem_of_getElem? he')
      exact .inr (.inr (.inr ⟨i + 1, by omega, by simp; omega, by rw [e3]; exact h4 i e he', hx1, hx2, by rw [e3]; exact hu2 _ hm⟩))
  have hinj : ∀ m n, m < (t :: us).length → n < (t :: us).length → m ≠ n → (t :: us).getD m 0 ≠ (t :: us).getD n 0 := fun m n hm hn hne he => by
    rw [List.getD_eq_getElem?_getD, List.getD_eq_getElem?_getD, List.getElem?_eq_getElem hm, List.getElem?_eq_getElem hn] at he
    exact hne ((List.getElem_inj hnd).1 he)
  refine ⟨.ns a.b (3 + a.d) 3 a.len a.cap, M1T p s' ++ ext, σ, ⟨fun k hk => s1 k hk, by rw [hle]; show 3 ≤ _; omega, fun k e he hh => ?_, fun i j x y hx' hy hij hrw hxh hyh => ?_, fun k e he => ?_, fun k e he hrw => ?_, fun k e hk he => ?_, fun k e hk he => ?_, fun β => ?_, ?_⟩, ⟨a, s', ext, ⟨hq, hd, hx⟩, rfl, rfl⟩⟩
  · rcases cs k e he with ⟨rfl, rfl⟩ | ⟨rfl, rfl⟩ | ⟨rfl, rfl⟩ | ⟨n, rfl, hn, q1, q2, q3, q4⟩
    · rw [s1 0 (by omega)]; exact ⟨_, h0, rfl, rfl, fun _ => rfl, rfl⟩
    · rw [s1 1 (by omega)]
      refine ⟨_, h1, rfl, rfl, fun β => ?_, rfl⟩
      show vals (fun i => β (σ i)) (p ++ [.ns s'.b 3 3 s'.len s'.cap]) = vals β (p ++ [.ns s'.b t 3 s'.len s'.cap])
      rw [vals_app, vals_app, vals0 (β := fun i => β (σ i)) (β' := β) hp]
      have e3 : σ 3 = t := s2 0
      have e : vals (fun i => β (σ i)) [.ns s'.b 3 3 s'.len s'.cap] = vals β [.ns s'.b t 3 s'.len s'.cap] := by simp only [vals, val, e3]
      rw [e]
    · cases hh
    · exact ⟨e, q1, hh, rfl, fun β => cells_agree (n := 0) (fun _ h => absurd h (by omega)) _ q3, rfl⟩
  · rcases cs i x hx' with ⟨rfl, rfl⟩ | ⟨rfl, rfl⟩ | ⟨rfl, rfl⟩ | ⟨n, rfl, hn, q1, q2, q3, q4⟩
    · cases hrw
    · rcases cs j y hy with ⟨rfl, rfl⟩ | ⟨rfl, rfl⟩ | ⟨rfl, rfl⟩ | ⟨n', rfl, hn', q1', q2', q3', q4'⟩
      · rw [s1 1 (by omega), s1 0 (by omega)]; exact fun h => by cases h
      · exact absurd rfl hij
      · cases hyh
      · rw [s1 1 (by omega)]; omega
    · cases hxh
    · rcases cs j y hy with ⟨rfl, rfl⟩ | ⟨rfl, rfl⟩ | ⟨rfl, rfl⟩ | ⟨n', rfl, hn', q1', q2', q3', q4'⟩
      · rw [s1 0 (by omega)]; omega
      · rw [s1 1 (by omega)]; omega
      · cases hyh
      · rw [s2, s2]; exact hinj n n' hn hn' (by omega)
  · rcases cs k e he with ⟨rfl, rfl⟩ | ⟨rfl, rfl⟩ | ⟨rfl, rfl⟩ | ⟨n, rfl, hn, q1, q2, q3, q4⟩
    · rfl
    · rw [hle]
      refine wfs_app (wfs_mono (Nat.zero_le _) p hp) ?_
      simp [SV.wf.wfs, SV.wf, Nat.blt_eq]; omega
    · rfl
    · exact cwf_mono (Nat.zero_le _) _ q3
  · rcases cs k e he with ⟨rfl, rfl⟩ | ⟨rfl, rfl⟩ | ⟨rfl, rfl⟩ | ⟨n, rfl, hn, q1, q2, q3, q4⟩
    · cases hrw
    · rw [s1 1 (by omega)]; exact ⟨_, h1, rfl⟩
    · rw [s1 2 (by omega)]; exact ⟨_, h2, rfl⟩
    · exact ⟨e, q1, q2⟩
  · match k, hk with
    | 0, _ =>
      rw [h0] at he; cases he
      exact ⟨_, rfl, fun _ => rfl⟩
    | 1, _ =>
      rw [h1] at he; cases he
      exact ⟨_, rfl, fun h => by cases h⟩
    | 2, _ =>
      rw [h2] at he; cases he
      exact ⟨_, rfl, fun h => by cases h⟩
    | k + 3, hk => exact absurd hk (by show ¬ k + 3 < 3; omega)
  · have hk : 3 ≤ k := hk
    rcases cs k e he with ⟨rfl, rfl⟩ | ⟨rfl, rfl⟩ | ⟨rfl, rfl⟩ | ⟨n, rfl, hn, q1, q2, q3, q4⟩
    · omega
    · omega
    · omega
    · exact q2
  · simp only [val, s2]
  · show Nat.blt (3 + a.d) _ = true
    rw [hle, Nat.blt_eq]; omega
theorem effR {P : Program} {f k j : Nat} {M : Mm} {rest p : List SV} {s : TS} {Q : RS → TS → Mm → Prop} (hp : SV.wf.wfs 0 p = true) (hrest : SV.wf.wfs 0 rest = true) (hS : Spec P G f (.ptr 1 0 :: rest) (M0T p s) (fun r M1 => ∃ a s' ext, (Q a s' ext ∧ a.d ≤ ext.length ∧ extOk ext) ∧ r = .ns a.b (3 + a.d) 3 a.len a.cap ∧ M1 = M1T p s' ++ ext)) (hk : M[k]? = some (rowT p s j)) (hj : M[j]? = some (recT' s)) (hne : k ≠ j) :
    Spec P G f (.ptr k 0 :: rest) M (fun r M' => ∃ a s' ext, Q a s' ext ∧ r = .ns a.b (M.length + a.d) 3 a.len a.cap ∧ M' = ((M.set k (rowT p s' M.length)).set j goneE) ++ (recT' s' :: ext)) := by
  have hkl := lt_of_get hk
  have hjl := lt_of_get hj
  have er : ∀ σ : Nat → Nat, rens σ (.ptr 1 0 :: rest) = .ptr (σ 1) 0 :: rest := fun σ => by
    show ren σ (.ptr 1 0) :: rens σ rest = _
    rw [rens0 hrest]; rfl
  cases hb : s.b
  · intro β w hR hw
    refine eff_of (K := fun r M' => ∃ a s' ext, Q a s' ext ∧ r = .ns a.b (M.length + a.d) 3 a.len a.cap ∧ M' = ((M.set k (rowT p s' M.length)).set j goneE) ++ (recT' s' :: ext)) (R := [rowT p s 2, recT' s]) (args0 := .ptr 1 0 :: rest) [k, j] hS (er _).symm ?_ (by simp [hne]) ⟨⟨true, ?_, fun h => h⟩, ⟨rfl, ?_⟩, ⟨true, hj, fun h => h⟩, ⟨?_, rfl⟩, trivial⟩ ?_ β w hR hw
    · show (Nat.blt 1 3 && SV.wf.wfs 3 rest) = true
      rw [wfs_mono (Nat.zero_le _) rest hrest]; rfl
    · rw [hk]
      show some (⟨true, .row (p ++ [.ns s.b j 3 s.len s.cap])⟩ : Ent) = some ⟨true, .row (rens _ (p ++ [.ns s.b 2 3 s.len s.cap]))⟩
      rw [rens_app, rens0 hp]; rfl
    · exact wfs_app (wfs_mono (Nat.zero_le _) p hp) rfl
    · show (!s.b) = true; rw [hb]; rfl
    · rintro r1 M1 ⟨a, s', ext, ⟨hq, hd, hx⟩, rfl, rfl⟩
      refine ⟨a, s', ext, hq, ?_, ?_⟩
      · show SV.ns a.b (reloc (sig 1 [k, j]) 3 M.length (3 + a.d)) 3 a.len a.cap = _
        unfold reloc
        rw [if_neg (by omega), Nat.add_sub_cancel_left]
      · show (M.set k ⟨true, .row (rens (reloc (sig 1 [k, j]) 3 M.length) (p ++ [.ns s'.b 3 3 s'.len s'.cap]))⟩).set j goneE ++ (recT' s' :: ext.map (Ent.ren (reloc (sig 1 [k, j]) 3 M.length))) = _
        rw [rens_app, rens0 hp, ext_ren hx]; rfl
  · have hS1 := Spec.alias hp hb (by
      show (Nat.blt 1 2 && SV.wf.wfs 2 rest) = true
      rw [wfs_mono (Nat.zero_le _) rest hrest]; rfl) hS
    intro β w hR hw
    have hMk : (M.set k (nilT p))[k]? = some (nilT p) := List.getElem?_set_self hkl
    have h2 : Spec P G f (.ptr k 0 :: rest) (M.set k (nilT p)) (fun r M' => ∃ a s' ext, (Q a s' ext ∧ a.d ≤ ext.length ∧ extOk ext) ∧ r = .ns a.b (M.length + 1 + a.d) 3 a.len a.cap ∧ M' = M.set k (rowT p s' (M.length + 1)) ++ (goneE :: recT' s' :: ext)) := by
      intro β w hR hw
      refine eff_of (K := fun r M' => ∃ a s' ext, (Q a s' ext ∧ a.d ≤ ext.length ∧ extOk ext) ∧ r = .ns a.b (M.length + 1 + a.d) 3 a.len a.cap ∧ M' = M.set k (rowT p s' (M.length + 1)) ++ (goneE :: recT' s' :: ext)) (R := [nilT p]) (args0 := .ptr 1 0 :: rest) [k] hS1 (er _).symm ?_ (by simp) ⟨⟨true, ?_, fun h => h⟩, ⟨rfl, ?_⟩, trivial⟩ ?_ β w hR hw
      · show (Nat.blt 1 2 && SV.wf.wfs 2 rest) = true
        rw [wfs_mono (Nat.zero_le _) rest hrest]; rfl
      · rw [hMk]
        show some (nilT p) = some ⟨true, .row (rens _ (p ++ [.v (.slice none 0 0)]))⟩
        rw [rens_app, rens0 hp]; rfl
      · exact wfs_app (wfs_mono (Nat.zero_le _) p hp) rfl
      · rintro r1 M1 ⟨a, s', ext, ⟨hq, hd, hx⟩, rfl, rfl⟩
        have hlen : (M.set k (nilT p)).length = M.length := by simp
        refine ⟨a, s', ext, ⟨hq, hd, hx⟩, ?_, ?_⟩
        · show SV.ns a.b (reloc (sig 1 [k]) 2 (M.set k (nilT p)).length (3 + a.d)) 3 a.len a.cap = _
          unfold reloc
          rw [if_neg (by omega), hlen, show M.length + (3 + a.d - 2) = M.length + 1 + a.d by omega]
        · show ((M.set k (nilT p)).set k ⟨true, .row (rens (reloc (sig 1 [k]) 2 (M.set k (nilT p)).length) (p ++ [.ns s'.b 3 3 s'.len s'.cap]))⟩) ++ (goneE :: recT' s' :: ext.map (Ent.ren (reloc (sig 1 [k]) 2 (M.set k (nilT p)).length))) = _
          rw [hlen, List.set_set, rens_app, rens0 hp, ext_ren hx]; rfl
    have hE : Eqv M (M.set k (nilT p)) := Eqv.set hR hk ⟨rfl, rfl, fun _ => ⟨rfl, fun β => by
      show vals β (p ++ [.v (.slice none 0 0)]) = vals β (p ++ [.ns s.b j 3 s.len s.cap])
      rw [vals_app, vals_app, hb]; rfl, rfl⟩, wfs_app (wfs_mono (Nat.zero_le _) p hp) rfl⟩
    have hargs : SV.wf.wfs (M.set k (nilT p)).length (.ptr k 0 :: rest) = true := by
      rw [List.length_set]; exact hw
    refine Spec.re (Spec.pre h2 (fun _ => rfl) hargs hE) ?_ β w hR hw
    rintro r M1 ⟨a, s', ext, ⟨hq, hd, hx⟩, rfl, rfl⟩
    have hlen2 : ((M.set k (rowT p s' M.length)).set j goneE ++ (recT' s' :: ext)).length = M.length + 1 + ext.length := by simp; omega
    have g1 : ∀ i, i < M.length → (M.set k (rowT p s' (M.length + 1)) ++ (goneE :: recT' s' :: ext))[i]? = (M.set k (rowT p s' (M.length + 1)))[i]? := fun i hi => List.getElem?_append_left (by simp; exact hi)
    have g2 : ∀ i, i < M.length → ((M.set k (rowT p s' M.length)).set j goneE ++ (recT' s' :: ext))[i]? = ((M.set k (rowT p s' M.length)).set j goneE)[i]? := fun i hi => List.getElem?_append_left (by simp; exact hi)
    have g3 : ∀ n, ((M.set k (rowT p s' M.length)).set j goneE ++ (recT' s' :: ext))[M.length + n]? = (recT' s' :: ext)[n]? := fun n => by
      rw [List.getElem?_append_right (by simp)]; simp
    have g4 : ∀ n, (M.set k (rowT p s' (M.length + 1)) ++ (goneE :: recT' s' :: ext))[M.length + 1 + n]? = (recT' s' :: ext)[n]? := fun n => by
      rw [List.getElem?_append_right (by simp; omega)]
      simp only [List.length_set]
      rw [show M.length + 1 + n - M.length = n + 1 by omega]; rfl
    have xok : ∀ (n : Nat) (e : Ent), (recT' s' :: ext)[n]? = some e → e.rw = true ∧ e.c.wf 0 = true := fun n e he => by
      cases n with
      | zero => cases he; exact ⟨rfl, rfl⟩
      | succ n => exact hx e (List.mem_of_getElem? (show ext[n]? = some e from he))
    have cs : ∀ (i : Nat) (e : Ent), ((M.set k (rowT p s' M.length)).set j goneE ++ (recT' s' :: ext))[i]? = some e → (∃ n, i = M.length + n ∧ (recT' s' :: ext)[n]? = some e) ∨ (i = j ∧ e = goneE) ∨ (i = k ∧ e = rowT p s' M.length) ∨ (i < M.length ∧ i ≠ j ∧ i ≠ k ∧ M[i]? = some e) := fun i e he => by
      rcases Nat.lt_or_ge i M.length with q | q
      · rw [g2 i q, List.getElem?_set] at he
        by_cases q1 : j = i
        · subst q1
          rw [if_pos rfl, if_pos (by simp; exact q)] at he
          cases he
          exact .inr (.inl ⟨rfl, rfl⟩)
        · rw [if_neg q1, List.getElem?_set] at he
          by_cases q2 : k = i
          · subst q2
            rw [if_pos rfl, if_pos q] at he
            cases he
            exact .inr (.inr (.inl ⟨rfl, rfl⟩))
          · rw [if_neg q2] at he
            exact .inr (.inr (.inr ⟨q, fun h => q1 h.symm, fun h => q2 h.symm, he⟩))
      · obtain ⟨n, rfl⟩ := Nat.exists_eq_add_of_le q
        rw [g3] at he
        exact .inl ⟨n, rfl, he⟩
    have hk1 : (M.set k (rowT p s' (M.length + 1)) ++ (goneE :: recT' s' :: ext))[k]? = some (rowT p s' (M.length + 1)) := by rw [g1 k hkl]; exact List.getElem?_set_self hkl
    have ho1 : ∀ i, i < M.length → i ≠ k → (M.set k (rowT p s' (M.length + 1)) ++ (goneE :: recT' s' :: ext))[i]? = M[i]? := fun i hi hik => by rw [g1 i hi, List.getElem?_set_ne (fun h => hik h.symm)]
    let σ : Nat → Nat := fun i => if i < M.length then i else i + 1
    have s1 : ∀ i, i < M.length → σ i = i := fun i hi => if_pos hi
    have s2 : ∀ n, σ (M.length + n) = M.length + 1 + n := fun n => by
      show (if M.length + n < M.length then M.length + n else M.length + n + 1) = _
      rw [if_neg (by omega)]; omega
    refine ⟨.ns a.b (M.length + a.d) 3 a.len a.cap, (M.set k (rowT p s' M.length)).set j goneE ++ (recT' s' :: ext), σ, ⟨s1, by rw [hlen2]; omega, fun i e he hh => ?_, fun i i' x y hx' hy hij hr hxh hyh => ?_, fun i e he => ?_, fun i e he hr => ?_, fun i e hi he => ?_, fun i e hi he => ?_, fun β => by simp only [val, s2], ?_⟩, ⟨a, s', ext, hq, rfl, rfl⟩⟩
    · rcases cs i e he with ⟨n, rfl, q⟩ | ⟨rfl, rfl⟩ | ⟨rfl, rfl⟩ | ⟨q1, q2, q3, q4⟩
      · rw [s2]
        exact ⟨e, by rw [g4]; exact q, hh, rfl, fun β => cells_agree (n := 0) (fun _ h => absurd h (by omega)) _ (xok n e q).2, rfl⟩
      · cases hh
      · rw [s1 _ hkl]
        refine ⟨_, hk1, rfl, rfl, fun β => ?_, rfl⟩
        show vals (fun i => β (σ i)) (p ++ [.ns s'.b M.length 3 s'.len s'.cap]) = vals β (p ++ [.ns s'.b (M.length + 1) 3 s'.len s'.cap])
        rw [vals_app, vals_app, vals0 (β := fun i => β (σ i)) (β' := β) hp]
        have e3 : σ M.length = M.length + 1 := s2 0
        have e : vals (fun i => β (σ i)) [.ns s'.b M.length 3 s'.len s'.cap] = vals β [.ns s'.b (M.length + 1) 3 s'.len s'.cap] := by simp only [vals, val, e3]
        rw [e]
      · rw [s1 _ q1]
        refine ⟨e, by rw [ho1 i q1 q3]; exact q4, hh, rfl, fun β => ?_, rfl⟩
        exact cells_agree (n := M.length) (fun i hi => by simp only [s1 i hi]) _ (hR.wf i e q4)
    · show σ i ≠ σ i'
      simp only [σ]
      split <;> split <;> omega
    · rcases cs i e he with ⟨n, rfl, q⟩ | ⟨rfl, rfl⟩ | ⟨rfl, rfl⟩ | ⟨q1, q2, q3, q4⟩
      · exact cwf_mono (Nat.zero_le _) _ (xok n e q).2
      · rfl
      · rw [hlen2]
        refine wfs_app (wfs_mono (Nat.zero_le _) p hp) ?_
        simp [SV.wf.wfs, SV.wf, Nat.blt_eq]; omega
      · exact cwf_mono (by rw [hlen2]; omega) _ (hR.wf i e q4)
    · rcases cs i e he with ⟨n, rfl, q⟩ | ⟨rfl, rfl⟩ | ⟨rfl, rfl⟩ | ⟨q1, q2, q3, q4⟩
      · rw [s2]; exact ⟨e, by rw [g4]; exact q, (xok n e q).1⟩
      · rw [s1 _ hjl]; exact ⟨_, by rw [ho1 _ hjl (fun h => hne h.symm)]; exact hj, rfl⟩
      · rw [s1 _ hkl]; exact ⟨_, hk1, rfl⟩
      · rw [s1 _ q1]; exact ⟨e, by rw [ho1 i q1 q3]; exact q4, hr⟩
    · by_cases q1 : i = k
      · subst q1
        rw [hk1] at he
        cases he
        exact ⟨_, by rw [g2 i hkl, List.getElem?_set_ne (fun h => hne h.symm)]; exact List.getElem?_set_self hkl, fun h => by cases h⟩
      · rw [ho1 i hi q1] at he
        by_cases q2 : i = j
        · subst q2
          rw [hj] at he
          cases he
          exact ⟨_, by rw [g2 i hjl]; exact List.getElem?_set_self (by simp; exact hjl), fun h => by cases h⟩
        · exact ⟨e.c, by rw [g2 i hi, List.getElem?_set_ne (fun h => q2 h.symm), List.getElem?_set_ne (fun h => q1 h.symm)]; exact he, fun _ => rfl⟩
    · rcases cs i e he with ⟨n, rfl, q⟩ | ⟨rfl, rfl⟩ | ⟨rfl, rfl⟩ | ⟨q1, q2, q3, q4⟩
      · exact (xok n e q).1
      · rfl
      · rfl
      · omega
    · show Nat.blt (M.length + a.d) _ = true
      rw [hlen2, Nat.blt_eq]; omega
end Go.Proofs.YtedcileokcbohaaDoor
