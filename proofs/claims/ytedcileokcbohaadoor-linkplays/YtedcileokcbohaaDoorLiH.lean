/-
  link: what a call does to a table and its row, whether the row is nil or not. No statement is proved here.
-/
import Derived.Test.YtedcileokcbohaaDoorLiG
namespace Go.Proofs.YtedcileokcbohaaDoor
open Go.RowKit
set_option linter.unusedVariables false
set_option linter.unusedSimpArgs false
set_option maxRecDepth 100000

/-- A row of records that may be nil. -/
structure TS where
  b : Bool
  len : Nat
  cap : Nat
  l : List Nr
def rowT (p : List SV) (s : TS) (j : Nat) : Ent := ⟨true, .row (p ++ [.ns s.b j 3 s.len s.cap])⟩
def recT' (s : TS) : Ent := ⟨true, .nrec s.b 57 NF s.l⟩
def M0T (p : List SV) (s : TS) : Mm := [e0, rowT p s 2, recT' s]
def M1T (p : List SV) (s : TS) : Mm := [e0, rowT p s 3, goneE, recT' s]
theorem vals_app (β : Nat → Nat) (l m : List SV) : vals β (l ++ m) = vals β l ++ vals β m := by simp [vals_map]
theorem vals0 {β β' : Nat → Nat} {l : List SV} (h : SV.wf.wfs 0 l = true) : vals β l = vals β' l := vals_agree (n := 0) (fun _ h => absurd h (by omega)) l h
theorem val0 {β β' : Nat → Nat} {x : SV} (h : x.wf 0 = true) : val β x = val β' x := val_agree (n := 0) (fun _ h => absurd h (by omega)) x h
theorem wfs_app {n : Nat} {l m : List SV} (h : SV.wf.wfs n l = true) (k : SV.wf.wfs n m = true) : SV.wf.wfs n (l ++ m) = true := by
  rw [wfs_all] at h k ⊢
  intro x hx
  rcases List.mem_append.1 hx with q | q
  · exact h x q
  · exact k x q
theorem rens_app (σ : Nat → Nat) : ∀ (l m : List SV), rens σ (l ++ m) = rens σ l ++ rens σ m
  | [], m => rfl
  | x :: l, m => by show ren σ x :: rens σ (l ++ m) = ren σ x :: (rens σ l ++ rens σ m); rw [rens_app]
theorem rens0 {σ : Nat → Nat} {l : List SV} (h : SV.wf.wfs 0 l = true) : rens σ l = l := rens_id (n := 0) (fun _ h => absurd h (by omega)) l h
def nilT (p : List SV) : Ent := ⟨true, .row (p ++ [.v (.slice none 0 0)])⟩
/-- Where a row is nil, its block's place may be any. -/
theorem Spec.alias {P : Program} {f : Nat} {args : List SV} {p : List SV} {s : TS} {K : SV → Mm → Prop} (hp : SV.wf.wfs 0 p = true) (hb : s.b = true) (ha : SV.wf.wfs 2 args = true) (hS : Spec P G f args (M0T p s) K) : Spec P G f args [e0, nilT p] K := by
  intro β w hR hw
  have hv : ∀ β' : Nat → Nat, (rowT p s 2).c.cells β' = (nilT p).c.cells β := fun β' => by
    show vals β' (p ++ [.ns s.b 2 3 s.len s.cap]) = vals β (p ++ [.v (.slice none 0 0)])
    rw [vals_app, vals_app, vals0 (β := β') (β' := β) hp, hb]; rfl
  have h0 := hR.all 0 e0 rfl rfl
  have h1 := hR.all 1 (nilT p) rfl rfl
  have hd := hR.dis 1 0 _ _ rfl rfl (by decide) rfl rfl rfl
  let β' : Nat → Nat := fun i => if i = 2 then β 1 else β i
  have ag : ∀ i, i < 2 → β' i = β i := fun i hi => if_neg (by omega)
  have hR' : Rel G β' (M0T p s) w := by
    refine ⟨fun k e he hh => ?_, fun i j x y hx hy hij hr hxh hyh => ?_, fun g hg => ?_, by show 1 ≤ 3; decide, fun k hk => ?_, hR.ro, fun k e he => ?_⟩
    · match k, he with
      | 0, he =>
        cases he
        rw [ag 0 (by omega)]; exact h0
      | 1, he =>
        cases he
        have := h1
        rw [← hv β'] at this
        rw [ag 1 (by omega)]; exact this
      | 2, he =>
        cases he
        have : (!s.b) = true := hh
        rw [hb] at this; cases this
      | k + 3, he => cases he
    · match i, j, hx, hy with
      | 0, _, hx, _ => cases hx; cases hr
      | 2, _, hx, _ =>
        cases hx
        have : (!s.b) = true := hxh
        rw [hb] at this; cases this
      | 1, 1, _, _ => exact absurd rfl hij
      | 1, 0, _, _ => exact hd
      | 1, 2, _, hy =>
        cases hy
        have : (!s.b) = true := hyh
        rw [hb] at this; cases this
      | 1, j + 3, _, hy => cases hy
      | i + 3, _, hx, _ => cases hx
    · have hg' : g < 1 := hg
      rw [ag g (by omega)]; exact hR.glob g hg
    · match k, hk with
      | 0, _ => rfl
      | k + 1, hk => exact absurd hk (by show ¬ k + 1 < 1; omega)
    · match k, he with
      | 0, he => cases he; rfl
      | 1, he =>
        cases he
        exact wfs_app (wfs_mono (Nat.zero_le _) p hp) rfl
      | 2, he => cases he; rfl
      | k + 3, he => cases he
  have e : vals β args = vals β' args := (vals_agree (n := 2) ag args ha).symm
  rw [e]
  refine (hS β' w hR' (wfs_mono (by show 2 ≤ 3; decide) args ha)).mono fun v w' hh => ?_
  obtain ⟨β1, M1, r, hE, hR1, hr, hK⟩ := hh
  have rws : ∀ b, rwset β' (M0T p s) b → rwset β [e0, nilT p] b := fun b hb' => by
    obtain ⟨k, e, he, hr, hb'⟩ := hb'
    match k, he with
    | 0, he => cases he; cases hr
    | 1, he => exact ⟨1, _, rfl, rfl, by rw [← hb', ag 1 (by omega)]⟩
    | 2, he => exact ⟨1, _, rfl, rfl, by rw [← hb']; rfl⟩
    | k + 3, he => cases he
  refine ⟨β1, M1, r, ⟨fun k hk => ?_, Nat.le_trans (by show 2 ≤ 3; decide) hE.len, fun b hb' => (hE.rws b hb').imp (rws b) id, hE.fp.mono fun k _ hk => rws k hk, fun k e he => ?_, fun k e hk he => ?_⟩, hR1, hr, hK⟩
  · have hk' : k < 2 := hk
    rw [hE.agree k (by show k < 3; omega), ag k hk']
  · match k, he with
    | 0, he =>
      cases he
      obtain ⟨c, h3, h4⟩ := hE.keep 0 e0 rfl
      exact ⟨c, h3, h4⟩
    | 1, he =>
      cases he
      obtain ⟨c, h3, h4⟩ := hE.keep 1 (rowT p s 2) rfl
      exact ⟨c, h3, fun h => by cases h⟩
    | k + 2, he => cases he
  · rcases Nat.lt_or_ge k 3 with q | q
    · have : k = 2 := by have : 2 ≤ k := hk; omega
      subst this
      obtain ⟨c, h3, h4⟩ := hE.keep 2 (recT' s) rfl
      rw [he] at h3
      have := Option.some.inj h3
      rw [this]; rfl
    · exact hE.new k e q he
/-- A table's row, and where its records lie, behind a call that may write both. -/
theorem effN {P : Program} {f k j : Nat} {M : Mm} {rest p p' : List SV} {s : TS} {Q : SV → TS → Prop} (hp : SV.wf.wfs 0 p = true) (hp' : SV.wf.wfs 0 p' = true) (hrest : SV.wf.wfs 0 rest = true) (hS : Spec P G f (.ptr 1 0 :: rest) (M0T p s) (fun r M1 => ∃ s', (r.wf 0 = true ∧ Q r s') ∧ M1 = M1T p' s')) (hk : M[k]? = some (rowT p s j)) (hj : M[j]? = some (recT' s)) (hne : k ≠ j) :
    Spec P G f (.ptr k 0 :: rest) M (fun r M' => ∃ s', Q r s' ∧ M' = ((M.set k (rowT p' s' M.length)).set j goneE) ++ [recT' s']) := by
  have hkl := lt_of_get hk
  have hjl := lt_of_get hj
  cases hb : s.b
  · intro β w hR hw
    have er : ∀ σ : Nat → Nat, rens σ (.ptr 1 0 :: rest) = .ptr (σ 1) 0 :: rest := fun σ => by
      show ren σ (.ptr 1 0) :: rens σ rest = _
      rw [rens0 hrest]; rfl
    refine eff_of (K := fun r M' => ∃ s', Q r s' ∧ M' = ((M.set k (rowT p' s' M.length)).set j goneE) ++ [recT' s']) (R := [rowT p s 2, recT' s]) (args0 := .ptr 1 0 :: rest) [k, j] hS (er _).symm ?_ (by simp [hne]) ⟨⟨true, ?_, fun h => h⟩, ⟨rfl, ?_⟩, ⟨true, hj, fun h => h⟩, ⟨?_, rfl⟩, trivial⟩ ?_ β w hR hw
    · show (Nat.blt 1 3 && SV.wf.wfs 3 rest) = true
      rw [wfs_mono (Nat.zero_le _) rest hrest]; rfl
    · rw [hk]
      show some (⟨true, .row (p ++ [.ns s.b j 3 s.len s.cap])⟩ : Ent) = some ⟨true, .row (rens _ (p ++ [.ns s.b 2 3 s.len s.cap]))⟩
      rw [rens_app, rens0 hp]; rfl
    · exact wfs_app (wfs_mono (Nat.zero_le _) p hp) rfl
    · show (!s.b) = true; rw [hb]; rfl
    · rintro r1 M1 ⟨s', ⟨hrw, hq⟩, rfl⟩
      have e1 : ∀ σ : Nat → Nat, ren σ r1 = r1 := fun σ => ren_id (n := 0) (fun _ h => absurd h (by omega)) r1 hrw
      rw [e1]
      refine ⟨s', hq, ?_⟩
      show (M.set k ⟨true, .row (rens (reloc (sig 1 [k, j]) 3 M.length) (p' ++ [.ns s'.b 3 3 s'.len s'.cap]))⟩).set j goneE ++ [recT' s'] = _
      rw [rens_app, rens0 hp']; rfl
  · have hS1 := Spec.alias hp hb (by
      show (Nat.blt 1 2 && SV.wf.wfs 2 rest) = true
      rw [wfs_mono (Nat.zero_le _) rest hrest]; rfl) hS
    intro β w hR hw
    have hgl : 1 ≤ M.length := hR.gl
    have hpre0 : M[0]? = some e0 := hR.pre 0 (by show 0 < 1; decide)
    have hk0 : k ≠ 0 := fun e => by subst e; rw [hk] at hpre0; cases hpre0
    have hj0 : j ≠ 0 := fun e => by subst e; rw [hj] at hpre0; cases hpre0
    have er : ∀ σ : Nat → Nat, rens σ (.ptr 1 0 :: rest) = .ptr (σ 1) 0 :: rest := fun σ => by
      show ren σ (.ptr 1 0) :: rens σ rest = _
      rw [rens0 hrest]; rfl
    have hMk : (M.set k (nilT p))[k]? = some (nilT p) := List.getElem?_set_self hkl
    have h2 : Spec P G f (.ptr k 0 :: rest) (M.set k (nilT p)) (fun r M' => ∃ s', Q r s' ∧ r.wf 0 = true ∧ M' = M.set k (rowT p' s' (M.length + 1)) ++ [goneE, recT' s']) := by
      intro β w hR hw
      refine eff_of (K := fun r M' => ∃ s', Q r s' ∧ r.wf 0 = true ∧ M' = M.set k (rowT p' s' (M.length + 1)) ++ [goneE, recT' s']) (R := [nilT p]) (args0 := .ptr 1 0 :: rest) [k] hS1 (er _).symm ?_ (by simp) ⟨⟨true, ?_, fun h => h⟩, ⟨rfl, ?_⟩, trivial⟩ ?_ β w hR hw
      · show (Nat.blt 1 2 && SV.wf.wfs 2 rest) = true
        rw [wfs_mono (Nat.zero_le _) rest hrest]; rfl
      · rw [hMk]
        show some (nilT p) = some ⟨true, .row (rens _ (p ++ [.v (.slice none 0 0)]))⟩
        rw [rens_app, rens0 hp]; rfl
      · exact wfs_app (wfs_mono (Nat.zero_le _) p hp) rfl
      · rintro r1 M1 ⟨s', ⟨hrw, hq⟩, rfl⟩
        have e1 : ∀ σ : Nat → Nat, ren σ r1 = r1 := fun σ => ren_id (n := 0) (fun _ h => absurd h (by omega)) r1 hrw
        rw [e1]
        refine ⟨s', hq, hrw, ?_⟩
        have hlen : (M.set k (nilT p)).length = M.length := by simp
        show ((M.set k (nilT p)).set k ⟨true, .row (rens (reloc (sig 1 [k]) 2 (M.set k (nilT p)).length) (p' ++ [.ns s'.b 3 3 s'.len s'.cap]))⟩) ++ [goneE, recT' s'] = _
        rw [hlen, List.set_set, rens_app, rens0 hp']; rfl
    have hE : Eqv M (M.set k (nilT p)) := by
      refine ⟨by simp, fun i e hi => ?_, fun i e hi => ?_⟩
      · rw [List.getElem?_set] at hi
        by_cases q : k = i
        · subst q
          rw [if_pos rfl, if_pos hkl] at hi
          cases hi
          refine ⟨_, hk, rfl, fun _ => ⟨rfl, fun β => ?_, rfl⟩, fun h => by cases h⟩
          show vals β (p ++ [.v (.slice none 0 0)]) = vals β (p ++ [.ns s.b j 3 s.len s.cap])
          rw [vals_app, vals_app, hb]; rfl
        · rw [if_neg q] at hi
          exact ⟨e, hi, rfl, fun h => ⟨h, fun _ => rfl, rfl⟩, fun _ => rfl⟩
      · rw [List.length_set]
        rw [List.getElem?_set] at hi
        by_cases q : k = i
        · subst q
          rw [if_pos rfl, if_pos hkl] at hi
          cases hi
          exact wfs_app (wfs_mono (Nat.zero_le _) p hp) rfl
        · rw [if_neg q] at hi
          exact hR.wf i e hi
    have hargs : SV.wf.wfs (M.set k (nilT p)).length (.ptr k 0 :: rest) = true := by
      rw [List.length_set]; exact hw
    refine Spec.re (Spec.pre h2 (fun _ => rfl) hargs hE) ?_ β w hR hw
    rintro r M1 ⟨s', hq, hrw, rfl⟩
    have hlen2 : ((M.set k (rowT p' s' M.length)).set j goneE ++ [recT' s']).length = M.length + 1 := by simp
    have g1 : ∀ i, i < M.length → (M.set k (rowT p' s' (M.length + 1)) ++ [goneE, recT' s'])[i]? = (M.set k (rowT p' s' (M.length + 1)))[i]? := fun i hi => List.getElem?_append_left (by simp; exact hi)
    have g2 : ∀ i, i < M.length → ((M.set k (rowT p' s' M.length)).set j goneE ++ [recT' s'])[i]? = ((M.set k (rowT p' s' M.length)).set j goneE)[i]? := fun i hi => List.getElem?_append_left (by simp; exact hi)
    have g3 : ((M.set k (rowT p' s' M.length)).set j goneE ++ [recT' s'])[M.length]? = some (recT' s') := by
      rw [List.getElem?_append_right (by simp)]; simp
    have g4 : (M.set k (rowT p' s' (M.length + 1)) ++ [goneE, recT' s'])[M.length + 1]? = some (recT' s') := by
      rw [List.getElem?_append_right (by simp)]; simp
    have cs : ∀ i e, ((M.set k (rowT p' s' M.length)).set j goneE ++ [recT' s'])[i]? = some e → (i = M.length ∧ e = recT' s') ∨ (i = j ∧ e = goneE) ∨ (i = k ∧ e = rowT p' s' M.length) ∨ (i < M.length ∧ i ≠ j ∧ i ≠ k ∧ M[i]? = some e) := fun i e he => by
      rcases Nat.lt_or_ge i M.length with q | q
      · rw [g2 i q, List.getElem?_set] at he
        by_cases q1 : j = i
        · subst q1
          rw [if_pos rfl, if_pos (by simp; exact q)] at he
          cases he
          exact .inr (.inl ⟨rfl, rfl⟩)
        · rw [if_neg q1, List.getElem?_set] at he
          by_cases q2 : k = i
          · subst q2
            rw [if_pos rfl, if_pos q] at he
            cases he
            exact .inr (.inr (.inl ⟨rfl, rfl⟩))
          · rw [if_neg q2] at he
            exact .inr (.inr (.inr ⟨q, fun h => q1 h.symm, fun h => q2 h.symm, he⟩))
      · have := lt_of_get he
        rw [hlen2] at this
        obtain rfl : i = M.length := by omega
        rw [g3] at he
        cases he
        exact .inl ⟨rfl, rfl⟩
    have hk1 : (M.set k (rowT p' s' (M.length + 1)) ++ [goneE, recT' s'])[k]? = some (rowT p' s' (M.length + 1)) := by rw [g1 k hkl]; exact List.getElem?_set_self hkl
    have ho1 : ∀ i, i < M.length → i ≠ k → (M.set k (rowT p' s' (M.length + 1)) ++ [goneE, recT' s'])[i]? = M[i]? := fun i hi hik => by rw [g1 i hi, List.getElem?_set_ne (fun h => hik h.symm)]
    let σ : Nat → Nat := fun i => if i = M.length then M.length + 1 else i
    have s1 : ∀ i, i < M.length → σ i = i := fun i hi => if_neg (by omega)
    have s2 : σ M.length = M.length + 1 := if_pos rfl
    refine ⟨r, (M.set k (rowT p' s' M.length)).set j goneE ++ [recT' s'], σ, ⟨s1, by rw [hlen2]; omega, fun i e he hh => ?_, fun i i' x y hx hy hij hr hxh hyh => ?_, fun i e he => ?_, fun i e he hr => ?_, fun i e hi he => ?_, fun i e hi he => ?_, fun β => val0 hrw, wf_mono (Nat.zero_le _) r hrw⟩, ⟨s', hq, rfl⟩⟩
    · rcases cs i e he with ⟨rfl, rfl⟩ | ⟨rfl, rfl⟩ | ⟨rfl, rfl⟩ | ⟨q1, q2, q3, q4⟩
      · rw [s2]; exact ⟨_, g4, hh, rfl, fun _ => rfl, rfl⟩
      · cases hh
      · rw [s1 _ hkl]
        refine ⟨_, hk1, rfl, rfl, fun β => ?_, rfl⟩
        show vals (fun i => β (σ i)) (p' ++ [.ns s'.b M.length 3 s'.len s'.cap]) = vals β (p' ++ [.ns s'.b (M.length + 1) 3 s'.len s'.cap])
        rw [vals_app, vals_app, vals0 (β := fun i => β (σ i)) (β' := β) hp']
        congr 1
        show [val _ (.ns _ _ _ _ _)] = [val _ (.ns _ _ _ _ _)]
        simp only [val, s2]
      · rw [s1 _ q1]
        refine ⟨e, by rw [ho1 i q1 q3]; exact q4, hh, rfl, fun β => ?_, rfl⟩
        exact cells_agree (n := M.length) (fun i hi => by simp only [s1 i hi]) _ (hR.wf i e q4)
    · have hi := lt_of_get hx
      have hi' := lt_of_get hy
      rw [hlen2] at hi hi'
      show σ i ≠ σ i'
      simp only [σ]
      split <;> split <;> omega
    · rcases cs i e he with ⟨rfl, rfl⟩ | ⟨rfl, rfl⟩ | ⟨rfl, rfl⟩ | ⟨q1, q2, q3, q4⟩
      · rfl
      · rfl
      · rw [hlen2]
        refine wfs_app (wfs_mono (Nat.zero_le _) p' hp') ?_
        simp [SV.wf.wfs, SV.wf, Nat.blt_eq]
      · exact cwf_mono (by rw [hlen2]; omega) _ (hR.wf i e q4)
    · rcases cs i e he with ⟨rfl, rfl⟩ | ⟨rfl, rfl⟩ | ⟨rfl, rfl⟩ | ⟨q1, q2, q3, q4⟩
      · rw [s2]; exact ⟨_, g4, rfl⟩
      · rw [s1 _ hjl]; exact ⟨_, by rw [ho1 _ hjl (fun h => hne h.symm)]; exact hj, rfl⟩
      · rw [s1 _ hkl]; exact ⟨_, hk1, rfl⟩
      · rw [s1 _ q1]; exact ⟨e, by rw [ho1 i q1 q3]; exact q4, hr⟩
    · by_cases q1 : i = k
      · subst q1
        rw [hk1] at he
        cases he
        exact ⟨_, by rw [g2 i hkl, List.getElem?_set_ne (fun h => hne h.symm)]; exact List.getElem?_set_self hkl, fun h => by cases h⟩
      · rw [ho1 i hi q1] at he
        by_cases q2 : i = j
        · subst q2
          rw [hj] at he
          cases he
          exact ⟨_, by rw [g2 i hjl]; exact List.getElem?_set_self (by simp; exact hjl), fun h => by cases h⟩
        · exact ⟨e.c, by rw [g2 i hi, List.getElem?_set_ne (fun h => q2 h.symm), List.getElem?_set_ne (fun h => q1 h.symm)]; exact he, fun _ => rfl⟩
    · rcases cs i e he with ⟨rfl, rfl⟩ | ⟨rfl, rfl⟩ | ⟨rfl, rfl⟩ | ⟨q1, q2, q3, q4⟩
      · rfl
      · rfl
      · rfl
      · omega
end Go.Proofs.YtedcileokcbohaaDoor
