/-
  link: the library's calls on a row that may be nil. No statement is proved here.
-/
import Derived.Test.YtedcileokcbohaaDoorLiH
namespace Go.Proofs.YtedcileokcbohaaDoor
open Go.RowKit
set_option linter.unusedVariables false
set_option linter.unusedSimpArgs false
set_option maxRecDepth 100000

theorem Spec.of_pok {P : Program} {G M : Mm} {f : Nat} {c : List SV → List Cont → Option (Bool × SV)} {args : List SV} {r0 : SV} (h : POk P G f c) (hc : c args (args.map (tgt M)) = some (true, r0)) (hr : r0.wf M.length = true) : Spec P G f args M (fun r M' => r = r0 ∧ M' = M) := fun β w hR hw =>
  (h _ _ _ hc β M w hR hw rfl).mono fun v w' ⟨e, hF⟩ => ⟨β, M, r0, Ext.step hF, hR.step hF, ⟨hr, e⟩, rfl, rfl⟩
theorem Spec.imp {P : Program} {G M : Mm} {f : Nat} {args : List SV} {K K' : SV → Mm → Prop} (hS : Spec P G f args M K) (h : ∀ r M1, K r M1 → K' r M1) : Spec P G f args M K' := fun β w hR hw =>
  (hS β w hR hw).mono fun v w' ⟨β', M', r, h1, h2, h3, h4⟩ => ⟨β', M', r, h1, h2, h3, h _ _ h4⟩
/-- One entry told otherwise. -/
structure Tell (n : Nat) (e1 e2 : Ent) : Prop where
  rw : e2.rw = e1.rw
  ro : e1.rw = true
  at' : e2.c.here = true → e1.c.here = true ∧ (∀ β : Nat → Nat, e2.c.cells β = e1.c.cells β) ∧ e2.c.shp = e1.c.shp
  wf : e2.c.wf n = true
theorem Eqv.refl {G M : Mm} {β : Nat → Nat} {w : World} (hR : Rel G β M w) : Eqv M M := ⟨rfl, fun k e he => ⟨e, he, rfl, fun h => ⟨h, fun _ => rfl, rfl⟩, fun _ => rfl⟩, hR.wf⟩
theorem Eqv.set {G M : Mm} {β : Nat → Nat} {w : World} (hR : Rel G β M w) {k : Nat} {e1 e2 : Ent} (hk : M[k]? = some e1) (h : Tell M.length e1 e2) : Eqv M (M.set k e2) := by
  have hkl := lt_of_get hk
  refine ⟨by simp, fun i e hi => ?_, fun i e hi => ?_⟩
  · rw [List.getElem?_set] at hi
    by_cases q : k = i
    · subst q
      rw [if_pos rfl, if_pos hkl] at hi
      cases hi
      exact ⟨e1, hk, h.rw.symm, h.at', fun hf => by rw [h.ro] at hf; cases hf⟩
    · rw [if_neg q] at hi
      exact ⟨e, hi, rfl, fun h => ⟨h, fun _ => rfl, rfl⟩, fun _ => rfl⟩
  · rw [List.length_set]
    rw [List.getElem?_set] at hi
    by_cases q : k = i
    · subst q
      rw [if_pos rfl, if_pos hkl] at hi
      cases hi
      exact h.wf
    · rw [if_neg q] at hi
      exact hR.wf i e hi
theorem Mv.set {G M : Mm} {β : Nat → Nat} {w : World} (hR : Rel G β M w) {k : Nat} {e1 e2 : Ent} {m1 m2 : Mm} {r r2 : SV} (hk : k < M.length) (h : Tell (M.length + m2.length) e1 e2) (hm : m1.length = m2.length) (ht : ∀ (i : Nat) (t1 t2 : Ent), m1[i]? = some t1 → m2[i]? = some t2 → Tell (M.length + m2.length) t1 t2) (hv : ∀ β : Nat → Nat, Proofs.YtedcileokcbohaaDoor.val β r = Proofs.YtedcileokcbohaaDoor.val β r2) (hr : r2.wf (M.length + m2.length) = true) : Mv M.length (M.set k e1 ++ m1) (M.set k e2 ++ m2) (fun i => i) r r2 := by
  have hlen : (M.set k e2 ++ m2).length = M.length + m2.length := by simp
  have cs : ∀ i e, (M.set k e2 ++ m2)[i]? = some e → ∃ e', (M.set k e1 ++ m1)[i]? = some e' ∧ (Tell (M.length + m2.length) e' e ∨ (e' = e ∧ M[i]? = some e)) := fun i e he => by
    rcases Nat.lt_or_ge i M.length with q | q
    · have g1 : (M.set k e1 ++ m1)[i]? = (M.set k e1)[i]? := List.getElem?_append_left (by simp; exact q)
      rw [List.getElem?_append_left (by simp; exact q), List.getElem?_set] at he
      by_cases q1 : k = i
      · subst q1
        rw [if_pos rfl, if_pos q] at he
        cases he
        exact ⟨e1, g1.trans (List.getElem?_set_self q), .inl h⟩
      · rw [if_neg q1] at he
        exact ⟨e, g1.trans ((List.getElem?_set_ne q1).trans he), .inr ⟨rfl, he⟩⟩
    · have g1 : (M.set k e1 ++ m1)[i]? = m1[i - M.length]? := by rw [List.getElem?_append_right (by simp; exact q), List.length_set]
      rw [List.getElem?_append_right (by simp; exact q), List.length_set] at he
      have hi := lt_of_get he
      have h1 : m1[i - M.length]? = some (m1[i - M.length]'(by omega)) := List.getElem?_eq_getElem (by omega)
      exact ⟨_, g1.trans h1, .inl (ht _ _ _ h1 he)⟩
  refine ⟨fun _ _ => rfl, by rw [hlen]; omega, fun i e he hh => ?_, fun i j x y _ _ hij _ _ _ => hij, fun i e he => ?_, fun i e he hr => ?_, fun i e hi he => ?_, fun i e hi he => ?_, hv, by rw [hlen]; exact hr⟩
  · obtain ⟨e', h1, h2⟩ := cs i e he
    rcases h2 with h2 | ⟨rfl, h2⟩
    · obtain ⟨h3, h4, h5⟩ := h2.at' hh
      exact ⟨e', h1, h3, h2.rw.symm, h4, h5⟩
    · exact ⟨e', h1, hh, rfl, fun _ => rfl, rfl⟩
  · rw [hlen]
    obtain ⟨e', h1, h2⟩ := cs i e he
    rcases h2 with h2 | ⟨rfl, h2⟩
    · exact h2.wf
    · exact cwf_mono (by omega) _ (hR.wf i _ h2)
  · obtain ⟨e', h1, h2⟩ := cs i e he
    rcases h2 with h2 | ⟨rfl, h2⟩
    · exact ⟨e', h1, h2.ro⟩
    · exact ⟨e', h1, hr⟩
  · have hi2 : i < (M.set k e2 ++ m2).length := by rw [hlen]; omega
    obtain ⟨e'', he''⟩ : ∃ x, (M.set k e2 ++ m2)[i]? = some x := ⟨_, List.getElem?_eq_getElem hi2⟩
    obtain ⟨e', h1, h2⟩ := cs i e'' he''
    rw [he] at h1
    cases h1
    rcases h2 with h2 | ⟨rfl, h2⟩
    · exact ⟨e''.c, by rw [he'', ← h2.rw], fun hf => by rw [h2.ro] at hf; cases hf⟩
    · exact ⟨e.c, by rw [he''], fun _ => rfl⟩
  · obtain ⟨e', h1, h2⟩ := cs i e he
    rcases h2 with h2 | ⟨rfl, h2⟩
    · rw [h2.rw]; exact h2.ro
    · have := lt_of_get h2
      omega
def unN : Cont → Option (Bool × List Nr)
  | .nrec b t [.u32, .s, .u64] l => bif Nat.beq t 57 then some (b, l) else none
  | _ => none
theorem unN_ok {c : Cont} {b : Bool} {l : List Nr} (h : unN c = some (b, l)) : c = .nrec b 57 NF l := by
  unfold unN at h
  split at h
  · rename_i b' t m
    cases ht : Nat.beq t 57 <;> rw [ht] at h
    · cases h
    · obtain rfl := Nat.eq_of_beq_eq_true ht
      cases h; rfl
  · cases h
def nrE (b : Bool) (l : List Nr) : Ent := ⟨true, .nrec b 57 NF l⟩
theorem tell_rn {n : Nat} {l : List Nr} : Tell n (nrE false l) (rowE true l) := ⟨rfl, rfl, fun _ => ⟨rfl, fun _ => rfl, by simp [nrE, rowE, Cont.shp]⟩, rfl⟩
theorem tell_nr {n : Nat} {l : List Nr} : Tell n (rowE true l) (nrE false l) := ⟨rfl, rfl, fun _ => ⟨rfl, fun _ => rfl, by simp [nrE, rowE, Cont.shp]⟩, rfl⟩
theorem tell_no {n : Nat} {l l' : List Nr} {b : Bool} : Tell n (nrE b l) (nrE true l') := ⟨rfl, rfl, (fun h => by cases h), rfl⟩
theorem tell_gone {n : Nat} {b : Bool} {l : List Nr} : Tell n (nrE b l) goneE := ⟨rfl, rfl, (fun h => by cases h), rfl⟩
theorem tell_same {n : Nat} : Tell n goneE goneE := ⟨rfl, rfl, (fun h => by cases h), rfl⟩
def cDfN : List SV → Mm → (SV → Mm → Prop) → Prop
  | [.ns b k sz len cap, .fn f [.ptr bx off]], M, K => match M[k]?, M[bx]? with
    | some ⟨true, c⟩, some ⟨_, .row [.w64 n]⟩ => match unN c with
      | some (b', l) => b' = b ∧ vsome ((!b || Nat.beq len 0) && (Nat.beq sz 3 && (Nat.ble len l.length && (Nat.ble len cap && (Nat.ble len 1000 && (Nat.beq f 59 && Nat.beq off 0)))))) (setK M k (nrE b (delL n len l)) fun M1 => K (.ns b k 3 (kept n (l.take len)).length cap) M1)
      | none => False
    | _, _ => False
  | _, _, _ => False
theorem dfN_ok : COk Tryd.prog G 58 cDfN := by
  intro args M K h β w hR hw
  unfold cDfN at h
  split at h
  · rename_i b k sz len cap f bx off
    split at h
    · rename_i c rb n hk hb
      split at h
      · rename_i b' l hl
        obtain rfl := unN_ok hl
        obtain ⟨rfl, h⟩ := h
        replace h := vsome_iff.1 h
        simp only [Bool.and_eq_true] at h
        obtain ⟨⟨h0, h3, h4, h5, h6, h7, h8⟩, h⟩ := h
        obtain rfl := Nat.eq_of_beq_eq_true h3
        obtain rfl := Nat.eq_of_beq_eq_true h7
        obtain rfl := Nat.eq_of_beq_eq_true h8
        have h4' := Nat.le_of_ble_eq_true h4
        have h5' := Nat.le_of_ble_eq_true h5
        have h6' := Nat.le_of_ble_eq_true h6
        have hkl := lt_of_get hk
        have hbl := lt_of_get hb
        have hne : k ≠ bx := fun e => by subst e; rw [hk] at hb; cases hb
        rw [setK_eq] at h
        have hkn : (SV.ns b' k 3 (kept n (l.take len)).length cap).wf (M.length + ([] : Mm).length) = true := by simp [SV.wf, Nat.blt_eq]; exact hkl
        cases b'
        · have hS : Spec Tryd.prog G 58 [.rs k 0 0 3 len cap, .fn 59 [.ptr bx 0]] (M.set k (rowE true l)) (fun r M1 => r = .rs k 0 0 3 (kept n (l.take len)).length cap ∧ M1 = M.set k (rowE true (delL n len l))) := by
            refine df_ok _ _ _ ?_
            unfold cDf
            dsimp only
            have g1 : (M.set k (rowE true l))[k]? = some ⟨true, .recs (some 57) NF [] l⟩ := List.getElem?_set_self hkl
            have g2 : (M.set k (rowE true l))[bx]? = some ⟨rb, .row [.w64 n]⟩ := by rw [List.getElem?_set_ne hne]; exact hb
            rw [g1, g2]
            refine vsome_iff.2 ⟨?_, ?_⟩
            · simp only [Bool.and_eq_true]; exact ⟨rfl, rfl, rfl, h4, h5, ble_of (by omega), rfl, rfl⟩
            · rw [setK_eq]; exact ⟨rfl, by rw [List.set_set]⟩
          refine Spec.re (Spec.pre hS (fun β => rfl) ?_ (Eqv.set hR hk tell_rn)) ?_ β w hR hw
          · rw [List.length_set]
            show (Nat.blt k M.length && (SV.wf.wfs M.length [.ptr bx 0] && true)) = true
            simp [SV.wf.wfs, SV.wf, Nat.blt_eq]; exact ⟨hkl, hbl⟩
          · rintro r M1 ⟨rfl, rfl⟩
            refine ⟨_, _, fun i => i, ?_, h⟩
            have := Mv.set hR (m1 := []) (m2 := []) (k := k) (e1 := rowE true (delL n len l)) (e2 := nrE false (delL n len l)) (r := .rs k 0 0 3 (kept n (l.take len)).length cap) (r2 := .ns false k 3 (kept n (l.take len)).length cap) hkl tell_nr rfl (fun i t1 t2 h1 _ => by cases h1) (fun _ => rfl) hkn
            rwa [List.append_nil, List.append_nil] at this
        · have hlen : len = 0 := Nat.eq_of_beq_eq_true h0
          subst hlen
          have hS : Spec Tryd.prog G 58 [.v (.slice none 0 0), .fn 59 [.ptr bx 0]] M (fun r M1 => r = .v (.slice none 0 0) ∧ M1 = M) := by
            refine df_ok _ _ _ ?_
            show (match M[bx]? with
              | some ⟨_, .row [.w64 _]⟩ => vsome (Nat.beq 59 59 && Nat.beq 0 0) _
              | _ => False)
            rw [hb]
            exact vsome_iff.2 ⟨rfl, rfl, rfl⟩
          refine Spec.re (Spec.pre (args := [.ns true k 3 0 cap, .fn 59 [.ptr bx 0]]) hS (fun β => rfl) ?_ (Eqv.refl hR)) ?_ β w hR hw
          · show (true && (SV.wf.wfs M.length [.ptr bx 0] && true)) = true
            simp [SV.wf.wfs, SV.wf, Nat.blt_eq]; exact hbl
          · rintro r M1 ⟨rfl, rfl⟩
            refine ⟨_, _, fun i => i, ?_, h⟩
            have := Mv.set hR (m1 := []) (m2 := []) (k := k) (e1 := nrE true l) (e2 := nrE true (delL n 0 l)) (r := .v (.slice none 0 0)) (r2 := .ns true k 3 (kept n (l.take 0)).length cap) hkl tell_no rfl (fun i t1 t2 h1 _ => by cases h1) (fun _ => rfl) hkn
            rw [List.append_nil, List.append_nil, set_same (e := nrE true l) hk] at this
            exact this
      · exact h.elim
    · exact h.elim
  · exact h.elim
def cBsN : List SV → Mm → (SV → Mm → Prop) → Prop
  | [.ns b k sz len cap, .w32 a, .fn f []], M, K => match M[k]? with
    | some ⟨true, c⟩ => match unN c with
      | some (b', l) => b' = b ∧ vsome ((!b || Nat.beq len 0) && (Nat.beq sz 3 && (Nat.ble len l.length && (Nat.ble len 1000 && (Nat.beq f 61 && sortB (l.take len)))))) (K (.tup [.i (cntL a (l.take len) : Nat), .b (isL a (l.take len))]) M)
      | none => False
    | _ => False
  | _, _, _ => False
theorem bsN_ok : COk Tryd.prog G 60 cBsN := by
  intro args M K h β w hR hw
  unfold cBsN at h
  split at h
  · rename_i b k sz len cap a f
    split at h
    · rename_i c hk
      split at h
      · rename_i b' l hl
        obtain rfl := unN_ok hl
        obtain ⟨rfl, h⟩ := h
        replace h := vsome_iff.1 h
        simp only [Bool.and_eq_true] at h
        obtain ⟨⟨h0, h3, h4, h6, h7, h8⟩, h⟩ := h
        obtain rfl := Nat.eq_of_beq_eq_true h3
        obtain rfl := Nat.eq_of_beq_eq_true h7
        have h4' := Nat.le_of_ble_eq_true h4
        have h6' := Nat.le_of_ble_eq_true h6
        have hkl := lt_of_get hk
        cases b'
        · have g1 : (M.set k (rowE true l))[k]? = some ⟨true, .recs (some 57) NF [] l⟩ := List.getElem?_set_self hkl
          have hS : Spec Tryd.prog G 60 [.rs k 0 0 3 len cap, .w32 a, .fn 61 []] (M.set k (rowE true l)) (fun r M1 => r = .tup [.i (cntL a (l.take len) : Nat), .b (isL a (l.take len))] ∧ M1 = M.set k (rowE true l)) := by
            refine Spec.of_pok bs_ok ?_ rfl
            show cBs [.rs k 0 0 3 len cap, .w32 a, .fn 61 []] [tgt (M.set k (rowE true l)) (.rs k 0 0 3 len cap), _, _] = _
            have : tgt (M.set k (rowE true l)) (.rs k 0 0 3 len cap) = .recs (some 57) NF [] l := by simp only [tgt, g1]
            rw [this]
            show some (_, _) = some (true, _)
            congr 2
            simp only [Bool.and_eq_true]; exact ⟨rfl, rfl, rfl, h4, ble_of (by omega), rfl, h8⟩
          refine Spec.re (Spec.pre hS (fun β => rfl) ?_ (Eqv.set hR hk tell_rn)) ?_ β w hR hw
          · rw [List.length_set]
            show (Nat.blt k M.length && true) = true
            simp [Nat.blt_eq]; exact hkl
          · rintro r M1 ⟨rfl, rfl⟩
            refine ⟨_, _, fun i => i, ?_, h⟩
            have := Mv.set hR (m1 := []) (m2 := []) (k := k) (e1 := rowE true l) (e2 := nrE false l) (r := .tup [.i (cntL a (l.take len) : Nat), .b (isL a (l.take len))]) (r2 := .tup [.i (cntL a (l.take len) : Nat), .b (isL a (l.take len))]) hkl tell_nr rfl (fun i t1 t2 h1 _ => by cases h1) (fun _ => rfl) rfl
            rw [List.append_nil, List.append_nil, set_same (e := nrE false l) hk] at this
            exact this
        · have hlen : len = 0 := Nat.eq_of_beq_eq_true h0
          subst hlen
          have hS : Spec Tryd.prog G 60 [.v (.slice none 0 0), .w32 a, .fn 61 []] M (fun r M1 => r = .tup [.i 0, .b false] ∧ M1 = M) := Spec.of_pok bs_ok rfl rfl
          exact Spec.imp (Spec.pre (args := [.ns true k 3 0 cap, .w32 a, .fn 61 []]) hS (fun β => rfl) rfl (Eqv.refl hR)) (fun r M1 ⟨h1, h2⟩ => by subst h1; subst h2; exact h) β w hR hw
      · exact h.elim
    · exact h.elim
  · exact h.elim
end Go.Proofs.YtedcileokcbohaaDoor
