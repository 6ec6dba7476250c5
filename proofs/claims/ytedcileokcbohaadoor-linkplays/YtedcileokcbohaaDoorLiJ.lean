/-
  link: one more row, copies of rows, where the row may be nil; a table's own words. No statement is proved here.
-/
import Derived.Test.YtedcileokcbohaaDoorLiI
import Derived.Test.YtedcileokcbohaaDoorLiB
namespace Go.Proofs.YtedcileokcbohaaDoor
open Go.RowKit
set_option linter.unusedVariables false
set_option linter.unusedSimpArgs false
set_option maxRecDepth 100000

def cInsN : List SV → Mm → (SV → Mm → Prop) → Prop
  | [.ns b a sz len cap, .i z, .rs v bb eb sb lb cb], M, K => match M[a]?, M[v]? with
    | some ⟨true, ca⟩, some ⟨true, cx⟩ => match unN ca, unX cx with
      | some (b', l), some x => b' = b ∧ vsome ((!b || Nat.beq len 0) && (Nat.beq sz 3 && (Nat.beq bb 0 && (Nat.beq eb 0 && (Nat.beq sb 3 && (Nat.beq lb 1 && (Nat.beq cb 1 && (Nat.beq l.length cap && (Nat.ble len cap && (Nat.ble len 1000 && (ile 0 z && ile z (len : Nat))))))))))))
          (∀ (cap' : Nat) (l' : List Nr), l'.take (len + 1) = insL z.toNat x (l.take len) → l'.length = cap' → setK M a goneE fun M1 => snocK M1 (nrE false l') fun M2 => K (.ns false M.length 3 (len + 1) cap') M2)
      | _, _ => False
    | _, _ => False
  | _, _, _ => False
theorem insN_ok : COk Tryd.prog G 62 cInsN := by
  intro args M K h β w hR hw
  unfold cInsN at h
  split at h
  · rename_i b a sz len cap z v bb eb sb lb cb
    split at h
    · rename_i ca cx ha hv
      split at h
      · rename_i b' l x hl hx
        obtain rfl := unN_ok hl
        obtain rfl := unX_ok hx
        obtain ⟨rfl, h⟩ := h
        replace h := vsome_iff.1 h
        simp only [Bool.and_eq_true] at h
        obtain ⟨⟨h0, h3, h4, h5, h6, h7, h8, h9, h10, h11, h12, h13⟩, h⟩ := h
        obtain rfl := Nat.eq_of_beq_eq_true h3
        obtain rfl := Nat.eq_of_beq_eq_true h4
        obtain rfl := Nat.eq_of_beq_eq_true h5
        obtain rfl := Nat.eq_of_beq_eq_true h6
        obtain rfl := Nat.eq_of_beq_eq_true h7
        obtain rfl := Nat.eq_of_beq_eq_true h8
        have hal := lt_of_get ha
        have hvl := lt_of_get hv
        have hne : a ≠ v := fun e => by subst e; rw [ha] at hv; cases hv
        have hkn : ∀ cap', (SV.ns false M.length 3 (len + 1) cap').wf (M.length + 1) = true := fun cap' => by simp [SV.wf, Nat.blt_eq]
        cases b'
        · have hS : Spec Tryd.prog G 62 [.rs a 0 0 3 len cap, .i z, .rs v 0 0 3 1 1] (M.set a (rowE true l)) (fun r M1 => ∃ (cap' : Nat) (l' : List Nr), l'.take (len + 1) = insL z.toNat x (l.take len) ∧ l'.length = cap' ∧ r = .rs M.length 0 0 3 (len + 1) cap' ∧ M1 = M.set a goneE ++ [rowE true l']) := by
            refine ins_ok _ _ _ ?_
            unfold cIns
            dsimp only
            have g1 : (M.set a (rowE true l))[a]? = some ⟨true, .recs (some 57) NF [] l⟩ := List.getElem?_set_self hal
            have g2 : (M.set a (rowE true l))[v]? = some ⟨true, .recs (some 57) NF [] [x]⟩ := by rw [List.getElem?_set_ne hne]; exact hv
            rw [g1, g2]
            refine vsome_iff.2 ⟨?_, fun cap' l' q1 q2 => ?_⟩
            · simp only [Bool.and_eq_true]
              refine ⟨?_, rfl, rfl, rfl, rfl, rfl, rfl, rfl, rfl, h9, h10, h11, h12, h13⟩
              cases hq : Nat.beq a v
              · rfl
              · exact absurd (Nat.eq_of_beq_eq_true hq) hne
            · rw [setK_eq, snocK_eq, List.set_set, List.length_set]
              exact ⟨cap', l', q1, q2, rfl, rfl⟩
          refine Spec.re (Spec.pre hS (fun β => rfl) ?_ (Eqv.set hR ha tell_rn)) ?_ β w hR hw
          · rw [List.length_set]
            show (Nat.blt a M.length && (true && (Nat.blt v M.length && true))) = true
            simp [Nat.blt_eq]; exact ⟨hal, hvl⟩
          · rintro r M1 ⟨cap', l', q1, q2, rfl, rfl⟩
            have := h cap' l' q1 q2
            rw [setK_eq, snocK_eq] at this
            refine ⟨_, _, fun i => i, ?_, this⟩
            exact Mv.set hR (m1 := [rowE true l']) (m2 := [nrE false l']) (k := a) (e1 := goneE) (e2 := goneE) hal tell_same rfl (fun i t1 t2 h1 h2 => by
              match i, h1, h2 with
              | 0, h1, h2 => cases h1; cases h2; exact tell_nr
              | i + 1, h1, _ => cases h1) (fun _ => rfl) (hkn cap')
        · have hlen : len = 0 := Nat.eq_of_beq_eq_true h0
          subst hlen
          have hz : z = 0 := by
            rw [ile_eq] at h12 h13
            have := of_decide_eq_true h12
            have := of_decide_eq_true h13
            omega
          subst hz
          have hS : Spec Tryd.prog G 62 [.v (.slice none 0 0), .i 0, .rs v 0 0 3 1 1] M (fun r M1 => ∃ (cap' : Nat) (l' : List Nr), l'.take 1 = [x] ∧ l'.length = cap' ∧ r = .rs M.length 0 0 3 1 cap' ∧ M1 = M ++ [rowE true l']) := by
            refine ins_ok _ _ _ ?_
            show (match M[v]? with
              | some ⟨true, cx⟩ => match unX cx with
                | some x => vsome ((0 : Int) == 0 && (Nat.beq 0 0 && (Nat.beq 0 0 && (Nat.beq 3 3 && (Nat.beq 1 1 && Nat.beq 1 1)))))
                  (∀ (cap' : Nat) (l' : List Nr), l'.take 1 = [x] → l'.length = cap' → snocK M (rowE true l') fun M2 => _)
                | _ => False
              | _ => False)
            rw [hv]
            refine vsome_iff.2 ⟨rfl, fun cap' l' q1 q2 => ?_⟩
            rw [snocK_eq]
            exact ⟨cap', l', q1, q2, rfl, rfl⟩
          refine Spec.re (Spec.pre (args := [.ns true a 3 0 cap, .i 0, .rs v 0 0 3 1 1]) hS (fun β => rfl) ?_ (Eqv.refl hR)) ?_ β w hR hw
          · show (true && (true && (Nat.blt v M.length && true))) = true
            simp [Nat.blt_eq]; exact hvl
          · rintro r M1 ⟨cap', l', q1, q2, rfl, rfl⟩
            have := h cap' l' (by rw [q1]; rfl) q2
            rw [setK_eq, snocK_eq] at this
            refine ⟨_, _, fun i => i, ?_, this⟩
            have hm := Mv.set hR (m1 := [rowE true l']) (m2 := [nrE false l']) (k := a) (e1 := nrE true l) (e2 := goneE) (r := .rs M.length 0 0 3 1 cap') (r2 := .ns false M.length 3 1 cap') hal tell_gone rfl (fun i t1 t2 h1 h2 => by
              match i, h1, h2 with
              | 0, h1, h2 => cases h1; cases h2; exact tell_nr
              | i + 1, h1, _ => cases h1) (fun _ => rfl) (hkn cap')
            rw [set_same (e := nrE true l) ha] at hm
            exact hm
      · exact h.elim
    · exact h.elim
  · exact h.elim
def cClnN : List SV → Mm → (SV → Mm → Prop) → Prop
  | [.ns b a sz len cap], M, K => match M[a]? with
    | some ⟨true, ca⟩ => match unN ca with
      | some (b', l) => b' = b ∧ vsome ((!b || Nat.beq len 0) && (Nat.beq sz 3 && (Nat.ble len l.length && Nat.ble len 1000)))
          (∀ (cap' : Nat) (l' : List Nr), l'.take len = l.take len → l'.length = cap' → snocK M (nrE b l') fun M2 => K (.ns b M.length 3 len cap') M2)
      | none => False
    | _ => False
  | _, _, _ => False
theorem clnN_ok : COk Tryd.prog G 50 cClnN := by
  intro args M K h β w hR hw
  unfold cClnN at h
  split at h
  · rename_i b a sz len cap
    split at h
    · rename_i ca ha
      split at h
      · rename_i b' l hl
        obtain rfl := unN_ok hl
        obtain ⟨rfl, h⟩ := h
        replace h := vsome_iff.1 h
        simp only [Bool.and_eq_true] at h
        obtain ⟨⟨h0, h3, h4, h5⟩, h⟩ := h
        obtain rfl := Nat.eq_of_beq_eq_true h3
        have hal := lt_of_get ha
        cases b'
        · have hS : Spec Tryd.prog G 50 [.rs a 0 0 3 len cap] (M.set a (rowE true l)) (fun r M1 => ∃ (cap' : Nat) (l' : List Nr), l'.take len = l.take len ∧ l'.length = cap' ∧ r = .rs M.length 0 0 3 len cap' ∧ M1 = M.set a (rowE true l) ++ [rowE true l']) := by
            refine cln_ok _ _ _ ?_
            unfold cCln
            dsimp only
            have g1 : (M.set a (rowE true l))[a]? = some ⟨true, .recs (some 57) NF [] l⟩ := List.getElem?_set_self hal
            rw [g1]
            refine vsome_iff.2 ⟨?_, fun cap' l' q1 q2 => ?_⟩
            · simp only [Bool.and_eq_true]; exact ⟨rfl, rfl, rfl, h4, h5⟩
            · rw [snocK_eq, List.length_set]
              exact ⟨cap', l', q1, q2, rfl, rfl⟩
          refine Spec.re (Spec.pre hS (fun β => rfl) ?_ (Eqv.set hR ha tell_rn)) ?_ β w hR hw
          · rw [List.length_set]
            show (Nat.blt a M.length && true) = true
            simp [Nat.blt_eq]; exact hal
          · rintro r M1 ⟨cap', l', q1, q2, rfl, rfl⟩
            have := h cap' l' q1 q2
            rw [snocK_eq] at this
            refine ⟨_, _, fun i => i, ?_, this⟩
            have hm := Mv.set hR (m1 := [rowE true l']) (m2 := [nrE false l']) (k := a) (e1 := rowE true l) (e2 := nrE false l) (r := .rs M.length 0 0 3 len cap') (r2 := .ns false M.length 3 len cap') hal tell_nr rfl (fun i t1 t2 h1 h2 => by
              match i, h1, h2 with
              | 0, h1, h2 => cases h1; cases h2; exact tell_nr
              | i + 1, h1, _ => cases h1) (fun _ => rfl) (by simp [SV.wf, Nat.blt_eq])
            rw [set_same (e := nrE false l) ha] at hm
            exact hm
        · have hlen : len = 0 := Nat.eq_of_beq_eq_true h0
          subst hlen
          have hS : Spec Tryd.prog G 50 [.v (.slice none 0 0)] M (fun r M1 => r = .v (.slice none 0 0) ∧ M1 = M) := cln_ok _ _ _ ⟨rfl, rfl⟩
          refine Spec.re (Spec.pre (args := [.ns true a 3 0 cap]) hS (fun β => rfl) rfl (Eqv.refl hR)) ?_ β w hR hw
          rintro r M1 ⟨rfl, rfl⟩
          have := h 0 [] (by simp) rfl
          rw [snocK_eq] at this
          have g3 : (M1 ++ [nrE true []])[M1.length]? = some (nrE true []) := by rw [List.getElem?_append_right (Nat.le_refl _), Nat.sub_self]; rfl
          have cs : ∀ i e, (M1 ++ [nrE true []])[i]? = some e → (i = M1.length ∧ e = nrE true []) ∨ (i < M1.length ∧ M1[i]? = some e) := fun i e he => by
            rcases Nat.lt_or_ge i M1.length with q | q
            · rw [List.getElem?_append_left q] at he; exact .inr ⟨q, he⟩
            · have := lt_of_get he
              rw [List.length_append] at this
              obtain rfl : i = M1.length := by simp at this; omega
              rw [g3] at he; cases he; exact .inl ⟨rfl, rfl⟩
          let σ : Nat → Nat := fun i => if i = M1.length then a else i
          have s1 : ∀ i, i < M1.length → σ i = i := fun i hi => if_neg (by omega)
          have s2 : σ M1.length = a := if_pos rfl
          refine ⟨_, _, σ, ⟨s1, by simp, fun i e he hh => ?_, fun i j x y hx hy hij hr hxh hyh => ?_, fun i e he => ?_, fun i e he hr => ?_, fun i e hi he => ⟨e.c, by rw [List.getElem?_append_left hi]; exact he, fun _ => rfl⟩, fun i e hi he => ?_, fun _ => rfl, by simp [SV.wf, Nat.blt_eq]⟩, this⟩
          · rcases cs i e he with ⟨rfl, rfl⟩ | ⟨q1, q2⟩
            · cases hh
            · rw [s1 i q1]
              exact ⟨e, q2, hh, rfl, fun β => cells_agree (n := M1.length) (fun i hi => by simp only [s1 i hi]) _ (hR.wf i e q2), rfl⟩
          · rcases cs i x hx with ⟨rfl, rfl⟩ | ⟨q1, q2⟩
            · cases hxh
            · rcases cs j y hy with ⟨rfl, rfl⟩ | ⟨q3, q4⟩
              · cases hyh
              · rw [s1 i q1, s1 j q3]; exact hij
          · rcases cs i e he with ⟨rfl, rfl⟩ | ⟨q1, q2⟩
            · rfl
            · exact cwf_mono (by simp) _ (hR.wf i e q2)
          · rcases cs i e he with ⟨rfl, rfl⟩ | ⟨q1, q2⟩
            · rw [s2]; exact ⟨_, ha, rfl⟩
            · rw [s1 i q1]; exact ⟨e, q2, hr⟩
          · rcases cs i e he with ⟨rfl, rfl⟩ | ⟨q1, q2⟩
            · rfl
            · omega
      · exact h.elim
    · exact h.elim
  · exact h.elim
/-- A call that reads the first cells of a block. -/
theorem pureP {P : Program} {f k : Nat} {l m args0 args : List SV} {r0 : SV} (hS : Spec P G f args0 [e0, ⟨false, .row l⟩] (fun r _ => r = r0)) (hargs : args = rens (put1 1 k) args0) (ha : SV.wf.wfs 2 args0 = true) (hr : r0.wf 0 = true) (hl : SV.wf.wfs 0 l = true) {β : Nat → Nat} {M : Mm} {w : World} (hR : Rel G β M w) (hk : ∃ r, M[k]? = some ⟨r, .row (l ++ m)⟩) : CallR P f (vals β args).toArray w (fun v w' => v = val β r0 ∧ Fp0 w w') := by
  obtain ⟨rb, hk⟩ := hk
  have h0 := hR.pre 0 (by show 0 < 1; decide)
  have h00 := hR.all 0 e0 h0 rfl
  have hh := hR.all k _ hk rfl
  let β' : Nat → Nat := fun i => β (put1 1 k i)
  have b0 : β' 0 = β 0 := by show β (put1 1 k 0) = _; unfold put1; rw [if_neg (by decide)]
  have b1 : β' 1 = β k := by show β (put1 1 k 1) = _; unfold put1; rw [if_pos rfl]
  have hR' : Rel G β' [e0, ⟨false, .row l⟩] w := by
    refine ⟨fun i e he hc => ?_, fun i j x y hx hy hij hrw _ _ => ?_, fun g hg => ?_, by show 1 ≤ 2; decide, fun i hi => ?_, hR.ro, fun i e he => ?_⟩
    · match i, he with
      | 0, he => cases he; rw [b0]; exact h00
      | 1, he =>
        cases he
        rw [b1]
        refine ⟨hh.lt, fun j v hv => ?_, (fun h => by cases h), (fun s h => by cases h), (fun h => by cases h), (fun h => by cases h)⟩
        refine hh.cell j v ?_
        show (vals β (l ++ m))[j]? = some v
        have hv' : (vals β' l)[j]? = some v := hv
        rw [vals_app, vals0 (β := β) (β' := β') hl, List.getElem?_append_left (by
          rcases Nat.lt_or_ge j (vals β' l).length with q | q
          · exact q
          · rw [List.getElem?_eq_none q] at hv'; cases hv')]
        exact hv'
      | i + 2, he => cases he
    · match i, hx with
      | 0, hx => cases hx; cases hrw
      | 1, hx => cases hx; cases hrw
      | i + 2, hx => cases hx
    · match g, hg with
      | 0, _ => rw [b0]; exact hR.glob 0 (by show 0 < 1; decide)
      | g + 1, hg => exact absurd hg (by show ¬ g + 1 < 1; omega)
    · match i, hi with
      | 0, _ => rfl
      | i + 1, hi => exact absurd hi (by show ¬ i + 1 < 1; omega)
    · match i, he with
      | 0, he => cases he; rfl
      | 1, he => cases he; exact wfs_mono (Nat.zero_le _) l hl
      | i + 2, he => cases he
  have nor : ∀ b, ¬ rwset β' [e0, ⟨false, .row l⟩] b := fun b hb => by
    obtain ⟨i, e, he, hr', -⟩ := hb
    match i, he with
    | 0, he => cases he; cases hr'
    | 1, he => cases he; cases hr'
    | i + 2, he => cases he
  subst hargs
  rw [vals_ren]
  refine (hS β' w hR' ha).mono fun v w' hq => ?_
  obtain ⟨β1, M1, r, hE, -, ⟨-, rfl⟩, rfl⟩ := hq
  exact ⟨val0 hr, hE.fp.mono fun b _ hb => nor b hb⟩
end Go.Proofs.YtedcileokcbohaaDoor
