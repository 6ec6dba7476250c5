/-
  link: rows into which one comes (in place, and all ways as one), copies of rows. No statement is proved here.
-/
import Derived.Test.YtedcileokcbohaaDoorLiF
namespace Go.Proofs.YtedcileokcbohaaDoor
open Go.RowKit
set_option linter.unusedVariables false
set_option linter.unusedSimpArgs false
set_option maxRecDepth 100000

theorem set_same {M : Mm} {k : Nat} {e : Ent} (h : M[k]? = some e) : M.set k e = M := by
  apply List.ext_getElem?
  intro i
  rw [List.getElem?_set]
  by_cases hk : k = i
  · subst hk; rw [if_pos rfl, if_pos (lt_of_get h), h]
  · rw [if_neg hk]
theorem s62c (l : List Nr) (x : Nr) (len cap k : Nat) (hl : l.length = cap) (hc : len < cap) (hk : k < len) (hb : len ≤ 1000) : Spec Tryd.prog G 62 [.rs 1 0 0 3 len cap, .i (k : Nat), .rs 2 0 0 3 1 1] (m62 l x) (C62p l x len cap k) := by
  have hlt : (l.take len).length = len := by rw [List.length_take]; omega
  refine vf_ok e62_ok mixed (noL_ok _ _ _ _) (of_eq (v62 l x len cap k _) (bif_of (and_t (ile_of (by omega)) (ile_of (by omega))) ?_))
  have h1 : ((k : Int) == (len : Int)) = false := by rw [beq_eq_false_iff_ne]; omega
  have c2 : ((k : Int) + ((1 : Nat) : Int)).toNat = k + 1 := by omega
  have c3 : ((len : Int) + ((1 : Nat) : Int)).toNat = len + 1 := by omega
  have c5 : len + 1 - (k + 1) = len - k := by omega
  have q2 : ilt (k : Int) (cap : Int) = true := ilt_n (by omega)
  have q3 : ilt ((k : Int) + ((1 : Nat) : Int)) (cap : Int) = true := ilt_of (by omega)
  rw [h1]
  refine bif_of (inI_iff.2 (by omega)) ?_
  rw [ilt_no (show ¬ (cap : Int) < (len : Int) + ((1 : Nat) : Int) by omega), c2, c3, q2, q3]
  refine bif_of (inI_iff.2 (by omega)) (bif_of (ile_of (by omega)) (bif_of (inI_iff.2 (by omega)) (bif_of (and_t (ile_of (by omega)) (ile_of (by omega))) (bif_of (blt_of (by omega)) (bif_of (inI_iff.2 (by omega)) (bif_of (and_t (ile_of (by omega)) (ile_of (by omega))) (bif_of (and_t (ile_of (by omega)) (ile_of (by omega))) (bif_of (and_t (ble_of (by show k + (len + 1 - k) ≤ l.length; omega)) (ble_of (by show k + 1 + (len + 1 - (k + 1)) ≤ l.length; omega))) (bif_of (and_t (ile_of (by omega)) (ile_of (by omega))) ?_)))))))))
  have e0' : (List.take (len + 1 - k) (List.drop k l)).length = len + 1 - k := by rw [List.length_take, List.length_drop]; omega
  have eQ : List.take (len + 1 - (k + 1)) (List.take (len + 1 - k) (List.drop k l)) = (l.take len).drop k := by
    rw [List.take_take, c5, Nat.min_eq_left (by omega), List.drop_take]
  have e3 : ((l.take len).drop k).length = len - k := by rw [List.length_drop]; omega
  have eM : k + 1 + min (List.take (len + 1 - k) (List.drop k l)).length (len + 1 - (k + 1)) = len + 1 := by rw [e0']; omega
  have hW : List.take (k + 1) l ++ List.take (len + 1 - (k + 1)) (List.take (len + 1 - k) (List.drop k l)) ++ List.drop (k + 1 + min (List.take (len + 1 - k) (List.drop k l)).length (len + 1 - (k + 1))) l = l.take k ++ [l.getD k (rz NF)] ++ ((l.take len).drop k ++ l.drop (len + 1)) := by
    rw [eQ, eM, take_succ_getD (rz NF) l k (by omega)]; simp
  have hx : List.take (len + 1 - k) (List.take 1 (List.drop 0 [x])) = [x] := by
    show List.take (len + 1 - k) [x] = [x]
    exact List.take_of_length_le (by show 1 ≤ len + 1 - k; omega)
  have hm : min (List.take 1 (List.drop 0 [x])).length (len + 1 - k) = [x].length := by show min 1 (len + 1 - k) = 1; omega
  refine bif_of (ble_of ?_) ?_
  · show k + (len + 1 - k) ≤ (List.take (k + 1) l ++ List.take (len + 1 - (k + 1)) (List.take (len + 1 - k) (List.drop k l)) ++ List.drop (k + 1 + min (List.take (len + 1 - k) (List.drop k l)).length (len + 1 - (k + 1))) l).length
    rw [hW]; simp; omega
  · refine ⟨rfl, ?_⟩
    show ([e0, rowE true (List.take k (List.take (k + 1) l ++ List.take (len + 1 - (k + 1)) (List.take (len + 1 - k) (List.drop k l)) ++ List.drop (k + 1 + min (List.take (len + 1 - k) (List.drop k l)).length (len + 1 - (k + 1))) l) ++ List.take (len + 1 - k) (List.take 1 (List.drop 0 [x])) ++ List.drop (k + min (List.take 1 (List.drop 0 [x])).length (len + 1 - k)) (List.take (k + 1) l ++ List.take (len + 1 - (k + 1)) (List.take (len + 1 - k) (List.drop k l)) ++ List.drop (k + 1 + min (List.take (len + 1 - k) (List.drop k l)).length (len + 1 - (k + 1))) l)), rowE true [x]] : Mm) = _
    rw [hW, hx, hm, lay_mid (l.take k) [l.getD k (rz NF)] _ [x] k (by rw [List.length_take]; omega) rfl]
    have e5 : insL k x (l.take len) ++ l.drop (len + 1) = l.take k ++ [x] ++ ((l.take len).drop k ++ l.drop (len + 1)) := by
      unfold insL; rw [List.take_take, Nat.min_eq_left (by omega)]; simp
    rw [e5]
theorem s62 (l : List Nr) (x : Nr) (len cap k : Nat) (hl : l.length = cap) (hc : len ≤ cap) (hk : k ≤ len) (hb : len ≤ 1000) : Spec Tryd.prog G 62 [.rs 1 0 0 3 len cap, .i (k : Nat), .rs 2 0 0 3 1 1] (m62 l x) (ins62 l x len k) := by
  have hlt : (l.take len).length = len := by rw [List.length_take]; omega
  have hi : (insL k x (l.take len)).length = len + 1 := by rw [insL_len, hlt]
  rcases Nat.lt_or_ge k len with q | q
  · rcases Nat.lt_or_ge len cap with p | p
    · refine Spec.re (s62c l x len cap k hl p q hb) ?_
      rintro r M1 ⟨rfl, rfl⟩
      refine ⟨.rs 3 0 0 3 (len + 1) cap, [e0, goneE, rowE true [x], rowE true (insL k x (l.take len) ++ l.drop (len + 1))], fun j => if j = 3 then 1 else j, ⟨fun k hk => ?_, by show 3 ≤ 4; omega, fun k e he hh => ?_, fun i j x y hx hy hij hr hxh hyh => ?_, fun k e he => ?_, fun k e he hr => ?_, fun k e hk he => ?_, fun k e hk he => ?_, fun β => rfl, rfl⟩, ⟨cap, _, take_ins hi, ?_, rfl, rfl⟩⟩
      · have : k < 3 := hk
        rw [if_neg (by omega)]
      · match k, he with
        | 0, he => cases he; exact ⟨_, rfl, rfl, rfl, fun _ => rfl, rfl⟩
        | 1, he => cases he; cases hh
        | 2, he => cases he; exact ⟨_, rfl, rfl, rfl, fun _ => rfl, rfl⟩
        | 3, he => cases he; exact ⟨_, rfl, rfl, rfl, fun _ => rfl, rfl⟩
        | k + 4, he => cases he
      · match i, j, hx, hy with
        | 1, _, hx, _ => cases hx; cases hxh
        | _, 1, _, hy => cases hy; cases hyh
        | 0, 0, _, _ => exact absurd rfl hij
        | 0, 2, _, _ => decide
        | 0, 3, _, _ => decide
        | 2, 0, _, _ => decide
        | 2, 2, _, _ => exact absurd rfl hij
        | 2, 3, _, _ => decide
        | 3, 0, _, _ => decide
        | 3, 2, _, _ => decide
        | 3, 3, _, _ => exact absurd rfl hij
        | i + 4, _, hx, _ => cases hx
        | _, j + 4, _, hy => cases hy
      · match k, he with
        | 0, he => cases he; rfl
        | 1, he => cases he; rfl
        | 2, he => cases he; rfl
        | 3, he => cases he; rfl
        | k + 4, he => cases he
      · match k, he with
        | 0, he => cases he; cases hr
        | 1, he => cases he; exact ⟨_, rfl, rfl⟩
        | 2, he => cases he; exact ⟨_, rfl, rfl⟩
        | 3, he => cases he; exact ⟨_, rfl, rfl⟩
        | k + 4, he => cases he
      · match k, he with
        | 0, he => cases he; exact ⟨_, rfl, fun _ => rfl⟩
        | 1, he => cases he; exact ⟨_, rfl, fun h => by cases h⟩
        | 2, he => cases he; exact ⟨_, rfl, fun h => by cases h⟩
        | k + 3, he => exact absurd hk (by show ¬ k + 3 < 3; omega)
      · match k, he with
        | 0, _ => exact absurd hk (by show ¬ 3 ≤ 0; omega)
        | 1, _ => exact absurd hk (by show ¬ 3 ≤ 1; omega)
        | 2, _ => exact absurd hk (by show ¬ 3 ≤ 2; omega)
        | 3, he => cases he; rfl
        | k + 4, he => cases he
      · rw [List.length_append, hi, List.length_drop]; omega
    · refine Spec.re (s62b l x len cap k hl (by omega) q hb) ?_
      rintro r M1 ⟨cap', rest, hr, rfl, rfl⟩
      refine ⟨.rs 3 0 0 3 (len + 1) cap', [e0, goneE, rowE true [x], rowE true (insL k x (l.take len) ++ rest)], fun j => j, ⟨fun k hk => rfl, by show 3 ≤ 4; omega, fun k e he hh => ?_, fun i j x y hx hy hij hr hxh hyh => hij, fun k e he => ?_, fun k e he hr => ?_, fun k e hk he => ?_, fun k e hk he => ?_, fun β => rfl, rfl⟩, ⟨cap', _, take_ins hi, ?_, rfl, rfl⟩⟩
      · match k, he with
        | 0, he => cases he; exact ⟨_, rfl, rfl, rfl, fun _ => rfl, rfl⟩
        | 1, he => cases he; cases hh
        | 2, he => cases he; exact ⟨_, rfl, rfl, rfl, fun _ => rfl, rfl⟩
        | 3, he => cases he; exact ⟨_, rfl, rfl, rfl, fun _ => rfl, rfl⟩
        | k + 4, he => cases he
      · match k, he with
        | 0, he => cases he; rfl
        | 1, he => cases he; rfl
        | 2, he => cases he; rfl
        | 3, he => cases he; rfl
        | k + 4, he => cases he
      · match k, he with
        | 0, he => cases he; cases hr
        | 1, he => cases he; exact ⟨_, rfl, rfl⟩
        | 2, he => cases he; exact ⟨_, rfl, rfl⟩
        | 3, he => cases he; exact ⟨_, rfl, rfl⟩
        | k + 4, he => cases he
      · match k, he with
        | 0, he => cases he; exact ⟨_, rfl, fun _ => rfl⟩
        | 1, he => cases he; exact ⟨_, rfl, fun h => by cases h⟩
        | 2, he => cases he; exact ⟨_, rfl, fun h => by cases h⟩
        | k + 3, he => exact absurd hk (by show ¬ k + 3 < 3; omega)
      · match k, he with
        | 0, _ => exact absurd hk (by show ¬ 3 ≤ 0; omega)
        | 1, _ => exact absurd hk (by show ¬ 3 ≤ 1; omega)
        | 2, _ => exact absurd hk (by show ¬ 3 ≤ 2; omega)
        | 3, he => cases he; rfl
        | k + 4, he => cases he
      · rw [List.length_append, hi]; exact hr
  · obtain rfl : k = len := by omega
    exact s62a l x k cap hl hc hb
theorem s62z (x : Nr) : Spec Tryd.prog G 62 [.v (.slice none 0 0), .i 0, .rs 1 0 0 3 1 1] [e0, rowE true [x]] (fun r M => ∃ (cap' : Nat) (l' : List Nr), l'.take 1 = [x] ∧ l'.length = cap' ∧ r = .rs 2 0 0 3 1 cap' ∧ M = [e0, rowE true [x], rowE true l']) := by
  refine vf_ok e62_ok mixed (noL_ok _ _ _ _) (of_eq (v62z x _) fun cap' rest hr => ⟨cap', [x] ++ rest, rfl, ?_, rfl, rfl⟩)
  rw [List.length_append]; exact hr
def unX : Cont → Option Nr
  | .recs (some t) [.u32, .s, .u64] [] [x] => bif Nat.beq t 57 then some x else none
  | _ => none
theorem unX_ok {c : Cont} {x : Nr} (h : unX c = some x) : c = .recs (some 57) NF [] [x] := by
  unfold unX at h
  split at h
  · rename_i t m
    cases ht : Nat.beq t 57 <;> rw [ht] at h
    · cases h
    · obtain rfl := Nat.eq_of_beq_eq_true ht
      cases h; rfl
  · cases h
def cIns : List SV → Mm → (SV → Mm → Prop) → Prop
  | [.rs a ba ea sa len cap, .i z, .rs b bb eb sb lb cb], M, K => match M[a]?, M[b]? with
    | some ⟨true, ca⟩, some ⟨true, cx⟩ => match unR ca, unX cx with
      | some l, some x => vsome (!(Nat.beq a b) && (Nat.beq ba 0 && (Nat.beq ea 0 && (Nat.beq sa 3 && (Nat.beq bb 0 && (Nat.beq eb 0 && (Nat.beq sb 3 && (Nat.beq lb 1 && (Nat.beq cb 1 && (Nat.beq l.length cap && (Nat.ble len cap && (Nat.ble len 1000 && (ile 0 z && ile z (len : Nat))))))))))))))
          (∀ (cap' : Nat) (l' : List Nr), l'.take (len + 1) = insL z.toNat x (l.take len) → l'.length = cap' → setK M a goneE fun M1 => snocK M1 (rowE true l') fun M2 => K (.rs M.length 0 0 3 (len + 1) cap') M2)
      | _, _ => False
    | _, _ => False
  | [.v (.slice none 0 0), .i z, .rs b bb eb sb lb cb], M, K => match M[b]? with
    | some ⟨true, cx⟩ => match unX cx with
      | some x => vsome (z == 0 && (Nat.beq bb 0 && (Nat.beq eb 0 && (Nat.beq sb 3 && (Nat.beq lb 1 && Nat.beq cb 1)))))
          (∀ (cap' : Nat) (l' : List Nr), l'.take 1 = [x] → l'.length = cap' → snocK M (rowE true l') fun M2 => K (.rs M.length 0 0 3 1 cap') M2)
      | _ => False
    | _ => False
  | _, _, _ => False
theorem ins_ok : COk Tryd.prog G 62 cIns := by
  intro args M K h
  unfold cIns at h
  split at h
  · rename_i a ba ea sa len cap z b bb eb sb lb cb
    split at h
    · rename_i ca cx ha hb
      split at h
      · rename_i l x hl hx
        obtain rfl := unR_ok hl
        obtain rfl := unX_ok hx
        replace h := vsome_iff.1 h
        simp only [Bool.and_eq_true] at h
        obtain ⟨⟨h0, h1, h2, h3, h4, h5, h6, h7, h8, h9, h10, h11, h12, h13⟩, h⟩ := h
        have hne := beq_ne h0
        obtain rfl := Nat.eq_of_beq_eq_true h1
        obtain rfl := Nat.eq_of_beq_eq_true h2
        obtain rfl := Nat.eq_of_beq_eq_true h3
        obtain rfl := Nat.eq_of_beq_eq_true h4
        obtain rfl := Nat.eq_of_beq_eq_true h5
        obtain rfl := Nat.eq_of_beq_eq_true h6
        obtain rfl := Nat.eq_of_beq_eq_true h7
        obtain rfl := Nat.eq_of_beq_eq_true h8
        rw [ile_eq] at h12 h13
        have h12 := of_decide_eq_true h12
        have h13 := of_decide_eq_true h13
        obtain ⟨k, rfl⟩ := Int.eq_ofNat_of_zero_le h12
        refine eff_of (R := [rowE true l, rowE true [x]]) (args0 := [.rs 1 0 0 3 len cap, .i (k : Nat), .rs 2 0 0 3 1 1]) [a, b] (s62 l x len cap k (Nat.eq_of_beq_eq_true h9) (Nat.le_of_ble_eq_true h10) (by omega) (Nat.le_of_ble_eq_true h11)) rfl rfl (by simp [hne]) ⟨⟨true, ha, fun h => h⟩, ⟨rfl, rfl⟩, ⟨true, hb, fun h => h⟩, ⟨rfl, rfl⟩, trivial⟩ ?_
        rintro r1 M1 ⟨cap', l', p1, p2, rfl, rfl⟩
        have := h cap' l' p1 p2
        rw [setK_eq, snocK_eq] at this
        rw [show back G _ M _ _ = (M.set a goneE).set b (rowE true [x]) ++ [rowE true l'] from rfl, set_same (by rw [List.getElem?_set_ne hne]; exact hb)]
        exact this
      · exact h.elim
    · exact h.elim
  · rename_i z b bb eb sb lb cb
    split at h
    · rename_i cx hb
      split at h
      · rename_i x hx
        obtain rfl := unX_ok hx
        replace h := vsome_iff.1 h
        simp only [Bool.and_eq_true] at h
        obtain ⟨⟨h0, h4, h5, h6, h7, h8⟩, h⟩ := h
        obtain rfl := eq_of_beq h0
        obtain rfl := Nat.eq_of_beq_eq_true h4
        obtain rfl := Nat.eq_of_beq_eq_true h5
        obtain rfl := Nat.eq_of_beq_eq_true h6
        obtain rfl := Nat.eq_of_beq_eq_true h7
        obtain rfl := Nat.eq_of_beq_eq_true h8
        refine eff_of (R := [rowE true [x]]) (args0 := [.v (.slice none 0 0), .i 0, .rs 1 0 0 3 1 1]) [b] (s62z x) rfl rfl (by simp) ⟨⟨true, hb, fun h => h⟩, ⟨rfl, rfl⟩, trivial⟩ ?_
        rintro r1 M1 ⟨cap', l', p1, p2, rfl, rfl⟩
        have := h cap' l' p1 p2
        rw [snocK_eq] at this
        rw [show back G _ M _ _ = M.set b (rowE true [x]) ++ [rowE true l'] from rfl, set_same (e := rowE true [x]) hb]
        exact this
      · exact h.elim
    · exact h.elim
  · exact h.elim
theorem v50 (l : List Nr) (len cap : Nat) (K : SV → Mm → Prop) : (vf Tryd.prog E62 noL 50 [.rs 1 0 0 3 len cap] (m60 l) K) = (bif ((0 : Nat) + len).ble l.length then bif ((0 : Nat) + (List.take len (List.drop (0 : Nat) l)).length).ble (33554432 : Nat) && true then ∀ (cap' : Nat) (rest : List (Rc [Fk.u32, Fk.s, Fk.u64])), (0 : Nat) + (List.take len (List.drop (0 : Nat) l)).length + rest.length = cap' → K (SV.rs ((0 : Nat) + (1 : Nat) + (1 : Nat) + (1 : Nat)) (0 : Nat) (0 : Nat) (3 : Nat) ((0 : Nat) + (List.take len (List.drop (0 : Nat) l)).length) cap') [e0, rowE false l, { rw := true, c := Cont.gone }, { rw := true, c := Cont.recs (some (57 : Nat)) [Fk.u32, Fk.s, Fk.u64] [] (List.take (0 : Nat) [] ++ List.take len (List.drop (0 : Nat) l) ++ rest) }] else False else False) := by kernel_rfl
theorem v50z (K : SV → Mm → Prop) : (vf Tryd.prog E62 noL 50 [.v (.slice none 0 0)] G K) = (K (SV.v (Value.slice none 0 0)) G) := by kernel_rfl
theorem s50 (l : List Nr) (len cap : Nat) (hl : len ≤ l.length) (hb : len ≤ 1000) : Spec Tryd.prog G 50 [.rs 1 0 0 3 len cap] (m60 l) (fun r M => ∃ (cap' : Nat) (l' : List Nr), l'.take len = l.take len ∧ l'.length = cap' ∧ r = .rs 2 0 0 3 len cap' ∧ M = [e0, rowE false l, rowE true l']) := by
  have hlt : (l.take len).length = len := by rw [List.length_take]; omega
  refine Spec.re (K := fun r M => ∃ (cap' : Nat) (l' : List Nr), l'.take len = l.take len ∧ l'.length = cap' ∧ r = .rs 3 0 0 3 len cap' ∧ M = [e0, rowE false l, goneE, rowE true l']) (vf_ok e62_ok mixed (noL_ok _ _ _ _) (of_eq (v50 l len cap _) (bif_of (ble_of (by omega)) (bif_of (and_t (ble_of (by show 0 + (l.take len).length ≤ 33554432; omega)) rfl) fun cap' rest hr => ?_)))) ?_
  · replace hr : 0 + (l.take len).length + rest.length = cap' := hr
    refine ⟨cap', l.take len ++ rest, take_ins hlt, by rw [List.length_append]; omega, ?_, rfl⟩
    show SV.rs 3 0 0 3 (0 + (l.take len).length) cap' = _
    rw [hlt, Nat.zero_add]
  · rintro r M1 ⟨cap', l', h1, h2, rfl, rfl⟩
    refine ⟨.rs 2 0 0 3 len cap', [e0, rowE false l, rowE true l'], fun j => if j = 2 then 3 else j, ⟨fun k hk => ?_, by show 2 ≤ 3; omega, fun k e he hh => ?_, fun i j x y hx hy hij hr hxh hyh => ?_, fun k e he => ?_, fun k e he hr => ?_, fun k e hk he => ?_, fun k e hk he => ?_, fun β => rfl, rfl⟩, ⟨cap', l', h1, h2, rfl, rfl⟩⟩
    · have : k < 2 := hk
      rw [if_neg (by omega)]
    · match k, he with
      | 0, he => cases he; exact ⟨_, rfl, rfl, rfl, fun _ => rfl, rfl⟩
      | 1, he => cases he; exact ⟨_, rfl, rfl, rfl, fun _ => rfl, rfl⟩
      | 2, he => cases he; exact ⟨_, rfl, rfl, rfl, fun _ => rfl, rfl⟩
      | k + 3, he => cases he
    · match i, j, hx, hy with
      | 0, 0, _, _ => exact absurd rfl hij
      | 0, 1, _, _ => decide
      | 0, 2, _, _ => decide
      | 1, 0, _, _ => decide
      | 1, 1, _, _ => exact absurd rfl hij
      | 1, 2, _, _ => decide
      | 2, 0, _, _ => decide
      | 2, 1, _, _ => decide
      | 2, 2, _, _ => exact absurd rfl hij
      | i + 3, _, hx, _ => cases hx
      | _, j + 3, _, hy => cases hy
    · match k, he with
      | 0, he => cases he; rfl
      | 1, he => cases he; rfl
      | 2, he => cases he; rfl
      | k + 3, he => cases he
    · match k, he with
      | 0, he => cases he; cases hr
      | 1, he => cases he; cases hr
      | 2, he => cases he; exact ⟨_, rfl, rfl⟩
      | k + 3, he => cases he
    · match k, he with
      | 0, he => cases he; exact ⟨_, rfl, fun _ => rfl⟩
      | 1, he => cases he; exact ⟨_, rfl, fun _ => rfl⟩
      | k + 2, he => exact absurd hk (by show ¬ k + 2 < 2; omega)
    · match k, he with
      | 0, _ => exact absurd hk (by show ¬ 2 ≤ 0; omega)
      | 1, _ => exact absurd hk (by show ¬ 2 ≤ 1; omega)
      | 2, he => cases he; rfl
      | k + 3, he => cases he
def cCln : List SV → Mm → (SV → Mm → Prop) → Prop
  | [.rs a ba ea sa len cap], M, K => match M[a]? with
    | some ⟨_, ca⟩ => match unR ca with
      | some l => vsome (Nat.beq ba 0 && (Nat.beq ea 0 && (Nat.beq sa 3 && (Nat.ble len l.length && Nat.ble len 1000))))
          (∀ (cap' : Nat) (l' : List Nr), l'.take len = l.take len → l'.length = cap' → snocK M (rowE true l') fun M2 => K (.rs M.length 0 0 3 len cap') M2)
      | none => False
    | none => False
  | [.v (.slice none 0 0)], M, K => K (.v (.slice none 0 0)) M
  | _, _, _ => False
theorem cln_ok : COk Tryd.prog G 50 cCln := by
  intro args M K h
  unfold cCln at h
  split at h
  · rename_i a ba ea sa len cap
    split at h
    · rename_i r0 ca ha
      split at h
      · rename_i l hl
        obtain rfl := unR_ok hl
        replace h := vsome_iff.1 h
        simp only [Bool.and_eq_true] at h
        obtain ⟨⟨h1, h2, h3, h4, h5⟩, h⟩ := h
        obtain rfl := Nat.eq_of_beq_eq_true h1
        obtain rfl := Nat.eq_of_beq_eq_true h2
        obtain rfl := Nat.eq_of_beq_eq_true h3
        refine eff_of (R := [rowE false l]) (args0 := [.rs 1 0 0 3 len cap]) [a] (s50 l len cap (Nat.le_of_ble_eq_true h4) (Nat.le_of_ble_eq_true h5)) rfl rfl (by simp) ⟨⟨r0, ha, (fun h => by cases h)⟩, ⟨rfl, rfl⟩, trivial⟩ ?_
        rintro r1 M1 ⟨cap', l', p1, p2, rfl, rfl⟩
        have := h cap' l' p1 p2
        rw [snocK_eq] at this
        rw [show back G _ M _ _ = M ++ [rowE true l'] from rfl]
        exact this
      · exact h.elim
    · exact h.elim
  · refine eff_of (R := []) (args0 := [.v (.slice none 0 0)]) (K0 := fun r M => r = .v (.slice none 0 0) ∧ M = G) [] (vf_ok (M := G) e62_ok mixed (noL_ok _ _ _ _) (of_eq (v50z _) ⟨rfl, rfl⟩)) rfl rfl List.nodup_nil trivial ?_
    rintro r1 M1 ⟨rfl, rfl⟩
    rw [show back G [] M (sig G.length []) G = M from List.append_nil M]
    exact h
  · exact h.elim
end Go.Proofs.YtedcileokcbohaaDoor
