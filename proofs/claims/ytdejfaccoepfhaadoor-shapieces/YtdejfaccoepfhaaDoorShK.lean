/-
  sha: the law of texts cut anyhow. No statement is proved here.
-/
import Derived.Test.YtdejfaccoepfhaaDoorShJ
namespace Go.Proofs.YtdejfaccoepfhaaDoor
open Go.RowKit
set_option linter.unusedVariables false
set_option linter.unusedSimpArgs false
set_option maxRecDepth 100000

def few (l : List (List (BitVec 8))) : Prop := ∀ s ∈ l, s.length ≤ 500
theorem few_ok {l : List (List (BitVec 8))} (h : few l) : okL l = true := List.all_eq_true.2 fun s hs => Nat.ble_eq_true_of_le (Nat.le_trans (h s hs) (by decide))
def q5 (L : List (List (BitVec 8))) : Prop := L.length ≤ 41 ∧ L.flatten.length ≤ 3000 ∧ few L
theorem loop5 (pre : List Value) (l : List (List (BitVec 8))) (off len cap : Nat) (h0 : pre.length ≤ off) (h1 : off + len ≤ pre.length + l.length) (h2 : len ≤ 9223372036854775807) : LOk Tryd.prog G (B7 pre l) 5 (L5 pre l off len cap ((l.drop (off - pre.length)).take len).flatten (q5 ((l.drop (off - pre.length)).take len))) := by
  have hL : ((l.drop (off - pre.length)).take len).length = len := by simp; omega
  refine LT.add_ok (noL_ok _ _ _ _) (loop_ret e8_ok mixed (noL_ok _ _ _ _) (by show 2 ≤ 3; decide) (by kernel_rfl) (fun j => i5 (.sl 2 off len cap) (((l.drop (off - pre.length)).take len).take j).flatten j) (fun _ => B7 pre l) (fun j => j ≤ len ∧ q5 (((l.drop (off - pre.length)).take len).take j)) (fun j => len - j) (fun j => j + 1) 0 ⟨Nat.zero_le _, by simp, by simp, by intro s hs; simp at hs⟩ fun j hj => of_eq (vr5 _ _ pre l off len cap j _ _ _ _ _) ?_)
  obtain ⟨hj, hq⟩ := hj
  cases hc : ilt (j : Int) (len : Int)
  · have hj2 : j = len := by rw [ilt_eq] at hc; have := of_decide_eq_false hc; omega
    subst hj2
    rw [show List.take j (List.take j (List.drop (off - pre.length) l)) = List.take j (List.drop (off - pre.length) l) by rw [List.take_take, Nat.min_self]] at hq ⊢
    exact ⟨rfl, hq, rfl, rfl, ⟨rfl, rfl⟩, ⟨rfl, rfl⟩, ⟨rfl, rfl⟩, trivial⟩
  · have hj2 : j < len := by rw [ilt_eq] at hc; have := of_decide_eq_true hc; omega
    have e : ((l.drop (off - pre.length)).take len).getD j [] = l.getD (j + off - pre.length) [] := by rw [getD_take' _ _ _ _ hj2, getD_drop', show j + off - pre.length = j + (off - pre.length) by omega]
    have hs : ((l.drop (off - pre.length)).take len).take (j + 1) = ((l.drop (off - pre.length)).take len).take j ++ [l.getD (j + off - pre.length) []] := by
      rw [List.take_add_one, getD_get [] (show j < ((l.drop (off - pre.length)).take len).length by omega), e]; rfl
    have hf : (((l.drop (off - pre.length)).take len).take (j + 1)).flatten = (((l.drop (off - pre.length)).take len).take j).flatten ++ l.getD (j + off - pre.length) [] := by rw [hs]; simp
    rw [hf]
    obtain ⟨q1, q2, q3⟩ := hq
    have hb1 : inR (j : Int) len = true := inR_nat hj2
    have hb2 : ((pre.length).ble (j + off) && (j + off).blt (pre.length + l.length)) = true := by rw [Bool.and_eq_true]; exact ⟨Nat.ble_eq_true_of_le (by omega), blt_of (by omega)⟩
    have hi : inI ((j : Int) + 1) = true := inI_iff.2 (by omega)
    rw [hb1, hb2, hi]
    cases h500 : ilt 500 ((l.getD (j + off - pre.length) []).length : Int)
    · have hl5 : (l.getD (j + off - pre.length) []).length ≤ 500 := by rw [ilt_eq] at h500; have := of_decide_eq_false h500; omega
      cases h2048 : ilt 2048 (((((l.drop (off - pre.length)).take len).take j).flatten).length : Int)
      · have hl2 : (((l.drop (off - pre.length)).take len).take j).flatten.length ≤ 2048 := by rw [ilt_eq] at h2048; have := of_decide_eq_false h2048; omega
        cases h40 : ilt 40 (j : Int)
        · have hl4 : j ≤ 40 := by rw [ilt_eq] at h40; have := of_decide_eq_false h40; omega
          have hlen : (((l.drop (off - pre.length)).take len).take (j + 1)).length = j + 1 := by rw [List.length_take, hL]; omega
          have hile : ile (((((l.drop (off - pre.length)).take len).take j).flatten.length + (l.getD (j + off - pre.length) []).length : Nat) : Int) 9223372036854775807 = true := by rw [ile_eq]; exact decide_eq_true (by omega)
          rw [hile]
          refine ⟨⟨⟨by omega, by omega, ?_, ?_⟩, by omega⟩, rfl, rfl, rfl, ⟨rfl, rfl⟩, ⟨rfl, rfl⟩, ⟨rfl, rfl⟩, trivial⟩
          · rw [hf, List.length_append]; omega
          · intro s hm
            rw [hs] at hm
            rcases List.mem_append.1 hm with hm | hm
            · exact q3 s hm
            · rw [List.mem_singleton.1 hm]; exact hl5
        · exact ⟨trivial, rfl, ⟨rfl, rfl⟩, ⟨rfl, rfl⟩, ⟨rfl, rfl⟩, trivial⟩
      · exact ⟨trivial, rfl, ⟨rfl, rfl⟩, ⟨rfl, rfl⟩, ⟨rfl, rfl⟩, trivial⟩
    · exact ⟨trivial, rfl, ⟨rfl, rfl⟩, ⟨rfl, rfl⟩, ⟨rfl, rfl⟩, trivial⟩
theorem law5 (pre : List Value) (l : List (List (BitVec 8))) (off len cap : Nat) (h0 : pre.length ≤ off) (h1 : off + len ≤ pre.length + l.length) (h2 : len ≤ 9223372036854775807) : Spec Tryd.prog G 5 [.sl 2 off len cap] (B7 pre l) (fun r _ => r = .b true) := by
  refine vf_ok e8_ok mixed (loop5 pre l off len cap h0 h1 h2) (of_eq (vc5 _ _ pre l off len cap _ _ _) ?_)
  refine ⟨rfl, rfl, rfl, rfl, ⟨rfl, rfl⟩, ⟨rfl, rfl⟩, ⟨rfl, rfl⟩, fun hq => ?_, fun _ => rfl⟩
  obtain ⟨q1, q2, q3⟩ := hq
  have e1 : dOf (List.take len (List.drop (off - pre.length) l)) = rOf (List.take len (List.drop (off - pre.length) l)).flatten := dOf_eq _ (by omega)
  have e2 : dOf (List.take 1 (List.drop 0 [(List.take len (List.drop (off - pre.length) l)).flatten])) = rOf (List.take len (List.drop (off - pre.length) l)).flatten := by
    show dOf [_] = _
    have := dOf_eq [(List.take len (List.drop (off - pre.length) l)).flatten] (by simp only [List.flatten_cons, List.flatten_nil, List.append_nil]; omega)
    rw [this]; simp
  have b0 : (pre.length).ble off = true := Nat.ble_eq_true_of_le h0
  have b1 : (off + len).ble (pre.length + l.length) = true := Nat.ble_eq_true_of_le h1
  have hL : (List.take len (List.drop (off - pre.length) l)).length = len := by simp; omega
  have b2 : len.ble 1099511627776 = true := Nat.ble_eq_true_of_le (by omega)
  have b3 := few_ok q3
  have b4 : (List.take len (List.drop (off - pre.length) l)).flatten.length.ble 1000000000 = true := Nat.ble_eq_true_of_le (by omega)
  have b5 : okL (List.take 1 (List.drop 0 [(List.take len (List.drop (off - pre.length) l)).flatten])) = true := by
    show (Nat.ble _ _ && true) = true
    rw [Bool.and_true]; exact Nat.ble_eq_true_of_le (by omega)
  rw [e1, e2, b0, b1, b2, b3, b4, b5]
  have br : (rOf (List.take len (List.drop (off - pre.length) l)).flatten == rOf (List.take len (List.drop (off - pre.length) l)).flatten) = true := beq_self_eq_true _
  rw [br]
  rfl
theorem loop5z (d : Option Addr) (c : Nat) : LOk Tryd.prog G G 5 (Z5 d c) := by
  refine LT.add_ok (noL_ok _ _ _ _) (loop_ret e8_ok mixed (noL_ok _ _ _ _) (Nat.le_refl _) (by kernel_rfl) (fun _ : Unit => i5 (.v (.slice d 0 c)) [] 0) (fun _ => G) (fun _ => True) (fun _ => 0) id () trivial fun j hj => of_eq (vr5z d c _ _ _) ?_)
  exact ⟨rfl, trivial, rfl, rfl, ⟨rfl, rfl⟩, ⟨rfl, rfl⟩, trivial⟩
theorem law5z (d : Option Addr) (c : Nat) : Spec Tryd.prog G 5 [.v (.slice d 0 c)] G (fun r _ => r = .b true) := by
  refine vf_ok e8_ok mixed (loop5z d c) (of_eq (vc5z d c _ _ _) ?_)
  refine ⟨rfl, rfl, rfl, rfl, ⟨rfl, rfl⟩, ⟨rfl, rfl⟩, fun _ => ?_, fun h => h.elim⟩
  have e1 : dOf [] = rOf [] := dOf_eq [] (by decide)
  have e2 : dOf (List.take 1 (List.drop 0 [[]])) = rOf [] := dOf_eq [[]] (by decide)
  rw [e1, e2]
  have br : (rOf [] == rOf []) = true := beq_self_eq_true _
  rw [br]
  rfl
end Go.Proofs.YtdejfaccoepfhaaDoor
