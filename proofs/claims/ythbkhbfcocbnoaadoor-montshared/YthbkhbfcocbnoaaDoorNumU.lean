/-
  The document's numbers: what reduce does, as plain arithmetic on rows of digits. No statement is proved here.
-/
import Derived.Test.YthbkhbfcocbnoaaDoorNumT
namespace Go.Proofs.YthbkhbfcocbnoaaDoor
open Go.RowKit Go.Lib Go.BigFrame
set_option linter.unusedVariables false
set_option linter.unusedSimpArgs false
set_option maxRecDepth 1000000
set_option maxHeartbeats 2000000

/-- The number that a row of digits is. -/
def vl : List Nat → Nat
  | [] => 0
  | x :: l => x + 1073741824 * vl l
theorem vl_append : ∀ a b : List Nat, vl (a ++ b) = vl a + 1073741824 ^ a.length * vl b
  | [], b => by simp [vl]
  | x :: a, b => by
    have h := vl_append a b
    show x + 1073741824 * vl (a ++ b) = x + 1073741824 * vl a + 1073741824 ^ (a.length + 1) * vl b
    rw [h, Nat.mul_add, ← Nat.mul_assoc, ← Nat.pow_succ', Nat.add_assoc]
theorem vl_zeros : ∀ n, vl (List.replicate n 0) = 0
  | 0 => rfl
  | n + 1 => by
    show 0 + 1073741824 * vl (List.replicate n 0) = 0
    rw [vl_zeros n]
/-- The carries through a row: the digits, and what goes out. -/
def cpl : List Nat → Nat → List Nat × Nat
  | [], c => ([], c)
  | x :: l, c => ((x + c) % 1073741824 :: (cpl l ((x + c) / 1073741824)).1, (cpl l ((x + c) / 1073741824)).2)
theorem cpl_val : ∀ (l : List Nat) (c : Nat), vl (cpl l c).1 + 1073741824 ^ l.length * (cpl l c).2 = vl l + c
  | [], c => by simp [cpl, vl]
  | x :: l, c => by
    have h := cpl_val l ((x + c) / 1073741824)
    show (x + c) % 1073741824 + 1073741824 * vl (cpl l ((x + c) / 1073741824)).1 + 1073741824 ^ (l.length + 1) * (cpl l ((x + c) / 1073741824)).2 = x + 1073741824 * vl l + c
    rw [Nat.pow_succ', Nat.mul_assoc]
    have e : 1073741824 * vl (cpl l ((x + c) / 1073741824)).1 + 1073741824 * (1073741824 ^ l.length * (cpl l ((x + c) / 1073741824)).2) = 1073741824 * (vl l + (x + c) / 1073741824) := by rw [← Nat.mul_add, h]
    have e2 := Nat.div_add_mod (x + c) 1073741824
    rw [Nat.mul_add] at e
    omega
theorem cpl_len : ∀ (l : List Nat) (c : Nat), (cpl l c).1.length = l.length
  | [], c => rfl
  | x :: l, c => by
    show (cpl l ((x + c) / 1073741824)).1.length + 1 = l.length + 1
    rw [cpl_len l]
theorem cpl_lt : ∀ (l : List Nat) (c : Nat), ∀ x ∈ (cpl l c).1, x < 1073741824
  | [], c, x, h => by simp [cpl] at h
  | y :: l, c, x, h => by
    have h' : x ∈ (y + c) % 1073741824 :: (cpl l ((y + c) / 1073741824)).1 := h
    rcases List.mem_cons.1 h' with rfl | h2
    · exact Nat.mod_lt _ (by decide)
    · exact cpl_lt l _ x h2
theorem cpl_snoc : ∀ (l : List Nat) (y c : Nat), cpl (l ++ [y]) c = ((cpl l c).1 ++ [(y + (cpl l c).2) % 1073741824], (y + (cpl l c).2) / 1073741824)
  | [], y, c => rfl
  | x :: l, y, c => by
    have h := cpl_snoc l y ((x + c) / 1073741824)
    show ((x + c) % 1073741824 :: (cpl (l ++ [y]) ((x + c) / 1073741824)).1, (cpl (l ++ [y]) ((x + c) / 1073741824)).2) = _
    rw [h]; rfl
/-- Digits that leave room: the carry stays small. -/
theorem cpl_carry : ∀ (l : List Nat) (c : Nat), (∀ x ∈ l, x ≤ 18446742974197923840) → c ≤ 34359738368 → (cpl l c).2 ≤ 34359738368
  | [], c, _, h => h
  | x :: l, c, hl, h => cpl_carry l _ (fun y hy => hl y (List.mem_cons_of_mem _ hy)) (by
    have := hl x (List.mem_cons_self ..)
    omega)
/-- The row ahead of step i of a pass over n digits. -/
def cr (l : List Nat) (i : Nat) : List Nat := (cpl (l.take i) 0).1 ++ l.drop i
def cc (l : List Nat) (i : Nat) : Nat := (cpl (l.take i) 0).2
theorem cr_zero (l : List Nat) : cr l 0 = l := by simp [cr, cpl]
theorem cc_zero (l : List Nat) : cc l 0 = 0 := by simp [cc, cpl]
theorem cr_len (l : List Nat) (i : Nat) : (cr l i).length = l.length := by
  simp only [cr, List.length_append, cpl_len, List.length_take, List.length_drop]; omega
theorem cc_step (l : List Nat) (i : Nat) (h : i < l.length) : cc l (i + 1) = (l.getD i 0 + cc l i) / 1073741824 := by
  unfold cc
  rw [List.take_succ_eq_append_getElem h, cpl_snoc]
  simp [h]
theorem cr_get (l : List Nat) (i : Nat) (h : i < l.length) : (cr l i).getD i 0 = l.getD i 0 := by
  have hl : (cpl (l.take i) 0).1.length = i := by rw [cpl_len, List.length_take]; omega
  simp only [cr, List.getD_eq_getElem?_getD]
  rw [List.getElem?_append_right (by omega), hl, Nat.sub_self, List.getElem?_drop, Nat.add_zero]
theorem cr_step (l : List Nat) (i : Nat) (h : i < l.length) : (cr l i).set i ((l.getD i 0 + cc l i) % 1073741824) = cr l (i + 1) := by
  have hl : (cpl (l.take i) 0).1.length = i := by rw [cpl_len, List.length_take]; omega
  have e : l.getD i 0 = l[i] := by simp [h]
  unfold cr
  rw [List.set_append_right _ _ (by omega), hl, Nat.sub_self, List.take_succ_eq_append_getElem h, cpl_snoc, List.drop_eq_getElem_cons h, List.set_cons_zero, e]
  show _ ++ ((l[i] + cc l i) % 1073741824 :: l.drop (i + 1)) = (_ ++ [_]) ++ _
  rw [List.append_assoc]; rfl
theorem cc_le (l : List Nat) (i : Nat) (hl : ∀ x ∈ l, x ≤ 18446742974197923840) : cc l i ≤ 34359738368 :=
  cpl_carry _ 0 (fun x hx => hl x (List.mem_of_mem_take hx)) (by decide)

end Go.Proofs.YthbkhbfcocbnoaaDoor
