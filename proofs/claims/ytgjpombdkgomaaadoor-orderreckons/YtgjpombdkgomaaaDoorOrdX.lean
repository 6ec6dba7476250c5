/-
  The document's MulAdd (pharosref07): from row to row, and the carries. No statement is proved here.
-/
import Derived.Test.YtgjpombdkgomaaaDoorOrdW
namespace Go.Proofs.YtgjpombdkgomaaaDoor
open Go.RowKit Go.Lib Go.BigFrame
set_option linter.unusedVariables false
set_option linter.unusedSimpArgs false
set_option maxRecDepth 1000000
set_option maxHeartbeats 4000000

/-- The rows of MulAdd ahead of row i. -/
structure MS (a b c i : Nat) (l : List Nat) : Prop where
  len : l.length = 65
  le : ∀ m, l.getD m 0 ≤ i * 65280
  val : v8 l = c % 256 ^ i + a % 256 ^ i * b
theorem MS.start (a b c : Nat) : MS a b c 0 (List.replicate 65 0) := by
  refine ⟨by simp, fun m => ?_, ?_⟩
  · rw [List.getD_eq_getElem?_getD, List.getElem?_replicate]
    split <;> simp
  · rw [v8_zeros, Nat.pow_zero, Nat.mod_one, Nat.mod_one, Nat.zero_mul]
theorem MS.add {a b c i : Nat} {l : List Nat} (h : MS a b c i l) (hi : i < 32) : MR a b c i 0 (l.set i (l.getD i 0 + vb c i)) := by
  have hc := vb_lt c i
  have hl := h.le i
  have hlen : i < l.length := by rw [h.len]; omega
  refine ⟨by rw [List.length_set]; exact h.len, fun m => ?_, fun m hm => ?_, ?_⟩
  · rw [getD_set' _ _ _ _ hlen]
    split
    · omega
    · have := h.le m; omega
  · rw [getD_set' _ _ _ _ hlen]
    split
    · omega
    · have := h.le m; omega
  · rw [v8_add _ _ _ hlen, h.val, mod_vb c i, Nat.pow_zero, Nat.mod_one, Nat.mul_zero, Nat.mul_zero]
    omega
theorem MR.row {a b c i : Nat} {l : List Nat} (h : MR a b c i 32 l) (hb : b < 115792089237316195423570985008687907853269984665640564039457584007913129639936) : MS a b c (i + 1) l := by
  refine ⟨h.len, h.le, ?_⟩
  rw [h.val, mod_vb a i, Nat.mod_eq_of_lt (show b < 256 ^ 32 from hb), Nat.add_mul, Nat.mul_assoc]
  omega
theorem MS.last {a b c : Nat} {l : List Nat} (h : MS a b c 32 l) (ha : a < 115792089237316195423570985008687907853269984665640564039457584007913129639936) (hc : c < 115792089237316195423570985008687907853269984665640564039457584007913129639936) : v8 l = a * b + c := by
  rw [h.val, Nat.mod_eq_of_lt (show a < 256 ^ 32 from ha), Nat.mod_eq_of_lt (show c < 256 ^ 32 from hc), Nat.add_comm]
/-- The carry ahead of byte i. -/
def cr (l : List Nat) : Nat → Nat
  | 0 => 0
  | i + 1 => (l.getD i 0 + cr l i) / 256
theorem v8_drop (l : List Nat) (i : Nat) (h : i < l.length) : v8 (l.drop i) = l.getD i 0 + 256 * v8 (l.drop (i + 1)) := by
  rw [List.drop_eq_getElem_cons h]
  show l[i] + 256 * v8 (l.drop (i + 1)) = _
  simp [h]
theorem cr_div (l : List Nat) : ∀ i, i ≤ l.length → v8 l / 256 ^ i = v8 (l.drop i) + cr l i
  | 0, _ => by rw [Nat.pow_zero, Nat.div_one]; rfl
  | i + 1, h => by
    have ih := cr_div l i (by omega)
    rw [Nat.pow_succ, ← Nat.div_div_eq_div_mul, ih, v8_drop l i (by omega)]
    show _ = v8 (l.drop (i + 1)) + (l.getD i 0 + cr l i) / 256
    generalize v8 (l.drop (i + 1)) = q
    generalize l.getD i 0 = x
    generalize cr l i = c
    omega
theorem cr_byte (l : List Nat) (i : Nat) (h : i < l.length) : vb (v8 l) i = (l.getD i 0 + cr l i) % 256 := by
  show v8 l / 256 ^ i % 256 = _
  rw [cr_div l i (by omega), v8_drop l i h]
  generalize v8 (l.drop (i + 1)) = q
  generalize l.getD i 0 = x
  generalize cr l i = c
  omega
theorem cr_le {l : List Nat} {B : Nat} (h : ∀ m, l.getD m 0 ≤ B) : ∀ i, cr l i ≤ B
  | 0 => Nat.zero_le _
  | i + 1 => by
    have h1 := cr_le h i
    have h2 := h i
    show (l.getD i 0 + cr l i) / 256 ≤ B
    omega
end Go.Proofs.YtgjpombdkgomaaaDoor
