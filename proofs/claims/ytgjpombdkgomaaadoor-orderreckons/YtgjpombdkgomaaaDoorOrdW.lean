/-
  The document's MulAdd (pharosref07): its rows, as plain lists. No statement is proved here.
-/
import Derived.Test.YtgjpombdkgomaaaDoorOrdU
namespace Go.Proofs.YtgjpombdkgomaaaDoor
open Go.RowKit Go.Lib Go.BigFrame
set_option linter.unusedVariables false
set_option linter.unusedSimpArgs false
set_option maxRecDepth 1000000
set_option maxHeartbeats 4000000

/-- What a row of digits of 8 bits is, the lowest first; the digits may be greater. -/
def v8 : List Nat → Nat
  | [] => 0
  | x :: l => x + 256 * v8 l
theorem v8_set : ∀ (l : List Nat) (m x : Nat), m < l.length → v8 (l.set m x) + 256 ^ m * l.getD m 0 = v8 l + 256 ^ m * x
  | [], m, x, h => by simp at h
  | y :: l, 0, x, h => by simp [v8]; omega
  | y :: l, m + 1, x, h => by
    have ih := v8_set l m x (by simpa using h)
    show y + 256 * v8 (l.set m x) + 256 ^ (m + 1) * l.getD m 0 = y + 256 * v8 l + 256 ^ (m + 1) * x
    rw [Nat.pow_succ, Nat.mul_comm (256 ^ m) 256, Nat.mul_assoc, Nat.mul_assoc, Nat.add_assoc, Nat.add_assoc, ← Nat.mul_add, ← Nat.mul_add, ih]
theorem v8_add (l : List Nat) (m x : Nat) (h : m < l.length) : v8 (l.set m (l.getD m 0 + x)) = v8 l + 256 ^ m * x := by
  have := v8_set l m (l.getD m 0 + x) h
  rw [Nat.mul_add] at this
  omega
theorem v8_zeros : ∀ n, v8 (List.replicate n 0) = 0
  | 0 => rfl
  | n + 1 => by
    have := v8_zeros n
    show 0 + 256 * v8 (List.replicate n 0) = 0
    omega
theorem mod_vb (b j : Nat) : b % 256 ^ (j + 1) = b % 256 ^ j + 256 ^ j * vb b j := Nat.mod_pow_succ
/-- The rows of MulAdd ahead of step k of row i, c's byte i being in. -/
structure MR (a b c i k : Nat) (l : List Nat) : Prop where
  len : l.length = 65
  le : ∀ m, l.getD m 0 ≤ (i + 1) * 65280
  fresh : ∀ m, i + k ≤ m → l.getD m 0 ≤ i * 65280 + 255
  val : v8 l = c % 256 ^ (i + 1) + a % 256 ^ i * b + 256 ^ i * (vb a i * (b % 256 ^ k))
theorem getD_set' (l : List Nat) (m x n : Nat) (h : m < l.length) : (l.set m x).getD n 0 = if n = m then x else l.getD n 0 := by
  rw [List.getD_eq_getElem?_getD, List.getD_eq_getElem?_getD, List.getElem?_set]
  by_cases e : m = n
  · subst e; simp [h]
  · rw [if_neg e, if_neg (fun h => e h.symm)]
theorem prod_le (x y : Nat) (hx : x < 256) (hy : y < 256) : x * y ≤ 65025 := by
  have := Nat.mul_le_mul (show x ≤ 255 by omega) (show y ≤ 255 by omega)
  omega
theorem MR.step {a b c i k : Nat} {l : List Nat} (h : MR a b c i k l) (hi : i < 32) (hk : k < 32) : MR a b c i (k + 1) (l.set (i + k) (l.getD (i + k) 0 + vb a i * vb b k)) := by
  have hp := prod_le _ _ (vb_lt a i) (vb_lt b k)
  have hf := h.fresh (i + k) (Nat.le_refl _)
  have hlen : i + k < l.length := by rw [h.len]; omega
  refine ⟨by rw [List.length_set]; exact h.len, fun m => ?_, fun m hm => ?_, ?_⟩
  · rw [getD_set' _ _ _ _ hlen]
    split
    · omega
    · exact h.le m
  · rw [getD_set' _ _ _ _ hlen, if_neg (by omega)]
    exact h.fresh m (by omega)
  · rw [v8_add _ _ _ hlen, h.val, mod_vb b k]
    have e : 256 ^ i * (vb a i * (b % 256 ^ k + 256 ^ k * vb b k)) = 256 ^ i * (vb a i * (b % 256 ^ k)) + 256 ^ (i + k) * (vb a i * vb b k) := by
      rw [Nat.mul_add, Nat.mul_add, Nat.pow_add, Nat.mul_left_comm (vb a i) (256 ^ k), Nat.mul_assoc]
    rw [e]; omega
end Go.Proofs.YtgjpombdkgomaaaDoor
