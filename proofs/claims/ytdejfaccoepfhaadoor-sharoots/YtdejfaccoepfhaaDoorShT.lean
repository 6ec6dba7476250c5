/-
  sha: the constants are the roots. No statement is proved here.
-/
import Derived.Test.YtdejfaccoepfhaaDoorShS
namespace Go.Proofs.YtdejfaccoepfhaaDoor
open Go.RowKit
set_option linter.unusedVariables false
set_option linter.unusedSimpArgs false
set_option maxRecDepth 100000

theorem rep_get (k : Nat) : (List.replicate 14 (0 : BitVec 64)).getD k 0 = 0 := by
  rw [List.getD_eq_getElem?_getD, List.getElem?_replicate]; split <;> rfl
theorem aimC_dg (p : BitVec 64) (hp : p.toNat < 512) : Dg (aimC p) := fun k => by
  unfold aimC
  rw [getD_set, rep_get]
  split
  · omega
  · decide
theorem aimC_V (p : BitVec 64) : V (aimC p) 14 = p.toNat * 2 ^ 192 := by
  have h := V_set (List.replicate 14 0) 8 p (by decide) 14 (by decide)
  rw [rep_get, V_zero] at h
  have h2 : V (aimC p) 14 + 0 * 2 ^ (24 * 8) = 0 + p.toNat * 2 ^ (24 * 8) := h
  rw [Nat.zero_mul, Nat.add_zero, Nat.zero_add] at h2
  exact h2
theorem shl8 (p : BitVec 64) (hp : p.toNat < 512) : (p <<< 8).toNat = p.toNat * 256 := by
  rw [BitVec.toNat_shiftLeft, Nat.shiftLeft_eq]
  omega
theorem aimS_eq (p : BitVec 64) (hp : p.toNat < 512) : aimS p = (List.replicate 14 (0 : BitVec 64)).set 5 (p <<< 8) := by
  have e1 : (p <<< 8) >>> 24 = 0 := BitVec.eq_of_toNat_eq (by rw [shr24, shl8 p hp]; show _ = 0; omega)
  have e2 : p <<< 8 &&& BitVec.ofInt 64 16777215 = p <<< 8 := BitVec.eq_of_toNat_eq (by rw [mask24, shl8 p hp]; omega)
  unfold aimS aimC
  rw [e1, e2]
  rfl
theorem aimS_dg (p : BitVec 64) (hp : p.toNat < 512) : Dg (aimS p) := fun k => by
  rw [aimS_eq p hp, getD_set, rep_get]
  split
  · rw [shl8 p hp]; omega
  · decide
theorem aimS_V (p : BitVec 64) (hp : p.toNat < 512) : V (aimS p) 14 = p.toNat * 2 ^ 128 := by
  have h := V_set (List.replicate 14 0) 5 (p <<< 8) (by decide) 14 (by decide)
  rw [rep_get, V_zero, shl8 p hp] at h
  have h2 : V ((List.replicate 14 0).set 5 (p <<< 8)) 14 + 0 * 2 ^ (24 * 5) = 0 + p.toNat * 256 * 2 ^ (24 * 5) := h
  rw [Nat.zero_mul, Nat.add_zero, Nat.zero_add, ← aimS_eq p hp] at h2
  rw [h2, Nat.mul_assoc]
/-- A number's root is q, and behind the point the word K. -/
def isRoot (e s : Nat) (p q : Nat) (K : BitVec 64) : Bool := decide (p < 512) && decide ((q * 18446744073709551616 + K.toNat) ^ e ≤ p * 2 ^ s) && decide (p * 2 ^ s < (q * 18446744073709551616 + K.toNat + 1) ^ e)
theorem root_c (p K : BitVec 64) (q : Nat) (h : isRoot 3 192 p.toNat q K = true) : rootOf true p = K := by
  simp only [isRoot, Bool.and_eq_true, decide_eq_true_eq] at h
  obtain ⟨⟨h1, h2⟩, h3⟩ := h
  have hA : V (aimC p) 14 < (2 ^ 71) ^ ex true := by
    rw [aimC_V]
    show p.toNat * 2 ^ 192 < (2 ^ 71) ^ 3
    exact Nat.lt_of_lt_of_le (Nat.mul_lt_mul_of_pos_right h1 (Nat.two_pow_pos _)) (by decide)
  have := rts_root (t := true) (aimC_dg p h1) hA (q * 18446744073709551616 + K.toNat) (by rw [aimC_V]; exact h2) (by rw [aimC_V]; exact h3)
  apply BitVec.eq_of_toNat_eq
  show (fin3 (rts true (aimC p) 71)).toNat = _
  rw [this, Nat.add_comm, Nat.add_mul_mod_self_right]
  exact Nat.mod_eq_of_lt K.isLt
theorem root_s (p K : BitVec 64) (q : Nat) (h : isRoot 2 128 p.toNat q K = true) : rootOf false p = K := by
  simp only [isRoot, Bool.and_eq_true, decide_eq_true_eq] at h
  obtain ⟨⟨h1, h2⟩, h3⟩ := h
  have hA : V (aimS p) 14 < (2 ^ 71) ^ ex false := by
    rw [aimS_V p h1]
    show p.toNat * 2 ^ 128 < (2 ^ 71) ^ 2
    exact Nat.lt_of_lt_of_le (Nat.mul_lt_mul_of_pos_right h1 (Nat.two_pow_pos _)) (by decide)
  have := rts_root (t := false) (aimS_dg p h1) hA (q * 18446744073709551616 + K.toNat) (by rw [aimS_V p h1]; exact h2) (by rw [aimS_V p h1]; exact h3)
  apply BitVec.eq_of_toNat_eq
  show (fin3 (rts false (aimS p) 71)).toNat = _
  rw [this, Nat.add_comm, Nat.add_mul_mod_self_right]
  exact Nat.mod_eq_of_lt K.isLt
/-- The first 80 primes, as words; the whole parts of their cube roots. -/
def pr80 : List (BitVec 64) := [2, 3, 5, 7, 11, 13, 17, 19, 23, 29, 31, 37, 41, 43, 47, 53, 59, 61, 67, 71, 73, 79, 83, 89, 97, 101, 103, 107, 109, 113, 127, 131, 137, 139, 149, 151, 157, 163, 167, 173, 179, 181, 191, 193, 197, 199, 211, 223, 227, 229, 233, 239, 241, 251, 257, 263, 269, 271, 277, 281, 283, 293, 307, 311, 313, 317, 331, 337, 347, 349, 353, 359, 367, 373, 379, 383, 389, 397, 401, 409]
def whole (e p : Nat) : List Nat → Nat
  | [] => 0
  | q :: l => bif Nat.ble (q ^ e) p then q else whole e p l
def wh (e p : Nat) : Nat := whole e p [20, 19, 18, 17, 16, 15, 14, 13, 12, 11, 10, 9, 8, 7, 6, 5, 4, 3, 2, 1]
theorem all_c : (List.range 80).all (fun k => isRoot 3 192 (pr80.getD k 0).toNat (wh 3 (pr80.getD k 0).toNat) (K80.getD k 0)) = true := by kernel_rfl
theorem all_s : (List.range 8).all (fun k => isRoot 2 128 (pr80.getD k 0).toNat (wh 2 (pr80.getD k 0).toNat) (H0.getD k 0)) = true := by kernel_rfl
theorem cube_is (k : Nat) (h : k < 80) : rootOf true (pr80.getD k 0) = K80.getD k 0 := root_c _ _ _ (List.all_eq_true.1 all_c k (List.mem_range.2 h))
theorem square_is (k : Nat) (h : k < 8) : rootOf false (pr80.getD k 0) = H0.getD k 0 := root_s _ _ _ (List.all_eq_true.1 all_s k (List.mem_range.2 h))
end Go.Proofs.YtdejfaccoepfhaaDoor
