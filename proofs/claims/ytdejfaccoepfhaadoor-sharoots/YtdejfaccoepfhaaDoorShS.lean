/-
  sha: the roots' numbers. No statement is proved here.
-/
import Derived.Test.YtdejfaccoepfhaaDoorShR
namespace Go.Proofs.YtdejfaccoepfhaaDoor
open Go.RowKit
set_option linter.unusedVariables false
set_option linter.unusedSimpArgs false
set_option maxRecDepth 100000

theorem fin3_V (x : List (BitVec 64)) (hd : Dg x) (hv : V x 14 < 2 ^ 72) : (fin3 x).toNat = V x 14 % 18446744073709551616 := by
  obtain ⟨q, hq⟩ := V_split x 3 14 (by decide)
  have hq0 : q = 0 := by
    rcases Nat.eq_zero_or_pos q with e | e
    · exact e
    · have h1 := Nat.le_mul_of_pos_right (2 ^ (24 * 3)) e
      have h2 : 2 ^ (24 * 3) = 2 ^ 72 := rfl
      omega
  subst hq0
  have h3 : V x 3 = (x.getD 0 0).toNat + (x.getD 1 0).toNat * 16777216 + (x.getD 2 0).toNat * 281474976710656 := by
    show 0 + (x.getD 0 0).toNat * 2 ^ 0 + (x.getD 1 0).toNat * 2 ^ 24 + (x.getD 2 0).toNat * 2 ^ 48 = _
    omega
  rw [hq, Nat.mul_zero, Nat.add_zero, h3]
  have d0 := hd 0
  have d1 := hd 1
  have d2 := hd 2
  unfold fin3
  rw [BitVec.toNat_or, BitVec.toNat_or, BitVec.toNat_shiftLeft, BitVec.toNat_shiftLeft, Nat.shiftLeft_eq, Nat.shiftLeft_eq]
  generalize (x.getD 0 0).toNat = a at *
  generalize (x.getD 1 0).toNat = b at *
  generalize (x.getD 2 0).toNat = c at *
  have e1 : b * 2 ^ 24 % 2 ^ 64 = 2 ^ 24 * b := by
    rw [Nat.mul_comm]
    exact Nat.mod_eq_of_lt (Nat.lt_of_lt_of_le (Nat.mul_lt_mul_of_pos_left d1 (by decide)) (by decide))
  have e2 : c * 2 ^ 48 % 2 ^ 64 = 2 ^ 48 * (c % 65536) := by
    rw [Nat.mul_comm, show (2 : Nat) ^ 64 = 2 ^ 48 * 65536 from rfl, Nat.mul_mod_mul_left]
  have o1 : a ||| 2 ^ 24 * b = 2 ^ 24 * b + a := by rw [Nat.or_comm]; exact (Nat.two_pow_add_eq_or_of_lt (by omega) b).symm
  have o2 : (2 ^ 24 * b + a) ||| 2 ^ 48 * (c % 65536) = 2 ^ 48 * (c % 65536) + (2 ^ 24 * b + a) := by rw [Nat.or_comm]; exact (Nat.two_pow_add_eq_or_of_lt (by omega) (c % 65536)).symm
  rw [e1, e2, o1, o2]
  have hc : c * 281474976710656 = 18446744073709551616 * (c / 65536) + 2 ^ 48 * (c % 65536) := by
    have := Nat.div_add_mod c 65536
    calc c * 281474976710656 = (65536 * (c / 65536) + c % 65536) * 281474976710656 := by rw [this]
      _ = _ := by rw [Nat.add_mul, Nat.mul_right_comm, Nat.mul_comm (c % 65536)]
  rw [hc, show a + b * 16777216 + (18446744073709551616 * (c / 65536) + 2 ^ 48 * (c % 65536)) = 2 ^ 48 * (c % 65536) + (2 ^ 24 * b + a) + 18446744073709551616 * (c / 65536) by rw [Nat.mul_comm b]; omega, Nat.add_mul_mod_self_left]
  refine (Nat.mod_eq_of_lt ?_).symm
  have h5 : c % 65536 ≤ 65535 := by omega
  have h6 := Nat.mul_le_mul_left (2 ^ 48) h5
  have h7 := Nat.mul_le_mul_left (2 ^ 24) (show b ≤ 16777215 by omega)
  have h8 : 2 ^ 48 * 65535 + (2 ^ 24 * 16777215 + 16777216) ≤ 18446744073709551616 := by decide
  omega
theorem root_unique (e A X Y : Nat) (he : e ≠ 0) (h1 : X ^ e ≤ A) (h2 : A < (X + 1) ^ e) (h3 : Y ^ e ≤ A) (h4 : A < (Y + 1) ^ e) : X = Y := by
  rcases Nat.lt_trichotomy X Y with q | q | q
  · have := Nat.pow_le_pow_left (show X + 1 ≤ Y from q) e; omega
  · exact q
  · have := Nat.pow_le_pow_left (show Y + 1 ≤ X from q) e; omega
/-- The root, by its number. -/
theorem rts_root {t : Bool} {aim : List (BitVec 64)} (ha : Dg aim) (hA : V aim 14 < (2 ^ 71) ^ ex t) (Y : Nat) (h3 : Y ^ ex t ≤ V aim 14) (h4 : V aim 14 < (Y + 1) ^ ex t) : (fin3 (rts t aim 71)).toNat = Y % 18446744073709551616 := by
  have h := rts_ok ha hA 71 (Nat.le_refl _)
  have he : ex t ≠ 0 := by cases t <;> decide
  have hl : V (rts t aim 71) 14 < 2 ^ 71 := by
    rcases Nat.lt_or_ge (V (rts t aim 71) 14) (2 ^ 71) with q | q
    · exact q
    · have := Nat.pow_le_pow_left q (ex t); have := h.le; omega
  have hlt := h.lt
  rw [Nat.sub_self, Nat.pow_zero] at hlt
  have := root_unique (ex t) (V aim 14) _ Y he h.le hlt h3 h4
  rw [fin3_V _ h.free.dg (Nat.lt_trans hl (by decide)), this]
end Go.Proofs.YtdejfaccoepfhaaDoor
