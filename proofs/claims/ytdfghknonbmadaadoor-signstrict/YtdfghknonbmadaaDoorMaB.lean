/-
  num: what products of words are as numbers. No statement is proved here.
-/
import Derived.Test.YtdfghknonbmadaaDoorNuF
namespace Go.Proofs.YtdfghknonbmadaaDoor
namespace Mt
set_option linter.unusedVariables false
set_option linter.unusedSimpArgs false
set_option maxRecDepth 100000

theorem sh32 (x : B6) : (x >>> 32).toNat = x.toNat / 4294967296 := by rw [BitVec.toNat_ushiftRight, Nat.shiftRight_eq_div_pow]
theorem an32 (x : B6) : (x &&& BitVec.ofInt 64 4294967295).toNat = x.toNat % 4294967296 := by
  rw [BitVec.toNat_and, show (BitVec.ofInt 64 4294967295).toNat = 2 ^ 32 - 1 from rfl, Nat.and_two_pow_sub_one_eq_mod]
theorem mul_le {a b : Nat} (ha : a < 4294967296) (hb : b < 4294967296) : a * b ≤ 18446744065119617025 := Nat.mul_le_mul (show a ≤ 4294967295 by omega) (show b ≤ 4294967295 by omega)
theorem mul_split (x1 x0 y1 y0 : Nat) : (4294967296 * x1 + x0) * (4294967296 * y1 + y0) = 18446744073709551616 * (x1 * y1) + 4294967296 * (x1 * y0 + x0 * y1) + x0 * y0 := by
  simp only [Nat.add_mul, Nat.mul_add, Nat.mul_assoc, Nat.mul_left_comm x1 4294967296, Nat.mul_left_comm x0 4294967296]
  omega
theorem mul_n (x y : B6) : (x * y).toNat + 18446744073709551616 * (hiK x y).toNat = x.toNat * y.toNat := by
  unfold hiK
  have hx := x.isLt
  have hy := y.isLt
  have e := mul_split (x.toNat / 4294967296) (x.toNat % 4294967296) (y.toNat / 4294967296) (y.toNat % 4294967296)
  rw [Nat.div_add_mod, Nat.div_add_mod] at e
  have b1 := mul_le (a := x.toNat / 4294967296) (b := y.toNat / 4294967296) (by omega) (by omega)
  have b2 := mul_le (a := x.toNat / 4294967296) (b := y.toNat % 4294967296) (by omega) (by omega)
  have b3 := mul_le (a := x.toNat % 4294967296) (b := y.toNat / 4294967296) (by omega) (by omega)
  have b4 := mul_le (a := x.toNat % 4294967296) (b := y.toNat % 4294967296) (by omega) (by omega)
  simp only [BitVec.toNat_add, BitVec.toNat_mul, sh32, an32]
  rw [e]
  generalize x.toNat / 4294967296 * (y.toNat / 4294967296) = A at *
  generalize x.toNat / 4294967296 * (y.toNat % 4294967296) = B at *
  generalize x.toNat % 4294967296 * (y.toNat / 4294967296) = C at *
  generalize x.toNat % 4294967296 * (y.toNat % 4294967296) = D at *
  rw [show 2 ^ 64 = 18446744073709551616 from rfl]
  omega
theorem step_n (x y s c : B6) : (stLX x y s c).toNat + 18446744073709551616 * (stHX x y s c).toNat = x.toNat * y.toNat + s.toNat + c.toNat := by
  have h := mul_n x y
  have h1 := ad_n (x * y) s z6 (by decide)
  have h2 := ad_n (adS (x * y) s z6) c z6 (by decide)
  rw [z6_n] at h1 h2
  have hx := x.isLt
  have hy := y.isLt
  have hs := s.isLt
  have hc := c.isLt
  have hb : x.toNat * y.toNat ≤ 18446744073709551615 * 18446744073709551615 := Nat.mul_le_mul (by omega) (by omega)
  show (adS (adS (x * y) s z6) c z6).toNat + 18446744073709551616 * (hiK x y + adC (x * y) s z6 + adC (adS (x * y) s z6) c z6).toNat = _
  rw [BitVec.toNat_add, BitVec.toNat_add, show 2 ^ 64 = 18446744073709551616 from rfl]
  generalize x.toNat * y.toNat = X at *
  have := (hiK x y).isLt
  omega
def V5 (l : W6) : Nat := V l + 115792089237316195423570985008687907853269984665640564039457584007913129639936 * (l.getD 4 0).toNat
theorem row_V (x : B6) (b s : W6) : V5 (rwX x b s) = x.toNat * V b + V s := by
  have h0 := step_n x (b.getD 0 0) (s.getD 0 0) (rwC stHX x b s 0)
  have h1 := step_n x (b.getD 1 0) (s.getD 1 0) (rwC stHX x b s 1)
  have h2 := step_n x (b.getD 2 0) (s.getD 2 0) (rwC stHX x b s 2)
  have h3 := step_n x (b.getD 3 0) (s.getD 3 0) (rwC stHX x b s 3)
  have k0 : (rwC stHX x b s 0).toNat = 0 := rfl
  have e0 : stHX x (b.getD 0 0) (s.getD 0 0) (rwC stHX x b s 0) = rwC stHX x b s 1 := rfl
  have e1 : stHX x (b.getD 1 0) (s.getD 1 0) (rwC stHX x b s 1) = rwC stHX x b s 2 := rfl
  have e2 : stHX x (b.getD 2 0) (s.getD 2 0) (rwC stHX x b s 2) = rwC stHX x b s 3 := rfl
  have e3 : stHX x (b.getD 3 0) (s.getD 3 0) (rwC stHX x b s 3) = rwC stHX x b s 4 := rfl
  rw [e0] at h0; rw [e1] at h1; rw [e2] at h2; rw [e3] at h3
  show (stLX x (b.getD 0 0) (s.getD 0 0) (rwC stHX x b s 0)).toNat + 18446744073709551616 * (stLX x (b.getD 1 0) (s.getD 1 0) (rwC stHX x b s 1)).toNat + 340282366920938463463374607431768211456 * (stLX x (b.getD 2 0) (s.getD 2 0) (rwC stHX x b s 2)).toNat + 6277101735386680763835789423207666416102355444464034512896 * (stLX x (b.getD 3 0) (s.getD 3 0) (rwC stHX x b s 3)).toNat + 115792089237316195423570985008687907853269984665640564039457584007913129639936 * (rwC stHX x b s 4).toNat = _
  unfold V
  rw [Nat.mul_add, Nat.mul_add, Nat.mul_add, Nat.mul_left_comm x.toNat 18446744073709551616, Nat.mul_left_comm x.toNat 340282366920938463463374607431768211456, Nat.mul_left_comm x.toNat 6277101735386680763835789423207666416102355444464034512896]
  generalize x.toNat * (b.getD 0 0).toNat = y0 at *
  generalize x.toNat * (b.getD 1 0).toNat = y1 at *
  generalize x.toNat * (b.getD 2 0).toNat = y2 at *
  generalize x.toNat * (b.getD 3 0).toNat = y3 at *
  omega
theorem fold_gen2 {v top h p m r m2 : Nat} (hm : m = p + 19) (hlin : v + 19 * (2 * top + h) = r + m * h) (h2 : m2 = 2 * m) : r % p = (v + m2 * top) % p := by
  have e : v + m2 * top = r + p * (h + 2 * top) := by
    subst hm
    subst h2
    have e1 : (p + 19) * h = p * h + 19 * h := Nat.add_mul _ _ _
    have e2 : 2 * (p + 19) * top = 2 * (p * top) + 38 * top := by rw [Nat.mul_assoc, Nat.add_mul]; omega
    have e3 : p * (h + 2 * top) = p * h + 2 * (p * top) := by rw [Nat.mul_add, Nat.mul_left_comm]
    rw [e1] at hlin
    rw [e2, e3]
    generalize p * h = X at *
    generalize p * top = Y at *
    omega
  rw [e, Nat.add_mul_mod_self_left]
theorem ovr_n (w : W6) (t : B6) (ht : t.toNat ≤ 100) : (ovr w t).toNat = 19 * (2 * t.toNat + (w.getD 3 0).toNat / 9223372036854775808) := by
  unfold ovr
  have hw := (w.getD 3 0).isLt
  rw [BitVec.toNat_mul, BitVec.toNat_or, BitVec.toNat_shiftLeft, BitVec.toNat_ushiftRight, show (BitVec.ofInt 64 19).toNat = 19 from rfl, Nat.shiftRight_eq_div_pow, show 2 ^ 63 = 9223372036854775808 from rfl, show 2 ^ 64 = 18446744073709551616 from rfl, Nat.shiftLeft_eq]
  have e : t.toNat * 2 ^ 1 % 18446744073709551616 = 2 ^ 1 * t.toNat := by omega
  rw [e, ← Nat.two_pow_add_eq_or_of_lt (i := 1) (show (w.getD 3 0).toNat / 9223372036854775808 < 2 ^ 1 by omega)]
  omega
theorem an63 (x : B6) : (x &&& BitVec.ofInt 64 9223372036854775807).toNat = x.toNat % 9223372036854775808 := by
  rw [BitVec.toNat_and, show (BitVec.ofInt 64 9223372036854775807).toNat = 2 ^ 63 - 1 from rfl, Nat.and_two_pow_sub_one_eq_mod]
theorem fold_X (w : W6) (t : B6) (ht : t.toNat ≤ 100) : V (fdX w t) = (V w + 115792089237316195423570985008687907853269984665640564039457584007913129639936 * t.toNat) % 57896044618658097711785492504343953926634992332820282019728792003956564819949 := by
  have ho := ovr_n w t ht
  have hw0 := (w.getD 0 0).isLt
  have hw1 := (w.getD 1 0).isLt
  have hw2 := (w.getD 2 0).isLt
  have hw3 := (w.getD 3 0).isLt
  have h0 := ad_n (w.getD 0 0) (ovr w t) z6 (by decide)
  have h1 := ad_n (w.getD 1 0) z6 (fdC adC w t 1) h0.2
  have h2 := ad_n (w.getD 2 0) z6 (fdC adC w t 2) h1.2
  have e0 : adC (w.getD 0 0) (ovr w t) z6 = fdC adC w t 1 := rfl
  have e1 : adC (w.getD 1 0) z6 (fdC adC w t 1) = fdC adC w t 2 := rfl
  have e2 : adC (w.getD 2 0) z6 (fdC adC w t 2) = fdC adC w t 3 := rfl
  rw [e0] at h0; rw [e1] at h1; rw [e2] at h2
  rw [z6_n] at h0 h1 h2
  have h3 : ((w.getD 3 0 &&& BitVec.ofInt 64 9223372036854775807) + fdC adC w t 3).toNat = (w.getD 3 0).toNat % 9223372036854775808 + (fdC adC w t 3).toNat := by
    rw [BitVec.toNat_add, an63, show 2 ^ 64 = 18446744073709551616 from rfl]
    omega
  have hv : V [adS (w.getD 0 0) (ovr w t) z6, adS (w.getD 1 0) z6 (fdC adC w t 1), adS (w.getD 2 0) z6 (fdC adC w t 2), (w.getD 3 0 &&& BitVec.ofInt 64 9223372036854775807) + fdC adC w t 3] = (adS (w.getD 0 0) (ovr w t) z6).toNat + 18446744073709551616 * (adS (w.getD 1 0) z6 (fdC adC w t 1)).toNat + 340282366920938463463374607431768211456 * (adS (w.getD 2 0) z6 (fdC adC w t 2)).toNat + 6277101735386680763835789423207666416102355444464034512896 * ((w.getD 3 0 &&& BitVec.ofInt 64 9223372036854775807) + fdC adC w t 3).toNat := rfl
  rw [h3] at hv
  unfold fdX fdW
  rw [V_w4]
  have hl : V w + 19 * (2 * t.toNat + (w.getD 3 0).toNat / 9223372036854775808) = V [adS (w.getD 0 0) (ovr w t) z6, adS (w.getD 1 0) z6 (fdC adC w t 1), adS (w.getD 2 0) z6 (fdC adC w t 2), (w.getD 3 0 &&& BitVec.ofInt 64 9223372036854775807) + fdC adC w t 3] + 57896044618658097711785492504343953926634992332820282019728792003956564819968 * ((w.getD 3 0).toNat / 9223372036854775808) := by
    rw [hv, ← ho]
    unfold V
    omega
  rw [below_mod (by omega)]
  exact fold_gen2 (p := 57896044618658097711785492504343953926634992332820282019728792003956564819949) (by rfl) hl (by rfl)
theorem prod_split (a0 a1 a2 a3 b m m2 m3 : Nat) : (a0 + m * a1 + m2 * a2 + m3 * a3) * b = a0 * b + m * (a1 * b) + m2 * (a2 * b) + m3 * (a3 * b) := by
  rw [Nat.add_mul, Nat.add_mul, Nat.add_mul, Nat.mul_assoc, Nat.mul_assoc, Nat.mul_assoc]
theorem times_gen {x l h p m r t : Nat} (hm : m = 2 * p + 38) (hx : x = l + m * h) (hr : r + m * t = 38 * h + l) : (r + m * t) % p = x % p := by
  have e : x = r + m * t + p * (2 * h) := by
    have e1 : m * h = p * (2 * h) + 38 * h := by rw [hm, Nat.add_mul, Nat.mul_left_comm, Nat.mul_assoc]
    omega
  rw [e, Nat.add_mul_mod_self_left]
theorem V5_is (l : W6) : V5 l = (l.getD 0 0).toNat + 18446744073709551616 * V [l.getD 1 0, l.getD 2 0, l.getD 3 0, l.getD 4 0] := by
  show (l.getD 0 0).toNat + 18446744073709551616 * (l.getD 1 0).toNat + 340282366920938463463374607431768211456 * (l.getD 2 0).toNat + 6277101735386680763835789423207666416102355444464034512896 * (l.getD 3 0).toNat + 115792089237316195423570985008687907853269984665640564039457584007913129639936 * (l.getD 4 0).toNat = (l.getD 0 0).toNat + 18446744073709551616 * ((l.getD 1 0).toNat + 18446744073709551616 * (l.getD 2 0).toNat + 340282366920938463463374607431768211456 * (l.getD 3 0).toNat + 6277101735386680763835789423207666416102355444464034512896 * (l.getD 4 0).toNat)
  omega
theorem mul_X (a b : W6) : V (tmX a b) = V a * V b % 57896044618658097711785492504343953926634992332820282019728792003956564819949 := by
  have h0 := row_V (a.getD 0 0) b [z6, z6, z6, z6]
  have h1 := row_V (a.getD 1 0) b [(tmR rwX a b 0).getD 1 0, (tmR rwX a b 0).getD 2 0, (tmR rwX a b 0).getD 3 0, (tmR rwX a b 0).getD 4 0]
  have h2 := row_V (a.getD 2 0) b [(tmR rwX a b 1).getD 1 0, (tmR rwX a b 1).getD 2 0, (tmR rwX a b 1).getD 3 0, (tmR rwX a b 1).getD 4 0]
  have h3 := row_V (a.getD 3 0) b [(tmR rwX a b 2).getD 1 0, (tmR rwX a b 2).getD 2 0, (tmR rwX a b 2).getD 3 0, (tmR rwX a b 2).getD 4 0]
  have h4 := row_V (BitVec.ofInt 64 38) [(tmR rwX a b 3).getD 1 0, (tmR rwX a b 3).getD 2 0, (tmR rwX a b 3).getD 3 0, (tmR rwX a b 3).getD 4 0] [(tmR rwX a b 0).getD 0 0, (tmR rwX a b 1).getD 0 0, (tmR rwX a b 2).getD 0 0, (tmR rwX a b 3).getD 0 0]
  have e0 : rwX (a.getD 0 0) b [z6, z6, z6, z6] = tmR rwX a b 0 := rfl
  have e1 : rwX (a.getD 1 0) b [(tmR rwX a b 0).getD 1 0, (tmR rwX a b 0).getD 2 0, (tmR rwX a b 0).getD 3 0, (tmR rwX a b 0).getD 4 0] = tmR rwX a b 1 := rfl
  have e2 : rwX (a.getD 2 0) b [(tmR rwX a b 1).getD 1 0, (tmR rwX a b 1).getD 2 0, (tmR rwX a b 1).getD 3 0, (tmR rwX a b 1).getD 4 0] = tmR rwX a b 2 := rfl
  have e3 : rwX (a.getD 3 0) b [(tmR rwX a b 2).getD 1 0, (tmR rwX a b 2).getD 2 0, (tmR rwX a b 2).getD 3 0, (tmR rwX a b 2).getD 4 0] = tmR rwX a b 3 := rfl
  have e4 : rwX (BitVec.ofInt 64 38) [(tmR rwX a b 3).getD 1 0, (tmR rwX a b 3).getD 2 0, (tmR rwX a b 3).getD 3 0, (tmR rwX a b 3).getD 4 0] [(tmR rwX a b 0).getD 0 0, (tmR rwX a b 1).getD 0 0, (tmR rwX a b 2).getD 0 0, (tmR rwX a b 3).getD 0 0] = tmL rwX a b := rfl
  rw [e0, V5_is, show V [z6, z6, z6, z6] = 0 from rfl] at h0
  rw [e1, V5_is] at h1
  rw [e2, V5_is] at h2
  rw [e3, V5_is] at h3
  rw [e4, show (BitVec.ofInt 64 38).toNat = 38 from rfl] at h4
  have hs := prod_split (a.getD 0 0).toNat (a.getD 1 0).toNat (a.getD 2 0).toNat (a.getD 3 0).toNat (V b) 18446744073709551616 340282366920938463463374607431768211456 6277101735386680763835789423207666416102355444464034512896
  have hlin : V a * V b = V [(tmR rwX a b 0).getD 0 0, (tmR rwX a b 1).getD 0 0, (tmR rwX a b 2).getD 0 0, (tmR rwX a b 3).getD 0 0] + 115792089237316195423570985008687907853269984665640564039457584007913129639936 * V [(tmR rwX a b 3).getD 1 0, (tmR rwX a b 3).getD 2 0, (tmR rwX a b 3).getD 3 0, (tmR rwX a b 3).getD 4 0] := by
    rw [show V [(tmR rwX a b 0).getD 0 0, (tmR rwX a b 1).getD 0 0, (tmR rwX a b 2).getD 0 0, (tmR rwX a b 3).getD 0 0] = ((tmR rwX a b 0).getD 0 0).toNat + 18446744073709551616 * ((tmR rwX a b 1).getD 0 0).toNat + 340282366920938463463374607431768211456 * ((tmR rwX a b 2).getD 0 0).toNat + 6277101735386680763835789423207666416102355444464034512896 * ((tmR rwX a b 3).getD 0 0).toNat from rfl]
    rw [show V a = (a.getD 0 0).toNat + 18446744073709551616 * (a.getD 1 0).toNat + 340282366920938463463374607431768211456 * (a.getD 2 0).toNat + 6277101735386680763835789423207666416102355444464034512896 * (a.getD 3 0).toNat from rfl, hs]
    generalize (a.getD 0 0).toNat * V b = X0 at *
    generalize (a.getD 1 0).toNat * V b = X1 at *
    generalize (a.getD 2 0).toNat * V b = X2 at *
    generalize (a.getD 3 0).toNat * V b = X3 at *
    generalize V [(tmR rwX a b 0).getD 1 0, (tmR rwX a b 0).getD 2 0, (tmR rwX a b 0).getD 3 0, (tmR rwX a b 0).getD 4 0] = Y0 at *
    generalize V [(tmR rwX a b 1).getD 1 0, (tmR rwX a b 1).getD 2 0, (tmR rwX a b 1).getD 3 0, (tmR rwX a b 1).getD 4 0] = Y1 at *
    generalize V [(tmR rwX a b 2).getD 1 0, (tmR rwX a b 2).getD 2 0, (tmR rwX a b 2).getD 3 0, (tmR rwX a b 2).getD 4 0] = Y2 at *
    generalize V [(tmR rwX a b 3).getD 1 0, (tmR rwX a b 3).getD 2 0, (tmR rwX a b 3).getD 3 0, (tmR rwX a b 3).getD 4 0] = Y3 at *
    clear h4 e0 e1 e2 e3 e4 hs
    omega
  have b1 := V_lt [(tmR rwX a b 0).getD 0 0, (tmR rwX a b 1).getD 0 0, (tmR rwX a b 2).getD 0 0, (tmR rwX a b 3).getD 0 0]
  have b2 := V_lt [(tmR rwX a b 3).getD 1 0, (tmR rwX a b 3).getD 2 0, (tmR rwX a b 3).getD 3 0, (tmR rwX a b 3).getD 4 0]
  have ht : ((tmL rwX a b).getD 4 0).toNat ≤ 100 := by
    unfold V5 at h4
    clear hlin h0 h1 h2 h3
    omega
  unfold tmX tmW
  rw [V_w4, fold_X _ _ ht]
  exact times_gen (p := 57896044618658097711785492504343953926634992332820282019728792003956564819949) (by rfl) hlin h4
end Mt
end Go.Proofs.YtdfghknonbmadaaDoor
