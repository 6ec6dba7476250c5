/-
  num: what the functions on words are as numbers: sums, differences, products. No statement is proved here.
-/
import Derived.Test.YtdfghknonbmadaaGreatDoorEwA
namespace Go.Proofs.YtdfghknonbmadaaGreatDoor
namespace Mt
set_option linter.unusedVariables false
set_option linter.unusedSimpArgs false
set_option maxRecDepth 100000
def V (l : W6) : Nat := (l.getD 0 0).toNat + 18446744073709551616 * (l.getD 1 0).toNat + 340282366920938463463374607431768211456 * (l.getD 2 0).toNat + 6277101735386680763835789423207666416102355444464034512896 * (l.getD 3 0).toNat
def enc (n : Nat) : W6 := [BitVec.ofNat 64 n, BitVec.ofNat 64 (n / 18446744073709551616), BitVec.ofNat 64 (n / 340282366920938463463374607431768211456), BitVec.ofNat 64 (n / 6277101735386680763835789423207666416102355444464034512896)]
theorem V_w4 (l : W6) : V (w4 l) = V l := rfl
theorem V_lt (l : W6) : V l < 115792089237316195423570985008687907853269984665640564039457584007913129639936 := by
 unfold V
 have := (l.getD 0 0).isLt
 have := (l.getD 1 0).isLt
 have := (l.getD 2 0).isLt
 have := (l.getD 3 0).isLt
 omega
theorem V_enc {n : Nat} (h : n < 115792089237316195423570985008687907853269984665640564039457584007913129639936) : V (enc n) = n := by
 show (BitVec.ofNat 64 n).toNat + 18446744073709551616 * (BitVec.ofNat 64 (n / 18446744073709551616)).toNat + 340282366920938463463374607431768211456 * (BitVec.ofNat 64 (n / 340282366920938463463374607431768211456)).toNat + 6277101735386680763835789423207666416102355444464034512896 * (BitVec.ofNat 64 (n / 6277101735386680763835789423207666416102355444464034512896)).toNat = n
 simp only [BitVec.toNat_ofNat]
 omega
theorem enc_V (l : W6) : enc (V l) = w4 l := by
 unfold enc w4 V
 have h0 := (l.getD 0 0).isLt
 have h1 := (l.getD 1 0).isLt
 have h2 := (l.getD 2 0).isLt
 have h3 := (l.getD 3 0).isLt
 have e (x : B6) (n : Nat) (h : n % 18446744073709551616 = x.toNat) : BitVec.ofNat 64 n = x := BitVec.eq_of_toNat_eq (by rw [BitVec.toNat_ofNat]; exact h)
 rw [e (l.getD 0 0) _ (by omega), e (l.getD 1 0) _ (by omega), e (l.getD 2 0) _ (by omega), e (l.getD 3 0) _ (by omega)]
theorem eq_enc {l : W6} {n : Nat} (h : V l = n) : w4 l = enc n := h ▸ (enc_V l).symm
theorem w4_enc (n : Nat) : w4 (enc n) = enc n := rfl
theorem ad_n (x y c : B6) (h : c.toNat ≤ 1) : (adS x y c).toNat + 18446744073709551616 * (adC x y c).toNat = x.toNat + y.toNat + c.toNat ∧ (adC x y c).toNat ≤ 1 := by
 unfold adS adC
 rw [BitVec.toNat_ofNat, BitVec.toNat_ofNat]
 have := x.isLt
 have := y.isLt
 omega
theorem sb_n (x y c : B6) (h : c.toNat ≤ 1) : (sbS x y c).toNat + y.toNat + c.toNat = x.toNat + 18446744073709551616 * (sbC x y c).toNat ∧ (sbC x y c).toNat ≤ 1 := by
 unfold sbS sbC
 rw [BitVec.toNat_ofNat]
 have := x.isLt
 have := y.isLt
 split
 ·rw [show (1 : B6).toNat = 1 from rfl]; omega
 ·rw [show (0 : B6).toNat = 0 from rfl]; omega
theorem z6_n : z6.toNat = 0 := rfl
theorem plus_V (a b : W6) : V (plS adS adC a b) + 115792089237316195423570985008687907853269984665640564039457584007913129639936 * (plC adC a b 4).toNat = V a + V b := by
 have h0 := ad_n (a.getD 0 0) (b.getD 0 0) (plC adC a b 0) (show z6.toNat ≤ 1 by decide)
 have h1 := ad_n (a.getD 1 0) (b.getD 1 0) (plC adC a b 1) h0.2
 have h2 := ad_n (a.getD 2 0) (b.getD 2 0) (plC adC a b 2) h1.2
 have h3 := ad_n (a.getD 3 0) (b.getD 3 0) (plC adC a b 3) h2.2
 have k0 : (plC adC a b 0).toNat = 0 := rfl
 have e0 : adC (a.getD 0 0) (b.getD 0 0) (plC adC a b 0) = plC adC a b 1 := rfl
 have e1 : adC (a.getD 1 0) (b.getD 1 0) (plC adC a b 1) = plC adC a b 2 := rfl
 have e2 : adC (a.getD 2 0) (b.getD 2 0) (plC adC a b 2) = plC adC a b 3 := rfl
 have e3 : adC (a.getD 3 0) (b.getD 3 0) (plC adC a b 3) = plC adC a b 4 := rfl
 rw [e0] at h0; rw [e1] at h1; rw [e2] at h2; rw [e3] at h3
 show (adS (a.getD 0 0) (b.getD 0 0) (plC adC a b 0)).toNat + 18446744073709551616 * (adS (a.getD 1 0) (b.getD 1 0) (plC adC a b 1)).toNat + 340282366920938463463374607431768211456 * (adS (a.getD 2 0) (b.getD 2 0) (plC adC a b 2)).toNat + 6277101735386680763835789423207666416102355444464034512896 * (adS (a.getD 3 0) (b.getD 3 0) (plC adC a b 3)).toNat + _ = _
 unfold V
 omega
theorem minus_V (a b : W6) : V (plS sbS sbC a b) + V b = V a + 115792089237316195423570985008687907853269984665640564039457584007913129639936 * (plC sbC a b 4).toNat ∧ (plC sbC a b 4).toNat ≤ 1 := by
 have h0 := sb_n (a.getD 0 0) (b.getD 0 0) (plC sbC a b 0) (show z6.toNat ≤ 1 by decide)
 have h1 := sb_n (a.getD 1 0) (b.getD 1 0) (plC sbC a b 1) h0.2
 have h2 := sb_n (a.getD 2 0) (b.getD 2 0) (plC sbC a b 2) h1.2
 have h3 := sb_n (a.getD 3 0) (b.getD 3 0) (plC sbC a b 3) h2.2
 have k0 : (plC sbC a b 0).toNat = 0 := rfl
 have e0 : sbC (a.getD 0 0) (b.getD 0 0) (plC sbC a b 0) = plC sbC a b 1 := rfl
 have e1 : sbC (a.getD 1 0) (b.getD 1 0) (plC sbC a b 1) = plC sbC a b 2 := rfl
 have e2 : sbC (a.getD 2 0) (b.getD 2 0) (plC sbC a b 2) = plC sbC a b 3 := rfl
 have e3 : sbC (a.getD 3 0) (b.getD 3 0) (plC sbC a b 3) = plC sbC a b 4 := rfl
 rw [e0] at h0; rw [e1] at h1; rw [e2] at h2; rw [e3] at h3
 refine ⟨?_, h3.2⟩
 show (sbS (a.getD 0 0) (b.getD 0 0) (plC sbC a b 0)).toNat + 18446744073709551616 * (sbS (a.getD 1 0) (b.getD 1 0) (plC sbC a b 1)).toNat + 340282366920938463463374607431768211456 * (sbS (a.getD 2 0) (b.getD 2 0) (plC sbC a b 2)).toNat + 6277101735386680763835789423207666416102355444464034512896 * (sbS (a.getD 3 0) (b.getD 3 0) (plC sbC a b 3)).toNat + _ = _
 unfold V
 omega
theorem borrow_V (a b : W6) : plC sbC a b 4 = if V a < V b then 1 else 0 := by
 obtain ⟨h, h1⟩ := minus_V a b
 have := V_lt (plS sbS sbC a b)
 have := V_lt a
 have := V_lt b
 apply BitVec.eq_of_toNat_eq
 split
 ·rw [show (1 : B6).toNat = 1 from rfl]; omega
 ·rw [show (0 : B6).toNat = 0 from rfl]; omega
theorem neg1 : -(1 : B6) = BitVec.allOnes 64 := rfl
theorem neg0 : -(0 : B6) = 0 := rfl
theorem pk0 (a b : W6) : pkW 0 a b = w4 a := by simp [pkW, w4]
theorem pk1 (a b : W6) : pkW (BitVec.allOnes 64) a b = w4 b := by
 have e (x y : B6) : x ^^^ BitVec.allOnes 64 &&& (x ^^^ y) = y := by rw [BitVec.allOnes_and, ← BitVec.xor_assoc, BitVec.xor_self, BitVec.zero_xor]
 simp only [pkW, e, w4]
theorem PRI_V : V PRI = 57896044618658097711785492504343953926634992332820282019728792003956564819949 := rfl
theorem below_V (w : W6) : V (blX w) = if V w < 57896044618658097711785492504343953926634992332820282019728792003956564819949 then V w else V w - 57896044618658097711785492504343953926634992332820282019728792003956564819949 := by
 unfold blX blW
 rw [V_w4, borrow_V, PRI_V, V_w4]
 obtain ⟨h, h1⟩ := minus_V (w4 w) PRI
 rw [borrow_V, PRI_V, V_w4] at h
 have := V_lt (plS sbS sbC (w4 w) PRI)
 split
 ·rw [neg1, pk1]; rfl
 ·rename_i hn
  rw [if_neg hn, show (0 : B6).toNat = 0 from rfl] at h
  rw [neg0, pk0, V_w4]
  omega
theorem below_mod {w : W6} (h : V w < 2 * 57896044618658097711785492504343953926634992332820282019728792003956564819949) : V (blX w) = V w % 57896044618658097711785492504343953926634992332820282019728792003956564819949 := by
 rw [below_V]
 split <;> omega
theorem add_X {a b : W6} (ha : V a < 57896044618658097711785492504343953926634992332820282019728792003956564819949) (hb : V b < 57896044618658097711785492504343953926634992332820282019728792003956564819949) : V (adX a b) = (V a + V b) % 57896044618658097711785492504343953926634992332820282019728792003956564819949 := by
 have h := plus_V a b
 have h2 := V_lt (plS adS adC a b)
 have e : V (plS adS adC a b) = V a + V b := by omega
 unfold adX
 rw [below_mod (by rw [V_w4]; omega), V_w4, e]
theorem sub_X {a b : W6} (ha : V a < 57896044618658097711785492504343953926634992332820282019728792003956564819949) (hb : V b < 57896044618658097711785492504343953926634992332820282019728792003956564819949) : V (sbX a b) = (V a + 57896044618658097711785492504343953926634992332820282019728792003956564819949 - V b) % 57896044618658097711785492504343953926634992332820282019728792003956564819949 := by
 unfold sbX sbW
 obtain ⟨h, h1⟩ := minus_V (w4 a) (w4 b)
 rw [V_w4, V_w4] at h
 have h3 := V_lt (plS sbS sbC (w4 a) (w4 b))
 rw [V_w4]
 have hb2 := borrow_V (w4 a) (w4 b)
 rw [V_w4, V_w4] at hb2
 rw [hb2] at h ⊢
 split
 ·rename_i hlt
  rw [if_pos hlt, show (1 : B6).toNat = 1 from rfl] at h
  rw [neg1, pk1]
  have hp := plus_V (plS sbS sbC (w4 a) (w4 b)) (w4 (w4 PRI))
  rw [V_w4, V_w4, PRI_V] at hp
  have h5 := V_lt (plS adS adC (plS sbS sbC (w4 a) (w4 b)) (w4 (w4 PRI)))
  omega
 ·rename_i hlt
  rw [if_neg hlt, show (0 : B6).toNat = 0 from rfl] at h
  rw [neg0, pk0]
  have hp := plus_V (plS sbS sbC (w4 a) (w4 b)) (w4 (w4 [0, 0, 0, 0]))
  rw [V_w4, V_w4, show V [0, 0, 0, 0] = 0 from rfl] at hp
  have h5 := V_lt (plS adS adC (plS sbS sbC (w4 a) (w4 b)) (w4 (w4 [0, 0, 0, 0])))
  omega
end Mt
end Go.Proofs.YtdfghknonbmadaaGreatDoor
namespace Go.Proofs.YtdfghknonbmadaaGreatDoor
namespace Mt
set_option linter.unusedVariables false
set_option linter.unusedSimpArgs false
set_option maxRecDepth 100000
theorem sh32 (x : B6) : (x >>> 32).toNat = x.toNat / 4294967296 := by rw [BitVec.toNat_ushiftRight, Nat.shiftRight_eq_div_pow]
theorem an32 (x : B6) : (x &&& BitVec.ofInt 64 4294967295).toNat = x.toNat % 4294967296 := by
 rw [BitVec.toNat_and, show (BitVec.ofInt 64 4294967295).toNat = 2 ^ 32 - 1 from rfl, Nat.and_two_pow_sub_one_eq_mod]
theorem mul_le {a b : Nat} (ha : a < 4294967296) (hb : b < 4294967296) : a * b ≤ 18446744065119617025 := Nat.mul_le_mul (show a ≤ 4294967295 by omega) (show b ≤ 4294967295 by omega)
theorem mul_split (x1 x0 y1 y0 : Nat) : (4294967296 * x1 + x0) * (4294967296 * y1 + y0) = 18446744073709551616 * (x1 * y1) + 4294967296 * (x1 * y0 + x0 * y1) + x0 * y0 := by
 simp only [Nat.add_mul, Nat.mul_add, Nat.mul_assoc, Nat.mul_left_comm x1 4294967296, Nat.mul_left_comm x0 4294967296]
 omega
theorem mul_n (x y : B6) : (x * y).toNat + 18446744073709551616 * (hiK x y).toNat = x.toNat * y.toNat := by
 unfold hiK
 have hx := x.isLt
 have hy := y.isLt
 have e := mul_split (x.toNat / 4294967296) (x.toNat % 4294967296) (y.toNat / 4294967296) (y.toNat % 4294967296)
 rw [Nat.div_add_mod, Nat.div_add_mod] at e
 have b1 := mul_le (a := x.toNat / 4294967296) (b := y.toNat / 4294967296) (by omega) (by omega)
 have b2 := mul_le (a := x.toNat / 4294967296) (b := y.toNat % 4294967296) (by omega) (by omega)
 have b3 := mul_le (a := x.toNat % 4294967296) (b := y.toNat / 4294967296) (by omega) (by omega)
 have b4 := mul_le (a := x.toNat % 4294967296) (b := y.toNat % 4294967296) (by omega) (by omega)
 simp only [BitVec.toNat_add, BitVec.toNat_mul, sh32, an32]
 rw [e]
 generalize x.toNat / 4294967296 * (y.toNat / 4294967296) = A at *
 generalize x.toNat / 4294967296 * (y.toNat % 4294967296) = B at *
 generalize x.toNat % 4294967296 * (y.toNat / 4294967296) = C at *
 generalize x.toNat % 4294967296 * (y.toNat % 4294967296) = D at *
 rw [show 2 ^ 64 = 18446744073709551616 from rfl]
 omega
theorem step_n (x y s c : B6) : (stLX x y s c).toNat + 18446744073709551616 * (stHX x y s c).toNat = x.toNat * y.toNat + s.toNat + c.toNat := by
 have h := mul_n x y
 have h1 := ad_n (x * y) s z6 (by decide)
 have h2 := ad_n (adS (x * y) s z6) c z6 (by decide)
 rw [z6_n] at h1 h2
 have hx := x.isLt
 have hy := y.isLt
 have hs := s.isLt
 have hc := c.isLt
 have hb : x.toNat * y.toNat ≤ 18446744073709551615 * 18446744073709551615 := Nat.mul_le_mul (by omega) (by omega)
 show (adS (adS (x * y) s z6) c z6).toNat + 18446744073709551616 * (hiK x y + adC (x * y) s z6 + adC (adS (x * y) s z6) c z6).toNat = _
 rw [BitVec.toNat_add, BitVec.toNat_add, show 2 ^ 64 = 18446744073709551616 from rfl]
 generalize x.toNat * y.toNat = X at *
 have := (hiK x y).isLt
 omega
def V5 (l : W6) : Nat := V l + 115792089237316195423570985008687907853269984665640564039457584007913129639936 * (l.getD 4 0).toNat
theorem row_V (x : B6) (b s : W6) : V5 (rwX x b s) = x.toNat * V b + V s := by
 have h0 := step_n x (b.getD 0 0) (s.getD 0 0) (rwC stHX x b s 0)
 have h1 := step_n x (b.getD 1 0) (s.getD 1 0) (rwC stHX x b s 1)
 have h2 := step_n x (b.getD 2 0) (s.getD 2 0) (rwC stHX x b s 2)
 have h3 := step_n x (b.getD 3 0) (s.getD 3 0) (rwC stHX x b s 3)
 have k0 : (rwC stHX x b s 0).toNat = 0 := rfl
 have e0 : stHX x (b.getD 0 0) (s.getD 0 0) (rwC stHX x b s 0) = rwC stHX x b s 1 := rfl
 have e1 : stHX x (b.getD 1 0) (s.getD 1 0) (rwC stHX x b s 1) = rwC stHX x b s 2 := rfl
 have e2 : stHX x (b.getD 2 0) (s.getD 2 0) (rwC stHX x b s 2) = rwC stHX x b s 3 := rfl
 have e3 : stHX x (b.getD 3 0) (s.getD 3 0) (rwC stHX x b s 3) = rwC stHX x b s 4 := rfl
 rw [e0] at h0; rw [e1] at h1; rw [e2] at h2; rw [e3] at h3
 show (stLX x (b.getD 0 0) (s.getD 0 0) (rwC stHX x b s 0)).toNat + 18446744073709551616 * (stLX x (b.getD 1 0) (s.getD 1 0) (rwC stHX x b s 1)).toNat + 340282366920938463463374607431768211456 * (stLX x (b.getD 2 0) (s.getD 2 0) (rwC stHX x b s 2)).toNat + 6277101735386680763835789423207666416102355444464034512896 * (stLX x (b.getD 3 0) (s.getD 3 0) (rwC stHX x b s 3)).toNat + 115792089237316195423570985008687907853269984665640564039457584007913129639936 * (rwC stHX x b s 4).toNat = _
 unfold V
 rw [Nat.mul_add, Nat.mul_add, Nat.mul_add, Nat.mul_left_comm x.toNat 18446744073709551616, Nat.mul_left_comm x.toNat 340282366920938463463374607431768211456, Nat.mul_left_comm x.toNat 6277101735386680763835789423207666416102355444464034512896]
 generalize x.toNat * (b.getD 0 0).toNat = y0 at *
 generalize x.toNat * (b.getD 1 0).toNat = y1 at *
 generalize x.toNat * (b.getD 2 0).toNat = y2 at *
 generalize x.toNat * (b.getD 3 0).toNat = y3 at *
 omega
theorem fold_gen2 {v top h p m r m2 : Nat} (hm : m = p + 19) (hlin : v + 19 * (2 * top + h) = r + m * h) (h2 : m2 = 2 * m) : r % p = (v + m2 * top) % p := by
 have e : v + m2 * top = r + p * (h + 2 * top) := by
  subst hm
  subst h2
  have e1 : (p + 19) * h = p * h + 19 * h := Nat.add_mul _ _ _
  have e2 : 2 * (p + 19) * top = 2 * (p * top) + 38 * top := by rw [Nat.mul_assoc, Nat.add_mul]; omega
  have e3 : p * (h + 2 * top) = p * h + 2 * (p * top) := by rw [Nat.mul_add, Nat.mul_left_comm]
  rw [e1] at hlin
  rw [e2, e3]
  generalize p * h = X at *
  generalize p * top = Y at *
  omega
 rw [e, Nat.add_mul_mod_self_left]
theorem ovr_n (w : W6) (t : B6) (ht : t.toNat ≤ 100) : (ovr w t).toNat = 19 * (2 * t.toNat + (w.getD 3 0).toNat / 9223372036854775808) := by
 unfold ovr
 have hw := (w.getD 3 0).isLt
 rw [BitVec.toNat_mul, BitVec.toNat_or, BitVec.toNat_shiftLeft, BitVec.toNat_ushiftRight, show (BitVec.ofInt 64 19).toNat = 19 from rfl, Nat.shiftRight_eq_div_pow, show 2 ^ 63 = 9223372036854775808 from rfl, show 2 ^ 64 = 18446744073709551616 from rfl, Nat.shiftLeft_eq]
 have e : t.toNat * 2 ^ 1 % 18446744073709551616 = 2 ^ 1 * t.toNat := by omega
 rw [e, ← Nat.two_pow_add_eq_or_of_lt (i := 1) (show (w.getD 3 0).toNat / 9223372036854775808 < 2 ^ 1 by omega)]
 omega
theorem an63 (x : B6) : (x &&& BitVec.ofInt 64 9223372036854775807).toNat = x.toNat % 9223372036854775808 := by
 rw [BitVec.toNat_and, show (BitVec.ofInt 64 9223372036854775807).toNat = 2 ^ 63 - 1 from rfl, Nat.and_two_pow_sub_one_eq_mod]
theorem fold_X (w : W6) (t : B6) (ht : t.toNat ≤ 100) : V (fdX w t) = (V w + 115792089237316195423570985008687907853269984665640564039457584007913129639936 * t.toNat) % 57896044618658097711785492504343953926634992332820282019728792003956564819949 := by
 have ho := ovr_n w t ht
 have hw0 := (w.getD 0 0).isLt
 have hw1 := (w.getD 1 0).isLt
 have hw2 := (w.getD 2 0).isLt
 have hw3 := (w.getD 3 0).isLt
 have h0 := ad_n (w.getD 0 0) (ovr w t) z6 (by decide)
 have h1 := ad_n (w.getD 1 0) z6 (fdC adC w t 1) h0.2
 have h2 := ad_n (w.getD 2 0) z6 (fdC adC w t 2) h1.2
 have e0 : adC (w.getD 0 0) (ovr w t) z6 = fdC adC w t 1 := rfl
 have e1 : adC (w.getD 1 0) z6 (fdC adC w t 1) = fdC adC w t 2 := rfl
 have e2 : adC (w.getD 2 0) z6 (fdC adC w t 2) = fdC adC w t 3 := rfl
 rw [e0] at h0; rw [e1] at h1; rw [e2] at h2
 rw [z6_n] at h0 h1 h2
 have h3 : ((w.getD 3 0 &&& BitVec.ofInt 64 9223372036854775807) + fdC adC w t 3).toNat = (w.getD 3 0).toNat % 9223372036854775808 + (fdC adC w t 3).toNat := by
  rw [BitVec.toNat_add, an63, show 2 ^ 64 = 18446744073709551616 from rfl]
  omega
 have hv : V [adS (w.getD 0 0) (ovr w t) z6, adS (w.getD 1 0) z6 (fdC adC w t 1), adS (w.getD 2 0) z6 (fdC adC w t 2), (w.getD 3 0 &&& BitVec.ofInt 64 9223372036854775807) + fdC adC w t 3] = (adS (w.getD 0 0) (ovr w t) z6).toNat + 18446744073709551616 * (adS (w.getD 1 0) z6 (fdC adC w t 1)).toNat + 340282366920938463463374607431768211456 * (adS (w.getD 2 0) z6 (fdC adC w t 2)).toNat + 6277101735386680763835789423207666416102355444464034512896 * ((w.getD 3 0 &&& BitVec.ofInt 64 9223372036854775807) + fdC adC w t 3).toNat := rfl
 rw [h3] at hv
 unfold fdX fdW
 rw [V_w4]
 have hl : V w + 19 * (2 * t.toNat + (w.getD 3 0).toNat / 9223372036854775808) = V [adS (w.getD 0 0) (ovr w t) z6, adS (w.getD 1 0) z6 (fdC adC w t 1), adS (w.getD 2 0) z6 (fdC adC w t 2), (w.getD 3 0 &&& BitVec.ofInt 64 9223372036854775807) + fdC adC w t 3] + 57896044618658097711785492504343953926634992332820282019728792003956564819968 * ((w.getD 3 0).toNat / 9223372036854775808) := by
  rw [hv, ← ho]
  unfold V
  omega
 rw [below_mod (by omega)]
 exact fold_gen2 (p := 57896044618658097711785492504343953926634992332820282019728792003956564819949) (by rfl) hl (by rfl)
theorem prod_split (a0 a1 a2 a3 b m m2 m3 : Nat) : (a0 + m * a1 + m2 * a2 + m3 * a3) * b = a0 * b + m * (a1 * b) + m2 * (a2 * b) + m3 * (a3 * b) := by
 rw [Nat.add_mul, Nat.add_mul, Nat.add_mul, Nat.mul_assoc, Nat.mul_assoc, Nat.mul_assoc]
theorem times_gen {x l h p m r t : Nat} (hm : m = 2 * p + 38) (hx : x = l + m * h) (hr : r + m * t = 38 * h + l) : (r + m * t) % p = x % p := by
 have e : x = r + m * t + p * (2 * h) := by
  have e1 : m * h = p * (2 * h) + 38 * h := by rw [hm, Nat.add_mul, Nat.mul_left_comm, Nat.mul_assoc]
  omega
 rw [e, Nat.add_mul_mod_self_left]
theorem V5_is (l : W6) : V5 l = (l.getD 0 0).toNat + 18446744073709551616 * V [l.getD 1 0, l.getD 2 0, l.getD 3 0, l.getD 4 0] := by
 show (l.getD 0 0).toNat + 18446744073709551616 * (l.getD 1 0).toNat + 340282366920938463463374607431768211456 * (l.getD 2 0).toNat + 6277101735386680763835789423207666416102355444464034512896 * (l.getD 3 0).toNat + 115792089237316195423570985008687907853269984665640564039457584007913129639936 * (l.getD 4 0).toNat = (l.getD 0 0).toNat + 18446744073709551616 * ((l.getD 1 0).toNat + 18446744073709551616 * (l.getD 2 0).toNat + 340282366920938463463374607431768211456 * (l.getD 3 0).toNat + 6277101735386680763835789423207666416102355444464034512896 * (l.getD 4 0).toNat)
 omega
theorem mul_X (a b : W6) : V (tmX a b) = V a * V b % 57896044618658097711785492504343953926634992332820282019728792003956564819949 := by
 have h0 := row_V (a.getD 0 0) b [z6, z6, z6, z6]
 have h1 := row_V (a.getD 1 0) b [(tmR rwX a b 0).getD 1 0, (tmR rwX a b 0).getD 2 0, (tmR rwX a b 0).getD 3 0, (tmR rwX a b 0).getD 4 0]
 have h2 := row_V (a.getD 2 0) b [(tmR rwX a b 1).getD 1 0, (tmR rwX a b 1).getD 2 0, (tmR rwX a b 1).getD 3 0, (tmR rwX a b 1).getD 4 0]
 have h3 := row_V (a.getD 3 0) b [(tmR rwX a b 2).getD 1 0, (tmR rwX a b 2).getD 2 0, (tmR rwX a b 2).getD 3 0, (tmR rwX a b 2).getD 4 0]
 have h4 := row_V (BitVec.ofInt 64 38) [(tmR rwX a b 3).getD 1 0, (tmR rwX a b 3).getD 2 0, (tmR rwX a b 3).getD 3 0, (tmR rwX a b 3).getD 4 0] [(tmR rwX a b 0).getD 0 0, (tmR rwX a b 1).getD 0 0, (tmR rwX a b 2).getD 0 0, (tmR rwX a b 3).getD 0 0]
 have e0 : rwX (a.getD 0 0) b [z6, z6, z6, z6] = tmR rwX a b 0 := rfl
 have e1 : rwX (a.getD 1 0) b [(tmR rwX a b 0).getD 1 0, (tmR rwX a b 0).getD 2 0, (tmR rwX a b 0).getD 3 0, (tmR rwX a b 0).getD 4 0] = tmR rwX a b 1 := rfl
 have e2 : rwX (a.getD 2 0) b [(tmR rwX a b 1).getD 1 0, (tmR rwX a b 1).getD 2 0, (tmR rwX a b 1).getD 3 0, (tmR rwX a b 1).getD 4 0] = tmR rwX a b 2 := rfl
 have e3 : rwX (a.getD 3 0) b [(tmR rwX a b 2).getD 1 0, (tmR rwX a b 2).getD 2 0, (tmR rwX a b 2).getD 3 0, (tmR rwX a b 2).getD 4 0] = tmR rwX a b 3 := rfl
 have e4 : rwX (BitVec.ofInt 64 38) [(tmR rwX a b 3).getD 1 0, (tmR rwX a b 3).getD 2 0, (tmR rwX a b 3).getD 3 0, (tmR rwX a b 3).getD 4 0] [(tmR rwX a b 0).getD 0 0, (tmR rwX a b 1).getD 0 0, (tmR rwX a b 2).getD 0 0, (tmR rwX a b 3).getD 0 0] = tmL rwX a b := rfl
 rw [e0, V5_is, show V [z6, z6, z6, z6] = 0 from rfl] at h0
 rw [e1, V5_is] at h1
 rw [e2, V5_is] at h2
 rw [e3, V5_is] at h3
 rw [e4, show (BitVec.ofInt 64 38).toNat = 38 from rfl] at h4
 have hs := prod_split (a.getD 0 0).toNat (a.getD 1 0).toNat (a.getD 2 0).toNat (a.getD 3 0).toNat (V b) 18446744073709551616 340282366920938463463374607431768211456 6277101735386680763835789423207666416102355444464034512896
 have hlin : V a * V b = V [(tmR rwX a b 0).getD 0 0, (tmR rwX a b 1).getD 0 0, (tmR rwX a b 2).getD 0 0, (tmR rwX a b 3).getD 0 0] + 115792089237316195423570985008687907853269984665640564039457584007913129639936 * V [(tmR rwX a b 3).getD 1 0, (tmR rwX a b 3).getD 2 0, (tmR rwX a b 3).getD 3 0, (tmR rwX a b 3).getD 4 0] := by
  rw [show V [(tmR rwX a b 0).getD 0 0, (tmR rwX a b 1).getD 0 0, (tmR rwX a b 2).getD 0 0, (tmR rwX a b 3).getD 0 0] = ((tmR rwX a b 0).getD 0 0).toNat + 18446744073709551616 * ((tmR rwX a b 1).getD 0 0).toNat + 340282366920938463463374607431768211456 * ((tmR rwX a b 2).getD 0 0).toNat + 6277101735386680763835789423207666416102355444464034512896 * ((tmR rwX a b 3).getD 0 0).toNat from rfl]
  rw [show V a = (a.getD 0 0).toNat + 18446744073709551616 * (a.getD 1 0).toNat + 340282366920938463463374607431768211456 * (a.getD 2 0).toNat + 6277101735386680763835789423207666416102355444464034512896 * (a.getD 3 0).toNat from rfl, hs]
  generalize (a.getD 0 0).toNat * V b = X0 at *
  generalize (a.getD 1 0).toNat * V b = X1 at *
  generalize (a.getD 2 0).toNat * V b = X2 at *
  generalize (a.getD 3 0).toNat * V b = X3 at *
  generalize V [(tmR rwX a b 0).getD 1 0, (tmR rwX a b 0).getD 2 0, (tmR rwX a b 0).getD 3 0, (tmR rwX a b 0).getD 4 0] = Y0 at *
  generalize V [(tmR rwX a b 1).getD 1 0, (tmR rwX a b 1).getD 2 0, (tmR rwX a b 1).getD 3 0, (tmR rwX a b 1).getD 4 0] = Y1 at *
  generalize V [(tmR rwX a b 2).getD 1 0, (tmR rwX a b 2).getD 2 0, (tmR rwX a b 2).getD 3 0, (tmR rwX a b 2).getD 4 0] = Y2 at *
  generalize V [(tmR rwX a b 3).getD 1 0, (tmR rwX a b 3).getD 2 0, (tmR rwX a b 3).getD 3 0, (tmR rwX a b 3).getD 4 0] = Y3 at *
  clear h4 e0 e1 e2 e3 e4 hs
  omega
 have b1 := V_lt [(tmR rwX a b 0).getD 0 0, (tmR rwX a b 1).getD 0 0, (tmR rwX a b 2).getD 0 0, (tmR rwX a b 3).getD 0 0]
 have b2 := V_lt [(tmR rwX a b 3).getD 1 0, (tmR rwX a b 3).getD 2 0, (tmR rwX a b 3).getD 3 0, (tmR rwX a b 3).getD 4 0]
 have ht : ((tmL rwX a b).getD 4 0).toNat ≤ 100 := by
  unfold V5 at h4
  clear hlin h0 h1 h2 h3
  omega
 unfold tmX tmW
 rw [V_w4, fold_X _ _ ht]
 exact times_gen (p := 57896044618658097711785492504343953926634992332820282019728792003956564819949) (by rfl) hlin h4
end Mt
end Go.Proofs.YtdfghknonbmadaaGreatDoor
