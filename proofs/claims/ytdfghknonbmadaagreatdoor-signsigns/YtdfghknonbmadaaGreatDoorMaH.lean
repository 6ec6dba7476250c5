/-
  Words, bytes and numbers; numbers modulo the order. No statement is proved here.
-/
import Derived.Test.YtdfghknonbmadaaGreatDoorMaG
import Derived.Test.YtdfghknonbmadaaGreatDoorOrD
import Derived.Test.YtdfghknonbmadaaGreatDoorEwA
import Derived.Test.YtdfghknonbmadaaGreatDoorEwD
namespace Go.Proofs.YtdfghknonbmadaaGreatDoor
namespace Mt
set_option linter.unusedVariables false
set_option linter.unusedSimpArgs false
set_option maxRecDepth 100000
def VW (l : W6) : Nat → Nat
 | 0 => 0
 | i + 1 => VW l i + (l.getD i 0).toNat * 18446744073709551616 ^ i
def le (l : Tx8) : Nat → Nat
 | 0 => 0
 | j + 1 => le l j + (l.getD j 0).toNat * 256 ^ j
theorem VW4 (l : W6) : VW l 4 = V l := by
 show 0 + (l.getD 0 0).toNat * 1 + (l.getD 1 0).toNat * 18446744073709551616 + (l.getD 2 0).toNat * 340282366920938463463374607431768211456 + (l.getD 3 0).toNat * 6277101735386680763835789423207666416102355444464034512896 = _
 unfold V
 omega
theorem le_lt (l : Tx8) : ∀ n, le l n < 256 ^ n
 | 0 => Nat.one_pos
 | n + 1 => by
  have h := le_lt l n
  have hb := (l.getD n 0).isLt
  rw [le, Nat.pow_succ]
  have : (l.getD n 0).toNat * 256 ^ n ≤ 255 * 256 ^ n := Nat.mul_le_mul_right _ (by omega)
  omega
theorem VW_set (l : W6) (k : Nat) (v : B6) (hk : k < l.length) : ∀ n, VW (l.set k v) n + (if k < n then (l.getD k 0).toNat * 18446744073709551616 ^ k else 0) = VW l n + (if k < n then v.toNat * 18446744073709551616 ^ k else 0)
 | 0 => by simp [VW]
 | n + 1 => by
  have ih := VW_set l k v hk n
  rw [VW, VW]
  by_cases h : n = k
  ·subst h
   rw [if_neg (by omega), if_neg (by omega)] at ih
   rw [if_pos (by omega), if_pos (by omega)]
   have e : (l.set n v).getD n 0 = v := by rw [List.getD_eq_getElem?_getD, List.getElem?_set_self hk]; rfl
   rw [e]
   omega
  ·have e : (l.set k v).getD n 0 = l.getD n 0 := by rw [List.getD_eq_getElem?_getD, List.getElem?_set_ne (by omega), ← List.getD_eq_getElem?_getD]
   rw [e]
   by_cases h2 : k < n
   ·rw [if_pos h2, if_pos h2] at ih
    rw [if_pos (by omega), if_pos (by omega)]
    omega
   ·rw [if_neg h2, if_neg h2] at ih
    rw [if_neg (by omega), if_neg (by omega)]
    omega
theorem or_add {x : B6} {b : BitVec 8} {s : Nat} (hs : s ≤ 56) (hx : x.toNat < 2 ^ s) : (x ||| b.setWidth 64 <<< s).toNat = x.toNat + b.toNat * 2 ^ s := by
 have hb := b.isLt
 have h1 : b.toNat * 2 ^ s < 2 ^ 64 := by
  have : b.toNat * 2 ^ s ≤ 255 * 2 ^ s := Nat.mul_le_mul_right _ (by omega)
  have h2 : 2 ^ s ≤ 2 ^ 56 := Nat.pow_le_pow_right (by decide) hs
  omega
 rw [BitVec.toNat_or, BitVec.toNat_shiftLeft, BitVec.toNat_setWidth, Nat.mod_eq_of_lt (show b.toNat < 2 ^ 64 by omega), Nat.shiftLeft_eq, Nat.mod_eq_of_lt h1, Nat.or_comm, Nat.mul_comm, ← Nat.two_pow_add_eq_or_of_lt hx]
 omega
theorem pow64 (j : Nat) : 18446744073709551616 ^ (j / 8) * 2 ^ (j % 8 * 8) = 256 ^ j := by
 rw [show 18446744073709551616 = 2 ^ 64 from rfl, ← Nat.pow_mul, ← Nat.pow_add, show (256 : Nat) = 2 ^ 8 from rfl, ← Nat.pow_mul]
 congr 1
 omega
theorem rdM_is (l : Tx8) (n : Nat) : ∀ j, j ≤ 8 * n → VW (rdM l n j) n = le l j ∧ ∀ k, ((rdM l n j).getD k 0).toNat < 2 ^ (8 * (j - 8 * k))
 | 0, _ => by
  have e : ∀ k, (rdM l n 0).getD k 0 = 0 := fun k => by
   show (List.replicate n (0 : B6)).getD k 0 = 0
   rw [List.getD_eq_getElem?_getD, List.getElem?_replicate]
   split <;> rfl
  refine ⟨?_, fun k => by rw [e]; exact Nat.two_pow_pos _⟩
  have : ∀ m, VW (rdM l n 0) m = 0 := fun m => by
   induction m with
   | zero => rfl
   | succ m ih => rw [VW, ih, e]; simp
  exact this n
 | j + 1, h => by
  obtain ⟨h1, h2⟩ := rdM_is l n j (by omega)
  have hlen := rdM_len l n j
  have hk : j / 8 < (rdM l n j).length := by omega
  have hx := h2 (j / 8)
  rw [show 8 * (j - 8 * (j / 8)) = j % 8 * 8 by omega] at hx
  have ho := or_add (b := l.getD j 0) (by omega) hx
  have hset := VW_set (rdM l n j) (j / 8) ((rdM l n j).getD (j / 8) 0 ||| (l.getD j 0).setWidth 64 <<< (j % 8 * 8)) hk n
  rw [if_pos (by omega), if_pos (by omega), ho, Nat.add_mul, Nat.mul_assoc, Nat.mul_comm (2 ^ (j % 8 * 8)), pow64] at hset
  have hd : rdM l n (j + 1) = (rdM l n j).set (j / 8) ((rdM l n j).getD (j / 8) 0 ||| (l.getD j 0).setWidth 64 <<< (j % 8 * 8)) := rfl
  refine ⟨?_, fun k => ?_⟩
  ·rw [hd, le]
   omega
  ·rw [hd]
   by_cases hkj : k = j / 8
   ·subst hkj
    rw [List.getD_eq_getElem?_getD, List.getElem?_set_self hk, Option.getD_some, ho]
    have hb := (l.getD j 0).isLt
    rw [show 8 * (j + 1 - 8 * (j / 8)) = j % 8 * 8 + 8 by omega, Nat.pow_add]
    have : (l.getD j 0).toNat * 2 ^ (j % 8 * 8) ≤ 255 * 2 ^ (j % 8 * 8) := Nat.mul_le_mul_right _ (by omega)
    omega
   ·rw [List.getD_eq_getElem?_getD, List.getElem?_set_ne (by omega), ← List.getD_eq_getElem?_getD]
    exact Nat.lt_of_lt_of_le (h2 k) (Nat.pow_le_pow_right (by decide) (by omega))
theorem rdN_rdM (l : Tx8) : ∀ j, rdN l j = rdM l 4 j
 | 0 => rfl
 | j + 1 => by rw [rdN, rdM, rdN_rdM l j]
theorem rd_V (l : Tx8) : V (rdX l) = le l 32 := by rw [← VW4, rdX, rdN_rdM, (rdM_is l 4 32 (by decide)).1]
theorem wrN_get (w : W6) : ∀ j k, k < j → j ≤ 32 → (wrN w j).getD k 0 = (w.getD (k / 8) 0 >>> (k % 8 * 8)).setWidth 8
 | j + 1, k, h, hj => by
  have hlen := wrN_len w j
  rw [wrN]
  by_cases hk : k = j
  ·subst hk
   rw [List.getD_eq_getElem?_getD, List.getElem?_set_self (by omega)]; rfl
  ·rw [List.getD_eq_getElem?_getD, List.getElem?_set_ne (by omega), ← List.getD_eq_getElem?_getD]
   exact wrN_get w j k (by omega) (by omega)
theorem word_V (w : W6) (i : Nat) (hi : i < 4) : (w.getD i 0).toNat = V w / 18446744073709551616 ^ i % 18446744073709551616 := by
 have h0 := (w.getD 0 0).isLt
 have h1 := (w.getD 1 0).isLt
 have h2 := (w.getD 2 0).isLt
 have h3 := (w.getD 3 0).isLt
 match i, hi with
 | 0, _ => unfold V; rw [show 18446744073709551616 ^ 0 = 1 from rfl]; omega
 | 1, _ => unfold V; rw [show 18446744073709551616 ^ 1 = 18446744073709551616 from rfl]; omega
 | 2, _ => unfold V; rw [show 18446744073709551616 ^ 2 = 340282366920938463463374607431768211456 from rfl]; omega
 | 3, _ => unfold V; rw [show 18446744073709551616 ^ 3 = 6277101735386680763835789423207666416102355444464034512896 from rfl]; omega
theorem mod_div_mod (a r : Nat) (hr : r < 8) : a % 18446744073709551616 / 2 ^ (r * 8) % 256 = a / 2 ^ (r * 8) % 256 := by
 match r, hr with
 | 0, _ => omega
 | 1, _ => omega
 | 2, _ => omega
 | 3, _ => omega
 | 4, _ => omega
 | 5, _ => omega
 | 6, _ => omega
 | 7, _ => omega
theorem wr_get (w : W6) (k : Nat) (hk : k < 32) : ((wrX w).getD k 0).toNat = V w / 256 ^ k % 256 := by
 rw [wrX, wrN_get w 32 k hk (Nat.le_refl _), BitVec.toNat_setWidth, BitVec.toNat_ushiftRight, Nat.shiftRight_eq_div_pow, word_V w (k / 8) (by omega), show 2 ^ 8 = 256 from rfl, mod_div_mod _ _ (by omega), Nat.div_div_eq_div_mul, pow64]
theorem le_dig (l : Tx8) (v : Nat) : ∀ n, (∀ k, k < n → (l.getD k 0).toNat = v / 256 ^ k % 256) → le l n = v % 256 ^ n
 | 0, _ => by rw [Nat.pow_zero, Nat.mod_one]; rfl
 | n + 1, h => by
  rw [le, le_dig l v n (fun k hk => h k (by omega)), h n (by omega), Nat.pow_succ, Nat.mod_mul]
  rw [Nat.mul_comm (256 ^ n)]
theorem le_wr (w : W6) : le (wrX w) 32 = V w := by
 rw [le_dig _ (V w) 32 (fun k hk => wr_get w k hk), show 256 ^ 32 = 115792089237316195423570985008687907853269984665640564039457584007913129639936 from rfl, Nat.mod_eq_of_lt (V_lt w)]
end Mt
end Go.Proofs.YtdfghknonbmadaaGreatDoor
namespace Go.Proofs.YtdfghknonbmadaaGreatDoor
namespace Mt
set_option linter.unusedVariables false
set_option linter.unusedSimpArgs false
set_option maxRecDepth 100000
theorem WHO_V : V WHO = 7237005577332262213973186563042994240857116359379907606001950938285454250989 := rfl
theorem puS_V (w : W6) (bit : B6) (hb : bit.toNat ≤ 1) : V (puS adS adC w bit) + 115792089237316195423570985008687907853269984665640564039457584007913129639936 * (puC adC w bit 4).toNat = 2 * V w + bit.toNat := by
 have h0 := ad_n (w.getD 0 0) (w.getD 0 0) (puC adC w bit 0) hb
 have h1 := ad_n (w.getD 1 0) (w.getD 1 0) (puC adC w bit 1) h0.2
 have h2 := ad_n (w.getD 2 0) (w.getD 2 0) (puC adC w bit 2) h1.2
 have h3 := ad_n (w.getD 3 0) (w.getD 3 0) (puC adC w bit 3) h2.2
 have k0 : (puC adC w bit 0).toNat = bit.toNat := rfl
 have e0 : adC (w.getD 0 0) (w.getD 0 0) (puC adC w bit 0) = puC adC w bit 1 := rfl
 have e1 : adC (w.getD 1 0) (w.getD 1 0) (puC adC w bit 1) = puC adC w bit 2 := rfl
 have e2 : adC (w.getD 2 0) (w.getD 2 0) (puC adC w bit 2) = puC adC w bit 3 := rfl
 have e3 : adC (w.getD 3 0) (w.getD 3 0) (puC adC w bit 3) = puC adC w bit 4 := rfl
 rw [e0] at h0; rw [e1] at h1; rw [e2] at h2; rw [e3] at h3
 show (adS (w.getD 0 0) (w.getD 0 0) (puC adC w bit 0)).toNat + 18446744073709551616 * (adS (w.getD 1 0) (w.getD 1 0) (puC adC w bit 1)).toNat + 340282366920938463463374607431768211456 * (adS (w.getD 2 0) (w.getD 2 0) (puC adC w bit 2)).toNat + 6277101735386680763835789423207666416102355444464034512896 * (adS (w.getD 3 0) (w.getD 3 0) (puC adC w bit 3)).toNat + _ = _
 unfold V
 omega
theorem pkO0 (y z : B6) : pkO 0 y z = y := by simp [pkO]
theorem pkO1 (y z : B6) : pkO 1 y z = z := by
 unfold pkO
 rw [neg1, BitVec.allOnes_and, ← BitVec.xor_assoc, BitVec.xor_self, BitVec.zero_xor]
theorem push_V (w : W6) (bit : B6) (hw : V w < 7237005577332262213973186563042994240857116359379907606001950938285454250989) (hb : bit.toNat ≤ 1) : V (puX w bit) = (2 * V w + bit.toNat) % 7237005577332262213973186563042994240857116359379907606001950938285454250989 := by
 have h := puS_V w bit hb
 have hu := V_lt (puS adS adC w bit)
 have hu2 : V (puS adS adC w bit) = 2 * V w + bit.toNat := by omega
 show V (puF sbS sbC pkO adS adC w bit) = _
 unfold puF
 obtain ⟨hm, h1⟩ := minus_V (puS adS adC w bit) WHO
 have hbo := borrow_V (puS adS adC w bit) WHO
 rw [WHO_V] at hm hbo
 rw [hbo] at hm ⊢
 generalize puS adS adC w bit = u at *
 generalize plS sbS sbC u WHO = d at *
 split
 ·rename_i hlt
  simp only [pkO1]
  show V u = _
  omega
 ·rename_i hlt
  rw [if_neg hlt, show (0 : B6).toNat = 0 from rfl] at hm
  simp only [pkO0]
  show V d = _
  omega
theorem bit_n (v : B6) (k : Nat) : (v >>> k &&& BitVec.ofInt 64 1).toNat = v.toNat / 2 ^ k % 2 := by
 rw [BitVec.toNat_and, show (BitVec.ofInt 64 1).toNat = 2 ^ 1 - 1 from rfl, Nat.and_two_pow_sub_one_eq_mod, BitVec.toNat_ushiftRight, Nat.shiftRight_eq_div_pow]
theorem mod_step {L x y p v b : Nat} (h : x = (y * p + v) % L) : (2 * x + b) % L = (y * (p * 2) + (2 * v + b)) % L := by
 have e : y * (p * 2) + (2 * v + b) = 2 * (y * p + v) + b := by rw [← Nat.mul_assoc]; omega
 rw [e, h, Nat.add_mod, Nat.mul_mod_mod, ← Nat.add_mod]
theorem moI_V (v : B6) (x : W6) (hx : V x < 7237005577332262213973186563042994240857116359379907606001950938285454250989) : ∀ k, k ≤ 64 → V (moI puX v x k) = (V x * 2 ^ k + v.toNat / 2 ^ (64 - k)) % 7237005577332262213973186563042994240857116359379907606001950938285454250989
 | 0, _ => by
  have hv := v.isLt
  rw [Nat.pow_zero, Nat.mul_one, Nat.sub_zero, Nat.div_eq_of_lt hv, Nat.add_zero, Nat.mod_eq_of_lt hx]
  rfl
 | k + 1, hk => by
  have ih := moI_V v x hx k (by omega)
  have hlt : V (moI puX v x k) < 7237005577332262213973186563042994240857116359379907606001950938285454250989 := by rw [ih]; exact Nat.mod_lt _ (by decide)
  have hb := bit_n v (63 - k)
  show V (puX (w4 (moI puX v x k)) (v >>> (63 - k) &&& BitVec.ofInt 64 1)) = _
  rw [push_V _ _ (by rw [V_w4]; exact hlt) (by rw [hb]; omega), hb, V_w4, Nat.pow_succ, bit_up v.toNat 64 k (by omega), show 64 - 1 - k = 63 - k by omega]
  exact mod_step ih
def VT (l : W6) : Nat → Nat
 | 0 => 0
 | j + 1 => VT l j * 18446744073709551616 + (l.getD (l.length - 1 - j) 0).toNat
theorem moO_V (l : W6) : ∀ j, V (moO puX l j) = VT l j % 7237005577332262213973186563042994240857116359379907606001950938285454250989
 | 0 => rfl
 | j + 1 => by
  have ih := moO_V l j
  show V (moI puX (l.getD (l.length - 1 - j) 0) (moO puX l j) 64) = _
  rw [moI_V _ _ (by rw [ih]; exact Nat.mod_lt _ (by decide)) 64 (Nat.le_refl _), ih, Nat.sub_self, Nat.pow_zero, Nat.div_one, show 2 ^ 64 = 18446744073709551616 from rfl, VT, Nat.add_mod, Nat.mod_mul_mod, ← Nat.add_mod]
theorem VT_VW (l : W6) : ∀ j, j ≤ l.length → VT l j * 18446744073709551616 ^ (l.length - j) + VW l (l.length - j) = VW l l.length
 | 0, _ => by rw [VT, Nat.zero_mul, Nat.sub_zero, Nat.zero_add]
 | j + 1, h => by
  have ih := VT_VW l j (by omega)
  rw [VT]
  have e : l.length - j = (l.length - (j + 1)) + 1 := by omega
  rw [e, VW, Nat.pow_succ] at ih
  rw [show l.length - 1 - j = l.length - (j + 1) by omega, Nat.add_mul, Nat.mul_assoc, Nat.mul_comm 18446744073709551616]
  omega
theorem mod_V (l : W6) : V (mdX l) = VW l l.length % 7237005577332262213973186563042994240857116359379907606001950938285454250989 := by
 have h := VT_VW l l.length (Nat.le_refl _)
 rw [Nat.sub_self, Nat.pow_zero, Nat.mul_one, VW, Nat.add_zero] at h
 show V (moO puX l l.length) = _
 rw [moO_V, h]
end Mt
end Go.Proofs.YtdfghknonbmadaaGreatDoor
namespace Go.Proofs.YtdfghknonbmadaaGreatDoor
namespace Sh
open Go.RowKit
set_option linter.unusedVariables false
set_option linter.unusedSimpArgs false
set_option maxRecDepth 100000
abbrev H0 : List (BitVec 64) := BEG
abbrev K80 : List (BitVec 64) := CON
abbrev G : Mm := GE
theorem mixed : Tryz.prog.follows .mixedOrders = true := by kernel_rfl
def E0 : Env := ⟨G, noT, noC⟩
theorem e0_ok : EnvOk Tryz.prog E0 := ⟨noT_ok _ _, noC_ok _ _⟩
def rr (x n : BitVec 64) : BitVec 64 := (x >>> n.toNat) ||| (x <<< (64#64 - n).toNat)
def rl (x : BitVec 64) (k : Int) : BitVec 64 := (x <<< (BitVec.ofInt 64 k &&& 63).toNat) ||| (x >>> (64#64 - (BitVec.ofInt 64 k &&& 63)).toNat)
def cRotl : List SV → List Cont → Option (Bool × SV)
 | [.w64 x, .i k], _ => some (true, .w64 (rl x k))
 | _, _ => none
theorem vc21 (x : BitVec 64) (k : Int) (K : SV → Mm → Prop) : (vf Tryz.prog E0 noL 108 [.w64 x, .i k] G K) = (K (SV.w64 (x <<< (BitVec.ofInt 64 k &&& BitVec.ofInt 64 63).toNat ||| x >>> (BitVec.ofInt 64 64 - (BitVec.ofInt 64 k &&& BitVec.ofInt 64 63)).toNat)) G) := by kernel_rfl
theorem rotl_ok : POk Tryz.prog G 108 cRotl := by
 intro args acs r h β M w hR hw ha
 unfold cRotl at h
 split at h
 ·simp only [Option.some.injEq, Prod.mk.injEq, true_and] at h
  subst h
  refine pure0 (vf_ok e0_ok mixed (noL_ok _ _ _ _) (of_eq (vc21 _ _ _) ?_)) rfl rfl hR
  rfl
 ·cases h
def T1 : PT := noT.add 108 cRotl
def E1 : Env := ⟨G, T1, noC⟩
theorem e1_ok : EnvOk Tryz.prog E1 := ⟨PT.add_ok (noT_ok _ _) rotl_ok, noC_ok _ _⟩
def tw (x : BitVec 64) (l : List Int) : BitVec 64 := l.foldl (fun a n => a ^^^ rl x (-n)) 0
def B20 (l : List Int) : Mm := [⟨false, .a64 BEG⟩, ⟨false, .a64 PRI⟩, ⟨false, .a64 CON⟩, ⟨false, .a64 WHO⟩, ⟨false, .a64 ROM⟩, ⟨false, .ints l⟩]
def i20 (x : BitVec 64) (l : List Int) (j : Nat) : List (Nat × SV) := [(0, .w64 x), (4, .w64 (tw x (l.take j))), (7, .sl 5 0 l.length l.length), (8, .i (l.length : Nat)), (9, .i (j : Nat))]
def L20 (x : BitVec 64) (l : List Int) : LT := noL.add 0 (vLoop (B20 l) 21 (i20 x l 0) (B20 l) [(4, .w64 (tw x l))] (B20 l))
theorem vc20 (x : BitVec 64) (l : List Int) (K : SV → Mm → Prop) : (vf Tryz.prog E1 (L20 x l) 107 [.w64 x, .sl 5 0 l.length l.length] (B20 l) K) = (loopOf Tryz.prog 107 0 = loopOf Tryz.prog 107 0 ∧ SV.w64 x = SV.w64 x ∧ SV.w64 (BitVec.ofInt 64 0) = SV.w64 (tw x (List.take 0 l)) ∧ SV.sl 5 0 l.length l.length = SV.sl 5 0 l.length l.length ∧ SV.i (↑l.length : Int) = SV.i (↑l.length : Int) ∧ SV.i 0 = SV.i (↑0 : Int) ∧ (false = false ∧ Cont.a64 BEG = Cont.a64 BEG) ∧ (false = false ∧ Cont.a64 PRI = Cont.a64 PRI) ∧ (false = false ∧ Cont.a64 CON = Cont.a64 CON) ∧ (false = false ∧ Cont.a64 WHO = Cont.a64 WHO) ∧ (false = false ∧ Cont.a64 ROM = Cont.a64 ROM) ∧ (false = false ∧ Cont.ints l = Cont.ints l) ∧ K (SV.w64 (tw x l)) (B20 l)) := by kernel_rfl
theorem vr20 (x : BitVec 64) (l : List Int) (j : Nat) (a : Prop) : (frK 21 (i20 x l j) fun fr => vround Tryz.prog E1 noL 107 0 fr (B20 l) (Kn (B20 l) 0 21 a (i20 x l (j + 1)) (B20 l) [(4, .w64 (tw x l))] (B20 l))) = (bif ilt (↑j : Int) (↑l.length : Int) then bif inR (↑j : Int) l.length then bif j.blt l.length then bif inI (-l.getD j 0) then bif inI ((↑j : Int) + 1) then a ∧ SV.w64 x = SV.w64 x ∧ SV.w64 (tw x (List.take j l) ^^^ rl x (-l.getD j 0)) = SV.w64 (tw x (List.take (j + 1) l)) ∧ SV.sl 5 0 l.length l.length = SV.sl 5 0 l.length l.length ∧ SV.i (↑l.length : Int) = SV.i (↑l.length : Int) ∧ SV.i ((↑j : Int) + 1) = SV.i (↑(j + 1) : Int) ∧ (false = false ∧ Cont.a64 BEG = Cont.a64 BEG) ∧ (false = false ∧ Cont.a64 PRI = Cont.a64 PRI) ∧ (false = false ∧ Cont.a64 CON = Cont.a64 CON) ∧ (false = false ∧ Cont.a64 WHO = Cont.a64 WHO) ∧ (false = false ∧ Cont.a64 ROM = Cont.a64 ROM) ∧ (false = false ∧ Cont.ints l = Cont.ints l) ∧ True else False else False else False else False else 0 = 0 ∧ SV.w64 (tw x (List.take j l)) = SV.w64 (tw x l) ∧ (false = false ∧ Cont.a64 BEG = Cont.a64 BEG) ∧ (false = false ∧ Cont.a64 PRI = Cont.a64 PRI) ∧ (false = false ∧ Cont.a64 CON = Cont.a64 CON) ∧ (false = false ∧ Cont.a64 WHO = Cont.a64 WHO) ∧ (false = false ∧ Cont.a64 ROM = Cont.a64 ROM) ∧ (false = false ∧ Cont.ints l = Cont.ints l) ∧ True) := by kernel_rfl
theorem ints_ren (l : List Int) (σ : Nat → Nat) : (Cont.ints l).ren σ = .ints l := rfl
theorem tw_succ (x : BitVec 64) (l : List Int) (j : Nat) (h : j < l.length) : tw x (l.take (j + 1)) = tw x (l.take j) ^^^ rl x (-l.getD j 0) := by
 unfold tw
 rw [List.take_add_one, getD_get 0 h, Option.toList_some, List.foldl_append]
 rfl
theorem inR_nat {j n : Nat} (h : j < n) : inR (j : Int) n = true := inR_iff.2 ⟨by omega, by omega⟩
theorem blt_of {a b : Nat} (h : a < b) : Nat.blt a b = true := by simpa [Nat.blt_eq] using h
theorem loop20 (x : BitVec 64) (l : List Int) (hl : l.length < 1000) (hn : ∀ n ∈ l, inI (-n) = true) : LOk Tryz.prog G (B20 l) 107 (L20 x l) := by
 refine LT.add_ok (noL_ok _ _ _ _) (loop_next e1_ok mixed (noL_ok _ _ _ _) (by show 5 ≤ 6; decide) (by kernel_rfl) (i20 x l) (fun _ => B20 l) (fun j => j ≤ l.length) (fun j => l.length - j) (fun j => j + 1) 0 (Nat.zero_le _) fun j hj => of_eq (vr20 x l j _) ?_)
 cases hc : ilt (j : Int) (l.length : Int)
 ·have hj2 : j = l.length := by rw [ilt_eq] at hc; have := of_decide_eq_false hc; omega
  subst hj2
  simp
 ·have hj2 : j < l.length := by rw [ilt_eq] at hc; have := of_decide_eq_true hc; omega
  have hm : l.getD j 0 ∈ l := by rw [List.getD_eq_getElem?_getD, List.getElem?_eq_getElem hj2]; exact List.getElem_mem hj2
  refine bif_of (inR_nat hj2) (bif_of (blt_of hj2) (bif_of (hn _ hm) (bif_of (inI_iff.2 (by omega)) ?_)))
  rw [tw_succ x l j hj2]
  refine ⟨⟨by omega, by omega⟩, ?_⟩
  simp
def cTurned : List SV → List Cont → Option (Bool × SV)
 | [.w64 x, .sl k off len cap], [_, .ints l] => some (Nat.beq off 0 && (Nat.beq len l.length && (Nat.beq cap l.length && (Nat.blt l.length 1000 && l.all fun n => inI (-n)))), .w64 (tw x l))
 | _, _ => none
theorem turned_ok : POk Tryz.prog G 107 cTurned := by
 intro args acs r h β M w hR hw ha
 unfold cTurned at h
 split at h
 ·rename_i x k off len cap c0 l
  simp only [Option.some.injEq, Prod.mk.injEq, Bool.and_eq_true] at h
  obtain ⟨⟨h1, h2, h3, h4, h5⟩, rfl⟩ := h
  obtain rfl := Nat.eq_of_beq_eq_true h1
  obtain rfl := Nat.eq_of_beq_eq_true h2
  obtain rfl := Nat.eq_of_beq_eq_true h3
  simp only [List.map_cons, List.map_nil, List.cons.injEq, and_true] at ha
  refine pure1 (args0 := [.w64 x, .sl 5 0 l.length l.length]) (c := .ints l) (k := k) (vf_ok (M := B20 l) e1_ok mixed (loop20 x l (blt_lt h4) (List.all_eq_true.1 h5)) (of_eq (vc20 x l _) ?_)) rfl rfl rfl rfl rfl (ints_ren l) hR (tgt_some ha.2.symm rfl)
  simp [tw]
 ·cases h
end Sh
end Go.Proofs.YtdfghknonbmadaaGreatDoor
namespace Go.Proofs.YtdfghknonbmadaaGreatDoor
namespace Sh
open Go.RowKit
set_option linter.unusedVariables false
set_option linter.unusedSimpArgs false
set_option maxRecDepth 100000
def be (l : List (BitVec 8)) : BitVec 64 := l.foldl (fun a x => a <<< 8 ||| x.setWidth 64) 0
def B22 (l : List (BitVec 8)) : Mm := [⟨false, .a64 BEG⟩, ⟨false, .a64 PRI⟩, ⟨false, .a64 CON⟩, ⟨false, .a64 WHO⟩, ⟨false, .a64 ROM⟩, ⟨false, .a8 l⟩]
def i22 (l : List (BitVec 8)) (off len cap : Nat) (j : Nat) : List (Nat × SV) := [(3, .w64 (be ((l.drop off).take j))), (7, .sl 5 off 8 cap), (8, .i 8), (9, .i (j : Nat))]
def L22 (l : List (BitVec 8)) (off len cap : Nat) : LT := noL.add 0 (vLoop (B22 l) 20 (i22 l off len cap 0) (B22 l) [(3, .w64 (be ((l.drop off).take 8)))] (B22 l))
theorem vc22 (l : List (BitVec 8)) (off len cap : Nat) (K : SV → Mm → Prop) : (vf Tryz.prog E1 (L22 l off len cap) 109 [.sl 5 off len cap] (B22 l) K) = (bif ile 8 (↑cap : Int) && ilt (↑0 : Int) (↑cap : Int) then loopOf Tryz.prog 109 0 = loopOf Tryz.prog 109 0 ∧ SV.w64 (BitVec.ofInt 64 0) = SV.w64 (be (List.take 0 (List.drop off l))) ∧ SV.sl 5 (0 + off) 8 cap = SV.sl 5 off 8 cap ∧ SV.i (↑8 : Int) = SV.i 8 ∧ SV.i 0 = SV.i (↑0 : Int) ∧ (false = false ∧ Cont.a64 BEG = Cont.a64 BEG) ∧ (false = false ∧ Cont.a64 PRI = Cont.a64 PRI) ∧ (false = false ∧ Cont.a64 CON = Cont.a64 CON) ∧ (false = false ∧ Cont.a64 WHO = Cont.a64 WHO) ∧ (false = false ∧ Cont.a64 ROM = Cont.a64 ROM) ∧ (false = false ∧ Cont.a8 l = Cont.a8 l) ∧ K (SV.w64 (be (List.take 8 (List.drop off l)))) (B22 l) else False) := by kernel_rfl
theorem vr22 (l : List (BitVec 8)) (off len cap j : Nat) (a : Prop) : (frK 20 (i22 l off len cap j) fun fr => vround Tryz.prog E1 noL 109 0 fr (B22 l) (Kn (B22 l) 0 20 a (i22 l off len cap (j + 1)) (B22 l) [(3, .w64 (be ((l.drop off).take 8)))] (B22 l))) = (bif ilt (↑j : Int) 8 then bif inR (↑j : Int) 8 then bif (j + off).blt l.length then bif inI ((↑j : Int) + 1) then a ∧ SV.w64 (be (List.take j (List.drop off l)) <<< 8 ||| BitVec.setWidth 64 (l.getD (j + off) 0)) = SV.w64 (be (List.take (j + 1) (List.drop off l))) ∧ SV.sl 5 off 8 cap = SV.sl 5 off 8 cap ∧ SV.i 8 = SV.i 8 ∧ SV.i ((↑j : Int) + 1) = SV.i (↑(j + 1) : Int) ∧ (false = false ∧ Cont.a64 BEG = Cont.a64 BEG) ∧ (false = false ∧ Cont.a64 PRI = Cont.a64 PRI) ∧ (false = false ∧ Cont.a64 CON = Cont.a64 CON) ∧ (false = false ∧ Cont.a64 WHO = Cont.a64 WHO) ∧ (false = false ∧ Cont.a64 ROM = Cont.a64 ROM) ∧ (false = false ∧ Cont.a8 l = Cont.a8 l) ∧ True else False else False else False else 0 = 0 ∧ SV.w64 (be (List.take j (List.drop off l))) = SV.w64 (be (List.take 8 (List.drop off l))) ∧ (false = false ∧ Cont.a64 BEG = Cont.a64 BEG) ∧ (false = false ∧ Cont.a64 PRI = Cont.a64 PRI) ∧ (false = false ∧ Cont.a64 CON = Cont.a64 CON) ∧ (false = false ∧ Cont.a64 WHO = Cont.a64 WHO) ∧ (false = false ∧ Cont.a64 ROM = Cont.a64 ROM) ∧ (false = false ∧ Cont.a8 l = Cont.a8 l) ∧ True) := by kernel_rfl
theorem a8_ren (l : List (BitVec 8)) (σ : Nat → Nat) : (Cont.a8 l).ren σ = .a8 l := rfl
theorem be_succ (l : List (BitVec 8)) (j : Nat) (h : j < l.length) : be (l.take (j + 1)) = be (l.take j) <<< 8 ||| (l.getD j 0).setWidth 64 := by
 unfold be
 rw [List.take_add_one, getD_get 0 h, Option.toList_some, List.foldl_append]
 rfl
theorem getD_drop (l : List (BitVec 8)) (off j : Nat) : (l.drop off).getD j 0 = l.getD (off + j) 0 := by
 rw [List.getD_eq_getElem?_getD, List.getElem?_drop, ← List.getD_eq_getElem?_getD]
theorem loop22 (l : List (BitVec 8)) (off len cap : Nat) (hl : off + 8 ≤ l.length) : LOk Tryz.prog G (B22 l) 109 (L22 l off len cap) := by
 refine LT.add_ok (noL_ok _ _ _ _) (loop_next e1_ok mixed (noL_ok _ _ _ _) (by show 5 ≤ 6; decide) (by kernel_rfl) (i22 l off len cap) (fun _ => B22 l) (fun j => j ≤ 8) (fun j => 8 - j) (fun j => j + 1) 0 (Nat.zero_le _) fun j hj => of_eq (vr22 l off len cap j _) ?_)
 cases hc : ilt (j : Int) 8
 ·have hj2 : j = 8 := by rw [ilt_eq] at hc; have := of_decide_eq_false hc; omega
  subst hj2
  simp
 ·have hj2 : j < 8 := by rw [ilt_eq] at hc; have := of_decide_eq_true hc; omega
  rw [Nat.add_comm j off]
  refine bif_of (inR_nat hj2) (bif_of (blt_of (by omega)) (bif_of (inI_iff.2 (by omega)) ?_))
  rw [be_succ _ j (by simp; omega), getD_drop]
  refine ⟨⟨by omega, by omega⟩, ?_⟩
  simp
def cUnpack : List SV → List Cont → Option (Bool × SV)
 | [.sl k off len cap], [.a8 l] => some (Nat.ble 8 cap && Nat.ble (off + 8) l.length, .w64 (be ((l.drop off).take 8)))
 | _, _ => none
theorem unpack_ok : POk Tryz.prog G 109 cUnpack := by
 intro args acs r h β M w hR hw ha
 unfold cUnpack at h
 split at h
 ·rename_i k off len cap l
  simp only [Option.some.injEq, Prod.mk.injEq, Bool.and_eq_true] at h
  obtain ⟨⟨h1, h2⟩, rfl⟩ := h
  have h1 := Nat.le_of_ble_eq_true h1
  simp only [List.map_cons, List.map_nil, List.cons.injEq, and_true] at ha
  refine pure1 (args0 := [.sl 5 off len cap]) (c := .a8 l) (k := k) (vf_ok (M := B22 l) e1_ok mixed (loop22 l off len cap (Nat.le_of_ble_eq_true h2)) (of_eq (vc22 l off len cap _) (bif_of ?_ ?_))) rfl rfl rfl rfl rfl (a8_ren l) hR (tgt_some ha.symm rfl)
  ·rw [ile_eq, ilt_eq, Bool.and_eq_true, decide_eq_true_eq, decide_eq_true_eq]
   omega
  ·simp [be]
 ·cases h
def s0 (x : BitVec 64) : BitVec 64 := rr x 1 ^^^ rr x 8 ^^^ x >>> 7
def s1 (x : BitVec 64) : BitVec 64 := rr x 19 ^^^ rr x 61 ^^^ x >>> 6
def nw (l : List (BitVec 64)) (i : Nat) : BitVec 64 := l.getD (i - 16) 0 + s0 (l.getD (i - 15) 0) + l.getD (i - 7) 0 + s1 (l.getD (i - 2) 0)
def T2 : PT := (T1.add 107 cTurned).add 109 cUnpack
def E2 : Env := ⟨G, T2, noC⟩
theorem e2_ok : EnvOk Tryz.prog E2 := ⟨PT.add_ok (PT.add_ok e1_ok.T turned_ok) unpack_ok, noC_ok _ _⟩
end Sh
end Go.Proofs.YtdfghknonbmadaaGreatDoor
