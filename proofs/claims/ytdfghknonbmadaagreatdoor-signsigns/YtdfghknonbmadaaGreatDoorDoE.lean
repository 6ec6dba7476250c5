/-
  The document's powers and roots, as plain arithmetic. No statement is proved here.
-/
import Derived.Test.YtdfghknonbmadaaGreatDoorDoC
import Derived.Test.YtdfghknonbmadaaGreatDoorDnC
namespace Go.Proofs.YtdfghknonbmadaaGreatDoor
namespace Mt
namespace Dg
set_option linter.unusedVariables false
set_option linter.unusedSimpArgs false
set_option maxRecDepth 1000000
set_option maxHeartbeats 4000000
def bt (s : List (BitVec 8)) (i : Nat) : Bool := decide (i < 250) || decide (byt s (i - 250) = 49)
def px (a : Nat) (s : List (BitVec 8)) : Nat → Nat
 | 0 => 1
 | i + 1 => pb a (px a s i) (bt s i)
theorem px_ltP (a : Nat) (s : List (BitVec 8)) : ∀ i, px a s i < Nt.P
 | 0 => by have := Nt.P_two; unfold px; omega
 | i + 1 => Nat.mod_lt _ P_pos
theorem pb_true (a r : Nat) : pb a r true = r * r % Nt.P * a % Nt.P := rfl
theorem pb_false (a r : Nat) : pb a r false = r * r % Nt.P := by
 unfold pb
 rw [cond_false, Nat.mul_one, Nat.mod_mod]
theorem px_ones (a : Nat) (s : List (BitVec 8)) : ∀ i, i ≤ 250 → px a s i = pw a i
 | 0, _ => by
  have := Nt.P_two
  unfold px pw
  rw [ex_def, Nat.pow_zero, Nat.mod_eq_of_lt (by omega)]
 | i + 1, h => by
  rw [px, px_ones a s i (by omega), show bt s i = true from by unfold bt; simp; omega]
  unfold pw
  rw [pb_pow, cond_true]
  have e : ex (i + 1) = 2 * ex i + 1 := by
   rw [ex_def, ex_def, Nat.pow_succ]
   have := Nat.two_pow_pos i
   omega
  rw [e]
def tInv : List (BitVec 8) := [48, 49, 48, 49, 49]
def tRt : List (BitVec 8) := [49, 48]
def tI : List (BitVec 8) := [48, 49, 49]
theorem px_step (a : Nat) (s : List (BitVec 8)) (n : Nat) : px a s (n + 1) = pb a (px a s n) (bt s n) := by rw [px]
theorem px_inv_gen (a n : Nat) (s : List (BitVec 8)) (x : Nat) (hx : px a s n = x) (h0 : bt s (n) = false) (h1 : bt s (n + 1) = true) (h2 : bt s (n + 1 + 1) = false) (h3 : bt s (n + 1 + 1 + 1) = true) (h4 : bt s (n + 1 + 1 + 1 + 1) = true) : px a s (n + 5) = [false, true, false, true, true].foldl (pb a) x := by
 rw [show n + 5 = n + 1 + 1 + 1 + 1 + 1 from rfl, px_step, px_step, px_step, px_step, px_step, hx, h0, h1, h2, h3, h4]; rfl
theorem px_rt_gen (a n : Nat) (s : List (BitVec 8)) (x : Nat) (hx : px a s n = x) (h0 : bt s (n) = true) (h1 : bt s (n + 1) = false) : px a s (n + 2) = [true, false].foldl (pb a) x := by
 rw [show n + 2 = n + 1 + 1 from rfl, px_step, px_step, hx, h0, h1]; rfl
theorem px_i_gen (a n : Nat) (s : List (BitVec 8)) (x : Nat) (hx : px a s n = x) (h0 : bt s (n) = false) (h1 : bt s (n + 1) = true) (h2 : bt s (n + 1 + 1) = true) : px a s (n + 3) = [false, true, true].foldl (pb a) x := by
 rw [show n + 3 = n + 1 + 1 + 1 from rfl, px_step, px_step, px_step, hx, h0, h1, h2]; rfl
theorem bt_tInv0 : bt tInv (250) = false := by decide +kernel
theorem bt_tInv1 : bt tInv (250 + 1) = true := by decide +kernel
theorem bt_tInv2 : bt tInv (250 + 1 + 1) = false := by decide +kernel
theorem bt_tInv3 : bt tInv (250 + 1 + 1 + 1) = true := by decide +kernel
theorem bt_tInv4 : bt tInv (250 + 1 + 1 + 1 + 1) = true := by decide +kernel
theorem bt_tRt0 : bt tRt (250) = true := by decide +kernel
theorem bt_tRt1 : bt tRt (250 + 1) = false := by decide +kernel
theorem bt_tI0 : bt tI (250) = false := by decide +kernel
theorem bt_tI1 : bt tI (250 + 1) = true := by decide +kernel
theorem bt_tI2 : bt tI (250 + 1 + 1) = true := by decide +kernel
theorem px_inv (a : Nat) : px a tInv (250 + tInv.length) = iv a := by
 rw [show tInv.length = 5 from rfl, px_inv_gen a 250 tInv (pw a 250) (px_ones a tInv 250 (Nat.le_refl _)) bt_tInv0 bt_tInv1 bt_tInv2 bt_tInv3 bt_tInv4]
 exact inv_pws a
theorem px_rt (a : Nat) : px a tRt (250 + tRt.length) = Nt.c1 a := by
 rw [show tRt.length = 2 from rfl, px_rt_gen a 250 tRt (pw a 250) (px_ones a tRt 250 (Nat.le_refl _)) bt_tRt0 bt_tRt1]
 exact root_pws a
theorem i_pows (a x : Nat) : [false, true, true].foldl (pb a) (a ^ x % Nt.P) = a ^ (2 * (2 * (2 * x + 0) + 1) + 1) % Nt.P := by
 simp only [List.foldl, pb_pow, cond_true, cond_false]
theorem i_exp : 2 * (2 * (2 * ex 250 + 0) + 1) + 1 = 2 * Nt.K + 1 := by rw [Nt.K_val, ex_def]
theorem i_pm (a : Nat) : a ^ (2 * Nt.K + 1) % Nt.P = Nt.pm Nt.P 255 a (2 * Nt.K + 1) := (Nt.pm_eq Nt.P 255 a _ (by rw [Nt.K_val]; decide +kernel)).symm
theorem i_gen (t : Nat) (ht : t = 2) : t ^ (2 * Nt.K + 1) % Nt.P = Nt.I := by
 rw [i_pm, ht, Nt.P_val, Nt.K_val, Nt.I_val]; decide +kernel
theorem px_i (t : Nat) (ht : t = 2) : px t tI (250 + tI.length) = Nt.I := by
 rw [show tI.length = 3 from rfl, px_i_gen t 250 tI (pw t 250) (px_ones t tI 250 (Nat.le_refl _)) bt_tI0 bt_tI1 bt_tI2]
 unfold pw
 rw [i_pows, i_exp, i_gen t ht]
def rq (a : Nat) (odd : Bool) : Nat := bif decide (Nt.rt a * Nt.rt a % Nt.P = a) then rs a odd else 0
def ry (a : Nat) (odd : Bool) : Bool := decide (Nt.rt a * Nt.rt a % Nt.P = a) && (decide (rs a odd % 2 = 1) == odd)
theorem ry_ok (a : Nat) (odd : Bool) : ok a odd = ry a odd := by
 unfold ok ry
 rw [rs_sq]
 cases decide (rs a odd % 2 = 1) <;> cases odd <;> simp
theorem rq_gen (x : Bool) (k r : Nat) (h : x = true → k = r) (h2 : x = false → k = 0) : k = bif x then r else 0 := by
 cases x
 ·exact h2 rfl
 ·exact h rfl
theorem rq_ro (a : Nat) (ha : a < Nt.P) (odd : Bool) : ro a odd = rq a odd := by
 by_cases h0 : a = 0
 ·have e1 : rs a odd = 0 := rs_zero a odd h0
  have e2 : ro a odd = 0 := by
   cases h : ok a odd
   ·exact ro_no h
   ·rw [ro_yes h, e1]
  rw [e2]
  exact rq_gen _ _ _ (fun _ => e1.symm) (fun _ => rfl)
 ·by_cases h : Nt.has a
  ·rw [ro_yes (ok_has odd (by omega) h)]
   exact rq_gen _ _ _ (fun _ => rfl) (fun hx => absurd (show Nt.rt a * Nt.rt a % Nt.P = a from h) (of_decide_eq_false hx))
  ·rw [ro_no (ok_not odd h)]
   exact rq_gen _ _ _ (fun hx => absurd (of_decide_eq_true hx) h) (fun _ => rfl)
end Dg
end Mt
end Go.Proofs.YtdfghknonbmadaaGreatDoor
namespace Go.Proofs.YtdfghknonbmadaaGreatDoor
namespace Dc
open Go.RowKit
set_option linter.unusedVariables false
set_option linter.unusedSimpArgs false
set_option maxRecDepth 100000
open Mt.Dg (w9 dg bv bb nv Q Qd dt rd byt vbl vb px tInv tRt tI)
def mBy (a : W6) (x : Tx8) : Mm := G5 [⟨true, .a64 a⟩, ⟨true, .a8 x⟩]
def iBy (i : Nat) : List (Nat × SV) := [(1, .ptr 5 0), (3, .sl 6 0 32 32), (4, .i (i : Nat))]
def oBy : List (Nat × SV) := [(3, .sl 6 0 32 32)]
def z32 : Tx8 := List.replicate 32 0
def LBy (a : W6) (z : Tx8) : LT := noL.add 0 (vLoop GE 36 (iBy 0) (mBy a z32) oBy (mBy a z))
theorem vaByD (a : W6) (z : Tx8) (K : SV → Prop) : (vf Tryz.prog E00 (LBy a z) 44 [.a64 a] GE (fun r _ => K r)) = (loopOf Tryz.prog 44 0 = loopOf Tryz.prog 44 0 ∧ SV.ptr 5 0 = SV.ptr 5 0 ∧ SV.sl ((0 : Nat) + (1 : Nat) + (1 : Nat) + (1 : Nat) + (1 : Nat) + (1 : Nat) + (1 : Nat)) (0 : Nat) (32 : Nat) (32 : Nat) = SV.sl 6 0 (32 : Nat) (32 : Nat) ∧ SV.i (0 : Int) = SV.i (↑(0 : Nat) : Int) ∧ g5E ((true = true ∧ Cont.a64 a = Cont.a64 a) ∧ (true = true ∧ Cont.a8 (List.replicate 32 (0 : BitVec 8)) = Cont.a8 z32) ∧ bif decide ((32 : Nat) ≤ List.length z) then K (SV.s (List.take 32 (List.drop 0 z))) else False)) := by kernel_rfl
theorem vrByD (a : W6) (x y z : Tx8) (i : Nat) (p : Prop) : (frK 36 (iBy i) fun fr => vround Tryz.prog E00 noL 44 0 fr (mBy a x) (Kn GE 0 36 p (iBy (i + 1)) (mBy a y) oBy (mBy a z))) = (bif ilt (↑i : Int) (256 : Int) then bif inI (↑i : Int) then bif inI (↑i : Int) then bif inR ((↑i : Int).tdiv (8 : Int)) (32 : Nat) then bif ((↑i : Int).tdiv (8 : Int)).toNat.blt (List.length x) then bif inI (↑i : Int) then bif inR ((↑i : Int).tdiv (30 : Int)) (9 : Nat) then bif ((↑i : Int).tdiv (30 : Int)).toNat.blt (List.length a) then bif inR ((↑i : Int).tdiv (8 : Int)) (32 : Nat) then bif ((↑i : Int).tdiv (8 : Int)).toNat.blt (List.length x) then bif inI ((↑i : Int) + (1 : Int)) then p ∧ SV.ptr 5 0 = SV.ptr 5 0 ∧ SV.sl 6 0 (32 : Nat) (32 : Nat) = SV.sl 6 0 (32 : Nat) (32 : Nat) ∧ SV.i ((↑i : Int) + (1 : Int)) = SV.i (↑(i + (1 : Nat)) : Int) ∧ g5E ((true = true ∧ Cont.a64 a = Cont.a64 a) ∧ (true = true ∧ Cont.a8 (List.set x ((↑i : Int).tdiv (8 : Int)).toNat (List.getD x ((↑i : Int).tdiv (8 : Int)).toNat (0 : BitVec 8) ||| BitVec.setWidth (8 : Nat) (List.getD a ((↑i : Int).tdiv (30 : Int)).toNat (0 : BitVec 64) >>> (BitVec.ofInt (64 : Nat) ((↑i : Int).tmod (30 : Int))).toNat &&& BitVec.ofInt 64 1) <<< (BitVec.ofInt (64 : Nat) ((↑i : Int).tmod (8 : Int))).toNat)) = Cont.a8 y) ∧ True) else False else False else False else False else False else False else False else False else False else False else (0 : Nat) = (0 : Nat) ∧ SV.sl 6 0 (32 : Nat) (32 : Nat) = SV.sl 6 0 (32 : Nat) (32 : Nat) ∧ g5E ((true = true ∧ Cont.a64 a = Cont.a64 a) ∧ (true = true ∧ Cont.a8 x = Cont.a8 z) ∧ True)) := by kernel_rfl
def flagZ : Nat := 1000001
def cFlagZ : List SV → List Cont → Option (Bool × SV) := fun _ _ => some (false, .any)
def ECa (R : Tx8 → W6) (p : W6) (C L : W6 → W6 → Bool) : Env := ⟨GE, (((noT.add 104 (cRe R)).add 105 (c0 p)).add 103 (c2b C L)).add flagZ cFlagZ, noC⟩
theorem vaCa (R : Tx8 → W6) (p : W6) (C L : W6 → W6 → Bool) (l : Tx8) (K : SV → Prop) : (vf Tryz.prog (ECa R p C L) noL 68 [.s l] GE (fun r _ => K r)) = (bif (↑(List.length l) : Int) == (32 : Int) then bif (List.length l).beq 32 then bif C (w9 (R l)) (w9 p) then K (SV.b (bif true then L (w9 (R l)) (w9 p) else false)) else False else False else K (SV.b false)) := by kernel_rfl
def EPw (S : BitVec 32 → W6) (C : W6 → W6 → Bool) (M : W6 → W6 → W6) : Env := ⟨GE, ((noT.add 70 (cSm S)).add 43 (c2 C M)).add flagZ cFlagZ, noC⟩
def mPw (a x : W6) : Mm := G5 [⟨true, .a64 a⟩, ⟨true, .a64 z9⟩, ⟨true, .a64 x⟩]
def iPw (s : Tx8) (i : Nat) : List (Nat × SV) := [(1, .i 250), (2, .s s), (3, .ptr 5 0), (6, .ptr 6 0), (7, .ptr 7 0), (8, .i (i : Nat))]
def oPw : List (Nat × SV) := [(6, .ptr 6 0), (7, .ptr 7 0)]
def LPw (a x z : W6) (s : Tx8) : LT := noL.add 0 (vLoop GE 36 (iPw s 0) (mPw a x) oPw (mPw a z))
theorem vaPw (S : BitVec 32 → W6) (C : W6 → W6 → Bool) (M : W6 → W6 → W6) (a z : W6) (s : Tx8) (K : SV → Prop) : (vf Tryz.prog (EPw S C M) (LPw (w9 a) (w9 (S 1)) (w9 z) s) 82 [.a64 (w9 a), .i 250, .s s] GE (fun r _ => K r)) = (loopOf Tryz.prog 82 0 = loopOf Tryz.prog 82 0 ∧ SV.i (250 : Int) = SV.i (250 : Int) ∧ SV.s s = SV.s s ∧ SV.ptr 5 0 = SV.ptr 5 0 ∧ SV.ptr ((0 : Nat) + (1 : Nat) + (1 : Nat) + (1 : Nat) + (1 : Nat) + (1 : Nat) + (1 : Nat)) (0 : Nat) = SV.ptr 6 0 ∧ SV.ptr ((0 : Nat) + (1 : Nat) + (1 : Nat) + (1 : Nat) + (1 : Nat) + (1 : Nat) + (1 : Nat) + (1 : Nat)) (0 : Nat) = SV.ptr 7 0 ∧ SV.i (0 : Int) = SV.i (↑(0 : Nat) : Int) ∧ g5E ((true = true ∧ Cont.a64 (w9 a) = Cont.a64 (w9 a)) ∧ (true = true ∧ Cont.a64 (List.replicate 9 (0 : BitVec 64)) = Cont.a64 z9) ∧ (true = true ∧ Cont.a64 (w9 (S (BitVec.ofInt 32 1))) = Cont.a64 (w9 (S (1 : BitVec 32)))) ∧ K (SV.a64 (w9 z)))) := by kernel_rfl
theorem vrPw (S : BitVec 32 → W6) (C : W6 → W6 → Bool) (M : W6 → W6 → W6) (a x y z : W6) (s : Tx8) (i : Nat) (p : Prop) : (frK 36 (iPw s i) fun fr => vround Tryz.prog (EPw S C M) noL 82 0 fr (mPw (w9 a) (w9 x)) (Kn GE 0 36 p (iPw s (i + 1)) (mPw (w9 a) (w9 y)) oPw (mPw (w9 a) (w9 z)))) = (bif inI ((250 : Int) + (↑(List.length s) : Int)) then bif ilt (↑i : Int) ((250 : Int) + (↑(List.length s) : Int)) then bif C (w9 x) (w9 x) then bif ilt (↑i : Int) (250 : Int) then bif C (w9 (M (w9 x) (w9 x))) (w9 a) then bif inI ((↑i : Int) + (1 : Int)) then p ∧ SV.i (250 : Int) = SV.i (250 : Int) ∧ SV.s s = SV.s s ∧ SV.ptr 5 0 = SV.ptr 5 0 ∧ SV.ptr 6 0 = SV.ptr 6 0 ∧ SV.ptr 7 0 = SV.ptr 7 0 ∧ SV.i ((↑i : Int) + (1 : Int)) = SV.i (↑(i + (1 : Nat)) : Int) ∧ g5E ((true = true ∧ Cont.a64 (w9 a) = Cont.a64 (w9 a)) ∧ (true = true ∧ Cont.a64 z9 = Cont.a64 z9) ∧ (true = true ∧ Cont.a64 (w9 (M (w9 (M (w9 x) (w9 x))) (w9 a))) = Cont.a64 (w9 y)) ∧ True) else False else False else bif inI ((↑i : Int) - (250 : Int)) then bif inR ((↑i : Int) - (250 : Int)) (List.length s) then bif bif false then true else List.getD s ((↑i : Int) - (250 : Int)).toNat (0 : BitVec 8) == BitVec.ofInt 8 49 then bif C (w9 (M (w9 x) (w9 x))) (w9 a) then bif inI ((↑i : Int) + (1 : Int)) then p ∧ SV.i (250 : Int) = SV.i (250 : Int) ∧ SV.s s = SV.s s ∧ SV.ptr 5 0 = SV.ptr 5 0 ∧ SV.ptr 6 0 = SV.ptr 6 0 ∧ SV.ptr 7 0 = SV.ptr 7 0 ∧ SV.i ((↑i : Int) + (1 : Int)) = SV.i (↑(i + (1 : Nat)) : Int) ∧ g5E ((true = true ∧ Cont.a64 (w9 a) = Cont.a64 (w9 a)) ∧ (true = true ∧ Cont.a64 z9 = Cont.a64 z9) ∧ (true = true ∧ Cont.a64 (w9 (M (w9 (M (w9 x) (w9 x))) (w9 a))) = Cont.a64 (w9 y)) ∧ True) else False else False else bif inI ((↑i : Int) + (1 : Int)) then p ∧ SV.i (250 : Int) = SV.i (250 : Int) ∧ SV.s s = SV.s s ∧ SV.ptr 5 0 = SV.ptr 5 0 ∧ SV.ptr 6 0 = SV.ptr 6 0 ∧ SV.ptr 7 0 = SV.ptr 7 0 ∧ SV.i ((↑i : Int) + (1 : Int)) = SV.i (↑(i + (1 : Nat)) : Int) ∧ g5E ((true = true ∧ Cont.a64 (w9 a) = Cont.a64 (w9 a)) ∧ (true = true ∧ Cont.a64 z9 = Cont.a64 z9) ∧ (true = true ∧ Cont.a64 (w9 (M (w9 x) (w9 x))) = Cont.a64 (w9 y)) ∧ True) else False else False else False else False else (0 : Nat) = (0 : Nat) ∧ SV.ptr 6 0 = SV.ptr 6 0 ∧ SV.ptr 7 0 = SV.ptr 7 0 ∧ g5E ((true = true ∧ Cont.a64 (w9 a) = Cont.a64 (w9 a)) ∧ (true = true ∧ Cont.a64 z9 = Cont.a64 z9) ∧ (true = true ∧ Cont.a64 (w9 x) = Cont.a64 (w9 z)) ∧ True) else False) := by kernel_rfl
def cPd (C : W6 → Bool) (F : W6 → Tx8 → W6) : List SV → List Cont → Option (Bool × SV)
 | [.a64 l, .i n, .s s], _ => some (C l && (ile n 250 && ile 250 n && Nat.ble s.length 100), .a64 (w9 (F l s)))
 | _, _ => none
def ERo (S : BitVec 32 → W6) (C : W6 → W6 → Bool) (M B : W6 → W6 → W6) (D : W6 → Bool) (F : W6 → Tx8 → W6) : Env := ⟨GE, (((noT.add 70 (cSm S)).add 43 (c2 C M)).add 71 (c2 C B)).add 82 (cPd D F), noC⟩
theorem vaIn (S : BitVec 32 → W6) (C : W6 → W6 → Bool) (M B : W6 → W6 → W6) (D : W6 → Bool) (F : W6 → Tx8 → W6) (a : W6) (K : SV → Prop) : (vf Tryz.prog (ERo S C M B D F) noL 42 [.a64 (w9 a)] GE (fun r _ => K r)) = (bif D (w9 a) && true then K (SV.a64 (w9 (F (w9 a) (bts { data := #[(48 : UInt8), (49 : UInt8), (48 : UInt8), (49 : UInt8), (49 : UInt8)] })))) else False) := by kernel_rfl
theorem QQ_dg {a b : Nat} (ha : a < Mt.Nt.P) (hb : b < Mt.Nt.P) : QQ (dg a) (dg b) = true := by unfold QQ; rw [Mt.Dg.Q_dg ha, Mt.Dg.Q_dg hb]; rfl
theorem nvd {a : Nat} (ha : a < Mt.Nt.P) : nv (dg a) = a := Mt.Dg.nv_dg (Mt.Dg.big_of (Nat.le_of_lt ha))
theorem muF_dg {a b : Nat} (ha : a < Mt.Nt.P) (hb : b < Mt.Nt.P) : muF (dg a) (dg b) = dg (a * b % Mt.Nt.P) := by unfold muF; rw [nvd ha, nvd hb]
theorem adF_dg {a b : Nat} (ha : a < Mt.Nt.P) (hb : b < Mt.Nt.P) : adF (dg a) (dg b) = dg ((a + b) % Mt.Nt.P) := by unfold adF; rw [nvd ha, nvd hb]
theorem sbF_dg {a b : Nat} (ha : a < Mt.Nt.P) (hb : b < Mt.Nt.P) : sbF (dg a) (dg b) = dg ((a + Mt.Nt.P - b) % Mt.Nt.P) := by unfold sbF; rw [nvd ha, nvd hb]
theorem modP (a : Nat) : a % Mt.Nt.P < Mt.Nt.P := Nat.mod_lt _ Mt.P_pos
theorem or8 : ∀ (b : Fin 2) (r : Fin 8) (d : Fin 256), d.1 < 2 ^ r.1 → (BitVec.ofNat 8 d.1 ||| BitVec.ofNat 8 b.1 <<< r.1) = BitVec.ofNat 8 (d.1 + b.1 * 2 ^ r.1) := by decide +kernel
theorem bit64 {d r : Nat} (hd : d < 1073741824) : BitVec.setWidth 8 (BitVec.ofNat 64 d >>> r &&& BitVec.ofInt 64 1) = BitVec.ofNat 8 (d / 2 ^ r % 2) := by
 apply BitVec.eq_of_toNat_eq
 rw [BitVec.toNat_setWidth, BitVec.toNat_and, show (BitVec.ofInt 64 1).toNat = 2 ^ 1 - 1 from rfl, Nat.and_two_pow_sub_one_eq_mod, BitVec.toNat_ushiftRight, Nat.shiftRight_eq_div_pow, Mt.Dg.toN d (by omega), BitVec.toNat_ofNat]
theorem loopBy (v : Nat) (x z : Tx8) (hx : x = bb (vbl (v % 2 ^ 0))) (hz : z = bb (vbl (v % 2 ^ 256))) : ∀ fr M K, vLoop GE 36 (iBy 0) (mBy (dg v) x) oBy (mBy (dg v) z) fr M K → Wp Tryz.prog GE GE (loopOf Tryz.prog 44 0) fr M K := by
 subst hx
 refine loop_next e00_ok mixed (noL_ok _ _ _ _) (Nat.le_refl _) (by kernel_rfl) (fun i => iBy i) (fun i => mBy (dg v) (bb (vbl (v % 2 ^ i)))) (fun i => i ≤ 256) (fun i => 256 - i) (fun i => i + 1) 0 (Nat.zero_le _) (fun i hi => of_eq (vrByD (dg v) (bb (vbl (v % 2 ^ i))) (bb (vbl (v % 2 ^ (i + 1)))) z i _) ?_)
 cases hq : ilt (i : Int) 256
 ·have hi2 : i = 256 := by have := le_of_ilt (b := 256) hq; omega
  have e : bb (vbl (v % 2 ^ i)) = z := by rw [hz, hi2]
  rw [e]
  and_intros <;> first | exact rfl | exact trivial
 ·have hi2 : i < 256 := lt_of_ilt (b := 256) hq
  have i4 : Nat.blt (i / 8) (bb (vbl (v % 2 ^ i))).length = true := blt_of (by rw [Mt.Dg.bb_len, Mt.Dg.vbl_len]; omega)
  have hroom := Mt.Dg.vb_room v i
  have hput := Mt.Dg.vb_put v i (i / 8)
  rw [if_pos rfl] at hput
  have hor := or8 ⟨v / 2 ^ i % 2, Nat.mod_lt _ (by decide)⟩ ⟨i % 8, Nat.mod_lt _ (by decide)⟩ ⟨vb (v % 2 ^ i) (i / 8), Mt.Dg.vb_lt _ _⟩ hroom
  dsimp only at hor
  rw [← hput] at hor
  rw [tdiv8i, tdiv30, tmod8', tmod30, toNatI, toNatI, ofI64 (by omega), ofI64 (by omega), show inI (i : Int) = true from inI_iff.2 (by omega), inR_of (show i / 8 < 32 by omega), i4, inR_of (show i / 30 < 9 by omega), blt_of (show i / 30 < (dg v).length by rw [dg_len]; omega), show inI ((i : Int) + 1) = true from inI_iff.2 (by omega), dg_get v _ (by omega), bit64 (Mt.Dg.dt_lt _ _), Mt.Dg.dt_bit, Mt.Dg.bb_get, Mt.Dg.vbl_get _ _ (by omega), hor, Mt.Dg.bb_set, Mt.Dg.vbl_set]
  simp only [cond_true]
  and_intros <;> first | omega | exact rfl | exact trivial
def cBy (C : W6 → Bool) (F : W6 → Tx8) : List SV → List Cont → Option (Bool × SV)
 | [.a64 l], _ => some (C l, .s (F l))
 | _, _ => none
def byD (n : Nat) : Tx8 := bb (vbl n)
def byF' (l : W6) : Tx8 := byD (nv l)
theorem byD_len (n : Nat) : (byD n).length = 32 := by unfold byD; rw [Mt.Dg.bb_len, Mt.Dg.vbl_len]
theorem bytesD_ok : POk Tryz.prog GE 44 (cBy Q byF') := by
 intro args acs r hh β M w hR hw ha
 unfold cBy at hh
 split at hh
 ·rename_i l
  simp only [Option.some.injEq, Prod.mk.injEq] at hh
  obtain ⟨h1, rfl⟩ := hh
  obtain ⟨e1, k1⟩ := Mt.Dg.of_Q h1
  unfold byF'
  generalize nv l = A at *
  subst e1
  have hA : A % 2 ^ 256 = A := Mt.Dg.mod_pow_of 256 (Nat.lt_trans k1 (by rw [Mt.Nt.P_val]; decide))
  refine pokE' (E := E00) rfl e00_ok (LT.add_ok (noL_ok _ _ _ _) (loopBy A z32 (byD A) (by rw [Nat.pow_zero, Nat.mod_one]; decide +kernel) (by rw [hA]; rfl))) (vaByD (dg A) (byD A) _) ?_ rfl rfl hR
  have hl := byD_len A
  rw [List.drop_zero, List.take_of_length_le (by omega), decide_eq_true (by omega)]
  simp only [cond_true]
  and_intros <;> first | exact rfl | exact trivial
 ·cases hh
def cCa' (F : Tx8 → Bool) : List SV → List Cont → Option (Bool × SV)
 | [.s l], _ => some (true, .b (F l))
 | _, _ => none
def caF' (l : Tx8) : Bool := Nat.beq l.length 32 && decide (rd l 32 < Mt.Nt.P)
theorem flagZ_ok (n : Nat) : POk Tryz.prog GE n cFlagZ := by
 intro args acs r h
 cases h
theorem eca_ok : EnvOk Tryz.prog (ECa reF (dg Mt.Nt.P) leC leF) := ⟨PT.add_ok (PT.add_ok (PT.add_ok (PT.add_ok (noT_ok _ _) readD_ok) primeD_ok) lessD_ok) (flagZ_ok _), noC_ok _ _⟩
theorem canonD_ok : POk Tryz.prog GE 68 (cCa' caF') := by
 intro args acs r hh β M w hR hw ha
 unfold cCa' at hh
 split at hh
 ·rename_i l
  simp only [Option.some.injEq, Prod.mk.injEq, true_and] at hh
  subst hh
  refine pokE (E := ECa reF (dg Mt.Nt.P) leC leF) rfl eca_ok (vaCa reF (dg Mt.Nt.P) leC leF l _) ?_ rfl rfl hR
  unfold caF'
  by_cases hl : l.length = 32
  ·have e : reF l = dg (rd l 32) := rfl
   rw [hl, e, Mt.Dg.w9_dg, Mt.Dg.w9_dg, leC_dg, leF_dg (Mt.Dg.big_of4 (Mt.Dg.rd_lt4 l)) P_div]
   rfl
  ·have e1 : ((l.length : Int) == 32) = false := beq_eq_false_iff_ne.2 (by omega)
   have e2 : Nat.beq l.length 32 = false := by
    cases h : Nat.beq l.length 32
    ·rfl
    ·exact absurd (Nat.eq_of_beq_eq_true h) hl
   rw [e1, e2]
   rfl
 ·cases hh
theorem beq49 : ∀ b : BitVec 8, (b == BitVec.ofInt 8 49) = decide (b.toNat = 49) := by decide +kernel
theorem epw_ok : EnvOk Tryz.prog (EPw smF QQ muF) := ⟨PT.add_ok (PT.add_ok (PT.add_ok (noT_ok _ _) smallD_ok) mulD_ok) (flagZ_ok _), noC_ok _ _⟩
theorem loopPw (A : Nat) (hA : A < Mt.Nt.P) (s : Tx8) (hs : s.length ≤ 100) (x z : W6) (hx : x = w9 (dg (px A s 0))) (hz : z = dg (px A s (250 + s.length))) : ∀ fr M K, vLoop GE 36 (iPw s 0) (mPw (w9 (dg A)) x) oPw (mPw (w9 (dg A)) (w9 z)) fr M K → Wp Tryz.prog GE GE (loopOf Tryz.prog 82 0) fr M K := by
 subst hx
 refine loop_next epw_ok mixed (noL_ok _ _ _ _) (Nat.le_refl _) (by kernel_rfl) (fun i => iPw s i) (fun i => mPw (w9 (dg A)) (w9 (dg (px A s i)))) (fun i => i ≤ 250 + s.length) (fun i => 250 + s.length - i) (fun i => i + 1) 0 (Nat.zero_le _) (fun i hi => of_eq (vrPw smF QQ muF (dg A) (dg (px A s i)) (dg (px A s (i + 1))) z s i _) ?_)
 have hlt := Mt.Dg.px_ltP A s i
 have hstep := Mt.Dg.px_step A s i
 generalize hr : px A s i = r at *
 have e250 : (250 : Int) + (s.length : Int) = ((250 + s.length : Nat) : Int) := by omega
 rw [e250, show inI ((250 + s.length : Nat) : Int) = true from inI_iff.2 (by omega), Mt.Dg.w9_dg, Mt.Dg.w9_dg]
 simp only [cond_true]
 cases hq : ilt (i : Int) ((250 + s.length : Nat) : Int)
 ·have hi2 : i = 250 + s.length := by have := le_of_ilt hq; omega
  have e : dg r = z := by rw [hz, ← hr, hi2]
  rw [← e]
  and_intros <;> first | exact rfl | exact trivial
 ·have hi2 : i < 250 + s.length := lt_of_ilt hq
  rw [QQ_dg hlt hlt, muF_dg hlt hlt, Mt.Dg.w9_dg, QQ_dg (modP _) hA, muF_dg (modP _) hA, Mt.Dg.w9_dg, show inI ((i : Int) + 1) = true from inI_iff.2 (by omega)]
  simp only [cond_true]
  cases hq2 : ilt (i : Int) 250
  ·have hi3 : 250 ≤ i := le_of_ilt (b := 250) hq2
   have e2 : ((i : Int) - 250).toNat = i - 250 := by omega
   rw [e2, show inI ((i : Int) - 250) = true from inI_iff.2 (by omega), show inR ((i : Int) - 250) s.length = true from inR_iff.2 ⟨by omega, by omega⟩, beq49]
   simp only [cond_true, cond_false]
   have hbt : Mt.Dg.bt s i = decide ((s.getD (i - 250) 0).toNat = 49) := by
    unfold Mt.Dg.bt
    rw [decide_eq_false (show ¬ i < 250 by omega), Bool.false_or]
    rfl
   rw [hbt] at hstep
   cases hd : decide ((s.getD (i - 250) 0).toNat = 49)
   ·rw [hd, Mt.Dg.pb_false] at hstep
    rw [hstep]
    simp only [cond_false]
    and_intros <;> first | omega | exact rfl | exact trivial
   ·rw [hd, Mt.Dg.pb_true] at hstep
    rw [hstep]
    simp only [cond_true]
    and_intros <;> first | omega | exact rfl | exact trivial
  ·have hi3 : i < 250 := lt_of_ilt (b := 250) hq2
   have hbt : Mt.Dg.bt s i = true := by
    unfold Mt.Dg.bt
    rw [decide_eq_true hi3, Bool.true_or]
   rw [hbt, Mt.Dg.pb_true] at hstep
   rw [hstep]
   simp only [cond_true]
   and_intros <;> first | omega | exact rfl | exact trivial
def pwF (l : W6) (s : Tx8) : W6 := dg (px (nv l) s (250 + s.length))
theorem px_zero (A : Nat) (s : Tx8) : px A s 0 = 1 := by rw [px]
theorem powerD_ok : POk Tryz.prog GE 82 (cPd Q pwF) := by
 intro args acs r hh β M w hR hw ha
 unfold cPd at hh
 split at hh
 ·rename_i l n s
  simp only [Option.some.injEq, Prod.mk.injEq, Bool.and_eq_true] at hh
  obtain ⟨⟨h1, ⟨h2, h3⟩, h4⟩, rfl⟩ := hh
  obtain ⟨e1, k1⟩ := Mt.Dg.of_Q h1
  rw [ile_eq] at h2 h3
  obtain rfl : n = 250 := by have := of_decide_eq_true h2; have := of_decide_eq_true h3; omega
  have h4 := Nat.le_of_ble_eq_true h4
  unfold pwF
  generalize nv l = A at *
  subst e1
  have hx : w9 (smF 1) = w9 (dg (px A s 0)) := by rw [sm_one, px_zero]
  refine pokE' (E := EPw smF QQ muF) rfl epw_ok (LT.add_ok (noL_ok _ _ _ _) (loopPw A k1 s h4 (w9 (smF 1)) _ hx rfl)) (vaPw smF QQ muF (dg A) (dg (px A s (250 + s.length))) s _) ?_ rfl rfl hR
  and_intros <;> first | exact rfl | exact trivial
 ·cases hh
end Dc
end Go.Proofs.YtdfghknonbmadaaGreatDoor
