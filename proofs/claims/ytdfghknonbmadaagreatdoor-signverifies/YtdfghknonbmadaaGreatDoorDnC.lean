/-
  The document's numbers: Read, Of, Add, Sub, Mul, in the reckoner. No statement is proved here.
-/
import Derived.Test.YtdfghknonbmadaaGreatDoorDnB
namespace Go.Proofs.YtdfghknonbmadaaGreatDoor
namespace Dc
open Go.RowKit
set_option linter.unusedVariables false
set_option linter.unusedSimpArgs false
set_option maxRecDepth 100000
open Mt.Dg (w9 dg bv nv Q Qd dt vl bnd okT rd byt ol al)
def z19 : W6 := List.replicate 19 0
def mRr (x : W6) : Mm := G5 [⟨true, .a64 z9⟩, ⟨true, .a64 x⟩]
def iRr (l : Tx8) (i : Nat) : List (Nat × SV) := [(0, .s l), (2, .ptr 5 0), (3, .ptr 6 0), (4, .i (i : Nat))]
def oRr : List (Nat × SV) := [(2, .ptr 5 0), (3, .ptr 6 0)]
def LRr (l : Tx8) (z : W6) : LT := noL.add 0 (vLoop GE 35 (iRr l 0) (mRr z9) oRr (mRr z))
theorem vaRr (l : Tx8) (z : W6) (K : SV → Prop) : (vf Tryz.prog E00 (LRr l (w9 z)) 104 [.s l] GE (fun r _ => K r)) = (loopOf Tryz.prog 104 0 = loopOf Tryz.prog 104 0 ∧ SV.s l = SV.s l ∧ SV.ptr 5 0 = SV.ptr 5 0 ∧ SV.ptr 6 0 = SV.ptr 6 0 ∧ SV.i (0 : Int) = SV.i (↑(0 : Nat) : Int) ∧ g5E ((true = true ∧ Cont.a64 (List.replicate 9 (0 : BitVec 64)) = Cont.a64 z9) ∧ (true = true ∧ Cont.a64 (List.replicate 9 (0 : BitVec 64)) = Cont.a64 z9) ∧ K (SV.a64 (w9 z)))) := by kernel_rfl
theorem vrRr (l : Tx8) (x y z : W6) (i : Nat) (p : Prop) : (frK 35 (iRr l i) fun fr => vround Tryz.prog E00 noL 104 0 fr (mRr x) (Kn GE 0 35 p (iRr l (i + 1)) (mRr y) oRr (mRr z))) = (bif inI ((8 : Int) * (↑(List.length l) : Int)) then bif ilt (↑i : Int) ((8 : Int) * (↑(List.length l) : Int)) then bif inI (↑i : Int) then bif inR ((↑i : Int).tdiv (8 : Int)) (List.length l) then bif List.getD l ((↑i : Int).tdiv (8 : Int)).toNat (0 : BitVec 8) >>> (BitVec.ofInt (64 : Nat) ((↑i : Int).tmod (8 : Int))).toNat &&& BitVec.ofInt 8 1 == BitVec.ofInt 8 1 then bif inI (↑i : Int) then bif inI (↑i : Int) then bif inR ((↑i : Int).tdiv (30 : Int)) (9 : Nat) then bif ((↑i : Int).tdiv (30 : Int)).toNat.blt (List.length x) then bif inR ((↑i : Int).tdiv (30 : Int)) (9 : Nat) then bif ((↑i : Int).tdiv (30 : Int)).toNat.blt (List.length x) then bif inI ((↑i : Int) + (1 : Int)) then p ∧ SV.s l = SV.s l ∧ SV.ptr 5 0 = SV.ptr 5 0 ∧ SV.ptr 6 0 = SV.ptr 6 0 ∧ SV.i ((↑i : Int) + (1 : Int)) = SV.i (↑(i + (1 : Nat)) : Int) ∧ g5E ((true = true ∧ Cont.a64 z9 = Cont.a64 z9) ∧ (true = true ∧ Cont.a64 (List.set x ((↑i : Int).tdiv (30 : Int)).toNat (List.getD x ((↑i : Int).tdiv (30 : Int)).toNat (0 : BitVec 64) ||| BitVec.ofInt 64 1 <<< (BitVec.ofInt (64 : Nat) ((↑i : Int).tmod (30 : Int))).toNat)) = Cont.a64 y) ∧ True) else False else False else False else False else False else False else False else bif inI ((↑i : Int) + (1 : Int)) then p ∧ SV.s l = SV.s l ∧ SV.ptr 5 0 = SV.ptr 5 0 ∧ SV.ptr 6 0 = SV.ptr 6 0 ∧ SV.i ((↑i : Int) + (1 : Int)) = SV.i (↑(i + (1 : Nat)) : Int) ∧ g5E ((true = true ∧ Cont.a64 z9 = Cont.a64 z9) ∧ (true = true ∧ Cont.a64 x = Cont.a64 y) ∧ True) else False else False else False else (0 : Nat) = (0 : Nat) ∧ SV.ptr 5 0 = SV.ptr 5 0 ∧ SV.ptr 6 0 = SV.ptr 6 0 ∧ g5E ((true = true ∧ Cont.a64 z9 = Cont.a64 z9) ∧ (true = true ∧ Cont.a64 x = Cont.a64 z) ∧ True) else False) := by kernel_rfl
def cRe (F : Tx8 → W6) : List SV → List Cont → Option (Bool × SV)
 | [.s l], _ => some (Nat.beq l.length 32, .a64 (w9 (F l)))
 | _, _ => none
def EOf (R : Tx8 → W6) (C : W6 → Bool) (F : W6 → W6) : Env := ⟨GE, (noT.add 104 (cRe R)).add 83 (c1 C F), noC⟩
def mOf (t n : W6) : Mm := G5 [⟨true, .a64 z9⟩, ⟨true, .a64 t⟩, ⟨true, .a64 n⟩]
def iOf (i : Nat) : List (Nat × SV) := [(2, .ptr 5 0), (3, .ptr 6 0), (4, .ptr 7 0), (5, .i (i : Nat))]
def LOf (n z : W6) : LT := noL.add 0 (vLoop GE 19 (iOf 0) (mOf z19 n) oRr (mOf z n))
theorem vaOf (R : Tx8 → W6) (C : W6 → Bool) (F : W6 → W6) (l : Tx8) (z : W6) (K : SV → Prop) : (vf Tryz.prog (EOf R C F) (LOf (w9 (R l)) (w19 z)) 69 [.s l] GE (fun r _ => K r)) = (bif (List.length l).beq 32 then loopOf Tryz.prog 69 0 = loopOf Tryz.prog 69 0 ∧ SV.ptr 5 0 = SV.ptr 5 0 ∧ SV.ptr 6 0 = SV.ptr 6 0 ∧ SV.ptr 7 0 = SV.ptr 7 0 ∧ SV.i (0 : Int) = SV.i (↑(0 : Nat) : Int) ∧ g5E ((true = true ∧ Cont.a64 (List.replicate 9 (0 : BitVec 64)) = Cont.a64 z9) ∧ (true = true ∧ Cont.a64 (List.replicate 19 (0 : BitVec 64)) = Cont.a64 z19) ∧ (true = true ∧ Cont.a64 (w9 (R l)) = Cont.a64 (w9 (R l))) ∧ bif C (w19 z) then K (SV.a64 (w9 (F (w19 z)))) else False) else False) := by kernel_rfl
theorem vrOf (n x y z : W6) (i : Nat) (p : Prop) : (frK 19 (iOf i) fun fr => vround Tryz.prog E00 noL 69 0 fr (mOf x n) (Kn GE 0 19 p (iOf (i + 1)) (mOf y n) oRr (mOf z n))) = (bif ilt (↑i : Int) (9 : Int) then bif inR (↑i : Int) (9 : Nat) then bif i.blt (List.length n) then bif inR (↑i : Int) (19 : Nat) then bif i.blt (List.length x) then bif inI ((↑i : Int) + (1 : Int)) then p ∧ SV.ptr 5 0 = SV.ptr 5 0 ∧ SV.ptr 6 0 = SV.ptr 6 0 ∧ SV.ptr 7 0 = SV.ptr 7 0 ∧ SV.i ((↑i : Int) + (1 : Int)) = SV.i (↑(i + (1 : Nat)) : Int) ∧ g5E ((true = true ∧ Cont.a64 z9 = Cont.a64 z9) ∧ (true = true ∧ Cont.a64 (List.set x i (List.getD n i (0 : BitVec 64))) = Cont.a64 y) ∧ (true = true ∧ Cont.a64 n = Cont.a64 n) ∧ True) else False else False else False else False else False else (0 : Nat) = (0 : Nat) ∧ SV.ptr 5 0 = SV.ptr 5 0 ∧ SV.ptr 6 0 = SV.ptr 6 0 ∧ g5E ((true = true ∧ Cont.a64 z9 = Cont.a64 z9) ∧ (true = true ∧ Cont.a64 x = Cont.a64 z) ∧ (true = true ∧ Cont.a64 n = Cont.a64 n) ∧ True)) := by kernel_rfl
def ERe (C : W6 → Bool) (F : W6 → W6) : Env := ⟨GE, noT.add 83 (c1 C F), noC⟩
def mAd (a b t : W6) : Mm := G5 [⟨true, .a64 a⟩, ⟨true, .a64 b⟩, ⟨true, .a64 z9⟩, ⟨true, .a64 t⟩]
def iAd (i : Nat) : List (Nat × SV) := [(2, .ptr 5 0), (3, .ptr 6 0), (4, .ptr 7 0), (5, .ptr 8 0), (6, .i (i : Nat))]
def oAd : List (Nat × SV) := [(4, .ptr 7 0), (5, .ptr 8 0)]
def LAd (a b z : W6) : LT := noL.add 0 (vLoop GE 22 (iAd 0) (mAd a b z19) oAd (mAd a b z))
theorem vaAd (C : W6 → Bool) (F : W6 → W6) (a b z : W6) (K : SV → Prop) : (vf Tryz.prog (ERe C F) (LAd a b (w19 z)) 73 [.a64 a, .a64 b] GE (fun r _ => K r)) = (loopOf Tryz.prog 73 0 = loopOf Tryz.prog 73 0 ∧ SV.ptr 5 0 = SV.ptr 5 0 ∧ SV.ptr ((0 : Nat) + (1 : Nat) + (1 : Nat) + (1 : Nat) + (1 : Nat) + (1 : Nat) + (1 : Nat)) (0 : Nat) = SV.ptr 6 0 ∧ SV.ptr ((0 : Nat) + (1 : Nat) + (1 : Nat) + (1 : Nat) + (1 : Nat) + (1 : Nat) + (1 : Nat) + (1 : Nat)) (0 : Nat) = SV.ptr 7 0 ∧ SV.ptr ((0 : Nat) + (1 : Nat) + (1 : Nat) + (1 : Nat) + (1 : Nat) + (1 : Nat) + (1 : Nat) + (1 : Nat) + (1 : Nat)) (0 : Nat) = SV.ptr 8 0 ∧ SV.i (0 : Int) = SV.i (↑(0 : Nat) : Int) ∧ g5E ((true = true ∧ Cont.a64 a = Cont.a64 a) ∧ (true = true ∧ Cont.a64 b = Cont.a64 b) ∧ (true = true ∧ Cont.a64 (List.replicate 9 (0 : BitVec 64)) = Cont.a64 z9) ∧ (true = true ∧ Cont.a64 (List.replicate 19 (0 : BitVec 64)) = Cont.a64 z19) ∧ bif C (w19 z) then K (SV.a64 (w9 (F (w19 z)))) else False)) := by kernel_rfl
theorem vrAd (a b x y z : W6) (i : Nat) (p : Prop) : (frK 22 (iAd i) fun fr => vround Tryz.prog E00 noL 73 0 fr (mAd a b x) (Kn GE 0 22 p (iAd (i + 1)) (mAd a b y) oAd (mAd a b z))) = (bif ilt (↑i : Int) (9 : Int) then bif inR (↑i : Int) (9 : Nat) then bif i.blt (List.length a) then bif inR (↑i : Int) (9 : Nat) then bif i.blt (List.length b) then bif inR (↑i : Int) (19 : Nat) then bif i.blt (List.length x) then bif inI ((↑i : Int) + (1 : Int)) then p ∧ SV.ptr 5 0 = SV.ptr 5 0 ∧ SV.ptr 6 0 = SV.ptr 6 0 ∧ SV.ptr 7 0 = SV.ptr 7 0 ∧ SV.ptr 8 0 = SV.ptr 8 0 ∧ SV.i ((↑i : Int) + (1 : Int)) = SV.i (↑(i + (1 : Nat)) : Int) ∧ g5E ((true = true ∧ Cont.a64 a = Cont.a64 a) ∧ (true = true ∧ Cont.a64 b = Cont.a64 b) ∧ (true = true ∧ Cont.a64 z9 = Cont.a64 z9) ∧ (true = true ∧ Cont.a64 (List.set x i (List.getD a i (0 : BitVec 64) + List.getD b i (0 : BitVec 64))) = Cont.a64 y) ∧ True) else False else False else False else False else False else False else False else (0 : Nat) = (0 : Nat) ∧ SV.ptr 7 0 = SV.ptr 7 0 ∧ SV.ptr 8 0 = SV.ptr 8 0 ∧ g5E ((true = true ∧ Cont.a64 a = Cont.a64 a) ∧ (true = true ∧ Cont.a64 b = Cont.a64 b) ∧ (true = true ∧ Cont.a64 z9 = Cont.a64 z9) ∧ (true = true ∧ Cont.a64 x = Cont.a64 z) ∧ True)) := by kernel_rfl
def iMu (i k : Nat) : List (Nat × SV) := [(2, .ptr 5 0), (3, .ptr 6 0), (4, .ptr 7 0), (5, .ptr 8 0), (6, .i (i : Nat)), (7, .i (k : Nat))]
def LMu (a b z : W6) : LT := noL.add 0 (vLoop GE 35 (iAd 0) (mAd a b z19) oAd (mAd a b z))
def LMk (a b x y : W6) (i : Nat) : LT := noL.add 2 (vLoop GE 35 (iMu i 0) (mAd a b x) (iAd i) (mAd a b y))
theorem vaMu (C : W6 → Bool) (F : W6 → W6) (a b z : W6) (K : SV → Prop) : (vf Tryz.prog (ERe C F) (LMu a b (w19 z)) 43 [.a64 a, .a64 b] GE (fun r _ => K r)) = (loopOf Tryz.prog 43 0 = loopOf Tryz.prog 43 0 ∧ SV.ptr 5 0 = SV.ptr 5 0 ∧ SV.ptr ((0 : Nat) + (1 : Nat) + (1 : Nat) + (1 : Nat) + (1 : Nat) + (1 : Nat) + (1 : Nat)) (0 : Nat) = SV.ptr 6 0 ∧ SV.ptr ((0 : Nat) + (1 : Nat) + (1 : Nat) + (1 : Nat) + (1 : Nat) + (1 : Nat) + (1 : Nat) + (1 : Nat)) (0 : Nat) = SV.ptr 7 0 ∧ SV.ptr ((0 : Nat) + (1 : Nat) + (1 : Nat) + (1 : Nat) + (1 : Nat) + (1 : Nat) + (1 : Nat) + (1 : Nat) + (1 : Nat)) (0 : Nat) = SV.ptr 8 0 ∧ SV.i (0 : Int) = SV.i (↑(0 : Nat) : Int) ∧ g5E ((true = true ∧ Cont.a64 a = Cont.a64 a) ∧ (true = true ∧ Cont.a64 b = Cont.a64 b) ∧ (true = true ∧ Cont.a64 (List.replicate 9 (0 : BitVec 64)) = Cont.a64 z9) ∧ (true = true ∧ Cont.a64 (List.replicate 19 (0 : BitVec 64)) = Cont.a64 z19) ∧ bif C (w19 z) then K (SV.a64 (w9 (F (w19 z)))) else False)) := by kernel_rfl
theorem vrMk (a b x y z : W6) (i k : Nat) (p : Prop) : (frK 35 (iMu i k) fun fr => vround Tryz.prog E00 noL 43 2 fr (mAd a b x) (Kn GE 2 35 p (iMu i (k + 1)) (mAd a b y) (iAd i) (mAd a b z))) = (bif ilt (↑k : Int) (9 : Int) then bif inI ((↑i : Int) + (↑k : Int)) then bif inI ((↑i : Int) + (↑k : Int)) then bif inR ((↑i : Int) + (↑k : Int)) (19 : Nat) then bif ((↑i : Int) + (↑k : Int)).toNat.blt (List.length x) then bif inR (↑i : Int) (9 : Nat) then bif i.blt (List.length a) then bif inR (↑k : Int) (9 : Nat) then bif k.blt (List.length b) then bif inR ((↑i : Int) + (↑k : Int)) (19 : Nat) then bif ((↑i : Int) + (↑k : Int)).toNat.blt (List.length x) then bif inI ((↑k : Int) + (1 : Int)) then p ∧ SV.ptr 5 0 = SV.ptr 5 0 ∧ SV.ptr 6 0 = SV.ptr 6 0 ∧ SV.ptr 7 0 = SV.ptr 7 0 ∧ SV.ptr 8 0 = SV.ptr 8 0 ∧ SV.i (↑i : Int) = SV.i (↑i : Int) ∧ SV.i ((↑k : Int) + (1 : Int)) = SV.i (↑(k + (1 : Nat)) : Int) ∧ g5E ((true = true ∧ Cont.a64 a = Cont.a64 a) ∧ (true = true ∧ Cont.a64 b = Cont.a64 b) ∧ (true = true ∧ Cont.a64 z9 = Cont.a64 z9) ∧ (true = true ∧ Cont.a64 (List.set x ((↑i : Int) + (↑k : Int)).toNat (List.getD x ((↑i : Int) + (↑k : Int)).toNat (0 : BitVec 64) + List.getD a i (0 : BitVec 64) * List.getD b k (0 : BitVec 64))) = Cont.a64 y) ∧ True) else False else False else False else False else False else False else False else False else False else False else False else (2 : Nat) = (2 : Nat) ∧ SV.ptr 5 0 = SV.ptr 5 0 ∧ SV.ptr 6 0 = SV.ptr 6 0 ∧ SV.ptr 7 0 = SV.ptr 7 0 ∧ SV.ptr 8 0 = SV.ptr 8 0 ∧ SV.i (↑i : Int) = SV.i (↑i : Int) ∧ g5E ((true = true ∧ Cont.a64 a = Cont.a64 a) ∧ (true = true ∧ Cont.a64 b = Cont.a64 b) ∧ (true = true ∧ Cont.a64 z9 = Cont.a64 z9) ∧ (true = true ∧ Cont.a64 x = Cont.a64 z) ∧ True)) := by kernel_rfl
theorem vrMu (a b x t y w z : W6) (i m : Nat) (p : Prop) : (frK 35 (iAd i) fun fr => vround Tryz.prog E00 (LMk a b t y m) 43 0 fr (mAd a b x) (Kn GE 0 35 p (iAd (i + 1)) (mAd a b w) oAd (mAd a b z))) = (bif ilt (↑i : Int) (9 : Int) then loopOf Tryz.prog 43 2 = loopOf Tryz.prog 43 2 ∧ SV.ptr 5 0 = SV.ptr 5 0 ∧ SV.ptr 6 0 = SV.ptr 6 0 ∧ SV.ptr 7 0 = SV.ptr 7 0 ∧ SV.ptr 8 0 = SV.ptr 8 0 ∧ SV.i (↑i : Int) = SV.i (↑m : Int) ∧ SV.i (0 : Int) = SV.i (↑(0 : Nat) : Int) ∧ g5E ((true = true ∧ Cont.a64 a = Cont.a64 a) ∧ (true = true ∧ Cont.a64 b = Cont.a64 b) ∧ (true = true ∧ Cont.a64 z9 = Cont.a64 z9) ∧ (true = true ∧ Cont.a64 x = Cont.a64 t) ∧ bif inI ((↑m : Int) + (1 : Int)) then p ∧ SV.ptr 5 0 = SV.ptr 5 0 ∧ SV.ptr 6 0 = SV.ptr 6 0 ∧ SV.ptr 7 0 = SV.ptr 7 0 ∧ SV.ptr 8 0 = SV.ptr 8 0 ∧ SV.i ((↑m : Int) + (1 : Int)) = SV.i (↑(i + (1 : Nat)) : Int) ∧ g5E ((true = true ∧ Cont.a64 a = Cont.a64 a) ∧ (true = true ∧ Cont.a64 b = Cont.a64 b) ∧ (true = true ∧ Cont.a64 z9 = Cont.a64 z9) ∧ (true = true ∧ Cont.a64 y = Cont.a64 w) ∧ True) else False) else (0 : Nat) = (0 : Nat) ∧ SV.ptr 7 0 = SV.ptr 7 0 ∧ SV.ptr 8 0 = SV.ptr 8 0 ∧ g5E ((true = true ∧ Cont.a64 a = Cont.a64 a) ∧ (true = true ∧ Cont.a64 b = Cont.a64 b) ∧ (true = true ∧ Cont.a64 z9 = Cont.a64 z9) ∧ (true = true ∧ Cont.a64 x = Cont.a64 z) ∧ True)) := by kernel_rfl
def ESb (p : W6) (D : W6 → W6 → Bool) (F : W6 → W6 → W6) (C : W6 → W6 → Bool) (A : W6 → W6 → W6) : Env := ⟨GE, ((noT.add 105 (c0 p)).add 106 (c2 D F)).add 73 (c2 C A), noC⟩
theorem vaSb (p : W6) (D : W6 → W6 → Bool) (F : W6 → W6 → W6) (C : W6 → W6 → Bool) (A : W6 → W6 → W6) (a b : W6) (K : SV → Prop) : (vf Tryz.prog (ESb p D F C A) noL 71 [.a64 (w9 a), .a64 (w9 b)] GE (fun r _ => K r)) = (bif D (w9 p) (w9 b) then bif C (w9 a) (w9 (F (w9 p) (w9 b))) then K (SV.a64 (w9 (A (w9 a) (w9 (F (w9 p) (w9 b)))))) else False else False) := by kernel_rfl
theorem vaSm (n : BitVec 32) (K : SV → Prop) : (vf Tryz.prog E00 noL 70 [.w32 n] GE (fun r _ => K r)) = (K (SV.a64 ([BitVec.setWidth (64 : Nat) n &&& BitVec.ofInt 64 1073741823, BitVec.setWidth (64 : Nat) n >>> (30 : Nat)] ++ List.drop ((0 : Nat) + (1 : Nat) + (1 : Nat)) (List.replicate 9 (0 : BitVec 64))))) := by kernel_rfl
theorem tdiv30 (j : Nat) : (j : Int).tdiv 30 = ((j / 30 : Nat) : Int) := by rw [Int.tdiv_eq_ediv_of_nonneg (by omega)]; omega
theorem tmod30 (j : Nat) : (j : Int).tmod 30 = ((j % 30 : Nat) : Int) := by rw [Int.tmod_eq_emod_of_nonneg (by omega)]; omega
theorem tmod8' (j : Nat) : (j : Int).tmod 8 = ((j % 8 : Nat) : Int) := by rw [Int.tmod_eq_emod_of_nonneg (by omega)]; omega
theorem ofI64 {n : Nat} (h : n < 18446744073709551616) : (BitVec.ofInt 64 ((n : Nat) : Int)).toNat = n := by rw [BitVec.ofInt_natCast]; exact Mt.Dg.toN n h
theorem toNatI (n : Nat) : ((n : Nat) : Int).toNat = n := by omega
theorem bit8 (b : BitVec 8) (k : Nat) : (b >>> k &&& BitVec.ofInt 8 1 == BitVec.ofInt 8 1) = decide (b.toNat / 2 ^ k % 2 = 1) := by
 have e : (b >>> k &&& BitVec.ofInt 8 1).toNat = b.toNat / 2 ^ k % 2 := by
  rw [BitVec.toNat_and, show (BitVec.ofInt 8 1).toNat = 2 ^ 1 - 1 from rfl, Nat.and_two_pow_sub_one_eq_mod, BitVec.toNat_ushiftRight, Nat.shiftRight_eq_div_pow]
 by_cases h : b.toNat / 2 ^ k % 2 = 1
 ·rw [decide_eq_true h]
  exact beq_iff_eq.2 (BitVec.eq_of_toNat_eq (by rw [e, h]; rfl))
 ·rw [decide_eq_false h]
  refine beq_eq_false_iff_ne.2 fun e2 => h ?_
  rw [← e, e2]
  rfl
theorem or_bit {d r : Nat} (hr : r < 30) (hd : d < 2 ^ r) : BitVec.ofNat 64 d ||| BitVec.ofInt 64 1 <<< r = BitVec.ofNat 64 (d + 2 ^ r) := by
 have h2 := Mt.Dg.pow_le29 r hr
 apply BitVec.eq_of_toNat_eq
 rw [BitVec.toNat_or, BitVec.toNat_shiftLeft, show (BitVec.ofInt 64 1).toNat = 1 from rfl, Mt.Dg.toN d (by omega), Mt.Dg.toN _ (by omega), Nat.shiftLeft_eq, Nat.one_mul, Nat.mod_eq_of_lt (show 2 ^ r < 2 ^ 64 by omega)]
 have := Nat.shiftLeft_add_eq_or_of_lt (a := 1) (i := r) (b := d) hd
 rw [Nat.shiftLeft_eq, Nat.one_mul] at this
 rw [Nat.or_comm, ← this, Nat.add_comm]
theorem loopRr (l : Tx8) (hl : l.length = 32) (x z : W6) (hx : x = dg (rd l 32 % 2 ^ 0)) (hz : z = dg (rd l 32 % 2 ^ 256)) : ∀ fr M K, vLoop GE 35 (iRr l 0) (mRr x) oRr (mRr z) fr M K → Wp Tryz.prog GE GE (loopOf Tryz.prog 104 0) fr M K := by
 subst hx
 refine loop_next e00_ok mixed (noL_ok _ _ _ _) (Nat.le_refl _) (by kernel_rfl) (fun i => iRr l i) (fun i => mRr (dg (rd l 32 % 2 ^ i))) (fun i => i ≤ 256) (fun i => 256 - i) (fun i => i + 1) 0 (Nat.zero_le _) (fun i hi => of_eq (vrRr l (dg (rd l 32 % 2 ^ i)) (dg (rd l 32 % 2 ^ (i + 1))) z i _) ?_)
 have hb := Mt.Dg.rd_bit l i
 generalize rd l 32 = v at *
 rw [hl, show (8 : Int) * ((32 : Nat) : Int) = ((256 : Nat) : Int) from rfl]
 refine bif_of (by rfl) ?_
 cases hq : ilt (i : Int) ((256 : Nat) : Int)
 ·have hi2 : i = 256 := by have := le_of_ilt hq; omega
  have e : dg (v % 2 ^ i) = z := by rw [hz, hi2]
  rw [e]
  and_intros <;> first | exact rfl | exact trivial
 ·have hi2 : i < 256 := lt_of_ilt hq
  have hb := hb hi2
  have i0 : inI (i : Int) = true := inI_iff.2 (by omega)
  have i1 : inR ((i / 8 : Nat) : Int) 32 = true := inR_of (by omega)
  have i2 : inR ((i / 30 : Nat) : Int) 9 = true := inR_of (by omega)
  have i3 : inI ((i : Int) + 1) = true := inI_iff.2 (by omega)
  have i4 : Nat.blt (i / 30) (dg (v % 2 ^ i)).length = true := blt_of (by rw [dg_len]; omega)
  rw [tdiv8i, tdiv30, tmod8', tmod30, toNatI, toNatI, ofI64 (by omega), ofI64 (by omega), i0, i1, i2, i3, i4, bit8]
  rw [show (l.getD (i / 8) 0).toNat = byt l (i / 8) from rfl, hb]
  by_cases hbit : v / 2 ^ i % 2 = 1
  ·rw [decide_eq_true hbit, dg_get _ _ (by omega), or_bit (by omega) (Mt.Dg.dt_room v i), Mt.Dg.dg_bv, Mt.Dg.bv_set, Mt.Dg.dts_high v i (by omega) hbit, ← Mt.Dg.dg_bv]
   simp only [cond_true]
   and_intros <;> first | omega | exact rfl | exact trivial
  ·rw [decide_eq_false hbit]
   have e : dg (v % 2 ^ (i + 1)) = dg (v % 2 ^ i) := by rw [Mt.Dg.dg_bv, Mt.Dg.dg_bv, Mt.Dg.dts_low v i (by omega)]
   rw [e]
   simp only [cond_true, cond_false]
   and_intros <;> first | omega | exact rfl | exact trivial
def reF (l : Tx8) : W6 := dg (rd l 32)
theorem readD_ok : POk Tryz.prog GE 104 (cRe reF) := by
 intro args acs r hh β M w hR hw ha
 unfold cRe at hh
 split at hh
 ·rename_i l
  simp only [Option.some.injEq, Prod.mk.injEq] at hh
  obtain ⟨h1, rfl⟩ := hh
  have h1 := Nat.eq_of_beq_eq_true h1
  refine pokE' (E := E00) rfl e00_ok (LT.add_ok (noL_ok _ _ _ _) (loopRr l h1 z9 (w9 (dg (rd l 32))) (by rw [Nat.pow_zero, Nat.mod_one]; rfl) (by rw [Mt.Dg.rd_all]; rfl))) (vaRr l (dg (rd l 32)) _) ?_ rfl rfl hR
  and_intros <;> first | exact rfl | exact trivial
 ·cases hh
theorem loopOf' (v : Nat) (x z : W6) (hx : x = bv (ol v 0)) (hz : z = bv (ol v 9)) : ∀ fr M K, vLoop GE 19 (iOf 0) (mOf x (dg v)) oRr (mOf z (dg v)) fr M K → Wp Tryz.prog GE GE (loopOf Tryz.prog 69 0) fr M K := by
 subst hx
 refine loop_next e00_ok mixed (noL_ok _ _ _ _) (Nat.le_refl _) (by kernel_rfl) (fun i => iOf i) (fun i => mOf (bv (ol v i)) (dg v)) (fun i => i ≤ 9) (fun i => 9 - i) (fun i => i + 1) 0 (Nat.zero_le _) (fun i hi => of_eq (vrOf (dg v) (bv (ol v i)) (bv (ol v (i + 1))) z i _) ?_)
 cases hq : ilt (i : Int) 9
 ·have hi2 : i = 9 := by have := le_of_ilt (b := 9) hq; omega
  have e : bv (ol v i) = z := by rw [hz, hi2]
  rw [e]
  and_intros <;> first | exact rfl | exact trivial
 ·have hi2 : i < 9 := lt_of_ilt (b := 9) hq
  rw [inR_of hi2, inR_of (show i < 19 by omega), blt_of (show i < (dg v).length from hi2), blt_of (show i < (bv (ol v i)).length by rw [Mt.Dg.bv_len, Mt.Dg.ol_len]; omega), dg_get v i hi2, Mt.Dg.bv_set, Mt.Dg.ol_step v i hi2, show inI ((i : Int) + 1) = true from inI_iff.2 (by omega)]
  simp only [cond_true]
  and_intros <;> first | omega | exact rfl | exact trivial
theorem w19_len {l : W6} (h : l.length = 19) : w19 l = l := by
 match l, h with
 | [x0, x1, x2, x3, x4, x5, x6, x7, x8, x9, x10, x11, x12, x13, x14, x15, x16, x17, x18], _ => rfl
def ofF (l : Tx8) : W6 := dg (rd l 32 % Mt.Nt.P)
theorem eof_ok : EnvOk Tryz.prog (EOf reF okT rdcF) := ⟨PT.add_ok (PT.add_ok (noT_ok _ _) readD_ok) reduceD_ok, noC_ok _ _⟩
theorem rdc_bv {u : List Nat} (h1 : u.length = 19) (h2 : ∀ x ∈ u, x ≤ 18446742974197923840) (h3 : vl u < bnd 0) : w19 (bv u) = bv u ∧ okT (bv u) = true ∧ rdcF (bv u) = dg (vl u % Mt.Nt.P) := by
 obtain ⟨k1, k2⟩ := Mt.Dg.okT_bv h1 h2 h3
 refine ⟨w19_len (by rw [Mt.Dg.bv_len, h1]), k1, ?_⟩
 unfold rdcF
 rw [k2]
theorem ofD_ok : POk Tryz.prog GE 69 (cRe ofF) := by
 intro args acs r hh β M w hR hw ha
 unfold cRe at hh
 split at hh
 ·rename_i l
  simp only [Option.some.injEq, Prod.mk.injEq] at hh
  obtain ⟨h1, rfl⟩ := hh
  have hv := Mt.Dg.rd_lt4 l
  unfold ofF
  have e := Mt.Dg.ol_val (Mt.Dg.big_of4 hv)
  obtain ⟨k1, k2, k3⟩ := rdc_bv (Mt.Dg.ol_len (rd l 32) 9) (Mt.Dg.ol_le (rd l 32) 9) (by rw [e]; exact Mt.Dg.small_K19 hv)
  rw [e] at k3
  have Lo := loopOf' (rd l 32) z19 (w19 (bv (ol (rd l 32) 9))) (by rw [Mt.Dg.ol_zero]; rfl) k1
  refine pokE' (E := EOf reF okT rdcF) rfl eof_ok (LT.add_ok (noL_ok _ _ _ _) Lo) (vaOf reF okT rdcF l (bv (ol (rd l 32) 9)) _) ?_ rfl rfl hR
  rw [h1, k1, k2, k3]
  simp only [cond_true]
  and_intros <;> first | exact rfl | exact trivial
 ·cases hh
theorem loopAd (A B : Nat) (x z : W6) (hx : x = bv (al A B 0)) (hz : z = bv (al A B 9)) : ∀ fr M K, vLoop GE 22 (iAd 0) (mAd (dg A) (dg B) x) oAd (mAd (dg A) (dg B) z) fr M K → Wp Tryz.prog GE GE (loopOf Tryz.prog 73 0) fr M K := by
 subst hx
 refine loop_next e00_ok mixed (noL_ok _ _ _ _) (Nat.le_refl _) (by kernel_rfl) (fun i => iAd i) (fun i => mAd (dg A) (dg B) (bv (al A B i))) (fun i => i ≤ 9) (fun i => 9 - i) (fun i => i + 1) 0 (Nat.zero_le _) (fun i hi => of_eq (vrAd (dg A) (dg B) (bv (al A B i)) (bv (al A B (i + 1))) z i _) ?_)
 cases hq : ilt (i : Int) 9
 ·have hi2 : i = 9 := by have := le_of_ilt (b := 9) hq; omega
  have e : bv (al A B i) = z := by rw [hz, hi2]
  rw [e]
  and_intros <;> first | exact rfl | exact trivial
 ·have hi2 : i < 9 := lt_of_ilt (b := 9) hq
  rw [inR_of hi2, inR_of (show i < 19 by omega), blt_of (show i < (dg A).length from hi2), blt_of (show i < (dg B).length from hi2), blt_of (show i < (bv (al A B i)).length by rw [Mt.Dg.bv_len, Mt.Dg.al_len]; omega), dg_get A i hi2, dg_get B i hi2, Mt.Dg.addN, Mt.Dg.bv_set, Mt.Dg.al_step A B i hi2, show inI ((i : Int) + 1) = true from inI_iff.2 (by omega)]
  simp only [cond_true]
  and_intros <;> first | omega | exact rfl | exact trivial
def Qe (l : W6) : Bool := Qd l && Nat.ble (nv l) Mt.Nt.P
def QQ (l m : W6) : Bool := Q l && Q m
def adQ (l m : W6) : Bool := Qe l && Qe m
def adF (l m : W6) : W6 := dg ((nv l + nv m) % Mt.Nt.P)
def sbF (l m : W6) : W6 := dg ((nv l + Mt.Nt.P - nv m) % Mt.Nt.P)
def muF (l m : W6) : W6 := dg (nv l * nv m % Mt.Nt.P)
theorem of_Qe {l : W6} (h : Qe l = true) : l = dg (nv l) ∧ nv l ≤ Mt.Nt.P := by
 unfold Qe at h
 rw [Bool.and_eq_true] at h
 exact ⟨(Mt.Dg.of_Qd h.1).1, Nat.le_of_ble_eq_true h.2⟩
theorem Qe_dg {n : Nat} (h : n ≤ Mt.Nt.P) : Qe (dg n) = true := by
 unfold Qe
 rw [Mt.Dg.nv_dg (Mt.Dg.big_of h), Mt.Dg.Qd_dg, Nat.ble_eq_true_of_le h, Bool.true_and]
theorem ere_ok : EnvOk Tryz.prog (ERe okT rdcF) := ⟨PT.add_ok (noT_ok _ _) reduceD_ok, noC_ok _ _⟩
theorem addD_ok : POk Tryz.prog GE 73 (c2 adQ adF) := by
 intro args acs r hh β M w hR hw ha
 unfold c2 at hh
 split at hh
 ·rename_i l m
  simp only [Option.some.injEq, Prod.mk.injEq, adQ, Bool.and_eq_true] at hh
  obtain ⟨⟨h1, h2⟩, rfl⟩ := hh
  obtain ⟨e1, k1⟩ := of_Qe h1
  obtain ⟨e2, k2⟩ := of_Qe h2
  unfold adF
  generalize nv l = A at *
  generalize nv m = B at *
  subst e1; subst e2
  have e := Mt.Dg.al_val (Mt.Dg.big_of k1) (Mt.Dg.big_of k2)
  obtain ⟨k3, k4, k5⟩ := rdc_bv (Mt.Dg.al_len A B 9) (Mt.Dg.al_le A B 9) (by rw [e]; exact Mt.Dg.sum_K19 k1 k2)
  rw [e] at k5
  have Lo := loopAd A B z19 (w19 (bv (al A B 9))) (by rw [Mt.Dg.al_zero]; rfl) k3
  refine pokE' (E := ERe okT rdcF) rfl ere_ok (LT.add_ok (noL_ok _ _ _ _) Lo) (vaAd okT rdcF (dg A) (dg B) (bv (al A B 9)) _) ?_ rfl rfl hR
  rw [k3, k4, k5]
  simp only [cond_true]
  and_intros <;> first | exact rfl | exact trivial
 ·cases hh
theorem c2_mono {f : Nat} {C C' : W6 → W6 → Bool} {F F' : W6 → W6 → W6} (hC : ∀ l m, C' l m = true → C l m = true ∧ F l m = F' l m) (h : POk Tryz.prog GE f (c2 C F)) : POk Tryz.prog GE f (c2 C' F') := by
 intro args acs r hh
 unfold c2 at hh
 split at hh
 ·rename_i l m
  simp only [Option.some.injEq, Prod.mk.injEq] at hh
  obtain ⟨h1, rfl⟩ := hh
  obtain ⟨h2, h3⟩ := hC l m h1
  refine h [.a64 l, .a64 m] acs _ ?_
  show some (C l m, SV.a64 (w9 (F l m))) = _
  rw [h2, h3]
 ·cases hh
theorem esb_ok : EnvOk Tryz.prog (ESb (dg Mt.Nt.P) miC miF adQ adF) := ⟨PT.add_ok (PT.add_ok (PT.add_ok (noT_ok _ _) primeD_ok) minusD_ok) addD_ok, noC_ok _ _⟩
theorem subD_ok : POk Tryz.prog GE 71 (c2 QQ sbF) := by
 intro args acs r hh β M w hR hw ha
 unfold c2 at hh
 split at hh
 ·rename_i l m
  simp only [Option.some.injEq, Prod.mk.injEq, QQ, Bool.and_eq_true] at hh
  obtain ⟨⟨h1, h2⟩, rfl⟩ := hh
  obtain ⟨e1, k1⟩ := Mt.Dg.of_Q h1
  obtain ⟨e2, k2⟩ := Mt.Dg.of_Q h2
  unfold sbF
  generalize nv l = A at *
  generalize nv m = B at *
  subst e1; subst e2
  refine pokE (E := ESb (dg Mt.Nt.P) miC miF adQ adF) rfl esb_ok (vaSb (dg Mt.Nt.P) miC miF adQ adF (dg A) (dg B) _) ?_ rfl rfl hR
  have b1 := Mt.Dg.big_of (Nat.le_of_lt k2)
  rw [Mt.Dg.w9_dg, Mt.Dg.w9_dg, Mt.Dg.w9_dg, miC_dg P_div b1 (Nat.le_of_lt k2), miF_dg P_div b1, Mt.Dg.w9_dg]
  have hc : adQ (dg A) (dg (Mt.Nt.P - B)) = true := by unfold adQ; rw [Qe_dg (Nat.le_of_lt k1), Qe_dg (Nat.sub_le _ _)]; rfl
  have hf : adF (dg A) (dg (Mt.Nt.P - B)) = dg ((A + Mt.Nt.P - B) % Mt.Nt.P) := by
   unfold adF
   rw [Mt.Dg.nv_dg (Mt.Dg.big_of (Nat.le_of_lt k1)), Mt.Dg.nv_dg (Mt.Dg.big_of (Nat.sub_le _ _)), Nat.add_sub_assoc (Nat.le_of_lt k2)]
  rw [hc, hf]
  exact rfl
 ·cases hh
def mI (A B i : Nat) (t : List Nat) : Nat → List Nat
 | 0 => t
 | k + 1 => (mI A B i t k).set (i + k) ((mI A B i t k).getD (i + k) 0 + dt A i * dt B k)
def mO (A B : Nat) : Nat → List Nat
 | 0 => List.replicate 19 0
 | i + 1 => mI A B i (mO A B i) 9
theorem mI_is {A B i : Nat} {t : List Nat} (h : Mt.Dg.MI A B i 0 t) (hi : i < 9) : ∀ k, k ≤ 9 → Mt.Dg.MI A B i k (mI A B i t k)
 | 0, _ => h
 | k + 1, hk => (mI_is h hi k (by omega)).step hi (by omega)
theorem mO_is {A B : Nat} (hB : B / 2 ^ (30 * 9) = 0) : ∀ i, i ≤ 9 → Mt.Dg.MI A B i 0 (mO A B i)
 | 0, _ => Mt.Dg.MI.start A B
 | i + 1, hi => (mI_is (mO_is hB i (by omega)) (by omega) 9 (Nat.le_refl _)).row hB
theorem loopMk (A B i : Nat) (t : List Nat) (hi : i < 9) (h : Mt.Dg.MI A B i 0 t) (x z : W6) (hx : x = bv t) (hz : z = bv (mI A B i t 9)) : ∀ fr M K, vLoop GE 35 (iMu i 0) (mAd (dg A) (dg B) x) (iAd i) (mAd (dg A) (dg B) z) fr M K → Wp Tryz.prog GE GE (loopOf Tryz.prog 43 2) fr M K := by
 subst hx
 refine loop_next e00_ok mixed (noL_ok _ _ _ _) (Nat.le_refl _) (by kernel_rfl) (fun k => iMu i k) (fun k => mAd (dg A) (dg B) (bv (mI A B i t k))) (fun k => k ≤ 9) (fun k => 9 - k) (fun k => k + 1) 0 (Nat.zero_le _) (fun k hk => of_eq (vrMk (dg A) (dg B) (bv (mI A B i t k)) (bv (mI A B i t (k + 1))) z i k _) ?_)
 cases hq : ilt (k : Int) 9
 ·have hk2 : k = 9 := by have := le_of_ilt (b := 9) hq; omega
  have e : bv (mI A B i t k) = z := by rw [hz, hk2]
  rw [e]
  and_intros <;> first | exact rfl | exact trivial
 ·have hk2 : k < 9 := lt_of_ilt (b := 9) hq
  have hl := (mI_is h hi k (by omega)).1
  have hn : mI A B i t (k + 1) = (mI A B i t k).set (i + k) ((mI A B i t k).getD (i + k) 0 + dt A i * dt B k) := rfl
  rw [hn, show ((i : Int) + (k : Int)).toNat = i + k by omega, inR_of hi, inR_of hk2, blt_of (show i < (dg A).length from hi), blt_of (show k < (dg B).length from hk2), blt_of (show i + k < (bv (mI A B i t k)).length by rw [Mt.Dg.bv_len, hl]; omega), dg_get A i hi, dg_get B k hk2, Mt.Dg.bv_get, Mt.Dg.mulN, Mt.Dg.addN, Mt.Dg.bv_set, show inI ((k : Int) + 1) = true from inI_iff.2 (by omega), show inI ((i : Int) + (k : Int)) = true from inI_iff.2 (by omega), show inR ((i : Int) + (k : Int)) 19 = true from inR_iff.2 ⟨by omega, by omega⟩]
  simp only [cond_true]
  and_intros <;> first | omega | exact rfl | exact trivial
theorem loopMu (A B : Nat) (hB : B / 2 ^ (30 * 9) = 0) (x z : W6) (hx : x = bv (mO A B 0)) (hz : z = bv (mO A B 9)) : ∀ fr M K, vLoop GE 35 (iAd 0) (mAd (dg A) (dg B) x) oAd (mAd (dg A) (dg B) z) fr M K → Wp Tryz.prog GE GE (loopOf Tryz.prog 43 0) fr M K := by
 subst hx
 refine loop_nextL e00_ok mixed (Nat.le_refl _) (by kernel_rfl) (L := fun i => LMk (dg A) (dg B) (bv (mO A B (min i 8))) (bv (mO A B (min i 8 + 1))) (min i 8)) (fun i => LT.add_ok (noL_ok _ _ _ _) (loopMk A B (min i 8) (mO A B (min i 8)) (by omega) (mO_is hB _ (by omega)) _ _ rfl rfl)) (fun i => iAd i) (fun i => mAd (dg A) (dg B) (bv (mO A B i))) (fun i => i ≤ 9) (fun i => 9 - i) (fun i => i + 1) 0 (Nat.zero_le _) (fun i hi => of_eq (vrMu (dg A) (dg B) (bv (mO A B i)) (bv (mO A B (min i 8))) (bv (mO A B (min i 8 + 1))) (bv (mO A B (i + 1))) z i (min i 8) _) ?_)
 cases hq : ilt (i : Int) 9
 ·have hi2 : i = 9 := by have := le_of_ilt (b := 9) hq; omega
  have e : bv (mO A B i) = z := by rw [hz, hi2]
  rw [e]
  and_intros <;> first | exact rfl | exact trivial
 ·have hi2 : i < 9 := lt_of_ilt (b := 9) hq
  have em : min i 8 = i := by omega
  rw [em, show inI ((i : Int) + 1) = true from inI_iff.2 (by omega)]
  simp only [cond_true]
  and_intros <;> first | omega | exact rfl | exact trivial
theorem mul_K19 {A B : Nat} (hA : A < Mt.Nt.P) (hB : B < Mt.Nt.P) : A * B < bnd 0 := by
 have h1 : A * B ≤ Mt.Nt.P * Mt.Nt.P := Nat.mul_le_mul (Nat.le_of_lt hA) (Nat.le_of_lt hB)
 have h2 : Mt.Nt.P * Mt.Nt.P < bnd 0 := by rw [Mt.Nt.P_val]; decide +kernel
 exact Nat.lt_of_le_of_lt h1 h2
theorem mulD_ok : POk Tryz.prog GE 43 (c2 QQ muF) := by
 intro args acs r hh β M w hR hw ha
 unfold c2 at hh
 split at hh
 ·rename_i l m
  simp only [Option.some.injEq, Prod.mk.injEq, QQ, Bool.and_eq_true] at hh
  obtain ⟨⟨h1, h2⟩, rfl⟩ := hh
  obtain ⟨e1, k1⟩ := Mt.Dg.of_Q h1
  obtain ⟨e2, k2⟩ := Mt.Dg.of_Q h2
  unfold muF
  generalize nv l = A at *
  generalize nv m = B at *
  subst e1; subst e2
  have hB := Mt.Dg.big_of (Nat.le_of_lt k2)
  have hM := mO_is (A := A) hB 9 (Nat.le_refl _)
  obtain ⟨e, hle⟩ := hM.last (Mt.Dg.big_of (Nat.le_of_lt k1))
  obtain ⟨k3, k4, k5⟩ := rdc_bv hM.1 hle (by rw [e]; exact mul_K19 k1 k2)
  rw [e] at k5
  have Lo := loopMu A B hB z19 (w19 (bv (mO A B 9))) rfl k3
  refine pokE' (E := ERe okT rdcF) rfl ere_ok (LT.add_ok (noL_ok _ _ _ _) Lo) (vaMu okT rdcF (dg A) (dg B) (bv (mO A B 9)) _) ?_ rfl rfl hR
  rw [k3, k4, k5]
  simp only [cond_true]
  and_intros <;> first | exact rfl | exact trivial
 ·cases hh
def smF (n : BitVec 32) : W6 := [BitVec.setWidth 64 n &&& BitVec.ofInt 64 1073741823, BitVec.setWidth 64 n >>> 30, 0, 0, 0, 0, 0, 0, 0]
def cSm (F : BitVec 32 → W6) : List SV → List Cont → Option (Bool × SV)
 | [.w32 n], _ => some (true, .a64 (w9 (F n)))
 | _, _ => none
theorem smallD_ok : POk Tryz.prog GE 70 (cSm smF) := by
 intro args acs r hh β M w hR hw ha
 unfold cSm at hh
 split at hh
 ·rename_i n
  simp only [Option.some.injEq, Prod.mk.injEq, true_and] at hh
  subst hh
  exact pokE (E := E00) rfl e00_ok (vaSm n _) rfl rfl rfl hR
 ·cases hh
theorem sm_one : smF 1 = dg 1 := by decide +kernel
theorem sm_two : smF 2 = dg 2 := by decide +kernel
end Dc
end Go.Proofs.YtdfghknonbmadaaGreatDoor
