/-
  The document's numbers: reduce, in the reckoner. No statement is proved here.
-/
import Derived.Test.YtdfghknonbmadaaGreatDoorDnA
namespace Go.Proofs.YtdfghknonbmadaaGreatDoor
namespace Dc
open Go.RowKit
set_option linter.unusedVariables false
set_option linter.unusedSimpArgs false
set_option maxRecDepth 100000
open Mt.Dg (w9 dg bv nv Q Qd dt cr cc fe g2 S1 S2 vl bnd cp9 okT)
def mR1 (t : W6) : Mm := G5 [⟨true, .a64 t⟩, ⟨true, .a64 z9⟩]
def mR2 (t n : W6) : Mm := G5 [⟨true, .a64 t⟩, ⟨true, .a64 z9⟩, ⟨true, .a64 n⟩]
def iRa (k : Nat) (c : B6) (i : Nat) : List (Nat × SV) := [(1, .ptr 5 0), (2, .ptr 6 0), (3, .i (k : Nat)), (4, .w64 c), (5, .i (i : Nat))]
def iRb (k i : Nat) : List (Nat × SV) := [(1, .ptr 5 0), (2, .ptr 6 0), (3, .i (k : Nat)), (7, .i (i : Nat))]
def iRc (k : Nat) : List (Nat × SV) := [(1, .ptr 5 0), (2, .ptr 6 0), (3, .i (k : Nat))]
def oRc : List (Nat × SV) := [(1, .ptr 5 0), (2, .ptr 6 0)]
def iRd (k : Nat) (c : B6) (i : Nat) : List (Nat × SV) := [(1, .ptr 5 0), (2, .ptr 6 0), (8, .ptr 7 0), (9, .i (k : Nat)), (10, .w64 c), (11, .i (i : Nat))]
def oRd (k : Nat) (c : B6) : List (Nat × SV) := [(1, .ptr 5 0), (2, .ptr 6 0), (8, .ptr 7 0), (9, .i (k : Nat)), (10, .w64 c)]
def iRe (k : Nat) : List (Nat × SV) := [(1, .ptr 5 0), (2, .ptr 6 0), (8, .ptr 7 0), (9, .i (k : Nat))]
def oRe : List (Nat × SV) := [(1, .ptr 5 0), (2, .ptr 6 0), (8, .ptr 7 0)]
def iRf (i : Nat) : List (Nat × SV) := [(1, .ptr 5 0), (2, .ptr 6 0), (8, .ptr 7 0), (13, .i (i : Nat))]
def iRg : List (Nat × SV) := [(2, .ptr 6 0), (8, .ptr 7 0)]
def ERd (p : W6) (C : W6 → W6 → Bool) (L : W6 → W6 → Bool) (D : W6 → W6 → Bool) (F : W6 → W6 → W6) : Env := ⟨GE, ((noT.add 105 (c0 p)).add 103 (c2b C L)).add 106 (c2 D F), noC⟩
def LRi (k : Nat) (t u v : W6) : LT := (noL.add 2 (vLoop GE 103 (iRa k 0 0) (mR1 t) (iRc k) (mR1 u))).add 4 (vLoop GE 103 (iRb k 0) (mR1 u) (iRc k) (mR1 v))
def LRd (k : Nat) (t u n : W6) (c : B6) : LT := noL.add 8 (vLoop GE 103 (iRd k 0 0) (mR2 t n) (oRd k c) (mR2 u n))
def LRt (t u v n m : W6) : LT := (((noL.add 0 (vLoop GE 103 (iRc 0) (mR1 t) oRc (mR1 u))).add 6 (vLoop GE 103 (iRe 0) (mR2 u z9) oRe (mR2 v z9))).add 10 (vLoop GE 103 (iRf 0) (mR2 v z9) iRg (mR2 v n))).add 12 (vLoop GE 103 iRg (mR2 v n) iRg (mR2 v m))
def w19 (l : W6) : W6 := [l.getD 0 0, l.getD 1 0, l.getD 2 0, l.getD 3 0, l.getD 4 0, l.getD 5 0, l.getD 6 0, l.getD 7 0, l.getD 8 0, l.getD 9 0, l.getD 10 0, l.getD 11 0, l.getD 12 0, l.getD 13 0, l.getD 14 0, l.getD 15 0, l.getD 16 0, l.getD 17 0, l.getD 18 0]
section
variable (P : W6) (C L D : W6 → W6 → Bool) (F : W6 → W6 → W6)
theorem vaRt (P : W6) (C L D : W6 → W6 → Bool) (F : W6 → W6 → W6) (t u v n m : W6) (K : SV → Prop) : (vf Tryz.prog (ERd P C L D F) (LRt t u v n (w9 m)) 83 [.a64 t] GE (fun r _ => K r)) = (loopOf Tryz.prog 83 0 = loopOf Tryz.prog 83 0 ∧ SV.ptr 5 0 = SV.ptr 5 0 ∧ SV.ptr ((0 : Nat) + (1 : Nat) + (1 : Nat) + (1 : Nat) + (1 : Nat) + (1 : Nat) + (1 : Nat)) (0 : Nat) = SV.ptr 6 0 ∧ SV.i (0 : Int) = SV.i (↑(0 : Nat) : Int) ∧ g5E ((true = true ∧ Cont.a64 t = Cont.a64 t) ∧ (true = true ∧ Cont.a64 (List.replicate 9 (0 : BitVec 64)) = Cont.a64 z9) ∧ loopOf Tryz.prog 83 6 = loopOf Tryz.prog 83 6 ∧ SV.ptr 5 0 = SV.ptr 5 0 ∧ SV.ptr 6 0 = SV.ptr 6 0 ∧ SV.ptr (List.length (mR1 u)) (0 : Nat) = SV.ptr 7 0 ∧ SV.i (0 : Int) = SV.i (↑(0 : Nat) : Int) ∧ g5E ((true = true ∧ Cont.a64 u = Cont.a64 u) ∧ (true = true ∧ Cont.a64 z9 = Cont.a64 z9) ∧ (true = true ∧ Cont.a64 (List.replicate 9 (0 : BitVec 64)) = Cont.a64 z9) ∧ loopOf Tryz.prog 83 10 = loopOf Tryz.prog 83 10 ∧ SV.ptr 5 0 = SV.ptr 5 0 ∧ SV.ptr 6 0 = SV.ptr 6 0 ∧ SV.ptr 7 0 = SV.ptr 7 0 ∧ SV.i (0 : Int) = SV.i (↑(0 : Nat) : Int) ∧ g5E ((true = true ∧ Cont.a64 v = Cont.a64 v) ∧ (true = true ∧ Cont.a64 z9 = Cont.a64 z9) ∧ (true = true ∧ Cont.a64 z9 = Cont.a64 z9) ∧ loopOf Tryz.prog 83 12 = loopOf Tryz.prog 83 12 ∧ SV.ptr 6 0 = SV.ptr 6 0 ∧ SV.ptr 7 0 = SV.ptr 7 0 ∧ g5E ((true = true ∧ Cont.a64 v = Cont.a64 v) ∧ (true = true ∧ Cont.a64 z9 = Cont.a64 z9) ∧ (true = true ∧ Cont.a64 n = Cont.a64 n) ∧ K (SV.a64 (w9 m))))))) := by kernel_rfl
theorem vrRa (x y z : W6) (k i : Nat) (c d : B6) (p : Prop) : (frK 103 (iRa k c i) fun fr => vround Tryz.prog E00 noL 83 2 fr (mR1 x) (Kn GE 2 103 p (iRa k d (i + 1)) (mR1 y) (iRc k) (mR1 z))) = (bif ilt (↑i : Int) (19 : Int) then bif inR (↑i : Int) (19 : Nat) then bif i.blt (List.length x) then bif inR (↑i : Int) (19 : Nat) then bif i.blt (List.length x) then bif inI ((↑i : Int) + (1 : Int)) then p ∧ SV.ptr 5 0 = SV.ptr 5 0 ∧ SV.ptr 6 0 = SV.ptr 6 0 ∧ SV.i (↑k : Int) = SV.i (↑k : Int) ∧ SV.w64 ((List.getD x i (0 : BitVec 64) + c) >>> (30 : Nat)) = SV.w64 d ∧ SV.i ((↑i : Int) + (1 : Int)) = SV.i (↑(i + (1 : Nat)) : Int) ∧ g5E ((true = true ∧ Cont.a64 (List.set x i (List.getD x i (0 : BitVec 64) + c &&& BitVec.ofInt 64 1073741823)) = Cont.a64 y) ∧ (true = true ∧ Cont.a64 z9 = Cont.a64 z9) ∧ True) else False else False else False else False else False else (2 : Nat) = (2 : Nat) ∧ SV.ptr 5 0 = SV.ptr 5 0 ∧ SV.ptr 6 0 = SV.ptr 6 0 ∧ SV.i (↑k : Int) = SV.i (↑k : Int) ∧ g5E ((true = true ∧ Cont.a64 x = Cont.a64 z) ∧ (true = true ∧ Cont.a64 z9 = Cont.a64 z9) ∧ True)) := by kernel_rfl
theorem vrRb (x y z : W6) (k i : Nat) (p : Prop) : (frK 103 (iRb k i) fun fr => vround Tryz.prog E00 noL 83 4 fr (mR1 x) (Kn GE 4 103 p (iRb k (i + 1)) (mR1 y) (iRc k) (mR1 z))) = (bif ilt (↑i : Int) (10 : Int) then bif inR (↑i : Int) (19 : Nat) then bif i.blt (List.length x) then bif inI ((9 : Int) + (↑i : Int)) then bif inR ((9 : Int) + (↑i : Int)) (19 : Nat) then bif ((9 : Int) + (↑i : Int)).toNat.blt (List.length x) then bif inR (↑i : Int) (19 : Nat) then bif i.blt (List.length x) then bif inI ((9 : Int) + (↑i : Int)) then bif inR ((9 : Int) + (↑i : Int)) (19 : Nat) then bif ((9 : Int) + (↑i : Int)).toNat.blt (List.set x i (List.getD x i (0 : BitVec 64) + List.getD x ((9 : Int) + (↑i : Int)).toNat (0 : BitVec 64) * BitVec.ofInt 64 622592)).length then bif inI ((↑i : Int) + (1 : Int)) then p ∧ SV.ptr 5 0 = SV.ptr 5 0 ∧ SV.ptr 6 0 = SV.ptr 6 0 ∧ SV.i (↑k : Int) = SV.i (↑k : Int) ∧ SV.i ((↑i : Int) + (1 : Int)) = SV.i (↑(i + (1 : Nat)) : Int) ∧ g5E ((true = true ∧ Cont.a64 ((List.set x i (List.getD x i (0 : BitVec 64) + List.getD x ((9 : Int) + (↑i : Int)).toNat (0 : BitVec 64) * BitVec.ofInt 64 622592)).set ((9 : Int) + (↑i : Int)).toNat (BitVec.ofInt 64 0)) = Cont.a64 y) ∧ (true = true ∧ Cont.a64 z9 = Cont.a64 z9) ∧ True) else False else False else False else False else False else False else False else False else False else False else False else (4 : Nat) = (4 : Nat) ∧ SV.ptr 5 0 = SV.ptr 5 0 ∧ SV.ptr 6 0 = SV.ptr 6 0 ∧ SV.i (↑k : Int) = SV.i (↑k : Int) ∧ g5E ((true = true ∧ Cont.a64 x = Cont.a64 z) ∧ (true = true ∧ Cont.a64 z9 = Cont.a64 z9) ∧ True)) := by kernel_rfl
theorem vrRc (t u v y z : W6) (k : Nat) (p : Prop) : (frK 103 (iRc k) fun fr => vround Tryz.prog E00 (LRi k t u v) 83 0 fr (mR1 t) (Kn GE 0 103 p (iRc (k + 1)) (mR1 y) oRc (mR1 z))) = (bif ilt (↑k : Int) (3 : Int) then loopOf Tryz.prog 83 2 = loopOf Tryz.prog 83 2 ∧ SV.ptr 5 0 = SV.ptr 5 0 ∧ SV.ptr 6 0 = SV.ptr 6 0 ∧ SV.i (↑k : Int) = SV.i (↑k : Int) ∧ SV.w64 (BitVec.ofInt 64 0) = SV.w64 (0 : B6) ∧ SV.i (0 : Int) = SV.i (↑(0 : Nat) : Int) ∧ g5E ((true = true ∧ Cont.a64 t = Cont.a64 t) ∧ (true = true ∧ Cont.a64 z9 = Cont.a64 z9) ∧ loopOf Tryz.prog 83 4 = loopOf Tryz.prog 83 4 ∧ SV.ptr 5 0 = SV.ptr 5 0 ∧ SV.ptr 6 0 = SV.ptr 6 0 ∧ SV.i (↑k : Int) = SV.i (↑k : Int) ∧ SV.i (0 : Int) = SV.i (↑(0 : Nat) : Int) ∧ g5E ((true = true ∧ Cont.a64 u = Cont.a64 u) ∧ (true = true ∧ Cont.a64 z9 = Cont.a64 z9) ∧ bif inI ((↑k : Int) + (1 : Int)) then p ∧ SV.ptr 5 0 = SV.ptr 5 0 ∧ SV.ptr 6 0 = SV.ptr 6 0 ∧ SV.i ((↑k : Int) + (1 : Int)) = SV.i (↑(k + (1 : Nat)) : Int) ∧ g5E ((true = true ∧ Cont.a64 v = Cont.a64 y) ∧ (true = true ∧ Cont.a64 z9 = Cont.a64 z9) ∧ True) else False)) else (0 : Nat) = (0 : Nat) ∧ SV.ptr 5 0 = SV.ptr 5 0 ∧ SV.ptr 6 0 = SV.ptr 6 0 ∧ g5E ((true = true ∧ Cont.a64 t = Cont.a64 z) ∧ (true = true ∧ Cont.a64 z9 = Cont.a64 z9) ∧ True)) := by kernel_rfl
theorem vrRcE (x t u v y z : W6) (k m : Nat) (p : Prop) : (frK 103 (iRc k) fun fr => vround Tryz.prog E00 (LRi m t u v) 83 0 fr (mR1 x) (Kn GE 0 103 p (iRc (k + 1)) (mR1 y) oRc (mR1 z))) = (bif ilt (↑k : Int) (3 : Int) then loopOf Tryz.prog 83 2 = loopOf Tryz.prog 83 2 ∧ SV.ptr 5 0 = SV.ptr 5 0 ∧ SV.ptr 6 0 = SV.ptr 6 0 ∧ SV.i (↑k : Int) = SV.i (↑m : Int) ∧ SV.w64 (BitVec.ofInt 64 0) = SV.w64 (0 : B6) ∧ SV.i (0 : Int) = SV.i (↑(0 : Nat) : Int) ∧ g5E ((true = true ∧ Cont.a64 x = Cont.a64 t) ∧ (true = true ∧ Cont.a64 z9 = Cont.a64 z9) ∧ loopOf Tryz.prog 83 4 = loopOf Tryz.prog 83 4 ∧ SV.ptr 5 0 = SV.ptr 5 0 ∧ SV.ptr 6 0 = SV.ptr 6 0 ∧ SV.i (↑m : Int) = SV.i (↑m : Int) ∧ SV.i (0 : Int) = SV.i (↑(0 : Nat) : Int) ∧ g5E ((true = true ∧ Cont.a64 u = Cont.a64 u) ∧ (true = true ∧ Cont.a64 z9 = Cont.a64 z9) ∧ bif inI ((↑m : Int) + (1 : Int)) then p ∧ SV.ptr 5 0 = SV.ptr 5 0 ∧ SV.ptr 6 0 = SV.ptr 6 0 ∧ SV.i ((↑m : Int) + (1 : Int)) = SV.i (↑(k + (1 : Nat)) : Int) ∧ g5E ((true = true ∧ Cont.a64 v = Cont.a64 y) ∧ (true = true ∧ Cont.a64 z9 = Cont.a64 z9) ∧ True) else False)) else (0 : Nat) = (0 : Nat) ∧ SV.ptr 5 0 = SV.ptr 5 0 ∧ SV.ptr 6 0 = SV.ptr 6 0 ∧ g5E ((true = true ∧ Cont.a64 x = Cont.a64 z) ∧ (true = true ∧ Cont.a64 z9 = Cont.a64 z9) ∧ True)) := by kernel_rfl
theorem vrRd (x y z n : W6) (k i : Nat) (c d e : B6) (p : Prop) : (frK 103 (iRd k c i) fun fr => vround Tryz.prog E00 noL 83 8 fr (mR2 x n) (Kn GE 8 103 p (iRd k d (i + 1)) (mR2 y n) (oRd k e) (mR2 z n))) = (bif ilt (↑i : Int) (9 : Int) then bif inR (↑i : Int) (19 : Nat) then bif i.blt (List.length x) then bif inR (↑i : Int) (19 : Nat) then bif i.blt (List.length x) then bif inI ((↑i : Int) + (1 : Int)) then p ∧ SV.ptr 5 0 = SV.ptr 5 0 ∧ SV.ptr 6 0 = SV.ptr 6 0 ∧ SV.ptr 7 0 = SV.ptr 7 0 ∧ SV.i (↑k : Int) = SV.i (↑k : Int) ∧ SV.w64 ((List.getD x i (0 : BitVec 64) + c) >>> (30 : Nat)) = SV.w64 d ∧ SV.i ((↑i : Int) + (1 : Int)) = SV.i (↑(i + (1 : Nat)) : Int) ∧ g5E ((true = true ∧ Cont.a64 (List.set x i (List.getD x i (0 : BitVec 64) + c &&& BitVec.ofInt 64 1073741823)) = Cont.a64 y) ∧ (true = true ∧ Cont.a64 z9 = Cont.a64 z9) ∧ (true = true ∧ Cont.a64 n = Cont.a64 n) ∧ True) else False else False else False else False else False else (8 : Nat) = (8 : Nat) ∧ SV.ptr 5 0 = SV.ptr 5 0 ∧ SV.ptr 6 0 = SV.ptr 6 0 ∧ SV.ptr 7 0 = SV.ptr 7 0 ∧ SV.i (↑k : Int) = SV.i (↑k : Int) ∧ SV.w64 c = SV.w64 e ∧ g5E ((true = true ∧ Cont.a64 x = Cont.a64 z) ∧ (true = true ∧ Cont.a64 z9 = Cont.a64 z9) ∧ (true = true ∧ Cont.a64 n = Cont.a64 n) ∧ True)) := by kernel_rfl
theorem vrRe (t u y z n : W6) (k : Nat) (c : B6) (p : Prop) : (frK 103 (iRe k) fun fr => vround Tryz.prog E00 (LRd k t u n c) 83 6 fr (mR2 t n) (Kn GE 6 103 p (iRe (k + 1)) (mR2 y n) oRe (mR2 z n))) = (bif ilt (↑k : Int) (3 : Int) then loopOf Tryz.prog 83 8 = loopOf Tryz.prog 83 8 ∧ SV.ptr 5 0 = SV.ptr 5 0 ∧ SV.ptr 6 0 = SV.ptr 6 0 ∧ SV.ptr 7 0 = SV.ptr 7 0 ∧ SV.i (↑k : Int) = SV.i (↑k : Int) ∧ SV.w64 (BitVec.ofInt 64 0) = SV.w64 (0 : B6) ∧ SV.i (0 : Int) = SV.i (↑(0 : Nat) : Int) ∧ g5E ((true = true ∧ Cont.a64 t = Cont.a64 t) ∧ (true = true ∧ Cont.a64 z9 = Cont.a64 z9) ∧ (true = true ∧ Cont.a64 n = Cont.a64 n) ∧ bif Nat.blt 8 (List.length u) then bif Nat.blt 8 (List.length u) then bif Nat.blt 8 (List.length u) then bif Nat.blt 0 (List.set u (8 : Nat) (List.getD u (8 : Nat) (0 : BitVec 64) &&& BitVec.ofInt 64 32767)).length then bif Nat.blt 0 (List.set u (8 : Nat) (List.getD u (8 : Nat) (0 : BitVec 64) &&& BitVec.ofInt 64 32767)).length then bif inI ((↑k : Int) + (1 : Int)) then p ∧ SV.ptr 5 0 = SV.ptr 5 0 ∧ SV.ptr 6 0 = SV.ptr 6 0 ∧ SV.ptr 7 0 = SV.ptr 7 0 ∧ SV.i ((↑k : Int) + (1 : Int)) = SV.i (↑(k + (1 : Nat)) : Int) ∧ g5E ((true = true ∧ Cont.a64 ((List.set u (8 : Nat) (List.getD u (8 : Nat) (0 : BitVec 64) &&& BitVec.ofInt 64 32767)).set 0 ((List.set u (8 : Nat) (List.getD u (8 : Nat) (0 : BitVec 64) &&& BitVec.ofInt 64 32767)).getD (0 : Nat) (0 : BitVec 64) + BitVec.ofInt 64 19 * (c <<< (15 : Nat) ||| List.getD u (8 : Nat) (0 : BitVec 64) >>> (15 : Nat)))) = Cont.a64 y) ∧ (true = true ∧ Cont.a64 z9 = Cont.a64 z9) ∧ (true = true ∧ Cont.a64 n = Cont.a64 n) ∧ True) else False else False else False else False else False else False) else (6 : Nat) = (6 : Nat) ∧ SV.ptr 5 0 = SV.ptr 5 0 ∧ SV.ptr 6 0 = SV.ptr 6 0 ∧ SV.ptr 7 0 = SV.ptr 7 0 ∧ g5E ((true = true ∧ Cont.a64 t = Cont.a64 z) ∧ (true = true ∧ Cont.a64 z9 = Cont.a64 z9) ∧ (true = true ∧ Cont.a64 n = Cont.a64 n) ∧ True)) := by kernel_rfl
theorem vrReE (x t u y z n : W6) (k m : Nat) (c : B6) (p : Prop) : (frK 103 (iRe k) fun fr => vround Tryz.prog E00 (LRd m t u n c) 83 6 fr (mR2 x n) (Kn GE 6 103 p (iRe (k + 1)) (mR2 y n) oRe (mR2 z n))) = (bif ilt (↑k : Int) (3 : Int) then loopOf Tryz.prog 83 8 = loopOf Tryz.prog 83 8 ∧ SV.ptr 5 0 = SV.ptr 5 0 ∧ SV.ptr 6 0 = SV.ptr 6 0 ∧ SV.ptr 7 0 = SV.ptr 7 0 ∧ SV.i (↑k : Int) = SV.i (↑m : Int) ∧ SV.w64 (BitVec.ofInt 64 0) = SV.w64 (0 : B6) ∧ SV.i (0 : Int) = SV.i (↑(0 : Nat) : Int) ∧ g5E ((true = true ∧ Cont.a64 x = Cont.a64 t) ∧ (true = true ∧ Cont.a64 z9 = Cont.a64 z9) ∧ (true = true ∧ Cont.a64 n = Cont.a64 n) ∧ bif Nat.blt 8 (List.length u) then bif Nat.blt 8 (List.length u) then bif Nat.blt 8 (List.length u) then bif Nat.blt 0 (List.set u (8 : Nat) (List.getD u (8 : Nat) (0 : BitVec 64) &&& BitVec.ofInt 64 32767)).length then bif Nat.blt 0 (List.set u (8 : Nat) (List.getD u (8 : Nat) (0 : BitVec 64) &&& BitVec.ofInt 64 32767)).length then bif inI ((↑m : Int) + (1 : Int)) then p ∧ SV.ptr 5 0 = SV.ptr 5 0 ∧ SV.ptr 6 0 = SV.ptr 6 0 ∧ SV.ptr 7 0 = SV.ptr 7 0 ∧ SV.i ((↑m : Int) + (1 : Int)) = SV.i (↑(k + (1 : Nat)) : Int) ∧ g5E ((true = true ∧ Cont.a64 ((List.set u (8 : Nat) (List.getD u (8 : Nat) (0 : BitVec 64) &&& BitVec.ofInt 64 32767)).set 0 ((List.set u (8 : Nat) (List.getD u (8 : Nat) (0 : BitVec 64) &&& BitVec.ofInt 64 32767)).getD (0 : Nat) (0 : BitVec 64) + BitVec.ofInt 64 19 * (c <<< (15 : Nat) ||| List.getD u (8 : Nat) (0 : BitVec 64) >>> (15 : Nat)))) = Cont.a64 y) ∧ (true = true ∧ Cont.a64 z9 = Cont.a64 z9) ∧ (true = true ∧ Cont.a64 n = Cont.a64 n) ∧ True) else False else False else False else False else False else False) else (6 : Nat) = (6 : Nat) ∧ SV.ptr 5 0 = SV.ptr 5 0 ∧ SV.ptr 6 0 = SV.ptr 6 0 ∧ SV.ptr 7 0 = SV.ptr 7 0 ∧ g5E ((true = true ∧ Cont.a64 x = Cont.a64 z) ∧ (true = true ∧ Cont.a64 z9 = Cont.a64 z9) ∧ (true = true ∧ Cont.a64 n = Cont.a64 n) ∧ True)) := by kernel_rfl
theorem vrRf (t x y z : W6) (i : Nat) (p : Prop) : (frK 103 (iRf i) fun fr => vround Tryz.prog E00 noL 83 10 fr (mR2 t x) (Kn GE 10 103 p (iRf (i + 1)) (mR2 t y) iRg (mR2 t z))) = (bif ilt (↑i : Int) (9 : Int) then bif inR (↑i : Int) (19 : Nat) then bif i.blt (List.length t) then bif inR (↑i : Int) (9 : Nat) then bif i.blt (List.length x) then bif inI ((↑i : Int) + (1 : Int)) then p ∧ SV.ptr 5 0 = SV.ptr 5 0 ∧ SV.ptr 6 0 = SV.ptr 6 0 ∧ SV.ptr 7 0 = SV.ptr 7 0 ∧ SV.i ((↑i : Int) + (1 : Int)) = SV.i (↑(i + (1 : Nat)) : Int) ∧ g5E ((true = true ∧ Cont.a64 t = Cont.a64 t) ∧ (true = true ∧ Cont.a64 z9 = Cont.a64 z9) ∧ (true = true ∧ Cont.a64 (List.set x i (List.getD t i (0 : BitVec 64))) = Cont.a64 y) ∧ True) else False else False else False else False else False else (10 : Nat) = (10 : Nat) ∧ SV.ptr 6 0 = SV.ptr 6 0 ∧ SV.ptr 7 0 = SV.ptr 7 0 ∧ g5E ((true = true ∧ Cont.a64 t = Cont.a64 t) ∧ (true = true ∧ Cont.a64 z9 = Cont.a64 z9) ∧ (true = true ∧ Cont.a64 x = Cont.a64 z) ∧ True)) := by kernel_rfl
theorem vrRg (P : W6) (C L D : W6 → W6 → Bool) (F : W6 → W6 → W6) (t x y z : W6) (p : Prop) : (frK 103 iRg fun fr => vround Tryz.prog (ERd P C L D F) noL 83 12 fr (mR2 t (w9 x)) (Kn GE 12 103 p iRg (mR2 t (w9 y)) iRg (mR2 t (w9 z)))) = (bif C (w9 x) (w9 P) then bif !L (w9 x) (w9 P) then bif D (w9 x) (w9 P) then p ∧ SV.ptr 6 0 = SV.ptr 6 0 ∧ SV.ptr 7 0 = SV.ptr 7 0 ∧ g5E ((true = true ∧ Cont.a64 t = Cont.a64 t) ∧ (true = true ∧ Cont.a64 z9 = Cont.a64 z9) ∧ (true = true ∧ Cont.a64 (w9 (F (w9 x) (w9 P))) = Cont.a64 (w9 y)) ∧ True) else False else (12 : Nat) = (12 : Nat) ∧ SV.ptr 6 0 = SV.ptr 6 0 ∧ SV.ptr 7 0 = SV.ptr 7 0 ∧ g5E ((true = true ∧ Cont.a64 t = Cont.a64 t) ∧ (true = true ∧ Cont.a64 z9 = Cont.a64 z9) ∧ (true = true ∧ Cont.a64 (w9 x) = Cont.a64 (w9 z)) ∧ True) else False) := by kernel_rfl
end
theorem carry_w {a c : Nat} (h : a + c < 18446744073709551616) : (BitVec.ofNat 64 a + BitVec.ofNat 64 c &&& BitVec.ofInt 64 1073741823) = BitVec.ofNat 64 ((a + c) % 1073741824) ∧ (BitVec.ofNat 64 a + BitVec.ofNat 64 c) >>> 30 = BitVec.ofNat 64 ((a + c) / 1073741824) := by
 rw [Mt.Dg.addN, Mt.Dg.and30 _ h, Mt.Dg.shr _ 30 h]
 exact ⟨rfl, rfl⟩
theorem loopRa (t : List Nat) (ht : t.length = 19) (hd : ∀ x ∈ t, x ≤ 18446742974197923840) (k : Nat) (x z : W6) (c : B6) (hx : x = bv (cr t 0)) (hz : z = bv (cr t 19)) (hc : c = BitVec.ofNat 64 (cc t 0)) : ∀ fr M K, vLoop GE 103 (iRa k c 0) (mR1 x) (iRc k) (mR1 z) fr M K → Wp Tryz.prog GE GE (loopOf Tryz.prog 83 2) fr M K := by
 subst hx; subst hc
 refine loop_next e00_ok mixed (noL_ok _ _ _ _) (Nat.le_refl _) (by kernel_rfl) (fun i => iRa k (BitVec.ofNat 64 (cc t i)) i) (fun i => mR1 (bv (cr t i))) (fun i => i ≤ 19) (fun i => 19 - i) (fun i => i + 1) 0 (Nat.zero_le _) (fun i hi => of_eq (vrRa (bv (cr t i)) (bv (cr t (i + 1))) z k i (BitVec.ofNat 64 (cc t i)) (BitVec.ofNat 64 (cc t (i + 1))) _) ?_)
 cases hq : ilt (i : Int) 19
 ·have hi2 : i = 19 := by have := le_of_ilt (b := 19) hq; omega
  have e : bv (cr t i) = z := by rw [hz, hi2]
  rw [e]
  and_intros <;> first | exact rfl | exact trivial
 ·have hi2 : i < 19 := lt_of_ilt (b := 19) hq
  have i1 := inR_of hi2
  have i2 : Nat.blt i (bv (cr t i)).length = true := blt_of (by rw [Mt.Dg.bv_len, Mt.Dg.cr_len, ht]; exact hi2)
  have hm := hd _ (Mt.Dg.getD_mem (t := t) (i := i) (by omega))
  have hcc := Mt.Dg.cc_le t i hd
  obtain ⟨s1, s2⟩ := carry_w (a := t.getD i 0) (c := cc t i) (by omega)
  have g1 : (bv (cr t i)).getD i 0 = BitVec.ofNat 64 (t.getD i 0) := by rw [Mt.Dg.bv_get, Mt.Dg.cr_get t i (by omega)]
  rw [g1, s1, s2, Mt.Dg.bv_set, Mt.Dg.cr_step t i (by omega), ← Mt.Dg.cc_step t i (by omega)]
  refine bif_of i1 (bif_of i2 (bif_of i1 (bif_of i2 (bif_of (inI_iff.2 (by omega)) ?_))))
  and_intros <;> first | omega | exact rfl | exact trivial
theorem loopRd (t : List Nat) (ht : t.length = 19) (hd : ∀ x ∈ t, x ≤ 18446742974197923840) (n : W6) (k : Nat) (x z : W6) (c e' : B6) (hx : x = bv (cr t 0)) (hz : z = bv (cr t 9)) (hc : c = BitVec.ofNat 64 (cc t 0)) (he : e' = BitVec.ofNat 64 (cc t 9)) : ∀ fr M K, vLoop GE 103 (iRd k c 0) (mR2 x n) (oRd k e') (mR2 z n) fr M K → Wp Tryz.prog GE GE (loopOf Tryz.prog 83 8) fr M K := by
 subst hx; subst hc
 refine loop_next e00_ok mixed (noL_ok _ _ _ _) (Nat.le_refl _) (by kernel_rfl) (fun i => iRd k (BitVec.ofNat 64 (cc t i)) i) (fun i => mR2 (bv (cr t i)) n) (fun i => i ≤ 9) (fun i => 9 - i) (fun i => i + 1) 0 (Nat.zero_le _) (fun i hi => of_eq (vrRd (bv (cr t i)) (bv (cr t (i + 1))) z n k i (BitVec.ofNat 64 (cc t i)) (BitVec.ofNat 64 (cc t (i + 1))) e' _) ?_)
 cases hq : ilt (i : Int) 9
 ·have hi2 : i = 9 := by have := le_of_ilt (b := 9) hq; omega
  have e : bv (cr t i) = z := by rw [hz, hi2]
  have e2 : BitVec.ofNat 64 (cc t i) = e' := by rw [he, hi2]
  rw [e, e2]
  and_intros <;> first | exact rfl | exact trivial
 ·have hi2 : i < 9 := lt_of_ilt (b := 9) hq
  have i1 : inR (i : Int) 19 = true := inR_of (by omega)
  have i2 : Nat.blt i (bv (cr t i)).length = true := blt_of (by rw [Mt.Dg.bv_len, Mt.Dg.cr_len, ht]; omega)
  have hm := hd _ (Mt.Dg.getD_mem (t := t) (i := i) (by omega))
  have hcc := Mt.Dg.cc_le t i hd
  obtain ⟨s1, s2⟩ := carry_w (a := t.getD i 0) (c := cc t i) (by omega)
  have g1 : (bv (cr t i)).getD i 0 = BitVec.ofNat 64 (t.getD i 0) := by rw [Mt.Dg.bv_get, Mt.Dg.cr_get t i (by omega)]
  rw [g1, s1, s2, Mt.Dg.bv_set, Mt.Dg.cr_step t i (by omega), ← Mt.Dg.cc_step t i (by omega)]
  refine bif_of i1 (bif_of i2 (bif_of i1 (bif_of i2 (bif_of (inI_iff.2 (by omega)) ?_))))
  and_intros <;> first | omega | exact rfl | exact trivial
theorem loopRb (t : List Nat) (ht : t.length = 19) (k : Nat) (x z : W6) (hx : x = bv (Mt.Dg.fl t 0)) (hz : z = bv (Mt.Dg.fl t 10)) : ∀ fr M K, vLoop GE 103 (iRb k 0) (mR1 x) (iRc k) (mR1 z) fr M K → Wp Tryz.prog GE GE (loopOf Tryz.prog 83 4) fr M K := by
 subst hx
 refine loop_next e00_ok mixed (noL_ok _ _ _ _) (Nat.le_refl _) (by kernel_rfl) (fun i => iRb k i) (fun i => mR1 (bv (Mt.Dg.fl t i))) (fun i => i ≤ 10) (fun i => 10 - i) (fun i => i + 1) 0 (Nat.zero_le _) (fun i hi => of_eq (vrRb (bv (Mt.Dg.fl t i)) (bv (Mt.Dg.fl t (i + 1))) z k i _) ?_)
 cases hq : ilt (i : Int) 10
 ·have hi2 : i = 10 := by have := le_of_ilt (b := 10) hq; omega
  have e : bv (Mt.Dg.fl t i) = z := by rw [hz, hi2]
  rw [e]
  and_intros <;> first | exact rfl | exact trivial
 ·have hi2 : i < 10 := lt_of_ilt (b := 10) hq
  have i1 : inR (i : Int) 19 = true := inR_of (by omega)
  have i2 : Nat.blt i (bv (Mt.Dg.fl t i)).length = true := blt_of (by rw [Mt.Dg.bv_len, Mt.Dg.fl_len]; omega)
  have i3 : inI (9 + (i : Int)) = true := inI_iff.2 (by omega)
  have i4 : inR (9 + (i : Int)) 19 = true := inR_iff.2 ⟨by omega, by omega⟩
  have e9 : (9 + (i : Int)).toNat = 9 + i := by omega
  have i5 : Nat.blt (9 + i) (bv (Mt.Dg.fl t i)).length = true := blt_of (by rw [Mt.Dg.bv_len, Mt.Dg.fl_len]; omega)
  have g1 : (bv (Mt.Dg.fl t i)).getD i 0 = BitVec.ofNat 64 (fe t i i) := by rw [Mt.Dg.bv_get, Mt.Dg.fl_get t i i (by omega)]
  have g2 : (bv (Mt.Dg.fl t i)).getD (9 + i) 0 = BitVec.ofNat 64 (fe t i (9 + i)) := by rw [Mt.Dg.bv_get, Mt.Dg.fl_get t i (9 + i) (by omega)]
  rw [e9, g1, g2, show BitVec.ofInt 64 622592 = BitVec.ofNat 64 622592 from rfl, Mt.Dg.mulN, Mt.Dg.addN, Mt.Dg.bv_set, show BitVec.ofInt 64 0 = BitVec.ofNat 64 0 from rfl, Mt.Dg.bv_set, Mt.Dg.fl_step t i hi2]
  have i6 : Nat.blt (9 + i) (bv ((Mt.Dg.fl t i).set i (fe t i i + fe t i (9 + i) * 622592))).length = true := blt_of (by rw [Mt.Dg.bv_len, List.length_set, Mt.Dg.fl_len]; omega)
  refine bif_of i1 (bif_of i2 (bif_of i3 (bif_of i4 (bif_of i5 (bif_of i1 (bif_of i2 (bif_of i3 (bif_of i4 (bif_of i6 (bif_of (inI_iff.2 (by omega)) ?_))))))))))
  and_intros <;> first | omega | exact rfl | exact trivial
def r1 (t : List Nat) : Nat → List Nat
 | 0 => t
 | k + 1 => Mt.Dg.fl (cr (r1 t k) 19) 10
def r2 (t : List Nat) : Nat → List Nat
 | 0 => t
 | k + 1 => g2 (r2 t k)
theorem r1_is {V : Nat} {t : List Nat} (h : S1 V 0 t) : ∀ k, k ≤ 3 → S1 V k (r1 t k)
 | 0, _ => h
 | k + 1, hk => ((r1_is h k (by omega)).next (by omega)).1
theorem r1_z {V : Nat} {t : List Nat} (h : S1 V 0 t) : (r1 t 3).drop 9 = List.replicate 10 0 := ((r1_is h 2 (by omega)).next (by omega)).2 rfl
theorem r2_is {V : Nat} {t : List Nat} (h : S2 V 0 t) : ∀ k, k ≤ 3 → S2 V k (r2 t k)
 | 0, _ => h
 | k + 1, hk => (r2_is h k (by omega)).next (by omega)
theorem loopRc (V : Nat) (t : List Nat) (h : S1 V 0 t) (x z : W6) (hx : x = bv t) (hz : z = bv (r1 t 3)) : ∀ fr M K, vLoop GE 103 (iRc 0) (mR1 x) oRc (mR1 z) fr M K → Wp Tryz.prog GE GE (loopOf Tryz.prog 83 0) fr M K := by
 subst hx
 have hS : ∀ k, S1 V (min k 2) (r1 t (min k 2)) := fun k => r1_is h _ (by omega)
 refine loop_nextL e00_ok mixed (Nat.le_refl _) (by kernel_rfl) (L := fun k => LRi k (bv (r1 t (min k 2))) (bv (cr (r1 t (min k 2)) 19)) (bv (Mt.Dg.fl (cr (r1 t (min k 2)) 19) 10))) (fun k => LT.add_ok (LT.add_ok (noL_ok _ _ _ _) (loopRa (r1 t (min k 2)) (hS k).1 (hS k).2.1 k _ _ _ (by rw [Mt.Dg.cr_zero]) rfl (by rw [Mt.Dg.cc_zero]; rfl))) (loopRb (cr (r1 t (min k 2)) 19) (by rw [Mt.Dg.cr_len, (hS k).1]) k _ _ (by rw [Mt.Dg.fl_zero _ (by rw [Mt.Dg.cr_len, (hS k).1])]) rfl)) (fun k => iRc k) (fun k => mR1 (bv (r1 t k))) (fun k => k ≤ 3) (fun k => 3 - k) (fun k => k + 1) 0 (Nat.zero_le _) (fun k hk => ?_)
 cases hq : ilt (k : Int) 3
 ·have hk2 : k = 3 := by have := le_of_ilt (b := 3) hq; omega
  subst hk2
  have h3 := vrRc (bv (r1 t 3)) (bv (r1 t 3)) (bv (r1 t 3)) (bv (r1 t 4)) z 3
  refine of_eq (vrRcE (bv (r1 t 3)) _ _ _ (bv (r1 t (3 + 1))) z 3 3 _) ?_
  rw [hq, hz]
  and_intros <;> first | exact rfl | exact trivial
 ·have hk2 : k < 3 := lt_of_ilt (b := 3) hq
  have em : min k 2 = k := by omega
  rw [em]
  refine of_eq (vrRc (bv (r1 t k)) _ _ (bv (r1 t (k + 1))) z k _) ?_
  rw [hq]
  have ik : inI ((k : Int) + 1) = true := inI_iff.2 (by omega)
  rw [ik]
  simp only [cond_true]
  and_intros <;> first | omega | exact rfl | exact trivial
theorem or15 {c d : Nat} (hc : c ≤ 34359738368) (hd : d < 1073741824) : BitVec.ofNat 64 c <<< 15 ||| BitVec.ofNat 64 d >>> 15 = BitVec.ofNat 64 (c * 32768 + d / 32768) := by
 have e : BitVec.ofNat 64 c <<< 15 = BitVec.ofNat 64 (c * 32768) := by
  apply BitVec.eq_of_toNat_eq
  rw [BitVec.toNat_shiftLeft, Mt.Dg.toN c (by omega), Mt.Dg.toN _ (by omega), Nat.shiftLeft_eq]
  show c * 32768 % 18446744073709551616 = _
  omega
 rw [e, Mt.Dg.shr d 15 (by omega)]
 apply BitVec.eq_of_toNat_eq
 rw [BitVec.toNat_or, Mt.Dg.toN _ (by omega), Mt.Dg.toN _ (by show d / 32768 < _; omega), Mt.Dg.toN _ (by omega)]
 have := Nat.shiftLeft_add_eq_or_of_lt (a := c) (i := 15) (b := d / 2 ^ 15) (by show d / 32768 < 32768; omega)
 rw [Nat.shiftLeft_eq] at this
 exact this.symm
theorem loopRe (V : Nat) (t : List Nat) (h : S2 V 0 t) (n x z : W6) (hx : x = bv t) (hz : z = bv (r2 t 3)) : ∀ fr M K, vLoop GE 103 (iRe 0) (mR2 x n) oRe (mR2 z n) fr M K → Wp Tryz.prog GE GE (loopOf Tryz.prog 83 6) fr M K := by
 subst hx
 have hS : ∀ k, S2 V (min k 2) (r2 t (min k 2)) := fun k => r2_is h _ (by omega)
 refine loop_nextL e00_ok mixed (Nat.le_refl _) (by kernel_rfl) (L := fun k => LRd k (bv (r2 t (min k 2))) (bv (cr (r2 t (min k 2)) 9)) n (BitVec.ofNat 64 (cc (r2 t (min k 2)) 9))) (fun k => LT.add_ok (noL_ok _ _ _ _) (loopRd (r2 t (min k 2)) (hS k).1 (hS k).2.1 n k _ _ _ _ (by rw [Mt.Dg.cr_zero]) rfl (by rw [Mt.Dg.cc_zero]; rfl) rfl)) (fun k => iRe k) (fun k => mR2 (bv (r2 t k)) n) (fun k => k ≤ 3) (fun k => 3 - k) (fun k => k + 1) 0 (Nat.zero_le _) (fun k hk => ?_)
 cases hq : ilt (k : Int) 3
 ·have hk2 : k = 3 := by have := le_of_ilt (b := 3) hq; omega
  subst hk2
  refine of_eq (vrReE (bv (r2 t 3)) _ _ (bv (r2 t (3 + 1))) z n 3 3 _ _) ?_
  rw [hq, hz]
  and_intros <;> first | exact rfl | exact trivial
 ·have hk2 : k < 3 := lt_of_ilt (b := 3) hq
  have em : min k 2 = k := by omega
  have hSk := hS k
  rw [em] at hSk ⊢
  refine of_eq (vrRe (bv (r2 t k)) _ (bv (r2 t (k + 1))) z n k _ _) ?_
  obtain ⟨a1, a2, a3, a4, a5, a6, a7⟩ := Mt.Dg.g2_val (r2 t k) hSk.1 hSk.2.2.1 hSk.2.1
  have hcc := Mt.Dg.cc_le (r2 t k) 9 hSk.2.1
  have hl := Mt.Dg.cr_len (r2 t k) 9
  rw [hSk.1] at hl
  have ik : inI ((k : Int) + 1) = true := inI_iff.2 (by omega)
  have hn : r2 t (k + 1) = ((cr (r2 t k) 9).set 8 ((cr (r2 t k) 9).getD 8 0 % 32768)).set 0 ((cr (r2 t k) 9).getD 0 0 + 19 * (cc (r2 t k) 9 * 32768 + (cr (r2 t k) 9).getD 8 0 / 32768)) := rfl
  rw [hq, ik, hn]
  generalize cr (r2 t k) 9 = u at *
  generalize cc (r2 t k) 9 = c at *
  have e0 : (u.set 8 (u.getD 8 0 % 32768)).getD 0 0 = u.getD 0 0 := by rw [Mt.Dg.getD_set _ _ _ _ (by omega), if_neg (by decide)]
  have b1 : Nat.blt 8 (bv u).length = true := blt_of (by rw [Mt.Dg.bv_len]; omega)
  have b2 : Nat.blt 0 (bv (u.set 8 (u.getD 8 0 % 32768))).length = true := blt_of (by rw [Mt.Dg.bv_len, List.length_set]; omega)
  rw [Mt.Dg.bv_get, Mt.Dg.and15 _ (by omega), Mt.Dg.bv_set, Mt.Dg.bv_get, e0, or15 hcc a6, show BitVec.ofInt 64 19 = BitVec.ofNat 64 19 from rfl, Mt.Dg.mulN, Mt.Dg.addN, Mt.Dg.bv_set, b1, b2]
  simp only [cond_true]
  and_intros <;> first | omega | exact rfl | exact trivial
theorem loopRf (t : List Nat) (ht : t.length = 19) (x z : W6) (hx : x = bv (cp9 t 0)) (hz : z = bv (cp9 t 9)) : ∀ fr M K, vLoop GE 103 (iRf 0) (mR2 (bv t) x) iRg (mR2 (bv t) z) fr M K → Wp Tryz.prog GE GE (loopOf Tryz.prog 83 10) fr M K := by
 subst hx
 refine loop_next e00_ok mixed (noL_ok _ _ _ _) (Nat.le_refl _) (by kernel_rfl) (fun i => iRf i) (fun i => mR2 (bv t) (bv (cp9 t i))) (fun i => i ≤ 9) (fun i => 9 - i) (fun i => i + 1) 0 (Nat.zero_le _) (fun i hi => of_eq (vrRf (bv t) (bv (cp9 t i)) (bv (cp9 t (i + 1))) z i _) ?_)
 cases hq : ilt (i : Int) 9
 ·have hi2 : i = 9 := by have := le_of_ilt (b := 9) hq; omega
  have e : bv (cp9 t i) = z := by rw [hz, hi2]
  rw [e]
  and_intros <;> first | exact rfl | exact trivial
 ·have hi2 : i < 9 := lt_of_ilt (b := 9) hq
  have i1 : inR (i : Int) 19 = true := inR_of (by omega)
  have i2 : Nat.blt i (bv t).length = true := blt_of (by rw [Mt.Dg.bv_len, ht]; omega)
  have i3 := inR_of hi2
  have i4 : Nat.blt i (bv (cp9 t i)).length = true := blt_of (by rw [Mt.Dg.bv_len, Mt.Dg.cp9_len]; omega)
  rw [Mt.Dg.bv_get, Mt.Dg.bv_set, Mt.Dg.cp9_step t i hi2]
  refine bif_of i1 (bif_of i2 (bif_of i3 (bif_of i4 (bif_of (inI_iff.2 (by omega)) ?_))))
  and_intros <;> first | omega | exact rfl | exact trivial
theorem erd_ok : EnvOk Tryz.prog (ERd (dg Mt.Nt.P) leC leF miC miF) := ⟨PT.add_ok (PT.add_ok (PT.add_ok (noT_ok _ _) primeD_ok) lessD_ok) minusD_ok, noC_ok _ _⟩
theorem P_div : Mt.Nt.P / 2 ^ (30 * 9) = 0 := Mt.Dg.bigP
theorem leF_dg {a b : Nat} (ha : a / 2 ^ (30 * 9) = 0) (hb : b / 2 ^ (30 * 9) = 0) : leF (dg a) (dg b) = decide (a < b) := by unfold leF; rw [Mt.Dg.nv_dg ha, Mt.Dg.nv_dg hb]
theorem leC_dg (a b : Nat) : leC (dg a) (dg b) = true := by unfold leC; rw [Mt.Dg.Qd_dg, Mt.Dg.Qd_dg]; rfl
theorem miC_dg {a b : Nat} (ha : a / 2 ^ (30 * 9) = 0) (hb : b / 2 ^ (30 * 9) = 0) (h : b ≤ a) : miC (dg a) (dg b) = true := by unfold miC; rw [Mt.Dg.nv_dg ha, Mt.Dg.nv_dg hb, Mt.Dg.Qd_dg, Mt.Dg.Qd_dg, Nat.ble_eq_true_of_le h]; rfl
theorem miF_dg {a b : Nat} (ha : a / 2 ^ (30 * 9) = 0) (hb : b / 2 ^ (30 * 9) = 0) : miF (dg a) (dg b) = dg (a - b) := by unfold miF; rw [Mt.Dg.nv_dg ha, Mt.Dg.nv_dg hb]
theorem div_le0 {a b m : Nat} (h : a / m = 0) (hb : b ≤ a) : b / m = 0 := by
 have h2 := Nat.div_le_div_right (c := m) hb
 rw [h] at h2
 exact Nat.le_zero.1 h2
theorem loopRg (V v0 : Nat) (t : W6) (h0 : v0 % Mt.Nt.P = V % Mt.Nt.P) (hv : v0 / 2 ^ (30 * 9) = 0) : ∀ fr M K, vLoop GE 103 iRg (mR2 t (dg v0)) iRg (mR2 t (dg (V % Mt.Nt.P))) fr M K → Wp Tryz.prog GE GE (loopOf Tryz.prog 83 12) fr M K := by
 have hP := P_div
 refine loop_next erd_ok mixed (noL_ok _ _ _ _) (Nat.le_refl _) (by kernel_rfl) (fun _ => iRg) (fun v => mR2 t (dg v)) (fun v => v % Mt.Nt.P = V % Mt.Nt.P ∧ v / 2 ^ (30 * 9) = 0) (fun v => v / Mt.Nt.P) (fun v => v - Mt.Nt.P) v0 ⟨h0, hv⟩ (fun v hh => of_eq (vrRg (dg Mt.Nt.P) leC leF miC miF t (dg v) (dg (v - Mt.Nt.P)) (dg (V % Mt.Nt.P)) _) ?_)
 obtain ⟨hv1, hv2⟩ := hh
 rw [Mt.Dg.w9_dg, Mt.Dg.w9_dg, leC_dg, leF_dg hv2 hP]
 by_cases hlt : v < Mt.Nt.P
 ·rw [decide_eq_true hlt]
  have e : v = V % Mt.Nt.P := by rw [← hv1, Nat.mod_eq_of_lt hlt]
  rw [← e]
  and_intros <;> first | exact rfl | exact trivial
 ·have hle : Mt.Nt.P ≤ v := by omega
  rw [decide_eq_false hlt, miC_dg hv2 hP hle, miF_dg hv2 hP]
  have hpos := Mt.P_pos
  have hmod : (v - Mt.Nt.P) % Mt.Nt.P = V % Mt.Nt.P := by rw [← hv1, ← Nat.mod_eq_sub_mod hle]
  have hd2 := div_le0 hv2 (Nat.sub_le v Mt.Nt.P)
  have hlss := Mt.Dg.div_less hpos hle
  simp only [cond_true, Bool.not_false]
  refine ⟨⟨⟨hmod, hd2⟩, hlss⟩, ?_⟩
  and_intros <;> first | exact trivial | exact rfl
def rdcF (t : W6) : W6 := dg (nv t % Mt.Nt.P)
theorem reduceD_ok : POk Tryz.prog GE 83 (c1 okT rdcF) := by
 intro args acs r hh β M w hR hw ha
 unfold c1 at hh
 split at hh
 ·rename_i t
  simp only [Option.some.injEq, Prod.mk.injEq] at hh
  obtain ⟨h1, rfl⟩ := hh
  obtain ⟨u, rfl, hu, hS⟩ := Mt.Dg.of_okT h1
  unfold rdcF
  generalize nv (bv u) = V at *
  have h3 := (r1_is hS 3 (Nat.le_refl _)).last (r1_z hS)
  have h4 := r2_is h3 3 (Nat.le_refl _)
  have hvl : vl (r2 (r1 u 3) 3) % Mt.Nt.P = V % Mt.Nt.P := h4.2.2.2.1
  have hdiv : vl (r2 (r1 u 3) 3) / 2 ^ (30 * 9) = 0 := Mt.Dg.div_R h4.2.2.2.2.1
  have hcp : bv (cp9 (r2 (r1 u 3) 3) 9) = dg (vl (r2 (r1 u 3) 3)) := by rw [Mt.Dg.cp9_nine _ _ h4.digits]; rfl
  have hlen : (r2 (r1 u 3) 3).length = 19 := h4.1
  have L0 := loopRc V u hS _ _ rfl rfl
  have L6 := loopRe V (r1 u 3) h3 z9 _ _ rfl rfl
  have L10 := loopRf (r2 (r1 u 3) 3) hlen z9 _ (by rw [Mt.Dg.cp9_zero]; rfl) hcp.symm
  have L12 := loopRg V _ (bv (r2 (r1 u 3) 3)) hvl hdiv
  refine pokE' (E := ERd (dg Mt.Nt.P) leC leF miC miF) rfl erd_ok (LT.add_ok (LT.add_ok (LT.add_ok (LT.add_ok (noL_ok _ _ _ _) L0) L6) L10) L12) (vaRt (dg Mt.Nt.P) leC leF miC miF (bv u) (bv (r1 u 3)) (bv (r2 (r1 u 3) 3)) (dg (vl (r2 (r1 u 3) 3))) (dg (V % Mt.Nt.P)) _) ?_ rfl rfl hR
  and_intros <;> first | exact rfl | exact trivial
 ·cases hh
end Dc
end Go.Proofs.YtdfghknonbmadaaGreatDoor
