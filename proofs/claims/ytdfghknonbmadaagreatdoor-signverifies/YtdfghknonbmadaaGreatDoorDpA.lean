/-
  The document's numbers modulo the order: comparisons, differences, in the reckoner. No statement is proved here.
-/
import Derived.Test.YtdfghknonbmadaaGreatDoorDoE
import Derived.Test.YtdfghknonbmadaaGreatDoorSgC
namespace Go.Proofs.YtdfghknonbmadaaGreatDoor
namespace Dc
open Go.RowKit
set_option linter.unusedVariables false
set_option linter.unusedSimpArgs false
set_option maxRecDepth 100000
open Mt.Dg (bb rd byt vbl vb)
open Mt.Dg.O (bw mlb cy dl)
open Mt (Lq)
def c8b (C : Tx8 → Tx8 → Bool) (F : Tx8 → Tx8 → Bool) : List SV → List Cont → Option (Bool × SV)
 | [.a8 l, .a8 m], _ => some (C l m, .b (F l m))
 | _, _ => none
def c8r (C : Tx8 → Tx8 → Bool) (F : Tx8 → Tx8 → Tx8) : List SV → List Cont → Option (Bool × SV)
 | [.a8 l, .a8 m], _ => some (C l m, .a8 (F l m))
 | _, _ => none
def c80 (v : Tx8) : List SV → List Cont → Option (Bool × SV)
 | [], _ => some (true, .a8 v)
 | _, _ => none
def ORD : Tx8 := [237, 211, 245, 92, 26, 99, 18, 88, 214, 156, 247, 162, 222, 249, 222, 20, 0, 0, 0, 0, 0, 0, 0, 0, 0, 0, 0, 0, 0, 0, 0, 16]
def mLs (a b : Tx8) : Mm := G5 [⟨true, .a8 a⟩, ⟨true, .a8 b⟩]
def iLs (j : Nat) : List (Nat × SV) := [(2, .ptr 5 0), (3, .ptr 6 0), (5, .i (31 - (j : Int)))]
def LLs (a b : Tx8) (t : Bool) (q : Prop) : LT := noL.add 0 (vLoopR GE 24 (iLs 0) (mLs a b) q [] (mLs a b) True [(4, .b t)] (mLs a b))
theorem vaLs (a b : Tx8) (t : Bool) (q : Prop) (K : SV → Prop) : (vf Tryz.prog E00 (LLs a b t q) 47 [.a8 a, .a8 b] GE (fun r _ => K r)) = (loopOf Tryz.prog 47 0 = loopOf Tryz.prog 47 0 ∧ SV.ptr 5 0 = SV.ptr 5 0 ∧ SV.ptr ((0 : Nat) + (1 : Nat) + (1 : Nat) + (1 : Nat) + (1 : Nat) + (1 : Nat) + (1 : Nat)) (0 : Nat) = SV.ptr 6 0 ∧ SV.i (31 : Int) = SV.i ((31 : Int) - (↑(0 : Nat) : Int)) ∧ g5E ((true = true ∧ Cont.a8 a = Cont.a8 a) ∧ (true = true ∧ Cont.a8 b = Cont.a8 b) ∧ (q → K (SV.b false)) ∧ (True → K (SV.b t)))) := by kernel_rfl
theorem vrLs (a b : Tx8) (j : Nat) (t : Bool) (q p : Prop) : (frK 24 (iLs j) fun fr => vround Tryz.prog E00 noL 47 0 fr (mLs a b) (Kt GE 0 24 p (iLs (j + 1)) (mLs a b) q [] (mLs a b) True [(4, .b t)] (mLs a b))) = (bif ile (0 : Int) ((31 : Int) - (↑j : Int)) then bif inR ((31 : Int) - (↑j : Int)) (32 : Nat) then bif ((31 : Int) - (↑j : Int)).toNat.blt (List.length a) then bif inR ((31 : Int) - (↑j : Int)) (32 : Nat) then bif ((31 : Int) - (↑j : Int)).toNat.blt (List.length b) then bif List.getD a ((31 : Int) - (↑j : Int)).toNat (0 : BitVec 8) != List.getD b ((31 : Int) - (↑j : Int)).toNat (0 : BitVec 8) then bif inR ((31 : Int) - (↑j : Int)) (32 : Nat) then bif ((31 : Int) - (↑j : Int)).toNat.blt (List.length a) then bif inR ((31 : Int) - (↑j : Int)) (32 : Nat) then bif ((31 : Int) - (↑j : Int)).toNat.blt (List.length b) then True ∧ SV.b ((List.getD a ((31 : Int) - (↑j : Int)).toNat (0 : BitVec 8)).ult (List.getD b ((31 : Int) - (↑j : Int)).toNat (0 : BitVec 8))) = SV.b t ∧ g5E ((true = true ∧ Cont.a8 a = Cont.a8 a) ∧ (true = true ∧ Cont.a8 b = Cont.a8 b) ∧ True) else False else False else False else False else bif inI ((31 : Int) - (↑j : Int) - (1 : Int)) then p ∧ SV.ptr 5 0 = SV.ptr 5 0 ∧ SV.ptr 6 0 = SV.ptr 6 0 ∧ SV.i ((31 : Int) - (↑j : Int) - (1 : Int)) = SV.i ((31 : Int) - (↑(j + (1 : Nat)) : Int)) ∧ g5E ((true = true ∧ Cont.a8 a = Cont.a8 a) ∧ (true = true ∧ Cont.a8 b = Cont.a8 b) ∧ True) else False else False else False else False else False else (0 : Nat) = (0 : Nat) ∧ q ∧ g5E ((true = true ∧ Cont.a8 a = Cont.a8 a) ∧ (true = true ∧ Cont.a8 b = Cont.a8 b) ∧ True)) := by kernel_rfl
def mMn (x b : Tx8) : Mm := G5 [⟨true, .a8 x⟩, ⟨true, .a8 b⟩, ⟨true, .a8 z32⟩]
def iMn (c : Int) (i : Nat) : List (Nat × SV) := [(2, .ptr 5 0), (3, .ptr 6 0), (4, .ptr 7 0), (5, .i c), (6, .i (i : Nat))]
def oMn : List (Nat × SV) := [(2, .ptr 5 0), (4, .ptr 7 0)]
def LMn (a b z : Tx8) : LT := noL.add 0 (vLoop GE 32 (iMn 0 0) (mMn a b) oMn (mMn z b))
theorem vaMn (a b z : Tx8) (K : SV → Prop) : (vf Tryz.prog E00 (LMn a b z) 49 [.a8 a, .a8 b] GE (fun r _ => K r)) = (loopOf Tryz.prog 49 0 = loopOf Tryz.prog 49 0 ∧ SV.ptr 5 0 = SV.ptr 5 0 ∧ SV.ptr ((0 : Nat) + (1 : Nat) + (1 : Nat) + (1 : Nat) + (1 : Nat) + (1 : Nat) + (1 : Nat)) (0 : Nat) = SV.ptr 6 0 ∧ SV.ptr ((0 : Nat) + (1 : Nat) + (1 : Nat) + (1 : Nat) + (1 : Nat) + (1 : Nat) + (1 : Nat) + (1 : Nat)) (0 : Nat) = SV.ptr 7 0 ∧ SV.i (0 : Int) = SV.i (0 : Int) ∧ SV.i (0 : Int) = SV.i (↑(0 : Nat) : Int) ∧ g5E ((true = true ∧ Cont.a8 a = Cont.a8 a) ∧ (true = true ∧ Cont.a8 b = Cont.a8 b) ∧ (true = true ∧ Cont.a8 (List.replicate 32 (0 : BitVec 8)) = Cont.a8 z32) ∧ bif (List.length z).beq 32 then bif (List.length z).beq 32 && (List.length z).beq 32 then bif (List.length z).beq 32 && true then K (SV.a8 z) else False else False else False)) := by kernel_rfl
theorem vrMn (b x y z : Tx8) (c d : Int) (i : Nat) (p : Prop) : (frK 32 (iMn c i) fun fr => vround Tryz.prog E00 noL 49 0 fr (mMn x b) (Kn GE 0 32 p (iMn d (i + 1)) (mMn y b) oMn (mMn z b))) = (bif ilt (↑i : Int) (32 : Int) then bif inR (↑i : Int) (32 : Nat) then bif i.blt (List.length x) then bif inI ((256 : Int) + (↑(List.getD x i (0 : BitVec 8)).toNat : Int)) then bif inR (↑i : Int) (32 : Nat) then bif i.blt (List.length b) then bif inI ((256 : Int) + (↑(List.getD x i (0 : BitVec 8)).toNat : Int) - (↑(List.getD b i (0 : BitVec 8)).toNat : Int)) then bif inI ((256 : Int) + (↑(List.getD x i (0 : BitVec 8)).toNat : Int) - (↑(List.getD b i (0 : BitVec 8)).toNat : Int) - c) then bif inR (↑i : Int) (32 : Nat) then bif i.blt (List.length x) then bif inI ((1 : Int) - ((256 : Int) + (↑(List.getD x i (0 : BitVec 8)).toNat : Int) - (↑(List.getD b i (0 : BitVec 8)).toNat : Int) - c).fdiv ((2 : Int) ^ (8 : Nat))) then bif inI ((↑i : Int) + (1 : Int)) then p ∧ SV.ptr 5 0 = SV.ptr 5 0 ∧ SV.ptr 6 0 = SV.ptr 6 0 ∧ SV.ptr 7 0 = SV.ptr 7 0 ∧ SV.i ((1 : Int) - ((256 : Int) + (↑(List.getD x i (0 : BitVec 8)).toNat : Int) - (↑(List.getD b i (0 : BitVec 8)).toNat : Int) - c).fdiv ((2 : Int) ^ (8 : Nat))) = SV.i d ∧ SV.i ((↑i : Int) + (1 : Int)) = SV.i (↑(i + (1 : Nat)) : Int) ∧ g5E ((true = true ∧ Cont.a8 (List.set x i (BitVec.ofInt (8 : Nat) ((256 : Int) + (↑(List.getD x i (0 : BitVec 8)).toNat : Int) - (↑(List.getD b i (0 : BitVec 8)).toNat : Int) - c))) = Cont.a8 y) ∧ (true = true ∧ Cont.a8 b = Cont.a8 b) ∧ (true = true ∧ Cont.a8 z32 = Cont.a8 z32) ∧ True) else False else False else False else False else False else False else False else False else False else False else False else (0 : Nat) = (0 : Nat) ∧ SV.ptr 5 0 = SV.ptr 5 0 ∧ SV.ptr 7 0 = SV.ptr 7 0 ∧ g5E ((true = true ∧ Cont.a8 x = Cont.a8 z) ∧ (true = true ∧ Cont.a8 b = Cont.a8 b) ∧ (true = true ∧ Cont.a8 z32 = Cont.a8 z32) ∧ True)) := by kernel_rfl
def mB7 (a x : Tx8) : Mm := G5 [⟨true, .a8 a⟩, ⟨true, .a8 x⟩]
def iB7 (i : Nat) : List (Nat × SV) := [(1, .ptr 5 0), (3, .sl 6 0 32 32), (4, .i (i : Nat))]
def oB7 : List (Nat × SV) := [(3, .sl 6 0 32 32)]
def LB7 (a z : Tx8) : LT := noL.add 0 (vLoop GE 18 (iB7 0) (mB7 a z32) oB7 (mB7 a z))
theorem vaB7 (a z : Tx8) (K : SV → Prop) : (vf Tryz.prog E00 (LB7 a z) 23 [.a8 a] GE (fun r _ => K r)) = (loopOf Tryz.prog 23 0 = loopOf Tryz.prog 23 0 ∧ SV.ptr 5 0 = SV.ptr 5 0 ∧ SV.sl ((0 : Nat) + (1 : Nat) + (1 : Nat) + (1 : Nat) + (1 : Nat) + (1 : Nat) + (1 : Nat)) (0 : Nat) (32 : Nat) (32 : Nat) = SV.sl 6 0 (32 : Nat) (32 : Nat) ∧ SV.i (0 : Int) = SV.i (↑(0 : Nat) : Int) ∧ g5E ((true = true ∧ Cont.a8 a = Cont.a8 a) ∧ (true = true ∧ Cont.a8 (List.replicate 32 (0 : BitVec 8)) = Cont.a8 z32) ∧ bif decide ((32 : Nat) ≤ List.length z) then K (SV.s (List.take 32 (List.drop 0 z))) else False)) := by kernel_rfl
theorem vrB7 (a x y z : Tx8) (i : Nat) (p : Prop) : (frK 18 (iB7 i) fun fr => vround Tryz.prog E00 noL 23 0 fr (mB7 a x) (Kn GE 0 18 p (iB7 (i + 1)) (mB7 a y) oB7 (mB7 a z))) = (bif ilt (↑i : Int) (32 : Int) then bif inR (↑i : Int) (32 : Nat) then bif i.blt (List.length a) then bif inR (↑i : Int) (32 : Nat) then bif i.blt (List.length x) then bif inI ((↑i : Int) + (1 : Int)) then p ∧ SV.ptr 5 0 = SV.ptr 5 0 ∧ SV.sl 6 0 (32 : Nat) (32 : Nat) = SV.sl 6 0 (32 : Nat) (32 : Nat) ∧ SV.i ((↑i : Int) + (1 : Int)) = SV.i (↑(i + (1 : Nat)) : Int) ∧ g5E ((true = true ∧ Cont.a8 a = Cont.a8 a) ∧ (true = true ∧ Cont.a8 (List.set x i (List.getD a i (0 : BitVec 8))) = Cont.a8 y) ∧ True) else False else False else False else False else False else (0 : Nat) = (0 : Nat) ∧ SV.sl 6 0 (32 : Nat) (32 : Nat) = SV.sl 6 0 (32 : Nat) (32 : Nat) ∧ g5E ((true = true ∧ Cont.a8 a = Cont.a8 a) ∧ (true = true ∧ Cont.a8 x = Cont.a8 z) ∧ True)) := by kernel_rfl
def EO7 (O : Tx8) (C L D : Tx8 → Tx8 → Bool) (F : Tx8 → Tx8 → Tx8) : Env := ⟨GE, ((noT.add 48 (c80 O)).add 47 (c8b C L)).add 49 (c8r D F), noC⟩
def mO7 (x : Tx8) : Mm := G5 [⟨true, .a8 z32⟩, ⟨true, .a8 x⟩]
def iO7 (l : Tx8) (k : Nat) : List (Nat × SV) := [(0, .s l), (2, .ptr 5 0), (3, .ptr 6 0), (4, .i ((k : Int) - 1))]
def oO7 : List (Nat × SV) := [(2, .ptr 5 0), (3, .ptr 6 0)]
def iO7b (l : Tx8) (k : Nat) (c : BitVec 8) (j : Nat) : List (Nat × SV) := [(0, .s l), (2, .ptr 5 0), (3, .ptr 6 0), (4, .i ((k : Int) - 1)), (5, .w8 c), (6, .i (j : Nat))]
def LO7 (l : Tx8) (n : Nat) (z : Tx8) : LT := noL.add 0 (vLoop GE 48 (iO7 l n) (mO7 z32) oO7 (mO7 z))
def LO7b (l : Tx8) (k : Nat) (c : BitVec 8) (x y : Tx8) : LT := noL.add 2 (vLoop GE 48 (iO7b l k c 0) (mO7 x) (iO7 l k) (mO7 y))
theorem vaO7 (O : Tx8) (C L D : Tx8 → Tx8 → Bool) (F : Tx8 → Tx8 → Tx8) (l : Tx8) (n : Nat) (z : Tx8) (K : SV → Prop) : (vf Tryz.prog (EO7 O C L D F) (LO7 l n z) 20 [.s l] GE (fun r _ => K r)) = (bif inI ((8 : Int) * (↑(List.length l) : Int)) then bif inI ((8 : Int) * (↑(List.length l) : Int) - (1 : Int)) then loopOf Tryz.prog 20 0 = loopOf Tryz.prog 20 0 ∧ SV.s l = SV.s l ∧ SV.ptr 5 0 = SV.ptr 5 0 ∧ SV.ptr 6 0 = SV.ptr 6 0 ∧ SV.i ((8 : Int) * (↑(List.length l) : Int) - (1 : Int)) = SV.i ((↑n : Int) - (1 : Int)) ∧ g5E ((true = true ∧ Cont.a8 (List.replicate 32 (0 : BitVec 8)) = Cont.a8 z32) ∧ (true = true ∧ Cont.a8 (List.replicate 32 (0 : BitVec 8)) = Cont.a8 z32) ∧ bif (List.length z).beq 32 then bif (List.length z).beq 32 && (List.length z).beq 32 then bif (List.length z).beq 32 && true then K (SV.a8 z) else False else False else False) else False else False) := by kernel_rfl
theorem vrO7b (l x y z : Tx8) (k j : Nat) (c d : BitVec 8) (p : Prop) : (frK 48 (iO7b l k c j) fun fr => vround Tryz.prog E00 noL 20 2 fr (mO7 x) (Kn GE 2 48 p (iO7b l k d (j + 1)) (mO7 y) (iO7 l k) (mO7 z))) = (bif ilt (↑j : Int) (32 : Int) then bif inR (↑j : Int) (32 : Nat) then bif j.blt (List.length x) then bif inR (↑j : Int) (32 : Nat) then bif j.blt (List.length x) then bif inI ((↑j : Int) + (1 : Int)) then p ∧ SV.s l = SV.s l ∧ SV.ptr 5 0 = SV.ptr 5 0 ∧ SV.ptr 6 0 = SV.ptr 6 0 ∧ SV.i ((↑k : Int) - (1 : Int)) = SV.i ((↑k : Int) - (1 : Int)) ∧ SV.w8 (List.getD x j (0 : BitVec 8) >>> (7 : Nat)) = SV.w8 d ∧ SV.i ((↑j : Int) + (1 : Int)) = SV.i (↑(j + (1 : Nat)) : Int) ∧ g5E ((true = true ∧ Cont.a8 z32 = Cont.a8 z32) ∧ (true = true ∧ Cont.a8 (List.set x j (List.getD x j (0 : BitVec 8) <<< (1 : Nat) ||| c)) = Cont.a8 y) ∧ True) else False else False else False else False else False else (2 : Nat) = (2 : Nat) ∧ SV.s l = SV.s l ∧ SV.ptr 5 0 = SV.ptr 5 0 ∧ SV.ptr 6 0 = SV.ptr 6 0 ∧ SV.i ((↑k : Int) - (1 : Int)) = SV.i ((↑k : Int) - (1 : Int)) ∧ g5E ((true = true ∧ Cont.a8 z32 = Cont.a8 z32) ∧ (true = true ∧ Cont.a8 x = Cont.a8 z) ∧ True)) := by kernel_rfl
theorem vrO7 (O : Tx8) (C L D : Tx8 → Tx8 → Bool) (F : Tx8 → Tx8 → Tx8) (l x y w z : Tx8) (k k' k'' : Nat) (c : BitVec 8) (p : Prop) : (frK 48 (iO7 l k) fun fr => vround Tryz.prog (EO7 O C L D F) (LO7b l k'' c x y) 20 0 fr (mO7 x) (Kn GE 0 48 p (iO7 l k') (mO7 w) oO7 (mO7 z))) = (bif ile (0 : Int) ((↑k : Int) - (1 : Int)) then bif inI ((↑k : Int) - (1 : Int)) then bif inR (((↑k : Int) - (1 : Int)).tdiv (8 : Int)) (List.length l) then loopOf Tryz.prog 20 2 = loopOf Tryz.prog 20 2 ∧ SV.s l = SV.s l ∧ SV.ptr 5 0 = SV.ptr 5 0 ∧ SV.ptr 6 0 = SV.ptr 6 0 ∧ SV.i ((↑k : Int) - (1 : Int)) = SV.i ((↑k'' : Int) - (1 : Int)) ∧ SV.w8 (List.getD l (((↑k : Int) - (1 : Int)).tdiv (8 : Int)).toNat (0 : BitVec 8) >>> (BitVec.ofInt (64 : Nat) (((↑k : Int) - (1 : Int)).tmod (8 : Int))).toNat &&& BitVec.ofInt 8 1) = SV.w8 c ∧ SV.i (0 : Int) = SV.i (↑(0 : Nat) : Int) ∧ g5E ((true = true ∧ Cont.a8 z32 = Cont.a8 z32) ∧ (true = true ∧ Cont.a8 x = Cont.a8 x) ∧ bif (List.length y).beq 32 then bif C y O then bif !L y O then bif (List.length y).beq 32 then bif D y O then bif (List.length (F y O)).beq (List.length y) && (List.length (F y O)).beq 32 then bif inI ((↑k'' : Int) - (1 : Int) - (1 : Int)) then p ∧ SV.s l = SV.s l ∧ SV.ptr 5 0 = SV.ptr 5 0 ∧ SV.ptr 6 0 = SV.ptr 6 0 ∧ SV.i ((↑k'' : Int) - (1 : Int) - (1 : Int)) = SV.i ((↑k' : Int) - (1 : Int)) ∧ g5E ((true = true ∧ Cont.a8 z32 = Cont.a8 z32) ∧ (true = true ∧ Cont.a8 (F y O) = Cont.a8 w) ∧ True) else False else False else False else False else bif inI ((↑k'' : Int) - (1 : Int) - (1 : Int)) then p ∧ SV.s l = SV.s l ∧ SV.ptr 5 0 = SV.ptr 5 0 ∧ SV.ptr 6 0 = SV.ptr 6 0 ∧ SV.i ((↑k'' : Int) - (1 : Int) - (1 : Int)) = SV.i ((↑k' : Int) - (1 : Int)) ∧ g5E ((true = true ∧ Cont.a8 z32 = Cont.a8 z32) ∧ (true = true ∧ Cont.a8 y = Cont.a8 w) ∧ True) else False else False else False) else False else False else (0 : Nat) = (0 : Nat) ∧ SV.ptr 5 0 = SV.ptr 5 0 ∧ SV.ptr 6 0 = SV.ptr 6 0 ∧ g5E ((true = true ∧ Cont.a8 z32 = Cont.a8 z32) ∧ (true = true ∧ Cont.a8 x = Cont.a8 z) ∧ True)) := by kernel_rfl
def c81 (G : Tx8 → Tx8) : List SV → List Cont → Option (Bool × SV)
 | [.a8 l], _ => some (Nat.beq l.length 32, .s (G l))
 | _, _ => none
def cO7 (F : Tx8 → Tx8) : List SV → List Cont → Option (Bool × SV)
 | [.s l], _ => some (Nat.ble l.length 100, .a8 (F l))
 | _, _ => none
def EC7 (F G : Tx8 → Tx8) : Env := ⟨GE, ((noT.add 20 (cO7 F)).add 23 (c81 G)).add flagZ cFlagZ, noC⟩
theorem vaC7 (F G : Tx8 → Tx8) (l : Tx8) (K : SV → Prop) : (vf Tryz.prog (EC7 F G) noL 33 [.s l] GE (fun r _ => K r)) = (bif (↑(List.length l) : Int) == (32 : Int) then bif (List.length l).ble 100 then bif (List.length (F l)).beq 32 then K (SV.b (bif true then G (F l) == l else false)) else False else False else K (SV.b false)) := by kernel_rfl
theorem vaK7 (l : Tx8) (K : SV → Prop) : (vf Tryz.prog E00 noL 41 [.s l] GE (fun r _ => K r)) = (∀ (cap : Nat) (x : List (BitVec 8)), List.length l ≤ cap → x = l ++ List.replicate (cap - List.length l) (0 : BitVec 8) → bif inR (0 : Int) (List.length l) then bif Nat.blt 0 x.length then bif inR (0 : Int) (List.length l) then bif Nat.blt 0 x.length then bif inR (31 : Int) (List.length l) then bif Nat.blt 31 (x.set 0 (x.getD (0 : Nat) (0 : BitVec 8) &&& ~~~BitVec.ofInt 8 7)).length then bif inR (31 : Int) (List.length l) then bif Nat.blt 31 (x.set 0 (x.getD (0 : Nat) (0 : BitVec 8) &&& ~~~BitVec.ofInt 8 7)).length then bif decide ((0 : Nat) + List.length l ≤ ((x.set 0 (x.getD (0 : Nat) (0 : BitVec 8) &&& ~~~BitVec.ofInt 8 7)).set 31 ((x.set 0 (x.getD (0 : Nat) (0 : BitVec 8) &&& ~~~BitVec.ofInt 8 7)).getD (31 : Nat) (0 : BitVec 8) &&& ~~~BitVec.ofInt 8 128 ||| BitVec.ofInt 8 64)).length) then K (SV.s (List.take (List.length l) (List.drop 0 ((x.set 0 (x.getD (0 : Nat) (0 : BitVec 8) &&& ~~~BitVec.ofInt 8 7)).set 31 ((x.set 0 (x.getD (0 : Nat) (0 : BitVec 8) &&& ~~~BitVec.ofInt 8 7)).getD (31 : Nat) (0 : BitVec 8) &&& ~~~BitVec.ofInt 8 128 ||| BitVec.ofInt 8 64))))) else False else False else False else False else False else False else False else False else False) := by kernel_rfl
theorem byD_get (A i : Nat) (h : i < 32) : (byD A).getD i 0 = BitVec.ofNat 8 (vb A i) := by unfold byD; rw [Mt.Dg.bb_get, Mt.Dg.vbl_get A i h]
theorem byD_rd {l : Tx8} (h : l.length = 32) : l = byD (rd l 32) := by
 apply List.ext_getElem?
 intro j
 by_cases hj : j < 32
 ·have h1 : l[j]? = some (l.getD j 0) := getD_get 0 (by omega)
  have h2 : (byD (rd l 32))[j]? = some ((byD (rd l 32)).getD j 0) := getD_get 0 (by rw [byD_len]; exact hj)
  rw [h1, h2, byD_get _ _ hj]
  congr 1
  apply BitVec.eq_of_toNat_eq
  rw [Mt.Dg.toN8 _ (Mt.Dg.vb_lt _ _)]
  exact (Mt.Dg.rd_byte l j hj).symm
 ·rw [List.getElem?_eq_none (by omega), List.getElem?_eq_none (by rw [byD_len]; omega)]
theorem rd_byD (A : Nat) : ∀ k, k ≤ 32 → rd (byD A) k = A % 256 ^ k
 | 0, _ => by rw [Nat.pow_zero, Nat.mod_one]; rfl
 | k + 1, h => by
  have ih := rd_byD A k (by omega)
  have e : byt (byD A) k = vb A k := by
   show ((byD A).getD k 0).toNat = _
   rw [byD_get A k (by omega), Mt.Dg.toN8 _ (Mt.Dg.vb_lt _ _)]
  rw [Mt.Dg.rd, ih, e, Mt.Dg.O.mod_vb, Nat.mul_comm]
theorem rd_by {A : Nat} (h : A < 115792089237316195423570985008687907853269984665640564039457584007913129639936) : rd (byD A) 32 = A := by rw [rd_byD A 32 (Nat.le_refl _), Nat.mod_eq_of_lt (show A < 256 ^ 32 from h)]
theorem L2_lt : 2 * Lq < 115792089237316195423570985008687907853269984665640564039457584007913129639936 := by rw [Mt.Lq_val]; decide
theorem bne8 {a b : Nat} (ha : a < 256) (hb : b < 256) : (BitVec.ofNat 8 a != BitVec.ofNat 8 b) = decide (a ≠ b) := by
 by_cases h : a = b
 ·subst h; simp
 ·rw [decide_eq_true h]
  refine bne_iff_ne.2 fun e => h ?_
  have := congrArg BitVec.toNat e
  rw [Mt.Dg.toN8 a ha, Mt.Dg.toN8 b hb] at this
  exact this
theorem ult8 {a b : Nat} (ha : a < 256) (hb : b < 256) : (BitVec.ofNat 8 a).ult (BitVec.ofNat 8 b) = decide (a < b) := by
 unfold BitVec.ult
 rw [Mt.Dg.toN8 a ha, Mt.Dg.toN8 b hb]
theorem ORD_is : ORD = byD Lq := by rw [Mt.Lq_val]; decide +kernel
theorem orderO_ok : POk Tryz.prog GE 48 (c80 ORD) := by
 intro args acs r hh β M w hR hw ha
 unfold c80 at hh
 split at hh
 ·simp only [Option.some.injEq, Prod.mk.injEq, true_and] at hh
  subst hh
  exact pokE (E := E00) rfl e00_ok (show vf Tryz.prog E00 noL 48 [] GE (fun r _ => r = .a8 ORD) = (SV.a8 ORD = SV.a8 ORD) by kernel_rfl) rfl rfl rfl hR
 ·cases hh
theorem loopLs (A B : Nat) (hA : A / 256 ^ 32 = 0) (hB : B / 256 ^ 32 = 0) : LOk Tryz.prog GE GE 47 (LLs (byD A) (byD B) (decide (A < B)) (decide (A < B) = false)) := by
 refine LT.add_ok (noL_ok _ _ _ _) (loop_ret e00_ok mixed (noL_ok _ _ _ _) (Nat.le_refl _) (by kernel_rfl) (fun j => iLs j) (fun _ => mLs (byD A) (byD B)) (fun j => j ≤ 32 ∧ A / 256 ^ (32 - j) = B / 256 ^ (32 - j)) (fun j => 32 - j) (fun j => j + 1) 0 ⟨by decide, by rw [Nat.sub_zero, hA, hB]⟩ fun j hj => of_eq (vrLs (byD A) (byD B) j _ _ _) ?_)
 obtain ⟨hj, he⟩ := hj
 cases hc : ile 0 (31 - (j : Int))
 ·have hj2 : j = 32 := by rw [ile_eq] at hc; have := of_decide_eq_false hc; omega
  subst hj2
  rw [Nat.sub_self, Nat.pow_zero, Nat.div_one, Nat.div_one] at he
  refine ⟨rfl, decide_eq_false (by omega), ?_⟩
  and_intros <;> first | exact rfl | exact trivial
 ·have hj2 : j < 32 := by rw [ile_eq] at hc; have := of_decide_eq_true hc; omega
  have e : (31 - (j : Int)).toNat = 31 - j := by omega
  have h1 : inR (31 - (j : Int)) 32 = true := inR_iff.2 (by omega)
  have h2 : Nat.blt (31 - j) 32 = true := blt_of (by omega)
  rw [show 32 - j = 31 - j + 1 by omega] at he
  rw [e, byD_len, byD_len, h1, h2, byD_get A _ (by omega), byD_get B _ (by omega), bne8 (Mt.Dg.vb_lt _ _) (Mt.Dg.vb_lt _ _), ult8 (Mt.Dg.vb_lt _ _) (Mt.Dg.vb_lt _ _)]
  by_cases hd : vb A (31 - j) = vb B (31 - j)
  ·rw [decide_eq_false (by rw [hd]; simp), show inI (31 - (j : Int) - 1) = true from inI_iff.2 (by omega)]
   refine ⟨⟨⟨by omega, ?_⟩, by omega⟩, rfl, rfl, congrArg SV.i (by omega), ?_⟩
   ·rw [show 32 - (j + 1) = 31 - j by omega, Mt.Dg.O.div_vb A, Mt.Dg.O.div_vb B, he, hd]
   ·and_intros <;> first | exact rfl | exact trivial
  ·rw [decide_eq_true hd, Mt.Dg.O.less_vb he hd]
   refine ⟨trivial, rfl, ?_⟩
   and_intros <;> first | exact rfl | exact trivial
def lsC (l m : Tx8) : Bool := Nat.beq l.length 32 && Nat.beq m.length 32
def lsF (l m : Tx8) : Bool := decide (rd l 32 < rd m 32)
theorem lessO_ok : POk Tryz.prog GE 47 (c8b lsC lsF) := by
 intro args acs r hh β M w hR hw ha
 unfold c8b at hh
 split at hh
 ·rename_i l m
  simp only [Option.some.injEq, Prod.mk.injEq, lsC, Bool.and_eq_true] at hh
  obtain ⟨⟨h1, h2⟩, rfl⟩ := hh
  have e1 := byD_rd (Nat.eq_of_beq_eq_true h1)
  have e2 := byD_rd (Nat.eq_of_beq_eq_true h2)
  have k1 := Mt.Dg.O.div_256 (Mt.Dg.rd_lt4 l)
  have k2 := Mt.Dg.O.div_256 (Mt.Dg.rd_lt4 m)
  unfold lsF
  generalize rd l 32 = A at *
  generalize rd m 32 = B at *
  subst e1; subst e2
  refine pokE' (E := E00) rfl e00_ok (loopLs A B k1 k2) (vaLs (byD A) (byD B) _ _ _) ?_ rfl rfl hR
  refine ⟨rfl, rfl, rfl, rfl, ⟨rfl, rfl⟩, ⟨rfl, rfl⟩, ⟨rfl, rfl⟩, ⟨rfl, rfl⟩, ⟨rfl, rfl⟩, ⟨rfl, rfl⟩, ⟨rfl, rfl⟩, fun hq => ?_, fun _ => rfl⟩
  rw [hq]
 ·cases hh
theorem loopMn (A B : Nat) (hAB : B ≤ A) (a z : Tx8) (c : Int) (ha : a = bb (mlb A B 0)) (hz : z = bb (mlb A B 32)) (hc : c = ((bw A B 0 : Nat) : Int)) : ∀ fr M K, vLoop GE 32 (iMn c 0) (mMn a (byD B)) oMn (mMn z (byD B)) fr M K → Wp Tryz.prog GE GE (loopOf Tryz.prog 49 0) fr M K := by
 subst ha; subst hc
 refine loop_next e00_ok mixed (noL_ok _ _ _ _) (Nat.le_refl _) (by kernel_rfl) (fun i => iMn ((bw A B i : Nat) : Int) i) (fun i => mMn (bb (mlb A B i)) (byD B)) (fun i => i ≤ 32) (fun i => 32 - i) (fun i => i + 1) 0 (Nat.zero_le _) (fun i hi => of_eq (vrMn (byD B) (bb (mlb A B i)) (bb (mlb A B (i + 1))) z ((bw A B i : Nat) : Int) ((bw A B (i + 1) : Nat) : Int) i _) ?_)
 cases hq : ilt (i : Int) 32
 ·have hi2 : i = 32 := by have := le_of_ilt (b := 32) hq; omega
  have e : bb (mlb A B i) = z := by rw [hz, hi2]
  rw [e]
  and_intros <;> first | exact rfl | exact trivial
 ·have hi2 : i < 32 := lt_of_ilt (b := 32) hq
  have g1 : (bb (mlb A B i)).getD i 0 = BitVec.ofNat 8 (vb A i) := by rw [Mt.Dg.bb_get, Mt.Dg.O.mlb_get A B i hi2]
  have g2 := byD_get B i hi2
  have v1 := Mt.Dg.vb_lt A i
  have v2 := Mt.Dg.vb_lt B i
  have v3 := Mt.Dg.vb_lt (A - B) i
  have b1 := Mt.Dg.O.bw_le A B i
  have b2 := Mt.Dg.O.bw_le A B (i + 1)
  obtain ⟨u, hu, hz2, hc2⟩ := Mt.Dg.O.minus_num (Mt.Dg.O.minus_vb hAB i) v3 b2
  have hb : BitVec.ofInt 8 (u : Int) = BitVec.ofNat 8 (vb (A - B) i) := by
   rw [BitVec.ofInt_natCast]
   apply BitVec.eq_of_toNat_eq
   rw [BitVec.toNat_ofNat, BitVec.toNat_ofNat]
   show u % 256 = _ % 256
   omega
  have hf : 1 - (u : Int).fdiv (2 ^ 8) = ((bw A B (i + 1) : Nat) : Int) := by
   rw [show ((2 : Int) ^ 8) = 256 from rfl, Int.fdiv_eq_ediv_of_nonneg _ (by decide)]
   exact hc2
  have i2 : Nat.blt i (bb (mlb A B i)).length = true := blt_of (by rw [Mt.Dg.bb_len, Mt.Dg.O.mlb_len]; exact hi2)
  have i3 : Nat.blt i (byD B).length = true := blt_of (by rw [byD_len]; exact hi2)
  rw [g1, g2, Mt.Dg.toN8 _ v1, Mt.Dg.toN8 _ v2, hu, hb, hf, Mt.Dg.bb_set, Mt.Dg.O.mlb_set A B i hi2]
  refine bif_of (inR_of hi2) (bif_of i2 (bif_of (inI_iff.2 (by omega)) (bif_of (inR_of hi2) (bif_of i3 (bif_of (inI_iff.2 (by omega)) (bif_of (inI_iff.2 (by omega)) (bif_of (inR_of hi2) (bif_of i2 (bif_of (inI_iff.2 (by omega)) (bif_of (inI_iff.2 (by omega)) ?_))))))))))
  and_intros <;> first | omega | exact rfl | exact trivial
def mnC (l m : Tx8) : Bool := Nat.beq l.length 32 && (Nat.beq m.length 32 && Nat.ble (rd m 32) (rd l 32))
def mnF (l m : Tx8) : Tx8 := byD (rd l 32 - rd m 32)
theorem minusO_ok : POk Tryz.prog GE 49 (c8r mnC mnF) := by
 intro args acs r hh β M w hR hw ha
 unfold c8r at hh
 split at hh
 ·rename_i l m
  simp only [Option.some.injEq, Prod.mk.injEq, mnC, Bool.and_eq_true] at hh
  obtain ⟨⟨h1, h2, h3⟩, rfl⟩ := hh
  have e1 := byD_rd (Nat.eq_of_beq_eq_true h1)
  have e2 := byD_rd (Nat.eq_of_beq_eq_true h2)
  have h3 := Nat.le_of_ble_eq_true h3
  unfold mnF
  generalize rd l 32 = A at *
  generalize rd m 32 = B at *
  subst e1; subst e2
  refine pokE' (E := E00) rfl e00_ok (LT.add_ok (noL_ok _ _ _ _) (loopMn A B h3 (byD A) (byD (A - B)) 0 ?_ ?_ ?_)) (vaMn (byD A) (byD B) (byD (A - B)) _) ?_ rfl rfl hR
  ·rw [Mt.Dg.O.mlb_zero]; rfl
  ·rw [Mt.Dg.O.mlb_all]; rfl
  ·unfold bw; rw [Nat.pow_zero, Nat.mod_one, Nat.mod_one]; rfl
  ·rw [byD_len]
   and_intros <;> first | exact rfl | exact trivial
 ·cases hh
theorem z32_is : z32 = bb (vbl 0) := by decide +kernel
theorem loopB7 (A : Nat) (x z : Tx8) (hx : x = bb (Mt.Dg.O.cb A 0)) (hz : z = bb (Mt.Dg.O.cb A 32)) : ∀ fr M K, vLoop GE 18 (iB7 0) (mB7 (byD A) x) oB7 (mB7 (byD A) z) fr M K → Wp Tryz.prog GE GE (loopOf Tryz.prog 23 0) fr M K := by
 subst hx
 refine loop_next e00_ok mixed (noL_ok _ _ _ _) (Nat.le_refl _) (by kernel_rfl) (fun i => iB7 i) (fun i => mB7 (byD A) (bb (Mt.Dg.O.cb A i))) (fun i => i ≤ 32) (fun i => 32 - i) (fun i => i + 1) 0 (Nat.zero_le _) (fun i hi => of_eq (vrB7 (byD A) (bb (Mt.Dg.O.cb A i)) (bb (Mt.Dg.O.cb A (i + 1))) z i _) ?_)
 cases hq : ilt (i : Int) 32
 ·have hi2 : i = 32 := by have := le_of_ilt (b := 32) hq; omega
  have e : bb (Mt.Dg.O.cb A i) = z := by rw [hz, hi2]
  rw [e]
  and_intros <;> first | exact rfl | exact trivial
 ·have hi2 : i < 32 := lt_of_ilt (b := 32) hq
  have i2 : Nat.blt i (byD A).length = true := blt_of (by rw [byD_len]; exact hi2)
  have i3 : Nat.blt i (bb (Mt.Dg.O.cb A i)).length = true := blt_of (by rw [Mt.Dg.bb_len, Mt.Dg.O.cb_len]; exact hi2)
  rw [byD_get A i hi2, Mt.Dg.bb_set, Mt.Dg.O.cb_set]
  refine bif_of (inR_of hi2) (bif_of i2 (bif_of (inR_of hi2) (bif_of i3 (bif_of (inI_iff.2 (by omega)) ?_))))
  and_intros <;> first | omega | exact rfl | exact trivial
theorem bytesO7_ok : POk Tryz.prog GE 23 (c81 fun l => l) := by
 intro args acs r hh β M w hR hw ha
 unfold c81 at hh
 split at hh
 ·rename_i l
  simp only [Option.some.injEq, Prod.mk.injEq] at hh
  obtain ⟨h1, rfl⟩ := hh
  have e1 := byD_rd (Nat.eq_of_beq_eq_true h1)
  generalize rd l 32 = A at *
  subst e1
  refine pokE' (E := E00) rfl e00_ok (LT.add_ok (noL_ok _ _ _ _) (loopB7 A z32 (byD A) (by rw [Mt.Dg.O.cb_zero, z32_is]) (by rw [Mt.Dg.O.cb_all]; rfl))) (vaB7 (byD A) (byD A) _) ?_ rfl rfl hR
  have hl := byD_len A
  rw [List.drop_zero, List.take_of_length_le (by omega), decide_eq_true (by omega)]
  and_intros <;> first | exact rfl | exact trivial
 ·cases hh
theorem or8c : ∀ (x : Fin 256) (c : Fin 2), BitVec.ofNat 8 x.1 <<< 1 ||| BitVec.ofNat 8 c.1 = BitVec.ofNat 8 ((2 * x.1 + c.1) % 256) := by decide +kernel
theorem loopO7b (R b : Nat) (hb : b ≤ 1) (l : Tx8) (k : Nat) (c : BitVec 8) (x z : Tx8) (hc : c = BitVec.ofNat 8 (cy R b 0)) (hx : x = bb (dl R b 0)) (hz : z = bb (dl R b 32)) : ∀ fr M K, vLoop GE 48 (iO7b l k c 0) (mO7 x) (iO7 l k) (mO7 z) fr M K → Wp Tryz.prog GE GE (loopOf Tryz.prog 20 2) fr M K := by
 subst hx; subst hc
 refine loop_next e00_ok mixed (noL_ok _ _ _ _) (Nat.le_refl _) (by kernel_rfl) (fun j => iO7b l k (BitVec.ofNat 8 (cy R b j)) j) (fun j => mO7 (bb (dl R b j))) (fun j => j ≤ 32) (fun j => 32 - j) (fun j => j + 1) 0 (Nat.zero_le _) (fun j hj => of_eq (vrO7b l (bb (dl R b j)) (bb (dl R b (j + 1))) z k j (BitVec.ofNat 8 (cy R b j)) (BitVec.ofNat 8 (cy R b (j + 1))) _) ?_)
 cases hq : ilt (j : Int) 32
 ·have hj2 : j = 32 := by have := le_of_ilt (b := 32) hq; omega
  have e : bb (dl R b j) = z := by rw [hz, hj2]
  rw [e]
  and_intros <;> first | exact rfl | exact trivial
 ·have hj2 : j < 32 := lt_of_ilt (b := 32) hq
  have i2 : Nat.blt j (bb (dl R b j)).length = true := blt_of (by rw [Mt.Dg.bb_len, Mt.Dg.O.dl_len]; exact hj2)
  have hc := Mt.Dg.O.cy_le (R := R) hb j
  have g1 : (bb (dl R b j)).getD j 0 = BitVec.ofNat 8 (vb R j) := by rw [Mt.Dg.bb_get, Mt.Dg.O.dl_get R b j hj2]
  have hor := or8c ⟨vb R j, Mt.Dg.vb_lt R j⟩ ⟨cy R b j, by omega⟩
  dsimp only at hor
  rw [← Mt.Dg.O.cy_vb hb j] at hor
  have hsh : BitVec.ofNat 8 (vb R j) >>> 7 = BitVec.ofNat 8 (cy R b (j + 1)) := Mt.Dg.shr8 _ 7 (Mt.Dg.vb_lt R j)
  rw [g1, hor, hsh, Mt.Dg.bb_set, Mt.Dg.O.dl_set R b j hj2]
  refine bif_of (inR_of hj2) (bif_of i2 (bif_of (inR_of hj2) (bif_of i2 (bif_of (inI_iff.2 (by omega)) ?_))))
  and_intros <;> first | omega | exact rfl | exact trivial
theorem push_mod (N m L : Nat) : (2 * (N / 2 ^ (m + 1) % L) + N / 2 ^ m % 2) % L = N / 2 ^ m % L := by
 have e : N / 2 ^ (m + 1) = N / 2 ^ m / 2 := by rw [Nat.pow_succ, Nat.div_div_eq_div_mul]
 rw [e]
 generalize N / 2 ^ m = Q
 have h : Q = 2 * (Q / 2) + Q % 2 := by omega
 generalize Q / 2 = x at *
 generalize Q % 2 = r at *
 subst h
 rw [Nat.add_mod, Nat.mul_mod, Nat.mod_mod, ← Nat.mul_mod, ← Nat.add_mod]
theorem mod_ltL (n : Nat) : n % Lq < Lq := Nat.mod_lt _ (by rw [Mt.Lq_val]; decide)
theorem eo7_ok : EnvOk Tryz.prog (EO7 ORD lsC lsF mnC mnF) := ⟨PT.add_ok (PT.add_ok (PT.add_ok (noT_ok _ _) orderO_ok) lessO_ok) minusO_ok, noC_ok _ _⟩
theorem rd_ORD : rd ORD 32 = Lq := by rw [ORD_is]; exact rd_by (by have := L2_lt; omega)
theorem bit_carry {l : Tx8} {i : Nat} (h : i < 8 * l.length) : l.getD (i / 8) 0 >>> (i % 8) &&& BitVec.ofInt 8 1 = BitVec.ofNat 8 (rd l l.length / 2 ^ i % 2) := by
 apply BitVec.eq_of_toNat_eq
 rw [BitVec.toNat_and, show (BitVec.ofInt 8 1).toNat = 2 ^ 1 - 1 from rfl, Nat.and_two_pow_sub_one_eq_mod, BitVec.toNat_ushiftRight, Nat.shiftRight_eq_div_pow, Mt.Dg.toN8 _ (by omega)]
 exact Mt.Dg.O.byt_bit l l.length i h
theorem loopO7 (l : Tx8) (hl : l.length ≤ 100) (x z : Tx8) (hx : x = byD (rd l l.length / 2 ^ (8 * l.length) % Lq)) (hz : z = byD (rd l l.length / 2 ^ 0 % Lq)) : ∀ fr M K, vLoop GE 48 (iO7 l (8 * l.length)) (mO7 x) oO7 (mO7 z) fr M K → Wp Tryz.prog GE GE (loopOf Tryz.prog 20 0) fr M K := by
 subst hx
 generalize hN : rd l l.length = N at *
 refine loop_nextL eo7_ok mixed (Nat.le_refl _) (by kernel_rfl) (L := fun k => LO7b l k (BitVec.ofNat 8 (N / 2 ^ (k - 1) % 2)) (byD (N / 2 ^ k % Lq)) (byD (2 * (N / 2 ^ k % Lq) + N / 2 ^ (k - 1) % 2))) (fun k => LT.add_ok (noL_ok _ _ _ _) (loopO7b (N / 2 ^ k % Lq) (N / 2 ^ (k - 1) % 2) (by omega) l k _ _ _ rfl (by rw [Mt.Dg.O.dl_zero]; rfl) (by rw [Mt.Dg.O.dl_all]; rfl))) (fun k => iO7 l k) (fun k => mO7 (byD (N / 2 ^ k % Lq))) (fun k => k ≤ 8 * l.length) (fun k => k) (fun k => k - 1) (8 * l.length) (Nat.le_refl _) (fun k hk => of_eq (vrO7 ORD lsC lsF mnC mnF l (byD (N / 2 ^ k % Lq)) (byD (2 * (N / 2 ^ k % Lq) + N / 2 ^ (k - 1) % 2)) (byD (N / 2 ^ (k - 1) % Lq)) z k (k - 1) k (BitVec.ofNat 8 (N / 2 ^ (k - 1) % 2)) _) ?_)
 cases hq : ile 0 ((k : Int) - 1)
 ·have hk2 : k = 0 := by rw [ile_eq] at hq; have := of_decide_eq_false hq; omega
  subst hk2
  rw [hz]
  and_intros <;> first | exact rfl | exact trivial
 ·have hk2 : 0 < k := by rw [ile_eq] at hq; have := of_decide_eq_true hq; omega
  obtain ⟨i, rfl⟩ : ∃ i, k = i + 1 := ⟨k - 1, by omega⟩
  have e1 : ((i + 1 : Nat) : Int) - 1 = (i : Int) := by omega
  have e2 : i + 1 - 1 = i := by omega
  have hR := mod_ltL (N / 2 ^ (i + 1))
  have hpm := push_mod N i Lq
  have hbit := bit_carry (l := l) (i := i) (by omega)
  rw [hN] at hbit
  rw [e2, e1, tdiv8i, tmod8', toNatI, ofI64 (by omega), hbit, show inI (i : Int) = true from inI_iff.2 (by omega), inR_of (show i / 8 < l.length by omega)]
  generalize hRR : N / 2 ^ (i + 1) % Lq = R at *
  generalize hbb : N / 2 ^ i % 2 = b at *
  have hb : b ≤ 1 := by omega
  have hS : 2 * R + b < 2 * Lq := by omega
  have hS4 : 2 * R + b < 115792089237316195423570985008687907853269984665640564039457584007913129639936 := by have := L2_lt; omega
  have hmod := Mt.Dg.O.less_mod hS
  rw [hpm] at hmod
  have h1 : lsC (byD (2 * R + b)) ORD = true := by unfold lsC; rw [byD_len]; rfl
  have h2 : lsF (byD (2 * R + b)) ORD = decide (2 * R + b < Lq) := by unfold lsF; rw [rd_by hS4, rd_ORD]
  rw [h1, h2, byD_len, show inI ((i : Int) - 1) = true from inI_iff.2 (by omega)]
  simp only [cond_true]
  by_cases hlt : 2 * R + b < Lq
  ·rw [if_pos hlt] at hmod
   rw [decide_eq_true hlt, hmod]
   and_intros <;> first | omega | exact rfl | exact trivial
  ·rw [if_neg hlt] at hmod
   have h3 : mnC (byD (2 * R + b)) ORD = true := by
    unfold mnC
    rw [byD_len, rd_by hS4, rd_ORD, Nat.ble_eq_true_of_le (by omega)]
    rfl
   have h4 : mnF (byD (2 * R + b)) ORD = byD (2 * R + b - Lq) := by unfold mnF; rw [rd_by hS4, rd_ORD]
   rw [decide_eq_false hlt, h3, h4, byD_len, hmod]
   and_intros <;> first | omega | exact rfl | exact trivial
def o7F (l : Tx8) : Tx8 := byD (rd l l.length % Lq)
theorem ofO7_ok : POk Tryz.prog GE 20 (cO7 o7F) := by
 intro args acs r hh β M w hR hw ha
 unfold cO7 at hh
 split at hh
 ·rename_i l
  simp only [Option.some.injEq, Prod.mk.injEq] at hh
  obtain ⟨h1, rfl⟩ := hh
  have h1 := Nat.le_of_ble_eq_true h1
  unfold o7F
  refine pokE' (E := EO7 ORD lsC lsF mnC mnF) rfl eo7_ok (LT.add_ok (noL_ok _ _ _ _) (loopO7 l h1 z32 (byD (rd l l.length % Lq)) (by rw [Mt.Dg.O.rd_end, Nat.zero_mod]; exact z32_is) (by rw [Nat.pow_zero, Nat.div_one]))) (vaO7 ORD lsC lsF mnC mnF l (8 * l.length) (byD (rd l l.length % Lq)) _) ?_ rfl rfl hR
  rw [byD_len, show inI (8 * (l.length : Int)) = true from inI_iff.2 (by omega), show inI (8 * (l.length : Int) - 1) = true from inI_iff.2 (by omega)]
  refine ⟨rfl, rfl, rfl, rfl, congrArg SV.i (by omega), ?_⟩
  and_intros <;> first | exact rfl | exact trivial
 ·cases hh
def caF7 (l : Tx8) : Bool := Nat.beq l.length 32 && decide (rd l 32 < Lq)
theorem ec7_ok : EnvOk Tryz.prog (EC7 o7F fun l => l) := ⟨PT.add_ok (PT.add_ok (PT.add_ok (noT_ok _ _) ofO7_ok) bytesO7_ok) (flagZ_ok _), noC_ok _ _⟩
theorem canonO7_ok : POk Tryz.prog GE 33 (cCa' caF7) := by
 intro args acs r hh β M w hR hw ha
 unfold cCa' at hh
 split at hh
 ·rename_i l
  simp only [Option.some.injEq, Prod.mk.injEq, true_and] at hh
  subst hh
  refine pokE (E := EC7 o7F fun l => l) rfl ec7_ok (vaC7 o7F (fun l => l) l _) ?_ rfl rfl hR
  unfold caF7
  by_cases hl : l.length = 32
  ·have e : (o7F l == l) = decide (rd l 32 < Lq) := by
    have e1 := byD_rd hl
    have hA := Mt.Dg.rd_lt4 l
    unfold o7F
    rw [hl]
    generalize rd l 32 = A at *
    subst e1
    by_cases hlt : A < Lq
    ·rw [Nat.mod_eq_of_lt hlt, decide_eq_true hlt]; exact beq_self_eq_true _
    ·rw [decide_eq_false hlt]
     refine beq_eq_false_iff_ne.2 fun e => hlt ?_
     have h2 : rd (byD (A % Lq)) 32 = rd (byD A) 32 := congrArg (fun l => rd l 32) e
     rw [rd_by hA, rd_by (by have := mod_ltL A; have := L2_lt; omega)] at h2
     rw [← h2]
     exact mod_ltL A
   have hlo : (o7F l).length = 32 := byD_len _
   rw [hlo, e, hl]
   rfl
  ·rw [show ((l.length : Int) == 32) = false from beq_eq_false_iff_ne.2 (by omega), beqF hl]
   rfl
 ·cases hh
def cK7 (F : Tx8 → Tx8) : List SV → List Cont → Option (Bool × SV)
 | [.s l], _ => some (Nat.beq l.length 32, .s (F l))
 | _, _ => none
theorem clampO7_ok : POk Tryz.prog GE 41 (cK7 clX) := by
 intro args acs r hh β M w hR hw ha
 unfold cK7 at hh
 split at hh
 ·rename_i l
  simp only [Option.some.injEq, Prod.mk.injEq] at hh
  obtain ⟨h1, rfl⟩ := hh
  have hl := Nat.eq_of_beq_eq_true h1
  refine pokE (E := E00) rfl e00_ok (vaK7 l _) ?_ rfl rfl hR
  intro cap x hc hx
  subst hx
  have hc1 : (l ++ List.replicate (cap - l.length) (0 : BitVec 8)).set 0 ((l ++ List.replicate (cap - l.length) (0 : BitVec 8)).getD 0 0 &&& ~~~BitVec.ofInt 8 7) = c1Y l ++ List.replicate (cap - l.length) 0 := by
   rw [get_app _ _ 0 (by omega), set_app _ _ 0 _ (by omega)]; rfl
  have hl1 : (c1Y l).length = 32 := by unfold c1Y; rw [List.length_set]; exact hl
  have hc2 : (c1Y l ++ List.replicate (cap - l.length) (0 : BitVec 8)).set 31 ((c1Y l ++ List.replicate (cap - l.length) (0 : BitVec 8)).getD 31 0 &&& ~~~BitVec.ofInt 8 128 ||| BitVec.ofInt 8 64) = clX l ++ List.replicate (cap - l.length) 0 := by
   rw [get_app _ _ 31 (by omega), set_app _ _ 31 _ (by omega)]
   unfold clX c3Y c2Y
   rw [Mt.get_set _ 31 _ (by omega), List.set_set]
  have hl2 : (clX l).length = 32 := by rw [clX_len]; exact hl
  rw [hc1, hc2, hl]
  have hb1 : Nat.blt 0 (l ++ List.replicate (cap - 32) (0 : BitVec 8)).length = true := blt_of (by rw [List.length_append]; omega)
  have hb2 : Nat.blt 31 (c1Y l ++ List.replicate (cap - 32) (0 : BitVec 8)).length = true := blt_of (by rw [List.length_append]; omega)
  rw [hb1, hb2, List.drop_zero, List.take_left' hl2, decide_eq_true (by rw [List.length_append]; omega)]
  rfl
 ·cases hh
end Dc
end Go.Proofs.YtdfghknonbmadaaGreatDoor
