/-
  aead: numbers in five digits: carried, added, settled. No statement is proved here.
-/
import Derived.Test.YtgjhkfafmmkimaaDoorAfD
namespace Go.Proofs.YtgjhkfafmmkimaaDoor
open Go.RowKit
set_option linter.unusedVariables false
set_option linter.unusedSimpArgs false
set_option maxRecDepth 100000

def Z5 : Ds := List.replicate 5 0
def M48 (x : Ds) : Mm := [⟨false, .ints MX⟩, ⟨true, .a64 x⟩, ⟨true, .a64 Z5⟩]
def i48 (c : BitVec 64) (j : Nat) : List (Nat × SV) := [(1, .ptr 1 0), (2, .ptr 2 0), (4, .w64 c), (6, .i (j : Nat))]
def o48 (c : BitVec 64) : List (Nat × SV) := [(1, .ptr 1 0), (2, .ptr 2 0), (4, .w64 c)]
def L48 (l y : Ds) (c : BitVec 64) : LT := noL.add 0 (vLoop G 27 (i48 (BitVec.ofInt 64 0) 0) (M48 l) (o48 c) (M48 y))
theorem va48 (l y : Ds) (c : BitVec 64) (K : SV → Mm → Prop) : (vf Tryd.prog E0 (L48 l y c) 48 [.a64 l] G K) = (loopOf Tryd.prog (48 : Nat) (0 : Nat) = loopOf Tryd.prog (48 : Nat) (0 : Nat) ∧ SV.ptr (1 : Nat) (0 : Nat) = SV.ptr (1 : Nat) (0 : Nat) ∧ SV.ptr ((0 : Nat) + (1 : Nat) + (1 : Nat)) (0 : Nat) = SV.ptr (2 : Nat) (0 : Nat) ∧ SV.w64 (BitVec.ofInt (64 : Nat) (0 : Int)) = SV.w64 (BitVec.ofInt (64 : Nat) (0 : Int)) ∧ SV.i (0 : Int) = SV.i (↑(0 : Nat) : Int) ∧ (false = false ∧ Cont.ints MX = Cont.ints MX) ∧ (true = true ∧ Cont.a64 l = Cont.a64 l) ∧ (true = true ∧ Cont.a64 (List.replicate (5 : Nat) (0 : BitVec (64 : Nat))) = Cont.a64 Z5) ∧ bif (List.length y).beq (5 : Nat) then bif (List.length y).beq (5 : Nat) && (List.length y).beq (5 : Nat) then bif (List.length y).beq (5 : Nat) && true && true then K (SV.tup [SV.a64 y, SV.w64 c]) [{ rw := false, c := Cont.ints MX }, { rw := true, c := Cont.a64 y }, { rw := true, c := Cont.a64 y }] else False else False else False) := by kernel_rfl
theorem vr48 (x x1 z : Ds) (c c1 cz : BitVec 64) (j : Nat) (p : Prop) : (frK 27 (i48 c j) fun fr => vround Tryd.prog E0 noL 48 0 fr (M48 x) (Kn G 0 27 p (i48 c1 (j + 1)) (M48 x1) (o48 cz) (M48 z))) = (bif ilt (↑j : Int) (5 : Int) then bif inR (↑j : Int) (5 : Nat) then bif j.blt (List.length x) then bif inR (↑j : Int) (5 : Nat) then bif j.blt (List.length x) then bif inR (↑j : Int) (5 : Nat) then bif j.blt (List.set x j (List.getD x j (0 : BitVec (64 : Nat)) + c)).length then bif inR (↑j : Int) (5 : Nat) then bif j.blt (List.set x j (List.getD x j (0 : BitVec (64 : Nat)) + c)).length then bif inR (↑j : Int) (5 : Nat) then bif j.blt (List.set x j (List.getD x j (0 : BitVec (64 : Nat)) + c)).length then bif inI ((↑j : Int) + (1 : Int)) then p ∧ SV.ptr (1 : Nat) (0 : Nat) = SV.ptr (1 : Nat) (0 : Nat) ∧ SV.ptr (2 : Nat) (0 : Nat) = SV.ptr (2 : Nat) (0 : Nat) ∧ SV.w64 ((List.set x j (List.getD x j (0 : BitVec (64 : Nat)) + c)).getD j (0 : BitVec (64 : Nat)) >>> (26 : Nat)) = SV.w64 c1 ∧ SV.i ((↑j : Int) + (1 : Int)) = SV.i (↑(j + (1 : Nat)) : Int) ∧ (false = false ∧ Cont.ints MX = Cont.ints MX) ∧ (true = true ∧ Cont.a64 ((List.set x j (List.getD x j (0 : BitVec (64 : Nat)) + c)).set j ((List.set x j (List.getD x j (0 : BitVec (64 : Nat)) + c)).getD j (0 : BitVec (64 : Nat)) &&& BitVec.ofInt (64 : Nat) (67108863 : Int))) = Cont.a64 x1) ∧ (true = true ∧ Cont.a64 Z5 = Cont.a64 Z5) ∧ True else False else False else False else False else False else False else False else False else False else False else False else (0 : Nat) = (0 : Nat) ∧ SV.ptr (1 : Nat) (0 : Nat) = SV.ptr (1 : Nat) (0 : Nat) ∧ SV.ptr (2 : Nat) (0 : Nat) = SV.ptr (2 : Nat) (0 : Nat) ∧ SV.w64 c = SV.w64 cz ∧ (false = false ∧ Cont.ints MX = Cont.ints MX) ∧ (true = true ∧ Cont.a64 x = Cont.a64 z) ∧ (true = true ∧ Cont.a64 Z5 = Cont.a64 Z5) ∧ True) := by kernel_rfl
def M40 (x b : Ds) : Mm := [⟨false, .ints MX⟩, ⟨true, .a64 x⟩, ⟨true, .a64 b⟩, ⟨true, .a64 Z5⟩]
def i40 (j : Nat) : List (Nat × SV) := [(2, .ptr 1 0), (3, .ptr 2 0), (4, .ptr 3 0), (6, .i (j : Nat))]
def o40 : List (Nat × SV) := [(2, .ptr 1 0), (4, .ptr 3 0)]
def L40 (a b y : Ds) : LT := noL.add 0 (vLoop G 19 (i40 0) (M40 a b) o40 (M40 y b))
theorem va40 (a b y : Ds) (K : SV → Mm → Prop) : (vf Tryd.prog E0 (L40 a b y) 40 [.a64 a, .a64 b] G K) = (loopOf Tryd.prog (40 : Nat) (0 : Nat) = loopOf Tryd.prog (40 : Nat) (0 : Nat) ∧ SV.ptr (1 : Nat) (0 : Nat) = SV.ptr (1 : Nat) (0 : Nat) ∧ SV.ptr ((0 : Nat) + (1 : Nat) + (1 : Nat)) (0 : Nat) = SV.ptr (2 : Nat) (0 : Nat) ∧ SV.ptr ((0 : Nat) + (1 : Nat) + (1 : Nat) + (1 : Nat)) (0 : Nat) = SV.ptr (3 : Nat) (0 : Nat) ∧ SV.i (0 : Int) = SV.i (↑(0 : Nat) : Int) ∧ (false = false ∧ Cont.ints MX = Cont.ints MX) ∧ (true = true ∧ Cont.a64 a = Cont.a64 a) ∧ (true = true ∧ Cont.a64 b = Cont.a64 b) ∧ (true = true ∧ Cont.a64 (List.replicate (5 : Nat) (0 : BitVec (64 : Nat))) = Cont.a64 Z5) ∧ bif (List.length y).beq (5 : Nat) then bif (List.length y).beq (5 : Nat) && (List.length y).beq (5 : Nat) then bif (List.length y).beq (5 : Nat) && true then K (SV.a64 y) [{ rw := false, c := Cont.ints MX }, { rw := true, c := Cont.a64 y }, { rw := true, c := Cont.a64 b }, { rw := true, c := Cont.a64 y }] else False else False else False) := by kernel_rfl
theorem vr40 (x b x1 z : Ds) (j : Nat) (p : Prop) : (frK 19 (i40 j) fun fr => vround Tryd.prog E0 noL 40 0 fr (M40 x b) (Kn G 0 19 p (i40 (j + 1)) (M40 x1 b) o40 (M40 z b))) = (bif ilt (↑j : Int) (5 : Int) then bif inR (↑j : Int) (5 : Nat) then bif j.blt (List.length x) then bif inR (↑j : Int) (5 : Nat) then bif j.blt (List.length b) then bif inR (↑j : Int) (5 : Nat) then bif j.blt (List.length x) then bif inI ((↑j : Int) + (1 : Int)) then p ∧ SV.ptr (1 : Nat) (0 : Nat) = SV.ptr (1 : Nat) (0 : Nat) ∧ SV.ptr (2 : Nat) (0 : Nat) = SV.ptr (2 : Nat) (0 : Nat) ∧ SV.ptr (3 : Nat) (0 : Nat) = SV.ptr (3 : Nat) (0 : Nat) ∧ SV.i ((↑j : Int) + (1 : Int)) = SV.i (↑(j + (1 : Nat)) : Int) ∧ (false = false ∧ Cont.ints MX = Cont.ints MX) ∧ (true = true ∧ Cont.a64 (List.set x j (List.getD x j (0 : BitVec (64 : Nat)) + List.getD b j (0 : BitVec (64 : Nat)))) = Cont.a64 x1) ∧ (true = true ∧ Cont.a64 b = Cont.a64 b) ∧ (true = true ∧ Cont.a64 Z5 = Cont.a64 Z5) ∧ True else False else False else False else False else False else False else False else (0 : Nat) = (0 : Nat) ∧ SV.ptr (1 : Nat) (0 : Nat) = SV.ptr (1 : Nat) (0 : Nat) ∧ SV.ptr (3 : Nat) (0 : Nat) = SV.ptr (3 : Nat) (0 : Nat) ∧ (false = false ∧ Cont.ints MX = Cont.ints MX) ∧ (true = true ∧ Cont.a64 x = Cont.a64 z) ∧ (true = true ∧ Cont.a64 b = Cont.a64 b) ∧ (true = true ∧ Cont.a64 Z5 = Cont.a64 Z5) ∧ True) := by kernel_rfl
def cCrd (X : Ds → Ds) (Y : Ds → BitVec 64) : List SV → List Cont → Option (Bool × SV)
  | [.a64 l], _ => some (Nat.beq l.length 5, .tup [.a64 (X l), .w64 (Y l)])
  | _, _ => none
def cPls (X : Ds → Ds → Ds) : List SV → List Cont → Option (Bool × SV)
  | [.a64 a, .a64 b], _ => some (Nat.beq a.length 5 && Nat.beq b.length 5, .a64 (X a b))
  | _, _ => none
def cSet (X : Ds → Ds) : List SV → List Cont → Option (Bool × SV)
  | [.a64 l], _ => some (Nat.beq l.length 5, .a64 (X l))
  | _, _ => none
def F6 (X : Ds → Ds) (Y : Ds → BitVec 64) (A : Ds → Ds → Ds) : Env := ⟨G, (noT.add 48 (cCrd X Y)).add 40 (cPls A), noC⟩
def L51 (P : Program) (X : Ds → Ds) (Y : Ds → BitVec 64) (A : Ds → Ds → Ds) : LT := noL.add 0 (vUn P (F6 X Y A) noL 51 0 3)
theorem va51 (X : Ds → Ds) (Y : Ds → BitVec 64) (A : Ds → Ds → Ds) (l : Ds) (K : SV → Mm → Prop) : (vf Tryd.prog (F6 X Y A) (L51 Tryd.prog X Y A) 51 [.a64 l] G K) = (loopOf Tryd.prog (51 : Nat) (0 : Nat) = loopOf Tryd.prog (51 : Nat) (0 : Nat) ∧ bif (List.length l).beq (5 : Nat) then bif (List.length l).beq (5 : Nat) then bif (List.length (X l)).beq (5 : Nat) && (List.length (X l)).beq (5 : Nat) then bif Nat.blt (0 : Nat) (List.length (X l)) then bif Nat.blt (0 : Nat) (List.length (X l)) then bif (List.set (X l) (0 : Nat) (List.getD (X l) (0 : Nat) (0 : BitVec (64 : Nat)) + BitVec.ofInt (64 : Nat) (5 : Int) * Y l)).length.beq (5 : Nat) then bif (List.set (X l) (0 : Nat) (List.getD (X l) (0 : Nat) (0 : BitVec (64 : Nat)) + BitVec.ofInt (64 : Nat) (5 : Int) * Y l)).length.beq (List.length l) && (List.set (X l) (0 : Nat) (List.getD (X l) (0 : Nat) (0 : BitVec (64 : Nat)) + BitVec.ofInt (64 : Nat) (5 : Int) * Y l)).length.beq (5 : Nat) then bif (List.set (X l) (0 : Nat) (List.getD (X l) (0 : Nat) (0 : BitVec (64 : Nat)) + BitVec.ofInt (64 : Nat) (5 : Int) * Y l)).length.beq (5 : Nat) then bif (List.set (X l) (0 : Nat) (List.getD (X l) (0 : Nat) (0 : BitVec (64 : Nat)) + BitVec.ofInt (64 : Nat) (5 : Int) * Y l)).length.beq (5 : Nat) then bif (List.length (X (List.set (X l) (0 : Nat) (List.getD (X l) (0 : Nat) (0 : BitVec (64 : Nat)) + BitVec.ofInt (64 : Nat) (5 : Int) * Y l)))).beq (5 : Nat) && (List.length (X (List.set (X l) (0 : Nat) (List.getD (X l) (0 : Nat) (0 : BitVec (64 : Nat)) + BitVec.ofInt (64 : Nat) (5 : Int) * Y l)))).beq (5 : Nat) then bif Nat.blt (0 : Nat) (List.length (X (List.set (X l) (0 : Nat) (List.getD (X l) (0 : Nat) (0 : BitVec (64 : Nat)) + BitVec.ofInt (64 : Nat) (5 : Int) * Y l)))) then bif Nat.blt (0 : Nat) (List.length (X (List.set (X l) (0 : Nat) (List.getD (X l) (0 : Nat) (0 : BitVec (64 : Nat)) + BitVec.ofInt (64 : Nat) (5 : Int) * Y l)))) then bif (List.set (X (List.set (X l) (0 : Nat) (List.getD (X l) (0 : Nat) (0 : BitVec (64 : Nat)) + BitVec.ofInt (64 : Nat) (5 : Int) * Y l))) (0 : Nat) (List.getD (X (List.set (X l) (0 : Nat) (List.getD (X l) (0 : Nat) (0 : BitVec (64 : Nat)) + BitVec.ofInt (64 : Nat) (5 : Int) * Y l))) (0 : Nat) (0 : BitVec (64 : Nat)) + BitVec.ofInt (64 : Nat) (5 : Int) * Y (List.set (X l) (0 : Nat) (List.getD (X l) (0 : Nat) (0 : BitVec (64 : Nat)) + BitVec.ofInt (64 : Nat) (5 : Int) * Y l)))).length.beq (5 : Nat) then bif (List.set (X (List.set (X l) (0 : Nat) (List.getD (X l) (0 : Nat) (0 : BitVec (64 : Nat)) + BitVec.ofInt (64 : Nat) (5 : Int) * Y l))) (0 : Nat) (List.getD (X (List.set (X l) (0 : Nat) (List.getD (X l) (0 : Nat) (0 : BitVec (64 : Nat)) + BitVec.ofInt (64 : Nat) (5 : Int) * Y l))) (0 : Nat) (0 : BitVec (64 : Nat)) + BitVec.ofInt (64 : Nat) (5 : Int) * Y (List.set (X l) (0 : Nat) (List.getD (X l) (0 : Nat) (0 : BitVec (64 : Nat)) + BitVec.ofInt (64 : Nat) (5 : Int) * Y l)))).length.beq (List.set (X l) (0 : Nat) (List.getD (X l) (0 : Nat) (0 : BitVec (64 : Nat)) + BitVec.ofInt (64 : Nat) (5 : Int) * Y l)).length && (List.set (X (List.set (X l) (0 : Nat) (List.getD (X l) (0 : Nat) (0 : BitVec (64 : Nat)) + BitVec.ofInt (64 : Nat) (5 : Int) * Y l))) (0 : Nat) (List.getD (X (List.set (X l) (0 : Nat) (List.getD (X l) (0 : Nat) (0 : BitVec (64 : Nat)) + BitVec.ofInt (64 : Nat) (5 : Int) * Y l))) (0 : Nat) (0 : BitVec (64 : Nat)) + BitVec.ofInt (64 : Nat) (5 : Int) * Y (List.set (X l) (0 : Nat) (List.getD (X l) (0 : Nat) (0 : BitVec (64 : Nat)) + BitVec.ofInt (64 : Nat) (5 : Int) * Y l)))).length.beq (5 : Nat) then bif (List.set (X (List.set (X l) (0 : Nat) (List.getD (X l) (0 : Nat) (0 : BitVec (64 : Nat)) + BitVec.ofInt (64 : Nat) (5 : Int) * Y l))) (0 : Nat) (List.getD (X (List.set (X l) (0 : Nat) (List.getD (X l) (0 : Nat) (0 : BitVec (64 : Nat)) + BitVec.ofInt (64 : Nat) (5 : Int) * Y l))) (0 : Nat) (0 : BitVec (64 : Nat)) + BitVec.ofInt (64 : Nat) (5 : Int) * Y (List.set (X l) (0 : Nat) (List.getD (X l) (0 : Nat) (0 : BitVec (64 : Nat)) + BitVec.ofInt (64 : Nat) (5 : Int) * Y l)))).length.beq (5 : Nat) then bif (List.set (X (List.set (X l) (0 : Nat) (List.getD (X l) (0 : Nat) (0 : BitVec (64 : Nat)) + BitVec.ofInt (64 : Nat) (5 : Int) * Y l))) (0 : Nat) (List.getD (X (List.set (X l) (0 : Nat) (List.getD (X l) (0 : Nat) (0 : BitVec (64 : Nat)) + BitVec.ofInt (64 : Nat) (5 : Int) * Y l))) (0 : Nat) (0 : BitVec (64 : Nat)) + BitVec.ofInt (64 : Nat) (5 : Int) * Y (List.set (X l) (0 : Nat) (List.getD (X l) (0 : Nat) (0 : BitVec (64 : Nat)) + BitVec.ofInt (64 : Nat) (5 : Int) * Y l)))).length.beq (5 : Nat) && (List.set (X (List.set (X l) (0 : Nat) (List.getD (X l) (0 : Nat) (0 : BitVec (64 : Nat)) + BitVec.ofInt (64 : Nat) (5 : Int) * Y l))) (0 : Nat) (List.getD (X (List.set (X l) (0 : Nat) (List.getD (X l) (0 : Nat) (0 : BitVec (64 : Nat)) + BitVec.ofInt (64 : Nat) (5 : Int) * Y l))) (0 : Nat) (0 : BitVec (64 : Nat)) + BitVec.ofInt (64 : Nat) (5 : Int) * Y (List.set (X l) (0 : Nat) (List.getD (X l) (0 : Nat) (0 : BitVec (64 : Nat)) + BitVec.ofInt (64 : Nat) (5 : Int) * Y l)))).length.beq (5 : Nat) then bif (List.set (X (List.set (X l) (0 : Nat) (List.getD (X l) (0 : Nat) (0 : BitVec (64 : Nat)) + BitVec.ofInt (64 : Nat) (5 : Int) * Y l))) (0 : Nat) (List.getD (X (List.set (X l) (0 : Nat) (List.getD (X l) (0 : Nat) (0 : BitVec (64 : Nat)) + BitVec.ofInt (64 : Nat) (5 : Int) * Y l))) (0 : Nat) (0 : BitVec (64 : Nat)) + BitVec.ofInt (64 : Nat) (5 : Int) * Y (List.set (X l) (0 : Nat) (List.getD (X l) (0 : Nat) (0 : BitVec (64 : Nat)) + BitVec.ofInt (64 : Nat) (5 : Int) * Y l)))).length.beq (5 : Nat) && true then K (SV.a64 (List.set (X (List.set (X l) (0 : Nat) (List.getD (X l) (0 : Nat) (0 : BitVec (64 : Nat)) + BitVec.ofInt (64 : Nat) (5 : Int) * Y l))) (0 : Nat) (List.getD (X (List.set (X l) (0 : Nat) (List.getD (X l) (0 : Nat) (0 : BitVec (64 : Nat)) + BitVec.ofInt (64 : Nat) (5 : Int) * Y l))) (0 : Nat) (0 : BitVec (64 : Nat)) + BitVec.ofInt (64 : Nat) (5 : Int) * Y (List.set (X l) (0 : Nat) (List.getD (X l) (0 : Nat) (0 : BitVec (64 : Nat)) + BitVec.ofInt (64 : Nat) (5 : Int) * Y l))))) [{ rw := false, c := Cont.ints MX }, { rw := true, c := Cont.a64 (List.set (X (List.set (X l) (0 : Nat) (List.getD (X l) (0 : Nat) (0 : BitVec (64 : Nat)) + BitVec.ofInt (64 : Nat) (5 : Int) * Y l))) (0 : Nat) (List.getD (X (List.set (X l) (0 : Nat) (List.getD (X l) (0 : Nat) (0 : BitVec (64 : Nat)) + BitVec.ofInt (64 : Nat) (5 : Int) * Y l))) (0 : Nat) (0 : BitVec (64 : Nat)) + BitVec.ofInt (64 : Nat) (5 : Int) * Y (List.set (X l) (0 : Nat) (List.getD (X l) (0 : Nat) (0 : BitVec (64 : Nat)) + BitVec.ofInt (64 : Nat) (5 : Int) * Y l)))) }, { rw := true, c := Cont.a64 (List.set (X (List.set (X l) (0 : Nat) (List.getD (X l) (0 : Nat) (0 : BitVec (64 : Nat)) + BitVec.ofInt (64 : Nat) (5 : Int) * Y l))) (0 : Nat) (List.getD (X (List.set (X l) (0 : Nat) (List.getD (X l) (0 : Nat) (0 : BitVec (64 : Nat)) + BitVec.ofInt (64 : Nat) (5 : Int) * Y l))) (0 : Nat) (0 : BitVec (64 : Nat)) + BitVec.ofInt (64 : Nat) (5 : Int) * Y (List.set (X l) (0 : Nat) (List.getD (X l) (0 : Nat) (0 : BitVec (64 : Nat)) + BitVec.ofInt (64 : Nat) (5 : Int) * Y l)))) }, { rw := true, c := Cont.a64 (List.set (X l) (0 : Nat) (List.getD (X l) (0 : Nat) (0 : BitVec (64 : Nat)) + BitVec.ofInt (64 : Nat) (5 : Int) * Y l)) }, { rw := true, c := Cont.a64 (List.set (X (List.set (X l) (0 : Nat) (List.getD (X l) (0 : Nat) (0 : BitVec (64 : Nat)) + BitVec.ofInt (64 : Nat) (5 : Int) * Y l))) (0 : Nat) (List.getD (X (List.set (X l) (0 : Nat) (List.getD (X l) (0 : Nat) (0 : BitVec (64 : Nat)) + BitVec.ofInt (64 : Nat) (5 : Int) * Y l))) (0 : Nat) (0 : BitVec (64 : Nat)) + BitVec.ofInt (64 : Nat) (5 : Int) * Y (List.set (X l) (0 : Nat) (List.getD (X l) (0 : Nat) (0 : BitVec (64 : Nat)) + BitVec.ofInt (64 : Nat) (5 : Int) * Y l)))) }] else False else False else False else False else False else False else False else False else False else False else False else False else False else False else False else False else False) := by kernel_rfl
def M43 (x r : Ds) : Mm := [⟨false, .ints MX⟩, ⟨true, .a64 x⟩, ⟨true, .a64 Z5⟩, ⟨true, .a64 r⟩]
def i43 (c : BitVec 64) (j : Nat) : List (Nat × SV) := [(1, .ptr 1 0), (2, .ptr 2 0), (3, .ptr 3 0), (4, .w64 c), (13, .i (j : Nat))]
def o43 : List (Nat × SV) := [(1, .ptr 1 0), (2, .ptr 2 0)]
def L43 (l y r : Ds) (c : BitVec 64) : LT := noL.add 0 (vLoop G 33 (i43 c 0) (M43 l r) o43 (M43 y r))
theorem va43 (X : Ds → Ds) (Y : Ds → BitVec 64) (A : Ds → Ds → Ds) (l y r : Ds) (c : BitVec 64) (K : SV → Mm → Prop) : (vf Tryd.prog (F6 X Y A) (L43 l y r c) 43 [.a64 l] G K) = (bif (List.length l).beq (5 : Nat) then bif (List.length l).beq (5 : Nat) && true then bif (List.length (A l ([BitVec.ofInt (64 : Nat) (5 : Int)] ++ List.drop (1 : Nat) (List.replicate (5 : Nat) (0 : BitVec (64 : Nat)))))).beq (5 : Nat) then bif (List.length (X (A l ([BitVec.ofInt (64 : Nat) (5 : Int)] ++ List.drop (1 : Nat) (List.replicate (5 : Nat) (0 : BitVec (64 : Nat))))))).beq (5 : Nat) && (List.length (X (A l ([BitVec.ofInt (64 : Nat) (5 : Int)] ++ List.drop (1 : Nat) (List.replicate (5 : Nat) (0 : BitVec (64 : Nat))))))).beq (5 : Nat) then loopOf Tryd.prog (43 : Nat) (0 : Nat) = loopOf Tryd.prog (43 : Nat) (0 : Nat) ∧ SV.ptr (1 : Nat) (0 : Nat) = SV.ptr (1 : Nat) (0 : Nat) ∧ SV.ptr ((0 : Nat) + (1 : Nat) + (1 : Nat)) (0 : Nat) = SV.ptr (2 : Nat) (0 : Nat) ∧ SV.ptr ((0 : Nat) + (1 : Nat) + (1 : Nat) + (1 : Nat)) (0 : Nat) = SV.ptr (3 : Nat) (0 : Nat) ∧ SV.w64 (Y (A l ([BitVec.ofInt (64 : Nat) (5 : Int)] ++ List.drop (1 : Nat) (List.replicate (5 : Nat) (0 : BitVec (64 : Nat)))))) = SV.w64 c ∧ SV.i (0 : Int) = SV.i (↑(0 : Nat) : Int) ∧ (false = false ∧ Cont.ints MX = Cont.ints MX) ∧ (true = true ∧ Cont.a64 l = Cont.a64 l) ∧ (true = true ∧ Cont.a64 (List.replicate (5 : Nat) (0 : BitVec (64 : Nat))) = Cont.a64 Z5) ∧ (true = true ∧ Cont.a64 (X (A l ([BitVec.ofInt (64 : Nat) (5 : Int)] ++ List.drop (1 : Nat) (List.replicate (5 : Nat) (0 : BitVec (64 : Nat)))))) = Cont.a64 r) ∧ bif (List.length y).beq (5 : Nat) then bif (List.length y).beq (5 : Nat) && (List.length y).beq (5 : Nat) then bif (List.length y).beq (5 : Nat) && true then K (SV.a64 y) [{ rw := false, c := Cont.ints MX }, { rw := true, c := Cont.a64 y }, { rw := true, c := Cont.a64 y }, { rw := true, c := Cont.a64 r }] else False else False else False else False else False else False else False) := by kernel_rfl
theorem vr43 (X : Ds → Ds) (Y : Ds → BitVec 64) (A : Ds → Ds → Ds) (x x1 z r : Ds) (c : BitVec 64) (j : Nat) (p : Prop) : (frK 33 (i43 c j) fun fr => vround Tryd.prog (F6 X Y A) noL 43 0 fr (M43 x r) (Kn G 0 33 p (i43 c (j + 1)) (M43 x1 r) o43 (M43 z r))) = (bif ilt (↑j : Int) (5 : Int) then bif inR (↑j : Int) (5 : Nat) then bif j.blt (List.length x) then bif inR (↑j : Int) (5 : Nat) then bif j.blt (List.length x) then bif inR (↑j : Int) (5 : Nat) then bif j.blt (List.length r) then bif inR (↑j : Int) (5 : Nat) then bif j.blt (List.length x) then bif inI ((↑j : Int) + (1 : Int)) then p ∧ SV.ptr (1 : Nat) (0 : Nat) = SV.ptr (1 : Nat) (0 : Nat) ∧ SV.ptr (2 : Nat) (0 : Nat) = SV.ptr (2 : Nat) (0 : Nat) ∧ SV.ptr (3 : Nat) (0 : Nat) = SV.ptr (3 : Nat) (0 : Nat) ∧ SV.w64 c = SV.w64 c ∧ SV.i ((↑j : Int) + (1 : Int)) = SV.i (↑(j + (1 : Nat)) : Int) ∧ (false = false ∧ Cont.ints MX = Cont.ints MX) ∧ (true = true ∧ Cont.a64 (List.set x j (List.getD x j (0 : BitVec (64 : Nat)) ^^^ (List.getD x j (0 : BitVec (64 : Nat)) ^^^ List.getD r j (0 : BitVec (64 : Nat))) &&& -c)) = Cont.a64 x1) ∧ (true = true ∧ Cont.a64 Z5 = Cont.a64 Z5) ∧ (true = true ∧ Cont.a64 r = Cont.a64 r) ∧ True else False else False else False else False else False else False else False else False else False else (0 : Nat) = (0 : Nat) ∧ SV.ptr (1 : Nat) (0 : Nat) = SV.ptr (1 : Nat) (0 : Nat) ∧ SV.ptr (2 : Nat) (0 : Nat) = SV.ptr (2 : Nat) (0 : Nat) ∧ (false = false ∧ Cont.ints MX = Cont.ints MX) ∧ (true = true ∧ Cont.a64 x = Cont.a64 z) ∧ (true = true ∧ Cont.a64 Z5 = Cont.a64 Z5) ∧ (true = true ∧ Cont.a64 r = Cont.a64 r) ∧ True) := by kernel_rfl
def cs1 (x : Ds) (c : BitVec 64) (j : Nat) : Ds := x.set j (x.getD j 0 + c)
/-- The first digits carried, and what is carried out of them. -/
def cs (l : Ds) : Nat → Ds × BitVec 64
  | 0 => (l, BitVec.ofInt 64 0)
  | j + 1 => ((cs1 (cs l j).1 (cs l j).2 j).set j ((cs1 (cs l j).1 (cs l j).2 j).getD j 0 &&& BitVec.ofInt 64 67108863), (cs1 (cs l j).1 (cs l j).2 j).getD j 0 >>> 26)
theorem cs_len (l : Ds) : ∀ j, (cs l j).1.length = l.length
  | 0 => rfl
  | j + 1 => by rw [cs]; show (List.set _ _ _).length = _; rw [List.length_set, cs1, List.length_set, cs_len l j]
def crX (l : Ds) : Ds := (cs l 5).1
def crY (l : Ds) : BitVec 64 := (cs l 5).2
theorem crX_len (l : Ds) : (crX l).length = l.length := cs_len l 5
theorem ilt_fe {j n : Nat} (h : ilt (j : Int) (n : Int) = false) (h2 : j ≤ n) : j = n := by rw [ilt_eq] at h; have := of_decide_eq_false h; omega
theorem ilt_y {j n : Nat} (h : ilt (j : Int) (n : Int) = true) : j < n := by rw [ilt_eq] at h; have := of_decide_eq_true h; omega
theorem loop48 (l : Ds) (hl : l.length = 5) : LOk Tryd.prog G G 48 (L48 l (crX l) (crY l)) := by
  refine LT.add_ok (noL_ok _ _ _ _) (loop_next e0_ok mixed (noL_ok _ _ _ _) (Nat.le_refl _) (by kernel_rfl) (fun j => i48 (cs l j).2 j) (fun j => M48 (cs l j).1) (fun j => j ≤ 5) (fun j => 5 - j) (fun j => j + 1) 0 (Nat.zero_le _) (fun j hj => of_eq (vr48 (cs l j).1 (cs l (j + 1)).1 (crX l) (cs l j).2 (cs l (j + 1)).2 (crY l) j _) ?_))
  cases hq : ilt (j : Int) 5
  · obtain rfl := ilt_fe (n := 5) hq hj
    exact ⟨rfl, rfl, rfl, rfl, ⟨rfl, rfl⟩, ⟨rfl, rfl⟩, ⟨rfl, rfl⟩, trivial⟩
  · have hj2 := ilt_y (n := 5) hq
    have hx := (cs_len l j).trans hl
    have i5 : inI ((j : Int) + 1) = true := inI_iff.2 (by omega)
    simp only [List.length_set, hx, inR_nat hj2, blt_of hj2, i5, cond_true]
    exact ⟨⟨by omega, by omega⟩, by trivial, by trivial, rfl, rfl, ⟨by trivial, by trivial⟩, ⟨by trivial, rfl⟩, ⟨by trivial, by trivial⟩, trivial⟩
theorem carried_ok : POk Tryd.prog G 48 (cCrd crX crY) := by
  intro args acs r h β M w hR hw ha
  unfold cCrd at h
  split at h
  · rename_i l
    simp only [Option.some.injEq, Prod.mk.injEq] at h
    obtain ⟨hl, rfl⟩ := h
    have hl := Nat.eq_of_beq_eq_true hl
    refine pure0 (vf_ok e0_ok mixed (loop48 l hl) (of_eq (va48 l (crX l) (crY l) _) ?_)) rfl rfl hR
    rw [crX_len, hl]
    exact ⟨rfl, rfl, rfl, rfl, rfl, ⟨rfl, rfl⟩, ⟨rfl, rfl⟩, ⟨rfl, rfl⟩, rfl⟩
  · cases h
/-- The first digits added. -/
def pl (a b : Ds) : Nat → Ds
  | 0 => a
  | j + 1 => (pl a b j).set j ((pl a b j).getD j 0 + b.getD j 0)
theorem pl_len (a b : Ds) : ∀ j, (pl a b j).length = a.length
  | 0 => rfl
  | j + 1 => by rw [pl, List.length_set, pl_len a b j]
def pls (a b : Ds) : Ds := pl a b 5
theorem pls_len (a b : Ds) : (pls a b).length = a.length := pl_len a b 5
theorem loop40 (a b : Ds) (hl : a.length = 5) (hb : b.length = 5) : LOk Tryd.prog G G 40 (L40 a b (pls a b)) := by
  refine LT.add_ok (noL_ok _ _ _ _) (loop_next e0_ok mixed (noL_ok _ _ _ _) (Nat.le_refl _) (by kernel_rfl) i40 (fun j => M40 (pl a b j) b) (fun j => j ≤ 5) (fun j => 5 - j) (fun j => j + 1) 0 (Nat.zero_le _) (fun j hj => of_eq (vr40 (pl a b j) b (pl a b (j + 1)) (pls a b) j _) ?_))
  cases hq : ilt (j : Int) 5
  · obtain rfl := ilt_fe (n := 5) hq hj
    exact ⟨rfl, rfl, rfl, ⟨rfl, rfl⟩, ⟨rfl, rfl⟩, ⟨rfl, rfl⟩, ⟨rfl, rfl⟩, trivial⟩
  · have hj2 := ilt_y (n := 5) hq
    have hx := (pl_len a b j).trans hl
    have i5 : inI ((j : Int) + 1) = true := inI_iff.2 (by omega)
    simp only [hx, hb, inR_nat hj2, blt_of hj2, i5, cond_true]
    exact ⟨⟨by omega, by omega⟩, by trivial, by trivial, by trivial, rfl, ⟨by trivial, by trivial⟩, ⟨by trivial, rfl⟩, ⟨by trivial, by trivial⟩, ⟨by trivial, by trivial⟩, trivial⟩
theorem plus_ok : POk Tryd.prog G 40 (cPls pls) := by
  intro args acs r h β M w hR hw ha
  unfold cPls at h
  split at h
  · rename_i a b
    simp only [Option.some.injEq, Prod.mk.injEq, Bool.and_eq_true] at h
    obtain ⟨⟨hl, hb⟩, rfl⟩ := h
    have hl := Nat.eq_of_beq_eq_true hl
    have hb := Nat.eq_of_beq_eq_true hb
    refine pure0 (vf_ok e0_ok mixed (loop40 a b hl hb) (of_eq (va40 a b (pls a b) _) ?_)) rfl rfl hR
    rw [pls_len, hl]
    exact ⟨rfl, rfl, rfl, rfl, rfl, ⟨rfl, rfl⟩, ⟨rfl, rfl⟩, ⟨rfl, rfl⟩, ⟨rfl, rfl⟩, rfl⟩
  · cases h
theorem f6_ok : EnvOk Tryd.prog (F6 crX crY pls) := ⟨PT.add_ok (PT.add_ok (noT_ok _ _) carried_ok) plus_ok, noC_ok _ _⟩
/-- What is carried out of the highest digit comes in at the lowest, five times. -/
def fo (l : Ds) : Ds := (crX l).set 0 ((crX l).getD 0 0 + BitVec.ofInt 64 5 * crY l)
theorem fo_len (l : Ds) : (fo l).length = l.length := by unfold fo; rw [List.length_set, crX_len]
def stl (l : Ds) : Ds := fo (fo l)
theorem stl_len (l : Ds) : (stl l).length = l.length := by unfold stl; rw [fo_len, fo_len]
theorem settled_ok : POk Tryd.prog G 51 (cSet stl) := by
  intro args acs r h β M w hR hw ha
  unfold cSet at h
  split at h
  · rename_i l
    simp only [Option.some.injEq, Prod.mk.injEq] at h
    obtain ⟨hl, rfl⟩ := h
    have hl := Nat.eq_of_beq_eq_true hl
    refine pure0 (vf_ok f6_ok mixed (LT.un_ok f6_ok mixed (noL_ok _ _ _ _) (noL_ok _ _ _ _) (by kernel_rfl) 3) (of_eq (va51 crX crY pls l _) ?_)) rfl rfl hR
    have e5 : Nat.beq 5 5 = true := rfl
    have e0 : Nat.blt 0 5 = true := rfl
    simp only [List.length_set, crX_len, hl, e5, e0, Bool.and_self, cond_true]
    exact ⟨trivial, rfl⟩
  · cases h
/-- Digits, chosen by a mask. -/
def ch (a r : Ds) (c : BitVec 64) : Nat → Ds
  | 0 => a
  | j + 1 => (ch a r c j).set j ((ch a r c j).getD j 0 ^^^ ((ch a r c j).getD j 0 ^^^ r.getD j 0) &&& -c)
theorem ch_len (a r : Ds) (c : BitVec 64) : ∀ j, (ch a r c j).length = a.length
  | 0 => rfl
  | j + 1 => by rw [ch, List.length_set, ch_len a r c j]
def l5 (l : Ds) : Ds := pls l ([BitVec.ofInt 64 5] ++ List.drop 1 (List.replicate 5 (0 : BitVec 64)))
theorem l5_len (l : Ds) : (l5 l).length = l.length := pls_len _ _
def lst (l : Ds) : Ds := ch l (crX (l5 l)) (crY (l5 l)) 5
theorem lst_len (l : Ds) : (lst l).length = l.length := ch_len ..
theorem loop43 (a r : Ds) (c : BitVec 64) (hl : a.length = 5) (hr : r.length = 5) : LOk Tryd.prog G G 43 (L43 a (ch a r c 5) r c) := by
  refine LT.add_ok (noL_ok _ _ _ _) (loop_next f6_ok mixed (noL_ok _ _ _ _) (Nat.le_refl _) (by kernel_rfl) (i43 c) (fun j => M43 (ch a r c j) r) (fun j => j ≤ 5) (fun j => 5 - j) (fun j => j + 1) 0 (Nat.zero_le _) (fun j hj => of_eq (vr43 crX crY pls (ch a r c j) (ch a r c (j + 1)) (ch a r c 5) r c j _) ?_))
  cases hq : ilt (j : Int) 5
  · obtain rfl := ilt_fe (n := 5) hq hj
    exact ⟨rfl, rfl, rfl, ⟨rfl, rfl⟩, ⟨rfl, rfl⟩, ⟨rfl, rfl⟩, ⟨rfl, rfl⟩, trivial⟩
  · have hj2 := ilt_y (n := 5) hq
    have hx := (ch_len a r c j).trans hl
    have i5 : inI ((j : Int) + 1) = true := inI_iff.2 (by omega)
    simp only [hx, hr, inR_nat hj2, blt_of hj2, i5, cond_true]
    exact ⟨⟨by omega, by omega⟩, by trivial, by trivial, by trivial, by trivial, rfl, ⟨by trivial, by trivial⟩, ⟨by trivial, rfl⟩, ⟨by trivial, by trivial⟩, ⟨by trivial, by trivial⟩, trivial⟩
theorem least_ok : POk Tryd.prog G 43 (cSet lst) := by
  intro args acs r h β M w hR hw ha
  unfold cSet at h
  split at h
  · rename_i l
    simp only [Option.some.injEq, Prod.mk.injEq] at h
    obtain ⟨hl, rfl⟩ := h
    have hl := Nat.eq_of_beq_eq_true hl
    have h5 := (l5_len l).trans hl
    have hr := (crX_len (l5 l)).trans h5
    have hz := (ch_len l (crX (l5 l)) (crY (l5 l)) 5).trans hl
    refine pure0 (vf_ok f6_ok mixed (loop43 l (crX (l5 l)) (crY (l5 l)) hl hr) (of_eq (va43 crX crY pls l (ch l (crX (l5 l)) (crY (l5 l)) 5) (crX (l5 l)) (crY (l5 l)) _) ?_)) rfl rfl hR
    have e5 : Nat.beq 5 5 = true := rfl
    show bif _ then bif _ then bif Nat.beq (l5 l).length 5 then bif Nat.beq (crX (l5 l)).length 5 && Nat.beq (crX (l5 l)).length 5 then _ else _ else _ else _ else _
    rw [hr, h5, hl, hz]
    exact ⟨rfl, rfl, rfl, rfl, rfl, rfl, ⟨rfl, rfl⟩, ⟨rfl, rfl⟩, ⟨rfl, rfl⟩, ⟨rfl, rfl⟩, rfl⟩
  · cases h
end Go.Proofs.YtgjhkfafmmkimaaDoor
