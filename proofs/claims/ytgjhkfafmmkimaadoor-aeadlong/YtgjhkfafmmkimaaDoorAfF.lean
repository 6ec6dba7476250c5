/-
  aead: numbers in five digits: multiplied, read, written. No statement is proved here.
-/
import Derived.Test.YtgjhkfafmmkimaaDoorAfE
namespace Go.Proofs.YtgjhkfafmmkimaaDoor
open Go.RowKit
set_option linter.unusedVariables false
set_option linter.unusedSimpArgs false
set_option maxRecDepth 100000

def F7 (S : Ds → Ds) : Env := ⟨G, noT.add 51 (cSet S), noC⟩
theorem f7_ok : EnvOk Tryd.prog (F7 stl) := ⟨PT.add_ok (noT_ok _ _) settled_ok, noC_ok _ _⟩
def Mt5 (a b n : Ds) : Mm := [⟨false, .ints MX⟩, ⟨true, .a64 a⟩, ⟨true, .a64 b⟩, ⟨true, .a64 Z5⟩, ⟨true, .a64 n⟩]
def io5 (a : Ds) (j : Nat) : List (Nat × SV) := [(3, .ptr 2 0), (4, .ptr 3 0), (5, .ptr 4 0), (11, .a64 a), (12, .i (j : Nat))]
def oo5 : List (Nat × SV) := [(4, .ptr 3 0), (5, .ptr 4 0)]
def ii5 (a b : Ds) (j i : Nat) : List (Nat × SV) := [(3, .ptr 2 0), (4, .ptr 3 0), (5, .ptr 4 0), (11, .a64 a), (12, .i (j : Nat)), (6, .i (j : Nat)), (7, .w64 (a.getD j 0)), (16, .a64 b), (17, .i (i : Nat))]
def oi5 (a : Ds) (j : Nat) : List (Nat × SV) := [(3, .ptr 2 0), (4, .ptr 3 0), (5, .ptr 4 0), (11, .a64 a), (12, .i (j : Nat))]
def Li5 (j : Nat) (a b n n2 : Ds) : LT := noL.add 2 (vLoop G 48 (ii5 a b j 0) (Mt5 a b n) (oi5 a j) (Mt5 a b n2))
def Lo5 (a b n2 : Ds) : LT := noL.add 0 (vLoop G 48 (io5 a 0) (Mt5 a b Z5) oo5 (Mt5 a b n2))
theorem vaT5 (S : Ds → Ds) (a b n2 : Ds) (K : SV → Mm → Prop) : (vf Tryd.prog (F7 S) (Lo5 a b n2) 42 [.a64 a, .a64 b] G K) = (bif (List.length a).beq (5 : Nat) then loopOf Tryd.prog (42 : Nat) (0 : Nat) = loopOf Tryd.prog (42 : Nat) (0 : Nat) ∧ SV.ptr ((0 : Nat) + (1 : Nat) + (1 : Nat)) (0 : Nat) = SV.ptr (2 : Nat) (0 : Nat) ∧ SV.ptr ((0 : Nat) + (1 : Nat) + (1 : Nat) + (1 : Nat)) (0 : Nat) = SV.ptr (3 : Nat) (0 : Nat) ∧ SV.ptr ((0 : Nat) + (1 : Nat) + (1 : Nat) + (1 : Nat) + (1 : Nat)) (0 : Nat) = SV.ptr (4 : Nat) (0 : Nat) ∧ SV.a64 a = SV.a64 a ∧ SV.i (0 : Int) = SV.i (↑(0 : Nat) : Int) ∧ (false = false ∧ Cont.ints MX = Cont.ints MX) ∧ (true = true ∧ Cont.a64 a = Cont.a64 a) ∧ (true = true ∧ Cont.a64 b = Cont.a64 b) ∧ (true = true ∧ Cont.a64 (List.replicate (5 : Nat) (0 : BitVec (64 : Nat))) = Cont.a64 Z5) ∧ (true = true ∧ Cont.a64 (List.replicate (5 : Nat) (0 : BitVec (64 : Nat))) = Cont.a64 Z5) ∧ bif (List.length n2).beq (5 : Nat) then bif (List.length n2).beq (5 : Nat) then bif (List.length (S n2)).beq (5 : Nat) && (List.length (S n2)).beq (5 : Nat) then bif (List.length (S n2)).beq (5 : Nat) && true then K (SV.a64 (S n2)) [{ rw := false, c := Cont.ints MX }, { rw := true, c := Cont.a64 a }, { rw := true, c := Cont.a64 b }, { rw := true, c := Cont.a64 (S n2) }, { rw := true, c := Cont.a64 n2 }] else False else False else False else False else False) := by kernel_rfl
theorem vrT5o (S : Ds → Ds) (a b n n1 n2 n3 : Ds) (j jj : Nat) (p : Prop) : (frK 48 (io5 a j) fun fr => vround Tryd.prog (F7 S) (Li5 jj a b n n2) 42 0 fr (Mt5 a b n) (Kn G 0 48 p (io5 a (j + 1)) (Mt5 a b n1) oo5 (Mt5 a b n3))) = (bif ilt (↑j : Int) (5 : Int) then bif (List.length a).beq (5 : Nat) && inR (↑j : Int) (5 : Nat) then bif (List.length b).beq (5 : Nat) then loopOf Tryd.prog (42 : Nat) (2 : Nat) = loopOf Tryd.prog (42 : Nat) (2 : Nat) ∧ SV.ptr (2 : Nat) (0 : Nat) = SV.ptr (2 : Nat) (0 : Nat) ∧ SV.ptr (3 : Nat) (0 : Nat) = SV.ptr (3 : Nat) (0 : Nat) ∧ SV.ptr (4 : Nat) (0 : Nat) = SV.ptr (4 : Nat) (0 : Nat) ∧ SV.i (↑j : Int) = SV.i (↑jj : Int) ∧ SV.w64 (List.getD a j (0 : BitVec (64 : Nat))) = SV.w64 (List.getD a jj (0 : BitVec (64 : Nat))) ∧ SV.a64 a = SV.a64 a ∧ SV.i (↑j : Int) = SV.i (↑jj : Int) ∧ SV.a64 b = SV.a64 b ∧ SV.i (0 : Int) = SV.i (↑(0 : Nat) : Int) ∧ (false = false ∧ Cont.ints MX = Cont.ints MX) ∧ (true = true ∧ Cont.a64 a = Cont.a64 a) ∧ (true = true ∧ Cont.a64 b = Cont.a64 b) ∧ (true = true ∧ Cont.a64 Z5 = Cont.a64 Z5) ∧ (true = true ∧ Cont.a64 n = Cont.a64 n) ∧ bif inI ((↑jj : Int) + (1 : Int)) then p ∧ SV.ptr (2 : Nat) (0 : Nat) = SV.ptr (2 : Nat) (0 : Nat) ∧ SV.ptr (3 : Nat) (0 : Nat) = SV.ptr (3 : Nat) (0 : Nat) ∧ SV.ptr (4 : Nat) (0 : Nat) = SV.ptr (4 : Nat) (0 : Nat) ∧ SV.a64 a = SV.a64 a ∧ SV.i ((↑jj : Int) + (1 : Int)) = SV.i (↑(j + (1 : Nat)) : Int) ∧ (false = false ∧ Cont.ints MX = Cont.ints MX) ∧ (true = true ∧ Cont.a64 a = Cont.a64 a) ∧ (true = true ∧ Cont.a64 b = Cont.a64 b) ∧ (true = true ∧ Cont.a64 Z5 = Cont.a64 Z5) ∧ (true = true ∧ Cont.a64 n2 = Cont.a64 n1) ∧ True else False else False else False else (0 : Nat) = (0 : Nat) ∧ SV.ptr (3 : Nat) (0 : Nat) = SV.ptr (3 : Nat) (0 : Nat) ∧ SV.ptr (4 : Nat) (0 : Nat) = SV.ptr (4 : Nat) (0 : Nat) ∧ (false = false ∧ Cont.ints MX = Cont.ints MX) ∧ (true = true ∧ Cont.a64 a = Cont.a64 a) ∧ (true = true ∧ Cont.a64 b = Cont.a64 b) ∧ (true = true ∧ Cont.a64 Z5 = Cont.a64 Z5) ∧ (true = true ∧ Cont.a64 n = Cont.a64 n3) ∧ True) := by kernel_rfl
theorem vrT5i (S : Ds → Ds) (a b n n1 n2 : Ds) (j i : Nat) (p : Prop) : (frK 48 (ii5 a b j i) fun fr => vround Tryd.prog (F7 S) noL 42 2 fr (Mt5 a b n) (Kn G 2 48 p (ii5 a b j (i + 1)) (Mt5 a b n1) (oi5 a j) (Mt5 a b n2))) = (bif ilt (↑i : Int) (5 : Int) then bif (List.length b).beq (5 : Nat) && inR (↑i : Int) (5 : Nat) then bif inI ((↑j : Int) + (↑i : Int)) then bif ilt ((↑j : Int) + (↑i : Int)) (5 : Int) then bif inR ((↑j : Int) + (↑i : Int)) (5 : Nat) then bif ((↑j : Int) + (↑i : Int)).toNat.blt (List.length n) then bif inR ((↑j : Int) + (↑i : Int)) (5 : Nat) then bif ((↑j : Int) + (↑i : Int)).toNat.blt (List.length n) then bif inI ((↑i : Int) + (1 : Int)) then p ∧ SV.ptr (2 : Nat) (0 : Nat) = SV.ptr (2 : Nat) (0 : Nat) ∧ SV.ptr (3 : Nat) (0 : Nat) = SV.ptr (3 : Nat) (0 : Nat) ∧ SV.ptr (4 : Nat) (0 : Nat) = SV.ptr (4 : Nat) (0 : Nat) ∧ SV.i (↑j : Int) = SV.i (↑j : Int) ∧ SV.w64 (List.getD a j (0 : BitVec (64 : Nat))) = SV.w64 (List.getD a j (0 : BitVec (64 : Nat))) ∧ SV.a64 a = SV.a64 a ∧ SV.i (↑j : Int) = SV.i (↑j : Int) ∧ SV.a64 b = SV.a64 b ∧ SV.i ((↑i : Int) + (1 : Int)) = SV.i (↑(i + (1 : Nat)) : Int) ∧ (false = false ∧ Cont.ints MX = Cont.ints MX) ∧ (true = true ∧ Cont.a64 a = Cont.a64 a) ∧ (true = true ∧ Cont.a64 b = Cont.a64 b) ∧ (true = true ∧ Cont.a64 Z5 = Cont.a64 Z5) ∧ (true = true ∧ Cont.a64 (List.set n ((↑j : Int) + (↑i : Int)).toNat (List.getD n ((↑j : Int) + (↑i : Int)).toNat (0 : BitVec (64 : Nat)) + List.getD a j (0 : BitVec (64 : Nat)) * List.getD b i (0 : BitVec (64 : Nat)))) = Cont.a64 n1) ∧ True else False else False else False else False else False else bif inI ((↑j : Int) + (↑i : Int) - (5 : Int)) then bif inR ((↑j : Int) + (↑i : Int) - (5 : Int)) (5 : Nat) then bif ((↑j : Int) + (↑i : Int) - (5 : Int)).toNat.blt (List.length n) then bif inR ((↑j : Int) + (↑i : Int) - (5 : Int)) (5 : Nat) then bif ((↑j : Int) + (↑i : Int) - (5 : Int)).toNat.blt (List.length n) then bif inI ((↑i : Int) + (1 : Int)) then p ∧ SV.ptr (2 : Nat) (0 : Nat) = SV.ptr (2 : Nat) (0 : Nat) ∧ SV.ptr (3 : Nat) (0 : Nat) = SV.ptr (3 : Nat) (0 : Nat) ∧ SV.ptr (4 : Nat) (0 : Nat) = SV.ptr (4 : Nat) (0 : Nat) ∧ SV.i (↑j : Int) = SV.i (↑j : Int) ∧ SV.w64 (List.getD a j (0 : BitVec (64 : Nat))) = SV.w64 (List.getD a j (0 : BitVec (64 : Nat))) ∧ SV.a64 a = SV.a64 a ∧ SV.i (↑j : Int) = SV.i (↑j : Int) ∧ SV.a64 b = SV.a64 b ∧ SV.i ((↑i : Int) + (1 : Int)) = SV.i (↑(i + (1 : Nat)) : Int) ∧ (false = false ∧ Cont.ints MX = Cont.ints MX) ∧ (true = true ∧ Cont.a64 a = Cont.a64 a) ∧ (true = true ∧ Cont.a64 b = Cont.a64 b) ∧ (true = true ∧ Cont.a64 Z5 = Cont.a64 Z5) ∧ (true = true ∧ Cont.a64 (List.set n ((↑j : Int) + (↑i : Int) - (5 : Int)).toNat (List.getD n ((↑j : Int) + (↑i : Int) - (5 : Int)).toNat (0 : BitVec (64 : Nat)) + BitVec.ofInt (64 : Nat) (5 : Int) * List.getD a j (0 : BitVec (64 : Nat)) * List.getD b i (0 : BitVec (64 : Nat)))) = Cont.a64 n1) ∧ True else False else False else False else False else False else False else False else False else (2 : Nat) = (2 : Nat) ∧ SV.ptr (2 : Nat) (0 : Nat) = SV.ptr (2 : Nat) (0 : Nat) ∧ SV.ptr (3 : Nat) (0 : Nat) = SV.ptr (3 : Nat) (0 : Nat) ∧ SV.ptr (4 : Nat) (0 : Nat) = SV.ptr (4 : Nat) (0 : Nat) ∧ SV.a64 a = SV.a64 a ∧ SV.i (↑j : Int) = SV.i (↑j : Int) ∧ (false = false ∧ Cont.ints MX = Cont.ints MX) ∧ (true = true ∧ Cont.a64 a = Cont.a64 a) ∧ (true = true ∧ Cont.a64 b = Cont.a64 b) ∧ (true = true ∧ Cont.a64 Z5 = Cont.a64 Z5) ∧ (true = true ∧ Cont.a64 n = Cont.a64 n2) ∧ True) := by kernel_rfl
-- a number of bytes
def F8 (X : Ds → Ds) (Y : Ds → BitVec 64) : Env := ⟨G, noT.add 48 (cCrd X Y), noC⟩
theorem f8_ok : EnvOk Tryd.prog (F8 crX crY) := ⟨PT.add_ok (noT_ok _ _) carried_ok, noC_ok _ _⟩
def Br (l : Tx) : Mm := [⟨false, .ints MX⟩, ⟨false, .a8 l⟩]
def M37 (l : Tx) (x : Ds) : Mm := [⟨false, .ints MX⟩, ⟨false, .a8 l⟩, ⟨true, .a64 Z5⟩, ⟨true, .a64 x⟩]
def i37 (off len cap j : Nat) : List (Nat × SV) := [(2, .ptr 2 0), (3, .ptr 3 0), (6, .sl 1 off len cap), (7, .i (len : Nat)), (8, .i (j : Nat))]
def o37 : List (Nat × SV) := [(2, .ptr 2 0), (3, .ptr 3 0)]
def L37 (l : Tx) (off len cap : Nat) (y : Ds) : LT := noL.add 0 (vLoop (Br l) 33 (i37 off len cap 0) (M37 l Z5) o37 (M37 l y))
theorem va37 (X : Ds → Ds) (Y : Ds → BitVec 64) (l : Tx) (off len cap : Nat) (y : Ds) (K : SV → Mm → Prop) : (vf Tryd.prog (F8 X Y) (L37 l off len cap y) 37 [.sl 1 off len cap] (Br l) K) = (loopOf Tryd.prog (37 : Nat) (0 : Nat) = loopOf Tryd.prog (37 : Nat) (0 : Nat) ∧ SV.ptr (List.length (Br l)) (0 : Nat) = SV.ptr (2 : Nat) (0 : Nat) ∧ SV.ptr ((0 : Nat) + (1 : Nat) + (1 : Nat) + (1 : Nat)) (0 : Nat) = SV.ptr (3 : Nat) (0 : Nat) ∧ SV.sl (1 : Nat) off len cap = SV.sl (1 : Nat) off len cap ∧ SV.i (↑len : Int) = SV.i (↑len : Int) ∧ SV.i (0 : Int) = SV.i (↑(0 : Nat) : Int) ∧ (false = false ∧ Cont.ints MX = Cont.ints MX) ∧ (false = false ∧ Cont.a8 l = Cont.a8 l) ∧ (true = true ∧ Cont.a64 (List.replicate (5 : Nat) (0 : BitVec (64 : Nat))) = Cont.a64 Z5) ∧ (true = true ∧ Cont.a64 (List.replicate (5 : Nat) (0 : BitVec (64 : Nat))) = Cont.a64 Z5) ∧ bif (List.length y).beq (5 : Nat) then bif (List.length y).beq (5 : Nat) then bif (List.length (X y)).beq (List.length y) && (List.length (X y)).beq (5 : Nat) then bif (List.length (X y)).beq (5 : Nat) then bif (List.length (X y)).beq (5 : Nat) && (List.length (X y)).beq (5 : Nat) then bif (List.length (X y)).beq (5 : Nat) && true then K (SV.a64 (X y)) [{ rw := false, c := Cont.ints MX }, { rw := false, c := Cont.a8 l }, { rw := true, c := Cont.a64 (X y) }, { rw := true, c := Cont.a64 (X y) }] else False else False else False else False else False else False) := by kernel_rfl
theorem vr37 (X : Ds → Ds) (Y : Ds → BitVec 64) (l : Tx) (off len cap : Nat) (x x1 z : Ds) (j : Nat) (p : Prop) : (frK 33 (i37 off len cap j) fun fr => vround Tryd.prog (F8 X Y) noL 37 0 fr (M37 l x) (Kn (Br l) 0 33 p (i37 off len cap (j + 1)) (M37 l x1) o37 (M37 l z))) = (bif ilt (↑j : Int) (↑len : Int) then bif inR (↑j : Int) len then bif (j + off).blt (List.length l) then bif inI ((8 : Int) * (↑j : Int)) then bif inI ((8 : Int) * (↑j : Int)) then bif inR (((8 : Int) * (↑j : Int)).tdiv (26 : Int)) (5 : Nat) then bif (((8 : Int) * (↑j : Int)).tdiv (26 : Int)).toNat.blt (List.length x) then bif inI ((8 : Int) * (↑j : Int)) then bif inR (((8 : Int) * (↑j : Int)).tdiv (26 : Int)) (5 : Nat) then bif (((8 : Int) * (↑j : Int)).tdiv (26 : Int)).toNat.blt (List.length x) then bif inI ((↑j : Int) + (1 : Int)) then p ∧ SV.ptr (2 : Nat) (0 : Nat) = SV.ptr (2 : Nat) (0 : Nat) ∧ SV.ptr (3 : Nat) (0 : Nat) = SV.ptr (3 : Nat) (0 : Nat) ∧ SV.sl (1 : Nat) off len cap = SV.sl (1 : Nat) off len cap ∧ SV.i (↑len : Int) = SV.i (↑len : Int) ∧ SV.i ((↑j : Int) + (1 : Int)) = SV.i (↑(j + (1 : Nat)) : Int) ∧ (false = false ∧ Cont.ints MX = Cont.ints MX) ∧ (false = false ∧ Cont.a8 l = Cont.a8 l) ∧ (true = true ∧ Cont.a64 Z5 = Cont.a64 Z5) ∧ (true = true ∧ Cont.a64 (List.set x (((8 : Int) * (↑j : Int)).tdiv (26 : Int)).toNat (List.getD x (((8 : Int) * (↑j : Int)).tdiv (26 : Int)).toNat (0 : BitVec (64 : Nat)) + BitVec.setWidth (64 : Nat) (List.getD l (j + off) (0 : BitVec (8 : Nat))) <<< (((8 : Int) * (↑j : Int)).tmod (26 : Int)).toNat)) = Cont.a64 x1) ∧ True else False else False else False else False else False else False else False else False else False else False else (0 : Nat) = (0 : Nat) ∧ SV.ptr (2 : Nat) (0 : Nat) = SV.ptr (2 : Nat) (0 : Nat) ∧ SV.ptr (3 : Nat) (0 : Nat) = SV.ptr (3 : Nat) (0 : Nat) ∧ (false = false ∧ Cont.ints MX = Cont.ints MX) ∧ (false = false ∧ Cont.a8 l = Cont.a8 l) ∧ (true = true ∧ Cont.a64 Z5 = Cont.a64 Z5) ∧ (true = true ∧ Cont.a64 x = Cont.a64 z) ∧ True) := by kernel_rfl
def cRd5 (R : Tx → Ds) : List SV → List Cont → Option (Bool × SV)
  | [.sl k off len cap], [.a8 l] => some (Nat.ble (off + len) l.length && Nat.ble len 17, .a64 (R ((l.drop off).take len)))
  | _, _ => none
def F9 (R : Tx → Ds) : Env := ⟨G, noT.add 37 (cRd5 R), noC⟩
theorem va41 (R : Tx → Ds) (l : Tx) (off len cap : Nat) (K : SV → Mm → Prop) : (vf Tryd.prog (F9 R) noL 41 [.sl 1 off len cap] (Br l) K) = (bif decide (off + len ≤ List.length l) && true then bif inR (↑(min (List.take len (List.drop off l)).length (17 : Nat)) : Int) (17 : Nat) then bif (min (List.take len (List.drop off l)).length (17 : Nat)).blt (List.take (0 : Nat) (List.replicate (17 : Nat) (0 : BitVec (8 : Nat))) ++ List.take (17 : Nat) (List.take len (List.drop off l)) ++ List.drop ((0 : Nat) + min (List.take len (List.drop off l)).length (17 : Nat)) (List.replicate (17 : Nat) (0 : BitVec (8 : Nat)))).length then bif Nat.ble (17 : Nat) ((List.take (0 : Nat) (List.replicate (17 : Nat) (0 : BitVec (8 : Nat))) ++ List.take (17 : Nat) (List.take len (List.drop off l)) ++ List.drop ((0 : Nat) + min (List.take len (List.drop off l)).length (17 : Nat)) (List.replicate (17 : Nat) (0 : BitVec (8 : Nat)))).set (min (List.take len (List.drop off l)).length (17 : Nat)) (BitVec.ofInt (8 : Nat) (1 : Int))).length && true then bif (List.length (R (List.take (17 : Nat) (List.drop (0 : Nat) ((List.take (0 : Nat) (List.replicate (17 : Nat) (0 : BitVec (8 : Nat))) ++ List.take (17 : Nat) (List.take len (List.drop off l)) ++ List.drop ((0 : Nat) + min (List.take len (List.drop off l)).length (17 : Nat)) (List.replicate (17 : Nat) (0 : BitVec (8 : Nat)))).set (min (List.take len (List.drop off l)).length (17 : Nat)) (BitVec.ofInt (8 : Nat) (1 : Int))))))).beq (5 : Nat) && (List.length (R (List.take (17 : Nat) (List.drop (0 : Nat) ((List.take (0 : Nat) (List.replicate (17 : Nat) (0 : BitVec (8 : Nat))) ++ List.take (17 : Nat) (List.take len (List.drop off l)) ++ List.drop ((0 : Nat) + min (List.take len (List.drop off l)).length (17 : Nat)) (List.replicate (17 : Nat) (0 : BitVec (8 : Nat)))).set (min (List.take len (List.drop off l)).length (17 : Nat)) (BitVec.ofInt (8 : Nat) (1 : Int))))))).beq (5 : Nat) then bif (List.length (R (List.take (17 : Nat) (List.drop (0 : Nat) ((List.take (0 : Nat) (List.replicate (17 : Nat) (0 : BitVec (8 : Nat))) ++ List.take (17 : Nat) (List.take len (List.drop off l)) ++ List.drop ((0 : Nat) + min (List.take len (List.drop off l)).length (17 : Nat)) (List.replicate (17 : Nat) (0 : BitVec (8 : Nat)))).set (min (List.take len (List.drop off l)).length (17 : Nat)) (BitVec.ofInt (8 : Nat) (1 : Int))))))).beq (5 : Nat) && true then K (SV.a64 (R (List.take (17 : Nat) (List.drop (0 : Nat) ((List.take (0 : Nat) (List.replicate (17 : Nat) (0 : BitVec (8 : Nat))) ++ List.take (17 : Nat) (List.take len (List.drop off l)) ++ List.drop ((0 : Nat) + min (List.take len (List.drop off l)).length (17 : Nat)) (List.replicate (17 : Nat) (0 : BitVec (8 : Nat)))).set (min (List.take len (List.drop off l)).length (17 : Nat)) (BitVec.ofInt (8 : Nat) (1 : Int))))))) [{ rw := false, c := Cont.ints MX }, { rw := false, c := Cont.a8 l }, { rw := true, c := Cont.a64 (R (List.take (17 : Nat) (List.drop (0 : Nat) ((List.take (0 : Nat) (List.replicate (17 : Nat) (0 : BitVec (8 : Nat))) ++ List.take (17 : Nat) (List.take len (List.drop off l)) ++ List.drop ((0 : Nat) + min (List.take len (List.drop off l)).length (17 : Nat)) (List.replicate (17 : Nat) (0 : BitVec (8 : Nat)))).set (min (List.take len (List.drop off l)).length (17 : Nat)) (BitVec.ofInt (8 : Nat) (1 : Int)))))) }, { rw := true, c := Cont.a8 ((List.take (0 : Nat) (List.replicate (17 : Nat) (0 : BitVec (8 : Nat))) ++ List.take (17 : Nat) (List.take len (List.drop off l)) ++ List.drop ((0 : Nat) + min (List.take len (List.drop off l)).length (17 : Nat)) (List.replicate (17 : Nat) (0 : BitVec (8 : Nat)))).set (min (List.take len (List.drop off l)).length (17 : Nat)) (BitVec.ofInt (8 : Nat) (1 : Int))) }] else False else False else False else False else False else False) := by kernel_rfl
def F10 (X : Ds → Ds) (Y : Ds → BitVec 64) (lo : BitVec 64 → Nat → Tx) : Env := ⟨G, noT.add 48 (cCrd X Y), noC.add 36 (cPack lo)⟩
theorem va44 (X : Ds → Ds) (Y : Ds → BitVec 64) (lo : BitVec 64 → Nat → Tx) (l : Ds) (K : SV → Mm → Prop) : (vf Tryd.prog (F10 X Y lo) noL 44 [.a64 l] G K) = (bif (List.length l).beq (5 : Nat) then bif (List.length l).beq (5 : Nat) then bif (List.length (X l)).beq (List.length l) && (List.length (X l)).beq (5 : Nat) then bif Nat.blt (0 : Nat) (List.length (X l)) then bif Nat.blt (1 : Nat) (List.length (X l)) then bif Nat.blt (2 : Nat) (List.length (X l)) then bif Nat.blt (2 : Nat) (List.length (X l)) then bif Nat.blt (3 : Nat) (List.length (X l)) then bif Nat.blt (4 : Nat) (List.length (X l)) then ∀ (cap' : Nat) (rest : List (BitVec (8 : Nat))), (8 : Nat) + rest.length = cap' → bif decide ((8 : Nat) ≤ cap') && (decide (List.length (lo (List.getD (X l) (0 : Nat) (0 : BitVec (64 : Nat)) ||| List.getD (X l) (1 : Nat) (0 : BitVec (64 : Nat)) <<< (26 : Nat) ||| List.getD (X l) (2 : Nat) (0 : BitVec (64 : Nat)) <<< (52 : Nat)) (8 : Nat) ++ rest) = cap') && true) then ∀ (cap' : Nat) (rest_1 : List (BitVec (8 : Nat))), (16 : Nat) + rest_1.length = cap' → bif decide ((16 : Nat) ≤ (List.take (8 : Nat) (lo (List.getD (X l) (0 : Nat) (0 : BitVec (64 : Nat)) ||| List.getD (X l) (1 : Nat) (0 : BitVec (64 : Nat)) <<< (26 : Nat) ||| List.getD (X l) (2 : Nat) (0 : BitVec (64 : Nat)) <<< (52 : Nat)) (8 : Nat) ++ rest) ++ lo (List.getD (X l) (2 : Nat) (0 : BitVec (64 : Nat)) >>> (12 : Nat) ||| List.getD (X l) (3 : Nat) (0 : BitVec (64 : Nat)) <<< (14 : Nat) ||| List.getD (X l) (4 : Nat) (0 : BitVec (64 : Nat)) <<< (40 : Nat)) (8 : Nat) ++ rest_1).length) then K (SV.s (List.take (16 : Nat) (List.drop (0 : Nat) (List.take (8 : Nat) (lo (List.getD (X l) (0 : Nat) (0 : BitVec (64 : Nat)) ||| List.getD (X l) (1 : Nat) (0 : BitVec (64 : Nat)) <<< (26 : Nat) ||| List.getD (X l) (2 : Nat) (0 : BitVec (64 : Nat)) <<< (52 : Nat)) (8 : Nat) ++ rest) ++ lo (List.getD (X l) (2 : Nat) (0 : BitVec (64 : Nat)) >>> (12 : Nat) ||| List.getD (X l) (3 : Nat) (0 : BitVec (64 : Nat)) <<< (14 : Nat) ||| List.getD (X l) (4 : Nat) (0 : BitVec (64 : Nat)) <<< (40 : Nat)) (8 : Nat) ++ rest_1)))) [{ rw := false, c := Cont.ints MX }, { rw := true, c := Cont.a64 (X l) }, { rw := true, c := Cont.gone }, { rw := true, c := Cont.a8 (List.take (8 : Nat) (lo (List.getD (X l) (0 : Nat) (0 : BitVec (64 : Nat)) ||| List.getD (X l) (1 : Nat) (0 : BitVec (64 : Nat)) <<< (26 : Nat) ||| List.getD (X l) (2 : Nat) (0 : BitVec (64 : Nat)) <<< (52 : Nat)) (8 : Nat) ++ rest) ++ lo (List.getD (X l) (2 : Nat) (0 : BitVec (64 : Nat)) >>> (12 : Nat) ||| List.getD (X l) (3 : Nat) (0 : BitVec (64 : Nat)) <<< (14 : Nat) ||| List.getD (X l) (4 : Nat) (0 : BitVec (64 : Nat)) <<< (40 : Nat)) (8 : Nat) ++ rest_1) }] else False else False else False else False else False else False else False else False else False else False else False) := by kernel_rfl
theorem va49 (l : Tx) (off len cap : Nat) (K : SV → Mm → Prop) : (vf Tryd.prog E0 noL 49 [.sl 1 off len cap] (Br l) K) = (bif decide (off + len ≤ List.length l) && true && true && true && decide ((0 : Nat) + (List.take len (List.drop off l)).length ≤ (1099511627776 : Nat)) && true then ∀ (cap' : Nat) (rest : List (BitVec (8 : Nat))), (0 : Nat) + (List.take len (List.drop off l)).length + rest.length = cap' → K (SV.sl ((0 : Nat) + (1 : Nat) + (1 : Nat) + (1 : Nat)) (0 : Nat) ((0 : Nat) + (List.take len (List.drop off l)).length) cap') [{ rw := false, c := Cont.ints MX }, { rw := false, c := Cont.a8 l }, { rw := true, c := Cont.gone }, { rw := true, c := Cont.a8 (List.take (0 : Nat) [] ++ List.take len (List.drop off l) ++ rest) }] else False) := by kernel_rfl
def stepP (a b : Ds) (j i : Nat) (n : Ds) : Ds := if j + i < 5 then n.set (j + i) (n.getD (j + i) 0 + a.getD j 0 * b.getD i 0) else n.set (j + i - 5) (n.getD (j + i - 5) 0 + BitVec.ofInt 64 5 * a.getD j 0 * b.getD i 0)
def tinP (a b : Ds) (j : Nat) (n : Ds) : Nat → Ds
  | 0 => n
  | i + 1 => stepP a b j i (tinP a b j n i)
def touP (a b : Ds) : Nat → Ds
  | 0 => Z5
  | j + 1 => tinP a b j (touP a b j) 5
theorem stepP_len (a b : Ds) (j i : Nat) (n : Ds) : (stepP a b j i n).length = n.length := by
  unfold stepP; split <;> exact List.length_set ..
theorem tinP_len (a b : Ds) (j : Nat) (n : Ds) : ∀ i, (tinP a b j n i).length = n.length
  | 0 => rfl
  | i + 1 => by rw [tinP, stepP_len, tinP_len a b j n i]
theorem touP_len (a b : Ds) : ∀ j, (touP a b j).length = 5
  | 0 => rfl
  | j + 1 => by rw [touP, tinP_len, touP_len a b j]
theorem loopT5i (j : Nat) (hj : j < 5) (a b n : Ds) (ha : a.length = 5) (hb : b.length = 5) (hn : n.length = 5) : ∀ fr M K, vLoop G 48 (ii5 a b j 0) (Mt5 a b n) (oi5 a j) (Mt5 a b (tinP a b j n 5)) fr M K → Wp Tryd.prog G G (loopOf Tryd.prog 42 2) fr M K := by
  refine loop_next f7_ok mixed (noL_ok _ _ _ _) (Nat.le_refl _) (by kernel_rfl) (fun i => ii5 a b j i) (fun i => Mt5 a b (tinP a b j n i)) (fun i => i ≤ 5) (fun i => 5 - i) (fun i => i + 1) 0 (Nat.zero_le _) (fun i hi => of_eq (vrT5i stl a b (tinP a b j n i) (tinP a b j n (i + 1)) (tinP a b j n 5) j i _) ?_)
  rw [tinP_len, hb, hn]
  cases hq : ilt (i : Int) 5
  · obtain rfl := ilt_fe (n := 5) hq hi
    exact ⟨rfl, rfl, rfl, rfl, rfl, rfl, ⟨rfl, rfl⟩, ⟨rfl, rfl⟩, ⟨rfl, rfl⟩, ⟨rfl, rfl⟩, ⟨rfl, rfl⟩, trivial⟩
  · have hj2 := ilt_y (n := 5) hq
    have iw : inI ((j : Int) + (i : Int)) = true := inI_iff.2 (by omega)
    have i1 : inI ((i : Int) + 1) = true := inI_iff.2 (by omega)
    refine bif_of (by rw [inR_nat hj2]; rfl) (bif_of iw ?_)
    have hnext : tinP a b j n (i + 1) = stepP a b j i (tinP a b j n i) := rfl
    rw [hnext]
    unfold stepP
    cases hw : ilt ((j : Int) + (i : Int)) 5
    · have hw2 : ¬ j + i < 5 := by rw [ilt_eq] at hw; have := of_decide_eq_false hw; omega
      rw [if_neg hw2]
      have e : ((j : Int) + (i : Int) - 5) = ((j + i - 5 : Nat) : Int) := by omega
      have k1 : j + i - 5 < 5 := by omega
      have iv : inI ((j + i - 5 : Nat) : Int) = true := inI_iff.2 (by omega)
      rw [e, Int.toNat_natCast]
      exact bif_of iv (bif_of (inR_nat k1) (bif_of (blt_of k1) (bif_of (inR_nat k1) (bif_of (blt_of k1) (bif_of i1 ⟨⟨by omega, by omega⟩, rfl, rfl, rfl, rfl, rfl, rfl, rfl, rfl, rfl, ⟨rfl, rfl⟩, ⟨rfl, rfl⟩, ⟨rfl, rfl⟩, ⟨rfl, rfl⟩, ⟨rfl, rfl⟩, trivial⟩)))))
    · have hw2 : j + i < 5 := by rw [ilt_eq] at hw; have := of_decide_eq_true hw; omega
      rw [if_pos hw2]
      have e : ((j : Int) + (i : Int)) = ((j + i : Nat) : Int) := by omega
      rw [e, Int.toNat_natCast]
      exact bif_of (inR_nat hw2) (bif_of (blt_of hw2) (bif_of (inR_nat hw2) (bif_of (blt_of hw2) (bif_of i1 ⟨⟨by omega, by omega⟩, rfl, rfl, rfl, rfl, rfl, rfl, rfl, rfl, rfl, ⟨rfl, rfl⟩, ⟨rfl, rfl⟩, ⟨rfl, rfl⟩, ⟨rfl, rfl⟩, ⟨rfl, rfl⟩, trivial⟩))))
theorem loopT5o (a b : Ds) (ha : a.length = 5) (hb : b.length = 5) : ∀ fr M K, vLoop G 48 (io5 a 0) (Mt5 a b Z5) oo5 (Mt5 a b (touP a b 5)) fr M K → Wp Tryd.prog G G (loopOf Tryd.prog 42 0) fr M K := by
  refine loop_nextL f7_ok mixed (Nat.le_refl _) (by kernel_rfl) (L := fun j => Li5 (min j 4) a b (touP a b j) (tinP a b (min j 4) (touP a b j) 5)) (fun j => LT.add_ok (noL_ok _ _ _ _) (loopT5i (min j 4) (by omega) a b (touP a b j) ha hb (touP_len a b j))) (io5 a) (fun j => Mt5 a b (touP a b j)) (fun j => j ≤ 5) (fun j => 5 - j) (fun j => j + 1) 0 (Nat.zero_le _) (fun j hj => of_eq (vrT5o stl a b (touP a b j) (touP a b (j + 1)) (tinP a b (min j 4) (touP a b j) 5) (touP a b 5) j (min j 4) _) ?_)
  cases hq : ilt (j : Int) 5
  · obtain rfl := ilt_fe (n := 5) hq hj
    exact ⟨rfl, rfl, rfl, ⟨rfl, rfl⟩, ⟨rfl, rfl⟩, ⟨rfl, rfl⟩, ⟨rfl, rfl⟩, ⟨rfl, rfl⟩, trivial⟩
  · have hj2 := ilt_y (n := 5) hq
    have em : min j 4 = j := Nat.min_eq_left (by omega)
    rw [em, ha, hb]
    exact bif_of (by rw [inR_nat hj2]; rfl) ⟨rfl, rfl, rfl, rfl, rfl, rfl, rfl, rfl, rfl, rfl, ⟨rfl, rfl⟩, ⟨rfl, rfl⟩, ⟨rfl, rfl⟩, ⟨rfl, rfl⟩, ⟨rfl, rfl⟩, bif_of (inI_iff.2 (by omega)) ⟨⟨by omega, by omega⟩, rfl, rfl, rfl, rfl, rfl, ⟨rfl, rfl⟩, ⟨rfl, rfl⟩, ⟨rfl, rfl⟩, ⟨rfl, rfl⟩, ⟨rfl, rfl⟩, trivial⟩⟩
def tms (a b : Ds) : Ds := stl (touP a b 5)
theorem tms_len (a b : Ds) : (tms a b).length = 5 := (stl_len _).trans (touP_len a b 5)
theorem timesP_ok : POk Tryd.prog G 42 (cPls tms) := by
  intro args acs r h β M w hR hw ha
  unfold cPls at h
  split at h
  · rename_i a b
    simp only [Option.some.injEq, Prod.mk.injEq, Bool.and_eq_true] at h
    obtain ⟨⟨h1, h2⟩, rfl⟩ := h
    have h1 := Nat.eq_of_beq_eq_true h1
    have h2 := Nat.eq_of_beq_eq_true h2
    have hm := touP_len a b 5
    have hm2 := tms_len a b
    refine pure0 (vf_ok f7_ok mixed (LT.add_ok (noL_ok _ _ _ _) (loopT5o a b h1 h2)) (of_eq (vaT5 stl a b (touP a b 5) _) ?_)) rfl rfl hR
    rw [show (stl (touP a b 5)).length = 5 from hm2, hm, h1]
    exact ⟨rfl, rfl, rfl, rfl, rfl, rfl, ⟨rfl, rfl⟩, ⟨rfl, rfl⟩, ⟨rfl, rfl⟩, ⟨rfl, rfl⟩, ⟨rfl, rfl⟩, rfl⟩
  · cases h
/-- The digits that bytes are, not carried. -/
def rpS (s : Tx) : Nat → Ds
  | 0 => Z5
  | j + 1 => (rpS s j).set (8 * j / 26) ((rpS s j).getD (8 * j / 26) 0 + (s.getD j 0).setWidth 64 <<< (8 * j % 26))
theorem rpS_len (s : Tx) : ∀ j, (rpS s j).length = 5
  | 0 => rfl
  | j + 1 => by rw [rpS, List.length_set, rpS_len s j]
theorem loop37 (l : Tx) (off len cap : Nat) (h1 : off + len ≤ l.length) (h2 : len ≤ 17) : LOk Tryd.prog G (Br l) 37 (L37 l off len cap (rpS ((l.drop off).take len) len)) := by
  refine LT.add_ok (noL_ok _ _ _ _) (loop_next f8_ok mixed (noL_ok _ _ _ _) (by show 1 ≤ 2; decide) (by kernel_rfl) (i37 off len cap) (fun j => M37 l (rpS ((l.drop off).take len) j)) (fun j => j ≤ len) (fun j => len - j) (fun j => j + 1) 0 (Nat.zero_le _) (fun j hj => of_eq (vr37 crX crY l off len cap (rpS ((l.drop off).take len) j) (rpS ((l.drop off).take len) (j + 1)) (rpS ((l.drop off).take len) len) j _) ?_))
  rw [rpS_len]
  cases hq : ilt (j : Int) (len : Int)
  · obtain rfl := ilt_fe hq hj
    exact ⟨rfl, rfl, rfl, ⟨rfl, rfl⟩, ⟨rfl, rfl⟩, ⟨rfl, rfl⟩, ⟨rfl, rfl⟩, trivial⟩
  · have hj2 := ilt_y hq
    have e0 : (8 * (j : Int)) = ((8 * j : Nat) : Int) := by omega
    have e2 : (8 * (j : Int)).tdiv 26 = ((8 * j / 26 : Nat) : Int) := by rw [e0]; exact tdiv_cast (8 * j) 26
    have e3 : (8 * (j : Int)).tmod 26 = ((8 * j % 26 : Nat) : Int) := by rw [e0]; exact tmod_cast (8 * j) 26
    have hk : 8 * j / 26 < 5 := by omega
    have i8 : inI (8 * (j : Int)) = true := inI_iff.2 (by omega)
    have eg : ((l.drop off).take len).getD j 0 = l.getD (j + off) 0 := by rw [getD_take' _ _ _ _ hj2, getD_drop']
    rw [e2, e3, Int.toNat_natCast, Int.toNat_natCast, ← eg]
    refine bif_of (inR_nat hj2) (bif_of (blt_of (by omega)) (bif_of i8 (bif_of i8 (bif_of (inR_nat hk) (bif_of (blt_of hk) (bif_of i8 (bif_of (inR_nat hk) (bif_of (blt_of hk) (bif_of (inI_iff.2 (by omega)) ?_)))))))))
    exact ⟨⟨by omega, by omega⟩, rfl, rfl, rfl, rfl, rfl, ⟨rfl, rfl⟩, ⟨rfl, rfl⟩, ⟨rfl, rfl⟩, ⟨rfl, rfl⟩, trivial⟩
/-- The number that bytes are. -/
def rdn (s : Tx) : Ds := crX (rpS s s.length)
theorem rdn_len (s : Tx) : (rdn s).length = 5 := (crX_len _).trans (rpS_len _ _)
theorem readP_ok : POk Tryd.prog G 37 (cRd5 rdn) := by
  intro args acs r h β M w hR hw ha
  unfold cRd5 at h
  split at h
  · rename_i k off len cap l
    simp only [Option.some.injEq, Prod.mk.injEq, Bool.and_eq_true] at h
    obtain ⟨⟨h1, h2⟩, rfl⟩ := h
    have h1 := Nat.le_of_ble_eq_true h1
    have h2 := Nat.le_of_ble_eq_true h2
    simp only [List.map_cons, List.map_nil, List.cons.injEq, and_true] at ha
    have hlen : ((l.drop off).take len).length = len := by rw [List.length_take, List.length_drop]; omega
    have hm := rpS_len ((l.drop off).take len) len
    have hm2 := (crX_len _).trans hm
    refine pure1 (args0 := [.sl 1 off len cap]) (c := .a8 l) (k := k) (vf_ok (M := Br l) f8_ok mixed (loop37 l off len cap h1 h2) (of_eq (va37 crX crY l off len cap _ _) ?_)) rfl rfl rfl rfl rfl (fun _ => rfl) hR (tgt_some ha.symm rfl)
    rw [hm2, hm]
    refine ⟨rfl, rfl, rfl, rfl, rfl, rfl, ⟨rfl, rfl⟩, ⟨rfl, rfl⟩, ⟨rfl, rfl⟩, ⟨rfl, rfl⟩, ?_⟩
    show SV.a64 (crX (rpS ((l.drop off).take len) len)) = .a64 (rdn ((l.drop off).take len))
    unfold rdn
    rw [hlen]
  · cases h
theorem f9_ok : EnvOk Tryd.prog (F9 rdn) := ⟨PT.add_ok (noT_ok _ _) readP_ok, noC_ok _ _⟩
/-- A part of a text, and a byte 1 behind it. -/
def enB (p : Tx) : Tx := p ++ [1] ++ List.replicate (16 - p.length) 0
def enD (p : Tx) : Ds := rdn (enB p)
def cEnd5 (R : Tx → Ds) : List SV → List Cont → Option (Bool × SV)
  | [.sl k off len cap], [.a8 l] => some (Nat.ble (off + len) l.length && Nat.ble len 16, .a64 (R ((l.drop off).take len)))
  | _, _ => none
theorem en_eq (p : Tx) (h : p.length ≤ 16) : List.take 17 (List.drop 0 ((List.take 0 (List.replicate 17 (0 : BitVec 8)) ++ List.take 17 p ++ List.drop (0 + min p.length 17) (List.replicate 17 (0 : BitVec 8))).set (min p.length 17) (BitVec.ofInt 8 1))) = enB p := by
  have e1 : min p.length 17 = p.length := Nat.min_eq_left (by omega)
  have e2 : p.take 17 = p := List.take_of_length_le (by omega)
  rw [e1, e2, List.take_zero, List.nil_append, Nat.zero_add, List.drop_replicate, List.drop_zero]
  have e3 : 17 - p.length = (16 - p.length) + 1 := by omega
  rw [e3, List.replicate_succ, List.set_append_right _ _ (Nat.le_refl _), Nat.sub_self, List.set_cons_zero]
  rw [List.take_of_length_le (by simp; omega)]
  unfold enB
  rw [List.append_assoc]
  rfl
theorem ended_ok : POk Tryd.prog G 41 (cEnd5 enD) := by
  intro args acs r h β M w hR hw ha
  unfold cEnd5 at h
  split at h
  · rename_i k off len cap l
    simp only [Option.some.injEq, Prod.mk.injEq, Bool.and_eq_true] at h
    obtain ⟨⟨h1, h2⟩, rfl⟩ := h
    have h1 := Nat.le_of_ble_eq_true h1
    have h2 := Nat.le_of_ble_eq_true h2
    simp only [List.map_cons, List.map_nil, List.cons.injEq, and_true] at ha
    refine pure1 (args0 := [.sl 1 off len cap]) (c := .a8 l) (k := k) (vf_ok (M := Br l) f9_ok mixed (noL_ok _ _ _ _) (of_eq (va41 rdn l off len cap _) ?_)) rfl rfl rfl rfl rfl (fun _ => rfl) hR (tgt_some ha.symm rfl)
    have hlen : ((l.drop off).take len).length = len := by rw [List.length_take, List.length_drop]; omega
    generalize hp : (l.drop off).take len = p at hlen
    rw [en_eq p (by omega)]
    have e1 : min p.length 17 = p.length := Nat.min_eq_left (by omega)
    rw [rdn_len, e1]
    refine bif_of (by rw [decide_eq_true h1]; rfl) (bif_of (inR_nat (by omega)) (bif_of (blt_of (by simp; omega)) (bif_of ?_ (bif_of rfl (bif_of rfl rfl)))))
    rw [Nat.ble_eq_true_of_le (by simp; omega)]; rfl
  · cases h
theorem f10_ok : EnvOk Tryd.prog (F10 crX crY lo) := ⟨PT.add_ok (noT_ok _ _) carried_ok, CT.add_ok (noC_ok _ _) pack_ok⟩
/-- The lowest 16 bytes of a number. -/
def wrD (l : Ds) : Tx := lo ((crX l).getD 0 0 ||| (crX l).getD 1 0 <<< 26 ||| (crX l).getD 2 0 <<< 52) 8 ++ lo ((crX l).getD 2 0 >>> 12 ||| (crX l).getD 3 0 <<< 14 ||| (crX l).getD 4 0 <<< 40) 8
def cWr (W : Ds → Tx) : List SV → List Cont → Option (Bool × SV)
  | [.a64 l], _ => some (Nat.beq l.length 5, .s (W l))
  | _, _ => none
theorem write_ok : POk Tryd.prog G 44 (cWr wrD) := by
  intro args acs r h β M w hR hw ha
  unfold cWr at h
  split at h
  · rename_i l
    simp only [Option.some.injEq, Prod.mk.injEq] at h
    obtain ⟨hl, rfl⟩ := h
    have hl := Nat.eq_of_beq_eq_true hl
    have hx := (crX_len l).trans hl
    refine pure0 (vf_ok f10_ok mixed (noL_ok _ _ _ _) (of_eq (va44 crX crY lo l _) ?_)) rfl rfl hR
    rw [hx, hl]
    intro cap' rest hc
    have hlo : ∀ x, (lo x 8).length = 8 := fun x => lo_len x 8
    refine bif_of ?_ fun cap2 rest2 hc2 => bif_of ?_ ?_
    · rw [List.length_append, hlo, decide_eq_true (show 8 ≤ cap' by omega), decide_eq_true hc]; rfl
    · refine decide_eq_true ?_
      rw [take_left' _ _ _ (hlo _), List.length_append, List.length_append, hlo, hlo]; omega
    · rw [take_left' _ _ _ (hlo _), List.drop_zero, take_left' _ _ _ (by rw [List.length_append, hlo, hlo])]
      rfl
  · cases h
end Go.Proofs.YtgjhkfafmmkimaaDoor
