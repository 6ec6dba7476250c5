/-
  sha: the words behind one more block, as the program reckons them. No statement is proved here.
-/
import Derived.Test.YtdfghknonbmadaaGreatDoorMaH
import Derived.Test.YtdfghknonbmadaaGreatDoorEwD
namespace Go.Proofs.YtdfghknonbmadaaGreatDoor
namespace Sh
open Go.RowKit
set_option linter.unusedVariables false
set_option linter.unusedSimpArgs false
set_option maxRecDepth 100000
def w16 (b : List (BitVec 8)) : List (BitVec 64) := (List.range 16).map fun k => be ((b.drop (8 * k)).take 8)
def ext64 : Nat → List (BitVec 64) → List (BitVec 64)
 | 0, l => l
 | n + 1, l => ext64 n l ++ [nw (ext64 n l) (ext64 n l).length]
structure S8 where
 a : BitVec 64
 b : BitVec 64
 c : BitVec 64
 d : BitVec 64
 e : BitVec 64
 f : BitVec 64
 g : BitVec 64
 h : BitVec 64
def S8.l (s : S8) : List (BitVec 64) := [s.a, s.b, s.c, s.d, s.e, s.f, s.g, s.h]
def us (k w : BitVec 64) (s : S8) : BitVec 64 := s.h + tw s.e [14, 18, 41] + (s.e &&& s.f ^^^ ~~~s.e &&& s.g) + k + w
def vs (s : S8) : BitVec 64 := tw s.a [28, 34, 39] + (s.a &&& s.b ^^^ s.a &&& s.c ^^^ s.b &&& s.c)
def rnd (k w : BitVec 64) (s : S8) : S8 := ⟨us k w s + vs s, s.a, s.b, s.c, s.d + us k w s, s.e, s.f, s.g⟩
def rounds (W : List (BitVec 64)) (s : S8) : Nat → S8
 | 0 => s
 | n + 1 => rnd (K80.getD n 0) (W.getD n 0) (rounds W s n)
def addS (s t : S8) : S8 := ⟨s.a + t.a, s.b + t.b, s.c + t.c, s.d + t.d, s.e + t.e, s.f + t.f, s.g + t.g, s.h + t.h⟩
def nextS (s : S8) (b : List (BitVec 8)) : S8 := addS s (rounds (ext64 64 (w16 b)) s 80)
def M14 (s : S8) (b : List (BitVec 8)) (w : List (BitVec 64)) : Mm := [⟨false, .a64 BEG⟩, ⟨false, .a64 PRI⟩, ⟨false, .a64 CON⟩, ⟨false, .a64 WHO⟩, ⟨false, .a64 ROM⟩, ⟨true, .a64 s.l⟩, ⟨true, .a8 b⟩, ⟨true, .a64 (List.replicate 8 0)⟩, ⟨true, .a64 w⟩]
def p14 : List (Nat × SV) := [(2, .ptr 5 0), (3, .ptr 6 0), (4, .ptr 7 0), (5, .fn 107 []), (6, .ptr 8 0)]
def wa (b : List (BitVec 8)) (j : Nat) : List (BitVec 64) := (w16 b).take j ++ List.replicate (80 - j) 0
def wb (b : List (BitVec 8)) (j : Nat) : List (BitVec 64) := ext64 (j - 16) (w16 b) ++ List.replicate (80 - j) 0
def q14 (s : S8) : List (Nat × SV) := [(2, .ptr 5 0), (4, .ptr 7 0), (5, .fn 107 []), (6, .ptr 8 0), (11, .w64 s.a), (12, .w64 s.b), (13, .w64 s.c), (14, .w64 s.d), (15, .w64 s.e), (16, .w64 s.f), (17, .w64 s.g), (18, .w64 s.h)]
def L14 (s : S8) (b : List (BitVec 8)) : LT := ((noL.add 0 (vLoop G 175 ((22, .i 0) :: p14) (M14 s b (wa b 0)) p14 (M14 s b (wa b 16)))).add 2 (vLoop G 175 ((8, .i 16) :: p14) (M14 s b (wb b 16)) p14 (M14 s b (wb b 80)))).add 4 (vLoop G 175 ((87, .i 0) :: q14 s) (M14 s b (wb b 80)) (q14 (rounds (wb b 80) s 80)) (M14 s b (wb b 80)))
theorem vc14 (s : S8) (b : List (BitVec 8)) (K : SV → Mm → Prop) : (vf Tryz.prog E2 (L14 s b) 76 [.a64 s.l, .a8 b] G K) = (loopOf Tryz.prog 76 0 = loopOf Tryz.prog 76 0 ∧ SV.ptr 5 0 = SV.ptr 5 0 ∧ SV.ptr (0 + 1 + 1 + 1 + 1 + 1 + 1) 0 = SV.ptr 6 0 ∧ SV.ptr (0 + 1 + 1 + 1 + 1 + 1 + 1 + 1) 0 = SV.ptr 7 0 ∧ SV.fn 107 [] = SV.fn 107 [] ∧ SV.ptr (0 + 1 + 1 + 1 + 1 + 1 + 1 + 1 + 1) 0 = SV.ptr 8 0 ∧ SV.i 0 = SV.i 0 ∧ (false = false ∧ Cont.a64 BEG = Cont.a64 BEG) ∧ (false = false ∧ Cont.a64 PRI = Cont.a64 PRI) ∧ (false = false ∧ Cont.a64 CON = Cont.a64 CON) ∧ (false = false ∧ Cont.a64 WHO = Cont.a64 WHO) ∧ (false = false ∧ Cont.a64 ROM = Cont.a64 ROM) ∧ (true = true ∧ Cont.a64 s.l = Cont.a64 s.l) ∧ (true = true ∧ Cont.a8 b = Cont.a8 b) ∧ (true = true ∧ Cont.a64 (List.replicate 8 0) = Cont.a64 (List.replicate 8 0)) ∧ (true = true ∧ Cont.a64 (List.replicate 80 0) = Cont.a64 (wa b 0)) ∧ loopOf Tryz.prog 76 2 = loopOf Tryz.prog 76 2 ∧ SV.ptr 5 0 = SV.ptr 5 0 ∧ SV.ptr 6 0 = SV.ptr 6 0 ∧ SV.ptr 7 0 = SV.ptr 7 0 ∧ SV.fn 107 [] = SV.fn 107 [] ∧ SV.ptr 8 0 = SV.ptr 8 0 ∧ SV.i 16 = SV.i 16 ∧ (false = false ∧ Cont.a64 BEG = Cont.a64 BEG) ∧ (false = false ∧ Cont.a64 PRI = Cont.a64 PRI) ∧ (false = false ∧ Cont.a64 CON = Cont.a64 CON) ∧ (false = false ∧ Cont.a64 WHO = Cont.a64 WHO) ∧ (false = false ∧ Cont.a64 ROM = Cont.a64 ROM) ∧ (true = true ∧ Cont.a64 s.l = Cont.a64 s.l) ∧ (true = true ∧ Cont.a8 b = Cont.a8 b) ∧ (true = true ∧ Cont.a64 (List.replicate 8 0) = Cont.a64 (List.replicate 8 0)) ∧ (true = true ∧ Cont.a64 (wa b 16) = Cont.a64 (wb b 16)) ∧ loopOf Tryz.prog 76 4 = loopOf Tryz.prog 76 4 ∧ SV.ptr 5 0 = SV.ptr 5 0 ∧ SV.ptr 7 0 = SV.ptr 7 0 ∧ SV.fn 107 [] = SV.fn 107 [] ∧ SV.ptr 8 0 = SV.ptr 8 0 ∧ SV.w64 (s.l.getD 0 0) = SV.w64 s.a ∧ SV.w64 (s.l.getD 1 0) = SV.w64 s.b ∧ SV.w64 (s.l.getD 2 0) = SV.w64 s.c ∧ SV.w64 (s.l.getD 3 0) = SV.w64 s.d ∧ SV.w64 (s.l.getD 4 0) = SV.w64 s.e ∧ SV.w64 (s.l.getD 5 0) = SV.w64 s.f ∧ SV.w64 (s.l.getD 6 0) = SV.w64 s.g ∧ SV.w64 (s.l.getD 7 0) = SV.w64 s.h ∧ SV.i 0 = SV.i 0 ∧ (false = false ∧ Cont.a64 BEG = Cont.a64 BEG) ∧ (false = false ∧ Cont.a64 PRI = Cont.a64 PRI) ∧ (false = false ∧ Cont.a64 CON = Cont.a64 CON) ∧ (false = false ∧ Cont.a64 WHO = Cont.a64 WHO) ∧ (false = false ∧ Cont.a64 ROM = Cont.a64 ROM) ∧ (true = true ∧ Cont.a64 s.l = Cont.a64 s.l) ∧ (true = true ∧ Cont.a8 b = Cont.a8 b) ∧ (true = true ∧ Cont.a64 (List.replicate 8 0) = Cont.a64 (List.replicate 8 0)) ∧ (true = true ∧ Cont.a64 (wb b 80) = Cont.a64 (wb b 80)) ∧ K (SV.a64 [s.l.getD 0 0 + (rounds (wb b 80) s 80).a, s.l.getD 1 0 + (rounds (wb b 80) s 80).b, s.l.getD 2 0 + (rounds (wb b 80) s 80).c, s.l.getD 3 0 + (rounds (wb b 80) s 80).d, s.l.getD 4 0 + (rounds (wb b 80) s 80).e, s.l.getD 5 0 + (rounds (wb b 80) s 80).f, s.l.getD 6 0 + (rounds (wb b 80) s 80).g, s.l.getD 7 0 + (rounds (wb b 80) s 80).h]) [{ rw := false, c := Cont.a64 BEG }, { rw := false, c := Cont.a64 PRI }, { rw := false, c := Cont.a64 CON }, { rw := false, c := Cont.a64 WHO }, { rw := false, c := Cont.a64 ROM }, { rw := true, c := Cont.a64 s.l }, { rw := true, c := Cont.a8 b }, { rw := true, c := Cont.a64 [s.l.getD 0 0 + (rounds (wb b 80) s 80).a, s.l.getD 1 0 + (rounds (wb b 80) s 80).b, s.l.getD 2 0 + (rounds (wb b 80) s 80).c, s.l.getD 3 0 + (rounds (wb b 80) s 80).d, s.l.getD 4 0 + (rounds (wb b 80) s 80).e, s.l.getD 5 0 + (rounds (wb b 80) s 80).f, s.l.getD 6 0 + (rounds (wb b 80) s 80).g, s.l.getD 7 0 + (rounds (wb b 80) s 80).h] }, { rw := true, c := Cont.a64 (wb b 80) }]) := by kernel_rfl
theorem vr14a (s : S8) (b : List (BitVec 8)) (j : Nat) (a : Prop) : (frK 175 ((22, .i (j : Nat)) :: p14) fun fr => vround Tryz.prog E2 noL 76 0 fr (M14 s b (wa b j)) (Kn G 0 175 a ((22, .i ((j + 1 : Nat) : Int)) :: p14) (M14 s b (wa b (j + 1))) p14 (M14 s b (wa b 16)))) = (bif ilt (↑j : Int) 16 then bif inI (8 * (↑j : Int)) then bif ile (8 * (↑j : Int)) (↑128 : Int) && true && ilt (8 * (↑j : Int)) (↑128 : Int) then bif Nat.ble 8 (128 - (8 * (↑j : Int)).toNat) && ((8 * (↑j : Int)).toNat + 8).ble b.length then bif inR (↑j : Int) 80 then bif j.blt (wa b j).length then bif inI ((↑j : Int) + 1) then a ∧ SV.ptr 5 0 = SV.ptr 5 0 ∧ SV.ptr 6 0 = SV.ptr 6 0 ∧ SV.ptr 7 0 = SV.ptr 7 0 ∧ SV.fn 107 [] = SV.fn 107 [] ∧ SV.ptr 8 0 = SV.ptr 8 0 ∧ SV.i ((↑j : Int) + 1) = SV.i (↑(j + 1) : Int) ∧ (false = false ∧ Cont.a64 BEG = Cont.a64 BEG) ∧ (false = false ∧ Cont.a64 PRI = Cont.a64 PRI) ∧ (false = false ∧ Cont.a64 CON = Cont.a64 CON) ∧ (false = false ∧ Cont.a64 WHO = Cont.a64 WHO) ∧ (false = false ∧ Cont.a64 ROM = Cont.a64 ROM) ∧ (true = true ∧ Cont.a64 s.l = Cont.a64 s.l) ∧ (true = true ∧ Cont.a8 b = Cont.a8 b) ∧ (true = true ∧ Cont.a64 (List.replicate 8 0) = Cont.a64 (List.replicate 8 0)) ∧ (true = true ∧ Cont.a64 ((wa b j).set j (be (List.take 8 (List.drop (8 * (↑j : Int)).toNat b)))) = Cont.a64 (wa b (j + 1))) ∧ True else False else False else False else False else False else False else 0 = 0 ∧ SV.ptr 5 0 = SV.ptr 5 0 ∧ SV.ptr 6 0 = SV.ptr 6 0 ∧ SV.ptr 7 0 = SV.ptr 7 0 ∧ SV.fn 107 [] = SV.fn 107 [] ∧ SV.ptr 8 0 = SV.ptr 8 0 ∧ (false = false ∧ Cont.a64 BEG = Cont.a64 BEG) ∧ (false = false ∧ Cont.a64 PRI = Cont.a64 PRI) ∧ (false = false ∧ Cont.a64 CON = Cont.a64 CON) ∧ (false = false ∧ Cont.a64 WHO = Cont.a64 WHO) ∧ (false = false ∧ Cont.a64 ROM = Cont.a64 ROM) ∧ (true = true ∧ Cont.a64 s.l = Cont.a64 s.l) ∧ (true = true ∧ Cont.a8 b = Cont.a8 b) ∧ (true = true ∧ Cont.a64 (List.replicate 8 0) = Cont.a64 (List.replicate 8 0)) ∧ (true = true ∧ Cont.a64 (wa b j) = Cont.a64 (wa b 16)) ∧ True) := by kernel_rfl
theorem vr14b (s : S8) (b : List (BitVec 8)) (j : Nat) (a : Prop) : (frK 175 ((8, .i (j : Nat)) :: p14) fun fr => vround Tryz.prog E2 noL 76 2 fr (M14 s b (wb b j)) (Kn G 2 175 a ((8, .i ((j + 1 : Nat) : Int)) :: p14) (M14 s b (wb b (j + 1))) p14 (M14 s b (wb b 80)))) = (bif ilt (↑j : Int) 80 then bif inI ((↑j : Int) - 15) then bif inR ((↑j : Int) - 15) 80 then bif ((↑j : Int) - 15).toNat.blt (wb b j).length then bif inI ((↑j : Int) - 2) then bif inR ((↑j : Int) - 2) 80 then bif ((↑j : Int) - 2).toNat.blt (wb b j).length then bif inI ((↑j : Int) - 16) then bif inR ((↑j : Int) - 16) 80 then bif ((↑j : Int) - 16).toNat.blt (wb b j).length then bif inI ((↑j : Int) - 7) then bif inR ((↑j : Int) - 7) 80 then bif ((↑j : Int) - 7).toNat.blt (wb b j).length then bif inR (↑j : Int) 80 then bif j.blt (wb b j).length then bif inI ((↑j : Int) + 1) then a ∧ SV.ptr 5 0 = SV.ptr 5 0 ∧ SV.ptr 6 0 = SV.ptr 6 0 ∧ SV.ptr 7 0 = SV.ptr 7 0 ∧ SV.fn 107 [] = SV.fn 107 [] ∧ SV.ptr 8 0 = SV.ptr 8 0 ∧ SV.i ((↑j : Int) + 1) = SV.i (↑(j + 1) : Int) ∧ (false = false ∧ Cont.a64 BEG = Cont.a64 BEG) ∧ (false = false ∧ Cont.a64 PRI = Cont.a64 PRI) ∧ (false = false ∧ Cont.a64 CON = Cont.a64 CON) ∧ (false = false ∧ Cont.a64 WHO = Cont.a64 WHO) ∧ (false = false ∧ Cont.a64 ROM = Cont.a64 ROM) ∧ (true = true ∧ Cont.a64 s.l = Cont.a64 s.l) ∧ (true = true ∧ Cont.a8 b = Cont.a8 b) ∧ (true = true ∧ Cont.a64 (List.replicate 8 0) = Cont.a64 (List.replicate 8 0)) ∧ (true = true ∧ Cont.a64 ((wb b j).set j ((wb b j).getD ((↑j : Int) - 16).toNat 0 + (tw ((wb b j).getD ((↑j : Int) - 15).toNat 0) [1, 8] ^^^ (wb b j).getD ((↑j : Int) - 15).toNat 0 >>> 7) + (wb b j).getD ((↑j : Int) - 7).toNat 0 + (tw ((wb b j).getD ((↑j : Int) - 2).toNat 0) [19, 61] ^^^ (wb b j).getD ((↑j : Int) - 2).toNat 0 >>> 6))) = Cont.a64 (wb b (j + 1))) ∧ True else False else False else False else False else False else False else False else False else False else False else False else False else False else False else False else 2 = 2 ∧ SV.ptr 5 0 = SV.ptr 5 0 ∧ SV.ptr 6 0 = SV.ptr 6 0 ∧ SV.ptr 7 0 = SV.ptr 7 0 ∧ SV.fn 107 [] = SV.fn 107 [] ∧ SV.ptr 8 0 = SV.ptr 8 0 ∧ (false = false ∧ Cont.a64 BEG = Cont.a64 BEG) ∧ (false = false ∧ Cont.a64 PRI = Cont.a64 PRI) ∧ (false = false ∧ Cont.a64 CON = Cont.a64 CON) ∧ (false = false ∧ Cont.a64 WHO = Cont.a64 WHO) ∧ (false = false ∧ Cont.a64 ROM = Cont.a64 ROM) ∧ (true = true ∧ Cont.a64 s.l = Cont.a64 s.l) ∧ (true = true ∧ Cont.a8 b = Cont.a8 b) ∧ (true = true ∧ Cont.a64 (List.replicate 8 0) = Cont.a64 (List.replicate 8 0)) ∧ (true = true ∧ Cont.a64 (wb b j) = Cont.a64 (wb b 80)) ∧ True) := by kernel_rfl
theorem vr14c (s t u z : S8) (b : List (BitVec 8)) (w : List (BitVec 64)) (j : Nat) (a : Prop) : (frK 175 ((87, .i (j : Nat)) :: q14 t) fun fr => vround Tryz.prog E2 noL 76 4 fr (M14 s b w) (Kn G 4 175 a ((87, .i ((j + 1 : Nat) : Int)) :: q14 u) (M14 s b w) (q14 z) (M14 s b w))) = (bif ilt (↑j : Int) 80 then bif inR (↑j : Int) 80 then bif j.blt 80 then bif inR (↑j : Int) 80 then bif j.blt w.length then bif inI ((↑j : Int) + 1) then a ∧ SV.ptr 5 0 = SV.ptr 5 0 ∧ SV.ptr 7 0 = SV.ptr 7 0 ∧ SV.fn 107 [] = SV.fn 107 [] ∧ SV.ptr 8 0 = SV.ptr 8 0 ∧ SV.w64 (t.h + tw t.e [14, 18, 41] + (t.e &&& t.f ^^^ ~~~t.e &&& t.g) + List.getD CON j 0 + w.getD j 0 + (tw t.a [28, 34, 39] + (t.a &&& t.b ^^^ t.a &&& t.c ^^^ t.b &&& t.c))) = SV.w64 u.a ∧ SV.w64 t.a = SV.w64 u.b ∧ SV.w64 t.b = SV.w64 u.c ∧ SV.w64 t.c = SV.w64 u.d ∧ SV.w64 (t.d + (t.h + tw t.e [14, 18, 41] + (t.e &&& t.f ^^^ ~~~t.e &&& t.g) + List.getD CON j 0 + w.getD j 0)) = SV.w64 u.e ∧ SV.w64 t.e = SV.w64 u.f ∧ SV.w64 t.f = SV.w64 u.g ∧ SV.w64 t.g = SV.w64 u.h ∧ SV.i ((↑j : Int) + 1) = SV.i (↑(j + 1) : Int) ∧ (false = false ∧ Cont.a64 BEG = Cont.a64 BEG) ∧ (false = false ∧ Cont.a64 PRI = Cont.a64 PRI) ∧ (false = false ∧ Cont.a64 CON = Cont.a64 CON) ∧ (false = false ∧ Cont.a64 WHO = Cont.a64 WHO) ∧ (false = false ∧ Cont.a64 ROM = Cont.a64 ROM) ∧ (true = true ∧ Cont.a64 s.l = Cont.a64 s.l) ∧ (true = true ∧ Cont.a8 b = Cont.a8 b) ∧ (true = true ∧ Cont.a64 (List.replicate 8 0) = Cont.a64 (List.replicate 8 0)) ∧ (true = true ∧ Cont.a64 w = Cont.a64 w) ∧ True else False else False else False else False else False else 4 = 4 ∧ SV.ptr 5 0 = SV.ptr 5 0 ∧ SV.ptr 7 0 = SV.ptr 7 0 ∧ SV.fn 107 [] = SV.fn 107 [] ∧ SV.ptr 8 0 = SV.ptr 8 0 ∧ SV.w64 t.a = SV.w64 z.a ∧ SV.w64 t.b = SV.w64 z.b ∧ SV.w64 t.c = SV.w64 z.c ∧ SV.w64 t.d = SV.w64 z.d ∧ SV.w64 t.e = SV.w64 z.e ∧ SV.w64 t.f = SV.w64 z.f ∧ SV.w64 t.g = SV.w64 z.g ∧ SV.w64 t.h = SV.w64 z.h ∧ (false = false ∧ Cont.a64 BEG = Cont.a64 BEG) ∧ (false = false ∧ Cont.a64 PRI = Cont.a64 PRI) ∧ (false = false ∧ Cont.a64 CON = Cont.a64 CON) ∧ (false = false ∧ Cont.a64 WHO = Cont.a64 WHO) ∧ (false = false ∧ Cont.a64 ROM = Cont.a64 ROM) ∧ (true = true ∧ Cont.a64 s.l = Cont.a64 s.l) ∧ (true = true ∧ Cont.a8 b = Cont.a8 b) ∧ (true = true ∧ Cont.a64 (List.replicate 8 0) = Cont.a64 (List.replicate 8 0)) ∧ (true = true ∧ Cont.a64 w = Cont.a64 w) ∧ True) := by kernel_rfl
theorem fill_set (X : List (BitVec 64)) (j n : Nat) (v : BitVec 64) (hX : X.length = j) (hj : j < n) : (X ++ List.replicate (n - j) 0).set j v = X ++ [v] ++ List.replicate (n - (j + 1)) 0 := by
 subst hX
 obtain ⟨k, hk⟩ : ∃ k, n - X.length = k + 1 := ⟨n - X.length - 1, by omega⟩
 rw [List.set_append_right _ _ (Nat.le_refl _), Nat.sub_self, hk, List.replicate_succ, List.set_cons_zero, show n - (X.length + 1) = k by omega]
 simp
theorem w16_len (b : List (BitVec 8)) : (w16 b).length = 16 := by simp [w16]
theorem ext_len (n : Nat) (l : List (BitVec 64)) : (ext64 n l).length = l.length + n := by
 induction n with
 | zero => rfl
 | succ n ih => simp [ext64, ih]; omega
theorem wa_len (b : List (BitVec 8)) (j : Nat) (h : j ≤ 16) : (wa b j).length = 80 := by simp [wa, w16_len]; omega
theorem wb_len (b : List (BitVec 8)) (j : Nat) (h : 16 ≤ j) (h2 : j ≤ 80) : (wb b j).length = 80 := by simp [wb, ext_len, w16_len]; omega
theorem wa_set (b : List (BitVec 8)) (j : Nat) (h : j < 16) : (wa b j).set j (be ((b.drop (8 * j)).take 8)) = wa b (j + 1) := by
 unfold wa
 have e : (w16 b).take (j + 1) = (w16 b).take j ++ [be ((b.drop (8 * j)).take 8)] := by
  rw [List.take_add_one]
  congr 1
  simp [w16, h]
 rw [fill_set _ j 80 _ (by simp [w16_len]; omega) (by omega), e]
theorem getD_left (X Y : List (BitVec 64)) (k : Nat) (h : k < X.length) : (X ++ Y).getD k 0 = X.getD k 0 := by
 rw [List.getD_eq_getElem?_getD, List.getElem?_append_left h, ← List.getD_eq_getElem?_getD]
theorem wb_set (b : List (BitVec 8)) (j : Nat) (h : 16 ≤ j) (h2 : j < 80) : (wb b j).set j (nw (wb b j) j) = wb b (j + 1) := by
 have hl : (ext64 (j - 16) (w16 b)).length = j := by rw [ext_len, w16_len]; omega
 have en : nw (wb b j) j = nw (ext64 (j - 16) (w16 b)) j := by
  unfold nw wb
  rw [getD_left _ _ _ (by omega), getD_left _ _ _ (by omega), getD_left _ _ _ (by omega), getD_left _ _ _ (by omega)]
 rw [en]
 unfold wb
 rw [fill_set _ j 80 _ hl h2, show j + 1 - 16 = j - 16 + 1 by omega, ext64, hl]
theorem wb16 (b : List (BitVec 8)) : wa b 16 = wb b 16 := by
 unfold wa wb
 rw [List.take_of_length_le (by rw [w16_len]; exact Nat.le_refl _)]
 rfl
theorem wb80 (b : List (BitVec 8)) : wb b 80 = ext64 64 (w16 b) := by simp [wb]
theorem rl1 (x : BitVec 64) : rl x (-1) = rr x 1 := BitVec.or_comm (x <<< 63) (x >>> 1)
theorem rl8 (x : BitVec 64) : rl x (-8) = rr x 8 := BitVec.or_comm (x <<< 56) (x >>> 8)
theorem rl19 (x : BitVec 64) : rl x (-19) = rr x 19 := BitVec.or_comm (x <<< 45) (x >>> 19)
theorem rl61 (x : BitVec 64) : rl x (-61) = rr x 61 := BitVec.or_comm (x <<< 3) (x >>> 61)
theorem rl14 (x : BitVec 64) : rl x (-14) = rr x 14 := BitVec.or_comm (x <<< 50) (x >>> 14)
theorem rl18 (x : BitVec 64) : rl x (-18) = rr x 18 := BitVec.or_comm (x <<< 46) (x >>> 18)
theorem rl41 (x : BitVec 64) : rl x (-41) = rr x 41 := BitVec.or_comm (x <<< 23) (x >>> 41)
theorem rl28 (x : BitVec 64) : rl x (-28) = rr x 28 := BitVec.or_comm (x <<< 36) (x >>> 28)
theorem rl34 (x : BitVec 64) : rl x (-34) = rr x 34 := BitVec.or_comm (x <<< 30) (x >>> 34)
theorem rl39 (x : BitVec 64) : rl x (-39) = rr x 39 := BitVec.or_comm (x <<< 25) (x >>> 39)
theorem tw2 (x : BitVec 64) (a b : Int) : tw x [a, b] = rl x (-a) ^^^ rl x (-b) := by simp [tw]
theorem tw3 (x : BitVec 64) (a b c : Int) : tw x [a, b, c] = rl x (-a) ^^^ rl x (-b) ^^^ rl x (-c) := by simp [tw]
theorem ts0 (x : BitVec 64) : tw x [1, 8] ^^^ x >>> 7 = s0 x := by rw [tw2, rl1, rl8]; rfl
theorem ts1 (x : BitVec 64) : tw x [19, 61] ^^^ x >>> 6 = s1 x := by rw [tw2, rl19, rl61]; rfl
theorem loop14a (s : S8) (b : List (BitVec 8)) (hb : b.length = 128) : ∀ fr M K, vLoop G 175 ((22, .i 0) :: p14) (M14 s b (wa b 0)) p14 (M14 s b (wa b 16)) fr M K → Wp Tryz.prog G G (loopOf Tryz.prog 76 0) fr M K := by
 refine loop_next e2_ok mixed (noL_ok _ _ _ _) (Nat.le_refl _) (by kernel_rfl) (fun j => (22, .i (j : Nat)) :: p14) (fun j => M14 s b (wa b j)) (fun j => j ≤ 16) (fun j => 16 - j) (fun j => j + 1) 0 (Nat.zero_le _) fun j hj => of_eq (vr14a s b j _) ?_
 cases hc : ilt (j : Int) 16
 ·have hj2 : j = 16 := by rw [ilt_eq] at hc; have := of_decide_eq_false hc; omega
  subst hj2
  simp
 ·have hj2 : j < 16 := by rw [ilt_eq] at hc; have := of_decide_eq_true hc; omega
  have e : (8 * (j : Int)).toNat = 8 * j := by omega
  rw [e, wa_set b j hj2, wa_len b j hj, hb]
  refine bif_of (inI_iff.2 (by omega)) (bif_of ?_ (bif_of ?_ (bif_of (inR_nat (by omega)) (bif_of (blt_of (by omega)) (bif_of (inI_iff.2 (by omega)) ?_)))))
  ·simp [ile_eq, ilt_eq]; omega
  ·simp; omega
  ·refine ⟨⟨by omega, by omega⟩, ?_⟩
   simp
theorem loop14b (s : S8) (b : List (BitVec 8)) : ∀ fr M K, vLoop G 175 ((8, .i 16) :: p14) (M14 s b (wb b 16)) p14 (M14 s b (wb b 80)) fr M K → Wp Tryz.prog G G (loopOf Tryz.prog 76 2) fr M K := by
 refine loop_next e2_ok mixed (noL_ok _ _ _ _) (Nat.le_refl _) (by kernel_rfl) (fun j => (8, .i (j : Nat)) :: p14) (fun j => M14 s b (wb b j)) (fun j => 16 ≤ j ∧ j ≤ 80) (fun j => 80 - j) (fun j => j + 1) 16 (by decide) fun j hj => of_eq (vr14b s b j _) ?_
 cases hc : ilt (j : Int) 80
 ·have hj2 : j = 80 := by rw [ilt_eq] at hc; have := of_decide_eq_false hc; omega
  subst hj2
  simp
 ·have hj2 : j < 80 := by rw [ilt_eq] at hc; have := of_decide_eq_true hc; omega
  have e15 : ((j : Int) - 15).toNat = j - 15 := by omega
  have e2 : ((j : Int) - 2).toNat = j - 2 := by omega
  have e16 : ((j : Int) - 16).toNat = j - 16 := by omega
  have e7 : ((j : Int) - 7).toNat = j - 7 := by omega
  rw [e15, e2, e16, e7, ts0, ts1, wb_len b j hj.1 hj.2]
  have hn := wb_set b j hj.1 hj2
  unfold nw at hn
  rw [hn]
  refine bif_of (inI_iff.2 (by omega)) (bif_of (inR_iff.2 (by omega)) (bif_of (blt_of (by omega)) (bif_of (inI_iff.2 (by omega)) (bif_of (inR_iff.2 (by omega)) (bif_of (blt_of (by omega)) (bif_of (inI_iff.2 (by omega)) (bif_of (inR_iff.2 (by omega)) (bif_of (blt_of (by omega)) (bif_of (inI_iff.2 (by omega)) (bif_of (inR_iff.2 (by omega)) (bif_of (blt_of (by omega)) (bif_of (inR_nat (by omega)) (bif_of (blt_of (by omega)) (bif_of (inI_iff.2 (by omega)) ?_))))))))))))))
  refine ⟨⟨by omega, by omega⟩, ?_⟩
  simp
theorem loop14c (s : S8) (b : List (BitVec 8)) (w : List (BitVec 64)) (hw : w.length = 80) : ∀ fr M K, vLoop G 175 ((87, .i 0) :: q14 s) (M14 s b w) (q14 (rounds w s 80)) (M14 s b w) fr M K → Wp Tryz.prog G G (loopOf Tryz.prog 76 4) fr M K := by
 refine loop_next e2_ok mixed (noL_ok _ _ _ _) (Nat.le_refl _) (by kernel_rfl) (fun j => (87, .i (j : Nat)) :: q14 (rounds w s j)) (fun j => M14 s b w) (fun j => j ≤ 80) (fun j => 80 - j) (fun j => j + 1) 0 (Nat.zero_le _) fun j hj => of_eq (vr14c s (rounds w s j) (rounds w s (j + 1)) (rounds w s 80) b w j _) ?_
 cases hc : ilt (j : Int) 80
 ·have hj2 : j = 80 := by rw [ilt_eq] at hc; have := of_decide_eq_false hc; omega
  subst hj2
  simp
 ·have hj2 : j < 80 := by rw [ilt_eq] at hc; have := of_decide_eq_true hc; omega
  refine bif_of (inR_nat (by omega)) (bif_of (blt_of (by omega)) (bif_of (inR_nat (by omega)) (bif_of (blt_of (by omega)) (bif_of (inI_iff.2 (by omega)) ?_))))
  refine ⟨⟨by omega, by omega⟩, ?_⟩
  refine ⟨rfl, rfl, rfl, rfl, rfl, rfl, rfl, rfl, rfl, rfl, rfl, rfl, rfl, ⟨rfl, rfl⟩, ⟨rfl, rfl⟩, ⟨rfl, rfl⟩, ⟨rfl, rfl⟩, ⟨rfl, rfl⟩, ⟨rfl, rfl⟩, ⟨rfl, rfl⟩, ⟨rfl, rfl⟩, ⟨rfl, rfl⟩, trivial⟩
theorem loop14 (s : S8) (b : List (BitVec 8)) (hb : b.length = 128) : LOk Tryz.prog G G 76 (L14 s b) :=
 LT.add_ok (LT.add_ok (LT.add_ok (noL_ok _ _ _ _) (loop14a s b hb)) (loop14b s b)) (loop14c s b (wb b 80) (wb_len b 80 (by decide) (by decide)))
def cNext : List SV → List Cont → Option (Bool × SV)
 | [.a64 [a, b, c, d, e, f, g, h], .a8 l], _ => some (Nat.beq l.length 128, .a64 (nextS ⟨a, b, c, d, e, f, g, h⟩ l).l)
 | _, _ => none
theorem next_ok : POk Tryz.prog G 76 cNext := by
 intro args acs r h β M w hR hw ha
 unfold cNext at h
 split at h
 ·rename_i a b c d e f g h' l
  simp only [Option.some.injEq, Prod.mk.injEq] at h
  obtain ⟨h1, rfl⟩ := h
  have h1 := Nat.eq_of_beq_eq_true h1
  refine pure0 (vf_ok e2_ok mixed (loop14 ⟨a, b, c, d, e, f, g, h'⟩ l h1) (of_eq (vc14 ⟨a, b, c, d, e, f, g, h'⟩ l _) ?_)) rfl rfl hR
  refine ⟨rfl, rfl, rfl, rfl, rfl, rfl, rfl, ⟨rfl, rfl⟩, ⟨rfl, rfl⟩, ⟨rfl, rfl⟩, ⟨rfl, rfl⟩, ⟨rfl, rfl⟩, ⟨rfl, rfl⟩, ⟨rfl, rfl⟩, ⟨rfl, rfl⟩, ⟨rfl, rfl⟩, ?_⟩
  refine ⟨rfl, rfl, rfl, rfl, rfl, rfl, rfl, ⟨rfl, rfl⟩, ⟨rfl, rfl⟩, ⟨rfl, rfl⟩, ⟨rfl, rfl⟩, ⟨rfl, rfl⟩, ⟨rfl, rfl⟩, ⟨rfl, rfl⟩, ⟨rfl, rfl⟩, ⟨rfl, by rw [wb16]⟩, ?_⟩
  refine ⟨rfl, rfl, rfl, rfl, rfl, rfl, rfl, rfl, rfl, rfl, rfl, rfl, rfl, rfl, ⟨rfl, rfl⟩, ⟨rfl, rfl⟩, ⟨rfl, rfl⟩, ⟨rfl, rfl⟩, ⟨rfl, rfl⟩, ⟨rfl, rfl⟩, ⟨rfl, rfl⟩, ⟨rfl, rfl⟩, ⟨rfl, rfl⟩, ?_⟩
  rw [wb80]
  rfl
 ·cases h
end Sh
end Go.Proofs.YtdfghknonbmadaaGreatDoor
namespace Go.Proofs.YtdfghknonbmadaaGreatDoor
namespace Sh
open Go.RowKit
set_option linter.unusedVariables false
set_option linter.unusedSimpArgs false
set_option maxRecDepth 100000
def T3 : PT := T2.add 76 cNext
def E3 : Env := ⟨G, T3, noC⟩
theorem e3_ok : EnvOk Tryz.prog E3 := ⟨PT.add_ok e2_ok.T next_ok, noC_ok _ _⟩
inductive S23 where
 | fst (cap : Nat) (x : List (BitVec 8))
 | more (j cap : Nat) (x : List (BitVec 8))
def B23 (l : List (BitVec 8)) : Mm := [⟨false, .a64 BEG⟩, ⟨false, .a64 PRI⟩, ⟨false, .a64 CON⟩, ⟨false, .a64 WHO⟩, ⟨false, .a64 ROM⟩, ⟨true, .a8 l⟩]
def N23 (x : List (BitVec 8)) : Mm := [⟨false, .a64 BEG⟩, ⟨false, .a64 PRI⟩, ⟨false, .a64 CON⟩, ⟨false, .a64 WHO⟩, ⟨false, .a64 ROM⟩, ⟨true, .gone⟩, ⟨true, .a8 x⟩]
def I23 (w : BitVec 64) (len : Nat) : S23 → List (Nat × SV)
 | .fst cap _ => [(0, .sl 5 0 len cap), (1, .w64 w), (5, .i 56)]
 | .more j cap _ => [(0, .sl 6 0 (len + j) cap), (1, .w64 w), (5, .i (56 - 8 * (j : Int)))]
def Mi23 : S23 → Mm
 | .fst _ x => B23 x
 | .more _ _ x => N23 x
def got23 (j : Nat) (fr : List SV) (M : Mm) : Option S23 := match fr with
 | SV.sl k _ _ cap :: _ => match M[k]? with
  | some ⟨_, .a8 x⟩ => some (.more (j + 1) cap x)
  | _ => none
 | _ => none
def sel23 : S23 → List SV → Mm → Option S23
 | .fst _ _ => got23 0
 | .more j _ _ => got23 j
def rs23 : S23 → List Nat
 | .fst _ _ => [7]
 | .more _ _ _ => [8]
def O23 (len cap : Nat) : List (Nat × SV) := [(0, .sl 6 0 (len + 8) cap)]
def vLp23 (l : List (BitVec 8)) (w : BitVec 64) (len cap : Nat) (p : Nat → List (BitVec 8) → Prop) (fr : List SV) (M : Mm) (K : Ko) : Prop := vLe (B23 l) fr M 18 (I23 w len (.fst cap l)) (B23 l) (∀ cap' x, p cap' x → frK 18 (O23 len cap') fun fr1 => K .normal fr1 (N23 x))
def L23 (l : List (BitVec 8)) (w : BitVec 64) (len cap : Nat) (p : Nat → List (BitVec 8) → Prop) : LT := noL.add 0 (vLp23 l w len cap p)
theorem vc23 (l : List (BitVec 8)) (w : BitVec 64) (len cap : Nat) (p : Nat → List (BitVec 8) → Prop) (K : SV → Mm → Prop) : (vf Tryz.prog E3 (L23 l w len cap p) 110 [.sl 5 0 len cap, .w64 w] (B23 l) K) = (loopOf Tryz.prog 110 0 = loopOf Tryz.prog 110 0 ∧ SV.sl 5 0 len cap = SV.sl 5 0 len cap ∧ SV.w64 w = SV.w64 w ∧ SV.i 56 = SV.i 56 ∧ (false = false ∧ Cont.a64 BEG = Cont.a64 BEG) ∧ (false = false ∧ Cont.a64 PRI = Cont.a64 PRI) ∧ (false = false ∧ Cont.a64 CON = Cont.a64 CON) ∧ (false = false ∧ Cont.a64 WHO = Cont.a64 WHO) ∧ (false = false ∧ Cont.a64 ROM = Cont.a64 ROM) ∧ (true = true ∧ Cont.a8 l = Cont.a8 l) ∧ ∀ (cap' : Nat) (x : List (BitVec 8)), p cap' x → K (SV.sl 6 0 (len + 8) cap') (N23 x)) := by kernel_rfl
theorem vr23a (l x : List (BitVec 8)) (w : BitVec 64) (len cap : Nat) (a : S23 → Prop) (q : Prop) : (frK 18 (I23 w len (.fst cap x)) fun fr => vround Tryz.prog E3 noL 110 0 fr (Mi23 (.fst cap x)) (Ks (B23 l) 0 18 (sel23 (.fst cap x)) (rs23 (.fst cap x)) a (I23 w len) Mi23 q (O23 len cap) (N23 x))) = (bif decide (len ≤ cap) && decide (x.length = cap) && decide (len + (List.take 1 (List.drop 0 [BitVec.setWidth 8 (w >>> 56)])).length ≤ 1099511627776) && true then ∀ (cap' : Nat) (rest : List (BitVec 8)), len + (List.take 1 (List.drop 0 [BitVec.setWidth 8 (w >>> 56)])).length + rest.length = cap' → a (S23.more 1 cap' (List.take len x ++ List.take 1 (List.drop 0 [BitVec.setWidth 8 (w >>> 56)]) ++ rest)) ∧ SV.sl (0 + 1 + 1 + 1 + 1 + 1 + 1 + 1) 0 (len + (List.take 1 (List.drop 0 [BitVec.setWidth 8 (w >>> 56)])).length) cap' = ren (sig (List.length (B23 l)) (rs23 (S23.fst cap x))) (SV.sl 6 0 (len + 1) cap') ∧ SV.w64 w = ren (sig (List.length (B23 l)) (rs23 (S23.fst cap x))) (SV.w64 w) ∧ SV.i (56 - 8) = ren (sig (List.length (B23 l)) (rs23 (S23.fst cap x))) (SV.i (56 - 8 * (↑1 : Int))) ∧ (false = false ∧ Cont.a64 BEG = Cont.ren (sig (List.length (B23 l)) (rs23 (S23.fst cap x))) (Cont.a64 BEG)) ∧ (false = false ∧ Cont.a64 PRI = Cont.ren (sig (List.length (B23 l)) (rs23 (S23.fst cap x))) (Cont.a64 PRI)) ∧ (false = false ∧ Cont.a64 CON = Cont.ren (sig (List.length (B23 l)) (rs23 (S23.fst cap x))) (Cont.a64 CON)) ∧ (false = false ∧ Cont.a64 WHO = Cont.ren (sig (List.length (B23 l)) (rs23 (S23.fst cap x))) (Cont.a64 WHO)) ∧ (false = false ∧ Cont.a64 ROM = Cont.ren (sig (List.length (B23 l)) (rs23 (S23.fst cap x))) (Cont.a64 ROM)) ∧ (true = true ∧ Cont.gone = Cont.ren (sig (List.length (B23 l)) (rs23 (S23.fst cap x))) Cont.gone) ∧ (true = true ∧ Cont.a8 (List.take len x ++ List.take 1 (List.drop 0 [BitVec.setWidth 8 (w >>> 56)]) ++ rest) = Cont.ren (sig (List.length (B23 l)) (rs23 (S23.fst cap x))) (Cont.a8 (List.take len x ++ List.take 1 (List.drop 0 [BitVec.setWidth 8 (w >>> 56)]) ++ rest))) ∧ True else False) := by kernel_rfl
theorem vr23b (l x : List (BitVec 8)) (w : BitVec 64) (len cap j : Nat) (a : S23 → Prop) (q : Prop) : (frK 18 (I23 w len (.more j cap x)) fun fr => vround Tryz.prog E3 noL 110 0 fr (Mi23 (.more j cap x)) (Ks (B23 l) 0 18 (sel23 (.more j cap x)) (rs23 (.more j cap x)) a (I23 w len) Mi23 q (O23 len cap) (N23 x))) = (bif ile 0 (56 - 8 * (↑j : Int)) then bif ile 0 (56 - 8 * (↑j : Int)) then bif decide (len + j ≤ cap) && decide (x.length = cap) && decide (len + j + (List.take 1 (List.drop 0 [BitVec.setWidth 8 (w >>> (56 - 8 * (↑j : Int)).toNat)])).length ≤ 1099511627776) && true then ∀ (cap' : Nat) (rest : List (BitVec 8)), len + j + (List.take 1 (List.drop 0 [BitVec.setWidth 8 (w >>> (56 - 8 * (↑j : Int)).toNat)])).length + rest.length = cap' → bif inI (56 - 8 * (↑j : Int) - 8) then a (S23.more (j + 1) cap' (List.take (len + j) x ++ List.take 1 (List.drop 0 [BitVec.setWidth 8 (w >>> (56 - 8 * (↑j : Int)).toNat)]) ++ rest)) ∧ SV.sl (0 + 1 + 1 + 1 + 1 + 1 + 1 + 1 + 1) 0 (len + j + (List.take 1 (List.drop 0 [BitVec.setWidth 8 (w >>> (56 - 8 * (↑j : Int)).toNat)])).length) cap' = ren (sig (List.length (B23 l)) (rs23 (S23.more j cap x))) (SV.sl 6 0 (len + (j + 1)) cap') ∧ SV.w64 w = ren (sig (List.length (B23 l)) (rs23 (S23.more j cap x))) (SV.w64 w) ∧ SV.i (56 - 8 * (↑j : Int) - 8) = ren (sig (List.length (B23 l)) (rs23 (S23.more j cap x))) (SV.i (56 - 8 * (↑(j + 1) : Int))) ∧ (false = false ∧ Cont.a64 BEG = Cont.ren (sig (List.length (B23 l)) (rs23 (S23.more j cap x))) (Cont.a64 BEG)) ∧ (false = false ∧ Cont.a64 PRI = Cont.ren (sig (List.length (B23 l)) (rs23 (S23.more j cap x))) (Cont.a64 PRI)) ∧ (false = false ∧ Cont.a64 CON = Cont.ren (sig (List.length (B23 l)) (rs23 (S23.more j cap x))) (Cont.a64 CON)) ∧ (false = false ∧ Cont.a64 WHO = Cont.ren (sig (List.length (B23 l)) (rs23 (S23.more j cap x))) (Cont.a64 WHO)) ∧ (false = false ∧ Cont.a64 ROM = Cont.ren (sig (List.length (B23 l)) (rs23 (S23.more j cap x))) (Cont.a64 ROM)) ∧ (true = true ∧ Cont.gone = Cont.ren (sig (List.length (B23 l)) (rs23 (S23.more j cap x))) Cont.gone) ∧ (true = true ∧ Cont.a8 (List.take (len + j) x ++ List.take 1 (List.drop 0 [BitVec.setWidth 8 (w >>> (56 - 8 * (↑j : Int)).toNat)]) ++ rest) = Cont.ren (sig (List.length (B23 l)) (rs23 (S23.more j cap x))) (Cont.a8 (List.take (len + j) x ++ List.take 1 (List.drop 0 [BitVec.setWidth 8 (w >>> (56 - 8 * (↑j : Int)).toNat)]) ++ rest))) ∧ True else False else False else False else 0 = 0 ∧ q ∧ SV.sl 6 0 (len + j) cap = SV.sl 6 0 (len + 8) cap ∧ (false = false ∧ Cont.a64 BEG = Cont.a64 BEG) ∧ (false = false ∧ Cont.a64 PRI = Cont.a64 PRI) ∧ (false = false ∧ Cont.a64 CON = Cont.a64 CON) ∧ (false = false ∧ Cont.a64 WHO = Cont.a64 WHO) ∧ (false = false ∧ Cont.a64 ROM = Cont.a64 ROM) ∧ (true = true ∧ Cont.gone = Cont.gone) ∧ (true = true ∧ Cont.a8 x = Cont.a8 x) ∧ True) := by kernel_rfl
def by64 (w : BitVec 64) : List (BitVec 8) := (List.range 8).map fun k => (w >>> (56 - 8 * k)).setWidth 8
theorem by64_len (w : BitVec 64) : (by64 w).length = 8 := rfl
def p23 (l : List (BitVec 8)) (w : BitVec 64) (len cap : Nat) : S23 → Prop
 | .fst c x => c = cap ∧ x = l
 | .more j c x => j ≤ 8 ∧ x.length = c ∧ ∃ rest, x = l.take len ++ (by64 w).take j ++ rest
def m23 : S23 → Nat
 | .fst _ _ => 9
 | .more j _ _ => 8 - j
def q23 : S23 → Prop
 | .fst _ _ => False
 | .more j _ _ => j = 8
def o23 (len : Nat) : S23 → List (Nat × SV)
 | .fst c _ => O23 len c
 | .more _ c _ => O23 len c
def n23 : S23 → Mm
 | .fst _ x => N23 x
 | .more _ _ x => N23 x
theorem by64_take (w : BitVec 64) (j : Nat) (h : j < 8) : (by64 w).take (j + 1) = (by64 w).take j ++ [(w >>> (56 - 8 * j)).setWidth 8] := by
 rw [List.take_add_one]
 congr 1
 simp [by64, h]
theorem take_app {α : Type} (a b c : List α) (n : Nat) (h : a.length + b.length = n) : (a ++ b ++ c).take n = a ++ b := by
 rw [List.take_append_of_le_length (by simp; omega), List.take_of_length_le (by simp; omega)]
def P23 (l : List (BitVec 8)) (w : BitVec 64) (len : Nat) (cap : Nat) (x : List (BitVec 8)) : Prop := x.length = cap ∧ ∃ rest, x = l.take len ++ by64 w ++ rest
theorem loop23 (l : List (BitVec 8)) (w : BitVec 64) (len cap : Nat) (h1 : len ≤ cap) (h2 : l.length = cap) (h3 : len + 8 ≤ 1099511627776) : LOk Tryz.prog G (B23 l) 110 (L23 l w len cap (P23 l w len)) := by
 refine LT.add_ok (noL_ok _ _ _ _) fun fr M K h => ?_
 obtain ⟨h0, hK⟩ := vLe_ok h
 refine loop_sel e3_ok mixed (noL_ok _ _ _ _) (by show 5 ≤ 6; decide) (by kernel_rfl) (I23 w len) Mi23 (p23 l w len cap) m23 sel23 rs23 q23 (o23 len) n23 (.fst cap l) ⟨rfl, rfl⟩ (fun i hp => ?_) h0 (fun i hp hq => ?_)
 ·cases i with
  | fst c x =>
   obtain ⟨rfl, rfl⟩ := hp
   refine of_eq (vr23a x x w len c _ _) (bif_of ?_ fun cap' rest hc => ?_)
   ·simp; omega
   ·refine ⟨⟨⟨by decide, ?_, rest, rfl⟩, ?_⟩, rfl, rfl, rfl, ⟨rfl, rfl⟩, ⟨rfl, rfl⟩, ⟨rfl, rfl⟩, ⟨rfl, rfl⟩, ⟨rfl, rfl⟩, ⟨rfl, rfl⟩, ⟨rfl, rfl⟩, trivial⟩
    ·simp at hc ⊢; omega
    ·show 8 - 1 < 9; decide
  | more j c x =>
   obtain ⟨hj, hx, rest, hr⟩ := hp
   have hl : (l.take len).length + ((by64 w).take j).length = len + j := by rw [List.length_take, List.length_take, by64_len]; omega
   have hcl : len + j ≤ c := by rw [← hx, hr, List.length_append, List.length_append, hl]; omega
   have ht : x.take (len + j) = l.take len ++ (by64 w).take j := by rw [hr]; exact take_app _ _ _ _ hl
   refine of_eq (vr23b l x w len c j _ _) ?_
   cases hc : ile 0 (56 - 8 * (j : Int))
   ·have hj2 : j = 8 := by rw [ile_eq] at hc; have := of_decide_eq_false hc; omega
    subst hj2
    exact ⟨rfl, rfl, rfl, ⟨rfl, rfl⟩, ⟨rfl, rfl⟩, ⟨rfl, rfl⟩, ⟨rfl, rfl⟩, ⟨rfl, rfl⟩, ⟨rfl, rfl⟩, ⟨rfl, rfl⟩, trivial⟩
   ·have hj2 : j < 8 := by rw [ile_eq] at hc; have := of_decide_eq_true hc; omega
    have e : (56 - 8 * (j : Int)).toNat = 56 - 8 * j := by omega
    rw [e, ht]
    refine bif_of ?_ fun cap' rest' hc' => bif_of (inI_iff.2 (by omega)) ?_
    ·simp; omega
    ·refine ⟨⟨⟨by omega, ?_, rest', ?_⟩, ?_⟩, rfl, rfl, ?_, ⟨rfl, rfl⟩, ⟨rfl, rfl⟩, ⟨rfl, rfl⟩, ⟨rfl, rfl⟩, ⟨rfl, rfl⟩, ⟨rfl, rfl⟩, ⟨rfl, rfl⟩, trivial⟩
     ·rw [← hc', List.length_append, List.length_append, List.length_append, hl]
     ·rw [by64_take w j hj2]
      simp
     ·show 8 - (j + 1) < 8 - j; omega
     ·exact congrArg SV.i (by omega)
 ·cases i with
  | fst c x => exact hq.elim
  | more j c x =>
   obtain ⟨hj, hx, rest, hr⟩ := hp
   obtain rfl : j = 8 := hq
   have := hK c x ⟨hx, rest, hr⟩
   rw [frK_eq] at this
   exact this
def cPack : List SV → Mm → (SV → Mm → Prop) → Prop
 | [.sl k off len cap, .w64 w], M, K => match M[k]? with
  | some ⟨true, .a8 l⟩ => vsome (Nat.beq off 0 && (decide (len ≤ cap) && (decide (l.length = cap) && decide (len + 8 ≤ 1099511627776)))) <|
   ∀ (cap' : Nat) (rest : List (BitVec 8)), len + 8 + rest.length = cap' → setK M k ⟨true, .gone⟩ fun M1 => snocK M1 ⟨true, .a8 (l.take len ++ by64 w ++ rest)⟩ fun M2 => K (.sl M.length 0 (len + 8) cap') M2
  | _ => False
 | _, _, _ => False
theorem pack_ok : COk Tryz.prog G 110 cPack := by
 intro args M K h
 unfold cPack at h
 split at h
 ·rename_i k off len cap w
  split at h
  ·rename_i l hk
   obtain ⟨hb, hh⟩ := vsome_iff.1 h
   simp only [Bool.and_eq_true, decide_eq_true_eq] at hb
   obtain ⟨h0, h1, h2, h3⟩ := hb
   obtain rfl := Nat.eq_of_beq_eq_true h0
   refine eff_of (R := [⟨true, .a8 l⟩]) (args0 := [.sl 5 0 len cap, .w64 w]) (K0 := fun r M => ∃ cap' rest, len + 8 + rest.length = cap' ∧ r = .sl 6 0 (len + 8) cap' ∧ M = N23 (l.take len ++ by64 w ++ rest)) [k] (vf_ok (M := B23 l) e3_ok mixed (loop23 l w len cap h1 h2 h3) (of_eq (vc23 l w len cap _ _) ?_)) rfl rfl (by simp) ⟨⟨true, hk, fun h => h⟩, ⟨rfl, rfl⟩, trivial⟩ ?_
   ·refine ⟨rfl, rfl, rfl, rfl, ⟨rfl, rfl⟩, ⟨rfl, rfl⟩, ⟨rfl, rfl⟩, ⟨rfl, rfl⟩, ⟨rfl, rfl⟩, ⟨rfl, rfl⟩, fun cap' x hx => ?_⟩
    obtain ⟨hx, rest, rfl⟩ := hx
    refine ⟨cap', rest, ?_, rfl, rfl⟩
    simp [by64_len] at hx
    omega
   ·rintro r1 M1 ⟨cap', rest, hc, rfl, rfl⟩
    have := hh cap' rest hc
    rw [setK_eq, snocK_eq] at this
    exact this
  ·exact h.elim
 ·exact h.elim
def C4 : CT := noC.add 110 cPack
def T4 : PT := T3
def E4 : Env := ⟨G, T4, C4⟩
theorem e4_ok : EnvOk Tryz.prog E4 := ⟨e3_ok.T, CT.add_ok (noC_ok _ _) pack_ok⟩
end Sh
end Go.Proofs.YtdfghknonbmadaaGreatDoor
