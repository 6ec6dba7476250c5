/-
  sha: the digest of a text, as the document reckons it. No statement is proved here.
-/
import Derived.Test.YtdfghknonbmadaaGreatDoorShV
import Derived.Test.YtdfghknonbmadaaGreatDoorShG
namespace Go.Proofs.YtdfghknonbmadaaGreatDoor
namespace Sh
open Go.RowKit
set_option linter.unusedVariables false
set_option linter.unusedSimpArgs false
set_option maxRecDepth 100000
def EW : Env := ⟨G, (noT.add 50 cFirst).add 51 cBlock, noC⟩
theorem ew_ok : EnvOk Tryz.prog EW := ⟨PT.add_ok (PT.add_ok (noT_ok _ _) first_ok) block_ok, noC_ok _ _⟩
structure I8 where
 j : Nat
 cap : Nat
 x : List (BitVec 8)
def Ma8 (x : List (BitVec 8)) : Mm := [⟨false, .a64 BEG⟩, ⟨false, .a64 PRI⟩, ⟨false, .a64 CON⟩, ⟨false, .a64 WHO⟩, ⟨false, .a64 ROM⟩, ⟨true, .a8 x⟩]
def Mb8 (x : List (BitVec 8)) : Mm := [⟨false, .a64 BEG⟩, ⟨false, .a64 PRI⟩, ⟨false, .a64 CON⟩, ⟨false, .a64 WHO⟩, ⟨false, .a64 ROM⟩, ⟨true, .gone⟩, ⟨true, .a8 x⟩]
def Mc8 (x : List (BitVec 8)) (h : S8) : Mm := [⟨false, .a64 BEG⟩, ⟨false, .a64 PRI⟩, ⟨false, .a64 CON⟩, ⟨false, .a64 WHO⟩, ⟨false, .a64 ROM⟩, ⟨true, .gone⟩, ⟨true, .a8 x⟩, ⟨true, .a64 h.l⟩]
def Md8 (x : List (BitVec 8)) (h : S8) (o : List (BitVec 8)) : Mm := [⟨false, .a64 BEG⟩, ⟨false, .a64 PRI⟩, ⟨false, .a64 CON⟩, ⟨false, .a64 WHO⟩, ⟨false, .a64 ROM⟩, ⟨true, .gone⟩, ⟨true, .a8 x⟩, ⟨true, .a64 h.l⟩, ⟨true, .a8 o⟩]
def ia8 (s : List (BitVec 8)) (n : Nat) (i : I8) : List (Nat × SV) := [(0, .s s), (3, .sl 5 0 (n + i.j) i.cap)]
def ib8 (s : List (BitVec 8)) (n : Nat) (i : I8) : List (Nat × SV) := [(0, .s s), (3, .sl 6 0 (n + i.j) i.cap), (4, .i (7 - (i.j : Int)))]
def ob8 (n cap : Nat) : List (Nat × SV) := [(3, .sl 6 0 (n + 8) cap)]
def ic8 (n cap j : Nat) : List (Nat × SV) := [(3, .sl 6 0 n cap), (5, .ptr 7 0), (6, .i (128 * (j : Int)))]
def oc8 : List (Nat × SV) := [(5, .ptr 7 0)]
def id8 (j : Nat) : List (Nat × SV) := [(5, .ptr 7 0), (7, .sl 8 0 64 64), (8, .i (j : Int))]
def od8 : List (Nat × SV) := [(7, .sl 8 0 64 64)]
def got8 (j : Nat) (fr : List SV) (M : Mm) : Option I8 := match fr with
 | _ :: _ :: _ :: SV.sl k _ _ cap :: _ => match M[k]? with
  | some ⟨_, .a8 x⟩ => some ⟨j, cap, x⟩
  | _ => none
 | _ => none
def vL8a (s : List (BitVec 8)) (n J : Nat) (p : I8 → Prop) (fr : List SV) (M : Mm) (K : Ko) : Prop := match got8 0 fr M with
 | some i => p i ∧ vLe G fr M 72 (ia8 s n i) (Ma8 i.x) (∀ cap x, p ⟨J, cap, x⟩ → frK 72 (ia8 s n ⟨J, cap, x⟩) fun fr1 => K .normal fr1 (Ma8 x))
 | none => False
def vL8b (s : List (BitVec 8)) (n : Nat) (p : I8 → Prop) (fr : List SV) (M : Mm) (K : Ko) : Prop := match got8 0 fr M with
 | some i => p i ∧ vLe G fr M 72 (ib8 s n i) (Mb8 i.x) (∀ cap x, p ⟨8, cap, x⟩ → frK 72 (ob8 n cap) fun fr1 => K .normal fr1 (Mb8 x))
 | none => False
def vL8c (n : Nat) (p : Nat → List (BitVec 8) → Prop) (h1 : S8) (fr : List SV) (M : Mm) (K : Ko) : Prop := match got8 0 fr M with
 | some i => p i.cap i.x ∧ vLe G fr M 72 (ic8 n i.cap 0) (Mc8 i.x h0) (frK 72 oc8 fun fr1 => K .normal fr1 (Mc8 i.x h1))
 | none => False
def vL8d (h : S8) (fr : List SV) (M : Mm) (K : Ko) : Prop := match M with
 | [_, _, _, _, _, _, ⟨_, .a8 x⟩, _, _] => vLe G fr M 72 (id8 0) (Md8 x h (List.replicate 64 0)) (frK 72 od8 fun fr1 => K .normal fr1 (Md8 x h (wr h)))
 | _ => False
def L8 (s : List (BitVec 8)) (n J : Nat) (p q : I8 → Prop) (m : Nat) (r : Nat → List (BitVec 8) → Prop) (h1 : S8) : LT := (((noL.add 0 (vL8a s n J p)).add 2 (vL8b s (n + J + 8) q)).add 4 (vL8c m r h1)).add 6 (vL8d h1)
theorem vc8 (s : List (BitVec 8)) (n J : Nat) (p q : I8 → Prop) (m : Nat) (r : Nat → List (BitVec 8) → Prop) (h1 : S8) (K : SV → Mm → Prop) : (vf Tryz.prog EW (L8 s n J p q m r h1) 21 [.s s] G K) = (bif ile (↑(s.length + 1) : Int) 9223372036854775807 then ∀ (cap : Nat) (x : List (BitVec 8)), (s ++ bts { data := #[128] }).length ≤ cap → x = s ++ bts { data := #[128] } ++ List.replicate (cap - (s ++ bts { data := #[128] }).length) 0 → loopOf Tryz.prog 21 0 = loopOf Tryz.prog 21 0 ∧ p { j := 0, cap := cap, x := x } ∧ SV.s s = SV.s s ∧ SV.sl 5 0 (s ++ bts { data := #[128] }).length cap = SV.sl 5 0 n cap ∧ (false = false ∧ Cont.a64 BEG = Cont.a64 BEG) ∧ (false = false ∧ Cont.a64 PRI = Cont.a64 PRI) ∧ (false = false ∧ Cont.a64 CON = Cont.a64 CON) ∧ (false = false ∧ Cont.a64 WHO = Cont.a64 WHO) ∧ (false = false ∧ Cont.a64 ROM = Cont.a64 ROM) ∧ (true = true ∧ Cont.a8 x = Cont.a8 x) ∧ ∀ (cap : Nat) (x : List (BitVec 8)), p { j := J, cap := cap, x := x } → bif decide (n + J ≤ cap) && decide (x.length = cap) && decide (n + J + 8 ≤ 1099511627776) && true then ∀ (cap' : Nat) (rest : List (BitVec 8)), n + J + 8 + rest.length = cap' → loopOf Tryz.prog 21 2 = loopOf Tryz.prog 21 2 ∧ q { j := 0, cap := cap', x := List.take (n + J) x ++ List.replicate 8 0 ++ rest } ∧ SV.s s = SV.s s ∧ SV.sl (List.length (Ma8 x)) 0 (n + J + 8) cap' = SV.sl 6 0 (n + J + 8) cap' ∧ SV.i 7 = SV.i (7 - (↑0 : Int)) ∧ (false = false ∧ Cont.a64 BEG = Cont.a64 BEG) ∧ (false = false ∧ Cont.a64 PRI = Cont.a64 PRI) ∧ (false = false ∧ Cont.a64 CON = Cont.a64 CON) ∧ (false = false ∧ Cont.a64 WHO = Cont.a64 WHO) ∧ (false = false ∧ Cont.a64 ROM = Cont.a64 ROM) ∧ (true = true ∧ Cont.gone = Cont.gone) ∧ (true = true ∧ Cont.a8 (List.take (n + J) x ++ List.replicate 8 0 ++ rest) = Cont.a8 (List.take (n + J) x ++ List.replicate 8 0 ++ rest)) ∧ ∀ (cap : Nat) (x : List (BitVec 8)), q { j := 8, cap := cap, x := x } → loopOf Tryz.prog 21 4 = loopOf Tryz.prog 21 4 ∧ r cap x ∧ SV.sl 6 0 (n + J + 8 + 8) cap = SV.sl 6 0 m cap ∧ SV.ptr (List.length (Mb8 x)) 0 = SV.ptr 7 0 ∧ SV.i 0 = SV.i (128 * (↑0 : Int)) ∧ (false = false ∧ Cont.a64 BEG = Cont.a64 BEG) ∧ (false = false ∧ Cont.a64 PRI = Cont.a64 PRI) ∧ (false = false ∧ Cont.a64 CON = Cont.a64 CON) ∧ (false = false ∧ Cont.a64 WHO = Cont.a64 WHO) ∧ (false = false ∧ Cont.a64 ROM = Cont.a64 ROM) ∧ (true = true ∧ Cont.gone = Cont.gone) ∧ (true = true ∧ Cont.a8 x = Cont.a8 x) ∧ (true = true ∧ Cont.a64 H0 = Cont.a64 h0.l) ∧ loopOf Tryz.prog 21 6 = loopOf Tryz.prog 21 6 ∧ SV.ptr 7 0 = SV.ptr 7 0 ∧ SV.sl (List.length (Mc8 x h1)) 0 64 64 = SV.sl 8 0 64 64 ∧ SV.i 0 = SV.i (↑0 : Int) ∧ (false = false ∧ Cont.a64 BEG = Cont.a64 BEG) ∧ (false = false ∧ Cont.a64 PRI = Cont.a64 PRI) ∧ (false = false ∧ Cont.a64 CON = Cont.a64 CON) ∧ (false = false ∧ Cont.a64 WHO = Cont.a64 WHO) ∧ (false = false ∧ Cont.a64 ROM = Cont.a64 ROM) ∧ (true = true ∧ Cont.gone = Cont.gone) ∧ (true = true ∧ Cont.a8 x = Cont.a8 x) ∧ (true = true ∧ Cont.a64 h1.l = Cont.a64 h1.l) ∧ (true = true ∧ Cont.a8 (List.replicate 64 0) = Cont.a8 (List.replicate 64 0)) ∧ K (SV.s (List.take 64 (List.drop 0 (wr h1)))) (Md8 x h1 (wr h1)) else False else False) := by kernel_rfl
theorem vr8a (s : List (BitVec 8)) (n : Nat) (i : I8) (a : I8 → Prop) (q : Prop) : (frK 72 (ia8 s n i) fun fr => vround Tryz.prog EW noL 21 0 fr (Ma8 i.x) (Ks G 0 72 (got8 (i.j + 1)) [7] a (ia8 s n) (fun i => Ma8 i.x) q (ia8 s n i) (Ma8 i.x))) = (bif (↑(n + i.j) : Int).tmod 128 != 112 then bif decide (n + i.j ≤ i.cap) && decide (i.x.length = i.cap) && decide (n + i.j + 1 ≤ 1099511627776) && true then ∀ (cap' : Nat) (rest : List (BitVec 8)), n + i.j + 1 + rest.length = cap' → a { j := i.j + 1, cap := cap', x := List.take (n + i.j) i.x ++ List.take 1 (List.drop 0 [BitVec.ofInt 8 0]) ++ rest } ∧ SV.s s = ren (sig 5 [7]) (SV.s s) ∧ SV.sl (0 + 1 + 1 + 1 + 1 + 1 + 1 + 1) 0 (n + i.j + 1) cap' = ren (sig 5 [7]) (SV.sl 5 0 (n + (i.j + 1)) cap') ∧ (false = false ∧ Cont.a64 BEG = Cont.ren (sig 5 [7]) (Cont.a64 BEG)) ∧ (false = false ∧ Cont.a64 PRI = Cont.ren (sig 5 [7]) (Cont.a64 PRI)) ∧ (false = false ∧ Cont.a64 CON = Cont.ren (sig 5 [7]) (Cont.a64 CON)) ∧ (false = false ∧ Cont.a64 WHO = Cont.ren (sig 5 [7]) (Cont.a64 WHO)) ∧ (false = false ∧ Cont.a64 ROM = Cont.ren (sig 5 [7]) (Cont.a64 ROM)) ∧ (true = true ∧ Cont.a8 (List.take (n + i.j) i.x ++ List.take 1 (List.drop 0 [BitVec.ofInt 8 0]) ++ rest) = Cont.ren (sig 5 [7]) (Cont.a8 (List.take (n + i.j) i.x ++ List.take 1 (List.drop 0 [BitVec.ofInt 8 0]) ++ rest))) ∧ True else False else 0 = 0 ∧ q ∧ SV.s s = SV.s s ∧ SV.sl 5 0 (n + i.j) i.cap = SV.sl 5 0 (n + i.j) i.cap ∧ (false = false ∧ Cont.a64 BEG = Cont.a64 BEG) ∧ (false = false ∧ Cont.a64 PRI = Cont.a64 PRI) ∧ (false = false ∧ Cont.a64 CON = Cont.a64 CON) ∧ (false = false ∧ Cont.a64 WHO = Cont.a64 WHO) ∧ (false = false ∧ Cont.a64 ROM = Cont.a64 ROM) ∧ (true = true ∧ Cont.a8 i.x = Cont.a8 i.x) ∧ True) := by kernel_rfl
theorem vr8b (s : List (BitVec 8)) (n : Nat) (i : I8) (a : I8 → Prop) (q : Prop) : (frK 72 (ib8 s n i) fun fr => vround Tryz.prog EW noL 21 2 fr (Mb8 i.x) (Ks G 2 72 (got8 (i.j + 1)) [5, 8] a (ib8 s n) (fun i => Mb8 i.x) q (ob8 n i.cap) (Mb8 i.x))) = (bif ile 0 (7 - (↑i.j : Int)) then bif inI (8 * (7 - (↑i.j : Int))) then bif decide (n + i.j ≤ i.cap) && decide (i.x.length = i.cap) && decide (n + i.j + (List.take 1 (List.drop 0 [BitVec.setWidth 8 ((BitVec.ofInt 64 8 * BitVec.ofInt 64 (↑s.length : Int)) >>> (BitVec.ofInt 64 (8 * (7 - (↑i.j : Int)))).toNat)])).length ≤ 1099511627776) && true then ∀ (cap' : Nat) (rest : List (BitVec 8)), n + i.j + (List.take 1 (List.drop 0 [BitVec.setWidth 8 ((BitVec.ofInt 64 8 * BitVec.ofInt 64 (↑s.length : Int)) >>> (BitVec.ofInt 64 (8 * (7 - (↑i.j : Int)))).toNat)])).length + rest.length = cap' → bif inI (7 - (↑i.j : Int) - 1) then a { j := i.j + 1, cap := cap', x := List.take (n + i.j) i.x ++ List.take 1 (List.drop 0 [BitVec.setWidth 8 ((BitVec.ofInt 64 8 * BitVec.ofInt 64 (↑s.length : Int)) >>> (BitVec.ofInt 64 (8 * (7 - (↑i.j : Int)))).toNat)]) ++ rest } ∧ SV.s s = ren (sig 5 [5, 8]) (SV.s s) ∧ SV.sl (0 + 1 + 1 + 1 + 1 + 1 + 1 + 1 + 1) 0 (n + i.j + (List.take 1 (List.drop 0 [BitVec.setWidth 8 ((BitVec.ofInt 64 8 * BitVec.ofInt 64 (↑s.length : Int)) >>> (BitVec.ofInt 64 (8 * (7 - (↑i.j : Int)))).toNat)])).length) cap' = ren (sig 5 [5, 8]) (SV.sl 6 0 (n + (i.j + 1)) cap') ∧ SV.i (7 - (↑i.j : Int) - 1) = ren (sig 5 [5, 8]) (SV.i (7 - (↑(i.j + 1) : Int))) ∧ (false = false ∧ Cont.a64 BEG = Cont.ren (sig 5 [5, 8]) (Cont.a64 BEG)) ∧ (false = false ∧ Cont.a64 PRI = Cont.ren (sig 5 [5, 8]) (Cont.a64 PRI)) ∧ (false = false ∧ Cont.a64 CON = Cont.ren (sig 5 [5, 8]) (Cont.a64 CON)) ∧ (false = false ∧ Cont.a64 WHO = Cont.ren (sig 5 [5, 8]) (Cont.a64 WHO)) ∧ (false = false ∧ Cont.a64 ROM = Cont.ren (sig 5 [5, 8]) (Cont.a64 ROM)) ∧ (true = true ∧ Cont.gone = Cont.ren (sig 5 [5, 8]) Cont.gone) ∧ (true = true ∧ Cont.a8 (List.take (n + i.j) i.x ++ List.take 1 (List.drop 0 [BitVec.setWidth 8 ((BitVec.ofInt 64 8 * BitVec.ofInt 64 (↑s.length : Int)) >>> (BitVec.ofInt 64 (8 * (7 - (↑i.j : Int)))).toNat)]) ++ rest) = Cont.ren (sig 5 [5, 8]) (Cont.a8 (List.take (n + i.j) i.x ++ List.take 1 (List.drop 0 [BitVec.setWidth 8 ((BitVec.ofInt 64 8 * BitVec.ofInt 64 (↑s.length : Int)) >>> (BitVec.ofInt 64 (8 * (7 - (↑i.j : Int)))).toNat)]) ++ rest))) ∧ True else False else False else False else 2 = 2 ∧ q ∧ SV.sl 6 0 (n + i.j) i.cap = SV.sl 6 0 (n + 8) i.cap ∧ (false = false ∧ Cont.a64 BEG = Cont.a64 BEG) ∧ (false = false ∧ Cont.a64 PRI = Cont.a64 PRI) ∧ (false = false ∧ Cont.a64 CON = Cont.a64 CON) ∧ (false = false ∧ Cont.a64 WHO = Cont.a64 WHO) ∧ (false = false ∧ Cont.a64 ROM = Cont.a64 ROM) ∧ (true = true ∧ Cont.gone = Cont.gone) ∧ (true = true ∧ Cont.a8 i.x = Cont.a8 i.x) ∧ True) := by kernel_rfl
theorem vr8c (x : List (BitVec 8)) (h h' z : S8) (n cap j : Nat) (a : Prop) : (frK 72 (ic8 n cap j) fun fr => vround Tryz.prog EW noL 21 4 fr (Mc8 x h) (Kn G 4 72 a (ic8 n cap (j + 1)) (Mc8 x h') oc8 (Mc8 x z))) = (bif ilt (128 * (↑j : Int)) (↑n : Int) then bif inI (128 * (↑j : Int) + 128) then bif ile (128 * (↑j : Int)) (128 * (↑j : Int) + 128) && ile (128 * (↑j : Int) + 128) (↑cap : Int) && ilt (128 * (↑j : Int)) (↑cap : Int) then bif ((128 * (↑j : Int) + 128).toNat - (128 * (↑j : Int)).toNat).beq 128 && ((128 * (↑j : Int)).toNat + 128).ble x.length then bif inI (128 * (↑j : Int) + 128) then a ∧ SV.sl 6 0 n cap = SV.sl 6 0 n cap ∧ SV.ptr 7 0 = SV.ptr 7 0 ∧ SV.i (128 * (↑j : Int) + 128) = SV.i (128 * (↑(j + 1) : Int)) ∧ (false = false ∧ Cont.a64 BEG = Cont.a64 BEG) ∧ (false = false ∧ Cont.a64 PRI = Cont.a64 PRI) ∧ (false = false ∧ Cont.a64 CON = Cont.a64 CON) ∧ (false = false ∧ Cont.a64 WHO = Cont.a64 WHO) ∧ (false = false ∧ Cont.a64 ROM = Cont.a64 ROM) ∧ (true = true ∧ Cont.gone = Cont.gone) ∧ (true = true ∧ Cont.a8 x = Cont.a8 x) ∧ (true = true ∧ Cont.a64 (nextS h (List.drop (128 * (↑j : Int)).toNat x)).l = Cont.a64 h'.l) ∧ True else False else False else False else False else 4 = 4 ∧ SV.ptr 7 0 = SV.ptr 7 0 ∧ (false = false ∧ Cont.a64 BEG = Cont.a64 BEG) ∧ (false = false ∧ Cont.a64 PRI = Cont.a64 PRI) ∧ (false = false ∧ Cont.a64 CON = Cont.a64 CON) ∧ (false = false ∧ Cont.a64 WHO = Cont.a64 WHO) ∧ (false = false ∧ Cont.a64 ROM = Cont.a64 ROM) ∧ (true = true ∧ Cont.gone = Cont.gone) ∧ (true = true ∧ Cont.a8 x = Cont.a8 x) ∧ (true = true ∧ Cont.a64 h.l = Cont.a64 z.l) ∧ True) := by kernel_rfl
theorem vr8d (x : List (BitVec 8)) (h : S8) (o o' z : List (BitVec 8)) (j : Nat) (a : Prop) : (frK 72 (id8 j) fun fr => vround Tryz.prog EW noL 21 6 fr (Md8 x h o) (Kn G 6 72 a (id8 (j + 1)) (Md8 x h o') od8 (Md8 x h z))) = (bif ilt (↑j : Int) 64 then bif inI (↑j : Int) then bif inR ((↑j : Int).tdiv 8) 8 then bif ((↑j : Int).tdiv 8).toNat.blt h.l.length then bif inI ((↑j : Int).tmod 8 * 8) then bif inI (56 - (↑j : Int).tmod 8 * 8) then bif inR (↑j : Int) 64 then bif j.blt o.length then bif inI ((↑j : Int) + 1) then a ∧ SV.ptr 7 0 = SV.ptr 7 0 ∧ SV.sl 8 0 64 64 = SV.sl 8 0 64 64 ∧ SV.i ((↑j : Int) + 1) = SV.i (↑(j + 1) : Int) ∧ (false = false ∧ Cont.a64 BEG = Cont.a64 BEG) ∧ (false = false ∧ Cont.a64 PRI = Cont.a64 PRI) ∧ (false = false ∧ Cont.a64 CON = Cont.a64 CON) ∧ (false = false ∧ Cont.a64 WHO = Cont.a64 WHO) ∧ (false = false ∧ Cont.a64 ROM = Cont.a64 ROM) ∧ (true = true ∧ Cont.gone = Cont.gone) ∧ (true = true ∧ Cont.a8 x = Cont.a8 x) ∧ (true = true ∧ Cont.a64 h.l = Cont.a64 h.l) ∧ (true = true ∧ Cont.a8 (o.set j (BitVec.setWidth 8 (h.l.getD ((↑j : Int).tdiv 8).toNat 0 >>> (BitVec.ofInt 64 (56 - (↑j : Int).tmod 8 * 8)).toNat))) = Cont.a8 o') ∧ True else False else False else False else False else False else False else False else False else 6 = 6 ∧ SV.sl 8 0 64 64 = SV.sl 8 0 64 64 ∧ (false = false ∧ Cont.a64 BEG = Cont.a64 BEG) ∧ (false = false ∧ Cont.a64 PRI = Cont.a64 PRI) ∧ (false = false ∧ Cont.a64 CON = Cont.a64 CON) ∧ (false = false ∧ Cont.a64 WHO = Cont.a64 WHO) ∧ (false = false ∧ Cont.a64 ROM = Cont.a64 ROM) ∧ (true = true ∧ Cont.gone = Cont.gone) ∧ (true = true ∧ Cont.a8 x = Cont.a8 x) ∧ (true = true ∧ Cont.a64 h.l = Cont.a64 h.l) ∧ (true = true ∧ Cont.a8 o = Cont.a8 z) ∧ True) := by kernel_rfl
def nz (s : List (BitVec 8)) : Nat := (239 - s.length % 128) % 128
def bits (s : List (BitVec 8)) : BitVec 64 := BitVec.ofInt 64 8 * BitVec.ofInt 64 (s.length : Int)
def pad (s : List (BitVec 8)) : List (BitVec 8) := s ++ [128] ++ List.replicate (nz s) 0 ++ List.replicate 8 0 ++ by64 (bits s)
theorem pad_len (s : List (BitVec 8)) : (pad s).length = s.length + 1 + nz s + 8 + 8 := by
 unfold pad; simp only [List.length_append, List.length_replicate, List.length_singleton, by64_len]
theorem pad_mod (s : List (BitVec 8)) : (pad s).length % 128 = 0 := by
 rw [pad_len]; unfold nz; omega
def sts (x : List (BitVec 8)) : Nat → S8
 | 0 => h0
 | j + 1 => nextS (sts x j) (x.drop (128 * j))
theorem w16_take (b : List (BitVec 8)) : w16 (b.take 128) = w16 b := by
 unfold w16
 apply List.map_congr_left
 intro k hk
 have hk := List.mem_range.1 hk
 rw [List.drop_take, List.take_take, Nat.min_eq_left (by omega)]
theorem next_take (s : S8) (b : List (BitVec 8)) : nextS s (b.take 128) = nextS s b := by unfold nextS; rw [w16_take]
theorem next_congr (s : S8) (b c : List (BitVec 8)) (h : b.take 128 = c.take 128) : nextS s b = nextS s c := by rw [← next_take, h, next_take]
theorem sts_app (x y : List (BitVec 8)) : ∀ (j : Nat), 128 * j ≤ x.length → sts (x ++ y) j = sts x j
 | 0, _ => rfl
 | j + 1, h => by
  rw [sts, sts, sts_app x y j (by omega)]
  apply next_congr
  rw [List.drop_append_of_le_length (by omega), List.take_append_of_le_length (by rw [List.length_drop]; omega)]
def rOf (s : List (BitVec 8)) : List (BitVec 8) := wr (sts (pad s) ((pad s).length / 128))
def p8 (s : List (BitVec 8)) (i : I8) : Prop := i.j ≤ nz s ∧ i.x.length = i.cap ∧ ∃ rest, i.x = s ++ [128] ++ List.replicate i.j 0 ++ rest
def q8 (s : List (BitVec 8)) (i : I8) : Prop := i.j ≤ 8 ∧ i.x.length = i.cap ∧ ∃ rest, i.x = (s ++ [128] ++ List.replicate (nz s) 0 ++ List.replicate 8 0) ++ (by64 (bits s)).take i.j ++ rest
def r8 (s : List (BitVec 8)) (cap : Nat) (x : List (BitVec 8)) : Prop := x.length = cap ∧ ∃ rest, x = pad s ++ rest
theorem loop8a (s : List (BitVec 8)) (hs : s.length ≤ 1000000000) : ∀ fr M K, vL8a s (s.length + 1) (nz s) (p8 s) fr M K → Wp Tryz.prog G G (loopOf Tryz.prog 21 0) fr M K := by
 intro fr M K h
 unfold vL8a at h
 split at h
 ·rename_i i0 hi0
  obtain ⟨hp0, h⟩ := h
  obtain ⟨h0, hK⟩ := vLe_ok h
  refine loop_sel ew_ok mixed (noL_ok _ _ _ _) (Nat.le_refl _) (by kernel_rfl) (ia8 s (s.length + 1)) (fun i => Ma8 i.x) (p8 s) (fun i => nz s - i.j) (fun i => got8 (i.j + 1)) (fun _ => [7]) (fun i => i.j = nz s) (fun i => ia8 s (s.length + 1) i) (fun i => Ma8 i.x) i0 hp0 (fun i hp => of_eq (vr8a s (s.length + 1) i _ _) ?_) h0 (fun i hp hq => ?_)
  ·obtain ⟨j, c, x⟩ := i
   obtain ⟨hj, hx, rest, hr⟩ := hp
   dsimp only at hj hx hr ⊢
   rw [show ((s.length + 1 + j : Nat) : Int).tmod 128 = (((s.length + 1 + j) % 128 : Nat) : Int) from tmod_cast _ 128]
   have hl : (s ++ [128] ++ List.replicate j (0 : BitVec 8)).length = s.length + 1 + j := by simp; omega
   have hcl : s.length + 1 + j ≤ c := by rw [← hx, hr, List.length_append, hl]; omega
   have ht : x.take (s.length + 1 + j) = s ++ [128] ++ List.replicate j 0 := by rw [hr, List.take_append_of_le_length (by omega), List.take_of_length_le (by omega)]
   have hnz : nz s = (239 - s.length % 128) % 128 := rfl
   cases hc : (((s.length + 1 + j) % 128 : Nat) : Int) != 112
   ·have h112 : (s.length + 1 + j) % 128 = 112 := by simp at hc; omega
    have hj2 : j = nz s := by omega
    exact ⟨rfl, hj2, rfl, rfl, ⟨rfl, rfl⟩, ⟨rfl, rfl⟩, ⟨rfl, rfl⟩, ⟨rfl, rfl⟩, ⟨rfl, rfl⟩, ⟨rfl, rfl⟩, trivial⟩
   ·have h112 : (s.length + 1 + j) % 128 ≠ 112 := by simp at hc; omega
    have hj2 : j < nz s := by omega
    rw [ht]
    refine bif_of ?_ fun cap' rest' hc' => ⟨⟨⟨by show j + 1 ≤ nz s; omega, ?_, rest', ?_⟩, by show nz s - (j + 1) < nz s - j; omega⟩, rfl, rfl, ⟨rfl, rfl⟩, ⟨rfl, rfl⟩, ⟨rfl, rfl⟩, ⟨rfl, rfl⟩, ⟨rfl, rfl⟩, ⟨rfl, rfl⟩, trivial⟩
    ·simp; omega
    ·dsimp only
     rw [List.length_append, List.length_append, hl]; exact hc'
    ·dsimp only
     rw [List.replicate_succ']
     simp
  ·obtain ⟨j, c, x⟩ := i
   obtain rfl : j = nz s := hq
   have := hK c x hp
   rw [frK_eq] at this
   exact this
 ·exact h.elim
theorem loop8b (s : List (BitVec 8)) (hs : s.length ≤ 1000000000) : ∀ fr M K, vL8b s (s.length + 1 + nz s + 8) (q8 s) fr M K → Wp Tryz.prog G G (loopOf Tryz.prog 21 2) fr M K := by
 intro fr M K h
 unfold vL8b at h
 split at h
 ·rename_i i0 hi0
  obtain ⟨hp0, h⟩ := h
  obtain ⟨h0, hK⟩ := vLe_ok h
  refine loop_sel ew_ok mixed (noL_ok _ _ _ _) (Nat.le_refl _) (by kernel_rfl) (ib8 s (s.length + 1 + nz s + 8)) (fun i => Mb8 i.x) (q8 s) (fun i => 8 - i.j) (fun i => got8 (i.j + 1)) (fun _ => [5, 8]) (fun i => i.j = 8) (fun i => ob8 (s.length + 1 + nz s + 8) i.cap) (fun i => Mb8 i.x) i0 hp0 (fun i hp => of_eq (vr8b s (s.length + 1 + nz s + 8) i _ _) ?_) h0 (fun i hp hq => ?_)
  ·obtain ⟨j, c, x⟩ := i
   obtain ⟨hj, hx, rest, hr⟩ := hp
   dsimp only at hj hx hr ⊢
   have hl : ((s ++ [128] ++ List.replicate (nz s) (0 : BitVec 8) ++ List.replicate 8 0)).length + ((by64 (bits s)).take j).length = s.length + 1 + nz s + 8 + j := by simp [by64_len]; omega
   have hcl : s.length + 1 + nz s + 8 + j ≤ c := by rw [← hx, hr, List.length_append, List.length_append, hl]; omega
   have ht : x.take (s.length + 1 + nz s + 8 + j) = (s ++ [128] ++ List.replicate (nz s) 0 ++ List.replicate 8 0) ++ (by64 (bits s)).take j := by rw [hr]; exact take_app _ _ _ _ hl
   have hnz : nz s < 128 := Nat.mod_lt _ (by decide)
   cases hc : ile 0 (7 - (j : Int))
   ·have hj2 : j = 8 := by rw [ile_eq] at hc; have := of_decide_eq_false hc; omega
    subst hj2
    exact ⟨rfl, rfl, rfl, ⟨rfl, rfl⟩, ⟨rfl, rfl⟩, ⟨rfl, rfl⟩, ⟨rfl, rfl⟩, ⟨rfl, rfl⟩, ⟨rfl, rfl⟩, ⟨rfl, rfl⟩, trivial⟩
   ·have hj2 : j < 8 := by rw [ile_eq] at hc; have := of_decide_eq_true hc; omega
    have e : (BitVec.ofInt 64 (8 * (7 - (j : Int)))).toNat = 56 - 8 * j := by rw [BitVec.toNat_ofInt]; omega
    rw [e, ht]
    refine bif_of (inI_iff.2 (by omega)) (bif_of ?_ fun cap' rest' hc' => bif_of (inI_iff.2 (by omega)) ⟨⟨⟨by show j + 1 ≤ 8; omega, ?_, rest', ?_⟩, by show 8 - (j + 1) < 8 - j; omega⟩, rfl, rfl, ?_, ⟨rfl, rfl⟩, ⟨rfl, rfl⟩, ⟨rfl, rfl⟩, ⟨rfl, rfl⟩, ⟨rfl, rfl⟩, ⟨rfl, rfl⟩, ⟨rfl, rfl⟩, trivial⟩)
    ·simp; omega
    ·dsimp only
     rw [← hc', List.length_append, List.length_append, List.length_append, hl]
    ·dsimp only
     rw [by64_take (bits s) j hj2]
     unfold bits
     simp
    ·exact congrArg SV.i (by omega)
  ·obtain ⟨j, c, x⟩ := i
   obtain rfl : j = 8 := hq
   have := hK c x hp
   rw [frK_eq] at this
   exact this
 ·exact h.elim
theorem loop8c (s : List (BitVec 8)) (hs : s.length ≤ 1000000000) : ∀ fr M K, vL8c ((pad s).length) (r8 s) (sts (pad s) ((pad s).length / 128)) fr M K → Wp Tryz.prog G G (loopOf Tryz.prog 21 4) fr M K := by
 intro fr M K h
 unfold vL8c at h
 split at h
 ·rename_i i0 hi0
  obtain ⟨j0, c, x⟩ := i0
  obtain ⟨⟨hxc, rest, hr⟩, h⟩ := h
  dsimp only at hxc hr h
  have hpl := pad_len s
  have hpm := pad_mod s
  have hnz : nz s < 128 := Nat.mod_lt _ (by decide)
  refine loop_next ew_ok mixed (noL_ok _ _ _ _) (Nat.le_refl _) (by kernel_rfl) (fun j => ic8 (pad s).length c j) (fun j => Mc8 x (sts x j)) (fun j => 128 * j ≤ (pad s).length) (fun j => (pad s).length - 128 * j) (fun j => j + 1) 0 (by omega) (fun j hj => of_eq (vr8c x (sts x j) (sts x (j + 1)) (sts (pad s) ((pad s).length / 128)) (pad s).length c j _) ?_) fr M K h
  cases hc : ilt (128 * (j : Int)) ((pad s).length : Int)
  ·have hj2 : 128 * j = (pad s).length := by rw [ilt_eq] at hc; have := of_decide_eq_false hc; omega
   have hj3 : (pad s).length / 128 = j := by omega
   rw [hj3, hr, sts_app _ _ _ (by omega)]
   simp
  ·have hj2 : 128 * j < (pad s).length := by rw [ilt_eq] at hc; have := of_decide_eq_true hc; omega
   have e : (128 * (j : Int)).toNat = 128 * j := by omega
   have e2 : (128 * (j : Int) + 128).toNat = 128 * j + 128 := by omega
   have hxl : 128 * j + 128 ≤ x.length := by rw [hr, List.length_append]; omega
   rw [e, e2]
   refine bif_of (inI_iff.2 (by omega)) (bif_of ?_ (bif_of ?_ (bif_of (inI_iff.2 (by omega)) ⟨⟨by omega, by omega⟩, rfl, rfl, congrArg SV.i (by omega), ⟨rfl, rfl⟩, ⟨rfl, rfl⟩, ⟨rfl, rfl⟩, ⟨rfl, rfl⟩, ⟨rfl, rfl⟩, ⟨rfl, rfl⟩, ⟨rfl, rfl⟩, ⟨rfl, rfl⟩, trivial⟩)))
   ·simp [ile_eq, ilt_eq]; omega
   ·rw [Nat.add_sub_cancel_left, Bool.and_eq_true]
    exact ⟨rfl, Nat.ble_eq_true_of_le hxl⟩
 ·exact h.elim
theorem by64_getD (w : BitVec 64) (k : Nat) (h : k < 8) : (by64 w)[k]? = some ((w >>> (56 - 8 * k)).setWidth 8) := by simp [by64, h]
theorem fm_get : ∀ (l : List (BitVec 64)) (j : Nat), j < 8 * l.length → (l.flatMap by64)[j]? = some ((l.getD (j / 8) 0 >>> (56 - 8 * (j % 8))).setWidth 8)
 | [], j, h => by simp at h
 | w :: l, j, h => by
  rw [List.flatMap_cons]
  by_cases hj : j < 8
  ·rw [List.getElem?_append_left (by rw [by64_len]; exact hj), by64_getD w j hj, Nat.div_eq_of_lt hj, Nat.mod_eq_of_lt hj]
   rfl
  ·rw [List.getElem?_append_right (by rw [by64_len]; omega), by64_len, fm_get l (j - 8) (by simp only [List.length_cons] at h; omega)]
   rw [show j / 8 = (j - 8) / 8 + 1 by omega, show (j - 8) % 8 = j % 8 by omega]
   rfl
theorem wr_len (h : S8) : (wr h).length = 64 := by unfold wr; rw [fm_len, s8_len]
def ou (h : S8) (j : Nat) : List (BitVec 8) := (wr h).take j ++ List.replicate (64 - j) 0
theorem ou_len (h : S8) (j : Nat) (hj : j ≤ 64) : (ou h j).length = 64 := by
 unfold ou; rw [List.length_append, List.length_take, wr_len, List.length_replicate]; omega
theorem ou_set (h : S8) (j : Nat) (hj : j < 64) : (ou h j).set j ((h.l.getD (j / 8) 0 >>> (56 - 8 * (j % 8))).setWidth 8) = ou h (j + 1) := by
 unfold ou
 have hl : ((wr h).take j).length = j := by rw [List.length_take, wr_len]; omega
 obtain ⟨k, hk⟩ : ∃ k, 64 - j = k + 1 := ⟨64 - j - 1, by omega⟩
 have hg : (wr h)[j]? = some ((h.l.getD (j / 8) 0 >>> (56 - 8 * (j % 8))).setWidth 8) := fm_get h.l j (by rw [s8_len]; omega)
 rw [List.take_add_one, hg, Option.toList_some, List.set_append_right _ _ (by omega), hl, Nat.sub_self, hk, List.replicate_succ, List.set_cons_zero, show 64 - (j + 1) = k by omega]
 simp
theorem loop8d (h : S8) : ∀ fr M K, vL8d h fr M K → Wp Tryz.prog G G (loopOf Tryz.prog 21 6) fr M K := by
 intro fr M K hh
 unfold vL8d at hh
 split at hh
 ·rename_i e1 e2 e3 f1 f2 f3 r4 x e5 e6
  refine loop_next ew_ok mixed (noL_ok _ _ _ _) (Nat.le_refl _) (by kernel_rfl) (fun j => id8 j) (fun j => Md8 x h (ou h j)) (fun j => j ≤ 64) (fun j => 64 - j) (fun j => j + 1) 0 (by omega) (fun j hj => of_eq (vr8d x h (ou h j) (ou h (j + 1)) (wr h) j _) ?_) fr _ K hh
  have hlen := ou_len h j hj
  cases hc : ilt (j : Int) 64
  ·have hj2 : j = 64 := by rw [ilt_eq] at hc; have := of_decide_eq_false hc; omega
   subst hj2
   have : ou h 64 = wr h := by unfold ou; rw [List.take_of_length_le (by rw [wr_len]; decide)]; simp
   rw [this]
   simp
  ·have hj2 : j < 64 := by rw [ilt_eq] at hc; have := of_decide_eq_true hc; omega
   have ed : (j : Int).tdiv 8 = ((j / 8 : Nat) : Int) := tdiv_cast j 8
   have em : (j : Int).tmod 8 = ((j % 8 : Nat) : Int) := tmod_cast j 8
   have e3 : (BitVec.ofInt 64 (56 - ((j % 8 : Nat) : Int) * 8)).toNat = 56 - 8 * (j % 8) := by rw [BitVec.toNat_ofInt]; omega
   rw [ed, em, e3, Int.toNat_natCast, ou_set h j hj2, hlen, s8_len]
   refine bif_of (inI_iff.2 (by omega)) (bif_of (inR_nat (by omega)) (bif_of (blt_of (by omega)) (bif_of (inI_iff.2 (by omega)) (bif_of (inI_iff.2 (by omega)) (bif_of (inR_nat (by omega)) (bif_of (blt_of (by omega)) (bif_of (inI_iff.2 (by omega)) ?_)))))))
   refine ⟨⟨by omega, by omega⟩, ?_⟩
   simp
 ·exact hh.elim
theorem loop8 (s : List (BitVec 8)) (hs : s.length ≤ 1000000000) : LOk Tryz.prog G G 21 (L8 s (s.length + 1) (nz s) (p8 s) (q8 s) (pad s).length (r8 s) (sts (pad s) ((pad s).length / 128))) :=
 LT.add_ok (LT.add_ok (LT.add_ok (LT.add_ok (noL_ok _ _ _ _) (loop8a s hs)) (loop8b s hs)) (loop8c s hs)) (loop8d _)
def cRef (D : List (BitVec 8) → List (BitVec 8)) : List SV → List Cont → Option (Bool × SV)
 | [.s s], _ => some (Nat.ble s.length 1000000000, .s (D s))
 | _, _ => none
theorem ref_ok : POk Tryz.prog G 21 (cRef rOf) := by
 intro args acs r h β M w hR hw ha
 unfold cRef at h
 split at h
 ·rename_i s
  simp only [Option.some.injEq, Prod.mk.injEq] at h
  obtain ⟨hs, rfl⟩ := h
  have hs := Nat.le_of_ble_eq_true hs
  have hnz : nz s < 128 := Nat.mod_lt _ (by decide)
  refine pure0 (vf_ok ew_ok mixed (loop8 s hs) (of_eq (vc8 s _ _ _ _ _ _ _ _) ?_)) rfl rfl hR
  have hm : (s ++ bts { data := #[128] }).length = s.length + 1 := by rw [List.length_append]; rfl
  refine bif_of ?_ fun cap x0 hcap hx0 => ⟨rfl, ⟨Nat.zero_le _, ?_, List.replicate (cap - (s ++ bts { data := #[128] }).length) 0, ?_⟩, rfl, ?_, ⟨rfl, rfl⟩, ⟨rfl, rfl⟩, ⟨rfl, rfl⟩, ⟨rfl, rfl⟩, ⟨rfl, rfl⟩, ⟨rfl, rfl⟩, fun cap x hp => bif_of ?_ fun cap' rest hc => ?_⟩
  ·rw [ile_eq]; exact decide_eq_true (by omega)
  ·dsimp only
   rw [hx0, List.length_append, List.length_replicate]; omega
  ·dsimp only
   rw [hx0, List.replicate_zero, List.append_nil]; rfl
  ·rw [hm]
  ·obtain ⟨-, hx, rest, hr⟩ := hp
   dsimp only at hx hr
   have : s.length + 1 + nz s ≤ x.length := by rw [hr]; simp; omega
   simp; omega
  ·obtain ⟨-, hx, rest1, hr⟩ := hp
   dsimp only at hx hr
   have ht : x.take (s.length + 1 + nz s) = s ++ [128] ++ List.replicate (nz s) 0 := by
    have hl : (s ++ [128] ++ List.replicate (nz s) (0 : BitVec 8)).length = s.length + 1 + nz s := by simp; omega
    rw [hr, List.take_append_of_le_length (by omega), List.take_of_length_le (by omega)]
   have hxl : (x.take (s.length + 1 + nz s)).length = s.length + 1 + nz s := by rw [ht]; simp; omega
   refine ⟨rfl, ⟨Nat.zero_le _, ?_, rest, ?_⟩, rfl, rfl, rfl, ⟨rfl, rfl⟩, ⟨rfl, rfl⟩, ⟨rfl, rfl⟩, ⟨rfl, rfl⟩, ⟨rfl, rfl⟩, ⟨rfl, rfl⟩, ⟨rfl, rfl⟩, fun cap2 x2 hq => ?_⟩
   ·dsimp only
    rw [List.length_append, List.length_append, hxl, List.length_replicate]; exact hc
   ·dsimp only
    rw [ht, List.take_zero, List.append_nil]
   ·obtain ⟨-, hx2, rest2, hr2⟩ := hq
    dsimp only at hx2 hr2
    rw [List.take_of_length_le (by rw [by64_len]; decide)] at hr2
    refine ⟨rfl, ⟨hx2, rest2, hr2⟩, by rw [pad_len], rfl, rfl, ⟨rfl, rfl⟩, ⟨rfl, rfl⟩, ⟨rfl, rfl⟩, ⟨rfl, rfl⟩, ⟨rfl, rfl⟩, ⟨rfl, rfl⟩, ⟨rfl, rfl⟩, ⟨rfl, congrArg Cont.a64 h0_l.symm⟩, rfl, rfl, rfl, rfl, ⟨rfl, rfl⟩, ⟨rfl, rfl⟩, ⟨rfl, rfl⟩, ⟨rfl, rfl⟩, ⟨rfl, rfl⟩, ⟨rfl, rfl⟩, ⟨rfl, rfl⟩, ⟨rfl, rfl⟩, ⟨rfl, rfl⟩, ?_⟩
    rw [List.drop_zero, List.take_of_length_le (by rw [wr_len]; decide)]
    rfl
 ·cases h
end Sh
end Go.Proofs.YtdfghknonbmadaaGreatDoor
