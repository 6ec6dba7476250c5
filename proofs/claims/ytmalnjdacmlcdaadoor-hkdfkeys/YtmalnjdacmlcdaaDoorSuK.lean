/-
  sum: the digest of a text, as the document reckons it. No statement is proved here.
-/
import Derived.Test.YtmalnjdacmlcdaaDoorSuJ
namespace Go.Proofs.YtmalnjdacmlcdaaDoor
open Go.RowKit
set_option linter.unusedVariables false
set_option linter.unusedSimpArgs false
set_option maxRecDepth 100000

/-- A loop's state: how many bytes are added, how much there is room for, and what the block holds. -/
structure I10 where
  j : Nat
  cap : Nat
  x : List (BitVec 8)
def Ma (x : List (BitVec 8)) : Mm := [⟨false, .a32 H0⟩, ⟨false, .a32 K64⟩, ⟨true, .a8 x⟩]
def Mc (x : List (BitVec 8)) (h : List (BitVec 32)) : Mm := [⟨false, .a32 H0⟩, ⟨false, .a32 K64⟩, ⟨true, .a8 x⟩, ⟨true, .a32 h⟩, ⟨true, .a64 H64⟩]
def Md (x : List (BitVec 8)) (h : S8) (o : List (BitVec 8)) : Mm := [⟨false, .a32 H0⟩, ⟨false, .a32 K64⟩, ⟨true, .a8 x⟩, ⟨true, .a32 h.l⟩, ⟨true, .a64 H64⟩, ⟨true, .a8 o⟩]
def ia (s : List (BitVec 8)) (n : Nat) (i : I10) : List (Nat × SV) := [(0, .s s), (3, .sl 2 0 (n + i.j) i.cap)]
def ib (s : List (BitVec 8)) (n : Nat) (i : I10) : List (Nat × SV) := [(0, .s s), (3, .sl 2 0 (n + i.j) i.cap), (4, .i (7 - (i.j : Int)))]
def ob (n cap : Nat) : List (Nat × SV) := [(3, .sl 2 0 (n + 8) cap)]
def ie (n cap j : Nat) : List (Nat × SV) := [(3, .sl 2 0 n cap), (5, .ptr 3 0), (6, .ptr 4 0), (7, .i (j : Int))]
def oe (n cap : Nat) : List (Nat × SV) := [(3, .sl 2 0 n cap), (5, .ptr 3 0)]
def ic (n cap j : Nat) : List (Nat × SV) := [(3, .sl 2 0 n cap), (5, .ptr 3 0), (8, .i (64 * (j : Int)))]
def oc : List (Nat × SV) := [(5, .ptr 3 0)]
def id10 (j : Nat) : List (Nat × SV) := [(5, .ptr 3 0), (9, .sl 5 0 32 32), (10, .i (j : Int))]
def od : List (Nat × SV) := [(9, .sl 5 0 32 32)]
def got10 (j : Nat) (fr : List SV) (M : Mm) : Option I10 := match fr with
  | _ :: _ :: _ :: SV.sl k _ _ cap :: _ => match M[k]? with
    | some ⟨_, .a8 x⟩ => some ⟨j, cap, x⟩
    | _ => none
  | _ => none
def vL10a (s : List (BitVec 8)) (n J : Nat) (p : I10 → Prop) (fr : List SV) (M : Mm) (K : Ko) : Prop := match got10 0 fr M with
  | some i => p i ∧ vLe G fr M 83 (ia s n i) (Ma i.x) (∀ cap x, p ⟨J, cap, x⟩ → frK 83 (ia s n ⟨J, cap, x⟩) fun fr1 => K .normal fr1 (Ma x))
  | none => False
def vL10b (s : List (BitVec 8)) (n : Nat) (p : I10 → Prop) (fr : List SV) (M : Mm) (K : Ko) : Prop := match got10 0 fr M with
  | some i => p i ∧ vLe G fr M 83 (ib s n i) (Ma i.x) (∀ cap x, p ⟨8, cap, x⟩ → frK 83 (ob n cap) fun fr1 => K .normal fr1 (Ma x))
  | none => False
def vL10e (n : Nat) (fr : List SV) (M : Mm) (K : Ko) : Prop := match got10 0 fr M with
  | some i => vLe G fr M 83 (ie n i.cap 0) (Mc i.x (List.replicate 8 0)) (frK 83 (oe n i.cap) fun fr1 => K .normal fr1 (Mc i.x h0.l))
  | none => False
def vL10c (n : Nat) (p : Nat → List (BitVec 8) → Prop) (h1 : S8) (fr : List SV) (M : Mm) (K : Ko) : Prop := match got10 0 fr M with
  | some i => p i.cap i.x ∧ vLe G fr M 83 (ic n i.cap 0) (Mc i.x h0.l) (frK 83 oc fun fr1 => K .normal fr1 (Mc i.x h1.l))
  | none => False
def vL10d (h : S8) (fr : List SV) (M : Mm) (K : Ko) : Prop := match M with
  | [_, _, ⟨_, .a8 x⟩, _, _, _] => vLe G fr M 83 (id10 0) (Md x h (List.replicate 32 0)) (frK 83 od fun fr1 => K .normal fr1 (Md x h (wr h)))
  | _ => False
def L10 (s : List (BitVec 8)) (n J : Nat) (p q : I10 → Prop) (m : Nat) (r : Nat → List (BitVec 8) → Prop) (h1 : S8) : LT := ((((noL.add 0 (vL10a s n J p)).add 2 (vL10b s (n + J) q)).add 4 (vL10e m)).add 6 (vL10c m r h1)).add 8 (vL10d h1)
theorem vc10 (s : List (BitVec 8)) (n J : Nat) (p q : I10 → Prop) (m : Nat) (r : Nat → List (BitVec 8) → Prop) (h1 : S8) (K : SV → Mm → Prop) : (vf Tryd.prog E17 (L10 s n J p q m r h1) 17 [.s s] G K) = (bif ile (↑(s.length + 1) : Int) 9223372036854775807 then ∀ (cap : Nat) (x : List (BitVec 8)), (s ++ bts { data := #[128] }).length ≤ cap → x = s ++ bts { data := #[128] } ++ List.replicate (cap - (s ++ bts { data := #[128] }).length) 0 → loopOf Tryd.prog 17 0 = loopOf Tryd.prog 17 0 ∧ p { j := 0, cap := cap, x := x } ∧ SV.s s = SV.s s ∧ SV.sl 2 0 (s ++ bts { data := #[128] }).length cap = SV.sl 2 0 n cap ∧ (false = false ∧ Cont.a32 H0 = Cont.a32 H0) ∧ (false = false ∧ Cont.a32 K64 = Cont.a32 K64) ∧ (true = true ∧ Cont.a8 x = Cont.a8 x) ∧ ∀ (cap : Nat) (x : List (BitVec 8)), p { j := J, cap := cap, x := x } → loopOf Tryd.prog 17 2 = loopOf Tryd.prog 17 2 ∧ q { j := 0, cap := cap, x := x } ∧ SV.s s = SV.s s ∧ SV.sl 2 0 (n + J) cap = SV.sl 2 0 (n + J) cap ∧ SV.i 7 = SV.i (7 - (↑0 : Int)) ∧ (false = false ∧ Cont.a32 H0 = Cont.a32 H0) ∧ (false = false ∧ Cont.a32 K64 = Cont.a32 K64) ∧ (true = true ∧ Cont.a8 x = Cont.a8 x) ∧ ∀ (cap : Nat) (x : List (BitVec 8)), q { j := 8, cap := cap, x := x } → loopOf Tryd.prog 17 4 = loopOf Tryd.prog 17 4 ∧ SV.sl 2 0 (n + J + 8) cap = SV.sl 2 0 m cap ∧ SV.ptr (List.length (Ma x)) 0 = SV.ptr 3 0 ∧ SV.ptr (0 + 1 + 1 + 1 + 1) 0 = SV.ptr 4 0 ∧ SV.i 0 = SV.i (↑0 : Int) ∧ (false = false ∧ Cont.a32 H0 = Cont.a32 H0) ∧ (false = false ∧ Cont.a32 K64 = Cont.a32 K64) ∧ (true = true ∧ Cont.a8 x = Cont.a8 x) ∧ (true = true ∧ Cont.a32 (List.replicate 8 0) = Cont.a32 (List.replicate 8 0)) ∧ (true = true ∧ Cont.a64 H64 = Cont.a64 H64) ∧ loopOf Tryd.prog 17 6 = loopOf Tryd.prog 17 6 ∧ r cap x ∧ SV.sl 2 0 m cap = SV.sl 2 0 m cap ∧ SV.ptr 3 0 = SV.ptr 3 0 ∧ SV.i 0 = SV.i (64 * (↑0 : Int)) ∧ (false = false ∧ Cont.a32 H0 = Cont.a32 H0) ∧ (false = false ∧ Cont.a32 K64 = Cont.a32 K64) ∧ (true = true ∧ Cont.a8 x = Cont.a8 x) ∧ (true = true ∧ Cont.a32 h0.l = Cont.a32 h0.l) ∧ (true = true ∧ Cont.a64 H64 = Cont.a64 H64) ∧ loopOf Tryd.prog 17 8 = loopOf Tryd.prog 17 8 ∧ SV.ptr 3 0 = SV.ptr 3 0 ∧ SV.sl (List.length (Mc x h1.l)) 0 32 32 = SV.sl 5 0 32 32 ∧ SV.i 0 = SV.i (↑0 : Int) ∧ (false = false ∧ Cont.a32 H0 = Cont.a32 H0) ∧ (false = false ∧ Cont.a32 K64 = Cont.a32 K64) ∧ (true = true ∧ Cont.a8 x = Cont.a8 x) ∧ (true = true ∧ Cont.a32 h1.l = Cont.a32 h1.l) ∧ (true = true ∧ Cont.a64 H64 = Cont.a64 H64) ∧ (true = true ∧ Cont.a8 (List.replicate 32 0) = Cont.a8 (List.replicate 32 0)) ∧ K (SV.s (List.take 32 (List.drop 0 (wr h1)))) (Md x h1 (wr h1)) else False) := by kernel_rfl
theorem vr10a (s : List (BitVec 8)) (n : Nat) (i : I10) (a : I10 → Prop) (q : Prop) : (frK 83 (ia s n i) fun fr => vround Tryd.prog E17 noL 17 0 fr (Ma i.x) (Ks G 0 83 (got10 (i.j + 1)) [4] a (ia s n) (fun i => Ma i.x) q (ia s n i) (Ma i.x))) = (bif (↑(n + i.j) : Int).tmod 64 != 56 then bif decide (n + i.j ≤ i.cap) && decide (i.x.length = i.cap) && decide (n + i.j + 1 ≤ 1099511627776) && true then ∀ (cap' : Nat) (rest : List (BitVec 8)), n + i.j + 1 + rest.length = cap' → a { j := i.j + 1, cap := cap', x := List.take (n + i.j) i.x ++ List.take 1 (List.drop 0 [BitVec.ofInt 8 0]) ++ rest } ∧ SV.s s = ren (sig 2 [4]) (SV.s s) ∧ SV.sl (0 + 1 + 1 + 1 + 1) 0 (n + i.j + 1) cap' = ren (sig 2 [4]) (SV.sl 2 0 (n + (i.j + 1)) cap') ∧ (false = false ∧ Cont.a32 H0 = Cont.ren (sig 2 [4]) (Cont.a32 H0)) ∧ (false = false ∧ Cont.a32 K64 = Cont.ren (sig 2 [4]) (Cont.a32 K64)) ∧ (true = true ∧ Cont.a8 (List.take (n + i.j) i.x ++ List.take 1 (List.drop 0 [BitVec.ofInt 8 0]) ++ rest) = Cont.ren (sig 2 [4]) (Cont.a8 (List.take (n + i.j) i.x ++ List.take 1 (List.drop 0 [BitVec.ofInt 8 0]) ++ rest))) ∧ True else False else 0 = 0 ∧ q ∧ SV.s s = SV.s s ∧ SV.sl 2 0 (n + i.j) i.cap = SV.sl 2 0 (n + i.j) i.cap ∧ (false = false ∧ Cont.a32 H0 = Cont.a32 H0) ∧ (false = false ∧ Cont.a32 K64 = Cont.a32 K64) ∧ (true = true ∧ Cont.a8 i.x = Cont.a8 i.x) ∧ True) := by kernel_rfl
theorem vr10b (s : List (BitVec 8)) (n : Nat) (i : I10) (a : I10 → Prop) (q : Prop) : (frK 83 (ib s n i) fun fr => vround Tryd.prog E17 noL 17 2 fr (Ma i.x) (Ks G 2 83 (got10 (i.j + 1)) [4] a (ib s n) (fun i => Ma i.x) q (ob n i.cap) (Ma i.x))) = (bif ile 0 (7 - (↑i.j : Int)) then bif inI (8 * (7 - (↑i.j : Int))) then bif decide (n + i.j ≤ i.cap) && decide (i.x.length = i.cap) && decide (n + i.j + (List.take 1 (List.drop 0 [BitVec.setWidth 8 ((BitVec.ofInt 64 8 * BitVec.ofInt 64 (↑s.length : Int)) >>> (BitVec.ofInt 64 (8 * (7 - (↑i.j : Int)))).toNat)])).length ≤ 1099511627776) && true then ∀ (cap' : Nat) (rest : List (BitVec 8)), n + i.j + (List.take 1 (List.drop 0 [BitVec.setWidth 8 ((BitVec.ofInt 64 8 * BitVec.ofInt 64 (↑s.length : Int)) >>> (BitVec.ofInt 64 (8 * (7 - (↑i.j : Int)))).toNat)])).length + rest.length = cap' → bif inI (7 - (↑i.j : Int) - 1) then a { j := i.j + 1, cap := cap', x := List.take (n + i.j) i.x ++ List.take 1 (List.drop 0 [BitVec.setWidth 8 ((BitVec.ofInt 64 8 * BitVec.ofInt 64 (↑s.length : Int)) >>> (BitVec.ofInt 64 (8 * (7 - (↑i.j : Int)))).toNat)]) ++ rest } ∧ SV.s s = ren (sig 2 [4]) (SV.s s) ∧ SV.sl (0 + 1 + 1 + 1 + 1) 0 (n + i.j + (List.take 1 (List.drop 0 [BitVec.setWidth 8 ((BitVec.ofInt 64 8 * BitVec.ofInt 64 (↑s.length : Int)) >>> (BitVec.ofInt 64 (8 * (7 - (↑i.j : Int)))).toNat)])).length) cap' = ren (sig 2 [4]) (SV.sl 2 0 (n + (i.j + 1)) cap') ∧ SV.i (7 - (↑i.j : Int) - 1) = ren (sig 2 [4]) (SV.i (7 - (↑(i.j + 1) : Int))) ∧ (false = false ∧ Cont.a32 H0 = Cont.ren (sig 2 [4]) (Cont.a32 H0)) ∧ (false = false ∧ Cont.a32 K64 = Cont.ren (sig 2 [4]) (Cont.a32 K64)) ∧ (true = true ∧ Cont.a8 (List.take (n + i.j) i.x ++ List.take 1 (List.drop 0 [BitVec.setWidth 8 ((BitVec.ofInt 64 8 * BitVec.ofInt 64 (↑s.length : Int)) >>> (BitVec.ofInt 64 (8 * (7 - (↑i.j : Int)))).toNat)]) ++ rest) = Cont.ren (sig 2 [4]) (Cont.a8 (List.take (n + i.j) i.x ++ List.take 1 (List.drop 0 [BitVec.setWidth 8 ((BitVec.ofInt 64 8 * BitVec.ofInt 64 (↑s.length : Int)) >>> (BitVec.ofInt 64 (8 * (7 - (↑i.j : Int)))).toNat)]) ++ rest))) ∧ True else False else False else False else 2 = 2 ∧ q ∧ SV.sl 2 0 (n + i.j) i.cap = SV.sl 2 0 (n + 8) i.cap ∧ (false = false ∧ Cont.a32 H0 = Cont.a32 H0) ∧ (false = false ∧ Cont.a32 K64 = Cont.a32 K64) ∧ (true = true ∧ Cont.a8 i.x = Cont.a8 i.x) ∧ True) := by kernel_rfl
theorem vr10e (x : List (BitVec 8)) (h h' z : List (BitVec 32)) (n cap j : Nat) (a : Prop) : (frK 83 (ie n cap j) fun fr => vround Tryd.prog E17 noL 17 4 fr (Mc x h) (Kn G 4 83 a (ie n cap (j + 1)) (Mc x h') (oe n cap) (Mc x z))) = (bif ilt (↑j : Int) 8 then bif inR (↑j : Int) 8 then bif j.blt 8 then bif inR (↑j : Int) 8 then bif j.blt h.length then bif inI ((↑j : Int) + 1) then a ∧ SV.sl 2 0 n cap = SV.sl 2 0 n cap ∧ SV.ptr 3 0 = SV.ptr 3 0 ∧ SV.ptr 4 0 = SV.ptr 4 0 ∧ SV.i ((↑j : Int) + 1) = SV.i (↑(j + 1) : Int) ∧ (false = false ∧ Cont.a32 H0 = Cont.a32 H0) ∧ (false = false ∧ Cont.a32 K64 = Cont.a32 K64) ∧ (true = true ∧ Cont.a8 x = Cont.a8 x) ∧ (true = true ∧ Cont.a32 (h.set j (BitVec.setWidth 32 (H64.getD j 0 >>> 32))) = Cont.a32 h') ∧ (true = true ∧ Cont.a64 H64 = Cont.a64 H64) ∧ True else False else False else False else False else False else 4 = 4 ∧ SV.sl 2 0 n cap = SV.sl 2 0 n cap ∧ SV.ptr 3 0 = SV.ptr 3 0 ∧ (false = false ∧ Cont.a32 H0 = Cont.a32 H0) ∧ (false = false ∧ Cont.a32 K64 = Cont.a32 K64) ∧ (true = true ∧ Cont.a8 x = Cont.a8 x) ∧ (true = true ∧ Cont.a32 h = Cont.a32 z) ∧ (true = true ∧ Cont.a64 H64 = Cont.a64 H64) ∧ True) := by kernel_rfl
theorem vr10c (x : List (BitVec 8)) (h h' z : S8) (n cap j : Nat) (a : Prop) : (frK 83 (ic n cap j) fun fr => vround Tryd.prog E17 noL 17 6 fr (Mc x h.l) (Kn G 6 83 a (ic n cap (j + 1)) (Mc x h'.l) oc (Mc x z.l))) = (bif ilt (64 * (↑j : Int)) (↑n : Int) then bif inI (64 * (↑j : Int) + 64) then bif ile (64 * (↑j : Int)) (64 * (↑j : Int) + 64) && ile (64 * (↑j : Int) + 64) (↑cap : Int) && ilt (64 * (↑j : Int)) (↑cap : Int) then bif ((64 * (↑j : Int) + 64).toNat - (64 * (↑j : Int)).toNat).beq 64 && ((64 * (↑j : Int)).toNat + 64).ble x.length then bif inI (64 * (↑j : Int) + 64) then a ∧ SV.sl 2 0 n cap = SV.sl 2 0 n cap ∧ SV.ptr 3 0 = SV.ptr 3 0 ∧ SV.i (64 * (↑j : Int) + 64) = SV.i (64 * (↑(j + 1) : Int)) ∧ (false = false ∧ Cont.a32 H0 = Cont.a32 H0) ∧ (false = false ∧ Cont.a32 K64 = Cont.a32 K64) ∧ (true = true ∧ Cont.a8 x = Cont.a8 x) ∧ (true = true ∧ Cont.a32 (nextS h (List.drop (64 * (↑j : Int)).toNat x)).l = Cont.a32 h'.l) ∧ (true = true ∧ Cont.a64 H64 = Cont.a64 H64) ∧ True else False else False else False else False else 6 = 6 ∧ SV.ptr 3 0 = SV.ptr 3 0 ∧ (false = false ∧ Cont.a32 H0 = Cont.a32 H0) ∧ (false = false ∧ Cont.a32 K64 = Cont.a32 K64) ∧ (true = true ∧ Cont.a8 x = Cont.a8 x) ∧ (true = true ∧ Cont.a32 h.l = Cont.a32 z.l) ∧ (true = true ∧ Cont.a64 H64 = Cont.a64 H64) ∧ True) := by kernel_rfl
theorem vr10d (x : List (BitVec 8)) (h : S8) (o o' z : List (BitVec 8)) (j : Nat) (a : Prop) : (frK 83 (id10 j) fun fr => vround Tryd.prog E17 noL 17 8 fr (Md x h o) (Kn G 8 83 a (id10 (j + 1)) (Md x h o') od (Md x h z))) = (bif ilt (↑j : Int) 32 then bif inI (↑j : Int) then bif inR ((↑j : Int).tdiv 4) 8 then bif ((↑j : Int).tdiv 4).toNat.blt h.l.length then bif inI ((↑j : Int).tmod 4 * 8) then bif inI (24 - (↑j : Int).tmod 4 * 8) then bif inR (↑j : Int) 32 then bif j.blt o.length then bif inI ((↑j : Int) + 1) then a ∧ SV.ptr 3 0 = SV.ptr 3 0 ∧ SV.sl 5 0 32 32 = SV.sl 5 0 32 32 ∧ SV.i ((↑j : Int) + 1) = SV.i (↑(j + 1) : Int) ∧ (false = false ∧ Cont.a32 H0 = Cont.a32 H0) ∧ (false = false ∧ Cont.a32 K64 = Cont.a32 K64) ∧ (true = true ∧ Cont.a8 x = Cont.a8 x) ∧ (true = true ∧ Cont.a32 h.l = Cont.a32 h.l) ∧ (true = true ∧ Cont.a64 H64 = Cont.a64 H64) ∧ (true = true ∧ Cont.a8 (o.set j (BitVec.setWidth 8 (h.l.getD ((↑j : Int).tdiv 4).toNat 0 >>> (BitVec.ofInt 64 (24 - (↑j : Int).tmod 4 * 8)).toNat))) = Cont.a8 o') ∧ True else False else False else False else False else False else False else False else False else 8 = 8 ∧ SV.sl 5 0 32 32 = SV.sl 5 0 32 32 ∧ (false = false ∧ Cont.a32 H0 = Cont.a32 H0) ∧ (false = false ∧ Cont.a32 K64 = Cont.a32 K64) ∧ (true = true ∧ Cont.a8 x = Cont.a8 x) ∧ (true = true ∧ Cont.a32 h.l = Cont.a32 h.l) ∧ (true = true ∧ Cont.a64 H64 = Cont.a64 H64) ∧ (true = true ∧ Cont.a8 o = Cont.a8 z) ∧ True) := by kernel_rfl
def by64 (w : BitVec 64) : List (BitVec 8) := (List.range 8).map fun k => (w >>> (56 - 8 * k)).setWidth 8
theorem by64_len (w : BitVec 64) : (by64 w).length = 8 := rfl
theorem by64_take (w : BitVec 64) (j : Nat) (h : j < 8) : (by64 w).take (j + 1) = (by64 w).take j ++ [(w >>> (56 - 8 * j)).setWidth 8] := by
  rw [List.take_add_one]
  congr 1
  simp [by64, h]
def nz (s : List (BitVec 8)) : Nat := (119 - s.length % 64) % 64
def bits (s : List (BitVec 8)) : BitVec 64 := BitVec.ofInt 64 8 * BitVec.ofInt 64 (s.length : Int)
def pad (s : List (BitVec 8)) : List (BitVec 8) := s ++ [128] ++ List.replicate (nz s) 0 ++ by64 (bits s)
theorem pad_len (s : List (BitVec 8)) : (pad s).length = s.length + 1 + nz s + 8 := by
  unfold pad; simp only [List.length_append, List.length_replicate, List.length_singleton, by64_len]
theorem pad_mod (s : List (BitVec 8)) : (pad s).length % 64 = 0 := by
  rw [pad_len]; unfold nz; omega
def rOf (s : List (BitVec 8)) : List (BitVec 8) := wr (sts h0 (pad s) ((pad s).length / 64))
def p10 (s : List (BitVec 8)) (i : I10) : Prop := i.j ≤ nz s ∧ i.x.length = i.cap ∧ ∃ rest, i.x = s ++ [128] ++ List.replicate i.j 0 ++ rest
def q10 (s : List (BitVec 8)) (i : I10) : Prop := i.j ≤ 8 ∧ i.x.length = i.cap ∧ ∃ rest, i.x = (s ++ [128] ++ List.replicate (nz s) 0) ++ (by64 (bits s)).take i.j ++ rest
def r10 (s : List (BitVec 8)) (cap : Nat) (x : List (BitVec 8)) : Prop := x.length = cap ∧ ∃ rest, x = pad s ++ rest
theorem loop10a (s : List (BitVec 8)) (hs : s.length ≤ 1000000000) : ∀ fr M K, vL10a s (s.length + 1) (nz s) (p10 s) fr M K → Wp Tryd.prog G G (loopOf Tryd.prog 17 0) fr M K := by
  intro fr M K h
  unfold vL10a at h
  split at h
  · rename_i i0 hi0
    obtain ⟨hp0, h⟩ := h
    obtain ⟨hle, hK⟩ := vLe_ok h
    refine loop_sel e17_ok mixed (noL_ok _ _ _ _) (Nat.le_refl _) (by kernel_rfl) (ia s (s.length + 1)) (fun i => Ma i.x) (p10 s) (fun i => nz s - i.j) (fun i => got10 (i.j + 1)) (fun _ => [4]) (fun i => i.j = nz s) (fun i => ia s (s.length + 1) i) (fun i => Ma i.x) i0 hp0 (fun i hp => of_eq (vr10a s (s.length + 1) i _ _) ?_) hle (fun i hp hq => ?_)
    · obtain ⟨j, c, x⟩ := i
      obtain ⟨hj, hx, rest, hr⟩ := hp
      dsimp only at hj hx hr ⊢
      rw [show ((s.length + 1 + j : Nat) : Int).tmod 64 = (((s.length + 1 + j) % 64 : Nat) : Int) from tmod_cast _ 64]
      have hl : (s ++ [128] ++ List.replicate j (0 : BitVec 8)).length = s.length + 1 + j := by simp; omega
      have hcl : s.length + 1 + j ≤ c := by rw [← hx, hr, List.length_append, hl]; omega
      have ht : x.take (s.length + 1 + j) = s ++ [128] ++ List.replicate j 0 := by rw [hr, List.take_append_of_le_length (by omega), List.take_of_length_le (by omega)]
      have hnz : nz s = (119 - s.length % 64) % 64 := rfl
      cases hc : (((s.length + 1 + j) % 64 : Nat) : Int) != 56
      · have h112 : (s.length + 1 + j) % 64 = 56 := by simp at hc; omega
        have hj2 : j = nz s := by omega
        exact ⟨rfl, hj2, rfl, rfl, ⟨rfl, rfl⟩, ⟨rfl, rfl⟩, ⟨rfl, rfl⟩, trivial⟩
      · have h112 : (s.length + 1 + j) % 64 ≠ 56 := by simp at hc; omega
        have hj2 : j < nz s := by omega
        rw [ht]
        refine bif_of ?_ fun cap' rest' hc' => ⟨⟨⟨by show j + 1 ≤ nz s; omega, ?_, rest', ?_⟩, by show nz s - (j + 1) < nz s - j; omega⟩, rfl, rfl, ⟨rfl, rfl⟩, ⟨rfl, rfl⟩, ⟨rfl, rfl⟩, trivial⟩
        · simp; omega
        · dsimp only
          rw [List.length_append, List.length_append, hl]; exact hc'
        · dsimp only
          rw [List.replicate_succ']
          simp
    · obtain ⟨j, c, x⟩ := i
      obtain rfl : j = nz s := hq
      have := hK c x hp
      rw [frK_eq] at this
      exact this
  · exact h.elim
theorem loop10b (s : List (BitVec 8)) (hs : s.length ≤ 1000000000) : ∀ fr M K, vL10b s (s.length + 1 + nz s) (q10 s) fr M K → Wp Tryd.prog G G (loopOf Tryd.prog 17 2) fr M K := by
  intro fr M K h
  unfold vL10b at h
  split at h
  · rename_i i0 hi0
    obtain ⟨hp0, h⟩ := h
    obtain ⟨hle, hK⟩ := vLe_ok h
    refine loop_sel e17_ok mixed (noL_ok _ _ _ _) (Nat.le_refl _) (by kernel_rfl) (ib s (s.length + 1 + nz s)) (fun i => Ma i.x) (q10 s) (fun i => 8 - i.j) (fun i => got10 (i.j + 1)) (fun _ => [4]) (fun i => i.j = 8) (fun i => ob (s.length + 1 + nz s) i.cap) (fun i => Ma i.x) i0 hp0 (fun i hp => of_eq (vr10b s (s.length + 1 + nz s) i _ _) ?_) hle (fun i hp hq => ?_)
    · obtain ⟨j, c, x⟩ := i
      obtain ⟨hj, hx, rest, hr⟩ := hp
      dsimp only at hj hx hr ⊢
      have hl : (s ++ [128] ++ List.replicate (nz s) (0 : BitVec 8)).length + ((by64 (bits s)).take j).length = s.length + 1 + nz s + j := by simp [by64_len]; omega
      have hcl : s.length + 1 + nz s + j ≤ c := by rw [← hx, hr, List.length_append, List.length_append, hl]; omega
      have ht : x.take (s.length + 1 + nz s + j) = (s ++ [128] ++ List.replicate (nz s) 0) ++ (by64 (bits s)).take j := by rw [hr]; exact take_app _ _ _ _ hl
      have hnz : nz s < 64 := Nat.mod_lt _ (by decide)
      cases hc : ile 0 (7 - (j : Int))
      · have hj2 : j = 8 := by rw [ile_eq] at hc; have := of_decide_eq_false hc; omega
        subst hj2
        exact ⟨rfl, rfl, rfl, ⟨rfl, rfl⟩, ⟨rfl, rfl⟩, ⟨rfl, rfl⟩, trivial⟩
      · have hj2 : j < 8 := by rw [ile_eq] at hc; have := of_decide_eq_true hc; omega
        have e : (BitVec.ofInt 64 (8 * (7 - (j : Int)))).toNat = 56 - 8 * j := by rw [BitVec.toNat_ofInt]; omega
        rw [e, ht]
        refine bif_of (inI_iff.2 (by omega)) (bif_of ?_ fun cap' rest' hc' => bif_of (inI_iff.2 (by omega)) ⟨⟨⟨by show j + 1 ≤ 8; omega, ?_, rest', ?_⟩, by show 8 - (j + 1) < 8 - j; omega⟩, rfl, rfl, ?_, ⟨rfl, rfl⟩, ⟨rfl, rfl⟩, ⟨rfl, rfl⟩, trivial⟩)
        · simp; omega
        · dsimp only
          rw [← hc', List.length_append, List.length_append, List.length_append, hl]
        · dsimp only
          rw [by64_take (bits s) j hj2]
          unfold bits
          simp
        · exact congrArg SV.i (by omega)
    · obtain ⟨j, c, x⟩ := i
      obtain rfl : j = 8 := hq
      have := hK c x hp
      rw [frK_eq] at this
      exact this
  · exact h.elim
def hN (j : Nat) : List (BitVec 32) := h0.l.take j ++ List.replicate (8 - j) 0
theorem h_all : ∀ i : Fin 8, (hN i.1).set i.1 ((H64.getD i.1 0 >>> 32).setWidth 32) = hN (i.1 + 1) := by decide +kernel
theorem hN_set (j : Nat) (h : j < 8) : (hN j).set j ((H64.getD j 0 >>> 32).setWidth 32) = hN (j + 1) := h_all ⟨j, h⟩
theorem hN_len (j : Nat) (h : j ≤ 8) : (hN j).length = 8 := by
  unfold hN; rw [List.length_append, List.length_take, s8_len, List.length_replicate]; omega
theorem loop10e (m : Nat) : ∀ fr M K, vL10e m fr M K → Wp Tryd.prog G G (loopOf Tryd.prog 17 4) fr M K := by
  intro fr M K h
  unfold vL10e at h
  split at h
  · rename_i i0 hi0
    obtain ⟨j0, c, x⟩ := i0
    dsimp only at h
    refine loop_next e17_ok mixed (noL_ok _ _ _ _) (Nat.le_refl _) (by kernel_rfl) (fun j => ie m c j) (fun j => Mc x (hN j)) (fun j => j ≤ 8) (fun j => 8 - j) (fun j => j + 1) 0 (by omega) (fun j hj => of_eq (vr10e x (hN j) (hN (j + 1)) h0.l m c j _) ?_) fr M K h
    cases hc : ilt (j : Int) 8
    · have hj2 : j = 8 := by rw [ilt_eq] at hc; have := of_decide_eq_false hc; omega
      subst hj2
      have : hN 8 = h0.l := by decide +kernel
      rw [this]
      simp
    · have hj2 : j < 8 := by rw [ilt_eq] at hc; have := of_decide_eq_true hc; omega
      rw [hN_set j hj2, hN_len j hj]
      refine bif_of (inR_nat hj2) (bif_of (blt_of (by omega)) (bif_of (inR_nat hj2) (bif_of (blt_of (by omega)) (bif_of (inI_iff.2 (by omega)) ⟨⟨by omega, by omega⟩, ?_⟩))))
      simp
  · exact h.elim
theorem loop10c (s : List (BitVec 8)) (hs : s.length ≤ 1000000000) : ∀ fr M K, vL10c ((pad s).length) (r10 s) (sts h0 (pad s) ((pad s).length / 64)) fr M K → Wp Tryd.prog G G (loopOf Tryd.prog 17 6) fr M K := by
  intro fr M K h
  unfold vL10c at h
  split at h
  · rename_i i0 hi0
    obtain ⟨j0, c, x⟩ := i0
    obtain ⟨⟨hxc, rest, hr⟩, h⟩ := h
    dsimp only at hxc hr h
    have hpl := pad_len s
    have hpm := pad_mod s
    have hnz : nz s < 64 := Nat.mod_lt _ (by decide)
    refine loop_next e17_ok mixed (noL_ok _ _ _ _) (Nat.le_refl _) (by kernel_rfl) (fun j => ic (pad s).length c j) (fun j => Mc x (sts h0 x j).l) (fun j => 64 * j ≤ (pad s).length) (fun j => (pad s).length - 64 * j) (fun j => j + 1) 0 (by omega) (fun j hj => of_eq (vr10c x (sts h0 x j) (sts h0 x (j + 1)) (sts h0 (pad s) ((pad s).length / 64)) (pad s).length c j _) ?_) fr M K h
    cases hc : ilt (64 * (j : Int)) ((pad s).length : Int)
    · have hj2 : 64 * j = (pad s).length := by rw [ilt_eq] at hc; have := of_decide_eq_false hc; omega
      have hj3 : (pad s).length / 64 = j := by omega
      rw [hj3, hr, sts_app _ _ _ _ (by omega)]
      simp
    · have hj2 : 64 * j < (pad s).length := by rw [ilt_eq] at hc; have := of_decide_eq_true hc; omega
      have e : (64 * (j : Int)).toNat = 64 * j := by omega
      have e2 : (64 * (j : Int) + 64).toNat = 64 * j + 64 := by omega
      have hxl : 64 * j + 64 ≤ x.length := by rw [hr, List.length_append]; omega
      rw [e, e2]
      refine bif_of (inI_iff.2 (by omega)) (bif_of ?_ (bif_of ?_ (bif_of (inI_iff.2 (by omega)) ⟨⟨by omega, by omega⟩, rfl, rfl, congrArg SV.i (by omega), ⟨rfl, rfl⟩, ⟨rfl, rfl⟩, ⟨rfl, rfl⟩, ⟨rfl, rfl⟩, ⟨rfl, rfl⟩, trivial⟩)))
      · simp [ile_eq, ilt_eq]; omega
      · rw [Nat.add_sub_cancel_left, Bool.and_eq_true]
        exact ⟨rfl, Nat.ble_eq_true_of_le hxl⟩
  · exact h.elim
theorem by32_get (w : BitVec 32) (k : Nat) (h : k < 4) : (by32 w)[k]? = some ((w >>> (24 - 8 * k)).setWidth 8) := by
  match k, h with
  | 0, _ | 1, _ | 2, _ => rfl
  | 3, _ => show some (w.setWidth 8) = some ((w >>> 0).setWidth 8); rw [BitVec.ushiftRight_zero]
theorem fm_get : ∀ (l : List (BitVec 32)) (j : Nat), j < 4 * l.length → (l.flatMap by32)[j]? = some ((l.getD (j / 4) 0 >>> (24 - 8 * (j % 4))).setWidth 8)
  | [], j, h => by simp at h
  | w :: l, j, h => by
    rw [List.flatMap_cons]
    by_cases hj : j < 4
    · rw [List.getElem?_append_left (by rw [by32_len]; exact hj), by32_get w j hj, Nat.div_eq_of_lt hj, Nat.mod_eq_of_lt hj]
      rfl
    · rw [List.getElem?_append_right (by rw [by32_len]; omega), by32_len, fm_get l (j - 4) (by simp only [List.length_cons] at h; omega)]
      rw [show j / 4 = (j - 4) / 4 + 1 by omega, show (j - 4) % 4 = j % 4 by omega]
      rfl
def ou (h : S8) (j : Nat) : List (BitVec 8) := (wr h).take j ++ List.replicate (32 - j) 0
theorem ou_len (h : S8) (j : Nat) (hj : j ≤ 32) : (ou h j).length = 32 := by
  unfold ou; rw [List.length_append, List.length_take, wr_len, List.length_replicate]; omega
theorem ou_set (h : S8) (j : Nat) (hj : j < 32) : (ou h j).set j ((h.l.getD (j / 4) 0 >>> (24 - 8 * (j % 4))).setWidth 8) = ou h (j + 1) := by
  unfold ou
  have hl : ((wr h).take j).length = j := by rw [List.length_take, wr_len]; omega
  obtain ⟨k, hk⟩ : ∃ k, 32 - j = k + 1 := ⟨32 - j - 1, by omega⟩
  have hg : (wr h)[j]? = some ((h.l.getD (j / 4) 0 >>> (24 - 8 * (j % 4))).setWidth 8) := fm_get h.l j (by rw [s8_len]; omega)
  rw [List.take_add_one, hg, Option.toList_some, List.set_append_right _ _ (by omega), hl, Nat.sub_self, hk, List.replicate_succ, List.set_cons_zero, show 32 - (j + 1) = k by omega]
  simp
theorem loop10d (h : S8) : ∀ fr M K, vL10d h fr M K → Wp Tryd.prog G G (loopOf Tryd.prog 17 8) fr M K := by
  intro fr M K hh
  unfold vL10d at hh
  split at hh
  · rename_i e1 e2 r4 x e5 e6 e7
    refine loop_next e17_ok mixed (noL_ok _ _ _ _) (Nat.le_refl _) (by kernel_rfl) (fun j => id10 j) (fun j => Md x h (ou h j)) (fun j => j ≤ 32) (fun j => 32 - j) (fun j => j + 1) 0 (by omega) (fun j hj => of_eq (vr10d x h (ou h j) (ou h (j + 1)) (wr h) j _) ?_) fr _ K hh
    have hlen := ou_len h j hj
    cases hc : ilt (j : Int) 32
    · have hj2 : j = 32 := by rw [ilt_eq] at hc; have := of_decide_eq_false hc; omega
      subst hj2
      have : ou h 32 = wr h := by unfold ou; rw [List.take_of_length_le (by rw [wr_len]; decide)]; simp
      rw [this]
      simp
    · have hj2 : j < 32 := by rw [ilt_eq] at hc; have := of_decide_eq_true hc; omega
      have ed : (j : Int).tdiv 4 = ((j / 4 : Nat) : Int) := tdiv_cast j 4
      have em : (j : Int).tmod 4 = ((j % 4 : Nat) : Int) := tmod_cast j 4
      have e3 : (BitVec.ofInt 64 (24 - ((j % 4 : Nat) : Int) * 8)).toNat = 24 - 8 * (j % 4) := by rw [BitVec.toNat_ofInt]; omega
      rw [ed, em, e3, Int.toNat_natCast, ou_set h j hj2, hlen, s8_len]
      refine bif_of (inI_iff.2 (by omega)) (bif_of (inR_nat (by omega)) (bif_of (blt_of (by omega)) (bif_of (inI_iff.2 (by omega)) (bif_of (inI_iff.2 (by omega)) (bif_of (inR_nat (by omega)) (bif_of (blt_of (by omega)) (bif_of (inI_iff.2 (by omega)) ?_)))))))
      refine ⟨⟨by omega, by omega⟩, ?_⟩
      simp
  · exact hh.elim
theorem loop10 (s : List (BitVec 8)) (hs : s.length ≤ 1000000000) : LOk Tryd.prog G G 17 (L10 s (s.length + 1) (nz s) (p10 s) (q10 s) (pad s).length (r10 s) (sts h0 (pad s) ((pad s).length / 64))) :=
  LT.add_ok (LT.add_ok (LT.add_ok (LT.add_ok (LT.add_ok (noL_ok _ _ _ _) (loop10a s hs)) (loop10b s hs)) (loop10e _)) (loop10c s hs)) (loop10d _)
def cRef (D : List (BitVec 8) → List (BitVec 8)) : List SV → List Cont → Option (Bool × SV)
  | [.s s], _ => some (Nat.ble s.length 1000000000, .s (D s))
  | _, _ => none
theorem ref_ok : POk Tryd.prog G 17 (cRef rOf) := by
  intro args acs r h β M w hR hw ha
  unfold cRef at h
  split at h
  · rename_i s
    simp only [Option.some.injEq, Prod.mk.injEq] at h
    obtain ⟨hs, rfl⟩ := h
    have hs := Nat.le_of_ble_eq_true hs
    have hnz : nz s < 64 := Nat.mod_lt _ (by decide)
    refine pure0 (vf_ok e17_ok mixed (loop10 s hs) (of_eq (vc10 s _ _ _ _ _ _ _ _) ?_)) rfl rfl hR
    have hm : (s ++ bts { data := #[128] }).length = s.length + 1 := by rw [List.length_append]; rfl
    refine bif_of ?_ fun cap x0 hcap hx0 => ⟨rfl, ⟨Nat.zero_le _, ?_, List.replicate (cap - (s ++ bts { data := #[128] }).length) 0, ?_⟩, rfl, ?_, ⟨rfl, rfl⟩, ⟨rfl, rfl⟩, ⟨rfl, rfl⟩, fun cap x hp => ?_⟩
    · rw [ile_eq]; exact decide_eq_true (by omega)
    · dsimp only
      rw [hx0, List.length_append, List.length_replicate]; omega
    · dsimp only
      rw [hx0, List.replicate_zero, List.append_nil]; rfl
    · rw [hm]
    · obtain ⟨-, hx, rest1, hr⟩ := hp
      dsimp only at hx hr
      refine ⟨rfl, ⟨Nat.zero_le _, hx, rest1, ?_⟩, rfl, rfl, rfl, ⟨rfl, rfl⟩, ⟨rfl, rfl⟩, ⟨rfl, rfl⟩, fun cap2 x2 hq => ?_⟩
      · dsimp only
        rw [List.take_zero, List.append_nil]; exact hr
      · obtain ⟨-, hx2, rest2, hr2⟩ := hq
        dsimp only at hx2 hr2
        rw [List.take_of_length_le (by rw [by64_len]; decide)] at hr2
        refine ⟨rfl, by rw [pad_len], rfl, rfl, rfl, ⟨rfl, rfl⟩, ⟨rfl, rfl⟩, ⟨rfl, rfl⟩, ⟨rfl, rfl⟩, ⟨rfl, rfl⟩, rfl, ⟨hx2, rest2, hr2⟩, rfl, rfl, rfl, ⟨rfl, rfl⟩, ⟨rfl, rfl⟩, ⟨rfl, rfl⟩, ⟨rfl, rfl⟩, ⟨rfl, rfl⟩, rfl, rfl, rfl, rfl, ⟨rfl, rfl⟩, ⟨rfl, rfl⟩, ⟨rfl, rfl⟩, ⟨rfl, rfl⟩, ⟨rfl, rfl⟩, ⟨rfl, rfl⟩, ?_⟩
        rw [List.drop_zero, List.take_of_length_le (by rw [wr_len]; decide)]
        rfl
  · cases h
theorem ends_by (c : BitVec 64) : by32 ((c >>> 29).setWidth 32) ++ by32 ((c <<< 3).setWidth 32) = by64 (c <<< 3) := by
  unfold by32 by64
  have h8 : List.range 8 = [0, 1, 2, 3, 4, 5, 6, 7] := rfl
  rw [h8]
  simp only [List.map_cons, List.map_nil, List.cons_append, List.nil_append, List.cons.injEq, and_true]
  refine ⟨?_, ?_, ?_, ?_, ?_, ?_, ?_, ?_⟩ <;> (apply BitVec.eq_of_getLsbD_eq; intro i hi; rcases (by omega : i = 0 ∨ i = 1 ∨ i = 2 ∨ i = 3 ∨ i = 4 ∨ i = 5 ∨ i = 6 ∨ i = 7) with rfl | rfl | rfl | rfl | rfl | rfl | rfl | rfl <;> simp)
theorem ends_pad (T : List (BitVec 8)) (h : T.length < 2 ^ 60) : T ++ ends (BitVec.ofNat 64 T.length) = pad T := by
  have hn : (BitVec.ofNat 64 T.length).toNat = T.length := by rw [BitVec.toNat_ofNat]; omega
  have hz : zs (BitVec.ofNat 64 T.length) = 1 + nz T := by rw [zs_val, hn]; rfl
  have hnz : nz T < 64 := Nat.mod_lt _ (by decide)
  have e2 : BitVec.ofNat 64 T.length <<< 3 = bits T := by
    apply BitVec.eq_of_toNat_eq
    unfold bits
    rw [BitVec.toNat_shiftLeft, hn, BitVec.ofInt_natCast, BitVec.toNat_mul, hn, Nat.shiftLeft_eq]
    show T.length * 2 ^ 3 % 2 ^ 64 = 8 * T.length % 2 ^ 64
    omega
  have e4 : ((List.replicate 128 (0 : BitVec 8)).set 0 (BitVec.ofInt 8 128)).take (1 + nz T) = [128] ++ List.replicate (nz T) 0 := by
    rw [show (128 : Nat) = 127 + 1 from rfl, List.replicate_succ, List.set_cons_zero, Nat.add_comm, List.take_succ_cons, List.take_replicate, Nat.min_eq_left (by omega)]
    rfl
  unfold ends pad
  rw [List.append_assoc (List.take _ _), ends_by, hz, e2, e4]
  simp
theorem dOf_eq (T : List (BitVec 8)) (h : T.length < 2 ^ 60) : dOf T = rOf T := by
  unfold dOf rOf
  rw [ends_pad T h]
  rfl
end Go.Proofs.YtmalnjdacmlcdaaDoor
