/-
  The document's points: read of bytes, the base point, in the reckoner. No statement is proved here.
-/
import Derived.Test.YtdfghknonbmadaaGreatDoorDqA
import Derived.Test.YtdfghknonbmadaaGreatDoorShC
namespace Go.Proofs.YtdfghknonbmadaaGreatDoor
namespace Dc
open Go.RowKit
set_option linter.unusedVariables false
set_option linter.unusedSimpArgs false
set_option maxRecDepth 100000
open Mt.Dg (w9 dg bb nv Q Qd rd byt vbl vb)
open Mt (Lq Pd IsR rad zr br mq ad sb)
def EDe (Y : Tx8 → Bool) (R : Tx8 → W6) (S : BitVec 32 → W6) (C : W6 → W6 → Bool) (A B M : W6 → W6 → W6) (D : W6 → Bool) (I : W6 → W6) (F : W6 → Bool → W6) (J : W6 → Bool → Bool) (g : W6) : Env := ⟨GE, (((((((((noT.add 68 (cCa' Y)).add 69 (cRe R)).add 70 (cSm S)).add 43 (c2 C M)).add 73 (c2 C A)).add 71 (c2 C B)).add 42 (c1 D I)).add 74 (cRoD D F J)).add 72 (c0 g)).add flagW cFlagZ, noC⟩
theorem vaDe (Y : Tx8 → Bool) (R : Tx8 → W6) (S : BitVec 32 → W6) (C : W6 → W6 → Bool) (A B M : W6 → W6 → W6) (D : W6 → Bool) (I : W6 → W6) (F : W6 → Bool → W6) (J : W6 → Bool → Bool) (g : W6) (s : Tx8) (K : SV → Prop) : (vf Tryz.prog (EDe Y R S C A B M D I F J g) noL 34 [.s s] GE (fun r _ => K r)) = (bif (↑(List.length s) : Int) != (32 : Int) then K (SV.tup [SV.a64 (List.take 27 (List.drop 0 [(0 : BitVec 64), (0 : BitVec 64), (0 : BitVec 64), (0 : BitVec 64), (0 : BitVec 64), (0 : BitVec 64), (0 : BitVec 64), (0 : BitVec 64), (0 : BitVec 64), (0 : BitVec 64), (0 : BitVec 64), (0 : BitVec 64), (0 : BitVec 64), (0 : BitVec 64), (0 : BitVec 64), (0 : BitVec 64), (0 : BitVec 64), (0 : BitVec 64), (0 : BitVec 64), (0 : BitVec 64), (0 : BitVec 64), (0 : BitVec 64), (0 : BitVec 64), (0 : BitVec 64), (0 : BitVec 64), (0 : BitVec 64), (0 : BitVec 64)])), SV.i (2 : Int)]) else ∀ (cap : Nat) (x : List (BitVec 8)), List.length s ≤ cap → x = s ++ List.replicate (cap - List.length s) (0 : BitVec 8) → bif inR (31 : Int) (List.length s) then bif Nat.blt 31 x.length then bif inR (31 : Int) (List.length s) then bif Nat.blt 31 x.length then bif inR (31 : Int) (List.length s) then bif Nat.blt 31 x.length then bif decide ((0 : Nat) + List.length s ≤ (x.set 31 (x.getD (31 : Nat) (0 : BitVec 8) &&& ~~~BitVec.ofInt 8 128)).length) then bif !Y (List.take (List.length s) (List.drop 0 (x.set 31 (x.getD (31 : Nat) (0 : BitVec 8) &&& ~~~BitVec.ofInt 8 128)))) then K (SV.tup [SV.a64 (List.take 27 (List.drop 0 [(0 : BitVec 64), (0 : BitVec 64), (0 : BitVec 64), (0 : BitVec 64), (0 : BitVec 64), (0 : BitVec 64), (0 : BitVec 64), (0 : BitVec 64), (0 : BitVec 64), (0 : BitVec 64), (0 : BitVec 64), (0 : BitVec 64), (0 : BitVec 64), (0 : BitVec 64), (0 : BitVec 64), (0 : BitVec 64), (0 : BitVec 64), (0 : BitVec 64), (0 : BitVec 64), (0 : BitVec 64), (0 : BitVec 64), (0 : BitVec 64), (0 : BitVec 64), (0 : BitVec 64), (0 : BitVec 64), (0 : BitVec 64), (0 : BitVec 64)])), SV.i (90 : Int)]) else bif decide ((0 : Nat) + List.length s ≤ (x.set 31 (x.getD (31 : Nat) (0 : BitVec 8) &&& ~~~BitVec.ofInt 8 128)).length) then bif (List.take (List.length s) (List.drop 0 (x.set 31 (x.getD (31 : Nat) (0 : BitVec 8) &&& ~~~BitVec.ofInt 8 128)))).length.beq 32 then bif C (w9 (R (List.take (List.length s) (List.drop 0 (x.set 31 (x.getD (31 : Nat) (0 : BitVec 8) &&& ~~~BitVec.ofInt 8 128)))))) (w9 (R (List.take (List.length s) (List.drop 0 (x.set 31 (x.getD (31 : Nat) (0 : BitVec 8) &&& ~~~BitVec.ofInt 8 128)))))) then bif C (w9 (M (w9 (R (List.take (List.length s) (List.drop 0 (x.set 31 (x.getD (31 : Nat) (0 : BitVec 8) &&& ~~~BitVec.ofInt 8 128)))))) (w9 (R (List.take (List.length s) (List.drop 0 (x.set 31 (x.getD (31 : Nat) (0 : BitVec 8) &&& ~~~BitVec.ofInt 8 128)))))))) (w9 (S (BitVec.ofInt 32 1))) then bif C (w9 g) (w9 (M (w9 (R (List.take (List.length s) (List.drop 0 (x.set 31 (x.getD (31 : Nat) (0 : BitVec 8) &&& ~~~BitVec.ofInt 8 128)))))) (w9 (R (List.take (List.length s) (List.drop 0 (x.set 31 (x.getD (31 : Nat) (0 : BitVec 8) &&& ~~~BitVec.ofInt 8 128)))))))) then bif C (w9 (M (w9 g) (w9 (M (w9 (R (List.take (List.length s) (List.drop 0 (x.set 31 (x.getD (31 : Nat) (0 : BitVec 8) &&& ~~~BitVec.ofInt 8 128)))))) (w9 (R (List.take (List.length s) (List.drop 0 (x.set 31 (x.getD (31 : Nat) (0 : BitVec 8) &&& ~~~BitVec.ofInt 8 128)))))))))) (w9 (S (BitVec.ofInt 32 1))) then bif D (w9 (A (w9 (M (w9 g) (w9 (M (w9 (R (List.take (List.length s) (List.drop 0 (x.set 31 (x.getD (31 : Nat) (0 : BitVec 8) &&& ~~~BitVec.ofInt 8 128)))))) (w9 (R (List.take (List.length s) (List.drop 0 (x.set 31 (x.getD (31 : Nat) (0 : BitVec 8) &&& ~~~BitVec.ofInt 8 128)))))))))) (w9 (S (BitVec.ofInt 32 1))))) then bif C (w9 (B (w9 (M (w9 (R (List.take (List.length s) (List.drop 0 (x.set 31 (x.getD (31 : Nat) (0 : BitVec 8) &&& ~~~BitVec.ofInt 8 128)))))) (w9 (R (List.take (List.length s) (List.drop 0 (x.set 31 (x.getD (31 : Nat) (0 : BitVec 8) &&& ~~~BitVec.ofInt 8 128)))))))) (w9 (S (BitVec.ofInt 32 1))))) (w9 (I (w9 (A (w9 (M (w9 g) (w9 (M (w9 (R (List.take (List.length s) (List.drop 0 (x.set 31 (x.getD (31 : Nat) (0 : BitVec 8) &&& ~~~BitVec.ofInt 8 128)))))) (w9 (R (List.take (List.length s) (List.drop 0 (x.set 31 (x.getD (31 : Nat) (0 : BitVec 8) &&& ~~~BitVec.ofInt 8 128)))))))))) (w9 (S (BitVec.ofInt 32 1))))))) then bif D (w9 (M (w9 (B (w9 (M (w9 (R (List.take (List.length s) (List.drop 0 (x.set 31 (x.getD (31 : Nat) (0 : BitVec 8) &&& ~~~BitVec.ofInt 8 128)))))) (w9 (R (List.take (List.length s) (List.drop 0 (x.set 31 (x.getD (31 : Nat) (0 : BitVec 8) &&& ~~~BitVec.ofInt 8 128)))))))) (w9 (S (BitVec.ofInt 32 1))))) (w9 (I (w9 (A (w9 (M (w9 g) (w9 (M (w9 (R (List.take (List.length s) (List.drop 0 (x.set 31 (x.getD (31 : Nat) (0 : BitVec 8) &&& ~~~BitVec.ofInt 8 128)))))) (w9 (R (List.take (List.length s) (List.drop 0 (x.set 31 (x.getD (31 : Nat) (0 : BitVec 8) &&& ~~~BitVec.ofInt 8 128)))))))))) (w9 (S (BitVec.ofInt 32 1))))))))) then ((bif !J (w9 (M (w9 (B (w9 (M (w9 (R (List.take (List.length s) (List.drop 0 (x.set 31 (x.getD (31 : Nat) (0 : BitVec 8) &&& ~~~BitVec.ofInt 8 128)))))) (w9 (R (List.take (List.length s) (List.drop 0 (x.set 31 (x.getD (31 : Nat) (0 : BitVec 8) &&& ~~~BitVec.ofInt 8 128)))))))) (w9 (S (BitVec.ofInt 32 1))))) (w9 (I (w9 (A (w9 (M (w9 g) (w9 (M (w9 (R (List.take (List.length s) (List.drop 0 (x.set 31 (x.getD (31 : Nat) (0 : BitVec 8) &&& ~~~BitVec.ofInt 8 128)))))) (w9 (R (List.take (List.length s) (List.drop 0 (x.set 31 (x.getD (31 : Nat) (0 : BitVec 8) &&& ~~~BitVec.ofInt 8 128)))))))))) (w9 (S (BitVec.ofInt 32 1))))))))) ((BitVec.ofInt 8 128).ule (x.getD (31 : Nat) (0 : BitVec 8))) then K (SV.tup [SV.a64 (List.take 27 (List.drop 0 [(0 : BitVec 64), (0 : BitVec 64), (0 : BitVec 64), (0 : BitVec 64), (0 : BitVec 64), (0 : BitVec 64), (0 : BitVec 64), (0 : BitVec 64), (0 : BitVec 64), (0 : BitVec 64), (0 : BitVec 64), (0 : BitVec 64), (0 : BitVec 64), (0 : BitVec 64), (0 : BitVec 64), (0 : BitVec 64), (0 : BitVec 64), (0 : BitVec 64), (0 : BitVec 64), (0 : BitVec 64), (0 : BitVec 64), (0 : BitVec 64), (0 : BitVec 64), (0 : BitVec 64), (0 : BitVec 64), (0 : BitVec 64), (0 : BitVec 64)])), SV.i (90 : Int)]) else K (SV.tup [SV.a64 (List.take 27 (List.drop 0 (w9 (F (w9 (M (w9 (B (w9 (M (w9 (R (List.take (List.length s) (List.drop 0 (x.set 31 (x.getD (31 : Nat) (0 : BitVec 8) &&& ~~~BitVec.ofInt 8 128)))))) (w9 (R (List.take (List.length s) (List.drop 0 (x.set 31 (x.getD (31 : Nat) (0 : BitVec 8) &&& ~~~BitVec.ofInt 8 128)))))))) (w9 (S (BitVec.ofInt 32 1))))) (w9 (I (w9 (A (w9 (M (w9 g) (w9 (M (w9 (R (List.take (List.length s) (List.drop 0 (x.set 31 (x.getD (31 : Nat) (0 : BitVec 8) &&& ~~~BitVec.ofInt 8 128)))))) (w9 (R (List.take (List.length s) (List.drop 0 (x.set 31 (x.getD (31 : Nat) (0 : BitVec 8) &&& ~~~BitVec.ofInt 8 128)))))))))) (w9 (S (BitVec.ofInt 32 1))))))))) ((BitVec.ofInt 8 128).ule (x.getD (31 : Nat) (0 : BitVec 8)))) ++ (w9 (R (List.take (List.length s) (List.drop 0 (x.set 31 (x.getD (31 : Nat) (0 : BitVec 8) &&& ~~~BitVec.ofInt 8 128))))) ++ (w9 (S (BitVec.ofInt 32 1)) ++ []))))), SV.i (0 : Int)])) ∧ True) ∧ True else False else False else False else False else False else False else False else False else False else False else False else False else False else False else False else False) := by kernel_rfl
def cDeD (F : Tx8 → W6) (J : Tx8 → Int) : List SV → List Cont → Option (Bool × SV)
 | [.s s], _ => some (true, .tup [.a64 (p27 (F s)), .i (J s)])
 | _, _ => none
def EBa (F : Tx8 → W6) (J : Tx8 → Int) : Env := ⟨GE, (noT.add 34 (cDeD F J)).add flagW cFlagZ, noC⟩
def MBa (x : Tx8) : Mm := G5 [⟨true, .a64 z27⟩, ⟨true, .a8 x⟩]
structure IB where
 j : Nat
 cap : Nat
 x : Tx8
def iBa (i : IB) : List (Nat × SV) := [(0, .ptr 5 0), (1, .sl 6 0 (1 + i.j) i.cap)]
def gotB (j : Nat) (fr : List SV) (M : Mm) : Option IB := match fr with
 | _ :: SV.sl k _ _ cap :: _ => match M[k]? with
  | some ⟨_, .a8 x⟩ => some ⟨j, cap, x⟩
  | _ => none
 | _ => none
def vLBa (p : IB → Prop) (fr : List SV) (M : Mm) (K : Ko) : Prop := match gotB 0 fr M with
 | some i => p i ∧ vLe GE fr M 19 (iBa i) (MBa i.x) (∀ cap x, p ⟨31, cap, x⟩ → frK 19 (iBa ⟨31, cap, x⟩) fun fr1 => K .normal fr1 (MBa x))
 | none => False
def LBa (p : IB → Prop) : LT := noL.add 0 (vLBa p)
theorem vaBa (F : Tx8 → W6) (J : Tx8 → Int) (p : IB → Prop) (K : SV → Prop) : (vf Tryz.prog (EBa F J) (LBa p) 16 [] GE (fun r _ => K r)) = (loopOf Tryz.prog 16 0 = loopOf Tryz.prog 16 0 ∧ p { j := (0 : Nat), cap := (1 : Nat), x := [BitVec.ofInt 8 88] } ∧ SV.ptr 5 0 = SV.ptr 5 0 ∧ SV.sl 6 0 (1 : Nat) (1 : Nat) = SV.sl 6 0 (1 : Nat) (1 : Nat) ∧ g5E ((true = true ∧ Cont.a64 (List.replicate 27 (0 : BitVec 64)) = Cont.a64 z27) ∧ (true = true ∧ Cont.a8 [BitVec.ofInt 8 88] = Cont.a8 [BitVec.ofInt 8 88]) ∧ ∀ (cap : Nat) (x : Tx8), p { j := (31 : Nat), cap := cap, x := x } → bif decide ((0 : Nat) + ((1 : Nat) + (31 : Nat)) ≤ List.length x) then K (SV.a64 (List.take 27 (List.drop 0 (p27 (F (List.take ((1 : Nat) + (31 : Nat)) (List.drop 0 x))))))) else False)) := by kernel_rfl
theorem vrBa (F : Tx8 → W6) (J : Tx8 → Int) (i : IB) (a : IB → Prop) (q : Prop) : (frK 19 (iBa i) fun fr => vround Tryz.prog (EBa F J) noL 16 0 fr (MBa i.x) (Ks GE 0 19 (gotB (i.j + 1)) [5, 8] a iBa (fun i => MBa i.x) q (iBa i) (MBa i.x))) = (bif ilt (↑((1 : Nat) + i.j) : Int) (32 : Int) then bif decide ((1 : Nat) + i.j ≤ i.cap) && decide (List.length i.x = i.cap) && decide ((1 : Nat) + i.j + (1 : Nat) ≤ (1099511627776 : Nat)) && true then ∀ (cap' : Nat) (rest : List (BitVec 8)), (1 : Nat) + i.j + (1 : Nat) + rest.length = cap' → a { j := i.j + (1 : Nat), cap := cap', x := List.take ((1 : Nat) + i.j) i.x ++ List.take 1 (List.drop 0 [BitVec.ofInt 8 102]) ++ rest } ∧ SV.ptr 5 0 = ren (sig 5 [(5 : Nat), (8 : Nat)]) (SV.ptr 5 0) ∧ SV.sl ((0 : Nat) + (1 : Nat) + (1 : Nat) + (1 : Nat) + (1 : Nat) + (1 : Nat) + (1 : Nat) + (1 : Nat) + (1 : Nat)) (0 : Nat) ((1 : Nat) + i.j + (1 : Nat)) cap' = ren (sig 5 [(5 : Nat), (8 : Nat)]) (SV.sl 6 0 ((1 : Nat) + (i.j + (1 : Nat))) cap') ∧ (false = false ∧ Cont.a64 BEG = Cont.ren (sig 5 [(5 : Nat), (8 : Nat)]) (Cont.a64 BEG)) ∧ (false = false ∧ Cont.a64 PRI = Cont.ren (sig 5 [(5 : Nat), (8 : Nat)]) (Cont.a64 PRI)) ∧ (false = false ∧ Cont.a64 CON = Cont.ren (sig 5 [(5 : Nat), (8 : Nat)]) (Cont.a64 CON)) ∧ (false = false ∧ Cont.a64 WHO = Cont.ren (sig 5 [(5 : Nat), (8 : Nat)]) (Cont.a64 WHO)) ∧ (false = false ∧ Cont.a64 ROM = Cont.ren (sig 5 [(5 : Nat), (8 : Nat)]) (Cont.a64 ROM)) ∧ (true = true ∧ Cont.a64 z27 = Cont.ren (sig 5 [(5 : Nat), (8 : Nat)]) (Cont.a64 z27)) ∧ (true = true ∧ Cont.a8 (List.take ((1 : Nat) + i.j) i.x ++ List.take 1 (List.drop 0 [BitVec.ofInt 8 102]) ++ rest) = Cont.ren (sig 5 [(5 : Nat), (8 : Nat)]) (Cont.a8 (List.take ((1 : Nat) + i.j) i.x ++ List.take 1 (List.drop 0 [BitVec.ofInt 8 102]) ++ rest))) ∧ True else False else (0 : Nat) = (0 : Nat) ∧ q ∧ SV.ptr 5 0 = SV.ptr 5 0 ∧ SV.sl 6 0 ((1 : Nat) + i.j) i.cap = SV.sl 6 0 ((1 : Nat) + i.j) i.cap ∧ g5E ((true = true ∧ Cont.a64 z27 = Cont.a64 z27) ∧ (true = true ∧ Cont.a8 i.x = Cont.a8 i.x) ∧ True)) := by kernel_rfl
def yD (s : Tx8) : Nat := rd (u8 s) 32
def isD (s : Tx8) : Bool := decide (yD s < Mt.Nt.P) && Mt.ok (Mt.x2 (yD s)) (o8 s)
def deJ (s : Tx8) : Int := bif Nat.beq s.length 32 then bif isD s then 0 else 90 else 2
def deF (s : Tx8) : W6 := bif Nat.beq s.length 32 && isD s then pd ⟨Mt.ro (Mt.x2 (yD s)) (o8 s), yD s, 1⟩ else z27
theorem ede_ok : EnvOk Tryz.prog (EDe caF' ofF smF QQ adF sbF muF Q ivF roF rjF (dg Mt.dN)) := ⟨PT.add_ok (PT.add_ok (PT.add_ok (PT.add_ok (PT.add_ok (PT.add_ok (PT.add_ok (PT.add_ok (PT.add_ok (PT.add_ok (noT_ok _ _) canonD_ok) ofD_ok) smallD_ok) mulD_ok) addD_ok') subD_ok) invD_ok) rootD_ok) givenD_ok) (flagZ_ok _), noC_ok _ _⟩
theorem o8_ule : ∀ b : BitVec 8, (BitVec.ofInt 8 128).ule b = (b &&& BitVec.ofInt 8 128 != BitVec.ofInt 8 0) := by decide +kernel
theorem tk27 (a b c : Nat) : List.take 27 (List.drop 0 (dg a ++ (dg b ++ (dg c ++ [])))) = p27 (pd ⟨a, b, c⟩) := rfl
theorem sm_one' : smF (BitVec.ofInt 32 1) = dg 1 := sm_one
theorem ro' {a : Nat} (ha : a < Mt.Nt.P) (o : Bool) : roF (dg a) o = dg (Mt.ro a o) := by unfold roF; rw [nvd ha]
theorem rj' {a : Nat} (ha : a < Mt.Nt.P) (o : Bool) : rjF (dg a) o = Mt.ok a o := by unfold rjF; rw [nvd ha]
theorem u8_len (s : Tx8) : (u8 s).length = s.length := List.length_set
theorem de_row (s : Tx8) (K : SV → Prop) (hK : K (.tup [.a64 (p27 (deF s)), .i (deJ s)])) : vf Tryz.prog (EDe caF' ofF smF QQ adF sbF muF Q ivF roF rjF (dg Mt.dN)) noL 34 [.s s] GE (fun r _ => K r) := by
 refine of_eq (vaDe caF' ofF smF QQ adF sbF muF Q ivF roF rjF (dg Mt.dN) s K) ?_
 unfold deF deJ at hK
 cases hb : Nat.beq s.length 32
 ·have hn : ((s.length : Int) != 32) = true := by
   have := Nat.ne_of_beq_eq_false hb
   simp; omega
  rw [hn, cond_true]
  rw [hb] at hK
  exact hK
 have hl := Nat.eq_of_beq_eq_true hb
 have hn : ((s.length : Int) != 32) = false := by rw [hl]; rfl
 rw [hn, cond_false]
 intro cap x hc hx
 rw [hb, Bool.true_and, cond_true] at hK
 subst hx
 have hU := u8_len s
 have hblt : Nat.blt 31 (s ++ List.replicate (cap - s.length) (0 : BitVec 8)).length = true := blt_of (by rw [List.length_append]; omega)
 have hu : s.set 31 (s.getD 31 0 &&& ~~~BitVec.ofInt 8 128) = u8 s := rfl
 have ho : (s.getD 31 0 &&& BitVec.ofInt 8 128 != BitVec.ofInt 8 0) = o8 s := rfl
 have hd : decide (0 + s.length ≤ (u8 s ++ List.replicate (cap - s.length) (0 : BitVec 8)).length) = true := decide_eq_true (by rw [List.length_append]; omega)
 rw [get_app _ _ 31 (by omega), set_app _ _ 31 _ (by omega), hu, o8_ule, ho, hblt, List.drop_zero, List.take_left' hU, hd]
 have hin : inR 31 s.length = true := by rw [hl]; rfl
 have hUb : Nat.beq (u8 s).length 32 = true := by rw [hU, hb]
 have hca : caF' (u8 s) = decide (yD s < Mt.Nt.P) := by unfold caF' yD; rw [hUb, Bool.true_and]
 rw [hin, hca, hUb]
 unfold isD at hK
 by_cases hy : yD s < Mt.Nt.P
 case neg =>
  rw [decide_eq_false hy] at hK ⊢
  exact hK
 rw [decide_eq_true hy, Bool.true_and] at hK
 rw [decide_eq_true hy]
 have hof : ofF (u8 s) = dg (yD s) := by unfold ofF yD; rw [Nat.mod_eq_of_lt (show rd (u8 s) 32 < Mt.Nt.P from hy)]
 have hx2 := Mt.x2_doc (yD s)
 have hx2l := Mt.x2_lt (yD s)
 have hI := iv' (Mt.ad_lt (mq Mt.dN (mq (yD s) (yD s))) 1)
 have hv := Mt.iv_ltP (ad (mq Mt.dN (mq (yD s) (yD s))) 1)
 have hro := ro' hx2l (o8 s)
 have hrj := rj' hx2l (o8 s)
 have hrl := Mt.ro_ltP (Mt.x2 (yD s)) (o8 s)
 generalize Mt.iv (ad (mq Mt.dN (mq (yD s) (yD s))) 1) = v at *
 generalize Mt.ro (Mt.x2 (yD s)) (o8 s) = r at *
 generalize Mt.ok (Mt.x2 (yD s)) (o8 s) = k at *
 generalize Mt.x2 (yD s) = X at *
 have hyy := Mt.ml_lt (yD s) (yD s)
 have hdy := Mt.ml_lt Mt.dN (mq (yD s) (yD s))
 have had := Mt.ad_lt (mq Mt.dN (mq (yD s) (yD s))) 1
 have hsb := Mt.sb_lt (mq (yD s) (yD s)) 1
 rw [hof, Mt.Dg.w9_dg, mu' hy hy, Mt.Dg.w9_dg, sm_one', Mt.Dg.w9_dg 1, Mt.Dg.w9_dg Mt.dN, mu' Mt.dN_lt hyy, Mt.Dg.w9_dg, ad' hdy Mt.one_lt, Mt.Dg.w9_dg, hI, Mt.Dg.w9_dg, sb' hyy Mt.one_lt, Mt.Dg.w9_dg, mu' hsb hv, hx2, Mt.Dg.w9_dg, hro, hrj, Mt.Dg.w9_dg, tk27]
 refine bif_of rfl (bif_of rfl (bif_of rfl (bif_of rfl (bif_of rfl (bif_of rfl (bif_of rfl ?_))))))
 rw [Bool.not_true, cond_false]
 refine bif_of rfl (bif_of rfl (bif_of (QQ_dg hy hy) (bif_of (QQ_dg hyy Mt.one_lt) (bif_of (QQ_dg Mt.dN_lt hyy) (bif_of (QQ_dg hdy Mt.one_lt) (bif_of (Mt.Dg.Q_dg had) (bif_of (QQ_dg hsb hv) (bif_of (Mt.Dg.Q_dg hx2l) ⟨⟨?_, trivial⟩, trivial⟩))))))))
 cases k
 ·exact hK
 ·exact hK
theorem decodeD_ok : POk Tryz.prog GE 34 (cDeD deF deJ) := by
 intro args acs r hh β M w hR hw ha
 unfold cDeD at hh
 split at hh
 ·rename_i s
  simp only [Option.some.injEq, Prod.mk.injEq, true_and] at hh
  subst hh
  generalize hF : deF s = f
  generalize hJ : deJ s = j
  exact pokE (E := EDe caF' ofF smF QQ adF sbF muF Q ivF roF rjF (dg Mt.dN)) rfl ede_ok rfl (de_row s _ (by rw [hF, hJ])) rfl rfl hR
 ·cases hh
theorem eba_ok : EnvOk Tryz.prog (EBa deF deJ) := ⟨PT.add_ok (PT.add_ok (noT_ok _ _) decodeD_ok) (flagZ_ok _), noC_ok _ _⟩
def pBa (i : IB) : Prop := i.j ≤ 31 ∧ i.x.length = i.cap ∧ ∃ rest, i.x = [88] ++ List.replicate i.j 102 ++ rest
theorem loopBa : ∀ fr M K, vLBa pBa fr M K → Wp Tryz.prog GE GE (loopOf Tryz.prog 16 0) fr M K := by
 intro fr M K h
 unfold vLBa at h
 split at h
 ·rename_i i0 hi0
  obtain ⟨hp0, h⟩ := h
  obtain ⟨h0, hK⟩ := vLe_ok h
  refine loop_sel eba_ok mixed (noL_ok _ _ _ _) (Nat.le_refl _) (by kernel_rfl) iBa (fun i => MBa i.x) pBa (fun i => 31 - i.j) (fun i => gotB (i.j + 1)) (fun _ => [5, 8]) (fun i => i.j = 31) iBa (fun i => MBa i.x) i0 hp0 (fun i hp => of_eq (vrBa deF deJ i _ _) ?_) h0 (fun i hp hq => ?_)
  ·obtain ⟨j, c, x⟩ := i
   obtain ⟨hj, hx, rest, hr⟩ := hp
   dsimp only at hj hx hr ⊢
   have hl : ([88] ++ List.replicate j (102 : BitVec 8)).length = 1 + j := by simp; omega
   have hcl : 1 + j ≤ c := by rw [← hx, hr, List.length_append, hl]; omega
   have ht : x.take (1 + j) = [88] ++ List.replicate j 102 := by rw [hr, List.take_append_of_le_length (by omega), List.take_of_length_le (by omega)]
   cases hc : ilt ((1 + j : Nat) : Int) 32
   ·have hj2 : j = 31 := by rw [ilt_eq] at hc; have := of_decide_eq_false hc; omega
    exact ⟨rfl, hj2, rfl, rfl, ⟨rfl, rfl⟩, ⟨rfl, rfl⟩, ⟨rfl, rfl⟩, ⟨rfl, rfl⟩, ⟨rfl, rfl⟩, ⟨rfl, rfl⟩, ⟨rfl, rfl⟩, trivial⟩
   ·have hj2 : j < 31 := by rw [ilt_eq] at hc; have := of_decide_eq_true hc; omega
    rw [ht]
    refine bif_of ?_ fun cap' rest' hc' => ⟨⟨⟨by show j + 1 ≤ 31; omega, ?_, rest', ?_⟩, by show 31 - (j + 1) < 31 - j; omega⟩, rfl, rfl, ⟨rfl, rfl⟩, ⟨rfl, rfl⟩, ⟨rfl, rfl⟩, ⟨rfl, rfl⟩, ⟨rfl, rfl⟩, ⟨rfl, rfl⟩, ⟨rfl, rfl⟩, trivial⟩
    ·simp; omega
    ·dsimp only
     rw [List.length_append, List.length_append, hl]; exact hc'
    ·dsimp only
     rw [List.replicate_succ']
     simp
  ·obtain ⟨j, c, x⟩ := i
   obtain rfl : j = 31 := hq
   have := hK c x hp
   rw [frK_eq] at this
   exact this
 ·exact h.elim
def bT : Tx8 := [88] ++ List.replicate 31 102
theorem bT_u : u8 bT = bT := by decide +kernel
theorem bT_o : o8 bT = decide (Mt.Bp.x.val % 2 = 1) := by decide +kernel
theorem bT_y : yD bT = Mt.Bp.y.val := by unfold yD; rw [bT_u]; decide +kernel
theorem de_base : deF bT = pd br := by
 obtain ⟨r1, r2⟩ := Mt.root_of (Mt.Ed.val_lt Mt.Bp.x) (Mt.on_val Mt.Bp_on)
 have hy : yD bT < Mt.Nt.P := by rw [bT_y]; exact Mt.Ed.val_lt _
 unfold deF isD
 rw [decide_eq_true hy, bT_o, bT_y, r1, r2]
 rfl
theorem baseD_ok : POk Tryz.prog GE 16 (cP0 (pd br)) := by
 intro args acs r hh β M w hR hw ha
 unfold cP0 at hh
 split at hh
 ·simp only [Option.some.injEq, Prod.mk.injEq, true_and] at hh
  subst hh
  refine pokE' (E := EBa deF deJ) rfl eba_ok (LT.add_ok (noL_ok _ _ _ _) loopBa) (vaBa deF deJ pBa _) ?_ rfl rfl hR
  refine ⟨rfl, ⟨by decide, rfl, [], rfl⟩, rfl, rfl, ⟨rfl, rfl⟩, ⟨rfl, rfl⟩, ⟨rfl, rfl⟩, ⟨rfl, rfl⟩, ⟨rfl, rfl⟩, ⟨rfl, rfl⟩, ⟨rfl, rfl⟩, ?_⟩
  rintro cap x ⟨-, hx, rest, hr⟩
  dsimp only at hx hr
  have hl : ([88] ++ List.replicate 31 (102 : BitVec 8)).length = 32 := rfl
  have ht : List.take (1 + 31) (List.drop 0 x) = bT := by rw [List.drop_zero, hr]; exact List.take_left' hl
  rw [ht, de_base]
  refine bif_of (decide_eq_true (by rw [hr, List.length_append, hl]; omega)) ?_
  exact congrArg SV.a64 rfl
 ·cases hh
end Dc
end Go.Proofs.YtdfghknonbmadaaGreatDoor
namespace Go.Proofs.YtdfghknonbmadaaGreatDoor
namespace Sh
open Go.RowKit
set_option linter.unusedVariables false
set_option linter.unusedSimpArgs false
set_option maxRecDepth 100000
def cRight : List SV → List Cont → Option (Bool × SV)
 | [.w64 x, .w64 n], _ => some (true, .w64 (rr x n))
 | _, _ => none
theorem vc25 (x n : BitVec 64) (K : SV → Mm → Prop) : (vf Tryz.prog E0 noL 89 [.w64 x, .w64 n] G K) = (K (SV.w64 (x >>> n.toNat ||| x <<< (BitVec.ofInt 64 64 - n).toNat)) G) := by kernel_rfl
theorem right_ok : POk Tryz.prog G 89 cRight := by
 intro args acs r h β M w hR hw ha
 unfold cRight at h
 split at h
 ·simp only [Option.some.injEq, Prod.mk.injEq, true_and] at h
  subst h
  refine pure0 (vf_ok e0_ok mixed (noL_ok _ _ _ _) (of_eq (vc25 _ _ _) ?_)) rfl rfl hR
  rfl
 ·cases h
def EU : Env := ⟨G, noT.add 89 cRight, noC⟩
theorem eu_ok : EnvOk Tryz.prog EU := ⟨PT.add_ok (noT_ok _ _) right_ok, noC_ok _ _⟩
theorem vc24 (l : List (BitVec 64)) (i : Int) (K : SV → Mm → Prop) : (vf Tryz.prog EU noL 87 [.a64 l, .i i] G K) = (bif inI (i - 15) then bif inR (i - 15) 80 then bif (i - 15).toNat.blt l.length then bif inI (i - 2) then bif inR (i - 2) 80 then bif (i - 2).toNat.blt l.length then bif inI (i - 16) then bif inR (i - 16) 80 then bif (i - 16).toNat.blt l.length then bif inI (i - 7) then bif inR (i - 7) 80 then bif (i - 7).toNat.blt l.length then K (SV.w64 (l.getD (i - 16).toNat 0 + (rr (l.getD (i - 15).toNat 0) (BitVec.ofInt 64 1) ^^^ rr (l.getD (i - 15).toNat 0) (BitVec.ofInt 64 8) ^^^ l.getD (i - 15).toNat 0 >>> 7) + l.getD (i - 7).toNat 0 + (rr (l.getD (i - 2).toNat 0) (BitVec.ofInt 64 19) ^^^ rr (l.getD (i - 2).toNat 0) (BitVec.ofInt 64 61) ^^^ l.getD (i - 2).toNat 0 >>> 6))) [{ rw := false, c := Cont.a64 BEG }, { rw := false, c := Cont.a64 PRI }, { rw := false, c := Cont.a64 CON }, { rw := false, c := Cont.a64 WHO }, { rw := false, c := Cont.a64 ROM }, { rw := true, c := Cont.a64 l }] else False else False else False else False else False else False else False else False else False else False else False else False) := by kernel_rfl
def cWord : List SV → List Cont → Option (Bool × SV)
 | [.a64 l, .i i], _ => some (ile 16 i && (ilt i 80 && Nat.beq l.length 80), .w64 (nw l i.toNat))
 | _, _ => none
theorem word_ok : POk Tryz.prog G 87 cWord := by
 intro args acs r h β M w hR hw ha
 unfold cWord at h
 split at h
 ·rename_i l i
  simp only [Option.some.injEq, Prod.mk.injEq, Bool.and_eq_true, ile_eq, ilt_eq, decide_eq_true_eq] at h
  obtain ⟨⟨h1, h2, h3⟩, rfl⟩ := h
  have h3 := Nat.eq_of_beq_eq_true h3
  refine pure0 (vf_ok eu_ok mixed (noL_ok _ _ _ _) (of_eq (vc24 _ _ _) ?_)) rfl rfl hR
  have a1 : ∀ k : Nat, k ≤ 16 → inI (i - (k : Int)) = true := fun k hk => inI_iff.2 (by omega)
  have a2 : ∀ k : Nat, 0 < k → k ≤ 16 → inR (i - (k : Int)) 80 = true := fun k h0 hk => inR_iff.2 (by omega)
  have a3 : ∀ k : Nat, k ≤ 16 → (i - (k : Int)).toNat = i.toNat - k := fun k hk => by omega
  have a4 : ∀ k : Nat, 0 < k → k ≤ 16 → Nat.blt ((i - (k : Int)).toNat) l.length = true := fun k h0 hk => blt_of (by omega)
  refine bif_of (a1 15 (by decide)) (bif_of (a2 15 (by decide) (by decide)) (bif_of (a4 15 (by decide) (by decide)) ?_))
  refine bif_of (a1 2 (by decide)) (bif_of (a2 2 (by decide) (by decide)) (bif_of (a4 2 (by decide) (by decide)) ?_))
  refine bif_of (a1 16 (by decide)) (bif_of (a2 16 (by decide) (by decide)) (bif_of (a4 16 (by decide) (by decide)) ?_))
  refine bif_of (a1 7 (by decide)) (bif_of (a2 7 (by decide) (by decide)) (bif_of (a4 7 (by decide) (by decide)) ?_))
  have b15 : (i - 15).toNat = i.toNat - 15 := a3 15 (by decide)
  have b2 : (i - 2).toNat = i.toNat - 2 := a3 2 (by decide)
  have b16 : (i - 16).toNat = i.toNat - 16 := a3 16 (by decide)
  have b7 : (i - 7).toNat = i.toNat - 7 := a3 7 (by decide)
  rw [b15, b2, b16, b7]
  rfl
 ·cases h
end Sh
end Go.Proofs.YtdfghknonbmadaaGreatDoor
