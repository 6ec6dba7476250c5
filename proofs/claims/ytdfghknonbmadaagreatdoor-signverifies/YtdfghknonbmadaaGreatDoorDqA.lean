/-
  The document's points, in the reckoner. No statement is proved here.
-/
import Derived.Test.YtdfghknonbmadaaGreatDoorDpB
import Derived.Test.YtdfghknonbmadaaGreatDoorDnE
namespace Go.Proofs.YtdfghknonbmadaaGreatDoor
namespace Dc
open Go.RowKit
set_option linter.unusedVariables false
set_option linter.unusedSimpArgs false
set_option maxRecDepth 100000
open Mt.Dg (w9 dg bb nv Q Qd rd byt vbl vb)
open Mt (Lq Pd IsR rad zr br mq ad sb)
def flagW : Nat := 1000002
def p3 (x y z : W6) : W6 := w9 x ++ (w9 y ++ w9 z)
def p27 (l : W6) : W6 := [l.getD 0 0, l.getD 1 0, l.getD 2 0, l.getD 3 0, l.getD 4 0, l.getD 5 0, l.getD 6 0, l.getD 7 0, l.getD 8 0, l.getD 9 0, l.getD 10 0, l.getD 11 0, l.getD 12 0, l.getD 13 0, l.getD 14 0, l.getD 15 0, l.getD 16 0, l.getD 17 0, l.getD 18 0, l.getD 19 0, l.getD 20 0, l.getD 21 0, l.getD 22 0, l.getD 23 0, l.getD 24 0, l.getD 25 0, l.getD 26 0]
def EGv (R : Tx8 → W6) (S : BitVec 32 → W6) : Env := ⟨GE, ((noT.add 69 (cRe R)).add 70 (cSm S)).add flagW cFlagZ, noC⟩
theorem vaGv (R : Tx8 → W6) (S : BitVec 32 → W6) (K : SV → Prop) : (vf Tryz.prog (EGv R S) noL 72 [] GE (fun r _ => K r)) = (K (SV.a64 (w9 (R (bts { data := #[(163 : UInt8), (120 : UInt8), (89 : UInt8), (19 : UInt8), (202 : UInt8), (77 : UInt8), (235 : UInt8), (117 : UInt8), (171 : UInt8), (216 : UInt8), (65 : UInt8), (65 : UInt8), (77 : UInt8), (10 : UInt8), (112 : UInt8), (0 : UInt8), (152 : UInt8), (232 : UInt8), (121 : UInt8), (119 : UInt8), (121 : UInt8), (64 : UInt8), (199 : UInt8), (140 : UInt8), (115 : UInt8), (254 : UInt8), (111 : UInt8), (43 : UInt8), (238 : UInt8), (108 : UInt8), (3 : UInt8), (82 : UInt8)] }))))) := by kernel_rfl
theorem vaZe (R : Tx8 → W6) (S : BitVec 32 → W6) (K : SV → Prop) : (vf Tryz.prog (EGv R S) noL 37 [] GE (fun r _ => K r)) = (K (SV.a64 (List.take 27 (List.drop 0 [(0 : BitVec 64), (0 : BitVec 64), (0 : BitVec 64), (0 : BitVec 64), (0 : BitVec 64), (0 : BitVec 64), (0 : BitVec 64), (0 : BitVec 64), (0 : BitVec 64), List.getD (S (BitVec.ofInt 32 1)) (0 : Nat) (0 : BitVec 64), List.getD (S (BitVec.ofInt 32 1)) (1 : Nat) (0 : BitVec 64), List.getD (S (BitVec.ofInt 32 1)) (2 : Nat) (0 : BitVec 64), List.getD (S (BitVec.ofInt 32 1)) (3 : Nat) (0 : BitVec 64), List.getD (S (BitVec.ofInt 32 1)) (4 : Nat) (0 : BitVec 64), List.getD (S (BitVec.ofInt 32 1)) (5 : Nat) (0 : BitVec 64), List.getD (S (BitVec.ofInt 32 1)) (6 : Nat) (0 : BitVec 64), List.getD (S (BitVec.ofInt 32 1)) (7 : Nat) (0 : BitVec 64), List.getD (S (BitVec.ofInt 32 1)) (8 : Nat) (0 : BitVec 64), List.getD (S (BitVec.ofInt 32 1)) (0 : Nat) (0 : BitVec 64), List.getD (S (BitVec.ofInt 32 1)) (1 : Nat) (0 : BitVec 64), List.getD (S (BitVec.ofInt 32 1)) (2 : Nat) (0 : BitVec 64), List.getD (S (BitVec.ofInt 32 1)) (3 : Nat) (0 : BitVec 64), List.getD (S (BitVec.ofInt 32 1)) (4 : Nat) (0 : BitVec 64), List.getD (S (BitVec.ofInt 32 1)) (5 : Nat) (0 : BitVec 64), List.getD (S (BitVec.ofInt 32 1)) (6 : Nat) (0 : BitVec 64), List.getD (S (BitVec.ofInt 32 1)) (7 : Nat) (0 : BitVec 64), List.getD (S (BitVec.ofInt 32 1)) (8 : Nat) (0 : BitVec 64)])))) := by kernel_rfl
def EAd (C : W6 → W6 → Bool) (A S M : W6 → W6 → W6) (g : W6) : Env := ⟨GE, ((((noT.add 43 (c2 C M)).add 73 (c2 C A)).add 71 (c2 C S)).add 72 (c0 g)).add flagW cFlagZ, noC⟩
theorem vaPA (C : W6 → W6 → Bool) (A S M : W6 → W6 → W6) (g x y z x' y' z' : W6) (K : SV → Prop) : (vf Tryz.prog (EAd C A S M g) noL 35 [.a64 (p3 x y z), .a64 (p3 x' y' z')] GE (fun r _ => K r)) = (bif C (List.take 9 (List.drop 18 (p3 x y z))) (List.take 9 (List.drop 18 (p3 x' y' z'))) then bif C (w9 (M (List.take 9 (List.drop 18 (p3 x y z))) (List.take 9 (List.drop 18 (p3 x' y' z'))))) (w9 (M (List.take 9 (List.drop 18 (p3 x y z))) (List.take 9 (List.drop 18 (p3 x' y' z'))))) then bif C (List.take 9 (List.drop 0 (p3 x y z))) (List.take 9 (List.drop 0 (p3 x' y' z'))) then bif C (List.take 9 (List.drop 9 (p3 x y z))) (List.take 9 (List.drop 9 (p3 x' y' z'))) then bif C (w9 g) (w9 (M (List.take 9 (List.drop 0 (p3 x y z))) (List.take 9 (List.drop 0 (p3 x' y' z'))))) then bif C (w9 (M (w9 g) (w9 (M (List.take 9 (List.drop 0 (p3 x y z))) (List.take 9 (List.drop 0 (p3 x' y' z'))))))) (w9 (M (List.take 9 (List.drop 9 (p3 x y z))) (List.take 9 (List.drop 9 (p3 x' y' z'))))) then bif C (w9 (M (w9 (M (List.take 9 (List.drop 18 (p3 x y z))) (List.take 9 (List.drop 18 (p3 x' y' z'))))) (w9 (M (List.take 9 (List.drop 18 (p3 x y z))) (List.take 9 (List.drop 18 (p3 x' y' z'))))))) (w9 (M (w9 (M (w9 g) (w9 (M (List.take 9 (List.drop 0 (p3 x y z))) (List.take 9 (List.drop 0 (p3 x' y' z'))))))) (w9 (M (List.take 9 (List.drop 9 (p3 x y z))) (List.take 9 (List.drop 9 (p3 x' y' z'))))))) then bif C (w9 (M (w9 (M (List.take 9 (List.drop 18 (p3 x y z))) (List.take 9 (List.drop 18 (p3 x' y' z'))))) (w9 (M (List.take 9 (List.drop 18 (p3 x y z))) (List.take 9 (List.drop 18 (p3 x' y' z'))))))) (w9 (M (w9 (M (w9 g) (w9 (M (List.take 9 (List.drop 0 (p3 x y z))) (List.take 9 (List.drop 0 (p3 x' y' z'))))))) (w9 (M (List.take 9 (List.drop 9 (p3 x y z))) (List.take 9 (List.drop 9 (p3 x' y' z'))))))) then bif C (List.take 9 (List.drop 0 (p3 x y z))) (List.take 9 (List.drop 9 (p3 x y z))) then bif C (List.take 9 (List.drop 0 (p3 x' y' z'))) (List.take 9 (List.drop 9 (p3 x' y' z'))) then bif C (w9 (A (List.take 9 (List.drop 0 (p3 x y z))) (List.take 9 (List.drop 9 (p3 x y z))))) (w9 (A (List.take 9 (List.drop 0 (p3 x' y' z'))) (List.take 9 (List.drop 9 (p3 x' y' z'))))) then bif C (w9 (M (w9 (A (List.take 9 (List.drop 0 (p3 x y z))) (List.take 9 (List.drop 9 (p3 x y z))))) (w9 (A (List.take 9 (List.drop 0 (p3 x' y' z'))) (List.take 9 (List.drop 9 (p3 x' y' z'))))))) (w9 (M (List.take 9 (List.drop 0 (p3 x y z))) (List.take 9 (List.drop 0 (p3 x' y' z'))))) then bif C (w9 (S (w9 (M (w9 (A (List.take 9 (List.drop 0 (p3 x y z))) (List.take 9 (List.drop 9 (p3 x y z))))) (w9 (A (List.take 9 (List.drop 0 (p3 x' y' z'))) (List.take 9 (List.drop 9 (p3 x' y' z'))))))) (w9 (M (List.take 9 (List.drop 0 (p3 x y z))) (List.take 9 (List.drop 0 (p3 x' y' z'))))))) (w9 (M (List.take 9 (List.drop 9 (p3 x y z))) (List.take 9 (List.drop 9 (p3 x' y' z'))))) then bif C (w9 (M (List.take 9 (List.drop 18 (p3 x y z))) (List.take 9 (List.drop 18 (p3 x' y' z'))))) (w9 (S (w9 (M (w9 (M (List.take 9 (List.drop 18 (p3 x y z))) (List.take 9 (List.drop 18 (p3 x' y' z'))))) (w9 (M (List.take 9 (List.drop 18 (p3 x y z))) (List.take 9 (List.drop 18 (p3 x' y' z'))))))) (w9 (M (w9 (M (w9 g) (w9 (M (List.take 9 (List.drop 0 (p3 x y z))) (List.take 9 (List.drop 0 (p3 x' y' z'))))))) (w9 (M (List.take 9 (List.drop 9 (p3 x y z))) (List.take 9 (List.drop 9 (p3 x' y' z'))))))))) then bif C (w9 (M (w9 (M (List.take 9 (List.drop 18 (p3 x y z))) (List.take 9 (List.drop 18 (p3 x' y' z'))))) (w9 (S (w9 (M (w9 (M (List.take 9 (List.drop 18 (p3 x y z))) (List.take 9 (List.drop 18 (p3 x' y' z'))))) (w9 (M (List.take 9 (List.drop 18 (p3 x y z))) (List.take 9 (List.drop 18 (p3 x' y' z'))))))) (w9 (M (w9 (M (w9 g) (w9 (M (List.take 9 (List.drop 0 (p3 x y z))) (List.take 9 (List.drop 0 (p3 x' y' z'))))))) (w9 (M (List.take 9 (List.drop 9 (p3 x y z))) (List.take 9 (List.drop 9 (p3 x' y' z'))))))))))) (w9 (S (w9 (S (w9 (M (w9 (A (List.take 9 (List.drop 0 (p3 x y z))) (List.take 9 (List.drop 9 (p3 x y z))))) (w9 (A (List.take 9 (List.drop 0 (p3 x' y' z'))) (List.take 9 (List.drop 9 (p3 x' y' z'))))))) (w9 (M (List.take 9 (List.drop 0 (p3 x y z))) (List.take 9 (List.drop 0 (p3 x' y' z'))))))) (w9 (M (List.take 9 (List.drop 9 (p3 x y z))) (List.take 9 (List.drop 9 (p3 x' y' z'))))))) then bif C (w9 (M (List.take 9 (List.drop 18 (p3 x y z))) (List.take 9 (List.drop 18 (p3 x' y' z'))))) (w9 (A (w9 (M (w9 (M (List.take 9 (List.drop 18 (p3 x y z))) (List.take 9 (List.drop 18 (p3 x' y' z'))))) (w9 (M (List.take 9 (List.drop 18 (p3 x y z))) (List.take 9 (List.drop 18 (p3 x' y' z'))))))) (w9 (M (w9 (M (w9 g) (w9 (M (List.take 9 (List.drop 0 (p3 x y z))) (List.take 9 (List.drop 0 (p3 x' y' z'))))))) (w9 (M (List.take 9 (List.drop 9 (p3 x y z))) (List.take 9 (List.drop 9 (p3 x' y' z'))))))))) then bif C (w9 (M (List.take 9 (List.drop 9 (p3 x y z))) (List.take 9 (List.drop 9 (p3 x' y' z'))))) (w9 (M (List.take 9 (List.drop 0 (p3 x y z))) (List.take 9 (List.drop 0 (p3 x' y' z'))))) then bif C (w9 (M (w9 (M (List.take 9 (List.drop 18 (p3 x y z))) (List.take 9 (List.drop 18 (p3 x' y' z'))))) (w9 (A (w9 (M (w9 (M (List.take 9 (List.drop 18 (p3 x y z))) (List.take 9 (List.drop 18 (p3 x' y' z'))))) (w9 (M (List.take 9 (List.drop 18 (p3 x y z))) (List.take 9 (List.drop 18 (p3 x' y' z'))))))) (w9 (M (w9 (M (w9 g) (w9 (M (List.take 9 (List.drop 0 (p3 x y z))) (List.take 9 (List.drop 0 (p3 x' y' z'))))))) (w9 (M (List.take 9 (List.drop 9 (p3 x y z))) (List.take 9 (List.drop 9 (p3 x' y' z'))))))))))) (w9 (A (w9 (M (List.take 9 (List.drop 9 (p3 x y z))) (List.take 9 (List.drop 9 (p3 x' y' z'))))) (w9 (M (List.take 9 (List.drop 0 (p3 x y z))) (List.take 9 (List.drop 0 (p3 x' y' z'))))))) then bif C (w9 (S (w9 (M (w9 (M (List.take 9 (List.drop 18 (p3 x y z))) (List.take 9 (List.drop 18 (p3 x' y' z'))))) (w9 (M (List.take 9 (List.drop 18 (p3 x y z))) (List.take 9 (List.drop 18 (p3 x' y' z'))))))) (w9 (M (w9 (M (w9 g) (w9 (M (List.take 9 (List.drop 0 (p3 x y z))) (List.take 9 (List.drop 0 (p3 x' y' z'))))))) (w9 (M (List.take 9 (List.drop 9 (p3 x y z))) (List.take 9 (List.drop 9 (p3 x' y' z'))))))))) (w9 (A (w9 (M (w9 (M (List.take 9 (List.drop 18 (p3 x y z))) (List.take 9 (List.drop 18 (p3 x' y' z'))))) (w9 (M (List.take 9 (List.drop 18 (p3 x y z))) (List.take 9 (List.drop 18 (p3 x' y' z'))))))) (w9 (M (w9 (M (w9 g) (w9 (M (List.take 9 (List.drop 0 (p3 x y z))) (List.take 9 (List.drop 0 (p3 x' y' z'))))))) (w9 (M (List.take 9 (List.drop 9 (p3 x y z))) (List.take 9 (List.drop 9 (p3 x' y' z'))))))))) then K (SV.a64 (List.take 27 (List.drop 0 (w9 (M (w9 (M (w9 (M (List.take 9 (List.drop 18 (p3 x y z))) (List.take 9 (List.drop 18 (p3 x' y' z'))))) (w9 (S (w9 (M (w9 (M (List.take 9 (List.drop 18 (p3 x y z))) (List.take 9 (List.drop 18 (p3 x' y' z'))))) (w9 (M (List.take 9 (List.drop 18 (p3 x y z))) (List.take 9 (List.drop 18 (p3 x' y' z'))))))) (w9 (M (w9 (M (w9 g) (w9 (M (List.take 9 (List.drop 0 (p3 x y z))) (List.take 9 (List.drop 0 (p3 x' y' z'))))))) (w9 (M (List.take 9 (List.drop 9 (p3 x y z))) (List.take 9 (List.drop 9 (p3 x' y' z'))))))))))) (w9 (S (w9 (S (w9 (M (w9 (A (List.take 9 (List.drop 0 (p3 x y z))) (List.take 9 (List.drop 9 (p3 x y z))))) (w9 (A (List.take 9 (List.drop 0 (p3 x' y' z'))) (List.take 9 (List.drop 9 (p3 x' y' z'))))))) (w9 (M (List.take 9 (List.drop 0 (p3 x y z))) (List.take 9 (List.drop 0 (p3 x' y' z'))))))) (w9 (M (List.take 9 (List.drop 9 (p3 x y z))) (List.take 9 (List.drop 9 (p3 x' y' z')))))))) ++ (w9 (M (w9 (M (w9 (M (List.take 9 (List.drop 18 (p3 x y z))) (List.take 9 (List.drop 18 (p3 x' y' z'))))) (w9 (A (w9 (M (w9 (M (List.take 9 (List.drop 18 (p3 x y z))) (List.take 9 (List.drop 18 (p3 x' y' z'))))) (w9 (M (List.take 9 (List.drop 18 (p3 x y z))) (List.take 9 (List.drop 18 (p3 x' y' z'))))))) (w9 (M (w9 (M (w9 g) (w9 (M (List.take 9 (List.drop 0 (p3 x y z))) (List.take 9 (List.drop 0 (p3 x' y' z'))))))) (w9 (M (List.take 9 (List.drop 9 (p3 x y z))) (List.take 9 (List.drop 9 (p3 x' y' z'))))))))))) (w9 (A (w9 (M (List.take 9 (List.drop 9 (p3 x y z))) (List.take 9 (List.drop 9 (p3 x' y' z'))))) (w9 (M (List.take 9 (List.drop 0 (p3 x y z))) (List.take 9 (List.drop 0 (p3 x' y' z')))))))) ++ (w9 (M (w9 (S (w9 (M (w9 (M (List.take 9 (List.drop 18 (p3 x y z))) (List.take 9 (List.drop 18 (p3 x' y' z'))))) (w9 (M (List.take 9 (List.drop 18 (p3 x y z))) (List.take 9 (List.drop 18 (p3 x' y' z'))))))) (w9 (M (w9 (M (w9 g) (w9 (M (List.take 9 (List.drop 0 (p3 x y z))) (List.take 9 (List.drop 0 (p3 x' y' z'))))))) (w9 (M (List.take 9 (List.drop 9 (p3 x y z))) (List.take 9 (List.drop 9 (p3 x' y' z'))))))))) (w9 (A (w9 (M (w9 (M (List.take 9 (List.drop 18 (p3 x y z))) (List.take 9 (List.drop 18 (p3 x' y' z'))))) (w9 (M (List.take 9 (List.drop 18 (p3 x y z))) (List.take 9 (List.drop 18 (p3 x' y' z'))))))) (w9 (M (w9 (M (w9 g) (w9 (M (List.take 9 (List.drop 0 (p3 x y z))) (List.take 9 (List.drop 0 (p3 x' y' z'))))))) (w9 (M (List.take 9 (List.drop 9 (p3 x y z))) (List.take 9 (List.drop 9 (p3 x' y' z')))))))))) ++ [])))))) else False else False else False else False else False else False else False else False else False else False else False else False else False else False else False else False else False else False else False) := by kernel_rfl
theorem vaPS (C : W6 → W6 → Bool) (A S M : W6 → W6 → W6) (g x y z x' y' z' : W6) (K : SV → Prop) : (vf Tryz.prog (EAd C A S M g) noL 36 [.a64 (p3 x y z), .a64 (p3 x' y' z')] GE (fun r _ => K r)) = (bif C (List.take 9 (List.drop 0 (p3 x y z))) (List.take 9 (List.drop 18 (p3 x' y' z'))) then bif C (List.take 9 (List.drop 0 (p3 x' y' z'))) (List.take 9 (List.drop 18 (p3 x y z))) then bif bif false then !w9 (M (List.take 9 (List.drop 0 (p3 x y z))) (List.take 9 (List.drop 18 (p3 x' y' z')))) == w9 (M (List.take 9 (List.drop 0 (p3 x' y' z'))) (List.take 9 (List.drop 18 (p3 x y z)))) else w9 (M (List.take 9 (List.drop 0 (p3 x y z))) (List.take 9 (List.drop 18 (p3 x' y' z')))) == w9 (M (List.take 9 (List.drop 0 (p3 x' y' z'))) (List.take 9 (List.drop 18 (p3 x y z)))) then bif C (List.take 9 (List.drop 9 (p3 x y z))) (List.take 9 (List.drop 18 (p3 x' y' z'))) then bif C (List.take 9 (List.drop 9 (p3 x' y' z'))) (List.take 9 (List.drop 18 (p3 x y z))) then K (SV.b (bif true then bif false then !w9 (M (List.take 9 (List.drop 9 (p3 x y z))) (List.take 9 (List.drop 18 (p3 x' y' z')))) == w9 (M (List.take 9 (List.drop 9 (p3 x' y' z'))) (List.take 9 (List.drop 18 (p3 x y z)))) else w9 (M (List.take 9 (List.drop 9 (p3 x y z))) (List.take 9 (List.drop 18 (p3 x' y' z')))) == w9 (M (List.take 9 (List.drop 9 (p3 x' y' z'))) (List.take 9 (List.drop 18 (p3 x y z)))) else false)) else False else False else K (SV.b false) else False else False) := by kernel_rfl
def EPB (C : W6 → W6 → Bool) (M : W6 → W6 → W6) (D : W6 → Bool) (I : W6 → W6) (B : W6 → Tx8) : Env := ⟨GE, (((noT.add 43 (c2 C M)).add 42 (c1 D I)).add 44 (cBy D B)).add flagW cFlagZ, noC⟩
theorem vaPB (C : W6 → W6 → Bool) (M : W6 → W6 → W6) (D : W6 → Bool) (I : W6 → W6) (B : W6 → Tx8) (x y z : W6) (K : SV → Prop) : (vf Tryz.prog (EPB C M D I B) noL 18 [.a64 (p3 x y z)] GE (fun r _ => K r)) = (bif D (List.take 9 (List.drop 18 (p3 x y z))) then bif C (List.take 9 (List.drop 9 (p3 x y z))) (w9 (I (List.take 9 (List.drop 18 (p3 x y z))))) then bif D (w9 (M (List.take 9 (List.drop 9 (p3 x y z))) (w9 (I (List.take 9 (List.drop 18 (p3 x y z))))))) then ∀ (cap : Nat) (x_1 : List (BitVec 8)), List.length (B (w9 (M (List.take 9 (List.drop 9 (p3 x y z))) (w9 (I (List.take 9 (List.drop 18 (p3 x y z)))))))) ≤ cap → x_1 = B (w9 (M (List.take 9 (List.drop 9 (p3 x y z))) (w9 (I (List.take 9 (List.drop 18 (p3 x y z))))))) ++ List.replicate (cap - List.length (B (w9 (M (List.take 9 (List.drop 9 (p3 x y z))) (w9 (I (List.take 9 (List.drop 18 (p3 x y z))))))))) (0 : BitVec 8) → bif C (List.take 9 (List.drop 0 (p3 x y z))) (w9 (I (List.take 9 (List.drop 18 (p3 x y z))))) then bif (w9 (M (List.take 9 (List.drop 0 (p3 x y z))) (w9 (I (List.take 9 (List.drop 18 (p3 x y z))))))).getD (0 : Nat) (0 : BitVec 64) &&& BitVec.ofInt 64 1 == BitVec.ofInt 64 1 then bif inR (31 : Int) (List.length (B (w9 (M (List.take 9 (List.drop 9 (p3 x y z))) (w9 (I (List.take 9 (List.drop 18 (p3 x y z))))))))) then bif Nat.blt 31 x_1.length then bif inR (31 : Int) (List.length (B (w9 (M (List.take 9 (List.drop 9 (p3 x y z))) (w9 (I (List.take 9 (List.drop 18 (p3 x y z))))))))) then bif Nat.blt 31 x_1.length then bif decide ((0 : Nat) + List.length (B (w9 (M (List.take 9 (List.drop 9 (p3 x y z))) (w9 (I (List.take 9 (List.drop 18 (p3 x y z)))))))) ≤ (x_1.set 31 (x_1.getD (31 : Nat) (0 : BitVec 8) ||| BitVec.ofInt 8 128)).length) then K (SV.s (List.take (List.length (B (w9 (M (List.take 9 (List.drop 9 (p3 x y z))) (w9 (I (List.take 9 (List.drop 18 (p3 x y z))))))))) (List.drop 0 (x_1.set 31 (x_1.getD (31 : Nat) (0 : BitVec 8) ||| BitVec.ofInt 8 128))))) else False else False else False else False else False else bif decide ((0 : Nat) + List.length (B (w9 (M (List.take 9 (List.drop 9 (p3 x y z))) (w9 (I (List.take 9 (List.drop 18 (p3 x y z)))))))) ≤ x_1.length) then K (SV.s (List.take (List.length (B (w9 (M (List.take 9 (List.drop 9 (p3 x y z))) (w9 (I (List.take 9 (List.drop 18 (p3 x y z))))))))) (List.drop 0 x_1))) else False else False else False else False else False) := by kernel_rfl
def cP2 (C : W6 → W6 → Bool) (F : W6 → W6 → W6) : List SV → List Cont → Option (Bool × SV)
 | [.a64 p, .a64 q], _ => some (C p q, .a64 (p27 (F p q)))
 | _, _ => none
def cP0 (v : W6) : List SV → List Cont → Option (Bool × SV)
 | [], _ => some (true, .a64 (p27 v))
 | _, _ => none
def EPT (C : W6 → W6 → Bool) (F : W6 → W6 → W6) (z : W6) : Env := ⟨GE, ((noT.add 35 (cP2 C F)).add 37 (cP0 z)).add flagW cFlagZ, noC⟩
def z27 : W6 := List.replicate 27 0
def mPT (p : W6) (n : Tx8) (q : W6) : Mm := G5 [⟨true, .a64 p⟩, ⟨true, .a8 n⟩, ⟨true, .a64 z27⟩, ⟨true, .a64 q⟩]
def iPT (k : Nat) : List (Nat × SV) := [(2, .ptr 5 0), (3, .ptr 6 0), (4, .ptr 7 0), (5, .ptr 8 0), (6, .i (255 - (k : Int)))]
def oPT : List (Nat × SV) := [(4, .ptr 7 0), (5, .ptr 8 0)]
def LPT (p : W6) (n : Tx8) (z q : W6) : LT := noL.add 0 (vLoop GE 29 (iPT 0) (mPT p n z) oPT (mPT p n q))
theorem vaPT (C : W6 → W6 → Bool) (F : W6 → W6 → W6) (z p q : W6) (n : Tx8) (K : SV → Prop) : (vf Tryz.prog (EPT C F z) (LPT (p27 p) n (p27 z) (p27 q)) 17 [.a64 (p27 p), .a8 n] GE (fun r _ => K r)) = (loopOf Tryz.prog 17 0 = loopOf Tryz.prog 17 0 ∧ SV.ptr 5 0 = SV.ptr 5 0 ∧ SV.ptr ((0 : Nat) + (1 : Nat) + (1 : Nat) + (1 : Nat) + (1 : Nat) + (1 : Nat) + (1 : Nat)) (0 : Nat) = SV.ptr 6 0 ∧ SV.ptr ((0 : Nat) + (1 : Nat) + (1 : Nat) + (1 : Nat) + (1 : Nat) + (1 : Nat) + (1 : Nat) + (1 : Nat)) (0 : Nat) = SV.ptr 7 0 ∧ SV.ptr ((0 : Nat) + (1 : Nat) + (1 : Nat) + (1 : Nat) + (1 : Nat) + (1 : Nat) + (1 : Nat) + (1 : Nat) + (1 : Nat)) (0 : Nat) = SV.ptr 8 0 ∧ SV.i (255 : Int) = SV.i ((255 : Int) - (↑(0 : Nat) : Int)) ∧ g5E ((true = true ∧ Cont.a64 (p27 p) = Cont.a64 (p27 p)) ∧ (true = true ∧ Cont.a8 n = Cont.a8 n) ∧ (true = true ∧ Cont.a64 (List.replicate 27 (0 : BitVec 64)) = Cont.a64 z27) ∧ (true = true ∧ Cont.a64 (p27 z) = Cont.a64 (p27 z)) ∧ K (SV.a64 (List.take 27 (List.drop 0 (p27 q)))))) := by kernel_rfl
theorem vrPT (C : W6 → W6 → Bool) (F : W6 → W6 → W6) (z p x y q : W6) (n : Tx8) (k : Nat) (P : Prop) : (frK 29 (iPT k) fun fr => vround Tryz.prog (EPT C F z) noL 17 0 fr (mPT (p27 p) n (p27 x)) (Kn GE 0 29 P (iPT (k + 1)) (mPT (p27 p) n (p27 y)) oPT (mPT (p27 p) n (p27 q)))) = (bif ile (0 : Int) ((255 : Int) - (↑k : Int)) then bif C (p27 x) (p27 x) then bif inI ((255 : Int) - (↑k : Int)) then bif inR (((255 : Int) - (↑k : Int)).tdiv (8 : Int)) (32 : Nat) then bif (((255 : Int) - (↑k : Int)).tdiv (8 : Int)).toNat.blt (List.length n) then bif List.getD n (((255 : Int) - (↑k : Int)).tdiv (8 : Int)).toNat (0 : BitVec 8) >>> (BitVec.ofInt (64 : Nat) (((255 : Int) - (↑k : Int)).tmod (8 : Int))).toNat &&& BitVec.ofInt 8 1 == BitVec.ofInt 8 1 then bif C (p27 (F (p27 x) (p27 x))) (p27 p) then bif inI ((255 : Int) - (↑k : Int) - (1 : Int)) then P ∧ SV.ptr 5 0 = SV.ptr 5 0 ∧ SV.ptr 6 0 = SV.ptr 6 0 ∧ SV.ptr 7 0 = SV.ptr 7 0 ∧ SV.ptr 8 0 = SV.ptr 8 0 ∧ SV.i ((255 : Int) - (↑k : Int) - (1 : Int)) = SV.i ((255 : Int) - (↑(k + (1 : Nat)) : Int)) ∧ g5E ((true = true ∧ Cont.a64 (p27 p) = Cont.a64 (p27 p)) ∧ (true = true ∧ Cont.a8 n = Cont.a8 n) ∧ (true = true ∧ Cont.a64 z27 = Cont.a64 z27) ∧ (true = true ∧ Cont.a64 (p27 (F (p27 (F (p27 x) (p27 x))) (p27 p))) = Cont.a64 (p27 y)) ∧ True) else False else False else bif inI ((255 : Int) - (↑k : Int) - (1 : Int)) then P ∧ SV.ptr 5 0 = SV.ptr 5 0 ∧ SV.ptr 6 0 = SV.ptr 6 0 ∧ SV.ptr 7 0 = SV.ptr 7 0 ∧ SV.ptr 8 0 = SV.ptr 8 0 ∧ SV.i ((255 : Int) - (↑k : Int) - (1 : Int)) = SV.i ((255 : Int) - (↑(k + (1 : Nat)) : Int)) ∧ g5E ((true = true ∧ Cont.a64 (p27 p) = Cont.a64 (p27 p)) ∧ (true = true ∧ Cont.a8 n = Cont.a8 n) ∧ (true = true ∧ Cont.a64 z27 = Cont.a64 z27) ∧ (true = true ∧ Cont.a64 (p27 (F (p27 x) (p27 x))) = Cont.a64 (p27 y)) ∧ True) else False else False else False else False else False else (0 : Nat) = (0 : Nat) ∧ SV.ptr 7 0 = SV.ptr 7 0 ∧ SV.ptr 8 0 = SV.ptr 8 0 ∧ g5E ((true = true ∧ Cont.a64 (p27 p) = Cont.a64 (p27 p)) ∧ (true = true ∧ Cont.a8 n = Cont.a8 n) ∧ (true = true ∧ Cont.a64 z27 = Cont.a64 z27) ∧ (true = true ∧ Cont.a64 (p27 x) = Cont.a64 (p27 q)) ∧ True)) := by kernel_rfl
theorem tk0 (x y z : W6) : List.take 9 (List.drop 0 (p3 x y z)) = w9 x := rfl
theorem tk9 (x y z : W6) : List.take 9 (List.drop 9 (p3 x y z)) = w9 y := rfl
theorem tk18 (x y z : W6) : List.take 9 (List.drop 18 (p3 x y z)) = w9 z := rfl
theorem w9w (x : W6) : w9 (w9 x) = w9 x := rfl
def pd (q : Pd) : W6 := p3 (dg q.x) (dg q.y) (dg q.z)
theorem p27_pd (q : Pd) : p27 (pd q) = pd q := rfl
theorem mu' {a b : Nat} (ha : a < Mt.Nt.P) (hb : b < Mt.Nt.P) : muF (dg a) (dg b) = dg (mq a b) := muF_dg ha hb
theorem ad' {a b : Nat} (ha : a < Mt.Nt.P) (hb : b < Mt.Nt.P) : adF (dg a) (dg b) = dg (ad a b) := adF_dg ha hb
theorem sb' {a b : Nat} (ha : a < Mt.Nt.P) (hb : b < Mt.Nt.P) : sbF (dg a) (dg b) = dg (sb a b) := sbF_dg ha hb
theorem addD_ok' : POk Tryz.prog GE 73 (c2 QQ adF) := c2_mono (fun l m h => by
 unfold QQ at h
 rw [Bool.and_eq_true] at h
 obtain ⟨e1, k1⟩ := Mt.Dg.of_Q h.1
 obtain ⟨e2, k2⟩ := Mt.Dg.of_Q h.2
 refine ⟨?_, rfl⟩
 unfold adQ
 rw [e1, e2, Qe_dg (Nat.le_of_lt k1), Qe_dg (Nat.le_of_lt k2)]
 rfl) addD_ok
structure Sd (q : Pd) : Prop where
 x : q.x < Mt.Nt.P
 y : q.y < Mt.Nt.P
 z : q.z < Mt.Nt.P
theorem Sd.of {q : Pd} {p : Mt.Ed.Pt} (h : IsR q p) : Sd q := ⟨h.lx, h.ly, h.lz⟩
def e9 (p : W6) (i : Nat) : W6 := List.take 9 (List.drop i p)
def Qp (p : W6) : Bool := Nat.beq p.length 27 && (Q (e9 p 0) && (Q (e9 p 9) && Q (e9 p 18)))
def np (p : W6) : Pd := ⟨nv (e9 p 0), nv (e9 p 9), nv (e9 p 18)⟩
theorem of_Qp {p : W6} (h : Qp p = true) : p = pd (np p) ∧ Sd (np p) := by
 unfold Qp at h
 rw [Bool.and_eq_true, Bool.and_eq_true, Bool.and_eq_true] at h
 obtain ⟨h0, h1, h2, h3⟩ := h
 have h0 := Nat.eq_of_beq_eq_true h0
 obtain ⟨e1, k1⟩ := Mt.Dg.of_Q h1
 obtain ⟨e2, k2⟩ := Mt.Dg.of_Q h2
 obtain ⟨e3, k3⟩ := Mt.Dg.of_Q h3
 refine ⟨?_, k1, k2, k3⟩
 have ep : p = e9 p 0 ++ (e9 p 9 ++ e9 p 18) := by
  unfold e9
  rw [List.drop_zero, show List.take 9 (List.drop 18 p) = List.drop 18 p from List.take_of_length_le (by rw [List.length_drop]; omega), show List.drop 18 p = List.drop 9 (List.drop 9 p) by rw [List.drop_drop], List.take_append_drop, List.take_append_drop]
 show p = dg (nv (e9 p 0)) ++ (dg (nv (e9 p 9)) ++ dg (nv (e9 p 18)))
 rw [← e1, ← e2, ← e3]
 exact ep
theorem Qp_pd {q : Pd} (h : Sd q) : Qp (pd q) = true := by
 show (true && (Q (dg q.x) && (Q (dg q.y) && Q (dg q.z)))) = true
 rw [Mt.Dg.Q_dg h.x, Mt.Dg.Q_dg h.y, Mt.Dg.Q_dg h.z]
 rfl
theorem np_pd {q : Pd} (h : Sd q) : np (pd q) = q := by
 show (⟨nv (dg q.x), nv (dg q.y), nv (dg q.z)⟩ : Pd) = q
 rw [nvd h.x, nvd h.y, nvd h.z]
theorem egv_ok : EnvOk Tryz.prog (EGv ofF smF) := ⟨PT.add_ok (PT.add_ok (PT.add_ok (noT_ok _ _) ofD_ok) smallD_ok) (flagZ_ok _), noC_ok _ _⟩
def curT : Tx8 := [163, 120, 89, 19, 202, 77, 235, 117, 171, 216, 65, 65, 77, 10, 112, 0, 152, 232, 121, 119, 121, 64, 199, 140, 115, 254, 111, 43, 238, 108, 3, 82]
theorem cur_rd : rd curT 32 % Mt.Nt.P = Mt.dN := by rw [Mt.Nt.P_val]; decide +kernel
theorem given_gen (l : Tx8) (h : l = curT) : ofF l = dg Mt.dN := by
 unfold ofF
 rw [h, cur_rd]
theorem givenD_ok : POk Tryz.prog GE 72 (c0 (dg Mt.dN)) := by
 intro args acs r hh β M w hR hw ha
 unfold c0 at hh
 split at hh
 ·simp only [Option.some.injEq, Prod.mk.injEq, true_and] at hh
  subst hh
  refine pokE (E := EGv ofF smF) rfl egv_ok (vaGv ofF smF _) ?_ rfl rfl hR
  exact congrArg (fun l => SV.a64 (w9 l)) (given_gen _ rfl)
 ·cases hh
theorem zeroD_ok : POk Tryz.prog GE 37 (cP0 (pd zr)) := by
 intro args acs r hh β M w hR hw ha
 unfold cP0 at hh
 split at hh
 ·simp only [Option.some.injEq, Prod.mk.injEq, true_and] at hh
  subst hh
  refine pokE (E := EGv ofF smF) rfl egv_ok (vaZe ofF smF _) ?_ rfl rfl hR
  exact congrArg SV.a64 (by decide +kernel)
 ·cases hh
theorem ead_ok : EnvOk Tryz.prog (EAd QQ adF sbF muF (dg Mt.dN)) := ⟨PT.add_ok (PT.add_ok (PT.add_ok (PT.add_ok (PT.add_ok (noT_ok _ _) mulD_ok) addD_ok') subD_ok) givenD_ok) (flagZ_ok _), noC_ok _ _⟩
def QpQ (p q : W6) : Bool := Qp p && Qp q
def raF (p q : W6) : W6 := pd (rad (np p) (np q))
theorem addP_row {q r : Pd} (h : Sd q) (k : Sd r) (K : SV → Prop) (hK : K (.a64 (pd (rad q r)))) : vf Tryz.prog (EAd QQ adF sbF muF (dg Mt.dN)) noL 35 [.a64 (pd q), .a64 (pd r)] GE (fun r _ => K r) := by
 refine of_eq (vaPA QQ adF sbF muF (dg Mt.dN) (dg q.x) (dg q.y) (dg q.z) (dg r.x) (dg r.y) (dg r.z) K) ?_
 have hd := Mt.dN_lt
 simp only [tk0, tk9, tk18, w9w, Mt.Dg.w9_dg, mu', ad', sb', QQ_dg, Mt.ml_lt, Mt.ad_lt, Mt.sb_lt, h.x, h.y, h.z, k.x, k.y, k.z, hd, cond_true]
 exact hK
theorem addPD_ok : POk Tryz.prog GE 35 (cP2 QpQ raF) := by
 intro args acs r hh β M w hR hw ha
 unfold cP2 at hh
 split at hh
 ·rename_i p q
  simp only [Option.some.injEq, Prod.mk.injEq, QpQ, Bool.and_eq_true] at hh
  obtain ⟨⟨h1, h2⟩, rfl⟩ := hh
  obtain ⟨e1, k1⟩ := of_Qp h1
  obtain ⟨e2, k2⟩ := of_Qp h2
  unfold raF
  generalize np p = a at *
  generalize np q = b at *
  subst e1; subst e2
  exact pokE (E := EAd QQ adF sbF muF (dg Mt.dN)) rfl ead_ok rfl (addP_row k1 k2 _ rfl) rfl rfl hR
 ·cases hh
def cP2b (C : W6 → W6 → Bool) (F : W6 → W6 → Bool) : List SV → List Cont → Option (Bool × SV)
 | [.a64 p, .a64 q], _ => some (C p q, .b (F p q))
 | _, _ => none
def saF (p q : W6) : Bool := Mt.sme (np p) (np q)
theorem samePD_ok : POk Tryz.prog GE 36 (cP2b QpQ saF) := by
 intro args acs r hh β M w hR hw ha
 unfold cP2b at hh
 split at hh
 ·rename_i p q
  simp only [Option.some.injEq, Prod.mk.injEq, QpQ, Bool.and_eq_true] at hh
  obtain ⟨⟨h1, h2⟩, rfl⟩ := hh
  obtain ⟨e1, h⟩ := of_Qp h1
  obtain ⟨e2, k⟩ := of_Qp h2
  unfold saF
  generalize np p = q at *
  generalize np _ = r at *
  subst e1; subst e2
  refine pokE (E := EAd QQ adF sbF muF (dg Mt.dN)) rfl ead_ok (vaPS QQ adF sbF muF (dg Mt.dN) (dg q.x) (dg q.y) (dg q.z) (dg r.x) (dg r.y) (dg r.z) _) ?_ rfl rfl hR
  simp only [tk0, tk9, tk18, w9w, Mt.Dg.w9_dg, mu', QQ_dg, Mt.ml_lt, h.x, h.y, h.z, k.x, k.y, k.z, cond_true, cond_false, dg_beq]
  unfold Mt.sme
  cases decide (mq q.x r.z = mq r.x q.z) <;> rfl
 ·cases hh
def bt1 (q : Pd) : Tx8 := bif decide (mq q.x (Mt.iv q.z) % 2 = 1) then (byD (mq q.y (Mt.iv q.z))).set 31 ((byD (mq q.y (Mt.iv q.z))).getD 31 0 ||| BitVec.ofInt 8 128) else byD (mq q.y (Mt.iv q.z))
def cPBy (C : W6 → Bool) (F : W6 → Tx8) : List SV → List Cont → Option (Bool × SV)
 | [.a64 p], _ => some (C p, .s (F p))
 | _, _ => none
def pbF (p : W6) : Tx8 := bt1 (np p)
theorem epb9_ok : EnvOk Tryz.prog (EPB QQ muF Q ivF byF') := ⟨PT.add_ok (PT.add_ok (PT.add_ok (PT.add_ok (noT_ok _ _) mulD_ok) invD_ok) bytesD_ok) (flagZ_ok _), noC_ok _ _⟩
theorem iv' {a : Nat} (ha : a < Mt.Nt.P) : ivF (dg a) = dg (Mt.iv a) := by unfold ivF; rw [nvd ha]
theorem by' {a : Nat} (ha : a < Mt.Nt.P) : byF' (dg a) = byD a := by unfold byF'; rw [nvd ha]
theorem bytes_end (s : Tx8) (hl : s.length = 32) (b : Bool) (K : SV → Prop) (hK : K (.s (bif b then s.set 31 (s.getD 31 0 ||| BitVec.ofInt 8 128) else s))) (cap : Nat) (u : Tx8) (hc : s.length ≤ cap) (hu : u = s ++ List.replicate (cap - s.length) 0) : (bif b then bif inR 31 s.length then bif Nat.blt 31 u.length then bif inR 31 s.length then bif Nat.blt 31 u.length then bif decide (0 + s.length ≤ (u.set 31 (u.getD 31 0 ||| BitVec.ofInt 8 128)).length) then K (SV.s (List.take s.length (List.drop 0 (u.set 31 (u.getD 31 0 ||| BitVec.ofInt 8 128))))) else False else False else False else False else False else bif decide (0 + s.length ≤ u.length) then K (SV.s (List.take s.length (List.drop 0 u))) else False) := by
 subst hu
 rw [hl] at hc ⊢
 have hb : Nat.blt 31 (s ++ List.replicate (cap - 32) (0 : BitVec 8)).length = true := blt_of (by rw [List.length_append]; omega)
 have hs1 : (s.set 31 (s.getD 31 0 ||| BitVec.ofInt 8 128)).length = 32 := by rw [List.length_set]; exact hl
 have hd1 : decide (0 + 32 ≤ (s.set 31 (s.getD 31 0 ||| BitVec.ofInt 8 128) ++ List.replicate (cap - 32) (0 : BitVec 8)).length) = true := decide_eq_true (by rw [List.length_append]; omega)
 have hd2 : decide (0 + 32 ≤ (s ++ List.replicate (cap - 32) (0 : BitVec 8)).length) = true := decide_eq_true (by rw [List.length_append]; omega)
 rw [get_app _ _ 31 (by omega), set_app _ _ 31 _ (by omega), hb, List.drop_zero, List.drop_zero, List.take_left' hs1, List.take_left' hl, hd1, hd2]
 cases b
 ·exact hK
 ·exact hK
theorem bytesP_row {q : Pd} (h : Sd q) (K : SV → Prop) (hK : K (.s (bt1 q))) : vf Tryz.prog (EPB QQ muF Q ivF byF') noL 18 [.a64 (pd q)] GE (fun r _ => K r) := by
 refine of_eq (vaPB QQ muF Q ivF byF' (dg q.x) (dg q.y) (dg q.z) K) ?_
 unfold bt1 at hK
 have hI := iv' h.z
 have hv := Mt.iv_ltP q.z
 generalize Mt.iv q.z = v at *
 rw [tk0, tk9, tk18, Mt.Dg.w9_dg, Mt.Dg.w9_dg, Mt.Dg.w9_dg, hI, Mt.Dg.w9_dg, mu' h.y hv, mu' h.x hv, Mt.Dg.w9_dg, Mt.Dg.w9_dg, by' (Mt.ml_lt q.y v), dg_par]
 have hl := byD_len (mq q.y v)
 have hQ := Mt.Dg.Q_dg (Mt.ml_lt q.y v)
 generalize byD (mq q.y v) = y at *
 generalize decide (mq q.x v % 2 = 1) = x at *
 refine bif_of (Mt.Dg.Q_dg h.z) (bif_of (QQ_dg h.y hv) (bif_of hQ ?_))
 intro cap u hc hu
 exact bif_of (QQ_dg h.x hv) (bytes_end y hl x K hK cap u hc hu)
theorem bytesPD_ok : POk Tryz.prog GE 18 (cPBy Qp pbF) := by
 intro args acs r hh β M w hR hw ha
 unfold cPBy at hh
 split at hh
 ·rename_i p
  simp only [Option.some.injEq, Prod.mk.injEq] at hh
  obtain ⟨h1, rfl⟩ := hh
  obtain ⟨e1, h⟩ := of_Qp h1
  unfold pbF
  generalize np p = q at *
  subst e1
  exact pokE (E := EPB QQ muF Q ivF byF') rfl epb9_ok rfl (bytesP_row h _ rfl) rfl rfl hR
 ·cases hh
theorem ept_ok : EnvOk Tryz.prog (EPT QpQ raF (pd zr)) := ⟨PT.add_ok (PT.add_ok (PT.add_ok (noT_ok _ _) addPD_ok) zeroD_ok) (flagZ_ok _), noC_ok _ _⟩
theorem ra_pd {q r : Pd} (h : Sd q) (k : Sd r) : raF (pd q) (pd r) = pd (rad q r) := by unfold raF; rw [np_pd h, np_pd k]
theorem qq_pd {q r : Pd} (h : Sd q) (k : Sd r) : QpQ (pd q) (pd r) = true := by unfold QpQ; rw [Qp_pd h, Qp_pd k]; rfl
theorem rad_sd (q r : Pd) : Sd (rad q r) := ⟨Mt.ml_lt _ _, Mt.ml_lt _ _, Mt.ml_lt _ _⟩
theorem zr_sd : Sd zr := ⟨Mt.zero_lt, Mt.one_lt, Mt.one_lt⟩
theorem tm_sd (r : Pd) (v : Nat) : ∀ k, Sd (Mt.tmD r v k)
 | 0 => zr_sd
 | k + 1 => by
  show Sd (bif decide (v / 2 ^ (255 - k) % 2 = 1) then _ else _)
  cases decide (v / 2 ^ (255 - k) % 2 = 1)
  ·exact rad_sd _ _
  ·exact rad_sd _ _
theorem bit_by {v i : Nat} (hv : v < 115792089237316195423570985008687907853269984665640564039457584007913129639936) (hi : i < 256) : ((byD v).getD (i / 8) 0 >>> (i % 8) &&& BitVec.ofInt 8 1 == BitVec.ofInt 8 1) = decide (v / 2 ^ i % 2 = 1) := by
 rw [bit8]
 have h := Mt.Dg.rd_bit (byD v) i hi
 rw [rd_by hv] at h
 rw [show ((byD v).getD (i / 8) 0).toNat = byt (byD v) (i / 8) from rfl, h]
theorem loopPT (q : Pd) (h : Sd q) (v : Nat) (hv : v < 115792089237316195423570985008687907853269984665640564039457584007913129639936) (x z : W6) (hx : x = pd zr) (hz : z = pd (Mt.tmD q v 256)) : ∀ fr M K, vLoop GE 29 (iPT 0) (mPT (p27 (pd q)) (byD v) (p27 x)) oPT (mPT (p27 (pd q)) (byD v) (p27 z)) fr M K → Wp Tryz.prog GE GE (loopOf Tryz.prog 17 0) fr M K := by
 subst hx
 refine loop_next ept_ok mixed (noL_ok _ _ _ _) (Nat.le_refl _) (by kernel_rfl) (fun k => iPT k) (fun k => mPT (p27 (pd q)) (byD v) (p27 (pd (Mt.tmD q v k)))) (fun k => k ≤ 256) (fun k => 256 - k) (fun k => k + 1) 0 (Nat.zero_le _) (fun k hk => of_eq (vrPT QpQ raF (pd zr) (pd q) (pd (Mt.tmD q v k)) (pd (Mt.tmD q v (k + 1))) z (byD v) k _) ?_)
 cases hq : ile 0 (255 - (k : Int))
 ·have hk2 : k = 256 := by rw [ile_eq] at hq; have := of_decide_eq_false hq; omega
  have e : pd (Mt.tmD q v k) = z := by rw [hz, hk2]
  rw [e]
  and_intros <;> first | exact rfl | exact trivial
 ·have hk2 : k < 256 := by rw [ile_eq] at hq; have := of_decide_eq_true hq; omega
  have hs := tm_sd q v k
  have hn : Mt.tmD q v (k + 1) = bif decide (v / 2 ^ (255 - k) % 2 = 1) then rad (rad (Mt.tmD q v k) (Mt.tmD q v k)) q else rad (Mt.tmD q v k) (Mt.tmD q v k) := rfl
  have e1 : (255 - (k : Int)) = ((255 - k : Nat) : Int) := by omega
  have hbit := bit_by (v := v) (i := 255 - k) hv (by omega)
  rw [hn]
  generalize Mt.tmD q v k = u at *
  rw [p27_pd, p27_pd, qq_pd hs hs, ra_pd hs hs, p27_pd, qq_pd (rad_sd _ _) h, ra_pd (rad_sd _ _) h, p27_pd, e1, tdiv8i, tmod8', toNatI, ofI64 (by omega), hbit, byD_len, show inI ((255 - k : Nat) : Int) = true from inI_iff.2 (by omega), inR_of (show (255 - k) / 8 < 32 by omega), blt_of (show (255 - k) / 8 < 32 by omega), show inI (((255 - k : Nat) : Int) - 1) = true from inI_iff.2 (by omega)]
  cases decide (v / 2 ^ (255 - k) % 2 = 1)
  ·refine ⟨⟨by omega, by omega⟩, rfl, rfl, rfl, rfl, congrArg SV.i (by omega), ?_⟩
   and_intros <;> first | exact rfl | exact trivial
  ·refine ⟨⟨by omega, by omega⟩, rfl, rfl, rfl, rfl, congrArg SV.i (by omega), ?_⟩
   and_intros <;> first | exact rfl | exact trivial
def cPT (C : W6 → Bool) (F : W6 → Tx8 → W6) : List SV → List Cont → Option (Bool × SV)
 | [.a64 p, .a8 n], _ => some (C p && Nat.beq n.length 32, .a64 (p27 (F p n)))
 | _, _ => none
def tiF (p : W6) (n : Tx8) : W6 := pd (Mt.tmD (np p) (rd n 32) 256)
theorem timesPD_ok : POk Tryz.prog GE 17 (cPT Qp tiF) := by
 intro args acs r hh β M w hR hw ha
 unfold cPT at hh
 split at hh
 ·rename_i p n
  simp only [Option.some.injEq, Prod.mk.injEq, Bool.and_eq_true] at hh
  obtain ⟨⟨h1, h2⟩, rfl⟩ := hh
  obtain ⟨e1, h⟩ := of_Qp h1
  have e2 := byD_rd (Nat.eq_of_beq_eq_true h2)
  have hv := Mt.Dg.rd_lt4 n
  unfold tiF
  generalize np p = q at *
  generalize rd n 32 = v at *
  subst e1; subst e2
  refine pokE' (E := EPT QpQ raF (pd zr)) rfl ept_ok (LT.add_ok (noL_ok _ _ _ _) (loopPT q h v hv (pd zr) (pd (Mt.tmD q v 256)) rfl rfl)) (vaPT QpQ raF (pd zr) (pd q) (pd (Mt.tmD q v 256)) (byD v) _) ?_ rfl rfl hR
  and_intros <;> first | exact rfl | exact trivial
 ·cases hh
end Dc
end Go.Proofs.YtdfghknonbmadaaGreatDoor
