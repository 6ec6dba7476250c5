/-
  edw: points' bytes. No statement is proved here.
-/
import Derived.Test.YtdfghknonbmadaaGreatDoorNuG
import Derived.Test.YtdfghknonbmadaaGreatDoorVcS
namespace Go.Proofs.YtdfghknonbmadaaGreatDoor
open Go.RowKit
set_option linter.unusedVariables false
set_option linter.unusedSimpArgs false
set_option maxRecDepth 100000
abbrev Tx8 := List (BitVec 8)
def cCa (C : Tx8 → Bool) : List SV → List Cont → Option (Bool × SV)
 | [.s l], _ => some (true, .b (C l))
 | _, _ => none
def Ed (C : Tx8 → Bool) (K : Tx8 → W6) (B : W6 → Bool → W6) (J : W6 → Bool → Bool) (T : W6 → W6 → W6) : Env := ⟨GE, ((((noT.add 54 (cCa C)).add 55 (ctK K)).add 56 (cBs B J)).add 57 (cAt T)), noC⟩
theorem vaDe (C : Tx8 → Bool) (K : Tx8 → W6) (B : W6 → Bool → W6) (J : W6 → Bool → Bool) (T : W6 → W6 → W6) (s : Tx8) (K0 : SV → Mm → Prop) : (vf Tryz.prog (Ed C K B J T) noL 25 [.s s] GE K0) = (bif (↑(List.length s) : Int) != (32 : Int) then K0 (SV.tup [SV.a64 (List.take 16 (List.drop 0 [(0 : BitVec 64), (0 : BitVec 64), (0 : BitVec 64), (0 : BitVec 64), (0 : BitVec 64), (0 : BitVec 64), (0 : BitVec 64), (0 : BitVec 64), (0 : BitVec 64), (0 : BitVec 64), (0 : BitVec 64), (0 : BitVec 64), (0 : BitVec 64), (0 : BitVec 64), (0 : BitVec 64), (0 : BitVec 64)])), SV.i (2 : Int)]) [{ rw := false, c := Cont.a64 BEG }, { rw := false, c := Cont.a64 PRI }, { rw := false, c := Cont.a64 CON }, { rw := false, c := Cont.a64 WHO }, { rw := false, c := Cont.a64 ROM }, { rw := true, c := Cont.a64 [(0 : BitVec 64), (0 : BitVec 64), (0 : BitVec 64), (0 : BitVec 64), (0 : BitVec 64), (0 : BitVec 64), (0 : BitVec 64), (0 : BitVec 64), (0 : BitVec 64), (0 : BitVec 64), (0 : BitVec 64), (0 : BitVec 64), (0 : BitVec 64), (0 : BitVec 64), (0 : BitVec 64), (0 : BitVec 64)] }] else ∀ (cap : Nat) (x : List (BitVec 8)), List.length s ≤ cap → x = s ++ List.replicate (cap - List.length s) (0 : BitVec 8) → bif inR (31 : Int) (List.length s) then bif Nat.blt 31 x.length then bif inR (31 : Int) (List.length s) then bif Nat.blt 31 x.length then bif inR (31 : Int) (List.length s) then bif Nat.blt 31 x.length then bif decide ((0 : Nat) + List.length s ≤ (x.set 31 (x.getD (31 : Nat) (0 : BitVec 8) &&& ~~~BitVec.ofInt 8 128)).length) then bif !C (List.take (List.length s) (List.drop 0 (x.set 31 (x.getD (31 : Nat) (0 : BitVec 8) &&& ~~~BitVec.ofInt 8 128)))) then K0 (SV.tup [SV.a64 (List.take 16 (List.drop 0 [(0 : BitVec 64), (0 : BitVec 64), (0 : BitVec 64), (0 : BitVec 64), (0 : BitVec 64), (0 : BitVec 64), (0 : BitVec 64), (0 : BitVec 64), (0 : BitVec 64), (0 : BitVec 64), (0 : BitVec 64), (0 : BitVec 64), (0 : BitVec 64), (0 : BitVec 64), (0 : BitVec 64), (0 : BitVec 64)])), SV.i (90 : Int)]) [{ rw := false, c := Cont.a64 BEG }, { rw := false, c := Cont.a64 PRI }, { rw := false, c := Cont.a64 CON }, { rw := false, c := Cont.a64 WHO }, { rw := false, c := Cont.a64 ROM }, { rw := true, c := Cont.a64 [(0 : BitVec 64), (0 : BitVec 64), (0 : BitVec 64), (0 : BitVec 64), (0 : BitVec 64), (0 : BitVec 64), (0 : BitVec 64), (0 : BitVec 64), (0 : BitVec 64), (0 : BitVec 64), (0 : BitVec 64), (0 : BitVec 64), (0 : BitVec 64), (0 : BitVec 64), (0 : BitVec 64), (0 : BitVec 64)] }, { rw := true, c := Cont.a8 (x.set 31 (x.getD (31 : Nat) (0 : BitVec 8) &&& ~~~BitVec.ofInt 8 128)) }] else bif decide ((0 : Nat) + List.length s ≤ (x.set 31 (x.getD (31 : Nat) (0 : BitVec 8) &&& ~~~BitVec.ofInt 8 128)).length) then bif (List.take (List.length s) (List.drop 0 (x.set 31 (x.getD (31 : Nat) (0 : BitVec 8) &&& ~~~BitVec.ofInt 8 128)))).length.beq 32 then bif !J [List.getD (K (List.take (List.length s) (List.drop 0 (x.set 31 (x.getD (31 : Nat) (0 : BitVec 8) &&& ~~~BitVec.ofInt 8 128))))) (0 : Nat) (0 : BitVec 64), List.getD (K (List.take (List.length s) (List.drop 0 (x.set 31 (x.getD (31 : Nat) (0 : BitVec 8) &&& ~~~BitVec.ofInt 8 128))))) (1 : Nat) (0 : BitVec 64), List.getD (K (List.take (List.length s) (List.drop 0 (x.set 31 (x.getD (31 : Nat) (0 : BitVec 8) &&& ~~~BitVec.ofInt 8 128))))) (2 : Nat) (0 : BitVec 64), List.getD (K (List.take (List.length s) (List.drop 0 (x.set 31 (x.getD (31 : Nat) (0 : BitVec 8) &&& ~~~BitVec.ofInt 8 128))))) (3 : Nat) (0 : BitVec 64)] (x.getD (31 : Nat) (0 : BitVec 8) &&& BitVec.ofInt 8 128 != BitVec.ofInt 8 0) then K0 (SV.tup [SV.a64 (List.take 16 (List.drop 0 [(0 : BitVec 64), (0 : BitVec 64), (0 : BitVec 64), (0 : BitVec 64), (0 : BitVec 64), (0 : BitVec 64), (0 : BitVec 64), (0 : BitVec 64), (0 : BitVec 64), (0 : BitVec 64), (0 : BitVec 64), (0 : BitVec 64), (0 : BitVec 64), (0 : BitVec 64), (0 : BitVec 64), (0 : BitVec 64)])), SV.i (90 : Int)]) [{ rw := false, c := Cont.a64 BEG }, { rw := false, c := Cont.a64 PRI }, { rw := false, c := Cont.a64 CON }, { rw := false, c := Cont.a64 WHO }, { rw := false, c := Cont.a64 ROM }, { rw := true, c := Cont.a64 [(0 : BitVec 64), (0 : BitVec 64), (0 : BitVec 64), (0 : BitVec 64), (0 : BitVec 64), (0 : BitVec 64), (0 : BitVec 64), (0 : BitVec 64), (0 : BitVec 64), (0 : BitVec 64), (0 : BitVec 64), (0 : BitVec 64), (0 : BitVec 64), (0 : BitVec 64), (0 : BitVec 64), (0 : BitVec 64)] }, { rw := true, c := Cont.a8 (x.set 31 (x.getD (31 : Nat) (0 : BitVec 8) &&& ~~~BitVec.ofInt 8 128)) }, { rw := true, c := Cont.a64 (w4 (K (List.take (List.length s) (List.drop 0 (x.set 31 (x.getD (31 : Nat) (0 : BitVec 8) &&& ~~~BitVec.ofInt 8 128)))))) }, { rw := true, c := Cont.a64 (w4 (B [List.getD (K (List.take (List.length s) (List.drop 0 (x.set 31 (x.getD (31 : Nat) (0 : BitVec 8) &&& ~~~BitVec.ofInt 8 128))))) (0 : Nat) (0 : BitVec 64), List.getD (K (List.take (List.length s) (List.drop 0 (x.set 31 (x.getD (31 : Nat) (0 : BitVec 8) &&& ~~~BitVec.ofInt 8 128))))) (1 : Nat) (0 : BitVec 64), List.getD (K (List.take (List.length s) (List.drop 0 (x.set 31 (x.getD (31 : Nat) (0 : BitVec 8) &&& ~~~BitVec.ofInt 8 128))))) (2 : Nat) (0 : BitVec 64), List.getD (K (List.take (List.length s) (List.drop 0 (x.set 31 (x.getD (31 : Nat) (0 : BitVec 8) &&& ~~~BitVec.ofInt 8 128))))) (3 : Nat) (0 : BitVec 64)] (x.getD (31 : Nat) (0 : BitVec 8) &&& BitVec.ofInt 8 128 != BitVec.ofInt 8 0))) }] else K0 (SV.tup [SV.a64 (List.take 16 (List.drop 0 (p16 (T [List.getD (B [List.getD (K (List.take (List.length s) (List.drop 0 (x.set 31 (x.getD (31 : Nat) (0 : BitVec 8) &&& ~~~BitVec.ofInt 8 128))))) (0 : Nat) (0 : BitVec 64), List.getD (K (List.take (List.length s) (List.drop 0 (x.set 31 (x.getD (31 : Nat) (0 : BitVec 8) &&& ~~~BitVec.ofInt 8 128))))) (1 : Nat) (0 : BitVec 64), List.getD (K (List.take (List.length s) (List.drop 0 (x.set 31 (x.getD (31 : Nat) (0 : BitVec 8) &&& ~~~BitVec.ofInt 8 128))))) (2 : Nat) (0 : BitVec 64), List.getD (K (List.take (List.length s) (List.drop 0 (x.set 31 (x.getD (31 : Nat) (0 : BitVec 8) &&& ~~~BitVec.ofInt 8 128))))) (3 : Nat) (0 : BitVec 64)] (x.getD (31 : Nat) (0 : BitVec 8) &&& BitVec.ofInt 8 128 != BitVec.ofInt 8 0)) (0 : Nat) (0 : BitVec 64), List.getD (B [List.getD (K (List.take (List.length s) (List.drop 0 (x.set 31 (x.getD (31 : Nat) (0 : BitVec 8) &&& ~~~BitVec.ofInt 8 128))))) (0 : Nat) (0 : BitVec 64), List.getD (K (List.take (List.length s) (List.drop 0 (x.set 31 (x.getD (31 : Nat) (0 : BitVec 8) &&& ~~~BitVec.ofInt 8 128))))) (1 : Nat) (0 : BitVec 64), List.getD (K (List.take (List.length s) (List.drop 0 (x.set 31 (x.getD (31 : Nat) (0 : BitVec 8) &&& ~~~BitVec.ofInt 8 128))))) (2 : Nat) (0 : BitVec 64), List.getD (K (List.take (List.length s) (List.drop 0 (x.set 31 (x.getD (31 : Nat) (0 : BitVec 8) &&& ~~~BitVec.ofInt 8 128))))) (3 : Nat) (0 : BitVec 64)] (x.getD (31 : Nat) (0 : BitVec 8) &&& BitVec.ofInt 8 128 != BitVec.ofInt 8 0)) (1 : Nat) (0 : BitVec 64), List.getD (B [List.getD (K (List.take (List.length s) (List.drop 0 (x.set 31 (x.getD (31 : Nat) (0 : BitVec 8) &&& ~~~BitVec.ofInt 8 128))))) (0 : Nat) (0 : BitVec 64), List.getD (K (List.take (List.length s) (List.drop 0 (x.set 31 (x.getD (31 : Nat) (0 : BitVec 8) &&& ~~~BitVec.ofInt 8 128))))) (1 : Nat) (0 : BitVec 64), List.getD (K (List.take (List.length s) (List.drop 0 (x.set 31 (x.getD (31 : Nat) (0 : BitVec 8) &&& ~~~BitVec.ofInt 8 128))))) (2 : Nat) (0 : BitVec 64), List.getD (K (List.take (List.length s) (List.drop 0 (x.set 31 (x.getD (31 : Nat) (0 : BitVec 8) &&& ~~~BitVec.ofInt 8 128))))) (3 : Nat) (0 : BitVec 64)] (x.getD (31 : Nat) (0 : BitVec 8) &&& BitVec.ofInt 8 128 != BitVec.ofInt 8 0)) (2 : Nat) (0 : BitVec 64), List.getD (B [List.getD (K (List.take (List.length s) (List.drop 0 (x.set 31 (x.getD (31 : Nat) (0 : BitVec 8) &&& ~~~BitVec.ofInt 8 128))))) (0 : Nat) (0 : BitVec 64), List.getD (K (List.take (List.length s) (List.drop 0 (x.set 31 (x.getD (31 : Nat) (0 : BitVec 8) &&& ~~~BitVec.ofInt 8 128))))) (1 : Nat) (0 : BitVec 64), List.getD (K (List.take (List.length s) (List.drop 0 (x.set 31 (x.getD (31 : Nat) (0 : BitVec 8) &&& ~~~BitVec.ofInt 8 128))))) (2 : Nat) (0 : BitVec 64), List.getD (K (List.take (List.length s) (List.drop 0 (x.set 31 (x.getD (31 : Nat) (0 : BitVec 8) &&& ~~~BitVec.ofInt 8 128))))) (3 : Nat) (0 : BitVec 64)] (x.getD (31 : Nat) (0 : BitVec 8) &&& BitVec.ofInt 8 128 != BitVec.ofInt 8 0)) (3 : Nat) (0 : BitVec 64)] [List.getD (K (List.take (List.length s) (List.drop 0 (x.set 31 (x.getD (31 : Nat) (0 : BitVec 8) &&& ~~~BitVec.ofInt 8 128))))) (0 : Nat) (0 : BitVec 64), List.getD (K (List.take (List.length s) (List.drop 0 (x.set 31 (x.getD (31 : Nat) (0 : BitVec 8) &&& ~~~BitVec.ofInt 8 128))))) (1 : Nat) (0 : BitVec 64), List.getD (K (List.take (List.length s) (List.drop 0 (x.set 31 (x.getD (31 : Nat) (0 : BitVec 8) &&& ~~~BitVec.ofInt 8 128))))) (2 : Nat) (0 : BitVec 64), List.getD (K (List.take (List.length s) (List.drop 0 (x.set 31 (x.getD (31 : Nat) (0 : BitVec 8) &&& ~~~BitVec.ofInt 8 128))))) (3 : Nat) (0 : BitVec 64)])))), SV.i (0 : Int)]) [{ rw := false, c := Cont.a64 BEG }, { rw := false, c := Cont.a64 PRI }, { rw := false, c := Cont.a64 CON }, { rw := false, c := Cont.a64 WHO }, { rw := false, c := Cont.a64 ROM }, { rw := true, c := Cont.a64 (p16 (T [List.getD (B [List.getD (K (List.take (List.length s) (List.drop 0 (x.set 31 (x.getD (31 : Nat) (0 : BitVec 8) &&& ~~~BitVec.ofInt 8 128))))) (0 : Nat) (0 : BitVec 64), List.getD (K (List.take (List.length s) (List.drop 0 (x.set 31 (x.getD (31 : Nat) (0 : BitVec 8) &&& ~~~BitVec.ofInt 8 128))))) (1 : Nat) (0 : BitVec 64), List.getD (K (List.take (List.length s) (List.drop 0 (x.set 31 (x.getD (31 : Nat) (0 : BitVec 8) &&& ~~~BitVec.ofInt 8 128))))) (2 : Nat) (0 : BitVec 64), List.getD (K (List.take (List.length s) (List.drop 0 (x.set 31 (x.getD (31 : Nat) (0 : BitVec 8) &&& ~~~BitVec.ofInt 8 128))))) (3 : Nat) (0 : BitVec 64)] (x.getD (31 : Nat) (0 : BitVec 8) &&& BitVec.ofInt 8 128 != BitVec.ofInt 8 0)) (0 : Nat) (0 : BitVec 64), List.getD (B [List.getD (K (List.take (List.length s) (List.drop 0 (x.set 31 (x.getD (31 : Nat) (0 : BitVec 8) &&& ~~~BitVec.ofInt 8 128))))) (0 : Nat) (0 : BitVec 64), List.getD (K (List.take (List.length s) (List.drop 0 (x.set 31 (x.getD (31 : Nat) (0 : BitVec 8) &&& ~~~BitVec.ofInt 8 128))))) (1 : Nat) (0 : BitVec 64), List.getD (K (List.take (List.length s) (List.drop 0 (x.set 31 (x.getD (31 : Nat) (0 : BitVec 8) &&& ~~~BitVec.ofInt 8 128))))) (2 : Nat) (0 : BitVec 64), List.getD (K (List.take (List.length s) (List.drop 0 (x.set 31 (x.getD (31 : Nat) (0 : BitVec 8) &&& ~~~BitVec.ofInt 8 128))))) (3 : Nat) (0 : BitVec 64)] (x.getD (31 : Nat) (0 : BitVec 8) &&& BitVec.ofInt 8 128 != BitVec.ofInt 8 0)) (1 : Nat) (0 : BitVec 64), List.getD (B [List.getD (K (List.take (List.length s) (List.drop 0 (x.set 31 (x.getD (31 : Nat) (0 : BitVec 8) &&& ~~~BitVec.ofInt 8 128))))) (0 : Nat) (0 : BitVec 64), List.getD (K (List.take (List.length s) (List.drop 0 (x.set 31 (x.getD (31 : Nat) (0 : BitVec 8) &&& ~~~BitVec.ofInt 8 128))))) (1 : Nat) (0 : BitVec 64), List.getD (K (List.take (List.length s) (List.drop 0 (x.set 31 (x.getD (31 : Nat) (0 : BitVec 8) &&& ~~~BitVec.ofInt 8 128))))) (2 : Nat) (0 : BitVec 64), List.getD (K (List.take (List.length s) (List.drop 0 (x.set 31 (x.getD (31 : Nat) (0 : BitVec 8) &&& ~~~BitVec.ofInt 8 128))))) (3 : Nat) (0 : BitVec 64)] (x.getD (31 : Nat) (0 : BitVec 8) &&& BitVec.ofInt 8 128 != BitVec.ofInt 8 0)) (2 : Nat) (0 : BitVec 64), List.getD (B [List.getD (K (List.take (List.length s) (List.drop 0 (x.set 31 (x.getD (31 : Nat) (0 : BitVec 8) &&& ~~~BitVec.ofInt 8 128))))) (0 : Nat) (0 : BitVec 64), List.getD (K (List.take (List.length s) (List.drop 0 (x.set 31 (x.getD (31 : Nat) (0 : BitVec 8) &&& ~~~BitVec.ofInt 8 128))))) (1 : Nat) (0 : BitVec 64), List.getD (K (List.take (List.length s) (List.drop 0 (x.set 31 (x.getD (31 : Nat) (0 : BitVec 8) &&& ~~~BitVec.ofInt 8 128))))) (2 : Nat) (0 : BitVec 64), List.getD (K (List.take (List.length s) (List.drop 0 (x.set 31 (x.getD (31 : Nat) (0 : BitVec 8) &&& ~~~BitVec.ofInt 8 128))))) (3 : Nat) (0 : BitVec 64)] (x.getD (31 : Nat) (0 : BitVec 8) &&& BitVec.ofInt 8 128 != BitVec.ofInt 8 0)) (3 : Nat) (0 : BitVec 64)] [List.getD (K (List.take (List.length s) (List.drop 0 (x.set 31 (x.getD (31 : Nat) (0 : BitVec 8) &&& ~~~BitVec.ofInt 8 128))))) (0 : Nat) (0 : BitVec 64), List.getD (K (List.take (List.length s) (List.drop 0 (x.set 31 (x.getD (31 : Nat) (0 : BitVec 8) &&& ~~~BitVec.ofInt 8 128))))) (1 : Nat) (0 : BitVec 64), List.getD (K (List.take (List.length s) (List.drop 0 (x.set 31 (x.getD (31 : Nat) (0 : BitVec 8) &&& ~~~BitVec.ofInt 8 128))))) (2 : Nat) (0 : BitVec 64), List.getD (K (List.take (List.length s) (List.drop 0 (x.set 31 (x.getD (31 : Nat) (0 : BitVec 8) &&& ~~~BitVec.ofInt 8 128))))) (3 : Nat) (0 : BitVec 64)])) }, { rw := true, c := Cont.a8 (x.set 31 (x.getD (31 : Nat) (0 : BitVec 8) &&& ~~~BitVec.ofInt 8 128)) }, { rw := true, c := Cont.a64 (w4 (K (List.take (List.length s) (List.drop 0 (x.set 31 (x.getD (31 : Nat) (0 : BitVec 8) &&& ~~~BitVec.ofInt 8 128)))))) }, { rw := true, c := Cont.a64 (w4 (B [List.getD (K (List.take (List.length s) (List.drop 0 (x.set 31 (x.getD (31 : Nat) (0 : BitVec 8) &&& ~~~BitVec.ofInt 8 128))))) (0 : Nat) (0 : BitVec 64), List.getD (K (List.take (List.length s) (List.drop 0 (x.set 31 (x.getD (31 : Nat) (0 : BitVec 8) &&& ~~~BitVec.ofInt 8 128))))) (1 : Nat) (0 : BitVec 64), List.getD (K (List.take (List.length s) (List.drop 0 (x.set 31 (x.getD (31 : Nat) (0 : BitVec 8) &&& ~~~BitVec.ofInt 8 128))))) (2 : Nat) (0 : BitVec 64), List.getD (K (List.take (List.length s) (List.drop 0 (x.set 31 (x.getD (31 : Nat) (0 : BitVec 8) &&& ~~~BitVec.ofInt 8 128))))) (3 : Nat) (0 : BitVec 64)] (x.getD (31 : Nat) (0 : BitVec 8) &&& BitVec.ofInt 8 128 != BitVec.ofInt 8 0))) }] else False else False else False else False else False else False else False else False else False) := by kernel_rfl
end Go.Proofs.YtdfghknonbmadaaGreatDoor
namespace Go.Proofs.YtdfghknonbmadaaGreatDoor
open Go.RowKit
set_option linter.unusedVariables false
set_option linter.unusedSimpArgs false
set_option maxRecDepth 100000
theorem tdiv8 (j : Nat) : ((j : Int).tdiv 8).toNat = j / 8 := by rw [Int.tdiv_eq_ediv_of_nonneg (by omega)]; omega
theorem tmod8 (j : Nat) : ((j : Int).tmod 8 * 8).toNat = j % 8 * 8 := by rw [Int.tmod_eq_emod_of_nonneg (by omega)]; omega
theorem tdiv8i (j : Nat) : (j : Int).tdiv 8 = (j / 8 : Nat) := by rw [Int.tdiv_eq_ediv_of_nonneg (by omega)]; omega
theorem tmod8i (j : Nat) : (j : Int).tmod 8 * 8 = (j % 8 * 8 : Nat) := by rw [Int.tmod_eq_emod_of_nonneg (by omega)]; omega
theorem blt_of {a b : Nat} (h : a < b) : Nat.blt a b = true := by simpa [Nat.blt_eq] using h
def MR (w : W6) : Mm := [⟨false, .a64 BEG⟩, ⟨false, .a64 PRI⟩, ⟨false, .a64 CON⟩, ⟨false, .a64 WHO⟩, ⟨false, .a64 ROM⟩, ⟨true, .a64 (List.replicate 4 0)⟩, ⟨true, .a64 w⟩]
def iR (l : Tx8) (j : Nat) : List (Nat × SV) := [(0, .s l), (2, .ptr 5 0), (3, .ptr 6 0), (5, .i (j : Nat))]
def oR : List (Nat × SV) := [(2, .ptr 5 0), (3, .ptr 6 0)]
def Z4 : W6 := List.replicate 4 0
def LR (l : Tx8) (x : W6) : LT := noL.add 0 (vLoop GE 24 (iR l 0) (MR Z4) oR (MR x))
def E00 : Env := ⟨GE, noT, noC⟩
theorem e00_ok : EnvOk Tryz.prog E00 := ⟨noT_ok _ _, noC_ok _ _⟩
theorem vaR (l : Tx8) (x : W6) (K : SV → Mm → Prop) : (vf Tryz.prog E00 (LR l x) 92 [.s l] GE K) = (loopOf Tryz.prog 92 0 = loopOf Tryz.prog 92 0 ∧ SV.s l = SV.s l ∧ SV.ptr 5 0 = SV.ptr 5 0 ∧ SV.ptr 6 0 = SV.ptr 6 0 ∧ SV.i (0 : Int) = SV.i (↑(0 : Nat) : Int) ∧ g5E ((true = true ∧ Cont.a64 (List.replicate 4 (0 : BitVec 64)) = Cont.a64 (List.replicate 4 (0 : BitVec 64))) ∧ (true = true ∧ Cont.a64 (List.replicate 4 (0 : BitVec 64)) = Cont.a64 Z4) ∧ bif (List.length x).beq 4 then bif (List.length x).beq 4 && (List.length x).beq 4 then bif (List.length x).beq 4 && true then K (SV.a64 x) [{ rw := false, c := Cont.a64 BEG }, { rw := false, c := Cont.a64 PRI }, { rw := false, c := Cont.a64 CON }, { rw := false, c := Cont.a64 WHO }, { rw := false, c := Cont.a64 ROM }, { rw := true, c := Cont.a64 x }, { rw := true, c := Cont.a64 x }] else False else False else False)) := by kernel_rfl
theorem vrR (l : Tx8) (w x z : W6) (j : Nat) (p : Prop) : (frK 24 (iR l j) fun fr => vround Tryz.prog E00 noL 92 0 fr (MR w) (Kn GE 0 24 p (iR l (j + 1)) (MR x) oR (MR z))) = (bif ilt (↑j : Int) (32 : Int) then bif inI (↑j : Int) then bif inR ((↑j : Int).tdiv (8 : Int)) (4 : Nat) then bif ((↑j : Int).tdiv (8 : Int)).toNat.blt (List.length w) then bif inR (↑j : Int) (List.length l) then bif inI ((↑j : Int).tmod (8 : Int) * (8 : Int)) then bif inR ((↑j : Int).tdiv (8 : Int)) (4 : Nat) then bif ((↑j : Int).tdiv (8 : Int)).toNat.blt (List.length w) then bif inI ((↑j : Int) + (1 : Int)) then p ∧ SV.s l = SV.s l ∧ SV.ptr 5 0 = SV.ptr 5 0 ∧ SV.ptr 6 0 = SV.ptr 6 0 ∧ SV.i ((↑j : Int) + (1 : Int)) = SV.i (↑(j + (1 : Nat)) : Int) ∧ g5E ((true = true ∧ Cont.a64 (List.replicate 4 (0 : BitVec 64)) = Cont.a64 (List.replicate 4 (0 : BitVec 64))) ∧ (true = true ∧ Cont.a64 (List.set w ((↑j : Int).tdiv (8 : Int)).toNat (List.getD w ((↑j : Int).tdiv (8 : Int)).toNat (0 : BitVec 64) ||| BitVec.setWidth (64 : Nat) (List.getD l j (0 : BitVec 8)) <<< ((↑j : Int).tmod (8 : Int) * (8 : Int)).toNat)) = Cont.a64 x) ∧ True) else False else False else False else False else False else False else False else False else (0 : Nat) = (0 : Nat) ∧ SV.ptr 5 0 = SV.ptr 5 0 ∧ SV.ptr 6 0 = SV.ptr 6 0 ∧ g5E ((true = true ∧ Cont.a64 (List.replicate 4 (0 : BitVec 64)) = Cont.a64 (List.replicate 4 (0 : BitVec 64))) ∧ (true = true ∧ Cont.a64 w = Cont.a64 z) ∧ True)) := by kernel_rfl
def rdN (l : Tx8) : Nat → W6
 | 0 => Z4
 | j + 1 => (rdN l j).set (j / 8) ((rdN l j).getD (j / 8) 0 ||| (l.getD j 0).setWidth 64 <<< (j % 8 * 8))
theorem rdN_len (l : Tx8) : ∀ j, (rdN l j).length = 4
 | 0 => rfl
 | j + 1 => by rw [rdN, List.length_set]; exact rdN_len l j
theorem w4_len {l : W6} (h : l.length = 4) : w4 l = l := by
 match l, h with
 | [a, b, c, d], _ => rfl
theorem loopR (l : Tx8) (hl : l.length = 32) : ∀ fr M K, vLoop GE 24 (iR l 0) (MR Z4) oR (MR (rdN l 32)) fr M K → Wp Tryz.prog GE GE (loopOf Tryz.prog 92 0) fr M K := by
 refine loop_next e00_ok mixed (noL_ok _ _ _ _) (Nat.le_refl _) (by kernel_rfl) (iR l) (fun j => MR (rdN l j)) (fun j => j ≤ 32) (fun j => 32 - j) (fun j => j + 1) 0 (Nat.zero_le _) (fun j hj => of_eq (vrR l (rdN l j) (rdN l (j + 1)) (rdN l 32) j _) ?_)
 have hlen := rdN_len l j
 have hnext : rdN l (j + 1) = (rdN l j).set (j / 8) ((rdN l j).getD (j / 8) 0 ||| (l.getD j 0).setWidth 64 <<< (j % 8 * 8)) := rfl
 have hfin : j = 32 → rdN l j = rdN l 32 := fun e => by rw [e]
 rw [hnext, tdiv8, tmod8, tdiv8i, tmod8i]
 generalize rdN l 32 = z at hfin
 generalize rdN l j = x at hfin hlen
 cases hq : ilt (j : Int) 32
 ·have hj2 : j = 32 := by rw [ilt_eq] at hq; have := of_decide_eq_false hq; omega
  exact ⟨rfl, rfl, rfl, ⟨rfl, rfl⟩, ⟨rfl, rfl⟩, ⟨rfl, rfl⟩, ⟨rfl, rfl⟩, ⟨rfl, rfl⟩, ⟨rfl, rfl⟩, ⟨rfl, congrArg Cont.a64 (hfin hj2)⟩, trivial⟩
 ·have hj2 : j < 32 := by rw [ilt_eq] at hq; have := of_decide_eq_true hq; omega
  have i1 : inR ((j / 8 : Nat) : Int) 4 = true := inR_iff.2 ⟨by omega, by omega⟩
  have i2 : Nat.blt (j / 8) x.length = true := blt_of (by omega)
  exact bif_of (inI_iff.2 (by omega)) (bif_of i1 (bif_of i2 (bif_of (inR_iff.2 ⟨by omega, by omega⟩) (bif_of (inI_iff.2 (by omega)) (bif_of i1 (bif_of i2 (bif_of (inI_iff.2 (by omega)) ⟨⟨by omega, by omega⟩, rfl, rfl, rfl, rfl, ⟨rfl, rfl⟩, ⟨rfl, rfl⟩, ⟨rfl, rfl⟩, ⟨rfl, rfl⟩, ⟨rfl, rfl⟩, ⟨rfl, rfl⟩, ⟨rfl, rfl⟩, trivial⟩)))))))
def rdX (l : Tx8) : W6 := rdN l 32
theorem read_ok : POk Tryz.prog GE 92 (ctK rdX) := by
 intro args acs r hh β M w hR hw ha
 unfold ctK at hh
 split at hh
 ·rename_i l
  simp only [Option.some.injEq, Prod.mk.injEq] at hh
  obtain ⟨h1, rfl⟩ := hh
  have h1 := Nat.eq_of_beq_eq_true h1
  rw [rdX, w4_len (rdN_len l 32)]
  refine pure0 (vf_ok e00_ok mixed (LT.add_ok (noL_ok _ _ _ _) (loopR l h1)) (of_eq (vaR l (rdN l 32) _) ?_)) rfl rfl hR
  have hlen := rdN_len l 32
  generalize rdN l 32 = z at hlen ⊢
  have hb : Nat.beq z.length 4 = true := by rw [hlen]; rfl
  exact ⟨rfl, rfl, rfl, rfl, rfl, ⟨rfl, rfl⟩, ⟨rfl, rfl⟩, ⟨rfl, rfl⟩, ⟨rfl, rfl⟩, ⟨rfl, rfl⟩, ⟨rfl, rfl⟩, ⟨rfl, rfl⟩, bif_of hb (bif_of (by rw [hb]; rfl) (bif_of (by rw [hb]; rfl) rfl))⟩
 ·cases hh
def MW (w : W6) (s : Tx8) : Mm := [⟨false, .a64 BEG⟩, ⟨false, .a64 PRI⟩, ⟨false, .a64 CON⟩, ⟨false, .a64 WHO⟩, ⟨false, .a64 ROM⟩, ⟨true, .a64 (w4 w)⟩, ⟨true, .a8 s⟩]
def iW (j : Nat) : List (Nat × SV) := [(1, .ptr 5 0), (3, .ptr 6 0), (5, .i (j : Nat))]
def oW : List (Nat × SV) := [(1, .ptr 5 0), (3, .ptr 6 0)]
def Z32 : Tx8 := List.replicate 32 0
def LW (w : W6) (x : Tx8) : LT := noL.add 0 (vLoop GE 22 (iW 0) (MW w Z32) oW (MW w x))
theorem vaW (w : W6) (x : Tx8) (K : SV → Mm → Prop) : (vf Tryz.prog E00 (LW w x) 112 [.a64 (w4 w)] GE K) = (loopOf Tryz.prog 112 0 = loopOf Tryz.prog 112 0 ∧ SV.ptr 5 0 = SV.ptr 5 0 ∧ SV.ptr ((0 : Nat) + (1 : Nat) + (1 : Nat) + (1 : Nat) + (1 : Nat) + (1 : Nat) + (1 : Nat)) (0 : Nat) = SV.ptr 6 0 ∧ SV.i (0 : Int) = SV.i (↑(0 : Nat) : Int) ∧ g5E ((true = true ∧ Cont.a64 (w4 w) = Cont.a64 (w4 w)) ∧ (true = true ∧ Cont.a8 (List.replicate 32 (0 : BitVec 8)) = Cont.a8 Z32) ∧ bif decide ((32 : Nat) ≤ List.length x) then K (SV.s (List.take 32 (List.drop 0 x))) (MW w x) else False)) := by kernel_rfl
theorem vrW (w : W6) (s x z : Tx8) (j : Nat) (p : Prop) : (frK 22 (iW j) fun fr => vround Tryz.prog E00 noL 112 0 fr (MW w s) (Kn GE 0 22 p (iW (j + 1)) (MW w x) oW (MW w z))) = (bif ilt (↑j : Int) (32 : Int) then bif inI (↑j : Int) then bif inR ((↑j : Int).tdiv (8 : Int)) (4 : Nat) then bif ((↑j : Int).tdiv (8 : Int)).toNat.blt (List.length (w4 w)) then bif inI ((↑j : Int).tmod (8 : Int) * (8 : Int)) then bif inR (↑j : Int) (32 : Nat) then bif j.blt (List.length s) then bif inI ((↑j : Int) + (1 : Int)) then p ∧ SV.ptr 5 0 = SV.ptr 5 0 ∧ SV.ptr 6 0 = SV.ptr 6 0 ∧ SV.i ((↑j : Int) + (1 : Int)) = SV.i (↑(j + (1 : Nat)) : Int) ∧ g5E ((true = true ∧ Cont.a64 (w4 w) = Cont.a64 (w4 w)) ∧ (true = true ∧ Cont.a8 (List.set s j (BitVec.setWidth (8 : Nat) (List.getD (w4 w) ((↑j : Int).tdiv (8 : Int)).toNat (0 : BitVec 64) >>> ((↑j : Int).tmod (8 : Int) * (8 : Int)).toNat))) = Cont.a8 x) ∧ True) else False else False else False else False else False else False else False else (0 : Nat) = (0 : Nat) ∧ SV.ptr 5 0 = SV.ptr 5 0 ∧ SV.ptr 6 0 = SV.ptr 6 0 ∧ g5E ((true = true ∧ Cont.a64 (w4 w) = Cont.a64 (w4 w)) ∧ (true = true ∧ Cont.a8 s = Cont.a8 z) ∧ True)) := by kernel_rfl
def wrN (w : W6) : Nat → Tx8
 | 0 => Z32
 | j + 1 => (wrN w j).set j ((w.getD (j / 8) 0 >>> (j % 8 * 8)).setWidth 8)
theorem wrN_len (w : W6) : ∀ j, (wrN w j).length = 32
 | 0 => rfl
 | j + 1 => by rw [wrN, List.length_set]; exact wrN_len w j
theorem loopW (w : W6) : ∀ fr M K, vLoop GE 22 (iW 0) (MW w Z32) oW (MW w (wrN (w4 w) 32)) fr M K → Wp Tryz.prog GE GE (loopOf Tryz.prog 112 0) fr M K := by
 refine loop_next e00_ok mixed (noL_ok _ _ _ _) (Nat.le_refl _) (by kernel_rfl) iW (fun j => MW w (wrN (w4 w) j)) (fun j => j ≤ 32) (fun j => 32 - j) (fun j => j + 1) 0 (Nat.zero_le _) (fun j hj => of_eq (vrW w (wrN (w4 w) j) (wrN (w4 w) (j + 1)) (wrN (w4 w) 32) j _) ?_)
 have hlen := wrN_len (w4 w) j
 have hnext : wrN (w4 w) (j + 1) = (wrN (w4 w) j).set j (((w4 w).getD (j / 8) 0 >>> (j % 8 * 8)).setWidth 8) := rfl
 have hfin : j = 32 → wrN (w4 w) j = wrN (w4 w) 32 := fun e => by rw [e]
 rw [hnext, tdiv8, tmod8, tdiv8i, tmod8i]
 generalize wrN (w4 w) 32 = z at hfin
 generalize wrN (w4 w) j = x at hfin hlen
 have h4 : (w4 w).length = 4 := rfl
 generalize w4 w = u at h4
 cases hq : ilt (j : Int) 32
 ·have hj2 : j = 32 := by rw [ilt_eq] at hq; have := of_decide_eq_false hq; omega
  exact ⟨rfl, rfl, rfl, ⟨rfl, rfl⟩, ⟨rfl, rfl⟩, ⟨rfl, rfl⟩, ⟨rfl, rfl⟩, ⟨rfl, rfl⟩, ⟨rfl, rfl⟩, ⟨rfl, congrArg Cont.a8 (hfin hj2)⟩, trivial⟩
 ·have hj2 : j < 32 := by rw [ilt_eq] at hq; have := of_decide_eq_true hq; omega
  have i1 : inR ((j / 8 : Nat) : Int) 4 = true := inR_iff.2 ⟨by omega, by omega⟩
  have i2 : Nat.blt (j / 8) u.length = true := blt_of (by omega)
  exact bif_of (inI_iff.2 (by omega)) (bif_of i1 (bif_of i2 (bif_of (inI_iff.2 (by omega)) (bif_of (inR_iff.2 ⟨by omega, by omega⟩) (bif_of (blt_of (by omega)) (bif_of (inI_iff.2 (by omega)) ⟨⟨by omega, by omega⟩, rfl, rfl, rfl, ⟨rfl, rfl⟩, ⟨rfl, rfl⟩, ⟨rfl, rfl⟩, ⟨rfl, rfl⟩, ⟨rfl, rfl⟩, ⟨rfl, rfl⟩, ⟨rfl, rfl⟩, trivial⟩))))))
def wrX (w : W6) : Tx8 := wrN w 32
def cWr (B : W6 → Tx8) : List SV → List Cont → Option (Bool × SV)
 | [.a64 [a, b, c, d]], _ => some (true, .s (B [a, b, c, d]))
 | _, _ => none
theorem write_ok : POk Tryz.prog GE 112 (cWr wrX) := by
 intro args acs r hh β M w hR hw ha
 unfold cWr at hh
 split at hh
 ·rename_i a b c d
  simp only [Option.some.injEq, Prod.mk.injEq, true_and] at hh
  subst hh
  refine pure0 (vf_ok e00_ok mixed (LT.add_ok (noL_ok _ _ _ _) (loopW [a, b, c, d])) (of_eq (vaW [a, b, c, d] (wrN [a, b, c, d] 32) _) ?_)) rfl rfl hR
  rw [wrX]
  have hlen := wrN_len [a, b, c, d] 32
  generalize wrN [a, b, c, d] 32 = z at hlen ⊢
  exact ⟨rfl, rfl, rfl, rfl, ⟨rfl, rfl⟩, ⟨rfl, rfl⟩, ⟨rfl, rfl⟩, ⟨rfl, rfl⟩, ⟨rfl, rfl⟩, ⟨rfl, rfl⟩, ⟨rfl, rfl⟩, bif_of (decide_eq_true (by omega)) (by rw [List.drop_zero, List.take_of_length_le (by omega)])⟩
 ·cases hh
def EO (R : Tx8 → W6) (F : W6 → B6 → W6) (D C : T3) (W : W6 → Tx8) : Env := ⟨GE, (((noT.add 92 (ctK R)).add 117 (cFd F)).add 91 (cMn D C)).add 112 (cWr W), noC⟩
section
variable (R : Tx8 → W6) (F : W6 → B6 → W6) (D C : T3) (W : W6 → Tx8)
end
theorem eo_ok : EnvOk Tryz.prog (EO rdX fdX sbS sbC wrX) := ⟨PT.add_ok (PT.add_ok (PT.add_ok (PT.add_ok (noT_ok _ _) read_ok) fold_ok) minus_ok) write_ok, noC_ok _ _⟩
end Go.Proofs.YtdfghknonbmadaaGreatDoor
namespace Go.Proofs.YtdfghknonbmadaaGreatDoor
open Go.RowKit
set_option linter.unusedVariables false
set_option linter.unusedSimpArgs false
theorem sig_oldV (b : Nat) (rs : List Nat) (k : Nat) (h : k < b) : sig b rs k = k := by
 unfold sig
 have : Nat.blt k b = true := by simpa [Nat.blt_eq] using h
 rw [this]; rfl
theorem sig_new (b : Nat) (rs : List Nat) (i : Nat) : sig b rs (b + i) = rs.getD i 0 := by
 unfold sig
 have : Nat.blt (b + i) b = false := by
  cases hq : Nat.blt (b + i) b
  ·rfl
  ·exact absurd (blt_lt hq) (by omega)
 rw [this, Nat.add_sub_cancel_left]; rfl
def liesK (n b : Nat) (σ : Nat → Nat) (M : Mm) : List Nat → Mm → Prop
 | [], [] => True
 | k :: ks, e :: R => (∃ r, M[k]? = some ⟨r, e.c.ren σ⟩ ∧ (e.rw = true → r = true)) ∧ (e.c.here = true ∧ e.c.wf n = true) ∧ liesK n b σ M ks R
 | _, _ => False
theorem liesK_ok {n b : Nat} {σ : Nat → Nat} {M : Mm} : ∀ (ks : List Nat) (R : Mm), liesK n b σ M ks R → ks.length = R.length ∧ ∀ (i : Nat) (e : Ent), R[i]? = some e → ∃ r, M[ks.getD i 0]? = some ⟨r, e.c.ren σ⟩ ∧ (e.rw = true → r = true) ∧ e.c.here = true ∧ e.c.wf n = true
 | [], [], h => ⟨rfl, fun i e he => by cases he⟩
 | k :: ks, e :: R, h => by
  obtain ⟨⟨r, h1, h2⟩, h3, h4⟩ := h
  obtain ⟨h5, h6⟩ := liesK_ok ks R h4
  refine ⟨by simp [h5], fun i x hx => ?_⟩
  cases i with
  | zero => obtain rfl := Option.some.inj hx; exact ⟨r, h1, h2, h3.1, h3.2⟩
  | succ i => exact h6 i x hx
 | [], _ :: _, h => h.elim
 | _ :: _, [], h => h.elim
theorem lies_of {G R M : Mm} {β : Nat → Nat} {w : World} (hR : Rel G β M w) (ks : List Nat) (hk : liesK (G.length + R.length) G.length (sig G.length ks) M ks R) (hn : ks.Nodup) : Lies G R M (sig G.length ks) := by
 obtain ⟨h1, h2⟩ := liesK_ok ks R hk
 refine ⟨hR.gl, sig_oldV _ _, fun i e he => ?_, fun i j x y hx hy hij hr => ?_⟩
 ·rw [sig_new]; exact h2 i e he
 ·rw [sig_new, sig_new]
  have hi : i < ks.length := by rw [h1]; exact lt_of_get hx
  have hj : j < ks.length := by rw [h1]; exact lt_of_get hy
  rw [List.getD_eq_getElem?_getD, List.getD_eq_getElem?_getD, List.getElem?_eq_getElem hi, List.getElem?_eq_getElem hj]
  intro e
  exact hij ((List.getElem_inj hn).1 e)
theorem eff_of {P : Program} {G R M : Mm} {f : Nat} {args0 args : List SV} {K0 K : SV → Mm → Prop} (ks : List Nat) (hS : Spec P G f args0 (G ++ R) K0) (hargs : args = rens (sig G.length ks) args0) (ha : SV.wf.wfs (G.length + R.length) args0 = true) (hn : ks.Nodup) (hk : liesK (G.length + R.length) G.length (sig G.length ks) M ks R) (hK : ∀ r1 M1, K0 r1 M1 → K (ren (reloc (sig G.length ks) (G ++ R).length M.length) r1) (back G R M (sig G.length ks) M1)) : Spec P G f args M K := fun β w hR hw => by
 subst hargs
 refine (lift_of hS hR (lies_of hR ks hk hn) (by rw [List.length_append]; exact ha)).mono fun v w' hh => ?_
 obtain ⟨β2, M2, r2, h1, h2, h3, r1, M1, h4, rfl, rfl⟩ := hh
 exact ⟨β2, _, _, h1, h2, h3, hK _ _ h4⟩
end Go.Proofs.YtdfghknonbmadaaGreatDoor
namespace Go.Proofs.YtdfghknonbmadaaGreatDoor
open Go.RowKit
set_option linter.unusedVariables false
set_option linter.unusedSimpArgs false
def Kt (B : Mm) (id n : Nat) (a : Prop) (i' : List (Nat × SV)) (M' : Mm) (q : Prop) (o : List (Nat × SV)) (M1 : Mm) (z : Prop) (ro : List (Nat × SV)) (Mr : Mm) : Ko := fun e fr2 M2 => match e with
 | .normal => a ∧ vLe B fr2 M2 n i' M' True
 | .exit j => j = id ∧ q ∧ vLe B fr2 M2 n o M1 True
 | .ret => z ∧ vLe B fr2 M2 n ro Mr True
 | _ => False
def vLoopR (B : Mm) (n : Nat) (i0 : List (Nat × SV)) (M0 : Mm) (q : Prop) (o : List (Nat × SV)) (M1 : Mm) (z : Prop) (ro : List (Nat × SV)) (Mr : Mm) (fr : List SV) (M : Mm) (K : Ko) : Prop := vLe B fr M n i0 M0 ((q → frK n o fun fr1 => K .normal fr1 M1) ∧ (z → frK n ro fun fr1 => K .ret fr1 Mr))
theorem loop_ret {P : Program} {E : Env} (hE : EnvOk P E) (hm : P.follows .mixedOrders = true) {B : Mm} {f id : Nat} {L : LT} (hL : LOk P E.G B f L) (hG : E.G.length ≤ B.length) (hl : isLoop id (loopOf P f id) = true) {n : Nat} {q z : Prop} {o ro : List (Nat × SV)} {M1 Mr : Mm} {ι : Type} (I : ι → List (Nat × SV)) (Mi : ι → Mm) (p : ι → Prop) (μ : ι → Nat) (next : ι → ι) (i0 : ι) (hp : p i0)
  (hround : ∀ i, p i → frK n (I i) fun fr => vround P E L f id fr (Mi i) (Kt B id n (p (next i) ∧ μ (next i) < μ i) (I (next i)) (Mi (next i)) q o M1 z ro Mr)) : ∀ fr M K, vLoopR B n (I i0) (Mi i0) q o M1 z ro Mr fr M K → Wp P E.G B (loopOf P f id) fr M K := by
 intro fr M K h
 obtain ⟨h0, hK, hZ⟩ := vLe_ok h
 rw [frK_eq] at hK hZ
 have hc : loopOf P f id = .block id (.loop (body (loopOf P f id))) := by
  unfold isLoop at hl
  split at hl
  ·rename_i j c he
   obtain rfl := Nat.eq_of_beq_eq_true hl
   rw [he]; rfl
  ·cases hl
 refine Wp.le hG h0 ?_
 rw [hc]
 refine Wp.loop (fun m fr M => ∃ i, p i ∧ μ i = m ∧ fr = mkF n (I i) ∧ M = Mi i) (μ i0) ⟨i0, hp, rfl, rfl, rfl⟩ ?_
 rintro m fr M ⟨i, hpi, rfl, rfl, rfl⟩
 have h := hround i hpi
 rw [frK_eq] at h
 refine Wp.post hG ((vcode_ok hE (wd_of hE hm hL) _ _ _ _ h).mono fun e fr' M' hk => ?_)
 cases e with
 | normal => obtain ⟨h1, h2⟩ := hk; exact ⟨_, _, (vLe_ok h2).1, _, h1.2, next i, h1.1, rfl, rfl, rfl⟩
 | exit j => obtain ⟨h1, h2, h3⟩ := hk; exact ⟨_, _, (vLe_ok h3).1, h1, hK h2⟩
 | ret => obtain ⟨h1, h2⟩ := hk; exact ⟨_, _, (vLe_ok h2).1, hZ h1⟩
 | goto l => exact hk.elim
 | panic ch => exact hk.elim
 | outgrown => exact hk.elim
end Go.Proofs.YtdfghknonbmadaaGreatDoor
namespace Go.Proofs.YtdfghknonbmadaaGreatDoor
open Go.RowKit
set_option linter.unusedVariables false
set_option linter.unusedSimpArgs false
end Go.Proofs.YtdfghknonbmadaaGreatDoor
namespace Go.Proofs.YtdfghknonbmadaaGreatDoor
open Go.RowKit
set_option linter.unusedVariables false
set_option linter.unusedSimpArgs false
theorem loop_nextL {P : Program} {E : Env} (hE : EnvOk P E) (hm : P.follows .mixedOrders = true) {B : Mm} {f id : Nat} (hG : E.G.length ≤ B.length) (hl : isLoop id (loopOf P f id) = true) {n : Nat} {o : List (Nat × SV)} {M1 : Mm} {ι : Type} {L : ι → LT} (hL : ∀ i, LOk P E.G B f (L i)) (I : ι → List (Nat × SV)) (Mi : ι → Mm) (p : ι → Prop) (μ : ι → Nat) (next : ι → ι) (i0 : ι) (hp : p i0)
  (hround : ∀ i, p i → frK n (I i) fun fr => vround P E (L i) f id fr (Mi i) (Kn B id n (p (next i) ∧ μ (next i) < μ i) (I (next i)) (Mi (next i)) o M1)) : ∀ fr M K, vLoop B n (I i0) (Mi i0) o M1 fr M K → Wp P E.G B (loopOf P f id) fr M K := by
 intro fr M K h
 obtain ⟨h0, hK⟩ := vLoop_ok h
 have hc : loopOf P f id = .block id (.loop (body (loopOf P f id))) := by
  unfold isLoop at hl
  split at hl
  ·rename_i j c he
   obtain rfl := Nat.eq_of_beq_eq_true hl
   rw [he]; rfl
  ·cases hl
 refine Wp.le hG h0 ?_
 rw [hc]
 refine Wp.loop (fun m fr M => ∃ i, p i ∧ μ i = m ∧ fr = mkF n (I i) ∧ M = Mi i) (μ i0) ⟨i0, hp, rfl, rfl, rfl⟩ ?_
 rintro m fr M ⟨i, hpi, rfl, rfl, rfl⟩
 have h := hround i hpi
 rw [frK_eq] at h
 refine Wp.post hG ((vcode_ok hE (wd_of hE hm (hL i)) _ _ _ _ h).mono fun e fr' M' hk => ?_)
 cases e with
 | normal => obtain ⟨h1, h2⟩ := hk; exact ⟨_, _, (vLe_ok h2).1, _, h1.2, next i, h1.1, rfl, rfl, rfl⟩
 | exit j => obtain ⟨h1, h2⟩ := hk; exact ⟨_, _, (vLe_ok h2).1, h1, hK⟩
 | ret => exact hk.elim
 | goto l => exact hk.elim
 | panic ch => exact hk.elim
 | outgrown => exact hk.elim
end Go.Proofs.YtdfghknonbmadaaGreatDoor
