/-
  order: numbers modulo the order, word by word. No statement is proved here.
-/
import Derived.Test.YtdfghknonbmadaaDoorEwI
import Derived.Test.YtdfghknonbmadaaDoorVcU
namespace Go.Proofs.YtdfghknonbmadaaDoor
open Go.RowKit
set_option linter.unusedVariables false
set_option linter.unusedSimpArgs false
set_option maxRecDepth 100000

-- less, pick, step, below
/-- The words without the order, and the borrow. -/
def lsT (D F : T3) (w : W6) : SV := .tup [.w64 ((plS D F w WHO).getD 0 0), .w64 ((plS D F w WHO).getD 1 0), .w64 ((plS D F w WHO).getD 2 0), .w64 ((plS D F w WHO).getD 3 0), .w64 (plC F w WHO 4)]
theorem less_e (S C D F : T3) (x y z t : B6) : vf Tryd.prog (EN S C D F) noL 52 [.w64 x, .w64 y, .w64 z, .w64 t] GE (fun r _ => r = lsT D F [x, y, z, t]) = (bif lc (plC F [x, y, z, t] WHO 1) then bif lc (plC F [x, y, z, t] WHO 2) then bif lc (plC F [x, y, z, t] WHO 3) then lsT D F [x, y, z, t] = lsT D F [x, y, z, t] else False else False else False) := by kernel_rfl
def cLs (D F : T3) : List SV → List Cont → Option (Bool × SV)
  | [.w64 x, .w64 y, .w64 z, .w64 t], _ => some (true, lsT D F [x, y, z, t])
  | _, _ => none
theorem less_ok : POk Tryd.prog GE 52 (cLs sbS sbC) := by
  intro args acs r hh β M w hR hw ha
  unfold cLs at hh
  split at hh
  · rename_i x y z t
    simp only [Option.some.injEq, Prod.mk.injEq, true_and] at hh
    subst hh
    exact pokE (E := EN adS adC sbS sbC) rfl en_ok (less_e adS adC sbS sbC x y z t) (bif_of (lc_mi _ _ 1) (bif_of (lc_mi _ _ 2) (bif_of (lc_mi _ _ 3) rfl))) rfl rfl hR
  · cases hh
def pkO (x y z : B6) : B6 := y ^^^ -x &&& (y ^^^ z)
def c3w (F : T3) : List SV → List Cont → Option (Bool × SV)
  | [.w64 x, .w64 y, .w64 z], _ => some (true, .w64 (F x y z))
  | _, _ => none
theorem pickO_e (S C D F : T3) (x y z : B6) : vf Tryd.prog (EN S C D F) noL 86 [.w64 x, .w64 y, .w64 z] GE (fun r _ => r = .w64 (pkO x y z)) = (SV.w64 (pkO x y z) = SV.w64 (pkO x y z)) := by kernel_rfl
theorem pickO_ok : POk Tryd.prog GE 86 (c3w pkO) := by
  intro args acs r hh β M w hR hw ha
  unfold c3w at hh
  split at hh
  · rename_i x y z
    simp only [Option.some.injEq, Prod.mk.injEq, true_and] at hh
    subst hh
    exact pokE (E := EN adS adC sbS sbC) rfl en_ok (pickO_e adS adC sbS sbC x y z) rfl rfl rfl hR
  · cases hh
theorem stepO_e (S C D F : T3) (H L : B6 → B6 → B6) (P : B6 → W6 → W6 → W6) (x y s c : B6) : vf Tryd.prog (EN1 S C D F H L P) noL 72 [.w64 x, .w64 y, .w64 s, .w64 c] GE (fun r _ => r = .tup [.w64 (stL S L x y s c), .w64 (stH S C H L x y s c)]) = (SV.tup [.w64 (stL S L x y s c), .w64 (stH S C H L x y s c)] = SV.tup [.w64 (stL S L x y s c), .w64 (stH S C H L x y s c)]) := by kernel_rfl
theorem stepO_ok : POk Tryd.prog GE 72 (cSp stLX stHX) := by
  intro args acs r hh β M w hR hw ha
  unfold cSp at hh
  split at hh
  · rename_i x y s c
    simp only [Option.some.injEq, Prod.mk.injEq, true_and] at hh
    subst hh
    exact pokE (E := EN1 adS adC sbS sbC hiK (· * ·) pkW) rfl en1_ok (stepO_e adS adC sbS sbC hiK (· * ·) pkW x y s c) rfl rfl rfl hR
  · cases hh
def EL (D F : T3) (P : T3) (S C : T3) : Env := ⟨GE, ((noT.add 52 (cLs D F)).add 86 (c3w P)).add 85 (cAd S C), noC⟩
theorem el_ok : EnvOk Tryd.prog (EL sbS sbC pkO adS adC) := ⟨PT.add_ok (PT.add_ok (PT.add_ok (noT_ok _ _) less_ok) pickO_ok) add64_ok, noC_ok _ _⟩
def blO (F : T3) (w : W6) : Bool := plC F w WHO 4 != BitVec.ofInt 64 0
theorem belowO_e (D F P S C : T3) (a b c d : B6) : vf Tryd.prog (EL D F P S C) noL 27 [.a64 [a, b, c, d]] GE (fun r _ => r = .b (blO F [a, b, c, d])) = (SV.b (blO F [a, b, c, d]) = SV.b (blO F [a, b, c, d])) := by kernel_rfl
theorem belowO_ok : POk Tryd.prog GE 27 (cOd (blO sbC)) := by
  intro args acs r hh β M w hR hw ha
  unfold cOd at hh
  split at hh
  · rename_i a b c d
    simp only [Option.some.injEq, Prod.mk.injEq, true_and] at hh
    subst hh
    exact pokE (E := EL sbS sbC pkO adS adC) rfl el_ok (belowO_e sbS sbC pkO adS adC a b c d) rfl rfl rfl hR
  · cases hh
-- push: the words behind the pointer
def BP (w : W6) : Mm := [⟨false, .a64 BEG⟩, ⟨false, .a64 PRI⟩, ⟨false, .a64 CON⟩, ⟨false, .a64 WHO⟩, ⟨false, .a64 ROM⟩, ⟨true, .a64 w⟩]
theorem vaPu (D F P S C : T3) (a b c d bit : B6) (K : SV → Mm → Prop) : (vf Tryd.prog (EL D F P S C) noL 73 [.ptr 5 0, .w64 bit] (BP [a, b, c, d]) K) = (bif lc bit then bif lc (C ([a, b, c, d].getD (0 : Nat) (0 : BitVec (64 : Nat))) ([a, b, c, d].getD (0 : Nat) (0 : BitVec (64 : Nat))) bit) then bif lc (C ([a, b, c, d].getD (1 : Nat) (0 : BitVec (64 : Nat))) ([a, b, c, d].getD (1 : Nat) (0 : BitVec (64 : Nat))) (C ([a, b, c, d].getD (0 : Nat) (0 : BitVec (64 : Nat))) ([a, b, c, d].getD (0 : Nat) (0 : BitVec (64 : Nat))) bit)) then bif lc (C ([a, b, c, d].getD (2 : Nat) (0 : BitVec (64 : Nat))) ([a, b, c, d].getD (2 : Nat) (0 : BitVec (64 : Nat))) (C ([a, b, c, d].getD (1 : Nat) (0 : BitVec (64 : Nat))) ([a, b, c, d].getD (1 : Nat) (0 : BitVec (64 : Nat))) (C ([a, b, c, d].getD (0 : Nat) (0 : BitVec (64 : Nat))) ([a, b, c, d].getD (0 : Nat) (0 : BitVec (64 : Nat))) bit))) then K (SV.tup []) [{ rw := false, c := Cont.a64 BEG }, { rw := false, c := Cont.a64 PRI }, { rw := false, c := Cont.a64 CON }, { rw := false, c := Cont.a64 WHO }, { rw := false, c := Cont.a64 ROM }, { rw := true, c := Cont.a64 (((([a, b, c, d].set (0 : Nat) (P (plC F [S ([a, b, c, d].getD (0 : Nat) (0 : BitVec (64 : Nat))) ([a, b, c, d].getD (0 : Nat) (0 : BitVec (64 : Nat))) bit, S ([a, b, c, d].getD (1 : Nat) (0 : BitVec (64 : Nat))) ([a, b, c, d].getD (1 : Nat) (0 : BitVec (64 : Nat))) (C ([a, b, c, d].getD (0 : Nat) (0 : BitVec (64 : Nat))) ([a, b, c, d].getD (0 : Nat) (0 : BitVec (64 : Nat))) bit), S ([a, b, c, d].getD (2 : Nat) (0 : BitVec (64 : Nat))) ([a, b, c, d].getD (2 : Nat) (0 : BitVec (64 : Nat))) (C ([a, b, c, d].getD (1 : Nat) (0 : BitVec (64 : Nat))) ([a, b, c, d].getD (1 : Nat) (0 : BitVec (64 : Nat))) (C ([a, b, c, d].getD (0 : Nat) (0 : BitVec (64 : Nat))) ([a, b, c, d].getD (0 : Nat) (0 : BitVec (64 : Nat))) bit)), S ([a, b, c, d].getD (3 : Nat) (0 : BitVec (64 : Nat))) ([a, b, c, d].getD (3 : Nat) (0 : BitVec (64 : Nat))) (C ([a, b, c, d].getD (2 : Nat) (0 : BitVec (64 : Nat))) ([a, b, c, d].getD (2 : Nat) (0 : BitVec (64 : Nat))) (C ([a, b, c, d].getD (1 : Nat) (0 : BitVec (64 : Nat))) ([a, b, c, d].getD (1 : Nat) (0 : BitVec (64 : Nat))) (C ([a, b, c, d].getD (0 : Nat) (0 : BitVec (64 : Nat))) ([a, b, c, d].getD (0 : Nat) (0 : BitVec (64 : Nat))) bit)))] WHO (4 : Nat)) (List.getD (plS D F [S ([a, b, c, d].getD (0 : Nat) (0 : BitVec (64 : Nat))) ([a, b, c, d].getD (0 : Nat) (0 : BitVec (64 : Nat))) bit, S ([a, b, c, d].getD (1 : Nat) (0 : BitVec (64 : Nat))) ([a, b, c, d].getD (1 : Nat) (0 : BitVec (64 : Nat))) (C ([a, b, c, d].getD (0 : Nat) (0 : BitVec (64 : Nat))) ([a, b, c, d].getD (0 : Nat) (0 : BitVec (64 : Nat))) bit), S ([a, b, c, d].getD (2 : Nat) (0 : BitVec (64 : Nat))) ([a, b, c, d].getD (2 : Nat) (0 : BitVec (64 : Nat))) (C ([a, b, c, d].getD (1 : Nat) (0 : BitVec (64 : Nat))) ([a, b, c, d].getD (1 : Nat) (0 : BitVec (64 : Nat))) (C ([a, b, c, d].getD (0 : Nat) (0 : BitVec (64 : Nat))) ([a, b, c, d].getD (0 : Nat) (0 : BitVec (64 : Nat))) bit)), S ([a, b, c, d].getD (3 : Nat) (0 : BitVec (64 : Nat))) ([a, b, c, d].getD (3 : Nat) (0 : BitVec (64 : Nat))) (C ([a, b, c, d].getD (2 : Nat) (0 : BitVec (64 : Nat))) ([a, b, c, d].getD (2 : Nat) (0 : BitVec (64 : Nat))) (C ([a, b, c, d].getD (1 : Nat) (0 : BitVec (64 : Nat))) ([a, b, c, d].getD (1 : Nat) (0 : BitVec (64 : Nat))) (C ([a, b, c, d].getD (0 : Nat) (0 : BitVec (64 : Nat))) ([a, b, c, d].getD (0 : Nat) (0 : BitVec (64 : Nat))) bit)))] WHO) (0 : Nat) (0 : BitVec (64 : Nat))) (S ([a, b, c, d].getD (0 : Nat) (0 : BitVec (64 : Nat))) ([a, b, c, d].getD (0 : Nat) (0 : BitVec (64 : Nat))) bit))).set (1 : Nat) (P (plC F [S ([a, b, c, d].getD (0 : Nat) (0 : BitVec (64 : Nat))) ([a, b, c, d].getD (0 : Nat) (0 : BitVec (64 : Nat))) bit, S ([a, b, c, d].getD (1 : Nat) (0 : BitVec (64 : Nat))) ([a, b, c, d].getD (1 : Nat) (0 : BitVec (64 : Nat))) (C ([a, b, c, d].getD (0 : Nat) (0 : BitVec (64 : Nat))) ([a, b, c, d].getD (0 : Nat) (0 : BitVec (64 : Nat))) bit), S ([a, b, c, d].getD (2 : Nat) (0 : BitVec (64 : Nat))) ([a, b, c, d].getD (2 : Nat) (0 : BitVec (64 : Nat))) (C ([a, b, c, d].getD (1 : Nat) (0 : BitVec (64 : Nat))) ([a, b, c, d].getD (1 : Nat) (0 : BitVec (64 : Nat))) (C ([a, b, c, d].getD (0 : Nat) (0 : BitVec (64 : Nat))) ([a, b, c, d].getD (0 : Nat) (0 : BitVec (64 : Nat))) bit)), S ([a, b, c, d].getD (3 : Nat) (0 : BitVec (64 : Nat))) ([a, b, c, d].getD (3 : Nat) (0 : BitVec (64 : Nat))) (C ([a, b, c, d].getD (2 : Nat) (0 : BitVec (64 : Nat))) ([a, b, c, d].getD (2 : Nat) (0 : BitVec (64 : Nat))) (C ([a, b, c, d].getD (1 : Nat) (0 : BitVec (64 : Nat))) ([a, b, c, d].getD (1 : Nat) (0 : BitVec (64 : Nat))) (C ([a, b, c, d].getD (0 : Nat) (0 : BitVec (64 : Nat))) ([a, b, c, d].getD (0 : Nat) (0 : BitVec (64 : Nat))) bit)))] WHO (4 : Nat)) (List.getD (plS D F [S ([a, b, c, d].getD (0 : Nat) (0 : BitVec (64 : Nat))) ([a, b, c, d].getD (0 : Nat) (0 : BitVec (64 : Nat))) bit, S ([a, b, c, d].getD (1 : Nat) (0 : BitVec (64 : Nat))) ([a, b, c, d].getD (1 : Nat) (0 : BitVec (64 : Nat))) (C ([a, b, c, d].getD (0 : Nat) (0 : BitVec (64 : Nat))) ([a, b, c, d].getD (0 : Nat) (0 : BitVec (64 : Nat))) bit), S ([a, b, c, d].getD (2 : Nat) (0 : BitVec (64 : Nat))) ([a, b, c, d].getD (2 : Nat) (0 : BitVec (64 : Nat))) (C ([a, b, c, d].getD (1 : Nat) (0 : BitVec (64 : Nat))) ([a, b, c, d].getD (1 : Nat) (0 : BitVec (64 : Nat))) (C ([a, b, c, d].getD (0 : Nat) (0 : BitVec (64 : Nat))) ([a, b, c, d].getD (0 : Nat) (0 : BitVec (64 : Nat))) bit)), S ([a, b, c, d].getD (3 : Nat) (0 : BitVec (64 : Nat))) ([a, b, c, d].getD (3 : Nat) (0 : BitVec (64 : Nat))) (C ([a, b, c, d].getD (2 : Nat) (0 : BitVec (64 : Nat))) ([a, b, c, d].getD (2 : Nat) (0 : BitVec (64 : Nat))) (C ([a, b, c, d].getD (1 : Nat) (0 : BitVec (64 : Nat))) ([a, b, c, d].getD (1 : Nat) (0 : BitVec (64 : Nat))) (C ([a, b, c, d].getD (0 : Nat) (0 : BitVec (64 : Nat))) ([a, b, c, d].getD (0 : Nat) (0 : BitVec (64 : Nat))) bit)))] WHO) (1 : Nat) (0 : BitVec (64 : Nat))) (S ([a, b, c, d].getD (1 : Nat) (0 : BitVec (64 : Nat))) ([a, b, c, d].getD (1 : Nat) (0 : BitVec (64 : Nat))) (C ([a, b, c, d].getD (0 : Nat) (0 : BitVec (64 : Nat))) ([a, b, c, d].getD (0 : Nat) (0 : BitVec (64 : Nat))) bit)))).set (2 : Nat) (P (plC F [S ([a, b, c, d].getD (0 : Nat) (0 : BitVec (64 : Nat))) ([a, b, c, d].getD (0 : Nat) (0 : BitVec (64 : Nat))) bit, S ([a, b, c, d].getD (1 : Nat) (0 : BitVec (64 : Nat))) ([a, b, c, d].getD (1 : Nat) (0 : BitVec (64 : Nat))) (C ([a, b, c, d].getD (0 : Nat) (0 : BitVec (64 : Nat))) ([a, b, c, d].getD (0 : Nat) (0 : BitVec (64 : Nat))) bit), S ([a, b, c, d].getD (2 : Nat) (0 : BitVec (64 : Nat))) ([a, b, c, d].getD (2 : Nat) (0 : BitVec (64 : Nat))) (C ([a, b, c, d].getD (1 : Nat) (0 : BitVec (64 : Nat))) ([a, b, c, d].getD (1 : Nat) (0 : BitVec (64 : Nat))) (C ([a, b, c, d].getD (0 : Nat) (0 : BitVec (64 : Nat))) ([a, b, c, d].getD (0 : Nat) (0 : BitVec (64 : Nat))) bit)), S ([a, b, c, d].getD (3 : Nat) (0 : BitVec (64 : Nat))) ([a, b, c, d].getD (3 : Nat) (0 : BitVec (64 : Nat))) (C ([a, b, c, d].getD (2 : Nat) (0 : BitVec (64 : Nat))) ([a, b, c, d].getD (2 : Nat) (0 : BitVec (64 : Nat))) (C ([a, b, c, d].getD (1 : Nat) (0 : BitVec (64 : Nat))) ([a, b, c, d].getD (1 : Nat) (0 : BitVec (64 : Nat))) (C ([a, b, c, d].getD (0 : Nat) (0 : BitVec (64 : Nat))) ([a, b, c, d].getD (0 : Nat) (0 : BitVec (64 : Nat))) bit)))] WHO (4 : Nat)) (List.getD (plS D F [S ([a, b, c, d].getD (0 : Nat) (0 : BitVec (64 : Nat))) ([a, b, c, d].getD (0 : Nat) (0 : BitVec (64 : Nat))) bit, S ([a, b, c, d].getD (1 : Nat) (0 : BitVec (64 : Nat))) ([a, b, c, d].getD (1 : Nat) (0 : BitVec (64 : Nat))) (C ([a, b, c, d].getD (0 : Nat) (0 : BitVec (64 : Nat))) ([a, b, c, d].getD (0 : Nat) (0 : BitVec (64 : Nat))) bit), S ([a, b, c, d].getD (2 : Nat) (0 : BitVec (64 : Nat))) ([a, b, c, d].getD (2 : Nat) (0 : BitVec (64 : Nat))) (C ([a, b, c, d].getD (1 : Nat) (0 : BitVec (64 : Nat))) ([a, b, c, d].getD (1 : Nat) (0 : BitVec (64 : Nat))) (C ([a, b, c, d].getD (0 : Nat) (0 : BitVec (64 : Nat))) ([a, b, c, d].getD (0 : Nat) (0 : BitVec (64 : Nat))) bit)), S ([a, b, c, d].getD (3 : Nat) (0 : BitVec (64 : Nat))) ([a, b, c, d].getD (3 : Nat) (0 : BitVec (64 : Nat))) (C ([a, b, c, d].getD (2 : Nat) (0 : BitVec (64 : Nat))) ([a, b, c, d].getD (2 : Nat) (0 : BitVec (64 : Nat))) (C ([a, b, c, d].getD (1 : Nat) (0 : BitVec (64 : Nat))) ([a, b, c, d].getD (1 : Nat) (0 : BitVec (64 : Nat))) (C ([a, b, c, d].getD (0 : Nat) (0 : BitVec (64 : Nat))) ([a, b, c, d].getD (0 : Nat) (0 : BitVec (64 : Nat))) bit)))] WHO) (2 : Nat) (0 : BitVec (64 : Nat))) (S ([a, b, c, d].getD (2 : Nat) (0 : BitVec (64 : Nat))) ([a, b, c, d].getD (2 : Nat) (0 : BitVec (64 : Nat))) (C ([a, b, c, d].getD (1 : Nat) (0 : BitVec (64 : Nat))) ([a, b, c, d].getD (1 : Nat) (0 : BitVec (64 : Nat))) (C ([a, b, c, d].getD (0 : Nat) (0 : BitVec (64 : Nat))) ([a, b, c, d].getD (0 : Nat) (0 : BitVec (64 : Nat))) bit))))).set (3 : Nat) (P (plC F [S ([a, b, c, d].getD (0 : Nat) (0 : BitVec (64 : Nat))) ([a, b, c, d].getD (0 : Nat) (0 : BitVec (64 : Nat))) bit, S ([a, b, c, d].getD (1 : Nat) (0 : BitVec (64 : Nat))) ([a, b, c, d].getD (1 : Nat) (0 : BitVec (64 : Nat))) (C ([a, b, c, d].getD (0 : Nat) (0 : BitVec (64 : Nat))) ([a, b, c, d].getD (0 : Nat) (0 : BitVec (64 : Nat))) bit), S ([a, b, c, d].getD (2 : Nat) (0 : BitVec (64 : Nat))) ([a, b, c, d].getD (2 : Nat) (0 : BitVec (64 : Nat))) (C ([a, b, c, d].getD (1 : Nat) (0 : BitVec (64 : Nat))) ([a, b, c, d].getD (1 : Nat) (0 : BitVec (64 : Nat))) (C ([a, b, c, d].getD (0 : Nat) (0 : BitVec (64 : Nat))) ([a, b, c, d].getD (0 : Nat) (0 : BitVec (64 : Nat))) bit)), S ([a, b, c, d].getD (3 : Nat) (0 : BitVec (64 : Nat))) ([a, b, c, d].getD (3 : Nat) (0 : BitVec (64 : Nat))) (C ([a, b, c, d].getD (2 : Nat) (0 : BitVec (64 : Nat))) ([a, b, c, d].getD (2 : Nat) (0 : BitVec (64 : Nat))) (C ([a, b, c, d].getD (1 : Nat) (0 : BitVec (64 : Nat))) ([a, b, c, d].getD (1 : Nat) (0 : BitVec (64 : Nat))) (C ([a, b, c, d].getD (0 : Nat) (0 : BitVec (64 : Nat))) ([a, b, c, d].getD (0 : Nat) (0 : BitVec (64 : Nat))) bit)))] WHO (4 : Nat)) (List.getD (plS D F [S ([a, b, c, d].getD (0 : Nat) (0 : BitVec (64 : Nat))) ([a, b, c, d].getD (0 : Nat) (0 : BitVec (64 : Nat))) bit, S ([a, b, c, d].getD (1 : Nat) (0 : BitVec (64 : Nat))) ([a, b, c, d].getD (1 : Nat) (0 : BitVec (64 : Nat))) (C ([a, b, c, d].getD (0 : Nat) (0 : BitVec (64 : Nat))) ([a, b, c, d].getD (0 : Nat) (0 : BitVec (64 : Nat))) bit), S ([a, b, c, d].getD (2 : Nat) (0 : BitVec (64 : Nat))) ([a, b, c, d].getD (2 : Nat) (0 : BitVec (64 : Nat))) (C ([a, b, c, d].getD (1 : Nat) (0 : BitVec (64 : Nat))) ([a, b, c, d].getD (1 : Nat) (0 : BitVec (64 : Nat))) (C ([a, b, c, d].getD (0 : Nat) (0 : BitVec (64 : Nat))) ([a, b, c, d].getD (0 : Nat) (0 : BitVec (64 : Nat))) bit)), S ([a, b, c, d].getD (3 : Nat) (0 : BitVec (64 : Nat))) ([a, b, c, d].getD (3 : Nat) (0 : BitVec (64 : Nat))) (C ([a, b, c, d].getD (2 : Nat) (0 : BitVec (64 : Nat))) ([a, b, c, d].getD (2 : Nat) (0 : BitVec (64 : Nat))) (C ([a, b, c, d].getD (1 : Nat) (0 : BitVec (64 : Nat))) ([a, b, c, d].getD (1 : Nat) (0 : BitVec (64 : Nat))) (C ([a, b, c, d].getD (0 : Nat) (0 : BitVec (64 : Nat))) ([a, b, c, d].getD (0 : Nat) (0 : BitVec (64 : Nat))) bit)))] WHO) (3 : Nat) (0 : BitVec (64 : Nat))) (S ([a, b, c, d].getD (3 : Nat) (0 : BitVec (64 : Nat))) ([a, b, c, d].getD (3 : Nat) (0 : BitVec (64 : Nat))) (C ([a, b, c, d].getD (2 : Nat) (0 : BitVec (64 : Nat))) ([a, b, c, d].getD (2 : Nat) (0 : BitVec (64 : Nat))) (C ([a, b, c, d].getD (1 : Nat) (0 : BitVec (64 : Nat))) ([a, b, c, d].getD (1 : Nat) (0 : BitVec (64 : Nat))) (C ([a, b, c, d].getD (0 : Nat) (0 : BitVec (64 : Nat))) ([a, b, c, d].getD (0 : Nat) (0 : BitVec (64 : Nat))) bit)))))) }] else False else False else False else False) := by kernel_rfl
end Go.Proofs.YtdfghknonbmadaaDoor
namespace Go.Proofs.YtdfghknonbmadaaDoor
open Go.RowKit
set_option linter.unusedVariables false
set_option linter.unusedSimpArgs false

theorem sig_oldV (b : Nat) (rs : List Nat) (k : Nat) (h : k < b) : sig b rs k = k := by
  unfold sig
  have : Nat.blt k b = true := by simpa [Nat.blt_eq] using h
  rw [this]; rfl
theorem sig_new (b : Nat) (rs : List Nat) (i : Nat) : sig b rs (b + i) = rs.getD i 0 := by
  unfold sig
  have : Nat.blt (b + i) b = false := by
    cases hq : Nat.blt (b + i) b
    · rfl
    · exact absurd (blt_lt hq) (by omega)
  rw [this, Nat.add_sub_cancel_left]; rfl
/-- Blocks that are handed lie at those places. -/
def liesK (n b : Nat) (σ : Nat → Nat) (M : Mm) : List Nat → Mm → Prop
  | [], [] => True
  | k :: ks, e :: R => (∃ r, M[k]? = some ⟨r, e.c.ren σ⟩ ∧ (e.rw = true → r = true)) ∧ (e.c.here = true ∧ e.c.wf n = true) ∧ liesK n b σ M ks R
  | _, _ => False
theorem liesK_ok {n b : Nat} {σ : Nat → Nat} {M : Mm} : ∀ (ks : List Nat) (R : Mm), liesK n b σ M ks R → ks.length = R.length ∧ ∀ (i : Nat) (e : Ent), R[i]? = some e → ∃ r, M[ks.getD i 0]? = some ⟨r, e.c.ren σ⟩ ∧ (e.rw = true → r = true) ∧ e.c.here = true ∧ e.c.wf n = true
  | [], [], h => ⟨rfl, fun i e he => by cases he⟩
  | k :: ks, e :: R, h => by
    obtain ⟨⟨r, h1, h2⟩, h3, h4⟩ := h
    obtain ⟨h5, h6⟩ := liesK_ok ks R h4
    refine ⟨by simp [h5], fun i x hx => ?_⟩
    cases i with
    | zero => obtain rfl := Option.some.inj hx; exact ⟨r, h1, h2, h3.1, h3.2⟩
    | succ i => exact h6 i x hx
  | [], _ :: _, h => h.elim
  | _ :: _, [], h => h.elim
theorem lies_of {G R M : Mm} {β : Nat → Nat} {w : World} (hR : Rel G β M w) (ks : List Nat) (hk : liesK (G.length + R.length) G.length (sig G.length ks) M ks R) (hn : ks.Nodup) : Lies G R M (sig G.length ks) := by
  obtain ⟨h1, h2⟩ := liesK_ok ks R hk
  refine ⟨hR.gl, sig_oldV _ _, fun i e he => ?_, fun i j x y hx hy hij hr => ?_⟩
  · rw [sig_new]; exact h2 i e he
  · rw [sig_new, sig_new]
    have hi : i < ks.length := by rw [h1]; exact lt_of_get hx
    have hj : j < ks.length := by rw [h1]; exact lt_of_get hy
    rw [List.getD_eq_getElem?_getD, List.getD_eq_getElem?_getD, List.getElem?_eq_getElem hi, List.getElem?_eq_getElem hj]
    intro e
    exact hij ((List.getElem_inj hn).1 e)
theorem eff_of {P : Program} {G R M : Mm} {f : Nat} {args0 args : List SV} {K0 K : SV → Mm → Prop} (ks : List Nat) (hS : Spec P G f args0 (G ++ R) K0) (hargs : args = rens (sig G.length ks) args0) (ha : SV.wf.wfs (G.length + R.length) args0 = true) (hn : ks.Nodup) (hk : liesK (G.length + R.length) G.length (sig G.length ks) M ks R) (hK : ∀ r1 M1, K0 r1 M1 → K (ren (reloc (sig G.length ks) (G ++ R).length M.length) r1) (back G R M (sig G.length ks) M1)) : Spec P G f args M K := fun β w hR hw => by
  subst hargs
  refine (lift_of hS hR (lies_of hR ks hk hn) (by rw [List.length_append]; exact ha)).mono fun v w' hh => ?_
  obtain ⟨β2, M2, r2, h1, h2, h3, r1, M1, h4, rfl, rfl⟩ := hh
  exact ⟨β2, _, _, h1, h2, h3, hK _ _ h4⟩
/-- A function that reads alone, of blocks that lie anywhere. -/
theorem pureN {P : Program} {G R : Mm} {f : Nat} {args0 args : List SV} {r0 : SV} (ks : List Nat) (hS : Spec P G f args0 (G ++ R) (fun r _ => r = r0)) (hargs : args = rens (sig G.length ks) args0) (ha : SV.wf.wfs (G.length + R.length) args0 = true) (hro : ∀ (i : Nat) (e : Ent), R[i]? = some e → e.rw = false) (hr : r0.wf 0 = true) (hn : ks.Nodup) {β : Nat → Nat} {M : Mm} {w : World} (hR : Rel G β M w) (hk : liesK (G.length + R.length) G.length (sig G.length ks) M ks R) : CallR P f (vals β args).toArray w (fun v w' => v = val β r0 ∧ Fp0 w w') := by
  subst hargs
  have := pure_of hS hR (lies_of hR ks hk hn) hro (by rw [List.length_append]; exact ha) (wf_mono (Nat.zero_le _) r0 hr)
  rw [ren_id (n := 0) (fun _ h => absurd h (by omega)) r0 hr] at this
  exact this
end Go.Proofs.YtdfghknonbmadaaDoor
namespace Go.Proofs.YtdfghknonbmadaaDoor
open Go.RowKit
set_option linter.unusedVariables false
set_option linter.unusedSimpArgs false

/-- What a round of a loop leads to: the next state, the end where q holds, or the function is left. -/
def Kt (B : Mm) (id n : Nat) (a : Prop) (i' : List (Nat × SV)) (M' : Mm) (q : Prop) (o : List (Nat × SV)) (M1 : Mm) (z : Prop) (ro : List (Nat × SV)) (Mr : Mm) : Ko := fun e fr2 M2 => match e with
  | .normal => a ∧ vLe B fr2 M2 n i' M' True
  | .exit j => j = id ∧ q ∧ vLe B fr2 M2 n o M1 True
  | .ret => z ∧ vLe B fr2 M2 n ro Mr True
  | _ => False
/-- What is said of such a loop. -/
def vLoopR (B : Mm) (n : Nat) (i0 : List (Nat × SV)) (M0 : Mm) (q : Prop) (o : List (Nat × SV)) (M1 : Mm) (z : Prop) (ro : List (Nat × SV)) (Mr : Mm) (fr : List SV) (M : Mm) (K : Ko) : Prop := vLe B fr M n i0 M0 ((q → frK n o fun fr1 => K .normal fr1 M1) ∧ (z → frK n ro fun fr1 => K .ret fr1 Mr))
theorem loop_ret {P : Program} {E : Env} (hE : EnvOk P E) (hm : P.follows .mixedOrders = true) {B : Mm} {f id : Nat} {L : LT} (hL : LOk P E.G B f L) (hG : E.G.length ≤ B.length) (hl : isLoop id (loopOf P f id) = true) {n : Nat} {q z : Prop} {o ro : List (Nat × SV)} {M1 Mr : Mm} {ι : Type} (I : ι → List (Nat × SV)) (Mi : ι → Mm) (p : ι → Prop) (μ : ι → Nat) (next : ι → ι) (i0 : ι) (hp : p i0)
    (hround : ∀ i, p i → frK n (I i) fun fr => vround P E L f id fr (Mi i) (Kt B id n (p (next i) ∧ μ (next i) < μ i) (I (next i)) (Mi (next i)) q o M1 z ro Mr)) : ∀ fr M K, vLoopR B n (I i0) (Mi i0) q o M1 z ro Mr fr M K → Wp P E.G B (loopOf P f id) fr M K := by
  intro fr M K h
  obtain ⟨h0, hK, hZ⟩ := vLe_ok h
  rw [frK_eq] at hK hZ
  have hc : loopOf P f id = .block id (.loop (body (loopOf P f id))) := by
    unfold isLoop at hl
    split at hl
    · rename_i j c he
      obtain rfl := Nat.eq_of_beq_eq_true hl
      rw [he]; rfl
    · cases hl
  refine Wp.le hG h0 ?_
  rw [hc]
  refine Wp.loop (fun m fr M => ∃ i, p i ∧ μ i = m ∧ fr = mkF n (I i) ∧ M = Mi i) (μ i0) ⟨i0, hp, rfl, rfl, rfl⟩ ?_
  rintro m fr M ⟨i, hpi, rfl, rfl, rfl⟩
  have h := hround i hpi
  rw [frK_eq] at h
  refine Wp.post hG ((vcode_ok hE (wd_of hE hm hL) _ _ _ _ h).mono fun e fr' M' hk => ?_)
  cases e with
  | normal => obtain ⟨h1, h2⟩ := hk; exact ⟨_, _, (vLe_ok h2).1, _, h1.2, next i, h1.1, rfl, rfl, rfl⟩
  | exit j => obtain ⟨h1, h2, h3⟩ := hk; exact ⟨_, _, (vLe_ok h3).1, h1, hK h2⟩
  | ret => obtain ⟨h1, h2⟩ := hk; exact ⟨_, _, (vLe_ok h2).1, hZ h1⟩
  | goto l => exact hk.elim
  | panic ch => exact hk.elim
  | outgrown => exact hk.elim
/-- A word that is worked out before it is used. -/
def fw (x : BitVec 64) (K : BitVec 64 → Prop) : Prop := Nat.rec (motive := fun _ => Prop) (K 0#64) (fun m _ => K (BitVec.ofNat 64 (m + 1))) x.toNat
theorem fw_eq (x : BitVec 64) (K : BitVec 64 → Prop) : fw x K = K x := by
  have key : ∀ n : Nat, x.toNat = n → Nat.rec (motive := fun _ => Prop) (K 0#64) (fun m _ => K (BitVec.ofNat 64 (m + 1))) n = K x := by
    intro n h
    cases n with
    | zero =>
      have : 0#64 = x := BitVec.eq_of_toNat_eq (by rw [h]; rfl)
      exact congrArg K this
    | succ m =>
      have : BitVec.ofNat 64 (m + 1) = x := BitVec.eq_of_toNat_eq (by rw [h, BitVec.toNat_ofNat]; have := x.isLt; omega)
      exact congrArg K this
  exact key x.toNat rfl
def fl : List (BitVec 64) → (List (BitVec 64) → Prop) → Prop
  | [], K => K []
  | x :: l, K => fw x fun y => fl l fun m => K (y :: m)
theorem fl_eq : ∀ (l : List (BitVec 64)) (K : List (BitVec 64) → Prop), fl l K = K l
  | [], K => rfl
  | x :: l, K => by rw [fl, fw_eq, fl_eq l]
end Go.Proofs.YtdfghknonbmadaaDoor
namespace Go.Proofs.YtdfghknonbmadaaDoor
open Go.RowKit
set_option linter.unusedVariables false
set_option linter.unusedSimpArgs false

theorem loop_nextL {P : Program} {E : Env} (hE : EnvOk P E) (hm : P.follows .mixedOrders = true) {B : Mm} {f id : Nat} (hG : E.G.length ≤ B.length) (hl : isLoop id (loopOf P f id) = true) {n : Nat} {o : List (Nat × SV)} {M1 : Mm} {ι : Type} {L : ι → LT} (hL : ∀ i, LOk P E.G B f (L i)) (I : ι → List (Nat × SV)) (Mi : ι → Mm) (p : ι → Prop) (μ : ι → Nat) (next : ι → ι) (i0 : ι) (hp : p i0)
    (hround : ∀ i, p i → frK n (I i) fun fr => vround P E (L i) f id fr (Mi i) (Kn B id n (p (next i) ∧ μ (next i) < μ i) (I (next i)) (Mi (next i)) o M1)) : ∀ fr M K, vLoop B n (I i0) (Mi i0) o M1 fr M K → Wp P E.G B (loopOf P f id) fr M K := by
  intro fr M K h
  obtain ⟨h0, hK⟩ := vLoop_ok h
  have hc : loopOf P f id = .block id (.loop (body (loopOf P f id))) := by
    unfold isLoop at hl
    split at hl
    · rename_i j c he
      obtain rfl := Nat.eq_of_beq_eq_true hl
      rw [he]; rfl
    · cases hl
  refine Wp.le hG h0 ?_
  rw [hc]
  refine Wp.loop (fun m fr M => ∃ i, p i ∧ μ i = m ∧ fr = mkF n (I i) ∧ M = Mi i) (μ i0) ⟨i0, hp, rfl, rfl, rfl⟩ ?_
  rintro m fr M ⟨i, hpi, rfl, rfl, rfl⟩
  have h := hround i hpi
  rw [frK_eq] at h
  refine Wp.post hG ((vcode_ok hE (wd_of hE hm (hL i)) _ _ _ _ h).mono fun e fr' M' hk => ?_)
  cases e with
  | normal => obtain ⟨h1, h2⟩ := hk; exact ⟨_, _, (vLe_ok h2).1, _, h1.2, next i, h1.1, rfl, rfl, rfl⟩
  | exit j => obtain ⟨h1, h2⟩ := hk; exact ⟨_, _, (vLe_ok h2).1, h1, hK⟩
  | ret => exact hk.elim
  | goto l => exact hk.elim
  | panic ch => exact hk.elim
  | outgrown => exact hk.elim
end Go.Proofs.YtdfghknonbmadaaDoor
