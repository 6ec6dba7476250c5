/-
  num: powers, word by word. No statement is proved here.
-/
import Derived.Test.YtdfghknonbmadaaDoorEwA
namespace Go.Proofs.YtdfghknonbmadaaDoor
open Go.RowKit
set_option linter.unusedVariables false
set_option linter.unusedSimpArgs false
set_option maxRecDepth 100000

def Ej1 (M : W6 → W6 → W6) : Env := ⟨GE, noT.add 36 (ct2 M), noC⟩
/-- Squared, and squared again. -/
def sqX (M : W6 → W6 → W6) (f : W6) : Nat → W6
  | 0 => f
  | j + 1 => M (w4 (sqX M f j)) (w4 (sqX M f j))
def MJ (f s : W6) : Mm := [⟨false, .a64 BEG⟩, ⟨false, .a64 PRI⟩, ⟨false, .a64 CON⟩, ⟨false, .a64 WHO⟩, ⟨false, .a64 ROM⟩, ⟨true, .a64 (w4 f)⟩, ⟨true, .a64 (w4 s)⟩, ⟨true, .a64 (List.replicate 4 0)⟩]
def iJ (n j : Nat) : List (Nat × SV) := [(3, .ptr 5 0), (4, .ptr 6 0), (6, .ptr 7 0), (7, .i (n : Nat)), (8, .i (j : Nat))]
def oJ : List (Nat × SV) := [(3, .ptr 5 0), (4, .ptr 6 0), (6, .ptr 7 0)]
def LJ (n : Nat) (f x s : W6) : LT := noL.add 0 (vLoop GE 17 (iJ n 0) (MJ f s) oJ (MJ x s))
theorem vaJ (M : W6 → W6 → W6) (f x s : W6) (n : Nat) (K : SV → Mm → Prop) : (vf Tryd.prog (Ej1 M) (LJ n f x s) 88 [.a64 (w4 f), .a64 (w4 s), .i (n : Nat)] GE K) = (loopOf Tryd.prog (88 : Nat) (0 : Nat) = loopOf Tryd.prog (88 : Nat) (0 : Nat) ∧ SV.ptr (5 : Nat) (0 : Nat) = SV.ptr (5 : Nat) (0 : Nat) ∧ SV.ptr ((0 : Nat) + (1 : Nat) + (1 : Nat) + (1 : Nat) + (1 : Nat) + (1 : Nat) + (1 : Nat)) (0 : Nat) = SV.ptr (6 : Nat) (0 : Nat) ∧ SV.ptr ((0 : Nat) + (1 : Nat) + (1 : Nat) + (1 : Nat) + (1 : Nat) + (1 : Nat) + (1 : Nat) + (1 : Nat)) (0 : Nat) = SV.ptr (7 : Nat) (0 : Nat) ∧ SV.i (↑n : Int) = SV.i (↑n : Int) ∧ SV.i (0 : Int) = SV.i (↑(0 : Nat) : Int) ∧ (false = false ∧ Cont.a64 BEG = Cont.a64 BEG) ∧ (false = false ∧ Cont.a64 PRI = Cont.a64 PRI) ∧ (false = false ∧ Cont.a64 CON = Cont.a64 CON) ∧ (false = false ∧ Cont.a64 WHO = Cont.a64 WHO) ∧ (false = false ∧ Cont.a64 ROM = Cont.a64 ROM) ∧ (true = true ∧ Cont.a64 (w4 f) = Cont.a64 (w4 f)) ∧ (true = true ∧ Cont.a64 (w4 s) = Cont.a64 (w4 s)) ∧ (true = true ∧ Cont.a64 (List.replicate (4 : Nat) (0 : BitVec (64 : Nat))) = Cont.a64 (List.replicate (4 : Nat) (0 : BitVec (64 : Nat)))) ∧ K (SV.a64 (List.take (4 : Nat) (List.drop (0 : Nat) (w4 (M [List.getD x (0 : Nat) (0 : BitVec (64 : Nat)), List.getD x (1 : Nat) (0 : BitVec (64 : Nat)), List.getD x (2 : Nat) (0 : BitVec (64 : Nat)), List.getD x (3 : Nat) (0 : BitVec (64 : Nat))] [List.getD s (0 : Nat) (0 : BitVec (64 : Nat)), List.getD s (1 : Nat) (0 : BitVec (64 : Nat)), List.getD s (2 : Nat) (0 : BitVec (64 : Nat)), List.getD s (3 : Nat) (0 : BitVec (64 : Nat))]))))) [{ rw := false, c := Cont.a64 BEG }, { rw := false, c := Cont.a64 PRI }, { rw := false, c := Cont.a64 CON }, { rw := false, c := Cont.a64 WHO }, { rw := false, c := Cont.a64 ROM }, { rw := true, c := Cont.a64 (w4 x) }, { rw := true, c := Cont.a64 (w4 s) }, { rw := true, c := Cont.a64 (w4 (M [List.getD x (0 : Nat) (0 : BitVec (64 : Nat)), List.getD x (1 : Nat) (0 : BitVec (64 : Nat)), List.getD x (2 : Nat) (0 : BitVec (64 : Nat)), List.getD x (3 : Nat) (0 : BitVec (64 : Nat))] [List.getD s (0 : Nat) (0 : BitVec (64 : Nat)), List.getD s (1 : Nat) (0 : BitVec (64 : Nat)), List.getD s (2 : Nat) (0 : BitVec (64 : Nat)), List.getD s (3 : Nat) (0 : BitVec (64 : Nat))])) }]) := by kernel_rfl
theorem vrJ (M : W6 → W6 → W6) (f x z s : W6) (n j : Nat) (p : Prop) : (frK 17 (iJ n j) fun fr => vround Tryd.prog (Ej1 M) noL 88 0 fr (MJ f s) (Kn GE 0 17 p (iJ n (j + 1)) (MJ x s) oJ (MJ z s))) = (bif ilt (↑j : Int) (↑n : Int) then bif inI ((↑j : Int) + (1 : Int)) then p ∧ SV.ptr (5 : Nat) (0 : Nat) = SV.ptr (5 : Nat) (0 : Nat) ∧ SV.ptr (6 : Nat) (0 : Nat) = SV.ptr (6 : Nat) (0 : Nat) ∧ SV.ptr (7 : Nat) (0 : Nat) = SV.ptr (7 : Nat) (0 : Nat) ∧ SV.i (↑n : Int) = SV.i (↑n : Int) ∧ SV.i ((↑j : Int) + (1 : Int)) = SV.i (↑(j + (1 : Nat)) : Int) ∧ (false = false ∧ Cont.a64 BEG = Cont.a64 BEG) ∧ (false = false ∧ Cont.a64 PRI = Cont.a64 PRI) ∧ (false = false ∧ Cont.a64 CON = Cont.a64 CON) ∧ (false = false ∧ Cont.a64 WHO = Cont.a64 WHO) ∧ (false = false ∧ Cont.a64 ROM = Cont.a64 ROM) ∧ (true = true ∧ Cont.a64 (w4 (M [List.getD f (0 : Nat) (0 : BitVec (64 : Nat)), List.getD f (1 : Nat) (0 : BitVec (64 : Nat)), List.getD f (2 : Nat) (0 : BitVec (64 : Nat)), List.getD f (3 : Nat) (0 : BitVec (64 : Nat))] [List.getD f (0 : Nat) (0 : BitVec (64 : Nat)), List.getD f (1 : Nat) (0 : BitVec (64 : Nat)), List.getD f (2 : Nat) (0 : BitVec (64 : Nat)), List.getD f (3 : Nat) (0 : BitVec (64 : Nat))])) = Cont.a64 (w4 x)) ∧ (true = true ∧ Cont.a64 (w4 s) = Cont.a64 (w4 s)) ∧ (true = true ∧ Cont.a64 (List.replicate (4 : Nat) (0 : BitVec (64 : Nat))) = Cont.a64 (List.replicate (4 : Nat) (0 : BitVec (64 : Nat)))) ∧ True else False else (0 : Nat) = (0 : Nat) ∧ SV.ptr (5 : Nat) (0 : Nat) = SV.ptr (5 : Nat) (0 : Nat) ∧ SV.ptr (6 : Nat) (0 : Nat) = SV.ptr (6 : Nat) (0 : Nat) ∧ SV.ptr (7 : Nat) (0 : Nat) = SV.ptr (7 : Nat) (0 : Nat) ∧ (false = false ∧ Cont.a64 BEG = Cont.a64 BEG) ∧ (false = false ∧ Cont.a64 PRI = Cont.a64 PRI) ∧ (false = false ∧ Cont.a64 CON = Cont.a64 CON) ∧ (false = false ∧ Cont.a64 WHO = Cont.a64 WHO) ∧ (false = false ∧ Cont.a64 ROM = Cont.a64 ROM) ∧ (true = true ∧ Cont.a64 (w4 f) = Cont.a64 (w4 z)) ∧ (true = true ∧ Cont.a64 (w4 s) = Cont.a64 (w4 s)) ∧ (true = true ∧ Cont.a64 (List.replicate (4 : Nat) (0 : BitVec (64 : Nat))) = Cont.a64 (List.replicate (4 : Nat) (0 : BitVec (64 : Nat)))) ∧ True) := by kernel_rfl
end Go.Proofs.YtdfghknonbmadaaDoor
namespace Go.Proofs.YtdfghknonbmadaaDoor
open Go.RowKit
set_option linter.unusedVariables false
set_option linter.unusedSimpArgs false
set_option maxRecDepth 100000

theorem mixed : Tryd.prog.follows .mixedOrders = true := by kernel_rfl
/-- What a function answers, from its reckoning. -/
theorem pok_e {T : PT} {C : CT} (hE : EnvOk Tryd.prog ⟨GE, T, C⟩) {f : Nat} {args : List SV} {r : SV} (h : vf Tryd.prog ⟨GE, T, C⟩ noL f args GE (fun r' _ => r' = r)) (ha : SV.wf.wfs 0 args = true) (hr : r.wf 0 = true) {β : Nat → Nat} {M : Mm} {w : World} (hR : Rel GE β M w) : CallR Tryd.prog f (vals β args).toArray w (fun v w' => v = val β r ∧ Fp0 w w') := pure0 (vf_ok hE mixed (noL_ok _ _ _ _) h) ha hr hR
theorem pok2 {T : PT} {C : CT} (hE : EnvOk Tryd.prog ⟨GE, T, C⟩) {f : Nat} {F : W6 → W6 → W6} (h : ∀ a b : W6, vf Tryd.prog ⟨GE, T, C⟩ noL f [.a64 (w4 a), .a64 (w4 b)] GE (fun r _ => r = .a64 (w4 (F (w4 a) (w4 b))))) : POk Tryd.prog GE f (ct2 F) := by
  intro args acs r hh β M w hR hw ha
  unfold ct2 at hh
  split at hh
  · rename_i a b c d e f g i
    simp only [Option.some.injEq, Prod.mk.injEq, true_and] at hh
    subst hh
    exact pok_e hE (h [a, b, c, d] [e, f, g, i]) rfl rfl hR
  · cases hh
theorem lc0 : lc z6 = true := rfl
theorem lc_pl (a b : W6) : ∀ i, lc (plC adC a b i) = true
  | 0 => rfl
  | i + 1 => lc_ad _ _ _ (lc_pl a b i)
theorem lc_mi (a b : W6) : ∀ i, lc (plC sbC a b i) = true
  | 0 => rfl
  | i + 1 => lc_sb _ _ _
theorem lc_fd (w : W6) (t : B6) : ∀ i, lc (fdC adC w t i) = true
  | 0 => rfl
  | 1 => lc_ad _ _ _ lc0
  | i + 2 => lc_ad _ _ _ (lc_fd w t (i + 1))
theorem plus_ok : POk Tryd.prog GE 76 (ct2 (plS adS adC)) := pok2 en_ok fun a b => of_eq (plus_e adS adC sbS sbC a b) (bif_of (lc_pl _ _ 1) (bif_of (lc_pl _ _ 2) (bif_of (lc_pl _ _ 3) rfl)))
theorem minus_ok : POk Tryd.prog GE 53 (cMn sbS sbC) := by
  intro args acs r hh β M w hR hw ha
  unfold cMn at hh
  split at hh
  · rename_i a b c d e f g i
    simp only [Option.some.injEq, Prod.mk.injEq, true_and] at hh
    subst hh
    exact pok_e en_ok (of_eq (minus_e adS adC sbS sbC [a, b, c, d] [e, f, g, i]) (bif_of (lc_mi _ _ 1) (bif_of (lc_mi _ _ 2) (bif_of (lc_mi _ _ 3) rfl)))) rfl rfl hR
  · cases hh
theorem pick_ok : POk Tryd.prog GE 77 (cPk pkW) := by
  intro args acs r hh β M w hR hw ha
  unfold cPk at hh
  split at hh
  · rename_i m a b c d e f g i
    simp only [Option.some.injEq, Prod.mk.injEq, true_and] at hh
    subst hh
    exact pok_e en_ok (of_eq (pick_e adS adC sbS sbC m [a, b, c, d] [e, f, g, i]) rfl) rfl rfl hR
  · cases hh
theorem mul64_ok : POk Tryd.prog GE 84 (cMl hiK (· * ·)) := by
  intro args acs r hh β M w hR hw ha
  unfold cMl at hh
  split at hh
  · rename_i x y
    simp only [Option.some.injEq, Prod.mk.injEq, true_and] at hh
    subst hh
    exact pok_e en_ok (of_eq (mul64_e adS adC sbS sbC x y) rfl) rfl rfl hR
  · cases hh
theorem alike_ok : POk Tryd.prog GE 62 (cAl alW) := by
  intro args acs r hh β M w hR hw ha
  unfold cAl at hh
  split at hh
  · rename_i a b c d e f g i
    simp only [Option.some.injEq, Prod.mk.injEq, true_and] at hh
    subst hh
    exact pok_e en_ok (of_eq (alike_e adS adC sbS sbC [a, b, c, d] [e, f, g, i]) rfl) rfl rfl hR
  · cases hh
theorem en1_ok : EnvOk Tryd.prog (EN1 adS adC sbS sbC hiK (· * ·) pkW) := ⟨PT.add_ok (PT.add_ok (PT.add_ok en_ok.T mul64_ok) minus_ok) pick_ok, noC_ok _ _⟩
abbrev blX : W6 → W6 := blW sbS sbC pkW
theorem below_ok : POk Tryd.prog GE 78 (cBl blX) := by
  intro args acs r hh β M w hR hw ha
  unfold cBl at hh
  split at hh
  · rename_i a b c d
    simp only [Option.some.injEq, Prod.mk.injEq, true_and] at hh
    subst hh
    exact pok_e en1_ok (of_eq (below_e adS adC sbS sbC hiK (· * ·) pkW [a, b, c, d]) rfl) rfl rfl hR
  · cases hh
abbrev stLX : T4 := stL adS (· * ·)
abbrev stHX : T4 := stH adS adC hiK (· * ·)
theorem step_ok : POk Tryd.prog GE 87 (cSp stLX stHX) := by
  intro args acs r hh β M w hR hw ha
  unfold cSp at hh
  split at hh
  · rename_i x y s c
    simp only [Option.some.injEq, Prod.mk.injEq, true_and] at hh
    subst hh
    exact pok_e en1_ok (of_eq (step_e adS adC sbS sbC hiK (· * ·) pkW x y s c) rfl) rfl rfl hR
  · cases hh
theorem en2_ok : EnvOk Tryd.prog (EN2 adS adC stLX stHX blX) := ⟨PT.add_ok (PT.add_ok (PT.add_ok (noT_ok _ _) add64_ok) step_ok) below_ok, noC_ok _ _⟩
abbrev rwX : B6 → W6 → W6 → W6 := rwL stLX stHX
theorem row_ok : POk Tryd.prog GE 82 (cRw rwX) := by
  intro args acs r hh β M w hR hw ha
  unfold cRw at hh
  split at hh
  · rename_i x b0 b1 b2 b3 s0 s1 s2 s3
    simp only [Option.some.injEq, Prod.mk.injEq, true_and] at hh
    subst hh
    exact pok_e en2_ok (of_eq (row_e adS adC stLX stHX blX x b0 b1 b2 b3 s0 s1 s2 s3) rfl) rfl rfl hR
  · cases hh
abbrev fdX : W6 → B6 → W6 := fdW adS adC blX
theorem fold_ok : POk Tryd.prog GE 75 (cFd fdX) := by
  intro args acs r hh β M w hR hw ha
  unfold cFd at hh
  split at hh
  · rename_i a b c d t
    simp only [Option.some.injEq, Prod.mk.injEq, true_and] at hh
    subst hh
    exact pok_e en2_ok (of_eq (fold_e adS adC stLX stHX blX [a, b, c, d] t) (bif_of (lc_fd _ _ 1) (bif_of (lc_fd _ _ 2) rfl))) rfl rfl hR
  · cases hh
theorem en3_ok : EnvOk Tryd.prog (EN3 rwX fdX) := ⟨PT.add_ok (PT.add_ok (noT_ok _ _) row_ok) fold_ok, noC_ok _ _⟩
abbrev tmX : W6 → W6 → W6 := tmW rwX fdX
theorem times_ok : POk Tryd.prog GE 61 (ct2 tmX) := pok2 en3_ok fun a b => of_eq (times_e rwX fdX a b) rfl
end Go.Proofs.YtdfghknonbmadaaDoor
