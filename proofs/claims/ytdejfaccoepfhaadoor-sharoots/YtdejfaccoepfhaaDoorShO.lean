/-
  sha: the document's roots, as it reckons them. No statement is proved here.
-/
import Derived.Test.YtdejfaccoepfhaaDoorShN
namespace Go.Proofs.YtdejfaccoepfhaaDoor
open Go.RowKit
set_option linter.unusedVariables false
set_option linter.unusedSimpArgs false
set_option maxRecDepth 100000

/-- One bit more. -/
def bitOf (x : List (BitVec 64)) (k : Nat) : List (BitVec 64) := x.set (k / 24) (x.getD (k / 24) 0 ||| BitVec.ofInt 64 1 <<< (k % 24))
def pw (t : Bool) (y : List (BitVec 64)) : List (BitVec 64) := bif t then tms (tms y y) y else tms y y
def rt1 (t : Bool) (aim x : List (BitVec 64)) (k : Nat) : List (BitVec 64) := bif abvF (pw t (bitOf x k)) aim 14 then x else bitOf x k
def rts (t : Bool) (aim : List (BitVec 64)) : Nat → List (BitVec 64)
  | 0 => List.replicate 14 0
  | j + 1 => rt1 t aim (rts t aim j) (70 - j)
def aimC (p : BitVec 64) : List (BitVec 64) := (List.replicate 14 0).set 8 p
def aimS (p : BitVec 64) : List (BitVec 64) := ((((aimC p).set 8 0).set 5 (p <<< 8)).set 6 ((p <<< 8) >>> 24)).set 5 (p <<< 8 &&& BitVec.ofInt 64 16777215)
def M11 (aim x : List (BitVec 64)) : Mm := [⟨false, .a64 H0⟩, ⟨false, .a64 K80⟩, ⟨true, .a64 aim⟩, ⟨true, .a64 x⟩]
def i11 (t : Bool) (j : Nat) : List (Nat × SV) := [(1, .b t), (5, .ptr 2 0), (6, .ptr 3 0), (7, .i (70 - (j : Int)))]
def o11 : List (Nat × SV) := [(6, .ptr 3 0)]
def L11 (t : Bool) (aim x : List (BitVec 64)) : LT := noL.add 0 (vLoop G 65 (i11 t 0) (M11 aim (List.replicate 14 0)) o11 (M11 aim x))
theorem vc11 (D : List (List (BitVec 8)) → List (BitVec 8)) (R : List (BitVec 8) → List (BitVec 8)) (p : BitVec 64) (aim x : List (BitVec 64)) (K : SV → Mm → Prop) : (vf Tryd.prog (E9 D R) (L11 true aim x) 11 [.w64 p, .b true] G K) = (loopOf Tryd.prog 11 0 = loopOf Tryd.prog 11 0 ∧ SV.b true = SV.b true ∧ SV.ptr 2 0 = SV.ptr 2 0 ∧ SV.ptr (0 + 1 + 1 + 1) 0 = SV.ptr 3 0 ∧ SV.i 70 = SV.i (70 - (↑0 : Int)) ∧ (false = false ∧ Cont.a64 H0 = Cont.a64 H0) ∧ (false = false ∧ Cont.a64 K80 = Cont.a64 K80) ∧ (true = true ∧ Cont.a64 ((List.replicate 14 0).set 8 p) = Cont.a64 aim) ∧ (true = true ∧ Cont.a64 (List.replicate 14 0) = Cont.a64 (List.replicate 14 0)) ∧ bif Nat.blt 0 x.length then bif Nat.blt 1 x.length then bif Nat.blt 2 x.length then K (SV.w64 (x.getD 0 0 ||| x.getD 1 0 <<< 24 ||| x.getD 2 0 <<< 48)) (M11 aim x) else False else False else False) := by kernel_rfl
theorem vc11s (D : List (List (BitVec 8)) → List (BitVec 8)) (R : List (BitVec 8) → List (BitVec 8)) (p : BitVec 64) (aim x : List (BitVec 64)) (K : SV → Mm → Prop) : (vf Tryd.prog (E9 D R) (L11 false aim x) 11 [.w64 p, .b false] G K) = (loopOf Tryd.prog 11 0 = loopOf Tryd.prog 11 0 ∧ SV.b false = SV.b false ∧ SV.ptr 2 0 = SV.ptr 2 0 ∧ SV.ptr (0 + 1 + 1 + 1) 0 = SV.ptr 3 0 ∧ SV.i 70 = SV.i (70 - (↑0 : Int)) ∧ (false = false ∧ Cont.a64 H0 = Cont.a64 H0) ∧ (false = false ∧ Cont.a64 K80 = Cont.a64 K80) ∧ (true = true ∧ Cont.a64 ((((((List.replicate 14 0).set 8 p).set 8 (BitVec.ofInt 64 0)).set 5 (p <<< 8)).set 6 (((((List.replicate 14 0).set 8 p).set 8 (BitVec.ofInt 64 0)).set 5 (p <<< 8)).getD 5 0 >>> 24)).set 5 ((((((List.replicate 14 0).set 8 p).set 8 (BitVec.ofInt 64 0)).set 5 (p <<< 8)).set 6 (((((List.replicate 14 0).set 8 p).set 8 (BitVec.ofInt 64 0)).set 5 (p <<< 8)).getD 5 0 >>> 24)).getD 5 0 &&& BitVec.ofInt 64 16777215)) = Cont.a64 aim) ∧ (true = true ∧ Cont.a64 (List.replicate 14 0) = Cont.a64 (List.replicate 14 0)) ∧ bif Nat.blt 0 x.length then bif Nat.blt 1 x.length then bif Nat.blt 2 x.length then K (SV.w64 (x.getD 0 0 ||| x.getD 1 0 <<< 24 ||| x.getD 2 0 <<< 48)) (M11 aim x) else False else False else False) := by kernel_rfl
theorem vr11 (D : List (List (BitVec 8)) → List (BitVec 8)) (R : List (BitVec 8) → List (BitVec 8)) (t : Bool) (aim x x' z : List (BitVec 64)) (j : Nat) (a : Prop) : (frK 65 (i11 t j) fun fr => vround Tryd.prog (E9 D R) noL 11 0 fr (M11 aim x) (Kn G 0 65 a (i11 t (j + 1)) (M11 aim x') o11 (M11 aim z))) = (bif ile 0 (70 - (↑j : Int)) then bif x.length.beq 14 then bif x.length.beq 14 && x.length.beq 14 then bif inI (70 - (↑j : Int)) then bif inI (70 - (↑j : Int)) then bif inR ((70 - (↑j : Int)).tdiv 24) 14 then bif ((70 - (↑j : Int)).tdiv 24).toNat.blt x.length then bif inR ((70 - (↑j : Int)).tdiv 24) 14 then bif ((70 - (↑j : Int)).tdiv 24).toNat.blt x.length then bif (x.set ((70 - (↑j : Int)).tdiv 24).toNat (x.getD ((70 - (↑j : Int)).tdiv 24).toNat 0 ||| BitVec.ofInt 64 1 <<< (BitVec.ofInt 64 ((70 - (↑j : Int)).tmod 24)).toNat)).length.beq 14 then bif (x.set ((70 - (↑j : Int)).tdiv 24).toNat (x.getD ((70 - (↑j : Int)).tdiv 24).toNat 0 ||| BitVec.ofInt 64 1 <<< (BitVec.ofInt 64 ((70 - (↑j : Int)).tmod 24)).toNat)).length.beq 14 then bif (x.set ((70 - (↑j : Int)).tdiv 24).toNat (x.getD ((70 - (↑j : Int)).tdiv 24).toNat 0 ||| BitVec.ofInt 64 1 <<< (BitVec.ofInt 64 ((70 - (↑j : Int)).tmod 24)).toNat)).length.beq 14 && (x.set ((70 - (↑j : Int)).tdiv 24).toNat (x.getD ((70 - (↑j : Int)).tdiv 24).toNat 0 ||| BitVec.ofInt 64 1 <<< (BitVec.ofInt 64 ((70 - (↑j : Int)).tmod 24)).toNat)).length.beq 14 then bif t then bif (x.set ((70 - (↑j : Int)).tdiv 24).toNat (x.getD ((70 - (↑j : Int)).tdiv 24).toNat 0 ||| BitVec.ofInt 64 1 <<< (BitVec.ofInt 64 ((70 - (↑j : Int)).tmod 24)).toNat)).length.beq 14 then bif (x.set ((70 - (↑j : Int)).tdiv 24).toNat (x.getD ((70 - (↑j : Int)).tdiv 24).toNat 0 ||| BitVec.ofInt 64 1 <<< (BitVec.ofInt 64 ((70 - (↑j : Int)).tmod 24)).toNat)).length.beq 14 then bif aim.length.beq 14 then bif aim.length.beq 14 then bif !abvF (tms (tms (x.set ((70 - (↑j : Int)).tdiv 24).toNat (x.getD ((70 - (↑j : Int)).tdiv 24).toNat 0 ||| BitVec.ofInt 64 1 <<< (BitVec.ofInt 64 ((70 - (↑j : Int)).tmod 24)).toNat)) (x.set ((70 - (↑j : Int)).tdiv 24).toNat (x.getD ((70 - (↑j : Int)).tdiv 24).toNat 0 ||| BitVec.ofInt 64 1 <<< (BitVec.ofInt 64 ((70 - (↑j : Int)).tmod 24)).toNat))) (x.set ((70 - (↑j : Int)).tdiv 24).toNat (x.getD ((70 - (↑j : Int)).tdiv 24).toNat 0 ||| BitVec.ofInt 64 1 <<< (BitVec.ofInt 64 ((70 - (↑j : Int)).tmod 24)).toNat))) aim 14 then bif (x.set ((70 - (↑j : Int)).tdiv 24).toNat (x.getD ((70 - (↑j : Int)).tdiv 24).toNat 0 ||| BitVec.ofInt 64 1 <<< (BitVec.ofInt 64 ((70 - (↑j : Int)).tmod 24)).toNat)).length.beq 14 then bif (x.set ((70 - (↑j : Int)).tdiv 24).toNat (x.getD ((70 - (↑j : Int)).tdiv 24).toNat 0 ||| BitVec.ofInt 64 1 <<< (BitVec.ofInt 64 ((70 - (↑j : Int)).tmod 24)).toNat)).length.beq x.length && (x.set ((70 - (↑j : Int)).tdiv 24).toNat (x.getD ((70 - (↑j : Int)).tdiv 24).toNat 0 ||| BitVec.ofInt 64 1 <<< (BitVec.ofInt 64 ((70 - (↑j : Int)).tmod 24)).toNat)).length.beq 14 then bif inI (70 - (↑j : Int) - 1) then a ∧ SV.b t = SV.b t ∧ SV.ptr 2 0 = SV.ptr 2 0 ∧ SV.ptr 3 0 = SV.ptr 3 0 ∧ SV.i (70 - (↑j : Int) - 1) = SV.i (70 - (↑(j + 1) : Int)) ∧ (false = false ∧ Cont.a64 H0 = Cont.a64 H0) ∧ (false = false ∧ Cont.a64 K80 = Cont.a64 K80) ∧ (true = true ∧ Cont.a64 aim = Cont.a64 aim) ∧ (true = true ∧ Cont.a64 (x.set ((70 - (↑j : Int)).tdiv 24).toNat (x.getD ((70 - (↑j : Int)).tdiv 24).toNat 0 ||| BitVec.ofInt 64 1 <<< (BitVec.ofInt 64 ((70 - (↑j : Int)).tmod 24)).toNat)) = Cont.a64 x') ∧ True else False else False else False else bif inI (70 - (↑j : Int) - 1) then a ∧ SV.b t = SV.b t ∧ SV.ptr 2 0 = SV.ptr 2 0 ∧ SV.ptr 3 0 = SV.ptr 3 0 ∧ SV.i (70 - (↑j : Int) - 1) = SV.i (70 - (↑(j + 1) : Int)) ∧ (false = false ∧ Cont.a64 H0 = Cont.a64 H0) ∧ (false = false ∧ Cont.a64 K80 = Cont.a64 K80) ∧ (true = true ∧ Cont.a64 aim = Cont.a64 aim) ∧ (true = true ∧ Cont.a64 x = Cont.a64 x') ∧ True else False else False else False else False else False else bif aim.length.beq 14 then bif aim.length.beq 14 then bif !abvF (tms (x.set ((70 - (↑j : Int)).tdiv 24).toNat (x.getD ((70 - (↑j : Int)).tdiv 24).toNat 0 ||| BitVec.ofInt 64 1 <<< (BitVec.ofInt 64 ((70 - (↑j : Int)).tmod 24)).toNat)) (x.set ((70 - (↑j : Int)).tdiv 24).toNat (x.getD ((70 - (↑j : Int)).tdiv 24).toNat 0 ||| BitVec.ofInt 64 1 <<< (BitVec.ofInt 64 ((70 - (↑j : Int)).tmod 24)).toNat))) aim 14 then bif (x.set ((70 - (↑j : Int)).tdiv 24).toNat (x.getD ((70 - (↑j : Int)).tdiv 24).toNat 0 ||| BitVec.ofInt 64 1 <<< (BitVec.ofInt 64 ((70 - (↑j : Int)).tmod 24)).toNat)).length.beq 14 then bif (x.set ((70 - (↑j : Int)).tdiv 24).toNat (x.getD ((70 - (↑j : Int)).tdiv 24).toNat 0 ||| BitVec.ofInt 64 1 <<< (BitVec.ofInt 64 ((70 - (↑j : Int)).tmod 24)).toNat)).length.beq x.length && (x.set ((70 - (↑j : Int)).tdiv 24).toNat (x.getD ((70 - (↑j : Int)).tdiv 24).toNat 0 ||| BitVec.ofInt 64 1 <<< (BitVec.ofInt 64 ((70 - (↑j : Int)).tmod 24)).toNat)).length.beq 14 then bif inI (70 - (↑j : Int) - 1) then a ∧ SV.b t = SV.b t ∧ SV.ptr 2 0 = SV.ptr 2 0 ∧ SV.ptr 3 0 = SV.ptr 3 0 ∧ SV.i (70 - (↑j : Int) - 1) = SV.i (70 - (↑(j + 1) : Int)) ∧ (false = false ∧ Cont.a64 H0 = Cont.a64 H0) ∧ (false = false ∧ Cont.a64 K80 = Cont.a64 K80) ∧ (true = true ∧ Cont.a64 aim = Cont.a64 aim) ∧ (true = true ∧ Cont.a64 (x.set ((70 - (↑j : Int)).tdiv 24).toNat (x.getD ((70 - (↑j : Int)).tdiv 24).toNat 0 ||| BitVec.ofInt 64 1 <<< (BitVec.ofInt 64 ((70 - (↑j : Int)).tmod 24)).toNat)) = Cont.a64 x') ∧ True else False else False else False else bif inI (70 - (↑j : Int) - 1) then a ∧ SV.b t = SV.b t ∧ SV.ptr 2 0 = SV.ptr 2 0 ∧ SV.ptr 3 0 = SV.ptr 3 0 ∧ SV.i (70 - (↑j : Int) - 1) = SV.i (70 - (↑(j + 1) : Int)) ∧ (false = false ∧ Cont.a64 H0 = Cont.a64 H0) ∧ (false = false ∧ Cont.a64 K80 = Cont.a64 K80) ∧ (true = true ∧ Cont.a64 aim = Cont.a64 aim) ∧ (true = true ∧ Cont.a64 x = Cont.a64 x') ∧ True else False else False else False else False else False else False else False else False else False else False else False else False else False else False else 0 = 0 ∧ SV.ptr 3 0 = SV.ptr 3 0 ∧ (false = false ∧ Cont.a64 H0 = Cont.a64 H0) ∧ (false = false ∧ Cont.a64 K80 = Cont.a64 K80) ∧ (true = true ∧ Cont.a64 aim = Cont.a64 aim) ∧ (true = true ∧ Cont.a64 x = Cont.a64 z) ∧ True) := by kernel_rfl
theorem bit_len (x : List (BitVec 64)) (k : Nat) : (bitOf x k).length = x.length := by unfold bitOf; rw [List.length_set]
theorem rts_len (t : Bool) (aim : List (BitVec 64)) : ∀ j, (rts t aim j).length = 14
  | 0 => rfl
  | j + 1 => by
    rw [rts, rt1]
    cases abvF (pw t (bitOf (rts t aim j) (70 - j))) aim 14
    · exact (bit_len _ _).trans (rts_len t aim j)
    · exact rts_len t aim j
theorem loop11 (t : Bool) (aim : List (BitVec 64)) (ha : aim.length = 14) : LOk Tryd.prog G G 11 (L11 t aim (rts t aim 71)) := by
  refine LT.add_ok (noL_ok _ _ _ _) (loop_next e9_ok mixed (noL_ok _ _ _ _) (Nat.le_refl _) (by kernel_rfl) (fun j => i11 t j) (fun j => M11 aim (rts t aim j)) (fun j => j ≤ 71) (fun j => 71 - j) (fun j => j + 1) 0 (Nat.zero_le _) fun j hj => of_eq (vr11 _ _ t aim _ _ _ j _) ?_)
  have hx := rts_len t aim j
  cases hc : ile 0 (70 - (j : Int))
  · have hj2 : j = 71 := by rw [ile_eq] at hc; have := of_decide_eq_false hc; omega
    subst hj2
    exact ⟨rfl, rfl, ⟨rfl, rfl⟩, ⟨rfl, rfl⟩, ⟨rfl, rfl⟩, ⟨rfl, rfl⟩, trivial⟩
  · have hj2 : j ≤ 70 := by rw [ile_eq] at hc; have := of_decide_eq_true hc; omega
    have e0 : (70 - (j : Int)) = ((70 - j : Nat) : Int) := by omega
    have e5 : (70 - ((j + 1 : Nat) : Int)) = ((70 - j : Nat) : Int) - 1 := by omega
    have ed : ((70 - j : Nat) : Int).tdiv 24 = (((70 - j) / 24 : Nat) : Int) := tdiv_cast _ 24
    have em : ((70 - j : Nat) : Int).tmod 24 = (((70 - j) % 24 : Nat) : Int) := tmod_cast _ 24
    have e3 : (BitVec.ofInt 64 (((70 - j) % 24 : Nat) : Int)).toNat = (70 - j) % 24 := by rw [BitVec.ofInt_natCast, BitVec.toNat_ofNat]; omega
    rw [e0, ed, em, e3, Int.toNat_natCast]
    have hnext : rts t aim (j + 1) = rt1 t aim (rts t aim j) (70 - j) := rfl
    rw [hnext]
    generalize rts t aim j = x at *
    have hy : (bitOf x (70 - j)).length = 14 := by rw [bit_len, hx]
    have ey : x.set ((70 - j) / 24) (x.getD ((70 - j) / 24) 0 ||| BitVec.ofInt 64 1 <<< ((70 - j) % 24)) = bitOf x (70 - j) := rfl
    rw [ey, hy, hx, ha]
    have h1 : inI ((70 - j : Nat) : Int) = true := inI_iff.2 (by omega)
    have h2 : inR (((70 - j) / 24 : Nat) : Int) 14 = true := inR_nat (by omega)
    have h3 : Nat.blt ((70 - j) / 24) 14 = true := blt_of (by omega)
    have h4 : inI (((70 - j : Nat) : Int) - 1) = true := inI_iff.2 (by omega)
    rw [h1, h2, h3, h4, e5]
    have hp : j + 1 ≤ 71 ∧ 71 - (j + 1) < 71 - j := by omega
    cases t
    · cases hv : abvF (tms (bitOf x (70 - j)) (bitOf x (70 - j))) aim 14
      · have er : rt1 false aim x (70 - j) = bitOf x (70 - j) := by
          show (bif abvF (tms (bitOf x (70 - j)) (bitOf x (70 - j))) aim 14 then _ else _) = _
          rw [hv]; rfl
        rw [er]
        exact ⟨hp, rfl, rfl, rfl, rfl, ⟨rfl, rfl⟩, ⟨rfl, rfl⟩, ⟨rfl, rfl⟩, ⟨rfl, rfl⟩, trivial⟩
      · have er : rt1 false aim x (70 - j) = x := by
          show (bif abvF (tms (bitOf x (70 - j)) (bitOf x (70 - j))) aim 14 then _ else _) = _
          rw [hv]; rfl
        rw [er]
        exact ⟨hp, rfl, rfl, rfl, rfl, ⟨rfl, rfl⟩, ⟨rfl, rfl⟩, ⟨rfl, rfl⟩, ⟨rfl, rfl⟩, trivial⟩
    · cases hv : abvF (tms (tms (bitOf x (70 - j)) (bitOf x (70 - j))) (bitOf x (70 - j))) aim 14
      · have er : rt1 true aim x (70 - j) = bitOf x (70 - j) := by
          show (bif abvF (tms (tms (bitOf x (70 - j)) (bitOf x (70 - j))) (bitOf x (70 - j))) aim 14 then _ else _) = _
          rw [hv]; rfl
        rw [er]
        exact ⟨hp, rfl, rfl, rfl, rfl, ⟨rfl, rfl⟩, ⟨rfl, rfl⟩, ⟨rfl, rfl⟩, ⟨rfl, rfl⟩, trivial⟩
      · have er : rt1 true aim x (70 - j) = x := by
          show (bif abvF (tms (tms (bitOf x (70 - j)) (bitOf x (70 - j))) (bitOf x (70 - j))) aim 14 then _ else _) = _
          rw [hv]; rfl
        rw [er]
        exact ⟨hp, rfl, rfl, rfl, rfl, ⟨rfl, rfl⟩, ⟨rfl, rfl⟩, ⟨rfl, rfl⟩, ⟨rfl, rfl⟩, trivial⟩
def fin3 (x : List (BitVec 64)) : BitVec 64 := x.getD 0 0 ||| x.getD 1 0 <<< 24 ||| x.getD 2 0 <<< 48
def rootOf (t : Bool) (p : BitVec 64) : BitVec 64 := fin3 (rts t (bif t then aimC p else aimS p) 71)
def cRoot (Q : Bool → BitVec 64 → BitVec 64) : List SV → List Cont → Option (Bool × SV)
  | [.w64 p, .b t], _ => some (true, .w64 (Q t p))
  | _, _ => none
theorem root_ok : POk Tryd.prog G 11 (cRoot rootOf) := by
  intro args acs r h β M w hR hw ha
  unfold cRoot at h
  split at h
  · rename_i p t
    simp only [Option.some.injEq, Prod.mk.injEq, true_and] at h
    subst h
    cases t
    · refine pure0 (vf_ok e9_ok mixed (loop11 false (aimS p) rfl) (of_eq (vc11s _ _ p _ _ _) ?_)) rfl rfl hR
      rw [rts_len]
      exact ⟨rfl, rfl, rfl, rfl, rfl, ⟨rfl, rfl⟩, ⟨rfl, rfl⟩, ⟨rfl, rfl⟩, ⟨rfl, rfl⟩, rfl⟩
    · refine pure0 (vf_ok e9_ok mixed (loop11 true (aimC p) rfl) (of_eq (vc11 _ _ p _ _ _) ?_)) rfl rfl hR
      rw [rts_len]
      exact ⟨rfl, rfl, rfl, rfl, rfl, ⟨rfl, rfl⟩, ⟨rfl, rfl⟩, ⟨rfl, rfl⟩, ⟨rfl, rfl⟩, rfl⟩
  · cases h
end Go.Proofs.YtdejfaccoepfhaaDoor
