/-
  sha: the law of the roots. No statement is proved here.
-/
import Derived.Test.YtdejfaccoepfhaaDoorShT
namespace Go.Proofs.YtdejfaccoepfhaaDoor
open Go.RowKit
set_option linter.unusedVariables false
set_option linter.unusedSimpArgs false
set_option maxRecDepth 100000

/-- What is told of the row of primes. -/
def cPrimes : List SV → Mm → (SV → Mm → Prop) → Prop
  | [.i n], M, K => vsome (ile n 80 && ile 80 n) <| ∀ (cap : Nat) (rest : List (BitVec 64)), 80 + rest.length = cap → snocK M ⟨true, .a64 (pr80 ++ rest)⟩ fun M2 => K (.sl M.length 0 80 cap) M2
  | _, _, _ => False
def E10 (Q : Bool → BitVec 64 → BitVec 64) : Env := ⟨G, ((T3.add 6 cAlive).add 11 (cRoot Q)), noC.add 9 cPrimes⟩
def M4 (l : List (BitVec 64)) : Mm := [⟨false, .a64 H0⟩, ⟨false, .a64 K80⟩, ⟨true, .a64 l⟩]
def i4 (cap j : Nat) : List (Nat × SV) := [(3, .sl 2 0 80 cap), (5, .i (j : Nat))]
def got4 (fr : List SV) (M : Mm) : Option (Nat × List (BitVec 64)) := match fr with
  | _ :: _ :: _ :: SV.sl k _ _ cap :: _ => match M[k]? with
    | some ⟨_, .a64 x⟩ => some (cap, x)
    | _ => none
  | _ => none
def vL4 (p : Nat → List (BitVec 64) → Prop) (fr : List SV) (M : Mm) (K : Ko) : Prop := match got4 fr M with
  | some (cap, x) => p cap x ∧ vLoop G 33 (i4 cap 0) (M4 x) [] (M4 x) fr M K
  | none => False
def L4 (p : Nat → List (BitVec 64) → Prop) : LT := noL.add 0 (vL4 p)
theorem vc4 (Q : Bool → BitVec 64 → BitVec 64) (p : Nat → List (BitVec 64) → Prop) (a : BitVec 8) (K : SV → Mm → Prop) : (vf Tryd.prog (E10 Q) (L4 p) 4 [.w8 a] G K) = (∀ (cap : Nat) (rest : List (BitVec 64)), 80 + rest.length = cap → bif inR ((↑a.toNat : Int).tmod 80) 80 then bif inR ((↑a.toNat : Int).tmod 80) 80 then bif ((↑a.toNat : Int).tmod 80).toNat.blt (pr80 ++ rest).length then bif K80.getD ((↑a.toNat : Int).tmod 80).toNat 0 != Q true ((pr80 ++ rest).getD ((↑a.toNat : Int).tmod 80).toNat 0) then K (SV.b false) [{ rw := false, c := Cont.a64 H0 }, { rw := false, c := Cont.a64 K80 }, { rw := true, c := Cont.a64 (pr80 ++ rest) }] else loopOf Tryd.prog 4 0 = loopOf Tryd.prog 4 0 ∧ p cap (pr80 ++ rest) ∧ SV.sl 2 0 80 cap = SV.sl 2 0 80 cap ∧ SV.i 0 = SV.i (↑0 : Int) ∧ (false = false ∧ Cont.a64 H0 = Cont.a64 H0) ∧ (false = false ∧ Cont.a64 K80 = Cont.a64 K80) ∧ (true = true ∧ Cont.a64 (pr80 ++ rest) = Cont.a64 (pr80 ++ rest)) ∧ K (SV.b true) (M4 (pr80 ++ rest)) else False else False else False) := by kernel_rfl
theorem vr4 (Q : Bool → BitVec 64 → BitVec 64) (x : List (BitVec 64)) (cap j : Nat) (a : Prop) : (frK 33 (i4 cap j) fun fr => vround Tryd.prog (E10 Q) noL 4 0 fr (M4 x) (Kn G 0 33 a (i4 cap (j + 1)) (M4 x) [] (M4 x))) = (bif ilt (↑j : Int) 8 then bif inR (↑j : Int) 8 then bif inR (↑j : Int) 80 then bif j.blt x.length then bif H0.getD j 0 != Q false (x.getD j 0) then False else bif inI ((↑j : Int) + 1) then a ∧ SV.sl 2 0 80 cap = SV.sl 2 0 80 cap ∧ SV.i ((↑j : Int) + 1) = SV.i (↑(j + 1) : Int) ∧ (false = false ∧ Cont.a64 H0 = Cont.a64 H0) ∧ (false = false ∧ Cont.a64 K80 = Cont.a64 K80) ∧ (true = true ∧ Cont.a64 x = Cont.a64 x) ∧ True else False else False else False else False else 0 = 0 ∧ (false = false ∧ Cont.a64 H0 = Cont.a64 H0) ∧ (false = false ∧ Cont.a64 K80 = Cont.a64 K80) ∧ (true = true ∧ Cont.a64 x = Cont.a64 x) ∧ True) := by kernel_rfl
def p4 (cap : Nat) (x : List (BitVec 64)) : Prop := ∃ rest, x = pr80 ++ rest
theorem pr_get (rest : List (BitVec 64)) (k : Nat) (h : k < 80) : (pr80 ++ rest).getD k 0 = pr80.getD k 0 := getD_left _ _ _ (by show k < 80; exact h)
section
variable (hP : COk Tryd.prog G 9 cPrimes)
include hP
theorem e10_ok : EnvOk Tryd.prog (E10 rootOf) := ⟨PT.add_ok (PT.add_ok e3_ok.T alive_ok) root_ok, CT.add_ok (noC_ok _ _) hP⟩
theorem loop4 : LOk Tryd.prog G G 4 (L4 p4) := by
  refine LT.add_ok (noL_ok _ _ _ _) fun fr M K h => ?_
  unfold vL4 at h
  split at h
  · rename_i cap x hg
    obtain ⟨⟨rest, hr⟩, h⟩ := h
    refine loop_next (e10_ok hP) mixed (noL_ok _ _ _ _) (Nat.le_refl _) (by kernel_rfl) (fun j => i4 cap j) (fun _ => M4 x) (fun j => j ≤ 8) (fun j => 8 - j) (fun j => j + 1) 0 (Nat.zero_le _) (fun j hj => of_eq (vr4 rootOf x cap j _) ?_) fr M K h
    cases hc : ilt (j : Int) 8
    · exact ⟨rfl, ⟨rfl, rfl⟩, ⟨rfl, rfl⟩, ⟨rfl, rfl⟩, trivial⟩
    · have hj2 : j < 8 := by rw [ilt_eq] at hc; have := of_decide_eq_true hc; omega
      have hl : j < x.length := by rw [hr, List.length_append]; have : pr80.length = 80 := rfl; omega
      have hv : (H0.getD j 0 != rootOf false (x.getD j 0)) = false := by rw [hr, pr_get rest j (by omega), square_is j hj2]; simp
      rw [hv]
      refine bif_of (inR_nat hj2) (bif_of (inR_nat (by omega)) (bif_of (blt_of hl) ?_))
      show bif inI ((j : Int) + 1) then _ else False
      exact bif_of (inI_iff.2 (by omega)) ⟨⟨by omega, by omega⟩, rfl, rfl, ⟨rfl, rfl⟩, ⟨rfl, rfl⟩, ⟨rfl, rfl⟩, trivial⟩
  · exact h.elim
theorem law4 (a : BitVec 8) : Spec Tryd.prog G 4 [.w8 a] G (fun r _ => r = .b true) := by
  refine vf_ok (e10_ok hP) mixed (loop4 hP) (of_eq (vc4 rootOf _ a _) fun cap rest hc => ?_)
  have em : ((a.toNat : Nat) : Int).tmod 80 = ((a.toNat % 80 : Nat) : Int) := tmod_cast _ 80
  have hk : a.toNat % 80 < 80 := Nat.mod_lt _ (by decide)
  have hl : (pr80 ++ rest).length = 80 + rest.length := by rw [List.length_append]; rfl
  rw [em, Int.toNat_natCast, hl]
  have hv : (K80.getD (a.toNat % 80) 0 != rootOf true ((pr80 ++ rest).getD (a.toNat % 80) 0)) = false := by rw [pr_get rest _ hk, cube_is _ hk]; simp
  rw [hv]
  refine bif_of (inR_nat hk) (bif_of (inR_nat hk) (bif_of (blt_of (by omega)) ?_))
  exact ⟨rfl, ⟨rest, rfl⟩, rfl, rfl, ⟨rfl, rfl⟩, ⟨rfl, rfl⟩, ⟨rfl, rfl⟩, rfl⟩
end
end Go.Proofs.YtdejfaccoepfhaaDoor
