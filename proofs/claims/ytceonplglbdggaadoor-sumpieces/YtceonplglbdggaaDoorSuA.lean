/-
  sum: turned words, and closures that turn. No statement is proved here.
-/
import Derived.Test.YtceonplglbdggaaDoorVcW
import Derived.Test.YtceonplglbdggaaDoorVcV
namespace Go.Proofs.YtceonplglbdggaaDoor
open Go.RowKit
set_option linter.unusedVariables false
set_option linter.unusedSimpArgs false
set_option maxRecDepth 100000

/-- The words to begin with, and the constants. -/
def H0 : List (BitVec 32) := [0x6a09e667, 0xbb67ae85, 0x3c6ef372, 0xa54ff53a, 0x510e527f, 0x9b05688c, 0x1f83d9ab, 0x5be0cd19]
def K64 : List (BitVec 32) := [0x428a2f98, 0x71374491, 0xb5c0fbcf, 0xe9b5dba5, 0x3956c25b, 0x59f111f1, 0x923f82a4, 0xab1c5ed5, 0xd807aa98, 0x12835b01, 0x243185be, 0x550c7dc3, 0x72be5d74, 0x80deb1fe, 0x9bdc06a7, 0xc19bf174, 0xe49b69c1, 0xefbe4786, 0x0fc19dc6, 0x240ca1cc, 0x2de92c6f, 0x4a7484aa, 0x5cb0a9dc, 0x76f988da, 0x983e5152, 0xa831c66d, 0xb00327c8, 0xbf597fc7, 0xc6e00bf3, 0xd5a79147, 0x06ca6351, 0x14292967, 0x27b70a85, 0x2e1b2138, 0x4d2c6dfc, 0x53380d13, 0x650a7354, 0x766a0abb, 0x81c2c92e, 0x92722c85, 0xa2bfe8a1, 0xa81a664b, 0xc24b8b70, 0xc76c51a3, 0xd192e819, 0xd6990624, 0xf40e3585, 0x106aa070, 0x19a4c116, 0x1e376c08, 0x2748774c, 0x34b0bcb5, 0x391c0cb3, 0x4ed8aa4a, 0x5b9cca4f, 0x682e6ff3, 0x748f82ee, 0x78a5636f, 0x84c87814, 0x8cc70208, 0x90befffa, 0xa4506ceb, 0xbef9a3f7, 0xc67178f2]
/-- The two package variables. -/
def G : Mm := [⟨false, .a32 H0⟩, ⟨false, .a32 K64⟩]
theorem mixed : Tryd.prog.follows .mixedOrders = true := by kernel_rfl
def E0 : Env := ⟨G, noT, noC⟩
theorem e0_ok : EnvOk Tryd.prog E0 := ⟨noT_ok _ _, noC_ok _ _⟩
theorem inR_nat {j n : Nat} (h : j < n) : inR (j : Int) n = true := inR_iff.2 ⟨by omega, by omega⟩
theorem blt_of {a b : Nat} (h : a < b) : Nat.blt a b = true := by simpa [Nat.blt_eq] using h
theorem tgt_ptr {M : Mm} {k off : Nat} {c : Cont} (h : tgt M (.ptr k off) = c) (hh : c.here = true) : ∃ r, M[k]? = some ⟨r, c⟩ := by
  simp only [tgt] at h
  cases hk : M[k]? with
  | none => rw [hk] at h; subst h; cases hh
  | some e => rw [hk] at h; subst h; exact ⟨e.rw, rfl⟩
/-- A word, turned to the right by n, as the document does. -/
def rr (x : BitVec 32) (n : BitVec 64) : BitVec 32 := (x >>> n.toNat) ||| (x <<< (32#64 - n).toNat)
def cRight : List SV → List Cont → Option (Bool × SV)
  | [.w32 x, .w64 n], _ => some (true, .w32 (rr x n))
  | _, _ => none
theorem vc30 (x : BitVec 32) (n : BitVec 64) (K : SV → Mm → Prop) : (vf Tryd.prog E0 noL 30 [.w32 x, .w64 n] G K) = (K (SV.w32 (x >>> n.toNat ||| x <<< (BitVec.ofInt 64 32 - n).toNat)) G) := by kernel_rfl
theorem right_ok : POk Tryd.prog G 30 cRight := by
  intro args acs r h β M w hR hw ha
  unfold cRight at h
  split at h
  · simp only [Option.some.injEq, Prod.mk.injEq, true_and] at h
    subst h
    refine pure0 (vf_ok e0_ok mixed (noL_ok _ _ _ _) (of_eq (vc30 _ _ _) ?_)) rfl rfl hR
    rfl
  · cases h
/-- .. and to the left by k, as the library does. -/
def rl (x : BitVec 32) (k : Int) : BitVec 32 := (x <<< (BitVec.ofInt 64 k &&& 31).toNat) ||| (x >>> (32#64 - (BitVec.ofInt 64 k &&& 31)).toNat)
def cRotl : List SV → List Cont → Option (Bool × SV)
  | [.w32 x, .i k], _ => some (true, .w32 (rl x k))
  | _, _ => none
theorem vc40 (x : BitVec 32) (k : Int) (K : SV → Mm → Prop) : (vf Tryd.prog E0 noL 40 [.w32 x, .i k] G K) = (K (SV.w32 (x <<< (BitVec.ofInt 64 k &&& BitVec.ofInt 64 31).toNat ||| x >>> (BitVec.ofInt 64 32 - (BitVec.ofInt 64 k &&& BitVec.ofInt 64 31)).toNat)) G) := by kernel_rfl
theorem rotl_ok : POk Tryd.prog G 40 cRotl := by
  intro args acs r h β M w hR hw ha
  unfold cRotl at h
  split at h
  · simp only [Option.some.injEq, Prod.mk.injEq, true_and] at h
    subst h
    refine pure0 (vf_ok e0_ok mixed (noL_ok _ _ _ _) (of_eq (vc40 _ _ _) ?_)) rfl rfl hR
    rfl
  · cases h
def T1 : PT := (noT.add 30 cRight).add 40 cRotl
def E1 : Env := ⟨G, T1, noC⟩
theorem e1_ok : EnvOk Tryd.prog E1 := ⟨PT.add_ok (PT.add_ok (noT_ok _ _) right_ok) rotl_ok, noC_ok _ _⟩
/-- A closure that turns. -/
def B39 (x : BitVec 32) : Mm := [⟨false, .a32 H0⟩, ⟨false, .a32 K64⟩, ⟨false, .row [.w32 x]⟩]
theorem vc39 (x : BitVec 32) (z : Int) (K : SV → Mm → Prop) : (vf Tryd.prog E1 noL 39 [.i z, .ptr 2 0] (B39 x) K) = (bif inI (-z) then K (SV.w32 (rl x (-z))) (B39 x) else False) := by kernel_rfl
def cTurns : List SV → List Cont → Option (Bool × SV)
  | [.i z, .ptr _ off], [_, .row [.w32 x]] => some (Nat.beq off 0 && inI (-z), .w32 (rl x (-z)))
  | _, _ => none
theorem turns_ok : POk Tryd.prog G 39 cTurns := by
  intro args acs r h β M w hR hw ha
  unfold cTurns at h
  split at h
  · rename_i z k off c0 x
    simp only [Option.some.injEq, Prod.mk.injEq, Bool.and_eq_true] at h
    obtain ⟨⟨h1, h2⟩, rfl⟩ := h
    obtain rfl := Nat.eq_of_beq_eq_true h1
    simp only [List.map_cons, List.map_nil, List.cons.injEq, and_true] at ha
    refine pure1 (args0 := [.i z, .ptr 2 0]) (c := .row [.w32 x]) (k := k) (vf_ok (M := B39 x) e1_ok mixed (noL_ok _ _ _ _) (of_eq (vc39 x z _) (bif_of h2 ?_))) rfl rfl rfl rfl rfl (fun _ => rfl) hR (tgt_ptr ha.2.symm rfl)
    rfl
  · cases h
theorem vc35 (x : BitVec 32) (K : SV → Mm → Prop) : (vf Tryd.prog E1 noL 35 [.w32 x] G K) = (K (SV.fn 39 [SV.ptr 2 0]) [{ rw := false, c := Cont.a32 H0 }, { rw := false, c := Cont.a32 K64 }, { rw := true, c := Cont.row [SV.w32 x] }]) := by kernel_rfl
/-- What makes such a closure. -/
def cTurning : List SV → Mm → (SV → Mm → Prop) → Prop
  | [.w32 x], M, K => snocK M ⟨true, .row [.w32 x]⟩ fun M2 => K (.fn 39 [.ptr M.length 0]) M2
  | _, _, _ => False
theorem turning_ok : COk Tryd.prog G 35 cTurning := by
  intro args M K h
  unfold cTurning at h
  split at h
  · rename_i x
    rw [snocK_eq] at h
    refine eff_of (R := []) (args0 := [.w32 x]) (K0 := fun r M => r = .fn 39 [.ptr 2 0] ∧ M = [⟨false, .a32 H0⟩, ⟨false, .a32 K64⟩, ⟨true, .row [.w32 x]⟩]) [] (vf_ok (M := G) e1_ok mixed (noL_ok _ _ _ _) (of_eq (vc35 x _) ⟨rfl, rfl⟩)) rfl rfl List.nodup_nil trivial ?_
    rintro r1 M1 ⟨rfl, rfl⟩
    exact h
  · exact h.elim
def T2 : PT := T1.add 39 cTurns
def C2 : CT := noC.add 35 cTurning
def E2 : Env := ⟨G, T2, C2⟩
theorem e2_ok : EnvOk Tryd.prog E2 := ⟨PT.add_ok e1_ok.T turns_ok, CT.add_ok (noC_ok _ _) turning_ok⟩
end Go.Proofs.YtceonplglbdggaaDoor
