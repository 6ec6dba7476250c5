/-
  A reckoner of conditions: calls that change what they are handed. No statement is proved here.
-/
import Derived.Test.YtmalnjdacmlcdaaDoorVcU
namespace Go.Proofs.YtmalnjdacmlcdaaDoor
open Go.RowKit
set_option linter.unusedVariables false
set_option linter.unusedSimpArgs false

theorem sig_old (b : Nat) (rs : List Nat) (k : Nat) (h : k < b) : sig b rs k = k := by
  unfold sig
  have : Nat.blt k b = true := by simpa [Nat.blt_eq] using h
  rw [this]; rfl
theorem sig_new (b : Nat) (rs : List Nat) (i : Nat) : sig b rs (b + i) = rs.getD i 0 := by
  unfold sig
  have : Nat.blt (b + i) b = false := by
    cases hq : Nat.blt (b + i) b
    · rfl
    · exact absurd (blt_lt hq) (by omega)
  rw [this, Nat.add_sub_cancel_left]; rfl
/-- Blocks that are handed lie at those places. -/
def liesK (n b : Nat) (σ : Nat → Nat) (M : Mm) : List Nat → Mm → Prop
  | [], [] => True
  | k :: ks, e :: R => (∃ r, M[k]? = some ⟨r, e.c.ren σ⟩ ∧ (e.rw = true → r = true)) ∧ (e.c.here = true ∧ e.c.wf n = true) ∧ liesK n b σ M ks R
  | _, _ => False
theorem liesK_ok {n b : Nat} {σ : Nat → Nat} {M : Mm} : ∀ (ks : List Nat) (R : Mm), liesK n b σ M ks R → ks.length = R.length ∧ ∀ (i : Nat) (e : Ent), R[i]? = some e → ∃ r, M[ks.getD i 0]? = some ⟨r, e.c.ren σ⟩ ∧ (e.rw = true → r = true) ∧ e.c.here = true ∧ e.c.wf n = true
  | [], [], h => ⟨rfl, fun i e he => by cases he⟩
  | k :: ks, e :: R, h => by
    obtain ⟨⟨r, h1, h2⟩, h3, h4⟩ := h
    obtain ⟨h5, h6⟩ := liesK_ok ks R h4
    refine ⟨by simp [h5], fun i x hx => ?_⟩
    cases i with
    | zero => obtain rfl := Option.some.inj hx; exact ⟨r, h1, h2, h3.1, h3.2⟩
    | succ i => exact h6 i x hx
  | [], _ :: _, h => h.elim
  | _ :: _, [], h => h.elim
theorem lies_of {G R M : Mm} {β : Nat → Nat} {w : World} (hR : Rel G β M w) (ks : List Nat) (hk : liesK (G.length + R.length) G.length (sig G.length ks) M ks R) (hn : ks.Nodup) : Lies G R M (sig G.length ks) := by
  obtain ⟨h1, h2⟩ := liesK_ok ks R hk
  refine ⟨hR.gl, sig_old _ _, fun i e he => ?_, fun i j x y hx hy hij hr => ?_⟩
  · rw [sig_new]; exact h2 i e he
  · rw [sig_new, sig_new]
    have hi : i < ks.length := by rw [h1]; exact lt_of_get hx
    have hj : j < ks.length := by rw [h1]; exact lt_of_get hy
    rw [List.getD_eq_getElem?_getD, List.getD_eq_getElem?_getD, List.getElem?_eq_getElem hi, List.getElem?_eq_getElem hj]
    intro e
    exact hij ((List.getElem_inj hn).1 e)
theorem eff_of {P : Program} {G R M : Mm} {f : Nat} {args0 args : List SV} {K0 K : SV → Mm → Prop} (ks : List Nat) (hS : Spec P G f args0 (G ++ R) K0) (hargs : args = rens (sig G.length ks) args0) (ha : SV.wf.wfs (G.length + R.length) args0 = true) (hn : ks.Nodup) (hk : liesK (G.length + R.length) G.length (sig G.length ks) M ks R) (hK : ∀ r1 M1, K0 r1 M1 → K (ren (reloc (sig G.length ks) (G ++ R).length M.length) r1) (back G R M (sig G.length ks) M1)) : Spec P G f args M K := fun β w hR hw => by
  subst hargs
  refine (lift_of hS hR (lies_of hR ks hk hn) (by rw [List.length_append]; exact ha)).mono fun v w' hh => ?_
  obtain ⟨β2, M2, r2, h1, h2, h3, r1, M1, h4, rfl, rfl⟩ := hh
  exact ⟨β2, _, _, h1, h2, h3, hK _ _ h4⟩
/-- A function that reads alone, of blocks that lie anywhere. -/
theorem pureN {P : Program} {G R : Mm} {f : Nat} {args0 args : List SV} {r0 : SV} (ks : List Nat) (hS : Spec P G f args0 (G ++ R) (fun r _ => r = r0)) (hargs : args = rens (sig G.length ks) args0) (ha : SV.wf.wfs (G.length + R.length) args0 = true) (hro : ∀ (i : Nat) (e : Ent), R[i]? = some e → e.rw = false) (hr : r0.wf 0 = true) (hn : ks.Nodup) {β : Nat → Nat} {M : Mm} {w : World} (hR : Rel G β M w) (hk : liesK (G.length + R.length) G.length (sig G.length ks) M ks R) : CallR P f (vals β args).toArray w (fun v w' => v = val β r0 ∧ Fp0 w w') := by
  subst hargs
  have := pure_of hS hR (lies_of hR ks hk hn) hro (by rw [List.length_append]; exact ha) (wf_mono (Nat.zero_le _) r0 hr)
  rw [ren_id (n := 0) (fun _ h => absurd h (by omega)) r0 hr] at this
  exact this
end Go.Proofs.YtmalnjdacmlcdaaDoor
namespace Go.Proofs.YtmalnjdacmlcdaaDoor
open Go.RowKit
set_option linter.unusedVariables false
set_option linter.unusedSimpArgs false

/-- What a round of a loop leads to: the next state, the end where q holds, or the function is left. -/
def Kt (B : Mm) (id n : Nat) (a : Prop) (i' : List (Nat × SV)) (M' : Mm) (q : Prop) (o : List (Nat × SV)) (M1 : Mm) (z : Prop) (ro : List (Nat × SV)) (Mr : Mm) : Ko := fun e fr2 M2 => match e with
  | .normal => a ∧ vLe B fr2 M2 n i' M' True
  | .exit j => j = id ∧ q ∧ vLe B fr2 M2 n o M1 True
  | .ret => z ∧ vLe B fr2 M2 n ro Mr True
  | _ => False
/-- What is said of such a loop. -/
def vLoopR (B : Mm) (n : Nat) (i0 : List (Nat × SV)) (M0 : Mm) (q : Prop) (o : List (Nat × SV)) (M1 : Mm) (z : Prop) (ro : List (Nat × SV)) (Mr : Mm) (fr : List SV) (M : Mm) (K : Ko) : Prop := vLe B fr M n i0 M0 ((q → frK n o fun fr1 => K .normal fr1 M1) ∧ (z → frK n ro fun fr1 => K .ret fr1 Mr))
theorem loop_ret {P : Program} {E : Env} (hE : EnvOk P E) (hm : P.follows .mixedOrders = true) {B : Mm} {f id : Nat} {L : LT} (hL : LOk P E.G B f L) (hG : E.G.length ≤ B.length) (hl : isLoop id (loopOf P f id) = true) {n : Nat} {q z : Prop} {o ro : List (Nat × SV)} {M1 Mr : Mm} {ι : Type} (I : ι → List (Nat × SV)) (Mi : ι → Mm) (p : ι → Prop) (μ : ι → Nat) (next : ι → ι) (i0 : ι) (hp : p i0)
    (hround : ∀ i, p i → frK n (I i) fun fr => vround P E L f id fr (Mi i) (Kt B id n (p (next i) ∧ μ (next i) < μ i) (I (next i)) (Mi (next i)) q o M1 z ro Mr)) : ∀ fr M K, vLoopR B n (I i0) (Mi i0) q o M1 z ro Mr fr M K → Wp P E.G B (loopOf P f id) fr M K := by
  intro fr M K h
  obtain ⟨h0, hK, hZ⟩ := vLe_ok h
  rw [frK_eq] at hK hZ
  have hc : loopOf P f id = .block id (.loop (body (loopOf P f id))) := by
    unfold isLoop at hl
    split at hl
    · rename_i j c he
      obtain rfl := Nat.eq_of_beq_eq_true hl
      rw [he]; rfl
    · cases hl
  refine Wp.le hG h0 ?_
  rw [hc]
  refine Wp.loop (fun m fr M => ∃ i, p i ∧ μ i = m ∧ fr = mkF n (I i) ∧ M = Mi i) (μ i0) ⟨i0, hp, rfl, rfl, rfl⟩ ?_
  rintro m fr M ⟨i, hpi, rfl, rfl, rfl⟩
  have h := hround i hpi
  rw [frK_eq] at h
  refine Wp.post hG ((vcode_ok hE (wd_of hE hm hL) _ _ _ _ h).mono fun e fr' M' hk => ?_)
  cases e with
  | normal => obtain ⟨h1, h2⟩ := hk; exact ⟨_, _, (vLe_ok h2).1, _, h1.2, next i, h1.1, rfl, rfl, rfl⟩
  | exit j => obtain ⟨h1, h2, h3⟩ := hk; exact ⟨_, _, (vLe_ok h3).1, h1, hK h2⟩
  | ret => obtain ⟨h1, h2⟩ := hk; exact ⟨_, _, (vLe_ok h2).1, hZ h1⟩
  | goto l => exact hk.elim
  | panic ch => exact hk.elim
  | outgrown => exact hk.elim
/-- A word that is worked out before it is used. -/
def fw (x : BitVec 64) (K : BitVec 64 → Prop) : Prop := Nat.rec (motive := fun _ => Prop) (K 0#64) (fun m _ => K (BitVec.ofNat 64 (m + 1))) x.toNat
theorem fw_eq (x : BitVec 64) (K : BitVec 64 → Prop) : fw x K = K x := by
  have key : ∀ n : Nat, x.toNat = n → Nat.rec (motive := fun _ => Prop) (K 0#64) (fun m _ => K (BitVec.ofNat 64 (m + 1))) n = K x := by
    intro n h
    cases n with
    | zero =>
      have : 0#64 = x := BitVec.eq_of_toNat_eq (by rw [h]; rfl)
      exact congrArg K this
    | succ m =>
      have : BitVec.ofNat 64 (m + 1) = x := BitVec.eq_of_toNat_eq (by rw [h, BitVec.toNat_ofNat]; have := x.isLt; omega)
      exact congrArg K this
  exact key x.toNat rfl
def fl : List (BitVec 64) → (List (BitVec 64) → Prop) → Prop
  | [], K => K []
  | x :: l, K => fw x fun y => fl l fun m => K (y :: m)
theorem fl_eq : ∀ (l : List (BitVec 64)) (K : List (BitVec 64) → Prop), fl l K = K l
  | [], K => rfl
  | x :: l, K => by rw [fl, fw_eq, fl_eq l]
end Go.Proofs.YtmalnjdacmlcdaaDoor
namespace Go.Proofs.YtmalnjdacmlcdaaDoor
open Go.RowKit
set_option linter.unusedVariables false
set_option linter.unusedSimpArgs false
set_option maxRecDepth 100000

/-- The words to begin with, and the constants. -/
def H0 : List (BitVec 32) := [0x6a09e667, 0xbb67ae85, 0x3c6ef372, 0xa54ff53a, 0x510e527f, 0x9b05688c, 0x1f83d9ab, 0x5be0cd19]
def K64 : List (BitVec 32) := [0x428a2f98, 0x71374491, 0xb5c0fbcf, 0xe9b5dba5, 0x3956c25b, 0x59f111f1, 0x923f82a4, 0xab1c5ed5, 0xd807aa98, 0x12835b01, 0x243185be, 0x550c7dc3, 0x72be5d74, 0x80deb1fe, 0x9bdc06a7, 0xc19bf174, 0xe49b69c1, 0xefbe4786, 0x0fc19dc6, 0x240ca1cc, 0x2de92c6f, 0x4a7484aa, 0x5cb0a9dc, 0x76f988da, 0x983e5152, 0xa831c66d, 0xb00327c8, 0xbf597fc7, 0xc6e00bf3, 0xd5a79147, 0x06ca6351, 0x14292967, 0x27b70a85, 0x2e1b2138, 0x4d2c6dfc, 0x53380d13, 0x650a7354, 0x766a0abb, 0x81c2c92e, 0x92722c85, 0xa2bfe8a1, 0xa81a664b, 0xc24b8b70, 0xc76c51a3, 0xd192e819, 0xd6990624, 0xf40e3585, 0x106aa070, 0x19a4c116, 0x1e376c08, 0x2748774c, 0x34b0bcb5, 0x391c0cb3, 0x4ed8aa4a, 0x5b9cca4f, 0x682e6ff3, 0x748f82ee, 0x78a5636f, 0x84c87814, 0x8cc70208, 0x90befffa, 0xa4506ceb, 0xbef9a3f7, 0xc67178f2]
/-- The two package variables. -/
def G : Mm := [⟨false, .a32 H0⟩, ⟨false, .a32 K64⟩]
theorem mixed : Tryd.prog.follows .mixedOrders = true := by kernel_rfl
def E0 : Env := ⟨G, noT, noC⟩
theorem e0_ok : EnvOk Tryd.prog E0 := ⟨noT_ok _ _, noC_ok _ _⟩
theorem inR_nat {j n : Nat} (h : j < n) : inR (j : Int) n = true := inR_iff.2 ⟨by omega, by omega⟩
theorem blt_of {a b : Nat} (h : a < b) : Nat.blt a b = true := by simpa [Nat.blt_eq] using h
theorem tgt_ptr {M : Mm} {k off : Nat} {c : Cont} (h : tgt M (.ptr k off) = c) (hh : c.here = true) : ∃ r, M[k]? = some ⟨r, c⟩ := by
  simp only [tgt] at h
  cases hk : M[k]? with
  | none => rw [hk] at h; subst h; cases hh
  | some e => rw [hk] at h; subst h; exact ⟨e.rw, rfl⟩
/-- A word, turned to the right by n, as the document does. -/
def rr (x : BitVec 32) (n : BitVec 64) : BitVec 32 := (x >>> n.toNat) ||| (x <<< (32#64 - n).toNat)
def cRight : List SV → List Cont → Option (Bool × SV)
  | [.w32 x, .w64 n], _ => some (true, .w32 (rr x n))
  | _, _ => none
theorem vc30 (x : BitVec 32) (n : BitVec 64) (K : SV → Mm → Prop) : (vf Tryd.prog E0 noL 33 [.w32 x, .w64 n] G K) = (K (SV.w32 (x >>> n.toNat ||| x <<< (BitVec.ofInt 64 32 - n).toNat)) G) := by kernel_rfl
theorem right_ok : POk Tryd.prog G 33 cRight := by
  intro args acs r h β M w hR hw ha
  unfold cRight at h
  split at h
  · simp only [Option.some.injEq, Prod.mk.injEq, true_and] at h
    subst h
    refine pure0 (vf_ok e0_ok mixed (noL_ok _ _ _ _) (of_eq (vc30 _ _ _) ?_)) rfl rfl hR
    rfl
  · cases h
/-- .. and to the left by k, as the library does. -/
def rl (x : BitVec 32) (k : Int) : BitVec 32 := (x <<< (BitVec.ofInt 64 k &&& 31).toNat) ||| (x >>> (32#64 - (BitVec.ofInt 64 k &&& 31)).toNat)
def cRotl : List SV → List Cont → Option (Bool × SV)
  | [.w32 x, .i k], _ => some (true, .w32 (rl x k))
  | _, _ => none
theorem vc40 (x : BitVec 32) (k : Int) (K : SV → Mm → Prop) : (vf Tryd.prog E0 noL 54 [.w32 x, .i k] G K) = (K (SV.w32 (x <<< (BitVec.ofInt 64 k &&& BitVec.ofInt 64 31).toNat ||| x >>> (BitVec.ofInt 64 32 - (BitVec.ofInt 64 k &&& BitVec.ofInt 64 31)).toNat)) G) := by kernel_rfl
theorem rotl_ok : POk Tryd.prog G 54 cRotl := by
  intro args acs r h β M w hR hw ha
  unfold cRotl at h
  split at h
  · simp only [Option.some.injEq, Prod.mk.injEq, true_and] at h
    subst h
    refine pure0 (vf_ok e0_ok mixed (noL_ok _ _ _ _) (of_eq (vc40 _ _ _) ?_)) rfl rfl hR
    rfl
  · cases h
def T1 : PT := (noT.add 33 cRight).add 54 cRotl
def E1 : Env := ⟨G, T1, noC⟩
theorem e1_ok : EnvOk Tryd.prog E1 := ⟨PT.add_ok (PT.add_ok (noT_ok _ _) right_ok) rotl_ok, noC_ok _ _⟩
/-- A closure that turns. -/
def B39 (x : BitVec 32) : Mm := [⟨false, .a32 H0⟩, ⟨false, .a32 K64⟩, ⟨false, .row [.w32 x]⟩]
theorem vc39 (x : BitVec 32) (z : Int) (K : SV → Mm → Prop) : (vf Tryd.prog E1 noL 53 [.i z, .ptr 2 0] (B39 x) K) = (bif inI (-z) then K (SV.w32 (rl x (-z))) (B39 x) else False) := by kernel_rfl
def cTurns : List SV → List Cont → Option (Bool × SV)
  | [.i z, .ptr _ off], [_, .row [.w32 x]] => some (Nat.beq off 0 && inI (-z), .w32 (rl x (-z)))
  | _, _ => none
theorem turns_ok : POk Tryd.prog G 53 cTurns := by
  intro args acs r h β M w hR hw ha
  unfold cTurns at h
  split at h
  · rename_i z k off c0 x
    simp only [Option.some.injEq, Prod.mk.injEq, Bool.and_eq_true] at h
    obtain ⟨⟨h1, h2⟩, rfl⟩ := h
    obtain rfl := Nat.eq_of_beq_eq_true h1
    simp only [List.map_cons, List.map_nil, List.cons.injEq, and_true] at ha
    refine pure1 (args0 := [.i z, .ptr 2 0]) (c := .row [.w32 x]) (k := k) (vf_ok (M := B39 x) e1_ok mixed (noL_ok _ _ _ _) (of_eq (vc39 x z _) (bif_of h2 ?_))) rfl rfl rfl rfl rfl (fun _ => rfl) hR (tgt_ptr ha.2.symm rfl)
    rfl
  · cases h
theorem vc35 (x : BitVec 32) (K : SV → Mm → Prop) : (vf Tryd.prog E1 noL 48 [.w32 x] G K) = (K (SV.fn 53 [SV.ptr 2 0]) [{ rw := false, c := Cont.a32 H0 }, { rw := false, c := Cont.a32 K64 }, { rw := true, c := Cont.row [SV.w32 x] }]) := by kernel_rfl
/-- What makes such a closure. -/
def cTurning : List SV → Mm → (SV → Mm → Prop) → Prop
  | [.w32 x], M, K => snocK M ⟨true, .row [.w32 x]⟩ fun M2 => K (.fn 53 [.ptr M.length 0]) M2
  | _, _, _ => False
theorem turning_ok : COk Tryd.prog G 48 cTurning := by
  intro args M K h
  unfold cTurning at h
  split at h
  · rename_i x
    rw [snocK_eq] at h
    refine eff_of (R := []) (args0 := [.w32 x]) (K0 := fun r M => r = .fn 53 [.ptr 2 0] ∧ M = [⟨false, .a32 H0⟩, ⟨false, .a32 K64⟩, ⟨true, .row [.w32 x]⟩]) [] (vf_ok (M := G) e1_ok mixed (noL_ok _ _ _ _) (of_eq (vc35 x _) ⟨rfl, rfl⟩)) rfl rfl List.nodup_nil trivial ?_
    rintro r1 M1 ⟨rfl, rfl⟩
    exact h
  · exact h.elim
def T2 : PT := T1.add 53 cTurns
def C2 : CT := noC.add 48 cTurning
def E2 : Env := ⟨G, T2, C2⟩
theorem e2_ok : EnvOk Tryd.prog E2 := ⟨PT.add_ok e1_ok.T turns_ok, CT.add_ok (noC_ok _ _) turning_ok⟩
end Go.Proofs.YtmalnjdacmlcdaaDoor
