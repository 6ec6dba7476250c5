/-
  A reckoner of conditions: calls that change what they are handed. No statement is proved here.
-/
import Derived.Test.YtkjfecdpakhggaaVcU
namespace Go.Proofs.Ytkjfecdpakhggaa
open Go.RowKit
set_option linter.unusedVariables false
set_option linter.unusedSimpArgs false

theorem sig_oldV (b : Nat) (rs : List Nat) (k : Nat) (h : k < b) : sig b rs k = k := by
  unfold sig
  have : Nat.blt k b = true := by simpa [Nat.blt_eq] using h
  rw [this]; rfl
theorem sig_new (b : Nat) (rs : List Nat) (i : Nat) : sig b rs (b + i) = rs.getD i 0 := by
  unfold sig
  have : Nat.blt (b + i) b = false := by
    cases hq : Nat.blt (b + i) b
    · rfl
    · exact absurd (blt_lt hq) (by omega)
  rw [this, Nat.add_sub_cancel_left]; rfl
/-- Blocks that are handed lie at those places. -/
def liesK (n b : Nat) (σ : Nat → Nat) (M : Mm) : List Nat → Mm → Prop
  | [], [] => True
  | k :: ks, e :: R => (∃ r, M[k]? = some ⟨r, e.c.ren σ⟩ ∧ (e.rw = true → r = true)) ∧ (e.c.here = true ∧ e.c.wf n = true) ∧ liesK n b σ M ks R
  | _, _ => False
theorem liesK_ok {n b : Nat} {σ : Nat → Nat} {M : Mm} : ∀ (ks : List Nat) (R : Mm), liesK n b σ M ks R → ks.length = R.length ∧ ∀ (i : Nat) (e : Ent), R[i]? = some e → ∃ r, M[ks.getD i 0]? = some ⟨r, e.c.ren σ⟩ ∧ (e.rw = true → r = true) ∧ e.c.here = true ∧ e.c.wf n = true
  | [], [], h => ⟨rfl, fun i e he => by cases he⟩
  | k :: ks, e :: R, h => by
    obtain ⟨⟨r, h1, h2⟩, h3, h4⟩ := h
    obtain ⟨h5, h6⟩ := liesK_ok ks R h4
    refine ⟨by simp [h5], fun i x hx => ?_⟩
    cases i with
    | zero => obtain rfl := Option.some.inj hx; exact ⟨r, h1, h2, h3.1, h3.2⟩
    | succ i => exact h6 i x hx
  | [], _ :: _, h => h.elim
  | _ :: _, [], h => h.elim
theorem lies_of {G R M : Mm} {β : Nat → Nat} {w : World} (hR : Rel G β M w) (ks : List Nat) (hk : liesK (G.length + R.length) G.length (sig G.length ks) M ks R) (hn : ks.Nodup) : Lies G R M (sig G.length ks) := by
  obtain ⟨h1, h2⟩ := liesK_ok ks R hk
  refine ⟨hR.gl, sig_oldV _ _, fun i e he => ?_, fun i j x y hx hy hij hr => ?_⟩
  · rw [sig_new]; exact h2 i e he
  · rw [sig_new, sig_new]
    have hi : i < ks.length := by rw [h1]; exact lt_of_get hx
    have hj : j < ks.length := by rw [h1]; exact lt_of_get hy
    rw [List.getD_eq_getElem?_getD, List.getD_eq_getElem?_getD, List.getElem?_eq_getElem hi, List.getElem?_eq_getElem hj]
    intro e
    exact hij ((List.getElem_inj hn).1 e)
theorem eff_of {P : Program} {G R M : Mm} {f : Nat} {args0 args : List SV} {K0 K : SV → Mm → Prop} (ks : List Nat) (hS : Spec P G f args0 (G ++ R) K0) (hargs : args = rens (sig G.length ks) args0) (ha : SV.wf.wfs (G.length + R.length) args0 = true) (hn : ks.Nodup) (hk : liesK (G.length + R.length) G.length (sig G.length ks) M ks R) (hK : ∀ r1 M1, K0 r1 M1 → K (ren (reloc (sig G.length ks) (G ++ R).length M.length) r1) (back G R M (sig G.length ks) M1)) : Spec P G f args M K := fun β w hR hw => by
  subst hargs
  refine (lift_of hS hR (lies_of hR ks hk hn) (by rw [List.length_append]; exact ha)).mono fun v w' hh => ?_
  obtain ⟨β2, M2, r2, h1, h2, h3, r1, M1, h4, rfl, rfl⟩ := hh
  exact ⟨β2, _, _, h1, h2, h3, hK _ _ h4⟩
/-- A function that reads alone, of blocks that lie anywhere. -/
theorem pureN {P : Program} {G R : Mm} {f : Nat} {args0 args : List SV} {r0 : SV} (ks : List Nat) (hS : Spec P G f args0 (G ++ R) (fun r _ => r = r0)) (hargs : args = rens (sig G.length ks) args0) (ha : SV.wf.wfs (G.length + R.length) args0 = true) (hro : ∀ (i : Nat) (e : Ent), R[i]? = some e → e.rw = false) (hr : r0.wf 0 = true) (hn : ks.Nodup) {β : Nat → Nat} {M : Mm} {w : World} (hR : Rel G β M w) (hk : liesK (G.length + R.length) G.length (sig G.length ks) M ks R) : CallR P f (vals β args).toArray w (fun v w' => v = val β r0 ∧ Fp0 w w') := by
  subst hargs
  have := pure_of hS hR (lies_of hR ks hk hn) hro (by rw [List.length_append]; exact ha) (wf_mono (Nat.zero_le _) r0 hr)
  rw [ren_id (n := 0) (fun _ h => absurd h (by omega)) r0 hr] at this
  exact this
end Go.Proofs.Ytkjfecdpakhggaa
namespace Go.Proofs.Ytkjfecdpakhggaa
open Go.RowKit
set_option linter.unusedVariables false
set_option linter.unusedSimpArgs false

/-- What a round of a loop leads to: the next state, the end where q holds, or the function is left. -/
def Kt (B : Mm) (id n : Nat) (a : Prop) (i' : List (Nat × SV)) (M' : Mm) (q : Prop) (o : List (Nat × SV)) (M1 : Mm) (z : Prop) (ro : List (Nat × SV)) (Mr : Mm) : Ko := fun e fr2 M2 => match e with
  | .normal => a ∧ vLe B fr2 M2 n i' M' True
  | .exit j => j = id ∧ q ∧ vLe B fr2 M2 n o M1 True
  | .ret => z ∧ vLe B fr2 M2 n ro Mr True
  | _ => False
/-- What is said of such a loop. -/
def vLoopR (B : Mm) (n : Nat) (i0 : List (Nat × SV)) (M0 : Mm) (q : Prop) (o : List (Nat × SV)) (M1 : Mm) (z : Prop) (ro : List (Nat × SV)) (Mr : Mm) (fr : List SV) (M : Mm) (K : Ko) : Prop := vLe B fr M n i0 M0 ((q → frK n o fun fr1 => K .normal fr1 M1) ∧ (z → frK n ro fun fr1 => K .ret fr1 Mr))
theorem loop_ret {P : Program} {E : Env} (hE : EnvOk P E) (hm : P.follows .mixedOrders = true) {B : Mm} {f id : Nat} {L : LT} (hL : LOk P E.G B f L) (hG : E.G.length ≤ B.length) (hl : isLoop id (loopOf P f id) = true) {n : Nat} {q z : Prop} {o ro : List (Nat × SV)} {M1 Mr : Mm} {ι : Type} (I : ι → List (Nat × SV)) (Mi : ι → Mm) (p : ι → Prop) (μ : ι → Nat) (next : ι → ι) (i0 : ι) (hp : p i0)
    (hround : ∀ i, p i → frK n (I i) fun fr => vround P E L f id fr (Mi i) (Kt B id n (p (next i) ∧ μ (next i) < μ i) (I (next i)) (Mi (next i)) q o M1 z ro Mr)) : ∀ fr M K, vLoopR B n (I i0) (Mi i0) q o M1 z ro Mr fr M K → Wp P E.G B (loopOf P f id) fr M K := by
  intro fr M K h
  obtain ⟨h0, hK, hZ⟩ := vLe_ok h
  rw [frK_eq] at hK hZ
  have hc : loopOf P f id = .block id (.loop (body (loopOf P f id))) := by
    unfold isLoop at hl
    split at hl
    · rename_i j c he
      obtain rfl := Nat.eq_of_beq_eq_true hl
      rw [he]; rfl
    · cases hl
  refine Wp.le hG h0 ?_
  rw [hc]
  refine Wp.loop (fun m fr M => ∃ i, p i ∧ μ i = m ∧ fr = mkF n (I i) ∧ M = Mi i) (μ i0) ⟨i0, hp, rfl, rfl, rfl⟩ ?_
  rintro m fr M ⟨i, hpi, rfl, rfl, rfl⟩
  have h := hround i hpi
  rw [frK_eq] at h
  refine Wp.post hG ((vcode_ok hE (wd_of hE hm hL) _ _ _ _ h).mono fun e fr' M' hk => ?_)
  cases e with
  | normal => obtain ⟨h1, h2⟩ := hk; exact ⟨_, _, (vLe_ok h2).1, _, h1.2, next i, h1.1, rfl, rfl, rfl⟩
  | exit j => obtain ⟨h1, h2, h3⟩ := hk; exact ⟨_, _, (vLe_ok h3).1, h1, hK h2⟩
  | ret => obtain ⟨h1, h2⟩ := hk; exact ⟨_, _, (vLe_ok h2).1, hZ h1⟩
  | goto l => exact hk.elim
  | panic ch => exact hk.elim
  | outgrown => exact hk.elim
/-- A word that is worked out before it is used. -/
def fw (x : BitVec 64) (K : BitVec 64 → Prop) : Prop := Nat.rec (motive := fun _ => Prop) (K 0#64) (fun m _ => K (BitVec.ofNat 64 (m + 1))) x.toNat
theorem fw_eq (x : BitVec 64) (K : BitVec 64 → Prop) : fw x K = K x := by
  have key : ∀ n : Nat, x.toNat = n → Nat.rec (motive := fun _ => Prop) (K 0#64) (fun m _ => K (BitVec.ofNat 64 (m + 1))) n = K x := by
    intro n h
    cases n with
    | zero =>
      have : 0#64 = x := BitVec.eq_of_toNat_eq (by rw [h]; rfl)
      exact congrArg K this
    | succ m =>
      have : BitVec.ofNat 64 (m + 1) = x := BitVec.eq_of_toNat_eq (by rw [h, BitVec.toNat_ofNat]; have := x.isLt; omega)
      exact congrArg K this
  exact key x.toNat rfl
def fl : List (BitVec 64) → (List (BitVec 64) → Prop) → Prop
  | [], K => K []
  | x :: l, K => fw x fun y => fl l fun m => K (y :: m)
theorem fl_eq : ∀ (l : List (BitVec 64)) (K : List (BitVec 64) → Prop), fl l K = K l
  | [], K => rfl
  | x :: l, K => by rw [fl, fw_eq, fl_eq l]
end Go.Proofs.Ytkjfecdpakhggaa
