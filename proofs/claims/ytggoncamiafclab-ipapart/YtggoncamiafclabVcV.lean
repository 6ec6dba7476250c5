/-
  A reckoner of conditions: calls that change what they are handed. No statement is proved here.
-/
import Derived.Test.YtggoncamiafclabVcU
namespace Go.Proofs.Ytggoncamiafclab
open Go.RowKit
set_option linter.unusedVariables false
set_option linter.unusedSimpArgs false

theorem sig_oldV (b : Nat) (rs : List Nat) (k : Nat) (h : k < b) : sig b rs k = k := by
  unfold sig
  have : Nat.blt k b = true := by simpa [Nat.blt_eq] using h
  rw [this]; rfl
theorem sig_new (b : Nat) (rs : List Nat) (i : Nat) : sig b rs (b + i) = rs.getD i 0 := by
  unfold sig
  have : Nat.blt (b + i) b = false := by
    cases hq : Nat.blt (b + i) b
    · rfl
    · exact absurd (blt_lt hq) (by omega)
  rw [this, Nat.add_sub_cancel_left]; rfl
/-- Blocks that are handed lie at those places. -/
def liesK (n b : Nat) (σ : Nat → Nat) (M : Mm) : List Nat → Mm → Prop
  | [], [] => True
  | k :: ks, e :: R => (∃ r, M[k]? = some ⟨r, e.c.ren σ⟩ ∧ (e.rw = true → r = true)) ∧ (e.c.here = true ∧ e.c.wf n = true) ∧ liesK n b σ M ks R
  | _, _ => False
theorem liesK_ok {n b : Nat} {σ : Nat → Nat} {M : Mm} : ∀ (ks : List Nat) (R : Mm), liesK n b σ M ks R → ks.length = R.length ∧ ∀ (i : Nat) (e : Ent), R[i]? = some e → ∃ r, M[ks.getD i 0]? = some ⟨r, e.c.ren σ⟩ ∧ (e.rw = true → r = true) ∧ e.c.here = true ∧ e.c.wf n = true
  | [], [], h => ⟨rfl, fun i e he => by cases he⟩
  | k :: ks, e :: R, h => by
    obtain ⟨⟨r, h1, h2⟩, h3, h4⟩ := h
    obtain ⟨h5, h6⟩ := liesK_ok ks R h4
    refine ⟨by simp [h5], fun i x hx => ?_⟩
    cases i with
    | zero => obtain rfl := Option.some.inj hx; exact ⟨r, h1, h2, h3.1, h3.2⟩
    | succ i => exact h6 i x hx
  | [], _ :: _, h => h.elim
  | _ :: _, [], h => h.elim
theorem lies_of {G R M : Mm} {β : Nat → Nat} {w : World} (hR : Rel G β M w) (ks : List Nat) (hk : liesK (G.length + R.length) G.length (sig G.length ks) M ks R) (hn : ks.Nodup) : Lies G R M (sig G.length ks) := by
  obtain ⟨h1, h2⟩ := liesK_ok ks R hk
  refine ⟨hR.gl, sig_oldV _ _, fun i e he => ?_, fun i j x y hx hy hij hr => ?_⟩
  · rw [sig_new]; exact h2 i e he
  · rw [sig_new, sig_new]
    have hi : i < ks.length := by rw [h1]; exact lt_of_get hx
    have hj : j < ks.length := by rw [h1]; exact lt_of_get hy
    rw [List.getD_eq_getElem?_getD, List.getD_eq_getElem?_getD, List.getElem?_eq_getElem hi, List.getElem?_eq_getElem hj]
    intro e
    exact hij ((List.getElem_inj hn).1 e)
/-- A function that reads alone, of blocks that lie anywhere. -/
theorem pureN {P : Program} {G R : Mm} {f : Nat} {args0 args : List SV} {r0 : SV} (ks : List Nat) (hS : Spec P G f args0 (G ++ R) (fun r _ => r = r0)) (hargs : args = rens (sig G.length ks) args0) (ha : SV.wf.wfs (G.length + R.length) args0 = true) (hro : ∀ (i : Nat) (e : Ent), R[i]? = some e → e.rw = false) (hr : r0.wf 0 = true) (hn : ks.Nodup) {β : Nat → Nat} {M : Mm} {w : World} (hR : Rel G β M w) (hk : liesK (G.length + R.length) G.length (sig G.length ks) M ks R) : CallR P f (vals β args).toArray w (fun v w' => v = val β r0 ∧ Fp0 w w') := by
  subst hargs
  have := pure_of hS hR (lies_of hR ks hk hn) hro (by rw [List.length_append]; exact ha) (wf_mono (Nat.zero_le _) r0 hr)
  rw [ren_id (n := 0) (fun _ h => absurd h (by omega)) r0 hr] at this
  exact this
end Go.Proofs.Ytggoncamiafclab
namespace Go.Proofs.Ytggoncamiafclab
open Go.RowKit
set_option linter.unusedVariables false
set_option linter.unusedSimpArgs false

/-- What a round of a loop leads to: the next state, the end where q holds, or the function is left. -/
def Kt (B : Mm) (id n : Nat) (a : Prop) (i' : List (Nat × SV)) (M' : Mm) (q : Prop) (o : List (Nat × SV)) (M1 : Mm) (z : Prop) (ro : List (Nat × SV)) (Mr : Mm) : Ko := fun e fr2 M2 => match e with
  | .normal => a ∧ vLe B fr2 M2 n i' M' True
  | .exit j => j = id ∧ q ∧ vLe B fr2 M2 n o M1 True
  | .ret => z ∧ vLe B fr2 M2 n ro Mr True
  | _ => False
/-- What is said of such a loop. -/
def vLoopR (B : Mm) (n : Nat) (i0 : List (Nat × SV)) (M0 : Mm) (q : Prop) (o : List (Nat × SV)) (M1 : Mm) (z : Prop) (ro : List (Nat × SV)) (Mr : Mm) (fr : List SV) (M : Mm) (K : Ko) : Prop := vLe B fr M n i0 M0 ((q → frK n o fun fr1 => K .normal fr1 M1) ∧ (z → frK n ro fun fr1 => K .ret fr1 Mr))
theorem loop_ret {P : Program} {E : Env} (hE : EnvOk P E) (hm : P.follows .mixedOrders = true) {B : Mm} {f id : Nat} {L : LT} (hL : LOk P E.G B f L) (hG : E.G.length ≤ B.length) (hl : isLoop id (loopOf P f id) = true) {n : Nat} {q z : Prop} {o ro : List (Nat × SV)} {M1 Mr : Mm} {ι : Type} (I : ι → List (Nat × SV)) (Mi : ι → Mm) (p : ι → Prop) (μ : ι → Nat) (next : ι → ι) (i0 : ι) (hp : p i0)
    (hround : ∀ i, p i → frK n (I i) fun fr => vround P E L f id fr (Mi i) (Kt B id n (p (next i) ∧ μ (next i) < μ i) (I (next i)) (Mi (next i)) q o M1 z ro Mr)) : ∀ fr M K, vLoopR B n (I i0) (Mi i0) q o M1 z ro Mr fr M K → Wp P E.G B (loopOf P f id) fr M K := by
  intro fr M K h
  obtain ⟨h0, hK, hZ⟩ := vLe_ok h
  rw [frK_eq] at hK hZ
  have hc : loopOf P f id = .block id (.loop (body (loopOf P f id))) := by
    unfold isLoop at hl
    split at hl
    · rename_i j c he
      obtain rfl := Nat.eq_of_beq_eq_true hl
      rw [he]; rfl
    · cases hl
  refine Wp.le hG h0 ?_
  rw [hc]
  refine Wp.loop (fun m fr M => ∃ i, p i ∧ μ i = m ∧ fr = mkF n (I i) ∧ M = Mi i) (μ i0) ⟨i0, hp, rfl, rfl, rfl⟩ ?_
  rintro m fr M ⟨i, hpi, rfl, rfl, rfl⟩
  have h := hround i hpi
  rw [frK_eq] at h
  refine Wp.post hG ((vcode_ok hE (wd_of hE hm hL) _ _ _ _ h).mono fun e fr' M' hk => ?_)
  cases e with
  | normal => obtain ⟨h1, h2⟩ := hk; exact ⟨_, _, (vLe_ok h2).1, _, h1.2, next i, h1.1, rfl, rfl, rfl⟩
  | exit j => obtain ⟨h1, h2, h3⟩ := hk; exact ⟨_, _, (vLe_ok h3).1, h1, hK h2⟩
  | ret => obtain ⟨h1, h2⟩ := hk; exact ⟨_, _, (vLe_ok h2).1, hZ h1⟩
  | goto l => exact hk.elim
  | panic ch => exact hk.elim
  | outgrown => exact hk.elim
end Go.Proofs.Ytggoncamiafclab
namespace Go.Proofs.Ytggoncamiafclab
open Go.RowKit
set_option linter.unusedVariables false
set_option linter.unusedSimpArgs false

/-- At most n rounds of a loop; inner loops by L. -/
def vUn (P : Program) (E : Env) (L : LT) (f id : Nat) : Nat → List SV → Mm → Ko → Prop
  | 0, _, _, _ => False
  | n + 1, fr, M, K => vround P E L f id fr M fun e fr' M' => match e with
    | .normal => vUn P E L f id n fr' M' K
    | .exit j => bif Nat.beq j id then K .normal fr' M' else False
    | .ret => K .ret fr' M'
    | _ => False
theorem un_ok {P : Program} {E : Env} (hE : EnvOk P E) (hm : P.follows .mixedOrders = true) {B : Mm} {f id : Nat} {L : LT} (hL : LOk P E.G B f L) (hl : isLoop id (loopOf P f id) = true) (n : Nat) : ∀ fr M K, vUn P E L f id n fr M K → Wp P E.G B (loopOf P f id) fr M K := by
  intro fr M K h
  have hc : loopOf P f id = .block id (.loop (body (loopOf P f id))) := by
    unfold isLoop at hl
    split at hl
    · rename_i j c he
      obtain rfl := Nat.eq_of_beq_eq_true hl
      rw [he]; rfl
    · cases hl
  rw [hc]
  refine Wp.loop (fun m fr M => vUn P E L f id m fr M K) n h ?_
  intro m fr M hJ
  cases m with
  | zero => exact hJ.elim
  | succ m =>
    refine (vcode_ok hE (wd_of hE hm hL) _ _ _ _ hJ).mono fun e fr' M' hk => ?_
    cases e with
    | normal => exact ⟨m, Nat.lt_succ_self m, hk⟩
    | exit j =>
      replace hk : bif Nat.beq j id then K .normal fr' M' else False := hk
      cases hb : Nat.beq j id <;> rw [hb] at hk
      · exact hk.elim
      · exact ⟨Nat.eq_of_beq_eq_true hb, hk⟩
    | ret => exact hk
    | goto l => exact hk.elim
    | panic ch => exact hk.elim
    | outgrown => exact hk.elim
/-- A loop that is gone through at most n times, laid into a table. -/
theorem LT.un_ok {P : Program} {E : Env} (hE : EnvOk P E) (hm : P.follows .mixedOrders = true) {B : Mm} {f id : Nat} {L L0 : LT} (hL0 : LOk P E.G B f L0) (hL : LOk P E.G B f L) (hl : isLoop id (loopOf P f id) = true) (n : Nat) : LOk P E.G B f (L0.add id (vUn P E L f id n)) := LT.add_ok hL0 (Proofs.Ytggoncamiafclab.un_ok hE hm hL hl n)
end Go.Proofs.Ytggoncamiafclab
namespace Go.Proofs.Ytggoncamiafclab
open Go.RowKit
set_option linter.unusedVariables false
set_option linter.unusedSimpArgs false

end Go.Proofs.Ytggoncamiafclab
namespace Go.Proofs.Ytggoncamiafclab
open Go.RowKit
set_option linter.unusedVariables false
set_option linter.unusedSimpArgs false

end Go.Proofs.Ytggoncamiafclab
namespace Go.Proofs.Ytggoncamiafclab
open Go.RowKit
set_option linter.unusedVariables false
set_option linter.unusedSimpArgs false

/-- Contents that tell the same, places told otherwise. -/
def Alike (σ : Nat → Nat) (c c1 : Cont) : Prop := (c.isRes = true ∧ c1 = c) ∨ (c.isRes = false ∧ c1.isRes = false ∧ (∀ β : Nat → Nat, c.cells (fun k => β (σ k)) = c1.cells β) ∧ c.shp = c1.shp)
/-- M2 and r2 tell of the same world as M1 and r do; place k of M2 is place σ k of M1. -/
structure Mv (n : Nat) (M1 M2 : Mm) (σ : Nat → Nat) (r r2 : SV) : Prop where
  low : ∀ k, k < n → σ k = k
  len : n ≤ M2.length
  all : ∀ (k : Nat) (e : Ent), M2[k]? = some e → e.c.here = true → ∃ e1, M1[σ k]? = some e1 ∧ e1.c.here = true ∧ e1.rw = e.rw ∧ Alike σ e.c e1.c
  inj : ∀ (i j : Nat) (x y : Ent), M2[i]? = some x → M2[j]? = some y → i ≠ j → x.rw = true → x.c.here = true → y.c.here = true → σ i ≠ σ j
  wf : ∀ (k : Nat) (e : Ent), M2[k]? = some e → e.c.wf M2.length = true
  rw : ∀ (k : Nat) (e : Ent), M2[k]? = some e → e.rw = true → ∃ e1, M1[σ k]? = some e1 ∧ e1.rw = true ∧ ∀ b i, own b e.c i → own b e1.c i
  keep : ∀ (k : Nat) (e : Ent), k < n → M1[k]? = some e → ∃ c, M2[k]? = some ⟨e.rw, c⟩ ∧ (e.rw = false → c = e.c)
  new : ∀ (k : Nat) (e : Ent), n ≤ k → M2[k]? = some e → e.rw = true
  val : ∀ β : Nat → Nat, Proofs.Ytggoncamiafclab.val β r = Proofs.Ytggoncamiafclab.val (fun k => β (σ k)) r2
  rwf : r2.wf M2.length = true
/-- The same blocks, told otherwise ahead of a call. -/
structure Eqv (M M0 : Mm) : Prop where
  len : M.length = M0.length
  at' : ∀ (k : Nat) (e0 : Ent), M0[k]? = some e0 → ∃ e, M[k]? = some e ∧ e.rw = e0.rw ∧ (e0.c.here = true → e.c.here = true ∧ Alike (fun k => k) e0.c e.c) ∧ (e.rw = false → e.c = e0.c) ∧ (∀ b i, own b e0.c i → own b e.c i)
  wf : ∀ (k : Nat) (e0 : Ent), M0[k]? = some e0 → e0.c.wf M0.length = true
end Go.Proofs.Ytggoncamiafclab
