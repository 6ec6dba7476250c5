/-
  A reckoner of conditions: calls that change what they are handed. No statement is proved here.
-/
import Derived.Test.YtkjfecdpakhggaaVcU
namespace Go.Proofs.Ytkjfecdpakhggaa
open Go.RowKit
set_option linter.unusedVariables false
set_option linter.unusedSimpArgs false

theorem sig_oldV (b : Nat) (rs : List Nat) (k : Nat) (h : k < b) : sig b rs k = k := by
  unfold sig
  have : Nat.blt k b = true := by simpa [Nat.blt_eq] using h
  rw [this]; rfl
theorem sig_new (b : Nat) (rs : List Nat) (i : Nat) : sig b rs (b + i) = rs.getD i 0 := by
  unfold sig
  have : Nat.blt (b + i) b = false := by
    cases hq : Nat.blt (b + i) b
    · rfl
    · exact absurd (blt_lt hq) (by omega)
  rw [this, Nat.add_sub_cancel_left]; rfl
/-- Blocks that are handed lie at those places. -/
def liesK (n b : Nat) (σ : Nat → Nat) (M : Mm) : List Nat → Mm → Prop
  | [], [] => True
  | k :: ks, e :: R => (∃ r, M[k]? = some ⟨r, e.c.ren σ⟩ ∧ (e.rw = true → r = true)) ∧ (e.c.here = true ∧ e.c.wf n = true) ∧ liesK n b σ M ks R
  | _, _ => False
theorem liesK_ok {n b : Nat} {σ : Nat → Nat} {M : Mm} : ∀ (ks : List Nat) (R : Mm), liesK n b σ M ks R → ks.length = R.length ∧ ∀ (i : Nat) (e : Ent), R[i]? = some e → ∃ r, M[ks.getD i 0]? = some ⟨r, e.c.ren σ⟩ ∧ (e.rw = true → r = true) ∧ e.c.here = true ∧ e.c.wf n = true
  | [], [], h => ⟨rfl, fun i e he => by cases he⟩
  | k :: ks, e :: R, h => by
    obtain ⟨⟨r, h1, h2⟩, h3, h4⟩ := h
    obtain ⟨h5, h6⟩ := liesK_ok ks R h4
    refine ⟨by simp [h5], fun i x hx => ?_⟩
    cases i with
    | zero => obtain rfl := Option.some.inj hx; exact ⟨r, h1, h2, h3.1, h3.2⟩
    | succ i => exact h6 i x hx
  | [], _ :: _, h => h.elim
  | _ :: _, [], h => h.elim
theorem lies_of {G R M : Mm} {β : Nat → Nat} {w : World} (hR : Rel G β M w) (ks : List Nat) (hk : liesK (G.length + R.length) G.length (sig G.length ks) M ks R) (hn : ks.Nodup) : Lies G R M (sig G.length ks) := by
  obtain ⟨h1, h2⟩ := liesK_ok ks R hk
  refine ⟨hR.gl, sig_oldV _ _, fun i e he => ?_, fun i j x y hx hy hij hr => ?_⟩
  · rw [sig_new]; exact h2 i e he
  · rw [sig_new, sig_new]
    have hi : i < ks.length := by rw [h1]; exact lt_of_get hx
    have hj : j < ks.length := by rw [h1]; exact lt_of_get hy
    rw [List.getD_eq_getElem?_getD, List.getD_eq_getElem?_getD, List.getElem?_eq_getElem hi, List.getElem?_eq_getElem hj]
    intro e
    exact hij ((List.getElem_inj hn).1 e)
theorem eff_of {P : Program} {G R M : Mm} {f : Nat} {args0 args : List SV} {K0 K : SV → Mm → Prop} (ks : List Nat) (hS : Spec P G f args0 (G ++ R) K0) (hargs : args = rens (sig G.length ks) args0) (ha : SV.wf.wfs (G.length + R.length) args0 = true) (hn : ks.Nodup) (hk : liesK (G.length + R.length) G.length (sig G.length ks) M ks R) (hK : ∀ r1 M1, K0 r1 M1 → K (ren (reloc (sig G.length ks) (G ++ R).length M.length) r1) (back G R M (sig G.length ks) M1)) : Spec P G f args M K := fun β w hR hw => by
  subst hargs
  refine (lift_of hS hR (lies_of hR ks hk hn) (by rw [List.length_append]; exact ha)).mono fun v w' hh => ?_
  obtain ⟨β2, M2, r2, h1, h2, h3, r1, M1, h4, rfl, rfl⟩ := hh
  exact ⟨β2, _, _, h1, h2, h3, hK _ _ h4⟩
/-- A function that reads alone, of blocks that lie anywhere. -/
theorem pureN {P : Program} {G R : Mm} {f : Nat} {args0 args : List SV} {r0 : SV} (ks : List Nat) (hS : Spec P G f args0 (G ++ R) (fun r _ => r = r0)) (hargs : args = rens (sig G.length ks) args0) (ha : SV.wf.wfs (G.length + R.length) args0 = true) (hro : ∀ (i : Nat) (e : Ent), R[i]? = some e → e.rw = false) (hr : r0.wf 0 = true) (hn : ks.Nodup) {β : Nat → Nat} {M : Mm} {w : World} (hR : Rel G β M w) (hk : liesK (G.length + R.length) G.length (sig G.length ks) M ks R) : CallR P f (vals β args).toArray w (fun v w' => v = val β r0 ∧ Fp0 w w') := by
  subst hargs
  have := pure_of hS hR (lies_of hR ks hk hn) hro (by rw [List.length_append]; exact ha) (wf_mono (Nat.zero_le _) r0 hr)
  rw [ren_id (n := 0) (fun _ h => absurd h (by omega)) r0 hr] at this
  exact this
end Go.Proofs.Ytkjfecdpakhggaa
namespace Go.Proofs.Ytkjfecdpakhggaa
open Go.RowKit
set_option linter.unusedVariables false
set_option linter.unusedSimpArgs false

/-- What a round of a loop leads to: the next state, the end where q holds, or the function is left. -/
def Kt (B : Mm) (id n : Nat) (a : Prop) (i' : List (Nat × SV)) (M' : Mm) (q : Prop) (o : List (Nat × SV)) (M1 : Mm) (z : Prop) (ro : List (Nat × SV)) (Mr : Mm) : Ko := fun e fr2 M2 => match e with
  | .normal => a ∧ vLe B fr2 M2 n i' M' True
  | .exit j => j = id ∧ q ∧ vLe B fr2 M2 n o M1 True
  | .ret => z ∧ vLe B fr2 M2 n ro Mr True
  | _ => False
/-- What is said of such a loop. -/
def vLoopR (B : Mm) (n : Nat) (i0 : List (Nat × SV)) (M0 : Mm) (q : Prop) (o : List (Nat × SV)) (M1 : Mm) (z : Prop) (ro : List (Nat × SV)) (Mr : Mm) (fr : List SV) (M : Mm) (K : Ko) : Prop := vLe B fr M n i0 M0 ((q → frK n o fun fr1 => K .normal fr1 M1) ∧ (z → frK n ro fun fr1 => K .ret fr1 Mr))
theorem loop_ret {P : Program} {E : Env} (hE : EnvOk P E) (hm : P.follows .mixedOrders = true) {B : Mm} {f id : Nat} {L : LT} (hL : LOk P E.G B f L) (hG : E.G.length ≤ B.length) (hl : isLoop id (loopOf P f id) = true) {n : Nat} {q z : Prop} {o ro : List (Nat × SV)} {M1 Mr : Mm} {ι : Type} (I : ι → List (Nat × SV)) (Mi : ι → Mm) (p : ι → Prop) (μ : ι → Nat) (next : ι → ι) (i0 : ι) (hp : p i0)
    (hround : ∀ i, p i → frK n (I i) fun fr => vround P E L f id fr (Mi i) (Kt B id n (p (next i) ∧ μ (next i) < μ i) (I (next i)) (Mi (next i)) q o M1 z ro Mr)) : ∀ fr M K, vLoopR B n (I i0) (Mi i0) q o M1 z ro Mr fr M K → Wp P E.G B (loopOf P f id) fr M K := by
  intro fr M K h
  obtain ⟨h0, hK, hZ⟩ := vLe_ok h
  rw [frK_eq] at hK hZ
  have hc : loopOf P f id = .block id (.loop (body (loopOf P f id))) := by
    unfold isLoop at hl
    split at hl
    · rename_i j c he
      obtain rfl := Nat.eq_of_beq_eq_true hl
      rw [he]; rfl
    · cases hl
  refine Wp.le hG h0 ?_
  rw [hc]
  refine Wp.loop (fun m fr M => ∃ i, p i ∧ μ i = m ∧ fr = mkF n (I i) ∧ M = Mi i) (μ i0) ⟨i0, hp, rfl, rfl, rfl⟩ ?_
  rintro m fr M ⟨i, hpi, rfl, rfl, rfl⟩
  have h := hround i hpi
  rw [frK_eq] at h
  refine Wp.post hG ((vcode_ok hE (wd_of hE hm hL) _ _ _ _ h).mono fun e fr' M' hk => ?_)
  cases e with
  | normal => obtain ⟨h1, h2⟩ := hk; exact ⟨_, _, (vLe_ok h2).1, _, h1.2, next i, h1.1, rfl, rfl, rfl⟩
  | exit j => obtain ⟨h1, h2, h3⟩ := hk; exact ⟨_, _, (vLe_ok h3).1, h1, hK h2⟩
  | ret => obtain ⟨h1, h2⟩ := hk; exact ⟨_, _, (vLe_ok h2).1, hZ h1⟩
  | goto l => exact hk.elim
  | panic ch => exact hk.elim
  | outgrown => exact hk.elim
/-- A word that is worked out before it is used. -/
def fw (x : BitVec 64) (K : BitVec 64 → Prop) : Prop := Nat.rec (motive := fun _ => Prop) (K 0#64) (fun m _ => K (BitVec.ofNat 64 (m + 1))) x.toNat
theorem fw_eq (x : BitVec 64) (K : BitVec 64 → Prop) : fw x K = K x := by
  have key : ∀ n : Nat, x.toNat = n → Nat.rec (motive := fun _ => Prop) (K 0#64) (fun m _ => K (BitVec.ofNat 64 (m + 1))) n = K x := by
    intro n h
    cases n with
    | zero =>
      have : 0#64 = x := BitVec.eq_of_toNat_eq (by rw [h]; rfl)
      exact congrArg K this
    | succ m =>
      have : BitVec.ofNat 64 (m + 1) = x := BitVec.eq_of_toNat_eq (by rw [h, BitVec.toNat_ofNat]; have := x.isLt; omega)
      exact congrArg K this
  exact key x.toNat rfl
def fl : List (BitVec 64) → (List (BitVec 64) → Prop) → Prop
  | [], K => K []
  | x :: l, K => fw x fun y => fl l fun m => K (y :: m)
theorem fl_eq : ∀ (l : List (BitVec 64)) (K : List (BitVec 64) → Prop), fl l K = K l
  | [], K => rfl
  | x :: l, K => by rw [fl, fw_eq, fl_eq l]
end Go.Proofs.Ytkjfecdpakhggaa
namespace Go.Proofs.Ytkjfecdpakhggaa
open Go.RowKit
set_option linter.unusedVariables false
set_option linter.unusedSimpArgs false

/-- At most n rounds of a loop; inner loops by L. -/
def vUn (P : Program) (E : Env) (L : LT) (f id : Nat) : Nat → List SV → Mm → Ko → Prop
  | 0, _, _, _ => False
  | n + 1, fr, M, K => vround P E L f id fr M fun e fr' M' => match e with
    | .normal => vUn P E L f id n fr' M' K
    | .exit j => bif Nat.beq j id then K .normal fr' M' else False
    | .ret => K .ret fr' M'
    | _ => False
theorem un_ok {P : Program} {E : Env} (hE : EnvOk P E) (hm : P.follows .mixedOrders = true) {B : Mm} {f id : Nat} {L : LT} (hL : LOk P E.G B f L) (hl : isLoop id (loopOf P f id) = true) (n : Nat) : ∀ fr M K, vUn P E L f id n fr M K → Wp P E.G B (loopOf P f id) fr M K := by
  intro fr M K h
  have hc : loopOf P f id = .block id (.loop (body (loopOf P f id))) := by
    unfold isLoop at hl
    split at hl
    · rename_i j c he
      obtain rfl := Nat.eq_of_beq_eq_true hl
      rw [he]; rfl
    · cases hl
  rw [hc]
  refine Wp.loop (fun m fr M => vUn P E L f id m fr M K) n h ?_
  intro m fr M hJ
  cases m with
  | zero => exact hJ.elim
  | succ m =>
    refine (vcode_ok hE (wd_of hE hm hL) _ _ _ _ hJ).mono fun e fr' M' hk => ?_
    cases e with
    | normal => exact ⟨m, Nat.lt_succ_self m, hk⟩
    | exit j =>
      replace hk : bif Nat.beq j id then K .normal fr' M' else False := hk
      cases hb : Nat.beq j id <;> rw [hb] at hk
      · exact hk.elim
      · exact ⟨Nat.eq_of_beq_eq_true hb, hk⟩
    | ret => exact hk
    | goto l => exact hk.elim
    | panic ch => exact hk.elim
    | outgrown => exact hk.elim
/-- A loop that is gone through at most n times, laid into a table. -/
theorem LT.un_ok {P : Program} {E : Env} (hE : EnvOk P E) (hm : P.follows .mixedOrders = true) {B : Mm} {f id : Nat} {L L0 : LT} (hL0 : LOk P E.G B f L0) (hL : LOk P E.G B f L) (hl : isLoop id (loopOf P f id) = true) (n : Nat) : LOk P E.G B f (L0.add id (vUn P E L f id n)) := LT.add_ok hL0 (Proofs.Ytkjfecdpakhggaa.un_ok hE hm hL hl n)
end Go.Proofs.Ytkjfecdpakhggaa
namespace Go.Proofs.Ytkjfecdpakhggaa
open Go.RowKit
set_option linter.unusedVariables false
set_option linter.unusedSimpArgs false

theorem loop_nextL {P : Program} {E : Env} (hE : EnvOk P E) (hm : P.follows .mixedOrders = true) {B : Mm} {f id : Nat} (hG : E.G.length ≤ B.length) (hl : isLoop id (loopOf P f id) = true) {n : Nat} {o : List (Nat × SV)} {M1 : Mm} {ι : Type} {L : ι → LT} (hL : ∀ i, LOk P E.G B f (L i)) (I : ι → List (Nat × SV)) (Mi : ι → Mm) (p : ι → Prop) (μ : ι → Nat) (next : ι → ι) (i0 : ι) (hp : p i0)
    (hround : ∀ i, p i → frK n (I i) fun fr => vround P E (L i) f id fr (Mi i) (Kn B id n (p (next i) ∧ μ (next i) < μ i) (I (next i)) (Mi (next i)) o M1)) : ∀ fr M K, vLoop B n (I i0) (Mi i0) o M1 fr M K → Wp P E.G B (loopOf P f id) fr M K := by
  intro fr M K h
  obtain ⟨h0, hK⟩ := vLoop_ok h
  have hc : loopOf P f id = .block id (.loop (body (loopOf P f id))) := by
    unfold isLoop at hl
    split at hl
    · rename_i j c he
      obtain rfl := Nat.eq_of_beq_eq_true hl
      rw [he]; rfl
    · cases hl
  refine Wp.le hG h0 ?_
  rw [hc]
  refine Wp.loop (fun m fr M => ∃ i, p i ∧ μ i = m ∧ fr = mkF n (I i) ∧ M = Mi i) (μ i0) ⟨i0, hp, rfl, rfl, rfl⟩ ?_
  rintro m fr M ⟨i, hpi, rfl, rfl, rfl⟩
  have h := hround i hpi
  rw [frK_eq] at h
  refine Wp.post hG ((vcode_ok hE (wd_of hE hm (hL i)) _ _ _ _ h).mono fun e fr' M' hk => ?_)
  cases e with
  | normal => obtain ⟨h1, h2⟩ := hk; exact ⟨_, _, (vLe_ok h2).1, _, h1.2, next i, h1.1, rfl, rfl, rfl⟩
  | exit j => obtain ⟨h1, h2⟩ := hk; exact ⟨_, _, (vLe_ok h2).1, h1, hK⟩
  | ret => exact hk.elim
  | goto l => exact hk.elim
  | panic ch => exact hk.elim
  | outgrown => exact hk.elim
end Go.Proofs.Ytkjfecdpakhggaa
namespace Go.Proofs.Ytkjfecdpakhggaa
open Go.RowKit
set_option linter.unusedVariables false
set_option linter.unusedSimpArgs false

theorem Spec.selE {P : Program} {G M : Mm} {f : Nat} {args : List SV} {ι : Type} {p : ι → Prop} {r' : ι → SV} {M' : ι → Mm} {rs : ι → List Nat} (hG : G.length ≤ M.length) (hr : ∀ i, isAny (r' i) = false) (hS : Spec P G f args M (fun r M1 => ∃ i, p i ∧ vLeR M [r] M1 1 [(0, r' i)] (M' i) (rs i) True)) : Spec P G f args M (fun r M1 => ∃ i, p i ∧ r = r' i ∧ M1 = M' i) := by
  intro β w hR hw
  refine (hS β w hR hw).mono fun v w' hh => ?_
  obtain ⟨β1, M1, r, hE, hR1, ⟨hwf, rfl⟩, i, hp, hK⟩ := hh
  obtain ⟨hl, -⟩ := vLeR_ok hK
  have hF : RelF β1 M1.length [r] { tmps := #[val β1 r], defers := [] } := by
    refine ⟨rfl, fun k x hx => ?_, rfl⟩
    cases k with
    | zero => obtain rfl := Option.some.inj hx; exact .inr ⟨hwf, rfl⟩
    | succ k => cases hx
  obtain ⟨h1, h2, h3⟩ := hl.go hG hE hF hR1
  have h4 := h2.at' 0 (r' i) rfl
  rcases h4 with e | ⟨e1, e2⟩
  · have := hr i; rw [e] at this; cases this
  · exact ⟨_, M' i, r' i, h1, h3, ⟨e1, e2⟩, i, hp, rfl, rfl⟩
end Go.Proofs.Ytkjfecdpakhggaa
namespace Go.Proofs.Ytkjfecdpakhggaa
open Go.RowKit
set_option linter.unusedVariables false
set_option linter.unusedSimpArgs false

/-- Contents that tell the same, places told otherwise. -/
def Alike (σ : Nat → Nat) (c c1 : Cont) : Prop := (c.isRes = true ∧ c1 = c) ∨ (c.isRes = false ∧ c1.isRes = false ∧ (∀ β : Nat → Nat, c.cells (fun k => β (σ k)) = c1.cells β) ∧ c.shp = c1.shp)
theorem Alike.at_eq {σ : Nat → Nat} {c c1 : Cont} (h : Alike σ c c1) (β : Nat → Nat) (w : World) (b : Nat) (rw : Bool) : At (fun k => β (σ k)) w b rw c = At β w b rw c1 := by
  rcases h with ⟨h, rfl⟩ | ⟨h1, h2, h3, h4⟩
  · cases c1 <;> first | rfl | cases h
  · rw [propext (At_of h1), propext (At_of h2), h3, h4]
theorem Alike.own_iff {σ : Nat → Nat} {c c1 : Cont} (h : Alike σ c c1) (b i : Nat) : own b c i ↔ own b c1 i := by
  rcases h with ⟨h, rfl⟩ | ⟨h1, h2, -, -⟩
  · exact Iff.rfl
  · rw [own_of h1, own_of h2]
/-- M2 and r2 tell of the same world as M1 and r do; place k of M2 is place σ k of M1. -/
structure Mv (n : Nat) (M1 M2 : Mm) (σ : Nat → Nat) (r r2 : SV) : Prop where
  low : ∀ k, k < n → σ k = k
  len : n ≤ M2.length
  all : ∀ (k : Nat) (e : Ent), M2[k]? = some e → e.c.here = true → ∃ e1, M1[σ k]? = some e1 ∧ e1.c.here = true ∧ e1.rw = e.rw ∧ Alike σ e.c e1.c
  inj : ∀ (i j : Nat) (x y : Ent), M2[i]? = some x → M2[j]? = some y → i ≠ j → x.rw = true → x.c.here = true → y.c.here = true → σ i ≠ σ j
  wf : ∀ (k : Nat) (e : Ent), M2[k]? = some e → e.c.wf M2.length = true
  rw : ∀ (k : Nat) (e : Ent), M2[k]? = some e → e.rw = true → ∃ e1, M1[σ k]? = some e1 ∧ e1.rw = true ∧ ∀ b i, own b e.c i → own b e1.c i
  keep : ∀ (k : Nat) (e : Ent), k < n → M1[k]? = some e → ∃ c, M2[k]? = some ⟨e.rw, c⟩ ∧ (e.rw = false → c = e.c)
  new : ∀ (k : Nat) (e : Ent), n ≤ k → M2[k]? = some e → e.rw = true
  val : ∀ β : Nat → Nat, Proofs.Ytkjfecdpakhggaa.val β r = Proofs.Ytkjfecdpakhggaa.val (fun k => β (σ k)) r2
  rwf : r2.wf M2.length = true
theorem Spec.re {P : Program} {G M : Mm} {f : Nat} {args : List SV} {K K' : SV → Mm → Prop} (hS : Spec P G f args M K) (h : ∀ r M1, K r M1 → ∃ r2 M2 σ, Mv M.length M1 M2 σ r r2 ∧ K' r2 M2) : Spec P G f args M K' := by
  intro β w hR hw
  refine (hS β w hR hw).mono fun v w' hh => ?_
  obtain ⟨β1, M1, r, hE, hR1, ⟨hwf, rfl⟩, hK⟩ := hh
  obtain ⟨r2, M2, σ, hm, hK2⟩ := h r M1 hK
  have hn : G.length ≤ M.length := hR.gl
  refine ⟨fun k => β1 (σ k), M2, r2, ⟨fun k hk => ?_, hm.len, fun b hb => ?_, hE.fp, fun k e he => ?_, hm.new⟩, ⟨fun k e he hh => ?_, fun i j x y hx hy hij hr hxh hyh => ?_, fun g hg => ?_, Nat.le_trans hn hm.len, fun k hk => ?_, hR.ro, hm.wf⟩, ⟨hm.rwf, hm.val β1⟩, hK2⟩
  · rw [hm.low k hk]; exact hE.agree k hk
  · obtain ⟨k, e, he, hr, hb⟩ := hb
    obtain ⟨e1, h1, h2, h3⟩ := hm.rw k e he hr
    exact hE.rws b ⟨σ k, e1, h1, h2, h3 _ _ hb⟩
  · obtain ⟨c, h1, h2⟩ := hE.keep k e he
    obtain ⟨d, h3, h4⟩ := hm.keep k _ (lt_of_get he) h1
    exact ⟨d, h3, fun hr => (h4 hr).trans (h2 hr)⟩
  · obtain ⟨e1, h1, h2, h3, h4⟩ := hm.all k e he hh
    have := hR1.all (σ k) e1 h1 h2
    rw [h3, ← h4.at_eq] at this
    exact this
  · obtain ⟨x1, h1, h2, h3, h4⟩ := hm.all i x hx hxh
    obtain ⟨y1, k1, k2, k3, k4⟩ := hm.all j y hy hyh
    exact fun b hb hb' => hR1.dis _ _ _ _ h1 k1 (hm.inj i j x y hx hy hij hr hxh hyh) (by rw [h3]; exact hr) h2 k2 b ((h4.own_iff _ _).1 hb) ((k4.own_iff _ _).1 hb')
  · show β1 (σ g) = g
    rw [hm.low g (Nat.lt_of_lt_of_le hg hn)]; exact hR1.glob g hg
  · have h1 := hR1.pre k hk
    obtain ⟨e, he⟩ : ∃ e, G[k]? = some e := ⟨_, List.getElem?_eq_getElem hk⟩
    obtain ⟨hro, -⟩ := hR.ro k e he
    rw [he] at h1 ⊢
    obtain ⟨c, h3, h4⟩ := hm.keep k e (Nat.lt_of_lt_of_le hk hn) h1
    rw [h3, h4 hro]
/-- The same blocks, told otherwise ahead of a call. -/
structure Eqv (M M0 : Mm) : Prop where
  len : M.length = M0.length
  at' : ∀ (k : Nat) (e0 : Ent), M0[k]? = some e0 → ∃ e, M[k]? = some e ∧ e.rw = e0.rw ∧ (e0.c.here = true → e.c.here = true ∧ Alike (fun k => k) e0.c e.c) ∧ (e.rw = false → e.c = e0.c) ∧ (∀ b i, own b e0.c i → own b e.c i)
  wf : ∀ (k : Nat) (e0 : Ent), M0[k]? = some e0 → e0.c.wf M0.length = true
theorem Spec.pre {P : Program} {G M M0 : Mm} {f : Nat} {args args0 : List SV} {K : SV → Mm → Prop} (hS : Spec P G f args0 M0 K) (hv : ∀ β : Nat → Nat, vals β args = vals β args0) (ha : SV.wf.wfs M0.length args0 = true) (hE : Eqv M M0) : Spec P G f args M K := by
  intro β w hR hw
  have back : ∀ (k : Nat) (e : Ent), M[k]? = some e → ∃ e0, M0[k]? = some e0 ∧ e.rw = e0.rw ∧ (e.rw = false → e.c = e0.c) := fun k e he => by
    have hk := lt_of_get he
    obtain ⟨e0, h0⟩ : ∃ e0, M0[k]? = some e0 := ⟨_, List.getElem?_eq_getElem (by rw [← hE.len]; exact hk)⟩
    obtain ⟨e', h1, h2, -, h4, -⟩ := hE.at' k _ h0
    rw [he] at h1
    obtain rfl := Option.some.inj h1
    exact ⟨_, h0, h2, h4⟩
  have hR0 : Rel G β M0 w := by
    refine ⟨fun k e he hh => ?_, fun i j x y hx hy hij hr hxh hyh => ?_, hR.glob, by rw [← hE.len]; exact hR.gl, fun k hk => ?_, hR.ro, hE.wf⟩
    · obtain ⟨e1, h1, h2, h3, -⟩ := hE.at' k e he
      obtain ⟨h5, h6⟩ := h3 hh
      have := hR.all k e1 h1 h5
      rw [h2, ← h6.at_eq] at this
      exact this
    · obtain ⟨x1, h1, h2, h3, -⟩ := hE.at' i x hx
      obtain ⟨y1, k1, k2, k3, -⟩ := hE.at' j y hy
      exact fun b hb hb' => hR.dis _ _ _ _ h1 k1 hij (by rw [h2]; exact hr) (h3 hxh).1 (k3 hyh).1 b (((h3 hxh).2.own_iff _ _).1 hb) (((k3 hyh).2.own_iff _ _).1 hb')
    · have h1 := hR.pre k hk
      obtain ⟨e, he⟩ : ∃ e, G[k]? = some e := ⟨_, List.getElem?_eq_getElem hk⟩
      obtain ⟨hro, -⟩ := hR.ro k e he
      rw [he] at h1 ⊢
      obtain ⟨e0, h2, h3, h4⟩ := back k e h1
      rw [h2]
      obtain ⟨r0, c0⟩ := e0
      obtain ⟨r1, c1⟩ := e
      simp only at h3 h4 hro
      rw [← h3, ← h4 hro]
  have rws : ∀ b, rwset β M0 b → rwset β M b := fun b hb => by
    obtain ⟨k, e, he, hr, hb⟩ := hb
    obtain ⟨e1, h1, h2, -, -, h5⟩ := hE.at' k e he
    exact ⟨k, e1, h1, by rw [h2]; exact hr, h5 _ _ hb⟩
  rw [hv]
  refine (hS β w hR0 ha).mono fun v w' hh => ?_
  obtain ⟨β1, M1, r, hX, hR1, hr, hK⟩ := hh
  refine ⟨β1, M1, r, ⟨fun k hk => hX.agree k (by rw [← hE.len]; exact hk), by rw [hE.len]; exact hX.len, fun b hb => (hX.rws b hb).imp (rws b) id, hX.fp.mono (fun k _ hk => rws k hk), fun k e he => ?_, fun k e hk he => hX.new k e (by rw [← hE.len]; exact hk) he⟩, hR1, hr, hK⟩
  obtain ⟨e0, h1, h2, h3⟩ := back k e he
  obtain ⟨c, h4, h5⟩ := hX.keep k e0 h1
  exact ⟨c, by rw [h2]; exact h4, fun hf => (h5 (by rw [← h2]; exact hf)).trans (h3 hf).symm⟩
end Go.Proofs.Ytkjfecdpakhggaa
