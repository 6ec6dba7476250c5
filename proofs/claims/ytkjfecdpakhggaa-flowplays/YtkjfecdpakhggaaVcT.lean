/-
  A reckoner of conditions: tables of what functions answer. No statement is proved here.
-/
import Derived.Test.YtkjfecdpakhggaaVcS
namespace Go.Proofs.Ytkjfecdpakhggaa
open Go.RowKit
set_option linter.unusedVariables false
set_option linter.unusedSimpArgs false

def noT : PT := fun _ _ _ => none
def noC : CT := fun _ _ _ _ => False
def PT.add (T : PT) (f : Nat) (c : List SV → List Cont → Option (Bool × SV)) : PT := fun g => bif Nat.beq g f then c else T g
def CT.add (C : CT) (f : Nat) (c : List SV → Mm → (SV → Mm → Prop) → Prop) : CT := fun g => bif Nat.beq g f then c else C g
theorem noT_ok (P : Program) (G : Mm) : PTok P G noT := fun _ _ _ _ h => by cases h
theorem noC_ok (P : Program) (G : Mm) : CTok P G noC := fun _ _ _ _ h => h.elim
/-- What a function answers that reads alone. -/
def POk (P : Program) (G : Mm) (f : Nat) (c : List SV → List Cont → Option (Bool × SV)) : Prop := ∀ args acs r, c args acs = some (true, r) → ∀ β M w, Rel G β M w → SV.wf.wfs M.length args = true → acs = args.map (tgt M) → CallR P f (vals β args).toArray w (fun v w' => v = val β r ∧ Fp0 w w')
def COk (P : Program) (G : Mm) (f : Nat) (c : List SV → Mm → (SV → Mm → Prop) → Prop) : Prop := ∀ args M K, c args M K → Spec P G f args M K
theorem PT.add_ok {P : Program} {G : Mm} {T : PT} (hT : PTok P G T) {f : Nat} {c : List SV → List Cont → Option (Bool × SV)} (hc : POk P G f c) : PTok P G (T.add f c) := fun g args acs r h => by
  unfold PT.add at h
  cases hb : Nat.beq g f <;> rw [hb] at h
  · exact hT g args acs r h
  · obtain rfl := Nat.eq_of_beq_eq_true hb
    exact hc args acs r h
theorem CT.add_ok {P : Program} {G : Mm} {C : CT} (hC : CTok P G C) {f : Nat} {c : List SV → Mm → (SV → Mm → Prop) → Prop} (hc : COk P G f c) : CTok P G (C.add f c) := fun g args M K h => by
  unfold CT.add at h
  cases hb : Nat.beq g f <;> rw [hb] at h
  · exact hC g args M K h
  · obtain rfl := Nat.eq_of_beq_eq_true hb
    exact hc args M K h
theorem CallR.mono {P : Program} {f : Nat} {args : Array Value} {W : World} {R R' : Value → World → Prop} (h : CallR P f args W R) (hR : ∀ v w', R v w' → R' v w') : CallR P f args W R' := by
  rcases h with ⟨v, W', h2, h3⟩ | ⟨h2, h3⟩
  · exact .inl ⟨v, W', h2, hR _ _ h3⟩
  · exact .inr ⟨h2, h3.mono fun e W' ⟨v, he, hq⟩ => ⟨v, he, hR _ _ hq⟩⟩
theorem Lies.none {G M : Mm} {β : Nat → Nat} {w : World} (h : Rel G β M w) : Lies G [] M (fun k => k) := ⟨h.gl, fun _ _ => rfl, (fun i e he => by cases he), (fun i j x y he => by cases he)⟩
/-- A function of values that point to nothing. -/
theorem pure0 {P : Program} {G : Mm} {f : Nat} {args : List SV} {r0 : SV} (hS : Spec P G f args G (fun r _ => r = r0)) (ha : SV.wf.wfs 0 args = true) (hr : r0.wf 0 = true) {β : Nat → Nat} {M : Mm} {w : World} (hR : Rel G β M w) : CallR P f (vals β args).toArray w (fun v w' => v = val β r0 ∧ Fp0 w w') := by
  have e1 : rens (fun k => k) args = args := rens_id (n := 0) (fun _ _ => rfl) args ha
  have e2 : ren (fun k => k) r0 = r0 := ren_id (n := 0) (fun _ _ => rfl) r0 hr
  have := pure_of (R := []) (σ := fun k => k) (by rw [List.append_nil]; exact hS) hR (Lies.none hR) (fun i e he => by cases he) (wfs_mono (Nat.zero_le _) args ha) (wf_mono (Nat.zero_le _) r0 hr)
  rw [e1, e2] at this
  exact this
def put1 (n k : Nat) : Nat → Nat := fun j => if j = n then k else j
theorem Lies.one {G M : Mm} {β : Nat → Nat} {w : World} (h : Rel G β M w) {k : Nat} {c : Cont} (hk : ∃ r, M[k]? = some ⟨r, c⟩) (hh : c.here = true) (hw : c.wf 0 = true) (hc : ∀ σ, c.ren σ = c) : Lies G [⟨false, c⟩] M (put1 G.length k) := by
  refine ⟨h.gl, fun j hj => by unfold put1; rw [if_neg (by omega)], fun i e he => ?_, fun i j x y hx hy hij hr => ?_⟩
  · cases i with
    | zero =>
      obtain rfl := Option.some.inj he
      obtain ⟨r, hr⟩ := hk
      exact ⟨r, by simp only [hc, Nat.add_zero, put1, if_true]; exact hr, fun h => (nomatch h), hh, cwf_mono (Nat.zero_le _) _ hw⟩
    | succ i => cases he
  · cases i with
    | zero => obtain rfl := Option.some.inj hx; cases hr
    | succ i => cases hx
theorem tgt_some {M : Mm} {k off len cap : Nat} {c : Cont} (h : tgt M (.sl k off len cap) = c) (hh : c.here = true) : ∃ r, M[k]? = some ⟨r, c⟩ := by
  unfold tgt at h
  dsimp only at h
  cases hk : M[k]? with
  | none => rw [hk] at h; subst h; cases hh
  | some e => rw [hk] at h; exact ⟨e.rw, by subst h; rfl⟩
/-- A function of values, one of them a slice of a block. -/
theorem pure1 {P : Program} {G : Mm} {f k : Nat} {c : Cont} {args0 args : List SV} {r0 : SV} (hS : Spec P G f args0 (G ++ [⟨false, c⟩]) (fun r _ => r = r0)) (hargs : args = rens (put1 G.length k) args0) (ha : SV.wf.wfs (G.length + 1) args0 = true) (hr : r0.wf 0 = true) (hh : c.here = true) (hw : c.wf 0 = true) (hc : ∀ σ, c.ren σ = c) {β : Nat → Nat} {M : Mm} {w : World} (hR : Rel G β M w) (hk : ∃ r, M[k]? = some ⟨r, c⟩) : CallR P f (vals β args).toArray w (fun v w' => v = val β r0 ∧ Fp0 w w') := by
  have e2 : ren (put1 G.length k) r0 = r0 := ren_id (n := 0) (fun _ h => absurd h (by omega)) r0 hr
  have := pure_of (R := [⟨false, c⟩]) (σ := put1 G.length k) hS hR (Lies.one hR hk hh hw hc) (fun i e he => by
    cases i with
    | zero => obtain rfl := Option.some.inj he; rfl
    | succ i => cases he) (by rw [List.length_append]; exact ha) (wf_mono (Nat.zero_le _) r0 hr)
  rw [e2] at this
  rw [hargs]
  exact this
/-- The same, where it is told. -/
def eqA (n : Nat) (x y z : SV) (K : Prop) : Prop := match z with
  | .any => K
  | _ => x = y ∧ vsome (z.wf n) K
theorem eqA_iff {n : Nat} {x y z : SV} {K : Prop} : eqA n x y z K ↔ (z = .any ∧ K) ∨ (z ≠ .any ∧ x = y ∧ vsome (z.wf n) K) := by
  unfold eqA
  split
  · simp
  · rename_i h; exact ⟨fun k => .inr ⟨h, k⟩, fun k => k.elim (fun k => absurd k.1 h) (fun k => k.2)⟩
theorem eqA_of {n : Nat} {x y z : SV} {K : Prop} (h : x = y) (hw : z.wf n = true) (k : K) : eqA n x y z K := by
  unfold eqA
  split
  · exact k
  · exact ⟨h, vsome_iff.2 ⟨hw, k⟩⟩
/-- A frame of which less is known. -/
def leK (n : Nat) : List SV → List SV → Prop → Prop
  | [], [], K => K
  | x :: l, y :: m, K => eqA n x y y (leK n l m K)
  | _, _, _ => False
def preK (n : Nat) : Mm → Mm → Prop → Prop
  | _, [], K => K
  | ⟨a, c⟩ :: M, ⟨b, d⟩ :: M', K => (a = b ∧ c = d) ∧ vsome (d.wf n) (preK n M M' K)
  | [], _ :: _, _ => False
theorem leK_ok {n : Nat} {K : Prop} : ∀ (fr fr' : List SV), leK n fr fr' K → fr'.length = fr.length ∧ (∀ (t : Nat) (x : SV), fr'[t]? = some x → x = .any ∨ (fr[t]? = some x ∧ x.wf n = true)) ∧ K := by
  intro fr
  induction fr with
  | nil =>
    intro fr' h
    cases fr' with
    | nil => exact ⟨rfl, (fun t x hx => by cases hx), h⟩
    | cons y m => exact h.elim
  | cons x l ih =>
    intro fr' h
    cases fr' with
    | nil => exact h.elim
    | cons y m =>
      rcases eqA_iff.1 h with ⟨hy, h'⟩ | ⟨hy, rfl, h'⟩
      · subst hy
        obtain ⟨h1, h2, h3⟩ := ih m h'
        refine ⟨by simp [h1], fun t z hz => ?_, h3⟩
        cases t with
        | zero => exact .inl (Option.some.inj hz).symm
        | succ t => exact h2 t z hz
      · obtain ⟨hw, h'⟩ := vsome_iff.1 h'
        obtain ⟨h1, h2, h3⟩ := ih m h'
        refine ⟨by simp [h1], fun t z hz => ?_, h3⟩
        cases t with
        | zero => obtain rfl := Option.some.inj hz; exact .inr ⟨rfl, hw⟩
        | succ t => exact h2 t z hz
theorem preK_ok {n : Nat} {K : Prop} : ∀ (M M' : Mm), preK n M M' K → (∃ X, M = M' ++ X) ∧ (∀ (k : Nat) (e : Ent), M'[k]? = some e → e.c.wf n = true) ∧ K := by
  intro M
  induction M with
  | nil =>
    intro M' h
    cases M' with
    | nil => exact ⟨⟨[], rfl⟩, (fun k e he => by cases he), h⟩
    | cons y m => exact h.elim
  | cons x l ih =>
    intro M' h
    cases M' with
    | nil => exact ⟨⟨x :: l, rfl⟩, (fun k e he => by cases he), h⟩
    | cons y m =>
      obtain ⟨a, c⟩ := x
      obtain ⟨b, d⟩ := y
      have h' : (a = b ∧ c = d) ∧ vsome (d.wf n) (preK n l m K) := h
      obtain ⟨⟨rfl, rfl⟩, h'⟩ := h'
      obtain ⟨hw, h'⟩ := vsome_iff.1 h'
      obtain ⟨⟨X, hX⟩, h2, h3⟩ := ih m h'
      refine ⟨⟨X, by rw [hX]; rfl⟩, fun k e he => ?_, h3⟩
      cases k with
      | zero => obtain rfl := Option.some.inj he; exact hw
      | succ k => exact h2 k e he
/-- A state of which less is known. -/
def vLe (B : Mm) (fr : List SV) (M : Mm) (n : Nat) (i0 : List (Nat × SV)) (M0 : Mm) (K : Prop) : Prop := vsome (Nat.ble B.length M0.length) (frK n i0 fun fr0 => leK M0.length fr fr0 (preK M0.length M M0 K))
theorem vLe_ok {B : Mm} {fr : List SV} {M : Mm} {n : Nat} {i0 : List (Nat × SV)} {M0 : Mm} {K : Prop} (h : vLe B fr M n i0 M0 K) : Le B fr M (mkF n i0) M0 ∧ K := by
  obtain ⟨hb, h⟩ := vsome_iff.1 h
  rw [frK_eq] at h
  obtain ⟨h1, h2, h3⟩ := leK_ok _ _ h
  obtain ⟨h4, h5, h6⟩ := preK_ok _ _ h3
  exact ⟨⟨h1, h2, h4, h5, Nat.le_of_ble_eq_true hb⟩, h6⟩
/-- What is said of a loop: it is come to so, and left so. -/
def vLoop (B : Mm) (n : Nat) (i0 : List (Nat × SV)) (M0 : Mm) (o : List (Nat × SV)) (M1 : Mm) (fr : List SV) (M : Mm) (K : Ko) : Prop := vLe B fr M n i0 M0 (frK n o fun fr1 => K .normal fr1 M1)
theorem vLoop_ok {B : Mm} {n : Nat} {i0 : List (Nat × SV)} {M0 : Mm} {o : List (Nat × SV)} {M1 : Mm} {fr : List SV} {M : Mm} {K : Ko} (h : vLoop B n i0 M0 o M1 fr M K) : Le B fr M (mkF n i0) M0 ∧ K .normal (mkF n o) M1 := by
  obtain ⟨h1, h2⟩ := vLe_ok h
  rw [frK_eq] at h2
  exact ⟨h1, h2⟩
def LT.add (L : LT) (id : Nat) (l : List SV → Mm → Ko → Prop) : LT := fun j => bif Nat.beq j id then l else L j
theorem LT.add_ok {P : Program} {nG B : Mm} {f : Nat} {L : LT} (hL : LOk P nG B f L) {id : Nat} {l : List SV → Mm → Ko → Prop} (hl : ∀ fr M K, l fr M K → Wp P nG B (loopOf P f id) fr M K) : LOk P nG B f (L.add id l) := fun j fr M K h => by
  unfold LT.add at h
  cases hb : Nat.beq j id <;> rw [hb] at h
  · exact hL j fr M K h
  · obtain rfl := Nat.eq_of_beq_eq_true hb
    exact hl fr M K h
/-- Behind code less is known. -/
theorem Wp.post {P : Program} {nG B : Mm} {c : Code} {fr : List SV} {M : Mm} {K : Ko} (hG : nG.length ≤ B.length) (h : Wp P nG B c fr M (fun e fr' M' => ∃ fr2 M2, Le B fr' M' fr2 M2 ∧ K e fr2 M2)) : Wp P nG B c fr M K := by
  intro β0 w0 β a w hx hF hR
  refine Code.wp_mono (fun e a' w' hh => ?_) (h β0 w0 β a w hx hF hR)
  obtain ⟨β', fr', M', h1, h2, h3, fr2, M2, hl, hK⟩ := hh
  obtain ⟨X, hX⟩ := hl.mem
  have pre : ∀ (k : Nat) (e : Ent), M2[k]? = some e → M'[k]? = some e := fun k e he => by rw [hX, List.getElem?_append_left (lt_of_get he)]; exact he
  have back : ∀ (k : Nat) (e : Ent), k < M2.length → M'[k]? = some e → M2[k]? = some e := fun k e hk he => by rw [hX, List.getElem?_append_left hk] at he; exact he
  refine ⟨β', fr2, M2, ⟨h1.agree, hl.base, fun b hb => ?_, h1.fp, fun k e he => ?_, fun k e hk he => h1.new k e hk (pre k e he)⟩, ⟨by rw [hl.len]; exact h2.size, fun t x hx' => ?_, h2.defers⟩, ⟨fun k e he hc => h3.all k e (pre k e he) hc, fun i j x y hi hj hij hr hxc hyc => h3.dis i j x y (pre i x hi) (pre j y hj) hij hr hxc hyc, h3.glob, Nat.le_trans hG hl.base, fun k hk => ?_, h3.ro, hl.wf⟩, hK⟩
  · obtain ⟨k, e, he, hr, hb⟩ := hb
    exact h1.rws _ ⟨k, e, pre k e he, hr, hb⟩
  · obtain ⟨d, h4, h5⟩ := h1.keep k e he
    exact ⟨d, back k _ (Nat.lt_of_lt_of_le (lt_of_get he) hl.base) h4, h5⟩
  · rcases hl.at' t x hx' with e | ⟨e1, e2⟩
    · exact .inl e
    · rcases h2.at' t x e1 with e | e
      · exact .inl e
      · exact .inr ⟨e2, e.2⟩
  · have hk' : k < M2.length := by have := hl.base; omega
    have h6 := h3.pre k hk
    have h7 : M2[k]? = some M2[k] := List.getElem?_eq_getElem hk'
    rw [← h6, pre k _ h7, h7]
/-- What a round of a loop leads to: another round, or it is left, or the function is. -/
def Kr (B : Mm) (id n : Nat) {ι : Type} (I : ι → List (Nat × SV)) (Mi : ι → Mm) (μ : ι → Nat) (i : ι) (o : List (Nat × SV)) (M1 : Mm) (R : List SV → Mm → Prop) : Ko := fun e fr' M' => match e with
  | .normal => ∃ i', μ i' < μ i ∧ vLe B fr' M' n (I i') (Mi i') True
  | .exit j => j = id ∧ vLe B fr' M' n o M1 True
  | .ret => ∃ q M2, vLe B fr' M' n q M2 True ∧ R (mkF n q) M2
  | _ => False
theorem loop_gen {P : Program} {E : Env} (hE : EnvOk P E) (hm : P.follows .mixedOrders = true) {B : Mm} {f id : Nat} {L : LT} (hL : LOk P E.G B f L) (hG : E.G.length ≤ B.length) (hl : isLoop id (loopOf P f id) = true) {n : Nat} {o : List (Nat × SV)} {M1 : Mm} {ι : Type} (I : ι → List (Nat × SV)) (Mi : ι → Mm) (μ : ι → Nat) (i0 : ι) (R : List SV → Mm → Prop)
    (hround : ∀ i, frK n (I i) fun fr => vround P E L f id fr (Mi i) (Kr B id n I Mi μ i o M1 R)) {fr : List SV} {M : Mm} {K : Ko} (h0 : Le B fr M (mkF n (I i0)) (Mi i0)) (hK : K .normal (mkF n o) M1) (hR : ∀ fr' M', R fr' M' → K .ret fr' M') : Wp P E.G B (loopOf P f id) fr M K := by
  have hc : loopOf P f id = .block id (.loop (body (loopOf P f id))) := by
    unfold isLoop at hl
    split at hl
    · rename_i j c he
      obtain rfl := Nat.eq_of_beq_eq_true hl
      rw [he]; rfl
    · cases hl
  refine Wp.le hG h0 ?_
  rw [hc]
  refine Wp.loop (fun m fr M => ∃ i, μ i = m ∧ fr = mkF n (I i) ∧ M = Mi i) (μ i0) ⟨i0, rfl, rfl, rfl⟩ ?_
  rintro m fr M ⟨i, rfl, rfl, rfl⟩
  have h := hround i
  rw [frK_eq] at h
  refine Wp.post hG ((vcode_ok hE (wd_of hE hm hL) _ _ _ _ h).mono fun e fr' M' hk => ?_)
  cases e with
  | normal => obtain ⟨i', h1, h2⟩ := hk; exact ⟨_, _, (vLe_ok h2).1, _, h1, i', rfl, rfl, rfl⟩
  | exit j => obtain ⟨h1, h2⟩ := hk; exact ⟨_, _, (vLe_ok h2).1, h1, hK⟩
  | ret => obtain ⟨q, M2, h1, h2⟩ := hk; exact ⟨_, _, (vLe_ok h1).1, hR _ _ h2⟩
  | goto l => exact hk.elim
  | panic ch => exact hk.elim
  | outgrown => exact hk.elim
/-- A loop that is left by its end alone. -/
theorem loop_rule {P : Program} {E : Env} (hE : EnvOk P E) (hm : P.follows .mixedOrders = true) {B : Mm} {f id : Nat} {L : LT} (hL : LOk P E.G B f L) (hG : E.G.length ≤ B.length) (hl : isLoop id (loopOf P f id) = true) {n : Nat} {o : List (Nat × SV)} {M1 : Mm} {ι : Type} (I : ι → List (Nat × SV)) (Mi : ι → Mm) (μ : ι → Nat) (i0 : ι)
    (hround : ∀ i, frK n (I i) fun fr => vround P E L f id fr (Mi i) (Kr B id n I Mi μ i o M1 (fun _ _ => False))) : ∀ fr M K, vLoop B n (I i0) (Mi i0) o M1 fr M K → Wp P E.G B (loopOf P f id) fr M K := fun fr M K h =>
  loop_gen hE hm hL hG hl I Mi μ i0 _ hround (vLoop_ok h).1 (vLoop_ok h).2 fun _ _ h => h.elim
/-- What a round of a loop leads to, where the next state is known. -/
def Kn (B : Mm) (id n : Nat) (a : Prop) (i' : List (Nat × SV)) (M' : Mm) (o : List (Nat × SV)) (M1 : Mm) : Ko := fun e fr2 M2 => match e with
  | .normal => a ∧ vLe B fr2 M2 n i' M' True
  | .exit j => j = id ∧ vLe B fr2 M2 n o M1 True
  | _ => False
theorem loop_next {P : Program} {E : Env} (hE : EnvOk P E) (hm : P.follows .mixedOrders = true) {B : Mm} {f id : Nat} {L : LT} (hL : LOk P E.G B f L) (hG : E.G.length ≤ B.length) (hl : isLoop id (loopOf P f id) = true) {n : Nat} {o : List (Nat × SV)} {M1 : Mm} {ι : Type} (I : ι → List (Nat × SV)) (Mi : ι → Mm) (p : ι → Prop) (μ : ι → Nat) (next : ι → ι) (i0 : ι) (hp : p i0)
    (hround : ∀ i, p i → frK n (I i) fun fr => vround P E L f id fr (Mi i) (Kn B id n (p (next i) ∧ μ (next i) < μ i) (I (next i)) (Mi (next i)) o M1)) : ∀ fr M K, vLoop B n (I i0) (Mi i0) o M1 fr M K → Wp P E.G B (loopOf P f id) fr M K := by
  intro fr M K h
  obtain ⟨h0, hK⟩ := vLoop_ok h
  have hc : loopOf P f id = .block id (.loop (body (loopOf P f id))) := by
    unfold isLoop at hl
    split at hl
    · rename_i j c he
      obtain rfl := Nat.eq_of_beq_eq_true hl
      rw [he]; rfl
    · cases hl
  refine Wp.le hG h0 ?_
  rw [hc]
  refine Wp.loop (fun m fr M => ∃ i, p i ∧ μ i = m ∧ fr = mkF n (I i) ∧ M = Mi i) (μ i0) ⟨i0, hp, rfl, rfl, rfl⟩ ?_
  rintro m fr M ⟨i, hpi, rfl, rfl, rfl⟩
  have h := hround i hpi
  rw [frK_eq] at h
  refine Wp.post hG ((vcode_ok hE (wd_of hE hm hL) _ _ _ _ h).mono fun e fr' M' hk => ?_)
  cases e with
  | normal => obtain ⟨h1, h2⟩ := hk; exact ⟨_, _, (vLe_ok h2).1, _, h1.2, next i, h1.1, rfl, rfl, rfl⟩
  | exit j => obtain ⟨h1, h2⟩ := hk; exact ⟨_, _, (vLe_ok h2).1, h1, hK⟩
  | ret => exact hk.elim
  | goto l => exact hk.elim
  | panic ch => exact hk.elim
  | outgrown => exact hk.elim
/-- A condition that was worked out. -/
theorem of_eq {p q : Prop} (h : p = q) (hq : q) : p := h ▸ hq
theorem bif_of {b : Bool} {p : Prop} (hb : b = true) (h : p) : bif b then p else False := by rw [hb]; exact h
end Go.Proofs.Ytkjfecdpakhggaa
