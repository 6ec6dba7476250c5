/-
  A reckoner of conditions: states whose blocks are told by other places; loops whose next state is read off. No statement is proved here.
-/
import Derived.Test.YtkjfecdpakhggaaVcT
namespace Go.Proofs.Ytkjfecdpakhggaa
open Go.RowKit
set_option linter.unusedVariables false
set_option linter.unusedSimpArgs false

/-- Less is known, and blocks are told by other places. -/
structure LeR (B : Mm) (fr : List SV) (M : Mm) (fr' : List SV) (M' : Mm) (σ : Nat → Nat) : Prop where
  len : fr'.length = fr.length
  at' : ∀ (t : Nat) (x : SV), fr'[t]? = some x → x = .any ∨ (fr[t]? = some (ren σ x) ∧ x.wf M'.length = true)
  mem : ∀ (k : Nat) (e : Ent), M'[k]? = some e → M[σ k]? = some ⟨e.rw, e.c.ren σ⟩ ∧ e.c.wf M'.length = true
  low : ∀ (k : Nat) (e : Ent), k < B.length → M'[k]? = some e → e.rw = false → e.c.wf B.length = true
  old : ∀ k, k < B.length → σ k = k
  inj : ∀ i j, i < M'.length → j < M'.length → i ≠ j → σ i ≠ σ j
  high : ∀ k, B.length ≤ k → k < M'.length → B.length ≤ σ k
  base : B.length ≤ M'.length
theorem cren_id {n : Nat} {σ : Nat → Nat} (h : ∀ k, k < n → σ k = k) (c : Cont) (hc : c.wf n = true) : c.ren σ = c := by
  cases c <;> first | rfl | exact congrArg Cont.row (rens_id h _ hc) | exact congrArg (Cont.tr _) (rens_id h _ hc)
theorem LeR.go {nG B : Mm} {β0 : Nat → Nat} {w0 : World} {β : Nat → Nat} {M M' : Mm} {w : World} {fr fr' : List SV} {a : Act} {σ : Nat → Nat} (hl : LeR B fr M fr' M' σ) (hG : nG.length ≤ B.length) (hx : Ext β0 B w0 β M w) (hF : RelF β M.length fr a) (hR : Rel nG β M w) :
    Ext β0 B w0 (fun k => β (σ k)) M' w ∧ RelF (fun k => β (σ k)) M'.length fr' a ∧ Rel nG (fun k => β (σ k)) M' w := by
  have lowM : ∀ (k : Nat) (e : Ent), k < B.length → M'[k]? = some e → e.rw = false → M[k]? = some e := fun k e hk he hr => by
    obtain ⟨h1, -⟩ := hl.mem k e he
    rw [hl.old k hk, cren_id hl.old _ (hl.low k e hk he hr)] at h1
    exact h1
  refine ⟨⟨fun k hk => by simp only [hl.old k hk]; exact hx.agree k hk, hl.base, fun b hb => ?_, hx.fp, fun k e he => ?_, fun k e hk he => ?_⟩, ⟨by rw [hl.len]; exact hF.size, fun t x hx' => ?_, hF.defers⟩, ⟨fun k e he hc => ?_, fun i j x y hi hj hij hr hxc hyc => ?_, fun g hg => ?_, Nat.le_trans hG hl.base, fun k hk => ?_, hR.ro, fun k e he => (hl.mem k e he).2⟩⟩
  · obtain ⟨k, e, he, hr, hb⟩ := hb
    exact hx.rws _ ⟨σ k, _, (hl.mem k e he).1, hr, (own_ren _ _ _ _).2 hb⟩
  · obtain ⟨d, h1, h2⟩ := hx.keep k e he
    have hk := lt_of_get he
    have hk' : k < M'.length := Nat.lt_of_lt_of_le hk hl.base
    have h3 := List.getElem?_eq_getElem hk'
    have h4 := (hl.mem k _ h3).1
    rw [hl.old k hk, h1] at h4
    have h5 := Option.some.inj h4
    have h6 : e.rw = M'[k].rw := (Ent.mk.inj h5).1
    refine ⟨M'[k].c, by rw [h3, h6], fun hr => ?_⟩
    have h7 := lowM k _ hk h3 (by rw [← h6]; exact hr)
    rw [h1] at h7
    have h8 : d = M'[k].c := congrArg Ent.c (Option.some.inj h7)
    rw [← h8]
    exact h2 hr
  · have h1 := (hl.mem k e he).1
    have h2 := hx.new (σ k) ⟨e.rw, e.c.ren σ⟩ (hl.high k hk (lt_of_get he)) h1
    exact h2
  · rcases hl.at' t x hx' with e | ⟨e1, e2⟩
    · exact .inl e
    · rcases hF.at' t _ e1 with e | e
      · left
        cases x <;> first | rfl | (simp [ren] at e)
      · exact .inr ⟨e2, by rw [e.2, val_ren]⟩
  · have h1 := hR.all _ _ (hl.mem k e he).1 (by rw [here_ren]; exact hc)
    rw [at_ren] at h1
    exact h1
  · exact fun b hb hb' => hR.dis _ _ _ _ (hl.mem i x hi).1 (hl.mem j y hj).1 (hl.inj i j (lt_of_get hi) (lt_of_get hj) hij) hr (by rw [here_ren]; exact hxc) (by rw [here_ren]; exact hyc) b ((own_ren _ _ _ _).2 hb) ((own_ren _ _ _ _).2 hb')
  · simp only [hl.old g (Nat.lt_of_lt_of_le hg hG)]; exact hR.glob g hg
  · have hk' : k < M'.length := by have := hl.base; omega
    have h3 := List.getElem?_eq_getElem hk'
    have h4 := (hl.mem k _ h3).1
    rw [hl.old k (by omega), hR.pre k hk] at h4
    have h5 : M'[k].rw = false := (hR.ro k _ h4).1
    rw [h3, ← hR.pre k hk, lowM k _ (by omega) h3 h5]
theorem Wp.leR {P : Program} {nG B : Mm} {c : Code} {fr fr' : List SV} {M M' : Mm} {K : Ko} {σ : Nat → Nat} (hG : nG.length ≤ B.length) (hl : LeR B fr M fr' M' σ) (h : Wp P nG B c fr' M' K) : Wp P nG B c fr M K := fun β0 w0 β a w hx hF hR => by
  obtain ⟨h1, h2, h3⟩ := hl.go hG hx hF hR
  exact h β0 w0 _ a w h1 h2 h3
theorem Wp.postR {P : Program} {nG B : Mm} {c : Code} {fr : List SV} {M : Mm} {K : Ko} (hG : nG.length ≤ B.length) (h : Wp P nG B c fr M (fun e fr' M' => ∃ fr2 M2 σ, LeR B fr' M' fr2 M2 σ ∧ K e fr2 M2)) : Wp P nG B c fr M K := fun β0 w0 β a w hx hF hR => by
  refine Code.wp_mono (fun e a' w' hh => ?_) (h β0 w0 β a w hx hF hR)
  obtain ⟨β', fr', M', h1, h2, h3, fr2, M2, σ, hl, hK⟩ := hh
  obtain ⟨q1, q2, q3⟩ := hl.go hG h1 h2 h3
  exact ⟨_, fr2, M2, q1, q2, q3, hK⟩
/-- Those from b on are told by the places of a row. -/
def sig (b : Nat) (rs : List Nat) : Nat → Nat := fun k => bif Nat.blt k b then k else rs.getD (k - b) 0
def notIn (x : Nat) : List Nat → Bool
  | [] => true
  | y :: l => !(Nat.beq x y) && notIn x l
def rsOk (b : Nat) : List Nat → Bool
  | [] => true
  | x :: l => Nat.ble b x && (notIn x l && rsOk b l)
def leRK (n : Nat) (σ : Nat → Nat) : List SV → List SV → Prop → Prop
  | [], [], K => K
  | x :: l, y :: m, K => eqA n x (ren σ y) y (leRK n σ l m K)
  | _, _, _ => False
def preRK (b n : Nat) (σ : Nat → Nat) (M : Mm) : Nat → Mm → Prop → Prop
  | _, [], K => K
  | k, ⟨a, c⟩ :: M', K => match M[σ k]? with
    | some ⟨a', c'⟩ => (a' = a ∧ c' = c.ren σ) ∧ vsome (c.wf n && (Nat.ble b k || (a || c.wf b))) (preRK b n σ M (k + 1) M' K)
    | none => False
def vLeR (B : Mm) (fr : List SV) (M : Mm) (n : Nat) (i0 : List (Nat × SV)) (M0 : Mm) (rs : List Nat) (K : Prop) : Prop := vsome (Nat.beq (B.length + rs.length) M0.length && rsOk B.length rs) (frK n i0 fun fr0 => leRK M0.length (sig B.length rs) fr fr0 (preRK B.length M0.length (sig B.length rs) M 0 M0 K))
theorem leRK_ok {n : Nat} {σ : Nat → Nat} {K : Prop} : ∀ (fr fr' : List SV), leRK n σ fr fr' K → fr'.length = fr.length ∧ (∀ (t : Nat) (x : SV), fr'[t]? = some x → x = .any ∨ (fr[t]? = some (ren σ x) ∧ x.wf n = true)) ∧ K := by
  intro fr
  induction fr with
  | nil =>
    intro fr' h
    cases fr' with
    | nil => exact ⟨rfl, (fun t x hx => by cases hx), h⟩
    | cons y m => exact h.elim
  | cons x l ih =>
    intro fr' h
    cases fr' with
    | nil => exact h.elim
    | cons y m =>
      rcases eqA_iff.1 h with ⟨hy, h'⟩ | ⟨hy, rfl, h'⟩
      · subst hy
        obtain ⟨h1, h2, h3⟩ := ih m h'
        refine ⟨by simp [h1], fun t z hz => ?_, h3⟩
        cases t with
        | zero => exact .inl (Option.some.inj hz).symm
        | succ t => exact h2 t z hz
      · obtain ⟨hw, h'⟩ := vsome_iff.1 h'
        obtain ⟨h1, h2, h3⟩ := ih m h'
        refine ⟨by simp [h1], fun t z hz => ?_, h3⟩
        cases t with
        | zero => obtain rfl := Option.some.inj hz; exact .inr ⟨rfl, hw⟩
        | succ t => exact h2 t z hz
theorem preRK_ok {b n : Nat} {σ : Nat → Nat} {M : Mm} {K : Prop} : ∀ (M' : Mm) (k : Nat), preRK b n σ M k M' K → (∀ (j : Nat) (e : Ent), M'[j]? = some e → M[σ (k + j)]? = some ⟨e.rw, e.c.ren σ⟩ ∧ e.c.wf n = true ∧ (b ≤ k + j ∨ e.rw = true ∨ e.c.wf b = true)) ∧ K := by
  intro M'
  induction M' with
  | nil => intro k h; exact ⟨(fun j e he => by cases he), h⟩
  | cons x m ih =>
    intro k h
    obtain ⟨a, c⟩ := x
    unfold preRK at h
    split at h
    · rename_i a' c' hM
      obtain ⟨⟨rfl, rfl⟩, h⟩ := h
      obtain ⟨hw, h⟩ := vsome_iff.1 h
      obtain ⟨h1, h2⟩ := ih (k + 1) h
      simp only [Bool.and_eq_true, Bool.or_eq_true] at hw
      refine ⟨fun j e he => ?_, h2⟩
      cases j with
      | zero => obtain rfl := Option.some.inj he; exact ⟨hM, hw.1, hw.2.imp Nat.le_of_ble_eq_true (fun h => h)⟩
      | succ j =>
        have := h1 j e he
        rw [show k + (j + 1) = k + 1 + j by omega]; exact this
    · exact h.elim
theorem notIn_ok {x : Nat} : ∀ (l : List Nat), notIn x l = true → x ∉ l
  | [], _ => by simp
  | y :: l, h => by
    simp only [notIn, Bool.and_eq_true, Bool.not_eq_true'] at h
    intro hm
    rcases List.mem_cons.1 hm with e | e
    · subst e; rw [Nat.beq_refl] at h; cases h.1
    · exact notIn_ok l h.2 e
theorem rsOk_ok {b : Nat} : ∀ (l : List Nat), rsOk b l = true → (∀ x ∈ l, b ≤ x) ∧ l.Nodup
  | [], _ => ⟨(fun x h => by cases h), List.nodup_nil⟩
  | y :: l, h => by
    simp only [rsOk, Bool.and_eq_true] at h
    obtain ⟨h1, h2⟩ := rsOk_ok l h.2.2
    refine ⟨fun x hx => ?_, List.nodup_cons.2 ⟨notIn_ok l h.2.1, h2⟩⟩
    rcases List.mem_cons.1 hx with e | e
    · subst e; exact Nat.le_of_ble_eq_true h.1
    · exact h1 x e
theorem vLeR_ok {B : Mm} {fr : List SV} {M : Mm} {n : Nat} {i0 : List (Nat × SV)} {M0 : Mm} {rs : List Nat} {K : Prop} (h : vLeR B fr M n i0 M0 rs K) : LeR B fr M (mkF n i0) M0 (sig B.length rs) ∧ K := by
  obtain ⟨hb, h⟩ := vsome_iff.1 h
  simp only [Bool.and_eq_true] at hb
  have hlen := Nat.eq_of_beq_eq_true hb.1
  obtain ⟨r1, r2⟩ := rsOk_ok rs hb.2
  rw [frK_eq] at h
  obtain ⟨h1, h2, h3⟩ := leRK_ok _ _ h
  obtain ⟨h4, h5⟩ := preRK_ok _ _ h3
  have old : ∀ k, k < B.length → sig B.length rs k = k := fun k hk => by
    unfold sig
    have : Nat.blt k B.length = true := by simpa [Nat.blt_eq] using hk
    rw [this]; rfl
  have new : ∀ k, B.length ≤ k → ∀ hk : k - B.length < rs.length, sig B.length rs k = rs[k - B.length] := fun k hk hl => by
    unfold sig
    have : Nat.blt k B.length = false := by
      cases hq : Nat.blt k B.length
      · rfl
      · exact absurd (blt_lt hq) (by omega)
    rw [this]
    show rs.getD (k - B.length) 0 = _
    rw [List.getD_eq_getElem?_getD, List.getElem?_eq_getElem hl]; rfl
  have high : ∀ k, B.length ≤ k → k < M0.length → B.length ≤ sig B.length rs k := fun k hk hk2 => by
    rw [new k hk (by omega)]; exact r1 _ (List.getElem_mem _)
  refine ⟨⟨h1, h2, fun k e he => ?_, fun k e hk he hr => ?_, old, fun i j hi hj hij => ?_, high, by omega⟩, h5⟩
  · have := h4 k e he; rw [Nat.zero_add] at this; exact ⟨this.1, this.2.1⟩
  · have := h4 k e he; rw [Nat.zero_add] at this; exact (this.2.2.resolve_left (by omega)).resolve_left (by rw [hr]; exact fun h => nomatch h)
  · rcases Nat.lt_or_ge i B.length with qi | qi
    · rcases Nat.lt_or_ge j B.length with qj | qj
      · rw [old i qi, old j qj]; exact hij
      · rw [old i qi]; have := high j qj hj; omega
    · rcases Nat.lt_or_ge j B.length with qj | qj
      · rw [old j qj]; have := high i qi hi; omega
      · rw [new i qi (by omega), new j qj (by omega)]
        intro e
        have := (List.getElem_inj r2).1 e
        omega
/-- What a round of a loop leads to, where the next state is read off. -/
def Ks (B : Mm) (id n : Nat) {ι : Type} (sel : List SV → Mm → Option ι) (rs : List Nat) (a : ι → Prop) (I : ι → List (Nat × SV)) (Mi : ι → Mm) (q : Prop) (o : List (Nat × SV)) (M1 : Mm) : Ko := fun e fr2 M2 => match e with
  | .normal => match sel fr2 M2 with
    | some i' => a i' ∧ vLeR B fr2 M2 n (I i') (Mi i') rs True
    | none => False
  | .exit j => j = id ∧ q ∧ vLe B fr2 M2 n o M1 True
  | _ => False
theorem Le.go {nG B : Mm} {β0 : Nat → Nat} {w0 : World} {β : Nat → Nat} {M M' : Mm} {w : World} {fr fr' : List SV} {a : Act} (hl : Le B fr M fr' M') (hG : nG.length ≤ B.length) (hx : Ext β0 B w0 β M w) (hF : RelF β M.length fr a) (hR : Rel nG β M w) :
    Ext β0 B w0 β M' w ∧ RelF β M'.length fr' a ∧ Rel nG β M' w := by
  obtain ⟨X, hX⟩ := hl.mem
  have pre : ∀ (k : Nat) (e : Ent), M'[k]? = some e → M[k]? = some e := fun k e he => by rw [hX, List.getElem?_append_left (lt_of_get he)]; exact he
  have back : ∀ (k : Nat) (e : Ent), k < M'.length → M[k]? = some e → M'[k]? = some e := fun k e hk he => by rw [hX, List.getElem?_append_left hk] at he; exact he
  refine ⟨⟨hx.agree, hl.base, fun b hb => ?_, hx.fp, fun k e he => ?_, fun k e hk he => hx.new k e hk (pre k e he)⟩, ⟨by rw [hl.len]; exact hF.size, fun t x hx' => ?_, hF.defers⟩, ⟨fun k e he hc => hR.all k e (pre k e he) hc, fun i j x y hi hj hij hr hxc hyc => hR.dis i j x y (pre i x hi) (pre j y hj) hij hr hxc hyc, hR.glob, Nat.le_trans hG hl.base, fun k hk => ?_, hR.ro, hl.wf⟩⟩
  · obtain ⟨k, e, he, hr, hb⟩ := hb
    exact hx.rws _ ⟨k, e, pre k e he, hr, hb⟩
  · obtain ⟨d, h1, h2⟩ := hx.keep k e he
    exact ⟨d, back k _ (Nat.lt_of_lt_of_le (lt_of_get he) hl.base) h1, h2⟩
  · rcases hl.at' t x hx' with e | ⟨e1, e2⟩
    · exact .inl e
    · rcases hF.at' t x e1 with e | e
      · exact .inl e
      · exact .inr ⟨e2, e.2⟩
  · have hk' : k < M'.length := by have := hl.base; omega
    have h1 := hR.pre k hk
    have h2 : M'[k]? = some M'[k] := List.getElem?_eq_getElem hk'
    rw [← h1, pre k _ h2, h2]
theorem loop_sel {P : Program} {E : Env} (hE : EnvOk P E) (hm : P.follows .mixedOrders = true) {B : Mm} {f id : Nat} {L : LT} (hL : LOk P E.G B f L) (hG : E.G.length ≤ B.length) (hl : isLoop id (loopOf P f id) = true) {n : Nat} {ι : Type} (I : ι → List (Nat × SV)) (Mi : ι → Mm) (p : ι → Prop) (μ : ι → Nat) (sel : ι → List SV → Mm → Option ι) (rs : ι → List Nat) (q : ι → Prop) (O : ι → List (Nat × SV)) (N : ι → Mm) (i0 : ι) (hp : p i0)
    (hround : ∀ i, p i → frK n (I i) fun fr => vround P E L f id fr (Mi i) (Ks B id n (sel i) (rs i) (fun i' => p i' ∧ μ i' < μ i) I Mi (q i) (O i) (N i))) {fr : List SV} {M : Mm} {K : Ko} (h0 : Le B fr M (mkF n (I i0)) (Mi i0)) (hK : ∀ i, p i → q i → K .normal (mkF n (O i)) (N i)) : Wp P E.G B (loopOf P f id) fr M K := by
  have hc : loopOf P f id = .block id (.loop (body (loopOf P f id))) := by
    unfold isLoop at hl
    split at hl
    · rename_i j c he
      obtain rfl := Nat.eq_of_beq_eq_true hl
      rw [he]; rfl
    · cases hl
  refine Wp.le hG h0 ?_
  rw [hc]
  refine Wp.loop (fun m fr M => ∃ i, p i ∧ μ i = m ∧ fr = mkF n (I i) ∧ M = Mi i) (μ i0) ⟨i0, hp, rfl, rfl, rfl⟩ ?_
  rintro m fr M ⟨i, hpi, rfl, rfl, rfl⟩
  have h := hround i hpi
  rw [frK_eq] at h
  intro β0 w0 β a w hx hF hR
  refine Code.wp_mono (fun e a' w' hh => ?_) ((vcode_ok hE (wd_of hE hm hL) _ _ _ _ h) β0 w0 β a w hx hF hR)
  obtain ⟨β', fr', M', h1, h2, h3, hk⟩ := hh
  cases e with
  | normal =>
    simp only [Ks] at hk
    split at hk
    · rename_i i' hs
      obtain ⟨h4, h5⟩ := hk
      obtain ⟨q1, q2, q3⟩ := (vLeR_ok h5).1.go hG h1 h2 h3
      exact ⟨_, _, _, q1, q2, q3, _, h4.2, i', h4.1, rfl, rfl, rfl⟩
    · exact hk.elim
  | exit j =>
    obtain ⟨h4, h5, h6⟩ := hk
    obtain ⟨q1, q2, q3⟩ := (vLe_ok h6).1.go hG h1 h2 h3
    exact ⟨_, _, _, q1, q2, q3, h4, hK i hpi h5⟩
  | ret => exact hk.elim
  | goto l => exact hk.elim
  | panic ch => exact hk.elim
  | outgrown => exact hk.elim
/-- The same, where the places too are read off. -/
def Kp (B : Mm) (id n : Nat) {ι : Type} (sel : List SV → Mm → Option (ι × List Nat)) (a : ι → Prop) (I : ι → List (Nat × SV)) (Mi : ι → Mm) (q : Prop) (o : List (Nat × SV)) (M1 : Mm) : Ko := fun e fr2 M2 => match e with
  | .normal => match sel fr2 M2 with
    | some (i', rs) => a i' ∧ vLeR B fr2 M2 n (I i') (Mi i') rs True
    | none => False
  | .exit j => j = id ∧ q ∧ vLe B fr2 M2 n o M1 True
  | _ => False
theorem loop_pick {P : Program} {E : Env} (hE : EnvOk P E) (hm : P.follows .mixedOrders = true) {B : Mm} {f id : Nat} (hG : E.G.length ≤ B.length) (hl : isLoop id (loopOf P f id) = true) {n : Nat} {ι : Type} (I : ι → List (Nat × SV)) (Mi : ι → Mm) (p : ι → Prop) (μ : ι → Nat) (sel : ι → List SV → Mm → Option (ι × List Nat)) (q : ι → Prop) (O : ι → List (Nat × SV)) (N : ι → Mm) (i0 : ι) (hp : p i0) (L : ι → LT) (hL : ∀ i, p i → LOk P E.G B f (L i))
    (hround : ∀ i, p i → frK n (I i) fun fr => vround P E (L i) f id fr (Mi i) (Kp B id n (sel i) (fun i' => p i' ∧ μ i' < μ i) I Mi (q i) (O i) (N i))) {fr : List SV} {M : Mm} {K : Ko} (h0 : Le B fr M (mkF n (I i0)) (Mi i0)) (hK : ∀ i, p i → q i → K .normal (mkF n (O i)) (N i)) : Wp P E.G B (loopOf P f id) fr M K := by
  have hc : loopOf P f id = .block id (.loop (body (loopOf P f id))) := by
    unfold isLoop at hl
    split at hl
    · rename_i j c he
      obtain rfl := Nat.eq_of_beq_eq_true hl
      rw [he]; rfl
    · cases hl
  refine Wp.le hG h0 ?_
  rw [hc]
  refine Wp.loop (fun m fr M => ∃ i, p i ∧ μ i = m ∧ fr = mkF n (I i) ∧ M = Mi i) (μ i0) ⟨i0, hp, rfl, rfl, rfl⟩ ?_
  rintro m fr M ⟨i, hpi, rfl, rfl, rfl⟩
  have h := hround i hpi
  rw [frK_eq] at h
  intro β0 w0 β a w hx hF hR
  refine Code.wp_mono (fun e a' w' hh => ?_) ((vcode_ok hE (wd_of hE hm (hL i hpi)) _ _ _ _ h) β0 w0 β a w hx hF hR)
  obtain ⟨β', fr', M', h1, h2, h3, hk⟩ := hh
  cases e with
  | normal =>
    simp only [Kp] at hk
    split at hk
    · rename_i i' rs hs
      obtain ⟨h4, h5⟩ := hk
      obtain ⟨q1, q2, q3⟩ := (vLeR_ok h5).1.go hG h1 h2 h3
      exact ⟨_, _, _, q1, q2, q3, _, h4.2, i', h4.1, rfl, rfl, rfl⟩
    · exact hk.elim
  | exit j =>
    obtain ⟨h4, h5, h6⟩ := hk
    obtain ⟨q1, q2, q3⟩ := (vLe_ok h6).1.go hG h1 h2 h3
    exact ⟨_, _, _, q1, q2, q3, h4, hK i hpi h5⟩
  | ret => exact hk.elim
  | goto l => exact hk.elim
  | panic ch => exact hk.elim
  | outgrown => exact hk.elim
end Go.Proofs.Ytkjfecdpakhggaa
