/-
  A reckoner of conditions: a range over an iterator that need not end by itself, and is left by a break. No statement is proved here.
-/
import Derived.Test.YtgjhkfafmmkimaaDoorVcU
import Derived.RangeFuncSeq
import Derived.RangeFuncRecord
namespace Go.Proofs.YtgjhkfafmmkimaaDoor
open Go.RowKit
set_option linter.unusedVariables false
set_option linter.unusedSimpArgs false

/-- Blocks picked out of a list; the first nB stay where they are. -/
def vSel (nG nB : Nat) (M M' : Mm) (rs : List Nat) : Prop := vsome (Nat.beq (nB + rs.length) M'.length && rsOk nB rs) (preRK nG M'.length (sig nB rs) M 0 M' True)
theorem sig_old {nB : Nat} {rs : List Nat} {k : Nat} (hk : k < nB) : sig nB rs k = k := by
  unfold sig
  have : Nat.blt k nB = true := by simpa [Nat.blt_eq] using hk
  rw [this]; rfl
theorem vSel_ok {G : Mm} {nB : Nat} {β : Nat → Nat} {M M' : Mm} {w : World} {rs : List Nat} (hGB : G.length ≤ nB) (hR : Rel G β M w) (h : vSel G.length nB M M' rs) : Rel G (fun k => β (sig nB rs k)) M' w ∧ (∀ b, rwset (fun k => β (sig nB rs k)) M' b → rwset β M b) ∧ nB ≤ M'.length ∧ (∀ (k : Nat) (e : Ent), M'[k]? = some e → M[sig nB rs k]? = some ⟨e.rw, e.c.ren (sig nB rs)⟩) := by
  obtain ⟨hb, h⟩ := vsome_iff.1 h
  simp only [Bool.and_eq_true] at hb
  have hlen := Nat.eq_of_beq_eq_true hb.1
  obtain ⟨r1, r2⟩ := rsOk_ok rs hb.2
  obtain ⟨h4, -⟩ := preRK_ok _ _ h
  simp only [Nat.zero_add] at h4
  have new : ∀ k, nB ≤ k → ∀ hk : k - nB < rs.length, sig nB rs k = rs[k - nB] := fun k hk hl => by
    unfold sig
    have : Nat.blt k nB = false := by
      cases hq : Nat.blt k nB
      · rfl
      · exact absurd (blt_lt hq) (by omega)
    rw [this]
    show rs.getD (k - nB) 0 = _
    rw [List.getD_eq_getElem?_getD, List.getElem?_eq_getElem hl]; rfl
  have high : ∀ k, nB ≤ k → k < M'.length → nB ≤ sig nB rs k := fun k hk hk2 => by
    rw [new k hk (by omega)]; exact r1 _ (List.getElem_mem _)
  have inj : ∀ i j, i < M'.length → j < M'.length → i ≠ j → sig nB rs i ≠ sig nB rs j := fun i j hi hj hij => by
    rcases Nat.lt_or_ge i nB with qi | qi
    · rcases Nat.lt_or_ge j nB with qj | qj
      · rw [sig_old qi, sig_old qj]; exact hij
      · rw [sig_old qi]; have := high j qj hj; omega
    · rcases Nat.lt_or_ge j nB with qj | qj
      · rw [sig_old qj]; have := high i qi hi; omega
      · rw [new i qi (by omega), new j qj (by omega)]
        intro e
        have := (List.getElem_inj r2).1 e
        omega
  refine ⟨⟨fun k e he hc => ?_, fun i j x y hi hj hij hr hxc hyc => ?_, fun g hg => ?_, by omega, fun k hk => ?_, hR.ro, fun k e he => (h4 k e he).2.1⟩, fun b hb => ?_, by omega, fun k e he => (h4 k e he).1⟩
  · have h1 := hR.all _ _ (h4 k e he).1 (by rw [here_ren]; exact hc)
    rw [cells_ren, shp_ren] at h1
    exact h1
  · exact hR.dis _ _ _ _ (h4 i x hi).1 (h4 j y hj).1 (inj i j (lt_of_get hi) (lt_of_get hj) hij) hr (by rw [here_ren]; exact hxc) (by rw [here_ren]; exact hyc)
  · simp only [sig_old (Nat.lt_of_lt_of_le hg hGB)]; exact hR.glob g hg
  · have hk' : k < M'.length := by omega
    have h3 := List.getElem?_eq_getElem hk'
    obtain ⟨q1, q2, q3⟩ := h4 k _ h3
    have q4 : M'[k].rw = false := by
      have := q1
      rw [sig_old (by omega), hR.pre k hk] at this
      exact (hR.ro k _ this).1
    have q3 : G.length ≤ k ∨ M'[k].c.wf G.length = true := q3.imp id fun h => h.resolve_left (by rw [q4]; exact fun h => nomatch h)
    rw [sig_old (by omega), cren_id (fun j hj => sig_old (by omega)) _ (q3.resolve_left (by omega)), hR.pre k hk] at q1
    rw [h3, q1]
  · obtain ⟨k, e, he, hr, rfl⟩ := hb
    exact ⟨_, _, (h4 k e he).1, hr, rfl⟩
/-- A block that holds none of what is told of is turned. -/
theorem Rel.turn {G : Mm} {β : Nat → Nat} {M : Mm} {w : World} (h : Rel G β M w) {l : Nat} (o : Obj) (hl : ∀ (k : Nat) (e : Ent), M[k]? = some e → e.c.here = true → β k ≠ l) : Rel G β M (w.putObj l o) :=
  ⟨fun k e he hc => (h.all k e he hc).same (World.putObj_heap_other (hl k e he hc)) (by simp), h.dis, h.glob, h.gl, h.pre, h.ro, h.wf⟩
/-- What is read alone lies apart from two blocks. -/
def farO (z : Nat) (β : Nat → Nat) (M : Mm) : Prop := ∀ (k : Nat) (e : Ent), M[k]? = some e → e.rw = false → e.c.here = true → β k < z ∨ z + 2 ≤ β k
theorem farO.ext {z : Nat} {β β' : Nat → Nat} {M M' : Mm} {w w' : World} (h : farO z β M) (hx : Ext β M w β' M' w') : farO z β' M' := fun k e he hr hc => by
  rcases Nat.lt_or_ge k M.length with q | q
  · obtain ⟨c, h1, h2⟩ := hx.keep k _ (List.getElem?_eq_getElem q)
    rw [he] at h1
    obtain rfl := Option.some.inj h1
    rw [hx.agree k q]
    have h3 := h2 hr
    refine h k _ (List.getElem?_eq_getElem q) hr ?_
    rw [← h3]; exact hc
  · have := hx.new k e q he
    rw [hr] at this; cases this
theorem farO.sel {z nB : Nat} {rs : List Nat} {β : Nat → Nat} {M M' : Mm} (h : farO z β M) (hs : ∀ (k : Nat) (e : Ent), M'[k]? = some e → M[sig nB rs k]? = some ⟨e.rw, e.c.ren (sig nB rs)⟩) : farO z (fun k => β (sig nB rs k)) M' := fun k e he hr hc => h _ _ (hs k e he) hr (by rw [here_ren]; exact hc)
/-- Every block that may be written is told of. -/
def noGone (M : Mm) : Bool := M.all fun e => !e.rw || e.c.here
theorem noGone_lt {G : Mm} {β : Nat → Nat} {M : Mm} {w : World} (hn : noGone M = true) (hR : Rel G β M w) {b : Nat} (hb : rwset β M b) : b < w.heap.size := by
  obtain ⟨k, e, he, hr, rfl⟩ := hb
  have := List.all_eq_true.1 hn e (List.mem_of_getElem? he)
  rw [hr] at this
  exact (hR.all k e he (by simpa using this)).lt
/-- An iterator that tells enc 0, enc 1 .., on and on, as long as it is told to go on; N bounds how long. Box: what it reads. -/
def SeqLeft (P : Program) (gf : Nat) (lb : Array Value) (enc : Nat → Value) (N : Nat) (Box : World → Prop) : Prop :=
  ∀ (l m : Nat) (J : Nat → World → Prop) (Jx : World → Prop) (W : World), (∀ k A B, J k A → Fp0 A B → J k B) → (∀ k A, J k A → Box A) → (∀ A, Jx A → Box A) →
    (∀ k A, k < N → J k A → YieldAt (fen none) m P l #[enc k] A fun e B => (e = .returned (.bool true) ∧ k + 1 < N ∧ J (k + 1) B) ∨ (e = .returned (.bool false) ∧ Jx B)) →
    0 < N → J 0 W → CallsIn (fen none) m P gf (#[.func (.yield l) #[] #[]] ++ lb) W fun e W' => (∃ v, e = .returned v) ∧ ∃ A, Jx A ∧ Fp0 A W'
def noW : Code → List SV → Mm → Ko → Prop := fun _ _ _ _ => False
/-- How a round may end: it goes on, or it breaks. -/
def Kround (nG nB bid : Nat) {ι : Type} (sel : List SV → Mm → Option (ι × List Nat)) (a x : ι → Prop) (Mi : ι → Mm) : Ko := fun e fr2 M2 => match e with
  | .normal => match sel fr2 M2 with
    | some (i', rs) => a i' ∧ vSel nG nB M2 (Mi i') rs
    | none => False
  | .exit j => vsome (Nat.beq j bid) (match sel fr2 M2 with
    | some (i', rs) => x i' ∧ vSel nG nB M2 (Mi i') rs
    | none => False)
  | _ => False
theorem range_left {P : Program} {E : Env} (hE : EnvOk P E) (hm : P.follows .mixedOrders = true) {m bid : Nat} {ι : Type} (Mi : ι → Mm) (p : Nat → ι → Prop) (px : ι → Prop) (N nB : Nat) (sel : ι → List SV → Mm → Option (ι × List Nat)) (xs : Nat → SV) {g : Operand} {pt : Nat} {assign body : Code} {gf : Nat} {caps : List SV} {fr : List SV} {i0 : ι} {β0 : Nat → Nat} {a : Act} {w0 : World} {Q : Exit → Act → World → Prop} {Box : World → Prop}
    (hGB : E.G.length ≤ nB) (hN : 0 < N) (hp : p 0 i0) (hlen : ∀ i, nB ≤ (Mi i).length) (hgone : ∀ i, noGone (Mi i) = true) (hxs : ∀ k, (xs k).wf 0 = true)
    (hF : RelF β0 nB fr (bare a)) (hR : Rel E.G β0 (Mi i0) w0) (hg : a.eval g = .func (.func gf) #[] (vals β0 caps).toArray) (eg : ∀ args w, (callFunc gf args).run P w = .ok (.enter gf args) w)
    (hseq : SeqLeft P gf (vals β0 caps).toArray (fun k => val β0 (xs k)) N Box)
    (hbox : ∀ (β : Nat → Nat) (k : Nat) (i : ι) (W : World), p k i → Rel E.G β (Mi i) W → (∀ t, t < nB → β t = β0 t) → Box W)
    (hboxx : ∀ (β : Nat → Nat) (i : ι) (W : World), px i → Rel E.G β (Mi i) W → (∀ t, t < nB → β t = β0 t) → Box W)
    (hround : ∀ k i, k < N → p k i → vcode P E noW (vdraw P E) assign (fr.set pt (xs k)) (Mi i) (fun e fr1 M1 => match e with
      | .normal => noGone M1 = true ∧ vcode P E noW (vdraw P E) body fr1 M1 (Kround E.G.length nB bid (sel i) (fun i' => k + 1 < N ∧ p (k + 1) i') px Mi)
      | _ => False))
    (hQ : ∀ (D : Nat) (β : Nat → Nat) (i : ι) (W : World), w0.heap.size = D → px i → Rel E.G β (Mi i) W → (∀ t, t < nB → β t = β0 t) → (∀ b, rwset β (Mi i) b → rwset β0 (Mi i0) b ∨ w0.heap.size + 2 ≤ b) → Fp (rwset β0 (Mi i0)) w0 W → W.heap[D]? = some (.deferred (some [])) →
      Q (.exit bid) { a with defers := { target := .collected D, args := #[] } :: a.defers } W) :
    (Code.rangeFunc g #[pt] assign body).wpIn (fen none) m P Q a w0 := by
  refine wpIn_rangeFunc ?_
  intro fn hfn
  obtain ⟨rec, hrec⟩ : ∃ rec : LoopState → Option Code → Loop, rec = fun st pe => { state := st, pending := pe, fn, tmps := a.tmps, params := #[pt], assign, body, defers := w0.heap.size } := ⟨_, rfl⟩
  obtain ⟨W1, hW1⟩ : ∃ W1, (w0.alloc (.deferred (some []))).alloc (.loop (rec .ready none)) = W1 := ⟨_, rfl⟩
  have hL1 : W1.heap[w0.heap.size + 1]? = some (.loop (rec .ready none)) := by
    rw [← hW1]; have := World.alloc_heap_new (w0.alloc (.deferred (some []))) (.loop (rec .ready none)); rwa [World.size_alloc] at this
  have hD1 : W1.heap[w0.heap.size]? = some (.deferred (some [])) := by
    rw [← hW1]; exact (Below.heap_alloc _ _ _ (by simp)).trans (World.alloc_heap_new w0 _)
  have hfp1 : Fp0 w0 W1 := by rw [← hW1]; exact (Fp.alloc _ _).trans0 (Fp.alloc _ _)
  have hrw0 : ∀ b, rwset β0 (Mi i0) b → b < w0.heap.size := fun b hb => noGone_lt (hgone i0) hR hb
  -- what holds ahead of each round
  let J : Nat → World → Prop := fun k W => ∃ β i, p k i ∧ Rel E.G β (Mi i) W ∧ (∀ t, t < nB → β t = β0 t) ∧ (∀ b, rwset β (Mi i) b → rwset β0 (Mi i0) b ∨ w0.heap.size + 2 ≤ b) ∧ farO w0.heap.size β (Mi i) ∧ Fp (rwset β0 (Mi i0)) w0 W ∧ W.heap[w0.heap.size + 1]? = some (.loop (rec .ready none)) ∧ W.heap[w0.heap.size]? = some (.deferred (some []))
  let Jx : World → Prop := fun W => ∃ β i, px i ∧ Rel E.G β (Mi i) W ∧ (∀ t, t < nB → β t = β0 t) ∧ (∀ b, rwset β (Mi i) b → rwset β0 (Mi i0) b ∨ w0.heap.size + 2 ≤ b) ∧ farO w0.heap.size β (Mi i) ∧ Fp (rwset β0 (Mi i0)) w0 W ∧ W.heap[w0.heap.size + 1]? = some (.loop (rec .done (some (.exit bid)))) ∧ W.heap[w0.heap.size]? = some (.deferred (some []))
  refine ⟨w0.heap.size + 1, [{ target := .collected w0.heap.size, args := #[] }], W1, { target := .fn (.func gf) (vals β0 caps).toArray, args := #[.func (.yield (w0.heap.size + 1)) #[] #[]] }, W1, gf,
    #[.func (.yield (w0.heap.size + 1)) #[] #[]] ++ (vals β0 caps).toArray, W1, ?_, ?_, fun _ _ => trivial, ?_, fun h => (by cases h), ?_⟩
  · rw [← hW1, hrec]; exact run_enterLoop_outer _ _ _ _ _
  · simp only [resolve, hg]
    simp [go_sem]
  · simp [invoke, go_sem, eg]
  refine (hseq (w0.heap.size + 1) (m - 1) J Jx W1 ?_ ?_ ?_ ?_ hN ?_).mono ?_
  · -- what holds, holds on
    rintro k A B ⟨β, i, h1, h2, h3, h4, hfar, h5, h6, h7⟩ hAB
    have lt : ∀ {q : Nat} {o : Obj}, A.heap[q]? = some o → q < A.heap.size := fun h => (Array.getElem?_eq_some_iff.1 h).1
    exact ⟨β, i, h1, h2.step hAB, h3, h4, hfar, h5.trans0 hAB, (hAB.block _ (lt h6) id).trans h6, (hAB.block _ (lt h7) id).trans h7⟩
  · rintro k A ⟨β, i, h1, h2, h3, -⟩
    exact hbox β k i A h1 h2 h3
  · rintro A ⟨β, i, h1, h2, h3, -⟩
    exact hboxx β i A h1 h2 h3
  · -- one round
    rintro k A hk ⟨β, i, h1, h2, h3, h4, hfar, h5, h6, h7⟩
    have ltA : w0.heap.size + 1 < A.heap.size := (Array.getElem?_eq_some_iff.1 h6).1
    have hrwA : ∀ b, rwset β (Mi i) b → b ≠ w0.heap.size + 1 ∧ b ≠ w0.heap.size := fun b hb => by
      rcases h4 b hb with q | q
      · have := hrw0 b q; omega
      · omega
    have h4' : ∀ b, rwset β (Mi i) b → rwset β0 (Mi i0) b ∨ w0.heap.size ≤ b := fun b hb => (h4 b hb).imp id fun q => by omega
    have hy := run_yield (P := P) (args := #[val β0 (xs k)]) h6 (by rw [hrec]; rfl)
    have et : ((#[pt] : Array Tmp).zip #[val β0 (xs k)]).foldl (fun tmps (t, a) => tmps.setIfInBounds t a) a.tmps = a.tmps.setIfInBounds pt (val β0 (xs k)) := by
      have hz : (#[pt] : Array Tmp).zip #[val β0 (xs k)] = #[(pt, val β0 (xs k))] := by rw [List.zip_toArray]; rfl
      rw [hz]; rfl
    have hy2 : (Instr.yield (w0.heap.size + 1) #[val β0 (xs k)]).run P A = .ok (.round (w0.heap.size + 1) fn (a.tmps.setIfInBounds pt (val β0 (xs k))) assign body) A := by
      rw [hrec] at hy; rw [← et]; exact hy
    refine ⟨fn, _, assign, body, hy2, roundIn_of_wpIn hfn ?_⟩
    -- the frame of the round
    have hFk : RelF β (Mi i).length (fr.set pt (xs k)) (bare { tmps := a.tmps.setIfInBounds pt (val β0 (xs k)), defers := [] }) := by
      have q1 : RelF β (Mi i).length fr (bare a) := hF.mono (hlen i) h3
      exact q1.put pt (.inr ⟨wf_mono (Nat.zero_le _) _ (hxs k), (val_agree (fun t ht => absurd ht (Nat.not_lt_zero t)) (xs k) (hxs k)).symm ▸ rfl⟩)
    have hA := vcodeR_ok (R := some (w0.heap.size + 1)) (m := m - 1) (ds := []) hE hm (B := Mi i) (W := noW) (fun _ _ _ _ h => h.elim) assign _ (Mi i) _ (hround k i hk h1) β A β { tmps := a.tmps.setIfInBounds pt (val β0 (xs k)), defers := [] } A (Ext.refl _ _ _) hFk rfl h2
    refine Code.wpIn_mono (fun e a1 A1 hh => ?_) hA
    obtain ⟨⟨β1, fr1, M1, e1, f1, r1, k1⟩, d1⟩ := hh
    cases e with
    | normal =>
      obtain ⟨ng, k1⟩ := k1
      have hl1 : A1.heap[w0.heap.size + 1]? = some (.loop (rec .ready none)) := (e1.fp.block _ ltA (fun hb => (hrwA _ hb).1 rfl)).trans h6
      have hd1 : A1.heap[w0.heap.size]? = some (.deferred (some [])) := (e1.fp.block _ (by omega) (fun hb => (hrwA _ hb).2 rfl)).trans h7
      have hrw1 : ∀ b, rwset β1 M1 b → rwset β0 (Mi i0) b ∨ w0.heap.size + 2 ≤ b := fun b hb => by
        rcases e1.rws b hb with q | q
        · exact h4 b q
        · exact .inr (by omega)
      have ltA1 : w0.heap.size + 1 < A1.heap.size := (Array.getElem?_eq_some_iff.1 hl1).1
      have no1 : ∀ (t : Nat) (e : Ent), M1[t]? = some e → e.c.here = true → β1 t ≠ w0.heap.size + 1 := fun t e he hc heq => by
        have hold := r1.all t e he hc
        cases hrw : e.rw with
        | true =>
          rcases hrw1 _ ⟨t, e, he, hrw, heq⟩ with q | q
          · have := hrw0 _ q; omega
          · omega
        | false =>
          rcases hfar.ext e1 t e he hrw hc with q | q <;> omega
      have agree1 : ∀ t, t < nB → β1 t = β0 t := fun t ht => (e1.agree t (Nat.lt_of_lt_of_le ht (hlen i))).trans (h3 t ht)
      refine ⟨_, run_beginRound hl1 (by rw [hrec]), ?_⟩
      obtain ⟨A2, hA2⟩ : ∃ A2, A1.putObj (w0.heap.size + 1) (.loop { rec .ready none with state := .busy }) = A2 := ⟨_, rfl⟩
      rw [hA2]
      have s2 : A2.heap.size = A1.heap.size := by rw [← hA2]; simp
      have r2 : Rel E.G β1 M1 A2 := by rw [← hA2]; exact r1.turn _ no1
      have hl2 : A2.heap[w0.heap.size + 1]? = some (.loop { rec .ready none with state := .busy }) := by rw [← hA2]; exact World.putObj_heap_same ltA1
      have hd2 : A2.heap[w0.heap.size]? = some (.deferred (some [])) := by rw [← hA2]; exact (World.putObj_heap_other (by omega)).trans hd1
      have h52 : Fp (rwset β0 (Mi i0)) w0 A2 := by
        have q := h5.trans e1.fp h4'
        rw [← hA2]
        exact ⟨q.os, q.tape, q.output, by simp; exact q.size, fun t ht hb => (World.putObj_heap_other (by omega)).trans (q.block t ht hb)⟩
      have hB := vcodeR_ok (R := some (w0.heap.size + 1)) (m := m - 1) (ds := []) hE hm (B := M1) (W := noW) (fun _ _ _ _ h => h.elim) body fr1 M1 _ k1 β1 A2 β1 a1 A2 (Ext.refl _ _ _) f1 d1 r2
      refine Code.wpIn_mono (fun e a3 A3 hh => ?_) hB
      obtain ⟨⟨β3, fr3, M3, e3, f3, r3, k3⟩, d3⟩ := hh
      have hrw3 : ∀ b, rwset β3 M3 b → rwset β0 (Mi i0) b ∨ w0.heap.size + 2 ≤ b := fun b hb => by
        rcases e3.rws b hb with q | q
        · exact hrw1 b q
        · exact .inr (by omega)
      have hrwA1 : ∀ b, rwset β1 M1 b → b ≠ w0.heap.size + 1 ∧ b ≠ w0.heap.size := fun b hb => by
        rcases hrw1 b hb with q | q
        · have := hrw0 b q; omega
        · omega
      have hl3 : A3.heap[w0.heap.size + 1]? = some (.loop { rec .ready none with state := .busy }) := (e3.fp.block _ (by omega) (fun hb => (hrwA1 _ hb).1 rfl)).trans hl2
      have hd3 : A3.heap[w0.heap.size]? = some (.deferred (some [])) := (e3.fp.block _ (by omega) (fun hb => (hrwA1 _ hb).2 rfl)).trans hd2
      have ltA3 : w0.heap.size + 1 < A3.heap.size := (Array.getElem?_eq_some_iff.1 hl3).1
      have far3 : farO w0.heap.size β3 M3 := (hfar.ext e1).ext e3
      have no3 : ∀ (t : Nat) (e : Ent), M3[t]? = some e → e.c.here = true → β3 t ≠ w0.heap.size + 1 := fun t e he hc heq => by
        cases hrw : e.rw with
        | true =>
          rcases hrw3 _ ⟨t, e, he, hrw, heq⟩ with q | q
          · have := hrw0 _ q; omega
          · omega
        | false =>
          rcases far3 t e he hrw hc with q | q <;> omega
      have h53 : Fp (rwset β0 (Mi i0)) w0 A3 := h52.trans e3.fp fun b hb => by
        rcases hrw1 b hb with q | q
        · exact .inl q
        · exact .inr (by omega)
      -- what stands behind a round
      have fin : ∀ (o : Obj) (i' : ι) (rs : List Nat), vSel E.G.length nB M3 (Mi i') rs → ∃ β, Rel E.G β (Mi i') (A3.putObj (w0.heap.size + 1) o) ∧ (∀ t, t < nB → β t = β0 t) ∧ (∀ b, rwset β (Mi i') b → rwset β0 (Mi i0) b ∨ w0.heap.size + 2 ≤ b) ∧ farO w0.heap.size β (Mi i') ∧ Fp (rwset β0 (Mi i0)) w0 (A3.putObj (w0.heap.size + 1) o) ∧ (A3.putObj (w0.heap.size + 1) o).heap[w0.heap.size + 1]? = some o ∧ (A3.putObj (w0.heap.size + 1) o).heap[w0.heap.size]? = some (.deferred (some [])) := fun o i' rs hs => by
        obtain ⟨q1, q2, q3, q4⟩ := vSel_ok hGB (r3.turn o no3) hs
        refine ⟨_, q1, fun t ht => ?_, fun b hb => hrw3 b (q2 b hb), far3.sel q4, ⟨h53.os, h53.tape, h53.output, by simp; exact h53.size, fun t ht hb => (World.putObj_heap_other (by omega)).trans (h53.block t ht hb)⟩, World.putObj_heap_same ltA3, (World.putObj_heap_other (by omega)).trans hd3⟩
        show β3 (sig nB rs t) = β0 t
        rw [sig_old ht, e3.agree t (by have := e1.len; have := hlen i; omega), agree1 t ht]
      cases e with
      | normal =>
        simp only [Kround] at k3
        split at k3
        · rename_i i' rs hsel
          obtain ⟨⟨kN, kp⟩, ks⟩ := k3
          obtain ⟨β, q1, q2, q3, q4, q5, q6, q7⟩ := fin (.loop (rec .ready none)) i' rs ks
          refine ⟨_, _, run_endRound none hl3, .inl ⟨rfl, kN, β, i', kp, ?_⟩⟩
          rw [hrec] at q1 q5 q6 q7 ⊢
          exact ⟨q1, q2, q3, q4, q5, q6, q7⟩
        · exact k3.elim
      | exit j =>
        simp only [Kround] at k3
        replace k3 := vsome_iff.1 k3
        obtain ⟨hj, k4⟩ := k3
        obtain rfl := Nat.eq_of_beq_eq_true hj
        split at k4
        · rename_i i' rs hsel
          obtain ⟨kp, ks⟩ := k4
          obtain ⟨β, q1, q2, q3, q4, q5, q6, q7⟩ := fin (.loop (rec .done (some (.exit j)))) i' rs ks
          refine ⟨_, _, run_endRound (some (.exit j)) hl3, .inr ⟨rfl, β, i', kp, ?_⟩⟩
          rw [hrec] at q1 q5 q6 q7 ⊢
          exact ⟨q1, q2, q3, q4, q5, q6, q7⟩
        · exact k4.elim
      | goto j => exact k3.elim
      | ret => exact k3.elim
      | panic ch => exact k3.elim
      | outgrown => exact k3.elim
    | exit j => exact k1.elim
    | goto j => exact k1.elim
    | ret => exact k1.elim
    | panic ch => exact k1.elim
    | outgrown => exact k1.elim
  · exact ⟨β0, i0, hp, hR.step hfp1, fun _ _ => rfl, fun b hb => .inl hb, fun t e he hr hc => .inl (hR.all t e he hc).lt, (Fp.refl _ _).trans0 hfp1, hL1, hD1⟩
  · rintro e W2 ⟨⟨v, rfl⟩, A, ⟨β, i, h1, h2, h3, h4, hfar, h5, h6, h7⟩, hA2⟩
    have lt : ∀ {q : Nat} {o : Obj}, A.heap[q]? = some o → q < A.heap.size := fun h => (Array.getElem?_eq_some_iff.1 h).1
    have hl : W2.heap[w0.heap.size + 1]? = some (.loop (rec .done (some (.exit bid)))) := (hA2.block _ (lt h6) id).trans h6
    have hd : W2.heap[w0.heap.size]? = some (.deferred (some [])) := (hA2.block _ (lt h7) id).trans h7
    refine ⟨some (.exit bid), _, by have := run_endLoop (P := P) hl (by rw [hrec]; simp); rw [hrec] at this; exact this, wpIn_exit ?_⟩
    have no2 : ∀ (t : Nat) (e : Ent), (Mi i)[t]? = some e → e.c.here = true → β t ≠ w0.heap.size + 1 := fun t e he hc heq => by
      cases hrw : e.rw with
      | true =>
        rcases h4 _ ⟨t, e, he, hrw, heq⟩ with q | q
        · have := hrw0 _ q; omega
        · omega
      | false =>
        rcases hfar t e he hrw hc with q | q <;> omega
    have q5 := h5.trans0 hA2
    exact hQ _ β i _ rfl h1 ((h2.step hA2).turn _ no2) h3 h4 ⟨q5.os, q5.tape, q5.output, by simp; exact q5.size, fun t ht hb => (World.putObj_heap_other (by omega)).trans (q5.block t ht hb)⟩ ((World.putObj_heap_other (by omega)).trans hd)
end Go.Proofs.YtgjhkfafmmkimaaDoor
