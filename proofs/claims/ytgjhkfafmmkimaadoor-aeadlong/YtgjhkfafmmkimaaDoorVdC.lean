/-
  A reckoner of conditions: a range over an iterator that ends by itself, or is left by a break. No statement is proved here.
-/
import Derived.Test.YtgjhkfafmmkimaaDoorVcZ
namespace Go.Proofs.YtgjhkfafmmkimaaDoor
open Go.RowKit
set_option linter.unusedVariables false
set_option linter.unusedSimpArgs false

/-- An iterator that yields N values, and ends, if it is told to go on each time; else it ends at once. Box: what it reads. -/
def SeqAll (P : Program) (gf : Nat) (lb : Array Value) (enc : Nat → Value) (N : Nat) (Box : World → Prop) : Prop :=
  ∀ (l m : Nat) (J : Nat → World → Prop) (Jx : World → Prop) (W : World), (∀ k A B, J k A → Fp0 A B → J k B) → (∀ k A, J k A → Box A) → (∀ A, Jx A → Box A) →
    (∀ k A, k < N → J k A → YieldAt (fen none) m P l #[enc k] A fun e B => (e = .returned (.bool true) ∧ J (k + 1) B) ∨ (e = .returned (.bool false) ∧ Jx B)) →
    J 0 W → CallsIn (fen none) m P gf (#[.func (.yield l) #[] #[]] ++ lb) W fun e W' => (∃ v, e = .returned v) ∧ ((∃ A, J N A ∧ Fp0 A W') ∨ ∃ A, Jx A ∧ Fp0 A W')
theorem range_all {P : Program} {E : Env} (hE : EnvOk P E) (hm : P.follows .mixedOrders = true) {m bid : Nat} {ι : Type} (Mi : ι → Mm) (p : Nat → ι → Prop) (px : ι → Prop) (N nB : Nat) (sel : ι → List SV → Mm → Option (ι × List Nat)) (xs : Nat → SV) {g : Operand} {pt : Nat} {assign body : Code} {gf : Nat} {caps : List SV} {fr : List SV} {i0 : ι} {β0 : Nat → Nat} {a : Act} {w0 : World} {Q : Exit → Act → World → Prop} {Box : World → Prop}
    (hGB : E.G.length ≤ nB) (hp : p 0 i0) (hlen : ∀ i, nB ≤ (Mi i).length) (hgone : ∀ i, noGone (Mi i) = true) (hxs : ∀ k, (xs k).wf nB = true)
    (hF : RelF β0 nB fr (bare a)) (hR : Rel E.G β0 (Mi i0) w0) (hg : a.eval g = .func (.func gf) #[] (vals β0 caps).toArray) (eg : ∀ args w, (callFunc gf args).run P w = .ok (.enter gf args) w)
    (hseq : SeqAll P gf (vals β0 caps).toArray (fun k => val β0 (xs k)) N Box)
    (hbox : ∀ (β : Nat → Nat) (k : Nat) (i : ι) (W : World), p k i → Rel E.G β (Mi i) W → (∀ t, t < nB → β t = β0 t) → Box W)
    (hboxx : ∀ (β : Nat → Nat) (i : ι) (W : World), px i → Rel E.G β (Mi i) W → (∀ t, t < nB → β t = β0 t) → Box W)
    (hround : ∀ k i, k < N → p k i → vcode P E noW (vdraw P E) assign (fr.set pt (xs k)) (Mi i) (fun e fr1 M1 => match e with
      | .normal => noGone M1 = true ∧ vcode P E noW (vdraw P E) body fr1 M1 (Kround E.G.length nB bid (sel i) (fun i' => p (k + 1) i') px Mi)
      | _ => False))
    (hQ : ∀ (D : Nat) (β : Nat → Nat) (i : ι) (W : World), w0.heap.size = D → px i → Rel E.G β (Mi i) W → (∀ t, t < nB → β t = β0 t) → (∀ b, rwset β (Mi i) b → rwset β0 (Mi i0) b ∨ w0.heap.size + 2 ≤ b) → Fp (rwset β0 (Mi i0)) w0 W → W.heap[D]? = some (.deferred (some [])) →
      Q (.exit bid) { a with defers := { target := .collected D, args := #[] } :: a.defers } W)
    (hZ : ∀ (D : Nat) (β : Nat → Nat) (i : ι) (W : World), w0.heap.size = D → p N i → Rel E.G β (Mi i) W → (∀ t, t < nB → β t = β0 t) → (∀ b, rwset β (Mi i) b → rwset β0 (Mi i0) b ∨ w0.heap.size + 2 ≤ b) → Fp (rwset β0 (Mi i0)) w0 W → W.heap[D]? = some (.deferred (some [])) →
      Q .normal { a with defers := { target := .collected D, args := #[] } :: a.defers } W) :
    (Code.rangeFunc g #[pt] assign body).wpIn (fen none) m P Q a w0 := by
  refine wpIn_rangeFunc ?_
  intro fn hfn
  obtain ⟨rec, hrec⟩ : ∃ rec : LoopState → Option Code → Loop, rec = fun st pe => { state := st, pending := pe, fn, tmps := a.tmps, params := #[pt], assign, body, defers := w0.heap.size } := ⟨_, rfl⟩
  obtain ⟨W1, hW1⟩ : ∃ W1, (w0.alloc (.deferred (some []))).alloc (.loop (rec .ready none)) = W1 := ⟨_, rfl⟩
  have hL1 : W1.heap[w0.heap.size + 1]? = some (.loop (rec .ready none)) := by
    rw [← hW1]; have := World.alloc_heap_new (w0.alloc (.deferred (some []))) (.loop (rec .ready none)); rwa [World.size_alloc] at this
  have hD1 : W1.heap[w0.heap.size]? = some (.deferred (some [])) := by
    rw [← hW1]; exact (Below.heap_alloc _ _ _ (by simp)).trans (World.alloc_heap_new w0 _)
  have hfp1 : Fp0 w0 W1 := by rw [← hW1]; exact (Fp.alloc _ _).trans0 (Fp.alloc _ _)
  have hrw0 : ∀ b, rwset β0 (Mi i0) b → b < w0.heap.size := fun b hb => noGone_lt (hgone i0) hR hb
  -- what holds ahead of each round
  let J : Nat → World → Prop := fun k W => ∃ β i, p k i ∧ Rel E.G β (Mi i) W ∧ (∀ t, t < nB → β t = β0 t) ∧ (∀ b, rwset β (Mi i) b → rwset β0 (Mi i0) b ∨ w0.heap.size + 2 ≤ b) ∧ farO w0.heap.size β (Mi i) ∧ Fp (rwset β0 (Mi i0)) w0 W ∧ W.heap[w0.heap.size + 1]? = some (.loop (rec .ready none)) ∧ W.heap[w0.heap.size]? = some (.deferred (some []))
  let Jx : World → Prop := fun W => ∃ β i, px i ∧ Rel E.G β (Mi i) W ∧ (∀ t, t < nB → β t = β0 t) ∧ (∀ b, rwset β (Mi i) b → rwset β0 (Mi i0) b ∨ w0.heap.size + 2 ≤ b) ∧ farO w0.heap.size β (Mi i) ∧ Fp (rwset β0 (Mi i0)) w0 W ∧ W.heap[w0.heap.size + 1]? = some (.loop (rec .done (some (.exit bid)))) ∧ W.heap[w0.heap.size]? = some (.deferred (some []))
  refine ⟨w0.heap.size + 1, [{ target := .collected w0.heap.size, args := #[] }], W1, { target := .fn (.func gf) (vals β0 caps).toArray, args := #[.func (.yield (w0.heap.size + 1)) #[] #[]] }, W1, gf,
    #[.func (.yield (w0.heap.size + 1)) #[] #[]] ++ (vals β0 caps).toArray, W1, ?_, ?_, fun _ _ => trivial, ?_, fun h => (by cases h), ?_⟩
  · rw [← hW1, hrec]; exact run_enterLoop_outer _ _ _ _ _
  · simp only [resolve, hg]
    simp [go_sem]
  · simp [invoke, go_sem, eg]
  refine (hseq (w0.heap.size + 1) (m - 1) J Jx W1 ?_ ?_ ?_ ?_ ?_).mono ?_
  · -- what holds, holds on
    rintro k A B ⟨β, i, h1, h2, h3, h4, hfar, h5, h6, h7⟩ hAB
    have lt : ∀ {q : Nat} {o : Obj}, A.heap[q]? = some o → q < A.heap.size := fun h => (Array.getElem?_eq_some_iff.1 h).1
    exact ⟨β, i, h1, h2.step hAB, h3, h4, hfar, h5.trans0 hAB, (hAB.block _ (lt h6) id).trans h6, (hAB.block _ (lt h7) id).trans h7⟩
  · rintro k A ⟨β, i, h1, h2, h3, -⟩
    exact hbox β k i A h1 h2 h3
  · rintro A ⟨β, i, h1, h2, h3, -⟩
    exact hboxx β i A h1 h2 h3
  · -- one round
    rintro k A hk ⟨β, i, h1, h2, h3, h4, hfar, h5, h6, h7⟩
    have ltA : w0.heap.size + 1 < A.heap.size := (Array.getElem?_eq_some_iff.1 h6).1
    have hrwA : ∀ b, rwset β (Mi i) b → b ≠ w0.heap.size + 1 ∧ b ≠ w0.heap.size := fun b hb => by
      rcases h4 b hb with q | q
      · have := hrw0 b q; omega
      · omega
    have h4' : ∀ b, rwset β (Mi i) b → rwset β0 (Mi i0) b ∨ w0.heap.size ≤ b := fun b hb => (h4 b hb).imp id fun q => by omega
    have hy := run_yield (P := P) (args := #[val β0 (xs k)]) h6 (by rw [hrec]; rfl)
    have et : ((#[pt] : Array Tmp).zip #[val β0 (xs k)]).foldl (fun tmps (t, a) => tmps.setIfInBounds t a) a.tmps = a.tmps.setIfInBounds pt (val β0 (xs k)) := by
      have hz : (#[pt] : Array Tmp).zip #[val β0 (xs k)] = #[(pt, val β0 (xs k))] := by rw [List.zip_toArray]; rfl
      rw [hz]; rfl
    have hy2 : (Instr.yield (w0.heap.size + 1) #[val β0 (xs k)]).run P A = .ok (.round (w0.heap.size + 1) fn (a.tmps.setIfInBounds pt (val β0 (xs k))) assign body) A := by
      rw [hrec] at hy; rw [← et]; exact hy
    refine ⟨fn, _, assign, body, hy2, roundIn_of_wpIn hfn ?_⟩
    -- the frame of the round
    have hFk : RelF β (Mi i).length (fr.set pt (xs k)) (bare { tmps := a.tmps.setIfInBounds pt (val β0 (xs k)), defers := [] }) := by
      have q1 : RelF β (Mi i).length fr (bare a) := hF.mono (hlen i) h3
      exact q1.put pt (.inr ⟨wf_mono (hlen i) _ (hxs k), (val_agree h3 (xs k) (hxs k)).symm⟩)
    have hA := vcodeR_ok (R := some (w0.heap.size + 1)) (m := m - 1) (ds := []) hE hm (B := Mi i) (W := noW) (fun _ _ _ _ h => h.elim) assign _ (Mi i) _ (hround k i hk h1) β A β { tmps := a.tmps.setIfInBounds pt (val β0 (xs k)), defers := [] } A (Ext.refl _ _ _) hFk rfl h2
    refine Code.wpIn_mono (fun e a1 A1 hh => ?_) hA
    obtain ⟨⟨β1, fr1, M1, e1, f1, r1, k1⟩, d1⟩ := hh
    cases e with
    | normal =>
      obtain ⟨ng, k1⟩ := k1
      have hl1 : A1.heap[w0.heap.size + 1]? = some (.loop (rec .ready none)) := (e1.fp.block _ ltA (fun hb => (hrwA _ hb).1 rfl)).trans h6
      have hd1 : A1.heap[w0.heap.size]? = some (.deferred (some [])) := (e1.fp.block _ (by omega) (fun hb => (hrwA _ hb).2 rfl)).trans h7
      have hrw1 : ∀ b, rwset β1 M1 b → rwset β0 (Mi i0) b ∨ w0.heap.size + 2 ≤ b := fun b hb => by
        rcases e1.rws b hb with q | q
        · exact h4 b q
        · exact .inr (by omega)
      have ltA1 : w0.heap.size + 1 < A1.heap.size := (Array.getElem?_eq_some_iff.1 hl1).1
      have no1 : ∀ (t : Nat) (e : Ent), M1[t]? = some e → e.c.here = true → β1 t ≠ w0.heap.size + 1 := fun t e he hc heq => by
        have hold := r1.all t e he hc
        cases hrw : e.rw with
        | true =>
          rcases hrw1 _ ⟨t, e, he, hrw, heq⟩ with q | q
          · have := hrw0 _ q; omega
          · omega
        | false =>
          rcases hfar.ext e1 t e he hrw hc with q | q <;> omega
      have agree1 : ∀ t, t < nB → β1 t = β0 t := fun t ht => (e1.agree t (Nat.lt_of_lt_of_le ht (hlen i))).trans (h3 t ht)
      refine ⟨_, run_beginRound hl1 (by rw [hrec]), ?_⟩
      obtain ⟨A2, hA2⟩ : ∃ A2, A1.putObj (w0.heap.size + 1) (.loop { rec .ready none with state := .busy }) = A2 := ⟨_, rfl⟩
      rw [hA2]
      have s2 : A2.heap.size = A1.heap.size := by rw [← hA2]; simp
      have r2 : Rel E.G β1 M1 A2 := by rw [← hA2]; exact r1.turn _ no1
      have hl2 : A2.heap[w0.heap.size + 1]? = some (.loop { rec .ready none with state := .busy }) := by rw [← hA2]; exact World.putObj_heap_same ltA1
      have hd2 : A2.heap[w0.heap.size]? = some (.deferred (some [])) := by rw [← hA2]; exact (World.putObj_heap_other (by omega)).trans hd1
      have h52 : Fp (rwset β0 (Mi i0)) w0 A2 := by
        have q := h5.trans e1.fp h4'
        rw [← hA2]
        exact ⟨q.os, q.tape, q.output, by simp; exact q.size, fun t ht hb => (World.putObj_heap_other (by omega)).trans (q.block t ht hb)⟩
      have hB := vcodeR_ok (R := some (w0.heap.size + 1)) (m := m - 1) (ds := []) hE hm (B := M1) (W := noW) (fun _ _ _ _ h => h.elim) body fr1 M1 _ k1 β1 A2 β1 a1 A2 (Ext.refl _ _ _) f1 d1 r2
      refine Code.wpIn_mono (fun e a3 A3 hh => ?_) hB
      obtain ⟨⟨β3, fr3, M3, e3, f3, r3, k3⟩, d3⟩ := hh
      have hrw3 : ∀ b, rwset β3 M3 b → rwset β0 (Mi i0) b ∨ w0.heap.size + 2 ≤ b := fun b hb => by
        rcases e3.rws b hb with q | q
        · exact hrw1 b q
        · exact .inr (by omega)
      have hrwA1 : ∀ b, rwset β1 M1 b → b ≠ w0.heap.size + 1 ∧ b ≠ w0.heap.size := fun b hb => by
        rcases hrw1 b hb with q | q
        · have := hrw0 b q; omega
        · omega
      have hl3 : A3.heap[w0.heap.size + 1]? = some (.loop { rec .ready none with state := .busy }) := (e3.fp.block _ (by omega) (fun hb => (hrwA1 _ hb).1 rfl)).trans hl2
      have hd3 : A3.heap[w0.heap.size]? = some (.deferred (some [])) := (e3.fp.block _ (by omega) (fun hb => (hrwA1 _ hb).2 rfl)).trans hd2
      have ltA3 : w0.heap.size + 1 < A3.heap.size := (Array.getElem?_eq_some_iff.1 hl3).1
      have far3 : farO w0.heap.size β3 M3 := (hfar.ext e1).ext e3
      have no3 : ∀ (t : Nat) (e : Ent), M3[t]? = some e → e.c.here = true → β3 t ≠ w0.heap.size + 1 := fun t e he hc heq => by
        cases hrw : e.rw with
        | true =>
          rcases hrw3 _ ⟨t, e, he, hrw, heq⟩ with q | q
          · have := hrw0 _ q; omega
          · omega
        | false =>
          rcases far3 t e he hrw hc with q | q <;> omega
      have h53 : Fp (rwset β0 (Mi i0)) w0 A3 := h52.trans e3.fp fun b hb => by
        rcases hrw1 b hb with q | q
        · exact .inl q
        · exact .inr (by omega)
      -- what stands behind a round
      have fin : ∀ (o : Obj) (i' : ι) (rs : List Nat), vSel E.G.length nB M3 (Mi i') rs → ∃ β, Rel E.G β (Mi i') (A3.putObj (w0.heap.size + 1) o) ∧ (∀ t, t < nB → β t = β0 t) ∧ (∀ b, rwset β (Mi i') b → rwset β0 (Mi i0) b ∨ w0.heap.size + 2 ≤ b) ∧ farO w0.heap.size β (Mi i') ∧ Fp (rwset β0 (Mi i0)) w0 (A3.putObj (w0.heap.size + 1) o) ∧ (A3.putObj (w0.heap.size + 1) o).heap[w0.heap.size + 1]? = some o ∧ (A3.putObj (w0.heap.size + 1) o).heap[w0.heap.size]? = some (.deferred (some [])) := fun o i' rs hs => by
        obtain ⟨q1, q2, q3, q4⟩ := vSel_ok hGB (r3.turn o no3) hs
        refine ⟨_, q1, fun t ht => ?_, fun b hb => hrw3 b (q2 b hb), far3.sel q4, ⟨h53.os, h53.tape, h53.output, by simp; exact h53.size, fun t ht hb => (World.putObj_heap_other (by omega)).trans (h53.block t ht hb)⟩, World.putObj_heap_same ltA3, (World.putObj_heap_other (by omega)).trans hd3⟩
        show β3 (sig nB rs t) = β0 t
        rw [sig_old ht, e3.agree t (by have := e1.len; have := hlen i; omega), agree1 t ht]
      cases e with
      | normal =>
        simp only [Kround] at k3
        split at k3
        · rename_i i' rs hsel
          obtain ⟨kp, ks⟩ := k3
          obtain ⟨β, q1, q2, q3, q4, q5, q6, q7⟩ := fin (.loop (rec .ready none)) i' rs ks
          refine ⟨_, _, run_endRound none hl3, .inl ⟨rfl, β, i', kp, ?_⟩⟩
          rw [hrec] at q1 q5 q6 q7 ⊢
          exact ⟨q1, q2, q3, q4, q5, q6, q7⟩
        · exact k3.elim
      | exit j =>
        simp only [Kround] at k3
        replace k3 := vsome_iff.1 k3
        obtain ⟨hj, k4⟩ := k3
        obtain rfl := Nat.eq_of_beq_eq_true hj
        split at k4
        · rename_i i' rs hsel
          obtain ⟨kp, ks⟩ := k4
          obtain ⟨β, q1, q2, q3, q4, q5, q6, q7⟩ := fin (.loop (rec .done (some (.exit j)))) i' rs ks
          refine ⟨_, _, run_endRound (some (.exit j)) hl3, .inr ⟨rfl, β, i', kp, ?_⟩⟩
          rw [hrec] at q1 q5 q6 q7 ⊢
          exact ⟨q1, q2, q3, q4, q5, q6, q7⟩
        · exact k4.elim
      | goto j => exact k3.elim
      | ret => exact k3.elim
      | panic ch => exact k3.elim
      | outgrown => exact k3.elim
    | exit j => exact k1.elim
    | goto j => exact k1.elim
    | ret => exact k1.elim
    | panic ch => exact k1.elim
    | outgrown => exact k1.elim
  · exact ⟨β0, i0, hp, hR.step hfp1, fun _ _ => rfl, fun b hb => .inl hb, fun t e he hr hc => .inl (hR.all t e he hc).lt, (Fp.refl _ _).trans0 hfp1, hL1, hD1⟩
  · rintro e W2 ⟨⟨v, rfl⟩, hends⟩
    rcases hends with ⟨A, ⟨β, i, h1, h2, h3, h4, hfar, h5, h6, h7⟩, hA2⟩ | ⟨A, ⟨β, i, h1, h2, h3, h4, hfar, h5, h6, h7⟩, hA2⟩
    · have lt : ∀ {q : Nat} {o : Obj}, A.heap[q]? = some o → q < A.heap.size := fun h => (Array.getElem?_eq_some_iff.1 h).1
      have hl : W2.heap[w0.heap.size + 1]? = some (.loop (rec .ready none)) := (hA2.block _ (lt h6) id).trans h6
      have hd : W2.heap[w0.heap.size]? = some (.deferred (some [])) := (hA2.block _ (lt h7) id).trans h7
      refine ⟨none, _, by have := run_endLoop (P := P) hl (by rw [hrec]; simp); rw [hrec] at this; exact this, ?_⟩
      have no2 : ∀ (t : Nat) (e : Ent), (Mi i)[t]? = some e → e.c.here = true → β t ≠ w0.heap.size + 1 := fun t e he hc heq => by
        cases hrw : e.rw with
        | true =>
          rcases h4 _ ⟨t, e, he, hrw, heq⟩ with q | q
          · have := hrw0 _ q; omega
          · omega
        | false =>
          rcases hfar t e he hrw hc with q | q <;> omega
      have q5 := h5.trans0 hA2
      exact hZ _ β i _ rfl h1 ((h2.step hA2).turn _ no2) h3 h4 ⟨q5.os, q5.tape, q5.output, by simp; exact q5.size, fun t ht hb => (World.putObj_heap_other (by omega)).trans (q5.block t ht hb)⟩ ((World.putObj_heap_other (by omega)).trans hd)
    · have lt : ∀ {q : Nat} {o : Obj}, A.heap[q]? = some o → q < A.heap.size := fun h => (Array.getElem?_eq_some_iff.1 h).1
      have hl : W2.heap[w0.heap.size + 1]? = some (.loop (rec .done (some (.exit bid)))) := (hA2.block _ (lt h6) id).trans h6
      have hd : W2.heap[w0.heap.size]? = some (.deferred (some [])) := (hA2.block _ (lt h7) id).trans h7
      refine ⟨some (.exit bid), _, by have := run_endLoop (P := P) hl (by rw [hrec]; simp); rw [hrec] at this; exact this, wpIn_exit ?_⟩
      have no2 : ∀ (t : Nat) (e : Ent), (Mi i)[t]? = some e → e.c.here = true → β t ≠ w0.heap.size + 1 := fun t e he hc heq => by
        cases hrw : e.rw with
        | true =>
          rcases h4 _ ⟨t, e, he, hrw, heq⟩ with q | q
          · have := hrw0 _ q; omega
          · omega
        | false =>
          rcases hfar t e he hrw hc with q | q <;> omega
      have q5 := h5.trans0 hA2
      exact hQ _ β i _ rfl h1 ((h2.step hA2).turn _ no2) h3 h4 ⟨q5.os, q5.tape, q5.output, by simp; exact q5.size, fun t ht hb => (World.putObj_heap_other (by omega)).trans (q5.block t ht hb)⟩ ((World.putObj_heap_other (by omega)).trans hd)
end Go.Proofs.YtgjhkfafmmkimaaDoor
