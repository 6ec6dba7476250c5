/-
  A reckoner of conditions: loops inside of rounds, and functions that range over an iterator that ends. No statement is proved here.
-/
import Derived.Test.YtgjhkfafmmkimaaDoorVdD
import Derived.Test.YtgjhkfafmmkimaaDoorVcU
namespace Go.Proofs.YtgjhkfafmmkimaaDoor
open Go.RowKit
set_option linter.unusedVariables false
set_option linter.unusedSimpArgs false

/-- A loop in a round's frame, where the next state and the places of its blocks are read off. -/
theorem loopR_pick {P : Program} {E : Env} {R : Option Nat} {d : Nat} {ds : List Deferred} (hE : EnvOk P E) (hm : P.follows .mixedOrders = true) {B : Mm} {f id : Nat} (hG : E.G.length ≤ B.length) (hl : isLoop id (loopOf P f id) = true) {n : Nat} {ι : Type} (I : ι → List (Nat × SV)) (Mi : ι → Mm) (p : ι → Prop) (μ : ι → Nat) (sel : ι → List SV → Mm → Option (ι × List Nat)) (q : ι → Prop) (O : ι → List (Nat × SV)) (N : ι → Mm) (i0 : ι) (hp : p i0)
    (hround : ∀ i, p i → frK n (I i) fun fr => vround P E noL f id fr (Mi i) (Kp B id n (sel i) (fun i' => p i' ∧ μ i' < μ i) I Mi (q i) (O i) (N i))) {fr : List SV} {M : Mm} {K : Ko} (h0 : Le B fr M (mkF n (I i0)) (Mi i0)) (hK : ∀ i, p i → q i → K .normal (mkF n (O i)) (N i)) : WpR R d ds P E.G B (loopOf P f id) fr M K := by
  have hc : loopOf P f id = .block id (.loop (body (loopOf P f id))) := by
    unfold isLoop at hl
    split at hl
    · rename_i j c he
      obtain rfl := Nat.eq_of_beq_eq_true hl
      rw [he]; rfl
    · cases hl
  rw [hc]
  intro β0 w0 β a w hx hF hd hR
  obtain ⟨g1, g2, g3⟩ := h0.go hG hx hF hR
  refine (WpR.loop (R := R) (m := d) (ds := ds) (P := P) (nG := E.G) (B := B) (K := K) (fun m fr M => ∃ i, p i ∧ μ i = m ∧ fr = mkF n (I i) ∧ M = Mi i) (μ i0) ⟨i0, hp, rfl, rfl, rfl⟩ ?_) β0 w0 β a w g1 g2 hd g3
  rintro m fr M ⟨i, hpi, rfl, rfl, rfl⟩
  have h := hround i hpi
  rw [frK_eq] at h
  intro β0 w0 β a w hx hF hd hR
  have hv := vcodeR_ok (R := R) (m := d) (ds := ds) hE hm (B := B) (W := Wl P f noL) (fun c fr M K h => by
    unfold Wl at h
    split at h
    · exact h.2.elim
    · exact h.elim) _ _ _ _ h β0 w0 β a w hx hF hd hR
  refine Code.wpIn_mono (fun e a' w' hh => ?_) hv
  obtain ⟨⟨β', fr', M', h1, h2, h3, hk⟩, hd'⟩ := hh
  cases e with
  | normal =>
    simp only [Kp] at hk
    split at hk
    · rename_i i' rs hs
      obtain ⟨h4, h5⟩ := hk
      obtain ⟨q1, q2, q3⟩ := (vLeR_ok h5).1.go hG h1 h2 h3
      exact ⟨⟨_, _, _, q1, q2, q3, _, h4.2, i', h4.1, rfl, rfl, rfl⟩, hd'⟩
    · exact hk.elim
  | exit j =>
    obtain ⟨h4, h5, h6⟩ := hk
    obtain ⟨q1, q2, q3⟩ := (vLe_ok h6).1.go hG h1 h2 h3
    exact ⟨⟨_, _, _, q1, q2, q3, h4, hK i hpi h5⟩, hd'⟩
  | ret => exact hk.elim
  | goto l => exact hk.elim
  | panic ch => exact hk.elim
  | outgrown => exact hk.elim
theorem range_allW {P : Program} {E : Env} (hE : EnvOk P E) (hm : P.follows .mixedOrders = true) {m bid : Nat} {ι : Type} (Mi : ι → Mm) (p : Nat → ι → Prop) (px : ι → Prop) (N nB : Nat) (sel : ι → List SV → Mm → Option (ι × List Nat)) (Wb : Nat → ι → Mm → Code → List SV → Mm → Ko → Prop) (hWb : ∀ k i, k < N → p k i → ∀ (R : Nat) (d : Nat) (M1 : Mm) (c : Code) (fr : List SV) (M : Mm) (K : Ko), Wb k i M1 c fr M K → WpR (some R) d [] P E.G M1 c fr M K) (xs : Nat → SV) {g : Operand} {pt : Nat} {assign body : Code} {gf : Nat} {caps : List SV} {fr : List SV} {i0 : ι} {β0 : Nat → Nat} {a : Act} {w0 : World} {Q : Exit → Act → World → Prop} {Box : World → Prop}
    (hGB : E.G.length ≤ nB) (hp : p 0 i0) (hlen : ∀ i, nB ≤ (Mi i).length) (hgone : noGone (Mi i0) = true) (hxs : ∀ k, (xs k).wf nB = true)
    (hF : RelF β0 nB fr (bare a)) (hR : Rel E.G β0 (Mi i0) w0) (hg : a.eval g = .func (.func gf) #[] (vals β0 caps).toArray) (eg : ∀ args w, (callFunc gf args).run P w = .ok (.enter gf args) w)
    (hseq : SeqAll P gf (vals β0 caps).toArray (fun k => val β0 (xs k)) N Box)
    (hbox : ∀ (β : Nat → Nat) (k : Nat) (i : ι) (W : World), p k i → Rel E.G β (Mi i) W → (∀ t, t < nB → β t = β0 t) → Box W)
    (hboxx : ∀ (β : Nat → Nat) (i : ι) (W : World), px i → Rel E.G β (Mi i) W → (∀ t, t < nB → β t = β0 t) → Box W)
    (hround : ∀ k i, k < N → p k i → vcode P E noW (vdraw P E) assign (fr.set pt (xs k)) (Mi i) (fun e fr1 M1 => match e with
      | .normal => vcode P E (Wb k i M1) (vdraw P E) body fr1 M1 (Kround E.G.length nB bid (sel i) (fun i' => p (k + 1) i') px Mi)
      | _ => False))
    (hQ : ∀ (D : Nat) (β : Nat → Nat) (i : ι) (W : World), w0.heap.size = D → px i → Rel E.G β (Mi i) W → (∀ t, t < nB → β t = β0 t) → (∀ b, rwset β (Mi i) b → rwset β0 (Mi i0) b ∨ w0.heap.size + 2 ≤ b) → Fp (rwset β0 (Mi i0)) w0 W → W.heap[D]? = some (.deferred (some [])) →
      Q (.exit bid) { a with defers := { target := .collected D, args := #[] } :: a.defers } W)
    (hZ : ∀ (D : Nat) (β : Nat → Nat) (i : ι) (W : World), w0.heap.size = D → p N i → Rel E.G β (Mi i) W → (∀ t, t < nB → β t = β0 t) → (∀ b, rwset β (Mi i) b → rwset β0 (Mi i0) b ∨ w0.heap.size + 2 ≤ b) → Fp (rwset β0 (Mi i0)) w0 W → W.heap[D]? = some (.deferred (some [])) →
      Q .normal { a with defers := { target := .collected D, args := #[] } :: a.defers } W) :
    (Code.rangeFunc g #[pt] assign body).wpIn (fen none) m P Q a w0 := by
  refine wpIn_rangeFunc ?_
  intro fn hfn
  obtain ⟨rec, hrec⟩ : ∃ rec : LoopState → Option Code → Loop, rec = fun st pe => { state := st, pending := pe, fn, tmps := a.tmps, params := #[pt], assign, body, defers := w0.heap.size } := ⟨_, rfl⟩
  obtain ⟨W1, hW1⟩ : ∃ W1, (w0.alloc (.deferred (some []))).alloc (.loop (rec .ready none)) = W1 := ⟨_, rfl⟩
  have hL1 : W1.heap[w0.heap.size + 1]? = some (.loop (rec .ready none)) := by
    rw [← hW1]; have := World.alloc_heap_new (w0.alloc (.deferred (some []))) (.loop (rec .ready none)); rwa [World.size_alloc] at this
  have hD1 : W1.heap[w0.heap.size]? = some (.deferred (some [])) := by
    rw [← hW1]; exact (Below.heap_alloc _ _ _ (by simp)).trans (World.alloc_heap_new w0 _)
  have hfp1 : Fp0 w0 W1 := by rw [← hW1]; exact (Fp.alloc _ _).trans0 (Fp.alloc _ _)
  have hrw0 : ∀ b, rwset β0 (Mi i0) b → b < w0.heap.size := fun b hb => noGone_lt hgone hR hb
  -- what holds ahead of each round
  let J : Nat → World → Prop := fun k W => ∃ β i, p k i ∧ Rel E.G β (Mi i) W ∧ (∀ t, t < nB → β t = β0 t) ∧ (∀ b, rwset β (Mi i) b → rwset β0 (Mi i0) b ∨ w0.heap.size + 2 ≤ b) ∧ farO w0.heap.size β (Mi i) ∧ Fp (rwset β0 (Mi i0)) w0 W ∧ W.heap[w0.heap.size + 1]? = some (.loop (rec .ready none)) ∧ W.heap[w0.heap.size]? = some (.deferred (some []))
  let Jx : World → Prop := fun W => ∃ β i, px i ∧ Rel E.G β (Mi i) W ∧ (∀ t, t < nB → β t = β0 t) ∧ (∀ b, rwset β (Mi i) b → rwset β0 (Mi i0) b ∨ w0.heap.size + 2 ≤ b) ∧ farO w0.heap.size β (Mi i) ∧ Fp (rwset β0 (Mi i0)) w0 W ∧ W.heap[w0.heap.size + 1]? = some (.loop (rec .done (some (.exit bid)))) ∧ W.heap[w0.heap.size]? = some (.deferred (some []))
  refine ⟨w0.heap.size + 1, [{ target := .collected w0.heap.size, args := #[] }], W1, { target := .fn (.func gf) (vals β0 caps).toArray, args := #[.func (.yield (w0.heap.size + 1)) #[] #[]] }, W1, gf,
    #[.func (.yield (w0.heap.size + 1)) #[] #[]] ++ (vals β0 caps).toArray, W1, ?_, ?_, fun _ _ => trivial, ?_, fun h => (by cases h), ?_⟩
  · rw [← hW1, hrec]; exact run_enterLoop_outer _ _ _ _ _
  · simp only [resolve, hg]
    simp [go_sem]
  · simp [invoke, go_sem, eg]
  refine (hseq (w0.heap.size + 1) (m - 1) J Jx W1 ?_ ?_ ?_ ?_ ?_).mono ?_
  · -- what holds, holds on
    rintro k A B ⟨β, i, h1, h2, h3, h4, hfar, h5, h6, h7⟩ hAB
    have lt : ∀ {q : Nat} {o : Obj}, A.heap[q]? = some o → q < A.heap.size := fun h => (Array.getElem?_eq_some_iff.1 h).1
    exact ⟨β, i, h1, h2.step hAB, h3, h4, hfar, h5.trans0 hAB, (hAB.block _ (lt h6) id).trans h6, (hAB.block _ (lt h7) id).trans h7⟩
  · rintro k A ⟨β, i, h1, h2, h3, -⟩
    exact hbox β k i A h1 h2 h3
  · rintro A ⟨β, i, h1, h2, h3, -⟩
    exact hboxx β i A h1 h2 h3
  · -- one round
    rintro k A hk ⟨β, i, h1, h2, h3, h4, hfar, h5, h6, h7⟩
    have ltA : w0.heap.size + 1 < A.heap.size := (Array.getElem?_eq_some_iff.1 h6).1
    have hrwA : ∀ b, rwset β (Mi i) b → b ≠ w0.heap.size + 1 ∧ b ≠ w0.heap.size := fun b hb => by
      rcases h4 b hb with q | q
      · have := hrw0 b q; omega
      · omega
    have h4' : ∀ b, rwset β (Mi i) b → rwset β0 (Mi i0) b ∨ w0.heap.size ≤ b := fun b hb => (h4 b hb).imp id fun q => by omega
    have hy := run_yield (P := P) (args := #[val β0 (xs k)]) h6 (by rw [hrec]; rfl)
    have et : ((#[pt] : Array Tmp).zip #[val β0 (xs k)]).foldl (fun tmps (t, a) => tmps.setIfInBounds t a) a.tmps = a.tmps.setIfInBounds pt (val β0 (xs k)) := by
      have hz : (#[pt] : Array Tmp).zip #[val β0 (xs k)] = #[(pt, val β0 (xs k))] := by rw [List.zip_toArray]; rfl
      rw [hz]; rfl
    have hy2 : (Instr.yield (w0.heap.size + 1) #[val β0 (xs k)]).run P A = .ok (.round (w0.heap.size + 1) fn (a.tmps.setIfInBounds pt (val β0 (xs k))) assign body) A := by
      rw [hrec] at hy; rw [← et]; exact hy
    refine ⟨fn, _, assign, body, hy2, roundIn_of_wpIn hfn ?_⟩
    -- the frame of the round
    have hFk : RelF β (Mi i).length (fr.set pt (xs k)) (bare { tmps := a.tmps.setIfInBounds pt (val β0 (xs k)), defers := [] }) := by
      have q1 : RelF β (Mi i).length fr (bare a) := hF.mono (hlen i) h3
      exact q1.put pt (.inr ⟨wf_mono (hlen i) _ (hxs k), (val_agree h3 (xs k) (hxs k)).symm⟩)
    have hA := vcodeR_ok (R := some (w0.heap.size + 1)) (m := m - 1) (ds := []) hE hm (B := Mi i) (W := noW) (fun _ _ _ _ h => h.elim) assign _ (Mi i) _ (hround k i hk h1) β A β { tmps := a.tmps.setIfInBounds pt (val β0 (xs k)), defers := [] } A (Ext.refl _ _ _) hFk rfl h2
    refine Code.wpIn_mono (fun e a1 A1 hh => ?_) hA
    obtain ⟨⟨β1, fr1, M1, e1, f1, r1, k1⟩, d1⟩ := hh
    cases e with
    | normal =>
      have hl1 : A1.heap[w0.heap.size + 1]? = some (.loop (rec .ready none)) := (e1.fp.block _ ltA (fun hb => (hrwA _ hb).1 rfl)).trans h6
      have hd1 : A1.heap[w0.heap.size]? = some (.deferred (some [])) := (e1.fp.block _ (by omega) (fun hb => (hrwA _ hb).2 rfl)).trans h7
      have hrw1 : ∀ b, rwset β1 M1 b → rwset β0 (Mi i0) b ∨ w0.heap.size + 2 ≤ b := fun b hb => by
        rcases e1.rws b hb with q | q
        · exact h4 b q
        · exact .inr (by omega)
      have ltA1 : w0.heap.size + 1 < A1.heap.size := (Array.getElem?_eq_some_iff.1 hl1).1
      have no1 : ∀ (t : Nat) (e : Ent), M1[t]? = some e → e.c.here = true → β1 t ≠ w0.heap.size + 1 := fun t e he hc heq => by
        have hold := r1.all t e he hc
        cases hrw : e.rw with
        | true =>
          rcases hrw1 _ ⟨t, e, he, hrw, heq⟩ with q | q
          · have := hrw0 _ q; omega
          · omega
        | false =>
          rcases hfar.ext e1 t e he hrw hc with q | q <;> omega
      have agree1 : ∀ t, t < nB → β1 t = β0 t := fun t ht => (e1.agree t (Nat.lt_of_lt_of_le ht (hlen i))).trans (h3 t ht)
      refine ⟨_, run_beginRound hl1 (by rw [hrec]), ?_⟩
      obtain ⟨A2, hA2⟩ : ∃ A2, A1.putObj (w0.heap.size + 1) (.loop { rec .ready none with state := .busy }) = A2 := ⟨_, rfl⟩
      rw [hA2]
      have s2 : A2.heap.size = A1.heap.size := by rw [← hA2]; simp
      have r2 : Rel E.G β1 M1 A2 := by rw [← hA2]; exact r1.turn _ no1
      have hl2 : A2.heap[w0.heap.size + 1]? = some (.loop { rec .ready none with state := .busy }) := by rw [← hA2]; exact World.putObj_heap_same ltA1
      have hd2 : A2.heap[w0.heap.size]? = some (.deferred (some [])) := by rw [← hA2]; exact (World.putObj_heap_other (by omega)).trans hd1
      have h52 : Fp (rwset β0 (Mi i0)) w0 A2 := by
        have q := h5.trans e1.fp h4'
        rw [← hA2]
        exact ⟨q.os, q.tape, q.output, by simp; exact q.size, fun t ht hb => (World.putObj_heap_other (by omega)).trans (q.block t ht hb)⟩
      have hB := vcodeR_ok (R := some (w0.heap.size + 1)) (m := m - 1) (ds := []) hE hm (B := M1) (W := Wb k i M1) (fun c fr M K h => hWb k i hk h1 _ _ M1 c fr M K h) body fr1 M1 _ k1 β1 A2 β1 a1 A2 (Ext.refl _ _ _) f1 d1 r2
      refine Code.wpIn_mono (fun e a3 A3 hh => ?_) hB
      obtain ⟨⟨β3, fr3, M3, e3, f3, r3, k3⟩, d3⟩ := hh
      have hrw3 : ∀ b, rwset β3 M3 b → rwset β0 (Mi i0) b ∨ w0.heap.size + 2 ≤ b := fun b hb => by
        rcases e3.rws b hb with q | q
        · exact hrw1 b q
        · exact .inr (by omega)
      have hrwA1 : ∀ b, rwset β1 M1 b → b ≠ w0.heap.size + 1 ∧ b ≠ w0.heap.size := fun b hb => by
        rcases hrw1 b hb with q | q
        · have := hrw0 b q; omega
        · omega
      have hl3 : A3.heap[w0.heap.size + 1]? = some (.loop { rec .ready none with state := .busy }) := (e3.fp.block _ (by omega) (fun hb => (hrwA1 _ hb).1 rfl)).trans hl2
      have hd3 : A3.heap[w0.heap.size]? = some (.deferred (some [])) := (e3.fp.block _ (by omega) (fun hb => (hrwA1 _ hb).2 rfl)).trans hd2
      have ltA3 : w0.heap.size + 1 < A3.heap.size := (Array.getElem?_eq_some_iff.1 hl3).1
      have far3 : farO w0.heap.size β3 M3 := (hfar.ext e1).ext e3
      have no3 : ∀ (t : Nat) (e : Ent), M3[t]? = some e → e.c.here = true → β3 t ≠ w0.heap.size + 1 := fun t e he hc heq => by
        cases hrw : e.rw with
        | true =>
          rcases hrw3 _ ⟨t, e, he, hrw, heq⟩ with q | q
          · have := hrw0 _ q; omega
          · omega
        | false =>
          rcases far3 t e he hrw hc with q | q <;> omega
      have h53 : Fp (rwset β0 (Mi i0)) w0 A3 := h52.trans e3.fp fun b hb => by
        rcases hrw1 b hb with q | q
        · exact .inl q
        · exact .inr (by omega)
      -- what stands behind a round
      have fin : ∀ (o : Obj) (i' : ι) (rs : List Nat), vSel E.G.length nB M3 (Mi i') rs → ∃ β, Rel E.G β (Mi i') (A3.putObj (w0.heap.size + 1) o) ∧ (∀ t, t < nB → β t = β0 t) ∧ (∀ b, rwset β (Mi i') b → rwset β0 (Mi i0) b ∨ w0.heap.size + 2 ≤ b) ∧ farO w0.heap.size β (Mi i') ∧ Fp (rwset β0 (Mi i0)) w0 (A3.putObj (w0.heap.size + 1) o) ∧ (A3.putObj (w0.heap.size + 1) o).heap[w0.heap.size + 1]? = some o ∧ (A3.putObj (w0.heap.size + 1) o).heap[w0.heap.size]? = some (.deferred (some [])) := fun o i' rs hs => by
        obtain ⟨q1, q2, q3, q4⟩ := vSel_ok hGB (r3.turn o no3) hs
        refine ⟨_, q1, fun t ht => ?_, fun b hb => hrw3 b (q2 b hb), far3.sel q4, ⟨h53.os, h53.tape, h53.output, by simp; exact h53.size, fun t ht hb => (World.putObj_heap_other (by omega)).trans (h53.block t ht hb)⟩, World.putObj_heap_same ltA3, (World.putObj_heap_other (by omega)).trans hd3⟩
        show β3 (sig nB rs t) = β0 t
        rw [sig_old ht, e3.agree t (by have := e1.len; have := hlen i; omega), agree1 t ht]
      cases e with
      | normal =>
        simp only [Kround] at k3
        split at k3
        · rename_i i' rs hsel
          obtain ⟨kp, ks⟩ := k3
          obtain ⟨β, q1, q2, q3, q4, q5, q6, q7⟩ := fin (.loop (rec .ready none)) i' rs ks
          refine ⟨_, _, run_endRound none hl3, .inl ⟨rfl, β, i', kp, ?_⟩⟩
          rw [hrec] at q1 q5 q6 q7 ⊢
          exact ⟨q1, q2, q3, q4, q5, q6, q7⟩
        · exact k3.elim
      | exit j =>
        simp only [Kround] at k3
        replace k3 := vsome_iff.1 k3
        obtain ⟨hj, k4⟩ := k3
        obtain rfl := Nat.eq_of_beq_eq_true hj
        split at k4
        · rename_i i' rs hsel
          obtain ⟨kp, ks⟩ := k4
          obtain ⟨β, q1, q2, q3, q4, q5, q6, q7⟩ := fin (.loop (rec .done (some (.exit j)))) i' rs ks
          refine ⟨_, _, run_endRound (some (.exit j)) hl3, .inr ⟨rfl, β, i', kp, ?_⟩⟩
          rw [hrec] at q1 q5 q6 q7 ⊢
          exact ⟨q1, q2, q3, q4, q5, q6, q7⟩
        · exact k4.elim
      | goto j => exact k3.elim
      | ret => exact k3.elim
      | panic ch => exact k3.elim
      | outgrown => exact k3.elim
    | exit j => exact k1.elim
    | goto j => exact k1.elim
    | ret => exact k1.elim
    | panic ch => exact k1.elim
    | outgrown => exact k1.elim
  · exact ⟨β0, i0, hp, hR.step hfp1, fun _ _ => rfl, fun b hb => .inl hb, fun t e he hr hc => .inl (hR.all t e he hc).lt, (Fp.refl _ _).trans0 hfp1, hL1, hD1⟩
  · rintro e W2 ⟨⟨v, rfl⟩, hends⟩
    rcases hends with ⟨A, ⟨β, i, h1, h2, h3, h4, hfar, h5, h6, h7⟩, hA2⟩ | ⟨A, ⟨β, i, h1, h2, h3, h4, hfar, h5, h6, h7⟩, hA2⟩
    · have lt : ∀ {q : Nat} {o : Obj}, A.heap[q]? = some o → q < A.heap.size := fun h => (Array.getElem?_eq_some_iff.1 h).1
      have hl : W2.heap[w0.heap.size + 1]? = some (.loop (rec .ready none)) := (hA2.block _ (lt h6) id).trans h6
      have hd : W2.heap[w0.heap.size]? = some (.deferred (some [])) := (hA2.block _ (lt h7) id).trans h7
      refine ⟨none, _, by have := run_endLoop (P := P) hl (by rw [hrec]; simp); rw [hrec] at this; exact this, ?_⟩
      have no2 : ∀ (t : Nat) (e : Ent), (Mi i)[t]? = some e → e.c.here = true → β t ≠ w0.heap.size + 1 := fun t e he hc heq => by
        cases hrw : e.rw with
        | true =>
          rcases h4 _ ⟨t, e, he, hrw, heq⟩ with q | q
          · have := hrw0 _ q; omega
          · omega
        | false =>
          rcases hfar t e he hrw hc with q | q <;> omega
      have q5 := h5.trans0 hA2
      exact hZ _ β i _ rfl h1 ((h2.step hA2).turn _ no2) h3 h4 ⟨q5.os, q5.tape, q5.output, by simp; exact q5.size, fun t ht hb => (World.putObj_heap_other (by omega)).trans (q5.block t ht hb)⟩ ((World.putObj_heap_other (by omega)).trans hd)
    · have lt : ∀ {q : Nat} {o : Obj}, A.heap[q]? = some o → q < A.heap.size := fun h => (Array.getElem?_eq_some_iff.1 h).1
      have hl : W2.heap[w0.heap.size + 1]? = some (.loop (rec .done (some (.exit bid)))) := (hA2.block _ (lt h6) id).trans h6
      have hd : W2.heap[w0.heap.size]? = some (.deferred (some [])) := (hA2.block _ (lt h7) id).trans h7
      refine ⟨some (.exit bid), _, by have := run_endLoop (P := P) hl (by rw [hrec]; simp); rw [hrec] at this; exact this, wpIn_exit ?_⟩
      have no2 : ∀ (t : Nat) (e : Ent), (Mi i)[t]? = some e → e.c.here = true → β t ≠ w0.heap.size + 1 := fun t e he hc heq => by
        cases hrw : e.rw with
        | true =>
          rcases h4 _ ⟨t, e, he, hrw, heq⟩ with q | q
          · have := hrw0 _ q; omega
          · omega
        | false =>
          rcases hfar t e he hrw hc with q | q <;> omega
      have q5 := h5.trans0 hA2
      exact hQ _ β i _ rfl h1 ((h2.step hA2).turn _ no2) h3 h4 ⟨q5.os, q5.tape, q5.output, by simp; exact q5.size, fun t ht hb => (World.putObj_heap_other (by omega)).trans (q5.block t ht hb)⟩ ((World.putObj_heap_other (by omega)).trans hd)
theorem range_funA {P : Program} {E : Env} (hE : EnvOk P E) (hm : P.follows .mixedOrders = true) {f gf n bid pt rt nB : Nat} {fn : Func} {A1 A2 A3 A4 Z assign body : Code} {g : Operand} {ι Θ : Type} (T : Θ → Prop) (N : Θ → Nat) (Mi : Θ → ι → Mm) (p : Θ → Nat → ι → Prop) (sel : ι → List SV → Mm → Option (ι × List Nat)) (Wb : Θ → Nat → ι → Mm → Code → List SV → Mm → Ko → Prop) (xs : Θ → Nat → SV) (I : Θ → List (Nat × SV)) {args caps : List SV} {M0 : Mm} (Mb : Θ → Mm) (i0 : Θ → ι) (r0 : SV)
    (hf : P.funcs[f]? = some fn) (hb : fn.body = some (.seq A1 (.seq A2 (.seq A3 (.seq (.seq A4 (.block bid (.rangeFunc g #[pt] assign body))) (.seq Z .ret)))))) (hname : (fn.name == "runtime.NumGoroutine") = false) (hres : fn.results = #[.tmp rt])
    (hro : ∀ (k : Nat) (e : Ent), M0[k]? = some e → e.rw = false)
    (hGB : E.G.length ≤ nB) (hp : ∀ θ, T θ → p θ 0 (i0 θ)) (hlen : ∀ θ i, nB ≤ (Mi θ i).length) (hlen0 : ∀ θ, (Mi θ (i0 θ)).length = nB) (hgone : ∀ θ, noGone (Mi θ (i0 θ)) = true) (hxs : ∀ θ k, (xs θ k).wf nB = true)
    (hWb : ∀ θ, T θ → ∀ k i, k < N θ → p θ k i → ∀ (R : Nat) (d : Nat) (M1 : Mm) (c : Code) (fr : List SV) (M : Mm) (K : Ko), Wb θ k i M1 c fr M K → WpR (some R) d [] P E.G M1 c fr M K)
    (hpre : padK args fn.ntmps fun fr => vcode P E noW (vdraw P E) A1 fr M0 fun e fr1 M1 => match e with
      | .normal => vcode P E noW (vdraw P E) A2 fr1 M1 fun e fr2 M2 => match e with
        | .normal => vcode P E noW (vdraw P E) A3 fr2 M2 fun e fr3 M3 => match e with
          | .normal => vcode P E noW (vdraw P E) A4 fr3 M3 fun e fr4 M4 => match e with
            | .normal => ∃ θ, T θ ∧ vLe M0 fr4 M4 n (I θ) (Mi θ (i0 θ)) True ∧ M4 = Mi θ (i0 θ)
            | _ => False
          | _ => False
        | _ => False
      | _ => False)
    (hg : ∀ θ, ev (mkF n (I θ)) g = .fn gf caps) (hgl : globOk E.G.length [g] = true) (eg : ∀ args w, (callFunc gf args).run P w = .ok (.enter gf args) w)
    (hseq : ∀ θ, T θ → ∀ β0, SeqAll P gf (vals β0 caps).toArray (fun k => val β0 (xs θ k)) (N θ) (fun W => Rel E.G β0 (Mb θ) W))
    (hview : ∀ θ, T θ → ∀ (β0 β : Nat → Nat) (i : ι) (W : World), Rel E.G β (Mi θ i) W → (∀ t, t < nB → β t = β0 t) → Rel E.G β0 (Mb θ) W)
    (hround : ∀ θ, T θ → ∀ k i, k < N θ → p θ k i → vcode P E noW (vdraw P E) assign ((mkF n (I θ)).set pt (xs θ k)) (Mi θ i) (fun e fr1 M1 => match e with
      | .normal => vcode P E (Wb θ k i M1) (vdraw P E) body fr1 M1 (Kround E.G.length nB bid (sel i) (fun i' => p θ (k + 1) i') (fun _ => False) (Mi θ))
      | _ => False))
    (hpost : ∀ θ, T θ → ∀ i, p θ (N θ) i → vcode P E noW (vdraw P E) Z (mkF n (I θ)) (Mi θ i) fun e fr M => match e with
      | .normal => ev fr (.tmp rt) = r0
      | _ => False)
    (hr0 : r0.wf 0 = true) :
    Spec P E.G f args M0 (fun r M => r = r0 ∧ M = M0) := by
  intro β w hR hargs
  refine .inr ⟨enter_run hf hb hname _ _, (callsIn_wide (n := 0)).1 (callsIn_of_wp_marks (F := fen none) hf hb trivial ?_)⟩
  obtain ⟨hl, hpr⟩ := padK_ok _ _ _ hpre
  have hF : RelF β M0.length (args ++ List.replicate (fn.ntmps - args.length) .any) (bare { tmps := (vals β args).toArray ++ Array.replicate (fn.ntmps - (vals β args).toArray.size) undef, defers := [] }) := by
    refine ⟨by simp [vals_map, bare], fun k x hx => ?_, rfl⟩
    rcases Nat.lt_or_ge k args.length with q | q
    · rw [List.getElem?_append_left q] at hx
      refine .inr ⟨wfs_all.1 hargs x (List.mem_of_getElem? hx), ?_⟩
      show ((vals β args).toArray ++ Array.replicate (fn.ntmps - (vals β args).toArray.size) undef).getD k undef = _
      rw [Array.getD_eq_getD_getElem?, Array.getElem?_append_left (by simpa [vals_map] using q)]
      simp [vals_map, hx]
    · rw [List.getElem?_append_right q] at hx
      exact .inl (List.eq_of_mem_replicate (List.mem_of_getElem? hx))
  have norw : ∀ b, ¬ rwset β M0 b := fun b hb => by
    obtain ⟨k, e, he, hr, -⟩ := hb
    rw [hro k e he] at hr; cases hr
  refine wpIn_seq (Code.wpIn_mono (fun e a1 w1 hh => ?_) (vcodeR_ok (R := none) (m := 0) (ds := []) hE hm (B := M0) (W := noW) (fun _ _ _ _ h => h.elim) A1 _ M0 _ hpr β w β _ w (Ext.refl _ _ _) hF rfl hR))
  obtain ⟨⟨β1, fr1, M1, e1, f1, r1, k1⟩, d1⟩ := hh
  cases e with
  | normal =>
    refine wpIn_seq (Code.wpIn_mono (fun e a2 w2 hh => ?_) (vcodeR_ok (R := none) (m := 0) (ds := []) hE hm (B := M0) (W := noW) (fun _ _ _ _ h => h.elim) A2 fr1 M1 _ k1 β w β1 a1 w1 e1 f1 d1 r1))
    obtain ⟨⟨β2, fr2, M2, e2, f2, r2, k2⟩, d2⟩ := hh
    cases e with
    | normal =>
      refine wpIn_seq (Code.wpIn_mono (fun e a0 w0 hh => ?_) (vcodeR_ok (R := none) (m := 0) (ds := []) hE hm (B := M0) (W := noW) (fun _ _ _ _ h => h.elim) A3 fr2 M2 _ k2 β w β2 a2 w2 e2 f2 d2 r2))
      obtain ⟨⟨β0, fr0, M00, e0, f0, r0', k0⟩, d0⟩ := hh
      cases e with
      | normal =>
       refine wpIn_seq (wpIn_seq (Code.wpIn_mono (fun e a3 w3 hh => ?_) (vcodeR_ok (R := none) (m := 0) (ds := []) hE hm (B := M0) (W := noW) (fun _ _ _ _ h => h.elim) A4 fr0 M00 _ k0 β w β0 a0 w0 e0 f0 d0 r0')))
       obtain ⟨⟨β3, fr3, M3, e3, f3, r3, k3⟩, d3⟩ := hh
       cases e with
       | normal =>
        obtain ⟨θ, hT, hle, rfl⟩ := k3
        obtain ⟨hle, -⟩ := vLe_ok hle
        have hF3 : RelF β3 nB (mkF n (I θ)) (bare a3) := by
          have := hle.relF f3 fun t ht => rfl
          rw [hlen0 θ] at this
          exact this
        have hge : a3.eval g = .func (.func gf) #[] (vals β3 caps).toArray := by
          have hF4 : RelF β3 (Mi θ (i0 θ)).length (mkF n (I θ)) (bare a3) := by rw [hlen0 θ]; exact hF3
          have q := ev_ok hF4 r3 (l := [g]) hgl g (by simp)
          rw [hg θ] at q
          exact (q.resolve_left (fun e => nomatch e)).2
        have hrw3 : ∀ b, rwset β3 (Mi θ (i0 θ)) b → w.heap.size ≤ b := fun b hb => (e3.rws b hb).resolve_left (norw b)
        have fp3 : Fp0 w w3 := e3.fp.mono fun b _ hb => (norw b hb).elim
        refine wpIn_block (range_allW hE hm (Mi θ) (p θ) (fun _ => False) (N θ) nB sel (Wb θ) (hWb θ hT) (xs θ) hGB (hp θ hT) (hlen θ) (hgone θ) (hxs θ) hF3 r3 hge eg (hseq θ hT β3) (fun β' k i W hpi hRi hag => hview θ hT β3 β' i W hRi hag) (fun β' i W hpi hRi hag => hpi.elim) (hround θ hT) (fun D β' i W hD hpx => hpx.elim) ?_)
        intro D β' i W hD hpx hRW hag hrws hfpW hDef
        have hF5 : RelF β' (Mi θ i).length (mkF n (I θ)) (bare { a3 with defers := { target := .collected D, args := #[] } :: a3.defers }) := hF3.mono (hlen θ i) hag
        refine wpIn_seq (Code.wpIn_mono (fun e a4 w4 hh => ?_) (vcodeR_ok (R := none) (m := 0) (ds := [{ target := .collected D, args := #[] }]) hE hm (B := Mi θ i) (W := noW) (fun _ _ _ _ h => h.elim) Z (mkF n (I θ)) (Mi θ i) _ (hpost θ hT i hpx) β' W β' _ W (Ext.refl _ _ _) hF5 (by rw [d3]) hRW))
        obtain ⟨⟨β4, fr4, M4, e4, f4, r4, k4⟩, d4⟩ := hh
        cases e with
        | normal =>
          refine wpIn_ret ?_
          have hrwD : ¬ rwset β' (Mi θ i) D := fun hb => by
            rcases hrws D hb with q | q
            · have := noGone_lt (hgone θ) r3 q; omega
            · omega
          have hD4 : w4.heap[D]? = some (.deferred (some [])) := (e4.fp.block D (Array.getElem?_eq_some_iff.1 hDef).1 hrwD).trans hDef
          show LeavesInM (fen none) 0 P fn a4.tmps _ a4.defers .returning w4
          rw [d4]
          refine ⟨by simp, .inl ⟨D, _, rfl, run_takeDeferred hD4, ?_⟩⟩
          have hv : a4.tmps.getD rt undef = val β r0 := by
            have hne : r0 ≠ .any := fun e => by rw [e] at hr0; cases hr0
            replace k4 : fr4.getD rt .any = r0 := k4
            have hget : fr4[rt]? = some r0 := by
              rw [List.getD_eq_getElem?_getD] at k4
              cases hq : fr4[rt]? with
              | none => rw [hq] at k4; exact absurd k4.symm hne
              | some y => rw [hq] at k4; exact congrArg some k4
            have q := (f4.at' rt r0 hget).resolve_left hne
            have q2 : a4.tmps.getD rt undef = val β4 r0 := q.2
            rw [q2]
            exact val_agree (fun t ht => absurd ht (Nat.not_lt_zero t)) r0 hr0
          have fpW : Fp0 w W := fp3.trans hfpW fun t ht => .inr (hrw3 t ht)
          have fp4 : Fp0 w w4 := fpW.trans e4.fp fun t ht => .inr (by
            rcases hrws t ht with q | q
            · exact hrw3 t q
            · have := fp3.size; omega)
          have fp5 : Fp0 w (w4.putObj D (.deferred none)) := fp4.trans (T := fun k => k = D) ⟨rfl, rfl, rfl, by simp, fun k hk hb => World.putObj_heap_other (fun e => hb e)⟩ fun t ht => .inr (by have := fp3.size; omega)
          refine ⟨val β r0, ?_, _, rfl, β, M0, r0, Ext.step fp5, hR.step fp5, ⟨wf_mono (Nat.zero_le _) r0 hr0, rfl⟩, rfl, rfl⟩
          simp [results, hres]
          rw [← Array.getD_eq_getD_getElem?]
          exact hv
        | exit j => exact k4.elim
        | goto j => exact k4.elim
        | ret => exact k4.elim
        | panic ch => exact k4.elim
        | outgrown => exact k4.elim
       | exit j => exact k3.elim
       | goto j => exact k3.elim
       | ret => exact k3.elim
       | panic ch => exact k3.elim
       | outgrown => exact k3.elim
      | exit j => exact k0.elim
      | goto j => exact k0.elim
      | ret => exact k0.elim
      | panic ch => exact k0.elim
      | outgrown => exact k0.elim
    | exit j => exact k2.elim
    | goto j => exact k2.elim
    | ret => exact k2.elim
    | panic ch => exact k2.elim
    | outgrown => exact k2.elim
  | exit j => exact k1.elim
  | goto j => exact k1.elim
  | ret => exact k1.elim
  | panic ch => exact k1.elim
  | outgrown => exact k1.elim
end Go.Proofs.YtgjhkfafmmkimaaDoor
namespace Go.Proofs.YtgjhkfafmmkimaaDoor
open Go.RowKit
set_option linter.unusedVariables false
set_option linter.unusedSimpArgs false

theorem sig_oldV (b : Nat) (rs : List Nat) (k : Nat) (h : k < b) : sig b rs k = k := by
  unfold sig
  have : Nat.blt k b = true := by simpa [Nat.blt_eq] using h
  rw [this]; rfl
theorem sig_new (b : Nat) (rs : List Nat) (i : Nat) : sig b rs (b + i) = rs.getD i 0 := by
  unfold sig
  have : Nat.blt (b + i) b = false := by
    cases hq : Nat.blt (b + i) b
    · rfl
    · exact absurd (blt_lt hq) (by omega)
  rw [this, Nat.add_sub_cancel_left]; rfl
/-- Blocks that are handed lie at those places. -/
def liesK (n b : Nat) (σ : Nat → Nat) (M : Mm) : List Nat → Mm → Prop
  | [], [] => True
  | k :: ks, e :: R => (∃ r, M[k]? = some ⟨r, e.c.ren σ⟩ ∧ (e.rw = true → r = true)) ∧ (e.c.here = true ∧ e.c.wf n = true) ∧ liesK n b σ M ks R
  | _, _ => False
theorem liesK_ok {n b : Nat} {σ : Nat → Nat} {M : Mm} : ∀ (ks : List Nat) (R : Mm), liesK n b σ M ks R → ks.length = R.length ∧ ∀ (i : Nat) (e : Ent), R[i]? = some e → ∃ r, M[ks.getD i 0]? = some ⟨r, e.c.ren σ⟩ ∧ (e.rw = true → r = true) ∧ e.c.here = true ∧ e.c.wf n = true
  | [], [], h => ⟨rfl, fun i e he => by cases he⟩
  | k :: ks, e :: R, h => by
    obtain ⟨⟨r, h1, h2⟩, h3, h4⟩ := h
    obtain ⟨h5, h6⟩ := liesK_ok ks R h4
    refine ⟨by simp [h5], fun i x hx => ?_⟩
    cases i with
    | zero => obtain rfl := Option.some.inj hx; exact ⟨r, h1, h2, h3.1, h3.2⟩
    | succ i => exact h6 i x hx
  | [], _ :: _, h => h.elim
  | _ :: _, [], h => h.elim
theorem lies_of {G R M : Mm} {β : Nat → Nat} {w : World} (hR : Rel G β M w) (ks : List Nat) (hk : liesK (G.length + R.length) G.length (sig G.length ks) M ks R) (hn : ks.Nodup) : Lies G R M (sig G.length ks) := by
  obtain ⟨h1, h2⟩ := liesK_ok ks R hk
  refine ⟨hR.gl, sig_oldV _ _, fun i e he => ?_, fun i j x y hx hy hij hr => ?_⟩
  · rw [sig_new]; exact h2 i e he
  · rw [sig_new, sig_new]
    have hi : i < ks.length := by rw [h1]; exact lt_of_get hx
    have hj : j < ks.length := by rw [h1]; exact lt_of_get hy
    rw [List.getD_eq_getElem?_getD, List.getD_eq_getElem?_getD, List.getElem?_eq_getElem hi, List.getElem?_eq_getElem hj]
    intro e
    exact hij ((List.getElem_inj hn).1 e)
theorem eff_of {P : Program} {G R M : Mm} {f : Nat} {args0 args : List SV} {K0 K : SV → Mm → Prop} (ks : List Nat) (hS : Spec P G f args0 (G ++ R) K0) (hargs : args = rens (sig G.length ks) args0) (ha : SV.wf.wfs (G.length + R.length) args0 = true) (hn : ks.Nodup) (hk : liesK (G.length + R.length) G.length (sig G.length ks) M ks R) (hK : ∀ r1 M1, K0 r1 M1 → K (ren (reloc (sig G.length ks) (G ++ R).length M.length) r1) (back G R M (sig G.length ks) M1)) : Spec P G f args M K := fun β w hR hw => by
  subst hargs
  refine (lift_of hS hR (lies_of hR ks hk hn) (by rw [List.length_append]; exact ha)).mono fun v w' hh => ?_
  obtain ⟨β2, M2, r2, h1, h2, h3, r1, M1, h4, rfl, rfl⟩ := hh
  exact ⟨β2, _, _, h1, h2, h3, hK _ _ h4⟩
/-- A function that reads alone, of blocks that lie anywhere. -/
theorem pureN {P : Program} {G R : Mm} {f : Nat} {args0 args : List SV} {r0 : SV} (ks : List Nat) (hS : Spec P G f args0 (G ++ R) (fun r _ => r = r0)) (hargs : args = rens (sig G.length ks) args0) (ha : SV.wf.wfs (G.length + R.length) args0 = true) (hro : ∀ (i : Nat) (e : Ent), R[i]? = some e → e.rw = false) (hr : r0.wf 0 = true) (hn : ks.Nodup) {β : Nat → Nat} {M : Mm} {w : World} (hR : Rel G β M w) (hk : liesK (G.length + R.length) G.length (sig G.length ks) M ks R) : CallR P f (vals β args).toArray w (fun v w' => v = val β r0 ∧ Fp0 w w') := by
  subst hargs
  have := pure_of hS hR (lies_of hR ks hk hn) hro (by rw [List.length_append]; exact ha) (wf_mono (Nat.zero_le _) r0 hr)
  rw [ren_id (n := 0) (fun _ h => absurd h (by omega)) r0 hr] at this
  exact this
end Go.Proofs.YtgjhkfafmmkimaaDoor
