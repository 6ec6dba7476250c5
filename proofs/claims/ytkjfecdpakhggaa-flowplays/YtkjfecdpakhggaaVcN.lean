/-
  A reckoner of conditions: what a function does to the blocks that it is handed, told of a caller's blocks. No statement is proved here.
-/
import Derived.Test.YtkjfecdpakhggaaVcM
namespace Go.Proofs.Ytkjfecdpakhggaa
open Go.RowKit
set_option linter.unusedVariables false
set_option linter.unusedSimpArgs false

mutual
/-- A value, its blocks told by other places. -/
def ren (σ : Nat → Nat) : SV → SV
  | .ptr k off => .ptr (σ k) off
  | .sl k off len cap => .sl (σ k) off len cap
  | .pe k base idx sz j => .pe (σ k) base idx sz j
  | .rs k base eo sz len cap => .rs (σ k) base eo sz len cap
  | .ns b k sz len cap => .ns b (σ k) sz len cap
  | .mp k => .mp (σ k)
  | .fm f l => .fm f (rens σ l)
  | .agg l => .agg (rens σ l)
  | .tup l => .tup (rens σ l)
  | .fn f l => .fn f (rens σ l)
  | x => x
def rens (σ : Nat → Nat) : List SV → List SV
  | [] => []
  | x :: l => ren σ x :: rens σ l
end
def Cont.ren (σ : Nat → Nat) : Cont → Cont
  | .row l => .row (rens σ l)
  | .tr t l => .tr t (rens σ l)
  | c => c
mutual
theorem val_ren (β σ : Nat → Nat) : ∀ x : SV, val β (ren σ x) = val (fun k => β (σ k)) x
  | .any | .v _ | .i _ | .b _ | .w64 _ | .w32 _ | .w16 _ | .w8 _ | .s _ | .a64 _ | .a32 _ | .a8 _ | .ptr _ _ | .sl _ _ _ _ | .pe _ _ _ _ _ | .rs _ _ _ _ _ _ | .ns _ _ _ _ _ | .mp _ => by simp [ren, val]
  | .agg l => by simp only [ren, val]; rw [vals_ren β σ l]
  | .tup l => by simp only [ren, val]; rw [vals_ren β σ l]
  | .fn f l => by simp only [ren, val]; rw [vals_ren β σ l]
  | .fm f l => by simp only [ren, val]; rw [vals_ren β σ l]
theorem vals_ren (β σ : Nat → Nat) : ∀ l : List SV, vals β (rens σ l) = vals (fun k => β (σ k)) l
  | [] => rfl
  | x :: l => by simp only [rens, vals]; rw [val_ren β σ x, vals_ren β σ l]
end
theorem cells_ren (β σ : Nat → Nat) (c : Cont) : (c.ren σ).cells β = c.cells (fun k => β (σ k)) := by
  cases c <;> first | rfl | exact vals_ren β σ _
theorem rens_len (σ : Nat → Nat) : ∀ l : List SV, (rens σ l).length = l.length
  | [] => rfl
  | x :: l => by simp [rens, rens_len σ l]
theorem shp_ren (σ : Nat → Nat) (c : Cont) : (c.ren σ).shp = c.shp := by
  cases c <;> first | rfl | (simp only [Cont.ren, Cont.shp, rens_len])
mutual
theorem wf_ren {n m : Nat} {σ : Nat → Nat} (h : ∀ k, k < n → σ k < m) : ∀ x : SV, x.wf n = true → (ren σ x).wf m = true
  | .any, hx => by cases hx
  | .v _, hx | .i _, hx | .b _, hx | .w64 _, hx | .w32 _, hx | .w16 _, hx | .w8 _, hx | .s _, hx | .a64 _, hx | .a32 _, hx | .a8 _, hx => rfl
  | .ptr k off, hx => by have := h k (blt_lt hx); simp [ren, SV.wf, Nat.blt_eq]; exact this
  | .sl k off _ _, hx => by have := h k (blt_lt hx); simp [ren, SV.wf, Nat.blt_eq]; exact this
  | .pe k _ _ _ _, hx => by have := h k (blt_lt hx); simp [ren, SV.wf, Nat.blt_eq]; exact this
  | .rs k _ _ _ _ _, hx => by have := h k (blt_lt hx); simp [ren, SV.wf, Nat.blt_eq]; exact this
  | .ns _ k _ _ _, hx => by have := h k (blt_lt hx); simp [ren, SV.wf, Nat.blt_eq]; exact this
  | .mp k, hx => by have := h k (blt_lt hx); simp [ren, SV.wf, Nat.blt_eq]; exact this
  | .agg l, hx | .tup l, hx | .fn _ l, hx | .fm _ l, hx => wfs_ren h l hx
theorem wfs_ren {n m : Nat} {σ : Nat → Nat} (h : ∀ k, k < n → σ k < m) : ∀ l : List SV, SV.wf.wfs n l = true → SV.wf.wfs m (rens σ l) = true
  | [], _ => rfl
  | x :: l, hx => by
    simp only [SV.wf.wfs, Bool.and_eq_true] at hx
    simp only [rens, SV.wf.wfs, Bool.and_eq_true]
    exact ⟨wf_ren h x hx.1, wfs_ren h l hx.2⟩
end
theorem cwf_ren {n m : Nat} {σ : Nat → Nat} (h : ∀ k, k < n → σ k < m) (c : Cont) (hc : c.wf n = true) : (c.ren σ).wf m = true := by
  cases c <;> first | rfl | exact wfs_ren h _ hc
theorem here_ren (σ : Nat → Nat) (c : Cont) : (c.ren σ).here = c.here := by cases c <;> rfl
theorem isRes_ren (σ : Nat → Nat) (c : Cont) : (c.ren σ).isRes = c.isRes := by cases c <;> rfl
theorem own_ren (σ : Nat → Nat) (b : Nat) (c : Cont) (i : Nat) : own b (c.ren σ) i ↔ own b c i := by cases c <;> exact Iff.rfl
theorem at_ren (β σ : Nat → Nat) (w : World) (b : Nat) (rw : Bool) (c : Cont) : At β w b rw (c.ren σ) = At (fun k => β (σ k)) w b rw c := by
  by_cases h : c.isRes = true
  · cases c <;> first | rfl | cases h
  · have h' : c.isRes = false := by simpa using h
    rw [propext (At_of h'), propext (At_of (by rw [isRes_ren]; exact h')), cells_ren, shp_ren]
theorem At.weak {β : Nat → Nat} {w : World} {b : Nat} {r r' : Bool} {c : Cont} (h : At β w b r c) (hr : r' = true → r = true) : At β w b r' c := by
  by_cases hc : c.isRes = true
  · cases c <;> first | exact h | cases hc
  · have hc' : c.isRes = false := by simpa using hc
    have h5 := (At_of hc').1 h
    exact (At_of hc').2 ⟨h5.lt, h5.cell, fun q => h5.free (hr q), h5.shp, fun q => h5.iv (hr q), fun q => h5.fz (hr q)⟩
mutual
theorem ren_id {n : Nat} {σ : Nat → Nat} (h : ∀ k, k < n → σ k = k) : ∀ x : SV, x.wf n = true → ren σ x = x
  | .any, hx => by cases hx
  | .v _, hx | .i _, hx | .b _, hx | .w64 _, hx | .w32 _, hx | .w16 _, hx | .w8 _, hx | .s _, hx | .a64 _, hx | .a32 _, hx | .a8 _, hx => rfl
  | .ptr k off, hx => by simp [ren, h k (blt_lt hx)]
  | .sl k off _ _, hx => by simp [ren, h k (blt_lt hx)]
  | .pe k _ _ _ _, hx => by simp [ren, h k (blt_lt hx)]
  | .rs k _ _ _ _ _, hx => by simp [ren, h k (blt_lt hx)]
  | .ns _ k _ _ _, hx => by simp [ren, h k (blt_lt hx)]
  | .mp k, hx => by simp [ren, h k (blt_lt hx)]
  | .agg l, hx => by simp only [ren]; rw [rens_id h l hx]
  | .tup l, hx => by simp only [ren]; rw [rens_id h l hx]
  | .fn _ l, hx => by simp only [ren]; rw [rens_id h l hx]
  | .fm _ l, hx => by simp only [ren]; rw [rens_id h l hx]
theorem rens_id {n : Nat} {σ : Nat → Nat} (h : ∀ k, k < n → σ k = k) : ∀ l : List SV, SV.wf.wfs n l = true → rens σ l = l
  | [], _ => rfl
  | x :: l, hx => by
    simp only [SV.wf.wfs, Bool.and_eq_true] at hx
    simp only [rens]
    rw [ren_id h x hx.1, rens_id h l hx.2]
end
/-- The blocks R that a function is handed lie in the caller's list M at the places σ. -/
structure Lies (G R M : Mm) (σ : Nat → Nat) : Prop where
  gl : G.length ≤ M.length
  old : ∀ k, k < G.length → σ k = k
  at' : ∀ (i : Nat) (e : Ent), R[i]? = some e → ∃ r, M[σ (G.length + i)]? = some ⟨r, e.c.ren σ⟩ ∧ (e.rw = true → r = true) ∧ e.c.here = true ∧ e.c.wf (G.length + R.length) = true
  inj : ∀ (i j : Nat) (x y : Ent), R[i]? = some x → R[j]? = some y → i ≠ j → x.rw = true → σ (G.length + i) ≠ σ (G.length + j)
section
variable {G R M : Mm} {σ β : Nat → Nat} {w : World}
theorem app_get {G R : Mm} {k : Nat} {e : Ent} (h : (G ++ R)[k]? = some e) : (k < G.length ∧ G[k]? = some e) ∨ ∃ i, k = G.length + i ∧ R[i]? = some e := by
  rcases Nat.lt_or_ge k G.length with q | q
  · rw [List.getElem?_append_left q] at h; exact .inl ⟨q, h⟩
  · rw [List.getElem?_append_right q] at h; exact .inr ⟨k - G.length, by omega, h⟩
theorem Lies.lt (h : Lies G R M σ) : ∀ k, k < (G ++ R).length → σ k < M.length := fun k hk => by
  rcases Nat.lt_or_ge k G.length with q | q
  · rw [h.old k q]; exact Nat.lt_of_lt_of_le q h.gl
  · obtain ⟨i, rfl⟩ := Nat.exists_eq_add_of_le q
    obtain ⟨r, h1, -⟩ := h.at' i _ (List.getElem?_eq_getElem (by simp at hk; omega))
    exact lt_of_get h1
theorem Rel.sel (h : Rel G β M w) (hl : Lies G R M σ) : Rel G (fun k => β (σ k)) (G ++ R) w := by
  refine ⟨fun k e he hc => ?_, fun i j x y hx hy hij hr hxc hyc => ?_, fun g hg => by simp only [hl.old g hg]; exact h.glob g hg, by simp, fun k hk => List.getElem?_append_left hk, h.ro, fun k e he => ?_⟩
  · rcases app_get he with ⟨q, hk⟩ | ⟨i, rfl, hi⟩
    · have h1 := h.all k e ((h.pre k q).trans hk) hc
      have e1 : At (fun k => β (σ k)) w (β k) e.rw e.c = At β w (β k) e.rw e.c := at_agree (n := G.length) (fun k hk => by simp only [hl.old k hk]) _ (h.ro k e hk).2
      simp only [hl.old k q, e1]; exact h1
    · obtain ⟨r, h1, h2, h3, h4⟩ := hl.at' i e hi
      have h5 := h.all _ _ h1 (by rw [here_ren]; exact h3)
      rw [at_ren] at h5
      exact h5.weak h2
  · rcases app_get hx with ⟨q, hk⟩ | ⟨i', rfl, hi⟩
    · rw [(h.ro i x hk).1] at hr; cases hr
    · obtain ⟨r, h1, h2, h3, h4⟩ := hl.at' i' x hi
      have hc1 : (x.c.ren σ).here = true := by rw [here_ren]; exact h3
      rcases app_get hy with ⟨q, hk⟩ | ⟨j', rfl, hj⟩
      · have hM := (h.pre j q).trans hk
        have hne : σ (G.length + i') ≠ j := fun e => by
          rw [e, hM] at h1
          have e2 := Option.some.inj h1
          have := (h.ro j y hk).1
          rw [e2, h2 hr] at this
          cases this
        simp only [hl.old j q]
        intro b hb
        exact h.dis _ _ _ _ h1 hM hne (h2 hr) hc1 hyc b ((own_ren _ _ _ _).2 hb)
      · obtain ⟨r', h1', h2', h3', h4'⟩ := hl.at' j' y hj
        intro b hb hb'
        exact h.dis _ _ _ _ h1 h1' (hl.inj i' j' x y hi hj (by omega) hr) (h2 hr) hc1 (by rw [here_ren]; exact h3') b ((own_ren _ _ _ _).2 hb) ((own_ren _ _ _ _).2 hb')
  · rcases app_get he with ⟨q, hk⟩ | ⟨i, rfl, hi⟩
    · exact cwf_mono (by simp) _ (h.ro k e hk).2
    · obtain ⟨r, h1, h2, h3, h4⟩ := hl.at' i e hi
      rw [List.length_append]; exact h4
theorem norw {G : Mm} {R : Mm} {β : Nat → Nat} {w : World} (h : Rel G β (G ++ R) w) (hro : ∀ (i : Nat) (e : Ent), R[i]? = some e → e.rw = false) (b : Nat) : ¬ rwset β (G ++ R) b := by
  rintro ⟨k, e, he, hr, -⟩
  rcases app_get he with ⟨q, hk⟩ | ⟨i, rfl, hi⟩
  · rw [(h.ro k e hk).1] at hr; cases hr
  · rw [hro i e hi] at hr; cases hr
/-- A call that reads alone, of blocks that it is handed. -/
theorem pure_of {P : Program} {f : Nat} {args0 : List SV} {r0 : SV} (hS : Spec P G f args0 (G ++ R) (fun r _ => r = r0)) (hR : Rel G β M w) (hl : Lies G R M σ) (hro : ∀ (i : Nat) (e : Ent), R[i]? = some e → e.rw = false) (ha : SV.wf.wfs (G ++ R).length args0 = true) (hr : r0.wf (G ++ R).length = true) :
    CallR P f (vals β (rens σ args0)).toArray w (fun v w' => v = val β (ren σ r0) ∧ Fp0 w w') := by
  have h1 := hR.sel hl
  have := hS _ w h1 ha
  rw [vals_ren]
  have conv : ∀ (v : Value) (w' : World), (∃ β' M' r, Ext (fun k => β (σ k)) (G ++ R) w β' M' w' ∧ Rel G β' M' w' ∧ (r.wf M'.length = true ∧ v = val β' r) ∧ r = r0) → v = val β (ren σ r0) ∧ Fp0 w w' := by
    rintro v w' ⟨β', M', r, hE, hR', ⟨hw, rfl⟩, rfl⟩
    refine ⟨by rw [val_ren]; exact val_agree hE.agree r hr, hE.fp.mono fun k _ hk => norw h1 hro k hk⟩
  rcases this with ⟨v, W', h2, h3⟩ | ⟨h2, h3⟩
  · exact .inl ⟨v, W', h2, conv _ _ h3⟩
  · exact .inr ⟨h2, h3.mono fun e W' ⟨v, he, hq⟩ => ⟨v, he, conv _ _ hq⟩⟩
end
end Go.Proofs.Ytkjfecdpakhggaa
