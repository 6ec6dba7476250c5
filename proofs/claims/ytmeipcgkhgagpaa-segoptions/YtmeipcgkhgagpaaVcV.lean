/-
  A reckoner of conditions: calls that change what they are handed. No statement is proved here.
-/
import Derived.Test.YtmeipcgkhgagpaaVcU
namespace Go.Proofs.Ytmeipcgkhgagpaa
open Go.RowKit
set_option linter.unusedVariables false
set_option linter.unusedSimpArgs false

theorem sig_oldV (b : Nat) (rs : List Nat) (k : Nat) (h : k < b) : sig b rs k = k := by
  unfold sig
  have : Nat.blt k b = true := by simpa [Nat.blt_eq] using h
  rw [this]; rfl
theorem sig_new (b : Nat) (rs : List Nat) (i : Nat) : sig b rs (b + i) = rs.getD i 0 := by
  unfold sig
  have : Nat.blt (b + i) b = false := by
    cases hq : Nat.blt (b + i) b
    · rfl
    · exact absurd (blt_lt hq) (by omega)
  rw [this, Nat.add_sub_cancel_left]; rfl
/-- Blocks that are handed lie at those places. -/
def liesK (n b : Nat) (σ : Nat → Nat) (M : Mm) : List Nat → Mm → Prop
  | [], [] => True
  | k :: ks, e :: R => (∃ r, M[k]? = some ⟨r, e.c.ren σ⟩ ∧ (e.rw = true → r = true)) ∧ (e.c.here = true ∧ e.c.wf n = true) ∧ liesK n b σ M ks R
  | _, _ => False
theorem liesK_ok {n b : Nat} {σ : Nat → Nat} {M : Mm} : ∀ (ks : List Nat) (R : Mm), liesK n b σ M ks R → ks.length = R.length ∧ ∀ (i : Nat) (e : Ent), R[i]? = some e → ∃ r, M[ks.getD i 0]? = some ⟨r, e.c.ren σ⟩ ∧ (e.rw = true → r = true) ∧ e.c.here = true ∧ e.c.wf n = true
  | [], [], h => ⟨rfl, fun i e he => by cases he⟩
  | k :: ks, e :: R, h => by
    obtain ⟨⟨r, h1, h2⟩, h3, h4⟩ := h
    obtain ⟨h5, h6⟩ := liesK_ok ks R h4
    refine ⟨by simp [h5], fun i x hx => ?_⟩
    cases i with
    | zero => obtain rfl := Option.some.inj hx; exact ⟨r, h1, h2, h3.1, h3.2⟩
    | succ i => exact h6 i x hx
  | [], _ :: _, h => h.elim
  | _ :: _, [], h => h.elim
theorem lies_of {G R M : Mm} {β : Nat → Nat} {w : World} (hR : Rel G β M w) (ks : List Nat) (hk : liesK (G.length + R.length) G.length (sig G.length ks) M ks R) (hn : ks.Nodup) : Lies G R M (sig G.length ks) := by
  obtain ⟨h1, h2⟩ := liesK_ok ks R hk
  refine ⟨hR.gl, sig_oldV _ _, fun i e he => ?_, fun i j x y hx hy hij hr => ?_⟩
  · rw [sig_new]; exact h2 i e he
  · rw [sig_new, sig_new]
    have hi : i < ks.length := by rw [h1]; exact lt_of_get hx
    have hj : j < ks.length := by rw [h1]; exact lt_of_get hy
    rw [List.getD_eq_getElem?_getD, List.getD_eq_getElem?_getD, List.getElem?_eq_getElem hi, List.getElem?_eq_getElem hj]
    intro e
    exact hij ((List.getElem_inj hn).1 e)
theorem eff_of {P : Program} {G R M : Mm} {f : Nat} {args0 args : List SV} {K0 K : SV → Mm → Prop} (ks : List Nat) (hS : Spec P G f args0 (G ++ R) K0) (hargs : args = rens (sig G.length ks) args0) (ha : SV.wf.wfs (G.length + R.length) args0 = true) (hn : ks.Nodup) (hk : liesK (G.length + R.length) G.length (sig G.length ks) M ks R) (hK : ∀ r1 M1, K0 r1 M1 → K (ren (reloc (sig G.length ks) (G ++ R).length M.length) r1) (back G R M (sig G.length ks) M1)) : Spec P G f args M K := fun β w hR hw => by
  subst hargs
  refine (lift_of hS hR (lies_of hR ks hk hn) (by rw [List.length_append]; exact ha)).mono fun v w' hh => ?_
  obtain ⟨β2, M2, r2, h1, h2, h3, r1, M1, h4, rfl, rfl⟩ := hh
  exact ⟨β2, _, _, h1, h2, h3, hK _ _ h4⟩
/-- A function that reads alone, of blocks that lie anywhere. -/
theorem pureN {P : Program} {G R : Mm} {f : Nat} {args0 args : List SV} {r0 : SV} (ks : List Nat) (hS : Spec P G f args0 (G ++ R) (fun r _ => r = r0)) (hargs : args = rens (sig G.length ks) args0) (ha : SV.wf.wfs (G.length + R.length) args0 = true) (hro : ∀ (i : Nat) (e : Ent), R[i]? = some e → e.rw = false) (hr : r0.wf 0 = true) (hn : ks.Nodup) {β : Nat → Nat} {M : Mm} {w : World} (hR : Rel G β M w) (hk : liesK (G.length + R.length) G.length (sig G.length ks) M ks R) : CallR P f (vals β args).toArray w (fun v w' => v = val β r0 ∧ Fp0 w w') := by
  subst hargs
  have := pure_of hS hR (lies_of hR ks hk hn) hro (by rw [List.length_append]; exact ha) (wf_mono (Nat.zero_le _) r0 hr)
  rw [ren_id (n := 0) (fun _ h => absurd h (by omega)) r0 hr] at this
  exact this
end Go.Proofs.Ytmeipcgkhgagpaa
