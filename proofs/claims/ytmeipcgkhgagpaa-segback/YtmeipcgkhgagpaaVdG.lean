/-
  A reckoner of conditions: behind a call less is told of: blocks that are no more needed, and places that were kept free. No statement is proved here.
-/
import Derived.Test.YtmeipcgkhgagpaaVdE
import Derived.Test.YtmeipcgkhgagpaaVdF
namespace Go.Proofs.Ytmeipcgkhgagpaa
open Go.RowKit
set_option linter.unusedVariables false
set_option linter.unusedSimpArgs false

theorem Spec.selE {P : Program} {G M : Mm} {f : Nat} {args : List SV} {ι : Type} {p : ι → Prop} {r' : ι → SV} {M' : ι → Mm} {rs : ι → List Nat} (hG : G.length ≤ M.length) (hr : ∀ i, isAny (r' i) = false) (hS : Spec P G f args M (fun r M1 => ∃ i, p i ∧ vLeR M [r] M1 1 [(0, r' i)] (M' i) (rs i) True)) : Spec P G f args M (fun r M1 => ∃ i, p i ∧ r = r' i ∧ M1 = M' i) := by
  intro β w hR hw
  refine (hS β w hR hw).mono fun v w' hh => ?_
  obtain ⟨β1, M1, r, hE, hR1, ⟨hwf, rfl⟩, i, hp, hK⟩ := hh
  obtain ⟨hl, -⟩ := vLeR_ok hK
  have hF : RelF β1 M1.length [r] { tmps := #[val β1 r], defers := [] } := by
    refine ⟨rfl, fun k x hx => ?_, rfl⟩
    cases k with
    | zero => obtain rfl := Option.some.inj hx; exact .inr ⟨hwf, rfl⟩
    | succ k => cases hx
  obtain ⟨h1, h2, h3⟩ := hl.go hG hE hF hR1
  have h4 := h2.at' 0 (r' i) rfl
  rcases h4 with e | ⟨e1, e2⟩
  · have := hr i; rw [e] at this; cases this
  · exact ⟨_, M' i, r' i, h1, h3, ⟨e1, e2⟩, i, hp, rfl, rfl⟩
end Go.Proofs.Ytmeipcgkhgagpaa
