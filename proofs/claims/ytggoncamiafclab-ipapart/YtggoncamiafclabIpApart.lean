/-
  The statement IpApart holds: it answers true, whatever it is given, and leaves that as it was. There is no condition.
-/
import Derived.Test.YtggoncamiafclabCaw
import Derived.SizedLaws
import Derived.ProofKit
namespace Go.Proofs.Ytggoncamiafclab
open Go.ChangeShapes Go.WideShapes Go.ChangeAt Go.RowKit Go.BigFrame Go.ChangeMaps
set_option linter.unusedVariables false
set_option maxRecDepth 100000

theorem Try.ownN : ownKnob Try.prog.godebug = none := by kernel_rfl

theorem apart_lifted (os : Os) (started : os.Started) (H : Type) (enc : TypeId × Value → H) :
    ReturnsInHanded {} Try.checked os 3 .any (Rows.ipApartSpec.pre6 enc Try.prog Try.f3 Rows.ipApartRow.domain false) (Rows.ipApartSpec.post enc Try.prog Try.f3 false true false false) := by
  refine returnsInHanded_of_change_sized (C := Try.checked) Try.ownN started (by kernel_rfl) Try.func3
    (ChangeSpec.witness6 (enc := enc) (C := Try.checked) false ⟨#[], #[.slice none 0 0, .slice none 0 0, .slice none 0 0], []⟩ 8 (by kernel_rfl) (by kernel_rfl) (by kernel_rfl) (by kernel_rfl)) ?_
  intro W base args ds gs before hval0 hW hcnd hsz _
  have hval : ∀ (j : Nat) t v, Try.f3.params[j]? = some t → args[j]? = some v → Value.okWide Try.prog W .any base t v := hval0
  have hW' := hW
  obtain ⟨p, q, hA0, hV, rfl, hfz, hnd⟩ := hW
  have hA : DataW.TrodAll enc Try.prog W 0 (fun _ => true) true Try.f3.params.toList args.toList ds p := hA0
  have hsz' : (DataW.weightsEach Try.prog (Try.f3.params.toList ++ []) (ds ++ gs)).all (· ≤ reachBytes) = true := hsz
  rw [Try.params3] at hA hval hsz'
  obtain ⟨v0, vs0, d0, ds0, p0, q0, hargs, rfl, rfl, h0, r0⟩ := trodAll_cons hA
  obtain ⟨v1, vs1, d1, ds1, p1, q1, hargs1, rfl, rfl, h1, r1⟩ := trodAll_cons r0
  obtain ⟨v2, vs2, d2, ds2, p2, q2, hargs2, rfl, rfl, h2, r2⟩ := trodAll_cons r1
  obtain ⟨rfl, rfl, rfl⟩ := trodAll_nil r2
  obtain rfl : args = #[v0, v1, v2] := by cases args; simp_all
  obtain ⟨rfl, rfl⟩ := trodVars_none hV
  have h0k := h0
  have hlt0 : ∀ x ∈ p0, x.block < W.heap.size := fun x hx => by simpa using hW'.lt x (by simp [hx])
  have hv0 := okWide_slice Try.underlying22 (hval 0 22 v0 rfl rfl)
  have h1k := h1
  have hlt1 : ∀ x ∈ p1, x.block < W.heap.size := fun x hx => by simpa using hW'.lt x (by simp [hx])
  have hv1 := okWide_slice Try.underlying22 (hval 1 22 v1 rfl rfl)
  have h2k := h2
  have hlt2 : ∀ x ∈ p2, x.block < W.heap.size := fun x hx => by simpa using hW'.lt x (by simp [hx])
  have hv2 := okWide_slice Try.underlying23 (hval 2 23 v2 rfl rfl)
  have l0 : ∀ n ∈ d0.weights Try.prog 22, n ≤ 140737488355328 := fun n hn => Nat.le_trans (by have := List.all_eq_true.1 hsz' n (by simp [DataW.weightsEach, hn]); simpa using this) (show reachBytes ≤ 140737488355328 by decide)
  have l1 : ∀ n ∈ d1.weights Try.prog 22, n ≤ 140737488355328 := fun n hn => Nat.le_trans (by have := List.all_eq_true.1 hsz' n (by simp [DataW.weightsEach, hn]); simpa using this) (show reachBytes ≤ 140737488355328 by decide)
  have l2 : ∀ n ∈ d2.weights Try.prog 23, n ≤ 140737488355328 := fun n hn => Nat.le_trans (by have := List.all_eq_true.1 hsz' n (by simp [DataW.weightsEach, hn]); simpa using this) (show reachBytes ≤ 140737488355328 by decide)
  clear hA0 hval0
  refine (calls3  hv0 h0 l0 hv1 h1 l1 hv2 h2 l2).mono fun e W' ⟨he, hK⟩ => ?_
  subst he
  have bel : Below W.heap.size W W' := hK.below
  exact ⟨_, rfl, _, _, _, [], _, [], hW', trodAll_mk1 (shut_bool Try.underlying4 _), (trodAll_cons_mk (Below.trod (by kernel_rfl) (by kernel_rfl) (of_decide_eq_true (by kernel_rfl)) h0k bel hlt0) (trodAll_cons_mk (Below.trod (by kernel_rfl) (by kernel_rfl) (of_decide_eq_true (by kernel_rfl)) h1k bel hlt1) (trodAll_cons_mk (Below.trod (by kernel_rfl) (by kernel_rfl) (of_decide_eq_true (by kernel_rfl)) h2k bel hlt2) trodAll_mk0))), rfl, bel.frame _, fun h => by cases h⟩

theorem ip_apart_holds : Rows.IpApartSaid :=
  OpenClaim.holds_of_wide 3 Try.f3 rfl rfl rfl rfl rfl rfl rfl ⟨rfl, rfl, rfl, rfl, rfl⟩ rfl rfl rfl rfl rfl (by kernel_rfl) Try.func3 (by kernel_rfl)
    (of_decide_eq_true (by kernel_rfl)) (by unfold Func.isWrapper; first | (rw [if_pos (by decide +kernel)]; kernel_rfl) | (rw [if_neg (by decide +kernel)]; exact ⟨rfl, rfl⟩))
    (fun os started H enc _ => apart_lifted os started H enc)
#print axioms ip_apart_holds
end Go.Proofs.Ytggoncamiafclab
