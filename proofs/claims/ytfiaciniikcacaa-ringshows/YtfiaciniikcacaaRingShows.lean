/-
  RingShows of the statements of package ring, proved whole: for every power and every list of chains the call returns true: a device that reads the ring in memory, as the standard says, finds just the chains that were added, in order, buffer by buffer. There is no condition.
-/
import Derived.Test.YtfiaciniikcacaaRingV
import Derived.SizedLaws
namespace Go.Proofs.Ytfiaciniikcacaa
open Go.ChangeShapes Go.WideShapes Go.ChangeAt Go.RowKit Go.Deep Go.BigFrame
set_option linter.unusedVariables false
set_option linter.unusedSimpArgs false
set_option maxRecDepth 1000000
set_option maxHeartbeats 4000000

theorem Try.ownS : ownKnob Try.prog.godebug = none := by kernel_rfl

theorem ringShows_lifted (os : Os) (started : os.Started) (H : Type) (enc : TypeId × Value → H) :
    ReturnsInHanded {} Try.checked os 6 .any (Rows.ringShowsSpec.pre6 enc Try.prog Try.f6 Rows.ringShowsRow.domain false) (Rows.ringShowsSpec.post enc Try.prog Try.f6 false true false false) := by
  refine returnsInHanded_of_change_sized (C := Try.checked) Try.ownS started (by kernel_rfl) Try.func6
    (ChangeSpec.witness6 (enc := enc) (C := Try.checked) false ⟨#[], #[.int .u8 0, .slice none 0 0], []⟩ 8 (by kernel_rfl) (by kernel_rfl) (by kernel_rfl) (by kernel_rfl)) ?_
  intro W base args ds gs before hval0 hW hcnd hsz _
  have hval : ∀ (j : Nat) t v, Try.f6.params[j]? = some t → args[j]? = some v → Value.okWide Try.prog W .any base t v := hval0
  have hW' := hW
  obtain ⟨p, q, hA0, hV, rfl, hfz, hnd⟩ := hW
  have hA : DataW.TrodAll enc Try.prog W 0 (fun _ => true) true Try.f6.params.toList args.toList ds p := hA0
  have hsz' : (DataW.weightsEach Try.prog (Try.f6.params.toList ++ []) (ds ++ gs)).all (· ≤ reachBytes) = true := hsz
  rw [Try.params6] at hA hval hsz'
  obtain ⟨v0, vs0, d0, ds0, p0, q0, hargs, rfl, rfl, h0, r0⟩ := trodAll_cons hA
  obtain ⟨v1, vs1, d1, ds1, p1, q1, rfl, rfl, rfl, h1, r1⟩ := trodAll_cons r0
  obtain ⟨rfl, rfl, rfl⟩ := trodAll_nil r1
  obtain rfl : args = #[v0, v1] := by cases args; simp_all
  obtain ⟨rfl, rfl⟩ := trodVars_none hV
  obtain ⟨a0, rfl, rfl, rfl, w0⟩ := open_int Try.underlying5 (hval 0 5 v0 rfl rfl) h0
  have h1k := h1
  have hwt : ∀ y, y ∈ d1.weights Try.prog 64 → y ≤ reachBytes := fun y hy => by
    have := List.all_eq_true.1 hsz' y (by simp [DataW.weightsEach, hy])
    simpa using this
  obtain ⟨len, F, hS⟩ := open_cns (okWide_slice Try.underlying64 (hval 1 64 v1 rfl rfl)) h1 hwt
  have hlt : ∀ x ∈ p1, x.block < W.heap.size := fun x hx => by simpa using hW'.lt x (by simp [hx])
  clear hA0 hval0
  have w0' := wf_bounds w0
  rw [show IntKind.u8.min = 0 from by decide, show IntKind.u8.max = 255 from by decide] at w0'
  have hwalk : Calls Try.prog 6 #[.int .u8 (a0.toNat : Nat), v1] W fun e w' => e = .returned (.bool true) ∧ Fr [] W w' := by
    rcases hS with ⟨hl, ⟨pp, cc, rfl, _⟩ | ⟨b, o, cap, rfl, hT⟩⟩
    · exact ringShows_none a0.toNat (by omega) pp cc W
    · exact ringShows_walk a0.toNat (by omega) b o cap len F W hl hT
  rw [show ((a0.toNat : Nat) : Int) = a0 by omega] at hwalk
  refine hwalk.mono fun e W' ⟨he, hF⟩ => ?_
  subst he
  have bel : Below W.heap.size W W' := hF.below _ (Nat.le_refl _) (fun k hk => by cases hk)
  exact ⟨_, rfl, _, _, _, [], _, [], hW', trodAll_mk1 (shut_bool Try.underlying4 _), (trodAll_cons_mk (shut_int Try.underlying5 w0) (trodAll_cons_mk (Below.trod (by kernel_rfl) (by kernel_rfl) (of_decide_eq_true (by kernel_rfl)) h1k bel hlt) trodAll_mk0)), rfl, bel.frame _, fun h => by cases h⟩

theorem ring_shows_holds : Rows.RingShowsSaid :=
  OpenClaim.holds_of_wide 6 Try.f6 rfl rfl rfl rfl rfl rfl rfl ⟨rfl, rfl, rfl, rfl, rfl⟩ rfl rfl rfl rfl rfl (by kernel_rfl) Try.func6 (by kernel_rfl)
    (of_decide_eq_true (by kernel_rfl)) (by unfold Func.isWrapper; first | (rw [if_pos (by decide +kernel)]; kernel_rfl) | (rw [if_neg (by decide +kernel)]; exact ⟨rfl, rfl⟩))
    (fun os started H enc _ => ringShows_lifted os started H enc)
#print axioms ring_shows_holds
end Go.Proofs.Ytfiaciniikcacaa
