/-
  MemNone of the statements of package mem, proved whole: for every place, number and string the call returns true: what no memory and no pool answer is what the document's rules ask. There is no condition.
-/
import Derived.Test.YtbkfgidmjkbfmaaWorks
import Derived.ProofKit
import Derived.OpenShut
import Derived.ShutString
namespace Go.Proofs.Ytbkfgidmjkbfmaa
open Go.ChangeShapes Go.WideShapes Go.ChangeAt Go.RowKit
open Go.ChangeMaps (open_string shut_string)
set_option linter.unusedVariables false
set_option linter.unusedSimpArgs false
set_option maxRecDepth 1000000
set_option maxHeartbeats 4000000

theorem u16_nil (a : Int) (w : World) : Calls Try.prog 32 #[.pointer none, .int .u32 a] w fun e w' => e = .returned (.tuple #[.int .u16 0, .int .i64 1]) ∧ w' = w := by
  go_enter Try.func32, Try.ntmps32
  go_wp2_with (go_at_call 62; refine (get16_nil _ _).mono ?_; rintro e w' ⟨rfl, rfl⟩)
  go_ret2
  exact ⟨rfl, rfl⟩
theorem u32_nil (a : Int) (w : World) : Calls Try.prog 33 #[.pointer none, .int .u32 a] w fun e w' => e = .returned (.tuple #[.int .u32 0, .int .i64 1]) ∧ w' = w := by
  go_enter Try.func33, Try.ntmps33
  go_wp2_with (go_at_call 63; refine (get32_nil _ _).mono ?_; rintro e w' ⟨rfl, rfl⟩)
  go_ret2
  exact ⟨rfl, rfl⟩
theorem u64_nil (a : Int) (w : World) : Calls Try.prog 34 #[.pointer none, .int .u32 a] w fun e w' => e = .returned (.tuple #[.int .u64 0, .int .i64 1]) ∧ w' = w := by
  go_enter Try.func34, Try.ntmps34
  go_wp2_with (go_at_call 64; refine (get64_nil _ _).mono ?_; rintro e w' ⟨rfl, rfl⟩)
  go_ret2
  exact ⟨rfl, rfl⟩
theorem mput16_nil (a : Int) (w : World) : Calls Try.prog 36 #[.pointer none, .int .u32 a, .int .u16 1] w fun e w' => e = .returned (.int .i64 1) ∧ Fr [] w w' := by
  go_enter Try.func36, Try.ntmps36
  go_wp2_with (go_at_call 66; refine (put16_nil _ _).mono ?_; rintro e w1 ⟨rfl, hF⟩)
  go_ret
  exact ⟨rfl, hF⟩
theorem mput32_nil (a : Int) (w : World) : Calls Try.prog 37 #[.pointer none, .int .u32 a, .int .u32 1] w fun e w' => e = .returned (.int .i64 1) ∧ Fr [] w w' := by
  go_enter Try.func37, Try.ntmps37
  go_wp2_with (go_at_call 67; refine (put32_nil _ _).mono ?_; rintro e w1 ⟨rfl, hF⟩)
  go_ret
  exact ⟨rfl, hF⟩
theorem mput64_nil (a : Int) (w : World) : Calls Try.prog 38 #[.pointer none, .int .u32 a, .int .u64 1] w fun e w' => e = .returned (.int .i64 1) ∧ Fr [] w w' := by
  go_enter Try.func38, Try.ntmps38
  go_wp2_with (go_at_call 68; refine (put64_nil _ _).mono ?_; rintro e w1 ⟨rfl, hF⟩)
  go_ret
  exact ⟨rfl, hF⟩

theorem memNone_walk (a n : Int) (s : ByteArray) (hs : s.size ≤ maxLen) (w : World) :
    Calls Try.prog 6 #[.int .u32 a, .int .i64 n, .string s] w fun e w' => e = .returned (.bool true) ∧ Fr [] w w' := by
  unfold maxLen at hs
  by_cases hl : 1024 < s.size
  · have d : decide ((1024 : Int) < (s.size : Int)) = true := by simp; omega
    go_enter Try.func6, Try.ntmps6
    go_wp2_with fail
    refine (works_any _).mono ?_
    rintro e w1 ⟨rfl, hF⟩
    go_wp2
    go_ret
    exact ⟨rfl, hF⟩
  · have d : decide ((1024 : Int) < (s.size : Int)) = false := by simp; omega
    go_enter Try.func6, Try.ntmps6
    go_wp2_with (first
      | (go_at_call 20; refine (read_nil _ _ _).mono ?_; rintro e w' ⟨rfl, hw⟩; subst hw)
      | (go_at_call 32; refine (u16_nil _ _).mono ?_; rintro e w' ⟨rfl, hw⟩; subst hw)
      | (go_at_call 33; refine (u32_nil _ _).mono ?_; rintro e w' ⟨rfl, hw⟩; subst hw)
      | (go_at_call 34; refine (u64_nil _ _).mono ?_; rintro e w' ⟨rfl, hw⟩; subst hw)
      | (go_at_call 28; refine (pget_nil _).mono ?_; rintro e w' ⟨rfl, hw⟩; subst hw)
      | (go_at_call 35; refine (pwhose_nil _ _).mono ?_; rintro e w' ⟨rfl, hw⟩; subst hw)
      | (go_at_call 12; refine (newPool_nil _ _ _ _).mono ?_; rintro e w' ⟨rfl, hw⟩; subst hw)
      | (go_at_call 11; refine (size_nil _).mono ?_; rintro e w' ⟨rfl, hw⟩; subst hw)
      | (go_at_call 22; refine (write_nil _ _ _).mono ?_; rintro e w' ⟨rfl, hw⟩; subst hw)
      | (go_at_call 36; refine (mput16_nil _ _).mono ?_; rintro e w1 ⟨rfl, hF1⟩)
      | (go_at_call 37; refine (mput32_nil _ _).mono ?_; rintro e w2 ⟨rfl, hF2⟩)
      | (go_at_call 38; refine (mput64_nil _ _).mono ?_; rintro e w3 ⟨rfl, hF3⟩)
      | (go_at_call 24; refine (mlend_nil _ _ ⟨0, 0, rfl⟩).mono ?_; rintro e w4 ⟨rfl, hF4⟩)
      | (go_at_call 25; refine (mback_nil _ _ ⟨0, 0, rfl⟩).mono ?_; rintro e w5 ⟨rfl, hF5⟩)
      | (go_at_call 16; refine (lent_nil _).mono ?_; rintro e w' ⟨rfl, hw⟩; subst hw)
      | (go_at_call 26; refine (device_nil _ _ _).mono ?_; rintro e w' ⟨rfl, hw⟩; subst hw)
      | (go_at_call 29; refine (pput_nil _ _).mono ?_; rintro e w' ⟨rfl, hw⟩; subst hw)
      | (go_at_call 30; refine (pgive_nil _ _).mono ?_; rintro e w' ⟨rfl, hw⟩; subst hw)
      | (go_at_call 31; refine (ptake_nil _ _).mono ?_; rintro e w' ⟨rfl, hw⟩; subst hw)
      | (go_at_call 18; refine (pleft_nil _).mono ?_; rintro e w' ⟨rfl, hw⟩; subst hw)
      | (go_at_call 8; refine (works_any _).mono ?_; rintro e w6 ⟨rfl, hF6⟩))
    go_ret
    exact ⟨rfl, ((((hF1.trans0 hF2).trans0 hF3).trans0 hF4).trans0 hF5).trans0 hF6⟩

theorem Try.ownN : ownKnob Try.prog.godebug = none := by kernel_rfl

theorem memNone_lifted (os : Os) (started : os.Started) (H : Type) (enc : TypeId × Value → H) :
    ReturnsInHanded {} Try.checked os 6 .any (Rows.memNoneSpec.pre6 enc Try.prog Try.f6 Rows.memNoneRow.domain false) (Rows.memNoneSpec.post enc Try.prog Try.f6 false true false false) := by
  refine returnsInHanded_of_change (C := Try.checked) Try.ownN started (by kernel_rfl) Try.func6
    (ChangeSpec.witness6 (enc := enc) (C := Try.checked) false ⟨#[], #[.int .u32 0, .int .i64 0, .string ByteArray.empty], []⟩ 8 (by kernel_rfl) (by kernel_rfl) (by kernel_rfl) (by kernel_rfl)) ?_
  intro W base args ds gs before hval0 hW hcnd _
  have hval : ∀ (j : Nat) t v, Try.f6.params[j]? = some t → args[j]? = some v → Value.okWide Try.prog W .any base t v := hval0
  have hW' := hW
  obtain ⟨p, q, hA0, hV, rfl, hfz, hnd⟩ := hW
  have hA : DataW.TrodAll enc Try.prog W 0 (fun _ => true) true Try.f6.params.toList args.toList ds p := hA0
  rw [Try.params6] at hA hval
  obtain ⟨v0, vs0, d0, ds0, p0, q0, hargs, rfl, rfl, h0, r0⟩ := trodAll_cons hA
  obtain ⟨v1, vs1, d1, ds1, p1, q1, rfl, rfl, rfl, h1, r1⟩ := trodAll_cons r0
  obtain ⟨v2, vs2, d2, ds2, p2, q2, rfl, rfl, rfl, h2, r2⟩ := trodAll_cons r1
  obtain ⟨rfl, rfl, rfl⟩ := trodAll_nil r2
  obtain rfl : args = #[v0, v1, v2] := by cases args; simp_all
  obtain ⟨rfl, rfl⟩ := trodVars_none hV
  obtain ⟨a0, rfl, rfl, rfl, w0⟩ := open_int Try.underlying22 (hval 0 22 v0 rfl rfl) h0
  obtain ⟨a1, rfl, rfl, rfl, w1⟩ := open_int Try.underlying3 (hval 1 3 v1 rfl rfl) h1
  obtain ⟨a2, rfl, rfl, rfl, w2⟩ := open_string Try.underlying9 (hval 2 9 v2 rfl rfl) h2
  clear hA0 hval0
  refine (memNone_walk a0 a1 a2 w2 W).mono fun e W' ⟨he, hF⟩ => ?_
  subst he
  have bel : Below W.heap.size W W' := hF.below _ (Nat.le_refl _) (fun k hk => by cases hk)
  exact ⟨_, rfl, _, _, _, [], _, [], hW', trodAll_mk1 (shut_bool Try.underlying4 _), (trodAll_cons_mk (shut_int Try.underlying22 w0) (trodAll_cons_mk (shut_int Try.underlying3 w1) (trodAll_cons_mk (shut_string Try.underlying9 w2) trodAll_mk0))), rfl, bel.frame _, fun h => by cases h⟩

theorem mem_none_holds : Rows.MemNoneSaid :=
  OpenClaim.holds_of_wide 6 Try.f6 rfl rfl rfl rfl rfl rfl rfl ⟨rfl, rfl, rfl, rfl, rfl⟩ rfl rfl rfl rfl rfl (by kernel_rfl) Try.func6 (by kernel_rfl)
    (of_decide_eq_true (by kernel_rfl)) (by unfold Func.isWrapper; first | (rw [if_pos (by decide +kernel)]; kernel_rfl) | (rw [if_neg (by decide +kernel)]; exact ⟨rfl, rfl⟩))
    (fun os started H enc _ => memNone_lifted os started H enc)
#print axioms mem_none_holds
end Go.Proofs.Ytbkfgidmjkbfmaa
