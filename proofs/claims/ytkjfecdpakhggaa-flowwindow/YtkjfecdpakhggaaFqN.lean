/-
  flow: the law FlowWindow without a script. No statement is proved here.
-/
import Derived.Test.YtkjfecdpakhggaaFqL
import Derived.Test.YtkjfecdpakhggaaCas
import Derived.SizedLaws
import Derived.ProofKit
namespace Go.Proofs.Ytkjfecdpakhggaa
open Go.RowKit
set_option linter.unusedVariables false
set_option linter.unusedSimpArgs false
set_option maxRecDepth 100000

def iWz (d : Option Addr) (c : Nat) : List (Nat × SV) := [(2, .v (.slice d 0 c)), (8, .ptr 0 0), (10, .i 0)]
theorem rWz (d : Option Addr) (c rb : Nat) (p : QuP) (a : Prop) : (frK 178 (iWz d c) fun fr => vround Try.prog EvL noL 5 0 fr [quE rb p] (Kn G 0 178 a (iWz d c) [quE rb p] [] G)) = (0 = 0 ∧ True) := by kernel_rfl
def LWz (d : Option Addr) (c : Nat) : LT := noL.add 0 fun fr M K => match rdQu 0 M with
  | some (rb, p) => vLe G fr M 178 (iWz d c) [quE rb p] (frK 178 [] fun fr1 => K .normal fr1 G)
  | none => False
theorem vWz (d : Option Addr) (c : Nat) (a : BitVec 32) (w : BitVec 16) (K : SV → Mm → Prop) : (vf Try.prog EvL (LWz d c) 5 [.w32 a, .w16 w, .v (.slice d 0 c)] [] K) = (bif inI ((↑w.toNat : Int).tmod 1000 + 1) then bif ilt 65536 ((↑w.toNat : Int).tmod 1000 + 1) then K (SV.b false) [] else ∀ (rb : Nat) (p : QuP), PQa p (newA a ((↑w.toNat : Int).tmod 1000 + 1).toNat) → loopOf Try.prog 5 0 = loopOf Try.prog 5 0 ∧ SV.v (Value.slice d 0 c) = SV.v (Value.slice d 0 c) ∧ SV.ptr 0 0 = SV.ptr 0 0 ∧ SV.i 0 = SV.i 0 ∧ (true = true ∧ Cont.res (stP rb p) = Cont.res (stP rb p)) ∧ K (SV.b true) G else False) := by kernel_rfl
theorem loopWz (d : Option Addr) (c : Nat) : LOk Try.prog G G 5 (LWz d c) := by
  refine LT.add_ok (noL_ok _ _ _ _) fun fr M K h => ?_
  split at h
  · rename_i rb p hm
    have h2 : vLoop G 178 (iWz d c) [quE rb p] [] G fr M K := h
    exact loop_next evl_ok mixed (noL_ok _ _ _ _) (Nat.le_refl _) (by kernel_rfl) (fun _ : Nat => iWz d c) (fun _ => [quE rb p]) (fun _ => True) (fun _ => 0) (fun i => i) 0 trivial (fun i hp => of_eq (rWz d c rb p _) ⟨rfl, trivial⟩) fr M K h2
  · exact h.elim
theorem law5z (d : Option Addr) (c : Nat) (a : BitVec 32) (w : BitVec 16) : Spec Try.prog G 5 [.w32 a, .w16 w, .v (.slice d 0 c)] [] (fun r _ => r = .b true) := by
  have hw := w.isLt
  have h1 : ((w.toNat : Nat) : Int).tmod 1000 = ((w.toNat % 1000 : Nat) : Int) := by
    rw [Int.tmod_eq_emod_of_nonneg (by omega)]; omega
  exact vf_ok evl_ok mixed (loopWz d c) (of_eq (vWz d c a w _) (bif_of (inI_iff.2 (by rw [h1]; omega)) (bifF (by rw [h1, ilt_eq]; exact decide_eq_false (by omega)) fun rb p hp => ⟨rfl, rfl, rfl, rfl, ⟨rfl, rfl⟩, rfl⟩)))
end Go.Proofs.Ytkjfecdpakhggaa
namespace Go.Proofs.Ytkjfecdpakhggaa
open Go.RowKit Go.ChangeShapes Go.WideShapes Go.Deep
set_option linter.unusedVariables false
set_option linter.unusedSimpArgs false
set_option maxRecDepth 100000

theorem vals5 (a w : Int) (wa : (Lit.int .u32 a).wf = true) (ww : (Lit.int .u16 w).wf = true) (x : SV) (β : Nat → Nat) : (vals β [SV.w32 (BitVec.ofInt 32 a), SV.w16 (BitVec.ofInt 16 w), x]).toArray = #[.int .u32 a, .int .u16 w, val β x] := by
  simp only [vals, val, c32, c16, u32_of wa, u16_of ww]
theorem calls5 (a0 n0 : Int) (wa : (Lit.int .u32 a0).wf = true) (wn : (Lit.int .u16 n0).wf = true) {H : Type} {enc : TypeId × Value → H} {W : World} {v : Value} {d : DataW H} {ps : List MemPlace} (hv : ∃ a len cap, v = .slice a len cap) (h : DataW.Trod enc Try.prog W 0 (fun _ => true) true 23 v d ps) (hz : ∀ n ∈ d.weights Try.prog 23, n ≤ 140737488355328) : Calls Try.prog 5 #[.int .u32 a0, .int .u16 n0, v] W (fun e W' => e = .returned (.bool true) ∧ Fp0 W W') := by
  rcases open_rows (fs := SF) (by decide) Try.underlying23 cells36 bytes36 (fun r => [r.2.1.length]) open_step hv h hz with ⟨a, c, rfl⟩ | ⟨b, len, pre, l, rfl, h0, hl, hm, hh, hw⟩
  · have := spec_calls (f := 5) (fn := Try.f5) Try.func5 rfl (by kernel_rfl) (law5z a c (BitVec.ofInt 32 a0) (BitVec.ofInt 16 n0)) (g_rel W) rfl g_ro rfl
    rw [vals5 a0 n0 wa wn] at this
    exact this
  · have hok : okS l = true := by
      unfold okS
      rw [List.all_eq_true]
      intro r hr
      exact ble_of (hw r hr _ (List.mem_singleton.2 rfl))
    have := spec_calls (f := 5) (fn := Try.f5) (M := mH pre l) Try.func5 rfl (by kernel_rfl) (law5_ok pre l len l.length (BitVec.ofInt 32 a0) (BitVec.ofInt 16 n0) hl (by omega) hok) (rel_scr hh) rfl (scr_ro _ _) rfl
    rw [vals5 a0 n0 wa wn] at this
    exact this
end Go.Proofs.Ytkjfecdpakhggaa
namespace Go.Proofs.Ytkjfecdpakhggaa
open Go.ChangeShapes Go.WideShapes Go.ChangeAt Go.RowKit Go.BigFrame Go.ChangeMaps
set_option linter.unusedVariables false
set_option maxRecDepth 100000

theorem Try.ownN : ownKnob Try.prog.godebug = none := by kernel_rfl

theorem window_lifted (os : Os) (started : os.Started) (H : Type) (enc : TypeId × Value → H) :
    ReturnsInHanded {} Try.checked os 5 .any (Rows.flowWindowSpec.pre6 enc Try.prog Try.f5 Rows.flowWindowRow.domain false) (Rows.flowWindowSpec.post enc Try.prog Try.f5 false true false false) := by
  refine returnsInHanded_of_change_sized (C := Try.checked) Try.ownN started (by kernel_rfl) Try.func5
    (ChangeSpec.witness6 (enc := enc) (C := Try.checked) false ⟨#[], #[.int .u32 0, .int .u16 0, .slice none 0 0], []⟩ 8 (by kernel_rfl) (by kernel_rfl) (by kernel_rfl) (by kernel_rfl)) ?_
  intro W base args ds gs before hval0 hW hcnd hsz _
  have hval : ∀ (j : Nat) t v, Try.f5.params[j]? = some t → args[j]? = some v → Value.okWide Try.prog W .any base t v := hval0
  have hW' := hW
  obtain ⟨p, q, hA0, hV, rfl, hfz, hnd⟩ := hW
  have hA : DataW.TrodAll enc Try.prog W 0 (fun _ => true) true Try.f5.params.toList args.toList ds p := hA0
  have hsz' : (DataW.weightsEach Try.prog (Try.f5.params.toList ++ []) (ds ++ gs)).all (· ≤ reachBytes) = true := hsz
  rw [Try.params5] at hA hval hsz'
  obtain ⟨v0, vs0, d0, ds0, p0, q0, hargs, rfl, rfl, h0, r0⟩ := trodAll_cons hA
  obtain ⟨v1, vs1, d1, ds1, p1, q1, hargs1, rfl, rfl, h1, r1⟩ := trodAll_cons r0
  obtain ⟨v2, vs2, d2, ds2, p2, q2, hargs2, rfl, rfl, h2, r2⟩ := trodAll_cons r1
  obtain ⟨rfl, rfl, rfl⟩ := trodAll_nil r2
  obtain rfl : args = #[v0, v1, v2] := by cases args; simp_all
  obtain ⟨rfl, rfl⟩ := trodVars_none hV
  obtain ⟨a0, rfl, rfl, rfl, w0⟩ := open_int Try.underlying22 (hval 0 22 v0 rfl rfl) h0
  obtain ⟨a1, rfl, rfl, rfl, w1⟩ := open_int Try.underlying47 (hval 1 47 v1 rfl rfl) h1
  have h2k := h2
  have hlt2 : ∀ x ∈ p2, x.block < W.heap.size := fun x hx => by simpa using hW'.lt x (by simp [hx])
  have hv2 := okWide_slice Try.underlying23 (hval 2 23 v2 rfl rfl)
  have l2 : ∀ n ∈ d2.weights Try.prog 23, n ≤ 140737488355328 := fun n hn => Nat.le_trans (by have := List.all_eq_true.1 hsz' n (by simp [DataW.weightsEach, hn]); simpa using this) (show reachBytes ≤ 140737488355328 by decide)
  clear hA0 hval0
  refine (calls5 a0 a1 w0 w1 hv2 h2 l2).mono fun e W' ⟨he, hK⟩ => ?_
  subst he
  have bel : Below W.heap.size W W' := hK.below
  exact ⟨_, rfl, _, _, _, [], _, [], hW', trodAll_mk1 (shut_bool Try.underlying4 _), (trodAll_cons_mk (shut_int Try.underlying22 w0) (trodAll_cons_mk (shut_int Try.underlying47 w1) (trodAll_cons_mk (Below.trod (by kernel_rfl) (by kernel_rfl) (of_decide_eq_true (by kernel_rfl)) h2k bel hlt2) trodAll_mk0))), rfl, bel.frame _, fun h => by cases h⟩

theorem flow_window_holds : Rows.FlowWindowSaid :=
  OpenClaim.holds_of_wide 5 Try.f5 rfl rfl rfl rfl rfl rfl rfl ⟨rfl, rfl, rfl, rfl, rfl⟩ rfl rfl rfl rfl rfl (by kernel_rfl) Try.func5 (by kernel_rfl)
    (of_decide_eq_true (by kernel_rfl)) (by unfold Func.isWrapper; first | (rw [if_pos (by decide +kernel)]; kernel_rfl) | (rw [if_neg (by decide +kernel)]; exact ⟨rfl, rfl⟩))
    (fun os started H enc _ => window_lifted os started H enc)
#print axioms flow_window_holds
end Go.Proofs.Ytkjfecdpakhggaa
