/-
  flow: arguments, calls of laws. No statement is proved here.
-/
import Derived.Test.YtkjfecdpakhggaaFqH
import Derived.ChangeSame
import Derived.OpenShut
import Derived.ChangeMaps5
import Derived.ProofKit
namespace Go.Proofs.Ytkjfecdpakhggaa
open Go.RowKit Go.ChangeShapes Go.WideShapes
set_option linter.unusedVariables false
set_option linter.unusedSimpArgs false
set_option maxRecDepth 100000

theorem Fp.below {w w' : World} (h : Fp0 w w') : Below w.heap.size w w' := ⟨h.os, h.tape, h.output, h.size, fun k hk => h.block k hk id⟩
theorem spec_calls {P : Program} {G M : Mm} {f : Nat} {fn : Func} {c : Code} {args : List SV} {r0 : SV} {β : Nat → Nat} {w : World} (hf : P.funcs[f]? = some fn) (hb : fn.body = some c) (hn : (fn.name == "runtime.NumGoroutine") = false) (hS : Spec P G f args M (fun r _ => r = r0)) (hR : Rel G β M w) (ha : SV.wf.wfs M.length args = true) (hro : ∀ (k : Nat) (e : Ent), M[k]? = some e → e.rw = false) (hr : r0.wf M.length = true) : Calls P f (vals β args).toArray w (fun e W' => e = .returned (val β r0) ∧ Fp0 w W') := by
  rcases hS β w hR ha with ⟨v, W', h2, -⟩ | ⟨-, h⟩
  · rw [enter_run hf hb hn] at h2; cases h2
  · refine h.mono fun e W' hh => ?_
    obtain ⟨v, rfl, β', M', r, hE, hR', ⟨hw, rfl⟩, rfl⟩ := hh
    refine ⟨by rw [val_agree hE.agree r hr], hE.fp.mono fun k _ hk => ?_⟩
    obtain ⟨j, e, he, hr, -⟩ := hk
    rw [hro j e he] at hr; cases hr
theorem g_ro : ∀ (k : Nat) (e : Ent), G[k]? = some e → e.rw = false := fun k e he => by cases he
theorem g_rel (W : World) : Rel G (fun k => k) G W := ⟨fun k e he => (by cases he), fun i j x y hx => (by cases hx), fun _ _ => rfl, Nat.le_refl _, fun _ _ => rfl, fun k e he => (by cases he), fun k e he => (by cases he)⟩
theorem u8_of {n : Int} (h : (Lit.int .u8 n).wf = true) : (((BitVec.ofInt 8 n).toNat : Nat) : Int) = n := by
  have h2 : IntKind.u8.min ≤ n ∧ n ≤ IntKind.u8.max := by simpa [Lit.wf] using h
  have e1 : IntKind.u8.min = 0 := by decide
  have e2 : IntKind.u8.max = 255 := by decide
  rw [e1, e2] at h2
  exact ofInt_toNat (inU_iff.2 ⟨h2.1, by have : (2 : Int) ^ 8 = 256 := by decide
                                         omega⟩)
theorem u16_of {n : Int} (h : (Lit.int .u16 n).wf = true) : (((BitVec.ofInt 16 n).toNat : Nat) : Int) = n := by
  have h2 : IntKind.u16.min ≤ n ∧ n ≤ IntKind.u16.max := by simpa [Lit.wf] using h
  have e1 : IntKind.u16.min = 0 := by decide
  have e2 : IntKind.u16.max = 65535 := by decide
  rw [e1, e2] at h2
  exact ofInt_toNat (inU_iff.2 ⟨h2.1, by have : (2 : Int) ^ 16 = 65536 := by decide
                                         omega⟩)
theorem u32_of {n : Int} (h : (Lit.int .u32 n).wf = true) : (((BitVec.ofInt 32 n).toNat : Nat) : Int) = n := by
  have h2 : IntKind.u32.min ≤ n ∧ n ≤ IntKind.u32.max := by simpa [Lit.wf] using h
  have e1 : IntKind.u32.min = 0 := by decide
  have e2 : IntKind.u32.max = 4294967295 := by decide
  rw [e1, e2] at h2
  exact ofInt_toNat (inU_iff.2 ⟨h2.1, by have : (2 : Int) ^ 32 = 4294967296 := by decide
                                         omega⟩)
theorem u64_of {n : Int} (h : (Lit.int .u64 n).wf = true) : (((BitVec.ofInt 64 n).toNat : Nat) : Int) = n := by
  have h2 : IntKind.u64.min ≤ n ∧ n ≤ IntKind.u64.max := by simpa [Lit.wf] using h
  have e1 : IntKind.u64.min = 0 := by decide
  have e2 : IntKind.u64.max = 18446744073709551615 := by decide
  rw [e1, e2] at h2
  exact ofInt_toNat (inU_iff.2 ⟨h2.1, by have : (2 : Int) ^ 64 = 18446744073709551616 := by decide
                                         omega⟩)
end Go.Proofs.Ytkjfecdpakhggaa
namespace Go.Proofs.Ytkjfecdpakhggaa
open Go.RowKit
set_option linter.unusedVariables false
set_option linter.unusedSimpArgs false
set_option maxRecDepth 100000

theorem law6_ok (x : BitVec 32) (d : List (BitVec 8)) : Spec Try.prog G 6 [.w32 x, .s d] [] (fun r _ => r = .b true) := vf_ok ewk_ok mixed (noL_ok _ _ _ _) (of_eq (vLaw6 x d _) (by
  cases ilt 1024 ((d.length : Nat) : Int) <;> rfl))
end Go.Proofs.Ytkjfecdpakhggaa
namespace Go.Proofs.Ytkjfecdpakhggaa
open Go.RowKit Go.ChangeShapes Go.WideShapes
set_option linter.unusedVariables false
set_option linter.unusedSimpArgs false
set_option maxRecDepth 100000

theorem calls6 (x : Int) (d : ByteArray) (wx : (Lit.int .u32 x).wf = true) (W : World) : Calls Try.prog 6 #[.int .u32 x, .string d] W (fun e W' => e = .returned (.bool true) ∧ Fp0 W W') := by
  have := spec_calls (f := 6) (fn := Try.f6) Try.func6 rfl (by kernel_rfl) (law6_ok (BitVec.ofInt 32 x) (bts d)) (g_rel W) rfl g_ro rfl
  have e : (vals (fun k => k) [SV.w32 (BitVec.ofInt 32 x), SV.s (bts d)]).toArray = #[Value.int .u32 x, Value.string d] := by
    show #[val (fun k => k) (SV.w32 (BitVec.ofInt 32 x)), val (fun k => k) (SV.s (bts d))] = _
    simp only [val, txt_bts, c32, u32_of wx]
  have this' : Calls Try.prog 6 (vals (fun k => k) [SV.w32 (BitVec.ofInt 32 x), SV.s (bts d)]).toArray W (fun e W' => e = .returned (val (fun k => k) (.b true)) ∧ Fp0 W W') := this
  rw [e] at this'
  exact this'
end Go.Proofs.Ytkjfecdpakhggaa
namespace Go.Proofs.Ytkjfecdpakhggaa
open Go.ChangeShapes Go.WideShapes Go.ChangeAt Go.RowKit Go.BigFrame Go.ChangeMaps
set_option linter.unusedVariables false
set_option maxRecDepth 100000

theorem Try.ownN : ownKnob Try.prog.godebug = none := by kernel_rfl

theorem none_lifted (os : Os) (started : os.Started) (H : Type) (enc : TypeId × Value → H) :
    ReturnsInHanded {} Try.checked os 6 .any (Rows.flowNoneSpec.pre6 enc Try.prog Try.f6 Rows.flowNoneRow.domain false) (Rows.flowNoneSpec.post enc Try.prog Try.f6 false true false false) := by
  refine returnsInHanded_of_change (C := Try.checked) Try.ownN started (by kernel_rfl) Try.func6
    (ChangeSpec.witness6 (enc := enc) (C := Try.checked) false ⟨#[], #[.int .u32 0, .string ByteArray.empty], []⟩ 8 (by kernel_rfl) (by kernel_rfl) (by kernel_rfl) (by kernel_rfl)) ?_
  intro W base args ds gs before hval0 hW hcnd _
  have hval : ∀ (j : Nat) t v, Try.f6.params[j]? = some t → args[j]? = some v → Value.okWide Try.prog W .any base t v := hval0
  have hW' := hW
  obtain ⟨p, q, hA0, hV, rfl, hfz, hnd⟩ := hW
  have hA : DataW.TrodAll enc Try.prog W 0 (fun _ => true) true Try.f6.params.toList args.toList ds p := hA0
  rw [Try.params6] at hA hval
  obtain ⟨v0, vs0, d0, ds0, p0, q0, hargs, rfl, rfl, h0, r0⟩ := trodAll_cons hA
  obtain ⟨v1, vs1, d1, ds1, p1, q1, hargs1, rfl, rfl, h1, r1⟩ := trodAll_cons r0
  obtain ⟨rfl, rfl, rfl⟩ := trodAll_nil r1
  obtain rfl : args = #[v0, v1] := by cases args; simp_all
  obtain ⟨rfl, rfl⟩ := trodVars_none hV
  obtain ⟨a0, rfl, rfl, rfl, w0⟩ := open_int Try.underlying22 (hval 0 22 v0 rfl rfl) h0
  obtain ⟨s1, rfl, rfl, rfl, w1⟩ := open_string Try.underlying9 (hval 1 9 v1 rfl rfl) h1
  clear hA0 hval0
  refine (calls6 a0 s1 w0 W).mono fun e W' ⟨he, hK⟩ => ?_
  subst he
  have bel : Below W.heap.size W W' := hK.below
  exact ⟨_, rfl, _, _, _, [], _, [], hW', trodAll_mk1 (shut_bool Try.underlying4 _), (trodAll_cons_mk (shut_int Try.underlying22 w0) (trodAll_cons_mk (shut_string Try.underlying9 w1) trodAll_mk0)), rfl, bel.frame _, fun h => by cases h⟩

theorem flow_none_holds : Rows.FlowNoneSaid :=
  OpenClaim.holds_of_wide 6 Try.f6 rfl rfl rfl rfl rfl rfl rfl ⟨rfl, rfl, rfl, rfl, rfl⟩ rfl rfl rfl rfl rfl (by kernel_rfl) Try.func6 (by kernel_rfl)
    (of_decide_eq_true (by kernel_rfl)) (by unfold Func.isWrapper; first | (rw [if_pos (by decide +kernel)]; kernel_rfl) | (rw [if_neg (by decide +kernel)]; exact ⟨rfl, rfl⟩))
    (fun os started H enc _ => none_lifted os started H enc)
#print axioms flow_none_holds
end Go.Proofs.Ytkjfecdpakhggaa
