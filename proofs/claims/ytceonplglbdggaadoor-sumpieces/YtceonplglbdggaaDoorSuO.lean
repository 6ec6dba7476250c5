/-
  sum: the laws' calls. No statement is proved here.
-/
import Derived.Test.YtceonplglbdggaaDoorSuN
namespace Go.Proofs.YtceonplglbdggaaDoor
open Go.RowKit
set_option linter.unusedVariables false
set_option linter.unusedSimpArgs false
set_option maxRecDepth 100000

theorem Fp.below {w w' : World} (h : Fp0 w w') : Below w.heap.size w w' := ⟨h.os, h.tape, h.output, h.size, fun k hk => h.block k hk id⟩
theorem spec_calls {P : Program} {G M : Mm} {f : Nat} {fn : Func} {c : Code} {args : List SV} {r0 : SV} {β : Nat → Nat} {w : World} (hf : P.funcs[f]? = some fn) (hb : fn.body = some c) (hn : (fn.name == "runtime.NumGoroutine") = false) (hS : Spec P G f args M (fun r _ => r = r0)) (hR : Rel G β M w) (ha : SV.wf.wfs M.length args = true) (hro : ∀ (k : Nat) (e : Ent), M[k]? = some e → e.rw = false) (hr : r0.wf M.length = true) : Calls P f (vals β args).toArray w (fun e w' => e = .returned (val β r0) ∧ Fp0 w w') := by
  rcases hS β w hR ha with ⟨v, W', h2, -⟩ | ⟨-, h⟩
  · rw [enter_run hf hb hn] at h2; cases h2
  · refine h.mono fun e W' hh => ?_
    obtain ⟨v, rfl, β', M', r, hE, hR', ⟨hw, rfl⟩, rfl⟩ := hh
    refine ⟨by rw [val_agree hE.agree r hr], hE.fp.mono fun k _ hk => ?_⟩
    obtain ⟨j, e, he, hr, -⟩ := hk
    rw [hro j e he] at hr; cases hr
theorem g_ro : ∀ (k : Nat) (e : Ent), G[k]? = some e → e.rw = false := fun k e he => by
  match k, he with
  | 0, he => obtain rfl := Option.some.inj he; rfl
  | 1, he => obtain rfl := Option.some.inj he; rfl
  | k + 2, he => cases he
theorem bts_len (s : ByteArray) : (bts s).length = s.data.toList.length := List.length_map ..
theorem calls3 (s : ByteArray) (h : s.data.toList.length ≤ 140737488355328) {W : World} (hR : Rel G (fun k => k) G W) : Calls Tryd.prog 3 #[.string s] W (fun e W' => e = .returned (.bool true) ∧ Fp0 W W') := by
  have := spec_calls (f := 3) (fn := Tryd.f3) Tryd.func3 rfl (by kernel_rfl) (law3 (bts s) (by rw [bts_len]; exact h)) hR rfl g_ro rfl
  have e : (vals (fun k => k) [SV.s (bts s)]).toArray = #[Value.string s] := by simp [vals, val, txt_bts]
  rw [e] at this
  exact this
theorem calls4 (k s : ByteArray) (h1 : k.data.toList.length ≤ 140737488355328) (h : s.data.toList.length ≤ 140737488355328) {W : World} (hR : Rel G (fun k => k) G W) : Calls Tryd.prog 4 #[.string k, .string s] W (fun e W' => e = .returned (.bool true) ∧ Fp0 W W') := by
  have := spec_calls (f := 4) (fn := Tryd.f4) Tryd.func4 rfl (by kernel_rfl) (law4 (bts k) (bts s) (by rw [bts_len]; exact h1) (by rw [bts_len]; exact h)) hR rfl g_ro rfl
  have e : (vals (fun k => k) [SV.s (bts k), SV.s (bts s)]).toArray = #[Value.string k, Value.string s] := by simp [vals, val, txt_bts]
  rw [e] at this
  exact this
theorem calls6 (s : ByteArray) {W : World} (hR : Rel G (fun k => k) G W) : Calls Tryd.prog 6 #[.string s] W (fun e W' => e = .returned (.bool true) ∧ Fp0 W W') := by
  have := spec_calls (f := 6) (fn := Tryd.f6) Tryd.func6 rfl (by kernel_rfl) (law6 (bts s)) hR rfl g_ro rfl
  have e : (vals (fun k => k) [SV.s (bts s)]).toArray = #[Value.string s] := by simp [vals, val, txt_bts]
  rw [e] at this
  exact this
end Go.Proofs.YtceonplglbdggaaDoor
