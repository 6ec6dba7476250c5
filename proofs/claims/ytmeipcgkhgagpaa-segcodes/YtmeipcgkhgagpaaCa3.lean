/-
  seg: the call of a law. No statement is proved here.
-/
import Derived.Test.YtmeipcgkhgagpaaCal
import Derived.Test.YtmeipcgkhgagpaaSgM
namespace Go.Proofs.Ytmeipcgkhgagpaa
open Go.RowKit Go.ChangeShapes Go.WideShapes
set_option linter.unusedVariables false
set_option linter.unusedSimpArgs false
set_option maxRecDepth 100000

theorem calls3 (f : Sgv) (t : ByteArray) (x : Int) (y : Int) (hf : f.ok) (wx : (Lit.int .u32 x).wf = true) (wy : (Lit.int .u32 y).wf = true) (W : World) : Calls Try.prog 3 #[f.v, .string t, .int .u32 x, .int .u32 y] W (fun e W' => e = .returned (.bool true) ∧ Fp0 W W') := by
  have := spec_calls (f := 3) (fn := Try.f3) Try.func3 rfl (by kernel_rfl) (law3_ok (BitVec.ofInt 16 f.src) (BitVec.ofInt 16 f.dst) (BitVec.ofInt 32 f.seq) (BitVec.ofInt 32 f.ack) (BitVec.ofInt 8 f.flags) (BitVec.ofInt 16 f.wnd) (BitVec.ofInt 16 f.mss) f.has (BitVec.ofInt 8 f.scale) (bts f.data) (bts t) (BitVec.ofInt 32 x) (BitVec.ofInt 32 y)) (g_rel W) rfl g_ro rfl
  have e : (vals (fun k => k) [f.sv, SV.s (bts t), SV.w32 (BitVec.ofInt 32 x), SV.w32 (BitVec.ofInt 32 y)]).toArray = #[f.v, Value.string t, Value.int .u32 x, Value.int .u32 y] := by
    show #[val (fun k => k) f.sv, val (fun k => k) (SV.s (bts t)), val (fun k => k) (SV.w32 (BitVec.ofInt 32 x)), val (fun k => k) (SV.w32 (BitVec.ofInt 32 y))] = _
    rw [seg_val f hf]
    simp only [val, txt_bts, c32, u32_of wx, u32_of wy]
  have this' : Calls Try.prog 3 (vals (fun k => k) [f.sv, SV.s (bts t), SV.w32 (BitVec.ofInt 32 x), SV.w32 (BitVec.ofInt 32 y)]).toArray W (fun e W' => e = .returned (val (fun k => k) (.b true)) ∧ Fp0 W W') := this
  rw [e] at this'
  exact this'
end Go.Proofs.Ytmeipcgkhgagpaa
