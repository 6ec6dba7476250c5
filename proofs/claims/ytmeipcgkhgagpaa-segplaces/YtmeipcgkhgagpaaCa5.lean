/-
  seg: the call of a law. No statement is proved here.
-/
import Derived.Test.YtmeipcgkhgagpaaCal
import Derived.Test.YtmeipcgkhgagpaaSgP
namespace Go.Proofs.Ytmeipcgkhgagpaa
open Go.RowKit Go.ChangeShapes Go.WideShapes
set_option linter.unusedVariables false
set_option linter.unusedSimpArgs false
set_option maxRecDepth 100000

theorem calls5 (f : Sgv) (x : Int) (y : Int) (n : Int) (hf : f.ok) (wx : (Lit.int .u32 x).wf = true) (wy : (Lit.int .u32 y).wf = true) (wn : (Lit.int .u16 n).wf = true) (W : World) : Calls Try.prog 5 #[f.v, .int .u32 x, .int .u32 y, .int .u16 n] W (fun e W' => e = .returned (.bool true) ∧ Fp0 W W') := by
  have := spec_calls (f := 5) (fn := Try.f5) Try.func5 rfl (by kernel_rfl) (law5_ok (BitVec.ofInt 16 f.src) (BitVec.ofInt 16 f.dst) (BitVec.ofInt 32 f.seq) (BitVec.ofInt 32 f.ack) (BitVec.ofInt 8 f.flags) (BitVec.ofInt 16 f.wnd) (BitVec.ofInt 16 f.mss) f.has (BitVec.ofInt 8 f.scale) (bts f.data) (BitVec.ofInt 32 x) (BitVec.ofInt 32 y) (BitVec.ofInt 16 n)) (g_rel W) rfl g_ro rfl
  have e : (vals (fun k => k) [f.sv, SV.w32 (BitVec.ofInt 32 x), SV.w32 (BitVec.ofInt 32 y), SV.w16 (BitVec.ofInt 16 n)]).toArray = #[f.v, Value.int .u32 x, Value.int .u32 y, Value.int .u16 n] := by
    show #[val (fun k => k) f.sv, val (fun k => k) (SV.w32 (BitVec.ofInt 32 x)), val (fun k => k) (SV.w32 (BitVec.ofInt 32 y)), val (fun k => k) (SV.w16 (BitVec.ofInt 16 n))] = _
    rw [seg_val f hf]
    simp only [val, txt_bts, c16, c32, u32_of wx, u32_of wy, u16_of wn]
  have this' : Calls Try.prog 5 (vals (fun k => k) [f.sv, SV.w32 (BitVec.ofInt 32 x), SV.w32 (BitVec.ofInt 32 y), SV.w16 (BitVec.ofInt 16 n)]).toArray W (fun e W' => e = .returned (val (fun k => k) (.b true)) ∧ Fp0 W W') := this
  rw [e] at this'
  exact this'
end Go.Proofs.Ytmeipcgkhgagpaa
