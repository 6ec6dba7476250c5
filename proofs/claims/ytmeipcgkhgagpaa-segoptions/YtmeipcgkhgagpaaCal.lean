/-
  seg: arguments that are segments, calls of laws. No statement is proved here.
-/
import Derived.Test.YtmeipcgkhgagpaaSgM
import Derived.ChangeSame
import Derived.OpenShut
import Derived.ChangeMaps5
namespace Go.Proofs.Ytmeipcgkhgagpaa
open Go.RowKit Go.ChangeShapes Go.WideShapes
set_option linter.unusedVariables false
set_option linter.unusedSimpArgs false
set_option maxRecDepth 100000

theorem Fp.below {w w' : World} (h : Fp0 w w') : Below w.heap.size w w' := ⟨h.os, h.tape, h.output, h.size, fun k hk => h.block k hk id⟩
theorem spec_calls {P : Program} {G M : Mm} {f : Nat} {fn : Func} {c : Code} {args : List SV} {r0 : SV} {β : Nat → Nat} {w : World} (hf : P.funcs[f]? = some fn) (hb : fn.body = some c) (hn : (fn.name == "runtime.NumGoroutine") = false) (hS : Spec P G f args M (fun r _ => r = r0)) (hR : Rel G β M w) (ha : SV.wf.wfs M.length args = true) (hro : ∀ (k : Nat) (e : Ent), M[k]? = some e → e.rw = false) (hr : r0.wf M.length = true) : Calls P f (vals β args).toArray w (fun e W' => e = .returned (val β r0) ∧ Fp0 w W') := by
  rcases hS β w hR ha with ⟨v, W', h2, -⟩ | ⟨-, h⟩
  · rw [enter_run hf hb hn] at h2; cases h2
  · refine h.mono fun e W' hh => ?_
    obtain ⟨v, rfl, β', M', r, hE, hR', ⟨hw, rfl⟩, rfl⟩ := hh
    refine ⟨by rw [val_agree hE.agree r hr], hE.fp.mono fun k _ hk => ?_⟩
    obtain ⟨j, e, he, hr, -⟩ := hk
    rw [hro j e he] at hr; cases hr
theorem g_ro : ∀ (k : Nat) (e : Ent), G[k]? = some e → e.rw = false := fun k e he => by cases he
theorem g_rel (W : World) : Rel G (fun k => k) G W := ⟨fun k e he => (by cases he), fun i j x y hx => (by cases hx), fun _ _ => rfl, Nat.le_refl _, fun _ _ => rfl, fun k e he => (by cases he), fun k e he => (by cases he)⟩
theorem u8_of {n : Int} (h : (Lit.int .u8 n).wf = true) : (((BitVec.ofInt 8 n).toNat : Nat) : Int) = n := by
  have h2 : IntKind.u8.min ≤ n ∧ n ≤ IntKind.u8.max := by simpa [Lit.wf] using h
  have e1 : IntKind.u8.min = 0 := by decide
  have e2 : IntKind.u8.max = 255 := by decide
  rw [e1, e2] at h2
  exact ofInt_toNat (inU_iff.2 ⟨h2.1, by have : (2 : Int) ^ 8 = 256 := by decide
                                         omega⟩)
theorem u16_of {n : Int} (h : (Lit.int .u16 n).wf = true) : (((BitVec.ofInt 16 n).toNat : Nat) : Int) = n := by
  have h2 : IntKind.u16.min ≤ n ∧ n ≤ IntKind.u16.max := by simpa [Lit.wf] using h
  have e1 : IntKind.u16.min = 0 := by decide
  have e2 : IntKind.u16.max = 65535 := by decide
  rw [e1, e2] at h2
  exact ofInt_toNat (inU_iff.2 ⟨h2.1, by have : (2 : Int) ^ 16 = 65536 := by decide
                                         omega⟩)
theorem u32_of {n : Int} (h : (Lit.int .u32 n).wf = true) : (((BitVec.ofInt 32 n).toNat : Nat) : Int) = n := by
  have h2 : IntKind.u32.min ≤ n ∧ n ≤ IntKind.u32.max := by simpa [Lit.wf] using h
  have e1 : IntKind.u32.min = 0 := by decide
  have e2 : IntKind.u32.max = 4294967295 := by decide
  rw [e1, e2] at h2
  exact ofInt_toNat (inU_iff.2 ⟨h2.1, by have : (2 : Int) ^ 32 = 4294967296 := by decide
                                         omega⟩)
theorem u64_of {n : Int} (h : (Lit.int .u64 n).wf = true) : (((BitVec.ofInt 64 n).toNat : Nat) : Int) = n := by
  have h2 : IntKind.u64.min ≤ n ∧ n ≤ IntKind.u64.max := by simpa [Lit.wf] using h
  have e1 : IntKind.u64.min = 0 := by decide
  have e2 : IntKind.u64.max = 18446744073709551615 := by decide
  rw [e1, e2] at h2
  exact ofInt_toNat (inU_iff.2 ⟨h2.1, by have : (2 : Int) ^ 64 = 18446744073709551616 := by decide
                                         omega⟩)
/-- A segment, as it comes. -/
structure Sgv where
  src : Int
  dst : Int
  seq : Int
  ack : Int
  flags : Int
  wnd : Int
  mss : Int
  has : Bool
  scale : Int
  data : ByteArray
def Sgv.v (p : Sgv) : Value := .agg #[.int .u16 p.src, .int .u16 p.dst, .int .u32 p.seq, .int .u32 p.ack, .int .u8 p.flags, .int .u16 p.wnd, .int .u16 p.mss, .bool p.has, .int .u8 p.scale, .string p.data]
def Sgv.ok (p : Sgv) : Prop := (Lit.int .u16 p.src).wf = true ∧ (Lit.int .u16 p.dst).wf = true ∧ (Lit.int .u32 p.seq).wf = true ∧ (Lit.int .u32 p.ack).wf = true ∧ (Lit.int .u8 p.flags).wf = true ∧ (Lit.int .u16 p.wnd).wf = true ∧ (Lit.int .u16 p.mss).wf = true ∧ (Lit.int .u8 p.scale).wf = true
abbrev Sgv.sv (p : Sgv) : SV := seg (BitVec.ofInt 16 p.src) (BitVec.ofInt 16 p.dst) (BitVec.ofInt 32 p.seq) (BitVec.ofInt 32 p.ack) (BitVec.ofInt 8 p.flags) (BitVec.ofInt 16 p.wnd) (BitVec.ofInt 16 p.mss) p.has (BitVec.ofInt 8 p.scale) (bts p.data)
theorem seg_val (p : Sgv) (h : p.ok) : val (fun k => k) p.sv = p.v := by
  obtain ⟨h1, h2, h3, h4, h5, h6, h7, h8⟩ := h
  unfold Sgv.sv Sgv.v
  simp only [val, vals, txt_bts, c8, c16, c32, u16_of h1, u16_of h2, u32_of h3, u32_of h4, u8_of h5, u16_of h6, u16_of h7, u8_of h8]
theorem cells4 : Try.prog.cellsOf 4 = 1 := by kernel_rfl
theorem cells5 : Try.prog.cellsOf 5 = 1 := by kernel_rfl
theorem cells9 : Try.prog.cellsOf 9 = 1 := by kernel_rfl
theorem cells22 : Try.prog.cellsOf 22 = 1 := by kernel_rfl
theorem cells23 : Try.prog.cellsOf 23 = 1 := by kernel_rfl
theorem cells25 : Try.prog.cellsOf 25 = 10 := by kernel_rfl
section
variable {H : Type} {enc : TypeId × Value → H} {w : World} {base : Nat} {sp : Nat → Bool} {held : Bool}
theorem open_seg {r : Reach} {b0 : Nat} {v : Value} {d : DataW H} {ps : List MemPlace} (hval : Value.okWide Try.prog w r b0 25 v) (hd : DataW.Trod enc Try.prog w base sp held 25 v d ps) : ∃ f : Sgv, v = f.v ∧ f.ok := by
  obtain ⟨cs, rfl, hsz⟩ := okWide_struct Try.underlying25 hval
  obtain ⟨fuel, hf⟩ := hd
  have hcs : (Value.agg cs).cells.toList = cs.toList := rfl
  rw [hcs] at hf
  obtain ⟨xs, k, rfl, hx, hlen, hxl, hfl⟩ := DataW.trod_struct Try.underlying25 hf
  rw [cells25] at hlen
  obtain ⟨cl⟩ := cs
  simp only at hlen hfl
  match xs, hxl, cl, hlen with
  | [y0, y1, y2, y3, y4, y5, y6, y7, y8, y9], _, [v0, v1, v2, v3, v4, v5, v6, v7, v8, v9], _ =>
    have f0 := hfl 0 _ rfl
    have f1 := hfl 1 _ rfl
    have f2 := hfl 2 _ rfl
    have f3 := hfl 3 _ rfl
    have f4 := hfl 4 _ rfl
    have f5 := hfl 5 _ rfl
    have f6 := hfl 6 _ rfl
    have f7 := hfl 7 _ rfl
    have f8 := hfl 8 _ rfl
    have f9 := hfl 9 _ rfl
    simp [cells4, cells5, cells9, cells22, cells23] at f0 f1 f2 f3 f4 f5 f6 f7 f8 f9
    obtain ⟨n0, e0, x0, w0⟩ := DataW.trod_int Try.underlying22 f0
    obtain ⟨n1, e1, x1, w1⟩ := DataW.trod_int Try.underlying22 f1
    obtain ⟨n2, e2, x2, w2⟩ := DataW.trod_int Try.underlying23 f2
    obtain ⟨n3, e3, x3, w3⟩ := DataW.trod_int Try.underlying23 f3
    obtain ⟨n4, e4, x4, w4⟩ := DataW.trod_int Try.underlying5 f4
    obtain ⟨n5, e5, x5, w5⟩ := DataW.trod_int Try.underlying22 f5
    obtain ⟨n6, e6, x6, w6⟩ := DataW.trod_int Try.underlying22 f6
    obtain ⟨n7, e7, x7⟩ := DataW.trod_bool Try.underlying4 f7
    obtain ⟨n8, e8, x8, w8⟩ := DataW.trod_int Try.underlying5 f8
    obtain ⟨n9, e9, x9, w9⟩ := DataW.trod_string Try.underlying9 f9
    simp only [List.cons.injEq, and_true] at e0 e1 e2 e3 e4 e5 e6 e7 e8 e9
    subst e0; subst e1; subst e2; subst e3; subst e4; subst e5; subst e6; subst e7; subst e8; subst e9
    exact ⟨⟨n0, n1, n2, n3, n4, n5, n6, n7, n8, n9⟩, rfl, w0, w1, w2, w3, w4, w5, w6, w8⟩
end
end Go.Proofs.Ytmeipcgkhgagpaa
