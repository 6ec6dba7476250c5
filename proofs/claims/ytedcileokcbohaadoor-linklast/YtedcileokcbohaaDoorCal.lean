/-
  link: the laws' calls, and arguments that are frames and ARPs. No statement is proved here.
-/
import Derived.Test.YtedcileokcbohaaDoorLiQ
import Derived.Test.YtedcileokcbohaaDoorLiS
import Derived.ChangeSame
import Derived.OpenShut
import Derived.ChangeMaps5
namespace Go.Proofs.YtedcileokcbohaaDoor
open Go.RowKit Go.ChangeShapes Go.WideShapes
set_option linter.unusedVariables false
set_option linter.unusedSimpArgs false
set_option maxRecDepth 100000

theorem Fp.below {w w' : World} (h : Fp0 w w') : Below w.heap.size w w' := ⟨h.os, h.tape, h.output, h.size, fun k hk => h.block k hk id⟩
theorem spec_calls {P : Program} {G M : Mm} {f : Nat} {fn : Func} {c : Code} {args : List SV} {r0 : SV} {β : Nat → Nat} {w : World} (hf : P.funcs[f]? = some fn) (hb : fn.body = some c) (hn : (fn.name == "runtime.NumGoroutine") = false) (hS : Spec P G f args M (fun r _ => r = r0)) (hR : Rel G β M w) (ha : SV.wf.wfs M.length args = true) (hro : ∀ (k : Nat) (e : Ent), M[k]? = some e → e.rw = false) (hr : r0.wf M.length = true) : Calls P f (vals β args).toArray w (fun e W' => e = .returned (val β r0) ∧ Fp0 w W') := by
  rcases hS β w hR ha with ⟨v, W', h2, -⟩ | ⟨-, h⟩
  · rw [enter_run hf hb hn] at h2; cases h2
  · refine h.mono fun e W' hh => ?_
    obtain ⟨v, rfl, β', M', r, hE, hR', ⟨hw, rfl⟩, rfl⟩ := hh
    refine ⟨by rw [val_agree hE.agree r hr], hE.fp.mono fun k _ hk => ?_⟩
    obtain ⟨j, e, he, hr, -⟩ := hk
    rw [hro j e he] at hr; cases hr
theorem g_ro : ∀ (k : Nat) (e : Ent), G[k]? = some e → e.rw = false := fun k e he => by
  match k, he with
  | 0, he => obtain rfl := Option.some.inj he; rfl
  | k + 1, he => cases he
theorem bts_len (s : ByteArray) : (bts s).length = s.data.toList.length := by simp [bts]
theorem u16_of {n : Int} (h : (Lit.int .u16 n).wf = true) : (((BitVec.ofInt 16 n).toNat : Nat) : Int) = n := by
  have h2 : IntKind.u16.min ≤ n ∧ n ≤ IntKind.u16.max := by simpa [Lit.wf] using h
  have e1 : IntKind.u16.min = 0 := by decide
  have e2 : IntKind.u16.max = 65535 := by decide
  rw [e1, e2] at h2
  exact ofInt_toNat (inU_iff.2 ⟨h2.1, by have : (2 : Int) ^ 16 = 65536 := by decide
                                         omega⟩)
theorem u32_of {n : Int} (h : (Lit.int .u32 n).wf = true) : (((BitVec.ofInt 32 n).toNat : Nat) : Int) = n := by
  have h2 : IntKind.u32.min ≤ n ∧ n ≤ IntKind.u32.max := by simpa [Lit.wf] using h
  have e1 : IntKind.u32.min = 0 := by decide
  have e2 : IntKind.u32.max = 4294967295 := by decide
  rw [e1, e2] at h2
  exact ofInt_toNat (inU_iff.2 ⟨h2.1, by have : (2 : Int) ^ 32 = 4294967296 := by decide
                                         omega⟩)
theorem u64_of {n : Int} (h : (Lit.int .u64 n).wf = true) : (((BitVec.ofInt 64 n).toNat : Nat) : Int) = n := by
  have h2 : IntKind.u64.min ≤ n ∧ n ≤ IntKind.u64.max := by simpa [Lit.wf] using h
  have e1 : IntKind.u64.min = 0 := by decide
  have e2 : IntKind.u64.max = 18446744073709551615 := by decide
  rw [e1, e2] at h2
  exact ofInt_toNat (inU_iff.2 ⟨h2.1, by have : (2 : Int) ^ 64 = 18446744073709551616 := by decide
                                         omega⟩)
theorem calls7 (a n : Int) (wa : (Lit.int .u32 a).wf = true) (wn : (Lit.int .u64 n).wf = true) {W : World} (hR : Rel G (fun k => k) G W) : Calls Tryd.prog 7 #[.int .u32 a, .int .u64 n] W (fun e W' => e = .returned (.bool true) ∧ Fp0 W W') := by
  have := spec_calls (f := 7) (fn := Tryd.f7) Tryd.func7 rfl (by kernel_rfl) (law7_ok (BitVec.ofInt 32 a) (BitVec.ofInt 64 n)) hR rfl g_ro rfl
  have e : (vals (fun k => k) [SV.w32 (BitVec.ofInt 32 a), SV.w64 (BitVec.ofInt 64 n)]).toArray = #[Value.int .u32 a, Value.int .u64 n] := by
    simp only [vals, val, c32, c64, u32_of wa, u64_of wn]
  rw [e] at this
  exact this
/-- A frame, as it comes. -/
structure Frm where
  d : ByteArray
  s : ByteArray
  t : Int
  x : ByteArray
def Frm.v (f : Frm) : Value := .agg #[.string f.d, .string f.s, .int .u16 f.t, .string f.x]
def Frm.ok (f : Frm) : Prop := (Lit.int .u16 f.t).wf = true ∧ f.d.data.toList.length ≤ 140737488355328 ∧ f.s.data.toList.length ≤ 140737488355328
structure Rp where
  o : Int
  a : ByteArray
  u : Int
  b : ByteArray
  v : Int
def Rp.v' (f : Rp) : Value := .agg #[.int .u16 f.o, .string f.a, .int .u32 f.u, .string f.b, .int .u32 f.v]
def Rp.ok (f : Rp) : Prop := (Lit.int .u16 f.o).wf = true ∧ f.a.data.toList.length ≤ 140737488355328 ∧ (Lit.int .u32 f.u).wf = true ∧ f.b.data.toList.length ≤ 140737488355328 ∧ (Lit.int .u32 f.v).wf = true
theorem cells9 : Tryd.prog.cellsOf 9 = 1 := by kernel_rfl
theorem cells22 : Tryd.prog.cellsOf 22 = 1 := by kernel_rfl
theorem cells25 : Tryd.prog.cellsOf 25 = 1 := by kernel_rfl
theorem cells24 : Tryd.prog.cellsOf 24 = 4 := by kernel_rfl
theorem cells27 : Tryd.prog.cellsOf 27 = 5 := by kernel_rfl
section
variable {H : Type} {enc : TypeId × Value → H} {w : World} {base : Nat} {sp : Nat → Bool} {held : Bool}
theorem open_frame {r : Reach} {b0 : Nat} {v : Value} {d : DataW H} {ps : List MemPlace} (hval : Value.okWide Tryd.prog w r b0 24 v) (hd : DataW.Trod enc Tryd.prog w base sp held 24 v d ps) (hw : ∀ n ∈ d.weights Tryd.prog 24, n ≤ 140737488355328) : ∃ f : Frm, v = f.v ∧ f.ok := by
  obtain ⟨cs, rfl, hsz⟩ := okWide_struct Tryd.underlying24 hval
  obtain ⟨fuel, hf⟩ := hd
  have hcs : (Value.agg cs).cells.toList = cs.toList := rfl
  rw [hcs] at hf
  obtain ⟨xs, k, rfl, hx, hlen, hxl, hfl⟩ := DataW.trod_struct Tryd.underlying24 hf
  rw [cells24] at hlen
  obtain ⟨cl⟩ := cs
  simp only at hlen hfl
  match xs, hxl, cl, hlen with
  | [y0, y1, y2, y3], _, [v0, v1, v2, v3], _ =>
    have f0 := hfl 0 _ rfl
    have f1 := hfl 1 _ rfl
    have f2 := hfl 2 _ rfl
    have f3 := hfl 3 _ rfl
    simp [cells9, cells22] at f0 f1 f2 f3
    obtain ⟨n0, e0, x0, w0⟩ := DataW.trod_string Tryd.underlying9 f0
    obtain ⟨n1, e1, x1, w1⟩ := DataW.trod_string Tryd.underlying9 f1
    obtain ⟨n2, e2, x2, w2⟩ := DataW.trod_int Tryd.underlying22 f2
    obtain ⟨n3, e3, x3, w3⟩ := DataW.trod_string Tryd.underlying9 f3
    simp only [List.cons.injEq, and_true] at e0 e1 e2 e3
    subst e0; subst e1; subst e2; subst e3; subst x0; subst x1; subst x2; subst x3
    simp only [Prod.mk.injEq] at hx
    obtain ⟨rfl, -⟩ := hx
    refine ⟨⟨n0, n1, n2, n3⟩, rfl, w2, hw _ ?_, hw _ ?_⟩
    · simp [DataW.weights, DataW.weightsEach, Tryd.underlying24]
    · simp [DataW.weights, DataW.weightsEach, Tryd.underlying24]
theorem open_arp {r : Reach} {b0 : Nat} {v : Value} {d : DataW H} {ps : List MemPlace} (hval : Value.okWide Tryd.prog w r b0 27 v) (hd : DataW.Trod enc Tryd.prog w base sp held 27 v d ps) (hw : ∀ n ∈ d.weights Tryd.prog 27, n ≤ 140737488355328) : ∃ f : Rp, v = f.v' ∧ f.ok := by
  obtain ⟨cs, rfl, hsz⟩ := okWide_struct Tryd.underlying27 hval
  obtain ⟨fuel, hf⟩ := hd
  have hcs : (Value.agg cs).cells.toList = cs.toList := rfl
  rw [hcs] at hf
  obtain ⟨xs, k, rfl, hx, hlen, hxl, hfl⟩ := DataW.trod_struct Tryd.underlying27 hf
  rw [cells27] at hlen
  obtain ⟨cl⟩ := cs
  simp only at hlen hfl
  match xs, hxl, cl, hlen with
  | [y0, y1, y2, y3, y4], _, [v0, v1, v2, v3, v4], _ =>
    have f0 := hfl 0 _ rfl
    have f1 := hfl 1 _ rfl
    have f2 := hfl 2 _ rfl
    have f3 := hfl 3 _ rfl
    have f4 := hfl 4 _ rfl
    simp [cells9, cells22, cells25] at f0 f1 f2 f3 f4
    obtain ⟨n0, e0, x0, w0⟩ := DataW.trod_int Tryd.underlying22 f0
    obtain ⟨n1, e1, x1, w1⟩ := DataW.trod_string Tryd.underlying9 f1
    obtain ⟨n2, e2, x2, w2⟩ := DataW.trod_int Tryd.underlying25 f2
    obtain ⟨n3, e3, x3, w3⟩ := DataW.trod_string Tryd.underlying9 f3
    obtain ⟨n4, e4, x4, w4⟩ := DataW.trod_int Tryd.underlying25 f4
    simp only [List.cons.injEq, and_true] at e0 e1 e2 e3 e4
    subst e0; subst e1; subst e2; subst e3; subst e4; subst x0; subst x1; subst x2; subst x3; subst x4
    simp only [Prod.mk.injEq] at hx
    obtain ⟨rfl, -⟩ := hx
    refine ⟨⟨n0, n1, n2, n3, n4⟩, rfl, w0, hw _ ?_, w2, hw _ ?_, w4⟩
    · simp [DataW.weights, DataW.weightsEach, Tryd.underlying27]
    · simp [DataW.weights, DataW.weightsEach, Tryd.underlying27]
end
theorem frm_val (f : Frm) (h : f.ok) : val (fun k => k) (.agg [.s (bts f.d), .s (bts f.s), .w16 (BitVec.ofInt 16 f.t), .s (bts f.x)]) = f.v := by
  simp only [val, vals, txt_bts, c16, u16_of h.1]; rfl
theorem rp_val (f : Rp) (h : f.ok) : val (fun k => k) (.agg [.w16 (BitVec.ofInt 16 f.o), .s (bts f.a), .w32 (BitVec.ofInt 32 f.u), .s (bts f.b), .w32 (BitVec.ofInt 32 f.v)]) = f.v' := by
  simp only [val, vals, txt_bts, c16, c32, u16_of h.1, u32_of h.2.2.1, u32_of h.2.2.2.2]; rfl
theorem calls3 (f : Frm) (a : Rp) (z : ByteArray) (hf : f.ok) (ha : a.ok) {W : World} (hR : Rel G (fun k => k) G W) : Calls Tryd.prog 3 #[f.v, a.v', .string z] W (fun e W' => e = .returned (.bool true) ∧ Fp0 W W') := by
  have := spec_calls (f := 3) (fn := Tryd.f3) Tryd.func3 rfl (by kernel_rfl) (law3_ok (bts f.d) (bts f.s) (bts f.x) (bts z) (bts a.a) (bts a.b) (BitVec.ofInt 16 f.t) (BitVec.ofInt 16 a.o) (BitVec.ofInt 32 a.u) (BitVec.ofInt 32 a.v) (by rw [bts_len]; exact hf.2.1) (by rw [bts_len]; exact hf.2.2) (by rw [bts_len]; exact ha.2.1) (by rw [bts_len]; exact ha.2.2.2.1)) hR rfl g_ro rfl
  have e : (vals (fun k => k) [.agg [.s (bts f.d), .s (bts f.s), .w16 (BitVec.ofInt 16 f.t), .s (bts f.x)], .agg [.w16 (BitVec.ofInt 16 a.o), .s (bts a.a), .w32 (BitVec.ofInt 32 a.u), .s (bts a.b), .w32 (BitVec.ofInt 32 a.v)], SV.s (bts z)]).toArray = #[f.v, a.v', Value.string z] := by
    have e1 := frm_val f hf
    have e2 := rp_val a ha
    show #[val (fun k => k) _, val (fun k => k) _, val (fun k => k) (.s (bts z))] = _
    rw [e1, e2]
    simp only [val, txt_bts]
  rw [e] at this
  exact this
theorem calls4 (f : Frm) (a : Rp) (z : ByteArray) (hf : f.ok) (ha : a.ok) {W : World} (hR : Rel G (fun k => k) G W) : Calls Tryd.prog 4 #[f.v, a.v', .string z] W (fun e W' => e = .returned (.bool true) ∧ Fp0 W W') := by
  have := spec_calls (f := 4) (fn := Tryd.f4) Tryd.func4 rfl (by kernel_rfl) (law4_ok (bts f.d) (bts f.s) (bts f.x) (bts z) (bts a.a) (bts a.b) (BitVec.ofInt 16 f.t) (BitVec.ofInt 16 a.o) (BitVec.ofInt 32 a.u) (BitVec.ofInt 32 a.v) (by rw [bts_len]; exact hf.2.1) (by rw [bts_len]; exact hf.2.2) (by rw [bts_len]; exact ha.2.1) (by rw [bts_len]; exact ha.2.2.2.1)) hR rfl g_ro rfl
  have e : (vals (fun k => k) [.agg [.s (bts f.d), .s (bts f.s), .w16 (BitVec.ofInt 16 f.t), .s (bts f.x)], .agg [.w16 (BitVec.ofInt 16 a.o), .s (bts a.a), .w32 (BitVec.ofInt 32 a.u), .s (bts a.b), .w32 (BitVec.ofInt 32 a.v)], SV.s (bts z)]).toArray = #[f.v, a.v', Value.string z] := by
    have e1 := frm_val f hf
    have e2 := rp_val a ha
    show #[val (fun k => k) _, val (fun k => k) _, val (fun k => k) (.s (bts z))] = _
    rw [e1, e2]
    simp only [val, txt_bts]
  rw [e] at this
  exact this
end Go.Proofs.YtedcileokcbohaaDoor
