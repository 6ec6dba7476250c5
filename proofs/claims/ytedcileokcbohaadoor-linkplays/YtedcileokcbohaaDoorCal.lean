/-
  link: the laws' calls, and arguments that are frames and ARPs. No statement is proved here.
-/
import Derived.Test.YtedcileokcbohaaDoorLiQ
import Derived.Test.YtedcileokcbohaaDoorLiS
import Derived.ChangeSame
import Derived.OpenShut
import Derived.ChangeMaps5
import Derived.Test.YtedcileokcbohaaDoorLiO
namespace Go.Proofs.YtedcileokcbohaaDoor
open Go.RowKit Go.ChangeShapes Go.WideShapes
set_option linter.unusedVariables false
set_option linter.unusedSimpArgs false
set_option maxRecDepth 100000

theorem Fp.below {w w' : World} (h : Fp0 w w') : Below w.heap.size w w' := ⟨h.os, h.tape, h.output, h.size, fun k hk => h.block k hk id⟩
theorem spec_calls {P : Program} {G M : Mm} {f : Nat} {fn : Func} {c : Code} {args : List SV} {r0 : SV} {β : Nat → Nat} {w : World} (hf : P.funcs[f]? = some fn) (hb : fn.body = some c) (hn : (fn.name == "runtime.NumGoroutine") = false) (hS : Spec P G f args M (fun r _ => r = r0)) (hR : Rel G β M w) (ha : SV.wf.wfs M.length args = true) (hro : ∀ (k : Nat) (e : Ent), M[k]? = some e → e.rw = false) (hr : r0.wf M.length = true) : Calls P f (vals β args).toArray w (fun e W' => e = .returned (val β r0) ∧ Fp0 w W') := by
  rcases hS β w hR ha with ⟨v, W', h2, -⟩ | ⟨-, h⟩
  · rw [enter_run hf hb hn] at h2; cases h2
  · refine h.mono fun e W' hh => ?_
    obtain ⟨v, rfl, β', M', r, hE, hR', ⟨hw, rfl⟩, rfl⟩ := hh
    refine ⟨by rw [val_agree hE.agree r hr], hE.fp.mono fun k _ hk => ?_⟩
    obtain ⟨j, e, he, hr, -⟩ := hk
    rw [hro j e he] at hr; cases hr
theorem g_ro : ∀ (k : Nat) (e : Ent), G[k]? = some e → e.rw = false := fun k e he => by
  match k, he with
  | 0, he => obtain rfl := Option.some.inj he; rfl
  | k + 1, he => cases he
theorem bts_len (s : ByteArray) : (bts s).length = s.data.toList.length := by simp [bts]
theorem u16_of {n : Int} (h : (Lit.int .u16 n).wf = true) : (((BitVec.ofInt 16 n).toNat : Nat) : Int) = n := by
  have h2 : IntKind.u16.min ≤ n ∧ n ≤ IntKind.u16.max := by simpa [Lit.wf] using h
  have e1 : IntKind.u16.min = 0 := by decide
  have e2 : IntKind.u16.max = 65535 := by decide
  rw [e1, e2] at h2
  exact ofInt_toNat (inU_iff.2 ⟨h2.1, by have : (2 : Int) ^ 16 = 65536 := by decide
                                         omega⟩)
theorem u32_of {n : Int} (h : (Lit.int .u32 n).wf = true) : (((BitVec.ofInt 32 n).toNat : Nat) : Int) = n := by
  have h2 : IntKind.u32.min ≤ n ∧ n ≤ IntKind.u32.max := by simpa [Lit.wf] using h
  have e1 : IntKind.u32.min = 0 := by decide
  have e2 : IntKind.u32.max = 4294967295 := by decide
  rw [e1, e2] at h2
  exact ofInt_toNat (inU_iff.2 ⟨h2.1, by have : (2 : Int) ^ 32 = 4294967296 := by decide
                                         omega⟩)
theorem u64_of {n : Int} (h : (Lit.int .u64 n).wf = true) : (((BitVec.ofInt 64 n).toNat : Nat) : Int) = n := by
  have h2 : IntKind.u64.min ≤ n ∧ n ≤ IntKind.u64.max := by simpa [Lit.wf] using h
  have e1 : IntKind.u64.min = 0 := by decide
  have e2 : IntKind.u64.max = 18446744073709551615 := by decide
  rw [e1, e2] at h2
  exact ofInt_toNat (inU_iff.2 ⟨h2.1, by have : (2 : Int) ^ 64 = 18446744073709551616 := by decide
                                         omega⟩)
theorem calls7 (a n : Int) (wa : (Lit.int .u32 a).wf = true) (wn : (Lit.int .u64 n).wf = true) {W : World} (hR : Rel G (fun k => k) G W) : Calls Tryd.prog 7 #[.int .u32 a, .int .u64 n] W (fun e W' => e = .returned (.bool true) ∧ Fp0 W W') := by
  have := spec_calls (f := 7) (fn := Tryd.f7) Tryd.func7 rfl (by kernel_rfl) (law7_ok (BitVec.ofInt 32 a) (BitVec.ofInt 64 n)) hR rfl g_ro rfl
  have e : (vals (fun k => k) [SV.w32 (BitVec.ofInt 32 a), SV.w64 (BitVec.ofInt 64 n)]).toArray = #[Value.int .u32 a, Value.int .u64 n] := by
    simp only [vals, val, c32, c64, u32_of wa, u64_of wn]
  rw [e] at this
  exact this
/-- A frame, as it comes. -/
structure Frm where
  d : ByteArray
  s : ByteArray
  t : Int
  x : ByteArray
def Frm.v (f : Frm) : Value := .agg #[.string f.d, .string f.s, .int .u16 f.t, .string f.x]
def Frm.ok (f : Frm) : Prop := (Lit.int .u16 f.t).wf = true ∧ f.d.data.toList.length ≤ 140737488355328 ∧ f.s.data.toList.length ≤ 140737488355328
structure Rp where
  o : Int
  a : ByteArray
  u : Int
  b : ByteArray
  v : Int
def Rp.v' (f : Rp) : Value := .agg #[.int .u16 f.o, .string f.a, .int .u32 f.u, .string f.b, .int .u32 f.v]
def Rp.ok (f : Rp) : Prop := (Lit.int .u16 f.o).wf = true ∧ f.a.data.toList.length ≤ 140737488355328 ∧ (Lit.int .u32 f.u).wf = true ∧ f.b.data.toList.length ≤ 140737488355328 ∧ (Lit.int .u32 f.v).wf = true
theorem cells9 : Tryd.prog.cellsOf 9 = 1 := by kernel_rfl
theorem cells22 : Tryd.prog.cellsOf 22 = 1 := by kernel_rfl
theorem cells25 : Tryd.prog.cellsOf 25 = 1 := by kernel_rfl
theorem cells24 : Tryd.prog.cellsOf 24 = 4 := by kernel_rfl
theorem cells27 : Tryd.prog.cellsOf 27 = 5 := by kernel_rfl
section
variable {H : Type} {enc : TypeId × Value → H} {w : World} {base : Nat} {sp : Nat → Bool} {held : Bool}
theorem open_frame {r : Reach} {b0 : Nat} {v : Value} {d : DataW H} {ps : List MemPlace} (hval : Value.okWide Tryd.prog w r b0 24 v) (hd : DataW.Trod enc Tryd.prog w base sp held 24 v d ps) (hw : ∀ n ∈ d.weights Tryd.prog 24, n ≤ 140737488355328) : ∃ f : Frm, v = f.v ∧ f.ok := by
  obtain ⟨cs, rfl, hsz⟩ := okWide_struct Tryd.underlying24 hval
  obtain ⟨fuel, hf⟩ := hd
  have hcs : (Value.agg cs).cells.toList = cs.toList := rfl
  rw [hcs] at hf
  obtain ⟨xs, k, rfl, hx, hlen, hxl, hfl⟩ := DataW.trod_struct Tryd.underlying24 hf
  rw [cells24] at hlen
  obtain ⟨cl⟩ := cs
  simp only at hlen hfl
  match xs, hxl, cl, hlen with
  | [y0, y1, y2, y3], _, [v0, v1, v2, v3], _ =>
    have f0 := hfl 0 _ rfl
    have f1 := hfl 1 _ rfl
    have f2 := hfl 2 _ rfl
    have f3 := hfl 3 _ rfl
    simp [cells9, cells22] at f0 f1 f2 f3
    obtain ⟨n0, e0, x0, w0⟩ := DataW.trod_string Tryd.underlying9 f0
    obtain ⟨n1, e1, x1, w1⟩ := DataW.trod_string Tryd.underlying9 f1
    obtain ⟨n2, e2, x2, w2⟩ := DataW.trod_int Tryd.underlying22 f2
    obtain ⟨n3, e3, x3, w3⟩ := DataW.trod_string Tryd.underlying9 f3
    simp only [List.cons.injEq, and_true] at e0 e1 e2 e3
    subst e0; subst e1; subst e2; subst e3; subst x0; subst x1; subst x2; subst x3
    simp only [Prod.mk.injEq] at hx
    obtain ⟨rfl, -⟩ := hx
    refine ⟨⟨n0, n1, n2, n3⟩, rfl, w2, hw _ ?_, hw _ ?_⟩
    · simp [DataW.weights, DataW.weightsEach, Tryd.underlying24]
    · simp [DataW.weights, DataW.weightsEach, Tryd.underlying24]
theorem open_arp {r : Reach} {b0 : Nat} {v : Value} {d : DataW H} {ps : List MemPlace} (hval : Value.okWide Tryd.prog w r b0 27 v) (hd : DataW.Trod enc Tryd.prog w base sp held 27 v d ps) (hw : ∀ n ∈ d.weights Tryd.prog 27, n ≤ 140737488355328) : ∃ f : Rp, v = f.v' ∧ f.ok := by
  obtain ⟨cs, rfl, hsz⟩ := okWide_struct Tryd.underlying27 hval
  obtain ⟨fuel, hf⟩ := hd
  have hcs : (Value.agg cs).cells.toList = cs.toList := rfl
  rw [hcs] at hf
  obtain ⟨xs, k, rfl, hx, hlen, hxl, hfl⟩ := DataW.trod_struct Tryd.underlying27 hf
  rw [cells27] at hlen
  obtain ⟨cl⟩ := cs
  simp only at hlen hfl
  match xs, hxl, cl, hlen with
  | [y0, y1, y2, y3, y4], _, [v0, v1, v2, v3, v4], _ =>
    have f0 := hfl 0 _ rfl
    have f1 := hfl 1 _ rfl
    have f2 := hfl 2 _ rfl
    have f3 := hfl 3 _ rfl
    have f4 := hfl 4 _ rfl
    simp [cells9, cells22, cells25] at f0 f1 f2 f3 f4
    obtain ⟨n0, e0, x0, w0⟩ := DataW.trod_int Tryd.underlying22 f0
    obtain ⟨n1, e1, x1, w1⟩ := DataW.trod_string Tryd.underlying9 f1
    obtain ⟨n2, e2, x2, w2⟩ := DataW.trod_int Tryd.underlying25 f2
    obtain ⟨n3, e3, x3, w3⟩ := DataW.trod_string Tryd.underlying9 f3
    obtain ⟨n4, e4, x4, w4⟩ := DataW.trod_int Tryd.underlying25 f4
    simp only [List.cons.injEq, and_true] at e0 e1 e2 e3 e4
    subst e0; subst e1; subst e2; subst e3; subst e4; subst x0; subst x1; subst x2; subst x3; subst x4
    simp only [Prod.mk.injEq] at hx
    obtain ⟨rfl, -⟩ := hx
    refine ⟨⟨n0, n1, n2, n3, n4⟩, rfl, w0, hw _ ?_, w2, hw _ ?_, w4⟩
    · simp [DataW.weights, DataW.weightsEach, Tryd.underlying27]
    · simp [DataW.weights, DataW.weightsEach, Tryd.underlying27]
end
theorem frm_val (f : Frm) (h : f.ok) : val (fun k => k) (.agg [.s (bts f.d), .s (bts f.s), .w16 (BitVec.ofInt 16 f.t), .s (bts f.x)]) = f.v := by
  simp only [val, vals, txt_bts, c16, u16_of h.1]; rfl
theorem rp_val (f : Rp) (h : f.ok) : val (fun k => k) (.agg [.w16 (BitVec.ofInt 16 f.o), .s (bts f.a), .w32 (BitVec.ofInt 32 f.u), .s (bts f.b), .w32 (BitVec.ofInt 32 f.v)]) = f.v' := by
  simp only [val, vals, txt_bts, c16, c32, u16_of h.1, u32_of h.2.2.1, u32_of h.2.2.2.2]; rfl
theorem calls3 (f : Frm) (a : Rp) (z : ByteArray) (hf : f.ok) (ha : a.ok) {W : World} (hR : Rel G (fun k => k) G W) : Calls Tryd.prog 3 #[f.v, a.v', .string z] W (fun e W' => e = .returned (.bool true) ∧ Fp0 W W') := by
  have := spec_calls (f := 3) (fn := Tryd.f3) Tryd.func3 rfl (by kernel_rfl) (law3_ok (bts f.d) (bts f.s) (bts f.x) (bts z) (bts a.a) (bts a.b) (BitVec.ofInt 16 f.t) (BitVec.ofInt 16 a.o) (BitVec.ofInt 32 a.u) (BitVec.ofInt 32 a.v) (by rw [bts_len]; exact hf.2.1) (by rw [bts_len]; exact hf.2.2) (by rw [bts_len]; exact ha.2.1) (by rw [bts_len]; exact ha.2.2.2.1)) hR rfl g_ro rfl
  have e : (vals (fun k => k) [.agg [.s (bts f.d), .s (bts f.s), .w16 (BitVec.ofInt 16 f.t), .s (bts f.x)], .agg [.w16 (BitVec.ofInt 16 a.o), .s (bts a.a), .w32 (BitVec.ofInt 32 a.u), .s (bts a.b), .w32 (BitVec.ofInt 32 a.v)], SV.s (bts z)]).toArray = #[f.v, a.v', Value.string z] := by
    have e1 := frm_val f hf
    have e2 := rp_val a ha
    show #[val (fun k => k) _, val (fun k => k) _, val (fun k => k) (.s (bts z))] = _
    rw [e1, e2]
    simp only [val, txt_bts]
  rw [e] at this
  exact this
theorem calls4 (f : Frm) (a : Rp) (z : ByteArray) (hf : f.ok) (ha : a.ok) {W : World} (hR : Rel G (fun k => k) G W) : Calls Tryd.prog 4 #[f.v, a.v', .string z] W (fun e W' => e = .returned (.bool true) ∧ Fp0 W W') := by
  have := spec_calls (f := 4) (fn := Tryd.f4) Tryd.func4 rfl (by kernel_rfl) (law4_ok (bts f.d) (bts f.s) (bts f.x) (bts z) (bts a.a) (bts a.b) (BitVec.ofInt 16 f.t) (BitVec.ofInt 16 a.o) (BitVec.ofInt 32 a.u) (BitVec.ofInt 32 a.v) (by rw [bts_len]; exact hf.2.1) (by rw [bts_len]; exact hf.2.2) (by rw [bts_len]; exact ha.2.1) (by rw [bts_len]; exact ha.2.2.2.1)) hR rfl g_ro rfl
  have e : (vals (fun k => k) [.agg [.s (bts f.d), .s (bts f.s), .w16 (BitVec.ofInt 16 f.t), .s (bts f.x)], .agg [.w16 (BitVec.ofInt 16 a.o), .s (bts a.a), .w32 (BitVec.ofInt 32 a.u), .s (bts a.b), .w32 (BitVec.ofInt 32 a.v)], SV.s (bts z)]).toArray = #[f.v, a.v', Value.string z] := by
    have e1 := frm_val f hf
    have e2 := rp_val a ha
    show #[val (fun k => k) _, val (fun k => k) _, val (fun k => k) (.s (bts z))] = _
    rw [e1, e2]
    simp only [val, txt_bts]
  rw [e] at this
  exact this
end Go.Proofs.YtedcileokcbohaaDoor
namespace Go.Proofs.YtedcileokcbohaaDoor
open Go.RowKit
set_option linter.unusedVariables false
set_option linter.unusedSimpArgs false
set_option maxRecDepth 100000

theorem sort_pw : ∀ L : List Nr, sortB L = true ↔ L.Pairwise fun r s => r.1.toNat < s.1.toNat
  | [] => ⟨fun _ => List.Pairwise.nil, fun _ => rfl⟩
  | r :: l => by rw [sort_cons, List.pairwise_cons, sort_pw l]
theorem getD_mem {α : Type} (z : α) {l : List α} {i : Nat} (h : i < l.length) : l.getD i z ∈ l := by
  rw [List.getD_eq_getElem?_getD, List.getElem?_eq_getElem h]; exact List.getElem_mem h
theorem mem_getD {α : Type} (z : α) {l : List α} {x : α} (h : x ∈ l) : ∃ i, i < l.length ∧ x = l.getD i z := by
  obtain ⟨i, hi, rfl⟩ := List.mem_iff_getElem.1 h
  exact ⟨i, hi, by rw [List.getD_eq_getElem?_getD, List.getElem?_eq_getElem hi]; rfl⟩
theorem cnt_self {L : List Nr} (h : sortB L = true) {i : Nat} (hi : i < L.length) : cntL (L.getD i (rz NF)).1 L = i := by
  have h1 := sort_cnt (L.getD i (rz NF)).1 L h i hi
  have h2 : ¬ i < cntL (L.getD i (rz NF)).1 L := fun q => by
    have := ult_iff.1 (h1.2 q)
    omega
  rcases Nat.lt_or_ge (cntL (L.getD i (rz NF)).1 L) i with q | q
  · have h3 := sort_cnt (L.getD i (rz NF)).1 L h _ (Nat.lt_trans q hi)
    have := h3.1 (ult_iff.2 (sort_lt L h _ i q hi))
    omega
  · omega
theorem is_self {L : List Nr} {i : Nat} (hi : i < L.length) : isL (L.getD i (rz NF)).1 L = true := by
  unfold isL
  rw [List.any_eq_true]
  exact ⟨_, getD_mem _ hi, beq_self_eq_true _⟩
theorem sort_congr : ∀ L L' : List Nr, L.map (·.1) = L'.map (·.1) → sortB L = true → sortB L' = true
  | [], [], _, _ => rfl
  | [], _ :: _, h, _ => by cases h
  | _ :: _, [], h, _ => by cases h
  | r :: l, r' :: l', h, hs => by
    simp only [List.map_cons, List.cons.injEq] at h
    obtain ⟨h1, h2⟩ := h
    rw [sort_cons] at hs ⊢
    refine ⟨fun s hm => ?_, sort_congr l l' h2 hs.2⟩
    have : s.1 ∈ l.map (·.1) := by rw [h2]; exact List.mem_map.2 ⟨s, hm, rfl⟩
    obtain ⟨t, ht, e⟩ := List.mem_map.1 this
    have := hs.1 t ht
    rw [← h1, ← e]; exact this
theorem sort_set {L : List Nr} {a : BitVec 32} {m : Tx} {u : BitVec 64} (h : sortB L = true) (hi : isL a L = true) : sortB (L.set (cntL a L) (a, m, u, ())) = true := by
  refine sort_congr L _ ?_ h
  have hk := is_cnt a L h
  rw [hi] at hk
  have h1 : cntL a L < L.length := is_lt h hi
  rw [show Nat.blt (cntL a L) L.length = true from by rw [Nat.blt_eq]; exact h1] at hk
  have h2 : (L.getD (cntL a L) (rz NF)).1 = a := eq_of_beq hk.symm
  rw [List.map_set]
  rw [List.getD_eq_getElem?_getD, List.getElem?_eq_getElem h1] at h2
  apply List.ext_getElem?
  intro j
  rw [List.getElem?_set]
  split
  · rename_i e
    subst e
    rw [if_pos (by rw [List.length_map]; exact h1), List.getElem?_map, List.getElem?_eq_getElem h1]
    exact congrArg some h2
  · rfl
theorem is_no {L : List Nr} {a : BitVec 32} (h : isL a L = false) {s : Nr} (hs : s ∈ L) : s.1 ≠ a := by
  intro e
  unfold isL at h
  rw [List.any_eq_false] at h
  exact h s hs (by rw [e]; exact beq_self_eq_true _)
theorem sort_ins {L : List Nr} {a : BitVec 32} {m : Tx} {u : BitVec 64} (h : sortB L = true) (hi : isL a L = false) : sortB (insL (cntL a L) (a, m, u, ()) L) = true := by
  have hc := cntL_le a L
  have hp := (sort_pw L).1 h
  have hq := sort_cnt a L h
  rw [← List.take_append_drop (cntL a L) L, List.pairwise_append] at hp
  obtain ⟨h1, h2, h3⟩ := hp
  have lo : ∀ r ∈ L.take (cntL a L), r.1.toNat < a.toNat := fun r hr => by
    obtain ⟨i, hi, rfl⟩ := List.mem_iff_getElem.1 hr
    have hi' := hi
    rw [List.length_take] at hi'
    have h4 := (hq i (by omega)).2 (by omega)
    rw [List.getD_eq_getElem?_getD, List.getElem?_eq_getElem (by omega)] at h4
    rw [List.getElem_take]
    exact ult_iff.1 h4
  have up : ∀ s ∈ L.drop (cntL a L), a.toNat < s.1.toNat := fun s hs => by
    have hne := is_no hi (List.mem_of_mem_drop hs)
    obtain ⟨i, hi, rfl⟩ := List.mem_iff_getElem.1 hs
    have hi' := hi
    rw [List.length_drop] at hi'
    have h4 := hq (cntL a L + i) (by omega)
    rw [List.getD_eq_getElem?_getD, List.getElem?_eq_getElem (by omega)] at h4
    rw [List.getElem_drop] at hne ⊢
    have h5 : ¬ (L[cntL a L + i]'(by omega)).1.toNat < a.toNat := fun q => by
      have := h4.1 (ult_iff.2 q)
      omega
    have h6 : (L[cntL a L + i]'(by omega)).1.toNat ≠ a.toNat := fun e => hne (BitVec.eq_of_toNat_eq e)
    omega
  rw [sort_pw]
  unfold insL
  rw [List.append_assoc, List.pairwise_append]
  refine ⟨h1, ?_, fun r hr s hs => ?_⟩
  · rw [List.singleton_append, List.pairwise_cons]
    exact ⟨up, h2⟩
  · rcases List.mem_append.1 hs with q | q
    · rw [List.mem_singleton] at q
      rw [q]; exact lo r hr
    · exact h3 r hr s q
theorem keep_sort {q : Int} {f : BitVec 64} {a : BitVec 32} {m : Tx} {n : BitVec 64} {L : List Nr} (h : sortB L = true) : sortB (keepL q f a m n L) = true := by
  unfold keepL
  cases hi : isL a L
  · cases hq : ile q (L.length : Int)
    · exact sort_ins h hi
    · exact h
  · exact sort_set h hi
theorem keep_len {q : Int} {f : BitVec 64} {a : BitVec 32} {m : Tx} {n : BitVec 64} {L : List Nr} (h : (L.length : Int) ≤ q) : ((keepL q f a m n L).length : Int) ≤ q := by
  unfold keepL
  cases hi : isL a L
  · cases hq : ile q (L.length : Int)
    · have : ¬ q ≤ (L.length : Int) := by rw [ile_eq] at hq; exact of_decide_eq_false hq
      show ((insL _ _ L).length : Int) ≤ q
      rw [insL_len]; omega
    · exact h
  · show ((L.set _ _).length : Int) ≤ q
    rw [List.length_set]; exact h
theorem keep_mem {q : Int} {f : BitVec 64} {a : BitVec 32} {m : Tx} {n : BitVec 64} {L : List Nr} {r : Nr} (h : r ∈ keepL q f a m n L) : r ∈ L ∨ r = (a, m, n + f, ()) := by
  unfold keepL at h
  cases hi : isL a L
  · rw [hi] at h
    cases hq : ile q (L.length : Int)
    · rw [hq] at h
      replace h : r ∈ insL (cntL a L) (a, m, n + f, ()) L := h
      unfold insL at h
      rcases List.mem_append.1 h with q | q
      · rcases List.mem_append.1 q with q | q
        · exact .inl (List.mem_of_mem_take q)
        · exact .inr (List.mem_singleton.1 q)
      · exact .inl (List.mem_of_mem_drop q)
    · rw [hq] at h; exact .inl h
  · rw [hi] at h
    exact (List.mem_or_eq_of_mem_set h)
theorem kept_mem {n : BitVec 64} {L : List Nr} {r : Nr} (h : r ∈ kept n L) : r ∈ L := (List.mem_filter.1 h).1
theorem kept_twice (n : BitVec 64) (L : List Nr) : kept n (kept n L) = kept n L := by
  unfold kept
  rw [List.filter_eq_self]
  intro r hr
  exact (List.mem_filter.1 hr).2
theorem pas_twice (n : BitVec 64) (L : List Nr) : pasL n (pasL n L) = pasL n L := by
  unfold pasL
  cases MC.ule n
  · exact kept_twice n L
  · rfl
/-- What holds of a table's rows, whatever came. -/
structure Iv (own : BitVec 32) (q : Int) (f : BitVec 64) (S : List Nr) (now : BitVec 64) (L : List Nr) : Prop where
  so : sortB L = true
  le : (L.length : Int) ≤ q
  row : ∀ r ∈ L, othR own r.1 r.2.1 = true ∧ ∃ b, b < S.length ∧ (S.getD b (rz NF)).1 = r.1 ∧ (S.getD b (rz NF)).2.1 = r.2.1 ∧ r.2.2.1 = (S.getD b (rz NF)).2.2.1 + f
  up : ∀ b c, b ≤ c → c < S.length → (S.getD b (rz NF)).2.2.1.toNat ≤ (S.getD c (rz NF)).2.2.1.toNat
  nw : ∀ b, b < S.length → (S.getD b (rz NF)).2.2.1.toNat ≤ now.toNat
section
variable {own : BitVec 32} {q : Int} {f : BitVec 64} {S : List Nr} {now : BitVec 64} {L : List Nr}
theorem Iv.kp (h : Iv own q f S now L) (n : BitVec 64) : Iv own q f S now (kept n L) :=
  ⟨sort_kept n h.so, Int.le_trans (by exact_mod_cast kept_le n L) h.le, fun r hr => h.row r (kept_mem hr), h.up, h.nw⟩
theorem Iv.pas (h : Iv own q f S now L) (n : BitVec 64) : Iv own q f S now (pasL n L) := by
  unfold pasL
  cases MC.ule n
  · exact h.kp n
  · exact h
theorem Iv.later (h : Iv own q f S now L) {n : BitVec 64} (hn : now.toNat ≤ n.toNat) : Iv own q f S n L :=
  ⟨h.so, h.le, h.row, h.up, fun b hb => Nat.le_trans (h.nw b hb) hn⟩
theorem getD_app_l {α : Type} (z : α) (S : List α) (x : α) {b : Nat} (h : b < S.length) : (S ++ [x]).getD b z = S.getD b z := by
  rw [List.getD_eq_getElem?_getD, List.getD_eq_getElem?_getD, List.getElem?_append_left h]
theorem getD_app_r {α : Type} (z : α) (S : List α) (x : α) : (S ++ [x]).getD S.length z = x := by
  rw [List.getD_eq_getElem?_getD, List.getElem?_append_right (Nat.le_refl _), Nat.sub_self]; rfl
theorem Iv.say (h : Iv own q f S now L) (a : BitVec 32) (m : Tx) : Iv own q f (S ++ [(a, m, now, ())]) now L := by
  have hl : (S ++ [((a, m, now, ()) : Nr)]).length = S.length + 1 := by simp
  refine ⟨h.so, h.le, fun r hr => ?_, fun b c hbc hc => ?_, fun b hb => ?_⟩
  · obtain ⟨h1, b, h2, h3, h4, h5⟩ := h.row r hr
    refine ⟨h1, b, by omega, ?_⟩
    rw [getD_app_l _ S _ h2]
    exact ⟨h3, h4, h5⟩
  · rw [hl] at hc
    rcases Nat.lt_or_ge c S.length with k | k
    · rw [getD_app_l _ S _ k, getD_app_l _ S _ (Nat.lt_of_le_of_lt hbc k)]
      exact h.up b c hbc k
    · obtain rfl : c = S.length := by omega
      rw [getD_app_r]
      rcases Nat.lt_or_ge b S.length with j | j
      · rw [getD_app_l _ S _ j]; exact h.nw b j
      · obtain rfl : b = S.length := by omega
        rw [getD_app_r]; exact Nat.le_refl _
  · rw [hl] at hb
    rcases Nat.lt_or_ge b S.length with j | j
    · rw [getD_app_l _ S _ j]; exact h.nw b j
    · obtain rfl : b = S.length := by omega
      rw [getD_app_r]; exact Nat.le_refl _
theorem Iv.keep (h : Iv own q f S now L) {a : BitVec 32} {m : Tx} (ho : othR own a m = true) : Iv own q f (S ++ [(a, m, now, ())]) now (keepL q f a m now L) := by
  have hs := h.say a m
  refine ⟨keep_sort h.so, keep_len h.le, fun r hr => ?_, hs.up, hs.nw⟩
  rcases keep_mem hr with k | rfl
  · exact hs.row r k
  · refine ⟨ho, S.length, by simp, ?_⟩
    rw [getD_app_r]
    exact ⟨rfl, rfl, rfl⟩
theorem tk_oth {op : BitVec 16} {m z : Tx} {fa : BitVec 32} {n : BitVec 64} (h : tkOk own op m fa z n = true) : MC.ule n = false ∧ othR own fa m = true := by
  unfold tkOk at h
  simp only [Bool.and_eq_true, Bool.not_eq_true'] at h
  exact ⟨h.1, h.2.2⟩
theorem Iv.take (h : Iv own q f S now L) {op : BitVec 16} {m z : Tx} {fa ta : BitVec 32} (hk : tkOk own op m fa z now = true) : Iv own q f (S ++ [(fa, m, now, ())]) now (tkLp q f own op m fa z ta now L) := by
  obtain ⟨-, ho⟩ := tk_oth hk
  have h1 := h.kp now
  unfold tkLp tkL
  rw [hk]
  show Iv own q f _ now (bif ta == own then _ else _)
  cases ta == own
  · show Iv own q f _ now (bif isL fa (kept now L) then _ else _)
    cases isL fa (kept now L)
    · exact h1.say fa m
    · exact h1.keep ho
  · exact h1.keep ho
theorem Iv.took (h : Iv own q f S now L) {op : BitVec 16} {m z : Tx} {fa ta : BitVec 32} (hk : tkOk own op m fa z now = false) : Iv own q f S now (tkLp q f own op m fa z ta now L) := by
  unfold tkLp
  rw [hk]
  exact h.pas now
theorem Iv.learn (h : Iv own q f S now L) {a : BitVec 32} {m : Tx} (hk : lnE q own a m now L = 0) : Iv own q f (S ++ [(a, m, now, ())]) now (lnL q f own a m now L) := by
  unfold lnE at hk
  unfold lnL
  cases ho : lnOk own a m now
  · rw [ho] at hk; cases hk
  · unfold lnOk at ho
    rw [Bool.and_eq_true] at ho
    exact (h.kp now).keep ho.2
theorem Iv.learnt (h : Iv own q f S now L) {a : BitVec 32} {m : Tx} (hk : lnE q own a m now L ≠ 0) : Iv own q f S now (lnL q f own a m now L) := by
  unfold lnE at hk
  unfold lnL
  cases ho : lnOk own a m now
  · exact h.pas now
  · rw [ho] at hk
    replace hk : keepE q a (kept now L) ≠ 0 := hk
    show Iv own q f S now (keepL q f a m now (kept now L))
    unfold keepE at hk
    unfold keepL
    cases hi : isL a (kept now L)
    · rw [hi] at hk
      cases hq : ile q ((kept now L).length : Int)
      · rw [hq] at hk; exact absurd rfl hk
      · exact h.kp now
    · rw [hi] at hk; exact absurd rfl hk
end
/-- The last of those before b that says so. -/
def lastI (S : List Nr) (a : BitVec 32) (m : Tx) : Nat → Int
  | 0 => -1
  | b + 1 => bif (S.getD b (rz NF)).1 == a && (S.getD b (rz NF)).2.1 == m then (b : Nat) else lastI S a m b
theorem lastI_is {S : List Nr} {a : BitVec 32} {m : Tx} {b0 : Nat} (h1 : (S.getD b0 (rz NF)).1 = a) (h2 : (S.getD b0 (rz NF)).2.1 = m) : ∀ B, b0 < B → ∃ c : Nat, lastI S a m B = (c : Nat) ∧ b0 ≤ c ∧ c < B
  | 0, h => absurd h (by omega)
  | B + 1, h => by
    unfold lastI
    cases hb : (S.getD B (rz NF)).1 == a && (S.getD B (rz NF)).2.1 == m
    · rcases Nat.lt_or_ge b0 B with k | k
      · obtain ⟨c, e1, e2, e3⟩ := lastI_is h1 h2 B k
        exact ⟨c, e1, e2, by omega⟩
      · obtain rfl : b0 = B := by omega
        rw [h1, h2, beq_self_eq_true, beq_self_eq_true] at hb
        cases hb
    · exact ⟨B, rfl, by omega, by omega⟩
theorem oth_split {own a : BitVec 32} {m : Tx} (h : othR own a m = true) : aloneM m = true ∧ (a == own) = false := by
  unfold othR at h
  simp only [Bool.and_eq_true] at h
  refine ⟨h.2.1, ?_⟩
  have := h.2.2
  cases hb : a == own
  · rfl
  · rw [bne, hb] at this; cases this
/-- What is looked up of one who is near. -/
theorem look_self {L : List Nr} {now : BitVec 64} (hs : sortB L = true) (hk : kept now L = L) (hm : MC.ule now = false) {k : Nat} (hi : k < L.length) : lkE (L.getD k (rz NF)).1 now L = 0 ∧ lkT (L.getD k (rz NF)).1 now L = (L.getD k (rz NF)).2.1 := by
  have h1 := is_self hi
  have h2 := cnt_self hs hi
  constructor
  · unfold lkE
    rw [hk, hm, h1]; rfl
  · unfold lkT lkB
    rw [hk, hm, h1, h2]; rfl
/-- The last who said so said it less than a life ago. -/
theorem last_ok {own : BitVec 32} {q : Int} {f : BitVec 64} {S : List Nr} {now : BitVec 64} {L : List Nr} (h : Iv own q f S now L) (hk : kept now L = L) (hn : now.toNat + f.toNat < 18446744073709551616) {k : Nat} (hi : k < L.length) : ∃ c : Nat, lastI S (L.getD k (rz NF)).1 (L.getD k (rz NF)).2.1 S.length = (c : Nat) ∧ c < S.length ∧ ((S.getD c (rz NF)).2.2.1 + f).ule now = false := by
  have hm := getD_mem (rz NF) hi
  obtain ⟨h1, b, h2, h3, h4, h5⟩ := h.row _ hm
  obtain ⟨c, e1, e2, e3⟩ := lastI_is h3 h4 S.length h2
  refine ⟨c, e1, e3, ?_⟩
  have hd : del now (L.getD k (rz NF)) = false := by
    have : L.getD k (rz NF) ∈ kept now L := by rw [hk]; exact hm
    have := (List.mem_filter.1 this).2
    cases hx : del now (L.getD k (rz NF))
    · rfl
    · rw [hx] at this; cases this
  unfold del at hd
  rw [h5] at hd
  have u1 := h.up b c e2 e3
  have u2 := h.nw c e3
  have u3 := h.nw b h2
  rw [BitVec.ule, decide_eq_false_iff_not] at hd ⊢
  rw [BitVec.toNat_add, Nat.mod_eq_of_lt (by omega)] at hd ⊢
  omega
end Go.Proofs.YtedcileokcbohaaDoor
