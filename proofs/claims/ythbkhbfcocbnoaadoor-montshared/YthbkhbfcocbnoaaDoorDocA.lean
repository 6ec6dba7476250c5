/-
  The document's points (pharosref08): laws for numbers in memory; twice. No statement is proved here.
-/
import Derived.Test.YthbkhbfcocbnoaaDoorRedI
import Derived.Test.YthbkhbfcocbnoaaDoorMonL
import Derived.Deep.MidRow
namespace Go.Proofs.YthbkhbfcocbnoaaDoor
open Go.RowKit Go.Lib Go.BigFrame
set_option linter.unusedVariables false
set_option linter.unusedSimpArgs false
set_option maxRecDepth 1000000
set_option maxHeartbeats 4000000

/-- A number of the document's, in memory. -/
def NR (V : World) (b o v : Nat) : Prop := V.rangeAt b o ((dts v).map fun x => Value.int .u64 ((x : Nat) : Int))
theorem NR.fr {V V' : World} {b o v : Nat} (h : NR V b o v) (hF : Fr [] V V') : NR V' b o v := fun j u hu => hF.cell (h j u hu) (by simp)
theorem NR.alloc {V : World} {b o v : Nat} (h : NR V b o v) (x : Obj) : NR (V.alloc x) b o v := h.fr ((Fr.refl [] V).alloc x)
theorem NR.setRow_other {V : World} {b b' o v : Nat} (h : NR V b o v) (hne : b ≠ b') (c : Array Value) : NR (V.setRow b' c) b o v := fun j u hu => by
  have := h j u hu
  unfold World.cell? at this ⊢
  rw [Go.setRow_other V b' b c hne]
  exact this
theorem NR.row {V : World} {b t v : Nat} (h : RW V b t (dts v)) : NR V b 0 v := fun j u hu => by
  rw [Nat.zero_add]
  exact cell_of_heap h (by simpa [wc] using hu)
/-- A point of the document's, by value and in memory. -/
def pn (A B : Nat) : Value := .agg (wc (dts A ++ dts B))
def PT (V : World) (b A B : Nat) : Prop := V.heap[b]? = some (.cells (wc (dts A ++ dts B)) 66)
theorem PT.x {V : World} {b A B : Nat} (h : PT V b A B) : NR V b 0 A := fun j u hu => by
  rw [Nat.zero_add]
  refine cell_of_heap h ?_
  have hj : j < (dts A).length := by
    rcases Nat.lt_or_ge j (dts A).length with k | k
    · exact k
    · rw [List.getElem?_eq_none (by simpa using k)] at hu; cases hu
  simp only [wc, List.getElem?_toArray, List.map_append]
  rw [List.getElem?_append_left (by simpa using hj)]
  exact hu
theorem PT.z {V : World} {b A B : Nat} (h : PT V b A B) : NR V b 9 B := fun j u hu => by
  refine cell_of_heap h ?_
  simp only [wc, List.getElem?_toArray, List.map_append]
  rw [List.getElem?_append_right (by simp [dts_len]), List.length_map, dts_len, Nat.add_sub_cancel_left]
  exact hu
theorem PT.fr {V V' : World} {b A B : Nat} (h : PT V b A B) (hF : Fr [] V V') : PT V' b A B := hF.heap h (by simp)
theorem PT.alloc {V : World} {b A B : Nat} (h : PT V b A B) (x : Obj) : PT (V.alloc x) b A B := h.fr ((Fr.refl [] V).alloc x)
theorem PT.setRow_other {V : World} {b b' A B : Nat} (h : PT V b A B) (hne : b ≠ b') (c : Array Value) : PT (V.setRow b' c) b A B := by
  unfold PT
  rw [Go.setRow_other V b' b c hne]; exact h
theorem PT.lt {V : World} {b A B : Nat} (h : PT V b A B) : b < V.heap.size := lt_of_heap h
theorem PT.range {V : World} {b A B : Nat} (h : PT V b A B) : V.rangeAt b 0 ((dts A ++ dts B).map fun x => Value.int .u64 ((x : Nat) : Int)) := fun j u hu => by
  rw [Nat.zero_add]
  exact cell_of_heap h (by simpa [wc] using hu)
theorem info66 : (Tryd.prog.info? 66).map (·.size) = some 18 := by kernel_rfl
theorem wc18 (A B : Nat) : (wc (dts A ++ dts B)).size = 18 := by rw [wc_size, List.length_append, dts_len, dts_len]
theorem nd_load {V : World} {b o v : Nat} (h : NR V b o v) : (Instr.loadAt 35 (.pointer (some ⟨b, o, none⟩))).run Tryd.prog V = .ok (nd v) V :=
  run_loadAt_mid V b o 35 _ (.array 9 33) h (by kernel_rfl) rfl (by rw [List.length_map, dts_len]; exact info36)
theorem pn_load {V : World} {b A B : Nat} (h : PT V b A B) : (Instr.loadAt 66 (.pointer (some ⟨b, 0, none⟩))).run Tryd.prog V = .ok (pn A B) V :=
  run_loadAt_mid V b 0 66 _ _ h.range Tryd.underlying66 rfl (by rw [List.length_map, List.length_append, dts_len, dts_len]; exact info66)
theorem pn_loadVar {V : World} {b A B : Nat} (h : PT V b A B) : (loadVar 66 ⟨b, 0, none⟩).run Tryd.prog V = .ok (pn A B) V :=
  run_loadVar_mid V b 0 66 _ _ h.range Tryd.underlying66 rfl (by rw [List.length_map, List.length_append, dts_len, dts_len]; exact info66)
theorem results_cell66 {fn : Func} {tmps : Array Value} {k b : Nat} {v : Value} {W : World} (hr : fn.results = #[.cell k 66]) (ht : tmps.getD k undef = .pointer (some ⟨b, 0, none⟩)) (hl : (loadVar 66 ⟨b, 0, none⟩).run Tryd.prog W = .ok v W) : (results fn tmps).run Tryd.prog W = .ok v W := by
  unfold results
  rw [hr]
  rw [Array.getD_eq_getD_getElem?] at ht
  simp [ht, asAddr, hl]
section
variable {w : World} {ops : Array Oper} {rest : List Oper} {o : Oper} {a : Act} {Q : Exit → Act → World → Prop}
theorem wpList_load_nd (hgd : o.guard = none) (x : Operand) (ho : o.op = .load 35 x) (b k v : Nat) (hx : a.eval x = .pointer (some ⟨b, k, none⟩)) (hN : NR w b k v)
    (h : wpList Tryd.prog ops Q rest (a.put o.dst (nd v)) w) : wpList Tryd.prog ops Q (o :: rest) a w := by
  refine wpList_plain hgd fun K hK => ?_
  unfold Oper.wp execOp
  simp only [ho, hx, Sem.run_bind, nd_load hN, Result.andThen_ok, Sem.run_pure]
  exact hK _ _ h
theorem wpList_load_pn (hgd : o.guard = none) (x : Operand) (ho : o.op = .load 66 x) (b A B : Nat) (hx : a.eval x = .pointer (some ⟨b, 0, none⟩)) (hN : PT w b A B)
    (h : wpList Tryd.prog ops Q rest (a.put o.dst (pn A B)) w) : wpList Tryd.prog ops Q (o :: rest) a w := by
  refine wpList_plain hgd fun K hK => ?_
  unfold Oper.wp execOp
  simp only [ho, hx, Sem.run_bind, pn_load hN, Result.andThen_ok, Sem.run_pure]
  exact hK _ _ h
theorem wpList_store_pn (hgd : o.guard = none) (x y : Operand) (ho : o.op = .store 66 x y) (g A B : Nat) (old : Array Value) (t : Nat) (hx : a.eval x = .pointer (some ⟨g, 0, none⟩)) (hy : a.eval y = pn A B) (hg : w.heap[g]? = some (.cells old t)) (hold : old.size = 18)
    (h : wpList Tryd.prog ops Q rest (a.put o.dst undef) (w.setRow g (wc (dts A ++ dts B)))) : wpList Tryd.prog ops Q (o :: rest) a w :=
  wpList_store_row hgd 66 x y ho g (wc (dts A ++ dts B)) hx hy t old hg (by rw [wc18]; exact info66) (by rw [wc18, hold]) (wc_one _) h
theorem wp_store_pn {K : Act → World → Prop} (x y : Operand) (ho : o.op = .store 66 x y) (g A B : Nat) (old : Array Value) (t : Nat) (hx : a.eval x = .pointer (some ⟨g, 0, none⟩)) (hy : a.eval y = pn A B) (hg : w.heap[g]? = some (.cells old t)) (hold : old.size = 18)
    (h : K (a.put o.dst undef) (w.setRow g (wc (dts A ++ dts B)))) : o.wp Tryd.prog a w K Q :=
  wp_store_row 66 x y ho g (wc (dts A ++ dts B)) hx hy t old hg (by rw [wc18]; exact info66) (by rw [wc18, hold]) (wc_one _) h
end
section
variable {ops : Array Oper} {C : World → Prop} {Q : Act → Prop} {a : Act} {o : Oper} {rest : List Oper}
theorem wpQuiet_load_nd (hg : o.guard = none) (x : Operand) (ho : o.op = .load 35 x) (b k v : Nat) (hx : a.eval x = .pointer (some ⟨b, k, none⟩)) (hC : ∀ w, C w → NR w b k v)
    (h : wpQuiet Tryd.prog ops C Q rest (a.put o.dst (nd v))) : wpQuiet Tryd.prog ops C Q (o :: rest) a := by
  show if _ then _ else _
  have hw : Region.wanted o (yielded ops a.tmps) = true := by unfold Region.wanted; simp [hg]
  rw [if_pos hw]
  refine ⟨nd v, fun w hw => ?_, h⟩
  unfold Oper.quietAt execOp
  simp only [ho, hx, Sem.run_bind, nd_load (hC w hw), Result.andThen_ok, Sem.run_pure]
  exact ⟨rfl, rfl⟩
theorem build_pn (A B : Nat) (W : World) : (Instr.build 66 #[(0, nd A), (1, nd B)]).run Tryd.prog W = .ok (pn A B) W := by
  obtain ⟨a0, a1, a2, a3, a4, a5, a6, a7, a8, ea, wa⟩ := nd_open A
  obtain ⟨b0, b1, b2, b3, b4, b5, b6, b7, b8, eb, wb⟩ := nd_open B
  unfold pn
  rw [wa, wb, ea, eb]
  kernel_rfl
theorem wpQuiet_build_pn (hg : o.guard = none) (x y : Operand) (ho : o.op = .build 66 #[(0, x), (1, y)]) (A B : Nat) (hx : a.eval x = nd A) (hy : a.eval y = nd B)
    (h : wpQuiet Tryd.prog ops C Q rest (a.put o.dst (pn A B))) : wpQuiet Tryd.prog ops C Q (o :: rest) a := by
  show if _ then _ else _
  have hw : Region.wanted o (yielded ops a.tmps) = true := by unfold Region.wanted; simp [hg]
  rw [if_pos hw]
  refine ⟨pn A B, fun w hw => ?_, h⟩
  have e : (#[(0, x), (1, y)] : Array (Nat × Operand)).map (fun (i, x) => (i, a.eval x)) = #[(0, nd A), (1, nd B)] := by
    rw [← hx, ← hy]; simp
  unfold Oper.quietAt execOp
  simp only [ho]
  rw [e]
  simp only [Sem.run_bind, build_pn, Result.andThen_ok, Sem.run_pure]
  exact ⟨rfl, rfl⟩
end
theorem radd_ad (A B : Nat) (hA : A < Nt.P) (hB : B < Nt.P) (w : World) : Calls Tryd.prog 48 #[nd A, nd B] w fun e w' => e = .returned (nd (ad A B)) ∧ Fr [] w w' := radd_any A B (big_lt hA) (big_lt hB) (sum_K19 (Nat.le_of_lt hA) (Nat.le_of_lt hB)) w
theorem rsub_sb (A B : Nat) (hA : A < Nt.P) (hB : B < Nt.P) (w : World) : Calls Tryd.prog 47 #[nd A, nd B] w fun e w' => e = .returned (nd (sb A B)) ∧ Fr [] w w' := rsub_any A B hA hB w
theorem rmul_mq (A B : Nat) (hA : A < Nt.P) (hB : B < Nt.P) (w : World) : Calls Tryd.prog 35 #[nd A, nd B] w fun e w' => e = .returned (nd (mq A B)) ∧ Fr [] w w' := rmul_any A B (big_lt hA) (big_lt hB) (prod_K19 (lt4 hA) (lt4 hB)) w
theorem mq_comm (a b : Nat) : mq a b = mq b a := by unfold mq; rw [Nat.mul_comm]
end Go.Proofs.YthbkhbfcocbnoaaDoor
