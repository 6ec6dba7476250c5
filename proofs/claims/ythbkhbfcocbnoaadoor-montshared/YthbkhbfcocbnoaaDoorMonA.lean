/-
  Package mont: square, ends; a ladder in memory. No statement is proved here.
-/
import Derived.Test.YthbkhbfcocbnoaaDoorNumN
import Derived.Test.YthbkhbfcocbnoaaDoorTail
namespace Go.Proofs.YthbkhbfcocbnoaaDoor
open Go.RowKit Go.Lib Go.BigFrame
set_option linter.unusedVariables false
set_option linter.unusedSimpArgs false
set_option maxRecDepth 1000000
set_option maxHeartbeats 4000000

def ad (a b : Nat) : Nat := (a + b) % Nt.P
def sb (a b : Nat) : Nat := (a + Nt.P - b) % Nt.P
def mq (a b : Nat) : Nat := a * b % Nt.P
theorem ad_lt (a b : Nat) : ad a b < Nt.P := Nat.mod_lt _ P_pos
theorem sb_lt (a b : Nat) : sb a b < Nt.P := Nat.mod_lt _ P_pos
theorem ml_lt (a b : Nat) : mq a b < Nt.P := Nat.mod_lt _ P_pos
/-- The cells of a number. -/
def c4 (v : Nat) : List Value := match wd v with
  | .agg c => c.toList
  | _ => []
theorem c4_of {v a0 a1 a2 a3 : Nat} (h : wd v = .agg #[.int .u64 (a0 : Nat), .int .u64 (a1 : Nat), .int .u64 (a2 : Nat), .int .u64 (a3 : Nat)]) : c4 v = [.int .u64 (a0 : Nat), .int .u64 (a1 : Nat), .int .u64 (a2 : Nat), .int .u64 (a3 : Nat)] := by unfold c4; rw [h]
/-- A point, by value. -/
def pv (a b : Nat) : Value := .agg (c4 a ++ c4 b).toArray
theorem pv_of {v u a0 a1 a2 a3 b0 b1 b2 b3 : Nat} (h : wd v = .agg #[.int .u64 (a0 : Nat), .int .u64 (a1 : Nat), .int .u64 (a2 : Nat), .int .u64 (a3 : Nat)]) (k : wd u = .agg #[.int .u64 (b0 : Nat), .int .u64 (b1 : Nat), .int .u64 (b2 : Nat), .int .u64 (b3 : Nat)]) : pv v u = .agg #[.int .u64 (a0 : Nat), .int .u64 (a1 : Nat), .int .u64 (a2 : Nat), .int .u64 (a3 : Nat), .int .u64 (b0 : Nat), .int .u64 (b1 : Nat), .int .u64 (b2 : Nat), .int .u64 (b3 : Nat)] := by unfold pv; rw [c4_of h, c4_of k]; rfl
theorem add_ad (a b : Nat) (ha : a < Nt.P) (hb : b < Nt.P) (w : World) (hP : PV w) : Calls Tryd.prog 56 #[wd a, wd b] w fun e w' => e = .returned (wd (ad a b)) ∧ Fr [] w w' := add_any a b ha hb w hP
theorem sub_sb (a b : Nat) (ha : a < Nt.P) (hb : b < Nt.P) (w : World) (hP : PV w) : Calls Tryd.prog 57 #[wd a, wd b] w fun e w' => e = .returned (wd (sb a b)) ∧ Fr [] w w' := sub_any a b ha hb w hP
theorem mul_ml (a b : Nat) (ha : a < Nt.P) (hb : b < Nt.P) (w : World) (hP : PV w) : Calls Tryd.prog 27 #[wd a, wd b] w fun e w' => e = .returned (wd (mq a b)) ∧ Fr [] w w' := mul_any a b (lt4 ha) (lt4 hb) w hP
theorem square_any (a : Nat) (ha : a < Nt.P) (w : World) (hP : PV w) : Calls Tryd.prog 55 #[wd a] w fun e w' => e = .returned (wd (mq a a)) ∧ Fr [] w w' := by
  have hP2 := hid (p := _) hP
  have K := fun W hW => mul_ml a a ha ha W hW
  obtain ⟨a0, a1, a2, a3, -, -, -, -, -, wa⟩ := wd_open a (lt4 ha)
  obtain ⟨c0, c1, c2, c3, -, -, -, -, -, wc⟩ := wd_open (mq a a) (lt4 (ml_lt _ _))
  rw [wa, wc] at K
  rw [wa, wc]
  have H := hid (p := _) K
  clear K wa wc hP
  go_enter Tryd.func55, Tryd.ntmps55
  go_wp2_with (go_at_call 27; with_reducible refine (H.out _ (hP2.out.fr (((Fr.refl [] w).alloc _).alloc _))).mono ?_; rintro e V ⟨rfl, hF⟩; have A := (L4.new1 w _ 43 _ _ _ _).fr hF; have F := (((Fr.refl [] w).alloc _).alloc _).trans0 hF; obtain ⟨_, _, _, _, _, _, _, _, _, _⟩ := A.all; clear hF)
  simp [bodyPost, results, Tryd.results55, go_sem, *]
  exact F.set4 (by omega) _ _ _ _
/-- Eight cells of a variable in a block of its own. -/
def L8 (V : World) (b t : Nat) (v0 v1 v2 v3 v4 v5 v6 v7 : Value) : Prop := V.heap[b]? = some (.cells #[v0, v1, v2, v3, v4, v5, v6, v7] t)
section
variable {V V' : World} {b t : Nat} {v0 v1 v2 v3 v4 v5 v6 v7 : Value}
theorem L8.all (h : L8 V b t v0 v1 v2 v3 v4 v5 v6 v7) : V.cell? ⟨b, 0, none⟩ = some v0 ∧ V.cell? ⟨b, 1, none⟩ = some v1 ∧ V.cell? ⟨b, 2, none⟩ = some v2 ∧ V.cell? ⟨b, 3, none⟩ = some v3 ∧ V.cell? ⟨b, 4, none⟩ = some v4 ∧ V.cell? ⟨b, 5, none⟩ = some v5 ∧ V.cell? ⟨b, 6, none⟩ = some v6 ∧ V.cell? ⟨b, 7, none⟩ = some v7 ∧ V.frozen? ⟨b, 0, none⟩ = false ∧ V.frozen? ⟨b, 1, none⟩ = false ∧ V.frozen? ⟨b, 2, none⟩ = false ∧ V.frozen? ⟨b, 3, none⟩ = false ∧ V.frozen? ⟨b, 4, none⟩ = false ∧ V.frozen? ⟨b, 5, none⟩ = false ∧ V.frozen? ⟨b, 6, none⟩ = false ∧ V.frozen? ⟨b, 7, none⟩ = false ∧ b < V.heap.size ∧ b ≠ V.heap.size :=
  ⟨cell_of_heap h rfl, cell_of_heap h rfl, cell_of_heap h rfl, cell_of_heap h rfl, cell_of_heap h rfl, cell_of_heap h rfl, cell_of_heap h rfl, cell_of_heap h rfl, frozen_of_heap h, frozen_of_heap h, frozen_of_heap h, frozen_of_heap h, frozen_of_heap h, frozen_of_heap h, frozen_of_heap h, frozen_of_heap h, lt_of_heap h, by have := lt_of_heap h; omega⟩
theorem L8.fr (h : L8 V b t v0 v1 v2 v3 v4 v5 v6 v7) (hF : Fr [] V V') : L8 V' b t v0 v1 v2 v3 v4 v5 v6 v7 := hF.heap h (by simp)
theorem L8.alloc (h : L8 V b t v0 v1 v2 v3 v4 v5 v6 v7) (o : Obj) : L8 (V.alloc o) b t v0 v1 v2 v3 v4 v5 v6 v7 := h.fr ((Fr.refl [] V).alloc o)
theorem L8.new (V : World) (t : Nat) (v0 v1 v2 v3 v4 v5 v6 v7 : Value) : L8 (V.alloc (.cells #[v0, v1, v2, v3, v4, v5, v6, v7] t)) V.heap.size t v0 v1 v2 v3 v4 v5 v6 v7 := (MapKept.heap_alloc V _).1
end
theorem ends_any (a b : Nat) (ha : a < Nt.P) (hb : b < Nt.P) (w : World) (hP : PV w) : Calls Tryd.prog 54 #[pv a b] w fun e w' => e = .returned (.tuple #[wd (ad a b), wd (sb a b)]) ∧ Fr [] w w' := by
  have hP2 := hid (p := _) hP
  have K1 := fun W hW => add_ad a b ha hb W hW
  have K2 := fun W hW => sub_sb a b ha hb W hW
  obtain ⟨a0, a1, a2, a3, -, -, -, -, -, wa⟩ := wd_open a (lt4 ha)
  obtain ⟨b0, b1, b2, b3, -, -, -, -, -, wb⟩ := wd_open b (lt4 hb)
  obtain ⟨c0, c1, c2, c3, -, -, -, -, -, wc⟩ := wd_open (ad a b) (lt4 (ad_lt _ _))
  obtain ⟨e0, e1, e2, e3, -, -, -, -, -, we⟩ := wd_open (sb a b) (lt4 (sb_lt _ _))
  rw [pv_of wa wb, wc, we]
  rw [wa, wb, wc] at K1
  rw [wa, wb, we] at K2
  have H1 := hid (p := _) K1
  have H2 := hid (p := _) K2
  clear K1 K2 wa wb wc we hP ha hb
  go_enter Tryd.func54, Tryd.ntmps54
  go_wp2_with fail
  have F0 := hid (p := _) ((((Fr.refl [] w).alloc (.cells #[.int .u64 (a0 : Nat), .int .u64 (a1 : Nat), .int .u64 (a2 : Nat), .int .u64 (a3 : Nat), .int .u64 (b0 : Nat), .int .u64 (b1 : Nat), .int .u64 (b2 : Nat), .int .u64 (b3 : Nat)] 55)).alloc (.cells #[.int .u64 0, .int .u64 0, .int .u64 0, .int .u64 0] 43)).alloc (.cells #[.int .u64 0, .int .u64 0, .int .u64 0, .int .u64 0] 43))
  have A0 := ((L8.new w 55 (.int .u64 (a0 : Nat)) (.int .u64 (a1 : Nat)) (.int .u64 (a2 : Nat)) (.int .u64 (a3 : Nat)) (.int .u64 (b0 : Nat)) (.int .u64 (b1 : Nat)) (.int .u64 (b2 : Nat)) (.int .u64 (b3 : Nat))).alloc (.cells #[.int .u64 0, .int .u64 0, .int .u64 0, .int .u64 0] 43)).alloc (.cells #[.int .u64 0, .int .u64 0, .int .u64 0, .int .u64 0] 43)
  have B0 := (L4.new1 w (.cells #[.int .u64 (a0 : Nat), .int .u64 (a1 : Nat), .int .u64 (a2 : Nat), .int .u64 (a3 : Nat), .int .u64 (b0 : Nat), .int .u64 (b1 : Nat), .int .u64 (b2 : Nat), .int .u64 (b3 : Nat)] 55) 43 (.int .u64 0) (.int .u64 0) (.int .u64 0) (.int .u64 0)).alloc (.cells #[.int .u64 0, .int .u64 0, .int .u64 0, .int .u64 0] 43)
  have C0 := L4.new2 w (.cells #[.int .u64 (a0 : Nat), .int .u64 (a1 : Nat), .int .u64 (a2 : Nat), .int .u64 (a3 : Nat), .int .u64 (b0 : Nat), .int .u64 (b1 : Nat), .int .u64 (b2 : Nat), .int .u64 (b3 : Nat)] 55) (.cells #[.int .u64 0, .int .u64 0, .int .u64 0, .int .u64 0] 43) 43 (.int .u64 0) (.int .u64 0) (.int .u64 0) (.int .u64 0)
  generalize ((w.alloc (.cells #[.int .u64 (a0 : Nat), .int .u64 (a1 : Nat), .int .u64 (a2 : Nat), .int .u64 (a3 : Nat), .int .u64 (b0 : Nat), .int .u64 (b1 : Nat), .int .u64 (b2 : Nat), .int .u64 (b3 : Nat)] 55)).alloc (.cells #[.int .u64 0, .int .u64 0, .int .u64 0, .int .u64 0] 43)).alloc (.cells #[.int .u64 0, .int .u64 0, .int .u64 0, .int .u64 0] 43) = U at *
  obtain ⟨_, _, _, _, _, _, _, _, _, _, _, _, _, _, _, _, _, _⟩ := A0.all
  obtain ⟨_, _, _, _, _, _, _, _, _, _⟩ := B0.all
  obtain ⟨_, _, _, _, _, _, _, _, _, _⟩ := C0.all
  refine wp_region_tail_ext [_, _, _, _, _, _, _, _, _, _] [_, _] (by simp) (by kernel_rfl) (by kernel_rfl) (by kernel_rfl) (by kernel_rfl) (by kernel_rfl) ?_
  simp only [List.cons_append, List.nil_append, List.map_cons, List.map_nil, idle]
  repeat (go_big_quiet_step (first | with_reducible exact Calls.ext_of (H1.out _ (hP2.out.fr (F0.out.ext _))) | with_reducible exact Calls.ext_of (H2.out _ (hP2.out.fr (F0.out.ext _)))))
  refine wpQuiet_nil ?_
  rintro _ ⟨xq, rfl⟩
  have F1 := F0.out.ext xq
  simp only [tailWp]
  go_simp
  go_wp2
  simp [bodyPost, results, Tryd.results54, go_sem, *]
  exact (F1.set4 (by omega) _ _ _ _).set4 (by omega) _ _ _ _
end Go.Proofs.YthbkhbfcocbnoaaDoor
