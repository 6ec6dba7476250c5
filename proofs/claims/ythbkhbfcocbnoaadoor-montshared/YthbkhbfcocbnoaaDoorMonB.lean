/-
  Package mont: a ladder in memory; double. No statement is proved here.
-/
import Derived.Test.YthbkhbfcocbnoaaDoorMonA
namespace Go.Proofs.YthbkhbfcocbnoaaDoor
open Go.RowKit Go.Lib Go.BigFrame
set_option linter.unusedVariables false
set_option linter.unusedSimpArgs false
set_option maxRecDepth 1000000
set_option maxHeartbeats 4000000

/-- The cells of a ladder: x, the low point, the high one, whether they stand turned. -/
def lc (X A B C E t : Nat) : Array Value := (c4 X ++ c4 A ++ c4 B ++ c4 C ++ c4 E ++ [Value.int .u8 ((t : Nat) : Int)]).toArray
def LD (V : World) (b X A B C E t : Nat) : Prop := V.heap[b]? = some (.cells (lc X A B C E t) 57)
def lv (X A B C E t : Nat) : Value := .agg (lc X A B C E t)
/-- The same with its words. -/
def L21 (V : World) (b' x0 x1 x2 x3 a0 a1 a2 a3 b0 b1 b2 b3 c0 c1 c2 c3 e0 e1 e2 e3 tt : Nat) : Prop := V.heap[b']? = some (.cells #[.int .u64 (x0 : Nat), .int .u64 (x1 : Nat), .int .u64 (x2 : Nat), .int .u64 (x3 : Nat), .int .u64 (a0 : Nat), .int .u64 (a1 : Nat), .int .u64 (a2 : Nat), .int .u64 (a3 : Nat), .int .u64 (b0 : Nat), .int .u64 (b1 : Nat), .int .u64 (b2 : Nat), .int .u64 (b3 : Nat), .int .u64 (c0 : Nat), .int .u64 (c1 : Nat), .int .u64 (c2 : Nat), .int .u64 (c3 : Nat), .int .u64 (e0 : Nat), .int .u64 (e1 : Nat), .int .u64 (e2 : Nat), .int .u64 (e3 : Nat), .int .u8 (tt : Nat)] 57)
theorem lc_of {X A B C E tt x0 x1 x2 x3 a0 a1 a2 a3 b0 b1 b2 b3 c0 c1 c2 c3 e0 e1 e2 e3 : Nat} (hX : wd X = .agg #[.int .u64 (x0 : Nat), .int .u64 (x1 : Nat), .int .u64 (x2 : Nat), .int .u64 (x3 : Nat)]) (hA : wd A = .agg #[.int .u64 (a0 : Nat), .int .u64 (a1 : Nat), .int .u64 (a2 : Nat), .int .u64 (a3 : Nat)]) (hB : wd B = .agg #[.int .u64 (b0 : Nat), .int .u64 (b1 : Nat), .int .u64 (b2 : Nat), .int .u64 (b3 : Nat)]) (hC : wd C = .agg #[.int .u64 (c0 : Nat), .int .u64 (c1 : Nat), .int .u64 (c2 : Nat), .int .u64 (c3 : Nat)]) (hE : wd E = .agg #[.int .u64 (e0 : Nat), .int .u64 (e1 : Nat), .int .u64 (e2 : Nat), .int .u64 (e3 : Nat)]) : lc X A B C E tt = #[.int .u64 (x0 : Nat), .int .u64 (x1 : Nat), .int .u64 (x2 : Nat), .int .u64 (x3 : Nat), .int .u64 (a0 : Nat), .int .u64 (a1 : Nat), .int .u64 (a2 : Nat), .int .u64 (a3 : Nat), .int .u64 (b0 : Nat), .int .u64 (b1 : Nat), .int .u64 (b2 : Nat), .int .u64 (b3 : Nat), .int .u64 (c0 : Nat), .int .u64 (c1 : Nat), .int .u64 (c2 : Nat), .int .u64 (c3 : Nat), .int .u64 (e0 : Nat), .int .u64 (e1 : Nat), .int .u64 (e2 : Nat), .int .u64 (e3 : Nat), .int .u8 (tt : Nat)] := by
  unfold lc; rw [c4_of hX, c4_of hA, c4_of hB, c4_of hC, c4_of hE]; rfl
section
variable {V V' : World} {b' x0 x1 x2 x3 a0 a1 a2 a3 b0 b1 b2 b3 c0 c1 c2 c3 e0 e1 e2 e3 tt : Nat}
theorem L21.low (h : L21 V b' x0 x1 x2 x3 a0 a1 a2 a3 b0 b1 b2 b3 c0 c1 c2 c3 e0 e1 e2 e3 tt) : V.cell? ⟨b', 4, none⟩ = some (.int .u64 (a0 : Nat)) ∧ V.cell? ⟨b', 5, none⟩ = some (.int .u64 (a1 : Nat)) ∧ V.cell? ⟨b', 6, none⟩ = some (.int .u64 (a2 : Nat)) ∧ V.cell? ⟨b', 7, none⟩ = some (.int .u64 (a3 : Nat)) ∧ V.cell? ⟨b', 8, none⟩ = some (.int .u64 (b0 : Nat)) ∧ V.cell? ⟨b', 9, none⟩ = some (.int .u64 (b1 : Nat)) ∧ V.cell? ⟨b', 10, none⟩ = some (.int .u64 (b2 : Nat)) ∧ V.cell? ⟨b', 11, none⟩ = some (.int .u64 (b3 : Nat)) ∧ V.frozen? ⟨b', 4, none⟩ = false ∧ V.frozen? ⟨b', 5, none⟩ = false ∧ V.frozen? ⟨b', 6, none⟩ = false ∧ V.frozen? ⟨b', 7, none⟩ = false ∧ V.frozen? ⟨b', 8, none⟩ = false ∧ V.frozen? ⟨b', 9, none⟩ = false ∧ V.frozen? ⟨b', 10, none⟩ = false ∧ V.frozen? ⟨b', 11, none⟩ = false := ⟨cell_of_heap h rfl, cell_of_heap h rfl, cell_of_heap h rfl, cell_of_heap h rfl, cell_of_heap h rfl, cell_of_heap h rfl, cell_of_heap h rfl, cell_of_heap h rfl, frozen_of_heap h, frozen_of_heap h, frozen_of_heap h, frozen_of_heap h, frozen_of_heap h, frozen_of_heap h, frozen_of_heap h, frozen_of_heap h⟩
theorem L21.high (h : L21 V b' x0 x1 x2 x3 a0 a1 a2 a3 b0 b1 b2 b3 c0 c1 c2 c3 e0 e1 e2 e3 tt) : V.cell? ⟨b', 12, none⟩ = some (.int .u64 (c0 : Nat)) ∧ V.cell? ⟨b', 13, none⟩ = some (.int .u64 (c1 : Nat)) ∧ V.cell? ⟨b', 14, none⟩ = some (.int .u64 (c2 : Nat)) ∧ V.cell? ⟨b', 15, none⟩ = some (.int .u64 (c3 : Nat)) ∧ V.cell? ⟨b', 16, none⟩ = some (.int .u64 (e0 : Nat)) ∧ V.cell? ⟨b', 17, none⟩ = some (.int .u64 (e1 : Nat)) ∧ V.cell? ⟨b', 18, none⟩ = some (.int .u64 (e2 : Nat)) ∧ V.cell? ⟨b', 19, none⟩ = some (.int .u64 (e3 : Nat)) ∧ V.frozen? ⟨b', 12, none⟩ = false ∧ V.frozen? ⟨b', 13, none⟩ = false ∧ V.frozen? ⟨b', 14, none⟩ = false ∧ V.frozen? ⟨b', 15, none⟩ = false ∧ V.frozen? ⟨b', 16, none⟩ = false ∧ V.frozen? ⟨b', 17, none⟩ = false ∧ V.frozen? ⟨b', 18, none⟩ = false ∧ V.frozen? ⟨b', 19, none⟩ = false := ⟨cell_of_heap h rfl, cell_of_heap h rfl, cell_of_heap h rfl, cell_of_heap h rfl, cell_of_heap h rfl, cell_of_heap h rfl, cell_of_heap h rfl, cell_of_heap h rfl, frozen_of_heap h, frozen_of_heap h, frozen_of_heap h, frozen_of_heap h, frozen_of_heap h, frozen_of_heap h, frozen_of_heap h, frozen_of_heap h⟩
theorem L21.xs (h : L21 V b' x0 x1 x2 x3 a0 a1 a2 a3 b0 b1 b2 b3 c0 c1 c2 c3 e0 e1 e2 e3 tt) : V.cell? ⟨b', 0, none⟩ = some (.int .u64 (x0 : Nat)) ∧ V.cell? ⟨b', 1, none⟩ = some (.int .u64 (x1 : Nat)) ∧ V.cell? ⟨b', 2, none⟩ = some (.int .u64 (x2 : Nat)) ∧ V.cell? ⟨b', 3, none⟩ = some (.int .u64 (x3 : Nat)) ∧ V.frozen? ⟨b', 0, none⟩ = false ∧ V.frozen? ⟨b', 1, none⟩ = false ∧ V.frozen? ⟨b', 2, none⟩ = false ∧ V.frozen? ⟨b', 3, none⟩ = false := ⟨cell_of_heap h rfl, cell_of_heap h rfl, cell_of_heap h rfl, cell_of_heap h rfl, frozen_of_heap h, frozen_of_heap h, frozen_of_heap h, frozen_of_heap h⟩
theorem L21.tu (h : L21 V b' x0 x1 x2 x3 a0 a1 a2 a3 b0 b1 b2 b3 c0 c1 c2 c3 e0 e1 e2 e3 tt) : V.cell? ⟨b', 20, none⟩ = some (.int .u8 (tt : Nat)) ∧ V.frozen? ⟨b', 20, none⟩ = false := ⟨cell_of_heap h rfl, frozen_of_heap h⟩
theorem L21.lt (h : L21 V b' x0 x1 x2 x3 a0 a1 a2 a3 b0 b1 b2 b3 c0 c1 c2 c3 e0 e1 e2 e3 tt) : b' < V.heap.size := lt_of_heap h
theorem L21.fr (h : L21 V b' x0 x1 x2 x3 a0 a1 a2 a3 b0 b1 b2 b3 c0 c1 c2 c3 e0 e1 e2 e3 tt) (hF : Fr [] V V') : L21 V' b' x0 x1 x2 x3 a0 a1 a2 a3 b0 b1 b2 b3 c0 c1 c2 c3 e0 e1 e2 e3 tt := hF.heap h (by simp)
theorem L21.ext (h : L21 V b' x0 x1 x2 x3 a0 a1 a2 a3 b0 b1 b2 b3 c0 c1 c2 c3 e0 e1 e2 e3 tt) (x : World) : L21 (Go.Proofs.YthbkhbfcocbnoaaDoor.ext V x) b' x0 x1 x2 x3 a0 a1 a2 a3 b0 b1 b2 b3 c0 c1 c2 c3 e0 e1 e2 e3 tt := h.fr (ext_fr V x)
theorem L21.alloc (h : L21 V b' x0 x1 x2 x3 a0 a1 a2 a3 b0 b1 b2 b3 c0 c1 c2 c3 e0 e1 e2 e3 tt) (o : Obj) : L21 (V.alloc o) b' x0 x1 x2 x3 a0 a1 a2 a3 b0 b1 b2 b3 c0 c1 c2 c3 e0 e1 e2 e3 tt := h.fr ((Fr.refl [] V).alloc o)
theorem L21.other (h : L21 V b' x0 x1 x2 x3 a0 a1 a2 a3 b0 b1 b2 b3 c0 c1 c2 c3 e0 e1 e2 e3 tt) {p : Addr} (hne : b' ≠ p.block) (u : Value) : L21 (V.setCell p u) b' x0 x1 x2 x3 a0 a1 a2 a3 b0 b1 b2 b3 c0 c1 c2 c3 e0 e1 e2 e3 tt := by
  unfold L21
  rw [heap_setCell_other _ _ _ _ hne]; exact h
theorem L21.other4 (h : L21 V b' x0 x1 x2 x3 a0 a1 a2 a3 b0 b1 b2 b3 c0 c1 c2 c3 e0 e1 e2 e3 tt) {p : Nat} (hne : b' ≠ p) (u0 u1 u2 u3 : Value) : L21 ((((V.setCell ⟨p, 0, none⟩ u0).setCell ⟨p, 1, none⟩ u1).setCell ⟨p, 2, none⟩ u2).setCell ⟨p, 3, none⟩ u3) b' x0 x1 x2 x3 a0 a1 a2 a3 b0 b1 b2 b3 c0 c1 c2 c3 e0 e1 e2 e3 tt :=
  (((h.other hne u0).other hne u1).other hne u2).other hne u3
theorem cells_set {V : World} {b t i : Nat} {cs : Array Value} (h : V.heap[b]? = some (.cells cs t)) (u : Value) : (V.setCell ⟨b, i, none⟩ u).heap[b]? = some (.cells (cs.setIfInBounds i u) t) := heap_setCell_same V b i cs t u h
theorem L21.set_low (h : L21 V b' x0 x1 x2 x3 a0 a1 a2 a3 b0 b1 b2 b3 c0 c1 c2 c3 e0 e1 e2 e3 tt) (n0 n1 n2 n3 m0 m1 m2 m3 : Nat) : L21 ((((((((V.setCell ⟨b', 4, none⟩ (.int .u64 (n0 : Nat))).setCell ⟨b', 5, none⟩ (.int .u64 (n1 : Nat))).setCell ⟨b', 6, none⟩ (.int .u64 (n2 : Nat))).setCell ⟨b', 7, none⟩ (.int .u64 (n3 : Nat))).setCell ⟨b', 8, none⟩ (.int .u64 (m0 : Nat))).setCell ⟨b', 9, none⟩ (.int .u64 (m1 : Nat))).setCell ⟨b', 10, none⟩ (.int .u64 (m2 : Nat))).setCell ⟨b', 11, none⟩ (.int .u64 (m3 : Nat))) b' x0 x1 x2 x3 n0 n1 n2 n3 m0 m1 m2 m3 c0 c1 c2 c3 e0 e1 e2 e3 tt := by
  unfold L21 at h ⊢
  have h0 := cells_set (i := 4) h (.int .u64 (n0 : Nat))
  simp only [List.setIfInBounds_toArray, List.set_cons_zero, List.set_cons_succ] at h0
  have h1 := cells_set (i := 5) h0 (.int .u64 (n1 : Nat))
  simp only [List.setIfInBounds_toArray, List.set_cons_zero, List.set_cons_succ] at h1
  have h2 := cells_set (i := 6) h1 (.int .u64 (n2 : Nat))
  simp only [List.setIfInBounds_toArray, List.set_cons_zero, List.set_cons_succ] at h2
  have h3 := cells_set (i := 7) h2 (.int .u64 (n3 : Nat))
  simp only [List.setIfInBounds_toArray, List.set_cons_zero, List.set_cons_succ] at h3
  have h4 := cells_set (i := 8) h3 (.int .u64 (m0 : Nat))
  simp only [List.setIfInBounds_toArray, List.set_cons_zero, List.set_cons_succ] at h4
  have h5 := cells_set (i := 9) h4 (.int .u64 (m1 : Nat))
  simp only [List.setIfInBounds_toArray, List.set_cons_zero, List.set_cons_succ] at h5
  have h6 := cells_set (i := 10) h5 (.int .u64 (m2 : Nat))
  simp only [List.setIfInBounds_toArray, List.set_cons_zero, List.set_cons_succ] at h6
  have h7 := cells_set (i := 11) h6 (.int .u64 (m3 : Nat))
  simp only [List.setIfInBounds_toArray, List.set_cons_zero, List.set_cons_succ] at h7
  exact h7
theorem L21.set_high (h : L21 V b' x0 x1 x2 x3 a0 a1 a2 a3 b0 b1 b2 b3 c0 c1 c2 c3 e0 e1 e2 e3 tt) (n0 n1 n2 n3 m0 m1 m2 m3 : Nat) : L21 ((((((((V.setCell ⟨b', 12, none⟩ (.int .u64 (n0 : Nat))).setCell ⟨b', 13, none⟩ (.int .u64 (n1 : Nat))).setCell ⟨b', 14, none⟩ (.int .u64 (n2 : Nat))).setCell ⟨b', 15, none⟩ (.int .u64 (n3 : Nat))).setCell ⟨b', 16, none⟩ (.int .u64 (m0 : Nat))).setCell ⟨b', 17, none⟩ (.int .u64 (m1 : Nat))).setCell ⟨b', 18, none⟩ (.int .u64 (m2 : Nat))).setCell ⟨b', 19, none⟩ (.int .u64 (m3 : Nat))) b' x0 x1 x2 x3 a0 a1 a2 a3 b0 b1 b2 b3 n0 n1 n2 n3 m0 m1 m2 m3 tt := by
  unfold L21 at h ⊢
  have h0 := cells_set (i := 12) h (.int .u64 (n0 : Nat))
  simp only [List.setIfInBounds_toArray, List.set_cons_zero, List.set_cons_succ] at h0
  have h1 := cells_set (i := 13) h0 (.int .u64 (n1 : Nat))
  simp only [List.setIfInBounds_toArray, List.set_cons_zero, List.set_cons_succ] at h1
  have h2 := cells_set (i := 14) h1 (.int .u64 (n2 : Nat))
  simp only [List.setIfInBounds_toArray, List.set_cons_zero, List.set_cons_succ] at h2
  have h3 := cells_set (i := 15) h2 (.int .u64 (n3 : Nat))
  simp only [List.setIfInBounds_toArray, List.set_cons_zero, List.set_cons_succ] at h3
  have h4 := cells_set (i := 16) h3 (.int .u64 (m0 : Nat))
  simp only [List.setIfInBounds_toArray, List.set_cons_zero, List.set_cons_succ] at h4
  have h5 := cells_set (i := 17) h4 (.int .u64 (m1 : Nat))
  simp only [List.setIfInBounds_toArray, List.set_cons_zero, List.set_cons_succ] at h5
  have h6 := cells_set (i := 18) h5 (.int .u64 (m2 : Nat))
  simp only [List.setIfInBounds_toArray, List.set_cons_zero, List.set_cons_succ] at h6
  have h7 := cells_set (i := 19) h6 (.int .u64 (m3 : Nat))
  simp only [List.setIfInBounds_toArray, List.set_cons_zero, List.set_cons_succ] at h7
  exact h7
end
theorem LD.iff {V : World} {b' X A B C E tt x0 x1 x2 x3 a0 a1 a2 a3 b0 b1 b2 b3 c0 c1 c2 c3 e0 e1 e2 e3 : Nat} (hX : wd X = .agg #[.int .u64 (x0 : Nat), .int .u64 (x1 : Nat), .int .u64 (x2 : Nat), .int .u64 (x3 : Nat)]) (hA : wd A = .agg #[.int .u64 (a0 : Nat), .int .u64 (a1 : Nat), .int .u64 (a2 : Nat), .int .u64 (a3 : Nat)]) (hB : wd B = .agg #[.int .u64 (b0 : Nat), .int .u64 (b1 : Nat), .int .u64 (b2 : Nat), .int .u64 (b3 : Nat)]) (hC : wd C = .agg #[.int .u64 (c0 : Nat), .int .u64 (c1 : Nat), .int .u64 (c2 : Nat), .int .u64 (c3 : Nat)]) (hE : wd E = .agg #[.int .u64 (e0 : Nat), .int .u64 (e1 : Nat), .int .u64 (e2 : Nat), .int .u64 (e3 : Nat)]) : LD V b' X A B C E tt ↔ L21 V b' x0 x1 x2 x3 a0 a1 a2 a3 b0 b1 b2 b3 c0 c1 c2 c3 e0 e1 e2 e3 tt := by
  unfold LD L21; rw [lc_of hX hA hB hC hE]
theorem L4.other4 {V : World} {b t p : Nat} {v0 v1 v2 v3 : Value} (h : L4 V b t v0 v1 v2 v3) (hne : b ≠ p) (u0 u1 u2 u3 : Value) : L4 ((((V.setCell ⟨p, 0, none⟩ u0).setCell ⟨p, 1, none⟩ u1).setCell ⟨p, 2, none⟩ u2).setCell ⟨p, 3, none⟩ u3) b t v0 v1 v2 v3 := by
  unfold L4
  rw [heap_setCell_other _ _ _ _ hne, heap_setCell_other _ _ _ _ hne, heap_setCell_other _ _ _ _ hne, heap_setCell_other _ _ _ _ hne]; exact h
theorem Fr.set8 {S : List Nat} {w V : World} (h : Fr S w V) {b' : Nat} (hb : b' ∈ S ∨ w.heap.size ≤ b') (o0 o1 o2 o3 o4 o5 o6 o7 : Nat) (u0 u1 u2 u3 u4 u5 u6 u7 : Value) : Fr S w ((((((((V.setCell ⟨b', o0, none⟩ u0).setCell ⟨b', o1, none⟩ u1).setCell ⟨b', o2, none⟩ u2).setCell ⟨b', o3, none⟩ u3).setCell ⟨b', o4, none⟩ u4).setCell ⟨b', o5, none⟩ u5).setCell ⟨b', o6, none⟩ u6).setCell ⟨b', o7, none⟩ u7) :=
  (((((((h.setCell hb u0).setCell hb u1).setCell hb u2).setCell hb u3).setCell hb u4).setCell hb u5).setCell hb u6).setCell hb u7
theorem PV.frS {b : Nat} {w w' : World} (h : PV w) (hF : Fr [b] w w') (hb : 0 < b) : PV w' :=
  ⟨hF.cell h.p0 (by simp; omega), hF.cell h.p1 (by simp; omega), hF.cell h.p2 (by simp; omega), hF.cell h.p3 (by simp; omega)⟩
theorem Fr.to {S : List Nat} {w V : World} (h : Fr [] w V) : Fr S w V := h.mono (fun t ht => by cases ht)
/-- Twice a point. -/
def dx (A B : Nat) : Nat := mq (mq (ad A B) (ad A B)) (mq (sb A B) (sb A B))
def dr (A B : Nat) : Nat := sb (mq (ad A B) (ad A B)) (mq (sb A B) (sb A B))
def dz (A B : Nat) : Nat := mq (dr A B) (ad (mq (ad A B) (ad A B)) (mq (dr A B) 121665))
theorem dx_lt (A B : Nat) : dx A B < Nt.P := ml_lt _ _
theorem dr_lt (A B : Nat) : dr A B < Nt.P := sb_lt _ _
theorem dz_lt (A B : Nat) : dz A B < Nt.P := ml_lt _ _
theorem lt_k : 121665 < Nt.P := by rw [Nt.P_val]; decide
theorem double_any (b' X A B C E tt : Nat) (hX : X < Nt.P) (hA : A < Nt.P) (hB : B < Nt.P) (hC : C < Nt.P) (hE : E < Nt.P) (w : World) (hP : PV w) (hb0 : 0 < b') (hL : LD w b' X A B C E tt) : Calls Tryd.prog 44 #[.pointer (some ⟨b', 0, none⟩)] w fun e w' => e = .returned (.tuple #[]) ∧ Fr [b'] w w' ∧ LD w' b' X (dx A B) (dz A B) C E tt := by
  have hP2 := hid (p := _) hP
  have Ke := fun W hW => ends_any A B hA hB W hW
  have Kp := fun W hW => square_any (ad A B) (ad_lt _ _) W hW
  have Km := fun W hW => square_any (sb A B) (sb_lt _ _) W hW
  have Kr : ∀ W, PV W → Calls Tryd.prog 57 #[wd (mq (ad A B) (ad A B)), wd (mq (sb A B) (sb A B))] W fun e w' => e = .returned (wd (dr A B)) ∧ Fr [] W w' := fun W hW => sub_sb _ _ (ml_lt _ _) (ml_lt _ _) W hW
  have K1 : ∀ W, PV W → Calls Tryd.prog 27 #[wd (mq (ad A B) (ad A B)), wd (mq (sb A B) (sb A B))] W fun e w' => e = .returned (wd (dx A B)) ∧ Fr [] W w' := fun W hW => mul_ml _ _ (ml_lt _ _) (ml_lt _ _) W hW
  have K2 : ∀ W : World, Calls Tryd.prog 18 #[.int .u32 121665] W fun e w' => e = .returned (wd 121665) ∧ Fr [] W w' := fun W => small_any 121665 (by decide) W
  have K3 := fun W hW => mul_ml (dr A B) 121665 (dr_lt _ _) lt_k W hW
  have K4 := fun W hW => add_ad (mq (ad A B) (ad A B)) (mq (dr A B) 121665) (ml_lt _ _) (ml_lt _ _) W hW
  have K5 : ∀ W, PV W → Calls Tryd.prog 27 #[wd (dr A B), wd (ad (mq (ad A B) (ad A B)) (mq (dr A B) 121665))] W fun e w' => e = .returned (wd (dz A B)) ∧ Fr [] W w' := fun W hW => mul_ml _ _ (dr_lt _ _) (ad_lt _ _) W hW
  have hz1 := dx_lt A B
  have hz2 := dz_lt A B
  obtain ⟨x0, x1, x2, x3, -, -, -, -, -, wx⟩ := wd_open X (lt4 hX)
  obtain ⟨a0, a1, a2, a3, -, -, -, -, -, wa⟩ := wd_open A (lt4 hA)
  obtain ⟨b0, b1, b2, b3, -, -, -, -, -, wb⟩ := wd_open B (lt4 hB)
  obtain ⟨c0, c1, c2, c3, -, -, -, -, -, wc⟩ := wd_open C (lt4 hC)
  obtain ⟨e0, e1, e2, e3, -, -, -, -, -, we⟩ := wd_open E (lt4 hE)
  obtain ⟨p0, p1, p2, p3, -, -, -, -, -, wp⟩ := wd_open (ad A B) (lt4 (ad_lt _ _))
  obtain ⟨m0, m1, m2, m3, -, -, -, -, -, wm⟩ := wd_open (sb A B) (lt4 (sb_lt _ _))
  obtain ⟨q0, q1, q2, q3, -, -, -, -, -, wq⟩ := wd_open (mq (ad A B) (ad A B)) (lt4 (ml_lt _ _))
  obtain ⟨n0, n1, n2, n3, -, -, -, -, -, wn⟩ := wd_open (mq (sb A B) (sb A B)) (lt4 (ml_lt _ _))
  obtain ⟨r0, r1, r2, r3, -, -, -, -, -, wr⟩ := wd_open (dr A B) (lt4 (dr_lt _ _))
  obtain ⟨y0, y1, y2, y3, -, -, -, -, -, wy⟩ := wd_open (dx A B) (lt4 hz1)
  obtain ⟨z0, z1, z2, z3, -, -, -, -, -, wz⟩ := wd_open (dz A B) (lt4 hz2)
  have hL2 := (LD.iff wx wa wb wc we).1 hL
  have HG := hid (p := _) (fun W => (LD.iff (V := W) (b' := b') (tt := tt) wx wy wz wc we).2)
  rw [pv_of wa wb, wp, wm] at Ke
  rw [wp, wq] at Kp
  rw [wm, wn] at Km
  rw [wq, wn, wr] at Kr
  rw [wq, wn, wy] at K1
  rw [wr] at K3
  rw [wq] at K4
  rw [wr, wz] at K5
  generalize wd (ad (mq (ad A B) (ad A B)) (mq (dr A B) 121665)) = g1 at *
  generalize wd (mq (dr A B) 121665) = g2 at *
  generalize wd 121665 = g3 at *
  have He := hid (p := _) Ke
  have Hp := hid (p := _) Kp
  have Hm := hid (p := _) Km
  have Hr := hid (p := _) Kr
  have H1 := hid (p := _) K1
  have H2 := hid (p := _) K2
  have H3 := hid (p := _) K3
  have H4 := hid (p := _) K4
  have H5 := hid (p := _) K5
  have HL := hid (p := _) hL2
  have hlt := hL2.lt
  clear Ke Kp Km Kr K1 K2 K3 K4 K5 wx wa wb wc we wp wm wq wn wr wy wz hX hA hB hC hE hz1 hz2 hP hL
  obtain ⟨_, _, _, _, _, _, _, _, _, _, _, _, _, _, _, _⟩ := hL2.low
  clear hL2
  go_enter Tryd.func44, Tryd.ntmps44
  go_wp2_with (go_at_call 54; with_reducible refine (He.out _ (by with_reducible exact hP2.out)).mono ?_; rintro e V ⟨rfl, hF⟩; have L1 := hid (p := _) (HL.out.fr hF); have F1 := hid (p := _) hF; clear hF)
  have F2 := hid (p := _) ((F1.out.alloc (.cells #[.int .u64 (p0 : Nat), .int .u64 (p1 : Nat), .int .u64 (p2 : Nat), .int .u64 (p3 : Nat)] 43)).alloc (.cells #[.int .u64 (m0 : Nat), .int .u64 (m1 : Nat), .int .u64 (m2 : Nat), .int .u64 (m3 : Nat)] 43))
  have L2 := hid (p := _) ((L1.out.alloc (.cells #[.int .u64 (p0 : Nat), .int .u64 (p1 : Nat), .int .u64 (p2 : Nat), .int .u64 (p3 : Nat)] 43)).alloc (.cells #[.int .u64 (m0 : Nat), .int .u64 (m1 : Nat), .int .u64 (m2 : Nat), .int .u64 (m3 : Nat)] 43))
  have P2 := (L4.new V 43 (.int .u64 (p0 : Nat)) (.int .u64 (p1 : Nat)) (.int .u64 (p2 : Nat)) (.int .u64 (p3 : Nat))).alloc (.cells #[.int .u64 (m0 : Nat), .int .u64 (m1 : Nat), .int .u64 (m2 : Nat), .int .u64 (m3 : Nat)] 43)
  have M2 := L4.new1 V (.cells #[.int .u64 (p0 : Nat), .int .u64 (p1 : Nat), .int .u64 (p2 : Nat), .int .u64 (p3 : Nat)] 43) 43 (.int .u64 (m0 : Nat)) (.int .u64 (m1 : Nat)) (.int .u64 (m2 : Nat)) (.int .u64 (m3 : Nat))
  generalize (V.alloc (.cells #[.int .u64 (p0 : Nat), .int .u64 (p1 : Nat), .int .u64 (p2 : Nat), .int .u64 (p3 : Nat)] 43)).alloc (.cells #[.int .u64 (m0 : Nat), .int .u64 (m1 : Nat), .int .u64 (m2 : Nat), .int .u64 (m3 : Nat)] 43) = U at *
  have hbV : b' < V.heap.size := L1.out.lt
  have hwV := F1.out.size
  generalize V.heap.size = pb at *
  clear F1 L1
  obtain ⟨_, _, _, _, _, _, _, _, _, _⟩ := P2.all
  obtain ⟨_, _, _, _, _, _, _, _, _, _⟩ := M2.all
  have HP2 := hid (p := _) P2
  have HM2 := hid (p := _) M2
  clear P2 M2
  refine wp_region_tail_ext [_, _, _, _] [_, _] (by simp) (by kernel_rfl) (by kernel_rfl) (by kernel_rfl) (by kernel_rfl) (by kernel_rfl) ?_
  simp only [List.cons_append, List.nil_append, List.map_cons, List.map_nil, idle]
  repeat (go_big_quiet_step (first | with_reducible exact Calls.ext_of (Hp.out _ (hP2.out.fr (F2.out.ext _))) | with_reducible exact Calls.ext_of (Hm.out _ (hP2.out.fr (F2.out.ext _)))))
  refine wpQuiet_nil ?_
  rintro _ ⟨xq, rfl⟩
  have F3 := hid (p := _) (((F2.out.ext xq).set4 (b := pb) (by omega) (.int .u64 (q0 : Nat)) (.int .u64 (q1 : Nat)) (.int .u64 (q2 : Nat)) (.int .u64 (q3 : Nat))).set4 (b := pb + 1) (by omega) (.int .u64 (n0 : Nat)) (.int .u64 (n1 : Nat)) (.int .u64 (n2 : Nat)) (.int .u64 (n3 : Nat)))
  have L3 := hid (p := _) (((L2.out.ext xq).other4 (p := pb) (by omega) (.int .u64 (q0 : Nat)) (.int .u64 (q1 : Nat)) (.int .u64 (q2 : Nat)) (.int .u64 (q3 : Nat))).other4 (p := pb + 1) (by omega) (.int .u64 (n0 : Nat)) (.int .u64 (n1 : Nat)) (.int .u64 (n2 : Nat)) (.int .u64 (n3 : Nat)))
  have P3 := ((HP2.out.fr (ext_fr U xq)).set4 (.int .u64 (q0 : Nat)) (.int .u64 (q1 : Nat)) (.int .u64 (q2 : Nat)) (.int .u64 (q3 : Nat))).other4 (p := pb + 1) (by omega) (.int .u64 (n0 : Nat)) (.int .u64 (n1 : Nat)) (.int .u64 (n2 : Nat)) (.int .u64 (n3 : Nat))
  have M3 := ((HM2.out.fr (ext_fr U xq)).other4 (p := pb) (by omega) (.int .u64 (q0 : Nat)) (.int .u64 (q1 : Nat)) (.int .u64 (q2 : Nat)) (.int .u64 (q3 : Nat))).set4 (.int .u64 (n0 : Nat)) (.int .u64 (n1 : Nat)) (.int .u64 (n2 : Nat)) (.int .u64 (n3 : Nat))
  simp only [tailWp]
  go_simp
  obtain ⟨_, _, _, _, _, _, _, _, _, _⟩ := P3.all
  obtain ⟨_, _, _, _, _, _, _, _, _, _⟩ := M3.all
  go_wp2_with (go_at_call 57; with_reducible refine (Hr.out _ (hP2.out.fr F3.out)).mono ?_; rintro e V4 ⟨rfl, hF⟩; have L4' := hid (p := _) (L3.out.fr hF); have F4 := hid (p := _) (F3.out.trans0 hF); have P4 := P3.fr hF; have M4 := M3.fr hF; clear hF)
  have F5 := hid (p := _) (F4.out.alloc (.cells #[.int .u64 (r0 : Nat), .int .u64 (r1 : Nat), .int .u64 (r2 : Nat), .int .u64 (r3 : Nat)] 43))
  have L5 := L4'.out.alloc (.cells #[.int .u64 (r0 : Nat), .int .u64 (r1 : Nat), .int .u64 (r2 : Nat), .int .u64 (r3 : Nat)] 43)
  have P5 := P4.alloc (.cells #[.int .u64 (r0 : Nat), .int .u64 (r1 : Nat), .int .u64 (r2 : Nat), .int .u64 (r3 : Nat)] 43)
  have M5 := M4.alloc (.cells #[.int .u64 (r0 : Nat), .int .u64 (r1 : Nat), .int .u64 (r2 : Nat), .int .u64 (r3 : Nat)] 43)
  have R5 := L4.new V4 43 (.int .u64 (r0 : Nat)) (.int .u64 (r1 : Nat)) (.int .u64 (r2 : Nat)) (.int .u64 (r3 : Nat))
  generalize V4.alloc (.cells #[.int .u64 (r0 : Nat), .int .u64 (r1 : Nat), .int .u64 (r2 : Nat), .int .u64 (r3 : Nat)] 43) = U5 at *
  generalize V4.heap.size = rb at *
  clear F2 F3 F4 L2 L3 L4' P3 M3 P4 M4 HP2 HM2
  obtain ⟨_, _, _, _, _, _, _, _, _, _⟩ := P5.all
  obtain ⟨_, _, _, _, _, _, _, _, _, _⟩ := M5.all
  obtain ⟨_, _, _, _, _, _, _, _, _, _⟩ := R5.all
  obtain ⟨_, _, _, _, _, _, _, _, _, _, _, _, _, _, _, _⟩ := L5.low
  have HL5 := hid (p := _) L5
  have hlt5 := L5.lt
  clear P5 M5 R5 L5
  refine wp_region_tail_ext [_, _, _, _, _, _, _, _, _, _, _, _, _, _] [_] (by simp) (by kernel_rfl) (by kernel_rfl) (by kernel_rfl) (by kernel_rfl) (by kernel_rfl) ?_
  simp only [List.cons_append, List.nil_append, List.map_cons, List.map_nil, idle]
  repeat (go_big_quiet_step (first | with_reducible exact Calls.ext_of (H1.out _ (hP2.out.fr (F5.out.ext _))) | with_reducible exact Calls.ext_of (H2.out _) | with_reducible exact Calls.ext_of (H3.out _ (hP2.out.fr (F5.out.ext _))) | with_reducible exact Calls.ext_of (H4.out _ (hP2.out.fr (F5.out.ext _))) | with_reducible exact Calls.ext_of (H5.out _ (hP2.out.fr (F5.out.ext _)))))
  refine wpQuiet_nil ?_
  rintro _ ⟨xr, rfl⟩
  have F6 := hid (p := _) (F5.out.ext xr)
  have L6 := hid (p := _) (HL5.out.ext xr)
  simp only [tailWp]
  go_simp
  go_wp2
  go_end0
  refine ⟨rfl, (F6.out.to (S := [b'])).set8 (b' := b') (.inl (by simp)) _ _ _ _ _ _ _ _ _ _ _ _ _ _ _ _, HG.out _ (L6.out.set_low y0 y1 y2 y3 z0 z1 z2 z3)⟩
end Go.Proofs.YthbkhbfcocbnoaaDoor
