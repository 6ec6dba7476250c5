/-
  Package order: L, the package variable, pick, less, below, like. No statement is proved here.
-/
import Derived.Test.YtgjpombdkgomaaaDoorOrdA
import Derived.Test.YtgjpombdkgomaaaDoorLast
namespace Go.Proofs.YtgjpombdkgomaaaDoor
open Go.RowKit Go.Lib Go.BigFrame
set_option linter.unusedVariables false
set_option linter.unusedSimpArgs false
set_option maxRecDepth 1000000
set_option maxHeartbeats 4000000

theorem hid {p : Prop} (h : p) : Hid p := h
/-- The order. -/
def Lq : Nat := 7237005577332262213973186563042994240857116359379907606001950938285454250989
theorem Lq_val : Lq = 7237005577332262213973186563042994240857116359379907606001950938285454250989 := rfl
theorem Lq_pos : 0 < Lq := by rw [Lq_val]; decide
theorem Lq_lt : 2 * Lq < 115792089237316195423570985008687907853269984665640564039457584007913129639936 := by rw [Lq_val]; decide
/-- The package variable holds what its text lays. -/
structure PV (w : World) : Prop where
  p0 : w.cell? ⟨0, 0, none⟩ = some (.int .u64 6346243789798364141)
  p1 : w.cell? ⟨0, 1, none⟩ = some (.int .u64 1503914060200516822)
  p2 : w.cell? ⟨0, 2, none⟩ = some (.int .u64 0)
  p3 : w.cell? ⟨0, 3, none⟩ = some (.int .u64 1152921504606846976)
theorem PV.fr {S : List Nat} {w w' : World} (h : PV w) (hF : Fr S w w') (h0 : 0 ∉ S) : PV w' :=
  ⟨hF.cell h.p0 h0, hF.cell h.p1 h0, hF.cell h.p2 h0, hF.cell h.p3 h0⟩
theorem PV.size {w : World} (h : PV w) : 0 < w.heap.size := World.block_lt_of_cell? w _ h.p0
theorem Fr.ext {S : List Nat} {a w : World} (h : Fr S a w) (x : World) : Fr S a (ext w x) := h.trans0 (ext_fr w x)
theorem Lq_w : Lq = 6346243789798364141 + 18446744073709551616 * 1503914060200516822 + 340282366920938463463374607431768211456 * 0 + 6277101735386680763835789423207666416102355444464034512896 * 1152921504606846976 := by rw [Lq_val]

theorem pick_word (c a b : Nat) (hc : c ≤ 1) (ha : a < 18446744073709551616) (hb : b < 18446744073709551616) (w : World) : Calls Tryd.prog 32 #[.int .u64 (c : Nat), .int .u64 (a : Nat), .int .u64 (b : Nat)] w fun e w' => e = .returned (.int .u64 ((if c = 1 then b else a : Nat) : Int)) ∧ w' = w := by
  have f := xx a b ha hb
  have g0 := azero _ (xlt ha hb)
  have g1 := aones _ (xlt ha hb)
  have k0 := xzero a ha
  have k1 := xback a b ha hb
  have : c = 0 ∨ c = 1 := by omega
  generalize a ^^^ b = x at *
  rcases this with rfl | rfl
  · clear g1 k1 hc ha hb
    go_enter Tryd.func32, Tryd.ntmps32
    go_wp2
    simp [bodyPost, results, Tryd.results32, go_sem, f, g0, k0]
  · clear g0 k0 hc ha hb
    have hw : IntKind.u64.wrap (-1) = 18446744073709551615 := by rw [IntKind.wrap_u64]; rfl
    go_enter Tryd.func32, Tryd.ntmps32
    go_wp2
    simp [bodyPost, results, Tryd.results32, go_sem, f, g1, k1, hw]

theorem less_any {v a0 a1 a2 a3 : Nat} (p0 : a0 < 18446744073709551616) (p1 : a1 < 18446744073709551616) (p2 : a2 < 18446744073709551616) (p3 : a3 < 18446744073709551616) (ev : v = a0 + 18446744073709551616 * a1 + 340282366920938463463374607431768211456 * a2 + 6277101735386680763835789423207666416102355444464034512896 * a3) :
    ∃ r0 r1 r2 r3 : Nat, r0 < 18446744073709551616 ∧ r1 < 18446744073709551616 ∧ r2 < 18446744073709551616 ∧ r3 < 18446744073709551616 ∧ (v + 115792089237316195423570985008687907853269984665640564039457584007913129639936 - Lq) % 115792089237316195423570985008687907853269984665640564039457584007913129639936 = r0 + 18446744073709551616 * r1 + 340282366920938463463374607431768211456 * r2 + 6277101735386680763835789423207666416102355444464034512896 * r3 ∧ ∀ w : World, PV w → Calls Tryd.prog 29 #[.int .u64 (a0 : Nat), .int .u64 (a1 : Nat), .int .u64 (a2 : Nat), .int .u64 (a3 : Nat)] w fun e w' => e = .returned (.tuple #[.int .u64 (r0 : Nat), .int .u64 (r1 : Nat), .int .u64 (r2 : Nat), .int .u64 (r3 : Nat), .int .u64 (bo v Lq : Nat)]) ∧ w' = w := by
  obtain ⟨s0, c0, x0, y0, z0, K0⟩ := sub64_0 a0 6346243789798364141 p0 (by decide)
  obtain ⟨s1, c1, x1, y1, z1, K1⟩ := sub64 a1 1503914060200516822 c0 p1 (by decide) y0
  obtain ⟨s2, c2, x2, y2, z2, K2⟩ := sub64 a2 0 c1 p2 (by decide) y1
  obtain ⟨s3, c3, x3, y3, z3, K3⟩ := sub64 a3 1152921504606846976 c2 p3 (by decide) y2
  have hv : v < 115792089237316195423570985008687907853269984665640564039457584007913129639936 := by rw [ev]; exact val_lt p0 p1 p2 p3
  have hd := sub_v (val_lt x0 x1 x2 x3) hv (by have := Lq_lt; omega) y3 (sub_w ev Lq_w z0 z1 z2 z3)
  refine ⟨s0, s1, s2, s3, x0, x1, x2, x3, hd.1, fun w hP => ?_⟩
  have hc : bo v Lq = c3 := hd.2
  rw [hc]
  obtain ⟨c0c, c1c, c2c, c3c⟩ := hP
  clear hd hc ev hv p0 p1 p2 p3 x0 x1 x2 x3 y0 y1 y2 y3 z0 z1 z2 z3
  have J0 : ∀ w : World, (callFunc 33 #[.int .u64 (a0 : Nat), .int .u64 6346243789798364141, .int .u64 0]).run Tryd.prog w = .ok (.value (.tuple #[.int .u64 (s0 : Nat), .int .u64 (c0 : Nat)])) w := K0
  have J1 : ∀ w : World, (callFunc 33 #[.int .u64 (a1 : Nat), .int .u64 1503914060200516822, .int .u64 (c0 : Nat)]).run Tryd.prog w = .ok (.value (.tuple #[.int .u64 (s1 : Nat), .int .u64 (c1 : Nat)])) w := K1
  have J2 : ∀ w : World, (callFunc 33 #[.int .u64 (a2 : Nat), .int .u64 0, .int .u64 (c1 : Nat)]).run Tryd.prog w = .ok (.value (.tuple #[.int .u64 (s2 : Nat), .int .u64 (c2 : Nat)])) w := K2
  have J3 : ∀ w : World, (callFunc 33 #[.int .u64 (a3 : Nat), .int .u64 1152921504606846976, .int .u64 (c2 : Nat)]).run Tryd.prog w = .ok (.value (.tuple #[.int .u64 (s3 : Nat), .int .u64 (c3 : Nat)])) w := K3
  clear K0 K1 K2 K3
  go_enter Tryd.func29, Tryd.ntmps29
  go_wp2_with (simp only [J0, J1, J2, J3])
  simp [bodyPost, results, Tryd.results29, go_sem]

theorem bo_ne (a b : Nat) : (((bo a b : Nat) : Int) != 0) = decide (a < b) := by
  unfold bo
  by_cases h : a < b <;> simp [h]
theorem below_any (v : Nat) (hv : v < 115792089237316195423570985008687907853269984665640564039457584007913129639936) (w : World) (hP : PV w) : Calls Tryd.prog 22 #[wd v] w fun e w' => e = .returned (.bool (decide (v < Lq))) ∧ Fr [] w w' := by
  have hP2 := hid (p := _) hP
  obtain ⟨a0, a1, a2, a3, p0, p1, p2, p3, ea, wa⟩ := wd_open v hv
  obtain ⟨r0, r1, r2, r3, -, -, -, -, -, K⟩ := less_any p0 p1 p2 p3 ea
  rw [wa, ← bo_ne]
  have H := hid (p := _) K
  clear K ea wa p0 p1 p2 p3 hv hP
  generalize bo v Lq = b at *
  go_enter Tryd.func22, Tryd.ntmps22
  go_wp2_with (go_at_call 29; with_reducible refine (H.out _ (hP2.out.fr ((Fr.refl [] w).alloc _) (by simp))).mono ?_; rintro e V ⟨rfl, rfl⟩)
  simp [bodyPost, results, Tryd.results22, go_sem]
  exact (Fr.refl [] w).alloc _
theorem Fr.set4 {w V : World} (h : Fr [] w V) {b : Nat} (hb : w.heap.size ≤ b) (u0 u1 u2 u3 : Value) : Fr [] w ((((V.setCell ⟨b, 0, none⟩ u0).setCell ⟨b, 1, none⟩ u1).setCell ⟨b, 2, none⟩ u2).setCell ⟨b, 3, none⟩ u3) :=
  (((h.setCell (.inr hb) u0).setCell (.inr hb) u1).setCell (.inr hb) u2).setCell (.inr hb) u3

/-- Four cells of a variable in a block of its own. -/
def L4 (V : World) (b t : Nat) (v0 v1 v2 v3 : Value) : Prop := V.heap[b]? = some (.cells #[v0, v1, v2, v3] t)
section
variable {V V' : World} {b t : Nat} {v0 v1 v2 v3 : Value}
theorem L4.all (h : L4 V b t v0 v1 v2 v3) : V.cell? ⟨b, 0, none⟩ = some v0 ∧ V.cell? ⟨b, 1, none⟩ = some v1 ∧ V.cell? ⟨b, 2, none⟩ = some v2 ∧ V.cell? ⟨b, 3, none⟩ = some v3 ∧
    V.frozen? ⟨b, 0, none⟩ = false ∧ V.frozen? ⟨b, 1, none⟩ = false ∧ V.frozen? ⟨b, 2, none⟩ = false ∧ V.frozen? ⟨b, 3, none⟩ = false ∧ b < V.heap.size ∧ b ≠ V.heap.size :=
  ⟨cell_of_heap h rfl, cell_of_heap h rfl, cell_of_heap h rfl, cell_of_heap h rfl, frozen_of_heap h, frozen_of_heap h, frozen_of_heap h, frozen_of_heap h, lt_of_heap h, by have := lt_of_heap h; omega⟩
theorem L4.fr (h : L4 V b t v0 v1 v2 v3) (hF : Fr [] V V') : L4 V' b t v0 v1 v2 v3 := hF.heap h (by simp)
theorem L4.alloc (h : L4 V b t v0 v1 v2 v3) (o : Obj) : L4 (V.alloc o) b t v0 v1 v2 v3 := h.fr ((Fr.refl [] V).alloc o)
theorem L4.new (V : World) (t : Nat) (v0 v1 v2 v3 : Value) : L4 (V.alloc (.cells #[v0, v1, v2, v3] t)) V.heap.size t v0 v1 v2 v3 := (MapKept.heap_alloc V _).1
theorem L4.new1 (V : World) (o : Obj) (t : Nat) (v0 v1 v2 v3 : Value) : L4 ((V.alloc o).alloc (.cells #[v0, v1, v2, v3] t)) (V.heap.size + 1) t v0 v1 v2 v3 := by
  have := L4.new (V.alloc o) t v0 v1 v2 v3
  simpa using this
theorem L4.new2 (V : World) (o p : Obj) (t : Nat) (v0 v1 v2 v3 : Value) : L4 (((V.alloc o).alloc p).alloc (.cells #[v0, v1, v2, v3] t)) (V.heap.size + 2) t v0 v1 v2 v3 := by
  have := L4.new ((V.alloc o).alloc p) t v0 v1 v2 v3
  simpa using this
end

section
variable {V V' : World} {b t : Nat} {v0 v1 v2 v3 : Value}
theorem L4.set4 (h : L4 V b t v0 v1 v2 v3) (u0 u1 u2 u3 : Value) : L4 ((((V.setCell ⟨b, 0, none⟩ u0).setCell ⟨b, 1, none⟩ u1).setCell ⟨b, 2, none⟩ u2).setCell ⟨b, 3, none⟩ u3) b t u0 u1 u2 u3 := by
  have h0 := heap_setCell_same V b 0 _ t u0 h
  have h1 := heap_setCell_same _ b 1 _ t u1 h0
  have h2 := heap_setCell_same _ b 2 _ t u2 h1
  have h3 := heap_setCell_same _ b 3 _ t u3 h2
  exact h3
theorem L4.other (h : L4 V b t v0 v1 v2 v3) {b' : Nat} (hne : b ≠ b') (u0 u1 u2 u3 : Value) : L4 ((((V.setCell ⟨b', 0, none⟩ u0).setCell ⟨b', 1, none⟩ u1).setCell ⟨b', 2, none⟩ u2).setCell ⟨b', 3, none⟩ u3) b t v0 v1 v2 v3 := by
  unfold L4
  rw [heap_setCell_other _ _ _ _ hne, heap_setCell_other _ _ _ _ hne, heap_setCell_other _ _ _ _ hne, heap_setCell_other _ _ _ _ hne]
  exact h
end
/-- A variable that holds four words. -/
def LE (V : World) (b t v : Nat) : Prop := L4 V b t (.int .u64 ((v % 18446744073709551616 : Nat) : Int)) (.int .u64 ((v / 18446744073709551616 % 18446744073709551616 : Nat) : Int)) (.int .u64 ((v / 340282366920938463463374607431768211456 % 18446744073709551616 : Nat) : Int)) (.int .u64 ((v / 6277101735386680763835789423207666416102355444464034512896 % 18446744073709551616 : Nat) : Int))
theorem LE.iff {V : World} {b t v a0 a1 a2 a3 : Nat} (h : wd v = .agg #[.int .u64 (a0 : Nat), .int .u64 (a1 : Nat), .int .u64 (a2 : Nat), .int .u64 (a3 : Nat)]) : LE V b t v ↔ L4 V b t (.int .u64 (a0 : Nat)) (.int .u64 (a1 : Nat)) (.int .u64 (a2 : Nat)) (.int .u64 (a3 : Nat)) := by
  unfold wd at h
  injection h with h
  have h := congrArg Array.toList h
  injection h with h0 h
  injection h with h1 h
  injection h with h2 h
  injection h with h3 h
  unfold LE
  rw [h0, h1, h2, h3]
theorem LE.fr {V V' : World} {b t v : Nat} (h : LE V b t v) (hF : Fr [] V V') : LE V' b t v := L4.fr h hF

end Go.Proofs.YtgjpombdkgomaaaDoor
