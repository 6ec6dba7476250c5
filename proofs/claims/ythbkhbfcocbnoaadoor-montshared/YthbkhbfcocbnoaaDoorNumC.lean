/-
  Package num: below, fold, times, alike, lowest, choose. No statement is proved here.
-/
import Derived.Test.YthbkhbfcocbnoaaDoorNumB
import Derived.Test.YthbkhbfcocbnoaaDoorNt
import Derived.Test.YthbkhbfcocbnoaaDoorLast
namespace Go.Proofs.YthbkhbfcocbnoaaDoor
open Go.RowKit Go.Lib Go.BigFrame
set_option linter.unusedVariables false
set_option linter.unusedSimpArgs false
set_option maxRecDepth 1000000
set_option maxHeartbeats 4000000

/-- The package variable holds what its text lays. -/
structure PV (w : World) : Prop where
  p0 : w.cell? ⟨0, 0, none⟩ = some (.int .u64 18446744073709551597)
  p1 : w.cell? ⟨0, 1, none⟩ = some (.int .u64 18446744073709551615)
  p2 : w.cell? ⟨0, 2, none⟩ = some (.int .u64 18446744073709551615)
  p3 : w.cell? ⟨0, 3, none⟩ = some (.int .u64 9223372036854775807)
theorem PV.fr {w w' : World} (h : PV w) (hF : Fr [] w w') : PV w' :=
  ⟨hF.cell h.p0 (by simp), hF.cell h.p1 (by simp), hF.cell h.p2 (by simp), hF.cell h.p3 (by simp)⟩
theorem PV.size {w : World} (h : PV w) : 0 < w.heap.size := World.block_lt_of_cell? w _ h.p0
theorem Fr.ext {S : List Nat} {a w : World} (h : Fr S a w) (x : World) : Fr S a (ext w x) := h.trans0 (ext_fr w x)

theorem P_lt : Nt.P < 115792089237316195423570985008687907853269984665640564039457584007913129639936 := by rw [Nt.P_val]; decide
theorem P_two_lt : 115792089237316195423570985008687907853269984665640564039457584007913129639936 = 2 * Nt.P + 38 := by rw [Nt.P_val]
theorem wd_P : Value.agg #[.int .u64 18446744073709551597, .int .u64 18446744073709551615, .int .u64 18446744073709551615, .int .u64 9223372036854775807] = wd Nt.P :=
  wd_of (a0 := 18446744073709551597) (a1 := 18446744073709551615) (a2 := 18446744073709551615) (a3 := 9223372036854775807) (by decide) (by decide) (by decide) (by decide) (by rw [Nt.P_val])
theorem wd_I : Value.agg #[.int .u64 14190309331451158704, .int .u64 3405592160176694392, .int .u64 3120150775007532967, .int .u64 3135389899092516619] = wd Nt.I :=
  wd_of (a0 := 14190309331451158704) (a1 := 3405592160176694392) (a2 := 3120150775007532967) (a3 := 3135389899092516619) (by decide) (by decide) (by decide) (by decide) (by rw [Nt.I_val])
theorem wd_0 : Value.agg #[.int .u64 0, .int .u64 0, .int .u64 0, .int .u64 0] = wd 0 := rfl

theorem neg_bo (a b : Nat) : IntKind.u64.wrap (-(bo a b : Int)) = mk (decide (a < b)) := by
  unfold bo mk
  by_cases h : a < b
  · rw [if_pos h, decide_eq_true h, IntKind.wrap_u64]; rfl
  · rw [if_neg h, decide_eq_false h, IntKind.wrap_u64]; rfl

theorem Fr.set4 {w V : World} (h : Fr [] w V) {b : Nat} (hb : w.heap.size ≤ b) (u0 u1 u2 u3 : Value) : Fr [] w ((((V.setCell ⟨b, 0, none⟩ u0).setCell ⟨b, 1, none⟩ u1).setCell ⟨b, 2, none⟩ u2).setCell ⟨b, 3, none⟩ u3) :=
  (((h.setCell (.inr hb) u0).setCell (.inr hb) u1).setCell (.inr hb) u2).setCell (.inr hb) u3

/-- Four cells of a variable in a block of its own. -/
def L4 (V : World) (b t : Nat) (v0 v1 v2 v3 : Value) : Prop := V.heap[b]? = some (.cells #[v0, v1, v2, v3] t)
section
variable {V V' : World} {b t : Nat} {v0 v1 v2 v3 : Value}
theorem L4.all (h : L4 V b t v0 v1 v2 v3) : V.cell? ⟨b, 0, none⟩ = some v0 ∧ V.cell? ⟨b, 1, none⟩ = some v1 ∧ V.cell? ⟨b, 2, none⟩ = some v2 ∧ V.cell? ⟨b, 3, none⟩ = some v3 ∧
    V.frozen? ⟨b, 0, none⟩ = false ∧ V.frozen? ⟨b, 1, none⟩ = false ∧ V.frozen? ⟨b, 2, none⟩ = false ∧ V.frozen? ⟨b, 3, none⟩ = false ∧ b < V.heap.size ∧ b ≠ V.heap.size :=
  ⟨cell_of_heap h rfl, cell_of_heap h rfl, cell_of_heap h rfl, cell_of_heap h rfl, frozen_of_heap h, frozen_of_heap h, frozen_of_heap h, frozen_of_heap h, lt_of_heap h, by have := lt_of_heap h; omega⟩
theorem L4.fr (h : L4 V b t v0 v1 v2 v3) (hF : Fr [] V V') : L4 V' b t v0 v1 v2 v3 := hF.heap h (by simp)
theorem L4.alloc (h : L4 V b t v0 v1 v2 v3) (o : Obj) : L4 (V.alloc o) b t v0 v1 v2 v3 := h.fr ((Fr.refl [] V).alloc o)
theorem L4.new (V : World) (t : Nat) (v0 v1 v2 v3 : Value) : L4 (V.alloc (.cells #[v0, v1, v2, v3] t)) V.heap.size t v0 v1 v2 v3 := (MapKept.heap_alloc V _).1
theorem L4.new1 (V : World) (o : Obj) (t : Nat) (v0 v1 v2 v3 : Value) : L4 ((V.alloc o).alloc (.cells #[v0, v1, v2, v3] t)) (V.heap.size + 1) t v0 v1 v2 v3 := by
  have := L4.new (V.alloc o) t v0 v1 v2 v3
  simpa using this
theorem L4.new2 (V : World) (o p : Obj) (t : Nat) (v0 v1 v2 v3 : Value) : L4 (((V.alloc o).alloc p).alloc (.cells #[v0, v1, v2, v3] t)) (V.heap.size + 2) t v0 v1 v2 v3 := by
  have := L4.new ((V.alloc o).alloc p) t v0 v1 v2 v3
  simpa using this
end

theorem below_gen {v p m : Nat} (h2 : m = 2 * p + 38) (hv : v < 2 * p) : (bif decide (v < p) then v else (v + m - p) % m) = v % p := by
  by_cases h : v < p
  · simp only [h, decide_true, cond_true]; exact (Nat.mod_eq_of_lt h).symm
  · simp only [h, decide_false, cond_false]
    have e : v + m - p = (v - p) + m := by omega
    rw [e, Nat.add_mod_right, Nat.mod_eq_of_lt (by omega), Nat.mod_eq_sub_mod (by omega), Nat.mod_eq_of_lt (by omega)]
theorem below_arith {v : Nat} (hv : v < 2 * Nt.P) : (bif decide (v < Nt.P) then v else (v + 115792089237316195423570985008687907853269984665640564039457584007913129639936 - Nt.P) % 115792089237316195423570985008687907853269984665640564039457584007913129639936) = v % Nt.P := below_gen P_two_lt hv
theorem below_any (v : Nat) (hv : v < 2 * Nt.P) (w : World) (hP : PV w) : Calls Tryd.prog 51 #[wd v] w fun e w' => e = .returned (wd (v % Nt.P)) ∧ Fr [] w w' := by
  have hp := P_lt
  have hp2 := P_two_lt
  have hv4 : v < 115792089237316195423570985008687907853269984665640564039457584007913129639936 := by omega
  have K1 := fun W => minus_any v Nt.P hv4 hp W
  have K2 := fun W => pick_any (decide (v < Nt.P)) ((v + 115792089237316195423570985008687907853269984665640564039457584007913129639936 - Nt.P) % 115792089237316195423570985008687907853269984665640564039457584007913129639936) v (Nat.mod_lt _ (by decide)) hv4 W
  rw [below_arith hv] at K2
  have hn := neg_bo v Nt.P
  obtain ⟨a0, a1, a2, a3, p0, p1, p2, p3, ea, wa⟩ := wd_open v hv4
  obtain ⟨r0, r1, r2, r3, q0, q1, q2, q3, er, wr⟩ := wd_open ((v + 115792089237316195423570985008687907853269984665640564039457584007913129639936 - Nt.P) % 115792089237316195423570985008687907853269984665640564039457584007913129639936) (Nat.mod_lt _ (by decide))
  obtain ⟨s0, s1, s2, s3, _, _, _, _, es, ws⟩ := wd_open (v % Nt.P) (Nat.lt_of_lt_of_le (Nat.mod_lt _ (by omega)) (by omega))
  rw [wa, wr, ← wd_P] at K1
  rw [wa, wr, ws] at K2
  rw [wa, ws]
  generalize mk (decide (v < Nt.P)) = m at *
  generalize bo v Nt.P = b at *
  obtain ⟨c0, c1, c2, c3⟩ := hP
  have hz : 0 < w.heap.size := World.block_lt_of_cell? w _ c0
  have hz2 : (0 : Nat) ≠ w.heap.size := by omega
  clear ea er es p0 p1 p2 p3 q0 q1 q2 q3 wa wr ws hp hp2 hv hv4
  go_enter Tryd.func51, Tryd.ntmps51
  go_wp2_with (first | (go_at_call 60; refine (K1 _).mono ?_; rintro e V ⟨rfl, hF⟩; have A := ((L4.new w 41 _ _ _ _).alloc _).fr hF; have B := (L4.new1 w _ 41 _ _ _ _).fr hF; have F := (((Fr.refl [] w).alloc _).alloc _).trans0 hF; obtain ⟨a0c, a1c, a2c, a3c, _, _, _, _, a4c, a5c⟩ := A.all; clear hF hz2) | (go_at_call 61; refine (K2 _).mono ?_; rintro e V2 ⟨rfl, hF⟩; have B2 := (B.alloc _).fr hF; have F2 := (F.alloc _).trans0 hF; obtain ⟨b0c, b1c, b2c, b3c, b4c, b5c, b6c, b7c, b8c, b9c⟩ := B2.all; clear hF A B F a0c a1c a2c a3c a4c a5c))
  simp [bodyPost, results, Tryd.results51, go_sem, *]
  exact F2.set4 (by omega) _ _ _ _


theorem or_over (t h : Nat) (ht : t < 4611686018427387904) (hh : h < 2) : bits .or .u64 (((2 * t : Nat)) : Int) (h : Int) = ((2 * t + h : Nat) : Int) := by
  have h1 := bits_or_u64_nat (2 * t) h (by omega) (by omega)
  rw [nat_join 1 (2 * t) h (by omega) (by omega)] at h1
  exact h1
theorem and_low (a : Nat) (ha : a < 18446744073709551616) : bits .and .u64 (a : Int) 9223372036854775807 = ((a % 9223372036854775808 : Nat) : Int) := by
  have h := bits_and_u64_nat a 9223372036854775807 ha (by decide)
  have e : a &&& 9223372036854775807 = a % 9223372036854775808 := Nat.and_two_pow_sub_one_eq_mod a 63
  rw [e] at h
  exact h
theorem fold_gen {v top p m v0 ov h : Nat} (hm : m = p + 19) (hov : v + 2 * m * top = v0 + m * ov) : (v0 + 19 * ov) % p = (v + 2 * m * top) % p := by
  rw [hov, hm, Nat.add_mul, ← Nat.add_assoc, Nat.add_right_comm, Nat.add_mul_mod_self_left]

end Go.Proofs.YthbkhbfcocbnoaaDoor
