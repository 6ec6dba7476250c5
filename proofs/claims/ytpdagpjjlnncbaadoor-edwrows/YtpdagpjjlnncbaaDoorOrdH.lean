/-
  Package order: product. No statement is proved here.
-/
import Derived.Test.YtpdagpjjlnncbaaDoorOrdF
import Derived.Laws.CopyRow
import Derived.ChangeKeysEq
namespace Go.Proofs.YtpdagpjjlnncbaaDoor
open Go.RowKit Go.Lib Go.BigFrame
theorem Fr.set8 {w V : World} (h : Fr [] w V) {b : Nat} (hb : w.heap.size ≤ b) (u0 u1 u2 u3 u4 u5 u6 u7 : Value) : Fr [] w (((((((((V.setCell ⟨b, 0, none⟩ u0).setCell ⟨b, 1, none⟩ u1).setCell ⟨b, 2, none⟩ u2).setCell ⟨b, 3, none⟩ u3).setCell ⟨b, 4, none⟩ u4).setCell ⟨b, 5, none⟩ u5).setCell ⟨b, 6, none⟩ u6).setCell ⟨b, 7, none⟩ u7)) :=
  ((((((((h.setCell (.inr hb) u0).setCell (.inr hb) u1).setCell (.inr hb) u2).setCell (.inr hb) u3).setCell (.inr hb) u4).setCell (.inr hb) u5).setCell (.inr hb) u6).setCell (.inr hb) u7)
end Go.Proofs.YtpdagpjjlnncbaaDoor
namespace Go.Proofs.YtpdagpjjlnncbaaDoor.Ord
open Go.RowKit Go.Lib Go.BigFrame
set_option linter.unusedVariables false
set_option linter.unusedSimpArgs false
set_option maxRecDepth 1000000
set_option maxHeartbeats 4000000

/-- What words are, the lowest first. -/
def vw : List Nat → Nat
  | [] => 0
  | x :: l => x + 18446744073709551616 * vw l
theorem vw_set : ∀ (l : List Nat) (m x : Nat), m < l.length → vw (l.set m x) + 18446744073709551616 ^ m * l.getD m 0 = vw l + 18446744073709551616 ^ m * x
  | [], m, x, h => by simp at h
  | y :: l, 0, x, h => by simp [vw]; omega
  | y :: l, m + 1, x, h => by
    have ih := vw_set l m x (by simpa using h)
    show y + 18446744073709551616 * vw (l.set m x) + 18446744073709551616 ^ (m + 1) * l.getD m 0 = y + 18446744073709551616 * vw l + 18446744073709551616 ^ (m + 1) * x
    rw [Nat.pow_succ, Nat.mul_comm (18446744073709551616 ^ m) 18446744073709551616, Nat.mul_assoc, Nat.mul_assoc, Nat.add_assoc, Nat.add_assoc, ← Nat.mul_add, ← Nat.mul_add, ih]
theorem pow64 (j : Nat) : 2 ^ (64 * j) = 18446744073709551616 ^ j := by rw [Nat.pow_mul]
theorem wo_zero (N : Nat) : wo N 0 = N % 18446744073709551616 := by unfold wo; rw [Nat.mul_zero, Nat.pow_zero, Nat.div_one]
theorem wo_succ {x m : Nat} (h : x < 18446744073709551616) (i : Nat) : wo (x + 18446744073709551616 * m) (i + 1) = wo m i := by
  unfold wo
  rw [pow64, pow64, Nat.pow_succ, Nat.mul_comm (18446744073709551616 ^ i) 18446744073709551616, ← Nat.div_div_eq_div_mul, Nat.add_mul_div_left _ _ (by decide), Nat.div_eq_of_lt h, Nat.zero_add]
theorem dw_vw : ∀ l : List Nat, (∀ x ∈ l, x < 18446744073709551616) → dw (vw l) l.length = l
  | [], _ => rfl
  | x :: l, h => by
    have hx := h x (by simp)
    have ih := dw_vw l (fun y hy => h y (by simp [hy]))
    have e : wo (vw (x :: l)) 0 = x := by rw [wo_zero, vw, Nat.add_mul_mod_self_left, Nat.mod_eq_of_lt hx]
    have e2 : ∀ i, wo (vw (x :: l)) (i + 1) = wo (vw l) i := fun i => wo_succ hx i
    unfold dw at *
    rw [List.length_cons, List.range_succ_eq_map, List.map_cons, e, List.map_map]
    congr 1
    refine Eq.trans (List.map_congr_left fun i _ => ?_) ih
    exact e2 i
/-- The product ahead of step j of row i, with its carry. -/
structure PI (a b c i j k : Nat) (l : List Nat) : Prop where
  len : l.length = 8
  lt : ∀ x ∈ l, x < 18446744073709551616
  top : ∀ m, i + 4 ≤ m → l.getD m 0 = 0
  car : k < 18446744073709551616
  val : vw l + 18446744073709551616 ^ (i + j) * k = c + a % 18446744073709551616 ^ i * b + 18446744073709551616 ^ i * (wo a i * (b % 18446744073709551616 ^ j))
theorem getD_ltM {l : List Nat} (h : ∀ x ∈ l, x < 18446744073709551616) (m : Nat) : l.getD m 0 < 18446744073709551616 := by
  rw [List.getD_eq_getElem?_getD]
  cases e : l[m]? with
  | none => simp
  | some x => exact h x (List.mem_of_getElem? e)
theorem set_lt {l : List Nat} (h : ∀ x ∈ l, x < 18446744073709551616) (m : Nat) {y : Nat} (hy : y < 18446744073709551616) : ∀ x ∈ l.set m y, x < 18446744073709551616 := fun x hx => by
  rcases List.mem_or_eq_of_mem_set hx with h1 | h1
  · exact h x h1
  · rw [h1]; exact hy
theorem mod_wo (b j : Nat) : b % 18446744073709551616 ^ (j + 1) = b % 18446744073709551616 ^ j + 18446744073709551616 ^ j * wo b j := by
  unfold wo
  rw [pow64]; exact Nat.mod_pow_succ
theorem step_gen {T U v v2 s lo hi xy k C x bj y R : Nat} (hT : T * 18446744073709551616 = U) (h1 : v2 + T * s = v + T * lo) (h2 : v + T * k = C + R * (x * bj)) (h3 : lo + 18446744073709551616 * hi = x * y + s + k) {Tj : Nat} (hR : R * Tj = T) : v2 + U * hi = C + R * (x * (bj + Tj * y)) := by
  have e1 : T * lo + U * hi = T * (x * y) + T * s + T * k := by
    rw [← hT, Nat.mul_assoc, ← Nat.mul_add, h3, Nat.mul_add, Nat.mul_add]
  have e2 : R * (x * (bj + Tj * y)) = R * (x * bj) + T * (x * y) := by
    rw [Nat.mul_add, Nat.mul_add, Nat.mul_left_comm x Tj y, ← hR, Nat.mul_assoc]
  rw [e2]
  omega
theorem PI.step {a b c i j k lo hi : Nat} {l : List Nat} (h : PI a b c i j k l) (hi4 : i < 4) (hj : j < 4) (hlo : lo < 18446744073709551616) (hhi : hi < 18446744073709551616) (he : lo + 18446744073709551616 * hi = wo a i * wo b j + l.getD (i + j) 0 + k) : PI a b c i (j + 1) hi (l.set (i + j) lo) := by
  refine ⟨by rw [List.length_set]; exact h.len, set_lt h.lt _ hlo, fun m hm => ?_, hhi, ?_⟩
  · have := h.top m hm
    rw [List.getD_eq_getElem?_getD, List.getElem?_set_ne (by omega), ← List.getD_eq_getElem?_getD]; exact this
  · have h1 := vw_set l (i + j) lo (by rw [h.len]; omega)
    have hv := h.val
    rw [mod_wo b j]
    exact step_gen (T := 18446744073709551616 ^ (i + j)) (xy := 0) (by rw [← Nat.pow_succ]; rfl) h1 hv he (by rw [← Nat.pow_add])
theorem row_gen {T v k C A b R x bb : Nat} (h : v + T * k = C + A * b + R * (x * bb)) (hb : bb = b) : v + T * k = C + (A + R * x) * b := by
  rw [h, hb, Nat.add_mul, Nat.mul_assoc]; omega
theorem PI.row {a b c i k : Nat} {l : List Nat} (h : PI a b c i 4 k l) (hi4 : i < 4) (hb : b < 115792089237316195423570985008687907853269984665640564039457584007913129639936) : PI a b c (i + 1) 0 0 (l.set (i + 4) k) := by
  refine ⟨by rw [List.length_set]; exact h.len, set_lt h.lt _ h.car, fun m hm => ?_, by decide, ?_⟩
  · have := h.top m (by omega)
    rw [List.getD_eq_getElem?_getD, List.getElem?_set_ne (by omega), ← List.getD_eq_getElem?_getD]; exact this
  · have h1 := vw_set l (i + 4) k (by rw [h.len]; omega)
    rw [h.top (i + 4) (Nat.le_refl _), Nat.mul_zero, Nat.add_zero] at h1
    have h2 := row_gen h.val (Nat.mod_eq_of_lt (show b < 18446744073709551616 ^ 4 from hb))
    rw [← mod_wo] at h2
    rw [h1, h2, Nat.pow_zero, Nat.mod_one, Nat.mul_zero, Nat.mul_zero, Nat.mul_zero]
theorem PI.again {a b c i k : Nat} {l : List Nat} (h : PI a b c i 0 0 l) : PI a b c i 0 0 l := h
theorem PI.last {a b c : Nat} {l : List Nat} (h : PI a b c 4 0 0 l) (ha : a < 115792089237316195423570985008687907853269984665640564039457584007913129639936) : l = dw (a * b + c) 8 := by
  have hv := h.val
  rw [Nat.mul_zero, Nat.add_zero, Nat.pow_zero, Nat.mod_one, Nat.mul_zero, Nat.mul_zero, Nat.add_zero, Nat.mod_eq_of_lt (show a < 18446744073709551616 ^ 4 from ha)] at hv
  have := dw_vw l h.lt
  rw [h.len, hv, Nat.add_comm] at this
  exact this.symm
theorem PI.start {a b c c0 c1 c2 c3 : Nat} (h0 : c0 < 18446744073709551616) (h1 : c1 < 18446744073709551616) (h2 : c2 < 18446744073709551616) (h3 : c3 < 18446744073709551616) (hc : c = c0 + 18446744073709551616 * c1 + 340282366920938463463374607431768211456 * c2 + 6277101735386680763835789423207666416102355444464034512896 * c3) : PI a b c 0 0 0 [c0, c1, c2, c3, 0, 0, 0, 0] := by
  refine ⟨rfl, fun x hx => ?_, fun m hm => ?_, by decide, ?_⟩
  · simp at hx
    rcases hx with rfl | rfl | rfl | rfl | rfl <;> first | assumption | decide
  · rcases m with _ | _ | _ | _ | _ | _ | _ | _ | m <;> first | omega | rfl
  · rw [Nat.pow_zero, Nat.mod_one, Nat.mul_zero, Nat.zero_mul, Nat.mod_one, Nat.mul_zero, Nat.mul_zero]
    simp only [vw]
    omega

theorem run_idx (cs : Array Value) (i : Nat) (v : Value) (hi : i < 4) (hv : cs[i]? = some v) (w : World) : (Instr.index 44 (.agg cs) (.int .i64 (i : Nat))).run Tryd.prog w = .ok v w := by
  obtain ⟨j, hj, -, hs, -⟩ := info23
  have hp := run_part_plain (P := Tryd.prog) w (e := 23) (by kernel_rfl) (xs := cs) (off := i) hv
  have h1 : 0 ≤ (i : Int) ∧ (i : Int) < ((4 : Nat) : Int) := by omega
  have hz : (sizeOf 23).run Tryd.prog w = .ok 1 w := by simp [sizeOf, typeInfo, hj, hs]
  have hu : Tryd.prog.underlying 44 = some (.array 4 23) := by kernel_rfl
  simp [Instr.index, run_underlying hu, asIntOf, hz, hp, hi]
theorem open8 (t : List Nat) (h : t.length = 8) : ∃ y0 y1 y2 y3 y4 y5 y6 y7 : Nat, t = [y0, y1, y2, y3, y4, y5, y6, y7] := by
  match t, h with
  | [y0, y1, y2, y3, y4, y5, y6, y7], _ => exact ⟨_, _, _, _, _, _, _, _, rfl⟩
theorem RW.all8 {V : World} {b t y0 y1 y2 y3 y4 y5 y6 y7 : Nat} (h : RW V b t [y0, y1, y2, y3, y4, y5, y6, y7]) : V.cell? ⟨b, 0, none⟩ = some (.int .u64 (y0 : Nat)) ∧ V.cell? ⟨b, 1, none⟩ = some (.int .u64 (y1 : Nat)) ∧ V.cell? ⟨b, 2, none⟩ = some (.int .u64 (y2 : Nat)) ∧ V.cell? ⟨b, 3, none⟩ = some (.int .u64 (y3 : Nat)) ∧ V.cell? ⟨b, 4, none⟩ = some (.int .u64 (y4 : Nat)) ∧ V.cell? ⟨b, 5, none⟩ = some (.int .u64 (y5 : Nat)) ∧ V.cell? ⟨b, 6, none⟩ = some (.int .u64 (y6 : Nat)) ∧ V.cell? ⟨b, 7, none⟩ = some (.int .u64 (y7 : Nat)) ∧ V.frozen? ⟨b, 0, none⟩ = false ∧ V.frozen? ⟨b, 1, none⟩ = false ∧ V.frozen? ⟨b, 2, none⟩ = false ∧ V.frozen? ⟨b, 3, none⟩ = false ∧ V.frozen? ⟨b, 4, none⟩ = false ∧ V.frozen? ⟨b, 5, none⟩ = false ∧ V.frozen? ⟨b, 6, none⟩ = false ∧ V.frozen? ⟨b, 7, none⟩ = false ∧ b < V.heap.size ∧ b ≠ V.heap.size :=
  ⟨h.cell 0 (by simp), h.cell 1 (by simp), h.cell 2 (by simp), h.cell 3 (by simp), h.cell 4 (by simp), h.cell 5 (by simp), h.cell 6 (by simp), h.cell 7 (by simp), h.frozen 0, h.frozen 1, h.frozen 2, h.frozen 3, h.frozen 4, h.frozen 5, h.frozen 6, h.frozen 7, h.lt, by have := h.lt; omega⟩
theorem RW.of8z {V : World} {b t : Nat} (h : V.heap[b]? = some (.cells #[.int .u64 0, .int .u64 0, .int .u64 0, .int .u64 0, .int .u64 0, .int .u64 0, .int .u64 0, .int .u64 0] t)) : RW V b t [0, 0, 0, 0, 0, 0, 0, 0] := h
theorem heap_new2 (V : World) (o p q : Obj) : (((V.alloc o).alloc p).alloc q).heap[V.heap.size + 2]? = some q := by
  have := (MapKept.heap_alloc ((V.alloc o).alloc p) q).1
  simpa using this
theorem heap_new3 (V : World) (o p q r : Obj) : ((((V.alloc o).alloc p).alloc q).alloc r).heap[V.heap.size + 3]? = some r := by
  have := (MapKept.heap_alloc (((V.alloc o).alloc p).alloc q) r).1
  simpa using this
theorem heap_new4 (V : World) (o p q r s : Obj) : (((((V.alloc o).alloc p).alloc q).alloc r).alloc s).heap[V.heap.size + 4]? = some s := by
  have := (MapKept.heap_alloc ((((V.alloc o).alloc p).alloc q).alloc r) s).1
  simpa using this
theorem copy_w {V : World} {bA bC : Nat} {c0 c1 c2 c3 : Nat} (hA : RW V bA 92 [0, 0, 0, 0, 0, 0, 0, 0]) (hC : L4 V bC 44 (.int .u64 (c0 : Nat)) (.int .u64 (c1 : Nat)) (.int .u64 (c2 : Nat)) (.int .u64 (c3 : Nat))) (ty : TypeId) :
    (Builtin.copy_ #[79, 79] ty #[.slice (some ⟨bA, 0, none⟩) 8 8, .slice (some ⟨bC, 0, none⟩) 4 4]).run Tryd.prog V = .ok (goInt 4) (V.setRow bA (wc [c0, c1, c2, c3, 0, 0, 0, 0])) := by
  obtain ⟨h0, h1, h2, h3, -, -, -, -, -, -⟩ := hC.all
  have := run_copy_row (P := Tryd.prog) V 79 79 ty 23 bA 0 8 8 ⟨bC, 0, none⟩ 4 4 (wc [0, 0, 0, 0, 0, 0, 0, 0]) 92 [.int .u64 (c0 : Nat), .int .u64 (c1 : Nat), .int .u64 (c2 : Nat), .int .u64 (c3 : Nat)] (by kernel_rfl) (by kernel_rfl) hA rfl
    (fun j v hv => by
      have hadd : (⟨bC, 0, none⟩ : Addr).add j = ⟨bC, j, none⟩ := by unfold Addr.add; split <;> simp_all
      rw [hadd]
      rcases j with _ | _ | _ | _ | j
      · simp at hv; rw [h0, hv]
      · simp at hv; rw [h1, hv]
      · simp at hv; rw [h2, hv]
      · simp at hv; rw [h3, hv]
      · simp at hv) (by simp [wc]) (fun v hv => by simp at hv; rcases hv with rfl | rfl | rfl | rfl <;> rfl)
  exact this
theorem RW.setRow {V : World} {b t : Nat} {l : List Nat} (h : RW V b t l) (m : List Nat) : RW (V.setRow b (wc m)) b t m := setRow_heap V b _ _ t _ h
theorem RW.setRow_other {V : World} {b b' t : Nat} {l : List Nat} (h : RW V b t l) (hne : b ≠ b') (c : Array Value) : RW (V.setRow b' c) b t l := by
  unfold RW
  rw [Go.setRow_other V b' b c hne]; exact h
theorem L4.setRow_other {V : World} {b b' t : Nat} {v0 v1 v2 v3 : Value} (h : L4 V b t v0 v1 v2 v3) (hne : b ≠ b') (c : Array Value) : L4 (V.setRow b' c) b t v0 v1 v2 v3 := by
  unfold L4
  rw [Go.setRow_other V b' b c hne]; exact h
theorem product_any (a b c : Nat) (ha : a < 115792089237316195423570985008687907853269984665640564039457584007913129639936) (hb : b < 115792089237316195423570985008687907853269984665640564039457584007913129639936) (hc : c < 115792089237316195423570985008687907853269984665640564039457584007913129639936) (w : World) : Calls Tryd.prog 60 #[wd a, wd b, wd c] w fun e w' => e = .returned (.agg (wc (dw (a * b + c) 8))) ∧ Fr [] w w' := by
  obtain ⟨a0, a1, a2, a3, -, -, -, -, -, wa⟩ := wd_open a ha
  obtain ⟨b0, b1, b2, b3, -, -, -, -, -, wb⟩ := wd_open b hb
  obtain ⟨c0, c1, c2, c3, r0, r1, r2, r3, ec, wc'⟩ := wd_open c hc
  have hxa : ∀ i, i < 4 → (#[.int .u64 (a0 : Nat), .int .u64 (a1 : Nat), .int .u64 (a2 : Nat), .int .u64 (a3 : Nat)] : Array Value)[i]? = some (.int .u64 ((wo a i : Nat) : Int)) := fun i hi => by
    have e := (wd_dw a).trans wa
    injection e with e
    rw [← e]; simp [wc, dw, hi]
  have hxb : ∀ i, i < 4 → (#[.int .u64 (b0 : Nat), .int .u64 (b1 : Nat), .int .u64 (b2 : Nat), .int .u64 (b3 : Nat)] : Array Value)[i]? = some (.int .u64 ((wo b i : Nat) : Int)) := fun i hi => by
    have e := (wd_dw b).trans wb
    injection e with e
    rw [← e]; simp [wc, dw, hi]
  have HXA := hid (p := _) hxa
  have HXB := hid (p := _) hxb
  clear hxa hxb
  have hS := hid (p := _) (PI.start (a := a) (b := b) r0 r1 r2 r3 ec)
  obtain ⟨x0, x1, x2, x3, x4, x5, x6, x7, ex⟩ := open8 (dw (a * b + c) 8) (dw_len _ _)
  rw [wa, wb, wc', ex]
  have HX := hid (p := _) ex
  clear wa wb wc' r0 r1 r2 r3 ec hc ex
  go_enter Tryd.func60, Tryd.ntmps60
  go_wp2_with fail
  have F : Fr [] w (((((w.alloc (.cells #[.int .u64 (a0 : Nat), .int .u64 (a1 : Nat), .int .u64 (a2 : Nat), .int .u64 (a3 : Nat)] 44)).alloc (.cells #[.int .u64 (b0 : Nat), .int .u64 (b1 : Nat), .int .u64 (b2 : Nat), .int .u64 (b3 : Nat)] 44)).alloc (.cells #[.int .u64 (c0 : Nat), .int .u64 (c1 : Nat), .int .u64 (c2 : Nat), .int .u64 (c3 : Nat)] 44)).alloc (.cells #[.int .u64 0, .int .u64 0, .int .u64 0, .int .u64 0, .int .u64 0, .int .u64 0, .int .u64 0, .int .u64 0] 92)).alloc (.cells #[.int .u64 0, .int .u64 0, .int .u64 0, .int .u64 0, .int .u64 0, .int .u64 0, .int .u64 0, .int .u64 0] 92)) := (((((Fr.refl [] w).alloc _).alloc _).alloc _).alloc _).alloc _
  have A : L4 (((((w.alloc (.cells #[.int .u64 (a0 : Nat), .int .u64 (a1 : Nat), .int .u64 (a2 : Nat), .int .u64 (a3 : Nat)] 44)).alloc (.cells #[.int .u64 (b0 : Nat), .int .u64 (b1 : Nat), .int .u64 (b2 : Nat), .int .u64 (b3 : Nat)] 44)).alloc (.cells #[.int .u64 (c0 : Nat), .int .u64 (c1 : Nat), .int .u64 (c2 : Nat), .int .u64 (c3 : Nat)] 44)).alloc (.cells #[.int .u64 0, .int .u64 0, .int .u64 0, .int .u64 0, .int .u64 0, .int .u64 0, .int .u64 0, .int .u64 0] 92)).alloc (.cells #[.int .u64 0, .int .u64 0, .int .u64 0, .int .u64 0, .int .u64 0, .int .u64 0, .int .u64 0, .int .u64 0] 92)) w.heap.size 44 (.int .u64 (a0 : Nat)) (.int .u64 (a1 : Nat)) (.int .u64 (a2 : Nat)) (.int .u64 (a3 : Nat)) := ((((L4.new w 44 _ _ _ _).alloc _).alloc _).alloc _).alloc _
  have B : L4 (((((w.alloc (.cells #[.int .u64 (a0 : Nat), .int .u64 (a1 : Nat), .int .u64 (a2 : Nat), .int .u64 (a3 : Nat)] 44)).alloc (.cells #[.int .u64 (b0 : Nat), .int .u64 (b1 : Nat), .int .u64 (b2 : Nat), .int .u64 (b3 : Nat)] 44)).alloc (.cells #[.int .u64 (c0 : Nat), .int .u64 (c1 : Nat), .int .u64 (c2 : Nat), .int .u64 (c3 : Nat)] 44)).alloc (.cells #[.int .u64 0, .int .u64 0, .int .u64 0, .int .u64 0, .int .u64 0, .int .u64 0, .int .u64 0, .int .u64 0] 92)).alloc (.cells #[.int .u64 0, .int .u64 0, .int .u64 0, .int .u64 0, .int .u64 0, .int .u64 0, .int .u64 0, .int .u64 0] 92)) (w.heap.size + 1) 44 (.int .u64 (b0 : Nat)) (.int .u64 (b1 : Nat)) (.int .u64 (b2 : Nat)) (.int .u64 (b3 : Nat)) := (((L4.new1 w _ 44 _ _ _ _).alloc _).alloc _).alloc _
  have C : L4 (((((w.alloc (.cells #[.int .u64 (a0 : Nat), .int .u64 (a1 : Nat), .int .u64 (a2 : Nat), .int .u64 (a3 : Nat)] 44)).alloc (.cells #[.int .u64 (b0 : Nat), .int .u64 (b1 : Nat), .int .u64 (b2 : Nat), .int .u64 (b3 : Nat)] 44)).alloc (.cells #[.int .u64 (c0 : Nat), .int .u64 (c1 : Nat), .int .u64 (c2 : Nat), .int .u64 (c3 : Nat)] 44)).alloc (.cells #[.int .u64 0, .int .u64 0, .int .u64 0, .int .u64 0, .int .u64 0, .int .u64 0, .int .u64 0, .int .u64 0] 92)).alloc (.cells #[.int .u64 0, .int .u64 0, .int .u64 0, .int .u64 0, .int .u64 0, .int .u64 0, .int .u64 0, .int .u64 0] 92)) (w.heap.size + 1 + 1) 44 (.int .u64 (c0 : Nat)) (.int .u64 (c1 : Nat)) (.int .u64 (c2 : Nat)) (.int .u64 (c3 : Nat)) := ((L4.new2 w _ _ 44 _ _ _ _).alloc _).alloc _
  have R : RW (((((w.alloc (.cells #[.int .u64 (a0 : Nat), .int .u64 (a1 : Nat), .int .u64 (a2 : Nat), .int .u64 (a3 : Nat)] 44)).alloc (.cells #[.int .u64 (b0 : Nat), .int .u64 (b1 : Nat), .int .u64 (b2 : Nat), .int .u64 (b3 : Nat)] 44)).alloc (.cells #[.int .u64 (c0 : Nat), .int .u64 (c1 : Nat), .int .u64 (c2 : Nat), .int .u64 (c3 : Nat)] 44)).alloc (.cells #[.int .u64 0, .int .u64 0, .int .u64 0, .int .u64 0, .int .u64 0, .int .u64 0, .int .u64 0, .int .u64 0] 92)).alloc (.cells #[.int .u64 0, .int .u64 0, .int .u64 0, .int .u64 0, .int .u64 0, .int .u64 0, .int .u64 0, .int .u64 0] 92)) (w.heap.size + 1 + 1 + 1) 92 [0, 0, 0, 0, 0, 0, 0, 0] := (RW.of8z (heap_new3 w _ _ _ _)).alloc _
  have T : RW (((((w.alloc (.cells #[.int .u64 (a0 : Nat), .int .u64 (a1 : Nat), .int .u64 (a2 : Nat), .int .u64 (a3 : Nat)] 44)).alloc (.cells #[.int .u64 (b0 : Nat), .int .u64 (b1 : Nat), .int .u64 (b2 : Nat), .int .u64 (b3 : Nat)] 44)).alloc (.cells #[.int .u64 (c0 : Nat), .int .u64 (c1 : Nat), .int .u64 (c2 : Nat), .int .u64 (c3 : Nat)] 44)).alloc (.cells #[.int .u64 0, .int .u64 0, .int .u64 0, .int .u64 0, .int .u64 0, .int .u64 0, .int .u64 0, .int .u64 0] 92)).alloc (.cells #[.int .u64 0, .int .u64 0, .int .u64 0, .int .u64 0, .int .u64 0, .int .u64 0, .int .u64 0, .int .u64 0] 92)) (w.heap.size + 1 + 1 + 1 + 1) 92 [0, 0, 0, 0, 0, 0, 0, 0] := RW.of8z (heap_new4 w _ _ _ _ _)
  generalize ((((w.alloc (.cells #[.int .u64 (a0 : Nat), .int .u64 (a1 : Nat), .int .u64 (a2 : Nat), .int .u64 (a3 : Nat)] 44)).alloc (.cells #[.int .u64 (b0 : Nat), .int .u64 (b1 : Nat), .int .u64 (b2 : Nat), .int .u64 (b3 : Nat)] 44)).alloc (.cells #[.int .u64 (c0 : Nat), .int .u64 (c1 : Nat), .int .u64 (c2 : Nat), .int .u64 (c3 : Nat)] 44)).alloc (.cells #[.int .u64 0, .int .u64 0, .int .u64 0, .int .u64 0, .int .u64 0, .int .u64 0, .int .u64 0, .int .u64 0] 92)).alloc (.cells #[.int .u64 0, .int .u64 0, .int .u64 0, .int .u64 0, .int .u64 0, .int .u64 0, .int .u64 0, .int .u64 0] 92) = U at *
  refine wp_region_last_ext [_, _] _ (by kernel_rfl) (by kernel_rfl) (by kernel_rfl) (by kernel_rfl) (by kernel_rfl) ?_
  simp only [List.cons_append, List.nil_append, idle]
  repeat (go_big_quiet_step (fail))
  refine wpQuiet_nil ?_
  rintro _ ⟨xq, rfl⟩
  have hcp := copy_w (T.ext xq) (C.fr (ext_fr _ xq))
  have F2 := (F.ext xq).setRow (g := w.heap.size + 1 + 1 + 1 + 1) (.inr (by omega)) (wc [c0, c1, c2, c3, 0, 0, 0, 0])
  have A2 := (A.fr (ext_fr _ xq)).setRow_other (b' := w.heap.size + 1 + 1 + 1 + 1) (by omega) (wc [c0, c1, c2, c3, 0, 0, 0, 0])
  have B2 := (B.fr (ext_fr _ xq)).setRow_other (b' := w.heap.size + 1 + 1 + 1 + 1) (by omega) (wc [c0, c1, c2, c3, 0, 0, 0, 0])
  have R2 := (R.ext xq).setRow_other (b' := w.heap.size + 1 + 1 + 1 + 1) (by omega) (wc [c0, c1, c2, c3, 0, 0, 0, 0])
  have T2 := (T.ext xq).setRow [c0, c1, c2, c3, 0, 0, 0, 0]
  generalize (ext U xq).setRow (w.heap.size + 1 + 1 + 1 + 1) (wc [c0, c1, c2, c3, 0, 0, 0, 0]) = V at *
  clear F A B C R T
  obtain ⟨a0c, a1c, a2c, a3c, a4c, a5c, a6c, a7c, a8c, a9c⟩ := A2.all
  obtain ⟨b0c, b1c, b2c, b3c, b4c, b5c, b6c, b7c, b8c, b9c⟩ := B2.all
  go_simp
  clear hcp
  go_wp2_with fail
  go_loopg [17] 4 (fun gk q wr => ∃ (i : Nat) (l : List Nat), i ≤ 4 ∧ gk = 4 - i ∧ q = .int .i64 i ∧ Hid (Fr [] w wr ∧ L4 wr (w.heap.size + 1) 44 (.int .u64 (b0 : Nat)) (.int .u64 (b1 : Nat)) (.int .u64 (b2 : Nat)) (.int .u64 (b3 : Nat)) ∧ RW wr (w.heap.size + 1 + 1 + 1) 92 [0, 0, 0, 0, 0, 0, 0, 0] ∧ RW wr (w.heap.size + 1 + 1 + 1 + 1) 92 l ∧ PI a b c i 0 0 l))
  case atStart => exact ⟨0, _, Nat.zero_le _, rfl, rfl, hid ⟨F2, B2, R2, T2, hS.out⟩⟩
  case round =>
    clear F2 A2 B2 R2 T2 a0c a1c a2c a3c a4c a5c a6c a7c a8c a9c b0c b1c b2c b3c b4c b5c b6c b7c b8c b9c
    obtain ⟨i, l, hi, hgk, rfl, K1⟩ := hrel
    by_cases hlt : i < 4
    · have hlt' : (i : Int) < 4 := by omega
      have hx := fun W => run_idx _ i _ hlt (HXA.out i hlt) W
      obtain ⟨b0c, b1c, b2c, b3c, b4c, b5c, b6c, b7c, b8c, b9c⟩ := K1.out.2.1.all
      go_wp2_with fail
      go_loopg [10, 22] 4 (fun gj q10 q22 wr => ∃ (j k : Nat) (l : List Nat), j ≤ 4 ∧ gj = 4 - j ∧ q10 = .int .u64 k ∧ q22 = .int .i64 j ∧ Hid (Fr [] w wr ∧ L4 wr (w.heap.size + 1) 44 (.int .u64 (b0 : Nat)) (.int .u64 (b1 : Nat)) (.int .u64 (b2 : Nat)) (.int .u64 (b3 : Nat)) ∧ RW wr (w.heap.size + 1 + 1 + 1) 92 [0, 0, 0, 0, 0, 0, 0, 0] ∧ RW wr (w.heap.size + 1 + 1 + 1 + 1) 92 l ∧ PI a b c i j k l))
      case atStart => exact ⟨0, 0, l, Nat.zero_le _, rfl, rfl, rfl, K1⟩
      case round =>
        clear K1 b0c b1c b2c b3c b4c b5c b6c b7c b8c b9c
        obtain ⟨j, k, l, hj, hgj, rfl, rfl, K⟩ := hrel
        by_cases hlj : j < 4
        · have hlj' : (j : Int) < 4 := by omega
          have hij : (i : Int) + (j : Int) < 8 := by omega
          have hy := fun W => run_idx _ j _ hlj (HXB.out j hlj) W
          have e3 := K.out.2.2.2.1.cell (i + j) (by rw [K.out.2.2.2.2.len]; omega)
          have g3 := K.out.2.2.2.1.frozen (i + j)
          have l3 := K.out.2.2.2.1.lt
          obtain ⟨lo, hi', h1, h2, h3, KS⟩ := step_any (wo a i) (wo b j) (l.getD (i + j) 0) k (wo_lt a i) (wo_lt b j) (getD_ltM K.out.2.2.2.2.lt _) K.out.2.2.2.2.car
          have HM := hid (p := _) (K.out.2.2.2.2.step hlt hlj h1 h2 h3)
          have HN := hid (p := _) (K.out.2.2.2.1.set (i + j) lo)
          have HF := hid (p := _) K.out.1
          have HB := hid (p := _) K.out.2.1
          have HR := hid (p := _) K.out.2.2.1
          have HS := hid (p := _) KS
          clear K KS h1 h2 h3
          generalize l.set (i + j) lo = l2 at *
          generalize l.getD (i + j) 0 = o at *
          generalize wo a i = x at *
          generalize wo b j = y at *
          go_wp2_with (go_at_call 84; with_reducible refine (HS.out _).mono ?_; rintro e V' ⟨rfl, hV⟩; obtain rfl := hV.symm)
          go_roundg (4 - (j + 1))
          case measure => omega
          case rel =>
            exact ⟨j + 1, hi', l2, by omega, rfl, rfl, by go_num, hid ⟨HF.out.setCell (.inr (by show w.heap.size ≤ w.heap.size + 4; omega)) _, HB.out.frS (S := [w.heap.size + 1 + 1 + 1 + 1]) ((Fr.refl _ _).setCell (.inl (by simp)) _) (by simp), HR.out.other (by show w.heap.size + 3 ≠ w.heap.size + 4; omega) _, HN.out, HM.out⟩⟩
        · obtain rfl : j = 4 := by omega
          have hi8 : (i : Int) + 4 < 8 := by omega
          have e3 := K.out.2.2.2.1.cell (i + 4) (by rw [K.out.2.2.2.2.len]; omega)
          have g3 := K.out.2.2.2.1.frozen (i + 4)
          have l3 := K.out.2.2.2.1.lt
          have HM := hid (p := _) (K.out.2.2.2.2.row hlt hb)
          have HN := hid (p := _) (K.out.2.2.2.1.set (i + 4) k)
          have HF := hid (p := _) K.out.1
          have HB := hid (p := _) K.out.2.1
          have HR := hid (p := _) K.out.2.2.1
          clear K
          generalize l.set (i + 4) k = l2 at *
          go_wp2_with fail
          go_roundg (4 - (i + 1))
          case measure => omega
          case rel =>
            exact ⟨i + 1, l2, by omega, rfl, by go_num, hid ⟨HF.out.setCell (.inr (by show w.heap.size ≤ w.heap.size + 4; omega)) _, HB.out.frS (S := [w.heap.size + 1 + 1 + 1 + 1]) ((Fr.refl _ _).setCell (.inl (by simp)) _) (by simp), HR.out.other (by show w.heap.size + 3 ≠ w.heap.size + 4; omega) _, HN.out, HM.out⟩⟩
    · obtain rfl : i = 4 := by omega
      have hl := K1.out.2.2.2.2.last ha
      have T := K1.out.2.2.2.1
      rw [hl, HX.out] at T
      have Z := K1.out.2.2.1
      have F := K1.out.1
      clear K1 hl
      obtain ⟨_, _, _, _, _, _, _, _, _, _, _, _, _, _, _, _, _, _⟩ := T.all8
      obtain ⟨_, _, _, _, _, _, _, _, _, _, _, _, _, _, _, _, _, _⟩ := Z.all8
      go_wp2_with fail
      simp [bodyPost, results, Tryd.results60, go_sem, wc, *]
      exact F.set8 (by omega) _ _ _ _ _ _ _ _
end Go.Proofs.YtpdagpjjlnncbaaDoor.Ord
