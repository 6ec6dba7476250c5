/-
  The document's numbers (pharosref06): nine digits of 30 bits. Rows of words in memory; Prime, Small, Less, Minus. No statement is proved here.
-/
import Derived.Test.YtpdagpjjlnncbaaDoorNumN
namespace Go.Proofs.YtpdagpjjlnncbaaDoor
open Go.RowKit Go.Lib Go.BigFrame
set_option linter.unusedVariables false
set_option linter.unusedSimpArgs false
set_option maxRecDepth 1000000
set_option maxHeartbeats 2000000

/-- The cells of a row of words. -/
def wc (l : List Nat) : Array Value := (l.map fun x => Value.int .u64 ((x : Nat) : Int)).toArray
/-- A row of words in a block of its own. -/
def RW (V : World) (b t : Nat) (l : List Nat) : Prop := V.heap[b]? = some (.cells (wc l) t)
section
variable {V V' : World} {b t : Nat} {l : List Nat}
theorem RW.fr (h : RW V b t l) (hF : Fr [] V V') : RW V' b t l := hF.heap h (by simp)
theorem RW.alloc (h : RW V b t l) (o : Obj) : RW (V.alloc o) b t l := h.fr ((Fr.refl [] V).alloc o)
theorem RW.lt (h : RW V b t l) : b < V.heap.size := lt_of_heap h
theorem RW.cell (h : RW V b t l) (i : Nat) (hi : i < l.length) : V.cell? ⟨b, i, none⟩ = some (.int .u64 ((l.getD i 0 : Nat) : Int)) :=
  cell_of_heap h (by simp [wc, hi])
theorem RW.frozen (h : RW V b t l) (i : Nat) : V.frozen? ⟨b, i, none⟩ = false := frozen_of_heap h
theorem RW.set (h : RW V b t l) (i x : Nat) : RW (V.setCell ⟨b, i, none⟩ (.int .u64 ((x : Nat) : Int))) b t (l.set i x) := by
  have h2 := heap_setCell_same V b i _ t (.int .u64 ((x : Nat) : Int)) h
  unfold RW
  rw [h2]
  congr 2
  simp [wc, List.map_set]
theorem RW.other (h : RW V b t l) {p : Addr} (hne : b ≠ p.block) (u : Value) : RW (V.setCell p u) b t l := by
  unfold RW
  rw [heap_setCell_other _ _ _ _ hne]; exact h
theorem RW.ext (h : RW V b t l) (x : World) : RW (Go.Proofs.YtpdagpjjlnncbaaDoor.ext V x) b t l := h.fr (ext_fr V x)
end

/-- The digit i of 30 bits. -/
def dt (n i : Nat) : Nat := n / 2 ^ (30 * i) % 1073741824
def dts (n : Nat) : List Nat := (List.range 9).map (dt n)
/-- A number of the document's, as a value. -/
def nd (n : Nat) : Value := .agg (wc (dts n))
theorem dts_len (n : Nat) : (dts n).length = 9 := by simp [dts]
theorem dts_get (n i : Nat) (h : i < 9) : (dts n).getD i 0 = dt n i := by simp [dts, h]
theorem dt_lt (n i : Nat) : dt n i < 1073741824 := Nat.mod_lt _ (by decide)
theorem nd_open (n : Nat) : ∃ d0 d1 d2 d3 d4 d5 d6 d7 d8 : Nat, dts n = [d0, d1, d2, d3, d4, d5, d6, d7, d8] ∧ nd n = .agg #[.int .u64 (d0 : Nat), .int .u64 (d1 : Nat), .int .u64 (d2 : Nat), .int .u64 (d3 : Nat), .int .u64 (d4 : Nat), .int .u64 (d5 : Nat), .int .u64 (d6 : Nat), .int .u64 (d7 : Nat), .int .u64 (d8 : Nat)] :=
  ⟨_, _, _, _, _, _, _, _, _, rfl, rfl⟩

theorem dt_P : dts Nt.P = [1073741805, 1073741823, 1073741823, 1073741823, 1073741823, 1073741823, 1073741823, 1073741823, 32767] := by
  rw [Nt.P_val]; decide +kernel
theorem prime_any (w : World) : Calls Tryd.prog 70 #[] w fun e w' => e = .returned (nd Nt.P) ∧ Fr [] w w' := by
  have e : nd Nt.P = .agg #[.int .u64 1073741805, .int .u64 1073741823, .int .u64 1073741823, .int .u64 1073741823, .int .u64 1073741823, .int .u64 1073741823, .int .u64 1073741823, .int .u64 1073741823, .int .u64 32767] := by
    unfold nd
    rw [dt_P]; rfl
  rw [e]
  go_enter Tryd.func70, Tryd.ntmps70
  go_wp2
  simp [bodyPost, results, Tryd.results70, go_sem]
  exact (Fr.refl [] w).alloc _

theorem div_split {B D m : Nat} (hm : 0 < m) : (B + D) / m = B / m + D / m + if (B + D) % m < B % m then 1 else 0 := by
  have hb := Nat.div_add_mod B m
  have hd := Nat.div_add_mod D m
  have rb := Nat.mod_lt B hm
  have rd := Nat.mod_lt D hm
  generalize B / m = qb at *
  generalize D / m = qd at *
  generalize B % m = xb at *
  generalize D % m = xd at *
  have e : B + D = (xb + xd) + m * (qb + qd) := by rw [Nat.mul_add]; omega
  rw [e, Nat.add_mul_div_left _ _ hm, Nat.add_mul_mod_self_left]
  by_cases h : xb + xd < m
  · rw [Nat.div_eq_of_lt h, Nat.mod_eq_of_lt h, if_neg (by omega)]; omega
  · have h1 : (xb + xd) / m = 1 := by
      have e2 : xb + xd = (xb + xd - m) + m * 1 := by omega
      rw [e2, Nat.add_mul_div_left _ _ hm, Nat.div_eq_of_lt (by omega)]
    have h2 : (xb + xd) % m = xb + xd - m := by rw [Nat.mod_eq_sub_mod (by omega), Nat.mod_eq_of_lt (by omega)]
    rw [h1, h2, if_pos (by omega)]; omega
theorem minus_gen {A B m K : Nat} (hm : 0 < m) (hK : 0 < K) (hAB : B ≤ A) : K * (if A % (m * K) < B % (m * K) then 1 else 0) + A / m % K = B / m % K + (if A % m < B % m then 1 else 0) + (A - B) / m % K := by
  obtain ⟨D, rfl⟩ : ∃ D, A = B + D := ⟨A - B, by omega⟩
  rw [show B + D - B = D by omega]
  have h1 := div_split (B := B) (D := D) hm
  have h2 := div_split (B := B) (D := D) (Nat.mul_pos hm hK)
  have a1 := Nat.div_add_mod ((B + D) / m) K
  have a2 := Nat.div_add_mod (B / m) K
  have a3 := Nat.div_add_mod (D / m) K
  rw [Nat.div_div_eq_div_mul] at a1 a2 a3
  generalize (if (B + D) % (m * K) < B % (m * K) then 1 else 0) = c2 at *
  generalize (if (B + D) % m < B % m then 1 else 0) = c1 at *
  rw [h2, h1] at a1
  have e : K * (B / (m * K) + D / (m * K) + c2) = K * (B / (m * K)) + K * (D / (m * K)) + K * c2 := by rw [Nat.mul_add, Nat.mul_add]
  rw [e] at a1
  rw [h1]
  omega
/-- The borrow ahead of digit i. -/
def bw (A B i : Nat) : Nat := if A % 2 ^ (30 * i) < B % 2 ^ (30 * i) then 1 else 0
theorem bw_le (A B i : Nat) : bw A B i ≤ 1 := by unfold bw; split <;> omega
theorem minus_dt {A B : Nat} (h : B ≤ A) (i : Nat) : 1073741824 * bw A B (i + 1) + dt A i = dt B i + bw A B i + dt (A - B) i := by
  have := minus_gen (A := A) (B := B) (m := 2 ^ (30 * i)) (K := 1073741824) (Nat.two_pow_pos _) (by decide) h
  have e : 2 ^ (30 * i) * 1073741824 = 2 ^ (30 * (i + 1)) := by rw [Nat.mul_add, Nat.pow_add]
  rw [e] at this
  exact this
/-- The row of Minus ahead of digit i. -/
def ml (A B i : Nat) : List Nat := (List.range 9).map fun j => if j < i then dt (A - B) j else dt A j
theorem ml_zero (A B : Nat) : ml A B 0 = dts A := by simp [ml, dts]
theorem ml_nine (A B : Nat) : ml A B 9 = dts (A - B) := by
  unfold ml dts
  apply List.map_congr_left
  intro j hj
  rw [if_pos (by simpa using hj)]
theorem ml_get (A B i : Nat) (h : i < 9) : (ml A B i).getD i 0 = dt A i := by simp [ml, h]
theorem ml_len (A B i : Nat) : (ml A B i).length = 9 := by simp [ml]
theorem ml_set (A B i : Nat) (h : i < 9) : (ml A B i).set i (dt (A - B) i) = ml A B (i + 1) := by
  apply List.ext_getElem
  · simp [ml]
  · intro j h1 h2
    have hj : j < 9 := by simpa [ml] using h2
    rw [List.getElem_set]
    split
    · rename_i e
      subst e
      simp [ml]
    · rename_i e
      simp only [ml, List.getElem_map, List.getElem_range]
      by_cases hji : j < i
      · rw [if_pos hji, if_pos (by omega)]
      · rw [if_neg hji, if_neg (by omega)]

theorem RW.all {V : World} {b t c0 c1 c2 c3 c4 c5 c6 c7 c8 : Nat} (h : RW V b t [c0, c1, c2, c3, c4, c5, c6, c7, c8]) : V.cell? ⟨b, 0, none⟩ = some (.int .u64 (c0 : Nat)) ∧ V.cell? ⟨b, 1, none⟩ = some (.int .u64 (c1 : Nat)) ∧ V.cell? ⟨b, 2, none⟩ = some (.int .u64 (c2 : Nat)) ∧ V.cell? ⟨b, 3, none⟩ = some (.int .u64 (c3 : Nat)) ∧ V.cell? ⟨b, 4, none⟩ = some (.int .u64 (c4 : Nat)) ∧ V.cell? ⟨b, 5, none⟩ = some (.int .u64 (c5 : Nat)) ∧ V.cell? ⟨b, 6, none⟩ = some (.int .u64 (c6 : Nat)) ∧ V.cell? ⟨b, 7, none⟩ = some (.int .u64 (c7 : Nat)) ∧ V.cell? ⟨b, 8, none⟩ = some (.int .u64 (c8 : Nat)) ∧ V.frozen? ⟨b, 0, none⟩ = false ∧ V.frozen? ⟨b, 1, none⟩ = false ∧ V.frozen? ⟨b, 2, none⟩ = false ∧ V.frozen? ⟨b, 3, none⟩ = false ∧ V.frozen? ⟨b, 4, none⟩ = false ∧ V.frozen? ⟨b, 5, none⟩ = false ∧ V.frozen? ⟨b, 6, none⟩ = false ∧ V.frozen? ⟨b, 7, none⟩ = false ∧ V.frozen? ⟨b, 8, none⟩ = false ∧ b < V.heap.size ∧ b ≠ V.heap.size :=
  ⟨h.cell 0 (by simp), h.cell 1 (by simp), h.cell 2 (by simp), h.cell 3 (by simp), h.cell 4 (by simp), h.cell 5 (by simp), h.cell 6 (by simp), h.cell 7 (by simp), h.cell 8 (by simp), h.frozen 0, h.frozen 1, h.frozen 2, h.frozen 3, h.frozen 4, h.frozen 5, h.frozen 6, h.frozen 7, h.frozen 8, h.lt, by have := h.lt; omega⟩
theorem Fr.set9 {w V : World} (h : Fr [] w V) {b : Nat} (hb : w.heap.size ≤ b) (u0 u1 u2 u3 u4 u5 u6 u7 u8 : Value) : Fr [] w (((((((((V.setCell ⟨b, 0, none⟩ u0).setCell ⟨b, 1, none⟩ u1).setCell ⟨b, 2, none⟩ u2).setCell ⟨b, 3, none⟩ u3).setCell ⟨b, 4, none⟩ u4).setCell ⟨b, 5, none⟩ u5).setCell ⟨b, 6, none⟩ u6).setCell ⟨b, 7, none⟩ u7).setCell ⟨b, 8, none⟩ u8) :=
  ((((((((h.setCell (.inr hb) u0).setCell (.inr hb) u1).setCell (.inr hb) u2).setCell (.inr hb) u3).setCell (.inr hb) u4).setCell (.inr hb) u5).setCell (.inr hb) u6).setCell (.inr hb) u7).setCell (.inr hb) u8
theorem heap_new0 (V : World) (q : Obj) : (V.alloc q).heap[V.heap.size]? = some q := (MapKept.heap_alloc V q).1
theorem RW.of9 {V : World} {b t c0 c1 c2 c3 c4 c5 c6 c7 c8 : Nat} (h : V.heap[b]? = some (.cells #[.int .u64 (c0 : Nat), .int .u64 (c1 : Nat), .int .u64 (c2 : Nat), .int .u64 (c3 : Nat), .int .u64 (c4 : Nat), .int .u64 (c5 : Nat), .int .u64 (c6 : Nat), .int .u64 (c7 : Nat), .int .u64 (c8 : Nat)] t)) : RW V b t [c0, c1, c2, c3, c4, c5, c6, c7, c8] := h
theorem RW.ofz {V : World} {b t : Nat} (h : V.heap[b]? = some (.cells #[.int .u64 0, .int .u64 0, .int .u64 0, .int .u64 0, .int .u64 0, .int .u64 0, .int .u64 0, .int .u64 0, .int .u64 0] t)) : RW V b t [0, 0, 0, 0, 0, 0, 0, 0, 0] := h
theorem and30 (a : Nat) (ha : a < 18446744073709551616) : bits .and .u64 (a : Int) 1073741823 = ((a % 1073741824 : Nat) : Int) := by
  have h := bits_and_u64_nat a 1073741823 ha (by decide)
  have e : a &&& 1073741823 = a % 1073741824 := Nat.and_two_pow_sub_one_eq_mod a 30
  rw [e] at h
  exact h

theorem rminus_any (A B : Nat) (hAB : B ≤ A) (w : World) : Calls Tryd.prog 72 #[nd A, nd B] w fun e w' => e = .returned (nd (A - B)) ∧ Fr [] w w' := by
  have HAB := hid (p := _) hAB
  obtain ⟨a0, a1, a2, a3, a4, a5, a6, a7, a8, ea, wa⟩ := nd_open A
  obtain ⟨b0, b1, b2, b3, b4, b5, b6, b7, b8, eb, wb⟩ := nd_open B
  obtain ⟨c0, c1, c2, c3, c4, c5, c6, c7, c8, ec, wc'⟩ := nd_open (A - B)
  rw [wa, wb, wc']
  have HA := hid (p := _) ea
  have HB := hid (p := _) eb
  have HC := hid (p := _) ec
  clear wa wb wc' ea eb ec
  go_enter Tryd.func72, Tryd.ntmps72
  go_wp2_with fail
  go_loopg [5, 6] 9 (fun gk q5 q6 wr => ∃ i : Nat, i ≤ 9 ∧ gk = 9 - i ∧ q5 = .int .u64 (bw A B i : Nat) ∧ q6 = .int .i64 i ∧ Hid (Fr [] w wr ∧ RW wr w.heap.size 34 (ml A B i) ∧ RW wr (w.heap.size + 1) 34 (dts B) ∧ RW wr (w.heap.size + 2) 34 [0, 0, 0, 0, 0, 0, 0, 0, 0]))
  case atStart =>
    refine ⟨0, Nat.zero_le _, rfl, by simp [bw, Nat.mod_one], rfl, hid ⟨(((Fr.refl [] w).alloc _).alloc _).alloc _, ?_, ?_, RW.ofz (heap_new2 w _ _ _)⟩⟩
    · rw [ml_zero, HA.out]; exact ((RW.of9 (heap_new0 w _)).alloc _).alloc _
    · rw [HB.out]; exact (RW.of9 (heap_new1 w _ _)).alloc _
  case round =>
    obtain ⟨i, hi, hgk, rfl, rfl, K⟩ := hrel
    by_cases hlt : i < 9
    · have hlt' : (i : Int) < 9 := by omega
      have e1 := K.out.2.1.cell i (by rw [ml_len]; exact hlt)
      rw [ml_get A B i hlt] at e1
      have e2 := K.out.2.2.1.cell i (by rw [dts_len]; exact hlt)
      rw [dts_get B i hlt] at e2
      have hF1 := K.out.2.1.frozen i
      have l1 := K.out.2.1.lt
      have l2 := K.out.2.2.1.lt
      have hm := minus_dt HAB.out i
      have d1 := dt_lt A i
      have d2 := dt_lt B i
      have d3 := dt_lt (A - B) i
      have b1 := bw_le A B i
      have b2 := bw_le A B (i + 1)
      have KN := hid (p := _) (fun x => (K.out.2.1.ext x).set i (dt (A - B) i))
      rw [ml_set A B i hlt] at KN
      have HF := hid (p := _) K.out.1
      have HBr := hid (p := _) K.out.2.2.1
      have HCr := hid (p := _) K.out.2.2.2
      clear K
      generalize hc2 : bw A B (i + 1) = c2 at *
      have HC2 := hid (p := _) hc2
      clear hc2
      generalize bw A B i = c1 at *
      generalize dt A i = x at *
      generalize dt B i = y at *
      generalize dt (A - B) i = z at *
      have f1 : IntKind.u64.wrap (1073741824 + (x : Int)) = ((1073741824 + x : Nat) : Int) := by rw [IntKind.wrap_u64]; omega
      have f2 : IntKind.u64.wrap (((1073741824 + x : Nat) : Int) - (y : Int)) = ((1073741824 + x - y : Nat) : Int) := by rw [IntKind.wrap_u64]; omega
      have f3 : IntKind.u64.wrap (((1073741824 + x - y : Nat) : Int) - (c1 : Int)) = ((1073741824 + x - y - c1 : Nat) : Int) := by rw [IntKind.wrap_u64]; omega
      have f4 : bits .and .u64 ((1073741824 + x - y - c1 : Nat) : Int) 1073741823 = (z : Int) := by rw [and30 _ (by omega)]; omega
      have f5 : IntKind.u64.wrap (1 - ((1073741824 + x - y - c1 : Nat) : Int) / 1073741824) = (c2 : Int) := by rw [IntKind.wrap_u64]; omega
      generalize 1073741824 + x - y - c1 = u3 at *
      generalize 1073741824 + x - y = u2 at *
      generalize 1073741824 + x = u1 at *
      clear hm d1 d2 d3 b1 b2
      go_wp2_with fail
      refine wp_region_ext (by kernel_rfl) (by kernel_rfl) ?_
      repeat (go_big_quiet_step (fail))
      refine wpQuiet_nil ?_
      rintro _ ⟨xq, rfl⟩
      have KN2 := KN.out xq
      go_wp2
      go_roundg (9 - (i + 1))
      case measure => omega
      case rel =>
        exact ⟨i + 1, by omega, rfl, by rw [HC2.out], by go_num, hid ⟨(HF.out.ext xq).setCell (.inr (Nat.le_refl _)) _, KN2, (HBr.out.ext xq).other (by show w.heap.size + 1 ≠ w.heap.size; omega) _, (HCr.out.ext xq).other (by show w.heap.size + 2 ≠ w.heap.size; omega) _⟩⟩
    · obtain rfl : i = 9 := by omega
      have C := K.out.2.1
      rw [ml_nine, HC.out] at C
      have Z := K.out.2.2.2
      have F := K.out.1
      obtain ⟨_, _, _, _, _, _, _, _, _, _, _, _, _, _, _, _, _, _, _, _⟩ := C.all
      obtain ⟨_, _, _, _, _, _, _, _, _, _, _, _, _, _, _, _, _, _, _, _⟩ := Z.all
      clear K
      go_wp2_with fail
      simp [bodyPost, results, Tryd.results72, go_sem, *]
      exact F.set9 (by omega) _ _ _ _ _ _ _ _ _

end Go.Proofs.YtpdagpjjlnncbaaDoor
namespace Go.Proofs.YtpdagpjjlnncbaaDoor
open Go.RowKit Go.Lib Go.BigFrame
set_option linter.unusedVariables false
set_option linter.unusedSimpArgs false
set_option maxRecDepth 1000000
set_option maxHeartbeats 2000000

theorem div_dt (A i : Nat) : A / 2 ^ (30 * i) = 1073741824 * (A / 2 ^ (30 * (i + 1))) + dt A i := by
  have h := Nat.div_add_mod (A / 2 ^ (30 * i)) 1073741824
  rw [Nat.div_div_eq_div_mul, show 2 ^ (30 * i) * 1073741824 = 2 ^ (30 * (i + 1)) from by rw [Nat.mul_add, Nat.pow_add]] at h
  exact h.symm
theorem lt_of_div {A B m : Nat} (h : A / m < B / m) : A < B := by
  apply Classical.byContradiction
  intro hn
  have := Nat.div_le_div_right (c := m) (Nat.le_of_not_lt hn)
  omega
theorem less_dt {A B i : Nat} (h : A / 2 ^ (30 * (i + 1)) = B / 2 ^ (30 * (i + 1))) (hne : dt A i ≠ dt B i) : decide (dt A i < dt B i) = decide (A < B) := by
  have h1 := div_dt A i
  have h2 := div_dt B i
  by_cases hl : dt A i < dt B i
  · rw [decide_eq_true hl, decide_eq_true (lt_of_div (m := 2 ^ (30 * i)) (by omega))]
  · have : B < A := lt_of_div (m := 2 ^ (30 * i)) (by omega)
    rw [decide_eq_false hl, decide_eq_false (by omega)]
theorem div_bigk {A n k : Nat} (h : A < 2 ^ n) (hn : n ≤ k) : A / 2 ^ k = 0 := Nat.div_eq_of_lt (Nat.lt_of_lt_of_le h (Nat.pow_le_pow_right (by decide) hn))
theorem rless_any (A B : Nat) (hA : A / 2 ^ (30 * 9) = 0) (hB : B / 2 ^ (30 * 9) = 0) (w : World) : Calls Tryd.prog 68 #[nd A, nd B] w fun e w' => e = .returned (.bool (decide (A < B))) ∧ Fr [] w w' := by
  have h9 : A / 2 ^ (30 * 9) = B / 2 ^ (30 * 9) := hA.trans hB.symm
  have H9 := hid (p := _) h9
  obtain ⟨a0, a1, a2, a3, a4, a5, a6, a7, a8, ea, wa⟩ := nd_open A
  obtain ⟨b0, b1, b2, b3, b4, b5, b6, b7, b8, eb, wb⟩ := nd_open B
  rw [wa, wb]
  have HA := hid (p := _) ea
  have HB := hid (p := _) eb
  clear wa wb ea eb h9 hA hB
  generalize hr : decide (A < B) = r
  have HR := hid (p := _) hr
  clear hr
  go_enter Tryd.func68, Tryd.ntmps68
  go_wp2_with fail
  go_loopg [5] 9 (fun gk q wr => ∃ i : Nat, i ≤ 9 ∧ gk = i ∧ q = .int .i64 ((i : Int) - 1) ∧ Hid (A / 2 ^ (30 * i) = B / 2 ^ (30 * i) ∧ Fr [] w wr ∧ RW wr w.heap.size 34 (dts A) ∧ RW wr (w.heap.size + 1) 34 (dts B)))
  case atStart =>
    refine ⟨9, Nat.le_refl _, rfl, rfl, hid ⟨H9.out, ((Fr.refl [] w).alloc _).alloc _, ?_, ?_⟩⟩
    · rw [HA.out]; exact (RW.of9 (heap_new0 w _)).alloc _
    · rw [HB.out]; exact RW.of9 (heap_new1 w _ _)
  case round =>
    obtain ⟨i, hi, hgk, rfl, K⟩ := hrel
    rcases i with _ | i
    · have hAB : A = B := by
        have := K.out.1
        simpa using this
      have F := K.out.2.1
      have hr : r = false := by rw [← HR.out]; exact decide_eq_false (by omega)
      clear K hAB
      subst hr
      go_wp2_with fail
      go_ret
      exact ⟨rfl, F⟩
    · have hgi : ((i + 1 : Nat) : Int) - 1 = (i : Int) := by omega
      have e1 := K.out.2.2.1.cell i (by rw [dts_len]; omega)
      rw [dts_get A i (by omega)] at e1
      have e2 := K.out.2.2.2.cell i (by rw [dts_len]; omega)
      rw [dts_get B i (by omega)] at e2
      have l1 := K.out.2.2.1.lt
      have l2 := K.out.2.2.2.lt
      have hi9 : (i : Int) < 9 := by omega
      have HF := hid (p := _) K.out.2.1
      rw [hgi]
      by_cases hne : dt A i = dt B i
      · have hdiv : A / 2 ^ (30 * i) = B / 2 ^ (30 * i) := by rw [div_dt A i, div_dt B i, K.out.1, hne]
        have KK := hid (p := _) (fun x => (⟨hdiv, K.out.2.1.ext x, K.out.2.2.1.ext x, K.out.2.2.2.ext x⟩ : A / 2 ^ (30 * i) = B / 2 ^ (30 * i) ∧ Fr [] w (ext wr x) ∧ RW (ext wr x) w.heap.size 34 (dts A) ∧ RW (ext wr x) (w.heap.size + 1) 34 (dts B)))
        have hneq : ((dt A i : Nat) : Int) = ((dt B i : Nat) : Int) := by rw [hne]
        clear K hdiv
        rw [hne] at e1
        generalize dt B i = y at *
        clear hne hneq
        go_wp2_with fail
        refine wp_region_ext (by kernel_rfl) (by kernel_rfl) ?_
        repeat (go_big_quiet_step (fail))
        refine wpQuiet_nil ?_
        rintro _ ⟨xq, rfl⟩
        go_wp2
        go_roundg i
        case measure => omega
        case rel => exact ⟨i, by omega, rfl, by go_num, hid (KK.out xq)⟩
      · have hl := less_dt K.out.1 hne
        rw [HR.out] at hl
        have hne2 : ¬ ((dt A i : Nat) : Int) = ((dt B i : Nat) : Int) := by omega
        have hl2 : decide (((dt A i : Nat) : Int) < ((dt B i : Nat) : Int)) = r := by rw [← hl]; simp
        clear K hne
        generalize dt A i = x at *
        generalize dt B i = y at *
        go_wp2_with fail
        refine wp_region_ext (by kernel_rfl) (by kernel_rfl) ?_
        repeat (go_big_quiet_step (fail))
        refine wpQuiet_nil ?_
        rintro _ ⟨xq, rfl⟩
        have F2 := HF.out.ext xq
        have e3 : (ext wr xq).cell? ⟨w.heap.size, i, none⟩ = some (.int .u64 (x : Nat)) := by rw [ext_cell _ _ _ _ l1]; exact e1
        have e4 : (ext wr xq).cell? ⟨w.heap.size + 1, i, none⟩ = some (.int .u64 (y : Nat)) := by rw [ext_cell _ _ _ _ l2]; exact e2
        have l3 : w.heap.size < (ext wr xq).heap.size := Nat.lt_of_lt_of_le l1 (ext_fr wr xq).size
        have l4 : w.heap.size + 1 < (ext wr xq).heap.size := Nat.lt_of_lt_of_le l2 (ext_fr wr xq).size
        generalize ext wr xq = wr2 at *
        go_wp2
        refine wp_region_ext (by kernel_rfl) (by kernel_rfl) ?_
        repeat (go_big_quiet_step (fail))
        refine wpQuiet_nil ?_
        rintro _ ⟨xr, rfl⟩
        go_wp2
        go_ret
        exact ⟨by first | simp [hl2] | simp [hl] | (simp; exact hl), F2.ext xr⟩

end Go.Proofs.YtpdagpjjlnncbaaDoor
namespace Go.Proofs.YtpdagpjjlnncbaaDoor
open Go.RowKit Go.Lib Go.BigFrame
set_option linter.unusedVariables false
set_option linter.unusedSimpArgs false
set_option maxRecDepth 1000000
set_option maxHeartbeats 2000000

/-- The number that a row of digits is. -/
def vl : List Nat → Nat
  | [] => 0
  | x :: l => x + 1073741824 * vl l
theorem vl_append : ∀ a b : List Nat, vl (a ++ b) = vl a + 1073741824 ^ a.length * vl b
  | [], b => by simp [vl]
  | x :: a, b => by
    have h := vl_append a b
    show x + 1073741824 * vl (a ++ b) = x + 1073741824 * vl a + 1073741824 ^ (a.length + 1) * vl b
    rw [h, Nat.mul_add, ← Nat.mul_assoc, ← Nat.pow_succ', Nat.add_assoc]
theorem vl_zeros : ∀ n, vl (List.replicate n 0) = 0
  | 0 => rfl
  | n + 1 => by
    show 0 + 1073741824 * vl (List.replicate n 0) = 0
    rw [vl_zeros n]
/-- The carries through a row: the digits, and what goes out. -/
def cpl : List Nat → Nat → List Nat × Nat
  | [], c => ([], c)
  | x :: l, c => ((x + c) % 1073741824 :: (cpl l ((x + c) / 1073741824)).1, (cpl l ((x + c) / 1073741824)).2)
theorem cpl_val : ∀ (l : List Nat) (c : Nat), vl (cpl l c).1 + 1073741824 ^ l.length * (cpl l c).2 = vl l + c
  | [], c => by simp [cpl, vl]
  | x :: l, c => by
    have h := cpl_val l ((x + c) / 1073741824)
    show (x + c) % 1073741824 + 1073741824 * vl (cpl l ((x + c) / 1073741824)).1 + 1073741824 ^ (l.length + 1) * (cpl l ((x + c) / 1073741824)).2 = x + 1073741824 * vl l + c
    rw [Nat.pow_succ', Nat.mul_assoc]
    have e : 1073741824 * vl (cpl l ((x + c) / 1073741824)).1 + 1073741824 * (1073741824 ^ l.length * (cpl l ((x + c) / 1073741824)).2) = 1073741824 * (vl l + (x + c) / 1073741824) := by rw [← Nat.mul_add, h]
    have e2 := Nat.div_add_mod (x + c) 1073741824
    rw [Nat.mul_add] at e
    omega
theorem cpl_len : ∀ (l : List Nat) (c : Nat), (cpl l c).1.length = l.length
  | [], c => rfl
  | x :: l, c => by
    show (cpl l ((x + c) / 1073741824)).1.length + 1 = l.length + 1
    rw [cpl_len l]
theorem cpl_lt : ∀ (l : List Nat) (c : Nat), ∀ x ∈ (cpl l c).1, x < 1073741824
  | [], c, x, h => by simp [cpl] at h
  | y :: l, c, x, h => by
    have h' : x ∈ (y + c) % 1073741824 :: (cpl l ((y + c) / 1073741824)).1 := h
    rcases List.mem_cons.1 h' with rfl | h2
    · exact Nat.mod_lt _ (by decide)
    · exact cpl_lt l _ x h2
theorem cpl_snoc : ∀ (l : List Nat) (y c : Nat), cpl (l ++ [y]) c = ((cpl l c).1 ++ [(y + (cpl l c).2) % 1073741824], (y + (cpl l c).2) / 1073741824)
  | [], y, c => rfl
  | x :: l, y, c => by
    have h := cpl_snoc l y ((x + c) / 1073741824)
    show ((x + c) % 1073741824 :: (cpl (l ++ [y]) ((x + c) / 1073741824)).1, (cpl (l ++ [y]) ((x + c) / 1073741824)).2) = _
    rw [h]; rfl
/-- Digits that leave room: the carry stays small. -/
theorem cpl_carry : ∀ (l : List Nat) (c : Nat), (∀ x ∈ l, x ≤ 18446742974197923840) → c ≤ 34359738368 → (cpl l c).2 ≤ 34359738368
  | [], c, _, h => h
  | x :: l, c, hl, h => cpl_carry l _ (fun y hy => hl y (List.mem_cons_of_mem _ hy)) (by
    have := hl x (List.mem_cons_self ..)
    omega)
/-- The row ahead of step i of a pass over n digits. -/
def cr (l : List Nat) (i : Nat) : List Nat := (cpl (l.take i) 0).1 ++ l.drop i
def cc (l : List Nat) (i : Nat) : Nat := (cpl (l.take i) 0).2
theorem cr_zero (l : List Nat) : cr l 0 = l := by simp [cr, cpl]
theorem cc_zero (l : List Nat) : cc l 0 = 0 := by simp [cc, cpl]
theorem cr_len (l : List Nat) (i : Nat) : (cr l i).length = l.length := by
  simp only [cr, List.length_append, cpl_len, List.length_take, List.length_drop]; omega
theorem cc_step (l : List Nat) (i : Nat) (h : i < l.length) : cc l (i + 1) = (l.getD i 0 + cc l i) / 1073741824 := by
  unfold cc
  rw [List.take_succ_eq_append_getElem h, cpl_snoc]
  simp [h]
theorem cr_get (l : List Nat) (i : Nat) (h : i < l.length) : (cr l i).getD i 0 = l.getD i 0 := by
  have hl : (cpl (l.take i) 0).1.length = i := by rw [cpl_len, List.length_take]; omega
  simp only [cr, List.getD_eq_getElem?_getD]
  rw [List.getElem?_append_right (by omega), hl, Nat.sub_self, List.getElem?_drop, Nat.add_zero]
theorem cr_step (l : List Nat) (i : Nat) (h : i < l.length) : (cr l i).set i ((l.getD i 0 + cc l i) % 1073741824) = cr l (i + 1) := by
  have hl : (cpl (l.take i) 0).1.length = i := by rw [cpl_len, List.length_take]; omega
  have e : l.getD i 0 = l[i] := by simp [h]
  unfold cr
  rw [List.set_append_right _ _ (by omega), hl, Nat.sub_self, List.take_succ_eq_append_getElem h, cpl_snoc, List.drop_eq_getElem_cons h, List.set_cons_zero, e]
  show _ ++ ((l[i] + cc l i) % 1073741824 :: l.drop (i + 1)) = (_ ++ [_]) ++ _
  rw [List.append_assoc]; rfl
theorem cc_le (l : List Nat) (i : Nat) (hl : ∀ x ∈ l, x ≤ 18446742974197923840) : cc l i ≤ 34359738368 :=
  cpl_carry _ 0 (fun x hx => hl x (List.mem_of_mem_take hx)) (by decide)

end Go.Proofs.YtpdagpjjlnncbaaDoor
