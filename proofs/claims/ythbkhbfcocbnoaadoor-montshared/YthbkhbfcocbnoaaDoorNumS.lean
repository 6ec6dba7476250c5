/-
  The document's numbers (pharosref06): nine digits of 30 bits. Rows of words in memory; Prime, Small, Less, Minus. No statement is proved here.
-/
import Derived.Test.YthbkhbfcocbnoaaDoorNumN
namespace Go.Proofs.YthbkhbfcocbnoaaDoor
open Go.RowKit Go.Lib Go.BigFrame
set_option linter.unusedVariables false
set_option linter.unusedSimpArgs false
set_option maxRecDepth 1000000
set_option maxHeartbeats 2000000

/-- The cells of a row of words. -/
def wc (l : List Nat) : Array Value := (l.map fun x => Value.int .u64 ((x : Nat) : Int)).toArray
/-- A row of words in a block of its own. -/
def RW (V : World) (b t : Nat) (l : List Nat) : Prop := V.heap[b]? = some (.cells (wc l) t)
section
variable {V V' : World} {b t : Nat} {l : List Nat}
theorem RW.fr (h : RW V b t l) (hF : Fr [] V V') : RW V' b t l := hF.heap h (by simp)
theorem RW.alloc (h : RW V b t l) (o : Obj) : RW (V.alloc o) b t l := h.fr ((Fr.refl [] V).alloc o)
theorem RW.lt (h : RW V b t l) : b < V.heap.size := lt_of_heap h
theorem RW.cell (h : RW V b t l) (i : Nat) (hi : i < l.length) : V.cell? ⟨b, i, none⟩ = some (.int .u64 ((l.getD i 0 : Nat) : Int)) :=
  cell_of_heap h (by simp [wc, hi])
theorem RW.frozen (h : RW V b t l) (i : Nat) : V.frozen? ⟨b, i, none⟩ = false := frozen_of_heap h
theorem RW.set (h : RW V b t l) (i x : Nat) : RW (V.setCell ⟨b, i, none⟩ (.int .u64 ((x : Nat) : Int))) b t (l.set i x) := by
  have h2 := heap_setCell_same V b i _ t (.int .u64 ((x : Nat) : Int)) h
  unfold RW
  rw [h2]
  congr 2
  simp [wc, List.map_set]
theorem RW.other (h : RW V b t l) {p : Addr} (hne : b ≠ p.block) (u : Value) : RW (V.setCell p u) b t l := by
  unfold RW
  rw [heap_setCell_other _ _ _ _ hne]; exact h
theorem RW.ext (h : RW V b t l) (x : World) : RW (Go.Proofs.YthbkhbfcocbnoaaDoor.ext V x) b t l := h.fr (ext_fr V x)
end

/-- The digit i of 30 bits. -/
def dt (n i : Nat) : Nat := n / 2 ^ (30 * i) % 1073741824
def dts (n : Nat) : List Nat := (List.range 9).map (dt n)
/-- A number of the document's, as a value. -/
def nd (n : Nat) : Value := .agg (wc (dts n))
theorem dts_len (n : Nat) : (dts n).length = 9 := by simp [dts]
theorem dts_get (n i : Nat) (h : i < 9) : (dts n).getD i 0 = dt n i := by simp [dts, h]
theorem dt_lt (n i : Nat) : dt n i < 1073741824 := Nat.mod_lt _ (by decide)
theorem nd_open (n : Nat) : ∃ d0 d1 d2 d3 d4 d5 d6 d7 d8 : Nat, dts n = [d0, d1, d2, d3, d4, d5, d6, d7, d8] ∧ nd n = .agg #[.int .u64 (d0 : Nat), .int .u64 (d1 : Nat), .int .u64 (d2 : Nat), .int .u64 (d3 : Nat), .int .u64 (d4 : Nat), .int .u64 (d5 : Nat), .int .u64 (d6 : Nat), .int .u64 (d7 : Nat), .int .u64 (d8 : Nat)] :=
  ⟨_, _, _, _, _, _, _, _, _, rfl, rfl⟩

theorem dt_P : dts Nt.P = [1073741805, 1073741823, 1073741823, 1073741823, 1073741823, 1073741823, 1073741823, 1073741823, 32767] := by
  rw [Nt.P_val]; decide +kernel
theorem prime_any (w : World) : Calls Tryd.prog 38 #[] w fun e w' => e = .returned (nd Nt.P) ∧ Fr [] w w' := by
  have e : nd Nt.P = .agg #[.int .u64 1073741805, .int .u64 1073741823, .int .u64 1073741823, .int .u64 1073741823, .int .u64 1073741823, .int .u64 1073741823, .int .u64 1073741823, .int .u64 1073741823, .int .u64 32767] := by
    unfold nd
    rw [dt_P]; rfl
  rw [e]
  go_enter Tryd.func38, Tryd.ntmps38
  go_wp2
  simp [bodyPost, results, Tryd.results38, go_sem]
  exact (Fr.refl [] w).alloc _

theorem div_split {B D m : Nat} (hm : 0 < m) : (B + D) / m = B / m + D / m + if (B + D) % m < B % m then 1 else 0 := by
  have hb := Nat.div_add_mod B m
  have hd := Nat.div_add_mod D m
  have rb := Nat.mod_lt B hm
  have rd := Nat.mod_lt D hm
  generalize B / m = qb at *
  generalize D / m = qd at *
  generalize B % m = xb at *
  generalize D % m = xd at *
  have e : B + D = (xb + xd) + m * (qb + qd) := by rw [Nat.mul_add]; omega
  rw [e, Nat.add_mul_div_left _ _ hm, Nat.add_mul_mod_self_left]
  by_cases h : xb + xd < m
  · rw [Nat.div_eq_of_lt h, Nat.mod_eq_of_lt h, if_neg (by omega)]; omega
  · have h1 : (xb + xd) / m = 1 := by
      have e2 : xb + xd = (xb + xd - m) + m * 1 := by omega
      rw [e2, Nat.add_mul_div_left _ _ hm, Nat.div_eq_of_lt (by omega)]
    have h2 : (xb + xd) % m = xb + xd - m := by rw [Nat.mod_eq_sub_mod (by omega), Nat.mod_eq_of_lt (by omega)]
    rw [h1, h2, if_pos (by omega)]; omega
theorem minus_gen {A B m K : Nat} (hm : 0 < m) (hK : 0 < K) (hAB : B ≤ A) : K * (if A % (m * K) < B % (m * K) then 1 else 0) + A / m % K = B / m % K + (if A % m < B % m then 1 else 0) + (A - B) / m % K := by
  obtain ⟨D, rfl⟩ : ∃ D, A = B + D := ⟨A - B, by omega⟩
  rw [show B + D - B = D by omega]
  have h1 := div_split (B := B) (D := D) hm
  have h2 := div_split (B := B) (D := D) (Nat.mul_pos hm hK)
  have a1 := Nat.div_add_mod ((B + D) / m) K
  have a2 := Nat.div_add_mod (B / m) K
  have a3 := Nat.div_add_mod (D / m) K
  rw [Nat.div_div_eq_div_mul] at a1 a2 a3
  generalize (if (B + D) % (m * K) < B % (m * K) then 1 else 0) = c2 at *
  generalize (if (B + D) % m < B % m then 1 else 0) = c1 at *
  rw [h2, h1] at a1
  have e : K * (B / (m * K) + D / (m * K) + c2) = K * (B / (m * K)) + K * (D / (m * K)) + K * c2 := by rw [Nat.mul_add, Nat.mul_add]
  rw [e] at a1
  rw [h1]
  omega
/-- The borrow ahead of digit i. -/
def bw (A B i : Nat) : Nat := if A % 2 ^ (30 * i) < B % 2 ^ (30 * i) then 1 else 0
theorem bw_le (A B i : Nat) : bw A B i ≤ 1 := by unfold bw; split <;> omega
theorem minus_dt {A B : Nat} (h : B ≤ A) (i : Nat) : 1073741824 * bw A B (i + 1) + dt A i = dt B i + bw A B i + dt (A - B) i := by
  have := minus_gen (A := A) (B := B) (m := 2 ^ (30 * i)) (K := 1073741824) (Nat.two_pow_pos _) (by decide) h
  have e : 2 ^ (30 * i) * 1073741824 = 2 ^ (30 * (i + 1)) := by rw [Nat.mul_add, Nat.pow_add]
  rw [e] at this
  exact this
/-- The row of Minus ahead of digit i. -/
def ml (A B i : Nat) : List Nat := (List.range 9).map fun j => if j < i then dt (A - B) j else dt A j
theorem ml_zero (A B : Nat) : ml A B 0 = dts A := by simp [ml, dts]
theorem ml_nine (A B : Nat) : ml A B 9 = dts (A - B) := by
  unfold ml dts
  apply List.map_congr_left
  intro j hj
  rw [if_pos (by simpa using hj)]
theorem ml_get (A B i : Nat) (h : i < 9) : (ml A B i).getD i 0 = dt A i := by simp [ml, h]
theorem ml_len (A B i : Nat) : (ml A B i).length = 9 := by simp [ml]
theorem ml_set (A B i : Nat) (h : i < 9) : (ml A B i).set i (dt (A - B) i) = ml A B (i + 1) := by
  apply List.ext_getElem
  · simp [ml]
  · intro j h1 h2
    have hj : j < 9 := by simpa [ml] using h2
    rw [List.getElem_set]
    split
    · rename_i e
      subst e
      simp [ml]
    · rename_i e
      simp only [ml, List.getElem_map, List.getElem_range]
      by_cases hji : j < i
      · rw [if_pos hji, if_pos (by omega)]
      · rw [if_neg hji, if_neg (by omega)]

theorem RW.all {V : World} {b t c0 c1 c2 c3 c4 c5 c6 c7 c8 : Nat} (h : RW V b t [c0, c1, c2, c3, c4, c5, c6, c7, c8]) : V.cell? ⟨b, 0, none⟩ = some (.int .u64 (c0 : Nat)) ∧ V.cell? ⟨b, 1, none⟩ = some (.int .u64 (c1 : Nat)) ∧ V.cell? ⟨b, 2, none⟩ = some (.int .u64 (c2 : Nat)) ∧ V.cell? ⟨b, 3, none⟩ = some (.int .u64 (c3 : Nat)) ∧ V.cell? ⟨b, 4, none⟩ = some (.int .u64 (c4 : Nat)) ∧ V.cell? ⟨b, 5, none⟩ = some (.int .u64 (c5 : Nat)) ∧ V.cell? ⟨b, 6, none⟩ = some (.int .u64 (c6 : Nat)) ∧ V.cell? ⟨b, 7, none⟩ = some (.int .u64 (c7 : Nat)) ∧ V.cell? ⟨b, 8, none⟩ = some (.int .u64 (c8 : Nat)) ∧ V.frozen? ⟨b, 0, none⟩ = false ∧ V.frozen? ⟨b, 1, none⟩ = false ∧ V.frozen? ⟨b, 2, none⟩ = false ∧ V.frozen? ⟨b, 3, none⟩ = false ∧ V.frozen? ⟨b, 4, none⟩ = false ∧ V.frozen? ⟨b, 5, none⟩ = false ∧ V.frozen? ⟨b, 6, none⟩ = false ∧ V.frozen? ⟨b, 7, none⟩ = false ∧ V.frozen? ⟨b, 8, none⟩ = false ∧ b < V.heap.size ∧ b ≠ V.heap.size :=
  ⟨h.cell 0 (by simp), h.cell 1 (by simp), h.cell 2 (by simp), h.cell 3 (by simp), h.cell 4 (by simp), h.cell 5 (by simp), h.cell 6 (by simp), h.cell 7 (by simp), h.cell 8 (by simp), h.frozen 0, h.frozen 1, h.frozen 2, h.frozen 3, h.frozen 4, h.frozen 5, h.frozen 6, h.frozen 7, h.frozen 8, h.lt, by have := h.lt; omega⟩
theorem Fr.set9 {w V : World} (h : Fr [] w V) {b : Nat} (hb : w.heap.size ≤ b) (u0 u1 u2 u3 u4 u5 u6 u7 u8 : Value) : Fr [] w (((((((((V.setCell ⟨b, 0, none⟩ u0).setCell ⟨b, 1, none⟩ u1).setCell ⟨b, 2, none⟩ u2).setCell ⟨b, 3, none⟩ u3).setCell ⟨b, 4, none⟩ u4).setCell ⟨b, 5, none⟩ u5).setCell ⟨b, 6, none⟩ u6).setCell ⟨b, 7, none⟩ u7).setCell ⟨b, 8, none⟩ u8) :=
  ((((((((h.setCell (.inr hb) u0).setCell (.inr hb) u1).setCell (.inr hb) u2).setCell (.inr hb) u3).setCell (.inr hb) u4).setCell (.inr hb) u5).setCell (.inr hb) u6).setCell (.inr hb) u7).setCell (.inr hb) u8
theorem heap_new0 (V : World) (q : Obj) : (V.alloc q).heap[V.heap.size]? = some q := (MapKept.heap_alloc V q).1
theorem RW.of9 {V : World} {b t c0 c1 c2 c3 c4 c5 c6 c7 c8 : Nat} (h : V.heap[b]? = some (.cells #[.int .u64 (c0 : Nat), .int .u64 (c1 : Nat), .int .u64 (c2 : Nat), .int .u64 (c3 : Nat), .int .u64 (c4 : Nat), .int .u64 (c5 : Nat), .int .u64 (c6 : Nat), .int .u64 (c7 : Nat), .int .u64 (c8 : Nat)] t)) : RW V b t [c0, c1, c2, c3, c4, c5, c6, c7, c8] := h
theorem RW.ofz {V : World} {b t : Nat} (h : V.heap[b]? = some (.cells #[.int .u64 0, .int .u64 0, .int .u64 0, .int .u64 0, .int .u64 0, .int .u64 0, .int .u64 0, .int .u64 0, .int .u64 0] t)) : RW V b t [0, 0, 0, 0, 0, 0, 0, 0, 0] := h
theorem and30 (a : Nat) (ha : a < 18446744073709551616) : bits .and .u64 (a : Int) 1073741823 = ((a % 1073741824 : Nat) : Int) := by
  have h := bits_and_u64_nat a 1073741823 ha (by decide)
  have e : a &&& 1073741823 = a % 1073741824 := Nat.and_two_pow_sub_one_eq_mod a 30
  rw [e] at h
  exact h

theorem rminus_any (A B : Nat) (hAB : B ≤ A) (w : World) : Calls Tryd.prog 39 #[nd A, nd B] w fun e w' => e = .returned (nd (A - B)) ∧ Fr [] w w' := by
  have HAB := hid (p := _) hAB
  obtain ⟨a0, a1, a2, a3, a4, a5, a6, a7, a8, ea, wa⟩ := nd_open A
  obtain ⟨b0, b1, b2, b3, b4, b5, b6, b7, b8, eb, wb⟩ := nd_open B
  obtain ⟨c0, c1, c2, c3, c4, c5, c6, c7, c8, ec, wc'⟩ := nd_open (A - B)
  rw [wa, wb, wc']
  have HA := hid (p := _) ea
  have HB := hid (p := _) eb
  have HC := hid (p := _) ec
  clear wa wb wc' ea eb ec
  go_enter Tryd.func39, Tryd.ntmps39
  go_wp2_with fail
  go_loopg [5, 6] 9 (fun gk q5 q6 wr => ∃ i : Nat, i ≤ 9 ∧ gk = 9 - i ∧ q5 = .int .u64 (bw A B i : Nat) ∧ q6 = .int .i64 i ∧ Hid (Fr [] w wr ∧ RW wr w.heap.size 35 (ml A B i) ∧ RW wr (w.heap.size + 1) 35 (dts B) ∧ RW wr (w.heap.size + 2) 35 [0, 0, 0, 0, 0, 0, 0, 0, 0]))
  case atStart =>
    refine ⟨0, Nat.zero_le _, rfl, by simp [bw, Nat.mod_one], rfl, hid ⟨(((Fr.refl [] w).alloc _).alloc _).alloc _, ?_, ?_, RW.ofz (heap_new2 w _ _ _)⟩⟩
    · rw [ml_zero, HA.out]; exact ((RW.of9 (heap_new0 w _)).alloc _).alloc _
    · rw [HB.out]; exact (RW.of9 (heap_new1 w _ _)).alloc _
  case round =>
    obtain ⟨i, hi, hgk, rfl, rfl, K⟩ := hrel
    by_cases hlt : i < 9
    · have hlt' : (i : Int) < 9 := by omega
      have e1 := K.out.2.1.cell i (by rw [ml_len]; exact hlt)
      rw [ml_get A B i hlt] at e1
      have e2 := K.out.2.2.1.cell i (by rw [dts_len]; exact hlt)
      rw [dts_get B i hlt] at e2
      have hF1 := K.out.2.1.frozen i
      have l1 := K.out.2.1.lt
      have l2 := K.out.2.2.1.lt
      have hm := minus_dt HAB.out i
      have d1 := dt_lt A i
      have d2 := dt_lt B i
      have d3 := dt_lt (A - B) i
      have b1 := bw_le A B i
      have b2 := bw_le A B (i + 1)
      have KN := hid (p := _) (fun x => (K.out.2.1.ext x).set i (dt (A - B) i))
      rw [ml_set A B i hlt] at KN
      have HF := hid (p := _) K.out.1
      have HBr := hid (p := _) K.out.2.2.1
      have HCr := hid (p := _) K.out.2.2.2
      clear K
      generalize hc2 : bw A B (i + 1) = c2 at *
      have HC2 := hid (p := _) hc2
      clear hc2
      generalize bw A B i = c1 at *
      generalize dt A i = x at *
      generalize dt B i = y at *
      generalize dt (A - B) i = z at *
      have f1 : IntKind.u64.wrap (1073741824 + (x : Int)) = ((1073741824 + x : Nat) : Int) := by rw [IntKind.wrap_u64]; omega
      have f2 : IntKind.u64.wrap (((1073741824 + x : Nat) : Int) - (y : Int)) = ((1073741824 + x - y : Nat) : Int) := by rw [IntKind.wrap_u64]; omega
      have f3 : IntKind.u64.wrap (((1073741824 + x - y : Nat) : Int) - (c1 : Int)) = ((1073741824 + x - y - c1 : Nat) : Int) := by rw [IntKind.wrap_u64]; omega
      have f4 : bits .and .u64 ((1073741824 + x - y - c1 : Nat) : Int) 1073741823 = (z : Int) := by rw [and30 _ (by omega)]; omega
      have f5 : IntKind.u64.wrap (1 - ((1073741824 + x - y - c1 : Nat) : Int) / 1073741824) = (c2 : Int) := by rw [IntKind.wrap_u64]; omega
      generalize 1073741824 + x - y - c1 = u3 at *
      generalize 1073741824 + x - y = u2 at *
      generalize 1073741824 + x = u1 at *
      clear hm d1 d2 d3 b1 b2
      go_wp2_with fail
      refine wp_region_ext (by kernel_rfl) (by kernel_rfl) ?_
      repeat (go_big_quiet_step (fail))
      refine wpQuiet_nil ?_
      rintro _ ⟨xq, rfl⟩
      have KN2 := KN.out xq
      go_wp2
      go_roundg (9 - (i + 1))
      case measure => omega
      case rel =>
        exact ⟨i + 1, by omega, rfl, by rw [HC2.out], by go_num, hid ⟨(HF.out.ext xq).setCell (.inr (Nat.le_refl _)) _, KN2, (HBr.out.ext xq).other (by show w.heap.size + 1 ≠ w.heap.size; omega) _, (HCr.out.ext xq).other (by show w.heap.size + 2 ≠ w.heap.size; omega) _⟩⟩
    · obtain rfl : i = 9 := by omega
      have C := K.out.2.1
      rw [ml_nine, HC.out] at C
      have Z := K.out.2.2.2
      have F := K.out.1
      obtain ⟨_, _, _, _, _, _, _, _, _, _, _, _, _, _, _, _, _, _, _, _⟩ := C.all
      obtain ⟨_, _, _, _, _, _, _, _, _, _, _, _, _, _, _, _, _, _, _, _⟩ := Z.all
      clear K
      go_wp2_with fail
      simp [bodyPost, results, Tryd.results39, go_sem, *]
      exact F.set9 (by omega) _ _ _ _ _ _ _ _ _

end Go.Proofs.YthbkhbfcocbnoaaDoor
