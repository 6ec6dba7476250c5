/-
  The document's numbers: Add, Sub. No statement is proved here.
-/
import Derived.Test.YtpdagpjjlnncbaaDoorRedA
import Derived.Deep.MidRow
namespace Go.Proofs.YtpdagpjjlnncbaaDoor
open Go.RowKit Go.Lib Go.BigFrame
set_option linter.unusedVariables false
set_option linter.unusedSimpArgs false
set_option maxRecDepth 1000000
set_option maxHeartbeats 4000000

theorem vl_dt (A : Nat) : ∀ n, vl ((List.range n).map (dt A)) = A % 2 ^ (30 * n)
  | 0 => by simp [vl, Nat.mod_one]
  | n + 1 => by
    have ih := vl_dt A n
    rw [List.range_succ, List.map_append, vl_append, ih, List.length_map, List.length_range]
    have e1 : 1073741824 ^ n = 2 ^ (30 * n) := by rw [Nat.pow_mul]
    have e2 : vl (List.map (dt A) [n]) = dt A n := by simp [vl]
    rw [e1, e2, show 2 ^ (30 * (n + 1)) = 2 ^ (30 * n) * 1073741824 from by rw [Nat.mul_add, Nat.pow_add], Nat.mod_mul]
    rfl
theorem mod_of_div {A m : Nat} (hm : 0 < m) (h : A / m = 0) : A % m = A := by
  have := Nat.div_add_mod A m
  rw [h, Nat.mul_zero, Nat.zero_add] at this
  exact this
theorem vl_dts {A : Nat} (h : A / 2 ^ (30 * 9) = 0) : vl (dts A) = A := by
  have := vl_dt A 9
  rw [mod_of_div (Nat.two_pow_pos _) h] at this
  exact this
theorem vl_sum : ∀ a b : List Nat, a.length = b.length → vl (List.zipWith (· + ·) a b) = vl a + vl b
  | [], [], _ => by simp [vl]
  | x :: a, y :: b, h => by
    have h1 := vl_sum a b (by simpa using h)
    show x + y + 1073741824 * vl (List.zipWith (· + ·) a b) = x + 1073741824 * vl a + (y + 1073741824 * vl b)
    rw [h1, Nat.mul_add]; omega
  | [], _ :: _, h => by simp at h
  | _ :: _, [], h => by simp at h
/-- The row of Add ahead of step i. -/
def al (A B i : Nat) : List Nat := (List.range 19).map fun j => if j < i then (if j < 9 then dt A j + dt B j else 0) else 0
theorem al_zero (A B : Nat) : al A B 0 = [0, 0, 0, 0, 0, 0, 0, 0, 0, 0, 0, 0, 0, 0, 0, 0, 0, 0, 0] := by simp [al]; rfl
theorem al_len (A B i : Nat) : (al A B i).length = 19 := by simp [al]
theorem al_step (A B i : Nat) (h : i < 9) : (al A B i).set i (dt A i + dt B i) = al A B (i + 1) := by
  apply List.ext_getElem
  · simp [al]
  · intro j h1 h2
    rw [List.getElem_set]
    split
    · rename_i e
      subst e
      simp [al, h]
    · rename_i e
      simp only [al, List.getElem_map, List.getElem_range]
      by_cases hji : j < i
      · rw [if_pos hji, if_pos (by omega : j < i + 1)]
      · rw [if_neg hji, if_neg (by omega)]
theorem al_nine (A B : Nat) : al A B 9 = List.zipWith (· + ·) (dts A) (dts B) ++ List.replicate 10 0 := rfl
theorem al_val {A B : Nat} (hA : A / 2 ^ (30 * 9) = 0) (hB : B / 2 ^ (30 * 9) = 0) : vl (al A B 9) = A + B := by
  rw [al_nine, vl_append, vl_zeros, Nat.mul_zero, Nat.add_zero, vl_sum _ _ (by rw [dts_len, dts_len]), vl_dts hA, vl_dts hB]
theorem ite_le {p q : Prop} [Decidable p] [Decidable q] {x d : Nat} (h : x ≤ d) : (if p then (if q then x else 0) else 0) ≤ d := by
  split
  · split
    · exact h
    · exact Nat.zero_le _
  · exact Nat.zero_le _
theorem al_one (A B j : Nat) : dt A j + dt B j ≤ 18446742974197923840 := by
  have h1 := dt_lt A j
  have h2 := dt_lt B j
  omega
theorem al_leg (A B i d : Nat) (h : ∀ j, dt A j + dt B j ≤ d) : ∀ x ∈ al A B i, x ≤ d := by
  intro x hx
  obtain ⟨j, _, rfl⟩ := List.mem_map.1 hx
  exact ite_le (h j)
theorem al_le (A B i : Nat) : ∀ x ∈ al A B i, x ≤ 18446742974197923840 := al_leg A B i _ (al_one A B)
theorem RW.ofz19 {V : World} {b t : Nat} (h : V.heap[b]? = some (.cells #[.int .u64 0, .int .u64 0, .int .u64 0, .int .u64 0, .int .u64 0, .int .u64 0, .int .u64 0, .int .u64 0, .int .u64 0, .int .u64 0, .int .u64 0, .int .u64 0, .int .u64 0, .int .u64 0, .int .u64 0, .int .u64 0, .int .u64 0, .int .u64 0, .int .u64 0] t)) : RW V b t [0, 0, 0, 0, 0, 0, 0, 0, 0, 0, 0, 0, 0, 0, 0, 0, 0, 0, 0] := h
theorem RW.all19 {V : World} {b t y0 y1 y2 y3 y4 y5 y6 y7 y8 y9 y10 y11 y12 y13 y14 y15 y16 y17 y18 : Nat} (h : RW V b t [y0, y1, y2, y3, y4, y5, y6, y7, y8, y9, y10, y11, y12, y13, y14, y15, y16, y17, y18]) : V.cell? ⟨b, 0, none⟩ = some (.int .u64 (y0 : Nat)) ∧ V.cell? ⟨b, 1, none⟩ = some (.int .u64 (y1 : Nat)) ∧ V.cell? ⟨b, 2, none⟩ = some (.int .u64 (y2 : Nat)) ∧ V.cell? ⟨b, 3, none⟩ = some (.int .u64 (y3 : Nat)) ∧ V.cell? ⟨b, 4, none⟩ = some (.int .u64 (y4 : Nat)) ∧ V.cell? ⟨b, 5, none⟩ = some (.int .u64 (y5 : Nat)) ∧ V.cell? ⟨b, 6, none⟩ = some (.int .u64 (y6 : Nat)) ∧ V.cell? ⟨b, 7, none⟩ = some (.int .u64 (y7 : Nat)) ∧ V.cell? ⟨b, 8, none⟩ = some (.int .u64 (y8 : Nat)) ∧ V.cell? ⟨b, 9, none⟩ = some (.int .u64 (y9 : Nat)) ∧ V.cell? ⟨b, 10, none⟩ = some (.int .u64 (y10 : Nat)) ∧ V.cell? ⟨b, 11, none⟩ = some (.int .u64 (y11 : Nat)) ∧ V.cell? ⟨b, 12, none⟩ = some (.int .u64 (y12 : Nat)) ∧ V.cell? ⟨b, 13, none⟩ = some (.int .u64 (y13 : Nat)) ∧ V.cell? ⟨b, 14, none⟩ = some (.int .u64 (y14 : Nat)) ∧ V.cell? ⟨b, 15, none⟩ = some (.int .u64 (y15 : Nat)) ∧ V.cell? ⟨b, 16, none⟩ = some (.int .u64 (y16 : Nat)) ∧ V.cell? ⟨b, 17, none⟩ = some (.int .u64 (y17 : Nat)) ∧ V.cell? ⟨b, 18, none⟩ = some (.int .u64 (y18 : Nat)) ∧ b < V.heap.size :=
  ⟨h.cell 0 (by simp), h.cell 1 (by simp), h.cell 2 (by simp), h.cell 3 (by simp), h.cell 4 (by simp), h.cell 5 (by simp), h.cell 6 (by simp), h.cell 7 (by simp), h.cell 8 (by simp), h.cell 9 (by simp), h.cell 10 (by simp), h.cell 11 (by simp), h.cell 12 (by simp), h.cell 13 (by simp), h.cell 14 (by simp), h.cell 15 (by simp), h.cell 16 (by simp), h.cell 17 (by simp), h.cell 18 (by simp), h.lt⟩
theorem heap_new3 (V : World) (o p q r : Obj) : ((((V.alloc o).alloc p).alloc q).alloc r).heap[V.heap.size + 1 + 1 + 1]? = some r := by
  have := (MapKept.heap_alloc (((V.alloc o).alloc p).alloc q) r).1
  simpa using this

theorem wpList_load_mid {w : World} {ops : Array Oper} {rest : List Oper} {o : Oper} {a : Act} {Q : Exit → Act → World → Prop} (hgd : o.guard = none) (ty : TypeId) (x : Operand) (ho : o.op = .load ty x)
    (b : Nat) (hx : a.eval x = .pointer (some ⟨b, 0, none⟩)) (cs : List Value) (d : TypeDesc) (hc : w.rangeAt b 0 cs) (hu : Tryd.prog.underlying ty = some d) (hd : d.isRow = true) (hi : (Tryd.prog.info? ty).map (·.size) = some cs.length)
    (h : wpList Tryd.prog ops Q rest (a.put o.dst (.agg cs.toArray)) w) : wpList Tryd.prog ops Q (o :: rest) a w :=
  wpList_plain hgd fun _ hK => wp_load_mid ty x ho b 0 hx cs d hc hu hd hi (hK _ _ h)
theorem radd_any (A B : Nat) (hA : A / 2 ^ (30 * 9) = 0) (hB : B / 2 ^ (30 * 9) = 0) (hAB : A + B < 3864537523017258344695351890931987344298927329706434998657235251451519142289560424536193766581922577962463616031502177177365078661042987655742908673467080748696980814823424) (w : World) : Calls Tryd.prog 39 #[nd A, nd B] w fun e w' => e = .returned (nd ((A + B) % Nt.P)) ∧ Fr [] w w' := by
  have KR := fun W => reduce_any (al A B 9) (A + B) (al_val hA hB) (al_len A B 9) (al_le A B 9) hAB W
  obtain ⟨a0, a1, a2, a3, a4, a5, a6, a7, a8, ea, wa⟩ := nd_open A
  obtain ⟨b0, b1, b2, b3, b4, b5, b6, b7, b8, eb, wb⟩ := nd_open B
  obtain ⟨c0, c1, c2, c3, c4, c5, c6, c7, c8, ec, wc'⟩ := nd_open ((A + B) % Nt.P)
  obtain ⟨y0, y1, y2, y3, y4, y5, y6, y7, y8, y9, y10, y11, y12, y13, y14, y15, y16, y17, y18, et, wt⟩ := open19 (al A B 9) (al_len A B 9)
  rw [wt, wc'] at KR
  rw [wa, wb, wc']
  have HA := hid (p := _) ea
  have HB := hid (p := _) eb
  have HC := hid (p := _) ec
  have HT := hid (p := _) et
  have HR := hid (p := _) KR
  clear wa wb wc' wt ea eb ec et KR hA hB hAB
  go_enter Tryd.func39, Tryd.ntmps39
  go_wp2_with fail
  go_loopg [6] 9 (fun gk q wr => ∃ i : Nat, i ≤ 9 ∧ gk = 9 - i ∧ q = .int .i64 i ∧ Hid (Fr [] w wr ∧ RW wr w.heap.size 34 (dts A) ∧ RW wr (w.heap.size + 1) 34 (dts B) ∧ RW wr (w.heap.size + 2) 34 [0, 0, 0, 0, 0, 0, 0, 0, 0] ∧ RW wr (w.heap.size + 3) 101 (al A B i)))
  case atStart =>
    refine ⟨0, Nat.zero_le _, rfl, rfl, hid ⟨((((Fr.refl [] w).alloc _).alloc _).alloc _).alloc _, ?_, ?_, (RW.ofz (heap_new2 w _ _ _)).alloc _, ?_⟩⟩
    · rw [HA.out]; exact (((RW.of9 (heap_new0 w _)).alloc _).alloc _).alloc _
    · rw [HB.out]; exact ((RW.of9 (heap_new1 w _ _)).alloc _).alloc _
    · rw [al_zero]; exact RW.ofz19 (heap_new3 w _ _ _ _)
  case round =>
    obtain ⟨i, hi, hgk, rfl, K⟩ := hrel
    by_cases hlt : i < 9
    · have hlt' : (i : Int) < 9 := by omega
      have hlt19 : (i : Int) < 19 := by omega
      have e1 := K.out.2.1.cell i (by rw [dts_len]; exact hlt)
      rw [dts_get A i hlt] at e1
      have e2 := K.out.2.2.1.cell i (by rw [dts_len]; exact hlt)
      rw [dts_get B i hlt] at e2
      have e3 := K.out.2.2.2.2.cell i (by rw [al_len]; omega)
      have g3 := K.out.2.2.2.2.frozen i
      have l1 := K.out.2.1.lt
      have l2 := K.out.2.2.1.lt
      have l3 := K.out.2.2.2.2.lt
      have d1 := dt_lt A i
      have d2 := dt_lt B i
      have KN := fun x => (K.out.2.2.2.2.ext x).set i (dt A i + dt B i)
      rw [al_step A B i hlt] at KN
      have HKN := hid (p := _) KN
      have HF := hid (p := _) K.out.1
      have H1 := hid (p := _) K.out.2.1
      have H2 := hid (p := _) K.out.2.2.1
      have H3 := hid (p := _) K.out.2.2.2.1
      clear K KN
      generalize (al A B i).getD i 0 = o at *
      generalize dt A i = x at *
      generalize dt B i = y at *
      have f1 : IntKind.u64.wrap ((x : Int) + (y : Int)) = ((x + y : Nat) : Int) := by rw [IntKind.wrap_u64]; omega
      generalize x + y = z at *
      clear d1 d2
      go_wp2_with fail
      refine wp_region_last_ext [_, _, _, _, _, _, _, _, _] _ (by kernel_rfl) (by kernel_rfl) (by kernel_rfl) (by kernel_rfl) (by kernel_rfl) ?_
      simp only [List.cons_append, List.nil_append, idle]
      repeat (go_big_quiet_step (fail))
      refine wpQuiet_nil ?_
      rintro _ ⟨xq, rfl⟩
      have KN2 := HKN.out xq
      go_simp
      go_wp2
      go_roundg (9 - (i + 1))
      case measure => omega
      case rel =>
        exact ⟨i + 1, by omega, rfl, by go_num, hid ⟨(HF.out.ext xq).setCell (.inr (by show w.heap.size ≤ w.heap.size + 3; omega)) _, (H1.out.ext xq).other (by show w.heap.size ≠ w.heap.size + 3; omega) _, (H2.out.ext xq).other (by show w.heap.size + 1 ≠ w.heap.size + 3; omega) _, (H3.out.ext xq).other (by show w.heap.size + 2 ≠ w.heap.size + 3; omega) _, KN2⟩⟩
    · obtain rfl : i = 9 := by omega
      have T := K.out.2.2.2.2
      rw [HT.out] at T
      have hrg : wr.rangeAt (w.heap.size + 1 + 1 + 1) 0 [.int .u64 (y0 : Nat), .int .u64 (y1 : Nat), .int .u64 (y2 : Nat), .int .u64 (y3 : Nat), .int .u64 (y4 : Nat), .int .u64 (y5 : Nat), .int .u64 (y6 : Nat), .int .u64 (y7 : Nat), .int .u64 (y8 : Nat), .int .u64 (y9 : Nat), .int .u64 (y10 : Nat), .int .u64 (y11 : Nat), .int .u64 (y12 : Nat), .int .u64 (y13 : Nat), .int .u64 (y14 : Nat), .int .u64 (y15 : Nat), .int .u64 (y16 : Nat), .int .u64 (y17 : Nat), .int .u64 (y18 : Nat)] := fun j v hv => by rw [Nat.zero_add]; exact cell_of_heap T (by simpa [wc] using hv)
      have HRG := hid (p := _) hrg
      clear hrg
      have F := hid (p := _) K.out.1
      have Z := hid (p := _) K.out.2.2.2.1
      clear K T
      go_wp2_with (first | (refine wpList_load_mid rfl 101 (.tmp 5) rfl (w.heap.size + 1 + 1 + 1) rfl _ (.array 19 23) HRG.out (by kernel_rfl) rfl (by kernel_rfl) ?_) | (go_at_call 71; with_reducible refine (HR.out _).mono ?_; rintro e V2 ⟨rfl, hF⟩; have Z2 := Z.out.fr hF; have F2 := F.out.trans0 hF; obtain ⟨_, _, _, _, _, _, _, _, _, _, _, _, _, _, _, _, _, _, _, _⟩ := Z2.all; clear hF))
      simp [bodyPost, results, Tryd.results39, go_sem, *]
      exact F2.set9 (by omega) _ _ _ _ _ _ _ _ _

theorem bigP : Nt.P / 2 ^ (30 * 9) = 0 := div_R (by rw [Nt.P_val]; decide)
theorem big_of {A : Nat} (h : A ≤ Nt.P) : A / 2 ^ (30 * 9) = 0 := div_R (by have := R_P; omega)
theorem sum_K19 {A B : Nat} (hA : A ≤ Nt.P) (hB : B ≤ Nt.P) : A + B < 3864537523017258344695351890931987344298927329706434998657235251451519142289560424536193766581922577962463616031502177177365078661042987655742908673467080748696980814823424 := by
  have : Nt.P < 57896044618658097711785492504343953926634992332820282019728792003956564819968 := by have := R_P; omega
  omega
theorem rsub_any (A B : Nat) (hA : A < Nt.P) (hB : B < Nt.P) (w : World) : Calls Tryd.prog 38 #[nd A, nd B] w fun e w' => e = .returned (nd ((A + Nt.P - B) % Nt.P)) ∧ Fr [] w w' := by
  have e : A + Nt.P - B = A + (Nt.P - B) := by omega
  have K1 := fun W => prime_any W
  have K2 := fun W => rminus_any Nt.P B (by omega) W
  have K3 := fun W => radd_any A (Nt.P - B) (big_of (by omega)) (big_of (by omega)) (sum_K19 (by omega) (by omega)) W
  rw [e]
  obtain ⟨a0, a1, a2, a3, a4, a5, a6, a7, a8, ea, wa⟩ := nd_open A
  obtain ⟨b0, b1, b2, b3, b4, b5, b6, b7, b8, eb, wb⟩ := nd_open B
  obtain ⟨c0, c1, c2, c3, c4, c5, c6, c7, c8, ec, wc'⟩ := nd_open ((A + (Nt.P - B)) % Nt.P)
  rw [wb] at K2
  rw [wa, wc'] at K3
  rw [wa, wb, wc']
  have H1 := hid (p := _) K1
  have H2 := hid (p := _) K2
  have H3 := hid (p := _) K3
  have HA := hid (p := _) ea
  have HB := hid (p := _) eb
  clear wa wb wc' ea eb ec K1 K2 K3 e hA hB
  generalize nd (Nt.P - B) = vm at *
  generalize nd Nt.P = vp at *
  go_enter Tryd.func38, Tryd.ntmps38
  go_wp2_with fail
  have F := (((Fr.refl [] w).alloc (.cells #[.int .u64 (a0 : Nat), .int .u64 (a1 : Nat), .int .u64 (a2 : Nat), .int .u64 (a3 : Nat), .int .u64 (a4 : Nat), .int .u64 (a5 : Nat), .int .u64 (a6 : Nat), .int .u64 (a7 : Nat), .int .u64 (a8 : Nat)] 34)).alloc (.cells #[.int .u64 (b0 : Nat), .int .u64 (b1 : Nat), .int .u64 (b2 : Nat), .int .u64 (b3 : Nat), .int .u64 (b4 : Nat), .int .u64 (b5 : Nat), .int .u64 (b6 : Nat), .int .u64 (b7 : Nat), .int .u64 (b8 : Nat)] 34)).alloc (.cells #[.int .u64 0, .int .u64 0, .int .u64 0, .int .u64 0, .int .u64 0, .int .u64 0, .int .u64 0, .int .u64 0, .int .u64 0] 34)
  have A1 := ((RW.of9 (t := 34) (heap_new0 w (.cells #[.int .u64 (a0 : Nat), .int .u64 (a1 : Nat), .int .u64 (a2 : Nat), .int .u64 (a3 : Nat), .int .u64 (a4 : Nat), .int .u64 (a5 : Nat), .int .u64 (a6 : Nat), .int .u64 (a7 : Nat), .int .u64 (a8 : Nat)] 34))).alloc (.cells #[.int .u64 (b0 : Nat), .int .u64 (b1 : Nat), .int .u64 (b2 : Nat), .int .u64 (b3 : Nat), .int .u64 (b4 : Nat), .int .u64 (b5 : Nat), .int .u64 (b6 : Nat), .int .u64 (b7 : Nat), .int .u64 (b8 : Nat)] 34)).alloc (.cells #[.int .u64 0, .int .u64 0, .int .u64 0, .int .u64 0, .int .u64 0, .int .u64 0, .int .u64 0, .int .u64 0, .int .u64 0] 34)
  have B1 := (RW.of9 (t := 34) (heap_new1 w (.cells #[.int .u64 (a0 : Nat), .int .u64 (a1 : Nat), .int .u64 (a2 : Nat), .int .u64 (a3 : Nat), .int .u64 (a4 : Nat), .int .u64 (a5 : Nat), .int .u64 (a6 : Nat), .int .u64 (a7 : Nat), .int .u64 (a8 : Nat)] 34) (.cells #[.int .u64 (b0 : Nat), .int .u64 (b1 : Nat), .int .u64 (b2 : Nat), .int .u64 (b3 : Nat), .int .u64 (b4 : Nat), .int .u64 (b5 : Nat), .int .u64 (b6 : Nat), .int .u64 (b7 : Nat), .int .u64 (b8 : Nat)] 34))).alloc (.cells #[.int .u64 0, .int .u64 0, .int .u64 0, .int .u64 0, .int .u64 0, .int .u64 0, .int .u64 0, .int .u64 0, .int .u64 0] 34)
  have Z1 := RW.ofz (t := 34) (heap_new2 w (.cells #[.int .u64 (a0 : Nat), .int .u64 (a1 : Nat), .int .u64 (a2 : Nat), .int .u64 (a3 : Nat), .int .u64 (a4 : Nat), .int .u64 (a5 : Nat), .int .u64 (a6 : Nat), .int .u64 (a7 : Nat), .int .u64 (a8 : Nat)] 34) (.cells #[.int .u64 (b0 : Nat), .int .u64 (b1 : Nat), .int .u64 (b2 : Nat), .int .u64 (b3 : Nat), .int .u64 (b4 : Nat), .int .u64 (b5 : Nat), .int .u64 (b6 : Nat), .int .u64 (b7 : Nat), .int .u64 (b8 : Nat)] 34) (.cells #[.int .u64 0, .int .u64 0, .int .u64 0, .int .u64 0, .int .u64 0, .int .u64 0, .int .u64 0, .int .u64 0, .int .u64 0] 34))
  generalize ((w.alloc (.cells #[.int .u64 (a0 : Nat), .int .u64 (a1 : Nat), .int .u64 (a2 : Nat), .int .u64 (a3 : Nat), .int .u64 (a4 : Nat), .int .u64 (a5 : Nat), .int .u64 (a6 : Nat), .int .u64 (a7 : Nat), .int .u64 (a8 : Nat)] 34)).alloc (.cells #[.int .u64 (b0 : Nat), .int .u64 (b1 : Nat), .int .u64 (b2 : Nat), .int .u64 (b3 : Nat), .int .u64 (b4 : Nat), .int .u64 (b5 : Nat), .int .u64 (b6 : Nat), .int .u64 (b7 : Nat), .int .u64 (b8 : Nat)] 34)).alloc (.cells #[.int .u64 0, .int .u64 0, .int .u64 0, .int .u64 0, .int .u64 0, .int .u64 0, .int .u64 0, .int .u64 0, .int .u64 0] 34) = W at *
  obtain ⟨_, _, _, _, _, _, _, _, _, _, _, _, _, _, _, _, _, _, _, _⟩ := A1.all
  obtain ⟨_, _, _, _, _, _, _, _, _, _, _, _, _, _, _, _, _, _, _, _⟩ := B1.all
  obtain ⟨_, _, _, _, _, _, _, _, _, _, _, _, _, _, _, _, _, _, _, _⟩ := Z1.all
  refine wp_region_last_ext [_, _, _, _, _] _ (by kernel_rfl) (by kernel_rfl) (by kernel_rfl) (by kernel_rfl) (by kernel_rfl) ?_
  simp only [List.cons_append, List.nil_append, idle]
  repeat (go_big_quiet_step (first | with_reducible exact Calls.ext_of (H1.out _) | with_reducible exact Calls.ext_of (H2.out _) | with_reducible exact Calls.ext_of (H3.out _)))
  refine wpQuiet_nil ?_
  rintro _ ⟨xq, rfl⟩
  have F2 := F.ext xq
  have Z2 := Z1.ext xq
  obtain ⟨_, _, _, _, _, _, _, _, _, _, _, _, _, _, _, _, _, _, _, _⟩ := Z2.all
  go_simp
  go_wp2
  simp [bodyPost, results, Tryd.results38, go_sem, *]
  exact F2.set9 (by omega) _ _ _ _ _ _ _ _ _

end Go.Proofs.YtpdagpjjlnncbaaDoor
