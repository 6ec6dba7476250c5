/-
  The document's numbers: Mul. No statement is proved here.
-/
import Derived.Test.YthbkhbfcocbnoaaDoorRedB
namespace Go.Proofs.YthbkhbfcocbnoaaDoor
open Go.RowKit Go.Lib Go.BigFrame
set_option linter.unusedVariables false
set_option linter.unusedSimpArgs false
set_option maxRecDepth 1000000
set_option maxHeartbeats 4000000

theorem vl_set : ∀ (l : List Nat) (j y : Nat), j < l.length → vl (l.set j (l.getD j 0 + y)) = vl l + 1073741824 ^ j * y
  | [], j, y, h => by simp at h
  | x :: l, 0, y, h => by
    show x + y + 1073741824 * vl l = x + 1073741824 * vl l + 1073741824 ^ 0 * y
    rw [Nat.pow_zero, Nat.one_mul]; omega
  | x :: l, j + 1, y, h => by
    have ih := vl_set l j y (by simpa using h)
    show x + 1073741824 * vl (l.set j (l.getD j 0 + y)) = x + 1073741824 * vl l + 1073741824 ^ (j + 1) * y
    rw [ih, Nat.mul_add, Nat.pow_succ', Nat.mul_assoc, Nat.add_assoc]
theorem mod_dt (B k : Nat) : B % 2 ^ (30 * (k + 1)) = B % 2 ^ (30 * k) + 2 ^ (30 * k) * dt B k := by
  rw [show 2 ^ (30 * (k + 1)) = 2 ^ (30 * k) * 1073741824 from by rw [Nat.mul_add, Nat.pow_add], Nat.mod_mul]; rfl
theorem succ_Q (i : Nat) : (i + 1) * 1152921502459363329 = i * 1152921502459363329 + 1152921502459363329 := Nat.succ_mul i _
theorem rep_get (n j : Nat) : (List.replicate n 0).getD j 0 = 0 := by
  simp only [List.getD_eq_getElem?_getD, List.getElem?_replicate]
  split <;> rfl
/-- Ahead of step k of row i of Mul. -/
def MI (A B i k : Nat) (t : List Nat) : Prop := t.length = 19 ∧ vl t = A % 2 ^ (30 * i) * B + dt A i * 2 ^ (30 * i) * (B % 2 ^ (30 * k)) ∧ (∀ j, j < i + k → t.getD j 0 ≤ (i + 1) * 1152921502459363329) ∧ ∀ j, i + k ≤ j → t.getD j 0 ≤ i * 1152921502459363329
theorem prod_le (A B i k : Nat) : dt A i * dt B k ≤ 1152921502459363329 := by
  have h1 := dt_lt A i
  have h2 := dt_lt B k
  exact Nat.mul_le_mul (show dt A i ≤ 1073741823 by omega) (show dt B k ≤ 1073741823 by omega)
theorem getD_set (l : List Nat) (j x n : Nat) (h : j < l.length) : (l.set j x).getD n 0 = if j = n then x else l.getD n 0 := by
  simp only [List.getD_eq_getElem?_getD, List.getElem?_set]
  by_cases e : j = n
  · subst e; simp [h]
  · simp [e]
theorem MI.step {A B i k : Nat} {t : List Nat} (h : MI A B i k t) (hi : i < 9) (hk : k < 9) : MI A B i (k + 1) (t.set (i + k) (t.getD (i + k) 0 + dt A i * dt B k)) := by
  obtain ⟨h1, h2, h3, h4⟩ := h
  have hj : i + k < t.length := by omega
  have hp := prod_le A B i k
  refine ⟨by rw [List.length_set]; exact h1, ?_, fun j hj2 => ?_, fun j hj2 => ?_⟩
  · rw [vl_set t _ _ hj, h2, mod_dt B k, Nat.mul_add, Nat.add_assoc]
    congr 1
    congr 1
    have e : 1073741824 ^ (i + k) = 2 ^ (30 * i) * 2 ^ (30 * k) := by rw [← Nat.pow_add, ← Nat.mul_add, Nat.pow_mul]
    rw [e, Nat.mul_comm (dt A i) (2 ^ (30 * i)), Nat.mul_assoc, Nat.mul_assoc, Nat.mul_left_comm (dt A i)]
  · rw [getD_set t _ _ _ hj]
    split
    · have := h4 (i + k) (Nat.le_refl _)
      have e := succ_Q i
      omega
    · exact h3 j (by omega)
  · rw [getD_set t _ _ _ hj, if_neg (by omega)]
    exact h4 j (by omega)
theorem MI.row {A B i : Nat} {t : List Nat} (h : MI A B i 9 t) (hB : B / 2 ^ (30 * 9) = 0) : MI A B (i + 1) 0 t := by
  obtain ⟨h1, h2, h3, h4⟩ := h
  have hall : ∀ j, t.getD j 0 ≤ (i + 1) * 1152921502459363329 := fun j => by
    by_cases hj : j < i + 9
    · exact h3 j hj
    · have := h4 j (Nat.le_of_not_lt hj)
      rw [succ_Q]; exact Nat.le_trans this (Nat.le_add_right _ _)
  refine ⟨h1, ?_, fun j hj => ?_, fun j hj => hall j⟩
  · rw [h2, mod_of_div (Nat.two_pow_pos _) hB, mod_dt A i, ← Nat.add_mul, Nat.mul_comm (dt A i), Nat.mul_zero, Nat.pow_zero, Nat.mod_one, Nat.mul_zero, Nat.add_zero]
  · have := hall j
    rw [succ_Q]; exact Nat.le_trans this (Nat.le_add_right _ _)
theorem MI.start (A B : Nat) : MI A B 0 0 [0, 0, 0, 0, 0, 0, 0, 0, 0, 0, 0, 0, 0, 0, 0, 0, 0, 0, 0] := by
  refine ⟨rfl, ?_, fun j hj => by omega, fun j _ => ?_⟩
  · rw [show ([0, 0, 0, 0, 0, 0, 0, 0, 0, 0, 0, 0, 0, 0, 0, 0, 0, 0, 0] : List Nat) = List.replicate 19 0 from rfl, vl_zeros]
    simp [Nat.mod_one]
  · rw [show ([0, 0, 0, 0, 0, 0, 0, 0, 0, 0, 0, 0, 0, 0, 0, 0, 0, 0, 0] : List Nat) = List.replicate 19 0 from rfl]
    have := rep_get 19 j
    rw [this]; exact Nat.zero_le _
theorem MI.last {A B : Nat} {t : List Nat} (h : MI A B 9 0 t) (hA : A / 2 ^ (30 * 9) = 0) : vl t = A * B ∧ ∀ x ∈ t, x ≤ 18446742974197923840 := by
  obtain ⟨h1, h2, h3, h4⟩ := h
  refine ⟨?_, fun x hx => ?_⟩
  · rw [h2, mod_of_div (Nat.two_pow_pos _) hA, Nat.mul_zero 30, Nat.pow_zero, Nat.mod_one, Nat.mul_zero, Nat.add_zero]
  · obtain ⟨j, hj, rfl⟩ := List.mem_iff_getElem.1 hx
    have e : t.getD j 0 = t[j] := by simp [hj]
    rw [← e]
    by_cases hj9 : j < 9 + 0
    · have := h3 j hj9; omega
    · have := h4 j (by omega); omega

theorem rmul_any (A B : Nat) (hA : A / 2 ^ (30 * 9) = 0) (hB : B / 2 ^ (30 * 9) = 0) (hAB : A * B < 3864537523017258344695351890931987344298927329706434998657235251451519142289560424536193766581922577962463616031502177177365078661042987655742908673467080748696980814823424) (w : World) : Calls Tryd.prog 35 #[nd A, nd B] w fun e w' => e = .returned (nd (A * B % Nt.P)) ∧ Fr [] w w' := by
  have KR := hid (p := _) (fun t V h1 h2 h3 h4 W => reduce_any t V h1 h2 h3 h4 W)
  have HAB := hid (p := _) hAB
  have HA0 := hid (p := _) hA
  have HB0 := hid (p := _) hB
  obtain ⟨a0, a1, a2, a3, a4, a5, a6, a7, a8, ea, wa⟩ := nd_open A
  obtain ⟨b0, b1, b2, b3, b4, b5, b6, b7, b8, eb, wb⟩ := nd_open B
  obtain ⟨c0, c1, c2, c3, c4, c5, c6, c7, c8, ec, wc'⟩ := nd_open (A * B % Nt.P)
  rw [wa, wb, wc']
  have HA := hid (p := _) ea
  have HB := hid (p := _) eb
  have HW := hid (p := _) wc'
  clear wa wb wc' ea eb ec hA hB hAB
  go_enter Tryd.func35, Tryd.ntmps35
  go_wp2_with fail
  go_loopg [6] 9 (fun gk q wr => ∃ i : Nat, ∃ t : List Nat, i ≤ 9 ∧ gk = 9 - i ∧ q = .int .i64 i ∧ Hid (Fr [] w wr ∧ RW wr w.heap.size 35 (dts A) ∧ RW wr (w.heap.size + 1) 35 (dts B) ∧ RW wr (w.heap.size + 2) 35 [0, 0, 0, 0, 0, 0, 0, 0, 0] ∧ RW wr (w.heap.size + 3) 51 t ∧ MI A B i 0 t))
  case atStart =>
    refine ⟨0, _, Nat.zero_le _, rfl, rfl, hid ⟨((((Fr.refl [] w).alloc _).alloc _).alloc _).alloc _, ?_, ?_, (RW.ofz (heap_new2 w _ _ _)).alloc _, RW.ofz19 (heap_new3 w _ _ _ _), MI.start A B⟩⟩
    · rw [HA.out]; exact (((RW.of9 (heap_new0 w _)).alloc _).alloc _).alloc _
    · rw [HB.out]; exact ((RW.of9 (heap_new1 w _ _)).alloc _).alloc _
  case round =>
    obtain ⟨i, t, hi, hgk, rfl, K1⟩ := hrel
    by_cases hlt : i < 9
    · have hlt' : (i : Int) < 9 := by omega
      go_wp2_with fail
      go_loopg [7] 9 (fun gj q wr => ∃ k : Nat, ∃ t : List Nat, k ≤ 9 ∧ gj = 9 - k ∧ q = .int .i64 k ∧ Hid (Fr [] w wr ∧ RW wr w.heap.size 35 (dts A) ∧ RW wr (w.heap.size + 1) 35 (dts B) ∧ RW wr (w.heap.size + 2) 35 [0, 0, 0, 0, 0, 0, 0, 0, 0] ∧ RW wr (w.heap.size + 3) 51 t ∧ MI A B i k t))
      case atStart => exact ⟨0, t, Nat.zero_le _, rfl, rfl, K1⟩
      case round =>
        clear K1
        obtain ⟨k, t, hk, hgj, rfl, K⟩ := hrel
        by_cases hlk : k < 9
        · have hlk' : (k : Int) < 9 := by omega
          have hik : (i : Int) + (k : Int) < 19 := by omega
          have e1 := K.out.2.1.cell i (by rw [dts_len]; exact hlt)
          rw [dts_get A i hlt] at e1
          have e2 := K.out.2.2.1.cell k (by rw [dts_len]; exact hlk)
          rw [dts_get B k hlk] at e2
          have htl := K.out.2.2.2.2.2.1
          have e3 := K.out.2.2.2.2.1.cell (i + k) (by omega)
          have g3 := K.out.2.2.2.2.1.frozen (i + k)
          have l1 := K.out.2.1.lt
          have l2 := K.out.2.2.1.lt
          have l3 := K.out.2.2.2.2.1.lt
          have hp := prod_le A B i k
          have hq := K.out.2.2.2.2.2.2.2.2 (i + k) (Nat.le_refl _)
          have hq2 : t.getD (i + k) 0 ≤ 9 * 1152921502459363329 := Nat.le_trans hq (Nat.mul_le_mul_right _ (by omega))
          have HKN := hid (p := _) (fun x => (K.out.2.2.2.2.1.ext x).set (i + k) (t.getD (i + k) 0 + dt A i * dt B k))
          have HMI := hid (p := _) (K.out.2.2.2.2.2.step hlt hlk)
          have HF := hid (p := _) K.out.1
          have H1 := hid (p := _) K.out.2.1
          have H2 := hid (p := _) K.out.2.2.1
          have H3 := hid (p := _) K.out.2.2.2.1
          clear K htl hq
          have f1 : IntKind.u64.wrap (((dt A i : Nat) : Int) * ((dt B k : Nat) : Int)) = ((dt A i * dt B k : Nat) : Int) := by rw [mulN]; exact wrapN _ (by omega)
          generalize dt A i * dt B k = p at *
          generalize dt A i = x at *
          generalize dt B k = y at *
          generalize hs : t.set (i + k) (t.getD (i + k) 0 + p) = t2 at *
          have HS := hid (p := _) hs
          clear hs
          generalize t.getD (i + k) 0 = o at *
          have f2 : IntKind.u64.wrap ((o : Int) + (p : Int)) = ((o + p : Nat) : Int) := by rw [IntKind.wrap_u64]; omega
          generalize o + p = z at *
          clear hp hq2
          go_wp2_with fail
          refine wp_region_last_ext [_, _, _, _, _, _, _, _, _, _, _, _, _, _, _, _, _] _ (by kernel_rfl) (by kernel_rfl) (by kernel_rfl) (by kernel_rfl) (by kernel_rfl) ?_
          simp only [List.cons_append, List.nil_append, idle]
          repeat (go_big_quiet_step (fail))
          refine wpQuiet_nil ?_
          rintro _ ⟨xq, rfl⟩
          have KN2 := HKN.out xq
          go_simp
          go_wp2
          go_roundg (9 - (k + 1))
          case measure => omega
          case rel =>
            exact ⟨k + 1, _, by omega, rfl, by go_num, hid ⟨(HF.out.ext xq).setCell (.inr (by show w.heap.size ≤ w.heap.size + 3; omega)) _, (H1.out.ext xq).other (by show w.heap.size ≠ w.heap.size + 3; omega) _, (H2.out.ext xq).other (by show w.heap.size + 1 ≠ w.heap.size + 3; omega) _, (H3.out.ext xq).other (by show w.heap.size + 2 ≠ w.heap.size + 3; omega) _, KN2, HMI.out⟩⟩
        · obtain rfl : k = 9 := by omega
          go_wp2_with fail
          go_roundg (9 - (i + 1))
          case measure => omega
          case rel => exact ⟨i + 1, t, by omega, rfl, by go_num, hid ⟨K.out.1, K.out.2.1, K.out.2.2.1, K.out.2.2.2.1, K.out.2.2.2.2.1, K.out.2.2.2.2.2.row HB0.out⟩⟩
    · obtain rfl : i = 9 := by omega
      have T := K1.out.2.2.2.2.1
      have hl := K1.out.2.2.2.2.2.1
      obtain ⟨hv, hd⟩ := K1.out.2.2.2.2.2.last HA0.out
      have KK := fun W => KR.out t (A * B) hv hl hd HAB.out W
      obtain ⟨y0, y1, y2, y3, y4, y5, y6, y7, y8, y9, y10, y11, y12, y13, y14, y15, y16, y17, y18, et, wt⟩ := open19 t hl
      rw [wt, HW.out] at KK
      have HR := hid (p := _) KK
      rw [et] at T
      have hrg : wr.rangeAt (w.heap.size + 1 + 1 + 1) 0 [.int .u64 (y0 : Nat), .int .u64 (y1 : Nat), .int .u64 (y2 : Nat), .int .u64 (y3 : Nat), .int .u64 (y4 : Nat), .int .u64 (y5 : Nat), .int .u64 (y6 : Nat), .int .u64 (y7 : Nat), .int .u64 (y8 : Nat), .int .u64 (y9 : Nat), .int .u64 (y10 : Nat), .int .u64 (y11 : Nat), .int .u64 (y12 : Nat), .int .u64 (y13 : Nat), .int .u64 (y14 : Nat), .int .u64 (y15 : Nat), .int .u64 (y16 : Nat), .int .u64 (y17 : Nat), .int .u64 (y18 : Nat)] := fun j v hv => by rw [Nat.zero_add]; exact cell_of_heap T (by simpa [wc] using hv)
      have HRG := hid (p := _) hrg
      have F := hid (p := _) K1.out.1
      have Z := hid (p := _) K1.out.2.2.2.1
      clear K1 T hrg hv hd KK wt et hl
      go_wp2_with (first | (refine wpList_load_mid rfl 51 (.tmp 5) rfl (w.heap.size + 1 + 1 + 1) rfl _ (.array 19 33) HRG.out (by kernel_rfl) rfl (by kernel_rfl) ?_) | (go_at_call 22; with_reducible refine (HR.out _).mono ?_; rintro e V2 ⟨rfl, hF⟩; have Z2 := Z.out.fr hF; have F2 := F.out.trans0 hF; obtain ⟨_, _, _, _, _, _, _, _, _, _, _, _, _, _, _, _, _, _, _, _⟩ := Z2.all; clear hF))
      simp [bodyPost, results, Tryd.results35, go_sem, *]
      exact F2.set9 (by omega) _ _ _ _ _ _ _ _ _

end Go.Proofs.YthbkhbfcocbnoaaDoor
