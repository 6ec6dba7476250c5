/-
  The document's numbers: Less. No statement is proved here.
-/
import Derived.Test.YthbkhbfcocbnoaaDoorNumS
namespace Go.Proofs.YthbkhbfcocbnoaaDoor
open Go.RowKit Go.Lib Go.BigFrame
set_option linter.unusedVariables false
set_option linter.unusedSimpArgs false
set_option maxRecDepth 1000000
set_option maxHeartbeats 2000000

theorem div_dt (A i : Nat) : A / 2 ^ (30 * i) = 1073741824 * (A / 2 ^ (30 * (i + 1))) + dt A i := by
  have h := Nat.div_add_mod (A / 2 ^ (30 * i)) 1073741824
  rw [Nat.div_div_eq_div_mul, show 2 ^ (30 * i) * 1073741824 = 2 ^ (30 * (i + 1)) from by rw [Nat.mul_add, Nat.pow_add]] at h
  exact h.symm
theorem lt_of_div {A B m : Nat} (h : A / m < B / m) : A < B := by
  apply Classical.byContradiction
  intro hn
  have := Nat.div_le_div_right (c := m) (Nat.le_of_not_lt hn)
  omega
theorem less_dt {A B i : Nat} (h : A / 2 ^ (30 * (i + 1)) = B / 2 ^ (30 * (i + 1))) (hne : dt A i ≠ dt B i) : decide (dt A i < dt B i) = decide (A < B) := by
  have h1 := div_dt A i
  have h2 := div_dt B i
  by_cases hl : dt A i < dt B i
  · rw [decide_eq_true hl, decide_eq_true (lt_of_div (m := 2 ^ (30 * i)) (by omega))]
  · have : B < A := lt_of_div (m := 2 ^ (30 * i)) (by omega)
    rw [decide_eq_false hl, decide_eq_false (by omega)]
theorem div_bigk {A n k : Nat} (h : A < 2 ^ n) (hn : n ≤ k) : A / 2 ^ k = 0 := Nat.div_eq_of_lt (Nat.lt_of_lt_of_le h (Nat.pow_le_pow_right (by decide) hn))
theorem rless_any (A B : Nat) (hA : A / 2 ^ (30 * 9) = 0) (hB : B / 2 ^ (30 * 9) = 0) (w : World) : Calls Tryd.prog 37 #[nd A, nd B] w fun e w' => e = .returned (.bool (decide (A < B))) ∧ Fr [] w w' := by
  have h9 : A / 2 ^ (30 * 9) = B / 2 ^ (30 * 9) := hA.trans hB.symm
  have H9 := hid (p := _) h9
  obtain ⟨a0, a1, a2, a3, a4, a5, a6, a7, a8, ea, wa⟩ := nd_open A
  obtain ⟨b0, b1, b2, b3, b4, b5, b6, b7, b8, eb, wb⟩ := nd_open B
  rw [wa, wb]
  have HA := hid (p := _) ea
  have HB := hid (p := _) eb
  clear wa wb ea eb h9 hA hB
  generalize hr : decide (A < B) = r
  have HR := hid (p := _) hr
  clear hr
  go_enter Tryd.func37, Tryd.ntmps37
  go_wp2_with fail
  go_loopg [5] 9 (fun gk q wr => ∃ i : Nat, i ≤ 9 ∧ gk = i ∧ q = .int .i64 ((i : Int) - 1) ∧ Hid (A / 2 ^ (30 * i) = B / 2 ^ (30 * i) ∧ Fr [] w wr ∧ RW wr w.heap.size 35 (dts A) ∧ RW wr (w.heap.size + 1) 35 (dts B)))
  case atStart =>
    refine ⟨9, Nat.le_refl _, rfl, rfl, hid ⟨H9.out, ((Fr.refl [] w).alloc _).alloc _, ?_, ?_⟩⟩
    · rw [HA.out]; exact (RW.of9 (heap_new0 w _)).alloc _
    · rw [HB.out]; exact RW.of9 (heap_new1 w _ _)
  case round =>
    obtain ⟨i, hi, hgk, rfl, K⟩ := hrel
    rcases i with _ | i
    · have hAB : A = B := by
        have := K.out.1
        simpa using this
      have F := K.out.2.1
      have hr : r = false := by rw [← HR.out]; exact decide_eq_false (by omega)
      clear K hAB
      subst hr
      go_wp2_with fail
      go_ret
      exact ⟨rfl, F⟩
    · have hgi : ((i + 1 : Nat) : Int) - 1 = (i : Int) := by omega
      have e1 := K.out.2.2.1.cell i (by rw [dts_len]; omega)
      rw [dts_get A i (by omega)] at e1
      have e2 := K.out.2.2.2.cell i (by rw [dts_len]; omega)
      rw [dts_get B i (by omega)] at e2
      have l1 := K.out.2.2.1.lt
      have l2 := K.out.2.2.2.lt
      have hi9 : (i : Int) < 9 := by omega
      have HF := hid (p := _) K.out.2.1
      rw [hgi]
      by_cases hne : dt A i = dt B i
      · have hdiv : A / 2 ^ (30 * i) = B / 2 ^ (30 * i) := by rw [div_dt A i, div_dt B i, K.out.1, hne]
        have KK := hid (p := _) (fun x => (⟨hdiv, K.out.2.1.ext x, K.out.2.2.1.ext x, K.out.2.2.2.ext x⟩ : A / 2 ^ (30 * i) = B / 2 ^ (30 * i) ∧ Fr [] w (ext wr x) ∧ RW (ext wr x) w.heap.size 35 (dts A) ∧ RW (ext wr x) (w.heap.size + 1) 35 (dts B)))
        have hneq : ((dt A i : Nat) : Int) = ((dt B i : Nat) : Int) := by rw [hne]
        clear K hdiv
        rw [hne] at e1
        generalize dt B i = y at *
        clear hne hneq
        go_wp2_with fail
        refine wp_region_ext (by kernel_rfl) (by kernel_rfl) ?_
        repeat (go_big_quiet_step (fail))
        refine wpQuiet_nil ?_
        rintro _ ⟨xq, rfl⟩
        go_wp2
        go_roundg i
        case measure => omega
        case rel => exact ⟨i, by omega, rfl, by go_num, hid (KK.out xq)⟩
      · have hl := less_dt K.out.1 hne
        rw [HR.out] at hl
        have hne2 : ¬ ((dt A i : Nat) : Int) = ((dt B i : Nat) : Int) := by omega
        have hl2 : decide (((dt A i : Nat) : Int) < ((dt B i : Nat) : Int)) = r := by rw [← hl]; simp
        clear K hne
        generalize dt A i = x at *
        generalize dt B i = y at *
        go_wp2_with fail
        refine wp_region_ext (by kernel_rfl) (by kernel_rfl) ?_
        repeat (go_big_quiet_step (fail))
        refine wpQuiet_nil ?_
        rintro _ ⟨xq, rfl⟩
        have F2 := HF.out.ext xq
        have e3 : (ext wr xq).cell? ⟨w.heap.size, i, none⟩ = some (.int .u64 (x : Nat)) := by rw [ext_cell _ _ _ _ l1]; exact e1
        have e4 : (ext wr xq).cell? ⟨w.heap.size + 1, i, none⟩ = some (.int .u64 (y : Nat)) := by rw [ext_cell _ _ _ _ l2]; exact e2
        have l3 : w.heap.size < (ext wr xq).heap.size := Nat.lt_of_lt_of_le l1 (ext_fr wr xq).size
        have l4 : w.heap.size + 1 < (ext wr xq).heap.size := Nat.lt_of_lt_of_le l2 (ext_fr wr xq).size
        generalize ext wr xq = wr2 at *
        go_wp2
        refine wp_region_ext (by kernel_rfl) (by kernel_rfl) ?_
        repeat (go_big_quiet_step (fail))
        refine wpQuiet_nil ?_
        rintro _ ⟨xr, rfl⟩
        go_wp2
        go_ret
        exact ⟨by first | simp [hl2] | simp [hl] | (simp; exact hl), F2.ext xr⟩

end Go.Proofs.YthbkhbfcocbnoaaDoor
