/-
  The document's numbers (pharosref07): less. No statement is proved here.
-/
import Derived.Test.YtgjpombdkgomaaaDoorOrdM
namespace Go.Proofs.YtgjpombdkgomaaaDoor
open Go.RowKit Go.Lib Go.BigFrame
set_option linter.unusedVariables false
set_option linter.unusedSimpArgs false
set_option maxRecDepth 1000000
set_option maxHeartbeats 4000000

theorem div_vb (A i : Nat) : A / 256 ^ i = 256 * (A / 256 ^ (i + 1)) + vb A i := by
  have h := Nat.div_add_mod (A / 256 ^ i) 256
  rw [Nat.div_div_eq_div_mul, ← Nat.pow_succ] at h
  exact h.symm
theorem lt_of_div {A B m : Nat} (h : A / m < B / m) : A < B := by
  apply Classical.byContradiction
  intro hn
  have := Nat.div_le_div_right (c := m) (Nat.le_of_not_lt hn)
  omega
theorem less_vb {A B i : Nat} (h : A / 256 ^ (i + 1) = B / 256 ^ (i + 1)) (hne : vb A i ≠ vb B i) : decide (vb A i < vb B i) = decide (A < B) := by
  have h1 := div_vb A i
  have h2 := div_vb B i
  by_cases hl : vb A i < vb B i
  · rw [decide_eq_true hl, decide_eq_true (lt_of_div (m := 256 ^ i) (by omega))]
  · have : B < A := lt_of_div (m := 256 ^ i) (by omega)
    rw [decide_eq_false hl, decide_eq_false (by omega)]
theorem rless_any (A B : Nat) (hA : A / 256 ^ 32 = 0) (hB : B / 256 ^ 32 = 0) (w : World) : Calls Tryd.prog 24 #[nb A, nb B] w fun e w' => e = .returned (.bool (decide (A < B))) ∧ Fr [] w w' := by
  have h9 : A / 256 ^ 32 = B / 256 ^ 32 := hA.trans hB.symm
  have H9 := hid (p := _) h9
  unfold nb
  clear h9 hA hB
  generalize hr : decide (A < B) = r
  have HR := hid (p := _) hr
  clear hr
  go_enter Tryd.func24, Tryd.ntmps24
  go_wp2_with fail
  go_loopg [5] 32 (fun gk q wr => ∃ i : Nat, i ≤ 32 ∧ gk = i ∧ q = .int .i64 ((i : Int) - 1) ∧ Hid (A / 256 ^ i = B / 256 ^ i ∧ Fr [] w wr ∧ RB wr w.heap.size 38 (vbl A) ∧ RB wr (w.heap.size + 1) 38 (vbl B)))
  case atStart =>
    exact ⟨32, Nat.le_refl _, rfl, rfl, hid ⟨H9.out, ((Fr.refl [] w).alloc _).alloc _, RB.alloc (MapKept.heap_alloc w _).1 _, heap_new1 w _ _⟩⟩
  case round =>
    obtain ⟨i, hi, hgk, rfl, K⟩ := hrel
    rcases i with _ | i
    · have hAB : A = B := by
        have := K.out.1
        simpa using this
      have F := K.out.2.1
      have hr : r = false := by rw [← HR.out]; exact decide_eq_false (by omega)
      clear K hAB
      subst hr
      go_wp2_with fail
      go_ret
      exact ⟨rfl, F⟩
    · have hgi : ((i + 1 : Nat) : Int) - 1 = (i : Int) := by omega
      have e1 := K.out.2.2.1.cell i (by rw [vbl_len]; omega)
      rw [vbl_get A i (by omega)] at e1
      have e2 := K.out.2.2.2.cell i (by rw [vbl_len]; omega)
      rw [vbl_get B i (by omega)] at e2
      have l1 := K.out.2.2.1.lt
      have l2 := K.out.2.2.2.lt
      have hi9 : (i : Int) < 32 := by omega
      have HF := hid (p := _) K.out.2.1
      rw [hgi]
      by_cases hne : vb A i = vb B i
      · have hdiv : A / 256 ^ i = B / 256 ^ i := by rw [div_vb A i, div_vb B i, K.out.1, hne]
        have KK := hid (p := _) (fun x => (⟨hdiv, K.out.2.1.ext x, K.out.2.2.1.ext x, K.out.2.2.2.ext x⟩ : A / 256 ^ i = B / 256 ^ i ∧ Fr [] w (ext wr x) ∧ RB (ext wr x) w.heap.size 38 (vbl A) ∧ RB (ext wr x) (w.heap.size + 1) 38 (vbl B)))
        have hneq : ((vb A i : Nat) : Int) = ((vb B i : Nat) : Int) := by rw [hne]
        clear K hdiv
        rw [hne] at e1
        generalize vb B i = y at *
        clear hne hneq
        go_wp2_with fail
        refine wp_region_ext (by kernel_rfl) (by kernel_rfl) ?_
        repeat (go_big_quiet_step (fail))
        refine wpQuiet_nil ?_
        rintro _ ⟨xq, rfl⟩
        go_wp2
        go_roundg i
        case measure => omega
        case rel => exact ⟨i, by omega, rfl, by go_num, hid (KK.out xq)⟩
      · have hl := less_vb K.out.1 hne
        rw [HR.out] at hl
        have hne2 : ¬ ((vb A i : Nat) : Int) = ((vb B i : Nat) : Int) := by omega
        have hl2 : decide (((vb A i : Nat) : Int) < ((vb B i : Nat) : Int)) = r := by rw [← hl]; simp
        clear K hne
        generalize vb A i = x at *
        generalize vb B i = y at *
        go_wp2_with fail
        refine wp_region_ext (by kernel_rfl) (by kernel_rfl) ?_
        repeat (go_big_quiet_step (fail))
        refine wpQuiet_nil ?_
        rintro _ ⟨xq, rfl⟩
        have F2 := HF.out.ext xq
        have e3 : (ext wr xq).cell? ⟨w.heap.size, i, none⟩ = some (.int .u8 (x : Nat)) := by rw [ext_cell _ _ _ _ l1]; exact e1
        have e4 : (ext wr xq).cell? ⟨w.heap.size + 1, i, none⟩ = some (.int .u8 (y : Nat)) := by rw [ext_cell _ _ _ _ l2]; exact e2
        have l3 : w.heap.size < (ext wr xq).heap.size := Nat.lt_of_lt_of_le l1 (ext_fr wr xq).size
        have l4 : w.heap.size + 1 < (ext wr xq).heap.size := Nat.lt_of_lt_of_le l2 (ext_fr wr xq).size
        generalize ext wr xq = wr2 at *
        go_wp2
        refine wp_region_ext (by kernel_rfl) (by kernel_rfl) ?_
        repeat (go_big_quiet_step (fail))
        refine wpQuiet_nil ?_
        rintro _ ⟨xr, rfl⟩
        go_wp2
        go_ret
        exact ⟨by first | simp [hl2] | simp [hl] | (simp; exact hl), F2.ext xr⟩

theorem div_split {B D m : Nat} (hm : 0 < m) : (B + D) / m = B / m + D / m + if (B + D) % m < B % m then 1 else 0 := by
  have hb := Nat.div_add_mod B m
  have hd := Nat.div_add_mod D m
  have rb := Nat.mod_lt B hm
  have rd := Nat.mod_lt D hm
  generalize B / m = qb at *
  generalize D / m = qd at *
  generalize B % m = xb at *
  generalize D % m = xd at *
  have e : B + D = (xb + xd) + m * (qb + qd) := by rw [Nat.mul_add]; omega
  rw [e, Nat.add_mul_div_left _ _ hm, Nat.add_mul_mod_self_left]
  by_cases h : xb + xd < m
  · rw [Nat.div_eq_of_lt h, Nat.mod_eq_of_lt h, if_neg (by omega)]; omega
  · have h1 : (xb + xd) / m = 1 := by
      have e2 : xb + xd = (xb + xd - m) + m * 1 := by omega
      rw [e2, Nat.add_mul_div_left _ _ hm, Nat.div_eq_of_lt (by omega)]
    have h2 : (xb + xd) % m = xb + xd - m := by rw [Nat.mod_eq_sub_mod (by omega), Nat.mod_eq_of_lt (by omega)]
    rw [h1, h2, if_pos (by omega)]; omega
theorem minus_gen {A B m K : Nat} (hm : 0 < m) (hK : 0 < K) (hAB : B ≤ A) : K * (if A % (m * K) < B % (m * K) then 1 else 0) + A / m % K = B / m % K + (if A % m < B % m then 1 else 0) + (A - B) / m % K := by
  obtain ⟨D, rfl⟩ : ∃ D, A = B + D := ⟨A - B, by omega⟩
  rw [show B + D - B = D by omega]
  have h1 := div_split (B := B) (D := D) hm
  have h2 := div_split (B := B) (D := D) (Nat.mul_pos hm hK)
  have a1 := Nat.div_add_mod ((B + D) / m) K
  have a2 := Nat.div_add_mod (B / m) K
  have a3 := Nat.div_add_mod (D / m) K
  rw [Nat.div_div_eq_div_mul] at a1 a2 a3
  generalize (if (B + D) % (m * K) < B % (m * K) then 1 else 0) = c2 at *
  generalize (if (B + D) % m < B % m then 1 else 0) = c1 at *
  rw [h2, h1] at a1
  have e : K * (B / (m * K) + D / (m * K) + c2) = K * (B / (m * K)) + K * (D / (m * K)) + K * c2 := by rw [Nat.mul_add, Nat.mul_add]
  rw [e] at a1
  rw [h1]
  omega
/-- The borrow ahead of byte i. -/
def bw (A B i : Nat) : Nat := if A % 256 ^ i < B % 256 ^ i then 1 else 0
theorem bw_le (A B i : Nat) : bw A B i ≤ 1 := by unfold bw; split <;> omega
theorem minus_vb {A B : Nat} (h : B ≤ A) (i : Nat) : 256 * bw A B (i + 1) + vb A i = vb B i + bw A B i + vb (A - B) i := by
  have := minus_gen (A := A) (B := B) (m := 256 ^ i) (K := 256) (Nat.pow_pos (by decide)) (by decide) h
  rw [← Nat.pow_succ] at this
  exact this
end Go.Proofs.YtgjpombdkgomaaaDoor
