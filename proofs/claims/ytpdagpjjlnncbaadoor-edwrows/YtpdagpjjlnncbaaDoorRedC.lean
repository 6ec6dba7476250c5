/-
  The document's numbers: Mul. No statement is proved here.
-/
import Derived.Test.YtpdagpjjlnncbaaDoorRedB
namespace Go.Proofs.YtpdagpjjlnncbaaDoor
open Go.RowKit Go.Lib Go.BigFrame
set_option linter.unusedVariables false
set_option linter.unusedSimpArgs false
set_option maxRecDepth 1000000
set_option maxHeartbeats 4000000

theorem vl_set : ∀ (l : List Nat) (j y : Nat), j < l.length → vl (l.set j (l.getD j 0 + y)) = vl l + 1073741824 ^ j * y
  | [], j, y, h => by simp at h
  | x :: l, 0, y, h => by
    show x + y + 1073741824 * vl l = x + 1073741824 * vl l + 1073741824 ^ 0 * y
    rw [Nat.pow_zero, Nat.one_mul]; omega
  | x :: l, j + 1, y, h => by
    have ih := vl_set l j y (by simpa using h)
    show x + 1073741824 * vl (l.set j (l.getD j 0 + y)) = x + 1073741824 * vl l + 1073741824 ^ (j + 1) * y
    rw [ih, Nat.mul_add, Nat.pow_succ', Nat.mul_assoc, Nat.add_assoc]
theorem mod_dt (B k : Nat) : B % 2 ^ (30 * (k + 1)) = B % 2 ^ (30 * k) + 2 ^ (30 * k) * dt B k := by
  rw [show 2 ^ (30 * (k + 1)) = 2 ^ (30 * k) * 1073741824 from by rw [Nat.mul_add, Nat.pow_add], Nat.mod_mul]; rfl
theorem succ_Q (i : Nat) : (i + 1) * 1152921502459363329 = i * 1152921502459363329 + 1152921502459363329 := Nat.succ_mul i _
theorem rep_get (n j : Nat) : (List.replicate n 0).getD j 0 = 0 := by
  simp only [List.getD_eq_getElem?_getD, List.getElem?_replicate]
  split <;> rfl
/-- Ahead of step k of row i of Mul. -/
def MI (A B i k : Nat) (t : List Nat) : Prop := t.length = 19 ∧ vl t = A % 2 ^ (30 * i) * B + dt A i * 2 ^ (30 * i) * (B % 2 ^ (30 * k)) ∧ (∀ j, j < i + k → t.getD j 0 ≤ (i + 1) * 1152921502459363329) ∧ ∀ j, i + k ≤ j → t.getD j 0 ≤ i * 1152921502459363329
theorem prod_le (A B i k : Nat) : dt A i * dt B k ≤ 1152921502459363329 := by
  have h1 := dt_lt A i
  have h2 := dt_lt B k
  exact Nat.mul_le_mul (show dt A i ≤ 1073741823 by omega) (show dt B k ≤ 1073741823 by omega)
theorem getD_set (l : List Nat) (j x n : Nat) (h : j < l.length) : (l.set j x).getD n 0 = if j = n then x else l.getD n 0 := by
  simp only [List.getD_eq_getElem?_getD, List.getElem?_set]
  by_cases e : j = n
  · subst e; simp [h]
  · simp [e]
theorem MI.step {A B i k : Nat} {t : List Nat} (h : MI A B i k t) (hi : i < 9) (hk : k < 9) : MI A B i (k + 1) (t.set (i + k) (t.getD (i + k) 0 + dt A i * dt B k)) := by
  obtain ⟨h1, h2, h3, h4⟩ := h
  have hj : i + k < t.length := by omega
  have hp := prod_le A B i k
  refine ⟨by rw [List.length_set]; exact h1, ?_, fun j hj2 => ?_, fun j hj2 => ?_⟩
  · rw [vl_set t _ _ hj, h2, mod_dt B k, Nat.mul_add, Nat.add_assoc]
    congr 1
    congr 1
    have e : 1073741824 ^ (i + k) = 2 ^ (30 * i) * 2 ^ (30 * k) := by rw [← Nat.pow_add, ← Nat.mul_add, Nat.pow_mul]
    rw [e, Nat.mul_comm (dt A i) (2 ^ (30 * i)), Nat.mul_assoc, Nat.mul_assoc, Nat.mul_left_comm (dt A i)]
  · rw [getD_set t _ _ _ hj]
    split
    · have := h4 (i + k) (Nat.le_refl _)
      have e := succ_Q i
      omega
    · exact h3 j (by omega)
  · rw [getD_set t _ _ _ hj, if_neg (by omega)]
    exact h4 j (by omega)
theorem MI.row {A B i : Nat} {t : List Nat} (h : MI A B i 9 t) (hB : B / 2 ^ (30 * 9) = 0) : MI A B (i + 1) 0 t := by
  obtain ⟨h1, h2, h3, h4⟩ := h
  have hall : ∀ j, t.getD j 0 ≤ (i + 1) * 1152921502459363329 := fun j => by
    by_cases hj : j < i + 9
    · exact h3 j hj
    · have := h4 j (Nat.le_of_not_lt hj)
      rw [succ_Q]; exact Nat.le_trans this (Nat.le_add_right _ _)
  refine ⟨h1, ?_, fun j hj => ?_, fun j hj => hall j⟩
  · rw [h2, mod_of_div (Nat.two_pow_pos _) hB, mod_dt A i, ← Nat.add_mul, Nat.mul_comm (dt A i), Nat.mul_zero, Nat.pow_zero, Nat.mod_one, Nat.mul_zero, Nat.add_zero]
  · have := hall j
    rw [succ_Q]; exact Nat.le_trans this (Nat.le_add_right _ _)
theorem MI.start (A B : Nat) : MI A B 0 0 [0, 0, 0, 0, 0, 0, 0, 0, 0, 0, 0, 0, 0, 0, 0, 0, 0, 0, 0] := by
  refine ⟨rfl, ?_, fun j hj => by omega, fun j _ => ?_⟩
  · rw [show ([0, 0, 0, 0, 0, 0, 0, 0, 0, 0, 0, 0, 0, 0, 0, 0, 0, 0, 0] : List Nat) = List.replicate 19 0 from rfl, vl_zeros]
    simp [Nat.mod_one]
  · rw [show ([0, 0, 0, 0, 0, 0, 0, 0, 0, 0, 0, 0, 0, 0, 0, 0, 0, 0, 0] : List Nat) = List.replicate 19 0 from rfl]
    have := rep_get 19 j
    rw [this]; exact Nat.zero_le _
theorem MI.last {A B : Nat} {t : List Nat} (h : MI A B 9 0 t) (hA : A / 2 ^ (30 * 9) = 0) : vl t = A * B ∧ ∀ x ∈ t, x ≤ 18446742974197923840 := by
  obtain ⟨h1, h2, h3, h4⟩ := h
  refine ⟨?_, fun x hx => ?_⟩
  · rw [h2, mod_of_div (Nat.two_pow_pos _) hA, Nat.mul_zero 30, Nat.pow_zero, Nat.mod_one, Nat.mul_zero, Nat.add_zero]
  · obtain ⟨j, hj, rfl⟩ := List.mem_iff_getElem.1 hx
    have e : t.getD j 0 = t[j] := by simp [hj]
    rw [← e]
    by_cases hj9 : j < 9 + 0
    · have := h3 j hj9; omega
    · have := h4 j (by omega); omega

theorem rmul_any (A B : Nat) (hA : A / 2 ^ (30 * 9) = 0) (hB : B / 2 ^ (30 * 9) = 0) (hAB : A * B < 3864537523017258344695351890931987344298927329706434998657235251451519142289560424536193766581922577962463616031502177177365078661042987655742908673467080748696980814823424) (w : World) : Calls Tryd.prog 36 #[nd A, nd B] w fun e w' => e = .returned (nd (A * B % Nt.P)) ∧ Fr [] w w' := by
  have KR := hid (p := _) (fun t V h1 h2 h3 h4 W => reduce_any t V h1 h2 h3 h4 W)
  have HAB := hid (p := _) hAB
  have HA0 := hid (p := _) hA
  have HB0 := hid (p := _) hB
  obtain ⟨a0, a1, a2, a3, a4, a5, a6, a7, a8, ea, wa⟩ := nd_open A
  obtain ⟨b0, b1, b2, b3, b4, b5, b6, b7, b8, eb, wb⟩ := nd_open B
  obtain ⟨c0, c1, c2, c3, c4, c5, c6, c7, c8, ec, wc'⟩ := nd_open (A * B % Nt.P)
  rw [wa, wb, wc']
  have HA := hid (p := _) ea
  have HB := hid (p := _) eb
  have HW := hid (p := _) wc'
  clear wa wb wc' ea eb ec hA hB hAB
  go_enter Tryd.func36, Tryd.ntmps36
  go_wp2_with fail
  go_loopg [6] 9 (fun gk q wr => ∃ i : Nat, ∃ t : List Nat, i ≤ 9 ∧ gk = 9 - i ∧ q = .int .i64 i ∧ Hid (Fr [] w wr ∧ RW wr w.heap.size 34 (dts A) ∧ RW wr (w.heap.size + 1) 34 (dts B) ∧ RW wr (w.heap.size + 2) 34 [0, 0, 0, 0, 0, 0, 0, 0, 0] ∧ RW wr (w.heap.size + 3) 101 t ∧ MI A B i 0 t))
  case atStart =>
    refine ⟨0, _, Nat.zero_le _, rfl, rfl, hid ⟨((((Fr.refl [] w).alloc _).alloc _).alloc _).alloc _, ?_, ?_, (RW.ofz (heap_new2 w _ _ _)).alloc _, RW.ofz19 (heap_new3 w _ _ _ _), MI.start A B⟩⟩
    · rw [HA.out]; exact (((RW.of9 (heap_new0 w _)).alloc _).alloc _).alloc _
    · rw [HB.out]; exact ((RW.of9 (heap_new1 w _ _)).alloc _).alloc _
  case round =>
    obtain ⟨i, t, hi, hgk, rfl, K1⟩ := hrel
    by_cases hlt : i < 9
    · have hlt' : (i : Int) < 9 := by omega
      go_wp2_with fail
      go_loopg [7] 9 (fun gj q wr => ∃ k : Nat, ∃ t : List Nat, k ≤ 9 ∧ gj = 9 - k ∧ q = .int .i64 k ∧ Hid (Fr [] w wr ∧ RW wr w.heap.size 34 (dts A) ∧ RW wr (w.heap.size + 1) 34 (dts B) ∧ RW wr (w.heap.size + 2) 34 [0, 0, 0, 0, 0, 0, 0, 0, 0] ∧ RW wr (w.heap.size + 3) 101 t ∧ MI A B i k t))
      case atStart => exact ⟨0, t, Nat.zero_le _, rfl, rfl, K1⟩
      case round =>
        clear K1
        obtain ⟨k, t, hk, hgj, rfl, K⟩ := hrel
        by_cases hlk : k < 9
        · have hlk' : (k : Int) < 9 := by omega
          have hik : (i : Int) + (k : Int) < 19 := by omega
          have e1 := K.out.2.1.cell i (by rw [dts_len]; exact hlt)
          rw [dts_get A i hlt] at e1
          have e2 := K.out.2.2.1.cell k (by rw [dts_len]; exact hlk)
          rw [dts_get B k hlk] at e2
          have htl := K.out.2.2.2.2.2.1
          have e3 := K.out.2.2.2.2.1.cell (i + k) (by omega)
          have g3 := K.out.2.2.2.2.1.frozen (i + k)
          have l1 := K.out.2.1.lt
          have l2 := K.out.2.2.1.lt
          have l3 := K.out.2.2.2.2.1.lt
          have hp := prod_le A B i k
          have hq := K.out.2.2.2.2.2.2.2.2 (i + k) (Nat.le_refl _)
          have hq2 : t.getD (i + k) 0 ≤ 9 * 1152921502459363329 := Nat.le_trans hq (Nat.mul_le_mul_right _ (by omega))
          have HKN := hid (p := _) (fun x => (K.out.2.2.2.2.1.ext x).set (i + k) (t.getD (i + k) 0 + dt A i * dt B k))
          have HMI := hid (p := _) (K.out.2.2.2.2.2.step hlt hlk)
          have HF := hid (p := _) K.out.1
          have H1 := hid (p := _) K.out.2.1
          have H2 := hid (p := _) K.out.2.2.1
          have H3 := hid (p := _) K.out.2.2.2.1
          clear K htl hq
          have f1 : IntKind.u64.wrap (((dt A i : Nat) : Int) * ((dt B k : Nat) : Int)) = ((dt A i * dt B k : Nat) : Int) := by rw [mulN]; exact wrapN _ (by omega)
          generalize dt A i * dt B k = p at *
          generalize dt A i = x at *
          generalize dt B k = y at *
          generalize hs : t.set (i + k) (t.getD (i + k) 0 + p) = t2 at *
          have HS := hid (p := _) hs
          clear hs
          generalize t.getD (i + k) 0 = o at *
          have f2 : IntKind.u64.wrap ((o : Int) + (p : Int)) = ((o + p : Nat) : Int) := by rw [IntKind.wrap_u64]; omega
          generalize o + p = z at *
          clear hp hq2
          go_wp2_with fail
          refine wp_region_last_ext [_, _, _, _, _, _, _, _, _, _, _, _, _, _, _, _, _] _ (by kernel_rfl) (by kernel_rfl) (by kernel_rfl) (by kernel_rfl) (by kernel_rfl) ?_
          simp only [List.cons_append, List.nil_append, idle]
          repeat (go_big_quiet_step (fail))
          refine wpQuiet_nil ?_
          rintro _ ⟨xq, rfl⟩
          have KN2 := HKN.out xq
          go_simp
          go_wp2
          go_roundg (9 - (k + 1))
          case measure => omega
          case rel =>
            exact ⟨k + 1, _, by omega, rfl, by go_num, hid ⟨(HF.out.ext xq).setCell (.inr (by show w.heap.size ≤ w.heap.size + 3; omega)) _, (H1.out.ext xq).other (by show w.heap.size ≠ w.heap.size + 3; omega) _, (H2.out.ext xq).other (by show w.heap.size + 1 ≠ w.heap.size + 3; omega) _, (H3.out.ext xq).other (by show w.heap.size + 2 ≠ w.heap.size + 3; omega) _, KN2, HMI.out⟩⟩
        · obtain rfl : k = 9 := by omega
          go_wp2_with fail
          go_roundg (9 - (i + 1))
          case measure => omega
          case rel => exact ⟨i + 1, t, by omega, rfl, by go_num, hid ⟨K.out.1, K.out.2.1, K.out.2.2.1, K.out.2.2.2.1, K.out.2.2.2.2.1, K.out.2.2.2.2.2.row HB0.out⟩⟩
    · obtain rfl : i = 9 := by omega
      have T := K1.out.2.2.2.2.1
      have hl := K1.out.2.2.2.2.2.1
      obtain ⟨hv, hd⟩ := K1.out.2.2.2.2.2.last HA0.out
      have KK := fun W => KR.out t (A * B) hv hl hd HAB.out W
      obtain ⟨y0, y1, y2, y3, y4, y5, y6, y7, y8, y9, y10, y11, y12, y13, y14, y15, y16, y17, y18, et, wt⟩ := open19 t hl
      rw [wt, HW.out] at KK
      have HR := hid (p := _) KK
      rw [et] at T
      have hrg : wr.rangeAt (w.heap.size + 1 + 1 + 1) 0 [.int .u64 (y0 : Nat), .int .u64 (y1 : Nat), .int .u64 (y2 : Nat), .int .u64 (y3 : Nat), .int .u64 (y4 : Nat), .int .u64 (y5 : Nat), .int .u64 (y6 : Nat), .int .u64 (y7 : Nat), .int .u64 (y8 : Nat), .int .u64 (y9 : Nat), .int .u64 (y10 : Nat), .int .u64 (y11 : Nat), .int .u64 (y12 : Nat), .int .u64 (y13 : Nat), .int .u64 (y14 : Nat), .int .u64 (y15 : Nat), .int .u64 (y16 : Nat), .int .u64 (y17 : Nat), .int .u64 (y18 : Nat)] := fun j v hv => by rw [Nat.zero_add]; exact cell_of_heap T (by simpa [wc] using hv)
      have HRG := hid (p := _) hrg
      have F := hid (p := _) K1.out.1
      have Z := hid (p := _) K1.out.2.2.2.1
      clear K1 T hrg hv hd KK wt et hl
      go_wp2_with (first | (refine wpList_load_mid rfl 101 (.tmp 5) rfl (w.heap.size + 1 + 1 + 1) rfl _ (.array 19 23) HRG.out (by kernel_rfl) rfl (by kernel_rfl) ?_) | (go_at_call 71; with_reducible refine (HR.out _).mono ?_; rintro e V2 ⟨rfl, hF⟩; have Z2 := Z.out.fr hF; have F2 := F.out.trans0 hF; obtain ⟨_, _, _, _, _, _, _, _, _, _, _, _, _, _, _, _, _, _, _, _⟩ := Z2.all; clear hF))
      simp [bodyPost, results, Tryd.results36, go_sem, *]
      exact F2.set9 (by omega) _ _ _ _ _ _ _ _ _

end Go.Proofs.YtpdagpjjlnncbaaDoor
namespace Go.Proofs.YtpdagpjjlnncbaaDoor
open Go.RowKit Go.Lib Go.BigFrame
set_option linter.unusedVariables false
set_option linter.unusedSimpArgs false
set_option maxRecDepth 1000000
set_option maxHeartbeats 4000000

/-- A bit more, in digits of k bits. -/
theorem put_bit {k x q r : Nat} (hr : r < k) (hx : x < 2 ^ (k * q) * 2 ^ r) (j : Nat) : (x + 2 ^ (k * q) * 2 ^ r) / 2 ^ (k * j) % 2 ^ k = x / 2 ^ (k * j) % 2 ^ k + if j = q then 2 ^ r else 0 := by
  have h2 : 2 ^ r * 2 ≤ 2 ^ k := by rw [← Nat.pow_succ]; exact Nat.pow_le_pow_right (by decide) hr
  rcases Nat.lt_trichotomy j q with h | h | h
  · rw [if_neg (by omega)]
    obtain ⟨d, rfl⟩ : ∃ d, q = j + 1 + d := ⟨q - j - 1, by omega⟩
    have hc : 2 ^ (k * (j + 1 + d)) * 2 ^ r = 2 ^ (k * j) * (2 ^ k * (2 ^ (k * d) * 2 ^ r)) := by
      rw [Nat.mul_add, Nat.mul_add, Nat.pow_add, Nat.pow_add, Nat.mul_one, Nat.mul_assoc, Nat.mul_assoc]
    rw [hc, Nat.add_mul_div_left _ _ (Nat.two_pow_pos _), Nat.add_mul_mod_self_left, Nat.add_zero]
  · subst h
    rw [if_pos rfl, Nat.add_mul_div_left _ _ (Nat.two_pow_pos _)]
    have h1 : x / 2 ^ (k * j) < 2 ^ r := Nat.div_lt_of_lt_mul hx
    rw [Nat.mod_eq_of_lt (by omega), Nat.mod_eq_of_lt (by omega)]
  · rw [if_neg (by omega)]
    obtain ⟨d, rfl⟩ : ∃ d, j = q + 1 + d := ⟨j - q - 1, by omega⟩
    have h3 : 2 ^ (k * q) * (2 ^ r * 2) ≤ 2 ^ (k * q) * 2 ^ k := Nat.mul_le_mul_left _ h2
    have h4 : 2 ^ (k * q) * 2 ^ k ≤ 2 ^ (k * (q + 1 + d)) := by
      rw [← Nat.pow_add]
      refine Nat.pow_le_pow_right (by decide) ?_
      rw [Nat.mul_add, Nat.mul_add, Nat.mul_one]; omega
    have h5 : 2 ^ (k * q) * (2 ^ r * 2) = 2 ^ (k * q) * 2 ^ r * 2 := by rw [Nat.mul_assoc]
    rw [Nat.div_eq_of_lt (by omega), Nat.div_eq_of_lt (by omega), Nat.add_zero]
/-- The bit of a digit is the number's. -/
theorem dig_bit {k r : Nat} (hr : r < k) (v q : Nat) : v / 2 ^ (k * q) % 2 ^ k / 2 ^ r % 2 = v / 2 ^ (k * q + r) % 2 := by
  obtain ⟨d, rfl⟩ : ∃ d, k = r + 1 + d := ⟨k - r - 1, by omega⟩
  have h : 2 ^ (r + 1 + d) = 2 ^ r * (2 * 2 ^ d) := by rw [Nat.pow_add, Nat.pow_succ, Nat.mul_assoc]
  rw [show ∀ a : Nat, a % 2 ^ (r + 1 + d) = a % (2 ^ r * (2 * 2 ^ d)) from fun a => by rw [h], Nat.mod_mul_right_div_self, Nat.mod_mul_right_mod, Nat.div_div_eq_div_mul, ← Nat.pow_add]
theorem rd_high (s : ByteArray) (j : Nat) : ∀ d, ∃ c, rd s (j + 1 + d) = rd s j + 256 ^ j * (byt s j + 256 * c)
  | 0 => ⟨0, by rw [Nat.add_zero, rd, Nat.mul_zero, Nat.add_zero, Nat.mul_comm]⟩
  | d + 1 => by
    obtain ⟨c, h⟩ := rd_high s j d
    refine ⟨c + byt s (j + 1 + d) * 256 ^ d, ?_⟩
    rw [show j + 1 + (d + 1) = (j + 1 + d) + 1 from rfl, rd, h, Nat.pow_add, Nat.pow_succ, Nat.mul_add, Nat.mul_add, Nat.mul_add, Nat.mul_add]
    have e : byt s (j + 1 + d) * (256 ^ j * 256 * 256 ^ d) = 256 ^ j * (256 * (byt s (j + 1 + d) * 256 ^ d)) := by
      generalize 256 ^ d = y
      generalize 256 ^ j = z
      generalize byt s (j + 1 + d) = x
      rw [Nat.mul_left_comm 256 x y, Nat.mul_left_comm z x, Nat.mul_assoc]
    rw [e]; omega
theorem rd_byte (s : ByteArray) (j : Nat) (h : j < 32) : rd s 32 / 256 ^ j % 256 = byt s j := by
  obtain ⟨c, hc⟩ := rd_high s j (31 - j)
  rw [show j + 1 + (31 - j) = 32 by omega] at hc
  rw [hc, Nat.add_mul_div_left _ _ (Nat.pow_pos (by decide)), Nat.div_eq_of_lt (rd_lt s j), Nat.zero_add, Nat.add_mul_mod_self_left, Nat.mod_eq_of_lt (byt_lt s j)]
theorem rd_bit (s : ByteArray) (i : Nat) (h : i < 256) : byt s (i / 8) / 2 ^ (i % 8) % 2 = rd s 32 / 2 ^ i % 2 := by
  have h1 := dig_bit (k := 8) (r := i % 8) (by omega) (rd s 32) (i / 8)
  rw [Nat.pow_mul] at h1
  have h2 := rd_byte s (i / 8) (by omega)
  rw [show 8 * (i / 8) + i % 8 = i by omega] at h1
  rw [← h1, ← h2]
theorem dt_bit (v i : Nat) : dt v (i / 30) / 2 ^ (i % 30) % 2 = v / 2 ^ i % 2 := by
  have h1 := dig_bit (k := 30) (r := i % 30) (by omega) v (i / 30)
  rw [show 30 * (i / 30) + i % 30 = i by omega] at h1
  exact h1
theorem mod_bit (v i : Nat) : v % 2 ^ (i + 1) = v % 2 ^ i + 2 ^ i * (v / 2 ^ i % 2) := Nat.mod_pow_succ
theorem two_at (i k : Nat) : 2 ^ i = 2 ^ (k * (i / k)) * 2 ^ (i % k) := by
  rw [← Nat.pow_add, Nat.div_add_mod]
theorem dts_low (v i : Nat) (h : v / 2 ^ i % 2 = 0) : dts (v % 2 ^ (i + 1)) = dts (v % 2 ^ i) := by
  rw [mod_bit, h, Nat.mul_zero, Nat.add_zero]
theorem dt_room (v i : Nat) : dt (v % 2 ^ i) (i / 30) < 2 ^ (i % 30) := by
  have h := Nat.mod_lt v (Nat.two_pow_pos i)
  rw [show ∀ a : Nat, (a < 2 ^ i) = (a < 2 ^ (30 * (i / 30)) * 2 ^ (i % 30)) from fun a => by rw [← two_at]] at h
  exact Nat.lt_of_le_of_lt (Nat.mod_le _ _) (Nat.div_lt_of_lt_mul h)
theorem dts_high (v i : Nat) (hi : i < 270) (h : v / 2 ^ i % 2 = 1) : (dts (v % 2 ^ i)).set (i / 30) (dt (v % 2 ^ i) (i / 30) + 2 ^ (i % 30)) = dts (v % 2 ^ (i + 1)) := by
  rw [mod_bit, h, Nat.mul_one]
  have hx := Nat.mod_lt v (Nat.two_pow_pos i)
  generalize v % 2 ^ i = x at *
  rw [two_at i 30] at *
  have hp := put_bit (k := 30) (x := x) (q := i / 30) (r := i % 30) (by omega) hx
  apply List.ext_getElem
  · simp [dts]
  · intro j h1 h2
    have hj : j < 9 := by simpa [dts] using h2
    rw [List.getElem_set]
    simp only [dts, List.getElem_map, List.getElem_range]
    have := hp j
    unfold dt
    rw [show (1073741824 : Nat) = 2 ^ 30 from rfl, this]
    split
    · rename_i e; subst e; rw [if_pos rfl]
    · rename_i e; rw [if_neg (fun h => e h.symm), Nat.add_zero]
theorem or_pow (d r : Nat) (hr : r < 30) (hd : d < 2 ^ r) : bits .or .u64 (d : Int) ((2 ^ r : Nat) : Int) = ((d + 2 ^ r : Nat) : Int) := by
  have h2 : 2 ^ r ≤ 2 ^ 29 := Nat.pow_le_pow_right (by decide) (by omega)
  have e := bits_or_u64_nat d (2 ^ r) (by omega) (by omega)
  have := nat_join r (2 ^ r) d (by rw [Nat.mod_self]) hd
  rw [Nat.or_comm, this, Nat.add_comm] at e
  exact e
theorem and_one8 (a : Nat) (ha : a < 256) : bits .and .u8 (a : Int) 1 = ((a % 2 : Nat) : Int) := by
  have : ∀ x : Fin 256, bits .and .u8 ((x.1 : Nat) : Int) 1 = ((x.1 % 2 : Nat) : Int) := by decide +kernel
  exact this ⟨a, ha⟩
theorem pow_le29 (r : Nat) (hr : r < 30) : 2 ^ r ≤ 536870912 := Nat.pow_le_pow_right (by decide) (show r ≤ 29 by omega)

theorem mod_pow_of {a : Nat} (i : Nat) (h : a < 2 ^ i) : a % 2 ^ i = a := Nat.mod_eq_of_lt h
theorem rd_pow (s : ByteArray) : rd s 32 < 2 ^ 256 := by have := rd_lt s 32; rwa [show (256 : Nat) ^ 32 = 2 ^ 256 from rfl] at this
theorem rd_all (s : ByteArray) : rd s 32 % 2 ^ 256 = rd s 32 := mod_pow_of 256 (rd_pow s)
theorem rread_any (s : ByteArray) (hs : s.size = 32) (w : World) : Calls Tryd.prog 69 #[.string s] w fun e w' => e = .returned (nd (rd s 32)) ∧ Fr [] w w' := by
  have HS := hid (p := _) hs
  obtain ⟨c0, c1, c2, c3, c4, c5, c6, c7, c8, ec, wc'⟩ := nd_open (rd s 32)
  rw [wc']
  have HC := hid (p := _) ec
  have hsi : (s.size : Int) = 32 := by omega
  clear wc' ec
  go_enter Tryd.func69, Tryd.ntmps69
  go_wp2_with fail
  go_loopg [4] 256 (fun gk q wr => ∃ i : Nat, i ≤ 256 ∧ gk = 256 - i ∧ q = .int .i64 i ∧ Hid (Fr [] w wr ∧ RW wr w.heap.size 34 [0, 0, 0, 0, 0, 0, 0, 0, 0] ∧ RW wr (w.heap.size + 1) 34 (dts (rd s 32 % 2 ^ i))))
  case atStart =>
    refine ⟨0, Nat.zero_le _, rfl, rfl, hid ⟨((Fr.refl [] w).alloc _).alloc _, (RW.ofz (heap_new0 w _)).alloc _, ?_⟩⟩
    rw [Nat.pow_zero, Nat.mod_one]
    exact RW.ofz (heap_new1 w _ _)
  case round =>
    obtain ⟨i, hi, hgk, rfl, K⟩ := hrel
    by_cases hlt : i < 256
    · have hlt' : (i : Int) < 256 := by omega
      have hb : i / 8 < s.size := by omega
      have h1 := byt_get s (i / 8) hb
      have hB := byt_lt s (i / 8)
      have hbit := rd_bit s i hlt
      have KF := hid (p := _) K.out.1
      have KZ := hid (p := _) K.out.2.1
      have f1 : bits .and .u8 ((byt s (i / 8) : Int) / 2 ^ (i % 8)) 1 = ((rd s 32 / 2 ^ i % 2 : Nat) : Int) := by
        have e : ((byt s (i / 8) : Int) / 2 ^ (i % 8)) = ((byt s (i / 8) / 2 ^ (i % 8) : Nat) : Int) := by rw [Int.natCast_ediv, Int.natCast_pow]; rfl
        rw [e, ← hbit]
        exact and_one8 _ (Nat.lt_of_le_of_lt (Nat.div_le_self _ _) hB)
      have h9 : i / 30 < 9 := by omega
      have l1 := K.out.2.2.lt
      have hg := K.out.2.2.frozen (i / 30)
      have hc := K.out.2.2.cell (i / 30) (by rw [dts_len]; omega)
      rw [dts_get _ _ h9] at hc
      have hrm := dt_room (rd s 32) i
      have hp := pow_le29 (i % 30) (by omega)
      have f2 : IntKind.u64.wrap (2 ^ (i % 30)) = ((2 ^ (i % 30) : Nat) : Int) := by
        have e : ((2 : Int) ^ (i % 30)) = ((2 ^ (i % 30) : Nat) : Int) := by rw [Int.natCast_pow]; rfl
        rw [e]; exact wrapN _ (by omega)
      have f3 : bits .or .u64 ((dt (rd s 32 % 2 ^ i) (i / 30) : Nat) : Int) (2 ^ (i % 30)) = ((dt (rd s 32 % 2 ^ i) (i / 30) + 2 ^ (i % 30) : Nat) : Int) := by
        rw [← or_pow _ _ (show i % 30 < 30 by omega) hrm, Int.natCast_pow]; rfl
      rcases Nat.mod_two_eq_zero_or_one (rd s 32 / 2 ^ i) with h0 | h0
      · rw [h0] at f1
        have KN := hid (p := _) K.out.2.2
        rw [← dts_low _ _ h0] at KN
        clear K hrm hp f2 f3 hbit
        go_wp2_with fail
        go_roundg (256 - (i + 1))
        case measure => omega
        case rel =>
          exact ⟨i + 1, by omega, rfl, by go_num, hid ⟨KF.out, KZ.out, KN.out⟩⟩
      · rw [h0] at f1
        have KN := hid (p := _) (K.out.2.2.set (i / 30) (dt (rd s 32 % 2 ^ i) (i / 30) + 2 ^ (i % 30)))
        rw [dts_high _ _ (by omega) h0] at KN
        clear K hrm hp hbit
        go_wp2_with fail
        go_roundg (256 - (i + 1))
        case measure => omega
        case rel =>
          exact ⟨i + 1, by omega, rfl, by go_num, hid ⟨KF.out.setCell (.inr (by show w.heap.size ≤ w.heap.size + 1; omega)) _, KZ.out.other (by show w.heap.size ≠ w.heap.size + 1; omega) _, KN.out⟩⟩
    · obtain rfl : i = 256 := by omega
      have C := K.out.2.2
      rw [rd_all s, HC.out] at C
      have Z := K.out.2.1
      have F := K.out.1
      obtain ⟨_, _, _, _, _, _, _, _, _, _, _, _, _, _, _, _, _, _, _, _⟩ := C.all
      obtain ⟨_, _, _, _, _, _, _, _, _, _, _, _, _, _, _, _, _, _, _, _⟩ := Z.all
      clear K
      go_wp2_with fail
      simp [bodyPost, results, Tryd.results69, go_sem, *]
      exact F.set9 (by omega) _ _ _ _ _ _ _ _ _

/-- The row of Of ahead of step i. -/
def ol (A i : Nat) : List Nat := (List.range 19).map fun j => if j < i then (if j < 9 then dt A j else 0) else 0
theorem ol_zero (A : Nat) : ol A 0 = [0, 0, 0, 0, 0, 0, 0, 0, 0, 0, 0, 0, 0, 0, 0, 0, 0, 0, 0] := by simp [ol]; rfl
theorem ol_len (A i : Nat) : (ol A i).length = 19 := by simp [ol]
theorem ol_step (A i : Nat) (h : i < 9) : (ol A i).set i (dt A i) = ol A (i + 1) := by
  apply List.ext_getElem
  · simp [ol]
  · intro j h1 h2
    rw [List.getElem_set]
    split
    · rename_i e
      subst e
      simp [ol, h]
    · rename_i e
      simp only [ol, List.getElem_map, List.getElem_range]
      by_cases hji : j < i
      · rw [if_pos hji, if_pos (by omega : j < i + 1)]
      · rw [if_neg hji, if_neg (by omega)]
theorem ol_nine (A : Nat) : ol A 9 = dts A ++ List.replicate 10 0 := rfl
theorem ol_val {A : Nat} (hA : A / 2 ^ (30 * 9) = 0) : vl (ol A 9) = A := by
  rw [ol_nine, vl_append, vl_zeros, Nat.mul_zero, Nat.add_zero, vl_dts hA]
theorem ol_leg (A i d : Nat) (h : ∀ j, dt A j ≤ d) : ∀ x ∈ ol A i, x ≤ d := by
  intro x hx
  obtain ⟨j, _, rfl⟩ := List.mem_map.1 hx
  exact ite_le (h j)
theorem ol_le (A i : Nat) : ∀ x ∈ ol A i, x ≤ 18446742974197923840 := ol_leg A i _ (fun j => by have := dt_lt A j; omega)
theorem rd_lt4 (s : ByteArray) : rd s 32 < 115792089237316195423570985008687907853269984665640564039457584007913129639936 := rd_lt s 32
theorem div_pow_lt {v i k : Nat} (h : v < 2 ^ i) (hik : i ≤ k) : v / 2 ^ k = 0 := Nat.div_eq_of_lt (Nat.lt_of_lt_of_le h (Nat.pow_le_pow_right (by decide) hik))
theorem big_of4 {A : Nat} (h : A < 115792089237316195423570985008687907853269984665640564039457584007913129639936) : A / 2 ^ (30 * 9) = 0 := by
  generalize hk : 30 * 9 = k
  exact div_pow_lt (i := 256) h (by omega)
theorem small_K19 {A : Nat} (h : A < 115792089237316195423570985008687907853269984665640564039457584007913129639936) : A < 3864537523017258344695351890931987344298927329706434998657235251451519142289560424536193766581922577962463616031502177177365078661042987655742908673467080748696980814823424 := by omega
theorem rof_any (s : ByteArray) (hs : s.size = 32) (w : World) : Calls Tryd.prog 35 #[.string s] w fun e w' => e = .returned (nd (of s)) ∧ Fr [] w w' := by
  have hd := big_of4 (rd_lt4 s)
  have hk := small_K19 (rd_lt4 s)
  have K1 := fun W => rread_any s hs W
  unfold of
  generalize rd s 32 = A at *
  have KR := fun W => reduce_any (ol A 9) A (ol_val hd) (ol_len A 9) (ol_le A 9) hk W
  obtain ⟨a0, a1, a2, a3, a4, a5, a6, a7, a8, ea, wa⟩ := nd_open A
  obtain ⟨c0, c1, c2, c3, c4, c5, c6, c7, c8, ec, wc'⟩ := nd_open (A % Nt.P)
  obtain ⟨y0, y1, y2, y3, y4, y5, y6, y7, y8, y9, y10, y11, y12, y13, y14, y15, y16, y17, y18, et, wt⟩ := open19 (ol A 9) (ol_len A 9)
  rw [wt, wc'] at KR
  rw [wa] at K1
  rw [wc']
  have HA := hid (p := _) ea
  have HC := hid (p := _) ec
  have HT := hid (p := _) et
  have HR := hid (p := _) KR
  have H1 := hid (p := _) K1
  clear wa wc' wt ea ec et KR K1 hd hk hs
  go_enter Tryd.func35, Tryd.ntmps35
  go_wp2_with (go_at_call 69; with_reducible refine (H1.out _).mono ?_; rintro e V ⟨rfl, hF⟩; have FV := hid (p := _) ((((Fr.refl [] w).alloc _).alloc _).trans0 hF); have Z0 := hid (p := _) (((RW.ofz (heap_new0 w _)).alloc _).fr hF); have T0 := hid (p := _) ((RW.ofz19 (heap_new1 w _ _)).fr hF); clear hF)
  have ZV := Z0.out.lt
  have TV := T0.out.lt
  go_loopg [5] 9 (fun gk q wr => ∃ i : Nat, i ≤ 9 ∧ gk = 9 - i ∧ q = .int .i64 i ∧ Hid (Fr [] w wr ∧ RW wr w.heap.size 34 [0, 0, 0, 0, 0, 0, 0, 0, 0] ∧ RW wr (w.heap.size + 1) 101 (ol A i) ∧ RW wr V.heap.size 34 (dts A)))
  case atStart =>
    refine ⟨0, Nat.zero_le _, rfl, rfl, hid ⟨FV.out.alloc _, Z0.out.alloc _, ?_, ?_⟩⟩
    · rw [ol_zero]; exact T0.out.alloc _
    · rw [HA.out]; exact RW.of9 (heap_new0 V _)
  case round =>
    obtain ⟨i, hi, hgk, rfl, K⟩ := hrel
    by_cases hlt : i < 9
    · have hlt' : (i : Int) < 9 := by omega
      have hlt19 : (i : Int) < 19 := by omega
      have e1 := K.out.2.2.2.cell i (by rw [dts_len]; exact hlt)
      rw [dts_get A i hlt] at e1
      have e3 := K.out.2.2.1.cell i (by rw [ol_len]; omega)
      have g3 := K.out.2.2.1.frozen i
      have l1 := K.out.2.2.2.lt
      have l3 := K.out.2.2.1.lt
      have KN := K.out.2.2.1.set i (dt A i)
      rw [ol_step A i hlt] at KN
      have HKN := hid (p := _) KN
      have HF := hid (p := _) K.out.1
      have H2 := hid (p := _) K.out.2.1
      have H3 := hid (p := _) K.out.2.2.2
      clear K KN
      generalize (ol A i).getD i 0 = o at *
      generalize dt A i = x at *
      go_wp2_with fail
      go_roundg (9 - (i + 1))
      case measure => omega
      case rel =>
        exact ⟨i + 1, by omega, rfl, by go_num, hid ⟨HF.out.setCell (.inr (by show w.heap.size ≤ w.heap.size + 1; omega)) _, H2.out.other (by show w.heap.size ≠ w.heap.size + 1; omega) _, HKN.out, H3.out.other (by show V.heap.size ≠ w.heap.size + 1; omega) _⟩⟩
    · obtain rfl : i = 9 := by omega
      have T := K.out.2.2.1
      rw [HT.out] at T
      have hrg : wr.rangeAt (w.heap.size + 1) 0 [.int .u64 (y0 : Nat), .int .u64 (y1 : Nat), .int .u64 (y2 : Nat), .int .u64 (y3 : Nat), .int .u64 (y4 : Nat), .int .u64 (y5 : Nat), .int .u64 (y6 : Nat), .int .u64 (y7 : Nat), .int .u64 (y8 : Nat), .int .u64 (y9 : Nat), .int .u64 (y10 : Nat), .int .u64 (y11 : Nat), .int .u64 (y12 : Nat), .int .u64 (y13 : Nat), .int .u64 (y14 : Nat), .int .u64 (y15 : Nat), .int .u64 (y16 : Nat), .int .u64 (y17 : Nat), .int .u64 (y18 : Nat)] := fun j v hv => by rw [Nat.zero_add]; exact cell_of_heap T (by simpa [wc] using hv)
      have HRG := hid (p := _) hrg
      clear hrg
      have F := hid (p := _) K.out.1
      have Z := hid (p := _) K.out.2.1
      clear K T
      go_wp2_with (first | (refine wpList_load_mid rfl 101 (.tmp 3) rfl (w.heap.size + 1) rfl _ (.array 19 23) HRG.out (by kernel_rfl) rfl (by kernel_rfl) ?_) | (go_at_call 71; with_reducible refine (HR.out _).mono ?_; rintro e V2 ⟨rfl, hF⟩; have Z2 := Z.out.fr hF; have F2 := F.out.trans0 hF; obtain ⟨_, _, _, _, _, _, _, _, _, _, _, _, _, _, _, _, _, _, _, _⟩ := Z2.all; clear hF))
      simp [bodyPost, results, Tryd.results35, go_sem, *]
      exact F2.set9 (by omega) _ _ _ _ _ _ _ _ _

end Go.Proofs.YtpdagpjjlnncbaaDoor
