/-
  The document's numbers: Read, Of, Small. No statement is proved here.
-/
import Derived.Test.YthbkhbfcocbnoaaDoorRedC
namespace Go.Proofs.YthbkhbfcocbnoaaDoor
open Go.RowKit Go.Lib Go.BigFrame
set_option linter.unusedVariables false
set_option linter.unusedSimpArgs false
set_option maxRecDepth 1000000
set_option maxHeartbeats 4000000

/-- A bit more, in digits of k bits. -/
theorem put_bit {k x q r : Nat} (hr : r < k) (hx : x < 2 ^ (k * q) * 2 ^ r) (j : Nat) : (x + 2 ^ (k * q) * 2 ^ r) / 2 ^ (k * j) % 2 ^ k = x / 2 ^ (k * j) % 2 ^ k + if j = q then 2 ^ r else 0 := by
  have h2 : 2 ^ r * 2 ≤ 2 ^ k := by rw [← Nat.pow_succ]; exact Nat.pow_le_pow_right (by decide) hr
  rcases Nat.lt_trichotomy j q with h | h | h
  · rw [if_neg (by omega)]
    obtain ⟨d, rfl⟩ : ∃ d, q = j + 1 + d := ⟨q - j - 1, by omega⟩
    have hc : 2 ^ (k * (j + 1 + d)) * 2 ^ r = 2 ^ (k * j) * (2 ^ k * (2 ^ (k * d) * 2 ^ r)) := by
      rw [Nat.mul_add, Nat.mul_add, Nat.pow_add, Nat.pow_add, Nat.mul_one, Nat.mul_assoc, Nat.mul_assoc]
    rw [hc, Nat.add_mul_div_left _ _ (Nat.two_pow_pos _), Nat.add_mul_mod_self_left, Nat.add_zero]
  · subst h
    rw [if_pos rfl, Nat.add_mul_div_left _ _ (Nat.two_pow_pos _)]
    have h1 : x / 2 ^ (k * j) < 2 ^ r := Nat.div_lt_of_lt_mul hx
    rw [Nat.mod_eq_of_lt (by omega), Nat.mod_eq_of_lt (by omega)]
  · rw [if_neg (by omega)]
    obtain ⟨d, rfl⟩ : ∃ d, j = q + 1 + d := ⟨j - q - 1, by omega⟩
    have h3 : 2 ^ (k * q) * (2 ^ r * 2) ≤ 2 ^ (k * q) * 2 ^ k := Nat.mul_le_mul_left _ h2
    have h4 : 2 ^ (k * q) * 2 ^ k ≤ 2 ^ (k * (q + 1 + d)) := by
      rw [← Nat.pow_add]
      refine Nat.pow_le_pow_right (by decide) ?_
      rw [Nat.mul_add, Nat.mul_add, Nat.mul_one]; omega
    have h5 : 2 ^ (k * q) * (2 ^ r * 2) = 2 ^ (k * q) * 2 ^ r * 2 := by rw [Nat.mul_assoc]
    rw [Nat.div_eq_of_lt (by omega), Nat.div_eq_of_lt (by omega), Nat.add_zero]
/-- The bit of a digit is the number's. -/
theorem dig_bit {k r : Nat} (hr : r < k) (v q : Nat) : v / 2 ^ (k * q) % 2 ^ k / 2 ^ r % 2 = v / 2 ^ (k * q + r) % 2 := by
  obtain ⟨d, rfl⟩ : ∃ d, k = r + 1 + d := ⟨k - r - 1, by omega⟩
  have h : 2 ^ (r + 1 + d) = 2 ^ r * (2 * 2 ^ d) := by rw [Nat.pow_add, Nat.pow_succ, Nat.mul_assoc]
  rw [show ∀ a : Nat, a % 2 ^ (r + 1 + d) = a % (2 ^ r * (2 * 2 ^ d)) from fun a => by rw [h], Nat.mod_mul_right_div_self, Nat.mod_mul_right_mod, Nat.div_div_eq_div_mul, ← Nat.pow_add]
theorem rd_high (s : ByteArray) (j : Nat) : ∀ d, ∃ c, rd s (j + 1 + d) = rd s j + 256 ^ j * (byt s j + 256 * c)
  | 0 => ⟨0, by rw [Nat.add_zero, rd, Nat.mul_zero, Nat.add_zero, Nat.mul_comm]⟩
  | d + 1 => by
    obtain ⟨c, h⟩ := rd_high s j d
    refine ⟨c + byt s (j + 1 + d) * 256 ^ d, ?_⟩
    rw [show j + 1 + (d + 1) = (j + 1 + d) + 1 from rfl, rd, h, Nat.pow_add, Nat.pow_succ, Nat.mul_add, Nat.mul_add, Nat.mul_add, Nat.mul_add]
    have e : byt s (j + 1 + d) * (256 ^ j * 256 * 256 ^ d) = 256 ^ j * (256 * (byt s (j + 1 + d) * 256 ^ d)) := by
      generalize 256 ^ d = y
      generalize 256 ^ j = z
      generalize byt s (j + 1 + d) = x
      rw [Nat.mul_left_comm 256 x y, Nat.mul_left_comm z x, Nat.mul_assoc]
    rw [e]; omega
theorem rd_byte (s : ByteArray) (j : Nat) (h : j < 32) : rd s 32 / 256 ^ j % 256 = byt s j := by
  obtain ⟨c, hc⟩ := rd_high s j (31 - j)
  rw [show j + 1 + (31 - j) = 32 by omega] at hc
  rw [hc, Nat.add_mul_div_left _ _ (Nat.pow_pos (by decide)), Nat.div_eq_of_lt (rd_lt s j), Nat.zero_add, Nat.add_mul_mod_self_left, Nat.mod_eq_of_lt (byt_lt s j)]
theorem rd_bit (s : ByteArray) (i : Nat) (h : i < 256) : byt s (i / 8) / 2 ^ (i % 8) % 2 = rd s 32 / 2 ^ i % 2 := by
  have h1 := dig_bit (k := 8) (r := i % 8) (by omega) (rd s 32) (i / 8)
  rw [Nat.pow_mul] at h1
  have h2 := rd_byte s (i / 8) (by omega)
  rw [show 8 * (i / 8) + i % 8 = i by omega] at h1
  rw [← h1, ← h2]
theorem dt_bit (v i : Nat) : dt v (i / 30) / 2 ^ (i % 30) % 2 = v / 2 ^ i % 2 := by
  have h1 := dig_bit (k := 30) (r := i % 30) (by omega) v (i / 30)
  rw [show 30 * (i / 30) + i % 30 = i by omega] at h1
  exact h1
theorem mod_bit (v i : Nat) : v % 2 ^ (i + 1) = v % 2 ^ i + 2 ^ i * (v / 2 ^ i % 2) := Nat.mod_pow_succ
theorem two_at (i k : Nat) : 2 ^ i = 2 ^ (k * (i / k)) * 2 ^ (i % k) := by
  rw [← Nat.pow_add, Nat.div_add_mod]
theorem dts_low (v i : Nat) (h : v / 2 ^ i % 2 = 0) : dts (v % 2 ^ (i + 1)) = dts (v % 2 ^ i) := by
  rw [mod_bit, h, Nat.mul_zero, Nat.add_zero]
theorem dt_room (v i : Nat) : dt (v % 2 ^ i) (i / 30) < 2 ^ (i % 30) := by
  have h := Nat.mod_lt v (Nat.two_pow_pos i)
  rw [show ∀ a : Nat, (a < 2 ^ i) = (a < 2 ^ (30 * (i / 30)) * 2 ^ (i % 30)) from fun a => by rw [← two_at]] at h
  exact Nat.lt_of_le_of_lt (Nat.mod_le _ _) (Nat.div_lt_of_lt_mul h)
theorem dts_high (v i : Nat) (hi : i < 270) (h : v / 2 ^ i % 2 = 1) : (dts (v % 2 ^ i)).set (i / 30) (dt (v % 2 ^ i) (i / 30) + 2 ^ (i % 30)) = dts (v % 2 ^ (i + 1)) := by
  rw [mod_bit, h, Nat.mul_one]
  have hx := Nat.mod_lt v (Nat.two_pow_pos i)
  generalize v % 2 ^ i = x at *
  rw [two_at i 30] at *
  have hp := put_bit (k := 30) (x := x) (q := i / 30) (r := i % 30) (by omega) hx
  apply List.ext_getElem
  · simp [dts]
  · intro j h1 h2
    have hj : j < 9 := by simpa [dts] using h2
    rw [List.getElem_set]
    simp only [dts, List.getElem_map, List.getElem_range]
    have := hp j
    unfold dt
    rw [show (1073741824 : Nat) = 2 ^ 30 from rfl, this]
    split
    · rename_i e; subst e; rw [if_pos rfl]
    · rename_i e; rw [if_neg (fun h => e h.symm), Nat.add_zero]
theorem or_pow (d r : Nat) (hr : r < 30) (hd : d < 2 ^ r) : bits .or .u64 (d : Int) ((2 ^ r : Nat) : Int) = ((d + 2 ^ r : Nat) : Int) := by
  have h2 : 2 ^ r ≤ 2 ^ 29 := Nat.pow_le_pow_right (by decide) (by omega)
  have e := bits_or_u64_nat d (2 ^ r) (by omega) (by omega)
  have := nat_join r (2 ^ r) d (by rw [Nat.mod_self]) hd
  rw [Nat.or_comm, this, Nat.add_comm] at e
  exact e
theorem and_one8 (a : Nat) (ha : a < 256) : bits .and .u8 (a : Int) 1 = ((a % 2 : Nat) : Int) := by
  have : ∀ x : Fin 256, bits .and .u8 ((x.1 : Nat) : Int) 1 = ((x.1 % 2 : Nat) : Int) := by decide +kernel
  exact this ⟨a, ha⟩
theorem pow_le29 (r : Nat) (hr : r < 30) : 2 ^ r ≤ 536870912 := Nat.pow_le_pow_right (by decide) (show r ≤ 29 by omega)

theorem mod_pow_of {a : Nat} (i : Nat) (h : a < 2 ^ i) : a % 2 ^ i = a := Nat.mod_eq_of_lt h
theorem rd_pow (s : ByteArray) : rd s 32 < 2 ^ 256 := by have := rd_lt s 32; rwa [show (256 : Nat) ^ 32 = 2 ^ 256 from rfl] at this
theorem rd_all (s : ByteArray) : rd s 32 % 2 ^ 256 = rd s 32 := mod_pow_of 256 (rd_pow s)
theorem rread_any (s : ByteArray) (hs : s.size = 32) (w : World) : Calls Tryd.prog 21 #[.string s] w fun e w' => e = .returned (nd (rd s 32)) ∧ Fr [] w w' := by
  have HS := hid (p := _) hs
  obtain ⟨c0, c1, c2, c3, c4, c5, c6, c7, c8, ec, wc'⟩ := nd_open (rd s 32)
  rw [wc']
  have HC := hid (p := _) ec
  have hsi : (s.size : Int) = 32 := by omega
  clear wc' ec
  go_enter Tryd.func21, Tryd.ntmps21
  go_wp2_with fail
  go_loopg [4] 256 (fun gk q wr => ∃ i : Nat, i ≤ 256 ∧ gk = 256 - i ∧ q = .int .i64 i ∧ Hid (Fr [] w wr ∧ RW wr w.heap.size 35 [0, 0, 0, 0, 0, 0, 0, 0, 0] ∧ RW wr (w.heap.size + 1) 35 (dts (rd s 32 % 2 ^ i))))
  case atStart =>
    refine ⟨0, Nat.zero_le _, rfl, rfl, hid ⟨((Fr.refl [] w).alloc _).alloc _, (RW.ofz (heap_new0 w _)).alloc _, ?_⟩⟩
    rw [Nat.pow_zero, Nat.mod_one]
    exact RW.ofz (heap_new1 w _ _)
  case round =>
    obtain ⟨i, hi, hgk, rfl, K⟩ := hrel
    by_cases hlt : i < 256
    · have hlt' : (i : Int) < 256 := by omega
      have hb : i / 8 < s.size := by omega
      have h1 := byt_get s (i / 8) hb
      have hB := byt_lt s (i / 8)
      have hbit := rd_bit s i hlt
      have KF := hid (p := _) K.out.1
      have KZ := hid (p := _) K.out.2.1
      have f1 : bits .and .u8 ((byt s (i / 8) : Int) / 2 ^ (i % 8)) 1 = ((rd s 32 / 2 ^ i % 2 : Nat) : Int) := by
        have e : ((byt s (i / 8) : Int) / 2 ^ (i % 8)) = ((byt s (i / 8) / 2 ^ (i % 8) : Nat) : Int) := by rw [Int.natCast_ediv, Int.natCast_pow]; rfl
        rw [e, ← hbit]
        exact and_one8 _ (Nat.lt_of_le_of_lt (Nat.div_le_self _ _) hB)
      have h9 : i / 30 < 9 := by omega
      have l1 := K.out.2.2.lt
      have hg := K.out.2.2.frozen (i / 30)
      have hc := K.out.2.2.cell (i / 30) (by rw [dts_len]; omega)
      rw [dts_get _ _ h9] at hc
      have hrm := dt_room (rd s 32) i
      have hp := pow_le29 (i % 30) (by omega)
      have f2 : IntKind.u64.wrap (2 ^ (i % 30)) = ((2 ^ (i % 30) : Nat) : Int) := by
        have e : ((2 : Int) ^ (i % 30)) = ((2 ^ (i % 30) : Nat) : Int) := by rw [Int.natCast_pow]; rfl
        rw [e]; exact wrapN _ (by omega)
      have f3 : bits .or .u64 ((dt (rd s 32 % 2 ^ i) (i / 30) : Nat) : Int) (2 ^ (i % 30)) = ((dt (rd s 32 % 2 ^ i) (i / 30) + 2 ^ (i % 30) : Nat) : Int) := by
        rw [← or_pow _ _ (show i % 30 < 30 by omega) hrm, Int.natCast_pow]; rfl
      rcases Nat.mod_two_eq_zero_or_one (rd s 32 / 2 ^ i) with h0 | h0
      · rw [h0] at f1
        have KN := hid (p := _) K.out.2.2
        rw [← dts_low _ _ h0] at KN
        clear K hrm hp f2 f3 hbit
        go_wp2_with fail
        go_roundg (256 - (i + 1))
        case measure => omega
        case rel =>
          exact ⟨i + 1, by omega, rfl, by go_num, hid ⟨KF.out, KZ.out, KN.out⟩⟩
      · rw [h0] at f1
        have KN := hid (p := _) (K.out.2.2.set (i / 30) (dt (rd s 32 % 2 ^ i) (i / 30) + 2 ^ (i % 30)))
        rw [dts_high _ _ (by omega) h0] at KN
        clear K hrm hp hbit
        go_wp2_with fail
        go_roundg (256 - (i + 1))
        case measure => omega
        case rel =>
          exact ⟨i + 1, by omega, rfl, by go_num, hid ⟨KF.out.setCell (.inr (by show w.heap.size ≤ w.heap.size + 1; omega)) _, KZ.out.other (by show w.heap.size ≠ w.heap.size + 1; omega) _, KN.out⟩⟩
    · obtain rfl : i = 256 := by omega
      have C := K.out.2.2
      rw [rd_all s, HC.out] at C
      have Z := K.out.2.1
      have F := K.out.1
      obtain ⟨_, _, _, _, _, _, _, _, _, _, _, _, _, _, _, _, _, _, _, _⟩ := C.all
      obtain ⟨_, _, _, _, _, _, _, _, _, _, _, _, _, _, _, _, _, _, _, _⟩ := Z.all
      clear K
      go_wp2_with fail
      simp [bodyPost, results, Tryd.results21, go_sem, *]
      exact F.set9 (by omega) _ _ _ _ _ _ _ _ _

/-- The row of Of ahead of step i. -/
def ol (A i : Nat) : List Nat := (List.range 19).map fun j => if j < i then (if j < 9 then dt A j else 0) else 0
theorem ol_zero (A : Nat) : ol A 0 = [0, 0, 0, 0, 0, 0, 0, 0, 0, 0, 0, 0, 0, 0, 0, 0, 0, 0, 0] := by simp [ol]; rfl
theorem ol_len (A i : Nat) : (ol A i).length = 19 := by simp [ol]
theorem ol_step (A i : Nat) (h : i < 9) : (ol A i).set i (dt A i) = ol A (i + 1) := by
  apply List.ext_getElem
  · simp [ol]
  · intro j h1 h2
    rw [List.getElem_set]
    split
    · rename_i e
      subst e
      simp [ol, h]
    · rename_i e
      simp only [ol, List.getElem_map, List.getElem_range]
      by_cases hji : j < i
      · rw [if_pos hji, if_pos (by omega : j < i + 1)]
      · rw [if_neg hji, if_neg (by omega)]
theorem ol_nine (A : Nat) : ol A 9 = dts A ++ List.replicate 10 0 := rfl
theorem ol_val {A : Nat} (hA : A / 2 ^ (30 * 9) = 0) : vl (ol A 9) = A := by
  rw [ol_nine, vl_append, vl_zeros, Nat.mul_zero, Nat.add_zero, vl_dts hA]
theorem ol_leg (A i d : Nat) (h : ∀ j, dt A j ≤ d) : ∀ x ∈ ol A i, x ≤ d := by
  intro x hx
  obtain ⟨j, _, rfl⟩ := List.mem_map.1 hx
  exact ite_le (h j)
theorem ol_le (A i : Nat) : ∀ x ∈ ol A i, x ≤ 18446742974197923840 := ol_leg A i _ (fun j => by have := dt_lt A j; omega)
theorem rd_lt4 (s : ByteArray) : rd s 32 < 115792089237316195423570985008687907853269984665640564039457584007913129639936 := rd_lt s 32
theorem div_pow_lt {v i k : Nat} (h : v < 2 ^ i) (hik : i ≤ k) : v / 2 ^ k = 0 := Nat.div_eq_of_lt (Nat.lt_of_lt_of_le h (Nat.pow_le_pow_right (by decide) hik))
theorem big_of4 {A : Nat} (h : A < 115792089237316195423570985008687907853269984665640564039457584007913129639936) : A / 2 ^ (30 * 9) = 0 := by
  generalize hk : 30 * 9 = k
  exact div_pow_lt (i := 256) h (by omega)
theorem small_K19 {A : Nat} (h : A < 115792089237316195423570985008687907853269984665640564039457584007913129639936) : A < 3864537523017258344695351890931987344298927329706434998657235251451519142289560424536193766581922577962463616031502177177365078661042987655742908673467080748696980814823424 := by omega
theorem rof_any (s : ByteArray) (hs : s.size = 32) (w : World) : Calls Tryd.prog 11 #[.string s] w fun e w' => e = .returned (nd (of s)) ∧ Fr [] w w' := by
  have hd := big_of4 (rd_lt4 s)
  have hk := small_K19 (rd_lt4 s)
  have K1 := fun W => rread_any s hs W
  unfold of
  generalize rd s 32 = A at *
  have KR := fun W => reduce_any (ol A 9) A (ol_val hd) (ol_len A 9) (ol_le A 9) hk W
  obtain ⟨a0, a1, a2, a3, a4, a5, a6, a7, a8, ea, wa⟩ := nd_open A
  obtain ⟨c0, c1, c2, c3, c4, c5, c6, c7, c8, ec, wc'⟩ := nd_open (A % Nt.P)
  obtain ⟨y0, y1, y2, y3, y4, y5, y6, y7, y8, y9, y10, y11, y12, y13, y14, y15, y16, y17, y18, et, wt⟩ := open19 (ol A 9) (ol_len A 9)
  rw [wt, wc'] at KR
  rw [wa] at K1
  rw [wc']
  have HA := hid (p := _) ea
  have HC := hid (p := _) ec
  have HT := hid (p := _) et
  have HR := hid (p := _) KR
  have H1 := hid (p := _) K1
  clear wa wc' wt ea ec et KR K1 hd hk hs
  go_enter Tryd.func11, Tryd.ntmps11
  go_wp2_with (go_at_call 21; with_reducible refine (H1.out _).mono ?_; rintro e V ⟨rfl, hF⟩; have FV := hid (p := _) ((((Fr.refl [] w).alloc _).alloc _).trans0 hF); have Z0 := hid (p := _) (((RW.ofz (heap_new0 w _)).alloc _).fr hF); have T0 := hid (p := _) ((RW.ofz19 (heap_new1 w _ _)).fr hF); clear hF)
  have ZV := Z0.out.lt
  have TV := T0.out.lt
  go_loopg [5] 9 (fun gk q wr => ∃ i : Nat, i ≤ 9 ∧ gk = 9 - i ∧ q = .int .i64 i ∧ Hid (Fr [] w wr ∧ RW wr w.heap.size 35 [0, 0, 0, 0, 0, 0, 0, 0, 0] ∧ RW wr (w.heap.size + 1) 51 (ol A i) ∧ RW wr V.heap.size 35 (dts A)))
  case atStart =>
    refine ⟨0, Nat.zero_le _, rfl, rfl, hid ⟨FV.out.alloc _, Z0.out.alloc _, ?_, ?_⟩⟩
    · rw [ol_zero]; exact T0.out.alloc _
    · rw [HA.out]; exact RW.of9 (heap_new0 V _)
  case round =>
    obtain ⟨i, hi, hgk, rfl, K⟩ := hrel
    by_cases hlt : i < 9
    · have hlt' : (i : Int) < 9 := by omega
      have hlt19 : (i : Int) < 19 := by omega
      have e1 := K.out.2.2.2.cell i (by rw [dts_len]; exact hlt)
      rw [dts_get A i hlt] at e1
      have e3 := K.out.2.2.1.cell i (by rw [ol_len]; omega)
      have g3 := K.out.2.2.1.frozen i
      have l1 := K.out.2.2.2.lt
      have l3 := K.out.2.2.1.lt
      have KN := K.out.2.2.1.set i (dt A i)
      rw [ol_step A i hlt] at KN
      have HKN := hid (p := _) KN
      have HF := hid (p := _) K.out.1
      have H2 := hid (p := _) K.out.2.1
      have H3 := hid (p := _) K.out.2.2.2
      clear K KN
      generalize (ol A i).getD i 0 = o at *
      generalize dt A i = x at *
      go_wp2_with fail
      go_roundg (9 - (i + 1))
      case measure => omega
      case rel =>
        exact ⟨i + 1, by omega, rfl, by go_num, hid ⟨HF.out.setCell (.inr (by show w.heap.size ≤ w.heap.size + 1; omega)) _, H2.out.other (by show w.heap.size ≠ w.heap.size + 1; omega) _, HKN.out, H3.out.other (by show V.heap.size ≠ w.heap.size + 1; omega) _⟩⟩
    · obtain rfl : i = 9 := by omega
      have T := K.out.2.2.1
      rw [HT.out] at T
      have hrg : wr.rangeAt (w.heap.size + 1) 0 [.int .u64 (y0 : Nat), .int .u64 (y1 : Nat), .int .u64 (y2 : Nat), .int .u64 (y3 : Nat), .int .u64 (y4 : Nat), .int .u64 (y5 : Nat), .int .u64 (y6 : Nat), .int .u64 (y7 : Nat), .int .u64 (y8 : Nat), .int .u64 (y9 : Nat), .int .u64 (y10 : Nat), .int .u64 (y11 : Nat), .int .u64 (y12 : Nat), .int .u64 (y13 : Nat), .int .u64 (y14 : Nat), .int .u64 (y15 : Nat), .int .u64 (y16 : Nat), .int .u64 (y17 : Nat), .int .u64 (y18 : Nat)] := fun j v hv => by rw [Nat.zero_add]; exact cell_of_heap T (by simpa [wc] using hv)
      have HRG := hid (p := _) hrg
      clear hrg
      have F := hid (p := _) K.out.1
      have Z := hid (p := _) K.out.2.1
      clear K T
      go_wp2_with (first | (refine wpList_load_mid rfl 51 (.tmp 3) rfl (w.heap.size + 1) rfl _ (.array 19 33) HRG.out (by kernel_rfl) rfl (by kernel_rfl) ?_) | (go_at_call 22; with_reducible refine (HR.out _).mono ?_; rintro e V2 ⟨rfl, hF⟩; have Z2 := Z.out.fr hF; have F2 := F.out.trans0 hF; obtain ⟨_, _, _, _, _, _, _, _, _, _, _, _, _, _, _, _, _, _, _, _⟩ := Z2.all; clear hF))
      simp [bodyPost, results, Tryd.results11, go_sem, *]
      exact F2.set9 (by omega) _ _ _ _ _ _ _ _ _

end Go.Proofs.YthbkhbfcocbnoaaDoor
