/-
  Package order: read, Of, Canonical. No statement is proved here.
-/
import Derived.Test.YtpdagpjjlnncbaaDoorOrdD
import Derived.Laws.Cover3
namespace Go.Proofs.YtpdagpjjlnncbaaDoor.Ord
open Go.RowKit Go.Lib Go.BigFrame
set_option linter.unusedVariables false
set_option linter.unusedSimpArgs false
set_option maxRecDepth 1000000
set_option maxHeartbeats 4000000

theorem put_dig {k x q R Y : Nat} (hR : R * (Y + 1) ≤ 2 ^ k) (hx : x < 2 ^ (k * q) * R) (j : Nat) : (x + 2 ^ (k * q) * (R * Y)) / 2 ^ (k * j) % 2 ^ k = x / 2 ^ (k * j) % 2 ^ k + if j = q then R * Y else 0 := by
  rw [Nat.mul_add, Nat.mul_one] at hR
  rcases Nat.lt_trichotomy j q with h | h | h
  · rw [if_neg (by omega)]
    obtain ⟨d, rfl⟩ : ∃ d, q = j + 1 + d := ⟨q - j - 1, by omega⟩
    have hc : 2 ^ (k * (j + 1 + d)) * (R * Y) = 2 ^ (k * j) * (2 ^ k * (2 ^ (k * d) * (R * Y))) := by
      rw [Nat.mul_add, Nat.mul_add, Nat.pow_add, Nat.pow_add, Nat.mul_one, Nat.mul_assoc, Nat.mul_assoc]
    rw [hc, Nat.add_mul_div_left _ _ (Nat.two_pow_pos _), Nat.add_mul_mod_self_left, Nat.add_zero]
  · subst h
    rw [if_pos rfl, Nat.add_mul_div_left _ _ (Nat.two_pow_pos _)]
    have h1 : x / 2 ^ (k * j) < R := Nat.div_lt_of_lt_mul hx
    rw [Nat.mod_eq_of_lt (by omega), Nat.mod_eq_of_lt (by omega)]
  · rw [if_neg (by omega)]
    obtain ⟨d, rfl⟩ : ∃ d, j = q + 1 + d := ⟨j - q - 1, by omega⟩
    have h3 : 2 ^ (k * q) * (R * Y + R) ≤ 2 ^ (k * q) * 2 ^ k := Nat.mul_le_mul_left _ hR
    have h4 : 2 ^ (k * q) * 2 ^ k ≤ 2 ^ (k * (q + 1 + d)) := by
      rw [← Nat.pow_add]
      refine Nat.pow_le_pow_right (by decide) ?_
      rw [Nat.mul_add, Nat.mul_add, Nat.mul_one]; omega
    rw [Nat.mul_add] at h3
    rw [Nat.div_eq_of_lt (by omega), Nat.div_eq_of_lt (by omega), Nat.add_zero]
theorem pow_at (i : Nat) : 256 ^ i = 2 ^ (64 * (i / 8)) * 2 ^ (i % 8 * 8) := by
  rw [show (256 : Nat) = 2 ^ 8 from rfl, ← Nat.pow_mul, ← Nat.pow_add]
  congr 1; omega
theorem wo_put (s : ByteArray) (i j : Nat) : wo (rd s (i + 1)) j = wo (rd s i) j + if j = i / 8 then byt s i * 2 ^ (i % 8 * 8) else 0 := by
  have hx := rd_lt s i
  have hb := byt_lt s i
  rw [rd, pow_at i] at *
  have hp : 2 ^ (i % 8 * 8) ≤ 2 ^ 56 := Nat.pow_le_pow_right (by decide) (by omega)
  have hR : 2 ^ (i % 8 * 8) * (byt s i + 1) ≤ 2 ^ 64 := by
    have := Nat.mul_le_mul hp (show byt s i + 1 ≤ 256 by omega)
    exact Nat.le_trans this (by decide)
  have h := put_dig hR hx j
  rw [show byt s i * (2 ^ (64 * (i / 8)) * 2 ^ (i % 8 * 8)) = 2 ^ (64 * (i / 8)) * (2 ^ (i % 8 * 8) * byt s i) from by rw [Nat.mul_comm (2 ^ (i % 8 * 8)), Nat.mul_left_comm]]
  unfold wo
  rw [Nat.mul_comm (byt s i)]
  exact h
theorem wo_room (s : ByteArray) (i : Nat) : wo (rd s i) (i / 8) < 2 ^ (i % 8 * 8) := by
  have hx := rd_lt s i
  rw [pow_at i] at hx
  exact Nat.lt_of_le_of_lt (Nat.mod_le _ _) (Nat.div_lt_of_lt_mul hx)
theorem dw_put (s : ByteArray) (i n : Nat) : (dw (rd s i) n).set (i / 8) (wo (rd s (i + 1)) (i / 8)) = dw (rd s (i + 1)) n := by
  apply List.ext_getElem
  · simp [dw]
  · intro j h1 h2
    rw [List.getElem_set]
    simp only [dw, List.getElem_map, List.getElem_range]
    split
    · rename_i e; subst e; rfl
    · rename_i e; rw [wo_put, if_neg (fun h => e h.symm), Nat.add_zero]
theorem wo_or (s : ByteArray) (i : Nat) : bits .or .u64 ((wo (rd s i) (i / 8) : Nat) : Int) ((byt s i * 2 ^ (i % 8 * 8) : Nat) : Int) = ((wo (rd s (i + 1)) (i / 8) : Nat) : Int) := by
  have hr := wo_room s i
  have hb := byt_lt s i
  have hp : 2 ^ (i % 8 * 8) ≤ 72057594037927936 := Nat.pow_le_pow_right (by decide) (show i % 8 * 8 ≤ 56 by omega)
  have hm : byt s i * 2 ^ (i % 8 * 8) ≤ 255 * 72057594037927936 := Nat.mul_le_mul (by omega) hp
  rw [wo_put, if_pos rfl]
  have e := bits_or_u64_nat (wo (rd s i) (i / 8)) (byt s i * 2 ^ (i % 8 * 8)) (by omega) (by omega)
  rw [Nat.or_comm, nat_join (i % 8 * 8) _ _ (Nat.mul_mod_left _ _) hr, Nat.add_comm] at e
  exact e
theorem infoOf {P : Program} {t : TypeId} {z : Option Value} {s b : Nat} (h : (P.info? t).map (fun i => (i.zero, i.size, i.bytes)) = some (z, s, b)) : ∃ i, P.info? t = some i ∧ i.zero = z ∧ i.size = s ∧ i.bytes = b := by
  cases hi : P.info? t with
  | none => rw [hi] at h; simp at h
  | some i => rw [hi] at h; simp at h; exact ⟨i, rfl, h.1, h.2.1, h.2.2⟩
theorem info23 : ∃ i, Tryd.prog.info? 23 = some i ∧ i.zero = some (.int .u64 0) ∧ i.size = 1 ∧ i.bytes = 8 := infoOf (by kernel_rfl)
theorem made_w : ∀ n, n ≤ 8 → madeCells #[.int .u64 0] n = wc (dw 0 n)
  | 0, _ | 1, _ | 2, _ | 3, _ | 4, _ | 5, _ | 6, _ | 7, _ | 8, _ => by kernel_rfl
  | n + 9, h => by omega
theorem make_w (n : Nat) (hn : n ≤ 8) (w : World) : (Instr.makeSlice 79 (.int .i64 n) (.int .i64 n)).run Tryd.prog w = .ok (.slice (some ⟨w.heap.size, 0, none⟩) n n) (w.alloc (.cells (wc (dw 0 n)) 23)) := by
  obtain ⟨i, hi, hz, hs, hb⟩ := info23
  have := run_make (P := Tryd.prog) w 79 23 i (.int .u64 0) (by kernel_rfl) hi hz .i64 .i64 n n (by omega) (by omega) (by rw [hb]; omega) (by omega)
  rw [← made_w n hn]
  simpa [hs, Value.cells] using this

theorem read_any (s : ByteArray) (n : Nat) (hn : n ≤ 8) (hs : s.size = 8 * n) (w : World) : Calls Tryd.prog 49 #[.string s] w fun e w' => e = .returned (.slice (some ⟨w.heap.size, 0, none⟩) n n) ∧ Fr [] w w' ∧ RW w' w.heap.size 23 (dw (rd s (8 * n)) n) := by
  have HS := hid (p := _) hs
  have hsq : (s.size : Int) / 8 = (n : Int) := by omega
  have hmk := make_w n hn
  have hsi : (s.size : Int) = 8 * (n : Int) := by omega
  have HSI := hid (p := _) hsi
  clear hsi
  go_enter Tryd.func49, Tryd.ntmps49
  go_wp2_with fail
  go_loopg [11] (8 * n) (fun gk q wr => ∃ i : Nat, i ≤ 8 * n ∧ gk = 8 * n - i ∧ q = .int .i64 i ∧ Hid (Fr [] w wr ∧ RW wr w.heap.size 23 (dw (rd s i) n)))
  case atStart =>
    exact ⟨0, Nat.zero_le _, by omega, rfl, hid ⟨(Fr.refl [] w).alloc _, (MapKept.heap_alloc w _).1⟩⟩
  case round =>
    obtain ⟨i, hi, hgk, rfl, K⟩ := hrel
    by_cases hlt : i < 8 * n
    · have hlt' : (i : Int) < (s.size : Int) := by omega
      have hb : i < s.size := by omega
      have hq : i / 8 < n := by omega
      have hq' : (i : Int) / 8 < (n : Int) := by omega
      have h1 := byt_get s i hb
      have hB := byt_lt s i
      have hp : 2 ^ (i % 8 * 8) ≤ 72057594037927936 := Nat.pow_le_pow_right (by decide) (show i % 8 * 8 ≤ 56 by omega)
      have hm : byt s i * 2 ^ (i % 8 * 8) ≤ 255 * 72057594037927936 := Nat.mul_le_mul (by omega) hp
      have h2 : IntKind.u64.wrap (byt s i : Int) = (byt s i : Int) := wrapN _ (by omega)
      have h3 : IntKind.u64.wrap ((byt s i : Int) * 2 ^ (i % 8 * 8)) = ((byt s i * 2 ^ (i % 8 * 8) : Nat) : Int) := by
        have e : ((byt s i : Int) * 2 ^ (i % 8 * 8)) = ((byt s i * 2 ^ (i % 8 * 8) : Nat) : Int) := by rw [Int.natCast_mul, Int.natCast_pow]; rfl
        rw [e]; exact wrapN _ (by omega)
      have h4 := wo_or s i
      have c1 := K.out.2.cell (i / 8) (by rw [dw_len]; exact hq)
      rw [dw_get _ _ _ hq] at c1
      have c2 := K.out.2.frozen (i / 8)
      have c3 := K.out.2.lt
      have KN := fun x => (K.out.2.ext x).set (i / 8) (wo (rd s (i + 1)) (i / 8))
      rw [dw_put] at KN
      have HN := hid (p := _) KN
      have KF := hid (p := _) K.out.1
      generalize wo (rd s (i + 1)) (i / 8) = Z at *
      generalize byt s i * 2 ^ (i % 8 * 8) = Y at *
      generalize wo (rd s i) (i / 8) = x at *
      generalize byt s i = B at *
      clear hp hm hB K KN
      go_wp2_with fail
      refine wp_region_last_ext [_, _, _, _, _, _, _, _, _, _, _, _, _, _, _] _ (by kernel_rfl) (by kernel_rfl) (by kernel_rfl) (by kernel_rfl) (by kernel_rfl) ?_
      simp only [List.cons_append, List.nil_append, idle]
      repeat (go_big_quiet_step (fail))
      refine wpQuiet_nil ?_
      rintro _ ⟨xq, rfl⟩
      go_simp
      go_wp2
      go_roundg (8 * n - (i + 1))
      case measure => omega
      case rel =>
        exact ⟨i + 1, by omega, rfl, by go_num, hid ⟨(KF.out.ext xq).setCell (.inr (Nat.le_refl _)) _, HN.out xq⟩⟩
    · obtain rfl : i = 8 * n := by omega
      have hlt' : ¬ ((8 * n : Nat) : Int) < (s.size : Int) := by omega
      have F := K.out.1
      have R := K.out.2
      clear K
      go_wp2_with fail
      go_ret
      exact ⟨rfl, F, R⟩
end Go.Proofs.YtpdagpjjlnncbaaDoor.Ord
namespace Go.Proofs.YtpdagpjjlnncbaaDoor.Ord
open Go.RowKit Go.Lib Go.BigFrame
set_option linter.unusedVariables false
set_option linter.unusedSimpArgs false
set_option maxRecDepth 1000000
set_option maxHeartbeats 4000000

theorem rd_top (s : ByteArray) (n : Nat) : rd s (8 * n) / 2 ^ (64 * n) = 0 := by
  refine Nat.div_eq_of_lt ?_
  have h := rd_lt s (8 * n)
  have e : 256 ^ (8 * n) = 2 ^ (64 * n) := by
    rw [show (256 : Nat) = 2 ^ 8 from rfl, ← Nat.pow_mul]
    congr 1; omega
  rw [e] at h
  exact h
/-- What Of answers. -/
def of (s : ByteArray) : Nat := rd s s.size % Lq
theorem of_ltL (s : ByteArray) : of s < Lq := Nat.mod_lt _ Lq_pos
/-- The lengths that Of takes. -/
def fits (s : ByteArray) : Prop := s.size = 32 ∨ s.size = 64
theorem of_gen (s : ByteArray) (n : Nat) (hn : n ≤ 8) (hs : s.size = 8 * n) (h : (s.size : Int) = 32 ∨ (¬ (s.size : Int) = 32 ∧ (s.size : Int) = 64)) (w : World) (hP : PV w) : Calls Tryd.prog 17 #[.string s] w fun e w' => e = .returned (.tuple #[wd (of s), .int .i64 0]) ∧ Fr [] w w' := by
  have hP2 := hid (p := _) hP
  have K1 := fun W => read_any s n hn hs W
  have K2 := fun b t W hW hR => modulo_any (rd s (8 * n)) n b t hn (rd_top s n) W hW hR
  have e : rd s (8 * n) % Lq = of s := by unfold of; rw [hs]
  rw [e] at K2
  obtain ⟨c0, c1, c2, c3, -, -, -, -, -, wc'⟩ := wd_open (of s) (lt4 (of_ltL s))
  rw [wc'] at K2
  rw [wc']
  have H1 := hid (p := _) K1
  have H2 := hid (p := _) K2
  clear K1 K2 e wc' hP hs hn
  rcases h with h | ⟨h0, h⟩
  all_goals
    go_enter Tryd.func17, Tryd.ntmps17
    go_wp2_with (first | (go_at_call 49; with_reducible refine (H1.out _).mono ?_; rintro e V ⟨rfl, hF, hR⟩; have C := hid (p := _) ((L4.new w 46 _ _ _ _).fr hF); have F := hid (p := _) (((Fr.refl [] w).alloc _).trans0 hF); have R : Hid (RW V (w.heap.size + 1) 23 (dw (rd s (8 * n)) n)) := hid (by simpa using hR); clear hF hR) | (go_at_call 48; with_reducible refine (H2.out _ _ _ (hP2.out.fr F.out (by simp)) R.out).mono ?_; rintro e V2 ⟨rfl, hF⟩; have C2 := C.out.fr hF; have F2 := F.out.trans0 hF; obtain ⟨x0c, x1c, x2c, x3c, x4c, x5c, x6c, x7c, x8c, x9c⟩ := C2.all; clear hF))
    simp [bodyPost, results, Tryd.results17, go_sem, *]
    exact F2.set4 (by omega) _ _ _ _
theorem of_yes (s : ByteArray) (h : fits s) (w : World) (hP : PV w) : Calls Tryd.prog 17 #[.string s] w fun e w' => e = .returned (.tuple #[wd (of s), .int .i64 0]) ∧ Fr [] w w' := by
  rcases h with h | h
  · exact of_gen s 4 (by decide) h (.inl (by omega)) w hP
  · exact of_gen s 8 (by decide) h (.inr ⟨by omega, by omega⟩) w hP
theorem wd_0 : Value.agg #[.int .u64 0, .int .u64 0, .int .u64 0, .int .u64 0] = wd 0 := rfl
theorem of_no (s : ByteArray) (h : ¬ fits s) (w : World) : Calls Tryd.prog 17 #[.string s] w fun e w' => e = .returned (.tuple #[wd 0, .int .i64 2]) ∧ Fr [] w w' := by
  have h1 : ¬ (s.size : Int) = 32 := fun e => h (.inl (by omega))
  have h2 : ¬ (s.size : Int) = 64 := fun e => h (.inr (by omega))
  have h3 : ((s.size : Int) != 32) = true := bne_iff_ne.2 h1
  have h4 : ((s.size : Int) != 64) = true := bne_iff_ne.2 h2
  rw [← wd_0]
  clear h
  go_enter Tryd.func17, Tryd.ntmps17
  go_wp2_with fail
  simp [bodyPost, results, Tryd.results17, go_sem, *]
  exact (Fr.refl [] w).alloc _
theorem wd_dw (N : Nat) : Value.agg (wc (dw N 4)) = wd N := by
  have e0 : wo N 0 = N % 18446744073709551616 := by unfold wo; rw [Nat.mul_zero, Nat.pow_zero, Nat.div_one]
  show Value.agg #[.int .u64 ((wo N 0 : Nat) : Int), .int .u64 ((wo N 1 : Nat) : Int), .int .u64 ((wo N 2 : Nat) : Int), .int .u64 ((wo N 3 : Nat) : Int)] = wd N
  rw [e0]
  rfl
theorem rd_lt4 (s : ByteArray) : rd s 32 < 115792089237316195423570985008687907853269984665640564039457584007913129639936 := rd_lt s 32
end Go.Proofs.YtpdagpjjlnncbaaDoor.Ord
