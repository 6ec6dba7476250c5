/-
  The walks of Read, U16, U32 and U64 of a memory where there are not so many bytes; Read in general; 'number' and 'wide' of the statements.
-/
import Derived.Test.YtbkfgidmjkbfmaaRef1
namespace Go.Proofs.Ytbkfgidmjkbfmaa
open Go.RowKit Go.BigFrame
set_option linter.unusedVariables false
set_option linter.unusedSimpArgs false
set_option maxRecDepth 1000000
set_option maxHeartbeats 4000000

theorem mread_any (bM bm bb k a : Nat) (n : Int) (lv : Value) (l : List (Nat × Nat)) (bs : List UInt8) (w : World) (hM : MemA w bM bm bb k lv l bs) (ha : a < 4294967296) (hn : -9223372036854775808 ≤ n ∧ n ≤ 9223372036854775807) :
    Calls Try.prog 20 #[.pointer (some ⟨bM, 0, none⟩), .int .u32 a, .int .i64 n] w fun e w' => ∃ s c, e = .returned (.tuple #[.string s, .int .i64 c]) ∧ Reads k a n bs s c ∧ w' = w := by
  have hk := hM.mid.top
  have c0 := hM.cp
  have c1 := hM.mid.c0
  by_cases h1 : n < 0
  · have d1 : decide (n < (0 : Int)) = true := by simpa using h1
    clear hM
    go_enter Try.func20, Try.ntmps20
    go_wp2_with (go_at_call 39; refine (none_mem bM bm _ c0).mono ?_; rintro e w' ⟨rfl, hw⟩; subst hw)
    go_ret2
    exact ⟨_, _, rfl, .inl ⟨h1, rfl, rfl⟩, rfl⟩
  · obtain ⟨m, rfl⟩ : ∃ m : Nat, n = m := ⟨n.toNat, by omega⟩
    by_cases h2 : a + m ≤ k
    · exact (read_ok bM bm bb k a m lv l bs w hM h2).mono fun e w' ⟨h3, h4⟩ => ⟨_, _, h3, .inr (.inr ⟨m, rfl, h2, rfl, rfl⟩), h4⟩
    · have d1 : decide ((m : Int) < (0 : Int)) = false := by simp
      have hcv : (convert 48 9 (.slice none 0 0)).run Try.prog w = .ok (.string ⟨#[]⟩) w := by
        rw [run_convert_bytes_string (P := Try.prog) _ 48 9 5 _ _ _ Try.underlying48 Try.underlying5 Try.underlying9]
        rfl
      clear hM
      go_enter Try.func20, Try.ntmps20
      go_wp2_with (first | (go_at_call 39; refine (none_mem bM bm _ c0).mono ?_; rintro e w' ⟨rfl, hw⟩; subst hw) | (go_at_call 54; refine (part_out bm bb a m k _ ha (by omega) hk c1 (by omega)).mono ?_; rintro e w' ⟨rfl, hw⟩; subst hw))
      go_ret2
      exact ⟨_, _, rfl, .inr (.inl ⟨by omega, by omega, rfl, rfl⟩), rfl⟩

theorem get16_out (bM bm bb k a : Nat) (lv : Value) (l : List (Nat × Nat)) (bs : List UInt8) (w : World) (hM : MemA w bM bm bb k lv l bs) (ha : a < 4294967296) (ho : k < a + 2) :
    Calls Try.prog 62 #[.pointer (some ⟨bM, 0, none⟩), .int .u32 a] w fun e w' => e = .returned (.tuple #[.int .u16 0, .int .i64 10]) ∧ Fr [] w w' := by
  have hk := hM.mid.top
  have c0 := hM.cp
  have c1 := hM.mid.c0
  clear hM
  go_enter Try.func62, Try.ntmps62
  go_wp2_with (go_at_call 39; refine (none_mem bM bm _ c0).mono ?_; rintro e w' ⟨rfl, hw⟩; subst hw)
  go_quiet (first | exact Calls.quiet_of_same (width16 _) | exact Calls.quiet_of_same (part_out bm bb a 2 k _ ha (by omega) hk c1 ho))
  go_wp2
  refine wp_loop_rounds 1 ?_
  rw [rounds_succ]; go_wp2
  go_ret2
  exact ⟨rfl, (Fr.refl _ _).drewN _⟩
theorem u16_out (bM bm bb k a : Nat) (lv : Value) (l : List (Nat × Nat)) (bs : List UInt8) (w : World) (hM : MemA w bM bm bb k lv l bs) (ha : a < 4294967296) (ho : k < a + 2) :
    Calls Try.prog 32 #[.pointer (some ⟨bM, 0, none⟩), .int .u32 a] w fun e w' => e = .returned (.tuple #[.int .u16 0, .int .i64 10]) ∧ Fr [] w w' := by
  have H := hid (get16_out bM bm bb k a lv l bs w hM ha ho)
  clear hM
  go_enter Try.func32, Try.ntmps32
  go_wp2_with (go_at_call 62; refine H.out.mono ?_; rintro e w1 ⟨rfl, hF⟩)
  go_ret2
  exact ⟨rfl, hF⟩

theorem get32_out (bM bm bb k a : Nat) (lv : Value) (l : List (Nat × Nat)) (bs : List UInt8) (w : World) (hM : MemA w bM bm bb k lv l bs) (ha : a < 4294967296) (ho : k < a + 4) :
    Calls Try.prog 63 #[.pointer (some ⟨bM, 0, none⟩), .int .u32 a] w fun e w' => e = .returned (.tuple #[.int .u32 0, .int .i64 10]) ∧ Fr [] w w' := by
  have hk := hM.mid.top
  have c0 := hM.cp
  have c1 := hM.mid.c0
  clear hM
  go_enter Try.func63, Try.ntmps63
  go_wp2_with (go_at_call 39; refine (none_mem bM bm _ c0).mono ?_; rintro e w' ⟨rfl, hw⟩; subst hw)
  go_quiet (first | exact Calls.quiet_of_same (width32 _) | exact Calls.quiet_of_same (part_out bm bb a 4 k _ ha (by omega) hk c1 ho))
  go_wp2
  refine wp_loop_rounds 1 ?_
  rw [rounds_succ]; go_wp2
  go_ret2
  exact ⟨rfl, (Fr.refl _ _).drewN _⟩
theorem u32_out (bM bm bb k a : Nat) (lv : Value) (l : List (Nat × Nat)) (bs : List UInt8) (w : World) (hM : MemA w bM bm bb k lv l bs) (ha : a < 4294967296) (ho : k < a + 4) :
    Calls Try.prog 33 #[.pointer (some ⟨bM, 0, none⟩), .int .u32 a] w fun e w' => e = .returned (.tuple #[.int .u32 0, .int .i64 10]) ∧ Fr [] w w' := by
  have H := hid (get32_out bM bm bb k a lv l bs w hM ha ho)
  clear hM
  go_enter Try.func33, Try.ntmps33
  go_wp2_with (go_at_call 63; refine H.out.mono ?_; rintro e w1 ⟨rfl, hF⟩)
  go_ret2
  exact ⟨rfl, hF⟩

theorem get64_out (bM bm bb k a : Nat) (lv : Value) (l : List (Nat × Nat)) (bs : List UInt8) (w : World) (hM : MemA w bM bm bb k lv l bs) (ha : a < 4294967296) (ho : k < a + 8) :
    Calls Try.prog 64 #[.pointer (some ⟨bM, 0, none⟩), .int .u32 a] w fun e w' => e = .returned (.tuple #[.int .u64 0, .int .i64 10]) ∧ Fr [] w w' := by
  have hk := hM.mid.top
  have c0 := hM.cp
  have c1 := hM.mid.c0
  clear hM
  go_enter Try.func64, Try.ntmps64
  go_wp2_with (go_at_call 39; refine (none_mem bM bm _ c0).mono ?_; rintro e w' ⟨rfl, hw⟩; subst hw)
  go_quiet (first | exact Calls.quiet_of_same (width64 _) | exact Calls.quiet_of_same (part_out bm bb a 8 k _ ha (by omega) hk c1 ho))
  go_wp2
  refine wp_loop_rounds 1 ?_
  rw [rounds_succ]; go_wp2
  go_ret2
  exact ⟨rfl, (Fr.refl _ _).drewN _⟩
theorem u64_out (bM bm bb k a : Nat) (lv : Value) (l : List (Nat × Nat)) (bs : List UInt8) (w : World) (hM : MemA w bM bm bb k lv l bs) (ha : a < 4294967296) (ho : k < a + 8) :
    Calls Try.prog 34 #[.pointer (some ⟨bM, 0, none⟩), .int .u32 a] w fun e w' => e = .returned (.tuple #[.int .u64 0, .int .i64 10]) ∧ Fr [] w w' := by
  have H := hid (get64_out bM bm bb k a lv l bs w hM ha ho)
  clear hM
  go_enter Try.func34, Try.ntmps34
  go_wp2_with (go_at_call 64; refine H.out.mono ?_; rintro e w1 ⟨rfl, hF⟩)
  go_ret2
  exact ⟨rfl, hF⟩

/-- How wide a number is. -/
def wid (n : Int) : Nat := if n.tmod 3 = 1 then 4 else if n.tmod 3 = 2 then 8 else 2
theorem wid_or (n : Int) : wid n = 2 ∨ wid n = 4 ∨ wid n = 8 := by unfold wid; split; exact .inr (.inl rfl); split; exact .inr (.inr rfl); exact .inl rfl
/-- What reading a number answers. -/
def Nums (k a n : Nat) (bs : List UInt8) (x : Nat) (c : Int) : Prop := (k < a + n ∧ x = 0 ∧ c = 10) ∨ (a + n ≤ k ∧ x < 256 ^ n ∧ (bs.drop a).take n = le n x ∧ c = 0)
theorem u16_all (bM bm bb k a : Nat) (lv : Value) (l : List (Nat × Nat)) (bs : List UInt8) (w : World) (hM : MemA w bM bm bb k lv l bs) (ha : a < 4294967296) :
    Calls Try.prog 32 #[.pointer (some ⟨bM, 0, none⟩), .int .u32 a] w fun e w' => ∃ (x : Nat) (c : Int), x < 65536 ∧ e = .returned (.tuple #[.int .u16 x, .int .i64 c]) ∧ Hid (Nums k a 2 bs x c) ∧ Fr [] w w' := by
  rcases Nat.lt_or_ge k (a + 2) with h | h
  · exact (u16_out bM bm bb k a lv l bs w hM ha h).mono fun e w' ⟨h1, h2⟩ => ⟨0, 10, by omega, h1, hid (.inl ⟨h, rfl, rfl⟩), h2⟩
  · exact (u16_any bM bm bb k a lv l bs w hM h).mono fun e w' ⟨x, h1, h2, h3, h4⟩ => ⟨x, 0, h1, h3, hid (.inr ⟨h, h1, h2, rfl⟩), h4⟩
theorem u32_all (bM bm bb k a : Nat) (lv : Value) (l : List (Nat × Nat)) (bs : List UInt8) (w : World) (hM : MemA w bM bm bb k lv l bs) (ha : a < 4294967296) :
    Calls Try.prog 33 #[.pointer (some ⟨bM, 0, none⟩), .int .u32 a] w fun e w' => ∃ (x : Nat) (c : Int), x < 4294967296 ∧ e = .returned (.tuple #[.int .u32 x, .int .i64 c]) ∧ Hid (Nums k a 4 bs x c) ∧ Fr [] w w' := by
  rcases Nat.lt_or_ge k (a + 4) with h | h
  · exact (u32_out bM bm bb k a lv l bs w hM ha h).mono fun e w' ⟨h1, h2⟩ => ⟨0, 10, by omega, h1, hid (.inl ⟨h, rfl, rfl⟩), h2⟩
  · exact (u32_any bM bm bb k a lv l bs w hM h).mono fun e w' ⟨x, h1, h2, h3, h4⟩ => ⟨x, 0, h1, h3, hid (.inr ⟨h, h1, h2, rfl⟩), h4⟩
theorem u64_all (bM bm bb k a : Nat) (lv : Value) (l : List (Nat × Nat)) (bs : List UInt8) (w : World) (hM : MemA w bM bm bb k lv l bs) (ha : a < 4294967296) :
    Calls Try.prog 34 #[.pointer (some ⟨bM, 0, none⟩), .int .u32 a] w fun e w' => ∃ (x : Nat) (c : Int), x < 18446744073709551616 ∧ e = .returned (.tuple #[.int .u64 x, .int .i64 c]) ∧ Hid (Nums k a 8 bs x c) ∧ Fr [] w w' := by
  rcases Nat.lt_or_ge k (a + 8) with h | h
  · exact (u64_out bM bm bb k a lv l bs w hM ha h).mono fun e w' ⟨h1, h2⟩ => ⟨0, 10, by omega, h1, hid (.inl ⟨h, rfl, rfl⟩), h2⟩
  · exact (u64_any bM bm bb k a lv l bs w hM h).mono fun e w' ⟨x, h1, h2, h3, h4⟩ => ⟨x, 0, h1, h3, hid (.inr ⟨h, h1, h2, rfl⟩), h4⟩
theorem number_any (bM bm bb k a : Nat) (n : Int) (lv : Value) (l : List (Nat × Nat)) (bs : List UInt8) (w : World) (hM : MemA w bM bm bb k lv l bs) (ha : a < 4294967296) :
    Calls Try.prog 43 #[.pointer (some ⟨bM, 0, none⟩), .int .u32 a, .int .i64 n] w fun e w' => ∃ (x : Nat) (c : Int), e = .returned (.tuple #[.int .u64 x, .int .i64 c]) ∧ Nums k a (wid n) bs x c ∧ Fr [] w w' := by
  by_cases h1 : n.tmod 3 = 1
  · have d1 : (n.tmod 3 == 1) = true := by simp [h1]
    have HU := hid (u32_all bM bm bb k a lv l bs w hM ha)
    have hw : wid n = 4 := by unfold wid; simp [h1]
    have HW := hid hw
    clear hM hw
    go_enter Try.func43, Try.ntmps43
    go_wp2_with fail
    refine HU.out.mono ?_
    rintro e w1 ⟨x, c, hx, rfl, hN, hF⟩
    go_wp2
    go_ret2
    exact ⟨x, c, by first | rfl | simp, by rw [HW.out]; exact hN.out, hF⟩
  · have d1 : (n.tmod 3 == 1) = false := by simp [h1]
    by_cases h2 : n.tmod 3 = 2
    · have d2 : (n.tmod 3 == 2) = true := by simp [h2]
      have HU := hid (u64_all bM bm bb k a lv l bs w hM ha)
      have hw : wid n = 8 := by unfold wid; simp [h2]
      have HW := hid hw
      clear hM hw
      go_enter Try.func43, Try.ntmps43
      go_wp2_with fail
      refine HU.out.mono ?_
      rintro e w1 ⟨x, c, hx, rfl, hN, hF⟩
      go_wp2
      go_ret2
      exact ⟨x, c, by first | rfl | simp, by rw [HW.out]; exact hN.out, hF⟩
    · have d2 : (n.tmod 3 == 2) = false := by simp [h2]
      have HU := hid (u16_all bM bm bb k a lv l bs w hM ha)
      have hw : wid n = 2 := by unfold wid; simp [h1, h2]
      have HW := hid hw
      clear hM hw
      go_enter Try.func43, Try.ntmps43
      go_wp2_with fail
      refine HU.out.mono ?_
      rintro e w1 ⟨x, c, hx, rfl, hN, hF⟩
      go_wp2
      go_ret2
      exact ⟨x, c, by first | rfl | simp, by rw [HW.out]; exact hN.out, hF⟩
theorem wide_any (n : Int) (w : World) : Calls Try.prog 45 #[.int .i64 n] w fun e w' => e = .returned (.int .i64 (wid n : Nat)) ∧ w' = w := by
  by_cases h1 : n.tmod 3 = 1
  · have d1 : (n.tmod 3 == 1) = true := by simp [h1]
    go_enter Try.func45, Try.ntmps45
    go_wp2
    go_ret
    exact ⟨by simp [wid, h1], rfl⟩
  · have d1 : (n.tmod 3 == 1) = false := by simp [h1]
    by_cases h2 : n.tmod 3 = 2
    · have d2 : (n.tmod 3 == 2) = true := by simp [h2]
      go_enter Try.func45, Try.ntmps45
      go_wp2
      go_ret
      exact ⟨by simp [wid, h2], rfl⟩
    · have d2 : (n.tmod 3 == 2) = false := by simp [h2]
      go_enter Try.func45, Try.ntmps45
      go_wp2
      go_ret
      exact ⟨by simp [wid, h1, h2], rfl⟩
end Go.Proofs.Ytbkfgidmjkbfmaa
