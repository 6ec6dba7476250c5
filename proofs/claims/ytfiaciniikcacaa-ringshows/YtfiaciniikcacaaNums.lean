/-
  The walks of U16, U32 and U64 of a memory in general: the number that stands there, its lowest byte first, or ErrOut.
-/
import Derived.Test.YtfiaciniikcacaaLawB
import Derived.Lib.EndianBits
namespace Go.Proofs.Ytfiaciniikcacaa
open Go.RowKit Go.BigFrame
set_option linter.unusedVariables false
set_option linter.unusedSimpArgs false
set_option maxRecDepth 1000000
set_option maxHeartbeats 4000000

theorem byte_cell {w : World} {bM bm bb k : Nat} {lv : Value} {l : List (Nat × Nat)} {bs : List UInt8} (hM : MemA w bM bm bb k lv l bs) (i : Nat) (hi : i < k) : ∃ y : Nat, y < 256 ∧ bs[i]? = some (UInt8.ofNat y) ∧ w.cell? ⟨bb, i, none⟩ = some (.int .u8 (y : Nat)) := by
  have hl : i < bs.length := by rw [hM.len]; exact hi
  refine ⟨(bs[i]).toNat, UInt8.toNat_lt _, ?_, cell_of_heap hM.bytes (by simp [hl, b8])⟩
  rw [List.getElem?_eq_getElem hl]; simp

theorem drop_take_is (bs us : List UInt8) (a : Nat) (h : ∀ j, j < us.length → bs[a + j]? = us[j]?) : (bs.drop a).take us.length = us := by
  apply List.ext_getElem?
  intro j
  by_cases hj : j < us.length
  · rw [List.getElem?_take, if_pos hj, List.getElem?_drop]; exact h j hj
  · rw [List.getElem?_take, if_neg hj, List.getElem?_eq_none (by omega)]

theorem get16_any (bM bm bb k a : Nat) (lv : Value) (l : List (Nat × Nat)) (bs : List UInt8) (w : World) (hM : MemA w bM bm bb k lv l bs) (ho : a + 2 ≤ k) :
    Calls Try.prog 50 #[.pointer (some ⟨bM, 0, none⟩), .int .u32 a] w fun e w' => ∃ x : Nat, x < 65536 ∧ (bs.drop a).take 2 = le 2 x ∧ e = .returned (.tuple #[.int .u16 x, .int .i64 0]) ∧ Fr [] w w' := by
  have hk := hM.mid.top
  have c0 := hM.cp
  have c1 := hM.mid.c0
  obtain ⟨y0, z0, e0, d0⟩ := byte_cell hM (a + 0) (by omega)
  obtain ⟨y1, z1, e1, d1⟩ := byte_cell hM (a + 1) (by omega)
  have hE : (bs.drop a).take 2 = le 2 (y0 + y1 * 256) := by
    refine (drop_take_is bs [UInt8.ofNat y0, UInt8.ofNat y1] a (fun j hj => ?_)).trans ?_
    · simp only [List.length_cons, List.length_nil] at hj
      match j, hj with
      | 0, _ => exact e0
      | 1, _ => exact e1
    · have g0 : (y0 + y1 * 256) % 256 = y0 := by omega
      have g1 : (y0 + y1 * 256) / 256 % 256 = y1 := by omega
      simp [le, List.range_succ, g0, g1]
  have HE := hid hE
  have o0 : bits .or .u16 0 (y0 : Int) = y0 := by have := bits_join_low .u16 16 (by decide) wraps_u16 0 0 (y0 : Int) (by omega) (by decide) (by decide) (by omega) (by simp) (by omega); rw [this]; omega
  have o1 : bits .or .u16 ((y0 : Int)) ((y1 : Int) * 256) = (y0 : Int) + (y1 : Int) * 256 := u16_or8 _ _ (by omega) (by omega) (by omega) (by omega) (by omega)
  have d0' : w.cell? ⟨bb, a, none⟩ = some (.int .u8 (y0 : Nat)) := d0
  have hp : po a 2 = a := by simp [po]
  clear hM hE d0 e0 e1
  go_enter Try.func50, Try.ntmps50
  go_wp2_with (go_at_call 44; refine (none_mem bM bm _ c0).mono ?_; rintro e w' ⟨rfl, hw⟩; subst hw)
  go_quiet (first | exact Calls.quiet_of_same (width16 _) | exact Calls.quiet_of_same (part_in bm bb a 2 k _ (by omega) hk c1 ho))
  rw [hp]
  clear hp
  go_wp2
  refine wp_loop_rounds 3 ?_
  rw [rounds_succ]; go_wp2
  rw [rounds_succ]; go_wp2
  rw [rounds_succ]; go_wp2
  go_ret2
  exact ⟨y0 + y1 * 256, by omega, HE.out, by simp, (Fr.refl _ _).drewN _⟩
theorem u16_any (bM bm bb k a : Nat) (lv : Value) (l : List (Nat × Nat)) (bs : List UInt8) (w : World) (hM : MemA w bM bm bb k lv l bs) (ho : a + 2 ≤ k) :
    Calls Try.prog 26 #[.pointer (some ⟨bM, 0, none⟩), .int .u32 a] w fun e w' => ∃ x : Nat, x < 65536 ∧ (bs.drop a).take 2 = le 2 x ∧ e = .returned (.tuple #[.int .u16 x, .int .i64 0]) ∧ Fr [] w w' := by
  have H := hid (get16_any bM bm bb k a lv l bs w hM ho)
  clear hM
  go_enter Try.func26, Try.ntmps26
  go_wp2_with (go_at_call 50; refine H.out.mono ?_; rintro e w1 ⟨x, hx, h1, rfl, hF⟩)
  go_ret2
  exact ⟨x, hx, h1, rfl, hF⟩

theorem get32_any (bM bm bb k a : Nat) (lv : Value) (l : List (Nat × Nat)) (bs : List UInt8) (w : World) (hM : MemA w bM bm bb k lv l bs) (ho : a + 4 ≤ k) :
    Calls Try.prog 52 #[.pointer (some ⟨bM, 0, none⟩), .int .u32 a] w fun e w' => ∃ x : Nat, x < 4294967296 ∧ (bs.drop a).take 4 = le 4 x ∧ e = .returned (.tuple #[.int .u32 x, .int .i64 0]) ∧ Fr [] w w' := by
  have hk := hM.mid.top
  have c0 := hM.cp
  have c1 := hM.mid.c0
  obtain ⟨y0, z0, e0, d0⟩ := byte_cell hM (a + 0) (by omega)
  obtain ⟨y1, z1, e1, d1⟩ := byte_cell hM (a + 1) (by omega)
  obtain ⟨y2, z2, e2, d2⟩ := byte_cell hM (a + 2) (by omega)
  obtain ⟨y3, z3, e3, d3⟩ := byte_cell hM (a + 3) (by omega)
  have hE : (bs.drop a).take 4 = le 4 (y0 + y1 * 256 + y2 * 65536 + y3 * 16777216) := by
    refine (drop_take_is bs [UInt8.ofNat y0, UInt8.ofNat y1, UInt8.ofNat y2, UInt8.ofNat y3] a (fun j hj => ?_)).trans ?_
    · simp only [List.length_cons, List.length_nil] at hj
      match j, hj with
      | 0, _ => exact e0
      | 1, _ => exact e1
      | 2, _ => exact e2
      | 3, _ => exact e3
    · have g0 : (y0 + y1 * 256 + y2 * 65536 + y3 * 16777216) % 256 = y0 := by omega
      have g1 : (y0 + y1 * 256 + y2 * 65536 + y3 * 16777216) / 256 % 256 = y1 := by omega
      have g2 : (y0 + y1 * 256 + y2 * 65536 + y3 * 16777216) / 65536 % 256 = y2 := by omega
      have g3 : (y0 + y1 * 256 + y2 * 65536 + y3 * 16777216) / 16777216 % 256 = y3 := by omega
      simp [le, List.range_succ, g0, g1, g2, g3]
  have HE := hid hE
  have o0 : bits .or .u32 0 (y0 : Int) = y0 := by have := bits_join_low .u32 32 (by decide) wraps_u32 0 0 (y0 : Int) (by omega) (by decide) (by decide) (by omega) (by simp) (by omega); rw [this]; omega
  have o1 : bits .or .u32 ((y0 : Int)) ((y1 : Int) * 256) = (y0 : Int) + (y1 : Int) * 256 := u32_or8 _ _ (by omega) (by omega) (by omega) (by omega) (by omega)
  have o2 : bits .or .u32 ((y0 : Int) + (y1 : Int) * 256) ((y2 : Int) * 65536) = (y0 : Int) + (y1 : Int) * 256 + (y2 : Int) * 65536 := u32_or16 _ _ (by omega) (by omega) (by omega) (by omega) (by omega)
  have o3 : bits .or .u32 ((y0 : Int) + (y1 : Int) * 256 + (y2 : Int) * 65536) ((y3 : Int) * 16777216) = (y0 : Int) + (y1 : Int) * 256 + (y2 : Int) * 65536 + (y3 : Int) * 16777216 := u32_or24 _ _ (by omega) (by omega) (by omega) (by omega) (by omega)
  have d0' : w.cell? ⟨bb, a, none⟩ = some (.int .u8 (y0 : Nat)) := d0
  have hp : po a 4 = a := by simp [po]
  clear hM hE d0 e0 e1 e2 e3
  go_enter Try.func52, Try.ntmps52
  go_wp2_with (go_at_call 44; refine (none_mem bM bm _ c0).mono ?_; rintro e w' ⟨rfl, hw⟩; subst hw)
  go_quiet (first | exact Calls.quiet_of_same (width32 _) | exact Calls.quiet_of_same (part_in bm bb a 4 k _ (by omega) hk c1 ho))
  rw [hp]
  clear hp
  go_wp2
  refine wp_loop_rounds 5 ?_
  rw [rounds_succ]; go_wp2
  rw [rounds_succ]; go_wp2
  rw [rounds_succ]; go_wp2
  rw [rounds_succ]; go_wp2
  rw [rounds_succ]; go_wp2
  go_ret2
  exact ⟨y0 + y1 * 256 + y2 * 65536 + y3 * 16777216, by omega, HE.out, by simp, (Fr.refl _ _).drewN _⟩
theorem u32_any (bM bm bb k a : Nat) (lv : Value) (l : List (Nat × Nat)) (bs : List UInt8) (w : World) (hM : MemA w bM bm bb k lv l bs) (ho : a + 4 ≤ k) :
    Calls Try.prog 28 #[.pointer (some ⟨bM, 0, none⟩), .int .u32 a] w fun e w' => ∃ x : Nat, x < 4294967296 ∧ (bs.drop a).take 4 = le 4 x ∧ e = .returned (.tuple #[.int .u32 x, .int .i64 0]) ∧ Fr [] w w' := by
  have H := hid (get32_any bM bm bb k a lv l bs w hM ho)
  clear hM
  go_enter Try.func28, Try.ntmps28
  go_wp2_with (go_at_call 52; refine H.out.mono ?_; rintro e w1 ⟨x, hx, h1, rfl, hF⟩)
  go_ret2
  exact ⟨x, hx, h1, rfl, hF⟩

theorem get64_any (bM bm bb k a : Nat) (lv : Value) (l : List (Nat × Nat)) (bs : List UInt8) (w : World) (hM : MemA w bM bm bb k lv l bs) (ho : a + 8 ≤ k) :
    Calls Try.prog 51 #[.pointer (some ⟨bM, 0, none⟩), .int .u32 a] w fun e w' => ∃ x : Nat, x < 18446744073709551616 ∧ (bs.drop a).take 8 = le 8 x ∧ e = .returned (.tuple #[.int .u64 x, .int .i64 0]) ∧ Fr [] w w' := by
  have hk := hM.mid.top
  have c0 := hM.cp
  have c1 := hM.mid.c0
  obtain ⟨y0, z0, e0, d0⟩ := byte_cell hM (a + 0) (by omega)
  obtain ⟨y1, z1, e1, d1⟩ := byte_cell hM (a + 1) (by omega)
  obtain ⟨y2, z2, e2, d2⟩ := byte_cell hM (a + 2) (by omega)
  obtain ⟨y3, z3, e3, d3⟩ := byte_cell hM (a + 3) (by omega)
  obtain ⟨y4, z4, e4, d4⟩ := byte_cell hM (a + 4) (by omega)
  obtain ⟨y5, z5, e5, d5⟩ := byte_cell hM (a + 5) (by omega)
  obtain ⟨y6, z6, e6, d6⟩ := byte_cell hM (a + 6) (by omega)
  obtain ⟨y7, z7, e7, d7⟩ := byte_cell hM (a + 7) (by omega)
  have hE : (bs.drop a).take 8 = le 8 (y0 + y1 * 256 + y2 * 65536 + y3 * 16777216 + y4 * 4294967296 + y5 * 1099511627776 + y6 * 281474976710656 + y7 * 72057594037927936) := by
    refine (drop_take_is bs [UInt8.ofNat y0, UInt8.ofNat y1, UInt8.ofNat y2, UInt8.ofNat y3, UInt8.ofNat y4, UInt8.ofNat y5, UInt8.ofNat y6, UInt8.ofNat y7] a (fun j hj => ?_)).trans ?_
    · simp only [List.length_cons, List.length_nil] at hj
      match j, hj with
      | 0, _ => exact e0
      | 1, _ => exact e1
      | 2, _ => exact e2
      | 3, _ => exact e3
      | 4, _ => exact e4
      | 5, _ => exact e5
      | 6, _ => exact e6
      | 7, _ => exact e7
    · have g0 : (y0 + y1 * 256 + y2 * 65536 + y3 * 16777216 + y4 * 4294967296 + y5 * 1099511627776 + y6 * 281474976710656 + y7 * 72057594037927936) % 256 = y0 := by omega
      have g1 : (y0 + y1 * 256 + y2 * 65536 + y3 * 16777216 + y4 * 4294967296 + y5 * 1099511627776 + y6 * 281474976710656 + y7 * 72057594037927936) / 256 % 256 = y1 := by omega
      have g2 : (y0 + y1 * 256 + y2 * 65536 + y3 * 16777216 + y4 * 4294967296 + y5 * 1099511627776 + y6 * 281474976710656 + y7 * 72057594037927936) / 65536 % 256 = y2 := by omega
      have g3 : (y0 + y1 * 256 + y2 * 65536 + y3 * 16777216 + y4 * 4294967296 + y5 * 1099511627776 + y6 * 281474976710656 + y7 * 72057594037927936) / 16777216 % 256 = y3 := by omega
      have g4 : (y0 + y1 * 256 + y2 * 65536 + y3 * 16777216 + y4 * 4294967296 + y5 * 1099511627776 + y6 * 281474976710656 + y7 * 72057594037927936) / 4294967296 % 256 = y4 := by omega
      have g5 : (y0 + y1 * 256 + y2 * 65536 + y3 * 16777216 + y4 * 4294967296 + y5 * 1099511627776 + y6 * 281474976710656 + y7 * 72057594037927936) / 1099511627776 % 256 = y5 := by omega
      have g6 : (y0 + y1 * 256 + y2 * 65536 + y3 * 16777216 + y4 * 4294967296 + y5 * 1099511627776 + y6 * 281474976710656 + y7 * 72057594037927936) / 281474976710656 % 256 = y6 := by omega
      have g7 : (y0 + y1 * 256 + y2 * 65536 + y3 * 16777216 + y4 * 4294967296 + y5 * 1099511627776 + y6 * 281474976710656 + y7 * 72057594037927936) / 72057594037927936 % 256 = y7 := by omega
      simp [le, List.range_succ, g0, g1, g2, g3, g4, g5, g6, g7]
  have HE := hid hE
  have o0 : bits .or .u64 0 (y0 : Int) = y0 := by have := bits_join_low .u64 64 (by decide) wraps_u64 0 0 (y0 : Int) (by omega) (by decide) (by decide) (by omega) (by simp) (by omega); rw [this]; omega
  have o1 : bits .or .u64 ((y0 : Int)) ((y1 : Int) * 256) = (y0 : Int) + (y1 : Int) * 256 := u64_or8 _ _ (by omega) (by omega) (by omega) (by omega) (by omega)
  have o2 : bits .or .u64 ((y0 : Int) + (y1 : Int) * 256) ((y2 : Int) * 65536) = (y0 : Int) + (y1 : Int) * 256 + (y2 : Int) * 65536 := u64_or16 _ _ (by omega) (by omega) (by omega) (by omega) (by omega)
  have o3 : bits .or .u64 ((y0 : Int) + (y1 : Int) * 256 + (y2 : Int) * 65536) ((y3 : Int) * 16777216) = (y0 : Int) + (y1 : Int) * 256 + (y2 : Int) * 65536 + (y3 : Int) * 16777216 := u64_or24 _ _ (by omega) (by omega) (by omega) (by omega) (by omega)
  have o4 : bits .or .u64 ((y0 : Int) + (y1 : Int) * 256 + (y2 : Int) * 65536 + (y3 : Int) * 16777216) ((y4 : Int) * 4294967296) = (y0 : Int) + (y1 : Int) * 256 + (y2 : Int) * 65536 + (y3 : Int) * 16777216 + (y4 : Int) * 4294967296 := u64_or32 _ _ (by omega) (by omega) (by omega) (by omega) (by omega)
  have o5 : bits .or .u64 ((y0 : Int) + (y1 : Int) * 256 + (y2 : Int) * 65536 + (y3 : Int) * 16777216 + (y4 : Int) * 4294967296) ((y5 : Int) * 1099511627776) = (y0 : Int) + (y1 : Int) * 256 + (y2 : Int) * 65536 + (y3 : Int) * 16777216 + (y4 : Int) * 4294967296 + (y5 : Int) * 1099511627776 := u64_or40 _ _ (by omega) (by omega) (by omega) (by omega) (by omega)
  have o6 : bits .or .u64 ((y0 : Int) + (y1 : Int) * 256 + (y2 : Int) * 65536 + (y3 : Int) * 16777216 + (y4 : Int) * 4294967296 + (y5 : Int) * 1099511627776) ((y6 : Int) * 281474976710656) = (y0 : Int) + (y1 : Int) * 256 + (y2 : Int) * 65536 + (y3 : Int) * 16777216 + (y4 : Int) * 4294967296 + (y5 : Int) * 1099511627776 + (y6 : Int) * 281474976710656 := u64_or48 _ _ (by omega) (by omega) (by omega) (by omega) (by omega)
  have o7 : bits .or .u64 ((y0 : Int) + (y1 : Int) * 256 + (y2 : Int) * 65536 + (y3 : Int) * 16777216 + (y4 : Int) * 4294967296 + (y5 : Int) * 1099511627776 + (y6 : Int) * 281474976710656) ((y7 : Int) * 72057594037927936) = (y0 : Int) + (y1 : Int) * 256 + (y2 : Int) * 65536 + (y3 : Int) * 16777216 + (y4 : Int) * 4294967296 + (y5 : Int) * 1099511627776 + (y6 : Int) * 281474976710656 + (y7 : Int) * 72057594037927936 := u64_or56 _ _ (by omega) (by omega) (by omega) (by omega) (by omega)
  have d0' : w.cell? ⟨bb, a, none⟩ = some (.int .u8 (y0 : Nat)) := d0
  have hp : po a 8 = a := by simp [po]
  clear hM hE d0 e0 e1 e2 e3 e4 e5 e6 e7
  go_enter Try.func51, Try.ntmps51
  go_wp2_with (go_at_call 44; refine (none_mem bM bm _ c0).mono ?_; rintro e w' ⟨rfl, hw⟩; subst hw)
  go_quiet (first | exact Calls.quiet_of_same (width64 _) | exact Calls.quiet_of_same (part_in bm bb a 8 k _ (by omega) hk c1 ho))
  rw [hp]
  clear hp
  go_wp2
  refine wp_loop_rounds 9 ?_
  rw [rounds_succ]; go_wp2
  rw [rounds_succ]; go_wp2
  rw [rounds_succ]; go_wp2
  rw [rounds_succ]; go_wp2
  rw [rounds_succ]; go_wp2
  rw [rounds_succ]; go_wp2
  rw [rounds_succ]; go_wp2
  rw [rounds_succ]; go_wp2
  rw [rounds_succ]; go_wp2
  go_ret2
  exact ⟨y0 + y1 * 256 + y2 * 65536 + y3 * 16777216 + y4 * 4294967296 + y5 * 1099511627776 + y6 * 281474976710656 + y7 * 72057594037927936, by omega, HE.out, by simp, (Fr.refl _ _).drewN _⟩
theorem u64_any (bM bm bb k a : Nat) (lv : Value) (l : List (Nat × Nat)) (bs : List UInt8) (w : World) (hM : MemA w bM bm bb k lv l bs) (ho : a + 8 ≤ k) :
    Calls Try.prog 27 #[.pointer (some ⟨bM, 0, none⟩), .int .u32 a] w fun e w' => ∃ x : Nat, x < 18446744073709551616 ∧ (bs.drop a).take 8 = le 8 x ∧ e = .returned (.tuple #[.int .u64 x, .int .i64 0]) ∧ Fr [] w w' := by
  have H := hid (get64_any bM bm bb k a lv l bs w hM ho)
  clear hM
  go_enter Try.func27, Try.ntmps27
  go_wp2_with (go_at_call 51; refine H.out.mono ?_; rintro e w1 ⟨x, hx, h1, rfl, hF⟩)
  go_ret2
  exact ⟨x, hx, h1, rfl, hF⟩
end Go.Proofs.Ytfiaciniikcacaa
