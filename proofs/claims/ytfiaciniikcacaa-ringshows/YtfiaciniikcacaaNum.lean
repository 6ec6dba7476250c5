/-
  The walks of the generic functions of package mem that read and write numbers: how wide they are, and what they do for no memory and for a memory that stands in the statements.
-/
import Derived.Test.YtfiaciniikcacaaMethB
namespace Go.Proofs.Ytfiaciniikcacaa
open Go.RowKit Go.BigFrame
set_option linter.unusedVariables false
set_option linter.unusedSimpArgs false
set_option maxRecDepth 1000000
set_option maxHeartbeats 4000000

theorem len16 (w : World) : Calls Try.prog 82 #[.int .u64 65535] w fun e w' => e = .returned (.int .i64 16) ∧ w' = w := by
  go_enter Try.func82, Try.ntmps82
  go_wp2
  go_ret
  exact ⟨by kernel_rfl, rfl⟩
theorem len32 (w : World) : Calls Try.prog 82 #[.int .u64 4294967295] w fun e w' => e = .returned (.int .i64 32) ∧ w' = w := by
  go_enter Try.func82, Try.ntmps82
  go_wp2
  go_ret
  exact ⟨by kernel_rfl, rfl⟩
theorem len64 (w : World) : Calls Try.prog 82 #[.int .u64 18446744073709551615] w fun e w' => e = .returned (.int .i64 64) ∧ w' = w := by
  go_enter Try.func82, Try.ntmps82
  go_wp2
  go_ret
  exact ⟨by kernel_rfl, rfl⟩
theorem width16 (w : World) : Calls Try.prog 69 #[] w fun e w' => e = .returned (.int .i64 2) ∧ w' = w := by
  go_enter Try.func69, Try.ntmps69
  go_wp2_with (go_at_call 82; refine (len16 _).mono ?_; rintro e w' ⟨rfl, rfl⟩)
  go_ret
  exact ⟨rfl, rfl⟩
theorem width32 (w : World) : Calls Try.prog 71 #[] w fun e w' => e = .returned (.int .i64 4) ∧ w' = w := by
  go_enter Try.func71, Try.ntmps71
  go_wp2_with (go_at_call 82; refine (len32 _).mono ?_; rintro e w' ⟨rfl, rfl⟩)
  go_ret
  exact ⟨rfl, rfl⟩
theorem width64 (w : World) : Calls Try.prog 70 #[] w fun e w' => e = .returned (.int .i64 8) ∧ w' = w := by
  go_enter Try.func70, Try.ntmps70
  go_wp2_with (go_at_call 82; refine (len64 _).mono ?_; rintro e w' ⟨rfl, rfl⟩)
  go_ret
  exact ⟨rfl, rfl⟩
theorem mk2 (w : World) : (Instr.makeSlice 57 (.int .i64 2) (.int .i64 2)).run Try.prog w = .ok (.slice (some ⟨w.heap.size, 0, none⟩) 2 2) (w.alloc (.cells #[.int .u8 0, .int .u8 0] 5)) :=
  (make_u8 2 (by omega) w).trans (by rw [show madeCells #[.int .u8 0] 2 = #[.int .u8 0, .int .u8 0] from by kernel_rfl])
theorem mk4 (w : World) : (Instr.makeSlice 57 (.int .i64 4) (.int .i64 4)).run Try.prog w = .ok (.slice (some ⟨w.heap.size, 0, none⟩) 4 4) (w.alloc (.cells #[.int .u8 0, .int .u8 0, .int .u8 0, .int .u8 0] 5)) :=
  (make_u8 4 (by omega) w).trans (by rw [show madeCells #[.int .u8 0] 4 = #[.int .u8 0, .int .u8 0, .int .u8 0, .int .u8 0] from by kernel_rfl])
theorem mk8 (w : World) : (Instr.makeSlice 57 (.int .i64 8) (.int .i64 8)).run Try.prog w = .ok (.slice (some ⟨w.heap.size, 0, none⟩) 8 8) (w.alloc (.cells #[.int .u8 0, .int .u8 0, .int .u8 0, .int .u8 0, .int .u8 0, .int .u8 0, .int .u8 0, .int .u8 0] 5)) :=
  (make_u8 8 (by omega) w).trans (by rw [show madeCells #[.int .u8 0] 8 = #[.int .u8 0, .int .u8 0, .int .u8 0, .int .u8 0, .int .u8 0, .int .u8 0, .int .u8 0, .int .u8 0] from by kernel_rfl])

theorem conv_lit (w : World) (bs : List UInt8) (hb : bs.length ≤ 8) : (convert 57 9 (.slice (some ⟨w.heap.size, 0, none⟩) bs.length bs.length)).run Try.prog (w.alloc (.cells (bs.map b8).toArray 5)) = .ok (.string ⟨bs.toArray⟩) (w.alloc (.cells (bs.map b8).toArray 5)) := by
  have hl := run_loadCells_list (P := Try.prog) (w.alloc (.cells (bs.map b8).toArray 5)) ⟨w.heap.size, 0, none⟩ (bs.map b8) (fun j v hj => by
    have := cell_of_heap (o := j) (heap_alloc_new w (.cells (bs.map b8).toArray 5)) (v := v) (by simpa using hj)
    by_cases hj0 : j = 0
    · subst hj0; simpa [Addr.add] using this
    · simpa [Addr.add, hj0] using this)
  simp only [List.length_map] at hl
  have e : (bs.map b8).toArray = ((bs.map (fun b => (b.toNat : Int))).map (Value.int .u8)).toArray := by simp [b8]
  have hr := run_bytesToString (P := Try.prog) (w.alloc (.cells (bs.map b8).toArray 5)) ⟨w.heap.size, 0, none⟩ bs.length bs.length (bs.map (fun b => (b.toNat : Int))) (by rw [hl, e])
  rw [run_convert_bytes_string (P := Try.prog) _ 57 9 5 _ _ _ Try.underlying57 Try.underlying5 Try.underlying9, hr]
  congr 2
  have : ∀ (l : List UInt8) (r : ByteArray), (l.map (fun b => (b.toNat : Int))).foldl (fun r n => r.push (UInt8.ofNat n.toNat)) r = ⟨r.data ++ l.toArray⟩ := by
    intro l
    induction l with
    | nil => intro r; simp
    | cons b l ih =>
      intro r
      simp only [List.map_cons, List.foldl_cons]
      rw [ih]
      simp [ByteArray.push]
  rw [this]
  show (⟨#[] ++ bs.toArray⟩ : ByteArray) = _
  rw [Array.empty_append]

theorem put32_nil (at_ : Int) (w : World) : Calls Try.prog 77 #[.pointer none, .int .u32 at_, .int .u32 1] w fun e w' => e = .returned (.int .i64 1) ∧ Fr [] w w' := by
  have hmk := mk4
  have hcv : ∀ w : World, (convert 57 9 (.slice (some ⟨w.heap.size, 0, none⟩) 4 4)).run Try.prog (w.alloc (.cells #[.int .u8 1, .int .u8 0, .int .u8 0, .int .u8 0] 5)) = .ok (.string ⟨#[1, 0, 0, 0]⟩) (w.alloc (.cells #[.int .u8 1, .int .u8 0, .int .u8 0, .int .u8 0] 5)) := fun w => conv_lit w [1, 0, 0, 0] (by decide)
  go_enter Try.func77, Try.ntmps77
  go_wp2_with (go_at_call 71; refine (width32 _).mono ?_; rintro e w' ⟨rfl, hw⟩; subst hw)
  refine wp_loop_rounds 5 ?_
  rw [rounds_succ]; go_wp2
  rw [rounds_succ]; go_wp2
  rw [rounds_succ]; go_wp2
  rw [rounds_succ]; go_wp2
  rw [rounds_succ]; go_wp2_with (go_at_call 31; refine (write_nil _ _ _).mono ?_; rintro e w1 ⟨rfl, rfl⟩)
  go_ret
  exact ⟨rfl, (Fr.refl _ _).alloc _⟩
theorem put16_nil (at_ : Int) (w : World) : Calls Try.prog 78 #[.pointer none, .int .u32 at_, .int .u16 1] w fun e w' => e = .returned (.int .i64 1) ∧ Fr [] w w' := by
  have hmk := mk2
  have hcv : ∀ w : World, (convert 57 9 (.slice (some ⟨w.heap.size, 0, none⟩) 2 2)).run Try.prog (w.alloc (.cells #[.int .u8 1, .int .u8 0] 5)) = .ok (.string ⟨#[1, 0]⟩) (w.alloc (.cells #[.int .u8 1, .int .u8 0] 5)) := fun w => conv_lit w [1, 0] (by decide)
  go_enter Try.func78, Try.ntmps78
  go_wp2_with (go_at_call 69; refine (width16 _).mono ?_; rintro e w' ⟨rfl, hw⟩; subst hw)
  refine wp_loop_rounds 3 ?_
  rw [rounds_succ]; go_wp2
  rw [rounds_succ]; go_wp2
  rw [rounds_succ]; go_wp2_with (go_at_call 31; refine (write_nil _ _ _).mono ?_; rintro e w1 ⟨rfl, rfl⟩)
  go_ret
  exact ⟨rfl, (Fr.refl _ _).alloc _⟩
theorem put64_nil (at_ : Int) (w : World) : Calls Try.prog 76 #[.pointer none, .int .u32 at_, .int .u64 1] w fun e w' => e = .returned (.int .i64 1) ∧ Fr [] w w' := by
  have hmk := mk8
  have hcv : ∀ w : World, (convert 57 9 (.slice (some ⟨w.heap.size, 0, none⟩) 8 8)).run Try.prog (w.alloc (.cells #[.int .u8 1, .int .u8 0, .int .u8 0, .int .u8 0, .int .u8 0, .int .u8 0, .int .u8 0, .int .u8 0] 5)) = .ok (.string ⟨#[1, 0, 0, 0, 0, 0, 0, 0]⟩) (w.alloc (.cells #[.int .u8 1, .int .u8 0, .int .u8 0, .int .u8 0, .int .u8 0, .int .u8 0, .int .u8 0, .int .u8 0] 5)) := fun w => conv_lit w [1, 0, 0, 0, 0, 0, 0, 0] (by decide)
  go_enter Try.func76, Try.ntmps76
  go_wp2_with (go_at_call 70; refine (width64 _).mono ?_; rintro e w' ⟨rfl, hw⟩; subst hw)
  refine wp_loop_rounds 9 ?_
  rw [rounds_succ]; go_wp2
  rw [rounds_succ]; go_wp2
  rw [rounds_succ]; go_wp2
  rw [rounds_succ]; go_wp2
  rw [rounds_succ]; go_wp2
  rw [rounds_succ]; go_wp2
  rw [rounds_succ]; go_wp2
  rw [rounds_succ]; go_wp2
  rw [rounds_succ]; go_wp2_with (go_at_call 31; refine (write_nil _ _ _).mono ?_; rintro e w1 ⟨rfl, rfl⟩)
  go_ret
  exact ⟨rfl, (Fr.refl _ _).alloc _⟩
/-- The number 258 put at place 2 of a memory that lends nothing. -/
theorem put32_258 (bM bm bb : Nat) (bs : List UInt8) (w : World) (hM : MemA w bM bm bb 16 (.slice none 0 0) [] bs) :
    Calls Try.prog 77 #[.pointer (some ⟨bM, 0, none⟩), .int .u32 2, .int .u32 258] w fun e w' => e = .returned (.int .i64 0) ∧ MemA w' bM bm bb 16 (.slice none 0 0) [] (bs.take 2 ++ [2, 1, 0, 0] ++ bs.drop 6) ∧ Fr [bb] w w' := by
  have hmk := mk4
  have hcv : ∀ w : World, (convert 57 9 (.slice (some ⟨w.heap.size, 0, none⟩) 4 4)).run Try.prog (w.alloc (.cells #[.int .u8 2, .int .u8 1, .int .u8 0, .int .u8 0] 5)) = .ok (.string ⟨#[2, 1, 0, 0]⟩) (w.alloc (.cells #[.int .u8 2, .int .u8 1, .int .u8 0, .int .u8 0] 5)) := fun w => conv_lit w [2, 1, 0, 0] (by decide)
  have HM := hid hM
  clear hM
  have H := hid (fun W (hF : Fr [] w W) => write_ok bM bm bb 16 2 _ _ bs ⟨#[2, 1, 0, 0]⟩ W (HM.out.fr0 hF) (by decide) (fun ⟨b, _, _, p, hp, _⟩ => by simp at hp))
  go_enter Try.func77, Try.ntmps77
  go_wp2_with (go_at_call 71; refine (width32 _).mono ?_; rintro e w' ⟨rfl, hw⟩; subst hw)
  refine wp_loop_rounds 5 ?_
  rw [rounds_succ]; go_wp2
  rw [rounds_succ]; go_wp2
  rw [rounds_succ]; go_wp2
  rw [rounds_succ]; go_wp2
  rw [rounds_succ]; go_wp2_with (go_at_call 31; refine (H.out _ ((Fr.refl _ _).alloc _)).mono ?_; rintro e w1 ⟨rfl, h1, h2⟩)
  go_ret
  exact ⟨rfl, h1, ((Fr.refl [bb] _).alloc _).trans h2 (fun t ht => .inl ht)⟩
end Go.Proofs.Ytfiaciniikcacaa
