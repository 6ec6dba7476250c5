/-
  The walk of 'step' of the statements of package mem: Put, Give and Take of the pools: both answer alike, and stay alike.
-/
import Derived.Test.YtbkfgidmjkbfmaaStepI
namespace Go.Proofs.Ytbkfgidmjkbfmaa
open Go.RowKit Go.BigFrame
set_option linter.unusedVariables false
set_option linter.unusedSimpArgs false
set_option maxRecDepth 1000000
set_option maxHeartbeats 4000000


theorem step_free (w0 w : World) (bM bm bb br bB bL k A X : Nat) (N : Int) (S : ByteArray) (b : PB) (lv : Value) (l : List (Nat × Nat)) (bs ws : List UInt8) (h : Duo w0 w bM bm bb br bB bL k (some b) lv l bs ws l bs ws) (hA : A < 4294967296) :
    Calls Try.prog 14 #[.pointer (some ⟨bM, 0, none⟩), .pointer (some ⟨br, 0, none⟩), .pointer (some ⟨b.bp, 0, none⟩), .pointer (some ⟨b.bq, 0, none⟩), .agg #[.int .i64 8, .int .u32 A, .int .i64 N, .int .u64 X, .string S]] w fun e w' => e = .returned (.bool true) ∧ TwoK w0 w' bM bm bb br bB bL k (some b) := by
  have F0 : Fr [] w (w.alloc (.cells #[.int .i64 8, .int .u32 A, .int .i64 N, .int .u64 X, .string S] 42)) := (Fr.refl _ _).alloc _
  have H1 := hid (fun W (hF : Fr [] w W) => put_real w0 w W bM bm bb br bB bL k A b lv l bs ws h hF hA)
  have H2 := hid (fun (w1 W : World) c (hw : FMid w0 w1 bM bm bb br bB bL k b lv l bs ws A c) (hF : Fr [] w1 W) => put_ref w0 w1 W bM bm bb br bB bL k A c b lv l bs ws hw hF hA)
  have hx := heap_alloc_new w (.cells #[.int .i64 8, .int .u32 A, .int .i64 N, .int .u64 X, .string S] 42)
  have b1 := cell_of_heap (o := 1) hx rfl
  have hbb : w.heap.size ∉ [b.bw] := by
    have l1 := lt_of_heap h.mem.mid.blk
    have l2 := lt_of_heap (h.pool b rfl).who
    simp
    omega
  have HBB := hid hbb
  clear h hx hbb
  go_enter Try.func14, Try.ntmps14
  go_wp2_with fail
  generalize w.alloc (.cells #[.int .i64 8, .int .u32 A, .int .i64 N, .int .u64 X, .string S] 42) = W0 at *
  go_region_law (first
    | (refine step_call rfl 29 #[.tmp 197, .tmp 199] #[33, 22] rfl hs29 #[.pointer (some ⟨b.bp, 0, none⟩), .int .u32 (A : Nat)] (by kernel_rfl) ?_; refine (H1.out _ (Fr.drew F0)).mono ?_; rintro e w1 ⟨c, rfl, hm, hFb⟩; have b1' := hFb.cell (show W0.drew.cell? _ = _ from b1) HBB.out; refine ⟨_, rfl, ?_⟩)
    | (refine step_call rfl 52 #[.tmp 201, .tmp 203, .const (.int .u8 1), .const (.int .u8 0)] #[36, 22, 5, 5] rfl hs52 #[.pointer (some ⟨b.bq, 0, none⟩), .int .u32 (A : Nat), .int .u8 1, .int .u8 0] (by kernel_rfl) ?_; refine (H2.out w1 _ c hm.out (Fr.refl _ _)).mono ?_; rintro e w2 ⟨rfl, hT⟩; refine ⟨_, rfl, ?_⟩))
  all_goals
    go_wp2
    go_ret
    exact ⟨rfl, hT⟩

theorem step_give (w0 w : World) (bM bm bb br bB bL k A X : Nat) (N : Int) (S : ByteArray) (b : PB) (lv : Value) (l : List (Nat × Nat)) (bs ws : List UInt8) (h : Duo w0 w bM bm bb br bB bL k (some b) lv l bs ws l bs ws) (hA : A < 4294967296) :
    Calls Try.prog 14 #[.pointer (some ⟨bM, 0, none⟩), .pointer (some ⟨br, 0, none⟩), .pointer (some ⟨b.bp, 0, none⟩), .pointer (some ⟨b.bq, 0, none⟩), .agg #[.int .i64 9, .int .u32 A, .int .i64 N, .int .u64 X, .string S]] w fun e w' => e = .returned (.bool true) ∧ TwoK w0 w' bM bm bb br bB bL k (some b) := by
  have F0 : Fr [] w (w.alloc (.cells #[.int .i64 9, .int .u32 A, .int .i64 N, .int .u64 X, .string S] 42)) := (Fr.refl _ _).alloc _
  have H1 := hid (fun W (hF : Fr [] w W) => give_real w0 w W bM bm bb br bB bL k A b lv l bs ws h hF hA)
  have H2 := hid (fun (w1 W : World) c (hw : GMid w0 w1 bM bm bb br bB bL k b l bs ws A 1 2 true 11 c) (hF : Fr [] w1 W) => give_ref w0 w1 W bM bm bb br bB bL k A c b l bs ws hw hF hA)
  have hx := heap_alloc_new w (.cells #[.int .i64 9, .int .u32 A, .int .i64 N, .int .u64 X, .string S] 42)
  have b1 := cell_of_heap (o := 1) hx rfl
  have hbb : w.heap.size ∉ b.bw :: bm :: lv.ownBlock.toList := by
    have l1 := lt_of_heap h.mem.mid.blk
    have l2 := lt_of_heap (h.pool b rfl).who
    simp only [List.mem_cons, Option.mem_toList, not_or]
    refine ⟨by omega, by omega, fun e => ?_⟩
    rcases h.mem.mid.row.2 with ⟨rfl, _⟩ | ⟨g', cap, cur, rfl, _, hh, _⟩
    · cases e
    · simp only [Value.ownBlock, Option.some.injEq] at e
      have := lt_of_heap hh
      omega
  have HBB := hid hbb
  clear h hx hbb
  go_enter Try.func14, Try.ntmps14
  go_wp2_with fail
  generalize w.alloc (.cells #[.int .i64 9, .int .u32 A, .int .i64 N, .int .u64 X, .string S] 42) = W0 at *
  go_region_law (first
    | (refine step_call rfl 30 #[.tmp 208, .tmp 210] #[33, 22] rfl hs30 #[.pointer (some ⟨b.bp, 0, none⟩), .int .u32 (A : Nat)] (by kernel_rfl) ?_; refine (H1.out _ (Fr.drew F0)).mono ?_; rintro e w1 ⟨c, rfl, hm, hFb⟩; have b1' := hFb.cell (show W0.drew.cell? _ = _ from b1) HBB.out; refine ⟨_, rfl, ?_⟩)
    | (refine step_call rfl 52 #[.tmp 212, .tmp 214, .const (.int .u8 1), .const (.int .u8 2)] #[36, 22, 5, 5] rfl hs52 #[.pointer (some ⟨b.bq, 0, none⟩), .int .u32 (A : Nat), .int .u8 1, .int .u8 2] (by kernel_rfl) ?_; refine (H2.out w1 _ c hm.out (Fr.refl _ _)).mono ?_; rintro e w2 ⟨rfl, hT⟩; refine ⟨_, rfl, ?_⟩))
  all_goals
    go_wp2
    go_ret
    exact ⟨rfl, hT⟩

theorem step_take (w0 w : World) (bM bm bb br bB bL k A X : Nat) (N : Int) (S : ByteArray) (b : PB) (lv : Value) (l : List (Nat × Nat)) (bs ws : List UInt8) (h : Duo w0 w bM bm bb br bB bL k (some b) lv l bs ws l bs ws) (hA : A < 4294967296) :
    Calls Try.prog 14 #[.pointer (some ⟨bM, 0, none⟩), .pointer (some ⟨br, 0, none⟩), .pointer (some ⟨b.bp, 0, none⟩), .pointer (some ⟨b.bq, 0, none⟩), .agg #[.int .i64 10, .int .u32 A, .int .i64 N, .int .u64 X, .string S]] w fun e w' => e = .returned (.bool true) ∧ TwoK w0 w' bM bm bb br bB bL k (some b) := by
  have F0 : Fr [] w (w.alloc (.cells #[.int .i64 10, .int .u32 A, .int .i64 N, .int .u64 X, .string S] 42)) := (Fr.refl _ _).alloc _
  have H1 := hid (fun W (hF : Fr [] w W) => take_real w0 w W bM bm bb br bB bL k A b lv l bs ws h hF hA)
  have H2 := hid (fun (w1 W : World) c (hw : GMid w0 w1 bM bm bb br bB bL k b l bs ws A 2 1 false 12 c) (hF : Fr [] w1 W) => take_ref w0 w1 W bM bm bb br bB bL k A c b l bs ws hw hF hA)
  have hx := heap_alloc_new w (.cells #[.int .i64 10, .int .u32 A, .int .i64 N, .int .u64 X, .string S] 42)
  have b1 := cell_of_heap (o := 1) hx rfl
  have hbb : w.heap.size ∉ b.bw :: bm :: lv.ownBlock.toList := by
    have l1 := lt_of_heap h.mem.mid.blk
    have l2 := lt_of_heap (h.pool b rfl).who
    simp only [List.mem_cons, Option.mem_toList, not_or]
    refine ⟨by omega, by omega, fun e => ?_⟩
    rcases h.mem.mid.row.2 with ⟨rfl, _⟩ | ⟨g', cap, cur, rfl, _, hh, _⟩
    · cases e
    · simp only [Value.ownBlock, Option.some.injEq] at e
      have := lt_of_heap hh
      omega
  have HBB := hid hbb
  clear h hx hbb
  go_enter Try.func14, Try.ntmps14
  go_wp2_with fail
  generalize w.alloc (.cells #[.int .i64 10, .int .u32 A, .int .i64 N, .int .u64 X, .string S] 42) = W0 at *
  go_region_law (first
    | (refine step_call rfl 31 #[.tmp 219, .tmp 221] #[33, 22] rfl hs31 #[.pointer (some ⟨b.bp, 0, none⟩), .int .u32 (A : Nat)] (by kernel_rfl) ?_; refine (H1.out _ (Fr.drew F0)).mono ?_; rintro e w1 ⟨c, rfl, hm, hFb⟩; have b1' := hFb.cell (show W0.drew.cell? _ = _ from b1) HBB.out; refine ⟨_, rfl, ?_⟩)
    | (refine step_call rfl 52 #[.tmp 223, .tmp 225, .const (.int .u8 2), .const (.int .u8 1)] #[36, 22, 5, 5] rfl hs52 #[.pointer (some ⟨b.bq, 0, none⟩), .int .u32 (A : Nat), .int .u8 2, .int .u8 1] (by kernel_rfl) ?_; refine (H2.out w1 _ c hm.out (Fr.refl _ _)).mono ?_; rintro e w2 ⟨rfl, hT⟩; refine ⟨_, rfl, ?_⟩))
  all_goals
    go_wp2
    go_ret
    exact ⟨rfl, hT⟩

/-- No pool: nothing is asked of it. -/
theorem step_none (w0 w : World) (bM bm bb br bB bL k A X : Nat) (D N : Int) (S : ByteArray) (lv : Value) (l : List (Nat × Nat)) (bs ws : List UInt8) (h : Duo w0 w bM bm bb br bB bL k none lv l bs ws l bs ws) (hD : ¬ (0 ≤ D ∧ D ≤ 6)) :
    Calls Try.prog 14 #[.pointer (some ⟨bM, 0, none⟩), .pointer (some ⟨br, 0, none⟩), .pointer none, .pointer none, .agg #[.int .i64 D, .int .u32 A, .int .i64 N, .int .u64 X, .string S]] w fun e w' => e = .returned (.bool true) ∧ TwoK w0 w' bM bm bb br bB bL k none := by
  have HT := hid (show TwoK w0 (w.alloc (.cells #[.int .i64 D, .int .u32 A, .int .i64 N, .int .u64 X, .string S] 42)) bM bm bb br bB bL k none from ⟨_, _, _, _, h.fr0 ((Fr.refl _ _).alloc _)⟩)
  have d0 : (D == 0) = false := by simp; omega
  have d1 : (D == 1) = false := by simp; omega
  have d2 : (D == 2) = false := by simp; omega
  have d3 : (D == 3) = false := by simp; omega
  have d4 : (D == 4) = false := by simp; omega
  have d5 : (D == 5) = false := by simp; omega
  have d6 : (D == 6) = false := by simp; omega
  clear h
  go_enter Try.func14, Try.ntmps14
  go_wp2
  go_ret
  exact ⟨rfl, HT.out⟩
theorem step_else (w0 w : World) (bM bm bb br bB bL k A X : Nat) (D N : Int) (S : ByteArray) (b : PB) (lv : Value) (l : List (Nat × Nat)) (bs ws : List UInt8) (h : Duo w0 w bM bm bb br bB bL k (some b) lv l bs ws l bs ws) (hD : ¬ (0 ≤ D ∧ D ≤ 10)) :
    Calls Try.prog 14 #[.pointer (some ⟨bM, 0, none⟩), .pointer (some ⟨br, 0, none⟩), .pointer (some ⟨b.bp, 0, none⟩), .pointer (some ⟨b.bq, 0, none⟩), .agg #[.int .i64 D, .int .u32 A, .int .i64 N, .int .u64 X, .string S]] w fun e w' => e = .returned (.bool true) ∧ TwoK w0 w' bM bm bb br bB bL k (some b) := by
  have HT := hid (show TwoK w0 (w.alloc (.cells #[.int .i64 D, .int .u32 A, .int .i64 N, .int .u64 X, .string S] 42)) bM bm bb br bB bL k (some b) from ⟨_, _, _, _, h.fr0 ((Fr.refl _ _).alloc _)⟩)
  have d0 : (D == 0) = false := by simp; omega
  have d1 : (D == 1) = false := by simp; omega
  have d2 : (D == 2) = false := by simp; omega
  have d3 : (D == 3) = false := by simp; omega
  have d4 : (D == 4) = false := by simp; omega
  have d5 : (D == 5) = false := by simp; omega
  have d6 : (D == 6) = false := by simp; omega
  have d7 : (D == 7) = false := by simp; omega
  have d8 : (D == 8) = false := by simp; omega
  have d9 : (D == 9) = false := by simp; omega
  have d10 : (D == 10) = false := by simp; omega
  clear h
  go_enter Try.func14, Try.ntmps14
  go_wp2
  go_ret
  exact ⟨rfl, HT.out⟩
end Go.Proofs.Ytbkfgidmjkbfmaa
