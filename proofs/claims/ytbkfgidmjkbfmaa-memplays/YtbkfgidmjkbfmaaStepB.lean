/-
  The walk of 'step' of the statements of package mem: Write: both memories answer alike, and stay alike.
-/
import Derived.Test.YtbkfgidmjkbfmaaStepA
namespace Go.Proofs.Ytbkfgidmjkbfmaa
open Go.RowKit Go.BigFrame
set_option linter.unusedVariables false
set_option linter.unusedSimpArgs false
set_option maxRecDepth 1000000
set_option maxHeartbeats 4000000

theorem step_write (w0 w : World) (bM bm bb br bB bL k A X : Nat) (N : Int) (S : ByteArray) (o : Option PB) (lv : Value) (l : List (Nat × Nat)) (bs ws : List UInt8) (h : Duo w0 w bM bm bb br bB bL k o lv l bs ws l bs ws) (hA : A < 4294967296) (hS : S.size ≤ maxLen) :
    Calls Try.prog 14 #[.pointer (some ⟨bM, 0, none⟩), .pointer (some ⟨br, 0, none⟩), PB.real o, PB.ref o, .agg #[.int .i64 2, .int .u32 A, .int .i64 N, .int .u64 X, .string S]] w fun e w' => e = .returned (.bool true) ∧ TwoK w0 w' bM bm bb br bB bL k o := by
  have F0 : Fr [] w (w.alloc (.cells #[.int .i64 2, .int .u32 A, .int .i64 N, .int .u64 X, .string S] 42)) := (Fr.refl _ _).alloc _
  have H1 := hid (fun W (hF : Fr [] w W) => (write_any bM bm bb k A lv l bs S W (h.mem.fr0 hF) hA hS).mono fun e w1 ⟨c, h1, h2⟩ => (⟨c, h1, hid (wmid_write (h.fr0 hF) h2), writes_fr h2⟩ : ∃ c, e = Ending.returned (.int .i64 c) ∧ Hid (WMid w0 w1 bM bm bb br bB bL k o lv l bs ws A S false 11 c) ∧ Fr [bb] W w1))
  have H2 := hid (fun (w1 W : World) c (hw : WMid w0 w1 bM bm bb br bB bL k o lv l bs ws A S false 11 c) (hF : Fr [] w1 W) => (rwrite_any br bB bL k A S l bs W (by obtain ⟨bs', hD, _⟩ := hw; exact hD.ref.fr0 hF) hA hS).mono fun e w2 hr => wmid_ref hw hF hr)
  have hx := heap_alloc_new w (.cells #[.int .i64 2, .int .u32 A, .int .i64 N, .int .u64 X, .string S] 42)
  have b1 := cell_of_heap (o := 1) hx rfl
  have b4 := cell_of_heap (o := 4) hx rfl
  have hbb : w.heap.size ≠ bb := by have := lt_of_heap h.mem.bytes; omega
  clear h hS hx
  go_enter Try.func14, Try.ntmps14
  go_wp2_with fail
  generalize w.alloc (.cells #[.int .i64 2, .int .u32 A, .int .i64 N, .int .u64 X, .string S] 42) = W0 at *
  go_region_law (first
    | (refine step_call rfl 22 #[.tmp 84, .tmp 86, .tmp 88] #[26, 22, 9] rfl he22 #[.pointer (some ⟨bM, 0, none⟩), .int .u32 (A : Nat), .string S] (by kernel_rfl) ?_; refine (H1.out _ (Fr.drew F0)).mono ?_; rintro e w1 ⟨c, rfl, hm, hFb⟩; have b1' := hFb.cell (show W0.drew.cell? _ = _ from b1) (by simpa using hbb); have b4' := hFb.cell (show W0.drew.cell? _ = _ from b4) (by simpa using hbb); refine ⟨_, rfl, ?_⟩)
    | (refine step_call rfl 46 #[.tmp 90, .tmp 92, .tmp 94] #[30, 22, 9] rfl he46 #[.pointer (some ⟨br, 0, none⟩), .int .u32 (A : Nat), .string S] (by kernel_rfl) ?_; refine (H2.out w1 _ c hm.out (Fr.refl _ _)).mono ?_; rintro e w2 ⟨rfl, hT⟩; refine ⟨_, rfl, ?_⟩))
  all_goals
    go_wp2
    go_ret
    exact ⟨rfl, hT⟩
end Go.Proofs.Ytbkfgidmjkbfmaa
