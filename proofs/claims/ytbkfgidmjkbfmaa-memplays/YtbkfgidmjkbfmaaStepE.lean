/-
  The walk of 'step' of the statements of package mem: Lend: both memories answer alike, and stay alike.
-/
import Derived.Test.YtbkfgidmjkbfmaaStepD
namespace Go.Proofs.Ytbkfgidmjkbfmaa
open Go.RowKit Go.BigFrame
set_option linter.unusedVariables false
set_option linter.unusedSimpArgs false
set_option maxRecDepth 1000000
set_option maxHeartbeats 4000000


theorem step_lend (w0 w : World) (bM bm bb br bB bL k A X : Nat) (N : Int) (S : ByteArray) (o : Option PB) (lv : Value) (l : List (Nat × Nat)) (bs ws : List UInt8) (h : Duo w0 w bM bm bb br bB bL k o lv l bs ws l bs ws) (hA : A < 4294967296) :
    Calls Try.prog 14 #[.pointer (some ⟨bM, 0, none⟩), .pointer (some ⟨br, 0, none⟩), PB.real o, PB.ref o, .agg #[.int .i64 4, .int .u32 A, .int .i64 N, .int .u64 X, .string S]] w fun e w' => e = .returned (.bool true) ∧ TwoK w0 w' bM bm bb br bB bL k o := by
  obtain ⟨q, hq, hq2⟩ : ∃ q : Nat, IntKind.u32.wrap N = q ∧ q < 4294967296 := ⟨(N % 4294967296).toNat, by rw [IntKind.wrap_u32]; omega, by omega⟩
  have F0 : Fr [] w (w.alloc (.cells #[.int .i64 4, .int .u32 A, .int .i64 N, .int .u64 X, .string S] 42)) := (Fr.refl _ _).alloc _
  have H1 := hid (fun W (hF : Fr [] w W) => (mlend_any bM bm bb k A q lv l bs W (h.mem.fr0 hF) hA hq2).mono fun e w1 ⟨c, h1, h2⟩ => (⟨c, h1, hid (lmid_lend (h.fr0 hF) h2), lends_fr h2⟩ : ∃ c, e = Ending.returned (.int .i64 c) ∧ Hid (LMid w0 w1 bM bm bb br bB bL k o l bs ws A q true 11 c) ∧ Fr (bm :: lv.ownBlock.toList) W w1))
  have H2 := hid (fun (w1 W : World) c (hw : LMid w0 w1 bM bm bb br bB bL k o l bs ws A q true 11 c) (hF : Fr [] w1 W) => (rlend_c br bB bL k A q l bs W (by obtain ⟨_, _, hD, _⟩ := hw; exact hD.ref.fr0 hF) hA hq2).mono fun e w2 ⟨c', he, hr⟩ => (⟨by rw [he, (lmid_ref hw hF hr).1], (lmid_ref hw hF hr).2⟩ : e = Ending.returned (.int .i64 c) ∧ TwoK w0 w2 bM bm bb br bB bL k o))
  have hx := heap_alloc_new w (.cells #[.int .i64 4, .int .u32 A, .int .i64 N, .int .u64 X, .string S] 42)
  have b1 := cell_of_heap (o := 1) hx rfl
  have b2 := cell_of_heap (o := 2) hx rfl
  have hbb : w.heap.size ∉ bm :: lv.ownBlock.toList := by
    have l1 := lt_of_heap h.mem.mid.blk
    simp only [List.mem_cons, Option.mem_toList, not_or]
    refine ⟨by omega, fun e => ?_⟩
    rcases h.mem.mid.row.2 with ⟨rfl, _⟩ | ⟨g', cap, cur, rfl, _, hh, _⟩
    · cases e
    · simp only [Value.ownBlock, Option.some.injEq] at e
      have := lt_of_heap hh
      omega
  have HBB := hid hbb
  clear h hx hbb
  go_enter Try.func14, Try.ntmps14
  go_wp2_with fail
  generalize w.alloc (.cells #[.int .i64 4, .int .u32 A, .int .i64 N, .int .u64 X, .string S] 42) = W0 at *
  go_region_law (first
    | (refine step_call rfl 24 #[.tmp 120, .tmp 126] #[26, 59] rfl hs24 #[.pointer (some ⟨bM, 0, none⟩), .agg #[.int .u32 (A : Nat), .int .u32 (q : Nat)]] (by kernel_rfl) ?_; refine (H1.out _ (Fr.drew F0)).mono ?_; rintro e w1 ⟨c, rfl, hm, hFb⟩; have b1' := hFb.cell (show W0.drew.cell? _ = _ from b1) HBB.out; have b2' := hFb.cell (show W0.drew.cell? _ = _ from b2) HBB.out; refine ⟨_, rfl, ?_⟩)
    | (refine step_call rfl 48 #[.tmp 128, .tmp 134] #[30, 59] rfl he48 #[.pointer (some ⟨br, 0, none⟩), .agg #[.int .u32 (A : Nat), .int .u32 (q : Nat)]] (by kernel_rfl) ?_; refine (H2.out w1 _ c hm.out (Fr.refl _ _)).mono ?_; rintro e w2 ⟨rfl, hT⟩; refine ⟨_, rfl, ?_⟩))
  all_goals
    go_wp2
    go_ret
    exact ⟨rfl, hT⟩
end Go.Proofs.Ytbkfgidmjkbfmaa
