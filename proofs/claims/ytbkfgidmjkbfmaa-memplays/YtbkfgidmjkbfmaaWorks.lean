/-
  The walk of 'works' of the statements: a small memory of which some is lent does as the document's examples say: it answers true.
-/
import Derived.Test.YtbkfgidmjkbfmaaPool
namespace Go.Proofs.Ytbkfgidmjkbfmaa
open Go.RowKit Go.BigFrame
set_option linter.unusedVariables false
set_option linter.unusedSimpArgs false
set_option maxRecDepth 1000000
set_option maxHeartbeats 4000000

theorem get16_258 (bM bm bb : Nat) (lv : Value) (l : List (Nat × Nat)) (bs : List UInt8) (w : World) (hM : MemA w bM bm bb 16 lv l bs) (h2 : bs[2]? = some 2) (h3 : bs[3]? = some 1) :
    Calls Try.prog 62 #[.pointer (some ⟨bM, 0, none⟩), .int .u32 2] w fun e w' => e = .returned (.tuple #[.int .u16 258, .int .i64 0]) ∧ Fr [] w w' := by
  have c0 := hM.cp
  have c1 := hM.mid.c0
  have d2 : w.cell? ⟨bb, 2, none⟩ = some (.int .u8 2) := cell_of_heap hM.bytes (by simp [h2]; rfl)
  have d3 : w.cell? ⟨bb, 3, none⟩ = some (.int .u8 1) := cell_of_heap hM.bytes (by simp [h3]; rfl)
  have hp : po 2 2 = 2 := rfl
  clear hM h2 h3
  go_enter Try.func62, Try.ntmps62
  go_wp2_with (go_at_call 39; refine (none_mem bM bm _ c0).mono ?_; rintro e w' ⟨rfl, hw⟩; subst hw)
  go_quiet (first | exact Calls.quiet_of_same (width16 _) | exact Calls.quiet_of_same (part_in bm bb 2 2 16 _ (by omega) (by omega) c1 (by omega)))
  rw [hp]
  clear hp
  go_wp2
  refine wp_loop_rounds 3 ?_
  rw [rounds_succ]; go_wp2
  rw [rounds_succ]; go_wp2
  rw [rounds_succ]; go_wp2
  go_ret2
  exact ⟨rfl, (Fr.refl _ _).drewN _⟩
theorem u16_258 (bM bm bb : Nat) (lv : Value) (l : List (Nat × Nat)) (bs : List UInt8) (w : World) (hM : MemA w bM bm bb 16 lv l bs) (h2 : bs[2]? = some 2) (h3 : bs[3]? = some 1) :
    Calls Try.prog 32 #[.pointer (some ⟨bM, 0, none⟩), .int .u32 2] w fun e w' => e = .returned (.tuple #[.int .u16 258, .int .i64 0]) ∧ Fr [] w w' := by
  have H := hid (get16_258 bM bm bb lv l bs w hM h2 h3)
  clear hM h2 h3
  go_enter Try.func32, Try.ntmps32
  go_wp2_with (go_at_call 62; refine H.out.mono ?_; rintro e w1 ⟨rfl, hF⟩)
  go_ret2
  exact ⟨rfl, hF⟩
theorem mput32_258 (bM bm bb : Nat) (bs : List UInt8) (w : World) (hM : MemA w bM bm bb 16 (.slice none 0 0) [] bs) :
    Calls Try.prog 37 #[.pointer (some ⟨bM, 0, none⟩), .int .u32 2, .int .u32 258] w fun e w' => e = .returned (.int .i64 0) ∧ MemA w' bM bm bb 16 (.slice none 0 0) [] (bs.take 2 ++ [2, 1, 0, 0] ++ bs.drop 6) ∧ Fr [bb] w w' := by
  have H := hid (put32_258 bM bm bb bs w hM)
  clear hM
  go_enter Try.func37, Try.ntmps37
  go_wp2_with (go_at_call 67; refine H.out.mono ?_; rintro e w1 ⟨rfl, h1, h2⟩)
  go_ret
  exact ⟨rfl, h1, h2⟩

/-- A new memory, as New leaves it. -/
theorem new_mem (n : Nat) (h1 : 1 ≤ n) (h2 : n ≤ 1048576) (w : World) : Calls Try.prog 9 #[.int .i64 n] w fun e w' => e = .returned (.tuple #[.pointer (some ⟨w.heap.size + 1 + 1, 0, none⟩), .int .i64 0]) ∧
    MemA w' (w.heap.size + 1 + 1) (w.heap.size + 1) w.heap.size n (.slice none 0 0) [] (List.replicate n 0) ∧ Fr [] w w' :=
  (new_any n h1 h2 w).mono fun e w' ⟨he, hw⟩ => ⟨he, by
    subst hw
    refine ⟨heap_at _ _ (by simp), ⟨(Below.heap_alloc _ _ _ (by simp)).trans (heap_at _ _ (by simp)), World.ownsRow_nil _ _ _ _, Canon.nil _, h2⟩, ?_, by simp⟩
    refine (Below.heap_alloc _ _ _ (by simp; omega)).trans ((Below.heap_alloc _ _ _ (by simp)).trans ?_)
    rw [← madeBytes]
    exact heap_alloc_new w _, hw ▸ (((Fr.refl _ _).alloc _).alloc _).alloc _⟩

theorem works_lend {w w' : World} {bm bb : Nat} {lv : Value} {c : Int} (h : Lends w w' bm bb 16 4 8 lv [] c) : c = 0 ∧ ∃ lv', MemB w' bm bb 16 lv' [(4, 8)] ∧ (∀ g, lv'.ownBlock = some g → lo w lv ≤ g) ∧ Fr (bm :: lv.ownBlock.toList) w w' := by
  rcases h with ⟨_, h2, _⟩ | ⟨_, _, _, ⟨b, _, _, i, hi, _⟩, _⟩ | ⟨h1, _, _, _, lv', l', h5, h6, hL, h7⟩
  · omega
  · simp at hi
  · refine ⟨h1, lv', ?_, hL, h7⟩
    have : l' = [(4, 8)] := Canon.unique h5.can (Canon.single (by omega) (by omega)) (fun b => by
      rw [h6, In.single]
      exact ⟨fun h => h.elim (fun ⟨i, hi, _⟩ => by simp at hi) (fun h => h), .inr⟩)
    rw [this] at h5; exact h5
theorem works_back {w w' : World} {bm bb : Nat} {lv : Value} {c : Int} (h : Backs w w' bm bb 16 6 2 lv [(4, 8)] c) : c = 0 ∧ ∃ lv', MemB w' bm bb 16 lv' [(4, 2), (8, 4)] ∧ (∀ g, lv'.ownBlock = some g → lo w lv ≤ g) ∧ Fr (bm :: lv.ownBlock.toList) w w' := by
  rcases h with ⟨_, h2, _⟩ | ⟨_, _, _, h4, _⟩ | ⟨h1, _, _, _, lv', l', h5, h6, hL, h7⟩
  · omega
  · exact absurd (fun b (h1 : 6 ≤ b) (h2 : b < 6 + 2) => In.single.2 (by omega)) h4
  · refine ⟨h1, lv', ?_, hL, h7⟩
    have hc : Canon [(4, 2), (8, 4)] 16 := (Canon.single (x := 4) (y := 2) (by omega) (by omega)).append (Canon.single (x := 8) (y := 4) (by omega) (by omega)) (fun i j hi hj => by simp at hi hj; subst hi; subst hj; decide)
    have : l' = [(4, 2), (8, 4)] := Canon.unique h5.can hc (fun b => by
      rw [h6, In.single, show ([(4, 2), (8, 4)] : List (Nat × Nat)) = [(4, 2)] ++ [(8, 4)] from rfl, In.append, In.single, In.single]; omega)
    rw [this] at h5; exact h5
theorem works_any (w : World) : Calls Try.prog 8 #[] w fun e w' => e = .returned (.bool true) ∧ Fr [] w w' := by
  go_enter Try.func8, Try.ntmps8
  go_wp2_with fail
  refine (new_mem 16 (by omega) (by omega) w).mono ?_
  rintro e w1 ⟨rfl, hM1, hF1⟩
  generalize hbM : w.heap.size + 1 + 1 = bM at *
  generalize hbm : w.heap.size + 1 = bm at *
  generalize hbb : w.heap.size = bb at *
  have lo1 : bb ≤ bM := by omega
  have lo2 : bb ≤ bm := by omega
  have HB := hid hbb
  clear hbM hbm hbb
  have H2 := hid (mput32_258 bM bm bb _ w1 hM1)
  clear hM1
  go_wp2_with fail
  refine H2.out.mono ?_
  rintro e w2 ⟨rfl, hM2, hF2⟩
  clear H2
  have H3 := hid (u16_258 bM bm bb _ _ _ w2 hM2 (by decide) (by decide))
  have HM2 := hid hM2
  clear hM2
  go_wp2_with fail
  refine H3.out.mono ?_
  rintro e w3 ⟨rfl, hF3⟩
  clear H3
  have H4 := hid (mlend_any bM bm bb 16 4 8 _ _ _ w3 (HM2.out.fr0 hF3) (by omega) (by omega))
  go_wp2_with fail
  refine H4.out.mono ?_
  rintro e w4 ⟨c4, rfl, hL4⟩
  clear H4
  obtain ⟨rfl, lv4, hM4, hO4, hF4⟩ := works_lend hL4
  have HO4 := hid hO4
  clear hO4
  have HM4 := hid ((HM2.out.fr0 hF3).mid' hM4 hF4)
  clear hL4 hM4
  have H5 := hid (write_lent bM bm bb 16 3 lv4 _ _ ⟨#[97, 98]⟩ w4 HM4.out (by decide) ⟨4, by omega, by decide, by rw [In.single]; omega⟩)
  go_wp2_with fail
  refine H5.out.mono ?_
  rintro e w5 ⟨rfl, hF5⟩
  clear H5
  have H6 := hid (device_ok bM bm bb 16 4 lv4 _ _ ⟨#[120]⟩ w5 (HM4.out.fr0 hF5) (by decide) (fun b h1 h2 => by rw [In.single]; have : b < 4 + 1 := h2; omega))
  go_wp2_with fail
  refine H6.out.mono ?_
  rintro e w6 ⟨rfl, hM6, hF6⟩
  clear H6
  have HM6 := hid hM6
  clear hM6
  have H7 := hid (mback_any bM bm bb 16 6 2 _ _ _ w6 HM6.out (by omega) (by omega))
  go_wp2_with fail
  refine H7.out.mono ?_
  rintro e w7 ⟨c7, rfl, hL7⟩
  clear H7
  obtain ⟨rfl, lv7, hM7, hO7, hF7⟩ := works_back hL7
  clear hO7
  have HM7 := hid (HM6.out.mid' hM7 hF7)
  have HLV := hid hF7
  clear hL7 hM7
  have H8 := hid (lent_any bM bm bb 16 lv7 _ _ w7 HM7.out)
  go_wp2_with fail
  refine H8.out.mono ?_
  rintro e w8 ⟨v8, rfl, hR8, hO8, hF8⟩
  clear hO8
  clear H8
  obtain ⟨g8, cap8, rfl, hc8⟩ := hR8.slice (by decide)
  have HR8 := hid hR8
  clear hR8
  have H9 := hid (newPool_ok bM bm bb 16 12 2 2 lv7 _ _ w8 (HM7.out.fr0 hF8) (by omega) (by omega) (by omega) (by omega) (by omega))
  go_wp2_with fail
  refine H9.out.mono ?_
  rintro e w9 ⟨bp, bw, rfl, hP9, hb1, hb2, hF9⟩
  clear H9
  have H10 := hid (get_hit bp bm 12 2 bw 0 _ w9 hP9 (by decide) (by decide) (by decide) (fun j h => absurd h (by omega)) (by omega) (by omega))
  clear hP9
  go_wp2_with fail
  refine H10.out.mono ?_
  rintro e w10 ⟨rfl, hP10, hF10⟩
  clear H10
  have h11 := left_any bp bm 12 2 bw _ w10 hP10 (by decide)
  rw [show frees ((List.replicate 2 0).set 0 1) = 1 from by decide] at h11
  have H11 := hid h11
  clear h11
  have r8 := ownsRow.rowAt ((HR8.out.fr hF9 (by simp)).fr hF10 (fun g hg => by simp [Value.ownBlock] at hg; have := lt_of_heap (show w8.heap[g8]? = _ from HR8.out.blk.choose_spec.1); simp; omega)) rfl 1 (by decide)
  go_wp2_with fail
  refine H11.out.mono ?_
  rintro e w11 ⟨rfl, hw11⟩
  subst hw11
  go_wp2
  go_ret
  refine ⟨rfl, ?_⟩
  have hB := HB.out
  have f2 : Fr [] w w2 := hF1.trans hF2 (fun t ht => by simp at ht; subst ht; exact .inr (by omega))
  have f3 : Fr [] w w3 := f2.trans0 hF3
  have f4 : Fr [] w w4 := f3.trans hF4 (fun t ht => by simp [Value.ownBlock] at ht; subst ht; exact .inr (by omega))
  have f5 : Fr [] w w5 := f4.trans0 hF5
  have f6 : Fr [] w w6 := f5.trans hF6 (fun t ht => by simp at ht; subst ht; exact .inr (by omega))
  have f7 : Fr [] w w7 := f6.trans hF7 (fun t ht => by
    simp at ht
    rcases ht with rfl | ht
    · exact .inr (by omega)
    · have h1 := HO4.out t ht; have h2 := f3.size; refine .inr ?_; simp [lo, Value.ownBlock] at h1; omega)
  have f9 : Fr [] w w9 := (f7.trans0 hF8).trans0 hF9
  have h8 : w.heap.size ≤ w8.heap.size := (f7.trans0 hF8).size
  exact f9.trans hF10 (fun t ht => by simp at ht; subst ht; exact .inr (by omega))
end Go.Proofs.Ytbkfgidmjkbfmaa
