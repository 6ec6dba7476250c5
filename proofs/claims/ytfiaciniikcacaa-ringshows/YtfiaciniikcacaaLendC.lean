/-
  The walk of 'lend' of package mem, way by way: whether the span touches one ahead of it, and one behind it.
-/
import Derived.Test.YtfiaciniikcacaaLendB
namespace Go.Proofs.Ytfiaciniikcacaa
open Go.RowKit Go.BigFrame
set_option linter.unusedVariables false
set_option linter.unusedSimpArgs false
set_option maxRecDepth 100000
set_option maxHeartbeats 4000000

theorem lend_00 (bm bb k a n g cap : Nat) (l : List (Nat × Nat)) (w : World) (hM : MemB w bm bb k (.slice (some ⟨g, 0, none⟩) l.length cap) l) (hn : 1 ≤ n) (ho : a + n ≤ k) (hno : ∀ b, a ≤ b → b < a + n → ¬ In l b)
    (i0 : Nat) (hC0 : Cuts l a n i0 i0) (hr : i0 = l.length) (hl0 : i0 = 0) :
    Calls Try.prog 54 #[.pointer (some ⟨bm, 0, none⟩), .agg #[.int .u32 a, .int .u32 n]] w fun e w' => e = .returned (.int .i64 0) ∧ ∃ lv' l', MemB w' bm bb k lv' l' ∧ (∀ b, In l' b ↔ In l b ∨ (a ≤ b ∧ b < a + n)) ∧ (∀ g', lv'.ownBlock = some g' → lo w (.slice (some ⟨g, 0, none⟩) l.length cap) ≤ g') ∧ Fr [bm, g] w w' := by
  have hk := hM.top
  have hF0 : Fr [] w (w.alloc (.cells #[.int .u32 a, .int .u32 n] 83)) := (Fr.refl _ _).alloc _
  have H := hid (mayBe_yes bm bb a n k _ (by omega) (by omega) hM.top (hF0.cell hM.c0 (by simp)) hn ho)
  obtain ⟨cur, hg, hcl, htk, hcap, hcm, _⟩ := hM.row.blk
  have hR : RowAt w g l := ownsRow.rowAt hM.row rfl
  have hc := hM.can
  have hll := hc.len
  have hgl : g < w.heap.size := lt_of_heap hg
  have hbl : bm < w.heap.size := lt_of_heap hM.blk
  have hgb : g ≠ bm := fun e => hM.own (by rw [e]; rfl)
  have H2 := hid (fun W (hF : Fr [] w W) => cut_row bm g cap a n l W (by omega) (by omega) (by omega) hcap (hF.cell hM.c1 (by simp)) (hR.fr hF (by simp)) (fun i hi => by have := hc.top i hi; omega) (fun i j => hc.mono i j))
  have HC := hid hc
  have HM := hid hM
  have HN := hid hno
  clear hR hM hc hg hcl htk hno
  go_enter Try.func54, Try.ntmps54
  go_wp2_with fail
  refine H.out.mono ?_
  rintro e w1 ⟨rfl, hF1⟩
  have bx1 := hF1.heap (k := w.heap.size) (heap_alloc_new w (.cells #[.int .u32 a, .int .u32 n] 83)) (by simp)
  have c0 := cell_of_heap (o := 0) (v := .int .u32 (a : Nat)) bx1 rfl
  have c1 := cell_of_heap (o := 1) (v := .int .u32 (n : Nat)) bx1 rfl
  go_wp2_with fail
  refine (H2.out w1 (hF0.trans0 hF1)).mono ?_
  rintro e w2 ⟨i, j, C, rfl, hF2⟩
  have bx2 := hF2.heap bx1 (by simp)
  have d0 := hF2.cell c0 (by simp)
  have d1 := hF2.cell c1 (by simp)
  have F02 : Fr [] w w2 := (hF0.trans0 hF1).trans0 hF2
  have hij : j = i := by
    have h1 := C.ij
    rcases Nat.eq_or_lt_of_le h1 with e | e
    · exact e.symm
    · obtain ⟨b, q1, q2, q3⟩ := (C.some HC.out hn).1 e
      exact absurd q3 (HN.out b q1 q2)
  subst hij
  have hjn := C.jn
  have ln : w.heap.size < w2.heap.size := World.block_lt_of_cell? w2 _ d0
  have lg : g < w2.heap.size := Nat.lt_of_lt_of_le hgl F02.size
  have lb : bm < w2.heap.size := Nat.lt_of_lt_of_le hbl F02.size
  have HC2 := hid C
  have BX := hid bx2
  clear H H2 c0 c1 hF1 hF0 hF2 C bx1 bx2
  have e0 : j - j = 0 := by omega
  rw [e0]
  obtain ⟨q, hq⟩ : ∃ q, q = l.length - j := ⟨_, rfl⟩
  rw [← hq]
  have HQ := hid hq
  clear hq e0
  obtain rfl : j = i0 := HC2.out.same hC0
  have hra : j ≤ l.length := by omega
  have hrb : l.length ≤ j := by omega
  clear hr
  have HMr := hid ((ownsRow.rowAt (HM.out.fr F02 (by simp) (by simp)).row rfl : RowAt w2 g l))
  obtain rfl : q = 0 := by have := HQ.out; omega
  subst hl0
  go_wp2_with fail
  go_quiet (fail)
  obtain ⟨w3, hw3⟩ : ∃ w3, w3 = w2.drewN nq := ⟨_, rfl⟩
  rw [← hw3]
  have F23 : Fr [] w2 w3 := hw3 ▸ (Fr.refl _ _).drewN _
  clear hw3
  have b0 := F23.cell d0 (by simp)
  have b1 := F23.cell d1 (by simp)
  have FWF : Fr [w.heap.size] w2 w3 := F23.mono (by simp)
  have BXW := hid (F23.heap BX.out (by simp))
  go_wp2_with fail
  go_quiet (fail)
  obtain ⟨w5, hw5⟩ : ∃ w5, w5 = w3.drewN nq := ⟨_, rfl⟩
  rw [← hw5]
  have F5 : Fr [] w3 w5 := hw5 ▸ (Fr.refl _ _).drewN _
  clear hw5
  have FW5 : Fr [w.heap.size] w2 w5 := FWF.trans0 F5
  have b0 := F5.cell b0 (by simp)
  have b1 := F5.cell b1 (by simp)
  have FWF := FW5
  have HMF := hid ((HM.out.fr F02 (by simp) (by simp)).fr FWF (by simp; omega) (fun g' h' => by simp [Value.ownBlock] at h'; simp; omega))
  have m1 := HMF.out.c1
  have z0 := frozen_of_heap (o := 1) HMF.out.blk
  have lbF : bm < w5.heap.size := lt_of_heap HMF.out.blk
  have lnF : w.heap.size < w5.heap.size := World.block_lt_of_cell? w5 _ b0
  have lgF : g < w5.heap.size := Nat.lt_of_lt_of_le lg FWF.size
  have HJ := hid (HC2.out.joined HC.out hn ho 0 0 a n (.inl ⟨rfl, fun p hp => absurd hp (by omega), rfl⟩) (.inl ⟨rfl, fun p hp hpl => by have := HQ.out; omega, by omega⟩))
  go_wp2_with fail
  go_region_law ((refine step_call rfl 73 #[.tmp 83, .tmp 84, .tmp 85, .tmp 87] #[48, 3, 3, 48] rfl he73 #[.slice (some ⟨g, 0, none⟩) l.length cap, .int .i64 ((0 : Nat) : Int), .int .i64 ((0 : Nat) : Int), .slice (some ⟨w5.heap.size, 0, none⟩) 1 1] (by kernel_rfl) ?_; refine (replace_any _ _ l [(a, n)] 0 0 _ (HMF.out.row.fr (show Fr [] w5 _ from Fr.drew (Fr.alloc (Fr.refl _ _) _)) (by simp)) (row_one_drew w5 _ _ a n _ rfl rfl rfl) (fun g1 h1 => by simp [Value.ownBlock] at h1 ⊢; omega) (by omega) (by simp) (by omega) (by omega) (by simp)).mono ?_; rintro e w6 ⟨lv', rfl, hR6, hL6, hF6⟩; have HL6 : Hid (∀ g', lv'.ownBlock = some g' → g ≤ g') := hL6; clear hL6; have hJ6 := HJ.out; generalize l.take 0 ++ [(a, n)] ++ l.drop 0 = l6 at hR6 hJ6; have HJ6 := hid hJ6; clear hJ6; obtain ⟨p6, c6, rfl⟩ := hR6.form; have hb6 := hF6.heap (show ((w5.alloc _).drew).heap[bm]? = _ from (Below.heap_alloc w5 _ bm lbF).trans HMF.out.blk) (by simp [Value.ownBlock]; omega); have z6 := frozen_of_heap (o := 1) hb6; have m6 := cell_of_heap (o := 1) (v := .slice (some ⟨g, 0, none⟩) l.length cap) hb6 rfl; refine ⟨_, rfl, ?_⟩))
  all_goals
    go_wp2
    go_ret
    refine ⟨rfl, _, _, ⟨set1 hb6, hR6.fr ((Fr.refl [bm] w6).setCell (p := ⟨bm, 1, none⟩) (by simp) _) (fun g1 h1 => by simp; exact Row.ne hR6 hb6 (by decide) g1 h1), HJ6.out.1, hk⟩, HJ6.out.2, HL6.out, ?_⟩
    exact (((F02.mono (T := [bm, g]) (by simp)).trans FWF (fun t ht => by simp at ht; subst ht; exact .inr (Nat.le_refl _))).trans (((Fr.refl [] w5).alloc _).drew) (by simp)).trans (hF6.mono (T := [bm, g]) (by simp [Value.ownBlock])) (fun t ht => .inl ht) |>.setCell (by simp) _

theorem lend_01 (bm bb k a n g cap : Nat) (l : List (Nat × Nat)) (w : World) (hM : MemB w bm bb k (.slice (some ⟨g, 0, none⟩) l.length cap) l) (hn : 1 ≤ n) (ho : a + n ≤ k) (hno : ∀ b, a ≤ b → b < a + n → ¬ In l b)
    (i0 : Nat) (hC0 : Cuts l a n i0 i0) (hr : i0 = l.length) (hl0 : 0 < i0) (hl2 : fs l (i0 - 1) + sn l (i0 - 1) ≠ a) :
    Calls Try.prog 54 #[.pointer (some ⟨bm, 0, none⟩), .agg #[.int .u32 a, .int .u32 n]] w fun e w' => e = .returned (.int .i64 0) ∧ ∃ lv' l', MemB w' bm bb k lv' l' ∧ (∀ b, In l' b ↔ In l b ∨ (a ≤ b ∧ b < a + n)) ∧ (∀ g', lv'.ownBlock = some g' → lo w (.slice (some ⟨g, 0, none⟩) l.length cap) ≤ g') ∧ Fr [bm, g] w w' := by
  have hk := hM.top
  have hF0 : Fr [] w (w.alloc (.cells #[.int .u32 a, .int .u32 n] 83)) := (Fr.refl _ _).alloc _
  have H := hid (mayBe_yes bm bb a n k _ (by omega) (by omega) hM.top (hF0.cell hM.c0 (by simp)) hn ho)
  obtain ⟨cur, hg, hcl, htk, hcap, hcm, _⟩ := hM.row.blk
  have hR : RowAt w g l := ownsRow.rowAt hM.row rfl
  have hc := hM.can
  have hll := hc.len
  have hgl : g < w.heap.size := lt_of_heap hg
  have hbl : bm < w.heap.size := lt_of_heap hM.blk
  have hgb : g ≠ bm := fun e => hM.own (by rw [e]; rfl)
  have H2 := hid (fun W (hF : Fr [] w W) => cut_row bm g cap a n l W (by omega) (by omega) (by omega) hcap (hF.cell hM.c1 (by simp)) (hR.fr hF (by simp)) (fun i hi => by have := hc.top i hi; omega) (fun i j => hc.mono i j))
  have HC := hid hc
  have HM := hid hM
  have HN := hid hno
  clear hR hM hc hg hcl htk hno
  go_enter Try.func54, Try.ntmps54
  go_wp2_with fail
  refine H.out.mono ?_
  rintro e w1 ⟨rfl, hF1⟩
  have bx1 := hF1.heap (k := w.heap.size) (heap_alloc_new w (.cells #[.int .u32 a, .int .u32 n] 83)) (by simp)
  have c0 := cell_of_heap (o := 0) (v := .int .u32 (a : Nat)) bx1 rfl
  have c1 := cell_of_heap (o := 1) (v := .int .u32 (n : Nat)) bx1 rfl
  go_wp2_with fail
  refine (H2.out w1 (hF0.trans0 hF1)).mono ?_
  rintro e w2 ⟨i, j, C, rfl, hF2⟩
  have bx2 := hF2.heap bx1 (by simp)
  have d0 := hF2.cell c0 (by simp)
  have d1 := hF2.cell c1 (by simp)
  have F02 : Fr [] w w2 := (hF0.trans0 hF1).trans0 hF2
  have hij : j = i := by
    have h1 := C.ij
    rcases Nat.eq_or_lt_of_le h1 with e | e
    · exact e.symm
    · obtain ⟨b, q1, q2, q3⟩ := (C.some HC.out hn).1 e
      exact absurd q3 (HN.out b q1 q2)
  subst hij
  have hjn := C.jn
  have ln : w.heap.size < w2.heap.size := World.block_lt_of_cell? w2 _ d0
  have lg : g < w2.heap.size := Nat.lt_of_lt_of_le hgl F02.size
  have lb : bm < w2.heap.size := Nat.lt_of_lt_of_le hbl F02.size
  have HC2 := hid C
  have BX := hid bx2
  clear H H2 c0 c1 hF1 hF0 hF2 C bx1 bx2
  have e0 : j - j = 0 := by omega
  rw [e0]
  obtain ⟨q, hq⟩ : ∃ q, q = l.length - j := ⟨_, rfl⟩
  rw [← hq]
  have HQ := hid hq
  clear hq e0
  obtain rfl : j = i0 := HC2.out.same hC0
  have hra : j ≤ l.length := by omega
  have hrb : l.length ≤ j := by omega
  clear hr
  have HMr := hid ((ownsRow.rowAt (HM.out.fr F02 (by simp) (by simp)).row rfl : RowAt w2 g l))
  obtain rfl : q = 0 := by have := HQ.out; omega
  obtain ⟨p, rfl⟩ : ∃ p, j = p + 1 := ⟨j - 1, by omega⟩
  simp only [Nat.add_sub_cancel] at hl2
  have r0 := (HMr.out p (by omega)).1
  have r1 := (HMr.out p (by omega)).2
  have tp := HC.out.top p (by omega)
  generalize hx : fs l p = x at *
  generalize hy : sn l p = y at *
  have HX := hid hx
  have HY := hid hy
  clear hx hy
  have d2 : (((x : Int) + (y : Int)) == (a : Int)) = false := by simp; omega
  go_wp2_with fail
  refine wp_region_ext (by kernel_rfl) (by kernel_rfl) ?_
  repeat (go_big_quiet_step (exact Calls.ext_of (end_fr x y (by omega) _)))
  refine wpQuiet_nil ?_
  rintro _ ⟨xq, rfl⟩
  obtain ⟨w3, hw3⟩ : ∃ w3, w3 = ext w2 xq := ⟨_, rfl⟩
  rw [← hw3]
  have F23 : Fr [] w2 w3 := hw3 ▸ ext_fr _ _
  clear hw3
  have b0 := F23.cell d0 (by simp)
  have b1 := F23.cell d1 (by simp)
  have FWF : Fr [w.heap.size] w2 w3 := F23.mono (by simp)
  have BXW := hid (F23.heap BX.out (by simp))
  go_wp2_with fail
  go_quiet (fail)
  obtain ⟨w5, hw5⟩ : ∃ w5, w5 = w3.drewN nq := ⟨_, rfl⟩
  rw [← hw5]
  have F5 : Fr [] w3 w5 := hw5 ▸ (Fr.refl _ _).drewN _
  clear hw5
  have FW5 : Fr [w.heap.size] w2 w5 := FWF.trans0 F5
  have b0 := F5.cell b0 (by simp)
  have b1 := F5.cell b1 (by simp)
  have FWF := FW5
  have HMF := hid ((HM.out.fr F02 (by simp) (by simp)).fr FWF (by simp; omega) (fun g' h' => by simp [Value.ownBlock] at h'; simp; omega))
  have m1 := HMF.out.c1
  have z0 := frozen_of_heap (o := 1) HMF.out.blk
  have lbF : bm < w5.heap.size := lt_of_heap HMF.out.blk
  have lnF : w.heap.size < w5.heap.size := World.block_lt_of_cell? w5 _ b0
  have lgF : g < w5.heap.size := Nat.lt_of_lt_of_le lg FWF.size
  have HJ := hid (HC2.out.joined HC.out hn ho (p + 1) (p + 1) a n (.inl ⟨rfl, fun p0 hp => by have h0 := HC2.out.ahead p (by omega); have h1 := HX.out; have h2 := HY.out; rcases Nat.eq_or_lt_of_le (show p0 ≤ p by omega) with e | e; (subst e; omega); (have := HC.out.gap p0 p e (by omega); omega), rfl⟩) (.inl ⟨rfl, fun p hp hpl => by have := HQ.out; omega, by omega⟩))
  go_wp2_with fail
  go_region_law ((refine step_call rfl 73 #[.tmp 83, .tmp 84, .tmp 85, .tmp 87] #[48, 3, 3, 48] rfl he73 #[.slice (some ⟨g, 0, none⟩) l.length cap, .int .i64 (((p + 1) : Nat) : Int), .int .i64 (((p + 1) : Nat) : Int), .slice (some ⟨w5.heap.size, 0, none⟩) 1 1] (by kernel_rfl) ?_; refine (replace_any _ _ l [(a, n)] (p + 1) (p + 1) _ (HMF.out.row.fr (show Fr [] w5 _ from Fr.drew (Fr.alloc (Fr.refl _ _) _)) (by simp)) (row_one_drew w5 _ _ a n _ rfl rfl rfl) (fun g1 h1 => by simp [Value.ownBlock] at h1 ⊢; omega) (by omega) (by simp) (by omega) (by omega) (by simp)).mono ?_; rintro e w6 ⟨lv', rfl, hR6, hL6, hF6⟩; have HL6 : Hid (∀ g', lv'.ownBlock = some g' → g ≤ g') := hL6; clear hL6; have hJ6 := HJ.out; generalize l.take (p + 1) ++ [(a, n)] ++ l.drop (p + 1) = l6 at hR6 hJ6; have HJ6 := hid hJ6; clear hJ6; obtain ⟨p6, c6, rfl⟩ := hR6.form; have hb6 := hF6.heap (show ((w5.alloc _).drew).heap[bm]? = _ from (Below.heap_alloc w5 _ bm lbF).trans HMF.out.blk) (by simp [Value.ownBlock]; omega); have z6 := frozen_of_heap (o := 1) hb6; have m6 := cell_of_heap (o := 1) (v := .slice (some ⟨g, 0, none⟩) l.length cap) hb6 rfl; refine ⟨_, rfl, ?_⟩))
  all_goals
    go_wp2
    go_ret
    refine ⟨rfl, _, _, ⟨set1 hb6, hR6.fr ((Fr.refl [bm] w6).setCell (p := ⟨bm, 1, none⟩) (by simp) _) (fun g1 h1 => by simp; exact Row.ne hR6 hb6 (by decide) g1 h1), HJ6.out.1, hk⟩, HJ6.out.2, HL6.out, ?_⟩
    exact (((F02.mono (T := [bm, g]) (by simp)).trans FWF (fun t ht => by simp at ht; subst ht; exact .inr (Nat.le_refl _))).trans (((Fr.refl [] w5).alloc _).drew) (by simp)).trans (hF6.mono (T := [bm, g]) (by simp [Value.ownBlock])) (fun t ht => .inl ht) |>.setCell (by simp) _

theorem lend_02 (bm bb k a n g cap : Nat) (l : List (Nat × Nat)) (w : World) (hM : MemB w bm bb k (.slice (some ⟨g, 0, none⟩) l.length cap) l) (hn : 1 ≤ n) (ho : a + n ≤ k) (hno : ∀ b, a ≤ b → b < a + n → ¬ In l b)
    (i0 : Nat) (hC0 : Cuts l a n i0 i0) (hr : i0 = l.length) (hl0 : 0 < i0) (hl2 : fs l (i0 - 1) + sn l (i0 - 1) = a) :
    Calls Try.prog 54 #[.pointer (some ⟨bm, 0, none⟩), .agg #[.int .u32 a, .int .u32 n]] w fun e w' => e = .returned (.int .i64 0) ∧ ∃ lv' l', MemB w' bm bb k lv' l' ∧ (∀ b, In l' b ↔ In l b ∨ (a ≤ b ∧ b < a + n)) ∧ (∀ g', lv'.ownBlock = some g' → lo w (.slice (some ⟨g, 0, none⟩) l.length cap) ≤ g') ∧ Fr [bm, g] w w' := by
  have hk := hM.top
  have hF0 : Fr [] w (w.alloc (.cells #[.int .u32 a, .int .u32 n] 83)) := (Fr.refl _ _).alloc _
  have H := hid (mayBe_yes bm bb a n k _ (by omega) (by omega) hM.top (hF0.cell hM.c0 (by simp)) hn ho)
  obtain ⟨cur, hg, hcl, htk, hcap, hcm, _⟩ := hM.row.blk
  have hR : RowAt w g l := ownsRow.rowAt hM.row rfl
  have hc := hM.can
  have hll := hc.len
  have hgl : g < w.heap.size := lt_of_heap hg
  have hbl : bm < w.heap.size := lt_of_heap hM.blk
  have hgb : g ≠ bm := fun e => hM.own (by rw [e]; rfl)
  have H2 := hid (fun W (hF : Fr [] w W) => cut_row bm g cap a n l W (by omega) (by omega) (by omega) hcap (hF.cell hM.c1 (by simp)) (hR.fr hF (by simp)) (fun i hi => by have := hc.top i hi; omega) (fun i j => hc.mono i j))
  have HC := hid hc
  have HM := hid hM
  have HN := hid hno
  clear hR hM hc hg hcl htk hno
  go_enter Try.func54, Try.ntmps54
  go_wp2_with fail
  refine H.out.mono ?_
  rintro e w1 ⟨rfl, hF1⟩
  have bx1 := hF1.heap (k := w.heap.size) (heap_alloc_new w (.cells #[.int .u32 a, .int .u32 n] 83)) (by simp)
  have c0 := cell_of_heap (o := 0) (v := .int .u32 (a : Nat)) bx1 rfl
  have c1 := cell_of_heap (o := 1) (v := .int .u32 (n : Nat)) bx1 rfl
  go_wp2_with fail
  refine (H2.out w1 (hF0.trans0 hF1)).mono ?_
  rintro e w2 ⟨i, j, C, rfl, hF2⟩
  have bx2 := hF2.heap bx1 (by simp)
  have d0 := hF2.cell c0 (by simp)
  have d1 := hF2.cell c1 (by simp)
  have F02 : Fr [] w w2 := (hF0.trans0 hF1).trans0 hF2
  have hij : j = i := by
    have h1 := C.ij
    rcases Nat.eq_or_lt_of_le h1 with e | e
    · exact e.symm
    · obtain ⟨b, q1, q2, q3⟩ := (C.some HC.out hn).1 e
      exact absurd q3 (HN.out b q1 q2)
  subst hij
  have hjn := C.jn
  have ln : w.heap.size < w2.heap.size := World.block_lt_of_cell? w2 _ d0
  have lg : g < w2.heap.size := Nat.lt_of_lt_of_le hgl F02.size
  have lb : bm < w2.heap.size := Nat.lt_of_lt_of_le hbl F02.size
  have HC2 := hid C
  have BX := hid bx2
  clear H H2 c0 c1 hF1 hF0 hF2 C bx1 bx2
  have e0 : j - j = 0 := by omega
  rw [e0]
  obtain ⟨q, hq⟩ : ∃ q, q = l.length - j := ⟨_, rfl⟩
  rw [← hq]
  have HQ := hid hq
  clear hq e0
  obtain rfl : j = i0 := HC2.out.same hC0
  have hra : j ≤ l.length := by omega
  have hrb : l.length ≤ j := by omega
  clear hr
  have hl2a : fs l (j - 1) + sn l (j - 1) ≤ a := by omega
  have hl2b : a ≤ fs l (j - 1) + sn l (j - 1) := by omega
  clear hl2
  have HMr := hid ((ownsRow.rowAt (HM.out.fr F02 (by simp) (by simp)).row rfl : RowAt w2 g l))
  obtain rfl : q = 0 := by have := HQ.out; omega
  obtain ⟨p, rfl⟩ : ∃ p, j = p + 1 := ⟨j - 1, by omega⟩
  simp only [Nat.add_sub_cancel] at hl2a hl2b
  have r0 := (HMr.out p (by omega)).1
  have r1 := (HMr.out p (by omega)).2
  have tp := HC.out.top p (by omega)
  generalize hx : fs l p = x at *
  generalize hy : sn l p = y at *
  have HX := hid hx
  have HY := hid hy
  clear hx hy
  have d2 : (((x : Int) + (y : Int)) == (a : Int)) = true := by simp; omega
  go_wp2_with fail
  refine wp_region_ext (by kernel_rfl) (by kernel_rfl) ?_
  repeat (go_big_quiet_step (exact Calls.ext_of (end_fr x y (by omega) _)))
  refine wpQuiet_nil ?_
  rintro _ ⟨xq, rfl⟩
  obtain ⟨w3, hw3⟩ : ∃ w3, w3 = ext w2 xq := ⟨_, rfl⟩
  rw [← hw3]
  have F23 : Fr [] w2 w3 := hw3 ▸ ext_fr _ _
  clear hw3
  have d0 := F23.cell d0 (by simp)
  have d1 := F23.cell d1 (by simp)
  have r0 := F23.cell r0 (by simp)
  have r1 := F23.cell r1 (by simp)
  have BX3 := hid (F23.heap BX.out (by simp))
  have z0 := frozen_of_heap (o := 0) BX3.out
  have z1 := frozen_of_heap (o := 1) BX3.out
  go_wp2_with fail
  go_region
  obtain ⟨w4, hw4⟩ : ∃ w4, w4 = ((w3.setCell ⟨w.heap.size, 0, none⟩ (.int .u32 (x : Nat))).setCell ⟨w.heap.size, 1, none⟩ (.int .u32 ((y : Int) + (n : Int)))).drew := ⟨_, rfl⟩
  rw [← hw4]
  have F4 : Fr [w.heap.size] w3 w4 := hw4 ▸ (((Fr.refl [w.heap.size] w3).setCell (by simp) _).setCell (by simp) _).drew
  obtain ⟨L, hL⟩ : ∃ L, L = y + n := ⟨_, rfl⟩
  have bx4 : w4.heap[w.heap.size]? = some (.cells #[.int .u32 (x : Nat), .int .u32 (L : Nat)] 83) := by rw [hw4]; exact setAB BX3.out (by omega)
  clear hw4
  have b0 := cell_of_heap (o := 0) (v := .int .u32 (x : Nat)) bx4 rfl
  have b1 := cell_of_heap (o := 1) (v := .int .u32 (L : Nat)) bx4 rfl
  have FWF : Fr [w.heap.size] w2 w4 := (F23.mono (T := [w.heap.size]) (by simp)).trans F4 (fun t ht => .inl ht)
  have BXW := hid bx4
  have HL := hid hL
  clear hL
  have lxa : x + L ≤ a + n := by have := HL.out; omega
  have lxb : a + n ≤ x + L := by have := HL.out; omega
  go_wp2_with fail
  go_quiet (fail)
  obtain ⟨w5, hw5⟩ : ∃ w5, w5 = w4.drewN nq := ⟨_, rfl⟩
  rw [← hw5]
  have F5 : Fr [] w4 w5 := hw5 ▸ (Fr.refl _ _).drewN _
  clear hw5
  have FW5 : Fr [w.heap.size] w2 w5 := FWF.trans0 F5
  have b0 := F5.cell b0 (by simp)
  have b1 := F5.cell b1 (by simp)
  have FWF := FW5
  have HMF := hid ((HM.out.fr F02 (by simp) (by simp)).fr FWF (by simp; omega) (fun g' h' => by simp [Value.ownBlock] at h'; simp; omega))
  have m1 := HMF.out.c1
  have z0 := frozen_of_heap (o := 1) HMF.out.blk
  have lbF : bm < w5.heap.size := lt_of_heap HMF.out.blk
  have lnF : w.heap.size < w5.heap.size := World.block_lt_of_cell? w5 _ b0
  have lgF : g < w5.heap.size := Nat.lt_of_lt_of_le lg FWF.size
  have HJ := hid (HC2.out.joined HC.out hn ho p (p + 1) x L (.inr ⟨rfl, by rw [HX.out, HY.out]; omega, HX.out.symm⟩) (.inl ⟨rfl, fun p hp hpl => by have := HQ.out; omega, by omega⟩))
  go_wp2_with fail
  go_region_law ((refine step_call rfl 73 #[.tmp 83, .tmp 84, .tmp 85, .tmp 87] #[48, 3, 3, 48] rfl he73 #[.slice (some ⟨g, 0, none⟩) l.length cap, .int .i64 ((p : Nat) : Int), .int .i64 (((p + 1) : Nat) : Int), .slice (some ⟨w5.heap.size, 0, none⟩) 1 1] (by kernel_rfl) ?_; refine (replace_any _ _ l [(x, L)] p (p + 1) _ (HMF.out.row.fr (show Fr [] w5 _ from Fr.drew (Fr.alloc (Fr.refl _ _) _)) (by simp)) (row_one_drew w5 _ _ x L _ rfl rfl rfl) (fun g1 h1 => by simp [Value.ownBlock] at h1 ⊢; omega) (by omega) (by simp) (by omega) (by omega) (by simp)).mono ?_; rintro e w6 ⟨lv', rfl, hR6, hL6, hF6⟩; have HL6 : Hid (∀ g', lv'.ownBlock = some g' → g ≤ g') := hL6; clear hL6; have hJ6 := HJ.out; generalize l.take p ++ [(x, L)] ++ l.drop (p + 1) = l6 at hR6 hJ6; have HJ6 := hid hJ6; clear hJ6; obtain ⟨p6, c6, rfl⟩ := hR6.form; have hb6 := hF6.heap (show ((w5.alloc _).drew).heap[bm]? = _ from (Below.heap_alloc w5 _ bm lbF).trans HMF.out.blk) (by simp [Value.ownBlock]; omega); have z6 := frozen_of_heap (o := 1) hb6; have m6 := cell_of_heap (o := 1) (v := .slice (some ⟨g, 0, none⟩) l.length cap) hb6 rfl; refine ⟨_, rfl, ?_⟩))
  all_goals
    go_wp2
    go_ret
    refine ⟨rfl, _, _, ⟨set1 hb6, hR6.fr ((Fr.refl [bm] w6).setCell (p := ⟨bm, 1, none⟩) (by simp) _) (fun g1 h1 => by simp; exact Row.ne hR6 hb6 (by decide) g1 h1), HJ6.out.1, hk⟩, HJ6.out.2, HL6.out, ?_⟩
    exact (((F02.mono (T := [bm, g]) (by simp)).trans FWF (fun t ht => by simp at ht; subst ht; exact .inr (Nat.le_refl _))).trans (((Fr.refl [] w5).alloc _).drew) (by simp)).trans (hF6.mono (T := [bm, g]) (by simp [Value.ownBlock])) (fun t ht => .inl ht) |>.setCell (by simp) _

end Go.Proofs.Ytfiaciniikcacaa
