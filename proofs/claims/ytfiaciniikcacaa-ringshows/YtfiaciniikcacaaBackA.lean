/-
  The walk of 'back' of package mem: a span that is lent comes back to the driver; what stands beside it stays lent.
-/
import Derived.Test.YtfiaciniikcacaaLendB
namespace Go.Proofs.Ytfiaciniikcacaa
open Go.RowKit Go.BigFrame
set_option linter.unusedVariables false
set_option linter.unusedSimpArgs false
set_option maxRecDepth 100000
set_option maxHeartbeats 4000000

theorem back_out (bm bb k a n : Nat) (lv : Value) (l : List (Nat × Nat)) (w : World) (hM : MemB w bm bb k lv l) (ha : a < 4294967296) (hn : n < 4294967296) (ho : n = 0 ∨ k < a + n) :
    Calls Try.prog 87 #[.pointer (some ⟨bm, 0, none⟩), .agg #[.int .u32 a, .int .u32 n]] w fun e w' => e = .returned (.int .i64 10) ∧ Fr [] w w' := by
  have hF0 : Fr [] w (w.alloc (.cells #[.int .u32 a, .int .u32 n] 83)) := (Fr.refl _ _).alloc _
  have H := hid (mayBe_no bm bb a n k _ ha hn hM.top (hF0.cell hM.c0 (by simp)) ho)
  clear hM
  go_enter Try.func87, Try.ntmps87
  go_wp2_with fail
  refine H.out.mono ?_
  rintro e w1 ⟨rfl, hF⟩
  go_wp2
  go_ret
  exact ⟨rfl, hF0.trans0 hF⟩

theorem back_kept (bm bb k a n : Nat) (lv : Value) (l : List (Nat × Nat)) (w : World) (hM : MemB w bm bb k lv l) (hn : 1 ≤ n) (ho : a + n ≤ k) (hs : ¬ ∀ b, a ≤ b → b < a + n → In l b) :
    Calls Try.prog 87 #[.pointer (some ⟨bm, 0, none⟩), .agg #[.int .u32 a, .int .u32 n]] w fun e w' => e = .returned (.int .i64 12) ∧ Fr [] w w' := by
  have hk := hM.top
  have hF0 : Fr [] w (w.alloc (.cells #[.int .u32 a, .int .u32 n] 83)) := (Fr.refl _ _).alloc _
  have H := hid (mayBe_yes bm bb a n k _ (by omega) (by omega) hM.top (hF0.cell hM.c0 (by simp)) hn ho)
  have H2 := hid (fun W (hF : Fr [] w W) => all_any bm a n k lv l W (hM.fr hF (by simp) (by simp)).lnt hM.can hM.top (by omega) ho)
  have HS := hid hs
  clear hM hs
  go_enter Try.func87, Try.ntmps87
  go_wp2_with fail
  refine H.out.mono ?_
  rintro e w1 ⟨rfl, hF1⟩
  have c0 := hF1.cell (p := ⟨w.heap.size, 0, none⟩) (v := .int .u32 a) (by simp) (by simp)
  have c1 := hF1.cell (p := ⟨w.heap.size, 1, none⟩) (v := .int .u32 n) (by simp) (by simp)
  go_wp2_with fail
  refine (H2.out w1 (hF0.trans0 hF1)).mono ?_
  rintro e w2 ⟨b, hb, rfl, hF2⟩
  obtain rfl : b = false := by
    cases b with
    | false => rfl
    | true => exact absurd (hb.1 rfl) HS.out
  go_wp2
  go_ret
  exact ⟨rfl, (hF0.trans0 hF1).trans0 hF2⟩

theorem back_ok (bm bb k a n g cap : Nat) (l : List (Nat × Nat)) (w : World) (hM : MemB w bm bb k (.slice (some ⟨g, 0, none⟩) l.length cap) l) (hn : 1 ≤ n) (ho : a + n ≤ k) (hs : ∀ b, a ≤ b → b < a + n → In l b) :
    Calls Try.prog 87 #[.pointer (some ⟨bm, 0, none⟩), .agg #[.int .u32 a, .int .u32 n]] w fun e w' => e = .returned (.int .i64 0) ∧ ∃ lv' l', MemB w' bm bb k lv' l' ∧ (∀ b, In l' b ↔ In l b ∧ ¬ (a ≤ b ∧ b < a + n)) ∧ (∀ g', lv'.ownBlock = some g' → lo w (.slice (some ⟨g, 0, none⟩) l.length cap) ≤ g') ∧ Fr [bm, g] w w' := by
  have hk := hM.top
  have hF0 : Fr [] w (w.alloc (.cells #[.int .u32 a, .int .u32 n] 83)) := (Fr.refl _ _).alloc _
  have H := hid (mayBe_yes bm bb a n k _ (by omega) (by omega) hM.top (hF0.cell hM.c0 (by simp)) hn ho)
  have H2 := hid (fun W (hF : Fr [] w W) => all_any bm a n k _ l W (hM.fr hF (by simp) (by simp)).lnt hM.can hM.top (by omega) ho)
  obtain ⟨cur, hg, hcl, htk, hcap, hcm, _⟩ := hM.row.blk
  have hR : RowAt w g l := ownsRow.rowAt hM.row rfl
  have hc := hM.can
  have hll := hc.len
  have hgl : g < w.heap.size := lt_of_heap hg
  have hbl : bm < w.heap.size := lt_of_heap hM.blk
  have hgb : g ≠ bm := fun e => hM.own (by rw [e]; rfl)
  have H3 := hid (fun W (hF : Fr [] w W) => cut_row bm g cap a n l W (by omega) (by omega) (by omega) hcap (hF.cell hM.c1 (by simp)) (hR.fr hF (by simp)) (fun i hi => by have := hc.top i hi; omega) (fun i j => hc.mono i j))
  have HC := hid hc
  have HM := hid hM
  have HN := hid hs
  have HR := hid hR
  clear hR hM hc hg hcl htk hs
  go_enter Try.func87, Try.ntmps87
  go_wp2_with fail
  refine H.out.mono ?_
  rintro e w1 ⟨rfl, hF1⟩
  have c0 := hF1.cell (p := ⟨w.heap.size, 0, none⟩) (v := .int .u32 a) (by simp) (by simp)
  have c1 := hF1.cell (p := ⟨w.heap.size, 1, none⟩) (v := .int .u32 n) (by simp) (by simp)
  go_wp2_with fail
  refine (H2.out w1 (hF0.trans0 hF1)).mono ?_
  rintro e w2 ⟨b, hb, rfl, hF2⟩
  obtain rfl : b = true := hb.2 HN.out
  clear hb
  have c0 := hF2.cell c0 (by simp)
  have c1 := hF2.cell c1 (by simp)
  go_wp2_with fail
  refine (H3.out w2 ((hF0.trans0 hF1).trans0 hF2)).mono ?_
  rintro e w3 ⟨i, j, C, rfl, hF3⟩
  have d0 := hF3.cell c0 (by simp)
  have d1 := hF3.cell c1 (by simp)
  have F03 : Fr [] w w3 := ((hF0.trans0 hF1).trans0 hF2).trans0 hF3
  obtain ⟨hj, hxa, hxe⟩ := (C.all HC.out hn).2 HN.out
  subst hj
  have hjn := C.jn
  have HT := hid (taken HC.out hn (show i < l.length by omega) hxa hxe)
  have r0 := ((HR.out.fr F03 (by simp)) i (by omega)).1
  have r1 := ((HR.out.fr F03 (by simp)) i (by omega)).2
  have tp := HC.out.top i (by omega)
  generalize hx : fs l i = x at *
  generalize hy : sn l i = y at *
  clear hx hy H H2 H3 hF0 hF1 hF2 hF3 c0 c1 C
  have e0 : i + 1 - i = 1 := by omega
  have e1 : so i (i + 1 - i) = i * 2 := by simp [so]
  rw [e1, e0]
  clear e0 e1
  have HM3 := hid (HM.out.fr F03 (by simp) (by simp))
  have m1 := HM3.out.c1
  have lb3 : bm < w3.heap.size := lt_of_heap HM3.out.blk
  have ln3 : w.heap.size < w3.heap.size := World.block_lt_of_cell? w3 _ d0
  have lg3 : g < w3.heap.size := Nat.lt_of_lt_of_le hgl F03.size
  have wi : IntKind.i64.wrap ((i : Int) + 1) = (i : Int) + 1 := by rw [IntKind.wrap_i64]; omega
  go_wp2_with fail
  go_region_law (first
    | (refine step_call rfl 89 #[.tmp 35, .tmp 36] #[83, 83] rfl he89 #[.agg #[.int .u32 x, .int .u32 y], .agg #[.int .u32 a, .int .u32 n]] (by kernel_rfl) ?_; refine (without_any x y a n _ hxa hxe (by omega)).mono ?_; rintro e w4 ⟨vv, rfl, hR4, hv4, hF4'⟩; have hF4 : Fr [] w3 w4 := ⟨hF4'.os, hF4'.tape, hF4'.output, hF4'.size, hF4'.block⟩; have hv4' : Hid (∀ g', vv.ownBlock = some g' → w3.heap.size ≤ g') := hv4; have hR4' := hid hR4; clear hv4 hF4' hR4; have m4 := hF4.cell m1 (by simp); have HM4 := hid (HM3.out.fr hF4 (by simp) (by simp)); refine ⟨_, rfl, ?_⟩)
    | (refine step_call rfl 73 #[.tmp 27, .tmp 29, .tmp 32, .tmp 37] #[48, 3, 3, 48] rfl he73 #[.slice (some ⟨g, 0, none⟩) l.length cap, .int .i64 (i : Nat), .int .i64 ((i : Int) + 1), vv] (by kernel_rfl) ?_; refine (replace_any _ _ l (wo x y a n) i (i + 1) w4 HM4.out.row hR4'.out (fun g1 h1 => by simp [Value.ownBlock]; have := hv4'.out g1 h1; omega) (by omega) (by have := wo_len x y a n; omega) (by omega) (by omega) (by omega)).mono ?_; rintro e w6 ⟨lv', rfl, hR6, hL6, hF6⟩; have HL6 : Hid (∀ g', lv'.ownBlock = some g' → g ≤ g') := hL6; clear hL6; have hT6 := HT.out; generalize l.take i ++ wo x y a n ++ l.drop (i + 1) = l6 at hR6 hT6; have HT6 := hid hT6; clear hT6; obtain ⟨p6, c6, rfl⟩ := hR6.form; have hb6 := hF6.heap HM4.out.blk (by simp [Value.ownBlock]; omega); have z6 := frozen_of_heap (o := 1) hb6; have m6 := cell_of_heap (o := 1) (v := .slice (some ⟨g, 0, none⟩) l.length cap) hb6 rfl; refine ⟨_, rfl, ?_⟩))
  all_goals
    go_wp2
    go_ret
    refine ⟨rfl, _, _, ⟨set1 hb6, hR6.fr ((Fr.refl [bm] w6).setCell (p := ⟨bm, 1, none⟩) (by simp) _) (fun g1 h1 => by simp; exact Row.ne hR6 hb6 (by decide) g1 h1), HT6.out.1, hk⟩, HT6.out.2, HL6.out, ?_⟩
    exact (((F03.mono (T := [bm, g]) (by simp)).trans0 hF4).trans (hF6.mono (T := [bm, g]) (by simp [Value.ownBlock])) (fun t ht => .inl ht)).setCell (by simp) _
end Go.Proofs.Ytfiaciniikcacaa
