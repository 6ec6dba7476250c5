/-
  The whole contracts of 'lend' and 'back' of package mem: which error, or what is lent behind them.
-/
import Derived.Test.YtfiaciniikcacaaLendC
import Derived.Test.YtfiaciniikcacaaLendD
import Derived.Test.YtfiaciniikcacaaLendE
import Derived.Test.YtfiaciniikcacaaBackA
namespace Go.Proofs.Ytfiaciniikcacaa
open Go.RowKit Go.BigFrame
set_option linter.unusedVariables false
set_option linter.unusedSimpArgs false
set_option maxRecDepth 100000
set_option maxHeartbeats 4000000

theorem lend_nil (bm bb k a n : Nat) (w : World) (hM : MemB w bm bb k (.slice none 0 0) []) (hn : 1 ≤ n) (ho : a + n ≤ k) :
    Calls Try.prog 54 #[.pointer (some ⟨bm, 0, none⟩), .agg #[.int .u32 a, .int .u32 n]] w fun e w' => e = .returned (.int .i64 0) ∧ ∃ lv' l', MemB w' bm bb k lv' l' ∧ (∀ b, In l' b ↔ In [] b ∨ (a ≤ b ∧ b < a + n)) ∧ (∀ g', lv'.ownBlock = some g' → lo w (.slice none 0 0) ≤ g') ∧ Fr [bm] w w' := by
  have hk := hM.top
  have hF0 : Fr [] w (w.alloc (.cells #[.int .u32 a, .int .u32 n] 83)) := (Fr.refl _ _).alloc _
  have H := hid (mayBe_yes bm bb a n k _ (by omega) (by omega) hM.top (hF0.cell hM.c0 (by simp)) hn ho)
  have H2 := hid (fun W (hF : Fr [] w W) => cut_nil bm a n W (hF.cell hM.c1 (by simp)))
  have hbl : bm < w.heap.size := lt_of_heap hM.blk
  have HM := hid hM
  clear hM
  go_enter Try.func54, Try.ntmps54
  go_wp2_with fail
  refine H.out.mono ?_
  rintro e w1 ⟨rfl, hF1⟩
  have c0 := hF1.cell (p := ⟨w.heap.size, 0, none⟩) (v := .int .u32 a) (by simp) (by simp)
  have c1 := hF1.cell (p := ⟨w.heap.size, 1, none⟩) (v := .int .u32 n) (by simp) (by simp)
  go_wp2_with fail
  refine (H2.out w1 (hF0.trans0 hF1)).mono ?_
  rintro e w2 ⟨rfl, hF2⟩
  have d0 := hF2.cell c0 (by simp)
  have d1 := hF2.cell c1 (by simp)
  have F02 : Fr [] w w2 := (hF0.trans0 hF1).trans0 hF2
  clear H H2 c0 c1 hF1 hF0 hF2
  go_wp2_with fail
  go_quiet (fail)
  obtain ⟨w3, hw3⟩ : ∃ w3, w3 = w2.drewN nq := ⟨_, rfl⟩
  rw [← hw3]
  have F23 : Fr [] w2 w3 := hw3 ▸ (Fr.refl _ _).drewN _
  clear hw3
  go_wp2_with fail
  go_quiet (fail)
  obtain ⟨w5, hw5⟩ : ∃ w5, w5 = w3.drewN nq := ⟨_, rfl⟩
  rw [← hw5]
  have F5 : Fr [] w3 w5 := hw5 ▸ (Fr.refl _ _).drewN _
  clear hw5
  have FW : Fr [] w w5 := (F02.trans0 F23).trans0 F5
  have b0 := F5.cell (F23.cell d0 (by simp)) (by simp)
  have b1 := F5.cell (F23.cell d1 (by simp)) (by simp)
  have HMF := hid (HM.out.fr FW (by simp) (by simp))
  have m1 := HMF.out.c1
  have z0 := frozen_of_heap (o := 1) HMF.out.blk
  have lbF : bm < w5.heap.size := lt_of_heap HMF.out.blk
  have lnF : w.heap.size < w5.heap.size := World.block_lt_of_cell? w5 _ b0
  have HJ : Hid (Canon [(a, n)] k ∧ ∀ b, In [(a, n)] b ↔ In [] b ∨ (a ≤ b ∧ b < a + n)) := ⟨Canon.single hn ho, fun b => by
    rw [In.single]
    exact ⟨.inr, fun h => h.elim (fun ⟨i, hi, _⟩ => by simp at hi) id⟩⟩
  clear d0 d1
  go_wp2_with fail
  go_region_law ((refine step_call rfl 73 #[.tmp 83, .tmp 84, .tmp 85, .tmp 87] #[48, 3, 3, 48] rfl he73 #[.slice none 0 0, .int .i64 ((0 : Nat) : Int), .int .i64 ((0 : Nat) : Int), .slice (some ⟨w5.heap.size, 0, none⟩) 1 1] (by kernel_rfl) ?_; refine (replace_any _ _ [] [(a, n)] 0 0 _ (HMF.out.row.fr (show Fr [] w5 _ from Fr.drew (Fr.alloc (Fr.refl _ _) _)) (by simp)) (row_one_drew w5 _ _ a n _ rfl rfl rfl) (fun g1 h1 => by simp [Value.ownBlock]) (by simp) (by simp) (by omega) (by omega) (by simp)).mono ?_; rintro e w6 ⟨lv', rfl, hR6, hL6, hF6⟩; have HL6 : Hid (∀ g', lv'.ownBlock = some g' → (w5.alloc (.cells #[.int .u32 a, .int .u32 n] 83)).heap.size ≤ g') := hL6; clear hL6; have hJ6 := HJ.out; generalize hl6 : [(a, n)] = l6 at hR6 hJ6; simp only [List.take_nil, List.drop_nil, List.nil_append, List.append_nil] at hR6; clear hl6; have HJ6 := hid hJ6; clear hJ6; obtain ⟨p6, c6, rfl⟩ := hR6.form; have hb6 := hF6.heap (show ((w5.alloc _).drew).heap[bm]? = _ from (Below.heap_alloc w5 _ bm lbF).trans HMF.out.blk) (by simp [Value.ownBlock]); have z6 := frozen_of_heap (o := 1) hb6; have m6 := cell_of_heap (o := 1) (v := .slice none 0 0) hb6 rfl; refine ⟨_, rfl, ?_⟩))
  all_goals
    go_wp2
    go_ret
    refine ⟨rfl, _, _, ⟨set1 hb6, hR6.fr ((Fr.refl [bm] w6).setCell (p := ⟨bm, 1, none⟩) (by simp) _) (fun g1 h1 => by simp; exact Row.ne hR6 hb6 (by decide) g1 h1), HJ6.out.1, hk⟩, HJ6.out.2, fun g' hg' => by have := HL6.out g' hg'; have := FW.size; rw [World.size_alloc] at *; show w.heap.size ≤ g'; omega, ?_⟩
    exact (((FW.mono (T := [bm]) (by simp)).trans (((Fr.refl [] w5).alloc _).drew) (by simp)).trans (hF6.mono (T := [bm]) (by simp [Value.ownBlock])) (fun t ht => .inl ht)).setCell (by simp) _

theorem first_of (p : Nat → Prop) (hp : ∀ k, p k ∨ ¬ p k) : ∀ N, ∃ r, r ≤ N ∧ (∀ k, k < r → ¬ p k) ∧ (r < N → p r)
  | 0 => ⟨0, Nat.le_refl _, fun k hk => absurd hk (Nat.not_lt_zero _), fun h => absurd h (Nat.lt_irrefl _)⟩
  | N + 1 => by
    obtain ⟨r, h1, h2, h3⟩ := first_of p hp N
    rcases Nat.lt_or_ge r N with h | h
    · exact ⟨r, by omega, h2, fun _ => h3 h⟩
    · obtain rfl : r = N := by omega
      rcases hp r with q | q
      · exact ⟨r, by omega, h2, fun _ => q⟩
      · exact ⟨r + 1, Nat.le_refl _, fun k hk => by rcases Nat.eq_or_lt_of_le (Nat.le_of_lt_succ hk) with e | e; (subst e; exact q); exact h2 k e, fun h => absurd h (Nat.lt_irrefl _)⟩
theorem Canon.cuts {l : List (Nat × Nat)} {m : Nat} (h : Canon l m) (a n : Nat) (hn : 1 ≤ n) : ∃ i j, Cuts l a n i j := by
  obtain ⟨i, hi, i1, i2⟩ := first_of (fun k => a < fs l k + sn l k) (fun k => by omega) l.length
  obtain ⟨j, hj, j1, j2⟩ := first_of (fun k => a + n ≤ fs l k) (fun k => by omega) l.length
  have e1 : ∀ k, i ≤ k → k < l.length → a < fs l k + sn l k := fun k hk hl => by have := h.mono i k hk hl; have := i2 (by omega); omega
  have e2 : ∀ k, j ≤ k → k < l.length → a + n ≤ fs l k := fun k hk hl => by have := h.mono j k hk hl; have := j2 (by omega); omega
  refine ⟨i, j, ?_, hj, fun k hk => by have := i1 k hk; omega, e1, fun k hk => by have := j1 k hk; omega, e2⟩
  rcases Nat.lt_or_ge j i with q | q
  · have := i1 j q; have := e2 j (Nat.le_refl _) (by omega); omega
  · exact q

/-- What lending a span comes to. -/
def Lends (w w' : World) (bm bb k a n : Nat) (lv : Value) (l : List (Nat × Nat)) (c : Int) : Prop :=
  (c = 10 ∧ (n = 0 ∨ k < a + n) ∧ Fr [] w w') ∨
  (c = 11 ∧ 1 ≤ n ∧ a + n ≤ k ∧ (∃ b, a ≤ b ∧ b < a + n ∧ In l b) ∧ Fr [] w w') ∨
  (c = 0 ∧ 1 ≤ n ∧ a + n ≤ k ∧ (∀ b, a ≤ b → b < a + n → ¬ In l b) ∧ ∃ lv' l', MemB w' bm bb k lv' l' ∧ (∀ b, In l' b ↔ In l b ∨ (a ≤ b ∧ b < a + n)) ∧ (∀ g', lv'.ownBlock = some g' → lo w lv ≤ g') ∧ Fr (bm :: lv.ownBlock.toList) w w')
theorem lend_any (bm bb k a n : Nat) (lv : Value) (l : List (Nat × Nat)) (w : World) (hM : MemB w bm bb k lv l) (ha : a < 4294967296) (hn : n < 4294967296) :
    Calls Try.prog 54 #[.pointer (some ⟨bm, 0, none⟩), .agg #[.int .u32 a, .int .u32 n]] w fun e w' => ∃ c, e = .returned (.int .i64 c) ∧ Lends w w' bm bb k a n lv l c := by
  by_cases h1 : n = 0 ∨ k < a + n
  · exact (lend_out bm bb k a n lv l w hM ha hn h1).mono fun e w' ⟨h2, h3⟩ => ⟨10, h2, .inl ⟨rfl, h1, h3⟩⟩
  · have g1 : 1 ≤ n := by omega
    have g2 : a + n ≤ k := by omega
    by_cases h2 : ∃ b, a ≤ b ∧ b < a + n ∧ In l b
    · exact (lend_lent bm bb k a n lv l w hM g1 g2 h2).mono fun e w' ⟨h3, h4⟩ => ⟨11, h3, .inr (.inl ⟨rfl, g1, g2, h2, h4⟩)⟩
    · have h3 : ∀ b, a ≤ b → b < a + n → ¬ In l b := fun b q1 q2 q3 => h2 ⟨b, q1, q2, q3⟩
      suffices h : Calls Try.prog 54 #[.pointer (some ⟨bm, 0, none⟩), .agg #[.int .u32 a, .int .u32 n]] w fun e w' => e = .returned (.int .i64 0) ∧ ∃ lv' l', MemB w' bm bb k lv' l' ∧ (∀ b, In l' b ↔ In l b ∨ (a ≤ b ∧ b < a + n)) ∧ (∀ g', lv'.ownBlock = some g' → lo w lv ≤ g') ∧ Fr (bm :: lv.ownBlock.toList) w w' from
        h.mono fun e w' ⟨q1, q2⟩ => ⟨0, q1, .inr (.inr ⟨rfl, g1, g2, h3, q2⟩)⟩
      rcases hM.lnt.shape with ⟨e, hl⟩ | ⟨g, cap, e, hcap, hcm, hR, hgl⟩
      · subst e; subst hl
        exact lend_nil bm bb k a n w hM g1 g2
      · subst e
        obtain ⟨i, j, C⟩ := hM.can.cuts a n g1
        have hij : j = i := by
          rcases Nat.eq_or_lt_of_le C.ij with e | e
          · exact e.symm
          · obtain ⟨b, q1, q2, q3⟩ := (C.some hM.can g1).1 e
            exact absurd q3 (h3 b q1 q2)
        subst hij
        rcases Nat.eq_or_lt_of_le C.jn with r | r <;> rcases Nat.eq_zero_or_pos j with z | z
        · exact lend_00 bm bb k a n g cap l w hM g1 g2 h3 j C r z
        · rcases Nat.decEq (fs l (j - 1) + sn l (j - 1)) a with y | y
          · exact lend_01 bm bb k a n g cap l w hM g1 g2 h3 j C r z y
          · exact lend_02 bm bb k a n g cap l w hM g1 g2 h3 j C r z y
        · rcases Nat.decEq (fs l j) (a + n) with x | x
          · exact lend_10 bm bb k a n g cap l w hM g1 g2 h3 j C r x z
          · exact lend_20 bm bb k a n g cap l w hM g1 g2 h3 j C r x z
        · rcases Nat.decEq (fs l j) (a + n) with x | x <;> rcases Nat.decEq (fs l (j - 1) + sn l (j - 1)) a with y | y
          · exact lend_11 bm bb k a n g cap l w hM g1 g2 h3 j C r x z y
          · exact lend_12 bm bb k a n g cap l w hM g1 g2 h3 j C r x z y
          · exact lend_21 bm bb k a n g cap l w hM g1 g2 h3 j C r x z y
          · exact lend_22 bm bb k a n g cap l w hM g1 g2 h3 j C r x z y

/-- What taking a span back comes to. -/
def Backs (w w' : World) (bm bb k a n : Nat) (lv : Value) (l : List (Nat × Nat)) (c : Int) : Prop :=
  (c = 10 ∧ (n = 0 ∨ k < a + n) ∧ Fr [] w w') ∨
  (c = 12 ∧ 1 ≤ n ∧ a + n ≤ k ∧ (¬ ∀ b, a ≤ b → b < a + n → In l b) ∧ Fr [] w w') ∨
  (c = 0 ∧ 1 ≤ n ∧ a + n ≤ k ∧ (∀ b, a ≤ b → b < a + n → In l b) ∧ ∃ lv' l', MemB w' bm bb k lv' l' ∧ (∀ b, In l' b ↔ In l b ∧ ¬ (a ≤ b ∧ b < a + n)) ∧ (∀ g', lv'.ownBlock = some g' → lo w lv ≤ g') ∧ Fr (bm :: lv.ownBlock.toList) w w')
theorem back_any (bm bb k a n : Nat) (lv : Value) (l : List (Nat × Nat)) (w : World) (hM : MemB w bm bb k lv l) (ha : a < 4294967296) (hn : n < 4294967296) :
    Calls Try.prog 87 #[.pointer (some ⟨bm, 0, none⟩), .agg #[.int .u32 a, .int .u32 n]] w fun e w' => ∃ c, e = .returned (.int .i64 c) ∧ Backs w w' bm bb k a n lv l c := by
  by_cases h1 : n = 0 ∨ k < a + n
  · exact (back_out bm bb k a n lv l w hM ha hn h1).mono fun e w' ⟨h2, h3⟩ => ⟨10, h2, .inl ⟨rfl, h1, h3⟩⟩
  · have g1 : 1 ≤ n := by omega
    have g2 : a + n ≤ k := by omega
    by_cases h2 : ∀ b, a ≤ b → b < a + n → In l b
    · rcases hM.lnt.shape with ⟨e, hl⟩ | ⟨g, cap, e, hcap, hcm, hR, hgl⟩
      · subst hl
        obtain ⟨p, hp, _⟩ := h2 a (Nat.le_refl _) (by omega)
        simp at hp
      · subst e
        exact (back_ok bm bb k a n g cap l w hM g1 g2 h2).mono fun e w' ⟨h3, h4⟩ => ⟨0, h3, .inr (.inr ⟨rfl, g1, g2, h2, h4⟩)⟩
    · exact (back_kept bm bb k a n lv l w hM g1 g2 h2).mono fun e w' ⟨h3, h4⟩ => ⟨12, h3, .inr (.inl ⟨rfl, g1, g2, h2, h4⟩)⟩
end Go.Proofs.Ytfiaciniikcacaa
