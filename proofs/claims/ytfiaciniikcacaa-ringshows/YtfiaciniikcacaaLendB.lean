/-
  The walk of 'lend' of package mem: a span is lent, and joined with those that it touches.
-/
import Derived.Test.YtfiaciniikcacaaSpansB
namespace Go.Proofs.Ytfiaciniikcacaa
open Go.RowKit Go.BigFrame
set_option linter.unusedVariables false
set_option linter.unusedSimpArgs false
set_option maxRecDepth 100000
set_option maxHeartbeats 4000000

/-- The memory's two fields: so many bytes, and what is lent. -/
structure MemB (w : World) (bm bb k : Nat) (lv : Value) (l : List (Nat × Nat)) : Prop where
  blk : w.heap[bm]? = some (.cells #[.slice (some ⟨bb, 0, none⟩) k k, lv] 74)
  row : Row w lv l
  can : Canon l k
  top : k ≤ 1048576

theorem MemB.c0 {w : World} {bm bb k : Nat} {lv : Value} {l : List (Nat × Nat)} (h : MemB w bm bb k lv l) : w.cell? ⟨bm, 0, none⟩ = some (.slice (some ⟨bb, 0, none⟩) k k) := cell_of_heap h.blk rfl
theorem MemB.c1 {w : World} {bm bb k : Nat} {lv : Value} {l : List (Nat × Nat)} (h : MemB w bm bb k lv l) : w.cell? ⟨bm, 1, none⟩ = some lv := cell_of_heap h.blk rfl
theorem MemB.lnt {w : World} {bm bb k : Nat} {lv : Value} {l : List (Nat × Nat)} (h : MemB w bm bb k lv l) : Lnt w bm lv l := ⟨h.c1, h.row⟩
theorem MemB.own {w : World} {bm bb k : Nat} {lv : Value} {l : List (Nat × Nat)} (h : MemB w bm bb k lv l) : lv.ownBlock ≠ some bm := by
  intro e
  rcases h.row.2 with ⟨rfl, _⟩ | ⟨g, cap, cur, rfl, _, hg, _⟩
  · cases e
  · simp only [Value.ownBlock, Option.some.injEq] at e
    subst e
    rw [h.blk] at hg; cases hg
theorem MemB.fr {S : List Nat} {w w' : World} {bm bb k : Nat} {lv : Value} {l : List (Nat × Nat)} (h : MemB w bm bb k lv l) (hF : Fr S w w') (h1 : bm ∉ S) (h2 : ∀ g, lv.ownBlock = some g → g ∉ S) : MemB w' bm bb k lv l :=
  ⟨hF.heap h.blk h1, h.row.fr hF h2, h.can, h.top⟩

theorem lend_out (bm bb k a n : Nat) (lv : Value) (l : List (Nat × Nat)) (w : World) (hM : MemB w bm bb k lv l) (ha : a < 4294967296) (hn : n < 4294967296) (ho : n = 0 ∨ k < a + n) :
    Calls Try.prog 54 #[.pointer (some ⟨bm, 0, none⟩), .agg #[.int .u32 a, .int .u32 n]] w fun e w' => e = .returned (.int .i64 10) ∧ Fr [] w w' := by
  have hF0 : Fr [] w (w.alloc (.cells #[.int .u32 a, .int .u32 n] 83)) := (Fr.refl _ _).alloc _
  have H := hid (mayBe_no bm bb a n k _ ha hn hM.top (hF0.cell hM.c0 (by simp)) ho)
  clear hM
  go_enter Try.func54, Try.ntmps54
  go_wp2_with fail
  refine H.out.mono ?_
  rintro e w1 ⟨rfl, hF⟩
  go_wp2
  go_ret
  exact ⟨rfl, hF0.trans0 hF⟩

theorem lend_lent (bm bb k a n : Nat) (lv : Value) (l : List (Nat × Nat)) (w : World) (hM : MemB w bm bb k lv l) (hn : 1 ≤ n) (ho : a + n ≤ k) (hs : ∃ b, a ≤ b ∧ b < a + n ∧ In l b) :
    Calls Try.prog 54 #[.pointer (some ⟨bm, 0, none⟩), .agg #[.int .u32 a, .int .u32 n]] w fun e w' => e = .returned (.int .i64 11) ∧ Fr [] w w' := by
  have hk := hM.top
  have hF0 : Fr [] w (w.alloc (.cells #[.int .u32 a, .int .u32 n] 83)) := (Fr.refl _ _).alloc _
  have H := hid (mayBe_yes bm bb a n k _ (by omega) (by omega) hM.top (hF0.cell hM.c0 (by simp)) hn ho)
  have cm := hF0.cell hM.c1 (by simp)
  rcases hM.lnt.shape with ⟨e, hl⟩ | ⟨g, cap, e, hcap, hcm, hR, hgl⟩
  · subst hl; obtain ⟨b, _, _, p, hp, _⟩ := hs; simp at hp
  · subst e
    have hc := hM.can
    have hll := hc.len
    have H2 := hid (fun W (hF : Fr [] w W) => cut_row bm g cap a n l W (by omega) (by omega) (by omega) hcap (hF.cell hM.c1 (by simp)) (hR.fr hF (by simp)) (fun i hi => by have := hc.top i hi; omega) (fun i j => hc.mono i j))
    have HC := hid hc
    clear cm hR hM hc
    go_enter Try.func54, Try.ntmps54
    go_wp2_with fail
    refine H.out.mono ?_
    rintro e w1 ⟨rfl, hF1⟩
    have c0 := hF1.cell (p := ⟨w.heap.size, 0, none⟩) (v := .int .u32 a) (by simp) (by simp)
    have c1 := hF1.cell (p := ⟨w.heap.size, 1, none⟩) (v := .int .u32 n) (by simp) (by simp)
    go_wp2_with fail
    refine (H2.out w1 (hF0.trans0 hF1)).mono ?_
    rintro e w2 ⟨i, j, C, rfl, hF2⟩
    have hij : i < j := (C.some HC.out hn).2 hs
    have y1 : (0 : Int) < ((j - i : Nat) : Int) := by omega
    go_wp2
    go_ret
    exact ⟨rfl, (hF0.trans0 hF1).trans0 hF2⟩

theorem he73 (args : Array Value) (w : World) : (callFunc 73 args).run Try.prog w = .ok (.enter 73 args) w := enters Try.func73 (by kernel_rfl) (by kernel_rfl) args w
theorem he89 (args : Array Value) (w : World) : (callFunc 89 args).run Try.prog w = .ok (.enter 89 args) w := enters Try.func89 (by kernel_rfl) (by kernel_rfl) args w
theorem set1 {w : World} {b : Nat} {u v x : Value} {t : TypeId} (h : w.heap[b]? = some (.cells #[u, v] t)) : (w.setCell ⟨b, 1, none⟩ x).heap[b]? = some (.cells #[u, x] t) := by
  simp [World.setCell, Array.getElem?_modify, h]
theorem setB {w : World} {b A L v : Nat} (h : w.heap[b]? = some (.cells #[.int .u32 (A : Nat), .int .u32 (L : Nat)] 83)) {z : Int} (hz : z = ((L + v : Nat) : Int)) : ((w.setCell ⟨b, 1, none⟩ (.int .u32 z)).drew).heap[b]? = some (.cells #[.int .u32 (A : Nat), .int .u32 ((L + v : Nat) : Int)] 83) := by
  subst hz; exact set1 h
theorem setAB {w : World} {b A L : Nat} {u v : Value} (h : w.heap[b]? = some (.cells #[u, v] 83)) {z : Int} (hz : z = ((L : Nat) : Int)) : (((w.setCell ⟨b, 0, none⟩ (.int .u32 (A : Nat))).setCell ⟨b, 1, none⟩ (.int .u32 z)).drew).heap[b]? = some (.cells #[.int .u32 (A : Nat), .int .u32 (L : Nat)] 83) := by
  subst hz
  have h1 : (w.setCell ⟨b, 0, none⟩ (.int .u32 (A : Nat))).heap[b]? = some (.cells #[.int .u32 (A : Nat), v] 83) := by simp [World.setCell, Array.getElem?_modify, h]
  exact set1 h1
theorem Row.ne {w : World} {v : Value} {l : List (Nat × Nat)} {b : Nat} {c : Array Value} {t : TypeId} (h : Row w v l) (hb : w.heap[b]? = some (.cells c t)) (ht : t ≠ 83) : ∀ g, v.ownBlock = some g → g ≠ b := by
  intro g hg e
  subst e
  rcases h.2 with ⟨rfl, _⟩ | ⟨g', cap, cur, rfl, _, hh, _⟩
  · cases hg
  · simp only [Value.ownBlock, Option.some.injEq] at hg
    subst hg
    rw [hb] at hh; cases hh; exact ht rfl
theorem Cuts.same {l : List (Nat × Nat)} {a n i j : Nat} (h : Cuts l a n i i) (k : Cuts l a n j j) : i = j := by
  rcases Nat.lt_trichotomy i j with e | e | e
  · have h1 := h.ends i (Nat.le_refl _) (by have := k.jn; omega); have h2 := k.ahead i e; omega
  · exact e
  · have h1 := k.ends j (Nat.le_refl _) (by have := h.jn; omega); have h2 := h.ahead j e; omega
end Go.Proofs.Ytfiaciniikcacaa
