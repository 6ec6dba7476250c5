/-
  The walks of Lend, Back, Lent and Size of package mem's Mem, and of the calls of no memory.
-/
import Derived.Test.YtfiaciniikcacaaMeth
namespace Go.Proofs.Ytfiaciniikcacaa
open Go.RowKit Go.BigFrame
set_option linter.unusedVariables false
set_option linter.unusedSimpArgs false
set_option maxRecDepth 100000
set_option maxHeartbeats 4000000

theorem Lends.pre {w w1 w' : World} {bm bb k a n : Nat} {lv : Value} {l : List (Nat × Nat)} {c : Int} (h : Lends w1 w' bm bb k a n lv l c) (hF : Fr [] w w1) : Lends w w' bm bb k a n lv l c := by
  rcases h with ⟨h1, h2, h3⟩ | ⟨h1, h2, h3, h4, h5⟩ | ⟨h1, h2, h3, h4, lv', l', h5, h6, hL, h7⟩
  · exact .inl ⟨h1, h2, hF.trans0 h3⟩
  · exact .inr (.inl ⟨h1, h2, h3, h4, hF.trans0 h5⟩)
  · exact .inr (.inr ⟨h1, h2, h3, h4, lv', l', h5, h6, fun g' hg' => Nat.le_trans (lo_mono hF.size) (hL g' hg'), (hF.mono (by simp)).trans h7 (fun t ht => .inl ht)⟩)
theorem Backs.pre {w w1 w' : World} {bm bb k a n : Nat} {lv : Value} {l : List (Nat × Nat)} {c : Int} (h : Backs w1 w' bm bb k a n lv l c) (hF : Fr [] w w1) : Backs w w' bm bb k a n lv l c := by
  rcases h with ⟨h1, h2, h3⟩ | ⟨h1, h2, h3, h4, h5⟩ | ⟨h1, h2, h3, h4, lv', l', h5, h6, hL, h7⟩
  · exact .inl ⟨h1, h2, hF.trans0 h3⟩
  · exact .inr (.inl ⟨h1, h2, h3, h4, hF.trans0 h5⟩)
  · exact .inr (.inr ⟨h1, h2, h3, h4, lv', l', h5, h6, fun g' hg' => Nat.le_trans (lo_mono hF.size) (hL g' hg'), (hF.mono (by simp)).trans h7 (fun t ht => .inl ht)⟩)
/-- The handle and the bytes stay, where the fields and what is lent alone turn. -/
theorem MemA.mid' {w w' : World} {bM bm bb k : Nat} {lv lv' : Value} {l l' : List (Nat × Nat)} {bs : List UInt8} (h : MemA w bM bm bb k lv l bs) (hB : MemB w' bm bb k lv' l') (hF : Fr (bm :: lv.ownBlock.toList) w w') : MemA w' bM bm bb k lv' l' bs := by
  have ap := h.apart
  exact ⟨hF.heap h.top (by simp; exact ⟨ap.2.2.1, fun e => (ap.2.2.2 bM e).2.2 rfl⟩), hB, hF.heap h.bytes (by simp; exact ⟨Ne.symm ap.2.1, fun e => (ap.2.2.2 bb e).1 rfl⟩), h.len⟩

theorem he54 (args : Array Value) (w : World) : (callFunc 54 args).run Try.prog w = .ok (.enter 54 args) w := enters Try.func54 (by kernel_rfl) (by kernel_rfl) args w
theorem he87 (args : Array Value) (w : World) : (callFunc 87 args).run Try.prog w = .ok (.enter 87 args) w := enters Try.func87 (by kernel_rfl) (by kernel_rfl) args w

theorem mlend_nil (x : Value) (w : World) (hx : ∃ a n : Int, x = .agg #[.int .u32 a, .int .u32 n]) : Calls Try.prog 32 #[.pointer none, x] w fun e w' => e = .returned (.int .i64 1) ∧ Fr [] w w' := by
  obtain ⟨a, n, rfl⟩ := hx
  go_enter Try.func32, Try.ntmps32
  go_wp2_with (go_at_call 44; refine (none_nil _).mono ?_; rintro e w' ⟨rfl, hw⟩; subst hw)
  go_ret
  exact ⟨rfl, (Fr.refl _ _).alloc _⟩
theorem mback_nil (x : Value) (w : World) (hx : ∃ a n : Int, x = .agg #[.int .u32 a, .int .u32 n]) : Calls Try.prog 74 #[.pointer none, x] w fun e w' => e = .returned (.int .i64 1) ∧ Fr [] w w' := by
  obtain ⟨a, n, rfl⟩ := hx
  go_enter Try.func74, Try.ntmps74
  go_wp2_with (go_at_call 44; refine (none_nil _).mono ?_; rintro e w' ⟨rfl, hw⟩; subst hw)
  go_ret
  exact ⟨rfl, (Fr.refl _ _).alloc _⟩
theorem lent_nil (w : World) : Calls Try.prog 17 #[.pointer none] w fun e w' => e = .returned (.slice none 0 0) ∧ w' = w := by
  go_enter Try.func17, Try.ntmps17
  go_wp2_with (go_at_call 44; refine (none_nil _).mono ?_; rintro e w' ⟨rfl, rfl⟩)
  go_ret
  exact ⟨rfl, rfl⟩
theorem size_nil (w : World) : Calls Try.prog 30 #[.pointer none] w fun e w' => e = .returned (.int .i64 0) ∧ w' = w := by
  go_enter Try.func30, Try.ntmps30
  go_wp2_with (go_at_call 44; refine (none_nil _).mono ?_; rintro e w' ⟨rfl, rfl⟩)
  go_ret
  exact ⟨rfl, rfl⟩
theorem read_nil (at_ n : Int) (w : World) : Calls Try.prog 16 #[.pointer none, .int .u32 at_, .int .i64 n] w fun e w' => e = .returned (.tuple #[.string ⟨#[]⟩, .int .i64 1]) ∧ w' = w := by
  go_enter Try.func16, Try.ntmps16
  go_wp2_with (go_at_call 44; refine (none_nil _).mono ?_; rintro e w' ⟨rfl, rfl⟩)
  go_ret2
  exact ⟨rfl, rfl⟩
theorem get16_nil (at_ : Int) (w : World) : Calls Try.prog 50 #[.pointer none, .int .u32 at_] w fun e w' => e = .returned (.tuple #[.int .u16 0, .int .i64 1]) ∧ w' = w := by
  go_enter Try.func50, Try.ntmps50
  go_wp2_with (go_at_call 44; refine (none_nil _).mono ?_; rintro e w' ⟨rfl, rfl⟩)
  go_ret2
  exact ⟨rfl, rfl⟩
theorem get32_nil (at_ : Int) (w : World) : Calls Try.prog 52 #[.pointer none, .int .u32 at_] w fun e w' => e = .returned (.tuple #[.int .u32 0, .int .i64 1]) ∧ w' = w := by
  go_enter Try.func52, Try.ntmps52
  go_wp2_with (go_at_call 44; refine (none_nil _).mono ?_; rintro e w' ⟨rfl, rfl⟩)
  go_ret2
  exact ⟨rfl, rfl⟩
theorem get64_nil (at_ : Int) (w : World) : Calls Try.prog 51 #[.pointer none, .int .u32 at_] w fun e w' => e = .returned (.tuple #[.int .u64 0, .int .i64 1]) ∧ w' = w := by
  go_enter Try.func51, Try.ntmps51
  go_wp2_with (go_at_call 44; refine (none_nil _).mono ?_; rintro e w' ⟨rfl, rfl⟩)
  go_ret2
  exact ⟨rfl, rfl⟩
theorem mlend_any (bM bm bb k a n : Nat) (lv : Value) (l : List (Nat × Nat)) (bs : List UInt8) (w : World) (hM : MemA w bM bm bb k lv l bs) (ha : a < 4294967296) (hn : n < 4294967296) :
    Calls Try.prog 32 #[.pointer (some ⟨bM, 0, none⟩), .agg #[.int .u32 a, .int .u32 n]] w fun e w' => ∃ c, e = .returned (.int .i64 c) ∧ Lends w w' bm bb k a n lv l c := by
  have c0 := ((Fr.refl [] w).alloc (.cells #[.int .u32 a, .int .u32 n] 83)).cell hM.cp (by simp)
  have c1 := hM.cp
  have lM : bM < w.heap.size := lt_of_heap hM.top
  have HM := hid hM.mid
  clear hM
  go_enter Try.func32, Try.ntmps32
  go_wp2_with (go_at_call 44; refine (none_mem bM bm _ c0).mono ?_; rintro e w' ⟨rfl, hw⟩; subst hw)
  clear c0
  go_region_law ((refine step_call rfl 54 #[.tmp 10, .tmp 11] #[72, 83] rfl he54 #[.pointer (some ⟨bm, 0, none⟩), .agg #[.int .u32 a, .int .u32 n]] (by kernel_rfl) ?_; refine (lend_any bm bb k a n lv l _ (HM.out.fr (show Fr [] w _ from Fr.drew (Fr.alloc (Fr.refl _ _) _)) (by simp) (by simp)) ha hn).mono ?_; rintro e w6 ⟨c, rfl, hL⟩; refine ⟨_, rfl, ?_⟩))
  all_goals
    go_wp2
    go_ret
    exact ⟨c, rfl, hL.pre (Fr.drew (Fr.alloc (Fr.refl _ _) _))⟩
theorem mback_any (bM bm bb k a n : Nat) (lv : Value) (l : List (Nat × Nat)) (bs : List UInt8) (w : World) (hM : MemA w bM bm bb k lv l bs) (ha : a < 4294967296) (hn : n < 4294967296) :
    Calls Try.prog 74 #[.pointer (some ⟨bM, 0, none⟩), .agg #[.int .u32 a, .int .u32 n]] w fun e w' => ∃ c, e = .returned (.int .i64 c) ∧ Backs w w' bm bb k a n lv l c := by
  have c0 := ((Fr.refl [] w).alloc (.cells #[.int .u32 a, .int .u32 n] 83)).cell hM.cp (by simp)
  have c1 := hM.cp
  have lM : bM < w.heap.size := lt_of_heap hM.top
  have HM := hid hM.mid
  clear hM
  go_enter Try.func74, Try.ntmps74
  go_wp2_with (go_at_call 44; refine (none_mem bM bm _ c0).mono ?_; rintro e w' ⟨rfl, hw⟩; subst hw)
  clear c0
  go_region_law ((refine step_call rfl 87 #[.tmp 10, .tmp 11] #[72, 83] rfl he87 #[.pointer (some ⟨bm, 0, none⟩), .agg #[.int .u32 a, .int .u32 n]] (by kernel_rfl) ?_; refine (back_any bm bb k a n lv l _ (HM.out.fr (show Fr [] w _ from Fr.drew (Fr.alloc (Fr.refl _ _) _)) (by simp) (by simp)) ha hn).mono ?_; rintro e w6 ⟨c, rfl, hL⟩; refine ⟨_, rfl, ?_⟩))
  all_goals
    go_wp2
    go_ret
    exact ⟨c, rfl, hL.pre (Fr.drew (Fr.alloc (Fr.refl _ _) _))⟩
theorem lent_any (bM bm bb k : Nat) (lv : Value) (l : List (Nat × Nat)) (bs : List UInt8) (w : World) (hM : MemA w bM bm bb k lv l bs) :
    Calls Try.prog 17 #[.pointer (some ⟨bM, 0, none⟩)] w fun e w' => ∃ v, e = .returned v ∧ Row w' v l ∧ (∀ g, v.ownBlock = some g → w.heap.size ≤ g) ∧ Fr [] w w' := by
  have c0 := hM.cp
  have c1 := hM.mid.c1
  have hk := hM.mid.top
  have hl := hM.mid.can.len
  have HR := hid hM.mid.row
  clear hM
  go_enter Try.func17, Try.ntmps17
  go_wp2_with (first | (go_at_call 44; refine (none_mem bM bm _ c0).mono ?_; rintro e w' ⟨rfl, rfl⟩) | (at_builtin; refine wpList_append2 rfl (.const (.slice none 0 0)) (.tmp 11) rfl (.slice none 0 0) [] l rfl (World.ownsRow_nil _ _ _ _) _ rfl HR.out (by simp; omega) ?_; intro v' w1 h1 hL h2))
  go_ret
  exact ⟨v', rfl, h1, hL.out, h2⟩
end Go.Proofs.Ytfiaciniikcacaa
