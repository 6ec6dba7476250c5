/-
  The walks of the document's answer for layer 1 (package pharosref01), further: lending, taking back, and what is lent as spans. No statement is proved here.
-/
import Derived.Test.YtbkfgidmjkbfmaaRef2
namespace Go.Proofs.Ytbkfgidmjkbfmaa
open Go.RowKit Go.BigFrame
set_option linter.unusedVariables false
set_option linter.unusedSimpArgs false
set_option maxRecDepth 1000000
set_option maxHeartbeats 4000000

theorem bool_set (ls : List Bool) (i : Nat) (x : Bool) (w : World) (b : Nat) (h : w.heap[b]? = some (.cells (ls.map Value.bool).toArray 4)) : (w.setCell ⟨b, i, none⟩ (.bool x)).heap[b]? = some (.cells ((ls.set i x).map Value.bool).toArray 4) := by
  simp [World.setCell, Array.getElem?_modify, h, List.map_set]
theorem cell_bool {w : World} {b : Nat} {ls : List Bool} (h : w.heap[b]? = some (.cells (ls.map Value.bool).toArray 4)) (i : Nat) (hi : i < ls.length) : w.cell? ⟨b, i, none⟩ = some (.bool ls[i]) :=
  cell_of_heap h (by simp [hi])
/-- What is turned so far. -/
def Turned (w0 w : World) (bL k a i : Nat) (t : Bool) (l : List (Nat × Nat)) : Prop :=
  ∃ ls : List Bool, ls.length = k ∧ (∀ j, j < k → (ls[j]? = some true ↔ (if a ≤ j ∧ j < a + i then t = true else In l j))) ∧ w.heap[bL]? = some (.cells (ls.map Value.bool).toArray 4) ∧ Fr [bL] w0 w
theorem Turned.zero {w0 w : World} {br bB bL k a : Nat} {t : Bool} {l : List (Nat × Nat)} {bs : List UInt8} (h : RefA w br bB bL k l bs) (hF : Fr [] w0 w) : Turned w0 w bL k a 0 t l := by
  obtain ⟨ls, g1, g2, g3⟩ := h.lent
  exact ⟨ls, g1, fun j hj => by rw [if_neg (by omega)]; exact g2 j hj, g3, hF.mono (by simp)⟩
theorem Turned.cells {w0 w : World} {bL k a i : Nat} {t : Bool} {l : List (Nat × Nat)} (h : Turned w0 w bL k a i t l) (ho : a + i < k) : (∃ x, w.cell? ⟨bL, a + i, none⟩ = some x) ∧ w.frozen? ⟨bL, a + i, none⟩ = false := by
  obtain ⟨ls, g1, g2, g3, g4⟩ := h
  exact ⟨⟨_, cell_bool g3 (a + i) (by omega)⟩, frozen_of_heap g3⟩
theorem Turned.step {w0 w : World} {bL k a i : Nat} {t : Bool} {l : List (Nat × Nat)} (h : Turned w0 w bL k a i t l) (ho : a + i < k) : Turned w0 (w.setCell ⟨bL, a + i, none⟩ (.bool t)).drew bL k a (i + 1) t l := by
  obtain ⟨ls, g1, g2, g3, g4⟩ := h
  refine ⟨ls.set (a + i) t, by rw [List.length_set]; exact g1, fun j hj => ?_, bool_set ls (a + i) t w bL g3, (g4.setCell (by simp) _).drew⟩
  by_cases e : a + i = j
  · subst e
    rw [if_pos (by omega), List.getElem?_set, if_pos rfl, if_pos (by omega)]
    simp
  · rw [List.getElem?_set, if_neg e, g2 j hj]
    by_cases hr : a ≤ j ∧ j < a + i
    · rw [if_pos hr, if_pos (by omega)]
    · rw [if_neg hr, if_neg (by omega)]
theorem rturn_any (br bB bL k a n : Nat) (t : Bool) (err : Int) (l : List (Nat × Nat)) (bs : List UInt8) (w : World) (hR : RefA w br bB bL k l bs) (ha : a < 4294967296) (hn : n < 4294967296) :
    Calls Try.prog 71 #[.pointer (some ⟨br, 0, none⟩), .agg #[.int .u32 a, .int .u32 n], .bool t, .int .i64 err] w fun e w' =>
      ((n = 0 ∨ k < a + n) ∧ e = .returned (.int .i64 10) ∧ Fr [] w w') ∨ (1 ≤ n ∧ a + n ≤ k ∧ (¬ ∀ j, a ≤ j → j < a + n → (In l j ↔ (!t) = true)) ∧ e = .returned (.int .i64 err) ∧ Fr [] w w') ∨
      (1 ≤ n ∧ a + n ≤ k ∧ (∀ j, a ≤ j → j < a + n → (In l j ↔ (!t) = true)) ∧ e = .returned (.int .i64 0) ∧ Turned w w' bL k a n t l) := by
  have hk := hR.top
  have F0 : Fr [] w (w.alloc (.cells #[.int .u32 a, .int .u32 n] 59)) := (Fr.refl _ _).alloc _
  have hR0 := hR.fr0 F0
  by_cases h0 : n = 0
  · subst h0
    clear hR hR0 F0
    go_enter Try.func71, Try.ntmps71
    go_wp2
    go_ret
    exact .inl ⟨by simp, rfl, (Fr.refl _ _).alloc _⟩
  · have hb0 : ((n : Int) == 0) = false := by simp; omega
    by_cases h1 : a + n ≤ k
    · have H1 := hid (rin_any br bB bL k a n l bs _ hR0 ha (by omega) true ⟨fun _ => ⟨by omega, by omega⟩, fun _ => rfl⟩)
      by_cases h2 : ∀ j, a ≤ j → j < a + n → (In l j ↔ (!t) = true)
      · have H2 := hid (rall_any br bB bL k a n (!t) l bs _ hR0 h1 true ⟨fun _ => h2, fun _ => rfl⟩)
        have HH := hid h2
        have HR := hid hR0
        have HT := hid (Turned.zero (a := a) (t := t) hR0 (Fr.refl [] _))
        have HF0 := hid F0
        have cc1 := hR0.c1
        have hne := hR0.ne
        obtain ⟨ls, _, _, gL⟩ := hR.lent
        have lL : bL ≠ w.heap.size := by have := lt_of_heap gL; omega
        have hx := heap_alloc_new w (.cells #[.int .u32 a, .int .u32 n] 59)
        have b0 := cell_of_heap (o := 0) hx rfl
        have b1 := cell_of_heap (o := 1) hx rfl
        clear h2 hR hR0 F0 gL hx
        go_enter Try.func71, Try.ntmps71
        go_wp2_with (first | (go_at_call 41; refine H1.out.mono ?_; rintro e w1 ⟨rfl, hw⟩; subst hw) | (go_at_call 80; refine H2.out.mono ?_; rintro e w2 ⟨rfl, hw⟩; subst hw))
        go_loopw [9] (fun q wr => ∃ i : Nat, i ≤ n ∧ q = .int .i64 i ∧ Hid (Turned (w.alloc (.cells #[.int .u32 a, .int .u32 n] 59)) wr bL k a i t l)) (fun q _ => n - (intOf q).toNat)
        case atStart => exact ⟨0, Nat.zero_le _, rfl, HT⟩
        case round =>
          obtain ⟨i, hi, rfl, I⟩ := hrel
          obtain ⟨_, _, _, _, g4⟩ := I.out
          have b0' := g4.cell b0 (by simpa using Ne.symm lL)
          have b1' := g4.cell b1 (by simpa using Ne.symm lL)
          have cc1' := g4.cell cc1 (by simpa using hne.2.1)
          clear g4
          by_cases hlt : i < n
          · have hlt' : (i : Int) < (n : Int) := by omega
            obtain ⟨⟨x, hcx⟩, z0⟩ := I.out.cells (by omega)
            clear b0 b1 cc1
            go_wp2
            go_region
            all_goals
              go_wp2
              go_roundw
              case rel => exact ⟨i + 1, by omega, by go_num, hid (I.out.step (by omega))⟩
              case measure => simp [intOf]; omega
          · obtain rfl : i = n := by omega
            clear b0 b1 cc1
            go_wp2
            go_ret
            refine .inr (.inr ⟨by omega, h1, HH.out, rfl, ?_⟩)
            obtain ⟨ls', g1, g2, g3, g4⟩ := I.out
            exact ⟨ls', g1, g2, g3, (HF0.out.mono (by simp)).trans g4 (fun t ht => .inl ht)⟩
      · have H2 := hid (rall_any br bB bL k a n (!t) l bs _ hR0 h1 false ⟨fun h => Bool.noConfusion h, fun h => absurd h h2⟩)
        have HH := hid h2
        clear h2 hR hR0 F0
        go_enter Try.func71, Try.ntmps71
        go_wp2_with (first | (go_at_call 41; refine H1.out.mono ?_; rintro e w1 ⟨rfl, hw⟩; subst hw) | (go_at_call 80; refine H2.out.mono ?_; rintro e w2 ⟨rfl, hw⟩; subst hw))
        go_ret
        exact .inr (.inl ⟨by omega, h1, HH.out, rfl, (Fr.refl _ _).alloc _⟩)
    · have H1 := hid (rin_any br bB bL k a n l bs _ hR0 ha (by omega) false ⟨fun h => Bool.noConfusion h, fun h => by omega⟩)
      clear hR hR0 F0
      go_enter Try.func71, Try.ntmps71
      go_wp2_with (go_at_call 41; refine H1.out.mono ?_; rintro e w1 ⟨rfl, hw⟩; subst hw)
      go_ret
      exact .inl ⟨.inr (by omega), rfl, (Fr.refl _ _).alloc _⟩

theorem rlend_any (br bB bL k a n : Nat) (l : List (Nat × Nat)) (bs : List UInt8) (w : World) (hR : RefA w br bB bL k l bs) (ha : a < 4294967296) (hn : n < 4294967296) :
    Calls Try.prog 48 #[.pointer (some ⟨br, 0, none⟩), .agg #[.int .u32 a, .int .u32 n]] w fun e w' =>
      ((n = 0 ∨ k < a + n) ∧ e = .returned (.int .i64 10) ∧ Fr [] w w') ∨ (1 ≤ n ∧ a + n ≤ k ∧ (¬ ∀ j, a ≤ j → j < a + n → (In l j ↔ (!true) = true)) ∧ e = .returned (.int .i64 11) ∧ Fr [] w w') ∨
      (1 ≤ n ∧ a + n ≤ k ∧ (∀ j, a ≤ j → j < a + n → (In l j ↔ (!true) = true)) ∧ e = .returned (.int .i64 0) ∧ Turned w w' bL k a n true l) := by
  have F0 : Fr [] w (w.alloc (.cells #[.int .u32 a, .int .u32 n] 59)) := (Fr.refl _ _).alloc _
  have H := hid (rturn_any br bB bL k a n true 11 l bs _ (hR.fr0 F0) ha hn)
  have HF0 := hid F0
  clear hR F0
  go_enter Try.func48, Try.ntmps48
  go_wp2_with fail
  refine H.out.mono ?_
  rintro e w1 (⟨h1, rfl, h2⟩ | ⟨h1, h2, h3, rfl, h4⟩ | ⟨h1, h2, h3, rfl, h4⟩)
  · have HH := hid h1
    clear h1
    go_wp2
    go_ret
    exact .inl ⟨HH.out, rfl, HF0.out.trans0 h2⟩
  · have HH := hid h3
    clear h3
    go_wp2
    go_ret
    exact .inr (.inl ⟨h1, h2, HH.out, rfl, HF0.out.trans0 h4⟩)
  · have HH := hid h3
    have H4 := hid h4
    clear h3 h4
    go_wp2
    go_ret
    refine .inr (.inr ⟨h1, h2, HH.out, rfl, ?_⟩)
    obtain ⟨ls', g1, g2, g3, g4⟩ := H4.out
    exact ⟨ls', g1, g2, g3, (HF0.out.mono (by simp)).trans g4 (fun t ht => .inl ht)⟩

theorem rback_any (br bB bL k a n : Nat) (l : List (Nat × Nat)) (bs : List UInt8) (w : World) (hR : RefA w br bB bL k l bs) (ha : a < 4294967296) (hn : n < 4294967296) :
    Calls Try.prog 49 #[.pointer (some ⟨br, 0, none⟩), .agg #[.int .u32 a, .int .u32 n]] w fun e w' =>
      ((n = 0 ∨ k < a + n) ∧ e = .returned (.int .i64 10) ∧ Fr [] w w') ∨ (1 ≤ n ∧ a + n ≤ k ∧ (¬ ∀ j, a ≤ j → j < a + n → (In l j ↔ (!false) = true)) ∧ e = .returned (.int .i64 12) ∧ Fr [] w w') ∨
      (1 ≤ n ∧ a + n ≤ k ∧ (∀ j, a ≤ j → j < a + n → (In l j ↔ (!false) = true)) ∧ e = .returned (.int .i64 0) ∧ Turned w w' bL k a n false l) := by
  have F0 : Fr [] w (w.alloc (.cells #[.int .u32 a, .int .u32 n] 59)) := (Fr.refl _ _).alloc _
  have H := hid (rturn_any br bB bL k a n false 12 l bs _ (hR.fr0 F0) ha hn)
  have HF0 := hid F0
  clear hR F0
  go_enter Try.func49, Try.ntmps49
  go_wp2_with fail
  refine H.out.mono ?_
  rintro e w1 (⟨h1, rfl, h2⟩ | ⟨h1, h2, h3, rfl, h4⟩ | ⟨h1, h2, h3, rfl, h4⟩)
  · have HH := hid h1
    clear h1
    go_wp2
    go_ret
    exact .inl ⟨HH.out, rfl, HF0.out.trans0 h2⟩
  · have HH := hid h3
    clear h3
    go_wp2
    go_ret
    exact .inr (.inl ⟨h1, h2, HH.out, rfl, HF0.out.trans0 h4⟩)
  · have HH := hid h3
    have H4 := hid h4
    clear h3 h4
    go_wp2
    go_ret
    refine .inr (.inr ⟨h1, h2, HH.out, rfl, ?_⟩)
    obtain ⟨ls', g1, g2, g3, g4⟩ := H4.out
    exact ⟨ls', g1, g2, g3, (HF0.out.mono (by simp)).trans g4 (fun t ht => .inl ht)⟩
end Go.Proofs.Ytbkfgidmjkbfmaa
