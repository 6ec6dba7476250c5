/-
  The walk of 'step' of the statements of package mem: numbers that are put: both memories answer alike, and stay alike.
-/
import Derived.Test.YtbkfgidmjkbfmaaStepA
import Derived.Test.YtbkfgidmjkbfmaaNumOut
import Derived.Deep.RegionHeld
namespace Go.Proofs.Ytbkfgidmjkbfmaa
open Go.RowKit Go.BigFrame
set_option linter.unusedVariables false
set_option linter.unusedSimpArgs false
set_option maxRecDepth 1000000
set_option maxHeartbeats 4000000

theorem le_mod2 (x : Nat) : le 2 (x % 65536) = le 2 x := by
  have e0 : x % 65536 % 256 = x % 256 := by omega
  have e1 : x % 65536 / 256 % 256 = x / 256 % 256 := by omega
  simp [le, List.range_succ, e0, e1]
theorem le_mod4 (x : Nat) : le 4 (x % 4294967296) = le 4 x := by
  have e0 : x % 4294967296 % 256 = x % 256 := by omega
  have e1 : x % 4294967296 / 256 % 256 = x / 256 % 256 := by omega
  have e2 : x % 4294967296 / 65536 % 256 = x / 65536 % 256 := by omega
  have e3 : x % 4294967296 / 16777216 % 256 = x / 16777216 % 256 := by omega
  simp [le, List.range_succ, e0, e1, e2, e3]
theorem lputw_any (bM bm bb k a : Nat) (n : Int) (x : Nat) (lv : Value) (l : List (Nat × Nat)) (bs : List UInt8) (hx : x < 18446744073709551616) (w : World) (hM : MemA w bM bm bb k lv l bs) (ha : a < 4294967296) :
    Calls Try.prog 23 #[.pointer (some ⟨bM, 0, none⟩), .int .u32 a, .int .i64 n, .int .u64 x] w fun e w' => ∃ c, e = .returned (.int .i64 c) ∧ Writes w w' bM bm bb k a lv l bs ⟨(le (wid n) x).toArray⟩ c := by
  by_cases h1 : n.tmod 3 = 1
  · have d1 : (n.tmod 3 == 1) = true := by simp [h1]
    have HU := hid (mput32_any bM bm bb k a (x % 4294967296) lv l bs (by omega) w hM ha)
    have HW := hid (show wid n = 4 by unfold wid; simp [h1])
    clear hM
    go_enter Try.func23, Try.ntmps23
    go_wp2_with fail
    refine HU.out.mono ?_
    rintro e w1 ⟨c, rfl, hN⟩
    go_wp2
    go_ret
    exact ⟨c, rfl, by rw [HW.out, ← le_mod4]; exact hN⟩
  · have d1 : (n.tmod 3 == 1) = false := by simp [h1]
    by_cases h2 : n.tmod 3 = 2
    · have d2 : (n.tmod 3 == 2) = true := by simp [h2]
      have HU := hid (mput64_any bM bm bb k a x lv l bs hx w hM ha)
      have HW := hid (show wid n = 8 by unfold wid; simp [h2])
      clear hM
      go_enter Try.func23, Try.ntmps23
      go_wp2_with fail
      refine HU.out.mono ?_
      rintro e w1 ⟨c, rfl, hN⟩
      go_wp2
      go_ret
      exact ⟨c, rfl, by rw [HW.out]; exact hN⟩
    · have d2 : (n.tmod 3 == 2) = false := by simp [h2]
      have HU := hid (mput16_any bM bm bb k a (x % 65536) lv l bs (by omega) w hM ha)
      have HW := hid (show wid n = 2 by unfold wid; simp [h1, h2])
      clear hM
      go_enter Try.func23, Try.ntmps23
      go_wp2_with fail
      refine HU.out.mono ?_
      rintro e w1 ⟨c, rfl, hN⟩
      go_wp2
      go_ret
      exact ⟨c, rfl, by rw [HW.out, ← le_mod2]; exact hN⟩
theorem rbytes_any (x n : Nat) (hn : n = 2 ∨ n = 4 ∨ n = 8) (hx : x < 18446744073709551616) (w : World) : Calls Try.prog 47 #[.int .u64 x, .int .i64 n] w fun e w' => e = .returned (.string ⟨(le n x).toArray⟩) ∧ Fr [] w w' := by
  rcases hn with rfl | rfl | rfl
  · exact rbytes2 x hx w
  · exact rbytes4 x hx w
  · exact rbytes8 x hx w

theorem rw_fr {w w2 : World} {P Q R Q' R' : Prop} {e : Ending} {a b c : Value} {T : Prop} {bB : Nat} (h : (P ∧ e = .returned a ∧ Fr [] w w2) ∨ (Q ∧ R ∧ e = .returned b ∧ Fr [] w w2) ∨ (Q' ∧ R' ∧ e = .returned c ∧ T ∧ Fr [bB] w w2)) : Fr [bB] w w2 := by
  rcases h with ⟨_, _, h⟩ | ⟨_, _, _, h⟩ | ⟨_, _, _, _, h⟩
  · exact h.mono (by simp)
  · exact h.mono (by simp)
  · exact h
theorem step_put (w0 w : World) (bM bm bb br bB bL k A X : Nat) (N : Int) (S : ByteArray) (o : Option PB) (lv : Value) (l : List (Nat × Nat)) (bs ws : List UInt8) (h : Duo w0 w bM bm bb br bB bL k o lv l bs ws l bs ws) (hA : A < 4294967296) (hX : X < 18446744073709551616) :
    Calls Try.prog 14 #[.pointer (some ⟨bM, 0, none⟩), .pointer (some ⟨br, 0, none⟩), PB.real o, PB.ref o, .agg #[.int .i64 3, .int .u32 A, .int .i64 N, .int .u64 X, .string S]] w fun e w' => e = .returned (.bool true) ∧ TwoK w0 w' bM bm bb br bB bL k o := by
  have F0 : Fr [] w (w.alloc (.cells #[.int .i64 3, .int .u32 A, .int .i64 N, .int .u64 X, .string S] 42)) := (Fr.refl _ _).alloc _
  have hsz : (⟨(le (wid N) X).toArray⟩ : ByteArray).size ≤ maxLen := by
    show (le (wid N) X).length ≤ maxLen
    rw [le_length]
    rcases wid_or N with e | e | e <;> rw [e] <;> decide
  have H1 := hid (fun W (hF : Fr [] w W) => (lputw_any bM bm bb k A N X lv l bs hX W (h.mem.fr0 hF) hA).mono fun e w1 ⟨c, h1, h2⟩ => (⟨c, h1, hid (wmid_write (h.fr0 hF) h2), writes_fr h2⟩ : ∃ c, e = Ending.returned (.int .i64 c) ∧ Hid (WMid w0 w1 bM bm bb br bB bL k o lv l bs ws A ⟨(le (wid N) X).toArray⟩ false 11 c) ∧ Fr [bb] W w1))
  have H2 := hid (fun (w1 W : World) c (hw : WMid w0 w1 bM bm bb br bB bL k o lv l bs ws A ⟨(le (wid N) X).toArray⟩ false 11 c) (hF : Fr [] w1 W) => (rwrite_any br bB bL k A ⟨(le (wid N) X).toArray⟩ l bs W (by obtain ⟨bs', hD, _⟩ := hw; exact hD.ref.fr0 hF) hA hsz).mono fun e w2 hr => (⟨(wmid_ref hw hF hr).1, (wmid_ref hw hF hr).2, rw_fr hr⟩ : e = Ending.returned (.int .i64 c) ∧ TwoK w0 w2 bM bm bb br bB bL k o ∧ Fr [bB] W w2))
  have hx := heap_alloc_new w (.cells #[.int .i64 3, .int .u32 A, .int .i64 N, .int .u64 X, .string S] 42)
  have b1 := cell_of_heap (o := 1) hx rfl
  have b2 := cell_of_heap (o := 2) hx rfl
  have b3 := cell_of_heap (o := 3) hx rfl
  have hbb : w.heap.size ≠ bb := by have := lt_of_heap h.mem.bytes; omega
  have hbB : w.heap.size ≠ bB := by have := lt_of_heap h.ref.bytes; omega
  clear h hx hsz
  go_enter Try.func14, Try.ntmps14
  go_wp2_with fail
  generalize w.alloc (.cells #[.int .i64 3, .int .u32 A, .int .i64 N, .int .u64 X, .string S] 42) = W0 at *
  have HBB := hid (show w.heap.size ∉ [bb] ∧ w.heap.size ∉ [bB] from ⟨by simpa using hbb, by simpa using hbB⟩)
  clear hbb hbB
  go_region_held (fun w' => w'.cell? ⟨w.heap.size, 1, none⟩ = some (.int .u32 (A : Nat)) ∧ w'.cell? ⟨w.heap.size, 2, none⟩ = some (.int .i64 N) ∧ w'.cell? ⟨w.heap.size, 3, none⟩ = some (.int .u64 (X : Nat))) (go_keep)
    (first
    | (go_at_call 23; refine (H1.out _ (Fr.drew F0)).mono ?_; rintro e w1 ⟨c, rfl, hm, hFb⟩; have b1' := hFb.cell (show W0.drew.cell? _ = _ from b1) HBB.out.1; have b2' := hFb.cell (show W0.drew.cell? _ = _ from b2) HBB.out.1; have b3' := hFb.cell (show W0.drew.cell? _ = _ from b3) HBB.out.1)
    | (go_at_call 45; refine (wide_any N _).mono ?_; rintro e w2 ⟨rfl, hw⟩; subst hw)
    | (go_at_call 47; refine (rbytes_any X (wid N) (wid_or N) hX _).mono ?_; rintro e w3 ⟨rfl, hF3⟩; have b1'' := hF3.cell b1' (by simp); have b2'' := hF3.cell b2' (by simp); have b3'' := hF3.cell b3' (by simp))
    | (go_at_call 46; refine (H2.out _ _ c hm.out hF3).mono ?_; rintro e w4 ⟨rfl, hT, hF4⟩; have q1 := hF4.cell b1'' HBB.out.2; have q2 := hF4.cell b2'' HBB.out.2; have q3 := hF4.cell b3'' HBB.out.2))
  all_goals
    go_wp2
    go_ret
    exact ⟨rfl, hT⟩
end Go.Proofs.Ytbkfgidmjkbfmaa
