/-
  The walk of 'step' of the statements of package mem: Read and numbers that are read: both memories answer alike, and stay alike.
-/
import Derived.Test.YtbkfgidmjkbfmaaStepA
import Derived.Test.YtbkfgidmjkbfmaaNumOut
namespace Go.Proofs.Ytbkfgidmjkbfmaa
open Go.RowKit Go.BigFrame
set_option linter.unusedVariables false
set_option linter.unusedSimpArgs false
set_option maxRecDepth 1000000
set_option maxHeartbeats 4000000

theorem le_succ (n x : Nat) : le (n + 1) x = UInt8.ofNat (x % 256) :: le n (x / 256) := by
  unfold le
  rw [List.range_succ_eq_map, List.map_cons, List.map_map]
  congr 1
  · simp
  · apply List.map_congr_left
    intro i _
    simp only [Function.comp]
    rw [Nat.succ_eq_add_one, Nat.pow_succ, Nat.mul_comm (256 ^ i) 256, ← Nat.div_div_eq_div_mul]
theorem le_inj : ∀ (n x y : Nat), x < 256 ^ n → y < 256 ^ n → le n x = le n y → x = y
  | 0, x, y, hx, hy, _ => by simp at hx hy; omega
  | n + 1, x, y, hx, hy, h => by
    rw [le_succ, le_succ] at h
    obtain ⟨h1, h2⟩ := List.cons.inj h
    have e1 := congrArg UInt8.toNat h1
    simp at e1
    rw [Nat.pow_succ] at hx hy
    have e2 := le_inj n (x / 256) (y / 256) (by omega) (by omega) h2
    omega
theorem reads_eq {k a : Nat} {n : Int} {bs : List UInt8} {s s' : ByteArray} {c c' : Int} (h : Reads k a n bs s c) (h' : Reads k a n bs s' c') : s' = s ∧ c' = c := by
  rcases h with ⟨h1, rfl, rfl⟩ | ⟨h1, h2, rfl, rfl⟩ | ⟨m, h1, h2, rfl, rfl⟩ <;> rcases h' with ⟨g1, rfl, rfl⟩ | ⟨g1, g2, rfl, rfl⟩ | ⟨m', g1, g2, rfl, rfl⟩
  · exact ⟨rfl, rfl⟩
  · omega
  · omega
  · omega
  · exact ⟨rfl, rfl⟩
  · omega
  · omega
  · omega
  · obtain rfl : m = m' := by omega
    exact ⟨rfl, rfl⟩
theorem rnum_is (br bB bL k a n x : Nat) (c : Int) (l : List (Nat × Nat)) (bs : List UInt8) (w : World) (hR : RefA w br bB bL k l bs) (ha : a < 4294967296) (hn : n = 2 ∨ n = 4 ∨ n = 8) (hx : Nums k a n bs x c) :
    Calls Try.prog 44 #[.pointer (some ⟨br, 0, none⟩), .int .u32 a, .int .i64 n] w fun e w' => e = .returned (.tuple #[.int .u64 x, .int .i64 c]) ∧ w' = w := by
  refine (rnum_any br bB bL k a n l bs w hR ha hn).mono ?_
  rintro e w' ⟨⟨h1, rfl⟩ | ⟨y, h1, h2, h3, rfl⟩, hw⟩
  · rcases hx with ⟨_, rfl, rfl⟩ | ⟨g1, _⟩
    · exact ⟨rfl, hw⟩
    · omega
  · rcases hx with ⟨g1, _⟩ | ⟨g1, g2, g3, rfl⟩
    · omega
    · obtain rfl := le_inj n x y g2 h2 (by rw [← g3, ← h3])
      exact ⟨rfl, hw⟩

theorem step_read (w0 w : World) (bM bm bb br bB bL k A X : Nat) (N : Int) (S : ByteArray) (o : Option PB) (lv : Value) (l : List (Nat × Nat)) (bs ws : List UInt8) (h : Duo w0 w bM bm bb br bB bL k o lv l bs ws l bs ws) (hA : A < 4294967296) (hN : -9223372036854775808 ≤ N ∧ N ≤ 9223372036854775807) :
    Calls Try.prog 14 #[.pointer (some ⟨bM, 0, none⟩), .pointer (some ⟨br, 0, none⟩), PB.real o, PB.ref o, .agg #[.int .i64 0, .int .u32 A, .int .i64 N, .int .u64 X, .string S]] w fun e w' => e = .returned (.bool true) ∧ TwoK w0 w' bM bm bb br bB bL k o := by
  have F0 : Fr [] w (w.alloc (.cells #[.int .i64 0, .int .u32 A, .int .i64 N, .int .u64 X, .string S] 42)) := (Fr.refl _ _).alloc _
  have H1 := hid (mread_any bM bm bb k A N lv l bs _ (h.mem.fr0 F0) hA hN)
  have H2 := hid (rread_any br bB bL k A N l bs _ (h.ref.fr0 F0) hA hN)
  have HT := hid (show TwoK w0 _ bM bm bb br bB bL k o from ⟨_, _, _, _, h.fr0 F0⟩)
  clear h F0
  go_enter Try.func14, Try.ntmps14
  go_wp2_with fail
  refine H1.out.mono ?_
  rintro e w1 ⟨s, c, rfl, hs, hw⟩
  subst hw
  have HS := hid hs
  clear hs
  go_wp2_with fail
  refine H2.out.mono ?_
  rintro e w2 ⟨s', c', rfl, hs', hw⟩
  subst hw
  obtain ⟨rfl, rfl⟩ := reads_eq HS.out hs'
  clear hs'
  go_wp2
  go_ret
  exact ⟨rfl, HT.out⟩
theorem step_num (w0 w : World) (bM bm bb br bB bL k A X : Nat) (N : Int) (S : ByteArray) (o : Option PB) (lv : Value) (l : List (Nat × Nat)) (bs ws : List UInt8) (h : Duo w0 w bM bm bb br bB bL k o lv l bs ws l bs ws) (hA : A < 4294967296) :
    Calls Try.prog 14 #[.pointer (some ⟨bM, 0, none⟩), .pointer (some ⟨br, 0, none⟩), PB.real o, PB.ref o, .agg #[.int .i64 1, .int .u32 A, .int .i64 N, .int .u64 X, .string S]] w fun e w' => e = .returned (.bool true) ∧ TwoK w0 w' bM bm bb br bB bL k o := by
  have F0 : Fr [] w (w.alloc (.cells #[.int .i64 1, .int .u32 A, .int .i64 N, .int .u64 X, .string S] 42)) := (Fr.refl _ _).alloc _
  have H1 := hid (number_any bM bm bb k A N lv l bs _ (h.mem.fr0 F0) hA)
  have HD := hid (h.fr0 F0)
  have hx := heap_alloc_new w (.cells #[.int .i64 1, .int .u32 A, .int .i64 N, .int .u64 X, .string S] 42)
  have b1 := cell_of_heap (o := 1) hx rfl
  have b2 := cell_of_heap (o := 2) hx rfl
  clear h F0 hx
  go_enter Try.func14, Try.ntmps14
  go_wp2_with fail
  refine H1.out.mono ?_
  rintro e w1 ⟨x, c, rfl, hs, hF⟩
  have HS := hid hs
  have b1' := hF.cell b1 (by simp)
  have b2' := hF.cell b2 (by simp)
  have HD1 := hid (HD.out.fr0 hF)
  clear hs hF b1 b2
  go_wp2_with fail
  go_quiet (first | exact Calls.quiet_of_same (wide_any N _) | exact Calls.quiet_of_same (rnum_is br bB bL k A (wid N) x c l bs _ (HD1.out.ref.fr0 ((Fr.refl _ _).drewN _)) hA (wid_or N) HS.out))
  go_wp2
  go_ret
  exact ⟨rfl, _, _, _, _, HD1.out.fr0 ((Fr.refl _ _).drewN _)⟩
end Go.Proofs.Ytbkfgidmjkbfmaa
