/-
  The walk of 'step' of the statements of package mem, whatever the step: both memories and both pools answer alike, and stay alike.
-/
import Derived.Test.YtbkfgidmjkbfmaaStepB
import Derived.Test.YtbkfgidmjkbfmaaStepC
import Derived.Test.YtbkfgidmjkbfmaaStepE
import Derived.Test.YtbkfgidmjkbfmaaStepF
import Derived.Test.YtbkfgidmjkbfmaaStepG
import Derived.Test.YtbkfgidmjkbfmaaStepJ
import Derived.Test.YtbkfgidmjkbfmaaStepK
import Derived.Test.YtbkfgidmjkbfmaaPlayA
import Derived.Test.YtbkfgidmjkbfmaaPlayB
namespace Go.Proofs.Ytbkfgidmjkbfmaa
open Go.RowKit Go.BigFrame
set_option linter.unusedVariables false
set_option linter.unusedSimpArgs false
set_option maxRecDepth 1000000
set_option maxHeartbeats 4000000
theorem step_any (w0 w : World) (bM bm bb br bB bL k A X : Nat) (D N : Int) (S : ByteArray) (o : Option PB) (lv : Value) (l : List (Nat × Nat)) (bs ws : List UInt8) (h : Duo w0 w bM bm bb br bB bL k o lv l bs ws l bs ws) (hA : A < 4294967296) (hX : X < 18446744073709551616) (hN : -9223372036854775808 ≤ N ∧ N ≤ 9223372036854775807) (hS : S.size ≤ maxLen) :
    Calls Try.prog 14 #[.pointer (some ⟨bM, 0, none⟩), .pointer (some ⟨br, 0, none⟩), PB.real o, PB.ref o, .agg #[.int .i64 D, .int .u32 A, .int .i64 N, .int .u64 X, .string S]] w fun e w' => e = .returned (.bool true) ∧ TwoK w0 w' bM bm bb br bB bL k o := by
  by_cases h6 : 0 ≤ D ∧ D ≤ 6
  · have : D = 0 ∨ D = 1 ∨ D = 2 ∨ D = 3 ∨ D = 4 ∨ D = 5 ∨ D = 6 := by omega
    rcases this with rfl | rfl | rfl | rfl | rfl | rfl | rfl
    · exact step_read w0 w bM bm bb br bB bL k A X N S o lv l bs ws h hA hN
    · exact step_num w0 w bM bm bb br bB bL k A X N S o lv l bs ws h hA
    · exact step_write w0 w bM bm bb br bB bL k A X N S o lv l bs ws h hA hS
    · exact step_put w0 w bM bm bb br bB bL k A X N S o lv l bs ws h hA hX
    · exact step_lend w0 w bM bm bb br bB bL k A X N S o lv l bs ws h hA
    · exact step_back w0 w bM bm bb br bB bL k A X N S o lv l bs ws h hA
    · exact step_device w0 w bM bm bb br bB bL k A X N S o lv l bs ws h hA hS
  · cases o with
    | none => exact step_none w0 w bM bm bb br bB bL k A X D N S lv l bs ws h h6
    | some b =>
      by_cases h10 : 0 ≤ D ∧ D ≤ 10
      · have : D = 7 ∨ D = 8 ∨ D = 9 ∨ D = 10 := by omega
        rcases this with rfl | rfl | rfl | rfl
        · exact step_get w0 w bM bm bb br bB bL k A X N S b lv l bs ws h
        · exact step_free w0 w bM bm bb br bB bL k A X N S b lv l bs ws h hA
        · exact step_give w0 w bM bm bb br bB bL k A X N S b lv l bs ws h hA
        · exact step_take w0 w bM bm bb br bB bL k A X N S b lv l bs ws h hA
      · exact step_else w0 w bM bm bb br bB bL k A X D N S b lv l bs ws h h10
/-- The step that lies there. -/
theorem step_at (w0 w : World) (bM bm bb br bB bL k : Nat) (s : St) (o : Option PB) (hT : TwoK w0 w bM bm bb br bB bL k o) (hA : s.A < 4294967296) (hX : s.X < 18446744073709551616) (hN : -9223372036854775808 ≤ s.N ∧ s.N < 9223372036854775808) (hS : s.S.size ≤ maxLen) :
    Calls Try.prog 14 #[.pointer (some ⟨bM, 0, none⟩), .pointer (some ⟨br, 0, none⟩), PB.real o, PB.ref o, .agg #[.int .i64 s.D, .int .u32 s.A, .int .i64 s.N, .int .u64 s.X, .string s.S]] w fun e w' => e = .returned (.bool true) ∧ TwoK w0 w' bM bm bb br bB bL k o := by
  obtain ⟨lv, l, bs, ws, h⟩ := hT
  exact step_any w0 w bM bm bb br bB bL k s.A s.X s.D s.N s.S o lv l bs ws h hA hX (by omega) hS
theorem TwoK.fr0 {w0 w w1 : World} {bM bm bb br bB bL k : Nat} {o : Option PB} (h : TwoK w0 w bM bm bb br bB bL k o) (hF : Fr [] w w1) : TwoK w0 w1 bM bm bb br bB bL k o := by
  obtain ⟨lv, l, bs, ws, h⟩ := h
  exact ⟨lv, l, bs, ws, h.fr0 hF⟩
theorem conv_all (w : World) (br bB bL k : Nat) (l : List (Nat × Nat)) (bs : List UInt8) (hR : RefA w br bB bL k l bs) : (convert 48 9 (.slice (some ⟨bB, 0, none⟩) k k)).run Try.prog w = .ok (.string ⟨bs.toArray⟩) w := by
  have := conv_any w bB 0 k k bs hR.bytes (by rw [hR.len]; omega)
  rw [List.drop_zero, List.take_of_length_le (by rw [hR.len]; exact Nat.le_refl _)] at this
  exact this
theorem read_full (bM bm bb n : Nat) (lv : Value) (l : List (Nat × Nat)) (bs : List UInt8) (w : World) (hM : MemA w bM bm bb n lv l bs) :
    Calls Try.prog 20 #[.pointer (some ⟨bM, 0, none⟩), .int .u32 0, .int .i64 n] w fun e w' => e = .returned (.tuple #[.string ⟨bs.toArray⟩, .int .i64 0]) ∧ w' = w :=
  (read_ok bM bm bb n 0 n lv l bs w hM (by omega)).mono fun e w' ⟨h1, h2⟩ => ⟨by rw [h1, List.drop_zero, List.take_of_length_le (by rw [hM.len]; exact Nat.le_refl _)], h2⟩
end Go.Proofs.Ytbkfgidmjkbfmaa
