/-
  The walks of the small functions of package mem (New, none, holds, part, span, end, mayBe): what each call answers and what it leaves.
-/
import Derived.Test.YtfiaciniikcacaaBase
namespace Go.Proofs.Ytfiaciniikcacaa
open Go.RowKit
set_option linter.unusedVariables false
set_option linter.unusedSimpArgs false
set_option maxRecDepth 100000
set_option maxHeartbeats 400000

theorem infoOf {P : Program} {t : TypeId} {z : Option Value} {s b : Nat} (h : (P.info? t).map (fun i => (i.zero, i.size, i.bytes)) = some (z, s, b)) : ∃ i, P.info? t = some i ∧ i.zero = z ∧ i.size = s ∧ i.bytes = b := by
  cases hi : P.info? t with
  | none => rw [hi] at h; simp at h
  | some i => rw [hi] at h; simp at h; exact ⟨i, rfl, h.1, h.2.1, h.2.2⟩
theorem info5 : ∃ i, Try.prog.info? 5 = some i ∧ i.zero = some (.int .u8 0) ∧ i.size = 1 ∧ i.bytes = 1 := infoOf (by kernel_rfl)
theorem info83 : ∃ i, Try.prog.info? 83 = some i ∧ i.zero = some (.agg #[.int .u32 0, .int .u32 0]) ∧ i.size = 2 ∧ i.bytes = 8 := infoOf (by kernel_rfl)

theorem make_u8 (n : Nat) (h : n ≤ 1048576) (w : World) : (Instr.makeSlice 57 (.int .i64 n) (.int .i64 n)).run Try.prog w = .ok (.slice (some ⟨w.heap.size, 0, none⟩) n n) (w.alloc (.cells (madeCells #[.int .u8 0] n) 5)) := by
  obtain ⟨i, hi, hz, hs, hb⟩ := info5
  have := run_make (P := Try.prog) w 57 5 i (.int .u8 0) Try.underlying57 hi hz .i64 .i64 n n (by omega) (by omega) (by rw [hb]; omega) (by omega)
  simpa [hs, Value.cells] using this

theorem new_any (n : Nat) (h1 : 1 ≤ n) (h2 : n ≤ 1048576) (w : World) : Calls Try.prog 9 #[.int .i64 n] w fun e w' => e = .returned (.tuple #[.pointer (some ⟨w.heap.size + 1 + 1, 0, none⟩), .int .i64 0]) ∧
    w' = ((w.alloc (.cells (madeCells #[.int .u8 0] n) 5)).alloc (.cells #[.slice (some ⟨w.heap.size, 0, none⟩) n n, .slice none 0 0] 74)).alloc (.cells #[.pointer (some ⟨w.heap.size + 1, 0, none⟩)] 76) := by
  have hmk := make_u8 n h2
  go_enter Try.func9, Try.ntmps9
  go_wp2
  go_ret2
  exact ⟨rfl, rfl⟩
theorem new_bad (n : Int) (h1 : n < 1 ∨ 1048576 < n) (w : World) : Calls Try.prog 9 #[.int .i64 n] w fun e w' => e = .returned (.tuple #[.pointer none, .int .i64 2]) ∧ w' = w := by
  rcases h1 with h1 | h1
  · go_enter Try.func9, Try.ntmps9
    go_wp2
    go_ret2
    exact ⟨rfl, rfl⟩
  · have h2 : ¬ n < 1 := by omega
    go_enter Try.func9, Try.ntmps9
    go_wp2
    go_ret2
    exact ⟨rfl, rfl⟩
theorem none_nil (w : World) : Calls Try.prog 44 #[.pointer none] w fun e w' => e = .returned (.bool true) ∧ w' = w := by
  go_enter Try.func44, Try.ntmps44
  go_wp2
  go_ret
  exact ⟨rfl, rfl⟩
theorem none_mem (b p : Nat) (w : World) (hc : w.cell? ⟨b, 0, none⟩ = some (.pointer (some ⟨p, 0, none⟩))) : Calls Try.prog 44 #[.pointer (some ⟨b, 0, none⟩)] w fun e w' => e = .returned (.bool false) ∧ w' = w := by
  go_enter Try.func44, Try.ntmps44
  go_wp2
  go_ret
  exact ⟨rfl, rfl⟩
theorem end_any (a l : Nat) (ha : a + l < 4294967296) (w : World) : Calls Try.prog 68 #[.agg #[.int .u32 a, .int .u32 l]] w fun e w' => e = .returned (.int .u32 ((a : Int) + (l : Int))) ∧ w' = w.alloc (.cells #[.int .u32 a, .int .u32 l] 83) := by
  go_enter Try.func68, Try.ntmps68
  go_wp2
  go_ret
  exact ⟨rfl, rfl⟩
theorem holds_any (m bb : Nat) (at_ n k : Nat) (w : World) (h1 : at_ < 4294967296) (h2 : n ≤ 9223372036854775807) (h3 : k ≤ 1048576) (hc : w.cell? ⟨m, 0, none⟩ = some (.slice (some ⟨bb, 0, none⟩) k k)) :
    Calls Try.prog 66 #[.pointer (some ⟨m, 0, none⟩), .int .u32 at_, .int .i64 n] w fun e w' => e = .returned (.bool (decide ((at_ : Int) + (n : Int) ≤ (k : Int)))) ∧ w' = w := by
  go_enter Try.func66, Try.ntmps66
  go_wp2
  go_ret
  exact ⟨rfl, rfl⟩
theorem part_out (m bb : Nat) (at_ n k : Nat) (w : World) (h1 : at_ < 4294967296) (h2 : n ≤ 9223372036854775807) (h3 : k ≤ 1048576) (hc : w.cell? ⟨m, 0, none⟩ = some (.slice (some ⟨bb, 0, none⟩) k k)) (ho : k < at_ + n) :
    Calls Try.prog 45 #[.pointer (some ⟨m, 0, none⟩), .int .u32 at_, .int .i64 n] w fun e w' => e = .returned (.tuple #[.slice none 0 0, .int .i64 10]) ∧ w' = w := by
  have hd : decide ((at_ : Int) + (n : Int) ≤ (k : Int)) = false := by simp; omega
  go_enter Try.func45, Try.ntmps45
  go_wp2_with (go_at_call 66; refine (holds_any m bb at_ n k _ h1 h2 h3 hc).mono ?_; rintro e w' ⟨rfl, rfl⟩; rw [hd])
  go_ret2
  exact ⟨rfl, rfl⟩
/-- A part of no bytes stands at the memory's beginning (as slicing leaves it), any other where it begins. -/
def po (at_ n : Nat) : Nat := if n = 0 then 0 else at_
theorem part_in (m bb : Nat) (at_ n k : Nat) (w : World) (h1 : at_ < 4294967296) (h3 : k ≤ 1048576) (hc : w.cell? ⟨m, 0, none⟩ = some (.slice (some ⟨bb, 0, none⟩) k k)) (ho : at_ + n ≤ k) :
    Calls Try.prog 45 #[.pointer (some ⟨m, 0, none⟩), .int .u32 at_, .int .i64 n] w fun e w' => e = .returned (.tuple #[.slice (some ⟨bb, po at_ n, none⟩) n n, .int .i64 0]) ∧ w' = w := by
  have hd : decide ((at_ : Int) + (n : Int) ≤ (k : Int)) = true := by simp; omega
  by_cases hn : n = 0
  · have hp : po at_ n = 0 := by simp [po, hn]
    rw [hp]; clear hp
    subst hn
    go_enter Try.func45, Try.ntmps45
    go_wp2_with (go_at_call 66; refine (holds_any m bb at_ 0 k _ h1 (by omega) h3 hc).mono ?_; rintro e w' ⟨rfl, rfl⟩; rw [hd])
    go_ret2
    exact ⟨rfl, rfl⟩
  · have hp : po at_ n = at_ := by simp [po, hn]
    rw [hp]; clear hp
    go_enter Try.func45, Try.ntmps45
    go_wp2_with (go_at_call 66; refine (holds_any m bb at_ n k _ h1 (by omega) h3 hc).mono ?_; rintro e w' ⟨rfl, rfl⟩; rw [hd])
    go_ret2
    exact ⟨by simp, rfl⟩
theorem span_any (a : Nat) (p : Option Addr) (n c : Nat) (hn : n ≤ 1048576) (w : World) : Calls Try.prog 47 #[.int .u32 a, .slice p n c] w fun e w' => e = .returned (.agg #[.int .u32 a, .int .u32 n]) ∧ w' = w.alloc (.cells #[.int .u32 a, .int .u32 n] 83) := by
  go_enter Try.func47, Try.ntmps47
  go_wp2
  go_returns
  exact ⟨rfl, rfl⟩
/-- What may be is asked of a span: its bytes are there, and it has some. -/
theorem mayBe_no (m bb : Nat) (a n k : Nat) (w : World) (h1 : a < 4294967296) (h2 : n < 4294967296) (h3 : k ≤ 1048576) (hc : w.cell? ⟨m, 0, none⟩ = some (.slice (some ⟨bb, 0, none⟩) k k)) (ho : n = 0 ∨ k < a + n) :
    Calls Try.prog 72 #[.pointer (some ⟨m, 0, none⟩), .agg #[.int .u32 a, .int .u32 n]] w fun e w' => e = .returned (.bool false) ∧ Fr [] w w' := by
  have l1 : m < w.heap.size := World.block_lt_of_cell? w _ hc
  by_cases hn : n = 0
  · subst hn
    go_enter Try.func72, Try.ntmps72
    go_wp2
    go_quiet (fail)
    go_wp2
    go_ret
    exact ⟨rfl, ((Fr.refl _ _).alloc _).drewN _⟩
  · have g1 : decide ((1 : Int) ≤ (n : Int)) = true := by simp; omega
    have g2 : decide ((a : Int) + (n : Int) ≤ (k : Int)) = false := by simp; omega
    go_enter Try.func72, Try.ntmps72
    go_wp2
    go_quiet (fail)
    go_wp2
    go_ret
    exact ⟨rfl, ((Fr.refl _ _).alloc _).drewN _⟩
theorem mayBe_yes (m bb : Nat) (a n k : Nat) (w : World) (h1 : a < 4294967296) (h2 : n < 4294967296) (h3 : k ≤ 1048576) (hc : w.cell? ⟨m, 0, none⟩ = some (.slice (some ⟨bb, 0, none⟩) k k)) (hn : 1 ≤ n) (ho : a + n ≤ k) :
    Calls Try.prog 72 #[.pointer (some ⟨m, 0, none⟩), .agg #[.int .u32 a, .int .u32 n]] w fun e w' => e = .returned (.bool true) ∧ Fr [] w w' := by
  have l1 : m < w.heap.size := World.block_lt_of_cell? w _ hc
  have g1 : decide ((1 : Int) ≤ (n : Int)) = true := by simp; omega
  have g2 : decide ((a : Int) + (n : Int) ≤ (k : Int)) = true := by simp; omega
  go_enter Try.func72, Try.ntmps72
  go_wp2
  go_quiet (fail)
  go_wp2
  go_ret
  exact ⟨rfl, ((Fr.refl _ _).alloc _).drewN _⟩
end Go.Proofs.Ytfiaciniikcacaa
