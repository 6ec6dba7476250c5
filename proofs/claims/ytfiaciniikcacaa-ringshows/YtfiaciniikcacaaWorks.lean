/-
  A new memory, as New of package mem leaves it.
-/
import Derived.Test.YtfiaciniikcacaaLawB
namespace Go.Proofs.Ytfiaciniikcacaa
open Go.RowKit Go.BigFrame
set_option linter.unusedVariables false
set_option linter.unusedSimpArgs false
set_option maxRecDepth 1000000
set_option maxHeartbeats 4000000

theorem madeBytes (n : Nat) : madeCells #[.int .u8 0] n = ((List.replicate n (0 : UInt8)).map b8).toArray := by
  apply Array.ext'
  rw [toList_madeCells_one]
  simp [b8]

theorem heap_at (w : World) (o : Obj) {n : Nat} (h : n = w.heap.size) : (w.alloc o).heap[n]? = some o := by subst h; exact heap_alloc_new w o
theorem new_mem (n : Nat) (h1 : 1 ≤ n) (h2 : n ≤ 1048576) (w : World) : Calls Try.prog 9 #[.int .i64 n] w fun e w' => e = .returned (.tuple #[.pointer (some ⟨w.heap.size + 1 + 1, 0, none⟩), .int .i64 0]) ∧
    MemA w' (w.heap.size + 1 + 1) (w.heap.size + 1) w.heap.size n (.slice none 0 0) [] (List.replicate n 0) ∧ Fr [] w w' :=
  (new_any n h1 h2 w).mono fun e w' ⟨he, hw⟩ => ⟨he, by
    subst hw
    refine ⟨heap_at _ _ (by simp), ⟨(Below.heap_alloc _ _ _ (by simp)).trans (heap_at _ _ (by simp)), World.ownsRow_nil _ _ _ _, Canon.nil _, h2⟩, ?_, by simp⟩
    refine (Below.heap_alloc _ _ _ (by simp; omega)).trans ((Below.heap_alloc _ _ _ (by simp)).trans ?_)
    rw [← madeBytes]
    exact heap_alloc_new w _, hw ▸ (((Fr.refl _ _).alloc _).alloc _).alloc _⟩

end Go.Proofs.Ytfiaciniikcacaa
