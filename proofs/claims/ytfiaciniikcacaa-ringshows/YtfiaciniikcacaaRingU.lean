/-
  The walk of RingShows of the statements of package ring. No statement is proved here.
-/
import Derived.Test.YtfiaciniikcacaaRingT
namespace Go.Proofs.Ytfiaciniikcacaa
open Go.RowKit Go.BigFrame Go.MapKept
set_option linter.unusedVariables false
set_option linter.unusedSimpArgs false
set_option maxRecDepth 1000000
set_option maxHeartbeats 40000000

theorem num_zero32 (N : Nat) (hN : Pow N) (h32 : N ≤ 32) : num (wrb (List.replicate 2000 0) 32 (List.replicate (rSize N) 0)) (32 + 16 * N + 2) 2 = 0 := by
  rcases hN with rfl | rfl | rfl | rfl | rfl | rfl | h | h | h
  · decide +kernel
  · decide +kernel
  · decide +kernel
  · decide +kernel
  · decide +kernel
  · decide +kernel
  all_goals omega
/-- What stands between two chains: as many are shown as were added. -/
def ShI (w wr : World) (bR bM bm bb bT N bC seen : Nat) : Prop :=
  ∃ tk cs bs, RS w.heap.size wr bR bM bm bb 2000 32 bT N bC (Zr 32 N) seen 0 false tk cs bs ∧ num bs (32 + 16 * N + 2) 2 = seen ∧ Fr [] w wr
theorem RS.bytes {B : Nat} {w : World} {bR bM bm bb k at_ bT N bC : Nat} {Z : Nat → Prop} {idx pol : Nat} {brk : Bool} {tk : List Bool} {cs : List Ch} {bs : List UInt8} (h : RS B w bR bM bm bb k at_ bT N bC Z idx pol brk tk cs bs) : bs.length = k := by
  obtain ⟨l, ⟨lv, hM, _⟩, _⟩ := h.mem
  exact hM.len
/-- What a device reads of a chain that was added. -/
theorem shown {B : Nat} {w w' : World} {bR bM bm bb k at_ bT N bC : Nat} {Z : Nat → Prop} {idx pol : Nat} {brk : Bool} {tk : List Bool} {cs : List Ch} {bs : List UInt8} {xs : List Bf} {ch : Ch} (h : RS B w bR bM bm bb k at_ bT N bC Z idx pol brk tk cs bs) (hx : ∀ x, x ∈ xs → x.A < 4294967296 ∧ x.L < 4294967296) (hl : (frK tk xs.length N).length = xs.length) (hh : ch.h < 65536) :
    num (offW (dW bs at_ (frK tk xs.length N) xs xs.length) at_ N idx ch.h) (at_ + 16 * N + 2) 2 = (idx + 1) % 65536 ∧ num (offW (dW bs at_ (frK tk xs.length N) xs xs.length) at_ N idx ch.h) (at_ + 16 * N + 4 + 2 * (idx % N)) 2 = ch.h ∧
    ∀ j (hj : j < xs.length), num (offW (dW bs at_ (frK tk xs.length N) xs xs.length) at_ N idx ch.h) (at_ + 16 * (frK tk xs.length N).getD j 0) 8 = xs[j].A ∧ num (offW (dW bs at_ (frK tk xs.length N) xs xs.length) at_ N idx ch.h) (at_ + 16 * (frK tk xs.length N).getD j 0 + 8) 4 = xs[j].L ∧
      num (offW (dW bs at_ (frK tk xs.length N) xs xs.length) at_ N idx ch.h) (at_ + 16 * (frK tk xs.length N).getD j 0 + 12) 2 = flg (decide (j + 1 < xs.length)) xs[j].I ∧ num (offW (dW bs at_ (frK tk xs.length N) xs xs.length) at_ N idx ch.h) (at_ + 16 * (frK tk xs.length N).getD j 0 + 14) 2 = (frK tk xs.length N).getD (j + 1) 0 ∧ (frK tk xs.length N).getD j 0 < N := by
  have hb := h.bytes
  have hf := h.fit
  have hN : 1 ≤ N ∧ N ≤ 256 := by have := h.pow; unfold Pow at this; omega
  have hu : 16 * N + 6 + 2 * N ≤ uAt N := by unfold uAt; omega
  have hr : uAt N ≤ rSize N := by unfold rSize; omega
  have hd : ∀ d, d ∈ frK tk xs.length N → at_ + 16 * d + 16 ≤ bs.length := fun d hd => by have := (frK_mem _ _ _ d hd).1; omega
  have hdl := dW_length bs at_ (frK tk xs.length N) xs hd xs.length (by omega)
  have ho := offW_in (dW bs at_ (frK tk xs.length N) xs xs.length) at_ N idx ch.h hN.1 (by omega) hh
  refine ⟨ho.1, ho.2, fun j hj => ?_⟩
  have hj' : j < (frK tk xs.length N).length := by omega
  have e : (frK tk xs.length N).getD j 0 = (frK tk xs.length N)[j] := by simp [hj']
  have hjN := (frK_mem _ _ _ _ (List.getElem_mem hj')).1
  have hin := dW_in bs at_ (frK tk xs.length N) xs hd (frK_nodup _ _ _) (fun d hd => by have := (frK_mem _ _ _ d hd).1; omega) hx hl.symm j hj' xs.length (by omega) hj
  rw [e]
  rw [offW_out _ _ _ _ _ _ _ hN.1 (by omega) (.inl (by omega)), offW_out _ _ _ _ _ _ _ hN.1 (by omega) (.inl (by omega)), offW_out _ _ _ _ _ _ _ hN.1 (by omega) (.inl (by omega)), offW_out _ _ _ _ _ _ _ hN.1 (by omega) (.inl (by omega))]
  have e3 : decide (j + 1 < (frK tk xs.length N).length) = decide (j + 1 < xs.length) := by rw [hl]
  rw [e3] at hin
  exact ⟨hin.1, hin.2.1, hin.2.2.1, hin.2.2.2, hjN⟩
end Go.Proofs.Ytfiaciniikcacaa
