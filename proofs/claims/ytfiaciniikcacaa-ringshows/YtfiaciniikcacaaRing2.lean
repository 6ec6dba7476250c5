/-
  The walks of the calls of no ring, and of New of package ring. No statement is proved here.
-/
import Derived.Test.YtfiaciniikcacaaRing1
import Derived.Carry
namespace Go.Proofs.Ytfiaciniikcacaa
open Go.RowKit Go.BigFrame
set_option linter.unusedVariables false
set_option linter.unusedSimpArgs false
set_option maxRecDepth 1000000
set_option maxHeartbeats 4000000

theorem radd_nil (w : World) : Calls Try.prog 11 #[.pointer none, .slice none 0 0] w fun e w' => e = .returned (.tuple #[.int .u16 0, .int .i64 1]) ∧ w' = w := by
  go_enter Try.func11, Try.ntmps11
  go_wp2_with (go_at_call 34; refine (rnone_nil _).mono ?_; rintro e w' ⟨rfl, hw⟩; subst hw)
  go_ret2
  exact ⟨rfl, rfl⟩
theorem rwaits_nil (w : World) : Calls Try.prog 22 #[.pointer none] w fun e w' => e = .returned (.int .i64 0) ∧ w' = w := by
  go_enter Try.func22, Try.ntmps22
  go_wp2_with (go_at_call 34; refine (rnone_nil _).mono ?_; rintro e w' ⟨rfl, hw⟩; subst hw)
  go_ret
  exact ⟨rfl, rfl⟩
theorem rleft_nil (w : World) : Calls Try.prog 23 #[.pointer none] w fun e w' => e = .returned (.int .i64 0) ∧ w' = w := by
  go_enter Try.func23, Try.ntmps23
  go_wp2_with (go_at_call 34; refine (rnone_nil _).mono ?_; rintro e w' ⟨rfl, hw⟩; subst hw)
  go_ret
  exact ⟨rfl, rfl⟩
theorem rbroken_nil (w : World) : Calls Try.prog 14 #[.pointer none] w fun e w' => e = .returned (.bool false) ∧ w' = w := by
  go_enter Try.func14, Try.ntmps14
  go_wp2_with (go_at_call 34; refine (rnone_nil _).mono ?_; rintro e w' ⟨rfl, hw⟩; subst hw)
  go_ret
  exact ⟨rfl, rfl⟩
theorem ravail_nil (w : World) : Calls Try.prog 25 #[.pointer none] w fun e w' => e = .returned (.int .u32 0) ∧ w' = w := by
  go_enter Try.func25, Try.ntmps25
  go_wp2_with (go_at_call 34; refine (rnone_nil _).mono ?_; rintro e w' ⟨rfl, hw⟩; subst hw)
  go_ret
  exact ⟨rfl, rfl⟩
theorem rused_nil (w : World) : Calls Try.prog 19 #[.pointer none] w fun e w' => e = .returned (.int .u32 0) ∧ w' = w := by
  go_enter Try.func19, Try.ntmps19
  go_wp2_with (go_at_call 34; refine (rnone_nil _).mono ?_; rintro e w' ⟨rfl, hw⟩; subst hw)
  go_ret
  exact ⟨rfl, rfl⟩
theorem rchain_nil (w : World) : Calls Try.prog 24 #[.pointer none, .int .u16 0] w fun e w' => e = .returned (.tuple #[.slice none 0 0, .int .i64 1]) ∧ w' = w := by
  go_enter Try.func24, Try.ntmps24
  go_wp2_with (go_at_call 34; refine (rnone_nil _).mono ?_; rintro e w' ⟨rfl, hw⟩; subst hw)
  go_ret2
  exact ⟨rfl, rfl⟩
theorem rpoll_nil (w : World) : Calls Try.prog 15 #[.pointer none] w fun e w' => e = .returned (.tuple #[.agg #[.int .u16 0, .int .u32 0], .bool false, .int .i64 1]) ∧ Fr [] w w' := by
  go_enter Try.func15, Try.ntmps15
  go_wp2_with (go_at_call 34; refine (rnone_nil _).mono ?_; rintro e w' ⟨rfl, hw⟩; subst hw)
  go_returns
  exact ⟨rfl, (Fr.refl _ _).alloc _⟩
theorem rnew_nil (a size : Int) (w : World) : Calls Try.prog 10 #[.pointer none, .int .u32 a, .int .i64 size] w fun e w' => e = .returned (.tuple #[.pointer none, .int .i64 1]) ∧ w' = w := by
  go_enter Try.func10, Try.ntmps10
  go_wp2_with (go_at_call 30; refine (size_nil _).mono ?_; rintro e w' ⟨rfl, hw⟩; subst hw)
  go_ret2
  exact ⟨rfl, rfl⟩

theorem msize_mem (bM bm bb k : Nat) (lv : Value) (l : List (Nat × Nat)) (bs : List UInt8) (w : World) (hM : MemA w bM bm bb k lv l bs) : Calls Try.prog 30 #[.pointer (some ⟨bM, 0, none⟩)] w fun e w' => e = .returned (.int .i64 k) ∧ w' = w := by
  have c0 := hM.cp
  have c1 := hM.mid.c0
  clear hM
  go_enter Try.func30, Try.ntmps30
  go_wp2_with (go_at_call 44; refine (none_mem bM bm _ c0).mono ?_; rintro e w' ⟨rfl, hw⟩; subst hw)
  go_ret
  exact ⟨rfl, rfl⟩
theorem info4 : ∃ i, Try.prog.info? 4 = some i ∧ i.zero = some (.bool false) ∧ i.size = 1 ∧ i.bytes = 1 := infoOf (by kernel_rfl)
theorem make_b (n : Nat) (h : n ≤ 1048576) (w : World) : (Instr.makeSlice 77 (.int .i64 n) (.int .i64 n)).run Try.prog w = .ok (.slice (some ⟨w.heap.size, 0, none⟩) n n) (w.alloc (.cells (madeCells #[.bool false] n) 4)) := by
  obtain ⟨i, hi, hz, hs, hb⟩ := info4
  have := run_make (P := Try.prog) w 77 4 i (.bool false) Try.underlying77 hi hz .i64 .i64 n n (by omega) (by omega) (by rw [hb]; omega) (by omega)
  simpa [hs, Value.cells] using this
theorem madeBools (n : Nat) : madeCells #[.bool false] n = ((List.replicate n false).map Value.bool).toArray := by
  apply Array.ext'
  rw [toList_madeCells_one]
  simp
theorem conv_zero (n : Nat) (w : World) : (convert 57 9 (.slice (some ⟨w.heap.size, 0, none⟩) n n)).run Try.prog (w.alloc (.cells (madeCells #[.int .u8 0] n) 5)) = .ok (.string ⟨(List.replicate n (0 : UInt8)).toArray⟩) (w.alloc (.cells (madeCells #[.int .u8 0] n) 5)) := by
  have := conv_any (w.alloc (.cells (madeCells #[.int .u8 0] n) 5)) w.heap.size 0 n n (List.replicate n 0) (by rw [← madeBytes]; exact heap_alloc_new w _) (by simp)
  rw [List.drop_zero, List.take_of_length_le (by simp)] at this
  exact this
theorem three_new (w : World) (a b c : Obj) : (((w.alloc a).alloc b).alloc c).heap[w.heap.size]? = some a ∧ (((w.alloc a).alloc b).alloc c).heap[w.heap.size + 1]? = some b ∧ (((w.alloc a).alloc b).alloc c).heap[w.heap.size + 1 + 1]? = some c := by
  refine ⟨?_, ?_, heap_at _ _ (by simp)⟩
  · exact (Below.heap_alloc _ _ _ (by simp; omega)).trans ((Below.heap_alloc _ _ _ (by simp)).trans (heap_alloc_new w _))
  · exact (Below.heap_alloc _ _ _ (by simp)).trans (heap_at _ _ (by simp))
/-- A new ring in a memory that lends nothing. -/
theorem rnew_ok (bM bm bb k at_ N : Nat) (bs : List UInt8) (w : World) (hM : MemA w bM bm bb k (.slice none 0 0) [] bs) (hN : Pow N) (ha : at_ % 16 = 0) (ho : at_ + rSize N ≤ k) :
    Calls Try.prog 10 #[.pointer (some ⟨bM, 0, none⟩), .int .u32 at_, .int .i64 N] w fun e w' => ∃ bR bT bC lv l, e = .returned (.tuple #[.pointer (some ⟨bR, 0, none⟩), .int .i64 0]) ∧
      MemA w' bM bm bb k lv l (bs.take at_ ++ List.replicate (rSize N) 0 ++ bs.drop (at_ + rSize N)) ∧ (∀ j, In l j ↔ at_ + uAt N ≤ j ∧ j < at_ + rSize N) ∧ RingF w' bR bM at_ bT N bC 0 0 false (List.replicate N false) ∧ w'.heap[bC]? = some (.map #[] 0) ∧
      w.heap.size ≤ bR ∧ w.heap.size ≤ bT ∧ w.heap.size ≤ bC ∧ (∀ g, lv.ownBlock = some g → w.heap.size ≤ g) ∧ Fr [bm, bb] w w' := by
  have hk := hM.mid.top
  have hNb : N ≤ 256 ∧ 1 ≤ N := by unfold Pow at hN; omega
  obtain ⟨T, hT⟩ : ∃ T, T = rSize N := ⟨_, rfl⟩
  have HSz := hid (fun W => (show Calls Try.prog 29 #[.int .i64 N] W fun e w' => e = .returned (.int .i64 (T : Nat)) ∧ w' = W from by rw [hT]; exact Size_pow N hN W))
  have hTp : 1 ≤ T ∧ T ≤ 1048576 := by rw [hT]; unfold rSize at ho ⊢; omega
  have hsz := msize_mem bM bm bb k _ _ bs w hM
  have HM := hid hM
  have HS := hid hsz
  have hmk := make_u8 T (by omega)
  have hmb := make_b N (by omega)
  have hcv := conv_zero T
  have hmm := @run_makeMap Try.prog
  rw [← hT] at ho
  have HTe := hid hT
  clear hM hsz hT
  have hkz : ((k : Int) == 0) = false := by simp; omega
  have hTz : ((T : Int) == 0) = false := by simp; omega
  have haz : (at_ : Int) % 16 = 0 := by omega
  go_enter Try.func10, Try.ntmps10
  go_wp2_with (first | (go_at_call 30; refine HS.out.mono ?_; rintro e w1 ⟨rfl, hw⟩; subst hw) | (go_at_call 29; refine (HSz.out _).mono ?_; rintro e w2 ⟨rfl, hw⟩; subst hw))
  have hss : (⟨Array.replicate T 0⟩ : ByteArray).size = T := by simp [ByteArray.size]
  have HW := hid (write_ok bM bm bb k at_ _ _ bs ⟨Array.replicate T 0⟩ (w2.alloc (.cells (madeCells #[.int .u8 0] T) 5)) (HM.out.fr0 ((Fr.refl _ _).alloc _)) (by rw [hss]; exact ho) (fun ⟨b, _, _, p, hp, _⟩ => by simp at hp))
  rw [hss] at HW
  clear hss
  refine HW.out.mono ?_
  rintro e w3 ⟨rfl, hM3, hF3⟩
  have HM3 := hid hM3
  have HF3 := hid (((Fr.refl [bb] w2).alloc (.cells (madeCells #[.int .u8 0] T) 5)).trans hF3 (fun t ht => .inl ht))
  clear hM3 hF3 HW
  go_wp2_with fail
  have hb3 := three_new w3 (.cells (madeCells #[.bool false] N) 4) (.map #[] 0) (.cells #[.pointer (some ⟨bM, 0, none⟩), .int .u32 (at_ : Nat), .slice (some ⟨w3.heap.size, 0, none⟩) N N, .map (some (w3.heap.size + 1)), .int .u16 0, .int .u16 0, .bool false] 80)
  have F4 : Fr [] w3 (((w3.alloc (.cells (madeCells #[.bool false] N) 4)).alloc (.map #[] 0)).alloc (.cells #[.pointer (some ⟨bM, 0, none⟩), .int .u32 (at_ : Nat), .slice (some ⟨w3.heap.size, 0, none⟩) N N, .map (some (w3.heap.size + 1)), .int .u16 0, .int .u16 0, .bool false] 80)) := (((Fr.refl _ _).alloc _).alloc _).alloc _
  generalize ((w3.alloc (.cells (madeCells #[.bool false] N) 4)).alloc (.map #[] 0)).alloc (.cells #[.pointer (some ⟨bM, 0, none⟩), .int .u32 (at_ : Nat), .slice (some ⟨w3.heap.size, 0, none⟩) N N, .map (some (w3.heap.size + 1)), .int .u16 0, .int .u16 0, .bool false] 80) = W4 at *
  have hRF : RingF W4 (w3.heap.size + 1 + 1) bM at_ w3.heap.size N (w3.heap.size + 1) 0 0 false (List.replicate N false) := ⟨hb3.2.2, by rw [← madeBools]; exact hb3.1, by simp⟩
  have HRF := hid hRF
  have HC := hid hb3.2.1
  have HM4 := hid (HM3.out.fr0 F4)
  have HF4 := hid F4
  have H3s := hid HF3.out.size
  obtain ⟨bR, hbR⟩ : ∃ b, b = w3.heap.size + 1 + 1 := ⟨_, rfl⟩
  obtain ⟨bC, hbC⟩ : ∃ b, b = w3.heap.size + 1 := ⟨_, rfl⟩
  obtain ⟨bT, hbT⟩ : ∃ b, b = w3.heap.size := ⟨_, rfl⟩
  rw [← hbR, ← hbC] at HRF
  rw [← hbC] at HC
  rw [← hbT] at HRF
  rw [← hbR]
  have HBs := hid (show w2.heap.size ≤ bR ∧ w2.heap.size ≤ bT ∧ w2.heap.size ≤ bC ∧ w3.heap.size ≤ bR ∧ w3.heap.size ≤ bT ∧ w3.heap.size ≤ bC by have := H3s.out; omega)
  clear hRF hb3 F4 hbR hbC hbT HM3
  obtain ⟨U, hU⟩ : ∃ U, U = uAt N := ⟨_, rfl⟩
  obtain ⟨a, haU⟩ : ∃ a, a = at_ + U := ⟨_, rfl⟩
  obtain ⟨L, hL⟩ : ∃ L, L = T - U := ⟨_, rfl⟩
  have hUT : U ≤ T ∧ 1 ≤ L := by rw [hL, hU, HTe.out]; unfold rSize; omega
  have HU33 := hid (fun W => (show Calls Try.prog 33 #[.int .i64 N] W fun e w' => e = .returned (.int .i64 (U : Nat)) ∧ w' = W from by rw [hU]; exact usedAt_any N hNb.1 W))
  have HU19 := hid (show Calls Try.prog 19 #[.pointer (some ⟨bR, 0, none⟩)] W4 fun e w' => e = .returned (.int .u32 (a : Nat)) ∧ ∃ d, w' = W4.drewN d from by rw [haU, hU]; exact Used_any bR bM at_ bT N bC 0 0 false _ W4 HRF.out hNb.1 (by omega))
  have HUe := hid (show U = uAt N ∧ a = at_ + U ∧ L = T - U from ⟨hU, haU, hL⟩)
  have wL : ((T : Int) - (U : Int)) = (L : Int) := by omega
  have hab : a + L ≤ k := by omega
  clear hU haU hL
  refine HU19.out.mono ?_
  rintro e w5 ⟨rfl, d, hw⟩
  subst hw
  go_wp2_with (first | (go_at_call 29; refine (HSz.out _).mono ?_; rintro e w6 ⟨rfl, hw⟩; subst hw) | (go_at_call 33; refine (HU33.out _).mono ?_; rintro e w6 ⟨rfl, hw⟩; subst hw))
  have HM5 := hid (HM4.out.fr0 (show Fr [] W4 (W4.drewN d) from (Fr.refl _ _).drewN d))
  refine (mlend_any bM bm bb k a L _ _ _ (W4.drewN d) HM5.out (by omega) (by omega)).mono ?_
  rintro e w6 ⟨c, rfl, hL6⟩
  have H6 := hid hL6
  clear hL6
  go_wp2
  go_ret2
  rcases H6.out with ⟨_, g2, _⟩ | ⟨_, _, _, ⟨b, _, _, i, hi, _⟩, _⟩ | ⟨_, _, _, _, lv', l', h5, h6, h8, h7⟩
  · omega
  · simp at hi
  · obtain ⟨hU, haU, hL⟩ := HUe.out
    have hBs := HBs.out
    have lbm := lt_of_heap HM.out.mid.blk
    have lbb := lt_of_heap HM.out.bytes
    have h7' : Fr [bm] (W4.drewN d) w6 := by simpa [Value.ownBlock] using h7
    have s3 := H3s.out
    refine ⟨bR, bT, bC, lv', l', rfl, ?_, fun j => ?_, (HRF.out.fr ((Fr.refl [] W4).drewN d) (by simp) (by simp)).fr h7' (by simp; omega) (by simp; omega), ?_, hBs.1, hBs.2.1, hBs.2.2.1, fun g hg => ?_, ?_⟩
    · have := HM5.out.mid' h5 h7
      simpa [← HTe.out] using this
    · rw [h6, ← hU, ← HTe.out]
      constructor
      · rintro (⟨i, hi, _⟩ | h)
        · simp at hi
        · omega
      · intro h; exact .inr (by omega)
    · exact h7'.heap (show (W4.drewN d).heap[bC]? = _ from HC.out) (by simp; omega)
    · have := h8 g hg
      have s4 := HF4.out.size
      simp [lo, Value.ownBlock] at this
      omega
    · have f4 : Fr [bm, bb] w2 (W4.drewN d) := ((HF3.out.mono (by simp)).trans0 HF4.out).drewN d
      exact f4.trans h7' (fun t ht => .inl (by simp at ht ⊢; exact .inl ht))
end Go.Proofs.Ytfiaciniikcacaa
