/-
  The walks of New of package mem and of the document's answer where there is no such memory, of the document's New, and of NewPool of both. No statement is proved here.
-/
import Derived.Test.YtbkfgidmjkbfmaaRef5
import Derived.Test.YtbkfgidmjkbfmaaWorks
namespace Go.Proofs.Ytbkfgidmjkbfmaa
open Go.RowKit Go.BigFrame
set_option linter.unusedVariables false
set_option linter.unusedSimpArgs false
set_option maxRecDepth 1000000
set_option maxHeartbeats 4000000

theorem rnew_bad (n : Int) (h : n < 1 ∨ 1048576 < n) (w : World) : Calls Try.prog 10 #[.int .i64 n] w fun e w' => e = .returned (.pointer none) ∧ w' = w := by
  by_cases h1 : n < 1
  · have d1 : decide (n < 1) = true := by simpa using h1
    go_enter Try.func10, Try.ntmps10
    go_wp2
    go_ret
    exact ⟨rfl, rfl⟩
  · have d1 : decide (n < 1) = false := by simpa using h1
    have d2 : decide (1048576 < n) = true := by simp; omega
    go_enter Try.func10, Try.ntmps10
    go_wp2
    go_ret
    exact ⟨rfl, rfl⟩
theorem info4 : ∃ i, Try.prog.info? 4 = some i ∧ i.zero = some (.bool false) ∧ i.size = 1 ∧ i.bytes = 1 := infoOf (by kernel_rfl)
theorem make_b (n : Nat) (h : n ≤ 1048576) (w : World) : (Instr.makeSlice 49 (.int .i64 n) (.int .i64 n)).run Try.prog w = .ok (.slice (some ⟨w.heap.size, 0, none⟩) n n) (w.alloc (.cells (madeCells #[.bool false] n) 4)) := by
  obtain ⟨i, hi, hz, hs, hb⟩ := info4
  have := run_make (P := Try.prog) w 49 4 i (.bool false) Try.underlying49 hi hz .i64 .i64 n n (by omega) (by omega) (by rw [hb]; omega) (by omega)
  simpa [hs, Value.cells] using this
theorem madeBools (n : Nat) : madeCells #[.bool false] n = ((List.replicate n false).map Value.bool).toArray := by
  apply Array.ext'
  rw [toList_madeCells_one]
  simp
theorem three_new (w : World) (a b c : Obj) : (((w.alloc a).alloc b).alloc c).heap[w.heap.size]? = some a ∧ (((w.alloc a).alloc b).alloc c).heap[w.heap.size + 1]? = some b ∧ (((w.alloc a).alloc b).alloc c).heap[w.heap.size + 1 + 1]? = some c := by
  refine ⟨?_, ?_, heap_at _ _ (by simp)⟩
  · exact (Below.heap_alloc _ _ _ (by simp; omega)).trans ((Below.heap_alloc _ _ _ (by simp)).trans (heap_alloc_new w _))
  · exact (Below.heap_alloc _ _ _ (by simp)).trans (heap_at _ _ (by simp))
theorem rnew_ok (n : Nat) (h1 : 1 ≤ n) (h2 : n ≤ 1048576) (w : World) : Calls Try.prog 10 #[.int .i64 n] w fun e w' => ∃ br bB bL, e = .returned (.pointer (some ⟨br, 0, none⟩)) ∧ RefA w' br bB bL n [] (List.replicate n 0) ∧ w.heap.size ≤ bB ∧ w.heap.size ≤ bL ∧ Fr [] w w' := by
  have hmk := make_u8 n h2
  have hmb := make_b n h2
  go_enter Try.func10, Try.ntmps10
  go_wp2_with fail
  go_region
  all_goals go_wp2
  all_goals go_ret
  · have hb := three_new w (.cells (madeCells #[.int .u8 0] n) 5) (.cells (madeCells #[.bool false] n) 4) (.cells #[.slice (some ⟨w.heap.size, 0, none⟩) n n, .slice (some ⟨w.heap.size + 1, 0, none⟩) n n] 51)
    refine ⟨w.heap.size + 1 + 1, w.heap.size, w.heap.size + 1, rfl, ⟨hb.2.2, by rw [← madeBytes]; exact hb.1, ⟨List.replicate n false, by simp, fun j hj => ⟨fun h => ?_, fun ⟨i, hi, _⟩ => by simp at hi⟩, by rw [← madeBools]; exact hb.2.1⟩, by simp, h2⟩, Nat.le_refl _, by omega, ((((Fr.refl _ _).alloc _).alloc _).alloc _).drew⟩
    rw [List.getElem?_replicate, if_pos hj] at h; cases h
  · have hb := three_new w (.cells (madeCells #[.bool false] n) 4) (.cells (madeCells #[.int .u8 0] n) 5) (.cells #[.slice (some ⟨w.heap.size + 1, 0, none⟩) n n, .slice (some ⟨w.heap.size, 0, none⟩) n n] 51)
    refine ⟨w.heap.size + 1 + 1, w.heap.size + 1, w.heap.size, rfl, ⟨hb.2.2, by rw [← madeBytes]; exact hb.2.1, ⟨List.replicate n false, by simp, fun j hj => ⟨fun h => ?_, fun ⟨i, hi, _⟩ => by simp at hi⟩, by rw [← madeBools]; exact hb.1⟩, by simp, h2⟩, by omega, Nat.le_refl _, ((((Fr.refl _ _).alloc _).alloc _).alloc _).drew⟩
    rw [List.getElem?_replicate, if_pos hj] at h; cases h
theorem size_mem (bM bm bb k : Nat) (lv : Value) (l : List (Nat × Nat)) (bs : List UInt8) (w : World) (hM : MemA w bM bm bb k lv l bs) : Calls Try.prog 11 #[.pointer (some ⟨bM, 0, none⟩)] w fun e w' => e = .returned (.int .i64 k) ∧ w' = w := by
  have c0 := hM.cp
  have c1 := hM.mid.c0
  clear hM
  go_enter Try.func11, Try.ntmps11
  go_wp2_with (go_at_call 39; refine (none_mem bM bm _ c0).mono ?_; rintro e w' ⟨rfl, hw⟩; subst hw)
  go_ret
  exact ⟨rfl, rfl⟩

/-- No pool may be of such numbers. -/
def BadP (size count : Int) : Prop := size < 1 ∨ count < 1 ∨ 256 < count
theorem newPool_any (bM bm bb k at_ : Nat) (size count : Int) (lv : Value) (l : List (Nat × Nat)) (bs : List UInt8) (w : World) (hM : MemA w bM bm bb k lv l bs) (hat : at_ < 4294967296) (hs : size ≤ 9223372036854775807) :
    Calls Try.prog 12 #[.pointer (some ⟨bM, 0, none⟩), .int .u32 at_, .int .i64 size, .int .i64 count] w fun e w' => (BadP size count ∧ e = .returned (.tuple #[.pointer none, .int .i64 2]) ∧ Fr [] w w') ∨ (¬ BadP size count ∧ (k : Int) < at_ + size * count ∧ e = .returned (.tuple #[.pointer none, .int .i64 10]) ∧ Fr [] w w') ∨
      (∃ s c : Nat, size = s ∧ count = c ∧ 1 ≤ s ∧ s ≤ 1048576 ∧ 1 ≤ c ∧ c ≤ 256 ∧ at_ + s * c ≤ k ∧ ∃ bp bw, e = .returned (.tuple #[.pointer (some ⟨bp, 0, none⟩), .int .i64 0]) ∧ PoolA w' bp bm at_ s bw (List.replicate c 0) ∧ w.heap.size ≤ bp ∧ w.heap.size ≤ bw ∧ Fr [] w w') := by
  have hk := hM.mid.top
  by_cases hb : BadP size count
  · have c0 := hM.cp
    have HB := hid hb
    clear hM
    unfold BadP at hb
    by_cases h1 : size < 1
    · have d1 : decide (size < 1) = true := by simpa using h1
      clear hb
      go_enter Try.func12, Try.ntmps12
      go_wp2_with (go_at_call 39; refine (none_mem bM bm _ c0).mono ?_; rintro e w' ⟨rfl, hw⟩; subst hw)
      go_ret2
      exact .inl ⟨HB.out, rfl, Fr.refl _ _⟩
    · have d1 : decide (size < 1) = false := by simpa using h1
      by_cases h2 : count < 1
      · have d2 : decide (count < 1) = true := by simpa using h2
        clear hb
        go_enter Try.func12, Try.ntmps12
        go_wp2_with (go_at_call 39; refine (none_mem bM bm _ c0).mono ?_; rintro e w' ⟨rfl, hw⟩; subst hw)
        go_ret2
        exact .inl ⟨HB.out, rfl, Fr.refl _ _⟩
      · have d2 : decide (count < 1) = false := by simpa using h2
        have d3 : decide (256 < count) = true := by simp; omega
        clear hb
        go_enter Try.func12, Try.ntmps12
        go_wp2_with (go_at_call 39; refine (none_mem bM bm _ c0).mono ?_; rintro e w' ⟨rfl, hw⟩; subst hw)
        go_ret2
        exact .inl ⟨HB.out, rfl, Fr.refl _ _⟩
  · have HB := hid hb
    have hb' : 1 ≤ size ∧ 1 ≤ count ∧ count ≤ 256 := by unfold BadP at hb; omega
    obtain ⟨s, rfl⟩ : ∃ s : Nat, size = s := ⟨size.toNat, by omega⟩
    obtain ⟨c, rfl⟩ : ∃ c : Nat, count = c := ⟨count.toNat, by omega⟩
    clear hb
    by_cases ho : at_ + s * c ≤ k
    · have hsl : s ≤ 1048576 := by
        have := Nat.le_mul_of_pos_right s (show 0 < c by omega)
        omega
      exact (newPool_ok bM bm bb k at_ s c lv l bs w hM (by omega) hsl (by omega) (by omega) ho).mono fun e w' h => .inr (.inr ⟨s, c, rfl, rfl, by omega, hsl, by omega, by omega, ho, h⟩)
    · have hov : (k : Int) < (at_ : Int) + (s : Int) * (c : Int) := by rw [← Int.natCast_mul]; omega
      have HO := hid hov
      have c0 := hM.cp
      have c1 := hM.mid.c0
      clear hov
      have d1 : decide ((s : Int) < 1) = false := by simp; omega
      have d2 : decide ((c : Int) < 1) = false := by simp; omega
      have d3 : decide ((256 : Int) < (c : Int)) = false := by simp; omega
      by_cases hsl : s ≤ 1048576
      · have d4 : decide ((1048576 : Int) < (s : Int)) = false := by simp; omega
        obtain ⟨T, hT⟩ : ∃ T, T = s * c := ⟨_, rfl⟩
        have hmul : (s : Int) * (c : Int) = (T : Int) := by rw [hT, Int.natCast_mul]
        have hTb : T ≤ 268435456 := by rw [hT]; exact Nat.mul_le_mul hsl (show c ≤ 256 by omega)
        rw [← hT] at ho
        have wm : wrap64 ((s : Int) * (c : Int)) = (T : Int) := by rw [hmul]; simp only [wrap64]; omega
        have hd : decide ((at_ : Int) + (T : Int) ≤ (k : Int)) = false := by simp; omega
        have HH := hid (fun W (hc : W.cell? ⟨bm, 0, none⟩ = some (.slice (some ⟨bb, 0, none⟩) k k)) => holds_any bm bb at_ T k W hat (by omega) hk hc)
        clear hM hmul hT
        go_enter Try.func12, Try.ntmps12
        go_wp2_with (first | (go_at_call 39; refine (none_mem bM bm _ c0).mono ?_; rintro e w' ⟨rfl, hw⟩; subst hw) | (go_at_call 40; refine (HH.out _ c1).mono ?_; rintro e w' ⟨rfl, hw⟩; subst hw; rw [hd]))
        go_ret2
        exact .inr (.inl ⟨HB.out, HO.out, rfl, Fr.refl _ _⟩)
      · have d4 : decide ((1048576 : Int) < (s : Int)) = true := by simp; omega
        clear hM
        go_enter Try.func12, Try.ntmps12
        go_wp2_with (go_at_call 39; refine (none_mem bM bm _ c0).mono ?_; rintro e w' ⟨rfl, hw⟩; subst hw)
        go_ret2
        exact .inr (.inl ⟨HB.out, HO.out, rfl, Fr.refl _ _⟩)
theorem rnewPool_any (br bB bL k at_ : Nat) (size count : Int) (l : List (Nat × Nat)) (bs : List UInt8) (w : World) (hR : RefA w br bB bL k l bs) (hat : at_ < 4294967296) (hs : size ≤ 9223372036854775807) :
    Calls Try.prog 13 #[.pointer (some ⟨br, 0, none⟩), .int .u32 at_, .int .i64 size, .int .i64 count] w fun e w' => (BadP size count ∧ e = .returned (.tuple #[.pointer none, .int .i64 2]) ∧ Fr [] w w') ∨ (¬ BadP size count ∧ (k : Int) < at_ + size * count ∧ e = .returned (.tuple #[.pointer none, .int .i64 10]) ∧ Fr [] w w') ∨
      (∃ s c : Nat, size = s ∧ count = c ∧ 1 ≤ s ∧ s ≤ 1048576 ∧ 1 ≤ c ∧ c ≤ 256 ∧ at_ + s * c ≤ k ∧ ∃ bq bv, e = .returned (.tuple #[.pointer (some ⟨bq, 0, none⟩), .int .i64 0]) ∧ RPoolA w' bq br at_ s bv (List.replicate c 0) ∧ w.heap.size ≤ bq ∧ w.heap.size ≤ bv ∧ Fr [] w w') := by
  have hk := hR.top
  have c0 := hR.c0
  by_cases hb : BadP size count
  · have HB := hid hb
    clear hR
    unfold BadP at hb
    by_cases h1 : size < 1
    · have d1 : decide (size < 1) = true := by simpa using h1
      clear hb
      go_enter Try.func13, Try.ntmps13
      go_wp2
      go_ret2
      exact .inl ⟨HB.out, rfl, Fr.refl _ _⟩
    · have d1 : decide (size < 1) = false := by simpa using h1
      by_cases h2 : count < 1
      · have d2 : decide (count < 1) = true := by simpa using h2
        clear hb
        go_enter Try.func13, Try.ntmps13
        go_wp2
        go_ret2
        exact .inl ⟨HB.out, rfl, Fr.refl _ _⟩
      · have d2 : decide (count < 1) = false := by simpa using h2
        have d3 : decide (256 < count) = true := by simp; omega
        clear hb
        go_enter Try.func13, Try.ntmps13
        go_wp2
        go_ret2
        exact .inl ⟨HB.out, rfl, Fr.refl _ _⟩
  · have HB := hid hb
    have hb' : 1 ≤ size ∧ 1 ≤ count ∧ count ≤ 256 := by unfold BadP at hb; omega
    obtain ⟨s, rfl⟩ : ∃ s : Nat, size = s := ⟨size.toNat, by omega⟩
    obtain ⟨c, rfl⟩ : ∃ c : Nat, count = c := ⟨count.toNat, by omega⟩
    clear hb
    have d1 : decide ((s : Int) < 1) = false := by simp; omega
    have d2 : decide ((c : Int) < 1) = false := by simp; omega
    have d3 : decide ((256 : Int) < (c : Int)) = false := by simp; omega
    have hle := Nat.le_mul_of_pos_right s (show 0 < c by omega)
    obtain ⟨T, hT⟩ : ∃ T, T = s * c := ⟨_, rfl⟩
    have hmul : (s : Int) * (c : Int) = (T : Int) := by rw [hT, Int.natCast_mul]
    rw [← hT] at hle
    have HT := hid hT
    by_cases hsk : s ≤ k
    · have d4 : decide ((k : Int) < (s : Int)) = false := by simp; omega
      have d4' : decide (k < s) = false := by simp; omega
      have hTb : T ≤ 268435456 := by rw [hT]; exact Nat.mul_le_mul (show s ≤ 1048576 by omega) (show c ≤ 256 by omega)
      have wm : wrap64 ((s : Int) * (c : Int)) = (T : Int) := by rw [hmul]; simp only [wrap64]; omega
      clear hT
      by_cases ho : at_ + T ≤ k
      · have H := hid (rin_any br bB bL k at_ T l bs w hR hat (by omega) true ⟨fun _ => ⟨by omega, by omega⟩, fun _ => rfl⟩)
        have hmk := make_u8 c (by omega)
        clear hR hmul
        go_enter Try.func13, Try.ntmps13
        go_wp2_with (go_at_call 41; refine H.out.mono ?_; rintro e w1 ⟨rfl, hw⟩; subst hw)
        go_ret2
        refine .inr (.inr ⟨s, c, rfl, rfl, by omega, by omega, by omega, by omega, by rw [← HT.out]; exact ho, w1.heap.size + 1, w1.heap.size, rfl, ⟨?_, ?_⟩, by omega, Nat.le_refl _, ((Fr.refl _ _).alloc _).alloc _⟩)
        · rw [List.length_replicate]; exact heap_at _ _ (by simp)
        · rw [← madeBytes]; exact (Below.heap_alloc (w1.alloc _) _ w1.heap.size (by simp)).trans (heap_alloc_new w1 _)
      · have H := hid (rin_any br bB bL k at_ T l bs w hR hat (by omega) false ⟨fun h => Bool.noConfusion h, fun h => by omega⟩)
        have HO := hid (show (k : Int) < (at_ : Int) + (s : Int) * (c : Int) by rw [hmul]; omega)
        clear hR hmul
        go_enter Try.func13, Try.ntmps13
        go_wp2_with (go_at_call 41; refine H.out.mono ?_; rintro e w1 ⟨rfl, hw⟩; subst hw)
        go_ret2
        exact .inr (.inl ⟨HB.out, HO.out, rfl, Fr.refl _ _⟩)
    · have d4 : decide ((k : Int) < (s : Int)) = true := by simp; omega
      have d4' : decide (k < s) = true := by simp; omega
      have HO := hid (show (k : Int) < (at_ : Int) + (s : Int) * (c : Int) by rw [hmul]; omega)
      clear hR hmul hT
      go_enter Try.func13, Try.ntmps13
      go_wp2
      go_ret2
      exact .inr (.inl ⟨HB.out, HO.out, rfl, Fr.refl _ _⟩)
end Go.Proofs.Ytbkfgidmjkbfmaa
