/-
  The walks of NewPool, Get and Left of package mem's Pool, and of U16 where the statements ask it.
-/
import Derived.Test.YtbkfgidmjkbfmaaNum
namespace Go.Proofs.Ytbkfgidmjkbfmaa
open Go.RowKit Go.BigFrame
set_option linter.unusedVariables false
set_option linter.unusedSimpArgs false
set_option maxRecDepth 1000000
set_option maxHeartbeats 4000000

/-- A pool: the memory's fields, its place, its size, and whose each buffer is. -/
structure PoolA (w : World) (bp bm at_ size bw : Nat) (ws : List UInt8) : Prop where
  blk : w.heap[bp]? = some (.cells #[.pointer (some ⟨bm, 0, none⟩), .int .u32 (at_ : Nat), .int .u32 (size : Nat), .slice (some ⟨bw, 0, none⟩) ws.length ws.length] 84)
  who : w.heap[bw]? = some (.cells (ws.map b8).toArray 5)
theorem PoolA.fr {S : List Nat} {w w' : World} {bp bm at_ size bw : Nat} {ws : List UInt8} (h : PoolA w bp bm at_ size bw ws) (hF : Fr S w w') (h1 : bp ∉ S) (h2 : bw ∉ S) : PoolA w' bp bm at_ size bw ws := ⟨hF.heap h.blk h1, hF.heap h.who h2⟩
theorem PoolA.ne {w : World} {bp bm at_ size bw : Nat} {ws : List UInt8} (h : PoolA w bp bm at_ size bw ws) : bp ≠ bw := by
  intro e; subst e; have := h.blk; rw [h.who] at this; simp at this
theorem madeBytes (n : Nat) : madeCells #[.int .u8 0] n = ((List.replicate n (0 : UInt8)).map b8).toArray := by
  apply Array.ext'
  rw [toList_madeCells_one]
  simp [b8]

theorem heap_at (w : World) (o : Obj) {n : Nat} (h : n = w.heap.size) : (w.alloc o).heap[n]? = some o := by subst h; exact heap_alloc_new w o
theorem newPool_ok (bM bm bb k at_ size count : Nat) (lv : Value) (l : List (Nat × Nat)) (bs : List UInt8) (w : World) (hM : MemA w bM bm bb k lv l bs) (h1 : 1 ≤ size) (h2 : size ≤ 1048576) (h3 : 1 ≤ count) (h4 : count ≤ 256) (h5 : at_ + size * count ≤ k) :
    Calls Try.prog 12 #[.pointer (some ⟨bM, 0, none⟩), .int .u32 at_, .int .i64 size, .int .i64 count] w fun e w' => ∃ bp bw, e = .returned (.tuple #[.pointer (some ⟨bp, 0, none⟩), .int .i64 0]) ∧ PoolA w' bp bm at_ size bw (List.replicate count 0) ∧ w.heap.size ≤ bp ∧ w.heap.size ≤ bw ∧ Fr [] w w' := by
  have hk := hM.mid.top
  have c0 := hM.cp
  have c1 := hM.mid.c0
  have lM : bM < w.heap.size := lt_of_heap hM.top
  have hmk := make_u8 count (by omega)
  obtain ⟨T, hT⟩ : ∃ T, T = size * count := ⟨_, rfl⟩
  have hmul : (size : Int) * (count : Int) = (T : Int) := by rw [hT, Int.natCast_mul]
  rw [← hT] at h5
  have wm : wrap64 ((size : Int) * (count : Int)) = (T : Int) := by rw [hmul]; simp only [wrap64]; omega
  have hd : decide ((at_ : Int) + (T : Int) ≤ (k : Int)) = true := by simp; omega
  have HH := hid (fun W (hc : W.cell? ⟨bm, 0, none⟩ = some (.slice (some ⟨bb, 0, none⟩) k k)) => holds_any bm bb at_ T k W (by omega) (by omega) hk hc)
  clear hM hmul hT
  go_enter Try.func12, Try.ntmps12
  go_wp2_with (first | (go_at_call 39; refine (none_mem bM bm _ c0).mono ?_; rintro e w' ⟨rfl, hw⟩; subst hw) | (go_at_call 40; refine (HH.out _ c1).mono ?_; rintro e w' ⟨rfl, hw⟩; subst hw; rw [hd]))
  go_region
  all_goals go_wp2
  all_goals go_ret2
  all_goals
    refine ⟨w'.heap.size + 1, w'.heap.size, rfl, ⟨?_, ?_⟩, by omega, Nat.le_refl _, (((Fr.refl _ _).alloc _).alloc _).drew⟩
    · rw [List.length_replicate]
      exact heap_at (w'.alloc _) _ (by simp)
    · rw [← madeBytes]
      exact (Below.heap_alloc (w'.alloc _) _ w'.heap.size (by simp)).trans (heap_alloc_new w' _)

theorem who_cell {w : World} {bw : Nat} {ws : List UInt8} (h : w.heap[bw]? = some (.cells (ws.map b8).toArray 5)) (i : Nat) (hi : i < ws.length) : w.cell? ⟨bw, i, none⟩ = some (.int .u8 ((ws[i]).toNat : Nat)) :=
  cell_of_heap h (by simp [hi, b8])

/-- How many buffers are free. -/
def frees (ws : List UInt8) : Nat := ws.countP (· == 0)
theorem frees_take (ws : List UInt8) (i : Nat) (h : i < ws.length) : frees (ws.take (i + 1)) = frees (ws.take i) + (if ws[i].toNat = 0 then 1 else 0) := by
  unfold frees
  rw [List.take_succ_eq_append_getElem h, List.countP_append]
  congr 1
  have : (ws[i] == 0) = decide (ws[i].toNat = 0) := by
    rw [Bool.eq_iff_iff]; simp [← UInt8.toNat_inj]
  simp [List.countP_cons, this]
theorem frees_le (ws : List UInt8) : frees ws ≤ ws.length := List.countP_le_length

theorem left_any (bp bm at_ size bw : Nat) (ws : List UInt8) (w : World) (hP : PoolA w bp bm at_ size bw ws) (hl : ws.length ≤ 256) :
    Calls Try.prog 18 #[.pointer (some ⟨bp, 0, none⟩)] w fun e w' => e = .returned (.int .i64 (frees ws : Nat)) ∧ w' = w := by
  have c0 := cell_of_heap (o := 0) (v := .pointer (some ⟨bm, 0, none⟩)) hP.blk rfl
  have c3 := cell_of_heap (o := 3) (v := .slice (some ⟨bw, 0, none⟩) ws.length ws.length) hP.blk rfl
  have HW := hid hP.who
  clear hP
  go_enter Try.func18, Try.ntmps18
  go_wp2_with (go_at_call 53; refine (pnone_pool bp bm _ c0).mono ?_; rintro e w' ⟨rfl, hw⟩; subst hw)
  go_loop [3, 13] (fun n i => ∃ k : Nat, k ≤ ws.length ∧ i = .int .i64 k ∧ n = .int .i64 (frees (ws.take k) : Nat)) (fun _ i => ws.length - (intOf i).toNat)
  case atStart => exact ⟨0, Nat.zero_le _, rfl, rfl⟩
  case round =>
    obtain ⟨k, hk, rfl, rfl⟩ := hrel
    have hf := frees_le (ws.take k)
    have hf2 : (ws.take k).length ≤ 256 := by simp; omega
    by_cases hlt : k < ws.length
    · have hc := who_cell HW.out k hlt
      have HF := hid (frees_take ws k hlt)
      have hlt' : (k : Int) < (ws.length : Int) := by omega
      generalize hx : ws[k].toNat = x at *
      clear hx
      by_cases hx0 : x = 0
      · subst hx0
        have HG : Hid (frees (ws.take (k + 1)) = frees (ws.take k) + 1) := by show _ = _; rw [HF.out]; simp
        clear HF
        go_wp2
        go_round
        case rel => exact ⟨k + 1, by omega, by go_num, by rw [HG.out]; go_num⟩
        case measure => simp [intOf]; omega
      · have hx1 : ((x : Int) == 0) = false := by simp; omega
        have HG : Hid (frees (ws.take (k + 1)) = frees (ws.take k)) := by show _ = _; rw [HF.out]; simp [hx0]
        clear HF
        go_wp2
        go_round
        case rel => exact ⟨k + 1, by omega, by go_num, by rw [HG.out]⟩
        case measure => simp [intOf]; omega
    · obtain rfl : k = ws.length := by omega
      go_wp2
      go_ret
      exact ⟨by simp, rfl⟩

theorem setW {w : World} {bw : Nat} {ws : List UInt8} (h : w.heap[bw]? = some (.cells (ws.map b8).toArray 5)) (i : Nat) (x : UInt8) : (w.setCell ⟨bw, i, none⟩ (.int .u8 (x.toNat : Nat))).heap[bw]? = some (.cells ((ws.set i x).map b8).toArray 5) := by
  simp [World.setCell, Array.getElem?_modify, h, List.map_set, b8]

theorem get_hit (bp bm at_ size bw i : Nat) (ws : List UInt8) (w : World) (hP : PoolA w bp bm at_ size bw ws) (hl : ws.length ≤ 256) (hi : i < ws.length) (h0 : ws[i] = 0) (hno : ∀ j (h : j < i), ws[j]'(by omega) ≠ 0) (hb : at_ + i * size < 4294967296) (hs : i * size < 4294967296) :
    Calls Try.prog 28 #[.pointer (some ⟨bp, 0, none⟩)] w fun e w' => e = .returned (.tuple #[.int .u32 ((at_ + i * size : Nat) : Int), .int .i64 0]) ∧ PoolA w' bp bm at_ size bw (ws.set i 1) ∧ Fr [bw] w w' := by
  have c0 := cell_of_heap (o := 0) (v := .pointer (some ⟨bm, 0, none⟩)) hP.blk rfl
  have c1 := cell_of_heap (o := 1) (v := .int .u32 (at_ : Nat)) hP.blk rfl
  have c2 := cell_of_heap (o := 2) (v := .int .u32 (size : Nat)) hP.blk rfl
  have c3 := cell_of_heap (o := 3) (v := .slice (some ⟨bw, 0, none⟩) ws.length ws.length) hP.blk rfl
  have HP := hid hP
  have HN := hid hno
  have HZ := hid h0
  have z0 := frozen_of_heap (o := i) hP.who
  have hne := hP.ne
  obtain ⟨T, hT⟩ : ∃ T, T = i * size := ⟨_, rfl⟩
  have hmul : (i : Int) * (size : Int) = (T : Int) := by rw [hT, Int.natCast_mul]
  rw [← hT] at hb hs ⊢
  have wm : IntKind.u32.wrap ((i : Int) * (size : Int)) = (T : Int) := by rw [hmul, IntKind.wrap_u32]; omega
  have wa : IntKind.u32.wrap ((at_ : Int) + (T : Int)) = ((at_ + T : Nat) : Int) := by rw [IntKind.wrap_u32]; omega
  clear hP hno h0 hmul hT
  go_enter Try.func28, Try.ntmps28
  go_wp2_with (go_at_call 53; refine (pnone_pool bp bm _ c0).mono ?_; rintro e w' ⟨rfl, hw⟩; subst hw)
  go_loop [13] (fun q => ∃ k : Nat, k ≤ i ∧ q = .int .i64 k) (fun q => ws.length - (intOf q).toNat)
  case atStart => exact ⟨0, Nat.zero_le _, rfl⟩
  case round =>
    obtain ⟨k, hk, rfl⟩ := hrel
    have hlt' : (k : Int) < (ws.length : Int) := by omega
    have hc := who_cell HP.out.who k (by omega)
    rcases Nat.eq_or_lt_of_le hk with e | e
    · subst e
      rw [HZ.out] at hc
      have hc' : w'.cell? ⟨bw, k, none⟩ = some (.int .u8 0) := hc
      clear hc
      obtain ⟨w1, hw1⟩ : ∃ w1, w1 = w'.setCell ⟨bw, k, none⟩ (.int .u8 1) := ⟨_, rfl⟩
      have F1 : Fr [bw] w' w1 := hw1 ▸ (Fr.refl [bw] w').setCell (by simp) _
      have d1 := F1.cell c1 (by simpa using hne)
      have d2 := F1.cell c2 (by simpa using hne)
      have HPP : Hid (PoolA w1 bp bm at_ size bw (ws.set k 1)) := by
        refine ⟨?_, ?_⟩
        · rw [List.length_set]; exact F1.heap HP.out.blk (by simpa using hne)
        · rw [hw1]; exact setW HP.out.who k 1
      go_wp2_with fail
      rw [← hw1]
      clear hw1
      go_quiet (fail)
      go_wp2
      go_ret2
      exact ⟨by simp, ⟨HPP.out.blk, HPP.out.who⟩, F1.drewN _⟩
    · have hx1 : ((((ws[k]'(by omega)).toNat : Nat) : Int) == 0) = false := by
        have := HN.out k e
        simp
        intro h; apply this; rw [← UInt8.toNat_inj]; simpa using h
      generalize hx : (ws[k]'(by omega)).toNat = x at *
      clear hx
      go_wp2
      go_round
      case rel => exact ⟨k + 1, by omega, by go_num⟩
      case measure => simp [intOf]; omega
end Go.Proofs.Ytbkfgidmjkbfmaa
