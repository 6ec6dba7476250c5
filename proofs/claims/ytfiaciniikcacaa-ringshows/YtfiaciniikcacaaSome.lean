/-
  The walks of 'someLent' and 'allLent' of package mem: whether one byte, or each byte, of a span is lent.
-/
import Derived.Test.YtfiaciniikcacaaSpans
namespace Go.Proofs.Ytfiaciniikcacaa
open Go.RowKit Go.BigFrame
set_option linter.unusedVariables false
set_option linter.unusedSimpArgs false
set_option maxRecDepth 100000
set_option maxHeartbeats 1000000

/-- What is lent: the list of spans that a memory's second field holds. -/
structure Lnt (w : World) (bm : Nat) (lv : Value) (l : List (Nat × Nat)) : Prop where
  cell : w.cell? ⟨bm, 1, none⟩ = some lv
  own : w.ownsRow 0 83 2 lv l.length (flat l)

theorem ownsRow.rowAt {w : World} {g n cap : Nat} {l : List (Nat × Nat)} (h : w.ownsRow 0 83 2 (.slice (some ⟨g, 0, none⟩) n cap) n (flat l)) (hn : n = l.length) : RowAt w g l := by
  intro i hi
  subst hn
  exact ⟨(h.cellAt (i * 2) (by omega)).trans (flat_fs l i hi), (h.cellAt (i * 2 + 1) (by omega)).trans (flat_sn l i hi)⟩

theorem Lnt.shape {w : World} {bm : Nat} {lv : Value} {l : List (Nat × Nat)} (h : Lnt w bm lv l) :
    (lv = .slice none 0 0 ∧ l = []) ∨ ∃ g cap, lv = .slice (some ⟨g, 0, none⟩) l.length cap ∧ l.length ≤ cap ∧ cap ≤ maxLen ∧ RowAt w g l ∧ g < w.heap.size := by
  rcases h.own.2 with ⟨e, h0⟩ | ⟨g, cap, cur, e, _, hh, hc, hm, _⟩
  · exact .inl ⟨e, List.eq_nil_of_length_eq_zero h0⟩
  · subst e
    exact .inr ⟨g, cap, rfl, hc, hm, ownsRow.rowAt h.own rfl, lt_of_heap hh⟩

theorem some_any (bm a n m : Nat) (lv : Value) (l : List (Nat × Nat)) (w : World) (hL : Lnt w bm lv l) (hc : Canon l m) (hm : m ≤ 1048576) (ha : a < 4294967296) (han : a + n ≤ m) :
    Calls Try.prog 53 #[.pointer (some ⟨bm, 0, none⟩), .agg #[.int .u32 a, .int .u32 n]] w fun e w' => ∃ b : Bool, (b = true ↔ ∃ k, a ≤ k ∧ k < a + n ∧ In l k) ∧ e = .returned (.bool b) ∧ Fr [] w w' := by
  by_cases hn : n = 0
  · subst hn
    go_enter Try.func53, Try.ntmps53
    go_wp2
    go_ret
    exact ⟨false, ⟨fun h => Bool.noConfusion h, fun ⟨k, h1, h2, _⟩ => by omega⟩, rfl, (Fr.refl _ _).alloc _⟩
  · have hn0 : ((n : Int) == 0) = false := by simp; omega
    have hF0 : Fr [] w (w.alloc (.cells #[.int .u32 a, .int .u32 n] 83)) := (Fr.refl _ _).alloc _
    have cm := hF0.cell hL.cell (by simp)
    rcases hL.shape with ⟨e, hl⟩ | ⟨g, cap, e, hcap, hcm, hR, hgl⟩
    · subst e; subst hl
      have H := hid (cut_nil bm a n _ cm)
      clear cm
      go_enter Try.func53, Try.ntmps53
      go_wp2_with fail
      refine H.out.mono ?_
      rintro e W ⟨rfl, hF⟩
      go_wp2
      go_ret
      exact ⟨false, ⟨fun h => Bool.noConfusion h, fun ⟨k, h1, h2, p, hp, _⟩ => by simp at hp⟩, rfl, hF0.trans0 hF⟩
    · subst e
      have hll := hc.len
      have H := hid (cut_row bm g cap a n l _ (by omega) (by omega) (by omega) hcap cm (hR.fr hF0 (by simp)) (fun i hi => by have := hc.top i hi; omega) (fun i j => hc.mono i j))
      clear cm hR
      go_enter Try.func53, Try.ntmps53
      go_wp2_with fail
      refine H.out.mono ?_
      rintro e W ⟨i, j, C, rfl, hF⟩
      have hsome := C.some hc (by omega)
      have hij := C.ij
      have hjn := C.jn
      go_wp2
      go_ret
      refine ⟨decide (i < j), by rw [← hsome]; simp, ?_, hF0.trans0 hF⟩
      have : decide ((0 : Int) < ((j - i : Nat) : Int)) = decide (i < j) := by simp; omega
      simpa using this

theorem all_any (bm a n m : Nat) (lv : Value) (l : List (Nat × Nat)) (w : World) (hL : Lnt w bm lv l) (hc : Canon l m) (hm : m ≤ 1048576) (ha : a < 4294967296) (han : a + n ≤ m) :
    Calls Try.prog 46 #[.pointer (some ⟨bm, 0, none⟩), .agg #[.int .u32 a, .int .u32 n]] w fun e w' => ∃ b : Bool, (b = true ↔ ∀ k, a ≤ k → k < a + n → In l k) ∧ e = .returned (.bool b) ∧ Fr [] w w' := by
  by_cases hn : n = 0
  · subst hn
    go_enter Try.func46, Try.ntmps46
    go_wp2
    go_ret
    exact ⟨true, ⟨fun _ k h1 h2 => absurd h2 (by omega), fun _ => rfl⟩, rfl, (Fr.refl _ _).alloc _⟩
  · have hn0 : ((n : Int) == 0) = false := by simp; omega
    have hF0 : Fr [] w (w.alloc (.cells #[.int .u32 a, .int .u32 n] 83)) := (Fr.refl _ _).alloc _
    have cm := hF0.cell hL.cell (by simp)
    rcases hL.shape with ⟨e, hl⟩ | ⟨g, cap, e, hcap, hcm, hR, hgl⟩
    · subst e; subst hl
      have H := hid (cut_nil bm a n _ cm)
      clear cm
      go_enter Try.func46, Try.ntmps46
      go_wp2_with fail
      refine H.out.mono ?_
      rintro e W ⟨rfl, hF⟩
      have c0 := hF.cell (p := ⟨w.heap.size, 0, none⟩) (v := .int .u32 a) (by simp) (by simp)
      have c1 := hF.cell (p := ⟨w.heap.size, 1, none⟩) (v := .int .u32 n) (by simp) (by simp)
      go_wp2
      go_quiet (fail)
      go_wp2
      go_ret
      exact ⟨false, ⟨fun h => Bool.noConfusion h, fun h => by obtain ⟨p, hp, _⟩ := h a (by omega) (by omega); simp at hp⟩, rfl, (hF0.trans0 hF).drewN _⟩
    · subst e
      have hll := hc.len
      have H := hid (cut_row bm g cap a n l _ (by omega) (by omega) (by omega) hcap cm (hR.fr hF0 (by simp)) (fun i hi => by have := hc.top i hi; omega) (fun i j => hc.mono i j))
      have HR := hid hR
      clear cm hR
      go_enter Try.func46, Try.ntmps46
      go_wp2_with fail
      refine H.out.mono ?_
      rintro e W ⟨i, j, C, rfl, hF⟩
      have hall := C.all hc (by omega)
      have hij := C.ij
      have hjn := C.jn
      have HA := hid hall
      clear hall
      have c0 := hF.cell (p := ⟨w.heap.size, 0, none⟩) (v := .int .u32 a) (by simp) (by simp)
      have c1 := hF.cell (p := ⟨w.heap.size, 1, none⟩) (v := .int .u32 n) (by simp) (by simp)
      by_cases e1 : j = i + 1
      · subst e1
        have r0 := ((HR.out.fr (hF0.trans0 hF) (by simp)) i (by omega)).1
        have r1 := ((HR.out.fr (hF0.trans0 hF) (by simp)) i (by omega)).2
        have t1 := hc.top i (by omega)
        have o1 : so i (i + 1 - i) = i * 2 := by simp [so]
        have o2 : i + 1 - i = 1 := by omega
        rw [o1, o2]
        have lg : g < W.heap.size := Nat.lt_of_lt_of_le hgl (hF0.trans0 hF).size
        have lw : w.heap.size < W.heap.size := World.block_lt_of_cell? W _ c0
        generalize hx : fs l i = x at *
        generalize hy : sn l i = y at *
        clear hx hy o1 o2
        by_cases e2 : x ≤ a
        · have d1 : decide ((x : Int) ≤ (a : Int)) = true := by simp; omega
          go_wp2
          refine wp_region_ext (by kernel_rfl) (by kernel_rfl) ?_
          repeat (go_big_quiet_step (first | exact Calls.ext_of (end_fr a n (by omega) _) | exact Calls.ext_of (end_fr x y (by omega) _)))
          refine wpQuiet_nil ?_
          rintro _ ⟨xq, rfl⟩
          go_wp2
          go_ret
          exact ⟨decide ((a : Int) + (n : Int) ≤ (x : Int) + (y : Int)), by rw [← HA.out]; simp; omega, rfl, (hF0.trans0 hF).trans0 (ext_fr _ _)⟩
        · have d1 : decide ((x : Int) ≤ (a : Int)) = false := by simp; omega
          go_wp2
          go_quiet (fail)
          go_wp2
          go_ret
          exact ⟨false, ⟨fun h => Bool.noConfusion h, fun h => absurd (HA.out.2 h).2.1 e2⟩, rfl, (hF0.trans0 hF).drewN _⟩
      · have e2 : (((j - i : Nat) : Int) == 1) = false := by simp; omega
        go_wp2
        go_quiet (fail)
        go_wp2
        go_ret
        exact ⟨false, ⟨fun h => Bool.noConfusion h, fun h => absurd (HA.out.2 h).1 e1⟩, rfl, (hF0.trans0 hF).drewN _⟩
end Go.Proofs.Ytfiaciniikcacaa
