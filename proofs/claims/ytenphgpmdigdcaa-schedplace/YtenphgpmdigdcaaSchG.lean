/-
  The walks of slices.Delete of one element, slices.IndexFunc and turn. No statement is proved here.
-/
import Derived.Test.YtenphgpmdigdcaaSchF
namespace Go.Proofs.Ytenphgpmdigdcaa
open Go.RowKit Go.BigFrame Go.MapKept
set_option linter.unusedVariables false
set_option linter.unusedSimpArgs false
set_option maxRecDepth 1000000
set_option maxHeartbeats 4000000

theorem late_any (sb p cb tb pa : Nat) (w : World) (h0 : w.cell? ⟨cb, 0, none⟩ = some (.pointer (some ⟨sb, 0, none⟩))) (h1 : w.cell? ⟨sb, 0, none⟩ = some (.int .i64 (p : Nat))) (h2 : w.cell? ⟨tb, 3, none⟩ = some (.int .i64 (pa : Nat))) :
    Calls Try.prog 48 #[.pointer (some ⟨tb, 0, none⟩), .pointer (some ⟨cb, 0, none⟩)] w fun e w' => e = .returned (.bool (decide (p ≤ pa))) ∧ Fr [] w w' := by
  go_enter Try.func48, Try.ntmps48
  go_wp2_with fail
  go_quiet (fail)
  go_wp2
  go_ret
  exact ⟨by simp, (Fr.refl _ _).drewN _⟩
theorem load_drop (w : World) (B g n cap : Nat) (bs : List Nat) (hO : Own w B (.slice (some ⟨g, 0, none⟩) n cap) bs) (i : Nat) (hi : i ≤ bs.length) : (loadCellsFrom ⟨g, i, none⟩ 0 (bs.length - i) #[]).run Try.prog w = .ok (pvs (bs.drop i)).toArray w := by
  have := run_loadCellsFrom (P := Try.prog) (w := w) ⟨g, i, none⟩ (fun j => pv (bs.getD (i + j) 0)) (bs.length - i) 0 #[] (fun j hj => by
    have hadd : (⟨g, i, none⟩ : Addr).add (0 + j) = ⟨g, i + j, none⟩ := by unfold Addr.add; split <;> simp_all
    rw [hadd, hO.cell (i + j) (by omega)]
    have : i + j < bs.length := by omega
    simp [pv, this])
  rw [this]
  congr 1
  apply Array.ext'
  apply List.ext_getElem
  · simp [pvs]
  · intro j h1 h2
    simp at h1
    have : i + j < bs.length := by omega
    simp [pvs, this]
theorem delete_one (B g m cap i : Nat) (bs : List Nat) (w : World) (hn : bs.length = m + 1) (hO : Own w B (.slice (some ⟨g, 0, none⟩) (m + 1) cap) bs) (hi : i ≤ m) (hm : m ≤ 100000) :
    Calls Try.prog 38 #[.slice (some ⟨g, 0, none⟩) (m + 1) cap, .int .i64 (i : Nat), .int .i64 (i + 1 : Nat)] w fun e w' => e = .returned (.slice (some ⟨g, 0, none⟩) m cap) ∧ Own w' B (.slice (some ⟨g, 0, none⟩) m cap) (bs.eraseIdx i) ∧ Fr [g] w w' := by
  have hi' : (i : Int) < ((m + 1 : Nat) : Int) := by omega
  have e1 : ((i : Int) == ((i + 1 : Nat) : Int)) = false := by simp; omega
  have hld := load_drop w.drew B g (m + 1) cap bs hO (i + 1) (by omega)
  rw [hn, Nat.add_sub_add_right] at hld
  obtain ⟨g', cap', cur, hv, hcap, hcm, hg, hcs, htk, hBg⟩ := hO.at (by omega)
  simp at hv
  obtain ⟨h1, h2, h3⟩ := hv
  subst h1 h3
  have hdl : (pvs (bs.drop (i + 1))).length = m - i := by rw [pvs_length]; simp; omega
  have hst := run_storeCells_at Try.prog g i 61 (pvs (bs.drop (i + 1))) 0 cur w.drew hg (by rw [hdl]; omega) (pvs_one _)
  have hg1 := setRow_heap w.drew g cur ((cur.toList.take (i + 0) ++ pvs (bs.drop (i + 1)) ++ cur.toList.drop (i + 0 + (pvs (bs.drop (i + 1))).length)).toArray) 61 _ hg
  have hF1 : Fr [g] w (w.drew.setRow g ((cur.toList.take (i + 0) ++ pvs (bs.drop (i + 1)) ++ cur.toList.drop (i + 0 + (pvs (bs.drop (i + 1))).length)).toArray)) := ((Fr.refl [g] w).drew).setRow (by simp) _
  have hlen : (cur.toList.take (i + 0) ++ pvs (bs.drop (i + 1)) ++ cur.toList.drop (i + 0 + (pvs (bs.drop (i + 1))).length)).length = cap := by rw [List.length_append, List.length_append, hdl]; simp; omega
  have htake : (cur.toList.take (i + 0) ++ pvs (bs.drop (i + 1)) ++ cur.toList.drop (i + 0 + (pvs (bs.drop (i + 1))).length)).take m = pvs (bs.eraseIdx i) := by
    have e1 : cur.toList.take i = pvs (bs.take i) := by
      have : cur.toList.take i = (cur.toList.take bs.length).take i := by rw [List.take_take, Nat.min_eq_left (by omega)]
      rw [this, htk]; simp [pvs]
    rw [Nat.add_zero, e1, List.eraseIdx_eq_take_drop_succ, pvs_append]
    refine List.take_left' ?_
    rw [List.length_append, hdl, pvs_length]; simp; omega
  generalize (cur.toList.take (i + 0) ++ pvs (bs.drop (i + 1)) ++ cur.toList.drop (i + 0 + (pvs (bs.drop (i + 1))).length)) = L at *
  generalize w.drew.setRow g L.toArray = w2 at *
  generalize pvs (bs.drop (i + 1)) = dl at *
  have HFin := hid (p := _) (show Own (w2.setCell ⟨g, m, none⟩ (.pointer none)) B (.slice (some ⟨g, 0, none⟩) m cap) (bs.eraseIdx i) ∧ Fr [g] w (w2.setCell ⟨g, m, none⟩ (.pointer none)) from by
    refine ⟨?_, hF1.setCell (by simp) _⟩
    have hle : (bs.eraseIdx i).length = m := by rw [List.length_eraseIdx, if_pos (by omega), hn]; rfl
    refine ⟨by rw [pvs_length, Nat.mul_one], .inr ⟨g, cap, (L.set m (.pointer none)).toArray, by rw [hle], hBg, ?_, by omega, hcm, by simp [hlen], ?_⟩⟩
    · simp [World.setCell, Array.getElem?_modify, hg1]
    · rw [hle, ← htake]
      simp [List.take_set_of_le])
  have c9 : w2.cell? ⟨g, m, none⟩ = some (L[m]'(by omega)) := cell_of_heap hg1 (by simp)
  have f9 : w2.frozen? ⟨g, m, none⟩ = false := frozen_of_heap hg1
  generalize L[m]'(by omega) = u9 at *
  have e2 : i + (m - i) = m := by omega
  have m1 : (m : Int) < (cap : Int) := by omega
  have m2 : (m : Int) + 1 ≤ (cap : Int) := by omega
  have m3 : m < cap := by omega
  have hcl : (Builtin.clear_ #[60] 0 #[.slice (some ⟨g, m, none⟩) 1 (cap - m)]).run Try.prog w2 = .ok (.tuple #[]) (w2.setCell ⟨g, m, none⟩ (.pointer none)) := by
    obtain ⟨ti, hti, hz, hsz, hb⟩ := info61
    simp [Builtin.clear_, run_underlying Try.underlying60, zeroValue, typeInfo, hti, hz, Value.cells, Builtin.zeroCells, c9, f9, go_sem]
  have HDL := hid (p := _) (And.intro hdl hst)
  clear hO htk hBg hg hF1 hlen htake hg1 hdl h2 hn hcs
  by_cases hce : cap = i + 1
  · obtain rfl : m = i := by omega
    obtain rfl : dl = [] := List.length_eq_zero_iff.1 (by rw [HDL.out.1]; omega)
    have hw : w.drew = w2 := by have := HDL.out.2; simpa [storeCells] using this
    subst hw
    subst hce
    rw [show m + 1 - m = 1 by omega] at hcl
    clear hld hst e2 HDL
    go_enter Try.func38, Try.ntmps38
    go_wp2_with fail
    go_region_held (fun _ => True) (trivial) (fail)
    go_wp2_with fail
    all_goals (go_ret; exact ⟨rfl, HFin.out.1, HFin.out.2⟩)
  · have hc' : i + 1 < cap := by omega
    go_enter Try.func38, Try.ntmps38
    go_wp2_with fail
    go_region_held (fun _ => True) (trivial) (fail)
    go_wp2_with fail
    all_goals (go_ret; exact ⟨rfl, HFin.out.1, HFin.out.2⟩)
/-- The first that was passed over too often. -/
def LateAt (p : Nat) (R : List Tk) (k : Nat) : Prop := ∃ h : k < R.length, p ≤ R[k].pa ∧ ∀ j (h : j < R.length), j < k → R[j].pa < p
theorem index_any (B sb p g cap cb : Nat) (R : List Tk) (w : World) (h0 : w.cell? ⟨cb, 0, none⟩ = some (.pointer (some ⟨sb, 0, none⟩))) (h1 : w.cell? ⟨sb, 0, none⟩ = some (.int .i64 (p : Nat))) (hT : ∀ t ∈ R, TkAt w t) (hO : Own w B (.slice (some ⟨g, 0, none⟩) R.length cap) (R.map Tk.b)) (hl : R.length ≤ 256) :
    Calls Try.prog 49 #[.slice (some ⟨g, 0, none⟩) R.length cap, .func (.func 48) #[] #[.pointer (some ⟨cb, 0, none⟩)]] w fun e w' => ∃ r : Int, e = .returned (.int .i64 r) ∧ ((∃ k : Nat, r = k ∧ LateAt p R k) ∨ (r = -1 ∧ ∀ t ∈ R, t.pa < p)) ∧ Fr [] w w' := by
  have HC := hid (p := _) (fun (wr : World) (hF : Fr [] w wr) (i : Nat) (hi : i < R.length) => (show wr.cell? ⟨g, i, none⟩ = some (.pointer (some ⟨R[i].b, 0, none⟩)) ∧ Calls Try.prog 48 #[.pointer (some ⟨R[i].b, 0, none⟩), .pointer (some ⟨cb, 0, none⟩)] wr fun e w' => e = .returned (.bool (decide (p ≤ R[i].pa))) ∧ Fr [] wr w' from by
    have := (hO.fr hF (by simp)).cell i (by simpa using hi)
    rw [List.getElem_map] at this
    exact ⟨this, late_any sb p cb _ _ wr (hF.cell h0 (by simp)) (hF.cell h1 (by simp)) ((hT _ (List.getElem_mem hi)).fr hF (by simp)).cells.2.2.2.1⟩))
  clear hO hT h0 h1
  go_enter Try.func49, Try.ntmps49
  go_wp2_with fail
  go_loopg [8] R.length (fun gk q wr => ∃ i : Nat, i ≤ R.length ∧ gk = R.length - i ∧ q = .int .i64 i ∧ Hid ((∀ j (h : j < R.length), j < i → R[j].pa < p) ∧ Fr [] w wr))
  case atStart => exact ⟨0, Nat.zero_le _, rfl, rfl, hid ⟨by omega, Fr.refl _ _⟩⟩
  case round =>
    obtain ⟨i, hi, hgk, rfl, K⟩ := hrel
    by_cases hlt : i < R.length
    · have hlt' : (i : Int) < (R.length : Int) := by omega
      have r0 := (HC.out wr K.out.2 i hlt).1
      have H48 := hid (p := _) ((HC.out wr K.out.2 i hlt).2)
      by_cases hp : p ≤ R[i].pa
      · rw [decide_eq_true hp] at H48
        have HP := hid (p := _) hp
        clear hp
        generalize R[i].b = tb at *
        go_wp2_with (go_at_call 48; refine H48.out.mono ?_; rintro e w5 ⟨rfl, hF5⟩)
        go_ret
        exact ⟨i, rfl, .inl ⟨i, rfl, hlt, HP.out, K.out.1⟩, K.out.2.trans0 hF5⟩
      · rw [decide_eq_false hp] at H48
        have HP := hid (p := _) hp
        clear hp
        generalize R[i].b = tb at *
        go_wp2_with (go_at_call 48; refine H48.out.mono ?_; rintro e w5 ⟨rfl, hF5⟩)
        go_roundg (R.length - (i + 1))
        case measure => omega
        case rel => exact ⟨i + 1, by omega, rfl, by go_num, hid ⟨fun j hj hji => by
            rcases Nat.lt_or_ge j i with h | h
            · exact K.out.1 j hj h
            · obtain rfl : j = i := by omega
              have := HP.out; omega, K.out.2.trans0 hF5⟩⟩
    · obtain rfl : i = R.length := by omega
      go_wp2_with fail
      go_ret
      exact ⟨-1, rfl, .inr ⟨rfl, fun t ht => by obtain ⟨n, hn, rfl⟩ := List.mem_iff_getElem.1 ht; exact K.out.1 n hn hn⟩, K.out.2⟩
end Go.Proofs.Ytenphgpmdigdcaa
