/-
  The walks of earlier and of the sort of up to twenty tasks: what comes is the tasks that were, in some order. No statement is proved here.
-/
import Derived.Test.YtenphgpmdigdcaaSchL
namespace Go.Proofs.Ytenphgpmdigdcaa
open Go.RowKit Go.BigFrame Go.MapKept
set_option linter.unusedVariables false
set_option linter.unusedSimpArgs false
set_option maxRecDepth 1000000
set_option maxHeartbeats 4000000

theorem isnan_any (x : Int) (w : World) : Calls Try.prog 54 #[.int .u64 x] w fun e w' => e = .returned (.bool false) ∧ w' = w := by
  go_enter Try.func54, Try.ntmps54
  go_wp2
  go_ret
  exact ⟨by simp, rfl⟩
def cmpv (a b : Nat) : Int := if a < b then -1 else if b < a then 1 else 0
theorem compare_any (a b : Nat) (w : World) : Calls Try.prog 51 #[.int .u64 (a : Nat), .int .u64 (b : Nat)] w fun e w' => e = .returned (.int .i64 (cmpv a b)) ∧ w' = w := by
  rcases Nat.lt_trichotomy a b with h | h | h
  · rw [show cmpv a b = -1 from by unfold cmpv; rw [if_pos h]]
    have h' : (a : Int) < (b : Int) := by omega
    go_enter Try.func51, Try.ntmps51
    go_wp2_with (go_at_call 54; refine (isnan_any _ _).mono ?_; rintro e w' ⟨rfl, rfl⟩)
    go_ret
    exact ⟨rfl, rfl⟩
  · rw [show cmpv a b = 0 from by unfold cmpv; rw [if_neg (by omega), if_neg (by omega)]]
    subst h
    have h' : ¬ (a : Int) < (a : Int) := by omega
    go_enter Try.func51, Try.ntmps51
    go_wp2_with (go_at_call 54; refine (isnan_any _ _).mono ?_; rintro e w' ⟨rfl, rfl⟩)
    go_ret
    exact ⟨rfl, rfl⟩
  · rw [show cmpv a b = 1 from by unfold cmpv; rw [if_neg (by omega), if_pos h]]
    have h' : (b : Int) < (a : Int) := by omega
    have h2 : ¬ (a : Int) < (b : Int) := by omega
    go_enter Try.func51, Try.ntmps51
    go_wp2_with (go_at_call 54; refine (isnan_any _ _).mono ?_; rintro e w' ⟨rfl, rfl⟩)
    go_ret
    exact ⟨rfl, rfl⟩
theorem earlier_any (ta tb ua ub : Nat) (w : World) (h1 : w.cell? ⟨ta, 5, none⟩ = some (.int .u64 (ua : Nat))) (h2 : w.cell? ⟨tb, 5, none⟩ = some (.int .u64 (ub : Nat))) :
    Calls Try.prog 42 #[.pointer (some ⟨ta, 0, none⟩), .pointer (some ⟨tb, 0, none⟩)] w fun e w' => e = .returned (.int .i64 (cmpv ua ub)) ∧ ∃ m, w' = w.drewN m := by
  have H := hid (p := _) (fun W => compare_any ua ub W)
  go_enter Try.func42, Try.ntmps42
  go_wp2_with fail
  go_quiet (exact Calls.quiet_of_same (H.out _))
  go_wp2
  go_ret
  exact ⟨rfl, _, rfl⟩
theorem Own.set {w : World} {B g n cap : Nat} {bs : List Nat} (h : Own w B (.slice (some ⟨g, 0, none⟩) n cap) bs) (i b : Nat) (hi : i < bs.length) : Own (w.setCell ⟨g, i, none⟩ (.pointer (some ⟨b, 0, none⟩))) B (.slice (some ⟨g, 0, none⟩) n cap) (bs.set i b) := by
  obtain ⟨g', cap', cur, hv, hcap, hcm, hg, hcs, htk, hBg⟩ := h.at (by omega)
  simp at hv
  obtain ⟨h1, h2, h3⟩ := hv
  subst h1 h3 h2
  refine ⟨by rw [pvs_length, Nat.mul_one], .inr ⟨g, cap, (cur.toList.set i (.pointer (some ⟨b, 0, none⟩))).toArray, by simp, hBg, ?_, by simpa using hcap, hcm, by simp [hcs], ?_⟩⟩
  · simp [World.setCell, Array.getElem?_modify, hg]
    apply Array.ext'
    simp
  · rw [List.length_set, Nat.mul_one, List.take_set, htk]
    simp [pvs, pv]
theorem Own.froz {w : World} {B g n cap : Nat} {bs : List Nat} (h : Own w B (.slice (some ⟨g, 0, none⟩) n cap) bs) (o : Nat) : w.frozen? ⟨g, o, none⟩ = false := by
  obtain ⟨_, c, hc⟩ := h.blk g rfl
  exact frozen_of_heap hc
/-- What stands while a row is sorted: the same tasks, in some order. -/
def SortI (w wr : World) (B g n cap : Nat) (T : List Tk) : Prop := ∃ T' : List Tk, T'.Perm T ∧ Own wr B (.slice (some ⟨g, 0, none⟩) n cap) (T'.map Tk.b) ∧ Fr [g] w wr
theorem SortI.refl {w : World} {B g n cap : Nat} {T : List Tk} (h : Own w B (.slice (some ⟨g, 0, none⟩) n cap) (T.map Tk.b)) : SortI w w B g n cap T := ⟨T, List.Perm.refl _, h, Fr.refl _ _⟩
theorem SortI.drewN {w wr : World} {B g n cap : Nat} {T : List Tk} (h : SortI w wr B g n cap T) (m : Nat) : SortI w (wr.drewN m) B g n cap T := by
  obtain ⟨T', h1, h2, h3⟩ := h
  exact ⟨T', h1, h2.fr ((Fr.refl [] wr).drewN m) (by simp), h3.drewN m⟩
/-- One comparison: the cells, and what comes where the two change places. -/
theorem SortI.at {w wr : World} {B g n cap : Nat} {T : List Tk} (h : SortI w wr B g n cap T) (hT : ∀ t ∈ T, TkAt w t) (hg : ∀ t ∈ T, t.b ≠ g) (k : Nat) (hk : k + 1 < T.length) : ∃ x y ux uy : Nat, wr.cell? ⟨g, k, none⟩ = some (.pointer (some ⟨y, 0, none⟩)) ∧ wr.cell? ⟨g, k + 1, none⟩ = some (.pointer (some ⟨x, 0, none⟩)) ∧ wr.cell? ⟨x, 5, none⟩ = some (.int .u64 (ux : Nat)) ∧ wr.cell? ⟨y, 5, none⟩ = some (.int .u64 (uy : Nat)) ∧ (∀ o, wr.frozen? ⟨g, o, none⟩ = false) ∧
    SortI w ((wr.setCell ⟨g, k + 1, none⟩ (.pointer (some ⟨y, 0, none⟩))).setCell ⟨g, k, none⟩ (.pointer (some ⟨x, 0, none⟩))) B g n cap T := by
  obtain ⟨T', h1, h2, h3⟩ := h
  have hl := h1.length_eq
  have hx := hT T'[k + 1] (h1.subset (List.getElem_mem (by omega)))
  have hy := hT T'[k] (h1.subset (List.getElem_mem (by omega)))
  have gx := hg T'[k + 1] (h1.subset (List.getElem_mem (by omega)))
  have gy := hg T'[k] (h1.subset (List.getElem_mem (by omega)))
  have c1 := h2.cell k (by rw [List.length_map]; omega)
  have c2 := h2.cell (k + 1) (by rw [List.length_map]; omega)
  rw [List.getElem_map] at c1 c2
  have s1 := (h2.set (k + 1) T'[k].b (by rw [List.length_map]; omega)).set k T'[k + 1].b (by rw [List.length_set, List.length_map]; omega)
  refine ⟨T'[k + 1].b, T'[k].b, T'[k + 1].un, T'[k].un, c1, c2, (hx.fr h3 (by simpa using gx)).cells.2.2.2.2.2.1, (hy.fr h3 (by simpa using gy)).cells.2.2.2.2.2.1, h2.froz, (T'.set (k + 1) T'[k]).set k T'[k + 1], (List.set_set_perm (by omega) (by omega)).trans h1, ?_, (h3.setCell (by simp) _).setCell (by simp) _⟩
  have e : ((T'.set (k + 1) T'[k]).set k T'[k + 1]).map Tk.b = ((T'.map Tk.b).set (k + 1) T'[k].b).set k T'[k + 1].b := by simp [List.map_set]
  rw [e]; exact s1
theorem ins_any (w : World) (B g n cap a b : Nat) (T : List Tk) (hn : T.length = n) (hO : Own w B (.slice (some ⟨g, 0, none⟩) n cap) (T.map Tk.b)) (hT : ∀ t ∈ T, TkAt w t) (hg : ∀ t ∈ T, t.b ≠ g) (hb : b ≤ n) (hl : n ≤ 1000) (ha : a ≤ 1000) :
    Calls Try.prog 52 #[.slice (some ⟨g, 0, none⟩) n cap, .int .i64 (a : Nat), .int .i64 (b : Nat), .func (.func 42) #[] #[]] w fun e w' => e = .returned (.tuple #[]) ∧ SortI w w' B g n cap T := by
  have HA := hid (p := _) (fun (wr : World) (h : SortI w wr B g n cap T) (k : Nat) (hk : k + 1 < n) => h.at hT hg k (by omega))
  have H0 := hid (p := _) (SortI.refl hO)
  clear hO hT hg hn
  go_enter Try.func52, Try.ntmps52
  go_wp2_with fail
  go_loopg [8] (b - (a + 1)) (fun gk q wr => ∃ i : Nat, a + 1 ≤ i ∧ i ≤ a + b + 1 ∧ gk = b - i ∧ q = .int .i64 i ∧ Hid (SortI w wr B g n cap T))
  case atStart => exact ⟨a + 1, by omega, by omega, rfl, by go_num, H0⟩
  case round =>
    obtain ⟨i, hi1, hi2, hgk, rfl, K⟩ := hrel
    by_cases hlt : i < b
    · have hlt' : (i : Int) < (b : Int) := by omega
      go_wp2_with fail
      go_loopg [9] (i - a) (fun gk2 q wr2 => ∃ j : Nat, a ≤ j ∧ j ≤ i ∧ gk2 = j - a ∧ q = .int .i64 j ∧ Hid (SortI w wr2 B g n cap T))
      case atStart => exact ⟨i, by omega, by omega, rfl, rfl, K⟩
      case round =>
        obtain ⟨j, hj1, hj2, hgk2, rfl, K2⟩ := hrel
        by_cases hja : a < j
        · obtain ⟨k, rfl⟩ : ∃ k, j = k + 1 := ⟨j - 1, by omega⟩
          obtain ⟨x, y, ux, uy, c1, c2, c3, c4, fz, HS⟩ := HA.out _ K2.out k (by omega)
          have HSs := hid (p := _) HS
          clear HS
          have g1 : (a : Int) < (k : Int) + 1 := by omega
          have g2 : (k : Int) + 1 < (n : Int) := by omega
          have g3 : (k : Int) < (n : Int) := by omega
          have g4 : IntKind.i64.wrap (k : Int) = (k : Int) := by rw [IntKind.wrap_i64]; omega
          have g5 : IntKind.i64.wrap ((k : Int) + 1 - 1) = (k : Int) := by rw [IntKind.wrap_i64]; omega
          have g6 : (0 : Int) ≤ (k : Int) := by omega
          have g7 : (k : Int).toNat = k := by omega
          have g8 : ((k : Int) + 1).toNat = k + 1 := by omega
          have g9 : (0 : Int) ≤ (k : Int) + 1 := by omega
          have d1 : decide ((a : Int) < (k : Int) + 1) = true := by simp; omega
          have H42 := hid (p := _) (fun m => earlier_any x y ux uy (wr.drewN m) (by simpa using c3) (by simpa using c4))
          obtain ⟨r, hr, hr2⟩ : ∃ r, r = cmpv ux uy ∧ -1 ≤ r ∧ r ≤ 1 := ⟨_, rfl, by unfold cmpv; split <;> (try split) <;> omega⟩
          rw [← hr] at H42
          clear hr
          by_cases hneg : r < 0
          · have d2 : decide (r < 0) = true := by simpa using hneg
            go_wp2_with fail
            go_quiet (exact Calls.quiet_of (H42.out _))
            go_wp2_with fail
            go_region_with (fail)
            all_goals
              go_wp2_with fail
              go_roundg (k - a)
              case measure => omega
              case rel =>
                exact ⟨k, by omega, by omega, rfl, by go_num, hid (HSs.out.drewN _)⟩
          · have d2 : decide (r < 0) = false := by simpa using hneg
            go_wp2_with fail
            go_quiet (exact Calls.quiet_of (H42.out _))
            go_wp2_with fail
            go_roundg (b - (i + 1))
            case measure => omega
            case rel => exact ⟨i + 1, by omega, by omega, rfl, by go_num, hid (K2.out.drewN _)⟩
        · have d1 : decide ((a : Int) < (j : Int)) = false := by simp; omega
          go_wp2_with fail
          go_quiet (fail)
          go_wp2_with fail
          go_roundg (b - (i + 1))
          case measure => omega
          case rel => exact ⟨i + 1, by omega, by omega, rfl, by go_num, hid (K2.out.drewN _)⟩
    · have hlt' : ¬ (i : Int) < (b : Int) := by omega
      go_wp2_with fail
      go_end0
      exact ⟨rfl, K.out⟩
end Go.Proofs.Ytenphgpmdigdcaa
