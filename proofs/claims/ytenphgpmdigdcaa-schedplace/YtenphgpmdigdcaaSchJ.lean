/-
  The walk of Pick of package sched, where somebody is picked. No statement is proved here.
-/
import Derived.Test.YtenphgpmdigdcaaSchI
namespace Go.Proofs.Ytenphgpmdigdcaa
open Go.RowKit Go.BigFrame Go.MapKept
set_option linter.unusedVariables false
set_option linter.unusedSimpArgs false
set_option maxRecDepth 1000000
set_option maxHeartbeats 4000000

section
variable {w w' : World} {B sb mb : Nat} {vr vw : Value} {p now : Nat} {R W : List Tk} {X : Option Tk} {F : List Tk} {ts : List (Nat × Nat)}
def bumped (R : List Tk) (i : Nat) : List Tk := (R.take i).map Tk.bump ++ R.drop i
theorem bumped_at (R : List Tk) (i : Nat) (h : i < R.length) : bumped R i = (R.take i).map Tk.bump ++ R[i] :: R.drop (i + 1) ∧ bumped R (i + 1) = (R.take i).map Tk.bump ++ R[i].bump :: R.drop (i + 1) := by
  unfold bumped
  refine ⟨by rw [List.drop_eq_getElem_cons h], ?_⟩
  rw [List.take_succ_eq_append_getElem h, List.map_append, List.append_assoc]
  rfl
theorem bumped_b (R : List Tk) (i : Nat) : (bumped R i).map Tk.b = R.map Tk.b := by
  have : (bumped R i).map Tk.b = (R.take i).map Tk.b ++ (R.drop i).map Tk.b := by simp [bumped, Tk.bump, Function.comp_def]
  rw [this, ← List.map_append, List.take_append_drop]
theorem pick_ok (h : SS w B sb p now R W none) (n : Nat) (hn : n < 18446744073709551616) (hR : R ≠ []) (hpa : ∀ t ∈ R, t.pa ≤ 100000) :
    Calls Try.prog 18 #[.pointer (some ⟨sb, 0, none⟩), .int .u64 (n : Nat)] w fun e w' => ∃ (k : Nat) (hk : k < R.length), Turn p R n k ∧ e = .returned (.tuple #[.int .u32 (R[k].id : Nat), .int .i64 0]) ∧ SS w' B sb p now ((R.eraseIdx k).map Tk.bump) W (some { R[k] with st := 2 }) ∧ Kq B w w' := by
  obtain ⟨mb, vr, vw, ts, h⟩ := h
  have hp := h.num.1
  have hl : R.length ≤ 256 := by have := h.num.2.2.2; simp [all] at this; omega
  obtain ⟨m, hm⟩ : ∃ m, R.length = m + 1 := ⟨R.length - 1, by have := List.length_pos_iff.2 hR; omega⟩
  obtain ⟨g, cap, cur, hv, _, _, _, _, _, _⟩ := h.row.at (by rw [List.length_map]; omega)
  rw [List.length_map, hm] at hv
  subst hv
  obtain ⟨c0, _, _, c3, _, c5, fz⟩ := h.cells
  simp only [xv, Option.map_none] at c5
  have H37 := hid (p := _) (turn_any h (by omega) n hn)
  have HC1 := hid (p := _) (fun (W : World) (hF : Fr [] w W) => (show W.cell? ⟨sb, 3, none⟩ = some (.slice (some ⟨g, 0, none⟩) (m + 1) cap) ∧ ∀ k (hk : k < R.length), W.cell? ⟨g, k, none⟩ = some (.pointer (some ⟨R[k].b, 0, none⟩)) from ⟨(h.fr0 hF).cells.2.2.2.1, fun k hk => by
    have := (h.fr0 hF).row.cell k (by simpa using hk)
    rw [List.getElem_map] at this; exact this⟩))
  have HD := hid (p := _) (fun (W1 : World) (hF : Fr [] w W1) (k : Nat) (hk : k < R.length) => (show Calls Try.prog 38 #[.slice (some ⟨g, 0, none⟩) (m + 1) cap, .int .i64 (k : Nat), .int .i64 ((k : Int) + 1)] W1 fun e w' => e = .returned (.slice (some ⟨g, 0, none⟩) m cap) ∧ Hid (SI (w'.setCell ⟨sb, 3, none⟩ (.slice (some ⟨g, 0, none⟩) m cap)) B sb mb (.slice (some ⟨g, 0, none⟩) m cap) vw p now (R.eraseIdx k) W none [R[k]] ts ∧ Kq B w (w'.setCell ⟨sb, 3, none⟩ (.slice (some ⟨g, 0, none⟩) m cap))) ∧ w'.cell? ⟨sb, 3, none⟩ = some (.slice (some ⟨g, 0, none⟩) (m + 1) cap) ∧ w'.frozen? ⟨sb, 3, none⟩ = false from by
    have h1 := h.fr0 hF
    have hO : Own W1 B (.slice (some ⟨g, 0, none⟩) (m + 1) cap) (R.map Tk.b) := h1.row
    refine (delete_one B g m cap k (R.map Tk.b) W1 (by rw [List.length_map]; exact hm) hO (by omega) (by omega)).mono ?_
    rintro e w' ⟨rfl, q1, q2⟩
    obtain ⟨_, cg, hcg⟩ := h1.row.blk g rfl
    have hsg : sb ∉ [g] := by simpa using (blk_ne hcg h1.blk (by decide)).symm
    have := h1.cut (n := m + 1) (cap' := cap) hk q1 q2
    exact ⟨rfl, ⟨this.1, hF.kq0.trans this.2⟩, q2.cell h1.cells.2.2.2.1 hsg, frozen_of_heap (q2.heap h1.blk hsg)⟩))
  have hne0 : (((m : Int) + 1) == 0) = false := beq_eq_false_iff_ne.2 (by omega)
  have HPA := hid (p := _) hpa
  clear h hR hn hpa
  go_enter Try.func18, Try.ntmps18
  go_wp2_with (first
    | (go_at_call 33; refine (none_no sb p _ c0 hp).mono ?_; rintro e w' ⟨rfl, rfl⟩)
    | (go_at_call 37; refine H37.out.mono ?_; rintro e w1 ⟨k, rfl, HT, hF1⟩
       have hk := HT.1
       have hkm : k ≤ m := by omega
       have hki : (k : Int) < (m : Int) + 1 := by omega
       obtain ⟨c31, cg0⟩ := HC1.out w1 hF1
       have cg := cg0 k hk
       have H38 := hid (p := _) (HD.out w1 hF1 k hk)
       have HTt := hid (p := _) HT
       clear HT cg0)
    | (go_at_call 38; refine H38.out.mono ?_; rintro e w2 ⟨rfl, K2, c32, f32⟩))
  have hRl : (R.eraseIdx k).length = m := by rw [List.length_eraseIdx, if_pos hk, hm]; rfl
  have HPE := hid (p := _) (fun t (ht : t ∈ R.eraseIdx k) => HPA.out t (List.mem_of_mem_eraseIdx ht))
  have HL := hid (p := _) (And.intro hk (And.intro hm hRl))
  have HTn := hid (p := _) (List.getElem_mem hk)
  have hmb : m ≤ 1000 := by omega
  generalize hTk : R[k] = tk at *
  have HTk := hid (p := _) hTk
  generalize hRe : R.eraseIdx k = R' at *
  have HRe := hid (p := _) hRe
  clear hTk hRe H38 HD HC1 H37 hki hkm cg c31 c32 f32 hF1 hm c0 c3 c5 fz hne0 hp hRl
  go_loopg [49] m (fun gk q wr => ∃ i : Nat, i ≤ m ∧ gk = m - i ∧ q = .int .i64 i ∧ Hid (SI wr B sb mb (.slice (some ⟨g, 0, none⟩) m cap) vw p now (bumped R' i) W none [tk] ts ∧ Kq B w' wr))
  case atStart => exact ⟨0, Nat.zero_le _, rfl, rfl, hid (by simpa [bumped] using K2.out)⟩
  case round =>
    obtain ⟨i, hi, hgk, rfl, K⟩ := hrel
    by_cases hlt : i < m
    · have hlt' : (i : Int) < (m : Int) := by omega
      have hiR : i < R'.length := by rw [HL.out.2.2]; exact hlt
      have hb := bumped_at R' i hiR
      have KS := K.out.1
      rw [hb.1] at KS
      have r0 : wr.cell? ⟨g, i, none⟩ = some (.pointer (some ⟨R'[i].b, 0, none⟩)) := by
        have := K.out.1.row.cell i (by rw [bumped_b, List.length_map]; exact hiR)
        simp only [bumped_b, List.getElem_map] at this
        exact this
      have hum : R'[i] ∈ all ((R'.take i).map Tk.bump ++ R'[i] :: R'.drop (i + 1)) W none [tk] := mem_all.2 (.inl (List.mem_append_right _ List.mem_cons_self))
      have hT := KS.tk _ hum
      obtain ⟨_, _, _, k3, _, _, kf⟩ := hT.cells
      have hF3 : Fr [R'[i].b] wr (wr.setCell ⟨R'[i].b, 3, none⟩ (.int .i64 ((R'[i].pa : Int) + 1))) := (Fr.refl _ _).setCell (by simp) _
      have KN := hid (p := _) (show SI (wr.setCell ⟨R'[i].b, 3, none⟩ (.int .i64 ((R'[i].pa : Int) + 1))) B sb mb (.slice (some ⟨g, 0, none⟩) m cap) vw p now (bumped R' (i + 1)) W none [tk] ts ∧ Kq B w' (wr.setCell ⟨R'[i].b, 3, none⟩ (.int .i64 ((R'[i].pa : Int) + 1))) from by
        rw [hb.2]
        exact ⟨KS.swap hF3 hT.bump rfl rfl (KS.rng _ hum).2 (show (R'[i].bump).st = 1 from KS.stR R'[i] (List.mem_append_right _ List.mem_cons_self)), K.out.2.trans (hF3.kq (fun t ht => by simp at ht; subst ht; exact KS.sob.2.2.2.2 _ hum))⟩)
      have hpa := HPE.out _ (List.getElem_mem hiR)
      clear hb KS hT hum hF3
      generalize R'[i].b = ub at *
      generalize R'[i].pa = up at *
      have e5 : IntKind.i64.wrap ((up : Int) + 1) = (up : Int) + 1 := by rw [IntKind.wrap_i64]; omega
      have hup : (up : Int) ≤ 100000 := by omega
      go_wp2_with fail
      go_roundg (m - (i + 1))
      case measure => omega
      case rel => exact ⟨i + 1, by omega, rfl, by go_num, KN⟩
    · obtain rfl : i = m := by omega
      have KE := hid (p := _) (show SI wr B sb mb (.slice (some ⟨g, 0, none⟩) i cap) vw p now (R'.map Tk.bump) W none [tk] ts ∧ Kq B w' wr from by
        have := K.out
        rwa [show bumped R' i = R'.map Tk.bump from by unfold bumped; rw [List.take_of_length_le (by rw [HL.out.2.2]; exact Nat.le_refl _), List.drop_of_length_le (by rw [HL.out.2.2]; exact Nat.le_refl _)]; simp] at this)
      have htm : tk ∈ all (R'.map Tk.bump) W none [tk] := by simp [all]
      have hT := KE.out.1.tk tk htm
      obtain ⟨k0, k1, _, _, _, _, kf⟩ := hT.cells
      obtain ⟨_, _, _, _, _, s5, sf⟩ := KE.out.1.cells
      have hne := blk_ne hT KE.out.1.blk (by decide)
      have hne2 := hne.symm
      simp only [xv, Option.map_none] at s5
      have hF3 : Fr [tk.b] wr (wr.setCell ⟨tk.b, 1, none⟩ (.int .u8 2)) := (Fr.refl _ _).setCell (by simp) _
      have h5 := KE.out.1.float hF3 hT.runs rfl rfl (KE.out.1.rng tk htm).2
      have HX := hid (p := _) (show SS ((wr.setCell ⟨tk.b, 1, none⟩ (.int .u8 2)).setCell ⟨sb, 5, none⟩ (.pointer (some ⟨tk.b, 0, none⟩))) B sb p now (R'.map Tk.bump) W (some { tk with st := 2 }) ∧ Kq B w' ((wr.setCell ⟨tk.b, 1, none⟩ (.int .u8 2)).setCell ⟨sb, 5, none⟩ (.pointer (some ⟨tk.b, 0, none⟩))) from
        ⟨⟨_, _, _, _, h5.start rfl⟩, (KE.out.2.trans (hF3.kq (fun t ht => by simp at ht; subst ht; exact KE.out.1.sob.2.2.2.2 _ htm))).trans (h5.kqStop _ _)⟩)
      clear hT htm hF3 h5
      have HB := hid (p := _) (And.intro HTk.out HRe.out)
      generalize hB1 : tk.b = tb at *
      have HB1 := hid (p := _) hB1
      clear hB1
      generalize hI1 : tk.id = ti at *
      have HI1 := hid (p := _) hI1
      clear hI1
      go_wp2_with fail
      go_ret2
      have y1 := HB1.out
      have y2 := HI1.out
      subst y1 y2
      obtain ⟨z1, z2⟩ := HB.out
      subst z1 z2
      exact ⟨k, HL.out.1, HTt.out, rfl, HX.out.1, HX.out.2⟩
end
end Go.Proofs.Ytenphgpmdigdcaa
