/-
  The walk of slices.Replace at spans where spans stand behind those that are replaced, and the whole contract of Replace.
-/
import Derived.Test.YtfiaciniikcacaaReplace
namespace Go.Proofs.Ytfiaciniikcacaa
open Go.RowKit Go.BigFrame
set_option linter.unusedVariables false
set_option linter.unusedSimpArgs false
set_option maxRecDepth 100000
set_option maxHeartbeats 1000000

/-- There is no room: the row lies in a new block behind it. -/
theorem replace_grow (g n cap gv m vcap : Nat) (l k : List (Nat × Nat)) (i j : Nat) (w : World) (hl : Row w (.slice (some ⟨g, 0, none⟩) n cap) l) (hk : Row w (.slice (some ⟨gv, 0, none⟩) m vcap) k)
    (hlen : l.length ≤ 1048576) (hkl : k.length ≤ 1048576) (hij : i < j) (hj : j < l.length) (hroom : cap < i + k.length + (l.length - j)) :
    Calls Try.prog 73 #[.slice (some ⟨g, 0, none⟩) n cap, .int .i64 i, .int .i64 j, .slice (some ⟨gv, 0, none⟩) m vcap] w fun e w' => ∃ lv', e = .returned lv' ∧ Row w' lv' (l.take i ++ k ++ l.drop j) ∧ (∀ g', lv'.ownBlock = some g' → lo w (.slice (some ⟨g, 0, none⟩) n cap) ≤ g') ∧ Fr [] w w' := by
  obtain ⟨cur, hg, hcl, htk, hnc, hcm, rfl⟩ := hl.blk
  obtain ⟨cv, hgv, hvl, hvk, hvc, hvm, rfl⟩ := hk.blk
  have hin : ((i : Int) == (j : Int)) = false := by simp; omega
  have hjn : ((j : Int) == (l.length : Int)) = false := by simp; omega
  have x0 : (i : Int) < (j : Int) := by omega
  have x1 : (j : Int) < (l.length : Int) := by omega
  have x3 : (l.length : Int) ≤ 1048576 := by omega
  have x4 : (k.length : Int) ≤ 1048576 := by omega
  have x5 : (l.length : Int) ≤ (cap : Int) := by omega
  have x6 : ((l.length - j : Nat) : Int) = (l.length : Int) - (j : Int) := by omega
  have X6 := hid x6
  have x7 : (cap : Int) < (i : Int) + (k.length : Int) + ((l.length - j : Nat) : Int) := by omega
  have x8 : ((l.length - j : Nat) : Int) ≤ 1048576 := by omega
  clear x6
  have HG := hid hg
  have HV := hid hgv
  have HA := hid (take_flat htk i (by omega))
  have HD := hid (flat_drop_get l cur j htk)
  have HVK := hid (flat_drop_get k cv 0 hvk)
  have L1 := hid (show (flat (l.drop j)).length = Nat.min (l.length - j) (l.length - j) * 2 from by
    rw [flat_length, List.length_drop]; show _ = min _ _ * 2; omega)
  have L2 := hid (show (flat k).length = Nat.min k.length (i + k.length + (l.length - j) - i) * 2 from by rw [flat_length]; show _ = min _ _ * 2; omega)
  have L4 := hid (show (l.take i ++ k ++ l.drop j).length = i + k.length + (l.length - j) from by simp; omega)
  clear hg hgv hl hk htk hvk
  go_enter Try.func73, Try.ntmps73
  go_wp2_with fail
  go_quiet (fail)
  go_wp2_with (refine wpList_append_make rfl (.tmp 63) (.tmp 66) rfl g i cap (k.length + (l.length - j)) (i + k.length + (l.length - j)) _ ?_ ?_ rfl rfl cur HG.out ?_ ?_ ?_ ?_ ?_)
  · omega
  · omega
  · omega
  · omega
  · omega
  · omega
  intro w1 g1 c1 cur1 hb1 hl1 hc1 hcm1 ht1 hfr1' hF1'
  have hF1 : Fr [] w w1 := ⟨hF1'.os, hF1'.tape, hF1'.output, hF1'.size, hF1'.block⟩
  have hfr1 : Hid (w.heap.size ≤ g1) := hfr1'.out
  clear hF1' hfr1'
  have y1 : (i : Int) + (k.length : Int) + ((l.length - j : Nat) : Int) ≤ (c1 : Int) := by omega
  have y2 : (1 : Int) ≤ ((l.length - j : Nat) : Int) := by omega
  have hne : gv ≠ g1 := fun e => by have := lt_of_heap (show w.heap[gv]? = _ from HV.out); have := hfr1.out; omega
  have hv1 : Hid (Blk w1 gv cv) := hF1.heap (show w.heap[gv]? = _ from HV.out) (by simp)
  have fit2 : Hid (i * 2 + (flat k).length ≤ cur1.length) := by show _ ≤ _; rw [flat_length, hl1.out]; omega
  go_wp2_with (refine wpList_copy2 rfl (.tmp 70) (.tmp 71) rfl (some ⟨g1, i * 2, none⟩) (some ⟨gv, 0, none⟩) (i + k.length + (l.length - j) - i) (c1 - i) k.length vcap rfl rfl g1 (i * 2) cur1 (flat k) hb1.out L2.out (fun _ => ⟨rfl, _, rfl, Blk.cells (w := w1) hv1.out 0 _ (by simpa using HVK.out)⟩) fit2.out (flat_one _) ?_; intro w2 hb2 hF2)
  have hg2 : Hid (Blk w2 g cur) := (hF1.trans hF2 (fun t ht => by simp at ht; subst ht; exact .inr hfr1.out)).heap (show w.heap[g]? = _ from HG.out) (by simp)
  have fit1 : Hid ((i + k.length) * 2 + (flat (l.drop j)).length ≤ (splice cur1 (i * 2) (flat k)).length) := by
    show _ ≤ _; rw [length_splice _ _ _ fit2.out, flat_length, List.length_drop, hl1.out]; omega
  have wr : IntKind.i64.wrap ((i : Int) + (k.length : Int)) = (i : Int) + (k.length : Int) := by rw [IntKind.wrap_i64]; omega
  have c1' : 0 ≤ (i : Int) + (k.length : Int) := by omega
  have c2 : (i : Int) + (k.length : Int) ≤ (i : Int) + (k.length : Int) + ((l.length - j : Nat) : Int) := by omega
  have c3 : ((i : Int) + (k.length : Int)).toNat = i + k.length := by omega
  have c4 : ¬ c1 = i + k.length := by omega
  have c5 : (j : Int) ≤ (l.length : Int) := by omega
  have c6 : ¬ cap = j := by omega
  go_region_law ((refine step_copy2 rfl (.tmp 78) (.tmp 81) rfl (some ⟨g1, (i + k.length) * 2, none⟩) (some ⟨g, j * 2, none⟩) (l.length - j) (c1 - (i + k.length)) (l.length - j) (cap - j) (by kernel_rfl) (by kernel_rfl) g1 ((i + k.length) * 2) (splice cur1 (i * 2) (flat k)) (flat (l.drop j)) (show Blk w2 g1 _ from hb2.out) (show _ = _ from L1.out) (fun _ => ⟨rfl, _, rfl, show ∀ j v, _ → w2.cell? _ = some v from Blk.cells (w := w2) hg2.out (j * 2) _ HD.out⟩) (show _ from fit1.out) (flat_one _) ?_; intro w3 hb3 hF3))
  go_wp2
  go_ret
  have hs := (shift_eq cur1 l k i j (ht1.out.trans HA.out) (by rw [hl1.out]; omega)).2
  refine ⟨_, rfl, ?_, fun g' hg' => by simp [Value.ownBlock] at hg'; subst hg'; have := lt_of_heap (show w.heap[g]? = _ from HG.out); have := hfr1.out; show g ≤ g1; omega, (hF1.trans hF2 (fun t ht => by simp at ht; subst ht; exact .inr hfr1.out)).trans hF3.ofDrew (fun t ht => by simp at ht; subst ht; exact .inr hfr1.out)⟩
  have := Row.of (l := l.take i ++ k ++ l.drop j) (cap := c1) hb3.out (by rw [length_splice _ _ _ fit1.out, length_splice _ _ _ fit2.out, hl1.out]) (by rw [L4.out]; omega) hcm1 hs
  rwa [L4.out] at this

/-- There is room, and the list is longer than what it replaces. -/
theorem replace_more (g n cap gv m vcap : Nat) (l k : List (Nat × Nat)) (i j : Nat) (w : World) (hl : Row w (.slice (some ⟨g, 0, none⟩) n cap) l) (hk : Row w (.slice (some ⟨gv, 0, none⟩) m vcap) k) (hne : gv ≠ g)
    (hlen : l.length ≤ 1048576) (hkl : k.length ≤ 1048576) (hij : i < j) (hj : j < l.length) (hroom : i + k.length + (l.length - j) ≤ cap) (hmore : j < i + k.length) :
    Calls Try.prog 73 #[.slice (some ⟨g, 0, none⟩) n cap, .int .i64 i, .int .i64 j, .slice (some ⟨gv, 0, none⟩) m vcap] w fun e w' => ∃ lv', e = .returned lv' ∧ Row w' lv' (l.take i ++ k ++ l.drop j) ∧ (∀ g', lv'.ownBlock = some g' → lo w (.slice (some ⟨g, 0, none⟩) n cap) ≤ g') ∧ Fr [g] w w' := by
  obtain ⟨cur, hg, hcl, htk, hnc, hcm, rfl⟩ := hl.blk
  obtain ⟨cv, hgv, hvl, hvk, hvc, hvm, rfl⟩ := hk.blk
  have hin : ((i : Int) == (j : Int)) = false := by simp; omega
  have hjn : ((j : Int) == (l.length : Int)) = false := by simp; omega
  have x0 : (i : Int) < (j : Int) := by omega
  have x1 : (j : Int) < (l.length : Int) := by omega
  have x3 : (l.length : Int) ≤ 1048576 := by omega
  have x4 : (k.length : Int) ≤ 1048576 := by omega
  have x5 : (l.length : Int) ≤ (cap : Int) := by omega
  have x7 : (i : Int) + (k.length : Int) + ((l.length - j : Nat) : Int) ≤ (cap : Int) := by omega
  have x8 : ((l.length - j : Nat) : Int) ≤ 1048576 := by omega
  have x9 : (1 : Int) ≤ ((l.length - j : Nat) : Int) := by omega
  have xA : ¬ ((i : Int) + (k.length : Int) ≤ (j : Int)) := by omega
  have HG := hid hg
  have HV := hid hgv
  have HA := hid (take_flat htk i (by omega))
  have HD := hid (flat_drop_get l cur j htk)
  have HVK := hid (flat_drop_get k cv 0 hvk)
  have L1 := hid (show (flat (l.drop j)).length = Nat.min (l.length - j) (l.length - j) * 2 from by
    rw [flat_length, List.length_drop]; show _ = min _ _ * 2; omega)
  have L2 := hid (show (flat k).length = Nat.min k.length (i + k.length + (l.length - j) - i) * 2 from by rw [flat_length]; show _ = min _ _ * 2; omega)
  have L4 := hid (show (l.take i ++ k ++ l.drop j).length = i + k.length + (l.length - j) from by simp; omega)
  have F1 := hid (show (i + k.length) * 2 + (flat (l.drop j)).length ≤ cur.length from by rw [flat_length, List.length_drop]; omega)
  have F2 := hid (show i * 2 + (flat k).length ≤ (splice cur ((i + k.length) * 2) (flat (l.drop j))).length from by rw [length_splice _ _ _ F1.out, flat_length]; omega)
  have hov := fun nq => ov_apart (w.drewN nq) g gv cur cv (show Blk w g cur from hg) (show Blk w gv cv from hgv) (Ne.symm hne) (by omega)
  clear hg hgv hl hk htk hvk
  go_enter Try.func73, Try.ntmps73
  go_wp2_with fail
  go_quiet (fail)
  go_wp2_with fail
  clear hov
  have wr : IntKind.i64.wrap ((i : Int) + (k.length : Int)) = (i : Int) + (k.length : Int) := by rw [IntKind.wrap_i64]; omega
  have c1' : 0 ≤ (i : Int) + (k.length : Int) := by omega
  have c2 : (i : Int) + (k.length : Int) ≤ (i : Int) + (k.length : Int) + ((l.length - j : Nat) : Int) := by omega
  have c3 : ((i : Int) + (k.length : Int)).toNat = i + k.length := by omega
  have c4 : ¬ cap = i + k.length := by omega
  have c5 : (j : Int) ≤ (l.length : Int) := by omega
  have c6 : ¬ cap = j := by omega
  go_region_law ((refine step_copy2 rfl (.tmp 126) (.tmp 129) rfl (some ⟨g, (i + k.length) * 2, none⟩) (some ⟨g, j * 2, none⟩) (l.length - j) (cap - (i + k.length)) (l.length - j) (cap - j) (by kernel_rfl) (by kernel_rfl) g ((i + k.length) * 2) cur (flat (l.drop j)) (show Blk w g _ from HG.out) (show _ = _ from L1.out) (fun _ => ⟨rfl, _, rfl, show ∀ j v, _ → w.cell? _ = some v from Blk.cells (w := w) HG.out (j * 2) _ HD.out⟩) (show _ from F1.out) (flat_one _) ?_; intro w1 hb1 hF1'))
  have hF1 : Fr [g] w w1 := ⟨hF1'.os, hF1'.tape, hF1'.output, hF1'.size, hF1'.block⟩
  clear hF1'
  have hv1 : Hid (Blk w1 gv cv) := hF1.heap (show w.heap[gv]? = _ from HV.out) (by simpa using hne)
  go_wp2_with (refine wpList_copy2 rfl (.tmp 133) (.tmp 134) rfl (some ⟨g, i * 2, none⟩) (some ⟨gv, 0, none⟩) (i + k.length + (l.length - j) - i) (cap - i) k.length vcap rfl rfl g (i * 2) _ (flat k) hb1.out L2.out (fun _ => ⟨rfl, _, rfl, Blk.cells (w := w1) hv1.out 0 _ (by simpa using HVK.out)⟩) F2.out (flat_one _) ?_; intro w2 hb2 hF2)
  go_ret
  have hs := (shift_eq cur l k i j HA.out (by omega)).1
  refine ⟨_, rfl, ?_, fun g' hg' => lo_own hg', hF1.trans hF2 (fun t ht => .inl ht)⟩
  have := Row.of (l := l.take i ++ k ++ l.drop j) (cap := cap) hb2.out (by rw [length_splice _ _ _ F2.out, length_splice _ _ _ F1.out, hcl]) (by rw [L4.out]; omega) hcm hs
  rwa [L4.out] at this

theorem splice_behind (L cs : List Value) (off p : Nat) (h : off + cs.length ≤ L.length) (hp : off + cs.length ≤ p) : (splice L off cs)[p]? = L[p]? := by
  simp only [splice]
  rw [List.getElem?_append_right (by simp; omega), List.getElem?_append_right (by simp; omega), List.getElem?_drop]
  congr 1; simp; omega

/-- There is room, and the list is not longer than what it replaces. -/
theorem replace_less (g n cap : Nat) (vv : Value) (l k : List (Nat × Nat)) (i j : Nat) (w : World) (hl : Row w (.slice (some ⟨g, 0, none⟩) n cap) l) (hk : Row w vv k) (hne : vv.ownBlock ≠ some g)
    (hlen : l.length ≤ 1048576) (hkl : k.length ≤ 1048576) (hij : i < j) (hj : j < l.length) (hless : i + k.length ≤ j) :
    Calls Try.prog 73 #[.slice (some ⟨g, 0, none⟩) n cap, .int .i64 i, .int .i64 j, vv] w fun e w' => ∃ lv', e = .returned lv' ∧ Row w' lv' (l.take i ++ k ++ l.drop j) ∧ (∀ g', lv'.ownBlock = some g' → lo w (.slice (some ⟨g, 0, none⟩) n cap) ≤ g') ∧ Fr [g] w w' := by
  obtain ⟨cur, hg, hcl, htk, hnc, hcm, rfl⟩ := hl.blk
  obtain ⟨pv, vcap, rfl⟩ := hk.form
  have hin : ((i : Int) == (j : Int)) = false := by simp; omega
  have hjn : ((j : Int) == (l.length : Int)) = false := by simp; omega
  have x0 : (i : Int) < (j : Int) := by omega
  have x1 : (j : Int) < (l.length : Int) := by omega
  have x3 : (l.length : Int) ≤ 1048576 := by omega
  have x4 : (k.length : Int) ≤ 1048576 := by omega
  have x5 : (l.length : Int) ≤ (cap : Int) := by omega
  have x7 : (i : Int) + (k.length : Int) + ((l.length - j : Nat) : Int) ≤ (cap : Int) := by omega
  have x8 : ((l.length - j : Nat) : Int) ≤ 1048576 := by omega
  have x9 : (1 : Int) ≤ ((l.length - j : Nat) : Int) := by omega
  have xA : (i : Int) + (k.length : Int) ≤ (j : Int) := by omega
  have HG := hid hg
  have HK := hid hk
  have HA := hid (take_flat htk i (by omega))
  have HD0 := flat_drop_get l cur j htk
  have L1 := hid (show (flat (l.drop j)).length = Nat.min (l.length - j) (l.length - j) * 2 from by
    rw [flat_length, List.length_drop]; show _ = min _ _ * 2; omega)
  have L2 := hid (show (flat k).length = Nat.min k.length (i + k.length + (l.length - j) - i) * 2 from by rw [flat_length]; show _ = min _ _ * 2; omega)
  have L4 := hid (show (l.take i ++ k ++ l.drop j).length = i + k.length + (l.length - j) from by simp; omega)
  have F2 := hid (show i * 2 + (flat k).length ≤ cur.length from by rw [flat_length]; omega)
  have F1 := hid (show (i + k.length) * 2 + (flat (l.drop j)).length ≤ (splice cur (i * 2) (flat k)).length from by rw [length_splice _ _ _ F2.out, flat_length, List.length_drop]; omega)
  have HD := hid (show ∀ jj v, (flat (l.drop j))[jj]? = some v → (splice cur (i * 2) (flat k))[j * 2 + jj]? = some v from fun jj v h => by
    rw [splice_behind _ _ _ _ F2.out (by rw [flat_length]; omega)]; exact HD0 jj v h)
  clear hg hl hk htk HD0
  go_enter Try.func73, Try.ntmps73
  go_wp2_with fail
  go_quiet (fail)
  go_wp2_with (refine wpList_copy2 rfl (.tmp 95) (.tmp 96) rfl (some ⟨g, i * 2, none⟩) pv (i + k.length + (l.length - j) - i) (cap - i) k.length vcap rfl rfl g (i * 2) cur (flat k) HG.out L2.out (fun hp => ⟨rfl, Row.src (w := w) HK.out hp⟩) F2.out (flat_one _) ?_; intro w1 hb1 hF1')
  have hF1 : Fr [g] w w1 := ⟨hF1'.os, hF1'.tape, hF1'.output, hF1'.size, hF1'.block⟩
  clear hF1'
  have wr : IntKind.i64.wrap ((i : Int) + (k.length : Int)) = (i : Int) + (k.length : Int) := by rw [IntKind.wrap_i64]; omega
  have c1' : 0 ≤ (i : Int) + (k.length : Int) := by omega
  have c2 : (i : Int) + (k.length : Int) ≤ (i : Int) + (k.length : Int) + ((l.length - j : Nat) : Int) := by omega
  have c3 : ((i : Int) + (k.length : Int)).toNat = i + k.length := by omega
  have c4 : ¬ cap = i + k.length := by omega
  have c5 : (j : Int) ≤ (l.length : Int) := by omega
  have c6 : ¬ cap = j := by omega
  go_region_law ((refine step_copy2 rfl (.tmp 103) (.tmp 106) rfl (some ⟨g, (i + k.length) * 2, none⟩) (some ⟨g, j * 2, none⟩) (l.length - j) (cap - (i + k.length)) (l.length - j) (cap - j) (by kernel_rfl) (by kernel_rfl) g ((i + k.length) * 2) (splice cur (i * 2) (flat k)) (flat (l.drop j)) (show Blk w1 g _ from hb1.out) (show _ = _ from L1.out) (fun _ => ⟨rfl, _, rfl, show ∀ j v, _ → w1.cell? _ = some v from Blk.cells (w := w1) hb1.out (j * 2) _ HD.out⟩) (show _ from F1.out) (flat_one _) ?_; intro w2 hb2 hF2))
  go_wp2_with (refine wpList_clear2 rfl (.tmp 110) rfl _ _ _ rfl g ((i + k.length + (l.length - j)) * 2) ?_ _ hb2.out ?_ ?_)
  all_goals first
    | (intro w3 cur3 hb3 hl3 ht3 hF3
       go_wp2
       go_ret
       have hs := (shift_eq cur l k i j HA.out (by omega)).2
       refine ⟨_, rfl, ?_, fun g' hg' => lo_own hg', (hF1.trans hF2.ofDrew (fun t ht => .inl ht)).trans hF3 (fun t ht => .inl ht)⟩
       have R := Row.of (l := l.take i ++ k ++ l.drop j) (cap := cap) hb3.out (by rw [hl3.out, length_splice _ _ _ F1.out, length_splice _ _ _ F2.out, hcl]) (by rw [L4.out]; omega) hcm (by rw [L4.out] at hs ⊢; exact ht3.out.trans hs)
       rw [L4.out] at R
       first
         | exact R
         | (rw [show cap = i + k.length + (l.length - j) from by assumption] at R; exact R))
    | (rw [length_splice _ _ _ F1.out, length_splice _ _ _ F2.out, hcl]; omega)
    | omega
    | (intro hh; omega)
    | rfl

theorem replace_any (lv vv : Value) (l k : List (Nat × Nat)) (i j : Nat) (w : World) (hl : Row w lv l) (hk : Row w vv k) (hne : ∀ g, vv.ownBlock = some g → lv.ownBlock ≠ some g)
    (hlen : l.length ≤ 1048576) (hkl : k.length ≤ 1048576) (hij : i ≤ j) (hj : j ≤ l.length) (h1 : i = j → 1 ≤ k.length) :
    Calls Try.prog 73 #[lv, .int .i64 i, .int .i64 j, vv] w fun e w' => ∃ lv', e = .returned lv' ∧ Row w' lv' (l.take i ++ k ++ l.drop j) ∧ (∀ g, lv'.ownBlock = some g → lo w lv ≤ g) ∧ Fr lv.ownBlock.toList w w' := by
  rcases Nat.eq_or_lt_of_le hij with e | hlt
  · subst e
    obtain ⟨gv, vcap, rfl, _⟩ := hk.slice (h1 rfl)
    exact replace_eq lv _ l k i w hl hk (fun e => hne gv rfl (by rw [← e]; rfl)) (h1 rfl) hlen hkl hj
  · obtain ⟨g, cap, rfl, hcap⟩ := hl.slice (by omega)
    rcases Nat.eq_or_lt_of_le hj with e | hlt2
    · subst e
      exact (replace_end g _ cap vv l k i w hl hk hlen hkl hlt).mono fun e w' ⟨lv', a1, a2, aL, a3⟩ => ⟨lv', a1, by rw [List.drop_length, List.append_nil]; exact a2, aL, a3⟩
    · rcases Nat.lt_or_ge j (i + k.length) with h | h
      · obtain ⟨gv, vcap, rfl, _⟩ := hk.slice (by omega)
        rcases Nat.lt_or_ge cap (i + k.length + (l.length - j)) with h2 | h2
        · exact (replace_grow g _ cap gv _ vcap l k i j w hl hk hlen hkl hlt hlt2 h2).mono fun e w' ⟨lv', a1, a2, aL, a3⟩ => ⟨lv', a1, a2, aL, a3.mono (fun t ht => by cases ht)⟩
        · exact replace_more g _ cap gv _ vcap l k i j w hl hk (fun e => hne gv rfl (by rw [e]; rfl)) hlen hkl hlt hlt2 h2 h
      · exact replace_less g _ cap vv l k i j w hl hk (fun e => hne g e rfl) hlen hkl hlt hlt2 h
end Go.Proofs.Ytfiaciniikcacaa
