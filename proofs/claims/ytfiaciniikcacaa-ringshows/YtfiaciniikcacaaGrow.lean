/-
  The walk of slices.Insert at spans where the row must grow, and the whole contract of Insert: behind it a row holds the list at that place, and nothing else that was there has turned.
-/
import Derived.Test.YtfiaciniikcacaaInsert
namespace Go.Proofs.Ytfiaciniikcacaa
open Go.RowKit Go.BigFrame
set_option linter.unusedVariables false
set_option linter.unusedSimpArgs false
set_option maxRecDepth 100000
set_option maxHeartbeats 1000000

theorem insert_grow (g n cap gv m vcap : Nat) (l k : List (Nat × Nat)) (i : Nat) (w : World) (hl : Row w (.slice (some ⟨g, 0, none⟩) n cap) l) (hk : Row w (.slice (some ⟨gv, 0, none⟩) m vcap) k)
    (hm : 1 ≤ k.length) (hlen : l.length ≤ 1048576) (hkl : k.length ≤ 1048576) (hi : i < l.length) (hroom : cap < l.length + k.length) :
    Calls Try.prog 83 #[.slice (some ⟨g, 0, none⟩) n cap, .int .i64 i, .slice (some ⟨gv, 0, none⟩) m vcap] w fun e w' => ∃ lv', e = .returned lv' ∧ Row w' lv' (l.take i ++ k ++ l.drop i) ∧ (∀ g', lv'.ownBlock = some g' → lo w (.slice (some ⟨g, 0, none⟩) n cap) ≤ g') ∧ Fr [] w w' := by
  obtain ⟨cur, hg, hcl, htk, hnc, hcm, rfl⟩ := hl.blk
  obtain ⟨cv, hgv, hvl, hvk, hvc, hvm, rfl⟩ := hk.blk
  have hk0 : ((k.length : Int) == 0) = false := by simp; intro h; rw [h] at hm; simp at hm
  have hin : ((i : Int) == (l.length : Int)) = false := by simp; omega
  have x1 : (i : Int) < (l.length : Int) := by omega
  have x2 : (cap : Int) < (l.length : Int) + (k.length : Int) := by omega
  have x3 : (l.length : Int) ≤ 1048576 := by omega
  have x4 : (k.length : Int) ≤ 1048576 := by omega
  have x5 : (l.length : Int) ≤ (cap : Int) := by omega
  have HG := hid hg
  have HV := hid hgv
  have HA := hid (take_flat htk i (by omega))
  have HD := hid (flat_drop_get l cur i htk)
  have HVK := hid (flat_drop_get k cv 0 hvk)
  have L1 := hid (show (flat (l.drop i)).length = Nat.min (l.length - i) (l.length + k.length - (i + k.length)) * 2 from by
    rw [flat_length, List.length_drop]; show _ = min _ _ * 2; omega)
  have L2 := hid (show (flat k).length = Nat.min k.length (l.length + k.length - i) * 2 from by rw [flat_length]; show _ = min _ _ * 2; omega)
  have L4 := hid (show (l.take i ++ k ++ l.drop i).length = l.length + k.length from by simp; omega)
  clear hg hgv hl hk htk hvk
  go_enter Try.func83, Try.ntmps83
  go_wp2_with (refine wpList_append_make rfl (.tmp 34) (.tmp 39) rfl g i cap (l.length + k.length - i) (l.length + k.length) _ ?_ ?_ rfl rfl cur HG.out ?_ ?_ ?_ ?_ ?_)
  · omega
  · omega
  · omega
  · omega
  · omega
  · omega
  intro w1 g1 c1 cur1 hb1 hl1 hc1 hcm1 ht1 hfr1 hF1
  have y1 : (l.length : Int) + (k.length : Int) ≤ (c1 : Int) := by omega
  have hne : gv ≠ g1 := fun e => by have := lt_of_heap (show w.heap[gv]? = _ from HV.out); have := hfr1.out; omega
  have hv1 : Hid (Blk w1 gv cv) := hF1.heap (show w.heap[gv]? = _ from HV.out) (by simp)
  have fit2 : Hid (i * 2 + (flat k).length ≤ cur1.length) := by show _ ≤ _; rw [flat_length, hl1.out]; omega
  go_wp2_with (refine wpList_copy2 rfl (.tmp 43) (.tmp 44) rfl (some ⟨g1, i * 2, none⟩) (some ⟨gv, 0, none⟩) (l.length + k.length - i) (c1 - i) k.length vcap rfl rfl g1 (i * 2) cur1 (flat k) hb1.out L2.out (fun _ => ⟨rfl, _, rfl, Blk.cells (w := w1) hv1.out 0 _ (by simpa using HVK.out)⟩) fit2.out (flat_one _) ?_; intro w2 hb2 hF2)
  have hg2 : Hid (Blk w2 g cur) := (hF1.trans hF2 (fun t ht => by simp at ht; subst ht; exact .inr hfr1.out)).heap (show w.heap[g]? = _ from HG.out) (by simp)
  have fit1 : Hid ((i + k.length) * 2 + (flat (l.drop i)).length ≤ (splice cur1 (i * 2) (flat k)).length) := by
    show _ ≤ _; rw [length_splice _ _ _ fit2.out, flat_length, List.length_drop, hl1.out]; omega
  have wr : IntKind.i64.wrap ((i : Int) + (k.length : Int)) = (i : Int) + (k.length : Int) := by rw [IntKind.wrap_i64]; omega
  have c1' : 0 ≤ (i : Int) + (k.length : Int) := by omega
  have c2 : (i : Int) + (k.length : Int) ≤ (l.length : Int) + (k.length : Int) := by omega
  have c3 : ((i : Int) + (k.length : Int)).toNat = i + k.length := by omega
  have c4 : ¬ c1 = i + k.length := by omega
  have c5 : (i : Int) ≤ (l.length : Int) := by omega
  have c6 : ¬ cap = i := by omega
  go_region_law ((refine step_copy2 rfl (.tmp 50) (.tmp 53) rfl (some ⟨g1, (i + k.length) * 2, none⟩) (some ⟨g, i * 2, none⟩) (l.length + k.length - (i + k.length)) (c1 - (i + k.length)) (l.length - i) (cap - i) (by kernel_rfl) (by kernel_rfl) g1 ((i + k.length) * 2) (splice cur1 (i * 2) (flat k)) (flat (l.drop i)) (show Blk w2 g1 _ from hb2.out) (show _ = _ from L1.out) (fun _ => ⟨rfl, _, rfl, show ∀ j v, _ → w2.cell? _ = some v from Blk.cells (w := w2) hg2.out (i * 2) _ HD.out⟩) (show _ from fit1.out) (flat_one _) ?_; intro w3 hb3 hF3))
  go_wp2
  go_ret
  have hs := (shift_eq cur1 l k i i (ht1.out.trans HA.out) (by rw [hl1.out]; omega)).2
  refine ⟨_, rfl, ?_, fun g' hg' => by simp [Value.ownBlock] at hg'; subst hg'; have := lt_of_heap (show w.heap[g]? = _ from HG.out); have := hfr1.out; show g ≤ g1; omega, (hF1.trans hF2 (fun t ht => by simp at ht; subst ht; exact .inr hfr1.out)).trans hF3.ofDrew (fun t ht => by simp at ht; subst ht; exact .inr hfr1.out)⟩
  have := Row.of (l := l.take i ++ k ++ l.drop i) (cap := c1) hb3.out (by rw [length_splice _ _ _ fit1.out, length_splice _ _ _ fit2.out, hl1.out]) (by rw [L4.out]; omega) hcm1 hs
  rwa [L4.out] at this

theorem insert_any (lv vv : Value) (l k : List (Nat × Nat)) (i : Nat) (w : World) (hl : Row w lv l) (hk : Row w vv k) (hne : vv.ownBlock ≠ lv.ownBlock)
    (hm : 1 ≤ k.length) (hlen : l.length ≤ 1048576) (hkl : k.length ≤ 1048576) (hi : i ≤ l.length) :
    Calls Try.prog 83 #[lv, .int .i64 i, vv] w fun e w' => ∃ lv', e = .returned lv' ∧ Row w' lv' (l.take i ++ k ++ l.drop i) ∧ (∀ g, lv'.ownBlock = some g → lo w lv ≤ g) ∧ Fr lv.ownBlock.toList w w' := by
  rcases Nat.eq_or_lt_of_le hi with e | hlt
  · subst e
    simpa using insert_end lv vv l k w hl hk hm hlen hkl
  · obtain ⟨gv, vcap, rfl, _⟩ := hk.slice hm
    obtain ⟨g, cap, rfl, _⟩ := hl.slice (by omega)
    have hne' : gv ≠ g := fun e => hne (by simp [Value.ownBlock, e])
    rcases Nat.lt_or_ge cap (l.length + k.length) with h | h
    · exact (insert_grow g _ cap gv _ vcap l k i w hl hk hm hlen hkl hlt h).mono fun e w' ⟨lv', h1, h2, hL, h3⟩ => ⟨lv', h1, h2, hL, h3.mono (fun t ht => by cases ht)⟩
    · exact insert_room g _ cap gv _ vcap l k i w hl hk hne' hm hlen hkl hlt h
end Go.Proofs.Ytfiaciniikcacaa
