/-
  The walk of slices.Insert at spans, for a row and a list of spans in blocks of their own: behind it the row holds the list at that place.
-/
import Derived.Test.YtfiaciniikcacaaRowlaw
import Derived.Lib.Overlaps
namespace Go.Proofs.Ytfiaciniikcacaa
open Go.RowKit Go.BigFrame
set_option linter.unusedVariables false
set_option linter.unusedSimpArgs false
set_option maxRecDepth 100000
set_option maxHeartbeats 1000000

theorem Row.slice {w : World} {vv : Value} {k : List (Nat × Nat)} (h : Row w vv k) (hk : 1 ≤ k.length) : ∃ g cap, vv = .slice (some ⟨g, 0, none⟩) k.length cap ∧ k.length ≤ cap := by
  rcases h.2 with ⟨_, h0⟩ | ⟨g, cap, cur, rfl, _, _, hnc, _⟩
  · omega
  · exact ⟨g, cap, rfl, hnc⟩

theorem insert_end (lv vv : Value) (l k : List (Nat × Nat)) (w : World) (hl : Row w lv l) (hk : Row w vv k) (hm : 1 ≤ k.length) (hlen : l.length ≤ 1048576) (hkl : k.length ≤ 1048576) :
    Calls Try.prog 83 #[lv, .int .i64 l.length, vv] w fun e w' => ∃ lv', e = .returned lv' ∧ Row w' lv' (l ++ k) ∧ (∀ g, lv'.ownBlock = some g → lo w lv ≤ g) ∧ Fr lv.ownBlock.toList w w' := by
  obtain ⟨gv, vcap, rfl, hvc⟩ := hk.slice hm
  have hk0 : ((k.length : Int) == 0) = false := by simp; intro h; rw [h] at hm; simp at hm
  have HL := hid hl
  have HK := hid hk
  rcases hl.2 with ⟨rfl, h0⟩ | ⟨g, cap, cur, rfl, _, hg, hnc, hcm, hcs, htake⟩
  · obtain rfl : l = [] := List.eq_nil_of_length_eq_zero h0
    clear hl hk
    go_enter Try.func83, Try.ntmps83
    go_wp2_with (at_builtin; refine wpList_append2 rfl (.tmp 23) (.tmp 24) rfl (.slice none 0 0) [] k rfl HL.out _ rfl HK.out (by simp; omega) ?_; intro v' w' h1 hL h2)
    go_ret
    exact ⟨v', rfl, h1, hL.out, h2⟩
  · have hc1 : (l.length : Int) ≤ (cap : Int) := by omega
    have hq : ((l.length : Int) == (l.length : Int)) = true := by simp
    clear hl hk hg htake hcs
    go_enter Try.func83, Try.ntmps83
    go_wp2_with (at_builtin; refine wpList_append2 rfl (.tmp 23) (.tmp 24) rfl _ l k rfl HL.out _ rfl HK.out (by omega) ?_; intro v' w' h1 hL h2)
    all_goals go_ret
    all_goals exact ⟨v', rfl, h1, hL.out, h2⟩

theorem ov_apart (w : World) (ga gb : Nat) (ca cb : List Value) (ha : Blk w ga ca) (hb : Blk w gb cb) (hne : ga ≠ gb) (hcb : cb.length ≠ 0) (oa la ka ob lb kb : Nat) :
    (callFunc 84 #[.slice (some ⟨ga, oa, none⟩) la ka, .slice (some ⟨gb, ob, none⟩) lb kb]).run Try.prog w = .ok (.value (.bool false)) w := by
  obtain ⟨ti, hi, hz, hsz, hby⟩ := info83
  rw [run_callFunc_extern Try.func84 (by kernel_rfl) (by kernel_rfl) (by kernel_rfl) (e := Extern.SlicesOverlaps.overlaps #[48, 48] #[4]) (by kernel_rfl),
    Lib.run_overlaps_apart w 48 4 83 Try.underlying48 2 (fun w => by simp [sizeOf, typeInfo, hi, hsz]) ⟨ga, oa, none⟩ ⟨gb, ob, none⟩ la ka lb kb hne 83 83 ca.length cb.length (by simp [World.shape?, show w.heap[ga]? = _ from ha]) (by simp [World.shape?, show w.heap[gb]? = _ from hb]) hcb
      (by simp [World.frozen?, show w.heap[ga]? = _ from ha]) (by simp [World.frozen?, show w.heap[ga]? = _ from ha])]
  rfl

/-- The cells of a part of a told block. -/
theorem Blk.cells {w : World} {g : Nat} {cur : List Value} (h : Blk w g cur) (o : Nat) (cs : List Value) (hc : ∀ j v, cs[j]? = some v → cur[o + j]? = some v) : ∀ j v, cs[j]? = some v → w.cell? ((⟨g, o, none⟩ : Addr).add j) = some v := by
  intro j v hj
  have := cell_of_heap (o := o + j) h (v := v) (by simpa using hc j v hj)
  by_cases hj0 : j = 0
  · subst hj0; simpa [Addr.add] using this
  · simpa [Addr.add, hj0] using this
theorem Row.blk {w : World} {g n cap : Nat} {l : List (Nat × Nat)} (h : Row w (.slice (some ⟨g, 0, none⟩) n cap) l) : ∃ cur, Blk w g cur ∧ cur.length = cap * 2 ∧ cur.take (l.length * 2) = flat l ∧ l.length ≤ cap ∧ cap ≤ maxLen ∧ n = l.length := by
  rcases h.2 with ⟨h0, _⟩ | ⟨g', cap', cur, he, _, hg, hnc, hcm, hcs, htake⟩
  · cases h0
  · simp only [Value.slice.injEq, Option.some.injEq, Addr.mk.injEq] at he
    obtain ⟨⟨rfl, _, _⟩, h2, rfl⟩ := he
    exact ⟨cur.toList, by simpa [Blk] using hg, by simpa using hcs, by rw [← h2]; rw [← h2] at htake; exact htake, by omega, hcm, h2⟩
theorem Row.of {w : World} {g cap : Nat} {cur : List Value} {l : List (Nat × Nat)} (hg : Blk w g cur) (hc : cur.length = cap * 2) (hl : l.length ≤ cap) (hm : cap ≤ maxLen) (ht : cur.take (l.length * 2) = flat l) : Row w (.slice (some ⟨g, 0, none⟩) l.length cap) l :=
  ⟨flat_length l, .inr ⟨g, cap, cur.toArray, rfl, Nat.zero_le _, hg, hl, hm, by simpa using hc, by simpa using ht⟩⟩

theorem flat_drop_get (l : List (Nat × Nat)) (cur : List Value) (i : Nat) (h : cur.take (l.length * 2) = flat l) : ∀ j v, (flat (l.drop i))[j]? = some v → cur[i * 2 + j]? = some v := by
  intro j v hj
  rw [flat_drop, List.getElem?_drop, ← h, List.getElem?_take] at hj
  split at hj
  · exact hj
  · cases hj

theorem splice_mid {A X Y C : List Value} {o : Nat} (ho : o = A.length) (h : X.length = Y.length) : splice (A ++ (X ++ C)) o Y = A ++ (Y ++ C) := by
  subst ho
  have e : (A ++ (X ++ C)).drop (A.length + Y.length) = C := by
    rw [← List.append_assoc, ← h, ← List.length_append]; exact List.drop_left
  simp only [splice, e]
  rw [List.take_left]
theorem part3 (cur : List Value) (a b c : Nat) (h : a + b + c ≤ cur.length) : ∃ A B C D, cur = A ++ (B ++ (C ++ D)) ∧ A = cur.take a ∧ A.length = a ∧ B.length = b ∧ C.length = c := by
  refine ⟨cur.take a, (cur.drop a).take b, ((cur.drop a).drop b).take c, ((cur.drop a).drop b).drop c, ?_, rfl, by simp; omega, by simp; omega, by simp; omega⟩
  rw [List.take_append_drop, List.take_append_drop, List.take_append_drop]
theorem take_flat {cur : List Value} {l : List (Nat × Nat)} (h : cur.take (l.length * 2) = flat l) (i : Nat) (hi : i ≤ l.length) : cur.take (i * 2) = flat (l.take i) := by
  rw [flat_take, ← h, List.take_take]; congr 1; omega

/-- In place: the row's end shifted, the list laid in. -/
theorem shift_eq (cur : List Value) (l k : List (Nat × Nat)) (i j : Nat) (hA0 : cur.take (i * 2) = flat (l.take i)) (hr : (i + k.length + (l.length - j)) * 2 ≤ cur.length) :
    (splice (splice cur ((i + k.length) * 2) (flat (l.drop j))) (i * 2) (flat k)).take ((l.take i ++ k ++ l.drop j).length * 2) = flat (l.take i ++ k ++ l.drop j) ∧
    (splice (splice cur (i * 2) (flat k)) ((i + k.length) * 2) (flat (l.drop j))).take ((l.take i ++ k ++ l.drop j).length * 2) = flat (l.take i ++ k ++ l.drop j) := by
  have e1 : (flat (l.drop j)).length = (l.length - j) * 2 := by rw [flat_length]; simp
  have e2 : (flat k).length = k.length * 2 := flat_length k
  obtain ⟨A, B, C, D, hc, hA, lA, lB, lC⟩ := part3 cur (i * 2) (k.length * 2) ((l.length - j) * 2) (by omega)
  have hA' : A = flat (l.take i) := hA.trans hA0
  have e4 : (l.take i ++ k ++ l.drop j).length * 2 = (A ++ (flat k ++ flat (l.drop j))).length := by
    rw [← flat_length, flat_append, flat_append, ← hA', List.append_assoc]
  have e5 : flat (l.take i ++ k ++ l.drop j) = A ++ (flat k ++ flat (l.drop j)) := by rw [flat_append, flat_append, ← hA', List.append_assoc]
  have s1 : splice cur ((i + k.length) * 2) (flat (l.drop j)) = A ++ (B ++ (flat (l.drop j) ++ D)) := by
    rw [hc, ← List.append_assoc, splice_mid (by simp [lA, lB]; omega) (by rw [lC, e1]), List.append_assoc]
  have s2 : splice cur (i * 2) (flat k) = A ++ (flat k ++ (C ++ D)) := by
    rw [hc, splice_mid lA.symm (by rw [lB, e2])]
  have t1 : splice (A ++ (B ++ (flat (l.drop j) ++ D))) (i * 2) (flat k) = (A ++ (flat k ++ flat (l.drop j))) ++ D := by
    rw [splice_mid lA.symm (by rw [lB, e2])]; simp only [List.append_assoc]
  have t2 : splice (A ++ (flat k ++ (C ++ D))) ((i + k.length) * 2) (flat (l.drop j)) = (A ++ (flat k ++ flat (l.drop j))) ++ D := by
    have q := splice_mid (A := A ++ flat k) (X := C) (Y := flat (l.drop j)) (C := D) (o := (i + k.length) * 2) (by rw [List.length_append, lA, e2]; omega) (by rw [lC, e1])
    simp only [List.append_assoc] at q ⊢
    exact q
  rw [e4, e5, s1, s2, t1, t2]
  exact ⟨List.take_left, List.take_left⟩

theorem insert_room (g n cap gv m vcap : Nat) (l k : List (Nat × Nat)) (i : Nat) (w : World) (hl : Row w (.slice (some ⟨g, 0, none⟩) n cap) l) (hk : Row w (.slice (some ⟨gv, 0, none⟩) m vcap) k) (hne : gv ≠ g)
    (hm : 1 ≤ k.length) (hlen : l.length ≤ 1048576) (hkl : k.length ≤ 1048576) (hi : i < l.length) (hroom : l.length + k.length ≤ cap) :
    Calls Try.prog 83 #[.slice (some ⟨g, 0, none⟩) n cap, .int .i64 i, .slice (some ⟨gv, 0, none⟩) m vcap] w fun e w' => ∃ lv', e = .returned lv' ∧ Row w' lv' (l.take i ++ k ++ l.drop i) ∧ (∀ g', lv'.ownBlock = some g' → lo w (.slice (some ⟨g, 0, none⟩) n cap) ≤ g') ∧ Fr [g] w w' := by
  obtain ⟨cur, hg, hcl, htk, hnc, hcm, rfl⟩ := hl.blk
  obtain ⟨cv, hgv, hvl, hvk, hvc, hvm, rfl⟩ := hk.blk
  have hk0 : ((k.length : Int) == 0) = false := by simp; intro h; rw [h] at hm; simp at hm
  have hin : ((i : Int) == (l.length : Int)) = false := by simp; omega
  have x1 : (i : Int) < (l.length : Int) := by omega
  have x2 : (l.length : Int) + (k.length : Int) ≤ (cap : Int) := by omega
  have x3 : (l.length : Int) ≤ 1048576 := by omega
  have x4 : (k.length : Int) ≤ 1048576 := by omega
  have hov := ov_apart w gv g cv cur hgv hg hne (by omega)
  have HG := hid hg
  have HV := hid hgv
  have HS := hid (shift_eq cur l k i i (take_flat htk i (by omega)) (by omega)).1
  have HD := hid (flat_drop_get l cur i htk)
  have HVK := hid (flat_drop_get k cv 0 hvk)
  clear hg hgv hl hk htk hvk
  have len1 : (flat (l.drop i)).length = Nat.min (l.length + k.length - i) (l.length + k.length - (i + k.length)) * 2 := by
    rw [flat_length, List.length_drop]; show _ = min _ _ * 2; omega
  have len2 : (flat k).length = Nat.min k.length (l.length + k.length - i) * 2 := by
    rw [flat_length]; show _ = min _ _ * 2; omega
  have fit1 : (i + k.length) * 2 + (flat (l.drop i)).length ≤ cur.length := by rw [flat_length, List.length_drop]; omega
  have fit2 : i * 2 + (flat k).length ≤ (splice cur ((i + k.length) * 2) (flat (l.drop i))).length := by rw [length_splice _ _ _ fit1, flat_length]; omega
  have len3 : (splice (splice cur ((i + k.length) * 2) (flat (l.drop i))) (i * 2) (flat k)).length = cap * 2 := by rw [length_splice _ _ _ fit2, length_splice _ _ _ fit1, hcl]
  have L1 := hid len1
  have L2 := hid len2
  have L3 := hid len3
  have F1 := hid fit1
  have F2 := hid fit2
  have len4 : (l.take i ++ k ++ l.drop i).length = l.length + k.length := by simp; omega
  have L4 := hid len4
  clear len1 len2 len3 len4 fit1 fit2
  go_enter Try.func83, Try.ntmps83
  go_wp2_with fail
  clear hov
  have wr : IntKind.i64.wrap ((i : Int) + (k.length : Int)) = (i : Int) + (k.length : Int) := by rw [IntKind.wrap_i64]; omega
  have c1 : 0 ≤ (i : Int) + (k.length : Int) := by omega
  have c2 : (i : Int) + (k.length : Int) ≤ (l.length : Int) + (k.length : Int) := by omega
  have c3 : ((i : Int) + (k.length : Int)).toNat = i + k.length := by omega
  have c4 : ¬ cap = i + k.length := by omega
  have c5 : (i : Int) ≤ (l.length : Int) + (k.length : Int) := by omega
  have c6 : ¬ cap = i := by omega
  go_region_law ((refine step_copy2 rfl (.tmp 73) (.tmp 76) rfl (some ⟨g, (i + k.length) * 2, none⟩) (some ⟨g, i * 2, none⟩) (l.length + k.length - (i + k.length)) (cap - (i + k.length)) (l.length + k.length - i) (cap - i) (by kernel_rfl) (by kernel_rfl) g ((i + k.length) * 2) cur (flat (l.drop i)) (show Blk w g cur from HG.out) (show _ = _ from L1.out) (fun _ => ⟨rfl, _, rfl, show ∀ j v, _ → w.cell? _ = some v from Blk.cells (w := w) HG.out (i * 2) _ HD.out⟩) (show _ from F1.out) (flat_one _) ?_; intro w1 hb1 hf1))
  have hv1 : Hid (Blk w1 gv cv) := hf1.heap (show w.heap[gv]? = _ from HV.out) (by simpa using hne)
  go_wp2_with (refine wpList_copy2 rfl (.tmp 80) (.tmp 81) rfl (some ⟨g, i * 2, none⟩) (some ⟨gv, 0, none⟩) (l.length + k.length - i) (cap - i) k.length vcap rfl rfl g (i * 2) (splice cur ((i + k.length) * 2) (flat (l.drop i))) (flat k) hb1.out L2.out (fun _ => ⟨rfl, _, rfl, Blk.cells (w := w1) hv1.out 0 _ (by simpa using HVK.out)⟩) F2.out (flat_one _) ?_; intro w2 hb2 hf2)
  go_ret
  refine ⟨_, rfl, ?_, fun g' hg' => lo_own hg', hf1.ofDrew.trans hf2 (fun t ht => .inl ht)⟩
  have := Row.of (l := l.take i ++ k ++ l.drop i) hb2.out L3.out (by rw [L4.out]; omega) hcm HS.out
  rwa [L4.out] at this
end Go.Proofs.Ytfiaciniikcacaa
