/-
  The walk of 'works' of the statements of package ring: one chain there and back. No statement is proved here.
-/
import Derived.Test.YtfiaciniikcacaaRing23
namespace Go.Proofs.Ytfiaciniikcacaa
open Go.RowKit Go.BigFrame Go.MapKept
set_option linter.unusedVariables false
set_option linter.unusedSimpArgs false
set_option maxRecDepth 1000000
set_option maxHeartbeats 4000000

theorem Kp.toFr {S : List Nat} {w w' : World} (h : Kp w.heap.size S w w') (hS : ∀ k, k ∈ S → w.heap.size ≤ k) : Fr [] w w' :=
  have hb := h.below (Nat.le_refl _) hS
  ⟨h.os, h.tape, h.output, h.size, fun k hk _ => by
    obtain ⟨o, ho⟩ : ∃ o, w.heap[k]? = some o := ⟨_, Array.getElem?_eq_getElem hk⟩
    rw [ho]
    exact h.block k o ho (fun hm => by have := hS k hm; omega) (.inl hk)⟩
def wxs : List Bf := [⟨100, 4, false⟩, ⟨200, 8, true⟩]
def wbs0 : List UInt8 := wrb (List.replicate 300 0) 0 (List.replicate 66 0)
def wbs1 : List UInt8 := offW (dW wbs0 0 [0, 1] wxs 2) 0 2 0 0
def wbs2 : List UInt8 := wrb wbs1 48 [0, 0, 0, 0, 5, 0, 0, 0]
def wbs3 : List UInt8 := wrb wbs2 46 [1, 0]
theorem wfr : frK (List.replicate 2 false) 2 2 = [0, 1] := by decide +kernel
theorem wrdy1 : rdy wbs1 0 2 0 = 0 := by decide +kernel
theorem wrdy3 : rdy wbs3 0 2 0 = 1 := by decide +kernel
theorem whead : num wbs3 (eAt 0 2 0) 4 = 0 := by decide +kernel
theorem wlen : num wbs3 (eAt 0 2 0 + 4) 4 = 5 := by decide +kernel
theorem wroom : roomB wxs = 8 := by decide +kernel
theorem wtk : cnt (tkC (tkW (List.replicate 2 false) [0, 1] 2) [0, 1] 2) = 2 := by decide +kernel
theorem wsize : rSize 2 = 66 := by decide +kernel
theorem wbufs (w : World) : BufsAt (w.alloc (.cells #[.int .u32 100, .int .u32 4, .bool false, .int .u32 200, .int .u32 8, .bool true] 59)) w.heap.size 0 wxs := by
  have h := heap_alloc_new w (.cells #[.int .u32 100, .int .u32 4, .bool false, .int .u32 200, .int .u32 8, .bool true] 59)
  refine ⟨⟨_, _, _, h, by decide⟩, fun i hi => ?_⟩
  obtain rfl | rfl : i = 0 ∨ i = 1 := by have hi' : i < 2 := hi; omega
  · exact ⟨cell_of_heap h rfl, cell_of_heap h rfl, cell_of_heap h rfl, by simp [wxs], by simp [wxs]⟩
  · exact ⟨cell_of_heap h rfl, cell_of_heap h rfl, cell_of_heap h rfl, by simp [wxs], by simp [wxs]⟩
theorem LendNo.not {at_ S : Nat} {l : List (Nat × Nat)} {xs : List Bf} (h : ∀ x, x ∈ xs → x.I = false) : ¬ LendNo at_ S l xs := by
  rintro ⟨i, hi, h1, _⟩
  rw [h _ (List.getElem_mem hi)] at h1
  cases h1
theorem wno {l : List (Nat × Nat)} (hl : ∀ j, In l j ↔ Zr 0 2 j ∨ Cov ([] : List (Nat × Nat)) j) : ¬ LendNo 0 (rSize 2) l wxs := by
  have hz : ∀ j, 200 ≤ j → ¬ In l j := fun j hj hi => by
    rcases (hl j).1 hi with h | ⟨p, hp, _⟩
    · unfold Zr at h
      rw [wsize] at h
      omega
    · simp at hp
  rintro ⟨i, hi, h1, h2⟩
  obtain rfl | rfl : i = 0 ∨ i = 1 := by have hi' : i < 2 := hi; omega
  · simp [wxs] at h1
  · rcases h2 with h2 | ⟨j, g1, g2, h3 | h3⟩
    · unfold ovr at h2
      rw [wsize] at h2
      simp [wxs] at h2
    · exact hz j g1 h3
    · obtain ⟨p, hp, _⟩ := h3
      simp [wxs, ivs] at hp
theorem works_any (w : World) : Calls Try.prog 8 #[] w fun e w' => e = .returned (.bool true) ∧ Fr [] w w' := by
  go_enter Try.func8, Try.ntmps8
  go_wp2_with fail
  refine (new_mem 300 (by omega) (by omega) w).mono ?_
  rintro e w1 ⟨rfl, hM1, hF1⟩
  obtain ⟨bM, hbM⟩ : ∃ b, b = w.heap.size + 1 + 1 := ⟨_, rfl⟩
  obtain ⟨bm, hbm⟩ : ∃ b, b = w.heap.size + 1 := ⟨_, rfl⟩
  obtain ⟨bb, hbb⟩ : ∃ b, b = w.heap.size := ⟨_, rfl⟩
  rw [← hbM, ← hbm] at hM1
  rw [← hbM]
  obtain ⟨B, hB⟩ : ∃ B, B = w.heap.size := ⟨_, rfl⟩
  have HB := hid (show B = w.heap.size ∧ B ≤ bM ∧ B ≤ bm ∧ B ≤ bb by omega)
  have H10 := hid (show Calls Try.prog 10 #[.pointer (some ⟨bM, 0, none⟩), .int .u32 0, .int .i64 2] w1 fun e w' => ∃ bR bT bC, e = .returned (.tuple #[.pointer (some ⟨bR, 0, none⟩), .int .i64 0]) ∧ Hid (RS B w' bR bM bm bb 300 0 bT 2 bC (Zr 0 2) 0 0 false (List.replicate 2 false) [] wbs0 ∧ B ≤ bR ∧ B ≤ bT ∧ B ≤ bC ∧ Fr [bm, bb] w1 w') from
    (rnew_rs B bM bm bb 300 0 2 _ w1 (hbb ▸ hM1) (by unfold Pow; omega) (by omega) (by rw [wsize]; omega) (by have := hF1.size; omega) (by omega) (by omega)).mono fun e w' ⟨bR, bT, bC, q1, q2, q3, q4, q5, q6⟩ => ⟨bR, bT, bC, q1, hid ⟨by rw [wsize] at q2; exact q2, by have := hF1.size; omega, by have := hF1.size; omega, by have := hF1.size; omega, q6⟩⟩)
  have HF1 := hid hF1
  clear hM1 hF1 hbM hbm hbb hB
  go_wp2_with fail
  refine H10.out.mono ?_
  rintro e w2 ⟨bR, bT, bC, rfl, H2⟩
  have HK2 := hid (show Kp B [bR, bT, bC, bm, bb] w w2 from (HF1.out.kp0).trans (H2.out.2.2.2.2.kp (fun t ht => .inl (by simp at ht; rcases ht with rfl | rfl <;> simp))))
  clear H10 HF1
  go_wp2_with fail
  have hbRl := lt_of_heap H2.out.1.ring.blk
  have H11 := hid (show Calls Try.prog 11 #[.pointer (some ⟨bR, 0, none⟩), .slice (some ⟨w2.heap.size, 0, none⟩) 2 2] (w2.alloc (.cells #[.int .u32 100, .int .u32 4, .bool false, .int .u32 200, .int .u32 8, .bool true] 59)) fun e w' => e = .returned (.tuple #[.int .u16 0, .int .i64 0]) ∧ ∃ ch : Ch, Hid (ch.xs = wxs ∧ ch.ds = [0, 1] ∧ ch.h = 0 ∧ RS B w' bR bM bm bb 300 0 bT 2 bC (Zr 0 2) 1 0 false (tkW (List.replicate 2 false) [0, 1] 2) [ch] wbs1 ∧ Kp B [bR, bT, bC, bm, bb] w w') from by
    have F : Fr [] w2 (w2.alloc (.cells #[.int .u32 100, .int .u32 4, .bool false, .int .u32 200, .int .u32 8, .bool true] 59)) := (Fr.refl _ _).alloc _
    refine (radd_go B bR bM bm bb 300 0 bT 2 bC 0 0 w2.heap.size 0 2 (Zr 0 2) (List.replicate 2 false) [] wbs0 wxs _ (H2.out.1.fr0 F) (wbufs w2) (by decide) (by decide) (by omega) (by decide +kernel) (by decide +kernel) (by decide +kernel)).mono ?_
    rintro e w' (⟨_, ⟨l, q1, q2⟩, _⟩ | ⟨ch, q1, q2, q3, _, q4, q5⟩)
    · exact absurd q2 (wno (by simpa using q1))
    · have e1 : frK (List.replicate 2 false) wxs.length 2 = [0, 1] := wfr
      rw [e1] at q2 q4
      have hh : ch.h = 0 := by
        have := (q4.chs ch (by simp)).hd
        rw [q2] at this
        simpa using this.symm
      rw [hh] at q3 q4
      exact ⟨q3, ch, hid ⟨q1, q2, hh, q4, HK2.out.trans (F.kp0.trans q5)⟩⟩)
  refine H11.out.mono ?_
  rintro e w3 ⟨rfl, ch, H3⟩
  clear H11 H2 HK2
  have H15 := hid (show Calls Try.prog 15 #[.pointer (some ⟨bR, 0, none⟩)] w3 fun e w' => e = .returned (.tuple #[.agg #[.int .u16 0, .int .u32 0], .bool false, .int .i64 0]) ∧ Hid (RS B w' bR bM bm bb 300 0 bT 2 bC (Zr 0 2) 1 0 false (tkW (List.replicate 2 false) [0, 1] 2) [ch] wbs1 ∧ Kp B [bR, bT, bC, bm, bb] w w') from by
    refine (rpoll_any B bR bM bm bb 300 0 bT 2 bC 1 0 (Zr 0 2) _ [ch] wbs1 w3 H3.out.2.2.2.1).mono ?_
    rintro e w' (⟨q1, _, q2, q3⟩ | ⟨_, q, _⟩ | ⟨_, _, _, _, q, _⟩)
    · exact ⟨q1, hid ⟨q2, H3.out.2.2.2.2.trans q3⟩⟩
    · rw [wrdy1] at q; omega
    · rw [wrdy1] at q; omega)
  go_wp2_with fail
  refine H15.out.mono ?_
  rintro e w4 ⟨rfl, H4⟩
  clear H15
  have H5 := hid (show RS B (w4.alloc (.cells #[.int .u16 0, .int .u32 0] 43)) bR bM bm bb 300 0 bT 2 bC (Zr 0 2) 1 0 false (tkW (List.replicate 2 false) [0, 1] 2) [ch] wbs1 ∧ Kp B [bR, bT, bC, bm, bb] w (w4.alloc (.cells #[.int .u16 0, .int .u32 0] 43)) from ⟨H4.out.1.fr0 ((Fr.refl _ _).alloc _), H4.out.2.trans ((Fr.refl [] _).alloc _).kp0⟩)
  have H19 := hid (fun (W : World) (idx pol : Nat) (brk : Bool) (tk : List Bool) (cs : List Ch) (bs : List UInt8) (h : RS B W bR bM bm bb 300 0 bT 2 bC (Zr 0 2) idx pol brk tk cs bs) => (show Calls Try.prog 19 #[.pointer (some ⟨bR, 0, none⟩)] W fun e w' => e = .returned (.int .u32 44) ∧ ∃ d, w' = W.drewN d from Used_any bR bM 0 bT 2 bC idx pol brk tk W h.ring (by omega) (by omega)))
  have H18 := hid (fun (W : World) (a : Nat) (s : ByteArray) (cs : List Ch) (tk : List Bool) (bs : List UInt8) (h : RS B W bR bM bm bb 300 0 bT 2 bC (Zr 0 2) 1 0 false tk cs bs) (hK : Kp B [bR, bT, bC, bm, bb] w W) (h1 : 44 ≤ a) (h2 : a + s.size ≤ 66) => (show Calls Try.prog 18 #[.pointer (some ⟨bM, 0, none⟩), .int .u32 (a : Nat), .string s] W fun e w' => e = .returned (.int .i64 0) ∧ Hid (RS B w' bR bM bm bb 300 0 bT 2 bC (Zr 0 2) 1 0 false tk cs (wrb bs a s.data.toList) ∧ Kp B [bR, bT, bC, bm, bb] w w') from by
    have hz : ∀ j, a ≤ j → j < a + s.size → Zr 0 2 j := fun j g1 g2 => by
      have e1 : uAt 2 = 44 := by decide +kernel
      unfold Zr
      rw [wsize, e1]
      omega
    refine (rdevice_any B bR bM bm bb 300 0 bT 2 bC 1 0 a (Zr 0 2) false tk cs bs s W h (by omega) (by simp [maxLen]; omega)).mono ?_
    rintro e w' ⟨c, bs', q1, q2, q3, (⟨q4, q5 | q5⟩ | ⟨q4, _, _, q5⟩)⟩
    · omega
    · exact absurd (fun j g1 g2 => .inl (hz j g1 g2)) q5
    · subst q4 q5
      exact ⟨q1, hid ⟨q2, hK.trans (q3.kp (fun t ht => .inl (by simp at ht; simp [ht])))⟩⟩))
  have HC := hid (show ch.xs = wxs ∧ ch.ds = [0, 1] ∧ ch.h = 0 from ⟨H3.out.1, H3.out.2.1, H3.out.2.2.1⟩)
  clear H4 H3
  obtain ⟨tk1, htk⟩ : ∃ tk, tk = tkW (List.replicate 2 false) [0, 1] 2 := ⟨_, rfl⟩
  rw [← htk] at H5
  have Htk := hid htk
  clear htk
  go_wp2_with fail
  generalize w4.alloc (.cells #[.int .u16 0, .int .u32 0] 43) = W5 at *
  refine (H19.out _ _ _ _ _ _ _ H5.out.1).mono ?_
  rintro e w6 ⟨rfl, d, hw⟩
  subst hw
  go_wp2_with fail
  refine (H18.out (W5.drewN d) 48 ⟨#[0, 0, 0, 0, 5, 0, 0, 0]⟩ [ch] tk1 wbs1 (H5.out.1.fr0 ((Fr.refl _ _).drewN _)) (H5.out.2.drewN _) (by omega) (by decide)).mono ?_
  rintro e w6 ⟨rfl, H6⟩
  go_wp2_with fail
  refine (H19.out _ _ _ _ _ _ _ H6.out.1).mono ?_
  rintro e w7 ⟨rfl, d2, hw⟩
  subst hw
  go_wp2_with fail
  refine (H18.out (w6.drewN d2) 46 ⟨#[1, 0]⟩ [ch] tk1 wbs2 (H6.out.1.fr0 ((Fr.refl _ _).drewN _)) (H6.out.2.drewN _) (by omega) (by decide)).mono ?_
  rintro e w7 ⟨rfl, H7⟩
  clear H5 H6 H19 H18
  have H15 := hid (show Calls Try.prog 15 #[.pointer (some ⟨bR, 0, none⟩)] w7 fun e w' => e = .returned (.tuple #[.agg #[.int .u16 0, .int .u32 5], .bool true, .int .i64 0]) ∧ Hid (RS B w' bR bM bm bb 300 0 bT 2 bC (Zr 0 2) 1 1 false (tkC tk1 [0, 1] 2) [] wbs3 ∧ Kp B [bR, bT, bC, bm, bb] w w') from by
    refine (rpoll_any B bR bM bm bb 300 0 bT 2 bC 1 0 (Zr 0 2) _ [ch] wbs3 w7 H7.out.1).mono ?_
    rintro e w' (⟨_, q, _⟩ | ⟨_, _, q | q, _⟩ | ⟨ps, c, qs, q0, q1, q2, q3, q4, q5, q6, q7⟩)
    · rw [wrdy3] at q; omega
    · rw [wrdy3] at q; simp at q
    · exact absurd (q ch (by simp)) (by rw [HC.out.1, HC.out.2.2, whead, wlen, wroom]; simp)
    · have hps : ps = [] ∧ c = ch ∧ qs = [] := by
        cases ps with
        | nil => simp at q0; exact ⟨rfl, q0.1.symm, q0.2⟩
        | cons p ps => simp at q0
      obtain ⟨rfl, rfl, rfl⟩ := hps
      rw [HC.out.2.2, wlen] at q5
      rw [HC.out.2.1] at q6
      exact ⟨q5, hid ⟨q6, H7.out.2.trans q7⟩⟩)
  go_wp2_with fail
  refine H15.out.mono ?_
  rintro e w8 ⟨rfl, H8⟩
  clear H15 H7
  go_wp2_with fail
  have H9 := hid (H8.out.1.fr0 ((Fr.refl _ w8).alloc (.cells #[.int .u16 0, .int .u32 5] 43)))
  have HF9 := hid (H8.out.2.trans ((Fr.refl [] w8).alloc (.cells #[.int .u16 0, .int .u32 5] 43)).kp0)
  generalize w8.alloc (.cells #[.int .u16 0, .int .u32 5] 43) = W9 at *
  have H23 := hid (show Calls Try.prog 23 #[.pointer (some ⟨bR, 0, none⟩)] W9 fun e w' => e = .returned (.int .i64 2) ∧ w' = W9 from by
    have := rleft_any B bR bM bm bb 300 0 bT 2 bC 1 1 (Zr 0 2) false _ [] wbs3 W9 H9.out
    rw [Htk.out, wtk] at this
    exact this)
  refine H23.out.mono ?_
  rintro e w9 ⟨rfl, hw⟩
  subst hw
  go_wp2_with fail
  refine (rwaits_any B bR bM bm bb 300 0 bT 2 bC 1 1 (Zr 0 2) false _ [] wbs3 w9 H9.out).mono ?_
  rintro e w10 ⟨rfl, hw⟩
  subst hw
  go_wp2_with fail
  have H29 := hid (show Calls Try.prog 29 #[.int .i64 2] w10 fun e w' => e = .returned (.int .i64 66) ∧ w' = w10 from Size_pow 2 (by unfold Pow; omega) w10)
  refine H29.out.mono ?_
  rintro e w11 ⟨rfl, hw⟩
  subst hw
  go_wp2
  go_ret
  refine ⟨rfl, ?_⟩
  obtain ⟨hB, h1, h2, h3⟩ := HB.out
  subst hB
  refine HF9.out.toFr (fun t ht => ?_)
  have hl := H9.out.low
  simp at ht
  rcases ht with rfl | rfl | rfl | rfl | rfl
  · exact hl.2.1
  · exact hl.2.2.1
  · exact hl.2.2.2.1
  · exact hl.2.2.2.2.1
  · exact hl.2.2.2.2.2
end Go.Proofs.Ytfiaciniikcacaa
