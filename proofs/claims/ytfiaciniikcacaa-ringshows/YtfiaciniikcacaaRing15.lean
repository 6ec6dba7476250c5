/-
  The walk of Add of package ring where it refuses: the ring is broken, the buffers may not be a chain, are not in memory, are too many, can't be lent. No statement is proved here.
-/
import Derived.Test.YtfiaciniikcacaaRing14
namespace Go.Proofs.Ytfiaciniikcacaa
open Go.RowKit Go.BigFrame Go.MapKept
set_option linter.unusedVariables false
set_option linter.unusedSimpArgs false
set_option maxRecDepth 1000000
set_option maxHeartbeats 4000000

section
variable (B bR bM bm bb k at_ bT N bC idx pol : Nat) (Z : Nat → Prop) (brk : Bool) (tk : List Bool) (cs : List Ch) (bs : List UInt8) (v : Value) (xs : List Bf) (w : World)
theorem radd_broken (h : RS B w bR bM bm bb k at_ bT N bC Z idx pol true tk cs bs) : Calls Try.prog 11 #[.pointer (some ⟨bR, 0, none⟩), v] w fun e w' => e = .returned (.tuple #[.int .u16 0, .int .i64 20]) ∧ w' = w := by
  have c0 := h.ring.c0
  have c6 := h.ring.c6
  clear h
  go_enter Try.func11, Try.ntmps11
  go_wp2_with (go_at_call 34; refine (rnone_ring bR bM _ c0).mono ?_; rintro e w' ⟨rfl, hw⟩; subst hw)
  go_ret2
  exact ⟨rfl, rfl⟩
theorem radd_arg (h : RS B w bR bM bm bb k at_ bT N bC Z idx pol false tk cs bs) (hv : Arg w v xs) (hm : mayB xs = false) : Calls Try.prog 11 #[.pointer (some ⟨bR, 0, none⟩), v] w fun e w' => e = .returned (.tuple #[.int .u16 0, .int .i64 2]) ∧ Fr [] w w' := by
  have c0 := h.ring.c0
  have c6 := h.ring.c6
  have H35 := hid (hm ▸ mayBe_any v xs w hv.bufs)
  clear h hv hm
  go_enter Try.func11, Try.ntmps11
  go_wp2_with (first | (go_at_call 34; refine (rnone_ring bR bM _ c0).mono ?_; rintro e w' ⟨rfl, hw⟩; subst hw) | (go_at_call 35; refine H35.out.mono ?_; rintro e w1 ⟨rfl, hF1⟩))
  go_ret2
  exact ⟨rfl, hF1⟩
theorem radd_out (h : RS B w bR bM bm bb k at_ bT N bC Z idx pol false tk cs bs) (hv : Arg w v xs) (hm : mayB xs = true) (hi : inB k xs = false) : Calls Try.prog 11 #[.pointer (some ⟨bR, 0, none⟩), v] w fun e w' => e = .returned (.tuple #[.int .u16 0, .int .i64 10]) ∧ Fr [] w w' := by
  have c0 := h.ring.c0
  have c6 := h.ring.c6
  have H35 := hid (hm ▸ mayBe_any v xs w hv.bufs)
  have H36 := hid (fun W (hF : Fr [] w W) => (show Calls Try.prog 36 #[.pointer (some ⟨bR, 0, none⟩), v] W fun e w' => e = .returned (.bool false) ∧ Fr [] W w' from by
    obtain ⟨l, ⟨lv, h1, _⟩, _⟩ := h.mem
    have := holds_ring bR bM bm bb k at_ bT N bC idx pol false tk lv l bs v xs W (h.ring.fr hF (by simp) (by simp)) (h1.fr0 hF) (hv.fr0 hF).bufs
    rwa [hi] at this))
  clear h hv hm hi
  go_enter Try.func11, Try.ntmps11
  go_wp2_with (first | (go_at_call 34; refine (rnone_ring bR bM _ c0).mono ?_; rintro e w' ⟨rfl, hw⟩; subst hw) | (go_at_call 35; refine H35.out.mono ?_; rintro e w1 ⟨rfl, hF1⟩) | (go_at_call 36; refine (H36.out w1 hF1).mono ?_; rintro e w2 ⟨rfl, hF2⟩))
  go_ret2
  exact ⟨rfl, hF1.trans0 hF2⟩
theorem radd_full (h : RS B w bR bM bm bb k at_ bT N bC Z idx pol false tk cs bs) (hv : Arg w v xs) (hm : mayB xs = true) (hi : inB k xs = true) (hf : (frK tk xs.length N).length < xs.length) : Calls Try.prog 11 #[.pointer (some ⟨bR, 0, none⟩), v] w fun e w' => e = .returned (.tuple #[.int .u16 0, .int .i64 6]) ∧ Fr [] w w' := by
  have c0 := h.ring.c0
  have c6 := h.ring.c6
  have hx8 : 1 ≤ xs.length ∧ xs.length ≤ 8 := by
    unfold mayB at hm
    simp only [Bool.and_eq_true, decide_eq_true_eq] at hm
    exact hm.1
  have hN : N ≤ 256 := by have := h.pow; unfold Pow at this; omega
  obtain ⟨p, c, hvf⟩ := hv.form
  subst hvf
  have H35 := hid (hm ▸ mayBe_any _ xs w hv.bufs)
  have H36 := hid (fun W (hF : Fr [] w W) => (show Calls Try.prog 36 #[.pointer (some ⟨bR, 0, none⟩), .slice p xs.length c] W fun e w' => e = .returned (.bool true) ∧ Fr [] W w' from by
    obtain ⟨l, ⟨lv, h1, _⟩, _⟩ := h.mem
    have := holds_ring bR bM bm bb k at_ bT N bC idx pol false tk lv l bs _ xs W (h.ring.fr hF (by simp) (by simp)) (h1.fr0 hF) (hv.fr0 hF).bufs
    rwa [hi] at this))
  have H37 := hid (fun W (hF : Fr [] w W) => (show Calls Try.prog 37 #[.pointer (some ⟨bR, 0, none⟩), .int .i64 xs.length] W fun e w' => ∃ p' c', e = .returned (.slice p' (frK tk xs.length N).length c') ∧ Fr [] W w' from
    (free_any bR bM at_ bT N bC idx pol false tk xs.length W (h.ring.fr hF (by simp) (by simp)) hN hx8.2).mono fun e w' ⟨v', q1, q2, q3⟩ => by
      obtain ⟨p', c', rfl⟩ := ownsRow.form q2
      exact ⟨p', c', q1, q3⟩))
  clear h hv hm hi
  generalize frK tk xs.length N = ds at *
  have hf' : decide ((ds.length : Int) < (xs.length : Int)) = true := by simp; omega
  go_enter Try.func11, Try.ntmps11
  go_wp2_with (first | (go_at_call 34; refine (rnone_ring bR bM _ c0).mono ?_; rintro e w' ⟨rfl, hw⟩; subst hw) | (go_at_call 35; refine H35.out.mono ?_; rintro e w1 ⟨rfl, hF1⟩) | (go_at_call 36; refine (H36.out w1 hF1).mono ?_; rintro e w2 ⟨rfl, hF2⟩) | (go_at_call 37; refine (H37.out w2 (hF1.trans0 hF2)).mono ?_; rintro e w3 ⟨p', c', rfl, hF3⟩))
  go_ret2
  exact ⟨rfl, (hF1.trans0 hF2).trans0 hF3⟩
end
end Go.Proofs.Ytfiaciniikcacaa
