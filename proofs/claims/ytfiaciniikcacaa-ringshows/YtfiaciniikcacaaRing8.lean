/-
  The walk of 'writable' of package ring, where nothing of the ring's own is lent. No statement is proved here.
-/
import Derived.Test.YtfiaciniikcacaaRing7
namespace Go.Proofs.Ytfiaciniikcacaa
open Go.RowKit Go.BigFrame Go.MapKept
set_option linter.unusedVariables false
set_option linter.unusedSimpArgs false
set_option maxRecDepth 1000000
set_option maxHeartbeats 4000000

theorem blk_ne {w : World} {a b : Nat} {c c' : Array Value} {t t' : TypeId} {f f' : Nat × Nat} (h1 : w.heap[a]? = some (.cells c t f)) (h2 : w.heap[b]? = some (.cells c' t' f')) (h : t ≠ t') : a ≠ b := by
  intro e; subst e
  rw [h1] at h2
  simp at h2
  exact h h2.2.1
/-- Nothing of what the driver writes of a ring is lent. -/
def Kept (l : List (Nat × Nat)) (at_ N : Nat) : Prop := ∀ j, at_ ≤ j → j < at_ + uAt N → ¬ In l j
theorem writable_ok (bR bM bm bb k at_ bT N bC idx pol g cap : Nat) (brk : Bool) (tk : List Bool) (lv : Value) (l : List (Nat × Nat)) (bs : List UInt8) (ds : List Nat) (w : World) (hR : RingF w bR bM at_ bT N bC idx pol brk tk) (hM : MemA w bM bm bb k lv l bs)
    (hD : DescsAt w g ds) (hds : ∀ d ∈ ds, d < N) (hdl : ds.length ≤ 8) (hN1 : 1 ≤ N) (hN : N ≤ 256) (hi : idx < 65536) (ho : at_ + uAt N ≤ k) (hK : Kept l at_ N) :
    Calls Try.prog 38 #[.pointer (some ⟨bR, 0, none⟩), .slice (some ⟨g, 0, none⟩) ds.length cap] w fun e w' => e = .returned (.bool true) ∧ MemA w' bM bm bb k lv l bs ∧ Fr [bb] w w' := by
  have hk := hM.mid.top
  have hu : 16 * N + 6 + 2 * N ≤ uAt N := by unfold uAt; omega
  have o1 : bR ∉ [bb] := by simpa using blk_ne hR.blk hM.bytes (by decide)
  have o2 : bT ∉ [bb] := by simpa using blk_ne hR.tak hM.bytes (by decide)
  have o3 : g ∉ [bb] := by simpa using hD.ne hM.bytes (by decide)
  obtain ⟨T1, hT1⟩ : ∃ T, T = at_ + 16 * N + 4 + 2 * (idx % N) := ⟨_, rfl⟩
  obtain ⟨T2, hT2⟩ : ∃ T, T = at_ + 16 * N := ⟨_, rfl⟩
  obtain ⟨T3, hT3⟩ : ∃ T, T = at_ + 16 * N + 2 := ⟨_, rfl⟩
  have hq : idx % N < N := Nat.mod_lt _ (by omega)
  have HS := hid (show Calls Try.prog 56 #[.pointer (some ⟨bR, 0, none⟩)] w fun e w' => e = .returned (.int .u32 (T1 : Nat)) ∧ ∃ d, w' = w.drewN d from by rw [hT1]; exact slot_any bR bM at_ bT N bC idx pol brk tk w hR hN1 hN (by omega) hi)
  have HA := hid (fun W (hF : Fr [bb] w W) => (show Calls Try.prog 25 #[.pointer (some ⟨bR, 0, none⟩)] W fun e w' => e = .returned (.int .u32 (T2 : Nat)) ∧ ∃ d, w' = W.drewN d from by rw [hT2]; exact Avail_any bR bM at_ bT N bC idx pol brk tk W (hR.fr hF o1 o2) hN (by omega)))
  have HM := hid (fun W (a n : Nat) (hF : Fr [bb] w W) (hW : MemA W bM bm bb k lv l bs) (h1 : a + n ≤ k) (h2 : at_ ≤ a) (h3 : a + n ≤ at_ + uAt N) => (mine_any bR bM bm bb k at_ bT N bC idx pol a n brk tk lv l bs W (hR.fr hF o1 o2) hW h1 true (by simp only [true_iff]; rintro ⟨j, q1, q2, q3⟩; exact hK j (by omega) (by omega) q3)).mono fun e w' ⟨q1, q2, q3⟩ => (⟨q1, q2, hF.trans q3 (fun t ht => .inl ht)⟩ : e = Ending.returned (.bool true) ∧ MemA w' bM bm bb k lv l bs ∧ Fr [bb] w w'))
  have HDs := hid (fun W (i : Nat) (h : i < ds.length) (hF : Fr [bb] w W) => (show ∃ D : Nat, at_ ≤ D ∧ D + 16 ≤ at_ + uAt N ∧ W.cell? ⟨g, i, none⟩ = some (.int .u16 (ds[i] : Nat)) ∧ Calls Try.prog 57 #[.pointer (some ⟨bR, 0, none⟩), .int .u16 (ds[i] : Nat)] W fun e w' => e = .returned (.int .u32 (D : Nat)) ∧ w' = W from by
    have hd := hds ds[i] (List.getElem_mem h)
    exact ⟨at_ + 16 * ds[i], by omega, by omega, (hD.fr hF o3).cell i h, desc_any bR bM at_ bT N bC idx pol ds[i] brk tk W (hR.fr hF o1 o2) (by omega) (by omega)⟩))
  have w3 : IntKind.u32.wrap ((T2 : Int) + 2) = (T3 : Int) := by rw [IntKind.wrap_u32]; omega
  have hT : T1 + 2 ≤ at_ + uAt N ∧ at_ ≤ T1 ∧ T3 + 2 ≤ at_ + uAt N ∧ at_ ≤ T3 := by omega
  have HM0 := hid hM
  clear hR hM hD hds hK hT1 hT2 hT3 hq
  go_enter Try.func38, Try.ntmps38
  go_wp2_with fail
  refine HS.out.mono ?_
  rintro e w1 ⟨rfl, d1, hw⟩
  subst hw
  go_wp2_with fail
  refine (HM.out _ T1 2 ((Fr.refl _ w).drewN d1) (HM0.out.fr0 ((Fr.refl _ w).drewN d1)) (by omega) (by omega) (by omega)).mono ?_
  rintro e w2 ⟨rfl, hM2, hF2⟩
  have HM2 := hid hM2
  have HF2 := hid hF2
  clear hM2 hF2
  go_wp2_with fail
  refine (HA.out w2 HF2.out).mono ?_
  rintro e w3' ⟨rfl, d2, hw⟩
  subst hw
  go_wp2_with fail
  refine (HM.out _ T3 2 (HF2.out.drewN d2) (HM2.out.fr0 ((Fr.refl _ w2).drewN d2)) (by omega) (by omega) (by omega)).mono ?_
  rintro e w4 ⟨rfl, hM4, hF4⟩
  have HM4 := hid hM4
  have HF4 := hid hF4
  clear hM4 hF4
  go_wp2_with fail
  go_loopg [5, 21] ds.length (fun gk s q wr => ∃ i : Nat, i ≤ ds.length ∧ gk = ds.length - i ∧ q = .int .i64 i ∧ s = .bool true ∧ Hid (MemA wr bM bm bb k lv l bs ∧ Fr [bb] w wr))
  case atStart => exact ⟨0, Nat.zero_le _, rfl, rfl, rfl, hid ⟨HM4.out, HF4.out⟩⟩
  case round =>
    obtain ⟨i, hil, hgk, rfl, rfl, K0⟩ := hrel
    by_cases hlt : i < ds.length
    · have hlt' : (i : Int) < (ds.length : Int) := by omega
      obtain ⟨D, hD1, hD2, r0, hD3⟩ := HDs.out wr i hlt K0.out.2
      generalize ds[i] = dd at *
      have H57 := hid hD3
      clear hD3
      go_wp2_with fail
      refine H57.out.mono ?_
      rintro e w5 ⟨rfl, hw⟩
      subst hw
      go_wp2_with fail
      refine (HM.out _ D 16 K0.out.2 K0.out.1 (by omega) (by omega) (by omega)).mono ?_
      rintro e w6 ⟨rfl, hM6, hF6⟩
      have H6 := hid (And.intro hM6 hF6)
      clear hM6 hF6
      go_wp2
      go_roundg (ds.length - (i + 1))
      case measure => omega
      case rel => exact ⟨i + 1, by omega, rfl, by go_num, rfl, H6⟩
    · obtain rfl : i = ds.length := by omega
      go_wp2
      go_ret
      exact ⟨rfl, K0.out.1, K0.out.2⟩
end Go.Proofs.Ytfiaciniikcacaa
