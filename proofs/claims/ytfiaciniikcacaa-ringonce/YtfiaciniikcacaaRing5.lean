/-
  The walk of 'mine' of package ring: are bytes the driver's? They are written as they are. No statement is proved here.
-/
import Derived.Test.YtfiaciniikcacaaRing4
namespace Go.Proofs.Ytfiaciniikcacaa
open Go.RowKit Go.BigFrame
set_option linter.unusedVariables false
set_option linter.unusedSimpArgs false
set_option maxRecDepth 1000000
set_option maxHeartbeats 4000000

theorem put_back (bs : List UInt8) (a n : Nat) : bs.take a ++ (bs.drop a).take n ++ bs.drop (a + n) = bs := by
  rw [List.append_assoc, ← List.drop_drop, List.take_append_drop, List.take_append_drop]
theorem mine_any (bR bM bm bb k at_ bT N bC idx pol a n : Nat) (brk : Bool) (tk : List Bool) (lv : Value) (l : List (Nat × Nat)) (bs : List UInt8) (w : World) (hR : RingF w bR bM at_ bT N bC idx pol brk tk) (hM : MemA w bM bm bb k lv l bs) (ho : a + n ≤ k) (b : Bool) (hb : b = true ↔ ¬ ∃ j, a ≤ j ∧ j < a + n ∧ In l j) :
    Calls Try.prog 55 #[.pointer (some ⟨bR, 0, none⟩), .int .u32 a, .int .i64 n] w fun e w' => e = .returned (.bool b) ∧ MemA w' bM bm bb k lv l bs ∧ Fr [bb] w w' := by
  have hk := hM.mid.top
  have c0 := hR.c0
  have hsz : (⟨((bs.drop a).take n).toArray⟩ : ByteArray).size = n := by
    show ((bs.drop a).take n).length = n
    rw [List.length_take, List.length_drop, hM.len]; omega
  have H1 := hid (read_ok bM bm bb k a n lv l bs w hM ho)
  have HM := hid hM
  cases b with
  | true =>
    have hno := hb.1 rfl
    have H2 := hid (write_ok bM bm bb k a lv l bs ⟨((bs.drop a).take n).toArray⟩ w hM (by rw [hsz]; exact ho) (by rw [hsz]; exact hno))
    rw [hsz] at H2
    have HP := hid (put_back bs a n)
    clear hR hM hb hno hsz
    go_enter Try.func55, Try.ntmps55
    go_wp2_with fail
    refine H1.out.mono ?_
    rintro e w1 ⟨rfl, hw⟩
    subst hw
    go_wp2_with fail
    refine H2.out.mono ?_
    rintro e w2 ⟨rfl, hM2, hF2⟩
    have HM2 := hid hM2
    clear hM2
    go_wp2
    go_ret
    refine ⟨rfl, ?_, hF2⟩
    have := HM2.out
    rw [HP.out] at this
    exact this
  | false =>
    have hyes : ∃ j, a ≤ j ∧ j < a + n ∧ In l j := Classical.byContradiction fun h => Bool.noConfusion (hb.2 h)
    have H2 := hid (write_lent bM bm bb k a lv l bs ⟨((bs.drop a).take n).toArray⟩ w hM (by rw [hsz]; exact ho) (by rw [hsz]; exact hyes))
    clear hR hM hb hyes hsz
    go_enter Try.func55, Try.ntmps55
    go_wp2_with fail
    refine H1.out.mono ?_
    rintro e w1 ⟨rfl, hw⟩
    subst hw
    go_wp2_with fail
    refine H2.out.mono ?_
    rintro e w2 ⟨rfl, hF2⟩
    go_wp2
    go_ret
    exact ⟨rfl, HM.out.fr0 hF2, hF2.mono (by simp)⟩
end Go.Proofs.Ytfiaciniikcacaa
