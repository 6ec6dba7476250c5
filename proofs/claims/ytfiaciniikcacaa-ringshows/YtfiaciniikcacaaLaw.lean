/-
  The walk of 'in' of the statements: is a byte in spans?
-/
import Derived.Test.YtfiaciniikcacaaNum
namespace Go.Proofs.Ytfiaciniikcacaa
open Go.RowKit Go.BigFrame
set_option linter.unusedVariables false
set_option linter.unusedSimpArgs false
set_option maxRecDepth 1000000
set_option maxHeartbeats 4000000

theorem in_any (v : Value) (l : List (Nat × Nat)) (m k : Nat) (w : World) (hR : Row w v l) (hc : Canon l m) (hm : m ≤ 1048576) (hk : k ≤ 1048576) :
    Calls Try.prog 21 #[v, .int .i64 k] w fun e w' => ∃ b : Bool, (b = true ↔ In l k) ∧ e = .returned (.bool b) ∧ Fr [] w w' := by
  rcases hR.2 with ⟨rfl, h0⟩ | ⟨g, cap, cur, rfl, _, hg, hnc, hcm, hcs, htake⟩
  · obtain rfl : l = [] := List.eq_nil_of_length_eq_zero h0
    clear hR
    go_enter Try.func21, Try.ntmps21
    go_wp2
    refine wp_loop_rounds 1 ?_
    rw [rounds_succ]; go_wp2
    go_ret
    exact ⟨false, ⟨fun h => Bool.noConfusion h, fun ⟨i, hi, _⟩ => by simp at hi⟩, rfl, Fr.refl _ _⟩
  · have HR := hid (ownsRow.rowAt hR rfl : RowAt w g l)
    have hl := hc.len
    have HC := hid hc
    clear hR hg htake hcs hc
    go_enter Try.func21, Try.ntmps21
    go_wp2
    go_loopw [5] (fun q wr => ∃ i : Nat, i ≤ l.length ∧ q = .int .i64 i ∧ (∃ d, wr = w.drewN d) ∧ Hid (∀ j, j < i → ¬ (fs l j ≤ k ∧ k < fs l j + sn l j))) (fun q _ => l.length - (intOf q).toNat)
    case atStart => exact ⟨0, Nat.zero_le _, rfl, ⟨0, rfl⟩, (fun j hj => absurd hj (Nat.not_lt_zero _) : ∀ j, j < 0 → ¬ (fs l j ≤ k ∧ k < fs l j + sn l j))⟩
    case round =>
      obtain ⟨i, hi, rfl, ⟨d, rfl⟩, I⟩ := hrel
      by_cases hlt : i < l.length
      · have r0 := (HR.out i hlt).1
        have r1 := (HR.out i hlt).2
        have tp := HC.out.top i hlt
        have hlt' : (i : Int) < (l.length : Int) := by omega
        by_cases hin : fs l i ≤ k ∧ k < fs l i + sn l i
        · have IN := hid (show In l k from ⟨i, hlt, hin.1, hin.2⟩)
          generalize fs l i = x at *
          generalize sn l i = y at *
          have g1 : decide (x ≤ k) = true := by simp; omega
          have g2 : decide ((k : Int) < (x : Int) + (y : Int)) = true := by simp; omega
          have g3 : decide (k < x + y) = true := by simp; omega
          have W1 : IntKind.i64.wrap (x : Int) = x := by rw [IntKind.wrap_i64] <;> omega
          have W2 : IntKind.i64.wrap (y : Int) = y := by rw [IntKind.wrap_i64] <;> omega
          have W3 : IntKind.i64.wrap ((x : Int) + (y : Int)) = (x : Int) + (y : Int) := by rw [IntKind.wrap_i64] <;> omega
          clear hin
          go_wp2
          go_quiet (fail)
          go_wp2
          go_ret
          exact ⟨true, ⟨fun _ => IN.out, fun _ => rfl⟩, rfl, ((Fr.refl _ _).drewN _).drewN _⟩
        · have IX := hid hin
          have hx : ∃ x, x = fs l i := ⟨_, rfl⟩
          have hy : ∃ y, y = sn l i := ⟨_, rfl⟩
          obtain ⟨x, hx⟩ := hx
          obtain ⟨y, hy⟩ := hy
          rw [← hx] at r0 tp hin
          rw [← hy] at r1 tp hin
          have HXY := hid (show x = fs l i ∧ y = sn l i from ⟨hx, hy⟩)
          clear hx hy
          have W1 : IntKind.i64.wrap (x : Int) = x := by rw [IntKind.wrap_i64] <;> omega
          have W2 : IntKind.i64.wrap (y : Int) = y := by rw [IntKind.wrap_i64] <;> omega
          have W3 : IntKind.i64.wrap ((x : Int) + (y : Int)) = (x : Int) + (y : Int) := by rw [IntKind.wrap_i64] <;> omega
          by_cases h1 : x ≤ k
          · have g1 : decide (x ≤ k) = true := by simp; omega
            have g2 : decide ((k : Int) < (x : Int) + (y : Int)) = false := by simp; omega
            have g3 : decide (k < x + y) = false := by simp; omega
            clear hin
            go_wp2
            go_quiet (fail)
            go_wp2
            go_roundw
            case rel => exact ⟨i + 1, by omega, by go_num, ⟨d + nq, rfl⟩, fun j hj => by rcases Nat.eq_or_lt_of_le (Nat.le_of_lt_succ hj) with e | e; (subst e; exact IX.out); exact I.out j e⟩
            case measure => simp [intOf]; omega
          · have g1 : decide (x ≤ k) = false := by simp; omega
            clear hin
            go_wp2
            go_quiet (fail)
            go_wp2
            go_roundw
            case rel => exact ⟨i + 1, by omega, by go_num, ⟨d + nq, rfl⟩, fun j hj => by rcases Nat.eq_or_lt_of_le (Nat.le_of_lt_succ hj) with e | e; (subst e; exact IX.out); exact I.out j e⟩
            case measure => simp [intOf]; omega
      · obtain rfl : i = l.length := by omega
        go_wp2
        go_ret
        exact ⟨false, ⟨fun h => Bool.noConfusion h, fun ⟨j, hj, h1, h2⟩ => absurd ⟨h1, h2⟩ (I.out j hj)⟩, rfl, (Fr.refl _ _).drewN _⟩

theorem in_is (v : Value) (l : List (Nat × Nat)) (m k : Nat) (w : World) (hR : Row w v l) (hc : Canon l m) (hm : m ≤ 1048576) (hk : k ≤ 1048576) (b : Bool) (hb : b = true ↔ In l k) :
    Calls Try.prog 21 #[v, .int .i64 k] w fun e w' => e = .returned (.bool b) ∧ Fr [] w w' :=
  (in_any v l m k w hR hc hm hk).mono fun e w' ⟨b', h1, h2, h3⟩ => ⟨by rw [h2]; congr 2; rw [Bool.eq_iff_iff, h1, hb], h3⟩

end Go.Proofs.Ytfiaciniikcacaa
