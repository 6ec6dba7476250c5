/-
  The walks of what the statements of package mem share: is a byte in spans, are two lists of spans the same, how heavy a script is.
-/
import Derived.Test.YtbkfgidmjkbfmaaNum
namespace Go.Proofs.Ytbkfgidmjkbfmaa
open Go.RowKit Go.BigFrame
set_option linter.unusedVariables false
set_option linter.unusedSimpArgs false
set_option maxRecDepth 1000000
set_option maxHeartbeats 4000000

theorem in_any (v : Value) (l : List (Nat × Nat)) (m k : Nat) (w : World) (hR : Row w v l) (hc : Canon l m) (hm : m ≤ 1048576) (hk : k ≤ 1048576) :
    Calls Try.prog 27 #[v, .int .i64 k] w fun e w' => ∃ b : Bool, (b = true ↔ In l k) ∧ e = .returned (.bool b) ∧ Fr [] w w' := by
  rcases hR.2 with ⟨rfl, h0⟩ | ⟨g, cap, cur, rfl, _, hg, hnc, hcm, hcs, htake⟩
  · obtain rfl : l = [] := List.eq_nil_of_length_eq_zero h0
    clear hR
    go_enter Try.func27, Try.ntmps27
    go_wp2
    refine wp_loop_rounds 1 ?_
    rw [rounds_succ]; go_wp2
    go_ret
    exact ⟨false, ⟨fun h => Bool.noConfusion h, fun ⟨i, hi, _⟩ => by simp at hi⟩, rfl, Fr.refl _ _⟩
  · have HR := hid (ownsRow.rowAt hR rfl : RowAt w g l)
    have hl := hc.len
    have HC := hid hc
    clear hR hg htake hcs hc
    go_enter Try.func27, Try.ntmps27
    go_wp2
    go_loopw [5] (fun q wr => ∃ i : Nat, i ≤ l.length ∧ q = .int .i64 i ∧ (∃ d, wr = w.drewN d) ∧ Hid (∀ j, j < i → ¬ (fs l j ≤ k ∧ k < fs l j + sn l j))) (fun q _ => l.length - (intOf q).toNat)
    case atStart => exact ⟨0, Nat.zero_le _, rfl, ⟨0, rfl⟩, (fun j hj => absurd hj (Nat.not_lt_zero _) : ∀ j, j < 0 → ¬ (fs l j ≤ k ∧ k < fs l j + sn l j))⟩
    case round =>
      obtain ⟨i, hi, rfl, ⟨d, rfl⟩, I⟩ := hrel
      by_cases hlt : i < l.length
      · have r0 := (HR.out i hlt).1
        have r1 := (HR.out i hlt).2
        have tp := HC.out.top i hlt
        have hlt' : (i : Int) < (l.length : Int) := by omega
        by_cases hin : fs l i ≤ k ∧ k < fs l i + sn l i
        · have IN := hid (show In l k from ⟨i, hlt, hin.1, hin.2⟩)
          generalize fs l i = x at *
          generalize sn l i = y at *
          have g1 : decide (x ≤ k) = true := by simp; omega
          have g2 : decide ((k : Int) < (x : Int) + (y : Int)) = true := by simp; omega
          have g3 : decide (k < x + y) = true := by simp; omega
          have W1 : IntKind.i64.wrap (x : Int) = x := by rw [IntKind.wrap_i64] <;> omega
          have W2 : IntKind.i64.wrap (y : Int) = y := by rw [IntKind.wrap_i64] <;> omega
          have W3 : IntKind.i64.wrap ((x : Int) + (y : Int)) = (x : Int) + (y : Int) := by rw [IntKind.wrap_i64] <;> omega
          clear hin
          go_wp2
          go_quiet (fail)
          go_wp2
          go_ret
          exact ⟨true, ⟨fun _ => IN.out, fun _ => rfl⟩, rfl, ((Fr.refl _ _).drewN _).drewN _⟩
        · have IX := hid hin
          have hx : ∃ x, x = fs l i := ⟨_, rfl⟩
          have hy : ∃ y, y = sn l i := ⟨_, rfl⟩
          obtain ⟨x, hx⟩ := hx
          obtain ⟨y, hy⟩ := hy
          rw [← hx] at r0 tp hin
          rw [← hy] at r1 tp hin
          have HXY := hid (show x = fs l i ∧ y = sn l i from ⟨hx, hy⟩)
          clear hx hy
          have W1 : IntKind.i64.wrap (x : Int) = x := by rw [IntKind.wrap_i64] <;> omega
          have W2 : IntKind.i64.wrap (y : Int) = y := by rw [IntKind.wrap_i64] <;> omega
          have W3 : IntKind.i64.wrap ((x : Int) + (y : Int)) = (x : Int) + (y : Int) := by rw [IntKind.wrap_i64] <;> omega
          by_cases h1 : x ≤ k
          · have g1 : decide (x ≤ k) = true := by simp; omega
            have g2 : decide ((k : Int) < (x : Int) + (y : Int)) = false := by simp; omega
            have g3 : decide (k < x + y) = false := by simp; omega
            clear hin
            go_wp2
            go_quiet (fail)
            go_wp2
            go_roundw
            case rel => exact ⟨i + 1, by omega, by go_num, ⟨d + nq, rfl⟩, fun j hj => by rcases Nat.eq_or_lt_of_le (Nat.le_of_lt_succ hj) with e | e; (subst e; exact IX.out); exact I.out j e⟩
            case measure => simp [intOf]; omega
          · have g1 : decide (x ≤ k) = false := by simp; omega
            clear hin
            go_wp2
            go_quiet (fail)
            go_wp2
            go_roundw
            case rel => exact ⟨i + 1, by omega, by go_num, ⟨d + nq, rfl⟩, fun j hj => by rcases Nat.eq_or_lt_of_le (Nat.le_of_lt_succ hj) with e | e; (subst e; exact IX.out); exact I.out j e⟩
            case measure => simp [intOf]; omega
      · obtain rfl : i = l.length := by omega
        go_wp2
        go_ret
        exact ⟨false, ⟨fun h => Bool.noConfusion h, fun ⟨j, hj, h1, h2⟩ => absurd ⟨h1, h2⟩ (I.out j hj)⟩, rfl, (Fr.refl _ _).drewN _⟩

theorem in_is (v : Value) (l : List (Nat × Nat)) (m k : Nat) (w : World) (hR : Row w v l) (hc : Canon l m) (hm : m ≤ 1048576) (hk : k ≤ 1048576) (b : Bool) (hb : b = true ↔ In l k) :
    Calls Try.prog 27 #[v, .int .i64 k] w fun e w' => e = .returned (.bool b) ∧ Fr [] w w' :=
  (in_any v l m k w hR hc hm hk).mono fun e w' ⟨b', h1, h2, h3⟩ => ⟨by rw [h2]; congr 2; rw [Bool.eq_iff_iff, h1, hb], h3⟩

theorem same_any (v u : Value) (l : List (Nat × Nat)) (w : World) (hR : Row w v l) (hS : Row w u l) (hl : l.length ≤ 1048576) :
    Calls Try.prog 15 #[v, u] w fun e w' => e = .returned (.bool true) ∧ Fr [] w w' := by
  rcases hR.2 with ⟨rfl, h0⟩ | ⟨g, cap, cur, rfl, _, hg, hnc, hcm, hcs, htake⟩
  · obtain rfl : l = [] := List.eq_nil_of_length_eq_zero h0
    obtain ⟨p, c, rfl⟩ : ∃ p c, u = .slice p 0 c := by
      rcases hS.2 with ⟨rfl, _⟩ | ⟨g, cap, cur, rfl, _⟩
      · exact ⟨none, 0, rfl⟩
      · exact ⟨some ⟨g, 0, none⟩, cap, rfl⟩
    clear hR hS
    go_enter Try.func15, Try.ntmps15
    go_wp2
    refine wp_loop_rounds 1 ?_
    rw [rounds_succ]; go_wp2
    go_ret
    exact ⟨rfl, Fr.refl _ _⟩
  · rcases hS.2 with ⟨rfl, h0⟩ | ⟨g2, cap2, cur2, rfl, _, hg2, hnc2, hcm2, hcs2, htake2⟩
    · obtain rfl : l = [] := List.eq_nil_of_length_eq_zero h0
      clear hR hS
      go_enter Try.func15, Try.ntmps15
      go_wp2
      refine wp_loop_rounds 1 ?_
      rw [rounds_succ]; go_wp2
      go_ret
      exact ⟨rfl, Fr.refl _ _⟩
    · have HR := hid (ownsRow.rowAt hR rfl : RowAt w g l)
      have HS := hid (ownsRow.rowAt hS rfl : RowAt w g2 l)
      have hq : ((l.length : Int) != (l.length : Int)) = false := by simp
      clear hR hS hg htake hcs hg2 htake2 hcs2
      go_enter Try.func15, Try.ntmps15
      go_wp2
      go_loopw [5] (fun q wr => ∃ i : Nat, i ≤ l.length ∧ q = .int .i64 i ∧ (∃ d, wr = w.drewN d)) (fun q _ => l.length - (intOf q).toNat)
      case atStart => exact ⟨0, Nat.zero_le _, rfl, ⟨0, rfl⟩⟩
      case round =>
        obtain ⟨i, hi, rfl, ⟨d, rfl⟩⟩ := hrel
        by_cases hlt : i < l.length
        · have r0 := (HR.out i hlt).1
          have r1 := (HR.out i hlt).2
          have s0 := (HS.out i hlt).1
          have s1 := (HS.out i hlt).2
          have hlt' : (i : Int) < (l.length : Int) := by omega
          generalize fs l i = x at *
          generalize sn l i = y at *
          go_wp2
          go_quiet (fail)
          go_wp2
          go_roundw
          case rel => exact ⟨i + 1, by omega, by go_num, ⟨d + nq, rfl⟩⟩
          case measure => simp [intOf]; omega
        · obtain rfl : i = l.length := by omega
          go_wp2
          go_ret
          exact ⟨rfl, (Fr.refl _ _).drewN _⟩

/-- A step of a script. -/
structure St where
  D : Int
  A : Nat
  N : Int
  X : Nat
  S : ByteArray

/-- The steps that a slice of them holds. -/
structure StepAt (w : World) (b o : Nat) (s : St) : Prop where
  c0 : w.cell? ⟨b, o, none⟩ = some (.int .i64 s.D)
  c1 : w.cell? ⟨b, o + 1, none⟩ = some (.int .u32 (s.A : Nat))
  c2 : w.cell? ⟨b, o + 2, none⟩ = some (.int .i64 s.N)
  c3 : w.cell? ⟨b, o + 3, none⟩ = some (.int .u64 (s.X : Nat))
  c4 : w.cell? ⟨b, o + 4, none⟩ = some (.string s.S)
  hA : s.A < 4294967296
  hX : s.X < 18446744073709551616
  hN : -9223372036854775808 ≤ s.N ∧ s.N < 9223372036854775808
  hS : s.S.size ≤ maxLen
theorem StepAt.fr {w w' : World} {b o : Nat} {s : St} (h : StepAt w b o s) (hF : Fr [] w w') : StepAt w' b o s :=
  ⟨hF.cell h.c0 (by simp), hF.cell h.c1 (by simp), hF.cell h.c2 (by simp), hF.cell h.c3 (by simp), hF.cell h.c4 (by simp), h.hA, h.hX, h.hN, h.hS⟩
def Steps (w : World) (v : Value) (len : Nat) (F : Nat → St) : Prop :=
  len ≤ maxLen ∧ ((∃ p c, v = .slice p 0 c ∧ len = 0) ∨ ∃ b o cap, v = .slice (some ⟨b, o, none⟩) len cap ∧ ∀ i, i < len → StepAt w b (o + i * 5) (F i))

def IsBool (e : Ending) : Prop := ∃ b, e = .returned (.bool b)
def IsInt (v : Value) : Prop := ∃ x, v = .int .i64 x
theorem heavy_any (z : Int) (v : Value) (len : Nat) (F : Nat → St) (w : World) (h : Steps w v len F) :
    Calls Try.prog 7 #[.int .i64 z, v] w fun e w' => IsBool e ∧ w' = w := by
  obtain ⟨hl, ⟨p, c, rfl, rfl⟩ | ⟨b, o, cap, rfl, hS⟩⟩ := h
  · go_enter Try.func7, Try.ntmps7
    go_wp2
    refine wp_loop_rounds 1 ?_
    rw [rounds_succ]; go_wp2
    all_goals
      go_ret
      exact ⟨⟨_, rfl⟩, rfl⟩
  · have HS := hid hS
    clear hS
    unfold maxLen at hl
    go_enter Try.func7, Try.ntmps7
    go_wp2
    go_loopw [5, 6] (fun p q wr => ∃ (i : Nat), i ≤ len ∧ IsInt p ∧ q = .int .i64 i ∧ wr = w) (fun p q _ => len - (intOf q).toNat)
    case atStart => exact ⟨0, Nat.zero_le _, ⟨0, rfl⟩, rfl, rfl⟩
    case round =>
      obtain ⟨i, hi, ⟨x, rfl⟩, rfl, rfl⟩ := hrel
      by_cases hlt : i < len
      · have r4 := (HS.out i hlt).c4
        have hlt' : (i : Int) < (len : Int) := by omega
        go_wp2
        go_roundw
        case rel => exact ⟨i + 1, by omega, ⟨_, rfl⟩, by go_num, trivial⟩
        case measure => simp [intOf]; omega
      · obtain rfl : i = len := by omega
        go_wp2
        all_goals
          go_ret
          exact ⟨⟨_, rfl⟩, rfl⟩
end Go.Proofs.Ytbkfgidmjkbfmaa
