/-
  The walks of the document's answer for layer 1 (package pharosref01): its memory, its reading, its writing, what is lent. No statement is proved here.
-/
import Derived.Test.YtbkfgidmjkbfmaaNums
namespace Go.Proofs.Ytbkfgidmjkbfmaa
open Go.RowKit Go.BigFrame
set_option linter.unusedVariables false
set_option linter.unusedSimpArgs false
set_option maxRecDepth 1000000
set_option maxHeartbeats 4000000

/-- The document's memory: its bytes, and of each whether it is lent. -/
structure RefA (w : World) (br bB bL k : Nat) (l : List (Nat × Nat)) (bs : List UInt8) : Prop where
  blk : w.heap[br]? = some (.cells #[.slice (some ⟨bB, 0, none⟩) k k, .slice (some ⟨bL, 0, none⟩) k k] 51)
  bytes : w.heap[bB]? = some (.cells (bs.map b8).toArray 5)
  lent : ∃ ls : List Bool, ls.length = k ∧ (∀ j, j < k → (ls[j]? = some true ↔ In l j)) ∧ w.heap[bL]? = some (.cells (ls.map Value.bool).toArray 4)
  len : bs.length = k
  top : k ≤ 1048576
theorem RefA.c0 {w : World} {br bB bL k : Nat} {l : List (Nat × Nat)} {bs : List UInt8} (h : RefA w br bB bL k l bs) : w.cell? ⟨br, 0, none⟩ = some (.slice (some ⟨bB, 0, none⟩) k k) := cell_of_heap h.blk rfl
theorem RefA.c1 {w : World} {br bB bL k : Nat} {l : List (Nat × Nat)} {bs : List UInt8} (h : RefA w br bB bL k l bs) : w.cell? ⟨br, 1, none⟩ = some (.slice (some ⟨bL, 0, none⟩) k k) := cell_of_heap h.blk rfl
theorem RefA.fr {S : List Nat} {w w' : World} {br bB bL k : Nat} {l : List (Nat × Nat)} {bs : List UInt8} (h : RefA w br bB bL k l bs) (hF : Fr S w w') (h1 : br ∉ S) (h2 : bB ∉ S) (h3 : bL ∉ S) : RefA w' br bB bL k l bs := by
  obtain ⟨ls, g1, g2, g3⟩ := h.lent
  exact ⟨hF.heap h.blk h1, hF.heap h.bytes h2, ⟨ls, g1, g2, hF.heap g3 h3⟩, h.len, h.top⟩
theorem RefA.fr0 {w w' : World} {br bB bL k : Nat} {l : List (Nat × Nat)} {bs : List UInt8} (h : RefA w br bB bL k l bs) (hF : Fr [] w w') : RefA w' br bB bL k l bs := h.fr hF (by simp) (by simp) (by simp)
theorem RefA.ne {w : World} {br bB bL k : Nat} {l : List (Nat × Nat)} {bs : List UInt8} (h : RefA w br bB bL k l bs) : br ≠ bB ∧ br ≠ bL ∧ bB ≠ bL := by
  obtain ⟨ls, g1, g2, g3⟩ := h.lent
  refine ⟨fun e => ?_, fun e => ?_, fun e => ?_⟩
  · subst e; have := h.blk; rw [h.bytes] at this; simp at this
  · subst e; have := h.blk; rw [g3] at this; simp at this
  · subst e; have := h.bytes; rw [g3] at this; simp at this
theorem RefA.lcell {w : World} {br bB bL k : Nat} {l : List (Nat × Nat)} {bs : List UInt8} (h : RefA w br bB bL k l bs) (j : Nat) (hj : j < k) : ∃ b : Bool, (b = true ↔ In l j) ∧ w.cell? ⟨bL, j, none⟩ = some (.bool b) := by
  obtain ⟨ls, g1, g2, g3⟩ := h.lent
  have hl : j < ls.length := by omega
  refine ⟨ls[j], ?_, cell_of_heap g3 (by simp [hl])⟩
  rw [← g2 j hj, List.getElem?_eq_getElem hl]
  simp

theorem rin_any (br bB bL k a : Nat) (n : Int) (l : List (Nat × Nat)) (bs : List UInt8) (w : World) (hR : RefA w br bB bL k l bs) (ha : a < 4294967296) (hn : -9223372036854775808 ≤ n) (b : Bool) (hb : b = true ↔ 0 ≤ n ∧ (a : Int) + n ≤ k) :
    Calls Try.prog 41 #[.pointer (some ⟨br, 0, none⟩), .int .u32 a, .int .i64 n] w fun e w' => e = .returned (.bool b) ∧ w' = w := by
  have c0 := hR.c0
  have hk := hR.top
  clear hR
  by_cases h1 : 0 ≤ n
  · have d1 : decide ((0 : Int) ≤ n) = true := by simpa using h1
    by_cases h2 : n ≤ k
    · have d2 : decide (n ≤ (k : Int)) = true := by simpa using h2
      have d3 : decide ((a : Int) ≤ (k : Int) - n) = b := by rw [Bool.eq_iff_iff, hb]; simp; omega
      have HB := hid hb
      clear hb
      go_enter Try.func41, Try.ntmps41
      go_wp2
      go_ret
      exact ⟨rfl, rfl⟩
    · have d2 : decide (n ≤ (k : Int)) = false := by simpa using h2
      obtain rfl : b = false := by cases b; rfl; have := hb.1 rfl; omega
      go_enter Try.func41, Try.ntmps41
      go_wp2
      go_ret
      exact ⟨rfl, rfl⟩
  · have d1 : decide ((0 : Int) ≤ n) = false := by simpa using h1
    obtain rfl : b = false := by cases b; rfl; have := hb.1 rfl; omega
    go_enter Try.func41, Try.ntmps41
    go_wp2
    go_ret
    exact ⟨rfl, rfl⟩

/-- What reading answers. -/
def Reads (k a : Nat) (n : Int) (bs : List UInt8) (s : ByteArray) (c : Int) : Prop :=
  (n < 0 ∧ s = ⟨#[]⟩ ∧ c = 2) ∨ (0 ≤ n ∧ (k : Int) < a + n ∧ s = ⟨#[]⟩ ∧ c = 10) ∨ (∃ m : Nat, n = m ∧ a + m ≤ k ∧ s = ⟨((bs.drop a).take m).toArray⟩ ∧ c = 0)
theorem rread_any (br bB bL k a : Nat) (n : Int) (l : List (Nat × Nat)) (bs : List UInt8) (w : World) (hR : RefA w br bB bL k l bs) (ha : a < 4294967296) (hn : -9223372036854775808 ≤ n ∧ n ≤ 9223372036854775807) :
    Calls Try.prog 42 #[.pointer (some ⟨br, 0, none⟩), .int .u32 a, .int .i64 n] w fun e w' => ∃ s c, e = .returned (.tuple #[.string s, .int .i64 c]) ∧ Reads k a n bs s c ∧ w' = w := by
  have c0 := hR.c0
  have hk := hR.top
  by_cases h1 : n < 0
  · have d1 : decide (n < (0 : Int)) = true := by simpa using h1
    clear hR
    go_enter Try.func42, Try.ntmps42
    go_wp2
    go_ret2
    exact ⟨_, _, rfl, .inl ⟨h1, rfl, rfl⟩, rfl⟩
  · have d1 : decide (n < (0 : Int)) = false := by simpa using h1
    by_cases h2 : (a : Int) + n ≤ k
    · have H := hid (rin_any br bB bL k a n l bs w hR ha hn.1 true ⟨fun _ => ⟨by omega, h2⟩, fun _ => rfl⟩)
      obtain ⟨m, rfl⟩ : ∃ m : Nat, n = m := ⟨n.toNat, by omega⟩
      by_cases hak : a < k
      · have hcv : ∀ c, (convert 48 9 (.slice (some ⟨bB, a, none⟩) m c)).run Try.prog w = .ok (.string ⟨((bs.drop a).take m).toArray⟩) w := fun c => conv_any w bB a m c bs hR.bytes (by rw [hR.len]; omega)
        clear hR
        go_enter Try.func42, Try.ntmps42
        go_wp2_with (go_at_call 41; refine H.out.mono ?_; rintro e w1 ⟨rfl, hw⟩; subst hw)
        go_ret2
        exact ⟨_, _, rfl, .inr (.inr ⟨m, rfl, by omega, rfl, rfl⟩), rfl⟩
      · obtain rfl : m = 0 := by omega
        obtain rfl : a = k := by omega
        have hcv : ∀ c, (convert 48 9 (.slice (some ⟨bB, 0, none⟩) 0 c)).run Try.prog w = .ok (.string ⟨#[]⟩) w := fun c => by
          have := conv_any w bB 0 0 c bs hR.bytes (by omega)
          simpa using this
        clear hR
        go_enter Try.func42, Try.ntmps42
        go_wp2_with (go_at_call 41; refine H.out.mono ?_; rintro e w1 ⟨rfl, hw⟩; subst hw)
        go_ret2
        exact ⟨_, _, rfl, .inr (.inr ⟨0, rfl, by omega, by simp, rfl⟩), rfl⟩
    · have H := hid (rin_any br bB bL k a n l bs w hR ha hn.1 false ⟨fun h => Bool.noConfusion h, fun h => absurd h.2 h2⟩)
      clear hR
      go_enter Try.func42, Try.ntmps42
      go_wp2_with (go_at_call 41; refine H.out.mono ?_; rintro e w1 ⟨rfl, hw⟩; subst hw)
      go_ret2
      exact ⟨_, _, rfl, .inr (.inl ⟨by omega, by omega, rfl, rfl⟩), rfl⟩

theorem u8_of (y : Nat) (h : y < 256) : (UInt8.ofNat y).toNat = y := by simp [Nat.mod_eq_of_lt h]
theorem or_low (x y : Int) (hx₀ : 0 ≤ x) (hx : x % 256 = 0) (hx₁ : x < 18446744073709551616) (hy₀ : 0 ≤ y) (hy : y < 256) : bits .or .u64 x y = x + y :=
  bits_join .u64 64 (by decide) wraps_u64 8 x y hx₀ hx hx₁ hy₀ hy (by omega)
theorem rval2 (y0 y1 : Nat) (z0 : y0 < 256) (z1 : y1 < 256) (w : World) : Calls Try.prog 69 #[.string ⟨#[UInt8.ofNat y0, UInt8.ofNat y1]⟩] w fun e w' => e = .returned (.int .u64 ((y0 + y1 * 256 : Nat) : Int)) ∧ w' = w := by
  have G0 : ∀ h : 0 < (⟨#[UInt8.ofNat y0, UInt8.ofNat y1]⟩ : ByteArray).size, ((⟨#[UInt8.ofNat y0, UInt8.ofNat y1]⟩ : ByteArray)[0]'h).toNat = y0 := fun h => u8_of y0 z0
  have W0 : IntKind.u64.wrap (y0 : Int) = y0 := wraps_u64 _ (by omega) (by omega)
  have G1 : ∀ h : 1 < (⟨#[UInt8.ofNat y0, UInt8.ofNat y1]⟩ : ByteArray).size, ((⟨#[UInt8.ofNat y0, UInt8.ofNat y1]⟩ : ByteArray)[1]'h).toNat = y1 := fun h => u8_of y1 z1
  have W1 : IntKind.u64.wrap (y1 : Int) = y1 := wraps_u64 _ (by omega) (by omega)
  have o0 : bits .or .u64 0 (y1 : Int) = y1 := by have := or_low 0 (y1 : Int) (by omega) (by omega) (by omega) (by omega) (by omega); rw [this]; omega
  have M0 : IntKind.u64.wrap ((y1 : Int) * 256) = (y1 : Int) * 256 := wraps_u64 _ (by omega) (by omega)
  have J0 : bits .or .u64 ((y1 : Int) * 256) (y0 : Int) = (y1 : Int) * 256 + (y0 : Int) := or_low _ _ (by omega) (by omega) (by omega) (by omega) (by omega)
  go_enter Try.func69, Try.ntmps69
  go_wp2
  refine wp_loop_rounds 3 ?_
  rw [rounds_succ]; go_wp2
  rw [rounds_succ]; go_wp2
  rw [rounds_succ]; go_wp2
  go_ret
  refine ⟨?_, rfl⟩
  simp [G0, G1, W0, W1, o0, M0, J0]
  omega
theorem rval4 (y0 y1 y2 y3 : Nat) (z0 : y0 < 256) (z1 : y1 < 256) (z2 : y2 < 256) (z3 : y3 < 256) (w : World) : Calls Try.prog 69 #[.string ⟨#[UInt8.ofNat y0, UInt8.ofNat y1, UInt8.ofNat y2, UInt8.ofNat y3]⟩] w fun e w' => e = .returned (.int .u64 ((y0 + y1 * 256 + y2 * 65536 + y3 * 16777216 : Nat) : Int)) ∧ w' = w := by
  have G0 : ∀ h : 0 < (⟨#[UInt8.ofNat y0, UInt8.ofNat y1, UInt8.ofNat y2, UInt8.ofNat y3]⟩ : ByteArray).size, ((⟨#[UInt8.ofNat y0, UInt8.ofNat y1, UInt8.ofNat y2, UInt8.ofNat y3]⟩ : ByteArray)[0]'h).toNat = y0 := fun h => u8_of y0 z0
  have W0 : IntKind.u64.wrap (y0 : Int) = y0 := wraps_u64 _ (by omega) (by omega)
  have G1 : ∀ h : 1 < (⟨#[UInt8.ofNat y0, UInt8.ofNat y1, UInt8.ofNat y2, UInt8.ofNat y3]⟩ : ByteArray).size, ((⟨#[UInt8.ofNat y0, UInt8.ofNat y1, UInt8.ofNat y2, UInt8.ofNat y3]⟩ : ByteArray)[1]'h).toNat = y1 := fun h => u8_of y1 z1
  have W1 : IntKind.u64.wrap (y1 : Int) = y1 := wraps_u64 _ (by omega) (by omega)
  have G2 : ∀ h : 2 < (⟨#[UInt8.ofNat y0, UInt8.ofNat y1, UInt8.ofNat y2, UInt8.ofNat y3]⟩ : ByteArray).size, ((⟨#[UInt8.ofNat y0, UInt8.ofNat y1, UInt8.ofNat y2, UInt8.ofNat y3]⟩ : ByteArray)[2]'h).toNat = y2 := fun h => u8_of y2 z2
  have W2 : IntKind.u64.wrap (y2 : Int) = y2 := wraps_u64 _ (by omega) (by omega)
  have G3 : ∀ h : 3 < (⟨#[UInt8.ofNat y0, UInt8.ofNat y1, UInt8.ofNat y2, UInt8.ofNat y3]⟩ : ByteArray).size, ((⟨#[UInt8.ofNat y0, UInt8.ofNat y1, UInt8.ofNat y2, UInt8.ofNat y3]⟩ : ByteArray)[3]'h).toNat = y3 := fun h => u8_of y3 z3
  have W3 : IntKind.u64.wrap (y3 : Int) = y3 := wraps_u64 _ (by omega) (by omega)
  have o0 : bits .or .u64 0 (y3 : Int) = y3 := by have := or_low 0 (y3 : Int) (by omega) (by omega) (by omega) (by omega) (by omega); rw [this]; omega
  have M2 : IntKind.u64.wrap ((y3 : Int) * 256) = (y3 : Int) * 256 := wraps_u64 _ (by omega) (by omega)
  have J2 : bits .or .u64 ((y3 : Int) * 256) (y2 : Int) = (y3 : Int) * 256 + (y2 : Int) := or_low _ _ (by omega) (by omega) (by omega) (by omega) (by omega)
  have M1 : IntKind.u64.wrap (((y3 : Int) * 256 + (y2 : Int)) * 256) = ((y3 : Int) * 256 + (y2 : Int)) * 256 := wraps_u64 _ (by omega) (by omega)
  have J1 : bits .or .u64 (((y3 : Int) * 256 + (y2 : Int)) * 256) (y1 : Int) = ((y3 : Int) * 256 + (y2 : Int)) * 256 + (y1 : Int) := or_low _ _ (by omega) (by omega) (by omega) (by omega) (by omega)
  have M0 : IntKind.u64.wrap ((((y3 : Int) * 256 + (y2 : Int)) * 256 + (y1 : Int)) * 256) = (((y3 : Int) * 256 + (y2 : Int)) * 256 + (y1 : Int)) * 256 := wraps_u64 _ (by omega) (by omega)
  have J0 : bits .or .u64 ((((y3 : Int) * 256 + (y2 : Int)) * 256 + (y1 : Int)) * 256) (y0 : Int) = (((y3 : Int) * 256 + (y2 : Int)) * 256 + (y1 : Int)) * 256 + (y0 : Int) := or_low _ _ (by omega) (by omega) (by omega) (by omega) (by omega)
  go_enter Try.func69, Try.ntmps69
  go_wp2
  refine wp_loop_rounds 5 ?_
  rw [rounds_succ]; go_wp2
  rw [rounds_succ]; go_wp2
  rw [rounds_succ]; go_wp2
  rw [rounds_succ]; go_wp2
  rw [rounds_succ]; go_wp2
  go_ret
  refine ⟨?_, rfl⟩
  simp [G0, G1, G2, G3, W0, W1, W2, W3, o0, M0, M1, M2, J0, J1, J2]
  omega
theorem rval8 (y0 y1 y2 y3 y4 y5 y6 y7 : Nat) (z0 : y0 < 256) (z1 : y1 < 256) (z2 : y2 < 256) (z3 : y3 < 256) (z4 : y4 < 256) (z5 : y5 < 256) (z6 : y6 < 256) (z7 : y7 < 256) (w : World) : Calls Try.prog 69 #[.string ⟨#[UInt8.ofNat y0, UInt8.ofNat y1, UInt8.ofNat y2, UInt8.ofNat y3, UInt8.ofNat y4, UInt8.ofNat y5, UInt8.ofNat y6, UInt8.ofNat y7]⟩] w fun e w' => e = .returned (.int .u64 ((y0 + y1 * 256 + y2 * 65536 + y3 * 16777216 + y4 * 4294967296 + y5 * 1099511627776 + y6 * 281474976710656 + y7 * 72057594037927936 : Nat) : Int)) ∧ w' = w := by
  have G0 : ∀ h : 0 < (⟨#[UInt8.ofNat y0, UInt8.ofNat y1, UInt8.ofNat y2, UInt8.ofNat y3, UInt8.ofNat y4, UInt8.ofNat y5, UInt8.ofNat y6, UInt8.ofNat y7]⟩ : ByteArray).size, ((⟨#[UInt8.ofNat y0, UInt8.ofNat y1, UInt8.ofNat y2, UInt8.ofNat y3, UInt8.ofNat y4, UInt8.ofNat y5, UInt8.ofNat y6, UInt8.ofNat y7]⟩ : ByteArray)[0]'h).toNat = y0 := fun h => u8_of y0 z0
  have W0 : IntKind.u64.wrap (y0 : Int) = y0 := wraps_u64 _ (by omega) (by omega)
  have G1 : ∀ h : 1 < (⟨#[UInt8.ofNat y0, UInt8.ofNat y1, UInt8.ofNat y2, UInt8.ofNat y3, UInt8.ofNat y4, UInt8.ofNat y5, UInt8.ofNat y6, UInt8.ofNat y7]⟩ : ByteArray).size, ((⟨#[UInt8.ofNat y0, UInt8.ofNat y1, UInt8.ofNat y2, UInt8.ofNat y3, UInt8.ofNat y4, UInt8.ofNat y5, UInt8.ofNat y6, UInt8.ofNat y7]⟩ : ByteArray)[1]'h).toNat = y1 := fun h => u8_of y1 z1
  have W1 : IntKind.u64.wrap (y1 : Int) = y1 := wraps_u64 _ (by omega) (by omega)
  have G2 : ∀ h : 2 < (⟨#[UInt8.ofNat y0, UInt8.ofNat y1, UInt8.ofNat y2, UInt8.ofNat y3, UInt8.ofNat y4, UInt8.ofNat y5, UInt8.ofNat y6, UInt8.ofNat y7]⟩ : ByteArray).size, ((⟨#[UInt8.ofNat y0, UInt8.ofNat y1, UInt8.ofNat y2, UInt8.ofNat y3, UInt8.ofNat y4, UInt8.ofNat y5, UInt8.ofNat y6, UInt8.ofNat y7]⟩ : ByteArray)[2]'h).toNat = y2 := fun h => u8_of y2 z2
  have W2 : IntKind.u64.wrap (y2 : Int) = y2 := wraps_u64 _ (by omega) (by omega)
  have G3 : ∀ h : 3 < (⟨#[UInt8.ofNat y0, UInt8.ofNat y1, UInt8.ofNat y2, UInt8.ofNat y3, UInt8.ofNat y4, UInt8.ofNat y5, UInt8.ofNat y6, UInt8.ofNat y7]⟩ : ByteArray).size, ((⟨#[UInt8.ofNat y0, UInt8.ofNat y1, UInt8.ofNat y2, UInt8.ofNat y3, UInt8.ofNat y4, UInt8.ofNat y5, UInt8.ofNat y6, UInt8.ofNat y7]⟩ : ByteArray)[3]'h).toNat = y3 := fun h => u8_of y3 z3
  have W3 : IntKind.u64.wrap (y3 : Int) = y3 := wraps_u64 _ (by omega) (by omega)
  have G4 : ∀ h : 4 < (⟨#[UInt8.ofNat y0, UInt8.ofNat y1, UInt8.ofNat y2, UInt8.ofNat y3, UInt8.ofNat y4, UInt8.ofNat y5, UInt8.ofNat y6, UInt8.ofNat y7]⟩ : ByteArray).size, ((⟨#[UInt8.ofNat y0, UInt8.ofNat y1, UInt8.ofNat y2, UInt8.ofNat y3, UInt8.ofNat y4, UInt8.ofNat y5, UInt8.ofNat y6, UInt8.ofNat y7]⟩ : ByteArray)[4]'h).toNat = y4 := fun h => u8_of y4 z4
  have W4 : IntKind.u64.wrap (y4 : Int) = y4 := wraps_u64 _ (by omega) (by omega)
  have G5 : ∀ h : 5 < (⟨#[UInt8.ofNat y0, UInt8.ofNat y1, UInt8.ofNat y2, UInt8.ofNat y3, UInt8.ofNat y4, UInt8.ofNat y5, UInt8.ofNat y6, UInt8.ofNat y7]⟩ : ByteArray).size, ((⟨#[UInt8.ofNat y0, UInt8.ofNat y1, UInt8.ofNat y2, UInt8.ofNat y3, UInt8.ofNat y4, UInt8.ofNat y5, UInt8.ofNat y6, UInt8.ofNat y7]⟩ : ByteArray)[5]'h).toNat = y5 := fun h => u8_of y5 z5
  have W5 : IntKind.u64.wrap (y5 : Int) = y5 := wraps_u64 _ (by omega) (by omega)
  have G6 : ∀ h : 6 < (⟨#[UInt8.ofNat y0, UInt8.ofNat y1, UInt8.ofNat y2, UInt8.ofNat y3, UInt8.ofNat y4, UInt8.ofNat y5, UInt8.ofNat y6, UInt8.ofNat y7]⟩ : ByteArray).size, ((⟨#[UInt8.ofNat y0, UInt8.ofNat y1, UInt8.ofNat y2, UInt8.ofNat y3, UInt8.ofNat y4, UInt8.ofNat y5, UInt8.ofNat y6, UInt8.ofNat y7]⟩ : ByteArray)[6]'h).toNat = y6 := fun h => u8_of y6 z6
  have W6 : IntKind.u64.wrap (y6 : Int) = y6 := wraps_u64 _ (by omega) (by omega)
  have G7 : ∀ h : 7 < (⟨#[UInt8.ofNat y0, UInt8.ofNat y1, UInt8.ofNat y2, UInt8.ofNat y3, UInt8.ofNat y4, UInt8.ofNat y5, UInt8.ofNat y6, UInt8.ofNat y7]⟩ : ByteArray).size, ((⟨#[UInt8.ofNat y0, UInt8.ofNat y1, UInt8.ofNat y2, UInt8.ofNat y3, UInt8.ofNat y4, UInt8.ofNat y5, UInt8.ofNat y6, UInt8.ofNat y7]⟩ : ByteArray)[7]'h).toNat = y7 := fun h => u8_of y7 z7
  have W7 : IntKind.u64.wrap (y7 : Int) = y7 := wraps_u64 _ (by omega) (by omega)
  have o0 : bits .or .u64 0 (y7 : Int) = y7 := by have := or_low 0 (y7 : Int) (by omega) (by omega) (by omega) (by omega) (by omega); rw [this]; omega
  have M6 : IntKind.u64.wrap ((y7 : Int) * 256) = (y7 : Int) * 256 := wraps_u64 _ (by omega) (by omega)
  have J6 : bits .or .u64 ((y7 : Int) * 256) (y6 : Int) = (y7 : Int) * 256 + (y6 : Int) := or_low _ _ (by omega) (by omega) (by omega) (by omega) (by omega)
  have M5 : IntKind.u64.wrap (((y7 : Int) * 256 + (y6 : Int)) * 256) = ((y7 : Int) * 256 + (y6 : Int)) * 256 := wraps_u64 _ (by omega) (by omega)
  have J5 : bits .or .u64 (((y7 : Int) * 256 + (y6 : Int)) * 256) (y5 : Int) = ((y7 : Int) * 256 + (y6 : Int)) * 256 + (y5 : Int) := or_low _ _ (by omega) (by omega) (by omega) (by omega) (by omega)
  have M4 : IntKind.u64.wrap ((((y7 : Int) * 256 + (y6 : Int)) * 256 + (y5 : Int)) * 256) = (((y7 : Int) * 256 + (y6 : Int)) * 256 + (y5 : Int)) * 256 := wraps_u64 _ (by omega) (by omega)
  have J4 : bits .or .u64 ((((y7 : Int) * 256 + (y6 : Int)) * 256 + (y5 : Int)) * 256) (y4 : Int) = (((y7 : Int) * 256 + (y6 : Int)) * 256 + (y5 : Int)) * 256 + (y4 : Int) := or_low _ _ (by omega) (by omega) (by omega) (by omega) (by omega)
  have M3 : IntKind.u64.wrap (((((y7 : Int) * 256 + (y6 : Int)) * 256 + (y5 : Int)) * 256 + (y4 : Int)) * 256) = ((((y7 : Int) * 256 + (y6 : Int)) * 256 + (y5 : Int)) * 256 + (y4 : Int)) * 256 := wraps_u64 _ (by omega) (by omega)
  have J3 : bits .or .u64 (((((y7 : Int) * 256 + (y6 : Int)) * 256 + (y5 : Int)) * 256 + (y4 : Int)) * 256) (y3 : Int) = ((((y7 : Int) * 256 + (y6 : Int)) * 256 + (y5 : Int)) * 256 + (y4 : Int)) * 256 + (y3 : Int) := or_low _ _ (by omega) (by omega) (by omega) (by omega) (by omega)
  have M2 : IntKind.u64.wrap ((((((y7 : Int) * 256 + (y6 : Int)) * 256 + (y5 : Int)) * 256 + (y4 : Int)) * 256 + (y3 : Int)) * 256) = (((((y7 : Int) * 256 + (y6 : Int)) * 256 + (y5 : Int)) * 256 + (y4 : Int)) * 256 + (y3 : Int)) * 256 := wraps_u64 _ (by omega) (by omega)
  have J2 : bits .or .u64 ((((((y7 : Int) * 256 + (y6 : Int)) * 256 + (y5 : Int)) * 256 + (y4 : Int)) * 256 + (y3 : Int)) * 256) (y2 : Int) = (((((y7 : Int) * 256 + (y6 : Int)) * 256 + (y5 : Int)) * 256 + (y4 : Int)) * 256 + (y3 : Int)) * 256 + (y2 : Int) := or_low _ _ (by omega) (by omega) (by omega) (by omega) (by omega)
  have M1 : IntKind.u64.wrap (((((((y7 : Int) * 256 + (y6 : Int)) * 256 + (y5 : Int)) * 256 + (y4 : Int)) * 256 + (y3 : Int)) * 256 + (y2 : Int)) * 256) = ((((((y7 : Int) * 256 + (y6 : Int)) * 256 + (y5 : Int)) * 256 + (y4 : Int)) * 256 + (y3 : Int)) * 256 + (y2 : Int)) * 256 := wraps_u64 _ (by omega) (by omega)
  have J1 : bits .or .u64 (((((((y7 : Int) * 256 + (y6 : Int)) * 256 + (y5 : Int)) * 256 + (y4 : Int)) * 256 + (y3 : Int)) * 256 + (y2 : Int)) * 256) (y1 : Int) = ((((((y7 : Int) * 256 + (y6 : Int)) * 256 + (y5 : Int)) * 256 + (y4 : Int)) * 256 + (y3 : Int)) * 256 + (y2 : Int)) * 256 + (y1 : Int) := or_low _ _ (by omega) (by omega) (by omega) (by omega) (by omega)
  have M0 : IntKind.u64.wrap ((((((((y7 : Int) * 256 + (y6 : Int)) * 256 + (y5 : Int)) * 256 + (y4 : Int)) * 256 + (y3 : Int)) * 256 + (y2 : Int)) * 256 + (y1 : Int)) * 256) = (((((((y7 : Int) * 256 + (y6 : Int)) * 256 + (y5 : Int)) * 256 + (y4 : Int)) * 256 + (y3 : Int)) * 256 + (y2 : Int)) * 256 + (y1 : Int)) * 256 := wraps_u64 _ (by omega) (by omega)
  have J0 : bits .or .u64 ((((((((y7 : Int) * 256 + (y6 : Int)) * 256 + (y5 : Int)) * 256 + (y4 : Int)) * 256 + (y3 : Int)) * 256 + (y2 : Int)) * 256 + (y1 : Int)) * 256) (y0 : Int) = (((((((y7 : Int) * 256 + (y6 : Int)) * 256 + (y5 : Int)) * 256 + (y4 : Int)) * 256 + (y3 : Int)) * 256 + (y2 : Int)) * 256 + (y1 : Int)) * 256 + (y0 : Int) := or_low _ _ (by omega) (by omega) (by omega) (by omega) (by omega)
  go_enter Try.func69, Try.ntmps69
  go_wp2
  refine wp_loop_rounds 9 ?_
  rw [rounds_succ]; go_wp2
  rw [rounds_succ]; go_wp2
  rw [rounds_succ]; go_wp2
  rw [rounds_succ]; go_wp2
  rw [rounds_succ]; go_wp2
  rw [rounds_succ]; go_wp2
  rw [rounds_succ]; go_wp2
  rw [rounds_succ]; go_wp2
  rw [rounds_succ]; go_wp2
  go_ret
  refine ⟨?_, rfl⟩
  simp [G0, G1, G2, G3, G4, G5, G6, G7, W0, W1, W2, W3, W4, W5, W6, W7, o0, M0, M1, M2, M3, M4, M5, M6, J0, J1, J2, J3, J4, J5, J6]
  omega

/-- The number that a string is, its lowest byte first. -/
theorem rval_le (n x : Nat) (hn : (n = 2 ∧ x < 65536) ∨ (n = 4 ∧ x < 4294967296) ∨ (n = 8 ∧ x < 18446744073709551616)) (w : World) : Calls Try.prog 69 #[.string ⟨(le n x).toArray⟩] w fun e w' => e = .returned (.int .u64 x) ∧ w' = w := by
  rcases hn with ⟨rfl, hx⟩ | ⟨rfl, hx⟩ | ⟨rfl, hx⟩
  · have := rval2 (x % 256) (x / 256) (by omega) (by omega) w
    rwa [le2 x hx, show x % 256 + x / 256 * 256 = x by omega] at this
  · have := rval4 (x % 256) (x / 256 % 256) (x / 65536 % 256) (x / 16777216) (by omega) (by omega) (by omega) (by omega) w
    rwa [le4 x hx, show x % 256 + x / 256 % 256 * 256 + x / 65536 % 256 * 65536 + x / 16777216 * 16777216 = x by omega] at this
  · have := rval8 (x % 256) (x / 256 % 256) (x / 65536 % 256) (x / 16777216 % 256) (x / 4294967296 % 256) (x / 1099511627776 % 256) (x / 281474976710656 % 256) (x / 72057594037927936) (by omega) (by omega) (by omega) (by omega) (by omega) (by omega) (by omega) (by omega) w
    rwa [le8 x hx, show x % 256 + x / 256 % 256 * 256 + x / 65536 % 256 * 65536 + x / 16777216 % 256 * 16777216 + x / 4294967296 % 256 * 4294967296 + x / 1099511627776 % 256 * 1099511627776 + x / 281474976710656 % 256 * 281474976710656 + x / 72057594037927936 * 72057594037927936 = x by omega] at this
/-- Any bytes are those of a number. -/
theorem le_of (us : List UInt8) : ∀ n, us.length = n → ∃ x, x < 256 ^ n ∧ us = le n x := by
  intro n hn
  induction us generalizing n with
  | nil => subst hn; exact ⟨0, by simp, by simp [le]⟩
  | cons u us ih =>
    subst hn
    obtain ⟨x, hx, e⟩ := ih us.length rfl
    refine ⟨u.toNat + 256 * x, ?_, ?_⟩
    · have := UInt8.toNat_lt u
      simp only [List.length_cons, Nat.pow_succ]
      omega
    · unfold le
      rw [List.length_cons, List.range_succ_eq_map, List.map_cons, List.map_map]
      congr 1
      · have := UInt8.toNat_lt u
        simp [Nat.mod_eq_of_lt this]
      · rw [e]
        unfold le
        rw [List.length_map, List.length_range]
        apply List.map_congr_left
        intro i _
        simp only [Function.comp]
        congr 1
        have hu := UInt8.toNat_lt u
        rw [Nat.succ_eq_add_one, Nat.pow_succ, Nat.mul_comm (256 ^ i) 256, ← Nat.div_div_eq_div_mul, show (u.toNat + 256 * x) / 256 = x by omega]
theorem rval_none (w : World) : Calls Try.prog 69 #[.string ⟨#[]⟩] w fun e w' => e = .returned (.int .u64 0) ∧ w' = w := by
  go_enter Try.func69, Try.ntmps69
  go_wp2
  refine wp_loop_rounds 1 ?_
  rw [rounds_succ]; go_wp2
  go_ret
  exact ⟨rfl, rfl⟩

theorem rnum_any (br bB bL k a n : Nat) (l : List (Nat × Nat)) (bs : List UInt8) (w : World) (hR : RefA w br bB bL k l bs) (ha : a < 4294967296) (hn : n = 2 ∨ n = 4 ∨ n = 8) :
    Calls Try.prog 44 #[.pointer (some ⟨br, 0, none⟩), .int .u32 a, .int .i64 n] w fun e w' => ((k < a + n ∧ e = .returned (.tuple #[.int .u64 0, .int .i64 10])) ∨ (∃ x : Nat, a + n ≤ k ∧ x < 256 ^ n ∧ (bs.drop a).take n = le n x ∧ e = .returned (.tuple #[.int .u64 x, .int .i64 0]))) ∧ w' = w := by
  have H := hid (rread_any br bB bL k a n l bs w hR ha (by omega))
  have hl := hR.len
  have HL := hid hl
  clear hR hl
  go_enter Try.func44, Try.ntmps44
  go_wp2_with fail
  refine H.out.mono ?_
  rintro e w1 ⟨s, c, rfl, hR, hw⟩
  subst hw
  rcases hR with ⟨h1, _⟩ | ⟨h1, h2, rfl, rfl⟩ | ⟨m, h1, h2, rfl, rfl⟩
  · omega
  · go_wp2_with fail
    refine (rval_none _).mono ?_
    rintro e w2 ⟨rfl, hw⟩
    subst hw
    go_wp2
    go_ret2
    exact ⟨.inl ⟨by omega, rfl⟩, rfl⟩
  · obtain rfl : m = n := by omega
    obtain ⟨x, hx, e⟩ := le_of ((bs.drop a).take m) m (by rw [List.length_take, List.length_drop, HL.out]; omega)
    have hx' : (m = 2 ∧ x < 65536) ∨ (m = 4 ∧ x < 4294967296) ∨ (m = 8 ∧ x < 18446744073709551616) := by
      rcases hn with h | h | h
      · subst h; exact .inl ⟨rfl, hx⟩
      · subst h; exact .inr (.inl ⟨rfl, hx⟩)
      · subst h; exact .inr (.inr ⟨rfl, hx⟩)
    have HE := hid (show (bs.drop a).take m = le m x from e)
    have HX := hid (show x < 256 ^ m from hx)
    rw [e]
    have HV := hid (rval_le m x hx' w1)
    clear e hx hx'
    go_wp2_with fail
    refine HV.out.mono ?_
    rintro e w2 ⟨rfl, hw⟩
    subst hw
    go_wp2
    go_ret2
    exact ⟨.inr ⟨x, h2, HX.out, HE.out, rfl⟩, rfl⟩
end Go.Proofs.Ytbkfgidmjkbfmaa
