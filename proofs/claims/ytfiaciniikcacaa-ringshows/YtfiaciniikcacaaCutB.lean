/-
  The walk of 'cut' of package mem: what is lent, parted by a span that is not empty.
-/
import Derived.Test.YtfiaciniikcacaaCut
namespace Go.Proofs.Ytfiaciniikcacaa
open Go.RowKit
set_option linter.unusedVariables false
set_option linter.unusedSimpArgs false
set_option maxRecDepth 100000
set_option maxHeartbeats 1000000

theorem search83 (cb : Array Value) (n : Nat) (p : Nat → Bool) (w : World) (hsz : n ≤ 1048576)
    (hf : ∀ W i, i < n → Fr [] w W → Calls Try.prog 81 (#[.int .i64 i] ++ cb) W fun e W' => e = .returned (.bool (p i)) ∧ Fr [] W W')
    (hmono : ∀ a b, a ≤ b → b < n → p a = true → p b = true) :
    Calls Try.prog 79 #[.int .i64 n, .func (.func 81) #[] cb] w fun e w' => ∃ r, r ≤ n ∧ (∀ a, a < r → p a = false) ∧ (∀ a, r ≤ a → a < n → p a = true) ∧ e = .returned (.int .i64 (r : Nat)) ∧ Fr [] w w' := by
  have HF : Hid _ := hf
  have M : Hid _ := hmono
  clear hf hmono
  go_enter Try.func79, Try.ntmps79
  go_wp2
  go_loopg [5, 6] n (fun kx s5 s6 wr => ∃ (lo hi : Nat), s5 = .int .i64 lo ∧ s6 = .int .i64 hi ∧ lo ≤ hi ∧ hi ≤ n ∧ hi - lo ≤ kx ∧ Fr [] w wr ∧
    Hid ((∀ t, t < lo → p t = false) ∧ (∀ t, hi ≤ t → t < n → p t = true)))
  case atStart => exact ⟨0, n, rfl, rfl, Nat.zero_le _, Nat.le_refl _, by omega, Fr.refl _ _, (⟨fun t ht => absurd ht (Nat.not_lt_zero _), fun t h1 h2 => by omega⟩ : (∀ t, t < 0 → p t = false) ∧ (∀ t, n ≤ t → t < n → p t = true))⟩
  case round =>
    obtain ⟨lo, hi, rfl, rfl, hlh, hin, hg, hfr, I⟩ := hrel
    by_cases hlt : lo < hi
    · have hc := HF.out wr ((lo + hi) / 2) (by omega) hfr
      rw [show (((lo + hi) / 2 : Nat) : Int) = ((lo : Int) + (hi : Int)) / 2 by omega] at hc
      cases hp : p ((lo + hi) / 2) <;> rw [hp] at hc
      · have HP : Hid (p ((lo + hi) / 2) = false) := hp
        clear hp
        go_wp2_with (go_at_call 81; refine hc.mono ?_; rintro e w' ⟨rfl, hfr2⟩)
        go_roundg (hi - ((lo + hi) / 2 + 1))
        case measure => omega
        case rel =>
          have I2 : Hid ((∀ t, t < (lo + hi) / 2 + 1 → p t = false) ∧ (∀ t, hi ≤ t → t < n → p t = true)) := ⟨fun t ht => (by
            cases h : p t with
            | false => rfl
            | true => have := M.out t ((lo + hi) / 2) (by omega) (by omega) h; rw [HP.out] at this; cases this), I.out.2⟩
          exact ⟨(lo + hi) / 2 + 1, hi, by rw [show ((lo : Int) + (hi : Int)) / 2 + 1 = (((lo + hi) / 2 + 1 : Nat) : Int) by omega], rfl, by omega, hin, Nat.le_refl _, hfr.trans0 hfr2, I2⟩
      · have HP : Hid (p ((lo + hi) / 2) = true) := hp
        clear hp
        go_wp2_with (go_at_call 81; refine hc.mono ?_; rintro e w' ⟨rfl, hfr2⟩)
        go_roundg ((lo + hi) / 2 - lo)
        case measure => omega
        case rel =>
          have I2 : Hid ((∀ t, t < lo → p t = false) ∧ (∀ t, (lo + hi) / 2 ≤ t → t < n → p t = true)) := ⟨I.out.1, fun t ht htn => M.out ((lo + hi) / 2) t ht htn HP.out⟩
          exact ⟨lo, (lo + hi) / 2, rfl, by rw [show ((lo : Int) + (hi : Int)) / 2 = (((lo + hi) / 2 : Nat) : Int) by omega], by omega, by omega, Nat.le_refl _, hfr.trans0 hfr2, I2⟩
    · obtain rfl : hi = lo := by omega
      go_wp2
      go_ret
      exact ⟨hi, hin, I.out.1, I.out.2, rfl, hfr⟩

theorem hid {p : Prop} (h : p) : Hid p := h
/-- The place and the length of the span at an index. -/
def fs (l : List (Nat × Nat)) (i : Nat) : Nat := (l.getD i (0, 0)).1
def sn (l : List (Nat × Nat)) (i : Nat) : Nat := (l.getD i (0, 0)).2
theorem flat_fs (l : List (Nat × Nat)) (i : Nat) (h : i < l.length) : (flat l)[i * 2]? = some (.int .u32 (fs l i : Nat)) := by
  rw [flat_fst l i h]; simp [fs, h]
theorem flat_sn (l : List (Nat × Nat)) (i : Nat) (h : i < l.length) : (flat l)[i * 2 + 1]? = some (.int .u32 (sn l i : Nat)) := by
  rw [flat_snd l i h]; simp [sn, h]

/-- The cells of a list of spans in a block. -/
def RowAt (w : World) (g : Nat) (l : List (Nat × Nat)) : Prop := ∀ i, i < l.length → w.cell? ⟨g, i * 2, none⟩ = some (.int .u32 (fs l i : Nat)) ∧ w.cell? ⟨g, i * 2 + 1, none⟩ = some (.int .u32 (sn l i : Nat))
theorem RowAt.fr {S : List Nat} {w w' : World} {g : Nat} {l : List (Nat × Nat)} (h : RowAt w g l) (hf : Fr S w w') (hg : g ∉ S) : RowAt w' g l :=
  fun i hi => ⟨hf.cell (h i hi).1 hg, hf.cell (h i hi).2 hg⟩

/-- A part of a row of spans, as slicing leaves it. -/
def so (i k : Nat) : Nat := if k = 0 then 0 else i * 2
/-- Where a span stands among spans that rise: those ahead of it, those that have bytes of it, those behind it. -/
structure Cuts (l : List (Nat × Nat)) (a n i j : Nat) : Prop where
  ij : i ≤ j
  jn : j ≤ l.length
  ahead : ∀ k, k < i → fs l k + sn l k ≤ a
  ends : ∀ k, i ≤ k → k < l.length → a < fs l k + sn l k
  begins : ∀ k, k < j → fs l k < a + n
  behind : ∀ k, j ≤ k → k < l.length → a + n ≤ fs l k

theorem cut_row (bm g cap a n : Nat) (l : List (Nat × Nat)) (w : World) (hn : 1 ≤ n) (hal : a + n < 4294967296) (hl : l.length ≤ 1048576) (hcap : l.length ≤ cap)
    (hm : w.cell? ⟨bm, 1, none⟩ = some (.slice (some ⟨g, 0, none⟩) l.length cap)) (hg : RowAt w g l)
    (he : ∀ i, i < l.length → fs l i + sn l i < 4294967296)
    (hmo : ∀ i j, i ≤ j → j < l.length → fs l i ≤ fs l j ∧ fs l i + sn l i ≤ fs l j + sn l j) :
    Calls Try.prog 67 #[.pointer (some ⟨bm, 0, none⟩), .agg #[.int .u32 a, .int .u32 n]] w fun e w' => ∃ i j, Cuts l a n i j ∧
      e = .returned (.tuple #[.slice (some ⟨g, 0, none⟩) i i, .slice (some ⟨g, so i (j - i), none⟩) (j - i) (j - i), .slice (some ⟨g, so j (l.length - j), none⟩) (l.length - j) (l.length - j)]) ∧ Fr [] w w' := by
  have l1 : bm < w.heap.size := World.block_lt_of_cell? w _ hm
  obtain ⟨W0, hW0⟩ : ∃ W0, W0 = (w.alloc (.cells #[.pointer (some ⟨bm, 0, none⟩)] 72)).alloc (.cells #[.int .u32 a, .int .u32 n] 83) := ⟨_, rfl⟩
  have hF0 : Fr [] w W0 := by rw [hW0]; exact ((Fr.refl _ _).alloc _).alloc _
  have cp : W0.cell? ⟨w.heap.size, 0, none⟩ = some (.pointer (some ⟨bm, 0, none⟩)) := by rw [hW0]; simp
  have ca : W0.cell? ⟨w.heap.size + 1, 0, none⟩ = some (.int .u32 a) := by rw [hW0]; simp
  have cn : W0.cell? ⟨w.heap.size + 1, 1, none⟩ = some (.int .u32 n) := by rw [hW0]; simp
  have cm : W0.cell? ⟨bm, 1, none⟩ = some (.slice (some ⟨g, 0, none⟩) l.length cap) := hF0.cell hm (by simp)
  have cg : RowAt W0 g l := hg.fr hF0 (by simp)
  have h1 := search82 #[.pointer (some ⟨w.heap.size, 0, none⟩), .pointer (some ⟨w.heap.size + 1, 0, none⟩)] l.length (fun i => decide ((a : Int) < (fs l i : Int) + (sn l i : Int))) W0 hl
    (fun W i hi hF => cut1_any w.heap.size (w.heap.size + 1) bm g i l.length cap a (fs l i) (sn l i) W hi (hF.cell cp (by simp)) (hF.cell ca (by simp)) (hF.cell cm (by simp)) ((cg.fr hF (by simp)) i hi).1 ((cg.fr hF (by simp)) i hi).2 (he i hi))
    (fun x y hxy hy h => by have := hmo x y hxy hy; simp at h ⊢; omega)
  have h2 := fun W (hF : Fr [] W0 W) => search83 #[.pointer (some ⟨w.heap.size, 0, none⟩), .pointer (some ⟨w.heap.size + 1, 0, none⟩)] l.length (fun i => decide ((a : Int) + (n : Int) ≤ (fs l i : Int))) W hl
    (fun W' i hi hF' => cut2_any w.heap.size (w.heap.size + 1) bm g i l.length cap a n (fs l i) W' hi (hF'.cell (hF.cell cp (by simp)) (by simp)) (hF'.cell (hF.cell ca (by simp)) (by simp)) (hF'.cell (hF.cell cn (by simp)) (by simp)) (hF'.cell (hF.cell cm (by simp)) (by simp)) ((cg.fr (hF.trans0 hF') (by simp)) i hi).1 hal)
    (fun x y hxy hy h => by have := hmo x y hxy hy; simp at h ⊢; omega)
  have H1 := hid h1
  have H2 := hid h2
  have HC : Hid (RowAt W0 g l) := cg
  clear h1 h2 hg cg hmo he
  have hlc : (l.length : Int) ≤ (cap : Int) := by omega
  go_enter Try.func67, Try.ntmps67
  go_wp2_with fail
  rw [← hW0]
  refine H1.out.mono ?_
  rintro e W1 ⟨i, hi, hi1, hi2, rfl, hF1⟩
  have cp1 := hF1.cell cp (by simp)
  have cm1 := hF1.cell cm (by simp)
  have I1 := hid hi1
  have I2 := hid hi2
  clear hi1 hi2
  go_wp2_with fail
  refine (H2.out W1 hF1).mono ?_
  rintro e W2 ⟨j, hj, hj1, hj2, rfl, hF2⟩
  have cp2 := hF2.cell cp1 (by simp)
  have cm2 := hF2.cell cm1 (by simp)
  have hij : i ≤ j := by
    rcases Nat.lt_or_ge j i with h | h
    · have e1 := I1.out j h; have e2 := hj2 j (Nat.le_refl _) (by omega); simp at e1 e2; omega
    · exact h
  have C : Cuts l a n i j := ⟨hij, hj, fun k hk => by have := I1.out k hk; simp at this; omega, fun k hk hl => by have := I2.out k hk hl; simp at this; omega, fun k hk => by have := hj1 k hk; simp at this; omega, fun k hk hl => by have := hj2 k hk hl; simp at this; omega⟩
  clear hj1 hj2 I1 I2 H1 H2
  have hFF : Fr [] w W2 := (hF0.trans0 hF1).trans0 hF2
  have z1 : (i : Int) ≤ (cap : Int) := by omega
  have z2 : (j : Int) ≤ (cap : Int) := by omega
  have z3 : (i : Int) ≤ (j : Int) := by omega
  have z4 : (j : Int) ≤ (l.length : Int) := by omega
  go_wp2
  by_cases e1 : j = i
  · subst e1
    by_cases e2 : l.length = j
    · have y1 : (j : Int) = (l.length : Int) := by omega
      go_quiet (fail)
      go_wp2
      go_ret3
      exact ⟨j, j, C, by simp [so, e2], hFF.drewN _⟩
    · have y1 : (j : Int) < (l.length : Int) := by omega
      have y2 : ¬ l.length - j = 0 := by omega
      go_quiet (fail)
      go_wp2
      go_ret3
      exact ⟨j, j, C, by simp [so, y2], hFF.drewN _⟩
  · have x1 : (i : Int) < (j : Int) := by omega
    have x2 : ¬ j - i = 0 := by omega
    by_cases e2 : l.length = j
    · have y1 : (j : Int) = (l.length : Int) := by omega
      go_quiet (fail)
      go_wp2
      go_ret3
      exact ⟨i, j, C, by simp [so, x2, e2], hFF.drewN _⟩
    · have y1 : (j : Int) < (l.length : Int) := by omega
      have y2 : ¬ l.length - j = 0 := by omega
      go_quiet (fail)
      go_wp2
      go_ret3
      exact ⟨i, j, C, by simp [so, x2, y2], hFF.drewN _⟩
theorem cut_nil (bm a n : Nat) (w : World) (hm : w.cell? ⟨bm, 1, none⟩ = some (.slice none 0 0)) :
    Calls Try.prog 67 #[.pointer (some ⟨bm, 0, none⟩), .agg #[.int .u32 a, .int .u32 n]] w fun e w' => e = .returned (.tuple #[.slice none 0 0, .slice none 0 0, .slice none 0 0]) ∧ Fr [] w w' := by
  have l1 : bm < w.heap.size := World.block_lt_of_cell? w _ hm
  obtain ⟨W0, hW0⟩ : ∃ W0, W0 = (w.alloc (.cells #[.pointer (some ⟨bm, 0, none⟩)] 72)).alloc (.cells #[.int .u32 a, .int .u32 n] 83) := ⟨_, rfl⟩
  have hF0 : Fr [] w W0 := by rw [hW0]; exact ((Fr.refl _ _).alloc _).alloc _
  have cp : W0.cell? ⟨w.heap.size, 0, none⟩ = some (.pointer (some ⟨bm, 0, none⟩)) := by rw [hW0]; simp
  have cm : W0.cell? ⟨bm, 1, none⟩ = some (.slice none 0 0) := hF0.cell hm (by simp)
  have H1 := hid (search82 #[.pointer (some ⟨w.heap.size, 0, none⟩), .pointer (some ⟨w.heap.size + 1, 0, none⟩)] 0 (fun _ => true) W0 (by omega) (fun W i hi hF => by omega) (fun x y hxy hy h => h))
  have H2 := hid (fun W => search83 #[.pointer (some ⟨w.heap.size, 0, none⟩), .pointer (some ⟨w.heap.size + 1, 0, none⟩)] 0 (fun _ => true) W (by omega) (fun W i hi hF => by omega) (fun x y hxy hy h => h))
  go_enter Try.func67, Try.ntmps67
  go_wp2_with fail
  rw [← hW0]
  refine H1.out.mono ?_
  rintro e W1 ⟨i, hi, hi1, hi2, rfl, hF1⟩
  have cp1 := hF1.cell cp (by simp)
  have cm1 := hF1.cell cm (by simp)
  obtain rfl : i = 0 := by omega
  clear hi1 hi2
  go_wp2_with fail
  refine (H2.out W1).mono ?_
  rintro e W2 ⟨j, hj, hj1, hj2, rfl, hF2⟩
  have cp2 := hF2.cell cp1 (by simp)
  have cm2 := hF2.cell cm1 (by simp)
  obtain rfl : j = 0 := by omega
  clear hj1 hj2 H1 H2
  have hFF : Fr [] w W2 := (hF0.trans0 hF1).trans0 hF2
  go_wp2
  go_quiet (fail)
  go_wp2
  go_ret3
  exact ⟨rfl, hFF.drewN _⟩
end Go.Proofs.Ytfiaciniikcacaa
