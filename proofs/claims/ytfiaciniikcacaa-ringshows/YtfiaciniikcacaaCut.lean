/-
  The walks of what finds lent spans by a binary search in package mem (cut, its two closures, and sort.Search with them): where among the spans that are lent, rising, a span stands.
-/
import Derived.Test.YtfiaciniikcacaaSmall
import Derived.Deep.LoopGhost
namespace Go.Proofs.Ytfiaciniikcacaa
open Go.RowKit Go.BigFrame
set_option linter.unusedVariables false
set_option linter.unusedSimpArgs false
set_option maxRecDepth 100000
set_option maxHeartbeats 1000000

/-- The cells of a list of spans. -/
def flat : List (Nat × Nat) → List Value
  | [] => []
  | x :: l => .int .u32 x.1 :: .int .u32 x.2 :: flat l
theorem flat_length (l : List (Nat × Nat)) : (flat l).length = l.length * 2 := by
  induction l with
  | nil => rfl
  | cons x l ih => simp only [flat, List.length_cons, ih]; omega
theorem flat_fst : ∀ (l : List (Nat × Nat)) (i : Nat) (h : i < l.length), (flat l)[i * 2]? = some (.int .u32 (l[i].1 : Nat))
  | x :: l, 0, _ => rfl
  | x :: l, i + 1, h => by
    have := flat_fst l i (by simpa using h)
    rw [show (i + 1) * 2 = i * 2 + 1 + 1 by omega]
    simpa [flat] using this
theorem flat_snd : ∀ (l : List (Nat × Nat)) (i : Nat) (h : i < l.length), (flat l)[i * 2 + 1]? = some (.int .u32 (l[i].2 : Nat))
  | x :: l, 0, _ => rfl
  | x :: l, i + 1, h => by
    have := flat_snd l i (by simpa using h)
    rw [show (i + 1) * 2 + 1 = (i * 2 + 1) + 1 + 1 by omega]
    simpa [flat] using this
theorem flat_append (l k : List (Nat × Nat)) : flat (l ++ k) = flat l ++ flat k := by
  induction l with
  | nil => rfl
  | cons x l ih => simp [flat, ih]
theorem flat_take : ∀ (l : List (Nat × Nat)) (i : Nat), flat (l.take i) = (flat l).take (i * 2)
  | [], i => by simp [flat]
  | x :: l, 0 => by simp [flat]
  | x :: l, i + 1 => by rw [show (i + 1) * 2 = i * 2 + 1 + 1 by omega]; simp [flat, flat_take l i]
theorem flat_drop : ∀ (l : List (Nat × Nat)) (i : Nat), flat (l.drop i) = (flat l).drop (i * 2)
  | [], i => by simp [flat]
  | x :: l, 0 => by simp [flat]
  | x :: l, i + 1 => by rw [show (i + 1) * 2 = i * 2 + 1 + 1 by omega]; simp [flat, flat_drop l i]
theorem flat_one (l : List (Nat × Nat)) : ∀ u ∈ flat l, u.oneCell' = true := by
  induction l with
  | nil => intro u h; cases h
  | cons x l ih => intro u h; simp only [flat, List.mem_cons] at h; rcases h with rfl | rfl | h; rfl; rfl; exact ih u h

theorem end_fr (a l : Nat) (ha : a + l < 4294967296) (w : World) : Calls Try.prog 68 #[.agg #[.int .u32 a, .int .u32 l]] w fun e w' => e = .returned (.int .u32 ((a : Int) + (l : Int))) ∧ Fr [] w w' :=
  (end_any a l ha w).mono fun _ _ h => ⟨h.1, h.2 ▸ (Fr.refl _ _).alloc _⟩
theorem cut1_any (bp bs bm g i n cap a x y : Nat) (w : World) (hi : i < n)
    (hp : w.cell? ⟨bp, 0, none⟩ = some (.pointer (some ⟨bm, 0, none⟩))) (hs : w.cell? ⟨bs, 0, none⟩ = some (.int .u32 a))
    (hm : w.cell? ⟨bm, 1, none⟩ = some (.slice (some ⟨g, 0, none⟩) n cap))
    (hx : w.cell? ⟨g, i * 2, none⟩ = some (.int .u32 x)) (hy : w.cell? ⟨g, i * 2 + 1, none⟩ = some (.int .u32 y)) (hxy : x + y < 4294967296) :
    Calls Try.prog 80 (#[.int .i64 i] ++ #[.pointer (some ⟨bp, 0, none⟩), .pointer (some ⟨bs, 0, none⟩)]) w fun e w' => e = .returned (.bool (decide ((a : Int) < (x : Int) + (y : Int)))) ∧ Fr [] w w' := by
  have hi' : (i : Int) < (n : Int) := by omega
  have l1 : bs < w.heap.size := World.block_lt_of_cell? w _ hs
  have l2 : bp < w.heap.size := World.block_lt_of_cell? w _ hp
  have l3 : bm < w.heap.size := World.block_lt_of_cell? w _ hm
  have l4 : g < w.heap.size := World.block_lt_of_cell? w _ hx
  go_enter Try.func80, Try.ntmps80
  go_wp2
  refine wp_region_ext (by kernel_rfl) (by kernel_rfl) ?_
  repeat (go_big_quiet_step ((exact Calls.ext_of (end_fr x y hxy _))))
  refine wpQuiet_nil ?_
  rintro _ ⟨xq, rfl⟩
  go_wp2
  go_ret
  exact ⟨rfl, ext_fr _ _⟩
theorem cut2_any (bp bs bm g i n cap a l x : Nat) (w : World) (hi : i < n)
    (hp : w.cell? ⟨bp, 0, none⟩ = some (.pointer (some ⟨bm, 0, none⟩))) (hs : w.cell? ⟨bs, 0, none⟩ = some (.int .u32 a)) (hs2 : w.cell? ⟨bs, 1, none⟩ = some (.int .u32 l))
    (hm : w.cell? ⟨bm, 1, none⟩ = some (.slice (some ⟨g, 0, none⟩) n cap))
    (hx : w.cell? ⟨g, i * 2, none⟩ = some (.int .u32 x)) (hal : a + l < 4294967296) :
    Calls Try.prog 81 (#[.int .i64 i] ++ #[.pointer (some ⟨bp, 0, none⟩), .pointer (some ⟨bs, 0, none⟩)]) w fun e w' => e = .returned (.bool (decide ((a : Int) + (l : Int) ≤ (x : Int)))) ∧ Fr [] w w' := by
  have hi' : (i : Int) < (n : Int) := by omega
  have l1 : bs < w.heap.size := World.block_lt_of_cell? w _ hs
  have l2 : bp < w.heap.size := World.block_lt_of_cell? w _ hp
  have l3 : bm < w.heap.size := World.block_lt_of_cell? w _ hm
  have l4 : g < w.heap.size := World.block_lt_of_cell? w _ hx
  go_enter Try.func81, Try.ntmps81
  go_wp2
  refine wp_region_ext (by kernel_rfl) (by kernel_rfl) ?_
  repeat (go_big_quiet_step ((exact Calls.ext_of (end_fr a l hal _))))
  refine wpQuiet_nil ?_
  rintro _ ⟨xq, rfl⟩
  go_wp2
  go_ret
  exact ⟨rfl, ext_fr _ _⟩

theorem search82 (cb : Array Value) (n : Nat) (p : Nat → Bool) (w : World) (hsz : n ≤ 1048576)
    (hf : ∀ W i, i < n → Fr [] w W → Calls Try.prog 80 (#[.int .i64 i] ++ cb) W fun e W' => e = .returned (.bool (p i)) ∧ Fr [] W W')
    (hmono : ∀ a b, a ≤ b → b < n → p a = true → p b = true) :
    Calls Try.prog 79 #[.int .i64 n, .func (.func 80) #[] cb] w fun e w' => ∃ r, r ≤ n ∧ (∀ a, a < r → p a = false) ∧ (∀ a, r ≤ a → a < n → p a = true) ∧ e = .returned (.int .i64 (r : Nat)) ∧ Fr [] w w' := by
  have HF : Hid _ := hf
  have M : Hid _ := hmono
  clear hf hmono
  go_enter Try.func79, Try.ntmps79
  go_wp2
  go_loopg [5, 6] n (fun kx s5 s6 wr => ∃ (lo hi : Nat), s5 = .int .i64 lo ∧ s6 = .int .i64 hi ∧ lo ≤ hi ∧ hi ≤ n ∧ hi - lo ≤ kx ∧ Fr [] w wr ∧
    Hid ((∀ t, t < lo → p t = false) ∧ (∀ t, hi ≤ t → t < n → p t = true)))
  case atStart => exact ⟨0, n, rfl, rfl, Nat.zero_le _, Nat.le_refl _, by omega, Fr.refl _ _, (⟨fun t ht => absurd ht (Nat.not_lt_zero _), fun t h1 h2 => by omega⟩ : (∀ t, t < 0 → p t = false) ∧ (∀ t, n ≤ t → t < n → p t = true))⟩
  case round =>
    obtain ⟨lo, hi, rfl, rfl, hlh, hin, hg, hfr, I⟩ := hrel
    by_cases hlt : lo < hi
    · have hc := HF.out wr ((lo + hi) / 2) (by omega) hfr
      rw [show (((lo + hi) / 2 : Nat) : Int) = ((lo : Int) + (hi : Int)) / 2 by omega] at hc
      cases hp : p ((lo + hi) / 2) <;> rw [hp] at hc
      · have HP : Hid (p ((lo + hi) / 2) = false) := hp
        clear hp
        go_wp2_with (go_at_call 80; refine hc.mono ?_; rintro e w' ⟨rfl, hfr2⟩)
        go_roundg (hi - ((lo + hi) / 2 + 1))
        case measure => omega
        case rel =>
          have I2 : Hid ((∀ t, t < (lo + hi) / 2 + 1 → p t = false) ∧ (∀ t, hi ≤ t → t < n → p t = true)) := ⟨fun t ht => (by
            cases h : p t with
            | false => rfl
            | true => have := M.out t ((lo + hi) / 2) (by omega) (by omega) h; rw [HP.out] at this; cases this), I.out.2⟩
          exact ⟨(lo + hi) / 2 + 1, hi, by rw [show ((lo : Int) + (hi : Int)) / 2 + 1 = (((lo + hi) / 2 + 1 : Nat) : Int) by omega], rfl, by omega, hin, Nat.le_refl _, hfr.trans0 hfr2, I2⟩
      · have HP : Hid (p ((lo + hi) / 2) = true) := hp
        clear hp
        go_wp2_with (go_at_call 80; refine hc.mono ?_; rintro e w' ⟨rfl, hfr2⟩)
        go_roundg ((lo + hi) / 2 - lo)
        case measure => omega
        case rel =>
          have I2 : Hid ((∀ t, t < lo → p t = false) ∧ (∀ t, (lo + hi) / 2 ≤ t → t < n → p t = true)) := ⟨I.out.1, fun t ht htn => M.out ((lo + hi) / 2) t ht htn HP.out⟩
          exact ⟨lo, (lo + hi) / 2, rfl, by rw [show ((lo : Int) + (hi : Int)) / 2 = (((lo + hi) / 2 : Nat) : Int) by omega], by omega, by omega, Nat.le_refl _, hfr.trans0 hfr2, I2⟩
    · obtain rfl : hi = lo := by omega
      go_wp2
      go_ret
      exact ⟨hi, hin, I.out.1, I.out.2, rfl, hfr⟩
end Go.Proofs.Ytfiaciniikcacaa
