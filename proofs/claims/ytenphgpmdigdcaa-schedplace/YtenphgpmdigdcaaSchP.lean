/-
  The walk of 'works' of the statements on package sched, and of Next where there is no scheduler. No statement is proved here.
-/
import Derived.Test.YtenphgpmdigdcaaSchO
namespace Go.Proofs.Ytenphgpmdigdcaa
open Go.RowKit Go.BigFrame Go.MapKept
set_option linter.unusedVariables false
set_option linter.unusedSimpArgs false
set_option maxRecDepth 1000000
set_option maxHeartbeats 4000000

theorem Kq.mono {B B' : Nat} {w w' : World} (h : Kq B' w w') (hB : B ≤ B') : Kq B w w' :=
  ⟨h.os, h.tape, h.output, h.size, fun k o hk hc => h.block k o hk (hc.imp (fun h => by omega) id)⟩
theorem next_nil (w : World) : Calls Try.prog 14 #[.pointer none] w fun e w' => e = .returned (.tuple #[.int .u64 0, .bool false]) ∧ w' = w := by
  go_enter Try.func14, Try.ntmps14
  go_wp2_with (go_at_call 33; refine (none_nil _).mono ?_; rintro e w' ⟨rfl, rfl⟩)
  go_ret2
  exact ⟨rfl, rfl⟩
theorem Turn.plain {p n k : Nat} {R : List Tk} (h : Turn p R n k) (hp : ∀ t ∈ R, t.pa < p) : k = n % R.length := by
  rcases h.2 with ⟨hk, h1, _⟩ | h1
  · have := hp _ (List.getElem_mem hk); omega
  · exact h1.2
theorem Turn.first {p n k : Nat} {t : Tk} {R : List Tk} (h : Turn p (t :: R) n k) (hp : p ≤ t.pa) : k = 0 := by
  rcases h.2 with ⟨hk, h1, h2⟩ | h1
  · rcases Nat.eq_zero_or_pos k with h3 | h3
    · exact h3
    · have := h2 0 (by simp) h3
      simp at this; omega
  · have := h1.1 t (by simp); omega
/-- A task that is ready, of a number, passed over so often. -/
def T0 (b id pa : Nat) : Tk := ⟨b, id, 1, 0, pa, 0, 0⟩
def T2 (b id pa : Nat) : Tk := ⟨b, id, 2, 0, pa, 0, 0⟩
section
variable {w : World} {B sb : Nat}
theorem wk_spawn {R : List Tk} (id : Nat) (h : SS w B sb 2 0 R [] none) (hid : id < 10) (hn : ∀ t ∈ R, t.id ≠ id) (hl : R.length < 10) : Calls Try.prog 17 #[.pointer (some ⟨sb, 0, none⟩), .int .u32 (id : Nat)] w fun e w' => e = .returned (.int .i64 0) ∧ ∃ b, SS w' B sb 2 0 (R ++ [T0 b id 0]) [] none ∧ Kq B w w' :=
  spawn_ok h id (by omega) (by
    cases hf : fnd (all R [] none []) id with
    | none => rfl
    | some t => obtain ⟨h1, h2⟩ := fnd_some hf; exact absurd h2 (hn t (by simpa [all] using h1))) (by simp [all]; omega)
theorem wk_pick1 {b1 b2 b3 p1 p2 p3 i1 i2 i3 : Nat} (h : SS w B sb 2 0 [T0 b1 i1 p1, T0 b2 i2 p2, T0 b3 i3 p3] [] none) (h1 : p1 < 2) (h2 : p2 < 2) (h3 : p3 < 2) : Calls Try.prog 18 #[.pointer (some ⟨sb, 0, none⟩), .int .u64 1] w fun e w' => e = .returned (.tuple #[.int .u32 (i2 : Nat), .int .i64 0]) ∧ SS w' B sb 2 0 [T0 b1 i1 (p1 + 1), T0 b3 i3 (p3 + 1)] [] (some (T2 b2 i2 p2)) ∧ Kq B w w' := by
  refine (pick_ok h 1 (by omega) (by simp) (by simp [T0]; omega)).mono ?_
  rintro e w' ⟨k, hk, hT, rfl, hS, hK⟩
  obtain rfl : k = 1 := hT.plain (by simp [T0]; omega)
  exact ⟨rfl, hS, hK⟩
theorem wk_pick0 {b1 b2 b3 p1 p2 p3 i1 i2 i3 : Nat} (h : SS w B sb 2 0 [T0 b1 i1 p1, T0 b2 i2 p2, T0 b3 i3 p3] [] none) (h1 : p1 = 2) (h2 : p2 < 10) (h3 : p3 < 10) : Calls Try.prog 18 #[.pointer (some ⟨sb, 0, none⟩), .int .u64 1] w fun e w' => e = .returned (.tuple #[.int .u32 (i1 : Nat), .int .i64 0]) ∧ SS w' B sb 2 0 [T0 b2 i2 (p2 + 1), T0 b3 i3 (p3 + 1)] [] (some (T2 b1 i1 p1)) ∧ Kq B w w' := by
  refine (pick_ok h 1 (by omega) (by simp) (by simp [T0]; omega)).mono ?_
  rintro e w' ⟨k, hk, hT, rfl, hS, hK⟩
  obtain rfl : k = 0 := hT.first (by simp [T0]; omega)
  exact ⟨rfl, hS, hK⟩
theorem wk_yield {R : List Tk} {b i p : Nat} (h : SS w B sb 2 0 R [] (some (T2 b i p))) : Calls Try.prog 21 #[.pointer (some ⟨sb, 0, none⟩)] w fun e w' => e = .returned (.int .i64 0) ∧ SS w' B sb 2 0 (R ++ [T0 b i 0]) [] none ∧ Kq B w w' := yield_ok h
theorem wk_wait {R : List Tk} {b i p : Nat} (h : SS w B sb 2 0 R [] (some (T2 b i p))) : Calls Try.prog 20 #[.pointer (some ⟨sb, 0, none⟩), .int .u32 7, .int .u64 5] w fun e w' => e = .returned (.int .i64 0) ∧ SS w' B sb 2 0 R [⟨b, i, 3, 0, p, 7, 5⟩] none ∧ Kq B w w' := wait_ok h 7 5 (by omega) (.inr ⟨by omega, by omega⟩)
theorem wk_tick {R : List Tk} {b i p : Nat} (h : SS w B sb 2 0 R [⟨b, i, 3, 0, p, 7, 5⟩] none) : Calls Try.prog 19 #[.pointer (some ⟨sb, 0, none⟩), .int .u64 5] w fun e w' => e = .returned (.int .i64 0) ∧ SS w' B sb 2 5 (R ++ [⟨b, i, 1, 50, 0, 7, 5⟩]) [] none ∧ Kq B w w' := by
  have e : sel (prT 5) [⟨b, i, 3, 0, p, 7, 5⟩] = ([⟨b, i, 3, 0, p, 7, 5⟩], [], 1) := by simp [sel, selS, prT]
  have := tick_ok h 5 (by omega) (by omega) (by rw [e]; simp)
  rw [e] at this
  refine this.mono ?_
  rintro e w' ⟨rfl, ⟨A, hA, hS⟩, hK⟩
  have : A = [⟨b, i, 3, 0, p, 7, 5⟩] := List.perm_singleton.1 hA
  subst this
  exact ⟨rfl, hS, hK⟩
theorem wk_ready {b1 b2 b3 p2 p3 : Nat} (h : SS w B sb 2 5 [T0 b2 2 p2, T0 b3 3 p3, ⟨b1, 1, 1, 50, 0, 7, 5⟩] [] none) : Calls Try.prog 12 #[.pointer (some ⟨sb, 0, none⟩)] w fun e w' => ∃ g cap, e = .returned (.slice (some ⟨g, 0, none⟩) 3 cap) ∧ w'.cell? ⟨g, 2, none⟩ = some (.int .u32 1) ∧ Hid (SS w' B sb 2 5 [T0 b2 2 p2, T0 b3 3 p3, ⟨b1, 1, 1, 50, 0, 7, 5⟩] [] none ∧ Kq B w w') := by
  refine (ready12_any h).mono ?_
  rintro e w' ⟨v, rfl, hO, hF⟩
  rcases hO.2 with ⟨h1, h2⟩ | ⟨g, cap, cur, h1, _⟩
  · simp at h2
  · subst h1
    exact ⟨g, cap, rfl, hO.cell 2 (by simp), h.fr0 hF, hF.kq0⟩
theorem wk_why {b1 b2 b3 p2 p3 : Nat} (h : SS w B sb 2 5 [T0 b2 2 p2, T0 b3 3 p3, ⟨b1, 1, 1, 50, 0, 7, 5⟩] [] none) : Calls Try.prog 25 #[.pointer (some ⟨sb, 0, none⟩), .int .u32 1] w fun e w' => e = .returned (.int .i64 50) ∧ w' = w := why_any h 1
theorem wk_state {b1 b2 b3 p2 p3 : Nat} (h : SS w B sb 2 5 [T0 b2 2 p2, T0 b3 3 p3, ⟨b1, 1, 1, 50, 0, 7, 5⟩] [] none) : Calls Try.prog 23 #[.pointer (some ⟨sb, 0, none⟩), .int .u32 1] w fun e w' => e = .returned (.int .u8 1) ∧ w' = w := state_any h 1
end
theorem works_any (w : World) : Calls Try.prog 7 #[] w fun e w' => e = .returned (.bool true) ∧ Kq w.heap.size w w' := by
  go_enter Try.func7, Try.ntmps7
  go_wp2_with (go_at_call 8; refine (new_ok 2 _ (by omega) (by omega)).mono ?_; rintro e w0 ⟨sb, rfl, hS0, hF0⟩)
  have K0 := hid (p := _) (And.intro (hS0 w.heap.size (Nat.le_refl _)) (hF0.kq0 (B := w.heap.size)))
  clear hS0 hF0
  refine wp_loop_rounds 4 ?_
  rw [rounds_succ]
  go_wp2_with (go_at_call 17; refine (wk_spawn 1 K0.out.1 (by omega) (by simp) (by simp)).mono ?_; rintro e w1 ⟨rfl, b1, h1⟩)
  rw [rounds_succ]
  go_wp2_with (go_at_call 17; refine (wk_spawn 2 h1.1 (by omega) (by simp [T0]) (by simp)).mono ?_; rintro e w2 ⟨rfl, b2, h2⟩)
  rw [rounds_succ]
  go_wp2_with (go_at_call 17; refine (wk_spawn 3 h2.1 (by omega) (by simp [T0]) (by simp)).mono ?_; rintro e w3 ⟨rfl, b3, h3⟩)
  rw [rounds_succ]
  go_wp2_with (go_at_call 18; refine (wk_pick1 h3.1 (by omega) (by omega) (by omega)).mono ?_; rintro e w4 ⟨rfl, h4⟩)
  go_wp2_with (go_at_call 21; refine (wk_yield h4.1).mono ?_; rintro e w5 ⟨rfl, h5⟩)
  go_wp2_with (go_at_call 18; refine (wk_pick1 h5.1 (by omega) (by omega) (by omega)).mono ?_; rintro e w6 ⟨rfl, h6⟩)
  go_wp2_with (go_at_call 21; refine (wk_yield h6.1).mono ?_; rintro e w7 ⟨rfl, h7⟩)
  go_wp2_with (go_at_call 18; refine (wk_pick0 h7.1 (by omega) (by omega) (by omega)).mono ?_; rintro e w8 ⟨rfl, h8⟩)
  go_wp2_with (go_at_call 20; refine (wk_wait h8.1).mono ?_; rintro e w9 ⟨rfl, h9⟩)
  go_wp2_with (go_at_call 19; refine (wk_tick h9.1).mono ?_; rintro e w10 ⟨rfl, h10⟩)
  have KK := hid (p := _) ((((((((((K0.out.2.trans h1.2).trans h2.2).trans h3.2).trans h4.2).trans h5.2).trans h6.2).trans h7.2).trans h8.2).trans h9.2).trans h10.2)
  have HS := hid (p := _) h10.1
  clear h1 h2 h3 h4 h5 h6 h7 h8 h9 h10 K0
  go_wp2_with (first
    | (go_at_call 12; refine (wk_ready HS.out).mono ?_; rintro e w11 ⟨g, cap, rfl, c2, H11⟩)
    | (go_at_call 25; refine (wk_why H11.out.1).mono ?_; rintro e w12 ⟨rfl, hw⟩; subst hw)
    | (go_at_call 23; refine (wk_state H11.out.1).mono ?_; rintro e w12 ⟨rfl, hw⟩; subst hw))
  go_ret
  exact ⟨rfl, KK.out.trans H11.out.2⟩
end Go.Proofs.Ytenphgpmdigdcaa
