/-
  The walks of the sort of up to twenty tasks and of Tick. No statement is proved here.
-/
import Derived.Test.YtenphgpmdigdcaaSchM
namespace Go.Proofs.Ytenphgpmdigdcaa
open Go.RowKit Go.BigFrame Go.MapKept
set_option linter.unusedVariables false
set_option linter.unusedSimpArgs false
set_option maxRecDepth 1000000
set_option maxHeartbeats 4000000

theorem ins_zero (sp : Option Addr) (n c a : Nat) (w : World) (ha : a ≤ 1000) : Calls Try.prog 52 #[.slice sp n c, .int .i64 (a : Nat), .int .i64 (a : Nat), .func (.func 42) #[] #[]] w fun e w' => e = .returned (.tuple #[]) ∧ w' = w := by
  have h : ¬ (a : Int) + 1 < (a : Int) := by omega
  go_enter Try.func52, Try.ntmps52
  go_wp2_with fail
  refine wp_loop_rounds 1 ?_
  rw [rounds_succ]; go_wp2
  go_end0
  exact ⟨rfl, rfl⟩
/-- The same tasks, in some order. -/
def Sorted (w w' : World) (B : Nat) (v : Value) (A : List Tk) : Prop := ∃ A' : List Tk, A'.Perm A ∧ Own w' B v (A'.map Tk.b) ∧ Fr v.ownBlock.toList w w'
theorem SortI.sorted {w w' : World} {B g n cap : Nat} {A : List Tk} (h : SortI w w' B g n cap A) : Sorted w w' B (.slice (some ⟨g, 0, none⟩) n cap) A := h
theorem SortI.trans {w w1 w2 : World} {B g n cap : Nat} {A : List Tk} (h : SortI w w1 B g n cap A) (k : ∀ A' : List Tk, A'.Perm A → Own w1 B (.slice (some ⟨g, 0, none⟩) n cap) (A'.map Tk.b) → SortI w1 w2 B g n cap A') : SortI w w2 B g n cap A := by
  obtain ⟨A1, h1, h2, h3⟩ := h
  obtain ⟨A2, k1, k2, k3⟩ := k A1 h1 h2
  exact ⟨A2, k1.trans h1, k2, h3.trans k3 (fun t ht => .inl ht)⟩
theorem stable_small (B : Nat) (v : Value) (n : Nat) (A : List Tk) (w : World) (hn : A.length = n) (hO : Own w B v (A.map Tk.b)) (hT : ∀ t ∈ A, TkAt w t) (hl : n ≤ 20) :
    Calls Try.prog 50 #[v, .int .i64 (n : Nat), .func (.func 42) #[] #[]] w fun e w' => e = .returned (.tuple #[]) ∧ Sorted w w' B v A := by
  rcases Nat.eq_zero_or_pos n with h0 | h0
  · subst h0
    obtain rfl := List.length_eq_zero_iff.1 hn
    have HO := hid (p := _) (show Sorted w w B v [] from ⟨[], List.Perm.refl _, hO, Fr.refl _ _⟩)
    obtain ⟨pv, cv, rfl⟩ := ownsRow.form hO
    simp only [List.map_nil, List.length_nil] at *
    clear hO hT hl
    go_enter Try.func50, Try.ntmps50
    go_wp2_with fail
    refine wp_loop_rounds 1 ?_
    rw [rounds_succ]; go_wp2_with (go_at_call 52; refine (ins_zero pv 0 cv 0 _ (by omega)).mono ?_; rintro e w' ⟨rfl, rfl⟩)
    refine wp_loop_rounds 1 ?_
    rw [rounds_succ]; go_wp2
    go_end0
    exact ⟨rfl, HO.out⟩
  · obtain ⟨g, cap, cur, hv, _, _, hcg, _, _, _⟩ := hO.at (by rw [List.length_map]; omega)
    rw [List.length_map, hn] at hv
    subst hv
    have hg : ∀ t ∈ A, t.b ≠ g := fun t ht => blk_ne (hT t ht) hcg (by decide)
    have H52 := hid (p := _) (ins_any w B g n cap 0 n A hn hO hT hg (Nat.le_refl _) (by omega) (by omega))
    have HZ := hid (p := _) (fun W => ins_zero (some ⟨g, 0, none⟩) 20 cap 20 W (by omega))
    clear hO hT hg hcg hn
    by_cases h20 : n < 20
    · have h1 : ¬ (20 : Int) ≤ (n : Int) := by omega
      have h2 : ¬ (20 : Int) < (n : Int) := by omega
      go_enter Try.func50, Try.ntmps50
      go_wp2_with fail
      refine wp_loop_rounds 1 ?_
      rw [rounds_succ]; go_wp2_with (go_at_call 52; refine H52.out.mono ?_; rintro e w5 ⟨rfl, HS⟩)
      refine wp_loop_rounds 1 ?_
      rw [rounds_succ]; go_wp2
      go_end0
      exact ⟨rfl, HS.sorted⟩
    · obtain rfl : n = 20 := by omega
      go_enter Try.func50, Try.ntmps50
      go_wp2_with fail
      refine wp_loop_rounds 2 ?_
      rw [rounds_succ]; go_wp2_with (go_at_call 52; refine H52.out.mono ?_; rintro e w5 ⟨rfl, HS⟩)
      rw [rounds_succ]; go_wp2_with (go_at_call 52; refine (HZ.out _).mono ?_; rintro e w6 ⟨rfl, rfl⟩)
      refine wp_loop_rounds 1 ?_
      rw [rounds_succ]; go_wp2
      go_end0
      exact ⟨rfl, HS.sorted⟩
theorem sort_small (B : Nat) (v : Value) (A : List Tk) (w : World) (hO : Own w B v (A.map Tk.b)) (hT : ∀ t ∈ A, TkAt w t) (hl : A.length ≤ 20) :
    Calls Try.prog 41 #[v, .func (.func 42) #[] #[]] w fun e w' => e = .returned (.tuple #[]) ∧ Sorted w w' B v A := by
  have H := hid (p := _) (stable_small B v A.length A w rfl hO hT hl)
  obtain ⟨pv, cv, rfl⟩ := ownsRow.form hO
  rw [List.length_map] at *
  clear hO hT
  generalize A.length = n at *
  go_enter Try.func41, Try.ntmps41
  go_wp2_with (go_at_call 50; refine H.out.mono ?_; rintro e w5 ⟨rfl, HS⟩)
  go_end0
  exact ⟨rfl, HS⟩
end Go.Proofs.Ytenphgpmdigdcaa
