/-
  The walks of turn and Pick of package sched. No statement is proved here.
-/
import Derived.Test.YtenphgpmdigdcaaSchG
namespace Go.Proofs.Ytenphgpmdigdcaa
open Go.RowKit Go.BigFrame Go.MapKept
set_option linter.unusedVariables false
set_option linter.unusedSimpArgs false
set_option maxRecDepth 1000000
set_option maxHeartbeats 4000000

/-- Whose turn it is. -/
def Turn (p : Nat) (R : List Tk) (n k : Nat) : Prop := k < R.length ∧ (LateAt p R k ∨ ((∀ t ∈ R, t.pa < p) ∧ k = n % R.length))
section
variable {w w' : World} {B sb mb : Nat} {vr vw : Value} {p now : Nat} {R W : List Tk} {X : Option Tk} {F : List Tk} {ts : List (Nat × Nat)}
theorem turn_any (h : SI w B sb mb vr vw p now R W X F ts) (hR : 0 < R.length) (n : Nat) (hn : n < 18446744073709551616) : Calls Try.prog 37 #[.pointer (some ⟨sb, 0, none⟩), .int .u64 (n : Nat)] w fun e w' => ∃ k : Nat, e = .returned (.int .i64 (k : Nat)) ∧ Turn p R n k ∧ Fr [] w w' := by
  have hl : R.length ≤ 256 := by have := h.num.2.2.2; simp [all] at this; omega
  obtain ⟨g, cap, cur, hv, _, _, _, _, _, _⟩ := h.row.at (by rw [List.length_map]; exact hR)
  rw [List.length_map] at hv
  subst hv
  have F0 : Fr [] w (w.alloc (.cells #[.pointer (some ⟨sb, 0, none⟩)] 24)) := (Fr.refl _ _).alloc _
  have hb0 := heap_alloc_new w (.cells #[.pointer (some ⟨sb, 0, none⟩)] 24)
  have h1 := h.fr0 F0
  have c3 := h1.cells.2.2.2.1
  have H49 := hid (p := _) (index_any B sb p g cap w.heap.size R _ (cell_of_heap hb0 rfl) h1.cells.1 (fun t ht => h1.tk t (mem_all.2 (.inl ht))) h1.row hl)
  have HC3 := hid (p := _) (fun (W : World) (hF : Fr [] (w.alloc (.cells #[.pointer (some ⟨sb, 0, none⟩)] 24)) W) => And.intro (h1.fr0 hF).cells.2.2.2.1 (cell_of_heap (o := 0) (hF.heap hb0 (by simp)) rfl))
  have HF0 := hid (p := _) F0
  have d0 := cell_of_heap (o := 0) hb0 rfl
  clear h h1 hb0 F0
  by_cases hex : ∃ k, LateAt p R k
  · have H := hid (p := _) (H49.out.mono (R' := fun e w' => ∃ k : Nat, e = .returned (.int .i64 (k : Nat)) ∧ Hid (LateAt p R k) ∧ Fr [] (w.alloc (.cells #[.pointer (some ⟨sb, 0, none⟩)] 24)) w') (fun e w' ⟨r, h1, h2, h3⟩ => by
      rcases h2 with ⟨k, rfl, hk⟩ | ⟨rfl, hk⟩
      · exact ⟨k, h1, hk, h3⟩
      · obtain ⟨k, hk1, hk2, _⟩ := hex
        have := hk _ (List.getElem_mem hk1); omega))
    clear hex H49
    go_enter Try.func37, Try.ntmps37
    go_wp2_with (go_at_call 49; refine H.out.mono ?_; rintro e w5 ⟨k, rfl, HK, hF5⟩; have hk0 : (0 : Int) ≤ (k : Int) := Int.natCast_nonneg k)
    go_ret
    exact ⟨k, rfl, ⟨HK.out.1, .inl HK.out⟩, HF0.out.trans0 hF5⟩
  · have H := hid (p := _) (H49.out.mono (R' := fun e w' => e = .returned (.int .i64 (-1)) ∧ Hid (∀ t ∈ R, t.pa < p) ∧ Hid (Fr [] (w.alloc (.cells #[.pointer (some ⟨sb, 0, none⟩)] 24)) w') ∧ w'.cell? ⟨sb, 3, none⟩ = some (.slice (some ⟨g, 0, none⟩) R.length cap) ∧ w'.cell? ⟨w.heap.size, 0, none⟩ = some (.pointer (some ⟨sb, 0, none⟩))) (fun e w' ⟨r, h1, h2, h3⟩ => by
      rcases h2 with ⟨k, rfl, hk⟩ | ⟨rfl, hk⟩
      · exact absurd ⟨k, hk⟩ hex
      · exact ⟨h1, hk, h3, (HC3.out w' h3).1, (HC3.out w' h3).2⟩))
    clear hex H49 HC3
    have e1 : ((R.length : Int) == 0) = false := beq_eq_false_iff_ne.2 (by omega)
    have e2 : IntKind.u64.wrap (R.length : Int) = (R.length : Int) := by rw [IntKind.wrap_u64]; omega
    have e3 : (n : Int) % (R.length : Int) = ((n % R.length : Nat) : Int) := by omega
    have e4 : n % R.length < R.length := Nat.mod_lt _ hR
    have e5 : IntKind.i64.wrap ((n : Int) % (R.length : Int)) = (n : Int) % (R.length : Int) := by rw [e3, IntKind.wrap_i64]; omega
    have E := hid (p := _) (And.intro e3 e4)
    clear hl hn e4 e3
    go_enter Try.func37, Try.ntmps37
    go_wp2_with (go_at_call 49; refine H.out.mono ?_; rintro e w5 ⟨rfl, HK, HF5, d3, d4⟩)
    go_ret
    exact ⟨n % R.length, congrArg (fun z => Ending.returned (.int .i64 z)) E.out.1, ⟨E.out.2, .inr ⟨HK.out, rfl⟩⟩, HF0.out.trans0 HF5.out⟩
end
end Go.Proofs.Ytenphgpmdigdcaa
