/-
  The walk of Ready of package sched. No statement is proved here.
-/
import Derived.Test.YtenphgpmdigdcaaSchE
namespace Go.Proofs.Ytenphgpmdigdcaa
open Go.RowKit Go.BigFrame Go.MapKept
set_option linter.unusedVariables false
set_option linter.unusedSimpArgs false
set_option maxRecDepth 1000000
set_option maxHeartbeats 4000000

def nv (k : Nat) : Value := .int .u32 (k : Nat)
def nvs (ks : List Nat) : List Value := ks.map nv
/-- A row of numbers of a slice of one's own. -/
abbrev Own32 (w : World) (B : Nat) (v : Value) (ks : List Nat) : Prop := w.ownsRow B 35 1 v ks.length (nvs ks)
theorem own_fr {w wr w' : World} {t s : Nat} {v : Value} {n : Nat} {xs : List Value} (hF : Fr [] w wr) (h : wr.ownsRow w.heap.size t s v n xs) (hF' : Fr v.ownBlock.toList wr w') : Fr [] w w' :=
  hF.trans hF' (fun g hg => .inr (h.lt g (by simpa using hg)).1)
theorem Own32.cell {w : World} {ks : List Nat} {B g n cap : Nat} (h : Own32 w B (.slice (some ⟨g, 0, none⟩) n cap) ks) (i : Nat) (hi : i < ks.length) : w.cell? ⟨g, i, none⟩ = some (.int .u32 (ks[i] : Nat)) := by
  rcases h.2 with ⟨h1, h2⟩ | ⟨g, cap, cur, h1, h2, h3, h4, h5, h6, h7⟩
  · omega
  · cases h1
    refine cell_of_heap h3 ?_
    have : (cur.toList.take (ks.length * 1))[i]? = some (nv ks[i]) := by rw [h7]; simp [nvs, hi]
    rw [List.getElem?_take, if_pos (by omega)] at this
    simpa [nv] using this
theorem run_app32 (w : World) (B : Nat) (v : Value) (ks : List Nat) (hO : Own32 w B v ks) (k : Nat) (hl : ks.length ≤ 100000) (hB : B ≤ w.heap.size) :
    ∃ v' w', (Builtin.append_ #[31, 31] 31 #[v, .slice (some ⟨w.heap.size, 0, none⟩) 1 1]).run Try.prog (w.alloc (.cells #[.int .u32 (k : Nat)] 35)) = .ok v' w' ∧ Own32 w' B v' (ks ++ [k]) ∧ Fr v.ownBlock.toList w w' := by
  obtain ⟨i, hi, hz, hsz, hb⟩ := info35
  have hn := heap_alloc_new w (.cells #[.int .u32 (k : Nat)] 35)
  obtain ⟨v', w', q1, q2, q3, q4⟩ := run_append_own (P := Try.prog) (w.alloc (.cells #[.int .u32 (k : Nat)] 35)) B 31 31 35 i (.int .u32 0) 1 4 Try.underlying31 hi hz hsz hb rfl (by omega) v ks.length (nvs ks) (hO.alloc _) ⟨w.heap.size, 0, none⟩ 1 1 [nv k] rfl (fun j u hj => by
      have : j = 0 := by
        rcases j with _ | j
        · rfl
        · simp at hj
      subst this
      simp [nv] at hj
      subst hj
      exact cell_of_heap (by simpa using hn) rfl) (by simp [nv]; rfl) (by simp [maxLen]; omega) (by omega) (by simp; omega)
  refine ⟨v', w', q1, ?_, ?_⟩
  · unfold Own32
    have : nvs (ks ++ [k]) = nvs ks ++ [nv k] := by simp [nvs]
    rw [this, List.length_append]; exact q2
  · exact ((Fr.refl _ w).alloc _).trans (Fr.ofGrown q3) (fun t ht => .inl ht)
section
variable {w w' : World} {B sb mb : Nat} {vr vw : Value} {p now : Nat} {R W : List Tk} {X : Option Tk} {F : List Tk} {ts : List (Nat × Nat)}
theorem ready12_nil (w : World) : Calls Try.prog 12 #[.pointer none] w fun e w' => e = .returned (.slice none 0 0) ∧ w' = w := by
  go_enter Try.func12, Try.ntmps12
  go_wp2_with (go_at_call 33; refine (none_nil _).mono ?_; rintro e w' ⟨rfl, rfl⟩)
  go_ret
  exact ⟨rfl, rfl⟩
theorem ready12_any (h : SS w B sb p now R W X) : Calls Try.prog 12 #[.pointer (some ⟨sb, 0, none⟩)] w fun e w' => ∃ v, e = .returned v ∧ Own32 w' w.heap.size v (R.map Tk.id) ∧ Fr [] w w' := by
  obtain ⟨mb, vr, vw, ts, h⟩ := h
  have hp := h.num.1
  obtain ⟨c0, _, _, c3, _, _, _⟩ := h.cells
  have hl : R.length ≤ 256 := by have := h.num.2.2.2; simp [all] at this; omega
  have HT := hid (p := _) (fun (wr : World) (hF : Fr [] w wr) (i : Nat) (hi : i < R.length) => (h.tk R[i] (mem_all.2 (.inl (List.getElem_mem hi)))).fr hF (by simp))
  rcases Nat.eq_zero_or_pos R.length with h0 | h0
  · obtain ⟨pr, cr, rfl⟩ := ownsRow.form h.row
    obtain rfl := List.length_eq_zero_iff.1 h0
    simp only [List.map_nil, List.length_nil] at c3
    clear h HT
    go_enter Try.func12, Try.ntmps12
    go_wp2_with (go_at_call 33; refine (none_no sb p _ c0 hp).mono ?_; rintro e w' ⟨rfl, rfl⟩)
    refine wp_loop_rounds 1 ?_
    rw [rounds_succ]; go_wp2
    go_ret
    exact ⟨_, rfl, World.ownsRow_nil _ _ _ _, Fr.refl _ _⟩
  · have hrow := h.row
    obtain ⟨g, cap, cur, hv, _, _, _, _, _, _⟩ := hrow.at (by rw [List.length_map]; exact h0)
    subst hv
    have HC := hid (p := _) (fun (wr : World) (hF : Fr [] w wr) (i : Nat) (hi : i < R.length) => (show wr.cell? ⟨g, i, none⟩ = some (.pointer (some ⟨R[i].b, 0, none⟩)) from by
      have := (hrow.fr hF (by simp)).cell i (by simpa using hi)
      rw [List.getElem_map] at this; exact this))
    rw [List.length_map] at c3
    clear hrow h
    go_enter Try.func12, Try.ntmps12
    go_wp2_with (go_at_call 33; refine (none_no sb p _ c0 hp).mono ?_; rintro e w' ⟨rfl, rfl⟩)
    go_loopg [3, 13] R.length (fun gk s q wr => ∃ i : Nat, i ≤ R.length ∧ gk = R.length - i ∧ q = .int .i64 i ∧ (∃ pv cv, s = .slice pv i cv) ∧ Hid (Own32 wr w'.heap.size s ((R.take i).map Tk.id) ∧ Fr [] w' wr))
    case atStart => exact ⟨0, Nat.zero_le _, rfl, rfl, ⟨none, 0, rfl⟩, hid ⟨World.ownsRow_nil _ _ _ _, Fr.refl _ _⟩⟩
    case round =>
      obtain ⟨i, hi, hgk, rfl, ⟨pv, cv, rfl⟩, K⟩ := hrel
      by_cases hlt : i < R.length
      · have hlt' : (i : Int) < (R.length : Int) := by omega
        have r0 := HC.out wr K.out.2 i hlt
        obtain ⟨k0, _⟩ := (HT.out wr K.out.2 i hlt).cells
        obtain ⟨v', W', hap, a2, a3⟩ := run_app32 wr w'.heap.size _ _ K.out.1 R[i].id (by simp; omega) K.out.2.size
        have HN := hid (p := _) (show Own32 W' w'.heap.size v' ((R.take (i + 1)).map Tk.id) ∧ Fr [] w' W' from ⟨by rw [List.take_succ_eq_append_getElem hlt, List.map_append]; exact a2, own_fr K.out.2 K.out.1 a3⟩)
        obtain ⟨pv', cv', hv'⟩ := ownsRow.form a2
        rw [List.length_append, List.length_map, List.length_take, Nat.min_eq_left hi] at hv'
        subst hv'
        clear a2 a3
        generalize R[i].b = tb at *
        generalize R[i].id = ti at *
        go_wp2_with (first | (at_builtin; refine wpList_app rfl _ _ 31 rfl rfl rfl hap ?_) | go_in)
        go_roundg (R.length - (i + 1))
        case measure => omega
        case rel => exact ⟨i + 1, by omega, rfl, by go_num, ⟨_, _, rfl⟩, HN⟩
      · obtain rfl : i = R.length := by omega
        go_wp2_with fail
        go_ret
        exact ⟨_, rfl, by have := K.out.1; rwa [List.take_of_length_le (Nat.le_refl _)] at this, K.out.2⟩
end
end Go.Proofs.Ytenphgpmdigdcaa
