/-
  What stands of the tasks while the statement SchedPlace plays its script: each call keeps it; who waits goes on waiting, or is woken. No statement is proved here.
-/
import Derived.Test.YtenphgpmdigdcaaFairB
namespace Go.Proofs.Ytenphgpmdigdcaa
open Go.RowKit Go.BigFrame Go.MapKept
set_option linter.unusedVariables false
set_option linter.unusedSimpArgs false
set_option maxRecDepth 1000000
set_option maxHeartbeats 4000000

theorem nodup_le : ∀ (n : Nat) (l : List Nat), l.Nodup → (∀ x ∈ l, x < n) → l.length ≤ n
  | 0, l, _, h => by
    cases l with
    | nil => simp
    | cons x l => exact absurd (h x (by simp)) (by omega)
  | n + 1, l, hn, h => by
    by_cases hm : n ∈ l
    · have h1 := nodup_le n (l.erase n) (hn.erase n) (fun x hx => by
        have h2 := h x (List.mem_of_mem_erase hx)
        have h3 : x ≠ n := fun e => by subst e; exact absurd hx (hn.not_mem_erase)
        omega)
      have h2 := List.length_erase_of_mem hm
      have h3 : 0 < l.length := List.length_pos_of_mem hm
      omega
    · have h1 := nodup_le n l hn (fun x hx => by
        have h2 := h x hx
        have h3 : x ≠ n := fun e => hm (e ▸ hx)
        omega)
      omega
/-- Who stands where, the numbers being below 6 and the time not beyond m. -/
structure PL (w : World) (B sb p m : Nat) (R W : List Tk) (X : Option Tk) : Prop where
  ss : ∃ now, now ≤ m ∧ SS w B sb p now R W X
  ids : ∀ t ∈ all R W X [], t.id < 6
  pas : ∀ t ∈ R, t.pa ≤ m
/-- Who waited waits, or is ready, if k. -/
def Goes (k : Bool) (W R' W' : List Tk) : Prop := ∀ t ∈ W, (∃ u ∈ W', u.id = t.id) ∨ (k = true ∧ ∃ u ∈ R', u.id = t.id)
theorem Goes.same (k : Bool) (W R' : List Tk) : Goes k W R' W := fun t ht => .inl ⟨t, ht, rfl⟩
/-- What a call leaves. -/
def Left (w w' : World) (B sb p m : Nat) (k : Bool) (W : List Tk) : Prop := ∃ R' W' X', PL w' B sb p m R' W' X' ∧ Goes k W R' W' ∧ Kq B w w'
section
variable {w : World} {B sb p m : Nat} {R W : List Tk} {X : Option Tk}
theorem PL.nod (h : PL w B sb p m R W X) : ((all R W X []).map Tk.id).Nodup := by
  obtain ⟨now, _, mb, vr, vw, ts, hI⟩ := h.ss
  exact hI.nod
theorem PL.len (h : PL w B sb p m R W X) : (all R W X []).length ≤ 6 := by
  have := nodup_le 6 _ h.nod (fun x hx => by
    obtain ⟨t, ht, rfl⟩ := List.mem_map.1 hx
    exact h.ids t ht)
  simpa using this
theorem PL.mono (h : PL w B sb p m R W X) {m' : Nat} (hm : m ≤ m') : PL w B sb p m' R W X := by
  obtain ⟨now, h1, h2⟩ := h.ss
  exact ⟨⟨now, by omega, h2⟩, h.ids, fun t ht => Nat.le_trans (h.pas t ht) hm⟩
theorem PL.stay (h : PL w B sb p m R W X) (k : Bool) {m' : Nat} (hm : m ≤ m') : Left w w B sb p m' k W := ⟨R, W, X, h.mono hm, Goes.same k W R, Kq.refl B w⟩
theorem pas_app {m : Nat} {R A : List Tk} (h : ∀ t ∈ R, t.pa ≤ m) (hA : ∀ t ∈ A, t.pa = 0) : ∀ t ∈ R ++ A, t.pa ≤ m := fun t ht => by
  rcases List.mem_append.1 ht with h1 | h1
  · exact h t h1
  · rw [hA t h1]; omega
theorem mem_al {R W : List Tk} {X : Option Tk} {t : Tk} : t ∈ all R W X [] ↔ t ∈ R ∨ t ∈ W ∨ X = some t := by
  unfold all
  cases X <;> simp [or_assoc, eq_comm]
theorem pl_spawn (h : PL w B sb p m R W X) (id : Nat) (h6 : id < 6) : Calls Try.prog 17 #[.pointer (some ⟨sb, 0, none⟩), .int .u32 (id : Nat)] w fun e w' => (∃ c : Int, e = .returned (.int .i64 c)) ∧ Hid (Left w w' B sb p m false W) := by
  obtain ⟨now, hn, hS⟩ := h.ss
  cases hf : fnd (all R W X []) id with
  | some t =>
    refine (spawn_there hS id t hf).mono ?_
    rintro e w' ⟨rfl, rfl⟩
    exact ⟨⟨_, rfl⟩, hid (h.stay false (Nat.le_refl _))⟩
  | none =>
    have hl := h.len
    refine (spawn_ok hS id (by omega) hf (by omega)).mono ?_
    rintro e w' ⟨rfl, b, hS', hK⟩
    refine ⟨⟨_, rfl⟩, hid ⟨_, W, X, ⟨⟨now, hn, hS'⟩, fun t ht => ?_, pas_app h.pas (by simp)⟩, Goes.same false W _, hK⟩⟩
    rcases mem_al.1 ht with h1 | h1 | h1
    · rcases List.mem_append.1 h1 with h2 | h2
      · exact h.ids t (mem_al.2 (.inl h2))
      · simp at h2; subst h2; exact h6
    · exact h.ids t (mem_al.2 (.inr (.inl h1)))
    · exact h.ids t (mem_al.2 (.inr (.inr h1)))
theorem pl_yield (h : PL w B sb p m R W X) : Calls Try.prog 21 #[.pointer (some ⟨sb, 0, none⟩)] w fun e w' => (∃ c : Int, e = .returned (.int .i64 c)) ∧ Hid (Left w w' B sb p m false W) := by
  obtain ⟨now, hn, hS⟩ := h.ss
  cases X with
  | none =>
    refine (yield_no hS).mono ?_
    rintro e w' ⟨rfl, rfl⟩
    exact ⟨⟨_, rfl⟩, hid (h.stay false (Nat.le_refl _))⟩
  | some t =>
    refine (yield_ok hS).mono ?_
    rintro e w' ⟨rfl, hS', hK⟩
    refine ⟨⟨_, rfl⟩, hid ⟨_, W, none, ⟨⟨now, hn, hS'⟩, fun u hu => ?_, pas_app h.pas (by simp [Tk.rd])⟩, Goes.same false W _, hK⟩⟩
    rcases mem_al.1 hu with h1 | h1 | h1
    · rcases List.mem_append.1 h1 with h2 | h2
      · exact h.ids u (mem_al.2 (.inl h2))
      · simp at h2; subst h2; exact h.ids t (mem_al.2 (.inr (.inr rfl)))
    · exact h.ids u (mem_al.2 (.inr (.inl h1)))
    · cases h1
theorem pl_end (h : PL w B sb p m R W X) : Calls Try.prog 24 #[.pointer (some ⟨sb, 0, none⟩)] w fun e w' => (∃ c : Int, e = .returned (.int .i64 c)) ∧ Hid (Left w w' B sb p m false W) := by
  obtain ⟨now, hn, hS⟩ := h.ss
  cases X with
  | none =>
    refine (end_no hS).mono ?_
    rintro e w' ⟨rfl, rfl⟩
    exact ⟨⟨_, rfl⟩, hid (h.stay false (Nat.le_refl _))⟩
  | some t =>
    refine (end_ok hS).mono ?_
    rintro e w' ⟨rfl, hS', hK⟩
    refine ⟨⟨_, rfl⟩, hid ⟨R, W, none, ⟨⟨now, hn, hS'⟩, fun u hu => ?_, h.pas⟩, Goes.same false W _, hK⟩⟩
    rcases mem_al.1 hu with h1 | h1 | h1
    · exact h.ids u (mem_al.2 (.inl h1))
    · exact h.ids u (mem_al.2 (.inr (.inl h1)))
    · cases h1
theorem pl_wake (h : PL w B sb p m R W X) (q : Nat) (most : Int) : Calls Try.prog 22 #[.pointer (some ⟨sb, 0, none⟩), .int .u32 (q : Nat), .int .i64 most] w fun e w' => (∃ c : Int, e = .returned (.int .i64 c)) ∧ Hid (Left w w' B sb p m true W) := by
  obtain ⟨now, hn, hS⟩ := h.ss
  have hP := (sel_perm (prW q most) W).1
  refine (wake_ok hS q most).mono ?_
  rintro e w' ⟨rfl, hS', hK⟩
  refine ⟨⟨_, rfl⟩, hid ⟨_, _, X, ⟨⟨now, hn, hS'⟩, fun u hu => ?_, pas_app h.pas (by simp [Tk.rd])⟩, fun t ht => ?_, hK⟩⟩
  · rcases mem_al.1 hu with h1 | h1 | h1
    · rcases List.mem_append.1 h1 with h2 | h2
      · exact h.ids u (mem_al.2 (.inl h2))
      · obtain ⟨v, hv, rfl⟩ := List.mem_map.1 h2
        exact h.ids v (mem_al.2 (.inr (.inl (hP.subset (by simp [hv])))))
    · exact h.ids u (mem_al.2 (.inr (.inl (hP.subset (by simp [h1])))))
    · exact h.ids u (mem_al.2 (.inr (.inr h1)))
  · rcases List.mem_append.1 (hP.symm.subset ht) with h1 | h1
    · exact .inl ⟨t, h1, rfl⟩
    · exact .inr ⟨rfl, t.rd 0, List.mem_append.2 (.inr (List.mem_map.2 ⟨t, h1, rfl⟩)), rfl⟩
theorem pl_tick (h : PL w B sb p m R W X) (n : Nat) (hn : n ≤ m + 10) (hm : m ≤ 1000000) : Calls Try.prog 19 #[.pointer (some ⟨sb, 0, none⟩), .int .u64 (n : Nat)] w fun e w' => (∃ c : Int, e = .returned (.int .i64 c)) ∧ Hid (Left w w' B sb p (m + 10) true W) := by
  obtain ⟨now, hw, hS⟩ := h.ss
  have hP := (sel_perm (prT n) W).1
  by_cases hb : n < now
  · refine (tick_bad hS n (.inl hb)).mono ?_
    rintro e w' ⟨rfl, hF⟩
    exact ⟨⟨_, rfl⟩, hid ⟨R, W, X, ⟨⟨now, by omega, hS.fr0 hF⟩, h.ids, (h.mono (by omega)).pas⟩, Goes.same true W R, hF.kq0⟩⟩
  · have hl := h.len
    have hl2 := hP.length_eq
    refine (tick_ok hS n (by omega) (by omega) (by unfold all at hl; simp at hl hl2; omega)).mono ?_
    rintro e w' ⟨rfl, ⟨A, hA, hS'⟩, hK⟩
    refine ⟨⟨_, rfl⟩, hid ⟨_, _, X, ⟨⟨n, hn, hS'⟩, fun u hu => ?_, pas_app (h.mono (by omega)).pas (by simp [Tk.rd])⟩, fun t ht => ?_, hK⟩⟩
    · rcases mem_al.1 hu with h1 | h1 | h1
      · rcases List.mem_append.1 h1 with h2 | h2
        · exact h.ids u (mem_al.2 (.inl h2))
        · obtain ⟨v, hv, rfl⟩ := List.mem_map.1 h2
          exact h.ids v (mem_al.2 (.inr (.inl (hP.subset (by simp [hA.subset hv])))))
      · exact h.ids u (mem_al.2 (.inr (.inl (hP.subset (by simp [h1])))))
      · exact h.ids u (mem_al.2 (.inr (.inr h1)))
    · rcases List.mem_append.1 (hP.symm.subset ht) with h1 | h1
      · exact .inl ⟨t, h1, rfl⟩
      · exact .inr ⟨rfl, t.rd 50, List.mem_append.2 (.inr (List.mem_map.2 ⟨t, hA.symm.subset h1, rfl⟩)), rfl⟩
theorem pl_pick (h : PL w B sb p m R W X) (n : Nat) (hn : n < 18446744073709551616) (hm : m ≤ 100000) : Calls Try.prog 18 #[.pointer (some ⟨sb, 0, none⟩), .int .u64 (n : Nat)] w fun e w' => (∃ (a : Nat) (c : Int), e = .returned (.tuple #[.int .u32 (a : Nat), .int .i64 c])) ∧ Hid (Left w w' B sb p (m + 1) false W) := by
  obtain ⟨now, hw, hS⟩ := h.ss
  cases X with
  | some t =>
    refine (pick_state hS n).mono ?_
    rintro e w' ⟨rfl, rfl⟩
    exact ⟨⟨0, _, rfl⟩, hid (h.stay false (by omega))⟩
  | none =>
    by_cases hR : R = []
    · subst hR
      refine (pick_none hS n).mono ?_
      rintro e w' ⟨rfl, rfl⟩
      exact ⟨⟨0, _, rfl⟩, hid (h.stay false (by omega))⟩
    · refine (pick_ok hS n hn hR (fun t ht => Nat.le_trans (h.pas t ht) hm)).mono ?_
      rintro e w' ⟨k, hk, _, rfl, hS', hK⟩
      refine ⟨⟨_, _, rfl⟩, hid ⟨_, W, _, ⟨⟨now, by omega, hS'⟩, fun u hu => ?_, fun u hu => ?_⟩, Goes.same false W _, hK⟩⟩
      · rcases mem_al.1 hu with h1 | h1 | h1
        · obtain ⟨v, hv, rfl⟩ := List.mem_map.1 h1
          exact h.ids v (mem_al.2 (.inl (List.mem_of_mem_eraseIdx hv)))
        · exact h.ids u (mem_al.2 (.inr (.inl h1)))
        · cases h1
          exact h.ids R[k] (mem_al.2 (.inl (List.getElem_mem hk)))
      · obtain ⟨v, hv, rfl⟩ := List.mem_map.1 hu
        have := h.pas v (List.mem_of_mem_eraseIdx hv)
        simp only [Tk.bump]; omega
theorem pl_wait (h : PL w B sb p m R W X) (q u : Nat) (hq : q < 4294967296) (hu : u < 4611686018427387904) : Calls Try.prog 20 #[.pointer (some ⟨sb, 0, none⟩), .int .u32 (q : Nat), .int .u64 (u : Nat)] w fun e w' => (∃ c : Int, e = .returned (.int .i64 c)) ∧ Hid (Left w w' B sb p m false W) := by
  obtain ⟨now, hw, hS⟩ := h.ss
  cases X with
  | none =>
    refine (wait_no hS q u).mono ?_
    rintro e w' ⟨rfl, rfl⟩
    exact ⟨⟨_, rfl⟩, hid (h.stay false (Nat.le_refl _))⟩
  | some t =>
    by_cases hb : u ≠ 0 ∧ u ≤ now
    · refine (wait_bad hS q u hb.1 (.inl hb.2)).mono ?_
      rintro e w' ⟨rfl, hF⟩
      exact ⟨⟨_, rfl⟩, hid ⟨R, W, some t, ⟨⟨now, hw, hS.fr0 hF⟩, h.ids, h.pas⟩, Goes.same false W R, hF.kq0⟩⟩
    · refine (wait_ok hS q u hq (by omega)).mono ?_
      rintro e w' ⟨rfl, hS', hK⟩
      refine ⟨⟨_, rfl⟩, hid ⟨R, _, none, ⟨⟨now, hw, hS'⟩, fun v hv => ?_, h.pas⟩, fun v hv => .inl ⟨v, List.mem_append.2 (.inl hv), rfl⟩, hK⟩⟩
      rcases mem_al.1 hv with h1 | h1 | h1
      · exact h.ids v (mem_al.2 (.inl h1))
      · rcases List.mem_append.1 h1 with h2 | h2
        · exact h.ids v (mem_al.2 (.inr (.inl h2)))
        · simp at h2; subst h2; exact h.ids t (mem_al.2 (.inr (.inr rfl)))
      · cases h1
end
end Go.Proofs.Ytenphgpmdigdcaa
