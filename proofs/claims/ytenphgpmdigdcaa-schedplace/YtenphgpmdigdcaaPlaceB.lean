/-
  What a scheduler answers of its six tasks, for the statement SchedPlace: where each stands, how often the row of the ready holds it, who runs. No statement is proved here.
-/
import Derived.Test.YtenphgpmdigdcaaPlaceA
namespace Go.Proofs.Ytenphgpmdigdcaa
open Go.RowKit Go.BigFrame Go.MapKept
set_option linter.unusedVariables false
set_option linter.unusedSimpArgs false
set_option maxRecDepth 1000000
set_option maxHeartbeats 4000000

/-- The state that is answered. -/
def stt (R W : List Tk) (X : Option Tk) (k : Nat) : Nat := (fnd (all R W X []) k).elim 0 Tk.st
section
variable {w w' : World} {B sb p m : Nat} {R W : List Tk} {X : Option Tk}
theorem PL.fr0 (h : PL w B sb p m R W X) (hF : Fr [] w w') : PL w' B sb p m R W X := by
  obtain ⟨now, h1, h2⟩ := h.ss
  exact ⟨⟨now, h1, h2.fr0 hF⟩, h.ids, h.pas⟩
theorem PL.state (h : PL w B sb p m R W X) (k : Nat) : Calls Try.prog 23 #[.pointer (some ⟨sb, 0, none⟩), .int .u32 (k : Nat)] w fun e w' => e = .returned (.int .u8 (stt R W X k : Nat)) ∧ w' = w := by
  obtain ⟨now, h1, h2⟩ := h.ss
  exact state_any h2 k
theorem PL.apart (h : PL w B sb p m R W X) : (R.map Tk.id).Nodup ∧ (∀ t ∈ R, ∀ u ∈ W, t.id ≠ u.id) ∧ (∀ t ∈ R, ∀ u ∈ X, t.id ≠ u.id) ∧ (∀ t ∈ W, ∀ u ∈ X, t.id ≠ u.id) := by
  have hn := h.nod
  unfold all at hn
  simp only [List.append_nil, List.map_append] at hn
  rw [List.nodup_append] at hn
  obtain ⟨h1, h2, h3⟩ := hn
  rw [List.nodup_append] at h1
  obtain ⟨h4, h5, h6⟩ := h1
  refine ⟨h4, fun t ht u hu => h6 t.id (List.mem_map.2 ⟨t, ht, rfl⟩) u.id (List.mem_map.2 ⟨u, hu, rfl⟩), fun t ht u hu => h3 t.id (by simp only [List.mem_append, List.mem_map]; exact .inl ⟨t, ht, rfl⟩) u.id (List.mem_map.2 ⟨u, by simpa using hu, rfl⟩), fun t ht u hu => h3 t.id (by simp only [List.mem_append, List.mem_map]; exact .inr ⟨t, ht, rfl⟩) u.id (List.mem_map.2 ⟨u, by simpa using hu, rfl⟩)⟩
theorem count0 {R : List Tk} {k : Nat} (h : ∀ t ∈ R, t.id ≠ k) : (R.map Tk.id).count k = 0 := by
  rw [List.count_eq_zero]
  intro hm
  obtain ⟨t, ht, e⟩ := List.mem_map.1 hm
  exact h t ht e
theorem count1 {l : List Nat} (h : l.Nodup) {k : Nat} (hk : k ∈ l) : l.count k = 1 := by
  induction l with
  | nil => cases hk
  | cons a l ih =>
    obtain ⟨h1, h2⟩ := List.nodup_cons.1 h
    rw [List.count_cons]
    by_cases e : a = k
    · subst e
      rw [List.count_eq_zero.2 h1]; simp
    · rcases List.mem_cons.1 hk with h3 | h3
      · exact absurd h3.symm e
      · rw [ih h2 h3]; simp [e]
/-- Where a task stands. -/
theorem PL.look (h : PL w B sb p m R W X) (k : Nat) :
    (stt R W X k = 1 ∧ (R.map Tk.id).count k = 1 ∧ (∃ t ∈ R, t.id = k) ∧ ∀ t ∈ X, t.id ≠ k) ∨
    (stt R W X k = 3 ∧ (R.map Tk.id).count k = 0 ∧ (∃ t ∈ W, t.id = k) ∧ ∀ t ∈ X, t.id ≠ k) ∨
    (stt R W X k = 2 ∧ (R.map Tk.id).count k = 0 ∧ ∃ t ∈ X, t.id = k) ∨
    (stt R W X k = 0 ∧ (R.map Tk.id).count k = 0 ∧ ∀ t ∈ X, t.id ≠ k) := by
  obtain ⟨now, _, mb, vr, vw, ts, hI⟩ := h.ss
  obtain ⟨a1, a2, a3, a4⟩ := h.apart
  unfold stt
  cases hf : fnd (all R W X []) k with
  | none =>
    have h1 := fnd_none hf
    exact .inr (.inr (.inr ⟨rfl, count0 fun t ht => h1 t (mem_al.2 (.inl ht)), fun t ht => h1 t (mem_al.2 (.inr (.inr ht)))⟩))
  | some t =>
    obtain ⟨h1, h2⟩ := fnd_some hf
    simp only [Option.elim]
    rcases mem_al.1 h1 with h3 | h3 | h3
    · refine .inl ⟨hI.stR t h3, ?_, ⟨t, h3, h2⟩, fun u hu e => a3 t h3 u hu (by omega)⟩
      exact count1 a1 (List.mem_map.2 ⟨t, h3, h2⟩)
    · exact .inr (.inl ⟨hI.stW t h3, count0 fun u hu e => a2 u hu t h3 (by omega), ⟨t, h3, h2⟩, fun u hu e => a4 t h3 u hu (by omega)⟩)
    · exact .inr (.inr (.inl ⟨hI.stX t h3, count0 fun u hu e => a3 u hu t h3 (by omega), t, h3, h2⟩))
/-- Who runs, of the tasks below a number. -/
def rns (X : Option Tk) (k : Nat) : Nat := X.elim 0 fun t => if t.id < k then 1 else 0
theorem rns_le (X : Option Tk) (k : Nat) : rns X k ≤ 1 := by
  unfold rns
  cases X with
  | none => simp
  | some t => simp only [Option.elim]; split <;> omega
theorem rns_zero (X : Option Tk) : rns X 0 = 0 := by cases X <;> simp [rns]
theorem PL.rns_succ (h : PL w B sb p m R W X) (k : Nat) : (stt R W X k = 2 → rns X (k + 1) = rns X k + 1) ∧ (stt R W X k ≠ 2 → rns X (k + 1) = rns X k) := by
  have hne : (∀ t ∈ X, t.id ≠ k) → rns X (k + 1) = rns X k := fun g => by
    unfold rns
    cases X with
    | none => rfl
    | some t =>
      have := g t rfl
      simp only [Option.elim]
      by_cases h1 : t.id < k
      · rw [if_pos h1, if_pos (by omega)]
      · rw [if_neg h1, if_neg (by omega)]
  rcases h.look k with ⟨h1, h2, h3, h4⟩ | ⟨h1, h2, h3, h4⟩ | ⟨h1, h2, t, h3, h4⟩ | ⟨h1, h2, h4⟩
  · exact ⟨fun e => by omega, fun _ => hne h4⟩
  · exact ⟨fun e => by omega, fun _ => hne h4⟩
  · refine ⟨fun _ => ?_, fun e => absurd h1 e⟩
    cases h3
    simp [rns, h4]
  · exact ⟨fun e => by omega, fun _ => hne h4⟩
/-- Whoever waited waits, or is ready. -/
theorem PL.goes {w1 : World} {m1 : Nat} {R' W' : List Tk} {X' : Option Tk} (h : PL w B sb p m R W X) (h' : PL w1 B sb p m1 R' W' X') {c : Bool} (hG : Goes c W R' W') (k : Nat) (hk : stt R W X k = 3) : stt R' W' X' k = 3 ∨ (c = true ∧ stt R' W' X' k = 1) := by
  obtain ⟨t, ht, hti⟩ : ∃ t ∈ W, t.id = k := by
    rcases h.look k with ⟨h1, _⟩ | ⟨_, _, h3, _⟩ | ⟨h1, _⟩ | ⟨h1, _⟩
    · omega
    · exact h3
    · omega
    · omega
  obtain ⟨a1, a2, a3, a4⟩ := h'.apart
  rcases hG t ht with ⟨u, hu, e⟩ | ⟨hc, u, hu, e⟩
  · rcases h'.look k with ⟨_, _, ⟨v, hv, q⟩, _⟩ | ⟨q, _⟩ | ⟨_, _, v, hv, q⟩ | ⟨q, _, _⟩
    · exact absurd (by omega) (a2 v hv u hu)
    · exact .inl q
    · exact absurd (by omega) (a4 u hu v hv)
    · exfalso
      unfold stt at q
      cases hf : fnd (all R' W' X' []) k with
      | none => exact fnd_none hf u (mem_al.2 (.inr (.inl hu))) (by omega)
      | some x =>
        obtain ⟨g1, g2⟩ := fnd_some hf
        rw [hf] at q
        obtain ⟨now, _, mb, vr, vw, ts, hI⟩ := h'.ss
        simp only [Option.elim] at q
        rcases mem_al.1 g1 with g | g | g
        · have := hI.stR x g; omega
        · have := hI.stW x g; omega
        · have := hI.stX x g; omega
  · have hc1 : (R'.map Tk.id).count k = 1 := count1 a1 (List.mem_map.2 ⟨u, hu, by omega⟩)
    rcases h'.look k with ⟨q, _⟩ | ⟨_, q, _⟩ | ⟨_, q, _⟩ | ⟨_, q, _⟩
    · exact .inr ⟨hc, q⟩
    · omega
    · omega
    · omega
end
end Go.Proofs.Ytenphgpmdigdcaa
