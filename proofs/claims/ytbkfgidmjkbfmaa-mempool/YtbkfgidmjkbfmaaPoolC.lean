/-
  Plain facts on how many bytes there are of a kind ('Has'), and what holds of a pool whose buffers of the device's are just what is lent ('PInv'). No statement is proved here.
-/
import Derived.Test.YtbkfgidmjkbfmaaPoolB
namespace Go.Proofs.Ytbkfgidmjkbfmaa
open Go.RowKit Go.BigFrame
set_option linter.unusedVariables false
set_option linter.unusedSimpArgs false
set_option maxRecDepth 1000000
set_option maxHeartbeats 4000000

/-- Below m there are n numbers of a kind. -/
def Has (p : Nat → Prop) : Nat → Nat → Prop
  | 0, n => n = 0
  | m + 1, n => (p m ∧ ∃ k, n = k + 1 ∧ Has p m k) ∨ (¬ p m ∧ Has p m n)
theorem Has.zero {p : Nat → Prop} : Has p 0 0 := rfl
theorem Has.yes {p : Nat → Prop} {m n : Nat} (h : Has p m n) (hp : p m) : Has p (m + 1) (n + 1) := .inl ⟨hp, n, rfl, h⟩
theorem Has.no {p : Nat → Prop} {m n : Nat} (h : Has p m n) (hp : ¬ p m) : Has p (m + 1) n := .inr ⟨hp, h⟩
theorem Has.le {p : Nat → Prop} : ∀ {m n : Nat}, Has p m n → n ≤ m
  | 0, n, h => Nat.le_of_eq h
  | m + 1, n, .inl ⟨_, k, e, h⟩ => by have := Has.le h; omega
  | m + 1, n, .inr ⟨_, h⟩ => by have := Has.le h; omega
theorem Has.unique {p : Nat → Prop} : ∀ {m n k : Nat}, Has p m n → Has p m k → n = k
  | 0, n, k, h, g => (show n = 0 from h).trans (show k = 0 from g).symm
  | m + 1, n, k, .inl ⟨_, a, e, h⟩, .inl ⟨_, b, f, g⟩ => by rw [e, f, Has.unique h g]
  | m + 1, n, k, .inl ⟨hp, _⟩, .inr ⟨hn, _⟩ => absurd hp hn
  | m + 1, n, k, .inr ⟨hn, _⟩, .inl ⟨hp, _⟩ => absurd hp hn
  | m + 1, n, k, .inr ⟨_, h⟩, .inr ⟨_, g⟩ => Has.unique h g
theorem Has.congr {p q : Nat → Prop} {m n : Nat} (h : Has p m n) (e : ∀ b, p b ↔ q b) : Has q m n := by
  induction m generalizing n with
  | zero => exact h
  | succ m ih =>
    rcases h with ⟨hp, k, rfl, h⟩ | ⟨hp, h⟩
    · exact (ih h).yes ((e _).1 hp)
    · exact (ih h).no (fun g => hp ((e _).2 g))
theorem Has.or {p q : Nat → Prop} {m n k : Nat} (h : Has p m n) (g : Has q m k) (d : ∀ b, p b → ¬ q b) : Has (fun b => p b ∨ q b) m (n + k) := by
  induction m generalizing n k with
  | zero =>
    obtain rfl : n = 0 := h
    obtain rfl : k = 0 := g
    exact Has.zero
  | succ m ih =>
    rcases h with ⟨hp, a, rfl, h⟩ | ⟨hp, h⟩
    · rcases g with ⟨hq, _⟩ | ⟨_, g⟩
      · exact absurd hq (d _ hp)
      · rw [show a + 1 + k = a + k + 1 by omega]
        exact (ih h g).yes (.inl hp)
    · rcases g with ⟨hq, b, rfl, g⟩ | ⟨hq, g⟩
      · exact (ih h g).yes (.inr hq)
      · exact (ih h g).no (fun f => f.elim hp hq)
theorem Has.none {p : Nat → Prop} (h : ∀ b, ¬ p b) : ∀ m, Has p m 0
  | 0 => .zero
  | m + 1 => .no (Has.none h m) (h m)
theorem Has.range (a n : Nat) : ∀ m, Has (fun b => a ≤ b ∧ b < a + n) m (min (a + n) m - min a m)
  | 0 => by simpa using Has.zero
  | m + 1 => by
    by_cases h : a ≤ m ∧ m < a + n
    · have := Has.yes (Has.range a n m) h
      rw [show min (a + n) (m + 1) - min a (m + 1) = min (a + n) m - min a m + 1 by omega]
      exact this
    · have := Has.no (Has.range a n m) h
      rw [show min (a + n) (m + 1) - min a (m + 1) = min (a + n) m - min a m by omega]
      exact this
theorem Has.span {a n m : Nat} (h : a + n ≤ m) : Has (fun b => a ≤ b ∧ b < a + n) m n := by
  have := Has.range a n m
  rwa [show min (a + n) m - min a m = n by omega] at this

/-- All bytes of spans. -/
def total : List (Nat × Nat) → Nat
  | [] => 0
  | x :: l => x.2 + total l
theorem Canon.has : ∀ {l : List (Nat × Nat)} {m : Nat}, Canon l m → Has (In l) m (total l)
  | [], m, h => Has.none (fun b ⟨i, hi, _⟩ => by simp at hi) m
  | x :: l, m, h => by
    have ht : x.1 + x.2 ≤ m := by simpa [fs, sn] using h.top 0 (by simp)
    refine ((Has.span ht).or (Canon.has h.tail) (fun b hb hi => ?_)).congr (fun b => In.head.symm)
    have := h.headGap hi
    omega
theorem total_take (l : List (Nat × Nat)) (i : Nat) (h : i < l.length) : total (l.take (i + 1)) = total (l.take i) + sn l i := by
  induction l generalizing i with
  | nil => simp at h
  | cons x l ih =>
    cases i with
    | zero => simp [total, sn]
    | succ i =>
      have := ih i (by simpa using h)
      simp only [List.take_succ_cons, total, this]
      simp [sn]; omega

/-- How many buffers are the device's. -/
def givens (ws : List UInt8) : Nat := ws.countP (· == 2)
/-- Is a byte in a buffer of the device's? -/
def Dev (s size : Nat) (ws : List UInt8) (b : Nat) : Prop := ∃ j, ws[j]? = some 2 ∧ s + j * size ≤ b ∧ b < s + j * size + size
theorem Dev.head {s size : Nat} {x : UInt8} {ws : List UInt8} {b : Nat} : Dev s size (x :: ws) b ↔ (x = 2 ∧ s ≤ b ∧ b < s + size) ∨ Dev (s + size) size ws b := by
  constructor
  · rintro ⟨j, h1, h2, h3⟩
    cases j with
    | zero => simp at h1 h2 h3; exact .inl ⟨h1, h2, h3⟩
    | succ j => rw [Nat.succ_mul] at h2 h3; exact .inr ⟨j, by simpa using h1, by omega, by omega⟩
  · rintro (⟨h1, h2, h3⟩ | ⟨j, h1, h2, h3⟩)
    · exact ⟨0, by simp [h1], by omega, by omega⟩
    · exact ⟨j + 1, by simpa using h1, by rw [Nat.succ_mul]; omega, by rw [Nat.succ_mul]; omega⟩
theorem Dev.low {s size : Nat} {ws : List UInt8} {b : Nat} (h : Dev s size ws b) : s ≤ b := by
  obtain ⟨j, _, h2, _⟩ := h; exact Nat.le_trans (Nat.le_add_right _ _) h2
theorem Dev.has (size : Nat) : ∀ (ws : List UInt8) (s m : Nat), s + ws.length * size ≤ m → Has (Dev s size ws) m (givens ws * size)
  | [], s, m, h => by simpa [givens] using Has.none (p := Dev s size []) (fun b ⟨j, h, _⟩ => by simp at h) m
  | x :: ws, s, m, h => by
    simp only [List.length_cons, Nat.succ_mul] at h
    have ih := Dev.has size ws (s + size) m (by omega)
    by_cases hx : x = 2
    · have e : givens (x :: ws) * size = size + givens ws * size := by simp [givens, hx, Nat.succ_mul]; omega
      rw [e]
      refine ((Has.span (a := s) (n := size) (m := m) (by omega)).or ih (fun b hb hd => ?_)).congr (fun b => ?_)
      · have := hd.low; omega
      · rw [Dev.head]; simp [hx]
    · have e : givens (x :: ws) * size = givens ws * size := by simp [givens, hx]
      rw [e]
      exact ih.congr (fun b => by rw [Dev.head]; simp [hx])
theorem givens_take (ws : List UInt8) (i : Nat) (h : i < ws.length) : givens (ws.take (i + 1)) = givens (ws.take i) + (if ws[i].toNat = 2 then 1 else 0) := by
  unfold givens
  rw [List.take_succ_eq_append_getElem h, List.countP_append]
  congr 1
  have : (ws[i] == 2) = decide (ws[i].toNat = 2) := by
    rw [Bool.eq_iff_iff]; simp [← UInt8.toNat_inj]
  simp [List.countP_cons, this]
theorem givens_le (ws : List UInt8) : givens ws ≤ ws.length := List.countP_le_length

theorem same_row {s size i j b : Nat} (h1 : s + i * size ≤ b) (h2 : b < s + i * size + size) (h3 : s + j * size ≤ b) (h4 : b < s + j * size + size) : i = j := by
  rcases Nat.lt_trichotomy i j with h | h | h
  · have := Nat.mul_le_mul_right size (show i + 1 ≤ j from h)
    rw [Nat.succ_mul] at this
    omega
  · exact h
  · have := Nat.mul_le_mul_right size (show j + 1 ≤ i from h)
    rw [Nat.succ_mul] at this
    omega
theorem Dev.set_in {s size : Nat} {ws : List UInt8} {i b : Nat} (hi : i < ws.length) : Dev s size (ws.set i 2) b ↔ Dev s size ws b ∨ (s + i * size ≤ b ∧ b < s + i * size + size) := by
  constructor
  · rintro ⟨j, h1, h2, h3⟩
    by_cases e : i = j
    · subst e; exact .inr ⟨h2, h3⟩
    · rw [List.getElem?_set_ne e] at h1; exact .inl ⟨j, h1, h2, h3⟩
  · rintro (⟨j, h1, h2, h3⟩ | ⟨h2, h3⟩)
    · by_cases e : i = j
      · subst e; exact ⟨i, by simp [hi], h2, h3⟩
      · exact ⟨j, by rw [List.getElem?_set_ne e]; exact h1, h2, h3⟩
    · exact ⟨i, by simp [hi], h2, h3⟩
theorem Dev.set_out {s size : Nat} {ws : List UInt8} {i b : Nat} (x : UInt8) (hx : x ≠ 2) : Dev s size (ws.set i x) b ↔ Dev s size ws b ∧ ¬ (s + i * size ≤ b ∧ b < s + i * size + size) := by
  constructor
  · rintro ⟨j, h1, h2, h3⟩
    by_cases e : i = j
    · subst e
      obtain ⟨hlt, hv⟩ := List.getElem?_eq_some_iff.1 h1
      simp at hv
      exact absurd hv hx
    · rw [List.getElem?_set_ne e] at h1
      exact ⟨⟨j, h1, h2, h3⟩, fun ⟨h4, h5⟩ => e (same_row h4 h5 h2 h3)⟩
  · rintro ⟨⟨j, h1, h2, h3⟩, hn⟩
    by_cases e : i = j
    · subst e; exact absurd ⟨h2, h3⟩ hn
    · exact ⟨j, by rw [List.getElem?_set_ne e]; exact h1, h2, h3⟩
/-- One that was not the device's and is not: nothing turns. -/
theorem Dev.set_same {s size : Nat} {ws : List UInt8} {i b : Nat} (x : UInt8) (hx : x ≠ 2) (hw : ws[i]? ≠ some 2) : Dev s size (ws.set i x) b ↔ Dev s size ws b := by
  rw [Dev.set_out x hx]
  refine ⟨fun h => h.1, fun h => ⟨h, fun ⟨h4, h5⟩ => ?_⟩⟩
  obtain ⟨j, h1, h2, h3⟩ := h
  obtain rfl := same_row h4 h5 h2 h3
  exact hw h1
end Go.Proofs.Ytbkfgidmjkbfmaa
