/-
  Plain facts on lists of spans that rise and do not touch: which bytes are in them, what a cut by a span says, what joining and taking out leave. No program is met here.
-/
import Derived.Test.YtfiaciniikcacaaCutB
namespace Go.Proofs.Ytfiaciniikcacaa
open Go.RowKit
set_option linter.unusedVariables false
set_option linter.unusedSimpArgs false

/-- Spans that rise, none next to another one, each with bytes, all of them within m bytes. -/
structure Canon (l : List (Nat × Nat)) (m : Nat) : Prop where
  one : ∀ i, i < l.length → 1 ≤ sn l i
  top : ∀ i, i < l.length → fs l i + sn l i ≤ m
  gap : ∀ i j, i < j → j < l.length → fs l i + sn l i < fs l j

/-- Is a byte in spans? -/
def In (l : List (Nat × Nat)) (k : Nat) : Prop := ∃ i, i < l.length ∧ fs l i ≤ k ∧ k < fs l i + sn l i

theorem Canon.nil (m : Nat) : Canon [] m := ⟨fun i h => by simp at h, fun i h => by simp at h, fun i j _ h => by simp at h⟩

theorem Canon.far {l : List (Nat × Nat)} {m : Nat} (h : Canon l m) : ∀ i, i < l.length → i ≤ fs l i
  | 0, _ => Nat.zero_le _
  | i + 1, hi => by have := Canon.far h i (by omega); have := h.gap i (i + 1) (by omega) hi; omega
theorem Canon.len {l : List (Nat × Nat)} {m : Nat} (h : Canon l m) : l.length ≤ m := by
  rcases Nat.eq_zero_or_pos l.length with h0 | h0
  · omega
  · have := h.far (l.length - 1) (by omega); have := h.top (l.length - 1) (by omega); have := h.one (l.length - 1) (by omega); omega
theorem Canon.mono {l : List (Nat × Nat)} {m : Nat} (h : Canon l m) (i j : Nat) (hij : i ≤ j) (hj : j < l.length) : fs l i ≤ fs l j ∧ fs l i + sn l i ≤ fs l j + sn l j := by
  rcases Nat.eq_or_lt_of_le hij with e | e
  · subst e; exact ⟨Nat.le_refl _, Nat.le_refl _⟩
  · have := h.gap i j e hj; have := h.one j hj; omega

theorem Cuts.some {l : List (Nat × Nat)} {m a n i j : Nat} (hl : Canon l m) (hn : 1 ≤ n) (c : Cuts l a n i j) : i < j ↔ ∃ k, a ≤ k ∧ k < a + n ∧ In l k := by
  constructor
  · intro h
    have h1 := c.ends i (Nat.le_refl _) (by have := c.jn; omega)
    have h2 := c.begins i h
    have h3 := hl.one i (by have := c.jn; omega)
    exact ⟨max a (fs l i), by omega, by omega, i, by have := c.jn; omega, by omega, by omega⟩
  · rintro ⟨k, h1, h2, p, hp, h3, h4⟩
    rcases Nat.lt_or_ge i j with h | h
    · exact h
    · have := c.ij
      rcases Nat.lt_or_ge p i with hpi | hpi
      · have := c.ahead p hpi; omega
      · have := c.behind p (by omega) hp; omega

theorem Cuts.all {l : List (Nat × Nat)} {m a n i j : Nat} (hl : Canon l m) (hn : 1 ≤ n) (c : Cuts l a n i j) :
    (j = i + 1 ∧ fs l i ≤ a ∧ a + n ≤ fs l i + sn l i) ↔ ∀ k, a ≤ k → k < a + n → In l k := by
  have hjn := c.jn
  constructor
  · rintro ⟨h1, h2, h3⟩ k h4 h5
    exact ⟨i, by omega, by omega, by omega⟩
  · intro h
    obtain ⟨p, hp, h1, h2⟩ := h a (Nat.le_refl _) (by omega)
    have hpi : i ≤ p := by
      rcases Nat.lt_or_ge p i with q | q
      · have := c.ahead p q; omega
      · exact q
    have hpi' : p = i := by
      rcases Nat.eq_or_lt_of_le hpi with q | q
      · exact q.symm
      · have := c.ends i (Nat.le_refl _) (by omega); have := hl.gap i p q hp; omega
    subst hpi'
    have he : a + n ≤ fs l p + sn l p := by
      rcases Nat.lt_or_ge (fs l p + sn l p) (a + n) with q | q
      · obtain ⟨r, hr, h3, h4⟩ := h (fs l p + sn l p) (by omega) q
        rcases Nat.lt_or_ge p r with t | t
        · have := hl.gap p r t hr; omega
        · have := hl.mono r p t hp; omega
      · exact q
    refine ⟨?_, h1, he⟩
    have hj : p < j := by
      rcases Nat.lt_or_ge p j with q | q
      · exact q
      · have := c.behind p q hp; omega
    rcases Nat.lt_or_ge (p + 1) j with q | q
    · have := c.begins (p + 1) q; have := hl.gap p (p + 1) (by omega) (by omega); omega
    · omega

/-- Spans that rise and do not touch are told by their bytes. -/
theorem In.head {x : Nat × Nat} {l : List (Nat × Nat)} {k : Nat} : In (x :: l) k ↔ (x.1 ≤ k ∧ k < x.1 + x.2) ∨ In l k := by
  constructor
  · rintro ⟨i, hi, h1, h2⟩
    cases i with
    | zero => left; exact ⟨by simpa [fs] using h1, by simpa [fs, sn] using h2⟩
    | succ i => right; exact ⟨i, by simpa using hi, by simpa [fs] using h1, by simpa [fs, sn] using h2⟩
  · rintro (h | ⟨i, hi, h1, h2⟩)
    · exact ⟨0, by simp, by simpa [fs] using h.1, by simpa [fs, sn] using h.2⟩
    · exact ⟨i + 1, by simpa using hi, by simpa [fs] using h1, by simpa [fs, sn] using h2⟩
theorem Canon.tail {x : Nat × Nat} {l : List (Nat × Nat)} {m : Nat} (h : Canon (x :: l) m) : Canon l m :=
  ⟨fun i hi => by have := h.one (i + 1) (by simpa using hi); simpa [sn] using this, fun i hi => by have := h.top (i + 1) (by simpa using hi); simpa [fs, sn] using this,
   fun i j hij hj => by have := h.gap (i + 1) (j + 1) (by omega) (by simpa using hj); simpa [fs, sn] using this⟩
theorem Canon.headGap {x : Nat × Nat} {l : List (Nat × Nat)} {m : Nat} (h : Canon (x :: l) m) {k : Nat} (hk : In l k) : x.1 + x.2 < k := by
  obtain ⟨i, hi, h1, _⟩ := hk
  have := h.gap 0 (i + 1) (by omega) (by simpa using hi)
  simp [fs, sn] at this h1; omega
theorem Canon.headOne {x : Nat × Nat} {l : List (Nat × Nat)} {m : Nat} (h : Canon (x :: l) m) : 1 ≤ x.2 := by simpa [sn] using h.one 0 (by simp)

theorem Canon.unique : ∀ {l k : List (Nat × Nat)} {m : Nat}, Canon l m → Canon k m → (∀ b, In l b ↔ In k b) → l = k
  | [], [], _, _, _, _ => rfl
  | [], y :: k, _, _, hk, h => by
    have := (h y.1).2 (In.head.2 (.inl ⟨Nat.le_refl _, by have := hk.headOne; omega⟩))
    obtain ⟨i, hi, _⟩ := this; simp at hi
  | x :: l, [], _, hl, _, h => by
    have := (h x.1).1 (In.head.2 (.inl ⟨Nat.le_refl _, by have := hl.headOne; omega⟩))
    obtain ⟨i, hi, _⟩ := this; simp at hi
  | x :: l, y :: k, m, hl, hk, h => by
    have ox := hl.headOne; have oy := hk.headOne
    have e1 : x.1 = y.1 := by
      have a := (h x.1).1 (In.head.2 (.inl ⟨Nat.le_refl _, by omega⟩))
      have b := (h y.1).2 (In.head.2 (.inl ⟨Nat.le_refl _, by omega⟩))
      rcases In.head.1 a with a | a <;> rcases In.head.1 b with b | b
      · omega
      · have := hl.headGap b; omega
      · have := hk.headGap a; omega
      · have := hl.headGap b; have := hk.headGap a; omega
    have e2 : x.2 = y.2 := by
      rcases Nat.lt_trichotomy x.2 y.2 with q | q | q
      · have a := (h (x.1 + x.2)).2 (In.head.2 (.inl ⟨by omega, by omega⟩))
        rcases In.head.1 a with a | a
        · omega
        · have := hl.headGap a; omega
      · exact q
      · have a := (h (y.1 + y.2)).1 (In.head.2 (.inl ⟨by omega, by omega⟩))
        rcases In.head.1 a with a | a
        · omega
        · have := hk.headGap a; omega
    have ht : ∀ b, In l b ↔ In k b := by
      intro b
      constructor
      · intro hb
        have g := hl.headGap hb
        rcases In.head.1 ((h b).1 (In.head.2 (.inr hb))) with a | a
        · omega
        · exact a
      · intro hb
        have g := hk.headGap hb
        rcases In.head.1 ((h b).2 (In.head.2 (.inr hb))) with a | a
        · omega
        · exact a
    rw [Canon.unique hl.tail hk.tail ht, show x = y from Prod.ext e1 e2]
end Go.Proofs.Ytfiaciniikcacaa
