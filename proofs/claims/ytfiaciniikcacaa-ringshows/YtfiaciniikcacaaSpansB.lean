/-
  Plain facts on lists of spans: what lending a span that meets none of them, and taking one out, leave. No program is met here.
-/
import Derived.Test.YtfiaciniikcacaaLend
namespace Go.Proofs.Ytfiaciniikcacaa
open Go.RowKit
set_option linter.unusedVariables false
set_option linter.unusedSimpArgs false

theorem fs_append_left {l k : List (Nat × Nat)} {i : Nat} (h : i < l.length) : fs (l ++ k) i = fs l i ∧ sn (l ++ k) i = sn l i := by
  simp [fs, sn, List.getElem?_append_left h]
theorem fs_append_right {l k : List (Nat × Nat)} {i : Nat} (h : l.length ≤ i) : fs (l ++ k) i = fs k (i - l.length) ∧ sn (l ++ k) i = sn k (i - l.length) := by
  simp [fs, sn, List.getElem?_append_right h]

theorem In.append {l k : List (Nat × Nat)} {b : Nat} : In (l ++ k) b ↔ In l b ∨ In k b := by
  constructor
  · rintro ⟨i, hi, h1, h2⟩
    rcases Nat.lt_or_ge i l.length with h | h
    · rw [(fs_append_left h).1] at h1 h2; rw [(fs_append_left h).2] at h2; exact .inl ⟨i, h, h1, h2⟩
    · rw [(fs_append_right h).1] at h1 h2; rw [(fs_append_right h).2] at h2
      exact .inr ⟨i - l.length, by simp at hi; omega, h1, h2⟩
  · rintro (⟨i, hi, h1, h2⟩ | ⟨i, hi, h1, h2⟩)
    · exact ⟨i, by simp; omega, by rw [(fs_append_left hi).1]; exact h1, by rw [(fs_append_left hi).1, (fs_append_left hi).2]; exact h2⟩
    · have hr : l.length ≤ l.length + i := by omega
      have e : l.length + i - l.length = i := by omega
      refine ⟨l.length + i, by simp; omega, ?_, ?_⟩
      · rw [(fs_append_right hr).1, e]; exact h1
      · rw [(fs_append_right hr).1, (fs_append_right hr).2, e]; exact h2

/-- Two lists of spans that rise, one far enough behind the other. -/
theorem Canon.append {l k : List (Nat × Nat)} {m : Nat} (hl : Canon l m) (hk : Canon k m) (hg : ∀ i j, i < l.length → j < k.length → fs l i + sn l i < fs k j) : Canon (l ++ k) m := by
  refine ⟨fun i hi => ?_, fun i hi => ?_, fun i j hij hj => ?_⟩
  · simp at hi
    rcases Nat.lt_or_ge i l.length with h | h
    · rw [(fs_append_left h).2]; exact hl.one i h
    · rw [(fs_append_right h).2]; exact hk.one _ (by omega)
  · simp at hi
    rcases Nat.lt_or_ge i l.length with h | h
    · rw [(fs_append_left h).1, (fs_append_left h).2]; exact hl.top i h
    · rw [(fs_append_right h).1, (fs_append_right h).2]; exact hk.top _ (by omega)
  · simp at hj
    rcases Nat.lt_or_ge j l.length with h | h
    · rw [(fs_append_left (show i < l.length by omega)).1, (fs_append_left (show i < l.length by omega)).2, (fs_append_left h).1]; exact hl.gap i j hij h
    · rw [(fs_append_right h).1]
      rcases Nat.lt_or_ge i l.length with h' | h'
      · rw [(fs_append_left h').1, (fs_append_left h').2]; exact hg i _ h' (by omega)
      · rw [(fs_append_right h').1, (fs_append_right h').2]; exact hk.gap _ _ (by omega) (by omega)

theorem fs_take {l : List (Nat × Nat)} {i p : Nat} (h : p < i) : fs (l.take i) p = fs l p ∧ sn (l.take i) p = sn l p := by
  simp [fs, sn, h]
theorem fs_drop {l : List (Nat × Nat)} {i p : Nat} : fs (l.drop i) p = fs l (i + p) ∧ sn (l.drop i) p = sn l (i + p) := by
  simp [fs, sn, List.getElem?_drop]
theorem Canon.take {l : List (Nat × Nat)} {m : Nat} (h : Canon l m) (i : Nat) : Canon (l.take i) m := by
  refine ⟨fun p hp => ?_, fun p hp => ?_, fun p q hpq hq => ?_⟩
  · simp at hp; rw [(fs_take (by omega)).2]; exact h.one p (by omega)
  · simp at hp; rw [(fs_take (by omega)).1, (fs_take (by omega)).2]; exact h.top p (by omega)
  · simp at hq; rw [(fs_take (show p < i by omega)).1, (fs_take (show p < i by omega)).2, (fs_take (show q < i by omega)).1]; exact h.gap p q hpq (by omega)
theorem Canon.drop {l : List (Nat × Nat)} {m : Nat} (h : Canon l m) (i : Nat) : Canon (l.drop i) m := by
  refine ⟨fun p hp => ?_, fun p hp => ?_, fun p q hpq hq => ?_⟩
  · simp at hp; rw [fs_drop.2]; exact h.one _ (by omega)
  · simp at hp; rw [fs_drop.1, fs_drop.2]; exact h.top _ (by omega)
  · simp at hq; rw [fs_drop.1, fs_drop.2, fs_drop.1]; exact h.gap _ _ (by omega) (by omega)
theorem Canon.single {x y m : Nat} (h1 : 1 ≤ y) (h2 : x + y ≤ m) : Canon [(x, y)] m :=
  ⟨fun i hi => by simp at hi; subst hi; exact h1, fun i hi => by simp at hi; subst hi; exact h2, fun i j hij hj => by simp at hj; omega⟩
theorem In.single {x y b : Nat} : In [(x, y)] b ↔ x ≤ b ∧ b < x + y := by
  rw [In.head]
  constructor
  · rintro (h | ⟨i, hi, _⟩)
    · exact h
    · simp at hi
  · exact .inl
theorem In.take {l : List (Nat × Nat)} {i b : Nat} : In (l.take i) b ↔ ∃ p, p < i ∧ p < l.length ∧ fs l p ≤ b ∧ b < fs l p + sn l p := by
  constructor
  · rintro ⟨p, hp, h1, h2⟩
    simp at hp
    rw [(fs_take (by omega)).1] at h1; rw [(fs_take (by omega)).1, (fs_take (by omega)).2] at h2
    exact ⟨p, by omega, by omega, h1, h2⟩
  · rintro ⟨p, hp, hl, h1, h2⟩
    exact ⟨p, by simp; omega, by rw [(fs_take hp).1]; exact h1, by rw [(fs_take hp).1, (fs_take hp).2]; exact h2⟩
theorem In.drop {l : List (Nat × Nat)} {i b : Nat} : In (l.drop i) b ↔ ∃ p, i ≤ p ∧ p < l.length ∧ fs l p ≤ b ∧ b < fs l p + sn l p := by
  constructor
  · rintro ⟨p, hp, h1, h2⟩
    simp at hp
    rw [fs_drop.1] at h1; rw [fs_drop.1, fs_drop.2] at h2
    exact ⟨i + p, by omega, by omega, h1, h2⟩
  · rintro ⟨p, hp, hl, h1, h2⟩
    have e : i + (p - i) = p := by omega
    exact ⟨p - i, by simp; omega, by rw [fs_drop.1, e]; exact h1, by rw [fs_drop.1, fs_drop.2, e]; exact h2⟩

/-- The list behind a span is lent that meets none of it: joined with the span that ends at its place, and with the one that begins at its end. -/
theorem Cuts.joined {l : List (Nat × Nat)} {m a n i : Nat} (hl : Canon l m) (hn : 1 ≤ n) (ham : a + n ≤ m) (c : Cuts l a n i i) (f t A L : Nat)
    (hf : (f = i ∧ (∀ p, p < i → fs l p + sn l p < a) ∧ A = a) ∨ (f + 1 = i ∧ fs l f + sn l f = a ∧ A = fs l f))
    (ht : (t = i ∧ (∀ p, i ≤ p → p < l.length → a + n < fs l p) ∧ A + L = a + n) ∨ (t = i + 1 ∧ i < l.length ∧ fs l i = a + n ∧ A + L = fs l i + sn l i)) :
    Canon (l.take f ++ [(A, L)] ++ l.drop t) m ∧ ∀ b, In (l.take f ++ [(A, L)] ++ l.drop t) b ↔ In l b ∨ (a ≤ b ∧ b < a + n) := by
  have hin := c.jn
  have hA : A ≤ a := by
    rcases hf with ⟨_, _, h⟩ | ⟨_, h1, h2⟩ <;> omega
  have hAL : a + n ≤ A + L := by rcases ht with ⟨_, _, h⟩ | ⟨_, _, h1, h2⟩ <;> omega
  have htop : A + L ≤ m := by
    rcases ht with ⟨_, _, h⟩ | ⟨_, hi, h1, h2⟩
    · omega
    · have := hl.top i hi; omega
  have c1 : Canon (l.take f ++ [(A, L)]) m := by
    refine (hl.take f).append (Canon.single (by omega) htop) (fun p q hp hq => ?_)
    simp at hq hp; subst hq
    rw [(fs_take (by omega)).1, (fs_take (by omega)).2]
    show _ < A
    rcases hf with ⟨h1, h2, h3⟩ | ⟨h1, h2, h3⟩
    · have := h2 p (by omega); omega
    · have := hl.gap p f (by omega) (by omega); omega
  have c2 : Canon (l.take f ++ [(A, L)] ++ l.drop t) m := by
    refine c1.append (hl.drop t) (fun p q hp hq => ?_)
    simp at hq
    rw [fs_drop.1]
    have hq' : A + L < fs l (t + q) := by
      rcases ht with ⟨h1, h2, h3⟩ | ⟨h1, h2, h3, h4⟩
      · have := h2 (t + q) (by omega) (by omega); omega
      · have := hl.gap i (t + q) (by omega) (by omega); omega
    simp at hp
    rcases Nat.lt_or_ge p (l.take f).length with h | h
    · rw [(fs_append_left h).1, (fs_append_left h).2]
      simp at h
      rw [(fs_take (by omega)).1, (fs_take (by omega)).2]
      have : fs l p + sn l p ≤ A := by
        rcases hf with ⟨h1, h2, h3⟩ | ⟨h1, h2, h3⟩
        · have := h2 p (by omega); omega
        · have := hl.gap p f (by omega) (by omega); omega
      omega
    · rw [(fs_append_right h).1, (fs_append_right h).2]
      have e : p - (l.take f).length = 0 := by simp at h ⊢; omega
      rw [e]; show A + L < _; exact hq'
  refine ⟨c2, fun b => ?_⟩
  rw [In.append, In.append, In.single, In.take, In.drop]
  constructor
  · rintro ((⟨p, hp, hpl, h1, h2⟩ | ⟨h1, h2⟩) | ⟨p, hp, hpl, h1, h2⟩)
    · exact .inl ⟨p, hpl, h1, h2⟩
    · rcases Nat.lt_or_ge b a with h | h
      · rcases hf with ⟨q1, q2, q3⟩ | ⟨q1, q2, q3⟩
        · omega
        · exact .inl ⟨f, by omega, by omega, by omega⟩
      · rcases Nat.lt_or_ge b (a + n) with h' | h'
        · exact .inr ⟨h, h'⟩
        · rcases ht with ⟨q1, q2, q3⟩ | ⟨q1, q2, q3, q4⟩
          · omega
          · exact .inl ⟨i, q2, by omega, by omega⟩
    · exact .inl ⟨p, hpl, h1, h2⟩
  · rintro (⟨p, hp, h1, h2⟩ | ⟨h1, h2⟩)
    · rcases Nat.lt_or_ge p f with h | h
      · exact .inl (.inl ⟨p, h, hp, h1, h2⟩)
      · rcases Nat.lt_or_ge p t with h' | h'
        · refine .inl (.inr ?_)
          rcases hf with ⟨q1, q2, q3⟩ | ⟨q1, q2, q3⟩ <;> rcases ht with ⟨r1, r2, r3⟩ | ⟨r1, r2, r3, r4⟩
          · omega
          · obtain rfl : p = i := by omega
            omega
          · obtain rfl : p = f := by omega
            omega
          · rcases Nat.eq_or_lt_of_le h with e | e
            · subst e; omega
            · obtain rfl : p = i := by omega
              omega
        · exact .inr ⟨p, h', hp, h1, h2⟩
    · exact .inl (.inr ⟨by omega, by omega⟩)

theorem wo_mem {x y a n b : Nat} (hx : x ≤ a) (han : a + n ≤ x + y) : In (wo x y a n) b ↔ (x ≤ b ∧ b < x + y) ∧ ¬ (a ≤ b ∧ b < a + n) := by
  rw [wo, In.append]
  have h1 : In (if x < a then [(x, a - x)] else []) b ↔ x ≤ b ∧ b < a := by
    split
    · rw [In.single]; omega
    · constructor
      · rintro ⟨i, hi, _⟩; simp at hi
      · omega
  have h2 : In (if a + n < x + y then [(a + n, x + y - (a + n))] else []) b ↔ a + n ≤ b ∧ b < x + y := by
    split
    · rw [In.single]; omega
    · constructor
      · rintro ⟨i, hi, _⟩; simp at hi
      · omega
  rw [h1, h2]; omega
theorem wo_canon {x y a n m : Nat} (hn : 1 ≤ n) (hx : x ≤ a) (han : a + n ≤ x + y) (hm : x + y ≤ m) : Canon (wo x y a n) m := by
  unfold wo
  by_cases h1 : x < a <;> by_cases h2 : a + n < x + y <;> simp only [h1, h2, if_true, if_false, List.nil_append, List.append_nil]
  · exact (Canon.single (by omega) (by omega)).append (Canon.single (by omega) (by omega)) (fun i j hi hj => by simp at hi hj; subst hi; subst hj; show x + (a - x) < a + n; omega)
  · exact Canon.single (by omega) (by omega)
  · exact Canon.single (by omega) (by omega)
  · exact Canon.nil m
theorem wo_len (x y a n : Nat) : (wo x y a n).length ≤ 2 := by
  unfold wo; split <;> split <;> simp

/-- The list behind a span is taken out of one that has it. -/
theorem taken {l : List (Nat × Nat)} {m a n i : Nat} (hl : Canon l m) (hn : 1 ≤ n) (hi : i < l.length) (hx : fs l i ≤ a) (han : a + n ≤ fs l i + sn l i) :
    Canon (l.take i ++ wo (fs l i) (sn l i) a n ++ l.drop (i + 1)) m ∧ ∀ b, In (l.take i ++ wo (fs l i) (sn l i) a n ++ l.drop (i + 1)) b ↔ In l b ∧ ¬ (a ≤ b ∧ b < a + n) := by
  have ht := hl.top i hi
  have hw := wo_canon hn hx han ht
  have hb : ∀ q, q < (wo (fs l i) (sn l i) a n).length → fs l i ≤ fs (wo (fs l i) (sn l i) a n) q ∧ fs (wo (fs l i) (sn l i) a n) q + sn (wo (fs l i) (sn l i) a n) q ≤ fs l i + sn l i := by
    intro q hq
    have h1 : In (wo (fs l i) (sn l i) a n) (fs (wo (fs l i) (sn l i) a n) q) := ⟨q, hq, Nat.le_refl _, by have := hw.one q hq; omega⟩
    have h2 : In (wo (fs l i) (sn l i) a n) (fs (wo (fs l i) (sn l i) a n) q + sn (wo (fs l i) (sn l i) a n) q - 1) := ⟨q, hq, by have := hw.one q hq; omega, by have := hw.one q hq; omega⟩
    rw [wo_mem hx han] at h1 h2
    have := hw.one q hq
    omega
  have c1 : Canon (l.take i ++ wo (fs l i) (sn l i) a n) m := (hl.take i).append hw (fun p q hp hq => by
    simp at hp
    rw [(fs_take (by omega)).1, (fs_take (by omega)).2]
    have := hl.gap p i (by omega) hi; have := hb q hq; omega)
  have c2 := c1.append (hl.drop (i + 1)) (fun p q hp hq => by
    simp at hq
    rw [fs_drop.1]
    have hg := hl.gap i (i + 1 + q) (by omega) (by omega)
    rcases Nat.lt_or_ge p (l.take i).length with h | h
    · rw [(fs_append_left h).1, (fs_append_left h).2]
      simp at h
      rw [(fs_take (by omega)).1, (fs_take (by omega)).2]
      have := hl.mono p i (by omega) hi; omega
    · rw [(fs_append_right h).1, (fs_append_right h).2]
      have := hb (p - (l.take i).length) (by simp at hp h ⊢; omega); omega)
  refine ⟨c2, fun b => ?_⟩
  rw [In.append, In.append, wo_mem hx han, In.take, In.drop]
  constructor
  · rintro ((⟨p, hp, hpl, h1, h2⟩ | ⟨⟨h1, h2⟩, h3⟩) | ⟨p, hp, hpl, h1, h2⟩)
    · exact ⟨⟨p, hpl, h1, h2⟩, by have := hl.gap p i hp hi; omega⟩
    · exact ⟨⟨i, hi, h1, h2⟩, h3⟩
    · exact ⟨⟨p, hpl, h1, h2⟩, by have := hl.gap i p (by omega) hpl; omega⟩
  · rintro ⟨⟨p, hp, h1, h2⟩, h3⟩
    rcases Nat.lt_trichotomy p i with h | h | h
    · exact .inl (.inl ⟨p, h, hp, h1, h2⟩)
    · subst h; exact .inl (.inr ⟨⟨h1, h2⟩, h3⟩)
    · exact .inr ⟨p, by omega, hp, h1, h2⟩
end Go.Proofs.Ytfiaciniikcacaa
