/-
  What lies between lending or taking back in the program's memory and in the document's. No statement is proved here.
-/
import Derived.Test.YtbkfgidmjkbfmaaStepA
namespace Go.Proofs.Ytbkfgidmjkbfmaa
open Go.RowKit Go.BigFrame
set_option linter.unusedVariables false
set_option linter.unusedSimpArgs false
set_option maxRecDepth 1000000
set_option maxHeartbeats 4000000

/-- Between the program's lending or taking back and the document's. -/
def LMid (w0 w1 : World) (bM bm bb br bB bL k : Nat) (o : Option PB) (l : List (Nat × Nat)) (bs ws : List UInt8) (a n : Nat) (t : Bool) (err c : Int) : Prop :=
  ∃ lv' l', Duo w0 w1 bM bm bb br bB bL k o lv' l' bs ws l bs ws ∧ ((c = 10 ∧ (n = 0 ∨ k < a + n) ∧ l' = l) ∨ (c = err ∧ 1 ≤ n ∧ a + n ≤ k ∧ (¬ ∀ j, a ≤ j → j < a + n → (In l j ↔ (!t) = true)) ∧ l' = l) ∨
    (c = 0 ∧ 1 ≤ n ∧ a + n ≤ k ∧ (∀ j, a ≤ j → j < a + n → (In l j ↔ (!t) = true)) ∧ ∀ j, In l' j ↔ (if a ≤ j ∧ j < a + n then t = true else In l j)))
theorem lmid_lend {w0 w w1 : World} {bM bm bb br bB bL k a n : Nat} {o : Option PB} {lv : Value} {l : List (Nat × Nat)} {bs ws : List UInt8} {c : Int} (h : Duo w0 w bM bm bb br bB bL k o lv l bs ws l bs ws) (hL : Lends w w1 bm bb k a n lv l c) : LMid w0 w1 bM bm bb br bB bL k o l bs ws a n true 11 c := by
  rcases hL with ⟨h1, h2, h3⟩ | ⟨h1, h2, h3, h4, h5⟩ | ⟨h1, h2, h3, h4, lv', l', h5, h6, h8, h7⟩
  · exact ⟨lv, l, h.fr0 h3, .inl ⟨h1, h2, rfl⟩⟩
  · refine ⟨lv, l, h.fr0 h5, .inr (.inl ⟨h1, h2, h3, fun g => ?_, rfl⟩)⟩
    obtain ⟨b, b1, b2, b3⟩ := h4
    exact absurd ((g b b1 b2).1 b3) (by decide)
  · have hS : ∀ t, t ∈ bm :: lv.ownBlock.toList → t = bm ∨ t = bb ∨ lv.ownBlock = some t := fun t ht => by
      simp only [List.mem_cons, Option.mem_toList] at ht
      rcases ht with e | e
      · exact .inl e
      · exact .inr (.inr e)
    refine ⟨lv', l', h.real _ (h.mem.mid' h5 h7) (h.keepPool h7 hS) rfl h8 h7 (fun t ht => by rcases hS t ht with e | e | e; exact .inl e; exact .inr (.inl e); exact .inr (.inr (.inl e))), .inr (.inr ⟨h1, h2, h3, fun j j1 j2 => ⟨fun g => absurd g (h4 j j1 j2), fun g => by cases g⟩, fun j => ?_⟩)⟩
    rw [h6]
    by_cases hr : a ≤ j ∧ j < a + n
    · rw [if_pos hr]; exact ⟨fun _ => rfl, fun _ => .inr hr⟩
    · rw [if_neg hr]; exact ⟨fun g => g.elim (fun g => g) (fun g => absurd g hr), .inl⟩
theorem lmid_back {w0 w w1 : World} {bM bm bb br bB bL k a n : Nat} {o : Option PB} {lv : Value} {l : List (Nat × Nat)} {bs ws : List UInt8} {c : Int} (h : Duo w0 w bM bm bb br bB bL k o lv l bs ws l bs ws) (hL : Backs w w1 bm bb k a n lv l c) : LMid w0 w1 bM bm bb br bB bL k o l bs ws a n false 12 c := by
  rcases hL with ⟨h1, h2, h3⟩ | ⟨h1, h2, h3, h4, h5⟩ | ⟨h1, h2, h3, h4, lv', l', h5, h6, h8, h7⟩
  · exact ⟨lv, l, h.fr0 h3, .inl ⟨h1, h2, rfl⟩⟩
  · exact ⟨lv, l, h.fr0 h5, .inr (.inl ⟨h1, h2, h3, fun g => h4 (fun b b1 b2 => (g b b1 b2).2 rfl), rfl⟩)⟩
  · have hS : ∀ t, t ∈ bm :: lv.ownBlock.toList → t = bm ∨ t = bb ∨ lv.ownBlock = some t := fun t ht => by
      simp only [List.mem_cons, Option.mem_toList] at ht
      rcases ht with e | e
      · exact .inl e
      · exact .inr (.inr e)
    refine ⟨lv', l', h.real _ (h.mem.mid' h5 h7) (h.keepPool h7 hS) rfl h8 h7 (fun t ht => by rcases hS t ht with e | e | e; exact .inl e; exact .inr (.inl e); exact .inr (.inr (.inl e))), .inr (.inr ⟨h1, h2, h3, fun j j1 j2 => ⟨fun g => rfl, fun g => h4 j j1 j2⟩, fun j => ?_⟩)⟩
    rw [h6]
    by_cases hr : a ≤ j ∧ j < a + n
    · rw [if_pos hr]; exact ⟨fun g => absurd hr g.2, fun g => by cases g⟩
    · rw [if_neg hr]; exact ⟨fun g => g.1, fun g => ⟨g, hr⟩⟩
theorem Turned.ref {w w' : World} {br bB bL k a n : Nat} {t : Bool} {l l' : List (Nat × Nat)} {bs : List UInt8} (h : Turned w w' bL k a n t l) (hR : RefA w br bB bL k l bs) (hl : ∀ j, In l' j ↔ (if a ≤ j ∧ j < a + n then t = true else In l j)) : RefA w' br bB bL k l' bs ∧ Fr [bL] w w' := by
  obtain ⟨ls, g1, g2, g3, g4⟩ := h
  have ne := hR.ne
  exact ⟨⟨g4.heap hR.blk (by simpa using ne.2.1), g4.heap hR.bytes (by simpa using ne.2.2), ⟨ls, g1, fun j hj => by rw [g2 j hj, hl j], g3⟩, hR.len, hR.top⟩, g4⟩
theorem lmid_ref {w0 w1 w2 W : World} {bM bm bb br bB bL k a n : Nat} {o : Option PB} {l : List (Nat × Nat)} {bs ws : List UInt8} {t : Bool} {err c c' : Int} (h : LMid w0 w1 bM bm bb br bB bL k o l bs ws a n t err c) (hF : Fr [] w1 W) (hr : RTurns W w2 bL k a n t err l c') :
    c' = c ∧ TwoK w0 w2 bM bm bb br bB bL k o := by
  obtain ⟨lv', l', hD, hc⟩ := h
  have hD' := hD.fr0 hF
  rcases hr with ⟨r1, r2, r3⟩ | ⟨r1, r2, r3, r4, r5⟩ | ⟨r1, r2, r3, r4, r5⟩
  · rcases hc with ⟨c1, c2, rfl⟩ | ⟨c1, c2, c3, _⟩ | ⟨c1, c2, c3, _⟩
    · exact ⟨by rw [r1, c1], _, _, _, _, hD'.fr0 r3⟩
    · omega
    · omega
  · rcases hc with ⟨c1, c2, _⟩ | ⟨c1, c2, c3, c4, rfl⟩ | ⟨c1, c2, c3, c4, _⟩
    · omega
    · exact ⟨by rw [r1, c1], _, _, _, _, hD'.fr0 r5⟩
    · exact absurd c4 r4
  · rcases hc with ⟨c1, c2, _⟩ | ⟨c1, c2, c3, c4, _⟩ | ⟨c1, c2, c3, c4, c5⟩
    · omega
    · exact absurd r4 c4
    · have g := r5.ref hD'.ref c5
      exact ⟨by rw [r1, c1], _, _, _, _, hD'.turn [bL] g.1 (hD'.keepRpool g.2 (fun t ht => .inr (by simpa using ht))) rfl g.2 (fun t ht => .inr (.inl (by simpa using ht)))⟩
theorem lends_fr {w w1 : World} {bm bb k a n : Nat} {lv : Value} {l : List (Nat × Nat)} {c : Int} (h : Lends w w1 bm bb k a n lv l c) : Fr (bm :: lv.ownBlock.toList) w w1 := by
  rcases h with ⟨_, _, h3⟩ | ⟨_, _, _, _, h4⟩ | ⟨_, _, _, _, _, _, _, _, _, h5⟩
  · exact h3.mono (by simp)
  · exact h4.mono (by simp)
  · exact h5
theorem backs_fr {w w1 : World} {bm bb k a n : Nat} {lv : Value} {l : List (Nat × Nat)} {c : Int} (h : Backs w w1 bm bb k a n lv l c) : Fr (bm :: lv.ownBlock.toList) w w1 := by
  rcases h with ⟨_, _, h3⟩ | ⟨_, _, _, _, h4⟩ | ⟨_, _, _, _, _, _, _, _, _, h5⟩
  · exact h3.mono (by simp)
  · exact h4.mono (by simp)
  · exact h5
end Go.Proofs.Ytbkfgidmjkbfmaa
