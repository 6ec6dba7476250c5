/-
  What one step of a script does to a memory, whichever call it is: which bytes it may change, and whether what is lent stays ('Does'). No statement is proved here.
-/
import Derived.Test.YtbkfgidmjkbfmaaLawB
namespace Go.Proofs.Ytbkfgidmjkbfmaa
open Go.RowKit Go.BigFrame
set_option linter.unusedVariables false
set_option linter.unusedSimpArgs false
set_option maxRecDepth 1000000
set_option maxHeartbeats 4000000

theorem put_other (bs s : List UInt8) (a j : Nat) (h : a + s.length ≤ bs.length) (hj : j < a ∨ a + s.length ≤ j) : (bs.take a ++ s ++ bs.drop (a + s.length))[j]? = bs[j]? := by
  rcases hj with hj | hj
  · rw [List.append_assoc, List.getElem?_append_left (by simp; omega), List.getElem?_take, if_pos hj]
  · rw [List.getElem?_append_right (by simp; omega), List.getElem?_drop]
    congr 1
    simp; omega
theorem put_where (bs : List UInt8) (s : ByteArray) (a j : Nat) (h : a + s.size ≤ bs.length) (hj : (bs.take a ++ s.data.toList ++ bs.drop (a + s.size))[j]? ≠ bs[j]?) : a ≤ j ∧ j < a + s.size := by
  rcases Nat.lt_or_ge j a with h1 | h1
  · exact absurd (put_other bs s.data.toList a j h (.inl h1)) hj
  · rcases Nat.lt_or_ge j (a + s.size) with h2 | h2
    · exact ⟨h1, h2⟩
    · exact absurd (put_other bs s.data.toList a j h (.inr h2)) hj

/-- What a step does: c is what it answers; dr, dv: was it the driver's, the device's writing? -/
def Does (w w' : World) (bM bm bb k : Nat) (lv : Value) (l : List (Nat × Nat)) (bs : List UInt8) (c : Int) (dr dv : Bool) : Prop :=
  ∃ lv' l' bs', MemA w' bM bm bb k lv' l' bs' ∧ (∀ j, bs'[j]? ≠ bs[j]? → c = 0 ∧ (In l j → dv = true) ∧ (¬ In l j → dr = true)) ∧ ((c ≠ 0 ∨ dr = true ∨ dv = true) → l' = l) ∧
    (∀ g, lv'.ownBlock = some g → lo w lv ≤ g) ∧ Fr (bm :: bb :: lv.ownBlock.toList) w w'

theorem Does.same {w w' : World} {bM bm bb k : Nat} {lv : Value} {l : List (Nat × Nat)} {bs : List UInt8} (c : Int) (dr dv : Bool) (hM : MemA w bM bm bb k lv l bs) (hF : Fr [] w w') : Does w w' bM bm bb k lv l bs c dr dv :=
  ⟨lv, l, bs, hM.fr0 hF, fun j h => absurd rfl h, fun _ => rfl, fun g hg => lo_own hg, hF.mono (by simp)⟩
theorem Does.ofWrites {w w' : World} {bM bm bb k a : Nat} {lv : Value} {l : List (Nat × Nat)} {bs : List UInt8} {s : ByteArray} {c : Int} (hM : MemA w bM bm bb k lv l bs) (h : Writes w w' bM bm bb k a lv l bs s c) : Does w w' bM bm bb k lv l bs c true false := by
  rcases h with ⟨h1, h2, h3⟩ | ⟨h1, h2, h3, h4⟩ | ⟨h1, h2, h3, h4, h5⟩
  · exact Does.same c true false hM h3
  · exact Does.same c true false hM h4
  · refine ⟨lv, l, _, h4, fun j hj => ⟨h1, fun hi => ?_, fun _ => rfl⟩, fun _ => rfl, fun g hg => lo_own hg, h5.mono (by simp)⟩
    have := put_where bs s a j (by rw [hM.len]; exact h2) hj
    exact absurd ⟨j, this.1, this.2, hi⟩ h3
theorem Does.ofDevs {w w' : World} {bM bm bb k a : Nat} {lv : Value} {l : List (Nat × Nat)} {bs : List UInt8} {s : ByteArray} {c : Int} (hM : MemA w bM bm bb k lv l bs) (h : Devs w w' bM bm bb k a lv l bs s c) : Does w w' bM bm bb k lv l bs c false true := by
  rcases h with ⟨h1, h2, h3⟩ | ⟨h1, h2, h3, h4⟩ | ⟨h1, h2, h3, h4, h5⟩
  · exact Does.same c false true hM h3
  · exact Does.same c false true hM h4
  · refine ⟨lv, l, _, h4, fun j hj => ⟨h1, fun _ => rfl, fun hi => ?_⟩, fun _ => rfl, fun g hg => lo_own hg, h5.mono (by simp)⟩
    have := put_where bs s a j (by rw [hM.len]; exact h2) hj
    exact absurd (h3 j this.1 this.2) hi
theorem Does.ofLends {w w' : World} {bM bm bb k a n : Nat} {lv : Value} {l : List (Nat × Nat)} {bs : List UInt8} {c : Int} (hM : MemA w bM bm bb k lv l bs) (h : Lends w w' bm bb k a n lv l c) : Does w w' bM bm bb k lv l bs c false false := by
  rcases h with ⟨h1, h2, h3⟩ | ⟨h1, h2, h3, h4, h5⟩ | ⟨h1, h2, h3, h4, lv', l', h5, h6, hL, h7⟩
  · exact Does.same c false false hM h3
  · exact Does.same c false false hM h5
  · refine ⟨lv', l', bs, hM.mid' h5 h7, fun j hj => absurd rfl hj, fun h => ?_, hL, h7.mono (fun t ht => ?_)⟩
    · rcases h with h | h | h
      · exact absurd h1 h
      · cases h
      · cases h
    · simp only [List.mem_cons] at ht ⊢
      rcases ht with ht | ht
      · exact .inl ht
      · exact .inr (.inr ht)
theorem Does.ofBacks {w w' : World} {bM bm bb k a n : Nat} {lv : Value} {l : List (Nat × Nat)} {bs : List UInt8} {c : Int} (hM : MemA w bM bm bb k lv l bs) (h : Backs w w' bm bb k a n lv l c) : Does w w' bM bm bb k lv l bs c false false := by
  rcases h with ⟨h1, h2, h3⟩ | ⟨h1, h2, h3, h4, h5⟩ | ⟨h1, h2, h3, h4, lv', l', h5, h6, hL, h7⟩
  · exact Does.same c false false hM h3
  · exact Does.same c false false hM h5
  · refine ⟨lv', l', bs, hM.mid' h5 h7, fun j hj => absurd rfl hj, fun h => ?_, hL, h7.mono (fun t ht => ?_)⟩
    · rcases h with h | h | h
      · exact absurd h1 h
      · cases h
      · cases h
    · simp only [List.mem_cons] at ht ⊢
      rcases ht with ht | ht
      · exact .inl ht
      · exact .inr (.inr ht)
end Go.Proofs.Ytbkfgidmjkbfmaa
