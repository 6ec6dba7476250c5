/-
  flow: the document's queue: how many are held, which are free, how many come next. No statement is proved here.
-/
import Derived.Test.YtkjfecdpakhggaaRfA
namespace Go.Proofs.Ytkjfecdpakhggaa
open Go.RowKit
set_option linter.unusedVariables false
set_option linter.unusedSimpArgs false
set_option maxRecDepth 100000

theorem bifT {c : Bool} {p q : Prop} (h : c = true) (hp : p) : bif c then p else q := by rw [h]; exact hp
theorem bifF {c : Bool} {p q : Prop} (h : c = false) (hq : q) : bif c then p else q := by rw [h]; exact hq
theorem bTF (b : Bool) : b = true ∨ b = false := by cases b <;> simp
theorem of_ilt {a b : Int} (h : ilt a b = true) : a < b := of_decide_eq_true ((ilt_eq _ _).symm.trans h)
theorem of_nilt {a b : Int} (h : ilt a b = false) : ¬ a < b := of_decide_eq_false ((ilt_eq _ _).symm.trans h)
theorem inRn {i n : Nat} (h : i < n) : inR (i : Int) n = true := inR_iff.2 (by omega)
theorem rok1 {i m : Nat} (h : i < m) : rok 0 i 1 fUb [] m = true := rok_iff.2 ⟨rfl, by decide, Nat.le_refl _, rfl, h⟩
/-- Whether a byte is held so far behind the next one. -/
def isB (l : List Ub) (i : Nat) : Bool := (l.getD i (rz fUb)).fst
def hdN (l : List Ub) : Nat → Nat
  | 0 => 0
  | i + 1 => hdN l i + (bif isB l i then 1 else 0)
theorem hdN_le (l : List Ub) : ∀ i, hdN l i ≤ i
  | 0 => Nat.le_refl _
  | i + 1 => by
    have := hdN_le l i
    unfold hdN
    cases isB l i <;> simp only [cond_true, cond_false] <;> omega
theorem loopHd (a : BitVec 32) (z e : Int) (he ed : Bool) (rd : List (BitVec 8)) (n : Nat) (l : List Ub) (m : List (BitVec 8)) (hl : l.length = n) (hn : n ≤ 4294967296) : LOk Try.prog G (mD a z e he ed rd n l m) 25 (LHd a z e he ed rd n l m (hdN l n)) := by
  refine LT.add_ok (noL_ok _ _ _ _) (loop_next e0_ok mixed (noL_ok _ _ _ _) (Nat.zero_le _) (by kernel_rfl) (fun i => iHd (hdN l i) i) (fun _ => mD a z e he ed rd n l m) (fun i => i ≤ n) (fun i => n - i) (fun i => i + 1) 0 (Nat.zero_le _) (fun i hp => of_eq (rHd a z e he ed rd n l m (hdN l i) (hdN l (i + 1)) (hdN l n) i _) ?_))
  have hle := hdN_le l i
  rcases bTF (ilt (i : Int) (n : Int)) with hc | hc
  · have hi : i < n := by have := of_ilt hc; omega
    refine bifT hc (bif_of (inRn hi) (bif_of (rok1 (by omega)) ?_))
    rcases bTF (isB l i) with hb | hb
    · refine bifT hb (bif_of (inI_iff.2 (by omega)) (bif_of (inI_iff.2 (by omega)) ⟨⟨hi, by show n - (i + 1) < n - i; omega⟩, rfl, congrArg SV.i ?_, rfl, ⟨rfl, rfl⟩, ⟨rfl, rfl⟩, ⟨rfl, rfl⟩, trivial⟩))
      conv => rhs; unfold hdN
      rw [hb]; rfl
    · refine bifF hb (bif_of (inI_iff.2 (by omega)) ⟨⟨hi, by show n - (i + 1) < n - i; omega⟩, rfl, congrArg SV.i ?_, rfl, ⟨rfl, rfl⟩, ⟨rfl, rfl⟩, ⟨rfl, rfl⟩, trivial⟩)
      conv => rhs; unfold hdN
      rw [hb]; rfl
  · have hi : i = n := by
      have := of_nilt hc
      replace hp : i ≤ n := hp
      omega
    subst hi
    exact bifF hc ⟨rfl, rfl, ⟨rfl, rfl⟩, ⟨rfl, rfl⟩, ⟨rfl, rfl⟩, trivial⟩
-- which are free, from i0 on
def frN (l : List Ub) (i0 : Nat) : Nat → Bool
  | 0 => true
  | j + 1 => bif frN l i0 j then !isB l (i0 + j) else false
def LFr (a : BitVec 32) (z e : Int) (he ed : Bool) (rd : List (BitVec 8)) (n : Nat) (l : List Ub) (m : List (BitVec 8)) (e0 : Int) (h0 : Bool) (r0 : List (BitVec 8)) (l0 : List Ub) (m0 : List (BitVec 8)) (old en : BitVec 32) (i0 : Nat) : LT := noL.add 2 (vLoop (mD a z e0 h0 ed r0 n l0 m0) 284 (iFr old en true i0) (mD a z e he ed rd n l m) (oFr old en (frN l i0 (n - i0))) (mD a z e he ed rd n l m))
theorem loopFr (a : BitVec 32) (z e : Int) (he ed : Bool) (rd : List (BitVec 8)) (n : Nat) (l : List Ub) (m : List (BitVec 8)) (e0 : Int) (h0 : Bool) (r0 : List (BitVec 8)) (l0 : List Ub) (m0 : List (BitVec 8)) (old en : BitVec 32) (i0 : Nat) (hl : l.length = n) (hn : n ≤ 4294967296) (hi0 : i0 ≤ 4294967296) : LOk Try.prog G (mD a z e0 h0 ed r0 n l0 m0) 19 (LFr a z e he ed rd n l m e0 h0 r0 l0 m0 old en i0) := by
  refine LT.add_ok (noL_ok _ _ _ _) (loop_next ew_ok mixed (noL_ok _ _ _ _) (Nat.zero_le _) (by kernel_rfl) (fun j => iFr old en (frN l i0 j) (i0 + j)) (fun _ => mD a z e he ed rd n l m) (fun j => j ≤ n - i0) (fun j => n - i0 - j) (fun j => j + 1) 0 (Nat.zero_le _) (fun j hp => of_eq (rFr a z e he ed rd n l m e0 h0 r0 l0 m0 old en (frN l i0 j) (frN l i0 (j + 1)) (frN l i0 (n - i0)) (i0 + j) _) ?_))
  replace hp : j ≤ n - i0 := hp
  rcases bTF (ilt ((i0 + j : Nat) : Int) (n : Int)) with hc | hc
  · have hi : i0 + j < n := by have := of_ilt hc; omega
    refine bifT hc ?_
    rcases bTF (frN l i0 j) with hb | hb
    · refine bifT hb (bif_of (inRn hi) (bif_of (rok1 (by omega)) (bif_of (inI_iff.2 (by omega)) ⟨⟨by show j + 1 ≤ n - i0; omega, by show n - i0 - (j + 1) < n - i0 - j; omega⟩, rfl, rfl, rfl, congrArg SV.b ?_, rfl, ⟨rfl, rfl⟩, ⟨rfl, rfl⟩, ⟨rfl, rfl⟩, trivial⟩)))
      conv => rhs; unfold frN
      rw [hb]; rfl
    · refine bifF hb (bif_of (inI_iff.2 (by omega)) ⟨⟨by show j + 1 ≤ n - i0; omega, by show n - i0 - (j + 1) < n - i0 - j; omega⟩, rfl, rfl, rfl, congrArg SV.b ?_, rfl, ⟨rfl, rfl⟩, ⟨rfl, rfl⟩, ⟨rfl, rfl⟩, trivial⟩)
      conv => rhs; unfold frN
      rw [hb]; rfl
  · have hi : j = n - i0 := by have := of_nilt hc; omega
    subst hi
    exact bifF hc ⟨rfl, rfl, rfl, rfl, rfl, ⟨rfl, rfl⟩, ⟨rfl, rfl⟩, ⟨rfl, rfl⟩, trivial⟩
-- how many come next
structure Nx (l : List Ub) (n k : Nat) : Prop where
  le : k ≤ n
  all : ∀ j, j < k → isB l j = true
  stop : k = n ∨ isB l k = false
def LNx (a : BitVec 32) (z e : Int) (he ed : Bool) (rd : List (BitVec 8)) (n : Nat) (l : List Ub) (m : List (BitVec 8)) (e0 : Int) (h0 : Bool) (r0 : List (BitVec 8)) (l0 : List Ub) (m0 : List (BitVec 8)) (old : BitVec 32) (k : Nat) : LT := noL.add 4 (vLoop (mD a z e0 h0 ed r0 n l0 m0) 284 (iNx old 0) (mD a z e he ed rd n l m) (iNx old k) (mD a z e he ed rd n l m))
theorem loopNx (a : BitVec 32) (z e : Int) (he ed : Bool) (rd : List (BitVec 8)) (n : Nat) (l : List Ub) (m : List (BitVec 8)) (e0 : Int) (h0 : Bool) (r0 : List (BitVec 8)) (l0 : List Ub) (m0 : List (BitVec 8)) (old : BitVec 32) (k : Nat) (hl : l.length = n) (hn : n ≤ 4294967296) (hk : Nx l n k) : LOk Try.prog G (mD a z e0 h0 ed r0 n l0 m0) 19 (LNx a z e he ed rd n l m e0 h0 r0 l0 m0 old k) := by
  refine LT.add_ok (noL_ok _ _ _ _) (loop_next ew_ok mixed (noL_ok _ _ _ _) (Nat.zero_le _) (by kernel_rfl) (fun j => iNx old j) (fun _ => mD a z e he ed rd n l m) (fun j => j ≤ k) (fun j => k - j) (fun j => j + 1) 0 (Nat.zero_le _) (fun j hp => of_eq (rNx a z e he ed rd n l m e0 h0 r0 l0 m0 old j k _) ?_))
  replace hp : j ≤ k := hp
  obtain ⟨h1, h2, h3⟩ := hk
  rcases bTF (ilt (j : Int) (n : Int)) with hc | hc
  · have hi : j < n := by have := of_ilt hc; omega
    refine bifT hc (bif_of (inRn hi) (bif_of (rok1 (by omega)) ?_))
    rcases bTF (isB l j) with hb | hb
    · have hjk : j < k := by
        rcases Nat.lt_or_ge j k with q | q
        · exact q
        · obtain rfl : j = k := by omega
          rcases h3 with h3 | h3
          · omega
          · rw [h3] at hb; cases hb
      refine bifT hb (bif_of (inI_iff.2 (by omega)) ⟨⟨hjk, by show k - (j + 1) < k - j; omega⟩, rfl, rfl, rfl, ⟨rfl, rfl⟩, ⟨rfl, rfl⟩, ⟨rfl, rfl⟩, trivial⟩)
    · have hjk : j = k := by
        rcases Nat.lt_or_ge j k with q | q
        · have := h2 j q
          rw [hb] at this; cases this
        · omega
      subst hjk
      exact bifF hb ⟨rfl, rfl, rfl, rfl, ⟨rfl, rfl⟩, ⟨rfl, rfl⟩, ⟨rfl, rfl⟩, trivial⟩
  · have hi : j = k := by have := of_nilt hc; omega
    subst hi
    exact bifF hc ⟨rfl, rfl, rfl, rfl, ⟨rfl, rfl⟩, ⟨rfl, rfl⟩, ⟨rfl, rfl⟩, trivial⟩
end Go.Proofs.Ytkjfecdpakhggaa
