/-
  flow: the document's queue: how many are held, which are free, how many come next. No statement is proved here.
-/
import Derived.Test.YtkjfecdpakhggaaRfA
namespace Go.Proofs.Ytkjfecdpakhggaa
open Go.RowKit
set_option linter.unusedVariables false
set_option linter.unusedSimpArgs false
set_option maxRecDepth 100000

theorem bifT {c : Bool} {p q : Prop} (h : c = true) (hp : p) : bif c then p else q := by rw [h]; exact hp
theorem bifF {c : Bool} {p q : Prop} (h : c = false) (hq : q) : bif c then p else q := by rw [h]; exact hq
theorem bTF (b : Bool) : b = true ∨ b = false := by cases b <;> simp
theorem of_ilt {a b : Int} (h : ilt a b = true) : a < b := of_decide_eq_true ((ilt_eq _ _).symm.trans h)
theorem of_nilt {a b : Int} (h : ilt a b = false) : ¬ a < b := of_decide_eq_false ((ilt_eq _ _).symm.trans h)
theorem inRn {i n : Nat} (h : i < n) : inR (i : Int) n = true := inR_iff.2 (by omega)
theorem rok1 {i m : Nat} (h : i < m) : rok 0 i 1 fUb [] m = true := rok_iff.2 ⟨rfl, by decide, Nat.le_refl _, rfl, h⟩
/-- Whether a byte is held so far behind the next one. -/
def isB (l : List Ub) (i : Nat) : Bool := (l.getD i (rz fUb)).fst
def hdN (l : List Ub) : Nat → Nat
  | 0 => 0
  | i + 1 => hdN l i + (bif isB l i then 1 else 0)
theorem hdN_le (l : List Ub) : ∀ i, hdN l i ≤ i
  | 0 => Nat.le_refl _
  | i + 1 => by
    have := hdN_le l i
    unfold hdN
    cases isB l i <;> simp only [cond_true, cond_false] <;> omega
theorem loopHd (a : BitVec 32) (z e : Int) (he ed : Bool) (rd : List (BitVec 8)) (n : Nat) (l : List Ub) (m : List (BitVec 8)) (hl : l.length = n) (hn : n ≤ 4294967296) : LOk Try.prog G (mD a z e he ed rd n l m) 25 (LHd a z e he ed rd n l m (hdN l n)) := by
  refine LT.add_ok (noL_ok _ _ _ _) (loop_next e0_ok mixed (noL_ok _ _ _ _) (Nat.zero_le _) (by kernel_rfl) (fun i => iHd (hdN l i) i) (fun _ => mD a z e he ed rd n l m) (fun i => i ≤ n) (fun i => n - i) (fun i => i + 1) 0 (Nat.zero_le _) (fun i hp => of_eq (rHd a z e he ed rd n l m (hdN l i) (hdN l (i + 1)) (hdN l n) i _) ?_))
  have hle := hdN_le l i
  rcases bTF (ilt (i : Int) (n : Int)) with hc | hc
  · have hi : i < n := by have := of_ilt hc; omega
    refine bifT hc (bif_of (inRn hi) (bif_of (rok1 (by omega)) ?_))
    rcases bTF (isB l i) with hb | hb
    · refine bifT hb (bif_of (inI_iff.2 (by omega)) (bif_of (inI_iff.2 (by omega)) ⟨⟨hi, by show n - (i + 1) < n - i; omega⟩, rfl, congrArg SV.i ?_, rfl, ⟨rfl, rfl⟩, ⟨rfl, rfl⟩, ⟨rfl, rfl⟩, trivial⟩))
      conv => rhs; unfold hdN
      rw [hb]; rfl
    · refine bifF hb (bif_of (inI_iff.2 (by omega)) ⟨⟨hi, by show n - (i + 1) < n - i; omega⟩, rfl, congrArg SV.i ?_, rfl, ⟨rfl, rfl⟩, ⟨rfl, rfl⟩, ⟨rfl, rfl⟩, trivial⟩)
      conv => rhs; unfold hdN
      rw [hb]; rfl
  · have hi : i = n := by
      have := of_nilt hc
      replace hp : i ≤ n := hp
      omega
    subst hi
    exact bifF hc ⟨rfl, rfl, ⟨rfl, rfl⟩, ⟨rfl, rfl⟩, ⟨rfl, rfl⟩, trivial⟩
-- which are free, from i0 on
def frN (l : List Ub) (i0 : Nat) : Nat → Bool
  | 0 => true
  | j + 1 => bif frN l i0 j then !isB l (i0 + j) else false
def LFr (a : BitVec 32) (z e : Int) (he ed : Bool) (rd : List (BitVec 8)) (n : Nat) (l : List Ub) (m : List (BitVec 8)) (e0 : Int) (h0 : Bool) (r0 : List (BitVec 8)) (l0 : List Ub) (m0 : List (BitVec 8)) (old en : BitVec 32) (i0 : Nat) : LT := noL.add 2 (vLoop (mD a z e0 h0 ed r0 n l0 m0) 284 (iFr old en true i0) (mD a z e he ed rd n l m) (oFr old en (frN l i0 (n - i0))) (mD a z e he ed rd n l m))
theorem loopFr (a : BitVec 32) (z e : Int) (he ed : Bool) (rd : List (BitVec 8)) (n : Nat) (l : List Ub) (m : List (BitVec 8)) (e0 : Int) (h0 : Bool) (r0 : List (BitVec 8)) (l0 : List Ub) (m0 : List (BitVec 8)) (old en : BitVec 32) (i0 : Nat) (hl : l.length = n) (hn : n ≤ 4294967296) (hi0 : i0 ≤ 4294967296) : LOk Try.prog G (mD a z e0 h0 ed r0 n l0 m0) 19 (LFr a z e he ed rd n l m e0 h0 r0 l0 m0 old en i0) := by
  refine LT.add_ok (noL_ok _ _ _ _) (loop_next ew_ok mixed (noL_ok _ _ _ _) (Nat.zero_le _) (by kernel_rfl) (fun j => iFr old en (frN l i0 j) (i0 + j)) (fun _ => mD a z e he ed rd n l m) (fun j => j ≤ n - i0) (fun j => n - i0 - j) (fun j => j + 1) 0 (Nat.zero_le _) (fun j hp => of_eq (rFr a z e he ed rd n l m e0 h0 r0 l0 m0 old en (frN l i0 j) (frN l i0 (j + 1)) (frN l i0 (n - i0)) (i0 + j) _) ?_))
  replace hp : j ≤ n - i0 := hp
  rcases bTF (ilt ((i0 + j : Nat) : Int) (n : Int)) with hc | hc
  · have hi : i0 + j < n := by have := of_ilt hc; omega
    refine bifT hc ?_
    rcases bTF (frN l i0 j) with hb | hb
    · refine bifT hb (bif_of (inRn hi) (bif_of (rok1 (by omega)) (bif_of (inI_iff.2 (by omega)) ⟨⟨by show j + 1 ≤ n - i0; omega, by show n - i0 - (j + 1) < n - i0 - j; omega⟩, rfl, rfl, rfl, congrArg SV.b ?_, rfl, ⟨rfl, rfl⟩, ⟨rfl, rfl⟩, ⟨rfl, rfl⟩, trivial⟩)))
      conv => rhs; unfold frN
      rw [hb]; rfl
    · refine bifF hb (bif_of (inI_iff.2 (by omega)) ⟨⟨by show j + 1 ≤ n - i0; omega, by show n - i0 - (j + 1) < n - i0 - j; omega⟩, rfl, rfl, rfl, congrArg SV.b ?_, rfl, ⟨rfl, rfl⟩, ⟨rfl, rfl⟩, ⟨rfl, rfl⟩, trivial⟩)
      conv => rhs; unfold frN
      rw [hb]; rfl
  · have hi : j = n - i0 := by have := of_nilt hc; omega
    subst hi
    exact bifF hc ⟨rfl, rfl, rfl, rfl, rfl, ⟨rfl, rfl⟩, ⟨rfl, rfl⟩, ⟨rfl, rfl⟩, trivial⟩
-- how many come next
structure Nx (l : List Ub) (n k : Nat) : Prop where
  le : k ≤ n
  all : ∀ j, j < k → isB l j = true
  stop : k = n ∨ isB l k = false
def LNx (a : BitVec 32) (z e : Int) (he ed : Bool) (rd : List (BitVec 8)) (n : Nat) (l : List Ub) (m : List (BitVec 8)) (e0 : Int) (h0 : Bool) (r0 : List (BitVec 8)) (l0 : List Ub) (m0 : List (BitVec 8)) (old : BitVec 32) (k : Nat) : LT := noL.add 4 (vLoop (mD a z e0 h0 ed r0 n l0 m0) 284 (iNx old 0) (mD a z e he ed rd n l m) (iNx old k) (mD a z e he ed rd n l m))
theorem loopNx (a : BitVec 32) (z e : Int) (he ed : Bool) (rd : List (BitVec 8)) (n : Nat) (l : List Ub) (m : List (BitVec 8)) (e0 : Int) (h0 : Bool) (r0 : List (BitVec 8)) (l0 : List Ub) (m0 : List (BitVec 8)) (old : BitVec 32) (k : Nat) (hl : l.length = n) (hn : n ≤ 4294967296) (hk : Nx l n k) : LOk Try.prog G (mD a z e0 h0 ed r0 n l0 m0) 19 (LNx a z e he ed rd n l m e0 h0 r0 l0 m0 old k) := by
  refine LT.add_ok (noL_ok _ _ _ _) (loop_next ew_ok mixed (noL_ok _ _ _ _) (Nat.zero_le _) (by kernel_rfl) (fun j => iNx old j) (fun _ => mD a z e he ed rd n l m) (fun j => j ≤ k) (fun j => k - j) (fun j => j + 1) 0 (Nat.zero_le _) (fun j hp => of_eq (rNx a z e he ed rd n l m e0 h0 r0 l0 m0 old j k _) ?_))
  replace hp : j ≤ k := hp
  obtain ⟨h1, h2, h3⟩ := hk
  rcases bTF (ilt (j : Int) (n : Int)) with hc | hc
  · have hi : j < n := by have := of_ilt hc; omega
    refine bifT hc (bif_of (inRn hi) (bif_of (rok1 (by omega)) ?_))
    rcases bTF (isB l j) with hb | hb
    · have hjk : j < k := by
        rcases Nat.lt_or_ge j k with q | q
        · exact q
        · obtain rfl : j = k := by omega
          rcases h3 with h3 | h3
          · omega
          · rw [h3] at hb; cases hb
      refine bifT hb (bif_of (inI_iff.2 (by omega)) ⟨⟨hjk, by show k - (j + 1) < k - j; omega⟩, rfl, rfl, rfl, ⟨rfl, rfl⟩, ⟨rfl, rfl⟩, ⟨rfl, rfl⟩, trivial⟩)
    · have hjk : j = k := by
        rcases Nat.lt_or_ge j k with q | q
        · have := h2 j q
          rw [hb] at this; cases this
        · omega
      subst hjk
      exact bifF hb ⟨rfl, rfl, rfl, rfl, ⟨rfl, rfl⟩, ⟨rfl, rfl⟩, ⟨rfl, rfl⟩, trivial⟩
  · have hi : j = k := by have := of_nilt hc; omega
    subst hi
    exact bifF hc ⟨rfl, rfl, rfl, rfl, ⟨rfl, rfl⟩, ⟨rfl, rfl⟩, ⟨rfl, rfl⟩, trivial⟩
end Go.Proofs.Ytkjfecdpakhggaa
namespace Go.Proofs.Ytkjfecdpakhggaa
open Go.RowKit
set_option linter.unusedVariables false
set_option linter.unusedSimpArgs false
set_option maxRecDepth 100000

/-- How far behind the next one the byte i stands. -/
def atN (a sq : BitVec 32) (i : Nat) : BitVec 32 := sq + BitVec.ofInt 32 (i : Int) - a
/-- Whether it is taken, where w are let in. -/
def tkB (w : BitVec 32) (he : Bool) (e : Int) (l : List Ub) (x : BitVec 32) : Bool := x.ult w && (!isB l x.toNat && (!he || ilt ((x.toNat : Nat) : Int) e))
def tkS (a sq w : BitVec 32) (he : Bool) (e : Int) (d : List (BitVec 8)) (l : List Ub) (m : List (BitVec 8)) : Nat → List Ub × List (BitVec 8)
  | 0 => (l, m)
  | i + 1 => bif tkB w he e (tkS a sq w he e d l m i).1 (atN a sq i) then ((tkS a sq w he e d l m i).1.set (atN a sq i).toNat (true, ()), (tkS a sq w he e d l m i).2.set (atN a sq i).toNat (d.getD i 0)) else tkS a sq w he e d l m i
theorem tkS_len (a sq w : BitVec 32) (he : Bool) (e : Int) (d : List (BitVec 8)) (l : List Ub) (m : List (BitVec 8)) : ∀ i, (tkS a sq w he e d l m i).1.length = l.length ∧ (tkS a sq w he e d l m i).2.length = m.length
  | 0 => ⟨rfl, rfl⟩
  | i + 1 => by
    obtain ⟨h1, h2⟩ := tkS_len a sq w he e d l m i
    unfold tkS
    cases tkB w he e (tkS a sq w he e d l m i).1 (atN a sq i)
    · exact ⟨h1, h2⟩
    · exact ⟨by rw [cond_true, List.length_set, h1], by rw [cond_true, List.length_set, h2]⟩
def wD (z : Int) (rd : List (BitVec 8)) : BitVec 32 := BitVec.ofInt 32 (z - (rd.length : Nat))
theorem wD_to {z : Int} {rd : List (BitVec 8)} (h1 : (rd.length : Int) ≤ z) (h2 : z ≤ 65536) : ((wD z rd).toNat : Int) = z - (rd.length : Nat) := by
  unfold wD
  rw [BitVec.toNat_ofInt]
  have : ((2 ^ 32 : Nat) : Int) = 4294967296 := by decide
  omega
def LTk (a : BitVec 32) (z e : Int) (he : Bool) (rd : List (BitVec 8)) (n : Nat) (l0 : List Ub) (m0 : List (BitVec 8)) (sq old : BitVec 32) (d : List (BitVec 8)) (fin : Bool) : LT := noL.add 0 (vLoop (mD a z e he false rd n l0 m0) 284 (iTk sq old d fin 0) (mD a z e he false rd n l0 m0) (oTk sq old d fin) (mD a z e he false rd n (tkS a sq (wD z rd) he e d l0 m0 d.length).1 (tkS a sq (wD z rd) he e d l0 m0 d.length).2))
theorem loopTk (a : BitVec 32) (z e : Int) (he : Bool) (rd : List (BitVec 8)) (n : Nat) (l0 : List Ub) (m0 : List (BitVec 8)) (sq old : BitVec 32) (d : List (BitVec 8)) (fin : Bool) (hl : l0.length = n) (hm : m0.length = n) (hz : (n : Int) = z + 1) (h1 : (rd.length : Int) ≤ z) (h2 : z ≤ 65536) (hd : d.length ≤ 65536) : LOk Try.prog G (mD a z e he false rd n l0 m0) 19 (LTk a z e he rd n l0 m0 sq old d fin) := by
  refine LT.add_ok (noL_ok _ _ _ _) (loop_next ew_ok mixed (noL_ok _ _ _ _) (Nat.zero_le _) (by kernel_rfl) (fun i => iTk sq old d fin i) (fun i => mD a z e he false rd n (tkS a sq (wD z rd) he e d l0 m0 i).1 (tkS a sq (wD z rd) he e d l0 m0 i).2) (fun i => i ≤ d.length) (fun i => d.length - i) (fun i => i + 1) 0 (Nat.zero_le _) (fun i hp => of_eq (rTk a z e he false rd n (tkS a sq (wD z rd) he e d l0 m0 i).1 (tkS a sq (wD z rd) he e d l0 m0 i).2 l0 m0 sq old d fin i (tkS a sq (wD z rd) he e d l0 m0 (i + 1)).1 (tkS a sq (wD z rd) he e d l0 m0 d.length).1 (tkS a sq (wD z rd) he e d l0 m0 (i + 1)).2 (tkS a sq (wD z rd) he e d l0 m0 d.length).2 _) ?_))
  replace hp : i ≤ d.length := hp
  rcases bTF (ilt (i : Int) (d.length : Int)) with hc | hc
  rotate_left
  · have hi : i = d.length := by have := of_nilt hc; omega
    subst hi
    exact bifF hc ⟨rfl, rfl, rfl, rfl, rfl, rfl, ⟨rfl, rfl⟩, ⟨rfl, rfl⟩, ⟨rfl, rfl⟩, trivial⟩
  have hi : i < d.length := by have := of_ilt hc; omega
  obtain ⟨g1, g2⟩ := tkS_len a sq (wD z rd) he e d l0 m0 i
  have hw := wD_to h1 h2
  have eS : tkS a sq (wD z rd) he e d l0 m0 (i + 1) = bif tkB (wD z rd) he e (tkS a sq (wD z rd) he e d l0 m0 i).1 (atN a sq i) then ((tkS a sq (wD z rd) he e d l0 m0 i).1.set (atN a sq i).toNat (true, ()), (tkS a sq (wD z rd) he e d l0 m0 i).2.set (atN a sq i).toNat (d.getD i 0)) else tkS a sq (wD z rd) he e d l0 m0 i := rfl
  rw [eS]
  generalize tkS a sq (wD z rd) he e d l0 m0 i = S at *
  obtain ⟨l, m⟩ := S
  dsimp only at g1 g2 ⊢
  have hp1 : i + 1 ≤ d.length ∧ d.length - (i + 1) < d.length - i := ⟨hi, by omega⟩
  have hI : inI ((i : Int) + 1) = true := inI_iff.2 (by omega)
  refine bifT hc (bif_of (inI_iff.2 (by omega)) ?_)
  rcases bTF ((atN a sq i).ult (wD z rd)) with u | u
  rotate_left
  · have hB : tkB (wD z rd) he e l (atN a sq i) = false := by unfold tkB; rw [u]; rfl
    rw [hB]
    exact bifF u (bif_of hI ⟨hp1, rfl, rfl, rfl, rfl, rfl, rfl, ⟨rfl, rfl⟩, ⟨rfl, rfl⟩, ⟨rfl, rfl⟩, trivial⟩)
  have hx : (atN a sq i).toNat < n := by
    have := u
    unfold BitVec.ult at this
    have := of_decide_eq_true this
    omega
  refine bifT u (bif_of (inRn hx) (bif_of (rok1 (i := (atN a sq i).toNat) (by omega)) ?_))
  rcases bTF (isB l (atN a sq i).toNat) with b | b
  · have hB : tkB (wD z rd) he e l (atN a sq i) = false := by unfold tkB; rw [u, b]; rfl
    rw [hB]
    exact bifF (by show (!isB l (atN a sq i).toNat) = false; rw [b]; rfl) (bif_of hI ⟨hp1, rfl, rfl, rfl, rfl, rfl, rfl, ⟨rfl, rfl⟩, ⟨rfl, rfl⟩, ⟨rfl, rfl⟩, trivial⟩)
  refine bifT (by show (!isB l (atN a sq i).toNat) = true; rw [b]; rfl) ?_
  have hr : (rok 0 (atN a sq i).toNat 1 fUb [] l.length && true) = true := by rw [rok1 (by omega)]; rfl
  have hbl : (atN a sq i).toNat.blt m.length = true := by rw [Nat.blt_eq]; omega
  cases he
  · have hB : tkB (wD z rd) false e l (atN a sq i) = true := by unfold tkB; rw [u, b]; rfl
    rw [hB]
    exact bifT rfl (bif_of (inRn hx) (bif_of hr (bif_of (inRn hi) (bif_of (inRn hx) (bif_of hbl (bif_of hI ⟨hp1, rfl, rfl, rfl, rfl, rfl, rfl, ⟨rfl, rfl⟩, ⟨rfl, rfl⟩, ⟨rfl, rfl⟩, trivial⟩))))))
  · refine bifF rfl ?_
    rcases bTF (ilt (((atN a sq i).toNat : Nat) : Int) e) with c | c
    · have hB : tkB (wD z rd) true e l (atN a sq i) = true := by unfold tkB; rw [u, b, c]; rfl
      rw [hB]
      exact bifT c (bif_of (inRn hx) (bif_of hr (bif_of (inRn hi) (bif_of (inRn hx) (bif_of hbl (bif_of hI ⟨hp1, rfl, rfl, rfl, rfl, rfl, rfl, ⟨rfl, rfl⟩, ⟨rfl, rfl⟩, ⟨rfl, rfl⟩, trivial⟩))))))
    · have hB : tkB (wD z rd) true e l (atN a sq i) = false := by unfold tkB; rw [u, b, c]; rfl
      rw [hB]
      exact bifF c (bif_of hI ⟨hp1, rfl, rfl, rfl, rfl, rfl, rfl, ⟨rfl, rfl⟩, ⟨rfl, rfl⟩, ⟨rfl, rfl⟩, trivial⟩)
-- the rest moves
def shS (n k : Nat) (l : List Ub) (m : List (BitVec 8)) : Nat → List Ub × List (BitVec 8)
  | 0 => (l, m)
  | i + 1 => bif Nat.blt (i + k) n && isB (shS n k l m i).1 (i + k) then ((shS n k l m i).1.set i (true, ()), (shS n k l m i).2.set i ((shS n k l m i).2.getD (i + k) 0)) else ((shS n k l m i).1.set i (false, ()), (shS n k l m i).2)
theorem shS_len (n k : Nat) (l : List Ub) (m : List (BitVec 8)) : ∀ i, (shS n k l m i).1.length = l.length ∧ (shS n k l m i).2.length = m.length
  | 0 => ⟨rfl, rfl⟩
  | i + 1 => by
    obtain ⟨h1, h2⟩ := shS_len n k l m i
    unfold shS
    cases Nat.blt (i + k) n && isB (shS n k l m i).1 (i + k)
    · exact ⟨by rw [cond_false, List.length_set, h1], h2⟩
    · exact ⟨by rw [cond_true, List.length_set, h1], by rw [cond_true, List.length_set, h2]⟩
def LSh (a : BitVec 32) (z e : Int) (he ed : Bool) (rd : List (BitVec 8)) (n : Nat) (l : List Ub) (m : List (BitVec 8)) (e0 : Int) (h0 : Bool) (r0 : List (BitVec 8)) (l0 : List Ub) (m0 : List (BitVec 8)) (old : BitVec 32) (k : Nat) : LT := noL.add 6 (vLoop (mD a z e0 h0 ed r0 n l0 m0) 284 (iSh old k 0) (mD a z e he ed rd n l m) (iNx old k) (mD a z e he ed rd n (shS n k l m n).1 (shS n k l m n).2))
theorem set_self {l : List Ub} {i : Nat} (h : i < l.length) (x : Bool) : ((l.set i (x, ())).getD i (rz fUb)).fst = x := by
  rw [List.getD_eq_getElem?_getD, List.getElem?_set_self h]; rfl
theorem loopSh (a : BitVec 32) (z e : Int) (he ed : Bool) (rd : List (BitVec 8)) (n : Nat) (l : List Ub) (m : List (BitVec 8)) (e0 : Int) (h0 : Bool) (r0 : List (BitVec 8)) (l0 : List Ub) (m0 : List (BitVec 8)) (old : BitVec 32) (k : Nat) (hl : l.length = n) (hm : m.length = n) (hk : k ≤ n) (hn : n ≤ 4294967296) : LOk Try.prog G (mD a z e0 h0 ed r0 n l0 m0) 19 (LSh a z e he ed rd n l m e0 h0 r0 l0 m0 old k) := by
  refine LT.add_ok (noL_ok _ _ _ _) (loop_next ew_ok mixed (noL_ok _ _ _ _) (Nat.zero_le _) (by kernel_rfl) (fun i => iSh old k i) (fun i => mD a z e he ed rd n (shS n k l m i).1 (shS n k l m i).2) (fun i => i ≤ n) (fun i => n - i) (fun i => i + 1) 0 (Nat.zero_le _) (fun i hp => of_eq (rSh a z e he ed rd n (shS n k l m i).1 (shS n k l m i).2 e0 h0 r0 l0 m0 old k i (shS n k l m (i + 1)).1 (shS n k l m n).1 (shS n k l m (i + 1)).2 (shS n k l m n).2 _) ?_))
  replace hp : i ≤ n := hp
  rcases bTF (ilt (i : Int) (n : Int)) with hc | hc
  rotate_left
  · have hi : i = n := by have := of_nilt hc; omega
    subst hi
    exact bifF hc ⟨rfl, rfl, rfl, rfl, ⟨rfl, rfl⟩, ⟨rfl, rfl⟩, ⟨rfl, rfl⟩, trivial⟩
  have hi : i < n := by have := of_ilt hc; omega
  obtain ⟨g1, g2⟩ := shS_len n k l m i
  have eS : shS n k l m (i + 1) = bif Nat.blt (i + k) n && isB (shS n k l m i).1 (i + k) then ((shS n k l m i).1.set i (true, ()), (shS n k l m i).2.set i ((shS n k l m i).2.getD (i + k) 0)) else ((shS n k l m i).1.set i (false, ()), (shS n k l m i).2) := rfl
  rw [eS]
  generalize shS n k l m i = S at *
  obtain ⟨l, m⟩ := S
  dsimp only at g1 g2 ⊢
  have hp1 : i + 1 ≤ n ∧ n - (i + 1) < n - i := ⟨hi, by omega⟩
  have hI : inI ((i : Int) + 1) = true := inI_iff.2 (by omega)
  have hIk : inI ((i : Int) + (k : Int)) = true := inI_iff.2 (by omega)
  have eT : ((i : Int) + (k : Int)).toNat = i + k := by omega
  have r1 : rok 0 i 1 fUb [] l.length = true := rok1 (by omega)
  have r2 : (rok 0 i 1 fUb [] l.length && true) = true := by rw [r1]; rfl
  have r3 : ∀ x : Bool, rok 0 i 1 fUb [] (l.set i (x, ())).length = true := fun x => rok1 (by rw [List.length_set]; omega)
  have hb1 : i.blt m.length = true := by rw [Nat.blt_eq]; omega
  refine bifT hc (bif_of hIk ?_)
  rw [eT]
  rcases bTF (ilt ((i : Int) + (k : Int)) (n : Int)) with c | c
  · have hlt : i + k < n := by have := of_ilt c; omega
    have hR : inR ((i : Int) + (k : Int)) n = true := inR_iff.2 (by omega)
    have hb2 : (i + k).blt m.length = true := by rw [Nat.blt_eq]; omega
    have hb3 : Nat.blt (i + k) n = true := by rw [Nat.blt_eq]; exact hlt
    refine bifT c (bif_of hIk (bif_of hR (bif_of (rok1 (by omega)) (bif_of (inRn hi) (bif_of r2 (bif_of (inRn hi) (bif_of (r3 _) ?_)))))))
    rcases bTF (isB l (i + k)) with b | b
    · rw [hb3, b]
      have eb : (bif true then (l.getD (i + k) (rz fUb)).fst else false) = true := b
      refine bifT (by rw [set_self (by omega)]; exact eb) (bif_of hIk (bif_of hR (bif_of hb2 (bif_of (inRn hi) (bif_of hb1 (bif_of hI ⟨hp1, rfl, rfl, rfl, rfl, ⟨rfl, rfl⟩, ⟨rfl, ?_⟩, ⟨rfl, rfl⟩, trivial⟩))))))
      rw [eb]; rfl
    · rw [hb3, b]
      have eb : (bif true then (l.getD (i + k) (rz fUb)).fst else false) = false := b
      refine bifF (by rw [set_self (by omega)]; exact eb) (bif_of hI ⟨hp1, rfl, rfl, rfl, rfl, ⟨rfl, rfl⟩, ⟨rfl, ?_⟩, ⟨rfl, rfl⟩, trivial⟩)
      rw [eb]; rfl
  · have hb3 : Nat.blt (i + k) n = false := by
      have := of_nilt c
      cases q : Nat.blt (i + k) n
      · rfl
      · rw [Nat.blt_eq] at q; omega
    rw [hb3]
    exact bifF c (bif_of (inRn hi) (bif_of r2 (bif_of (inRn hi) (bif_of (r3 _) (bifF (set_self (by omega) false) (bif_of hI ⟨hp1, rfl, rfl, rfl, rfl, ⟨rfl, rfl⟩, ⟨rfl, rfl⟩, ⟨rfl, rfl⟩, trivial⟩))))))
end Go.Proofs.Ytkjfecdpakhggaa
