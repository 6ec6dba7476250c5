/-
  flow: the document's Put, as it answers. No statement is proved here.
-/
import Derived.Test.YtkjfecdpakhggaaRfD
namespace Go.Proofs.Ytkjfecdpakhggaa
open Go.RowKit
set_option linter.unusedVariables false
set_option linter.unusedSimpArgs false
set_option maxRecDepth 100000

/-- The end's number, behind the next one; whether it is there; whether all is there; the next number then. -/
def enD (a sq : BitVec 32) (d : List (BitVec 8)) : BitVec 32 := sq + BitVec.ofInt 32 (d.length : Int) - a
def enB (z : Int) (rd : List (BitVec 8)) (n : Nat) (he fin : Bool) (en : BitVec 32) (l1 : List Ub) : Bool := fin && (!he && (en.ult (BitVec.ofInt 32 (z - (rd.length : Int) + 1)) && frN l1 en.toNat (n - en.toNat)))
def edD (he : Bool) (e : Int) (k : Nat) : Bool := he && (e - (k : Int) == 0)
def nxD (a : BitVec 32) (he : Bool) (e : Int) (k : Nat) : BitVec 32 := bif edD he e k then a + BitVec.ofInt 32 (k : Int) + BitVec.ofInt 32 1 else a + BitVec.ofInt 32 (k : Int)
theorem put_row (a : BitVec 32) (z e : Int) (he : Bool) (rd : List (BitVec 8)) (n : Nat) (l0 : List Ub) (m0 : List (BitVec 8)) (sq : BitVec 32) (d : List (BitVec 8)) (fin : Bool) (l1 : List Ub) (m1 : List (BitVec 8)) (he' : Bool) (e' : Int) (k : Nat) (l2 : List Ub) (m2 : List (BitVec 8)) (hd : d.length ≤ 65536) (h1 : (rd.length : Int) ≤ z) (h2 : z ≤ 65536) (hz : (n : Int) = z + 1) (hm : m1.length = n) (hk : k ≤ n) (hh : he' = (he || enB z rd n he fin (enD a sq d) l1)) (hx : e' = bif enB z rd n he fin (enD a sq d) l1 then (((enD a sq d).toNat : Nat) : Int) else e) (hb : -4611686018427387904 ≤ e ∧ e ≤ 4611686018427387904) :
    vf Try.prog EW (LPt a z e he rd n l0 m0 sq d fin l1 m1 (enD a sq d) (frN l1 (enD a sq d).toNat (n - (enD a sq d).toNat)) he' e' k (rd ++ m1.take k) l2 m2) 19 [.ptr 0 0, .w32 sq, .s d, .b fin] (mD a z e he false rd n l0 m0) (fun r M => r = .b (nxD a he' e' k != a) ∧ M = mD (nxD a he' e' k) z (e' - (k : Int)) he' (edD he' e' k) (rd ++ m1.take k) n l2 m2) := by
  refine of_eq (vPt a z e he rd n l0 m0 sq d fin l1 m1 (enD a sq d) _ he' e' k (rd ++ m1.take k) l2 m2 _) ?_
  have hen : (enD a sq d).toNat < 4294967296 := (enD a sq d).isLt
  have he2 : -4611686018427387904 ≤ e' ∧ e' ≤ 4611686018427387904 := by
    rw [hx]
    cases enB z rd n he fin (enD a sq d) l1
    · exact hb
    · rw [cond_true]; omega
  have hI : inI (e' - (k : Int)) = true := inI_iff.2 (by omega)
  have hk1 : (ile (k : Int) (n : Int) && ilt 0 (n : Int)) = true := by rw [ile_eq, ilt_eq, decide_eq_true (by omega), decide_eq_true (by omega)]; rfl
  have hk2 : decide (0 + k ≤ m1.length) = true := decide_eq_true (by omega)
  have hk3 : ile ((rd.length + (List.take k (List.drop 0 m1)).length : Nat) : Int) 9223372036854775807 = true := by
    rw [ile_eq]
    refine decide_eq_true ?_
    have : (List.take k (List.drop 0 m1)).length ≤ k := List.length_take_le ..
    omega
  refine bifF (by show ilt 65536 (d.length : Int) = false; rw [ilt_eq]; exact decide_eq_false (by omega)) ⟨rfl, rfl, rfl, rfl, rfl, rfl, rfl, ⟨rfl, rfl⟩, ⟨rfl, rfl⟩, ⟨rfl, rfl⟩, ?_⟩
  have no : enB z rd n he fin (enD a sq d) l1 = false → he' = he ∧ e' = e := fun h => by rw [hh, hx, h]; exact ⟨Bool.or_false _, rfl⟩
  cases fin
  · obtain ⟨q1, q2⟩ := no rfl
    exact bifF rfl ⟨rfl, rfl, rfl, rfl, ⟨rfl, by rw [q1, q2]⟩, ⟨rfl, rfl⟩, ⟨rfl, rfl⟩, bif_of hk1 (bif_of hk2 (bif_of hk3 ⟨rfl, rfl, rfl, rfl, rfl, ⟨rfl, rfl⟩, ⟨rfl, rfl⟩, ⟨rfl, rfl⟩, bif_of hI (by
      rcases bTF he' with q | q
      · refine bifT q ?_
        rcases bTF (e' - (k : Int) == 0) with c | c
        · have hed : edD he' e' k = true := by unfold edD; rw [q, c]; rfl
          have hn : nxD a he' e' k = a + BitVec.ofInt 32 (k : Int) + BitVec.ofInt 32 1 := by unfold nxD; rw [hed]; rfl
          exact bifT c ⟨by rw [hn], by rw [hn, hed]; rfl⟩
        · have hed : edD he' e' k = false := by unfold edD; rw [q, c]; rfl
          have hn : nxD a he' e' k = a + BitVec.ofInt 32 (k : Int) := by unfold nxD; rw [hed]; rfl
          exact bifF c ⟨by rw [hn], by rw [hn, hed]; rfl⟩
      · have hed : edD he' e' k = false := by unfold edD; rw [q]; rfl
        have hn : nxD a he' e' k = a + BitVec.ofInt 32 (k : Int) := by unfold nxD; rw [hed]; rfl
        exact bifF q ⟨by rw [hn], by rw [hn, hed]; rfl⟩)⟩))⟩
  refine bifT rfl ?_
  cases he
  rotate_left
  · obtain ⟨q1, q2⟩ := no rfl
    exact bifF rfl ⟨rfl, rfl, rfl, rfl, ⟨rfl, by rw [q1, q2]⟩, ⟨rfl, rfl⟩, ⟨rfl, rfl⟩, bif_of hk1 (bif_of hk2 (bif_of hk3 ⟨rfl, rfl, rfl, rfl, rfl, ⟨rfl, rfl⟩, ⟨rfl, rfl⟩, ⟨rfl, rfl⟩, bif_of hI (by
      rcases bTF he' with q | q
      · refine bifT q ?_
        rcases bTF (e' - (k : Int) == 0) with c | c
        · have hed : edD he' e' k = true := by unfold edD; rw [q, c]; rfl
          have hn : nxD a he' e' k = a + BitVec.ofInt 32 (k : Int) + BitVec.ofInt 32 1 := by unfold nxD; rw [hed]; rfl
          exact bifT c ⟨by rw [hn], by rw [hn, hed]; rfl⟩
        · have hed : edD he' e' k = false := by unfold edD; rw [q, c]; rfl
          have hn : nxD a he' e' k = a + BitVec.ofInt 32 (k : Int) := by unfold nxD; rw [hed]; rfl
          exact bifF c ⟨by rw [hn], by rw [hn, hed]; rfl⟩
      · have hed : edD he' e' k = false := by unfold edD; rw [q]; rfl
        have hn : nxD a he' e' k = a + BitVec.ofInt 32 (k : Int) := by unfold nxD; rw [hed]; rfl
        exact bifF q ⟨by rw [hn], by rw [hn, hed]; rfl⟩)⟩))⟩
  refine bifT rfl (bif_of (inI_iff.2 (by omega)) (bif_of (inI_iff.2 (by omega)) ?_))
  rcases bTF ((enD a sq d).ult (BitVec.ofInt 32 (z - (rd.length : Int) + 1))) with u | u
  rotate_left
  · obtain ⟨q1, q2⟩ := no (by unfold enB; rw [u]; rfl)
    exact bifF u ⟨rfl, rfl, rfl, rfl, ⟨rfl, by rw [q1, q2]⟩, ⟨rfl, rfl⟩, ⟨rfl, rfl⟩, bif_of hk1 (bif_of hk2 (bif_of hk3 ⟨rfl, rfl, rfl, rfl, rfl, ⟨rfl, rfl⟩, ⟨rfl, rfl⟩, ⟨rfl, rfl⟩, bif_of hI (by
      rcases bTF he' with q | q
      · refine bifT q ?_
        rcases bTF (e' - (k : Int) == 0) with c | c
        · have hed : edD he' e' k = true := by unfold edD; rw [q, c]; rfl
          have hn : nxD a he' e' k = a + BitVec.ofInt 32 (k : Int) + BitVec.ofInt 32 1 := by unfold nxD; rw [hed]; rfl
          exact bifT c ⟨by rw [hn], by rw [hn, hed]; rfl⟩
        · have hed : edD he' e' k = false := by unfold edD; rw [q, c]; rfl
          have hn : nxD a he' e' k = a + BitVec.ofInt 32 (k : Int) := by unfold nxD; rw [hed]; rfl
          exact bifF c ⟨by rw [hn], by rw [hn, hed]; rfl⟩
      · have hed : edD he' e' k = false := by unfold edD; rw [q]; rfl
        have hn : nxD a he' e' k = a + BitVec.ofInt 32 (k : Int) := by unfold nxD; rw [hed]; rfl
        exact bifF q ⟨by rw [hn], by rw [hn, hed]; rfl⟩)⟩))⟩
  refine bifT u ⟨rfl, rfl, rfl, rfl, rfl, rfl, ⟨rfl, rfl⟩, ⟨rfl, rfl⟩, ⟨rfl, rfl⟩, ?_⟩
  rcases bTF (frN l1 (enD a sq d).toNat (n - (enD a sq d).toNat)) with f | f
  · have hB : enB z rd n false true (enD a sq d) l1 = true := by unfold enB; rw [u, f]; rfl
    have q1 : he' = true := by rw [hh, hB]; rfl
    have q2 : e' = (((enD a sq d).toNat : Nat) : Int) := by rw [hx, hB]; rfl
    exact bifT f ⟨rfl, rfl, rfl, rfl, ⟨rfl, by rw [q1, q2]; rfl⟩, ⟨rfl, rfl⟩, ⟨rfl, rfl⟩, bif_of hk1 (bif_of hk2 (bif_of hk3 ⟨rfl, rfl, rfl, rfl, rfl, ⟨rfl, rfl⟩, ⟨rfl, rfl⟩, ⟨rfl, rfl⟩, bif_of hI (by
      rcases bTF he' with q | q
      · refine bifT q ?_
        rcases bTF (e' - (k : Int) == 0) with c | c
        · have hed : edD he' e' k = true := by unfold edD; rw [q, c]; rfl
          have hn : nxD a he' e' k = a + BitVec.ofInt 32 (k : Int) + BitVec.ofInt 32 1 := by unfold nxD; rw [hed]; rfl
          exact bifT c ⟨by rw [hn], by rw [hn, hed]; rfl⟩
        · have hed : edD he' e' k = false := by unfold edD; rw [q, c]; rfl
          have hn : nxD a he' e' k = a + BitVec.ofInt 32 (k : Int) := by unfold nxD; rw [hed]; rfl
          exact bifF c ⟨by rw [hn], by rw [hn, hed]; rfl⟩
      · have hed : edD he' e' k = false := by unfold edD; rw [q]; rfl
        have hn : nxD a he' e' k = a + BitVec.ofInt 32 (k : Int) := by unfold nxD; rw [hed]; rfl
        exact bifF q ⟨by rw [hn], by rw [hn, hed]; rfl⟩)⟩))⟩
  · obtain ⟨q1, q2⟩ := no (by unfold enB; rw [u, f]; rfl)
    exact bifF f ⟨rfl, rfl, rfl, rfl, ⟨rfl, by rw [q1, q2]⟩, ⟨rfl, rfl⟩, ⟨rfl, rfl⟩, bif_of hk1 (bif_of hk2 (bif_of hk3 ⟨rfl, rfl, rfl, rfl, rfl, ⟨rfl, rfl⟩, ⟨rfl, rfl⟩, ⟨rfl, rfl⟩, bif_of hI (by
      rcases bTF he' with q | q
      · refine bifT q ?_
        rcases bTF (e' - (k : Int) == 0) with c | c
        · have hed : edD he' e' k = true := by unfold edD; rw [q, c]; rfl
          have hn : nxD a he' e' k = a + BitVec.ofInt 32 (k : Int) + BitVec.ofInt 32 1 := by unfold nxD; rw [hed]; rfl
          exact bifT c ⟨by rw [hn], by rw [hn, hed]; rfl⟩
        · have hed : edD he' e' k = false := by unfold edD; rw [q, c]; rfl
          have hn : nxD a he' e' k = a + BitVec.ofInt 32 (k : Int) := by unfold nxD; rw [hed]; rfl
          exact bifF c ⟨by rw [hn], by rw [hn, hed]; rfl⟩
      · have hed : edD he' e' k = false := by unfold edD; rw [q]; rfl
        have hn : nxD a he' e' k = a + BitVec.ofInt 32 (k : Int) := by unfold nxD; rw [hed]; rfl
        exact bifF q ⟨by rw [hn], by rw [hn, hed]; rfl⟩)⟩))⟩
end Go.Proofs.Ytkjfecdpakhggaa
namespace Go.Proofs.Ytkjfecdpakhggaa
open Go.RowKit
set_option linter.unusedVariables false
set_option linter.unusedSimpArgs false
set_option maxRecDepth 100000

theorem nxK_ok (l : List Ub) (n : Nat) : ∀ (f k : Nat), k + f = n → (∀ j, j < k → isB l j = true) → ∃ r, Nx l n r
  | 0, k, h, hp => ⟨k, by omega, hp, .inl (by omega)⟩
  | f + 1, k, h, hp => by
    cases hb : isB l k
    · exact ⟨k, by omega, hp, .inr hb⟩
    · exact nxK_ok l n f (k + 1) (by omega) fun j hj => by
        rcases Nat.lt_or_eq_of_le (Nat.le_of_lt_succ hj) with q | rfl
        · exact hp j q
        · exact hb
theorem nx_ex (l : List Ub) (n : Nat) : ∃ k, Nx l n k := nxK_ok l n n 0 (by omega) fun j hj => absurd hj (Nat.not_lt_zero _)
theorem lpt_ok (a : BitVec 32) (z e : Int) (he : Bool) (rd : List (BitVec 8)) (n : Nat) (l0 : List Ub) (m0 : List (BitVec 8)) (sq : BitVec 32) (d : List (BitVec 8)) (fin : Bool) (he' : Bool) (e' : Int) (k : Nat) (rd' : List (BitVec 8)) (hl : l0.length = n) (hm : m0.length = n) (hz : (n : Int) = z + 1) (h1 : (rd.length : Int) ≤ z) (h2 : z ≤ 65536) (hd : d.length ≤ 65536) (hk : Nx (tkS a sq (wD z rd) he e d l0 m0 d.length).1 n k) : LOk Try.prog G (mD a z e he false rd n l0 m0) 19 (LPt a z e he rd n l0 m0 sq d fin (tkS a sq (wD z rd) he e d l0 m0 d.length).1 (tkS a sq (wD z rd) he e d l0 m0 d.length).2 (enD a sq d) (frN (tkS a sq (wD z rd) he e d l0 m0 d.length).1 (enD a sq d).toNat (n - (enD a sq d).toNat)) he' e' k rd' (shS n k (tkS a sq (wD z rd) he e d l0 m0 d.length).1 (tkS a sq (wD z rd) he e d l0 m0 d.length).2 n).1 (shS n k (tkS a sq (wD z rd) he e d l0 m0 d.length).1 (tkS a sq (wD z rd) he e d l0 m0 d.length).2 n).2) := by
  obtain ⟨g1, g2⟩ := tkS_len a sq (wD z rd) he e d l0 m0 d.length
  have hn : n ≤ 4294967296 := by omega
  have hen : (enD a sq d).toNat < 4294967296 := (enD a sq d).isLt
  refine LT.add_ok (LT.add_ok (LT.add_ok (LT.add_ok (noL_ok _ _ _ _) ?_) ?_) ?_) ?_
  · exact loopTk a z e he rd n l0 m0 sq a d fin hl hm hz h1 h2 hd 0
  · exact loopFr a z e he false rd n _ _ e he rd l0 m0 a (enD a sq d) (enD a sq d).toNat (by omega) hn (by omega) 2
  · exact loopNx a z e' he' false rd n _ _ e he rd l0 m0 a k (by omega) hn hk 4
  · exact loopSh a z e' he' false rd' n _ _ e he rd l0 m0 a k (by omega) (by omega) hk.le hn 6
/-- The document's Put of a queue that has not ended, from its own place. -/
theorem put_spec (a : BitVec 32) (z e : Int) (he : Bool) (rd : List (BitVec 8)) (n : Nat) (l0 : List Ub) (m0 : List (BitVec 8)) (sq : BitVec 32) (d : List (BitVec 8)) (fin : Bool) (hl : l0.length = n) (hm : m0.length = n) (hz : (n : Int) = z + 1) (h1 : (rd.length : Int) ≤ z) (h2 : z ≤ 65536) (hd : d.length ≤ 65536) (hb : -4611686018427387904 ≤ e ∧ e ≤ 4611686018427387904) (k : Nat) (hk : Nx (tkS a sq (wD z rd) he e d l0 m0 d.length).1 n k) (he' : Bool) (e' : Int) (hh : he' = (he || enB z rd n he fin (enD a sq d) (tkS a sq (wD z rd) he e d l0 m0 d.length).1)) (hx : e' = bif enB z rd n he fin (enD a sq d) (tkS a sq (wD z rd) he e d l0 m0 d.length).1 then (((enD a sq d).toNat : Nat) : Int) else e) :
    Spec Try.prog G 19 [.ptr 0 0, .w32 sq, .s d, .b fin] (mD a z e he false rd n l0 m0) (fun r M => r = .b (nxD a he' e' k != a) ∧ M = mD (nxD a he' e' k) z (e' - (k : Int)) he' (edD he' e' k) (rd ++ (tkS a sq (wD z rd) he e d l0 m0 d.length).2.take k) n (shS n k (tkS a sq (wD z rd) he e d l0 m0 d.length).1 (tkS a sq (wD z rd) he e d l0 m0 d.length).2 n).1 (shS n k (tkS a sq (wD z rd) he e d l0 m0 d.length).1 (tkS a sq (wD z rd) he e d l0 m0 d.length).2 n).2) := by
  obtain ⟨g1, g2⟩ := tkS_len a sq (wD z rd) he e d l0 m0 d.length
  exact vf_ok ew_ok mixed (lpt_ok a z e he rd n l0 m0 sq d fin he' e' k _ hl hm hz h1 h2 hd hk) (put_row a z e he rd n l0 m0 sq d fin _ _ he' e' k _ _ hd h1 h2 hz (by omega) hk.le hh hx hb)
end Go.Proofs.Ytkjfecdpakhggaa
