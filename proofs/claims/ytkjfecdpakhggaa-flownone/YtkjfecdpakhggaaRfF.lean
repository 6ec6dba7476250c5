/-
  flow: the document's Put, its loops laid together. No statement is proved here.
-/
import Derived.Test.YtkjfecdpakhggaaRfE
namespace Go.Proofs.Ytkjfecdpakhggaa
open Go.RowKit
set_option linter.unusedVariables false
set_option linter.unusedSimpArgs false
set_option maxRecDepth 100000

theorem nxK_ok (l : List Ub) (n : Nat) : ∀ (f k : Nat), k + f = n → (∀ j, j < k → isB l j = true) → ∃ r, Nx l n r
  | 0, k, h, hp => ⟨k, by omega, hp, .inl (by omega)⟩
  | f + 1, k, h, hp => by
    cases hb : isB l k
    · exact ⟨k, by omega, hp, .inr hb⟩
    · exact nxK_ok l n f (k + 1) (by omega) fun j hj => by
        rcases Nat.lt_or_eq_of_le (Nat.le_of_lt_succ hj) with q | rfl
        · exact hp j q
        · exact hb
theorem nx_ex (l : List Ub) (n : Nat) : ∃ k, Nx l n k := nxK_ok l n n 0 (by omega) fun j hj => absurd hj (Nat.not_lt_zero _)
theorem lpt_ok (a : BitVec 32) (z e : Int) (he : Bool) (rd : List (BitVec 8)) (n : Nat) (l0 : List Ub) (m0 : List (BitVec 8)) (sq : BitVec 32) (d : List (BitVec 8)) (fin : Bool) (he' : Bool) (e' : Int) (k : Nat) (rd' : List (BitVec 8)) (hl : l0.length = n) (hm : m0.length = n) (hz : (n : Int) = z + 1) (h1 : (rd.length : Int) ≤ z) (h2 : z ≤ 65536) (hd : d.length ≤ 65536) (hk : Nx (tkS a sq (wD z rd) he e d l0 m0 d.length).1 n k) : LOk Try.prog G (mD a z e he false rd n l0 m0) 19 (LPt a z e he rd n l0 m0 sq d fin (tkS a sq (wD z rd) he e d l0 m0 d.length).1 (tkS a sq (wD z rd) he e d l0 m0 d.length).2 (enD a sq d) (frN (tkS a sq (wD z rd) he e d l0 m0 d.length).1 (enD a sq d).toNat (n - (enD a sq d).toNat)) he' e' k rd' (shS n k (tkS a sq (wD z rd) he e d l0 m0 d.length).1 (tkS a sq (wD z rd) he e d l0 m0 d.length).2 n).1 (shS n k (tkS a sq (wD z rd) he e d l0 m0 d.length).1 (tkS a sq (wD z rd) he e d l0 m0 d.length).2 n).2) := by
  obtain ⟨g1, g2⟩ := tkS_len a sq (wD z rd) he e d l0 m0 d.length
  have hn : n ≤ 4294967296 := by omega
  have hen : (enD a sq d).toNat < 4294967296 := (enD a sq d).isLt
  refine LT.add_ok (LT.add_ok (LT.add_ok (LT.add_ok (noL_ok _ _ _ _) ?_) ?_) ?_) ?_
  · exact loopTk a z e he rd n l0 m0 sq a d fin hl hm hz h1 h2 hd 0
  · exact loopFr a z e he false rd n _ _ e he rd l0 m0 a (enD a sq d) (enD a sq d).toNat (by omega) hn (by omega) 2
  · exact loopNx a z e' he' false rd n _ _ e he rd l0 m0 a k (by omega) hn hk 4
  · exact loopSh a z e' he' false rd' n _ _ e he rd l0 m0 a k (by omega) (by omega) hk.le hn 6
/-- The document's Put of a queue that has not ended, from its own place. -/
theorem put_spec (a : BitVec 32) (z e : Int) (he : Bool) (rd : List (BitVec 8)) (n : Nat) (l0 : List Ub) (m0 : List (BitVec 8)) (sq : BitVec 32) (d : List (BitVec 8)) (fin : Bool) (hl : l0.length = n) (hm : m0.length = n) (hz : (n : Int) = z + 1) (h1 : (rd.length : Int) ≤ z) (h2 : z ≤ 65536) (hd : d.length ≤ 65536) (hb : -4611686018427387904 ≤ e ∧ e ≤ 4611686018427387904) (k : Nat) (hk : Nx (tkS a sq (wD z rd) he e d l0 m0 d.length).1 n k) (he' : Bool) (e' : Int) (hh : he' = (he || enB z rd n he fin (enD a sq d) (tkS a sq (wD z rd) he e d l0 m0 d.length).1)) (hx : e' = bif enB z rd n he fin (enD a sq d) (tkS a sq (wD z rd) he e d l0 m0 d.length).1 then (((enD a sq d).toNat : Nat) : Int) else e) :
    Spec Try.prog G 19 [.ptr 0 0, .w32 sq, .s d, .b fin] (mD a z e he false rd n l0 m0) (fun r M => r = .b (nxD a he' e' k != a) ∧ M = mD (nxD a he' e' k) z (e' - (k : Int)) he' (edD he' e' k) (rd ++ (tkS a sq (wD z rd) he e d l0 m0 d.length).2.take k) n (shS n k (tkS a sq (wD z rd) he e d l0 m0 d.length).1 (tkS a sq (wD z rd) he e d l0 m0 d.length).2 n).1 (shS n k (tkS a sq (wD z rd) he e d l0 m0 d.length).1 (tkS a sq (wD z rd) he e d l0 m0 d.length).2 n).2) := by
  obtain ⟨g1, g2⟩ := tkS_len a sq (wD z rd) he e d l0 m0 d.length
  exact vf_ok ew_ok mixed (lpt_ok a z e he rd n l0 m0 sq d fin he' e' k _ hl hm hz h1 h2 hd hk) (put_row a z e he rd n l0 m0 sq d fin _ _ he' e' k _ _ hd h1 h2 hz (by omega) hk.le hh hx hb)
end Go.Proofs.Ytkjfecdpakhggaa
