/-
  seg: the options of a head, gone through: what they tell, the program's and the document's alike. No statement is proved here.
-/
import Derived.Test.YtmeipcgkhgagpaaSgD
namespace Go.Proofs.Ytmeipcgkhgagpaa
open Go.RowKit
set_option linter.unusedVariables false
set_option linter.unusedSimpArgs false
set_option maxRecDepth 100000

/-- What options tell: are they right, Mss, is there a scale, which. -/
structure OpR where
  ok : Bool
  m : BitVec 16
  h : Bool
  c : BitVec 8
def szI (l : Tx) : Int := bif ilt (l.length : Int) 2 then 0 else ((l.getD 1 0).toNat : Int)
def szB (l : Tx) : Bool := bif ilt (l.length : Int) 2 then false else (bif ile 2 ((l.getD 1 0).toNat : Int) then ile ((l.getD 1 0).toNat : Int) (l.length : Int) else false)
def tkB (l : Tx) : Bool := bif l.getD 0 0 == BitVec.ofInt 8 2 then szI l == 4 else bif l.getD 0 0 == BitVec.ofInt 8 3 then szI l == 3 else true
def tkM (l : Tx) (m : BitVec 16) : BitVec 16 := bif l.getD 0 0 == BitVec.ofInt 8 2 then (nmX ((l.take 4).drop 2)).setWidth 16 else m
def tkH (l : Tx) (h : Bool) : Bool := bif l.getD 0 0 == BitVec.ofInt 8 2 then h else bif l.getD 0 0 == BitVec.ofInt 8 3 then true else h
def tkC (l : Tx) (c : BitVec 8) : BitVec 8 := bif l.getD 0 0 == BitVec.ofInt 8 2 then c else bif l.getD 0 0 == BitVec.ofInt 8 3 then (bif (BitVec.ofInt 8 14).ult (l.getD 2 0) then BitVec.ofInt 8 14 else l.getD 2 0) else c
def opN : Nat → Tx → BitVec 16 → Bool → BitVec 8 → OpR
  | 0, _, m, h, c => ⟨true, m, h, c⟩
  | n + 1, l, m, h, c => bif ilt 0 (l.length : Int) then
      bif l.getD 0 0 == BitVec.ofInt 8 0 then ⟨true, m, h, c⟩
      else bif l.getD 0 0 == BitVec.ofInt 8 1 then opN n (l.drop 1) m h c
      else bif szB l then
        bif tkB l then opN n (l.drop (szI l).toNat) (tkM l m) (tkH l h) (tkC l c) else ⟨false, m, h, c⟩
      else ⟨false, m, h, c⟩
    else ⟨true, m, h, c⟩
def opX (l : Tx) (m : BitVec 16) (h : Bool) (c : BitVec 8) : OpR := opN l.length l m h c
structure OSt where
  n : Nat
  l : Tx
  m : BitVec 16
  h : Bool
  c : BitVec 8
def OSt.next (s : OSt) : OSt := bif s.l.getD 0 0 == BitVec.ofInt 8 1 then ⟨s.n - 1, s.l.drop 1, s.m, s.h, s.c⟩ else ⟨s.n - 1, s.l.drop (szI s.l).toNat, tkM s.l s.m, tkH s.l s.h, tkC s.l s.c⟩
def OSt.r (s : OSt) : OpR := opN s.n s.l s.m s.h s.c
def OSt.ok (R : OpR) (s : OSt) : Prop := s.l.length ≤ s.n ∧ s.l.length ≤ 4294967296 ∧ s.r = R
theorem of_ilt {a b : Int} (h : ilt a b = true) : a < b := of_decide_eq_true ((ilt_eq _ _).symm.trans h)
theorem of_nilt {a b : Int} (h : ilt a b = false) : ¬ a < b := of_decide_eq_false ((ilt_eq _ _).symm.trans h)
theorem of_ile {a b : Int} (h : ile a b = true) : a ≤ b := of_decide_eq_true ((ile_eq _ _).symm.trans h)
theorem of_nile {a b : Int} (h : ile a b = false) : ¬ a ≤ b := of_decide_eq_false ((ile_eq _ _).symm.trans h)
theorem eq8 {l : Tx} {k : Nat} {a b : BitVec 8} (h : (l.getD k 0 == a) = true) (hab : (a == b) = false) : (l.getD k 0 == b) = false := by
  rw [eq_of_beq h]; exact hab
theorem szB_of {l : Tx} (h : szB l = true) : ∃ z : Nat, (l.getD 1 0).toNat = z ∧ szI l = (z : Int) ∧ 2 ≤ z ∧ z ≤ l.length := by
  unfold szB at h
  unfold szI
  cases h2 : ilt (l.length : Int) 2
  · rw [h2] at h
    simp only [cond_false] at h
    cases h3 : ile 2 ((l.getD 1 0).toNat : Int)
    · rw [h3] at h; cases h
    · rw [h3] at h
      simp only [cond_true] at h
      have a := of_ile h3
      have b := of_ile h
      exact ⟨_, rfl, rfl, by omega, by omega⟩
  · rw [h2] at h; cases h
theorem toNat_eq8 {x : BitVec 8} {k : Nat} (hk : k < 256) : (x == BitVec.ofInt 8 (k : Int)) = (((x.toNat : Nat) : Int) == (k : Int)) := by
  have e : (BitVec.ofInt 8 (k : Int)).toNat = k := by rw [BitVec.toNat_ofInt]; omega
  rw [Bool.eq_iff_iff, beq_iff_eq, beq_iff_eq]
  constructor
  · rintro rfl; rw [e]
  · intro h
    apply BitVec.eq_of_toNat_eq
    rw [e]; omega
theorem erd_ok : EnvOk Try.prog (ERd nmX szI szB Try.prog) := by
  refine { T := PT.add_ok t0_ok ?_, C := CT.add_ok (noC_ok _ _) (fun args M K h => vf_ok (E := EN nmX) { T := PT.add_ok t0_ok number_ok, C := noC_ok _ _ } mixed (noL_ok _ _ _ _) h) }
  intro args acs r hh β M w hR hw ha
  unfold cSz at hh
  split at hh
  · rename_i l
    simp only [Option.some.injEq, Prod.mk.injEq, true_and] at hh
    subst hh
    refine pokE (E := E0) rfl e0_ok (noL_ok _ _ _ _) (v28 l _) ?_ rfl rfl hR
    unfold szI szB
    cases h2 : ilt (l.length : Int) 2
    · have := of_nilt h2
      refine bif_of (inR_iff.2 ⟨by omega, by omega⟩) ?_
      cases h3 : ile 2 ((l.getD 1 0).toNat : Int) <;> rfl
    · rfl
  · cases hh
theorem op_exit {n : Nat} {l : Tx} {m : BitVec 16} {h : Bool} {c : BitVec 8} (hA : ilt 0 (l.length : Int) = false) : opN n l m h c = ⟨true, m, h, c⟩ := by
  cases n
  · rfl
  · unfold opN; rw [hA]; rfl
theorem row3 {m m1 : BitVec 16} {h h1 : Bool} {c c1 : BitVec 8} (e : (⟨true, m, h, c⟩ : OpR) = ⟨true, m1, h1, c1⟩) : m = m1 ∧ h = h1 ∧ c = c1 := by cases e; exact ⟨rfl, rfl, rfl⟩
theorem loop20 (l0 : Tx) (hl0 : l0.length ≤ 4294967296) (R : OpR) (hR0 : opX l0 0 false 0 = R) : ∀ fr M K, vLoopR G 38 (i20 l0) (M20 0 false 0) (R.ok = true) o20 (M20 R.m R.h R.c) (R.ok = false) z20 Z20 fr M K → Wp Try.prog G G (loopOf Try.prog 20 0) fr M K := by
  refine loop_ret erd_ok mixed (noL_ok _ _ _ _) (Nat.le_refl _) (by kernel_rfl) (fun s : OSt => i20 s.l) (fun s => M20 s.m s.h s.c) (OSt.ok R) (fun s => s.n) OSt.next ⟨l0.length, l0, 0, false, 0⟩ ⟨Nat.le_refl _, hl0, hR0⟩ (fun s hs => of_eq (r20 nmX szI szB s.l s.next.l s.m s.next.m R.m s.h s.next.h R.h s.c s.next.c R.c _ _ _) ?_)
  obtain ⟨n, l, m, h, c⟩ := s
  obtain ⟨hn, hl, hr⟩ := hs
  have hr : opN n l m h c = R := hr
  have hl : l.length ≤ 4294967296 := hl
  show (bif ilt 0 (l.length : Int) then _ else _)
  cases hA : ilt 0 (l.length : Int)
  · rw [op_exit hA] at hr
    subst hr
    repeat' (first | exact rfl | exact trivial | apply And.intro)
  have hA' := of_ilt hA
  have hn : l.length ≤ n := hn
  obtain ⟨n, rfl⟩ : ∃ k, n = k + 1 := ⟨n - 1, by omega⟩
  refine bif_of (inR_iff.2 ⟨by omega, by omega⟩) ?_
  unfold opN at hr
  rw [hA] at hr
  show (bif l.getD 0 0 == BitVec.ofInt 8 0 then _ else _)
  cases hB0 : l.getD 0 0 == BitVec.ofInt 8 0
  case true =>
    rw [hB0] at hr
    subst hr
    repeat' (first | exact rfl | exact trivial | apply And.intro)
  rw [hB0] at hr
  show (bif l.getD 0 0 == BitVec.ofInt 8 1 then _ else _)
  cases hB1 : l.getD 0 0 == BitVec.ofInt 8 1
  case true =>
    rw [hB1] at hr
    have hr : opN n (l.drop 1) m h c = R := hr
    have hx : OSt.next ⟨n + 1, l, m, h, c⟩ = ⟨n, l.drop 1, m, h, c⟩ := by unfold OSt.next; rw [hB1]; rfl
    show (bif ile 1 (l.length : Int) && ile (l.length : Int) (l.length : Int) then _ else False)
    refine bif_of (and_t (ile_of (by omega)) (ile_of (by omega))) ?_
    rw [hx]
    have hp : OSt.ok R ⟨n, l.drop 1, m, h, c⟩ := ⟨by show (l.drop 1).length ≤ n; rw [List.length_drop]; omega, by show (l.drop 1).length ≤ 4294967296; rw [List.length_drop]; omega, hr⟩
    refine ⟨⟨hp, Nat.lt_succ_self n⟩, by rw [List.take_length], ?_⟩
    repeat' (first | exact rfl | exact trivial | apply And.intro)
  rw [hB1] at hr
  show (bif !szB l then _ else _)
  cases hW : szB l
  case false =>
    rw [hW] at hr
    subst hr
    repeat' (first | exact rfl | exact trivial | apply And.intro)
  rw [hW] at hr
  obtain ⟨z, hz1, hz2, hz3, hz4⟩ := szB_of hW
  have hx : OSt.next ⟨n + 1, l, m, h, c⟩ = ⟨n, l.drop z, tkM l m, tkH l h, tkC l c⟩ := by unfold OSt.next; rw [hB1, hz2]; rfl
  have hr : (bif tkB l then opN n (l.drop (szI l).toNat) (tkM l m) (tkH l h) (tkC l c) else ⟨false, m, h, c⟩) = R := hr
  have ez : (szI l).toNat = z := by rw [hz2]; rfl
  have et : List.drop 0 (List.take z l) = l.take z := rfl
  have el : (l.take z).length = z := by rw [List.length_take]; omega
  have eg : ∀ k, k < z → (l.take z).getD k 0 = l.getD k 0 := fun k hk => by
    rw [List.getD_eq_getElem?_getD, List.getD_eq_getElem?_getD, List.getElem?_take_of_lt hk]
  have hP : OSt.ok R ⟨n, l.drop z, tkM l m, tkH l h, tkC l c⟩ → OSt.ok R (OSt.next ⟨n + 1, l, m, h, c⟩) ∧ (OSt.next ⟨n + 1, l, m, h, c⟩).n < n + 1 := fun h => by rw [hx]; exact ⟨h, Nat.lt_succ_self n⟩
  rw [hx] at hP ⊢
  simp only [cond_false, Bool.not_true, hz2, Int.toNat_natCast, et, el, eg 0 (by omega)]
  refine bif_of (and_t (ile_of (by omega)) (ile_of (by omega))) (bif_of (inR_iff.2 ⟨by omega, by omega⟩) ?_)
  have hlz : (l.drop z).length ≤ n := by rw [List.length_drop]; omega
  have hlz2 : (l.drop z).length ≤ 4294967296 := by rw [List.length_drop]; omega
  cases hB2 : l.getD 0 0 == BitVec.ofInt 8 2
  case true =>
    have hB3 : (l.getD 0 0 == BitVec.ofInt 8 3) = false := eq8 hB2 rfl
    cases hz : ((z : Int) == 4)
    · have : tkB l = false := by unfold tkB; rw [hB2, hz2]; exact hz
      rw [this] at hr
      subst hr
      show (bif !((z : Int) == 4) then _ else _)
      rw [hz]
      repeat' (first | exact rfl | exact trivial | apply And.intro)
    · have : tkB l = true := by unfold tkB; rw [hB2, hz2]; exact hz
      rw [this, ez] at hr
      show (bif !((z : Int) == 4) then _ else _)
      rw [hz]
      have hz := eq_of_beq hz
      have hz' : z = 4 := by omega
      refine bif_of (and_t (ile_of (by omega)) (ile_of (by omega))) (bif_of (ble_of (by rw [List.length_drop, List.length_take, el]; omega)) (bif_of (and_t (and_t (ile_of (by omega)) (ile_of (by omega))) (ile_of (by omega))) ⟨hP ⟨hlz, hlz2, hr⟩, by rw [List.take_length], ?_⟩))
      subst hz'
      have e1 : tkM l m = (nmX ((l.take 4).drop 2)).setWidth 16 := by unfold tkM; rw [hB2]; rfl
      have e2 : tkH l h = h := by unfold tkH; rw [hB2]; rfl
      have e3 : tkC l c = c := by unfold tkC; rw [hB2]; rfl
      have e4 : (l.take 4).take 4 = l.take 4 := by rw [List.take_take]; rfl
      rw [e1, e2, e3, e4]
      repeat' (first | exact rfl | exact trivial | apply And.intro)
  cases hB3 : l.getD 0 0 == BitVec.ofInt 8 3
  case true =>
    cases hz : ((z : Int) == 3)
    · have : tkB l = false := by unfold tkB; rw [hB2, hB3, hz2]; exact hz
      rw [this] at hr
      subst hr
      show (bif !((z : Int) == 3) then _ else _)
      rw [hz]
      repeat' (first | exact rfl | exact trivial | apply And.intro)
    · have : tkB l = true := by unfold tkB; rw [hB2, hB3, hz2]; exact hz
      rw [this, ez] at hr
      show (bif !((z : Int) == 3) then _ else _)
      rw [hz]
      have hz := eq_of_beq hz
      have hz' : z = 3 := by omega
      have e1 : tkM l m = m := by unfold tkM; rw [hB2]; rfl
      have e2 : tkH l h = true := by unfold tkH; rw [hB2, hB3]; rfl
      have e3 : tkC l c = (bif (BitVec.ofInt 8 14).ult (l.getD 2 0) then BitVec.ofInt 8 14 else l.getD 2 0) := by unfold tkC; rw [hB2, hB3]; rfl
      refine bif_of (inR_iff.2 ⟨by omega, by omega⟩) ?_
      have hT : r20t1 nmX szI szB l (List.drop z l) m (tkM l m) R.m h (tkH l h) R.h c (tkC l c) R.c (OSt.ok R ⟨n, l.drop z, tkM l m, tkH l h, tkC l c⟩ ∧ n < n + 1) (R.ok = true) (R.ok = false) := by
        unfold r20t1
        rw [hz2]
        refine bif_of (and_t (and_t (ile_of (by omega)) (ile_of (by omega))) (ile_of (by omega))) ⟨hP ⟨hlz, hlz2, hr⟩, ?_⟩
        subst hz'
        simp only [Int.toNat_natCast, List.take_length, et, eg 2 (by omega), e1, e2, e3]
        repeat' (first | exact rfl | exact trivial | apply And.intro)
      repeat' (first | exact hT | exact rfl | exact trivial | apply And.intro)
  have : tkB l = true := by unfold tkB; rw [hB2, hB3]; rfl
  rw [this, ez] at hr
  have e1 : tkM l m = m := by unfold tkM; rw [hB2]; rfl
  have e2 : tkH l h = h := by unfold tkH; rw [hB2, hB3]; rfl
  have e3 : tkC l c = c := by unfold tkC; rw [hB2, hB3]; rfl
  refine bif_of (and_t (and_t (ile_of (by omega)) (ile_of (by omega))) (ile_of (by omega))) ⟨hP ⟨hlz, hlz2, hr⟩, by rw [List.take_length], ?_⟩
  rw [e1, e2, e3]
  repeat' (first | exact rfl | exact trivial | apply And.intro)
end Go.Proofs.Ytmeipcgkhgagpaa
