/-
  seg: the options of a head, gone through: the document's; what both tell, as contracts. No statement is proved here.
-/
import Derived.Test.YtmeipcgkhgagpaaSgE
namespace Go.Proofs.Ytmeipcgkhgagpaa
open Go.RowKit
set_option linter.unusedVariables false
set_option linter.unusedSimpArgs false
set_option maxRecDepth 100000

def vl4 (l : Tx) : BitVec 64 := (nmX l).setWidth 64
theorem vl_lt (l : Tx) : ∀ j, j ≤ 4 → (vlN l j).toNat < 2 ^ (8 * j)
  | 0, _ => by show (0 : BitVec 64).toNat < 1; decide
  | j + 1, h => by
    have h1 := vl_lt l j (by omega)
    have h2 := getD_t l j
    show (vlN l j <<< 8 ||| (l.getD j 0).setWidth 64).toNat < _
    rw [BitVec.toNat_or]
    refine Nat.or_lt_two_pow ?_ ?_
    · rw [BitVec.toNat_shiftLeft, Nat.shiftLeft_eq]
      have e : 2 ^ (8 * (j + 1)) = 2 ^ (8 * j) * 256 := by rw [Nat.mul_succ, Nat.pow_add]
      rw [e]
      exact Nat.lt_of_le_of_lt (Nat.mod_le _ _) (by omega)
    · rw [BitVec.toNat_setWidth]
      have : 2 ^ 8 ≤ 2 ^ (8 * (j + 1)) := Nat.pow_le_pow_right (by decide) (by omega)
      exact Nat.lt_of_le_of_lt (Nat.mod_le _ _) (by omega)
theorem vl_eq (l : Tx) (h : l.length ≤ 4) : vlX l = (nmX l).setWidth 64 := by
  have h1 := vl_lt l l.length h
  have h2 : 2 ^ (8 * l.length) ≤ 2 ^ 32 := Nat.pow_le_pow_right (by decide) (by omega)
  unfold vlX nmX
  rw [← vl_nm]
  apply BitVec.eq_of_toNat_eq
  simp only [BitVec.toNat_setWidth]
  omega
theorem nm_lt (l : Tx) (h : l.length ≤ 2) : (nmX l).toNat < 65536 := by
  have h1 := vl_lt l l.length (by omega)
  have h2 : 2 ^ (8 * l.length) ≤ 2 ^ 16 := Nat.pow_le_pow_right (by decide) (by omega)
  unfold nmX
  rw [← vl_nm, BitVec.toNat_setWidth]
  omega
theorem value4_ok : POk Try.prog G 22 (cVl4 vl4) := by
  intro args acs r hh β M w hR hw ha
  unfold cVl4 at hh
  split at hh
  · rename_i l
    simp only [Option.some.injEq, Prod.mk.injEq] at hh
    obtain ⟨hl, rfl⟩ := hh
    have hl := Nat.le_of_ble_eq_true hl
    refine value_ok [.s l] acs _ ?_ β M w hR hw ha
    show some (Nat.ble l.length 4294967296, SV.w64 (vlX l)) = _
    rw [ble_of (by omega), vl_eq l hl]; rfl
  · cases hh
theorem evl_ok : EnvOk Try.prog (EV vl4) := { T := PT.add_ok t0_ok value4_ok, C := noC_ok _ _ }
theorem vl16 (l : Tx) : (vl4 l).setWidth 16 = (nmX l).setWidth 16 := by
  apply BitVec.eq_of_toNat_eq
  unfold vl4
  simp only [BitVec.toNat_setWidth]
  omega
theorem szB_f2 {l : Tx} (h : (l.getD 1 0).ult (BitVec.ofInt 8 2) = true) : szB l = false := by
  have e : (BitVec.ofInt 8 2).toNat = 2 := rfl
  have h := of_decide_eq_true h
  rw [e] at h
  unfold szB
  have h3 : ile 2 ((l.getD 1 0).toNat : Int) = false := ile_no (by omega)
  rw [h3]
  cases ilt (l.length : Int) 2 <;> rfl
theorem szB_f1 {l : Tx} (h : ilt (l.length : Int) 2 = true) : szB l = false := by unfold szB; rw [h]; rfl
theorem szB_f3 {l : Tx} (h : ilt (l.length : Int) ((l.getD 1 0).toNat : Int) = true) : szB l = false := by
  have h := of_ilt h
  unfold szB
  cases ilt (l.length : Int) 2
  · cases ile 2 ((l.getD 1 0).toNat : Int)
    · rfl
    · show ile ((l.getD 1 0).toNat : Int) (l.length : Int) = false
      exact ile_no (by omega)
  · rfl
theorem szB_t {l : Tx} (h1 : ilt (l.length : Int) 2 = false) (h2 : (l.getD 1 0).ult (BitVec.ofInt 8 2) = false) (h3 : ilt (l.length : Int) ((l.getD 1 0).toNat : Int) = false) : szB l = true := by
  have e : (BitVec.ofInt 8 2).toNat = 2 := rfl
  have h2 := of_decide_eq_false h2
  rw [e] at h2
  have h3 := of_nilt h3
  unfold szB
  have h4 : ile 2 ((l.getD 1 0).toNat : Int) = true := ile_of (by omega)
  rw [h1, h4]
  show ile ((l.getD 1 0).toNat : Int) (l.length : Int) = true
  exact ile_of (by omega)
theorem loop23 (a b : BitVec 16) (q k : BitVec 32) (f : BitVec 8) (w m0 : BitVec 16) (h0 : Bool) (c0 : BitVec 8) (d : Tx) (l0 : Tx) (hl0 : l0.length ≤ 4294967296) (R : OpR) (hR0 : opX l0 m0 h0 c0 = R) : ∀ fr M K, vLoopR (M23 a b q k f w m0 h0 c0 d) 66 (i23 l0) (M23 a b q k f w m0 h0 c0 d) (R.ok = true) o23 (M23 a b q k f w R.m R.h R.c d) (R.ok = false) z23 (M23 a b q k f w R.m R.h R.c d) fr M K → Wp Try.prog G (M23 a b q k f w m0 h0 c0 d) (loopOf Try.prog 23 0) fr M K := by
  refine loop_ret evl_ok mixed (noL_ok _ _ _ _) (by show 0 ≤ 1; decide) (by kernel_rfl) (fun s : OSt => i23 s.l) (fun s => M23 a b q k f w s.m s.h s.c d) (OSt.ok R) (fun s => s.n) OSt.next ⟨l0.length, l0, m0, h0, c0⟩ ⟨Nat.le_refl _, hl0, hR0⟩ (fun s hs => of_eq (r23 vl4 a b q k f w s.m s.next.m m0 R.m s.h s.next.h h0 R.h s.c s.next.c c0 R.c d s.l s.next.l _ _ _) ?_)
  obtain ⟨n, l, m, h, c⟩ := s
  obtain ⟨hn, hl, hr⟩ := hs
  have hr : opN n l m h c = R := hr
  have hl : l.length ≤ 4294967296 := hl
  dsimp only
  cases hA : ilt 0 (l.length : Int)
  · rw [op_exit hA] at hr
    subst hr
    repeat' (first | exact rfl | exact trivial | apply And.intro)
  have hA' := of_ilt hA
  have hn : l.length ≤ n := hn
  obtain ⟨n, rfl⟩ : ∃ k, n = k + 1 := ⟨n - 1, by omega⟩
  refine bif_of (inR_iff.2 ⟨by omega, by omega⟩) ?_
  unfold opN at hr
  rw [hA] at hr
  show (bif !(l.getD 0 0 == BitVec.ofInt 8 0) then _ else _)
  cases hB0 : l.getD 0 0 == BitVec.ofInt 8 0
  case true =>
    rw [hB0] at hr
    subst hr
    repeat' (first | exact rfl | exact trivial | apply And.intro)
  rw [hB0] at hr
  refine bif_of (inR_iff.2 ⟨by omega, by omega⟩) ?_
  show (bif l.getD 0 0 == BitVec.ofInt 8 1 then _ else _)
  cases hB1 : l.getD 0 0 == BitVec.ofInt 8 1
  case true =>
    rw [hB1] at hr
    have hr : opN n (l.drop 1) m h c = R := hr
    have hx : OSt.next ⟨n + 1, l, m, h, c⟩ = ⟨n, l.drop 1, m, h, c⟩ := by unfold OSt.next; rw [hB1]; rfl
    show (bif ile 1 (l.length : Int) && ile (l.length : Int) (l.length : Int) then _ else False)
    refine bif_of (and_t (ile_of (by omega)) (ile_of (by omega))) ?_
    rw [hx]
    have hp : OSt.ok R ⟨n, l.drop 1, m, h, c⟩ := ⟨by show (l.drop 1).length ≤ n; rw [List.length_drop]; omega, by show (l.drop 1).length ≤ 4294967296; rw [List.length_drop]; omega, hr⟩
    refine ⟨⟨hp, Nat.lt_succ_self n⟩, rfl, by rw [List.take_length], ?_⟩
    repeat' (first | exact rfl | exact trivial | apply And.intro)
  rw [hB1] at hr
  show (bif ilt (l.length : Int) 2 then _ else _)
  cases hC : ilt (l.length : Int) 2
  case true =>
    rw [szB_f1 hC] at hr
    subst hr
    repeat' (first | exact rfl | exact trivial | apply And.intro)
  have hC' := of_nilt hC
  refine bif_of (inR_iff.2 ⟨by omega, by omega⟩) ?_
  show (bif (l.getD 1 0).ult (BitVec.ofInt 8 2) then _ else _)
  cases hD : (l.getD 1 0).ult (BitVec.ofInt 8 2)
  case true =>
    rw [szB_f2 hD] at hr
    subst hr
    repeat' (first | exact rfl | exact trivial | apply And.intro)
  refine bif_of (inR_iff.2 ⟨by omega, by omega⟩) ?_
  show (bif ilt (l.length : Int) ((l.getD 1 0).toNat : Int) then _ else _)
  cases hE : ilt (l.length : Int) ((l.getD 1 0).toNat : Int)
  case true =>
    rw [szB_f3 hE] at hr
    subst hr
    repeat' (first | exact rfl | exact trivial | apply And.intro)
  have hW := szB_t hC hD hE
  rw [hW] at hr
  obtain ⟨z, hz1, hz2, hz3, hz4⟩ := szB_of hW
  have hx : OSt.next ⟨n + 1, l, m, h, c⟩ = ⟨n, l.drop z, tkM l m, tkH l h, tkC l c⟩ := by unfold OSt.next; rw [hB1, hz2]; rfl
  have hr : (bif tkB l then opN n (l.drop (szI l).toNat) (tkM l m) (tkH l h) (tkC l c) else ⟨false, m, h, c⟩) = R := hr
  have ez : (szI l).toNat = z := by rw [hz2]; rfl
  have hlz : (l.drop z).length ≤ n := by rw [List.length_drop]; omega
  have hlz2 : (l.drop z).length ≤ 4294967296 := by rw [List.length_drop]; omega
  have hP : OSt.ok R ⟨n, l.drop z, tkM l m, tkH l h, tkC l c⟩ → OSt.ok R ⟨n, l.drop z, tkM l m, tkH l h, tkC l c⟩ ∧ n < n + 1 := fun h => ⟨h, Nat.lt_succ_self n⟩
  rw [hx]
  have i0 : inR 0 l.length = true := inR_iff.2 ⟨by omega, by omega⟩
  have i1 : inR 1 l.length = true := inR_iff.2 ⟨by omega, by omega⟩
  have c4 : ∀ k : Nat, k < 256 → (l.getD 1 0 == BitVec.ofInt 8 (k : Int)) = ((z : Int) == (k : Int)) := fun k hk => by rw [toNat_eq8 hk, hz1]
  have jz : (ile (z : Int) (l.length : Int) && ile (l.length : Int) (l.length : Int)) = true := and_t (ile_of (by omega)) (ile_of (by omega))
  refine bif_of i0 ?_
  cases hB2 : l.getD 0 0 == BitVec.ofInt 8 2
  case true =>
    have hB3 : (l.getD 0 0 == BitVec.ofInt 8 3) = false := eq8 hB2 rfl
    refine bif_of i1 ?_
    show (bif !(l.getD 1 0 == BitVec.ofInt 8 ((4 : Nat) : Int)) then _ else _)
    rw [c4 4 (by decide)]
    cases hz : ((z : Int) == ((4 : Nat) : Int))
    · have : tkB l = false := by unfold tkB; rw [hB2, hz2]; exact hz
      rw [this] at hr
      subst hr
      repeat' (first | exact rfl | exact trivial | apply And.intro)
    · have : tkB l = true := by unfold tkB; rw [hB2, hz2]; exact hz
      rw [this, ez] at hr
      have hz := eq_of_beq hz
      have hz' : z = 4 := by omega
      have e1 : tkM l m = (nmX ((l.take 4).drop 2)).setWidth 16 := by unfold tkM; rw [hB2]; rfl
      have e2 : tkH l h = h := by unfold tkH; rw [hB2]; rfl
      have e3 : tkC l c = c := by unfold tkC; rw [hB2]; rfl
      refine bif_of (ile_of (by omega)) (bif_of (ble_of (by rw [List.length_drop, List.length_take]; omega)) (bif_of i0 ?_))
      rw [hB3]
      refine bif_of i1 ?_
      rw [hz1]
      refine bif_of jz ⟨hP ⟨hlz, hlz2, hr⟩, rfl, by rw [List.take_length], ?_⟩
      rw [e1, e2, e3, vl16]
      repeat' (first | exact rfl | exact trivial | apply And.intro)
  refine bif_of i0 ?_
  cases hB3 : l.getD 0 0 == BitVec.ofInt 8 3
  case true =>
    refine bif_of i1 ?_
    show (bif !(l.getD 1 0 == BitVec.ofInt 8 ((3 : Nat) : Int)) then _ else _)
    rw [c4 3 (by decide)]
    cases hz : ((z : Int) == ((3 : Nat) : Int))
    · have : tkB l = false := by unfold tkB; rw [hB2, hB3, hz2]; exact hz
      rw [this] at hr
      subst hr
      repeat' (first | exact rfl | exact trivial | apply And.intro)
    · have : tkB l = true := by unfold tkB; rw [hB2, hB3, hz2]; exact hz
      rw [this, ez] at hr
      have hz := eq_of_beq hz
      have hz' : z = 3 := by omega
      have e1 : tkM l m = m := by unfold tkM; rw [hB2]; rfl
      have e2 : tkH l h = true := by unfold tkH; rw [hB2, hB3]; rfl
      have e3 : tkC l c = (bif (BitVec.ofInt 8 14).ult (l.getD 2 0) then BitVec.ofInt 8 14 else l.getD 2 0) := by unfold tkC; rw [hB2, hB3]; rfl
      refine bif_of (inR_iff.2 ⟨by omega, by omega⟩) (bif_of i1 ?_)
      rw [hz1]
      refine bif_of jz ⟨hP ⟨hlz, hlz2, hr⟩, rfl, by rw [List.take_length], ?_⟩
      rw [e1, e2, e3]
      repeat' (first | exact rfl | exact trivial | apply And.intro)
  have : tkB l = true := by unfold tkB; rw [hB2, hB3]; rfl
  rw [this, ez] at hr
  have e1 : tkM l m = m := by unfold tkM; rw [hB2]; rfl
  have e2 : tkH l h = h := by unfold tkH; rw [hB2, hB3]; rfl
  have e3 : tkC l c = c := by unfold tkC; rw [hB2, hB3]; rfl
  refine bif_of i1 ?_
  rw [hz1]
  refine bif_of jz ⟨hP ⟨hlz, hlz2, hr⟩, rfl, by rw [List.take_length], ?_⟩
  rw [e1, e2, e3]
  repeat' (first | exact rfl | exact trivial | apply And.intro)
def cRd (F : Tx → BitVec 16 → Bool → BitVec 8 → OpR) : List SV → List Cont → Option (Bool × SV)
  | [.s l], _ => some (Nat.ble l.length 4294967296, .tup [.agg [.w16 (bif (F l 0 false 0).ok then (F l 0 false 0).m else 0), .b (bif (F l 0 false 0).ok then (F l 0 false 0).h else false), .w8 (bif (F l 0 false 0).ok then (F l 0 false 0).c else 0)], .i (bif (F l 0 false 0).ok then 0 else 8)])
  | _, _ => none
theorem read_ok : POk Try.prog G 20 (cRd opX) := by
  intro args acs r hh β M w hR hw ha
  unfold cRd at hh
  split at hh
  · rename_i l
    simp only [Option.some.injEq, Prod.mk.injEq] at hh
    obtain ⟨hl, rfl⟩ := hh
    have hl := Nat.le_of_ble_eq_true hl
    refine pokE (E := ERd nmX szI szB Try.prog) rfl erd_ok (L := L20 l (opX l 0 false 0).m (opX l 0 false 0).h (opX l 0 false 0).c ((opX l 0 false 0).ok = true) ((opX l 0 false 0).ok = false)) (LT.add_ok (noL_ok _ _ _ _) (loop20 l hl (opX l 0 false 0) rfl)) (v20 nmX szI szB l _ _ _ _ _ _) ?_ rfl rfl hR
    refine ⟨rfl, rfl, rfl, rfl, rfl, ⟨rfl, rfl⟩, ⟨rfl, rfl⟩, fun h => ?_, fun h => ?_⟩
    · rw [h]; rfl
    · rw [h]; rfl
  · cases hh
/-- A call that is handed one row: from its own place to any. -/
theorem spec_row {f : Nat} {xs l : List SV} {M : Mm} {j : Nat} {Q K : SV → Mm → Prop} (hj : M[j]? = some ⟨true, .row l⟩) (hl : SV.wf.wfs 0 l = true) (hS : Spec Try.prog G f (.ptr 0 0 :: xs) [⟨true, .row l⟩] Q) (hx : SV.wf.wfs 0 xs = true)
    (hQ : ∀ r M1, Q r M1 → r.wf 0 = true ∧ ∃ l', M1[0]? = some ⟨true, .row l'⟩ ∧ SV.wf.wfs 0 l' = true ∧ K r (M.set j ⟨true, .row l'⟩)) : Spec Try.prog G f (.ptr j 0 :: xs) M K := by
  intro β w hR hwf
  have hrow : Holds w (β j) true (vals β l) none := hR.all j _ hj rfl
  have hv : ∀ (l : List SV), SV.wf.wfs 0 l = true → ∀ β' : Nat → Nat, vals β' l = vals β l := fun l hl β' => vals_agree (n := 0) (fun k hk => absurd hk (by omega)) l hl
  have hR0 : Rel G (fun _ => β j) [⟨true, .row l⟩] w := by
    refine ⟨fun i x hx hc => ?_, fun i i2 x y hx hy hij => ?_, fun g hg => absurd hg (by show ¬ g < 0; omega), Nat.zero_le _, fun i hi => absurd hi (by show ¬ i < 0; omega), fun i x hx => (by cases hx), fun i x hx => ?_⟩
    · match i, hx with
      | 0, hx =>
        cases hx
        show Holds w (β j) true (vals _ l) none
        rw [hv l hl]; exact hrow
    · match i, i2, hx, hy with
      | 0, 0, _, _ => exact absurd rfl hij
    · match i, hx with
      | 0, hx => cases hx; exact wfs_mono (Nat.zero_le _) l hl
  have hargs : vals β (.ptr j 0 :: xs) = vals (fun _ => β j) (.ptr 0 0 :: xs) := by
    show Value.pointer (some ⟨β j, 0, none⟩) :: vals β xs = Value.pointer (some ⟨β j, 0, none⟩) :: vals _ xs
    exact congrArg (List.cons _) (hv xs hx _).symm
  rw [hargs]
  refine (hS _ w hR0 ?_).mono fun v w' hh => ?_
  · show (true && SV.wf.wfs 1 xs) = true
    rw [wfs_mono (Nat.zero_le _) xs hx]; rfl
  obtain ⟨β1, M1, r, hE, hR1, ⟨hrw, rfl⟩, hQr⟩ := hh
  obtain ⟨hr0, l', hM1, hl', hK⟩ := hQ r M1 hQr
  have hβ1 : β1 0 = β j := hE.agree 0 (by show 0 < 1; omega)
  have hF : Fp (own (β j) (.row l)) w w' := hE.fp.mono fun i _ hi => by
    obtain ⟨q, x, hx, hr, ho⟩ := hi
    match q, hx with
    | 0, hx => cases hx; exact ho
  have hAt : Holds w' (β1 0) true (vals β1 l') none := hR1.all 0 _ hM1 rfl
  obtain ⟨g1, g2⟩ := hR.setR (c' := .row l') hj rfl hF (wfs_mono (Nat.zero_le _) l' hl') (fun i hi => .inl hi) (fun _ => by
    show Holds w' (β j) true (vals β l') none
    rw [hβ1, hv l' hl'] at hAt
    exact hAt)
  exact ⟨β, _, r, g2, g1, ⟨wf_mono (Nat.zero_le _) r hr0, val_agree (n := 0) (fun k hk => absurd hk (by omega)) r hr0⟩, hK⟩
def c23 (F : Tx → BitVec 16 → Bool → BitVec 8 → OpR) : List SV → Mm → (SV → Mm → Prop) → Prop
  | [.ptr j 0, .s l], M, K => match (M[j]? : Option Ent) with
    | some ⟨true, .row [.w16 a, .w16 b, .w32 q, .w32 k, .w8 f, .w16 w, .w16 m, .b h, .w8 c, .s d]⟩ => bif Nat.ble l.length 4294967296 then setK M j ⟨true, .row (S10 a b q k f w (F l m h c).m (F l m h c).h (F l m h c).c d)⟩ fun M2 => K (.b (F l m h c).ok) M2 else False
    | _ => False
  | _, _, _ => False
theorem options_ok : COk Try.prog G 23 (c23 opX) := by
  intro args M K hh
  unfold c23 at hh
  split at hh
  · rename_i M K j l
    split at hh
    · rename_i a b q k f w m h c d hj
      cases hl : Nat.ble l.length 4294967296
      · rw [hl] at hh; exact hh.elim
      rw [hl] at hh
      simp only [cond_true, setK_eq] at hh
      have hl := Nat.le_of_ble_eq_true hl
      have key : ∀ R : OpR, opX l m h c = R → Spec Try.prog G 23 [.ptr 0 0, .s l] (M23 a b q k f w m h c d) (fun r M1 => r = .b R.ok ∧ M1 = M23 a b q k f w R.m R.h R.c d) := fun R hR => by
        refine vf_ok (E := EV vl4) evl_ok mixed (L := L23 a b q k f w m R.m h R.h c R.c d l (R.ok = true) (R.ok = false)) (LT.add_ok (noL_ok _ _ _ _) (loop23 a b q k f w m h c d l hl R hR)) (of_eq (v23 vl4 a b q k f w m R.m h R.h c R.c d l (R.ok = true) (R.ok = false) _) ?_)
        refine ⟨rfl, rfl, rfl, ⟨rfl, rfl⟩, fun h => ?_, fun h => ?_⟩
        · rw [h]; exact ⟨rfl, rfl⟩
        · rw [h]; exact ⟨rfl, rfl⟩
      refine spec_row hj rfl (key _ rfl) rfl fun r M1 hq => ?_
      obtain ⟨rfl, rfl⟩ := hq
      exact ⟨rfl, _, rfl, rfl, hh⟩
    · exact hh.elim
  · exact hh.elim
end Go.Proofs.Ytmeipcgkhgagpaa
