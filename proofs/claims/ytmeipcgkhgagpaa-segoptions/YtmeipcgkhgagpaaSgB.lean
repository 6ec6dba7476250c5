/-
  seg: sums, the program's and the document's. No statement is proved here.
-/
import Derived.Test.YtmeipcgkhgagpaaSgA
namespace Go.Proofs.Ytmeipcgkhgagpaa
open Go.RowKit
set_option linter.unusedVariables false
set_option linter.unusedSimpArgs false
set_option maxRecDepth 100000

/-- The sum of bytes, taken two by two, as a number. -/
def sN (l : Tx) : Nat → Nat
  | 0 => 0
  | j + 1 => sN l j + (l.getD j 0).toNat * (if j % 2 = 0 then 256 else 1)
/-- What is left when all that goes beyond 16 bits was added at the low end. -/
def resN (n : Nat) : Nat := if n = 0 then 0 else (n - 1) % 65535 + 1
def sumX (l : Tx) : BitVec 16 := BitVec.ofNat 16 (65535 - resN (sN l l.length))
theorem sN_le (l : Tx) : ∀ j, sN l j ≤ 65280 * j
  | 0 => Nat.le_refl _
  | j + 1 => by
    have h := sN_le l j
    have := (l.getD j 0).isLt
    unfold sN
    split
    · omega
    · omega
theorem resN_le (n : Nat) : resN n ≤ 65535 := by unfold resN; split <;> omega
theorem resN_small {n : Nat} (h : n ≤ 65535) : resN n = n := by unfold resN; split <;> omega
theorem resN_step (n : Nat) (h : 65535 < n) : resN (n / 65536 + n % 65536) = resN n := by unfold resN; split <;> split <;> omega
def iS (l : Tx) (x : BitVec 64) (j : Nat) : List (Nat × SV) := [(0, .s l), (3, .w64 x), (6, .i (l.length : Nat)), (7, .i (j : Nat))]
def oS (x : BitVec 64) : List (Nat × SV) := [(3, .w64 x)]
def LS (l : Tx) (x y : BitVec 64) : LT := (noL.add 0 (vLoop G 32 (iS l 0 0) G (oS x) G)).add 2 (vLoop G 32 (oS x) G (oS y) G)
def iD (l : Tx) (x : Int) (j : Nat) : List (Nat × SV) := [(0, .s l), (3, .i x), (4, .i (j : Nat))]
def oD (x : Int) : List (Nat × SV) := [(3, .i x)]
def LD (l : Tx) (x y : Int) : LT := (noL.add 0 (vLoop G 37 (iD l 0 0) G (oD x) G)).add 2 (vLoop G 37 (oD x) G (oD y) G)
theorem vS (l : Tx) (x y : BitVec 64) (K : SV → Prop) : (vf Try.prog E0 (LS l x y) 24 [.s l] G (fun r _ => K r)) = (loopOf Try.prog 24 0 = loopOf Try.prog 24 0 ∧ SV.s l = SV.s l ∧ SV.w64 (BitVec.ofInt 64 0) = SV.w64 0 ∧ SV.i (↑(List.length l) : Int) = SV.i (↑(List.length l) : Int) ∧ SV.i 0 = SV.i (↑0 : Int) ∧ loopOf Try.prog 24 2 = loopOf Try.prog 24 2 ∧ SV.w64 x = SV.w64 x ∧ K (SV.w16 (~~~BitVec.setWidth 16 y))) := by kernel_rfl
theorem rS (l : Tx) (x y z : BitVec 64) (j : Nat) (p : Prop) : (frK 32 (iS l x j) fun fr => vround Try.prog E0 noL 24 0 fr G (Kn G 0 32 p (iS l y (j + 1)) G (oS z) G)) = (bif ilt (↑j : Int) (↑(List.length l) : Int) then bif inR (↑j : Int) (List.length l) then bif inI (1 - (↑j : Int).tmod 2) then bif inI (8 * (1 - (↑j : Int).tmod 2)) then bif ile 0 (8 * (1 - (↑j : Int).tmod 2)) then bif inI ((↑j : Int) + 1) then p ∧ SV.s l = SV.s l ∧ SV.w64 (x + BitVec.setWidth 64 (List.getD l j 0) <<< (8 * (1 - (↑j : Int).tmod 2)).toNat) = SV.w64 y ∧ SV.i (↑(List.length l) : Int) = SV.i (↑(List.length l) : Int) ∧ SV.i ((↑j : Int) + 1) = SV.i (↑(j + 1) : Int) ∧ True else False else False else False else False else False else 0 = 0 ∧ SV.w64 x = SV.w64 z ∧ True) := by kernel_rfl
theorem qS (x y z : BitVec 64) (p : Prop) : (frK 32 (oS x) fun fr => vround Try.prog E0 noL 24 2 fr G (Kn G 2 32 p (oS y) G (oS z) G)) = (bif (BitVec.ofInt 64 65535).ult x then p ∧ SV.w64 (x >>> 16 + (x &&& BitVec.ofInt 64 65535)) = SV.w64 y ∧ True else 2 = 2 ∧ SV.w64 x = SV.w64 z ∧ True) := by kernel_rfl
theorem vD (l : Tx) (x y : Int) (K : SV → Prop) : (vf Try.prog E0 (LD l x y) 26 [.s l] G (fun r _ => K r)) = (loopOf Try.prog 26 0 = loopOf Try.prog 26 0 ∧ SV.s l = SV.s l ∧ SV.i 0 = SV.i 0 ∧ SV.i 0 = SV.i (↑0 : Int) ∧ loopOf Try.prog 26 2 = loopOf Try.prog 26 2 ∧ SV.i x = SV.i x ∧ bif inI (65535 - y) then K (SV.w16 (BitVec.ofInt 16 (65535 - y))) else False) := by kernel_rfl
theorem rD (l : Tx) (x y z : Int) (j : Nat) (p : Prop) : (frK 37 (iD l x j) fun fr => vround Try.prog E0 noL 26 0 fr G (Kn G 0 37 p (iD l y (j + 1)) G (oD z) G)) = (bif ilt (↑j : Int) (↑(List.length l) : Int) then bif (↑j : Int).tmod 2 == 0 then bif inR (↑j : Int) (List.length l) then bif inI (256 * (↑(List.getD l j 0).toNat : Int)) then bif inI (x + 256 * (↑(List.getD l j 0).toNat : Int)) then bif inI ((↑j : Int) + 1) then p ∧ SV.s l = SV.s l ∧ SV.i (x + 256 * (↑(List.getD l j 0).toNat : Int)) = SV.i y ∧ SV.i ((↑j : Int) + 1) = SV.i (↑(j + 1) : Int) ∧ True else False else False else False else False else bif inR (↑j : Int) (List.length l) then bif inI (x + (↑(List.getD l j 0).toNat : Int)) then bif inI ((↑j : Int) + 1) then p ∧ SV.s l = SV.s l ∧ SV.i (x + (↑(List.getD l j 0).toNat : Int)) = SV.i y ∧ SV.i ((↑j : Int) + 1) = SV.i (↑(j + 1) : Int) ∧ True else False else False else False else 0 = 0 ∧ SV.i x = SV.i z ∧ True) := by kernel_rfl
theorem qD (x y z : Int) (p : Prop) : (frK 37 (oD x) fun fr => vround Try.prog E0 noL 26 2 fr G (Kn G 2 37 p (oD y) G (oD z) G)) = (bif ilt 65535 x then bif inI x then bif inI (x.tmod 65536 + x.tdiv 65536) then p ∧ SV.i (x.tmod 65536 + x.tdiv 65536) = SV.i y ∧ True else False else False else 2 = 2 ∧ SV.i x = SV.i z ∧ True) := by kernel_rfl
theorem getD_t (l : Tx) (j : Nat) : (l.getD j 0).toNat < 256 := (l.getD j 0).isLt
theorem tmod2 (j : Nat) : (j : Int).tmod 2 = ((j % 2 : Nat) : Int) := by rw [Int.tmod_eq_emod_of_nonneg (by omega)]; omega
theorem stepS (l : Tx) (j : Nat) (hj : j < 4294967296) : BitVec.ofNat 64 (sN l j) + BitVec.setWidth 64 (List.getD l j 0) <<< (8 * (1 - (j : Int).tmod 2)).toNat = BitVec.ofNat 64 (sN l (j + 1)) := by
  have h1 := sN_le l j
  have h2 := getD_t l j
  have h3 : sN l (j + 1) = sN l j + (l.getD j 0).toNat * (if j % 2 = 0 then 256 else 1) := rfl
  apply BitVec.eq_of_toNat_eq
  rw [tmod2]
  rcases Nat.mod_two_eq_zero_or_one j with h | h
  · rw [h3, h]
    simp only [BitVec.toNat_add, BitVec.toNat_ofNat, BitVec.toNat_shiftLeft, BitVec.toNat_setWidth, Nat.shiftLeft_eq]
    have e : (8 * (1 - ((0 : Nat) : Int))).toNat = 8 := rfl
    rw [e]
    simp only [if_true]
    omega
  · rw [h3, h]
    simp only [BitVec.toNat_add, BitVec.toNat_ofNat, BitVec.toNat_shiftLeft, BitVec.toNat_setWidth, Nat.shiftLeft_eq]
    have e : (8 * (1 - ((1 : Nat) : Int))).toNat = 0 := rfl
    rw [e, if_neg (by omega)]
    omega
theorem loopS (l : Tx) (hl : l.length ≤ 4294967296) : ∀ fr M K, vLoop G 32 (iS l 0 0) G (oS (BitVec.ofNat 64 (sN l l.length))) G fr M K → Wp Try.prog G G (loopOf Try.prog 24 0) fr M K := by
  refine loop_next e0_ok mixed (noL_ok _ _ _ _) (Nat.le_refl _) (by kernel_rfl) (fun j => iS l (BitVec.ofNat 64 (sN l j)) j) (fun _ => G) (fun j => j ≤ l.length) (fun j => l.length - j) (fun j => j + 1) 0 (Nat.zero_le _) (fun j hj => of_eq (rS l (BitVec.ofNat 64 (sN l j)) (BitVec.ofNat 64 (sN l (j + 1))) (BitVec.ofNat 64 (sN l l.length)) j _) ?_)
  cases hq : ilt (j : Int) (l.length : Int)
  · have hj2 : j = l.length := by rw [ilt_eq] at hq; have := of_decide_eq_false hq; omega
    exact ⟨rfl, congrArg SV.w64 (by rw [hj2]), trivial⟩
  · have hj2 : j < l.length := by rw [ilt_eq] at hq; have := of_decide_eq_true hq; omega
    have h2 := tmod2 j
    exact bif_of (inR_iff.2 ⟨by omega, by omega⟩) (bif_of (inI_iff.2 (by omega)) (bif_of (inI_iff.2 (by omega)) (bif_of (ile_of (by omega)) (bif_of (inI_iff.2 (by omega)) ⟨⟨by omega, by omega⟩, rfl, congrArg SV.w64 (stepS l j (by omega)), rfl, rfl, trivial⟩))))
theorem foldS (n : Nat) (h : n < 18446744073709551616) : BitVec.ofNat 64 n >>> 16 + (BitVec.ofNat 64 n &&& BitVec.ofInt 64 65535) = BitVec.ofNat 64 (n / 65536 + n % 65536) := by
  apply BitVec.eq_of_toNat_eq
  have e : (BitVec.ofInt 64 65535).toNat = 2 ^ 16 - 1 := rfl
  simp only [BitVec.toNat_add, BitVec.toNat_ofNat, BitVec.toNat_ushiftRight, BitVec.toNat_and, e, Nat.and_two_pow_sub_one_eq_mod, Nat.shiftRight_eq_div_pow]
  omega
theorem overS (n : Nat) (h : n < 18446744073709551616) : (BitVec.ofInt 64 65535).ult (BitVec.ofNat 64 n) = decide (65535 < n) := by
  have e : (BitVec.ofInt 64 65535).toNat = 65535 := rfl
  unfold BitVec.ult
  rw [e, BitVec.toNat_ofNat, Nat.mod_eq_of_lt h]
theorem loopS2 (N : Nat) (hN : N < 18446744073709551616) : ∀ fr M K, vLoop G 32 (oS (BitVec.ofNat 64 N)) G (oS (BitVec.ofNat 64 (resN N))) G fr M K → Wp Try.prog G G (loopOf Try.prog 24 2) fr M K := by
  refine loop_next e0_ok mixed (noL_ok _ _ _ _) (Nat.le_refl _) (by kernel_rfl) (fun n => oS (BitVec.ofNat 64 n)) (fun _ => G) (fun n => n ≤ N ∧ resN n = resN N) (fun n => n) (fun n => n / 65536 + n % 65536) N ⟨Nat.le_refl _, rfl⟩ (fun n hn => of_eq (qS (BitVec.ofNat 64 n) (BitVec.ofNat 64 (n / 65536 + n % 65536)) (BitVec.ofNat 64 (resN N)) _) ?_)
  have hn1 := hn.1
  rw [overS n (by omega)]
  by_cases h : 65535 < n
  · rw [decide_eq_true h]
    exact ⟨⟨⟨by omega, (resN_step n h).trans hn.2⟩, by omega⟩, congrArg SV.w64 (foldS n (by omega)), trivial⟩
  · rw [decide_eq_false h]
    exact ⟨rfl, congrArg SV.w64 (by rw [← hn.2, resN_small (by omega)]), trivial⟩
theorem endS (n : Nat) (h : n ≤ 65535) : ~~~(BitVec.setWidth 16 (BitVec.ofNat 64 n)) = BitVec.ofNat 16 (65535 - n) := by
  apply BitVec.eq_of_toNat_eq
  simp only [BitVec.toNat_not, BitVec.toNat_setWidth, BitVec.toNat_ofNat]
  omega
theorem sN_lt (l : Tx) (hl : l.length ≤ 4294967296) : sN l l.length < 18446744073709551616 := by have := sN_le l l.length; omega
def cSm (F : Tx → BitVec 16) : List SV → List Cont → Option (Bool × SV)
  | [.s l], _ => some (Nat.ble l.length 4294967296, .w16 (F l))
  | _, _ => none
theorem sum_ok : POk Try.prog G 24 (cSm sumX) := by
  intro args acs r hh β M w hR hw ha
  unfold cSm at hh
  split at hh
  · rename_i l
    simp only [Option.some.injEq, Prod.mk.injEq] at hh
    obtain ⟨hl, rfl⟩ := hh
    have hl := Nat.le_of_ble_eq_true hl
    exact pokE (E := E0) rfl e0_ok (L := LS l (BitVec.ofNat 64 (sN l l.length)) (BitVec.ofNat 64 (resN (sN l l.length)))) (LT.add_ok (LT.add_ok (noL_ok _ _ _ _) (loopS l hl)) (loopS2 _ (sN_lt l hl))) (vS l _ _ _) ⟨rfl, rfl, rfl, rfl, rfl, rfl, rfl, congrArg SV.w16 (endS _ (resN_le _))⟩ rfl rfl hR
  · cases hh
theorem sN_ev (l : Tx) (j : Nat) (h : j % 2 = 0) : sN l (j + 1) = sN l j + (l.getD j 0).toNat * 256 := by show _ + _ * _ = _; rw [if_pos h]
theorem sN_od (l : Tx) (j : Nat) (h : ¬ j % 2 = 0) : sN l (j + 1) = sN l j + (l.getD j 0).toNat := by show _ + _ * _ = _; rw [if_neg h, Nat.mul_one]
theorem loopD (l : Tx) (hl : l.length ≤ 4294967296) : ∀ fr M K, vLoop G 37 (iD l 0 0) G (oD ((sN l l.length : Nat) : Int)) G fr M K → Wp Try.prog G G (loopOf Try.prog 26 0) fr M K := by
  refine loop_next e0_ok mixed (noL_ok _ _ _ _) (Nat.le_refl _) (by kernel_rfl) (fun j => iD l ((sN l j : Nat) : Int) j) (fun _ => G) (fun j => j ≤ l.length) (fun j => l.length - j) (fun j => j + 1) 0 (Nat.zero_le _) (fun j hj => of_eq (rD l ((sN l j : Nat) : Int) ((sN l (j + 1) : Nat) : Int) ((sN l l.length : Nat) : Int) j _) ?_)
  cases hq : ilt (j : Int) (l.length : Int)
  · have hj2 : j = l.length := by rw [ilt_eq] at hq; have := of_decide_eq_false hq; omega
    exact ⟨rfl, congrArg SV.i (by rw [hj2]), trivial⟩
  · have hj2 : j < l.length := by rw [ilt_eq] at hq; have := of_decide_eq_true hq; omega
    have h2 := tmod2 j
    have h3 := getD_t l j
    have h4 := sN_le l j
    cases hb : (j : Int).tmod 2 == 0
    · have he : ¬ j % 2 = 0 := by have := beq_eq_false_iff_ne.1 hb; omega
      exact bif_of (inR_iff.2 ⟨by omega, by omega⟩) (bif_of (inI_iff.2 (by omega)) (bif_of (inI_iff.2 (by omega)) ⟨⟨by omega, by omega⟩, rfl, congrArg SV.i (by rw [sN_od l j he]; omega), rfl, trivial⟩))
    · have he : j % 2 = 0 := by have := eq_of_beq hb; omega
      exact bif_of (inR_iff.2 ⟨by omega, by omega⟩) (bif_of (inI_iff.2 (by omega)) (bif_of (inI_iff.2 (by omega)) (bif_of (inI_iff.2 (by omega)) ⟨⟨by omega, by omega⟩, rfl, congrArg SV.i (by rw [sN_ev l j he]; omega), rfl, trivial⟩)))
theorem loopD2 (N : Nat) (hN : N < 9223372036854775807) : ∀ fr M K, vLoop G 37 (oD (N : Int)) G (oD ((resN N : Nat) : Int)) G fr M K → Wp Try.prog G G (loopOf Try.prog 26 2) fr M K := by
  refine loop_next e0_ok mixed (noL_ok _ _ _ _) (Nat.le_refl _) (by kernel_rfl) (fun (n : Nat) => oD (n : Int)) (fun _ => G) (fun n => n ≤ N ∧ resN n = resN N) (fun n => n) (fun n => n / 65536 + n % 65536) N ⟨Nat.le_refl _, rfl⟩ (fun n hn => of_eq (qD (n : Int) ((n / 65536 + n % 65536 : Nat) : Int) ((resN N : Nat) : Int) _) ?_)
  have hn1 := hn.1
  have e1 : (n : Int).tmod 65536 = ((n % 65536 : Nat) : Int) := by rw [Int.tmod_eq_emod_of_nonneg (by omega)]; omega
  have e2 : (n : Int).tdiv 65536 = ((n / 65536 : Nat) : Int) := by rw [Int.tdiv_eq_ediv_of_nonneg (by omega)]; omega
  by_cases h : 65535 < n
  · rw [ilt_of (by omega)]
    exact bif_of (inI_iff.2 (by omega)) (bif_of (inI_iff.2 (by omega)) ⟨⟨⟨by omega, (resN_step n h).trans hn.2⟩, by omega⟩, congrArg SV.i (by omega), trivial⟩)
  · rw [ilt_no (by omega)]
    exact ⟨rfl, congrArg SV.i (by rw [← hn.2, resN_small (by omega)]), trivial⟩
theorem sumD_ok : POk Try.prog G 26 (cSm sumX) := by
  intro args acs r hh β M w hR hw ha
  unfold cSm at hh
  split at hh
  · rename_i l
    simp only [Option.some.injEq, Prod.mk.injEq] at hh
    obtain ⟨hl, rfl⟩ := hh
    have hl := Nat.le_of_ble_eq_true hl
    have h1 := sN_le l l.length
    have h2 := resN_le (sN l l.length)
    refine pokE (E := E0) rfl e0_ok (L := LD l ((sN l l.length : Nat) : Int) ((resN (sN l l.length) : Nat) : Int)) (LT.add_ok (LT.add_ok (noL_ok _ _ _ _) (loopD l hl)) (loopD2 _ (by omega))) (vD l _ _ _) ⟨rfl, rfl, rfl, rfl, rfl, rfl, bif_of (inI_iff.2 (by omega)) (congrArg SV.w16 ?_)⟩ rfl rfl hR
    unfold sumX
    apply BitVec.eq_of_toNat_eq
    rw [BitVec.toNat_ofInt, BitVec.toNat_ofNat]
    omega
  · cases hh
end Go.Proofs.Ytmeipcgkhgagpaa
