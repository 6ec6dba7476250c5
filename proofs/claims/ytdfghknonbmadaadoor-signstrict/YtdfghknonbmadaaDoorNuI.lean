/-
  num: words and bytes. No statement is proved here.
-/
import Derived.Test.YtdfghknonbmadaaDoorMaF
import Derived.Test.YtdfghknonbmadaaDoorEwD
namespace Go.Proofs.YtdfghknonbmadaaDoor
open Go.RowKit
set_option linter.unusedVariables false
set_option linter.unusedSimpArgs false
set_option maxRecDepth 100000

theorem tdiv8 (j : Nat) : ((j : Int).tdiv 8).toNat = j / 8 := by rw [Int.tdiv_eq_ediv_of_nonneg (by omega)]; omega
theorem tmod8 (j : Nat) : ((j : Int).tmod 8 * 8).toNat = j % 8 * 8 := by rw [Int.tmod_eq_emod_of_nonneg (by omega)]; omega
theorem tdiv8i (j : Nat) : (j : Int).tdiv 8 = (j / 8 : Nat) := by rw [Int.tdiv_eq_ediv_of_nonneg (by omega)]; omega
theorem tmod8i (j : Nat) : (j : Int).tmod 8 * 8 = (j % 8 * 8 : Nat) := by rw [Int.tmod_eq_emod_of_nonneg (by omega)]; omega
theorem blt_of {a b : Nat} (h : a < b) : Nat.blt a b = true := by simpa [Nat.blt_eq] using h
def MR (w : W6) : Mm := [⟨false, .a64 BEG⟩, ⟨false, .a64 PRI⟩, ⟨false, .a64 CON⟩, ⟨false, .a64 WHO⟩, ⟨false, .a64 ROM⟩, ⟨true, .a64 (List.replicate 4 0)⟩, ⟨true, .a64 w⟩]
def iR (l : Tx8) (j : Nat) : List (Nat × SV) := [(0, .s l), (2, .ptr 5 0), (3, .ptr 6 0), (5, .i (j : Nat))]
def oR : List (Nat × SV) := [(2, .ptr 5 0), (3, .ptr 6 0)]
def Z4 : W6 := List.replicate 4 0
def LR (l : Tx8) (x : W6) : LT := noL.add 0 (vLoop GE 24 (iR l 0) (MR Z4) oR (MR x))
def E00 : Env := ⟨GE, noT, noC⟩
theorem e00_ok : EnvOk Tryd.prog E00 := ⟨noT_ok _ _, noC_ok _ _⟩
theorem vaR (l : Tx8) (x : W6) (K : SV → Mm → Prop) : (vf Tryd.prog E00 (LR l x) 54 [.s l] GE K) = (loopOf Tryd.prog (54 : Nat) (0 : Nat) = loopOf Tryd.prog (54 : Nat) (0 : Nat) ∧ SV.s l = SV.s l ∧ SV.ptr (5 : Nat) (0 : Nat) = SV.ptr (5 : Nat) (0 : Nat) ∧ SV.ptr (6 : Nat) (0 : Nat) = SV.ptr (6 : Nat) (0 : Nat) ∧ SV.i (0 : Int) = SV.i (↑(0 : Nat) : Int) ∧ (false = false ∧ Cont.a64 BEG = Cont.a64 BEG) ∧ (false = false ∧ Cont.a64 PRI = Cont.a64 PRI) ∧ (false = false ∧ Cont.a64 CON = Cont.a64 CON) ∧ (false = false ∧ Cont.a64 WHO = Cont.a64 WHO) ∧ (false = false ∧ Cont.a64 ROM = Cont.a64 ROM) ∧ (true = true ∧ Cont.a64 (List.replicate (4 : Nat) (0 : BitVec (64 : Nat))) = Cont.a64 (List.replicate (4 : Nat) (0 : BitVec (64 : Nat)))) ∧ (true = true ∧ Cont.a64 (List.replicate (4 : Nat) (0 : BitVec (64 : Nat))) = Cont.a64 Z4) ∧ bif (List.length x).beq (4 : Nat) then bif (List.length x).beq (4 : Nat) && (List.length x).beq (4 : Nat) then bif (List.length x).beq (4 : Nat) && true then K (SV.a64 x) [{ rw := false, c := Cont.a64 BEG }, { rw := false, c := Cont.a64 PRI }, { rw := false, c := Cont.a64 CON }, { rw := false, c := Cont.a64 WHO }, { rw := false, c := Cont.a64 ROM }, { rw := true, c := Cont.a64 x }, { rw := true, c := Cont.a64 x }] else False else False else False) := by kernel_rfl
theorem vrR (l : Tx8) (w x z : W6) (j : Nat) (p : Prop) : (frK 24 (iR l j) fun fr => vround Tryd.prog E00 noL 54 0 fr (MR w) (Kn GE 0 24 p (iR l (j + 1)) (MR x) oR (MR z))) = (bif ilt (↑j : Int) (32 : Int) then bif inI (↑j : Int) then bif inR ((↑j : Int).tdiv (8 : Int)) (4 : Nat) then bif ((↑j : Int).tdiv (8 : Int)).toNat.blt (List.length w) then bif inR (↑j : Int) (List.length l) then bif inI ((↑j : Int).tmod (8 : Int) * (8 : Int)) then bif inR ((↑j : Int).tdiv (8 : Int)) (4 : Nat) then bif ((↑j : Int).tdiv (8 : Int)).toNat.blt (List.length w) then bif inI ((↑j : Int) + (1 : Int)) then p ∧ SV.s l = SV.s l ∧ SV.ptr (5 : Nat) (0 : Nat) = SV.ptr (5 : Nat) (0 : Nat) ∧ SV.ptr (6 : Nat) (0 : Nat) = SV.ptr (6 : Nat) (0 : Nat) ∧ SV.i ((↑j : Int) + (1 : Int)) = SV.i (↑(j + (1 : Nat)) : Int) ∧ (false = false ∧ Cont.a64 BEG = Cont.a64 BEG) ∧ (false = false ∧ Cont.a64 PRI = Cont.a64 PRI) ∧ (false = false ∧ Cont.a64 CON = Cont.a64 CON) ∧ (false = false ∧ Cont.a64 WHO = Cont.a64 WHO) ∧ (false = false ∧ Cont.a64 ROM = Cont.a64 ROM) ∧ (true = true ∧ Cont.a64 (List.replicate (4 : Nat) (0 : BitVec (64 : Nat))) = Cont.a64 (List.replicate (4 : Nat) (0 : BitVec (64 : Nat)))) ∧ (true = true ∧ Cont.a64 (List.set w ((↑j : Int).tdiv (8 : Int)).toNat (List.getD w ((↑j : Int).tdiv (8 : Int)).toNat (0 : BitVec (64 : Nat)) ||| BitVec.setWidth (64 : Nat) (List.getD l j (0 : BitVec (8 : Nat))) <<< ((↑j : Int).tmod (8 : Int) * (8 : Int)).toNat)) = Cont.a64 x) ∧ True else False else False else False else False else False else False else False else False else (0 : Nat) = (0 : Nat) ∧ SV.ptr (5 : Nat) (0 : Nat) = SV.ptr (5 : Nat) (0 : Nat) ∧ SV.ptr (6 : Nat) (0 : Nat) = SV.ptr (6 : Nat) (0 : Nat) ∧ (false = false ∧ Cont.a64 BEG = Cont.a64 BEG) ∧ (false = false ∧ Cont.a64 PRI = Cont.a64 PRI) ∧ (false = false ∧ Cont.a64 CON = Cont.a64 CON) ∧ (false = false ∧ Cont.a64 WHO = Cont.a64 WHO) ∧ (false = false ∧ Cont.a64 ROM = Cont.a64 ROM) ∧ (true = true ∧ Cont.a64 (List.replicate (4 : Nat) (0 : BitVec (64 : Nat))) = Cont.a64 (List.replicate (4 : Nat) (0 : BitVec (64 : Nat)))) ∧ (true = true ∧ Cont.a64 w = Cont.a64 z) ∧ True) := by kernel_rfl
/-- The words of bytes. -/
def rdN (l : Tx8) : Nat → W6
  | 0 => Z4
  | j + 1 => (rdN l j).set (j / 8) ((rdN l j).getD (j / 8) 0 ||| (l.getD j 0).setWidth 64 <<< (j % 8 * 8))
theorem rdN_len (l : Tx8) : ∀ j, (rdN l j).length = 4
  | 0 => rfl
  | j + 1 => by rw [rdN, List.length_set]; exact rdN_len l j
theorem w4_len {l : W6} (h : l.length = 4) : w4 l = l := by
  match l, h with
  | [a, b, c, d], _ => rfl
theorem loopR (l : Tx8) (hl : l.length = 32) : ∀ fr M K, vLoop GE 24 (iR l 0) (MR Z4) oR (MR (rdN l 32)) fr M K → Wp Tryd.prog GE GE (loopOf Tryd.prog 54 0) fr M K := by
  refine loop_next e00_ok mixed (noL_ok _ _ _ _) (Nat.le_refl _) (by kernel_rfl) (iR l) (fun j => MR (rdN l j)) (fun j => j ≤ 32) (fun j => 32 - j) (fun j => j + 1) 0 (Nat.zero_le _) (fun j hj => of_eq (vrR l (rdN l j) (rdN l (j + 1)) (rdN l 32) j _) ?_)
  have hlen := rdN_len l j
  have hnext : rdN l (j + 1) = (rdN l j).set (j / 8) ((rdN l j).getD (j / 8) 0 ||| (l.getD j 0).setWidth 64 <<< (j % 8 * 8)) := rfl
  have hfin : j = 32 → rdN l j = rdN l 32 := fun e => by rw [e]
  rw [hnext, tdiv8, tmod8, tdiv8i, tmod8i]
  generalize rdN l 32 = z at hfin
  generalize rdN l j = x at hfin hlen
  cases hq : ilt (j : Int) 32
  · have hj2 : j = 32 := by rw [ilt_eq] at hq; have := of_decide_eq_false hq; omega
    exact ⟨rfl, rfl, rfl, ⟨rfl, rfl⟩, ⟨rfl, rfl⟩, ⟨rfl, rfl⟩, ⟨rfl, rfl⟩, ⟨rfl, rfl⟩, ⟨rfl, rfl⟩, ⟨rfl, congrArg Cont.a64 (hfin hj2)⟩, trivial⟩
  · have hj2 : j < 32 := by rw [ilt_eq] at hq; have := of_decide_eq_true hq; omega
    have i1 : inR ((j / 8 : Nat) : Int) 4 = true := inR_iff.2 ⟨by omega, by omega⟩
    have i2 : Nat.blt (j / 8) x.length = true := blt_of (by omega)
    exact bif_of (inI_iff.2 (by omega)) (bif_of i1 (bif_of i2 (bif_of (inR_iff.2 ⟨by omega, by omega⟩) (bif_of (inI_iff.2 (by omega)) (bif_of i1 (bif_of i2 (bif_of (inI_iff.2 (by omega)) ⟨⟨by omega, by omega⟩, rfl, rfl, rfl, rfl, ⟨rfl, rfl⟩, ⟨rfl, rfl⟩, ⟨rfl, rfl⟩, ⟨rfl, rfl⟩, ⟨rfl, rfl⟩, ⟨rfl, rfl⟩, ⟨rfl, rfl⟩, trivial⟩)))))))
def rdX (l : Tx8) : W6 := rdN l 32
theorem read_ok : POk Tryd.prog GE 54 (ctK rdX) := by
  intro args acs r hh β M w hR hw ha
  unfold ctK at hh
  split at hh
  · rename_i l
    simp only [Option.some.injEq, Prod.mk.injEq] at hh
    obtain ⟨h1, rfl⟩ := hh
    have h1 := Nat.eq_of_beq_eq_true h1
    rw [rdX, w4_len (rdN_len l 32)]
    refine pure0 (vf_ok e00_ok mixed (LT.add_ok (noL_ok _ _ _ _) (loopR l h1)) (of_eq (vaR l (rdN l 32) _) ?_)) rfl rfl hR
    have hlen := rdN_len l 32
    generalize rdN l 32 = z at hlen ⊢
    have hb : Nat.beq z.length 4 = true := by rw [hlen]; rfl
    exact ⟨rfl, rfl, rfl, rfl, rfl, ⟨rfl, rfl⟩, ⟨rfl, rfl⟩, ⟨rfl, rfl⟩, ⟨rfl, rfl⟩, ⟨rfl, rfl⟩, ⟨rfl, rfl⟩, ⟨rfl, rfl⟩, bif_of hb (bif_of (by rw [hb]; rfl) (bif_of (by rw [hb]; rfl) rfl))⟩
  · cases hh
def MW (w : W6) (s : Tx8) : Mm := [⟨false, .a64 BEG⟩, ⟨false, .a64 PRI⟩, ⟨false, .a64 CON⟩, ⟨false, .a64 WHO⟩, ⟨false, .a64 ROM⟩, ⟨true, .a64 (w4 w)⟩, ⟨true, .a8 s⟩]
def iW (j : Nat) : List (Nat × SV) := [(1, .ptr 5 0), (3, .ptr 6 0), (5, .i (j : Nat))]
def oW : List (Nat × SV) := [(1, .ptr 5 0), (3, .ptr 6 0)]
def Z32 : Tx8 := List.replicate 32 0
def LW (w : W6) (x : Tx8) : LT := noL.add 0 (vLoop GE 22 (iW 0) (MW w Z32) oW (MW w x))
theorem vaW (w : W6) (x : Tx8) (K : SV → Mm → Prop) : (vf Tryd.prog E00 (LW w x) 70 [.a64 (w4 w)] GE K) = (loopOf Tryd.prog (70 : Nat) (0 : Nat) = loopOf Tryd.prog (70 : Nat) (0 : Nat) ∧ SV.ptr (5 : Nat) (0 : Nat) = SV.ptr (5 : Nat) (0 : Nat) ∧ SV.ptr ((0 : Nat) + (1 : Nat) + (1 : Nat) + (1 : Nat) + (1 : Nat) + (1 : Nat) + (1 : Nat)) (0 : Nat) = SV.ptr (6 : Nat) (0 : Nat) ∧ SV.i (0 : Int) = SV.i (↑(0 : Nat) : Int) ∧ (false = false ∧ Cont.a64 BEG = Cont.a64 BEG) ∧ (false = false ∧ Cont.a64 PRI = Cont.a64 PRI) ∧ (false = false ∧ Cont.a64 CON = Cont.a64 CON) ∧ (false = false ∧ Cont.a64 WHO = Cont.a64 WHO) ∧ (false = false ∧ Cont.a64 ROM = Cont.a64 ROM) ∧ (true = true ∧ Cont.a64 (w4 w) = Cont.a64 (w4 w)) ∧ (true = true ∧ Cont.a8 (List.replicate (32 : Nat) (0 : BitVec (8 : Nat))) = Cont.a8 Z32) ∧ bif decide ((32 : Nat) ≤ List.length x) then K (SV.s (List.take (32 : Nat) (List.drop (0 : Nat) x))) (MW w x) else False) := by kernel_rfl
theorem vrW (w : W6) (s x z : Tx8) (j : Nat) (p : Prop) : (frK 22 (iW j) fun fr => vround Tryd.prog E00 noL 70 0 fr (MW w s) (Kn GE 0 22 p (iW (j + 1)) (MW w x) oW (MW w z))) = (bif ilt (↑j : Int) (32 : Int) then bif inI (↑j : Int) then bif inR ((↑j : Int).tdiv (8 : Int)) (4 : Nat) then bif ((↑j : Int).tdiv (8 : Int)).toNat.blt (List.length (w4 w)) then bif inI ((↑j : Int).tmod (8 : Int) * (8 : Int)) then bif inR (↑j : Int) (32 : Nat) then bif j.blt (List.length s) then bif inI ((↑j : Int) + (1 : Int)) then p ∧ SV.ptr (5 : Nat) (0 : Nat) = SV.ptr (5 : Nat) (0 : Nat) ∧ SV.ptr (6 : Nat) (0 : Nat) = SV.ptr (6 : Nat) (0 : Nat) ∧ SV.i ((↑j : Int) + (1 : Int)) = SV.i (↑(j + (1 : Nat)) : Int) ∧ (false = false ∧ Cont.a64 BEG = Cont.a64 BEG) ∧ (false = false ∧ Cont.a64 PRI = Cont.a64 PRI) ∧ (false = false ∧ Cont.a64 CON = Cont.a64 CON) ∧ (false = false ∧ Cont.a64 WHO = Cont.a64 WHO) ∧ (false = false ∧ Cont.a64 ROM = Cont.a64 ROM) ∧ (true = true ∧ Cont.a64 (w4 w) = Cont.a64 (w4 w)) ∧ (true = true ∧ Cont.a8 (List.set s j (BitVec.setWidth (8 : Nat) (List.getD (w4 w) ((↑j : Int).tdiv (8 : Int)).toNat (0 : BitVec (64 : Nat)) >>> ((↑j : Int).tmod (8 : Int) * (8 : Int)).toNat))) = Cont.a8 x) ∧ True else False else False else False else False else False else False else False else (0 : Nat) = (0 : Nat) ∧ SV.ptr (5 : Nat) (0 : Nat) = SV.ptr (5 : Nat) (0 : Nat) ∧ SV.ptr (6 : Nat) (0 : Nat) = SV.ptr (6 : Nat) (0 : Nat) ∧ (false = false ∧ Cont.a64 BEG = Cont.a64 BEG) ∧ (false = false ∧ Cont.a64 PRI = Cont.a64 PRI) ∧ (false = false ∧ Cont.a64 CON = Cont.a64 CON) ∧ (false = false ∧ Cont.a64 WHO = Cont.a64 WHO) ∧ (false = false ∧ Cont.a64 ROM = Cont.a64 ROM) ∧ (true = true ∧ Cont.a64 (w4 w) = Cont.a64 (w4 w)) ∧ (true = true ∧ Cont.a8 s = Cont.a8 z) ∧ True) := by kernel_rfl
/-- The bytes of words. -/
def wrN (w : W6) : Nat → Tx8
  | 0 => Z32
  | j + 1 => (wrN w j).set j ((w.getD (j / 8) 0 >>> (j % 8 * 8)).setWidth 8)
theorem wrN_len (w : W6) : ∀ j, (wrN w j).length = 32
  | 0 => rfl
  | j + 1 => by rw [wrN, List.length_set]; exact wrN_len w j
theorem loopW (w : W6) : ∀ fr M K, vLoop GE 22 (iW 0) (MW w Z32) oW (MW w (wrN (w4 w) 32)) fr M K → Wp Tryd.prog GE GE (loopOf Tryd.prog 70 0) fr M K := by
  refine loop_next e00_ok mixed (noL_ok _ _ _ _) (Nat.le_refl _) (by kernel_rfl) iW (fun j => MW w (wrN (w4 w) j)) (fun j => j ≤ 32) (fun j => 32 - j) (fun j => j + 1) 0 (Nat.zero_le _) (fun j hj => of_eq (vrW w (wrN (w4 w) j) (wrN (w4 w) (j + 1)) (wrN (w4 w) 32) j _) ?_)
  have hlen := wrN_len (w4 w) j
  have hnext : wrN (w4 w) (j + 1) = (wrN (w4 w) j).set j (((w4 w).getD (j / 8) 0 >>> (j % 8 * 8)).setWidth 8) := rfl
  have hfin : j = 32 → wrN (w4 w) j = wrN (w4 w) 32 := fun e => by rw [e]
  rw [hnext, tdiv8, tmod8, tdiv8i, tmod8i]
  generalize wrN (w4 w) 32 = z at hfin
  generalize wrN (w4 w) j = x at hfin hlen
  have h4 : (w4 w).length = 4 := rfl
  generalize w4 w = u at h4
  cases hq : ilt (j : Int) 32
  · have hj2 : j = 32 := by rw [ilt_eq] at hq; have := of_decide_eq_false hq; omega
    exact ⟨rfl, rfl, rfl, ⟨rfl, rfl⟩, ⟨rfl, rfl⟩, ⟨rfl, rfl⟩, ⟨rfl, rfl⟩, ⟨rfl, rfl⟩, ⟨rfl, rfl⟩, ⟨rfl, congrArg Cont.a8 (hfin hj2)⟩, trivial⟩
  · have hj2 : j < 32 := by rw [ilt_eq] at hq; have := of_decide_eq_true hq; omega
    have i1 : inR ((j / 8 : Nat) : Int) 4 = true := inR_iff.2 ⟨by omega, by omega⟩
    have i2 : Nat.blt (j / 8) u.length = true := blt_of (by omega)
    exact bif_of (inI_iff.2 (by omega)) (bif_of i1 (bif_of i2 (bif_of (inI_iff.2 (by omega)) (bif_of (inR_iff.2 ⟨by omega, by omega⟩) (bif_of (blt_of (by omega)) (bif_of (inI_iff.2 (by omega)) ⟨⟨by omega, by omega⟩, rfl, rfl, rfl, ⟨rfl, rfl⟩, ⟨rfl, rfl⟩, ⟨rfl, rfl⟩, ⟨rfl, rfl⟩, ⟨rfl, rfl⟩, ⟨rfl, rfl⟩, ⟨rfl, rfl⟩, trivial⟩))))))
def wrX (w : W6) : Tx8 := wrN w 32
def cWr (B : W6 → Tx8) : List SV → List Cont → Option (Bool × SV)
  | [.a64 [a, b, c, d]], _ => some (true, .s (B [a, b, c, d]))
  | _, _ => none
theorem write_ok : POk Tryd.prog GE 70 (cWr wrX) := by
  intro args acs r hh β M w hR hw ha
  unfold cWr at hh
  split at hh
  · rename_i a b c d
    simp only [Option.some.injEq, Prod.mk.injEq, true_and] at hh
    subst hh
    refine pure0 (vf_ok e00_ok mixed (LT.add_ok (noL_ok _ _ _ _) (loopW [a, b, c, d])) (of_eq (vaW [a, b, c, d] (wrN [a, b, c, d] 32) _) ?_)) rfl rfl hR
    rw [wrX]
    have hlen := wrN_len [a, b, c, d] 32
    generalize wrN [a, b, c, d] 32 = z at hlen ⊢
    exact ⟨rfl, rfl, rfl, rfl, ⟨rfl, rfl⟩, ⟨rfl, rfl⟩, ⟨rfl, rfl⟩, ⟨rfl, rfl⟩, ⟨rfl, rfl⟩, ⟨rfl, rfl⟩, ⟨rfl, rfl⟩, bif_of (decide_eq_true (by omega)) (by rw [List.drop_zero, List.take_of_length_le (by omega)])⟩
  · cases hh
/-- Of, Bytes, Canonical. -/
def EO (R : Tx8 → W6) (F : W6 → B6 → W6) (D C : T3) (W : W6 → Tx8) : Env := ⟨GE, (((noT.add 54 (ctK R)).add 75 (cFd F)).add 53 (cMn D C)).add 70 (cWr W), noC⟩
section
variable (R : Tx8 → W6) (F : W6 → B6 → W6) (D C : T3) (W : W6 → Tx8)
theorem vOf (R : Tx8 → W6) (F : W6 → B6 → W6) (D C : T3) (W : W6 → Tx8) (l : Tx8) (K : SV → Mm → Prop) : (vf Tryd.prog (EO R F D C W) noL 55 [.s l] GE K) = (bif (↑(List.length l) : Int) != (32 : Int) then K (SV.tup [SV.a64 (List.take (4 : Nat) (List.drop (0 : Nat) [(0 : BitVec (64 : Nat)), (0 : BitVec (64 : Nat)), (0 : BitVec (64 : Nat)), (0 : BitVec (64 : Nat))])), SV.i (2 : Int)]) [{ rw := false, c := Cont.a64 BEG }, { rw := false, c := Cont.a64 PRI }, { rw := false, c := Cont.a64 CON }, { rw := false, c := Cont.a64 WHO }, { rw := false, c := Cont.a64 ROM }, { rw := true, c := Cont.a64 [(0 : BitVec (64 : Nat)), (0 : BitVec (64 : Nat)), (0 : BitVec (64 : Nat)), (0 : BitVec (64 : Nat))] }] else bif (List.length l).beq (32 : Nat) then K (SV.tup [SV.a64 (List.take (4 : Nat) (List.drop (0 : Nat) (w4 (F [List.getD (R l) (0 : Nat) (0 : BitVec (64 : Nat)), List.getD (R l) (1 : Nat) (0 : BitVec (64 : Nat)), List.getD (R l) (2 : Nat) (0 : BitVec (64 : Nat)), List.getD (R l) (3 : Nat) (0 : BitVec (64 : Nat))] (BitVec.ofInt (64 : Nat) (0 : Int))) ++ []))), SV.i (0 : Int)]) [{ rw := false, c := Cont.a64 BEG }, { rw := false, c := Cont.a64 PRI }, { rw := false, c := Cont.a64 CON }, { rw := false, c := Cont.a64 WHO }, { rw := false, c := Cont.a64 ROM }, { rw := true, c := Cont.a64 (w4 (F [List.getD (R l) (0 : Nat) (0 : BitVec (64 : Nat)), List.getD (R l) (1 : Nat) (0 : BitVec (64 : Nat)), List.getD (R l) (2 : Nat) (0 : BitVec (64 : Nat)), List.getD (R l) (3 : Nat) (0 : BitVec (64 : Nat))] (BitVec.ofInt (64 : Nat) (0 : Int))) ++ []) }] else False) := by kernel_rfl
theorem vCan (R : Tx8 → W6) (F : W6 → B6 → W6) (D C : T3) (W : W6 → Tx8) (l : Tx8) (K : SV → Mm → Prop) : (vf Tryd.prog (EO R F D C W) noL 28 [.s l] GE K) = (bif (↑(List.length l) : Int) != (32 : Int) then K (SV.b false) GE else False) := by kernel_rfl
theorem vBy (R : Tx8 → W6) (F : W6 → B6 → W6) (D C : T3) (W : W6 → Tx8) (a b c d : B6) (K : SV → Mm → Prop) : (vf Tryd.prog (EO R F D C W) noL 47 [.a64 [a, b, c, d]] GE K) = (K (SV.s (W [a, b, c, d])) [{ rw := false, c := Cont.a64 BEG }, { rw := false, c := Cont.a64 PRI }, { rw := false, c := Cont.a64 CON }, { rw := false, c := Cont.a64 WHO }, { rw := false, c := Cont.a64 ROM }, { rw := true, c := Cont.a64 [a, b, c, d] }]) := by kernel_rfl
end
theorem eo_ok : EnvOk Tryd.prog (EO rdX fdX sbS sbC wrX) := ⟨PT.add_ok (PT.add_ok (PT.add_ok (PT.add_ok (noT_ok _ _) read_ok) fold_ok) minus_ok) write_ok, noC_ok _ _⟩
end Go.Proofs.YtdfghknonbmadaaDoor
