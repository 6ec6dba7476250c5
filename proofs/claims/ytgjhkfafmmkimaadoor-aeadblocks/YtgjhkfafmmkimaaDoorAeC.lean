/-
  aead: the document's carries and products. No statement is proved here.
-/
import Derived.Test.YtgjhkfafmmkimaaDoorPoB
import Derived.Test.YtgjhkfafmmkimaaDoorVdD
namespace Go.Proofs.YtgjhkfafmmkimaaDoor
open Go.RowKit
set_option linter.unusedVariables false
set_option linter.unusedSimpArgs false
set_option maxRecDepth 100000

def Z11 : Ds := List.replicate 11 0
def Mc (n z : Ds) : Mm := [⟨false, .ints MX⟩, ⟨true, .a64 n⟩, ⟨true, .a64 z⟩]
def ioc (j : Nat) : List (Nat × SV) := [(1, .ptr 1 0), (2, .ptr 2 0), (3, .i (j : Int))]
def ooc : List (Nat × SV) := [(1, .ptr 1 0), (2, .ptr 2 0)]
def iic (j : Nat) (c : BitVec 64) (i : Nat) : List (Nat × SV) := [(1, .ptr 1 0), (2, .ptr 2 0), (3, .i (j : Int)), (4, .w64 c), (5, .i (i : Int))]
def oic (j : Nat) (c : BitVec 64) : List (Nat × SV) := [(1, .ptr 1 0), (2, .ptr 2 0), (3, .i (j : Int)), (4, .w64 c)]
def Lic (j : Nat) (n n2 : Ds) (c2 : BitVec 64) : LT := noL.add 2 (vLoop G 43 (iic j 0 0) (Mc n Z11) (oic j c2) (Mc n2 Z11))
def Loc (n n2 : Ds) : LT := noL.add 0 (vLoop G 43 (ioc 0) (Mc n Z11) ooc (Mc n2 Z11))
theorem vaC (l l2 : Ds) (K : SV → Mm → Prop) : (vf Tryd.prog E0 (Loc l l2) 28 [.a64 l] G K) = (loopOf Tryd.prog (28 : Nat) (0 : Nat) = loopOf Tryd.prog (28 : Nat) (0 : Nat) ∧ SV.ptr (1 : Nat) (0 : Nat) = SV.ptr (1 : Nat) (0 : Nat) ∧ SV.ptr ((0 : Nat) + (1 : Nat) + (1 : Nat)) (0 : Nat) = SV.ptr (2 : Nat) (0 : Nat) ∧ SV.i (0 : Int) = SV.i (↑(0 : Nat) : Int) ∧ (false = false ∧ Cont.ints MX = Cont.ints MX) ∧ (true = true ∧ Cont.a64 l = Cont.a64 l) ∧ (true = true ∧ Cont.a64 (List.replicate (11 : Nat) (0 : BitVec (64 : Nat))) = Cont.a64 Z11) ∧ bif (List.length l2).beq (11 : Nat) then bif (List.length l2).beq (11 : Nat) && (List.length l2).beq (11 : Nat) then bif (List.length l2).beq (11 : Nat) && true then K (SV.a64 l2) [{ rw := false, c := Cont.ints MX }, { rw := true, c := Cont.a64 l2 }, { rw := true, c := Cont.a64 l2 }] else False else False else False) := by kernel_rfl
theorem vrCo (n n1 n2 n3 : Ds) (c2 : BitVec 64) (j : Nat) (p : Prop) : (frK 43 (ioc j) fun fr => vround Tryd.prog E0 (Lic j n n2 c2) 28 0 fr (Mc n Z11) (Kn G 0 43 p (ioc (j + 1)) (Mc n1 Z11) ooc (Mc n3 Z11))) = (bif ilt (↑j : Int) (3 : Int) then loopOf Tryd.prog (28 : Nat) (2 : Nat) = loopOf Tryd.prog (28 : Nat) (2 : Nat) ∧ SV.ptr (1 : Nat) (0 : Nat) = SV.ptr (1 : Nat) (0 : Nat) ∧ SV.ptr (2 : Nat) (0 : Nat) = SV.ptr (2 : Nat) (0 : Nat) ∧ SV.i (↑j : Int) = SV.i (↑j : Int) ∧ SV.w64 (BitVec.ofInt (64 : Nat) (0 : Int)) = SV.w64 (0 : BitVec (64 : Nat)) ∧ SV.i (0 : Int) = SV.i (↑(0 : Nat) : Int) ∧ (false = false ∧ Cont.ints MX = Cont.ints MX) ∧ (true = true ∧ Cont.a64 n = Cont.a64 n) ∧ (true = true ∧ Cont.a64 Z11 = Cont.a64 Z11) ∧ bif Nat.blt (10 : Nat) (List.length n2) then bif Nat.blt (10 : Nat) (List.length n2) then bif Nat.blt (10 : Nat) (List.length n2) then bif Nat.blt (0 : Nat) (List.set n2 (10 : Nat) (List.getD n2 (10 : Nat) (0 : BitVec (64 : Nat)) &&& BitVec.ofInt (64 : Nat) (1023 : Int))).length then bif Nat.blt (0 : Nat) (List.set n2 (10 : Nat) (List.getD n2 (10 : Nat) (0 : BitVec (64 : Nat)) &&& BitVec.ofInt (64 : Nat) (1023 : Int))).length then bif inI ((↑j : Int) + (1 : Int)) then p ∧ SV.ptr (1 : Nat) (0 : Nat) = SV.ptr (1 : Nat) (0 : Nat) ∧ SV.ptr (2 : Nat) (0 : Nat) = SV.ptr (2 : Nat) (0 : Nat) ∧ SV.i ((↑j : Int) + (1 : Int)) = SV.i (↑(j + (1 : Nat)) : Int) ∧ (false = false ∧ Cont.ints MX = Cont.ints MX) ∧ (true = true ∧ Cont.a64 ((List.set n2 (10 : Nat) (List.getD n2 (10 : Nat) (0 : BitVec (64 : Nat)) &&& BitVec.ofInt (64 : Nat) (1023 : Int))).set (0 : Nat) ((List.set n2 (10 : Nat) (List.getD n2 (10 : Nat) (0 : BitVec (64 : Nat)) &&& BitVec.ofInt (64 : Nat) (1023 : Int))).getD (0 : Nat) (0 : BitVec (64 : Nat)) + BitVec.ofInt (64 : Nat) (5 : Int) * (c2 <<< (2 : Nat) ||| List.getD n2 (10 : Nat) (0 : BitVec (64 : Nat)) >>> (10 : Nat)))) = Cont.a64 n1) ∧ (true = true ∧ Cont.a64 Z11 = Cont.a64 Z11) ∧ True else False else False else False else False else False else False else (0 : Nat) = (0 : Nat) ∧ SV.ptr (1 : Nat) (0 : Nat) = SV.ptr (1 : Nat) (0 : Nat) ∧ SV.ptr (2 : Nat) (0 : Nat) = SV.ptr (2 : Nat) (0 : Nat) ∧ (false = false ∧ Cont.ints MX = Cont.ints MX) ∧ (true = true ∧ Cont.a64 n = Cont.a64 n3) ∧ (true = true ∧ Cont.a64 Z11 = Cont.a64 Z11) ∧ True) := by kernel_rfl
theorem vrCi (n n1 n2 : Ds) (c c1 c2 : BitVec 64) (j i : Nat) (p : Prop) : (frK 43 (iic j c i) fun fr => vround Tryd.prog E0 noL 28 2 fr (Mc n Z11) (Kn G 2 43 p (iic j c1 (i + 1)) (Mc n1 Z11) (oic j c2) (Mc n2 Z11))) = (bif ilt (↑i : Int) (11 : Int) then bif inR (↑i : Int) (11 : Nat) then bif i.blt (List.length n) then bif inR (↑i : Int) (11 : Nat) then bif i.blt (List.length n) then bif inI ((↑i : Int) + (1 : Int)) then p ∧ SV.ptr (1 : Nat) (0 : Nat) = SV.ptr (1 : Nat) (0 : Nat) ∧ SV.ptr (2 : Nat) (0 : Nat) = SV.ptr (2 : Nat) (0 : Nat) ∧ SV.i (↑j : Int) = SV.i (↑j : Int) ∧ SV.w64 ((List.getD n i (0 : BitVec (64 : Nat)) + c) >>> (12 : Nat)) = SV.w64 c1 ∧ SV.i ((↑i : Int) + (1 : Int)) = SV.i (↑(i + (1 : Nat)) : Int) ∧ (false = false ∧ Cont.ints MX = Cont.ints MX) ∧ (true = true ∧ Cont.a64 (List.set n i (List.getD n i (0 : BitVec (64 : Nat)) + c &&& BitVec.ofInt (64 : Nat) (4095 : Int))) = Cont.a64 n1) ∧ (true = true ∧ Cont.a64 Z11 = Cont.a64 Z11) ∧ True else False else False else False else False else False else (2 : Nat) = (2 : Nat) ∧ SV.ptr (1 : Nat) (0 : Nat) = SV.ptr (1 : Nat) (0 : Nat) ∧ SV.ptr (2 : Nat) (0 : Nat) = SV.ptr (2 : Nat) (0 : Nat) ∧ SV.i (↑j : Int) = SV.i (↑j : Int) ∧ SV.w64 c = SV.w64 c2 ∧ (false = false ∧ Cont.ints MX = Cont.ints MX) ∧ (true = true ∧ Cont.a64 n = Cont.a64 n2) ∧ (true = true ∧ Cont.a64 Z11 = Cont.a64 Z11) ∧ True) := by kernel_rfl
theorem nlt {j n : Nat} (h : ilt (j : Int) (n : Int) = false) (hj : j ≤ n) : j = n := by rw [ilt_eq] at h; have := of_decide_eq_false h; omega
theorem ylt {j n : Nat} (h : ilt (j : Int) (n : Int) = true) : j < n := by rw [ilt_eq] at h; have := of_decide_eq_true h; omega
theorem loopCi (j : Nat) (l : Ds) (hl : l.length = 11) : ∀ fr M K, vLoop G 43 (iic j 0 0) (Mc l Z11) (oic j (ps l 11).2) (Mc (ps l 11).1 Z11) fr M K → Wp Tryd.prog G G (loopOf Tryd.prog 28 2) fr M K := by
  refine loop_next e0_ok mixed (noL_ok _ _ _ _) (Nat.le_refl _) (by kernel_rfl) (fun i => iic j (ps l i).2 i) (fun i => Mc (ps l i).1 Z11) (fun i => i ≤ 11) (fun i => 11 - i) (fun i => i + 1) 0 (Nat.zero_le _) (fun i hi => of_eq (vrCi (ps l i).1 (ps l (i + 1)).1 (ps l 11).1 (ps l i).2 (ps l (i + 1)).2 (ps l 11).2 j i _) ?_)
  rw [ps_len, hl]
  cases hq : ilt (i : Int) 11
  · have hj2 : i = 11 := nlt hq hi
    subst hj2
    exact ⟨rfl, rfl, rfl, rfl, rfl, ⟨rfl, rfl⟩, ⟨rfl, rfl⟩, ⟨rfl, rfl⟩, trivial⟩
  · have hj2 : i < 11 := ylt hq
    refine bif_of (inR_nat hj2) (bif_of (blt_of hj2) (bif_of (inR_nat hj2) (bif_of (blt_of hj2) (bif_of (inI_iff.2 (by omega)) ?_))))
    exact ⟨⟨by omega, by omega⟩, rfl, rfl, rfl, rfl, rfl, ⟨rfl, rfl⟩, ⟨rfl, rfl⟩, ⟨rfl, rfl⟩, trivial⟩
theorem loopCo (l : Ds) (hl : l.length = 11) : ∀ fr M K, vLoop G 43 (ioc 0) (Mc l Z11) ooc (Mc (carryD l) Z11) fr M K → Wp Tryd.prog G G (loopOf Tryd.prog 28 0) fr M K := by
  refine loop_nextL e0_ok mixed (Nat.le_refl _) (by kernel_rfl) (L := fun j => Lic (min j 3) (folds l (min j 3)) (ps (folds l (min j 3)) 11).1 (ps (folds l (min j 3)) 11).2) (fun j => LT.add_ok (noL_ok _ _ _ _) (loopCi _ _ (folds_len l hl _))) ioc (fun j => Mc (folds l j) Z11) (fun j => j ≤ 3) (fun j => 3 - j) (fun j => j + 1) 0 (Nat.zero_le _) (fun j hj => ?_)
  have em : min j 3 = j := Nat.min_eq_left hj
  show frK 43 (ioc j) fun fr => vround Tryd.prog E0 (Lic (min j 3) (folds l (min j 3)) (ps (folds l (min j 3)) 11).1 (ps (folds l (min j 3)) 11).2) 28 0 fr _ _
  rw [em]
  refine of_eq (vrCo (folds l j) (folds l (j + 1)) (ps (folds l j) 11).1 (carryD l) (ps (folds l j) 11).2 j _) ?_
  have hx := folds_len l hl j
  rw [List.length_set, ps_len, hx]
  cases hq : ilt (j : Int) 3
  · have hj2 : j = 3 := nlt hq hj
    subst hj2
    exact ⟨rfl, rfl, rfl, ⟨rfl, rfl⟩, ⟨rfl, rfl⟩, ⟨rfl, rfl⟩, trivial⟩
  · have hj2 : j < 3 := ylt hq
    refine ⟨rfl, rfl, rfl, rfl, rfl, rfl, ⟨rfl, rfl⟩, ⟨rfl, rfl⟩, ⟨rfl, rfl⟩, bif_of rfl (bif_of rfl (bif_of rfl (bif_of rfl (bif_of rfl (bif_of (inI_iff.2 (by omega)) ?_)))))⟩
    exact ⟨⟨by omega, by omega⟩, rfl, rfl, rfl, ⟨rfl, rfl⟩, ⟨rfl, rfl⟩, ⟨rfl, rfl⟩, trivial⟩
def cCar (X : Ds → Ds) : List SV → List Cont → Option (Bool × SV)
  | [.a64 l], _ => some (Nat.beq l.length 11, .a64 (X l))
  | _, _ => none
theorem carry_ok : POk Tryd.prog G 28 (cCar carryD) := by
  intro args acs r h β M w hR hw ha
  unfold cCar at h
  split at h
  · rename_i l
    simp only [Option.some.injEq, Prod.mk.injEq] at h
    obtain ⟨hl, rfl⟩ := h
    have hl := Nat.eq_of_beq_eq_true hl
    have hm := carryD_len l hl
    refine pure0 (vf_ok e0_ok mixed (LT.add_ok (noL_ok _ _ _ _) (loopCo l hl)) (of_eq (vaC l (carryD l) _) ⟨rfl, rfl, rfl, rfl, ⟨rfl, rfl⟩, ⟨rfl, rfl⟩, ⟨rfl, rfl⟩, ?_⟩)) rfl rfl hR
    rw [hm]
    rfl
  · cases h
def EC (X : Ds → Ds) : Env := ⟨G, noT.add 28 (cCar X), noC⟩
theorem ec_ok : EnvOk Tryd.prog (EC carryD) := ⟨PT.add_ok (noT_ok _ _) carry_ok, noC_ok _ _⟩
def Mt (a b z n : Ds) : Mm := [⟨false, .ints MX⟩, ⟨true, .a64 a⟩, ⟨true, .a64 b⟩, ⟨true, .a64 z⟩, ⟨true, .a64 n⟩]
def iot (j : Nat) : List (Nat × SV) := [(2, .ptr 1 0), (3, .ptr 2 0), (4, .ptr 3 0), (5, .ptr 4 0), (6, .i (j : Int))]
def oot : List (Nat × SV) := [(4, .ptr 3 0), (5, .ptr 4 0)]
def iit (j i : Nat) : List (Nat × SV) := [(2, .ptr 1 0), (3, .ptr 2 0), (4, .ptr 3 0), (5, .ptr 4 0), (6, .i (j : Int)), (7, .i (i : Int))]
def oit (j : Nat) : List (Nat × SV) := [(2, .ptr 1 0), (3, .ptr 2 0), (4, .ptr 3 0), (5, .ptr 4 0), (6, .i (j : Int))]
def Lit (j : Nat) (a b n n2 : Ds) : LT := noL.add 2 (vLoop G 55 (iit j 0) (Mt a b Z11 n) (oit j) (Mt a b Z11 n2))
def Lot (a b n n2 : Ds) : LT := noL.add 0 (vLoop G 55 (iot 0) (Mt a b Z11 n) oot (Mt a b Z11 n2))
theorem vaT (X : Ds → Ds) (a b n2 : Ds) (K : SV → Mm → Prop) : (vf Tryd.prog (EC X) (Lot a b Z11 n2) 27 [.a64 a, .a64 b] G K) = (loopOf Tryd.prog (27 : Nat) (0 : Nat) = loopOf Tryd.prog (27 : Nat) (0 : Nat) ∧ SV.ptr (1 : Nat) (0 : Nat) = SV.ptr (1 : Nat) (0 : Nat) ∧ SV.ptr ((0 : Nat) + (1 : Nat) + (1 : Nat)) (0 : Nat) = SV.ptr (2 : Nat) (0 : Nat) ∧ SV.ptr ((0 : Nat) + (1 : Nat) + (1 : Nat) + (1 : Nat)) (0 : Nat) = SV.ptr (3 : Nat) (0 : Nat) ∧ SV.ptr ((0 : Nat) + (1 : Nat) + (1 : Nat) + (1 : Nat) + (1 : Nat)) (0 : Nat) = SV.ptr (4 : Nat) (0 : Nat) ∧ SV.i (0 : Int) = SV.i (↑(0 : Nat) : Int) ∧ (false = false ∧ Cont.ints MX = Cont.ints MX) ∧ (true = true ∧ Cont.a64 a = Cont.a64 a) ∧ (true = true ∧ Cont.a64 b = Cont.a64 b) ∧ (true = true ∧ Cont.a64 (List.replicate (11 : Nat) (0 : BitVec (64 : Nat))) = Cont.a64 Z11) ∧ (true = true ∧ Cont.a64 (List.replicate (11 : Nat) (0 : BitVec (64 : Nat))) = Cont.a64 Z11) ∧ bif (List.length n2).beq (11 : Nat) then bif (List.length n2).beq (11 : Nat) then bif (List.length (X n2)).beq (11 : Nat) && (List.length (X n2)).beq (11 : Nat) then bif (List.length (X n2)).beq (11 : Nat) && true then K (SV.a64 (X n2)) [{ rw := false, c := Cont.ints MX }, { rw := true, c := Cont.a64 a }, { rw := true, c := Cont.a64 b }, { rw := true, c := Cont.a64 (X n2) }, { rw := true, c := Cont.a64 n2 }] else False else False else False else False) := by kernel_rfl
theorem vrTo (X : Ds → Ds) (a b n n1 n2 n3 : Ds) (j jj : Nat) (p : Prop) : (frK 55 (iot j) fun fr => vround Tryd.prog (EC X) (Lit jj a b n n2) 27 0 fr (Mt a b Z11 n) (Kn G 0 55 p (iot (j + 1)) (Mt a b Z11 n1) oot (Mt a b Z11 n3))) = (bif ilt (↑j : Int) (11 : Int) then loopOf Tryd.prog (27 : Nat) (2 : Nat) = loopOf Tryd.prog (27 : Nat) (2 : Nat) ∧ SV.ptr (1 : Nat) (0 : Nat) = SV.ptr (1 : Nat) (0 : Nat) ∧ SV.ptr (2 : Nat) (0 : Nat) = SV.ptr (2 : Nat) (0 : Nat) ∧ SV.ptr (3 : Nat) (0 : Nat) = SV.ptr (3 : Nat) (0 : Nat) ∧ SV.ptr (4 : Nat) (0 : Nat) = SV.ptr (4 : Nat) (0 : Nat) ∧ SV.i (↑j : Int) = SV.i (↑jj : Int) ∧ SV.i (0 : Int) = SV.i (↑(0 : Nat) : Int) ∧ (false = false ∧ Cont.ints MX = Cont.ints MX) ∧ (true = true ∧ Cont.a64 a = Cont.a64 a) ∧ (true = true ∧ Cont.a64 b = Cont.a64 b) ∧ (true = true ∧ Cont.a64 Z11 = Cont.a64 Z11) ∧ (true = true ∧ Cont.a64 n = Cont.a64 n) ∧ bif inI ((↑jj : Int) + (1 : Int)) then p ∧ SV.ptr (1 : Nat) (0 : Nat) = SV.ptr (1 : Nat) (0 : Nat) ∧ SV.ptr (2 : Nat) (0 : Nat) = SV.ptr (2 : Nat) (0 : Nat) ∧ SV.ptr (3 : Nat) (0 : Nat) = SV.ptr (3 : Nat) (0 : Nat) ∧ SV.ptr (4 : Nat) (0 : Nat) = SV.ptr (4 : Nat) (0 : Nat) ∧ SV.i ((↑jj : Int) + (1 : Int)) = SV.i (↑(j + (1 : Nat)) : Int) ∧ (false = false ∧ Cont.ints MX = Cont.ints MX) ∧ (true = true ∧ Cont.a64 a = Cont.a64 a) ∧ (true = true ∧ Cont.a64 b = Cont.a64 b) ∧ (true = true ∧ Cont.a64 Z11 = Cont.a64 Z11) ∧ (true = true ∧ Cont.a64 n2 = Cont.a64 n1) ∧ True else False else (0 : Nat) = (0 : Nat) ∧ SV.ptr (3 : Nat) (0 : Nat) = SV.ptr (3 : Nat) (0 : Nat) ∧ SV.ptr (4 : Nat) (0 : Nat) = SV.ptr (4 : Nat) (0 : Nat) ∧ (false = false ∧ Cont.ints MX = Cont.ints MX) ∧ (true = true ∧ Cont.a64 a = Cont.a64 a) ∧ (true = true ∧ Cont.a64 b = Cont.a64 b) ∧ (true = true ∧ Cont.a64 Z11 = Cont.a64 Z11) ∧ (true = true ∧ Cont.a64 n = Cont.a64 n3) ∧ True) := by kernel_rfl
theorem vrTi (X : Ds → Ds) (a b n n1 n2 : Ds) (j i : Nat) (p : Prop) : (frK 55 (iit j i) fun fr => vround Tryd.prog (EC X) noL 27 2 fr (Mt a b Z11 n) (Kn G 2 55 p (iit j (i + 1)) (Mt a b Z11 n1) (oit j) (Mt a b Z11 n2))) = (bif ilt (↑i : Int) (11 : Int) then bif inR (↑j : Int) (11 : Nat) then bif j.blt (List.length a) then bif inR (↑i : Int) (11 : Nat) then bif i.blt (List.length b) then bif inI ((↑j : Int) + (↑i : Int)) then bif ile (11 : Int) ((↑j : Int) + (↑i : Int)) then bif inI ((↑j : Int) + (↑i : Int)) then bif inI ((↑j : Int) + (↑i : Int) - (11 : Int)) then bif inI ((↑j : Int) + (↑i : Int)) then bif inI ((↑j : Int) + (↑i : Int) - (11 : Int)) then bif inR ((↑j : Int) + (↑i : Int) - (11 : Int)) (11 : Nat) then bif ((↑j : Int) + (↑i : Int) - (11 : Int)).toNat.blt (List.length n) then bif inR ((↑j : Int) + (↑i : Int) - (11 : Int)) (11 : Nat) then bif ((↑j : Int) + (↑i : Int) - (11 : Int)).toNat.blt (List.length n) then bif inI ((↑i : Int) + (1 : Int)) then p ∧ SV.ptr (1 : Nat) (0 : Nat) = SV.ptr (1 : Nat) (0 : Nat) ∧ SV.ptr (2 : Nat) (0 : Nat) = SV.ptr (2 : Nat) (0 : Nat) ∧ SV.ptr (3 : Nat) (0 : Nat) = SV.ptr (3 : Nat) (0 : Nat) ∧ SV.ptr (4 : Nat) (0 : Nat) = SV.ptr (4 : Nat) (0 : Nat) ∧ SV.i (↑j : Int) = SV.i (↑j : Int) ∧ SV.i ((↑i : Int) + (1 : Int)) = SV.i (↑(i + (1 : Nat)) : Int) ∧ (false = false ∧ Cont.ints MX = Cont.ints MX) ∧ (true = true ∧ Cont.a64 a = Cont.a64 a) ∧ (true = true ∧ Cont.a64 b = Cont.a64 b) ∧ (true = true ∧ Cont.a64 Z11 = Cont.a64 Z11) ∧ (true = true ∧ Cont.a64 (List.set n ((↑j : Int) + (↑i : Int) - (11 : Int)).toNat (List.getD n ((↑j : Int) + (↑i : Int) - (11 : Int)).toNat (0 : BitVec (64 : Nat)) + BitVec.ofInt (64 : Nat) (20 : Int) * (List.getD a j (0 : BitVec (64 : Nat)) * List.getD b i (0 : BitVec (64 : Nat))))) = Cont.a64 n1) ∧ True else False else False else False else False else False else False else False else False else False else bif inI ((↑j : Int) + (↑i : Int)) then bif inI ((↑j : Int) + (↑i : Int)) then bif inR ((↑j : Int) + (↑i : Int)) (11 : Nat) then bif ((↑j : Int) + (↑i : Int)).toNat.blt (List.length n) then bif inR ((↑j : Int) + (↑i : Int)) (11 : Nat) then bif ((↑j : Int) + (↑i : Int)).toNat.blt (List.length n) then bif inI ((↑i : Int) + (1 : Int)) then p ∧ SV.ptr (1 : Nat) (0 : Nat) = SV.ptr (1 : Nat) (0 : Nat) ∧ SV.ptr (2 : Nat) (0 : Nat) = SV.ptr (2 : Nat) (0 : Nat) ∧ SV.ptr (3 : Nat) (0 : Nat) = SV.ptr (3 : Nat) (0 : Nat) ∧ SV.ptr (4 : Nat) (0 : Nat) = SV.ptr (4 : Nat) (0 : Nat) ∧ SV.i (↑j : Int) = SV.i (↑j : Int) ∧ SV.i ((↑i : Int) + (1 : Int)) = SV.i (↑(i + (1 : Nat)) : Int) ∧ (false = false ∧ Cont.ints MX = Cont.ints MX) ∧ (true = true ∧ Cont.a64 a = Cont.a64 a) ∧ (true = true ∧ Cont.a64 b = Cont.a64 b) ∧ (true = true ∧ Cont.a64 Z11 = Cont.a64 Z11) ∧ (true = true ∧ Cont.a64 (List.set n ((↑j : Int) + (↑i : Int)).toNat (List.getD n ((↑j : Int) + (↑i : Int)).toNat (0 : BitVec (64 : Nat)) + List.getD a j (0 : BitVec (64 : Nat)) * List.getD b i (0 : BitVec (64 : Nat)))) = Cont.a64 n1) ∧ True else False else False else False else False else False else False else False else False else False else False else False else False else (2 : Nat) = (2 : Nat) ∧ SV.ptr (1 : Nat) (0 : Nat) = SV.ptr (1 : Nat) (0 : Nat) ∧ SV.ptr (2 : Nat) (0 : Nat) = SV.ptr (2 : Nat) (0 : Nat) ∧ SV.ptr (3 : Nat) (0 : Nat) = SV.ptr (3 : Nat) (0 : Nat) ∧ SV.ptr (4 : Nat) (0 : Nat) = SV.ptr (4 : Nat) (0 : Nat) ∧ SV.i (↑j : Int) = SV.i (↑j : Int) ∧ (false = false ∧ Cont.ints MX = Cont.ints MX) ∧ (true = true ∧ Cont.a64 a = Cont.a64 a) ∧ (true = true ∧ Cont.a64 b = Cont.a64 b) ∧ (true = true ∧ Cont.a64 Z11 = Cont.a64 Z11) ∧ (true = true ∧ Cont.a64 n = Cont.a64 n2) ∧ True) := by kernel_rfl
theorem loopTi (j : Nat) (hj : j < 11) (a b n : Ds) (ha : a.length = 11) (hb : b.length = 11) (hn : n.length = 11) : ∀ fr M K, vLoop G 55 (iit j 0) (Mt a b Z11 n) (oit j) (Mt a b Z11 (tin a b j n 11)) fr M K → Wp Tryd.prog G G (loopOf Tryd.prog 27 2) fr M K := by
  refine loop_next ec_ok mixed (noL_ok _ _ _ _) (Nat.le_refl _) (by kernel_rfl) (fun i => iit j i) (fun i => Mt a b Z11 (tin a b j n i)) (fun i => i ≤ 11) (fun i => 11 - i) (fun i => i + 1) 0 (Nat.zero_le _) (fun i hi => of_eq (vrTi carryD a b (tin a b j n i) (tin a b j n (i + 1)) (tin a b j n 11) j i _) ?_)
  rw [tin_len, ha, hb, hn]
  cases hq : ilt (i : Int) 11
  · have hj2 : i = 11 := nlt hq hi
    subst hj2
    exact ⟨rfl, rfl, rfl, rfl, rfl, rfl, ⟨rfl, rfl⟩, ⟨rfl, rfl⟩, ⟨rfl, rfl⟩, ⟨rfl, rfl⟩, ⟨rfl, rfl⟩, trivial⟩
  · have hj2 : i < 11 := ylt hq
    have iw : inI ((j : Int) + (i : Int)) = true := inI_iff.2 (by omega)
    have i1 : inI ((i : Int) + 1) = true := inI_iff.2 (by omega)
    refine bif_of (inR_nat hj) (bif_of (blt_of hj) (bif_of (inR_nat hj2) (bif_of (blt_of hj2) (bif_of iw ?_))))
    have hnext : tin a b j n (i + 1) = stepT a b j i (tin a b j n i) := rfl
    rw [hnext]
    unfold stepT
    cases hw : ile 11 ((j : Int) + (i : Int))
    · have hw2 : ¬ 11 ≤ j + i := by rw [ile_eq] at hw; have := of_decide_eq_false hw; omega
      rw [if_neg hw2]
      have e : ((j : Int) + (i : Int)) = ((j + i : Nat) : Int) := by omega
      have k1 : j + i < 11 := by omega
      rw [e] at iw
      rw [e, Int.toNat_natCast]
      exact bif_of iw (bif_of iw (bif_of (inR_nat k1) (bif_of (blt_of k1) (bif_of (inR_nat k1) (bif_of (blt_of k1) (bif_of i1 ⟨⟨by omega, by omega⟩, rfl, rfl, rfl, rfl, rfl, rfl, ⟨rfl, rfl⟩, ⟨rfl, rfl⟩, ⟨rfl, rfl⟩, ⟨rfl, rfl⟩, ⟨rfl, rfl⟩, trivial⟩))))))
    · have hw2 : 11 ≤ j + i := by rw [ile_eq] at hw; have := of_decide_eq_true hw; omega
      rw [if_pos hw2]
      have e : ((j : Int) + (i : Int) - 11) = ((j + i - 11 : Nat) : Int) := by omega
      have k1 : j + i - 11 < 11 := by omega
      have iv : inI ((j + i - 11 : Nat) : Int) = true := inI_iff.2 (by omega)
      rw [e, Int.toNat_natCast]
      exact bif_of iw (bif_of iv (bif_of iw (bif_of iv (bif_of (inR_nat k1) (bif_of (blt_of k1) (bif_of (inR_nat k1) (bif_of (blt_of k1) (bif_of i1 ⟨⟨by omega, by omega⟩, rfl, rfl, rfl, rfl, rfl, rfl, ⟨rfl, rfl⟩, ⟨rfl, rfl⟩, ⟨rfl, rfl⟩, ⟨rfl, rfl⟩, ⟨rfl, rfl⟩, trivial⟩))))))))
theorem loopTo (a b : Ds) (ha : a.length = 11) (hb : b.length = 11) : ∀ fr M K, vLoop G 55 (iot 0) (Mt a b Z11 Z11) oot (Mt a b Z11 (tou a b 11)) fr M K → Wp Tryd.prog G G (loopOf Tryd.prog 27 0) fr M K := by
  refine loop_nextL ec_ok mixed (Nat.le_refl _) (by kernel_rfl) (L := fun j => Lit (min j 10) a b (tou a b j) (tin a b (min j 10) (tou a b j) 11)) (fun j => LT.add_ok (noL_ok _ _ _ _) (loopTi (min j 10) (by omega) a b (tou a b j) ha hb (tou_len a b j))) iot (fun j => Mt a b Z11 (tou a b j)) (fun j => j ≤ 11) (fun j => 11 - j) (fun j => j + 1) 0 (Nat.zero_le _) (fun j hj => of_eq (vrTo carryD a b (tou a b j) (tou a b (j + 1)) (tin a b (min j 10) (tou a b j) 11) (tou a b 11) j (min j 10) _) ?_)
  cases hq : ilt (j : Int) 11
  · have hj2 : j = 11 := nlt hq hj
    subst hj2
    exact ⟨rfl, rfl, rfl, ⟨rfl, rfl⟩, ⟨rfl, rfl⟩, ⟨rfl, rfl⟩, ⟨rfl, rfl⟩, ⟨rfl, rfl⟩, trivial⟩
  · have hj2 : j < 11 := ylt hq
    have em : min j 10 = j := Nat.min_eq_left (by omega)
    rw [em]
    exact ⟨rfl, rfl, rfl, rfl, rfl, rfl, rfl, ⟨rfl, rfl⟩, ⟨rfl, rfl⟩, ⟨rfl, rfl⟩, ⟨rfl, rfl⟩, ⟨rfl, rfl⟩, bif_of (inI_iff.2 (by omega)) ⟨⟨by omega, by omega⟩, rfl, rfl, rfl, rfl, rfl, ⟨rfl, rfl⟩, ⟨rfl, rfl⟩, ⟨rfl, rfl⟩, ⟨rfl, rfl⟩, ⟨rfl, rfl⟩, trivial⟩⟩
def cTim (X : Ds → Ds → Ds) : List SV → List Cont → Option (Bool × SV)
  | [.a64 a, .a64 b], _ => some (Nat.beq a.length 11 && Nat.beq b.length 11, .a64 (X a b))
  | _, _ => none
theorem timesD_len (a b : Ds) : (timesD a b).length = 11 := carryD_len _ (tou_len a b 11)
theorem times_ok : POk Tryd.prog G 27 (cTim timesD) := by
  intro args acs r h β M w hR hw ha
  unfold cTim at h
  split at h
  · rename_i a b
    simp only [Option.some.injEq, Prod.mk.injEq, Bool.and_eq_true] at h
    obtain ⟨⟨h1, h2⟩, rfl⟩ := h
    have h1 := Nat.eq_of_beq_eq_true h1
    have h2 := Nat.eq_of_beq_eq_true h2
    have hm := tou_len a b 11
    have hm2 := carryD_len _ hm
    refine pure0 (vf_ok ec_ok mixed (LT.add_ok (noL_ok _ _ _ _) (loopTo a b h1 h2)) (of_eq (vaT carryD a b (tou a b 11) _) ⟨rfl, rfl, rfl, rfl, rfl, rfl, ⟨rfl, rfl⟩, ⟨rfl, rfl⟩, ⟨rfl, rfl⟩, ⟨rfl, rfl⟩, ⟨rfl, rfl⟩, ?_⟩)) rfl rfl hR
    rw [hm, hm2]
    exact bif_of rfl (bif_of rfl (bif_of rfl (bif_of rfl rfl)))
  · cases h
end Go.Proofs.YtgjhkfafmmkimaaDoor
