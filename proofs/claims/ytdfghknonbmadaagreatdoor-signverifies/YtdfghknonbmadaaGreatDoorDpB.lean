/-
  The document's numbers modulo the order: products, in the reckoner. No statement is proved here.
-/
import Derived.Test.YtdfghknonbmadaaGreatDoorDpA
namespace Go.Proofs.YtdfghknonbmadaaGreatDoor
namespace Dc
open Go.RowKit
set_option linter.unusedVariables false
set_option linter.unusedSimpArgs false
set_option maxRecDepth 100000
open Mt.Dg (bb rd byt vbl vb)
open Mt.Dg.O (v8 cr MS)
open Mt (Lq)
def cI (l : List Nat) : List Int := List.map (fun n : Nat => (n : Int)) l
def Z65 : List Int := List.replicate 65 0
def z65 : Tx8 := List.replicate 65 0
def mMA (a b c : Tx8) (t : List Int) : Mm := G5 [⟨true, .a8 a⟩, ⟨true, .a8 b⟩, ⟨true, .a8 c⟩, ⟨true, .a8 z32⟩, ⟨true, .ints t⟩]
def mMB (a b c : Tx8) (t : List Int) (o : Tx8) : Mm := G5 [⟨true, .a8 a⟩, ⟨true, .a8 b⟩, ⟨true, .a8 c⟩, ⟨true, .a8 z32⟩, ⟨true, .ints t⟩, ⟨true, .a8 o⟩]
def iMA (i : Nat) : List (Nat × SV) := [(3, .ptr 5 0), (4, .ptr 6 0), (5, .ptr 7 0), (6, .ptr 8 0), (7, .ptr 9 0), (8, .i (i : Nat))]
def iMB (i k : Nat) : List (Nat × SV) := [(3, .ptr 5 0), (4, .ptr 6 0), (5, .ptr 7 0), (6, .ptr 8 0), (7, .ptr 9 0), (8, .i (i : Nat)), (9, .i (k : Nat))]
def oMA : List (Nat × SV) := [(6, .ptr 8 0), (7, .ptr 9 0)]
def iMC (c : Int) (i : Nat) : List (Nat × SV) := [(6, .ptr 8 0), (7, .ptr 9 0), (10, .sl 10 0 65 65), (11, .i c), (12, .i (i : Nat))]
def oMC : List (Nat × SV) := [(6, .ptr 8 0), (10, .sl 10 0 65 65)]
def LMA (a b c : Tx8) (t : List Int) (o : Tx8) : LT := (noL.add 0 (vLoop GE 71 (iMA 0) (mMA a b c Z65) oMA (mMA a b c t))).add 4 (vLoop GE 71 (iMC 0 0) (mMB a b c t z65) oMC (mMB a b c t o))
def LMAk (a b c : Tx8) (i : Nat) (t u : List Int) : LT := noL.add 2 (vLoop GE 71 (iMB i 0) (mMA a b c t) (iMA i) (mMA a b c u))
def EMA (F : Tx8 → Tx8) : Env := ⟨GE, noT.add 20 (cO7 F), noC⟩
theorem vaMA (F : Tx8 → Tx8) (a b c : Tx8) (t : List Int) (o : Tx8) (K : SV → Prop) : (vf Tryz.prog (EMA F) (LMA a b c t o) 22 [.a8 a, .a8 b, .a8 c] GE (fun r _ => K r)) = (loopOf Tryz.prog 22 0 = loopOf Tryz.prog 22 0 ∧ SV.ptr 5 0 = SV.ptr 5 0 ∧ SV.ptr ((0 : Nat) + (1 : Nat) + (1 : Nat) + (1 : Nat) + (1 : Nat) + (1 : Nat) + (1 : Nat)) (0 : Nat) = SV.ptr 6 0 ∧ SV.ptr ((0 : Nat) + (1 : Nat) + (1 : Nat) + (1 : Nat) + (1 : Nat) + (1 : Nat) + (1 : Nat) + (1 : Nat)) (0 : Nat) = SV.ptr 7 0 ∧ SV.ptr ((0 : Nat) + (1 : Nat) + (1 : Nat) + (1 : Nat) + (1 : Nat) + (1 : Nat) + (1 : Nat) + (1 : Nat) + (1 : Nat)) (0 : Nat) = SV.ptr 8 0 ∧ SV.ptr ((0 : Nat) + (1 : Nat) + (1 : Nat) + (1 : Nat) + (1 : Nat) + (1 : Nat) + (1 : Nat) + (1 : Nat) + (1 : Nat) + (1 : Nat)) (0 : Nat) = SV.ptr 9 0 ∧ SV.i (0 : Int) = SV.i (↑(0 : Nat) : Int) ∧ g5E ((true = true ∧ Cont.a8 a = Cont.a8 a) ∧ (true = true ∧ Cont.a8 b = Cont.a8 b) ∧ (true = true ∧ Cont.a8 c = Cont.a8 c) ∧ (true = true ∧ Cont.a8 (List.replicate 32 (0 : BitVec 8)) = Cont.a8 z32) ∧ (true = true ∧ Cont.ints (List.replicate 65 (0 : Int)) = Cont.ints Z65) ∧ loopOf Tryz.prog 22 4 = loopOf Tryz.prog 22 4 ∧ SV.ptr 8 0 = SV.ptr 8 0 ∧ SV.ptr 9 0 = SV.ptr 9 0 ∧ SV.sl (List.length (mMA a b c t)) (0 : Nat) (65 : Nat) (65 : Nat) = SV.sl 10 0 (65 : Nat) (65 : Nat) ∧ SV.i (0 : Int) = SV.i (0 : Int) ∧ SV.i (0 : Int) = SV.i (↑(0 : Nat) : Int) ∧ g5E ((true = true ∧ Cont.a8 a = Cont.a8 a) ∧ (true = true ∧ Cont.a8 b = Cont.a8 b) ∧ (true = true ∧ Cont.a8 c = Cont.a8 c) ∧ (true = true ∧ Cont.a8 z32 = Cont.a8 z32) ∧ (true = true ∧ Cont.ints t = Cont.ints t) ∧ (true = true ∧ Cont.a8 (List.replicate 65 (0 : BitVec 8)) = Cont.a8 z65) ∧ bif decide ((65 : Nat) ≤ List.length o) then bif (List.take 65 (List.drop 0 o)).length.ble 100 then bif (List.length (F (List.take 65 (List.drop 0 o)))).beq 32 && (List.length (F (List.take 65 (List.drop 0 o)))).beq 32 then bif (List.length (F (List.take 65 (List.drop 0 o)))).beq 32 && true then K (SV.a8 (F (List.take 65 (List.drop 0 o)))) else False else False else False else False))) := by kernel_rfl
theorem vrMB (a b c : Tx8) (x y z : List Int) (i k : Nat) (p : Prop) : (frK 71 (iMB i k) fun fr => vround Tryz.prog E00 noL 22 2 fr (mMA a b c x) (Kn GE 2 71 p (iMB i (k + 1)) (mMA a b c y) (iMA i) (mMA a b c z))) = (bif ilt (↑k : Int) (32 : Int) then bif inI ((↑i : Int) + (↑k : Int)) then bif inI ((↑i : Int) + (↑k : Int)) then bif inR ((↑i : Int) + (↑k : Int)) (65 : Nat) then bif ((↑i : Int) + (↑k : Int)).toNat.blt x.length then bif inR (↑i : Int) (32 : Nat) then bif i.blt (List.length a) then bif inR (↑k : Int) (32 : Nat) then bif k.blt (List.length b) then bif inI ((↑(List.getD a i (0 : BitVec 8)).toNat : Int) * (↑(List.getD b k (0 : BitVec 8)).toNat : Int)) then bif inI (x.getD ((↑i : Int) + (↑k : Int)).toNat (0 : Int) + (↑(List.getD a i (0 : BitVec 8)).toNat : Int) * (↑(List.getD b k (0 : BitVec 8)).toNat : Int)) then bif inR ((↑i : Int) + (↑k : Int)) (65 : Nat) then bif ((↑i : Int) + (↑k : Int)).toNat.blt x.length then bif inI ((↑k : Int) + (1 : Int)) then p ∧ SV.ptr 5 0 = SV.ptr 5 0 ∧ SV.ptr 6 0 = SV.ptr 6 0 ∧ SV.ptr 7 0 = SV.ptr 7 0 ∧ SV.ptr 8 0 = SV.ptr 8 0 ∧ SV.ptr 9 0 = SV.ptr 9 0 ∧ SV.i (↑i : Int) = SV.i (↑i : Int) ∧ SV.i ((↑k : Int) + (1 : Int)) = SV.i (↑(k + (1 : Nat)) : Int) ∧ g5E ((true = true ∧ Cont.a8 a = Cont.a8 a) ∧ (true = true ∧ Cont.a8 b = Cont.a8 b) ∧ (true = true ∧ Cont.a8 c = Cont.a8 c) ∧ (true = true ∧ Cont.a8 z32 = Cont.a8 z32) ∧ (true = true ∧ Cont.ints (x.set ((↑i : Int) + (↑k : Int)).toNat (x.getD ((↑i : Int) + (↑k : Int)).toNat (0 : Int) + (↑(List.getD a i (0 : BitVec 8)).toNat : Int) * (↑(List.getD b k (0 : BitVec 8)).toNat : Int))) = Cont.ints y) ∧ True) else False else False else False else False else False else False else False else False else False else False else False else False else False else (2 : Nat) = (2 : Nat) ∧ SV.ptr 5 0 = SV.ptr 5 0 ∧ SV.ptr 6 0 = SV.ptr 6 0 ∧ SV.ptr 7 0 = SV.ptr 7 0 ∧ SV.ptr 8 0 = SV.ptr 8 0 ∧ SV.ptr 9 0 = SV.ptr 9 0 ∧ SV.i (↑i : Int) = SV.i (↑i : Int) ∧ g5E ((true = true ∧ Cont.a8 a = Cont.a8 a) ∧ (true = true ∧ Cont.a8 b = Cont.a8 b) ∧ (true = true ∧ Cont.a8 c = Cont.a8 c) ∧ (true = true ∧ Cont.a8 z32 = Cont.a8 z32) ∧ (true = true ∧ Cont.ints x = Cont.ints z) ∧ True)) := by kernel_rfl
theorem vrMA (a b c : Tx8) (x t u y z : List Int) (i m : Nat) (p : Prop) : (frK 71 (iMA i) fun fr => vround Tryz.prog E00 (LMAk a b c m t u) 22 0 fr (mMA a b c x) (Kn GE 0 71 p (iMA (i + 1)) (mMA a b c y) oMA (mMA a b c z))) = (bif ilt (↑i : Int) (32 : Int) then bif inR (↑i : Int) (65 : Nat) then bif i.blt x.length then bif inR (↑i : Int) (32 : Nat) then bif i.blt (List.length c) then bif inI (x.getD i (0 : Int) + (↑(List.getD c i (0 : BitVec 8)).toNat : Int)) then bif inR (↑i : Int) (65 : Nat) then bif i.blt x.length then loopOf Tryz.prog 22 2 = loopOf Tryz.prog 22 2 ∧ SV.ptr 5 0 = SV.ptr 5 0 ∧ SV.ptr 6 0 = SV.ptr 6 0 ∧ SV.ptr 7 0 = SV.ptr 7 0 ∧ SV.ptr 8 0 = SV.ptr 8 0 ∧ SV.ptr 9 0 = SV.ptr 9 0 ∧ SV.i (↑i : Int) = SV.i (↑m : Int) ∧ SV.i (0 : Int) = SV.i (↑(0 : Nat) : Int) ∧ g5E ((true = true ∧ Cont.a8 a = Cont.a8 a) ∧ (true = true ∧ Cont.a8 b = Cont.a8 b) ∧ (true = true ∧ Cont.a8 c = Cont.a8 c) ∧ (true = true ∧ Cont.a8 z32 = Cont.a8 z32) ∧ (true = true ∧ Cont.ints (x.set i (x.getD i (0 : Int) + (↑(List.getD c i (0 : BitVec 8)).toNat : Int))) = Cont.ints t) ∧ bif inI ((↑m : Int) + (1 : Int)) then p ∧ SV.ptr 5 0 = SV.ptr 5 0 ∧ SV.ptr 6 0 = SV.ptr 6 0 ∧ SV.ptr 7 0 = SV.ptr 7 0 ∧ SV.ptr 8 0 = SV.ptr 8 0 ∧ SV.ptr 9 0 = SV.ptr 9 0 ∧ SV.i ((↑m : Int) + (1 : Int)) = SV.i (↑(i + (1 : Nat)) : Int) ∧ g5E ((true = true ∧ Cont.a8 a = Cont.a8 a) ∧ (true = true ∧ Cont.a8 b = Cont.a8 b) ∧ (true = true ∧ Cont.a8 c = Cont.a8 c) ∧ (true = true ∧ Cont.a8 z32 = Cont.a8 z32) ∧ (true = true ∧ Cont.ints u = Cont.ints y) ∧ True) else False) else False else False else False else False else False else False else False else (0 : Nat) = (0 : Nat) ∧ SV.ptr 8 0 = SV.ptr 8 0 ∧ SV.ptr 9 0 = SV.ptr 9 0 ∧ g5E ((true = true ∧ Cont.a8 a = Cont.a8 a) ∧ (true = true ∧ Cont.a8 b = Cont.a8 b) ∧ (true = true ∧ Cont.a8 c = Cont.a8 c) ∧ (true = true ∧ Cont.a8 z32 = Cont.a8 z32) ∧ (true = true ∧ Cont.ints x = Cont.ints z) ∧ True)) := by kernel_rfl
theorem vrMC (a b c : Tx8) (t : List Int) (x y z : Tx8) (e f : Int) (i : Nat) (p : Prop) : (frK 71 (iMC e i) fun fr => vround Tryz.prog E00 noL 22 4 fr (mMB a b c t x) (Kn GE 4 71 p (iMC f (i + 1)) (mMB a b c t y) oMC (mMB a b c t z))) = (bif ilt (↑i : Int) (65 : Int) then bif inR (↑i : Int) (65 : Nat) then bif i.blt t.length then bif inI (t.getD i (0 : Int) + e) then bif inR (↑i : Int) (65 : Nat) then bif i.blt (List.length x) then bif inI ((↑i : Int) + (1 : Int)) then p ∧ SV.ptr 8 0 = SV.ptr 8 0 ∧ SV.ptr 9 0 = SV.ptr 9 0 ∧ SV.sl 10 0 (65 : Nat) (65 : Nat) = SV.sl 10 0 (65 : Nat) (65 : Nat) ∧ SV.i ((t.getD i (0 : Int) + e).fdiv ((2 : Int) ^ (8 : Nat))) = SV.i f ∧ SV.i ((↑i : Int) + (1 : Int)) = SV.i (↑(i + (1 : Nat)) : Int) ∧ g5E ((true = true ∧ Cont.a8 a = Cont.a8 a) ∧ (true = true ∧ Cont.a8 b = Cont.a8 b) ∧ (true = true ∧ Cont.a8 c = Cont.a8 c) ∧ (true = true ∧ Cont.a8 z32 = Cont.a8 z32) ∧ (true = true ∧ Cont.ints t = Cont.ints t) ∧ (true = true ∧ Cont.a8 (List.set x i (BitVec.ofInt (8 : Nat) (t.getD i (0 : Int) + e))) = Cont.a8 y) ∧ True) else False else False else False else False else False else False else (4 : Nat) = (4 : Nat) ∧ SV.ptr 8 0 = SV.ptr 8 0 ∧ SV.sl 10 0 (65 : Nat) (65 : Nat) = SV.sl 10 0 (65 : Nat) (65 : Nat) ∧ g5E ((true = true ∧ Cont.a8 a = Cont.a8 a) ∧ (true = true ∧ Cont.a8 b = Cont.a8 b) ∧ (true = true ∧ Cont.a8 c = Cont.a8 c) ∧ (true = true ∧ Cont.a8 z32 = Cont.a8 z32) ∧ (true = true ∧ Cont.ints t = Cont.ints t) ∧ (true = true ∧ Cont.a8 x = Cont.a8 z) ∧ True)) := by kernel_rfl
theorem cI_len (l : List Nat) : (cI l).length = l.length := List.length_map _
theorem cI_get (l : List Nat) (i : Nat) : (cI l).getD i 0 = ((l.getD i 0 : Nat) : Int) := by
 unfold cI
 rw [List.getD_eq_getElem?_getD, List.getD_eq_getElem?_getD, List.getElem?_map]
 cases l[i]? <;> rfl
theorem cI_set (l : List Nat) (i x : Nat) : (cI l).set i ((x : Nat) : Int) = cI (l.set i x) := by unfold cI; rw [List.map_set]
def rK (A B i : Nat) (l : List Nat) : Nat → List Nat
 | 0 => l
 | k + 1 => (rK A B i l k).set (i + k) ((rK A B i l k).getD (i + k) 0 + vb A i * vb B k)
def r0 (C i : Nat) (l : List Nat) : List Nat := l.set i (l.getD i 0 + vb C i)
def rI (A B C : Nat) : Nat → List Nat
 | 0 => List.replicate 65 0
 | i + 1 => rK A B i (r0 C i (rI A B C i)) 32
theorem rK_is {A B C i : Nat} (hi : i < 32) {l : List Nat} (h : Mt.Dg.O.MR A B C i 0 l) : ∀ k, k ≤ 32 → Mt.Dg.O.MR A B C i k (rK A B i l k)
 | 0, _ => h
 | k + 1, hk => (rK_is hi h k (by omega)).step hi (by omega)
theorem rI_is {A B C : Nat} (hB : B < 115792089237316195423570985008687907853269984665640564039457584007913129639936) : ∀ i, i ≤ 32 → MS A B C i (rI A B C i)
 | 0, _ => MS.start A B C
 | i + 1, hi => (rK_is (by omega) ((rI_is hB i (by omega)).add (by omega)) 32 (Nat.le_refl _)).row hB
theorem loopMB (A B C i : Nat) (hi : i < 32) (l : List Nat) (h : Mt.Dg.O.MR A B C i 0 l) (c : Tx8) (x z : List Int) (hx : x = cI l) (hz : z = cI (rK A B i l 32)) : ∀ fr M K, vLoop GE 71 (iMB i 0) (mMA (byD A) (byD B) c x) (iMA i) (mMA (byD A) (byD B) c z) fr M K → Wp Tryz.prog GE GE (loopOf Tryz.prog 22 2) fr M K := by
 subst hx
 refine loop_next e00_ok mixed (noL_ok _ _ _ _) (Nat.le_refl _) (by kernel_rfl) (fun k => iMB i k) (fun k => mMA (byD A) (byD B) c (cI (rK A B i l k))) (fun k => k ≤ 32) (fun k => 32 - k) (fun k => k + 1) 0 (Nat.zero_le _) (fun k hk => of_eq (vrMB (byD A) (byD B) c (cI (rK A B i l k)) (cI (rK A B i l (k + 1))) z i k _) ?_)
 cases hq : ilt (k : Int) 32
 ·have hk2 : k = 32 := by have := le_of_ilt (b := 32) hq; omega
  have e : cI (rK A B i l k) = z := by rw [hz, hk2]
  rw [e]
  and_intros <;> first | exact rfl | exact trivial
 ·have hk2 : k < 32 := lt_of_ilt (b := 32) hq
  have hM := rK_is hi h k (by omega)
  have hlen := hM.len
  have hle := hM.le (i + k)
  have hp := Mt.Dg.O.prod_le _ _ (Mt.Dg.vb_lt A i) (Mt.Dg.vb_lt B k)
  have hn : rK A B i l (k + 1) = (rK A B i l k).set (i + k) ((rK A B i l k).getD (i + k) 0 + vb A i * vb B k) := rfl
  rw [hn]
  generalize rK A B i l k = u at *
  have e1 : ((i : Int) + (k : Int)).toNat = i + k := by omega
  have e2 : ((u.getD (i + k) 0 : Nat) : Int) + ((vb A i : Nat) : Int) * ((vb B k : Nat) : Int) = ((u.getD (i + k) 0 + vb A i * vb B k : Nat) : Int) := by
   rw [Int.natCast_add, Int.natCast_mul]
  have e3 : ((vb A i : Nat) : Int) * ((vb B k : Nat) : Int) = ((vb A i * vb B k : Nat) : Int) := by rw [Int.natCast_mul]
  have hi65 : (i + 1) * 65280 ≤ 2088960 := by have := Nat.mul_le_mul_right 65280 (show i + 1 ≤ 32 by omega); omega
  rw [e1, cI_get, cI_len, hlen, byD_get A i hi, byD_get B k hk2, Mt.Dg.toN8 _ (Mt.Dg.vb_lt A i), Mt.Dg.toN8 _ (Mt.Dg.vb_lt B k), e2, e3, cI_set, byD_len, byD_len]
  generalize vb A i * vb B k = q at *
  generalize u.getD (i + k) 0 = v at *
  have i1 : inI ((i : Int) + (k : Int)) = true := inI_iff.2 (by omega)
  have i2 : inR ((i : Int) + (k : Int)) 65 = true := inR_iff.2 (by omega)
  have i3 : Nat.blt (i + k) 65 = true := blt_of (by omega)
  refine bif_of i1 (bif_of i1 (bif_of i2 (bif_of i3 (bif_of (inR_of hi) (bif_of (blt_of hi) (bif_of (inR_of hk2) (bif_of (blt_of hk2) (bif_of (inI_iff.2 (by omega)) (bif_of (inI_iff.2 (by omega)) (bif_of i2 (bif_of i3 (bif_of (inI_iff.2 (by omega)) ?_))))))))))))
  and_intros <;> first | omega | exact rfl | exact trivial
theorem loopMA (A B C : Nat) (hB : B < 115792089237316195423570985008687907853269984665640564039457584007913129639936) (x z : List Int) (hx : x = cI (rI A B C 0)) (hz : z = cI (rI A B C 32)) : ∀ fr M K, vLoop GE 71 (iMA 0) (mMA (byD A) (byD B) (byD C) x) oMA (mMA (byD A) (byD B) (byD C) z) fr M K → Wp Tryz.prog GE GE (loopOf Tryz.prog 22 0) fr M K := by
 subst hx
 have hS : ∀ i, MS A B C (min i 31) (rI A B C (min i 31)) := fun i => rI_is hB _ (by omega)
 refine loop_nextL e00_ok mixed (Nat.le_refl _) (by kernel_rfl) (L := fun i => LMAk (byD A) (byD B) (byD C) (min i 31) (cI (r0 C (min i 31) (rI A B C (min i 31)))) (cI (rK A B (min i 31) (r0 C (min i 31) (rI A B C (min i 31))) 32))) (fun i => LT.add_ok (noL_ok _ _ _ _) (loopMB A B C (min i 31) (by omega) _ ((hS i).add (by omega)) (byD C) _ _ rfl rfl)) (fun i => iMA i) (fun i => mMA (byD A) (byD B) (byD C) (cI (rI A B C i))) (fun i => i ≤ 32) (fun i => 32 - i) (fun i => i + 1) 0 (Nat.zero_le _) (fun i hi => ?_)
 refine of_eq (vrMA (byD A) (byD B) (byD C) (cI (rI A B C i)) _ _ (cI (rI A B C (i + 1))) z i (min i 31) _) ?_
 cases hq : ilt (i : Int) 32
 ·have hi2 : i = 32 := by have := le_of_ilt (b := 32) hq; omega
  have e : cI (rI A B C i) = z := by rw [hz, hi2]
  rw [e]
  and_intros <;> first | exact rfl | exact trivial
 ·have hi2 : i < 32 := lt_of_ilt (b := 32) hq
  have em : min i 31 = i := by omega
  have hM := hS i
  have hn : rI A B C (i + 1) = rK A B i (r0 C i (rI A B C i)) 32 := rfl
  rw [em] at hM ⊢
  rw [hn]
  have hlen := hM.len
  have hle := hM.le i
  have hi65 : i * 65280 ≤ 2088960 := by have := Nat.mul_le_mul_right 65280 (show i ≤ 32 by omega); omega
  have hC := Mt.Dg.vb_lt C i
  have e2 : (((rI A B C i).getD i 0 : Nat) : Int) + ((vb C i : Nat) : Int) = (((rI A B C i).getD i 0 + vb C i : Nat) : Int) := by rw [Int.natCast_add]
  have e4 : (cI (rI A B C i)).set i (((rI A B C i).getD i 0 + vb C i : Nat) : Int) = cI (r0 C i (rI A B C i)) := cI_set _ _ _
  rw [cI_get, cI_len, hlen, byD_get C i hi2, Mt.Dg.toN8 _ hC, e2, e4, byD_len, inR_of (show i < 65 by omega), inR_of hi2, blt_of (show i < 65 by omega), blt_of hi2, show inI (((rI A B C i).getD i 0 + vb C i : Nat) : Int) = true from inI_iff.2 (by omega), show inI ((i : Int) + 1) = true from inI_iff.2 (by omega)]
  and_intros <;> first | omega | exact rfl | exact trivial
def ob (V i : Nat) : List Nat := (List.range 65).map fun j => if j < i then vb V j else 0
theorem ob_len (V i : Nat) : (ob V i).length = 65 := by simp [ob]
theorem ob_set (V i : Nat) : (ob V i).set i (vb V i) = ob V (i + 1) := by
 apply List.ext_getElem
 ·simp [ob]
 ·intro j h1 h2
  rw [List.getElem_set]
  simp only [ob, List.getElem_map, List.getElem_range]
  by_cases hij : i = j
  ·subst hij; simp
  ·rw [if_neg hij]
   by_cases hji : j < i
   ·rw [if_pos hji, if_pos (by omega)]
   ·rw [if_neg hji, if_neg (by omega)]
theorem ob_zero (V : Nat) : bb (ob V 0) = z65 := by kernel_rfl
theorem loopMC (t : List Nat) (ht : t.length = 65) (hB : ∀ m, t.getD m 0 ≤ 2088960) (a b c x z : Tx8) (e : Int) (hx : x = bb (ob (v8 t) 0)) (hz : z = bb (ob (v8 t) 65)) (he : e = ((cr t 0 : Nat) : Int)) : ∀ fr M K, vLoop GE 71 (iMC e 0) (mMB a b c (cI t) x) oMC (mMB a b c (cI t) z) fr M K → Wp Tryz.prog GE GE (loopOf Tryz.prog 22 4) fr M K := by
 subst hx; subst he
 refine loop_next e00_ok mixed (noL_ok _ _ _ _) (Nat.le_refl _) (by kernel_rfl) (fun i => iMC ((cr t i : Nat) : Int) i) (fun i => mMB a b c (cI t) (bb (ob (v8 t) i))) (fun i => i ≤ 65) (fun i => 65 - i) (fun i => i + 1) 0 (Nat.zero_le _) (fun i hi => of_eq (vrMC a b c (cI t) (bb (ob (v8 t) i)) (bb (ob (v8 t) (i + 1))) z ((cr t i : Nat) : Int) ((cr t (i + 1) : Nat) : Int) i _) ?_)
 cases hq : ilt (i : Int) 65
 ·have hi2 : i = 65 := by have := le_of_ilt (b := 65) hq; omega
  have e : bb (ob (v8 t) i) = z := by rw [hz, hi2]
  rw [e]
  and_intros <;> first | exact rfl | exact trivial
 ·have hi2 : i < 65 := lt_of_ilt (b := 65) hq
  have h1 := hB i
  have h2 := Mt.Dg.O.cr_le hB i
  have hb := Mt.Dg.O.cr_byte t i (by omega)
  have e2 : ((t.getD i 0 : Nat) : Int) + ((cr t i : Nat) : Int) = ((t.getD i 0 + cr t i : Nat) : Int) := by rw [Int.natCast_add]
  have e3 : ((t.getD i 0 + cr t i : Nat) : Int).fdiv (2 ^ 8) = ((cr t (i + 1) : Nat) : Int) := by
   rw [show ((2 : Int) ^ 8) = 256 from rfl, Int.fdiv_eq_ediv_of_nonneg _ (by decide)]
   show _ = (((t.getD i 0 + cr t i) / 256 : Nat) : Int)
   omega
  have e4 : BitVec.ofInt 8 ((t.getD i 0 + cr t i : Nat) : Int) = BitVec.ofNat 8 (vb (v8 t) i) := by
   rw [BitVec.ofInt_natCast, hb]
   apply BitVec.eq_of_toNat_eq
   rw [BitVec.toNat_ofNat, BitVec.toNat_ofNat]
   show _ % 256 = _ % 256 % 256
   omega
  rw [cI_get, cI_len, ht, e2, e3, e4, Mt.Dg.bb_set, ob_set]
  have i3 : Nat.blt i (bb (ob (v8 t) i)).length = true := blt_of (by rw [Mt.Dg.bb_len, ob_len]; exact hi2)
  refine bif_of (inR_of hi2) (bif_of (blt_of hi2) (bif_of (inI_iff.2 (by omega)) (bif_of (inR_of hi2) (bif_of i3 (bif_of (inI_iff.2 (by omega)) ?_)))))
  and_intros <;> first | omega | exact rfl | exact trivial
theorem ob_get (V i : Nat) (h : i < 65) : (bb (ob V 65)).getD i 0 = BitVec.ofNat 8 (vb V i) := by
 rw [Mt.Dg.bb_get]
 congr 1
 simp [ob, h]
theorem rd_ob (V : Nat) : ∀ k, k ≤ 65 → rd (bb (ob V 65)) k = V % 256 ^ k
 | 0, _ => by rw [Nat.pow_zero, Nat.mod_one]; rfl
 | k + 1, h => by
  have ih := rd_ob V k (by omega)
  have e : byt (bb (ob V 65)) k = vb V k := by
   show ((bb (ob V 65)).getD k 0).toNat = _
   rw [ob_get V k (by omega), Mt.Dg.toN8 _ (Mt.Dg.vb_lt _ _)]
  rw [Mt.Dg.rd, ih, e, Mt.Dg.O.mod_vb, Nat.mul_comm]
theorem big65 {A B C : Nat} (hA : A < 115792089237316195423570985008687907853269984665640564039457584007913129639936) (hB : B < 115792089237316195423570985008687907853269984665640564039457584007913129639936) (hC : C < 115792089237316195423570985008687907853269984665640564039457584007913129639936) : A * B + C < 256 ^ 65 := by
 have h1 : A * B ≤ (256 ^ 32) * (256 ^ 32) := Nat.mul_le_mul (Nat.le_of_lt (show A < 256 ^ 32 from hA)) (Nat.le_of_lt (show B < 256 ^ 32 from hB))
 have h2 : C < 256 ^ 32 := hC
 have h3 : (256 : Nat) ^ 32 * 256 ^ 32 + 256 ^ 32 < 256 ^ 65 := by decide
 generalize (256 : Nat) ^ 32 * 256 ^ 32 = u at *
 generalize (256 : Nat) ^ 32 = v at *
 omega
def cMA (F : Tx8 → Tx8 → Tx8 → Tx8) : List SV → List Cont → Option (Bool × SV)
 | [.a8 a, .a8 b, .a8 c], _ => some (Nat.beq a.length 32 && (Nat.beq b.length 32 && Nat.beq c.length 32), .a8 (F a b c))
 | _, _ => none
def ma7 (a b c : Tx8) : Tx8 := byD ((rd a 32 * rd b 32 + rd c 32) % Lq)
theorem ema_ok : EnvOk Tryz.prog (EMA o7F) := ⟨PT.add_ok (noT_ok _ _) ofO7_ok, noC_ok _ _⟩
theorem muladdO7_ok : POk Tryz.prog GE 22 (cMA ma7) := by
 intro args acs r hh β M w hR hw ha
 unfold cMA at hh
 split at hh
 ·rename_i a b c
  simp only [Option.some.injEq, Prod.mk.injEq, Bool.and_eq_true] at hh
  obtain ⟨⟨h1, h2, h3⟩, rfl⟩ := hh
  have e1 := byD_rd (Nat.eq_of_beq_eq_true h1)
  have e2 := byD_rd (Nat.eq_of_beq_eq_true h2)
  have e3 := byD_rd (Nat.eq_of_beq_eq_true h3)
  have k1 := Mt.Dg.rd_lt4 a
  have k2 := Mt.Dg.rd_lt4 b
  have k3 := Mt.Dg.rd_lt4 c
  unfold ma7
  generalize rd a 32 = A at *
  generalize rd b 32 = B at *
  generalize rd c 32 = C at *
  subst e1; subst e2; subst e3
  have hS := rI_is (A := A) (C := C) k2 32 (Nat.le_refl _)
  have hV := hS.last k1 k3
  have hout : o7F (bb (ob (A * B + C) 65)) = byD ((A * B + C) % Lq) := by
   unfold o7F
   rw [Mt.Dg.bb_len, ob_len, rd_ob _ 65 (Nat.le_refl _), Nat.mod_eq_of_lt (big65 k1 k2 k3)]
  have L4 := loopMC (rI A B C 32) hS.len hS.le (byD A) (byD B) (byD C) z65 _ 0 (ob_zero _).symm rfl rfl
  rw [hV] at L4
  refine pokE' (E := EMA o7F) rfl ema_ok (LT.add_ok (LT.add_ok (noL_ok _ _ _ _) (loopMA A B C k2 Z65 _ rfl rfl)) L4) (vaMA o7F (byD A) (byD B) (byD C) (cI (rI A B C 32)) (bb (ob (A * B + C) 65)) _) ?_ rfl rfl hR
  have hl : (bb (ob (A * B + C) 65)).length = 65 := by rw [Mt.Dg.bb_len, ob_len]
  rw [List.drop_zero, List.take_of_length_le (by omega), hout, hl, byD_len]
  and_intros <;> first | exact rfl | exact trivial
 ·cases hh
end Dc
end Go.Proofs.YtdfghknonbmadaaGreatDoor
