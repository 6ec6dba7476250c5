/-
  order: numbers modulo the order, word by word. No statement is proved here.
-/
import Derived.Test.YtdfghknonbmadaaGreatDoorMaG
import Derived.Test.YtdfghknonbmadaaGreatDoorEwD
namespace Go.Proofs.YtdfghknonbmadaaGreatDoor
open Go.RowKit
set_option linter.unusedVariables false
set_option linter.unusedSimpArgs false
set_option maxRecDepth 100000
def lsT (D F : T3) (w : W6) : SV := .tup [.w64 ((plS D F w WHO).getD 0 0), .w64 ((plS D F w WHO).getD 1 0), .w64 ((plS D F w WHO).getD 2 0), .w64 ((plS D F w WHO).getD 3 0), .w64 (plC F w WHO 4)]
theorem less_e (S C D F : T3) (x y z t : B6) : vf Tryz.prog (EN S C D F) noL 90 [.w64 x, .w64 y, .w64 z, .w64 t] GE (fun r _ => r = lsT D F [x, y, z, t]) = (bif lc (plC F [x, y, z, t] WHO 1) then bif lc (plC F [x, y, z, t] WHO 2) then bif lc (plC F [x, y, z, t] WHO 3) then lsT D F [x, y, z, t] = lsT D F [x, y, z, t] else False else False else False) := by kernel_rfl
def cLs (D F : T3) : List SV → List Cont → Option (Bool × SV)
 | [.w64 x, .w64 y, .w64 z, .w64 t], _ => some (true, lsT D F [x, y, z, t])
 | _, _ => none
theorem less_ok : POk Tryz.prog GE 90 (cLs sbS sbC) := by
 intro args acs r hh β M w hR hw ha
 unfold cLs at hh
 split at hh
 ·rename_i x y z t
  simp only [Option.some.injEq, Prod.mk.injEq, true_and] at hh
  subst hh
  exact pokE (E := EN adS adC sbS sbC) rfl en_ok (less_e adS adC sbS sbC x y z t) (bif_of (lc_mi _ _ 1) (bif_of (lc_mi _ _ 2) (bif_of (lc_mi _ _ 3) rfl))) rfl rfl hR
 ·cases hh
def pkO (x y z : B6) : B6 := y ^^^ -x &&& (y ^^^ z)
def c3w (F : T3) : List SV → List Cont → Option (Bool × SV)
 | [.w64 x, .w64 y, .w64 z], _ => some (true, .w64 (F x y z))
 | _, _ => none
theorem pickO_e (S C D F : T3) (x y z : B6) : vf Tryz.prog (EN S C D F) noL 128 [.w64 x, .w64 y, .w64 z] GE (fun r _ => r = .w64 (pkO x y z)) = (SV.w64 (pkO x y z) = SV.w64 (pkO x y z)) := by kernel_rfl
theorem pickO_ok : POk Tryz.prog GE 128 (c3w pkO) := by
 intro args acs r hh β M w hR hw ha
 unfold c3w at hh
 split at hh
 ·rename_i x y z
  simp only [Option.some.injEq, Prod.mk.injEq, true_and] at hh
  subst hh
  exact pokE (E := EN adS adC sbS sbC) rfl en_ok (pickO_e adS adC sbS sbC x y z) rfl rfl rfl hR
 ·cases hh
theorem stepO_e (S C D F : T3) (H L : B6 → B6 → B6) (P : B6 → W6 → W6 → W6) (x y s c : B6) : vf Tryz.prog (EN1 S C D F H L P) noL 114 [.w64 x, .w64 y, .w64 s, .w64 c] GE (fun r _ => r = .tup [.w64 (stL S L x y s c), .w64 (stH S C H L x y s c)]) = (SV.tup [.w64 (stL S L x y s c), .w64 (stH S C H L x y s c)] = SV.tup [.w64 (stL S L x y s c), .w64 (stH S C H L x y s c)]) := by kernel_rfl
theorem stepO_ok : POk Tryz.prog GE 114 (cSp stLX stHX) := by
 intro args acs r hh β M w hR hw ha
 unfold cSp at hh
 split at hh
 ·rename_i x y s c
  simp only [Option.some.injEq, Prod.mk.injEq, true_and] at hh
  subst hh
  exact pokE (E := EN1 adS adC sbS sbC hiK (· * ·) pkW) rfl en1_ok (stepO_e adS adC sbS sbC hiK (· * ·) pkW x y s c) rfl rfl rfl hR
 ·cases hh
def EL (D F : T3) (P : T3) (S C : T3) : Env := ⟨GE, ((noT.add 90 (cLs D F)).add 128 (c3w P)).add 127 (cAd S C), noC⟩
theorem el_ok : EnvOk Tryz.prog (EL sbS sbC pkO adS adC) := ⟨PT.add_ok (PT.add_ok (PT.add_ok (noT_ok _ _) less_ok) pickO_ok) add64_ok, noC_ok _ _⟩
def blO (F : T3) (w : W6) : Bool := plC F w WHO 4 != BitVec.ofInt 64 0
theorem belowO_e (D F P S C : T3) (a b c d : B6) : vf Tryz.prog (EL D F P S C) noL 53 [.a64 [a, b, c, d]] GE (fun r _ => r = .b (blO F [a, b, c, d])) = (SV.b (blO F [a, b, c, d]) = SV.b (blO F [a, b, c, d])) := by kernel_rfl
theorem belowO_ok : POk Tryz.prog GE 53 (cOd (blO sbC)) := by
 intro args acs r hh β M w hR hw ha
 unfold cOd at hh
 split at hh
 ·rename_i a b c d
  simp only [Option.some.injEq, Prod.mk.injEq, true_and] at hh
  subst hh
  exact pokE (E := EL sbS sbC pkO adS adC) rfl el_ok (belowO_e sbS sbC pkO adS adC a b c d) rfl rfl rfl hR
 ·cases hh
def BP (w : W6) : Mm := [⟨false, .a64 BEG⟩, ⟨false, .a64 PRI⟩, ⟨false, .a64 CON⟩, ⟨false, .a64 WHO⟩, ⟨false, .a64 ROM⟩, ⟨true, .a64 w⟩]
end Go.Proofs.YtdfghknonbmadaaGreatDoor
namespace Go.Proofs.YtdfghknonbmadaaGreatDoor
open Go.RowKit
set_option linter.unusedVariables false
set_option linter.unusedSimpArgs false
set_option maxRecDepth 100000
def puC (C : T3) (w : W6) (bit : B6) : Nat → B6
 | 0 => bit
 | i + 1 => C (w.getD i 0) (w.getD i 0) (puC C w bit i)
def puS (S C : T3) (w : W6) (bit : B6) : W6 := [S (w.getD 0 0) (w.getD 0 0) (puC C w bit 0), S (w.getD 1 0) (w.getD 1 0) (puC C w bit 1), S (w.getD 2 0) (w.getD 2 0) (puC C w bit 2), S (w.getD 3 0) (w.getD 3 0) (puC C w bit 3)]
def puF (D F P S C : T3) (w : W6) (bit : B6) : W6 :=
 [P (plC F (puS S C w bit) WHO 4) ((plS D F (puS S C w bit) WHO).getD 0 0) ((puS S C w bit).getD 0 0),
  P (plC F (puS S C w bit) WHO 4) ((plS D F (puS S C w bit) WHO).getD 1 0) ((puS S C w bit).getD 1 0),
  P (plC F (puS S C w bit) WHO 4) ((plS D F (puS S C w bit) WHO).getD 2 0) ((puS S C w bit).getD 2 0),
  P (plC F (puS S C w bit) WHO 4) ((plS D F (puS S C w bit) WHO).getD 3 0) ((puS S C w bit).getD 3 0)]
theorem push_e (D F P S C : T3) (a b c d bit : B6) (K : SV → Mm → Prop) : vf Tryz.prog (EL D F P S C) noL 115 [.ptr 5 0, .w64 bit] (BP [a, b, c, d]) K = (bif lc bit then bif lc (puC C [a, b, c, d] bit 1) then bif lc (puC C [a, b, c, d] bit 2) then bif lc (puC C [a, b, c, d] bit 3) then K (.tup []) (BP (puF D F P S C [a, b, c, d] bit)) else False else False else False else False) := by kernel_rfl
def cPu (F : W6 → B6 → W6) : List SV → Mm → (SV → Mm → Prop) → Prop
 | [.ptr k off, .w64 bit], M, K => match M[k]? with
  | some ⟨true, .a64 [a, b, c, d]⟩ => vsome (Nat.beq off 0 && lc bit) (setK M k ⟨true, .a64 (w4 (F [a, b, c, d] bit))⟩ fun M1 => K (.tup []) M1)
  | _ => False
 | _, _, _ => False
abbrev puX : W6 → B6 → W6 := puF sbS sbC pkO adS adC
theorem lc_pu (w : W6) (bit : B6) (h : lc bit = true) : ∀ i, lc (puC adC w bit i) = true
 | 0 => h
 | i + 1 => lc_ad _ _ _ (lc_pu w bit h i)
theorem push_ok : COk Tryz.prog GE 115 (cPu puX) := by
 intro args M K h
 unfold cPu at h
 split at h
 ·rename_i k off bit
  split at h
  ·rename_i a b c d hk
   obtain ⟨hb, hh⟩ := vsome_iff.1 h
   simp only [Bool.and_eq_true] at hb
   obtain ⟨q1, q2⟩ := hb
   obtain rfl := Nat.eq_of_beq_eq_true q1
   rw [setK_eq] at hh
   refine eff_of (R := [⟨true, .a64 [a, b, c, d]⟩]) (args0 := [.ptr 5 0, .w64 bit]) (K0 := fun r M => r = .tup [] ∧ M = BP (puX [a, b, c, d] bit)) [k] (vf_ok (M := BP [a, b, c, d]) el_ok mixed (noL_ok _ _ _ _) (of_eq (push_e sbS sbC pkO adS adC a b c d bit _) ?_)) rfl rfl (by simp) ⟨⟨true, hk, fun h => h⟩, ⟨rfl, rfl⟩, trivial⟩ ?_
   ·exact bif_of q2 (bif_of (lc_pu _ _ q2 1) (bif_of (lc_pu _ _ q2 2) (bif_of (lc_pu _ _ q2 3) ⟨rfl, rfl⟩)))
   ·rintro r1 M1 ⟨rfl, rfl⟩
    rw [show back GE _ M _ _ = M.set k _ ++ [] from rfl, List.append_nil]
    exact hh
  ·exact h.elim
 ·exact h.elim
def Epu (F : W6 → B6 → W6) : Env := ⟨GE, noT, noC.add 115 (cPu F)⟩
theorem epu_ok : EnvOk Tryz.prog (Epu puX) := ⟨noT_ok _ _, CT.add_ok (noC_ok _ _) push_ok⟩
def MO (l x : W6) : Mm := [⟨false, .a64 BEG⟩, ⟨false, .a64 PRI⟩, ⟨false, .a64 CON⟩, ⟨false, .a64 WHO⟩, ⟨false, .a64 ROM⟩, ⟨false, .a64 l⟩, ⟨true, .a64 (List.replicate 4 0)⟩, ⟨true, .a64 (w4 x)⟩]
def iMi (len cap i k : Nat) : List (Nat × SV) := [(0, .sl 5 0 len cap), (2, .ptr 6 0), (3, .ptr 7 0), (4, .i (i : Nat)), (5, .i (63 - (k : Int)))]
def oMi (len cap i : Nat) : List (Nat × SV) := [(0, .sl 5 0 len cap), (2, .ptr 6 0), (3, .ptr 7 0), (4, .i (i : Nat))]
def iMo (len cap j : Nat) : List (Nat × SV) := [(0, .sl 5 0 len cap), (2, .ptr 6 0), (3, .ptr 7 0), (4, .i ((len : Int) - 1 - (j : Int)))]
def oMo : List (Nat × SV) := [(2, .ptr 6 0), (3, .ptr 7 0)]
def LMi (l x z : W6) (len cap i : Nat) : LT := noL.add 2 (vLoop (B5 l) 26 (iMi len cap i 0) (MO l x) (oMi len cap i) (MO l z))
def LMo (l x z : W6) (len cap : Nat) : LT := noL.add 0 (vLoop (B5 l) 26 (iMo len cap 0) (MO l x) oMo (MO l z))
theorem vaMo (F : W6 → B6 → W6) (l z : W6) (len cap : Nat) (K : SV → Mm → Prop) : (vf Tryz.prog (Epu F) (LMo l Z4 z len cap) 85 [.sl 5 0 len cap] (B5 l) K) = (bif inI ((↑len : Int) - (1 : Int)) then loopOf Tryz.prog 85 0 = loopOf Tryz.prog 85 0 ∧ SV.sl 5 0 len cap = SV.sl 5 0 len cap ∧ SV.ptr (List.length (B5 l)) (0 : Nat) = SV.ptr 6 0 ∧ SV.ptr ((0 : Nat) + (1 : Nat) + (1 : Nat) + (1 : Nat) + (1 : Nat) + (1 : Nat) + (1 : Nat) + (1 : Nat)) (0 : Nat) = SV.ptr 7 0 ∧ SV.i ((↑len : Int) - (1 : Int)) = SV.i ((↑len : Int) - (1 : Int) - (↑(0 : Nat) : Int)) ∧ g5E ((false = false ∧ Cont.a64 l = Cont.a64 l) ∧ (true = true ∧ Cont.a64 (List.replicate 4 (0 : BitVec 64)) = Cont.a64 (List.replicate 4 (0 : BitVec 64))) ∧ (true = true ∧ Cont.a64 (List.replicate 4 (0 : BitVec 64)) = Cont.a64 (w4 Z4)) ∧ K (SV.a64 (w4 z)) [{ rw := false, c := Cont.a64 BEG }, { rw := false, c := Cont.a64 PRI }, { rw := false, c := Cont.a64 CON }, { rw := false, c := Cont.a64 WHO }, { rw := false, c := Cont.a64 ROM }, { rw := false, c := Cont.a64 l }, { rw := true, c := Cont.a64 (w4 z) }, { rw := true, c := Cont.a64 (w4 z) }]) else False) := by kernel_rfl
theorem vrMo (F : W6 → B6 → W6) (l x v y u z : W6) (len cap i j : Nat) (p : Prop) : (frK 26 (iMo len cap j) fun fr => vround Tryz.prog (Epu F) (LMi l v y len cap i) 85 0 fr (MO l x) (Kn (B5 l) 0 26 p (iMo len cap (j + 1)) (MO l u) oMo (MO l z))) = (bif ile (0 : Int) ((↑len : Int) - (1 : Int) - (↑j : Int)) then loopOf Tryz.prog 85 2 = loopOf Tryz.prog 85 2 ∧ SV.sl 5 0 len cap = SV.sl 5 0 len cap ∧ SV.ptr 6 0 = SV.ptr 6 0 ∧ SV.ptr 7 0 = SV.ptr 7 0 ∧ SV.i ((↑len : Int) - (1 : Int) - (↑j : Int)) = SV.i (↑i : Int) ∧ SV.i (63 : Int) = SV.i ((63 : Int) - (↑(0 : Nat) : Int)) ∧ g5E ((false = false ∧ Cont.a64 l = Cont.a64 l) ∧ (true = true ∧ Cont.a64 (List.replicate 4 (0 : BitVec 64)) = Cont.a64 (List.replicate 4 (0 : BitVec 64))) ∧ (true = true ∧ Cont.a64 (w4 x) = Cont.a64 (w4 v)) ∧ bif inI ((↑i : Int) - (1 : Int)) then p ∧ SV.sl 5 0 len cap = SV.sl 5 0 len cap ∧ SV.ptr 6 0 = SV.ptr 6 0 ∧ SV.ptr 7 0 = SV.ptr 7 0 ∧ SV.i ((↑i : Int) - (1 : Int)) = SV.i ((↑len : Int) - (1 : Int) - (↑(j + (1 : Nat)) : Int)) ∧ g5E ((false = false ∧ Cont.a64 l = Cont.a64 l) ∧ (true = true ∧ Cont.a64 (List.replicate 4 (0 : BitVec 64)) = Cont.a64 (List.replicate 4 (0 : BitVec 64))) ∧ (true = true ∧ Cont.a64 (w4 y) = Cont.a64 (w4 u)) ∧ True) else False) else (0 : Nat) = (0 : Nat) ∧ SV.ptr 6 0 = SV.ptr 6 0 ∧ SV.ptr 7 0 = SV.ptr 7 0 ∧ g5E ((false = false ∧ Cont.a64 l = Cont.a64 l) ∧ (true = true ∧ Cont.a64 (List.replicate 4 (0 : BitVec 64)) = Cont.a64 (List.replicate 4 (0 : BitVec 64))) ∧ (true = true ∧ Cont.a64 (w4 x) = Cont.a64 (w4 z)) ∧ True)) := by kernel_rfl
theorem vrMi (F : W6 → B6 → W6) (l x y z : W6) (len cap i k : Nat) (p : Prop) : (frK 26 (iMi len cap i k) fun fr => vround Tryz.prog (Epu F) noL 85 2 fr (MO l x) (Kn (B5 l) 2 26 p (iMi len cap i (k + 1)) (MO l y) (oMi len cap i) (MO l z))) = (bif ile (0 : Int) ((63 : Int) - (↑k : Int)) then bif inR (↑i : Int) len then bif i.blt (List.length l) then bif ile (0 : Int) ((63 : Int) - (↑k : Int)) then bif lc (List.getD l i (0 : BitVec 64) >>> ((63 : Int) - (↑k : Int)).toNat &&& BitVec.ofInt 64 1) then bif inI ((63 : Int) - (↑k : Int) - (1 : Int)) then p ∧ SV.sl 5 0 len cap = SV.sl 5 0 len cap ∧ SV.ptr 6 0 = SV.ptr 6 0 ∧ SV.ptr 7 0 = SV.ptr 7 0 ∧ SV.i (↑i : Int) = SV.i (↑i : Int) ∧ SV.i ((63 : Int) - (↑k : Int) - (1 : Int)) = SV.i ((63 : Int) - (↑(k + (1 : Nat)) : Int)) ∧ g5E ((false = false ∧ Cont.a64 l = Cont.a64 l) ∧ (true = true ∧ Cont.a64 (List.replicate 4 (0 : BitVec 64)) = Cont.a64 (List.replicate 4 (0 : BitVec 64))) ∧ (true = true ∧ Cont.a64 (w4 (F [List.getD x (0 : Nat) (0 : BitVec 64), List.getD x (1 : Nat) (0 : BitVec 64), List.getD x (2 : Nat) (0 : BitVec 64), List.getD x (3 : Nat) (0 : BitVec 64)] (List.getD l i (0 : BitVec 64) >>> ((63 : Int) - (↑k : Int)).toNat &&& BitVec.ofInt 64 1))) = Cont.a64 (w4 y)) ∧ True) else False else False else False else False else False else (2 : Nat) = (2 : Nat) ∧ SV.sl 5 0 len cap = SV.sl 5 0 len cap ∧ SV.ptr 6 0 = SV.ptr 6 0 ∧ SV.ptr 7 0 = SV.ptr 7 0 ∧ SV.i (↑i : Int) = SV.i (↑i : Int) ∧ g5E ((false = false ∧ Cont.a64 l = Cont.a64 l) ∧ (true = true ∧ Cont.a64 (List.replicate 4 (0 : BitVec 64)) = Cont.a64 (List.replicate 4 (0 : BitVec 64))) ∧ (true = true ∧ Cont.a64 (w4 x) = Cont.a64 (w4 z)) ∧ True)) := by kernel_rfl
def moI (F : W6 → B6 → W6) (v : B6) (x : W6) : Nat → W6
 | 0 => x
 | k + 1 => F (w4 (moI F v x k)) (v >>> (63 - k) &&& BitVec.ofInt 64 1)
def moO (F : W6 → B6 → W6) (l : W6) : Nat → W6
 | 0 => Z4
 | j + 1 => moI F (l.getD (l.length - 1 - j) 0) (moO F l j) 64
theorem lc_bit (x : B6) : lc (x &&& BitVec.ofInt 64 1) = true := by
 refine Nat.ble_eq_true_of_le ?_
 rw [BitVec.toNat_and, show (BitVec.ofInt 64 1).toNat = 2 ^ 1 - 1 from rfl, Nat.and_two_pow_sub_one_eq_mod]
 omega
theorem loopMi (F : W6 → B6 → W6) (hE : EnvOk Tryz.prog (Epu F)) (l x : W6) (cap i : Nat) (hi : i < l.length) (hn : l.length ≤ 1000) : ∀ fr M K, vLoop (B5 l) 26 (iMi l.length cap i 0) (MO l x) (oMi l.length cap i) (MO l (moI F (l.getD i 0) x 64)) fr M K → Wp Tryz.prog GE (B5 l) (loopOf Tryz.prog 85 2) fr M K := by
 refine loop_next hE mixed (noL_ok _ _ _ _) (by show 5 ≤ 6; omega) (by kernel_rfl) (iMi l.length cap i) (fun k => MO l (moI F (l.getD i 0) x k)) (fun k => k ≤ 64) (fun k => 64 - k) (fun k => k + 1) 0 (Nat.zero_le _) (fun k hk => of_eq (vrMi F l (moI F (l.getD i 0) x k) (moI F (l.getD i 0) x (k + 1)) (moI F (l.getD i 0) x 64) l.length cap i k _) ?_)
 have hnext : moI F (l.getD i 0) x (k + 1) = F (w4 (moI F (l.getD i 0) x k)) (l.getD i 0 >>> (63 - k) &&& BitVec.ofInt 64 1) := rfl
 have hfin : k = 64 → moI F (l.getD i 0) x k = moI F (l.getD i 0) x 64 := fun e => by rw [e]
 rw [hnext]
 generalize moI F (l.getD i 0) x 64 = z at hfin
 generalize moI F (l.getD i 0) x k = y at hfin
 cases hq : ile 0 (63 - (k : Int))
 ·have hk2 : k = 64 := by rw [ile_eq] at hq; have := of_decide_eq_false hq; omega
  exact ⟨rfl, rfl, rfl, rfl, rfl, ⟨rfl, rfl⟩, ⟨rfl, rfl⟩, ⟨rfl, rfl⟩, ⟨rfl, rfl⟩, ⟨rfl, rfl⟩, ⟨rfl, rfl⟩, ⟨rfl, rfl⟩, ⟨rfl, congrArg (fun x => Cont.a64 (w4 x)) (hfin hk2)⟩, trivial⟩
 ·have hk2 : k ≤ 63 := by rw [ile_eq] at hq; have := of_decide_eq_true hq; omega
  rw [show (63 - (k : Int)).toNat = 63 - k by omega]
  exact bif_of (inR_iff.2 ⟨by omega, by omega⟩) (bif_of (blt_of hi) (bif_of rfl (bif_of (lc_bit _) (bif_of (inI_iff.2 (by omega)) ⟨⟨by omega, by omega⟩, rfl, rfl, rfl, rfl, congrArg SV.i (by omega), ⟨rfl, rfl⟩, ⟨rfl, rfl⟩, ⟨rfl, rfl⟩, ⟨rfl, rfl⟩, ⟨rfl, rfl⟩, ⟨rfl, rfl⟩, ⟨rfl, rfl⟩, ⟨rfl, rfl⟩, trivial⟩))))
theorem loopMo (F : W6 → B6 → W6) (hE : EnvOk Tryz.prog (Epu F)) (l : W6) (cap : Nat) (h0 : 0 < l.length) (hn : l.length ≤ 1000) : ∀ fr M K, vLoop (B5 l) 26 (iMo l.length cap 0) (MO l Z4) oMo (MO l (moO F l l.length)) fr M K → Wp Tryz.prog GE (B5 l) (loopOf Tryz.prog 85 0) fr M K := by
 refine loop_nextL hE mixed (by show 5 ≤ 6; omega) (by kernel_rfl) (L := fun j => LMi l (moO F l (min j (l.length - 1))) (moO F l (min j (l.length - 1) + 1)) l.length cap (l.length - 1 - min j (l.length - 1))) (fun j => LT.add_ok (noL_ok _ _ _ _) (loopMi F hE l _ cap _ (by omega) hn)) (iMo l.length cap) (fun j => MO l (moO F l j)) (fun j => j ≤ l.length) (fun j => l.length - j) (fun j => j + 1) 0 (Nat.zero_le _) (fun j hj => ?_)
 refine of_eq (vrMo F l (moO F l j) (moO F l (min j (l.length - 1))) (moO F l (min j (l.length - 1) + 1)) (moO F l (j + 1)) (moO F l l.length) l.length cap (l.length - 1 - min j (l.length - 1)) j _) ?_
 cases hq : ile 0 ((l.length : Int) - 1 - (j : Int))
 ·have hj2 : j = l.length := by rw [ile_eq] at hq; have := of_decide_eq_false hq; omega
  exact ⟨rfl, rfl, rfl, ⟨rfl, rfl⟩, ⟨rfl, rfl⟩, ⟨rfl, rfl⟩, ⟨rfl, rfl⟩, ⟨rfl, rfl⟩, ⟨rfl, rfl⟩, ⟨rfl, rfl⟩, ⟨rfl, by rw [hj2]⟩, trivial⟩
 ·have hj2 : j < l.length := by rw [ile_eq] at hq; have := of_decide_eq_true hq; omega
  rw [show min j (l.length - 1) = j by omega]
  exact ⟨rfl, rfl, rfl, rfl, congrArg SV.i (by omega), rfl, ⟨rfl, rfl⟩, ⟨rfl, rfl⟩, ⟨rfl, rfl⟩, ⟨rfl, rfl⟩, ⟨rfl, rfl⟩, ⟨rfl, rfl⟩, ⟨rfl, rfl⟩, ⟨rfl, rfl⟩, bif_of (inI_iff.2 (by omega)) ⟨⟨by omega, by omega⟩, rfl, rfl, rfl, congrArg SV.i (by omega), ⟨rfl, rfl⟩, ⟨rfl, rfl⟩, ⟨rfl, rfl⟩, ⟨rfl, rfl⟩, ⟨rfl, rfl⟩, ⟨rfl, rfl⟩, ⟨rfl, rfl⟩, ⟨rfl, rfl⟩, trivial⟩⟩
def cMd (F : W6 → W6) : List SV → List Cont → Option (Bool × SV)
 | [.sl k off len cap], [.a64 l] => some (Nat.beq off 0 && (Nat.beq len l.length && (Nat.blt 0 len && Nat.ble len 1000)), .a64 (w4 (F l)))
 | _, _ => none
def mdF (F : W6 → B6 → W6) (l : W6) : W6 := moO F l l.length
theorem modulo_gen (F : W6 → B6 → W6) (hE : EnvOk Tryz.prog (Epu F)) : POk Tryz.prog GE 85 (cMd (mdF F)) := by
 intro args acs r hh β M' w hR hw ha
 unfold cMd at hh
 split at hh
 ·rename_i k off len cap l
  simp only [Option.some.injEq, Prod.mk.injEq, Bool.and_eq_true] at hh
  obtain ⟨⟨h1, h2, h3, h4⟩, rfl⟩ := hh
  obtain rfl := Nat.eq_of_beq_eq_true h1
  obtain rfl := Nat.eq_of_beq_eq_true h2
  have h3 := blt_lt h3
  have h4 := Nat.le_of_ble_eq_true h4
  simp only [List.map_cons, List.map_nil, List.cons.injEq, and_true] at ha
  refine pure1 (args0 := [.sl 5 0 l.length cap]) (c := .a64 l) (k := k) (vf_ok (M := B5 l) hE mixed (LT.add_ok (noL_ok _ _ _ _) (loopMo F hE l cap h3 h4)) (of_eq (vaMo F l (moO F l l.length) l.length cap _) ?_)) rfl rfl rfl rfl rfl (fun _ => rfl) hR (tgt_some ha.symm rfl)
  exact bif_of (inI_iff.2 (by omega)) ⟨rfl, rfl, rfl, rfl, congrArg SV.i (by omega), ⟨rfl, rfl⟩, ⟨rfl, rfl⟩, ⟨rfl, rfl⟩, ⟨rfl, rfl⟩, ⟨rfl, rfl⟩, ⟨rfl, rfl⟩, ⟨rfl, rfl⟩, ⟨rfl, rfl⟩, rfl⟩
 ·cases hh
abbrev mdX : W6 → W6 := mdF puX
theorem modulo_ok : POk Tryz.prog GE 85 (cMd mdX) := modulo_gen puX epu_ok
end Go.Proofs.YtdfghknonbmadaaGreatDoor
namespace Go.Proofs.YtdfghknonbmadaaGreatDoor
open Go.RowKit
set_option linter.unusedVariables false
set_option linter.unusedSimpArgs false
set_option maxRecDepth 100000
def iRo (l : Tx8) (n j : Nat) : List (Nat × SV) := [(0, .s l), (3, .sl 5 0 n n), (10, .i (l.length : Nat)), (11, .i (j : Nat))]
def oRo (n : Nat) : List (Nat × SV) := [(3, .sl 5 0 n n)]
def LRo (l : Tx8) (n : Nat) (x z : W6) : LT := noL.add 0 (vLoop GE 31 (iRo l n 0) (BP x) (oRo n) (BP z))
theorem vaRo (l : Tx8) (n : Nat) (x z : W6) (K : SV → Mm → Prop) : (vf Tryz.prog E00 (LRo l n x z) 52 [.s l] GE K) = (bif inI (↑(List.length l) : Int) then bif ile ((↑(List.length l) : Int).tdiv (8 : Int)) ((↑(List.length l) : Int).tdiv (8 : Int)) && ile ((8 : Int) * (↑(List.length l) : Int).tdiv (8 : Int)) (140737488355328 : Int) then loopOf Tryz.prog 52 0 = loopOf Tryz.prog 52 0 ∧ SV.s l = SV.s l ∧ SV.sl 5 0 ((↑(List.length l) : Int).tdiv (8 : Int)).toNat ((↑(List.length l) : Int).tdiv (8 : Int)).toNat = SV.sl 5 0 n n ∧ SV.i (↑(List.length l) : Int) = SV.i (↑(List.length l) : Int) ∧ SV.i (0 : Int) = SV.i (↑(0 : Nat) : Int) ∧ g5E ((true = true ∧ Cont.a64 (List.replicate ((↑(List.length l) : Int).tdiv (8 : Int)).toNat (0 : BitVec 64)) = Cont.a64 x) ∧ K (SV.sl 5 0 n n) (BP z)) else False else False) := by kernel_rfl
theorem vrRo (l : Tx8) (n : Nat) (w x z : W6) (j : Nat) (p : Prop) : (frK 31 (iRo l n j) fun fr => vround Tryz.prog E00 noL 52 0 fr (BP w) (Kn GE 0 31 p (iRo l n (j + 1)) (BP x) (oRo n) (BP z))) = (bif ilt (↑j : Int) (↑(List.length l) : Int) then bif inI (↑j : Int) then bif inR ((↑j : Int).tdiv (8 : Int)) n then bif ((↑j : Int).tdiv (8 : Int)).toNat.blt (List.length w) then bif inR (↑j : Int) (List.length l) then bif inI ((↑j : Int).tmod (8 : Int) * (8 : Int)) then bif inR ((↑j : Int).tdiv (8 : Int)) n then bif ((↑j : Int).tdiv (8 : Int)).toNat.blt (List.length w) then bif inI ((↑j : Int) + (1 : Int)) then p ∧ SV.s l = SV.s l ∧ SV.sl 5 0 n n = SV.sl 5 0 n n ∧ SV.i (↑(List.length l) : Int) = SV.i (↑(List.length l) : Int) ∧ SV.i ((↑j : Int) + (1 : Int)) = SV.i (↑(j + (1 : Nat)) : Int) ∧ g5E ((true = true ∧ Cont.a64 (List.set w ((↑j : Int).tdiv (8 : Int)).toNat (List.getD w ((↑j : Int).tdiv (8 : Int)).toNat (0 : BitVec 64) ||| BitVec.setWidth (64 : Nat) (List.getD l j (0 : BitVec 8)) <<< ((↑j : Int).tmod (8 : Int) * (8 : Int)).toNat)) = Cont.a64 x) ∧ True) else False else False else False else False else False else False else False else False else (0 : Nat) = (0 : Nat) ∧ SV.sl 5 0 n n = SV.sl 5 0 n n ∧ g5E ((true = true ∧ Cont.a64 w = Cont.a64 z) ∧ True)) := by kernel_rfl
def rdM (l : Tx8) (n : Nat) : Nat → W6
 | 0 => List.replicate n 0
 | j + 1 => (rdM l n j).set (j / 8) ((rdM l n j).getD (j / 8) 0 ||| (l.getD j 0).setWidth 64 <<< (j % 8 * 8))
theorem rdM_len (l : Tx8) (n : Nat) : ∀ j, (rdM l n j).length = n
 | 0 => by simp [rdM]
 | j + 1 => by rw [rdM, List.length_set]; exact rdM_len l n j
theorem loopRo (l : Tx8) (n : Nat) (hl : l.length = 8 * n) (hn : n ≤ 100) : ∀ fr M K, vLoop GE 31 (iRo l n 0) (BP (List.replicate n 0)) (oRo n) (BP (rdM l n l.length)) fr M K → Wp Tryz.prog GE GE (loopOf Tryz.prog 52 0) fr M K := by
 refine loop_next e00_ok mixed (noL_ok _ _ _ _) (Nat.le_refl _) (by kernel_rfl) (iRo l n) (fun j => BP (rdM l n j)) (fun j => j ≤ l.length) (fun j => l.length - j) (fun j => j + 1) 0 (Nat.zero_le _) (fun j hj => of_eq (vrRo l n (rdM l n j) (rdM l n (j + 1)) (rdM l n l.length) j _) ?_)
 have hlen := rdM_len l n j
 have hnext : rdM l n (j + 1) = (rdM l n j).set (j / 8) ((rdM l n j).getD (j / 8) 0 ||| (l.getD j 0).setWidth 64 <<< (j % 8 * 8)) := rfl
 have hfin : j = l.length → rdM l n j = rdM l n l.length := fun e => by rw [e]
 rw [hnext, tdiv8, tmod8, tdiv8i, tmod8i]
 generalize rdM l n l.length = z at hfin
 generalize rdM l n j = x at hfin hlen
 cases hq : ilt (j : Int) (l.length : Int)
 ·have hj2 : j = l.length := by rw [ilt_eq] at hq; have := of_decide_eq_false hq; omega
  exact ⟨rfl, rfl, ⟨rfl, rfl⟩, ⟨rfl, rfl⟩, ⟨rfl, rfl⟩, ⟨rfl, rfl⟩, ⟨rfl, rfl⟩, ⟨rfl, congrArg Cont.a64 (hfin hj2)⟩, trivial⟩
 ·have hj2 : j < l.length := by rw [ilt_eq] at hq; have := of_decide_eq_true hq; omega
  have i1 : inR ((j / 8 : Nat) : Int) n = true := inR_iff.2 ⟨by omega, by omega⟩
  have i2 : Nat.blt (j / 8) x.length = true := blt_of (by omega)
  exact bif_of (inI_iff.2 (by omega)) (bif_of i1 (bif_of i2 (bif_of (inR_iff.2 ⟨by omega, by omega⟩) (bif_of (inI_iff.2 (by omega)) (bif_of i1 (bif_of i2 (bif_of (inI_iff.2 (by omega)) ⟨⟨by omega, by omega⟩, rfl, rfl, rfl, rfl, ⟨rfl, rfl⟩, ⟨rfl, rfl⟩, ⟨rfl, rfl⟩, ⟨rfl, rfl⟩, ⟨rfl, rfl⟩, ⟨rfl, rfl⟩, trivial⟩)))))))
def ME (a b c x : W6) : Mm := [⟨false, .a64 BEG⟩, ⟨false, .a64 PRI⟩, ⟨false, .a64 CON⟩, ⟨false, .a64 WHO⟩, ⟨false, .a64 ROM⟩, ⟨true, .a64 (w4 a)⟩, ⟨true, .a64 (w4 b)⟩, ⟨true, .a64 (w4 c)⟩, ⟨true, .a64 (List.replicate 8 0)⟩, ⟨true, .a64 x⟩]
def Est (L H : T4) : Env := ⟨GE, noT.add 114 (cSp L H), noC⟩
def iEo (a : W6) (i : Nat) : List (Nat × SV) := [(4, .ptr 6 0), (6, .ptr 8 0), (7, .ptr 9 0), (16, .a64 (w4 a)), (17, .i (i : Nat))]
def oEo : List (Nat × SV) := [(6, .ptr 8 0), (7, .ptr 9 0)]
def iEi (a b : W6) (i : Nat) (v c : B6) (j : Nat) : List (Nat × SV) := [(4, .ptr 6 0), (6, .ptr 8 0), (7, .ptr 9 0), (8, .i (i : Nat)), (9, .w64 v), (10, .w64 c), (16, .a64 (w4 a)), (17, .i (i : Nat)), (21, .a64 (w4 b)), (22, .i (j : Nat))]
def oEi (a : W6) (i : Nat) (c : B6) : List (Nat × SV) := [(4, .ptr 6 0), (6, .ptr 8 0), (7, .ptr 9 0), (8, .i (i : Nat)), (10, .w64 c), (16, .a64 (w4 a)), (17, .i (i : Nat))]
def LEi (a b c x z : W6) (i : Nat) (v d : B6) : LT := noL.add 2 (vLoop GE 49 (iEi a b i v 0 0) (ME a b c x) (oEi a i d) (ME a b c z))
def LEo (a b c x z : W6) : LT := noL.add 0 (vLoop GE 49 (iEo a 0) (ME a b c x) oEo (ME a b c z))
theorem vaEo (L H : T4) (a b c x z : W6) (K : SV → Mm → Prop) : (vf Tryz.prog (Est L H) (LEo a b c x z) 84 [.a64 (w4 a), .a64 (w4 b), .a64 (w4 c)] GE K) = (loopOf Tryz.prog 84 0 = loopOf Tryz.prog 84 0 ∧ SV.ptr ((0 : Nat) + (1 : Nat) + (1 : Nat) + (1 : Nat) + (1 : Nat) + (1 : Nat) + (1 : Nat)) (0 : Nat) = SV.ptr 6 0 ∧ SV.ptr ((0 : Nat) + (1 : Nat) + (1 : Nat) + (1 : Nat) + (1 : Nat) + (1 : Nat) + (1 : Nat) + (1 : Nat) + (1 : Nat)) (0 : Nat) = SV.ptr 8 0 ∧ SV.ptr ((0 : Nat) + (1 : Nat) + (1 : Nat) + (1 : Nat) + (1 : Nat) + (1 : Nat) + (1 : Nat) + (1 : Nat) + (1 : Nat) + (1 : Nat)) (0 : Nat) = SV.ptr 9 0 ∧ SV.a64 (w4 a) = SV.a64 (w4 a) ∧ SV.i (0 : Int) = SV.i (↑(0 : Nat) : Int) ∧ g5E ((true = true ∧ Cont.a64 (w4 a) = Cont.a64 (w4 a)) ∧ (true = true ∧ Cont.a64 (w4 b) = Cont.a64 (w4 b)) ∧ (true = true ∧ Cont.a64 (w4 c) = Cont.a64 (w4 c)) ∧ (true = true ∧ Cont.a64 (List.replicate 8 (0 : BitVec 64)) = Cont.a64 (List.replicate 8 (0 : BitVec 64))) ∧ (true = true ∧ Cont.a64 (List.take 0 (List.replicate 8 (0 : BitVec 64)) ++ List.take 8 (List.take 4 (List.drop 0 (w4 c))) ++ List.drop ((0 : Nat) + min (List.take 4 (List.drop 0 (w4 c))).length (8 : Nat)) (List.replicate 8 (0 : BitVec 64))) = Cont.a64 x) ∧ bif (List.length z).beq 8 then bif (List.length z).beq 8 && (List.length z).beq 8 then bif (List.length z).beq 8 && true then K (SV.a64 z) [{ rw := false, c := Cont.a64 BEG }, { rw := false, c := Cont.a64 PRI }, { rw := false, c := Cont.a64 CON }, { rw := false, c := Cont.a64 WHO }, { rw := false, c := Cont.a64 ROM }, { rw := true, c := Cont.a64 (w4 a) }, { rw := true, c := Cont.a64 (w4 b) }, { rw := true, c := Cont.a64 (w4 c) }, { rw := true, c := Cont.a64 z }, { rw := true, c := Cont.a64 z }] else False else False else False)) := by kernel_rfl
theorem vrEo (L H : T4) (a b c x u y w z : W6) (i k : Nat) (v d : B6) (p : Prop) : (frK 49 (iEo a i) fun fr => vround Tryz.prog (Est L H) (LEi a b c u y k v d) 84 0 fr (ME a b c x) (Kn GE 0 49 p (iEo a (i + 1)) (ME a b c w) oEo (ME a b c z))) = (bif ilt (↑i : Int) (4 : Int) then bif inR (↑i : Int) (4 : Nat) then loopOf Tryz.prog 84 2 = loopOf Tryz.prog 84 2 ∧ SV.ptr 6 0 = SV.ptr 6 0 ∧ SV.ptr 8 0 = SV.ptr 8 0 ∧ SV.ptr 9 0 = SV.ptr 9 0 ∧ SV.i (↑i : Int) = SV.i (↑k : Int) ∧ SV.w64 (List.getD (w4 a) i (0 : BitVec 64)) = SV.w64 v ∧ SV.w64 (BitVec.ofInt 64 0) = SV.w64 (0 : B6) ∧ SV.a64 (w4 a) = SV.a64 (w4 a) ∧ SV.i (↑i : Int) = SV.i (↑k : Int) ∧ SV.a64 (w4 b) = SV.a64 (w4 b) ∧ SV.i (0 : Int) = SV.i (↑(0 : Nat) : Int) ∧ g5E ((true = true ∧ Cont.a64 (w4 a) = Cont.a64 (w4 a)) ∧ (true = true ∧ Cont.a64 (w4 b) = Cont.a64 (w4 b)) ∧ (true = true ∧ Cont.a64 (w4 c) = Cont.a64 (w4 c)) ∧ (true = true ∧ Cont.a64 (List.replicate 8 (0 : BitVec 64)) = Cont.a64 (List.replicate 8 (0 : BitVec 64))) ∧ (true = true ∧ Cont.a64 x = Cont.a64 u) ∧ bif inI ((↑k : Int) + (4 : Int)) then bif inR ((↑k : Int) + (4 : Int)) (8 : Nat) then bif ((↑k : Int) + (4 : Int)).toNat.blt (List.length y) then bif inI ((↑k : Int) + (1 : Int)) then p ∧ SV.ptr 6 0 = SV.ptr 6 0 ∧ SV.ptr 8 0 = SV.ptr 8 0 ∧ SV.ptr 9 0 = SV.ptr 9 0 ∧ SV.a64 (w4 a) = SV.a64 (w4 a) ∧ SV.i ((↑k : Int) + (1 : Int)) = SV.i (↑(i + (1 : Nat)) : Int) ∧ g5E ((true = true ∧ Cont.a64 (w4 a) = Cont.a64 (w4 a)) ∧ (true = true ∧ Cont.a64 (w4 b) = Cont.a64 (w4 b)) ∧ (true = true ∧ Cont.a64 (w4 c) = Cont.a64 (w4 c)) ∧ (true = true ∧ Cont.a64 (List.replicate 8 (0 : BitVec 64)) = Cont.a64 (List.replicate 8 (0 : BitVec 64))) ∧ (true = true ∧ Cont.a64 (List.set y ((↑k : Int) + (4 : Int)).toNat d) = Cont.a64 w) ∧ True) else False else False else False else False) else False else (0 : Nat) = (0 : Nat) ∧ SV.ptr 8 0 = SV.ptr 8 0 ∧ SV.ptr 9 0 = SV.ptr 9 0 ∧ g5E ((true = true ∧ Cont.a64 (w4 a) = Cont.a64 (w4 a)) ∧ (true = true ∧ Cont.a64 (w4 b) = Cont.a64 (w4 b)) ∧ (true = true ∧ Cont.a64 (w4 c) = Cont.a64 (w4 c)) ∧ (true = true ∧ Cont.a64 (List.replicate 8 (0 : BitVec 64)) = Cont.a64 (List.replicate 8 (0 : BitVec 64))) ∧ (true = true ∧ Cont.a64 x = Cont.a64 z) ∧ True)) := by kernel_rfl
theorem vrEi (L H : T4) (a b c x y z : W6) (i j : Nat) (v d e f : B6) (p : Prop) : (frK 49 (iEi a b i v d j) fun fr => vround Tryz.prog (Est L H) noL 84 2 fr (ME a b c x) (Kn GE 2 49 p (iEi a b i v e (j + 1)) (ME a b c y) (oEi a i f) (ME a b c z))) = (bif ilt (↑j : Int) (4 : Int) then bif inR (↑j : Int) (4 : Nat) then bif inI ((↑i : Int) + (↑j : Int)) then bif inI ((↑i : Int) + (↑j : Int)) then bif inR ((↑i : Int) + (↑j : Int)) (8 : Nat) then bif ((↑i : Int) + (↑j : Int)).toNat.blt (List.length x) then bif inR ((↑i : Int) + (↑j : Int)) (8 : Nat) then bif ((↑i : Int) + (↑j : Int)).toNat.blt (List.length x) then bif inI ((↑j : Int) + (1 : Int)) then p ∧ SV.ptr 6 0 = SV.ptr 6 0 ∧ SV.ptr 8 0 = SV.ptr 8 0 ∧ SV.ptr 9 0 = SV.ptr 9 0 ∧ SV.i (↑i : Int) = SV.i (↑i : Int) ∧ SV.w64 v = SV.w64 v ∧ SV.w64 (H v (List.getD (w4 b) j (0 : BitVec 64)) (List.getD x ((↑i : Int) + (↑j : Int)).toNat (0 : BitVec 64)) d) = SV.w64 e ∧ SV.a64 (w4 a) = SV.a64 (w4 a) ∧ SV.i (↑i : Int) = SV.i (↑i : Int) ∧ SV.a64 (w4 b) = SV.a64 (w4 b) ∧ SV.i ((↑j : Int) + (1 : Int)) = SV.i (↑(j + (1 : Nat)) : Int) ∧ g5E ((true = true ∧ Cont.a64 (w4 a) = Cont.a64 (w4 a)) ∧ (true = true ∧ Cont.a64 (w4 b) = Cont.a64 (w4 b)) ∧ (true = true ∧ Cont.a64 (w4 c) = Cont.a64 (w4 c)) ∧ (true = true ∧ Cont.a64 (List.replicate 8 (0 : BitVec 64)) = Cont.a64 (List.replicate 8 (0 : BitVec 64))) ∧ (true = true ∧ Cont.a64 (List.set x ((↑i : Int) + (↑j : Int)).toNat (L v (List.getD (w4 b) j (0 : BitVec 64)) (List.getD x ((↑i : Int) + (↑j : Int)).toNat (0 : BitVec 64)) d)) = Cont.a64 y) ∧ True) else False else False else False else False else False else False else False else False else (2 : Nat) = (2 : Nat) ∧ SV.ptr 6 0 = SV.ptr 6 0 ∧ SV.ptr 8 0 = SV.ptr 8 0 ∧ SV.ptr 9 0 = SV.ptr 9 0 ∧ SV.i (↑i : Int) = SV.i (↑i : Int) ∧ SV.w64 d = SV.w64 f ∧ SV.a64 (w4 a) = SV.a64 (w4 a) ∧ SV.i (↑i : Int) = SV.i (↑i : Int) ∧ g5E ((true = true ∧ Cont.a64 (w4 a) = Cont.a64 (w4 a)) ∧ (true = true ∧ Cont.a64 (w4 b) = Cont.a64 (w4 b)) ∧ (true = true ∧ Cont.a64 (w4 c) = Cont.a64 (w4 c)) ∧ (true = true ∧ Cont.a64 (List.replicate 8 (0 : BitVec 64)) = Cont.a64 (List.replicate 8 (0 : BitVec 64))) ∧ (true = true ∧ Cont.a64 x = Cont.a64 z) ∧ True)) := by kernel_rfl
def pdI (L H : T4) (b : W6) (i : Nat) (v : B6) (x : W6) : Nat → W6 × B6
 | 0 => (x, 0)
 | j + 1 => ((pdI L H b i v x j).1.set (i + j) (L v (b.getD j 0) ((pdI L H b i v x j).1.getD (i + j) 0) (pdI L H b i v x j).2), H v (b.getD j 0) ((pdI L H b i v x j).1.getD (i + j) 0) (pdI L H b i v x j).2)
def pdO (L H : T4) (a b : W6) (x : W6) : Nat → W6
 | 0 => x
 | i + 1 => (pdI L H b i (a.getD i 0) (pdO L H a b x i) 4).1.set (i + 4) (pdI L H b i (a.getD i 0) (pdO L H a b x i) 4).2
theorem pdI_len (L H : T4) (b : W6) (i : Nat) (v : B6) (x : W6) (hx : x.length = 8) : ∀ j, (pdI L H b i v x j).1.length = 8
 | 0 => hx
 | j + 1 => by rw [pdI, List.length_set]; exact pdI_len L H b i v x hx j
theorem pdO_len (L H : T4) (a b x : W6) (hx : x.length = 8) : ∀ i, (pdO L H a b x i).length = 8
 | 0 => hx
 | i + 1 => by rw [pdO, List.length_set]; exact pdI_len L H b i _ _ (pdO_len L H a b x hx i) 4
theorem loopEi (L H : T4) (hE : EnvOk Tryz.prog (Est L H)) (a b c x : W6) (i : Nat) (v : B6) (hi : i < 4) (hx : x.length = 8) : ∀ fr M K, vLoop GE 49 (iEi a b i v 0 0) (ME a b c x) (oEi a i (pdI L H (w4 b) i v x 4).2) (ME a b c (pdI L H (w4 b) i v x 4).1) fr M K → Wp Tryz.prog GE GE (loopOf Tryz.prog 84 2) fr M K := by
 refine loop_next hE mixed (noL_ok _ _ _ _) (Nat.le_refl _) (by kernel_rfl) (fun j => iEi a b i v (pdI L H (w4 b) i v x j).2 j) (fun j => ME a b c (pdI L H (w4 b) i v x j).1) (fun j => j ≤ 4) (fun j => 4 - j) (fun j => j + 1) 0 (Nat.zero_le _) (fun j hj => of_eq (vrEi L H a b c (pdI L H (w4 b) i v x j).1 (pdI L H (w4 b) i v x (j + 1)).1 (pdI L H (w4 b) i v x 4).1 i j v (pdI L H (w4 b) i v x j).2 (pdI L H (w4 b) i v x (j + 1)).2 (pdI L H (w4 b) i v x 4).2 _) ?_)
 have hlen := pdI_len L H (w4 b) i v x hx j
 have hnext : pdI L H (w4 b) i v x (j + 1) = ((pdI L H (w4 b) i v x j).1.set (i + j) (L v ((w4 b).getD j 0) ((pdI L H (w4 b) i v x j).1.getD (i + j) 0) (pdI L H (w4 b) i v x j).2), H v ((w4 b).getD j 0) ((pdI L H (w4 b) i v x j).1.getD (i + j) 0) (pdI L H (w4 b) i v x j).2) := rfl
 have hfin : j = 4 → pdI L H (w4 b) i v x j = pdI L H (w4 b) i v x 4 := fun e => by rw [e]
 rw [hnext, show ((i : Int) + (j : Int)).toNat = i + j by omega]
 generalize pdI L H (w4 b) i v x 4 = z at hfin
 generalize pdI L H (w4 b) i v x j = y at hfin hlen
 cases hq : ilt (j : Int) 4
 ·have hj2 : j = 4 := by rw [ilt_eq] at hq; have := of_decide_eq_false hq; omega
  exact ⟨rfl, rfl, rfl, rfl, rfl, congrArg (fun z : W6 × B6 => SV.w64 z.2) (hfin hj2), rfl, rfl, ⟨rfl, rfl⟩, ⟨rfl, rfl⟩, ⟨rfl, rfl⟩, ⟨rfl, rfl⟩, ⟨rfl, rfl⟩, ⟨rfl, rfl⟩, ⟨rfl, rfl⟩, ⟨rfl, rfl⟩, ⟨rfl, rfl⟩, ⟨rfl, congrArg (fun z : W6 × B6 => Cont.a64 z.1) (hfin hj2)⟩, trivial⟩
 ·have hj2 : j < 4 := by rw [ilt_eq] at hq; have := of_decide_eq_true hq; omega
  have i1 : inI ((i : Int) + (j : Int)) = true := inI_iff.2 (by omega)
  have i2 : inR ((i : Int) + (j : Int)) 8 = true := inR_iff.2 ⟨by omega, by omega⟩
  have i3 : Nat.blt (i + j) y.1.length = true := blt_of (by omega)
  exact bif_of (inR_iff.2 ⟨by omega, by omega⟩) (bif_of i1 (bif_of i1 (bif_of i2 (bif_of i3 (bif_of i2 (bif_of i3 (bif_of (inI_iff.2 (by omega)) ⟨⟨by omega, by omega⟩, rfl, rfl, rfl, rfl, rfl, rfl, rfl, rfl, rfl, rfl, ⟨rfl, rfl⟩, ⟨rfl, rfl⟩, ⟨rfl, rfl⟩, ⟨rfl, rfl⟩, ⟨rfl, rfl⟩, ⟨rfl, rfl⟩, ⟨rfl, rfl⟩, ⟨rfl, rfl⟩, ⟨rfl, rfl⟩, ⟨rfl, rfl⟩, trivial⟩)))))))
theorem loopEo (L H : T4) (hE : EnvOk Tryz.prog (Est L H)) (a b c x : W6) (hx : x.length = 8) : ∀ fr M K, vLoop GE 49 (iEo a 0) (ME a b c x) oEo (ME a b c (pdO L H (w4 a) (w4 b) x 4)) fr M K → Wp Tryz.prog GE GE (loopOf Tryz.prog 84 0) fr M K := by
 refine loop_nextL hE mixed (Nat.le_refl _) (by kernel_rfl) (L := fun i => LEi a b c (pdO L H (w4 a) (w4 b) x i) (pdI L H (w4 b) (min i 3) ((w4 a).getD (min i 3) 0) (pdO L H (w4 a) (w4 b) x i) 4).1 (min i 3) ((w4 a).getD (min i 3) 0) (pdI L H (w4 b) (min i 3) ((w4 a).getD (min i 3) 0) (pdO L H (w4 a) (w4 b) x i) 4).2) (fun i => LT.add_ok (noL_ok _ _ _ _) (loopEi L H hE a b c _ (min i 3) _ (by omega) (pdO_len L H _ _ x hx i))) (iEo a) (fun i => ME a b c (pdO L H (w4 a) (w4 b) x i)) (fun i => i ≤ 4) (fun i => 4 - i) (fun i => i + 1) 0 (Nat.zero_le _) (fun i hi => ?_)
 refine of_eq (vrEo L H a b c (pdO L H (w4 a) (w4 b) x i) (pdO L H (w4 a) (w4 b) x i) (pdI L H (w4 b) (min i 3) ((w4 a).getD (min i 3) 0) (pdO L H (w4 a) (w4 b) x i) 4).1 (pdO L H (w4 a) (w4 b) x (i + 1)) (pdO L H (w4 a) (w4 b) x 4) i (min i 3) ((w4 a).getD (min i 3) 0) (pdI L H (w4 b) (min i 3) ((w4 a).getD (min i 3) 0) (pdO L H (w4 a) (w4 b) x i) 4).2 _) ?_
 have hlen := pdI_len L H (w4 b) (min i 3) ((w4 a).getD (min i 3) 0) _ (pdO_len L H (w4 a) (w4 b) x hx i) 4
 cases hq : ilt (i : Int) 4
 ·have hi2 : i = 4 := by rw [ilt_eq] at hq; have := of_decide_eq_false hq; omega
  exact ⟨rfl, rfl, rfl, ⟨rfl, rfl⟩, ⟨rfl, rfl⟩, ⟨rfl, rfl⟩, ⟨rfl, rfl⟩, ⟨rfl, rfl⟩, ⟨rfl, rfl⟩, ⟨rfl, rfl⟩, ⟨rfl, rfl⟩, ⟨rfl, rfl⟩, ⟨rfl, by rw [hi2]⟩, trivial⟩
 ·have hi2 : i < 4 := by rw [ilt_eq] at hq; have := of_decide_eq_true hq; omega
  have em : min i 3 = i := by omega
  have hnext : pdO L H (w4 a) (w4 b) x (i + 1) = (pdI L H (w4 b) i ((w4 a).getD i 0) (pdO L H (w4 a) (w4 b) x i) 4).1.set (i + 4) (pdI L H (w4 b) i ((w4 a).getD i 0) (pdO L H (w4 a) (w4 b) x i) 4).2 := rfl
  rw [em] at hlen ⊢
  rw [hnext, show ((i : Int) + 4).toNat = i + 4 by omega]
  generalize pdI L H (w4 b) i ((w4 a).getD i 0) (pdO L H (w4 a) (w4 b) x i) 4 = y at hlen
  exact bif_of (inR_iff.2 ⟨by omega, by omega⟩) ⟨rfl, rfl, rfl, rfl, rfl, rfl, rfl, rfl, rfl, rfl, rfl, ⟨rfl, rfl⟩, ⟨rfl, rfl⟩, ⟨rfl, rfl⟩, ⟨rfl, rfl⟩, ⟨rfl, rfl⟩, ⟨rfl, rfl⟩, ⟨rfl, rfl⟩, ⟨rfl, rfl⟩, ⟨rfl, rfl⟩, ⟨rfl, rfl⟩, bif_of (inI_iff.2 (by omega)) (bif_of (inR_iff.2 ⟨by omega, by omega⟩) (bif_of (blt_of (by omega)) (bif_of (inI_iff.2 (by omega)) ⟨⟨by omega, by omega⟩, rfl, rfl, rfl, rfl, rfl, ⟨rfl, rfl⟩, ⟨rfl, rfl⟩, ⟨rfl, rfl⟩, ⟨rfl, rfl⟩, ⟨rfl, rfl⟩, ⟨rfl, rfl⟩, ⟨rfl, rfl⟩, ⟨rfl, rfl⟩, ⟨rfl, rfl⟩, ⟨rfl, rfl⟩, trivial⟩)))⟩
end Go.Proofs.YtdfghknonbmadaaGreatDoor
