/-
  order: what its functions answer. No statement is proved here.
-/
import Derived.Test.YtdfghknonbmadaaGreatDoorOrA
namespace Go.Proofs.YtdfghknonbmadaaGreatDoor
open Go.RowKit
set_option linter.unusedVariables false
set_option linter.unusedSimpArgs false
set_option maxRecDepth 100000
def w8 (l : W6) : W6 := [l.getD 0 0, l.getD 1 0, l.getD 2 0, l.getD 3 0, l.getD 4 0, l.getD 5 0, l.getD 6 0, l.getD 7 0]
theorem w8_len {l : W6} (h : l.length = 8) : w8 l = l := by
 match l, h with
 | [a, b, c, d, e, f, g, i], _ => rfl
def cRo (R : Tx8 → Nat → W6) : List SV → Mm → (SV → Mm → Prop) → Prop
 | [.s l], M, K => bif Nat.beq l.length 32 then snocK M ⟨true, .a64 (w4 (R l 4))⟩ fun M1 => K (.sl M.length 0 4 4) M1 else bif Nat.beq l.length 64 then snocK M ⟨true, .a64 (w8 (R l 8))⟩ fun M1 => K (.sl M.length 0 8 8) M1 else False
 | _, _, _ => False
def roX (l : Tx8) (n : Nat) : W6 := rdM l n l.length
theorem readO_spec (l : Tx8) (n : Nat) (hl : l.length = 8 * n) (hn : n ≤ 100) {M : Mm} {K : SV → Mm → Prop} (h : K (.sl M.length 0 n n) (M ++ [⟨true, .a64 (roX l n)⟩])) : Spec Tryz.prog GE 52 [.s l] M K := by
 refine eff_of (R := []) (args0 := [.s l]) (K0 := fun r M => r = .sl 5 0 n n ∧ M = BP (roX l n)) [] (vf_ok (M := GE) e00_ok mixed (LT.add_ok (noL_ok _ _ _ _) (loopRo l n hl hn)) (of_eq (vaRo l n (List.replicate n 0) (rdM l n l.length) _) ?_)) rfl rfl (by simp) trivial ?_
 ·have e : (l.length : Int).tdiv 8 = (n : Int) := by rw [tdiv8i]; omega
  rw [e, Int.toNat_natCast]
  refine bif_of (inI_iff.2 (by omega)) (bif_of ?_ ⟨rfl, rfl, rfl, rfl, rfl, ⟨rfl, rfl⟩, ⟨rfl, rfl⟩, ⟨rfl, rfl⟩, ⟨rfl, rfl⟩, ⟨rfl, rfl⟩, ⟨rfl, rfl⟩, rfl, rfl⟩)
  rw [Bool.and_eq_true, ile_eq, ile_eq]
  exact ⟨decide_eq_true (by omega), decide_eq_true (by omega)⟩
 ·rintro r1 M1 ⟨rfl, rfl⟩
  exact h
theorem readO_ok : COk Tryz.prog GE 52 (cRo roX) := by
 intro args M K h
 unfold cRo at h
 split at h
 ·rename_i l
  cases h1 : Nat.beq l.length 32 <;> rw [h1] at h
  ·cases h2 : Nat.beq l.length 64 <;> rw [h2] at h
   ·exact h.elim
   ·have h2 := Nat.eq_of_beq_eq_true h2
    simp only [cond_true, cond_false, snocK_eq] at h
    rw [show w8 (roX l 8) = roX l 8 from w8_len (rdM_len l 8 _)] at h
    exact readO_spec l 8 (by omega) (by omega) h
  ·have h1 := Nat.eq_of_beq_eq_true h1
   simp only [cond_true, snocK_eq] at h
   rw [show w4 (roX l 4) = roX l 4 from w4_len (rdM_len l 4 _)] at h
   exact readO_spec l 4 (by omega) (by omega) h
 ·exact h.elim
def LWo (w : W6) (x : Tx8) : LT := noL.add 0 (vLoop GE 22 (iW 0) (MW w Z32) oW (MW w x))
theorem vaWo (w : W6) (x : Tx8) (K : SV → Mm → Prop) : (vf Tryz.prog E00 (LWo w x) 86 [.a64 (w4 w)] GE K) = (loopOf Tryz.prog 86 0 = loopOf Tryz.prog 86 0 ∧ SV.ptr 5 0 = SV.ptr 5 0 ∧ SV.ptr ((0 : Nat) + (1 : Nat) + (1 : Nat) + (1 : Nat) + (1 : Nat) + (1 : Nat) + (1 : Nat)) (0 : Nat) = SV.ptr 6 0 ∧ SV.i (0 : Int) = SV.i (↑(0 : Nat) : Int) ∧ g5E ((true = true ∧ Cont.a64 (w4 w) = Cont.a64 (w4 w)) ∧ (true = true ∧ Cont.a8 (List.replicate 32 (0 : BitVec 8)) = Cont.a8 Z32) ∧ bif decide ((32 : Nat) ≤ List.length x) then K (SV.s (List.take 32 (List.drop 0 x))) (MW w x) else False)) := by kernel_rfl
theorem vrWo (w : W6) (s x z : Tx8) (j : Nat) (p : Prop) : (frK 22 (iW j) fun fr => vround Tryz.prog E00 noL 86 0 fr (MW w s) (Kn GE 0 22 p (iW (j + 1)) (MW w x) oW (MW w z))) = (bif ilt (↑j : Int) (32 : Int) then bif inI (↑j : Int) then bif inR ((↑j : Int).tdiv (8 : Int)) (4 : Nat) then bif ((↑j : Int).tdiv (8 : Int)).toNat.blt (List.length (w4 w)) then bif inI ((↑j : Int).tmod (8 : Int) * (8 : Int)) then bif inR (↑j : Int) (32 : Nat) then bif j.blt (List.length s) then bif inI ((↑j : Int) + (1 : Int)) then p ∧ SV.ptr 5 0 = SV.ptr 5 0 ∧ SV.ptr 6 0 = SV.ptr 6 0 ∧ SV.i ((↑j : Int) + (1 : Int)) = SV.i (↑(j + (1 : Nat)) : Int) ∧ g5E ((true = true ∧ Cont.a64 (w4 w) = Cont.a64 (w4 w)) ∧ (true = true ∧ Cont.a8 (List.set s j (BitVec.setWidth (8 : Nat) (List.getD (w4 w) ((↑j : Int).tdiv (8 : Int)).toNat (0 : BitVec 64) >>> ((↑j : Int).tmod (8 : Int) * (8 : Int)).toNat))) = Cont.a8 x) ∧ True) else False else False else False else False else False else False else False else (0 : Nat) = (0 : Nat) ∧ SV.ptr 5 0 = SV.ptr 5 0 ∧ SV.ptr 6 0 = SV.ptr 6 0 ∧ g5E ((true = true ∧ Cont.a64 (w4 w) = Cont.a64 (w4 w)) ∧ (true = true ∧ Cont.a8 s = Cont.a8 z) ∧ True)) := by kernel_rfl
theorem loopWo (w : W6) : ∀ fr M K, vLoop GE 22 (iW 0) (MW w Z32) oW (MW w (wrN (w4 w) 32)) fr M K → Wp Tryz.prog GE GE (loopOf Tryz.prog 86 0) fr M K := by
 refine loop_next e00_ok mixed (noL_ok _ _ _ _) (Nat.le_refl _) (by kernel_rfl) iW (fun j => MW w (wrN (w4 w) j)) (fun j => j ≤ 32) (fun j => 32 - j) (fun j => j + 1) 0 (Nat.zero_le _) (fun j hj => of_eq (vrWo w (wrN (w4 w) j) (wrN (w4 w) (j + 1)) (wrN (w4 w) 32) j _) ?_)
 have hlen := wrN_len (w4 w) j
 have hnext : wrN (w4 w) (j + 1) = (wrN (w4 w) j).set j (((w4 w).getD (j / 8) 0 >>> (j % 8 * 8)).setWidth 8) := rfl
 have hfin : j = 32 → wrN (w4 w) j = wrN (w4 w) 32 := fun e => by rw [e]
 rw [hnext, tdiv8, tmod8, tdiv8i, tmod8i]
 generalize wrN (w4 w) 32 = z at hfin
 generalize wrN (w4 w) j = x at hfin hlen
 have h4 : (w4 w).length = 4 := rfl
 generalize w4 w = u at h4
 cases hq : ilt (j : Int) 32
 ·have hj2 : j = 32 := by rw [ilt_eq] at hq; have := of_decide_eq_false hq; omega
  exact ⟨rfl, rfl, rfl, ⟨rfl, rfl⟩, ⟨rfl, rfl⟩, ⟨rfl, rfl⟩, ⟨rfl, rfl⟩, ⟨rfl, rfl⟩, ⟨rfl, rfl⟩, ⟨rfl, congrArg Cont.a8 (hfin hj2)⟩, trivial⟩
 ·have hj2 : j < 32 := by rw [ilt_eq] at hq; have := of_decide_eq_true hq; omega
  have i1 : inR ((j / 8 : Nat) : Int) 4 = true := inR_iff.2 ⟨by omega, by omega⟩
  have i2 : Nat.blt (j / 8) u.length = true := blt_of (by omega)
  exact bif_of (inI_iff.2 (by omega)) (bif_of i1 (bif_of i2 (bif_of (inI_iff.2 (by omega)) (bif_of (inR_iff.2 ⟨by omega, by omega⟩) (bif_of (blt_of (by omega)) (bif_of (inI_iff.2 (by omega)) ⟨⟨by omega, by omega⟩, rfl, rfl, rfl, ⟨rfl, rfl⟩, ⟨rfl, rfl⟩, ⟨rfl, rfl⟩, ⟨rfl, rfl⟩, ⟨rfl, rfl⟩, ⟨rfl, rfl⟩, ⟨rfl, rfl⟩, trivial⟩))))))
theorem writeO_ok : POk Tryz.prog GE 86 (cWr wrX) := by
 intro args acs r hh β M w hR hw ha
 unfold cWr at hh
 split at hh
 ·rename_i a b c d
  simp only [Option.some.injEq, Prod.mk.injEq, true_and] at hh
  subst hh
  refine pure0 (vf_ok e00_ok mixed (LT.add_ok (noL_ok _ _ _ _) (loopWo [a, b, c, d])) (of_eq (vaWo [a, b, c, d] (wrN [a, b, c, d] 32) _) ?_)) rfl rfl hR
  rw [wrX]
  have hlen := wrN_len [a, b, c, d] 32
  generalize wrN [a, b, c, d] 32 = z at hlen ⊢
  exact ⟨rfl, rfl, rfl, rfl, ⟨rfl, rfl⟩, ⟨rfl, rfl⟩, ⟨rfl, rfl⟩, ⟨rfl, rfl⟩, ⟨rfl, rfl⟩, ⟨rfl, rfl⟩, ⟨rfl, rfl⟩, bif_of (decide_eq_true (by omega)) (by rw [List.drop_zero, List.take_of_length_le (by omega)])⟩
 ·cases hh
def cP8 (F : W6 → W6 → W6 → W6) : List SV → List Cont → Option (Bool × SV)
 | [.a64 [a, b, c, d], .a64 [e, f, g, h], .a64 [i, j, k, l]], _ => some (true, .a64 (w8 (F [a, b, c, d] [e, f, g, h] [i, j, k, l])))
 | _, _ => none
def pdF (L H : T4) (a b c : W6) : W6 := pdO L H a b (c ++ List.replicate 4 0) 4
theorem est_ok : EnvOk Tryz.prog (Est stLX stHX) := ⟨PT.add_ok (noT_ok _ _) stepO_ok, noC_ok _ _⟩
theorem prod_gen (L H : T4) (hE : EnvOk Tryz.prog (Est L H)) : POk Tryz.prog GE 84 (cP8 (pdF L H)) := by
 intro args acs r hh β M w hR hw ha
 unfold cP8 at hh
 split at hh
 ·rename_i a b c d e f g h i j k l
  simp only [Option.some.injEq, Prod.mk.injEq, true_and] at hh
  subst hh
  have hlen : (pdF L H [a, b, c, d] [e, f, g, h] [i, j, k, l]).length = 8 := pdO_len L H _ _ _ rfl 4
  rw [w8_len hlen]
  refine pure0 (vf_ok hE mixed (LT.add_ok (noL_ok _ _ _ _) (loopEo L H hE [a, b, c, d] [e, f, g, h] [i, j, k, l] ([i, j, k, l] ++ List.replicate 4 0) rfl)) (of_eq (vaEo L H [a, b, c, d] [e, f, g, h] [i, j, k, l] ([i, j, k, l] ++ List.replicate 4 0) (pdF L H [a, b, c, d] [e, f, g, h] [i, j, k, l]) _) ?_)) rfl rfl hR
  generalize pdF L H [a, b, c, d] [e, f, g, h] [i, j, k, l] = z at hlen ⊢
  have hb : Nat.beq z.length 8 = true := by rw [hlen]; rfl
  exact ⟨rfl, rfl, rfl, rfl, rfl, rfl, ⟨rfl, rfl⟩, ⟨rfl, rfl⟩, ⟨rfl, rfl⟩, ⟨rfl, rfl⟩, ⟨rfl, rfl⟩, ⟨rfl, rfl⟩, ⟨rfl, rfl⟩, ⟨rfl, rfl⟩, ⟨rfl, rfl⟩, ⟨rfl, rfl⟩, bif_of hb (bif_of (by rw [hb]; rfl) (bif_of (by rw [hb]; rfl) rfl))⟩
 ·cases hh
abbrev pdX : W6 → W6 → W6 → W6 := pdF stLX stHX
theorem prod_ok : POk Tryz.prog GE 84 (cP8 pdX) := prod_gen stLX stHX est_ok
def EO2 (R : Tx8 → Nat → W6) (D : W6 → W6) (W : W6 → Tx8) (P : W6 → W6 → W6 → W6) (B : W6 → Bool) : Env := ⟨GE, (((noT.add 85 (cMd D)).add 86 (cWr W)).add 84 (cP8 P)).add 53 (cOd B), noC.add 52 (cRo R)⟩
theorem eo2_ok : EnvOk Tryz.prog (EO2 roX mdX wrX pdX (blO sbC)) := ⟨PT.add_ok (PT.add_ok (PT.add_ok (PT.add_ok (noT_ok _ _) modulo_ok) writeO_ok) prod_ok) belowO_ok, CT.add_ok (noC_ok _ _) readO_ok⟩
def ofF (R : Tx8 → Nat → W6) (D : W6 → W6) (l : Tx8) : W6 := bif Nat.beq l.length 32 then D (w4 (R l 4)) else D (w8 (R l 8))
theorem vaOo (R : Tx8 → Nat → W6) (D : W6 → W6) (W : W6 → Tx8) (P : W6 → W6 → W6 → W6) (B : W6 → Bool) (l : Tx8) (K : SV → Mm → Prop) : (vf Tryz.prog (EO2 R D W P B) noL 60 [.s l] GE K) = (bif ((↑(List.length l) : Int) != (32 : Int)) == true then bif ((↑(List.length l) : Int) != (32 : Int)) == true then bif ((↑(List.length l) : Int) != (32 : Int)) == true then bif bif (↑(List.length l) : Int) != (32 : Int) then (↑(List.length l) : Int) != (64 : Int) else false then K (SV.tup [SV.a64 (List.take 4 (List.drop 0 [(0 : BitVec 64), (0 : BitVec 64), (0 : BitVec 64), (0 : BitVec 64)])), SV.i (2 : Int)]) [{ rw := false, c := Cont.a64 BEG }, { rw := false, c := Cont.a64 PRI }, { rw := false, c := Cont.a64 CON }, { rw := false, c := Cont.a64 WHO }, { rw := false, c := Cont.a64 ROM }, { rw := true, c := Cont.a64 [(0 : BitVec 64), (0 : BitVec 64), (0 : BitVec 64), (0 : BitVec 64)] }] else bif (List.length l).beq 32 then K (SV.tup [SV.a64 (List.take 4 (List.drop 0 (w4 (D (w4 (R l (4 : Nat)))) ++ []))), SV.i (0 : Int)]) [{ rw := false, c := Cont.a64 BEG }, { rw := false, c := Cont.a64 PRI }, { rw := false, c := Cont.a64 CON }, { rw := false, c := Cont.a64 WHO }, { rw := false, c := Cont.a64 ROM }, { rw := true, c := Cont.a64 (w4 (D (w4 (R l (4 : Nat)))) ++ []) }, { rw := true, c := Cont.a64 (w4 (R l (4 : Nat))) }] else bif (List.length l).beq 64 then K (SV.tup [SV.a64 (List.take 4 (List.drop 0 (w4 (D (w8 (R l (8 : Nat)))) ++ []))), SV.i (0 : Int)]) [{ rw := false, c := Cont.a64 BEG }, { rw := false, c := Cont.a64 PRI }, { rw := false, c := Cont.a64 CON }, { rw := false, c := Cont.a64 WHO }, { rw := false, c := Cont.a64 ROM }, { rw := true, c := Cont.a64 (w4 (D (w8 (R l (8 : Nat)))) ++ []) }, { rw := true, c := Cont.a64 (w8 (R l (8 : Nat))) }] else False else bif !(↑(List.length l) : Int) != (32 : Int) then bif (List.length l).beq 32 then K (SV.tup [SV.a64 (List.take 4 (List.drop 0 (w4 (D (w4 (R l (4 : Nat)))) ++ []))), SV.i (0 : Int)]) [{ rw := false, c := Cont.a64 BEG }, { rw := false, c := Cont.a64 PRI }, { rw := false, c := Cont.a64 CON }, { rw := false, c := Cont.a64 WHO }, { rw := false, c := Cont.a64 ROM }, { rw := true, c := Cont.a64 (w4 (D (w4 (R l (4 : Nat)))) ++ []) }, { rw := true, c := Cont.a64 (w4 (R l (4 : Nat))) }] else bif (List.length l).beq 64 then K (SV.tup [SV.a64 (List.take 4 (List.drop 0 (w4 (D (w8 (R l (8 : Nat)))) ++ []))), SV.i (0 : Int)]) [{ rw := false, c := Cont.a64 BEG }, { rw := false, c := Cont.a64 PRI }, { rw := false, c := Cont.a64 CON }, { rw := false, c := Cont.a64 WHO }, { rw := false, c := Cont.a64 ROM }, { rw := true, c := Cont.a64 (w4 (D (w8 (R l (8 : Nat)))) ++ []) }, { rw := true, c := Cont.a64 (w8 (R l (8 : Nat))) }] else False else False else bif ((↑(List.length l) : Int) != (32 : Int)) == true then False else bif !(↑(List.length l) : Int) != (32 : Int) then bif (List.length l).beq 32 then K (SV.tup [SV.a64 (List.take 4 (List.drop 0 (w4 (D (w4 (R l (4 : Nat)))) ++ []))), SV.i (0 : Int)]) [{ rw := false, c := Cont.a64 BEG }, { rw := false, c := Cont.a64 PRI }, { rw := false, c := Cont.a64 CON }, { rw := false, c := Cont.a64 WHO }, { rw := false, c := Cont.a64 ROM }, { rw := true, c := Cont.a64 (w4 (D (w4 (R l (4 : Nat)))) ++ []) }, { rw := true, c := Cont.a64 (w4 (R l (4 : Nat))) }] else bif (List.length l).beq 64 then K (SV.tup [SV.a64 (List.take 4 (List.drop 0 (w4 (D (w8 (R l (8 : Nat)))) ++ []))), SV.i (0 : Int)]) [{ rw := false, c := Cont.a64 BEG }, { rw := false, c := Cont.a64 PRI }, { rw := false, c := Cont.a64 CON }, { rw := false, c := Cont.a64 WHO }, { rw := false, c := Cont.a64 ROM }, { rw := true, c := Cont.a64 (w4 (D (w8 (R l (8 : Nat)))) ++ []) }, { rw := true, c := Cont.a64 (w8 (R l (8 : Nat))) }] else False else False else bif ((↑(List.length l) : Int) != (32 : Int)) == true then False else bif ((↑(List.length l) : Int) != (32 : Int)) == true then False else bif !(↑(List.length l) : Int) != (32 : Int) then bif (List.length l).beq 32 then K (SV.tup [SV.a64 (List.take 4 (List.drop 0 (w4 (D (w4 (R l (4 : Nat)))) ++ []))), SV.i (0 : Int)]) [{ rw := false, c := Cont.a64 BEG }, { rw := false, c := Cont.a64 PRI }, { rw := false, c := Cont.a64 CON }, { rw := false, c := Cont.a64 WHO }, { rw := false, c := Cont.a64 ROM }, { rw := true, c := Cont.a64 (w4 (D (w4 (R l (4 : Nat)))) ++ []) }, { rw := true, c := Cont.a64 (w4 (R l (4 : Nat))) }] else bif (List.length l).beq 64 then K (SV.tup [SV.a64 (List.take 4 (List.drop 0 (w4 (D (w8 (R l (8 : Nat)))) ++ []))), SV.i (0 : Int)]) [{ rw := false, c := Cont.a64 BEG }, { rw := false, c := Cont.a64 PRI }, { rw := false, c := Cont.a64 CON }, { rw := false, c := Cont.a64 WHO }, { rw := false, c := Cont.a64 ROM }, { rw := true, c := Cont.a64 (w4 (D (w8 (R l (8 : Nat)))) ++ []) }, { rw := true, c := Cont.a64 (w8 (R l (8 : Nat))) }] else False else False) := by kernel_rfl
theorem vaCo (R : Tx8 → Nat → W6) (D : W6 → W6) (W : W6 → Tx8) (P : W6 → W6 → W6 → W6) (B : W6 → Bool) (l : Tx8) (K : SV → Mm → Prop) : (vf Tryz.prog (EO2 R D W P B) noL 24 [.s l] GE K) = (bif ((↑(List.length l) : Int) == (32 : Int)) == true then bif ((↑(List.length l) : Int) == (32 : Int)) == true then bif (List.length l).beq 32 then bif ((↑(List.length l) : Int) == (32 : Int)) == true then bif ((↑(List.length l) : Int) == (32 : Int)) == true then bif ((↑(List.length l) : Int) == (32 : Int)) == true then K (SV.b (bif (↑(List.length l) : Int) == (32 : Int) then B [List.getD (R l (4 : Nat)) (0 : Nat) (0 : BitVec 64), List.getD (R l (4 : Nat)) (1 : Nat) (0 : BitVec 64), List.getD (R l (4 : Nat)) (2 : Nat) (0 : BitVec 64), List.getD (R l (4 : Nat)) (3 : Nat) (0 : BitVec 64)] else false)) [{ rw := false, c := Cont.a64 BEG }, { rw := false, c := Cont.a64 PRI }, { rw := false, c := Cont.a64 CON }, { rw := false, c := Cont.a64 WHO }, { rw := false, c := Cont.a64 ROM }, { rw := true, c := Cont.a64 (w4 (R l (4 : Nat))) }] else bif !(↑(List.length l) : Int) == (32 : Int) then K (SV.b false) [{ rw := false, c := Cont.a64 BEG }, { rw := false, c := Cont.a64 PRI }, { rw := false, c := Cont.a64 CON }, { rw := false, c := Cont.a64 WHO }, { rw := false, c := Cont.a64 ROM }, { rw := true, c := Cont.a64 (w4 (R l (4 : Nat))) }] else False else bif ((↑(List.length l) : Int) == (32 : Int)) == true then False else bif !(↑(List.length l) : Int) == (32 : Int) then K (SV.b false) [{ rw := false, c := Cont.a64 BEG }, { rw := false, c := Cont.a64 PRI }, { rw := false, c := Cont.a64 CON }, { rw := false, c := Cont.a64 WHO }, { rw := false, c := Cont.a64 ROM }, { rw := true, c := Cont.a64 (w4 (R l (4 : Nat))) }] else False else bif ((↑(List.length l) : Int) == (32 : Int)) == true then False else bif ((↑(List.length l) : Int) == (32 : Int)) == true then False else bif !(↑(List.length l) : Int) == (32 : Int) then K (SV.b false) [{ rw := false, c := Cont.a64 BEG }, { rw := false, c := Cont.a64 PRI }, { rw := false, c := Cont.a64 CON }, { rw := false, c := Cont.a64 WHO }, { rw := false, c := Cont.a64 ROM }, { rw := true, c := Cont.a64 (w4 (R l (4 : Nat))) }] else False else bif (List.length l).beq 64 then bif ((↑(List.length l) : Int) == (32 : Int)) == true then bif ((↑(List.length l) : Int) == (32 : Int)) == true then False else bif ((↑(List.length l) : Int) == (32 : Int)) == true then False else bif !(↑(List.length l) : Int) == (32 : Int) then K (SV.b false) [{ rw := false, c := Cont.a64 BEG }, { rw := false, c := Cont.a64 PRI }, { rw := false, c := Cont.a64 CON }, { rw := false, c := Cont.a64 WHO }, { rw := false, c := Cont.a64 ROM }, { rw := true, c := Cont.a64 (w8 (R l (8 : Nat))) }] else False else bif ((↑(List.length l) : Int) == (32 : Int)) == true then False else bif ((↑(List.length l) : Int) == (32 : Int)) == true then False else bif !(↑(List.length l) : Int) == (32 : Int) then K (SV.b false) [{ rw := false, c := Cont.a64 BEG }, { rw := false, c := Cont.a64 PRI }, { rw := false, c := Cont.a64 CON }, { rw := false, c := Cont.a64 WHO }, { rw := false, c := Cont.a64 ROM }, { rw := true, c := Cont.a64 (w8 (R l (8 : Nat))) }] else False else False else bif ((↑(List.length l) : Int) == (32 : Int)) == true then False else bif ((↑(List.length l) : Int) == (32 : Int)) == true then False else bif ((↑(List.length l) : Int) == (32 : Int)) == true then False else bif !(↑(List.length l) : Int) == (32 : Int) then K (SV.b false) GE else False else bif ((↑(List.length l) : Int) == (32 : Int)) == true then False else bif ((↑(List.length l) : Int) == (32 : Int)) == true then False else bif ((↑(List.length l) : Int) == (32 : Int)) == true then False else bif ((↑(List.length l) : Int) == (32 : Int)) == true then False else bif !(↑(List.length l) : Int) == (32 : Int) then K (SV.b false) GE else False) := by kernel_rfl
def cKo (K : Tx8 → W6) : List SV → List Cont → Option (Bool × SV)
 | [.s l], _ => some (Nat.beq l.length 32 || Nat.beq l.length 64, .tup [.a64 (w4 (K l)), .i 0])
 | _, _ => none
theorem ofO_gen (R : Tx8 → Nat → W6) (D : W6 → W6) (W : W6 → Tx8) (P : W6 → W6 → W6 → W6) (B : W6 → Bool) (hE : EnvOk Tryz.prog (EO2 R D W P B)) : POk Tryz.prog GE 60 (cKo (ofF R D)) := by
 intro args acs r hh β M w hR hw ha
 unfold cKo at hh
 split at hh
 ·rename_i l
  simp only [Option.some.injEq, Prod.mk.injEq, Bool.or_eq_true] at hh
  obtain ⟨h1, rfl⟩ := hh
  refine pokE (E := EO2 R D W P B) rfl hE (vaOo R D W P B l fun r _ => r = .tup [.a64 (w4 (ofF R D l)), .i 0]) ?_ rfl rfl hR
  unfold ofF
  rcases h1 with h1 | h1
  ·have h2 := Nat.eq_of_beq_eq_true h1
   rw [h1, nb_of h2]
   rfl
  ·have h2 := Nat.eq_of_beq_eq_true h1
   have h3 : Nat.beq l.length 32 = false := beqF (by omega)
   have h4 : ((l.length : Int) != 32) = true := bne_iff_ne.2 (by omega)
   have h5 : ((l.length : Int) != 64) = false := by rw [h2]; rfl
   rw [h1, h3, h4, h5]
   rfl
 ·cases hh
abbrev ofX : Tx8 → W6 := ofF roX mdX
theorem ofO_ok : POk Tryz.prog GE 60 (cKo ofX) := ofO_gen roX mdX wrX pdX (blO sbC) eo2_ok
def caF (R : Tx8 → Nat → W6) (B : W6 → Bool) (l : Tx8) : Bool := Nat.beq l.length 32 && B (w4 (R l 4))
theorem canO_gen (R : Tx8 → Nat → W6) (D : W6 → W6) (W : W6 → Tx8) (P : W6 → W6 → W6 → W6) (B : W6 → Bool) (hE : EnvOk Tryz.prog (EO2 R D W P B)) : POk Tryz.prog GE 24 (cCa (caF R B)) := by
 intro args acs r hh β M w hR hw ha
 unfold cCa at hh
 split at hh
 ·rename_i l
  simp only [Option.some.injEq, Prod.mk.injEq, true_and] at hh
  subst hh
  refine pokE (E := EO2 R D W P B) rfl hE (vaCo R D W P B l fun r _ => r = .b (caF R B l)) ?_ rfl rfl hR
  unfold caF
  by_cases h2 : l.length = 32
  ·have h1 : Nat.beq l.length 32 = true := by rw [h2]; rfl
   have h4 : ((l.length : Int) == 32) = true := by rw [h2]; rfl
   rw [h1, h4]
   rfl
  ·have h3 : Nat.beq l.length 32 = false := beqF h2
   have h4 : ((l.length : Int) == 32) = false := beq_eq_false_iff_ne.2 (by omega)
   rw [h3, h4]
   rfl
 ·cases hh
abbrev caX : Tx8 → Bool := caF roX (blO sbC)
theorem canO_ok : POk Tryz.prog GE 24 (cCa caX) := canO_gen roX mdX wrX pdX (blO sbC) eo2_ok
theorem muladd_e (R : Tx8 → Nat → W6) (D : W6 → W6) (W : W6 → Tx8) (P : W6 → W6 → W6 → W6) (B : W6 → Bool) (a b c : W6) : vf Tryz.prog (EO2 R D W P B) noL 45 [.a64 (w4 a), .a64 (w4 b), .a64 (w4 c)] GE (fun r _ => r = .a64 (w4 (D (w8 (P (w4 a) (w4 b) (w4 c)))))) = (SV.a64 (w4 (D (w8 (P (w4 a) (w4 b) (w4 c))))) = SV.a64 (w4 (D (w8 (P (w4 a) (w4 b) (w4 c)))))) := by kernel_rfl
def cMA (F : W6 → W6 → W6 → W6) : List SV → List Cont → Option (Bool × SV)
 | [.a64 [a, b, c, d], .a64 [e, f, g, h], .a64 [i, j, k, l]], _ => some (true, .a64 (w4 (F [a, b, c, d] [e, f, g, h] [i, j, k, l])))
 | _, _ => none
def maF (D : W6 → W6) (P : W6 → W6 → W6 → W6) (a b c : W6) : W6 := D (w8 (P a b c))
theorem muladd_gen (R : Tx8 → Nat → W6) (D : W6 → W6) (W : W6 → Tx8) (P : W6 → W6 → W6 → W6) (B : W6 → Bool) (hE : EnvOk Tryz.prog (EO2 R D W P B)) : POk Tryz.prog GE 45 (cMA (maF D P)) := by
 intro args acs r hh β M w hR hw ha
 unfold cMA at hh
 split at hh
 ·rename_i a b c d e f g h i j k l
  simp only [Option.some.injEq, Prod.mk.injEq, true_and] at hh
  subst hh
  exact pokE (E := EO2 R D W P B) rfl hE (muladd_e R D W P B [a, b, c, d] [e, f, g, h] [i, j, k, l]) rfl rfl rfl hR
 ·cases hh
abbrev maX : W6 → W6 → W6 → W6 := maF mdX pdX
theorem muladd_ok : POk Tryz.prog GE 45 (cMA maX) := muladd_gen roX mdX wrX pdX (blO sbC) eo2_ok
theorem bytesO_e (R : Tx8 → Nat → W6) (D : W6 → W6) (W : W6 → Tx8) (P : W6 → W6 → W6 → W6) (B : W6 → Bool) (a b c d : B6) : vf Tryz.prog (EO2 R D W P B) noL 46 [.a64 [a, b, c, d]] GE (fun r _ => r = .s (W [a, b, c, d])) = (SV.s (W [a, b, c, d]) = SV.s (W [a, b, c, d])) := by kernel_rfl
theorem bytesO_ok : POk Tryz.prog GE 46 (cWr wrX) := by
 intro args acs r hh β M w hR hw ha
 unfold cWr at hh
 split at hh
 ·rename_i a b c d
  simp only [Option.some.injEq, Prod.mk.injEq, true_and] at hh
  subst hh
  exact pokE (E := EO2 roX mdX wrX pdX (blO sbC)) rfl eo2_ok (bytesO_e roX mdX wrX pdX (blO sbC) a b c d) rfl rfl rfl hR
 ·cases hh
end Go.Proofs.YtdfghknonbmadaaGreatDoor
