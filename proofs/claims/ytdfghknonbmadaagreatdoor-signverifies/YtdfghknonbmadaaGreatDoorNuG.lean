/-
  num: powers, inverses and roots, word by word. No statement is proved here.
-/
import Derived.Test.YtdfghknonbmadaaGreatDoorEwA
namespace Go.Proofs.YtdfghknonbmadaaGreatDoor
open Go.RowKit
set_option linter.unusedVariables false
set_option linter.unusedSimpArgs false
set_option maxRecDepth 100000
theorem pokE {E : Env} (hG : E.G = GE) (hE : EnvOk Tryz.prog E) {f : Nat} {args : List SV} {r : SV} {q : Prop} (h : vf Tryz.prog E noL f args GE (fun r' _ => r' = r) = q) (hq : q) (ha : SV.wf.wfs 0 args = true) (hr : r.wf 0 = true) {β : Nat → Nat} {M : Mm} {w : World} (hR : Rel GE β M w) : CallR Tryz.prog f (vals β args).toArray w (fun v w' => v = val β r ∧ Fp0 w w') := by
 have hS := vf_ok hE mixed (noL_ok _ _ _ _) (of_eq h hq)
 rw [hG] at hS
 exact pure0 hS ha hr hR
theorem pok1 {E : Env} (hG : E.G = GE) (hE : EnvOk Tryz.prog E) {f : Nat} {F : W6 → W6} (h : ∀ a : W6, vf Tryz.prog E noL f [.a64 (w4 a)] GE (fun r _ => r = .a64 (w4 (F (w4 a)))) = (SV.a64 (w4 (F (w4 a))) = SV.a64 (w4 (F (w4 a))))) : POk Tryz.prog GE f (ct1 F) := by
 intro args acs r hh β M w hR hw ha
 unfold ct1 at hh
 split at hh
 ·rename_i a b c d
  simp only [Option.some.injEq, Prod.mk.injEq, true_and] at hh
  subst hh
  exact pokE hG hE (h [a, b, c, d]) rfl rfl rfl hR
 ·cases hh
theorem ones_gen (J : W6 → W6 → Nat → W6) (hE : EnvOk Tryz.prog (EJ J)) : POk Tryz.prog GE 125 (ct1 (onW J)) := pok1 (E := EJ J) rfl hE (ones_e J)
theorem ones_ok : POk Tryz.prog GE 125 (ct1 (onW joX)) := ones_gen joX ej_ok
def EP (M : W6 → W6 → W6) (O : W6 → W6) (C : B6 → W6 → W6 → W6) (Z : BitVec 32 → W6) : Env := ⟨GE, (((noT.add 62 (ct2 M)).add 125 (ct1 O)).add 121 (cPk C)).add 94 (ctS Z), noC⟩
theorem ep_ok : EnvOk Tryz.prog (EP tmX (onW joX) pkW zX) := ⟨PT.add_ok (PT.add_ok (PT.add_ok (PT.add_ok (noT_ok _ _) mul_ok) ones_ok) choose_ok) smallE_ok, noC_ok _ _⟩
def B5 (l : W6) : Mm := [⟨false, .a64 BEG⟩, ⟨false, .a64 PRI⟩, ⟨false, .a64 CON⟩, ⟨false, .a64 WHO⟩, ⟨false, .a64 ROM⟩, ⟨false, .a64 l⟩]
def MP (l a r : W6) : Mm := [⟨false, .a64 BEG⟩, ⟨false, .a64 PRI⟩, ⟨false, .a64 CON⟩, ⟨false, .a64 WHO⟩, ⟨false, .a64 ROM⟩, ⟨false, .a64 l⟩, ⟨true, .a64 (w4 a)⟩, ⟨true, .a64 (List.replicate 4 0)⟩, ⟨true, .a64 (w4 r)⟩]
def iP (len cap j : Nat) : List (Nat × SV) := [(2, .ptr 6 0), (4, .ptr 7 0), (5, .ptr 8 0), (10, .sl 5 0 len cap), (11, .i (len : Nat)), (12, .i (j : Nat))]
def oP : List (Nat × SV) := [(2, .ptr 6 0), (4, .ptr 7 0), (5, .ptr 8 0)]
def LP (l a r x : W6) (len cap : Nat) : LT := noL.add 0 (vLoop (B5 l) 27 (iP len cap 0) (MP l a r) oP (MP l a x))
theorem vaP (M : W6 → W6 → W6) (O : W6 → W6) (C : B6 → W6 → W6 → W6) (Z : BitVec 32 → W6) (l a r x : W6) (len cap : Nat) (K : SV → Mm → Prop) : (vf Tryz.prog (EP M O C Z) (LP l a r x len cap) 111 [.a64 (w4 a), .sl 5 0 len cap] (B5 l) K) = (loopOf Tryz.prog 111 0 = loopOf Tryz.prog 111 0 ∧ SV.ptr (List.length (B5 l)) (0 : Nat) = SV.ptr 6 0 ∧ SV.ptr ((0 : Nat) + (1 : Nat) + (1 : Nat) + (1 : Nat) + (1 : Nat) + (1 : Nat) + (1 : Nat) + (1 : Nat)) (0 : Nat) = SV.ptr 7 0 ∧ SV.ptr ((0 : Nat) + (1 : Nat) + (1 : Nat) + (1 : Nat) + (1 : Nat) + (1 : Nat) + (1 : Nat) + (1 : Nat) + (1 : Nat)) (0 : Nat) = SV.ptr 8 0 ∧ SV.sl 5 0 len cap = SV.sl 5 0 len cap ∧ SV.i (↑len : Int) = SV.i (↑len : Int) ∧ SV.i (0 : Int) = SV.i (↑(0 : Nat) : Int) ∧ g5E ((false = false ∧ Cont.a64 l = Cont.a64 l) ∧ (true = true ∧ Cont.a64 (w4 a) = Cont.a64 (w4 a)) ∧ (true = true ∧ Cont.a64 (List.replicate 4 (0 : BitVec 64)) = Cont.a64 (List.replicate 4 (0 : BitVec 64))) ∧ (true = true ∧ Cont.a64 (w4 (O [List.getD a (0 : Nat) (0 : BitVec 64), List.getD a (1 : Nat) (0 : BitVec 64), List.getD a (2 : Nat) (0 : BitVec 64), List.getD a (3 : Nat) (0 : BitVec 64)])) = Cont.a64 (w4 r)) ∧ K (SV.a64 (List.take 4 (List.drop 0 (List.take 4 (List.drop 0 (w4 x)))))) [{ rw := false, c := Cont.a64 BEG }, { rw := false, c := Cont.a64 PRI }, { rw := false, c := Cont.a64 CON }, { rw := false, c := Cont.a64 WHO }, { rw := false, c := Cont.a64 ROM }, { rw := false, c := Cont.a64 l }, { rw := true, c := Cont.a64 (w4 a) }, { rw := true, c := Cont.a64 (List.take 4 (List.drop 0 (w4 x))) }, { rw := true, c := Cont.a64 (w4 x) }])) := by kernel_rfl
theorem vrP (M : W6 → W6 → W6) (O : W6 → W6) (C : B6 → W6 → W6 → W6) (Z : BitVec 32 → W6) (l a r x z : W6) (len cap j : Nat) (p : Prop) : (frK 27 (iP len cap j) fun fr => vround Tryz.prog (EP M O C Z) noL 111 0 fr (MP l a r) (Kn (B5 l) 0 27 p (iP len cap (j + 1)) (MP l a x) oP (MP l a z))) = (bif ilt (↑j : Int) (↑len : Int) then bif inR (↑j : Int) len then bif j.blt (List.length l) then bif inI ((↑j : Int) + (1 : Int)) then p ∧ SV.ptr 6 0 = SV.ptr 6 0 ∧ SV.ptr 7 0 = SV.ptr 7 0 ∧ SV.ptr 8 0 = SV.ptr 8 0 ∧ SV.sl 5 0 len cap = SV.sl 5 0 len cap ∧ SV.i (↑len : Int) = SV.i (↑len : Int) ∧ SV.i ((↑j : Int) + (1 : Int)) = SV.i (↑(j + (1 : Nat)) : Int) ∧ g5E ((false = false ∧ Cont.a64 l = Cont.a64 l) ∧ (true = true ∧ Cont.a64 (w4 a) = Cont.a64 (w4 a)) ∧ (true = true ∧ Cont.a64 (List.replicate 4 (0 : BitVec 64)) = Cont.a64 (List.replicate 4 (0 : BitVec 64))) ∧ (true = true ∧ Cont.a64 (w4 (M [List.getD (M [List.getD r (0 : Nat) (0 : BitVec 64), List.getD r (1 : Nat) (0 : BitVec 64), List.getD r (2 : Nat) (0 : BitVec 64), List.getD r (3 : Nat) (0 : BitVec 64)] [List.getD r (0 : Nat) (0 : BitVec 64), List.getD r (1 : Nat) (0 : BitVec 64), List.getD r (2 : Nat) (0 : BitVec 64), List.getD r (3 : Nat) (0 : BitVec 64)]) (0 : Nat) (0 : BitVec 64), List.getD (M [List.getD r (0 : Nat) (0 : BitVec 64), List.getD r (1 : Nat) (0 : BitVec 64), List.getD r (2 : Nat) (0 : BitVec 64), List.getD r (3 : Nat) (0 : BitVec 64)] [List.getD r (0 : Nat) (0 : BitVec 64), List.getD r (1 : Nat) (0 : BitVec 64), List.getD r (2 : Nat) (0 : BitVec 64), List.getD r (3 : Nat) (0 : BitVec 64)]) (1 : Nat) (0 : BitVec 64), List.getD (M [List.getD r (0 : Nat) (0 : BitVec 64), List.getD r (1 : Nat) (0 : BitVec 64), List.getD r (2 : Nat) (0 : BitVec 64), List.getD r (3 : Nat) (0 : BitVec 64)] [List.getD r (0 : Nat) (0 : BitVec 64), List.getD r (1 : Nat) (0 : BitVec 64), List.getD r (2 : Nat) (0 : BitVec 64), List.getD r (3 : Nat) (0 : BitVec 64)]) (2 : Nat) (0 : BitVec 64), List.getD (M [List.getD r (0 : Nat) (0 : BitVec 64), List.getD r (1 : Nat) (0 : BitVec 64), List.getD r (2 : Nat) (0 : BitVec 64), List.getD r (3 : Nat) (0 : BitVec 64)] [List.getD r (0 : Nat) (0 : BitVec 64), List.getD r (1 : Nat) (0 : BitVec 64), List.getD r (2 : Nat) (0 : BitVec 64), List.getD r (3 : Nat) (0 : BitVec 64)]) (3 : Nat) (0 : BitVec 64)] [List.getD (C (-List.getD l j (0 : BitVec 64)) [List.getD (Z (BitVec.ofInt 32 1)) (0 : Nat) (0 : BitVec 64), List.getD (Z (BitVec.ofInt 32 1)) (1 : Nat) (0 : BitVec 64), List.getD (Z (BitVec.ofInt 32 1)) (2 : Nat) (0 : BitVec 64), List.getD (Z (BitVec.ofInt 32 1)) (3 : Nat) (0 : BitVec 64)] [List.getD a (0 : Nat) (0 : BitVec 64), List.getD a (1 : Nat) (0 : BitVec 64), List.getD a (2 : Nat) (0 : BitVec 64), List.getD a (3 : Nat) (0 : BitVec 64)]) (0 : Nat) (0 : BitVec 64), List.getD (C (-List.getD l j (0 : BitVec 64)) [List.getD (Z (BitVec.ofInt 32 1)) (0 : Nat) (0 : BitVec 64), List.getD (Z (BitVec.ofInt 32 1)) (1 : Nat) (0 : BitVec 64), List.getD (Z (BitVec.ofInt 32 1)) (2 : Nat) (0 : BitVec 64), List.getD (Z (BitVec.ofInt 32 1)) (3 : Nat) (0 : BitVec 64)] [List.getD a (0 : Nat) (0 : BitVec 64), List.getD a (1 : Nat) (0 : BitVec 64), List.getD a (2 : Nat) (0 : BitVec 64), List.getD a (3 : Nat) (0 : BitVec 64)]) (1 : Nat) (0 : BitVec 64), List.getD (C (-List.getD l j (0 : BitVec 64)) [List.getD (Z (BitVec.ofInt 32 1)) (0 : Nat) (0 : BitVec 64), List.getD (Z (BitVec.ofInt 32 1)) (1 : Nat) (0 : BitVec 64), List.getD (Z (BitVec.ofInt 32 1)) (2 : Nat) (0 : BitVec 64), List.getD (Z (BitVec.ofInt 32 1)) (3 : Nat) (0 : BitVec 64)] [List.getD a (0 : Nat) (0 : BitVec 64), List.getD a (1 : Nat) (0 : BitVec 64), List.getD a (2 : Nat) (0 : BitVec 64), List.getD a (3 : Nat) (0 : BitVec 64)]) (2 : Nat) (0 : BitVec 64), List.getD (C (-List.getD l j (0 : BitVec 64)) [List.getD (Z (BitVec.ofInt 32 1)) (0 : Nat) (0 : BitVec 64), List.getD (Z (BitVec.ofInt 32 1)) (1 : Nat) (0 : BitVec 64), List.getD (Z (BitVec.ofInt 32 1)) (2 : Nat) (0 : BitVec 64), List.getD (Z (BitVec.ofInt 32 1)) (3 : Nat) (0 : BitVec 64)] [List.getD a (0 : Nat) (0 : BitVec 64), List.getD a (1 : Nat) (0 : BitVec 64), List.getD a (2 : Nat) (0 : BitVec 64), List.getD a (3 : Nat) (0 : BitVec 64)]) (3 : Nat) (0 : BitVec 64)])) = Cont.a64 (w4 x)) ∧ True) else False else False else False else (0 : Nat) = (0 : Nat) ∧ SV.ptr 6 0 = SV.ptr 6 0 ∧ SV.ptr 7 0 = SV.ptr 7 0 ∧ SV.ptr 8 0 = SV.ptr 8 0 ∧ g5E ((false = false ∧ Cont.a64 l = Cont.a64 l) ∧ (true = true ∧ Cont.a64 (w4 a) = Cont.a64 (w4 a)) ∧ (true = true ∧ Cont.a64 (List.replicate 4 (0 : BitVec 64)) = Cont.a64 (List.replicate 4 (0 : BitVec 64))) ∧ (true = true ∧ Cont.a64 (w4 r) = Cont.a64 (w4 z)) ∧ True)) := by kernel_rfl
def pwN (M : W6 → W6 → W6) (C : B6 → W6 → W6 → W6) (Z : BitVec 32 → W6) (l a r : W6) : Nat → W6
 | 0 => r
 | j + 1 => M (w4 (M (w4 (pwN M C Z l a r j)) (w4 (pwN M C Z l a r j)))) (w4 (C (-(l.getD j 0)) (w4 (Z 1)) (w4 a)))
theorem loopP (M : W6 → W6 → W6) (O : W6 → W6) (C : B6 → W6 → W6 → W6) (Z : BitVec 32 → W6) (hE : EnvOk Tryz.prog (EP M O C Z)) (l a r : W6) (len cap : Nat) (hl : len ≤ l.length) (hn : len ≤ 1000) : ∀ fr Mm K, vLoop (B5 l) 27 (iP len cap 0) (MP l a r) oP (MP l a (pwN M C Z l a r len)) fr Mm K → Wp Tryz.prog GE (B5 l) (loopOf Tryz.prog 111 0) fr Mm K := by
 refine loop_next hE mixed (noL_ok _ _ _ _) (by show 5 ≤ 6; omega) (by kernel_rfl) (iP len cap) (fun j => MP l a (pwN M C Z l a r j)) (fun j => j ≤ len) (fun j => len - j) (fun j => j + 1) 0 (Nat.zero_le _) (fun j hj => of_eq (vrP M O C Z l a (pwN M C Z l a r j) (pwN M C Z l a r (j + 1)) (pwN M C Z l a r len) len cap j _) ?_)
 have hnext : pwN M C Z l a r (j + 1) = M (w4 (M (w4 (pwN M C Z l a r j)) (w4 (pwN M C Z l a r j)))) (w4 (C (-(l.getD j 0)) (w4 (Z 1)) (w4 a))) := rfl
 have hfin : j = len → pwN M C Z l a r j = pwN M C Z l a r len := fun e => by rw [e]
 rw [hnext]
 generalize pwN M C Z l a r len = z at hfin
 generalize pwN M C Z l a r j = x at hfin
 cases hq : ilt (j : Int) (len : Int)
 ·have hj2 : j = len := by rw [ilt_eq] at hq; have := of_decide_eq_false hq; omega
  exact ⟨rfl, rfl, rfl, rfl, ⟨rfl, rfl⟩, ⟨rfl, rfl⟩, ⟨rfl, rfl⟩, ⟨rfl, rfl⟩, ⟨rfl, rfl⟩, ⟨rfl, rfl⟩, ⟨rfl, rfl⟩, ⟨rfl, rfl⟩, ⟨rfl, congrArg (fun x => Cont.a64 (w4 x)) (hfin hj2)⟩, trivial⟩
 ·have hj2 : j < len := by rw [ilt_eq] at hq; have := of_decide_eq_true hq; omega
  have i1 : inR (j : Int) len = true := inR_iff.2 ⟨by omega, by omega⟩
  have i2 : Nat.blt j l.length = true := by simpa [Nat.blt_eq] using (show j < l.length by omega)
  exact bif_of i1 (bif_of i2 (bif_of (inI_iff.2 (by omega)) ⟨⟨by omega, by omega⟩, rfl, rfl, rfl, rfl, rfl, rfl, ⟨rfl, rfl⟩, ⟨rfl, rfl⟩, ⟨rfl, rfl⟩, ⟨rfl, rfl⟩, ⟨rfl, rfl⟩, ⟨rfl, rfl⟩, ⟨rfl, rfl⟩, ⟨rfl, rfl⟩, ⟨rfl, rfl⟩, trivial⟩))
def cPw (P : W6 → W6 → W6) : List SV → List Cont → Option (Bool × SV)
 | [.a64 [a, b, c, d], .sl k off len cap], [_, .a64 l] => some (Nat.beq off 0 && (Nat.beq len l.length && Nat.ble len 1000), .a64 (w4 (P [a, b, c, d] l)))
 | _, _ => none
def pwW (M : W6 → W6 → W6) (O : W6 → W6) (C : B6 → W6 → W6 → W6) (Z : BitVec 32 → W6) (a l : W6) : W6 := pwN M C Z l a (O a) l.length
theorem power_gen (M : W6 → W6 → W6) (O : W6 → W6) (C : B6 → W6 → W6 → W6) (Z : BitVec 32 → W6) (hE : EnvOk Tryz.prog (EP M O C Z)) : POk Tryz.prog GE 111 (cPw (pwW M O C Z)) := by
 intro args acs r hh β M' w hR hw ha
 unfold cPw at hh
 split at hh
 ·rename_i a b c d k off len cap x l
  simp only [Option.some.injEq, Prod.mk.injEq, Bool.and_eq_true] at hh
  obtain ⟨⟨h1, h2, h3⟩, rfl⟩ := hh
  obtain rfl := Nat.eq_of_beq_eq_true h1
  obtain rfl := Nat.eq_of_beq_eq_true h2
  have h3 := Nat.le_of_ble_eq_true h3
  simp only [List.map_cons, List.map_nil, List.cons.injEq, and_true] at ha
  refine pure1 (args0 := [.a64 [a, b, c, d], .sl 5 0 l.length cap]) (c := .a64 l) (k := k) (vf_ok (M := B5 l) hE mixed (LT.add_ok (noL_ok _ _ _ _) (loopP M O C Z hE l [a, b, c, d] (O [a, b, c, d]) l.length cap (Nat.le_refl _) h3)) (of_eq (vaP M O C Z l [a, b, c, d] (O [a, b, c, d]) (pwW M O C Z [a, b, c, d] l) l.length cap _) ?_)) rfl rfl rfl rfl rfl (fun _ => rfl) hR (tgt_some ha.2.symm rfl)
  exact ⟨rfl, rfl, rfl, rfl, rfl, rfl, rfl, ⟨rfl, rfl⟩, ⟨rfl, rfl⟩, ⟨rfl, rfl⟩, ⟨rfl, rfl⟩, ⟨rfl, rfl⟩, ⟨rfl, rfl⟩, ⟨rfl, rfl⟩, ⟨rfl, rfl⟩, ⟨rfl, rfl⟩, rfl⟩
 ·cases hh
abbrev pwX : W6 → W6 → W6 := pwW tmX (onW joX) pkW zX
theorem power_ok : POk Tryz.prog GE 111 (cPw pwX) := power_gen tmX (onW joX) pkW zX ep_ok
def EI (P : W6 → W6 → W6) (M S : W6 → W6 → W6) (L : W6 → W6 → B6) (O : W6 → B6) (Q : Bool → B6) (C : B6 → W6 → W6 → W6) (R : W6 → W6 → B6) : Env := ⟨GE, (((((((noT.add 111 (cPw P)).add 62 (ct2 M)).add 95 (ct2 S)).add 100 (cAl L)).add 113 (cLo O)).add 123 (cMk Q)).add 121 (cPk C)).add 122 (cAl R), noC⟩
section
variable (P M S : W6 → W6 → W6) (L : W6 → W6 → B6) (O : W6 → B6) (Q : Bool → B6) (C : B6 → W6 → W6 → W6) (R : W6 → W6 → B6)
def i6 (n : Int) : B6 := BitVec.ofInt 64 n
def roR (P M S : W6 → W6 → W6) (O : W6 → B6) (Q : Bool → B6) (C : B6 → W6 → W6 → W6) (R : W6 → W6 → B6) (a : W6) (odd : Bool) : W6 :=
 let r := w4 (P a [i6 1, i6 0])
 let r := w4 (C (R r a) (w4 (M r ROM)) r)
 w4 (C (O r ^^^ Q odd) r (w4 (S [0, 0, 0, 0] r)))
def roI (P M S : W6 → W6 → W6) (O : W6 → B6) (Q : Bool → B6) (C : B6 → W6 → W6 → W6) (R : W6 → W6 → B6) (a : W6) (odd : Bool) : B6 := R (roR P M S O Q C R a odd) a &&& ~~~(O (roR P M S O Q C R a odd) ^^^ Q odd)
def roT (P M S : W6 → W6 → W6) (O : W6 → B6) (Q : Bool → B6) (C : B6 → W6 → W6 → W6) (R : W6 → W6 → B6) (a : W6) (odd : Bool) : SV := .tup [.a64 (w4 (C (roI P M S O Q C R a odd) [0, 0, 0, 0] (roR P M S O Q C R a odd))), .b (roI P M S O Q C R a odd != BitVec.ofInt 64 0)]
theorem root_e (a : W6) (odd : Bool) : vf Tryz.prog (EI P M S L O Q C R) noL 97 [.a64 (w4 a), .b odd] GE (fun x _ => x = roT P M S O Q C R (w4 a) odd) = (roT P M S O Q C R (w4 a) odd = roT P M S O Q C R (w4 a) odd) := by kernel_rfl
end
end Go.Proofs.YtdfghknonbmadaaGreatDoor
namespace Go.Proofs.YtdfghknonbmadaaGreatDoor
open Go.RowKit
set_option linter.unusedVariables false
set_option linter.unusedSimpArgs false
set_option maxRecDepth 100000
def el (p : W6) (i : Nat) : W6 := [p.getD (4 * i) 0, p.getD (4 * i + 1) 0, p.getD (4 * i + 2) 0, p.getD (4 * i + 3) 0]
def p16 (p : W6) : W6 := p4 (el p 0) (el p 1) (el p 2) (el p 3)
def cP1 (F : W6 → W6) : List SV → List Cont → Option (Bool × SV)
 | [.a64 p], _ => some (Nat.beq p.length 16, .a64 (p16 (F p)))
 | _, _ => none
def cP2 (F : W6 → W6 → W6) : List SV → List Cont → Option (Bool × SV)
 | [.a64 p, .a64 q], _ => some (Nat.beq p.length 16 && Nat.beq q.length 16, .a64 (p16 (F p q)))
 | _, _ => none
def cAt (F : W6 → W6 → W6) : List SV → List Cont → Option (Bool × SV)
 | [.a64 [a, b, c, d], .a64 [e, f, g, h]], _ => some (true, .a64 (p16 (F [a, b, c, d] [e, f, g, h])))
 | _, _ => none
def cJ (J : W6 → W6 → W6 → W6 → W6) : List SV → List Cont → Option (Bool × SV)
 | [.a64 [a, b, c, d], .a64 [e, f, g, h], .a64 [i, j, k, l], .a64 [m, n, o, p]], _ => some (true, .a64 (p16 (J [a, b, c, d] [e, f, g, h] [i, j, k, l] [m, n, o, p])))
 | _, _ => none
def E5 (A S M : W6 → W6 → W6) (E : W6 → W6 → Bool) (I : W6 → W6) (Z : BitVec 32 → W6) (K : List (BitVec 8) → W6) (J : W6 → W6 → W6 → W6 → W6) : Env := ⟨GE, (Ee A S M E I Z K).T.add 101 (cJ J), noC⟩
def curD : List (BitVec 8) := bts ⟨#[163, 120, 89, 19, 202, 77, 235, 117, 171, 216, 65, 65, 77, 10, 112, 0, 152, 232, 121, 119, 121, 64, 199, 140, 115, 254, 111, 43, 238, 108, 3, 82]⟩
section
variable (A S M : W6 → W6 → W6) (E : W6 → W6 → Bool) (I : W6 → W6) (Z : BitVec 32 → W6) (K : List (BitVec 8) → W6) (J : W6 → W6 → W6 → W6 → W6)
def rdW (A S M : W6 → W6 → W6) (K : List (BitVec 8) → W6) (x y z t : W6) : W6 := p4 (A (w4 y) (w4 x)) (S (w4 y) (w4 x)) (A (w4 z) (w4 z)) (M (w4 (A (w4 t) (w4 t))) (w4 (K curD)))
def dbW (A S M : W6 → W6 → W6) (J : W6 → W6 → W6 → W6 → W6) (x y z t : W6) : W6 :=
 let a := w4 (M (w4 x) (w4 x))
 let b := w4 (M (w4 y) (w4 y))
 let c := w4 (M (w4 z) (w4 z))
 let s := w4 (A (w4 x) (w4 y))
 let h := w4 (A a b)
 let g := w4 (S a b)
 p16 (J (w4 (S h (w4 (M s s)))) (w4 (A (w4 (A c c)) g)) g h)
def psW (A S M : W6 → W6 → W6) (J : W6 → W6 → W6 → W6 → W6) (x y z t m n o q : W6) : W6 :=
 let a := w4 (M (w4 (S (w4 y) (w4 x))) (w4 n))
 let b := w4 (M (w4 (A (w4 y) (w4 x))) (w4 m))
 let c := w4 (M (w4 t) (w4 q))
 let d := w4 (M (w4 z) (w4 o))
 p16 (J (w4 (S b a)) (w4 (S d c)) (w4 (A d c)) (w4 (A b a)))
theorem none_e (x y z t : W6) : vf Tryz.prog (E5 A S M E I Z K J) noL 61 [.a64 (p4 x y z t)] GE (fun r _ => r = .b (E (w4 z) (w4 (Z 0)))) = (SV.b (E (w4 z) (w4 (Z 0))) = SV.b (E (w4 z) (w4 (Z 0)))) := by kernel_rfl
end
section
variable (A S M : W6 → W6 → W6) (E : W6 → W6 → Bool) (I : W6 → W6) (Z : BitVec 32 → W6) (K : List (BitVec 8) → W6) (R D : W6 → W6) (P : W6 → W6 → W6) (N : W6 → Bool) (T : W6 → W6 → W6)
end
end Go.Proofs.YtdfghknonbmadaaGreatDoor
namespace Go.Proofs.YtdfghknonbmadaaGreatDoor
open Go.RowKit
set_option linter.unusedVariables false
set_option linter.unusedSimpArgs false
set_option maxRecDepth 100000
def cNo (N : W6 → Bool) : List SV → List Cont → Option (Bool × SV)
 | [.a64 p], _ => some (Nat.beq p.length 16 && !N p, .b false)
 | _, _ => none
def cBs (B : W6 → Bool → W6) (I : W6 → Bool → Bool) : List SV → List Cont → Option (Bool × SV)
 | [.a64 [a, b, c, d], .b o], _ => some (true, .tup [.a64 (w4 (B [a, b, c, d] o)), .b (I [a, b, c, d] o)])
 | _, _ => none
def cOf (K : List (BitVec 8) → W6) : List SV → List Cont → Option (Bool × SV)
 | [.s l], _ => some (Nat.beq l.length 32, .tup [.a64 (w4 (K l)), .i 0])
 | _, _ => none
def E7 (A S M : W6 → W6 → W6) (E : W6 → W6 → Bool) (I : W6 → W6) (Z : BitVec 32 → W6) (K : List (BitVec 8) → W6) (R D : W6 → W6) (P : W6 → W6 → W6) (N : W6 → Bool) (T : W6 → W6 → W6) : Env := ⟨GE, ((((((Ee A S M E I Z K).T.add 65 (cP1 R)).add 98 (cP1 D)).add 64 (cP2 P)).add 61 (cNo N)).add 57 (cAt T)), noC⟩
section
variable (A S M : W6 → W6 → W6) (E : W6 → W6 → Bool) (I : W6 → W6) (Z : BitVec 32 → W6) (K : List (BitVec 8) → W6) (R D : W6 → W6) (P : W6 → W6 → W6) (N : W6 → Bool) (T : W6 → W6 → W6)
theorem twice_e (x y z t : W6) : vf Tryz.prog (E7 A S M E I Z K R D P N T) noL 58 [.a64 (p4 x y z t)] GE (fun r _ => r = .a64 (p16 (D (p4 x y z t)))) = (bif !N (p4 x y z t) then SV.a64 (p16 (D (p4 x y z t))) = SV.a64 (p16 (D (p4 x y z t))) else False) := by kernel_rfl
theorem base_e : vf Tryz.prog (E7 A S M E I Z K R D P N T) noL 67 [] GE (fun r _ => r = .a64 (p16 (T (w4 (K (bts ⟨#[26, 213, 37, 143, 96, 45, 86, 201, 178, 167, 37, 149, 96, 199, 44, 105, 92, 220, 214, 253, 49, 226, 164, 192, 254, 83, 110, 205, 211, 54, 105, 33]⟩))) (w4 (K (bts ⟨#[88, 102, 102, 102, 102, 102, 102, 102, 102, 102, 102, 102, 102, 102, 102, 102, 102, 102, 102, 102, 102, 102, 102, 102, 102, 102, 102, 102, 102, 102, 102, 102]⟩)))))) = (SV.a64 (p16 (T (w4 (K (bts ⟨#[26, 213, 37, 143, 96, 45, 86, 201, 178, 167, 37, 149, 96, 199, 44, 105, 92, 220, 214, 253, 49, 226, 164, 192, 254, 83, 110, 205, 211, 54, 105, 33]⟩))) (w4 (K (bts ⟨#[88, 102, 102, 102, 102, 102, 102, 102, 102, 102, 102, 102, 102, 102, 102, 102, 102, 102, 102, 102, 102, 102, 102, 102, 102, 102, 102, 102, 102, 102, 102, 102]⟩))))) = SV.a64 (p16 (T (w4 (K (bts ⟨#[26, 213, 37, 143, 96, 45, 86, 201, 178, 167, 37, 149, 96, 199, 44, 105, 92, 220, 214, 253, 49, 226, 164, 192, 254, 83, 110, 205, 211, 54, 105, 33]⟩))) (w4 (K (bts ⟨#[88, 102, 102, 102, 102, 102, 102, 102, 102, 102, 102, 102, 102, 102, 102, 102, 102, 102, 102, 102, 102, 102, 102, 102, 102, 102, 102, 102, 102, 102, 102, 102]⟩)))))) := by kernel_rfl
def smA (M : W6 → W6 → W6) (E : W6 → W6 → Bool) (x z m o : W6) : Bool := E (w4 (M (w4 x) (w4 o))) (w4 (M (w4 m) (w4 z)))
end
def Ek (K : List (BitVec 8) → W6) : Env := ⟨GE, noT.add 93 (cOf K), noC⟩
theorem known_e (K : List (BitVec 8) → W6) (l : List (BitVec 8)) : vf Tryz.prog (Ek K) noL 55 [.s l] GE (fun r _ => r = .a64 (w4 (K l))) = (bif Nat.beq l.length 32 then SV.a64 (w4 (K l)) = SV.a64 (w4 (K l)) else False) := by kernel_rfl
def Er (A S M : W6 → W6 → W6) (E : W6 → W6 → Bool) (I : W6 → W6) (Z : BitVec 32 → W6) (K : List (BitVec 8) → W6) (B : W6 → Bool → W6) (J : W6 → Bool → Bool) : Env := ⟨GE, (Ee A S M E I Z K).T.add 97 (cBs B J), noC⟩
def x2W (A S M : W6 → W6 → W6) (I : W6 → W6) (Z : BitVec 32 → W6) (K : List (BitVec 8) → W6) (y : W6) : W6 := w4 (M (w4 (S (w4 (M y y)) (w4 (Z 1)))) (w4 (I (w4 (A (w4 (M (w4 (M y y)) (w4 (K curD)))) (w4 (Z 1)))))))
theorem beside_e (A S M : W6 → W6 → W6) (E : W6 → W6 → Bool) (I : W6 → W6) (Z : BitVec 32 → W6) (K : List (BitVec 8) → W6) (B : W6 → Bool → W6) (J : W6 → Bool → Bool) (y : W6) (odd : Bool) : vf Tryz.prog (Er A S M E I Z K B J) noL 56 [.a64 (w4 y), .b odd] GE (fun r _ => r = .tup [.a64 (w4 (B (x2W A S M I Z K (w4 y)) odd)), .b (J (x2W A S M I Z K (w4 y)) odd)]) = (SV.tup [.a64 (w4 (B (x2W A S M I Z K (w4 y)) odd)), .b (J (x2W A S M I Z K (w4 y)) odd)] = SV.tup [.a64 (w4 (B (x2W A S M I Z K (w4 y)) odd)), .b (J (x2W A S M I Z K (w4 y)) odd)]) := by kernel_rfl
end Go.Proofs.YtdfghknonbmadaaGreatDoor
namespace Go.Proofs.YtdfghknonbmadaaGreatDoor
open Go.RowKit
set_option linter.unusedVariables false
set_option linter.unusedSimpArgs false
set_option maxRecDepth 100000
def E8 (P M S : W6 → W6 → W6) (L : W6 → W6 → B6) (O : W6 → B6) (Q : Bool → B6) (C : B6 → W6 → W6 → W6) : Env := ⟨GE, ((((((noT.add 111 (cPw P)).add 62 (ct2 M)).add 95 (ct2 S)).add 100 (cAl L)).add 113 (cLo O)).add 123 (cMk Q)).add 121 (cPk C), noC⟩
theorem e8_ok : EnvOk Tryz.prog (E8 pwX tmX sbX alW lwX mkX pkW) := ⟨PT.add_ok (PT.add_ok (PT.add_ok (PT.add_ok (PT.add_ok (PT.add_ok (PT.add_ok (noT_ok _ _) power_ok) mul_ok) sub_ok) alike_ok) low_ok) mask_ok) choose_ok, noC_ok _ _⟩
section
variable (P M S : W6 → W6 → W6) (L : W6 → W6 → B6) (O : W6 → B6) (Q : Bool → B6) (C : B6 → W6 → W6 → W6)
def ivW (P : W6 → W6 → W6) (a : W6) : W6 := P a [i6 0, i6 1, i6 0, i6 1, i6 1]
theorem inv8_e (a : W6) : vf Tryz.prog (E8 P M S L O Q C) noL 79 [.a64 (w4 a)] GE (fun r _ => r = .a64 (w4 (ivW P (w4 a)))) = (SV.a64 (w4 (ivW P (w4 a))) = SV.a64 (w4 (ivW P (w4 a)))) := by kernel_rfl
def sqW (M : W6 → W6 → W6) (L : W6 → W6 → B6) (r a : W6) : B6 := L (w4 (M r r)) a
theorem square8_e (r a : W6) : vf Tryz.prog (E8 P M S L O Q C) noL 122 [.a64 (w4 r), .a64 (w4 a)] GE (fun x _ => x = .w64 (sqW M L (w4 r) (w4 a))) = (SV.w64 (sqW M L (w4 r) (w4 a)) = SV.w64 (sqW M L (w4 r) (w4 a))) := by kernel_rfl
end
theorem inv_gen (P M S : W6 → W6 → W6) (L : W6 → W6 → B6) (O : W6 → B6) (Q : Bool → B6) (C : B6 → W6 → W6 → W6) (hE : EnvOk Tryz.prog (E8 P M S L O Q C)) : POk Tryz.prog GE 79 (ct1 (ivW P)) := pok1 (E := E8 P M S L O Q C) rfl hE (inv8_e P M S L O Q C)
abbrev ivX : W6 → W6 := ivW pwX
theorem inv_ok : POk Tryz.prog GE 79 (ct1 ivX) := inv_gen pwX tmX sbX alW lwX mkX pkW e8_ok
theorem square_gen (P M S : W6 → W6 → W6) (L : W6 → W6 → B6) (O : W6 → B6) (Q : Bool → B6) (C : B6 → W6 → W6 → W6) (hE : EnvOk Tryz.prog (E8 P M S L O Q C)) : POk Tryz.prog GE 122 (cAl (sqW M L)) := by
 intro args acs r hh β M' w hR hw ha
 unfold cAl at hh
 split at hh
 ·rename_i a b c d e f g i
  simp only [Option.some.injEq, Prod.mk.injEq, true_and] at hh
  subst hh
  exact pokE (E := E8 P M S L O Q C) rfl hE (square8_e P M S L O Q C [a, b, c, d] [e, f, g, i]) rfl rfl rfl hR
 ·cases hh
abbrev sqY : W6 → W6 → B6 := sqW tmX alW
theorem square_ok : POk Tryz.prog GE 122 (cAl sqY) := square_gen pwX tmX sbX alW lwX mkX pkW e8_ok
theorem ei_ok : EnvOk Tryz.prog (EI pwX tmX sbX alW lwX mkX pkW sqY) := ⟨PT.add_ok e8_ok.T square_ok, noC_ok _ _⟩
def roB (P M S : W6 → W6 → W6) (O : W6 → B6) (Q : Bool → B6) (C : B6 → W6 → W6 → W6) (R : W6 → W6 → B6) (a : W6) (odd : Bool) : W6 := C (roI P M S O Q C R a odd) [0, 0, 0, 0] (roR P M S O Q C R a odd)
def roJ (P M S : W6 → W6 → W6) (O : W6 → B6) (Q : Bool → B6) (C : B6 → W6 → W6 → W6) (R : W6 → W6 → B6) (a : W6) (odd : Bool) : Bool := roI P M S O Q C R a odd != BitVec.ofInt 64 0
theorem root_gen (P M S : W6 → W6 → W6) (L : W6 → W6 → B6) (O : W6 → B6) (Q : Bool → B6) (C : B6 → W6 → W6 → W6) (R : W6 → W6 → B6) (hE : EnvOk Tryz.prog (EI P M S L O Q C R)) : POk Tryz.prog GE 97 (cBs (roB P M S O Q C R) (roJ P M S O Q C R)) := by
 intro args acs r hh β M' w hR hw ha
 unfold cBs at hh
 split at hh
 ·rename_i a b c d odd
  simp only [Option.some.injEq, Prod.mk.injEq, true_and] at hh
  subst hh
  exact pokE (E := EI P M S L O Q C R) rfl hE (root_e P M S L O Q C R [a, b, c, d] odd) rfl rfl rfl hR
 ·cases hh
theorem root_ok : POk Tryz.prog GE 97 (cBs (roB pwX tmX sbX lwX mkX pkW sqY) (roJ pwX tmX sbX lwX mkX pkW sqY)) := root_gen pwX tmX sbX alW lwX mkX pkW sqY ei_ok
end Go.Proofs.YtdfghknonbmadaaGreatDoor
namespace Go.Proofs.YtdfghknonbmadaaGreatDoor
open Go.RowKit
set_option linter.unusedVariables false
set_option linter.unusedSimpArgs false
set_option maxRecDepth 100000
theorem ex16 {p : W6} (h : p.length = 16) : ∃ a b c d e f g i j k l m n o q r : B6, p = [a, b, c, d, e, f, g, i, j, k, l, m, n, o, q, r] := by
 match p, h with
 | [a, b, c, d, e, f, g, i, j, k, l, m, n, o, q, r], _ => exact ⟨a, b, c, d, e, f, g, i, j, k, l, m, n, o, q, r, rfl⟩
theorem pokP1 {E : Env} (hG : E.G = GE) (hE : EnvOk Tryz.prog E) {f : Nat} {F : W6 → W6} (h : ∀ x y z t : W6, vf Tryz.prog E noL f [.a64 (p4 x y z t)] GE (fun r _ => r = .a64 (p16 (F (p4 x y z t)))) = (SV.a64 (p16 (F (p4 x y z t))) = SV.a64 (p16 (F (p4 x y z t))))) : POk Tryz.prog GE f (cP1 F) := by
 intro args acs r hh β M w hR hw ha
 unfold cP1 at hh
 split at hh
 ·rename_i p
  simp only [Option.some.injEq, Prod.mk.injEq] at hh
  obtain ⟨h1, rfl⟩ := hh
  obtain ⟨a, b, c, d, e, f, g, i, j, k, l, m, n, o, q, r, rfl⟩ := ex16 (Nat.eq_of_beq_eq_true h1)
  exact pokE hG hE (h [a, b, c, d] [e, f, g, i] [j, k, l, m] [n, o, q, r]) rfl rfl rfl hR
 ·cases hh
theorem pokP2 {E : Env} (hG : E.G = GE) (hE : EnvOk Tryz.prog E) {f : Nat} {F : W6 → W6 → W6} (h : ∀ x y z t x' y' z' t' : W6, vf Tryz.prog E noL f [.a64 (p4 x y z t), .a64 (p4 x' y' z' t')] GE (fun r _ => r = .a64 (p16 (F (p4 x y z t) (p4 x' y' z' t')))) = (SV.a64 (p16 (F (p4 x y z t) (p4 x' y' z' t'))) = SV.a64 (p16 (F (p4 x y z t) (p4 x' y' z' t'))))) : POk Tryz.prog GE f (cP2 F) := by
 intro args acs r hh β M w hR hw ha
 unfold cP2 at hh
 split at hh
 ·rename_i p p'
  simp only [Option.some.injEq, Prod.mk.injEq, Bool.and_eq_true] at hh
  obtain ⟨⟨h1, h2⟩, rfl⟩ := hh
  obtain ⟨a, b, c, d, e, f, g, i, j, k, l, m, n, o, q, r, rfl⟩ := ex16 (Nat.eq_of_beq_eq_true h1)
  obtain ⟨a', b', c', d', e', f', g', i', j', k', l', m', n', o', q', r', rfl⟩ := ex16 (Nat.eq_of_beq_eq_true h2)
  exact pokE hG hE (h [a, b, c, d] [e, f, g, i] [j, k, l, m] [n, o, q, r] [a', b', c', d'] [e', f', g', i'] [j', k', l', m'] [n', o', q', r']) rfl rfl rfl hR
 ·cases hh
section
variable (A S M : W6 → W6 → W6) (E : W6 → W6 → Bool) (I : W6 → W6) (Z : BitVec 32 → W6) (K : List (BitVec 8) → W6) (J : W6 → W6 → W6 → W6 → W6)
def rdF (A S M : W6 → W6 → W6) (K : List (BitVec 8) → W6) (p : W6) : W6 := rdW A S M K (el p 0) (el p 1) (el p 2) (el p 3)
theorem readyP (x y z t : W6) : vf Tryz.prog (E5 A S M E I Z K J) noL 65 [.a64 (p4 x y z t)] GE (fun r _ => r = .a64 (p16 (rdF A S M K (p4 x y z t)))) = (SV.a64 (p16 (rdF A S M K (p4 x y z t))) = SV.a64 (p16 (rdF A S M K (p4 x y z t)))) := by kernel_rfl
def dbF (A S M : W6 → W6 → W6) (J : W6 → W6 → W6 → W6 → W6) (p : W6) : W6 := dbW A S M J (el p 0) (el p 1) (el p 2) (el p 3)
theorem doubleP (x y z t : W6) : vf Tryz.prog (E5 A S M E I Z K J) noL 98 [.a64 (p4 x y z t)] GE (fun r _ => r = .a64 (p16 (dbF A S M J (p4 x y z t)))) = (SV.a64 (p16 (dbF A S M J (p4 x y z t))) = SV.a64 (p16 (dbF A S M J (p4 x y z t)))) := by kernel_rfl
def plF (A S M : W6 → W6 → W6) (J : W6 → W6 → W6 → W6 → W6) (p q : W6) : W6 := psW A S M J (el p 0) (el p 1) (el p 2) (el p 3) (el q 0) (el q 1) (el q 2) (el q 3)
theorem plusP (x y z t m n o q : W6) : vf Tryz.prog (E5 A S M E I Z K J) noL 64 [.a64 (p4 x y z t), .a64 (p4 m n o q)] GE (fun r _ => r = .a64 (p16 (plF A S M J (p4 x y z t) (p4 m n o q)))) = (SV.a64 (p16 (plF A S M J (p4 x y z t) (p4 m n o q))) = SV.a64 (p16 (plF A S M J (p4 x y z t) (p4 m n o q)))) := by kernel_rfl
end
theorem ready_gen (A S M : W6 → W6 → W6) (E : W6 → W6 → Bool) (I : W6 → W6) (Z : BitVec 32 → W6) (K : List (BitVec 8) → W6) (J : W6 → W6 → W6 → W6 → W6) (hE : EnvOk Tryz.prog (E5 A S M E I Z K J)) : POk Tryz.prog GE 65 (cP1 (rdF A S M K)) := pokP1 (E := E5 A S M E I Z K J) rfl hE (readyP A S M E I Z K J)
theorem double_gen (A S M : W6 → W6 → W6) (E : W6 → W6 → Bool) (I : W6 → W6) (Z : BitVec 32 → W6) (K : List (BitVec 8) → W6) (J : W6 → W6 → W6 → W6 → W6) (hE : EnvOk Tryz.prog (E5 A S M E I Z K J)) : POk Tryz.prog GE 98 (cP1 (dbF A S M J)) := pokP1 (E := E5 A S M E I Z K J) rfl hE (doubleP A S M E I Z K J)
theorem plusP_gen (A S M : W6 → W6 → W6) (E : W6 → W6 → Bool) (I : W6 → W6) (Z : BitVec 32 → W6) (K : List (BitVec 8) → W6) (J : W6 → W6 → W6 → W6 → W6) (hE : EnvOk Tryz.prog (E5 A S M E I Z K J)) : POk Tryz.prog GE 64 (cP2 (plF A S M J)) := pokP2 (E := E5 A S M E I Z K J) rfl hE (plusP A S M E I Z K J)
end Go.Proofs.YtdfghknonbmadaaGreatDoor
