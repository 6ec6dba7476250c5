/-
  edw: the functions on points, word by word. No statement is proved here.
-/
import Derived.Test.YtdfghknonbmadaaDoorEwA
import Derived.Test.YtdfghknonbmadaaDoorMaC
import Derived.Test.YtdfghknonbmadaaDoorMaB
namespace Go.Proofs.YtdfghknonbmadaaDoor
open Go.RowKit
set_option linter.unusedVariables false
set_option linter.unusedSimpArgs false
set_option maxRecDepth 100000

/-- The elements of a row. -/
def el (p : W6) (i : Nat) : W6 := [p.getD (4 * i) 0, p.getD (4 * i + 1) 0, p.getD (4 * i + 2) 0, p.getD (4 * i + 3) 0]
def p16 (p : W6) : W6 := p4 (el p 0) (el p 1) (el p 2) (el p 3)
def cP1 (F : W6 → W6) : List SV → List Cont → Option (Bool × SV)
  | [.a64 p], _ => some (Nat.beq p.length 16, .a64 (p16 (F p)))
  | _, _ => none
def cP1b (F : W6 → Bool) : List SV → List Cont → Option (Bool × SV)
  | [.a64 p], _ => some (Nat.beq p.length 16, .b (F p))
  | _, _ => none
def cP2 (F : W6 → W6 → W6) : List SV → List Cont → Option (Bool × SV)
  | [.a64 p, .a64 q], _ => some (Nat.beq p.length 16 && Nat.beq q.length 16, .a64 (p16 (F p q)))
  | _, _ => none
def cAt (F : W6 → W6 → W6) : List SV → List Cont → Option (Bool × SV)
  | [.a64 [a, b, c, d], .a64 [e, f, g, h]], _ => some (true, .a64 (p16 (F [a, b, c, d] [e, f, g, h])))
  | _, _ => none
def cJ (J : W6 → W6 → W6 → W6 → W6) : List SV → List Cont → Option (Bool × SV)
  | [.a64 [a, b, c, d], .a64 [e, f, g, h], .a64 [i, j, k, l], .a64 [m, n, o, p]], _ => some (true, .a64 (p16 (J [a, b, c, d] [e, f, g, h] [i, j, k, l] [m, n, o, p])))
  | _, _ => none
/-- num's functions. -/
def E5 (A S M : W6 → W6 → W6) (E : W6 → W6 → Bool) (I : W6 → W6) (Z : BitVec 32 → W6) (K : List (BitVec 8) → W6) (J : W6 → W6 → W6 → W6 → W6) : Env := ⟨GE, (Ee A S M E I Z K).T.add 63 (cJ J), noC⟩
def curD : List (BitVec 8) := bts ⟨#[163, 120, 89, 19, 202, 77, 235, 117, 171, 216, 65, 65, 77, 10, 112, 0, 152, 232, 121, 119, 121, 64, 199, 140, 115, 254, 111, 43, 238, 108, 3, 82]⟩
section
variable (A S M : W6 → W6 → W6) (E : W6 → W6 → Bool) (I : W6 → W6) (Z : BitVec 32 → W6) (K : List (BitVec 8) → W6) (J : W6 → W6 → W6 → W6 → W6)
def rdW (A S M : W6 → W6 → W6) (K : List (BitVec 8) → W6) (x y z t : W6) : W6 := p4 (A (w4 y) (w4 x)) (S (w4 y) (w4 x)) (A (w4 z) (w4 z)) (M (w4 (A (w4 t) (w4 t))) (w4 (K curD)))
theorem ready_e (x y z t : W6) : vf Tryd.prog (E5 A S M E I Z K J) noL 39 [.a64 (p4 x y z t)] GE (fun r _ => r = .a64 (rdW A S M K x y z t)) = (SV.a64 (rdW A S M K x y z t) = SV.a64 (rdW A S M K x y z t)) := by kernel_rfl
def dbW (A S M : W6 → W6 → W6) (J : W6 → W6 → W6 → W6 → W6) (x y z t : W6) : W6 :=
  let a := w4 (M (w4 x) (w4 x))
  let b := w4 (M (w4 y) (w4 y))
  let c := w4 (M (w4 z) (w4 z))
  let s := w4 (A (w4 x) (w4 y))
  let h := w4 (A a b)
  let g := w4 (S a b)
  p16 (J (w4 (S h (w4 (M s s)))) (w4 (A (w4 (A c c)) g)) g h)
theorem double_e (x y z t : W6) : vf Tryd.prog (E5 A S M E I Z K J) noL 60 [.a64 (p4 x y z t)] GE (fun r _ => r = .a64 (dbW A S M J x y z t)) = (SV.a64 (dbW A S M J x y z t) = SV.a64 (dbW A S M J x y z t)) := by kernel_rfl
def psW (A S M : W6 → W6 → W6) (J : W6 → W6 → W6 → W6 → W6) (x y z t m n o q : W6) : W6 :=
  let a := w4 (M (w4 (S (w4 y) (w4 x))) (w4 n))
  let b := w4 (M (w4 (A (w4 y) (w4 x))) (w4 m))
  let c := w4 (M (w4 t) (w4 q))
  let d := w4 (M (w4 z) (w4 o))
  p16 (J (w4 (S b a)) (w4 (S d c)) (w4 (A d c)) (w4 (A b a)))
theorem plus_e' (x y z t m n o q : W6) : vf Tryd.prog (E5 A S M E I Z K J) noL 38 [.a64 (p4 x y z t), .a64 (p4 m n o q)] GE (fun r _ => r = .a64 (psW A S M J x y z t m n o q)) = (SV.a64 (psW A S M J x y z t m n o q) = SV.a64 (psW A S M J x y z t m n o q)) := by kernel_rfl
theorem none_e (x y z t : W6) : vf Tryd.prog (E5 A S M E I Z K J) noL 35 [.a64 (p4 x y z t)] GE (fun r _ => r = .b (E (w4 z) (w4 (Z 0)))) = (SV.b (E (w4 z) (w4 (Z 0))) = SV.b (E (w4 z) (w4 (Z 0)))) := by kernel_rfl
theorem at_e (x y : W6) : vf Tryd.prog (E5 A S M E I Z K J) noL 31 [.a64 (w4 x), .a64 (w4 y)] GE (fun r _ => r = .a64 (p4 x y (Z 1) (M (w4 x) (w4 y)))) = (SV.a64 (p4 x y (Z 1) (M (w4 x) (w4 y))) = SV.a64 (p4 x y (Z 1) (M (w4 x) (w4 y)))) := by kernel_rfl
end
/-- edw's own functions besides. -/
def E6 (A S M : W6 → W6 → W6) (E : W6 → W6 → Bool) (I : W6 → W6) (Z : BitVec 32 → W6) (K : List (BitVec 8) → W6) (R D : W6 → W6) (P : W6 → W6 → W6) (N : W6 → Bool) (T : W6 → W6 → W6) : Env := ⟨GE, ((((((Ee A S M E I Z K).T.add 39 (cP1 R)).add 60 (cP1 D)).add 38 (cP2 P)).add 35 (cP1b N)).add 31 (cAt T)), noC⟩
section
variable (A S M : W6 → W6 → W6) (E : W6 → W6 → Bool) (I : W6 → W6) (Z : BitVec 32 → W6) (K : List (BitVec 8) → W6) (R D : W6 → W6) (P : W6 → W6 → W6) (N : W6 → Bool) (T : W6 → W6 → W6)
theorem zero_e : vf Tryd.prog (E6 A S M E I Z K R D P N T) noL 33 [] GE (fun r _ => r = .a64 (p16 (T (w4 (Z 0)) (w4 (Z 1))))) = (SV.a64 (p16 (T (w4 (Z 0)) (w4 (Z 1)))) = SV.a64 (p16 (T (w4 (Z 0)) (w4 (Z 1))))) := by kernel_rfl
def O16 : W6 := List.replicate 16 0
def adP (N : W6 → Bool) (P : W6 → W6 → W6) (R : W6 → W6) (p q : W6) : W6 := bif N (p16 p) then O16 else bif N (p16 q) then O16 else p16 (P (p16 p) (p16 (R (p16 q))))
end
end Go.Proofs.YtdfghknonbmadaaDoor
namespace Go.Proofs.YtdfghknonbmadaaDoor
open Go.RowKit
set_option linter.unusedVariables false
set_option linter.unusedSimpArgs false
set_option maxRecDepth 100000

/-- It is no point: answered where it is one. -/
def cNo (N : W6 → Bool) : List SV → List Cont → Option (Bool × SV)
  | [.a64 p], _ => some (Nat.beq p.length 16 && !N p, .b false)
  | _, _ => none
def cBs (B : W6 → Bool → W6) (I : W6 → Bool → Bool) : List SV → List Cont → Option (Bool × SV)
  | [.a64 [a, b, c, d], .b o], _ => some (true, .tup [.a64 (w4 (B [a, b, c, d] o)), .b (I [a, b, c, d] o)])
  | _, _ => none
def cOf (K : List (BitVec 8) → W6) : List SV → List Cont → Option (Bool × SV)
  | [.s l], _ => some (Nat.beq l.length 32, .tup [.a64 (w4 (K l)), .i 0])
  | _, _ => none
def E7 (A S M : W6 → W6 → W6) (E : W6 → W6 → Bool) (I : W6 → W6) (Z : BitVec 32 → W6) (K : List (BitVec 8) → W6) (R D : W6 → W6) (P : W6 → W6 → W6) (N : W6 → Bool) (T : W6 → W6 → W6) : Env := ⟨GE, ((((((Ee A S M E I Z K).T.add 39 (cP1 R)).add 60 (cP1 D)).add 38 (cP2 P)).add 35 (cNo N)).add 31 (cAt T)), noC⟩
section
variable (A S M : W6 → W6 → W6) (E : W6 → W6 → Bool) (I : W6 → W6) (Z : BitVec 32 → W6) (K : List (BitVec 8) → W6) (R D : W6 → W6) (P : W6 → W6 → W6) (N : W6 → Bool) (T : W6 → W6 → W6)
def adT (P : W6 → W6 → W6) (R : W6 → W6) (p q : W6) : W6 := p16 (P p (p16 (R q)))
theorem addP_e (x y z t m n o q : W6) : vf Tryd.prog (E7 A S M E I Z K R D P N T) noL 19 [.a64 (p4 x y z t), .a64 (p4 m n o q)] GE (fun r _ => r = .a64 (adT P R (p4 x y z t) (p4 m n o q))) = (bif !N (p4 x y z t) then bif !N (p4 m n o q) then SV.a64 (adT P R (p4 x y z t) (p4 m n o q)) = SV.a64 (adT P R (p4 x y z t) (p4 m n o q)) else False else False) := by kernel_rfl
theorem twice_e (x y z t : W6) : vf Tryd.prog (E7 A S M E I Z K R D P N T) noL 32 [.a64 (p4 x y z t)] GE (fun r _ => r = .a64 (p16 (D (p4 x y z t)))) = (bif !N (p4 x y z t) then SV.a64 (p16 (D (p4 x y z t))) = SV.a64 (p16 (D (p4 x y z t))) else False) := by kernel_rfl
theorem base_e : vf Tryd.prog (E7 A S M E I Z K R D P N T) noL 41 [] GE (fun r _ => r = .a64 (p16 (T (w4 (K (bts ⟨#[26, 213, 37, 143, 96, 45, 86, 201, 178, 167, 37, 149, 96, 199, 44, 105, 92, 220, 214, 253, 49, 226, 164, 192, 254, 83, 110, 205, 211, 54, 105, 33]⟩))) (w4 (K (bts ⟨#[88, 102, 102, 102, 102, 102, 102, 102, 102, 102, 102, 102, 102, 102, 102, 102, 102, 102, 102, 102, 102, 102, 102, 102, 102, 102, 102, 102, 102, 102, 102, 102]⟩)))))) = (SV.a64 (p16 (T (w4 (K (bts ⟨#[26, 213, 37, 143, 96, 45, 86, 201, 178, 167, 37, 149, 96, 199, 44, 105, 92, 220, 214, 253, 49, 226, 164, 192, 254, 83, 110, 205, 211, 54, 105, 33]⟩))) (w4 (K (bts ⟨#[88, 102, 102, 102, 102, 102, 102, 102, 102, 102, 102, 102, 102, 102, 102, 102, 102, 102, 102, 102, 102, 102, 102, 102, 102, 102, 102, 102, 102, 102, 102, 102]⟩))))) = SV.a64 (p16 (T (w4 (K (bts ⟨#[26, 213, 37, 143, 96, 45, 86, 201, 178, 167, 37, 149, 96, 199, 44, 105, 92, 220, 214, 253, 49, 226, 164, 192, 254, 83, 110, 205, 211, 54, 105, 33]⟩))) (w4 (K (bts ⟨#[88, 102, 102, 102, 102, 102, 102, 102, 102, 102, 102, 102, 102, 102, 102, 102, 102, 102, 102, 102, 102, 102, 102, 102, 102, 102, 102, 102, 102, 102, 102, 102]⟩)))))) := by kernel_rfl
def smA (M : W6 → W6 → W6) (E : W6 → W6 → Bool) (x z m o : W6) : Bool := E (w4 (M (w4 x) (w4 o))) (w4 (M (w4 m) (w4 z)))
theorem sameP_e (x y z t m n o q : W6) : vf Tryd.prog (E7 A S M E I Z K R D P N T) noL 18 [.a64 (p4 x y z t), .a64 (p4 m n o q)] GE (fun r _ => r = .b (smA M E x z m o && smA M E y z n o)) = (bif !N (p4 x y z t) then bif !N (p4 m n o q) then bif smA M E x z m o then SV.b (smA M E y z n o) = SV.b (smA M E x z m o && smA M E y z n o) else SV.b false = SV.b (smA M E x z m o && smA M E y z n o) else False else False) := by kernel_rfl
end
def Ek (K : List (BitVec 8) → W6) : Env := ⟨GE, noT.add 55 (cOf K), noC⟩
theorem known_e (K : List (BitVec 8) → W6) (l : List (BitVec 8)) : vf Tryd.prog (Ek K) noL 29 [.s l] GE (fun r _ => r = .a64 (w4 (K l))) = (bif Nat.beq l.length 32 then SV.a64 (w4 (K l)) = SV.a64 (w4 (K l)) else False) := by kernel_rfl
def Er (A S M : W6 → W6 → W6) (E : W6 → W6 → Bool) (I : W6 → W6) (Z : BitVec 32 → W6) (K : List (BitVec 8) → W6) (B : W6 → Bool → W6) (J : W6 → Bool → Bool) : Env := ⟨GE, (Ee A S M E I Z K).T.add 59 (cBs B J), noC⟩
def x2W (A S M : W6 → W6 → W6) (I : W6 → W6) (Z : BitVec 32 → W6) (K : List (BitVec 8) → W6) (y : W6) : W6 := w4 (M (w4 (S (w4 (M y y)) (w4 (Z 1)))) (w4 (I (w4 (A (w4 (M (w4 (M y y)) (w4 (K curD)))) (w4 (Z 1)))))))
theorem beside_e (A S M : W6 → W6 → W6) (E : W6 → W6 → Bool) (I : W6 → W6) (Z : BitVec 32 → W6) (K : List (BitVec 8) → W6) (B : W6 → Bool → W6) (J : W6 → Bool → Bool) (y : W6) (odd : Bool) : vf Tryd.prog (Er A S M E I Z K B J) noL 30 [.a64 (w4 y), .b odd] GE (fun r _ => r = .tup [.a64 (w4 (B (x2W A S M I Z K (w4 y)) odd)), .b (J (x2W A S M I Z K (w4 y)) odd)]) = (SV.tup [.a64 (w4 (B (x2W A S M I Z K (w4 y)) odd)), .b (J (x2W A S M I Z K (w4 y)) odd)] = SV.tup [.a64 (w4 (B (x2W A S M I Z K (w4 y)) odd)), .b (J (x2W A S M I Z K (w4 y)) odd)]) := by kernel_rfl
end Go.Proofs.YtdfghknonbmadaaDoor
namespace Go.Proofs.YtdfghknonbmadaaDoor
open Go.RowKit
set_option linter.unusedVariables false
set_option linter.unusedSimpArgs false
set_option maxRecDepth 100000

def E8 (P M S : W6 → W6 → W6) (L : W6 → W6 → B6) (O : W6 → B6) (Q : Bool → B6) (C : B6 → W6 → W6 → W6) : Env := ⟨GE, ((((((noT.add 69 (cPw P)).add 36 (ct2 M)).add 57 (ct2 S)).add 62 (cAl L)).add 71 (cLo O)).add 81 (cMk Q)).add 79 (cPk C), noC⟩
theorem e8_ok : EnvOk Tryd.prog (E8 pwX tmX sbX alW lwX mkX pkW) := ⟨PT.add_ok (PT.add_ok (PT.add_ok (PT.add_ok (PT.add_ok (PT.add_ok (PT.add_ok (noT_ok _ _) power_ok) mul_ok) sub_ok) alike_ok) low_ok) mask_ok) choose_ok, noC_ok _ _⟩
section
variable (P M S : W6 → W6 → W6) (L : W6 → W6 → B6) (O : W6 → B6) (Q : Bool → B6) (C : B6 → W6 → W6 → W6)
def ivW (P : W6 → W6 → W6) (a : W6) : W6 := P a [i6 0, i6 1, i6 0, i6 1, i6 1]
theorem inv8_e (a : W6) : vf Tryd.prog (E8 P M S L O Q C) noL 46 [.a64 (w4 a)] GE (fun r _ => r = .a64 (w4 (ivW P (w4 a)))) = (SV.a64 (w4 (ivW P (w4 a))) = SV.a64 (w4 (ivW P (w4 a)))) := by kernel_rfl
def sqW (M : W6 → W6 → W6) (L : W6 → W6 → B6) (r a : W6) : B6 := L (w4 (M r r)) a
theorem square8_e (r a : W6) : vf Tryd.prog (E8 P M S L O Q C) noL 80 [.a64 (w4 r), .a64 (w4 a)] GE (fun x _ => x = .w64 (sqW M L (w4 r) (w4 a))) = (SV.w64 (sqW M L (w4 r) (w4 a)) = SV.w64 (sqW M L (w4 r) (w4 a))) := by kernel_rfl
end
theorem inv_gen (P M S : W6 → W6 → W6) (L : W6 → W6 → B6) (O : W6 → B6) (Q : Bool → B6) (C : B6 → W6 → W6 → W6) (hE : EnvOk Tryd.prog (E8 P M S L O Q C)) : POk Tryd.prog GE 46 (ct1 (ivW P)) := pok1 (E := E8 P M S L O Q C) rfl hE (inv8_e P M S L O Q C)
abbrev ivX : W6 → W6 := ivW pwX
theorem inv_ok : POk Tryd.prog GE 46 (ct1 ivX) := inv_gen pwX tmX sbX alW lwX mkX pkW e8_ok
theorem square_gen (P M S : W6 → W6 → W6) (L : W6 → W6 → B6) (O : W6 → B6) (Q : Bool → B6) (C : B6 → W6 → W6 → W6) (hE : EnvOk Tryd.prog (E8 P M S L O Q C)) : POk Tryd.prog GE 80 (cAl (sqW M L)) := by
  intro args acs r hh β M' w hR hw ha
  unfold cAl at hh
  split at hh
  · rename_i a b c d e f g i
    simp only [Option.some.injEq, Prod.mk.injEq, true_and] at hh
    subst hh
    exact pokE (E := E8 P M S L O Q C) rfl hE (square8_e P M S L O Q C [a, b, c, d] [e, f, g, i]) rfl rfl rfl hR
  · cases hh
abbrev sqY : W6 → W6 → B6 := sqW tmX alW
theorem square_ok : POk Tryd.prog GE 80 (cAl sqY) := square_gen pwX tmX sbX alW lwX mkX pkW e8_ok
theorem ei_ok : EnvOk Tryd.prog (EI pwX tmX sbX alW lwX mkX pkW sqY) := ⟨PT.add_ok e8_ok.T square_ok, noC_ok _ _⟩
def roB (P M S : W6 → W6 → W6) (O : W6 → B6) (Q : Bool → B6) (C : B6 → W6 → W6 → W6) (R : W6 → W6 → B6) (a : W6) (odd : Bool) : W6 := C (roI P M S O Q C R a odd) [0, 0, 0, 0] (roR P M S O Q C R a odd)
def roJ (P M S : W6 → W6 → W6) (O : W6 → B6) (Q : Bool → B6) (C : B6 → W6 → W6 → W6) (R : W6 → W6 → B6) (a : W6) (odd : Bool) : Bool := roI P M S O Q C R a odd != BitVec.ofInt 64 0
theorem root_gen (P M S : W6 → W6 → W6) (L : W6 → W6 → B6) (O : W6 → B6) (Q : Bool → B6) (C : B6 → W6 → W6 → W6) (R : W6 → W6 → B6) (hE : EnvOk Tryd.prog (EI P M S L O Q C R)) : POk Tryd.prog GE 59 (cBs (roB P M S O Q C R) (roJ P M S O Q C R)) := by
  intro args acs r hh β M' w hR hw ha
  unfold cBs at hh
  split at hh
  · rename_i a b c d odd
    simp only [Option.some.injEq, Prod.mk.injEq, true_and] at hh
    subst hh
    exact pokE (E := EI P M S L O Q C R) rfl hE (root_e P M S L O Q C R [a, b, c, d] odd) rfl rfl rfl hR
  · cases hh
theorem root_ok : POk Tryd.prog GE 59 (cBs (roB pwX tmX sbX lwX mkX pkW sqY) (roJ pwX tmX sbX lwX mkX pkW sqY)) := root_gen pwX tmX sbX alW lwX mkX pkW sqY ei_ok
end Go.Proofs.YtdfghknonbmadaaDoor
namespace Go.Proofs.YtdfghknonbmadaaDoor
namespace Mt
set_option linter.unusedVariables false
set_option linter.unusedSimpArgs false
set_option maxRecDepth 100000

theorem P_is : 57896044618658097711785492504343953926634992332820282019728792003956564819949 = Nt.P := Nt.P_val.symm
theorem mulV (a b : W6) : V (tmX a b) = V a * V b % Nt.P := by rw [mul_X, P_is]
theorem addV {a b : W6} (ha : V a < Nt.P) (hb : V b < Nt.P) : V (adX a b) = (V a + V b) % Nt.P := by
  rw [← P_is] at ha hb ⊢
  exact add_X ha hb
theorem subV {a b : W6} (ha : V a < Nt.P) (hb : V b < Nt.P) : V (sbX a b) = (V a + Nt.P - V b) % Nt.P := by
  rw [← P_is] at ha hb ⊢
  exact sub_X ha hb
/-- A mask. -/
def mk (b : Bool) : B6 := bif b then BitVec.allOnes 64 else 0
theorem mkX_is (b : Bool) : mkX b = mk b := by cases b <;> rfl
theorem pk_mk (b : Bool) (x y : W6) : pkW (mk b) x y = bif b then w4 y else w4 x := by
  cases b
  · exact pk0 x y
  · exact pk1 x y
theorem pk_V (b : Bool) (x y : W6) : V (pkW (mk b) x y) = bif b then V y else V x := by
  rw [pk_mk]
  cases b <;> rfl
theorem mk_ne (b : Bool) : (mk b != BitVec.ofInt 64 0) = b := by cases b <;> rfl
theorem low_is (a : W6) : lwX a = mk (decide (V a % 2 = 1)) := by
  unfold lwX
  have e : (a.getD 0 0 &&& BitVec.ofInt 64 1).toNat = (a.getD 0 0).toNat % 2 := by
    rw [BitVec.toNat_and, show (BitVec.ofInt 64 1).toNat = 2 ^ 1 - 1 from rfl, Nat.and_two_pow_sub_one_eq_mod]
  have e2 : V a % 2 = (a.getD 0 0).toNat % 2 := by unfold V; omega
  rw [e2]
  have : (a.getD 0 0).toNat % 2 = 0 ∨ (a.getD 0 0).toNat % 2 = 1 := by omega
  rcases this with h | h
  · rw [h] at e ⊢
    rw [show a.getD 0 0 &&& BitVec.ofInt 64 1 = 0 from BitVec.eq_of_toNat_eq (by rw [e]; rfl)]
    rfl
  · rw [h] at e ⊢
    rw [show a.getD 0 0 &&& BitVec.ofInt 64 1 = 1 from BitVec.eq_of_toNat_eq (by rw [e]; rfl)]
    rfl
theorem top_or (d : B6) : (d ||| -d) >>> 63 = if d = 0 then 0 else 1 := by
  split
  · rename_i h; subst h; rfl
  · rename_i h
    have hd := d.isLt
    have h0 : d.toNat ≠ 0 := fun e => h (BitVec.eq_of_toNat_eq e)
    apply BitVec.eq_of_toNat_eq
    rw [BitVec.toNat_ushiftRight, BitVec.toNat_or, BitVec.toNat_neg, Nat.shiftRight_eq_div_pow, show 2 ^ 64 = 18446744073709551616 from rfl, show 2 ^ 63 = 9223372036854775808 from rfl, show (1 : B6).toNat = 1 from rfl, Nat.mod_eq_of_lt (by omega)]
    have hlt : d.toNat ||| (18446744073709551616 - d.toNat) < 2 ^ 64 := Nat.or_lt_two_pow (n := 64) hd (by show _ < 18446744073709551616; omega)
    rw [show 2 ^ 64 = 18446744073709551616 from rfl] at hlt
    have hge : 9223372036854775808 ≤ d.toNat ||| (18446744073709551616 - d.toNat) := by
      rcases Nat.lt_or_ge d.toNat 9223372036854775808 with hl | hl
      · exact Nat.le_trans (show 9223372036854775808 ≤ 18446744073709551616 - d.toNat by omega) Nat.right_le_or
      · exact Nat.le_trans hl Nat.left_le_or
    omega
theorem or0 {a b : B6} : a ||| b = 0 ↔ a = 0 ∧ b = 0 := by
  constructor
  · intro h
    have := congrArg BitVec.toNat h
    rw [BitVec.toNat_or] at this
    have h1 : a.toNat ≤ a.toNat ||| b.toNat := Nat.left_le_or
    have h2 : b.toNat ≤ a.toNat ||| b.toNat := Nat.right_le_or
    rw [this, show (0 : B6).toNat = 0 from rfl] at h1 h2
    exact ⟨BitVec.eq_of_toNat_eq (by rw [show (0 : B6).toNat = 0 from rfl]; omega), BitVec.eq_of_toNat_eq (by rw [show (0 : B6).toNat = 0 from rfl]; omega)⟩
  · rintro ⟨rfl, rfl⟩; rfl
theorem xor0 {a b : B6} : a ^^^ b = 0 ↔ a = b := by
  constructor
  · intro h
    have : a ^^^ b ^^^ b = 0#64 ^^^ b := by rw [h]; rfl
    rwa [BitVec.xor_assoc, BitVec.xor_self, BitVec.xor_zero, BitVec.zero_xor] at this
  · rintro rfl; exact BitVec.xor_self
theorem V_eq (a b : W6) : V a = V b ↔ (a.getD 0 0 = b.getD 0 0 ∧ a.getD 1 0 = b.getD 1 0 ∧ a.getD 2 0 = b.getD 2 0 ∧ a.getD 3 0 = b.getD 3 0) := by
  constructor
  · intro h
    have e : w4 a = w4 b := by rw [← enc_V, ← enc_V, h]
    simp only [w4, List.cons.injEq, and_true] at e
    exact e
  · rintro ⟨h0, h1, h2, h3⟩
    unfold V
    rw [h0, h1, h2, h3]
theorem alike_is (a b : W6) : alW a b = mk (decide (V a = V b)) := by
  unfold alW
  simp only
  rw [top_or]
  by_cases h : V a = V b
  · rw [decide_eq_true h]
    obtain ⟨h0, h1, h2, h3⟩ := (V_eq a b).1 h
    rw [h0, h1, h2, h3]
    simp only [BitVec.xor_self]
    rfl
  · rw [decide_eq_false h, if_neg fun e => h ((V_eq a b).2 ?_)]
    · rfl
    · rw [or0, or0, or0, xor0, xor0, xor0, xor0] at e
      exact ⟨e.1.1.1, e.1.1.2, e.1.2, e.2⟩
theorem same_is (a b : W6) : smX a b = decide (V a = V b) := by rw [smX, alike_is, mk_ne]
theorem sqX_V (f : W6) : ∀ n, V (sqX tmX f n) = sq (V f) n
  | 0 => rfl
  | n + 1 => by
    show V (tmX (w4 (sqX tmX f n)) (w4 (sqX tmX f n))) = sq (V f) n * sq (V f) n % Nt.P
    rw [mulV, V_w4, sqX_V f n]
theorem jo_V (a b : W6) (n : Nat) : V (joX a b n) = sq (V a) n * V b % Nt.P := by
  unfold joX
  rw [mulV, V_w4, sqX_V]
theorem jo_pw {x y : W6} {a i n : Nat} (s : Nat) (hs : i + n = s) (hx : V x = pw a i) (hy : V y = pw a n) : V (w4 (joX x y n)) = pw a s := by rw [V_w4, jo_V, hx, hy, join_pw, hs]
theorem ones_gen (J : W6 → W6 → Nat → W6) (f : Nat → Nat) (hJ : ∀ x y i n s, i + n = s → V x = f i → V y = f n → V (w4 (J x y n)) = f s) (a : W6) (h1 : V a = f 1) : V (onW J a) = f 250 := by
  unfold onW
  simp only
  have h2 := hJ _ _ 1 1 2 rfl h1 h1
  have h4 := hJ _ _ 2 2 4 rfl h2 h2
  have h5 := hJ _ _ 4 1 5 rfl h4 h1
  have h10 := hJ _ _ 5 5 10 rfl h5 h5
  have h20 := hJ _ _ 10 10 20 rfl h10 h10
  have h40 := hJ _ _ 20 20 40 rfl h20 h20
  have h50 := hJ _ _ 40 10 50 rfl h40 h10
  have h100 := hJ _ _ 50 50 100 rfl h50 h50
  have h200 := hJ _ _ 100 100 200 rfl h100 h100
  rw [← V_w4 (J _ _ 50)]
  exact hJ _ _ 200 50 250 rfl h200 h50
theorem ones_V (a : W6) (ha : V a < Nt.P) : V (onW joX a) = pw (V a) 250 := ones_gen joX (pw (V a)) (fun x y i n s hs hx hy => jo_pw s hs hx hy) a (pw_one ha).symm
/-- The bits of a power. -/
def bl (l : W6) : List Bool := l.map fun x => x != 0
theorem pwN_V (l : List Bool) (a r : W6) (x : Nat) (hr : V r = x) : ∀ j, j ≤ l.length → V (pwN tmX pkW zX (l.map fun b => bif b then 1 else 0) a r j) = (l.take j).foldl (pb (V a)) x
  | 0, _ => by rw [List.take_zero]; exact hr
  | j + 1, h => by
    have ih := pwN_V l a r x hr j (by omega)
    show V (tmX (w4 (tmX (w4 (pwN tmX pkW zX (l.map fun b => bif b then 1 else 0) a r j)) (w4 (pwN tmX pkW zX (l.map fun b => bif b then 1 else 0) a r j)))) (w4 (pkW (-((l.map fun b => bif b then 1 else 0 : W6).getD j 0)) (w4 (zX 1)) (w4 a)))) = _
    have hl : j < l.length := by omega
    have e : (l.map fun b => bif b then 1 else 0 : W6).getD j 0 = bif l[j] then 1 else 0 := by
      rw [List.getD_eq_getElem?_getD, List.getElem?_map, List.getElem?_eq_getElem hl]; rfl
    have e2 : -(bif l[j] then 1 else 0 : B6) = mk l[j] := by cases l[j] <;> rfl
    rw [e, e2, mulV, V_w4, mulV, V_w4, V_w4, pk_V, ih, List.take_succ_eq_append_getElem hl, List.foldl_append]
    show _ = pb (V a) (List.foldl (pb (V a)) x (List.take j l)) l[j]
    unfold pb
    rfl
theorem pw_V (l : List Bool) (a : W6) (ha : V a < Nt.P) : V (pwX a (l.map fun b => bif b then 1 else 0)) = pws (V a) l := by
  unfold pwX pwW
  rw [pwN_V l a _ _ (ones_V a ha) _ (by rw [List.length_map]; exact Nat.le_refl _), List.length_map, List.take_length]
  rfl
theorem inv_V (a : W6) (ha : V a < Nt.P) : V (ivX a) = iv (V a) := by
  have h := pw_V [false, true, false, true, true] a ha
  rw [inv_pws] at h
  exact h
theorem sq_is (r a : W6) : sqY r a = mk (decide (V r * V r % Nt.P = V a)) := by
  unfold sqY sqW
  rw [alike_is, V_w4, mulV]
theorem ROM_V : V ROM = Nt.I := by rw [Nt.I_val]; rfl
theorem mk_xor (a b : Bool) : mk a ^^^ mk b = mk (a != b) := by cases a <;> cases b <;> rfl
theorem mk_and (a b : Bool) : mk a &&& ~~~mk b = mk (a && !b) := by cases a <;> cases b <;> rfl
theorem bif_not (c : Bool) (x y : Nat) : (bif c then x else y) = bif c then x else y := rfl
theorem roR_V (a : W6) (odd : Bool) (ha : V a < Nt.P) : V (roR pwX tmX sbX lwX mkX pkW sqY a odd) = rs (V a) odd := by
  unfold roR
  simp only
  have h1 : V (w4 (pwX a [i6 1, i6 0])) = Nt.c1 (V a) := by
    have h := pw_V [true, false] a ha
    rw [root_pws] at h
    rw [V_w4]
    exact h
  generalize w4 (pwX a [i6 1, i6 0]) = r at h1 ⊢
  have h2 : V (w4 (pkW (sqY r a) (w4 (tmX r ROM)) r)) = Nt.rt (V a) := by
    rw [sq_is, V_w4, pk_V, V_w4, mulV, ROM_V, h1]
    exact cond_ite _ _
  generalize w4 (pkW (sqY r a) (w4 (tmX r ROM)) r) = s at h2 ⊢
  rw [V_w4, low_is, mkX_is, mk_xor, pk_V, V_w4, subV (by show 0 < Nt.P; exact P_pos) (by rw [h2]; exact rt_ltP _), h2, show V [0, 0, 0, 0] = 0 from rfl]
  rfl
theorem roI_is (a : W6) (odd : Bool) (ha : V a < Nt.P) : roI pwX tmX sbX lwX mkX pkW sqY a odd = mk (ok (V a) odd) := by
  unfold roI
  rw [sq_is, low_is, mkX_is, mk_xor, mk_and, roR_V a odd ha]
  rfl
theorem root_V (a : W6) (odd : Bool) (ha : V a < Nt.P) : V (roB pwX tmX sbX lwX mkX pkW sqY a odd) = ro (V a) odd := by
  unfold roB
  rw [roI_is a odd ha, pk_V, roR_V a odd ha]
  rfl
theorem root_b (a : W6) (odd : Bool) (ha : V a < Nt.P) : roJ pwX tmX sbX lwX mkX pkW sqY a odd = ok (V a) odd := by
  unfold roJ
  rw [roI_is a odd ha, mk_ne]
end Mt
end Go.Proofs.YtdfghknonbmadaaDoor
