/-
  edw: multiples of two points, added. No statement is proved here.
-/
import Derived.Test.YtdfghknonbmadaaDoorEwG
namespace Go.Proofs.YtdfghknonbmadaaDoor
open Go.RowKit
set_option linter.unusedVariables false
set_option linter.unusedSimpArgs false
set_option maxRecDepth 100000

def Ebo (Z : W6) (R D : W6 → W6) (P A : W6 → W6 → W6) (N : W6 → Bool) (B : Tx8 → Nat → BitVec 8) : Env := ⟨GE, (((((noT.add 33 (cK0 (p16 Z))).add 39 (cP1 R)).add 60 (cP1 D)).add 38 (cP2 P)).add 19 (cA2 N A)).add 64 (cBi B), noC⟩
def MB (p q x f : W6) : Mm := [⟨false, .a64 BEG⟩, ⟨false, .a64 PRI⟩, ⟨false, .a64 CON⟩, ⟨false, .a64 WHO⟩, ⟨false, .a64 ROM⟩, ⟨true, .a64 (p16 p)⟩, ⟨true, .a64 (p16 q)⟩, ⟨true, .a64 (List.replicate 16 0)⟩, ⟨true, .a64 (p16 x)⟩, ⟨true, .gone⟩, ⟨true, .gone⟩, ⟨true, .gone⟩, ⟨true, .gone⟩, ⟨true, .gone⟩, ⟨true, .gone⟩, ⟨true, .gone⟩, ⟨true, .gone⟩, ⟨true, .gone⟩, ⟨true, .gone⟩, ⟨true, .gone⟩, ⟨true, .a64 f⟩]
def iB (a b : Tx8) (j : Nat) : List (Nat × SV) := [(2, .s a), (3, .s b), (8, .ptr 7 0), (9, .ptr 8 0), (10, .ptr 20 0), (11, .i (252 - (j : Int)))]
def oB : List (Nat × SV) := [(8, .ptr 7 0), (9, .ptr 8 0)]
/-- The four points that are added. -/
def fourF (Z : W6) (R : W6 → W6) (A : W6 → W6 → W6) (p q : W6) : W6 := p16 (R (p16 Z)) ++ (p16 (R (p16 p)) ++ (p16 (R (p16 q)) ++ (p16 (R (p16 (A (p16 p) (p16 q)))) ++ [])))
def LB (p q x z f : W6) (a b : Tx8) : LT := noL.add 0 (vLoop GE 42 (iB a b 0) (MB p q x f) oB (MB p q z f))
theorem vaB (Z : W6) (R D : W6 → W6) (P A : W6 → W6 → W6) (N : W6 → Bool) (B : Tx8 → Nat → BitVec 8) (p q x z f : W6) (a b : Tx8) (K0 : SV → Mm → Prop) : (vf Tryd.prog (Ebo Z R D P A N B) (LB p q x z f a b) 40 [.a64 (p16 p), .a64 (p16 q), .s a, .s b] GE K0) = (bif !N (List.take (16 : Nat) (List.drop (0 : Nat) (p16 p))) && !N (List.take (16 : Nat) (List.drop (0 : Nat) (p16 q))) then loopOf Tryd.prog (40 : Nat) (0 : Nat) = loopOf Tryd.prog (40 : Nat) (0 : Nat) ∧ SV.s a = SV.s a ∧ SV.s b = SV.s b ∧ SV.ptr ((0 : Nat) + (1 : Nat) + (1 : Nat) + (1 : Nat) + (1 : Nat) + (1 : Nat) + (1 : Nat) + (1 : Nat)) (0 : Nat) = SV.ptr (7 : Nat) (0 : Nat) ∧ SV.ptr ((0 : Nat) + (1 : Nat) + (1 : Nat) + (1 : Nat) + (1 : Nat) + (1 : Nat) + (1 : Nat) + (1 : Nat) + (1 : Nat)) (0 : Nat) = SV.ptr (8 : Nat) (0 : Nat) ∧ SV.ptr ((0 : Nat) + (1 : Nat) + (1 : Nat) + (1 : Nat) + (1 : Nat) + (1 : Nat) + (1 : Nat) + (1 : Nat) + (1 : Nat) + (1 : Nat) + (11 : Nat)) (0 : Nat) = SV.ptr (20 : Nat) (0 : Nat) ∧ SV.i (252 : Int) = SV.i ((252 : Int) - (↑(0 : Nat) : Int)) ∧ (false = false ∧ Cont.a64 BEG = Cont.a64 BEG) ∧ (false = false ∧ Cont.a64 PRI = Cont.a64 PRI) ∧ (false = false ∧ Cont.a64 CON = Cont.a64 CON) ∧ (false = false ∧ Cont.a64 WHO = Cont.a64 WHO) ∧ (false = false ∧ Cont.a64 ROM = Cont.a64 ROM) ∧ (true = true ∧ Cont.a64 (p16 p) = Cont.a64 (p16 p)) ∧ (true = true ∧ Cont.a64 (p16 q) = Cont.a64 (p16 q)) ∧ (true = true ∧ Cont.a64 (List.replicate (16 : Nat) (0 : BitVec (64 : Nat))) = Cont.a64 (List.replicate (16 : Nat) (0 : BitVec (64 : Nat)))) ∧ (true = true ∧ Cont.a64 (p16 Z) = Cont.a64 (p16 x)) ∧ (true = true ∧ Cont.gone = Cont.gone) ∧ (true = true ∧ Cont.gone = Cont.gone) ∧ (true = true ∧ Cont.gone = Cont.gone) ∧ (true = true ∧ Cont.gone = Cont.gone) ∧ (true = true ∧ Cont.gone = Cont.gone) ∧ (true = true ∧ Cont.gone = Cont.gone) ∧ (true = true ∧ Cont.gone = Cont.gone) ∧ (true = true ∧ Cont.gone = Cont.gone) ∧ (true = true ∧ Cont.gone = Cont.gone) ∧ (true = true ∧ Cont.gone = Cont.gone) ∧ (true = true ∧ Cont.gone = Cont.gone) ∧ (true = true ∧ Cont.a64 (p16 (R (List.take (16 : Nat) (List.drop (0 : Nat) (p16 Z)))) ++ (p16 (R (List.take (16 : Nat) (List.drop (0 : Nat) (p16 p)))) ++ (p16 (R (List.take (16 : Nat) (List.drop (0 : Nat) (p16 q)))) ++ (p16 (R (p16 (A (List.take (16 : Nat) (List.drop (0 : Nat) (p16 p))) (List.take (16 : Nat) (List.drop (0 : Nat) (p16 q)))))) ++ [])))) = Cont.a64 f) ∧ K0 (SV.a64 (List.take (16 : Nat) (List.drop (0 : Nat) (List.take (16 : Nat) (List.drop (0 : Nat) (p16 z)))))) [{ rw := false, c := Cont.a64 BEG }, { rw := false, c := Cont.a64 PRI }, { rw := false, c := Cont.a64 CON }, { rw := false, c := Cont.a64 WHO }, { rw := false, c := Cont.a64 ROM }, { rw := true, c := Cont.a64 (p16 p) }, { rw := true, c := Cont.a64 (p16 q) }, { rw := true, c := Cont.a64 (List.take (16 : Nat) (List.drop (0 : Nat) (p16 z))) }, { rw := true, c := Cont.a64 (p16 z) }, { rw := true, c := Cont.gone }, { rw := true, c := Cont.gone }, { rw := true, c := Cont.gone }, { rw := true, c := Cont.gone }, { rw := true, c := Cont.gone }, { rw := true, c := Cont.gone }, { rw := true, c := Cont.gone }, { rw := true, c := Cont.gone }, { rw := true, c := Cont.gone }, { rw := true, c := Cont.gone }, { rw := true, c := Cont.gone }, { rw := true, c := Cont.a64 f }] else False) := by kernel_rfl
theorem vrB (Z : W6) (R D : W6 → W6) (P A : W6 → W6 → W6) (N : W6 → Bool) (B : Tx8 → Nat → BitVec 8) (p q x y z f : W6) (a b : Tx8) (j : Nat) (c : Prop) : (frK 42 (iB a b j) fun fr => vround Tryd.prog (Ebo Z R D P A N B) noL 40 0 fr (MB p q x f) (Kn GE 0 42 c (iB a b (j + 1)) (MB p q y f) oB (MB p q z f))) = (bif ile (0 : Int) ((252 : Int) - (↑j : Int)) then bif (List.length b).beq (32 : Nat) && (ile (0 : Int) ((252 : Int) - (↑j : Int)) && ile ((252 : Int) - (↑j : Int)) (255 : Int)) then bif (List.length a).beq (32 : Nat) && (ile (0 : Int) ((252 : Int) - (↑j : Int)) && ile ((252 : Int) - (↑j : Int)) (255 : Int)) then bif inR (↑(B b ((252 : Int) - (↑j : Int)).toNat <<< (1 : Nat) ||| B a ((252 : Int) - (↑j : Int)).toNat).toNat : Int) (4 : Nat) then bif ((B b ((252 : Int) - (↑j : Int)).toNat <<< (1 : Nat) ||| B a ((252 : Int) - (↑j : Int)).toNat).toNat * (16 : Nat) + (16 : Nat)).ble (List.length f) then bif (List.take (16 : Nat) (List.drop ((B b ((252 : Int) - (↑j : Int)).toNat <<< (1 : Nat) ||| B a ((252 : Int) - (↑j : Int)).toNat).toNat * (16 : Nat)) f)).length.beq (16 : Nat) then bif inI ((252 : Int) - (↑j : Int) - (1 : Int)) then c ∧ SV.s a = SV.s a ∧ SV.s b = SV.s b ∧ SV.ptr (7 : Nat) (0 : Nat) = SV.ptr (7 : Nat) (0 : Nat) ∧ SV.ptr (8 : Nat) (0 : Nat) = SV.ptr (8 : Nat) (0 : Nat) ∧ SV.ptr (20 : Nat) (0 : Nat) = SV.ptr (20 : Nat) (0 : Nat) ∧ SV.i ((252 : Int) - (↑j : Int) - (1 : Int)) = SV.i ((252 : Int) - (↑(j + (1 : Nat)) : Int)) ∧ (false = false ∧ Cont.a64 BEG = Cont.a64 BEG) ∧ (false = false ∧ Cont.a64 PRI = Cont.a64 PRI) ∧ (false = false ∧ Cont.a64 CON = Cont.a64 CON) ∧ (false = false ∧ Cont.a64 WHO = Cont.a64 WHO) ∧ (false = false ∧ Cont.a64 ROM = Cont.a64 ROM) ∧ (true = true ∧ Cont.a64 (p16 p) = Cont.a64 (p16 p)) ∧ (true = true ∧ Cont.a64 (p16 q) = Cont.a64 (p16 q)) ∧ (true = true ∧ Cont.a64 (List.replicate (16 : Nat) (0 : BitVec (64 : Nat))) = Cont.a64 (List.replicate (16 : Nat) (0 : BitVec (64 : Nat)))) ∧ (true = true ∧ Cont.a64 (p16 (P (p16 (D (List.take (16 : Nat) (List.drop (0 : Nat) (p16 x))))) (List.take (16 : Nat) (List.drop ((B b ((252 : Int) - (↑j : Int)).toNat <<< (1 : Nat) ||| B a ((252 : Int) - (↑j : Int)).toNat).toNat * (16 : Nat)) f)))) = Cont.a64 (p16 y)) ∧ (true = true ∧ Cont.gone = Cont.gone) ∧ (true = true ∧ Cont.gone = Cont.gone) ∧ (true = true ∧ Cont.gone = Cont.gone) ∧ (true = true ∧ Cont.gone = Cont.gone) ∧ (true = true ∧ Cont.gone = Cont.gone) ∧ (true = true ∧ Cont.gone = Cont.gone) ∧ (true = true ∧ Cont.gone = Cont.gone) ∧ (true = true ∧ Cont.gone = Cont.gone) ∧ (true = true ∧ Cont.gone = Cont.gone) ∧ (true = true ∧ Cont.gone = Cont.gone) ∧ (true = true ∧ Cont.gone = Cont.gone) ∧ (true = true ∧ Cont.a64 f = Cont.a64 f) ∧ True else False else False else False else False else False else False else (0 : Nat) = (0 : Nat) ∧ SV.ptr (7 : Nat) (0 : Nat) = SV.ptr (7 : Nat) (0 : Nat) ∧ SV.ptr (8 : Nat) (0 : Nat) = SV.ptr (8 : Nat) (0 : Nat) ∧ (false = false ∧ Cont.a64 BEG = Cont.a64 BEG) ∧ (false = false ∧ Cont.a64 PRI = Cont.a64 PRI) ∧ (false = false ∧ Cont.a64 CON = Cont.a64 CON) ∧ (false = false ∧ Cont.a64 WHO = Cont.a64 WHO) ∧ (false = false ∧ Cont.a64 ROM = Cont.a64 ROM) ∧ (true = true ∧ Cont.a64 (p16 p) = Cont.a64 (p16 p)) ∧ (true = true ∧ Cont.a64 (p16 q) = Cont.a64 (p16 q)) ∧ (true = true ∧ Cont.a64 (List.replicate (16 : Nat) (0 : BitVec (64 : Nat))) = Cont.a64 (List.replicate (16 : Nat) (0 : BitVec (64 : Nat)))) ∧ (true = true ∧ Cont.a64 (p16 x) = Cont.a64 (p16 z)) ∧ (true = true ∧ Cont.gone = Cont.gone) ∧ (true = true ∧ Cont.gone = Cont.gone) ∧ (true = true ∧ Cont.gone = Cont.gone) ∧ (true = true ∧ Cont.gone = Cont.gone) ∧ (true = true ∧ Cont.gone = Cont.gone) ∧ (true = true ∧ Cont.gone = Cont.gone) ∧ (true = true ∧ Cont.gone = Cont.gone) ∧ (true = true ∧ Cont.gone = Cont.gone) ∧ (true = true ∧ Cont.gone = Cont.gone) ∧ (true = true ∧ Cont.gone = Cont.gone) ∧ (true = true ∧ Cont.gone = Cont.gone) ∧ (true = true ∧ Cont.a64 f = Cont.a64 f) ∧ True) := by kernel_rfl
/-- Which of the four is added. -/
def ixB (B : Tx8 → Nat → BitVec 8) (a b : Tx8) (j : Nat) : Nat := (B b (252 - j) <<< 1 ||| B a (252 - j)).toNat
def btN (D : W6 → W6) (P : W6 → W6 → W6) (B : Tx8 → Nat → BitVec 8) (f : W6) (a b : Tx8) (z : W6) : Nat → W6
  | 0 => z
  | j + 1 => P (p16 (D (p16 (btN D P B f a b z j)))) (List.take 16 (List.drop (ixB B a b j * 16) f))
theorem bit2 {x y : BitVec 8} (hx : x.toNat ≤ 1) (hy : y.toNat ≤ 1) : (x <<< 1 ||| y).toNat = 2 * x.toNat + y.toNat := by
  rw [BitVec.toNat_or, BitVec.toNat_shiftLeft, Nat.shiftLeft_eq, show x.toNat * 2 ^ 1 % 2 ^ 8 = 2 ^ 1 * x.toNat by omega, ← Nat.two_pow_add_eq_or_of_lt (i := 1) (show y.toNat < 2 ^ 1 by omega)]
theorem loopB (Z : W6) (R D : W6 → W6) (P A : W6 → W6 → W6) (N : W6 → Bool) (B : Tx8 → Nat → BitVec 8) (hB : ∀ s n, (B s n).toNat ≤ 1) (hE : EnvOk Tryd.prog (Ebo Z R D P A N B)) (p q z f : W6) (a b : Tx8) (hf : f.length = 64) (hla : a.length = 32) (hlb : b.length = 32) : ∀ fr M K, vLoop GE 42 (iB a b 0) (MB p q z f) oB (MB p q (btN D P B f a b z 253) f) fr M K → Wp Tryd.prog GE GE (loopOf Tryd.prog 40 0) fr M K := by
  refine loop_next hE mixed (noL_ok _ _ _ _) (Nat.le_refl _) (by kernel_rfl) (iB a b) (fun j => MB p q (btN D P B f a b z j) f) (fun j => j ≤ 253) (fun j => 253 - j) (fun j => j + 1) 0 (Nat.zero_le _) (fun j hj => of_eq (vrB Z R D P A N B p q (btN D P B f a b z j) (btN D P B f a b z (j + 1)) (btN D P B f a b z 253) f a b j _) ?_)
  have hnext : btN D P B f a b z (j + 1) = P (p16 (D (p16 (btN D P B f a b z j)))) (List.take 16 (List.drop (ixB B a b j * 16) f)) := rfl
  have hfin : j = 253 → btN D P B f a b z j = btN D P B f a b z 253 := fun e => by rw [e]
  rw [hnext]
  generalize btN D P B f a b z 253 = y at hfin
  generalize btN D P B f a b z j = x at hfin
  cases hq : ile 0 (252 - (j : Int))
  · have hj2 : j = 253 := by rw [ile_eq] at hq; have := of_decide_eq_false hq; omega
    exact ⟨rfl, rfl, rfl, ⟨rfl, rfl⟩, ⟨rfl, rfl⟩, ⟨rfl, rfl⟩, ⟨rfl, rfl⟩, ⟨rfl, rfl⟩, ⟨rfl, rfl⟩, ⟨rfl, rfl⟩, ⟨rfl, rfl⟩, ⟨rfl, congrArg (fun x => Cont.a64 (p16 x)) (hfin hj2)⟩, ⟨rfl, rfl⟩, ⟨rfl, rfl⟩, ⟨rfl, rfl⟩, ⟨rfl, rfl⟩, ⟨rfl, rfl⟩, ⟨rfl, rfl⟩, ⟨rfl, rfl⟩, ⟨rfl, rfl⟩, ⟨rfl, rfl⟩, ⟨rfl, rfl⟩, ⟨rfl, rfl⟩, ⟨rfl, rfl⟩, trivial⟩
  · have hj2 : j ≤ 252 := by rw [ile_eq] at hq; have := of_decide_eq_true hq; omega
    have hn : (252 - (j : Int)).toNat = 252 - j := by omega
    have g1 : ∀ l : Tx8, l.length = 32 → (Nat.beq l.length 32 && (true && ile (252 - (j : Int)) 255)) = true := fun l hl => by
      rw [hl, ile_eq]
      exact decide_eq_true (by omega)
    have hix : ixB B a b j ≤ 3 := by
      unfold ixB
      have h1 := hB b (252 - j)
      have h2 := hB a (252 - j)
      rw [bit2 h1 h2]
      omega
    have hi : (B b (252 - (j : Int)).toNat <<< 1 ||| B a (252 - (j : Int)).toNat).toNat = ixB B a b j := by rw [hn]; rfl
    rw [hi]
    generalize ixB B a b j = i at hix
    refine bif_of (g1 b hlb) (bif_of (g1 a hla) (bif_of (inR_iff.2 ⟨by omega, by omega⟩) (bif_of (Nat.ble_eq_true_of_le (by omega)) (bif_of ?_ (bif_of (inI_iff.2 (by omega)) ⟨⟨by omega, by omega⟩, rfl, rfl, rfl, rfl, rfl, ?_, ⟨rfl, rfl⟩, ⟨rfl, rfl⟩, ⟨rfl, rfl⟩, ⟨rfl, rfl⟩, ⟨rfl, rfl⟩, ⟨rfl, rfl⟩, ⟨rfl, rfl⟩, ⟨rfl, rfl⟩, ⟨rfl, rfl⟩, ⟨rfl, rfl⟩, ⟨rfl, rfl⟩, ⟨rfl, rfl⟩, ⟨rfl, rfl⟩, ⟨rfl, rfl⟩, ⟨rfl, rfl⟩, ⟨rfl, rfl⟩, ⟨rfl, rfl⟩, ⟨rfl, rfl⟩, ⟨rfl, rfl⟩, ⟨rfl, rfl⟩, ⟨rfl, rfl⟩, trivial⟩)))))
    · have : (List.take 16 (List.drop (i * 16) f)).length = 16 := by rw [List.length_take, List.length_drop]; omega
      rw [this]; rfl
    · exact congrArg SV.i (by omega)
def boF (Z : W6) (R D : W6 → W6) (P A : W6 → W6 → W6) (B : Tx8 → Nat → BitVec 8) (p q : W6) (a b : Tx8) : W6 := btN D P B (fourF Z R A p q) a b Z 253
def cBo (N : W6 → Bool) (F : W6 → W6 → Tx8 → Tx8 → W6) : List SV → List Cont → Option (Bool × SV)
  | [.a64 p, .a64 q, .s a, .s b], _ => some (Nat.beq p.length 16 && (Nat.beq q.length 16 && (!N p && (!N q && (Nat.beq a.length 32 && Nat.beq b.length 32)))), .a64 (p16 (F p q a b)))
  | _, _ => none
theorem both_gen (Z : W6) (R D : W6 → W6) (P A : W6 → W6 → W6) (N : W6 → Bool) (B : Tx8 → Nat → BitVec 8) (hB : ∀ s n, (B s n).toNat ≤ 1) (hE : EnvOk Tryd.prog (Ebo Z R D P A N B)) : POk Tryd.prog GE 40 (cBo N (boF Z R D P A B)) := by
  intro args acs r hh β M' w hR hw ha
  unfold cBo at hh
  split at hh
  · rename_i p p' s t
    simp only [Option.some.injEq, Prod.mk.injEq, Bool.and_eq_true] at hh
    obtain ⟨⟨h1, h2, h3, h4, h5, h6⟩, rfl⟩ := hh
    obtain ⟨a, b, c, d, e, f, g, i, j, k, l, m, n, o, q, r, rfl⟩ := ex16 (Nat.eq_of_beq_eq_true h1)
    obtain ⟨a', b', c', d', e', f', g', i', j', k', l', m', n', o', q', r', rfl⟩ := ex16 (Nat.eq_of_beq_eq_true h2)
    have h5 := Nat.eq_of_beq_eq_true h5
    have h6 := Nat.eq_of_beq_eq_true h6
    have hf : (fourF Z R A [a, b, c, d, e, f, g, i, j, k, l, m, n, o, q, r] [a', b', c', d', e', f', g', i', j', k', l', m', n', o', q', r']).length = 64 := rfl
    refine pure0 (vf_ok hE mixed (LT.add_ok (noL_ok _ _ _ _) (loopB Z R D P A N B hB hE [a, b, c, d, e, f, g, i, j, k, l, m, n, o, q, r] [a', b', c', d', e', f', g', i', j', k', l', m', n', o', q', r'] Z _ s t hf h5 h6)) (of_eq (vaB Z R D P A N B [a, b, c, d, e, f, g, i, j, k, l, m, n, o, q, r] [a', b', c', d', e', f', g', i', j', k', l', m', n', o', q', r'] Z (boF Z R D P A B [a, b, c, d, e, f, g, i, j, k, l, m, n, o, q, r] [a', b', c', d', e', f', g', i', j', k', l', m', n', o', q', r'] s t) (fourF Z R A [a, b, c, d, e, f, g, i, j, k, l, m, n, o, q, r] [a', b', c', d', e', f', g', i', j', k', l', m', n', o', q', r']) s t _) ?_)) rfl rfl hR
    exact bif_of (by rw [Bool.and_eq_true]; exact ⟨h3, h4⟩) ⟨rfl, rfl, rfl, rfl, rfl, rfl, rfl, ⟨rfl, rfl⟩, ⟨rfl, rfl⟩, ⟨rfl, rfl⟩, ⟨rfl, rfl⟩, ⟨rfl, rfl⟩, ⟨rfl, rfl⟩, ⟨rfl, rfl⟩, ⟨rfl, rfl⟩, ⟨rfl, rfl⟩, ⟨rfl, rfl⟩, ⟨rfl, rfl⟩, ⟨rfl, rfl⟩, ⟨rfl, rfl⟩, ⟨rfl, rfl⟩, ⟨rfl, rfl⟩, ⟨rfl, rfl⟩, ⟨rfl, rfl⟩, ⟨rfl, rfl⟩, ⟨rfl, rfl⟩, ⟨rfl, rfl⟩, ⟨rfl, rfl⟩, rfl⟩
  · cases hh
theorem bitX_le (s : Tx8) (n : Nat) : (bitX s n).toNat ≤ 1 := by
  unfold bitX
  rw [BitVec.toNat_and, show (BitVec.ofInt 8 1).toNat = 2 ^ 1 - 1 from rfl, Nat.and_two_pow_sub_one_eq_mod]
  omega
theorem ebo_ok : EnvOk Tryd.prog (Ebo (atX (w4 (zX 0)) (w4 (zX 1))) rdP dbP plP adP' noX bitX) := ⟨PT.add_ok (PT.add_ok (PT.add_ok (PT.add_ok (PT.add_ok (PT.add_ok (noT_ok _ _) zeroP_ok) ready_ok) double_ok) plusP_ok) addP_ok) bit_ok, noC_ok _ _⟩
abbrev boX : W6 → W6 → Tx8 → Tx8 → W6 := boF (atX (w4 (zX 0)) (w4 (zX 1))) rdP dbP plP adP' bitX
theorem both_ok : POk Tryd.prog GE 40 (cBo noX boX) := both_gen (atX (w4 (zX 0)) (w4 (zX 1))) rdP dbP plP adP' noX bitX bitX_le ebo_ok
end Go.Proofs.YtdfghknonbmadaaDoor
