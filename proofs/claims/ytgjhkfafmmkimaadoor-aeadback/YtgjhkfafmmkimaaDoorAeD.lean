/-
  aead: the document's numbers, read and written. No statement is proved here.
-/
import Derived.Test.YtgjhkfafmmkimaaDoorAeC
namespace Go.Proofs.YtgjhkfafmmkimaaDoor
open Go.RowKit
set_option linter.unusedVariables false
set_option linter.unusedSimpArgs false
set_option maxRecDepth 100000

def Mr (n : Ds) : Mm := [⟨false, .ints MX⟩, ⟨true, .a64 Z11⟩, ⟨true, .a64 n⟩]
def ird (s : Tx) (j : Nat) : List (Nat × SV) := [(0, .s s), (2, .ptr 1 0), (3, .ptr 2 0), (4, .i (j : Int))]
def ord : List (Nat × SV) := [(2, .ptr 1 0), (3, .ptr 2 0)]
def Lrd (s : Tx) (n2 : Ds) : LT := noL.add 0 (vLoop G 39 (ird s 0) (Mr Z11) ord (Mr n2))
theorem vaR (s : Tx) (n2 : Ds) (K : SV → Mm → Prop) : (vf Tryd.prog E0 (Lrd s n2) 26 [.s s] G K) = (loopOf Tryd.prog (26 : Nat) (0 : Nat) = loopOf Tryd.prog (26 : Nat) (0 : Nat) ∧ SV.s s = SV.s s ∧ SV.ptr (1 : Nat) (0 : Nat) = SV.ptr (1 : Nat) (0 : Nat) ∧ SV.ptr (2 : Nat) (0 : Nat) = SV.ptr (2 : Nat) (0 : Nat) ∧ SV.i (0 : Int) = SV.i (↑(0 : Nat) : Int) ∧ (false = false ∧ Cont.ints MX = Cont.ints MX) ∧ (true = true ∧ Cont.a64 (List.replicate (11 : Nat) (0 : BitVec (64 : Nat))) = Cont.a64 Z11) ∧ (true = true ∧ Cont.a64 (List.replicate (11 : Nat) (0 : BitVec (64 : Nat))) = Cont.a64 Z11) ∧ bif (List.length n2).beq (11 : Nat) then bif (List.length n2).beq (11 : Nat) && (List.length n2).beq (11 : Nat) then bif (List.length n2).beq (11 : Nat) && true then K (SV.a64 n2) [{ rw := false, c := Cont.ints MX }, { rw := true, c := Cont.a64 n2 }, { rw := true, c := Cont.a64 n2 }] else False else False else False) := by kernel_rfl
theorem vrR (s : Tx) (n n1 n2 : Ds) (j : Nat) (p : Prop) : (frK 39 (ird s j) fun fr => vround Tryd.prog E0 noL 26 0 fr (Mr n) (Kn G 0 39 p (ird s (j + 1)) (Mr n1) ord (Mr n2))) = (bif inI ((8 : Int) * (↑(List.length s) : Int)) then bif ilt (↑j : Int) ((8 : Int) * (↑(List.length s) : Int)) == true then bif ilt (↑j : Int) ((8 : Int) * (↑(List.length s) : Int)) == true then bif bif ilt (↑j : Int) ((8 : Int) * (↑(List.length s) : Int)) then ilt (↑j : Int) (132 : Int) else false then bif inI (↑j : Int) then bif inI (↑j : Int) then bif inR ((↑j : Int).tdiv (12 : Int)) (11 : Nat) then bif ((↑j : Int).tdiv (12 : Int)).toNat.blt (List.length n) then bif inI (↑j : Int) then bif inR ((↑j : Int).tdiv (8 : Int)) (List.length s) then bif inR ((↑j : Int).tdiv (12 : Int)) (11 : Nat) then bif ((↑j : Int).tdiv (12 : Int)).toNat.blt (List.length n) then bif inI ((↑j : Int) + (1 : Int)) then p ∧ SV.s s = SV.s s ∧ SV.ptr (1 : Nat) (0 : Nat) = SV.ptr (1 : Nat) (0 : Nat) ∧ SV.ptr (2 : Nat) (0 : Nat) = SV.ptr (2 : Nat) (0 : Nat) ∧ SV.i ((↑j : Int) + (1 : Int)) = SV.i (↑(j + (1 : Nat)) : Int) ∧ (false = false ∧ Cont.ints MX = Cont.ints MX) ∧ (true = true ∧ Cont.a64 Z11 = Cont.a64 Z11) ∧ (true = true ∧ Cont.a64 (List.set n ((↑j : Int).tdiv (12 : Int)).toNat (List.getD n ((↑j : Int).tdiv (12 : Int)).toNat (0 : BitVec (64 : Nat)) ||| BitVec.setWidth (64 : Nat) (List.getD s ((↑j : Int).tdiv (8 : Int)).toNat (0 : BitVec (8 : Nat)) >>> (BitVec.ofInt (64 : Nat) ((↑j : Int).tmod (8 : Int))).toNat &&& BitVec.ofInt (8 : Nat) (1 : Int)) <<< (BitVec.ofInt (64 : Nat) ((↑j : Int).tmod (12 : Int))).toNat)) = Cont.a64 n1) ∧ True else False else False else False else False else False else False else False else False else False else (0 : Nat) = (0 : Nat) ∧ SV.ptr (1 : Nat) (0 : Nat) = SV.ptr (1 : Nat) (0 : Nat) ∧ SV.ptr (2 : Nat) (0 : Nat) = SV.ptr (2 : Nat) (0 : Nat) ∧ (false = false ∧ Cont.ints MX = Cont.ints MX) ∧ (true = true ∧ Cont.a64 Z11 = Cont.a64 Z11) ∧ (true = true ∧ Cont.a64 n = Cont.a64 n2) ∧ True else bif !ilt (↑j : Int) ((8 : Int) * (↑(List.length s) : Int)) then (0 : Nat) = (0 : Nat) ∧ SV.ptr (1 : Nat) (0 : Nat) = SV.ptr (1 : Nat) (0 : Nat) ∧ SV.ptr (2 : Nat) (0 : Nat) = SV.ptr (2 : Nat) (0 : Nat) ∧ (false = false ∧ Cont.ints MX = Cont.ints MX) ∧ (true = true ∧ Cont.a64 Z11 = Cont.a64 Z11) ∧ (true = true ∧ Cont.a64 n = Cont.a64 n2) ∧ True else False else bif ilt (↑j : Int) ((8 : Int) * (↑(List.length s) : Int)) == true then False else bif !ilt (↑j : Int) ((8 : Int) * (↑(List.length s) : Int)) then (0 : Nat) = (0 : Nat) ∧ SV.ptr (1 : Nat) (0 : Nat) = SV.ptr (1 : Nat) (0 : Nat) ∧ SV.ptr (2 : Nat) (0 : Nat) = SV.ptr (2 : Nat) (0 : Nat) ∧ (false = false ∧ Cont.ints MX = Cont.ints MX) ∧ (true = true ∧ Cont.a64 Z11 = Cont.a64 Z11) ∧ (true = true ∧ Cont.a64 n = Cont.a64 n2) ∧ True else False else False) := by kernel_rfl
def Mb (a z b : Ds) : Mm := [⟨false, .ints MX⟩, ⟨true, .a64 a⟩, ⟨true, .a64 z⟩, ⟨true, .a64 b⟩]
def ibl (c : BitVec 64) (j : Nat) : List (Nat × SV) := [(1, .ptr 1 0), (2, .ptr 2 0), (3, .ptr 3 0), (4, .w64 c), (5, .i (j : Int))]
def obl (c : BitVec 64) : List (Nat × SV) := [(1, .ptr 1 0), (2, .ptr 2 0), (3, .ptr 3 0), (4, .w64 c)]
def Lbl (a b b2 : Ds) (c2 : BitVec 64) : LT := noL.add 0 (vLoop G 40 (ibl 0 0) (Mb a Z11 b) (obl c2) (Mb a Z11 b2))
theorem vaB (a b b2 : Ds) (c2 : BitVec 64) (K : SV → Mm → Prop) : (vf Tryd.prog E0 (Lbl a b b2 c2) 29 [.a64 a] G K) = (bif (List.length a).beq (11 : Nat) then bif (List.length a).beq (11 : Nat) && (List.length a).beq (11 : Nat) then bif Nat.blt (0 : Nat) (List.length a) then bif Nat.blt (0 : Nat) (List.length a) then loopOf Tryd.prog (29 : Nat) (0 : Nat) = loopOf Tryd.prog (29 : Nat) (0 : Nat) ∧ SV.ptr (1 : Nat) (0 : Nat) = SV.ptr (1 : Nat) (0 : Nat) ∧ SV.ptr ((0 : Nat) + (1 : Nat) + (1 : Nat)) (0 : Nat) = SV.ptr (2 : Nat) (0 : Nat) ∧ SV.ptr ((0 : Nat) + (1 : Nat) + (1 : Nat) + (1 : Nat)) (0 : Nat) = SV.ptr (3 : Nat) (0 : Nat) ∧ SV.w64 (BitVec.ofInt (64 : Nat) (0 : Int)) = SV.w64 (0 : BitVec (64 : Nat)) ∧ SV.i (0 : Int) = SV.i (↑(0 : Nat) : Int) ∧ (false = false ∧ Cont.ints MX = Cont.ints MX) ∧ (true = true ∧ Cont.a64 a = Cont.a64 a) ∧ (true = true ∧ Cont.a64 (List.replicate (11 : Nat) (0 : BitVec (64 : Nat))) = Cont.a64 Z11) ∧ (true = true ∧ Cont.a64 (List.set a (0 : Nat) (List.getD a (0 : Nat) (0 : BitVec (64 : Nat)) + BitVec.ofInt (64 : Nat) (5 : Int))) = Cont.a64 b) ∧ bif (BitVec.ofInt (64 : Nat) (0 : Int)).ult c2 == false then bif (BitVec.ofInt (64 : Nat) (0 : Int)).ult c2 == false then bif Nat.blt (10 : Nat) (List.length b2) then bif (BitVec.ofInt (64 : Nat) (0 : Int)).ult c2 == false then bif bif (BitVec.ofInt (64 : Nat) (0 : Int)).ult c2 then true else (BitVec.ofInt (64 : Nat) (1023 : Int)).ult (List.getD b2 (10 : Nat) (0 : BitVec (64 : Nat))) then bif Nat.blt (10 : Nat) (List.length b2) then bif Nat.blt (10 : Nat) (List.length b2) then bif (List.set b2 (10 : Nat) (List.getD b2 (10 : Nat) (0 : BitVec (64 : Nat)) &&& BitVec.ofInt (64 : Nat) (1023 : Int))).length.beq (11 : Nat) then bif (List.set b2 (10 : Nat) (List.getD b2 (10 : Nat) (0 : BitVec (64 : Nat)) &&& BitVec.ofInt (64 : Nat) (1023 : Int))).length.beq (11 : Nat) && (List.set b2 (10 : Nat) (List.getD b2 (10 : Nat) (0 : BitVec (64 : Nat)) &&& BitVec.ofInt (64 : Nat) (1023 : Int))).length.beq (11 : Nat) then bif (List.set b2 (10 : Nat) (List.getD b2 (10 : Nat) (0 : BitVec (64 : Nat)) &&& BitVec.ofInt (64 : Nat) (1023 : Int))).length.beq (11 : Nat) && true then K (SV.a64 (List.set b2 (10 : Nat) (List.getD b2 (10 : Nat) (0 : BitVec (64 : Nat)) &&& BitVec.ofInt (64 : Nat) (1023 : Int)))) [{ rw := false, c := Cont.ints MX }, { rw := true, c := Cont.a64 a }, { rw := true, c := Cont.a64 (List.set b2 (10 : Nat) (List.getD b2 (10 : Nat) (0 : BitVec (64 : Nat)) &&& BitVec.ofInt (64 : Nat) (1023 : Int))) }, { rw := true, c := Cont.a64 (List.set b2 (10 : Nat) (List.getD b2 (10 : Nat) (0 : BitVec (64 : Nat)) &&& BitVec.ofInt (64 : Nat) (1023 : Int))) }] else False else False else False else False else False else bif (List.length a).beq (11 : Nat) then bif (List.length a).beq (11 : Nat) && (List.length a).beq (11 : Nat) then bif (List.length a).beq (11 : Nat) && true then K (SV.a64 a) [{ rw := false, c := Cont.ints MX }, { rw := true, c := Cont.a64 a }, { rw := true, c := Cont.a64 a }, { rw := true, c := Cont.a64 b2 }] else False else False else False else bif (BitVec.ofInt (64 : Nat) (0 : Int)).ult c2 then bif Nat.blt (10 : Nat) (List.length b2) then bif Nat.blt (10 : Nat) (List.length b2) then bif (List.set b2 (10 : Nat) (List.getD b2 (10 : Nat) (0 : BitVec (64 : Nat)) &&& BitVec.ofInt (64 : Nat) (1023 : Int))).length.beq (11 : Nat) then bif (List.set b2 (10 : Nat) (List.getD b2 (10 : Nat) (0 : BitVec (64 : Nat)) &&& BitVec.ofInt (64 : Nat) (1023 : Int))).length.beq (11 : Nat) && (List.set b2 (10 : Nat) (List.getD b2 (10 : Nat) (0 : BitVec (64 : Nat)) &&& BitVec.ofInt (64 : Nat) (1023 : Int))).length.beq (11 : Nat) then bif (List.set b2 (10 : Nat) (List.getD b2 (10 : Nat) (0 : BitVec (64 : Nat)) &&& BitVec.ofInt (64 : Nat) (1023 : Int))).length.beq (11 : Nat) && true then K (SV.a64 (List.set b2 (10 : Nat) (List.getD b2 (10 : Nat) (0 : BitVec (64 : Nat)) &&& BitVec.ofInt (64 : Nat) (1023 : Int)))) [{ rw := false, c := Cont.ints MX }, { rw := true, c := Cont.a64 a }, { rw := true, c := Cont.a64 (List.set b2 (10 : Nat) (List.getD b2 (10 : Nat) (0 : BitVec (64 : Nat)) &&& BitVec.ofInt (64 : Nat) (1023 : Int))) }, { rw := true, c := Cont.a64 (List.set b2 (10 : Nat) (List.getD b2 (10 : Nat) (0 : BitVec (64 : Nat)) &&& BitVec.ofInt (64 : Nat) (1023 : Int))) }] else False else False else False else False else False else False else False else bif (BitVec.ofInt (64 : Nat) (0 : Int)).ult c2 == false then False else bif (BitVec.ofInt (64 : Nat) (0 : Int)).ult c2 then bif Nat.blt (10 : Nat) (List.length b2) then bif Nat.blt (10 : Nat) (List.length b2) then bif (List.set b2 (10 : Nat) (List.getD b2 (10 : Nat) (0 : BitVec (64 : Nat)) &&& BitVec.ofInt (64 : Nat) (1023 : Int))).length.beq (11 : Nat) then bif (List.set b2 (10 : Nat) (List.getD b2 (10 : Nat) (0 : BitVec (64 : Nat)) &&& BitVec.ofInt (64 : Nat) (1023 : Int))).length.beq (11 : Nat) && (List.set b2 (10 : Nat) (List.getD b2 (10 : Nat) (0 : BitVec (64 : Nat)) &&& BitVec.ofInt (64 : Nat) (1023 : Int))).length.beq (11 : Nat) then bif (List.set b2 (10 : Nat) (List.getD b2 (10 : Nat) (0 : BitVec (64 : Nat)) &&& BitVec.ofInt (64 : Nat) (1023 : Int))).length.beq (11 : Nat) && true then K (SV.a64 (List.set b2 (10 : Nat) (List.getD b2 (10 : Nat) (0 : BitVec (64 : Nat)) &&& BitVec.ofInt (64 : Nat) (1023 : Int)))) [{ rw := false, c := Cont.ints MX }, { rw := true, c := Cont.a64 a }, { rw := true, c := Cont.a64 (List.set b2 (10 : Nat) (List.getD b2 (10 : Nat) (0 : BitVec (64 : Nat)) &&& BitVec.ofInt (64 : Nat) (1023 : Int))) }, { rw := true, c := Cont.a64 (List.set b2 (10 : Nat) (List.getD b2 (10 : Nat) (0 : BitVec (64 : Nat)) &&& BitVec.ofInt (64 : Nat) (1023 : Int))) }] else False else False else False else False else False else False else bif (BitVec.ofInt (64 : Nat) (0 : Int)).ult c2 == false then False else bif (BitVec.ofInt (64 : Nat) (0 : Int)).ult c2 == false then False else bif (BitVec.ofInt (64 : Nat) (0 : Int)).ult c2 then bif Nat.blt (10 : Nat) (List.length b2) then bif Nat.blt (10 : Nat) (List.length b2) then bif (List.set b2 (10 : Nat) (List.getD b2 (10 : Nat) (0 : BitVec (64 : Nat)) &&& BitVec.ofInt (64 : Nat) (1023 : Int))).length.beq (11 : Nat) then bif (List.set b2 (10 : Nat) (List.getD b2 (10 : Nat) (0 : BitVec (64 : Nat)) &&& BitVec.ofInt (64 : Nat) (1023 : Int))).length.beq (11 : Nat) && (List.set b2 (10 : Nat) (List.getD b2 (10 : Nat) (0 : BitVec (64 : Nat)) &&& BitVec.ofInt (64 : Nat) (1023 : Int))).length.beq (11 : Nat) then bif (List.set b2 (10 : Nat) (List.getD b2 (10 : Nat) (0 : BitVec (64 : Nat)) &&& BitVec.ofInt (64 : Nat) (1023 : Int))).length.beq (11 : Nat) && true then K (SV.a64 (List.set b2 (10 : Nat) (List.getD b2 (10 : Nat) (0 : BitVec (64 : Nat)) &&& BitVec.ofInt (64 : Nat) (1023 : Int)))) [{ rw := false, c := Cont.ints MX }, { rw := true, c := Cont.a64 a }, { rw := true, c := Cont.a64 (List.set b2 (10 : Nat) (List.getD b2 (10 : Nat) (0 : BitVec (64 : Nat)) &&& BitVec.ofInt (64 : Nat) (1023 : Int))) }, { rw := true, c := Cont.a64 (List.set b2 (10 : Nat) (List.getD b2 (10 : Nat) (0 : BitVec (64 : Nat)) &&& BitVec.ofInt (64 : Nat) (1023 : Int))) }] else False else False else False else False else False else False else False else False else False else False) := by kernel_rfl
theorem vrB (a b b1 b2 : Ds) (c c1 c2 : BitVec 64) (j : Nat) (p : Prop) : (frK 40 (ibl c j) fun fr => vround Tryd.prog E0 noL 29 0 fr (Mb a Z11 b) (Kn G 0 40 p (ibl c1 (j + 1)) (Mb a Z11 b1) (obl c2) (Mb a Z11 b2))) = (bif ilt (↑j : Int) (11 : Int) then bif inR (↑j : Int) (11 : Nat) then bif j.blt (List.length b) then bif inR (↑j : Int) (11 : Nat) then bif j.blt (List.length b) then bif inI ((↑j : Int) + (1 : Int)) then p ∧ SV.ptr (1 : Nat) (0 : Nat) = SV.ptr (1 : Nat) (0 : Nat) ∧ SV.ptr (2 : Nat) (0 : Nat) = SV.ptr (2 : Nat) (0 : Nat) ∧ SV.ptr (3 : Nat) (0 : Nat) = SV.ptr (3 : Nat) (0 : Nat) ∧ SV.w64 ((List.getD b j (0 : BitVec (64 : Nat)) + c) >>> (12 : Nat)) = SV.w64 c1 ∧ SV.i ((↑j : Int) + (1 : Int)) = SV.i (↑(j + (1 : Nat)) : Int) ∧ (false = false ∧ Cont.ints MX = Cont.ints MX) ∧ (true = true ∧ Cont.a64 a = Cont.a64 a) ∧ (true = true ∧ Cont.a64 Z11 = Cont.a64 Z11) ∧ (true = true ∧ Cont.a64 (List.set b j (List.getD b j (0 : BitVec (64 : Nat)) + c &&& BitVec.ofInt (64 : Nat) (4095 : Int))) = Cont.a64 b1) ∧ True else False else False else False else False else False else (0 : Nat) = (0 : Nat) ∧ SV.ptr (1 : Nat) (0 : Nat) = SV.ptr (1 : Nat) (0 : Nat) ∧ SV.ptr (2 : Nat) (0 : Nat) = SV.ptr (2 : Nat) (0 : Nat) ∧ SV.ptr (3 : Nat) (0 : Nat) = SV.ptr (3 : Nat) (0 : Nat) ∧ SV.w64 c = SV.w64 c2 ∧ (false = false ∧ Cont.ints MX = Cont.ints MX) ∧ (true = true ∧ Cont.a64 a = Cont.a64 a) ∧ (true = true ∧ Cont.a64 Z11 = Cont.a64 Z11) ∧ (true = true ∧ Cont.a64 b = Cont.a64 b2) ∧ True) := by kernel_rfl
theorem ofI_nat {n : Nat} (h : n < 2 ^ 64) : (BitVec.ofInt 64 (n : Int)).toNat = n := by rw [BitVec.ofInt_natCast, BitVec.toNat_ofNat, Nat.mod_eq_of_lt h]
/-- How many bits are read. -/
def Nr (s : Tx) : Nat := min (8 * s.length) 132
def rdD (s : Tx) : Ds := rdN s (Nr s)
theorem rdD_len (s : Tx) : (rdD s).length = 11 := rdN_len ..
theorem loopR (s : Tx) (hs : s.length ≤ 4096) : ∀ fr M K, vLoop G 39 (ird s 0) (Mr Z11) ord (Mr (rdD s)) fr M K → Wp Tryd.prog G G (loopOf Tryd.prog 26 0) fr M K := by
  refine loop_next e0_ok mixed (noL_ok _ _ _ _) (Nat.le_refl _) (by kernel_rfl) (fun j => ird s j) (fun j => Mr (rdN s j)) (fun j => j ≤ Nr s) (fun j => Nr s - j) (fun j => j + 1) 0 (Nat.zero_le _) (fun j hj => of_eq (vrR s (rdN s j) (rdN s (j + 1)) (rdD s) j _) ?_)
  have hN : Nr s = min (8 * s.length) 132 := rfl
  rw [rdN_len]
  refine bif_of (inI_iff.2 (by omega)) ?_
  have tt : (true == true) = true := rfl
  have ft : (false == true) = false := rfl
  cases hq : ilt (j : Int) (8 * (s.length : Int))
  · have hj2 : j = Nr s := by rw [ilt_eq] at hq; have := of_decide_eq_false hq; omega
    simp only [ft, cond_false, Bool.not_false, cond_true]
    subst hj2
    and_intros <;> first | trivial | rfl
  · have hj1 : j < 8 * s.length := by rw [ilt_eq] at hq; have := of_decide_eq_true hq; omega
    simp only [tt, cond_true]
    cases hq2 : ilt (j : Int) 132
    · have hj2 : j = Nr s := by rw [ilt_eq] at hq2; have := of_decide_eq_false hq2; omega
      simp only [cond_false]
      subst hj2
      and_intros <;> first | trivial | rfl
    · have hj2 : j < 132 := by rw [ilt_eq] at hq2; have := of_decide_eq_true hq2; omega
      simp only [cond_true]
      have e12 : (j : Int).tdiv 12 = ((j / 12 : Nat) : Int) := tdiv_cast j 12
      have e8 : (j : Int).tdiv 8 = ((j / 8 : Nat) : Int) := tdiv_cast j 8
      have m12 : (j : Int).tmod 12 = ((j % 12 : Nat) : Int) := tmod_cast j 12
      have m8 : (j : Int).tmod 8 = ((j % 8 : Nat) : Int) := tmod_cast j 8
      have ij : inI (j : Int) = true := inI_iff.2 (by omega)
      have k1 : j / 12 < 11 := by omega
      rw [e12, e8, m12, m8, Int.toNat_natCast, Int.toNat_natCast, ofI_nat (by omega), ofI_nat (by omega)]
      refine bif_of ij (bif_of ij (bif_of (inR_nat k1) (bif_of (blt_of k1) (bif_of ij (bif_of (inR_nat (by omega)) (bif_of (inR_nat k1) (bif_of (blt_of k1) (bif_of (inI_iff.2 (by omega)) ?_))))))))
      refine ⟨⟨by omega, by omega⟩, ?_⟩
      and_intros <;> first | trivial | rfl
def cRd (X : Tx → Ds) : List SV → List Cont → Option (Bool × SV)
  | [.s s], _ => some (Nat.ble s.length 4096, .a64 (X s))
  | _, _ => none
theorem read_ok : POk Tryd.prog G 26 (cRd rdD) := by
  intro args acs r h β M w hR hw ha
  unfold cRd at h
  split at h
  · rename_i s
    simp only [Option.some.injEq, Prod.mk.injEq] at h
    obtain ⟨hl, rfl⟩ := h
    have hl := Nat.le_of_ble_eq_true hl
    have hm := rdD_len s
    refine pure0 (vf_ok e0_ok mixed (LT.add_ok (noL_ok _ _ _ _) (loopR s hl)) (of_eq (vaR s (rdD s) _) ⟨rfl, rfl, rfl, rfl, rfl, ⟨rfl, rfl⟩, ⟨rfl, rfl⟩, ⟨rfl, rfl⟩, ?_⟩)) rfl rfl hR
    rw [hm]
    exact bif_of rfl (bif_of rfl (bif_of rfl rfl))
  · cases h
/-- Below the prime, as the document goes. -/
def b5 (a : Ds) : Ds := a.set 0 (a.getD 0 0 + BitVec.ofInt 64 5)
def belD (a : Ds) : Ds := bif (bif (BitVec.ofInt 64 0).ult (ps (b5 a) 11).2 then true else (BitVec.ofInt 64 1023).ult ((ps (b5 a) 11).1.getD 10 0)) then (ps (b5 a) 11).1.set 10 ((ps (b5 a) 11).1.getD 10 0 &&& BitVec.ofInt 64 1023) else a
theorem b5_len (a : Ds) : (b5 a).length = a.length := List.length_set ..
theorem belD_len (a : Ds) : (belD a).length = a.length := by
  unfold belD
  cases (bif (BitVec.ofInt 64 0).ult (ps (b5 a) 11).2 then true else (BitVec.ofInt 64 1023).ult ((ps (b5 a) 11).1.getD 10 0))
  · rfl
  · exact (List.length_set ..).trans ((ps_len _ _).trans (b5_len a))
theorem loopB (a l : Ds) (hl : l.length = 11) : ∀ fr M K, vLoop G 40 (ibl 0 0) (Mb a Z11 l) (obl (ps l 11).2) (Mb a Z11 (ps l 11).1) fr M K → Wp Tryd.prog G G (loopOf Tryd.prog 29 0) fr M K := by
  refine loop_next e0_ok mixed (noL_ok _ _ _ _) (Nat.le_refl _) (by kernel_rfl) (fun i => ibl (ps l i).2 i) (fun i => Mb a Z11 (ps l i).1) (fun i => i ≤ 11) (fun i => 11 - i) (fun i => i + 1) 0 (Nat.zero_le _) (fun i hi => of_eq (vrB a (ps l i).1 (ps l (i + 1)).1 (ps l 11).1 (ps l i).2 (ps l (i + 1)).2 (ps l 11).2 i _) ?_)
  rw [ps_len, hl]
  cases hq : ilt (i : Int) 11
  · have hj2 : i = 11 := nlt hq hi
    subst hj2
    exact ⟨rfl, rfl, rfl, rfl, rfl, ⟨rfl, rfl⟩, ⟨rfl, rfl⟩, ⟨rfl, rfl⟩, ⟨rfl, rfl⟩, trivial⟩
  · have hj2 : i < 11 := ylt hq
    refine bif_of (inR_nat hj2) (bif_of (blt_of hj2) (bif_of (inR_nat hj2) (bif_of (blt_of hj2) (bif_of (inI_iff.2 (by omega)) ?_))))
    exact ⟨⟨by omega, by omega⟩, rfl, rfl, rfl, rfl, rfl, ⟨rfl, rfl⟩, ⟨rfl, rfl⟩, ⟨rfl, rfl⟩, ⟨rfl, rfl⟩, trivial⟩
theorem below_ok : POk Tryd.prog G 29 (cCar belD) := by
  intro args acs r h β M w hR hw ha
  unfold cCar at h
  split at h
  · rename_i l
    simp only [Option.some.injEq, Prod.mk.injEq] at h
    obtain ⟨hl, rfl⟩ := h
    have hl := Nat.eq_of_beq_eq_true hl
    have hp : (ps (b5 l) 11).1.length = 11 := (ps_len _ _).trans ((b5_len l).trans hl)
    have tf : (true == false) = false := rfl
    have ff : (false == false) = true := rfl
    refine pure0 (vf_ok e0_ok mixed (LT.add_ok (noL_ok _ _ _ _) (loopB l (b5 l) ((b5_len l).trans hl))) (of_eq (vaB l (b5 l) (ps (b5 l) 11).1 (ps (b5 l) 11).2 _) ?_)) rfl rfl hR
    rw [List.length_set, hl, hp]
    refine bif_of rfl (bif_of rfl (bif_of rfl (bif_of rfl ⟨rfl, rfl, rfl, rfl, rfl, rfl, ⟨rfl, rfl⟩, ⟨rfl, rfl⟩, ⟨rfl, rfl⟩, ⟨rfl, rfl⟩, ?_⟩)))
    unfold belD
    cases h1 : (BitVec.ofInt 64 0).ult (ps (b5 l) 11).2
    · simp only [ff, cond_true, cond_false]
      cases h2 : (BitVec.ofInt 64 1023).ult ((ps (b5 l) 11).1.getD 10 0)
      · exact bif_of rfl (bif_of rfl (bif_of rfl (bif_of rfl (by first | trivial | rfl))))
      · exact bif_of rfl (bif_of rfl (bif_of rfl (bif_of rfl (bif_of rfl (bif_of rfl (by first | trivial | rfl))))))
    · simp only [tf, cond_true, cond_false]
      exact bif_of rfl (bif_of rfl (bif_of rfl (bif_of rfl (bif_of rfl (by first | trivial | rfl)))))
  · cases h
end Go.Proofs.YtgjhkfafmmkimaaDoor
