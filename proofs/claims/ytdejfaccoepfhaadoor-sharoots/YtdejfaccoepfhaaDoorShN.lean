/-
  sha: the document's numbers of 14 digits: which is above, and products. No statement is proved here.
-/
import Derived.Test.YtdejfaccoepfhaaDoorShJ
namespace Go.Proofs.YtdejfaccoepfhaaDoor
open Go.RowKit
set_option linter.unusedVariables false
set_option linter.unusedSimpArgs false
set_option maxRecDepth 100000

/-- Is the first above the second, by the lowest n digits? -/
def abvF (a b : List (BitVec 64)) : Nat → Bool
  | 0 => false
  | n + 1 => bif a.getD n 0 != b.getD n 0 then (b.getD n 0).ult (a.getD n 0) else abvF a b n
def M19 (a b : List (BitVec 64)) : Mm := [⟨false, .a64 H0⟩, ⟨false, .a64 K80⟩, ⟨true, .a64 a⟩, ⟨true, .a64 b⟩]
def i19 (j : Nat) : List (Nat × SV) := [(2, .ptr 2 0), (3, .ptr 3 0), (5, .i (13 - (j : Int)))]
def L19 (a b : List (BitVec 64)) (t : Bool) (q : Prop) : LT := noL.add 0 (vLoopR G 24 (i19 0) (M19 a b) q [] (M19 a b) True [(4, .b t)] (M19 a b))
theorem vc19 (a b : List (BitVec 64)) (t : Bool) (q : Prop) (K : SV → Mm → Prop) : (vf Tryd.prog E6 (L19 a b t q) 19 [.a64 a, .a64 b] G K) = (loopOf Tryd.prog 19 0 = loopOf Tryd.prog 19 0 ∧ SV.ptr 2 0 = SV.ptr 2 0 ∧ SV.ptr (0 + 1 + 1 + 1) 0 = SV.ptr 3 0 ∧ SV.i 13 = SV.i (13 - (↑0 : Int)) ∧ (false = false ∧ Cont.a64 H0 = Cont.a64 H0) ∧ (false = false ∧ Cont.a64 K80 = Cont.a64 K80) ∧ (true = true ∧ Cont.a64 a = Cont.a64 a) ∧ (true = true ∧ Cont.a64 b = Cont.a64 b) ∧ (q → K (SV.b false) (M19 a b)) ∧ (True → K (SV.b t) (M19 a b))) := by kernel_rfl
theorem vr19 (a b : List (BitVec 64)) (j : Nat) (t : Bool) (q p : Prop) : (frK 24 (i19 j) fun fr => vround Tryd.prog E6 noL 19 0 fr (M19 a b) (Kt G 0 24 p (i19 (j + 1)) (M19 a b) q [] (M19 a b) True [(4, .b t)] (M19 a b))) = (bif ile 0 (13 - (↑j : Int)) then bif inR (13 - (↑j : Int)) 14 then bif (13 - (↑j : Int)).toNat.blt a.length then bif inR (13 - (↑j : Int)) 14 then bif (13 - (↑j : Int)).toNat.blt b.length then bif a.getD (13 - (↑j : Int)).toNat 0 != b.getD (13 - (↑j : Int)).toNat 0 then bif inR (13 - (↑j : Int)) 14 then bif (13 - (↑j : Int)).toNat.blt a.length then bif inR (13 - (↑j : Int)) 14 then bif (13 - (↑j : Int)).toNat.blt b.length then True ∧ SV.b ((b.getD (13 - (↑j : Int)).toNat 0).ult (a.getD (13 - (↑j : Int)).toNat 0)) = SV.b t ∧ (false = false ∧ Cont.a64 H0 = Cont.a64 H0) ∧ (false = false ∧ Cont.a64 K80 = Cont.a64 K80) ∧ (true = true ∧ Cont.a64 a = Cont.a64 a) ∧ (true = true ∧ Cont.a64 b = Cont.a64 b) ∧ True else False else False else False else False else bif inI (13 - (↑j : Int) - 1) then p ∧ SV.ptr 2 0 = SV.ptr 2 0 ∧ SV.ptr 3 0 = SV.ptr 3 0 ∧ SV.i (13 - (↑j : Int) - 1) = SV.i (13 - (↑(j + 1) : Int)) ∧ (false = false ∧ Cont.a64 H0 = Cont.a64 H0) ∧ (false = false ∧ Cont.a64 K80 = Cont.a64 K80) ∧ (true = true ∧ Cont.a64 a = Cont.a64 a) ∧ (true = true ∧ Cont.a64 b = Cont.a64 b) ∧ True else False else False else False else False else False else 0 = 0 ∧ q ∧ (false = false ∧ Cont.a64 H0 = Cont.a64 H0) ∧ (false = false ∧ Cont.a64 K80 = Cont.a64 K80) ∧ (true = true ∧ Cont.a64 a = Cont.a64 a) ∧ (true = true ∧ Cont.a64 b = Cont.a64 b) ∧ True) := by kernel_rfl
theorem loop19 (a b : List (BitVec 64)) (ha : a.length = 14) (hb : b.length = 14) : LOk Tryd.prog G G 19 (L19 a b (abvF a b 14) (abvF a b 14 = false)) := by
  refine LT.add_ok (noL_ok _ _ _ _) (loop_ret e6_ok mixed (noL_ok _ _ _ _) (Nat.le_refl _) (by kernel_rfl) (fun j => i19 j) (fun _ => M19 a b) (fun j => j ≤ 14 ∧ abvF a b 14 = abvF a b (14 - j)) (fun j => 14 - j) (fun j => j + 1) 0 ⟨by decide, rfl⟩ fun j hj => of_eq (vr19 a b j _ _ _) ?_)
  obtain ⟨hj, he⟩ := hj
  cases hc : ile 0 (13 - (j : Int))
  · have hj2 : j = 14 := by rw [ile_eq] at hc; have := of_decide_eq_false hc; omega
    subst hj2
    exact ⟨rfl, he, ⟨rfl, rfl⟩, ⟨rfl, rfl⟩, ⟨rfl, rfl⟩, ⟨rfl, rfl⟩, trivial⟩
  · have hj2 : j < 14 := by rw [ile_eq] at hc; have := of_decide_eq_true hc; omega
    have e : (13 - (j : Int)).toNat = 13 - j := by omega
    have e2 : abvF a b (14 - j) = bif a.getD (13 - j) 0 != b.getD (13 - j) 0 then (b.getD (13 - j) 0).ult (a.getD (13 - j) 0) else abvF a b (13 - j) := by
      rw [show 14 - j = 13 - j + 1 by omega]; rfl
    rw [e, ha, hb]
    have h1 : inR (13 - (j : Int)) 14 = true := inR_iff.2 (by omega)
    have h2 : Nat.blt (13 - j) 14 = true := blt_of (by omega)
    rw [h1, h2]
    cases hd : a.getD (13 - j) 0 != b.getD (13 - j) 0
    · rw [hd] at e2
      have h3 : inI (13 - (j : Int) - 1) = true := inI_iff.2 (by omega)
      rw [h3]
      refine ⟨⟨⟨by omega, ?_⟩, by omega⟩, rfl, rfl, congrArg SV.i (by omega), ⟨rfl, rfl⟩, ⟨rfl, rfl⟩, ⟨rfl, rfl⟩, ⟨rfl, rfl⟩, trivial⟩
      rw [he, e2, show 14 - (j + 1) = 13 - j by omega]; rfl
    · rw [hd] at e2
      refine ⟨trivial, congrArg SV.b ?_, ⟨rfl, rfl⟩, ⟨rfl, rfl⟩, ⟨rfl, rfl⟩, ⟨rfl, rfl⟩, trivial⟩
      rw [he, e2]; rfl
def cAbove : List SV → List Cont → Option (Bool × SV)
  | [.a64 a, .a64 b], _ => some (Nat.beq a.length 14 && Nat.beq b.length 14, .b (abvF a b 14))
  | _, _ => none
theorem above_ok : POk Tryd.prog G 19 cAbove := by
  intro args acs r h β M w hR hw ha
  unfold cAbove at h
  split at h
  · rename_i a b
    simp only [Option.some.injEq, Prod.mk.injEq, Bool.and_eq_true] at h
    obtain ⟨⟨h1, h2⟩, rfl⟩ := h
    refine pure0 (vf_ok e6_ok mixed (loop19 a b (Nat.eq_of_beq_eq_true h1) (Nat.eq_of_beq_eq_true h2)) (of_eq (vc19 a b _ _ _) ?_)) rfl rfl hR
    refine ⟨rfl, rfl, rfl, rfl, ⟨rfl, rfl⟩, ⟨rfl, rfl⟩, ⟨rfl, rfl⟩, ⟨rfl, rfl⟩, fun hq => ?_, fun _ => rfl⟩
    rw [hq]
  · cases h
/-- A row of products: digit i of the first by the lowest n of the second. -/
def inn (a b : List (BitVec 64)) (i : Nat) (c : List (BitVec 64)) : Nat → List (BitVec 64)
  | 0 => c
  | j + 1 => (inn a b i c j).set (i + j) ((inn a b i c j).getD (i + j) 0 + a.getD i 0 * b.getD j 0)
def out (a b : List (BitVec 64)) : Nat → List (BitVec 64)
  | 0 => List.replicate 14 0
  | i + 1 => inn a b i (out a b i) (14 - i)
/-- The carries: digits and what is carried. -/
def car (c : List (BitVec 64)) : Nat → List (BitVec 64) × BitVec 64
  | 0 => (c, 0)
  | j + 1 => ((car c j).1.set j ((car c j).1.getD j 0 + (car c j).2 &&& BitVec.ofInt 64 16777215), ((car c j).1.getD j 0 + (car c j).2) >>> 24)
def tms (a b : List (BitVec 64)) : List (BitVec 64) := (car (out a b 14) 14).1
def M18 (a b c : List (BitVec 64)) : Mm := [⟨false, .a64 H0⟩, ⟨false, .a64 K80⟩, ⟨true, .a64 a⟩, ⟨true, .a64 b⟩, ⟨true, .a64 (List.replicate 14 0)⟩, ⟨true, .a64 c⟩]
def p18 : List (Nat × SV) := [(2, .ptr 2 0), (3, .ptr 3 0), (4, .ptr 4 0), (5, .ptr 5 0)]
def N18 (a b c c' : List (BitVec 64)) (i : Nat) : LT := noL.add 2 (vLoop G 54 ((6, .i (i : Nat)) :: (7, .i 0) :: p18) (M18 a b c) ((6, .i (i : Nat)) :: p18) (M18 a b c'))
def L18 (a b c d : List (BitVec 64)) (k : BitVec 64) : LT := (noL.add 0 (vLoop G 54 ((6, .i 0) :: p18) (M18 a b (List.replicate 14 0)) p18 (M18 a b c))).add 4 (vLoop G 54 ((8, .w64 0) :: (9, .i 0) :: p18) (M18 a b c) p18 (M18 a b d))
theorem vc18 (a b c d : List (BitVec 64)) (k : BitVec 64) (K : SV → Mm → Prop) : (vf Tryd.prog E6 (L18 a b c d k) 18 [.a64 a, .a64 b] G K) = (loopOf Tryd.prog 18 0 = loopOf Tryd.prog 18 0 ∧ SV.ptr 2 0 = SV.ptr 2 0 ∧ SV.ptr (0 + 1 + 1 + 1) 0 = SV.ptr 3 0 ∧ SV.ptr (0 + 1 + 1 + 1 + 1) 0 = SV.ptr 4 0 ∧ SV.ptr (0 + 1 + 1 + 1 + 1 + 1) 0 = SV.ptr 5 0 ∧ SV.i 0 = SV.i 0 ∧ (false = false ∧ Cont.a64 H0 = Cont.a64 H0) ∧ (false = false ∧ Cont.a64 K80 = Cont.a64 K80) ∧ (true = true ∧ Cont.a64 a = Cont.a64 a) ∧ (true = true ∧ Cont.a64 b = Cont.a64 b) ∧ (true = true ∧ Cont.a64 (List.replicate 14 0) = Cont.a64 (List.replicate 14 0)) ∧ (true = true ∧ Cont.a64 (List.replicate 14 0) = Cont.a64 (List.replicate 14 0)) ∧ loopOf Tryd.prog 18 4 = loopOf Tryd.prog 18 4 ∧ SV.ptr 2 0 = SV.ptr 2 0 ∧ SV.ptr 3 0 = SV.ptr 3 0 ∧ SV.ptr 4 0 = SV.ptr 4 0 ∧ SV.ptr 5 0 = SV.ptr 5 0 ∧ SV.w64 (BitVec.ofInt 64 0) = SV.w64 0 ∧ SV.i 0 = SV.i 0 ∧ (false = false ∧ Cont.a64 H0 = Cont.a64 H0) ∧ (false = false ∧ Cont.a64 K80 = Cont.a64 K80) ∧ (true = true ∧ Cont.a64 a = Cont.a64 a) ∧ (true = true ∧ Cont.a64 b = Cont.a64 b) ∧ (true = true ∧ Cont.a64 (List.replicate 14 0) = Cont.a64 (List.replicate 14 0)) ∧ (true = true ∧ Cont.a64 c = Cont.a64 c) ∧ bif d.length.beq 14 then bif d.length.beq 14 && d.length.beq 14 then bif d.length.beq 14 && true then K (SV.a64 d) [{ rw := false, c := Cont.a64 H0 }, { rw := false, c := Cont.a64 K80 }, { rw := true, c := Cont.a64 a }, { rw := true, c := Cont.a64 b }, { rw := true, c := Cont.a64 d }, { rw := true, c := Cont.a64 d }] else False else False else False) := by kernel_rfl
theorem vr18a (a b c c' z : List (BitVec 64)) (i : Nat) (p : Prop) : (frK 54 ((6, .i (i : Nat)) :: p18) fun fr => vround Tryd.prog E6 (N18 a b c c' i) 18 0 fr (M18 a b c) (Kn G 0 54 p ((6, .i ((i + 1 : Nat) : Int)) :: p18) (M18 a b c') p18 (M18 a b z))) = (bif ilt (↑i : Int) 14 then loopOf Tryd.prog 18 2 = loopOf Tryd.prog 18 2 ∧ SV.ptr 2 0 = SV.ptr 2 0 ∧ SV.ptr 3 0 = SV.ptr 3 0 ∧ SV.ptr 4 0 = SV.ptr 4 0 ∧ SV.ptr 5 0 = SV.ptr 5 0 ∧ SV.i (↑i : Int) = SV.i (↑i : Int) ∧ SV.i 0 = SV.i 0 ∧ (false = false ∧ Cont.a64 H0 = Cont.a64 H0) ∧ (false = false ∧ Cont.a64 K80 = Cont.a64 K80) ∧ (true = true ∧ Cont.a64 a = Cont.a64 a) ∧ (true = true ∧ Cont.a64 b = Cont.a64 b) ∧ (true = true ∧ Cont.a64 (List.replicate 14 0) = Cont.a64 (List.replicate 14 0)) ∧ (true = true ∧ Cont.a64 c = Cont.a64 c) ∧ bif inI ((↑i : Int) + 1) then p ∧ SV.ptr 2 0 = SV.ptr 2 0 ∧ SV.ptr 3 0 = SV.ptr 3 0 ∧ SV.ptr 4 0 = SV.ptr 4 0 ∧ SV.ptr 5 0 = SV.ptr 5 0 ∧ SV.i ((↑i : Int) + 1) = SV.i (↑(i + 1) : Int) ∧ (false = false ∧ Cont.a64 H0 = Cont.a64 H0) ∧ (false = false ∧ Cont.a64 K80 = Cont.a64 K80) ∧ (true = true ∧ Cont.a64 a = Cont.a64 a) ∧ (true = true ∧ Cont.a64 b = Cont.a64 b) ∧ (true = true ∧ Cont.a64 (List.replicate 14 0) = Cont.a64 (List.replicate 14 0)) ∧ (true = true ∧ Cont.a64 c' = Cont.a64 c') ∧ True else False else 0 = 0 ∧ SV.ptr 2 0 = SV.ptr 2 0 ∧ SV.ptr 3 0 = SV.ptr 3 0 ∧ SV.ptr 4 0 = SV.ptr 4 0 ∧ SV.ptr 5 0 = SV.ptr 5 0 ∧ (false = false ∧ Cont.a64 H0 = Cont.a64 H0) ∧ (false = false ∧ Cont.a64 K80 = Cont.a64 K80) ∧ (true = true ∧ Cont.a64 a = Cont.a64 a) ∧ (true = true ∧ Cont.a64 b = Cont.a64 b) ∧ (true = true ∧ Cont.a64 (List.replicate 14 0) = Cont.a64 (List.replicate 14 0)) ∧ (true = true ∧ Cont.a64 c = Cont.a64 z) ∧ True) := by kernel_rfl
theorem vr18b (a b c c' z : List (BitVec 64)) (i j : Nat) (p : Prop) : (frK 54 ((6, .i (i : Nat)) :: (7, .i (j : Nat)) :: p18) fun fr => vround Tryd.prog E6 noL 18 2 fr (M18 a b c) (Kn G 2 54 p ((6, .i (i : Nat)) :: (7, .i ((j + 1 : Nat) : Int)) :: p18) (M18 a b c') ((6, .i (i : Nat)) :: p18) (M18 a b z))) = (bif inI ((↑j : Int) + (↑i : Int)) then bif ilt ((↑j : Int) + (↑i : Int)) 14 then bif inI ((↑i : Int) + (↑j : Int)) then bif inI ((↑i : Int) + (↑j : Int)) then bif inR ((↑i : Int) + (↑j : Int)) 14 then bif ((↑i : Int) + (↑j : Int)).toNat.blt c.length then bif inR (↑i : Int) 14 then bif i.blt a.length then bif inR (↑j : Int) 14 then bif j.blt b.length then bif inR ((↑i : Int) + (↑j : Int)) 14 then bif ((↑i : Int) + (↑j : Int)).toNat.blt c.length then bif inI ((↑j : Int) + 1) then p ∧ SV.ptr 2 0 = SV.ptr 2 0 ∧ SV.ptr 3 0 = SV.ptr 3 0 ∧ SV.ptr 4 0 = SV.ptr 4 0 ∧ SV.ptr 5 0 = SV.ptr 5 0 ∧ SV.i (↑i : Int) = SV.i (↑i : Int) ∧ SV.i ((↑j : Int) + 1) = SV.i (↑(j + 1) : Int) ∧ (false = false ∧ Cont.a64 H0 = Cont.a64 H0) ∧ (false = false ∧ Cont.a64 K80 = Cont.a64 K80) ∧ (true = true ∧ Cont.a64 a = Cont.a64 a) ∧ (true = true ∧ Cont.a64 b = Cont.a64 b) ∧ (true = true ∧ Cont.a64 (List.replicate 14 0) = Cont.a64 (List.replicate 14 0)) ∧ (true = true ∧ Cont.a64 (c.set ((↑i : Int) + (↑j : Int)).toNat (c.getD ((↑i : Int) + (↑j : Int)).toNat 0 + a.getD i 0 * b.getD j 0)) = Cont.a64 c') ∧ True else False else False else False else False else False else False else False else False else False else False else False else 2 = 2 ∧ SV.ptr 2 0 = SV.ptr 2 0 ∧ SV.ptr 3 0 = SV.ptr 3 0 ∧ SV.ptr 4 0 = SV.ptr 4 0 ∧ SV.ptr 5 0 = SV.ptr 5 0 ∧ SV.i (↑i : Int) = SV.i (↑i : Int) ∧ (false = false ∧ Cont.a64 H0 = Cont.a64 H0) ∧ (false = false ∧ Cont.a64 K80 = Cont.a64 K80) ∧ (true = true ∧ Cont.a64 a = Cont.a64 a) ∧ (true = true ∧ Cont.a64 b = Cont.a64 b) ∧ (true = true ∧ Cont.a64 (List.replicate 14 0) = Cont.a64 (List.replicate 14 0)) ∧ (true = true ∧ Cont.a64 c = Cont.a64 z) ∧ True else False) := by kernel_rfl
theorem vr18c (a b c c' z : List (BitVec 64)) (k k' : BitVec 64) (j : Nat) (p : Prop) : (frK 54 ((8, .w64 k) :: (9, .i (j : Nat)) :: p18) fun fr => vround Tryd.prog E6 noL 18 4 fr (M18 a b c) (Kn G 4 54 p ((8, .w64 k') :: (9, .i ((j + 1 : Nat) : Int)) :: p18) (M18 a b c') p18 (M18 a b z))) = (bif ilt (↑j : Int) 14 then bif inR (↑j : Int) 14 then bif j.blt c.length then bif inR (↑j : Int) 14 then bif j.blt c.length then bif inI ((↑j : Int) + 1) then p ∧ SV.ptr 2 0 = SV.ptr 2 0 ∧ SV.ptr 3 0 = SV.ptr 3 0 ∧ SV.ptr 4 0 = SV.ptr 4 0 ∧ SV.ptr 5 0 = SV.ptr 5 0 ∧ SV.w64 ((c.getD j 0 + k) >>> 24) = SV.w64 k' ∧ SV.i ((↑j : Int) + 1) = SV.i (↑(j + 1) : Int) ∧ (false = false ∧ Cont.a64 H0 = Cont.a64 H0) ∧ (false = false ∧ Cont.a64 K80 = Cont.a64 K80) ∧ (true = true ∧ Cont.a64 a = Cont.a64 a) ∧ (true = true ∧ Cont.a64 b = Cont.a64 b) ∧ (true = true ∧ Cont.a64 (List.replicate 14 0) = Cont.a64 (List.replicate 14 0)) ∧ (true = true ∧ Cont.a64 (c.set j (c.getD j 0 + k &&& BitVec.ofInt 64 16777215)) = Cont.a64 c') ∧ True else False else False else False else False else False else 4 = 4 ∧ SV.ptr 2 0 = SV.ptr 2 0 ∧ SV.ptr 3 0 = SV.ptr 3 0 ∧ SV.ptr 4 0 = SV.ptr 4 0 ∧ SV.ptr 5 0 = SV.ptr 5 0 ∧ (false = false ∧ Cont.a64 H0 = Cont.a64 H0) ∧ (false = false ∧ Cont.a64 K80 = Cont.a64 K80) ∧ (true = true ∧ Cont.a64 a = Cont.a64 a) ∧ (true = true ∧ Cont.a64 b = Cont.a64 b) ∧ (true = true ∧ Cont.a64 (List.replicate 14 0) = Cont.a64 (List.replicate 14 0)) ∧ (true = true ∧ Cont.a64 c = Cont.a64 z) ∧ True) := by kernel_rfl
theorem inn_len (a b c : List (BitVec 64)) (i : Nat) : ∀ n, (inn a b i c n).length = c.length
  | 0 => rfl
  | n + 1 => by rw [inn, List.length_set, inn_len a b c i n]
theorem out_len (a b : List (BitVec 64)) : ∀ n, (out a b n).length = 14
  | 0 => rfl
  | n + 1 => by rw [out, inn_len, out_len a b n]
theorem car_len (c : List (BitVec 64)) : ∀ n, (car c n).1.length = c.length
  | 0 => rfl
  | n + 1 => by rw [car, List.length_set, car_len c n]
theorem loop18b (a b c : List (BitVec 64)) (i : Nat) (hi : i ≤ 14) (ha : a.length = 14) (hb : b.length = 14) (hc : c.length = 14) : LOk Tryd.prog G G 18 (N18 a b c (inn a b i c (14 - i)) i) := by
  refine LT.add_ok (noL_ok _ _ _ _) (loop_next e6_ok mixed (noL_ok _ _ _ _) (Nat.le_refl _) (by kernel_rfl) (fun j => (6, .i (i : Nat)) :: (7, .i (j : Nat)) :: p18) (fun j => M18 a b (inn a b i c j)) (fun j => j ≤ 14 - i) (fun j => 14 - i - j) (fun j => j + 1) 0 (Nat.zero_le _) fun j hj => of_eq (vr18b a b _ _ _ i j _) ?_)
  have hl := inn_len a b c i j
  refine bif_of (inI_iff.2 (by omega)) ?_
  cases hv : ilt ((j : Int) + (i : Int)) 14
  · have hj2 : j = 14 - i := by rw [ilt_eq] at hv; have := of_decide_eq_false hv; omega
    subst hj2
    simp
  · have hj2 : j < 14 - i := by rw [ilt_eq] at hv; have := of_decide_eq_true hv; omega
    have e : ((i : Int) + (j : Int)).toNat = i + j := by omega
    rw [e, hl, hc, ha, hb]
    refine bif_of (inI_iff.2 (by omega)) (bif_of (inI_iff.2 (by omega)) (bif_of (inR_iff.2 (by omega)) (bif_of (blt_of (by omega)) (bif_of (inR_nat (by omega)) (bif_of (blt_of (by omega)) (bif_of (inR_nat (by omega)) (bif_of (blt_of (by omega)) (bif_of (inR_iff.2 (by omega)) (bif_of (blt_of (by omega)) (bif_of (inI_iff.2 (by omega)) ?_))))))))))
    refine ⟨⟨by omega, by omega⟩, rfl, rfl, rfl, rfl, rfl, rfl, ⟨rfl, rfl⟩, ⟨rfl, rfl⟩, ⟨rfl, rfl⟩, ⟨rfl, rfl⟩, ⟨rfl, rfl⟩, ⟨rfl, rfl⟩, trivial⟩
theorem loop18a (a b : List (BitVec 64)) (ha : a.length = 14) (hb : b.length = 14) : ∀ fr M K, vLoop G 54 ((6, .i 0) :: p18) (M18 a b (List.replicate 14 0)) p18 (M18 a b (out a b 14)) fr M K → Wp Tryd.prog G G (loopOf Tryd.prog 18 0) fr M K := by
  intro fr M K h
  obtain ⟨h0, hK⟩ := vLoop_ok h
  have hl : isLoop 0 (loopOf Tryd.prog 18 0) = true := by kernel_rfl
  have hc : loopOf Tryd.prog 18 0 = .block 0 (.loop (body (loopOf Tryd.prog 18 0))) := by kernel_rfl
  refine Wp.le (Nat.le_refl _) h0 ?_
  rw [hc]
  refine Wp.loop (fun m fr M => ∃ i, i ≤ 14 ∧ 14 - i = m ∧ fr = mkF 54 ((6, .i (i : Nat)) :: p18) ∧ M = M18 a b (out a b i)) 14 ⟨0, by decide, rfl, rfl, rfl⟩ ?_
  rintro m fr M ⟨i, hi, rfl, rfl, rfl⟩
  have hr : frK 54 ((6, .i (i : Nat)) :: p18) fun fr => vround Tryd.prog E6 (N18 a b (out a b i) (inn a b i (out a b i) (14 - i)) i) 18 0 fr (M18 a b (out a b i)) (Kn G 0 54 (i + 1 ≤ 14) ((6, .i ((i + 1 : Nat) : Int)) :: p18) (M18 a b (inn a b i (out a b i) (14 - i))) p18 (M18 a b (out a b 14))) := by
    refine of_eq (vr18a a b _ _ _ i _) ?_
    cases hv : ilt (i : Int) 14
    · have hi2 : i = 14 := by rw [ilt_eq] at hv; have := of_decide_eq_false hv; omega
      subst hi2
      simp
    · have hi2 : i < 14 := by rw [ilt_eq] at hv; have := of_decide_eq_true hv; omega
      have h3 : inI ((i : Int) + 1) = true := inI_iff.2 (by omega)
      rw [h3]
      refine ⟨rfl, rfl, rfl, rfl, rfl, rfl, rfl, ⟨rfl, rfl⟩, ⟨rfl, rfl⟩, ⟨rfl, rfl⟩, ⟨rfl, rfl⟩, ⟨rfl, rfl⟩, ⟨rfl, rfl⟩, by omega, rfl, rfl, rfl, rfl, rfl, ⟨rfl, rfl⟩, ⟨rfl, rfl⟩, ⟨rfl, rfl⟩, ⟨rfl, rfl⟩, ⟨rfl, rfl⟩, ⟨rfl, rfl⟩, trivial⟩
  rw [frK_eq] at hr
  refine Wp.post (Nat.le_refl _) ((vcode_ok e6_ok (wd_of e6_ok mixed (loop18b a b (out a b i) i hi ha hb (out_len a b i))) _ _ _ _ hr).mono fun e fr' M' hk => ?_)
  cases e with
  | normal => obtain ⟨h1, h2⟩ := hk; exact ⟨_, _, (vLe_ok h2).1, _, by omega, i + 1, h1, rfl, rfl, rfl⟩
  | exit j => obtain ⟨h1, h2⟩ := hk; exact ⟨_, _, (vLe_ok h2).1, h1, hK⟩
  | ret => exact hk.elim
  | goto l => exact hk.elim
  | panic ch => exact hk.elim
  | outgrown => exact hk.elim
theorem loop18c (a b c : List (BitVec 64)) (hc : c.length = 14) : ∀ fr M K, vLoop G 54 ((8, .w64 0) :: (9, .i 0) :: p18) (M18 a b c) p18 (M18 a b (car c 14).1) fr M K → Wp Tryd.prog G G (loopOf Tryd.prog 18 4) fr M K := by
  refine loop_next e6_ok mixed (noL_ok _ _ _ _) (Nat.le_refl _) (by kernel_rfl) (fun j => (8, .w64 (car c j).2) :: (9, .i (j : Nat)) :: p18) (fun j => M18 a b (car c j).1) (fun j => j ≤ 14) (fun j => 14 - j) (fun j => j + 1) 0 (Nat.zero_le _) fun j hj => of_eq (vr18c a b _ _ _ _ _ j _) ?_
  have hl := car_len c j
  cases hv : ilt (j : Int) 14
  · have hj2 : j = 14 := by rw [ilt_eq] at hv; have := of_decide_eq_false hv; omega
    subst hj2
    simp
  · have hj2 : j < 14 := by rw [ilt_eq] at hv; have := of_decide_eq_true hv; omega
    rw [hl, hc]
    refine bif_of (inR_nat hj2) (bif_of (blt_of hj2) (bif_of (inR_nat hj2) (bif_of (blt_of hj2) (bif_of (inI_iff.2 (by omega)) ?_))))
    refine ⟨⟨by omega, by omega⟩, rfl, rfl, rfl, rfl, rfl, rfl, ⟨rfl, rfl⟩, ⟨rfl, rfl⟩, ⟨rfl, rfl⟩, ⟨rfl, rfl⟩, ⟨rfl, rfl⟩, ⟨rfl, rfl⟩, trivial⟩
theorem loop18 (a b : List (BitVec 64)) (ha : a.length = 14) (hb : b.length = 14) : LOk Tryd.prog G G 18 (L18 a b (out a b 14) (tms a b) 0) :=
  LT.add_ok (LT.add_ok (noL_ok _ _ _ _) (loop18a a b ha hb)) (loop18c a b _ (out_len a b 14))
theorem tms_len (a b : List (BitVec 64)) : (tms a b).length = 14 := by unfold tms; rw [car_len, out_len]
def cTimes : List SV → List Cont → Option (Bool × SV)
  | [.a64 a, .a64 b], _ => some (Nat.beq a.length 14 && Nat.beq b.length 14, .a64 (tms a b))
  | _, _ => none
theorem times_ok : POk Tryd.prog G 18 cTimes := by
  intro args acs r h β M w hR hw ha
  unfold cTimes at h
  split at h
  · rename_i a b
    simp only [Option.some.injEq, Prod.mk.injEq, Bool.and_eq_true] at h
    obtain ⟨⟨h1, h2⟩, rfl⟩ := h
    refine pure0 (vf_ok e6_ok mixed (loop18 a b (Nat.eq_of_beq_eq_true h1) (Nat.eq_of_beq_eq_true h2)) (of_eq (vc18 a b _ _ _ _) ?_)) rfl rfl hR
    rw [tms_len]
    refine ⟨rfl, rfl, rfl, rfl, rfl, rfl, ⟨rfl, rfl⟩, ⟨rfl, rfl⟩, ⟨rfl, rfl⟩, ⟨rfl, rfl⟩, ⟨rfl, rfl⟩, ⟨rfl, rfl⟩, rfl, rfl, rfl, rfl, rfl, rfl, rfl, ⟨rfl, rfl⟩, ⟨rfl, rfl⟩, ⟨rfl, rfl⟩, ⟨rfl, rfl⟩, ⟨rfl, rfl⟩, ⟨rfl, rfl⟩, rfl⟩
  · cases h
def T9 (D : List (List (BitVec 8)) → List (BitVec 8)) (R : List (BitVec 8) → List (BitVec 8)) : PT := ((((T5.add 7 (cOf D)).add 8 (cRef R)).add 6 cAlive).add 19 cAbove).add 18 cTimes
def E9 (D : List (List (BitVec 8)) → List (BitVec 8)) (R : List (BitVec 8) → List (BitVec 8)) : Env := ⟨G, T9 D R, C6⟩
theorem e9_ok : EnvOk Tryd.prog (E9 dOf rOf) := ⟨PT.add_ok (PT.add_ok e8_ok.T above_ok) times_ok, e8_ok.C⟩
end Go.Proofs.YtdejfaccoepfhaaDoor
