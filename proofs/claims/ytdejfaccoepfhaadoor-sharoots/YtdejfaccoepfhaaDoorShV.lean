/-
  sha: the row of primes. No statement is proved here.
-/
import Derived.Test.YtdejfaccoepfhaaDoorShU
import Derived.Test.YtdejfaccoepfhaaDoorShL
namespace Go.Proofs.YtdejfaccoepfhaaDoor
open Go.RowKit
set_option linter.unusedVariables false
set_option linter.unusedSimpArgs false
set_option maxRecDepth 100000

inductive S9
  | fst
  | more (p : BitVec 64) (len cap : Nat) (x : List (BitVec 64))
def M9 (x : List (BitVec 64)) : Mm := [⟨false, .a64 H0⟩, ⟨false, .a64 K80⟩, ⟨true, .a64 x⟩]
def I9 : S9 → List (Nat × SV)
  | .fst => [(0, .i 80), (3, .v (.slice none 0 0)), (4, .w64 (BitVec.ofInt 64 2))]
  | .more p len cap x => [(0, .i 80), (3, .sl 2 0 len cap), (4, .w64 p)]
def Mi9 : S9 → Mm
  | .fst => G
  | .more p len cap x => M9 x
def sel9 (fr : List SV) (M : Mm) : Option (S9 × List Nat) := match fr with
  | _ :: _ :: _ :: SV.sl k _ len cap :: SV.w64 p :: _ => match M[k]? with
    | some ⟨_, .a64 x⟩ => some (.more p len cap x, [k])
    | _ => none
  | _ => none
def O9 (len cap : Nat) : List (Nat × SV) := [(3, .sl 2 0 len cap)]
def i9b (p : BitVec 64) (len cap : Nat) (t : Bool) (j : Nat) : List (Nat × SV) := [(0, .i 80), (3, .sl 2 0 len cap), (4, .w64 p), (5, .b t), (6, .i (j : Nat))]
def o9b (p : BitVec 64) (len cap : Nat) (t : Bool) : List (Nat × SV) := [(0, .i 80), (3, .sl 2 0 len cap), (4, .w64 p), (5, .b t)]
def N9 (p : BitVec 64) (len cap : Nat) (x : List (BitVec 64)) (t : Bool) : LT := noL.add 2 (vLoop G 35 (i9b p len cap true 0) (M9 x) (o9b p len cap t) (M9 x))
def f9 : List (Nat × SV) := [(0, .i 80), (3, .v (.slice none 0 0)), (4, .w64 (BitVec.ofInt 64 2)), (5, .b true)]
def N9f : LT := noL.add 2 (vLoop G 35 ((6, .i 0) :: f9) G f9 G)
def vLp9 (p : Nat → List (BitVec 64) → Prop) (fr : List SV) (M : Mm) (K : Ko) : Prop := vLe G fr M 35 (I9 .fst) G (∀ cap x, p cap x → frK 35 (O9 80 cap) fun fr1 => K .normal fr1 (M9 x))
def L9 (p : Nat → List (BitVec 64) → Prop) : LT := noL.add 0 (vLp9 p)
theorem vc9 (p : Nat → List (BitVec 64) → Prop) (K : SV → Mm → Prop) : (vf Tryd.prog E3 (L9 p) 9 [.i 80] G K) = (loopOf Tryd.prog 9 0 = loopOf Tryd.prog 9 0 ∧ SV.i 80 = SV.i 80 ∧ SV.v (Value.slice none 0 0) = SV.v (Value.slice none 0 0) ∧ SV.w64 (BitVec.ofInt 64 2) = SV.w64 (BitVec.ofInt 64 2) ∧ (false = false ∧ Cont.a64 H0 = Cont.a64 H0) ∧ (false = false ∧ Cont.a64 K80 = Cont.a64 K80) ∧ ∀ (cap : Nat) (x : List (BitVec 64)), p cap x → K (SV.sl 2 0 80 cap) (M9 x)) := by kernel_rfl
theorem vr9f (a : Prop) : (frK 35 ((6, .i 0) :: f9) fun fr => vround Tryd.prog E3 noL 9 2 fr G (Kn G 2 35 a ((6, .i 0) :: f9) G f9 G)) = (2 = 2 ∧ SV.i 80 = SV.i 80 ∧ SV.v (Value.slice none 0 0) = SV.v (Value.slice none 0 0) ∧ SV.w64 (BitVec.ofInt 64 2) = SV.w64 (BitVec.ofInt 64 2) ∧ SV.b true = SV.b true ∧ (false = false ∧ Cont.a64 H0 = Cont.a64 H0) ∧ (false = false ∧ Cont.a64 K80 = Cont.a64 K80) ∧ True) := by kernel_rfl
theorem vr9bt (p : BitVec 64) (len cap j : Nat) (x : List (BitVec 64)) (t' z : Bool) (a : Prop) : (frK 35 (i9b p len cap true j) fun fr => vround Tryd.prog E3 noL 9 2 fr (M9 x) (Kn G 2 35 a (i9b p len cap t' (j + 1)) (M9 x) (o9b p len cap z) (M9 x))) = (bif ilt (↑j : Int) (↑len : Int) then bif inR (↑j : Int) len then bif j.blt x.length then bif x.getD j 0 != 0 then bif inI ((↑j : Int) + 1) then a ∧ SV.i 80 = SV.i 80 ∧ SV.sl 2 0 len cap = SV.sl 2 0 len cap ∧ SV.w64 p = SV.w64 p ∧ SV.b (bif true then p % x.getD j 0 != BitVec.ofInt 64 0 else false) = SV.b t' ∧ SV.i ((↑j : Int) + 1) = SV.i (↑(j + 1) : Int) ∧ (false = false ∧ Cont.a64 H0 = Cont.a64 H0) ∧ (false = false ∧ Cont.a64 K80 = Cont.a64 K80) ∧ (true = true ∧ Cont.a64 x = Cont.a64 x) ∧ True else False else False else False else False else 2 = 2 ∧ SV.i 80 = SV.i 80 ∧ SV.sl 2 0 len cap = SV.sl 2 0 len cap ∧ SV.w64 p = SV.w64 p ∧ SV.b true = SV.b z ∧ (false = false ∧ Cont.a64 H0 = Cont.a64 H0) ∧ (false = false ∧ Cont.a64 K80 = Cont.a64 K80) ∧ (true = true ∧ Cont.a64 x = Cont.a64 x) ∧ True) := by kernel_rfl
theorem vr9bf (p : BitVec 64) (len cap j : Nat) (x : List (BitVec 64)) (t' z : Bool) (a : Prop) : (frK 35 (i9b p len cap false j) fun fr => vround Tryd.prog E3 noL 9 2 fr (M9 x) (Kn G 2 35 a (i9b p len cap t' (j + 1)) (M9 x) (o9b p len cap z) (M9 x))) = (bif ilt (↑j : Int) (↑len : Int) then bif inI ((↑j : Int) + 1) then a ∧ SV.i 80 = SV.i 80 ∧ SV.sl 2 0 len cap = SV.sl 2 0 len cap ∧ SV.w64 p = SV.w64 p ∧ SV.b false = SV.b t' ∧ SV.i ((↑j : Int) + 1) = SV.i (↑(j + 1) : Int) ∧ (false = false ∧ Cont.a64 H0 = Cont.a64 H0) ∧ (false = false ∧ Cont.a64 K80 = Cont.a64 K80) ∧ (true = true ∧ Cont.a64 x = Cont.a64 x) ∧ True else False else 2 = 2 ∧ SV.i 80 = SV.i 80 ∧ SV.sl 2 0 len cap = SV.sl 2 0 len cap ∧ SV.w64 p = SV.w64 p ∧ SV.b false = SV.b z ∧ (false = false ∧ Cont.a64 H0 = Cont.a64 H0) ∧ (false = false ∧ Cont.a64 K80 = Cont.a64 K80) ∧ (true = true ∧ Cont.a64 x = Cont.a64 x) ∧ True) := by kernel_rfl
theorem vr9s (a : S9 → Prop) (q : Prop) : (frK 35 (I9 .fst) fun fr => vround Tryd.prog E3 N9f 9 0 fr G (Kp G 0 35 sel9 a I9 Mi9 q (O9 80 0) G)) = (loopOf Tryd.prog 9 2 = loopOf Tryd.prog 9 2 ∧ SV.i 80 = SV.i 80 ∧ SV.v (Value.slice none 0 0) = SV.v (Value.slice none 0 0) ∧ SV.w64 (BitVec.ofInt 64 2) = SV.w64 (BitVec.ofInt 64 2) ∧ SV.b true = SV.b true ∧ SV.i 0 = SV.i 0 ∧ (false = false ∧ Cont.a64 H0 = Cont.a64 H0) ∧ (false = false ∧ Cont.a64 K80 = Cont.a64 K80) ∧ ∀ (cap' : Nat) (rest : List (BitVec 64)), 1 + rest.length = cap' → a (S9.more (BitVec.ofInt 64 2 + BitVec.ofInt 64 1) 1 cap' (List.take 1 (List.drop 0 [BitVec.ofInt 64 2]) ++ rest)) ∧ SV.i 80 = ren (sig 2 [3]) (SV.i 80) ∧ SV.sl 3 0 1 cap' = ren (sig 2 [3]) (SV.sl 2 0 1 cap') ∧ SV.w64 (BitVec.ofInt 64 2 + BitVec.ofInt 64 1) = ren (sig 2 [3]) (SV.w64 (BitVec.ofInt 64 2 + BitVec.ofInt 64 1)) ∧ (false = false ∧ Cont.a64 H0 = Cont.ren (sig 2 [3]) (Cont.a64 H0)) ∧ (false = false ∧ Cont.a64 K80 = Cont.ren (sig 2 [3]) (Cont.a64 K80)) ∧ (true = true ∧ Cont.a64 (List.take 1 (List.drop 0 [BitVec.ofInt 64 2]) ++ rest) = Cont.ren (sig 2 [3]) (Cont.a64 (List.take 1 (List.drop 0 [BitVec.ofInt 64 2]) ++ rest))) ∧ True) := by kernel_rfl
theorem vr9m (p : BitVec 64) (len cap : Nat) (x : List (BitVec 64)) (t : Bool) (a : S9 → Prop) (q : Prop) : (frK 35 (I9 (.more p len cap x)) fun fr => vround Tryd.prog E3 (N9 p len cap x t) 9 0 fr (M9 x) (Kp G 0 35 sel9 a I9 Mi9 q (O9 len cap) (M9 x))) = (bif ilt (↑len : Int) 80 then loopOf Tryd.prog 9 2 = loopOf Tryd.prog 9 2 ∧ SV.i 80 = SV.i 80 ∧ SV.sl 2 0 len cap = SV.sl 2 0 len cap ∧ SV.w64 p = SV.w64 p ∧ SV.b true = SV.b true ∧ SV.i 0 = SV.i (↑0 : Int) ∧ (false = false ∧ Cont.a64 H0 = Cont.a64 H0) ∧ (false = false ∧ Cont.a64 K80 = Cont.a64 K80) ∧ (true = true ∧ Cont.a64 x = Cont.a64 x) ∧ bif t then bif decide (len ≤ cap) && decide (x.length = cap) && decide (len + 1 ≤ 68719476736) && true then ∀ (cap' : Nat) (rest : List (BitVec 64)), len + 1 + rest.length = cap' → a (S9.more (p + BitVec.ofInt 64 1) (len + 1) cap' (List.take len x ++ List.take 1 (List.drop 0 [p]) ++ rest)) ∧ SV.i 80 = ren (sig 2 [0 + 1 + 1 + 1 + 1]) (SV.i 80) ∧ SV.sl (0 + 1 + 1 + 1 + 1) 0 (len + 1) cap' = ren (sig 2 [0 + 1 + 1 + 1 + 1]) (SV.sl 2 0 (len + 1) cap') ∧ SV.w64 (p + BitVec.ofInt 64 1) = ren (sig 2 [0 + 1 + 1 + 1 + 1]) (SV.w64 (p + BitVec.ofInt 64 1)) ∧ (false = false ∧ Cont.a64 H0 = Cont.ren (sig 2 [0 + 1 + 1 + 1 + 1]) (Cont.a64 H0)) ∧ (false = false ∧ Cont.a64 K80 = Cont.ren (sig 2 [0 + 1 + 1 + 1 + 1]) (Cont.a64 K80)) ∧ (true = true ∧ Cont.a64 (List.take len x ++ List.take 1 (List.drop 0 [p]) ++ rest) = Cont.ren (sig 2 [0 + 1 + 1 + 1 + 1]) (Cont.a64 (List.take len x ++ List.take 1 (List.drop 0 [p]) ++ rest))) ∧ True else False else a (S9.more (p + BitVec.ofInt 64 1) len cap x) ∧ SV.i 80 = ren (sig 2 [2]) (SV.i 80) ∧ SV.sl 2 0 len cap = ren (sig 2 [2]) (SV.sl 2 0 len cap) ∧ SV.w64 (p + BitVec.ofInt 64 1) = ren (sig 2 [2]) (SV.w64 (p + BitVec.ofInt 64 1)) ∧ (false = false ∧ Cont.a64 H0 = Cont.ren (sig 2 [2]) (Cont.a64 H0)) ∧ (false = false ∧ Cont.a64 K80 = Cont.ren (sig 2 [2]) (Cont.a64 K80)) ∧ (true = true ∧ Cont.a64 x = Cont.ren (sig 2 [2]) (Cont.a64 x)) ∧ True else 0 = 0 ∧ q ∧ SV.sl 2 0 len cap = SV.sl 2 0 len cap ∧ (false = false ∧ Cont.a64 H0 = Cont.a64 H0) ∧ (false = false ∧ Cont.a64 K80 = Cont.a64 K80) ∧ (true = true ∧ Cont.a64 x = Cont.a64 x) ∧ True) := by kernel_rfl
/-- The primes below 3 + k. -/
def rw9 (k : Nat) : List (BitVec 64) := pr80.filter fun q => Nat.blt q.toNat (3 + k)
/-- None of the first n divides p. -/
def nd (p : BitVec 64) (x : List (BitVec 64)) : Nat → Bool
  | 0 => true
  | n + 1 => bif nd p x n then p % x.getD n 0 != BitVec.ofInt 64 0 else false
def chk9 (k : Nat) : Bool := decide (rw9 (k + 1) = bif nd (BitVec.ofNat 64 (3 + k)) (rw9 k) (rw9 k).length then rw9 k ++ [BitVec.ofNat 64 (3 + k)] else rw9 k) && Nat.blt (rw9 k).length 80
theorem chk_all : (List.range 407).all chk9 = true := by kernel_rfl
theorem rw9_all : rw9 407 = pr80 := by kernel_rfl
theorem pr_ne : pr80.all (fun q => q != 0) = true := by kernel_rfl
theorem rw9_next (k : Nat) (h : k < 407) : rw9 (k + 1) = (bif nd (BitVec.ofNat 64 (3 + k)) (rw9 k) (rw9 k).length then rw9 k ++ [BitVec.ofNat 64 (3 + k)] else rw9 k) ∧ (rw9 k).length < 80 := by
  have h1 := List.all_eq_true.1 chk_all k (List.mem_range.2 h)
  unfold chk9 at h1
  simp only [Bool.and_eq_true] at h1
  exact ⟨of_decide_eq_true h1.1, blt_lt h1.2⟩
theorem rw9_ne (k j : Nat) (h : j < (rw9 k).length) : ((rw9 k).getD j 0 != 0) = true := by
  rw [List.getD_eq_getElem?_getD, List.getElem?_eq_getElem h]
  exact List.all_eq_true.1 pr_ne _ (List.mem_filter.1 (List.getElem_mem h)).1
theorem nd_left (p : BitVec 64) (x y : List (BitVec 64)) : ∀ n, n ≤ x.length → nd p (x ++ y) n = nd p x n
  | 0, _ => rfl
  | n + 1, h => by rw [nd, nd, nd_left p x y n (by omega), getD_left x y n (by omega)]
def p9 : S9 → Prop
  | .fst => True
  | .more p len cap x => ∃ k rest, k ≤ 407 ∧ p = BitVec.ofNat 64 (3 + k) ∧ x = rw9 k ++ rest ∧ len = (rw9 k).length ∧ x.length = cap
def m9 : S9 → Nat
  | .fst => 500
  | .more p _ _ _ => 410 - p.toNat
def q9 : S9 → Prop
  | .fst => False
  | .more _ len _ _ => ¬ len < 80
def o9 : S9 → List (Nat × SV)
  | .fst => O9 80 0
  | .more _ len cap _ => O9 len cap
def l9 : S9 → LT
  | .fst => N9f
  | .more p len cap x => N9 p len cap x (nd p x len)
theorem toNat_small (k : Nat) (h : k ≤ 500) : (BitVec.ofNat 64 (3 + k)).toNat = 3 + k := by rw [BitVec.toNat_ofNat]; omega
theorem next_word (k : Nat) : BitVec.ofNat 64 (3 + k) + BitVec.ofInt 64 1 = BitVec.ofNat 64 (3 + (k + 1)) := by
  apply BitVec.eq_of_toNat_eq
  rw [BitVec.toNat_add, BitVec.toNat_ofNat, BitVec.toNat_ofNat, show (BitVec.ofInt 64 1).toNat = 1 from rfl]
  omega
theorem loop9b (p : BitVec 64) (len cap : Nat) (x : List (BitVec 64)) (hl : len ≤ x.length) (hlen : len ≤ 100) (hne : ∀ j, j < len → (x.getD j 0 != 0) = true) : LOk Tryd.prog G G 9 (N9 p len cap x (nd p x len)) := by
  refine LT.add_ok (noL_ok _ _ _ _) (loop_next e3_ok mixed (noL_ok _ _ _ _) (Nat.le_refl _) (by kernel_rfl) (fun j => i9b p len cap (nd p x j) j) (fun _ => M9 x) (fun j => j ≤ len) (fun j => len - j) (fun j => j + 1) 0 (Nat.zero_le _) fun j hj => ?_)
  have en : nd p x (j + 1) = bif nd p x j then p % x.getD j 0 != BitVec.ofInt 64 0 else false := rfl
  rw [en]
  cases ht : nd p x j
  · refine of_eq (vr9bf p len cap j x _ _ _) ?_
    cases hv : ilt (j : Int) (len : Int)
    · have hj2 : j = len := by rw [ilt_eq] at hv; have := of_decide_eq_false hv; omega
      subst hj2
      rw [ht]
      exact ⟨rfl, rfl, rfl, rfl, rfl, ⟨rfl, rfl⟩, ⟨rfl, rfl⟩, ⟨rfl, rfl⟩, trivial⟩
    · have hj2 : j < len := by rw [ilt_eq] at hv; have := of_decide_eq_true hv; omega
      refine bif_of (inI_iff.2 (by omega)) ?_
      exact ⟨⟨by omega, by omega⟩, rfl, rfl, rfl, rfl, rfl, ⟨rfl, rfl⟩, ⟨rfl, rfl⟩, ⟨rfl, rfl⟩, trivial⟩
  · refine of_eq (vr9bt p len cap j x _ _ _) ?_
    cases hv : ilt (j : Int) (len : Int)
    · have hj2 : j = len := by rw [ilt_eq] at hv; have := of_decide_eq_false hv; omega
      subst hj2
      rw [ht]
      exact ⟨rfl, rfl, rfl, rfl, rfl, ⟨rfl, rfl⟩, ⟨rfl, rfl⟩, ⟨rfl, rfl⟩, trivial⟩
    · have hj2 : j < len := by rw [ilt_eq] at hv; have := of_decide_eq_true hv; omega
      refine bif_of (inR_nat hj2) (bif_of (blt_of (by omega)) (bif_of (hne j hj2) (bif_of (inI_iff.2 (by omega)) ?_)))
      exact ⟨⟨by omega, by omega⟩, rfl, rfl, rfl, rfl, rfl, ⟨rfl, rfl⟩, ⟨rfl, rfl⟩, ⟨rfl, rfl⟩, trivial⟩
theorem loop9f : LOk Tryd.prog G G 9 N9f :=
  LT.add_ok (noL_ok _ _ _ _) (loop_next e3_ok mixed (noL_ok _ _ _ _) (Nat.le_refl _) (by kernel_rfl) (fun _ : Unit => (6, .i 0) :: f9) (fun _ => G) (fun _ => True) (fun _ => 0) (fun j => j) () trivial fun j hj => of_eq (vr9f _) ⟨rfl, rfl, rfl, rfl, rfl, ⟨rfl, rfl⟩, ⟨rfl, rfl⟩, trivial⟩)
def P9 (cap : Nat) (x : List (BitVec 64)) : Prop := ∃ rest, x = pr80 ++ rest ∧ x.length = cap
theorem rw9_len (k : Nat) (h : k ≤ 407) : (rw9 k).length ≤ 80 := by
  rcases Nat.lt_or_eq_of_le h with h1 | rfl
  · exact Nat.le_of_lt (rw9_next k h1).2
  · rw [rw9_all]; exact Nat.le_refl 80
theorem loop9 : LOk Tryd.prog G G 9 (L9 P9) := by
  refine LT.add_ok (noL_ok _ _ _ _) fun fr M K h => ?_
  obtain ⟨h0, hK⟩ := vLe_ok h
  refine loop_pick e3_ok mixed (Nat.le_refl _) (by kernel_rfl) I9 Mi9 p9 m9 (fun _ => sel9) q9 o9 Mi9 .fst trivial l9 (fun i hp => ?_) (fun i hp => ?_) h0 (fun i hp hq => ?_)
  · cases i with
    | fst => exact loop9f
    | more p len cap x =>
      obtain ⟨k, rest, hk, rfl, rfl, rfl, hc⟩ := hp
      have := rw9_len k hk
      refine loop9b _ _ cap _ (by rw [List.length_append]; omega) (by omega) fun j hj => ?_
      rw [getD_left _ _ _ hj]
      exact rw9_ne k j hj
  · cases i with
    | fst =>
      refine of_eq (vr9s _ _) ⟨rfl, rfl, rfl, rfl, rfl, rfl, ⟨rfl, rfl⟩, ⟨rfl, rfl⟩, fun cap' rest hc => ?_⟩
      refine ⟨⟨⟨0, rest, by decide, rfl, rfl, rfl, ?_⟩, ?_⟩, rfl, rfl, rfl, ⟨rfl, rfl⟩, ⟨rfl, rfl⟩, ⟨rfl, rfl⟩, trivial⟩
      · rw [← hc, List.length_append]; rfl
      · show 410 - 3 < 500; decide
    | more p len cap x =>
      obtain ⟨k, rest, hk, rfl, rfl, rfl, hc⟩ := hp
      have hlk := rw9_len k hk
      have hle : (rw9 k).length ≤ cap := by rw [← hc, List.length_append]; omega
      have ht : (rw9 k ++ rest).take (rw9 k).length = rw9 k := by simp
      refine of_eq (vr9m _ _ cap _ _ _ _) ?_
      cases hv : ilt ((rw9 k).length : Int) 80
      · have hj2 : ¬ (rw9 k).length < 80 := by rw [ilt_eq] at hv; have := of_decide_eq_false hv; omega
        exact ⟨rfl, hj2, rfl, ⟨rfl, rfl⟩, ⟨rfl, rfl⟩, ⟨rfl, rfl⟩, trivial⟩
      · have hj2 : (rw9 k).length < 80 := by rw [ilt_eq] at hv; have := of_decide_eq_true hv; omega
        have hk2 : k < 407 := by
          rcases Nat.lt_or_eq_of_le hk with h1 | rfl
          · exact h1
          · rw [rw9_all] at hj2; exact absurd hj2 (Nat.lt_irrefl 80)
        obtain ⟨hn, -⟩ := rw9_next k hk2
        refine ⟨rfl, rfl, rfl, rfl, rfl, rfl, ⟨rfl, rfl⟩, ⟨rfl, rfl⟩, ⟨rfl, rfl⟩, ?_⟩
        rw [nd_left _ _ _ _ (Nat.le_refl _), next_word, ht]
        have hmu : m9 (.more (BitVec.ofNat 64 (3 + (k + 1))) 0 0 []) < m9 (.more (BitVec.ofNat 64 (3 + k)) 0 0 []) := by
          show 410 - _ < 410 - _
          rw [toNat_small k (by omega), toNat_small (k + 1) (by omega)]; omega
        cases hb : nd (BitVec.ofNat 64 (3 + k)) (rw9 k) (rw9 k).length
        · rw [hb] at hn
          exact ⟨⟨⟨k + 1, rest, hk2, rfl, by rw [hn]; rfl, by rw [hn]; rfl, hc⟩, hmu⟩, rfl, rfl, rfl, ⟨rfl, rfl⟩, ⟨rfl, rfl⟩, ⟨rfl, rfl⟩, trivial⟩
        · rw [hb] at hn
          refine bif_of (by simp [hle, hc]; omega) fun cap' rest' hc' => ?_
          refine ⟨⟨⟨k + 1, rest', hk2, rfl, by rw [hn]; rfl, by rw [hn]; simp, ?_⟩, hmu⟩, rfl, rfl, rfl, ⟨rfl, rfl⟩, ⟨rfl, rfl⟩, ⟨rfl, rfl⟩, trivial⟩
          rw [← hc']; simp; omega
  · cases i with
    | fst => exact hq.elim
    | more p len cap x =>
      obtain ⟨k, rest, hk, rfl, rfl, rfl, hc⟩ := hp
      have hk2 : k = 407 := by
        rcases Nat.lt_or_eq_of_le hk with h1 | h1
        · exact absurd (rw9_next k h1).2 hq
        · exact h1
      subst hk2
      have := hK cap _ ⟨rest, by rw [rw9_all], hc⟩
      rw [frK_eq] at this
      exact this
theorem primes_ok : COk Tryd.prog G 9 cPrimes := by
  intro args M K h
  unfold cPrimes at h
  split at h
  · rename_i n
    obtain ⟨hb, hh⟩ := vsome_iff.1 h
    simp only [Bool.and_eq_true, ile_eq, decide_eq_true_eq] at hb
    obtain rfl : n = 80 := by omega
    refine eff_of (R := []) (args0 := [.i 80]) (K0 := fun r M => ∃ cap rest, 80 + rest.length = cap ∧ r = .sl 2 0 80 cap ∧ M = M9 (pr80 ++ rest)) [] (vf_ok (M := G) e3_ok mixed loop9 (of_eq (vc9 _ _) ?_)) rfl rfl (by simp) trivial ?_
    · refine ⟨rfl, rfl, rfl, rfl, ⟨rfl, rfl⟩, ⟨rfl, rfl⟩, fun cap x hx => ?_⟩
      obtain ⟨rest, rfl, hx⟩ := hx
      refine ⟨cap, rest, ?_, rfl, rfl⟩
      rw [← hx, List.length_append]; rfl
    · rintro r1 M1 ⟨cap', rest, hc, rfl, rfl⟩
      have := hh cap' rest hc
      rw [snocK_eq] at this
      exact this
  · exact h.elim
theorem calls4 (n : Nat) (hn : n < 256) {W : World} (hR : Rel G (fun k => k) G W) : Calls Tryd.prog 4 #[.int .u8 (n : Int)] W (fun e W' => e = .returned (.bool true) ∧ Fp0 W W') := by
  have := spec_calls (f := 4) (fn := Tryd.f4) Tryd.func4 rfl (by kernel_rfl) (law4 primes_ok (BitVec.ofNat 8 n)) hR rfl g_ro rfl
  have e : (vals (fun k => k) [SV.w8 (BitVec.ofNat 8 n)]).toArray = #[Value.int .u8 (n : Int)] := by
    have : n % 256 = n := Nat.mod_eq_of_lt hn
    simp [vals, val, c8, this]
  rw [e] at this
  exact this
end Go.Proofs.YtdejfaccoepfhaaDoor
