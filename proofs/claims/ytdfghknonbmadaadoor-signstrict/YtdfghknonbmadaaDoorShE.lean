/-
  sha: the bytes of a word. No statement is proved here.
-/
import Derived.Test.YtdfghknonbmadaaDoorShC
import Derived.Test.YtdfghknonbmadaaDoorOrA
namespace Go.Proofs.YtdfghknonbmadaaDoor
namespace Sh
open Go.RowKit
set_option linter.unusedVariables false
set_option linter.unusedSimpArgs false
set_option maxRecDepth 100000
def T3 : PT := T2.add 43 cNext
def E3 : Env := ⟨G, T3, noC⟩
theorem e3_ok : EnvOk Tryd.prog E3 := ⟨PT.add_ok e2_ok.T next_ok, noC_ok _ _⟩

/-- A loop's state: none is added yet; or how many bytes are, how much there is room for, and what the block holds. -/
inductive S23 where
  | fst (cap : Nat) (x : List (BitVec 8))
  | more (j cap : Nat) (x : List (BitVec 8))
def B23 (l : List (BitVec 8)) : Mm := [⟨false, .a64 BEG⟩, ⟨false, .a64 PRI⟩, ⟨false, .a64 CON⟩, ⟨false, .a64 WHO⟩, ⟨false, .a64 ROM⟩, ⟨true, .a8 l⟩]
def N23 (x : List (BitVec 8)) : Mm := [⟨false, .a64 BEG⟩, ⟨false, .a64 PRI⟩, ⟨false, .a64 CON⟩, ⟨false, .a64 WHO⟩, ⟨false, .a64 ROM⟩, ⟨true, .gone⟩, ⟨true, .a8 x⟩]
def I23 (w : BitVec 64) (len : Nat) : S23 → List (Nat × SV)
  | .fst cap _ => [(0, .sl 5 0 len cap), (1, .w64 w), (5, .i 56)]
  | .more j cap _ => [(0, .sl 6 0 (len + j) cap), (1, .w64 w), (5, .i (56 - 8 * (j : Int)))]
def Mi23 : S23 → Mm
  | .fst _ x => B23 x
  | .more _ _ x => N23 x
def got23 (j : Nat) (fr : List SV) (M : Mm) : Option S23 := match fr with
  | SV.sl k _ _ cap :: _ => match M[k]? with
    | some ⟨_, .a8 x⟩ => some (.more (j + 1) cap x)
    | _ => none
  | _ => none
def sel23 : S23 → List SV → Mm → Option S23
  | .fst _ _ => got23 0
  | .more j _ _ => got23 j
def rs23 : S23 → List Nat
  | .fst _ _ => [7]
  | .more _ _ _ => [8]
def O23 (len cap : Nat) : List (Nat × SV) := [(0, .sl 6 0 (len + 8) cap)]
def vLp23 (l : List (BitVec 8)) (w : BitVec 64) (len cap : Nat) (p : Nat → List (BitVec 8) → Prop) (fr : List SV) (M : Mm) (K : Ko) : Prop := vLe (B23 l) fr M 18 (I23 w len (.fst cap l)) (B23 l) (∀ cap' x, p cap' x → frK 18 (O23 len cap') fun fr1 => K .normal fr1 (N23 x))
def L23 (l : List (BitVec 8)) (w : BitVec 64) (len cap : Nat) (p : Nat → List (BitVec 8) → Prop) : LT := noL.add 0 (vLp23 l w len cap p)
theorem vc23 (l : List (BitVec 8)) (w : BitVec 64) (len cap : Nat) (p : Nat → List (BitVec 8) → Prop) (K : SV → Mm → Prop) : (vf Tryd.prog E3 (L23 l w len cap p) 68 [.sl 5 0 len cap, .w64 w] (B23 l) K) = (loopOf Tryd.prog 68 0 = loopOf Tryd.prog 68 0 ∧ SV.sl 5 0 len cap = SV.sl 5 0 len cap ∧ SV.w64 w = SV.w64 w ∧ SV.i 56 = SV.i 56 ∧ (false = false ∧ Cont.a64 BEG = Cont.a64 BEG) ∧ (false = false ∧ Cont.a64 PRI = Cont.a64 PRI) ∧ (false = false ∧ Cont.a64 CON = Cont.a64 CON) ∧ (false = false ∧ Cont.a64 WHO = Cont.a64 WHO) ∧ (false = false ∧ Cont.a64 ROM = Cont.a64 ROM) ∧ (true = true ∧ Cont.a8 l = Cont.a8 l) ∧ ∀ (cap' : Nat) (x : List (BitVec 8)), p cap' x → K (SV.sl 6 0 (len + 8) cap') (N23 x)) := by kernel_rfl
theorem vr23a (l x : List (BitVec 8)) (w : BitVec 64) (len cap : Nat) (a : S23 → Prop) (q : Prop) : (frK 18 (I23 w len (.fst cap x)) fun fr => vround Tryd.prog E3 noL 68 0 fr (Mi23 (.fst cap x)) (Ks (B23 l) 0 18 (sel23 (.fst cap x)) (rs23 (.fst cap x)) a (I23 w len) Mi23 q (O23 len cap) (N23 x))) = (bif decide (len ≤ cap) && decide (x.length = cap) && decide (len + (List.take 1 (List.drop 0 [BitVec.setWidth 8 (w >>> 56)])).length ≤ 1099511627776) && true then ∀ (cap' : Nat) (rest : List (BitVec 8)), len + (List.take 1 (List.drop 0 [BitVec.setWidth 8 (w >>> 56)])).length + rest.length = cap' → a (S23.more 1 cap' (List.take len x ++ List.take 1 (List.drop 0 [BitVec.setWidth 8 (w >>> 56)]) ++ rest)) ∧ SV.sl (0 + 1 + 1 + 1 + 1 + 1 + 1 + 1) 0 (len + (List.take 1 (List.drop 0 [BitVec.setWidth 8 (w >>> 56)])).length) cap' = ren (sig (List.length (B23 l)) (rs23 (S23.fst cap x))) (SV.sl 6 0 (len + 1) cap') ∧ SV.w64 w = ren (sig (List.length (B23 l)) (rs23 (S23.fst cap x))) (SV.w64 w) ∧ SV.i (56 - 8) = ren (sig (List.length (B23 l)) (rs23 (S23.fst cap x))) (SV.i (56 - 8 * (↑1 : Int))) ∧ (false = false ∧ Cont.a64 BEG = Cont.ren (sig (List.length (B23 l)) (rs23 (S23.fst cap x))) (Cont.a64 BEG)) ∧ (false = false ∧ Cont.a64 PRI = Cont.ren (sig (List.length (B23 l)) (rs23 (S23.fst cap x))) (Cont.a64 PRI)) ∧ (false = false ∧ Cont.a64 CON = Cont.ren (sig (List.length (B23 l)) (rs23 (S23.fst cap x))) (Cont.a64 CON)) ∧ (false = false ∧ Cont.a64 WHO = Cont.ren (sig (List.length (B23 l)) (rs23 (S23.fst cap x))) (Cont.a64 WHO)) ∧ (false = false ∧ Cont.a64 ROM = Cont.ren (sig (List.length (B23 l)) (rs23 (S23.fst cap x))) (Cont.a64 ROM)) ∧ (true = true ∧ Cont.gone = Cont.ren (sig (List.length (B23 l)) (rs23 (S23.fst cap x))) Cont.gone) ∧ (true = true ∧ Cont.a8 (List.take len x ++ List.take 1 (List.drop 0 [BitVec.setWidth 8 (w >>> 56)]) ++ rest) = Cont.ren (sig (List.length (B23 l)) (rs23 (S23.fst cap x))) (Cont.a8 (List.take len x ++ List.take 1 (List.drop 0 [BitVec.setWidth 8 (w >>> 56)]) ++ rest))) ∧ True else False) := by kernel_rfl
theorem vr23b (l x : List (BitVec 8)) (w : BitVec 64) (len cap j : Nat) (a : S23 → Prop) (q : Prop) : (frK 18 (I23 w len (.more j cap x)) fun fr => vround Tryd.prog E3 noL 68 0 fr (Mi23 (.more j cap x)) (Ks (B23 l) 0 18 (sel23 (.more j cap x)) (rs23 (.more j cap x)) a (I23 w len) Mi23 q (O23 len cap) (N23 x))) = (bif ile 0 (56 - 8 * (↑j : Int)) then bif ile 0 (56 - 8 * (↑j : Int)) then bif decide (len + j ≤ cap) && decide (x.length = cap) && decide (len + j + (List.take 1 (List.drop 0 [BitVec.setWidth 8 (w >>> (56 - 8 * (↑j : Int)).toNat)])).length ≤ 1099511627776) && true then ∀ (cap' : Nat) (rest : List (BitVec 8)), len + j + (List.take 1 (List.drop 0 [BitVec.setWidth 8 (w >>> (56 - 8 * (↑j : Int)).toNat)])).length + rest.length = cap' → bif inI (56 - 8 * (↑j : Int) - 8) then a (S23.more (j + 1) cap' (List.take (len + j) x ++ List.take 1 (List.drop 0 [BitVec.setWidth 8 (w >>> (56 - 8 * (↑j : Int)).toNat)]) ++ rest)) ∧ SV.sl (0 + 1 + 1 + 1 + 1 + 1 + 1 + 1 + 1) 0 (len + j + (List.take 1 (List.drop 0 [BitVec.setWidth 8 (w >>> (56 - 8 * (↑j : Int)).toNat)])).length) cap' = ren (sig (List.length (B23 l)) (rs23 (S23.more j cap x))) (SV.sl 6 0 (len + (j + 1)) cap') ∧ SV.w64 w = ren (sig (List.length (B23 l)) (rs23 (S23.more j cap x))) (SV.w64 w) ∧ SV.i (56 - 8 * (↑j : Int) - 8) = ren (sig (List.length (B23 l)) (rs23 (S23.more j cap x))) (SV.i (56 - 8 * (↑(j + 1) : Int))) ∧ (false = false ∧ Cont.a64 BEG = Cont.ren (sig (List.length (B23 l)) (rs23 (S23.more j cap x))) (Cont.a64 BEG)) ∧ (false = false ∧ Cont.a64 PRI = Cont.ren (sig (List.length (B23 l)) (rs23 (S23.more j cap x))) (Cont.a64 PRI)) ∧ (false = false ∧ Cont.a64 CON = Cont.ren (sig (List.length (B23 l)) (rs23 (S23.more j cap x))) (Cont.a64 CON)) ∧ (false = false ∧ Cont.a64 WHO = Cont.ren (sig (List.length (B23 l)) (rs23 (S23.more j cap x))) (Cont.a64 WHO)) ∧ (false = false ∧ Cont.a64 ROM = Cont.ren (sig (List.length (B23 l)) (rs23 (S23.more j cap x))) (Cont.a64 ROM)) ∧ (true = true ∧ Cont.gone = Cont.ren (sig (List.length (B23 l)) (rs23 (S23.more j cap x))) Cont.gone) ∧ (true = true ∧ Cont.a8 (List.take (len + j) x ++ List.take 1 (List.drop 0 [BitVec.setWidth 8 (w >>> (56 - 8 * (↑j : Int)).toNat)]) ++ rest) = Cont.ren (sig (List.length (B23 l)) (rs23 (S23.more j cap x))) (Cont.a8 (List.take (len + j) x ++ List.take 1 (List.drop 0 [BitVec.setWidth 8 (w >>> (56 - 8 * (↑j : Int)).toNat)]) ++ rest))) ∧ True else False else False else False else 0 = 0 ∧ q ∧ SV.sl 6 0 (len + j) cap = SV.sl 6 0 (len + 8) cap ∧ (false = false ∧ Cont.a64 BEG = Cont.a64 BEG) ∧ (false = false ∧ Cont.a64 PRI = Cont.a64 PRI) ∧ (false = false ∧ Cont.a64 CON = Cont.a64 CON) ∧ (false = false ∧ Cont.a64 WHO = Cont.a64 WHO) ∧ (false = false ∧ Cont.a64 ROM = Cont.a64 ROM) ∧ (true = true ∧ Cont.gone = Cont.gone) ∧ (true = true ∧ Cont.a8 x = Cont.a8 x) ∧ True) := by kernel_rfl
/-- The bytes of a word, the highest first. -/
def by64 (w : BitVec 64) : List (BitVec 8) := (List.range 8).map fun k => (w >>> (56 - 8 * k)).setWidth 8
theorem by64_len (w : BitVec 64) : (by64 w).length = 8 := rfl
def p23 (l : List (BitVec 8)) (w : BitVec 64) (len cap : Nat) : S23 → Prop
  | .fst c x => c = cap ∧ x = l
  | .more j c x => j ≤ 8 ∧ x.length = c ∧ ∃ rest, x = l.take len ++ (by64 w).take j ++ rest
def m23 : S23 → Nat
  | .fst _ _ => 9
  | .more j _ _ => 8 - j
def q23 : S23 → Prop
  | .fst _ _ => False
  | .more j _ _ => j = 8
def o23 (len : Nat) : S23 → List (Nat × SV)
  | .fst c _ => O23 len c
  | .more _ c _ => O23 len c
def n23 : S23 → Mm
  | .fst _ x => N23 x
  | .more _ _ x => N23 x
theorem by64_take (w : BitVec 64) (j : Nat) (h : j < 8) : (by64 w).take (j + 1) = (by64 w).take j ++ [(w >>> (56 - 8 * j)).setWidth 8] := by
  rw [List.take_add_one]
  congr 1
  simp [by64, h]
theorem take_app {α : Type} (a b c : List α) (n : Nat) (h : a.length + b.length = n) : (a ++ b ++ c).take n = a ++ b := by
  rw [List.take_append_of_le_length (by simp; omega), List.take_of_length_le (by simp; omega)]
def P23 (l : List (BitVec 8)) (w : BitVec 64) (len : Nat) (cap : Nat) (x : List (BitVec 8)) : Prop := x.length = cap ∧ ∃ rest, x = l.take len ++ by64 w ++ rest
theorem loop23 (l : List (BitVec 8)) (w : BitVec 64) (len cap : Nat) (h1 : len ≤ cap) (h2 : l.length = cap) (h3 : len + 8 ≤ 1099511627776) : LOk Tryd.prog G (B23 l) 68 (L23 l w len cap (P23 l w len)) := by
  refine LT.add_ok (noL_ok _ _ _ _) fun fr M K h => ?_
  obtain ⟨h0, hK⟩ := vLe_ok h
  refine loop_sel e3_ok mixed (noL_ok _ _ _ _) (by show 5 ≤ 6; decide) (by kernel_rfl) (I23 w len) Mi23 (p23 l w len cap) m23 sel23 rs23 q23 (o23 len) n23 (.fst cap l) ⟨rfl, rfl⟩ (fun i hp => ?_) h0 (fun i hp hq => ?_)
  · cases i with
    | fst c x =>
      obtain ⟨rfl, rfl⟩ := hp
      refine of_eq (vr23a x x w len c _ _) (bif_of ?_ fun cap' rest hc => ?_)
      · simp; omega
      · refine ⟨⟨⟨by decide, ?_, rest, rfl⟩, ?_⟩, rfl, rfl, rfl, ⟨rfl, rfl⟩, ⟨rfl, rfl⟩, ⟨rfl, rfl⟩, ⟨rfl, rfl⟩, ⟨rfl, rfl⟩, ⟨rfl, rfl⟩, ⟨rfl, rfl⟩, trivial⟩
        · simp at hc ⊢; omega
        · show 8 - 1 < 9; decide
    | more j c x =>
      obtain ⟨hj, hx, rest, hr⟩ := hp
      have hl : (l.take len).length + ((by64 w).take j).length = len + j := by rw [List.length_take, List.length_take, by64_len]; omega
      have hcl : len + j ≤ c := by rw [← hx, hr, List.length_append, List.length_append, hl]; omega
      have ht : x.take (len + j) = l.take len ++ (by64 w).take j := by rw [hr]; exact take_app _ _ _ _ hl
      refine of_eq (vr23b l x w len c j _ _) ?_
      cases hc : ile 0 (56 - 8 * (j : Int))
      · have hj2 : j = 8 := by rw [ile_eq] at hc; have := of_decide_eq_false hc; omega
        subst hj2
        exact ⟨rfl, rfl, rfl, ⟨rfl, rfl⟩, ⟨rfl, rfl⟩, ⟨rfl, rfl⟩, ⟨rfl, rfl⟩, ⟨rfl, rfl⟩, ⟨rfl, rfl⟩, ⟨rfl, rfl⟩, trivial⟩
      · have hj2 : j < 8 := by rw [ile_eq] at hc; have := of_decide_eq_true hc; omega
        have e : (56 - 8 * (j : Int)).toNat = 56 - 8 * j := by omega
        rw [e, ht]
        refine bif_of ?_ fun cap' rest' hc' => bif_of (inI_iff.2 (by omega)) ?_
        · simp; omega
        · refine ⟨⟨⟨by omega, ?_, rest', ?_⟩, ?_⟩, rfl, rfl, ?_, ⟨rfl, rfl⟩, ⟨rfl, rfl⟩, ⟨rfl, rfl⟩, ⟨rfl, rfl⟩, ⟨rfl, rfl⟩, ⟨rfl, rfl⟩, ⟨rfl, rfl⟩, trivial⟩
          · rw [← hc', List.length_append, List.length_append, List.length_append, hl]
          · rw [by64_take w j hj2]
            simp
          · show 8 - (j + 1) < 8 - j; omega
          · exact congrArg SV.i (by omega)
  · cases i with
    | fst c x => exact hq.elim
    | more j c x =>
      obtain ⟨hj, hx, rest, hr⟩ := hp
      obtain rfl : j = 8 := hq
      have := hK c x ⟨hx, rest, hr⟩
      rw [frK_eq] at this
      exact this
/-- What is told of adding a word's bytes to a slice. -/
def cPack : List SV → Mm → (SV → Mm → Prop) → Prop
  | [.sl k off len cap, .w64 w], M, K => match M[k]? with
    | some ⟨true, .a8 l⟩ => vsome (Nat.beq off 0 && (decide (len ≤ cap) && (decide (l.length = cap) && decide (len + 8 ≤ 1099511627776)))) <|
      ∀ (cap' : Nat) (rest : List (BitVec 8)), len + 8 + rest.length = cap' → setK M k ⟨true, .gone⟩ fun M1 => snocK M1 ⟨true, .a8 (l.take len ++ by64 w ++ rest)⟩ fun M2 => K (.sl M.length 0 (len + 8) cap') M2
    | _ => False
  | _, _, _ => False
theorem pack_ok : COk Tryd.prog G 68 cPack := by
  intro args M K h
  unfold cPack at h
  split at h
  · rename_i k off len cap w
    split at h
    · rename_i l hk
      obtain ⟨hb, hh⟩ := vsome_iff.1 h
      simp only [Bool.and_eq_true, decide_eq_true_eq] at hb
      obtain ⟨h0, h1, h2, h3⟩ := hb
      obtain rfl := Nat.eq_of_beq_eq_true h0
      refine eff_of (R := [⟨true, .a8 l⟩]) (args0 := [.sl 5 0 len cap, .w64 w]) (K0 := fun r M => ∃ cap' rest, len + 8 + rest.length = cap' ∧ r = .sl 6 0 (len + 8) cap' ∧ M = N23 (l.take len ++ by64 w ++ rest)) [k] (vf_ok (M := B23 l) e3_ok mixed (loop23 l w len cap h1 h2 h3) (of_eq (vc23 l w len cap _ _) ?_)) rfl rfl (by simp) ⟨⟨true, hk, fun h => h⟩, ⟨rfl, rfl⟩, trivial⟩ ?_
      · refine ⟨rfl, rfl, rfl, rfl, ⟨rfl, rfl⟩, ⟨rfl, rfl⟩, ⟨rfl, rfl⟩, ⟨rfl, rfl⟩, ⟨rfl, rfl⟩, ⟨rfl, rfl⟩, fun cap' x hx => ?_⟩
        obtain ⟨hx, rest, rfl⟩ := hx
        refine ⟨cap', rest, ?_, rfl, rfl⟩
        simp [by64_len] at hx
        omega
      · rintro r1 M1 ⟨cap', rest, hc, rfl, rfl⟩
        have := hh cap' rest hc
        rw [setK_eq, snocK_eq] at this
        exact this
    · exact h.elim
  · exact h.elim
def C4 : CT := noC.add 68 cPack
def T4 : PT := T3
def E4 : Env := ⟨G, T4, C4⟩
theorem e4_ok : EnvOk Tryd.prog E4 := ⟨e3_ok.T, CT.add_ok (noC_ok _ _) pack_ok⟩
end Sh
end Go.Proofs.YtdfghknonbmadaaDoor
