/-
  sum: the bytes of a word, what ends a text, the bytes of all words. No statement is proved here.
-/
import Derived.Test.YtmalnjdacmlcdaaDoorSuC
namespace Go.Proofs.YtmalnjdacmlcdaaDoor
open Go.RowKit
set_option linter.unusedVariables false
set_option linter.unusedSimpArgs false
set_option maxRecDepth 100000

/-- The bytes of a word, the highest first. -/
def by32 (w : BitVec 32) : List (BitVec 8) := [(w >>> 24).setWidth 8, (w >>> 16).setWidth 8, (w >>> 8).setWidth 8, w.setWidth 8]
theorem by32_len (w : BitVec 32) : (by32 w).length = 4 := rfl
def B36 (l : List (BitVec 8)) : Mm := [⟨false, .a32 H0⟩, ⟨false, .a32 K64⟩, ⟨true, .a8 l⟩]
theorem vc36 (l : List (BitVec 8)) (w : BitVec 32) (len cap : Nat) (K : SV → Mm → Prop) : (vf Tryd.prog E7 noL 50 [.sl 2 0 len cap, .w32 w] (B36 l) K) = (bif decide (len ≤ cap) && decide (l.length = cap) && decide (len + (List.take 4 (List.drop 0 [BitVec.setWidth 8 (w >>> 24), BitVec.setWidth 8 (w >>> 16), BitVec.setWidth 8 (w >>> 8), BitVec.setWidth 8 w])).length ≤ 1099511627776) && true then ∀ (cap' : Nat) (rest : List (BitVec 8)), len + (List.take 4 (List.drop 0 [BitVec.setWidth 8 (w >>> 24), BitVec.setWidth 8 (w >>> 16), BitVec.setWidth 8 (w >>> 8), BitVec.setWidth 8 w])).length + rest.length = cap' → K (SV.sl (0 + 1 + 1 + 1 + 1) 0 (len + (List.take 4 (List.drop 0 [BitVec.setWidth 8 (w >>> 24), BitVec.setWidth 8 (w >>> 16), BitVec.setWidth 8 (w >>> 8), BitVec.setWidth 8 w])).length) cap') [{ rw := false, c := Cont.a32 H0 }, { rw := false, c := Cont.a32 K64 }, { rw := true, c := Cont.gone }, { rw := true, c := Cont.a8 [BitVec.setWidth 8 (w >>> 24), BitVec.setWidth 8 (w >>> 16), BitVec.setWidth 8 (w >>> 8), BitVec.setWidth 8 w] }, { rw := true, c := Cont.a8 (List.take len l ++ List.take 4 (List.drop 0 [BitVec.setWidth 8 (w >>> 24), BitVec.setWidth 8 (w >>> 16), BitVec.setWidth 8 (w >>> 8), BitVec.setWidth 8 w]) ++ rest) }] else False) := by kernel_rfl
theorem take_app {α : Type} (a b c : List α) (n : Nat) (h : a.length + b.length = n) : (a ++ b ++ c).take n = a ++ b := by
  rw [List.take_append_of_le_length (by simp; omega), List.take_of_length_le (by simp; omega)]
/-- What is told of adding a word's bytes to a slice. -/
def cPack : List SV → Mm → (SV → Mm → Prop) → Prop
  | [.sl k off len cap, .w32 w], M, K => match M[k]? with
    | some ⟨true, .a8 l⟩ => vsome (Nat.beq off 0 && (decide (len ≤ cap) && (decide (l.length = cap) && decide (len + 4 ≤ 1099511627776)))) <|
      ∀ (cap' : Nat) (rest : List (BitVec 8)), len + 4 + rest.length = cap' → setK M k ⟨true, .gone⟩ fun M1 => snocK M1 ⟨true, .a8 (by32 w)⟩ fun M2 => snocK M2 ⟨true, .a8 (l.take len ++ by32 w ++ rest)⟩ fun M3 => K (.sl (M.length + 1) 0 (len + 4) cap') M3
    | _ => False
  | _, _, _ => False
theorem pack_ok : COk Tryd.prog G 50 cPack := by
  intro args M K h
  unfold cPack at h
  split at h
  · rename_i k off len cap w
    split at h
    · rename_i l hk
      obtain ⟨hb, hh⟩ := vsome_iff.1 h
      simp only [Bool.and_eq_true, decide_eq_true_eq] at hb
      obtain ⟨h0, h1, h2, h3⟩ := hb
      obtain rfl := Nat.eq_of_beq_eq_true h0
      refine eff_of (R := [⟨true, .a8 l⟩]) (args0 := [.sl 2 0 len cap, .w32 w]) (K0 := fun r M => ∃ cap' rest, len + 4 + rest.length = cap' ∧ r = .sl 4 0 (len + 4) cap' ∧ M = [⟨false, .a32 H0⟩, ⟨false, .a32 K64⟩, ⟨true, .gone⟩, ⟨true, .a8 (by32 w)⟩, ⟨true, .a8 (l.take len ++ by32 w ++ rest)⟩]) [k] (vf_ok (M := B36 l) e7_ok mixed (noL_ok _ _ _ _) (of_eq (vc36 l w len cap _) ?_)) rfl rfl (by simp) ⟨⟨true, hk, fun h => h⟩, ⟨rfl, rfl⟩, trivial⟩ ?_
      · refine bif_of ?_ fun cap' rest hc => ⟨cap', rest, hc, rfl, rfl⟩
        simp; omega
      · rintro r1 M1 ⟨cap', rest, hc, rfl, rfl⟩
        have := hh cap' rest hc
        rw [setK_eq, snocK_eq, snocK_eq] at this
        rw [List.append_assoc (M.set k ⟨true, .gone⟩)] at this
        exact this
    · exact h.elim
  · exact h.elim
def C8 : CT := C2.add 50 cPack
def E8 : Env := ⟨G, T7, C8⟩
theorem e8_ok : EnvOk Tryd.prog E8 := ⟨e7_ok.T, CT.add_ok e7_ok.C pack_ok⟩
/-- What ends a text of so many bytes. -/
def zs (c : BitVec 64) : Nat := (BitVec.ofInt 64 1 + (BitVec.ofInt 64 119 - c % BitVec.ofInt 64 64) % BitVec.ofInt 64 64).toNat
def ends (c : BitVec 64) : List (BitVec 8) := ((List.replicate 128 0).set 0 (BitVec.ofInt 8 128)).take (zs c) ++ by32 ((c >>> 29).setWidth 32) ++ by32 ((c <<< 3).setWidth 32)
theorem vc28 (c : BitVec 64) (K : SV → Mm → Prop) : (vf Tryd.prog E8 noL 43 [.w64 c] G K) = (bif ile (↑(BitVec.ofInt 64 1 + (BitVec.ofInt 64 119 - c % BitVec.ofInt 64 64) % BitVec.ofInt 64 64).toNat : Int) 128 && true then bif inR 0 (BitVec.ofInt 64 1 + (BitVec.ofInt 64 119 - c % BitVec.ofInt 64 64) % BitVec.ofInt 64 64).toNat then bif decide ((BitVec.ofInt 64 1 + (BitVec.ofInt 64 119 - c % BitVec.ofInt 64 64) % BitVec.ofInt 64 64).toNat ≤ 128) && decide ((BitVec.ofInt 64 1 + (BitVec.ofInt 64 119 - c % BitVec.ofInt 64 64) % BitVec.ofInt 64 64).toNat + 4 ≤ 1099511627776) then ∀ (cap' : Nat) (rest : List (BitVec 8)), (BitVec.ofInt 64 1 + (BitVec.ofInt 64 119 - c % BitVec.ofInt 64 64) % BitVec.ofInt 64 64).toNat + 4 + rest.length = cap' → bif decide ((BitVec.ofInt 64 1 + (BitVec.ofInt 64 119 - c % BitVec.ofInt 64 64) % BitVec.ofInt 64 64).toNat + 4 ≤ cap') && (decide ((List.take (BitVec.ofInt 64 1 + (BitVec.ofInt 64 119 - c % BitVec.ofInt 64 64) % BitVec.ofInt 64 64).toNat ((List.replicate 128 0).set 0 (BitVec.ofInt 8 128)) ++ by32 (BitVec.setWidth 32 (c >>> 29)) ++ rest).length = cap') && decide ((BitVec.ofInt 64 1 + (BitVec.ofInt 64 119 - c % BitVec.ofInt 64 64) % BitVec.ofInt 64 64).toNat + 4 + 4 ≤ 1099511627776)) then ∀ (cap' : Nat) (rest_1 : List (BitVec 8)), (BitVec.ofInt 64 1 + (BitVec.ofInt 64 119 - c % BitVec.ofInt 64 64) % BitVec.ofInt 64 64).toNat + 4 + 4 + rest_1.length = cap' → bif decide (0 + ((BitVec.ofInt 64 1 + (BitVec.ofInt 64 119 - c % BitVec.ofInt 64 64) % BitVec.ofInt 64 64).toNat + 4 + 4) ≤ (List.take ((BitVec.ofInt 64 1 + (BitVec.ofInt 64 119 - c % BitVec.ofInt 64 64) % BitVec.ofInt 64 64).toNat + 4) (List.take (BitVec.ofInt 64 1 + (BitVec.ofInt 64 119 - c % BitVec.ofInt 64 64) % BitVec.ofInt 64 64).toNat ((List.replicate 128 0).set 0 (BitVec.ofInt 8 128)) ++ by32 (BitVec.setWidth 32 (c >>> 29)) ++ rest) ++ by32 (BitVec.setWidth 32 (c <<< 3)) ++ rest_1).length) then K (SV.s (List.take ((BitVec.ofInt 64 1 + (BitVec.ofInt 64 119 - c % BitVec.ofInt 64 64) % BitVec.ofInt 64 64).toNat + 4 + 4) (List.drop 0 (List.take ((BitVec.ofInt 64 1 + (BitVec.ofInt 64 119 - c % BitVec.ofInt 64 64) % BitVec.ofInt 64 64).toNat + 4) (List.take (BitVec.ofInt 64 1 + (BitVec.ofInt 64 119 - c % BitVec.ofInt 64 64) % BitVec.ofInt 64 64).toNat ((List.replicate 128 0).set 0 (BitVec.ofInt 8 128)) ++ by32 (BitVec.setWidth 32 (c >>> 29)) ++ rest) ++ by32 (BitVec.setWidth 32 (c <<< 3)) ++ rest_1)))) [{ rw := false, c := Cont.a32 H0 }, { rw := false, c := Cont.a32 K64 }, { rw := true, c := Cont.gone }, { rw := true, c := Cont.a8 (by32 (BitVec.setWidth 32 (c >>> 29))) }, { rw := true, c := Cont.gone }, { rw := true, c := Cont.a8 (by32 (BitVec.setWidth 32 (c <<< 3))) }, { rw := true, c := Cont.a8 (List.take ((BitVec.ofInt 64 1 + (BitVec.ofInt 64 119 - c % BitVec.ofInt 64 64) % BitVec.ofInt 64 64).toNat + 4) (List.take (BitVec.ofInt 64 1 + (BitVec.ofInt 64 119 - c % BitVec.ofInt 64 64) % BitVec.ofInt 64 64).toNat ((List.replicate 128 0).set 0 (BitVec.ofInt 8 128)) ++ by32 (BitVec.setWidth 32 (c >>> 29)) ++ rest) ++ by32 (BitVec.setWidth 32 (c <<< 3)) ++ rest_1) }] else False else False else False else False else False) := by kernel_rfl
theorem zs_val (c : BitVec 64) : zs c = 1 + (119 - c.toNat % 64) % 64 := by
  have h2 : (BitVec.ofInt 64 119).toNat = 119 := rfl
  have h3 : (BitVec.ofInt 64 64).toNat = 64 := rfl
  have h1 : (BitVec.ofInt 64 1).toNat = 1 := rfl
  unfold zs
  rw [BitVec.toNat_add, BitVec.toNat_umod, BitVec.toNat_sub, BitVec.toNat_umod, h1, h2, h3]
  omega
def cEnd : List SV → List Cont → Option (Bool × SV)
  | [.w64 c], _ => some (true, .s (ends c))
  | _, _ => none
theorem end_ok : POk Tryd.prog G 43 cEnd := by
  intro args acs r h β M w hR hw ha
  unfold cEnd at h
  split at h
  · rename_i c
    simp only [Option.some.injEq, Prod.mk.injEq, true_and] at h
    subst h
    refine pure0 (vf_ok e8_ok mixed (noL_ok _ _ _ _) (of_eq (vc28 c _) ?_)) rfl rfl hR
    have hz := zs_val c
    show _
    have hz1 : 1 ≤ zs c := by omega
    have hz2 : zs c ≤ 64 := by omega
    have el : ((List.replicate 128 (0 : BitVec 8)).set 0 (BitVec.ofInt 8 128)).length = 128 := by rw [List.length_set, List.length_replicate]
    have e1 : (((List.replicate 128 0).set 0 (BitVec.ofInt 8 128)).take (zs c)).length = zs c := by rw [List.length_take, el]; omega
    have hs : SV.s (ends c) = SV.s (((List.replicate 128 0).set 0 (BitVec.ofInt 8 128)).take (zs c) ++ by32 ((c >>> 29).setWidth 32) ++ by32 ((c <<< 3).setWidth 32)) := rfl
    rw [hs]
    clear hs hz
    change bif ile ((zs c : Nat) : Int) 128 && true then _ else False
    unfold zs at *
    generalize (BitVec.ofInt 64 1 + (BitVec.ofInt 64 119 - c % BitVec.ofInt 64 64) % BitVec.ofInt 64 64).toNat = z at *
    generalize (List.replicate 128 (0 : BitVec 8)).set 0 (BitVec.ofInt 8 128) = l at *
    refine bif_of ?_ (bif_of (inR_iff.2 (by omega)) (bif_of ?_ fun cap' rest hc => bif_of ?_ fun cap2 rest2 hc2 => bif_of ?_ ?_))
    · simp [ile_eq]; omega
    · simp; omega
    · simp only [List.length_append, e1, by32_len, Bool.and_eq_true, decide_eq_true_eq]; omega
    · have : (List.take (z + 4) (List.take z l ++ by32 ((c >>> 29).setWidth 32) ++ rest)).length = z + 4 := by rw [List.length_take, List.length_append, List.length_append, e1, by32_len]; omega
      simp only [List.length_append, this, by32_len, decide_eq_true_eq]; omega
    · have q1 : List.take (z + 4) (List.take z l ++ by32 ((c >>> 29).setWidth 32) ++ rest) = List.take z l ++ by32 ((c >>> 29).setWidth 32) := take_app _ _ _ _ (by rw [e1, by32_len])
      rw [q1, List.drop_zero, take_app _ _ _ _ (by rw [List.length_append, e1, by32_len, by32_len])]
  · cases h
/-- The bytes of all words. -/
def wr (h : S8) : List (BitVec 8) := h.l.flatMap by32
def S29 (h : S8) (x : List (BitVec 8)) : Mm := [⟨false, .a32 H0⟩, ⟨false, .a32 K64⟩, ⟨true, .a32 h.l⟩, ⟨true, .a8 x⟩]
structure I29 where
  j : Nat
  cap : Nat
  x : List (BitVec 8)
def i29 (h : S8) (i : I29) : List (Nat × SV) := [(3, .sl 3 0 (4 * i.j) i.cap), (7, .a32 h.l), (8, .i (i.j : Nat))]
def o29 (cap : Nat) : List (Nat × SV) := [(3, .sl 3 0 32 cap)]
def got29 (i : I29) (fr : List SV) (M : Mm) : Option I29 := match fr with
  | _ :: _ :: _ :: SV.sl k _ _ cap :: _ => match M[k]? with
    | some ⟨_, .a8 x⟩ => some ⟨i.j + 1, cap, x⟩
    | _ => none
  | _ => none
def vL29 (h : S8) (p : Nat → List (BitVec 8) → Prop) (fr : List SV) (M : Mm) (K : Ko) : Prop := vLe G fr M 17 (i29 h ⟨0, 32, List.replicate 32 0⟩) (S29 h (List.replicate 32 0)) (∀ cap x, p cap x → frK 17 (o29 cap) fun fr1 => K .normal fr1 (S29 h x))
def L29 (h : S8) (p : Nat → List (BitVec 8) → Prop) : LT := noL.add 0 (vL29 h p)
theorem vc29 (h : S8) (p : Nat → List (BitVec 8) → Prop) (K : SV → Mm → Prop) : (vf Tryd.prog E8 (L29 h p) 44 [.a32 h.l] G K) = (loopOf Tryd.prog 44 0 = loopOf Tryd.prog 44 0 ∧ SV.sl (0 + 1 + 1 + 1) 0 0 32 = SV.sl 3 0 0 32 ∧ SV.a32 h.l = SV.a32 h.l ∧ SV.i 0 = SV.i (↑0 : Int) ∧ (false = false ∧ Cont.a32 H0 = Cont.a32 H0) ∧ (false = false ∧ Cont.a32 K64 = Cont.a32 K64) ∧ (true = true ∧ Cont.a32 h.l = Cont.a32 h.l) ∧ (true = true ∧ Cont.a8 (List.replicate 32 0) = Cont.a8 (List.replicate 32 0)) ∧ ∀ (cap : Nat) (x : List (BitVec 8)), p cap x → bif decide (32 ≤ x.length) then K (SV.s (List.take 32 (List.drop 0 x))) (S29 h x) else False) := by kernel_rfl
theorem vr29 (h : S8) (i : I29) (a : I29 → Prop) (q : Prop) : (frK 17 (i29 h i) fun fr => vround Tryd.prog E8 noL 44 0 fr (S29 h i.x) (Ks G 0 17 (got29 i) [2, 5] a (i29 h) (fun i => S29 h i.x) q (o29 i.cap) (S29 h i.x))) = (bif ilt (↑i.j : Int) 8 then bif inR (↑i.j : Int) 8 then bif decide (4 * i.j ≤ i.cap) && (decide (i.x.length = i.cap) && decide (4 * i.j + 4 ≤ 1099511627776)) then ∀ (cap' : Nat) (rest : List (BitVec 8)), 4 * i.j + 4 + rest.length = cap' → bif inI ((↑i.j : Int) + 1) then a { j := i.j + 1, cap := cap', x := List.take (4 * i.j) i.x ++ by32 (h.l.getD i.j 0) ++ rest } ∧ SV.sl (List.length (S29 h i.x) + 1) 0 (4 * i.j + 4) cap' = ren (sig 2 [2, 5]) (SV.sl 3 0 (4 * (i.j + 1)) cap') ∧ SV.a32 h.l = ren (sig 2 [2, 5]) (SV.a32 h.l) ∧ SV.i ((↑i.j : Int) + 1) = ren (sig 2 [2, 5]) (SV.i (↑(i.j + 1) : Int)) ∧ (false = false ∧ Cont.a32 H0 = Cont.ren (sig 2 [2, 5]) (Cont.a32 H0)) ∧ (false = false ∧ Cont.a32 K64 = Cont.ren (sig 2 [2, 5]) (Cont.a32 K64)) ∧ (true = true ∧ Cont.a32 h.l = Cont.ren (sig 2 [2, 5]) (Cont.a32 h.l)) ∧ (true = true ∧ Cont.a8 (List.take (4 * i.j) i.x ++ by32 (h.l.getD i.j 0) ++ rest) = Cont.ren (sig 2 [2, 5]) (Cont.a8 (List.take (4 * i.j) i.x ++ by32 (h.l.getD i.j 0) ++ rest))) ∧ True else False else False else False else 0 = 0 ∧ q ∧ SV.sl 3 0 (4 * i.j) i.cap = SV.sl 3 0 32 i.cap ∧ (false = false ∧ Cont.a32 H0 = Cont.a32 H0) ∧ (false = false ∧ Cont.a32 K64 = Cont.a32 K64) ∧ (true = true ∧ Cont.a32 h.l = Cont.a32 h.l) ∧ (true = true ∧ Cont.a8 i.x = Cont.a8 i.x) ∧ True) := by kernel_rfl
def p29 (h : S8) (i : I29) : Prop := i.j ≤ 8 ∧ i.x.length = i.cap ∧ ∃ rest, i.x = (h.l.take i.j).flatMap by32 ++ rest
theorem fm_len (l : List (BitVec 32)) : (l.flatMap by32).length = 4 * l.length := by
  induction l with
  | nil => rfl
  | cons x l ih => rw [List.flatMap_cons, List.length_append, ih, by32_len, List.length_cons]; omega
theorem s8_len (h : S8) : h.l.length = 8 := rfl
def P29 (h : S8) (cap : Nat) (x : List (BitVec 8)) : Prop := x.length = cap ∧ ∃ rest, x = wr h ++ rest
theorem loop29 (h : S8) : LOk Tryd.prog G G 44 (L29 h (P29 h)) := by
  refine LT.add_ok (noL_ok _ _ _ _) fun fr M K hh => ?_
  obtain ⟨h0, hK⟩ := vLe_ok hh
  refine loop_sel e8_ok mixed (noL_ok _ _ _ _) (Nat.le_refl _) (by kernel_rfl) (i29 h) (fun i => S29 h i.x) (p29 h) (fun i => 8 - i.j) got29 (fun _ => [2, 5]) (fun i => i.j = 8) (fun i => o29 i.cap) (fun i => S29 h i.x) ⟨0, 32, List.replicate 32 0⟩ ⟨by decide, by simp, List.replicate 32 0, by simp⟩ (fun i hp => of_eq (vr29 h i _ _) ?_) h0 (fun i hp hq => ?_)
  · obtain ⟨j, c, x⟩ := i
    obtain ⟨hj, hx, rest, hr⟩ := hp
    dsimp only at hj hx hr ⊢
    cases hc : ilt (j : Int) 8
    · have hj2 : j = 8 := by rw [ilt_eq] at hc; have := of_decide_eq_false hc; omega
      subst hj2
      exact ⟨rfl, rfl, rfl, ⟨rfl, rfl⟩, ⟨rfl, rfl⟩, ⟨rfl, rfl⟩, ⟨rfl, rfl⟩, trivial⟩
    · have hj2 : j < 8 := by rw [ilt_eq] at hc; have := of_decide_eq_true hc; omega
      have hl : ((h.l.take j).flatMap by32).length = 4 * j := by rw [fm_len, List.length_take, s8_len]; omega
      have hcl : 4 * j ≤ c := by rw [← hx, hr, List.length_append, hl]; omega
      have ht : x.take (4 * j) = (h.l.take j).flatMap by32 := by rw [hr, List.take_append_of_le_length (by omega), List.take_of_length_le (by omega)]
      rw [ht]
      refine bif_of (inR_nat hj2) (bif_of ?_ fun cap' rest' hc' => bif_of (inI_iff.2 (by omega)) ?_)
      · simp; omega
      · refine ⟨⟨⟨by show j + 1 ≤ 8; omega, ?_, rest', ?_⟩, by show 8 - (j + 1) < 8 - j; omega⟩, rfl, rfl, rfl, ⟨rfl, rfl⟩, ⟨rfl, rfl⟩, ⟨rfl, rfl⟩, ⟨rfl, rfl⟩, trivial⟩
        · rw [List.length_append, List.length_append, hl, by32_len]; exact hc'
        · dsimp only
          rw [List.take_add_one, getD_get 0 (show j < h.l.length by rw [s8_len]; exact hj2)]
          simp
  · obtain ⟨j, c, x⟩ := i
    obtain ⟨hj, hx, rest, hr⟩ := hp
    obtain rfl : j = 8 := hq
    have := hK c x ⟨hx, rest, hr⟩
    rw [frK_eq] at this
    exact this
theorem wr_len (h : S8) : (wr h).length = 32 := by unfold wr; rw [fm_len, s8_len]
def cWrite : List SV → List Cont → Option (Bool × SV)
  | [.a32 [a, b, c, d, e, f, g, h]], _ => some (true, .s (wr ⟨a, b, c, d, e, f, g, h⟩))
  | _, _ => none
theorem write_ok : POk Tryd.prog G 44 cWrite := by
  intro args acs r h β M w hR hw ha
  unfold cWrite at h
  split at h
  · rename_i a b c d e f g h'
    simp only [Option.some.injEq, Prod.mk.injEq, true_and] at h
    subst h
    refine pure0 (vf_ok e8_ok mixed (loop29 ⟨a, b, c, d, e, f, g, h'⟩) (of_eq (vc29 ⟨a, b, c, d, e, f, g, h'⟩ _ _) ?_)) rfl rfl hR
    refine ⟨rfl, rfl, rfl, rfl, ⟨rfl, rfl⟩, ⟨rfl, rfl⟩, ⟨rfl, rfl⟩, ⟨rfl, rfl⟩, fun cap x hx => ?_⟩
    obtain ⟨hx, rest, hr⟩ := hx
    have hl := wr_len ⟨a, b, c, d, e, f, g, h'⟩
    refine bif_of ?_ ?_
    · rw [hr, List.length_append, hl]; exact decide_eq_true (by omega)
    · rw [hr, List.drop_zero, List.take_append_of_le_length (by omega), List.take_of_length_le (by omega)]
  · cases h
/-- A key, made a whole block, each byte of it turned. -/
def fillK (k : List (BitVec 8)) : List (BitVec 8) := k.take 64 ++ (List.replicate 64 0).drop (min k.length 64)
def mask (k : List (BitVec 8)) (y : BitVec 8) : List (BitVec 8) := (fillK k).map (· ^^^ y)
def M20 (x : List (BitVec 8)) : Mm := [⟨false, .a32 H0⟩, ⟨false, .a32 K64⟩, ⟨true, .a8 x⟩]
def i20 (y : BitVec 8) (j : Nat) : List (Nat × SV) := [(1, .w8 y), (5, .sl 2 0 64 64), (12, .i 64), (13, .i (j : Nat))]
def o20 : List (Nat × SV) := [(5, .sl 2 0 64 64)]
def mskN (x : List (BitVec 8)) (y : BitVec 8) (j : Nat) : List (BitVec 8) := (x.take j).map (· ^^^ y) ++ x.drop j
def L20 (y : BitVec 8) (x z : List (BitVec 8)) : LT := noL.add 0 (vLoop G 26 (i20 y 0) (M20 x) o20 (M20 z))
theorem vc20 (k : List (BitVec 8)) (y : BitVec 8) (x z : List (BitVec 8)) (K : SV → Mm → Prop) : (vf Tryd.prog E8 (L20 y x z) 25 [.s k, .w8 y] G K) = (loopOf Tryd.prog 25 0 = loopOf Tryd.prog 25 0 ∧ SV.w8 y = SV.w8 y ∧ SV.sl 2 0 64 64 = SV.sl 2 0 64 64 ∧ SV.i (↑64 : Int) = SV.i 64 ∧ SV.i 0 = SV.i (↑0 : Int) ∧ (false = false ∧ Cont.a32 H0 = Cont.a32 H0) ∧ (false = false ∧ Cont.a32 K64 = Cont.a32 K64) ∧ (true = true ∧ Cont.a8 (List.take 0 (List.replicate 64 0) ++ List.take 64 k ++ List.drop (0 + min k.length 64) (List.replicate 64 0)) = Cont.a8 x) ∧ bif decide (64 ≤ z.length) then K (SV.s (List.take 64 (List.drop 0 z))) (M20 z) else False) := by kernel_rfl
theorem vr20 (y : BitVec 8) (x x' z : List (BitVec 8)) (j : Nat) (a : Prop) : (frK 26 (i20 y j) fun fr => vround Tryd.prog E8 noL 25 0 fr (M20 x) (Kn G 0 26 a (i20 y (j + 1)) (M20 x') o20 (M20 z))) = (bif ilt (↑j : Int) 64 then bif inR (↑j : Int) 64 then bif j.blt x.length then bif inR (↑j : Int) 64 then bif j.blt x.length then bif inI ((↑j : Int) + 1) then a ∧ SV.w8 y = SV.w8 y ∧ SV.sl 2 0 64 64 = SV.sl 2 0 64 64 ∧ SV.i 64 = SV.i 64 ∧ SV.i ((↑j : Int) + 1) = SV.i (↑(j + 1) : Int) ∧ (false = false ∧ Cont.a32 H0 = Cont.a32 H0) ∧ (false = false ∧ Cont.a32 K64 = Cont.a32 K64) ∧ (true = true ∧ Cont.a8 (x.set j (x.getD j 0 ^^^ y)) = Cont.a8 x') ∧ True else False else False else False else False else False else 0 = 0 ∧ SV.sl 2 0 64 64 = SV.sl 2 0 64 64 ∧ (false = false ∧ Cont.a32 H0 = Cont.a32 H0) ∧ (false = false ∧ Cont.a32 K64 = Cont.a32 K64) ∧ (true = true ∧ Cont.a8 x = Cont.a8 z) ∧ True) := by kernel_rfl
theorem msk_set (x : List (BitVec 8)) (y : BitVec 8) (j : Nat) (h : j < x.length) : (mskN x y j).set j ((mskN x y j).getD j 0 ^^^ y) = mskN x y (j + 1) := by
  have hl : ((x.take j).map (· ^^^ y)).length = j := by simp; omega
  unfold mskN
  rw [List.getD_eq_getElem?_getD, List.getElem?_append_right (by omega), hl, Nat.sub_self, List.getElem?_drop, Nat.add_zero, List.getElem?_eq_getElem h, Option.getD_some,
    List.set_append_right _ _ (by omega), hl, Nat.sub_self, List.drop_eq_getElem_cons h, List.set_cons_zero, List.take_add_one, List.getElem?_eq_getElem h]
  simp only [Option.toList_some, List.map_append, List.map_cons, List.map_nil, List.append_assoc, List.cons_append, List.nil_append]
theorem msk_len (x : List (BitVec 8)) (y : BitVec 8) (j : Nat) : (mskN x y j).length = x.length := by
  simp [mskN]; omega
theorem fillK_len (k : List (BitVec 8)) : (fillK k).length = 64 := by
  unfold fillK; simp; omega
theorem loop20 (y : BitVec 8) (x : List (BitVec 8)) (hx : x.length = 64) : LOk Tryd.prog G G 25 (L20 y x (x.map (· ^^^ y))) := by
  refine LT.add_ok (noL_ok _ _ _ _) ?_
  have h0 : mskN x y 0 = x := by simp [mskN]
  have h := loop_next e8_ok mixed (f := 25) (id := 0) (B := G) (n := 26) (o := o20) (M1 := M20 (x.map (· ^^^ y))) (noL_ok _ _ _ _) (Nat.le_refl _) (by kernel_rfl) (fun j => i20 y j) (fun j => M20 (mskN x y j)) (fun j => j ≤ 64) (fun j => 64 - j) (fun j => j + 1) 0 (Nat.zero_le _) fun j hj => of_eq (vr20 y (mskN x y j) (mskN x y (j + 1)) (x.map (· ^^^ y)) j _) (by
    cases hc : ilt (j : Int) 64
    · have hj2 : j = 64 := by rw [ilt_eq] at hc; have := of_decide_eq_false hc; omega
      subst hj2
      have : mskN x y 64 = x.map (· ^^^ y) := by unfold mskN; rw [List.take_of_length_le (by omega), List.drop_eq_nil_of_le (by omega), List.append_nil]
      rw [this]
      simp
    · have hj2 : j < 64 := by rw [ilt_eq] at hc; have := of_decide_eq_true hc; omega
      have hs := msk_set x y j (by omega)
      rw [hs, msk_len, hx]
      refine bif_of (inR_nat (by omega)) (bif_of (blt_of (by omega)) (bif_of (inR_nat (by omega)) (bif_of (blt_of (by omega)) (bif_of (inI_iff.2 (by omega)) ?_))))
      refine ⟨⟨by omega, by omega⟩, ?_⟩
      simp)
  rw [h0] at h
  exact h
def cMask : List SV → List Cont → Option (Bool × SV)
  | [.s k, .w8 y], _ => some (true, .s (mask k y))
  | _, _ => none
theorem mask_ok : POk Tryd.prog G 25 cMask := by
  intro args acs r h β M w hR hw ha
  unfold cMask at h
  split at h
  · rename_i k y
    simp only [Option.some.injEq, Prod.mk.injEq, true_and] at h
    subst h
    refine pure0 (vf_ok e8_ok mixed (loop20 y (fillK k) (fillK_len k)) (of_eq (vc20 k y _ _ _) ?_)) rfl rfl hR
    refine ⟨rfl, rfl, rfl, rfl, rfl, ⟨rfl, rfl⟩, ⟨rfl, rfl⟩, ⟨rfl, ?_⟩, ?_⟩
    · exact congrArg Cont.a8 (by unfold fillK; simp)
    · have hl : ((fillK k).map (· ^^^ y)).length = 64 := by rw [List.length_map, fillK_len]
      refine bif_of (by rw [hl]; rfl) ?_
      rw [List.drop_zero, List.take_of_length_le (by omega)]
      rfl
  · cases h
def T9 : PT := ((T7.add 43 cEnd).add 44 cWrite).add 25 cMask
def E9 : Env := ⟨G, T9, C8⟩
theorem e9_ok : EnvOk Tryd.prog E9 := ⟨PT.add_ok (PT.add_ok (PT.add_ok e8_ok.T end_ok) write_ok) mask_ok, e8_ok.C⟩
end Go.Proofs.YtmalnjdacmlcdaaDoor
