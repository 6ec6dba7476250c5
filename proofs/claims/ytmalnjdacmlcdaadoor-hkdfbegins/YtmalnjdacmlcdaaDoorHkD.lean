/-
  hkdf: a strings.Builder, fresh or written. No statement is proved here.
-/
import Derived.Test.YtmalnjdacmlcdaaDoorSuL
import Derived.Laws.Externs
namespace Go.Proofs.YtmalnjdacmlcdaaDoor
open Go.RowKit
set_option linter.unusedVariables false
set_option linter.unusedSimpArgs false
set_option maxRecDepth 100000

/-- The types of blocks are told. -/
def cFlag : List SV → List Cont → Option (Bool × SV) := fun _ _ => some (false, .any)
theorem flag_ok : POk Tryd.prog G 1000000 cFlag := by
  intro args acs r h
  simp [cFlag] at h
def cNoEsc : List SV → List Cont → Option (Bool × SV)
  | [.ptr k off], _ => some (true, .ptr k off)
  | _, _ => none
theorem noEsc_ok : POk Tryd.prog G 35 cNoEsc := by
  intro args acs r h β M w hR hw ha
  unfold cNoEsc at h
  split at h
  · simp only [Option.some.injEq, Prod.mk.injEq, true_and] at h
    subst h
    refine .inl ⟨_, w, ?_, rfl, Fp.refl _ w⟩
    rw [run_callFunc_extern Tryd.func35 (by kernel_rfl) (by kernel_rfl) (by kernel_rfl) (e := Extern.AbiNoEscape.same) (by kernel_rfl)]
    show ((Extern.AbiNoEscape.same #[_]).run Tryd.prog w).andThen _ = _
    rw [Lib.run_noEscape]
    rfl
  · cases h
def TB0 : PT := (noT.add 1000000 cFlag).add 35 cNoEsc
theorem tb0_ok : PTok Tryd.prog G TB0 := PT.add_ok (PT.add_ok (noT_ok _ _) flag_ok) noEsc_ok
def EB0 : Env := ⟨G, TB0, noC⟩
theorem eb0_ok : EnvOk Tryd.prog EB0 := ⟨tb0_ok, noC_ok _ _⟩
def bN (e0 e1 : Ent) (p : SV) : Mm := [e0, e1, ⟨true, .tr 46 [p, .v (.slice none 0 0)]⟩]
def bB (e0 e1 : Ent) (len cap : Nat) (l : List (BitVec 8)) : Mm := [e0, e1, ⟨true, .tr 46 [.ptr 2 0, .sl 3 0 len cap]⟩, ⟨true, .t8 5 l⟩]
theorem vb29a (e0 e1 : Ent) (K : SV → Mm → Prop) : (vf Tryd.prog EB0 noL 29 [.ptr 2 0] (bN e0 e1 (.v (.pointer none))) K) = (K (SV.tup []) [e0, e1, { rw := true, c := Cont.tr 46 ([SV.v (Value.pointer none), SV.v (Value.slice none 0 0)].set 0 (SV.ptr 2 0)) }]) := by kernel_rfl
theorem vb29b (e0 e1 : Ent) (len cap : Nat) (l : List (BitVec 8)) (K : SV → Mm → Prop) : (vf Tryd.prog EB0 noL 29 [.ptr 2 0] (bB e0 e1 len cap l) K) = (K (SV.tup []) (bB e0 e1 len cap l)) := by kernel_rfl
def cCC : List SV → Mm → (SV → Mm → Prop) → Prop
  | [.ptr k off], M, K => vsome (Nat.beq k 2 && Nat.beq off 0) <| match M with
    | [e0, e1, ⟨true, .tr u [p, .v (.slice none 0 0)]⟩] => vsome (Nat.beq u 46) <| match p with
      | .v (.pointer none) => K (.tup []) (bN e0 e1 (.ptr 2 0))
      | _ => False
    | [e0, e1, ⟨true, .tr u [.ptr k2 o2, .sl j o len cap]⟩, ⟨true, .t8 e l⟩] => vsome (Nat.beq u 46 && Nat.beq e 5 && Nat.beq k2 2 && Nat.beq o2 0 && Nat.beq j 3 && Nat.beq o 0) (K (.tup []) (bB e0 e1 len cap l))
    | _ => False
  | _, _, _ => False
theorem cc_ok : COk Tryd.prog G 29 cCC := by
  intro args M K h
  unfold cCC at h
  split at h
  · rename_i k off
    replace h := vsome_iff.1 h
    obtain ⟨hb, h⟩ := h
    simp only [Bool.and_eq_true] at hb
    obtain rfl := Nat.eq_of_beq_eq_true hb.1
    obtain rfl := Nat.eq_of_beq_eq_true hb.2
    split at h
    · rename_i e0 e1 u p
      replace h := vsome_iff.1 h
      obtain ⟨hu, h⟩ := h
      obtain rfl := Nat.eq_of_beq_eq_true hu
      split at h
      · exact vf_ok (M := bN e0 e1 (.v (.pointer none))) eb0_ok mixed (noL_ok _ _ _ _) (of_eq (vb29a e0 e1 K) h)
      · exact h.elim
    · rename_i e0 e1 u k2 o2 j o len cap e l
      replace h := vsome_iff.1 h
      obtain ⟨hu, h⟩ := h
      simp only [Bool.and_eq_true] at hu
      obtain ⟨⟨⟨⟨⟨h1, h2⟩, h3⟩, h4⟩, h5⟩, h6⟩ := hu
      obtain rfl := Nat.eq_of_beq_eq_true h1
      obtain rfl := Nat.eq_of_beq_eq_true h2
      obtain rfl := Nat.eq_of_beq_eq_true h3
      obtain rfl := Nat.eq_of_beq_eq_true h4
      obtain rfl := Nat.eq_of_beq_eq_true h5
      obtain rfl := Nat.eq_of_beq_eq_true h6
      exact vf_ok (M := bB e0 e1 len cap l) eb0_ok mixed (noL_ok _ _ _ _) (of_eq (vb29b e0 e1 len cap l K) h)
    · exact h.elim
  · exact h.elim
def EB1 : Env := ⟨G, TB0, noC.add 29 cCC⟩
theorem vb19a (e0 e1 : Ent) (m : List (BitVec 8)) (K : SV → Mm → Prop) : (vf Tryd.prog EB1 noL 19 [.ptr 2 0, .s m] (bN e0 e1 (.v (.pointer none))) K) = (bif decide (m.length ≤ 1099511627776) then bif m.length.beq 0 then K (SV.tup [SV.i (↑m.length : Int), SV.v Value.nilIface]) [e0, e1, { rw := true, c := Cont.tr 46 ([SV.ptr 2 0, SV.v (Value.slice none 0 0)].set 1 (SV.v (Value.slice none 0 0))) }] else ∀ (cap' : Nat) (rest : List (BitVec 8)), m.length + rest.length = cap' → K (SV.tup [SV.i (↑m.length : Int), SV.v Value.nilIface]) [e0, e1, { rw := true, c := Cont.tr 46 ([SV.ptr 2 0, SV.v (Value.slice none 0 0)].set 1 (SV.sl (List.length (bN e0 e1 (SV.ptr 2 0))) 0 m.length cap')) }, { rw := true, c := Cont.t8 5 (m ++ rest) }] else False) := by kernel_rfl
theorem vb19b (e0 e1 : Ent) (len cap : Nat) (l m : List (BitVec 8)) (K : SV → Mm → Prop) : (vf Tryd.prog EB1 noL 19 [.ptr 2 0, .s m] (bB e0 e1 len cap l) K) = (bif decide (len ≤ cap) && decide (l.length = cap) && decide (len + m.length ≤ 1099511627776) && true then ∀ (cap' : Nat) (rest : List (BitVec 8)), len + m.length + rest.length = cap' → K (SV.tup [SV.i (↑m.length : Int), SV.v Value.nilIface]) [e0, e1, { rw := true, c := Cont.tr 46 ([SV.ptr 2 0, SV.sl 3 0 len cap].set 1 (SV.sl (List.length (bB e0 e1 len cap l)) 0 (len + m.length) cap')) }, { rw := true, c := Cont.gone }, { rw := true, c := Cont.t8 5 (List.take len l ++ m ++ rest) }] else False) := by kernel_rfl
theorem vb21a (e0 e1 : Ent) (K : SV → Mm → Prop) : (vf Tryd.prog EB1 noL 21 [.ptr 2 0] (bN e0 e1 (.ptr 2 0)) K) = (K (SV.s []) [{ rw := e0.1, c := e0.2 }, { rw := e1.1, c := e1.2 }, { rw := true, c := Cont.tr 46 [SV.ptr 2 0, SV.v (Value.slice none 0 0)] }]) := by kernel_rfl
theorem vb21b (e0 e1 : Ent) (len cap : Nat) (l : List (BitVec 8)) (K : SV → Mm → Prop) : (vf Tryd.prog EB1 noL 21 [.ptr 2 0] (bB e0 e1 len cap l) K) = (bif Nat.blt 0 cap then bif (↑len : Int) == 0 then K (SV.s []) [{ rw := e0.1, c := e0.2 }, { rw := e1.1, c := e1.2 }, { rw := true, c := Cont.tr 46 [SV.ptr 2 0, SV.sl 3 0 len cap] }, { rw := true, c := Cont.t8 5 l }] else bif ile (↑len : Int) (↑l.length : Int) && ile (↑len : Int) 1099511627776 then K (SV.s (List.take len l)) [{ rw := e0.1, c := e0.2 }, { rw := e1.1, c := e1.2 }, { rw := true, c := Cont.tr 46 [SV.ptr 2 0, SV.sl 3 0 len cap] }, { rw := true, c := Cont.gone }] else False else False) := by kernel_rfl
def bV (x y : Value) : Mm := G ++ [⟨false, .row [.v x, .v y]⟩]
theorem vb20 (x : Value) (a : Option Addr) (len cap : Nat) (K : SV → Mm → Prop) : (vf Tryd.prog EB0 noL 20 [.ptr 2 0] (bV x (.slice a len cap)) K) = (K (SV.i (↑len : Int)) (bV x (Value.slice a len cap))) := by kernel_rfl
theorem eb1_ok : EnvOk Tryd.prog EB1 := ⟨tb0_ok, CT.add_ok (noC_ok _ _) cc_ok⟩
def g0 : Ent := ⟨false, .a32 H0⟩
def g1 : Ent := ⟨false, .a32 K64⟩
/-- A text that is written. -/
def cBW : List SV → Mm → (SV → Mm → Prop) → Prop
  | [.ptr k off, .s m], M, K => match M[k]? with
    | some ⟨true, .tr u cs⟩ => vsome (Nat.beq off 0 && Nat.beq u 46 && Nat.ble m.length 1000000) <| match cs with
      | [.v (.pointer none), .v (.slice none 0 0)] => bif Nat.beq m.length 0 then setK M k ⟨true, .tr 46 [.ptr k 0, .v (.slice none 0 0)]⟩ fun M1 => K (.tup [.i (m.length : Nat), .v .nilIface]) M1
          else ∀ (cap : Nat) (rest : List (BitVec 8)), m.length + rest.length = cap → setK M k ⟨true, .tr 46 [.ptr k 0, .sl M.length 0 m.length cap]⟩ fun M1 => snocK M1 ⟨true, .t8 5 (m ++ rest)⟩ fun M2 => K (.tup [.i (m.length : Nat), .v .nilIface]) M2
      | [.ptr k2 o2, .sl j o len cap] => vsome (Nat.beq k2 k && Nat.beq o2 0 && Nat.beq o 0 && !Nat.beq k j) <| match M[j]? with
        | some ⟨true, .t8 e l⟩ => vsome (Nat.beq e 5 && decide (len ≤ cap) && decide (l.length = cap) && decide (len + m.length ≤ 1000000000)) <| ∀ (cap' : Nat) (rest : List (BitVec 8)), len + m.length + rest.length = cap' → setK M k ⟨true, .tr 46 [.ptr k 0, .sl M.length 0 (len + m.length) cap']⟩ fun M1 => setK M1 j ⟨true, .gone⟩ fun M2 => snocK M2 ⟨true, .t8 5 (l.take len ++ m ++ rest)⟩ fun M3 => K (.tup [.i (m.length : Nat), .v .nilIface]) M3
        | _ => False
      | _ => False
    | _ => False
  | _, _, _ => False
theorem bw_ok : COk Tryd.prog G 19 cBW := by
  intro args M K h
  unfold cBW at h
  split at h
  · rename_i k off m
    split at h
    · rename_i u cs hk
      replace h := vsome_iff.1 h
      obtain ⟨hb, h⟩ := h
      simp only [Bool.and_eq_true] at hb
      obtain ⟨⟨h1, h2⟩, h3⟩ := hb
      obtain rfl := Nat.eq_of_beq_eq_true h1
      obtain rfl := Nat.eq_of_beq_eq_true h2
      have h3 := Nat.le_of_ble_eq_true h3
      split at h
      · cases hm : Nat.beq m.length 0 <;> rw [hm] at h
        · simp only [cond_false, setK_eq, snocK_eq] at h
          refine eff_of (R := [⟨true, .tr 46 [.v (.pointer none), .v (.slice none 0 0)]⟩]) (args0 := [.ptr 2 0, .s m]) (K0 := fun r M => ∃ (cap : Nat) (rest : List (BitVec 8)), m.length + rest.length = cap ∧ r = .tup [.i (m.length : Nat), .v .nilIface] ∧ M = [g0, g1, ⟨true, .tr 46 [.ptr 2 0, .sl 3 0 m.length cap]⟩, ⟨true, .t8 5 (m ++ rest)⟩]) [k] (vf_ok (M := bN g0 g1 (.v (.pointer none))) eb1_ok mixed (noL_ok _ _ _ _) (of_eq (vb19a g0 g1 m _) ?_)) rfl rfl (by simp) ⟨⟨true, hk, fun h => h⟩, ⟨rfl, rfl⟩, trivial⟩ ?_
          · rw [hm]
            exact bif_of (decide_eq_true (by omega)) fun cap rest hc => ⟨cap, rest, hc, rfl, rfl⟩
          · rintro r1 M1 ⟨cap, rest, hc, rfl, rfl⟩
            exact h cap rest hc
        · simp only [cond_true, setK_eq] at h
          refine eff_of (R := [⟨true, .tr 46 [.v (.pointer none), .v (.slice none 0 0)]⟩]) (args0 := [.ptr 2 0, .s m]) (K0 := fun r M => r = .tup [.i (m.length : Nat), .v .nilIface] ∧ M = [g0, g1, ⟨true, .tr 46 [.ptr 2 0, .v (.slice none 0 0)]⟩]) [k] (vf_ok (M := bN g0 g1 (.v (.pointer none))) eb1_ok mixed (noL_ok _ _ _ _) (of_eq (vb19a g0 g1 m _) ?_)) rfl rfl (by simp) ⟨⟨true, hk, fun h => h⟩, ⟨rfl, rfl⟩, trivial⟩ ?_
          · rw [hm]
            exact bif_of (decide_eq_true (by omega)) ⟨rfl, rfl⟩
          · rintro r1 M1 ⟨rfl, rfl⟩
            rw [show back G _ M _ _ = M.set k ⟨true, .tr 46 [.ptr k 0, .v (.slice none 0 0)]⟩ ++ [] from rfl, List.append_nil]
            exact h
      · rename_i k2 o2 j o len cap
        replace h := vsome_iff.1 h
        obtain ⟨hb, h⟩ := h
        simp only [Bool.and_eq_true] at hb
        obtain ⟨⟨⟨q1, q2⟩, q3⟩, q4⟩ := hb
        obtain rfl := Nat.eq_of_beq_eq_true q1
        obtain rfl := Nat.eq_of_beq_eq_true q2
        obtain rfl := Nat.eq_of_beq_eq_true q3
        have hkj : k2 ≠ j := fun e => by subst e; simp at q4
        split at h
        · rename_i e l hj
          replace h := vsome_iff.1 h
          obtain ⟨hb, h⟩ := h
          simp only [Bool.and_eq_true, decide_eq_true_eq] at hb
          obtain ⟨⟨⟨r1, r2⟩, r3⟩, r4⟩ := hb
          obtain rfl := Nat.eq_of_beq_eq_true r1
          simp only [setK_eq, snocK_eq] at h
          refine eff_of (R := [⟨true, .tr 46 [.ptr 2 0, .sl 3 0 len cap]⟩, ⟨true, .t8 5 l⟩]) (args0 := [.ptr 2 0, .s m]) (K0 := fun r M => ∃ (cap' : Nat) (rest : List (BitVec 8)), len + m.length + rest.length = cap' ∧ r = .tup [.i (m.length : Nat), .v .nilIface] ∧ M = [g0, g1, ⟨true, .tr 46 [.ptr 2 0, .sl 4 0 (len + m.length) cap']⟩, ⟨true, .gone⟩, ⟨true, .t8 5 (l.take len ++ m ++ rest)⟩]) [k2, j] (vf_ok (M := bB g0 g1 len cap l) eb1_ok mixed (noL_ok _ _ _ _) (of_eq (vb19b g0 g1 len cap l m _) ?_)) rfl rfl (by simpa using hkj) ⟨⟨true, hk, fun h => h⟩, ⟨rfl, rfl⟩, ⟨true, hj, fun h => h⟩, ⟨rfl, rfl⟩, trivial⟩ ?_
          · exact bif_of (by simp only [Bool.and_eq_true, decide_eq_true_eq, and_true]; omega) fun cap' rest hc => ⟨cap', rest, hc, rfl, rfl⟩
          · rintro r1 M1 ⟨cap', rest, hc, rfl, rfl⟩
            exact h cap' rest hc
        · exact h.elim
      · exact h.elim
    · exact h.elim
  · exact h.elim
/-- What was written. -/
def cBS : List SV → Mm → (SV → Mm → Prop) → Prop
  | [.ptr k off], M, K => match M[k]? with
    | some ⟨true, .tr u cs⟩ => vsome (Nat.beq off 0 && Nat.beq u 46) <| match cs with
      | [.ptr k2 o2, .v (.slice none 0 0)] => vsome (Nat.beq k2 k && Nat.beq o2 0) (K (.s []) M)
      | [.ptr k2 o2, .sl j o len cap] => vsome (Nat.beq k2 k && Nat.beq o2 0 && Nat.beq o 0 && !Nat.beq k j) <| match M[j]? with
        | some ⟨true, .t8 e l⟩ => vsome (Nat.beq e 5 && Nat.blt 0 len && decide (len ≤ l.length) && Nat.blt 0 cap && Nat.ble len 1000000) (setK M j ⟨true, .gone⟩ fun M1 => K (.s (l.take len)) M1)
        | _ => False
      | _ => False
    | _ => False
  | _, _, _ => False
theorem bs_ok : COk Tryd.prog G 21 cBS := by
  intro args M K h
  unfold cBS at h
  split at h
  · rename_i k off
    split at h
    · rename_i u cs hk
      replace h := vsome_iff.1 h
      obtain ⟨hb, h⟩ := h
      simp only [Bool.and_eq_true] at hb
      obtain ⟨h1, h2⟩ := hb
      obtain rfl := Nat.eq_of_beq_eq_true h1
      obtain rfl := Nat.eq_of_beq_eq_true h2
      split at h
      · rename_i k2 o2
        replace h := vsome_iff.1 h
        obtain ⟨hb, h⟩ := h
        simp only [Bool.and_eq_true] at hb
        obtain rfl := Nat.eq_of_beq_eq_true hb.1
        obtain rfl := Nat.eq_of_beq_eq_true hb.2
        refine eff_of (R := [⟨true, .tr 46 [.ptr 2 0, .v (.slice none 0 0)]⟩]) (args0 := [.ptr 2 0]) (K0 := fun r M => r = .s [] ∧ M = bN g0 g1 (.ptr 2 0)) [k2] (vf_ok (M := bN g0 g1 (.ptr 2 0)) eb1_ok mixed (noL_ok _ _ _ _) (of_eq (vb21a g0 g1 _) ⟨rfl, rfl⟩)) rfl rfl (by simp) ⟨⟨true, hk, fun h => h⟩, ⟨rfl, rfl⟩, trivial⟩ ?_
        rintro r1 M1 ⟨rfl, rfl⟩
        rw [show back G _ M _ _ = M.set k2 ⟨true, .tr 46 [.ptr k2 0, .v (.slice none 0 0)]⟩ ++ [] from rfl, List.append_nil, set_same hk]
        exact h
      · rename_i k2 o2 j o len cap
        replace h := vsome_iff.1 h
        obtain ⟨hb, h⟩ := h
        simp only [Bool.and_eq_true] at hb
        obtain ⟨⟨⟨q1, q2⟩, q3⟩, q4⟩ := hb
        obtain rfl := Nat.eq_of_beq_eq_true q1
        obtain rfl := Nat.eq_of_beq_eq_true q2
        obtain rfl := Nat.eq_of_beq_eq_true q3
        have hkj : k2 ≠ j := fun e => by subst e; simp at q4
        split at h
        · rename_i e l hj
          replace h := vsome_iff.1 h
          obtain ⟨hb, h⟩ := h
          simp only [Bool.and_eq_true, decide_eq_true_eq] at hb
          obtain ⟨⟨⟨⟨r1, r2⟩, r3⟩, r4⟩, r5⟩ := hb
          obtain rfl := Nat.eq_of_beq_eq_true r1
          have r2 := blt_lt r2
          have r5 := Nat.le_of_ble_eq_true r5
          simp only [setK_eq] at h
          refine eff_of (R := [⟨true, .tr 46 [.ptr 2 0, .sl 3 0 len cap]⟩, ⟨true, .t8 5 l⟩]) (args0 := [.ptr 2 0]) (K0 := fun r M => r = .s (l.take len) ∧ M = [g0, g1, ⟨true, .tr 46 [.ptr 2 0, .sl 3 0 len cap]⟩, ⟨true, .gone⟩]) [k2, j] (vf_ok (M := bB g0 g1 len cap l) eb1_ok mixed (noL_ok _ _ _ _) (of_eq (vb21b g0 g1 len cap l _) ?_)) rfl rfl (by simpa using hkj) ⟨⟨true, hk, fun h => h⟩, ⟨rfl, rfl⟩, ⟨true, hj, fun h => h⟩, ⟨rfl, rfl⟩, trivial⟩ ?_
          · have e0 : (((len : Nat) : Int) == 0) = false := by rw [beq_eq_false_iff_ne]; omega
            rw [e0]
            refine bif_of r4 (bif_of ?_ ⟨rfl, rfl⟩)
            rw [Bool.and_eq_true, ile_eq, ile_eq]
            exact ⟨decide_eq_true (by omega), decide_eq_true (by omega)⟩
          · rintro r1 M1 ⟨rfl, rfl⟩
            rw [show back G _ M _ _ = (M.set k2 ⟨true, .tr 46 [.ptr k2 0, .sl j 0 len cap]⟩).set j ⟨true, .gone⟩ ++ [] from rfl, List.append_nil, set_same hk]
            exact h
        · exact h.elim
      · exact h.elim
    · exact h.elim
  · exact h.elim
/-- How much was written. -/
def cBL : List SV → List Cont → Option (Bool × SV)
  | [.ptr k off], [.tr u cs] => match cs with
    | [p, .v (.slice none 0 0)] => some (Nat.beq off 0, .i ((0 : Nat) : Int))
    | [p, .sl j o len cap] => some (Nat.beq off 0, .i ((len : Nat) : Int))
    | _ => none
  | _, _ => none
theorem bl_ok : POk Tryd.prog G 20 cBL := by
  intro args acs r h β M w hR hw ha
  unfold cBL at h
  split at h
  · rename_i k off u cs
    simp only [List.map_cons, List.map_nil, List.cons.injEq, and_true] at ha
    split at h
    · rename_i p
      simp only [Option.some.injEq, Prod.mk.injEq] at h
      obtain ⟨h0, rfl⟩ := h
      obtain rfl := Nat.eq_of_beq_eq_true h0
      exact pureV (cv := .row [.v (val β p), .v (.slice none 0 0)]) (vf_ok (M := bV (val β p) (.slice none 0 0)) eb0_ok mixed (noL_ok _ _ _ _) (of_eq (vb20 (val β p) none 0 0 _) rfl)) hR (tgt_ptr ha.symm rfl) rfl rfl (by simp [Cont.cells, vals, val]) rfl rfl
    · rename_i p j o len cap
      simp only [Option.some.injEq, Prod.mk.injEq] at h
      obtain ⟨h0, rfl⟩ := h
      obtain rfl := Nat.eq_of_beq_eq_true h0
      exact pureV (cv := .row [.v (val β p), .v (.slice (some ⟨β j, o, none⟩) len cap)]) (vf_ok (M := bV (val β p) (.slice (some ⟨β j, o, none⟩) len cap)) eb0_ok mixed (noL_ok _ _ _ _) (of_eq (vb20 (val β p) _ len cap _) rfl)) hR (tgt_ptr ha.symm rfl) rfl rfl (by simp [Cont.cells, vals, val]) rfl rfl
    · cases h
  · cases h
end Go.Proofs.YtmalnjdacmlcdaaDoor
