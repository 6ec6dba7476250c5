/-
  seg: works answers true; SegCodes. No statement is proved here.
-/
import Derived.Test.YtmeipcgkhgagpaaSgL
namespace Go.Proofs.Ytmeipcgkhgagpaa
open Go.RowKit
set_option linter.unusedVariables false
set_option linter.unusedSimpArgs false
set_option maxRecDepth 100000

def EXt : Env := EX enE enR deE deG lenS sgS
theorem ext_w : EnvOk Try.prog { G := G, T := (((((((T0.add 8 (cEn enE enR)).add 9 (cEn enE enR)).add 10 (cDe deE deG)).add 11 (cDe deE deG)).add 12 (cLn lenS)).add 13 (cLn lenS)).add 14 (cSg sgS)).add 15 (cSg sgS), C := noC } := { T := PT.add_ok (PT.add_ok (PT.add_ok (PT.add_ok (PT.add_ok (PT.add_ok (PT.add_ok (PT.add_ok t0_ok encode_ok) encodeD_ok) decode_ok) decodeD_ok) len_ok) lenD_ok) segSum_ok) segSumD_ok, C := noC_ok _ _ }
def EXw : Env := { G := G, T := (((((((T0.add 8 (cEn enE enR)).add 9 (cEn enE enR)).add 10 (cDe deE deG)).add 11 (cDe deE deG)).add 12 (cLn lenS)).add 13 (cLn lenS)).add 14 (cSg sgS)).add 15 (cSg sgS), C := noC }
theorem w7 : vf Try.prog EXw noL 7 [] G (fun r _ => r = .b true) := of_eq (show vf Try.prog EXw noL 7 [] G (fun r _ => r = .b true) = (SV.b true = SV.b true) by kernel_rfl) rfl
theorem works_ok : POk Try.prog G 7 c7 := by
  intro args acs r hh β M w hR hw ha
  unfold c7 at hh
  split at hh
  · simp only [Option.some.injEq, Prod.mk.injEq, true_and] at hh
    subst hh
    exact pokE (E := EXw) rfl ext_w (noL_ok _ _ _ _) rfl w7 rfl rfl hR
  · cases hh
theorem ex_ok : EnvOk Try.prog (EX enE enR deE deG lenS sgS) := { T := PT.add_ok ext_w.T works_ok, C := noC_ok _ _ }
theorem ble_big {n k : Nat} (h : n ≤ 8192) (hk : 8192 ≤ k) : Nat.ble n k = true := Nat.ble_eq_true_of_le (Nat.le_trans h hk)
theorem law3_ok (a b : BitVec 16) (q k : BitVec 32) (f : BitVec 8) (w m : BitVec 16) (h : Bool) (c : BitVec 8) (l : Tx) (t : Tx) (s d : BitVec 32) : Spec Try.prog G 3 [seg a b q k f w m h c l, .s t, .w32 s, .w32 d] G (fun r _ => r = .b true) := by
  refine vf_ok ex_ok mixed (noL_ok _ _ _ _) (of_eq (v3 enE enR deE deG lenS sgS a b q k f w m h c l t s d _) ?_)
  cases h1 : ilt 8192 ((List.length l : Nat) : Int)
  · cases h2 : ilt 8192 ((List.length t : Nat) : Int)
    · rw [ilt_eq] at h1 h2
      have h1 := of_decide_eq_false h1
      have h2 := of_decide_eq_false h2
      have hm : List.length l ≤ 8192 := by omega
      have hs : List.length t ≤ 8192 := by omega
      simp only [ble_big hm (by decide : 8192 ≤ 4294960000), ble_big hs (by decide : 8192 ≤ 4294960000), beq_self_eq_true, Bool.and_true, Bool.and_self, cond_true, cond_false, Bool.not_true]
    · simp only [cond_true, cond_false]
  · simp only [cond_true, cond_false]
end Go.Proofs.Ytmeipcgkhgagpaa
