/-
  The document's numbers: inverses and roots, in the reckoner. No statement is proved here.
-/
import Derived.Test.YtdfghknonbmadaaGreatDoorDoE
import Derived.Test.YtdfghknonbmadaaGreatDoorMaE
namespace Go.Proofs.YtdfghknonbmadaaGreatDoor
namespace Dc
open Go.RowKit
set_option linter.unusedVariables false
set_option linter.unusedSimpArgs false
set_option maxRecDepth 100000
open Mt.Dg (w9 dg bv bb nv Q Qd dt rd byt vbl vb px tInv tRt tI)
def ERt (S : BitVec 32 → W6) (C : W6 → W6 → Bool) (M B : W6 → W6 → W6) (D : W6 → Bool) (F : W6 → Tx8 → W6) : Env := ⟨GE, ((((noT.add 70 (cSm S)).add 43 (c2 C M)).add 71 (c2 C B)).add 82 (cPd D F)).add flagZ cFlagZ, noC⟩
theorem vaRo (S : BitVec 32 → W6) (C : W6 → W6 → Bool) (M B : W6 → W6 → W6) (D : W6 → Bool) (F : W6 → Tx8 → W6) (a : W6) (o : Bool) (K : SV → Prop) : (vf Tryz.prog (ERt S C M B D F) noL 74 [.a64 (w9 a), .b o] GE (fun r _ => K r)) = (bif D (w9 a) && true then bif C (w9 (F (w9 a) (bts { data := #[(49 : UInt8), (48 : UInt8)] }))) (w9 (F (w9 a) (bts { data := #[(49 : UInt8), (48 : UInt8)] }))) then bif bif true then !w9 (M (w9 (F (w9 a) (bts { data := #[(49 : UInt8), (48 : UInt8)] }))) (w9 (F (w9 a) (bts { data := #[(49 : UInt8), (48 : UInt8)] })))) == w9 a else w9 (M (w9 (F (w9 a) (bts { data := #[(49 : UInt8), (48 : UInt8)] }))) (w9 (F (w9 a) (bts { data := #[(49 : UInt8), (48 : UInt8)] })))) == w9 a then bif D (w9 (S (BitVec.ofInt 32 2))) && true then bif C (w9 (F (w9 a) (bts { data := #[(49 : UInt8), (48 : UInt8)] }))) (w9 (F (w9 (S (BitVec.ofInt 32 2))) (bts { data := #[(48 : UInt8), (49 : UInt8), (49 : UInt8)] }))) then bif C (w9 (M (w9 (F (w9 a) (bts { data := #[(49 : UInt8), (48 : UInt8)] }))) (w9 (F (w9 (S (BitVec.ofInt 32 2))) (bts { data := #[(48 : UInt8), (49 : UInt8), (49 : UInt8)] }))))) (w9 (M (w9 (F (w9 a) (bts { data := #[(49 : UInt8), (48 : UInt8)] }))) (w9 (F (w9 (S (BitVec.ofInt 32 2))) (bts { data := #[(48 : UInt8), (49 : UInt8), (49 : UInt8)] }))))) then bif bif true then !w9 (M (w9 (M (w9 (F (w9 a) (bts { data := #[(49 : UInt8), (48 : UInt8)] }))) (w9 (F (w9 (S (BitVec.ofInt 32 2))) (bts { data := #[(48 : UInt8), (49 : UInt8), (49 : UInt8)] }))))) (w9 (M (w9 (F (w9 a) (bts { data := #[(49 : UInt8), (48 : UInt8)] }))) (w9 (F (w9 (S (BitVec.ofInt 32 2))) (bts { data := #[(48 : UInt8), (49 : UInt8), (49 : UInt8)] })))))) == w9 a else w9 (M (w9 (M (w9 (F (w9 a) (bts { data := #[(49 : UInt8), (48 : UInt8)] }))) (w9 (F (w9 (S (BitVec.ofInt 32 2))) (bts { data := #[(48 : UInt8), (49 : UInt8), (49 : UInt8)] }))))) (w9 (M (w9 (F (w9 a) (bts { data := #[(49 : UInt8), (48 : UInt8)] }))) (w9 (F (w9 (S (BitVec.ofInt 32 2))) (bts { data := #[(48 : UInt8), (49 : UInt8), (49 : UInt8)] })))))) == w9 a then K (SV.tup [SV.a64 ([] ++ List.drop 0 (List.replicate 9 (0 : BitVec 64))), SV.b false]) else bif bif true then !((w9 (M (w9 (F (w9 a) (bts { data := #[(49 : UInt8), (48 : UInt8)] }))) (w9 (F (w9 (S (BitVec.ofInt 32 2))) (bts { data := #[(48 : UInt8), (49 : UInt8), (49 : UInt8)] }))))).getD (0 : Nat) (0 : BitVec 64) &&& BitVec.ofInt 64 1 == BitVec.ofInt 64 1) == o else ((w9 (M (w9 (F (w9 a) (bts { data := #[(49 : UInt8), (48 : UInt8)] }))) (w9 (F (w9 (S (BitVec.ofInt 32 2))) (bts { data := #[(48 : UInt8), (49 : UInt8), (49 : UInt8)] }))))).getD (0 : Nat) (0 : BitVec 64) &&& BitVec.ofInt 64 1 == BitVec.ofInt 64 1) == o then bif C ([] ++ List.drop 0 (List.replicate 9 (0 : BitVec 64))) (w9 (M (w9 (F (w9 a) (bts { data := #[(49 : UInt8), (48 : UInt8)] }))) (w9 (F (w9 (S (BitVec.ofInt 32 2))) (bts { data := #[(48 : UInt8), (49 : UInt8), (49 : UInt8)] }))))) then K (SV.tup [SV.a64 (w9 (B ([] ++ List.drop 0 (List.replicate 9 (0 : BitVec 64))) (w9 (M (w9 (F (w9 a) (bts { data := #[(49 : UInt8), (48 : UInt8)] }))) (w9 (F (w9 (S (BitVec.ofInt 32 2))) (bts { data := #[(48 : UInt8), (49 : UInt8), (49 : UInt8)] }))))))), SV.b (bif false then !((w9 (B ([] ++ List.drop 0 (List.replicate 9 (0 : BitVec 64))) (w9 (M (w9 (F (w9 a) (bts { data := #[(49 : UInt8), (48 : UInt8)] }))) (w9 (F (w9 (S (BitVec.ofInt 32 2))) (bts { data := #[(48 : UInt8), (49 : UInt8), (49 : UInt8)] }))))))).getD (0 : Nat) (0 : BitVec 64) &&& BitVec.ofInt 64 1 == BitVec.ofInt 64 1) == o else ((w9 (B ([] ++ List.drop 0 (List.replicate 9 (0 : BitVec 64))) (w9 (M (w9 (F (w9 a) (bts { data := #[(49 : UInt8), (48 : UInt8)] }))) (w9 (F (w9 (S (BitVec.ofInt 32 2))) (bts { data := #[(48 : UInt8), (49 : UInt8), (49 : UInt8)] }))))))).getD (0 : Nat) (0 : BitVec 64) &&& BitVec.ofInt 64 1 == BitVec.ofInt 64 1) == o)]) ∧ True else False else K (SV.tup [SV.a64 (w9 (M (w9 (F (w9 a) (bts { data := #[(49 : UInt8), (48 : UInt8)] }))) (w9 (F (w9 (S (BitVec.ofInt 32 2))) (bts { data := #[(48 : UInt8), (49 : UInt8), (49 : UInt8)] }))))), SV.b (bif false then !((w9 (M (w9 (F (w9 a) (bts { data := #[(49 : UInt8), (48 : UInt8)] }))) (w9 (F (w9 (S (BitVec.ofInt 32 2))) (bts { data := #[(48 : UInt8), (49 : UInt8), (49 : UInt8)] }))))).getD (0 : Nat) (0 : BitVec 64) &&& BitVec.ofInt 64 1 == BitVec.ofInt 64 1) == o else ((w9 (M (w9 (F (w9 a) (bts { data := #[(49 : UInt8), (48 : UInt8)] }))) (w9 (F (w9 (S (BitVec.ofInt 32 2))) (bts { data := #[(48 : UInt8), (49 : UInt8), (49 : UInt8)] }))))).getD (0 : Nat) (0 : BitVec 64) &&& BitVec.ofInt 64 1 == BitVec.ofInt 64 1) == o)]) ∧ True else False else False else False else bif C (w9 (F (w9 a) (bts { data := #[(49 : UInt8), (48 : UInt8)] }))) (w9 (F (w9 a) (bts { data := #[(49 : UInt8), (48 : UInt8)] }))) then bif bif true then !w9 (M (w9 (F (w9 a) (bts { data := #[(49 : UInt8), (48 : UInt8)] }))) (w9 (F (w9 a) (bts { data := #[(49 : UInt8), (48 : UInt8)] })))) == w9 a else w9 (M (w9 (F (w9 a) (bts { data := #[(49 : UInt8), (48 : UInt8)] }))) (w9 (F (w9 a) (bts { data := #[(49 : UInt8), (48 : UInt8)] })))) == w9 a then K (SV.tup [SV.a64 ([] ++ List.drop 0 (List.replicate 9 (0 : BitVec 64))), SV.b false]) else bif bif true then !((w9 (F (w9 a) (bts { data := #[(49 : UInt8), (48 : UInt8)] }))).getD (0 : Nat) (0 : BitVec 64) &&& BitVec.ofInt 64 1 == BitVec.ofInt 64 1) == o else ((w9 (F (w9 a) (bts { data := #[(49 : UInt8), (48 : UInt8)] }))).getD (0 : Nat) (0 : BitVec 64) &&& BitVec.ofInt 64 1 == BitVec.ofInt 64 1) == o then bif C ([] ++ List.drop 0 (List.replicate 9 (0 : BitVec 64))) (w9 (F (w9 a) (bts { data := #[(49 : UInt8), (48 : UInt8)] }))) then K (SV.tup [SV.a64 (w9 (B ([] ++ List.drop 0 (List.replicate 9 (0 : BitVec 64))) (w9 (F (w9 a) (bts { data := #[(49 : UInt8), (48 : UInt8)] }))))), SV.b (bif false then !((w9 (B ([] ++ List.drop 0 (List.replicate 9 (0 : BitVec 64))) (w9 (F (w9 a) (bts { data := #[(49 : UInt8), (48 : UInt8)] }))))).getD (0 : Nat) (0 : BitVec 64) &&& BitVec.ofInt 64 1 == BitVec.ofInt 64 1) == o else ((w9 (B ([] ++ List.drop 0 (List.replicate 9 (0 : BitVec 64))) (w9 (F (w9 a) (bts { data := #[(49 : UInt8), (48 : UInt8)] }))))).getD (0 : Nat) (0 : BitVec 64) &&& BitVec.ofInt 64 1 == BitVec.ofInt 64 1) == o)]) ∧ True else False else K (SV.tup [SV.a64 (w9 (F (w9 a) (bts { data := #[(49 : UInt8), (48 : UInt8)] }))), SV.b (bif false then !((w9 (F (w9 a) (bts { data := #[(49 : UInt8), (48 : UInt8)] }))).getD (0 : Nat) (0 : BitVec 64) &&& BitVec.ofInt 64 1 == BitVec.ofInt 64 1) == o else ((w9 (F (w9 a) (bts { data := #[(49 : UInt8), (48 : UInt8)] }))).getD (0 : Nat) (0 : BitVec 64) &&& BitVec.ofInt 64 1 == BitVec.ofInt 64 1) == o)]) ∧ True else False else False else False) := by kernel_rfl
theorem dg_inj {a b : Nat} (ha : a < Mt.Nt.P) (hb : b < Mt.Nt.P) (h : dg a = dg b) : a = b := by rw [← nvd ha, ← nvd hb, h]
theorem dg_beq {a b : Nat} (ha : a < Mt.Nt.P) (hb : b < Mt.Nt.P) : (dg a == dg b) = decide (a = b) := by
 by_cases h : a = b
 ·subst h; rw [decide_eq_true rfl]; exact beq_self_eq_true _
 ·rw [decide_eq_false h]
  exact beq_eq_false_iff_ne.2 fun e => h (dg_inj ha hb e)
theorem dg_par (n : Nat) : ((dg n).getD 0 0 &&& BitVec.ofInt 64 1 == BitVec.ofInt 64 1) = decide (n % 2 = 1) := by
 rw [dg_get n 0 (by decide)]
 have e : (BitVec.ofNat 64 (dt n 0) &&& BitVec.ofInt 64 1).toNat = n % 2 := by
  have := Mt.Dg.dt_lt n 0
  rw [BitVec.toNat_and, show (BitVec.ofInt 64 1).toNat = 2 ^ 1 - 1 from rfl, Nat.and_two_pow_sub_one_eq_mod, Mt.Dg.toN _ (by omega)]
  show n / 2 ^ (30 * 0) % 2 ^ 30 % 2 ^ 1 = _
  rw [Nat.mul_zero, Nat.pow_zero, Nat.div_one]
  omega
 by_cases h : n % 2 = 1
 ·rw [decide_eq_true h]
  exact beq_iff_eq.2 (BitVec.eq_of_toNat_eq (by rw [e, h]; rfl))
 ·rw [decide_eq_false h]
  refine beq_eq_false_iff_ne.2 fun e2 => h ?_
  rw [← e, e2]
  rfl
theorem zero9 : [] ++ List.drop 0 (List.replicate 9 (0 : BitVec 64)) = dg 0 := by decide +kernel
theorem ert_ok : EnvOk Tryz.prog (ERt smF QQ muF sbF Q pwF) := ⟨PT.add_ok (PT.add_ok (PT.add_ok (PT.add_ok (PT.add_ok (noT_ok _ _) smallD_ok) mulD_ok) subD_ok) powerD_ok) (flagZ_ok _), noC_ok _ _⟩
theorem ero_ok : EnvOk Tryz.prog (ERo smF QQ muF sbF Q pwF) := ⟨PT.add_ok (PT.add_ok (PT.add_ok (PT.add_ok (noT_ok _ _) smallD_ok) mulD_ok) subD_ok) powerD_ok, noC_ok _ _⟩
def ivF (l : W6) : W6 := dg (Mt.iv (nv l))
theorem invD_ok : POk Tryz.prog GE 42 (c1 Q ivF) := by
 intro args acs r hh β M w hR hw ha
 unfold c1 at hh
 split at hh
 ·rename_i l
  simp only [Option.some.injEq, Prod.mk.injEq] at hh
  obtain ⟨h1, rfl⟩ := hh
  obtain ⟨e1, k1⟩ := Mt.Dg.of_Q h1
  unfold ivF
  generalize nv l = A at *
  subst e1
  refine pokE (E := ERo smF QQ muF sbF Q pwF) rfl ero_ok (vaIn smF QQ muF sbF Q pwF (dg A) _) ?_ rfl rfl hR
  have f1 : pwF (dg A) (bts { data := #[48, 49, 48, 49, 49] }) = dg (Mt.iv A) := by
   show dg (px (nv (dg A)) tInv (250 + tInv.length)) = _
   rw [nvd k1, Mt.Dg.px_inv]
  rw [Mt.Dg.w9_dg, Mt.Dg.Q_dg k1, f1]
  rfl
 ·cases hh
def cRoD (C : W6 → Bool) (F : W6 → Bool → W6) (J : W6 → Bool → Bool) : List SV → List Cont → Option (Bool × SV)
 | [.a64 l, .b o], _ => some (C l, .tup [.a64 (w9 (F l o)), .b (J l o)])
 | _, _ => none
def roF (l : W6) (o : Bool) : W6 := dg (Mt.ro (nv l) o)
def rjF (l : W6) (o : Bool) : Bool := Mt.ok (nv l) o
theorem rt_c {A : Nat} (h : Mt.Nt.c1 A * Mt.Nt.c1 A % Mt.Nt.P = A) : Mt.Nt.rt A = Mt.Nt.c1 A := by unfold Mt.Nt.rt; rw [if_pos h]
theorem rt_i {A : Nat} (h : ¬ Mt.Nt.c1 A * Mt.Nt.c1 A % Mt.Nt.P = A) : Mt.Nt.rt A = Mt.Nt.c1 A * Mt.Nt.I % Mt.Nt.P := by unfold Mt.Nt.rt; rw [if_neg h]
theorem root_end {A : Nat} (hA : A < Mt.Nt.P) (o : Bool) {r : Nat} (hr : Mt.Nt.rt A = r) (hrP : r < Mt.Nt.P) (K : SV → Prop) (hK : K (.tup [.a64 (w9 (dg (Mt.ro A o))), .b (Mt.ok A o)])) : (bif QQ (dg r) (dg r) then bif bif true then !(w9 (muF (dg r) (dg r)) == dg A) else w9 (muF (dg r) (dg r)) == dg A then K (SV.tup [SV.a64 ([] ++ List.drop 0 (List.replicate 9 (0 : BitVec 64))), SV.b false]) else bif bif true then !((dg r).getD 0 0 &&& BitVec.ofInt 64 1 == BitVec.ofInt 64 1) == o else ((dg r).getD 0 0 &&& BitVec.ofInt 64 1 == BitVec.ofInt 64 1) == o then bif QQ ([] ++ List.drop 0 (List.replicate 9 (0 : BitVec 64))) (dg r) then K (SV.tup [SV.a64 (w9 (sbF ([] ++ List.drop 0 (List.replicate 9 (0 : BitVec 64))) (dg r))), SV.b (bif false then !((w9 (sbF ([] ++ List.drop 0 (List.replicate 9 (0 : BitVec 64))) (dg r))).getD 0 0 &&& BitVec.ofInt 64 1 == BitVec.ofInt 64 1) == o else ((w9 (sbF ([] ++ List.drop 0 (List.replicate 9 (0 : BitVec 64))) (dg r))).getD 0 0 &&& BitVec.ofInt 64 1 == BitVec.ofInt 64 1) == o)]) ∧ True else False else K (SV.tup [SV.a64 (dg r), SV.b (bif false then !((dg r).getD 0 0 &&& BitVec.ofInt 64 1 == BitVec.ofInt 64 1) == o else ((dg r).getD 0 0 &&& BitVec.ofInt 64 1 == BitVec.ofInt 64 1) == o)]) ∧ True else False) := by
 have h0 : 0 < Mt.Nt.P := Mt.P_pos
 rw [zero9, QQ_dg hrP hrP, muF_dg hrP hrP, Mt.Dg.w9_dg, dg_beq (modP _) hA, QQ_dg h0 hrP, sbF_dg h0 hrP, Mt.Dg.w9_dg, dg_par, dg_par]
 simp only [cond_true, cond_false]
 rw [Mt.Dg.rq_ro A hA, Mt.Dg.ry_ok] at hK
 unfold Mt.Dg.rq Mt.Dg.ry Mt.rs at hK
 rw [hr, Mt.Dg.w9_dg] at hK
 by_cases h1 : r * r % Mt.Nt.P = A
 ·rw [decide_eq_true h1] at hK ⊢
  simp only [Bool.not_true, cond_false, cond_true, Bool.true_and] at hK ⊢
  have same : ∀ q : Bool, decide (r % 2 = 1) = q → K (SV.tup [SV.a64 (dg (bif (q != q) then (0 + Mt.Nt.P - r) % Mt.Nt.P else r)), SV.b (decide ((bif (q != q) then (0 + Mt.Nt.P - r) % Mt.Nt.P else r) % 2 = 1) == q)]) → K (SV.tup [SV.a64 (dg r), SV.b (q == q)]) := fun q hq h => by
   rw [bne_self_eq_false, cond_false, hq] at h
   exact h
  cases hp : decide (r % 2 = 1) <;> cases o <;> rw [hp] at hK
  ·exact ⟨same false hp hK, trivial⟩
  ·exact ⟨hK, trivial⟩
  ·exact ⟨hK, trivial⟩
  ·exact ⟨same true hp hK, trivial⟩
 ·rw [decide_eq_false h1] at hK ⊢
  exact hK
theorem rootD_ok : POk Tryz.prog GE 74 (cRoD Q roF rjF) := by
 intro args acs r hh β M w hR hw ha
 unfold cRoD at hh
 split at hh
 ·rename_i l o
  simp only [Option.some.injEq, Prod.mk.injEq] at hh
  obtain ⟨h1, rfl⟩ := hh
  obtain ⟨e1, k1⟩ := Mt.Dg.of_Q h1
  unfold roF rjF
  generalize nv l = A at *
  subst e1
  refine pokE (E := ERt smF QQ muF sbF Q pwF) rfl ert_ok (vaRo smF QQ muF sbF Q pwF (dg A) o _) ?_ rfl rfl hR
  have hx := Mt.c1_ltP A
  have f1 : pwF (dg A) (bts { data := #[49, 48] }) = dg (Mt.Nt.c1 A) := by
   show dg (px (nv (dg A)) tRt (250 + tRt.length)) = _
   rw [nvd k1, Mt.Dg.px_rt]
  have two : 2 < Mt.Nt.P := Mt.Nt.P_two
  have f2 : pwF (dg 2) (bts { data := #[48, 49, 49] }) = dg Mt.Nt.I := by
   show dg (px (nv (dg 2)) tI (250 + tI.length)) = _
   rw [nvd two, Mt.Dg.px_i 2 rfl]
  have f3 : smF (BitVec.ofInt 32 2) = dg 2 := sm_two
  rw [Mt.Dg.w9_dg, f1, Mt.Dg.w9_dg, f3, Mt.Dg.w9_dg, f2, Mt.Dg.w9_dg]
  refine bif_of (by rw [Mt.Dg.Q_dg k1]; rfl) (bif_of (QQ_dg hx hx) ?_)
  have hd := dg_beq (a := Mt.Nt.c1 A * Mt.Nt.c1 A % Mt.Nt.P) (b := A) (modP _) k1
  have em : w9 (muF (dg (Mt.Nt.c1 A)) (dg (Mt.Nt.c1 A))) = dg (Mt.Nt.c1 A * Mt.Nt.c1 A % Mt.Nt.P) := by rw [muF_dg hx hx, Mt.Dg.w9_dg]
  by_cases h1 : Mt.Nt.c1 A * Mt.Nt.c1 A % Mt.Nt.P = A
  ·rw [decide_eq_true h1] at hd
   have e : (bif true then !w9 (muF (dg (Mt.Nt.c1 A)) (dg (Mt.Nt.c1 A))) == dg A else w9 (muF (dg (Mt.Nt.c1 A)) (dg (Mt.Nt.c1 A))) == dg A) = false := by rw [em, hd]; rfl
   have := root_end k1 o (rt_c h1) hx (fun v => v = .tup [.a64 (w9 (dg (Mt.ro A o))), .b (Mt.ok A o)]) rfl
   rw [e] at this ⊢
   rw [cond_false]
   exact this
  ·rw [decide_eq_false h1] at hd
   have e : (bif true then !w9 (muF (dg (Mt.Nt.c1 A)) (dg (Mt.Nt.c1 A))) == dg A else w9 (muF (dg (Mt.Nt.c1 A)) (dg (Mt.Nt.c1 A))) == dg A) = true := by rw [em, hd]; rfl
   rw [e, cond_true]
   refine bif_of (by rw [Mt.Dg.Q_dg two]; rfl) (bif_of (QQ_dg hx Mt.I_lt) ?_)
   rw [muF_dg hx Mt.I_lt, Mt.Dg.w9_dg]
   exact root_end k1 o (rt_i h1) (modP _) (fun v => v = .tup [.a64 (w9 (dg (Mt.ro A o))), .b (Mt.ok A o)]) rfl
 ·cases hh
end Dc
end Go.Proofs.YtdfghknonbmadaaGreatDoor
namespace Go.Proofs.YtdfghknonbmadaaGreatDoor
namespace Mt
set_option linter.unusedVariables false
set_option linter.unusedSimpArgs false
set_option maxRecDepth 1000000
set_option maxHeartbeats 4000000
structure Pd where
 x : Nat
 y : Nat
 z : Nat
def zr : Pd := ⟨0, 1, 1⟩
structure IsR (q : Pd) (p : Ed.Pt) : Prop where
 lx : q.x < Nt.P
 ly : q.y < Nt.P
 lz : q.z < Nt.P
 z : Ed.fe q.z ≠ 0
 x : Ed.fe q.x = p.x * Ed.fe q.z
 y : Ed.fe q.y = p.y * Ed.fe q.z
 on : p.On
theorem IsR.vx {q : Pd} {p : Ed.Pt} (h : IsR q p) : mq q.x (iv q.z) = p.x.val := Ed.fe_lt (ml_lt _ _) (by
 rw [Ed.fe_mul, Ed.fe_iv, h.x]
 have := Ed.mul_inv h.z
 grind -lia)
theorem IsR.vy {q : Pd} {p : Ed.Pt} (h : IsR q p) : mq q.y (iv q.z) = p.y.val := Ed.fe_lt (ml_lt _ _) (by
 rw [Ed.fe_mul, Ed.fe_iv, h.y]
 have := Ed.mul_inv h.z
 grind -lia)
def rad (q r : Pd) : Pd :=
 let a := mq q.z r.z
 let b := mq a a
 let c := mq q.x r.x
 let d := mq q.y r.y
 let e := mq (mq dN c) d
 let f := sb b e
 let g := ad b e
 let h := sb (sb (mq (ad q.x q.y) (ad r.x r.y)) c) d
 ⟨mq (mq a f) h, mq (mq a g) (ad d c), mq f g⟩
namespace Ed
theorem rad_x (x1 y1 z1 x2 y2 z2 d X : F) (hU : X * (1 + d * x1 * x2 * y1 * y2) = x1 * y2 + y1 * x2) :
  z1 * z2 * (z1 * z2 * (z1 * z2) - d * (x1 * z1 * (x2 * z2)) * (y1 * z1 * (y2 * z2))) * ((x1 * z1 + y1 * z1) * (x2 * z2 + y2 * z2) - x1 * z1 * (x2 * z2) - y1 * z1 * (y2 * z2)) = X * ((z1 * z2 * (z1 * z2) - d * (x1 * z1 * (x2 * z2)) * (y1 * z1 * (y2 * z2))) * (z1 * z2 * (z1 * z2) + d * (x1 * z1 * (x2 * z2)) * (y1 * z1 * (y2 * z2)))) := by grind -lia
theorem rad_y (x1 y1 z1 x2 y2 z2 d Y : F) (hU : Y * (1 - d * x1 * x2 * y1 * y2) = y1 * y2 + x1 * x2) :
  z1 * z2 * (z1 * z2 * (z1 * z2) + d * (x1 * z1 * (x2 * z2)) * (y1 * z1 * (y2 * z2))) * (y1 * z1 * (y2 * z2) + x1 * z1 * (x2 * z2)) = Y * ((z1 * z2 * (z1 * z2) - d * (x1 * z1 * (x2 * z2)) * (y1 * z1 * (y2 * z2))) * (z1 * z2 * (z1 * z2) + d * (x1 * z1 * (x2 * z2)) * (y1 * z1 * (y2 * z2)))) := by grind -lia
theorem rf_ne (x1 y1 z1 x2 y2 z2 d : F) : z1 * z2 * (z1 * z2) - d * (x1 * z1 * (x2 * z2)) * (y1 * z1 * (y2 * z2)) = z1 * z2 * (z1 * z2) * (1 - d * x1 * x2 * y1 * y2) := by grind -lia
theorem rg_ne (x1 y1 z1 x2 y2 z2 d : F) : z1 * z2 * (z1 * z2) + d * (x1 * z1 * (x2 * z2)) * (y1 * z1 * (y2 * z2)) = z1 * z2 * (z1 * z2) * (1 + d * x1 * x2 * y1 * y2) := by grind -lia
end Ed
theorem IsR.add {q r : Pd} {p s : Ed.Pt} (h : IsR q p) (k : IsR r s) : IsR (rad q r) (Ed.add p s) := by
 have hx := Ed.add_x h.on k.on
 have hy := Ed.add_y h.on k.on
 have n1 := Ed.rf_ne p.x p.y (Ed.fe q.z) s.x s.y (Ed.fe r.z) Ed.dd
 have n2 := Ed.rg_ne p.x p.y (Ed.fe q.z) s.x s.y (Ed.fe r.z) Ed.dd
 have hzz := Ed.mul_ne h.z k.z
 have hf := Ed.mul_ne (Ed.mul_ne hzz hzz) (Ed.dm h.on k.on)
 have hg := Ed.mul_ne (Ed.mul_ne hzz hzz) (Ed.dp h.on k.on)
 rw [← n1] at hf
 rw [← n2] at hg
 have ef : Ed.fe (sb (mq (mq q.z r.z) (mq q.z r.z)) (mq (mq dN (mq q.x r.x)) (mq q.y r.y))) = Ed.fe q.z * Ed.fe r.z * (Ed.fe q.z * Ed.fe r.z) - Ed.dd * (p.x * Ed.fe q.z * (s.x * Ed.fe r.z)) * (p.y * Ed.fe q.z * (s.y * Ed.fe r.z)) := by
  rw [Ed.fe_sub _ _ (ml_lt _ _)]
  simp only [Ed.fe_mul]
  rw [fe_dN, h.x, h.y, k.x, k.y]
 have eg : Ed.fe (ad (mq (mq q.z r.z) (mq q.z r.z)) (mq (mq dN (mq q.x r.x)) (mq q.y r.y))) = Ed.fe q.z * Ed.fe r.z * (Ed.fe q.z * Ed.fe r.z) + Ed.dd * (p.x * Ed.fe q.z * (s.x * Ed.fe r.z)) * (p.y * Ed.fe q.z * (s.y * Ed.fe r.z)) := by
  rw [Ed.fe_add]
  simp only [Ed.fe_mul]
  rw [fe_dN, h.x, h.y, k.x, k.y]
 refine ⟨ml_lt _ _, ml_lt _ _, ml_lt _ _, ?_, ?_, ?_, Ed.add_on h.on k.on⟩
 ·show Ed.fe (mq _ _) ≠ 0
  rw [Ed.fe_mul, ef, eg]; exact Ed.mul_ne hf hg
 ·show Ed.fe (mq (mq _ _) _) = _ * Ed.fe (mq _ _)
  rw [Ed.fe_mul (mq (mq q.z r.z) _) _, Ed.fe_mul (mq q.z r.z) _, Ed.fe_mul (sb _ _) (ad _ _), ef, eg, Ed.fe_sub _ _ (ml_lt _ _), Ed.fe_sub _ _ (ml_lt _ _)]
  simp only [Ed.fe_mul, Ed.fe_add]
  rw [h.x, h.y, k.x, k.y]
  exact Ed.rad_x p.x p.y (Ed.fe q.z) s.x s.y (Ed.fe r.z) Ed.dd _ hx
 ·show Ed.fe (mq (mq _ _) _) = _ * Ed.fe (mq _ _)
  rw [Ed.fe_mul (mq (mq q.z r.z) _) _, Ed.fe_mul (mq q.z r.z) _, Ed.fe_mul (sb _ _) (ad _ _), ef, eg, Ed.fe_add]
  simp only [Ed.fe_mul]
  rw [h.x, h.y, k.x, k.y]
  exact Ed.rad_y p.x p.y (Ed.fe q.z) s.x s.y (Ed.fe r.z) Ed.dd _ hy
theorem IsR.at {x y : Nat} {p : Ed.Pt} (hx : x < Nt.P) (hy : y < Nt.P) (ex : Ed.fe x = p.x) (ey : Ed.fe y = p.y) (on : p.On) : IsR ⟨x, y, 1⟩ p := by
 have h1 : Ed.fe 1 = 1 := Ed.fe_1
 refine ⟨hx, hy, one_lt, ?_, ?_, ?_, on⟩
 ·show Ed.fe 1 ≠ 0; rw [h1]; exact Ed.one_ne
 ·show Ed.fe x = p.x * Ed.fe 1; rw [h1, ex]; grind -lia
 ·show Ed.fe y = p.y * Ed.fe 1; rw [h1, ey]; grind -lia
theorem zr_is : IsR zr Ed.zero := IsR.at zero_lt one_lt Ed.fe_0 Ed.fe_1 Ed.zero_on
def br : Pd := ⟨Bp.x.val, Bp.y.val, 1⟩
theorem br_is : IsR br Bp := IsR.at (Ed.val_lt _) (Ed.val_lt _) (Ed.fe_of _) (Ed.fe_of _) Bp_on
def sme (q r : Pd) : Bool := decide (mq q.x r.z = mq r.x q.z) && decide (mq q.y r.z = mq r.y q.z)
theorem sme_is {q r : Pd} {p s : Ed.Pt} (h : IsR q p) (k : IsR r s) : sme q r = (decide (p.x = s.x) && decide (p.y = s.y)) := by
 have hs := same_iff h.z k.z h.x h.y k.x k.y
 have e1 : decide (mq q.x r.z = mq r.x q.z) = decide (p.x = s.x) := by
  apply decide_eq_decide.2
  rw [← hs.1, fe_eq (ml_lt _ _) (ml_lt _ _), Ed.fe_mul, Ed.fe_mul]
 have e2 : decide (mq q.y r.z = mq r.y q.z) = decide (p.y = s.y) := by
  apply decide_eq_decide.2
  rw [← hs.2, fe_eq (ml_lt _ _) (ml_lt _ _), Ed.fe_mul, Ed.fe_mul]
 unfold sme
 rw [e1, e2]
def tmD (r : Pd) (v : Nat) : Nat → Pd
 | 0 => zr
 | k + 1 => bif decide (v / 2 ^ (255 - k) % 2 = 1) then rad (rad (tmD r v k) (tmD r v k)) r else rad (tmD r v k) (tmD r v k)
theorem tmD_is {r : Pd} {p : Ed.Pt} (h : IsR r p) (v : Nat) (hv : v < 2 ^ 256) : ∀ k, k ≤ 256 → IsR (tmD r v k) (Ed.nm (v / 2 ^ (256 - k)) p)
 | 0, _ => by
  rw [Nat.sub_zero, Nat.div_eq_of_lt hv]
  exact zr_is
 | k + 1, hk => by
  have ih := tmD_is h v hv k (by omega)
  have h2 := ih.add ih
  rw [← Ed.nm_two h.on] at h2
  rw [bit_up v 256 k (by omega)]
  show IsR (bif decide (v / 2 ^ (255 - k) % 2 = 1) then rad (rad (tmD r v k) (tmD r v k)) r else rad (tmD r v k) (tmD r v k)) _
  by_cases c : v / 2 ^ (255 - k) % 2 = 1
  ·rw [decide_eq_true c]
   have h3 := h2.add h
   have e : v / 2 ^ (256 - 1 - k) % 2 = 1 := c
   rw [e]
   exact h3
  ·rw [decide_eq_false c]
   have e : v / 2 ^ (256 - 1 - k) % 2 = 0 := by show v / 2 ^ (255 - k) % 2 = 0; omega
   rw [e, Nat.add_zero]
   exact h2
theorem tmD_all {r : Pd} {p : Ed.Pt} (h : IsR r p) {v : Nat} (hv : v < 2 ^ 256) : IsR (tmD r v 256) (Ed.nm v p) := by
 have := tmD_is h v hv 256 (Nat.le_refl _)
 rw [Nat.sub_self, Nat.pow_zero, Nat.div_one] at this
 exact this
theorem mq_comm (a b : Nat) : mq a b = mq b a := by unfold mq; rw [Nat.mul_comm]
theorem x2_doc (y : Nat) : mq (sb (mq y y) 1) (iv (ad (mq dN (mq y y)) 1)) = x2 y := by unfold x2; rw [mq_comm dN]
end Mt
end Go.Proofs.YtdfghknonbmadaaGreatDoor
