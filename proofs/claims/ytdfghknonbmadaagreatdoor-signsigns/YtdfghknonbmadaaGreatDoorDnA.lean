/-
  The document's numbers: differences, comparisons, in the reckoner. No statement is proved here.
-/
import Derived.Test.YtdfghknonbmadaaGreatDoorDoC
import Derived.Test.YtdfghknonbmadaaGreatDoorEwD
namespace Go.Proofs.YtdfghknonbmadaaGreatDoor
namespace Dc
open Go.RowKit
set_option linter.unusedVariables false
set_option linter.unusedSimpArgs false
set_option maxRecDepth 100000
open Mt.Dg (w9 dg bv nv Q Qd dt bw ml)
def G5 (l : Mm) : Mm := ⟨false, .a64 BEG⟩ :: ⟨false, .a64 PRI⟩ :: ⟨false, .a64 CON⟩ :: ⟨false, .a64 WHO⟩ :: ⟨false, .a64 ROM⟩ :: l
def z9 : W6 := List.replicate 9 0
def c2 (C : W6 → W6 → Bool) (F : W6 → W6 → W6) : List SV → List Cont → Option (Bool × SV)
 | [.a64 l, .a64 m], _ => some (C l m, .a64 (w9 (F l m)))
 | _, _ => none
def c2b (C : W6 → W6 → Bool) (F : W6 → W6 → Bool) : List SV → List Cont → Option (Bool × SV)
 | [.a64 l, .a64 m], _ => some (C l m, .b (F l m))
 | _, _ => none
def c1 (C : W6 → Bool) (F : W6 → W6) : List SV → List Cont → Option (Bool × SV)
 | [.a64 l], _ => some (C l, .a64 (w9 (F l)))
 | _, _ => none
def c0 (v : W6) : List SV → List Cont → Option (Bool × SV)
 | [], _ => some (true, .a64 (w9 v))
 | _, _ => none
theorem lt_of_ilt {a b : Nat} (h : ilt (a : Int) (b : Int) = true) : a < b := by rw [ilt_eq] at h; have := of_decide_eq_true h; omega
theorem le_of_ilt {a b : Nat} (h : ilt (a : Int) (b : Int) = false) : b ≤ a := by rw [ilt_eq] at h; have := of_decide_eq_false h; omega
theorem inR_of {i n : Nat} (h : i < n) : inR (i : Int) n = true := inR_iff.2 ⟨by omega, by omega⟩
theorem pokE' {E : Env} (hG : E.G = GE) (hE : EnvOk Tryz.prog E) {f : Nat} {L : LT} (hL : LOk Tryz.prog E.G GE f L) {args : List SV} {r : SV} {q : Prop} (h : vf Tryz.prog E L f args GE (fun r' _ => r' = r) = q) (hq : q) (ha : SV.wf.wfs 0 args = true) (hr : r.wf 0 = true) {β : Nat → Nat} {M : Mm} {w : World} (hR : Rel GE β M w) : CallR Tryz.prog f (vals β args).toArray w (fun v w' => v = val β r ∧ Fp0 w w') := by
 have hS := vf_ok hE mixed hL (of_eq h hq)
 rw [hG] at hS
 exact pure0 hS ha hr hR
def mMi (x b : W6) : Mm := G5 [⟨true, .a64 x⟩, ⟨true, .a64 b⟩, ⟨true, .a64 z9⟩]
def iMi (c : B6) (i : Nat) : List (Nat × SV) := [(2, .ptr 5 0), (3, .ptr 6 0), (4, .ptr 7 0), (5, .w64 c), (6, .i (i : Nat))]
def oMi : List (Nat × SV) := [(2, .ptr 5 0), (4, .ptr 7 0)]
def LMi (a b z : W6) : LT := noL.add 0 (vLoop GE 30 (iMi 0 0) (mMi a b) oMi (mMi z b))
theorem vaMi (a b z : W6) (K : SV → Mm → Prop) : (vf Tryz.prog E00 (LMi (w9 a) (w9 b) z) 106 [.a64 (w9 a), .a64 (w9 b)] GE K) = (loopOf Tryz.prog 106 0 = loopOf Tryz.prog 106 0 ∧ SV.ptr 5 0 = SV.ptr 5 0 ∧ SV.ptr ((0 : Nat) + (1 : Nat) + (1 : Nat) + (1 : Nat) + (1 : Nat) + (1 : Nat) + (1 : Nat)) (0 : Nat) = SV.ptr 6 0 ∧ SV.ptr ((0 : Nat) + (1 : Nat) + (1 : Nat) + (1 : Nat) + (1 : Nat) + (1 : Nat) + (1 : Nat) + (1 : Nat)) (0 : Nat) = SV.ptr 7 0 ∧ SV.w64 (BitVec.ofInt 64 0) = SV.w64 (0 : B6) ∧ SV.i (0 : Int) = SV.i (↑(0 : Nat) : Int) ∧ g5E ((true = true ∧ Cont.a64 (w9 a) = Cont.a64 (w9 a)) ∧ (true = true ∧ Cont.a64 (w9 b) = Cont.a64 (w9 b)) ∧ (true = true ∧ Cont.a64 (List.replicate 9 (0 : BitVec 64)) = Cont.a64 z9) ∧ bif (List.length z).beq 9 then bif (List.length z).beq 9 && (List.length z).beq 9 then bif (List.length z).beq 9 && true then K (SV.a64 z) [{ rw := false, c := Cont.a64 BEG }, { rw := false, c := Cont.a64 PRI }, { rw := false, c := Cont.a64 CON }, { rw := false, c := Cont.a64 WHO }, { rw := false, c := Cont.a64 ROM }, { rw := true, c := Cont.a64 z }, { rw := true, c := Cont.a64 (w9 b) }, { rw := true, c := Cont.a64 z }] else False else False else False)) := by kernel_rfl
theorem vrMi (b x y z : W6) (c d : B6) (i : Nat) (p : Prop) : (frK 30 (iMi c i) fun fr => vround Tryz.prog E00 noL 106 0 fr (mMi x b) (Kn GE 0 30 p (iMi d (i + 1)) (mMi y b) oMi (mMi z b))) = (bif ilt (↑i : Int) (9 : Int) then bif inR (↑i : Int) (9 : Nat) then bif i.blt (List.length x) then bif inR (↑i : Int) (9 : Nat) then bif i.blt (List.length b) then bif inR (↑i : Int) (9 : Nat) then bif i.blt (List.length x) then bif inI ((↑i : Int) + (1 : Int)) then p ∧ SV.ptr 5 0 = SV.ptr 5 0 ∧ SV.ptr 6 0 = SV.ptr 6 0 ∧ SV.ptr 7 0 = SV.ptr 7 0 ∧ SV.w64 (BitVec.ofInt 64 1 - (BitVec.ofInt 64 1073741824 + List.getD x i (0 : BitVec 64) - List.getD b i (0 : BitVec 64) - c) >>> (30 : Nat)) = SV.w64 d ∧ SV.i ((↑i : Int) + (1 : Int)) = SV.i (↑(i + (1 : Nat)) : Int) ∧ g5E ((true = true ∧ Cont.a64 (List.set x i (BitVec.ofInt 64 1073741824 + List.getD x i (0 : BitVec 64) - List.getD b i (0 : BitVec 64) - c &&& BitVec.ofInt 64 1073741823)) = Cont.a64 y) ∧ (true = true ∧ Cont.a64 b = Cont.a64 b) ∧ (true = true ∧ Cont.a64 z9 = Cont.a64 z9) ∧ True) else False else False else False else False else False else False else False else (0 : Nat) = (0 : Nat) ∧ SV.ptr 5 0 = SV.ptr 5 0 ∧ SV.ptr 7 0 = SV.ptr 7 0 ∧ g5E ((true = true ∧ Cont.a64 x = Cont.a64 z) ∧ (true = true ∧ Cont.a64 b = Cont.a64 b) ∧ (true = true ∧ Cont.a64 z9 = Cont.a64 z9) ∧ True)) := by kernel_rfl
theorem minus_w {a b c c' d : Nat} (h : 1073741824 * c' + a = b + c + d) (ha : a < 1073741824) (hb : b < 1073741824) (hd : d < 1073741824) (hc : c ≤ 1) (hc' : c' ≤ 1) : (BitVec.ofInt 64 1073741824 + BitVec.ofNat 64 a - BitVec.ofNat 64 b - BitVec.ofNat 64 c &&& BitVec.ofInt 64 1073741823) = BitVec.ofNat 64 d ∧ BitVec.ofInt 64 1 - (BitVec.ofInt 64 1073741824 + BitVec.ofNat 64 a - BitVec.ofNat 64 b - BitVec.ofNat 64 c) >>> 30 = BitVec.ofNat 64 c' := by
 rw [show BitVec.ofInt 64 1073741824 = BitVec.ofNat 64 1073741824 from rfl, show BitVec.ofInt 64 1 = BitVec.ofNat 64 1 from rfl, Mt.Dg.addN, Mt.Dg.subN _ _ (by omega), Mt.Dg.subN _ _ (by omega), Mt.Dg.and30 _ (by omega), Mt.Dg.shr _ 30 (by omega)]
 have e1 : (1073741824 + a - b - c) % 1073741824 = d := by omega
 have e2 : (1073741824 + a - b - c) / 1073741824 = 1 - c' := by omega
 rw [e1, show (2 : Nat) ^ 30 = 1073741824 from rfl, e2, Mt.Dg.subN _ _ (by omega)]
 exact ⟨rfl, by congr 1; omega⟩
theorem dg_get (n i : Nat) (h : i < 9) : (dg n).getD i 0 = BitVec.ofNat 64 (dt n i) := by rw [Mt.Dg.dg_bv, Mt.Dg.bv_get, Mt.Dg.dts_get n i h]
theorem dg_len (n : Nat) : (dg n).length = 9 := rfl
theorem loopMi (A B : Nat) (hAB : B ≤ A) (a z : W6) (c : B6) (ha : a = bv (ml A B 0)) (hz : z = bv (ml A B 9)) (hc : c = BitVec.ofNat 64 (bw A B 0)) : ∀ fr M K, vLoop GE 30 (iMi c 0) (mMi a (dg B)) oMi (mMi z (dg B)) fr M K → Wp Tryz.prog GE GE (loopOf Tryz.prog 106 0) fr M K := by
 subst ha; subst hc
 refine loop_next e00_ok mixed (noL_ok _ _ _ _) (Nat.le_refl _) (by kernel_rfl) (fun i => iMi (BitVec.ofNat 64 (bw A B i)) i) (fun i => mMi (bv (ml A B i)) (dg B)) (fun i => i ≤ 9) (fun i => 9 - i) (fun i => i + 1) 0 (Nat.zero_le _) (fun i hi => of_eq (vrMi (dg B) (bv (ml A B i)) (bv (ml A B (i + 1))) z (BitVec.ofNat 64 (bw A B i)) (BitVec.ofNat 64 (bw A B (i + 1))) i _) ?_)
 cases hq : ilt (i : Int) 9
 ·have hi2 : i = 9 := by have := le_of_ilt (b := 9) hq; omega
  have e : bv (ml A B i) = z := by rw [hz, hi2]
  rw [e]
  exact ⟨rfl, rfl, rfl, ⟨rfl, rfl⟩, ⟨rfl, rfl⟩, ⟨rfl, rfl⟩, ⟨rfl, rfl⟩, ⟨rfl, rfl⟩, ⟨rfl, rfl⟩, ⟨rfl, rfl⟩, ⟨rfl, rfl⟩, trivial⟩
 ·have hi2 : i < 9 := lt_of_ilt (b := 9) hq
  have i1 := inR_of hi2
  have i2 : Nat.blt i (bv (ml A B i)).length = true := blt_of (by rw [Mt.Dg.bv_len, Mt.Dg.ml_len]; exact hi2)
  have i3 : Nat.blt i (dg B).length = true := blt_of hi2
  obtain ⟨s1, s2⟩ := minus_w (Mt.Dg.minus_dt hAB i) (Mt.Dg.dt_lt A i) (Mt.Dg.dt_lt B i) (Mt.Dg.dt_lt (A - B) i) (Mt.Dg.bw_le A B i) (Mt.Dg.bw_le A B (i + 1))
  have g1 : (bv (ml A B i)).getD i 0 = BitVec.ofNat 64 (dt A i) := by rw [Mt.Dg.bv_get, Mt.Dg.ml_get A B i hi2]
  have g2 := dg_get B i hi2
  rw [g1, g2, s1, s2, Mt.Dg.bv_set, Mt.Dg.ml_set A B i hi2]
  exact bif_of i1 (bif_of i2 (bif_of i1 (bif_of i3 (bif_of i1 (bif_of i2 (bif_of (inI_iff.2 (by omega)) ⟨⟨by omega, by omega⟩, rfl, rfl, rfl, rfl, rfl, ⟨rfl, rfl⟩, ⟨rfl, rfl⟩, ⟨rfl, rfl⟩, ⟨rfl, rfl⟩, ⟨rfl, rfl⟩, ⟨rfl, rfl⟩, ⟨rfl, rfl⟩, ⟨rfl, rfl⟩, trivial⟩))))))
def miC (l m : W6) : Bool := Qd l && (Qd m && Nat.ble (nv m) (nv l))
def miF (l m : W6) : W6 := dg (nv l - nv m)
theorem minusD_ok : POk Tryz.prog GE 106 (c2 miC miF) := by
 intro args acs r hh β M w hR hw ha
 unfold c2 at hh
 split at hh
 ·rename_i l m
  simp only [Option.some.injEq, Prod.mk.injEq, miC, Bool.and_eq_true] at hh
  obtain ⟨⟨h1, h2, h3⟩, rfl⟩ := hh
  obtain ⟨e1, k1⟩ := Mt.Dg.of_Qd h1
  obtain ⟨e2, k2⟩ := Mt.Dg.of_Qd h2
  have h3 := Nat.le_of_ble_eq_true h3
  unfold miF
  generalize nv l = A at *
  generalize nv m = B at *
  subst e1; subst e2
  refine pokE' (E := E00) rfl e00_ok (LT.add_ok (noL_ok _ _ _ _) (loopMi A B h3 (dg A) (dg (A - B)) 0 ?_ ?_ ?_)) (vaMi (dg A) (dg B) (dg (A - B)) _) ?_ rfl rfl hR
  ·rw [Mt.Dg.ml_zero]; rfl
  ·rw [Mt.Dg.ml_nine]; rfl
  ·unfold bw; rw [Nat.mul_zero, Nat.pow_zero, Nat.mod_one, Nat.mod_one]; rfl
  ·exact ⟨rfl, rfl, rfl, rfl, rfl, rfl, ⟨rfl, rfl⟩, ⟨rfl, rfl⟩, ⟨rfl, rfl⟩, ⟨rfl, rfl⟩, ⟨rfl, rfl⟩, ⟨rfl, rfl⟩, ⟨rfl, rfl⟩, ⟨rfl, rfl⟩, rfl⟩
 ·cases hh
def mLe (a b : W6) : Mm := G5 [⟨true, .a64 a⟩, ⟨true, .a64 b⟩]
def iLe (j : Nat) : List (Nat × SV) := [(2, .ptr 5 0), (3, .ptr 6 0), (5, .i (8 - (j : Int)))]
def LLe (a b : W6) (t : Bool) (q : Prop) : LT := noL.add 0 (vLoopR GE 24 (iLe 0) (mLe a b) q [] (mLe a b) True [(4, .b t)] (mLe a b))
theorem vaLe (a b : W6) (t : Bool) (q : Prop) (K : SV → Mm → Prop) : (vf Tryz.prog E00 (LLe a b t q) 103 [.a64 a, .a64 b] GE K) = (loopOf Tryz.prog 103 0 = loopOf Tryz.prog 103 0 ∧ SV.ptr 5 0 = SV.ptr 5 0 ∧ SV.ptr ((0 : Nat) + (1 : Nat) + (1 : Nat) + (1 : Nat) + (1 : Nat) + (1 : Nat) + (1 : Nat)) (0 : Nat) = SV.ptr 6 0 ∧ SV.i (8 : Int) = SV.i ((8 : Int) - (↑(0 : Nat) : Int)) ∧ g5E ((true = true ∧ Cont.a64 a = Cont.a64 a) ∧ (true = true ∧ Cont.a64 b = Cont.a64 b) ∧ (q → K (SV.b false) (mLe a b)) ∧ (True → K (SV.b t) (mLe a b)))) := by kernel_rfl
theorem vrLe (a b : W6) (j : Nat) (t : Bool) (q p : Prop) : (frK 24 (iLe j) fun fr => vround Tryz.prog E00 noL 103 0 fr (mLe a b) (Kt GE 0 24 p (iLe (j + 1)) (mLe a b) q [] (mLe a b) True [(4, .b t)] (mLe a b))) = (bif ile (0 : Int) ((8 : Int) - (↑j : Int)) then bif inR ((8 : Int) - (↑j : Int)) (9 : Nat) then bif ((8 : Int) - (↑j : Int)).toNat.blt (List.length a) then bif inR ((8 : Int) - (↑j : Int)) (9 : Nat) then bif ((8 : Int) - (↑j : Int)).toNat.blt (List.length b) then bif List.getD a ((8 : Int) - (↑j : Int)).toNat (0 : BitVec 64) != List.getD b ((8 : Int) - (↑j : Int)).toNat (0 : BitVec 64) then bif inR ((8 : Int) - (↑j : Int)) (9 : Nat) then bif ((8 : Int) - (↑j : Int)).toNat.blt (List.length a) then bif inR ((8 : Int) - (↑j : Int)) (9 : Nat) then bif ((8 : Int) - (↑j : Int)).toNat.blt (List.length b) then True ∧ SV.b ((List.getD a ((8 : Int) - (↑j : Int)).toNat (0 : BitVec 64)).ult (List.getD b ((8 : Int) - (↑j : Int)).toNat (0 : BitVec 64))) = SV.b t ∧ g5E ((true = true ∧ Cont.a64 a = Cont.a64 a) ∧ (true = true ∧ Cont.a64 b = Cont.a64 b) ∧ True) else False else False else False else False else bif inI ((8 : Int) - (↑j : Int) - (1 : Int)) then p ∧ SV.ptr 5 0 = SV.ptr 5 0 ∧ SV.ptr 6 0 = SV.ptr 6 0 ∧ SV.i ((8 : Int) - (↑j : Int) - (1 : Int)) = SV.i ((8 : Int) - (↑(j + (1 : Nat)) : Int)) ∧ g5E ((true = true ∧ Cont.a64 a = Cont.a64 a) ∧ (true = true ∧ Cont.a64 b = Cont.a64 b) ∧ True) else False else False else False else False else False else (0 : Nat) = (0 : Nat) ∧ q ∧ g5E ((true = true ∧ Cont.a64 a = Cont.a64 a) ∧ (true = true ∧ Cont.a64 b = Cont.a64 b) ∧ True)) := by kernel_rfl
theorem bne_w {a b : Nat} (ha : a < 1073741824) (hb : b < 1073741824) : (BitVec.ofNat 64 a != BitVec.ofNat 64 b) = decide (a ≠ b) := by
 by_cases h : a = b
 ·subst h; simp
 ·rw [decide_eq_true h]
  refine bne_iff_ne.2 fun e => h ?_
  have := congrArg BitVec.toNat e
  rw [Mt.Dg.toN a (by omega), Mt.Dg.toN b (by omega)] at this
  exact this
theorem ult_w {a b : Nat} (ha : a < 1073741824) (hb : b < 1073741824) : (BitVec.ofNat 64 a).ult (BitVec.ofNat 64 b) = decide (a < b) := by
 unfold BitVec.ult
 rw [Mt.Dg.toN a (by omega), Mt.Dg.toN b (by omega)]
theorem loopLe (A B : Nat) (hA : A / 2 ^ (30 * 9) = 0) (hB : B / 2 ^ (30 * 9) = 0) : LOk Tryz.prog GE GE 103 (LLe (dg A) (dg B) (decide (A < B)) (decide (A < B) = false)) := by
 refine LT.add_ok (noL_ok _ _ _ _) (loop_ret e00_ok mixed (noL_ok _ _ _ _) (Nat.le_refl _) (by kernel_rfl) (fun j => iLe j) (fun _ => mLe (dg A) (dg B)) (fun j => j ≤ 9 ∧ A / 2 ^ (30 * (9 - j)) = B / 2 ^ (30 * (9 - j))) (fun j => 9 - j) (fun j => j + 1) 0 ⟨by decide, by rw [Nat.sub_zero, hA, hB]⟩ fun j hj => of_eq (vrLe (dg A) (dg B) j _ _ _) ?_)
 obtain ⟨hj, he⟩ := hj
 cases hc : ile 0 (8 - (j : Int))
 ·have hj2 : j = 9 := by rw [ile_eq] at hc; have := of_decide_eq_false hc; omega
  subst hj2
  rw [Nat.sub_self, Nat.mul_zero, Nat.pow_zero, Nat.div_one, Nat.div_one] at he
  exact ⟨rfl, decide_eq_false (by omega), ⟨rfl, rfl⟩, ⟨rfl, rfl⟩, ⟨rfl, rfl⟩, ⟨rfl, rfl⟩, ⟨rfl, rfl⟩, ⟨rfl, rfl⟩, ⟨rfl, rfl⟩, trivial⟩
 ·have hj2 : j < 9 := by rw [ile_eq] at hc; have := of_decide_eq_true hc; omega
  have e : (8 - (j : Int)).toNat = 8 - j := by omega
  have h1 : inR (8 - (j : Int)) 9 = true := inR_iff.2 (by omega)
  have h2 : Nat.blt (8 - j) 9 = true := blt_of (by omega)
  rw [show 9 - j = 8 - j + 1 by omega] at he
  rw [e, dg_len, dg_len, h1, h2, dg_get A _ (by omega), dg_get B _ (by omega), bne_w (Mt.Dg.dt_lt _ _) (Mt.Dg.dt_lt _ _), ult_w (Mt.Dg.dt_lt _ _) (Mt.Dg.dt_lt _ _)]
  by_cases hd : dt A (8 - j) = dt B (8 - j)
  ·rw [decide_eq_false (by rw [hd]; simp)]
   have h3 : inI (8 - (j : Int) - 1) = true := inI_iff.2 (by omega)
   rw [h3]
   refine ⟨⟨⟨by omega, ?_⟩, by omega⟩, rfl, rfl, congrArg SV.i (by omega), ⟨rfl, rfl⟩, ⟨rfl, rfl⟩, ⟨rfl, rfl⟩, ⟨rfl, rfl⟩, ⟨rfl, rfl⟩, ⟨rfl, rfl⟩, ⟨rfl, rfl⟩, trivial⟩
   rw [show 9 - (j + 1) = 8 - j by omega, Mt.Dg.div_dt A, Mt.Dg.div_dt B, he, hd]
  ·rw [decide_eq_true hd, Mt.Dg.less_dt he hd]
   exact ⟨trivial, rfl, ⟨rfl, rfl⟩, ⟨rfl, rfl⟩, ⟨rfl, rfl⟩, ⟨rfl, rfl⟩, ⟨rfl, rfl⟩, ⟨rfl, rfl⟩, ⟨rfl, rfl⟩, trivial⟩
def leC (l m : W6) : Bool := Qd l && Qd m
def leF (l m : W6) : Bool := decide (nv l < nv m)
theorem lessD_ok : POk Tryz.prog GE 103 (c2b leC leF) := by
 intro args acs r hh β M w hR hw ha
 unfold c2b at hh
 split at hh
 ·rename_i l m
  simp only [Option.some.injEq, Prod.mk.injEq, leC, Bool.and_eq_true] at hh
  obtain ⟨⟨h1, h2⟩, rfl⟩ := hh
  obtain ⟨e1, k1⟩ := Mt.Dg.of_Qd h1
  obtain ⟨e2, k2⟩ := Mt.Dg.of_Qd h2
  unfold leF
  generalize nv l = A at *
  generalize nv m = B at *
  subst e1; subst e2
  refine pokE' (E := E00) rfl e00_ok (loopLe A B k1 k2) (vaLe (dg A) (dg B) _ _ _) ?_ rfl rfl hR
  refine ⟨rfl, rfl, rfl, rfl, ⟨rfl, rfl⟩, ⟨rfl, rfl⟩, ⟨rfl, rfl⟩, ⟨rfl, rfl⟩, ⟨rfl, rfl⟩, ⟨rfl, rfl⟩, ⟨rfl, rfl⟩, fun hq => ?_, fun _ => rfl⟩
  rw [hq]
 ·cases hh
def prL : W6 := [1073741805, 1073741823, 1073741823, 1073741823, 1073741823, 1073741823, 1073741823, 1073741823, 32767]
theorem prime_e : vf Tryz.prog E00 noL 105 [] GE (fun r _ => r = .a64 (w9 prL)) = (SV.a64 (w9 prL) = SV.a64 (w9 prL)) := by kernel_rfl
theorem prL_is : prL = dg Mt.Nt.P := by rw [Mt.Dg.dg_bv, Mt.Dg.dt_P]; rfl
theorem primeD_ok : POk Tryz.prog GE 105 (c0 (dg Mt.Nt.P)) := by
 intro args acs r hh β M w hR hw ha
 unfold c0 at hh
 split at hh
 ·simp only [Option.some.injEq, Prod.mk.injEq, true_and] at hh
  subst hh
  rw [← prL_is]
  exact pokE (E := E00) rfl e00_ok prime_e rfl rfl rfl hR
 ·cases hh
end Dc
end Go.Proofs.YtdfghknonbmadaaGreatDoor
