/-
  num: elements: what their functions answer, word by word. No statement is proved here.
-/
import Derived.Test.YtdfghknonbmadaaDoorNuD
namespace Go.Proofs.YtdfghknonbmadaaDoor
open Go.RowKit
set_option linter.unusedVariables false
set_option linter.unusedSimpArgs false
set_option maxRecDepth 100000

def lwX (a : W6) : B6 := -(a.getD 0 0 &&& BitVec.ofInt 64 1)
def mkX (b : Bool) : B6 := bif b then -BitVec.ofInt 64 1 else -BitVec.ofInt 64 0
theorem low_ok : POk Tryd.prog GE 71 (cLo lwX) := by
  intro args acs r hh β M w hR hw ha
  unfold cLo at hh
  split at hh
  · rename_i a b c d
    simp only [Option.some.injEq, Prod.mk.injEq, true_and] at hh
    subst hh
    exact pok_e en_ok (show vf Tryd.prog (EN adS adC sbS sbC) noL 71 [.a64 [a, b, c, d]] GE (fun r _ => r = .w64 (lwX [a, b, c, d])) from of_eq (show _ = (SV.w64 (lwX [a, b, c, d]) = SV.w64 (lwX [a, b, c, d])) by kernel_rfl) rfl) rfl rfl hR
  · cases hh
theorem mask_ok : POk Tryd.prog GE 81 (cMk mkX) := by
  intro args acs r hh β M w hR hw ha
  unfold cMk at hh
  split at hh
  · rename_i b
    simp only [Option.some.injEq, Prod.mk.injEq, true_and] at hh
    subst hh
    cases b
    · exact pok_e en_ok (show vf Tryd.prog (EN adS adC sbS sbC) noL 81 [.b false] GE (fun r _ => r = .w64 (mkX false)) from of_eq (show _ = (SV.w64 (mkX false) = SV.w64 (mkX false)) by kernel_rfl) rfl) rfl rfl hR
    · exact pok_e en_ok (show vf Tryd.prog (EN adS adC sbS sbC) noL 81 [.b true] GE (fun r _ => r = .w64 (mkX true)) from of_eq (show _ = (SV.w64 (mkX true) = SV.w64 (mkX true)) by kernel_rfl) rfl) rfl rfl hR
  · cases hh
theorem en4_ok : EnvOk Tryd.prog (EN4 tmX (plS adS adC) sbS sbC blX pkW alW lwX mkX) := ⟨PT.add_ok (PT.add_ok (PT.add_ok (PT.add_ok (PT.add_ok (PT.add_ok (PT.add_ok (PT.add_ok (noT_ok _ _) times_ok) plus_ok) minus_ok) below_ok) pick_ok) alike_ok) low_ok) mask_ok, noC_ok _ _⟩
theorem mul_ok : POk Tryd.prog GE 36 (ct2 tmX) := pok2 en4_ok fun a b => of_eq (mul_e tmX (plS adS adC) sbS sbC blX pkW alW lwX mkX a b) rfl
def adX (a b : W6) : W6 := blX (w4 (plS adS adC a b))
theorem add_ok : POk Tryd.prog GE 58 (ct2 adX) := pok2 en4_ok fun a b => of_eq (add_e tmX (plS adS adC) sbS sbC blX pkW alW lwX mkX a b) rfl
def sbX (a b : W6) : W6 := sbW (plS adS adC) sbS sbC pkW a b
theorem sub_ok : POk Tryd.prog GE 57 (ct2 sbX) := pok2 en4_ok fun a b => of_eq (sub_e tmX (plS adS adC) sbS sbC blX pkW alW lwX mkX a b) rfl
def smX (a b : W6) : Bool := alW a b != BitVec.ofInt 64 0
theorem same_ok : POk Tryd.prog GE 37 (ct2b smX) := by
  intro args acs r hh β M w hR hw ha
  unfold ct2b at hh
  split at hh
  · rename_i a b c d e f g i
    simp only [Option.some.injEq, Prod.mk.injEq, true_and] at hh
    subst hh
    exact pok_e en4_ok (of_eq (same_e tmX (plS adS adC) sbS sbC blX pkW alW lwX mkX [a, b, c, d] [e, f, g, i]) rfl) rfl rfl hR
  · cases hh
def chX (m : B6) (a b : W6) : W6 := pkW m a b
theorem choose_ok : POk Tryd.prog GE 79 (cPk pkW) := by
  intro args acs r hh β M w hR hw ha
  unfold cPk at hh
  split at hh
  · rename_i m a b c d e f g i
    simp only [Option.some.injEq, Prod.mk.injEq, true_and] at hh
    subst hh
    exact pok_e en4_ok (of_eq (choose_e tmX (plS adS adC) sbS sbC blX pkW alW lwX mkX [a, b, c, d] [e, f, g, i] m) rfl) rfl rfl hR
  · cases hh
def zX (n : BitVec 32) : W6 := [n.setWidth 64, 0, 0, 0]
theorem smallE_ok : POk Tryd.prog GE 56 (ctS zX) := by
  intro args acs r hh β M w hR hw ha
  unfold ctS at hh
  split at hh
  · rename_i n
    simp only [Option.some.injEq, Prod.mk.injEq, true_and] at hh
    subst hh
    exact pok_e en4_ok (of_eq (small_e tmX (plS adS adC) sbS sbC blX pkW alW lwX mkX n) rfl) rfl rfl hR
  · cases hh
theorem ej1_ok : EnvOk Tryd.prog (Ej1 tmX) := ⟨PT.add_ok (noT_ok _ _) mul_ok, noC_ok _ _⟩
theorem loopJ (f s : W6) (n : Nat) (hn : n ≤ 1000) : ∀ fr M K, vLoop GE 17 (iJ n 0) (MJ f s) oJ (MJ (sqX tmX f n) s) fr M K → Wp Tryd.prog GE GE (loopOf Tryd.prog 88 0) fr M K := by
  refine loop_next ej1_ok mixed (noL_ok _ _ _ _) (Nat.le_refl _) (by kernel_rfl) (iJ n) (fun j => MJ (sqX tmX f j) s) (fun j => j ≤ n) (fun j => n - j) (fun j => j + 1) 0 (Nat.zero_le _) (fun j hj => of_eq (vrJ tmX (sqX tmX f j) (sqX tmX f (j + 1)) (sqX tmX f n) s n j _) ?_)
  have hnext : sqX tmX f (j + 1) = tmX (w4 (sqX tmX f j)) (w4 (sqX tmX f j)) := rfl
  have hfin : j = n → sqX tmX f j = sqX tmX f n := fun e => by rw [e]
  rw [hnext]
  generalize sqX tmX f n = z at hfin
  generalize sqX tmX f j = x at hfin
  cases hq : ilt (j : Int) (n : Int)
  · have hj2 : j = n := by rw [ilt_eq] at hq; have := of_decide_eq_false hq; omega
    exact ⟨rfl, rfl, rfl, rfl, ⟨rfl, rfl⟩, ⟨rfl, rfl⟩, ⟨rfl, rfl⟩, ⟨rfl, rfl⟩, ⟨rfl, rfl⟩, ⟨rfl, congrArg (fun x => Cont.a64 (w4 x)) (hfin hj2)⟩, ⟨rfl, rfl⟩, ⟨rfl, rfl⟩, trivial⟩
  · have hj2 : j < n := by rw [ilt_eq] at hq; have := of_decide_eq_true hq; omega
    exact bif_of (inI_iff.2 (by omega)) ⟨⟨by omega, by omega⟩, rfl, rfl, rfl, rfl, rfl, ⟨rfl, rfl⟩, ⟨rfl, rfl⟩, ⟨rfl, rfl⟩, ⟨rfl, rfl⟩, ⟨rfl, rfl⟩, ⟨rfl, rfl⟩, ⟨rfl, rfl⟩, ⟨rfl, rfl⟩, trivial⟩
def cJo (J : W6 → W6 → Nat → W6) : List SV → List Cont → Option (Bool × SV)
  | [.a64 [a, b, c, d], .a64 [e, f, g, h], .i n], _ => some (ile 0 n && ile n 1000, .a64 (w4 (J [a, b, c, d] [e, f, g, h] n.toNat)))
  | _, _ => none
def joX (a b : W6) (n : Nat) : W6 := tmX (w4 (sqX tmX a n)) b
theorem join_ok : POk Tryd.prog GE 88 (cJo joX) := by
  intro args acs r hh β M w hR hw ha
  unfold cJo at hh
  split at hh
  · rename_i a b c d e f g h n
    simp only [Option.some.injEq, Prod.mk.injEq] at hh
    obtain ⟨h1, rfl⟩ := hh
    have h1 := Bool.and_eq_true_iff.1 h1
    rw [ile_eq, ile_eq] at h1
    have z1 := of_decide_eq_true h1.1
    have z2 := of_decide_eq_true h1.2
    obtain ⟨m, rfl⟩ : ∃ m : Nat, n = (m : Int) := ⟨n.toNat, by omega⟩
    rw [Int.toNat_natCast]
    refine pure0 (vf_ok ej1_ok mixed (LT.add_ok (noL_ok _ _ _ _) (loopJ [a, b, c, d] [e, f, g, h] m (by omega))) (of_eq (vaJ tmX [a, b, c, d] (sqX tmX [a, b, c, d] m) [e, f, g, h] m _) ?_)) rfl rfl hR
    exact ⟨rfl, rfl, rfl, rfl, rfl, rfl, ⟨rfl, rfl⟩, ⟨rfl, rfl⟩, ⟨rfl, rfl⟩, ⟨rfl, rfl⟩, ⟨rfl, rfl⟩, ⟨rfl, rfl⟩, ⟨rfl, rfl⟩, ⟨rfl, rfl⟩, rfl⟩
  · cases hh
def EJ (J : W6 → W6 → Nat → W6) : Env := ⟨GE, noT.add 88 (cJo J), noC⟩
theorem ej_ok : EnvOk Tryd.prog (EJ joX) := ⟨PT.add_ok (noT_ok _ _) join_ok, noC_ok _ _⟩
/-- A number's power by 250 bits that are 1. -/
def onW (J : W6 → W6 → Nat → W6) (a : W6) : W6 :=
  let two := w4 (J a a 1)
  let four := w4 (J two two 2)
  let five := w4 (J four a 1)
  let ten := w4 (J five five 5)
  let twenty := w4 (J ten ten 10)
  let forty := w4 (J twenty twenty 20)
  let fifty := w4 (J forty ten 10)
  let hundred := w4 (J fifty fifty 50)
  let twoh := w4 (J hundred hundred 100)
  J twoh fifty 50
theorem ones_e (J : W6 → W6 → Nat → W6) (a : W6) : vf Tryd.prog (EJ J) noL 83 [.a64 (w4 a)] GE (fun r _ => r = .a64 (w4 (onW J (w4 a)))) = (SV.a64 (w4 (onW J (w4 a))) = SV.a64 (w4 (onW J (w4 a)))) := by kernel_rfl
end Go.Proofs.YtdfghknonbmadaaDoor
namespace Go.Proofs.YtdfghknonbmadaaDoor
namespace Mt
set_option linter.unusedVariables false
set_option linter.unusedSimpArgs false
set_option maxRecDepth 100000

/-- The number of four words. -/
def V (l : W6) : Nat := (l.getD 0 0).toNat + 18446744073709551616 * (l.getD 1 0).toNat + 340282366920938463463374607431768211456 * (l.getD 2 0).toNat + 6277101735386680763835789423207666416102355444464034512896 * (l.getD 3 0).toNat
/-- A number's four words. -/
def enc (n : Nat) : W6 := [BitVec.ofNat 64 n, BitVec.ofNat 64 (n / 18446744073709551616), BitVec.ofNat 64 (n / 340282366920938463463374607431768211456), BitVec.ofNat 64 (n / 6277101735386680763835789423207666416102355444464034512896)]
theorem V_w4 (l : W6) : V (w4 l) = V l := rfl
theorem V_lt (l : W6) : V l < 115792089237316195423570985008687907853269984665640564039457584007913129639936 := by
  unfold V
  have := (l.getD 0 0).isLt
  have := (l.getD 1 0).isLt
  have := (l.getD 2 0).isLt
  have := (l.getD 3 0).isLt
  omega
theorem V_enc {n : Nat} (h : n < 115792089237316195423570985008687907853269984665640564039457584007913129639936) : V (enc n) = n := by
  show (BitVec.ofNat 64 n).toNat + 18446744073709551616 * (BitVec.ofNat 64 (n / 18446744073709551616)).toNat + 340282366920938463463374607431768211456 * (BitVec.ofNat 64 (n / 340282366920938463463374607431768211456)).toNat + 6277101735386680763835789423207666416102355444464034512896 * (BitVec.ofNat 64 (n / 6277101735386680763835789423207666416102355444464034512896)).toNat = n
  simp only [BitVec.toNat_ofNat]
  omega
theorem enc_V (l : W6) : enc (V l) = w4 l := by
  unfold enc w4 V
  have h0 := (l.getD 0 0).isLt
  have h1 := (l.getD 1 0).isLt
  have h2 := (l.getD 2 0).isLt
  have h3 := (l.getD 3 0).isLt
  have e (x : B6) (n : Nat) (h : n % 18446744073709551616 = x.toNat) : BitVec.ofNat 64 n = x := BitVec.eq_of_toNat_eq (by rw [BitVec.toNat_ofNat]; exact h)
  rw [e (l.getD 0 0) _ (by omega), e (l.getD 1 0) _ (by omega), e (l.getD 2 0) _ (by omega), e (l.getD 3 0) _ (by omega)]
theorem eq_enc {l : W6} {n : Nat} (h : V l = n) : w4 l = enc n := h ▸ (enc_V l).symm
theorem w4_enc (n : Nat) : w4 (enc n) = enc n := rfl
theorem w4_w4 (l : W6) : w4 (w4 l) = w4 l := rfl
theorem ad_n (x y c : B6) (h : c.toNat ≤ 1) : (adS x y c).toNat + 18446744073709551616 * (adC x y c).toNat = x.toNat + y.toNat + c.toNat ∧ (adC x y c).toNat ≤ 1 := by
  unfold adS adC
  rw [BitVec.toNat_ofNat, BitVec.toNat_ofNat]
  have := x.isLt
  have := y.isLt
  omega
theorem sb_n (x y c : B6) (h : c.toNat ≤ 1) : (sbS x y c).toNat + y.toNat + c.toNat = x.toNat + 18446744073709551616 * (sbC x y c).toNat ∧ (sbC x y c).toNat ≤ 1 := by
  unfold sbS sbC
  rw [BitVec.toNat_ofNat]
  have := x.isLt
  have := y.isLt
  split
  · rw [show (1 : B6).toNat = 1 from rfl]; omega
  · rw [show (0 : B6).toNat = 0 from rfl]; omega
theorem z6_n : z6.toNat = 0 := rfl
theorem plus_V (a b : W6) : V (plS adS adC a b) + 115792089237316195423570985008687907853269984665640564039457584007913129639936 * (plC adC a b 4).toNat = V a + V b := by
  have h0 := ad_n (a.getD 0 0) (b.getD 0 0) (plC adC a b 0) (show z6.toNat ≤ 1 by decide)
  have h1 := ad_n (a.getD 1 0) (b.getD 1 0) (plC adC a b 1) h0.2
  have h2 := ad_n (a.getD 2 0) (b.getD 2 0) (plC adC a b 2) h1.2
  have h3 := ad_n (a.getD 3 0) (b.getD 3 0) (plC adC a b 3) h2.2
  have k0 : (plC adC a b 0).toNat = 0 := rfl
  have e0 : adC (a.getD 0 0) (b.getD 0 0) (plC adC a b 0) = plC adC a b 1 := rfl
  have e1 : adC (a.getD 1 0) (b.getD 1 0) (plC adC a b 1) = plC adC a b 2 := rfl
  have e2 : adC (a.getD 2 0) (b.getD 2 0) (plC adC a b 2) = plC adC a b 3 := rfl
  have e3 : adC (a.getD 3 0) (b.getD 3 0) (plC adC a b 3) = plC adC a b 4 := rfl
  rw [e0] at h0; rw [e1] at h1; rw [e2] at h2; rw [e3] at h3
  show (adS (a.getD 0 0) (b.getD 0 0) (plC adC a b 0)).toNat + 18446744073709551616 * (adS (a.getD 1 0) (b.getD 1 0) (plC adC a b 1)).toNat + 340282366920938463463374607431768211456 * (adS (a.getD 2 0) (b.getD 2 0) (plC adC a b 2)).toNat + 6277101735386680763835789423207666416102355444464034512896 * (adS (a.getD 3 0) (b.getD 3 0) (plC adC a b 3)).toNat + _ = _
  unfold V
  omega
theorem minus_V (a b : W6) : V (plS sbS sbC a b) + V b = V a + 115792089237316195423570985008687907853269984665640564039457584007913129639936 * (plC sbC a b 4).toNat ∧ (plC sbC a b 4).toNat ≤ 1 := by
  have h0 := sb_n (a.getD 0 0) (b.getD 0 0) (plC sbC a b 0) (show z6.toNat ≤ 1 by decide)
  have h1 := sb_n (a.getD 1 0) (b.getD 1 0) (plC sbC a b 1) h0.2
  have h2 := sb_n (a.getD 2 0) (b.getD 2 0) (plC sbC a b 2) h1.2
  have h3 := sb_n (a.getD 3 0) (b.getD 3 0) (plC sbC a b 3) h2.2
  have k0 : (plC sbC a b 0).toNat = 0 := rfl
  have e0 : sbC (a.getD 0 0) (b.getD 0 0) (plC sbC a b 0) = plC sbC a b 1 := rfl
  have e1 : sbC (a.getD 1 0) (b.getD 1 0) (plC sbC a b 1) = plC sbC a b 2 := rfl
  have e2 : sbC (a.getD 2 0) (b.getD 2 0) (plC sbC a b 2) = plC sbC a b 3 := rfl
  have e3 : sbC (a.getD 3 0) (b.getD 3 0) (plC sbC a b 3) = plC sbC a b 4 := rfl
  rw [e0] at h0; rw [e1] at h1; rw [e2] at h2; rw [e3] at h3
  refine ⟨?_, h3.2⟩
  show (sbS (a.getD 0 0) (b.getD 0 0) (plC sbC a b 0)).toNat + 18446744073709551616 * (sbS (a.getD 1 0) (b.getD 1 0) (plC sbC a b 1)).toNat + 340282366920938463463374607431768211456 * (sbS (a.getD 2 0) (b.getD 2 0) (plC sbC a b 2)).toNat + 6277101735386680763835789423207666416102355444464034512896 * (sbS (a.getD 3 0) (b.getD 3 0) (plC sbC a b 3)).toNat + _ = _
  unfold V
  omega
/-- The borrow tells which is less. -/
theorem borrow_V (a b : W6) : plC sbC a b 4 = if V a < V b then 1 else 0 := by
  obtain ⟨h, h1⟩ := minus_V a b
  have := V_lt (plS sbS sbC a b)
  have := V_lt a
  have := V_lt b
  apply BitVec.eq_of_toNat_eq
  split
  · rw [show (1 : B6).toNat = 1 from rfl]; omega
  · rw [show (0 : B6).toNat = 0 from rfl]; omega
theorem neg1 : -(1 : B6) = BitVec.allOnes 64 := rfl
theorem neg0 : -(0 : B6) = 0 := rfl
theorem pk0 (a b : W6) : pkW 0 a b = w4 a := by simp [pkW, w4]
theorem pk1 (a b : W6) : pkW (BitVec.allOnes 64) a b = w4 b := by
  have e (x y : B6) : x ^^^ BitVec.allOnes 64 &&& (x ^^^ y) = y := by rw [BitVec.allOnes_and, ← BitVec.xor_assoc, BitVec.xor_self, BitVec.zero_xor]
  simp only [pkW, e, w4]
theorem PRI_V : V PRI = 57896044618658097711785492504343953926634992332820282019728792003956564819949 := rfl
/-- One less where it is not below. -/
theorem below_V (w : W6) : V (blX w) = if V w < 57896044618658097711785492504343953926634992332820282019728792003956564819949 then V w else V w - 57896044618658097711785492504343953926634992332820282019728792003956564819949 := by
  unfold blX blW
  rw [V_w4, borrow_V, PRI_V, V_w4]
  obtain ⟨h, h1⟩ := minus_V (w4 w) PRI
  rw [borrow_V, PRI_V, V_w4] at h
  have := V_lt (plS sbS sbC (w4 w) PRI)
  split
  · rw [neg1, pk1]; rfl
  · rename_i hn
    rw [if_neg hn, show (0 : B6).toNat = 0 from rfl] at h
    rw [neg0, pk0, V_w4]
    omega
theorem below_mod {w : W6} (h : V w < 2 * 57896044618658097711785492504343953926634992332820282019728792003956564819949) : V (blX w) = V w % 57896044618658097711785492504343953926634992332820282019728792003956564819949 := by
  rw [below_V]
  split <;> omega
theorem add_X {a b : W6} (ha : V a < 57896044618658097711785492504343953926634992332820282019728792003956564819949) (hb : V b < 57896044618658097711785492504343953926634992332820282019728792003956564819949) : V (adX a b) = (V a + V b) % 57896044618658097711785492504343953926634992332820282019728792003956564819949 := by
  have h := plus_V a b
  have h2 := V_lt (plS adS adC a b)
  have e : V (plS adS adC a b) = V a + V b := by omega
  unfold adX
  rw [below_mod (by rw [V_w4]; omega), V_w4, e]
theorem sub_X {a b : W6} (ha : V a < 57896044618658097711785492504343953926634992332820282019728792003956564819949) (hb : V b < 57896044618658097711785492504343953926634992332820282019728792003956564819949) : V (sbX a b) = (V a + 57896044618658097711785492504343953926634992332820282019728792003956564819949 - V b) % 57896044618658097711785492504343953926634992332820282019728792003956564819949 := by
  unfold sbX sbW
  obtain ⟨h, h1⟩ := minus_V (w4 a) (w4 b)
  rw [V_w4, V_w4] at h
  have h3 := V_lt (plS sbS sbC (w4 a) (w4 b))
  rw [V_w4]
  have hb2 := borrow_V (w4 a) (w4 b)
  rw [V_w4, V_w4] at hb2
  rw [hb2] at h ⊢
  split
  · rename_i hlt
    rw [if_pos hlt, show (1 : B6).toNat = 1 from rfl] at h
    rw [neg1, pk1]
    have hp := plus_V (plS sbS sbC (w4 a) (w4 b)) (w4 (w4 PRI))
    rw [V_w4, V_w4, PRI_V] at hp
    have h5 := V_lt (plS adS adC (plS sbS sbC (w4 a) (w4 b)) (w4 (w4 PRI)))
    omega
  · rename_i hlt
    rw [if_neg hlt, show (0 : B6).toNat = 0 from rfl] at h
    rw [neg0, pk0]
    have hp := plus_V (plS sbS sbC (w4 a) (w4 b)) (w4 (w4 [0, 0, 0, 0]))
    rw [V_w4, V_w4, show V [0, 0, 0, 0] = 0 from rfl] at hp
    have h5 := V_lt (plS adS adC (plS sbS sbC (w4 a) (w4 b)) (w4 (w4 [0, 0, 0, 0])))
    omega
end Mt
end Go.Proofs.YtdfghknonbmadaaDoor
