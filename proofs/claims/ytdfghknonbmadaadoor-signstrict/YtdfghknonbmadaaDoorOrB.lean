/-
  order: a bit is pushed; what words are modulo the order. No statement is proved here.
-/
import Derived.Test.YtdfghknonbmadaaDoorOrA
namespace Go.Proofs.YtdfghknonbmadaaDoor
open Go.RowKit
set_option linter.unusedVariables false
set_option linter.unusedSimpArgs false
set_option maxRecDepth 100000

/-- Twice the words, and a bit. -/
def puC (C : T3) (w : W6) (bit : B6) : Nat → B6
  | 0 => bit
  | i + 1 => C (w.getD i 0) (w.getD i 0) (puC C w bit i)
def puS (S C : T3) (w : W6) (bit : B6) : W6 := [S (w.getD 0 0) (w.getD 0 0) (puC C w bit 0), S (w.getD 1 0) (w.getD 1 0) (puC C w bit 1), S (w.getD 2 0) (w.getD 2 0) (puC C w bit 2), S (w.getD 3 0) (w.getD 3 0) (puC C w bit 3)]
def puF (D F P S C : T3) (w : W6) (bit : B6) : W6 :=
  [P (plC F (puS S C w bit) WHO 4) ((plS D F (puS S C w bit) WHO).getD 0 0) ((puS S C w bit).getD 0 0),
   P (plC F (puS S C w bit) WHO 4) ((plS D F (puS S C w bit) WHO).getD 1 0) ((puS S C w bit).getD 1 0),
   P (plC F (puS S C w bit) WHO 4) ((plS D F (puS S C w bit) WHO).getD 2 0) ((puS S C w bit).getD 2 0),
   P (plC F (puS S C w bit) WHO 4) ((plS D F (puS S C w bit) WHO).getD 3 0) ((puS S C w bit).getD 3 0)]
theorem push_e (D F P S C : T3) (a b c d bit : B6) (K : SV → Mm → Prop) : vf Tryd.prog (EL D F P S C) noL 73 [.ptr 5 0, .w64 bit] (BP [a, b, c, d]) K = (bif lc bit then bif lc (puC C [a, b, c, d] bit 1) then bif lc (puC C [a, b, c, d] bit 2) then bif lc (puC C [a, b, c, d] bit 3) then K (.tup []) (BP (puF D F P S C [a, b, c, d] bit)) else False else False else False else False) := by kernel_rfl
def cPu (F : W6 → B6 → W6) : List SV → Mm → (SV → Mm → Prop) → Prop
  | [.ptr k off, .w64 bit], M, K => match M[k]? with
    | some ⟨true, .a64 [a, b, c, d]⟩ => vsome (Nat.beq off 0 && lc bit) (setK M k ⟨true, .a64 (w4 (F [a, b, c, d] bit))⟩ fun M1 => K (.tup []) M1)
    | _ => False
  | _, _, _ => False
abbrev puX : W6 → B6 → W6 := puF sbS sbC pkO adS adC
theorem lc_pu (w : W6) (bit : B6) (h : lc bit = true) : ∀ i, lc (puC adC w bit i) = true
  | 0 => h
  | i + 1 => lc_ad _ _ _ (lc_pu w bit h i)
theorem push_ok : COk Tryd.prog GE 73 (cPu puX) := by
  intro args M K h
  unfold cPu at h
  split at h
  · rename_i k off bit
    split at h
    · rename_i a b c d hk
      obtain ⟨hb, hh⟩ := vsome_iff.1 h
      simp only [Bool.and_eq_true] at hb
      obtain ⟨q1, q2⟩ := hb
      obtain rfl := Nat.eq_of_beq_eq_true q1
      rw [setK_eq] at hh
      refine eff_of (R := [⟨true, .a64 [a, b, c, d]⟩]) (args0 := [.ptr 5 0, .w64 bit]) (K0 := fun r M => r = .tup [] ∧ M = BP (puX [a, b, c, d] bit)) [k] (vf_ok (M := BP [a, b, c, d]) el_ok mixed (noL_ok _ _ _ _) (of_eq (push_e sbS sbC pkO adS adC a b c d bit _) ?_)) rfl rfl (by simp) ⟨⟨true, hk, fun h => h⟩, ⟨rfl, rfl⟩, trivial⟩ ?_
      · exact bif_of q2 (bif_of (lc_pu _ _ q2 1) (bif_of (lc_pu _ _ q2 2) (bif_of (lc_pu _ _ q2 3) ⟨rfl, rfl⟩)))
      · rintro r1 M1 ⟨rfl, rfl⟩
        rw [show back GE _ M _ _ = M.set k _ ++ [] from rfl, List.append_nil]
        exact hh
    · exact h.elim
  · exact h.elim
def Epu (F : W6 → B6 → W6) : Env := ⟨GE, noT, noC.add 73 (cPu F)⟩
theorem epu_ok : EnvOk Tryd.prog (Epu puX) := ⟨noT_ok _ _, CT.add_ok (noC_ok _ _) push_ok⟩
-- modulo: words, from the highest on, bit by bit
def MO (l x : W6) : Mm := [⟨false, .a64 BEG⟩, ⟨false, .a64 PRI⟩, ⟨false, .a64 CON⟩, ⟨false, .a64 WHO⟩, ⟨false, .a64 ROM⟩, ⟨false, .a64 l⟩, ⟨true, .a64 (List.replicate 4 0)⟩, ⟨true, .a64 (w4 x)⟩]
def iMi (len cap i k : Nat) : List (Nat × SV) := [(0, .sl 5 0 len cap), (2, .ptr 6 0), (3, .ptr 7 0), (4, .i (i : Nat)), (5, .i (63 - (k : Int)))]
def oMi (len cap i : Nat) : List (Nat × SV) := [(0, .sl 5 0 len cap), (2, .ptr 6 0), (3, .ptr 7 0), (4, .i (i : Nat))]
def iMo (len cap j : Nat) : List (Nat × SV) := [(0, .sl 5 0 len cap), (2, .ptr 6 0), (3, .ptr 7 0), (4, .i ((len : Int) - 1 - (j : Int)))]
def oMo : List (Nat × SV) := [(2, .ptr 6 0), (3, .ptr 7 0)]
def LMi (l x z : W6) (len cap i : Nat) : LT := noL.add 2 (vLoop (B5 l) 26 (iMi len cap i 0) (MO l x) (oMi len cap i) (MO l z))
def LMo (l x z : W6) (len cap : Nat) : LT := noL.add 0 (vLoop (B5 l) 26 (iMo len cap 0) (MO l x) oMo (MO l z))
theorem vaMo (F : W6 → B6 → W6) (l z : W6) (len cap : Nat) (K : SV → Mm → Prop) : (vf Tryd.prog (Epu F) (LMo l Z4 z len cap) 50 [.sl 5 0 len cap] (B5 l) K) = (bif inI ((↑len : Int) - (1 : Int)) then loopOf Tryd.prog (50 : Nat) (0 : Nat) = loopOf Tryd.prog (50 : Nat) (0 : Nat) ∧ SV.sl (5 : Nat) (0 : Nat) len cap = SV.sl (5 : Nat) (0 : Nat) len cap ∧ SV.ptr (List.length (B5 l)) (0 : Nat) = SV.ptr (6 : Nat) (0 : Nat) ∧ SV.ptr ((0 : Nat) + (1 : Nat) + (1 : Nat) + (1 : Nat) + (1 : Nat) + (1 : Nat) + (1 : Nat) + (1 : Nat)) (0 : Nat) = SV.ptr (7 : Nat) (0 : Nat) ∧ SV.i ((↑len : Int) - (1 : Int)) = SV.i ((↑len : Int) - (1 : Int) - (↑(0 : Nat) : Int)) ∧ (false = false ∧ Cont.a64 BEG = Cont.a64 BEG) ∧ (false = false ∧ Cont.a64 PRI = Cont.a64 PRI) ∧ (false = false ∧ Cont.a64 CON = Cont.a64 CON) ∧ (false = false ∧ Cont.a64 WHO = Cont.a64 WHO) ∧ (false = false ∧ Cont.a64 ROM = Cont.a64 ROM) ∧ (false = false ∧ Cont.a64 l = Cont.a64 l) ∧ (true = true ∧ Cont.a64 (List.replicate (4 : Nat) (0 : BitVec (64 : Nat))) = Cont.a64 (List.replicate (4 : Nat) (0 : BitVec (64 : Nat)))) ∧ (true = true ∧ Cont.a64 (List.replicate (4 : Nat) (0 : BitVec (64 : Nat))) = Cont.a64 (w4 Z4)) ∧ K (SV.a64 (w4 z)) [{ rw := false, c := Cont.a64 BEG }, { rw := false, c := Cont.a64 PRI }, { rw := false, c := Cont.a64 CON }, { rw := false, c := Cont.a64 WHO }, { rw := false, c := Cont.a64 ROM }, { rw := false, c := Cont.a64 l }, { rw := true, c := Cont.a64 (w4 z) }, { rw := true, c := Cont.a64 (w4 z) }] else False) := by kernel_rfl
theorem vrMo (F : W6 → B6 → W6) (l x v y u z : W6) (len cap i j : Nat) (p : Prop) : (frK 26 (iMo len cap j) fun fr => vround Tryd.prog (Epu F) (LMi l v y len cap i) 50 0 fr (MO l x) (Kn (B5 l) 0 26 p (iMo len cap (j + 1)) (MO l u) oMo (MO l z))) = (bif ile (0 : Int) ((↑len : Int) - (1 : Int) - (↑j : Int)) then loopOf Tryd.prog (50 : Nat) (2 : Nat) = loopOf Tryd.prog (50 : Nat) (2 : Nat) ∧ SV.sl (5 : Nat) (0 : Nat) len cap = SV.sl (5 : Nat) (0 : Nat) len cap ∧ SV.ptr (6 : Nat) (0 : Nat) = SV.ptr (6 : Nat) (0 : Nat) ∧ SV.ptr (7 : Nat) (0 : Nat) = SV.ptr (7 : Nat) (0 : Nat) ∧ SV.i ((↑len : Int) - (1 : Int) - (↑j : Int)) = SV.i (↑i : Int) ∧ SV.i (63 : Int) = SV.i ((63 : Int) - (↑(0 : Nat) : Int)) ∧ (false = false ∧ Cont.a64 BEG = Cont.a64 BEG) ∧ (false = false ∧ Cont.a64 PRI = Cont.a64 PRI) ∧ (false = false ∧ Cont.a64 CON = Cont.a64 CON) ∧ (false = false ∧ Cont.a64 WHO = Cont.a64 WHO) ∧ (false = false ∧ Cont.a64 ROM = Cont.a64 ROM) ∧ (false = false ∧ Cont.a64 l = Cont.a64 l) ∧ (true = true ∧ Cont.a64 (List.replicate (4 : Nat) (0 : BitVec (64 : Nat))) = Cont.a64 (List.replicate (4 : Nat) (0 : BitVec (64 : Nat)))) ∧ (true = true ∧ Cont.a64 (w4 x) = Cont.a64 (w4 v)) ∧ bif inI ((↑i : Int) - (1 : Int)) then p ∧ SV.sl (5 : Nat) (0 : Nat) len cap = SV.sl (5 : Nat) (0 : Nat) len cap ∧ SV.ptr (6 : Nat) (0 : Nat) = SV.ptr (6 : Nat) (0 : Nat) ∧ SV.ptr (7 : Nat) (0 : Nat) = SV.ptr (7 : Nat) (0 : Nat) ∧ SV.i ((↑i : Int) - (1 : Int)) = SV.i ((↑len : Int) - (1 : Int) - (↑(j + (1 : Nat)) : Int)) ∧ (false = false ∧ Cont.a64 BEG = Cont.a64 BEG) ∧ (false = false ∧ Cont.a64 PRI = Cont.a64 PRI) ∧ (false = false ∧ Cont.a64 CON = Cont.a64 CON) ∧ (false = false ∧ Cont.a64 WHO = Cont.a64 WHO) ∧ (false = false ∧ Cont.a64 ROM = Cont.a64 ROM) ∧ (false = false ∧ Cont.a64 l = Cont.a64 l) ∧ (true = true ∧ Cont.a64 (List.replicate (4 : Nat) (0 : BitVec (64 : Nat))) = Cont.a64 (List.replicate (4 : Nat) (0 : BitVec (64 : Nat)))) ∧ (true = true ∧ Cont.a64 (w4 y) = Cont.a64 (w4 u)) ∧ True else False else (0 : Nat) = (0 : Nat) ∧ SV.ptr (6 : Nat) (0 : Nat) = SV.ptr (6 : Nat) (0 : Nat) ∧ SV.ptr (7 : Nat) (0 : Nat) = SV.ptr (7 : Nat) (0 : Nat) ∧ (false = false ∧ Cont.a64 BEG = Cont.a64 BEG) ∧ (false = false ∧ Cont.a64 PRI = Cont.a64 PRI) ∧ (false = false ∧ Cont.a64 CON = Cont.a64 CON) ∧ (false = false ∧ Cont.a64 WHO = Cont.a64 WHO) ∧ (false = false ∧ Cont.a64 ROM = Cont.a64 ROM) ∧ (false = false ∧ Cont.a64 l = Cont.a64 l) ∧ (true = true ∧ Cont.a64 (List.replicate (4 : Nat) (0 : BitVec (64 : Nat))) = Cont.a64 (List.replicate (4 : Nat) (0 : BitVec (64 : Nat)))) ∧ (true = true ∧ Cont.a64 (w4 x) = Cont.a64 (w4 z)) ∧ True) := by kernel_rfl
theorem vrMi (F : W6 → B6 → W6) (l x y z : W6) (len cap i k : Nat) (p : Prop) : (frK 26 (iMi len cap i k) fun fr => vround Tryd.prog (Epu F) noL 50 2 fr (MO l x) (Kn (B5 l) 2 26 p (iMi len cap i (k + 1)) (MO l y) (oMi len cap i) (MO l z))) = (bif ile (0 : Int) ((63 : Int) - (↑k : Int)) then bif inR (↑i : Int) len then bif i.blt (List.length l) then bif ile (0 : Int) ((63 : Int) - (↑k : Int)) then bif lc (List.getD l i (0 : BitVec (64 : Nat)) >>> ((63 : Int) - (↑k : Int)).toNat &&& BitVec.ofInt (64 : Nat) (1 : Int)) then bif inI ((63 : Int) - (↑k : Int) - (1 : Int)) then p ∧ SV.sl (5 : Nat) (0 : Nat) len cap = SV.sl (5 : Nat) (0 : Nat) len cap ∧ SV.ptr (6 : Nat) (0 : Nat) = SV.ptr (6 : Nat) (0 : Nat) ∧ SV.ptr (7 : Nat) (0 : Nat) = SV.ptr (7 : Nat) (0 : Nat) ∧ SV.i (↑i : Int) = SV.i (↑i : Int) ∧ SV.i ((63 : Int) - (↑k : Int) - (1 : Int)) = SV.i ((63 : Int) - (↑(k + (1 : Nat)) : Int)) ∧ (false = false ∧ Cont.a64 BEG = Cont.a64 BEG) ∧ (false = false ∧ Cont.a64 PRI = Cont.a64 PRI) ∧ (false = false ∧ Cont.a64 CON = Cont.a64 CON) ∧ (false = false ∧ Cont.a64 WHO = Cont.a64 WHO) ∧ (false = false ∧ Cont.a64 ROM = Cont.a64 ROM) ∧ (false = false ∧ Cont.a64 l = Cont.a64 l) ∧ (true = true ∧ Cont.a64 (List.replicate (4 : Nat) (0 : BitVec (64 : Nat))) = Cont.a64 (List.replicate (4 : Nat) (0 : BitVec (64 : Nat)))) ∧ (true = true ∧ Cont.a64 (w4 (F [List.getD x (0 : Nat) (0 : BitVec (64 : Nat)), List.getD x (1 : Nat) (0 : BitVec (64 : Nat)), List.getD x (2 : Nat) (0 : BitVec (64 : Nat)), List.getD x (3 : Nat) (0 : BitVec (64 : Nat))] (List.getD l i (0 : BitVec (64 : Nat)) >>> ((63 : Int) - (↑k : Int)).toNat &&& BitVec.ofInt (64 : Nat) (1 : Int)))) = Cont.a64 (w4 y)) ∧ True else False else False else False else False else False else (2 : Nat) = (2 : Nat) ∧ SV.sl (5 : Nat) (0 : Nat) len cap = SV.sl (5 : Nat) (0 : Nat) len cap ∧ SV.ptr (6 : Nat) (0 : Nat) = SV.ptr (6 : Nat) (0 : Nat) ∧ SV.ptr (7 : Nat) (0 : Nat) = SV.ptr (7 : Nat) (0 : Nat) ∧ SV.i (↑i : Int) = SV.i (↑i : Int) ∧ (false = false ∧ Cont.a64 BEG = Cont.a64 BEG) ∧ (false = false ∧ Cont.a64 PRI = Cont.a64 PRI) ∧ (false = false ∧ Cont.a64 CON = Cont.a64 CON) ∧ (false = false ∧ Cont.a64 WHO = Cont.a64 WHO) ∧ (false = false ∧ Cont.a64 ROM = Cont.a64 ROM) ∧ (false = false ∧ Cont.a64 l = Cont.a64 l) ∧ (true = true ∧ Cont.a64 (List.replicate (4 : Nat) (0 : BitVec (64 : Nat))) = Cont.a64 (List.replicate (4 : Nat) (0 : BitVec (64 : Nat)))) ∧ (true = true ∧ Cont.a64 (w4 x) = Cont.a64 (w4 z)) ∧ True) := by kernel_rfl
/-- The bits of a word are pushed, from the highest on; and those of all words. -/
def moI (F : W6 → B6 → W6) (v : B6) (x : W6) : Nat → W6
  | 0 => x
  | k + 1 => F (w4 (moI F v x k)) (v >>> (63 - k) &&& BitVec.ofInt 64 1)
def moO (F : W6 → B6 → W6) (l : W6) : Nat → W6
  | 0 => Z4
  | j + 1 => moI F (l.getD (l.length - 1 - j) 0) (moO F l j) 64
theorem lc_bit (x : B6) : lc (x &&& BitVec.ofInt 64 1) = true := by
  refine Nat.ble_eq_true_of_le ?_
  rw [BitVec.toNat_and, show (BitVec.ofInt 64 1).toNat = 2 ^ 1 - 1 from rfl, Nat.and_two_pow_sub_one_eq_mod]
  omega
theorem loopMi (F : W6 → B6 → W6) (hE : EnvOk Tryd.prog (Epu F)) (l x : W6) (cap i : Nat) (hi : i < l.length) (hn : l.length ≤ 1000) : ∀ fr M K, vLoop (B5 l) 26 (iMi l.length cap i 0) (MO l x) (oMi l.length cap i) (MO l (moI F (l.getD i 0) x 64)) fr M K → Wp Tryd.prog GE (B5 l) (loopOf Tryd.prog 50 2) fr M K := by
  refine loop_next hE mixed (noL_ok _ _ _ _) (by show 5 ≤ 6; omega) (by kernel_rfl) (iMi l.length cap i) (fun k => MO l (moI F (l.getD i 0) x k)) (fun k => k ≤ 64) (fun k => 64 - k) (fun k => k + 1) 0 (Nat.zero_le _) (fun k hk => of_eq (vrMi F l (moI F (l.getD i 0) x k) (moI F (l.getD i 0) x (k + 1)) (moI F (l.getD i 0) x 64) l.length cap i k _) ?_)
  have hnext : moI F (l.getD i 0) x (k + 1) = F (w4 (moI F (l.getD i 0) x k)) (l.getD i 0 >>> (63 - k) &&& BitVec.ofInt 64 1) := rfl
  have hfin : k = 64 → moI F (l.getD i 0) x k = moI F (l.getD i 0) x 64 := fun e => by rw [e]
  rw [hnext]
  generalize moI F (l.getD i 0) x 64 = z at hfin
  generalize moI F (l.getD i 0) x k = y at hfin
  cases hq : ile 0 (63 - (k : Int))
  · have hk2 : k = 64 := by rw [ile_eq] at hq; have := of_decide_eq_false hq; omega
    exact ⟨rfl, rfl, rfl, rfl, rfl, ⟨rfl, rfl⟩, ⟨rfl, rfl⟩, ⟨rfl, rfl⟩, ⟨rfl, rfl⟩, ⟨rfl, rfl⟩, ⟨rfl, rfl⟩, ⟨rfl, rfl⟩, ⟨rfl, congrArg (fun x => Cont.a64 (w4 x)) (hfin hk2)⟩, trivial⟩
  · have hk2 : k ≤ 63 := by rw [ile_eq] at hq; have := of_decide_eq_true hq; omega
    rw [show (63 - (k : Int)).toNat = 63 - k by omega]
    exact bif_of (inR_iff.2 ⟨by omega, by omega⟩) (bif_of (blt_of hi) (bif_of rfl (bif_of (lc_bit _) (bif_of (inI_iff.2 (by omega)) ⟨⟨by omega, by omega⟩, rfl, rfl, rfl, rfl, congrArg SV.i (by omega), ⟨rfl, rfl⟩, ⟨rfl, rfl⟩, ⟨rfl, rfl⟩, ⟨rfl, rfl⟩, ⟨rfl, rfl⟩, ⟨rfl, rfl⟩, ⟨rfl, rfl⟩, ⟨rfl, rfl⟩, trivial⟩))))
theorem loopMo (F : W6 → B6 → W6) (hE : EnvOk Tryd.prog (Epu F)) (l : W6) (cap : Nat) (h0 : 0 < l.length) (hn : l.length ≤ 1000) : ∀ fr M K, vLoop (B5 l) 26 (iMo l.length cap 0) (MO l Z4) oMo (MO l (moO F l l.length)) fr M K → Wp Tryd.prog GE (B5 l) (loopOf Tryd.prog 50 0) fr M K := by
  refine loop_nextL hE mixed (by show 5 ≤ 6; omega) (by kernel_rfl) (L := fun j => LMi l (moO F l (min j (l.length - 1))) (moO F l (min j (l.length - 1) + 1)) l.length cap (l.length - 1 - min j (l.length - 1))) (fun j => LT.add_ok (noL_ok _ _ _ _) (loopMi F hE l _ cap _ (by omega) hn)) (iMo l.length cap) (fun j => MO l (moO F l j)) (fun j => j ≤ l.length) (fun j => l.length - j) (fun j => j + 1) 0 (Nat.zero_le _) (fun j hj => ?_)
  refine of_eq (vrMo F l (moO F l j) (moO F l (min j (l.length - 1))) (moO F l (min j (l.length - 1) + 1)) (moO F l (j + 1)) (moO F l l.length) l.length cap (l.length - 1 - min j (l.length - 1)) j _) ?_
  cases hq : ile 0 ((l.length : Int) - 1 - (j : Int))
  · have hj2 : j = l.length := by rw [ile_eq] at hq; have := of_decide_eq_false hq; omega
    exact ⟨rfl, rfl, rfl, ⟨rfl, rfl⟩, ⟨rfl, rfl⟩, ⟨rfl, rfl⟩, ⟨rfl, rfl⟩, ⟨rfl, rfl⟩, ⟨rfl, rfl⟩, ⟨rfl, rfl⟩, ⟨rfl, by rw [hj2]⟩, trivial⟩
  · have hj2 : j < l.length := by rw [ile_eq] at hq; have := of_decide_eq_true hq; omega
    rw [show min j (l.length - 1) = j by omega]
    exact ⟨rfl, rfl, rfl, rfl, congrArg SV.i (by omega), rfl, ⟨rfl, rfl⟩, ⟨rfl, rfl⟩, ⟨rfl, rfl⟩, ⟨rfl, rfl⟩, ⟨rfl, rfl⟩, ⟨rfl, rfl⟩, ⟨rfl, rfl⟩, ⟨rfl, rfl⟩, bif_of (inI_iff.2 (by omega)) ⟨⟨by omega, by omega⟩, rfl, rfl, rfl, congrArg SV.i (by omega), ⟨rfl, rfl⟩, ⟨rfl, rfl⟩, ⟨rfl, rfl⟩, ⟨rfl, rfl⟩, ⟨rfl, rfl⟩, ⟨rfl, rfl⟩, ⟨rfl, rfl⟩, ⟨rfl, rfl⟩, trivial⟩⟩
def cMd (F : W6 → W6) : List SV → List Cont → Option (Bool × SV)
  | [.sl k off len cap], [.a64 l] => some (Nat.beq off 0 && (Nat.beq len l.length && (Nat.blt 0 len && Nat.ble len 1000)), .a64 (w4 (F l)))
  | _, _ => none
def mdF (F : W6 → B6 → W6) (l : W6) : W6 := moO F l l.length
theorem modulo_gen (F : W6 → B6 → W6) (hE : EnvOk Tryd.prog (Epu F)) : POk Tryd.prog GE 50 (cMd (mdF F)) := by
  intro args acs r hh β M' w hR hw ha
  unfold cMd at hh
  split at hh
  · rename_i k off len cap l
    simp only [Option.some.injEq, Prod.mk.injEq, Bool.and_eq_true] at hh
    obtain ⟨⟨h1, h2, h3, h4⟩, rfl⟩ := hh
    obtain rfl := Nat.eq_of_beq_eq_true h1
    obtain rfl := Nat.eq_of_beq_eq_true h2
    have h3 := blt_lt h3
    have h4 := Nat.le_of_ble_eq_true h4
    simp only [List.map_cons, List.map_nil, List.cons.injEq, and_true] at ha
    refine pure1 (args0 := [.sl 5 0 l.length cap]) (c := .a64 l) (k := k) (vf_ok (M := B5 l) hE mixed (LT.add_ok (noL_ok _ _ _ _) (loopMo F hE l cap h3 h4)) (of_eq (vaMo F l (moO F l l.length) l.length cap _) ?_)) rfl rfl rfl rfl rfl (fun _ => rfl) hR (tgt_some ha.symm rfl)
    exact bif_of (inI_iff.2 (by omega)) ⟨rfl, rfl, rfl, rfl, congrArg SV.i (by omega), ⟨rfl, rfl⟩, ⟨rfl, rfl⟩, ⟨rfl, rfl⟩, ⟨rfl, rfl⟩, ⟨rfl, rfl⟩, ⟨rfl, rfl⟩, ⟨rfl, rfl⟩, ⟨rfl, rfl⟩, rfl⟩
  · cases hh
abbrev mdX : W6 → W6 := mdF puX
theorem modulo_ok : POk Tryd.prog GE 50 (cMd mdX) := modulo_gen puX epu_ok
end Go.Proofs.YtdfghknonbmadaaDoor
