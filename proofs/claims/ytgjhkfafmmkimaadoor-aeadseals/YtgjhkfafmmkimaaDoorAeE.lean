/-
  aead: the document's lowest bytes. No statement is proved here.
-/
import Derived.Test.YtgjhkfafmmkimaaDoorAeD
namespace Go.Proofs.YtgjhkfafmmkimaaDoor
open Go.RowKit
set_option linter.unusedVariables false
set_option linter.unusedSimpArgs false
set_option maxRecDepth 100000

def Ml (a : Ds) (o : Tx) : Mm := [⟨false, .ints MX⟩, ⟨true, .a64 a⟩, ⟨true, .a8 o⟩]
def iol (s : Tx) (c i : Nat) : List (Nat × SV) := [(1, .s s), (2, .ptr 1 0), (4, .s []), (5, .sl 2 0 16 16), (6, .i (c : Int)), (7, .i (i : Int))]
def ool : List (Nat × SV) := [(5, .sl 2 0 16 16)]
def iil (s : Tx) (c i x k : Nat) : List (Nat × SV) := [(1, .s s), (2, .ptr 1 0), (4, .s []), (5, .sl 2 0 16 16), (6, .i (c : Int)), (7, .i (i : Int)), (8, .i (x : Int)), (9, .i (k : Int))]
def oil (s : Tx) (c i x : Nat) : List (Nat × SV) := [(1, .s s), (2, .ptr 1 0), (4, .s []), (5, .sl 2 0 16 16), (6, .i (c : Int)), (7, .i (i : Int)), (8, .i (x : Int))]
def Lil (a : Ds) (o s : Tx) (c i x x2 : Nat) : LT := noL.add 2 (vLoop G 55 (iil s c i x 0) (Ml a o) (oil s c i x2) (Ml a o))
def Lol (a : Ds) (s o2 : Tx) : LT := noL.add 0 (vLoop G 55 (iol s 0 0) (Ml a (List.replicate 16 0)) ool (Ml a o2))
theorem vaL (a : Ds) (s o2 : Tx) (K : SV → Mm → Prop) : (vf Tryd.prog E0 (Lol a s o2) 30 [.a64 a, .s s] G K) = (loopOf Tryd.prog (30 : Nat) (0 : Nat) = loopOf Tryd.prog (30 : Nat) (0 : Nat) ∧ SV.s s = SV.s s ∧ SV.ptr (1 : Nat) (0 : Nat) = SV.ptr (1 : Nat) (0 : Nat) ∧ SV.s (bts { data := #[] }) = SV.s [] ∧ SV.sl ((0 : Nat) + (1 : Nat) + (1 : Nat)) (0 : Nat) (16 : Nat) (16 : Nat) = SV.sl (2 : Nat) (0 : Nat) (16 : Nat) (16 : Nat) ∧ SV.i (0 : Int) = SV.i (↑(0 : Nat) : Int) ∧ SV.i (0 : Int) = SV.i (↑(0 : Nat) : Int) ∧ (false = false ∧ Cont.ints MX = Cont.ints MX) ∧ (true = true ∧ Cont.a64 a = Cont.a64 a) ∧ (true = true ∧ Cont.a8 (List.replicate (16 : Nat) (0 : BitVec (8 : Nat))) = Cont.a8 (List.replicate (16 : Nat) (0 : BitVec (8 : Nat)))) ∧ bif decide ((16 : Nat) ≤ List.length o2) then K (SV.s (List.take (16 : Nat) (List.drop (0 : Nat) o2))) (Ml a o2) else False) := by kernel_rfl
theorem vrLo (a : Ds) (s o o1 o2 : Tx) (c c1 i ii x x2 : Nat) (p : Prop) : (frK 55 (iol s c i) fun fr => vround Tryd.prog E0 (Lil a o s c ii x x2) 30 0 fr (Ml a o) (Kn G 0 55 p (iol s c1 (i + 1)) (Ml a o1) ool (Ml a o2))) = (bif ilt (↑i : Int) (16 : Int) then bif inR (↑i : Int) (List.length s) then bif inI ((↑c : Int) + (↑(List.getD s i (0 : BitVec (8 : Nat))).toNat : Int)) then loopOf Tryd.prog (30 : Nat) (2 : Nat) = loopOf Tryd.prog (30 : Nat) (2 : Nat) ∧ SV.s s = SV.s s ∧ SV.ptr (1 : Nat) (0 : Nat) = SV.ptr (1 : Nat) (0 : Nat) ∧ SV.s [] = SV.s [] ∧ SV.sl (2 : Nat) (0 : Nat) (16 : Nat) (16 : Nat) = SV.sl (2 : Nat) (0 : Nat) (16 : Nat) (16 : Nat) ∧ SV.i (↑c : Int) = SV.i (↑c : Int) ∧ SV.i (↑i : Int) = SV.i (↑ii : Int) ∧ SV.i ((↑c : Int) + (↑(List.getD s i (0 : BitVec (8 : Nat))).toNat : Int)) = SV.i (↑x : Int) ∧ SV.i (0 : Int) = SV.i (↑(0 : Nat) : Int) ∧ (false = false ∧ Cont.ints MX = Cont.ints MX) ∧ (true = true ∧ Cont.a64 a = Cont.a64 a) ∧ (true = true ∧ Cont.a8 o = Cont.a8 o) ∧ bif inR (↑ii : Int) (16 : Nat) then bif ii.blt (List.length o) then bif inI ((↑ii : Int) + (1 : Int)) then p ∧ SV.s s = SV.s s ∧ SV.ptr (1 : Nat) (0 : Nat) = SV.ptr (1 : Nat) (0 : Nat) ∧ SV.s [] = SV.s [] ∧ SV.sl (2 : Nat) (0 : Nat) (16 : Nat) (16 : Nat) = SV.sl (2 : Nat) (0 : Nat) (16 : Nat) (16 : Nat) ∧ SV.i ((↑x2 : Int).fdiv ((2 : Int) ^ (8 : Nat))) = SV.i (↑c1 : Int) ∧ SV.i ((↑ii : Int) + (1 : Int)) = SV.i (↑(i + (1 : Nat)) : Int) ∧ (false = false ∧ Cont.ints MX = Cont.ints MX) ∧ (true = true ∧ Cont.a64 a = Cont.a64 a) ∧ (true = true ∧ Cont.a8 (List.set o ii (BitVec.ofInt (8 : Nat) (↑x2 : Int))) = Cont.a8 o1) ∧ True else False else False else False else False else False else (0 : Nat) = (0 : Nat) ∧ SV.sl (2 : Nat) (0 : Nat) (16 : Nat) (16 : Nat) = SV.sl (2 : Nat) (0 : Nat) (16 : Nat) (16 : Nat) ∧ (false = false ∧ Cont.ints MX = Cont.ints MX) ∧ (true = true ∧ Cont.a64 a = Cont.a64 a) ∧ (true = true ∧ Cont.a8 o = Cont.a8 o2) ∧ True) := by kernel_rfl
theorem vrLi (a : Ds) (s o : Tx) (c i x x1 x2 k : Nat) (p : Prop) : (frK 55 (iil s c i x k) fun fr => vround Tryd.prog E0 noL 30 2 fr (Ml a o) (Kn G 2 55 p (iil s c i x1 (k + 1)) (Ml a o) (oil s c i x2) (Ml a o))) = (bif ilt (↑k : Int) (8 : Int) then bif inI ((8 : Int) * (↑i : Int)) then bif inI ((8 : Int) * (↑i : Int) + (↑k : Int)) then bif inI ((8 : Int) * (↑i : Int) + (↑k : Int)) then bif inR (((8 : Int) * (↑i : Int) + (↑k : Int)).tdiv (12 : Int)) (11 : Nat) then bif (((8 : Int) * (↑i : Int) + (↑k : Int)).tdiv (12 : Int)).toNat.blt (List.length a) then bif inI ((8 : Int) * (↑i : Int)) then bif inI ((8 : Int) * (↑i : Int) + (↑k : Int)) then bif decide ((BitVec.ofInt (64 : Nat) (↑k : Int)).toNat < (64 : Nat)) && inI ((List.getD a (((8 : Int) * (↑i : Int) + (↑k : Int)).tdiv (12 : Int)).toNat (0 : BitVec (64 : Nat)) >>> (BitVec.ofInt (64 : Nat) (((8 : Int) * (↑i : Int) + (↑k : Int)).tmod (12 : Int))).toNat &&& BitVec.ofInt (64 : Nat) (1 : Int)).toInt * (2 : Int) ^ (BitVec.ofInt (64 : Nat) (↑k : Int)).toNat) then bif inI ((↑x : Int) + (List.getD a (((8 : Int) * (↑i : Int) + (↑k : Int)).tdiv (12 : Int)).toNat (0 : BitVec (64 : Nat)) >>> (BitVec.ofInt (64 : Nat) (((8 : Int) * (↑i : Int) + (↑k : Int)).tmod (12 : Int))).toNat &&& BitVec.ofInt (64 : Nat) (1 : Int)).toInt * (2 : Int) ^ (BitVec.ofInt (64 : Nat) (↑k : Int)).toNat) then bif inI ((↑k : Int) + (1 : Int)) then p ∧ SV.s s = SV.s s ∧ SV.ptr (1 : Nat) (0 : Nat) = SV.ptr (1 : Nat) (0 : Nat) ∧ SV.s [] = SV.s [] ∧ SV.sl (2 : Nat) (0 : Nat) (16 : Nat) (16 : Nat) = SV.sl (2 : Nat) (0 : Nat) (16 : Nat) (16 : Nat) ∧ SV.i (↑c : Int) = SV.i (↑c : Int) ∧ SV.i (↑i : Int) = SV.i (↑i : Int) ∧ SV.i ((↑x : Int) + (List.getD a (((8 : Int) * (↑i : Int) + (↑k : Int)).tdiv (12 : Int)).toNat (0 : BitVec (64 : Nat)) >>> (BitVec.ofInt (64 : Nat) (((8 : Int) * (↑i : Int) + (↑k : Int)).tmod (12 : Int))).toNat &&& BitVec.ofInt (64 : Nat) (1 : Int)).toInt * (2 : Int) ^ (BitVec.ofInt (64 : Nat) (↑k : Int)).toNat) = SV.i (↑x1 : Int) ∧ SV.i ((↑k : Int) + (1 : Int)) = SV.i (↑(k + (1 : Nat)) : Int) ∧ (false = false ∧ Cont.ints MX = Cont.ints MX) ∧ (true = true ∧ Cont.a64 a = Cont.a64 a) ∧ (true = true ∧ Cont.a8 o = Cont.a8 o) ∧ True else False else False else False else False else False else False else False else False else False else False else (2 : Nat) = (2 : Nat) ∧ SV.s s = SV.s s ∧ SV.ptr (1 : Nat) (0 : Nat) = SV.ptr (1 : Nat) (0 : Nat) ∧ SV.s [] = SV.s [] ∧ SV.sl (2 : Nat) (0 : Nat) (16 : Nat) (16 : Nat) = SV.sl (2 : Nat) (0 : Nat) (16 : Nat) (16 : Nat) ∧ SV.i (↑c : Int) = SV.i (↑c : Int) ∧ SV.i (↑i : Int) = SV.i (↑i : Int) ∧ SV.i (↑x : Int) = SV.i (↑x2 : Int) ∧ (false = false ∧ Cont.ints MX = Cont.ints MX) ∧ (true = true ∧ Cont.a64 a = Cont.a64 a) ∧ (true = true ∧ Cont.a8 o = Cont.a8 o) ∧ True) := by kernel_rfl
def bitD (a : Ds) (q : Nat) : Nat := (a.getD (q / 12) 0).toNat / 2 ^ (q % 12) % 2
def xbL (a : Ds) (i : Nat) : Nat → Nat
  | 0 => 0
  | k + 1 => xbL a i k + bitD a (8 * i + k) * 2 ^ k
theorem bitD_le (a : Ds) (q : Nat) : bitD a q ≤ 1 := by unfold bitD; omega
theorem xbL_lt (a : Ds) (i : Nat) : ∀ k, xbL a i k < 2 ^ k
  | 0 => by show 0 < 1; omega
  | k + 1 => by
    have h1 := xbL_lt a i k
    have h2 : bitD a (8 * i + k) * 2 ^ k ≤ 1 * 2 ^ k := Nat.mul_le_mul_right _ (bitD_le a _)
    rw [xbL, Nat.pow_succ]
    omega
/-- What is carried, byte by byte. -/
def cL (a : Ds) (s : Tx) : Nat → Nat
  | 0 => 0
  | i + 1 => (cL a s i + (s.getD i 0).toNat + xbL a i 8) / 256
theorem cL_le (a : Ds) (s : Tx) : ∀ i, cL a s i ≤ 1
  | 0 => Nat.zero_le _
  | i + 1 => by
    have h1 := cL_le a s i
    have h2 := xbL_lt a i 8
    have h3 : (s.getD i 0).toNat < 256 := (s.getD i 0).isLt
    show (cL a s i + (s.getD i 0).toNat + xbL a i 8) / 256 ≤ 1
    omega
def loL (a : Ds) (s : Tx) : Nat → Tx
  | 0 => List.replicate 16 0
  | i + 1 => (loL a s i).set i (BitVec.ofInt 8 ((cL a s i + (s.getD i 0).toNat + xbL a i 8 : Nat) : Int))
theorem loL_len (a : Ds) (s : Tx) : ∀ i, (loL a s i).length = 16
  | 0 => List.length_replicate ..
  | i + 1 => by rw [loL, List.length_set, loL_len a s i]
def lowD (a : Ds) (s : Tx) : Tx := loL a s 16
theorem bit_int (x : BitVec 64) (r : Nat) : ((x >>> r) &&& BitVec.ofInt 64 1).toInt = ((x.toNat / 2 ^ r % 2 : Nat) : Int) := by
  have e1 : ((x >>> r) &&& BitVec.ofInt 64 1).toNat = x.toNat / 2 ^ r % 2 := by
    rw [BitVec.toNat_and, BitVec.toNat_ushiftRight, Nat.shiftRight_eq_div_pow]
    exact Nat.and_two_pow_sub_one_eq_mod _ 1
  rw [BitVec.toInt_eq_toNat_of_lt (by rw [e1]; omega), e1]
theorem loopLi (a : Ds) (ha : a.length = 11) (o s : Tx) (c i x : Nat) (hi : i < 16) (hx : x ≤ 256) : ∀ fr M K, vLoop G 55 (iil s c i x 0) (Ml a o) (oil s c i (x + xbL a i 8)) (Ml a o) fr M K → Wp Tryd.prog G G (loopOf Tryd.prog 30 2) fr M K := by
  refine loop_next e0_ok mixed (noL_ok _ _ _ _) (Nat.le_refl _) (by kernel_rfl) (fun k => iil s c i (x + xbL a i k) k) (fun k => Ml a o) (fun k => k ≤ 8) (fun k => 8 - k) (fun k => k + 1) 0 (Nat.zero_le _) (fun k hk => of_eq (vrLi a s o c i (x + xbL a i k) (x + xbL a i (k + 1)) (x + xbL a i 8) k _) ?_)
  rw [ha]
  cases hq : ilt (k : Int) 8
  · have hj2 : k = 8 := nlt hq hk
    subst hj2
    exact ⟨rfl, rfl, rfl, rfl, rfl, rfl, rfl, rfl, ⟨rfl, rfl⟩, ⟨rfl, rfl⟩, ⟨rfl, rfl⟩, trivial⟩
  · have hj2 : k < 8 := ylt hq
    have e : (8 * (i : Int) + (k : Int)) = ((8 * i + k : Nat) : Int) := by omega
    have e12 : ((8 * i + k : Nat) : Int).tdiv 12 = (((8 * i + k) / 12 : Nat) : Int) := tdiv_cast (8 * i + k) 12
    have m12 : ((8 * i + k : Nat) : Int).tmod 12 = (((8 * i + k) % 12 : Nat) : Int) := tmod_cast (8 * i + k) 12
    have k1 : (8 * i + k) / 12 < 11 := by omega
    have b1 := bitD_le a (8 * i + k)
    have b2 : 2 ^ k ≤ 128 := Nat.pow_le_pow_right (n := 2) (by decide) (show k ≤ 7 by omega)
    have b3 : bitD a (8 * i + k) * 2 ^ k ≤ 1 * 128 := Nat.mul_le_mul b1 b2
    have b4 := xbL_lt a i k
    have eb : ((a.getD ((8 * i + k) / 12) 0 >>> ((8 * i + k) % 12)) &&& BitVec.ofInt 64 1).toInt * 2 ^ k = ((bitD a (8 * i + k) * 2 ^ k : Nat) : Int) := by
      rw [bit_int, Int.natCast_mul, Int.natCast_pow]; rfl
    have i8 : inI (8 * (i : Int)) = true := inI_iff.2 (by omega)
    have i9 : inI ((8 * i + k : Nat) : Int) = true := inI_iff.2 (by omega)
    rw [e, e12, m12, Int.toNat_natCast, ofI_nat (show k < 2 ^ 64 by omega), ofI_nat (show (8 * i + k) % 12 < 2 ^ 64 by omega), eb]
    refine bif_of i8 (bif_of i9 (bif_of i9 (bif_of (inR_nat k1) (bif_of (blt_of k1) (bif_of i8 (bif_of i9 (bif_of ?_ (bif_of (inI_iff.2 (by omega)) (bif_of (inI_iff.2 (by omega)) ?_)))))))))
    · rw [Bool.and_eq_true]
      exact ⟨decide_eq_true (by omega), inI_iff.2 (by omega)⟩
    · exact ⟨⟨by omega, by omega⟩, rfl, rfl, rfl, rfl, rfl, rfl, congrArg SV.i (by rw [xbL]; omega), rfl, ⟨rfl, rfl⟩, ⟨rfl, rfl⟩, ⟨rfl, rfl⟩, trivial⟩
theorem loopLo (a : Ds) (ha : a.length = 11) (s : Tx) (hs : s.length = 16) : ∀ fr M K, vLoop G 55 (iol s 0 0) (Ml a (List.replicate 16 0)) ool (Ml a (lowD a s)) fr M K → Wp Tryd.prog G G (loopOf Tryd.prog 30 0) fr M K := by
  refine loop_nextL e0_ok mixed (Nat.le_refl _) (by kernel_rfl) (L := fun i => Lil a (loL a s i) s (cL a s i) (min i 15) (cL a s i + (s.getD i 0).toNat) (cL a s i + (s.getD i 0).toNat + xbL a (min i 15) 8)) (fun i => LT.add_ok (noL_ok _ _ _ _) (loopLi a ha _ s _ _ _ (by omega) (by have := cL_le a s i; have : (s.getD i 0).toNat < 256 := (s.getD i 0).isLt; omega))) (fun i => iol s (cL a s i) i) (fun i => Ml a (loL a s i)) (fun j => j ≤ 16) (fun j => 16 - j) (fun j => j + 1) 0 (Nat.zero_le _) (fun i hi => of_eq (vrLo a s (loL a s i) (loL a s (i + 1)) (lowD a s) (cL a s i) (cL a s (i + 1)) i (min i 15) (cL a s i + (s.getD i 0).toNat) (cL a s i + (s.getD i 0).toNat + xbL a (min i 15) 8) _) ?_)
  rw [loL_len, hs]
  cases hq : ilt (i : Int) 16
  · have hj2 : i = 16 := nlt hq hi
    subst hj2
    exact ⟨rfl, rfl, ⟨rfl, rfl⟩, ⟨rfl, rfl⟩, ⟨rfl, rfl⟩, trivial⟩
  · have hj2 : i < 16 := ylt hq
    have em : min i 15 = i := Nat.min_eq_left (by omega)
    have h1 := cL_le a s i
    have h3 : (s.getD i 0).toNat < 256 := (s.getD i 0).isLt
    have ec : ((cL a s i + (s.getD i 0).toNat + xbL a i 8 : Nat) : Int).fdiv (2 ^ 8) = ((cL a s (i + 1) : Nat) : Int) := by
      rw [Int.fdiv_eq_ediv_of_nonneg _ (by decide)]
      rfl
    rw [em]
    refine bif_of (inR_nat hj2) (bif_of (inI_iff.2 (by omega)) ⟨rfl, rfl, rfl, rfl, rfl, rfl, rfl, congrArg SV.i (by omega), rfl, ⟨rfl, rfl⟩, ⟨rfl, rfl⟩, ⟨rfl, rfl⟩, bif_of (inR_nat hj2) (bif_of (blt_of hj2) (bif_of (inI_iff.2 (by omega)) ?_))⟩)
    exact ⟨⟨by omega, by omega⟩, rfl, rfl, rfl, rfl, congrArg SV.i ec, rfl, ⟨rfl, rfl⟩, ⟨rfl, rfl⟩, ⟨rfl, rfl⟩, trivial⟩
def cLow (X : Ds → Tx → Tx) : List SV → List Cont → Option (Bool × SV)
  | [.a64 a, .s s], _ => some (Nat.beq a.length 11 && Nat.beq s.length 16, .s (X a s))
  | _, _ => none
theorem lowD_len (a : Ds) (s : Tx) : (lowD a s).length = 16 := loL_len ..
theorem lowest_ok : POk Tryd.prog G 30 (cLow lowD) := by
  intro args acs r h β M w hR hw ha
  unfold cLow at h
  split at h
  · rename_i a s
    simp only [Option.some.injEq, Prod.mk.injEq, Bool.and_eq_true] at h
    obtain ⟨⟨h1, h2⟩, rfl⟩ := h
    have h1 := Nat.eq_of_beq_eq_true h1
    have h2 := Nat.eq_of_beq_eq_true h2
    have hm := lowD_len a s
    refine pure0 (vf_ok e0_ok mixed (LT.add_ok (noL_ok _ _ _ _) (loopLo a h1 s h2)) (of_eq (vaL a s (lowD a s) _) ⟨rfl, rfl, rfl, rfl, rfl, rfl, rfl, ⟨rfl, rfl⟩, ⟨rfl, rfl⟩, ⟨rfl, rfl⟩, ?_⟩)) rfl rfl hR
    rw [List.drop_zero, List.take_of_length_le (by omega), hm]
    exact bif_of rfl rfl
  · cases h
/-- The bytes of a number, the lowest first. -/
def leN (n : Nat) : Nat → Tx
  | 0 => []
  | k + 1 => BitVec.ofNat 8 n :: leN (n / 256) k
theorem leN_len : ∀ (k n : Nat), (leN n k).length = k
  | 0, _ => rfl
  | k + 1, n => by rw [leN, List.length_cons, leN_len k]
theorem leN_at : ∀ (k n i : Nat), i < k → (leN n k).getD i 0 = BitVec.ofNat 8 (n / 256 ^ i)
  | 0, _, _, h => absurd h (Nat.not_lt_zero _)
  | k + 1, n, 0, _ => by rw [Nat.pow_zero, Nat.div_one]; rfl
  | k + 1, n, i + 1, h => by
    rw [leN, Nat.pow_succ', ← Nat.div_div_eq_div_mul]
    exact leN_at k (n / 256) i (by omega)
theorem xbL_xb {a : Ds} (ha : Low a) (i : Nat) : ∀ k, xbL a i k = xb (V a) i k
  | 0 => rfl
  | k + 1 => by rw [xbL, xb, xbL_xb ha i k, V_bit a ha]; rfl
theorem cL_sc {a : Ds} (ha : Low a) (s : Tx) : ∀ i, cL a s i = sc (V a) (numS s) i
  | 0 => (sc_zero _ _).symm
  | i + 1 => by
    rw [cL, cL_sc ha s i, xbL_xb ha, xb_is, ← numS_byte s i, ← sc_succ, Nat.pow_mul]
theorem loL_at (a : Ds) (s : Tx) (j : Nat) (hj : j < 16) : ∀ i, j < i → (loL a s i).getD j 0 = BitVec.ofInt 8 ((cL a s j + (s.getD j 0).toNat + xbL a j 8 : Nat) : Int)
  | 0, h => absurd h (Nat.not_lt_zero _)
  | i + 1, h => by
    have hl := loL_len a s i
    rw [loL]
    rcases Nat.lt_or_ge j i with q | q
    · rw [← loL_at a s j hj i q]
      simp only [List.getD_eq_getElem?_getD]
      rw [List.getElem?_set_ne (by omega)]
    · obtain rfl : j = i := by omega
      simp only [List.getD_eq_getElem?_getD]
      rw [List.getElem?_set_self (by omega)]
      rfl
theorem ext_getD {x y : Tx} (h : x.length = y.length) (he : ∀ i, i < x.length → x.getD i 0 = y.getD i 0) : x = y := by
  refine List.ext_getElem h (fun i h1 h2 => ?_)
  have := he i h1
  rw [List.getD_eq_getElem?_getD, List.getD_eq_getElem?_getD, List.getElem?_eq_getElem h1, List.getElem?_eq_getElem h2] at this
  exact this
/-- The lowest bytes are those of the sum. -/
theorem lowD_ok {a : Ds} (ha : Low a) (s : Tx) : lowD a s = leN (V a + numS s) 16 := by
  refine ext_getD ((lowD_len a s).trans (leN_len 16 _).symm) (fun i h1 => ?_)
  have h2 : i < 16 := (lowD_len a s) ▸ h1
  have e1 : (lowD a s).getD i 0 = _ := loL_at a s i h2 16 h2
  rw [e1, leN_at 16 _ i h2, BitVec.ofInt_natCast]
  apply BitVec.eq_of_toNat_eq
  rw [BitVec.toNat_ofNat, BitVec.toNat_ofNat]
  have := sc_byte (V a) (numS s) i
  rw [cL_sc ha, xbL_xb ha, xb_is, ← numS_byte s i, Nat.pow_mul]
  exact this
end Go.Proofs.YtgjhkfafmmkimaaDoor
