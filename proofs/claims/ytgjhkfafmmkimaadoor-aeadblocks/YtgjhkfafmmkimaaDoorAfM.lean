/-
  aead: texts that are sealed. No statement is proved here.
-/
import Derived.Test.YtgjhkfafmmkimaaDoorAfK
namespace Go.Proofs.YtgjhkfafmmkimaaDoor
open Go.RowKit
set_option linter.unusedVariables false
set_option linter.unusedSimpArgs false
set_option maxRecDepth 100000

def cRep : List SV → List Cont → Option (Bool × SV)
  | [.s s, .i c], _ => some ((s == [0]) && (ile 0 c && ile c 1000), .s (List.replicate c.toNat 0))
  | _, _ => none
theorem repeat_ok : POk Tryd.prog G 52 cRep := by
  intro args acs r h β M w hR hw ha
  unfold cRep at h
  split at h
  · rename_i s c
    simp only [Option.some.injEq, Prod.mk.injEq, Bool.and_eq_true, beq_iff_eq, ile_eq, decide_eq_true_eq] at h
    obtain ⟨⟨rfl, h1, h2⟩, rfl⟩ := h
    obtain ⟨n, rfl⟩ : ∃ n : Nat, c = (n : Int) := ⟨c.toNat, by omega⟩
    have hsz : (txt [0]).size = 1 := rfl
    refine .inr ⟨enter_run (c := bdOf Tryd.prog 52) Tryd.func52 (by kernel_rfl) (by kernel_rfl) _ _, ?_⟩
    refine (rep_calls (txt [0]) n w (by omega) (by rw [hsz]; omega)).mono ?_
    rintro e w' ⟨rfl, hB⟩
    refine ⟨_, rfl, ?_, ⟨hB.os, hB.tape, hB.output, hB.size, fun k hk _ => hB.block k hk⟩⟩
    show Value.string _ = Value.string _
    congr 1
    have e : (txt [0]).data.toList = List.replicate 1 (UInt8.ofBitVec 0) := rfl
    rw [e, Lib.repeatL_replicate, Int.toNat_natCast, Nat.mul_one]
    unfold txt
    rw [List.map_replicate]
  · cases h
def F14 : Env := ⟨G, noT.add 52 cRep, noC⟩
theorem f14_ok : EnvOk Tryd.prog F14 := ⟨PT.add_ok (noT_ok _ _) repeat_ok, noC_ok _ _⟩
theorem va45 (n : Int) (K : SV → Mm → Prop) : (vf Tryd.prog F14 noL 45 [.i n] G K) = (bif inI (16 - n.tmod 16) then bif ile 0 ((16 - n.tmod 16).tmod 16) && ile ((16 - n.tmod 16).tmod 16) 1000 then K (SV.s (List.replicate ((16 - n.tmod 16).tmod 16).toNat 0)) G else False else False) := by kernel_rfl
def F15 (lo : BitVec 64 → Nat → Tx) : Env := ⟨G, noT, noC.add 36 (cPack lo)⟩
theorem f15_ok : EnvOk Tryd.prog (F15 lo) := ⟨noT_ok _ _, CT.add_ok (noC_ok _ _) pack_ok⟩
theorem va46 (lo : BitVec 64 → Nat → Tx) (s : Tx) (K : SV → Mm → Prop) : (vf Tryd.prog (F15 lo) noL 46 [.s s] G K) = (∀ (cap' : Nat) (rest : List (BitVec 8)), 8 + rest.length = cap' → bif decide (8 ≤ List.length (lo (BitVec.ofInt 64 (↑(List.length s) : Int)) 8 ++ rest)) then K (SV.s (List.take 8 (List.drop 0 (lo (BitVec.ofInt 64 (↑(List.length s) : Int)) 8 ++ rest)))) [{ rw := false, c := Cont.ints MX }, { rw := true, c := Cont.a8 (lo (BitVec.ofInt 64 (↑(List.length s) : Int)) 8 ++ rest) }] else False) := by kernel_rfl
def cZer (Z : Nat → Tx) : List SV → List Cont → Option (Bool × SV)
  | [.i n], _ => some (ile 0 n && ile n 1099511627776, .s (Z n.toNat))
  | _, _ => none
def cLen (Z : Nat → Tx) : List SV → List Cont → Option (Bool × SV)
  | [.s s], _ => some (true, .s (Z s.length))
  | _, _ => none
def F16 (B : Ws → BitVec 32 → Tx) (T : Tx → Tx → Tx) (Z N : Nat → Tx) : Env := ⟨G, ((noT.add 45 (cZer Z)).add 46 (cLen N)).add 25 (cTagOf T), noC.add 23 (cBlock B)⟩
theorem va32 (B : Ws → BitVec 32 → Tx) (T : Tx → Tx → Tx) (Z N : Nat → Tx) (w : Ws) (ad c : Tx) (K : SV → Mm → Prop) : (vf Tryd.prog (F16 B T Z N) noL 32 [.a32 w, .s ad, .s c] G K) = (bif (List.length w).beq 16 then bif (List.length w).beq 16 then ∀ (cap' : Nat) (rest : List (BitVec 8)), 64 + rest.length = cap' → bif ile 32 (↑cap' : Int) && ilt (↑0 : Int) (↑cap' : Int) then bif ile (↑(List.length ad) : Int) 1099511627776 then bif ile (↑(List.length ad + List.length (Z (List.length ad))) : Int) 9223372036854775807 then bif ile (↑((ad ++ Z (List.length ad)).length + List.length c) : Int) 9223372036854775807 then bif ile (↑(List.length c) : Int) 1099511627776 then bif ile (↑((ad ++ Z (List.length ad) ++ c).length + List.length (Z (List.length c))) : Int) 9223372036854775807 then bif ile (↑((ad ++ Z (List.length ad) ++ c ++ Z (List.length c)).length + List.length (N (List.length ad))) : Int) 9223372036854775807 then bif ile (↑((ad ++ Z (List.length ad) ++ c ++ Z (List.length c) ++ N (List.length ad)).length + List.length (N (List.length c))) : Int) 9223372036854775807 then bif Nat.ble 32 (List.length (B w (BitVec.ofInt 32 0) ++ rest)) && (Nat.ble 32 cap' && (ad ++ Z (List.length ad) ++ c ++ Z (List.length c) ++ N (List.length ad) ++ N (List.length c)).length.ble 1099511627776) then K (SV.s (T (List.take 32 (List.drop 0 (B w (BitVec.ofInt 32 0) ++ rest))) (ad ++ Z (List.length ad) ++ c ++ Z (List.length c) ++ N (List.length ad) ++ N (List.length c)))) [{ rw := false, c := Cont.ints MX }, { rw := true, c := Cont.a32 w }, { rw := true, c := Cont.a8 (B w (BitVec.ofInt 32 0) ++ rest) }] else False else False else False else False else False else False else False else False else False else False else False) := by kernel_rfl
theorem va13 (B : Ws → BitVec 32 → Tx) (T : Tx → Tx → Tx) (Z N : Nat → Tx) (key s : Tx) (K : SV → Mm → Prop) : (vf Tryd.prog (F16 B T Z N) noL 13 [.s key, .s s] G K) = (bif (↑(List.length key) : Int) != 32 then K (SV.tup [SV.s (bts { data := #[] }), SV.i 2]) G else ∀ (cap : Nat) (x : List (BitVec 8)), List.length key ≤ cap → x = key ++ List.replicate (cap - List.length key) 0 → bif (List.length key).beq 32 && (Nat.ble 32 x.length && (Nat.ble 32 cap && (List.length s).ble 1099511627776)) then K (SV.tup [SV.s (T (List.take 32 (List.drop 0 x)) s), SV.i 0]) [{ rw := false, c := Cont.ints MX }, { rw := true, c := Cont.a8 x }] else False) := by kernel_rfl
def i15 (a b : Tx) (o : BitVec 8) (j : Nat) : List (Nat × SV) := [(0, .s a), (1, .s b), (5, .w8 o), (13, .i (a.length : Nat)), (14, .i (j : Nat))]
def o15 (o : BitVec 8) : List (Nat × SV) := [(5, .w8 o)]
def L15 (a b : Tx) (o : BitVec 8) : LT := noL.add 0 (vLoop G 29 (i15 a b (BitVec.ofInt 8 0) 0) G (o15 o) G)
theorem va15 (a b : Tx) (o : BitVec 8) (K : SV → Mm → Prop) : (vf Tryd.prog E0 (L15 a b o) 15 [.s a, .s b] G K) = (bif (↑(List.length a) : Int) != (↑(List.length b) : Int) then K (SV.b false) G else loopOf Tryd.prog 15 0 = loopOf Tryd.prog 15 0 ∧ SV.s a = SV.s a ∧ SV.s b = SV.s b ∧ SV.w8 (BitVec.ofInt 8 0) = SV.w8 (BitVec.ofInt 8 0) ∧ SV.i (↑(List.length a) : Int) = SV.i (↑(List.length a) : Int) ∧ SV.i 0 = SV.i (↑0 : Int) ∧ (false = false ∧ Cont.ints MX = Cont.ints MX) ∧ K (SV.b (o == BitVec.ofInt 8 0)) G) := by kernel_rfl
theorem va15' (a b : Tx) (K : SV → Mm → Prop) : (vf Tryd.prog E0 (fun _ _ _ _ => False) 15 [.s a, .s b] G K) = (bif (↑(List.length a) : Int) != (↑(List.length b) : Int) then K (SV.b false) G else loopOf Tryd.prog 15 0 = loopOf Tryd.prog 15 0 ∧ False) := by kernel_rfl
theorem vr15 (a b : Tx) (o o1 z : BitVec 8) (j : Nat) (p : Prop) : (frK 29 (i15 a b o j) fun fr => vround Tryd.prog E0 noL 15 0 fr G (Kn G 0 29 p (i15 a b o1 (j + 1)) G (o15 z) G)) = (bif ilt (↑j : Int) (↑(List.length a) : Int) then bif inR (↑j : Int) (List.length a) then bif inR (↑j : Int) (List.length b) then bif inI ((↑j : Int) + 1) then p ∧ SV.s a = SV.s a ∧ SV.s b = SV.s b ∧ SV.w8 (o ||| List.getD a j 0 ^^^ List.getD b j 0) = SV.w8 o1 ∧ SV.i (↑(List.length a) : Int) = SV.i (↑(List.length a) : Int) ∧ SV.i ((↑j : Int) + 1) = SV.i (↑(j + 1) : Int) ∧ (false = false ∧ Cont.ints MX = Cont.ints MX) ∧ True else False else False else False else 0 = 0 ∧ SV.w8 o = SV.w8 z ∧ (false = false ∧ Cont.ints MX = Cont.ints MX) ∧ True) := by kernel_rfl
def zer (n : Nat) : Tx := List.replicate (padN n) 0
theorem zeros_ok : POk Tryd.prog G 45 (cZer zer) := by
  intro args acs r h β M w hR hw ha
  unfold cZer at h
  split at h
  · rename_i n
    simp only [Option.some.injEq, Prod.mk.injEq, Bool.and_eq_true, ile_eq, decide_eq_true_eq] at h
    obtain ⟨⟨h1, h2⟩, rfl⟩ := h
    obtain ⟨n, rfl⟩ : ∃ m : Nat, n = (m : Int) := ⟨n.toNat, by omega⟩
    refine pure0 (vf_ok f14_ok mixed (noL_ok _ _ _ _) (of_eq (va45 n _) ?_)) rfl rfl hR
    have hp : padN n < 16 := by unfold padN; omega
    have e1 : (n : Int).tmod 16 = ((n % 16 : Nat) : Int) := tmod_cast n 16
    rw [padZ, Int.toNat_natCast, Int.toNat_natCast]
    refine bif_of (by rw [e1]; exact inI_iff.2 (by omega)) (bif_of (by rw [Bool.and_eq_true, ile_eq, ile_eq]; exact ⟨decide_eq_true (by omega), decide_eq_true (by omega)⟩) rfl)
  · cases h
def lnB (n : Nat) : Tx := lo (BitVec.ofInt 64 (n : Int)) 8
theorem lnB_len (n : Nat) : (lnB n).length = 8 := lo_len _ _
theorem length_ok : POk Tryd.prog G 46 (cLen lnB) := by
  intro args acs r h β M w hR hw ha
  unfold cLen at h
  split at h
  · rename_i s
    simp only [Option.some.injEq, Prod.mk.injEq, true_and] at h
    subst h
    refine pure0 (vf_ok f15_ok mixed (noL_ok _ _ _ _) (of_eq (va46 lo s _) ?_)) rfl rfl hR
    intro cap' rest hc
    have hl := lnB_len s.length
    refine bif_of (decide_eq_true (by rw [List.length_append, lo_len]; omega)) ?_
    rw [List.drop_zero, take_left' _ _ _ (lo_len _ 8)]
    rfl
  · cases h
theorem f16_ok : EnvOk Tryd.prog (F16 blB tgP zer lnB) := ⟨PT.add_ok (PT.add_ok (PT.add_ok (noT_ok _ _) zeros_ok) length_ok) tagOf_ok, CT.add_ok (noC_ok _ _) block_ok⟩
/-- The tag of what was enciphered, by words. -/
def tgW (w : Ws) (ad c : Tx) : Tx := tgP ((blB w (BitVec.ofInt 32 0)).take 32) (ad ++ zer ad.length ++ c ++ zer c.length ++ lnB ad.length ++ lnB c.length)
def cTagW (W : Ws → Tx → Tx → Tx) : List SV → List Cont → Option (Bool × SV)
  | [.a32 w, .s ad, .s c], _ => some (Nat.beq w.length 16 && (Nat.ble ad.length 1073741824 && Nat.ble c.length 1073741824), .s (W w ad c))
  | _, _ => none
theorem tagW_ok : POk Tryd.prog G 32 (cTagW tgW) := by
  intro args acs r h β M w hR hw ha
  unfold cTagW at h
  split at h
  · rename_i w0 ad c
    simp only [Option.some.injEq, Prod.mk.injEq, Bool.and_eq_true] at h
    obtain ⟨⟨h0, h1, h2⟩, rfl⟩ := h
    have h0 := Nat.eq_of_beq_eq_true h0
    have h1 := Nat.le_of_ble_eq_true h1
    have h2 := Nat.le_of_ble_eq_true h2
    refine pure0 (vf_ok f16_ok mixed (noL_ok _ _ _ _) (of_eq (va32 blB tgP zer lnB w0 ad c _) ?_)) rfl rfl hR
    have hp : ∀ n, (zer n).length ≤ 15 := fun n => by unfold zer; rw [List.length_replicate]; unfold padN; omega
    have z1 := hp ad.length
    have z2 := hp c.length
    have n1 := lnB_len ad.length
    have n2 := lnB_len c.length
    have hl := blB_len w0 (BitVec.ofInt 32 0)
    rw [h0]
    intro cap' rest hc
    have ej : ∀ n : Nat, n ≤ 4611686018427387904 → ile (n : Int) 9223372036854775807 = true := fun n h => by rw [ile_eq]; exact decide_eq_true (by omega)
    refine bif_of (by rw [Bool.and_eq_true, ile_eq, ilt_eq]; exact ⟨decide_eq_true (by omega), decide_eq_true (by omega)⟩) (bif_of (by rw [ile_eq]; exact decide_eq_true (by omega)) (bif_of (ej _ (by omega)) (bif_of (ej _ (by simp only [List.length_append]; omega)) (bif_of (by rw [ile_eq]; exact decide_eq_true (by omega)) (bif_of (ej _ (by simp only [List.length_append]; omega)) (bif_of (ej _ (by simp only [List.length_append]; omega)) (bif_of (ej _ (by simp only [List.length_append]; omega)) (bif_of ?_ ?_))))))))
    · simp only [Bool.and_eq_true]
      exact ⟨Nat.ble_eq_true_of_le (by rw [List.length_append, hl]; omega), Nat.ble_eq_true_of_le (by omega), Nat.ble_eq_true_of_le (by simp only [List.length_append]; omega)⟩
    · rw [List.drop_zero, List.take_append_of_le_length (by omega)]
      rfl
  · cases h
theorem lnN_lo (n m : Nat) : lnN n m 8 = lnB n ++ lnB m := by kernel_rfl
theorem tgW_D (key nonce ad c : Tx) (h1 : key.length = 32) (h2 : nonce.length = 12) : tgW (lyW key nonce) ad c = tgD blockR tagD key nonce ad c := by
  unfold tgW tgD
  rw [blB_R key nonce _ h1 h2, tgP_ok _ _ (by rw [List.length_take, blockR_len]; rfl)]
  unfold tgS
  rw [lnN_lo]
  show tagD _ (ad ++ pad ad ++ c ++ pad c ++ lnB ad.length ++ lnB c.length) = _
  rw [List.append_assoc (ad ++ pad ad ++ c ++ pad c)]
theorem T_ok : POk Tryd.prog G 13 (cPT tS tE) := by
  intro args acs r hh β M w hR hw ha
  unfold cPT at hh
  split at hh
  · rename_i key s
    simp only [Option.some.injEq, Prod.mk.injEq, Bool.and_eq_true] at hh
    obtain ⟨⟨-, f2⟩, rfl⟩ := hh
    have f2 : s.length ≤ 1048576 := Nat.le_of_ble_eq_true f2
    refine pure0 (vf_ok f16_ok mixed (noL_ok _ _ _ _) (of_eq (va13 blB tgP zer lnB key s _) ?_)) rfl rfl hR
    by_cases h : key.length = 32
    · have e1 : tE key = 0 := if_pos h
      have e2 : tS key s = tagD key s := by unfold tS; exact if_pos e1
      have e3 : ((key.length : Int) != 32) = false := intne_f h
      rw [e1, e2, e3]
      intro cap x hc hx
      have hxl : x.length = cap := by rw [hx, List.length_append, List.length_replicate]; omega
      refine bif_of ?_ ?_
      · simp only [Bool.and_eq_true]
        exact ⟨by rw [h]; rfl, Nat.ble_eq_true_of_le (by omega), Nat.ble_eq_true_of_le (by omega), Nat.ble_eq_true_of_le (by omega)⟩
      · rw [hx, List.drop_zero, take_left' _ _ _ h, tgP_ok key s h]
    · have e1 : tE key = 2 := if_neg h
      have e2 : tS key s = [] := by unfold tS; rw [e1]; exact if_neg (by decide)
      have e3 : ((key.length : Int) != 32) = true := intne_t h
      rw [e1, e2, e3]
      rfl
  · cases hh
/-- What differs in the first bytes. -/
def smO (a b : Tx) : Nat → BitVec 8
  | 0 => BitVec.ofInt 8 0
  | j + 1 => smO a b j ||| (a.getD j 0 ^^^ b.getD j 0)
theorem loop15 (a b : Tx) (h : a.length = b.length) (hb : a.length ≤ 1048576) : LOk Tryd.prog G G 15 (L15 a b (smO a b a.length)) := by
  refine LT.add_ok (noL_ok _ _ _ _) (loop_next e0_ok mixed (noL_ok _ _ _ _) (Nat.le_refl _) (by kernel_rfl) (fun j => i15 a b (smO a b j) j) (fun _ => G) (fun j => j ≤ a.length) (fun j => a.length - j) (fun j => j + 1) 0 (Nat.zero_le _) (fun j hj => of_eq (vr15 a b (smO a b j) (smO a b (j + 1)) (smO a b a.length) j _) ?_))
  cases hq : ilt (j : Int) (a.length : Int)
  · have e := ilt_fe hq hj
    exact ⟨rfl, congrArg SV.w8 (by rw [e]), ⟨rfl, rfl⟩, trivial⟩
  · have hj2 := ilt_y hq
    refine bif_of (inR_nat hj2) (bif_of (inR_nat (by omega)) (bif_of (inI_iff.2 (by omega)) ⟨⟨by omega, by omega⟩, rfl, rfl, rfl, rfl, rfl, ⟨rfl, rfl⟩, trivial⟩))
theorem smO_zero (a b : Tx) : ∀ n, smO a b n = BitVec.ofInt 8 0 ↔ ∀ j, j < n → a.getD j 0 = b.getD j 0
  | 0 => ⟨fun _ j hj => absurd hj (Nat.not_lt_zero j), fun _ => rfl⟩
  | n + 1 => by
    have ih := smO_zero a b n
    have z : BitVec.ofInt 8 0 = 0#8 := rfl
    rw [smO, z, BitVec.or_eq_zero_iff, BitVec.xor_eq_zero_iff, ← z, ih]
    constructor
    · rintro ⟨h1, h2⟩ j hj
      rcases Nat.lt_or_ge j n with q | q
      · exact h1 j q
      · rw [show j = n by omega]; exact h2
    · intro h
      exact ⟨fun j hj => h j (by omega), h n (by omega)⟩
theorem same_is (a b : Tx) (h : a.length = b.length) : (smO a b a.length == BitVec.ofInt 8 0) = (a == b) := by
  rw [Bool.eq_iff_iff, beq_iff_eq, beq_iff_eq, smO_zero]
  constructor
  · intro hh
    apply List.ext_getElem h
    intro i h1 h2
    have := hh i h1
    rw [List.getD_eq_getElem?_getD, List.getD_eq_getElem?_getD, List.getElem?_eq_getElem h1, List.getElem?_eq_getElem h2] at this
    exact this
  · intro e j _
    rw [e]
theorem E_ok : POk Tryd.prog G 15 cPE := by
  intro args acs r hh β M w hR hw ha
  unfold cPE at hh
  split at hh
  · rename_i a b
    simp only [Option.some.injEq, Prod.mk.injEq, Bool.and_eq_true] at hh
    obtain ⟨⟨f1, f2⟩, rfl⟩ := hh
    have f1 : a.length ≤ 1048576 := Nat.le_of_ble_eq_true f1
    by_cases h : a.length = b.length
    · refine pure0 (vf_ok e0_ok mixed (loop15 a b h f1) (of_eq (va15 a b (smO a b a.length) _) ?_)) rfl rfl hR
      rw [show ((a.length : Int) != (b.length : Int)) = false from intne_f h, same_is a b h]
      exact ⟨rfl, rfl, rfl, rfl, rfl, rfl, ⟨rfl, rfl⟩, rfl⟩
    · refine pure0 (vf_ok e0_ok mixed (L := fun _ _ _ _ => False) (fun _ _ _ _ h => h.elim) (of_eq (va15' a b _) ?_)) rfl rfl hR
      rw [show ((a.length : Int) != (b.length : Int)) = true from intne_t h]
      exact congrArg SV.b (by symm; rw [beq_eq_false_iff_ne]; intro e; exact h (by rw [e]))
  · cases hh
end Go.Proofs.YtgjhkfafmmkimaaDoor
namespace Go.Proofs.YtgjhkfafmmkimaaDoor
open Go.RowKit
set_option linter.unusedVariables false
set_option linter.unusedSimpArgs false
set_option maxRecDepth 100000

def F17 (Y : Tx → Tx → Ws) (U : Ws → Tx → Tx) (W : Ws → Tx → Tx → Tx) : Env := ⟨G, ((((noT.add 21 cFits).add 22 (cLay Y)).add 31 (cTurn U)).add 32 (cTagW W)).add 15 cPE, noC⟩
theorem f17_ok : EnvOk Tryd.prog (F17 lyW trW tgW) := ⟨PT.add_ok (PT.add_ok (PT.add_ok (PT.add_ok (PT.add_ok (noT_ok _ _) fits_ok) lay_ok) turn_ok) tagW_ok) E_ok, noC_ok _ _⟩
theorem va16 (Y : Tx → Tx → Ws) (U : Ws → Tx → Tx) (W : Ws → Tx → Tx → Tx) (key nonce ad s : Tx) (K : SV → Mm → Prop) : (vf Tryd.prog (F17 Y U W) noL 16 [.s key, .s nonce, .s ad, .s s] G K) = (bif !((List.length key).beq 32 && (List.length nonce).beq 12) then K (SV.tup [SV.s (bts { data := #[] }), SV.i 2]) G else bif ilt 65536 (↑(List.length ad) : Int) == false then bif ilt 65536 (↑(List.length ad) : Int) == false then bif ilt 65536 (↑(List.length ad) : Int) == false then bif bif ilt 65536 (↑(List.length ad) : Int) then true else ilt 65536 (↑(List.length s) : Int) then K (SV.tup [SV.s (bts { data := #[] }), SV.i 4]) G else bif (List.length key).beq 32 && (List.length nonce).beq 12 then bif (List.length (Y key nonce)).beq 16 && (List.length (Y key nonce)).beq 16 then bif (List.length (Y key nonce)).beq 16 then bif (List.length (Y key nonce)).beq 16 && (List.length s).ble 1000000000 then bif (List.length (Y key nonce)).beq 16 then bif (List.length (Y key nonce)).beq 16 && ((List.length ad).ble 1073741824 && (List.length (U (Y key nonce) s)).ble 1073741824) then bif ile (↑(List.length (U (Y key nonce) s) + List.length (W (Y key nonce) ad (U (Y key nonce) s))) : Int) 9223372036854775807 then K (SV.tup [SV.s (U (Y key nonce) s ++ W (Y key nonce) ad (U (Y key nonce) s)), SV.i 0]) [{ rw := false, c := Cont.ints MX }, { rw := true, c := Cont.a32 (Y key nonce) }] else False else False else False else False else False else False else False else bif ilt 65536 (↑(List.length ad) : Int) then K (SV.tup [SV.s (bts { data := #[] }), SV.i 4]) G else False else bif ilt 65536 (↑(List.length ad) : Int) == false then False else bif ilt 65536 (↑(List.length ad) : Int) then K (SV.tup [SV.s (bts { data := #[] }), SV.i 4]) G else False else bif ilt 65536 (↑(List.length ad) : Int) == false then False else bif ilt 65536 (↑(List.length ad) : Int) == false then False else bif ilt 65536 (↑(List.length ad) : Int) then K (SV.tup [SV.s (bts { data := #[] }), SV.i 4]) G else False) := by kernel_rfl
theorem va18 (Y : Tx → Tx → Ws) (U : Ws → Tx → Tx) (W : Ws → Tx → Tx → Tx) (key nonce ad s : Tx) (K : SV → Mm → Prop) : (vf Tryd.prog (F17 Y U W) noL 18 [.s key, .s nonce, .s ad, .s s] G K) = (bif !((List.length key).beq 32 && (List.length nonce).beq 12) then K (SV.tup [SV.s (bts { data := #[] }), SV.i 2]) G else bif ilt 65536 (↑(List.length ad) : Int) == false then bif ilt 65536 (↑(List.length ad) : Int) == false then bif ilt 65536 (↑(List.length ad) : Int) == false then bif bif ilt 65536 (↑(List.length ad) : Int) then true else ilt 65552 (↑(List.length s) : Int) then K (SV.tup [SV.s (bts { data := #[] }), SV.i 4]) G else bif ilt (↑(List.length s) : Int) 16 then K (SV.tup [SV.s (bts { data := #[] }), SV.i 130]) G else bif (List.length key).beq 32 && (List.length nonce).beq 12 then bif (List.length (Y key nonce)).beq 16 && (List.length (Y key nonce)).beq 16 then bif inI ((↑(List.length s) : Int) - 16) then bif ile (↑0 : Int) ((↑(List.length s) : Int) - 16) && ile ((↑(List.length s) : Int) - 16) (↑(List.length s) : Int) then bif inI ((↑(List.length s) : Int) - 16) then bif ile 0 ((↑(List.length s) : Int) - 16) && ile ((↑(List.length s) : Int) - 16) (↑(List.length s) : Int) && ile (↑(List.length s) : Int) (↑(List.length s) : Int) then bif (List.length (Y key nonce)).beq 16 then bif (List.length (Y key nonce)).beq 16 && ((List.length ad).ble 1073741824 && (List.drop 0 (List.take ((↑(List.length s) : Int) - 16).toNat s)).length.ble 1073741824) then bif fit (List.drop ((↑(List.length s) : Int) - 16).toNat (List.take (List.length s) s)) && fit (W (Y key nonce) ad (List.drop 0 (List.take ((↑(List.length s) : Int) - 16).toNat s))) then bif !List.drop ((↑(List.length s) : Int) - 16).toNat (List.take (List.length s) s) == W (Y key nonce) ad (List.drop 0 (List.take ((↑(List.length s) : Int) - 16).toNat s)) then K (SV.tup [SV.s (bts { data := #[] }), SV.i 130]) [{ rw := false, c := Cont.ints MX }, { rw := true, c := Cont.a32 (Y key nonce) }] else bif (List.length (Y key nonce)).beq 16 then bif (List.length (Y key nonce)).beq 16 && (List.drop 0 (List.take ((↑(List.length s) : Int) - 16).toNat s)).length.ble 1000000000 then K (SV.tup [SV.s (U (Y key nonce) (List.drop 0 (List.take ((↑(List.length s) : Int) - 16).toNat s))), SV.i 0]) [{ rw := false, c := Cont.ints MX }, { rw := true, c := Cont.a32 (Y key nonce) }] else False else False else False else False else False else False else False else False else False else False else False else bif ilt 65536 (↑(List.length ad) : Int) then K (SV.tup [SV.s (bts { data := #[] }), SV.i 4]) G else False else bif ilt 65536 (↑(List.length ad) : Int) == false then False else bif ilt 65536 (↑(List.length ad) : Int) then K (SV.tup [SV.s (bts { data := #[] }), SV.i 4]) G else False else bif ilt 65536 (↑(List.length ad) : Int) == false then False else bif ilt 65536 (↑(List.length ad) : Int) == false then False else bif ilt 65536 (↑(List.length ad) : Int) then K (SV.tup [SV.s (bts { data := #[] }), SV.i 4]) G else False) := by kernel_rfl
theorem tgP_len (key s : Tx) : (tgP key s).length = 16 := by unfold tgP wrD; rw [List.length_append, lo_len, lo_len]
theorem tgW_len (w : Ws) (ad c : Tx) : (tgW w ad c).length = 16 := tgP_len _ _
theorem fits_f {key nonce : Tx} (h : ¬ (key.length = 32 ∧ nonce.length = 12)) : (Nat.beq key.length 32 && Nat.beq nonce.length 12) = false := by
  rw [Bool.and_eq_false_iff, Bool.eq_false_iff, Bool.eq_false_iff]
  simp only [ne_eq, Nat.beq_eq]
  omega
theorem S_ok : POk Tryd.prog G 16 (cPS sS slE) := by
  intro args acs r hh β M w hR hw ha
  unfold cPS at hh
  split at hh
  · rename_i key nonce ad s
    simp only [Option.some.injEq, Prod.mk.injEq, Bool.and_eq_true] at hh
    obtain ⟨⟨-, -, f3, f4⟩, rfl⟩ := hh
    have f3 : ad.length ≤ 1048576 := Nat.le_of_ble_eq_true f3
    have f4 : s.length ≤ 1048576 := Nat.le_of_ble_eq_true f4
    refine pure0 (vf_ok f17_ok mixed (noL_ok _ _ _ _) (of_eq (va16 lyW trW tgW key nonce ad s _) ?_)) rfl rfl hR
    have tf : (true == false) = false := rfl
    have ff : (false == false) = true := rfl
    have b16 : Nat.beq 16 16 = true := rfl
    by_cases h : key.length = 32 ∧ nonce.length = 12
    · have ek : (Nat.beq key.length 32 && Nat.beq nonce.length 12) = true := by rw [h.1, h.2]; rfl
      by_cases h2 : 65536 < ad.length
      · have e1 : slE key nonce ad s = 4 := by unfold slE; rw [if_pos h, if_pos (.inl h2)]
        have e2 : sS key nonce ad s = [] := by show slS _ _ key nonce ad s = []; unfold slS; rw [e1]; exact if_neg (by decide)
        have e3 : ilt 65536 (ad.length : Int) = true := by rw [ilt_eq]; exact decide_eq_true (by omega)
        rw [e1, e2]
        simp only [ek, e3, tf, Bool.not_true, cond_true, cond_false]
        rfl
      · have e3 : ilt 65536 (ad.length : Int) = false := by rw [ilt_eq]; exact decide_eq_false (by omega)
        by_cases h3 : 65536 < s.length
        · have e1 : slE key nonce ad s = 4 := by unfold slE; rw [if_pos h, if_pos (.inr h3)]
          have e2 : sS key nonce ad s = [] := by show slS _ _ key nonce ad s = []; unfold slS; rw [e1]; exact if_neg (by decide)
          have e4 : ilt 65536 (s.length : Int) = true := by rw [ilt_eq]; exact decide_eq_true (by omega)
          rw [e1, e2]
          simp only [ek, e3, e4, tf, ff, Bool.not_true, cond_true, cond_false]
          rfl
        · have e1 : slE key nonce ad s = 0 := by unfold slE; rw [if_pos h, if_neg (by omega)]
          have e4 : ilt 65536 (s.length : Int) = false := by rw [ilt_eq]; exact decide_eq_false (by omega)
          have hl := lyW_len key nonce
          have ht := trW_len (lyW key nonce) s
          have hg := tgW_len (lyW key nonce) ad (trW (lyW key nonce) s)
          have e2 : sS key nonce ad s = trW (lyW key nonce) s ++ tgW (lyW key nonce) ad (trW (lyW key nonce) s) := by
            show slS _ _ key nonce ad s = _
            unfold slS
            rw [if_pos e1, tgW_D key nonce ad _ h.1 h.2, trW_D key nonce s h.1 h.2]
          have k1 : Nat.ble s.length 1000000000 = true := Nat.ble_eq_true_of_le (by omega)
          have k2 : Nat.ble ad.length 1073741824 = true := Nat.ble_eq_true_of_le (by omega)
          have k3 : Nat.ble s.length 1073741824 = true := Nat.ble_eq_true_of_le (by omega)
          have k4 : ile ((s.length + 16 : Nat) : Int) 9223372036854775807 = true := by rw [ile_eq]; exact decide_eq_true (by omega)
          rw [e1, e2, hg, ht, hl]
          simp only [ek, e3, e4, tf, ff, b16, k1, k2, k3, k4, Bool.not_true, Bool.and_self, cond_true, cond_false]
    · have e1 : slE key nonce ad s = 2 := if_neg h
      have e2 : sS key nonce ad s = [] := by show slS _ _ key nonce ad s = []; unfold slS; rw [e1]; exact if_neg (by decide)
      rw [e1, e2, fits_f h]
      rfl
  · cases hh
theorem O_ok : POk Tryd.prog G 18 (cPS oS oE) := by
  intro args acs r hh β M w hR hw ha
  unfold cPS at hh
  split at hh
  · rename_i key nonce ad s
    simp only [Option.some.injEq, Prod.mk.injEq, Bool.and_eq_true] at hh
    obtain ⟨⟨-, -, f3, f4⟩, rfl⟩ := hh
    have f3 : ad.length ≤ 1048576 := Nat.le_of_ble_eq_true f3
    have f4 : s.length ≤ 1048576 := Nat.le_of_ble_eq_true f4
    refine pure0 (vf_ok f17_ok mixed (noL_ok _ _ _ _) (of_eq (va18 lyW trW tgW key nonce ad s _) ?_)) rfl rfl hR
    have tf : (true == false) = false := rfl
    have ff : (false == false) = true := rfl
    have b16 : Nat.beq 16 16 = true := rfl
    by_cases h : key.length = 32 ∧ nonce.length = 12
    · have ek : (Nat.beq key.length 32 && Nat.beq nonce.length 12) = true := by rw [h.1, h.2]; rfl
      by_cases h2 : 65536 < ad.length
      · have e1 : oE key nonce ad s = 4 := by show opE _ key nonce ad s = 4; unfold opE; rw [if_pos h, if_pos (.inl h2)]
        have e2 : oS key nonce ad s = [] := by show opS _ _ key nonce ad s = []; unfold opS; rw [show opE (tgD blockR tagD) key nonce ad s = 4 from e1]; exact if_neg (by decide)
        have e3 : ilt 65536 (ad.length : Int) = true := by rw [ilt_eq]; exact decide_eq_true (by omega)
        rw [e1, e2]
        simp only [ek, e3, tf, Bool.not_true, cond_true, cond_false]
        rfl
      · have e3 : ilt 65536 (ad.length : Int) = false := by rw [ilt_eq]; exact decide_eq_false (by omega)
        by_cases h3 : 65552 < s.length
        · have e1 : oE key nonce ad s = 4 := by show opE _ key nonce ad s = 4; unfold opE; rw [if_pos h, if_pos (.inr h3)]
          have e2 : oS key nonce ad s = [] := by show opS _ _ key nonce ad s = []; unfold opS; rw [show opE (tgD blockR tagD) key nonce ad s = 4 from e1]; exact if_neg (by decide)
          have e4 : ilt 65552 (s.length : Int) = true := by rw [ilt_eq]; exact decide_eq_true (by omega)
          rw [e1, e2]
          simp only [ek, e3, e4, tf, ff, Bool.not_true, cond_true, cond_false]
          rfl
        · have e4 : ilt 65552 (s.length : Int) = false := by rw [ilt_eq]; exact decide_eq_false (by omega)
          have ho : ¬ (65536 < ad.length ∨ 65552 < s.length) := by omega
          by_cases h4 : s.length < 16
          · have e1 : oE key nonce ad s = 130 := by show opE _ key nonce ad s = 130; unfold opE; rw [if_pos h, if_neg ho, if_pos (.inl h4)]
            have e2 : oS key nonce ad s = [] := by show opS _ _ key nonce ad s = []; unfold opS; rw [show opE (tgD blockR tagD) key nonce ad s = 130 from e1]; exact if_neg (by decide)
            have e5 : ilt (s.length : Int) 16 = true := by rw [ilt_eq]; exact decide_eq_true (by omega)
            rw [e1, e2]
            simp only [ek, e3, e4, e5, tf, ff, Bool.not_true, cond_true, cond_false]
            rfl
          · have e5 : ilt (s.length : Int) 16 = false := by rw [ilt_eq]; exact decide_eq_false (by omega)
            have en : ((s.length : Int) - 16).toNat = s.length - 16 := by omega
            have es : List.take s.length s = s := List.take_of_length_le (Nat.le_refl _)
            have hl := lyW_len key nonce
            have hc : (s.take (s.length - 16)).length = s.length - 16 := by rw [List.length_take]; omega
            have hd : (s.drop (s.length - 16)).length = 16 := by rw [List.length_drop]; omega
            have hg := tgW_len (lyW key nonce) ad (s.take (s.length - 16))
            have i1 : inI ((s.length : Int) - 16) = true := inI_iff.2 (by omega)
            have i2 : ile ((0 : Nat) : Int) ((s.length : Int) - 16) = true := by rw [ile_eq]; exact decide_eq_true (by omega)
            have i2' : ile 0 ((s.length : Int) - 16) = true := by rw [ile_eq]; exact decide_eq_true (by omega)
            have i3 : ile ((s.length : Int) - 16) (s.length : Int) = true := by rw [ile_eq]; exact decide_eq_true (by omega)
            have i4 : ile (s.length : Int) (s.length : Int) = true := by rw [ile_eq]; exact decide_eq_true (by omega)
            have k2 : Nat.ble ad.length 1073741824 = true := Nat.ble_eq_true_of_le (by omega)
            have k3 : Nat.ble (s.length - 16) 1073741824 = true := Nat.ble_eq_true_of_le (by omega)
            have k4 : Nat.ble (s.length - 16) 1000000000 = true := Nat.ble_eq_true_of_le (by omega)
            have k5 : fit (s.drop (s.length - 16)) = true := Nat.ble_eq_true_of_le (by rw [hd]; decide)
            have k6 : fit (tgW (lyW key nonce) ad (s.take (s.length - 16))) = true := Nat.ble_eq_true_of_le (by rw [hg]; decide)
            rw [en, es, List.drop_zero, hc, hl]
            have eT := tgW_D key nonce ad (s.take (s.length - 16)) h.1 h.2
            have eU := trW_D key nonce (s.take (s.length - 16)) h.1 h.2
            by_cases h5 : tgW (lyW key nonce) ad (s.take (s.length - 16)) = s.drop (s.length - 16)
            · have e1 : oE key nonce ad s = 0 := by
                show opE _ key nonce ad s = 0
                unfold opE
                rw [if_pos h, if_neg ho, if_neg]
                rw [← eT]
                exact fun hh => hh.elim h4 fun hn => hn h5
              have e2 : oS key nonce ad s = trW (lyW key nonce) (s.take (s.length - 16)) := by
                show opS _ _ key nonce ad s = _
                unfold opS
                rw [if_pos (show opE (tgD blockR tagD) key nonce ad s = 0 from e1), eU]
              have e6 : (s.drop (s.length - 16) == tgW (lyW key nonce) ad (s.take (s.length - 16))) = true := by rw [h5]; exact beq_self_eq_true _
              rw [e1, e2]
              simp only [ek, e3, e4, e5, e6, i1, i2, i2', i3, i4, k2, k3, k4, k5, k6, tf, ff, b16, Bool.not_true, Bool.and_self, cond_true, cond_false]
            · have e1 : oE key nonce ad s = 130 := by
                show opE _ key nonce ad s = 130
                unfold opE
                rw [if_pos h, if_neg ho, if_pos]
                rw [← eT]
                exact .inr h5
              have e2 : oS key nonce ad s = [] := by show opS _ _ key nonce ad s = []; unfold opS; rw [show opE (tgD blockR tagD) key nonce ad s = 130 from e1]; exact if_neg (by decide)
              have e6 : (s.drop (s.length - 16) == tgW (lyW key nonce) ad (s.take (s.length - 16))) = false := beq_eq_false_iff_ne.2 (fun e => h5 e.symm)
              rw [e1, e2]
              simp only [ek, e3, e4, e5, e6, i1, i2, i2', i3, i4, k2, k3, k4, k5, k6, tf, ff, b16, Bool.not_true, Bool.not_false, Bool.and_self, cond_true, cond_false]
              rfl
    · have e1 : oE key nonce ad s = 2 := if_neg h
      have e2 : oS key nonce ad s = [] := by show opS _ _ key nonce ad s = []; unfold opS; rw [show opE (tgD blockR tagD) key nonce ad s = 2 from e1]; exact if_neg (by decide)
      rw [e1, e2, fits_f h]
      rfl
  · cases hh
/-- The package answers as the document does. -/
theorem ae_ok : AeOk := ⟨B_ok, T_ok, S_ok, O_ok, E_ok⟩
end Go.Proofs.YtgjhkfafmmkimaaDoor
