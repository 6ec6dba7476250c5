/-
  aead: the document's tag of what was enciphered. No statement is proved here.
-/
import Derived.Test.YtgjhkfafmmkimaaDoorAeG
namespace Go.Proofs.YtgjhkfafmmkimaaDoor
open Go.RowKit
set_option linter.unusedVariables false
set_option linter.unusedSimpArgs false
set_option maxRecDepth 100000

def lnN (n m : Nat) : Nat → Tx
  | 0 => List.replicate 16 0
  | i + 1 => ((lnN n m i).set i ((BitVec.ofInt 64 (n : Int) >>> (8 * i)).setWidth 8)).set (8 + i) ((BitVec.ofInt 64 (m : Int) >>> (8 * i)).setWidth 8)
theorem lnN_len (n m : Nat) : ∀ i, (lnN n m i).length = 16
  | 0 => List.length_replicate ..
  | i + 1 => by rw [lnN, List.length_set, List.length_set, lnN_len n m i]
theorem loopW (key nonce ad c : Tx) : ∀ fr M K, vLoop G 72 (itg key nonce ad c 0) (Mk (List.replicate 16 0)) (otg key nonce ad c) (Mk (lnN ad.length c.length 8)) fr M K → Wp Tryd.prog G G (loopOf Tryd.prog 34 0) fr M K := by
  refine loop_next eb_ok mixed (noL_ok _ _ _ _) (Nat.le_refl _) (by kernel_rfl) (fun i => itg key nonce ad c i) (fun i => Mk (lnN ad.length c.length i)) (fun i => i ≤ 8) (fun i => 8 - i) (fun i => i + 1) 0 (Nat.zero_le _) (fun i hi => of_eq (vrW blockR tagD key nonce ad c (lnN ad.length c.length i) (lnN ad.length c.length (i + 1)) (lnN ad.length c.length 8) i _) ?_)
  have hfin : i = 8 → lnN ad.length c.length i = lnN ad.length c.length 8 := fun e => by rw [e]
  rw [List.length_set, lnN_len, lnN]
  cases hq : ilt (i : Int) 8
  · have hj2 : i = 8 := nlt hq hi
    exact ⟨rfl, rfl, rfl, rfl, rfl, rfl, rfl, ⟨rfl, rfl⟩, ⟨rfl, congrArg Cont.a8 (hfin hj2)⟩, trivial⟩
  · have hj2 : i < 8 := ylt hq
    have e1 : (8 * (i : Int)) = ((8 * i : Nat) : Int) := by omega
    have e2 : (8 + (i : Int)) = ((8 + i : Nat) : Int) := by omega
    rw [e1, e2, ofI_nat (by omega), Int.toNat_natCast]
    have i1 : inI ((8 * i : Nat) : Int) = true := inI_iff.2 (by omega)
    have k1 : i < 16 := by omega
    have k2 : 8 + i < 16 := by omega
    exact bif_of i1 (bif_of (inR_nat k1) (bif_of (blt_of k1) (bif_of (inI_iff.2 (by omega)) (bif_of i1 (bif_of (inR_nat k2) (bif_of (blt_of k2) (bif_of (inI_iff.2 (by omega)) ⟨⟨by omega, by omega⟩, rfl, rfl, rfl, rfl, rfl, rfl, rfl, ⟨rfl, rfl⟩, ⟨rfl, rfl⟩, trivial⟩)))))))
def padN (n : Nat) : Nat := (16 - n % 16) % 16
def pad (x : Tx) : Tx := List.replicate (padN x.length) 0
theorem padZ (n : Nat) : ((16 : Int) - (n : Int).tmod 16).tmod 16 = ((padN n : Nat) : Int) := by
  have e1 : (n : Int).tmod 16 = ((n % 16 : Nat) : Int) := tmod_cast n 16
  have e2 : (16 : Int) - ((n % 16 : Nat) : Int) = ((16 - n % 16 : Nat) : Int) := by omega
  rw [e1, e2]
  exact tmod_cast (16 - n % 16) 16
/-- What the tag is made of. -/
def tgS (ad c : Tx) : Tx := ad ++ pad ad ++ c ++ pad c ++ lnN ad.length c.length 8
def tgD (B : Tx → Tx → BitVec 32 → Tx) (T : Tx → Tx → Tx) (key nonce ad c : Tx) : Tx := T ((B key nonce (BitVec.ofInt 32 0)).take 32) (tgS ad c)
def cTg (W : Tx → Tx → Tx → Tx → Tx) : List SV → List Cont → Option (Bool × SV)
  | [.s key, .s nonce, .s ad, .s c], _ => some ((Nat.beq key.length 32 && Nat.beq nonce.length 12) && (Nat.ble ad.length 1073741824 && Nat.ble c.length 1073741824), .s (W key nonce ad c))
  | _, _ => none
theorem tg_ok : POk Tryd.prog G 34 (cTg (tgD blockR tagD)) := by
  intro args acs r h β M w hR hw ha
  unfold cTg at h
  split at h
  · rename_i key nonce ad c
    simp only [Option.some.injEq, Prod.mk.injEq, Bool.and_eq_true] at h
    obtain ⟨⟨⟨h1, h2⟩, h3, h4⟩, rfl⟩ := h
    have h1 := Nat.eq_of_beq_eq_true h1
    have h2 := Nat.eq_of_beq_eq_true h2
    have h3 := Nat.le_of_ble_eq_true h3
    have h4 := Nat.le_of_ble_eq_true h4
    have hb := blockR_len key nonce (BitVec.ofInt 32 0)
    have hl := lnN_len ad.length c.length 8
    have hp1 : padN ad.length < 16 := by unfold padN; omega
    have hp2 : padN c.length < 16 := by unfold padN; omega
    have e1 : (ad.length : Int).tmod 16 = ((ad.length % 16 : Nat) : Int) := tmod_cast ad.length 16
    have e2 : (c.length : Int).tmod 16 = ((c.length % 16 : Nat) : Int) := tmod_cast c.length 16
    have r1 : List.take (padN ad.length) (List.drop 0 (List.replicate (padN ad.length) (0 : BitVec 8))) = pad ad := by
      rw [List.drop_zero, List.take_of_length_le (by rw [List.length_replicate]; omega)]; rfl
    have r2 : List.take (padN c.length) (List.drop 0 (List.replicate (padN c.length) (0 : BitVec 8))) = pad c := by
      rw [List.drop_zero, List.take_of_length_le (by rw [List.length_replicate]; omega)]; rfl
    have r3 : List.take 16 (List.drop 0 (lnN ad.length c.length 8)) = lnN ad.length c.length 8 := by
      rw [List.drop_zero, List.take_of_length_le (by omega)]
    have q1 : (pad ad).length = padN ad.length := List.length_replicate ..
    have q2 : (pad c).length = padN c.length := List.length_replicate ..
    refine pure0 (vf_ok eb_ok mixed (LT.add_ok (noL_ok _ _ _ _) (loopW key nonce ad c)) (of_eq (vaW blockR tagD key nonce ad c (lnN ad.length c.length 8) _) ?_)) rfl rfl hR
    rw [padZ, padZ, Int.toNat_natCast, Int.toNat_natCast, r1, r2, r3, e1, e2, hl, h1, h2, List.drop_zero]
    unfold tgD tgS
    generalize hB : blockR key nonce (BitVec.ofInt 32 0) = q at hb
    have hq : (List.take 32 q).length = 32 := by rw [List.length_take]; omega
    rw [hb, hq]
    generalize lnN ad.length c.length 8 = ln at hl
    refine ⟨rfl, rfl, rfl, rfl, rfl, rfl, rfl, rfl, ⟨rfl, rfl⟩, ⟨rfl, rfl⟩, ?_⟩
    have z1 : (ile 0 ((padN ad.length : Nat) : Int) && ile ((padN ad.length : Nat) : Int) ((padN ad.length : Nat) : Int) && ile ((padN ad.length : Nat) : Int) 140737488355328) = true := by
      simp only [Bool.and_eq_true, ile_eq, decide_eq_true_eq]
      omega
    have z2 : (ile 0 ((padN c.length : Nat) : Int) && ile ((padN c.length : Nat) : Int) ((padN c.length : Nat) : Int) && ile ((padN c.length : Nat) : Int) 140737488355328) = true := by
      simp only [Bool.and_eq_true, ile_eq, decide_eq_true_eq]
      omega
    refine bif_of rfl (bif_of rfl (bif_of (inI_iff.2 (by omega)) (bif_of z1 (bif_of (decide_eq_true (by rw [List.length_replicate]; omega)) (bif_of ?_ (bif_of ?_ (bif_of (inI_iff.2 (by omega)) (bif_of z2 (bif_of (decide_eq_true (by rw [List.length_replicate]; omega)) (bif_of ?_ (bif_of rfl (bif_of ?_ (bif_of ?_ rfl)))))))))))))
    · rw [ile_eq]; exact decide_eq_true (by omega)
    · rw [ile_eq, List.length_append]; exact decide_eq_true (by omega)
    · rw [ile_eq, List.length_append, List.length_append]; exact decide_eq_true (by omega)
    · rw [ile_eq, List.length_append, List.length_append, List.length_append]; exact decide_eq_true (by omega)
    · rw [Bool.and_eq_true]
      refine ⟨rfl, Nat.ble_eq_true_of_le ?_⟩
      rw [List.length_append, List.length_append, List.length_append, List.length_append]
      omega
  · cases h
end Go.Proofs.YtgjhkfafmmkimaaDoor
namespace Go.Proofs.YtgjhkfafmmkimaaDoor
open Go.RowKit
set_option linter.unusedVariables false
set_option linter.unusedSimpArgs false
set_option maxRecDepth 100000

def ES (U : Tx → Tx → Tx → Tx) (W : Tx → Tx → Tx → Tx → Tx) : Env := ⟨G, (noT.add 33 (cTur U)).add 34 (cTg W), noC⟩
theorem es_ok : EnvOk Tryd.prog (ES (turnD blockR) (tgD blockR tagD)) := ⟨PT.add_ok (PT.add_ok (noT_ok _ _) turned_ok) tg_ok, noC_ok _ _⟩
theorem vaS (U : Tx → Tx → Tx → Tx) (W : Tx → Tx → Tx → Tx → Tx) (key nonce ad s : Tx) (K : SV → Mm → Prop) : (vf Tryd.prog (ES U W) noL 17 [.s key, .s nonce, .s ad, .s s] G K) = (bif ((↑(List.length key) : Int) != (32 : Int)) == false then bif ((↑(List.length key) : Int) != (32 : Int)) == false then bif ((↑(List.length key) : Int) != (32 : Int)) == false then bif bif (↑(List.length key) : Int) != (32 : Int) then true else (↑(List.length nonce) : Int) != (12 : Int) then K (SV.tup [SV.s (bts { data := #[] }), SV.i (2 : Int)]) G else bif ilt (65536 : Int) (↑(List.length ad) : Int) == false then bif ilt (65536 : Int) (↑(List.length ad) : Int) == false then bif ilt (65536 : Int) (↑(List.length ad) : Int) == false then bif bif ilt (65536 : Int) (↑(List.length ad) : Int) then true else ilt (65536 : Int) (↑(List.length s) : Int) then K (SV.tup [SV.s (bts { data := #[] }), SV.i (4 : Int)]) G else bif (List.length key).beq (32 : Nat) && (List.length nonce).beq (12 : Nat) && (List.length s).ble (1099511627776 : Nat) then bif (List.length key).beq (32 : Nat) && (List.length nonce).beq (12 : Nat) && ((List.length ad).ble (1073741824 : Nat) && (List.length (U key nonce s)).ble (1073741824 : Nat)) then bif ile (↑(List.length (U key nonce s) + List.length (W key nonce ad (U key nonce s))) : Int) (9223372036854775807 : Int) then K (SV.tup [SV.s (U key nonce s ++ W key nonce ad (U key nonce s)), SV.i (0 : Int)]) G else False else False else False else bif ilt (65536 : Int) (↑(List.length ad) : Int) then K (SV.tup [SV.s (bts { data := #[] }), SV.i (4 : Int)]) G else False else bif ilt (65536 : Int) (↑(List.length ad) : Int) == false then False else bif ilt (65536 : Int) (↑(List.length ad) : Int) then K (SV.tup [SV.s (bts { data := #[] }), SV.i (4 : Int)]) G else False else bif ilt (65536 : Int) (↑(List.length ad) : Int) == false then False else bif ilt (65536 : Int) (↑(List.length ad) : Int) == false then False else bif ilt (65536 : Int) (↑(List.length ad) : Int) then K (SV.tup [SV.s (bts { data := #[] }), SV.i (4 : Int)]) G else False else bif (↑(List.length key) : Int) != (32 : Int) then K (SV.tup [SV.s (bts { data := #[] }), SV.i (2 : Int)]) G else False else bif ((↑(List.length key) : Int) != (32 : Int)) == false then False else bif (↑(List.length key) : Int) != (32 : Int) then K (SV.tup [SV.s (bts { data := #[] }), SV.i (2 : Int)]) G else False else bif ((↑(List.length key) : Int) != (32 : Int)) == false then False else bif ((↑(List.length key) : Int) != (32 : Int)) == false then False else bif (↑(List.length key) : Int) != (32 : Int) then K (SV.tup [SV.s (bts { data := #[] }), SV.i (2 : Int)]) G else False) := by kernel_rfl
theorem vaO (U : Tx → Tx → Tx → Tx) (W : Tx → Tx → Tx → Tx → Tx) (key nonce ad s : Tx) (K : SV → Mm → Prop) : (vf Tryd.prog (ES U W) noL 19 [.s key, .s nonce, .s ad, .s s] G K) = (bif ((↑(List.length key) : Int) != (32 : Int)) == false then bif ((↑(List.length key) : Int) != (32 : Int)) == false then bif ((↑(List.length key) : Int) != (32 : Int)) == false then bif bif (↑(List.length key) : Int) != (32 : Int) then true else (↑(List.length nonce) : Int) != (12 : Int) then K (SV.tup [SV.s (bts { data := #[] }), SV.i (2 : Int)]) G else bif ilt (65536 : Int) (↑(List.length ad) : Int) == false then bif ilt (65536 : Int) (↑(List.length ad) : Int) == false then bif ilt (65536 : Int) (↑(List.length ad) : Int) == false then bif bif ilt (65536 : Int) (↑(List.length ad) : Int) then true else ilt (65552 : Int) (↑(List.length s) : Int) then K (SV.tup [SV.s (bts { data := #[] }), SV.i (4 : Int)]) G else bif inI ((↑(List.length s) : Int) - (16 : Int)) then bif ilt ((↑(List.length s) : Int) - (16 : Int)) (0 : Int) then K (SV.tup [SV.s (bts { data := #[] }), SV.i (130 : Int)]) [{ rw := false, c := Cont.ints MX }] else bif ile (↑(0 : Nat) : Int) ((↑(List.length s) : Int) - (16 : Int)) && ile ((↑(List.length s) : Int) - (16 : Int)) (↑(List.length s) : Int) then bif (List.length key).beq (32 : Nat) && (List.length nonce).beq (12 : Nat) && ((List.length ad).ble (1073741824 : Nat) && (List.drop (0 : Nat) (List.take ((↑(List.length s) : Int) - (16 : Int)).toNat s)).length.ble (1073741824 : Nat)) then bif ile (0 : Int) ((↑(List.length s) : Int) - (16 : Int)) && ile ((↑(List.length s) : Int) - (16 : Int)) (↑(List.length s) : Int) && ile (↑(List.length s) : Int) (↑(List.length s) : Int) then bif bif false then true else !W key nonce ad (List.drop (0 : Nat) (List.take ((↑(List.length s) : Int) - (16 : Int)).toNat s)) == List.drop ((↑(List.length s) : Int) - (16 : Int)).toNat (List.take (List.length s) s) then K (SV.tup [SV.s (bts { data := #[] }), SV.i (130 : Int)]) [{ rw := false, c := Cont.ints MX }] else bif ile (↑(0 : Nat) : Int) ((↑(List.length s) : Int) - (16 : Int)) && ile ((↑(List.length s) : Int) - (16 : Int)) (↑(List.length s) : Int) then bif (List.length key).beq (32 : Nat) && (List.length nonce).beq (12 : Nat) && (List.drop (0 : Nat) (List.take ((↑(List.length s) : Int) - (16 : Int)).toNat s)).length.ble (1099511627776 : Nat) then K (SV.tup [SV.s (U key nonce (List.drop (0 : Nat) (List.take ((↑(List.length s) : Int) - (16 : Int)).toNat s))), SV.i (0 : Int)]) [{ rw := false, c := Cont.ints MX }] else False else False else False else False else False else False else bif ilt (65536 : Int) (↑(List.length ad) : Int) then K (SV.tup [SV.s (bts { data := #[] }), SV.i (4 : Int)]) G else False else bif ilt (65536 : Int) (↑(List.length ad) : Int) == false then False else bif ilt (65536 : Int) (↑(List.length ad) : Int) then K (SV.tup [SV.s (bts { data := #[] }), SV.i (4 : Int)]) G else False else bif ilt (65536 : Int) (↑(List.length ad) : Int) == false then False else bif ilt (65536 : Int) (↑(List.length ad) : Int) == false then False else bif ilt (65536 : Int) (↑(List.length ad) : Int) then K (SV.tup [SV.s (bts { data := #[] }), SV.i (4 : Int)]) G else False else bif (↑(List.length key) : Int) != (32 : Int) then K (SV.tup [SV.s (bts { data := #[] }), SV.i (2 : Int)]) G else False else bif ((↑(List.length key) : Int) != (32 : Int)) == false then False else bif (↑(List.length key) : Int) != (32 : Int) then K (SV.tup [SV.s (bts { data := #[] }), SV.i (2 : Int)]) G else False else bif ((↑(List.length key) : Int) != (32 : Int)) == false then False else bif ((↑(List.length key) : Int) != (32 : Int)) == false then False else bif (↑(List.length key) : Int) != (32 : Int) then K (SV.tup [SV.s (bts { data := #[] }), SV.i (2 : Int)]) G else False) := by kernel_rfl
theorem tgD_len (key nonce ad c : Tx) : (tgD blockR tagD key nonce ad c).length = 16 := lowD_len ..
/-- What Seal answers: the error, and the text. -/
def slE (key nonce ad s : Tx) : Int := if key.length = 32 ∧ nonce.length = 12 then (if 65536 < ad.length ∨ 65536 < s.length then 4 else 0) else 2
def slS (U : Tx → Tx → Tx → Tx) (W : Tx → Tx → Tx → Tx → Tx) (key nonce ad s : Tx) : Tx := if slE key nonce ad s = 0 then U key nonce s ++ W key nonce ad (U key nonce s) else []
def cSeal (S : Tx → Tx → Tx → Tx → Tx) (F : Tx → Tx → Tx → Tx → Int) : List SV → List Cont → Option (Bool × SV)
  | [.s key, .s nonce, .s ad, .s s], _ => some (true, .tup [.s (S key nonce ad s), .i (F key nonce ad s)])
  | _, _ => none
theorem intne_t {n m : Nat} (h : n ≠ m) : ((n : Int) != (m : Int)) = true := bne_iff_ne.2 (by omega)
theorem intne_f {n m : Nat} (h : n = m) : ((n : Int) != (m : Int)) = false := by rw [h]; exact bne_self_eq_false (m : Int)
theorem ilt_t {n m : Nat} (h : n < m) : ilt (n : Int) (m : Int) = true := by rw [ilt_eq]; exact decide_eq_true (by omega)
theorem ilt_f {n m : Nat} (h : ¬ n < m) : ilt (n : Int) (m : Int) = false := by rw [ilt_eq]; exact decide_eq_false (by omega)
theorem seal_ok : POk Tryd.prog G 17 (cSeal (slS (turnD blockR) (tgD blockR tagD)) slE) := by
  intro args acs r h β M w hR hw ha
  unfold cSeal at h
  split at h
  · rename_i key nonce ad s
    simp only [Option.some.injEq, Prod.mk.injEq, true_and] at h
    subst h
    have tf : (true == false) = false := rfl
    have ff : (false == false) = true := rfl
    refine pure0 (vf_ok es_ok mixed (noL_ok _ _ _ _) (of_eq (vaS (turnD blockR) (tgD blockR tagD) key nonce ad s _) ?_)) rfl rfl hR
    by_cases h1 : key.length = 32
    · have e1 : ((key.length : Int) != 32) = false := intne_f h1
      by_cases h2 : nonce.length = 12
      · have e2 : ((nonce.length : Int) != 12) = false := intne_f h2
        by_cases h3 : 65536 < ad.length
        · have e3 : ilt 65536 (ad.length : Int) = true := ilt_t h3
          have eE : slE key nonce ad s = 4 := by unfold slE; rw [if_pos ⟨h1, h2⟩, if_pos (.inl h3)]
          have eS : slS (turnD blockR) (tgD blockR tagD) key nonce ad s = [] := by unfold slS; rw [eE]; exact if_neg (by decide)
          rw [eE, eS]
          simp only [e1, e2, e3, tf, ff, cond_true, cond_false]
          rfl
        · have e3 : ilt 65536 (ad.length : Int) = false := ilt_f h3
          by_cases h4 : 65536 < s.length
          · have e4 : ilt 65536 (s.length : Int) = true := ilt_t h4
            have eE : slE key nonce ad s = 4 := by unfold slE; rw [if_pos ⟨h1, h2⟩, if_pos (.inr h4)]
            have eS : slS (turnD blockR) (tgD blockR tagD) key nonce ad s = [] := by unfold slS; rw [eE]; exact if_neg (by decide)
            rw [eE, eS]
            simp only [e1, e2, e3, e4, tf, ff, cond_true, cond_false]
            rfl
          · have e4 : ilt 65536 (s.length : Int) = false := ilt_f h4
            have eE : slE key nonce ad s = 0 := by unfold slE; rw [if_pos ⟨h1, h2⟩, if_neg (by omega)]
            have eS : slS (turnD blockR) (tgD blockR tagD) key nonce ad s = turnD blockR key nonce s ++ tgD blockR tagD key nonce ad (turnD blockR key nonce s) := by unfold slS; rw [eE]; exact if_pos rfl
            have b1 : Nat.ble s.length 1099511627776 = true := Nat.ble_eq_true_of_le (by omega)
            have b2 : Nat.ble s.length 1073741824 = true := Nat.ble_eq_true_of_le (by omega)
            have b3 : Nat.ble ad.length 1073741824 = true := Nat.ble_eq_true_of_le (by omega)
            have b4 : ile ((s.length + 16 : Nat) : Int) 9223372036854775807 = true := by rw [ile_eq]; exact decide_eq_true (by omega)
            have c1 : Nat.beq 32 32 = true := rfl
            have c2 : Nat.beq 12 12 = true := rfl
            rw [eE, eS]
            simp only [e1, e2, e3, e4, tf, ff, cond_true, cond_false, turnD_len, tgD_len, h1, h2, b1, b2, b3, b4, c1, c2, Bool.and_self]
            exact True.intro
      · have e2 : ((nonce.length : Int) != 12) = true := intne_t h2
        have eE : slE key nonce ad s = 2 := by unfold slE; exact if_neg (fun z => h2 z.2)
        have eS : slS (turnD blockR) (tgD blockR tagD) key nonce ad s = [] := by unfold slS; rw [eE]; exact if_neg (by decide)
        rw [eE, eS]
        simp only [e1, e2, tf, ff, cond_true, cond_false]
        rfl
    · have e1 : ((key.length : Int) != 32) = true := intne_t h1
      have eE : slE key nonce ad s = 2 := by unfold slE; exact if_neg (fun z => h1 z.1)
      have eS : slS (turnD blockR) (tgD blockR tagD) key nonce ad s = [] := by unfold slS; rw [eE]; exact if_neg (by decide)
      rw [eE, eS]
      simp only [e1, tf, ff, cond_true, cond_false]
      rfl
  · cases h
/-- What Open answers. -/
def opE (W : Tx → Tx → Tx → Tx → Tx) (key nonce ad s : Tx) : Int := if key.length = 32 ∧ nonce.length = 12 then (if 65536 < ad.length ∨ 65552 < s.length then 4 else if s.length < 16 ∨ W key nonce ad (s.take (s.length - 16)) ≠ s.drop (s.length - 16) then 130 else 0) else 2
def opS (U : Tx → Tx → Tx → Tx) (W : Tx → Tx → Tx → Tx → Tx) (key nonce ad s : Tx) : Tx := if opE W key nonce ad s = 0 then U key nonce (s.take (s.length - 16)) else []
theorem open_ok : POk Tryd.prog G 19 (cSeal (opS (turnD blockR) (tgD blockR tagD)) (opE (tgD blockR tagD))) := by
  intro args acs r h β M w hR hw ha
  unfold cSeal at h
  split at h
  · rename_i key nonce ad s
    simp only [Option.some.injEq, Prod.mk.injEq, true_and] at h
    subst h
    have tf : (true == false) = false := rfl
    have ff : (false == false) = true := rfl
    refine pure0 (vf_ok es_ok mixed (noL_ok _ _ _ _) (of_eq (vaO (turnD blockR) (tgD blockR tagD) key nonce ad s _) ?_)) rfl rfl hR
    have nil : ∀ z : Int, z ≠ 0 → opE (tgD blockR tagD) key nonce ad s = z → opS (turnD blockR) (tgD blockR tagD) key nonce ad s = [] := fun z hz e => by unfold opS; rw [e]; exact if_neg hz
    by_cases h1 : key.length = 32
    · have e1 : ((key.length : Int) != 32) = false := intne_f h1
      by_cases h2 : nonce.length = 12
      · have e2 : ((nonce.length : Int) != 12) = false := intne_f h2
        by_cases h3 : 65536 < ad.length
        · have e3 : ilt 65536 (ad.length : Int) = true := ilt_t h3
          have eE : opE (tgD blockR tagD) key nonce ad s = 4 := by unfold opE; rw [if_pos ⟨h1, h2⟩, if_pos (.inl h3)]
          rw [nil 4 (by decide) eE, eE]
          simp only [e1, e2, e3, tf, ff, cond_true, cond_false]
          rfl
        · have e3 : ilt 65536 (ad.length : Int) = false := ilt_f h3
          by_cases h4 : 65552 < s.length
          · have e4 : ilt 65552 (s.length : Int) = true := ilt_t h4
            have eE : opE (tgD blockR tagD) key nonce ad s = 4 := by unfold opE; rw [if_pos ⟨h1, h2⟩, if_pos (.inr h4)]
            rw [nil 4 (by decide) eE, eE]
            simp only [e1, e2, e3, e4, tf, ff, cond_true, cond_false]
            rfl
          · have e4 : ilt 65552 (s.length : Int) = false := ilt_f h4
            have i1 : inI ((s.length : Int) - 16) = true := inI_iff.2 (by omega)
            by_cases h5 : s.length < 16
            · have e5 : ilt ((s.length : Int) - 16) 0 = true := by rw [ilt_eq]; exact decide_eq_true (by omega)
              have eE : opE (tgD blockR tagD) key nonce ad s = 130 := by unfold opE; rw [if_pos ⟨h1, h2⟩, if_neg (by omega), if_pos (.inl h5)]
              rw [nil 130 (by decide) eE, eE]
              simp only [e1, e2, e3, e4, e5, i1, tf, ff, cond_true, cond_false]
              rfl
            · have e5 : ilt ((s.length : Int) - 16) 0 = false := by rw [ilt_eq]; exact decide_eq_false (by omega)
              have en : ((s.length : Int) - 16).toNat = s.length - 16 := by omega
              have el : (s.take (s.length - 16)).length = s.length - 16 := by rw [List.length_take]; omega
              have b1 : Nat.ble (s.length - 16) 1099511627776 = true := Nat.ble_eq_true_of_le (by omega)
              have b2 : Nat.ble (s.length - 16) 1073741824 = true := Nat.ble_eq_true_of_le (by omega)
              have b3 : Nat.ble ad.length 1073741824 = true := Nat.ble_eq_true_of_le (by omega)
              have c1 : Nat.beq 32 32 = true := rfl
              have c2 : Nat.beq 12 12 = true := rfl
              have z0 : ile ((0 : Nat) : Int) ((s.length : Int) - 16) = true := by rw [ile_eq]; exact decide_eq_true (by omega)
              have z1 : ile 0 ((s.length : Int) - 16) = true := z0
              have z2 : ile ((s.length : Int) - 16) (s.length : Int) = true := by rw [ile_eq]; exact decide_eq_true (by omega)
              have z3 : ile (s.length : Int) (s.length : Int) = true := by rw [ile_eq]; exact decide_eq_true (by omega)
              by_cases h6 : tgD blockR tagD key nonce ad (s.take (s.length - 16)) = s.drop (s.length - 16)
              · have e6 : (tgD blockR tagD key nonce ad (s.take (s.length - 16)) == s.drop (s.length - 16)) = true := beq_iff_eq.2 h6
                have eE : opE (tgD blockR tagD) key nonce ad s = 0 := by unfold opE; rw [if_pos ⟨h1, h2⟩, if_neg (by omega), if_neg (fun z => z.elim h5 (fun q => q h6))]
                have eS : opS (turnD blockR) (tgD blockR tagD) key nonce ad s = turnD blockR key nonce (s.take (s.length - 16)) := by unfold opS; rw [eE]; exact if_pos rfl
                rw [eE, eS]
                simp only [e1, e2, e3, e4, e5, i1, tf, ff, cond_true, cond_false, en, List.drop_zero, List.take_length, el, h1, h2, b1, b2, b3, c1, c2, z0, z1, z2, z3, e6, Bool.and_self, Bool.not_true]
                exact True.intro
              · have e6 : (tgD blockR tagD key nonce ad (s.take (s.length - 16)) == s.drop (s.length - 16)) = false := beq_eq_false_iff_ne.2 h6
                have eE : opE (tgD blockR tagD) key nonce ad s = 130 := by unfold opE; rw [if_pos ⟨h1, h2⟩, if_neg (by omega), if_pos (.inr h6)]
                rw [nil 130 (by decide) eE, eE]
                simp only [e1, e2, e3, e4, e5, i1, tf, ff, cond_true, cond_false, en, List.drop_zero, List.take_length, el, h1, h2, b1, b2, b3, c1, c2, z0, z1, z2, z3, e6, Bool.and_self, Bool.not_false]
                rfl
      · have e2 : ((nonce.length : Int) != 12) = true := intne_t h2
        have eE : opE (tgD blockR tagD) key nonce ad s = 2 := by unfold opE; exact if_neg (fun z => h2 z.2)
        rw [nil 2 (by decide) eE, eE]
        simp only [e1, e2, tf, ff, cond_true, cond_false]
        rfl
    · have e1 : ((key.length : Int) != 32) = true := intne_t h1
      have eE : opE (tgD blockR tagD) key nonce ad s = 2 := by unfold opE; exact if_neg (fun z => h1 z.1)
      rw [nil 2 (by decide) eE, eE]
      simp only [e1, tf, ff, cond_true, cond_false]
      rfl
  · cases h
end Go.Proofs.YtgjhkfafmmkimaaDoor
