/-
  ip: bytes that are read. No statement is proved here.
-/
import Derived.Test.YtggoncamiafclaaIpD
namespace Go.Proofs.Ytggoncamiafclaa
open Go.RowKit
set_option linter.unusedVariables false
set_option linter.unusedSimpArgs false
set_option maxRecDepth 100000

def hdn (l : Tx) : Int := 4 * (((List.getD l 0 0 &&& BitVec.ofInt 8 15).toNat : Nat) : Int)
def szn (l : Tx) : Nat := (nmX (List.drop 2 (List.take 4 l))).toNat
def mkn (l : Tx) : BitVec 16 := BitVec.setWidth 16 (nmX (List.drop 6 (List.take 8 l)))
def badF (l : Tx) : Bool := bif (List.getD l 0 0) >>> 4 != BitVec.ofInt 8 4 then true else bif ilt (hdn l) 20 then true else bif ilt (szn l : Int) (hdn l) then true else mkn l &&& BitVec.ofInt 16 32768 != BitVec.ofInt 16 0
def deE (l : Tx) : Int := bif ilt (l.length : Int) 20 then 7 else bif badF l then 8 else bif ilt (l.length : Int) (szn l : Int) then 7 else bif sumX (List.drop 0 (List.take (hdn l).toNat l)) != BitVec.ofInt 16 0 then 180 else 0
def okD (l : Tx) : Bool := deE l == 0
def dS (l : Tx) : BitVec 32 := bif okD l then nmX (List.drop 12 (List.take 16 l)) else 0
def dD (l : Tx) : BitVec 32 := bif okD l then nmX (List.drop 16 (List.take 20 l)) else 0
def dP (l : Tx) : BitVec 8 := bif okD l then List.getD l 9 0 else 0
def dT (l : Tx) : BitVec 8 := bif okD l then List.getD l 8 0 else 0
def dI (l : Tx) : BitVec 16 := bif okD l then BitVec.setWidth 16 (nmX (List.drop 4 (List.take 6 l))) else 0
def dSt (l : Tx) : Bool := bif okD l then mkn l &&& BitVec.ofInt 16 16384 != BitVec.ofInt 16 0 else false
def dMo (l : Tx) : Bool := bif okD l then mkn l &&& BitVec.ofInt 16 8192 != BitVec.ofInt 16 0 else false
def dO (l : Tx) : BitVec 16 := bif okD l then mkn l % BitVec.ofInt 16 8192 else 0
def dL (l : Tx) : Tx := bif okD l then List.drop (hdn l).toNat (List.take (szn l) l) else []
abbrev dPk (l : Tx) : SV := pkt (dS l) (dD l) (dP l) (dT l) (dI l) (dSt l) (dMo l) (dO l) (dL l)
theorem de_bad {l : Tx} {e : Int} (h : deE l = e) (he : (e == 0) = false) : (SV.tup [pkt 0 0 0 0 0 false false 0 [], .i e]) = .tup [dPk l, .i (deE l)] := by
  have ho : okD l = false := by unfold okD; rw [h]; exact he
  unfold dPk dS dD dP dT dI dSt dMo dO dL
  rw [ho, h]; rfl
def cDe : List SV → List Cont → Option (Bool × SV)
  | [.s l], _ => some (Nat.ble l.length 4294967296, .tup [dPk l, .i (deE l)])
  | _, _ => none
theorem tk_len (l : Tx) (a b : Nat) : (List.drop a (List.take b l)).length ≤ b - a := by simp; omega
theorem decode_ok : POk Try.prog G 12 cDe := by
  intro args acs r hh β M w hR hw ha
  unfold cDe at hh
  split at hh
  · rename_i l
    simp only [Option.some.injEq, Prod.mk.injEq] at hh
    obtain ⟨hl, rfl⟩ := hh
    have hl := Nat.le_of_ble_eq_true hl
    refine pokE (E := EPt) rfl ep_ok (noL_ok _ _ _ _) (v12 t2 (t4 t2) sumX nmX l _) ?_ rfl rfl hR
    have h15 : (List.getD l 0 0 &&& BitVec.ofInt 8 15).toNat ≤ 255 := by have := (List.getD l 0 0 &&& BitVec.ofInt 8 15).isLt; omega
    cases h0 : ilt (l.length : Int) 20
    · have h20 := of_decide_eq_false ((ilt_eq _ _).symm.trans h0)
      have bad : badF l = true → SV.tup [pkt 0 0 0 0 0 false false 0 [], .i 8] = SV.tup [dPk l, .i (deE l)] := fun hb => de_bad (by unfold deE; rw [h0, hb]; rfl) rfl
      refine bif_of (inR_iff.2 ⟨by omega, by omega⟩) (bif_of (inI_iff.2 (by omega)) (bif_of (ile_of (by omega)) (bif_of (ble_of (Nat.le_trans (tk_len ..) (by omega))) (bif_of (ile_of (by omega)) (bif_of (ble_of (Nat.le_trans (tk_len ..) (by omega))) (bif_of (inR_iff.2 ⟨by omega, by omega⟩) ?_))))))
      cases h1 : (List.getD l 0 0) >>> 4 != BitVec.ofInt 8 4
      · cases h2 : ilt (hdn l) 20
        · have h2' : ilt (4 * (((List.getD l 0 0 &&& BitVec.ofInt 8 15).toNat : Nat) : Int)) 20 = false := h2
          rw [h2']
          cases h3 : ilt (szn l : Int) (hdn l)
          · have h3' : ilt (((nmX (List.drop 2 (List.take 4 l))).toNat : Nat) : Int) (4 * (((List.getD l 0 0 &&& BitVec.ofInt 8 15).toNat : Nat) : Int)) = false := h3
            rw [h3']
            cases h4 : mkn l &&& BitVec.ofInt 16 32768 != BitVec.ofInt 16 0
            · have h4' : (BitVec.setWidth 16 (nmX (List.drop 6 (List.take 8 l))) &&& BitVec.ofInt 16 32768 != BitVec.ofInt 16 0) = false := h4
              rw [h4']
              have hb : badF l = false := by unfold badF; rw [h1, h2, h3, h4]; rfl
              cases h5 : ilt (l.length : Int) (szn l : Int)
              · have h5' : ilt (l.length : Int) (((nmX (List.drop 2 (List.take 4 l))).toNat : Nat) : Int) = false := h5
                rw [h5']
                have g3 := of_decide_eq_false ((ilt_eq _ _).symm.trans h3')
                have g5 := of_decide_eq_false ((ilt_eq _ _).symm.trans h5')
                refine bif_of (ile_of (by omega)) (bif_of (ble_of (by simp only [List.length_drop, List.length_take]; omega)) ?_)
                cases h6 : sumX (List.drop 0 (List.take (hdn l).toNat l)) != BitVec.ofInt 16 0
                · have h6' : (sumX (List.drop 0 (List.take (4 * (((List.getD l 0 0 &&& BitVec.ofInt 8 15).toNat : Nat) : Int)).toNat l)) != BitVec.ofInt 16 0) = false := h6
                  rw [h6']
                  have he : deE l = 0 := by unfold deE; rw [h0, hb, h5, h6]; rfl
                  have ho : okD l = true := by unfold okD; rw [he]; rfl
                  refine bif_of (ile_of (by omega)) (bif_of (ble_of (Nat.le_trans (tk_len ..) (by omega))) (bif_of (ile_of (by omega)) (bif_of (ble_of (Nat.le_trans (tk_len ..) (by omega))) (bif_of (inR_iff.2 ⟨by omega, by omega⟩) (bif_of (inR_iff.2 ⟨by omega, by omega⟩) (bif_of (ile_of (by omega)) (bif_of (ble_of (Nat.le_trans (tk_len ..) (by omega))) (bif_of (and_t (ile_of (by omega)) (ile_of (by omega))) (bif_of (ble_of (by simp only [List.length_drop, List.length_take]; omega)) ?_)))))))))
                  unfold dPk dS dD dP dT dI dSt dMo dO dL
                  rw [ho, he]; rfl
                · have h6' : (sumX (List.drop 0 (List.take (4 * (((List.getD l 0 0 &&& BitVec.ofInt 8 15).toNat : Nat) : Int)).toNat l)) != BitVec.ofInt 16 0) = true := h6
                  rw [h6']
                  exact de_bad (by unfold deE; rw [h0, hb, h5, h6]; rfl) rfl
              · have h5' : ilt (l.length : Int) (((nmX (List.drop 2 (List.take 4 l))).toNat : Nat) : Int) = true := h5
                rw [h5']
                exact de_bad (by unfold deE; rw [h0, hb, h5]; rfl) rfl
            · have h4' : (BitVec.setWidth 16 (nmX (List.drop 6 (List.take 8 l))) &&& BitVec.ofInt 16 32768 != BitVec.ofInt 16 0) = true := h4
              rw [h4']
              exact bad (by unfold badF; rw [h1, h2, h3, h4]; rfl)
          · have h3' : ilt (((nmX (List.drop 2 (List.take 4 l))).toNat : Nat) : Int) (4 * (((List.getD l 0 0 &&& BitVec.ofInt 8 15).toNat : Nat) : Int)) = true := h3
            rw [h3']
            exact bad (by unfold badF; rw [h1, h2, h3]; rfl)
        · have h2' : ilt (4 * (((List.getD l 0 0 &&& BitVec.ofInt 8 15).toNat : Nat) : Int)) 20 = true := h2
          rw [h2']
          exact bad (by unfold badF; rw [h1, h2]; rfl)
      · exact bad (by unfold badF; rw [h1]; rfl)
    · exact de_bad (by unfold deE; rw [h0]; rfl) rfl
  · cases hh
theorem v64 (x : BitVec 32) : (x.setWidth 64).toInt = ((x.toNat : Nat) : Int) := by
  have := x.isLt
  rw [BitVec.toInt_eq_toNat_cond, BitVec.toNat_setWidth]
  split <;> omega
theorem v32' (x : BitVec 32) : (x.setWidth 64).setWidth 32 = x := by
  apply BitVec.eq_of_toNat_eq; simp only [BitVec.toNat_setWidth]; omega
theorem v16' (x : BitVec 32) : (x.setWidth 64).setWidth 16 = x.setWidth 16 := by
  apply BitVec.eq_of_toNat_eq; simp only [BitVec.toNat_setWidth]; omega
theorem and64 (x : BitVec 32) (c : Nat) (hc : c < 65536) : ((x.setWidth 64) &&& BitVec.ofInt 64 (c : Int)) = ((x.setWidth 16) &&& BitVec.ofInt 16 (c : Int)).setWidth 64 := by
  have e1 : (BitVec.ofInt 64 (c : Int)).toNat = c := by rw [BitVec.toNat_ofInt]; omega
  have e2 : (BitVec.ofInt 16 (c : Int)).toNat = c := by rw [BitVec.toNat_ofInt]; omega
  apply BitVec.eq_of_toNat_eq
  simp only [BitVec.toNat_and, BitVec.toNat_setWidth, e1, e2]
  have h1 : x.toNat % 2 ^ 64 &&& c = x.toNat &&& c := by rw [Nat.mod_eq_of_lt (by omega)]
  have h2 : c % 2 ^ 16 = c := Nat.mod_eq_of_lt hc
  have h3 : (x.toNat &&& c) % 2 ^ 16 = (x.toNat % 2 ^ 16) &&& (c % 2 ^ 16) := Nat.and_mod_two_pow
  have h4 : (x.toNat &&& c) < 2 ^ 16 := Nat.lt_of_le_of_lt Nat.and_le_right hc
  rw [h1]
  rw [h2, Nat.mod_eq_of_lt h4] at h3
  rw [h3, ← h3, Nat.mod_eq_of_lt (by omega)]
theorem ne64 (y : BitVec 16) : (y.setWidth 64 != BitVec.ofInt 64 0) = (y != BitVec.ofInt 16 0) := by
  have e : (y.setWidth 64 == BitVec.ofInt 64 0) = (y == BitVec.ofInt 16 0) := by
    rw [Bool.eq_iff_iff, beq_iff_eq, beq_iff_eq]
    have a1 : (BitVec.ofInt 64 0).toNat = 0 := rfl
    have a2 : (BitVec.ofInt 16 0).toNat = 0 := rfl
    constructor
    · intro h
      have := congrArg BitVec.toNat h
      rw [BitVec.toNat_setWidth, a1] at this
      apply BitVec.eq_of_toNat_eq
      omega
    · intro h; rw [h]; rfl
  unfold bne; rw [e]
theorem and_pow (x k : Nat) : (x &&& 2 ^ k) = if x.testBit k then 2 ^ k else 0 := by
  apply Nat.eq_of_testBit_eq
  intro i
  rw [Nat.testBit_and, Nat.testBit_two_pow]
  by_cases h : k = i
  · subst h
    cases hx : x.testBit k
    · simp
    · simp [Nat.testBit_two_pow]
  · cases hx : x.testBit k
    · simp [h]
    · simp [h, Nat.testBit_two_pow]
theorem ge64 (x : BitVec 32) (h : x.toNat < 65536) : (BitVec.ofInt 64 32768).ule (x.setWidth 64) = (x.setWidth 16 &&& BitVec.ofInt 16 32768 != BitVec.ofInt 16 0) := by
  have e1 : (BitVec.ofInt 64 32768).toNat = 32768 := rfl
  have e2 : (BitVec.ofInt 16 32768).toNat = 32768 := rfl
  have e3 : (BitVec.ofInt 16 0).toNat = 0 := rfl
  have hx : (x.setWidth 16).toNat = x.toNat := by rw [BitVec.toNat_setWidth]; omega
  have h4 : (x.toNat &&& 32768) = if 32768 ≤ x.toNat then 32768 else 0 := by
    have t : (x.toNat &&& 32768) = if x.toNat.testBit 15 then 32768 else 0 := and_pow x.toNat 15
    have t2 : x.toNat.testBit 15 = decide (32768 ≤ x.toNat) := by
      rw [Nat.testBit_eq_decide_div_mod_eq, decide_eq_decide]
      omega
    rw [t, t2]
    by_cases q : 32768 ≤ x.toNat
    · rw [decide_eq_true q, if_pos q]; rfl
    · rw [decide_eq_false q, if_neg q]; rfl
  unfold BitVec.ule
  rw [e1, BitVec.toNat_setWidth, Nat.mod_eq_of_lt (by omega)]
  by_cases q : 32768 ≤ x.toNat
  · rw [decide_eq_true q]
    symm
    rw [bne_iff_ne]
    intro hh
    have := congrArg BitVec.toNat hh
    rw [BitVec.toNat_and, hx, e2, e3, h4, if_pos q] at this
    cases this
  · rw [decide_eq_false q]
    symm
    have : (x.setWidth 16 &&& BitVec.ofInt 16 32768) = BitVec.ofInt 16 0 := by
      apply BitVec.eq_of_toNat_eq
      rw [BitVec.toNat_and, hx, e2, e3, h4, if_neg q]
    rw [this]; rfl
end Go.Proofs.Ytggoncamiafclaa
