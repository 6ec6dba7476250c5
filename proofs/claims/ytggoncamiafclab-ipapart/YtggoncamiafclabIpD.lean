/-
  ip: packets and their bytes: the program's answers and the document's are the same. No statement is proved here.
-/
import Derived.Test.YtggoncamiafclabIpC
namespace Go.Proofs.Ytggoncamiafclab
open Go.RowKit
set_option linter.unusedVariables false
set_option linter.unusedSimpArgs false
set_option maxRecDepth 100000

-- the sum, taken two by two
theorem t2_len (x : BitVec 16) : (t2 x).length = 2 := rfl
theorem t4_len (x : BitVec 32) : (t4 t2 x).length = 4 := rfl
-- numbers of two bytes and of four
-- a packet's bytes
def hdT (s d : BitVec 32) (p t : BitVec 8) (i m : BitVec 16) (n : BitVec 16) : Tx := [BitVec.ofInt 8 69, BitVec.ofInt 8 0] ++ t2 n ++ t2 i ++ t2 m ++ [t, p]
def enT (s d : BitVec 32) : Tx := t4 t2 s ++ t4 t2 d
def byT (s d : BitVec 32) (p t : BitVec 8) (i m : BitVec 16) (l : Tx) : Tx := hdT s d p t i m (BitVec.ofInt 16 (20 + (l.length : Int))) ++ t2 (sumX (hdT s d p t i m (BitVec.ofInt 16 (20 + (l.length : Int))) ++ enT s d)) ++ enT s d ++ l
abbrev EPt : Env := EP t2 (t4 t2) sumX nmX
theorem ep_ok : EnvOk Try.prog EPt := { T := PT.add_ok (PT.add_ok (PT.add_ok (PT.add_ok (PT.add_ok (PT.add_ok (PT.add_ok t0_ok two_ok) four_ok) sum_ok) marks_ok) number_ok) clone_ok) isPiece_ok, C := noC_ok _ _ }
def cBy : List SV → List Cont → Option (Bool × SV)
  | [.agg [.w32 s, .w32 d, .w8 p, .w8 t, .w16 i, .b st, .b mo, .w16 o, .s l]], _ => some (Nat.ble l.length 4294900000, .s (byT s d p t i (mkS st mo o) l))
  | _, _ => none
theorem bytesOf_ok : POk Try.prog G 17 cBy := by
  intro args acs r hh β M w hR hw ha
  unfold cBy at hh
  split at hh
  · rename_i s d p t i st mo o l
    simp only [Option.some.injEq, Prod.mk.injEq] at hh
    obtain ⟨hl, rfl⟩ := hh
    have hl := Nat.le_of_ble_eq_true hl
    refine pokE (E := EPt) rfl ep_ok (noL_ok _ _ _ _) (v26 t2 (t4 t2) sumX nmX s d p t i st mo o l _) ?_ rfl rfl hR
    repeat refine bif_of (by first | exact inI_iff.2 (by (try simp only [List.length_append, List.length_cons, List.length_nil, t2_len, t4_len, List.drop_zero, List.take_succ_cons, List.take_zero]); omega) | exact ile_of (by (try simp only [List.length_append, List.length_cons, List.length_nil, t2_len, t4_len, List.drop_zero, List.take_succ_cons, List.take_zero]); omega) | exact ble_of (by (try simp only [List.length_append, List.length_cons, List.length_nil, t2_len, t4_len, List.drop_zero, List.take_succ_cons, List.take_zero]); omega) | exact inR_iff.2 (by (try simp only [List.length_append, List.length_cons, List.length_nil, t2_len, t4_len, List.drop_zero, List.take_succ_cons, List.take_zero]); omega) | exact and_t (ile_of (by (try simp only [List.length_append, List.length_cons, List.length_nil, t2_len, t4_len, List.drop_zero, List.take_succ_cons, List.take_zero]); omega)) (ile_of (by (try simp only [List.length_append, List.length_cons, List.length_nil, t2_len, t4_len, List.drop_zero, List.take_succ_cons, List.take_zero]); omega))) ?_
    rfl
  · cases hh
-- Encode
def enE (o : BitVec 16) (l : Tx) : Int := bif (BitVec.ofInt 16 8192).ule o then 2 else bif ilt 1480 (l.length : Int) then 4 else 0
def enR (s d : BitVec 32) (p t : BitVec 8) (i : BitVec 16) (st mo : Bool) (o : BitVec 16) (l : Tx) : Tx := bif (BitVec.ofInt 16 8192).ule o then [] else bif ilt 1480 (l.length : Int) then [] else byT s d p t i (mkS st mo o) l
def cEn : List SV → List Cont → Option (Bool × SV)
  | [.agg [.w32 s, .w32 d, .w8 p, .w8 t, .w16 i, .b st, .b mo, .w16 o, .s l]], _ => some (Nat.ble l.length 4294900000, .tup [.s (enR s d p t i st mo o l), .i (enE o l)])
  | _, _ => none
def EQ : Env := { G := G, T := EPt.T.add 17 cBy, C := noC }
theorem eq_ok' : EnvOk Try.prog EQ := { T := PT.add_ok ep_ok.T bytesOf_ok, C := noC_ok _ _ }
theorem v10 (s d : BitVec 32) (p t : BitVec 8) (i : BitVec 16) (st mo : Bool) (o : BitVec 16) (l : Tx) (K : SV → Prop) : (vf Try.prog EQ noL 8 [pkt s d p t i st mo o l] G (fun r _ => K r)) = (bif (BitVec.ofInt 16 8192).ule o then K (SV.tup [SV.s (bts { data := #[] }), SV.i 2]) else bif ilt 1480 (↑(List.length l) : Int) then K (SV.tup [SV.s (bts { data := #[] }), SV.i 4]) else bif (List.length l).ble 4294900000 then K (SV.tup [SV.s (byT s d p t i (mkS st mo o) l), SV.i 0]) else False) := by kernel_rfl
theorem encode_ok : POk Try.prog G 8 cEn := by
  intro args acs r hh β M w hR hw ha
  unfold cEn at hh
  split at hh
  · rename_i s d p t i st mo o l
    simp only [Option.some.injEq, Prod.mk.injEq] at hh
    obtain ⟨hl, rfl⟩ := hh
    refine pokE (E := EQ) rfl eq_ok' (noL_ok _ _ _ _) (v10 s d p t i st mo o l _) ?_ rfl rfl hR
    unfold enR enE
    cases (BitVec.ofInt 16 8192).ule o
    · cases ilt 1480 (l.length : Int)
      · exact bif_of hl rfl
      · rfl
    · rfl
  · cases hh
end Go.Proofs.Ytggoncamiafclab
namespace Go.Proofs.Ytggoncamiafclab
open Go.RowKit
set_option linter.unusedVariables false
set_option linter.unusedSimpArgs false
set_option maxRecDepth 100000

def hdn (l : Tx) : Int := 4 * (((List.getD l 0 0 &&& BitVec.ofInt 8 15).toNat : Nat) : Int)
def szn (l : Tx) : Nat := (nmX (List.drop 2 (List.take 4 l))).toNat
def mkn (l : Tx) : BitVec 16 := BitVec.setWidth 16 (nmX (List.drop 6 (List.take 8 l)))
def badF (l : Tx) : Bool := bif (List.getD l 0 0) >>> 4 != BitVec.ofInt 8 4 then true else bif ilt (hdn l) 20 then true else bif ilt (szn l : Int) (hdn l) then true else mkn l &&& BitVec.ofInt 16 32768 != BitVec.ofInt 16 0
def deE (l : Tx) : Int := bif ilt (l.length : Int) 20 then 7 else bif badF l then 8 else bif ilt (l.length : Int) (szn l : Int) then 7 else bif sumX (List.drop 0 (List.take (hdn l).toNat l)) != BitVec.ofInt 16 0 then 180 else 0
def okD (l : Tx) : Bool := deE l == 0
def dS (l : Tx) : BitVec 32 := bif okD l then nmX (List.drop 12 (List.take 16 l)) else 0
def dD (l : Tx) : BitVec 32 := bif okD l then nmX (List.drop 16 (List.take 20 l)) else 0
def dP (l : Tx) : BitVec 8 := bif okD l then List.getD l 9 0 else 0
def dT (l : Tx) : BitVec 8 := bif okD l then List.getD l 8 0 else 0
def dI (l : Tx) : BitVec 16 := bif okD l then BitVec.setWidth 16 (nmX (List.drop 4 (List.take 6 l))) else 0
def dSt (l : Tx) : Bool := bif okD l then mkn l &&& BitVec.ofInt 16 16384 != BitVec.ofInt 16 0 else false
def dMo (l : Tx) : Bool := bif okD l then mkn l &&& BitVec.ofInt 16 8192 != BitVec.ofInt 16 0 else false
def dO (l : Tx) : BitVec 16 := bif okD l then mkn l % BitVec.ofInt 16 8192 else 0
def dL (l : Tx) : Tx := bif okD l then List.drop (hdn l).toNat (List.take (szn l) l) else []
abbrev dPk (l : Tx) : SV := pkt (dS l) (dD l) (dP l) (dT l) (dI l) (dSt l) (dMo l) (dO l) (dL l)
theorem de_bad {l : Tx} {e : Int} (h : deE l = e) (he : (e == 0) = false) : (SV.tup [pkt 0 0 0 0 0 false false 0 [], .i e]) = .tup [dPk l, .i (deE l)] := by
  have ho : okD l = false := by unfold okD; rw [h]; exact he
  unfold dPk dS dD dP dT dI dSt dMo dO dL
  rw [ho, h]; rfl
def cDe : List SV → List Cont → Option (Bool × SV)
  | [.s l], _ => some (Nat.ble l.length 4294967296, .tup [dPk l, .i (deE l)])
  | _, _ => none
theorem tk_len (l : Tx) (a b : Nat) : (List.drop a (List.take b l)).length ≤ b - a := by simp; omega
theorem decode_ok : POk Try.prog G 9 cDe := by
  intro args acs r hh β M w hR hw ha
  unfold cDe at hh
  split at hh
  · rename_i l
    simp only [Option.some.injEq, Prod.mk.injEq] at hh
    obtain ⟨hl, rfl⟩ := hh
    have hl := Nat.le_of_ble_eq_true hl
    refine pokE (E := EPt) rfl ep_ok (noL_ok _ _ _ _) (v12 t2 (t4 t2) sumX nmX l _) ?_ rfl rfl hR
    have h15 : (List.getD l 0 0 &&& BitVec.ofInt 8 15).toNat ≤ 255 := by have := (List.getD l 0 0 &&& BitVec.ofInt 8 15).isLt; omega
    cases h0 : ilt (l.length : Int) 20
    · have h20 := of_decide_eq_false ((ilt_eq _ _).symm.trans h0)
      have bad : badF l = true → SV.tup [pkt 0 0 0 0 0 false false 0 [], .i 8] = SV.tup [dPk l, .i (deE l)] := fun hb => de_bad (by unfold deE; rw [h0, hb]; rfl) rfl
      refine bif_of (inR_iff.2 ⟨by omega, by omega⟩) (bif_of (inI_iff.2 (by omega)) (bif_of (ile_of (by omega)) (bif_of (ble_of (Nat.le_trans (tk_len ..) (by omega))) (bif_of (ile_of (by omega)) (bif_of (ble_of (Nat.le_trans (tk_len ..) (by omega))) (bif_of (inR_iff.2 ⟨by omega, by omega⟩) ?_))))))
      cases h1 : (List.getD l 0 0) >>> 4 != BitVec.ofInt 8 4
      · cases h2 : ilt (hdn l) 20
        · have h2' : ilt (4 * (((List.getD l 0 0 &&& BitVec.ofInt 8 15).toNat : Nat) : Int)) 20 = false := h2
          rw [h2']
          cases h3 : ilt (szn l : Int) (hdn l)
          · have h3' : ilt (((nmX (List.drop 2 (List.take 4 l))).toNat : Nat) : Int) (4 * (((List.getD l 0 0 &&& BitVec.ofInt 8 15).toNat : Nat) : Int)) = false := h3
            rw [h3']
            cases h4 : mkn l &&& BitVec.ofInt 16 32768 != BitVec.ofInt 16 0
            · have h4' : (BitVec.setWidth 16 (nmX (List.drop 6 (List.take 8 l))) &&& BitVec.ofInt 16 32768 != BitVec.ofInt 16 0) = false := h4
              rw [h4']
              have hb : badF l = false := by unfold badF; rw [h1, h2, h3, h4]; rfl
              cases h5 : ilt (l.length : Int) (szn l : Int)
              · have h5' : ilt (l.length : Int) (((nmX (List.drop 2 (List.take 4 l))).toNat : Nat) : Int) = false := h5
                rw [h5']
                have g3 := of_decide_eq_false ((ilt_eq _ _).symm.trans h3')
                have g5 := of_decide_eq_false ((ilt_eq _ _).symm.trans h5')
                refine bif_of (ile_of (by omega)) (bif_of (ble_of (by simp only [List.length_drop, List.length_take]; omega)) ?_)
                cases h6 : sumX (List.drop 0 (List.take (hdn l).toNat l)) != BitVec.ofInt 16 0
                · have h6' : (sumX (List.drop 0 (List.take (4 * (((List.getD l 0 0 &&& BitVec.ofInt 8 15).toNat : Nat) : Int)).toNat l)) != BitVec.ofInt 16 0) = false := h6
                  rw [h6']
                  have he : deE l = 0 := by unfold deE; rw [h0, hb, h5, h6]; rfl
                  have ho : okD l = true := by unfold okD; rw [he]; rfl
                  refine bif_of (ile_of (by omega)) (bif_of (ble_of (Nat.le_trans (tk_len ..) (by omega))) (bif_of (ile_of (by omega)) (bif_of (ble_of (Nat.le_trans (tk_len ..) (by omega))) (bif_of (inR_iff.2 ⟨by omega, by omega⟩) (bif_of (inR_iff.2 ⟨by omega, by omega⟩) (bif_of (ile_of (by omega)) (bif_of (ble_of (Nat.le_trans (tk_len ..) (by omega))) (bif_of (and_t (ile_of (by omega)) (ile_of (by omega))) (bif_of (ble_of (by simp only [List.length_drop, List.length_take]; omega)) ?_)))))))))
                  unfold dPk dS dD dP dT dI dSt dMo dO dL
                  rw [ho, he]; rfl
                · have h6' : (sumX (List.drop 0 (List.take (4 * (((List.getD l 0 0 &&& BitVec.ofInt 8 15).toNat : Nat) : Int)).toNat l)) != BitVec.ofInt 16 0) = true := h6
                  rw [h6']
                  exact de_bad (by unfold deE; rw [h0, hb, h5, h6]; rfl) rfl
              · have h5' : ilt (l.length : Int) (((nmX (List.drop 2 (List.take 4 l))).toNat : Nat) : Int) = true := h5
                rw [h5']
                exact de_bad (by unfold deE; rw [h0, hb, h5]; rfl) rfl
            · have h4' : (BitVec.setWidth 16 (nmX (List.drop 6 (List.take 8 l))) &&& BitVec.ofInt 16 32768 != BitVec.ofInt 16 0) = true := h4
              rw [h4']
              exact bad (by unfold badF; rw [h1, h2, h3, h4]; rfl)
          · have h3' : ilt (((nmX (List.drop 2 (List.take 4 l))).toNat : Nat) : Int) (4 * (((List.getD l 0 0 &&& BitVec.ofInt 8 15).toNat : Nat) : Int)) = true := h3
            rw [h3']
            exact bad (by unfold badF; rw [h1, h2, h3]; rfl)
        · have h2' : ilt (4 * (((List.getD l 0 0 &&& BitVec.ofInt 8 15).toNat : Nat) : Int)) 20 = true := h2
          rw [h2']
          exact bad (by unfold badF; rw [h1, h2]; rfl)
      · exact bad (by unfold badF; rw [h1]; rfl)
    · exact de_bad (by unfold deE; rw [h0]; rfl) rfl
  · cases hh
end Go.Proofs.Ytggoncamiafclab
namespace Go.Proofs.Ytggoncamiafclab
open Go.RowKit
set_option linter.unusedVariables false
set_option linter.unusedSimpArgs false
set_option maxRecDepth 100000

-- what is said back
-- Echo
-- Away
end Go.Proofs.Ytggoncamiafclab
