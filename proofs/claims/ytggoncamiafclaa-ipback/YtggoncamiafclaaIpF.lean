/-
  ip: bytes that are read, by the document; what is said back. No statement is proved here.
-/
import Derived.Test.YtggoncamiafclaaIpE
namespace Go.Proofs.Ytggoncamiafclaa
open Go.RowKit
set_option linter.unusedVariables false
set_option linter.unusedSimpArgs false
set_option maxRecDepth 100000

theorem decodeD_ok : POk Try.prog G 13 cDe := by
  intro args acs r hh β M w hR hw ha
  unfold cDe at hh
  split at hh
  · rename_i l
    simp only [Option.some.injEq, Prod.mk.injEq] at hh
    obtain ⟨hl, rfl⟩ := hh
    have hl := Nat.le_of_ble_eq_true hl
    refine pokE (E := ERt) rfl er_ok (noL_ok _ _ _ _) (v13 m2 m4 sumX vl4 l _) ?_ rfl rfl hR
    have hs2 : (vl4 (List.drop 2 (List.take 4 l))).toInt = ((szn l : Nat) : Int) := v64 _
    have hm2 : (nmX (List.drop 6 (List.take 8 l))).toNat < 65536 := nm_lt _ (by simp only [List.length_drop, List.length_take]; omega)
    have h15 : (List.getD l 0 0 &&& BitVec.ofInt 8 15).toNat ≤ 255 := by have := (List.getD l 0 0 &&& BitVec.ofInt 8 15).isLt; omega
    cases h0 : ilt (l.length : Int) 20
    · have h20 := of_decide_eq_false ((ilt_eq _ _).symm.trans h0)
      have bad : badF l = true → SV.tup [pkt 0 0 0 0 0 false false 0 [], .i 8] = SV.tup [dPk l, .i (deE l)] := fun hb => de_bad (by unfold deE; rw [h0, hb]; rfl) rfl
      refine bif_of (inR_iff.2 ⟨by omega, by omega⟩) (bif_of (inI_iff.2 (by omega)) (bif_of (ile_of (by omega)) (bif_of (ble_of (Nat.le_trans (tk_len ..) (by omega))) (bif_of (ile_of (by omega)) (bif_of (ble_of (Nat.le_trans (tk_len ..) (by omega))) (bif_of (inR_iff.2 ⟨by omega, by omega⟩) ?_))))))
      cases h1 : (List.getD l 0 0) >>> 4 != BitVec.ofInt 8 4
      · cases h2 : ilt (hdn l) 20
        · have h2' : ilt (4 * (((List.getD l 0 0 &&& BitVec.ofInt 8 15).toNat : Nat) : Int)) 20 = false := h2
          rw [h2']
          cases h3 : ilt (szn l : Int) (hdn l)
          · have h3' : ilt ((vl4 (List.drop 2 (List.take 4 l))).toInt) (4 * (((List.getD l 0 0 &&& BitVec.ofInt 8 15).toNat : Nat) : Int)) = false := by rw [hs2]; exact h3
            rw [h3']
            cases h4 : mkn l &&& BitVec.ofInt 16 32768 != BitVec.ofInt 16 0
            · have h4' : (BitVec.ofInt 64 32768).ule (vl4 (List.drop 6 (List.take 8 l))) = false := (ge64 _ hm2).trans h4
              rw [h4']
              have hb : badF l = false := by unfold badF; rw [h1, h2, h3, h4]; rfl
              cases h5 : ilt (l.length : Int) (szn l : Int)
              · have h5' : ilt (l.length : Int) (vl4 (List.drop 2 (List.take 4 l))).toInt = false := by rw [hs2]; exact h5
                rw [h5']
                have g3 := of_decide_eq_false ((ilt_eq _ _).symm.trans h3')
                rw [hs2] at g3
                have g5 := of_decide_eq_false ((ilt_eq _ _).symm.trans h5')
                rw [hs2] at g5
                refine bif_of (ile_of (by omega)) (bif_of (ble_of (by simp only [List.length_drop, List.length_take]; omega)) ?_)
                cases h6 : sumX (List.drop 0 (List.take (hdn l).toNat l)) != BitVec.ofInt 16 0
                · have h6' : (sumX (List.drop 0 (List.take (4 * (((List.getD l 0 0 &&& BitVec.ofInt 8 15).toNat : Nat) : Int)).toNat l)) != BitVec.ofInt 16 0) = false := h6
                  rw [h6']
                  have he : deE l = 0 := by unfold deE; rw [h0, hb, h5, h6]; rfl
                  have ho : okD l = true := by unfold okD; rw [he]; rfl
                  refine bif_of (ile_of (by omega)) (bif_of (ble_of (Nat.le_trans (tk_len ..) (by omega))) (bif_of (ile_of (by omega)) (bif_of (ble_of (Nat.le_trans (tk_len ..) (by omega))) (bif_of (inR_iff.2 ⟨by omega, by omega⟩) (bif_of (inR_iff.2 ⟨by omega, by omega⟩) (bif_of (ile_of (by omega)) (bif_of (ble_of (Nat.le_trans (tk_len ..) (by omega))) (bif_of (and_t (ile_of (by rw [hs2]; omega)) (ile_of (by rw [hs2]; omega))) ?_))))))))
                  unfold dPk dS dD dP dT dI dSt dMo dO dL
                  rw [ho, he, hs2]
                  have q1 : ∀ m, BitVec.setWidth 32 (vl4 m) = nmX m := fun m => v32' _
                  have q2 : ∀ m, BitVec.setWidth 16 (vl4 m) = BitVec.setWidth 16 (nmX m) := fun m => v16' _
                  have q3 : (vl4 (List.drop 6 (List.take 8 l)) &&& BitVec.ofInt 64 16384 != BitVec.ofInt 64 0) = (mkn l &&& BitVec.ofInt 16 16384 != BitVec.ofInt 16 0) := by
                    rw [← ne64]; exact congrArg (· != BitVec.ofInt 64 0) (and64 _ 16384 (by decide))
                  have q4 : (vl4 (List.drop 6 (List.take 8 l)) &&& BitVec.ofInt 64 8192 != BitVec.ofInt 64 0) = (mkn l &&& BitVec.ofInt 16 8192 != BitVec.ofInt 16 0) := by
                    rw [← ne64]; exact congrArg (· != BitVec.ofInt 64 0) (and64 _ 8192 (by decide))
                  have q5 : BitVec.setWidth 16 (vl4 (List.drop 6 (List.take 8 l)) &&& BitVec.ofInt 64 8191) = mkn l % BitVec.ofInt 16 8192 := by
                    have e := and64 (nmX (List.drop 6 (List.take 8 l))) 8191 (by decide)
                    have e2 : BitVec.setWidth 16 (vl4 (List.drop 6 (List.take 8 l)) &&& BitVec.ofInt 64 8191) = BitVec.setWidth 16 (BitVec.setWidth 64 (mkn l &&& BitVec.ofInt 16 8191)) := congrArg (BitVec.setWidth 16) e
                    rw [e2]
                    apply BitVec.eq_of_toNat_eq
                    have a1 : (BitVec.ofInt 16 8191).toNat = 2 ^ 13 - 1 := rfl
                    have a2 : (BitVec.ofInt 16 8192).toNat = 8192 := rfl
                    have a3 := (mkn l).isLt
                    simp only [BitVec.toNat_setWidth, BitVec.toNat_and, BitVec.toNat_umod, a1, a2, Nat.and_two_pow_sub_one_eq_mod]
                    omega
                  rw [q1, q1, q2, q3, q4, q5]
                  rfl
                · have h6' : (sumX (List.drop 0 (List.take (4 * (((List.getD l 0 0 &&& BitVec.ofInt 8 15).toNat : Nat) : Int)).toNat l)) != BitVec.ofInt 16 0) = true := h6
                  rw [h6']
                  exact de_bad (by unfold deE; rw [h0, hb, h5, h6]; rfl) rfl
              · have h5' : ilt (l.length : Int) (vl4 (List.drop 2 (List.take 4 l))).toInt = true := by rw [hs2]; exact h5
                rw [h5']
                exact de_bad (by unfold deE; rw [h0, hb, h5]; rfl) rfl
            · have h4' : (BitVec.ofInt 64 32768).ule (vl4 (List.drop 6 (List.take 8 l))) = true := (ge64 _ hm2).trans h4
              rw [h4']
              exact bad (by unfold badF; rw [h1, h2, h3, h4]; rfl)
          · have h3' : ilt ((vl4 (List.drop 2 (List.take 4 l))).toInt) (4 * (((List.getD l 0 0 &&& BitVec.ofInt 8 15).toNat : Nat) : Int)) = true := by rw [hs2]; exact h3
            rw [h3']
            exact bad (by unfold badF; rw [h1, h2, h3]; rfl)
        · have h2' : ilt (4 * (((List.getD l 0 0 &&& BitVec.ofInt 8 15).toNat : Nat) : Int)) 20 = true := h2
          rw [h2']
          exact bad (by unfold badF; rw [h1, h2]; rfl)
      · exact bad (by unfold badF; rw [h1]; rfl)
    · exact de_bad (by unfold deE; rw [h0]; rfl) rfl
  · cases hh
-- what is said back
def icT (a b : BitVec 8) (m : Tx) : Tx := [a, b] ++ t2 (sumX ([a, b] ++ m)) ++ m
abbrev IcF := BitVec 8 → BitVec 8 → Tx → Tx
abbrev ByF := BitVec 32 → BitVec 32 → BitVec 8 → BitVec 8 → BitVec 16 → Bool → Bool → BitVec 16 → Tx → Tx
def cIcL (I : IcF) : List SV → List Cont → Option (Bool × SV)
  | [.w8 a, .w8 b, .s m], _ => some (Nat.ble m.length 4294900000, .s (I a b m))
  | _, _ => none
theorem icT_ok : POk Try.prog G 34 (cIcL icT) := by
  intro args acs r hh β M w hR hw ha
  unfold cIcL at hh
  split at hh
  · rename_i a b m
    simp only [Option.some.injEq, Prod.mk.injEq] at hh
    obtain ⟨hl, rfl⟩ := hh
    have hl := Nat.le_of_ble_eq_true hl
    refine pokE (E := EPt) rfl ep_ok (noL_ok _ _ _ _) (v34 t2 (t4 t2) sumX nmX a b m _) ?_ rfl rfl hR
    repeat refine bif_of (by first | exact inI_iff.2 (by (try simp only [List.length_append, List.length_cons, List.length_nil, t2_len, t4_len, List.drop_zero, List.take_succ_cons, List.take_zero]); omega) | exact ile_of (by (try simp only [List.length_append, List.length_cons, List.length_nil, t2_len, t4_len, List.drop_zero, List.take_succ_cons, List.take_zero]); omega) | exact ble_of (by (try simp only [List.length_append, List.length_cons, List.length_nil, t2_len, t4_len, List.drop_zero, List.take_succ_cons, List.take_zero]); omega) | exact inR_iff.2 (by (try simp only [List.length_append, List.length_cons, List.length_nil, t2_len, t4_len, List.drop_zero, List.take_succ_cons, List.take_zero]); omega) | exact and_t (ile_of (by (try simp only [List.length_append, List.length_cons, List.length_nil, t2_len, t4_len, List.drop_zero, List.take_succ_cons, List.take_zero]); omega)) (ile_of (by (try simp only [List.length_append, List.length_cons, List.length_nil, t2_len, t4_len, List.drop_zero, List.take_succ_cons, List.take_zero]); omega))) ?_
    rfl
  · cases hh
def cBk : List SV → List Cont → Option (Bool × SV)
  | [.agg [.w32 s, .w32 d, .w8 _, .w8 _, .w16 _, .b _, .b _, .w16 _, .s _], .w16 j, .s m], _ => some (true, pkt d s (BitVec.ofInt 8 1) (BitVec.ofInt 8 64) j false false 0 m)
  | _, _ => none
theorem back_ok : POk Try.prog G 33 cBk := by
  intro args acs r hh β M w hR hw ha
  unfold cBk at hh
  split at hh
  · rename_i s d p t i st mo o l j m
    simp only [Option.some.injEq, Prod.mk.injEq, true_and] at hh
    subst hh
    exact pokE (E := EPt) rfl ep_ok (noL_ok _ _ _ _) (v33 t2 (t4 t2) sumX nmX s d p t i st mo o l j m _) rfl rfl rfl hR
  · cases hh
def cByL (B : ByF) : List SV → List Cont → Option (Bool × SV)
  | [.agg [.w32 s, .w32 d, .w8 p, .w8 t, .w16 i, .b st, .b mo, .w16 o, .s l]], _ => some (Nat.ble l.length 4294900000, .s (B s d p t i st mo o l))
  | _, _ => none
def cEnL (E : BitVec 16 → Tx → Int) (B : ByF) : List SV → List Cont → Option (Bool × SV)
  | [.agg [.w32 s, .w32 d, .w8 p, .w8 t, .w16 i, .b st, .b mo, .w16 o, .s l]], _ => some (Nat.ble l.length 4294900000, .tup [.s (B s d p t i st mo o l), .i (E o l)])
  | _, _ => none
def EB (T : BitVec 16 → Tx) (F : BitVec 32 → Tx) (S : Tx → BitVec 16) (N : Tx → BitVec 32) (I : IcF) (B : ByF) : Env := { G := G, T := (((EP T F S N).T.add 34 (cIcL I)).add 33 cBk).add 26 (cByL B), C := noC }
def EBd (N2 N4 : BitVec 64 → Tx) (S : Tx → BitVec 16) (V : Tx → BitVec 64) (E : BitVec 16 → Tx → Int) (B : ByF) : Env := { G := G, T := (ER N2 N4 S V).T.add 11 (cEnL E B), C := noC }
theorem v14 (T : BitVec 16 → Tx) (F : BitVec 32 → Tx) (S : Tx → BitVec 16) (N : Tx → BitVec 32) (I : IcF) (B : ByF) (s d : BitVec 32) (p t : BitVec 8) (i : BitVec 16) (st mo : Bool) (o : BitVec 16) (l : Tx) (K : SV → Prop) : (vf Try.prog (EB T F S N I B) noL 14 [pkt s d p t i st mo o l] G (fun r _ => K r)) = (bif isPc mo o then K (SV.tup [SV.agg [SV.w32 (0 : BitVec (32 : Nat)), SV.w32 (0 : BitVec (32 : Nat)), SV.w8 (0 : BitVec (8 : Nat)), SV.w8 (0 : BitVec (8 : Nat)), SV.w16 (0 : BitVec (16 : Nat)), SV.b false, SV.b false, SV.w16 (0 : BitVec (16 : Nat)), SV.s []], SV.b false]) else bif bif false then true else !isAk p l then K (SV.tup [SV.agg [SV.w32 (0 : BitVec (32 : Nat)), SV.w32 (0 : BitVec (32 : Nat)), SV.w8 (0 : BitVec (8 : Nat)), SV.w8 (0 : BitVec (8 : Nat)), SV.w16 (0 : BitVec (16 : Nat)), SV.b false, SV.b false, SV.w16 (0 : BitVec (16 : Nat)), SV.s []], SV.b false]) else bif bif false then true else ilt (↑(List.length l) : Int) (8 : Int) then K (SV.tup [SV.agg [SV.w32 (0 : BitVec (32 : Nat)), SV.w32 (0 : BitVec (32 : Nat)), SV.w8 (0 : BitVec (8 : Nat)), SV.w8 (0 : BitVec (8 : Nat)), SV.w16 (0 : BitVec (16 : Nat)), SV.b false, SV.b false, SV.w16 (0 : BitVec (16 : Nat)), SV.s []], SV.b false]) else bif inR (1 : Int) (List.length l) then bif bif false then true else List.getD l (1 : Nat) (0 : BitVec (8 : Nat)) != BitVec.ofInt (8 : Nat) (0 : Int) then K (SV.tup [SV.agg [SV.w32 (0 : BitVec (32 : Nat)), SV.w32 (0 : BitVec (32 : Nat)), SV.w8 (0 : BitVec (8 : Nat)), SV.w8 (0 : BitVec (8 : Nat)), SV.w16 (0 : BitVec (16 : Nat)), SV.b false, SV.b false, SV.w16 (0 : BitVec (16 : Nat)), SV.s []], SV.b false]) else bif (List.length l).ble (4294967296 : Nat) then bif bif false then true else S l != BitVec.ofInt (16 : Nat) (0 : Int) then K (SV.tup [SV.agg [SV.w32 (0 : BitVec (32 : Nat)), SV.w32 (0 : BitVec (32 : Nat)), SV.w8 (0 : BitVec (8 : Nat)), SV.w8 (0 : BitVec (8 : Nat)), SV.w16 (0 : BitVec (16 : Nat)), SV.b false, SV.b false, SV.w16 (0 : BitVec (16 : Nat)), SV.s []], SV.b false]) else bif ile (4 : Int) (↑(List.length l) : Int) && ile (↑(List.length l) : Int) (↑(List.length l) : Int) then bif (List.drop (4 : Nat) (List.take (List.length l) l)).length.ble (4294900000 : Nat) then K (SV.tup [SV.agg [SV.w32 d, SV.w32 s, SV.w8 (BitVec.ofInt (8 : Nat) (1 : Int)), SV.w8 (BitVec.ofInt (8 : Nat) (64 : Int)), SV.w16 i, SV.b false, SV.b false, SV.w16 (0 : BitVec (16 : Nat)), SV.s (I (BitVec.ofInt (8 : Nat) (0 : Int)) (BitVec.ofInt (8 : Nat) (0 : Int)) (List.drop (4 : Nat) (List.take (List.length l) l)))], SV.b true]) else False else False else False else False) := by kernel_rfl
theorem v16 (T : BitVec 16 → Tx) (F : BitVec 32 → Tx) (S : Tx → BitVec 16) (N : Tx → BitVec 32) (I : IcF) (B : ByF) (s d : BitVec 32) (p t : BitVec 8) (i : BitVec 16) (st mo : Bool) (o : BitVec 16) (l : Tx) (c : BitVec 8) (K : SV → Prop) : (vf Try.prog (EB T F S N I B) noL 16 [pkt s d p t i st mo o l, .w8 c] G (fun r _ => K r)) = (bif o != BitVec.ofInt (16 : Nat) (0 : Int) then K (SV.tup [SV.agg [SV.w32 (0 : BitVec (32 : Nat)), SV.w32 (0 : BitVec (32 : Nat)), SV.w8 (0 : BitVec (8 : Nat)), SV.w8 (0 : BitVec (8 : Nat)), SV.w16 (0 : BitVec (16 : Nat)), SV.b false, SV.b false, SV.w16 (0 : BitVec (16 : Nat)), SV.s []], SV.b false]) else bif p == BitVec.ofInt (8 : Nat) (1 : Int) then bif bif false then true else bif true then !isAk p l else false then K (SV.tup [SV.agg [SV.w32 (0 : BitVec (32 : Nat)), SV.w32 (0 : BitVec (32 : Nat)), SV.w8 (0 : BitVec (8 : Nat)), SV.w8 (0 : BitVec (8 : Nat)), SV.w16 (0 : BitVec (16 : Nat)), SV.b false, SV.b false, SV.w16 (0 : BitVec (16 : Nat)), SV.s []], SV.b false]) else bif ile (↑(0 : Nat) : Int) (bif ilt (8 : Int) (↑(List.length l) : Int) then (8 : Int) else (↑(List.length l) : Int)) && ile (bif ilt (8 : Int) (↑(List.length l) : Int) then (8 : Int) else (↑(List.length l) : Int)) (↑(List.length l) : Int) then bif (List.drop (0 : Nat) (List.take (bif ilt (8 : Int) (↑(List.length l) : Int) then (8 : Int) else (↑(List.length l) : Int)).toNat l)).length.ble (4294900000 : Nat) then bif ile (↑(List.length (F (BitVec.ofInt (32 : Nat) (0 : Int))) + List.length (B s d p t i st mo o (List.drop (0 : Nat) (List.take (bif ilt (8 : Int) (↑(List.length l) : Int) then (8 : Int) else (↑(List.length l) : Int)).toNat l)))) : Int) (9223372036854775807 : Int) then bif (F (BitVec.ofInt (32 : Nat) (0 : Int)) ++ B s d p t i st mo o (List.drop (0 : Nat) (List.take (bif ilt (8 : Int) (↑(List.length l) : Int) then (8 : Int) else (↑(List.length l) : Int)).toNat l))).length.ble (4294900000 : Nat) then K (SV.tup [SV.agg [SV.w32 d, SV.w32 s, SV.w8 (BitVec.ofInt (8 : Nat) (1 : Int)), SV.w8 (BitVec.ofInt (8 : Nat) (64 : Int)), SV.w16 (BitVec.ofInt (16 : Nat) (0 : Int)), SV.b false, SV.b false, SV.w16 (0 : BitVec (16 : Nat)), SV.s (I (BitVec.ofInt (8 : Nat) (3 : Int)) c (F (BitVec.ofInt (32 : Nat) (0 : Int)) ++ B s d p t i st mo o (List.drop (0 : Nat) (List.take (bif ilt (8 : Int) (↑(List.length l) : Int) then (8 : Int) else (↑(List.length l) : Int)).toNat l))))], SV.b true]) else False else False else False else False else bif ile (↑(0 : Nat) : Int) (bif ilt (8 : Int) (↑(List.length l) : Int) then (8 : Int) else (↑(List.length l) : Int)) && ile (bif ilt (8 : Int) (↑(List.length l) : Int) then (8 : Int) else (↑(List.length l) : Int)) (↑(List.length l) : Int) then bif (List.drop (0 : Nat) (List.take (bif ilt (8 : Int) (↑(List.length l) : Int) then (8 : Int) else (↑(List.length l) : Int)).toNat l)).length.ble (4294900000 : Nat) then bif ile (↑(List.length (F (BitVec.ofInt (32 : Nat) (0 : Int))) + List.length (B s d p t i st mo o (List.drop (0 : Nat) (List.take (bif ilt (8 : Int) (↑(List.length l) : Int) then (8 : Int) else (↑(List.length l) : Int)).toNat l)))) : Int) (9223372036854775807 : Int) then bif (F (BitVec.ofInt (32 : Nat) (0 : Int)) ++ B s d p t i st mo o (List.drop (0 : Nat) (List.take (bif ilt (8 : Int) (↑(List.length l) : Int) then (8 : Int) else (↑(List.length l) : Int)).toNat l))).length.ble (4294900000 : Nat) then K (SV.tup [SV.agg [SV.w32 d, SV.w32 s, SV.w8 (BitVec.ofInt (8 : Nat) (1 : Int)), SV.w8 (BitVec.ofInt (8 : Nat) (64 : Int)), SV.w16 (BitVec.ofInt (16 : Nat) (0 : Int)), SV.b false, SV.b false, SV.w16 (0 : BitVec (16 : Nat)), SV.s (I (BitVec.ofInt (8 : Nat) (3 : Int)) c (F (BitVec.ofInt (32 : Nat) (0 : Int)) ++ B s d p t i st mo o (List.drop (0 : Nat) (List.take (bif ilt (8 : Int) (↑(List.length l) : Int) then (8 : Int) else (↑(List.length l) : Int)).toNat l))))], SV.b true]) else False else False else False else False) := by kernel_rfl
theorem v15 (N2 N4 : BitVec 64 → Tx) (S : Tx → BitVec 16) (V : Tx → BitVec 64) (E : BitVec 16 → Tx → Int) (B : ByF) (s d : BitVec 32) (p t : BitVec 8) (i : BitVec 16) (st mo : Bool) (o : BitVec 16) (l : Tx) (K : SV → Prop) : (vf Try.prog (EBd N2 N4 S V E B) noL 15 [pkt s d p t i st mo o l] G (fun r _ => K r)) = (bif mo then K (SV.tup [SV.agg [SV.w32 (0 : BitVec (32 : Nat)), SV.w32 (0 : BitVec (32 : Nat)), SV.w8 (0 : BitVec (8 : Nat)), SV.w8 (0 : BitVec (8 : Nat)), SV.w16 (0 : BitVec (16 : Nat)), SV.b false, SV.b false, SV.w16 (0 : BitVec (16 : Nat)), SV.s []], SV.b false]) else bif bif false then true else o != BitVec.ofInt (16 : Nat) (0 : Int) then K (SV.tup [SV.agg [SV.w32 (0 : BitVec (32 : Nat)), SV.w32 (0 : BitVec (32 : Nat)), SV.w8 (0 : BitVec (8 : Nat)), SV.w8 (0 : BitVec (8 : Nat)), SV.w16 (0 : BitVec (16 : Nat)), SV.b false, SV.b false, SV.w16 (0 : BitVec (16 : Nat)), SV.s []], SV.b false]) else bif bif false then true else p != BitVec.ofInt (8 : Nat) (1 : Int) then K (SV.tup [SV.agg [SV.w32 (0 : BitVec (32 : Nat)), SV.w32 (0 : BitVec (32 : Nat)), SV.w8 (0 : BitVec (8 : Nat)), SV.w8 (0 : BitVec (8 : Nat)), SV.w16 (0 : BitVec (16 : Nat)), SV.b false, SV.b false, SV.w16 (0 : BitVec (16 : Nat)), SV.s []], SV.b false]) else bif bif false then true else ilt (↑(List.length l) : Int) (8 : Int) then K (SV.tup [SV.agg [SV.w32 (0 : BitVec (32 : Nat)), SV.w32 (0 : BitVec (32 : Nat)), SV.w8 (0 : BitVec (8 : Nat)), SV.w8 (0 : BitVec (8 : Nat)), SV.w16 (0 : BitVec (16 : Nat)), SV.b false, SV.b false, SV.w16 (0 : BitVec (16 : Nat)), SV.s []], SV.b false]) else bif inR (0 : Int) (List.length l) then bif bif false then true else List.getD l (0 : Nat) (0 : BitVec (8 : Nat)) != BitVec.ofInt (8 : Nat) (8 : Int) then K (SV.tup [SV.agg [SV.w32 (0 : BitVec (32 : Nat)), SV.w32 (0 : BitVec (32 : Nat)), SV.w8 (0 : BitVec (8 : Nat)), SV.w8 (0 : BitVec (8 : Nat)), SV.w16 (0 : BitVec (16 : Nat)), SV.b false, SV.b false, SV.w16 (0 : BitVec (16 : Nat)), SV.s []], SV.b false]) else bif inR (1 : Int) (List.length l) then bif bif false then true else List.getD l (1 : Nat) (0 : BitVec (8 : Nat)) != BitVec.ofInt (8 : Nat) (0 : Int) then K (SV.tup [SV.agg [SV.w32 (0 : BitVec (32 : Nat)), SV.w32 (0 : BitVec (32 : Nat)), SV.w8 (0 : BitVec (8 : Nat)), SV.w8 (0 : BitVec (8 : Nat)), SV.w16 (0 : BitVec (16 : Nat)), SV.b false, SV.b false, SV.w16 (0 : BitVec (16 : Nat)), SV.s []], SV.b false]) else bif (List.length l).ble (4294967296 : Nat) then bif bif false then true else S l != BitVec.ofInt (16 : Nat) (0 : Int) then K (SV.tup [SV.agg [SV.w32 (0 : BitVec (32 : Nat)), SV.w32 (0 : BitVec (32 : Nat)), SV.w8 (0 : BitVec (8 : Nat)), SV.w8 (0 : BitVec (8 : Nat)), SV.w16 (0 : BitVec (16 : Nat)), SV.b false, SV.b false, SV.w16 (0 : BitVec (16 : Nat)), SV.s []], SV.b false]) else bif ile (4 : Int) (↑(List.length l) : Int) && ile (↑(List.length l) : Int) (↑(List.length l) : Int) then bif (List.drop (4 : Nat) (List.take (List.length l) l)).length.ble (4294967296 : Nat) then bif ile (↑((2 : Nat) + List.length (N2 (BitVec.setWidth (64 : Nat) (S (List.drop (4 : Nat) (List.take (List.length l) l)))))) : Int) (9223372036854775807 : Int) then bif ile (4 : Int) (↑(List.length l) : Int) && ile (↑(List.length l) : Int) (↑(List.length l) : Int) then bif ile (↑((bts { data := #[(0 : UInt8), (0 : UInt8)] } ++ N2 (BitVec.setWidth (64 : Nat) (S (List.drop (4 : Nat) (List.take (List.length l) l))))).length + (List.drop (4 : Nat) (List.take (List.length l) l)).length) : Int) (9223372036854775807 : Int) then K (SV.tup [SV.agg [SV.w32 d, SV.w32 s, SV.w8 (BitVec.ofInt (8 : Nat) (1 : Int)), SV.w8 (BitVec.ofInt (8 : Nat) (64 : Int)), SV.w16 i, SV.b false, SV.b false, SV.w16 (0 : BitVec (16 : Nat)), SV.s (bts { data := #[(0 : UInt8), (0 : UInt8)] } ++ N2 (BitVec.setWidth (64 : Nat) (S (List.drop (4 : Nat) (List.take (List.length l) l)))) ++ List.drop (4 : Nat) (List.take (List.length l) l))], SV.b true]) else False else False else False else False else False else False else False else False) := by kernel_rfl
theorem v17 (N2 N4 : BitVec 64 → Tx) (S : Tx → BitVec 16) (V : Tx → BitVec 64) (E : BitVec 16 → Tx → Int) (B : ByF) (s d : BitVec 32) (p t : BitVec 8) (i : BitVec 16) (st mo : Bool) (o : BitVec 16) (l : Tx) (c : BitVec 8) (K : SV → Prop) : (vf Try.prog (EBd N2 N4 S V E B) noL 17 [pkt s d p t i st mo o l, .w8 c] G (fun r _ => K r)) = (bif o != BitVec.ofInt (16 : Nat) (0 : Int) then K (SV.tup [SV.agg [SV.w32 (0 : BitVec (32 : Nat)), SV.w32 (0 : BitVec (32 : Nat)), SV.w8 (0 : BitVec (8 : Nat)), SV.w8 (0 : BitVec (8 : Nat)), SV.w16 (0 : BitVec (16 : Nat)), SV.b false, SV.b false, SV.w16 (0 : BitVec (16 : Nat)), SV.s []], SV.b false]) else bif p == BitVec.ofInt (8 : Nat) (1 : Int) then bif l == bts { data := #[] } then K (SV.tup [SV.agg [SV.w32 (0 : BitVec (32 : Nat)), SV.w32 (0 : BitVec (32 : Nat)), SV.w8 (0 : BitVec (8 : Nat)), SV.w8 (0 : BitVec (8 : Nat)), SV.w16 (0 : BitVec (16 : Nat)), SV.b false, SV.b false, SV.w16 (0 : BitVec (16 : Nat)), SV.s []], SV.b false]) else bif inR (0 : Int) (List.length l) then bif bif false then true else bif true then bif false then true else List.getD l (0 : Nat) (0 : BitVec (8 : Nat)) != BitVec.ofInt (8 : Nat) (8 : Int) else false then K (SV.tup [SV.agg [SV.w32 (0 : BitVec (32 : Nat)), SV.w32 (0 : BitVec (32 : Nat)), SV.w8 (0 : BitVec (8 : Nat)), SV.w8 (0 : BitVec (8 : Nat)), SV.w16 (0 : BitVec (16 : Nat)), SV.b false, SV.b false, SV.w16 (0 : BitVec (16 : Nat)), SV.s []], SV.b false]) else bif ile (↑(0 : Nat) : Int) (bif ilt (8 : Int) (↑(List.length l) : Int) then (8 : Int) else (↑(List.length l) : Int)) && ile (bif ilt (8 : Int) (↑(List.length l) : Int) then (8 : Int) else (↑(List.length l) : Int)) (↑(List.length l) : Int) then bif (List.drop (0 : Nat) (List.take (bif ilt (8 : Int) (↑(List.length l) : Int) then (8 : Int) else (↑(List.length l) : Int)).toNat l)).length.ble (4294900000 : Nat) then bif ile (↑((4 : Nat) + List.length (B s d p t i st mo o (List.drop (0 : Nat) (List.take (bif ilt (8 : Int) (↑(List.length l) : Int) then (8 : Int) else (↑(List.length l) : Int)).toNat l)))) : Int) (9223372036854775807 : Int) then bif ile (↑((List.take (2 : Nat) (List.drop (0 : Nat) [BitVec.ofInt (8 : Nat) (3 : Int), c])).length + (bts { data := #[(0 : UInt8), (0 : UInt8), (0 : UInt8), (0 : UInt8)] } ++ B s d p t i st mo o (List.drop (0 : Nat) (List.take (bif ilt (8 : Int) (↑(List.length l) : Int) then (8 : Int) else (↑(List.length l) : Int)).toNat l))).length) : Int) (9223372036854775807 : Int) then bif (List.take (2 : Nat) (List.drop (0 : Nat) [BitVec.ofInt (8 : Nat) (3 : Int), c]) ++ (bts { data := #[(0 : UInt8), (0 : UInt8), (0 : UInt8), (0 : UInt8)] } ++ B s d p t i st mo o (List.drop (0 : Nat) (List.take (bif ilt (8 : Int) (↑(List.length l) : Int) then (8 : Int) else (↑(List.length l) : Int)).toNat l)))).length.ble (4294967296 : Nat) then bif ile (↑((List.take (2 : Nat) (List.drop (0 : Nat) [BitVec.ofInt (8 : Nat) (3 : Int), c])).length + List.length (N2 (BitVec.setWidth (64 : Nat) (S (List.take (2 : Nat) (List.drop (0 : Nat) [BitVec.ofInt (8 : Nat) (3 : Int), c]) ++ (bts { data := #[(0 : UInt8), (0 : UInt8), (0 : UInt8), (0 : UInt8)] } ++ B s d p t i st mo o (List.drop (0 : Nat) (List.take (bif ilt (8 : Int) (↑(List.length l) : Int) then (8 : Int) else (↑(List.length l) : Int)).toNat l)))))))) : Int) (9223372036854775807 : Int) then bif ile (↑((List.take (2 : Nat) (List.drop (0 : Nat) [BitVec.ofInt (8 : Nat) (3 : Int), c]) ++ N2 (BitVec.setWidth (64 : Nat) (S (List.take (2 : Nat) (List.drop (0 : Nat) [BitVec.ofInt (8 : Nat) (3 : Int), c]) ++ (bts { data := #[(0 : UInt8), (0 : UInt8), (0 : UInt8), (0 : UInt8)] } ++ B s d p t i st mo o (List.drop (0 : Nat) (List.take (bif ilt (8 : Int) (↑(List.length l) : Int) then (8 : Int) else (↑(List.length l) : Int)).toNat l))))))).length + (bts { data := #[(0 : UInt8), (0 : UInt8), (0 : UInt8), (0 : UInt8)] } ++ B s d p t i st mo o (List.drop (0 : Nat) (List.take (bif ilt (8 : Int) (↑(List.length l) : Int) then (8 : Int) else (↑(List.length l) : Int)).toNat l))).length) : Int) (9223372036854775807 : Int) then K (SV.tup [SV.agg [SV.w32 d, SV.w32 s, SV.w8 (BitVec.ofInt (8 : Nat) (1 : Int)), SV.w8 (BitVec.ofInt (8 : Nat) (64 : Int)), SV.w16 (0 : BitVec (16 : Nat)), SV.b false, SV.b false, SV.w16 (0 : BitVec (16 : Nat)), SV.s (List.take (2 : Nat) (List.drop (0 : Nat) [BitVec.ofInt (8 : Nat) (3 : Int), c]) ++ N2 (BitVec.setWidth (64 : Nat) (S (List.take (2 : Nat) (List.drop (0 : Nat) [BitVec.ofInt (8 : Nat) (3 : Int), c]) ++ (bts { data := #[(0 : UInt8), (0 : UInt8), (0 : UInt8), (0 : UInt8)] } ++ B s d p t i st mo o (List.drop (0 : Nat) (List.take (bif ilt (8 : Int) (↑(List.length l) : Int) then (8 : Int) else (↑(List.length l) : Int)).toNat l)))))) ++ (bts { data := #[(0 : UInt8), (0 : UInt8), (0 : UInt8), (0 : UInt8)] } ++ B s d p t i st mo o (List.drop (0 : Nat) (List.take (bif ilt (8 : Int) (↑(List.length l) : Int) then (8 : Int) else (↑(List.length l) : Int)).toNat l))))], SV.b true]) else False else False else False else False else False else False else False else False else bif ile (↑(0 : Nat) : Int) (bif ilt (8 : Int) (↑(List.length l) : Int) then (8 : Int) else (↑(List.length l) : Int)) && ile (bif ilt (8 : Int) (↑(List.length l) : Int) then (8 : Int) else (↑(List.length l) : Int)) (↑(List.length l) : Int) then bif (List.drop (0 : Nat) (List.take (bif ilt (8 : Int) (↑(List.length l) : Int) then (8 : Int) else (↑(List.length l) : Int)).toNat l)).length.ble (4294900000 : Nat) then bif ile (↑((4 : Nat) + List.length (B s d p t i st mo o (List.drop (0 : Nat) (List.take (bif ilt (8 : Int) (↑(List.length l) : Int) then (8 : Int) else (↑(List.length l) : Int)).toNat l)))) : Int) (9223372036854775807 : Int) then bif ile (↑((List.take (2 : Nat) (List.drop (0 : Nat) [BitVec.ofInt (8 : Nat) (3 : Int), c])).length + (bts { data := #[(0 : UInt8), (0 : UInt8), (0 : UInt8), (0 : UInt8)] } ++ B s d p t i st mo o (List.drop (0 : Nat) (List.take (bif ilt (8 : Int) (↑(List.length l) : Int) then (8 : Int) else (↑(List.length l) : Int)).toNat l))).length) : Int) (9223372036854775807 : Int) then bif (List.take (2 : Nat) (List.drop (0 : Nat) [BitVec.ofInt (8 : Nat) (3 : Int), c]) ++ (bts { data := #[(0 : UInt8), (0 : UInt8), (0 : UInt8), (0 : UInt8)] } ++ B s d p t i st mo o (List.drop (0 : Nat) (List.take (bif ilt (8 : Int) (↑(List.length l) : Int) then (8 : Int) else (↑(List.length l) : Int)).toNat l)))).length.ble (4294967296 : Nat) then bif ile (↑((List.take (2 : Nat) (List.drop (0 : Nat) [BitVec.ofInt (8 : Nat) (3 : Int), c])).length + List.length (N2 (BitVec.setWidth (64 : Nat) (S (List.take (2 : Nat) (List.drop (0 : Nat) [BitVec.ofInt (8 : Nat) (3 : Int), c]) ++ (bts { data := #[(0 : UInt8), (0 : UInt8), (0 : UInt8), (0 : UInt8)] } ++ B s d p t i st mo o (List.drop (0 : Nat) (List.take (bif ilt (8 : Int) (↑(List.length l) : Int) then (8 : Int) else (↑(List.length l) : Int)).toNat l)))))))) : Int) (9223372036854775807 : Int) then bif ile (↑((List.take (2 : Nat) (List.drop (0 : Nat) [BitVec.ofInt (8 : Nat) (3 : Int), c]) ++ N2 (BitVec.setWidth (64 : Nat) (S (List.take (2 : Nat) (List.drop (0 : Nat) [BitVec.ofInt (8 : Nat) (3 : Int), c]) ++ (bts { data := #[(0 : UInt8), (0 : UInt8), (0 : UInt8), (0 : UInt8)] } ++ B s d p t i st mo o (List.drop (0 : Nat) (List.take (bif ilt (8 : Int) (↑(List.length l) : Int) then (8 : Int) else (↑(List.length l) : Int)).toNat l))))))).length + (bts { data := #[(0 : UInt8), (0 : UInt8), (0 : UInt8), (0 : UInt8)] } ++ B s d p t i st mo o (List.drop (0 : Nat) (List.take (bif ilt (8 : Int) (↑(List.length l) : Int) then (8 : Int) else (↑(List.length l) : Int)).toNat l))).length) : Int) (9223372036854775807 : Int) then K (SV.tup [SV.agg [SV.w32 d, SV.w32 s, SV.w8 (BitVec.ofInt (8 : Nat) (1 : Int)), SV.w8 (BitVec.ofInt (8 : Nat) (64 : Int)), SV.w16 (0 : BitVec (16 : Nat)), SV.b false, SV.b false, SV.w16 (0 : BitVec (16 : Nat)), SV.s (List.take (2 : Nat) (List.drop (0 : Nat) [BitVec.ofInt (8 : Nat) (3 : Int), c]) ++ N2 (BitVec.setWidth (64 : Nat) (S (List.take (2 : Nat) (List.drop (0 : Nat) [BitVec.ofInt (8 : Nat) (3 : Int), c]) ++ (bts { data := #[(0 : UInt8), (0 : UInt8), (0 : UInt8), (0 : UInt8)] } ++ B s d p t i st mo o (List.drop (0 : Nat) (List.take (bif ilt (8 : Int) (↑(List.length l) : Int) then (8 : Int) else (↑(List.length l) : Int)).toNat l)))))) ++ (bts { data := #[(0 : UInt8), (0 : UInt8), (0 : UInt8), (0 : UInt8)] } ++ B s d p t i st mo o (List.drop (0 : Nat) (List.take (bif ilt (8 : Int) (↑(List.length l) : Int) then (8 : Int) else (↑(List.length l) : Int)).toNat l))))], SV.b true]) else False else False else False else False else False else False else False) := by kernel_rfl
def byF : ByF := fun s d p t i st mo o l => byT s d p t i (mkS st mo o) l
theorem byL_ok : POk Try.prog G 26 (cByL byF) := by
  intro args acs r hh β M w hR hw ha
  unfold cByL at hh
  split at hh
  · rename_i s d p t i st mo o l
    exact bytesOf_ok [pkt s d p t i st mo o l] acs r hh β M w hR hw ha
  · cases hh
theorem enL_ok : POk Try.prog G 11 (cEnL enE enR) := by
  intro args acs r hh β M w hR hw ha
  unfold cEnL at hh
  split at hh
  · rename_i s d p t i st mo o l
    exact encodeD_ok [pkt s d p t i st mo o l] acs r hh β M w hR hw ha
  · cases hh
abbrev EBt : Env := EB t2 (t4 t2) sumX nmX icT byF
abbrev EBdt : Env := EBd m2 m4 sumX vl4 enE enR
theorem eb_ok : EnvOk Try.prog EBt := { T := PT.add_ok (PT.add_ok (PT.add_ok ep_ok.T icT_ok) back_ok) byL_ok, C := noC_ok _ _ }
theorem ebd_ok : EnvOk Try.prog EBdt := { T := PT.add_ok er_ok.T enL_ok, C := noC_ok _ _ }
-- Echo
def noE (mo : Bool) (o : BitVec 16) (p : BitVec 8) (l : Tx) : Bool := bif isPc mo o then true else bif !isAk p l then true else bif ilt (l.length : Int) 8 then true else bif List.getD l 1 0 != BitVec.ofInt 8 0 then true else sumX l != BitVec.ofInt 16 0
def z32 (b : Bool) (x : BitVec 32) : BitVec 32 := bif b then 0 else x
def z16 (b : Bool) (x : BitVec 16) : BitVec 16 := bif b then 0 else x
def z8 (b : Bool) (x : BitVec 8) : BitVec 8 := bif b then 0 else x
def zT (b : Bool) (x : Tx) : Tx := bif b then [] else x
def ecL (l : Tx) : Tx := icT (BitVec.ofInt 8 0) (BitVec.ofInt 8 0) (List.drop 4 (List.take l.length l))
abbrev bkP (n : Bool) (s d : BitVec 32) (i : BitVec 16) (m : Tx) : SV := pkt (z32 n d) (z32 n s) (z8 n (BitVec.ofInt 8 1)) (z8 n (BitVec.ofInt 8 64)) (z16 n i) false false 0 (zT n m)
theorem bk_no {n : Bool} (h : n = true) (s d : BitVec 32) (i : BitVec 16) (m : Tx) : SV.tup [pkt 0 0 0 0 0 false false 0 [], .b false] = .tup [bkP n s d i m, .b (!n)] := by subst h; rfl
theorem bk_yes {n : Bool} (h : n = false) (s d : BitVec 32) (i : BitVec 16) (m : Tx) : SV.tup [pkt d s (BitVec.ofInt 8 1) (BitVec.ofInt 8 64) i false false 0 m, .b true] = .tup [bkP n s d i m, .b (!n)] := by subst h; rfl
def cEc : List SV → List Cont → Option (Bool × SV)
  | [.agg [.w32 s, .w32 d, .w8 p, .w8 t, .w16 i, .b st, .b mo, .w16 o, .s l]], _ => some (Nat.ble l.length 4294800000, .tup [bkP (noE mo o p l) s d i (ecL l), .b (!noE mo o p l)])
  | _, _ => none
theorem echo_ok : POk Try.prog G 14 cEc := by
  intro args acs r hh β M w hR hw ha
  unfold cEc at hh
  split at hh
  · rename_i s d p t i st mo o l
    simp only [Option.some.injEq, Prod.mk.injEq] at hh
    obtain ⟨hl, rfl⟩ := hh
    have hl := Nat.le_of_ble_eq_true hl
    refine pokE (E := EBt) rfl eb_ok (noL_ok _ _ _ _) (v14 t2 (t4 t2) sumX nmX icT byF s d p t i st mo o l _) ?_ rfl rfl hR
    cases h1 : isPc mo o
    · cases h2 : !isAk p l
      · cases h3 : ilt (l.length : Int) 8
        · have g3 := of_decide_eq_false ((ilt_eq _ _).symm.trans h3)
          refine bif_of (inR_iff.2 ⟨by omega, by omega⟩) ?_
          cases h4 : List.getD l 1 0 != BitVec.ofInt 8 0
          · refine bif_of (ble_of (by omega)) ?_
            cases h5 : sumX l != BitVec.ofInt 16 0
            · refine bif_of (and_t (ile_of (by omega)) (ile_of (by omega))) (bif_of (ble_of (by simp only [List.length_drop, List.length_take]; omega)) ?_)
              exact bk_yes (by unfold noE; rw [h1, h2, h3, h4, h5]; rfl) s d i (ecL l)
            · exact bk_no (by unfold noE; rw [h1, h2, h3, h4, h5]; rfl) s d i (ecL l)
          · exact bk_no (by unfold noE; rw [h1, h2, h3, h4]; rfl) s d i (ecL l)
        · exact bk_no (by unfold noE; rw [h1, h2, h3]; rfl) s d i (ecL l)
      · exact bk_no (by unfold noE; rw [h1, h2]; rfl) s d i (ecL l)
    · exact bk_no (by unfold noE; rw [h1]; rfl) s d i (ecL l)
  · cases hh
theorem echoD_ok : POk Try.prog G 15 cEc := by
  intro args acs r hh β M w hR hw ha
  unfold cEc at hh
  split at hh
  · rename_i s d p t i st mo o l
    simp only [Option.some.injEq, Prod.mk.injEq] at hh
    obtain ⟨hl, rfl⟩ := hh
    have hl := Nat.le_of_ble_eq_true hl
    refine pokE (E := EBdt) rfl ebd_ok (noL_ok _ _ _ _) (v15 m2 m4 sumX vl4 enE enR s d p t i st mo o l _) ?_ rfl rfl hR
    cases mo
    · cases h1 : o != BitVec.ofInt 16 0
      · have e1 : isPc false o = false := h1
        cases h2 : p != BitVec.ofInt 8 1
        · have e2 : (p == BitVec.ofInt 8 1) = true := by simpa [bne] using h2
          cases h3 : ilt (l.length : Int) 8
          · have g3 := of_decide_eq_false ((ilt_eq _ _).symm.trans h3)
            refine bif_of (inR_iff.2 ⟨by omega, by omega⟩) ?_
            cases h4 : List.getD l 0 0 != BitVec.ofInt 8 8
            · have e4 : (List.getD l 0 0 == BitVec.ofInt 8 8) = true := by simpa [bne] using h4
              have e5 : isAk p l = true := by unfold isAk; rw [e2, ilt_of (by omega), e4]; rfl
              refine bif_of (inR_iff.2 ⟨by omega, by omega⟩) ?_
              cases h6 : List.getD l 1 0 != BitVec.ofInt 8 0
              · refine bif_of (ble_of (by omega)) ?_
                cases h7 : sumX l != BitVec.ofInt 16 0
                · repeat refine bif_of (by first | exact and_t (ile_of (by omega)) (ile_of (by omega)) | exact ble_of (by simp only [List.length_drop, List.length_take]; omega) | exact ile_of (by simp only [List.length_append, m2_len, bts2, List.length_drop, List.length_take]; omega)) ?_
                  have hn : noE false o p l = false := by unfold noE; rw [e1, e5, h3, h6, h7]; rfl
                  have hm : bts { data := #[0, 0] } ++ m2 (BitVec.setWidth 64 (sumX (List.drop 4 (List.take l.length l)))) ++ List.drop 4 (List.take l.length l) = ecL l := by
                    unfold ecL icT
                    rw [m2_t2]
                    have := sum_pre (List.drop 4 (List.take l.length l))
                    show _ = [BitVec.ofInt 8 0, BitVec.ofInt 8 0] ++ t2 (sumX (0 :: 0 :: List.drop 4 (List.take l.length l))) ++ List.drop 4 (List.take l.length l)
                    rw [this]; rfl
                  rw [hm]
                  exact bk_yes hn s d i (ecL l)
                · exact bk_no (by unfold noE; rw [e1, e5, h3, h6, h7]; rfl) s d i (ecL l)
              · exact bk_no (by unfold noE; rw [e1, e5, h3, h6]; rfl) s d i (ecL l)
            · have e4 : (List.getD l 0 0 == BitVec.ofInt 8 8) = false := by simpa [bne] using h4
              have e5 : isAk p l = false := by unfold isAk; rw [e2, ilt_of (by omega), e4]; rfl
              exact bk_no (by unfold noE; rw [e1, e5]; rfl) s d i (ecL l)
          · refine bk_no ?_ s d i (ecL l)
            unfold noE; rw [e1, h3]
            cases isAk p l <;> rfl
        · have e2 : (p == BitVec.ofInt 8 1) = false := by simpa [bne] using h2
          have e5 : isAk p l = false := by unfold isAk; rw [e2]; rfl
          exact bk_no (by unfold noE; rw [e1, e5]; rfl) s d i (ecL l)
      · have e1 : isPc false o = true := h1
        exact bk_no (by unfold noE; rw [e1]; rfl) s d i (ecL l)
    · exact bk_no rfl s d i (ecL l)
  · cases hh
-- Away
def noA (o : BitVec 16) (p : BitVec 8) (l : Tx) : Bool := bif o != BitVec.ofInt 16 0 then true else bif p == BitVec.ofInt 8 1 then !isAk p l else false
def cut8 (l : Tx) : Tx := List.drop 0 (List.take (bif ilt 8 (l.length : Int) then (8 : Int) else (l.length : Int)).toNat l)
theorem cut8_len (l : Tx) : (cut8 l).length ≤ 8 := by
  unfold cut8
  simp only [List.drop_zero, List.length_take]
  cases h : ilt 8 (l.length : Int)
  · have := of_decide_eq_false ((ilt_eq _ _).symm.trans h)
    simp only [cond_false]; omega
  · simp only [cond_true]; omega
def awL (s d : BitVec 32) (p t : BitVec 8) (i : BitVec 16) (st mo : Bool) (o : BitVec 16) (l : Tx) (c : BitVec 8) : Tx := icT (BitVec.ofInt 8 3) c (t4 t2 (BitVec.ofInt 32 0) ++ byF s d p t i st mo o (cut8 l))
theorem by_cut8 (s d : BitVec 32) (p t : BitVec 8) (i : BitVec 16) (st mo : Bool) (o : BitVec 16) (l : Tx) : (byF s d p t i st mo o (cut8 l)).length ≤ 28 := by
  have := cut8_len l
  unfold byF
  rw [by_len]; omega
def cAw : List SV → List Cont → Option (Bool × SV)
  | [.agg [.w32 s, .w32 d, .w8 p, .w8 t, .w16 i, .b st, .b mo, .w16 o, .s l], .w8 c], _ => some (Nat.ble l.length 4294800000, .tup [bkP (noA o p l) s d 0 (awL s d p t i st mo o l c), .b (!noA o p l)])
  | _, _ => none
theorem cut_ok (l : Tx) : (ile ((0 : Nat) : Int) (bif ilt 8 (l.length : Int) then (8 : Int) else (l.length : Int)) && ile (bif ilt 8 (l.length : Int) then (8 : Int) else (l.length : Int)) (l.length : Int)) = true := by
  cases h : ilt 8 (l.length : Int)
  · exact and_t (ile_of (by simp only [cond_false]; omega)) (ile_of (by simp only [cond_false]; omega))
  · have := of_decide_eq_true ((ilt_eq _ _).symm.trans h)
    exact and_t (ile_of (by simp only [cond_true]; omega)) (ile_of (by simp only [cond_true]; omega))
theorem away_ok : POk Try.prog G 16 cAw := by
  intro args acs r hh β M w hR hw ha
  unfold cAw at hh
  split at hh
  · rename_i s d p t i st mo o l c
    simp only [Option.some.injEq, Prod.mk.injEq] at hh
    obtain ⟨hl, rfl⟩ := hh
    have hl := Nat.le_of_ble_eq_true hl
    refine pokE (E := EBt) rfl eb_ok (noL_ok _ _ _ _) (v16 t2 (t4 t2) sumX nmX icT byF s d p t i st mo o l c _) ?_ rfl rfl hR
    have yes : noA o p l = false → (bif ile ((0 : Nat) : Int) (bif ilt 8 (l.length : Int) then (8 : Int) else (l.length : Int)) && ile (bif ilt 8 (l.length : Int) then (8 : Int) else (l.length : Int)) (l.length : Int) then bif (cut8 l).length.ble 4294900000 then bif ile (((t4 t2 (BitVec.ofInt 32 0)).length + (byF s d p t i st mo o (cut8 l)).length : Nat) : Int) 9223372036854775807 then bif (t4 t2 (BitVec.ofInt 32 0) ++ byF s d p t i st mo o (cut8 l)).length.ble 4294900000 then SV.tup [pkt d s (BitVec.ofInt 8 1) (BitVec.ofInt 8 64) (BitVec.ofInt 16 0) false false 0 (awL s d p t i st mo o l c), .b true] = .tup [bkP (noA o p l) s d 0 (awL s d p t i st mo o l c), .b (!noA o p l)] else False else False else False else False) := fun hn => by
      have h1 := by_cut8 s d p t i st mo o l
      have h2 := cut8_len l
      exact bif_of (cut_ok l) (bif_of (ble_of (by omega)) (bif_of (ile_of (by rw [t4_len]; omega)) (bif_of (ble_of (by rw [List.length_append, t4_len]; omega)) (bk_yes hn s d 0 _))))
    cases h1 : o != BitVec.ofInt 16 0
    · cases h2 : p == BitVec.ofInt 8 1
      · exact yes (by unfold noA; rw [h1, h2]; rfl)
      · cases h3 : isAk p l
        · exact bk_no (by unfold noA; rw [h1, h2, h3]; rfl) s d 0 _
        · exact yes (by unfold noA; rw [h1, h2, h3]; rfl)
    · exact bk_no (by unfold noA; rw [h1]; rfl) s d 0 _
  · cases hh
end Go.Proofs.Ytggoncamiafclaa
