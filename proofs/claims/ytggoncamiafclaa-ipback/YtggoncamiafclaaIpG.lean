/-
  ip: what is said back, by the document; pieces' own questions. No statement is proved here.
-/
import Derived.Test.YtggoncamiafclaaIpF
namespace Go.Proofs.Ytggoncamiafclaa
open Go.RowKit
set_option linter.unusedVariables false
set_option linter.unusedSimpArgs false
set_option maxRecDepth 100000

theorem bts4 (a b c d : UInt8) : (bts { data := #[a, b, c, d] }).length = 4 := rfl
theorem tk2 (a b : BitVec 8) : (List.take 2 (List.drop 0 [a, b])).length = 2 := rfl
theorem awayD_ok : POk Try.prog G 17 cAw := by
  intro args acs r hh β M w hR hw ha
  unfold cAw at hh
  split at hh
  · rename_i s d p t i st mo o l c
    simp only [Option.some.injEq, Prod.mk.injEq] at hh
    obtain ⟨hl, rfl⟩ := hh
    have hl := Nat.le_of_ble_eq_true hl
    refine pokE (E := EBdt) rfl ebd_ok (noL_ok _ _ _ _) (v17 m2 m4 sumX vl4 enE enR s d p t i st mo o l c _) ?_ rfl rfl hR
    cases h1 : o != BitVec.ofInt 16 0
    · have e1 : o = BitVec.ofInt 16 0 := by simpa [bne] using h1
      have hc8 := cut8_len l
      have hb8 := by_cut8 s d p t i st mo o l
      have hB : enR s d p t i st mo o (cut8 l) = byF s d p t i st mo o (cut8 l) := by
        unfold enR
        rw [ilt_no (by omega), e1]; rfl
      have hcut := cut_ok l
      have hfin : ∀ m : Tx, List.take 2 (List.drop 0 [BitVec.ofInt 8 3, c]) ++ m2 (BitVec.setWidth 64 (sumX (List.take 2 (List.drop 0 [BitVec.ofInt 8 3, c]) ++ (bts { data := #[0, 0, 0, 0] } ++ m)))) ++ (bts { data := #[0, 0, 0, 0] } ++ m) = icT (BitVec.ofInt 8 3) c (t4 t2 (BitVec.ofInt 32 0) ++ m) := fun m => by rw [m2_t2]; rfl
      have hA : awL s d p t i st mo o l c = icT (BitVec.ofInt 8 3) c (t4 t2 (BitVec.ofInt 32 0) ++ byF s d p t i st mo o (cut8 l)) := rfl
      have fin : ∀ m : Tx, m.length ≤ 28 → awL s d p t i st mo o l c = icT (BitVec.ofInt 8 3) c (t4 t2 (BitVec.ofInt 32 0) ++ m) → noA o p l = false → SV.tup [pkt d s (BitVec.ofInt 8 1) (BitVec.ofInt 8 64) 0 false false 0 (List.take 2 (List.drop 0 [BitVec.ofInt 8 3, c]) ++ m2 (BitVec.setWidth 64 (sumX (List.take 2 (List.drop 0 [BitVec.ofInt 8 3, c]) ++ (bts { data := #[0, 0, 0, 0] } ++ m)))) ++ (bts { data := #[0, 0, 0, 0] } ++ m)), .b true] = .tup [bkP (noA o p l) s d 0 (awL s d p t i st mo o l c), .b (!noA o p l)] := fun m _ he hn => by
        rw [hfin m, ← he]; exact bk_yes hn s d 0 _
      unfold cut8 at hB hb8 hc8
      rw [← hB] at hb8
      have hA' : awL s d p t i st mo o l c = icT (BitVec.ofInt 8 3) c (t4 t2 (BitVec.ofInt 32 0) ++ enR s d p t i st mo o (List.drop 0 (List.take (bif ilt 8 (l.length : Int) then (8 : Int) else (l.length : Int)).toNat l))) := by rw [hB]; rfl
      generalize enR s d p t i st mo o (List.drop 0 (List.take (bif ilt 8 (l.length : Int) then (8 : Int) else (l.length : Int)).toNat l)) = m at hb8 hA' ⊢
      have yes := fin m hb8 hA'
      cases h2 : p == BitVec.ofInt 8 1
      · have hn : noA o p l = false := by unfold noA; rw [h1, h2]; rfl
        refine bif_of hcut (bif_of (ble_of (by omega)) ?_)
        repeat refine bif_of (by first | exact inI_iff.2 (by (try simp only [List.length_append, tk2, m2_len, bts4]); omega) | exact ile_of (by (try simp only [List.length_append, tk2, m2_len, bts4]); omega) | exact ble_of (by (try simp only [List.length_append, tk2, m2_len, bts4]); omega) | exact inR_iff.2 (by (try simp only [List.length_append, tk2, m2_len, bts4]); omega) | exact and_t (ile_of (by (try simp only [List.length_append, tk2, m2_len, bts4]); omega)) (ile_of (by (try simp only [List.length_append, tk2, m2_len, bts4]); omega))) ?_
        exact yes hn
      · cases h3 : l == bts { data := #[] }
        · have h0 : 0 < l.length := by
            cases l with
            | nil => cases h3
            | cons x l => simp
          refine bif_of (inR_iff.2 ⟨by omega, by omega⟩) ?_
          cases h4 : List.getD l 0 0 != BitVec.ofInt 8 8
          · have e4 : (List.getD l 0 0 == BitVec.ofInt 8 8) = true := by simpa [bne] using h4
            have hn : noA o p l = false := by unfold noA isAk; rw [h1, h2, e4, ilt_of (by omega)]; rfl
            refine bif_of hcut (bif_of (ble_of (by omega)) ?_)
            repeat refine bif_of (by first | exact inI_iff.2 (by (try simp only [List.length_append, tk2, m2_len, bts4]); omega) | exact ile_of (by (try simp only [List.length_append, tk2, m2_len, bts4]); omega) | exact ble_of (by (try simp only [List.length_append, tk2, m2_len, bts4]); omega) | exact inR_iff.2 (by (try simp only [List.length_append, tk2, m2_len, bts4]); omega) | exact and_t (ile_of (by (try simp only [List.length_append, tk2, m2_len, bts4]); omega)) (ile_of (by (try simp only [List.length_append, tk2, m2_len, bts4]); omega))) ?_
            exact yes hn
          · have e4 : (List.getD l 0 0 == BitVec.ofInt 8 8) = false := by simpa [bne] using h4
            exact bk_no (by unfold noA isAk; rw [h1, h2, e4, ilt_of (by omega)]; rfl) s d 0 _
        · have e : l = [] := eq_of_beq h3
          subst e
          exact bk_no (by unfold noA isAk; rw [h1, h2]; rfl) s d 0 _
    · exact bk_no (by unfold noA; rw [h1]; rfl) s d 0 _
  · cases hh
-- pieces
abbrev pcs (a : Int) (m : Tx) (b : Bool) (t : BitVec 8) : SV := .agg [.i a, .s m, .b b, .w8 t]
theorem v54 (a : Int) (m : Tx) (b : Bool) (t : BitVec 8) (K : SV → Prop) : (vf Try.prog E0 noL 54 [pcs a m b t] G (fun r _ => K r)) = (bif inI (a + (↑(List.length m) : Int)) then K (SV.i (a + (↑(List.length m) : Int))) else False) := by kernel_rfl
theorem v56 (a : Int) (m : Tx) (b : Bool) (t : BitVec 8) (a' : Int) (m' : Tx) (b' : Bool) (t' : BitVec 8) (K : SV → Prop) : (vf Try.prog E0 noL 56 [pcs a m b t, pcs a' m' b' t'] G (fun r _ => K r)) = (bif a == a' then bif bif true then bif false then !b == b' else b == b' else false then K (SV.b (bif true then m == m' else false)) else K (SV.b false) else K (SV.b false)) := by kernel_rfl
theorem v77 (a : Int) (K : SV → Prop) : (vf Try.prog E0 noL 77 [.i a] G (fun r _ => K r)) = (K (SV.b (a != a))) := by kernel_rfl
def cEnd : List SV → List Cont → Option (Bool × SV)
  | [.agg [.i a, .s m, .b _, .w8 _]], _ => some (inI (a + (m.length : Int)), .i (a + (m.length : Int)))
  | _, _ => none
def cSame (F : Int → Tx → Bool → Int → Tx → Bool → Bool) : List SV → List Cont → Option (Bool × SV)
  | [.agg [.i a, .s m, .b b, .w8 _], .agg [.i a', .s m', .b b', .w8 _]], _ => some (true, .b (F a m b a' m' b'))
  | _, _ => none
def sameP (a : Int) (m : Tx) (b : Bool) (a' : Int) (m' : Tx) (b' : Bool) : Bool := bif bif a == a' then b == b' else false then m == m' else false
def cNaN : List SV → List Cont → Option (Bool × SV)
  | [.i _], _ => some (true, .b false)
  | _, _ => none
theorem end_ok : POk Try.prog G 54 cEnd := by
  intro args acs r hh β M w hR hw ha
  unfold cEnd at hh
  split at hh
  · rename_i a m b t
    simp only [Option.some.injEq, Prod.mk.injEq] at hh
    obtain ⟨hl, rfl⟩ := hh
    exact pokE (E := E0) rfl e0_ok (noL_ok _ _ _ _) (v54 a m b t _) (bif_of hl rfl) rfl rfl hR
  · cases hh
theorem same_ok : POk Try.prog G 56 (cSame sameP) := by
  intro args acs r hh β M w hR hw ha
  unfold cSame at hh
  split at hh
  · rename_i a m b t a' m' b' t'
    simp only [Option.some.injEq, Prod.mk.injEq, true_and] at hh
    subst hh
    refine pokE (E := E0) rfl e0_ok (noL_ok _ _ _ _) (v56 a m b t a' m' b' t' _) ?_ rfl rfl hR
    unfold sameP
    cases a == a'
    · rfl
    · cases hb : b == b'
      · rfl
      · rfl
  · cases hh
theorem nan_ok : POk Try.prog G 77 cNaN := by
  intro args acs r hh β M w hR hw ha
  unfold cNaN at hh
  split at hh
  · rename_i a
    simp only [Option.some.injEq, Prod.mk.injEq, true_and] at hh
    subst hh
    exact pokE rfl e0_ok (noL_ok _ _ _ _) (v77 a _) (congrArg SV.b (by simp)) rfl rfl hR
  · cases hh
def ENa : Env := { G := G, T := ((T0.add 77 cNaN).add 54 cEnd).add 56 (cSame sameP), C := noC }
theorem ena_ok : EnvOk Try.prog ENa := { T := PT.add_ok (PT.add_ok (PT.add_ok t0_ok nan_ok) end_ok) same_ok, C := noC_ok _ _ }
theorem v65 (a b : Int) (K : SV → Prop) : (vf Try.prog ENa noL 65 [.i a, .i b] G (fun r _ => K r)) = (bif ilt a b then K (SV.i (-1)) else bif ilt b a then K (SV.i 1) else K (SV.i 0)) := by kernel_rfl
theorem v59 (a : Int) (m : Tx) (b : Bool) (t : BitVec 8) (a' : Int) (m' : Tx) (b' : Bool) (t' : BitVec 8) (K : SV → Prop) : (vf Try.prog ENa noL 59 [pcs a m b t, pcs a' m' b' t'] G (fun r _ => K r)) = (bif b then bif inI (a + (↑(List.length m) : Int)) then K (SV.b (bif true then ile (a + (↑(List.length m) : Int)) a' else false)) else False else K (SV.b false)) := by kernel_rfl
theorem v49 (a : Int) (m : Tx) (b : Bool) (t : BitVec 8) (K : SV → Prop) : (vf Try.prog ENa noL 49 [pcs a m b t] G (fun r _ => K r)) = (bif m == bts { data := #[] } then K (SV.i 8) else bif b then bif bif false then true else bif true then (↑(List.length m) : Int).tmod 8 != 0 else false then K (SV.i 8) else bif inI (a + (↑(List.length m) : Int)) then bif ilt 8192 (a + (↑(List.length m) : Int)) then K (SV.i 4) else K (SV.i 0) else False else bif inI (a + (↑(List.length m) : Int)) then bif ilt 8192 (a + (↑(List.length m) : Int)) then K (SV.i 4) else K (SV.i 0) else False) := by kernel_rfl
def cmpI (a b : Int) : Int := bif ilt a b then -1 else bif ilt b a then 1 else 0
def cCmp : List SV → List Cont → Option (Bool × SV)
  | [.i a, .i b], _ => some (true, .i (cmpI a b))
  | _, _ => none
theorem cmp_ok : POk Try.prog G 65 cCmp := by
  intro args acs r hh β M w hR hw ha
  unfold cCmp at hh
  split at hh
  · rename_i a b
    simp only [Option.some.injEq, Prod.mk.injEq, true_and] at hh
    subst hh
    refine pokE rfl ena_ok (noL_ok _ _ _ _) (v65 a b _) ?_ rfl rfl hR
    unfold cmpI
    cases ilt a b <;> cases ilt b a <;> rfl
  · cases hh
def fitP (a : Int) (m : Tx) (b : Bool) (a' : Int) : Bool := bif b then ile (a + (m.length : Int)) a' else false
def cFit : List SV → List Cont → Option (Bool × SV)
  | [.agg [.i a, .s m, .b b, .w8 _], .agg [.i a', .s _, .b _, .w8 _]], _ => some (inI (a + (m.length : Int)), .b (fitP a m b a'))
  | _, _ => none
theorem fits_ok : POk Try.prog G 59 cFit := by
  intro args acs r hh β M w hR hw ha
  unfold cFit at hh
  split at hh
  · rename_i a m b t a' m' b' t'
    simp only [Option.some.injEq, Prod.mk.injEq] at hh
    obtain ⟨hl, rfl⟩ := hh
    refine pokE (E := ENa) rfl ena_ok (noL_ok _ _ _ _) (v59 a m b t a' m' b' t' _) ?_ rfl rfl hR
    unfold fitP
    cases b
    · rfl
    · exact bif_of hl rfl
  · cases hh
/-- Why it can be a piece of nothing. -/
def wrE (a : Int) (m : Tx) (b : Bool) : Int := bif m == [] then 8 else bif bif b then ((m.length : Int).tmod 8) != 0 else false then 8 else bif ilt 8192 (a + (m.length : Int)) then 4 else 0
def cWr : List SV → List Cont → Option (Bool × SV)
  | [.agg [.i a, .s m, .b b, .w8 _]], _ => some (inI (a + (m.length : Int)), .i (wrE a m b))
  | _, _ => none
theorem wrong_ok : POk Try.prog G 49 cWr := by
  intro args acs r hh β M w hR hw ha
  unfold cWr at hh
  split at hh
  · rename_i a m b t
    simp only [Option.some.injEq, Prod.mk.injEq] at hh
    obtain ⟨hl, rfl⟩ := hh
    refine pokE (E := ENa) rfl ena_ok (noL_ok _ _ _ _) (v49 a m b t _) ?_ rfl rfl hR
    unfold wrE
    show bif m == [] then _ else _
    cases hm : m == []
    · cases b
      · exact bif_of hl (by cases ilt 8192 (a + (m.length : Int)) <;> rfl)
      · show bif (m.length : Int).tmod 8 != 0 then _ else _
        cases ht : (m.length : Int).tmod 8 != 0
        · exact bif_of hl (by cases ilt 8192 (a + (m.length : Int)) <;> rfl)
        · rfl
    · rfl
  · cases hh
def EBp : Env := { G := G, T := ENa.T.add 65 cCmp, C := noC }
theorem ebp_ok : EnvOk Try.prog EBp := { T := PT.add_ok ena_ok.T cmp_ok, C := noC_ok _ _ }
theorem v58 (a : Int) (m : Tx) (b : Bool) (t : BitVec 8) (a' : Int) (m' : Tx) (b' : Bool) (t' : BitVec 8) (K : SV → Prop) : (vf Try.prog EBp noL 58 [pcs a m b t, pcs a' m' b' t'] G (fun r _ => K r)) = (K (SV.i (cmpI a a'))) := by kernel_rfl
-- rows of pieces
def rowE (b : Bool) (l : List Pc) : Ent := ⟨b, .recs (some 92) fsP [] l⟩
def pcq (a : Int) (m : Tx) (b : Bool) (r : Pc) : Bool := sameP a m b r.1 r.2.1 r.2.2.1
def i62 (a : Int) (m : Tx) (b : Bool) (t : BitVec 8) (len cap i : Nat) : List (Nat × SV) := [(0, .rs 0 0 0 4 len cap), (1, .fm 56 [pcs a m b t]), (7, .i (len : Nat)), (8, .i (i : Nat))]
theorem r62 (l : List Pc) (a : Int) (m : Tx) (b : Bool) (t : BitVec 8) (len cap i : Nat) (x : Int) (p q z : Prop) : (frK 19 (i62 a m b t len cap i) fun fr => vround Try.prog ENa noL 62 0 fr [rowE false l] (Kt [rowE false l] 0 19 p (i62 a m b t len cap (i + 1)) [rowE false l] q [] [rowE false l] z [(4, .i x)] [rowE false l])) = (bif ilt (↑i : Int) (↑len : Int) then bif inR (↑i : Int) len then bif rok 0 i 4 fsP [] l.length && true then bif sameP a m b (l.getD i (rz fsP)).fst (l.getD i (rz fsP)).snd.fst (l.getD i (rz fsP)).snd.snd.fst then z ∧ SV.i (↑i : Int) = SV.i x ∧ (false = false ∧ Cont.recs (some 92) fsP [] l = Cont.recs (some 92) fsP [] l) ∧ True else bif inI ((↑i : Int) + 1) then p ∧ SV.rs 0 0 0 4 len cap = SV.rs 0 0 0 4 len cap ∧ SV.fm 56 [pcs a m b t] = SV.fm 56 [pcs a m b t] ∧ SV.i (↑len : Int) = SV.i (↑len : Int) ∧ SV.i ((↑i : Int) + 1) = SV.i (↑(i + 1) : Int) ∧ (false = false ∧ Cont.recs (some 92) fsP [] l = Cont.recs (some 92) fsP [] l) ∧ True else False else False else False else 0 = 0 ∧ q ∧ (false = false ∧ Cont.recs (some 92) fsP [] l = Cont.recs (some 92) fsP [] l) ∧ True) := by kernel_rfl
def L62 (l : List Pc) (a : Int) (m : Tx) (b : Bool) (t : BitVec 8) (len cap : Nat) (x : Int) (q z : Prop) : LT := noL.add 0 (vLoopR [rowE false l] 19 (i62 a m b t len cap 0) [rowE false l] q [] [rowE false l] z [(4, .i x)] [rowE false l])
theorem v62 (l : List Pc) (a : Int) (m : Tx) (b : Bool) (t : BitVec 8) (len cap : Nat) (x : Int) (q z : Prop) (K : SV → Prop) : (vf Try.prog ENa (L62 l a m b t len cap x q z) 62 [.rs 0 0 0 4 len cap, .fm 56 [pcs a m b t]] [rowE false l] (fun r _ => K r)) = (loopOf Try.prog 62 0 = loopOf Try.prog 62 0 ∧ SV.rs 0 0 0 4 len cap = SV.rs 0 0 0 4 len cap ∧ SV.fm 56 [pcs a m b t] = SV.fm 56 [pcs a m b t] ∧ SV.i (↑len : Int) = SV.i (↑len : Int) ∧ SV.i 0 = SV.i (↑0 : Int) ∧ (false = false ∧ Cont.recs (some 92) fsP [] l = Cont.recs (some 92) fsP [] l) ∧ (q → K (SV.i (-1))) ∧ (z → K (SV.i x))) := by kernel_rfl
def L62z (P : Program) : LT := noL.add 0 (vUn P ENa noL 62 0 1)
theorem v62z (a : Int) (m : Tx) (b : Bool) (t : BitVec 8) (K : SV → Prop) : (vf Try.prog ENa (L62z Try.prog) 62 [.v (.slice none 0 0), .fm 56 [pcs a m b t]] G (fun r _ => K r)) = (loopOf Try.prog 62 0 = loopOf Try.prog 62 0 ∧ K (SV.i (-1))) := by kernel_rfl
end Go.Proofs.Ytggoncamiafclaa
