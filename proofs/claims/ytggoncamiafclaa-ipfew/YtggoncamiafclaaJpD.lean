/-
  ip: what is written is read again, whatever stands behind it; what is said back has the right sum. No statement is proved here.
-/
import Derived.Test.YtggoncamiafclaaJpB
namespace Go.Proofs.Ytggoncamiafclaa
open Go.RowKit
set_option linter.unusedVariables false
set_option linter.unusedSimpArgs false
set_option maxRecDepth 100000

theorem or8 (a b : Nat) (h : b < 256) : (a * 256) ||| b = a * 256 + b := by
  have := Nat.two_pow_add_eq_or_of_lt (i := 8) (b := b) h a
  rw [Nat.mul_comm a 256]
  exact this.symm
theorem nm_one (x : BitVec 32) (b : BitVec 8) (h : x.toNat < 2 ^ 24) : (x <<< 8 ||| b.setWidth 32).toNat = x.toNat * 256 + b.toNat := by
  have hb := b.isLt
  rw [BitVec.toNat_or, BitVec.toNat_shiftLeft, BitVec.toNat_setWidth, Nat.shiftLeft_eq, Nat.mod_eq_of_lt (by omega), Nat.mod_eq_of_lt (by omega)]
  exact or8 _ _ (by omega)
theorem nm_1 (a : BitVec 8) : (nmN [a] 1).toNat = a.toNat := by
  show ((0 : BitVec 32) <<< 8 ||| a.setWidth 32).toNat = a.toNat
  rw [nm_one 0 a (by decide), show (0 : BitVec 32).toNat = 0 from rfl, Nat.zero_mul, Nat.zero_add]
theorem nm_two (a b : BitVec 8) : (nmX [a, b]).toNat = a.toNat * 256 + b.toNat := by
  have ha := a.isLt
  have h1 := nm_1 a
  show (nmN [a] 1 <<< 8 ||| b.setWidth 32).toNat = _
  rw [nm_one _ _ (by omega), h1]
theorem nm_three (a b c : BitVec 8) : (nmN [a, b, c] 3).toNat = (a.toNat * 256 + b.toNat) * 256 + c.toNat := by
  have ha := a.isLt
  have hb := b.isLt
  have h1 := nm_two a b
  show (nmX [a, b] <<< 8 ||| c.setWidth 32).toNat = _
  rw [nm_one _ _ (by omega), h1]
theorem nm_four (a b c d : BitVec 8) : (nmX [a, b, c, d]).toNat = ((a.toNat * 256 + b.toNat) * 256 + c.toNat) * 256 + d.toNat := by
  have ha := a.isLt
  have hb := b.isLt
  have hc := c.isLt
  have h1 := nm_three a b c
  show (nmN [a, b, c] 3 <<< 8 ||| d.setWidth 32).toNat = _
  rw [nm_one _ _ (by omega), h1]
theorem nm_t2 (x : BitVec 16) : (nmX (t2 x)).toNat = x.toNat := by
  have := x.isLt
  unfold t2
  rw [nm_two]
  simp only [BitVec.toNat_setWidth, BitVec.toNat_ushiftRight, Nat.shiftRight_eq_div_pow]
  omega
theorem nm_t2w (x : BitVec 16) : BitVec.setWidth 16 (nmX (t2 x)) = x := by
  apply BitVec.eq_of_toNat_eq
  rw [BitVec.toNat_setWidth, nm_t2, Nat.mod_eq_of_lt x.isLt]
theorem nm_t4 (x : BitVec 32) : nmX (t4 t2 x) = x := by
  have := x.isLt
  apply BitVec.eq_of_toNat_eq
  show (nmX [_, _, _, _]).toNat = _
  rw [nm_four]
  simp only [BitVec.toNat_setWidth, BitVec.toNat_ushiftRight, Nat.shiftRight_eq_div_pow]
  omega
-- the marks
theorem mkS_nat (st mo : Bool) (o : BitVec 16) (h : o.toNat < 8192) : (mkS st mo o).toNat = o.toNat + (bif st then 16384 else 0) + (bif mo then 8192 else 0) := by
  cases st <;> cases mo
  · rfl
  · exact mk13 o (by omega)
  · exact mk14 o h
  · have e := mk14 o h
    have e2 := mk13 (o ||| BitVec.ofInt 16 16384) (by omega)
    show ((o ||| BitVec.ofInt 16 16384) ||| BitVec.ofInt 16 8192).toNat = _
    rw [e2, e]; rfl
theorem and_bit (x : BitVec 16) (k : Nat) (c : BitVec 16) (hc : c.toNat = 2 ^ k) (hk : 0 < 2 ^ k) : (x &&& c != BitVec.ofInt 16 0) = decide (x.toNat / 2 ^ k % 2 = 1) := by
  have h := and_pow x.toNat k
  rw [Nat.testBit_eq_decide_div_mod_eq] at h
  have e3 : (BitVec.ofInt 16 0).toNat = 0 := rfl
  have ht : (x &&& c).toNat = x.toNat &&& 2 ^ k := by rw [BitVec.toNat_and, hc]
  by_cases q : x.toNat / 2 ^ k % 2 = 1
  · rw [decide_eq_true q]
    rw [decide_eq_true q, if_pos rfl] at h
    rw [bne_iff_ne]
    intro hh
    have := congrArg BitVec.toNat hh
    rw [ht, h, e3] at this
    omega
  · rw [decide_eq_false q]
    rw [decide_eq_false q, if_neg (by simp)] at h
    have : x &&& c = BitVec.ofInt 16 0 := by
      apply BitVec.eq_of_toNat_eq
      rw [ht, h, e3]
    rw [this]; rfl
theorem mk_15 (st mo : Bool) (o : BitVec 16) (h : o.toNat < 8192) : (mkS st mo o &&& BitVec.ofInt 16 32768 != BitVec.ofInt 16 0) = false := by
  rw [and_bit _ 15 _ rfl (by decide), mkS_nat st mo o h]
  cases st <;> cases mo <;> exact decide_eq_false (by simp only [cond_true, cond_false]; omega)
theorem mk_14 (st mo : Bool) (o : BitVec 16) (h : o.toNat < 8192) : (mkS st mo o &&& BitVec.ofInt 16 16384 != BitVec.ofInt 16 0) = st := by
  rw [and_bit _ 14 _ rfl (by decide), mkS_nat st mo o h]
  cases st <;> cases mo <;> first | exact decide_eq_false (by simp only [cond_true, cond_false]; omega) | exact decide_eq_true (by simp only [cond_true, cond_false]; omega)
theorem mk_13 (st mo : Bool) (o : BitVec 16) (h : o.toNat < 8192) : (mkS st mo o &&& BitVec.ofInt 16 8192 != BitVec.ofInt 16 0) = mo := by
  rw [and_bit _ 13 _ rfl (by decide), mkS_nat st mo o h]
  cases st <;> cases mo <;> first | exact decide_eq_false (by simp only [cond_true, cond_false]; omega) | exact decide_eq_true (by simp only [cond_true, cond_false]; omega)
theorem mk_off (st mo : Bool) (o : BitVec 16) (h : o.toNat < 8192) : mkS st mo o % BitVec.ofInt 16 8192 = o := by
  apply BitVec.eq_of_toNat_eq
  have e : (BitVec.ofInt 16 8192).toNat = 8192 := rfl
  rw [BitVec.toNat_umod, e, mkS_nat st mo o h]
  cases st <;> cases mo <;> (simp only [cond_true, cond_false]; omega)
-- a packet's bytes, with others behind
section
variable (a b : BitVec 32) (c t : BitVec 8) (d : BitVec 16) (st mo : Bool) (o : BitVec 16) (m s : Tx)
theorem back_sz (hm : m.length ≤ 1480) : szn (byT a b c t d (mkS st mo o) m ++ s) = 20 + m.length := by
  show (nmX (t2 (BitVec.ofInt 16 (20 + (m.length : Int))))).toNat = _
  rw [nm_t2, BitVec.toNat_ofInt]
  omega
theorem back_mk : mkn (byT a b c t d (mkS st mo o) m ++ s) = mkS st mo o := nm_t2w _
theorem back_hd : hdn (byT a b c t d (mkS st mo o) m ++ s) = 20 := by kernel_rfl
theorem back_len : (byT a b c t d (mkS st mo o) m ++ s).length = 20 + m.length + s.length := by rw [List.length_append, by_len]
theorem back_e (ho : o.toNat < 8192) (hm : m.length ≤ 1480) : deE (byT a b c t d (mkS st mo o) m ++ s) = 0 := by
  have h0 : ilt ((byT a b c t d (mkS st mo o) m ++ s).length : Int) 20 = false := ilt_no (by rw [back_len]; omega)
  have h1 : badF (byT a b c t d (mkS st mo o) m ++ s) = false := by
    unfold badF
    rw [back_hd, back_sz a b c t d st mo o m s hm, back_mk, mk_15 st mo o ho]
    have e1 : ((List.getD (byT a b c t d (mkS st mo o) m ++ s) 0 0) >>> 4 != BitVec.ofInt 8 4) = false := by kernel_rfl
    have e2 : ilt 20 20 = false := rfl
    have e3 : ilt (((20 + m.length : Nat) : Nat) : Int) 20 = false := ilt_no (by omega)
    rw [e1, e2, e3]; rfl
  have h2 : ilt ((byT a b c t d (mkS st mo o) m ++ s).length : Int) ((szn (byT a b c t d (mkS st mo o) m ++ s) : Nat) : Int) = false := by
    rw [back_sz a b c t d st mo o m s hm]; exact ilt_no (by rw [back_len]; omega)
  have h3 : sumX (List.drop 0 (List.take (hdn (byT a b c t d (mkS st mo o) m ++ s)).toNat (byT a b c t d (mkS st mo o) m ++ s))) = BitVec.ofInt 16 0 := by
    rw [back_hd]
    have ht : List.drop 0 (List.take (20 : Int).toNat (byT a b c t d (mkS st mo o) m ++ s)) = hdT a b c t d (mkS st mo o) (BitVec.ofInt 16 (20 + (m.length : Int))) ++ (t2 (sumX (hdT a b c t d (mkS st mo o) (BitVec.ofInt 16 (20 + (m.length : Int))) ++ enT a b)) ++ enT a b) := by kernel_rfl
    rw [ht]
    exact sum_self _ _ (by rw [hd_len])
  unfold deE
  rw [h0, h1, h2, h3]; rfl
theorem back_l (hm : m.length ≤ 1480) : List.drop (hdn (byT a b c t d (mkS st mo o) m ++ s)).toNat (List.take (szn (byT a b c t d (mkS st mo o) m ++ s)) (byT a b c t d (mkS st mo o) m ++ s)) = m := by
  rw [back_sz a b c t d st mo o m s hm, back_hd]
  have e : (20 : Int).toNat = 20 := rfl
  rw [e, List.take_append_of_le_length (by rw [by_len]; exact Nat.le_refl _), List.take_of_length_le (by rw [by_len]; exact Nat.le_refl _)]
  rfl
theorem back_all (ho : o.toNat < 8192) (hm : m.length ≤ 1480) : (fun X => deE X = 0 ∧ dS X = a ∧ dD X = b ∧ dP X = c ∧ dT X = t ∧ dI X = d ∧ dSt X = st ∧ dMo X = mo ∧ dO X = o ∧ dL X = m) (byT a b c t d (mkS st mo o) m ++ s) := by
  have he := back_e a b c t d st mo o m s ho hm
  have hk : okD (byT a b c t d (mkS st mo o) m ++ s) = true := by unfold okD; rw [he]; rfl
  unfold dS dD dP dT dI dSt dMo dO dL
  simp only [hk, cond_true]
  refine ⟨he, nm_t4 a, nm_t4 b, rfl, rfl, nm_t2w d, ?_, ?_, ?_, back_l a b c t d st mo o m s hm⟩
  · rw [back_mk]; exact mk_14 st mo o ho
  · rw [back_mk]; exact mk_13 st mo o ho
  · rw [back_mk]; exact mk_off st mo o ho
end
theorem ic_len (x y : BitVec 8) (r : Tx) : (icT x y r).length = 4 + r.length := by
  show ([x, y] ++ t2 _ ++ r).length = _
  rw [List.length_append]
  rfl
theorem ic_sum (x y : BitVec 8) (r : Tx) : sumX (icT x y r) = 0 := by
  unfold icT
  rw [List.append_assoc]
  exact sum_self [x, y] r (by simp)
theorem ec_all (m : Tx) (h : 8 ≤ m.length) : sumX (ecL m) = 0 ∧ (ecL m).length = m.length ∧ List.drop 4 (ecL m) = List.drop 4 m ∧ List.getD (ecL m) 0 0 = 0 := by
  refine ⟨ic_sum _ _ _, ?_, ?_, rfl⟩
  · unfold ecL; rw [ic_len, List.take_length, List.length_drop]; omega
  · unfold ecL
    rw [List.take_length]
    rfl
theorem aw_all (s d : BitVec 32) (p t : BitVec 8) (i : BitVec 16) (st mo : Bool) (o : BitVec 16) (l : Tx) (c : BitVec 8) : sumX (awL s d p t i st mo o l c) = 0 ∧ 4 ≤ (awL s d p t i st mo o l c).length ∧ (awL s d p t i st mo o l c).length ≤ 64 ∧ List.getD (awL s d p t i st mo o l c) 0 0 = BitVec.ofInt 8 3 ∧ List.getD (awL s d p t i st mo o l c) 1 0 = c := by
  refine ⟨ic_sum _ _ _, ?_, ?_, rfl, rfl⟩
  · unfold awL; rw [ic_len]; omega
  · unfold awL
    rw [ic_len, List.length_append]
    have h := by_cut8 s d p t i st mo o l
    have e : (t4 t2 (BitVec.ofInt 32 0)).length = 4 := rfl
    omega
theorem bif_no {c : Bool} {p q : Prop} (h : c = false) (hq : q) : bif c then p else q := by rw [h]; exact hq
theorem law4_ok (k : BitVec 8) (a b : BitVec 32) (c ttl : BitVec 8) (d : BitVec 16) (stay more : Bool) (off : BitVec 16) (m s : Tx) : Spec Try.prog G 4 [.agg [.w32 a, .w32 b, .w8 c, .w8 ttl, .w16 d, .b stay, .b more, .w16 off, .s m], .s s, .w8 k] G (fun r _ => r = .b true) := by
  refine vf_ok ez_ok mixed (noL_ok _ _ _ _) (of_eq (v4 k a b c ttl d stay more off m s _) ?_)
  cases h1 : ilt 8192 ((List.length m : Nat) : Int)
  · cases h2 : ilt 1024 ((List.length s : Nat) : Int)
    · have g1 := of_decide_eq_false ((ilt_eq _ _).symm.trans h1)
      have g2 := of_decide_eq_false ((ilt_eq _ _).symm.trans h2)
      have hm : List.length m ≤ 8192 := by omega
      have hs : List.length s ≤ 1024 := by omega
      have aw := aw_all a b c ttl d stay more off m k
      generalize awL a b c ttl d stay more off m k = A at aw ⊢
      obtain ⟨w1, w2, w3, w4, w5⟩ := aw
      have w6 : Nat.ble (List.length A) 4294967296 = true := ble_of (by omega)
      have w7 : inR 0 (List.length A) = true := inR_iff.2 ⟨by omega, by omega⟩
      have w8 : inR 1 (List.length A) = true := inR_iff.2 ⟨by omega, by omega⟩
      have z : BitVec.ofInt 16 0 = 0 := rfl
      have z8 : BitVec.ofInt 8 0 = 0 := rfl
      have hA : ∀ Q : Prop, (bif (List.length m).ble 4294800000 then bif !noA off c m then bif z32 (noA off c m) b != b then Q else bif bif false then true else z32 (noA off c m) a != a then Q else bif (List.length (zT (noA off c m) A)).ble 4294967296 then bif bif false then true else sumX (zT (noA off c m) A) != BitVec.ofInt 16 0 then Q else bif inR 0 (List.length (zT (noA off c m) A)) then bif bif false then true else List.getD (zT (noA off c m) A) 0 0 != BitVec.ofInt 8 3 then Q else bif inR 1 (List.length (zT (noA off c m) A)) then bif bif true then bif false then true else List.getD (zT (noA off c m) A) 1 0 != k else false then Q else (SV.b true = SV.b true) else False else False else False else (SV.b true = SV.b true) else False) := by
        intro Q
        rw [ble_big hm (by decide : 8192 ≤ 4294800000)]
        cases hn : noA off c m
        · show bif b != b then _ else bif bif false then true else a != a then _ else bif (List.length A).ble 4294967296 then bif bif false then true else sumX A != BitVec.ofInt 16 0 then _ else bif inR 0 (List.length A) then bif bif false then true else List.getD A 0 0 != BitVec.ofInt 8 3 then _ else bif inR 1 (List.length A) then bif bif true then bif false then true else List.getD A 1 0 != k else false then _ else _ else False else False else False
          simp only [bne_self_eq_false, cond_false, cond_true, w1, w4, w5, w6, w7, w8, z]
        · rfl
      have hE : ∀ Q R : Prop, R → (bif (List.length m).ble 4294800000 then bif !noE more off c m then bif z32 (noE more off c m) b != b then Q else bif bif false then true else z32 (noE more off c m) a != a then Q else bif (List.length (zT (noE more off c m) (ecL m))).ble 4294967296 then bif bif false then true else sumX (zT (noE more off c m) (ecL m)) != BitVec.ofInt 16 0 then Q else bif bif false then true else (↑(List.length (zT (noE more off c m) (ecL m))) : Int) != (↑(List.length m) : Int) then Q else bif ile 4 (↑(List.length (zT (noE more off c m) (ecL m))) : Int) && ile (↑(List.length (zT (noE more off c m) (ecL m))) : Int) (↑(List.length (zT (noE more off c m) (ecL m))) : Int) then bif ile 4 (↑(List.length m) : Int) && ile (↑(List.length m) : Int) (↑(List.length m) : Int) then bif bif false then true else !List.drop 4 (List.take (List.length (zT (noE more off c m) (ecL m))) (zT (noE more off c m) (ecL m))) == List.drop 4 (List.take (List.length m) m) then Q else bif inR 0 (List.length (zT (noE more off c m) (ecL m))) then bif bif true then bif false then true else List.getD (zT (noE more off c m) (ecL m)) 0 0 != BitVec.ofInt 8 0 else false then Q else R else False else False else False else False else R else False) := by
        intro Q R hR
        rw [ble_big hm (by decide : 8192 ≤ 4294800000)]
        cases hn : noE more off c m
        · have h8 : 8 ≤ m.length := by
            unfold noE at hn
            cases hp : isPc more off
            · rw [hp] at hn
              cases hq : isAk c m
              · rw [hq] at hn; cases hn
              · rw [hq] at hn
                cases hr : ilt (m.length : Int) 8
                · have := of_decide_eq_false ((ilt_eq _ _).symm.trans hr); omega
                · rw [hr] at hn; cases hn
            · rw [hp] at hn; cases hn
          obtain ⟨e1, e2, e3, e4⟩ := ec_all m h8
          generalize ecL m = B at e1 e2 e3 e4 ⊢
          show bif b != b then _ else bif bif false then true else a != a then _ else bif (List.length B).ble 4294967296 then bif bif false then true else sumX B != BitVec.ofInt 16 0 then _ else bif bif false then true else (↑(List.length B) : Int) != (↑(List.length m) : Int) then _ else bif ile 4 (↑(List.length B) : Int) && ile (↑(List.length B) : Int) (↑(List.length B) : Int) then bif ile 4 (↑(List.length m) : Int) && ile (↑(List.length m) : Int) (↑(List.length m) : Int) then bif bif false then true else !List.drop 4 (List.take (List.length B) B) == List.drop 4 (List.take (List.length m) m) then _ else bif inR 0 (List.length B) then bif bif true then bif false then true else List.getD B 0 0 != BitVec.ofInt 8 0 else false then _ else R else False else False else False else False
          rw [List.take_length, List.take_length, e3, e2]
          have f1 : Nat.ble m.length 4294967296 = true := ble_of (by omega)
          have f2 : (ile 4 (m.length : Int) && ile (m.length : Int) (m.length : Int)) = true := and_t (ile_of (by omega)) (ile_of (Int.le_refl _))
          have f3 : inR 0 m.length = true := inR_iff.2 ⟨by omega, by omega⟩
          simp only [bne_self_eq_false, beq_self_eq_true, Bool.not_true, cond_false, cond_true, e1, e4, f1, f2, f3, z, z8]
          exact hR
        · exact hR
      refine bif_no (p := _) rfl ?_
      refine bif_no (p := _) rfl ?_
      refine bif_of (ble_big hm (by decide : 8192 ≤ 4294900000)) ?_
      unfold enE enR
      cases ho : (BitVec.ofInt 16 8192).ule off
      · cases hl : ilt 1480 (m.length : Int)
        · have hl := of_decide_eq_false ((ilt_eq _ _).symm.trans hl)
          have hb := back_all a b c ttl d stay more off m s (ule_no ho) (by omega)
          have hn := back_len a b c ttl d stay more off m s
          have hn2 := by_len a b c ttl d (mkS stay more off) m
          simp only at hb
          show bif ile (((byT a b c ttl d (mkS stay more off) m).length + s.length : Nat) : Int) _ then _ else _
          refine bif_of (ile_of (by omega)) ?_
          refine bif_of (ble_of (by show (byT a b c ttl d (mkS stay more off) m ++ s).length ≤ _; omega)) ?_
          show bif deE (byT a b c ttl d (mkS stay more off) m ++ s) != 0 then _ else bif bif false then true else bif true then !(dS (byT a b c ttl d (mkS stay more off) m ++ s) == a && (dD (byT a b c ttl d (mkS stay more off) m ++ s) == b && (dP (byT a b c ttl d (mkS stay more off) m ++ s) == c && (dT (byT a b c ttl d (mkS stay more off) m ++ s) == ttl && (dI (byT a b c ttl d (mkS stay more off) m ++ s) == d && (dSt (byT a b c ttl d (mkS stay more off) m ++ s) == stay && (dMo (byT a b c ttl d (mkS stay more off) m ++ s) == more && (dO (byT a b c ttl d (mkS stay more off) m ++ s) == off && (dL (byT a b c ttl d (mkS stay more off) m ++ s) == m && true))))))))) else _ then _ else _
          generalize byT a b c ttl d (mkS stay more off) m ++ s = X at hb ⊢
          obtain ⟨x0, x1, x2, x3, x4, x5, x6, x7, x8, x9⟩ := hb
          refine bif_no (by rw [x0]; rfl) (bif_no (by simp only [x1, x2, x3, x4, x5, x6, x7, x8, x9, beq_self_eq_true, Bool.and_self, Bool.not_true, cond_true, cond_false]) ?_)
          exact hE _ _ (hA _)
        · exact hE _ _ (hA _)
      · exact hE _ _ (hA _)
    · simp only [cond_true, cond_false]
  · simp only [cond_true, cond_false]
end Go.Proofs.Ytggoncamiafclaa
