/-
  sum: what more bytes make of a hash. No statement is proved here.
-/
import Derived.Test.YtmalnjdacmlcdaaDoorSuG
namespace Go.Proofs.YtmalnjdacmlcdaaDoor
open Go.RowKit
set_option linter.unusedVariables false
set_option linter.unusedSimpArgs false
set_option maxRecDepth 100000

theorem Ad.run_more : ∀ (n : Nat) (h : S8) (len : Nat) (s l : List (BitVec 8)), ∃ h' len' s' l', Ad.run n (.more h len s l) = .more h' len' s' l'
  | 0, h, len, s, l => ⟨h, len, s, l, rfl⟩
  | n + 1, h, len, s, l => by
    rw [Ad.run]
    cases Nat.blt (Ad.more h len s l).txt.length (64 - (Ad.more h len s l).len)
    · exact Ad.run_more n _ _ _ _
    · exact ⟨h, len, s, l, rfl⟩
theorem h64 (s : List (BitVec 8)) (h : ile 64 (s.length : Int) = true) : 64 ≤ s.length := by rw [ile_eq] at h; have := of_decide_eq_true h; omega
theorem step_n (s : List (BitVec 8)) (hc : ile 64 (s.length : Int) = true) (X : Prop) (hX : X) : (bif ile 64 (s.length : Int) then bif ile (((s.take 64).drop 0).length : Int) 0 then False else bif ((s.take 64).drop 0).length.ble 64 then bif ((s.take 64).drop 0).length.ble 64 then bif ((s.take 64).drop 0).length.beq 64 && Nat.ble 64 (fillB ((s.take 64).drop 0)).length then bif ile 64 (s.length : Int) && ile (s.length : Int) (s.length : Int) then X else False else False else False else False else False) := by
  have h := h64 s hc
  have hl : ((s.take 64).drop 0).length = 64 := by rw [List.drop_zero, List.length_take]; omega
  have hf := fillB_len ((s.take 64).drop 0) (by omega)
  rw [hl, hf, hc]
  have hs : ile (s.length : Int) (s.length : Int) = true := by rw [ile_eq]; exact decide_eq_true (Int.le_refl _)
  rw [hs]
  exact hX
theorem step_b (len : Nat) (s l : List (BitVec 8)) (h1 : len < 64) (h2 : l.length = 64) (hc : ile (64 - (len : Int)) (s.length : Int) = true) (X : Prop) (hX : X) : (bif ile 0 (64 - (len : Int)) && ile (64 - (len : Int)) (s.length : Int) then bif (len + ((s.take (64 - (len : Int)).toNat).drop 0).length).ble 64 && (len.blt 64 && l.length.beq 64) then bif (len + ((s.take (64 - (len : Int)).toNat).drop 0).length).ble 64 then bif (len + ((s.take (64 - (len : Int)).toNat).drop 0).length).beq 64 && Nat.ble 64 (l.take len ++ (s.take (64 - (len : Int)).toNat).drop 0 ++ l.drop (len + ((s.take (64 - (len : Int)).toNat).drop 0).length)).length then bif ile 0 (64 - (len : Int)) && ile (64 - (len : Int)) (s.length : Int) && ile (s.length : Int) (s.length : Int) then X else False else False else False else False else False) := by
  have hlt : 64 - len ≤ s.length := by rw [ile_eq] at hc; have := of_decide_eq_true hc; omega
  have e : (64 - (len : Int)).toNat = 64 - len := by omega
  have hl : ((s.take (64 - len)).drop 0).length = 64 - len := by rw [List.drop_zero, List.length_take]; omega
  have hw : (l.take len ++ (s.take (64 - len)).drop 0 ++ l.drop 64).length = 64 := by rw [List.drop_zero]; simp; omega
  have e64 : len + (64 - len) = 64 := by omega
  have hs : ile (s.length : Int) (s.length : Int) = true := by rw [ile_eq]; exact decide_eq_true (Int.le_refl _)
  have h0 : ile 0 (64 - (len : Int)) = true := by rw [ile_eq]; exact decide_eq_true (by omega)
  rw [e, hl, e64, hw, hc, hs, h0, h2, blt_of h1]
  exact hX
theorem loop15n (hb : S8) (nb n : BitVec 64) (h : S8) (s : List (BitVec 8)) : LOk Tryd.prog G (Hn hb nb) 31 (L15 (Hn hb nb) n (.fst h s) (Ad.fst h s).fin) := by
  generalize hfin : (Ad.fst h s).fin = fin
  refine LT.add_ok (noL_ok _ _ _ _) (loop_next e14_ok mixed (noL_ok _ _ _ _) (by show 2 ≤ 3; decide) (by kernel_rfl) i15 (Mn15 n) (fun i => i.ok ∧ i.fin = fin) (fun i => i.txt.length) Ad.step (.fst h s) ⟨trivial, hfin⟩ fun i hi => ?_)
  obtain ⟨hok, hf⟩ := hi
  cases i with
  | fst h1 s1 =>
    have step : ∀ (hc : ile 64 (s1.length : Int) = true), (Ad.step (.fst h1 s1)).ok ∧ (Ad.step (.fst h1 s1)).fin = fin ∧ (Ad.step (.fst h1 s1)).txt.length < (Ad.fst h1 s1).txt.length := fun hc => by
      have hn : ¬ s1.length < 64 - 0 := by have := h64 s1 hc; omega
      obtain ⟨q1, q2, q3⟩ := Ad.step_ok (.fst h1 s1) hok hn
      exact ⟨q1, by rw [Ad.fin_step _ hok hn]; exact hf, q3⟩
    have done : ∀ (hc : ile 64 (s1.length : Int) = false), fin = .fst h1 s1 := fun hc => by
      rw [← hf]; exact Ad.fin_done _ (by show s1.length < 64 - 0; rw [ile_eq] at hc; have := of_decide_eq_false hc; omega)
    cases fin with
    | fst h2 s2 =>
      refine of_eq (vr15nn hb nb n h1 h2 s1 s2 _) ?_
      cases hc : ile 64 (s1.length : Int)
      · obtain ⟨rfl, rfl⟩ := Ad.fst.inj (done hc)
        exact ⟨rfl, rfl, rfl, ⟨rfl, rfl⟩, ⟨rfl, rfl⟩, ⟨rfl, rfl⟩, trivial⟩
      · obtain ⟨q1, q2, q3⟩ := step hc
        have := step_n s1 hc
        rw [hc] at this
        refine this _ ⟨⟨⟨q1, q2⟩, q3⟩, rfl, ?_, rfl, ⟨rfl, rfl⟩, ⟨rfl, rfl⟩, ⟨rfl, rfl⟩, ⟨rfl, rfl⟩, trivial⟩
        rw [List.take_of_length_le (Nat.le_refl _)]
    | more h2 len2 s2 l2 =>
      refine of_eq (vr15nb hb nb n h1 h2 s1 s2 l2 len2 _) ?_
      cases hc : ile 64 (s1.length : Int)
      · exact absurd (done hc) (fun e => nomatch e)
      · obtain ⟨q1, q2, q3⟩ := step hc
        have := step_n s1 hc
        rw [hc] at this
        refine this _ ⟨⟨⟨q1, q2⟩, q3⟩, rfl, ?_, rfl, ⟨rfl, rfl⟩, ⟨rfl, rfl⟩, ⟨rfl, rfl⟩, ⟨rfl, rfl⟩, trivial⟩
        rw [List.take_of_length_le (Nat.le_refl _)]
  | more h1 len1 s1 l1 =>
    obtain ⟨h2, len2, s2, l2, e2⟩ := Ad.run_more s1.length h1 len1 s1 l1
    obtain rfl : fin = .more h2 len2 s2 l2 := by rw [← hf]; exact e2
    refine of_eq (vr15bn hb nb n h1 h2 s1 s2 l1 l2 len1 len2 _) ?_
    have done : ∀ (hc : ile (64 - (len1 : Int)) (s1.length : Int) = false), Ad.more h2 len2 s2 l2 = .more h1 len1 s1 l1 := fun hc => by
      rw [← hf]; exact Ad.fin_done _ (by show s1.length < 64 - len1; rw [ile_eq] at hc; have := of_decide_eq_false hc; omega)
    cases hc : ile (64 - (len1 : Int)) (s1.length : Int)
    · obtain ⟨rfl, rfl, rfl, rfl⟩ := Ad.more.inj (done hc)
      exact ⟨rfl, rfl, rfl, ⟨rfl, rfl⟩, ⟨rfl, rfl⟩, ⟨rfl, rfl⟩, ⟨rfl, rfl⟩, trivial⟩
    · have hn : ¬ s1.length < 64 - len1 := by rw [ile_eq] at hc; have := of_decide_eq_true hc; omega
      obtain ⟨q1, q2, q3⟩ := Ad.step_ok (.more h1 len1 s1 l1) hok hn
      have q2' := Ad.fin_step (.more h1 len1 s1 l1) hok hn
      have := step_b len1 s1 l1 hok.1 hok.2 hc
      rw [hc] at this
      have e : (64 - (len1 : Int)).toNat = 64 - len1 := by omega
      rw [e] at this ⊢
      refine this _ ⟨⟨⟨q1, by rw [q2']; exact hf⟩, q3⟩, rfl, ?_, rfl, ⟨rfl, rfl⟩, ⟨rfl, rfl⟩, ⟨rfl, rfl⟩, ⟨rfl, rfl⟩, trivial⟩
      rw [List.take_of_length_le (Nat.le_refl _)]
theorem loop15b (hb : S8) (nb n : BitVec 64) (lenb : Nat) (lb : List (BitVec 8)) (h : S8) (len : Nat) (s l : List (BitVec 8)) (h1 : len < 64) (h2 : l.length = 64) : LOk Tryd.prog G (Hb hb lenb nb lb) 31 (L15 (Hb hb lenb nb lb) n (.more h len s l) (Ad.more h len s l).fin) := by
  generalize hfin : (Ad.more h len s l).fin = fin
  refine LT.add_ok (noL_ok _ _ _ _) (loop_next e14_ok mixed (noL_ok _ _ _ _) (by show 2 ≤ 4; decide) (by kernel_rfl) i15 (Mn15 n) (fun i => (∃ h1 len1 s1 l1, i = .more h1 len1 s1 l1) ∧ i.ok ∧ i.fin = fin) (fun i => i.txt.length) Ad.step (.more h len s l) ⟨⟨h, len, s, l, rfl⟩, ⟨h1, h2⟩, hfin⟩ fun i hi => ?_)
  obtain ⟨⟨h1, len1, s1, l1, rfl⟩, hok, hf⟩ := hi
  obtain ⟨h2, len2, s2, l2, e2⟩ := Ad.run_more s1.length h1 len1 s1 l1
  obtain rfl : fin = .more h2 len2 s2 l2 := by rw [← hf]; exact e2
  refine of_eq (vr15bb hb nb n lenb lb h1 h2 s1 s2 l1 l2 len1 len2 _) ?_
  have done : ∀ (hc : ile (64 - (len1 : Int)) (s1.length : Int) = false), Ad.more h2 len2 s2 l2 = .more h1 len1 s1 l1 := fun hc => by
    rw [← hf]; exact Ad.fin_done _ (by show s1.length < 64 - len1; rw [ile_eq] at hc; have := of_decide_eq_false hc; omega)
  cases hc : ile (64 - (len1 : Int)) (s1.length : Int)
  · obtain ⟨rfl, rfl, rfl, rfl⟩ := Ad.more.inj (done hc)
    exact ⟨rfl, rfl, rfl, ⟨rfl, rfl⟩, ⟨rfl, rfl⟩, ⟨rfl, rfl⟩, ⟨rfl, rfl⟩, trivial⟩
  · have hn : ¬ s1.length < 64 - len1 := by rw [ile_eq] at hc; have := of_decide_eq_true hc; omega
    obtain ⟨q1, q2, q3⟩ := Ad.step_ok (.more h1 len1 s1 l1) hok hn
    have q2' := Ad.fin_step (.more h1 len1 s1 l1) hok hn
    have := step_b len1 s1 l1 hok.1 hok.2 hc
    rw [hc] at this
    have e : (64 - (len1 : Int)).toNat = 64 - len1 := by omega
    rw [e] at this ⊢
    refine this _ ⟨⟨⟨⟨_, _, _, _, rfl⟩, q1, by rw [q2']; exact hf⟩, q3⟩, rfl, ?_, rfl, ⟨rfl, rfl⟩, ⟨rfl, rfl⟩, ⟨rfl, rfl⟩, ⟨rfl, rfl⟩, trivial⟩
    rw [List.take_of_length_le (Nat.le_refl _)]
/-- What the bytes of a block are, that are held. -/
def okB (l r : List (BitVec 8)) : Prop := l.length = 64 ∧ l.take r.length = r
def cAdd : List SV → Mm → (SV → Mm → Prop) → Prop
  | [.v (.pointer none), .s t], M, K => K (.i 1) M
  | [.ptr k off, .s t], M, K => match M[k]? with
    | some ⟨true, c⟩ => match hget c with
      | some (s, buf, n) => vsome (Nat.beq off 0) <| match bget buf with
        | some b => match b with
          | .no => bif ile (t.length : Int) 0 then setK M k ⟨true, .row (hrow s (.v (.slice none 0 0)) (n + BitVec.ofInt 64 (t.length : Int)))⟩ fun M1 => K (.i 0) M1
            else ∀ l : List (BitVec 8), okB l (ab s t).2 → setK M k ⟨true, .row (hrow (ab s t).1 (.sl M.length 0 (ab s t).2.length 64) (n + BitVec.ofInt 64 (t.length : Int)))⟩ fun M1 => snocK M1 ⟨true, .a8 l⟩ fun M2 => K (.i 0) M2
          | .at' j len => match M[j]? with
            | some ⟨true, .a8 l⟩ => vsome (!Nat.beq k j && (Nat.blt len 64 && Nat.beq l.length 64)) (∀ l' : List (BitVec 8), okB l' (ab s (l.take len ++ t)).2 → setK M k ⟨true, .row (hrow (ab s (l.take len ++ t)).1 (.sl j 0 (ab s (l.take len ++ t)).2.length 64) (n + BitVec.ofInt 64 (t.length : Int)))⟩ fun M1 => setK M1 j ⟨true, .a8 l'⟩ fun M2 => K (.i 0) M2)
            | _ => False
        | none => False
      | none => False
    | _ => False
  | _, _, _ => False
theorem addn (h : S8) (n : BitVec 64) (t : List (BitVec 8)) (hpos : t ≠ []) : Spec Tryd.prog G 31 [.ptr 2 0, .s t] (Hn h n) (fun r M => r = .i 0 ∧ ∃ l, okB l (ab h t).2 ∧ M = Hb (ab h t).1 (ab h t).2.length (n + BitVec.ofInt 64 (t.length : Int)) l) := by
  have hl := loop15n h n (n + BitVec.ofInt 64 (t.length : Int)) h t
  obtain ⟨e1, e2, e3⟩ := Ad.fin_ab (.fst h t) trivial
  obtain ⟨hok, hlt, -⟩ := Ad.fin_ok _ (Ad.fst h t) (Nat.le_refl _) trivial
  replace e1 : (Ad.fst h t).fin.w = (ab h t).1 := e1
  replace e2 : (Ad.fst h t).fin.T = (ab h t).2 := e2
  have hd : t.length < 64 → (Ad.fst h t).fin = .fst h t := Ad.fin_done (Ad.fst h t)
  have hm : ¬ t.length < 64 → ∃ h' len' s' l', (Ad.fst h t).fin = .more h' len' s' l' := fun q => by
    rw [← Ad.fin_step (.fst h t) trivial q]
    exact Ad.run_more _ _ _ _ _
  generalize (Ad.fst h t).fin = fin at *
  cases fin with
  | fst h' s' =>
    refine vf_ok e14_ok mixed hl (of_eq (vc15nn h h' n t s' _) ⟨rfl, rfl, rfl, rfl, ⟨rfl, rfl⟩, ⟨rfl, rfl⟩, ⟨rfl, rfl⟩, ?_⟩)
    replace e1 : h' = (ab h t).1 := e1
    replace e2 : s' = (ab h t).2 := e2
    replace hlt : s'.length < 64 := hlt
    subst e1
    have hs' : s' = t := by
      by_cases q : t.length < 64
      · exact (Ad.fst.inj (hd q)).2
      · obtain ⟨_, _, _, _, e⟩ := hm q
        cases e
    have hne : ile (s'.length : Int) 0 = false := by
      rw [ile_eq]
      refine decide_eq_false fun q => ?_
      have q0 : t.length = 0 := by rw [hs'] at q; omega
      exact hpos (List.length_eq_zero_iff.1 q0)
    rw [hne]
    refine bif_of (Nat.ble_eq_true_of_le (by omega)) ⟨rfl, fillB s', ?_, ?_⟩
    · rw [← e2]; exact ⟨fillB_len s' (by omega), fillB_take s'⟩
    · rw [← e2]; rfl
  | more h' len' s' l' =>
    obtain ⟨o1, o2⟩ := hok
    replace e1 : h' = (ab h t).1 := e1
    replace e2 : l'.take len' ++ s' = (ab h t).2 := e2
    replace hlt : s'.length < 64 - len' := hlt
    have hle : (ab h t).2.length = len' + s'.length := by rw [← e2, List.length_append, List.length_take]; omega
    subst e1
    refine vf_ok e14_ok mixed hl (of_eq (vc15nb h _ n t s' l' len' _) ⟨rfl, rfl, rfl, rfl, ⟨rfl, rfl⟩, ⟨rfl, rfl⟩, ⟨rfl, rfl⟩, bif_of ?_ ⟨rfl, wrt l' len' s', ?_, ?_⟩⟩)
    · rw [o2, blt_of o1, Nat.ble_eq_true_of_le (by omega)]; rfl
    · refine ⟨wrt_len _ _ _ o2 (by omega), ?_⟩
      rw [hle, wrt_take _ _ _ o2 (by omega), e2]
    · rw [hle]; rfl
theorem addb (h : S8) (len : Nat) (n : BitVec 64) (l t : List (BitVec 8)) (h1 : len < 64) (h2 : l.length = 64) : Spec Tryd.prog G 31 [.ptr 2 0, .s t] (Hb h len n l) (fun r M => r = .i 0 ∧ ∃ l', okB l' (ab h (l.take len ++ t)).2 ∧ M = Hb (ab h (l.take len ++ t)).1 (ab h (l.take len ++ t)).2.length (n + BitVec.ofInt 64 (t.length : Int)) l') := by
  have hl := loop15b h n (n + BitVec.ofInt 64 (t.length : Int)) len l h len t l h1 h2
  obtain ⟨e1, e2, e3⟩ := Ad.fin_ab (.more h len t l) ⟨h1, h2⟩
  obtain ⟨hok, hlt, -⟩ := Ad.fin_ok _ (Ad.more h len t l) (Nat.le_refl _) ⟨h1, h2⟩
  obtain ⟨h', len', s', l', ef⟩ : ∃ h' len' s' l', (Ad.more h len t l).fin = .more h' len' s' l' := Ad.run_more _ _ _ _ _
  rw [ef] at hl e1 e2 e3 hok hlt
  obtain ⟨o1, o2⟩ := hok
  replace e1 : h' = (ab h (l.take len ++ t)).1 := e1
  replace e2 : l'.take len' ++ s' = (ab h (l.take len ++ t)).2 := e2
  replace hlt : s'.length < 64 - len' := hlt
  have hle : (ab h (l.take len ++ t)).2.length = len' + s'.length := by rw [← e2, List.length_append, List.length_take]; omega
  subst e1
  refine vf_ok e14_ok mixed hl (of_eq (vc15bb h _ n t s' l l' len len' _) (bif_of (Nat.ble_eq_true_of_le (by omega)) (bif_of (inI_iff.2 (by omega)) ⟨rfl, rfl, rfl, rfl, ⟨rfl, rfl⟩, ⟨rfl, rfl⟩, ⟨rfl, rfl⟩, ⟨rfl, rfl⟩, bif_of ?_ ⟨rfl, wrt l' len' s', ?_, ?_⟩⟩)))
  · rw [o2, blt_of o1, Nat.ble_eq_true_of_le (by omega)]; rfl
  · refine ⟨wrt_len _ _ _ o2 (by omega), ?_⟩
    rw [hle, wrt_take _ _ _ o2 (by omega), e2]
  · rw [hle]; rfl
theorem addz (h : S8) (n : BitVec 64) (t : List (BitVec 8)) (hz : t = []) : Spec Tryd.prog G 31 [.ptr 2 0, .s t] (Hn h n) (fun r M => r = .i 0 ∧ M = Hn h (n + BitVec.ofInt 64 (t.length : Int))) := by
  subst hz
  have hl := loop15n h n (n + BitVec.ofInt 64 (([] : List (BitVec 8)).length : Int)) h []
  rw [Ad.fin_done (Ad.fst h []) (by show (0 : Nat) < 64; decide)] at hl
  exact vf_ok e14_ok mixed hl (of_eq (vc15nn h h n [] [] _) ⟨rfl, rfl, rfl, rfl, ⟨rfl, rfl⟩, ⟨rfl, rfl⟩, ⟨rfl, rfl⟩, rfl, rfl⟩)
theorem add_ok : COk Tryd.prog G 31 cAdd := by
  intro args M K h
  unfold cAdd at h
  split at h
  · rename_i t
    refine eff_of (R := []) (args0 := [.v (.pointer none), .s t]) (K0 := fun r M => r = .i 1 ∧ M = G) [] (vf_ok (M := G) e14_ok mixed (noL_ok _ _ _ _) (of_eq (vc15z t _) ⟨rfl, rfl⟩)) rfl rfl List.nodup_nil trivial ?_
    rintro r1 M1 ⟨rfl, rfl⟩
    rw [show back G [] M (sig G.length []) G = M from List.append_nil M]
    exact h
  · rename_i k off t
    split at h
    · rename_i c hk
      split at h
      · rename_i s buf n hx
        obtain rfl := hget_ok hx
        replace h := vsome_iff.1 h
        obtain ⟨ho, h⟩ := h
        obtain rfl := Nat.eq_of_beq_eq_true ho
        split at h
        · rename_i b hb
          obtain rfl := bget_ok hb
          cases b with
          | no =>
            have hk' : M[k]? = some ⟨true, .row (hrow s (.v (.slice none 0 0)) n)⟩ := hk
            replace h : bif ile (t.length : Int) 0 then setK M k ⟨true, .row (hrow s (.v (.slice none 0 0)) (n + BitVec.ofInt 64 (t.length : Int)))⟩ (fun M1 => K (.i 0) M1)
              else ∀ l : List (BitVec 8), okB l (ab s t).2 → setK M k ⟨true, .row (hrow (ab s t).1 (.sl M.length 0 (ab s t).2.length 64) (n + BitVec.ofInt 64 (t.length : Int)))⟩ fun M1 => snocK M1 ⟨true, .a8 l⟩ fun M2 => K (.i 0) M2 := h
            cases hc : ile (t.length : Int) 0
            · rw [hc] at h
              have hpos : t ≠ [] := fun e => by subst e; cases hc
              refine eff_of (R := [⟨true, .row (hrow s (.v (.slice none 0 0)) n)⟩]) (args0 := [.ptr 2 0, .s t]) [k] (addn s n t hpos) rfl rfl (by simp) ⟨⟨true, hk', fun h => h⟩, ⟨rfl, rfl⟩, trivial⟩ ?_
              rintro r1 M1 ⟨rfl, l, hl, rfl⟩
              have := h l hl
              rw [setK_eq, snocK_eq] at this
              exact this
            · rw [hc] at h
              replace h : setK M k ⟨true, .row (hrow s (.v (.slice none 0 0)) (n + BitVec.ofInt 64 (t.length : Int)))⟩ (fun M1 => K (.i 0) M1) := h
              rw [setK_eq] at h
              have hz : t = [] := by
                rw [ile_eq] at hc
                have := of_decide_eq_true hc
                exact List.length_eq_zero_iff.1 (by omega)
              refine eff_of (R := [⟨true, .row (hrow s (.v (.slice none 0 0)) n)⟩]) (args0 := [.ptr 2 0, .s t]) [k] (addz s n t hz) rfl rfl (by simp) ⟨⟨true, hk', fun h => h⟩, ⟨rfl, rfl⟩, trivial⟩ ?_
              rintro r1 M1 ⟨rfl, rfl⟩
              rw [show back G _ M _ _ = M.set k ⟨true, .row (hrow s (.v (.slice none 0 0)) (n + BitVec.ofInt 64 (t.length : Int)))⟩ ++ [] from rfl, List.append_nil]
              exact h
          | at' j len =>
            replace h : (match M[j]? with
              | some ⟨true, .a8 l⟩ => vsome (!Nat.beq k j && (Nat.blt len 64 && Nat.beq l.length 64)) (∀ l' : List (BitVec 8), okB l' (ab s (l.take len ++ t)).2 → setK M k ⟨true, .row (hrow (ab s (l.take len ++ t)).1 (.sl j 0 (ab s (l.take len ++ t)).2.length 64) (n + BitVec.ofInt 64 (t.length : Int)))⟩ fun M1 => setK M1 j ⟨true, .a8 l'⟩ fun M2 => K (.i 0) M2)
              | _ => False) := h
            split at h
            · rename_i l hj
              replace h := vsome_iff.1 h
              obtain ⟨hb, hh⟩ := h
              simp only [Bool.and_eq_true] at hb
              obtain ⟨hne, q1, q2⟩ := hb
              have hne := beq_ne hne
              refine eff_of (R := [⟨true, .row (hrow s (.sl 3 0 len 64) n)⟩, ⟨true, .a8 l⟩]) (args0 := [.ptr 2 0, .s t]) [k, j] (addb s len n l t (blt_lt q1) (Nat.eq_of_beq_eq_true q2)) rfl rfl (by simp [hne]) ⟨⟨true, hk, fun h => h⟩, ⟨rfl, rfl⟩, ⟨true, hj, fun h => h⟩, ⟨rfl, rfl⟩, trivial⟩ ?_
              rintro r1 M1 ⟨rfl, l', hl', rfl⟩
              have := hh l' hl'
              rw [setK_eq, setK_eq] at this
              rw [show back G _ M _ _ = (M.set k ⟨true, .row (hrow (ab s (l.take len ++ t)).1 (.sl j 0 (ab s (l.take len ++ t)).2.length 64) (n + BitVec.ofInt 64 (t.length : Int)))⟩).set j ⟨true, .a8 l'⟩ ++ [] from rfl, List.append_nil]
              exact this
            · exact h.elim
        · exact h.elim
      · exact h.elim
    · exact h.elim
  · exact h.elim
def C15 : CT := C14.add 31 cAdd
def E15 : Env := ⟨G, T10, C15⟩
theorem e15_ok : EnvOk Tryd.prog E15 := ⟨e14_ok.T, CT.add_ok e14_ok.C add_ok⟩
end Go.Proofs.YtmalnjdacmlcdaaDoor
