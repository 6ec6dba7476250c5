/-
  sum: the run that is known, and the laws of one text, of tags, and of no hash. No statement is proved here.
-/
import Derived.Test.YtceonplglbdggaaDoorSuM
namespace Go.Proofs.YtceonplglbdggaaDoor
open Go.RowKit
set_option linter.unusedVariables false
set_option linter.unusedSimpArgs false
set_option maxRecDepth 100000

def cOfK : List SV → List Cont → Option (Bool × SV)
  | [.s s], _ => match s with
    | [] => some (true, .s d0)
    | [a, b, c] => some (a == 97 && (b == 98 && c == 99), .s d1)
    | _ => none
  | _, _ => none
theorem ofK_ok : POk Tryd.prog G 9 cOfK := by
  intro args acs r h β M w hR hw ha
  unfold cOfK at h
  split at h
  · rename_i s
    split at h
    · simp only [Option.some.injEq, Prod.mk.injEq, true_and] at h
      subst h
      have := of_ok [.s []] acs (.s (dOf [])) rfl β M w hR hw ha
      rw [known0] at this
      exact this
    · rename_i a b c
      simp only [Option.some.injEq, Prod.mk.injEq, Bool.and_eq_true, beq_iff_eq] at h
      obtain ⟨⟨rfl, rfl, rfl⟩, rfl⟩ := h
      have := of_ok [.s [97, 98, 99]] acs (.s (dOf [97, 98, 99])) rfl β M w hR hw ha
      rw [known1] at this
      exact this
    · cases h
  · cases h
def cSumK : List SV → Mm → (SV → Mm → Prop) → Prop
  | [.ptr k off], M, K => match M[k]? with
    | some ⟨true, c⟩ => match hget c with
      | some (s, buf, n) => vsome (Nat.beq off 0) <| match bget buf with
        | some b => match b with
          | .no => False
          | .at' j len => match M[j]? with
            | some ⟨true, .a8 l⟩ => vsome (!Nat.beq k j) (bif n == 2 then heldS [97, 98] (.at' s len n l) ∧ K (.s d2) M else bif n == 3 then heldS [97, 98, 99] (.at' s len n l) ∧ K (.s d1) M else False)
            | _ => False
        | none => False
      | none => False
    | _ => False
  | _, _, _ => False
theorem sumK_ok : COk Tryd.prog G 16 cSumK := by
  intro args M K h
  unfold cSumK at h
  split at h
  · rename_i k off
    split at h
    · rename_i c hk
      split at h
      · rename_i s buf n hx
        obtain rfl := hget_ok hx
        replace h := vsome_iff.1 h
        obtain ⟨ho, h⟩ := h
        obtain rfl := Nat.eq_of_beq_eq_true ho
        split at h
        · rename_i b hb
          obtain rfl := bget_ok hb
          cases b with
          | no => exact h.elim
          | at' j len =>
            replace h : (match M[j]? with
              | some ⟨true, .a8 l⟩ => vsome (!Nat.beq k j) (bif n == 2 then heldS [97, 98] (.at' s len n l) ∧ K (.s d2) M else bif n == 3 then heldS [97, 98, 99] (.at' s len n l) ∧ K (.s d1) M else False)
              | _ => False) := h
            split at h
            · rename_i l hj
              replace h := vsome_iff.1 h
              obtain ⟨hne, h⟩ := h
              have go : ∀ (T d : List (BitVec 8)), heldS T (.at' s len n l) → dOf T = d → K (.s d) M → Spec Tryd.prog G 16 [.ptr k 0] M K := fun T d hh hd hK => by
                refine sum_ok [.ptr k 0] M K ?_
                obtain ⟨-, -, q1, q2⟩ := id hh
                show (match M[k]? with
                  | some ⟨true, c⟩ => (match hget c with
                    | some (s, buf, n) => vsome (Nat.beq 0 0) (match bget buf with
                      | some b => (match b with
                        | BK.no => K (.s (dig s [] n)) M
                        | .at' j len => match M[j]? with
                          | some ⟨true, .a8 l⟩ => vsome (!Nat.beq k j && (Nat.blt len 64 && Nat.beq l.length 64)) (K (.s (dig s (l.take len) n)) M)
                          | _ => False)
                      | none => False)
                    | none => False)
                  | _ => False)
                rw [hk]
                show (match M[j]? with
                  | some ⟨true, .a8 l⟩ => vsome (!Nat.beq k j && (Nat.blt len 64 && Nat.beq l.length 64)) (K (.s (dig s (l.take len) n)) M)
                  | _ => False)
                rw [hj]
                show vsome (!Nat.beq k j && (Nat.blt len 64 && Nat.beq l.length 64)) (K (.s (dig s (l.take len) n)) M)
                rw [dig_at hh, hd]
                exact vsome_iff.2 ⟨by rw [hne, blt_of q1, q2]; rfl, hK⟩
              cases h2 : n == 2
              · rw [h2] at h
                cases h3 : n == 3
                · rw [h3] at h; exact h.elim
                · rw [h3] at h; exact go _ _ h.1 known1 h.2
              · rw [h2] at h; exact go _ _ h.1 known2 h.2
            · exact h.elim
        · exact h.elim
      · exact h.elim
    · exact h.elim
  · exact h.elim
def EA (D R : List (BitVec 8) → List (BitVec 8)) : Env := ⟨G, (T20 D R).add 9 cOfK, C17.add 16 cSumK⟩
theorem ea_ok : EnvOk Tryd.prog (EA dOf rOf) := ⟨PT.add_ok e20_ok.T ofK_ok, CT.add_ok e20_ok.C sumK_ok⟩
theorem vc8 (D R : List (BitVec 8) → List (BitVec 8)) (K : SV → Mm → Prop) : (vf Tryd.prog (EA D R) noL 8 [] G K) = (∀ (l : List (BitVec 8)), okB l (ab h0 (bts { data := #[97, 98] })).snd → bif l.length.beq 64 then bif (fillB (List.take 2 l)).length.beq 64 then ∀ (l' : List (BitVec 8)), okB l' (ab (ab h0 (bts { data := #[97, 98] })).fst (List.take 2 (fillB (List.take 2 l)) ++ bts { data := #[99] })).snd → (ab h0 [97, 98, 99] = ((ab (ab h0 (bts { data := #[97, 98] })).fst (List.take 2 (fillB (List.take 2 l)) ++ bts { data := #[99] })).fst, List.take (ab (ab h0 (bts { data := #[97, 98] })).fst (List.take 2 (fillB (List.take 2 l)) ++ bts { data := #[99] })).snd.length l') ∧ 0 + BitVec.ofInt 64 (↑2 : Int) + BitVec.ofInt 64 (↑1 : Int) = 3#64 ∧ (ab (ab h0 (bts { data := #[97, 98] })).fst (List.take 2 (fillB (List.take 2 l)) ++ bts { data := #[99] })).snd.length < 64 ∧ l'.length = 64) ∧ (ab h0 [97, 98] = ((ab h0 (bts { data := #[97, 98] })).fst, List.take 2 l) ∧ 0 + BitVec.ofInt 64 (↑2 : Int) = 2#64 ∧ 2 < 64 ∧ l.length = 64) ∧ K (SV.b (bif bif bif bif bif bif bif (↑32 : Int) == 32 then List.drop 0 (List.take 4 d0) == bts { data := #[227, 176, 196, 66] } else false then (↑32 : Int) == 32 else false then List.drop 0 (List.take 4 d1) == bts { data := #[186, 120, 22, 191] } else false then 0 == 0 else false then d1 == d1 else false then !d2 == d1 else false then (↑(tagOf D (keyOf D (bts { data := #[107] })) (bts { data := #[115] })).length : Int) == 32 else false)) [{ rw := false, c := Cont.a32 H0 }, { rw := false, c := Cont.a32 K64 }, { rw := true, c := Cont.row (hrow (ab h0 (bts { data := #[97, 98] })).fst (SV.sl 3 0 2 64) (0 + BitVec.ofInt 64 (↑2 : Int))) }, { rw := true, c := Cont.a8 l }, { rw := true, c := Cont.row (hrow (ab (ab h0 (bts { data := #[97, 98] })).fst (List.take 2 (fillB (List.take 2 l)) ++ bts { data := #[99] })).fst (SV.sl (0 + 1 + 1 + 1 + 1 + 1) 0 (ab (ab h0 (bts { data := #[97, 98] })).fst (List.take 2 (fillB (List.take 2 l)) ++ bts { data := #[99] })).snd.length 64) (0 + BitVec.ofInt 64 (↑2 : Int) + BitVec.ofInt 64 (↑1 : Int))) }, { rw := true, c := Cont.a8 l' }] else False else False) := by kernel_rfl
theorem dOf_len (s : List (BitVec 8)) : (dOf s).length = 32 := wr_len _
def cAlive : List SV → List Cont → Option (Bool × SV)
  | [], _ => some (true, .b true)
  | _, _ => none
theorem alive_ok : POk Tryd.prog G 8 cAlive := by
  intro args acs r h β M w hR hw ha
  unfold cAlive at h
  split at h
  · simp only [Option.some.injEq, Prod.mk.injEq, true_and] at h
    subst h
    refine pure0 (vf_ok ea_ok mixed (noL_ok _ _ _ _) (of_eq (vc8 _ _ _) ?_)) rfl rfl hR
    intro l hl
    have e2 : bts { data := #[97, 98] } = [97, 98] := by decide
    have e1 : bts { data := #[99] } = [99] := by decide
    rw [e2] at hl
    have hab : ab h0 [97, 98] = (h0, [97, 98]) := ab_small _ _ (by decide)
    have hl1 := hl
    rw [hab] at hl1
    obtain ⟨q1, q2⟩ := hl1
    replace q2 : l.take 2 = [97, 98] := q2
    have hfl : (fillB [97, 98]).length = 64 := fillB_len _ (by decide)
    have hft : (fillB [97, 98]).take 2 = [97, 98] := fillB_take [97, 98]
    rw [e2, e1, q2, hft, hfl, q1, hab]
    have hA : heldS [97, 98] (.at' h0 2 (0 + BitVec.ofInt 64 ((2 : Nat) : Int)) l) := ⟨by rw [hab, q2], rfl, by decide, q1⟩
    have hB : heldS [97, 98] (.at' h0 2 (0 + BitVec.ofInt 64 ((2 : Nat) : Int)) (fillB [97, 98])) := ⟨by rw [hab, hft], rfl, by decide, hfl⟩
    refine bif_of rfl (bif_of rfl fun l' hl' => ?_)
    have hC : heldS [97, 98, 99] _ := held_b (t := [99]) hB (l := l') (by rw [hft]; exact hl')
    rw [hft] at hC
    have ht : (tagOf dOf (keyOf dOf (bts { data := #[107] })) (bts { data := #[115] })).length = 32 := dOf_len _
    refine ⟨hC, ?_, ?_⟩
    · exact ⟨rfl, rfl, by decide, rfl⟩
    · rw [ht]; exact congrArg SV.b (by decide)
  · cases h
def T22 (D R : List (BitVec 8) → List (BitVec 8)) : PT := (((T20 D R).add 12 (cRTag R)).add 7 cSmall).add 8 cAlive
def E22 (D R : List (BitVec 8) → List (BitVec 8)) : Env := ⟨G, T22 D R, C17⟩
theorem e22_ok : EnvOk Tryd.prog (E22 dOf rOf) := ⟨PT.add_ok (PT.add_ok (PT.add_ok e20_ok.T rtag_ok) fewF_ok) alive_ok, e20_ok.C⟩
theorem vc3 (D R : List (BitVec 8) → List (BitVec 8)) (s : List (BitVec 8)) (K : SV → Mm → Prop) : (vf Tryd.prog (E22 D R) noL 3 [.s s] G K) = (bif okS (List.take 1 (List.drop 0 [s])) then bif !ile (↑(tot (List.take 1 (List.drop 0 [s]))) : Int) 2048 then K (SV.b true) [{ rw := false, c := Cont.a32 H0 }, { rw := false, c := Cont.a32 K64 }, { rw := true, c := Cont.strs [] [s] }] else bif s.length.ble 1000000000 then bif (D s == R s) == true then K (SV.b (bif D s == R s then true else false)) [{ rw := false, c := Cont.a32 H0 }, { rw := false, c := Cont.a32 K64 }, { rw := true, c := Cont.strs [] [s] }] else bif !D s == R s then K (SV.b false) [{ rw := false, c := Cont.a32 H0 }, { rw := false, c := Cont.a32 K64 }, { rw := true, c := Cont.strs [] [s] }] else False else False else False) := by kernel_rfl
theorem vc4 (D R : List (BitVec 8) → List (BitVec 8)) (k s : List (BitVec 8)) (K : SV → Mm → Prop) : (vf Tryd.prog (E22 D R) noL 4 [.s k, .s s] G K) = (bif okS (List.take 2 (List.drop 0 [k, s])) then bif !ile (↑(tot (List.take 2 (List.drop 0 [k, s]))) : Int) 2048 then K (SV.b true) [{ rw := false, c := Cont.a32 H0 }, { rw := false, c := Cont.a32 K64 }, { rw := true, c := Cont.strs [] [k, s] }] else bif k.length.ble 1000000 && s.length.ble 1000000 then bif (tagOf D (keyOf D k) s == tagOf R (keyOf R k) s) == true then K (SV.b (bif tagOf D (keyOf D k) s == tagOf R (keyOf R k) s then true else false)) [{ rw := false, c := Cont.a32 H0 }, { rw := false, c := Cont.a32 K64 }, { rw := true, c := Cont.strs [] [k, s] }] else bif !tagOf D (keyOf D k) s == tagOf R (keyOf R k) s then K (SV.b false) [{ rw := false, c := Cont.a32 H0 }, { rw := false, c := Cont.a32 K64 }, { rw := true, c := Cont.strs [] [k, s] }] else False else False else False) := by kernel_rfl
theorem vc6 (D R : List (BitVec 8) → List (BitVec 8)) (s : List (BitVec 8)) (K : SV → Mm → Prop) : (vf Tryd.prog (E22 D R) noL 6 [.s s] G K) = (K (SV.b (bif bif bif 1 == 1 then [] == bts { data := #[] } else false then false ^^ true else false then true else false)) G) := by kernel_rfl
theorem okS1 {s : List (BitVec 8)} (h : s.length ≤ 140737488355328) : okS (List.take 1 (List.drop 0 [s])) = true := by
  show (Nat.ble s.length 140737488355328 && true) = true
  rw [Nat.ble_eq_true_of_le h]; rfl
theorem okS2 {k s : List (BitVec 8)} (h1 : k.length ≤ 140737488355328) (h2 : s.length ≤ 140737488355328) : okS (List.take 2 (List.drop 0 [k, s])) = true := by
  show (Nat.ble k.length 140737488355328 && (Nat.ble s.length 140737488355328 && true)) = true
  rw [Nat.ble_eq_true_of_le h1, Nat.ble_eq_true_of_le h2]; rfl
theorem law3 (s : List (BitVec 8)) (h : s.length ≤ 140737488355328) : Spec Tryd.prog G 3 [.s s] G (fun r _ => r = .b true) := by
  refine vf_ok e22_ok mixed (noL_ok _ _ _ _) (of_eq (vc3 _ _ s _) (bif_of (okS1 h) ?_))
  cases hc : ile (tot (List.take 1 (List.drop 0 [s])) : Int) 2048
  · rfl
  · have hs : s.length ≤ 2048 := by
      rw [ile_eq] at hc
      have := of_decide_eq_true hc
      have e : tot (List.take 1 (List.drop 0 [s])) = 0 + 8 + s.length := rfl
      omega
    have e : dOf s = rOf s := dOf_eq s (by omega)
    have eb : (rOf s == rOf s) = true := beq_self_eq_true _
    rw [e, eb]
    exact bif_of (Nat.ble_eq_true_of_le (by omega)) rfl
theorem law4 (k s : List (BitVec 8)) (h1 : k.length ≤ 140737488355328) (h2 : s.length ≤ 140737488355328) : Spec Tryd.prog G 4 [.s k, .s s] G (fun r _ => r = .b true) := by
  refine vf_ok e22_ok mixed (noL_ok _ _ _ _) (of_eq (vc4 _ _ k s _) (bif_of (okS2 h1 h2) ?_))
  cases hc : ile (tot (List.take 2 (List.drop 0 [k, s])) : Int) 2048
  · rfl
  · have hs : k.length + s.length ≤ 2048 := by
      rw [ile_eq] at hc
      have := of_decide_eq_true hc
      have e : tot (List.take 2 (List.drop 0 [k, s])) = 0 + 8 + k.length + 8 + s.length := rfl
      omega
    have e1 : keyOf dOf k = keyOf rOf k := by unfold keyOf; rw [dOf_eq k (by omega)]
    have e2 : tagOf dOf (keyOf rOf k) s = tagOf rOf (keyOf rOf k) s := by
      unfold tagOf
      rw [dOf_eq (mask (keyOf rOf k) 54 ++ s) (by rw [List.length_append, mask_len]; omega), dOf_eq _ (by rw [List.length_append, mask_len, rOf_len]; decide)]
    have eb : (tagOf rOf (keyOf rOf k) s == tagOf rOf (keyOf rOf k) s) = true := beq_self_eq_true _
    rw [e1, e2, eb]
    exact bif_of (by rw [Nat.ble_eq_true_of_le (by omega : k.length ≤ 1000000), Nat.ble_eq_true_of_le (by omega : s.length ≤ 1000000)]; rfl) rfl
theorem law6 (s : List (BitVec 8)) : Spec Tryd.prog G 6 [.s s] G (fun r _ => r = .b true) :=
  vf_ok e22_ok mixed (noL_ok _ _ _ _) (of_eq (vc6 _ _ s _) rfl)
end Go.Proofs.YtceonplglbdggaaDoor
