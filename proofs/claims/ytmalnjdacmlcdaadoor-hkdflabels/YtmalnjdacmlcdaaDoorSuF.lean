/-
  sum: bytes that are written into the buffer. No statement is proved here.
-/
import Derived.Test.YtmalnjdacmlcdaaDoorSuE
namespace Go.Proofs.YtmalnjdacmlcdaaDoor
open Go.RowKit
set_option linter.unusedVariables false
set_option linter.unusedSimpArgs false
set_option maxRecDepth 100000

theorem vc33 (s : S8) (n : BitVec 64) (m : Nat) (K : SV → Mm → Prop) : (vf Tryd.prog E11 noL 46 [.ptr 2 9, .i (m : Nat)] (Hn s n) K) = (bif ile (↑m : Int) 0 then K (SV.i 0) (Hn s n) else bif bif false ^^ true then ile (↑m : Int) 64 else false then bif ile (↑m : Int) 64 && true then K (SV.i 0) [{ rw := false, c := Cont.a32 H0 }, { rw := false, c := Cont.a32 K64 }, { rw := true, c := Cont.row ((hrow s (SV.v (Value.slice none 0 0)) n).set 9 (SV.sl (List.length (Hn s n)) 0 m 64)) }, { rw := true, c := Cont.a8 (List.replicate 64 0) }] else False else bif ile (↑m : Int) ((↑0 : Int).tdiv 2 - 0) then bif inI (0 + (↑m : Int)) then bif ile (0 + (↑m : Int)) 0 then K (SV.i 0) [{ rw := false, c := Cont.a32 H0 }, { rw := false, c := Cont.a32 K64 }, { rw := true, c := Cont.row (((hrow s (SV.v (Value.slice none 0 0)) n).set 10 (SV.i 0)).set 9 (SV.v (Value.slice none 0 0))) }] else False else False else bif inI (9223372036854775807 - (↑0 : Int) - (↑m : Int)) then bif ilt (9223372036854775807 - (↑0 : Int) - (↑m : Int)) (↑0 : Int) then False else bif inI (0 + (↑m : Int)) then False else False else False) := by kernel_rfl
def cGrow : List SV → Mm → (SV → Mm → Prop) → Prop
  | [.ptr k off, .i z], M, K => match M[k]? with
    | some ⟨true, c⟩ => match hget c with
      | some (s, buf, n) => vsome (Nat.beq off 9 && (ilt 0 z && ile z 64)) <| match bget buf with
        | some b => match b with
          | .no => setK M k ⟨true, .row (hrow s (.sl M.length 0 z.toNat 64) n)⟩ fun M1 => snocK M1 ⟨true, .a8 (List.replicate 64 0)⟩ fun M2 => K (.i 0) M2
          | _ => False
        | none => False
      | none => False
    | _ => False
  | _, _, _ => False
theorem grow_ok : COk Tryd.prog G 46 cGrow := by
  intro args M K h
  unfold cGrow at h
  split at h
  · rename_i k off z
    split at h
    · rename_i c hk
      split at h
      · rename_i s buf n hx
        obtain rfl := hget_ok hx
        replace h := vsome_iff.1 h
        obtain ⟨hb0, h⟩ := h
        simp only [Bool.and_eq_true, ile_eq, ilt_eq, decide_eq_true_eq] at hb0
        obtain ⟨ho, hz, hz2⟩ := hb0
        obtain rfl := Nat.eq_of_beq_eq_true ho
        obtain ⟨m, rfl⟩ := Int.eq_ofNat_of_zero_le (Int.le_of_lt hz)
        split at h
        · rename_i b hb
          obtain rfl := bget_ok hb
          cases b with
          | no =>
            replace h : setK M k ⟨true, .row (hrow s (.sl M.length 0 m 64) n)⟩ (fun M1 => snocK M1 ⟨true, .a8 (List.replicate 64 0)⟩ fun M2 => K (.i 0) M2) := h
            rw [setK_eq, snocK_eq] at h
            refine eff_of (R := [⟨true, .row (hrow s (.v (.slice none 0 0)) n)⟩]) (args0 := [.ptr 2 9, .i (m : Nat)]) (K0 := fun r M => r = .i 0 ∧ M = Hb s m n (List.replicate 64 0)) [k] (vf_ok (M := Hn s n) e11_ok mixed (noL_ok _ _ _ _) (of_eq (vc33 s n m _) ?_)) rfl rfl (by simp) ⟨⟨true, hk, fun h => h⟩, ⟨rfl, rfl⟩, trivial⟩ ?_
            · have h0 : ile (m : Int) 0 = false := by rw [ile_eq]; exact decide_eq_false (by omega)
              have h1 : ile (m : Int) 64 = true := by rw [ile_eq]; exact decide_eq_true (by omega)
              rw [h0, h1]
              exact ⟨rfl, rfl⟩
            · rintro r1 M1 ⟨rfl, rfl⟩
              exact h
          | at' j len => exact h.elim
        · exact h.elim
      · exact h.elim
    · exact h.elim
  · exact h.elim
def C12 : CT := C11.add 46 cGrow
def E12 : Env := ⟨G, T10, C12⟩
theorem e12_ok : EnvOk Tryd.prog E12 := ⟨e11_ok.T, CT.add_ok e11_ok.C grow_ok⟩
def Hp (s : S8) (n : BitVec 64) (l : List (BitVec 8)) : Mm := [⟨false, .a32 H0⟩, ⟨false, .a32 K64⟩, ⟨true, .row (hrow s (.v (.slice none 0 0)) n)⟩, ⟨true, .a8 l⟩]
theorem vc25n (s : S8) (n : BitVec 64) (t : List (BitVec 8)) (K : SV → Mm → Prop) : (vf Tryd.prog E12 noL 38 [.ptr 2 9, .s t] (Hn s n) K) = (bif ile (↑t.length : Int) 0 then K (SV.tup [SV.i 0, SV.v Value.nilIface]) [{ rw := false, c := Cont.a32 H0 }, { rw := false, c := Cont.a32 K64 }, { rw := true, c := Cont.row ((hrow s (SV.v (Value.slice none 0 0)) n).set 11 (SV.v (Value.int IntKind.i8 0))) }] else bif ilt 0 (↑t.length : Int) && ile (↑t.length : Int) 64 then bif ile (↑t.length : Int) (↑64 : Int) && true then bif decide (0 + t.length ≤ 64) then K (SV.tup [SV.i (↑(min t.length t.length) : Int), SV.v Value.nilIface]) [{ rw := false, c := Cont.a32 H0 }, { rw := false, c := Cont.a32 K64 }, { rw := true, c := Cont.row (hrow s (SV.sl (0 + 1 + 1 + 1) 0 t.length 64) n) }, { rw := true, c := Cont.a8 (List.take 0 (List.replicate 64 0) ++ List.take t.length t ++ List.drop (0 + min t.length t.length) (List.replicate 64 0)) }] else False else False else False) := by kernel_rfl
theorem vc25b (s : S8) (len : Nat) (n : BitVec 64) (l t : List (BitVec 8)) (K : SV → Mm → Prop) : (vf Tryd.prog E12 noL 38 [.ptr 2 9, .s t] (Hb s len n l) K) = (bif (len + t.length).ble 64 then bif ile (↑len : Int) (↑(len + t.length) : Int) && ile (↑(len + t.length) : Int) (↑64 : Int) && ilt (↑len : Int) (↑64 : Int) then bif decide (len + (len + t.length - len) ≤ l.length) then K (SV.tup [SV.i (↑(min t.length (len + t.length - len)) : Int), SV.v Value.nilIface]) [{ rw := false, c := Cont.a32 H0 }, { rw := false, c := Cont.a32 K64 }, { rw := true, c := Cont.row (hrow s (SV.sl 3 0 (len + t.length) 64) n) }, { rw := true, c := Cont.a8 (List.take len l ++ List.take (len + t.length - len) t ++ List.drop (len + min t.length (len + t.length - len)) l) }] else False else False else False) := by kernel_rfl
theorem vc22z (s : S8) (n : BitVec 64) (K : SV → Mm → Prop) : (vf Tryd.prog E12 noL 49 [.ptr 2 9, .v (.slice none 0 0)] (Hn s n) K) = (K (SV.tup [SV.i 0, SV.v Value.nilIface]) [{ rw := false, c := Cont.a32 H0 }, { rw := false, c := Cont.a32 K64 }, { rw := true, c := Cont.row ((hrow s (SV.v (Value.slice none 0 0)) n).set 11 (SV.v (Value.int IntKind.i8 0))) }]) := by kernel_rfl
theorem vc22b (s : S8) (n : BitVec 64) (l : List (BitVec 8)) (len : Nat) (K : SV → Mm → Prop) : (vf Tryd.prog E12 noL 49 [.ptr 2 9, .sl 3 0 len 64] (Hp s n l) K) = (bif ile (↑len : Int) 0 then K (SV.tup [SV.i 0, SV.v Value.nilIface]) [{ rw := false, c := Cont.a32 H0 }, { rw := false, c := Cont.a32 K64 }, { rw := true, c := Cont.row ((hrow s (SV.v (Value.slice none 0 0)) n).set 11 (SV.v (Value.int IntKind.i8 0))) }, { rw := true, c := Cont.a8 l }] else bif ilt 0 (↑len : Int) && ile (↑len : Int) 64 then bif ile (↑len : Int) (↑64 : Int) && true then bif decide (0 + len ≤ l.length) && decide (0 + len ≤ 64) then K (SV.tup [SV.i (↑(min (List.take len (List.drop 0 l)).length len) : Int), SV.v Value.nilIface]) [{ rw := false, c := Cont.a32 H0 }, { rw := false, c := Cont.a32 K64 }, { rw := true, c := Cont.row (hrow s (SV.sl (0 + 1 + 1 + 1 + 1) 0 len 64) n) }, { rw := true, c := Cont.a8 l }, { rw := true, c := Cont.a8 (List.take 0 (List.replicate 64 0) ++ List.take len (List.take len (List.drop 0 l)) ++ List.drop (0 + min (List.take len (List.drop 0 l)).length len) (List.replicate 64 0)) }] else False else False else False) := by kernel_rfl
def fillB (t : List (BitVec 8)) : List (BitVec 8) := t ++ (List.replicate 64 0).drop t.length
def cWS : List SV → Mm → (SV → Mm → Prop) → Prop
  | [.ptr k off, .s t], M, K => match M[k]? with
    | some ⟨true, c⟩ => match hget c with
      | some (s, buf, n) => vsome (Nat.beq off 9) <| match bget buf with
        | some b => match b with
          | .no => bif ile (t.length : Int) 0 then K (.tup [.i 0, .v .nilIface]) M else vsome (Nat.ble t.length 64) (setK M k ⟨true, .row (hrow s (.sl M.length 0 t.length 64) n)⟩ fun M1 => snocK M1 ⟨true, .a8 (fillB t)⟩ fun M2 => K (.tup [.i (t.length : Nat), .v .nilIface]) M2)
          | .at' j len => match M[j]? with
            | some ⟨true, .a8 l⟩ => vsome (!Nat.beq k j && (Nat.ble (len + t.length) 64 && (Nat.blt len 64 && Nat.beq l.length 64))) (setK M k ⟨true, .row (hrow s (.sl j 0 (len + t.length) 64) n)⟩ fun M1 => setK M1 j ⟨true, .a8 (l.take len ++ t ++ l.drop (len + t.length))⟩ fun M2 => K (.tup [.i (t.length : Nat), .v .nilIface]) M2)
            | _ => False
        | none => False
      | none => False
    | _ => False
  | _, _, _ => False
theorem ws_ok : COk Tryd.prog G 38 cWS := by
  intro args M K h
  unfold cWS at h
  split at h
  · rename_i k off t
    split at h
    · rename_i c hk
      split at h
      · rename_i s buf n hx
        obtain rfl := hget_ok hx
        replace h := vsome_iff.1 h
        obtain ⟨ho, h⟩ := h
        obtain rfl := Nat.eq_of_beq_eq_true ho
        split at h
        · rename_i b hb
          obtain rfl := bget_ok hb
          cases b with
          | no =>
            have hk' : M[k]? = some ⟨true, .row (hrow s (.v (.slice none 0 0)) n)⟩ := hk
            replace h : bif ile (t.length : Int) 0 then K (.tup [.i 0, .v .nilIface]) M else vsome (Nat.ble t.length 64) (setK M k ⟨true, .row (hrow s (.sl M.length 0 t.length 64) n)⟩ fun M1 => snocK M1 ⟨true, .a8 (fillB t)⟩ fun M2 => K (.tup [.i (t.length : Nat), .v .nilIface]) M2) := h
            cases hc : ile (t.length : Int) 0
            · rw [hc] at h
              obtain ⟨hle, h⟩ := vsome_iff.1 h
              have hle := Nat.le_of_ble_eq_true hle
              have hpos : 0 < t.length := by rw [ile_eq] at hc; have := of_decide_eq_false hc; omega
              rw [setK_eq, snocK_eq] at h
              refine eff_of (R := [⟨true, .row (hrow s (.v (.slice none 0 0)) n)⟩]) (args0 := [.ptr 2 9, .s t]) (K0 := fun r M => r = .tup [.i (t.length : Nat), .v .nilIface] ∧ M = Hb s t.length n (fillB t)) [k] (vf_ok (M := Hn s n) e12_ok mixed (noL_ok _ _ _ _) (of_eq (vc25n s n t _) ?_)) rfl rfl (by simp) ⟨⟨true, hk', fun h => h⟩, ⟨rfl, rfl⟩, trivial⟩ ?_
              · have h1 : ile (t.length : Int) 64 = true := by rw [ile_eq]; exact decide_eq_true (by omega)
                have h2 : ilt 0 (t.length : Int) = true := by rw [ilt_eq]; exact decide_eq_true (by omega)
                rw [hc, h1, h2]
                refine bif_of (decide_eq_true (by omega)) ⟨by rw [Nat.min_self], ?_⟩
                have e : List.take 0 (List.replicate 64 (0 : BitVec 8)) ++ List.take t.length t ++ List.drop (0 + min t.length t.length) (List.replicate 64 0) = fillB t := by
                  unfold fillB; rw [Nat.min_self, Nat.zero_add, List.take_of_length_le (Nat.le_refl _)]; rfl
                rw [e]; rfl
              · rintro r1 M1 ⟨rfl, rfl⟩
                exact h
            · rw [hc] at h
              refine eff_of (R := [⟨true, .row (hrow s (.v (.slice none 0 0)) n)⟩]) (args0 := [.ptr 2 9, .s t]) (K0 := fun r M => r = .tup [.i 0, .v .nilIface] ∧ M = Hn s n) [k] (vf_ok (M := Hn s n) e12_ok mixed (noL_ok _ _ _ _) (of_eq (vc25n s n t _) ?_)) rfl rfl (by simp) ⟨⟨true, hk', fun h => h⟩, ⟨rfl, rfl⟩, trivial⟩ ?_
              · rw [hc]; exact ⟨rfl, rfl⟩
              · rintro r1 M1 ⟨rfl, rfl⟩
                rw [show back G _ M _ _ = M.set k ⟨true, .row (hrow s (.v (.slice none 0 0)) n)⟩ ++ [] from rfl, List.append_nil, set_same hk']
                exact h
          | at' j len =>
            replace h : (match M[j]? with
              | some ⟨true, .a8 l⟩ => vsome (!Nat.beq k j && (Nat.ble (len + t.length) 64 && (Nat.blt len 64 && Nat.beq l.length 64))) (setK M k ⟨true, .row (hrow s (.sl j 0 (len + t.length) 64) n)⟩ fun M1 => setK M1 j ⟨true, .a8 (l.take len ++ t ++ l.drop (len + t.length))⟩ fun M2 => K (.tup [.i (t.length : Nat), .v .nilIface]) M2)
              | _ => False) := h
            split at h
            · rename_i l hj
              obtain ⟨hb, hh⟩ := vsome_iff.1 h
              simp only [Bool.and_eq_true] at hb
              obtain ⟨hne, h1, h2, h3⟩ := hb
              have hne := beq_ne hne
              have h2 := blt_lt h2
              have h3 := Nat.eq_of_beq_eq_true h3
              have h1' := Nat.le_of_ble_eq_true h1
              rw [setK_eq, setK_eq] at hh
              refine eff_of (R := [⟨true, .row (hrow s (.sl 3 0 len 64) n)⟩, ⟨true, .a8 l⟩]) (args0 := [.ptr 2 9, .s t]) (K0 := fun r M => r = .tup [.i (t.length : Nat), .v .nilIface] ∧ M = Hb s (len + t.length) n (l.take len ++ t ++ l.drop (len + t.length))) [k, j] (vf_ok (M := Hb s len n l) e12_ok mixed (noL_ok _ _ _ _) (of_eq (vc25b s len n l t _) ?_)) rfl rfl (by simp [hne]) ⟨⟨true, hk, fun h => h⟩, ⟨rfl, rfl⟩, ⟨true, hj, fun h => h⟩, ⟨rfl, rfl⟩, trivial⟩ ?_
              · refine bif_of h1 (bif_of ?_ (bif_of (decide_eq_true (by omega)) ?_))
                · simp [ile_eq, ilt_eq]; omega
                · rw [Nat.add_sub_cancel_left, Nat.min_self, List.take_of_length_le (Nat.le_refl _)]
                  exact ⟨rfl, rfl⟩
              · rintro r1 M1 ⟨rfl, rfl⟩
                rw [show back G _ M _ _ = (M.set k ⟨true, .row (hrow s (.sl j 0 (len + t.length) 64) n)⟩).set j ⟨true, .a8 (l.take len ++ t ++ l.drop (len + t.length))⟩ ++ [] from rfl, List.append_nil]
                exact hh
            · exact h.elim
        · exact h.elim
      · exact h.elim
    · exact h.elim
  · exact h.elim
def cW : List SV → Mm → (SV → Mm → Prop) → Prop
  | [.ptr k off, p], M, K => match M[k]? with
    | some ⟨true, c⟩ => match hget c with
      | some (s, buf, n) => vsome (Nat.beq off 9) <| match bget buf with
        | some b => match b with
          | .no => match bget p with
            | some d => match d with
              | .no => K (.tup [.i 0, .v .nilIface]) M
              | .at' j len => match M[j]? with
                | some ⟨true, .a8 l⟩ => vsome (!Nat.beq k j && (Nat.ble len 64 && Nat.ble len l.length)) (bif ile (len : Int) 0 then K (.tup [.i 0, .v .nilIface]) M else setK M k ⟨true, .row (hrow s (.sl M.length 0 len 64) n)⟩ fun M1 => snocK M1 ⟨true, .a8 (fillB (l.take len))⟩ fun M2 => K (.tup [.i (len : Nat), .v .nilIface]) M2)
                | _ => False
            | none => False
          | _ => False
        | none => False
      | none => False
    | _ => False
  | _, _, _ => False
theorem w_ok : COk Tryd.prog G 49 cW := by
  intro args M K h
  unfold cW at h
  split at h
  · rename_i k off p
    split at h
    · rename_i c hk
      split at h
      · rename_i s buf n hx
        obtain rfl := hget_ok hx
        replace h := vsome_iff.1 h
        obtain ⟨ho, h⟩ := h
        obtain rfl := Nat.eq_of_beq_eq_true ho
        split at h
        · rename_i b hb
          obtain rfl := bget_ok hb
          cases b with
          | no =>
            have hk' : M[k]? = some ⟨true, .row (hrow s (.v (.slice none 0 0)) n)⟩ := hk
            cases hp : bget p with
            | none =>
              replace h : (match bget p with
                | some d => (match d with
                  | BK.no => K (.tup [.i 0, .v .nilIface]) M
                  | .at' j len => match M[j]? with
                    | some ⟨true, .a8 l⟩ => vsome (!Nat.beq k j && (Nat.ble len 64 && Nat.ble len l.length)) (bif ile (len : Int) 0 then K (.tup [.i 0, .v .nilIface]) M else setK M k ⟨true, .row (hrow s (.sl M.length 0 len 64) n)⟩ fun M1 => snocK M1 ⟨true, .a8 (fillB (l.take len))⟩ fun M2 => K (.tup [.i (len : Nat), .v .nilIface]) M2)
                    | _ => False)
                | none => False) := h
              rw [hp] at h
              exact h.elim
            | some d =>
              obtain rfl := bget_ok hp
              cases d with
              | no =>
                replace h : K (.tup [.i 0, .v .nilIface]) M := h
                refine eff_of (R := [⟨true, .row (hrow s (.v (.slice none 0 0)) n)⟩]) (args0 := [.ptr 2 9, .v (.slice none 0 0)]) (K0 := fun r M => r = .tup [.i 0, .v .nilIface] ∧ M = Hn s n) [k] (vf_ok (M := Hn s n) e12_ok mixed (noL_ok _ _ _ _) (of_eq (vc22z s n _) ⟨rfl, rfl⟩)) rfl rfl (by simp) ⟨⟨true, hk', fun h => h⟩, ⟨rfl, rfl⟩, trivial⟩ ?_
                rintro r1 M1 ⟨rfl, rfl⟩
                rw [show back G _ M _ _ = M.set k ⟨true, .row (hrow s (.v (.slice none 0 0)) n)⟩ ++ [] from rfl, List.append_nil, set_same hk']
                exact h
              | at' j len =>
                replace h : (match M[j]? with
                    | some ⟨true, .a8 l⟩ => vsome (!Nat.beq k j && (Nat.ble len 64 && Nat.ble len l.length)) (bif ile (len : Int) 0 then K (.tup [.i 0, .v .nilIface]) M else setK M k ⟨true, .row (hrow s (.sl M.length 0 len 64) n)⟩ fun M1 => snocK M1 ⟨true, .a8 (fillB (l.take len))⟩ fun M2 => K (.tup [.i (len : Nat), .v .nilIface]) M2)
                    | _ => False) := h
                split at h
                · rename_i l hj
                  obtain ⟨hb, hh⟩ := vsome_iff.1 h
                  simp only [Bool.and_eq_true] at hb
                  obtain ⟨hne, h1, h2⟩ := hb
                  have hne := beq_ne hne
                  have h1 := Nat.le_of_ble_eq_true h1
                  have h2 := Nat.le_of_ble_eq_true h2
                  cases hc : ile (len : Int) 0
                  · rw [hc] at hh
                    replace hh : setK M k ⟨true, .row (hrow s (.sl M.length 0 len 64) n)⟩ (fun M1 => snocK M1 ⟨true, .a8 (fillB (l.take len))⟩ fun M2 => K (.tup [.i (len : Nat), .v .nilIface]) M2) := hh
                    rw [setK_eq, snocK_eq] at hh
                    have hpos : 0 < len := by rw [ile_eq] at hc; have := of_decide_eq_false hc; omega
                    have hl : (l.take len).length = len := by rw [List.length_take]; omega
                    refine eff_of (R := [⟨true, .row (hrow s (.v (.slice none 0 0)) n)⟩, ⟨true, .a8 l⟩]) (args0 := [.ptr 2 9, .sl 3 0 len 64]) (K0 := fun r M => r = .tup [.i (len : Nat), .v .nilIface] ∧ M = [⟨false, .a32 H0⟩, ⟨false, .a32 K64⟩, ⟨true, .row (hrow s (.sl 4 0 len 64) n)⟩, ⟨true, .a8 l⟩, ⟨true, .a8 (fillB (l.take len))⟩]) [k, j] (vf_ok (M := Hp s n l) e12_ok mixed (noL_ok _ _ _ _) (of_eq (vc22b s n l len _) ?_)) rfl rfl (by simp [hne]) ⟨⟨true, hk', fun h => h⟩, ⟨rfl, rfl⟩, ⟨true, hj, fun h => h⟩, ⟨rfl, rfl⟩, trivial⟩ ?_
                    · have q1 : ile (len : Int) 64 = true := by rw [ile_eq]; exact decide_eq_true (by omega)
                      have q2 : ilt 0 (len : Int) = true := by rw [ilt_eq]; exact decide_eq_true (by omega)
                      rw [hc, q1, q2]
                      refine bif_of (by simp; omega) ?_
                      rw [List.drop_zero, hl, Nat.min_self]
                      refine ⟨rfl, ?_⟩
                      have e : List.take 0 (List.replicate 64 (0 : BitVec 8)) ++ List.take len (List.take len l) ++ List.drop (0 + len) (List.replicate 64 0) = fillB (l.take len) := by
                        unfold fillB; rw [hl, Nat.zero_add, List.take_take, Nat.min_self]; rfl
                      rw [e]
                    · rintro r1 M1 ⟨rfl, rfl⟩
                      rw [show back G _ M _ _ = (M.set k ⟨true, .row (hrow s (.sl M.length 0 len 64) n)⟩).set j ⟨true, .a8 l⟩ ++ [⟨true, .a8 (fillB (l.take len))⟩] from rfl, set_same (by rw [List.getElem?_set_ne hne]; exact hj)]
                      exact hh
                  · rw [hc] at hh
                    replace hh : K (.tup [.i 0, .v .nilIface]) M := hh
                    refine eff_of (R := [⟨true, .row (hrow s (.v (.slice none 0 0)) n)⟩, ⟨true, .a8 l⟩]) (args0 := [.ptr 2 9, .sl 3 0 len 64]) (K0 := fun r M => r = .tup [.i 0, .v .nilIface] ∧ M = Hp s n l) [k, j] (vf_ok (M := Hp s n l) e12_ok mixed (noL_ok _ _ _ _) (of_eq (vc22b s n l len _) ?_)) rfl rfl (by simp [hne]) ⟨⟨true, hk', fun h => h⟩, ⟨rfl, rfl⟩, ⟨true, hj, fun h => h⟩, ⟨rfl, rfl⟩, trivial⟩ ?_
                    · rw [hc]; exact ⟨rfl, rfl⟩
                    · rintro r1 M1 ⟨rfl, rfl⟩
                      rw [show back G _ M _ _ = (M.set k ⟨true, .row (hrow s (.v (.slice none 0 0)) n)⟩).set j ⟨true, .a8 l⟩ ++ [] from rfl, List.append_nil, set_same hk', set_same hj]
                      exact hh
                · exact h.elim
          | at' j len => exact h.elim
        · exact h.elim
      · exact h.elim
    · exact h.elim
  · exact h.elim
def C13 : CT := (C12.add 38 cWS).add 49 cW
def E13 : Env := ⟨G, T10, C13⟩
theorem e13_ok : EnvOk Tryd.prog E13 := ⟨e12_ok.T, CT.add_ok (CT.add_ok e12_ok.C ws_ok) w_ok⟩
end Go.Proofs.YtmalnjdacmlcdaaDoor
