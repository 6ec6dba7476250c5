/-
  aead: the laws of blocks, tags and sealed texts, where the package answers as the document does. No statement is proved here.
-/
import Derived.Test.YtgjhkfafmmkimaaDoorAeL
namespace Go.Proofs.YtgjhkfafmmkimaaDoor
open Go.RowKit
set_option linter.unusedVariables false
set_option linter.unusedSimpArgs false
set_option maxRecDepth 100000

def cTagR (S : Tx → Tx → Tx) (F : Tx → Int) : List SV → List Cont → Option (Bool × SV)
  | [.s key, .s s], _ => some (Nat.ble s.length 1099511627776, .tup [.s (S key s), .i (F key)])
  | _, _ => none
theorem tagR_ok : POk Tryd.prog G 14 (cTagR tS tE) := by
  intro args acs r h
  refine tag_ok args acs r ?_
  unfold cTagR at h
  split at h
  · rename_i key s
    simp only [Option.some.injEq, Prod.mk.injEq] at h
    obtain ⟨h1, rfl⟩ := h
    show some (Nat.ble s.length 1099511627776, bif Nat.beq key.length 32 then SV.tup [.s (tagD key s), .i 0] else .tup [.s [], .i 2]) = _
    rw [h1]
    cases hb : Nat.beq key.length 32
    · have hne : ¬ key.length = 32 := fun e => by rw [e] at hb; cases hb
      have e1 : tE key = 2 := if_neg hne
      have e2 : tS key s = [] := by unfold tS; rw [e1]; exact if_neg (by decide)
      rw [e1, e2]; rfl
    · have e1 : tE key = 0 := if_pos (Nat.eq_of_beq_eq_true hb)
      have e2 : tS key s = tagD key s := by unfold tS; exact if_pos e1
      rw [e1, e2]; rfl
  · cases h
def ELw (B : Tx → Tx → BitVec 32 → Tx) (BE : Tx → Tx → Int) (BR : Tx → Tx → BitVec 32 → Tx) (T : Tx → Tx → Tx) (TE : Tx → Int) (S : Tx → Tx → Tx → Tx → Tx) (SE : Tx → Tx → Tx → Tx → Int) (O : Tx → Tx → Tx → Tx → Tx) (OE : Tx → Tx → Tx → Tx → Int) : Env := ⟨G, ((((((((((noT.add 11 (cPB B BE)).add 13 (cPT T TE)).add 16 (cPS S SE)).add 18 (cPS O OE)).add 15 cPE).add 12 (cBlk BR)).add 14 (cTagR T TE)).add 17 (cSeal S SE)).add 19 (cSeal O OE)).add 9 cSmall).add 10 cYes, noC⟩
theorem elw_ok (h : AeOk) : EnvOk Tryd.prog (ELw bS bE blockR tS tE sS slE oS oE) := ⟨PT.add_ok (PT.add_ok (PT.add_ok (PT.add_ok (PT.add_ok (PT.add_ok (PT.add_ok (PT.add_ok (PT.add_ok (PT.add_ok (PT.add_ok (noT_ok _ _) h.B) h.T) h.S) h.O) h.E) rblk_ok) tagR_ok) seal_ok) open_ok) fewF_ok) (alive_ok h), noC_ok _ _⟩
theorem vaLB (B : Tx → Tx → BitVec 32 → Tx) (BE : Tx → Tx → Int) (BR : Tx → Tx → BitVec 32 → Tx) (T : Tx → Tx → Tx) (TE : Tx → Int) (S : Tx → Tx → Tx → Tx → Tx) (SE : Tx → Tx → Tx → Tx → Int) (O : Tx → Tx → Tx → Tx → Tx) (OE : Tx → Tx → Tx → Tx → Int) (key nonce : Tx) (n : BitVec 32) (K : SV → Mm → Prop) : (vf Tryd.prog (ELw B BE BR T TE S SE O OE) noL 3 [.s key, .s nonce, .w32 n] G K) = (bif okS (List.take (2 : Nat) (List.drop (0 : Nat) [key, nonce])) then bif !ile (↑(tot (List.take (2 : Nat) (List.drop (0 : Nat) [key, nonce]))) : Int) (4096 : Int) then K (SV.b true) [{ rw := false, c := Cont.ints MX }, { rw := true, c := Cont.strs [] [key, nonce] }] else bif fit key && fit nonce then bif ((↑(List.length key) : Int) != (32 : Int)) == false then bif ((↑(List.length key) : Int) != (32 : Int)) == false then bif ((↑(List.length key) : Int) != (32 : Int)) == false then bif bif (↑(List.length key) : Int) != (32 : Int) then true else (↑(List.length nonce) : Int) != (12 : Int) then bif (B key nonce n == bts { data := #[] }) == true then bif (B key nonce n == bts { data := #[] }) == true then bif (bif B key nonce n == bts { data := #[] } then BE key nonce == (2 : Int) else false) == true then K (SV.b (bif bif B key nonce n == bts { data := #[] } then BE key nonce == (2 : Int) else false then true else false)) [{ rw := false, c := Cont.ints MX }, { rw := true, c := Cont.strs [] [key, nonce] }] else bif !bif B key nonce n == bts { data := #[] } then BE key nonce == (2 : Int) else false then K (SV.b false) [{ rw := false, c := Cont.ints MX }, { rw := true, c := Cont.strs [] [key, nonce] }] else False else bif !B key nonce n == bts { data := #[] } then K (SV.b false) [{ rw := false, c := Cont.ints MX }, { rw := true, c := Cont.strs [] [key, nonce] }] else False else bif (B key nonce n == bts { data := #[] }) == true then False else bif !B key nonce n == bts { data := #[] } then K (SV.b false) [{ rw := false, c := Cont.ints MX }, { rw := true, c := Cont.strs [] [key, nonce] }] else False else bif (List.length key).beq (32 : Nat) && (List.length nonce).beq (12 : Nat) then bif (B key nonce n == BR key nonce n) == true then bif (B key nonce n == BR key nonce n) == true then bif (bif B key nonce n == BR key nonce n then BE key nonce == (0 : Int) else false) == true then K (SV.b (bif bif B key nonce n == BR key nonce n then BE key nonce == (0 : Int) else false then true else false)) [{ rw := false, c := Cont.ints MX }, { rw := true, c := Cont.strs [] [key, nonce] }] else bif !bif B key nonce n == BR key nonce n then BE key nonce == (0 : Int) else false then K (SV.b false) [{ rw := false, c := Cont.ints MX }, { rw := true, c := Cont.strs [] [key, nonce] }] else False else bif !B key nonce n == BR key nonce n then K (SV.b false) [{ rw := false, c := Cont.ints MX }, { rw := true, c := Cont.strs [] [key, nonce] }] else False else bif (B key nonce n == BR key nonce n) == true then False else bif !B key nonce n == BR key nonce n then K (SV.b false) [{ rw := false, c := Cont.ints MX }, { rw := true, c := Cont.strs [] [key, nonce] }] else False else False else bif (↑(List.length key) : Int) != (32 : Int) then bif (B key nonce n == bts { data := #[] }) == true then bif (B key nonce n == bts { data := #[] }) == true then bif (bif B key nonce n == bts { data := #[] } then BE key nonce == (2 : Int) else false) == true then K (SV.b (bif bif B key nonce n == bts { data := #[] } then BE key nonce == (2 : Int) else false then true else false)) [{ rw := false, c := Cont.ints MX }, { rw := true, c := Cont.strs [] [key, nonce] }] else bif !bif B key nonce n == bts { data := #[] } then BE key nonce == (2 : Int) else false then K (SV.b false) [{ rw := false, c := Cont.ints MX }, { rw := true, c := Cont.strs [] [key, nonce] }] else False else bif !B key nonce n == bts { data := #[] } then K (SV.b false) [{ rw := false, c := Cont.ints MX }, { rw := true, c := Cont.strs [] [key, nonce] }] else False else bif (B key nonce n == bts { data := #[] }) == true then False else bif !B key nonce n == bts { data := #[] } then K (SV.b false) [{ rw := false, c := Cont.ints MX }, { rw := true, c := Cont.strs [] [key, nonce] }] else False else False else bif ((↑(List.length key) : Int) != (32 : Int)) == false then False else bif (↑(List.length key) : Int) != (32 : Int) then bif (B key nonce n == bts { data := #[] }) == true then bif (B key nonce n == bts { data := #[] }) == true then bif (bif B key nonce n == bts { data := #[] } then BE key nonce == (2 : Int) else false) == true then K (SV.b (bif bif B key nonce n == bts { data := #[] } then BE key nonce == (2 : Int) else false then true else false)) [{ rw := false, c := Cont.ints MX }, { rw := true, c := Cont.strs [] [key, nonce] }] else bif !bif B key nonce n == bts { data := #[] } then BE key nonce == (2 : Int) else false then K (SV.b false) [{ rw := false, c := Cont.ints MX }, { rw := true, c := Cont.strs [] [key, nonce] }] else False else bif !B key nonce n == bts { data := #[] } then K (SV.b false) [{ rw := false, c := Cont.ints MX }, { rw := true, c := Cont.strs [] [key, nonce] }] else False else bif (B key nonce n == bts { data := #[] }) == true then False else bif !B key nonce n == bts { data := #[] } then K (SV.b false) [{ rw := false, c := Cont.ints MX }, { rw := true, c := Cont.strs [] [key, nonce] }] else False else False else bif ((↑(List.length key) : Int) != (32 : Int)) == false then False else bif ((↑(List.length key) : Int) != (32 : Int)) == false then False else bif (↑(List.length key) : Int) != (32 : Int) then bif (B key nonce n == bts { data := #[] }) == true then bif (B key nonce n == bts { data := #[] }) == true then bif (bif B key nonce n == bts { data := #[] } then BE key nonce == (2 : Int) else false) == true then K (SV.b (bif bif B key nonce n == bts { data := #[] } then BE key nonce == (2 : Int) else false then true else false)) [{ rw := false, c := Cont.ints MX }, { rw := true, c := Cont.strs [] [key, nonce] }] else bif !bif B key nonce n == bts { data := #[] } then BE key nonce == (2 : Int) else false then K (SV.b false) [{ rw := false, c := Cont.ints MX }, { rw := true, c := Cont.strs [] [key, nonce] }] else False else bif !B key nonce n == bts { data := #[] } then K (SV.b false) [{ rw := false, c := Cont.ints MX }, { rw := true, c := Cont.strs [] [key, nonce] }] else False else bif (B key nonce n == bts { data := #[] }) == true then False else bif !B key nonce n == bts { data := #[] } then K (SV.b false) [{ rw := false, c := Cont.ints MX }, { rw := true, c := Cont.strs [] [key, nonce] }] else False else False else False else False) := by kernel_rfl
theorem vaLS (B : Tx → Tx → BitVec 32 → Tx) (BE : Tx → Tx → Int) (BR : Tx → Tx → BitVec 32 → Tx) (T : Tx → Tx → Tx) (TE : Tx → Int) (S : Tx → Tx → Tx → Tx → Tx) (SE : Tx → Tx → Tx → Tx → Int) (O : Tx → Tx → Tx → Tx → Tx) (OE : Tx → Tx → Tx → Tx → Int) (key nonce ad s : Tx) (K : SV → Mm → Prop) : (vf Tryd.prog (ELw B BE BR T TE S SE O OE) noL 6 [.s key, .s nonce, .s ad, .s s] G K) = (bif okS (List.take (4 : Nat) (List.drop (0 : Nat) [key, nonce, ad, s])) then bif !ile (↑(tot (List.take (4 : Nat) (List.drop (0 : Nat) [key, nonce, ad, s]))) : Int) (4096 : Int) then K (SV.b true) [{ rw := false, c := Cont.ints MX }, { rw := true, c := Cont.strs [] [key, nonce, ad, s] }] else bif fit key && (fit nonce && (fit ad && fit s)) then bif fit key && (fit nonce && (fit ad && fit s)) then bif (S key nonce ad s == S key nonce ad s) == true then bif (S key nonce ad s == S key nonce ad s) == true then bif (S key nonce ad s == S key nonce ad s) == true then bif (bif S key nonce ad s == S key nonce ad s then SE key nonce ad s == SE key nonce ad s else false) == true then bif (bif S key nonce ad s == S key nonce ad s then SE key nonce ad s == SE key nonce ad s else false) == true then bif (bif S key nonce ad s == S key nonce ad s then SE key nonce ad s == SE key nonce ad s else false) == true then bif (bif bif S key nonce ad s == S key nonce ad s then SE key nonce ad s == SE key nonce ad s else false then O key nonce ad s == O key nonce ad s else false) == true then bif (bif bif S key nonce ad s == S key nonce ad s then SE key nonce ad s == SE key nonce ad s else false then O key nonce ad s == O key nonce ad s else false) == true then bif (bif bif S key nonce ad s == S key nonce ad s then SE key nonce ad s == SE key nonce ad s else false then O key nonce ad s == O key nonce ad s else false) == true then bif (bif bif bif S key nonce ad s == S key nonce ad s then SE key nonce ad s == SE key nonce ad s else false then O key nonce ad s == O key nonce ad s else false then OE key nonce ad s == OE key nonce ad s else false) == true then K (SV.b (bif bif bif bif S key nonce ad s == S key nonce ad s then SE key nonce ad s == SE key nonce ad s else false then O key nonce ad s == O key nonce ad s else false then OE key nonce ad s == OE key nonce ad s else false then true else false)) [{ rw := false, c := Cont.ints MX }, { rw := true, c := Cont.strs [] [key, nonce, ad, s] }] else bif !bif bif bif S key nonce ad s == S key nonce ad s then SE key nonce ad s == SE key nonce ad s else false then O key nonce ad s == O key nonce ad s else false then OE key nonce ad s == OE key nonce ad s else false then K (SV.b false) [{ rw := false, c := Cont.ints MX }, { rw := true, c := Cont.strs [] [key, nonce, ad, s] }] else False else bif !bif bif S key nonce ad s == S key nonce ad s then SE key nonce ad s == SE key nonce ad s else false then O key nonce ad s == O key nonce ad s else false then K (SV.b false) [{ rw := false, c := Cont.ints MX }, { rw := true, c := Cont.strs [] [key, nonce, ad, s] }] else False else bif (bif bif S key nonce ad s == S key nonce ad s then SE key nonce ad s == SE key nonce ad s else false then O key nonce ad s == O key nonce ad s else false) == true then False else bif !bif bif S key nonce ad s == S key nonce ad s then SE key nonce ad s == SE key nonce ad s else false then O key nonce ad s == O key nonce ad s else false then K (SV.b false) [{ rw := false, c := Cont.ints MX }, { rw := true, c := Cont.strs [] [key, nonce, ad, s] }] else False else bif (bif bif S key nonce ad s == S key nonce ad s then SE key nonce ad s == SE key nonce ad s else false then O key nonce ad s == O key nonce ad s else false) == true then bif (bif bif S key nonce ad s == S key nonce ad s then SE key nonce ad s == SE key nonce ad s else false then O key nonce ad s == O key nonce ad s else false) == true then False else bif !bif bif S key nonce ad s == S key nonce ad s then SE key nonce ad s == SE key nonce ad s else false then O key nonce ad s == O key nonce ad s else false then K (SV.b false) [{ rw := false, c := Cont.ints MX }, { rw := true, c := Cont.strs [] [key, nonce, ad, s] }] else False else bif (bif bif S key nonce ad s == S key nonce ad s then SE key nonce ad s == SE key nonce ad s else false then O key nonce ad s == O key nonce ad s else false) == true then False else bif !bif bif S key nonce ad s == S key nonce ad s then SE key nonce ad s == SE key nonce ad s else false then O key nonce ad s == O key nonce ad s else false then K (SV.b false) [{ rw := false, c := Cont.ints MX }, { rw := true, c := Cont.strs [] [key, nonce, ad, s] }] else False else bif !bif S key nonce ad s == S key nonce ad s then SE key nonce ad s == SE key nonce ad s else false then K (SV.b false) [{ rw := false, c := Cont.ints MX }, { rw := true, c := Cont.strs [] [key, nonce, ad, s] }] else False else bif (bif S key nonce ad s == S key nonce ad s then SE key nonce ad s == SE key nonce ad s else false) == true then False else bif !bif S key nonce ad s == S key nonce ad s then SE key nonce ad s == SE key nonce ad s else false then K (SV.b false) [{ rw := false, c := Cont.ints MX }, { rw := true, c := Cont.strs [] [key, nonce, ad, s] }] else False else bif (bif S key nonce ad s == S key nonce ad s then SE key nonce ad s == SE key nonce ad s else false) == true then bif (bif S key nonce ad s == S key nonce ad s then SE key nonce ad s == SE key nonce ad s else false) == true then False else bif !bif S key nonce ad s == S key nonce ad s then SE key nonce ad s == SE key nonce ad s else false then K (SV.b false) [{ rw := false, c := Cont.ints MX }, { rw := true, c := Cont.strs [] [key, nonce, ad, s] }] else False else bif (bif S key nonce ad s == S key nonce ad s then SE key nonce ad s == SE key nonce ad s else false) == true then False else bif !bif S key nonce ad s == S key nonce ad s then SE key nonce ad s == SE key nonce ad s else false then K (SV.b false) [{ rw := false, c := Cont.ints MX }, { rw := true, c := Cont.strs [] [key, nonce, ad, s] }] else False else bif !S key nonce ad s == S key nonce ad s then K (SV.b false) [{ rw := false, c := Cont.ints MX }, { rw := true, c := Cont.strs [] [key, nonce, ad, s] }] else False else bif (S key nonce ad s == S key nonce ad s) == true then False else bif !S key nonce ad s == S key nonce ad s then K (SV.b false) [{ rw := false, c := Cont.ints MX }, { rw := true, c := Cont.strs [] [key, nonce, ad, s] }] else False else bif (S key nonce ad s == S key nonce ad s) == true then bif (S key nonce ad s == S key nonce ad s) == true then False else bif !S key nonce ad s == S key nonce ad s then K (SV.b false) [{ rw := false, c := Cont.ints MX }, { rw := true, c := Cont.strs [] [key, nonce, ad, s] }] else False else bif (S key nonce ad s == S key nonce ad s) == true then False else bif !S key nonce ad s == S key nonce ad s then K (SV.b false) [{ rw := false, c := Cont.ints MX }, { rw := true, c := Cont.strs [] [key, nonce, ad, s] }] else False else False else False else False) := by kernel_rfl
def lng (s : Tx) : Bool := Nat.ble s.length 140737488355328
def cLB : List SV → List Cont → Option (Bool × SV)
  | [.s key, .s nonce, .w32 n], _ => some (lng key && lng nonce, .b true)
  | _, _ => none
def cLT : List SV → List Cont → Option (Bool × SV)
  | [.s key, .s s, .s other], _ => some (lng key && (lng s && lng other), .b true)
  | _, _ => none
def cLS : List SV → List Cont → Option (Bool × SV)
  | [.s key, .s nonce, .s ad, .s s], _ => some (lng key && (lng nonce && (lng ad && lng s)), .b true)
  | _, _ => none
theorem fit_of {s : Tx} (h : s.length ≤ 1048576) : fit s = true := Nat.ble_eq_true_of_le h
theorem blocks_ok (h : AeOk) : POk Tryd.prog G 3 cLB := by
  intro args acs r hh β M w hR hw ha
  unfold cLB at hh
  split at hh
  · rename_i key nonce n
    simp only [Option.some.injEq, Prod.mk.injEq, Bool.and_eq_true] at hh
    obtain ⟨⟨l1, l2⟩, rfl⟩ := hh
    have tf : (true == false) = false := rfl
    have ff : (false == false) = true := rfl
    have tt : (true == true) = true := rfl
    have eo : okS (List.take 2 (List.drop 0 [key, nonce])) = true := by
      show (Nat.ble key.length 140737488355328 && (Nat.ble nonce.length 140737488355328 && true)) = true
      rw [show Nat.ble key.length 140737488355328 = true from l1, show Nat.ble nonce.length 140737488355328 = true from l2]; rfl
    have et : tot (List.take 2 (List.drop 0 [key, nonce])) = key.length + nonce.length := by show 0 + key.length + nonce.length = _; omega
    refine pure0 (vf_ok (elw_ok h) mixed (noL_ok _ _ _ _) (of_eq (vaLB bS bE blockR tS tE sS slE oS oE key nonce n _) ?_)) rfl rfl hR
    rw [et]
    refine bif_of eo ?_
    by_cases hb : key.length + nonce.length ≤ 4096
    · have e0 : ile ((key.length + nonce.length : Nat) : Int) 4096 = true := by rw [ile_eq]; exact decide_eq_true (by omega)
      have f1 : fit key = true := fit_of (by omega)
      have f2 : fit nonce = true := fit_of (by omega)
      by_cases h1 : key.length = 32
      · have e1 : ((key.length : Int) != 32) = false := intne_f h1
        by_cases h2 : nonce.length = 12
        · have e2 : ((nonce.length : Int) != 12) = false := intne_f h2
          have e3 : bE key nonce = 0 := if_pos ⟨h1, h2⟩
          have e4 : bS key nonce n = blockR key nonce n := by unfold bS; exact if_pos e3
          have g1 : Nat.beq key.length 32 = true := by rw [h1]; rfl
          have g2 : Nat.beq nonce.length 12 = true := by rw [h2]; rfl
          have z0 : ((0 : Int) == 0) = true := rfl
          rw [e3, e4]
          simp only [e0, f1, f2, e1, e2, g1, g2, tf, ff, tt, z0, beq_self_eq_true, cond_true, cond_false, Bool.not_true, Bool.not_false, Bool.and_self]
        · have e2 : ((nonce.length : Int) != 12) = true := intne_t h2
          have e3 : bE key nonce = 2 := if_neg (fun z => h2 z.2)
          have e4 : bS key nonce n = [] := by unfold bS; rw [e3]; exact if_neg (by decide)
          have z0 : (([] : Tx) == bts { data := #[] }) = true := rfl
          have z2 : ((2 : Int) == 2) = true := rfl
          rw [e3, e4]
          simp only [e0, f1, f2, e1, e2, tf, ff, tt, z0, z2, cond_true, cond_false, Bool.not_true, Bool.not_false, Bool.and_self]
      · have e1 : ((key.length : Int) != 32) = true := intne_t h1
        have e3 : bE key nonce = 2 := if_neg (fun z => h1 z.1)
        have e4 : bS key nonce n = [] := by unfold bS; rw [e3]; exact if_neg (by decide)
        have z0 : (([] : Tx) == bts { data := #[] }) = true := rfl
        have z2 : ((2 : Int) == 2) = true := rfl
        rw [e3, e4]
        simp only [e0, f1, f2, e1, tf, ff, tt, z0, z2, cond_true, cond_false, Bool.not_true, Bool.not_false, Bool.and_self]
    · have e0 : ile ((key.length + nonce.length : Nat) : Int) 4096 = false := by rw [ile_eq]; exact decide_eq_false (by omega)
      rw [e0]
      rfl
  · cases hh
theorem seals_ok (h : AeOk) : POk Tryd.prog G 6 cLS := by
  intro args acs r hh β M w hR hw ha
  unfold cLS at hh
  split at hh
  · rename_i key nonce ad s
    simp only [Option.some.injEq, Prod.mk.injEq, Bool.and_eq_true] at hh
    obtain ⟨⟨l1, l2, l3, l4⟩, rfl⟩ := hh
    have tf : (true == false) = false := rfl
    have ff : (false == false) = true := rfl
    have tt : (true == true) = true := rfl
    have eo : okS (List.take 4 (List.drop 0 [key, nonce, ad, s])) = true := by
      show (Nat.ble key.length 140737488355328 && (Nat.ble nonce.length 140737488355328 && (Nat.ble ad.length 140737488355328 && (Nat.ble s.length 140737488355328 && true)))) = true
      rw [show Nat.ble key.length 140737488355328 = true from l1, show Nat.ble nonce.length 140737488355328 = true from l2, show Nat.ble ad.length 140737488355328 = true from l3, show Nat.ble s.length 140737488355328 = true from l4]; rfl
    have et : tot (List.take 4 (List.drop 0 [key, nonce, ad, s])) = key.length + nonce.length + ad.length + s.length := by show 0 + key.length + nonce.length + ad.length + s.length = _; omega
    refine pure0 (vf_ok (elw_ok h) mixed (noL_ok _ _ _ _) (of_eq (vaLS bS bE blockR tS tE sS slE oS oE key nonce ad s _) ?_)) rfl rfl hR
    rw [et]
    refine bif_of eo ?_
    by_cases hb : key.length + nonce.length + ad.length + s.length ≤ 4096
    · have e0 : ile ((key.length + nonce.length + ad.length + s.length : Nat) : Int) 4096 = true := by rw [ile_eq]; exact decide_eq_true (by omega)
      have f1 : fit key = true := fit_of (by omega)
      have f2 : fit nonce = true := fit_of (by omega)
      have f3 : fit ad = true := fit_of (by omega)
      have f4 : fit s = true := fit_of (by omega)
      simp only [e0, f1, f2, f3, f4, tf, ff, tt, beq_self_eq_true, cond_true, cond_false, Bool.not_true, Bool.not_false, Bool.and_self]
    · have e0 : ile ((key.length + nonce.length + ad.length + s.length : Nat) : Int) 4096 = false := by rw [ile_eq]; exact decide_eq_false (by omega)
      rw [e0]
      rfl
  · cases hh
end Go.Proofs.YtgjhkfafmmkimaaDoor
