/-
  seg: what bytes are read as: the program's answers and the document's are the same. No statement is proved here.
-/
import Derived.Test.YtmeipcgkhgagpaaSgI
import Derived.Test.YtmeipcgkhgagpaaSgJ
namespace Go.Proofs.Ytmeipcgkhgagpaa
open Go.RowKit
set_option linter.unusedVariables false
set_option linter.unusedSimpArgs false
set_option maxRecDepth 100000

def hdX (l : Tx) : Hd := ⟨(nmX (List.drop 0 (List.take 2 l))).setWidth 16, (nmX (List.drop 2 (List.take 4 l))).setWidth 16, nmX (List.drop 4 (List.take 8 l)), nmX (List.drop 8 (List.take 12 l)), l.getD 13 0, (nmX (List.drop 14 (List.take 16 l))).setWidth 16⟩
def hsz (l : Tx) : Int := 4 * ((l.getD 12 0 >>> 4).toNat : Int)
def optB (l : Tx) : Tx := List.drop 20 (List.take (hsz l).toNat l)
def opO (l : Tx) : OpR := opX (optB l) 0 false 0
def deE (l : Tx) (s d : BitVec 32) : Int := bif ilt ((l.length : Nat) : Int) 20 then 7 else bif ilt (hsz l) 20 then 8 else bif ilt ((l.length : Nat) : Int) (hsz l) then 8 else bif sgS l s d != BitVec.ofInt 16 0 then 180 else bif (opO l).ok then 0 else 8
def sgZ : Sg := ⟨0, 0, 0, 0, 0, 0, 0, false, 0, []⟩
def sgO (l : Tx) : Sg := ⟨(hdX l).a, (hdX l).b, (hdX l).q, (hdX l).k, (hdX l).f, (hdX l).w, bif syn (hdX l).f then (opO l).m else 0, bif syn (hdX l).f then (opO l).h else false, bif syn (hdX l).f then (opO l).c else 0, l.drop (hsz l).toNat⟩
def deG (l : Tx) (s d : BitVec 32) : Sg := bif deE l s d == 0 then sgO l else sgZ
def cDe (E : Tx → BitVec 32 → BitVec 32 → Int) (X : Tx → BitVec 32 → BitVec 32 → Sg) : List SV → List Cont → Option (Bool × SV)
  | [.s l, .w32 s, .w32 d], _ => some (Nat.ble l.length 4294960000, .tup [(X l s d).sv, .i (E l s d)])
  | _, _ => none
theorem de_err {l : Tx} {s d : BitVec 32} {e : Int} (h : deE l s d = e) (he : (e == 0) = false) : SV.tup [SV.agg [SV.w16 0, SV.w16 0, SV.w32 0, SV.w32 0, SV.w8 0, SV.w16 0, SV.w16 0, SV.b false, SV.w8 0, SV.s []], .i e] = SV.tup [(deG l s d).sv, .i (deE l s d)] := by
  unfold deG
  rw [h, he]; rfl
theorem de_ok {l : Tx} {s d : BitVec 32} (h : deE l s d = 0) : SV.tup [(sgO l).sv, .i 0] = SV.tup [(deG l s d).sv, .i (deE l s d)] := by
  unfold deG
  rw [h]; rfl
theorem segOf_ok : POk Try.prog G 21 (cSo hdX) := by
  intro args acs r hh β M w hR hw ha
  unfold cSo at hh
  split at hh
  · rename_i l z m h c
    simp only [Option.some.injEq, Prod.mk.injEq, Bool.and_eq_true] at hh
    obtain ⟨⟨hl1, hl2, hz1, hz2⟩, rfl⟩ := hh
    have hl1 := Nat.le_of_ble_eq_true hl1
    have hl2 := Nat.le_of_ble_eq_true hl2
    have hz1 := of_ile hz1
    have hz2 := of_ile hz2
    refine pokE (E := EG nmX) rfl { T := PT.add_ok (PT.add_ok t0_ok number_ok) clone_ok, C := noC_ok _ _ } (noL_ok _ _ _ _) (v21 nmX l z m h c _) ?_ rfl rfl hR
    refine bif_of (ile_of (by omega)) (bif_of (ble_of (by rw [List.length_drop, List.length_take]; omega)) ?_)
    refine bif_of (ile_of (by omega)) (bif_of (ble_of (by rw [List.length_drop, List.length_take]; omega)) ?_)
    refine bif_of (ile_of (by omega)) (bif_of (ble_of (by rw [List.length_drop, List.length_take]; omega)) ?_)
    refine bif_of (ile_of (by omega)) (bif_of (ble_of (by rw [List.length_drop, List.length_take]; omega)) ?_)
    refine bif_of (inR_iff.2 ⟨by omega, by omega⟩) ?_
    refine bif_of (ile_of (by omega)) (bif_of (ble_of (by rw [List.length_drop, List.length_take]; omega)) ?_)
    refine bif_of (and_t (and_t (ile_of (by omega)) (ile_of (by omega))) (ile_of (by omega))) (bif_of (ble_of (by rw [List.length_drop, List.length_take]; omega)) ?_)
    rw [List.take_length]
    have hs : syn (hdX l).f = (List.getD l 13 0 &&& BitVec.ofInt 8 2 != BitVec.ofInt 8 0) := rfl
    rcases b_tf (List.getD l 13 0 &&& BitVec.ofInt 8 2 != BitVec.ofInt 8 0) with hx | hx
    · refine bif_t hx ⟨⟨⟨?_, trivial⟩, trivial⟩, trivial⟩
      rw [hs, hx]; rfl
    · refine bif_f hx ?_
      rw [hs, hx]; rfl
  · cases hh
theorem ed_ok : EnvOk Try.prog (ED sgS opX hdX) := { T := PT.add_ok (PT.add_ok (PT.add_ok t0_ok segSum_ok) read_ok) segOf_ok, C := noC_ok _ _ }
theorem decode_ok : POk Try.prog G 10 (cDe deE deG) := by
  intro args acs r hh β M w hR hw ha
  unfold cDe at hh
  split at hh
  · rename_i l s d
    simp only [Option.some.injEq, Prod.mk.injEq] at hh
    obtain ⟨hl, hh⟩ := hh
    have hl := Nat.le_of_ble_eq_true hl
    refine pokE (E := ED sgS opX hdX) rfl ed_ok (noL_ok _ _ _ _) (v10 sgS opX hdX l s d _) ?_ rfl (by rw [← hh]; rfl) hR
    have e1 : ∀ e : Int, deE l s d = e → (e == 0) = false → SV.tup [SV.agg [SV.w16 0, SV.w16 0, SV.w32 0, SV.w32 0, SV.w8 0, SV.w16 0, SV.w16 0, SV.b false, SV.w8 0, SV.s []], .i e] = r := fun e h he => by rw [← hh]; exact de_err h he
    have e2 : deE l s d = 0 → SV.tup [(sgO l).sv, .i 0] = r := fun h => by rw [← hh]; exact de_ok h
    clear hh
    have hE : deE l s d = deE l s d := rfl
    conv at hE => rhs; unfold deE
    rcases b_tf (ilt ((l.length : Nat) : Int) 20) with h1 | h1
    · rw [h1] at hE
      exact bif_t h1 (e1 7 hE rfl)
    rw [h1] at hE
    refine bif_f h1 ?_
    have h1 := of_nilt h1
    have hz : (l.getD 12 0 >>> 4).toNat < 256 := (l.getD 12 0 >>> 4).isLt
    refine bif_of (inR_iff.2 ⟨by omega, by omega⟩) (bif_of (inI_iff.2 (by omega)) ?_)
    have hz0 : hsz l = 4 * ((l.getD 12 0 >>> 4).toNat : Int) := rfl
    rcases b_tf (ilt (hsz l) 20) with h2 | h2
    · rw [h2] at hE
      exact bif_t h2 (e1 8 hE rfl)
    rw [h2] at hE
    refine bif_f h2 ?_
    have h2 := of_nilt h2
    rcases b_tf (ilt ((l.length : Nat) : Int) (hsz l)) with h3 | h3
    · rw [h3] at hE
      exact bif_t h3 (e1 8 hE rfl)
    rw [h3] at hE
    refine bif_f h3 ?_
    have h3 := of_nilt h3
    refine bif_of (ble_of hl) ?_
    rcases b_tf (sgS l s d != BitVec.ofInt 16 0) with h4 | h4
    · rw [h4] at hE
      exact bif_t h4 (e1 180 hE rfl)
    rw [h4] at hE
    refine bif_f h4 ?_
    refine bif_of (and_t (ile_of (by omega)) (ile_of (by omega))) (bif_of (ble_of (by rw [List.length_drop, List.length_take]; omega)) ?_)
    rcases b_tf ((opO l).ok) with h5 | h5
    · rw [h5] at hE
      have h5' : (opX (List.drop 20 (List.take ((4 : Int) * (((l.getD 12 0 >>> 4).toNat : Nat) : Int)).toNat l)) 0 false 0).ok = true := h5
      refine bif_f (by rw [h5']; rfl) (bif_of (and_t (ble_of (by omega)) (and_t (ble_of hl) (ile_of (by omega)))) ?_)
      rw [h5']
      exact e2 hE
    · rw [h5] at hE
      have h5' : (opX (List.drop 20 (List.take ((4 : Int) * (((l.getD 12 0 >>> 4).toNat : Nat) : Int)).toNat l)) 0 false 0).ok = false := h5
      refine bif_t (by rw [h5']; rfl) ?_
      rw [h5']
      exact e1 8 hE rfl
  · cases hh
theorem vl32 (l : Tx) : (vl4 l).setWidth 32 = nmX l := by
  have := (nmX l).isLt
  apply BitVec.eq_of_toNat_eq
  unfold vl4
  simp only [BitVec.toNat_setWidth]
  omega
theorem eh_ok : EnvOk Try.prog (EH vl4 sgS opX) := { T := PT.add_ok (PT.add_ok t0_ok segSumD_ok) value4_ok, C := CT.add_ok (noC_ok _ _) options_ok }
theorem decodeD_ok : POk Try.prog G 11 (cDe deE deG) := by
  intro args acs r hh β M w hR hw ha
  unfold cDe at hh
  split at hh
  · rename_i l s d
    simp only [Option.some.injEq, Prod.mk.injEq] at hh
    obtain ⟨hl, hh⟩ := hh
    have hl := Nat.le_of_ble_eq_true hl
    refine pokE (E := EH vl4 sgS opX) rfl eh_ok (noL_ok _ _ _ _) (v11 vl4 sgS opX l s d _) ?_ rfl (by rw [← hh]; rfl) hR
    have e1 : ∀ e : Int, deE l s d = e → (e == 0) = false → SV.tup [SV.agg [SV.w16 0, SV.w16 0, SV.w32 0, SV.w32 0, SV.w8 0, SV.w16 0, SV.w16 0, SV.b false, SV.w8 0, SV.s []], .i e] = r := fun e h he => by rw [← hh]; exact de_err h he
    have e2 : deE l s d = 0 → SV.tup [(sgO l).sv, .i 0] = r := fun h => by rw [← hh]; exact de_ok h
    clear hh
    have hE : deE l s d = deE l s d := rfl
    conv at hE => rhs; unfold deE
    rcases b_tf (ilt ((l.length : Nat) : Int) 20) with h1 | h1
    · rw [h1] at hE
      exact bif_t h1 (e1 7 hE rfl)
    rw [h1] at hE
    refine bif_f h1 ?_
    have h1 := of_nilt h1
    have hz : (l.getD 12 0 >>> 4).toNat < 256 := (l.getD 12 0 >>> 4).isLt
    refine bif_of (inR_iff.2 ⟨by omega, by omega⟩) (bif_of (inI_iff.2 (by omega)) ?_)
    have hz0 : hsz l = 4 * ((l.getD 12 0 >>> 4).toNat : Int) := rfl
    rcases b_tf (ilt (hsz l) 20) with h2 | h2
    · rw [h2] at hE
      exact bif_t h2 (e1 8 hE rfl)
    rw [h2] at hE
    refine bif_f h2 ?_
    have h2 := of_nilt h2
    rcases b_tf (ilt ((l.length : Nat) : Int) (hsz l)) with h3 | h3
    · rw [h3] at hE
      exact bif_t h3 (e1 8 hE rfl)
    rw [h3] at hE
    refine bif_f h3 ?_
    have h3 := of_nilt h3
    refine bif_of (ble_of hl) ?_
    rcases b_tf (sgS l s d != BitVec.ofInt 16 0) with h4 | h4
    · rw [h4] at hE
      exact bif_t h4 (e1 180 hE rfl)
    rw [h4] at hE
    refine bif_f h4 ?_
    repeat refine bif_of (by first | exact ile_of (by omega) | exact ble_of (by rw [List.length_drop, List.length_take]; omega) | exact inR_iff.2 ⟨by omega, by omega⟩ | exact and_t (ile_of (by omega)) (ile_of (by omega))) ?_
    rw [vl16, vl16, vl16, vl32, vl32, List.take_length]
    rcases b_tf ((opO l).ok) with h5 | h5
    · rw [h5] at hE
      refine bif_f (by show (!(opO l).ok) = false; rw [h5]; rfl) ?_
      rcases b_tf (List.getD l 13 0 &&& BitVec.ofInt 8 2 == BitVec.ofInt 8 0) with h6 | h6
      · refine bif_t h6 (Eq.trans ?_ (e2 hE))
        have hs : syn (hdX l).f = false := by show (!(List.getD l 13 0 &&& BitVec.ofInt 8 2 == BitVec.ofInt 8 0)) = false; rw [h6]; rfl
        unfold sgO
        rw [hs]; rfl
      · refine bif_f h6 (Eq.trans ?_ (e2 hE))
        have hs : syn (hdX l).f = true := by show (!(List.getD l 13 0 &&& BitVec.ofInt 8 2 == BitVec.ofInt 8 0)) = true; rw [h6]; rfl
        unfold sgO
        rw [hs]; rfl
    · rw [h5] at hE
      exact bif_t (by show (!(opO l).ok) = true; rw [h5]; rfl) (e1 8 hE rfl)
  · cases hh
end Go.Proofs.Ytmeipcgkhgagpaa
