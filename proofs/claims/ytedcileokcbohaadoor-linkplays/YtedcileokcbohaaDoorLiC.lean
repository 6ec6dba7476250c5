/-
  link: the library's searches in rows of records. No statement is proved here.
-/
import Derived.Test.YtedcileokcbohaaDoorLiA
namespace Go.Proofs.YtedcileokcbohaaDoor
open Go.RowKit
set_option linter.unusedVariables false
set_option linter.unusedSimpArgs false
set_option maxRecDepth 100000

abbrev NF : List Fk := [.u32, .s, .u64]
abbrev Nr := Rc NF
def del (n : BitVec 64) (r : Nr) : Bool := r.2.2.1.ule n
theorem v59 (a : BitVec 32) (m : Tx) (u n : BitVec 64) (K : SV → Prop) : (vf Tryd.prog E0 noL 59 [.agg [.w32 a, .s m, .w64 u], .ptr 1 0] [⟨false, .a8 HD⟩, ⟨false, .row [.w64 n]⟩] (fun r _ => K r)) = (K (SV.b (u.ule n))) := by kernel_rfl
theorem v74 (a : BitVec 32) (K : SV → Prop) : (vf Tryd.prog E0 noL 74 [.w32 a] G (fun r _ => K r)) = (K (SV.b (a != a))) := by kernel_rfl
def cDel : List SV → List Cont → Option (Bool × SV)
  | [.agg [.w32 _, .s _, .w64 u], .ptr _ off], [_, .row [.w64 n]] => some (Nat.beq off 0, .b (u.ule n))
  | _, _ => none
def cNaN : List SV → List Cont → Option (Bool × SV)
  | [.w32 _], _ => some (true, .b false)
  | _, _ => none
theorem tgt_ptr {M : Mm} {k off : Nat} {c : Cont} (h : tgt M (.ptr k off) = c) (hh : c.here = true) : ∃ r, M[k]? = some ⟨r, c⟩ := by
  unfold tgt at h
  dsimp only at h
  cases hk : M[k]? with
  | none => rw [hk] at h; subst h; cases hh
  | some e => rw [hk] at h; exact ⟨e.rw, by rw [← h]⟩
theorem tgt_rs {M : Mm} {k base eo sz len cap : Nat} {c : Cont} (h : tgt M (.rs k base eo sz len cap) = c) (hh : c.here = true) : ∃ r, M[k]? = some ⟨r, c⟩ := by
  unfold tgt at h
  dsimp only at h
  cases hk : M[k]? with
  | none => rw [hk] at h; subst h; cases hh
  | some e => rw [hk] at h; exact ⟨e.rw, by rw [← h]⟩
theorem tgt_fn {M : Mm} {f k off : Nat} {c : Cont} (h : tgt M (.fn f [.ptr k off]) = c) (hh : c.here = true) : ∃ r, M[k]? = some ⟨r, c⟩ := by
  unfold tgt at h
  dsimp only at h
  cases hk : M[k]? with
  | none => rw [hk] at h; subst h; cases hh
  | some e => rw [hk] at h; exact ⟨e.rw, by rw [← h]⟩
theorem del_ok : POk Tryd.prog G 59 cDel := by
  intro args acs r hh β M w hR hw ha
  unfold cDel at hh
  split at hh
  · rename_i a m u k off c0 n
    simp only [Option.some.injEq, Prod.mk.injEq] at hh
    obtain ⟨h0, rfl⟩ := hh
    obtain rfl := Nat.eq_of_beq_eq_true h0
    simp only [List.map_cons, List.map_nil, List.cons.injEq, and_true] at ha
    exact pure1 (c := .row [.w64 n]) (args0 := [.agg [.w32 a, .s m, .w64 u], .ptr 1 0]) (vf_ok e0_ok mixed (noL_ok _ _ _ _) (of_eq (v59 a m u n _) rfl)) rfl rfl rfl rfl rfl (fun _ => rfl) hR (tgt_ptr ha.2.symm rfl)
  · cases hh
theorem nan_ok : POk Tryd.prog G 74 cNaN := by
  intro args acs r hh β M w hR hw ha
  unfold cNaN at hh
  split at hh
  · rename_i a
    simp only [Option.some.injEq, Prod.mk.injEq, true_and] at hh
    subst hh
    exact pokE rfl e0_ok (noL_ok _ _ _ _) (v74 a _) (congrArg SV.b (by simp)) rfl rfl hR
  · cases hh
def EDel : Env := ⟨G, (T0.add 59 cDel).add 74 cNaN, noC⟩
theorem eDel_ok : EnvOk Tryd.prog EDel := ⟨PT.add_ok (PT.add_ok t0_ok del_ok) nan_ok, noC_ok _ _⟩
theorem v69 (a b : BitVec 32) (K : SV → Prop) : (vf Tryd.prog EDel noL 69 [.w32 a, .w32 b] G (fun r _ => K r)) = (bif a.ult b then K (SV.i (-1)) else bif b.ult a then K (SV.i 1) else K (SV.i 0)) := by kernel_rfl
def cmpI (a b : BitVec 32) : Int := bif a.ult b then -1 else bif b.ult a then 1 else 0
def cCmp : List SV → List Cont → Option (Bool × SV)
  | [.w32 a, .w32 b], _ => some (true, .i (cmpI a b))
  | _, _ => none
theorem cmp_ok : POk Tryd.prog G 69 cCmp := by
  intro args acs r hh β M w hR hw ha
  unfold cCmp at hh
  split at hh
  · rename_i a b
    simp only [Option.some.injEq, Prod.mk.injEq, true_and] at hh
    subst hh
    refine pokE rfl eDel_ok (noL_ok _ _ _ _) (v69 a b _) ?_ rfl rfl hR
    unfold cmpI
    cases a.ult b <;> cases b.ult a <;> rfl
  · cases hh
def ECmp : Env := ⟨G, EDel.T.add 69 cCmp, noC⟩
theorem eCmp_ok : EnvOk Tryd.prog ECmp := ⟨PT.add_ok eDel_ok.T cmp_ok, noC_ok _ _⟩
theorem v61 (a b : BitVec 32) (m : Tx) (u : BitVec 64) (K : SV → Prop) : (vf Tryd.prog ECmp noL 61 [.agg [.w32 a, .s m, .w64 u], .w32 b] G (fun r _ => K r)) = (K (SV.i (cmpI a b))) := by kernel_rfl
def cBy : List SV → List Cont → Option (Bool × SV)
  | [.agg [.w32 a, .s _, .w64 _], .w32 b], _ => some (true, .i (cmpI a b))
  | _, _ => none
theorem by_ok : POk Tryd.prog G 61 cBy := by
  intro args acs r hh β M w hR hw ha
  unfold cBy at hh
  split at hh
  · rename_i a m u b
    simp only [Option.some.injEq, Prod.mk.injEq, true_and] at hh
    subst hh
    exact pokE rfl eCmp_ok (noL_ok _ _ _ _) (v61 a b m u _) rfl rfl rfl hR
  · cases hh
def EBy : Env := ⟨G, ECmp.T.add 61 cBy, noC⟩
theorem eBy_ok : EnvOk Tryd.prog EBy := ⟨PT.add_ok eCmp_ok.T by_ok, noC_ok _ _⟩
-- rows of records
def unR : Cont → Option (List Nr)
  | .recs (some t) [.u32, .s, .u64] [] l => bif Nat.beq t 57 then some l else none
  | _ => none
theorem unR_ok {c : Cont} {l : List Nr} (h : unR c = some l) : c = .recs (some 57) NF [] l := by
  unfold unR at h
  split at h
  · rename_i t m
    cases ht : Nat.beq t 57 <;> rw [ht] at h
    · cases h
    · obtain rfl := Nat.eq_of_beq_eq_true ht
      cases h; rfl
  · cases h
theorem rok0 {i m : Nat} (h : i < m) : (rok 0 i 3 NF [] m && true) = true := and_t (rok_iff.2 ⟨rfl, by decide, Nat.le_refl _, rfl, h⟩) rfl
theorem inRn {i m : Nat} (h : i < m) (hm : m ≤ 4294967296) : inR (i : Int) m = true := inR_iff.2 ⟨by omega, by omega⟩
theorem ilt_n {i m : Nat} (h : i < m) : ilt (i : Int) (m : Int) = true := ilt_of (by omega)
theorem ilt_nn {i m : Nat} (h : ¬ i < m) : ilt (i : Int) (m : Int) = false := ilt_no (by omega)
theorem of_ilt {i m : Nat} (h : ilt (i : Int) (m : Int) = true) : i < m := by rw [ilt_eq] at h; have := of_decide_eq_true h; omega
theorem of_nilt {i m : Nat} (h : ilt (i : Int) (m : Int) = false) : ¬ i < m := by rw [ilt_eq] at h; have := of_decide_eq_false h; omega
theorem getD_take {α : Type} (z : α) (l : List α) (n i : Nat) (h : i < n) : (l.take n).getD i z = l.getD i z := by
  rw [List.getD_eq_getElem?_getD, List.getD_eq_getElem?_getD, List.getElem?_take_of_lt h]
def e0 : Ent := ⟨false, .a8 HD⟩
def rowE (b : Bool) (l : List Nr) : Ent := ⟨b, .recs (some 57) NF [] l⟩
def boxE (n : BitVec 64) : Ent := ⟨false, .row [.w64 n]⟩
-- the first one that goes
def ixOf (n : BitVec 64) (L : List Nr) : Int := match L.findIdx? (del n) with
  | some i => (i : Nat)
  | none => -1
theorem ix_at {n : BitVec 64} {L : List Nr} {i : Nat} (h1 : i < L.length) (h2 : ∀ j, j < i → del n (L.getD j (rz NF)) = false) (h3 : del n (L.getD i (rz NF)) = true) : ixOf n L = i := by
  have : L.findIdx? (del n) = some i := by
    rw [List.findIdx?_eq_some_iff_getElem]
    refine ⟨h1, ?_, fun j hj => ?_⟩
    · rw [List.getD_eq_getElem?_getD, List.getElem?_eq_getElem h1] at h3; exact h3
    · have := h2 j hj
      rw [List.getD_eq_getElem?_getD, List.getElem?_eq_getElem (by omega)] at this
      simpa using this
  unfold ixOf
  rw [this]
theorem ix_no {n : BitVec 64} {L : List Nr} (h2 : ∀ j, j < L.length → del n (L.getD j (rz NF)) = false) : ixOf n L = -1 := by
  have : L.findIdx? (del n) = none := by
    rw [List.findIdx?_eq_none_iff]
    intro x hx
    obtain ⟨j, hj, rfl⟩ := List.getElem_of_mem hx
    have := h2 j hj
    rwa [List.getD_eq_getElem?_getD, List.getElem?_eq_getElem hj] at this
  unfold ixOf
  rw [this]
def mI (l : List Nr) (n : BitVec 64) : Mm := [e0, rowE false l, boxE n]
def i68 (len cap i : Nat) : List (Nat × SV) := [(0, .rs 1 0 0 3 len cap), (1, .fn 59 [.ptr 2 0]), (7, .i (len : Nat)), (8, .i (i : Nat))]
theorem r68 (l : List Nr) (n : BitVec 64) (len cap i : Nat) (x : Int) (a q z : Prop) : (frK 19 (i68 len cap i) fun fr => vround Tryd.prog EDel noL 68 0 fr (mI l n) (Kt (mI l n) 0 19 a (i68 len cap (i + 1)) (mI l n) q [] (mI l n) z [(4, .i x)] (mI l n))) = (bif ilt (↑i : Int) (↑len : Int) then bif inR (↑i : Int) len then bif rok 0 i 3 NF [] l.length && true then bif BitVec.ule (l.getD i (rz NF)).snd.snd.fst n then z ∧ SV.i (↑i : Int) = SV.i x ∧ (false = false ∧ Cont.a8 HD = Cont.a8 HD) ∧ (false = false ∧ Cont.recs (some 57) NF [] l = Cont.recs (some 57) NF [] l) ∧ (false = false ∧ Cont.row [SV.w64 n] = Cont.row [SV.w64 n]) ∧ True else bif inI ((↑i : Int) + 1) then a ∧ SV.rs 1 0 0 3 len cap = SV.rs 1 0 0 3 len cap ∧ SV.fn 59 [SV.ptr 2 0] = SV.fn 59 [SV.ptr 2 0] ∧ SV.i (↑len : Int) = SV.i (↑len : Int) ∧ SV.i ((↑i : Int) + 1) = SV.i (↑(i + 1) : Int) ∧ (false = false ∧ Cont.a8 HD = Cont.a8 HD) ∧ (false = false ∧ Cont.recs (some 57) NF [] l = Cont.recs (some 57) NF [] l) ∧ (false = false ∧ Cont.row [SV.w64 n] = Cont.row [SV.w64 n]) ∧ True else False else False else False else 0 = 0 ∧ q ∧ (false = false ∧ Cont.a8 HD = Cont.a8 HD) ∧ (false = false ∧ Cont.recs (some 57) NF [] l = Cont.recs (some 57) NF [] l) ∧ (false = false ∧ Cont.row [SV.w64 n] = Cont.row [SV.w64 n]) ∧ True) := by kernel_rfl
def L68 (l : List Nr) (n : BitVec 64) (len cap : Nat) (x : Int) (q z : Prop) : LT := noL.add 0 (vLoopR (mI l n) 19 (i68 len cap 0) (mI l n) q [] (mI l n) z [(4, .i x)] (mI l n))
theorem v68 (l : List Nr) (n : BitVec 64) (len cap : Nat) (x : Int) (q z : Prop) (K : SV → Prop) : (vf Tryd.prog EDel (L68 l n len cap x q z) 68 [.rs 1 0 0 3 len cap, .fn 59 [.ptr 2 0]] (mI l n) (fun r _ => K r)) = (loopOf Tryd.prog 68 0 = loopOf Tryd.prog 68 0 ∧ SV.rs 1 0 0 3 len cap = SV.rs 1 0 0 3 len cap ∧ SV.fn 59 [SV.ptr 2 0] = SV.fn 59 [SV.ptr 2 0] ∧ SV.i (↑len : Int) = SV.i (↑len : Int) ∧ SV.i 0 = SV.i (↑0 : Int) ∧ (false = false ∧ Cont.a8 HD = Cont.a8 HD) ∧ (false = false ∧ Cont.recs (some 57) NF [] l = Cont.recs (some 57) NF [] l) ∧ (false = false ∧ Cont.row [SV.w64 n] = Cont.row [SV.w64 n]) ∧ (q → K (SV.i (-1))) ∧ (z → K (SV.i x))) := by kernel_rfl
theorem s68 (l : List Nr) (n : BitVec 64) (len cap : Nat) (hl : len ≤ l.length) (hb : len ≤ 4294967296) : Spec Tryd.prog G 68 [.rs 1 0 0 3 len cap, .fn 59 [.ptr 2 0]] (mI l n) (fun r _ => r = .i (ixOf n (l.take len))) := by
  have hL : LOk Tryd.prog G (mI l n) 68 (L68 l n len cap (ixOf n (l.take len)) (ixOf n (l.take len) = -1) True) := by
    refine LT.add_ok (noL_ok _ _ _ _) (loop_ret eDel_ok mixed (noL_ok _ _ _ _) (by show 1 ≤ 3; decide) (by kernel_rfl) (fun i => i68 len cap i) (fun _ => mI l n) (fun i => i ≤ len ∧ ∀ j, j < i → del n (l.getD j (rz NF)) = false) (fun i => len - i) (fun i => i + 1) 0 ⟨Nat.zero_le _, fun j hj => absurd hj (by omega)⟩ (fun i hp => of_eq (r68 l n len cap i _ _ _ _) ?_))
    obtain ⟨hi, hp⟩ := hp
    have hlt : (l.take len).length = len := by rw [List.length_take]; omega
    cases hc : ilt (i : Int) (len : Int)
    · have := of_nilt hc
      refine ⟨rfl, ix_no fun j hj => ?_, ⟨rfl, rfl⟩, ⟨rfl, rfl⟩, ⟨rfl, rfl⟩, trivial⟩
      rw [getD_take _ _ _ _ (by omega)]
      exact hp j (by omega)
    · have hlt2 := of_ilt hc
      refine bif_of (inRn hlt2 hb) (bif_of (rok0 (by omega)) ?_)
      cases hd : BitVec.ule (l.getD i (rz NF)).2.2.1 n
      · refine bif_of (inI_iff.2 (by omega)) ⟨⟨⟨by omega, fun j hj => ?_⟩, by omega⟩, rfl, rfl, rfl, rfl, ⟨rfl, rfl⟩, ⟨rfl, rfl⟩, ⟨rfl, rfl⟩, trivial⟩
        rcases Nat.lt_or_eq_of_le (Nat.le_of_lt_succ hj) with q | rfl
        · exact hp j q
        · exact hd
      · refine ⟨trivial, congrArg SV.i (ix_at (by omega) (fun j hj => ?_) ?_).symm, ⟨rfl, rfl⟩, ⟨rfl, rfl⟩, ⟨rfl, rfl⟩, trivial⟩
        · rw [getD_take _ _ _ _ (by omega)]; exact hp j hj
        · rw [getD_take _ _ _ _ (by omega)]; exact hd
  exact vf_ok eDel_ok mixed hL (of_eq (v68 l n len cap _ _ _ _) ⟨rfl, rfl, rfl, rfl, rfl, ⟨rfl, rfl⟩, ⟨rfl, rfl⟩, ⟨rfl, rfl⟩, fun h => congrArg SV.i h.symm, fun _ => rfl⟩)
def L68z (P : Program) : LT := noL.add 0 (vUn P EDel noL 68 0 1)
theorem v68z (n : BitVec 64) (K : SV → Prop) : (vf Tryd.prog EDel (L68z Tryd.prog) 68 [.v (.slice none 0 0), .fn 59 [.ptr 1 0]] [e0, boxE n] (fun r _ => K r)) = (loopOf Tryd.prog 68 0 = loopOf Tryd.prog 68 0 ∧ K (SV.i (-1))) := by kernel_rfl
def cIx : List SV → List Cont → Option (Bool × SV)
  | [.rs _ base eo sz len _, .fn f [.ptr _ off]], [c, .row [.w64 n]] => match unR c with
    | some l => some (Nat.beq base 0 && (Nat.beq eo 0 && (Nat.beq sz 3 && (Nat.ble len l.length && (Nat.ble len 4294967296 && (Nat.beq f 59 && Nat.beq off 0))))), .i (ixOf n (l.take len)))
    | none => none
  | [.v (.slice none 0 0), .fn f [.ptr _ off]], [_, .row [.w64 n]] => some (Nat.beq f 59 && Nat.beq off 0, .i (-1))
  | _, _ => none
theorem ix_ok : POk Tryd.prog G 68 cIx := by
  intro args acs r hh β M w hR hw ha
  unfold cIx at hh
  split at hh
  · rename_i k base eo sz len cap f b off c n
    split at hh
    · rename_i l hl
      obtain rfl := unR_ok hl
      simp only [Option.some.injEq, Prod.mk.injEq, Bool.and_eq_true] at hh
      obtain ⟨⟨h1, h2, h3, h4, h5, h6, h7⟩, rfl⟩ := hh
      obtain rfl := Nat.eq_of_beq_eq_true h1
      obtain rfl := Nat.eq_of_beq_eq_true h2
      obtain rfl := Nat.eq_of_beq_eq_true h3
      obtain rfl := Nat.eq_of_beq_eq_true h6
      obtain rfl := Nat.eq_of_beq_eq_true h7
      simp only [List.map_cons, List.map_nil, List.cons.injEq, and_true] at ha
      obtain ⟨r1, hk⟩ := tgt_rs ha.1.symm rfl
      obtain ⟨r2, hb⟩ := tgt_fn ha.2.symm rfl
      have hne : k ≠ b := fun e => by subst e; rw [hk] at hb; cases hb
      exact pureN (R := [rowE false l, boxE n]) [k, b] (args0 := [.rs 1 0 0 3 len cap, .fn 59 [.ptr 2 0]]) (s68 l n len cap (Nat.le_of_ble_eq_true h4) (Nat.le_of_ble_eq_true h5)) rfl rfl (fun i e he => by
        match i, he with
        | 0, he => cases he; rfl
        | 1, he => cases he; rfl) rfl (by simp [hne]) hR ⟨⟨r1, hk, (fun h => by cases h)⟩, ⟨rfl, rfl⟩, ⟨r2, hb, (fun h => by cases h)⟩, ⟨rfl, rfl⟩, trivial⟩
    · cases hh
  · rename_i f b off c0 n
    simp only [Option.some.injEq, Prod.mk.injEq, Bool.and_eq_true] at hh
    obtain ⟨⟨h6, h7⟩, rfl⟩ := hh
    obtain rfl := Nat.eq_of_beq_eq_true h6
    obtain rfl := Nat.eq_of_beq_eq_true h7
    simp only [List.map_cons, List.map_nil, List.cons.injEq, and_true] at ha
    exact pure1 (c := .row [.w64 n]) (k := b) (args0 := [.v (.slice none 0 0), .fn 59 [.ptr 1 0]]) (vf_ok (E := EDel) eDel_ok mixed (LT.un_ok eDel_ok mixed (noL_ok _ _ _ _) (noL_ok _ _ _ _) (by kernel_rfl) 1) (of_eq (v68z n _) ⟨rfl, rfl⟩)) rfl rfl rfl rfl rfl (fun _ => rfl) hR (tgt_fn ha.2.symm rfl)
  · cases hh
end Go.Proofs.YtedcileokcbohaaDoor
