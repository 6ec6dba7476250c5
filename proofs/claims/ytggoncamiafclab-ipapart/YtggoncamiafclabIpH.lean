/-
  ip: searches in rows of pieces; the sort. No statement is proved here.
-/
import Derived.Test.YtggoncamiafclabIpG
namespace Go.Proofs.Ytggoncamiafclab
open Go.RowKit
set_option linter.unusedVariables false
set_option linter.unusedSimpArgs false
set_option maxRecDepth 100000

theorem tgt_rs {M : Mm} {k base eo sz len cap : Nat} {c : Cont} (h : tgt M (.rs k base eo sz len cap) = c) (hh : c.here = true) : ∃ r, M[k]? = some ⟨r, c⟩ := by
  unfold tgt at h
  dsimp only at h
  cases hk : M[k]? with
  | none => rw [hk] at h; subst h; cases hh
  | some e => rw [hk] at h; exact ⟨e.rw, by rw [← h]⟩
theorem byP_ok : POk Try.prog G 32 (fun args _ => match args with
    | [.agg [.i a, .s _, .b _, .w8 _], .agg [.i a', .s _, .b _, .w8 _]] => some (true, .i (cmpI a a'))
    | _ => none) := by
  intro args acs r hh β M w hR hw ha
  dsimp only at hh
  split at hh
  · rename_i a m b t a' m' b' t'
    simp only [Option.some.injEq, Prod.mk.injEq, true_and] at hh
    subst hh
    exact pokE (E := EBp) rfl ebp_ok (noL_ok _ _ _ _) (v58 a m b t a' m' b' t' _) rfl rfl rfl hR
  · cases hh
-- rows of pieces
def unR : Cont → Option (List Pc)
  | .recs (some t) [.i, .s, .b, .u8] [] l => bif Nat.beq t 60 then some l else none
  | _ => none
theorem unR_ok {c : Cont} {l : List Pc} (h : unR c = some l) : c = .recs (some 60) fsP [] l := by
  unfold unR at h
  split at h
  · rename_i t m
    cases ht : Nat.beq t 60 <;> rw [ht] at h
    · cases h
    · obtain rfl := Nat.eq_of_beq_eq_true ht
      cases h; rfl
  · cases h
theorem rok0 {i m : Nat} (h : i < m) : (rok 0 i 4 fsP [] m && true) = true := and_t (rok_iff.2 ⟨rfl, by decide, Nat.le_refl _, rfl, h⟩) rfl
theorem inRn {i m : Nat} (h : i < m) (hm : m ≤ 4294967296) : inR (i : Int) m = true := inR_iff.2 ⟨by omega, by omega⟩
theorem of_ilt {i m : Nat} (h : ilt (i : Int) (m : Int) = true) : i < m := by rw [ilt_eq] at h; have := of_decide_eq_true h; omega
theorem of_nilt {i m : Nat} (h : ilt (i : Int) (m : Int) = false) : ¬ i < m := by rw [ilt_eq] at h; have := of_decide_eq_false h; omega
theorem getD_take {α : Type} (z : α) (l : List α) (n i : Nat) (h : i < n) : (l.take n).getD i z = l.getD i z := by
  rw [List.getD_eq_getElem?_getD, List.getD_eq_getElem?_getD, List.getElem?_take_of_lt h]
def ixOf (a : Int) (m : Tx) (b : Bool) (L : List Pc) : Int := match L.findIdx? (pcq a m b) with
  | some i => (i : Nat)
  | none => -1
theorem ix_at {a : Int} {m : Tx} {b : Bool} {L : List Pc} {i : Nat} (h1 : i < L.length) (h2 : ∀ j, j < i → pcq a m b (L.getD j (rz fsP)) = false) (h3 : pcq a m b (L.getD i (rz fsP)) = true) : ixOf a m b L = i := by
  have : L.findIdx? (pcq a m b) = some i := by
    rw [List.findIdx?_eq_some_iff_getElem]
    refine ⟨h1, ?_, fun j hj => ?_⟩
    · rw [List.getD_eq_getElem?_getD, List.getElem?_eq_getElem h1] at h3; exact h3
    · have := h2 j hj
      rw [List.getD_eq_getElem?_getD, List.getElem?_eq_getElem (by omega)] at this
      simpa using this
  unfold ixOf
  rw [this]
theorem ix_no {a : Int} {m : Tx} {b : Bool} {L : List Pc} (h2 : ∀ j, j < L.length → pcq a m b (L.getD j (rz fsP)) = false) : ixOf a m b L = -1 := by
  have : L.findIdx? (pcq a m b) = none := by
    rw [List.findIdx?_eq_none_iff]
    intro x hx
    obtain ⟨j, hj, rfl⟩ := List.getElem_of_mem hx
    have := h2 j hj
    rwa [List.getD_eq_getElem?_getD, List.getElem?_eq_getElem hj] at this
  unfold ixOf
  rw [this]
theorem ix_any (a : Int) (m : Tx) (b : Bool) (L : List Pc) : ile 0 (ixOf a m b L) = L.any (pcq a m b) := by
  unfold ixOf
  cases h : L.findIdx? (pcq a m b) with
  | none =>
    have := List.findIdx?_eq_none_iff.1 h
    rw [ile_no (by decide)]
    symm
    rw [List.any_eq_false]
    intro x hx
    simpa using this x hx
  | some i =>
    obtain ⟨h1, h2, -⟩ := List.findIdx?_eq_some_iff_getElem.1 h
    have e : ile 0 (match some i with
      | some i => ((i : Nat) : Int)
      | none => -1) = true := ile_of (show (0 : Int) ≤ ((i : Nat) : Int) by omega)
    rw [e]
    symm
    rw [List.any_eq_true]
    exact ⟨_, List.getElem_mem h1, h2⟩
theorem s62 (l : List Pc) (a : Int) (m : Tx) (b : Bool) (t : BitVec 8) (len cap : Nat) (hl : len ≤ l.length) (hb : len ≤ 4294967296) : Spec Try.prog G 36 [.rs 0 0 0 4 len cap, .fm 30 [pcs a m b t]] [rowE false l] (fun r _ => r = .i (ixOf a m b (l.take len))) := by
  have hL : LOk Try.prog G [rowE false l] 36 (L62 l a m b t len cap (ixOf a m b (l.take len)) (ixOf a m b (l.take len) = -1) True) := by
    refine LT.add_ok (noL_ok _ _ _ _) (loop_ret ena_ok mixed (noL_ok _ _ _ _) (by show 0 ≤ 1; decide) (by kernel_rfl) (fun i => i62 a m b t len cap i) (fun _ => [rowE false l]) (fun i => i ≤ len ∧ ∀ j, j < i → pcq a m b (l.getD j (rz fsP)) = false) (fun i => len - i) (fun i => i + 1) 0 ⟨Nat.zero_le _, fun j hj => absurd hj (by omega)⟩ (fun i hp => of_eq (r62 l a m b t len cap i _ _ _ _) ?_))
    obtain ⟨hi, hp⟩ := hp
    have hlt : (l.take len).length = len := by rw [List.length_take]; omega
    cases hc : ilt (i : Int) (len : Int)
    · have := of_nilt hc
      refine ⟨rfl, ix_no fun j hj => ?_, ⟨rfl, rfl⟩, trivial⟩
      rw [getD_take _ _ _ _ (by omega)]
      exact hp j (by omega)
    · have hlt2 := of_ilt hc
      refine bif_of (inRn hlt2 hb) (bif_of (rok0 (by omega)) ?_)
      cases hd : sameP a m b (l.getD i (rz fsP)).1 (l.getD i (rz fsP)).2.1 (l.getD i (rz fsP)).2.2.1
      · refine bif_of (inI_iff.2 (by omega)) ⟨⟨⟨by omega, fun j hj => ?_⟩, by omega⟩, rfl, rfl, rfl, rfl, ⟨rfl, rfl⟩, trivial⟩
        rcases Nat.lt_or_eq_of_le (Nat.le_of_lt_succ hj) with q | rfl
        · exact hp j q
        · exact hd
      · refine ⟨trivial, congrArg SV.i (ix_at (by omega) (fun j hj => ?_) ?_).symm, ⟨rfl, rfl⟩, trivial⟩
        · rw [getD_take _ _ _ _ (by omega)]; exact hp j hj
        · rw [getD_take _ _ _ _ (by omega)]; exact hd
  exact vf_ok ena_ok mixed hL (of_eq (v62 l a m b t len cap _ _ _ _) ⟨rfl, rfl, rfl, rfl, rfl, ⟨rfl, rfl⟩, fun h => congrArg SV.i h.symm, fun _ => rfl⟩)
def cIx : List SV → List Cont → Option (Bool × SV)
  | [.rs _ base eo sz len _, .fm f [.agg [.i a, .s m, .b b, .w8 _]]], [c, _] => match unR c with
    | some l => some (Nat.beq base 0 && (Nat.beq eo 0 && (Nat.beq sz 4 && (Nat.ble len l.length && (Nat.ble len 4294967296 && Nat.beq f 30)))), .i (ixOf a m b (l.take len)))
    | none => none
  | [.v (.slice none 0 0), .fm f [.agg [.i a, .s m, .b b, .w8 _]]], [_, _] => some (Nat.beq f 30, .i (-1))
  | _, _ => none
theorem ix_ok : POk Try.prog G 36 cIx := by
  intro args acs r hh β M w hR hw ha
  unfold cIx at hh
  split at hh
  · rename_i k base eo sz len cap f a m b t c c1
    split at hh
    · rename_i l hl
      obtain rfl := unR_ok hl
      simp only [Option.some.injEq, Prod.mk.injEq, Bool.and_eq_true] at hh
      obtain ⟨⟨h1, h2, h3, h4, h5, h6⟩, rfl⟩ := hh
      obtain rfl := Nat.eq_of_beq_eq_true h1
      obtain rfl := Nat.eq_of_beq_eq_true h2
      obtain rfl := Nat.eq_of_beq_eq_true h3
      obtain rfl := Nat.eq_of_beq_eq_true h6
      simp only [List.map_cons, List.map_nil, List.cons.injEq, and_true] at ha
      obtain ⟨r1, hk⟩ := tgt_rs ha.1.symm rfl
      exact pureN (R := [rowE false l]) [k] (args0 := [.rs 0 0 0 4 len cap, .fm 30 [pcs a m b t]]) (s62 l a m b t len cap (Nat.le_of_ble_eq_true h4) (Nat.le_of_ble_eq_true h5)) rfl rfl (fun i e he => by
        match i, he with
        | 0, he => cases he; rfl) rfl (by simp) hR ⟨⟨r1, hk, (fun h => by cases h)⟩, ⟨rfl, rfl⟩, trivial⟩
    · cases hh
  · rename_i f a m b t c0 c1
    simp only [Option.some.injEq, Prod.mk.injEq] at hh
    obtain ⟨h6, rfl⟩ := hh
    obtain rfl := Nat.eq_of_beq_eq_true h6
    exact pokE (E := ENa) rfl ena_ok (LT.un_ok ena_ok mixed (noL_ok _ _ _ _) (noL_ok _ _ _ _) (by kernel_rfl) 1) (v62z a m b t _) ⟨rfl, rfl⟩ rfl rfl hR
  · cases hh
def E55 : Env := { G := G, T := T0.add 36 cIx, C := noC }
theorem e55_ok : EnvOk Try.prog E55 := { T := PT.add_ok t0_ok ix_ok, C := noC_ok _ _ }
theorem v55 (l : List Pc) (a : Int) (m : Tx) (b : Bool) (t : BitVec 8) (len cap : Nat) (K : SV → Prop) : (vf Try.prog E55 noL 29 [.rs 0 0 0 4 len cap, .fm 30 [pcs a m b t]] [rowE false l] (fun r _ => K r)) = (bif len.ble l.length && (len.ble 4294967296 && true) then K (SV.b (ile 0 (ixOf a m b (List.take len l)))) else False) := by kernel_rfl
theorem v55z (a : Int) (m : Tx) (b : Bool) (t : BitVec 8) (K : SV → Prop) : (vf Try.prog E55 noL 29 [.v (.slice none 0 0), .fm 30 [pcs a m b t]] G (fun r _ => K r)) = (K (SV.b (ile 0 (-1)))) := by kernel_rfl
def cCt : List SV → List Cont → Option (Bool × SV)
  | [.rs _ base eo sz len _, .fm f [.agg [.i a, .s m, .b b, .w8 _]]], [c, _] => match unR c with
    | some l => some (Nat.beq base 0 && (Nat.beq eo 0 && (Nat.beq sz 4 && (Nat.ble len l.length && (Nat.ble len 4294967296 && Nat.beq f 30)))), .b ((l.take len).any (pcq a m b)))
    | none => none
  | [.v (.slice none 0 0), .fm f [.agg [.i a, .s m, .b b, .w8 _]]], [_, _] => some (Nat.beq f 30, .b false)
  | _, _ => none
theorem ct_ok : POk Try.prog G 29 cCt := by
  intro args acs r hh β M w hR hw ha
  unfold cCt at hh
  split at hh
  · rename_i k base eo sz len cap f a m b t c c1
    split at hh
    · rename_i l hl
      obtain rfl := unR_ok hl
      simp only [Option.some.injEq, Prod.mk.injEq, Bool.and_eq_true] at hh
      obtain ⟨⟨h1, h2, h3, h4, h5, h6⟩, rfl⟩ := hh
      obtain rfl := Nat.eq_of_beq_eq_true h1
      obtain rfl := Nat.eq_of_beq_eq_true h2
      obtain rfl := Nat.eq_of_beq_eq_true h3
      obtain rfl := Nat.eq_of_beq_eq_true h6
      simp only [List.map_cons, List.map_nil, List.cons.injEq, and_true] at ha
      obtain ⟨r1, hk⟩ := tgt_rs ha.1.symm rfl
      exact pureN (R := [rowE false l]) [k] (args0 := [.rs 0 0 0 4 len cap, .fm 30 [pcs a m b t]]) (vf_ok e55_ok mixed (noL_ok _ _ _ _) (of_eq (v55 l a m b t len cap _) (bif_of (and_t h4 (and_t h5 rfl)) (congrArg SV.b (ix_any a m b (l.take len)))))) rfl rfl (fun i e he => by
        match i, he with
        | 0, he => cases he; rfl) rfl (by simp) hR ⟨⟨r1, hk, (fun h => by cases h)⟩, ⟨rfl, rfl⟩, trivial⟩
    · cases hh
  · rename_i f a m b t c0 c1
    simp only [Option.some.injEq, Prod.mk.injEq] at hh
    obtain ⟨h6, rfl⟩ := hh
    obtain rfl := Nat.eq_of_beq_eq_true h6
    exact pokE (E := E55) rfl e55_ok (noL_ok _ _ _ _) (v55z a m b t _) rfl rfl rfl hR
  · cases hh
end Go.Proofs.Ytggoncamiafclab
