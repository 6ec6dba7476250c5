/-
  flow: the document's queue stands for such a queue, and its Put keeps it so: mathematics. No statement is proved here.
-/
import Derived.Test.YtkjfecdpakhggaaCas
import Derived.Test.YtkjfecdpakhggaaFwB
namespace Go.Proofs.Ytkjfecdpakhggaa
open Go.RowKit
set_option linter.unusedVariables false
set_option linter.unusedSimpArgs false
set_option maxRecDepth 100000

/-- Two rows stand for what is held. -/
structure LM (l : List Ub) (m : Tx) (n : Nat) (f : Nat → Option (BitVec 8)) : Prop where
  ll : l.length = n
  ml : m.length = n
  is : ∀ j, j < n → isB l j = (f j).isSome
  by' : ∀ j, j < n → (f j).isSome = true → m.getD j 0 = bOf (f j)
structure DQ (d : QuD) (q : Qa) : Prop where
  ok : q.Ok
  a : d.a = q.a
  z : d.z = ((q.z : Nat) : Int)
  ed : d.ed = q.ed
  rd : d.rd = q.rd
  n : d.n = q.z + 1
  lm : LM d.l d.m d.n q.f
  he : q.ed = false → d.he = q.e.isSome
  e : q.ed = false → ∀ E, q.e = some E → d.e = ((E : Nat) : Int)
/-- How far the end that is not told may have moved. -/
def EB (d : QuD) (c : Nat) : Prop := -(65537 * (c : Int)) ≤ d.e ∧ d.e ≤ 65537
theorem bv_swap (a sq : BitVec 32) (i j : Nat) (hi : i < 4294967296) (hj : j < 4294967296) : (a + BitVec.ofNat 32 j - sq).toNat = i ↔ (sq + BitVec.ofNat 32 i - a).toNat = j := by
  have := a.isLt
  have := sq.isLt
  simp only [BitVec.toNat_sub, BitVec.toNat_add, BitVec.toNat_ofNat]
  omega
def Qa.fi (q : Qa) (sq : BitVec 32) (d : Tx) (i j : Nat) : Option (BitVec 8) := if (q.f j).isSome = true then q.f j else if j < q.lim ∧ (q.a + BitVec.ofNat 32 j - sq).toNat < i then d[(q.a + BitVec.ofNat 32 j - sq).toNat]? else none
theorem fi_0 (q : Qa) (sq : BitVec 32) (d : Tx) : q.fi sq d 0 = q.f := funext fun j => by
  unfold Qa.fi
  rw [if_neg (c := _ ∧ _ < 0) (by omega)]
  split
  · rfl
  · rename_i c
    cases g : q.f j
    · rfl
    · rw [g] at c; exact absurd rfl c
theorem fi_len (q : Qa) (sq : BitVec 32) (d : Tx) : q.fi sq d d.length = q.f1 sq d := funext fun j => by
  unfold Qa.fi Qa.f1
  by_cases c : (q.f j).isSome = true
  · rw [if_pos c, if_pos c]
  · rw [if_neg c, if_neg c]
    by_cases g : j < q.lim
    · rw [if_pos g]
      by_cases g2 : (q.a + BitVec.ofNat 32 j - sq).toNat < d.length
      · rw [if_pos ⟨g, g2⟩]
      · rw [if_neg (fun x => g2 x.2), List.getElem?_eq_none (by omega)]
    · rw [if_neg g, if_neg (fun x => g x.1)]
theorem fi_ne {q : Qa} {sq : BitVec 32} {d : Tx} {i j : Nat} (h : (q.a + BitVec.ofNat 32 j - sq).toNat ≠ i) : q.fi sq d (i + 1) j = q.fi sq d i j := by
  unfold Qa.fi
  have : (j < q.lim ∧ (q.a + BitVec.ofNat 32 j - sq).toNat < i + 1) ↔ (j < q.lim ∧ (q.a + BitVec.ofNat 32 j - sq).toNat < i) := ⟨fun ⟨u, v⟩ => ⟨u, by omega⟩, fun ⟨u, v⟩ => ⟨u, by omega⟩⟩
  simp only [this]
theorem getD_set {m : Tx} {k : Nat} (hk : k < m.length) (b : BitVec 8) (i : Nat) : (m.set k b).getD i 0 = if i = k then b else m.getD i 0 := by
  rw [List.getD_eq_getElem?_getD, List.getD_eq_getElem?_getD]
  by_cases q : i = k
  · subst q
    rw [if_pos rfl, List.getElem?_set_self hk]; rfl
  · rw [if_neg q, List.getElem?_set_ne (Ne.symm q)]
theorem tkS_LM {q : Qa} (ok : q.Ok) (hd : q.ed = false) {l : List Ub} {m : Tx} {n : Nat} (hn : n = q.z + 1) (h : LM l m n q.f) {he : Bool} {e : Int} (hhe : he = q.e.isSome) (hee : ∀ E, q.e = some E → e = ((E : Nat) : Int)) {w : BitVec 32} (hw : w.toNat = q.win) (sq : BitVec 32) (d : Tx) (hl : d.length ≤ 65536) : ∀ i, i ≤ d.length → LM (tkS q.a sq w he e d l m i).1 (tkS q.a sq w he e d l m i).2 n (q.fi sq d i)
  | 0, _ => by rw [fi_0]; exact h
  | i + 1, hi => by
    have ih := tkS_LM ok hd hn h hhe hee hw sq d hl i (by omega)
    have hwin := ok.win
    have hlim := ok.lim hd
    have hz2 := ok.z2
    have hww : q.win = q.z - q.rd.length := rfl
    have hX : (atN q.a sq i) = sq + BitVec.ofNat 32 i - q.a := by unfold atN; rw [ofI]
    have hXlt := (atN q.a sq i).isLt
    have hsw : ∀ j, j < 4294967296 → ((q.a + BitVec.ofNat 32 j - sq).toNat = i ↔ (atN q.a sq i).toNat = j) := fun j hj => by rw [hX]; exact bv_swap q.a sq i j (by omega) hj
    have hcond : ilt (((atN q.a sq i).toNat : Nat) : Int) e = true → q.e.isSome = true → (atN q.a sq i).toNat < q.lim := fun h1 h2 => by
      obtain ⟨E, hE⟩ := Option.isSome_iff_exists.1 h2
      have h3 := of_ilt h1
      rw [hee E hE] at h3
      unfold Qa.lim
      rw [hE]
      show _ < E
      omega
    have htk : tkB w he e (tkS q.a sq w he e d l m i).1 (atN q.a sq i) = true ↔ (atN q.a sq i).toNat < q.lim ∧ (q.f (atN q.a sq i).toNat).isSome = false := by
      unfold tkB
      rw [BitVec.ult, hw]
      simp only [Bool.and_eq_true, decide_eq_true_eq, Bool.or_eq_true, Bool.not_eq_true']
      have hfi : (atN q.a sq i).toNat < n → isB (tkS q.a sq w he e d l m i).1 (atN q.a sq i).toNat = (q.f (atN q.a sq i).toNat).isSome := fun hx => by
        rw [ih.is _ hx]
        have hsi : (q.a + BitVec.ofNat 32 (atN q.a sq i).toNat - sq).toNat = i := (hsw _ hXlt).2 rfl
        unfold Qa.fi
        rw [hsi, if_neg (c := _ ∧ i < i) (by omega)]
        split
        · rfl
        · rename_i c
          cases g : q.f (atN q.a sq i).toNat
          · rfl
          · rw [g] at c; exact absurd rfl c
      constructor
      · rintro ⟨h1, h2, h3⟩
        rw [hfi (by omega)] at h2
        refine ⟨?_, h2⟩
        rcases h3 with h3 | h3
        · rw [hhe] at h3
          unfold Qa.lim
          cases g : q.e with
          | none => exact h1
          | some E => rw [g] at h3; cases h3
        · cases g : q.e with
          | none => unfold Qa.lim; rw [g]; exact h1
          | some E => exact hcond h3 (by rw [g]; rfl)
      · rintro ⟨h1, h2⟩
        refine ⟨by omega, by rw [hfi (by omega)]; exact h2, ?_⟩
        cases g : q.e with
        | none => left; rw [hhe, g]; rfl
        | some E =>
          right
          rw [hee E g, ilt_eq]
          unfold Qa.lim at h1
          rw [g] at h1
          have h1 : (atN q.a sq i).toNat < E := h1
          exact decide_eq_true (by omega)
    unfold tkS
    cases ht : tkB w he e (tkS q.a sq w he e d l m i).1 (atN q.a sq i)
    · rw [cond_false]
      refine ⟨ih.ll, ih.ml, fun j hj => ?_, fun j hj hs => ?_⟩
      all_goals
        have e1 : q.fi sq d (i + 1) j = q.fi sq d i j := by
          by_cases c : (q.a + BitVec.ofNat 32 j - sq).toNat = i
          · have hXj := (hsw j (by omega)).1 c
            have hno : ¬ ((atN q.a sq i).toNat < q.lim ∧ (q.f (atN q.a sq i).toNat).isSome = false) := fun x => by rw [htk.2 x] at ht; cases ht
            rw [hXj] at hno
            unfold Qa.fi
            by_cases g : (q.f j).isSome = true
            · rw [if_pos g, if_pos g]
            · have hnl : ¬ j < q.lim := fun x => hno ⟨x, by simpa using g⟩
              rw [if_neg g, if_neg g, if_neg (fun x => hnl x.1), if_neg (fun x => hnl x.1)]
          · exact fi_ne c
        rw [e1]
      · exact ih.is j hj
      · rw [e1] at hs
        exact ih.by' j hj hs
    · rw [cond_true]
      obtain ⟨h1, h2⟩ := htk.1 ht
      have hXn : (atN q.a sq i).toNat < n := by omega
      have hfX : q.fi sq d (i + 1) (atN q.a sq i).toNat = some (d.getD i 0) := by
        have hsi : (q.a + BitVec.ofNat 32 (atN q.a sq i).toNat - sq).toNat = i := (hsw _ hXlt).2 rfl
        unfold Qa.fi
        rw [hsi, if_neg (by rw [h2]; simp), if_pos ⟨h1, by omega⟩, List.getD_eq_getElem?_getD, List.getElem?_eq_getElem (by omega)]; rfl
      have hne : ∀ j, j < n → j ≠ (atN q.a sq i).toNat → q.fi sq d (i + 1) j = q.fi sq d i j := fun j hj hjx => fi_ne fun c => hjx ((hsw j (by omega)).1 c).symm
      refine ⟨by show (List.set _ _ _).length = n; rw [List.length_set]; exact ih.ll, by show (List.set _ _ _).length = n; rw [List.length_set]; exact ih.ml, fun j hj => ?_, fun j hj hs => ?_⟩
      · show isB (List.set _ _ _) j = _
        rw [isB_set (by rw [ih.ll]; exact hXn)]
        by_cases c : j = (atN q.a sq i).toNat
        · rw [if_pos c, c, hfX]; rfl
        · rw [if_neg c, hne j hj c]; exact ih.is j hj
      · show (List.set _ _ _).getD j 0 = _
        rw [getD_set (by rw [ih.ml]; exact hXn)]
        by_cases c : j = (atN q.a sq i).toNat
        · rw [if_pos c, c, hfX]; rfl
        · rw [hne j hj c] at hs
          rw [if_neg c, hne j hj c]; exact ih.by' j hj hs
/-- The rest moves. -/
theorem shS_in {n k : Nat} {l : List Ub} {m : Tx} {f : Nat → Option (BitVec 8)} (h : LM l m n f) (hf : ∀ j, n ≤ j → f j = none) : ∀ i, i ≤ n → (∀ j, j < i → isB (shS n k l m i).1 j = (f (j + k)).isSome ∧ ((f (j + k)).isSome = true → (shS n k l m i).2.getD j 0 = bOf (f (j + k)))) ∧ (∀ j, i ≤ j → isB (shS n k l m i).1 j = isB l j ∧ (shS n k l m i).2.getD j 0 = m.getD j 0)
  | 0, _ => ⟨fun j hj => absurd hj (Nat.not_lt_zero j), fun j _ => ⟨rfl, rfl⟩⟩
  | i + 1, hi => by
    obtain ⟨a1, a2⟩ := shS_in h hf (k := k) i (by omega)
    obtain ⟨l1, l2⟩ := shS_len n k l m i
    have hc : (Nat.blt (i + k) n && isB (shS n k l m i).1 (i + k)) = (f (i + k)).isSome := by
      rw [(a2 (i + k) (by omega)).1]
      rcases Nat.lt_or_ge (i + k) n with g | g
      · rw [show Nat.blt (i + k) n = true by rw [Nat.blt_eq]; exact g, Bool.true_and, h.is _ g]
      · rw [hf _ g, show Nat.blt (i + k) n = false by rw [Bool.eq_false_iff, ne_eq, Nat.blt_eq]; omega]; rfl
    have hlen := h.ll
    have hmen := h.ml
    unfold shS
    rw [hc]
    cases hb : (f (i + k)).isSome
    · rw [cond_false]
      refine ⟨fun j hj => ⟨?_, fun hs => ?_⟩, fun j hj => ⟨?_, ?_⟩⟩
      · show isB (List.set _ _ _) j = _
        rw [isB_set (by omega)]
        by_cases c : j = i
        · rw [if_pos c, c, hb]
        · rw [if_neg c]; exact (a1 j (by omega)).1
      · have c : j ≠ i := fun c => by rw [c, hb] at hs; cases hs
        exact (a1 j (by omega)).2 hs
      · show isB (List.set _ _ _) j = _
        rw [isB_set (by omega), if_neg (by omega)]; exact (a2 j (by omega)).1
      · exact (a2 j (by omega)).2
    · rw [cond_true]
      have hin : i + k < n := by
        rcases Nat.lt_or_ge (i + k) n with g | g
        · exact g
        · rw [hf _ g] at hb; cases hb
      refine ⟨fun j hj => ⟨?_, fun hs => ?_⟩, fun j hj => ⟨?_, ?_⟩⟩
      · show isB (List.set _ _ _) j = _
        rw [isB_set (by omega)]
        by_cases c : j = i
        · rw [if_pos c, c, hb]
        · rw [if_neg c]; exact (a1 j (by omega)).1
      · show (List.set _ _ _).getD j 0 = _
        rw [getD_set (by omega)]
        by_cases c : j = i
        · rw [if_pos c, c, (a2 (i + k) (by omega)).2]
          exact h.by' _ hin hb
        · rw [if_neg c]; exact (a1 j (by omega)).2 hs
      · show isB (List.set _ _ _) j = _
        rw [isB_set (by omega), if_neg (by omega)]; exact (a2 j (by omega)).1
      · show (List.set _ _ _).getD j 0 = _
        rw [getD_set (by omega), if_neg (by omega)]; exact (a2 j (by omega)).2
theorem shS_LM {n k : Nat} {l : List Ub} {m : Tx} {f : Nat → Option (BitVec 8)} (h : LM l m n f) (hf : ∀ j, n ≤ j → f j = none) : LM (shS n k l m n).1 (shS n k l m n).2 n (fun j => f (j + k)) := by
  obtain ⟨a1, -⟩ := shS_in h hf (k := k) n (Nat.le_refl _)
  obtain ⟨l1, l2⟩ := shS_len n k l m n
  exact ⟨l1.trans h.ll, l2.trans h.ml, fun j hj => (a1 j hj).1, fun j hj => (a1 j hj).2⟩
theorem frN_iff (l : List Ub) (i0 : Nat) : ∀ c, frN l i0 c = true ↔ ∀ j, j < c → isB l (i0 + j) = false
  | 0 => ⟨fun _ j hj => absurd hj (Nat.not_lt_zero j), fun _ => rfl⟩
  | c + 1 => by
    unfold frN
    have ih := frN_iff l i0 c
    cases hfr : frN l i0 c
    · rw [cond_false]
      refine ⟨fun h => (by cases h), fun h => ?_⟩
      rw [ih.2 fun j hj => h j (by omega)] at hfr; cases hfr
    · rw [cond_true]
      rw [hfr] at ih
      have ih := ih.1 rfl
      constructor
      · intro h j hj
        rcases Nat.lt_or_eq_of_le (Nat.le_of_lt_succ hj) with g | rfl
        · exact ih j g
        · simpa using h
      · intro h
        rw [h c (by omega)]; rfl
end Go.Proofs.Ytkjfecdpakhggaa
namespace Go.Proofs.Ytkjfecdpakhggaa
open Go.RowKit
set_option linter.unusedVariables false
set_option linter.unusedSimpArgs false
set_option maxRecDepth 100000

theorem vNwD (x : BitVec 32) (w : Int) (K : SV → Mm → Prop) : (vf Try.prog E0 noL 15 [.w32 x, .i w] [] K) = (bif inI (w + 1) then bif ile 0 (w + 1) && ile (w + 1) (w + 1) && ile (w + 1) 140737488355328 then bif inI (w + 1) then bif ile 0 (w + 1) && ile (w + 1) (w + 1) && ile (w + 1) 140737488355328 then K (SV.ptr 9 0) [{ rw := true, c := Cont.gone }, { rw := true, c := Cont.gone }, { rw := true, c := Cont.gone }, { rw := true, c := Cont.gone }, { rw := true, c := Cont.recs none [Fk.b] [] (List.replicate (w + 1).toNat (rz [Fk.b])) }, { rw := true, c := Cont.gone }, { rw := true, c := Cont.gone }, { rw := true, c := Cont.a8 (List.replicate (w + 1).toNat 0) }, { rw := true, c := Cont.gone }, { rw := true, c := Cont.row [SV.w32 x, SV.i w, SV.s [], SV.rs 4 0 0 1 (w + 1).toNat (w + 1).toNat, SV.sl 7 0 (w + 1).toNat (w + 1).toNat, SV.b false, SV.i 0, SV.b false] }, { rw := true, c := Cont.gone }] else False else False else False else False) := by kernel_rfl
theorem vLsD (x f : BitVec 32) (K : SV → Prop) : (vf Try.prog E0 noL 10 [.w32 x, .w32 f] [] (fun r _ => K r)) = (bif (BitVec.ofInt 32 1).ule (f - x) then K (SV.b (bif true then (f - x).ule (BitVec.ofInt 32 2147483647) else false)) else K (SV.b false)) := by kernel_rfl
theorem vInD (x f n : BitVec 32) (K : SV → Prop) : (vf Try.prog E0 noL 12 [.w32 x, .w32 f, .w32 n] [] (fun r _ => K r)) = (K (SV.b ((x - f).ult n))) := by kernel_rfl
theorem vMyD (w : Int) (K : SV → Prop) : (vf Try.prog E0 noL 14 [.i w] [] (fun r _ => K r)) = (bif ile 1 w then K (SV.b (bif true then ile w 65536 else false)) else K (SV.b false)) := by kernel_rfl
def mDw (a : BitVec 32) (z e : Int) (he ed : Bool) (rd : List (BitVec 8)) (s1 s2 : Value) : Mm := [⟨false, .row [.w32 a, .i z, .s rd, .v s1, .v s2, .b he, .i e, .b ed]⟩]
theorem vWdD (a : BitVec 32) (z e : Int) (he ed : Bool) (rd : List (BitVec 8)) (s1 s2 : Value) (K : SV → Prop) : (vf Try.prog E0 noL 22 [.ptr 0 0] (mDw a z e he ed rd s1 s2) (fun r _ => K r)) = (bif ed then K (SV.i 0) else bif inI (z - (↑rd.length : Int)) then K (SV.i (z - (↑rd.length : Int))) else False) := by kernel_rfl
def mDh (a : BitVec 32) (z e : Int) (he ed : Bool) (rd : List (BitVec 8)) (n : Nat) (s2 : Value) (l : List Ub) : Mm := [⟨false, .row [.w32 a, .i z, .s rd, .rs 1 0 0 1 n n, .v s2, .b he, .i e, .b ed]⟩, ⟨false, .recs none fUb [] l⟩]
theorem rHe (a : BitVec 32) (z e : Int) (he ed : Bool) (rd : List (BitVec 8)) (n : Nat) (s2 : Value) (l : List Ub) (c c' C i : Nat) (p : Prop) : (frK 24 (iHd c i) fun fr => vround Try.prog E0 noL 25 0 fr (mDh a z e he ed rd n s2 l) (Kn (mDh a z e he ed rd n s2 l) 0 24 p (iHd c' (i + 1)) (mDh a z e he ed rd n s2 l) (oHd C) (mDh a z e he ed rd n s2 l))) = (bif ilt (↑i : Int) (↑n : Int) then bif inR (↑i : Int) n then bif rok 0 i 1 fUb [] l.length then bif (l.getD i (rz fUb)).fst then bif inI ((↑c : Int) + 1) then bif inI ((↑i : Int) + 1) then p ∧ SV.ptr 0 0 = SV.ptr 0 0 ∧ SV.i ((↑c : Int) + 1) = SV.i (↑c' : Int) ∧ SV.i ((↑i : Int) + 1) = SV.i (↑(i + 1) : Int) ∧ (false = false ∧ Cont.row [SV.w32 a, SV.i z, SV.s rd, SV.rs 1 0 0 1 n n, SV.v s2, SV.b he, SV.i e, SV.b ed] = Cont.row [SV.w32 a, SV.i z, SV.s rd, SV.rs 1 0 0 1 n n, SV.v s2, SV.b he, SV.i e, SV.b ed]) ∧ (false = false ∧ Cont.recs none fUb [] l = Cont.recs none fUb [] l) ∧ True else False else False else bif inI ((↑i : Int) + 1) then p ∧ SV.ptr 0 0 = SV.ptr 0 0 ∧ SV.i (↑c : Int) = SV.i (↑c' : Int) ∧ SV.i ((↑i : Int) + 1) = SV.i (↑(i + 1) : Int) ∧ (false = false ∧ Cont.row [SV.w32 a, SV.i z, SV.s rd, SV.rs 1 0 0 1 n n, SV.v s2, SV.b he, SV.i e, SV.b ed] = Cont.row [SV.w32 a, SV.i z, SV.s rd, SV.rs 1 0 0 1 n n, SV.v s2, SV.b he, SV.i e, SV.b ed]) ∧ (false = false ∧ Cont.recs none fUb [] l = Cont.recs none fUb [] l) ∧ True else False else False else False else 0 = 0 ∧ SV.i (↑c : Int) = SV.i (↑C : Int) ∧ (false = false ∧ Cont.row [SV.w32 a, SV.i z, SV.s rd, SV.rs 1 0 0 1 n n, SV.v s2, SV.b he, SV.i e, SV.b ed] = Cont.row [SV.w32 a, SV.i z, SV.s rd, SV.rs 1 0 0 1 n n, SV.v s2, SV.b he, SV.i e, SV.b ed]) ∧ (false = false ∧ Cont.recs none fUb [] l = Cont.recs none fUb [] l) ∧ True) := by kernel_rfl
def LHe (a : BitVec 32) (z e : Int) (he ed : Bool) (rd : List (BitVec 8)) (n : Nat) (s2 : Value) (l : List Ub) (C : Nat) : LT := noL.add 0 (vLoop (mDh a z e he ed rd n s2 l) 24 (iHd 0 0) (mDh a z e he ed rd n s2 l) (oHd C) (mDh a z e he ed rd n s2 l))
theorem vHe (a : BitVec 32) (z e : Int) (he ed : Bool) (rd : List (BitVec 8)) (n : Nat) (s2 : Value) (l : List Ub) (C : Nat) (K : SV → Prop) : (vf Try.prog E0 (LHe a z e he ed rd n s2 l C) 25 [.ptr 0 0] (mDh a z e he ed rd n s2 l) (fun r _ => K r)) = (loopOf Try.prog 25 0 = loopOf Try.prog 25 0 ∧ SV.ptr 0 0 = SV.ptr 0 0 ∧ SV.i 0 = SV.i (↑0 : Int) ∧ SV.i 0 = SV.i (↑0 : Int) ∧ (false = false ∧ Cont.row [SV.w32 a, SV.i z, SV.s rd, SV.rs 1 0 0 1 n n, SV.v s2, SV.b he, SV.i e, SV.b ed] = Cont.row [SV.w32 a, SV.i z, SV.s rd, SV.rs 1 0 0 1 n n, SV.v s2, SV.b he, SV.i e, SV.b ed]) ∧ (false = false ∧ Cont.recs none fUb [] l = Cont.recs none fUb [] l) ∧ K (SV.i (↑C : Int))) := by kernel_rfl
end Go.Proofs.Ytkjfecdpakhggaa
