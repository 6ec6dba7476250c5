/-
  flow: what FlowWhole says of a queue, of what came and what was told. No statement is proved here.
-/
import Derived.Test.YtkjfecdpakhggaaFwA
namespace Go.Proofs.Ytkjfecdpakhggaa
open Go.RowKit
set_option linter.unusedVariables false
set_option linter.unusedSimpArgs false
set_option maxRecDepth 100000

theorem mkB_len (lc : List Ub) (at' : Nat) : ∀ n, (mkB lc at' n).length = lc.length
  | 0 => rfl
  | n + 1 => by unfold mkB; rw [List.length_set, mkB_len lc at' n]
theorem isB_set {l : List Ub} {k : Nat} (hk : k < l.length) (b : Bool) (i : Nat) : isB (l.set k (b, ())) i = if i = k then b else isB l i := by
  unfold isB
  rw [List.getD_eq_getElem?_getD, List.getD_eq_getElem?_getD]
  by_cases q : i = k
  · subst q
    rw [if_pos rfl, List.getElem?_set_self hk]; rfl
  · rw [if_neg q, List.getElem?_set_ne (Ne.symm q)]
theorem mkB_is {lc : List Ub} {at' : Nat} (i : Nat) : ∀ n, at' + n ≤ lc.length → isB (mkB lc at' n) i = (isB lc i || (decide (at' ≤ i) && decide (i < at' + n)))
  | 0, _ => by
    have : (decide (at' ≤ i) && decide (i < at' + 0)) = false := by
      rw [Bool.and_eq_false_iff, decide_eq_false_iff_not, decide_eq_false_iff_not]; omega
    rw [this, Bool.or_false]; rfl
  | n + 1, h => by
    have ih := mkB_is (lc := lc) (at' := at') i n (by omega)
    unfold mkB
    rw [isB_set (by rw [mkB_len]; omega), ih]
    by_cases q : i = at' + n
    · subst q
      rw [if_pos rfl, decide_eq_true (by omega), decide_eq_true (by omega)]; simp
    · rw [if_neg q]
      congr 2
      rw [Bool.eq_iff_iff]; simp only [decide_eq_true_eq]; omega
/-- What came then. -/
def lcN (lc : List Ub) (T at' n : Nat) (fin : Bool) : List Ub := (mkB lc at' n).set T (isB (mkB lc at' n) T || fin, ())
theorem lcN_len (lc : List Ub) (T at' n : Nat) (fin : Bool) : (lcN lc T at' n fin).length = lc.length := by unfold lcN; rw [List.length_set, mkB_len]
theorem lcN_lt {lc : List Ub} {T at' n : Nat} {fin : Bool} (hl : lc.length = T + 1) (hn : at' + n ≤ T) {k : Nat} (hk : k < T) : isB (lcN lc T at' n fin) k = (isB lc k || (decide (at' ≤ k) && decide (k < at' + n))) := by
  unfold lcN
  rw [isB_set (by rw [mkB_len]; omega), if_neg (by omega), mkB_is k n (by omega)]
theorem lcN_eq {lc : List Ub} {T at' n : Nat} {fin : Bool} (hl : lc.length = T + 1) (hn : at' + n ≤ T) : isB (lcN lc T at' n fin) T = (isB lc T || fin) := by
  unfold lcN
  rw [isB_set (by rw [mkB_len]; omega), if_pos rfl, mkB_is T n (by omega), decide_eq_false (p := T < at' + n) (by omega)]
  simp
structure WI (a : BitVec 32) (x : Tx) (q : Qa) (lc : List Ub) (told : Tx) (N : Nat) : Prop where
  nT : N ≤ x.length
  z : q.z = 1024
  txt : told ++ q.rd = x.take N
  len : lc.length = x.length + 1
  all : ∀ k, k < N → isB lc k = true
  f : ∀ j, q.f j = if N + j < x.length ∧ isB lc (N + j) = true then x[N + j]? else none
  ed : q.ed = (decide (N = x.length) && isB lc x.length)
  a : q.a = a + BitVec.ofNat 32 (N + if q.ed = true then 1 else 0)
  e : q.ed = false → q.e = if isB lc x.length = true then some (x.length - N) else none
theorem bv_diff (a : BitVec 32) (n m : Nat) (h : m ≤ n) (hn : n < 4294967296) : (a + BitVec.ofNat 32 n - (a + BitVec.ofNat 32 m)).toNat = n - m := by
  have := a.isLt
  simp only [BitVec.toNat_sub, BitVec.toNat_add, BitVec.toNat_ofNat]
  omega
theorem bv_diff2 (a : BitVec 32) (n m : Nat) (h : n < m) (hn : m < 4294967296) : (a + BitVec.ofNat 32 n - (a + BitVec.ofNat 32 m)).toNat = 4294967296 + n - m := by
  have := a.isLt
  simp only [BitVec.toNat_sub, BitVec.toNat_add, BitVec.toNat_ofNat]
  omega
theorem WI.stop {a : BitVec 32} {x : Tx} {q : Qa} {lc : List Ub} {told : Tx} {N : Nat} (h : WI a x q lc told N) (ok : q.Ok) (hN : N < x.length) : isB lc N = false := by
  have h1 := h.f 0
  rw [ok.f0, Nat.add_zero] at h1
  cases hb : isB lc N
  · rfl
  · rw [hb, if_pos ⟨hN, rfl⟩, List.getElem?_eq_getElem hN] at h1; cases h1
theorem WI.rdl {a : BitVec 32} {x : Tx} {q : Qa} {lc : List Ub} {told : Tx} {N : Nat} (h : WI a x q lc told N) : told.length + q.rd.length = N := by
  have := congrArg List.length h.txt
  rw [List.length_append, List.length_take, Nat.min_eq_left h.nT] at this
  exact this
theorem WI.f1 {a : BitVec 32} {x : Tx} {q : Qa} {lc : List Ub} {told : Tx} {N : Nat} (h : WI a x q lc told N) (ok : q.Ok) (hx : x.length ≤ 1000) (hd : q.ed = false) {at' n : Nat} (hat : at' + n ≤ x.length) (fin : Bool) (j : Nat) : q.f1 (a + BitVec.ofNat 32 at') ((x.take (at' + n)).drop at') j = if N + j < x.length ∧ isB (lcN lc x.length at' n fin) (N + j) = true then x[N + j]? else none := by
  have hnT := h.nT
  have hrl := h.rdl
  have hz := h.z
  have hdl : ((x.take (at' + n)).drop at').length = n := by rw [List.length_drop, List.length_take]; omega
  have hqa : q.a = a + BitVec.ofNat 32 N := by have := h.a; rw [hd, if_neg (by simp)] at this; exact this
  unfold Qa.f1
  rcases Nat.lt_or_ge (N + j) x.length with hj | hj
  · rw [lcN_lt h.len hat hj]
    have hget : x[N + j]? = some x[N + j] := List.getElem?_eq_getElem hj
    rcases bTF (isB lc (N + j)) with hb | hb
    · have hfj : q.f j = some x[N + j] := by rw [h.f j, if_pos ⟨hj, hb⟩, hget]
      rw [hfj, hb, if_pos (c := (some x[N + j]).isSome = true) rfl, if_pos ⟨hj, rfl⟩, hget]
    · have hfj : q.f j = none := by rw [h.f j, hb, if_neg (by simp)]
      have hlim : j < q.lim := by
        unfold Qa.lim
        rw [h.e hd]
        split
        · show j < x.length - N
          omega
        · show j < q.z - q.rd.length
          omega
      rw [hfj, hb, Bool.false_or, if_neg (c := (none : Option (BitVec 8)).isSome = true) (by simp), if_pos hlim, hqa, bv_sum]
      rcases Nat.lt_or_ge (j + N) at' with g | g
      · rw [bv_diff2 a _ _ g (by omega), List.getElem?_eq_none (by omega), decide_eq_false (p := at' ≤ N + j) (by omega), Bool.false_and, if_neg (by simp)]
      · rw [bv_diff a _ _ g (by omega), decide_eq_true (p := at' ≤ N + j) (by omega), Bool.true_and]
        rcases Nat.lt_or_ge (N + j) (at' + n) with g2 | g2
        · rw [if_pos ⟨hj, decide_eq_true g2⟩, List.getElem?_drop, List.getElem?_take_of_lt (by omega)]
          congr 1; omega
        · rw [List.getElem?_eq_none (by omega), if_neg (fun q => by have := of_decide_eq_true q.2; omega)]
  · have hfj : q.f j = none := by rw [h.f j, if_neg (by omega)]
    rw [hfj, if_neg (c := (none : Option (BitVec 8)).isSome = true) (by simp), if_neg (c := N + j < x.length ∧ _) (by omega)]
    split
    · rename_i hlim
      have hl1 := ok.lim hd
      have hl2 := ok.win
      rw [hqa, bv_sum, bv_diff a _ _ (by omega) (by omega), List.getElem?_eq_none (by omega)]
    · rfl
theorem WI.put {a : BitVec 32} {x : Tx} {q : Qa} {lc : List Ub} {told : Tx} {N : Nat} (h : WI a x q lc told N) (ok : q.Ok) (hx : x.length ≤ 1000) {at' n : Nat} (hat : at' + n ≤ x.length) {fin : Bool} (hf : fin = decide (at' + n = x.length)) :
    (∃ N', WI a x (q.put (a + BitVec.ofNat 32 at') ((x.take (at' + n)).drop at') fin) (lcN lc x.length at' n fin) told N') ∧ (q.ed = true → (q.put (a + BitVec.ofNat 32 at') ((x.take (at' + n)).drop at') fin).ed = true) := by
  have hnT := h.nT
  have hrl := h.rdl
  have hz := h.z
  have hdl : ((x.take (at' + n)).drop at').length = n := by rw [List.length_drop, List.length_take]; omega
  cases hd : q.ed
  rotate_left
  · have hoff : q.off ((x.take (at' + n)).drop at') = true := by unfold Qa.off; rw [hd]; rfl
    rw [Qa.put_off hoff]
    have hed := h.ed
    rw [hd] at hed
    have hed := hed.symm
    simp only [Bool.and_eq_true, decide_eq_true_eq] at hed
    obtain ⟨hNT, hbT⟩ := hed
    refine ⟨⟨N, hnT, hz, h.txt, by rw [lcN_len]; exact h.len, fun k hk => ?_, fun j => ?_, ?_, h.a, fun q => by rw [hd] at q; cases q⟩, fun _ => hd⟩
    · rw [lcN_lt h.len hat (by omega), h.all k hk]; rfl
    · rw [h.f j, if_neg (by omega), if_neg (by omega)]
    · rw [hd, lcN_eq h.len hat, hbT, decide_eq_true hNT]; rfl
  refine ⟨?_, fun q => by cases q⟩
  have hoff : q.off ((x.take (at' + n)).drop at') = false := by unfold Qa.off; rw [hd, hdl, decide_eq_false (by omega)]; rfl
  have hf1 := fun j => h.f1 ok hx hd hat fin j
  have hqa : q.a = a + BitVec.ofNat 32 N := by have := h.a; rw [hd, if_neg (by simp)] at this; exact this
  have hww : q.win = q.z - q.rd.length := rfl
  have he1 : q.e1 (a + BitVec.ofNat 32 at') ((x.take (at' + n)).drop at') fin = if (isB lc x.length || fin) = true then some (x.length - N) else none := by
    unfold Qa.e1
    rcases bTF (isB lc x.length) with hb | hb
    · have hqe : q.e = some (x.length - N) := by rw [h.e hd, hb]; rfl
      rw [hqe, hb]; rfl
    · have hqe : q.e = none := by rw [h.e hd, hb]; rfl
      rw [hqe, hb, Bool.false_or]
      show (if (fin && decide _ && freeA _ _) = true then _ else none) = _
      cases fin
      · rfl
      · have hT : at' + n = x.length := of_decide_eq_true hf.symm
        have hee : q.ee (a + BitVec.ofNat 32 at') ((x.take (at' + n)).drop at') = x.length - N := by
          unfold Qa.ee
          rw [hdl, hqa, bv_sum, bv_diff a _ _ (by omega) (by omega)]; omega
        have hfr : freeA (q.f1 (a + BitVec.ofNat 32 at') ((x.take (at' + n)).drop at')) (x.length - N) = true := by
          refine (freeA_iff (fun j hj => ?_) _).2 fun j hj => ?_
          · rw [hf1 j, if_neg (by omega)]
          · rw [hf1 j, if_neg (by omega)]
        rw [hee, hfr, decide_eq_true (by omega)]; rfl
  obtain ⟨hk, -⟩ := ok.cnt hd (a + BitVec.ofNat 32 at') ((x.take (at' + n)).drop at')
  rw [Qa.put_on hoff, he1]
  generalize hf1e : q.f1 (a + BitVec.ofNat 32 at') ((x.take (at' + n)).drop at') = f1 at hk hf1 ⊢
  generalize cntA f1 = k at hk ⊢
  have hkT : k ≤ x.length - N := hk.le (by rw [hf1, if_neg (by omega)])
  have hall : ∀ j, j < k → N + j < x.length ∧ isB (lcN lc x.length at' n fin) (N + j) = true := fun j hj => by
    have h1 := hk.all j hj
    rw [hf1 j] at h1
    split at h1
    · assumption
    · cases h1
  have hed : decide ((if (isB lc x.length || fin) = true then some (x.length - N) else none) = some k) = (decide (N + k = x.length) && isB (lcN lc x.length at' n fin) x.length) := by
    rw [lcN_eq h.len hat]
    cases isB lc x.length || fin
    · simp
    · rw [if_pos rfl, Bool.and_true, Bool.eq_iff_iff]
      simp only [decide_eq_true_eq, Option.some.injEq]; omega
  refine ⟨N + k, by omega, hz, ?_, by rw [lcN_len]; exact h.len, fun i hi => ?_, fun j => ?_, hed, ?_, fun hed' => ?_⟩
  · show told ++ (q.rd ++ byA f1 k) = _
    rw [← List.append_assoc, h.txt, List.take_add]
    congr 1
    refine List.ext_getElem? fun i => ?_
    unfold byA
    rcases Nat.lt_or_ge i k with g | g
    · rw [List.getElem?_map, List.getElem?_range g, List.getElem?_take_of_lt g, List.getElem?_drop]
      show some (bOf (f1 i)) = _
      rw [hf1 i, if_pos (hall i g), List.getElem?_eq_getElem (hall i g).1]; rfl
    · rw [List.getElem?_eq_none (by simp; omega), List.getElem?_eq_none (by simp; omega)]
  · rcases Nat.lt_or_ge i N with g | g
    · rw [lcN_lt h.len hat (by omega), h.all i g]; rfl
    · have := (hall (i - N) (by omega)).2
      rw [show N + (i - N) = i by omega] at this
      exact this
  · show f1 (j + k) = _
    rw [hf1, show N + (j + k) = N + k + j by omega]
  · show (if _ = some k then q.a + BitVec.ofNat 32 k + 1 else q.a + BitVec.ofNat 32 k) = a + BitVec.ofNat 32 (N + k + if decide (_ = some k) = true then 1 else 0)
    rw [hqa, bv_sum]
    generalize (if (isB lc x.length || fin) = true then some (x.length - N) else none : Option Nat) = e1
    by_cases c : e1 = some k
    · rw [if_pos c, if_pos (decide_eq_true c), show N + k + 1 = k + N + 1 by omega]
      exact bv_one a (k + N)
    · rw [if_neg c, if_neg (by rw [decide_eq_false c]; simp), Nat.add_zero, Nat.add_comm]
  · have hed' : decide ((if (isB lc x.length || fin) = true then some (x.length - N) else none) = some k) = false := hed'
    show (if _ = some k then none else Option.map _ _) = _
    rw [if_neg (of_decide_eq_false hed'), lcN_eq h.len hat]
    split
    · show some (x.length - N - k) = some (x.length - (N + k))
      congr 1; omega
    · rfl
theorem WI.read {a : BitVec 32} {x : Tx} {q : Qa} {lc : List Ub} {told : Tx} {N : Nat} (h : WI a x q lc told N) (m : Int) : WI a x (q.read m) lc (told ++ q.told m) N := by
  refine ⟨h.nT, h.z, ?_, h.len, h.all, h.f, h.ed, h.a, h.e⟩
  show told ++ q.told m ++ q.rd.drop _ = _
  unfold Qa.told
  rw [List.append_assoc, List.take_append_drop]
  exact h.txt
theorem WI.new (a : BitVec 32) (x : Tx) : WI a x (newA a 1024) (List.replicate (x.length + 1) (rz fUb)) [] 0 := by
  have hb : ∀ k, isB (List.replicate (x.length + 1) (rz fUb)) k = false := fun k => by
    unfold isB
    rw [List.getD_eq_getElem?_getD, List.getElem?_replicate]
    split <;> rfl
  refine ⟨Nat.zero_le _, rfl, rfl, by simp, fun k hk => absurd hk (Nat.not_lt_zero k), fun j => ?_, ?_, ?_, fun _ => ?_⟩
  · rw [if_neg (by rw [hb]; simp)]; rfl
  · rw [hb]; simp [newA]
  · show a = a + BitVec.ofNat 32 (0 + if false = true then 1 else 0)
    simp
  · rw [hb, if_neg (by simp)]; rfl
end Go.Proofs.Ytkjfecdpakhggaa
