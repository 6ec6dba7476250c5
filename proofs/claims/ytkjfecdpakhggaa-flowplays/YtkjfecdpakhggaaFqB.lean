/-
  flow: the program's queue stands for such a queue, and Put keeps it so: mathematics of its map. No statement is proved here.
-/
import Derived.Test.YtkjfecdpakhggaaFqA
namespace Go.Proofs.Ytkjfecdpakhggaa
open Go.RowKit
set_option linter.unusedVariables false
set_option linter.unusedSimpArgs false
set_option maxRecDepth 100000

theorem put_okM {s : St} (h : OkM s) (n : BitVec 32) (x : BitVec 8) : OkM (s.put n x) := by
  refine ⟨kd_put h.kd n x, ?_, ?_⟩
  · unfold St.put
    cases hf : s.es.findIdx? (isK n) with
    | some i =>
      show ∀ e ∈ (s.es.modify i fun e => { e with x := x }), e.born < s.clk
      intro e he
      have hm : ∀ (l : List EntE) (i : Nat), (l.modify i fun e => { e with x := x }).map (·.born) = l.map (·.born) := by
        intro l
        induction l with
        | nil => intro i; simp
        | cons e l ih =>
          intro i
          cases i with
          | zero => simp
          | succ i => simp [ih i]
      have : e.born ∈ s.es.map (·.born) := by rw [← hm s.es i]; exact List.mem_map.2 ⟨e, he, rfl⟩
      obtain ⟨e', he', hb⟩ := List.mem_map.1 this
      rw [← hb]; exact h.lt e' he'
    | none =>
      show ∀ e ∈ s.es ++ [(⟨n, x, s.clk⟩ : EntE)], e.born < s.clk + 1
      intro e he
      rcases List.mem_append.1 he with g | g
      · exact Nat.lt_succ_of_lt (h.lt e g)
      · rw [List.mem_singleton.1 g]; exact Nat.lt_succ_self _
  · unfold St.put
    cases hf : s.es.findIdx? (isK n) with
    | some i =>
      show ((s.es.modify i fun e => { e with x := x }).map (·.born)).Nodup
      have hm : ∀ (l : List EntE) (i : Nat), (l.modify i fun e => { e with x := x }).map (·.born) = l.map (·.born) := by
        intro l
        induction l with
        | nil => intro i; simp
        | cons e l ih =>
          intro i
          cases i with
          | zero => simp
          | succ i => simp [ih i]
      rw [hm]; exact h.nd
    | none =>
      show ((s.es ++ [(⟨n, x, s.clk⟩ : EntE)]).map (fun e => e.born)).Nodup
      rw [List.map_append, List.nodup_append]
      refine ⟨h.nd, by simp, fun a ha b hb => ?_⟩
      obtain ⟨e, he, rfl⟩ := List.mem_map.1 ha
      have hb : b = s.clk := by simpa using hb
      have := h.lt e he
      show e.born ≠ b
      omega
theorem hoS_okM {s : St} (h : OkM s) (a sq rm : BitVec 32) (d : Tx) : ∀ i, OkM (hoS a sq rm d s i)
  | 0 => h
  | i + 1 => by
    rw [hoS_next]
    cases !((hoS a sq rm d s i).get (sq + BitVec.ofInt 32 (i : Int))).isSome && (sq + BitVec.ofInt 32 (i : Int) - a).ult rm
    · exact hoS_okM h a sq rm d i
    · exact put_okM (hoS_okM h a sq rm d i) _ _
theorem del_okM {s : St} (h : OkM s) (n : BitVec 32) : OkM (s.del n) := ⟨kd_del h.kd n, fun e he => h.lt e (List.mem_of_mem_eraseP he), by
  show ((s.es.eraseP (isK n)).map (·.born)).Nodup
  exact List.Nodup.sublist (List.Sublist.map _ (List.eraseP_sublist)) h.nd⟩
theorem deS_okM {s : St} (h : OkM s) (a : BitVec 32) : ∀ k, OkM (deS s a k)
  | 0 => h
  | k + 1 => by unfold deS; exact del_okM (deS_okM h a k) _
theorem ofI (i : Nat) : BitVec.ofInt 32 (i : Int) = BitVec.ofNat 32 i := by
  apply BitVec.eq_of_toNat_eq
  simp [BitVec.toNat_ofInt]
theorem bv_sum (a : BitVec 32) (k j : Nat) : a + BitVec.ofNat 32 k + BitVec.ofNat 32 j = a + BitVec.ofNat 32 (j + k) := by
  apply BitVec.eq_of_toNat_eq
  simp [BitVec.toNat_add]
  omega
theorem bv_wrap (a : BitVec 32) (n m : Nat) (h : n = m + 4294967296) : a + BitVec.ofNat 32 n = a + BitVec.ofNat 32 m := by
  apply BitVec.eq_of_toNat_eq
  simp only [BitVec.toNat_add, BitVec.toNat_ofNat]
  omega
theorem hoS_get {s : St} (a sq rm : BitVec 32) (d : Tx) (x : BitVec 32) : ∀ i, i ≤ 65536 → (hoS a sq rm d s i).get x = if (s.get x).isSome = true then s.get x else if (x - a).ult rm = true ∧ (x - sq).toNat < i then some (d.getD (x - sq).toNat 0) else none
  | 0, _ => by
    show s.get x = _
    rw [if_neg (c := (x - a).ult rm = true ∧ (x - sq).toNat < 0) (by omega)]
    split
    · rfl
    · rename_i c
      cases h : s.get x
      · rfl
      · rw [h] at c; exact absurd rfl c
  | i + 1, hi => by
    have ih := hoS_get (s := s) a sq rm d x i (by omega)
    have ihy := hoS_get (s := s) a sq rm d (sq + BitVec.ofNat 32 i) i (by omega)
    rw [bv_back sq i (by omega), if_neg (c := _ ∧ i < i) (by omega)] at ihy
    rw [hoS_next, ofI]
    generalize hoS a sq rm d s i = s1 at ih ihy ⊢
    by_cases q : x = sq + BitVec.ofNat 32 i
    · subst q
      have hb := bv_back sq i (by omega)
      rw [hb]
      cases hg : s.get (sq + BitVec.ofNat 32 i) with
      | some y =>
        rw [hg, if_pos (c := (some y).isSome = true) rfl] at ihy
        rw [ihy, if_pos (c := (some y).isSome = true) rfl]
        show (bif false && _ then _ else s1).get _ = _
        rw [Bool.false_and, cond_false, ihy]
      | none =>
        rw [hg, if_neg (by simp)] at ihy
        rw [ihy, if_neg (by simp)]
        show (bif true && _ then _ else s1).get _ = _
        rw [Bool.true_and]
        cases hu : (sq + BitVec.ofNat 32 i - a).ult rm
        · rw [cond_false, ihy, if_neg (by simp)]
        · rw [cond_true, get_put, if_pos rfl, if_pos ⟨rfl, by omega⟩]
    · have hne : (x - sq).toNat ≠ i := fun e => q ((bv_iff sq x i (by omega)).2 e)
      have h1 : (bif !(s1.get (sq + BitVec.ofNat 32 i)).isSome && (sq + BitVec.ofNat 32 i - a).ult rm then s1.put (sq + BitVec.ofNat 32 i) (d.getD i 0) else s1).get x = s1.get x := by
        cases !(s1.get (sq + BitVec.ofNat 32 i)).isSome && (sq + BitVec.ofNat 32 i - a).ult rm
        · rfl
        · rw [cond_true, get_put, if_neg q]
      rw [h1, ih]
      have : ((x - a).ult rm = true ∧ (x - sq).toNat < i) ↔ ((x - a).ult rm = true ∧ (x - sq).toNat < i + 1) := ⟨fun ⟨u, v⟩ => ⟨u, by omega⟩, fun ⟨u, v⟩ => ⟨u, by omega⟩⟩
      simp only [this]
/-- How many a map has. -/
theorem len_cnt (a : BitVec 32) (f : Nat → Option (BitVec 8)) : ∀ (n : Nat) (s : St), s.kd → n ≤ 4294967296 → (∀ j, j < 4294967296 → s.get (a + BitVec.ofNat 32 j) = if j < n then f j else none) → s.len = heldA f n
  | 0, s, hk, hn, h => by
    show s.es.length = 0
    rw [List.length_eq_zero_iff]
    refine List.eq_nil_iff_forall_not_mem.2 fun e he => ?_
    have hg := h (e.k - a).toNat (by have := (e.k - a).isLt; omega)
    rw [bv_at, if_neg (by omega)] at hg
    exact get_none.1 hg e he rfl
  | n + 1, s, hk, hn, h => by
    have hd : ∀ j, j < 4294967296 → (s.del (a + BitVec.ofNat 32 n)).get (a + BitVec.ofNat 32 j) = if j < n then f j else none := fun j hj => by
      rw [get_del hk, h j hj]
      by_cases q : j = n
      · subst q
        rw [if_pos rfl, if_neg (by omega)]
      · have : ¬ a + BitVec.ofNat 32 j = a + BitVec.ofNat 32 n := fun e => q (by
          have := (bv_iff a _ n (by omega)).1 e
          rw [bv_back a j hj] at this; exact this)
        rw [if_neg this]
        by_cases g : j < n
        · rw [if_pos g, if_pos (by omega)]
        · rw [if_neg g, if_neg (by omega)]
    have ih := len_cnt a f n (s.del (a + BitVec.ofNat 32 n)) (kd_del hk _) (by omega) hd
    have hl := len_del s (a + BitVec.ofNat 32 n)
    have hg := h n (by omega)
    rw [if_pos (by omega)] at hg
    unfold heldA
    rw [hg] at hl
    by_cases c : (f n).isSome = true
    · rw [if_pos c] at hl ⊢
      have : 1 ≤ s.len := get_len (x := a + BitVec.ofNat 32 n) (by rw [hg]; exact c)
      omega
    · rw [if_neg c] at hl ⊢
      omega
def EnP (tl : Bool) (en a : BitVec 32) : Option Nat → Prop
  | none => tl = false
  | some E => tl = true ∧ en = a + BitVec.ofNat 32 E
/-- A map stands for what is held. -/
structure MapP (s : St) (a : BitVec 32) (f : Nat → Option (BitVec 8)) : Prop where
  ok : OkM s
  get : ∀ j, j < 4294967296 → s.get (a + BitVec.ofNat 32 j) = f j
theorem MapP.len {s : St} {a : BitVec 32} {f : Nat → Option (BitVec 8)} (h : MapP s a f) {n : Nat} (hn : n ≤ 65536) (hf : ∀ j, n ≤ j → f j = none) : s.len = heldA f n := len_cnt a f n s h.ok.kd (by omega) fun j hj => by
  rw [h.get j hj]
  split
  · rfl
  · exact hf j (by omega)
theorem MapP.nx {s : St} {a : BitVec 32} {f : Nat → Option (BitVec 8)} (h : MapP s a f) {k k' : Nat} (hk : NxS s a k) (hk' : NxF f k') (h' : k' ≤ 65536) : k = k' := by
  have hle : k ≤ k' := by
    rcases Nat.lt_or_ge k' k with g | g
    · have := hk.all k' g
      rw [h.get k' (by omega), hk'.stop] at this; cases this
    · exact g
  refine Nat.le_antisymm hle ?_
  rcases Nat.lt_or_ge k k' with g | g
  · have h1 := hk'.all k g
    rw [← h.get k (by omega), hk.stop] at h1; cases h1
  · exact g
theorem MapP.de {s : St} {a : BitVec 32} {f : Nat → Option (BitVec 8)} (h : MapP s a f) {k : Nat} (hk : k ≤ 65536) (hf : ∀ j, 65536 ≤ j → f j = none) : MapP (deS s a k) (a + BitVec.ofNat 32 k) (fun j => f (j + k)) := by
  refine ⟨deS_okM h.ok a k, fun j hj => ?_⟩
  rw [bv_sum, deS_get h.ok.kd a _ k (by omega)]
  show _ = f (j + k)
  generalize hn : j + k = n
  rcases Nat.lt_or_ge n 4294967296 with g | g
  · rw [bv_back a _ g, if_neg (by omega), h.get _ g]
  · rw [hf n (by omega), if_pos]
    obtain ⟨m, hm⟩ : ∃ m, n = m + 4294967296 := ⟨n - 4294967296, by omega⟩
    rw [bv_wrap a n m hm, bv_back a _ (by omega)]
    omega
theorem MapP.shift {s : St} {a : BitVec 32} {f : Nat → Option (BitVec 8)} (h : MapP s a f) (hf : ∀ j, f j = none) (a' : BitVec 32) : MapP s a' f := ⟨h.ok, fun j hj => by
  have := h.get (a' + BitVec.ofNat 32 j - a).toNat (by have := (a' + BitVec.ofNat 32 j - a).isLt; omega)
  rw [bv_at, hf] at this
  rw [this, hf]⟩
theorem MapP.hold {s : St} {q : Qa} (h : MapP s q.a q.f) (ho : q.Ok) (hd : q.ed = false) (sq rm : BitVec 32) (d : Tx) (hl : d.length ≤ 65536) (hr : rm.toNat = q.lim) : MapP (hoS q.a sq rm d s d.length) q.a (q.f1 sq d) := by
  refine ⟨hoS_okM h.ok _ _ _ _ _, fun j hj => ?_⟩
  rw [hoS_get _ _ _ _ _ _ hl, h.get j hj]
  unfold Qa.f1
  by_cases c : (q.f j).isSome = true
  · rw [if_pos c, if_pos c]
  · rw [if_neg c, if_neg c]
    have hu : (q.a + BitVec.ofNat 32 j - q.a).ult rm = decide (j < q.lim) := by
      rw [BitVec.ult, bv_back _ j hj, hr]
    rw [hu]
    by_cases g : j < q.lim
    · rw [if_pos g, decide_eq_true g]
      by_cases g2 : (q.a + BitVec.ofNat 32 j - sq).toNat < d.length
      · rw [if_pos ⟨rfl, g2⟩, List.getD_eq_getElem?_getD, List.getElem?_eq_getElem g2]; rfl
      · rw [if_neg (fun x => g2 x.2), List.getElem?_eq_none (by omega)]
    · rw [if_neg g, decide_eq_false g, if_neg (by simp)]
theorem lessB_eq (a : BitVec 32) (j E : Nat) (hj : j ≤ 65536) (hE : E ≤ 65536) : lessB (a + BitVec.ofNat 32 j) (a + BitVec.ofNat 32 E) = decide (j < E) := by
  have e : a + BitVec.ofNat 32 E - (a + BitVec.ofNat 32 j) = BitVec.ofNat 32 E - BitVec.ofNat 32 j := by
    apply BitVec.eq_of_toNat_eq
    have := a.isLt
    simp [BitVec.toNat_add, BitVec.toNat_sub]
    omega
  unfold lessB
  rw [e]
  have t : (BitVec.ofNat 32 E - BitVec.ofNat 32 j).toNat = if j ≤ E then E - j else 4294967296 + E - j := by
    rw [BitVec.toNat_sub]
    simp only [BitVec.toNat_ofNat]
    split <;> omega
  have t0 : (BitVec.ofInt 32 0).toNat = 0 := rfl
  have t1 : (BitVec.ofInt 32 2147483648).toNat = 2147483648 := rfl
  by_cases h0 : BitVec.ofNat 32 E - BitVec.ofNat 32 j = BitVec.ofInt 32 0
  · have : (BitVec.ofNat 32 E - BitVec.ofNat 32 j != BitVec.ofInt 32 0) = false := by rw [h0]; rfl
    rw [this, cond_false]
    rw [h0, t0] at t
    refine (decide_eq_false ?_).symm
    split at t <;> omega
  · have h1 : (BitVec.ofNat 32 E - BitVec.ofNat 32 j != BitVec.ofInt 32 0) = true := by simpa using h0
    rw [h1, cond_true, BitVec.ult, t, t1]
    have hne : j ≠ E := fun q => by subst q; exact h0 (by rw [BitVec.sub_self]; rfl)
    by_cases g : j ≤ E
    · rw [if_pos g, decide_eq_true (by omega), decide_eq_true (by omega)]
    · rw [if_neg g, decide_eq_false (by omega), decide_eq_false (by omega)]
theorem MapP.re {s : St} {a : BitVec 32} {f : Nat → Option (BitVec 8)} (h : MapP s a f) {n : Nat} (hn : n ≤ 65536) (hf : ∀ j, n ≤ j → f j = none) (E : Nat) (hE : E ≤ 65536) : reB s.es (a + BitVec.ofNat 32 E) = !freeA f E := by
  have hfr := freeA_iff (f := f) (fun j hj => hf j (by omega)) E
  have key : ∀ x ∈ s.es, (f (x.k - a).toNat).isSome = true ∧ (x.k - a).toNat ≤ 65536 := fun x hx => by
    have hlt := (x.k - a).isLt
    have h1 := h.get (x.k - a).toNat hlt
    rw [bv_at] at h1
    have h2 : (f (x.k - a).toNat).isSome = true := by
      rw [← h1]
      cases q : s.get x.k
      · exact absurd rfl (get_none.1 q x hx)
      · rfl
    refine ⟨h2, ?_⟩
    rcases Nat.lt_or_ge 65536 (x.k - a).toNat with g | g
    · rw [hf _ (by omega)] at h2; cases h2
    · exact g
  cases hq : freeA f E
  · show reB s.es _ = true
    have : ¬ ∀ j, E ≤ j → f j = none := fun q => by rw [hfr.2 q] at hq; cases hq
    obtain ⟨j, hj⟩ := Classical.not_forall.1 this
    have hj' : E ≤ j ∧ f j ≠ none := by
      refine ⟨?_, fun q => hj fun _ => q⟩
      rcases Nat.lt_or_ge j E with g | g
      · exact absurd (fun q => absurd q (by omega)) hj
      · exact g
    have hjn : j < n := by
      rcases Nat.lt_or_ge j n with g | g
      · exact g
      · exact absurd (hf j g) hj'.2
    have hs : s.get (a + BitVec.ofNat 32 j) ≠ none := by rw [h.get j (by omega)]; exact hj'.2
    have : ∃ y ∈ s.es, y.k = a + BitVec.ofNat 32 j := Classical.byContradiction fun q => hs (get_none.2 fun e he hk => q ⟨e, he, hk⟩)
    obtain ⟨y, hy, hk⟩ := this
    refine reB_true hy ?_
    rw [hk, lessB_eq a j E (by omega) hE]
    exact decide_eq_false (by omega)
  · show reB s.es _ = false
    refine reB_false fun y hy => ?_
    obtain ⟨k1, k2⟩ := key y hy
    have : lessB (a + BitVec.ofNat 32 (y.k - a).toNat) (a + BitVec.ofNat 32 E) = decide ((y.k - a).toNat < E) := lessB_eq a _ E k2 hE
    rw [bv_at] at this
    rw [this]
    refine decide_eq_true ?_
    rcases Nat.lt_or_ge (y.k - a).toNat E with g | g
    · exact g
    · rw [hfr.1 hq _ g] at k1; cases k1
end Go.Proofs.Ytkjfecdpakhggaa
