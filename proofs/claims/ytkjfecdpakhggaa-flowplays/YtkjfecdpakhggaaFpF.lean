/-
  flow: advance is a contract. No statement is proved here.
-/
import Derived.Test.YtkjfecdpakhggaaFpE
namespace Go.Proofs.Ytkjfecdpakhggaa
open Go.RowKit
set_option linter.unusedVariables false
set_option linter.unusedSimpArgs false
set_option maxRecDepth 100000

theorem bv_one (a : BitVec 32) (j : Nat) : a + BitVec.ofNat 32 j + BitVec.ofInt 32 1 = a + BitVec.ofNat 32 (j + 1) := by
  apply BitVec.eq_of_toNat_eq
  simp [BitVec.toNat_add]
  omega
theorem bv_back (a : BitVec 32) (j : Nat) (hj : j < 4294967296) : (a + BitVec.ofNat 32 j - a).toNat = j := by
  have := a.isLt
  simp [BitVec.toNat_sub, BitVec.toNat_add]
  omega
theorem bv_at (a x : BitVec 32) : a + BitVec.ofNat 32 (x - a).toNat = x := by
  apply BitVec.eq_of_toNat_eq
  have := a.isLt
  have := x.isLt
  simp [BitVec.toNat_sub, BitVec.toNat_add]
  omega
theorem bv_iff (a x : BitVec 32) (j : Nat) (hj : j < 4294967296) : x = a + BitVec.ofNat 32 j ↔ (x - a).toNat = j := by
  constructor
  · rintro rfl; exact bv_back a j hj
  · rintro rfl; exact (bv_at a x).symm
theorem del_st (mb clk : Nat) (es : List EntE) (x : BitVec 32) : (stM mb clk es).del x = stM mb clk ((stM mb clk es).del x).es := rfl
theorem deS_st (mb clk : Nat) (es : List EntE) (a : BitVec 32) : ∀ k, deS (stM mb clk es) a k = stM mb clk (deS (stM mb clk es) a k).es
  | 0 => rfl
  | k + 1 => by
    have ih := deS_st mb clk es a k
    unfold deS
    rw [ih]; rfl
theorem deS_kd {s : St} (h : s.kd) (a : BitVec 32) : ∀ k, (deS s a k).kd
  | 0 => h
  | k + 1 => by unfold deS; exact kd_del (deS_kd h a k) _
theorem deS_get {s : St} (h : s.kd) (a x : BitVec 32) : ∀ k, k ≤ 4294967296 → (deS s a k).get x = if (x - a).toNat < k then none else s.get x
  | 0, hk => by rw [if_neg (by omega)]; rfl
  | k + 1, hk => by
    unfold deS
    rw [get_del (deS_kd h a k), deS_get h a x k (by omega)]
    by_cases q : x = a + BitVec.ofNat 32 k
    · rw [if_pos q, if_pos]
      rw [(bv_iff a x k (by omega)).1 q]; omega
    · rw [if_neg q]
      have : (x - a).toNat ≠ k := fun e => q ((bv_iff a x k (by omega)).2 e)
      by_cases q2 : (x - a).toNat < k
      · rw [if_pos q2, if_pos (by omega)]
      · rw [if_neg q2, if_neg (by omega)]
theorem get_len {s : St} {x : BitVec 32} (h : (s.get x).isSome = true) : 1 ≤ s.len := by
  unfold St.get at h
  rw [Option.isSome_map] at h
  obtain ⟨e, he⟩ := Option.isSome_iff_exists.1 h
  have := List.mem_of_find?_eq_some he
  exact List.length_pos_of_mem this
theorem deS_len {s : St} (h : s.kd) (a : BitVec 32) : ∀ k, k ≤ 4294967295 → (∀ j, j < k → (s.get (a + BitVec.ofNat 32 j)).isSome = true) → (deS s a k).len + k = s.len
  | 0, hk, hall => rfl
  | k + 1, hk, hall => by
    have ih := deS_len h a k (by omega) fun j hj => hall j (by omega)
    have hs : ((deS s a k).get (a + BitVec.ofNat 32 k)).isSome = true := by
      rw [deS_get h a _ k (by omega), bv_back a k (by omega), if_neg (by omega)]
      exact hall k (by omega)
    have h1 := get_len hs
    unfold deS
    rw [len_del, if_pos hs]
    omega
theorem nxS_le {s : St} (h : s.kd) {a : BitVec 32} {k : Nat} (hn : NxS s a k) (hl : s.len ≤ 65536) : k ≤ s.len := by
  rcases Nat.lt_or_ge k 4294967296 with q | q
  · have := deS_len h a k (by omega) hn.all
    omega
  · have := deS_len h a 4294967295 (by omega) fun j hj => hn.all j (by omega)
    omega
theorem nxS_go {s : St} (h : s.kd) (hl : s.len ≤ 65536) (a : BitVec 32) : ∀ f k, k + f = 65537 → (∀ j, j < k → (s.get (a + BitVec.ofNat 32 j)).isSome = true) → ∃ k', NxS s a k'
  | 0, k, hk, hall => by
    have := deS_len h a k (by omega) hall
    omega
  | f + 1, k, hk, hall => by
    cases hg : s.get (a + BitVec.ofNat 32 k)
    · exact ⟨k, hall, hg⟩
    · refine nxS_go h hl a f (k + 1) (by omega) fun j hj => ?_
      rcases Nat.lt_or_eq_of_le (Nat.le_of_lt_succ hj) with q | rfl
      · exact hall j q
      · rw [hg]; rfl
theorem nxS_ex {s : St} (h : s.kd) (hl : s.len ≤ 65536) (a : BitVec 32) : ∃ k, NxS s a k := nxS_go h hl a 65537 0 (by omega) fun j hj => absurd hj (Nat.not_lt_zero _)
theorem byS_next (s : St) (a : BitVec 32) (j : Nat) : byS s a (j + 1) = byS s a j ++ [bOf (s.get (a + BitVec.ofNat 32 j))] := by
  unfold byS
  rw [List.range_succ, List.map_append]; rfl
theorem byS_len (s : St) (a : BitVec 32) (j : Nat) : (byS s a j).length = j := by unfold byS; simp
/-- What holds when j bytes are ready more. -/
structure PA (mb clk : Nat) (s : St) (a : BitVec 32) (k : Nat) (rd0 : Tx) (i : AI) (j : Nat) : Prop where
  le : j ≤ k
  ea : i.a = a + BitVec.ofNat 32 j
  ees : stM mb clk i.es = deS s a j
  eb : i.b = bOf (s.get (a + BitVec.ofNat 32 j))
  eis : i.is = (s.get (a + BitVec.ofNat 32 j)).isSome
  mv : i.mv = decide (0 < j)
  rd : 0 < j → RdOk i.l i.off i.n i.cap (rd0 ++ byS s a j) ∧ i.n = rd0.length + j
  z : j = 0 → i.off = 0 ∧ i.n = 0 ∧ i.cap = 0 ∧ i.l = []
theorem PA.next {mb clk : Nat} {s : St} {a : BitVec 32} {k : Nat} {rd0 : Tx} {i : AI} {j : Nat} (h : PA mb clk s a k rd0 i j) (hkd : s.kd) (hk : k ≤ 65536) (hj : j < k) {X pre rest : Tx} {n cap' : Nat} (hX : X = rd0 ++ byS s a j) (hn : n = rd0.length + j) (hc : n + 1 ≤ cap' ∧ cap' ≤ n + 1 + rest.length) :
    PA mb clk s a k rd0 ⟨true, i.a + BitVec.ofInt 32 1, i.es.eraseP (isK i.a), bOf (((stM mb clk i.es).del i.a).get (i.a + BitVec.ofInt 32 1)), (((stM mb clk i.es).del i.a).get (i.a + BitVec.ofInt 32 1)).isSome, pre.length, n + 1, cap', pre ++ (X ++ [i.b]) ++ rest⟩ (j + 1) := by
  have ha : i.a + BitVec.ofInt 32 1 = a + BitVec.ofNat 32 (j + 1) := by rw [h.ea]; exact bv_one a j
  have hde : (stM mb clk i.es).del i.a = deS s a (j + 1) := by
    rw [h.ees, h.ea]; rfl
  have hg : ((stM mb clk i.es).del i.a).get (i.a + BitVec.ofInt 32 1) = s.get (a + BitVec.ofNat 32 (j + 1)) := by
    rw [hde, ha, deS_get hkd a _ (j + 1) (by omega), bv_back a (j + 1) (by omega), if_neg (by omega)]
  have hXl : X.length = n := by rw [hX, List.length_append, byS_len]; omega
  refine ⟨by omega, ha, ?_, congrArg bOf hg, congrArg Option.isSome hg, (decide_eq_true (by omega)).symm, fun _ => ⟨⟨hc.1, ?_, ?_⟩, by show n + 1 = _; omega⟩, fun q => absurd q (by omega)⟩
  · show stM mb clk (i.es.eraseP (isK i.a)) = _
    rw [← hde]; rfl
  · simp only [List.length_append, List.length_singleton, hXl]; omega
  · show ((pre ++ (X ++ [i.b]) ++ rest).drop pre.length).take (n + 1) = _
    rw [List.append_assoc, List.drop_left, List.take_append_of_le_length (by simp [hXl]), List.take_of_length_le (by simp [hXl]), byS_next, ← List.append_assoc, hX, h.eb]
theorem loopAdN (z : Int) (a en : BitVec 32) (tl : Bool) (mb clk : Nat) (es : List EntE) (k : Nat) (hk : OkM (stM mb clk es)) (hl : es.length ≤ 65536) (hn : NxS (stM mb clk es) a k) : LOk Try.prog G (mN z a en tl false mb clk es) 31 (LAdN z a en tl false mb clk es k (a + BitVec.ofNat 32 k) (deS (stM mb clk es) a k).es (byS (stM mb clk es) a k)) := by
  have hkl : k ≤ 65536 := by have h1 : (stM mb clk es).len ≤ 65536 := hl; have := nxS_le hk.kd hn h1; omega
  refine LT.add_ok (noL_ok _ _ _ _) fun fr M K h => ?_
  obtain ⟨hle, hK⟩ := vLe_ok h
  refine loop_pick em_ok mixed (Nat.zero_le _) (by kernel_rfl) iAd (mAdN z en tl false mb clk) (fun i => ∃ j, PA mb clk (stM mb clk es) a k [] i j) (fun i => k - i.n) (fun _ => selA) (fun i => i.is = false) (fun _ => [(0, .ptr 0 0)]) (mAdN z en tl false mb clk) ⟨false, a, es, bOf ((stM mb clk es).get a), ((stM mb clk es).get a).isSome, 0, 0, 0, []⟩ ⟨0, Nat.zero_le _, by simp, rfl, by simp, by simp, rfl, fun q => absurd q (by omega), fun _ => ⟨rfl, rfl, rfl, rfl⟩⟩ (fun _ => noL) (fun _ _ => noL_ok _ _ _ _) (fun i hp => ?_) hle (fun i hp hq => ?_)
  · obtain ⟨j, hp⟩ := hp
    have hlt : i.is = true → j < k := fun q => by
      rcases Nat.lt_or_ge j k with g | g
      · exact g
      · have hjk : j = k := by have := hp.le; omega
        have h1 := hp.eis
        rw [q, hjk, hn.stop] at h1; cases h1
    rcases Nat.eq_zero_or_pos j with q0 | q0
    · obtain ⟨z1, z2, z3, z4⟩ := hp.z q0
      have hmv : i.mv = false := by rw [hp.mv]; exact decide_eq_false (by omega)
      obtain ⟨mv, a', es', b, is, off, n, cap, l⟩ := i
      simp only at z1 z2 z3 z4 hmv hlt
      subst z1 z2 z3 z4 hmv
      refine of_eq (rAdN0 z a en tl false mb clk es a' es' b is _ _) ?_
      rcases bTF is with c | c
      · refine bifT c fun cap' rest hc => ⟨⟨⟨⟨j + 1, ?_⟩, ?_⟩, rfl, rfl, rfl, ⟨rfl, rfl⟩, ⟨rfl, rfl⟩, ⟨rfl, rfl⟩, trivial⟩, trivial⟩
        · have hc : 1 + rest.length = cap' := hc
          exact hp.next hk.kd hkl (hlt c) (X := []) (pre := []) (rest := rest) (n := 0) (cap' := cap') (by rw [q0]; rfl) (by rw [q0]; rfl) ⟨by omega, by omega⟩
        · show k - 1 < k - 0
          have := hlt c; omega
      · exact bifF c ⟨rfl, c, rfl, ⟨rfl, rfl⟩, ⟨rfl, rfl⟩, trivial⟩
    · obtain ⟨⟨r1, r2, r3⟩, r4⟩ := hp.rd q0
      have hmv : i.mv = true := by rw [hp.mv]; exact decide_eq_true q0
      obtain ⟨mv, a', es', b, is, off, n, cap, l⟩ := i
      simp only at hmv hlt r1 r2 r3 r4
      subst hmv
      have r4' : n = j := by simpa using r4
      refine of_eq (rAdN1 z a en tl false mb clk es a' es' b is off n cap l _ _) ?_
      rcases bTF is with c | c
      · have hjk := hlt c
        refine bifT c (bif_of ?_ fun cap' pre rest hc => ⟨⟨⟨⟨j + 1, ?_⟩, ?_⟩, rfl, rfl, rfl, ⟨rfl, rfl⟩, ⟨rfl, rfl⟩, ⟨rfl, rfl⟩, trivial⟩, trivial⟩)
        · show (decide (n ≤ cap) && decide (off + cap ≤ l.length) && decide (n + 1 ≤ 1099511627776) && true) = true
          rw [decide_eq_true r1, decide_eq_true r2, decide_eq_true (by omega)]; rfl
        · exact hp.next hk.kd hkl hjk (X := List.take n (List.drop off l)) (pre := pre) (rest := rest) (n := n) (cap' := cap') r3 r4 hc
        · show k - (n + 1) < k - n
          omega
      · exact bifF c ⟨rfl, c, rfl, ⟨rfl, rfl⟩, ⟨rfl, rfl⟩, ⟨rfl, rfl⟩, trivial⟩
  · obtain ⟨j, hp⟩ := hp
    have hq : i.is = false := hq
    have hjk : j = k := by
      rcases Nat.lt_or_ge j k with g | g
      · have h1 := hp.eis
        rw [hq, hn.all j g] at h1; cases h1
      · have := hp.le; omega
    subst hjk
    rcases Nat.eq_zero_or_pos j with q0 | q0
    · subst q0
      have hmv : i.mv = false := by rw [hp.mv]; rfl
      have h1 := hK.1 rfl
      rw [frK_eq] at h1
      have e1 : i.a = a := by rw [hp.ea]; simp
      have e2 : i.es = es := by have := congrArg St.es hp.ees; exact this
      obtain ⟨mv, a', es', b, is, off, n, cap, l⟩ := i
      simp only at hmv e1 e2
      subst hmv e1 e2
      exact h1
    · obtain ⟨⟨r1, r2, r3⟩, r4⟩ := hp.rd q0
      have hmv : i.mv = true := by rw [hp.mv]; exact decide_eq_true q0
      have e1 : i.a = a + BitVec.ofNat 32 j := hp.ea
      have e2 : i.es = (deS (stM mb clk es) a j).es := congrArg St.es hp.ees
      obtain ⟨mv, a', es', b, is, off, n, cap, l⟩ := i
      simp only at hmv e1 e2 r1 r2 r3 r4
      have r4' : n = j := by simpa using r4
      subst hmv e1 e2 r4'
      have h1 := hK.2 q0 off cap l ⟨r1, r2, r3⟩
      rw [frK_eq] at h1
      exact h1
theorem loopAdS (z : Int) (a en : BitVec 32) (tl : Bool) (mb clk : Nat) (es : List EntE) (off0 n0 cap0 : Nat) (l0 : List (BitVec 8)) (k : Nat) (hk : OkM (stM mb clk es)) (hl : es.length ≤ 65536) (hn : NxS (stM mb clk es) a k) (h0 : n0 ≤ 65536) (h1 : n0 ≤ cap0) (h2 : off0 + cap0 ≤ l0.length) : LOk Try.prog G (mS z a en tl false mb clk es off0 n0 cap0 l0) 31 (LAdS z a en tl false mb clk es off0 n0 cap0 l0 k (a + BitVec.ofNat 32 k) (deS (stM mb clk es) a k).es ((l0.drop off0).take n0 ++ byS (stM mb clk es) a k)) := by
  have hkl : k ≤ 65536 := by have h1 : (stM mb clk es).len ≤ 65536 := hl; have := nxS_le hk.kd hn h1; omega
  have hrl : ((l0.drop off0).take n0).length = n0 := by rw [List.length_take, List.length_drop]; omega
  refine LT.add_ok (noL_ok _ _ _ _) fun fr M K h => ?_
  obtain ⟨hle, hK⟩ := vLe_ok h
  refine loop_pick em_ok mixed (Nat.zero_le _) (by kernel_rfl) iAd (mAdS z en tl false mb clk off0 n0 cap0 l0) (fun i => ∃ j, PA mb clk (stM mb clk es) a k ((l0.drop off0).take n0) i j) (fun i => k + n0 - (bif i.mv then i.n else n0)) (fun _ => selA) (fun i => i.is = false) (fun _ => [(0, .ptr 0 0)]) (mAdS z en tl false mb clk off0 n0 cap0 l0) ⟨false, a, es, bOf ((stM mb clk es).get a), ((stM mb clk es).get a).isSome, 0, 0, 0, []⟩ ⟨0, Nat.zero_le _, by simp, rfl, by simp, by simp, rfl, fun q => absurd q (by omega), fun _ => ⟨rfl, rfl, rfl, rfl⟩⟩ (fun _ => noL) (fun _ _ => noL_ok _ _ _ _) (fun i hp => ?_) hle (fun i hp hq => ?_)
  · obtain ⟨j, hp⟩ := hp
    have hlt : i.is = true → j < k := fun q => by
      rcases Nat.lt_or_ge j k with g | g
      · exact g
      · have hjk : j = k := by have := hp.le; omega
        have h1 := hp.eis
        rw [q, hjk, hn.stop] at h1; cases h1
    rcases Nat.eq_zero_or_pos j with q0 | q0
    · obtain ⟨z1, z2, z3, z4⟩ := hp.z q0
      have hmv : i.mv = false := by rw [hp.mv]; exact decide_eq_false (by omega)
      obtain ⟨mv, a', es', b, is, off, n, cap, l⟩ := i
      simp only at z1 z2 z3 z4 hmv hlt
      subst z1 z2 z3 z4 hmv
      refine of_eq (rAdS0 z a en tl false mb clk es a' es' b is off0 n0 cap0 l0 _ _) ?_
      rcases bTF is with c | c
      · refine bifT c (bif_of ?_ fun cap' pre rest hc => ⟨⟨⟨⟨j + 1, ?_⟩, ?_⟩, rfl, rfl, rfl, ⟨rfl, rfl⟩, ⟨rfl, rfl⟩, ⟨rfl, rfl⟩, ⟨rfl, rfl⟩, trivial⟩, trivial⟩)
        · show (decide (n0 ≤ cap0) && decide (off0 + cap0 ≤ l0.length) && decide (n0 + 1 ≤ 1099511627776) && true) = true
          rw [decide_eq_true h1, decide_eq_true h2, decide_eq_true (by omega)]; rfl
        · exact hp.next hk.kd hkl (hlt c) (X := List.take n0 (List.drop off0 l0)) (pre := pre) (rest := rest) (n := n0) (cap' := cap') (by rw [q0]; exact (List.append_nil _).symm) (by rw [q0, hrl]; rfl) hc
        · show k + n0 - (n0 + 1) < k + n0 - n0
          have := hlt c; omega
      · exact bifF c ⟨rfl, c, rfl, ⟨rfl, rfl⟩, ⟨rfl, rfl⟩, ⟨rfl, rfl⟩, trivial⟩
    · obtain ⟨⟨r1, r2, r3⟩, r4⟩ := hp.rd q0
      have hmv : i.mv = true := by rw [hp.mv]; exact decide_eq_true q0
      obtain ⟨mv, a', es', b, is, off, n, cap, l⟩ := i
      simp only at hmv hlt r1 r2 r3 r4
      subst hmv
      rw [hrl] at r4
      refine of_eq (rAdS1 z a en tl false mb clk es off0 n0 cap0 l0 a' es' b is off n cap l _ _) ?_
      rcases bTF is with c | c
      · have hjk := hlt c
        refine bifT c (bif_of ?_ fun cap' pre rest hc => ⟨⟨⟨⟨j + 1, ?_⟩, ?_⟩, rfl, rfl, rfl, ⟨rfl, rfl⟩, ⟨rfl, rfl⟩, ⟨rfl, rfl⟩, ⟨rfl, rfl⟩, trivial⟩, trivial⟩)
        · show (decide (n ≤ cap) && decide (off + cap ≤ l.length) && decide (n + 1 ≤ 1099511627776) && true) = true
          rw [decide_eq_true r1, decide_eq_true r2, decide_eq_true (by omega)]; rfl
        · exact hp.next hk.kd hkl hjk (X := List.take n (List.drop off l)) (pre := pre) (rest := rest) (n := n) (cap' := cap') r3 (by rw [hrl]; exact r4) hc
        · show k + n0 - (n + 1) < k + n0 - n
          omega
      · exact bifF c ⟨rfl, c, rfl, ⟨rfl, rfl⟩, ⟨rfl, rfl⟩, ⟨rfl, rfl⟩, ⟨rfl, rfl⟩, trivial⟩
  · obtain ⟨j, hp⟩ := hp
    have hq : i.is = false := hq
    have hjk : j = k := by
      rcases Nat.lt_or_ge j k with g | g
      · have h1 := hp.eis
        rw [hq, hn.all j g] at h1; cases h1
      · have := hp.le; omega
    subst hjk
    rcases Nat.eq_zero_or_pos j with q0 | q0
    · subst q0
      have hmv : i.mv = false := by rw [hp.mv]; rfl
      have h1 := hK.1 rfl
      rw [frK_eq] at h1
      have e1 : i.a = a := by rw [hp.ea]; simp
      have e2 : i.es = es := by have := congrArg St.es hp.ees; exact this
      obtain ⟨mv, a', es', b, is, off, n, cap, l⟩ := i
      simp only at hmv e1 e2
      subst hmv e1 e2
      exact h1
    · obtain ⟨⟨r1, r2, r3⟩, r4⟩ := hp.rd q0
      have hmv : i.mv = true := by rw [hp.mv]; exact decide_eq_true q0
      have e1 : i.a = a + BitVec.ofNat 32 j := hp.ea
      have e2 : i.es = (deS (stM mb clk es) a j).es := congrArg St.es hp.ees
      obtain ⟨mv, a', es', b, is, off, n, cap, l⟩ := i
      simp only at hmv e1 e2 r1 r2 r3 r4
      rw [hrl] at r4
      subst hmv e1 e2 r4
      have h1 := hK.2 q0 off cap l ⟨r1, r2, r3⟩
      rw [frK_eq] at h1
      exact h1
theorem edE_case (tl : Bool) (a1 en : BitVec 32) {P Q : Prop} (hP : edE tl a1 en = true → P) (hQ : edE tl a1 en = false → Q) : bif tl then (bif (bif true then a1 == en else false) then P else Q) else Q := by
  cases tl
  · exact hQ rfl
  · have e : edE true a1 en = (a1 == en) := rfl
    rw [e] at hP hQ
    show bif (a1 == en) then P else Q
    cases h : a1 == en
    · exact hQ h
    · exact hP h
theorem ad_ok : COk Try.prog G 31 cAd := by
  intro args M K h
  unfold cAd at h
  split at h
  · rename_i z a en tl ed mb clk es
    obtain ⟨⟨rfl, hk, hl⟩, hK⟩ := h
    obtain ⟨k, hn⟩ : ∃ k, NxS (stM mb clk es) a k := nxS_ex hk.kd hl a
    obtain ⟨k1, k2⟩ := hK k hn
    refine vf_ok em_ok mixed (loopAdN z a en tl mb clk es k hk hl hn) (of_eq (vAdN z a en tl false mb clk es k _ _ _ K) ?_)
    refine ⟨⟨rfl, rfl, rfl, rfl, ⟨rfl, rfl⟩, ⟨rfl, rfl⟩, fun q => ?_, fun q off cap l hr => ?_⟩, trivial⟩
    · have h1 := k1 q
      exact edE_case tl a en (fun e => by unfold nxE at h1; rw [e] at h1; exact h1) (fun e => by unfold nxE at h1; rw [e] at h1; exact h1)
    · have h1 := k2 q off cap l hr
      exact edE_case tl (a + BitVec.ofNat 32 k) en (fun e => by unfold nxE at h1; rw [e] at h1; exact h1) (fun e => by unfold nxE at h1; rw [e] at h1; exact h1)
  · rename_i z a off n cap en tl ed mb clk es l
    obtain ⟨⟨rfl, hk, hl, h0, h1, h2⟩, hK⟩ := h
    obtain ⟨k, hn⟩ : ∃ k, NxS (stM mb clk es) a k := nxS_ex hk.kd hl a
    obtain ⟨k1, k2⟩ := hK k hn
    refine vf_ok em_ok mixed (loopAdS z a en tl mb clk es off n cap l k hk hl hn h0 h1 h2) (of_eq (vAdS z a en tl false mb clk es off n cap l k _ _ _ K) ?_)
    refine ⟨⟨rfl, rfl, rfl, rfl, ⟨rfl, rfl⟩, ⟨rfl, rfl⟩, ⟨rfl, rfl⟩, fun q => ?_, fun q off' cap' l' hr => ?_⟩, trivial⟩
    · have h1 := k1 q
      exact edE_case tl a en (fun e => by unfold nxE at h1; rw [e] at h1; exact h1) (fun e => by unfold nxE at h1; rw [e] at h1; exact h1)
    · have h1 := k2 q off' cap' l' hr
      exact edE_case tl (a + BitVec.ofNat 32 k) en (fun e => by unfold nxE at h1; rw [e] at h1; exact h1) (fun e => by unfold nxE at h1; rw [e] at h1; exact h1)
  · exact h.elim
end Go.Proofs.Ytkjfecdpakhggaa
