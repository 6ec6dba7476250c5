/-
  ip: the law IpWhole: what holds between two pieces that are taken. No statement is proved here.
-/
import Derived.Test.YtggoncamiafclaaJqF
namespace Go.Proofs.Ytggoncamiafclaa
open Go.RowKit
set_option linter.unusedVariables false
set_option linter.unusedSimpArgs false
set_option maxRecDepth 100000
def nmI (i : Nat) : Nm := ⟨BitVec.ofInt 32 1, BitVec.ofInt 32 2, BitVec.ofInt 8 6, BitVec.ofInt 16 (i : Nat)⟩
def tR (d : Dt) (i : Nat) : Pr := (BitVec.ofInt 32 1, BitVec.ofInt 32 2, BitVec.ofInt 8 6, BitVec.ofInt 8 5, BitVec.ofInt 16 (i : Nat), false, false, 0, dat d i, ())
theorem id_inj {i j : Nat} (hi : i < 8) (hj : j < 8) (h : BitVec.ofInt 16 (i : Nat) = BitVec.ofInt 16 (j : Nat)) : i = j := by
 have := congrArg BitVec.toNat h
 rw [BitVec.toNat_ofInt, BitVec.toNat_ofInt] at this
 omega
theorem nm_inj {i j : Nat} (hi : i < 8) (hj : j < 8) (h : nmI i = nmI j) : i = j := id_inj hi hj (congrArg Nm.id h)
abbrev idR (r : Pr) : BitVec 16 := r.2.2.2.2.1
structure Cuts (d : Dt) (F : Nat → List Cz) : Prop where
 H : HD d
 cut : ∀ i, i < d.n → Cut (dat d i) (dat d i).length (F i)
theorem Cuts.ok {d : Dt} {F : Nat → List Cz} (h : Cuts d F) {i : Nat} (hi : i < d.n) {c : Cz} (hc : c ∈ F i) : CzOk (dat d i) c ∧ c.1 + c.2.1.length ≤ 8192 := by
 have := (czs_ok (h.cut i hi)).2.2 c hc
 have h2 := h.H.few i hi
 exact ⟨this.1, by omega⟩
theorem mkR_inj {d : Dt} {F : Nat → List Cz} (h : Cuts d F) {i j : Nat} (hi : i < d.n) (hj : j < d.n) {c c' : Cz} (hc : c ∈ F i) (hc' : c' ∈ F j) (he : mkR i c = mkR j c') : i = j ∧ c = c' := by
 have h8 := h.H.n8
 obtain rfl : i = j := id_inj (by omega) (by omega) (congrArg idR he)
 refine ⟨rfl, ?_⟩
 have o1 := h.ok hi hc
 have o2 := h.ok hi hc'
 have e : BitVec.ofInt 16 ((c.1 : Int).tdiv 8) = BitVec.ofInt 16 ((c'.1 : Int).tdiv 8) := congrArg (fun r : Pr => r.2.2.2.2.2.2.2.1) he
 have e2 := congrArg BitVec.toNat e
 rw [BitVec.toNat_ofInt, BitVec.toNat_ofInt, Int.tdiv_eq_ediv_of_nonneg (by omega), Int.tdiv_eq_ediv_of_nonneg (by omega)] at e2
 have m1 := o1.1.h8
 have m2 := o2.1.h8
 have l1 := o1.2
 have l2 := o2.2
 exact cut_one (h.cut i hi) hc hc' (by omega)
theorem place_mk {d : Dt} {F : Nat → List Cz} (h : Cuts d F) {i : Nat} (hi : i < d.n) {c : Cz} (hc : c ∈ F i) : 8 * (((mkR i c).2.2.2.2.2.2.2.1.toNat : Nat) : Int) = (c.1 : Int) := by
 have o1 := h.ok hi hc
 show 8 * (((BitVec.ofInt 16 ((c.1 : Int).tdiv 8)).toNat : Nat) : Int) = _
 rw [BitVec.toNat_ofInt, Int.tdiv_eq_ediv_of_nonneg (by omega)]
 have m1 := o1.1.h8
 have l1 := o1.2
 omega
theorem wr_ok {d : Dt} {F : Nat → List Cz} (h : Cuts d F) {i : Nat} (hi : i < d.n) {c : Cz} (hc : c ∈ F i) : wrE (c.1 : Int) c.2.1 c.2.2 = 0 := by
 obtain ⟨o1, o2⟩ := h.ok hi hc
 unfold wrE
 have h1 : (c.2.1 == []) = false := by
  cases hq : c.2.1 with
  | nil => have := o1.pos; rw [hq] at this; exact absurd this (Nat.lt_irrefl 0)
  | cons x l => rfl
 rw [h1, ilt_no (by omega)]
 cases hm : c.2.2
 ·rfl
 ·have h8 := o1.m8 hm
  have : ((c.2.1.length : Int).tmod 8 != 0) = false := by
   rw [Int.tmod_eq_emod_of_nonneg (by omega)]
   have : ((c.2.1.length : Int) % 8) = 0 := by omega
   rw [this]; rfl
  show (bif false then (8 : Int) else bif ((c.2.1.length : Int).tmod 8 != 0) then 8 else 0) = 0
  rw [this]; rfl
structure J (d : Dt) (F : Nat → List Cz) (K : Nat) (lf : List Pr) (T : List Nat) (s : St) : Prop where
 ok : OkS s
 tn : T.Nodup
 tt : ∀ i ∈ T, i < d.n ∧ dat d i ≠ []
 left : ∀ r ∈ lf, ∃ i, i < d.n ∧ i ∉ T ∧ ∃ c ∈ F i, r = mkR i c
 all : ∀ i, i < d.n → i ∉ T → ∀ c ∈ F i, mkR i c ∈ lf ∨ ∃ e ∈ s.es, e.nm = nmI i ∧ pcZ c ∈ e.ps
 sets : ∀ e ∈ s.es, ∃ i, i < d.n ∧ i ∉ T ∧ dat d i ≠ [] ∧ e.nm = nmI i ∧ Of (F i) e.ps ∧ e.ps.Nodup ∧ upP e.ps ∧ e.ps ≠ [] ∧ wholeP e.ps e.ps.length = false ∧ 100 ≤ e.u.toNat ∧ e.len ≤ K
theorem nodup_lt : ∀ (n : Nat) (l : List Nat), l.Nodup → (∀ x ∈ l, x < n) → l.length ≤ n
 | 0, l, _, h => by
  cases l with
  | nil => exact Nat.le_refl _
  | cons x l => exact absurd (h x (List.mem_cons_self ..)) (Nat.not_lt_zero _)
 | n + 1, l, hn, h => by
  have h1 := nodup_lt n (l.filter (· ≠ n)) (hn.sublist List.filter_sublist) (fun x hx => by
   obtain ⟨h2, h3⟩ := List.mem_filter.1 hx
   have := h x h2
   have h3 : x ≠ n := by simpa using h3
   omega)
  have h2 : l.length ≤ (l.filter (· ≠ n)).length + 1 := by
   clear h1 h
   induction l with
   | nil => exact Nat.zero_le _
   | cons x l ih =>
    rw [List.nodup_cons] at hn
    by_cases q : x = n
    ·subst q
     have : l.filter (· ≠ x) = l := List.filter_eq_self.2 fun y hy => by
      have : y ≠ x := fun e => hn.1 (e ▸ hy)
      simpa using this
     rw [List.filter_cons_of_neg (by simp), this, List.length_cons]
     exact Nat.le_refl _
    ·rw [List.filter_cons_of_pos (by simpa using q), List.length_cons, List.length_cons]
     have := ih hn.2
     omega
  omega
theorem J.few {d : Dt} {F : Nat → List Cz} {K : Nat} {lf : List Pr} {T : List Nat} {s : St} (h : J d F K lf T s) (hC : Cuts d F) : s.es.length ≤ d.n := by
 have h8 := hC.H.n8
 obtain ⟨g, hg⟩ : ∃ g : Nm → Nat, ∀ i, i < d.n → g (nmI i) = i := ⟨fun m => m.id.toNat, fun i hi => by
  show (BitVec.ofInt 16 (i : Nat)).toNat = i
  rw [BitVec.toNat_ofInt]; omega⟩
 have h1 : (s.es.map fun e => g e.nm).Nodup := by
  have h2 := h.ok.nms
  unfold List.Nodup at h2 ⊢
  rw [List.pairwise_map] at h2 ⊢
  refine h2.imp_of_mem fun {a b} ha hb hab q => ?_
  obtain ⟨i, hi, -, -, ei, -⟩ := h.sets a ha
  obtain ⟨j, hj, -, -, ej, -⟩ := h.sets b hb
  rw [ei, ej, hg i hi, hg j hj] at q
  subst q
  exact hab (ei.trans ej.symm)
 have h2 := nodup_lt d.n _ h1 (fun x hx => by
  obtain ⟨e, he, rfl⟩ := List.mem_map.1 hx
  obtain ⟨i, hi, -, -, ei, -⟩ := h.sets e he
  rw [ei, hg i hi]; exact hi)
 rwa [List.length_map] at h2
theorem J.same {d : Dt} {F : Nat → List Cz} {K : Nat} {lf : List Pr} {T : List Nat} {s s' : St} (h : J d F K lf T s) (hs : s'.es = s.es) (hk : OkS s') : J d F K lf T s' :=
 ⟨hk, h.tn, h.tt, h.left, by rw [hs]; exact h.all, by rw [hs]; exact h.sets⟩
theorem fE_all {d : Dt} {F : Nat → List Cz} {K : Nat} {lf : List Pr} {T : List Nat} {s : St} (h : J d F K lf T s) {now : BitVec 64} (hn : now.toNat ≤ 49) : fE now s.es = s.es :=
 List.filter_eq_self.2 fun e he => by
  obtain ⟨i, -, -, -, -, -, -, -, -, -, hu, -⟩ := h.sets e he
  have : e.u.ule now = false := by rw [BitVec.ule, decide_eq_false_iff_not]; omega
  rw [this]; rfl
theorem set_of {d : Dt} {F : Nat → List Cz} {K : Nat} {lf : List Pr} {T : List Nat} {s s0 : St} (h : J d F K lf T s) (hC : Cuts d F) {j : Nat} (hj : j < d.n) {now : BitVec 64} (hn : now.toNat ≤ 49) {pre post : List SetE} {e : SetE}
  (hst : Start 32 (BitVec.ofInt 64 100) now (nmI j) s s0) (hk0 : OkS s0) (hs : s0.es = pre ++ e :: post) (he : e.nm = nmI j) :
  Of (F j) e.ps ∧ e.ps.Nodup ∧ upP e.ps ∧ 100 ≤ e.u.toNat ∧ e.len ≤ K ∧ (∀ y ∈ pre ++ post, y ∈ s.es ∧ y.nm ≠ nmI j) ∧ (∀ y ∈ s.es, y.nm ≠ nmI j → y ∈ pre ++ post) ∧ (∀ y ∈ s.es, y.nm = nmI j → y = e) := by
 have h8 := hC.H.n8
 have hnd := hk0.nms
 rw [hs, List.map_append, List.map_cons, List.nodup_append, List.nodup_cons] at hnd
 obtain ⟨-, ⟨n2, -⟩, n3⟩ := hnd
 have ne : ∀ y ∈ pre ++ post, y.nm ≠ nmI j := fun y hy q => by
  rcases List.mem_append.1 hy with hy | hy
  ·exact n3 y.nm (List.mem_map.2 ⟨y, hy, rfl⟩) e.nm (List.mem_cons_self ..) (q.trans he.symm)
  ·exact n2 (List.mem_map.2 ⟨y, hy, q.trans he.symm⟩)
 have inn : ∀ y ∈ s0.es, y.nm ≠ nmI j → y ∈ pre ++ post := fun y hy q => by
  rw [hs] at hy
  rcases List.mem_append.1 hy with hy | hy
  ·exact List.mem_append_left _ hy
  ·rcases List.mem_cons.1 hy with rfl | hy
   ·exact absurd he q
   ·exact List.mem_append_right _ hy
 have one : ∀ y ∈ s0.es, y.nm = nmI j → y = e := fun y hy q => by
  rw [hs] at hy
  rcases List.mem_append.1 hy with hy | hy
  ·exact absurd q (ne y (List.mem_append_left _ hy))
  ·rcases List.mem_cons.1 hy with rfl | hy
   ·rfl
   ·exact absurd q (ne y (List.mem_append_right _ hy))
 have out : ∀ y ∈ pre ++ post, y ∈ s0.es := fun y hy => by
  rw [hs]
  rcases List.mem_append.1 hy with hy | hy
  ·exact List.mem_append_left _ hy
  ·exact List.mem_append_right _ (List.mem_cons_of_mem _ hy)
 have em : e ∈ s0.es := by rw [hs]; exact List.mem_append_right _ (List.mem_cons_self ..)
 rcases hst with rfl | ⟨g1, g2, x, rfl⟩
 ·obtain ⟨i, hi, -, -, ei, o1, o2, o3, -, -, o4, o5⟩ := h.sets e em
  obtain rfl : i = j := nm_inj (by omega) (by omega) (ei.symm.trans he)
  exact ⟨o1, o2, o3, o4, o5, fun y hy => ⟨out y hy, ne y hy⟩, fun y hy => inn y hy, fun y hy => one y hy⟩
 ·have hes : (s.put (newE (nmI j) s.clk x (now + BitVec.ofInt 64 100))).es = s.es ++ [newE (nmI j) s.clk x (now + BitVec.ofInt 64 100)] := rfl
  have hnew : newE (nmI j) s.clk x (now + BitVec.ofInt 64 100) = e := one _ (by rw [hes]; exact List.mem_append_right _ (List.mem_cons_self ..)) rfl
  have hno : ∀ y ∈ s.es, y.nm ≠ nmI j := get_no g1
  have ep : e.ps = [] := by rw [← hnew]; rfl
  have eu : e.u = now + BitVec.ofInt 64 100 := by rw [← hnew]; rfl
  have el : e.len = 0 := by rw [← hnew]; rfl
  refine ⟨by rw [ep]; exact (fun p hp => (by cases hp)), by rw [ep]; exact List.nodup_nil, by rw [ep]; exact List.Pairwise.nil, ?_, by omega, fun y hy => ⟨?_, ne y hy⟩, fun y hy q => inn y (by rw [hes]; exact List.mem_append_left _ hy) q, fun y hy q => absurd q (hno y hy)⟩
  ·have e1 : (BitVec.ofInt 64 100).toNat = 100 := by decide
   rw [eu, BitVec.toNat_add, e1, Nat.mod_eq_of_lt (by omega)]
   omega
  ·have := out y hy
   rw [hes] at this
   rcases List.mem_append.1 this with q | q
   ·exact q
   ·obtain rfl := List.mem_singleton.1 q
    exact absurd rfl (ne _ hy)
theorem j_err {d : Dt} {F : Nat → List Cz} {K : Nat} {lf lf' : List Pr} {T : List Nat} {s s' : St} (h : J d F K lf T s) (hC : Cuts d F) {j : Nat} (hj : j < d.n) (hjT : j ∉ T) {c : Cz} (hc : c ∈ F j) {now : BitVec 64} (hn : now.toNat ≤ 49) {z : Int}
  (hG : GErr 32 (BitVec.ofInt 64 100) now (nmI j) (c.1 : Int) c.2.1 c.2.2 (BitVec.ofInt 8 5) s s' z) : z = 0 ∧ (((∀ r ∈ lf', r ∈ lf) ∧ ∀ r ∈ lf, r ∈ lf' ∨ r = mkR j c) → J d F (K + 1) lf' T s') := by
 have h8 := hC.H.n8
 obtain ⟨hk, hG | hG | hG⟩ := hG
 ·exact absurd (wr_ok hC hj hc) hG.1
 ·have h1 := h.few hC
  have h2 : (32 : Int) ≤ ((s.es.length : Nat) : Int) := hG.2.2.1
  omega
 ·obtain ⟨-, s0, pre, e, post, x, ps, hst, hk0, hs, he, hu, hcc⟩ := hG
  obtain ⟨o1, o2, o3, o4, o5, o6, o7, o8⟩ := set_of h hC hj hn hst hk0 hs he
  rcases hcc with ⟨hA, hz, -⟩ | ⟨hA, hw, rfl, rfl⟩
  ·exact absurd (of_add (hC.cut j hj) o1 o2 o3 hc hA).1 hz
  ·obtain ⟨-, p1, p2, p3, p4, p5, p6⟩ := of_add (hC.cut j hj) o1 o2 o3 hc hA
   refine ⟨rfl, fun ⟨hl1, hl2⟩ => ⟨hk, h.tn, h.tt, fun r hr => h.left r (hl1 r hr), fun i hi hiT c' hc' => ?_, fun y hy => ?_⟩⟩
   ·show _ ∨ ∃ e ∈ pre ++ x :: post, _
    rcases h.all i hi hiT c' hc' with q | ⟨y, hy, q1, q2⟩
    ·rcases hl2 _ q with q | q
     ·exact .inl q
     ·obtain ⟨rfl, rfl⟩ := mkR_inj hC hi hj hc' hc q
      exact .inr ⟨x, List.mem_append_right _ (List.mem_cons_self ..), hu.nm.trans he, by rw [hu.ps]; exact p5⟩
    ·by_cases q : y.nm = nmI j
     ·obtain rfl := o8 y hy q
      obtain rfl : i = j := nm_inj (by omega) (by omega) (q1.symm.trans q)
      exact .inr ⟨x, List.mem_append_right _ (List.mem_cons_self ..), hu.nm.trans he, by rw [hu.ps]; exact p4 _ q2⟩
     ·rcases List.mem_append.1 (o7 y hy q) with w | w
      ·exact .inr ⟨y, List.mem_append_left _ w, q1, q2⟩
      ·exact .inr ⟨y, List.mem_append_right _ (List.mem_cons_of_mem _ w), q1, q2⟩
   ·have old : y ∈ pre ++ post → ∃ i, i < d.n ∧ i ∉ T ∧ dat d i ≠ [] ∧ y.nm = nmI i ∧ Of (F i) y.ps ∧ y.ps.Nodup ∧ upP y.ps ∧ y.ps ≠ [] ∧ wholeP y.ps y.ps.length = false ∧ 100 ≤ y.u.toNat ∧ y.len ≤ K + 1 := fun hm => by
     obtain ⟨i, a1, a2, a3, a4, a5, a6, a7, a8, a9, a10, a11⟩ := h.sets y (o6 y hm).1
     exact ⟨i, a1, a2, a3, a4, a5, a6, a7, a8, a9, a10, by omega⟩
    have hy : y ∈ pre ++ x :: post := hy
    rcases List.mem_append.1 hy with w | w
    ·exact old (List.mem_append_left _ w)
    ·rcases List.mem_cons.1 w with rfl | w
     ·have hd : dat d j ≠ [] := fun q => by
       have := (hC.ok hj hc).1
       have a := this.pos
       have b := this.le
       rw [q] at b
       have : ([] : Tx).length = 0 := rfl
       omega
      have l1 := ps_len hu.ok
      rw [hu.ps] at l1
      have l2 := ps_len (hk0.ok e (by rw [hs]; exact List.mem_append_right _ (List.mem_cons_self ..)))
      have l3 : ps.length ≤ e.ps.length + 1 := by
       rcases hA with ⟨-, rfl, -⟩ | ⟨-, q, -⟩
       ·exact Nat.le_succ _
       ·have := q.length_eq
        rw [List.length_append] at this
        exact Nat.le_of_eq this
      refine ⟨j, hj, hjT, hd, hu.nm.trans he, by rw [hu.ps]; exact p1, by rw [hu.ps]; exact p2, by rw [hu.ps]; exact p3, by rw [hu.ps]; exact p6, by rw [hu.ps]; exact hw, by rw [hu.u]; exact o4, by omega⟩
     ·exact old (List.mem_append_right _ w)
theorem j_told {d : Dt} {F : Nat → List Cz} {K : Nat} {lf lf' : List Pr} {T : List Nat} {s s' : St} (h : J d F K lf T s) (hC : Cuts d F) {j : Nat} (hj : j < d.n) (hjT : j ∉ T) (hd : dat d j ≠ []) (hk : OkS s') (h1 : ∀ y ∈ s'.es, y ∈ s.es ∧ y.nm ≠ nmI j) (h2 : ∀ y ∈ s.es, y.nm ≠ nmI j → y ∈ s'.es)
  (hl1 : ∀ r ∈ lf', r ∈ lf ∧ idR r ≠ BitVec.ofInt 16 (j : Nat)) (hl2 : ∀ r ∈ lf, idR r ≠ BitVec.ofInt 16 (j : Nat) → r ∈ lf') : J d F (K + 1) lf' (T ++ [j]) s' := by
 have h8 := hC.H.n8
 have nT : ∀ i, i < d.n → i ∉ T → i ≠ j → i ∉ T ++ [j] := fun i _ a b q => by
  rcases List.mem_append.1 q with q | q
  ·exact a q
  ·exact b (List.mem_singleton.1 q)
 refine ⟨hk, List.nodup_append.2 ⟨h.tn, by simp, fun a ha b hb q => by
  obtain rfl := List.mem_singleton.1 hb
  subst q; exact hjT ha⟩, fun i hi => ?_, fun r hr => ?_, fun i hi hiT c hc => ?_, fun e he => ?_⟩
 ·rcases List.mem_append.1 hi with q | q
  ·exact h.tt i q
  ·obtain rfl := List.mem_singleton.1 q; exact ⟨hj, hd⟩
 ·obtain ⟨i, a, b, c, hc, rfl⟩ := h.left r (hl1 r hr).1
  refine ⟨i, a, nT i a b fun q => ?_, c, hc, rfl⟩
  subst q
  exact (hl1 _ hr).2 rfl
 ·have hiT' : i ∉ T := fun q => hiT (List.mem_append_left _ q)
  have hij : i ≠ j := fun q => hiT (List.mem_append_right _ (List.mem_singleton.2 q))
  rcases h.all i hi hiT' c hc with q | ⟨y, hy, q1, q2⟩
  ·exact .inl (hl2 _ q fun w => hij (id_inj (by omega) (by omega) w))
  ·exact .inr ⟨y, h2 y hy (fun w => hij (nm_inj (by omega) (by omega) (q1.symm.trans w))), q1, q2⟩
 ·obtain ⟨i, a1, a2, a3, a4, a5, a6, a7, a8, a9, a10, a11⟩ := h.sets e (h1 e he).1
  exact ⟨i, a1, nT i a1 a2 (fun q => (h1 e he).2 (by rw [a4, q])), a3, a4, a5, a6, a7, a8, a9, a10, by omega⟩
theorem dat_ne {d : Dt} {F : Nat → List Cz} (hC : Cuts d F) {j : Nat} (hj : j < d.n) {c : Cz} (hc : c ∈ F j) : dat d j ≠ [] := fun q => by
 have := (hC.ok hj hc).1
 have a := this.pos
 have b := this.le
 rw [q] at b
 have : ([] : Tx).length = 0 := rfl
 omega
theorem j_made {d : Dt} {F : Nat → List Cz} {K : Nat} {lf lf' : List Pr} {T : List Nat} {s s' : St} (h : J d F K lf T s) (hC : Cuts d F) {j : Nat} (hj : j < d.n) (hjT : j ∉ T) {c : Cz} (hc : c ∈ F j) {now : BitVec 64} (hn : now.toNat ≤ 49) {ps : List Pc}
  (hG : GMade 32 (BitVec.ofInt 64 100) now (nmI j) (c.1 : Int) c.2.1 c.2.2 (BitVec.ofInt 8 5) s s' ps) (hl1 : ∀ r ∈ lf', r ∈ lf ∧ idR r ≠ BitVec.ofInt 16 (j : Nat)) (hl2 : ∀ r ∈ lf, idR r ≠ BitVec.ofInt 16 (j : Nat) → r ∈ lf') :
  datW ps ps.length = dat d j ∧ (pAt ps 0).2.2.2.1 = BitVec.ofInt 8 5 ∧ J d F (K + 1) lf' (T ++ [j]) s' := by
 obtain ⟨hk, -, s0, pre, e, post, x, hst, hk0, hs, he, hu, hA, hw, rfl⟩ := hG
 obtain ⟨o1, o2, o3, o4, o5, o6, o7, o8⟩ := set_of h hC hj hn hst hk0 hs he
 obtain ⟨-, p1, -⟩ := of_add (hC.cut j hj) o1 o2 o3 hc hA
 obtain ⟨w1, w2⟩ := whole_dat (hC.cut j hj) p1 hw
 exact ⟨w1, w2, j_told h hC hj hjT (dat_ne hC hj hc) hk o6 o7 hl1 hl2⟩
theorem j_plain {d : Dt} {F : Nat → List Cz} {K : Nat} {lf lf' : List Pr} {T : List Nat} {s s' : St} (h : J d F K lf T s) (hC : Cuts d F) {j : Nat} (hj : j < d.n) (hjT : j ∉ T) {c : Cz} (hc : c ∈ F j) (hm : c.2.2 = false) (ho : (mkR j c).2.2.2.2.2.2.2.1 = 0)
  (hk : OkS s') (hes : s'.es = s.es) (hl1 : ∀ r ∈ lf', r ∈ lf ∧ idR r ≠ BitVec.ofInt 16 (j : Nat)) (hl2 : ∀ r ∈ lf, idR r ≠ BitVec.ofInt 16 (j : Nat) → r ∈ lf') : mkR j c = tR d j ∧ J d F (K + 1) lf' (T ++ [j]) s' := by
 have h8 := hC.H.n8
 obtain ⟨o1, o2⟩ := hC.ok hj hc
 have c0 : c.1 = 0 := by
  have := place_mk hC hj hc
  rw [ho] at this
  have e : ((0 : BitVec 16).toNat : Int) = 0 := rfl
  rw [e] at this
  omega
 have hmm := o1.more
 rw [hm] at hmm
 have hnl : ¬ c.1 + c.2.1.length < (dat d j).length := of_decide_eq_false hmm.symm
 have cd : c.2.1 = dat d j := by
  have := o1.dat
  rw [c0, List.drop_zero] at this
  rw [this, List.take_of_length_le (by omega)]
 refine ⟨?_, j_told h hC hj hjT (dat_ne hC hj hc) hk (fun y hy => ?_) (fun y hy _ => by rw [hes]; exact hy) hl1 hl2⟩
 ·show (_, _, _, _, _, false, c.2.2, (mkR j c).2.2.2.2.2.2.2.1, c.2.1, ()) = _
  rw [ho, hm, cd]; rfl
 ·rw [hes] at hy
  refine ⟨hy, fun q => ?_⟩
  obtain ⟨i, a1, a2, a3, a4, a5, a6, a7, a8, a9, a10, a11⟩ := h.sets y hy
  obtain rfl : i = j := nm_inj (by omega) (by omega) (a4.symm.trans q)
  have all : ∀ c' ∈ F i, c' = c := fun c' hc' => by
   rcases cut_dis (hC.cut i hj) hc' hc with w | w | w
   ·exact w
   ·have := (hC.ok hj hc').1.pos; omega
   ·have := (hC.ok hj hc').1.pos
    have := (hC.ok hj hc').1.le
    omega
  have hin : pcZ c ∈ y.ps := by
   cases hp : y.ps with
   | nil => exact absurd hp a8
   | cons p l =>
    obtain ⟨c', hc', e⟩ := a5 p (by rw [hp]; exact List.mem_cons_self ..)
    rw [e, all c' hc']
    exact List.mem_cons_self ..
  have := all_whole (hC.cut i hj) a3 a5 a6 a7 (fun c' hc' => by rw [all c' hc']; exact hin)
  rw [a9] at this
  cases this
theorem j_end {d : Dt} {F : Nat → List Cz} {K : Nat} {T : List Nat} {s : St} (h : J d F K [] T s) (hC : Cuts d F) : (∀ i, i < d.n → dat d i ≠ [] → i ∈ T) ∧ s.es = [] := by
 have key : ∀ i, i < d.n → dat d i ≠ [] → i ∈ T := fun i hi hd => by
  by_cases hT : i ∈ T
  ·exact hT
  ·exfalso
   have hall := fun c hc => (h.all i hi hT c hc).resolve_left (fun q => by cases q)
   have hne : F i ≠ [] := fun q => by
    have := hC.cut i hi
    rw [q] at this
    have hl : (dat d i).length = 0 := by
     generalize hz : (dat d i).length = z at this
     generalize hL : ([] : List Cz) = L at this
     cases this with
     | nil => rfl
     | snoc z h ha hz he h8 => simp at hL
    exact hd (List.eq_nil_of_length_eq_zero hl)
   obtain ⟨c0, hc0⟩ := List.exists_mem_of_ne_nil _ hne
   obtain ⟨e, he, en, -⟩ := hall c0 hc0
   obtain ⟨j, a1, a2, a3, a4, a5, a6, a7, a8, a9, a10, a11⟩ := h.sets e he
   have h8 := hC.H.n8
   obtain rfl : i = j := nm_inj (by omega) (by omega) (en.symm.trans a4)
   have := all_whole (hC.cut i hi) hd a5 a6 a7 (fun c hc => by
    obtain ⟨y, hy, yn, hp⟩ := hall c hc
    obtain rfl : y = e := inj_map (·.nm) h.ok.nms hy he (yn.trans en.symm)
    exact hp)
   rw [a9] at this
   cases this
 refine ⟨key, ?_⟩
 cases he : s.es with
 | nil => rfl
 | cons e l =>
  obtain ⟨i, a1, a2, a3, -⟩ := h.sets e (by rw [he]; exact List.mem_cons_self ..)
  exact absurd (key i a1 a3) a2
theorem kpL_mem {lf : List Pr} {i0 : Int} {tw is : Bool} {r : Pv} {x : Pr} : ∀ {n : Nat}, x ∈ kpL lf i0 tw is r n ↔ ∃ b, b < n ∧ kpB lf i0 tw is r b = true ∧ x = gR lf b
 | 0 => ⟨fun h => (by cases h), fun ⟨b, hb, _⟩ => absurd hb (Nat.not_lt_zero _)⟩
 | n + 1 => by
  constructor
  ·intro h
   cases hk : kpB lf i0 tw is r n
   ·rw [kpL_no hk] at h
    obtain ⟨b, h1, h2, h3⟩ := kpL_mem.1 h
    exact ⟨b, by omega, h2, h3⟩
   ·rw [kpL_yes hk] at h
    rcases List.mem_append.1 h with q | q
    ·obtain ⟨b, h1, h2, h3⟩ := kpL_mem.1 q
     exact ⟨b, by omega, h2, h3⟩
    ·exact ⟨n, Nat.lt_succ_self n, hk, List.mem_singleton.1 q⟩
  ·rintro ⟨b, h1, h2, h3⟩
   rcases Nat.lt_or_ge b n with q | q
   ·have := kpL_mem.2 ⟨b, q, h2, h3⟩
    cases hk : kpB lf i0 tw is r n
    ·rw [kpL_no hk]; exact this
    ·rw [kpL_yes hk]; exact List.mem_append_left _ this
   ·obtain rfl : b = n := by omega
    rw [kpL_yes h2, h3]
    exact List.mem_append_right _ (List.mem_cons_self ..)
theorem kpL_lt {lf : List Pr} {i0 : Int} {tw is : Bool} {r : Pv} {b0 : Nat} (h0 : kpB lf i0 tw is r b0 = false) : ∀ {n : Nat}, b0 < n → (kpL lf i0 tw is r n).length < n
 | n + 1, h => by
  rcases Nat.lt_or_ge b0 n with q | q
  ·have := kpL_lt h0 q
   cases hk : kpB lf i0 tw is r n
   ·rw [kpL_no hk]; omega
   ·rw [kpL_yes hk, List.length_append]
    have e : [gR lf n].length = 1 := rfl
    omega
  ·obtain rfl : b0 = n := by omega
   have := kpL_len lf i0 tw is r b0
   rw [kpL_no h0]; omega
theorem gR_mem {lf : List Pr} {n b : Nat} (hn : n ≤ lf.length) (hb : b < n) : gR lf b ∈ lf.take n := by
 unfold gR
 rw [List.getD_eq_getElem?_getD, List.getElem?_eq_getElem (by omega)]
 exact List.mem_take_iff_getElem.2 ⟨b, by omega, rfl⟩
theorem gR_of {lf : List Pr} {n : Nat} {x : Pr} (hx : x ∈ lf.take n) : ∃ b, b < n ∧ x = gR lf b := by
 obtain ⟨b, hb, rfl⟩ := List.mem_take_iff_getElem.1 hx
 refine ⟨b, by omega, ?_⟩
 unfold gR
 rw [List.getD_eq_getElem?_getD, List.getElem?_eq_getElem (by omega)]; rfl
theorem keep_no {lf : List Pr} {n : Nat} {i0 : Nat} {tw : Bool} {r : Pv} (hn : n ≤ lf.length) : (∀ x ∈ kpL lf (i0 : Nat) tw false r n, x ∈ lf.take n) ∧ ∀ x ∈ lf.take n, x ∈ kpL lf (i0 : Nat) tw false r n ∨ x = gR lf i0 := by
 refine ⟨fun x hx => ?_, fun x hx => ?_⟩
 ·obtain ⟨b, h1, -, rfl⟩ := kpL_mem.1 hx
  exact gR_mem hn h1
 ·obtain ⟨b, hb, rfl⟩ := gR_of hx
  by_cases q : b = i0
  ·subst q; exact .inr rfl
  ·refine .inl (kpL_mem.2 ⟨b, hb, ?_, rfl⟩)
   show (bif ((b : Nat) : Int) != (i0 : Nat) then true else tw) = true
   have : (((b : Nat) : Int) != ((i0 : Nat) : Int)) = true := by rw [bne_iff_ne]; omega
   rw [this]; rfl
theorem keep_is {lf : List Pr} {n : Nat} {i0 : Int} {tw : Bool} {r : Pv} (hn : n ≤ lf.length) : (∀ x ∈ kpL lf i0 tw true r n, x ∈ lf.take n ∧ idR x ≠ r.2.2.2.2.1) ∧ ∀ x ∈ lf.take n, idR x ≠ r.2.2.2.2.1 → x ∈ kpL lf i0 tw true r n := by
 refine ⟨fun x hx => ?_, fun x hx hq => ?_⟩
 ·obtain ⟨b, h1, h2, rfl⟩ := kpL_mem.1 hx
  have h2 : ((gR lf b).2.2.2.2.1 != r.2.2.2.2.1) = true := h2
  exact ⟨gR_mem hn h1, by rw [bne_iff_ne] at h2; exact h2⟩
 ·obtain ⟨b, hb, rfl⟩ := gR_of hx
  refine kpL_mem.2 ⟨b, hb, ?_, rfl⟩
  show ((gR lf b).2.2.2.2.1 != r.2.2.2.2.1) = true
  rw [bne_iff_ne]; exact hq
end Go.Proofs.Ytggoncamiafclaa
