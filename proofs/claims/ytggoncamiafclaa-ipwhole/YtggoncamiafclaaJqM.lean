/-
  ip: texts that are cut, and what pieces of one make. No statement is proved here.
-/
import Derived.Test.YtggoncamiafclaaJpB
namespace Go.Proofs.Ytggoncamiafclaa
open Go.RowKit
set_option linter.unusedVariables false
set_option linter.unusedSimpArgs false
set_option maxRecDepth 100000
abbrev Cz : Type := Nat × Tx × Bool
def czOf (d : Tx) (a z : Nat) : Cz := (a, (d.drop a).take z, decide (a + z < d.length))
inductive Cut (d : Tx) : Nat → List Cz → Prop
 | nil : Cut d 0 []
 | snoc {a : Nat} {L : List Cz} (z : Nat) (h : Cut d a L) (ha : a < d.length) (hz : 0 < z) (he : a + z ≤ d.length) (h8 : a + z < d.length → z % 8 = 0) : Cut d (a + z) (L ++ [czOf d a z])
structure CzOk (d : Tx) (c : Cz) : Prop where
 h8 : c.1 % 8 = 0
 dat : c.2.1 = (d.drop c.1).take c.2.1.length
 pos : 0 < c.2.1.length
 le : c.1 + c.2.1.length ≤ d.length
 more : c.2.2 = decide (c.1 + c.2.1.length < d.length)
 m8 : c.2.2 = true → c.2.1.length % 8 = 0
theorem cz_len {d : Tx} {a z : Nat} (h : a + z ≤ d.length) : (czOf d a z).2.1.length = z := by
 unfold czOf
 simp only [List.length_take, List.length_drop]
 omega
theorem czs_ok {d : Tx} {a : Nat} {L : List Cz} (h : Cut d a L) : (a < d.length → a % 8 = 0) ∧ a ≤ d.length ∧ ∀ c ∈ L, CzOk d c ∧ c.1 + c.2.1.length ≤ a := by
 induction h with
 | nil => exact ⟨fun _ => rfl, Nat.zero_le _, fun c hc => by cases hc⟩
 | @snoc a L z h ha hz he h8 ih =>
  obtain ⟨h1, h2, h3⟩ := ih
  have hl := cz_len he
  refine ⟨fun hq => ?_, he, fun c hc => ?_⟩
  ·have := h1 ha
   have := h8 hq
   omega
  ·rcases List.mem_append.1 hc with hc | hc
   ·obtain ⟨g1, g2⟩ := h3 c hc
    exact ⟨g1, by omega⟩
   ·obtain rfl := List.mem_singleton.1 hc
    refine ⟨⟨h1 ha, ?_, by rw [hl]; exact hz, by rw [hl]; exact he, by rw [hl]; rfl, fun hm => ?_⟩, by rw [hl]; exact Nat.le_refl _⟩
    ·rw [hl]; rfl
    ·rw [hl]; exact h8 (of_decide_eq_true hm)
theorem cut_pw {d : Tx} {a : Nat} {L : List Cz} (h : Cut d a L) : L.Pairwise fun x y => x.1 + x.2.1.length ≤ y.1 := by
 induction h with
 | nil => exact List.Pairwise.nil
 | @snoc a L z h ha hz he h8 ih =>
  refine List.pairwise_append.2 ⟨ih, List.pairwise_singleton .., fun x hx y hy => ?_⟩
  obtain rfl := List.mem_singleton.1 hy
  exact ((czs_ok h).2.2 x hx).2
def pcZ (c : Cz) : Pc := ((c.1 : Int), c.2.1, c.2.2, BitVec.ofInt 8 5, ())
theorem pcZ_inj {c c' : Cz} (h : pcZ c = pcZ c') : c = c' := by
 obtain ⟨a, m, b⟩ := c
 obtain ⟨a', m', b'⟩ := c'
 unfold pcZ at h
 simp only [Prod.mk.injEq, and_true, Int.natCast_inj] at h
 obtain ⟨rfl, rfl, rfl⟩ := h
 rfl
theorem cut_dis {d : Tx} {a : Nat} {L : List Cz} (h : Cut d a L) {x y : Cz} (hx : x ∈ L) (hy : y ∈ L) : x = y ∨ x.1 + x.2.1.length ≤ y.1 ∨ y.1 + y.2.1.length ≤ x.1 := by
 have hp := cut_pw h
 obtain ⟨i, hi, rfl⟩ := List.getElem_of_mem hx
 obtain ⟨j, hj, rfl⟩ := List.getElem_of_mem hy
 rw [List.pairwise_iff_getElem] at hp
 rcases Nat.lt_trichotomy i j with q | q | q
 ·exact .inr (.inl (hp i j hi hj q))
 ·subst q; exact .inl rfl
 ·exact .inr (.inr (hp j i hj hi q))
theorem cut_one {d : Tx} {a : Nat} {L : List Cz} (h : Cut d a L) {x y : Cz} (hx : x ∈ L) (hy : y ∈ L) (he : x.1 = y.1) : x = y := by
 rcases cut_dis h hx hy with q | q | q
 ·exact q
 ·have := ((czs_ok h).2.2 x hx).1.pos; omega
 ·have := ((czs_ok h).2.2 y hy).1.pos; omega
def Of (C : List Cz) (ps : List Pc) : Prop := ∀ p ∈ ps, ∃ c ∈ C, p = pcZ c
theorem of_fits {d : Tx} {a : Nat} {C : List Cz} (h : Cut d a C) {ps : List Pc} (ho : Of C ps) (hn : ps.Nodup) (hs : upP ps) : Fits ps := fun k hk => by
 have hk' : k < ps.length := by omega
 rw [List.getD_eq_getElem?_getD, List.getD_eq_getElem?_getD, List.getElem?_eq_getElem hk', List.getElem?_eq_getElem hk]
 show fit2 ps[k] ps[k + 1] = true
 have h1 : ps[k].1 ≤ ps[k + 1].1 := List.pairwise_iff_getElem.1 hs k (k + 1) hk' hk (Nat.lt_succ_self k)
 have h2 : ps[k] ≠ ps[k + 1] := List.pairwise_iff_getElem.1 hn k (k + 1) hk' hk (Nat.lt_succ_self k)
 obtain ⟨x, hx, e1⟩ := ho _ (List.getElem_mem hk')
 obtain ⟨y, hy, e2⟩ := ho _ (List.getElem_mem hk)
 rw [e1, e2] at h1 h2 ⊢
 have h1 : (x.1 : Int) ≤ (y.1 : Int) := h1
 have hxo := ((czs_ok h).2.2 x hx).1
 have hyo := ((czs_ok h).2.2 y hy).1
 have p1 := hxo.pos
 have p2 := hyo.pos
 have le : x.1 + x.2.1.length ≤ y.1 := by
  rcases cut_dis h hx hy with q | q | q
  ·subst q; exact absurd rfl h2
  ·exact q
  ·omega
 show fitP (x.1 : Int) x.2.1 x.2.2 (y.1 : Int) = true
 unfold fitP
 have l2 := hyo.le
 rw [hxo.more, decide_eq_true (by omega), cond_true]
 exact ile_of (by omega)
theorem of_any {d : Tx} {a : Nat} {C : List Cz} (h : Cut d a C) {ps : List Pc} (ho : Of C ps) {c : Cz} (hc : c ∈ C) : ps.any (pcq (c.1 : Int) c.2.1 c.2.2) = decide (pcZ c ∈ ps) := by
 rw [Bool.eq_iff_iff, List.any_eq_true, decide_eq_true_iff]
 constructor
 ·rintro ⟨p, hp, hq⟩
  obtain ⟨x, hx, rfl⟩ := ho p hp
  have : c.1 = x.1 := by
   unfold pcq sameP at hq
   cases e : ((c.1 : Int) == (pcZ x).1)
   ·rw [e] at hq; cases hq
   ·have := eq_of_beq e
    have : (c.1 : Int) = (x.1 : Int) := this
    omega
  rw [cut_one h hc hx this]; exact hp
 ·intro hp
  refine ⟨_, hp, ?_⟩
  unfold pcq sameP
  show (bif bif ((c.1 : Int)) == (c.1 : Int) then c.2.2 == c.2.2 else false then c.2.1 == c.2.1 else false) = true
  rw [beq_self_eq_true, beq_self_eq_true, beq_self_eq_true]; rfl
theorem of_add {d : Tx} {a : Nat} {C : List Cz} (h : Cut d a C) {ps ps' : List Pc} {c : Cz} {z : Int} (ho : Of C ps) (hn : ps.Nodup) (hs : upP ps) (hc : c ∈ C) (hA : AddP ps (c.1 : Int) c.2.1 c.2.2 (BitVec.ofInt 8 5) ps' z) : z = 0 ∧ Of C ps' ∧ ps'.Nodup ∧ upP ps' ∧ (∀ p ∈ ps, p ∈ ps') ∧ pcZ c ∈ ps' ∧ ps' ≠ [] := by
 rcases hA with ⟨h1, rfl, rfl⟩ | ⟨h1, h2, h3, h4⟩
 ·rw [of_any h ho hc] at h1
  have := of_decide_eq_true h1
  exact ⟨rfl, ho, hn, hs, fun p hp => hp, this, List.ne_nil_of_mem this⟩
 ·rw [of_any h ho hc] at h1
  have h1 := of_decide_eq_false h1
  have ho' : Of C ps' := fun p hp => by
   rcases List.mem_append.1 (h2.mem_iff.1 hp) with q | q
   ·exact ho p q
   ·obtain rfl := List.mem_singleton.1 q; exact ⟨c, hc, rfl⟩
  have hn' : ps'.Nodup := h2.nodup_iff.2 (List.nodup_append.2 ⟨hn, by simp, fun x hx y hy q => by
   obtain rfl := List.mem_singleton.1 hy
   subst q
   exact h1 hx⟩)
  have hm : pcZ c ∈ ps' := h2.mem_iff.2 (List.mem_append_right _ (List.mem_cons_self ..))
  have hf := of_fits h ho' hn' h3
  refine ⟨?_, ho', hn', h3, fun p hp => h2.mem_iff.2 (List.mem_append_left _ hp), hm, List.ne_nil_of_mem hm⟩
  rcases h4 with ⟨-, h4⟩ | ⟨h4, -⟩
  ·exact h4
  ·exact absurd hf h4
theorem pAt_get {l : List Pc} {k : Nat} (h : k < l.length) : pAt l k = l[k] := by
 unfold pAt
 rw [List.getD_eq_getElem?_getD, List.getElem?_eq_getElem h]; rfl
theorem good_dat {d : Tx} {a : Nat} {C : List Cz} (h : Cut d a C) {ps : List Pc} (ho : Of C ps) : ∀ k, k ≤ ps.length → goodW ps k = true → endW ps k = ((datW ps k).length : Int) ∧ datW ps k = d.take (datW ps k).length
 | 0, _, _ => ⟨rfl, rfl⟩
 | k + 1, hk, hg => by
  obtain ⟨g1, g2⟩ := (Bool.and_eq_true _ _).mp hg
  obtain ⟨h1, h2⟩ := good_dat h ho k (by omega) g1
  have g2 := eq_of_beq g2
  obtain ⟨c, hc, e⟩ := ho _ (List.getElem_mem (show k < ps.length by omega))
  rw [← pAt_get] at e
  have hco := ((czs_ok h).2.2 c hc).1
  rw [e] at g2
  have g2 : (c.1 : Int) = endW ps k := g2
  have e3 : c.1 = (datW ps k).length := by omega
  have el : (datW ps (k + 1)).length = (datW ps k).length + c.2.1.length := by
   show (datW ps k ++ (pAt ps k).2.1).length = _
   rw [e, List.length_append]; rfl
  constructor
  ·rw [el]
   show endP (pAt ps k) = _
   rw [e]
   show (c.1 : Int) + (c.2.1.length : Nat) = _
   omega
  ·rw [el]
   show datW ps k ++ (pAt ps k).2.1 = _
   rw [e]
   show datW ps k ++ c.2.1 = _
   have h4 := hco.dat
   rw [e3] at h4
   conv => lhs; rw [h4, h2]
   rw [List.length_take, List.take_add]
   have : min (datW ps k).length d.length = (datW ps k).length := by have := hco.le; omega
   rw [this]
theorem whole_dat {d : Tx} {a : Nat} {C : List Cz} (h : Cut d a C) {ps : List Pc} (ho : Of C ps) (hw : wholeP ps ps.length = true) : datW ps ps.length = d ∧ (pAt ps 0).2.2.2.1 = BitVec.ofInt 8 5 := by
 obtain ⟨g1, g2⟩ := (Bool.and_eq_true _ _).mp hw
 obtain ⟨h1, h2⟩ := good_dat h ho _ (Nat.le_refl _) g1
 cases hp : ps with
 | nil => rw [hp] at g2; cases g2
 | cons p l =>
  have hl : 0 < ps.length := by rw [hp]; simp
  obtain ⟨n, hn⟩ : ∃ n, ps.length = n + 1 := ⟨ps.length - 1, by omega⟩
  obtain ⟨c, hc, e⟩ := ho _ (List.getElem_mem (show n < ps.length by omega))
  rw [← pAt_get] at e
  have hco := ((czs_ok h).2.2 c hc).1
  obtain ⟨c0, hc0, e0⟩ := ho _ (List.getElem_mem hl)
  rw [← pAt_get] at e0
  rw [hn] at h1 g2
  have g2 : (!(pAt ps n).2.2.1) = true := g2
  rw [e] at g2
  have g2 : (!c.2.2) = true := g2
  rw [hco.more] at g2
  have h1 : endP (pAt ps n) = _ := h1
  rw [e] at h1
  have h1 : (c.1 : Int) + (c.2.1.length : Nat) = ((datW ps (n + 1)).length : Int) := h1
  have g3 : ¬ c.1 + c.2.1.length < d.length := by simpa using g2
  have := hco.le
  rw [← hp]
  refine ⟨?_, by rw [e0]; rfl⟩
  rw [h2, hn, List.take_of_length_le (by omega)]
theorem cut_good {d : Tx} {a : Nat} {L : List Cz} (h : Cut d a L) : ∀ R : List Pc, goodW (L.map pcZ ++ R) L.length = true ∧ endW (L.map pcZ ++ R) L.length = (a : Int) ∧ (L ≠ [] → moreW (L.map pcZ ++ R) L.length = decide (a < d.length)) := by
 induction h with
 | nil => exact fun R => ⟨rfl, rfl, fun q => absurd rfl q⟩
 | @snoc a L z h ha hz he h8 ih =>
  intro R
  rw [List.map_append, List.append_assoc]
  obtain ⟨h1, h2, -⟩ := ih ([czOf d a z].map pcZ ++ R)
  have hl : (L ++ [czOf d a z]).length = L.length + 1 := by simp
  have hp : pAt (L.map pcZ ++ ([czOf d a z].map pcZ ++ R)) L.length = pcZ (czOf d a z) := by
   unfold pAt
   rw [List.getD_eq_getElem?_getD, List.getElem?_append_right (by simp)]
   simp
  rw [hl]
  refine ⟨?_, ?_, fun _ => ?_⟩
  ·show (goodW _ L.length && ((pAt _ L.length).1 == endW _ L.length)) = true
   rw [h1, h2, hp]
   exact beq_self_eq_true _
  ·show endP (pAt _ L.length) = _
   rw [hp]
   show (a : Int) + ((czOf d a z).2.1.length : Nat) = _
   rw [cz_len he]; omega
  ·show (pAt _ L.length).2.2.1 = _
   rw [hp]; rfl
theorem sorted_eq {d : Tx} {a : Nat} {C : List Cz} (h : Cut d a C) : ∀ (L : List Cz) (ps : List Pc), L.Sublist C → (L.map pcZ).Perm ps → upP ps → ps = L.map pcZ
 | [], ps, _, hp, _ => by
  have := hp.symm.eq_nil
  exact this
 | c :: L, [], _, hp, _ => by have := hp.length_eq; simp at this
 | c :: L, p :: ps, hs, hp, hu => by
  have hc : c ∈ C := hs.subset (List.mem_cons_self ..)
  have hpw := (cut_pw h).sublist hs
  have e : p = pcZ c := by
   have hm : p ∈ (c :: L).map pcZ := hp.mem_iff.2 (List.mem_cons_self ..)
   obtain ⟨x, hx, rfl⟩ := List.mem_map.1 hm
   rcases List.mem_cons.1 hx with rfl | hx
   ·rfl
   ·have h1 := (List.pairwise_cons.1 hpw).1 x hx
    have hcp := ((czs_ok h).2.2 c hc).1.pos
    have hm2 : pcZ c ∈ pcZ x :: ps := hp.mem_iff.1 (List.mem_map.2 ⟨c, List.mem_cons_self .., rfl⟩)
    rcases List.mem_cons.1 hm2 with q | q
    ·exact q.symm
    ·have h2 : (x.1 : Int) ≤ (c.1 : Int) := (List.pairwise_cons.1 hu).1 _ q
     omega
  subst e
  have hp' : (L.map pcZ).Perm ps := (List.perm_cons _).1 hp
  rw [sorted_eq h L ps ((List.sublist_cons_self ..).trans hs) hp' (List.pairwise_cons.1 hu).2]
  rfl
theorem all_whole {d : Tx} {C : List Cz} (h : Cut d d.length C) (hd : d ≠ []) {ps : List Pc} (ho : Of C ps) (hn : ps.Nodup) (hu : upP ps) (ha : ∀ c ∈ C, pcZ c ∈ ps) : wholeP ps ps.length = true := by
 have hnC : C.Nodup := (cut_pw h).imp_of_mem fun {x y} hx hy hxy e => by
  subst e
  have := ((czs_ok h).2.2 x hx).1.pos
  omega
 have hnM : (C.map pcZ).Nodup := List.Pairwise.map _ (fun x y hxy q => hxy (pcZ_inj q)) hnC
 have hp : (C.map pcZ).Perm ps := by
  refine (List.perm_ext_iff_of_nodup hnM hn).2 fun p => ⟨fun hp => ?_, fun hp => ?_⟩
  ·obtain ⟨c, hc, rfl⟩ := List.mem_map.1 hp
   exact ha c hc
  ·obtain ⟨c, hc, rfl⟩ := ho p hp
   exact List.mem_map.2 ⟨c, hc, rfl⟩
 rw [sorted_eq h C ps (List.Sublist.refl _) hp hu]
 obtain ⟨h1, h2, h3⟩ := cut_good h []
 rw [List.append_nil] at h1 h2 h3
 have hC : C ≠ [] := fun q => by
  subst q
  cases hq : d with
  | nil => exact hd hq
  | cons x l =>
   have h2 : (0 : Int) = (d.length : Int) := h2
   rw [hq] at h2
   simp at h2
   omega
 unfold wholeP
 rw [List.length_map, h1, h3 hC, decide_eq_false (by omega)]
 rfl
end Go.Proofs.Ytggoncamiafclaa
