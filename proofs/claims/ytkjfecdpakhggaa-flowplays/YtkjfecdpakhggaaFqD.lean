/-
  flow: the program's Put and Read, from a queue's own place: contracts. No statement is proved here.
-/
import Derived.Test.YtkjfecdpakhggaaFqC
namespace Go.Proofs.Ytkjfecdpakhggaa
open Go.RowKit
set_option linter.unusedVariables false
set_option linter.unusedSimpArgs false
set_option maxRecDepth 100000

def KPu (p : QuP) (q : Qa) (sq : BitVec 32) (d : Tx) (fin : Bool) : SV → Mm → Prop := fun r M1 => r = .b (q.moved sq d fin) ∧ ∃ p', DescP M1 p' ∧ PQa p' (q.put sq d fin)
theorem descM0 (p : QuP) : DescP (M0p p) p := by
  unfold M0p
  cases hn : p.nl
  · exact ⟨.sl 2 p.off p.n p.cap, rfl, rfl, .inr ⟨hn, 2, Nat.le_refl _, rfl, rfl⟩⟩
  · exact ⟨.v (.slice none 0 0), rfl, rfl, .inl ⟨hn, rfl⟩⟩
theorem kpu_off {p : QuP} {q : Qa} (h : PQa p q) {sq : BitVec 32} {d : Tx} {fin : Bool} (ho : q.off d = true) : KPu p q sq d fin (.b false) (M0p p) := by
  refine ⟨?_, p, descM0 p, by rw [Qa.put_off ho]; exact h⟩
  unfold Qa.moved
  rw [Qa.put_off ho]
  simp
theorem kpu_on {p : QuP} {q : Qa} (h : PQa p q) {sq : BitVec 32} {d : Tx} {fin : Bool} (ho : q.off d = false) {tl : Bool} {en : BitVec 32} (hE : EnP tl en q.a (q.e1 sq d fin)) {clk : Nat} {es : List EntE} (hm : MapP (stM p.mp clk es) q.a (q.f1 sq d)) {k : Nat} (hk : k = cntA (q.f1 sq d)) {nl : Bool} {off n cap : Nat} {l : Tx} (hr : RdP { p with nl := nl, off := off, n := n, cap := cap, l := l } (q.rd ++ byA (q.f1 sq d) k)) {M1 : Mm}
    (hD : DescP M1 { p with a := nxE tl (q.a + BitVec.ofNat 32 k) en, en := en, tl := tl, ed := edE tl (q.a + BitVec.ofNat 32 k) en, clk := clk, es := (deS (stM p.mp clk es) q.a k).es, nl := nl, off := off, n := n, cap := cap, l := l }) : KPu p q sq d fin (.b (nxE tl (q.a + BitVec.ofNat 32 k) en != q.a)) M1 := by
  refine ⟨?_, _, hD, newP h ho hE hm hk hr⟩
  rw [(finP h.ok ho hE hk).2.1]
  rfl
theorem inQ_of {p : QuP} {q : Qa} (h : PQa p q) (hd : q.ed = false) : InQ p.z q.rd.length p.ed := by
  have h1 := h.ok.z1
  have h2 := h.ok.z2
  have h3 := h.ok.rl
  have h4 := h.z
  exact ⟨h.ed.trans hd, by omega, by omega, by omega⟩
theorem putN {p : QuP} {q : Qa} (h : PQa p q) (hn : p.nl = true) (sq : BitVec 32) (d : Tx) (fin : Bool) : Spec Try.prog G 18 [.ptr 0 0, .w32 sq, .s d, .b fin] (mN p.z p.a p.en p.tl p.ed p.mp p.clk p.es) (KPu p q sq d fin) := by
  have hM : M0p p = mN p.z p.a p.en p.tl p.ed p.mp p.clk p.es := by unfold M0p; rw [hn]; rfl
  have hoffK := fun ho => hM ▸ kpu_off (sq := sq) (d := d) (fin := fin) h ho
  have hz : (p.z == 0) = false := by
    have h1 := h.ok.z1
    have := h.z
    simp; omega
  obtain ⟨hrd, hn0⟩ := h.rd.nl hn
  have hrl : q.rd.length = 0 := by rw [hrd]; rfl
  refine vf_ok e5_ok mixed (noL_ok _ _ _ _) (of_eq (vPuN p.z p.a p.en p.tl p.ed p.mp p.clk p.es sq d fin (KPu p q sq d fin)) ?_)
  refine bifF (c := bif false then true else p.z == 0) hz ?_
  rcases bTF p.ed with c | c
  · exact bifT (c := bif false then true else p.ed) c (hoffK (by unfold Qa.off; rw [← h.ed, c]; rfl))
  refine bifF (c := bif false then true else p.ed) c ?_
  rcases bTF (ilt 65536 (d.length : Int)) with c2 | c2
  · exact bifT (c := bif false then true else ilt 65536 (d.length : Int)) c2 (hoffK (by unfold Qa.off; rw [decide_eq_true (by have := of_ilt c2; omega)]; simp))
  refine bifF (c := bif false then true else ilt 65536 (d.length : Int)) c2 ?_
  have hd : q.ed = false := h.ed.symm.trans c
  have hl : d.length ≤ 65536 := by have := of_nilt c2; omega
  have ho : q.off d = false := by unfold Qa.off; rw [hd, decide_eq_false (by omega)]; rfl
  have hQ : InQ p.z 0 p.ed := by have := inQ_of h hd; rw [hrl] at this; exact this
  have hE0 : EnP p.tl p.en q.a q.e := by rw [← h.a]; exact h.tl hd
  have hmap : MapP (stM p.mp p.clk p.es) q.a q.f := by rw [← h.a]; exact h.map
  have hrm := rmP h.ok hd h.z hE0
  have hhold := hmap.hold h.ok hd sq (rmQ p.z q.rd.length q.a p.en p.tl) d hl hrm
  rw [hrl] at hhold
  have hst := hoS_st q.a sq (rmQ p.z 0 q.a p.en p.tl) d p.mp p.clk p.es d.length
  have hfi := fun tl en (hE : EnP tl en q.a q.e) => fiP (sq := sq) h.ok ho h.z hE hhold
  rw [hst] at hhold
  rw [h.a]
  generalize (hoS q.a sq (rmQ p.z 0 q.a p.en p.tl) d (stM p.mp p.clk p.es) d.length).clk = clk at hhold ⊢
  generalize hes : (hoS q.a sq (rmQ p.z 0 q.a p.en p.tl) d (stM p.mp p.clk p.es) d.length).es = es at hhold hfi ⊢
  have hlen : es.length ≤ 65536 := by
    have h1 := hhold.len h.ok.win fun j hj => h.ok.f1w hd sq d j hj
    have h2 := heldA_le (q.f1 sq d) q.win
    have h3 := h.ok.win
    have : es.length = (stM p.mp clk es).len := rfl
    omega
  obtain ⟨hkn, hkw⟩ := h.ok.cnt hd sq d
  have hww := h.ok.win
  have last : ∀ (tl : Bool) (en : BitVec 32), EnP tl en q.a (q.e1 sq d fin) → ∀ k, NxS (stM p.mp clk es) q.a k → (k = 0 → KPu p q sq d fin (.b (nxE tl q.a en != q.a)) (mN p.z (nxE tl q.a en) en tl (edE tl q.a en) p.mp clk es)) ∧ (0 < k → ∀ off cap l, RdOk l off k cap (byS (stM p.mp clk es) q.a k) → KPu p q sq d fin (.b (nxE tl (q.a + BitVec.ofNat 32 k) en != q.a)) (mS p.z (nxE tl (q.a + BitVec.ofNat 32 k) en) en tl (edE tl (q.a + BitVec.ofNat 32 k) en) p.mp clk (deS (stM p.mp clk es) q.a k).es off k cap l)) := by
    intro tl en hE k hk
    have hkk : k = cntA (q.f1 sq d) := hhold.nx hk hkn (by omega)
    refine ⟨fun h0 => ?_, fun h0 off cap l hr => ?_⟩
    · subst h0
      have e0 : q.a + BitVec.ofNat 32 0 = q.a := by simp
      have := kpu_on (k := 0) (nl := true) (off := 0) (n := 0) (cap := 0) (l := []) (M1 := mN p.z (nxE tl q.a en) en tl (edE tl q.a en) p.mp clk es) h ho hE hhold hkk ⟨fun _ => ⟨(by rw [hrd]; rfl), rfl⟩, fun x => (by cases x)⟩ (by rw [e0]; exact ⟨_, rfl, rfl, .inl ⟨rfl, rfl⟩⟩)
      rw [e0] at this
      exact this
    · have hby : byS (stM p.mp clk es) q.a k = byA (q.f1 sq d) k := List.map_congr_left fun j hj => by
        rw [hhold.get j (by have := List.mem_range.1 hj; omega)]
      refine kpu_on (nl := false) (off := off) (n := k) (cap := cap) (l := l) h ho hE hhold hkk ⟨fun x => (by cases x), fun _ => ?_⟩ ⟨_, rfl, rfl, .inr ⟨rfl, 2, Nat.le_refl _, rfl, rfl⟩⟩
      rw [hrd, ← hby]; exact hr
  refine ⟨⟨hQ, hl⟩, ?_⟩
  cases fin
  · exact ⟨⟨c, hhold.ok, hlen⟩, last p.tl p.en (by
      have : q.e1 sq d false = q.e := by
        unfold Qa.e1
        cases q.e <;> rfl
      rw [this]; exact hE0)⟩
  · have := hfi p.tl p.en hE0
    rw [hrl] at this
    exact ⟨⟨hQ, hhold.ok⟩, ⟨c, hhold.ok, hlen⟩, last _ _ this⟩
theorem putS {p : QuP} {q : Qa} (h : PQa p q) (hn : p.nl = false) (sq : BitVec 32) (d : Tx) (fin : Bool) : Spec Try.prog G 18 [.ptr 0 0, .w32 sq, .s d, .b fin] (mS p.z p.a p.en p.tl p.ed p.mp p.clk p.es p.off p.n p.cap p.l) (KPu p q sq d fin) := by
  have hM : M0p p = mS p.z p.a p.en p.tl p.ed p.mp p.clk p.es p.off p.n p.cap p.l := by unfold M0p; rw [hn]; rfl
  have hoffK := fun ho => hM ▸ kpu_off (sq := sq) (d := d) (fin := fin) h ho
  have hz : (p.z == 0) = false := by
    have h1 := h.ok.z1
    have := h.z
    simp; omega
  have hrd := h.rd.sl hn
  have hrl := h.rd.n
  refine vf_ok e5_ok mixed (noL_ok _ _ _ _) (of_eq (vPuS p.z p.a p.en p.tl p.ed p.mp p.clk p.es p.off p.n p.cap p.l sq d fin (KPu p q sq d fin)) ?_)
  refine bifF (c := bif false then true else p.z == 0) hz ?_
  rcases bTF p.ed with c | c
  · exact bifT (c := bif false then true else p.ed) c (hoffK (by unfold Qa.off; rw [← h.ed, c]; rfl))
  refine bifF (c := bif false then true else p.ed) c ?_
  rcases bTF (ilt 65536 (d.length : Int)) with c2 | c2
  · exact bifT (c := bif false then true else ilt 65536 (d.length : Int)) c2 (hoffK (by unfold Qa.off; rw [decide_eq_true (by have := of_ilt c2; omega)]; simp))
  refine bifF (c := bif false then true else ilt 65536 (d.length : Int)) c2 ?_
  have hd : q.ed = false := h.ed.symm.trans c
  have hl : d.length ≤ 65536 := by have := of_nilt c2; omega
  have ho : q.off d = false := by unfold Qa.off; rw [hd, decide_eq_false (by omega)]; rfl
  have hQ : InQ p.z p.n p.ed := by rw [hrl]; exact inQ_of h hd
  have hE0 : EnP p.tl p.en q.a q.e := by rw [← h.a]; exact h.tl hd
  have hmap : MapP (stM p.mp p.clk p.es) q.a q.f := by rw [← h.a]; exact h.map
  have hrm := rmP h.ok hd h.z hE0
  have hhold := hmap.hold h.ok hd sq (rmQ p.z q.rd.length q.a p.en p.tl) d hl hrm
  rw [← hrl] at hhold
  have hst := hoS_st q.a sq (rmQ p.z p.n q.a p.en p.tl) d p.mp p.clk p.es d.length
  have hfi := fun tl en (hE : EnP tl en q.a q.e) => fiP (sq := sq) h.ok ho h.z hE hhold
  rw [← hrl] at hfi
  rw [hst] at hhold
  rw [h.a]
  generalize (hoS q.a sq (rmQ p.z p.n q.a p.en p.tl) d (stM p.mp p.clk p.es) d.length).clk = clk at hhold ⊢
  generalize hes : (hoS q.a sq (rmQ p.z p.n q.a p.en p.tl) d (stM p.mp p.clk p.es) d.length).es = es at hhold hfi ⊢
  have hlen : es.length ≤ 65536 := by
    have h1 := hhold.len h.ok.win fun j hj => h.ok.f1w hd sq d j hj
    have h2 := heldA_le (q.f1 sq d) q.win
    have h3 := h.ok.win
    have : es.length = (stM p.mp clk es).len := rfl
    omega
  obtain ⟨hkn, hkw⟩ := h.ok.cnt hd sq d
  have hww := h.ok.win
  have hn6 : p.n ≤ 65536 := by
    have h1 := h.ok.rl
    have h2 := h.ok.z2
    omega
  have last : ∀ (tl : Bool) (en : BitVec 32), EnP tl en q.a (q.e1 sq d fin) → ∀ k, NxS (stM p.mp clk es) q.a k → (k = 0 → KPu p q sq d fin (.b (nxE tl q.a en != q.a)) (mS p.z (nxE tl q.a en) en tl (edE tl q.a en) p.mp clk es p.off p.n p.cap p.l)) ∧ (0 < k → ∀ off cap l, RdOk l off (p.n + k) cap ((p.l.drop p.off).take p.n ++ byS (stM p.mp clk es) q.a k) → KPu p q sq d fin (.b (nxE tl (q.a + BitVec.ofNat 32 k) en != q.a)) (mG p.z (nxE tl (q.a + BitVec.ofNat 32 k) en) en tl (edE tl (q.a + BitVec.ofNat 32 k) en) p.mp clk (deS (stM p.mp clk es) q.a k).es off (p.n + k) cap l)) := by
    intro tl en hE k hk
    have hkk : k = cntA (q.f1 sq d) := hhold.nx hk hkn (by omega)
    refine ⟨fun h0 => ?_, fun h0 off cap l hr => ?_⟩
    · subst h0
      have e0 : q.a + BitVec.ofNat 32 0 = q.a := by simp
      have := kpu_on (k := 0) (nl := false) (off := p.off) (n := p.n) (cap := p.cap) (l := p.l) (M1 := mS p.z (nxE tl q.a en) en tl (edE tl q.a en) p.mp clk es p.off p.n p.cap p.l) h ho hE hhold hkk ⟨fun x => (by cases x), fun _ => (by
        have : q.rd ++ byA (q.f1 sq d) 0 = q.rd := List.append_nil _
        rw [this]; exact hrd)⟩ (by rw [e0]; exact ⟨_, rfl, rfl, .inr ⟨rfl, 2, Nat.le_refl _, rfl, rfl⟩⟩)
      rw [e0] at this
      exact this
    · have hby : byS (stM p.mp clk es) q.a k = byA (q.f1 sq d) k := List.map_congr_left fun j hj => by
        rw [hhold.get j (by have := List.mem_range.1 hj; omega)]
      refine kpu_on (nl := false) (off := off) (n := p.n + k) (cap := cap) (l := l) h ho hE hhold hkk ⟨fun x => (by cases x), fun _ => ?_⟩ ⟨_, rfl, rfl, .inr ⟨rfl, 3, by omega, rfl, rfl⟩⟩
      rw [hby, hrd.eq] at hr
      exact hr
  refine ⟨⟨hQ, hl⟩, ?_⟩
  cases fin
  · exact ⟨⟨c, hhold.ok, hlen, hn6, hrd.fit, hrd.len⟩, last p.tl p.en (by
      have : q.e1 sq d false = q.e := by
        unfold Qa.e1
        cases q.e <;> rfl
      rw [this]; exact hE0)⟩
  · exact ⟨⟨hQ, hhold.ok⟩, ⟨c, hhold.ok, hlen, hn6, hrd.fit, hrd.len⟩, last _ _ (hfi p.tl p.en hE0)⟩
theorem put_sp {p : QuP} {q : Qa} (h : PQa p q) (sq : BitVec 32) (d : Tx) (fin : Bool) : Spec Try.prog G 18 [.ptr 0 0, .w32 sq, .s d, .b fin] (M0p p) (KPu p q sq d fin) := by
  unfold M0p
  cases hn : p.nl
  · exact putS h hn sq d fin
  · exact putN h hn sq d fin
end Go.Proofs.Ytkjfecdpakhggaa
namespace Go.Proofs.Ytkjfecdpakhggaa
open Go.RowKit
set_option linter.unusedVariables false
set_option linter.unusedSimpArgs false
set_option maxRecDepth 100000

def KRd (p : QuP) (q : Qa) (m : Int) : SV → Mm → Prop := fun r M1 => r = .s (q.told m) ∧ ∃ p', DescP M1 p' ∧ PQa p' (q.read m)
theorem readP {p : QuP} {q : Qa} (h : PQa p q) (m : Int) {nl : Bool} {off n cap : Nat} {l : Tx} (hr : RdP { p with nl := nl, off := off, n := n, cap := cap, l := l } (q.read m).rd) : PQa { p with nl := nl, off := off, n := n, cap := cap, l := l } (q.read m) := ⟨h.ok.read m, h.z, h.a, h.ed, hr, h.map, h.tl⟩
theorem rdN_0 {m : Int} (h : m < 1) (n : Nat) : rdN m n = 0 := by
  unfold rdN
  have : m.toNat = 0 := by omega
  rw [this]; exact Nat.zero_min _
theorem krd_0 {p : QuP} {q : Qa} (h : PQa p q) {m : Int} (hm : rdN m q.rd.length = 0) : KRd p q m (.s []) (M0p p) := by
  refine ⟨?_, p, descM0 p, ?_⟩
  · unfold Qa.told
    rw [hm]; rfl
  · have : q.read m = q := by
      unfold Qa.read
      rw [hm]; rfl
    rw [this]; exact h
theorem readN {p : QuP} {q : Qa} (h : PQa p q) (hn : p.nl = true) (m : Int) : Spec Try.prog G 16 [.ptr 0 0, .i m] (mN p.z p.a p.en p.tl p.ed p.mp p.clk p.es) (KRd p q m) := by
  have hM : M0p p = mN p.z p.a p.en p.tl p.ed p.mp p.clk p.es := by unfold M0p; rw [hn]; rfl
  obtain ⟨hrd, hn0⟩ := h.rd.nl hn
  have hoffK := hM ▸ krd_0 h (m := m) (by rw [hrd]; exact Nat.min_zero _)
  have hz : (p.z == 0) = false := by
    have h1 := h.ok.z1
    have := h.z
    simp; omega
  refine vf_ok e6_ok mixed (noL_ok _ _ _ _) (of_eq (vRdN p.z p.a p.en p.tl p.ed p.mp p.clk p.es m (KRd p q m)) ?_)
  refine bifF (c := bif false then true else p.z == 0) hz ?_
  rcases bTF (ilt m 1) with c | c
  · exact bifT (c := bif false then true else ilt m 1) c hoffK
  refine bifF (c := bif false then true else ilt m 1) c ?_
  have hc := of_nilt c
  have e : (bif ilt 0 m then (0 : Int) else m) = 0 := by
    have : ilt 0 m = true := by rw [ilt_eq]; exact decide_eq_true (by omega)
    rw [this]; rfl
  rw [e]
  exact bif_of rfl (bif_of rfl hoffK)
theorem readS {p : QuP} {q : Qa} (h : PQa p q) (hn : p.nl = false) (m : Int) : Spec Try.prog G 16 [.ptr 0 0, .i m] (mS p.z p.a p.en p.tl p.ed p.mp p.clk p.es p.off p.n p.cap p.l) (KRd p q m) := by
  have hM : M0p p = mS p.z p.a p.en p.tl p.ed p.mp p.clk p.es p.off p.n p.cap p.l := by unfold M0p; rw [hn]; rfl
  have hr := h.rd.sl hn
  have hrl := h.rd.n
  have hoffK := fun hm => hM ▸ krd_0 h (m := m) hm
  have hz : (p.z == 0) = false := by
    have h1 := h.ok.z1
    have := h.z
    simp; omega
  refine vf_ok e6_ok mixed (noL_ok _ _ _ _) (of_eq (vRdS p.z p.a p.en p.tl p.ed p.mp p.clk p.es p.off p.n p.cap p.l m (KRd p q m)) ?_)
  refine bifF (c := bif false then true else p.z == 0) hz ?_
  rcases bTF (ilt m 1) with c | c
  · exact bifT (c := bif false then true else ilt m 1) c (hoffK (rdN_0 (of_ilt c) _))
  refine bifF (c := bif false then true else ilt m 1) c ?_
  have hc := of_nilt c
  obtain ⟨k, hk⟩ : ∃ k, k = rdN m q.rd.length := ⟨_, rfl⟩
  have e : (bif ilt ((p.n : Nat) : Int) m then ((p.n : Nat) : Int) else m) = ((k : Nat) : Int) := by
    rw [ilt_eq, hk, ← hrl]
    unfold rdN
    by_cases g : ((p.n : Nat) : Int) < m
    · rw [decide_eq_true g, cond_true]; omega
    · rw [decide_eq_false g, cond_false]; omega
  have hkn : k ≤ p.n := by rw [hk, hrl]; exact Nat.min_le_right _ _
  have hf := hr.fit
  have hl := hr.len
  rw [e]
  simp only [Int.toNat_natCast]
  have b1 : (ile 0 ((k : Nat) : Int) && ile ((k : Nat) : Int) ((k : Nat) : Int) && ile ((k : Nat) : Int) ((p.cap : Nat) : Int)) = true := by
    rw [ile_eq, ile_eq, ile_eq, decide_eq_true (by omega), decide_eq_true (by omega), decide_eq_true (by omega)]; rfl
  have b2 : (ile 0 ((k : Nat) : Int) && ile ((k : Nat) : Int) ((p.n : Nat) : Int) && ile ((p.n : Nat) : Int) ((p.cap : Nat) : Int)) = true := by
    rw [ile_eq, ile_eq, ile_eq, decide_eq_true (by omega), decide_eq_true (by omega), decide_eq_true (by omega)]; rfl
  refine bif_of b1 (bif_of b2 ?_)
  have b3 : decide (p.off + k ≤ p.l.length) = true := decide_eq_true (by omega)
  have hans : SV.s ((p.l.drop p.off).take k) = .s (q.told m) := by
    unfold Qa.told
    rw [← hk, ← hr.eq, List.take_take, Nat.min_eq_left hkn]
  have hrd : (q.read m).rd = q.rd.drop k := by rw [hk]; rfl
  rcases bTF (((p.n - k : Nat) : Int) == 0) with c2 | c2
  · have hkk : k = p.n := by have : ((p.n - k : Nat) : Int) = 0 := by simpa using c2
                             omega
    refine bifT c2 (bif_of b3 ⟨hans, { p with nl := true, off := 0, n := 0, cap := 0, l := [] }, ⟨_, rfl, rfl, .inl ⟨rfl, rfl⟩⟩, readP (p := p) (nl := true) (off := 0) (n := 0) (cap := 0) (l := []) h m ⟨fun _ => ⟨?_, rfl⟩, fun x => (by cases x)⟩⟩)
    rw [hrd, hkk, hrl]; exact List.drop_length
  · have hkk : k < p.n := by
      have : ¬ ((p.n - k : Nat) : Int) = 0 := by simpa using c2
      omega
    have b4 : ilt ((k : Nat) : Int) ((p.cap : Nat) : Int) = true := by rw [ilt_eq]; exact decide_eq_true (by omega)
    rw [b4, cond_true]
    refine bifF c2 (bif_of b3 ⟨hans, { p with nl := false, off := k + p.off, n := p.n - k, cap := p.cap - k, l := p.l }, ⟨_, rfl, rfl, .inr ⟨rfl, 2, Nat.le_refl _, rfl, rfl⟩⟩, readP (p := p) (nl := false) (off := k + p.off) (n := p.n - k) (cap := p.cap - k) (l := p.l) h m ⟨fun x => (by cases x), fun _ => ⟨?_, ?_, ?_⟩⟩⟩)
    · show p.n - k ≤ p.cap - k
      omega
    · show k + p.off + (p.cap - k) ≤ p.l.length
      omega
    · show (p.l.drop (k + p.off)).take (p.n - k) = _
      rw [hrd, ← hr.eq, List.drop_take, List.drop_drop, Nat.add_comm]
theorem read_sp {p : QuP} {q : Qa} (h : PQa p q) (m : Int) : Spec Try.prog G 16 [.ptr 0 0, .i m] (M0p p) (KRd p q m) := by
  unfold M0p
  cases hn : p.nl
  · exact readS h hn m
  · exact readN h hn m
end Go.Proofs.Ytkjfecdpakhggaa
