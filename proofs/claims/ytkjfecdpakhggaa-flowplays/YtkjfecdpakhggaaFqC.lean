/-
  flow: the program's Put and Read, from a queue's own place. No statement is proved here.
-/
import Derived.Test.YtkjfecdpakhggaaFqB
namespace Go.Proofs.Ytkjfecdpakhggaa
open Go.RowKit
set_option linter.unusedVariables false
set_option linter.unusedSimpArgs false
set_option maxRecDepth 100000

theorem e5_ok : EnvOk Try.prog E5 := { T := t0_ok, C := CT.add_ok (CT.add_ok (CT.add_ok (CT.add_ok (noC_ok _ _) (inl_ok e0_ok rfl _)) ho_ok) fi_ok) ad_ok, H := hMp_ok _ }
structure RdP (p : QuP) (rd : Tx) : Prop where
  nl : p.nl = true → rd = [] ∧ p.n = 0
  sl : p.nl = false → RdOk p.l p.off p.n p.cap rd
/-- The program's queue stands for that one. -/
structure PQa (p : QuP) (q : Qa) : Prop where
  ok : q.Ok
  z : p.z = ((q.z : Nat) : Int)
  a : p.a = q.a
  ed : p.ed = q.ed
  rd : RdP p q.rd
  map : MapP (stM p.mp p.clk p.es) p.a q.f
  tl : q.ed = false → EnP p.tl p.en p.a q.e
theorem RdP.n {p : QuP} {rd : Tx} (h : RdP p rd) : p.n = rd.length := by
  cases hn : p.nl
  · obtain ⟨h1, h2, h3⟩ := h.sl hn
    rw [← h3, List.length_take, List.length_drop]; omega
  · obtain ⟨h1, h2⟩ := h.nl hn
    rw [h1, h2]; rfl
def M0p (p : QuP) : Mm := bif p.nl then mN p.z p.a p.en p.tl p.ed p.mp p.clk p.es else mS p.z p.a p.en p.tl p.ed p.mp p.clk p.es p.off p.n p.cap p.l
/-- The list tells of that queue, at its head. -/
def DescP (M1 : Mm) (p : QuP) : Prop := ∃ sl, M1[0]? = some ⟨true, .row [.i p.z, .w32 p.a, sl, .mp 1, .w32 p.en, .b p.tl, .b p.ed]⟩ ∧ M1[1]? = some ⟨true, .res (stM p.mp p.clk p.es)⟩ ∧ ((p.nl = true ∧ sl = .v (.slice none 0 0)) ∨ (p.nl = false ∧ ∃ j, 2 ≤ j ∧ sl = .sl j p.off p.n p.cap ∧ M1[j]? = some ⟨true, .a8 p.l⟩))
theorem finP {q : Qa} (ho : q.Ok) {sq : BitVec 32} {d : Tx} {fin : Bool} (hoff : q.off d = false) {tl : Bool} {en : BitVec 32} (hE : EnP tl en q.a (q.e1 sq d fin)) {k : Nat} (hkk : k = cntA (q.f1 sq d)) : edE tl (q.a + BitVec.ofNat 32 k) en = (q.put sq d fin).ed ∧ nxE tl (q.a + BitVec.ofNat 32 k) en = (q.put sq d fin).a ∧ ((q.put sq d fin).ed = false → EnP tl en (q.put sq d fin).a (q.put sq d fin).e) := by
  obtain ⟨hd, -⟩ := Qa.off_false hoff
  obtain ⟨hk, hkw⟩ := ho.cnt hd sq d
  have hw := ho.win
  rw [Qa.put_on hoff, ← hkk]
  rw [← hkk] at hk hkw
  cases he : q.e1 sq d fin with
  | none =>
    rw [he] at hE
    have hE : tl = false := hE
    subst hE
    refine ⟨?_, ?_, fun _ => rfl⟩
    · show (false && _) = decide ((none : Option Nat) = some k)
      simp
    · unfold nxE edE Qa.pu
      rw [Bool.false_and, cond_false]
      simp
  | some E =>
    rw [he] at hE
    obtain ⟨rfl, rfl⟩ : tl = true ∧ en = q.a + BitVec.ofNat 32 E := hE
    obtain ⟨g1, g2⟩ := ho.e1 hd sq d fin he
    have hkE := hk.le (g2 E (Nat.le_refl _))
    have hb : (q.a + BitVec.ofNat 32 k == q.a + BitVec.ofNat 32 E) = decide (E = k) := by
      rw [Bool.eq_iff_iff]
      simp only [beq_iff_eq, decide_eq_true_eq]
      constructor
      · intro h
        have := (bv_iff q.a _ E (by omega)).1 h
        rw [bv_back q.a k (by omega)] at this
        exact this.symm
      · rintro rfl; rfl
    have h1 : edE true (q.a + BitVec.ofNat 32 k) (q.a + BitVec.ofNat 32 E) = decide (E = k) := by
      unfold edE
      rw [Bool.true_and, hb]
    refine ⟨?_, ?_, fun hed => ?_⟩
    · rw [h1]
      show decide (E = k) = decide (some E = some k)
      simp
    · unfold nxE
      rw [h1]
      show _ = if some E = some k then _ else _
      by_cases c : E = k
      · rw [decide_eq_true c, if_pos (by rw [c])]; rfl
      · rw [decide_eq_false c, if_neg (by simpa using c)]; rfl
    · have hne : ¬ E = k := fun c => by
        have : decide (some E = some k) = false := hed
        rw [c] at this; simp at this
      show EnP true _ (if some E = some k then _ else _) (if some E = some k then none else some (E - k))
      rw [if_neg (by simpa using hne), if_neg (by simpa using hne)]
      refine ⟨rfl, ?_⟩
      rw [bv_sum, Nat.sub_add_cancel hkE]
theorem win_bv {z : Int} {q : Qa} (ho : q.Ok) (hz : z = ((q.z : Nat) : Int)) : (BitVec.ofInt 32 (z - ((q.rd.length : Nat) : Int))).toNat = q.win ∧ (BitVec.ofInt 32 (z - ((q.rd.length : Nat) : Int)) + BitVec.ofInt 32 1).toNat = q.win + 1 := by
  have h1 := ho.rl
  have h2 := ho.z2
  have e : z - ((q.rd.length : Nat) : Int) = ((q.win : Nat) : Int) := by unfold Qa.win; omega
  have hw := ho.win
  rw [e, ofI]
  have h3 : (BitVec.ofNat 32 q.win).toNat = q.win := by simp; omega
  have h4 : (BitVec.ofInt 32 1).toNat = 1 := rfl
  refine ⟨h3, ?_⟩
  rw [BitVec.toNat_add, h3, h4]; omega
theorem fiP {q : Qa} (ho : q.Ok) {sq : BitVec 32} {d : Tx} (hoff : q.off d = false) {z : Int} {tl : Bool} {en : BitVec 32} (hz : z = ((q.z : Nat) : Int)) (hE : EnP tl en q.a q.e) {s : St} (hm : MapP s q.a (q.f1 sq d)) : EnP (tlF z q.rd.length q.a tl s.es (sq + BitVec.ofInt 32 (d.length : Int))) (enF z q.rd.length q.a en tl s.es (sq + BitVec.ofInt 32 (d.length : Int))) q.a (q.e1 sq d true) := by
  obtain ⟨hd, hl⟩ := Qa.off_false hoff
  obtain ⟨w1, w2⟩ := win_bv ho hz
  have hw := ho.win
  unfold tlF enF Qa.e1
  rw [fiT_eq]
  cases he : q.e with
  | some E =>
    rw [he] at hE
    obtain ⟨rfl, rfl⟩ : tl = true ∧ en = q.a + BitVec.ofNat 32 E := hE
    exact ⟨rfl, rfl⟩
  | none =>
    rw [he] at hE
    have hE : tl = false := hE
    subst hE
    rw [ofI]
    have hu : (sq + BitVec.ofNat 32 d.length - q.a).ult (BitVec.ofInt 32 (z - ((q.rd.length : Nat) : Int)) + BitVec.ofInt 32 1) = decide (q.ee sq d ≤ q.win) := by
      rw [BitVec.ult, w2]
      show decide (q.ee sq d < q.win + 1) = _
      rw [Bool.eq_iff_iff]; simp only [decide_eq_true_eq]; omega
    rw [hu]
    by_cases c : q.ee sq d ≤ q.win
    · have hre := hm.re hw (fun j hj => ho.f1w hd sq d j hj) (q.ee sq d) (by omega)
      have hb : q.a + BitVec.ofNat 32 (q.ee sq d) = sq + BitVec.ofNat 32 d.length := bv_at q.a _
      rw [hb] at hre
      rw [hre, decide_eq_true c]
      cases hf : freeA (q.f1 sq d) (q.ee sq d)
      · show EnP _ _ _ (if (true && true && false) = true then _ else none)
        exact rfl
      · show EnP _ _ _ (if (true && true && true) = true then _ else none)
        exact ⟨rfl, hb.symm⟩
    · rw [decide_eq_false c]
      exact rfl
theorem rmP {q : Qa} (ho : q.Ok) (hd : q.ed = false) {z : Int} {tl : Bool} {en : BitVec 32} (hz : z = ((q.z : Nat) : Int)) (hE : EnP tl en q.a q.e) : (rmQ z q.rd.length q.a en tl).toNat = q.lim := by
  unfold rmQ Qa.lim
  cases he : q.e with
  | some E =>
    rw [he] at hE
    obtain ⟨rfl, rfl⟩ : tl = true ∧ en = q.a + BitVec.ofNat 32 E := hE
    have := (ho.en hd E he).2.1
    have hw := ho.win
    exact bv_back q.a E (by omega)
  | none =>
    rw [he] at hE
    have hE : tl = false := hE
    subst hE
    exact (win_bv ho hz).1
/-- What a queue of the program is behind Put. -/
theorem newP {p : QuP} {q : Qa} (h : PQa p q) {sq : BitVec 32} {d : Tx} {fin : Bool} (hoff : q.off d = false) {tl : Bool} {en : BitVec 32} (hE : EnP tl en q.a (q.e1 sq d fin)) {clk : Nat} {es : List EntE} (hm : MapP (stM p.mp clk es) q.a (q.f1 sq d)) {k : Nat} (hk : k = cntA (q.f1 sq d)) {nl : Bool} {off n cap : Nat} {l : Tx} (hr : RdP { p with nl := nl, off := off, n := n, cap := cap, l := l } (q.rd ++ byA (q.f1 sq d) k)) :
    PQa { p with a := nxE tl (q.a + BitVec.ofNat 32 k) en, en := en, tl := tl, ed := edE tl (q.a + BitVec.ofNat 32 k) en, clk := clk, es := (deS (stM p.mp clk es) q.a k).es, nl := nl, off := off, n := n, cap := cap, l := l } (q.put sq d fin) := by
  obtain ⟨f1, f2, f3⟩ := finP h.ok hoff hE hk
  obtain ⟨hd, hl⟩ := Qa.off_false hoff
  obtain ⟨hkn, hkw⟩ := h.ok.cnt hd sq d
  have hw := h.ok.win
  rw [← hk] at hkn hkw
  have hde := hm.de (k := k) (by omega) fun j hj => h.ok.f1w hd sq d j (by omega)
  have hst := deS_st p.mp clk es q.a k
  have ho := h.ok.put sq d fin
  have hrd : (q.put sq d fin).rd = q.rd ++ byA (q.f1 sq d) k := by rw [Qa.put_on hoff, ← hk]; rfl
  refine ⟨ho, ?_, f2, f1, ⟨fun x => ?_, fun x => ?_⟩, ?_, fun hed => ?_⟩
  · rw [Qa.put_on hoff]; exact h.z
  · rw [hrd]; exact hr.nl x
  · rw [hrd]; exact hr.sl x
  · show MapP (stM p.mp clk (deS (stM p.mp clk es) q.a k).es) _ _
    rw [← hst]
    have hf : (q.put sq d fin).f = fun j => q.f1 sq d (j + k) := by rw [Qa.put_on hoff, ← hk]; rfl
    rw [hf]
    show MapP _ (nxE tl (q.a + BitVec.ofNat 32 k) en) _
    unfold nxE
    cases hed : edE tl (q.a + BitVec.ofNat 32 k) en
    · exact hde
    · refine hde.shift (fun j => ?_) _
      have := ho.nf (by rw [← f1]; exact hed) j
      rw [hf] at this
      exact this
  · show EnP tl en (nxE tl (q.a + BitVec.ofNat 32 k) en) _
    rw [f2]
    exact f3 hed
end Go.Proofs.Ytkjfecdpakhggaa
