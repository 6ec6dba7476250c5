/-
  flow: the document's Put, Read, from its queue's own place. No statement is proved here.
-/
import Derived.Test.YtkjfecdpakhggaaFyA
import Derived.Test.YtkjfecdpakhggaaFqM
namespace Go.Proofs.Ytkjfecdpakhggaa
open Go.RowKit
set_option linter.unusedVariables false
set_option linter.unusedSimpArgs false
set_option maxRecDepth 100000

theorem spec_mono {P : Program} {G M : Mm} {f : Nat} {args : List SV} {K K' : SV → Mm → Prop} (hS : Spec P G f args M K) (h : ∀ r M1, K r M1 → K' r M1) : Spec P G f args M K' := by
  intro β w hR hw
  refine (hS β w hR hw).mono fun v w' hh => ?_
  obtain ⟨β1, M1, r, h1, h2, h3, h4⟩ := hh
  exact ⟨β1, M1, r, h1, h2, h3, h r M1 h4⟩
def M0d (d : QuD) : Mm := mD d.a d.z d.e d.he d.ed d.rd d.n d.l d.m
def KPd (d : QuD) (q : Qa) (sq : BitVec 32) (dd : Tx) (fin : Bool) : SV → Mm → Prop := fun r M1 => r = .b (q.moved sq dd fin) ∧ ∃ d', M1 = M0d d' ∧ DQ d' (q.put sq dd fin) ∧ ∀ c, EB d c → EB d' (c + 1)
theorem enB_iff {q : Qa} (ok : q.Ok) (hd : q.ed = false) {z : Int} (hz : z = ((q.z : Nat) : Int)) {sq : BitVec 32} {dd : Tx} {fin : Bool} {l1 : List Ub} {m1 : Tx} {n : Nat} (hn : n = q.z + 1) (h1 : LM l1 m1 n (q.f1 sq dd)) {he : Bool} (hhe : he = q.e.isSome) : q.e1 sq dd fin = if enB z q.rd n he fin (enD q.a sq dd) l1 = true then some (q.ee sq dd) else q.e := by
  have hww : q.win = q.z - q.rd.length := rfl
  have hw := ok.win
  obtain ⟨w1, w2⟩ := win_bv ok hz
  have hee : (enD q.a sq dd).toNat = q.ee sq dd := by unfold enD Qa.ee; rw [ofI]
  have hz2 := ok.z2
  have hrl := ok.rl
  unfold enB
  rw [hee]
  have hult : (enD q.a sq dd).ult (BitVec.ofInt 32 (z - (q.rd.length : Int) + 1)) = decide (q.ee sq dd ≤ q.win) := by
    rw [BitVec.ult, hee]
    have : (BitVec.ofInt 32 (z - (q.rd.length : Int) + 1)).toNat = q.win + 1 := by
      have e : z - (q.rd.length : Int) + 1 = ((q.win + 1 : Nat) : Int) := by omega
      rw [e, ofI]; simp; omega
    rw [this, Bool.eq_iff_iff]; simp only [decide_eq_true_eq]; omega
  rw [hult]
  have hfr : q.ee sq dd ≤ q.win → frN l1 (q.ee sq dd) (n - q.ee sq dd) = freeA (q.f1 sq dd) (q.ee sq dd) := fun hle => by
    rw [Bool.eq_iff_iff, frN_iff, freeA_iff (fun j hj => ok.f1w hd sq dd j (by omega))]
    constructor
    · intro h j hj
      rcases Nat.lt_or_ge j n with g | g
      · have := h (j - q.ee sq dd) (by omega)
        rw [show q.ee sq dd + (j - q.ee sq dd) = j by omega, h1.is j g] at this
        cases q2 : q.f1 sq dd j
        · rfl
        · rw [q2] at this; cases this
      · exact ok.f1w hd sq dd j (by omega)
    · intro h j hj
      rw [h1.is _ (by omega), h _ (by omega)]; rfl
  unfold Qa.e1
  cases he' : q.e with
  | some E =>
    rw [hhe, he']
    cases fin <;> rfl
  | none =>
    rw [hhe, he']
    show (if (fin && decide _ && freeA _ _) = true then _ else none) = _
    by_cases hle : q.ee sq dd ≤ q.win
    · rw [hfr hle, decide_eq_true hle]
      cases fin <;> cases freeA (q.f1 sq dd) (q.ee sq dd) <;> rfl
    · rw [decide_eq_false hle]
      cases fin <;> rfl
theorem putD_sp {d : QuD} {q : Qa} {c : Nat} (h : DQ d q) (hb : EB d c) (hc : c ≤ 1000000) (sq : BitVec 32) (dd : Tx) (fin : Bool) (hl : dd.length ≤ 65536) : Spec Try.prog G 19 [.ptr 0 0, .w32 sq, .s dd, .b fin] (M0d d) (KPd d q sq dd fin) := by
  obtain ⟨b1, b2⟩ := hb
  cases hed : d.ed
  rotate_left
  · have hoff : q.off dd = true := by unfold Qa.off; rw [← h.ed, hed]; rfl
    have hM : M0d d = mD d.a d.z d.e d.he true d.rd d.n d.l d.m := by unfold M0d; rw [hed]
    rw [hM]
    refine vf_ok ew_ok mixed (noL_ok _ _ _ _) (of_eq (vPe d.a d.z d.e d.he d.rd d.n d.l d.m sq dd fin _) ⟨?_, d, hM.symm, ?_, fun c' hc' => ⟨by have := hc'.1; omega, b2⟩⟩)
    · unfold Qa.moved
      rw [Qa.put_off hoff]; simp
    · rw [Qa.put_off hoff]; exact h
  have hd : q.ed = false := h.ed.symm.trans hed
  have ok := h.ok
  have hoff : q.off dd = false := by unfold Qa.off; rw [hd, decide_eq_false (by omega)]; rfl
  have hM : M0d d = mD q.a d.z d.e d.he false q.rd d.n d.l d.m := by unfold M0d; rw [hed, h.a, h.rd]
  rw [hM]
  have hz2 := ok.z2
  have hrl := ok.rl
  have hww : q.win = q.z - q.rd.length := rfl
  have hwb : (wD d.z q.rd).toNat = q.win := (win_bv ok h.z).1
  have hn := h.n
  have hz := h.z
  have h1 := tkS_LM ok hd h.n h.lm (h.he hd) (h.e hd) hwb sq dd hl dd.length (Nat.le_refl _)
  rw [fi_len] at h1
  obtain ⟨hk, hkw⟩ := ok.cnt hd sq dd
  have hlast : q.f1 sq dd q.z = none := ok.f1w hd sq dd _ (by omega)
  have hNx : Nx (tkS q.a sq (wD d.z q.rd) d.he d.e dd d.l d.m dd.length).1 d.n (cntA (q.f1 sq dd)) := ⟨by omega, fun j hj => by rw [h1.is j (by omega)]; exact hk.all j hj, .inr (by rw [h1.is _ (by omega), hk.stop]; rfl)⟩
  have he1 := enB_iff ok hd h.z (fin := fin) h.n h1 (h.he hd)
  have hlmn := shS_LM (k := cntA (q.f1 sq dd)) h1 fun j hj => ok.f1w hd sq dd j (by omega)
  have hspec := fun he' e' hh hx => put_spec q.a d.z d.e d.he q.rd d.n d.l d.m sq dd fin h.lm.ll h.lm.ml (by omega) (by omega) (by omega) hl (by omega) (cntA (q.f1 sq dd)) hNx he' e' hh hx
  have hee : (enD q.a sq dd).toNat = q.ee sq dd := by unfold enD Qa.ee; rw [ofI]
  generalize (tkS q.a sq (wD d.z q.rd) d.he d.e dd d.l d.m dd.length).2 = m1 at h1 hspec hlmn
  generalize (tkS q.a sq (wD d.z q.rd) d.he d.e dd d.l d.m dd.length).1 = l1 at h1 hNx he1 hspec hlmn
  have hbyA : m1.take (cntA (q.f1 sq dd)) = byA (q.f1 sq dd) (cntA (q.f1 sq dd)) := by
    refine List.ext_getElem? fun i => ?_
    unfold byA
    have hml := h1.ml
    rcases Nat.lt_or_ge i (cntA (q.f1 sq dd)) with g | g
    · have hb := h1.by' i (by omega) (hk.all i g)
      rw [List.getElem?_take_of_lt g, List.getElem?_map, List.getElem?_range g, List.getElem?_eq_getElem (by omega)]
      rw [List.getD_eq_getElem?_getD, List.getElem?_eq_getElem (by omega)] at hb
      exact congrArg some hb
    · rw [List.getElem?_eq_none (by simp; omega), List.getElem?_eq_none (by simp; omega)]
  rw [hbyA] at hspec
  have hput := Qa.put_on (sq := sq) (fin := fin) hoff
  have hokp := ok.put sq dd fin
  have hE1 := fun E (hE : q.e1 sq dd fin = some E) => ok.e1 hd sq dd fin hE
  obtain ⟨k, hkk⟩ : ∃ k, k = cntA (q.f1 sq dd) := ⟨_, rfl⟩
  rw [← hkk] at hk hkw hspec hput hlmn
  obtain ⟨B, hB⟩ : ∃ B, B = enB d.z q.rd d.n d.he fin (enD q.a sq dd) l1 := ⟨_, rfl⟩
  rw [← hB] at he1
  have hfin := hspec (d.he || B) (bif B then ((q.ee sq dd : Nat) : Int) else d.e) (by rw [hB]) (by rw [← hB, hee])
  have hhe1 : (d.he || B) = (q.e1 sq dd fin).isSome := by
    rw [he1, h.he hd]
    cases B
    · simp
    · simp
  have hee1 : ∀ E, q.e1 sq dd fin = some E → (bif B then ((q.ee sq dd : Nat) : Int) else d.e) = ((E : Nat) : Int) := fun E hE => by
    rw [he1] at hE
    cases B
    · rw [if_neg (by simp)] at hE
      exact h.e hd E hE
    · rw [if_pos rfl] at hE
      cases hE; rfl
  have heB : q.e1 sq dd fin = none → B = false := fun hn' => by
    rw [he1] at hn'
    cases B
    · rfl
    · rw [if_pos rfl] at hn'; cases hn'
  have hbe : ∀ c : Nat, EB d c → -(65537 * (c : Int)) ≤ (bif B then ((q.ee sq dd : Nat) : Int) else d.e) ∧ (bif B then ((q.ee sq dd : Nat) : Int) else d.e) ≤ 65537 := by
    intro c hcb
    cases B
    · exact hcb
    · have := (hE1 (q.ee sq dd) (by rw [he1, if_pos rfl])).1
      have := ok.win
      rw [cond_true]; omega
  generalize (bif B then ((q.ee sq dd : Nat) : Int) else d.e) = e' at hfin hee1 hbe
  generalize (d.he || B) = he' at hfin hhe1
  have hedD : edD he' e' k = decide (q.e1 sq dd fin = some k) := by
    cases hq1 : q.e1 sq dd fin with
    | none =>
      rw [hq1] at hhe1
      rw [hhe1]
      unfold edD
      simp
    | some E =>
      have hkE := hk.le ((hE1 E hq1).2 E (Nat.le_refl _))
      rw [hq1] at hhe1
      rw [hhe1, hee1 E hq1]
      unfold edD
      rw [Bool.eq_iff_iff]
      simp only [Option.isSome_some, Bool.true_and, beq_iff_eq, decide_eq_true_eq, Option.some.injEq]
      omega
  have hnxD : nxD q.a he' e' k = (q.put sq dd fin).a := by
    unfold nxD
    rw [hedD, hput, ofI]
    show _ = if q.e1 sq dd fin = some k then q.a + BitVec.ofNat 32 k + 1 else q.a + BitVec.ofNat 32 k
    by_cases g : q.e1 sq dd fin = some k
    · rw [if_pos g, decide_eq_true g]; rfl
    · rw [if_neg g, decide_eq_false g]; rfl
  have hedP : (q.put sq dd fin).ed = decide (q.e1 sq dd fin = some k) := by rw [hput]; rfl
  have heP : (q.put sq dd fin).ed = false → (q.put sq dd fin).e = (q.e1 sq dd fin).map (· - k) := fun g => by
    rw [hedP] at g
    rw [hput]
    exact if_neg (of_decide_eq_false g)
  refine spec_mono hfin fun r M1 hh => ?_
  obtain ⟨hr, hM1⟩ := hh
  refine ⟨?_, { d with a := nxD q.a he' e' k, e := e' - (k : Int), he := he', ed := edD he' e' k, rd := q.rd ++ byA (q.f1 sq dd) k, l := (shS d.n k l1 m1 d.n).1, m := (shS d.n k l1 m1 d.n).2 }, hM1, ⟨hokp, hnxD, ?_, hedD.trans hedP.symm, ?_, ?_, ?_, fun g => ?_, fun g E hE => ?_⟩, fun c hcb => ?_⟩
  · rw [hr, hnxD]; rfl
  · rw [hput]; exact h.z
  · rw [hput]; rfl
  · rw [hput]; exact h.n
  · have hf : (q.put sq dd fin).f = fun j => q.f1 sq dd (j + k) := by rw [hput]; rfl
    rw [hf]; exact hlmn
  · rw [heP g, hhe1]
    cases q.e1 sq dd fin <;> rfl
  · rw [heP g] at hE
    cases hq1 : q.e1 sq dd fin with
    | none => rw [hq1] at hE; cases hE
    | some E1 =>
      have hkE := hk.le ((hE1 E1 hq1).2 E1 (Nat.le_refl _))
      rw [hq1] at hE
      have hE : E1 - k = E := by simpa using hE
      show e' - (k : Int) = _
      rw [hee1 E1 hq1]; omega
  · obtain ⟨g1, g2⟩ := hbe c hcb
    have := ok.win
    refine ⟨?_, ?_⟩
    · show -(65537 * ((c + 1 : Nat) : Int)) ≤ e' - (k : Int)
      omega
    · show e' - (k : Int) ≤ 65537
      omega
theorem readD_sp {d : QuD} {q : Qa} (h : DQ d q) (m : Int) : Spec Try.prog G 17 [.ptr 0 0, .i m] (M0d d) (fun r M1 => r = .s (q.told m) ∧ ∃ d', M1 = M0d d' ∧ DQ d' (q.read m) ∧ d'.e = d.e) := by
  refine vf_ok e0_ok mixed (noL_ok _ _ _ _) (of_eq (vRd d.a d.z d.e d.he d.ed d.rd d.n d.l d.m m _) ?_)
  rw [← rdN_int m d.rd.length]
  have hle : rdN m d.rd.length ≤ d.rd.length := Nat.min_le_right _ _
  have hn : rdN m d.rd.length = rdN m q.rd.length := by rw [h.rd]
  rw [Int.toNat_natCast]
  refine bif_of (by show (ile 0 _ && ile _ _) = true; rw [ile_eq, ile_eq, decide_eq_true (by omega), decide_eq_true (by omega)]; rfl) (bif_of (by rw [ile_eq, ile_eq, ile_eq, decide_eq_true (by omega), decide_eq_true (by omega), decide_eq_true (by omega)]; rfl) ⟨?_, { d with rd := d.rd.drop (rdN m d.rd.length) }, ?_, ⟨h.ok.read m, h.a, h.z, h.ed, ?_, h.n, h.lm, h.he, h.e⟩, rfl⟩)
  · unfold Qa.told
    rw [← hn, ← h.rd]; rfl
  · rw [List.take_of_length_le (Nat.le_refl _)]; rfl
  · show d.rd.drop _ = q.rd.drop _
    rw [hn, h.rd]
end Go.Proofs.Ytkjfecdpakhggaa
