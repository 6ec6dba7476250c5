/-
  flow: the program's Read, New, from a queue's own place. No statement is proved here.
-/
import Derived.Test.YtkjfecdpakhggaaFqD
namespace Go.Proofs.Ytkjfecdpakhggaa
open Go.RowKit
set_option linter.unusedVariables false
set_option linter.unusedSimpArgs false
set_option maxRecDepth 100000

def KRd (p : QuP) (q : Qa) (m : Int) : SV → Mm → Prop := fun r M1 => r = .s (q.told m) ∧ ∃ p', DescP M1 p' ∧ PQa p' (q.read m)
theorem readP {p : QuP} {q : Qa} (h : PQa p q) (m : Int) {nl : Bool} {off n cap : Nat} {l : Tx} (hr : RdP { p with nl := nl, off := off, n := n, cap := cap, l := l } (q.read m).rd) : PQa { p with nl := nl, off := off, n := n, cap := cap, l := l } (q.read m) := ⟨h.ok.read m, h.z, h.a, h.ed, hr, h.map, h.tl⟩
theorem rdN_0 {m : Int} (h : m < 1) (n : Nat) : rdN m n = 0 := by
  unfold rdN
  have : m.toNat = 0 := by omega
  rw [this]; exact Nat.zero_min _
theorem krd_0 {p : QuP} {q : Qa} (h : PQa p q) {m : Int} (hm : rdN m q.rd.length = 0) : KRd p q m (.s []) (M0p p) := by
  refine ⟨?_, p, descM0 p, ?_⟩
  · unfold Qa.told
    rw [hm]; rfl
  · have : q.read m = q := by
      unfold Qa.read
      rw [hm]; rfl
    rw [this]; exact h
theorem readN {p : QuP} {q : Qa} (h : PQa p q) (hn : p.nl = true) (m : Int) : Spec Try.prog G 16 [.ptr 0 0, .i m] (mN p.z p.a p.en p.tl p.ed p.mp p.clk p.es) (KRd p q m) := by
  have hM : M0p p = mN p.z p.a p.en p.tl p.ed p.mp p.clk p.es := by unfold M0p; rw [hn]; rfl
  obtain ⟨hrd, hn0⟩ := h.rd.nl hn
  have hoffK := hM ▸ krd_0 h (m := m) (by rw [hrd]; exact Nat.min_zero _)
  have hz : (p.z == 0) = false := by
    have h1 := h.ok.z1
    have := h.z
    simp; omega
  refine vf_ok e6_ok mixed (noL_ok _ _ _ _) (of_eq (vRdN p.z p.a p.en p.tl p.ed p.mp p.clk p.es m (KRd p q m)) ?_)
  refine bifF (c := bif false then true else p.z == 0) hz ?_
  rcases bTF (ilt m 1) with c | c
  · exact bifT (c := bif false then true else ilt m 1) c hoffK
  refine bifF (c := bif false then true else ilt m 1) c ?_
  have hc := of_nilt c
  have e : (bif ilt 0 m then (0 : Int) else m) = 0 := by
    have : ilt 0 m = true := by rw [ilt_eq]; exact decide_eq_true (by omega)
    rw [this]; rfl
  rw [e]
  exact bif_of rfl (bif_of rfl hoffK)
theorem readS {p : QuP} {q : Qa} (h : PQa p q) (hn : p.nl = false) (m : Int) : Spec Try.prog G 16 [.ptr 0 0, .i m] (mS p.z p.a p.en p.tl p.ed p.mp p.clk p.es p.off p.n p.cap p.l) (KRd p q m) := by
  have hM : M0p p = mS p.z p.a p.en p.tl p.ed p.mp p.clk p.es p.off p.n p.cap p.l := by unfold M0p; rw [hn]; rfl
  have hr := h.rd.sl hn
  have hrl := h.rd.n
  have hoffK := fun hm => hM ▸ krd_0 h (m := m) hm
  have hz : (p.z == 0) = false := by
    have h1 := h.ok.z1
    have := h.z
    simp; omega
  refine vf_ok e6_ok mixed (noL_ok _ _ _ _) (of_eq (vRdS p.z p.a p.en p.tl p.ed p.mp p.clk p.es p.off p.n p.cap p.l m (KRd p q m)) ?_)
  refine bifF (c := bif false then true else p.z == 0) hz ?_
  rcases bTF (ilt m 1) with c | c
  · exact bifT (c := bif false then true else ilt m 1) c (hoffK (rdN_0 (of_ilt c) _))
  refine bifF (c := bif false then true else ilt m 1) c ?_
  have hc := of_nilt c
  obtain ⟨k, hk⟩ : ∃ k, k = rdN m q.rd.length := ⟨_, rfl⟩
  have e : (bif ilt ((p.n : Nat) : Int) m then ((p.n : Nat) : Int) else m) = ((k : Nat) : Int) := by
    rw [ilt_eq, hk, ← hrl]
    unfold rdN
    by_cases g : ((p.n : Nat) : Int) < m
    · rw [decide_eq_true g, cond_true]; omega
    · rw [decide_eq_false g, cond_false]; omega
  have hkn : k ≤ p.n := by rw [hk, hrl]; exact Nat.min_le_right _ _
  have hf := hr.fit
  have hl := hr.len
  rw [e]
  simp only [Int.toNat_natCast]
  have b1 : (ile 0 ((k : Nat) : Int) && ile ((k : Nat) : Int) ((k : Nat) : Int) && ile ((k : Nat) : Int) ((p.cap : Nat) : Int)) = true := by
    rw [ile_eq, ile_eq, ile_eq, decide_eq_true (by omega), decide_eq_true (by omega), decide_eq_true (by omega)]; rfl
  have b2 : (ile 0 ((k : Nat) : Int) && ile ((k : Nat) : Int) ((p.n : Nat) : Int) && ile ((p.n : Nat) : Int) ((p.cap : Nat) : Int)) = true := by
    rw [ile_eq, ile_eq, ile_eq, decide_eq_true (by omega), decide_eq_true (by omega), decide_eq_true (by omega)]; rfl
  refine bif_of b1 (bif_of b2 ?_)
  have b3 : decide (p.off + k ≤ p.l.length) = true := decide_eq_true (by omega)
  have hans : SV.s ((p.l.drop p.off).take k) = .s (q.told m) := by
    unfold Qa.told
    rw [← hk, ← hr.eq, List.take_take, Nat.min_eq_left hkn]
  have hrd : (q.read m).rd = q.rd.drop k := by rw [hk]; rfl
  rcases bTF (((p.n - k : Nat) : Int) == 0) with c2 | c2
  · have hkk : k = p.n := by have : ((p.n - k : Nat) : Int) = 0 := by simpa using c2
                             omega
    refine bifT c2 (bif_of b3 ⟨hans, { p with nl := true, off := 0, n := 0, cap := 0, l := [] }, ⟨_, rfl, rfl, .inl ⟨rfl, rfl⟩⟩, readP (p := p) (nl := true) (off := 0) (n := 0) (cap := 0) (l := []) h m ⟨fun _ => ⟨?_, rfl⟩, fun x => (by cases x)⟩⟩)
    rw [hrd, hkk, hrl]; exact List.drop_length
  · have hkk : k < p.n := by
      have : ¬ ((p.n - k : Nat) : Int) = 0 := by simpa using c2
      omega
    have b4 : ilt ((k : Nat) : Int) ((p.cap : Nat) : Int) = true := by rw [ilt_eq]; exact decide_eq_true (by omega)
    rw [b4, cond_true]
    refine bifF c2 (bif_of b3 ⟨hans, { p with nl := false, off := k + p.off, n := p.n - k, cap := p.cap - k, l := p.l }, ⟨_, rfl, rfl, .inr ⟨rfl, 2, Nat.le_refl _, rfl, rfl⟩⟩, readP (p := p) (nl := false) (off := k + p.off) (n := p.n - k) (cap := p.cap - k) (l := p.l) h m ⟨fun x => (by cases x), fun _ => ⟨?_, ?_, ?_⟩⟩⟩)
    · show p.n - k ≤ p.cap - k
      omega
    · show k + p.off + (p.cap - k) ≤ p.l.length
      omega
    · show (p.l.drop (k + p.off)).take (p.n - k) = _
      rw [hrd, ← hr.eq, List.drop_take, List.drop_drop, Nat.add_comm]
theorem read_sp {p : QuP} {q : Qa} (h : PQa p q) (m : Int) : Spec Try.prog G 16 [.ptr 0 0, .i m] (M0p p) (KRd p q m) := by
  unfold M0p
  cases hn : p.nl
  · exact readS h hn m
  · exact readN h hn m
end Go.Proofs.Ytkjfecdpakhggaa
