/-
  EdwRows: what it answers; a slice of texts, opened. No statement is proved here.
-/
import Derived.Test.YtpdagpjjlnncbaaDoorEdwY
import Derived.SliceStrings
import Derived.ProofKit
import Derived.OpenShut
import Derived.Carry
namespace Go.Proofs.YtpdagpjjlnncbaaDoor
open Go.RowKit Go.Lib Go.BigFrame Go.ChangeShapes Go.WideShapes
set_option linter.unusedVariables false
set_option linter.unusedSimpArgs false
set_option maxRecDepth 1000000
set_option maxHeartbeats 1000000

theorem ats {p : Ed.Pt} (hp : p.On) : Is (atp p.x.val p.y.val) p := Is.at (Ed.val_lt _) (Ed.val_lt _) (Ed.fe_of _) (Ed.fe_of _) hp
theorem atsR {p : Ed.Pt} (hp : p.On) : IsR ⟨p.x.val, p.y.val, 1⟩ p := IsR.at (Ed.val_lt _) (Ed.val_lt _) (Ed.fe_of _) (Ed.fe_of _) hp
theorem dec2 (s : ByteArray) : ∃ x : Pq × Int, Ret PV 9 #[.string s] (.tuple #[pq x.1, .int .i64 x.2]) ∧ (x.2 = 0 → ∃ p : Ed.Pt, p.On ∧ enc p = s ∧ x.1 = atp p.x.val p.y.val) := by
  by_cases h : ∃ p : Ed.Pt, p.On ∧ enc p = s
  · obtain ⟨p, hp, rfl⟩ := h
    exact ⟨(_, 0), c_dec env2 hp, fun _ => ⟨p, hp, rfl, rfl⟩⟩
  · refine ⟨(⟨0, 0, 0, 0⟩, if s.size = 32 then 90 else 2), c_dec_no env2 h, fun e => ?_⟩
    simp only at e
    split at e <;> cases e
/-- Where the program's point and the document's stand behind k steps. -/
def rst (q : Pq) (d : Nat → Pq × Int) : Nat → Pq
  | 0 => q
  | k + 1 => if (d k).2 = 0 then pls (rst q d k) (rdy (d k).1) else dbq (rst q d k)
def rrt (r : Pr) (d : Nat → Pq × Int) : Nat → Pr
  | 0 => r
  | k + 1 => if (d k).2 = 0 then rad (rrt r d k) ⟨(d k).1.x, (d k).1.y, 1⟩ else rad (rrt r d k) (rrt r d k)
theorem rows_inv {q : Pq} {r : Pr} {p : Ed.Pt} (h : Is q p) (hr : IsR r p) (d : Nat → Pq × Int) (hd : ∀ k, (d k).2 = 0 → ∃ p : Ed.Pt, p.On ∧ (d k).1 = atp p.x.val p.y.val) : ∀ k, ∃ P, Is (rst q d k) P ∧ IsR (rrt r d k) P
  | 0 => ⟨p, h, hr⟩
  | k + 1 => by
    obtain ⟨P, h1, h2⟩ := rows_inv h hr d hd k
    by_cases e : (d k).2 = 0
    · obtain ⟨s, hs, hk⟩ := hd k e
      refine ⟨Ed.add P s, ?_, ?_⟩
      · show Is (if (d k).2 = 0 then _ else _) _
        rw [if_pos e, hk]
        exact h1.pls (ats hs)
      · show IsR (if (d k).2 = 0 then _ else _) _
        rw [if_pos e, hk]
        exact h2.add (atsR hs)
    · refine ⟨Ed.add P P, ?_, ?_⟩
      · show Is (if (d k).2 = 0 then _ else _) _
        rw [if_neg e]
        exact h1.dbl
      · show IsR (if (d k).2 = 0 then _ else _) _
        rw [if_neg e]
        exact h2.add h2
/-- A slice of texts. -/
def Texts (w : World) (v : Value) (len : Nat) (T : Nat → ByteArray) : Prop := ∃ p cap, v = .slice p len cap ∧ (0 < len → ∃ b o, p = some ⟨b, o, none⟩ ∧ ∀ i, i < len → w.cell? ⟨b, o + i, none⟩ = some (.string (T i)))
theorem rows_any (s : ByteArray) (v : Value) (len : Nat) (T : Nat → ByteArray) (w : World) (hP : PV w) (hS : Texts w v len T) : Calls Tryd.prog 5 #[.string s, v] w fun e w' => e = .returned (.bool true) ∧ Fr [] w w' := by
  obtain ⟨p, cap, rfl, hS⟩ := hS
  obtain ⟨⟨q, e⟩, H1, h1⟩ := dec2 s
  by_cases c : e = 0
  · subst c
    by_cases hl : len ≤ 40
    · obtain ⟨P, hP0, rfl, hq⟩ := h1 rfl
      simp only at hq
      subst hq
      have hd : ∃ d : Nat → Pq × Int, ∀ k, Ret PV 9 #[.string (T k)] (.tuple #[pq (d k).1, .int .i64 (d k).2]) ∧ ((d k).2 = 0 → ∃ p : Ed.Pt, p.On ∧ enc p = T k ∧ (d k).1 = atp p.x.val p.y.val) := ⟨fun k => (dec2 (T k)).choose, fun k => (dec2 (T k)).choose_spec⟩
      obtain ⟨d, hd⟩ := hd
      have inv := rows_inv (ats hP0) (atsR hP0) d (fun k hk => by obtain ⟨p, h1, h2, h3⟩ := (hd k).2 hk; exact ⟨p, h1, h3⟩)
      refine rows_yes keeps2 (st := rst (atp P.x.val P.y.val) d) (dk := fun k => (d k).1) (rt := rrt ⟨P.x.val, P.y.val, 1⟩ d) (rk := fun k => ⟨(d k).1.x, (d k).1.y, 1⟩) (ek := fun k => (d k).2) (T := T) H1 (d_dec env2 hP0) (c_alive env2) (fun k _ => (hd k).1) ?_ ?_ ?_ ?_ ?_ ?_ hl w hP hS
      · intro k _ hk
        obtain ⟨p, h1, h2, h3⟩ := (hd k).2 hk
        rw [← h2, h3]
        exact d_dec env2 h1
      · intro k _ hk
        obtain ⟨p, h1, h2, h3⟩ := (hd k).2 hk
        obtain ⟨Q, i1, i2⟩ := inv k
        have e1 : rst (atp P.x.val P.y.val) d (k + 1) = pls (rst (atp P.x.val P.y.val) d k) (rdy (d k).1) := if_pos hk
        rw [e1]
        have i3 := ats h1
        rw [← h3] at i3
        exact c_sum env2 i1 i3
      · intro k _ hk
        obtain ⟨p, h1, h2, h3⟩ := (hd k).2 hk
        obtain ⟨Q, i1, i2⟩ := inv k
        have e1 : rrt ⟨P.x.val, P.y.val, 1⟩ d (k + 1) = rad (rrt ⟨P.x.val, P.y.val, 1⟩ d k) ⟨(d k).1.x, (d k).1.y, 1⟩ := if_pos hk
        rw [e1]
        have i3 := atsR h1
        have h4 : (⟨(d k).1.x, (d k).1.y, 1⟩ : Pr) = ⟨p.x.val, p.y.val, 1⟩ := by rw [h3]; rfl
        rw [← h4] at i3
        exact d_sum env2 i2 i3
      · intro k _ hk
        obtain ⟨Q, i1, i2⟩ := inv k
        have e1 : rst (atp P.x.val P.y.val) d (k + 1) = dbq (rst (atp P.x.val P.y.val) d k) := if_neg hk
        rw [e1]
        exact c_twice env2 i1
      · intro k _ hk
        obtain ⟨Q, i1, i2⟩ := inv k
        have e1 : rrt ⟨P.x.val, P.y.val, 1⟩ d (k + 1) = rad (rrt ⟨P.x.val, P.y.val, 1⟩ d k) (rrt ⟨P.x.val, P.y.val, 1⟩ d k) := if_neg hk
        rw [e1]
        exact d_sum env2 i2 i2
      · obtain ⟨Q, i1, i2⟩ := inv len
        exact c_is env2 i1 i2
    · exact rows_no2 keeps2 (by omega) H1 (c_alive env2) w hP
  · exact rows_no1 keeps2 H1 (c_alive env2) (decide_eq_false c) w hP
section
variable {H : Type} {enc : TypeId × Value → H} {w : World} {base : Nat} {held : Bool}
theorem open_texts {v : Value} {d : DataW H} {ps : List MemPlace} (hv : ∃ a len cap, v = .slice a len cap) (h : DataW.Trod enc Tryd.prog w base (fun _ => true) held 59 v d ps) : ∃ len T, Texts w v len T := by
  obtain ⟨a0, len0, cap0, rfl⟩ := hv
  obtain ⟨fuel, hf⟩ := h
  rcases open_strings Tryd.underlying59 Tryd.underlying9 (show Tryd.prog.cellsOf 9 = 1 by kernel_rfl) hf with ⟨hcs, _⟩ | ⟨a, len, cap, ss, hcs, _, hl, _, hz, _, hcell, _⟩
  · simp [Value.cells] at hcs
    obtain ⟨rfl, rfl, rfl⟩ := hcs
    exact ⟨0, fun _ => ByteArray.empty, none, 0, rfl, fun h => absurd h (by omega)⟩
  · simp [Value.cells] at hcs
    obtain ⟨rfl, rfl, rfl⟩ := hcs
    simp only [if_true] at hz
    refine ⟨len0, fun i => ss.getD i ByteArray.empty, _, _, rfl, fun h0 => ?_⟩
    obtain ⟨b, off, spot⟩ := a
    have h1 := hcell 0 (by omega)
    have hspot : spot = none := by
      have := World.cell?_spot h1
      simpa [Addr.add] using this
    subst hspot
    refine ⟨b, off, rfl, fun i hi => ?_⟩
    have h2 := hcell i (by omega)
    have h3 : (⟨b, off, none⟩ : Addr).add i = ⟨b, off + i, none⟩ := by unfold Addr.add; split <;> simp_all
    rw [h3] at h2
    exact h2
end
end Go.Proofs.YtpdagpjjlnncbaaDoor
