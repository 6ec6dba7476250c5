/-
  A reckoner of conditions: what a call leaves, told otherwise: blocks at other places, slices that may be nil. No statement is proved here.
-/
import Derived.Test.YtkjfecdpakhggaaVdE
namespace Go.Proofs.Ytkjfecdpakhggaa
open Go.RowKit
set_option linter.unusedVariables false
set_option linter.unusedSimpArgs false

/-- Contents that tell the same, places told otherwise. -/
def Alike (σ : Nat → Nat) (c c1 : Cont) : Prop := (c.isRes = true ∧ c1 = c) ∨ (c.isRes = false ∧ c1.isRes = false ∧ (∀ β : Nat → Nat, c.cells (fun k => β (σ k)) = c1.cells β) ∧ c.shp = c1.shp)
theorem Alike.at_eq {σ : Nat → Nat} {c c1 : Cont} (h : Alike σ c c1) (β : Nat → Nat) (w : World) (b : Nat) (rw : Bool) : At (fun k => β (σ k)) w b rw c = At β w b rw c1 := by
  rcases h with ⟨h, rfl⟩ | ⟨h1, h2, h3, h4⟩
  · cases c1 <;> first | rfl | cases h
  · rw [propext (At_of h1), propext (At_of h2), h3, h4]
theorem Alike.own_iff {σ : Nat → Nat} {c c1 : Cont} (h : Alike σ c c1) (b i : Nat) : own b c i ↔ own b c1 i := by
  rcases h with ⟨h, rfl⟩ | ⟨h1, h2, -, -⟩
  · exact Iff.rfl
  · rw [own_of h1, own_of h2]
/-- M2 and r2 tell of the same world as M1 and r do; place k of M2 is place σ k of M1. -/
structure Mv (n : Nat) (M1 M2 : Mm) (σ : Nat → Nat) (r r2 : SV) : Prop where
  low : ∀ k, k < n → σ k = k
  len : n ≤ M2.length
  all : ∀ (k : Nat) (e : Ent), M2[k]? = some e → e.c.here = true → ∃ e1, M1[σ k]? = some e1 ∧ e1.c.here = true ∧ e1.rw = e.rw ∧ Alike σ e.c e1.c
  inj : ∀ (i j : Nat) (x y : Ent), M2[i]? = some x → M2[j]? = some y → i ≠ j → x.rw = true → x.c.here = true → y.c.here = true → σ i ≠ σ j
  wf : ∀ (k : Nat) (e : Ent), M2[k]? = some e → e.c.wf M2.length = true
  rw : ∀ (k : Nat) (e : Ent), M2[k]? = some e → e.rw = true → ∃ e1, M1[σ k]? = some e1 ∧ e1.rw = true ∧ ∀ b i, own b e.c i → own b e1.c i
  keep : ∀ (k : Nat) (e : Ent), k < n → M1[k]? = some e → ∃ c, M2[k]? = some ⟨e.rw, c⟩ ∧ (e.rw = false → c = e.c)
  new : ∀ (k : Nat) (e : Ent), n ≤ k → M2[k]? = some e → e.rw = true
  val : ∀ β : Nat → Nat, Proofs.Ytkjfecdpakhggaa.val β r = Proofs.Ytkjfecdpakhggaa.val (fun k => β (σ k)) r2
  rwf : r2.wf M2.length = true
theorem Spec.re {P : Program} {G M : Mm} {f : Nat} {args : List SV} {K K' : SV → Mm → Prop} (hS : Spec P G f args M K) (h : ∀ r M1, K r M1 → ∃ r2 M2 σ, Mv M.length M1 M2 σ r r2 ∧ K' r2 M2) : Spec P G f args M K' := by
  intro β w hR hw
  refine (hS β w hR hw).mono fun v w' hh => ?_
  obtain ⟨β1, M1, r, hE, hR1, ⟨hwf, rfl⟩, hK⟩ := hh
  obtain ⟨r2, M2, σ, hm, hK2⟩ := h r M1 hK
  have hn : G.length ≤ M.length := hR.gl
  refine ⟨fun k => β1 (σ k), M2, r2, ⟨fun k hk => ?_, hm.len, fun b hb => ?_, hE.fp, fun k e he => ?_, hm.new⟩, ⟨fun k e he hh => ?_, fun i j x y hx hy hij hr hxh hyh => ?_, fun g hg => ?_, Nat.le_trans hn hm.len, fun k hk => ?_, hR.ro, hm.wf⟩, ⟨hm.rwf, hm.val β1⟩, hK2⟩
  · rw [hm.low k hk]; exact hE.agree k hk
  · obtain ⟨k, e, he, hr, hb⟩ := hb
    obtain ⟨e1, h1, h2, h3⟩ := hm.rw k e he hr
    exact hE.rws b ⟨σ k, e1, h1, h2, h3 _ _ hb⟩
  · obtain ⟨c, h1, h2⟩ := hE.keep k e he
    obtain ⟨d, h3, h4⟩ := hm.keep k _ (lt_of_get he) h1
    exact ⟨d, h3, fun hr => (h4 hr).trans (h2 hr)⟩
  · obtain ⟨e1, h1, h2, h3, h4⟩ := hm.all k e he hh
    have := hR1.all (σ k) e1 h1 h2
    rw [h3, ← h4.at_eq] at this
    exact this
  · obtain ⟨x1, h1, h2, h3, h4⟩ := hm.all i x hx hxh
    obtain ⟨y1, k1, k2, k3, k4⟩ := hm.all j y hy hyh
    exact fun b hb hb' => hR1.dis _ _ _ _ h1 k1 (hm.inj i j x y hx hy hij hr hxh hyh) (by rw [h3]; exact hr) h2 k2 b ((h4.own_iff _ _).1 hb) ((k4.own_iff _ _).1 hb')
  · show β1 (σ g) = g
    rw [hm.low g (Nat.lt_of_lt_of_le hg hn)]; exact hR1.glob g hg
  · have h1 := hR1.pre k hk
    obtain ⟨e, he⟩ : ∃ e, G[k]? = some e := ⟨_, List.getElem?_eq_getElem hk⟩
    obtain ⟨hro, -⟩ := hR.ro k e he
    rw [he] at h1 ⊢
    obtain ⟨c, h3, h4⟩ := hm.keep k e (Nat.lt_of_lt_of_le hk hn) h1
    rw [h3, h4 hro]
/-- The same blocks, told otherwise ahead of a call. -/
structure Eqv (M M0 : Mm) : Prop where
  len : M.length = M0.length
  at' : ∀ (k : Nat) (e0 : Ent), M0[k]? = some e0 → ∃ e, M[k]? = some e ∧ e.rw = e0.rw ∧ (e0.c.here = true → e.c.here = true ∧ Alike (fun k => k) e0.c e.c) ∧ (e.rw = false → e.c = e0.c) ∧ (∀ b i, own b e0.c i → own b e.c i)
  wf : ∀ (k : Nat) (e0 : Ent), M0[k]? = some e0 → e0.c.wf M0.length = true
theorem Spec.pre {P : Program} {G M M0 : Mm} {f : Nat} {args args0 : List SV} {K : SV → Mm → Prop} (hS : Spec P G f args0 M0 K) (hv : ∀ β : Nat → Nat, vals β args = vals β args0) (ha : SV.wf.wfs M0.length args0 = true) (hE : Eqv M M0) : Spec P G f args M K := by
  intro β w hR hw
  have back : ∀ (k : Nat) (e : Ent), M[k]? = some e → ∃ e0, M0[k]? = some e0 ∧ e.rw = e0.rw ∧ (e.rw = false → e.c = e0.c) := fun k e he => by
    have hk := lt_of_get he
    obtain ⟨e0, h0⟩ : ∃ e0, M0[k]? = some e0 := ⟨_, List.getElem?_eq_getElem (by rw [← hE.len]; exact hk)⟩
    obtain ⟨e', h1, h2, -, h4, -⟩ := hE.at' k _ h0
    rw [he] at h1
    obtain rfl := Option.some.inj h1
    exact ⟨_, h0, h2, h4⟩
  have hR0 : Rel G β M0 w := by
    refine ⟨fun k e he hh => ?_, fun i j x y hx hy hij hr hxh hyh => ?_, hR.glob, by rw [← hE.len]; exact hR.gl, fun k hk => ?_, hR.ro, hE.wf⟩
    · obtain ⟨e1, h1, h2, h3, -⟩ := hE.at' k e he
      obtain ⟨h5, h6⟩ := h3 hh
      have := hR.all k e1 h1 h5
      rw [h2, ← h6.at_eq] at this
      exact this
    · obtain ⟨x1, h1, h2, h3, -⟩ := hE.at' i x hx
      obtain ⟨y1, k1, k2, k3, -⟩ := hE.at' j y hy
      exact fun b hb hb' => hR.dis _ _ _ _ h1 k1 hij (by rw [h2]; exact hr) (h3 hxh).1 (k3 hyh).1 b (((h3 hxh).2.own_iff _ _).1 hb) (((k3 hyh).2.own_iff _ _).1 hb')
    · have h1 := hR.pre k hk
      obtain ⟨e, he⟩ : ∃ e, G[k]? = some e := ⟨_, List.getElem?_eq_getElem hk⟩
      obtain ⟨hro, -⟩ := hR.ro k e he
      rw [he] at h1 ⊢
      obtain ⟨e0, h2, h3, h4⟩ := back k e h1
      rw [h2]
      obtain ⟨r0, c0⟩ := e0
      obtain ⟨r1, c1⟩ := e
      simp only at h3 h4 hro
      rw [← h3, ← h4 hro]
  have rws : ∀ b, rwset β M0 b → rwset β M b := fun b hb => by
    obtain ⟨k, e, he, hr, hb⟩ := hb
    obtain ⟨e1, h1, h2, -, -, h5⟩ := hE.at' k e he
    exact ⟨k, e1, h1, by rw [h2]; exact hr, h5 _ _ hb⟩
  rw [hv]
  refine (hS β w hR0 ha).mono fun v w' hh => ?_
  obtain ⟨β1, M1, r, hX, hR1, hr, hK⟩ := hh
  refine ⟨β1, M1, r, ⟨fun k hk => hX.agree k (by rw [← hE.len]; exact hk), by rw [hE.len]; exact hX.len, fun b hb => (hX.rws b hb).imp (rws b) id, hX.fp.mono (fun k _ hk => rws k hk), fun k e he => ?_, fun k e hk he => hX.new k e (by rw [← hE.len]; exact hk) he⟩, hR1, hr, hK⟩
  obtain ⟨e0, h1, h2, h3⟩ := back k e he
  obtain ⟨c, h4, h5⟩ := hX.keep k e0 h1
  exact ⟨c, by rw [h2]; exact h4, fun hf => (h5 (by rw [← h2]; exact hf)).trans (h3 hf).symm⟩
end Go.Proofs.Ytkjfecdpakhggaa
