/-
  A script of the statements, opened: the slice of its steps, step by step. No statement is proved here.
-/
import Derived.Test.YtenphgpmdigdcaaSchP
import Derived.ProofKit
import Derived.OpenShut
import Derived.Carry
import Derived.Deep.Slices
namespace Go.Proofs.Ytenphgpmdigdcaa
open Go.ChangeShapes Go.WideShapes Go.ChangeAt Go.RowKit Go.Deep
set_option linter.unusedVariables false
set_option linter.unusedSimpArgs false
set_option maxRecDepth 1000000
set_option maxHeartbeats 4000000

theorem Try.ownA : ownKnob Try.prog.godebug = none := by kernel_rfl
theorem cells37 : Try.prog.cellsOf 37 = 4 := by kernel_rfl
theorem cells3 : Try.prog.cellsOf 3 = 1 := by kernel_rfl
theorem cells35 : Try.prog.cellsOf 35 = 1 := by kernel_rfl
theorem cells32 : Try.prog.cellsOf 32 = 1 := by kernel_rfl
/-- A step: what it does, its three numbers. -/
structure St where
  d : Int
  i : Nat
  n : Nat
  m : Int
structure StepAt (w : World) (b o : Nat) (s : St) : Prop where
  c0 : w.cell? ⟨b, o, none⟩ = some (.int .i64 s.d)
  c1 : w.cell? ⟨b, o + 1, none⟩ = some (.int .u32 (s.i : Nat))
  c2 : w.cell? ⟨b, o + 2, none⟩ = some (.int .u64 (s.n : Nat))
  c3 : w.cell? ⟨b, o + 3, none⟩ = some (.int .i64 s.m)
  hi : s.i < 4294967296
  hn : s.n < 18446744073709551616
  hm : -9223372036854775808 ≤ s.m ∧ s.m ≤ 9223372036854775807
/-- A slice of steps. -/
def Steps (w : World) (v : Value) (len : Nat) (F : Nat → St) : Prop := len ≤ maxLen ∧ ((∃ p c, v = .slice p 0 c ∧ len = 0) ∨ ∃ b o c, v = .slice (some ⟨b, o, none⟩) len c ∧ ∀ i, i < len → StepAt w b (o + i * 4) (F i))
theorem wf_bounds {k : IntKind} {n : Int} (h : (Lit.int k n).wf = true) : k.min ≤ n ∧ n ≤ k.max := by simpa [Lit.wf] using h
section
variable {H : Type} {enc : TypeId × Value → H} {w : World} {base : Nat} {spare : Nat → Bool} {held : Bool}
/-- One step, opened. -/
theorem open_step {fuel : Nat} {a : Addr} {cs : List Value} {x : DataW H × List MemPlace} (hc : w.cells? base a 4 = some cs) (h : DataW.trod enc Try.prog w base spare held fuel 37 cs = some x) :
    a.spot = none ∧ ∃ s : St, StepAt w a.block a.off s := by
  obtain ⟨_, hlen, hcell⟩ := World.cells?_some hc
  obtain ⟨xs, k, hk, hxy, _, hxl, hf⟩ := DataW.trod_struct Try.underlying37 h
  match xs, hxl, cs, hlen with
  | [y0, y1, y2, y3], _, [v0, v1, v2, v3], _ =>
    have f0 := hf 0 _ rfl
    have f1 := hf 1 _ rfl
    have f2 := hf 2 _ rfl
    have f3 := hf 3 _ rfl
    simp [cells3, cells35, cells32] at f0 f1 f2 f3
    obtain ⟨n0, e0, _, w0⟩ := DataW.trod_int Try.underlying3 f0
    obtain ⟨n1, e1, _, w1⟩ := DataW.trod_int Try.underlying35 f1
    obtain ⟨n2, e2, _, w2⟩ := DataW.trod_int Try.underlying32 f2
    obtain ⟨n3, e3, _, w3⟩ := DataW.trod_int Try.underlying3 f3
    simp only [List.cons.injEq, and_true] at e0 e1 e2 e3
    subst e0; subst e1; subst e2; subst e3
    have c0 := hcell 0 (by omega)
    have c1 := hcell 1 (by omega)
    have c2 := hcell 2 (by omega)
    have c3 := hcell 3 (by omega)
    obtain ⟨b, off, spot⟩ := a
    have c0' : w.cell? ⟨b, off, spot⟩ = some (.int .i64 n0) := by simpa [Addr.add] using c0
    have hspot : spot = none := World.cell?_spot c0'
    subst hspot
    simp [Addr.add] at c0 c1 c2 c3
    have w1' := wf_bounds w1
    have w2' := wf_bounds w2
    have w3' := wf_bounds w3
    rw [show IntKind.u32.min = 0 from by decide, show IntKind.u32.max = 4294967295 from by decide] at w1'
    rw [show IntKind.u64.min = 0 from by decide, show IntKind.u64.max = 18446744073709551615 from by decide] at w2'
    rw [show IntKind.i64.min = -9223372036854775808 from by decide, show IntKind.i64.max = 9223372036854775807 from by decide] at w3'
    refine ⟨rfl, ⟨n0, n1.toNat, n2.toNat, n3⟩, c0, ?_, ?_, c3, ?_, ?_, w3'⟩
    · simp; rw [c1]; congr 2; omega
    · simp; rw [c2]; congr 2; omega
    · simp; omega
    · simp; omega
theorem open_steps {v : Value} {d : DataW H} {ps : List MemPlace} (hv : ∃ a len cap, v = .slice a len cap) (h : DataW.Trod enc Try.prog w base (fun _ => true) held 22 v d ps) : ∃ len F, Steps w v len F := by
  obtain ⟨a0, len0, cap0, rfl⟩ := hv
  obtain ⟨fuel, hf⟩ := h
  rcases open_slice Try.underlying22 hf with ⟨hcs, _⟩ | ⟨a, len, cap, m, n, D, Pl, hcs, _, hl, hm, hmm, _, hall⟩
  · simp [Value.cells] at hcs
    obtain ⟨rfl, rfl, rfl⟩ := hcs
    exact ⟨0, fun _ => ⟨0, 0, 0, 0⟩, Nat.zero_le _, .inl ⟨none, 0, rfl, rfl⟩⟩
  · simp [Value.cells] at hcs
    obtain ⟨rfl, rfl, rfl⟩ := hcs
    have hle : len0 ≤ m := by rw [hmm]; simp; exact hl
    rcases Nat.eq_zero_or_pos len0 with h0 | h0
    · subst h0
      exact ⟨0, fun _ => ⟨0, 0, 0, 0⟩, Nat.zero_le _, .inl ⟨_, _, rfl, rfl⟩⟩
    · have each : ∀ i, i < len0 → (a.add (i * 4)).spot = none ∧ ∃ s : St, StepAt w (a.add (i * 4)).block (a.add (i * 4)).off s := fun i hi => by
        obtain ⟨cs', h1, h2⟩ := hall i (by omega)
        rw [cells37] at h1
        exact open_step h1 h2
      obtain ⟨b, off, spot⟩ := a
      have hspot : spot = none := by simpa [Addr.add] using (each 0 h0).1
      subst hspot
      have : Inhabited St := ⟨⟨0, 0, 0, 0⟩⟩
      obtain ⟨F, hF⟩ := choose_lt (fun i hi => (each i hi).2)
      refine ⟨len0, F, Nat.le_trans hl hm, .inr ⟨b, off, cap0, rfl, fun i hi => ?_⟩⟩
      have := hF i hi
      rw [Go.WideShapes.add_plain] at this
      exact this
end
end Go.Proofs.Ytenphgpmdigdcaa
