/-
  A script of the statements, opened: the slice of its steps, step by step. No statement is proved here.
-/
import Derived.Test.YtbkfgidmjkbfmaaLaw
import Derived.ProofKit
import Derived.OpenShut
import Derived.Carry
import Derived.Deep.Slices
namespace Go.Proofs.Ytbkfgidmjkbfmaa
open Go.ChangeShapes Go.WideShapes Go.ChangeAt Go.RowKit Go.Deep
set_option linter.unusedVariables false
set_option linter.unusedSimpArgs false
set_option maxRecDepth 1000000
set_option maxHeartbeats 4000000

theorem Try.ownA : ownKnob Try.prog.godebug = none := by kernel_rfl
theorem cells42 : Try.prog.cellsOf 42 = 5 := by kernel_rfl
theorem cells3 : Try.prog.cellsOf 3 = 1 := by kernel_rfl
theorem cells22 : Try.prog.cellsOf 22 = 1 := by kernel_rfl
theorem cells40 : Try.prog.cellsOf 40 = 1 := by kernel_rfl
theorem cells9 : Try.prog.cellsOf 9 = 1 := by kernel_rfl

theorem wf_bounds {k : IntKind} {n : Int} (h : (Lit.int k n).wf = true) : k.min ≤ n ∧ n ≤ k.max := by simpa [Lit.wf] using h
section
variable {H : Type} {enc : TypeId × Value → H} {w : World} {base : Nat} {spare : Nat → Bool} {held : Bool}
/-- One step, opened. -/
theorem open_step {fuel : Nat} {a : Addr} {cs : List Value} {x : DataW H × List MemPlace} (hc : w.cells? base a 5 = some cs) (h : DataW.trod enc Try.prog w base spare held fuel 42 cs = some x) :
    a.spot = none ∧ ∃ s : St, StepAt w a.block a.off s := by
  obtain ⟨_, hlen, hcell⟩ := World.cells?_some hc
  obtain ⟨xs, k, hk, hxy, _, hxl, hf⟩ := DataW.trod_struct Try.underlying42 h
  match xs, hxl, cs, hlen with
  | [y0, y1, y2, y3, y4], _, [v0, v1, v2, v3, v4], _ =>
    have f0 := hf 0 _ rfl
    have f1 := hf 1 _ rfl
    have f2 := hf 2 _ rfl
    have f3 := hf 3 _ rfl
    have f4 := hf 4 _ rfl
    simp [cells3, cells22, cells40, cells9] at f0 f1 f2 f3 f4
    obtain ⟨n0, e0, _, w0⟩ := DataW.trod_int Try.underlying3 f0
    obtain ⟨n1, e1, _, w1⟩ := DataW.trod_int Try.underlying22 f1
    obtain ⟨n2, e2, _, w2⟩ := DataW.trod_int Try.underlying3 f2
    obtain ⟨n3, e3, _, w3⟩ := DataW.trod_int Try.underlying40 f3
    obtain ⟨s4, e4, _, w4⟩ := DataW.trod_string Try.underlying9 f4
    simp only [List.cons.injEq, and_true] at e0 e1 e2 e3 e4
    subst e0; subst e1; subst e2; subst e3; subst e4
    have c0 := hcell 0 (by omega)
    have c1 := hcell 1 (by omega)
    have c2 := hcell 2 (by omega)
    have c3 := hcell 3 (by omega)
    have c4 := hcell 4 (by omega)
    obtain ⟨b, off, spot⟩ := a
    have c0' : w.cell? ⟨b, off, spot⟩ = some (.int .i64 n0) := by simpa [Addr.add] using c0
    have hspot : spot = none := World.cell?_spot c0'
    subst hspot
    simp [Addr.add] at c0 c1 c2 c3 c4
    have w1' := wf_bounds w1
    have w2' := wf_bounds w2
    have w3' := wf_bounds w3
    rw [show IntKind.u32.min = 0 from by decide, show IntKind.u32.max = 4294967295 from by decide] at w1'
    rw [show IntKind.i64.min = -9223372036854775808 from by decide, show IntKind.i64.max = 9223372036854775807 from by decide] at w2'
    rw [show IntKind.u64.min = 0 from by decide, show IntKind.u64.max = 18446744073709551615 from by decide] at w3'
    refine ⟨rfl, ⟨n0, n1.toNat, n2, n3.toNat, s4⟩, c0, ?_, c2, ?_, c4, ?_, ?_, ?_, w4⟩
    · simp; rw [c1]; congr 2; omega
    · simp; rw [c3]; congr 2; omega
    · simp; omega
    · simp; omega
    · simp; omega
theorem open_steps {v : Value} {d : DataW H} {ps : List MemPlace} (hv : ∃ a len cap, v = .slice a len cap) (h : DataW.Trod enc Try.prog w base (fun _ => true) held 23 v d ps) : ∃ len F, Steps w v len F := by
  obtain ⟨a0, len0, cap0, rfl⟩ := hv
  obtain ⟨fuel, hf⟩ := h
  rcases open_slice Try.underlying23 hf with ⟨hcs, _⟩ | ⟨a, len, cap, m, n, D, Pl, hcs, _, hl, hm, hmm, _, hall⟩
  · simp [Value.cells] at hcs
    obtain ⟨rfl, rfl, rfl⟩ := hcs
    exact ⟨0, fun _ => ⟨0, 0, 0, 0, ByteArray.empty⟩, Nat.zero_le _, .inl ⟨none, 0, rfl, rfl⟩⟩
  · simp [Value.cells] at hcs
    obtain ⟨rfl, rfl, rfl⟩ := hcs
    have hle : len0 ≤ m := by rw [hmm]; simp; exact hl
    rcases Nat.eq_zero_or_pos len0 with h0 | h0
    · subst h0
      exact ⟨0, fun _ => ⟨0, 0, 0, 0, ByteArray.empty⟩, Nat.zero_le _, .inl ⟨_, _, rfl, rfl⟩⟩
    · have each : ∀ i, i < len0 → (a.add (i * 5)).spot = none ∧ ∃ s : St, StepAt w (a.add (i * 5)).block (a.add (i * 5)).off s := fun i hi => by
        obtain ⟨cs', h1, h2⟩ := hall i (by omega)
        rw [cells42] at h1
        exact open_step h1 h2
      obtain ⟨b, off, spot⟩ := a
      have hspot : spot = none := by simpa [Addr.add] using (each 0 h0).1
      subst hspot
      have : Inhabited St := ⟨⟨0, 0, 0, 0, ByteArray.empty⟩⟩
      obtain ⟨F, hF⟩ := choose_lt (fun i hi => (each i hi).2)
      refine ⟨len0, F, Nat.le_trans hl hm, .inr ⟨b, off, cap0, rfl, fun i hi => ?_⟩⟩
      have := hF i hi
      rw [Go.WideShapes.add_plain] at this
      exact this
end

end Go.Proofs.Ytbkfgidmjkbfmaa
