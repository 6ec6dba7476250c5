/-
  NumRows: its walk's ends; a row of steps, opened. No statement is proved here.
-/
import Derived.Test.YtjaocjnefopdfaaDoorRowsB
import Derived.ProofKit
import Derived.OpenShut
import Derived.Carry
import Derived.Deep.Slices
namespace Go.Proofs.YtjaocjnefopdfaaDoor
open Go.RowKit Go.Lib Go.BigFrame Go.ChangeShapes Go.WideShapes Go.ChangeAt Go.Deep
set_option linter.unusedVariables false
set_option linter.unusedSimpArgs false
set_option maxRecDepth 1000000
set_option maxHeartbeats 4000000

theorem rows_no (s : ByteArray) (p : Option Addr) (n cap : Nat) (h : s.size ≠ 32 ∨ (s.size = 32 ∧ 100 < n)) (w : World) (hP : PV w) : Calls Tryd.prog 6 #[.string s, .slice p n cap] w fun e w' => e = .returned (.bool true) ∧ Fr [] w w' := by
  have hP2 := hid (p := _) hP
  have K10 := hid (p := _) (fun W (h : PV W) => alive_any W h)
  have F0 := hid (p := _) (Fr.refl [] w)
  rcases h with hs | ⟨hs, hn⟩
  · have K1 := fun W (h : PV W) => of_no s hs W
    rw [← wd_0] at K1
    have H1 := hid (p := _) K1
    clear K1 hs hP
    go_enter Tryd.func6, Tryd.ntmps6
    go_wp2_with (first | (go_at_call 9; with_reducible refine (H1.out _ hP2.out).mono ?_; rintro e V1 ⟨rfl, hF⟩; have F1 := hid (p := _) (F0.out.trans0 hF); clear hF) | (go_at_call 8; with_reducible refine (K10.out _ (hP2.out.fr (F1.out.alloc _))).mono ?_; rintro e V2 ⟨rfl, hF⟩; have F2 := hid (p := _) ((F1.out.alloc _).trans0 hF); clear hF))
    go_ret
    exact ⟨rfl, F2.out⟩
  · have K1 := fun W (h : PV W) => of_yes s hs W h
    obtain ⟨p0, p1, p2, p3, -, -, -, -, -, wp0⟩ := wd_open (of s) (lt4 (of_ltP s))
    rw [wp0] at K1
    have H1 := hid (p := _) K1
    have hni : (100 : Int) < (n : Int) := by omega
    clear K1 hs hP hn wp0
    go_enter Tryd.func6, Tryd.ntmps6
    go_wp2_with (first | (go_at_call 9; with_reducible refine (H1.out _ hP2.out).mono ?_; rintro e V1 ⟨rfl, hF⟩; have F1 := hid (p := _) (F0.out.trans0 hF); clear hF) | (go_at_call 8; with_reducible refine (K10.out _ (hP2.out.fr (F1.out.alloc _))).mono ?_; rintro e V2 ⟨rfl, hF⟩; have F2 := hid (p := _) ((F1.out.alloc _).trans0 hF); clear hF))
    go_ret
    exact ⟨rfl, F2.out⟩
theorem rows_zero (s : ByteArray) (hs : s.size = 32) (p : Option Addr) (cap : Nat) (w : World) (hP : PV w) : Calls Tryd.prog 6 #[.string s, .slice p 0 cap] w fun e w' => e = .returned (.bool true) ∧ Fr [] w w' := by
  have hP2 := hid (p := _) hP
  have aP := of_ltP s
  have K1 := fun W (h : PV W) => of_yes s hs W h
  have K2 := fun W => rof_any s hs W
  generalize of s = x at *
  have K3 := fun W => is_yes x (lt4 aP) W
  have Kv := hid (p := _) (fun W (h : PV W) => alive_any W h)
  obtain ⟨x0, x1, x2, x3, -, -, -, -, -, wx⟩ := wd_open x (lt4 aP)
  obtain ⟨a0, a1, a2, a3, a4, a5, a6, a7, a8, ea, wa⟩ := nd_open x
  rw [wx] at K1 K3
  rw [wa] at K2 K3
  have H1 := hid (p := _) K1
  have H2 := hid (p := _) K2
  have HN1 := hid (p := _) K3
  clear K1 K2 K3 hP hs aP wx wa ea
  have F0 := hid (p := _) (Fr.refl [] w)
  go_enter Tryd.func6, Tryd.ntmps6
  go_wp2_with (first | (go_at_call 9; with_reducible refine (H1.out _ hP2.out).mono ?_; rintro e V1 ⟨rfl, hF⟩; have F1 := hid (p := _) (F0.out.trans0 hF); clear hF) | (go_at_call 16; with_reducible refine (H2.out _).mono ?_; rintro e V2 ⟨rfl, hF⟩; have F2 := hid (p := _) ((F1.out.alloc _).trans0 hF); have A2 := hid (p := _) ((L4.new V1 28 _ _ _ _).fr hF); clear hF))
  go_loopg [8] 0 (fun gk q wr => gk = 0 ∧ q = .int .i64 0 ∧ Hid (Fr [] w wr ∧ L4 wr V1.heap.size 28 (.int .u64 (x0 : Nat)) (.int .u64 (x1 : Nat)) (.int .u64 (x2 : Nat)) (.int .u64 (x3 : Nat)) ∧ RW wr V2.heap.size 36 [a0, a1, a2, a3, a4, a5, a6, a7, a8]))
  case atStart => exact ⟨rfl, rfl, hid ⟨F2.out.alloc _, A2.out.alloc _, RW.of9 (heap_new0 V2 _)⟩⟩
  case round =>
    obtain ⟨hgk, rfl, K⟩ := hrel
    have L := K.out.2.1
    have C := K.out.2.2
    obtain ⟨_, _, _, _, _, _, _, _, _, _⟩ := L.all
    obtain ⟨_, _, _, _, _, _, _, _, _, _, _, _, _, _, _, _, _, _, _, _⟩ := C.all
    have KF := hid (p := _) K.out.1
    clear K L C
    go_wp2_with (first | (go_at_call 12; with_reducible refine (HN1.out _).mono ?_; rintro e V3 ⟨rfl, hF⟩; have F3 := hid (p := _) (KF.out.trans0 hF); clear hF) | (go_at_call 8; with_reducible refine (Kv.out _ (hP2.out.fr F3.out)).mono ?_; rintro e V4 ⟨rfl, hF⟩; have F4 := hid (p := _) (F3.out.trans0 hF); clear hF))
    go_ret
    exact ⟨rfl, F4.out⟩
/-- A slice of steps. -/
def Steps (w : World) (v : Value) (len : Nat) (D : Nat → Nat) (T : Nat → ByteArray) : Prop := (∃ p c, v = .slice p 0 c ∧ len = 0) ∨ ∃ b o c, v = .slice (some ⟨b, o, none⟩) len c ∧ ∀ i, i < len → StepAt w b (o + i * 2) (D i) (T i)
theorem rows_any (s : ByteArray) (v : Value) (len : Nat) (D : Nat → Nat) (T : Nat → ByteArray) (w : World) (hP : PV w) (hS : Steps w v len D T) : Calls Tryd.prog 6 #[.string s, v] w fun e w' => e = .returned (.bool true) ∧ Fr [] w w' := by
  by_cases h : s.size = 32
  · rcases hS with ⟨p, c, rfl, rfl⟩ | ⟨b, o, c, rfl, hS⟩
    · exact rows_zero s h p c w hP
    · by_cases hn : len ≤ 100
      · exact rows_yes s h len b o c D T hn w hP hS
      · exact rows_no s _ len c (.inr ⟨h, by omega⟩) w hP
  · rcases hS with ⟨p, c, rfl, rfl⟩ | ⟨b, o, c, rfl, hS⟩
    · exact rows_no s p 0 c (.inl h) w hP
    · exact rows_no s _ len c (.inl h) w hP
theorem cells54 : Tryd.prog.cellsOf 54 = 2 := by kernel_rfl
theorem cells5 : Tryd.prog.cellsOf 5 = 1 := by kernel_rfl
theorem cells9 : Tryd.prog.cellsOf 9 = 1 := by kernel_rfl
theorem wf_bounds {k : IntKind} {n : Int} (h : (Lit.int k n).wf = true) : k.min ≤ n ∧ n ≤ k.max := by simpa [Lit.wf] using h
section
variable {H : Type} {enc : TypeId × Value → H} {w : World} {base : Nat} {spare : Nat → Bool} {held : Bool}
/-- One step, opened. -/
theorem open_step {fuel : Nat} {a : Addr} {cs : List Value} {x : DataW H × List MemPlace} (hc : w.cells? base a 2 = some cs) (h : DataW.trod enc Tryd.prog w base spare held fuel 54 cs = some x) :
    a.spot = none ∧ ∃ s : Nat × ByteArray, StepAt w a.block a.off s.1 s.2 := by
  obtain ⟨_, hlen, hcell⟩ := World.cells?_some hc
  obtain ⟨xs, k, hk, hxy, _, hxl, hf⟩ := DataW.trod_struct Tryd.underlying54 h
  match xs, hxl, cs, hlen with
  | [y0, y1], _, [v0, v1], _ =>
    have f0 := hf 0 _ rfl
    have f1 := hf 1 _ rfl
    simp [cells5, cells9] at f0 f1
    obtain ⟨n0, e0, _, w0⟩ := DataW.trod_int Tryd.underlying5 f0
    obtain ⟨n1, e1, _, w1⟩ := DataW.trod_string Tryd.underlying9 f1
    simp only [List.cons.injEq, and_true] at e0 e1
    subst e0; subst e1
    have c0 := hcell 0 (by omega)
    have c1 := hcell 1 (by omega)
    obtain ⟨b, off, spot⟩ := a
    have c0' : w.cell? ⟨b, off, spot⟩ = some (.int .u8 n0) := by simpa [Addr.add] using c0
    have hspot : spot = none := World.cell?_spot c0'
    subst hspot
    simp [Addr.add] at c0 c1
    have w0' := wf_bounds w0
    rw [show IntKind.u8.min = 0 from by decide, show IntKind.u8.max = 255 from by decide] at w0'
    refine ⟨rfl, ⟨n0.toNat, n1⟩, ?_, c1⟩
    simp; rw [c0]; congr 2; omega
theorem open_steps {v : Value} {d : DataW H} {ps : List MemPlace} (hv : ∃ a len cap, v = .slice a len cap) (h : DataW.Trod enc Tryd.prog w base (fun _ => true) held 52 v d ps) : ∃ len D T, Steps w v len D T := by
  obtain ⟨a0, len0, cap0, rfl⟩ := hv
  obtain ⟨fuel, hf⟩ := h
  rcases open_slice Tryd.underlying52 hf with ⟨hcs, _⟩ | ⟨a, len, cap, m, n, D, Pl, hcs, _, hl, hm, hmm, _, hall⟩
  · simp [Value.cells] at hcs
    obtain ⟨rfl, rfl, rfl⟩ := hcs
    exact ⟨0, fun _ => 0, fun _ => ByteArray.empty, .inl ⟨none, 0, rfl, rfl⟩⟩
  · simp [Value.cells] at hcs
    obtain ⟨rfl, rfl, rfl⟩ := hcs
    have hle : len0 ≤ m := by rw [hmm]; simp; exact hl
    rcases Nat.eq_zero_or_pos len0 with h0 | h0
    · subst h0
      exact ⟨0, fun _ => 0, fun _ => ByteArray.empty, .inl ⟨_, _, rfl, rfl⟩⟩
    · have each : ∀ i, i < len0 → (a.add (i * 2)).spot = none ∧ ∃ s : Nat × ByteArray, StepAt w (a.add (i * 2)).block (a.add (i * 2)).off s.1 s.2 := fun i hi => by
        obtain ⟨cs', h1, h2⟩ := hall i (by omega)
        rw [cells54] at h1
        exact open_step h1 h2
      obtain ⟨b, off, spot⟩ := a
      have hspot : spot = none := by simpa [Addr.add] using (each 0 h0).1
      subst hspot
      obtain ⟨F, hF⟩ := choose_lt (fun i hi => (each i hi).2)
      refine ⟨len0, fun i => (F i).1, fun i => (F i).2, .inr ⟨b, off, cap0, rfl, fun i hi => ?_⟩⟩
      have := hF i hi
      rw [Go.WideShapes.add_plain] at this
      exact this
end
end Go.Proofs.YtjaocjnefopdfaaDoor

