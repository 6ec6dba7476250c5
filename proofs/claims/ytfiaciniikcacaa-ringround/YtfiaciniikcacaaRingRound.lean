/-
  RingRound of the statements of package ring, proved whole: for every power, every number of rounds and every order the call returns true: a device that keeps to the rules uses all chains, in whatever order, also where the indexes go round; what it says it wrote is told, and in the end all is free. There is no condition.
-/
import Derived.Test.YtfiaciniikcacaaRingSB
namespace Go.Proofs.Ytfiaciniikcacaa
open Go.ChangeShapes Go.WideShapes Go.ChangeAt Go.RowKit Go.Deep Go.BigFrame
set_option linter.unusedVariables false
set_option linter.unusedSimpArgs false
set_option maxRecDepth 1000000
set_option maxHeartbeats 4000000

theorem ringRound_many (pw rd ob oo on cap0 : Nat) (h200 : 200 < on) (hm : on ≤ maxLen) (w : World) :
    Calls Try.prog 4 #[.int .u8 pw, .int .u8 rd, .slice (some ⟨ob, oo, none⟩) on cap0] w fun e w' => e = .returned (.bool true) ∧ Fr [] w w' := by
  unfold maxLen at hm
  have d200 : decide ((200 : Int) < (on : Int)) = true := by simp; omega
  go_enter Try.func4, Try.ntmps4
  go_wp2_with fail
  refine (works_any _).mono ?_
  rintro e w2 ⟨rfl, hF2⟩
  go_wp2
  go_ret
  exact ⟨rfl, hF2⟩
section
variable {H : Type} {enc : TypeId × Value → H} {w : World} {base : Nat} {held : Bool}
theorem open_ords {v : Value} {d : DataW H} {ps : List MemPlace} (hv : ∃ a len cap, v = .slice a len cap) (h : DataW.Trod enc Try.prog w base (fun _ => true) held 57 v d ps) :
    (∃ p c, v = .slice p 0 c) ∨ ∃ b o n cap, v = .slice (some ⟨b, o, none⟩) n cap ∧ 1 ≤ n ∧ n ≤ maxLen ∧ ∀ i, i < n → ∃ y : Nat, y < 256 ∧ w.cell? ⟨b, o + i, none⟩ = some (.int .u8 (y : Nat)) := by
  obtain ⟨a0, len0, cap0, rfl⟩ := hv
  obtain ⟨fuel, hf⟩ := h
  rcases open_slice Try.underlying57 hf with ⟨hcs, _⟩ | ⟨a, len, cap, m, n, D, Pl, hcs, _, hl, hm, hmm, hx, hall⟩
  · simp [Value.cells] at hcs
    obtain ⟨rfl, rfl, rfl⟩ := hcs
    exact .inl ⟨none, 0, rfl⟩
  · simp [Value.cells] at hcs
    obtain ⟨rfl, rfl, rfl⟩ := hcs
    have hle : len0 ≤ m := by rw [hmm]; simp; exact hl
    rcases Nat.eq_zero_or_pos len0 with h0 | h0
    · subst h0
      exact .inl ⟨_, _, rfl⟩
    · have each : ∀ i, i < len0 → (a.add i).spot = none ∧ ∃ y : Nat, y < 256 ∧ w.cell? (a.add i) = some (.int .u8 (y : Nat)) := fun i hi => by
        obtain ⟨cs', h1, h2⟩ := hall i (by omega)
        rw [cells5, Nat.mul_one] at h1
        obtain ⟨_, hlen, hcell⟩ := World.cells?_some h1
        obtain ⟨n0, e0, _, w0⟩ := DataW.trod_int Try.underlying5 h2
        subst e0
        have c0 := hcell 0 (by omega)
        have w0' := wf_bounds w0
        rw [show IntKind.u8.min = 0 from by decide, show IntKind.u8.max = 255 from by decide] at w0'
        have c0' : w.cell? (a.add i) = some (.int .u8 n0) := by simpa [Addr.add] using c0
        refine ⟨World.cell?_spot c0', n0.toNat, by omega, ?_⟩
        rw [c0']
        congr 2
        omega
      obtain ⟨b, off, spot⟩ := a
      have hspot : spot = none := by simpa [Addr.add] using (each 0 h0).1
      subst hspot
      refine .inr ⟨b, off, len0, cap0, rfl, h0, Nat.le_trans hl hm, fun i hi => ?_⟩
      obtain ⟨_, y, hy, hc⟩ := each i hi
      rw [Go.WideShapes.add_plain] at hc
      exact ⟨y, hy, hc⟩
end
theorem Try.ownR : ownKnob Try.prog.godebug = none := by kernel_rfl

theorem ringRound_lifted (os : Os) (started : os.Started) (H : Type) (enc : TypeId × Value → H) :
    ReturnsInHanded {} Try.checked os 4 .any (Rows.ringRoundSpec.pre6 enc Try.prog Try.f4 Rows.ringRoundRow.domain false) (Rows.ringRoundSpec.post enc Try.prog Try.f4 false true false false) := by
  refine returnsInHanded_of_change (C := Try.checked) Try.ownR started (by kernel_rfl) Try.func4
    (ChangeSpec.witness6 (enc := enc) (C := Try.checked) false ⟨#[], #[.int .u8 0, .int .u8 0, .slice none 0 0], []⟩ 8 (by kernel_rfl) (by kernel_rfl) (by kernel_rfl) (by kernel_rfl)) ?_
  intro W base args ds gs before hval0 hW hcnd _
  have hval : ∀ (j : Nat) t v, Try.f4.params[j]? = some t → args[j]? = some v → Value.okWide Try.prog W .any base t v := hval0
  have hW' := hW
  obtain ⟨p, q, hA0, hV, rfl, hfz, hnd⟩ := hW
  have hA : DataW.TrodAll enc Try.prog W 0 (fun _ => true) true Try.f4.params.toList args.toList ds p := hA0
  rw [Try.params4] at hA hval
  obtain ⟨v0, vs0, d0, ds0, p0, q0, hargs, rfl, rfl, h0, r0⟩ := trodAll_cons hA
  obtain ⟨v1, vs1, d1, ds1, p1, q1, rfl, rfl, rfl, h1, r1⟩ := trodAll_cons r0
  obtain ⟨v2, vs2, d2, ds2, p2, q2, rfl, rfl, rfl, h2, r2⟩ := trodAll_cons r1
  obtain ⟨rfl, rfl, rfl⟩ := trodAll_nil r2
  obtain rfl : args = #[v0, v1, v2] := by cases args; simp_all
  obtain ⟨rfl, rfl⟩ := trodVars_none hV
  obtain ⟨a0, rfl, rfl, rfl, w0⟩ := open_int Try.underlying5 (hval 0 5 v0 rfl rfl) h0
  obtain ⟨a1, rfl, rfl, rfl, w1⟩ := open_int Try.underlying5 (hval 1 5 v1 rfl rfl) h1
  have h2k := h2
  have hS := open_ords (okWide_slice Try.underlying57 (hval 2 57 v2 rfl rfl)) h2
  have hlt : ∀ x ∈ p2, x.block < W.heap.size := fun x hx => by simpa using hW'.lt x (by simp [hx])
  clear hA0 hval0
  have w0' := wf_bounds w0
  have w1' := wf_bounds w1
  rw [show IntKind.u8.min = 0 from by decide, show IntKind.u8.max = 255 from by decide] at w0' w1'
  have hwalk : Calls Try.prog 4 #[.int .u8 (a0.toNat : Nat), .int .u8 (a1.toNat : Nat), v2] W fun e w' => e = .returned (.bool true) ∧ Fr [] W w' := by
    rcases hS with ⟨pp, cc, rfl⟩ | ⟨b, o, n, cap, rfl, hn1, hnm, hc⟩
    · exact ringRound_walk0 a0.toNat a1.toNat (by omega) (by omega) pp cc W
    · rcases Nat.lt_or_ge 200 n with h | h
      · exact ringRound_many a0.toNat a1.toNat b o n cap h hnm W
      · exact ringRound_walk1 a0.toNat a1.toNat (by omega) (by omega) b o n cap hn1 h W hc
  rw [show ((a0.toNat : Nat) : Int) = a0 by omega, show ((a1.toNat : Nat) : Int) = a1 by omega] at hwalk
  refine hwalk.mono fun e W' ⟨he, hF⟩ => ?_
  subst he
  have bel : Below W.heap.size W W' := hF.below _ (Nat.le_refl _) (fun k hk => by cases hk)
  exact ⟨_, rfl, _, _, _, [], _, [], hW', trodAll_mk1 (shut_bool Try.underlying4 _), (trodAll_cons_mk (shut_int Try.underlying5 w0) (trodAll_cons_mk (shut_int Try.underlying5 w1) (trodAll_cons_mk (Below.trod (by kernel_rfl) (by kernel_rfl) (of_decide_eq_true (by kernel_rfl)) h2k bel hlt) trodAll_mk0))), rfl, bel.frame _, fun h => by cases h⟩

theorem ring_round_holds : Rows.RingRoundSaid :=
  OpenClaim.holds_of_wide 4 Try.f4 rfl rfl rfl rfl rfl rfl rfl ⟨rfl, rfl, rfl, rfl, rfl⟩ rfl rfl rfl rfl rfl (by kernel_rfl) Try.func4 (by kernel_rfl)
    (of_decide_eq_true (by kernel_rfl)) (by unfold Func.isWrapper; first | (rw [if_pos (by decide +kernel)]; kernel_rfl) | (rw [if_neg (by decide +kernel)]; exact ⟨rfl, rfl⟩))
    (fun os started H enc _ => ringRound_lifted os started H enc)
#print axioms ring_round_holds
end Go.Proofs.Ytfiaciniikcacaa
