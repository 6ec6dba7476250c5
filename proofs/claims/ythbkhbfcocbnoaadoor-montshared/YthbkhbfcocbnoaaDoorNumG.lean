/-
  Package num: Sub, Select, squareOf. No statement is proved here.
-/
import Derived.Test.YthbkhbfcocbnoaaDoorNumF
namespace Go.Proofs.YthbkhbfcocbnoaaDoor
open Go.RowKit Go.Lib Go.BigFrame
set_option linter.unusedVariables false
set_option linter.unusedSimpArgs false
set_option maxRecDepth 1000000
set_option maxHeartbeats 4000000

theorem sub_gen {a b p m : Nat} (ha : a < p) (hb : b < p) (hp : p < m) : ((a + m - b) % m + bif decide (a < b) then p else 0) % m = (a + p - b) % p := by
  by_cases h : a < b
  · simp only [h, decide_true, cond_true]
    rw [Nat.mod_eq_of_lt (show a + m - b < m by omega), show a + m - b + p = (a + p - b) + m by omega, Nat.add_mod_right, Nat.mod_eq_of_lt (by omega), Nat.mod_eq_of_lt (by omega)]
  · simp only [h, decide_false, cond_false]
    rw [show a + m - b = (a - b) + m by omega, Nat.add_mod_right, show a + p - b = (a - b) + p by omega, Nat.add_mod_right, Nat.add_zero, Nat.mod_mod, Nat.mod_eq_of_lt (by omega), Nat.mod_eq_of_lt (by omega)]
theorem pickP_lt (s : Bool) : (bif s then Nt.P else 0) < 115792089237316195423570985008687907853269984665640564039457584007913129639936 := by
  cases s
  · exact (by decide : 0 < 115792089237316195423570985008687907853269984665640564039457584007913129639936)
  · exact P_lt
theorem sub_any (a b : Nat) (ha : a < Nt.P) (hb : b < Nt.P) (w : World) (hP : PV w) : Calls Tryd.prog 57 #[wd a, wd b] w fun e w' => e = .returned (wd ((a + Nt.P - b) % Nt.P)) ∧ Fr [] w w' := by
  have hP2 := hid (p := _) hP
  have hp := P_lt
  have hm : (a + 115792089237316195423570985008687907853269984665640564039457584007913129639936 - b) % 115792089237316195423570985008687907853269984665640564039457584007913129639936 < 115792089237316195423570985008687907853269984665640564039457584007913129639936 := Nat.mod_lt _ (by decide)
  have K1 := fun W => minus_any a b (lt4 ha) (lt4 hb) W
  have K2 := fun W => pick_any (decide (a < b)) 0 Nt.P (by decide) hp W
  have K3 := fun W => plus_any ((a + 115792089237316195423570985008687907853269984665640564039457584007913129639936 - b) % 115792089237316195423570985008687907853269984665640564039457584007913129639936) (bif decide (a < b) then Nt.P else 0) hm (pickP_lt _) W
  rw [sub_gen ha hb hp] at K3
  have hn := neg_bo a b
  have hc : (a + Nt.P - b) % Nt.P < 115792089237316195423570985008687907853269984665640564039457584007913129639936 := lt4 (Nat.mod_lt _ (by omega))
  obtain ⟨a0, a1, a2, a3, _, _, _, _, _, wa⟩ := wd_open a (lt4 ha)
  obtain ⟨b0, b1, b2, b3, _, _, _, _, _, wb⟩ := wd_open b (lt4 hb)
  obtain ⟨r0, r1, r2, r3, _, _, _, _, _, wr⟩ := wd_open _ hm
  obtain ⟨c0, c1, c2, c3, _, _, _, _, _, wc⟩ := wd_open _ hc
  rw [wa, wb, wr] at K1
  rw [← wd_0, ← wd_P] at K2
  rw [wr, wc] at K3
  rw [wa, wb, wc]
  have H1 := hid (p := _) K1
  have H2 := hid (p := _) K2
  have H3 := hid (p := _) K3
  clear K1 K2 K3 wa wb wr wc hc hm hp hP
  generalize wd (bif decide (a < b) then Nt.P else 0) = s at *
  generalize mk (decide (a < b)) = m at *
  generalize bo a b = d at *
  go_enter Tryd.func57, Tryd.ntmps57
  go_wp2_with (go_at_call 60; refine (H1.out _).mono ?_; rintro e V ⟨rfl, hF⟩; have B0 := (L4.new2 w _ _ 43 _ _ _ _).fr hF; have F0 := ((((Fr.refl [] w).alloc _).alloc _).alloc _).trans0 hF; clear hF)
  have F := F0.alloc (.cells #[.int .u64 (r0 : Nat), .int .u64 (r1 : Nat), .int .u64 (r2 : Nat), .int .u64 (r3 : Nat)] 41)
  have B := B0.alloc (.cells #[.int .u64 (r0 : Nat), .int .u64 (r1 : Nat), .int .u64 (r2 : Nat), .int .u64 (r3 : Nat)] 41)
  have R := L4.new V 41 (.int .u64 (r0 : Nat)) (.int .u64 (r1 : Nat)) (.int .u64 (r2 : Nat)) (.int .u64 (r3 : Nat))
  generalize V.alloc (.cells #[.int .u64 (r0 : Nat), .int .u64 (r1 : Nat), .int .u64 (r2 : Nat), .int .u64 (r3 : Nat)] 41) = W at *
  generalize V.heap.size = rb at *
  clear F0 B0
  obtain ⟨b0c, b1c, b2c, b3c, b4c, b5c, b6c, b7c, b8c, b9c⟩ := B.all
  obtain ⟨r0c, r1c, r2c, r3c, _, _, _, _, r8c, _⟩ := R.all
  have HPW := hP2.out.fr F
  have hz : 0 < W.heap.size := World.block_lt_of_cell? W _ HPW.p0
  obtain ⟨u0, u1, u2, u3⟩ := HPW
  refine wp_region_last_ext [_, _, _, _, _, _, _, _] _ (by kernel_rfl) (by kernel_rfl) (by kernel_rfl) (by kernel_rfl) (by kernel_rfl) ?_
  simp only [List.cons_append, List.nil_append, idle]
  repeat (go_big_quiet_step (first | exact Calls.ext_of (H2.out _) | exact Calls.ext_of (H3.out _)))
  refine wpQuiet_nil ?_
  rintro _ ⟨xq, rfl⟩
  go_simp
  go_wp2
  simp [bodyPost, results, Tryd.results57, go_sem, *]
  exact (F.ext xq).set4 (by omega) _ _ _ _

theorem select_any (s : Bool) (a b : Nat) (ha : a < 115792089237316195423570985008687907853269984665640564039457584007913129639936) (hb : b < 115792089237316195423570985008687907853269984665640564039457584007913129639936) (w : World) : Calls Tryd.prog 42 #[.bool s, wd a, wd b] w fun e w' => e = .returned (wd (bif s then b else a)) ∧ Fr [] w w' := by
  have K1 := fun W => mask_any s W
  have K2 := fun W => choose_any s a b ha hb W
  have hc : (bif s then b else a) < 115792089237316195423570985008687907853269984665640564039457584007913129639936 := by cases s <;> assumption
  obtain ⟨a0, a1, a2, a3, _, _, _, _, _, wa⟩ := wd_open a ha
  obtain ⟨b0, b1, b2, b3, _, _, _, _, _, wb⟩ := wd_open b hb
  obtain ⟨c0, c1, c2, c3, _, _, _, _, _, wc⟩ := wd_open _ hc
  rw [wa, wb, wc] at K2
  rw [wa, wb, wc]
  have H1 := hid (p := ∀ W : World, Calls Tryd.prog 53 #[.bool s] W fun e w' => e = .returned (.int .u64 (mk s)) ∧ Fr [] W w') (fun W => (K1 W).mono fun e w' h => ⟨h.1, h.2 ▸ Fr.refl [] _⟩)
  have H2 := hid (p := _) K2
  clear K1 K2 wa wb wc hc
  generalize mk s = m at *
  go_enter Tryd.func42, Tryd.ntmps42
  go_wp2_with fail
  have F := (((Fr.refl [] w).alloc (.cells #[.int .u64 (a0 : Nat), .int .u64 (a1 : Nat), .int .u64 (a2 : Nat), .int .u64 (a3 : Nat)] 43)).alloc (.cells #[.int .u64 (b0 : Nat), .int .u64 (b1 : Nat), .int .u64 (b2 : Nat), .int .u64 (b3 : Nat)] 43)).alloc (.cells #[.int .u64 0, .int .u64 0, .int .u64 0, .int .u64 0] 43)
  have A := ((L4.new w 43 (.int .u64 (a0 : Nat)) (.int .u64 (a1 : Nat)) (.int .u64 (a2 : Nat)) (.int .u64 (a3 : Nat))).alloc (.cells #[.int .u64 (b0 : Nat), .int .u64 (b1 : Nat), .int .u64 (b2 : Nat), .int .u64 (b3 : Nat)] 43)).alloc (.cells #[.int .u64 0, .int .u64 0, .int .u64 0, .int .u64 0] 43)
  have B := (L4.new1 w (.cells #[.int .u64 (a0 : Nat), .int .u64 (a1 : Nat), .int .u64 (a2 : Nat), .int .u64 (a3 : Nat)] 43) 43 (.int .u64 (b0 : Nat)) (.int .u64 (b1 : Nat)) (.int .u64 (b2 : Nat)) (.int .u64 (b3 : Nat))).alloc (.cells #[.int .u64 0, .int .u64 0, .int .u64 0, .int .u64 0] 43)
  have C := L4.new2 w (.cells #[.int .u64 (a0 : Nat), .int .u64 (a1 : Nat), .int .u64 (a2 : Nat), .int .u64 (a3 : Nat)] 43) (.cells #[.int .u64 (b0 : Nat), .int .u64 (b1 : Nat), .int .u64 (b2 : Nat), .int .u64 (b3 : Nat)] 43) 43 (.int .u64 0) (.int .u64 0) (.int .u64 0) (.int .u64 0)
  generalize ((w.alloc (.cells #[.int .u64 (a0 : Nat), .int .u64 (a1 : Nat), .int .u64 (a2 : Nat), .int .u64 (a3 : Nat)] 43)).alloc (.cells #[.int .u64 (b0 : Nat), .int .u64 (b1 : Nat), .int .u64 (b2 : Nat), .int .u64 (b3 : Nat)] 43)).alloc (.cells #[.int .u64 0, .int .u64 0, .int .u64 0, .int .u64 0] 43) = W at *
  obtain ⟨a0c, a1c, a2c, a3c, _, _, _, _, a8c, _⟩ := A.all
  obtain ⟨b0c, b1c, b2c, b3c, _, _, _, _, b8c, _⟩ := B.all
  obtain ⟨c0c, c1c, c2c, c3c, c4c, c5c, c6c, c7c, c8c, c9c⟩ := C.all
  refine wp_region_last_ext [_, _, _, _, _] _ (by kernel_rfl) (by kernel_rfl) (by kernel_rfl) (by kernel_rfl) (by kernel_rfl) ?_
  simp only [List.cons_append, List.nil_append, idle]
  repeat (go_big_quiet_step (first | exact Calls.ext_of (H1.out _) | exact Calls.ext_of (H2.out _)))
  refine wpQuiet_nil ?_
  rintro _ ⟨xq, rfl⟩
  go_simp
  go_wp2
  simp [bodyPost, results, Tryd.results42, go_sem, *]
  exact (F.ext xq).set4 (by omega) _ _ _ _

/-- For a quiet step: a callee that wants the package variables. -/
theorem Calls.ext_pv {P : Program} {f : FuncId} {args : Array Value} {w : World} {x : World} {v : Value} (hP : PV w)
    (h : ∀ W, PV W → Calls P f args W fun e w' => e = .returned v ∧ Fr [] W w') : Calls P f args (ext w x) fun e w'' => e = .returned v ∧ ∃ x, w'' = ext w x :=
  Calls.ext_of (h _ (hP.fr (ext_fr w x)))

theorem field_run (c0 c1 c2 c3 : Nat) (W : World) : (Instr.field 43 (Value.agg #[.int .u64 (c0 : Nat), .int .u64 (c1 : Nat), .int .u64 (c2 : Nat), .int .u64 (c3 : Nat)]) 0).run Tryd.prog W = .ok (Value.agg #[.int .u64 (c0 : Nat), .int .u64 (c1 : Nat), .int .u64 (c2 : Nat), .int .u64 (c3 : Nat)]) W := by
  rfl

end Go.Proofs.YthbkhbfcocbnoaaDoor
