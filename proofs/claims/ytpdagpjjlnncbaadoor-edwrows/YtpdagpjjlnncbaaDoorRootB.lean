/-
  The document's numbers: Root, where the second try is one. No statement is proved here.
-/
import Derived.Test.YtpdagpjjlnncbaaDoorRootA
import Derived.Deep.RegionHeld3
import Derived.Deep.MidRow
namespace Go.Proofs.YtpdagpjjlnncbaaDoor
open Go.RowKit Go.Lib Go.BigFrame
set_option linter.unusedVariables false
set_option linter.unusedSimpArgs false
set_option maxRecDepth 1000000
set_option maxHeartbeats 4000000

theorem root_B_0_t_0 (a c r n : Nat) (aP : a < Nt.P) (cP : c < Nt.P) (rP : r < Nt.P) (nP : n < Nt.P) (K1 : ∀ W : World, Calls Tryd.prog 73 #[nd a, .int .i64 250, .string ⟨#[49, 48]⟩] W fun e w' => e = .returned (nd c) ∧ Fr [] W w') (hc : c * c % Nt.P ≠ a) (hI : c * Nt.I % Nt.P = r) (hr : r * r % Nt.P = a) (hp : r % 2 = 0) (hn : (0 + Nt.P - r) % Nt.P = n) (hm : n % 2 = 0) (w : World) : Calls Tryd.prog 41 #[nd a, .bool true] w fun e w' => e = .returned (.tuple #[nd n, .bool false]) ∧ Fr [] w w' := by
  have N1 := fun W => rmul_any c c (big_lt cP) (big_lt cP) (prod_K19 (lt4 cP) (lt4 cP)) W
  have N2 := fun W => rsmall_any 2 (by decide) W
  have N3 := fun W => rpower_any 2 Nt.P_two tI (by decide) W
  rw [px_i 2 rfl] at N3
  have N4 := fun W => rmul_any c Nt.I (big_lt cP) (big_lt I_lt) (prod_K19 (lt4 cP) (lt4 I_lt)) W
  rw [hI] at N4
  have N5 := fun W => rmul_any r r (big_lt rP) (big_lt rP) (prod_K19 (lt4 rP) (lt4 rP)) W
  rw [hr] at N5
  have N6 := fun W => rsub_any 0 r P_pos rP W
  rw [hn] at N6
  obtain ⟨a0, a1, a2, a3, a4, a5, a6, a7, a8, ea, wa⟩ := nd_open a
  obtain ⟨c0, c1, c2, c3, c4, c5, c6, c7, c8, ec, wc1⟩ := nd_open c
  obtain ⟨d0, d1, d2, d3, d4, d5, d6, d7, d8, ed, wd1⟩ := nd_open (c * c % Nt.P)
  obtain ⟨r0, r1, r2, r3, r4, r5, r6, r7, r8, er, wr1⟩ := nd_open r
  obtain ⟨n0, n1, n2, n3, n4, n5, n6, n7, n8, en, wn1⟩ := nd_open n
  have hE1 : ∀ W : World, (Op.equalIn 10000 34 (.agg #[.int .u64 (a0 : Nat), .int .u64 (a1 : Nat), .int .u64 (a2 : Nat), .int .u64 (a3 : Nat), .int .u64 (a4 : Nat), .int .u64 (a5 : Nat), .int .u64 (a6 : Nat), .int .u64 (a7 : Nat), .int .u64 (a8 : Nat)]) (.agg #[.int .u64 (a0 : Nat), .int .u64 (a1 : Nat), .int .u64 (a2 : Nat), .int .u64 (a3 : Nat), .int .u64 (a4 : Nat), .int .u64 (a5 : Nat), .int .u64 (a6 : Nat), .int .u64 (a7 : Nat), .int .u64 (a8 : Nat)])).run Tryd.prog W = .ok true W := fun W => eq_self a _ ea W
  have hE2 : ∀ W : World, (Op.equalIn 10000 34 (.agg #[.int .u64 (d0 : Nat), .int .u64 (d1 : Nat), .int .u64 (d2 : Nat), .int .u64 (d3 : Nat), .int .u64 (d4 : Nat), .int .u64 (d5 : Nat), .int .u64 (d6 : Nat), .int .u64 (d7 : Nat), .int .u64 (d8 : Nat)]) (.agg #[.int .u64 (a0 : Nat), .int .u64 (a1 : Nat), .int .u64 (a2 : Nat), .int .u64 (a3 : Nat), .int .u64 (a4 : Nat), .int .u64 (a5 : Nat), .int .u64 (a6 : Nat), .int .u64 (a7 : Nat), .int .u64 (a8 : Nat)])).run Tryd.prog W = .ok false W := fun W => eq_not _ a _ _ (Nat.mod_lt _ P_pos) aP ed ea hc W
  have f1 := par_bit r r0 _ er
  rw [hp] at f1
  have f2 := par_bit n n0 _ en
  rw [hm] at f2
  have z0 : nd 0 = .agg #[.int .u64 0, .int .u64 0, .int .u64 0, .int .u64 0, .int .u64 0, .int .u64 0, .int .u64 0, .int .u64 0, .int .u64 0] := rfl
  rw [wc1, wd1] at N1
  rw [wa, wc1] at K1
  rw [wc1, wr1] at N4
  rw [wr1, wa] at N5
  rw [z0, wr1, wn1] at N6
  rw [wa, wn1]
  generalize nd 2 = v2 at *
  generalize nd Nt.I = vI at *
  have N3 : ∀ W : World, Calls Tryd.prog 73 #[v2, .int .i64 250, .string ⟨#[48, 49, 49]⟩] W fun e w' => e = .returned vI ∧ Fr [] W w' := N3
  have HK1 := hid (p := _) K1
  have HN1 := hid (p := _) N1
  have HN2 := hid (p := _) N2
  have HN3 := hid (p := _) N3
  have HN4 := hid (p := _) N4
  have HN5 := hid (p := _) N5
  have HN6 := hid (p := _) N6
  clear K1 N1 N2 N3 N4 N5 N6 ea wa er wr1 z0 ec wc1 ed wd1 hc hI cP en wn1 hn hm hp hr aP rP nP
  have F0 := hid (p := _) (Fr.refl [] w)
  go_enter Tryd.func41, Tryd.ntmps41
  go_wp2_with (go_at_call 73; with_reducible refine (HK1.out _).mono ?_; rintro e V ⟨rfl, hF⟩; have F1 := hid (p := _) (((F0.out.alloc _).alloc _).trans0 hF); have A1 := hid (p := _) (((RW.of9 (t := 34) (heap_new0 w _)).alloc _).fr hF); have Z1 := hid (p := _) ((RW.ofz (t := 34) (heap_new1 w _ _)).fr hF); clear hF HK1)
  have G := F1.out.alloc (.cells #[.int .u64 (c0 : Nat), .int .u64 (c1 : Nat), .int .u64 (c2 : Nat), .int .u64 (c3 : Nat), .int .u64 (c4 : Nat), .int .u64 (c5 : Nat), .int .u64 (c6 : Nat), .int .u64 (c7 : Nat), .int .u64 (c8 : Nat)] 34)
  have A2 := A1.out.alloc (.cells #[.int .u64 (c0 : Nat), .int .u64 (c1 : Nat), .int .u64 (c2 : Nat), .int .u64 (c3 : Nat), .int .u64 (c4 : Nat), .int .u64 (c5 : Nat), .int .u64 (c6 : Nat), .int .u64 (c7 : Nat), .int .u64 (c8 : Nat)] 34)
  have Z2 := Z1.out.alloc (.cells #[.int .u64 (c0 : Nat), .int .u64 (c1 : Nat), .int .u64 (c2 : Nat), .int .u64 (c3 : Nat), .int .u64 (c4 : Nat), .int .u64 (c5 : Nat), .int .u64 (c6 : Nat), .int .u64 (c7 : Nat), .int .u64 (c8 : Nat)] 34)
  have C2 := RW.of9 (t := 34) (heap_new0 V (.cells #[.int .u64 (c0 : Nat), .int .u64 (c1 : Nat), .int .u64 (c2 : Nat), .int .u64 (c3 : Nat), .int .u64 (c4 : Nat), .int .u64 (c5 : Nat), .int .u64 (c6 : Nat), .int .u64 (c7 : Nat), .int .u64 (c8 : Nat)] 34))
  have lz := Z1.out.lt
  generalize V.alloc (.cells #[.int .u64 (c0 : Nat), .int .u64 (c1 : Nat), .int .u64 (c2 : Nat), .int .u64 (c3 : Nat), .int .u64 (c4 : Nat), .int .u64 (c5 : Nat), .int .u64 (c6 : Nat), .int .u64 (c7 : Nat), .int .u64 (c8 : Nat)] 34) = U at *
  generalize V.heap.size = cb at *
  clear F1 A1 Z1
  obtain ⟨_, _, _, _, _, _, _, _, _, _, _, _, _, _, _, _, _, _, _, _⟩ := A2.all
  obtain ⟨_, _, _, _, _, _, _, _, _, _, _, _, _, _, _, _, _, _, _, _⟩ := C2.all
  have HG := hid (p := _) G
  have HA := hid (p := _) A2
  have HZ := hid (p := _) Z2
  have HC := hid (p := _) C2
  clear G A2 Z2 C2
  refine wp_region_ext (by kernel_rfl) (by kernel_rfl) ?_
  repeat (go_big_quiet_step (with_reducible exact Calls.ext_of (HN1.out _)))
  refine wpQuiet_nil ?_
  rintro _ ⟨xq, rfl⟩
  have G := HG.out.ext xq
  have A2 := HA.out.ext xq
  have Z2 := HZ.out.ext xq
  have C2 := HC.out.ext xq
  generalize ext U xq = U2 at *
  clear HG HA HZ HC
  obtain ⟨_, _, _, _, _, _, _, _, _, _, _, _, _, _, _, _, _, _, _, _⟩ := A2.all
  obtain ⟨_, _, _, _, _, _, _, _, _, _, _, _, _, _, _, _, _, _, _, _⟩ := C2.all
  have HG := hid (p := _) G
  have HA := hid (p := _) A2
  have HZ := hid (p := _) Z2
  have HC := hid (p := _) C2
  clear G A2 Z2 C2
  go_simp
  go_wp2_with fail
  refine wp_region_last_ext [_, _, _, _] _ (by kernel_rfl) (by kernel_rfl) (by kernel_rfl) (by kernel_rfl) (by kernel_rfl) ?_
  simp only [List.cons_append, List.nil_append, idle]
  repeat (go_big_quiet_step (first | with_reducible exact Calls.ext_of (HN2.out _) | with_reducible exact Calls.ext_of (HN3.out _) | with_reducible exact Calls.ext_of (HN4.out _)))
  refine wpQuiet_nil ?_
  rintro _ ⟨xq, rfl⟩
  have hge := HG.out.size
  have hcb : w.heap.size + 1 + 1 ≤ cb := by omega
  have G := (HG.out.ext xq).set9 (b := cb) (by omega) (.int .u64 (r0 : Nat)) (.int .u64 (r1 : Nat)) (.int .u64 (r2 : Nat)) (.int .u64 (r3 : Nat)) (.int .u64 (r4 : Nat)) (.int .u64 (r5 : Nat)) (.int .u64 (r6 : Nat)) (.int .u64 (r7 : Nat)) (.int .u64 (r8 : Nat))
  have A2 := (HA.out.ext xq).other9 (b' := cb) (by omega) (.int .u64 (r0 : Nat)) (.int .u64 (r1 : Nat)) (.int .u64 (r2 : Nat)) (.int .u64 (r3 : Nat)) (.int .u64 (r4 : Nat)) (.int .u64 (r5 : Nat)) (.int .u64 (r6 : Nat)) (.int .u64 (r7 : Nat)) (.int .u64 (r8 : Nat))
  have Z2 := (HZ.out.ext xq).other9 (b' := cb) (by omega) (.int .u64 (r0 : Nat)) (.int .u64 (r1 : Nat)) (.int .u64 (r2 : Nat)) (.int .u64 (r3 : Nat)) (.int .u64 (r4 : Nat)) (.int .u64 (r5 : Nat)) (.int .u64 (r6 : Nat)) (.int .u64 (r7 : Nat)) (.int .u64 (r8 : Nat))
  have C2 := (HC.out.ext xq).set9 r0 r1 r2 r3 r4 r5 r6 r7 r8
  go_simp
  go_wp2_with fail
  generalize (((((((((ext U2 xq).setCell ⟨cb, 0, none⟩ (.int .u64 (r0 : Nat))).setCell ⟨cb, 1, none⟩ (.int .u64 (r1 : Nat))).setCell ⟨cb, 2, none⟩ (.int .u64 (r2 : Nat))).setCell ⟨cb, 3, none⟩ (.int .u64 (r3 : Nat))).setCell ⟨cb, 4, none⟩ (.int .u64 (r4 : Nat))).setCell ⟨cb, 5, none⟩ (.int .u64 (r5 : Nat))).setCell ⟨cb, 6, none⟩ (.int .u64 (r6 : Nat))).setCell ⟨cb, 7, none⟩ (.int .u64 (r7 : Nat))).setCell ⟨cb, 8, none⟩ (.int .u64 (r8 : Nat)) = U3 at *
  clear HG HA HZ HC
  obtain ⟨_, _, _, _, _, _, _, _, _, _, _, _, _, _, _, _, _, _, _, _⟩ := A2.all
  obtain ⟨_, _, _, _, _, _, _, _, _, _, _, _, _, _, _, _, _, _, _, _⟩ := C2.all
  have HG := hid (p := _) G
  have HA := hid (p := _) A2
  have HZ := hid (p := _) Z2
  have HC := hid (p := _) C2
  clear G A2 Z2 C2 hge hcb
  refine wp_region_ext (by kernel_rfl) (by kernel_rfl) ?_
  repeat (go_big_quiet_step (with_reducible exact Calls.ext_of (HN5.out _)))
  refine wpQuiet_nil ?_
  rintro _ ⟨xq, rfl⟩
  have G := HG.out.ext xq
  have Z2 := HZ.out.ext xq
  have C2 := HC.out.ext xq
  generalize ext U3 xq = U4 at *
  obtain ⟨_, _, _, _, _, _, _, _, _, _, _, _, _, _, _, _, _, _, _, _⟩ := Z2.all
  obtain ⟨_, _, _, _, _, _, _, _, _, _, _, _, _, _, _, _, _, _, _, _⟩ := C2.all
  go_simp
  go_wp2_with (go_at_call 38; with_reducible refine (HN6.out _).mono ?_; rintro e V5 ⟨rfl, hF⟩; have G5 := hid (p := _) (G.trans0 hF); have Z5 := Z2.fr hF; have C5 := C2.fr hF; obtain ⟨_, _, _, _, _, _, _, _, _, _, _, _, _, _, _, _, _, _, _, _⟩ := Z5.all; obtain ⟨_, _, _, _, _, _, _, _, _, _, _, _, _, _, _, _, _, _, _, _⟩ := C5.all; clear hF)
  have hge : w.heap.size + 1 + 1 ≤ cb := by omega
  have G6 := G5.out.set9 (b := cb) (by omega) (.int .u64 (n0 : Nat)) (.int .u64 (n1 : Nat)) (.int .u64 (n2 : Nat)) (.int .u64 (n3 : Nat)) (.int .u64 (n4 : Nat)) (.int .u64 (n5 : Nat)) (.int .u64 (n6 : Nat)) (.int .u64 (n7 : Nat)) (.int .u64 (n8 : Nat))
  have Z6 := Z5.other9 (b' := cb) (by omega) (.int .u64 (n0 : Nat)) (.int .u64 (n1 : Nat)) (.int .u64 (n2 : Nat)) (.int .u64 (n3 : Nat)) (.int .u64 (n4 : Nat)) (.int .u64 (n5 : Nat)) (.int .u64 (n6 : Nat)) (.int .u64 (n7 : Nat)) (.int .u64 (n8 : Nat))
  have C6 := C5.set9 n0 n1 n2 n3 n4 n5 n6 n7 n8
  generalize (((((((((V5).setCell ⟨cb, 0, none⟩ (.int .u64 (n0 : Nat))).setCell ⟨cb, 1, none⟩ (.int .u64 (n1 : Nat))).setCell ⟨cb, 2, none⟩ (.int .u64 (n2 : Nat))).setCell ⟨cb, 3, none⟩ (.int .u64 (n3 : Nat))).setCell ⟨cb, 4, none⟩ (.int .u64 (n4 : Nat))).setCell ⟨cb, 5, none⟩ (.int .u64 (n5 : Nat))).setCell ⟨cb, 6, none⟩ (.int .u64 (n6 : Nat))).setCell ⟨cb, 7, none⟩ (.int .u64 (n7 : Nat))).setCell ⟨cb, 8, none⟩ (.int .u64 (n8 : Nat)) = U5 at *
  clear HG HA HZ HC G Z2 C2 G5 Z5 C5
  obtain ⟨_, _, _, _, _, _, _, _, _, _, _, _, _, _, _, _, _, _, _, _⟩ := Z6.all
  obtain ⟨_, _, _, _, _, _, _, _, _, _, _, _, _, _, _, _, _, _, _, _⟩ := C6.all
  have HGf := hid (p := _) G6
  clear G6
  have hcz : cb ≠ w.heap.size + 1 := by omega
  have hcz2 : w.heap.size + 1 ≠ cb := by omega
  obtain ⟨cs, hcs⟩ : ∃ cs : List Value, cs = [.int .u64 (n0 : Nat), .int .u64 (n1 : Nat), .int .u64 (n2 : Nat), .int .u64 (n3 : Nat), .int .u64 (n4 : Nat), .int .u64 (n5 : Nat), .int .u64 (n6 : Nat), .int .u64 (n7 : Nat), .int .u64 (n8 : Nat)] := ⟨_, rfl⟩
  have hr : U5.rangeAt cb 0 cs := by rw [hcs]; exact C6.range9
  have ht : U5.there (w.heap.size + 1) 0 9 := Z6.there9 rfl
  have hu36 := Tryd.underlying34
  have hl9 : cs.length = 9 := by rw [hcs]; rfl
  have hi36 : (Tryd.prog.info? 34).map (·.size) = some cs.length := by rw [hl9]; exact info36
  have h1c : ∀ v ∈ cs, v.oneCell' = true := by rw [hcs]; intro v hv; simp at hv; rcases hv with rfl | rfl | rfl | rfl | rfl | rfl | rfl | rfl | rfl <;> rfl
  have hc0 : U5.cell? ⟨cb, 0, none⟩ = some (.int .u64 (n0 : Nat)) := C6.cell 0 (by simp)
  have HCS := hid (p := _) hcs
  clear hcs
  go_region_held3 (fun V' => V'.rangeAt cb 0 cs ∧ V'.there (w.heap.size + 1) 0 9 ∧ V'.cell? ⟨cb, 0, none⟩ = some (.int .u64 (n0 : Nat))) (first | exact ⟨World.rangeAt_setCells_apart ‹_› _ _ _ (.inl hcz), World.there_setCells ‹_› _ _ _, (World.rangeAt_setCells_apart ‹_› _ _ _ (.inl hcz)) 0 _ (by rw [HCS.out]; rfl)⟩ | exact ⟨hr, ht, hc0⟩) (fail)
  go_wp2_with fail
  refine bodyPost_ret (results_cell_tmp Tryd.results41 rfl rfl (run_loadVar_mid _ (w.heap.size + 1) 0 34 cs (.array 9 23) (World.rangeAt_setCells_same _ _ _ _ (by rw [hl9]; exact ht)) hu36 rfl hi36)) rfl ⟨?_, ?_⟩
  · rw [HCS.out]; rfl
  · exact Fr.setCells (by omega) _ _ _ (by first | exact HGf.out.drew | exact HGf.out)
theorem root_B_0_t_1 (a c r n : Nat) (aP : a < Nt.P) (cP : c < Nt.P) (rP : r < Nt.P) (nP : n < Nt.P) (K1 : ∀ W : World, Calls Tryd.prog 73 #[nd a, .int .i64 250, .string ⟨#[49, 48]⟩] W fun e w' => e = .returned (nd c) ∧ Fr [] W w') (hc : c * c % Nt.P ≠ a) (hI : c * Nt.I % Nt.P = r) (hr : r * r % Nt.P = a) (hp : r % 2 = 0) (hn : (0 + Nt.P - r) % Nt.P = n) (hm : n % 2 = 1) (w : World) : Calls Tryd.prog 41 #[nd a, .bool true] w fun e w' => e = .returned (.tuple #[nd n, .bool true]) ∧ Fr [] w w' := by
  have N1 := fun W => rmul_any c c (big_lt cP) (big_lt cP) (prod_K19 (lt4 cP) (lt4 cP)) W
  have N2 := fun W => rsmall_any 2 (by decide) W
  have N3 := fun W => rpower_any 2 Nt.P_two tI (by decide) W
  rw [px_i 2 rfl] at N3
  have N4 := fun W => rmul_any c Nt.I (big_lt cP) (big_lt I_lt) (prod_K19 (lt4 cP) (lt4 I_lt)) W
  rw [hI] at N4
  have N5 := fun W => rmul_any r r (big_lt rP) (big_lt rP) (prod_K19 (lt4 rP) (lt4 rP)) W
  rw [hr] at N5
  have N6 := fun W => rsub_any 0 r P_pos rP W
  rw [hn] at N6
  obtain ⟨a0, a1, a2, a3, a4, a5, a6, a7, a8, ea, wa⟩ := nd_open a
  obtain ⟨c0, c1, c2, c3, c4, c5, c6, c7, c8, ec, wc1⟩ := nd_open c
  obtain ⟨d0, d1, d2, d3, d4, d5, d6, d7, d8, ed, wd1⟩ := nd_open (c * c % Nt.P)
  obtain ⟨r0, r1, r2, r3, r4, r5, r6, r7, r8, er, wr1⟩ := nd_open r
  obtain ⟨n0, n1, n2, n3, n4, n5, n6, n7, n8, en, wn1⟩ := nd_open n
  have hE1 : ∀ W : World, (Op.equalIn 10000 34 (.agg #[.int .u64 (a0 : Nat), .int .u64 (a1 : Nat), .int .u64 (a2 : Nat), .int .u64 (a3 : Nat), .int .u64 (a4 : Nat), .int .u64 (a5 : Nat), .int .u64 (a6 : Nat), .int .u64 (a7 : Nat), .int .u64 (a8 : Nat)]) (.agg #[.int .u64 (a0 : Nat), .int .u64 (a1 : Nat), .int .u64 (a2 : Nat), .int .u64 (a3 : Nat), .int .u64 (a4 : Nat), .int .u64 (a5 : Nat), .int .u64 (a6 : Nat), .int .u64 (a7 : Nat), .int .u64 (a8 : Nat)])).run Tryd.prog W = .ok true W := fun W => eq_self a _ ea W
  have hE2 : ∀ W : World, (Op.equalIn 10000 34 (.agg #[.int .u64 (d0 : Nat), .int .u64 (d1 : Nat), .int .u64 (d2 : Nat), .int .u64 (d3 : Nat), .int .u64 (d4 : Nat), .int .u64 (d5 : Nat), .int .u64 (d6 : Nat), .int .u64 (d7 : Nat), .int .u64 (d8 : Nat)]) (.agg #[.int .u64 (a0 : Nat), .int .u64 (a1 : Nat), .int .u64 (a2 : Nat), .int .u64 (a3 : Nat), .int .u64 (a4 : Nat), .int .u64 (a5 : Nat), .int .u64 (a6 : Nat), .int .u64 (a7 : Nat), .int .u64 (a8 : Nat)])).run Tryd.prog W = .ok false W := fun W => eq_not _ a _ _ (Nat.mod_lt _ P_pos) aP ed ea hc W
  have f1 := par_bit r r0 _ er
  rw [hp] at f1
  have f2 := par_bit n n0 _ en
  rw [hm] at f2
  have z0 : nd 0 = .agg #[.int .u64 0, .int .u64 0, .int .u64 0, .int .u64 0, .int .u64 0, .int .u64 0, .int .u64 0, .int .u64 0, .int .u64 0] := rfl
  rw [wc1, wd1] at N1
  rw [wa, wc1] at K1
  rw [wc1, wr1] at N4
  rw [wr1, wa] at N5
  rw [z0, wr1, wn1] at N6
  rw [wa, wn1]
  generalize nd 2 = v2 at *
  generalize nd Nt.I = vI at *
  have N3 : ∀ W : World, Calls Tryd.prog 73 #[v2, .int .i64 250, .string ⟨#[48, 49, 49]⟩] W fun e w' => e = .returned vI ∧ Fr [] W w' := N3
  have HK1 := hid (p := _) K1
  have HN1 := hid (p := _) N1
  have HN2 := hid (p := _) N2
  have HN3 := hid (p := _) N3
  have HN4 := hid (p := _) N4
  have HN5 := hid (p := _) N5
  have HN6 := hid (p := _) N6
  clear K1 N1 N2 N3 N4 N5 N6 ea wa er wr1 z0 ec wc1 ed wd1 hc hI cP en wn1 hn hm hp hr aP rP nP
  have F0 := hid (p := _) (Fr.refl [] w)
  go_enter Tryd.func41, Tryd.ntmps41
  go_wp2_with (go_at_call 73; with_reducible refine (HK1.out _).mono ?_; rintro e V ⟨rfl, hF⟩; have F1 := hid (p := _) (((F0.out.alloc _).alloc _).trans0 hF); have A1 := hid (p := _) (((RW.of9 (t := 34) (heap_new0 w _)).alloc _).fr hF); have Z1 := hid (p := _) ((RW.ofz (t := 34) (heap_new1 w _ _)).fr hF); clear hF HK1)
  have G := F1.out.alloc (.cells #[.int .u64 (c0 : Nat), .int .u64 (c1 : Nat), .int .u64 (c2 : Nat), .int .u64 (c3 : Nat), .int .u64 (c4 : Nat), .int .u64 (c5 : Nat), .int .u64 (c6 : Nat), .int .u64 (c7 : Nat), .int .u64 (c8 : Nat)] 34)
  have A2 := A1.out.alloc (.cells #[.int .u64 (c0 : Nat), .int .u64 (c1 : Nat), .int .u64 (c2 : Nat), .int .u64 (c3 : Nat), .int .u64 (c4 : Nat), .int .u64 (c5 : Nat), .int .u64 (c6 : Nat), .int .u64 (c7 : Nat), .int .u64 (c8 : Nat)] 34)
  have Z2 := Z1.out.alloc (.cells #[.int .u64 (c0 : Nat), .int .u64 (c1 : Nat), .int .u64 (c2 : Nat), .int .u64 (c3 : Nat), .int .u64 (c4 : Nat), .int .u64 (c5 : Nat), .int .u64 (c6 : Nat), .int .u64 (c7 : Nat), .int .u64 (c8 : Nat)] 34)
  have C2 := RW.of9 (t := 34) (heap_new0 V (.cells #[.int .u64 (c0 : Nat), .int .u64 (c1 : Nat), .int .u64 (c2 : Nat), .int .u64 (c3 : Nat), .int .u64 (c4 : Nat), .int .u64 (c5 : Nat), .int .u64 (c6 : Nat), .int .u64 (c7 : Nat), .int .u64 (c8 : Nat)] 34))
  have lz := Z1.out.lt
  generalize V.alloc (.cells #[.int .u64 (c0 : Nat), .int .u64 (c1 : Nat), .int .u64 (c2 : Nat), .int .u64 (c3 : Nat), .int .u64 (c4 : Nat), .int .u64 (c5 : Nat), .int .u64 (c6 : Nat), .int .u64 (c7 : Nat), .int .u64 (c8 : Nat)] 34) = U at *
  generalize V.heap.size = cb at *
  clear F1 A1 Z1
  obtain ⟨_, _, _, _, _, _, _, _, _, _, _, _, _, _, _, _, _, _, _, _⟩ := A2.all
  obtain ⟨_, _, _, _, _, _, _, _, _, _, _, _, _, _, _, _, _, _, _, _⟩ := C2.all
  have HG := hid (p := _) G
  have HA := hid (p := _) A2
  have HZ := hid (p := _) Z2
  have HC := hid (p := _) C2
  clear G A2 Z2 C2
  refine wp_region_ext (by kernel_rfl) (by kernel_rfl) ?_
  repeat (go_big_quiet_step (with_reducible exact Calls.ext_of (HN1.out _)))
  refine wpQuiet_nil ?_
  rintro _ ⟨xq, rfl⟩
  have G := HG.out.ext xq
  have A2 := HA.out.ext xq
  have Z2 := HZ.out.ext xq
  have C2 := HC.out.ext xq
  generalize ext U xq = U2 at *
  clear HG HA HZ HC
  obtain ⟨_, _, _, _, _, _, _, _, _, _, _, _, _, _, _, _, _, _, _, _⟩ := A2.all
  obtain ⟨_, _, _, _, _, _, _, _, _, _, _, _, _, _, _, _, _, _, _, _⟩ := C2.all
  have HG := hid (p := _) G
  have HA := hid (p := _) A2
  have HZ := hid (p := _) Z2
  have HC := hid (p := _) C2
  clear G A2 Z2 C2
  go_simp
  go_wp2_with fail
  refine wp_region_last_ext [_, _, _, _] _ (by kernel_rfl) (by kernel_rfl) (by kernel_rfl) (by kernel_rfl) (by kernel_rfl) ?_
  simp only [List.cons_append, List.nil_append, idle]
  repeat (go_big_quiet_step (first | with_reducible exact Calls.ext_of (HN2.out _) | with_reducible exact Calls.ext_of (HN3.out _) | with_reducible exact Calls.ext_of (HN4.out _)))
  refine wpQuiet_nil ?_
  rintro _ ⟨xq, rfl⟩
  have hge := HG.out.size
  have hcb : w.heap.size + 1 + 1 ≤ cb := by omega
  have G := (HG.out.ext xq).set9 (b := cb) (by omega) (.int .u64 (r0 : Nat)) (.int .u64 (r1 : Nat)) (.int .u64 (r2 : Nat)) (.int .u64 (r3 : Nat)) (.int .u64 (r4 : Nat)) (.int .u64 (r5 : Nat)) (.int .u64 (r6 : Nat)) (.int .u64 (r7 : Nat)) (.int .u64 (r8 : Nat))
  have A2 := (HA.out.ext xq).other9 (b' := cb) (by omega) (.int .u64 (r0 : Nat)) (.int .u64 (r1 : Nat)) (.int .u64 (r2 : Nat)) (.int .u64 (r3 : Nat)) (.int .u64 (r4 : Nat)) (.int .u64 (r5 : Nat)) (.int .u64 (r6 : Nat)) (.int .u64 (r7 : Nat)) (.int .u64 (r8 : Nat))
  have Z2 := (HZ.out.ext xq).other9 (b' := cb) (by omega) (.int .u64 (r0 : Nat)) (.int .u64 (r1 : Nat)) (.int .u64 (r2 : Nat)) (.int .u64 (r3 : Nat)) (.int .u64 (r4 : Nat)) (.int .u64 (r5 : Nat)) (.int .u64 (r6 : Nat)) (.int .u64 (r7 : Nat)) (.int .u64 (r8 : Nat))
  have C2 := (HC.out.ext xq).set9 r0 r1 r2 r3 r4 r5 r6 r7 r8
  go_simp
  go_wp2_with fail
  generalize (((((((((ext U2 xq).setCell ⟨cb, 0, none⟩ (.int .u64 (r0 : Nat))).setCell ⟨cb, 1, none⟩ (.int .u64 (r1 : Nat))).setCell ⟨cb, 2, none⟩ (.int .u64 (r2 : Nat))).setCell ⟨cb, 3, none⟩ (.int .u64 (r3 : Nat))).setCell ⟨cb, 4, none⟩ (.int .u64 (r4 : Nat))).setCell ⟨cb, 5, none⟩ (.int .u64 (r5 : Nat))).setCell ⟨cb, 6, none⟩ (.int .u64 (r6 : Nat))).setCell ⟨cb, 7, none⟩ (.int .u64 (r7 : Nat))).setCell ⟨cb, 8, none⟩ (.int .u64 (r8 : Nat)) = U3 at *
  clear HG HA HZ HC
  obtain ⟨_, _, _, _, _, _, _, _, _, _, _, _, _, _, _, _, _, _, _, _⟩ := A2.all
  obtain ⟨_, _, _, _, _, _, _, _, _, _, _, _, _, _, _, _, _, _, _, _⟩ := C2.all
  have HG := hid (p := _) G
  have HA := hid (p := _) A2
  have HZ := hid (p := _) Z2
  have HC := hid (p := _) C2
  clear G A2 Z2 C2 hge hcb
  refine wp_region_ext (by kernel_rfl) (by kernel_rfl) ?_
  repeat (go_big_quiet_step (with_reducible exact Calls.ext_of (HN5.out _)))
  refine wpQuiet_nil ?_
  rintro _ ⟨xq, rfl⟩
  have G := HG.out.ext xq
  have Z2 := HZ.out.ext xq
  have C2 := HC.out.ext xq
  generalize ext U3 xq = U4 at *
  obtain ⟨_, _, _, _, _, _, _, _, _, _, _, _, _, _, _, _, _, _, _, _⟩ := Z2.all
  obtain ⟨_, _, _, _, _, _, _, _, _, _, _, _, _, _, _, _, _, _, _, _⟩ := C2.all
  go_simp
  go_wp2_with (go_at_call 38; with_reducible refine (HN6.out _).mono ?_; rintro e V5 ⟨rfl, hF⟩; have G5 := hid (p := _) (G.trans0 hF); have Z5 := Z2.fr hF; have C5 := C2.fr hF; obtain ⟨_, _, _, _, _, _, _, _, _, _, _, _, _, _, _, _, _, _, _, _⟩ := Z5.all; obtain ⟨_, _, _, _, _, _, _, _, _, _, _, _, _, _, _, _, _, _, _, _⟩ := C5.all; clear hF)
  have hge : w.heap.size + 1 + 1 ≤ cb := by omega
  have G6 := G5.out.set9 (b := cb) (by omega) (.int .u64 (n0 : Nat)) (.int .u64 (n1 : Nat)) (.int .u64 (n2 : Nat)) (.int .u64 (n3 : Nat)) (.int .u64 (n4 : Nat)) (.int .u64 (n5 : Nat)) (.int .u64 (n6 : Nat)) (.int .u64 (n7 : Nat)) (.int .u64 (n8 : Nat))
  have Z6 := Z5.other9 (b' := cb) (by omega) (.int .u64 (n0 : Nat)) (.int .u64 (n1 : Nat)) (.int .u64 (n2 : Nat)) (.int .u64 (n3 : Nat)) (.int .u64 (n4 : Nat)) (.int .u64 (n5 : Nat)) (.int .u64 (n6 : Nat)) (.int .u64 (n7 : Nat)) (.int .u64 (n8 : Nat))
  have C6 := C5.set9 n0 n1 n2 n3 n4 n5 n6 n7 n8
  generalize (((((((((V5).setCell ⟨cb, 0, none⟩ (.int .u64 (n0 : Nat))).setCell ⟨cb, 1, none⟩ (.int .u64 (n1 : Nat))).setCell ⟨cb, 2, none⟩ (.int .u64 (n2 : Nat))).setCell ⟨cb, 3, none⟩ (.int .u64 (n3 : Nat))).setCell ⟨cb, 4, none⟩ (.int .u64 (n4 : Nat))).setCell ⟨cb, 5, none⟩ (.int .u64 (n5 : Nat))).setCell ⟨cb, 6, none⟩ (.int .u64 (n6 : Nat))).setCell ⟨cb, 7, none⟩ (.int .u64 (n7 : Nat))).setCell ⟨cb, 8, none⟩ (.int .u64 (n8 : Nat)) = U5 at *
  clear HG HA HZ HC G Z2 C2 G5 Z5 C5
  obtain ⟨_, _, _, _, _, _, _, _, _, _, _, _, _, _, _, _, _, _, _, _⟩ := Z6.all
  obtain ⟨_, _, _, _, _, _, _, _, _, _, _, _, _, _, _, _, _, _, _, _⟩ := C6.all
  have HGf := hid (p := _) G6
  clear G6
  have hcz : cb ≠ w.heap.size + 1 := by omega
  have hcz2 : w.heap.size + 1 ≠ cb := by omega
  obtain ⟨cs, hcs⟩ : ∃ cs : List Value, cs = [.int .u64 (n0 : Nat), .int .u64 (n1 : Nat), .int .u64 (n2 : Nat), .int .u64 (n3 : Nat), .int .u64 (n4 : Nat), .int .u64 (n5 : Nat), .int .u64 (n6 : Nat), .int .u64 (n7 : Nat), .int .u64 (n8 : Nat)] := ⟨_, rfl⟩
  have hr : U5.rangeAt cb 0 cs := by rw [hcs]; exact C6.range9
  have ht : U5.there (w.heap.size + 1) 0 9 := Z6.there9 rfl
  have hu36 := Tryd.underlying34
  have hl9 : cs.length = 9 := by rw [hcs]; rfl
  have hi36 : (Tryd.prog.info? 34).map (·.size) = some cs.length := by rw [hl9]; exact info36
  have h1c : ∀ v ∈ cs, v.oneCell' = true := by rw [hcs]; intro v hv; simp at hv; rcases hv with rfl | rfl | rfl | rfl | rfl | rfl | rfl | rfl | rfl <;> rfl
  have hc0 : U5.cell? ⟨cb, 0, none⟩ = some (.int .u64 (n0 : Nat)) := C6.cell 0 (by simp)
  have HCS := hid (p := _) hcs
  clear hcs
  go_region_held3 (fun V' => V'.rangeAt cb 0 cs ∧ V'.there (w.heap.size + 1) 0 9 ∧ V'.cell? ⟨cb, 0, none⟩ = some (.int .u64 (n0 : Nat))) (first | exact ⟨World.rangeAt_setCells_apart ‹_› _ _ _ (.inl hcz), World.there_setCells ‹_› _ _ _, (World.rangeAt_setCells_apart ‹_› _ _ _ (.inl hcz)) 0 _ (by rw [HCS.out]; rfl)⟩ | exact ⟨hr, ht, hc0⟩) (fail)
  go_wp2_with fail
  refine bodyPost_ret (results_cell_tmp Tryd.results41 rfl rfl (run_loadVar_mid _ (w.heap.size + 1) 0 34 cs (.array 9 23) (World.rangeAt_setCells_same _ _ _ _ (by rw [hl9]; exact ht)) hu36 rfl hi36)) rfl ⟨?_, ?_⟩
  · rw [HCS.out]; rfl
  · exact Fr.setCells (by omega) _ _ _ (by first | exact HGf.out.drew | exact HGf.out)
theorem root_B_0_f (a c r n : Nat) (aP : a < Nt.P) (cP : c < Nt.P) (rP : r < Nt.P) (nP : n < Nt.P) (K1 : ∀ W : World, Calls Tryd.prog 73 #[nd a, .int .i64 250, .string ⟨#[49, 48]⟩] W fun e w' => e = .returned (nd c) ∧ Fr [] W w') (hc : c * c % Nt.P ≠ a) (hI : c * Nt.I % Nt.P = r) (hr : r * r % Nt.P = a) (hp : r % 2 = 0) (w : World) : Calls Tryd.prog 41 #[nd a, .bool false] w fun e w' => e = .returned (.tuple #[nd r, .bool true]) ∧ Fr [] w w' := by
  have N1 := fun W => rmul_any c c (big_lt cP) (big_lt cP) (prod_K19 (lt4 cP) (lt4 cP)) W
  have N2 := fun W => rsmall_any 2 (by decide) W
  have N3 := fun W => rpower_any 2 Nt.P_two tI (by decide) W
  rw [px_i 2 rfl] at N3
  have N4 := fun W => rmul_any c Nt.I (big_lt cP) (big_lt I_lt) (prod_K19 (lt4 cP) (lt4 I_lt)) W
  rw [hI] at N4
  have N5 := fun W => rmul_any r r (big_lt rP) (big_lt rP) (prod_K19 (lt4 rP) (lt4 rP)) W
  rw [hr] at N5
  obtain ⟨a0, a1, a2, a3, a4, a5, a6, a7, a8, ea, wa⟩ := nd_open a
  obtain ⟨c0, c1, c2, c3, c4, c5, c6, c7, c8, ec, wc1⟩ := nd_open c
  obtain ⟨d0, d1, d2, d3, d4, d5, d6, d7, d8, ed, wd1⟩ := nd_open (c * c % Nt.P)
  obtain ⟨r0, r1, r2, r3, r4, r5, r6, r7, r8, er, wr1⟩ := nd_open r
  have hE1 : ∀ W : World, (Op.equalIn 10000 34 (.agg #[.int .u64 (a0 : Nat), .int .u64 (a1 : Nat), .int .u64 (a2 : Nat), .int .u64 (a3 : Nat), .int .u64 (a4 : Nat), .int .u64 (a5 : Nat), .int .u64 (a6 : Nat), .int .u64 (a7 : Nat), .int .u64 (a8 : Nat)]) (.agg #[.int .u64 (a0 : Nat), .int .u64 (a1 : Nat), .int .u64 (a2 : Nat), .int .u64 (a3 : Nat), .int .u64 (a4 : Nat), .int .u64 (a5 : Nat), .int .u64 (a6 : Nat), .int .u64 (a7 : Nat), .int .u64 (a8 : Nat)])).run Tryd.prog W = .ok true W := fun W => eq_self a _ ea W
  have hE2 : ∀ W : World, (Op.equalIn 10000 34 (.agg #[.int .u64 (d0 : Nat), .int .u64 (d1 : Nat), .int .u64 (d2 : Nat), .int .u64 (d3 : Nat), .int .u64 (d4 : Nat), .int .u64 (d5 : Nat), .int .u64 (d6 : Nat), .int .u64 (d7 : Nat), .int .u64 (d8 : Nat)]) (.agg #[.int .u64 (a0 : Nat), .int .u64 (a1 : Nat), .int .u64 (a2 : Nat), .int .u64 (a3 : Nat), .int .u64 (a4 : Nat), .int .u64 (a5 : Nat), .int .u64 (a6 : Nat), .int .u64 (a7 : Nat), .int .u64 (a8 : Nat)])).run Tryd.prog W = .ok false W := fun W => eq_not _ a _ _ (Nat.mod_lt _ P_pos) aP ed ea hc W
  have f1 := par_bit r r0 _ er
  rw [hp] at f1
  have z0 : nd 0 = .agg #[.int .u64 0, .int .u64 0, .int .u64 0, .int .u64 0, .int .u64 0, .int .u64 0, .int .u64 0, .int .u64 0, .int .u64 0] := rfl
  rw [wc1, wd1] at N1
  rw [wa, wc1] at K1
  rw [wc1, wr1] at N4
  rw [wr1, wa] at N5
  rw [wa, wr1]
  generalize nd 2 = v2 at *
  generalize nd Nt.I = vI at *
  have N3 : ∀ W : World, Calls Tryd.prog 73 #[v2, .int .i64 250, .string ⟨#[48, 49, 49]⟩] W fun e w' => e = .returned vI ∧ Fr [] W w' := N3
  have HK1 := hid (p := _) K1
  have HN1 := hid (p := _) N1
  have HN2 := hid (p := _) N2
  have HN3 := hid (p := _) N3
  have HN4 := hid (p := _) N4
  have HN5 := hid (p := _) N5
  clear K1 N1 N2 N3 N4 N5 ea wa er wr1 z0 ec wc1 ed wd1 hc hI cP hp hr aP rP nP
  have F0 := hid (p := _) (Fr.refl [] w)
  go_enter Tryd.func41, Tryd.ntmps41
  go_wp2_with (go_at_call 73; with_reducible refine (HK1.out _).mono ?_; rintro e V ⟨rfl, hF⟩; have F1 := hid (p := _) (((F0.out.alloc _).alloc _).trans0 hF); have A1 := hid (p := _) (((RW.of9 (t := 34) (heap_new0 w _)).alloc _).fr hF); have Z1 := hid (p := _) ((RW.ofz (t := 34) (heap_new1 w _ _)).fr hF); clear hF HK1)
  have G := F1.out.alloc (.cells #[.int .u64 (c0 : Nat), .int .u64 (c1 : Nat), .int .u64 (c2 : Nat), .int .u64 (c3 : Nat), .int .u64 (c4 : Nat), .int .u64 (c5 : Nat), .int .u64 (c6 : Nat), .int .u64 (c7 : Nat), .int .u64 (c8 : Nat)] 34)
  have A2 := A1.out.alloc (.cells #[.int .u64 (c0 : Nat), .int .u64 (c1 : Nat), .int .u64 (c2 : Nat), .int .u64 (c3 : Nat), .int .u64 (c4 : Nat), .int .u64 (c5 : Nat), .int .u64 (c6 : Nat), .int .u64 (c7 : Nat), .int .u64 (c8 : Nat)] 34)
  have Z2 := Z1.out.alloc (.cells #[.int .u64 (c0 : Nat), .int .u64 (c1 : Nat), .int .u64 (c2 : Nat), .int .u64 (c3 : Nat), .int .u64 (c4 : Nat), .int .u64 (c5 : Nat), .int .u64 (c6 : Nat), .int .u64 (c7 : Nat), .int .u64 (c8 : Nat)] 34)
  have C2 := RW.of9 (t := 34) (heap_new0 V (.cells #[.int .u64 (c0 : Nat), .int .u64 (c1 : Nat), .int .u64 (c2 : Nat), .int .u64 (c3 : Nat), .int .u64 (c4 : Nat), .int .u64 (c5 : Nat), .int .u64 (c6 : Nat), .int .u64 (c7 : Nat), .int .u64 (c8 : Nat)] 34))
  have lz := Z1.out.lt
  generalize V.alloc (.cells #[.int .u64 (c0 : Nat), .int .u64 (c1 : Nat), .int .u64 (c2 : Nat), .int .u64 (c3 : Nat), .int .u64 (c4 : Nat), .int .u64 (c5 : Nat), .int .u64 (c6 : Nat), .int .u64 (c7 : Nat), .int .u64 (c8 : Nat)] 34) = U at *
  generalize V.heap.size = cb at *
  clear F1 A1 Z1
  obtain ⟨_, _, _, _, _, _, _, _, _, _, _, _, _, _, _, _, _, _, _, _⟩ := A2.all
  obtain ⟨_, _, _, _, _, _, _, _, _, _, _, _, _, _, _, _, _, _, _, _⟩ := C2.all
  have HG := hid (p := _) G
  have HA := hid (p := _) A2
  have HZ := hid (p := _) Z2
  have HC := hid (p := _) C2
  clear G A2 Z2 C2
  refine wp_region_ext (by kernel_rfl) (by kernel_rfl) ?_
  repeat (go_big_quiet_step (with_reducible exact Calls.ext_of (HN1.out _)))
  refine wpQuiet_nil ?_
  rintro _ ⟨xq, rfl⟩
  have G := HG.out.ext xq
  have A2 := HA.out.ext xq
  have Z2 := HZ.out.ext xq
  have C2 := HC.out.ext xq
  generalize ext U xq = U2 at *
  clear HG HA HZ HC
  obtain ⟨_, _, _, _, _, _, _, _, _, _, _, _, _, _, _, _, _, _, _, _⟩ := A2.all
  obtain ⟨_, _, _, _, _, _, _, _, _, _, _, _, _, _, _, _, _, _, _, _⟩ := C2.all
  have HG := hid (p := _) G
  have HA := hid (p := _) A2
  have HZ := hid (p := _) Z2
  have HC := hid (p := _) C2
  clear G A2 Z2 C2
  go_simp
  go_wp2_with fail
  refine wp_region_last_ext [_, _, _, _] _ (by kernel_rfl) (by kernel_rfl) (by kernel_rfl) (by kernel_rfl) (by kernel_rfl) ?_
  simp only [List.cons_append, List.nil_append, idle]
  repeat (go_big_quiet_step (first | with_reducible exact Calls.ext_of (HN2.out _) | with_reducible exact Calls.ext_of (HN3.out _) | with_reducible exact Calls.ext_of (HN4.out _)))
  refine wpQuiet_nil ?_
  rintro _ ⟨xq, rfl⟩
  have hge := HG.out.size
  have hcb : w.heap.size + 1 + 1 ≤ cb := by omega
  have G := (HG.out.ext xq).set9 (b := cb) (by omega) (.int .u64 (r0 : Nat)) (.int .u64 (r1 : Nat)) (.int .u64 (r2 : Nat)) (.int .u64 (r3 : Nat)) (.int .u64 (r4 : Nat)) (.int .u64 (r5 : Nat)) (.int .u64 (r6 : Nat)) (.int .u64 (r7 : Nat)) (.int .u64 (r8 : Nat))
  have A2 := (HA.out.ext xq).other9 (b' := cb) (by omega) (.int .u64 (r0 : Nat)) (.int .u64 (r1 : Nat)) (.int .u64 (r2 : Nat)) (.int .u64 (r3 : Nat)) (.int .u64 (r4 : Nat)) (.int .u64 (r5 : Nat)) (.int .u64 (r6 : Nat)) (.int .u64 (r7 : Nat)) (.int .u64 (r8 : Nat))
  have Z2 := (HZ.out.ext xq).other9 (b' := cb) (by omega) (.int .u64 (r0 : Nat)) (.int .u64 (r1 : Nat)) (.int .u64 (r2 : Nat)) (.int .u64 (r3 : Nat)) (.int .u64 (r4 : Nat)) (.int .u64 (r5 : Nat)) (.int .u64 (r6 : Nat)) (.int .u64 (r7 : Nat)) (.int .u64 (r8 : Nat))
  have C2 := (HC.out.ext xq).set9 r0 r1 r2 r3 r4 r5 r6 r7 r8
  go_simp
  go_wp2_with fail
  generalize (((((((((ext U2 xq).setCell ⟨cb, 0, none⟩ (.int .u64 (r0 : Nat))).setCell ⟨cb, 1, none⟩ (.int .u64 (r1 : Nat))).setCell ⟨cb, 2, none⟩ (.int .u64 (r2 : Nat))).setCell ⟨cb, 3, none⟩ (.int .u64 (r3 : Nat))).setCell ⟨cb, 4, none⟩ (.int .u64 (r4 : Nat))).setCell ⟨cb, 5, none⟩ (.int .u64 (r5 : Nat))).setCell ⟨cb, 6, none⟩ (.int .u64 (r6 : Nat))).setCell ⟨cb, 7, none⟩ (.int .u64 (r7 : Nat))).setCell ⟨cb, 8, none⟩ (.int .u64 (r8 : Nat)) = U3 at *
  clear HG HA HZ HC
  obtain ⟨_, _, _, _, _, _, _, _, _, _, _, _, _, _, _, _, _, _, _, _⟩ := A2.all
  obtain ⟨_, _, _, _, _, _, _, _, _, _, _, _, _, _, _, _, _, _, _, _⟩ := C2.all
  have HG := hid (p := _) G
  have HA := hid (p := _) A2
  have HZ := hid (p := _) Z2
  have HC := hid (p := _) C2
  clear G A2 Z2 C2 hge hcb
  refine wp_region_ext (by kernel_rfl) (by kernel_rfl) ?_
  repeat (go_big_quiet_step (with_reducible exact Calls.ext_of (HN5.out _)))
  refine wpQuiet_nil ?_
  rintro _ ⟨xq, rfl⟩
  have G := HG.out.ext xq
  have Z2 := HZ.out.ext xq
  have C2 := HC.out.ext xq
  generalize ext U3 xq = U4 at *
  obtain ⟨_, _, _, _, _, _, _, _, _, _, _, _, _, _, _, _, _, _, _, _⟩ := Z2.all
  obtain ⟨_, _, _, _, _, _, _, _, _, _, _, _, _, _, _, _, _, _, _, _⟩ := C2.all
  have HGf := hid (p := _) G
  clear HG HA HZ HC G
  go_simp
  go_wp2_with fail
  have hcz : cb ≠ w.heap.size + 1 := by omega
  have hcz2 : w.heap.size + 1 ≠ cb := by omega
  obtain ⟨cs, hcs⟩ : ∃ cs : List Value, cs = [.int .u64 (r0 : Nat), .int .u64 (r1 : Nat), .int .u64 (r2 : Nat), .int .u64 (r3 : Nat), .int .u64 (r4 : Nat), .int .u64 (r5 : Nat), .int .u64 (r6 : Nat), .int .u64 (r7 : Nat), .int .u64 (r8 : Nat)] := ⟨_, rfl⟩
  have hr : U4.rangeAt cb 0 cs := by rw [hcs]; exact C2.range9
  have ht : U4.there (w.heap.size + 1) 0 9 := Z2.there9 rfl
  have hu36 := Tryd.underlying34
  have hl9 : cs.length = 9 := by rw [hcs]; rfl
  have hi36 : (Tryd.prog.info? 34).map (·.size) = some cs.length := by rw [hl9]; exact info36
  have h1c : ∀ v ∈ cs, v.oneCell' = true := by rw [hcs]; intro v hv; simp at hv; rcases hv with rfl | rfl | rfl | rfl | rfl | rfl | rfl | rfl | rfl <;> rfl
  have hc0 : U4.cell? ⟨cb, 0, none⟩ = some (.int .u64 (r0 : Nat)) := C2.cell 0 (by simp)
  have HCS := hid (p := _) hcs
  clear hcs
  go_region_held3 (fun V' => V'.rangeAt cb 0 cs ∧ V'.there (w.heap.size + 1) 0 9 ∧ V'.cell? ⟨cb, 0, none⟩ = some (.int .u64 (r0 : Nat))) (first | exact ⟨World.rangeAt_setCells_apart ‹_› _ _ _ (.inl hcz), World.there_setCells ‹_› _ _ _, (World.rangeAt_setCells_apart ‹_› _ _ _ (.inl hcz)) 0 _ (by rw [HCS.out]; rfl)⟩ | exact ⟨hr, ht, hc0⟩) (fail)
  go_wp2_with fail
  refine bodyPost_ret (results_cell_tmp Tryd.results41 rfl rfl (run_loadVar_mid _ (w.heap.size + 1) 0 34 cs (.array 9 23) (World.rangeAt_setCells_same _ _ _ _ (by rw [hl9]; exact ht)) hu36 rfl hi36)) rfl ⟨?_, ?_⟩
  · rw [HCS.out]; rfl
  · exact Fr.setCells (by omega) _ _ _ (by first | exact HGf.out.drew | exact HGf.out)
theorem root_B_1_t (a c r n : Nat) (aP : a < Nt.P) (cP : c < Nt.P) (rP : r < Nt.P) (nP : n < Nt.P) (K1 : ∀ W : World, Calls Tryd.prog 73 #[nd a, .int .i64 250, .string ⟨#[49, 48]⟩] W fun e w' => e = .returned (nd c) ∧ Fr [] W w') (hc : c * c % Nt.P ≠ a) (hI : c * Nt.I % Nt.P = r) (hr : r * r % Nt.P = a) (hp : r % 2 = 1) (w : World) : Calls Tryd.prog 41 #[nd a, .bool true] w fun e w' => e = .returned (.tuple #[nd r, .bool true]) ∧ Fr [] w w' := by
  have N1 := fun W => rmul_any c c (big_lt cP) (big_lt cP) (prod_K19 (lt4 cP) (lt4 cP)) W
  have N2 := fun W => rsmall_any 2 (by decide) W
  have N3 := fun W => rpower_any 2 Nt.P_two tI (by decide) W
  rw [px_i 2 rfl] at N3
  have N4 := fun W => rmul_any c Nt.I (big_lt cP) (big_lt I_lt) (prod_K19 (lt4 cP) (lt4 I_lt)) W
  rw [hI] at N4
  have N5 := fun W => rmul_any r r (big_lt rP) (big_lt rP) (prod_K19 (lt4 rP) (lt4 rP)) W
  rw [hr] at N5
  obtain ⟨a0, a1, a2, a3, a4, a5, a6, a7, a8, ea, wa⟩ := nd_open a
  obtain ⟨c0, c1, c2, c3, c4, c5, c6, c7, c8, ec, wc1⟩ := nd_open c
  obtain ⟨d0, d1, d2, d3, d4, d5, d6, d7, d8, ed, wd1⟩ := nd_open (c * c % Nt.P)
  obtain ⟨r0, r1, r2, r3, r4, r5, r6, r7, r8, er, wr1⟩ := nd_open r
  have hE1 : ∀ W : World, (Op.equalIn 10000 34 (.agg #[.int .u64 (a0 : Nat), .int .u64 (a1 : Nat), .int .u64 (a2 : Nat), .int .u64 (a3 : Nat), .int .u64 (a4 : Nat), .int .u64 (a5 : Nat), .int .u64 (a6 : Nat), .int .u64 (a7 : Nat), .int .u64 (a8 : Nat)]) (.agg #[.int .u64 (a0 : Nat), .int .u64 (a1 : Nat), .int .u64 (a2 : Nat), .int .u64 (a3 : Nat), .int .u64 (a4 : Nat), .int .u64 (a5 : Nat), .int .u64 (a6 : Nat), .int .u64 (a7 : Nat), .int .u64 (a8 : Nat)])).run Tryd.prog W = .ok true W := fun W => eq_self a _ ea W
  have hE2 : ∀ W : World, (Op.equalIn 10000 34 (.agg #[.int .u64 (d0 : Nat), .int .u64 (d1 : Nat), .int .u64 (d2 : Nat), .int .u64 (d3 : Nat), .int .u64 (d4 : Nat), .int .u64 (d5 : Nat), .int .u64 (d6 : Nat), .int .u64 (d7 : Nat), .int .u64 (d8 : Nat)]) (.agg #[.int .u64 (a0 : Nat), .int .u64 (a1 : Nat), .int .u64 (a2 : Nat), .int .u64 (a3 : Nat), .int .u64 (a4 : Nat), .int .u64 (a5 : Nat), .int .u64 (a6 : Nat), .int .u64 (a7 : Nat), .int .u64 (a8 : Nat)])).run Tryd.prog W = .ok false W := fun W => eq_not _ a _ _ (Nat.mod_lt _ P_pos) aP ed ea hc W
  have f1 := par_bit r r0 _ er
  rw [hp] at f1
  have z0 : nd 0 = .agg #[.int .u64 0, .int .u64 0, .int .u64 0, .int .u64 0, .int .u64 0, .int .u64 0, .int .u64 0, .int .u64 0, .int .u64 0] := rfl
  rw [wc1, wd1] at N1
  rw [wa, wc1] at K1
  rw [wc1, wr1] at N4
  rw [wr1, wa] at N5
  rw [wa, wr1]
  generalize nd 2 = v2 at *
  generalize nd Nt.I = vI at *
  have N3 : ∀ W : World, Calls Tryd.prog 73 #[v2, .int .i64 250, .string ⟨#[48, 49, 49]⟩] W fun e w' => e = .returned vI ∧ Fr [] W w' := N3
  have HK1 := hid (p := _) K1
  have HN1 := hid (p := _) N1
  have HN2 := hid (p := _) N2
  have HN3 := hid (p := _) N3
  have HN4 := hid (p := _) N4
  have HN5 := hid (p := _) N5
  clear K1 N1 N2 N3 N4 N5 ea wa er wr1 z0 ec wc1 ed wd1 hc hI cP hp hr aP rP nP
  have F0 := hid (p := _) (Fr.refl [] w)
  go_enter Tryd.func41, Tryd.ntmps41
  go_wp2_with (go_at_call 73; with_reducible refine (HK1.out _).mono ?_; rintro e V ⟨rfl, hF⟩; have F1 := hid (p := _) (((F0.out.alloc _).alloc _).trans0 hF); have A1 := hid (p := _) (((RW.of9 (t := 34) (heap_new0 w _)).alloc _).fr hF); have Z1 := hid (p := _) ((RW.ofz (t := 34) (heap_new1 w _ _)).fr hF); clear hF HK1)
  have G := F1.out.alloc (.cells #[.int .u64 (c0 : Nat), .int .u64 (c1 : Nat), .int .u64 (c2 : Nat), .int .u64 (c3 : Nat), .int .u64 (c4 : Nat), .int .u64 (c5 : Nat), .int .u64 (c6 : Nat), .int .u64 (c7 : Nat), .int .u64 (c8 : Nat)] 34)
  have A2 := A1.out.alloc (.cells #[.int .u64 (c0 : Nat), .int .u64 (c1 : Nat), .int .u64 (c2 : Nat), .int .u64 (c3 : Nat), .int .u64 (c4 : Nat), .int .u64 (c5 : Nat), .int .u64 (c6 : Nat), .int .u64 (c7 : Nat), .int .u64 (c8 : Nat)] 34)
  have Z2 := Z1.out.alloc (.cells #[.int .u64 (c0 : Nat), .int .u64 (c1 : Nat), .int .u64 (c2 : Nat), .int .u64 (c3 : Nat), .int .u64 (c4 : Nat), .int .u64 (c5 : Nat), .int .u64 (c6 : Nat), .int .u64 (c7 : Nat), .int .u64 (c8 : Nat)] 34)
  have C2 := RW.of9 (t := 34) (heap_new0 V (.cells #[.int .u64 (c0 : Nat), .int .u64 (c1 : Nat), .int .u64 (c2 : Nat), .int .u64 (c3 : Nat), .int .u64 (c4 : Nat), .int .u64 (c5 : Nat), .int .u64 (c6 : Nat), .int .u64 (c7 : Nat), .int .u64 (c8 : Nat)] 34))
  have lz := Z1.out.lt
  generalize V.alloc (.cells #[.int .u64 (c0 : Nat), .int .u64 (c1 : Nat), .int .u64 (c2 : Nat), .int .u64 (c3 : Nat), .int .u64 (c4 : Nat), .int .u64 (c5 : Nat), .int .u64 (c6 : Nat), .int .u64 (c7 : Nat), .int .u64 (c8 : Nat)] 34) = U at *
  generalize V.heap.size = cb at *
  clear F1 A1 Z1
  obtain ⟨_, _, _, _, _, _, _, _, _, _, _, _, _, _, _, _, _, _, _, _⟩ := A2.all
  obtain ⟨_, _, _, _, _, _, _, _, _, _, _, _, _, _, _, _, _, _, _, _⟩ := C2.all
  have HG := hid (p := _) G
  have HA := hid (p := _) A2
  have HZ := hid (p := _) Z2
  have HC := hid (p := _) C2
  clear G A2 Z2 C2
  refine wp_region_ext (by kernel_rfl) (by kernel_rfl) ?_
  repeat (go_big_quiet_step (with_reducible exact Calls.ext_of (HN1.out _)))
  refine wpQuiet_nil ?_
  rintro _ ⟨xq, rfl⟩
  have G := HG.out.ext xq
  have A2 := HA.out.ext xq
  have Z2 := HZ.out.ext xq
  have C2 := HC.out.ext xq
  generalize ext U xq = U2 at *
  clear HG HA HZ HC
  obtain ⟨_, _, _, _, _, _, _, _, _, _, _, _, _, _, _, _, _, _, _, _⟩ := A2.all
  obtain ⟨_, _, _, _, _, _, _, _, _, _, _, _, _, _, _, _, _, _, _, _⟩ := C2.all
  have HG := hid (p := _) G
  have HA := hid (p := _) A2
  have HZ := hid (p := _) Z2
  have HC := hid (p := _) C2
  clear G A2 Z2 C2
  go_simp
  go_wp2_with fail
  refine wp_region_last_ext [_, _, _, _] _ (by kernel_rfl) (by kernel_rfl) (by kernel_rfl) (by kernel_rfl) (by kernel_rfl) ?_
  simp only [List.cons_append, List.nil_append, idle]
  repeat (go_big_quiet_step (first | with_reducible exact Calls.ext_of (HN2.out _) | with_reducible exact Calls.ext_of (HN3.out _) | with_reducible exact Calls.ext_of (HN4.out _)))
  refine wpQuiet_nil ?_
  rintro _ ⟨xq, rfl⟩
  have hge := HG.out.size
  have hcb : w.heap.size + 1 + 1 ≤ cb := by omega
  have G := (HG.out.ext xq).set9 (b := cb) (by omega) (.int .u64 (r0 : Nat)) (.int .u64 (r1 : Nat)) (.int .u64 (r2 : Nat)) (.int .u64 (r3 : Nat)) (.int .u64 (r4 : Nat)) (.int .u64 (r5 : Nat)) (.int .u64 (r6 : Nat)) (.int .u64 (r7 : Nat)) (.int .u64 (r8 : Nat))
  have A2 := (HA.out.ext xq).other9 (b' := cb) (by omega) (.int .u64 (r0 : Nat)) (.int .u64 (r1 : Nat)) (.int .u64 (r2 : Nat)) (.int .u64 (r3 : Nat)) (.int .u64 (r4 : Nat)) (.int .u64 (r5 : Nat)) (.int .u64 (r6 : Nat)) (.int .u64 (r7 : Nat)) (.int .u64 (r8 : Nat))
  have Z2 := (HZ.out.ext xq).other9 (b' := cb) (by omega) (.int .u64 (r0 : Nat)) (.int .u64 (r1 : Nat)) (.int .u64 (r2 : Nat)) (.int .u64 (r3 : Nat)) (.int .u64 (r4 : Nat)) (.int .u64 (r5 : Nat)) (.int .u64 (r6 : Nat)) (.int .u64 (r7 : Nat)) (.int .u64 (r8 : Nat))
  have C2 := (HC.out.ext xq).set9 r0 r1 r2 r3 r4 r5 r6 r7 r8
  go_simp
  go_wp2_with fail
  generalize (((((((((ext U2 xq).setCell ⟨cb, 0, none⟩ (.int .u64 (r0 : Nat))).setCell ⟨cb, 1, none⟩ (.int .u64 (r1 : Nat))).setCell ⟨cb, 2, none⟩ (.int .u64 (r2 : Nat))).setCell ⟨cb, 3, none⟩ (.int .u64 (r3 : Nat))).setCell ⟨cb, 4, none⟩ (.int .u64 (r4 : Nat))).setCell ⟨cb, 5, none⟩ (.int .u64 (r5 : Nat))).setCell ⟨cb, 6, none⟩ (.int .u64 (r6 : Nat))).setCell ⟨cb, 7, none⟩ (.int .u64 (r7 : Nat))).setCell ⟨cb, 8, none⟩ (.int .u64 (r8 : Nat)) = U3 at *
  clear HG HA HZ HC
  obtain ⟨_, _, _, _, _, _, _, _, _, _, _, _, _, _, _, _, _, _, _, _⟩ := A2.all
  obtain ⟨_, _, _, _, _, _, _, _, _, _, _, _, _, _, _, _, _, _, _, _⟩ := C2.all
  have HG := hid (p := _) G
  have HA := hid (p := _) A2
  have HZ := hid (p := _) Z2
  have HC := hid (p := _) C2
  clear G A2 Z2 C2 hge hcb
  refine wp_region_ext (by kernel_rfl) (by kernel_rfl) ?_
  repeat (go_big_quiet_step (with_reducible exact Calls.ext_of (HN5.out _)))
  refine wpQuiet_nil ?_
  rintro _ ⟨xq, rfl⟩
  have G := HG.out.ext xq
  have Z2 := HZ.out.ext xq
  have C2 := HC.out.ext xq
  generalize ext U3 xq = U4 at *
  obtain ⟨_, _, _, _, _, _, _, _, _, _, _, _, _, _, _, _, _, _, _, _⟩ := Z2.all
  obtain ⟨_, _, _, _, _, _, _, _, _, _, _, _, _, _, _, _, _, _, _, _⟩ := C2.all
  have HGf := hid (p := _) G
  clear HG HA HZ HC G
  go_simp
  go_wp2_with fail
  have hcz : cb ≠ w.heap.size + 1 := by omega
  have hcz2 : w.heap.size + 1 ≠ cb := by omega
  obtain ⟨cs, hcs⟩ : ∃ cs : List Value, cs = [.int .u64 (r0 : Nat), .int .u64 (r1 : Nat), .int .u64 (r2 : Nat), .int .u64 (r3 : Nat), .int .u64 (r4 : Nat), .int .u64 (r5 : Nat), .int .u64 (r6 : Nat), .int .u64 (r7 : Nat), .int .u64 (r8 : Nat)] := ⟨_, rfl⟩
  have hr : U4.rangeAt cb 0 cs := by rw [hcs]; exact C2.range9
  have ht : U4.there (w.heap.size + 1) 0 9 := Z2.there9 rfl
  have hu36 := Tryd.underlying34
  have hl9 : cs.length = 9 := by rw [hcs]; rfl
  have hi36 : (Tryd.prog.info? 34).map (·.size) = some cs.length := by rw [hl9]; exact info36
  have h1c : ∀ v ∈ cs, v.oneCell' = true := by rw [hcs]; intro v hv; simp at hv; rcases hv with rfl | rfl | rfl | rfl | rfl | rfl | rfl | rfl | rfl <;> rfl
  have hc0 : U4.cell? ⟨cb, 0, none⟩ = some (.int .u64 (r0 : Nat)) := C2.cell 0 (by simp)
  have HCS := hid (p := _) hcs
  clear hcs
  go_region_held3 (fun V' => V'.rangeAt cb 0 cs ∧ V'.there (w.heap.size + 1) 0 9 ∧ V'.cell? ⟨cb, 0, none⟩ = some (.int .u64 (r0 : Nat))) (first | exact ⟨World.rangeAt_setCells_apart ‹_› _ _ _ (.inl hcz), World.there_setCells ‹_› _ _ _, (World.rangeAt_setCells_apart ‹_› _ _ _ (.inl hcz)) 0 _ (by rw [HCS.out]; rfl)⟩ | exact ⟨hr, ht, hc0⟩) (fail)
  go_wp2_with fail
  refine bodyPost_ret (results_cell_tmp Tryd.results41 rfl rfl (run_loadVar_mid _ (w.heap.size + 1) 0 34 cs (.array 9 23) (World.rangeAt_setCells_same _ _ _ _ (by rw [hl9]; exact ht)) hu36 rfl hi36)) rfl ⟨?_, ?_⟩
  · rw [HCS.out]; rfl
  · exact Fr.setCells (by omega) _ _ _ (by first | exact HGf.out.drew | exact HGf.out)
theorem root_B_1_f_0 (a c r n : Nat) (aP : a < Nt.P) (cP : c < Nt.P) (rP : r < Nt.P) (nP : n < Nt.P) (K1 : ∀ W : World, Calls Tryd.prog 73 #[nd a, .int .i64 250, .string ⟨#[49, 48]⟩] W fun e w' => e = .returned (nd c) ∧ Fr [] W w') (hc : c * c % Nt.P ≠ a) (hI : c * Nt.I % Nt.P = r) (hr : r * r % Nt.P = a) (hp : r % 2 = 1) (hn : (0 + Nt.P - r) % Nt.P = n) (hm : n % 2 = 0) (w : World) : Calls Tryd.prog 41 #[nd a, .bool false] w fun e w' => e = .returned (.tuple #[nd n, .bool true]) ∧ Fr [] w w' := by
  have N1 := fun W => rmul_any c c (big_lt cP) (big_lt cP) (prod_K19 (lt4 cP) (lt4 cP)) W
  have N2 := fun W => rsmall_any 2 (by decide) W
  have N3 := fun W => rpower_any 2 Nt.P_two tI (by decide) W
  rw [px_i 2 rfl] at N3
  have N4 := fun W => rmul_any c Nt.I (big_lt cP) (big_lt I_lt) (prod_K19 (lt4 cP) (lt4 I_lt)) W
  rw [hI] at N4
  have N5 := fun W => rmul_any r r (big_lt rP) (big_lt rP) (prod_K19 (lt4 rP) (lt4 rP)) W
  rw [hr] at N5
  have N6 := fun W => rsub_any 0 r P_pos rP W
  rw [hn] at N6
  obtain ⟨a0, a1, a2, a3, a4, a5, a6, a7, a8, ea, wa⟩ := nd_open a
  obtain ⟨c0, c1, c2, c3, c4, c5, c6, c7, c8, ec, wc1⟩ := nd_open c
  obtain ⟨d0, d1, d2, d3, d4, d5, d6, d7, d8, ed, wd1⟩ := nd_open (c * c % Nt.P)
  obtain ⟨r0, r1, r2, r3, r4, r5, r6, r7, r8, er, wr1⟩ := nd_open r
  obtain ⟨n0, n1, n2, n3, n4, n5, n6, n7, n8, en, wn1⟩ := nd_open n
  have hE1 : ∀ W : World, (Op.equalIn 10000 34 (.agg #[.int .u64 (a0 : Nat), .int .u64 (a1 : Nat), .int .u64 (a2 : Nat), .int .u64 (a3 : Nat), .int .u64 (a4 : Nat), .int .u64 (a5 : Nat), .int .u64 (a6 : Nat), .int .u64 (a7 : Nat), .int .u64 (a8 : Nat)]) (.agg #[.int .u64 (a0 : Nat), .int .u64 (a1 : Nat), .int .u64 (a2 : Nat), .int .u64 (a3 : Nat), .int .u64 (a4 : Nat), .int .u64 (a5 : Nat), .int .u64 (a6 : Nat), .int .u64 (a7 : Nat), .int .u64 (a8 : Nat)])).run Tryd.prog W = .ok true W := fun W => eq_self a _ ea W
  have hE2 : ∀ W : World, (Op.equalIn 10000 34 (.agg #[.int .u64 (d0 : Nat), .int .u64 (d1 : Nat), .int .u64 (d2 : Nat), .int .u64 (d3 : Nat), .int .u64 (d4 : Nat), .int .u64 (d5 : Nat), .int .u64 (d6 : Nat), .int .u64 (d7 : Nat), .int .u64 (d8 : Nat)]) (.agg #[.int .u64 (a0 : Nat), .int .u64 (a1 : Nat), .int .u64 (a2 : Nat), .int .u64 (a3 : Nat), .int .u64 (a4 : Nat), .int .u64 (a5 : Nat), .int .u64 (a6 : Nat), .int .u64 (a7 : Nat), .int .u64 (a8 : Nat)])).run Tryd.prog W = .ok false W := fun W => eq_not _ a _ _ (Nat.mod_lt _ P_pos) aP ed ea hc W
  have f1 := par_bit r r0 _ er
  rw [hp] at f1
  have f2 := par_bit n n0 _ en
  rw [hm] at f2
  have z0 : nd 0 = .agg #[.int .u64 0, .int .u64 0, .int .u64 0, .int .u64 0, .int .u64 0, .int .u64 0, .int .u64 0, .int .u64 0, .int .u64 0] := rfl
  rw [wc1, wd1] at N1
  rw [wa, wc1] at K1
  rw [wc1, wr1] at N4
  rw [wr1, wa] at N5
  rw [z0, wr1, wn1] at N6
  rw [wa, wn1]
  generalize nd 2 = v2 at *
  generalize nd Nt.I = vI at *
  have N3 : ∀ W : World, Calls Tryd.prog 73 #[v2, .int .i64 250, .string ⟨#[48, 49, 49]⟩] W fun e w' => e = .returned vI ∧ Fr [] W w' := N3
  have HK1 := hid (p := _) K1
  have HN1 := hid (p := _) N1
  have HN2 := hid (p := _) N2
  have HN3 := hid (p := _) N3
  have HN4 := hid (p := _) N4
  have HN5 := hid (p := _) N5
  have HN6 := hid (p := _) N6
  clear K1 N1 N2 N3 N4 N5 N6 ea wa er wr1 z0 ec wc1 ed wd1 hc hI cP en wn1 hn hm hp hr aP rP nP
  have F0 := hid (p := _) (Fr.refl [] w)
  go_enter Tryd.func41, Tryd.ntmps41
  go_wp2_with (go_at_call 73; with_reducible refine (HK1.out _).mono ?_; rintro e V ⟨rfl, hF⟩; have F1 := hid (p := _) (((F0.out.alloc _).alloc _).trans0 hF); have A1 := hid (p := _) (((RW.of9 (t := 34) (heap_new0 w _)).alloc _).fr hF); have Z1 := hid (p := _) ((RW.ofz (t := 34) (heap_new1 w _ _)).fr hF); clear hF HK1)
  have G := F1.out.alloc (.cells #[.int .u64 (c0 : Nat), .int .u64 (c1 : Nat), .int .u64 (c2 : Nat), .int .u64 (c3 : Nat), .int .u64 (c4 : Nat), .int .u64 (c5 : Nat), .int .u64 (c6 : Nat), .int .u64 (c7 : Nat), .int .u64 (c8 : Nat)] 34)
  have A2 := A1.out.alloc (.cells #[.int .u64 (c0 : Nat), .int .u64 (c1 : Nat), .int .u64 (c2 : Nat), .int .u64 (c3 : Nat), .int .u64 (c4 : Nat), .int .u64 (c5 : Nat), .int .u64 (c6 : Nat), .int .u64 (c7 : Nat), .int .u64 (c8 : Nat)] 34)
  have Z2 := Z1.out.alloc (.cells #[.int .u64 (c0 : Nat), .int .u64 (c1 : Nat), .int .u64 (c2 : Nat), .int .u64 (c3 : Nat), .int .u64 (c4 : Nat), .int .u64 (c5 : Nat), .int .u64 (c6 : Nat), .int .u64 (c7 : Nat), .int .u64 (c8 : Nat)] 34)
  have C2 := RW.of9 (t := 34) (heap_new0 V (.cells #[.int .u64 (c0 : Nat), .int .u64 (c1 : Nat), .int .u64 (c2 : Nat), .int .u64 (c3 : Nat), .int .u64 (c4 : Nat), .int .u64 (c5 : Nat), .int .u64 (c6 : Nat), .int .u64 (c7 : Nat), .int .u64 (c8 : Nat)] 34))
  have lz := Z1.out.lt
  generalize V.alloc (.cells #[.int .u64 (c0 : Nat), .int .u64 (c1 : Nat), .int .u64 (c2 : Nat), .int .u64 (c3 : Nat), .int .u64 (c4 : Nat), .int .u64 (c5 : Nat), .int .u64 (c6 : Nat), .int .u64 (c7 : Nat), .int .u64 (c8 : Nat)] 34) = U at *
  generalize V.heap.size = cb at *
  clear F1 A1 Z1
  obtain ⟨_, _, _, _, _, _, _, _, _, _, _, _, _, _, _, _, _, _, _, _⟩ := A2.all
  obtain ⟨_, _, _, _, _, _, _, _, _, _, _, _, _, _, _, _, _, _, _, _⟩ := C2.all
  have HG := hid (p := _) G
  have HA := hid (p := _) A2
  have HZ := hid (p := _) Z2
  have HC := hid (p := _) C2
  clear G A2 Z2 C2
  refine wp_region_ext (by kernel_rfl) (by kernel_rfl) ?_
  repeat (go_big_quiet_step (with_reducible exact Calls.ext_of (HN1.out _)))
  refine wpQuiet_nil ?_
  rintro _ ⟨xq, rfl⟩
  have G := HG.out.ext xq
  have A2 := HA.out.ext xq
  have Z2 := HZ.out.ext xq
  have C2 := HC.out.ext xq
  generalize ext U xq = U2 at *
  clear HG HA HZ HC
  obtain ⟨_, _, _, _, _, _, _, _, _, _, _, _, _, _, _, _, _, _, _, _⟩ := A2.all
  obtain ⟨_, _, _, _, _, _, _, _, _, _, _, _, _, _, _, _, _, _, _, _⟩ := C2.all
  have HG := hid (p := _) G
  have HA := hid (p := _) A2
  have HZ := hid (p := _) Z2
  have HC := hid (p := _) C2
  clear G A2 Z2 C2
  go_simp
  go_wp2_with fail
  refine wp_region_last_ext [_, _, _, _] _ (by kernel_rfl) (by kernel_rfl) (by kernel_rfl) (by kernel_rfl) (by kernel_rfl) ?_
  simp only [List.cons_append, List.nil_append, idle]
  repeat (go_big_quiet_step (first | with_reducible exact Calls.ext_of (HN2.out _) | with_reducible exact Calls.ext_of (HN3.out _) | with_reducible exact Calls.ext_of (HN4.out _)))
  refine wpQuiet_nil ?_
  rintro _ ⟨xq, rfl⟩
  have hge := HG.out.size
  have hcb : w.heap.size + 1 + 1 ≤ cb := by omega
  have G := (HG.out.ext xq).set9 (b := cb) (by omega) (.int .u64 (r0 : Nat)) (.int .u64 (r1 : Nat)) (.int .u64 (r2 : Nat)) (.int .u64 (r3 : Nat)) (.int .u64 (r4 : Nat)) (.int .u64 (r5 : Nat)) (.int .u64 (r6 : Nat)) (.int .u64 (r7 : Nat)) (.int .u64 (r8 : Nat))
  have A2 := (HA.out.ext xq).other9 (b' := cb) (by omega) (.int .u64 (r0 : Nat)) (.int .u64 (r1 : Nat)) (.int .u64 (r2 : Nat)) (.int .u64 (r3 : Nat)) (.int .u64 (r4 : Nat)) (.int .u64 (r5 : Nat)) (.int .u64 (r6 : Nat)) (.int .u64 (r7 : Nat)) (.int .u64 (r8 : Nat))
  have Z2 := (HZ.out.ext xq).other9 (b' := cb) (by omega) (.int .u64 (r0 : Nat)) (.int .u64 (r1 : Nat)) (.int .u64 (r2 : Nat)) (.int .u64 (r3 : Nat)) (.int .u64 (r4 : Nat)) (.int .u64 (r5 : Nat)) (.int .u64 (r6 : Nat)) (.int .u64 (r7 : Nat)) (.int .u64 (r8 : Nat))
  have C2 := (HC.out.ext xq).set9 r0 r1 r2 r3 r4 r5 r6 r7 r8
  go_simp
  go_wp2_with fail
  generalize (((((((((ext U2 xq).setCell ⟨cb, 0, none⟩ (.int .u64 (r0 : Nat))).setCell ⟨cb, 1, none⟩ (.int .u64 (r1 : Nat))).setCell ⟨cb, 2, none⟩ (.int .u64 (r2 : Nat))).setCell ⟨cb, 3, none⟩ (.int .u64 (r3 : Nat))).setCell ⟨cb, 4, none⟩ (.int .u64 (r4 : Nat))).setCell ⟨cb, 5, none⟩ (.int .u64 (r5 : Nat))).setCell ⟨cb, 6, none⟩ (.int .u64 (r6 : Nat))).setCell ⟨cb, 7, none⟩ (.int .u64 (r7 : Nat))).setCell ⟨cb, 8, none⟩ (.int .u64 (r8 : Nat)) = U3 at *
  clear HG HA HZ HC
  obtain ⟨_, _, _, _, _, _, _, _, _, _, _, _, _, _, _, _, _, _, _, _⟩ := A2.all
  obtain ⟨_, _, _, _, _, _, _, _, _, _, _, _, _, _, _, _, _, _, _, _⟩ := C2.all
  have HG := hid (p := _) G
  have HA := hid (p := _) A2
  have HZ := hid (p := _) Z2
  have HC := hid (p := _) C2
  clear G A2 Z2 C2 hge hcb
  refine wp_region_ext (by kernel_rfl) (by kernel_rfl) ?_
  repeat (go_big_quiet_step (with_reducible exact Calls.ext_of (HN5.out _)))
  refine wpQuiet_nil ?_
  rintro _ ⟨xq, rfl⟩
  have G := HG.out.ext xq
  have Z2 := HZ.out.ext xq
  have C2 := HC.out.ext xq
  generalize ext U3 xq = U4 at *
  obtain ⟨_, _, _, _, _, _, _, _, _, _, _, _, _, _, _, _, _, _, _, _⟩ := Z2.all
  obtain ⟨_, _, _, _, _, _, _, _, _, _, _, _, _, _, _, _, _, _, _, _⟩ := C2.all
  go_simp
  go_wp2_with (go_at_call 38; with_reducible refine (HN6.out _).mono ?_; rintro e V5 ⟨rfl, hF⟩; have G5 := hid (p := _) (G.trans0 hF); have Z5 := Z2.fr hF; have C5 := C2.fr hF; obtain ⟨_, _, _, _, _, _, _, _, _, _, _, _, _, _, _, _, _, _, _, _⟩ := Z5.all; obtain ⟨_, _, _, _, _, _, _, _, _, _, _, _, _, _, _, _, _, _, _, _⟩ := C5.all; clear hF)
  have hge : w.heap.size + 1 + 1 ≤ cb := by omega
  have G6 := G5.out.set9 (b := cb) (by omega) (.int .u64 (n0 : Nat)) (.int .u64 (n1 : Nat)) (.int .u64 (n2 : Nat)) (.int .u64 (n3 : Nat)) (.int .u64 (n4 : Nat)) (.int .u64 (n5 : Nat)) (.int .u64 (n6 : Nat)) (.int .u64 (n7 : Nat)) (.int .u64 (n8 : Nat))
  have Z6 := Z5.other9 (b' := cb) (by omega) (.int .u64 (n0 : Nat)) (.int .u64 (n1 : Nat)) (.int .u64 (n2 : Nat)) (.int .u64 (n3 : Nat)) (.int .u64 (n4 : Nat)) (.int .u64 (n5 : Nat)) (.int .u64 (n6 : Nat)) (.int .u64 (n7 : Nat)) (.int .u64 (n8 : Nat))
  have C6 := C5.set9 n0 n1 n2 n3 n4 n5 n6 n7 n8
  generalize (((((((((V5).setCell ⟨cb, 0, none⟩ (.int .u64 (n0 : Nat))).setCell ⟨cb, 1, none⟩ (.int .u64 (n1 : Nat))).setCell ⟨cb, 2, none⟩ (.int .u64 (n2 : Nat))).setCell ⟨cb, 3, none⟩ (.int .u64 (n3 : Nat))).setCell ⟨cb, 4, none⟩ (.int .u64 (n4 : Nat))).setCell ⟨cb, 5, none⟩ (.int .u64 (n5 : Nat))).setCell ⟨cb, 6, none⟩ (.int .u64 (n6 : Nat))).setCell ⟨cb, 7, none⟩ (.int .u64 (n7 : Nat))).setCell ⟨cb, 8, none⟩ (.int .u64 (n8 : Nat)) = U5 at *
  clear HG HA HZ HC G Z2 C2 G5 Z5 C5
  obtain ⟨_, _, _, _, _, _, _, _, _, _, _, _, _, _, _, _, _, _, _, _⟩ := Z6.all
  obtain ⟨_, _, _, _, _, _, _, _, _, _, _, _, _, _, _, _, _, _, _, _⟩ := C6.all
  have HGf := hid (p := _) G6
  clear G6
  have hcz : cb ≠ w.heap.size + 1 := by omega
  have hcz2 : w.heap.size + 1 ≠ cb := by omega
  obtain ⟨cs, hcs⟩ : ∃ cs : List Value, cs = [.int .u64 (n0 : Nat), .int .u64 (n1 : Nat), .int .u64 (n2 : Nat), .int .u64 (n3 : Nat), .int .u64 (n4 : Nat), .int .u64 (n5 : Nat), .int .u64 (n6 : Nat), .int .u64 (n7 : Nat), .int .u64 (n8 : Nat)] := ⟨_, rfl⟩
  have hr : U5.rangeAt cb 0 cs := by rw [hcs]; exact C6.range9
  have ht : U5.there (w.heap.size + 1) 0 9 := Z6.there9 rfl
  have hu36 := Tryd.underlying34
  have hl9 : cs.length = 9 := by rw [hcs]; rfl
  have hi36 : (Tryd.prog.info? 34).map (·.size) = some cs.length := by rw [hl9]; exact info36
  have h1c : ∀ v ∈ cs, v.oneCell' = true := by rw [hcs]; intro v hv; simp at hv; rcases hv with rfl | rfl | rfl | rfl | rfl | rfl | rfl | rfl | rfl <;> rfl
  have hc0 : U5.cell? ⟨cb, 0, none⟩ = some (.int .u64 (n0 : Nat)) := C6.cell 0 (by simp)
  have HCS := hid (p := _) hcs
  clear hcs
  go_region_held3 (fun V' => V'.rangeAt cb 0 cs ∧ V'.there (w.heap.size + 1) 0 9 ∧ V'.cell? ⟨cb, 0, none⟩ = some (.int .u64 (n0 : Nat))) (first | exact ⟨World.rangeAt_setCells_apart ‹_› _ _ _ (.inl hcz), World.there_setCells ‹_› _ _ _, (World.rangeAt_setCells_apart ‹_› _ _ _ (.inl hcz)) 0 _ (by rw [HCS.out]; rfl)⟩ | exact ⟨hr, ht, hc0⟩) (fail)
  go_wp2_with fail
  refine bodyPost_ret (results_cell_tmp Tryd.results41 rfl rfl (run_loadVar_mid _ (w.heap.size + 1) 0 34 cs (.array 9 23) (World.rangeAt_setCells_same _ _ _ _ (by rw [hl9]; exact ht)) hu36 rfl hi36)) rfl ⟨?_, ?_⟩
  · rw [HCS.out]; rfl
  · exact Fr.setCells (by omega) _ _ _ (by first | exact HGf.out.drew | exact HGf.out)
theorem root_B_1_f_1 (a c r n : Nat) (aP : a < Nt.P) (cP : c < Nt.P) (rP : r < Nt.P) (nP : n < Nt.P) (K1 : ∀ W : World, Calls Tryd.prog 73 #[nd a, .int .i64 250, .string ⟨#[49, 48]⟩] W fun e w' => e = .returned (nd c) ∧ Fr [] W w') (hc : c * c % Nt.P ≠ a) (hI : c * Nt.I % Nt.P = r) (hr : r * r % Nt.P = a) (hp : r % 2 = 1) (hn : (0 + Nt.P - r) % Nt.P = n) (hm : n % 2 = 1) (w : World) : Calls Tryd.prog 41 #[nd a, .bool false] w fun e w' => e = .returned (.tuple #[nd n, .bool false]) ∧ Fr [] w w' := by
  have N1 := fun W => rmul_any c c (big_lt cP) (big_lt cP) (prod_K19 (lt4 cP) (lt4 cP)) W
  have N2 := fun W => rsmall_any 2 (by decide) W
  have N3 := fun W => rpower_any 2 Nt.P_two tI (by decide) W
  rw [px_i 2 rfl] at N3
  have N4 := fun W => rmul_any c Nt.I (big_lt cP) (big_lt I_lt) (prod_K19 (lt4 cP) (lt4 I_lt)) W
  rw [hI] at N4
  have N5 := fun W => rmul_any r r (big_lt rP) (big_lt rP) (prod_K19 (lt4 rP) (lt4 rP)) W
  rw [hr] at N5
  have N6 := fun W => rsub_any 0 r P_pos rP W
  rw [hn] at N6
  obtain ⟨a0, a1, a2, a3, a4, a5, a6, a7, a8, ea, wa⟩ := nd_open a
  obtain ⟨c0, c1, c2, c3, c4, c5, c6, c7, c8, ec, wc1⟩ := nd_open c
  obtain ⟨d0, d1, d2, d3, d4, d5, d6, d7, d8, ed, wd1⟩ := nd_open (c * c % Nt.P)
  obtain ⟨r0, r1, r2, r3, r4, r5, r6, r7, r8, er, wr1⟩ := nd_open r
  obtain ⟨n0, n1, n2, n3, n4, n5, n6, n7, n8, en, wn1⟩ := nd_open n
  have hE1 : ∀ W : World, (Op.equalIn 10000 34 (.agg #[.int .u64 (a0 : Nat), .int .u64 (a1 : Nat), .int .u64 (a2 : Nat), .int .u64 (a3 : Nat), .int .u64 (a4 : Nat), .int .u64 (a5 : Nat), .int .u64 (a6 : Nat), .int .u64 (a7 : Nat), .int .u64 (a8 : Nat)]) (.agg #[.int .u64 (a0 : Nat), .int .u64 (a1 : Nat), .int .u64 (a2 : Nat), .int .u64 (a3 : Nat), .int .u64 (a4 : Nat), .int .u64 (a5 : Nat), .int .u64 (a6 : Nat), .int .u64 (a7 : Nat), .int .u64 (a8 : Nat)])).run Tryd.prog W = .ok true W := fun W => eq_self a _ ea W
  have hE2 : ∀ W : World, (Op.equalIn 10000 34 (.agg #[.int .u64 (d0 : Nat), .int .u64 (d1 : Nat), .int .u64 (d2 : Nat), .int .u64 (d3 : Nat), .int .u64 (d4 : Nat), .int .u64 (d5 : Nat), .int .u64 (d6 : Nat), .int .u64 (d7 : Nat), .int .u64 (d8 : Nat)]) (.agg #[.int .u64 (a0 : Nat), .int .u64 (a1 : Nat), .int .u64 (a2 : Nat), .int .u64 (a3 : Nat), .int .u64 (a4 : Nat), .int .u64 (a5 : Nat), .int .u64 (a6 : Nat), .int .u64 (a7 : Nat), .int .u64 (a8 : Nat)])).run Tryd.prog W = .ok false W := fun W => eq_not _ a _ _ (Nat.mod_lt _ P_pos) aP ed ea hc W
  have f1 := par_bit r r0 _ er
  rw [hp] at f1
  have f2 := par_bit n n0 _ en
  rw [hm] at f2
  have z0 : nd 0 = .agg #[.int .u64 0, .int .u64 0, .int .u64 0, .int .u64 0, .int .u64 0, .int .u64 0, .int .u64 0, .int .u64 0, .int .u64 0] := rfl
  rw [wc1, wd1] at N1
  rw [wa, wc1] at K1
  rw [wc1, wr1] at N4
  rw [wr1, wa] at N5
  rw [z0, wr1, wn1] at N6
  rw [wa, wn1]
  generalize nd 2 = v2 at *
  generalize nd Nt.I = vI at *
  have N3 : ∀ W : World, Calls Tryd.prog 73 #[v2, .int .i64 250, .string ⟨#[48, 49, 49]⟩] W fun e w' => e = .returned vI ∧ Fr [] W w' := N3
  have HK1 := hid (p := _) K1
  have HN1 := hid (p := _) N1
  have HN2 := hid (p := _) N2
  have HN3 := hid (p := _) N3
  have HN4 := hid (p := _) N4
  have HN5 := hid (p := _) N5
  have HN6 := hid (p := _) N6
  clear K1 N1 N2 N3 N4 N5 N6 ea wa er wr1 z0 ec wc1 ed wd1 hc hI cP en wn1 hn hm hp hr aP rP nP
  have F0 := hid (p := _) (Fr.refl [] w)
  go_enter Tryd.func41, Tryd.ntmps41
  go_wp2_with (go_at_call 73; with_reducible refine (HK1.out _).mono ?_; rintro e V ⟨rfl, hF⟩; have F1 := hid (p := _) (((F0.out.alloc _).alloc _).trans0 hF); have A1 := hid (p := _) (((RW.of9 (t := 34) (heap_new0 w _)).alloc _).fr hF); have Z1 := hid (p := _) ((RW.ofz (t := 34) (heap_new1 w _ _)).fr hF); clear hF HK1)
  have G := F1.out.alloc (.cells #[.int .u64 (c0 : Nat), .int .u64 (c1 : Nat), .int .u64 (c2 : Nat), .int .u64 (c3 : Nat), .int .u64 (c4 : Nat), .int .u64 (c5 : Nat), .int .u64 (c6 : Nat), .int .u64 (c7 : Nat), .int .u64 (c8 : Nat)] 34)
  have A2 := A1.out.alloc (.cells #[.int .u64 (c0 : Nat), .int .u64 (c1 : Nat), .int .u64 (c2 : Nat), .int .u64 (c3 : Nat), .int .u64 (c4 : Nat), .int .u64 (c5 : Nat), .int .u64 (c6 : Nat), .int .u64 (c7 : Nat), .int .u64 (c8 : Nat)] 34)
  have Z2 := Z1.out.alloc (.cells #[.int .u64 (c0 : Nat), .int .u64 (c1 : Nat), .int .u64 (c2 : Nat), .int .u64 (c3 : Nat), .int .u64 (c4 : Nat), .int .u64 (c5 : Nat), .int .u64 (c6 : Nat), .int .u64 (c7 : Nat), .int .u64 (c8 : Nat)] 34)
  have C2 := RW.of9 (t := 34) (heap_new0 V (.cells #[.int .u64 (c0 : Nat), .int .u64 (c1 : Nat), .int .u64 (c2 : Nat), .int .u64 (c3 : Nat), .int .u64 (c4 : Nat), .int .u64 (c5 : Nat), .int .u64 (c6 : Nat), .int .u64 (c7 : Nat), .int .u64 (c8 : Nat)] 34))
  have lz := Z1.out.lt
  generalize V.alloc (.cells #[.int .u64 (c0 : Nat), .int .u64 (c1 : Nat), .int .u64 (c2 : Nat), .int .u64 (c3 : Nat), .int .u64 (c4 : Nat), .int .u64 (c5 : Nat), .int .u64 (c6 : Nat), .int .u64 (c7 : Nat), .int .u64 (c8 : Nat)] 34) = U at *
  generalize V.heap.size = cb at *
  clear F1 A1 Z1
  obtain ⟨_, _, _, _, _, _, _, _, _, _, _, _, _, _, _, _, _, _, _, _⟩ := A2.all
  obtain ⟨_, _, _, _, _, _, _, _, _, _, _, _, _, _, _, _, _, _, _, _⟩ := C2.all
  have HG := hid (p := _) G
  have HA := hid (p := _) A2
  have HZ := hid (p := _) Z2
  have HC := hid (p := _) C2
  clear G A2 Z2 C2
  refine wp_region_ext (by kernel_rfl) (by kernel_rfl) ?_
  repeat (go_big_quiet_step (with_reducible exact Calls.ext_of (HN1.out _)))
  refine wpQuiet_nil ?_
  rintro _ ⟨xq, rfl⟩
  have G := HG.out.ext xq
  have A2 := HA.out.ext xq
  have Z2 := HZ.out.ext xq
  have C2 := HC.out.ext xq
  generalize ext U xq = U2 at *
  clear HG HA HZ HC
  obtain ⟨_, _, _, _, _, _, _, _, _, _, _, _, _, _, _, _, _, _, _, _⟩ := A2.all
  obtain ⟨_, _, _, _, _, _, _, _, _, _, _, _, _, _, _, _, _, _, _, _⟩ := C2.all
  have HG := hid (p := _) G
  have HA := hid (p := _) A2
  have HZ := hid (p := _) Z2
  have HC := hid (p := _) C2
  clear G A2 Z2 C2
  go_simp
  go_wp2_with fail
  refine wp_region_last_ext [_, _, _, _] _ (by kernel_rfl) (by kernel_rfl) (by kernel_rfl) (by kernel_rfl) (by kernel_rfl) ?_
  simp only [List.cons_append, List.nil_append, idle]
  repeat (go_big_quiet_step (first | with_reducible exact Calls.ext_of (HN2.out _) | with_reducible exact Calls.ext_of (HN3.out _) | with_reducible exact Calls.ext_of (HN4.out _)))
  refine wpQuiet_nil ?_
  rintro _ ⟨xq, rfl⟩
  have hge := HG.out.size
  have hcb : w.heap.size + 1 + 1 ≤ cb := by omega
  have G := (HG.out.ext xq).set9 (b := cb) (by omega) (.int .u64 (r0 : Nat)) (.int .u64 (r1 : Nat)) (.int .u64 (r2 : Nat)) (.int .u64 (r3 : Nat)) (.int .u64 (r4 : Nat)) (.int .u64 (r5 : Nat)) (.int .u64 (r6 : Nat)) (.int .u64 (r7 : Nat)) (.int .u64 (r8 : Nat))
  have A2 := (HA.out.ext xq).other9 (b' := cb) (by omega) (.int .u64 (r0 : Nat)) (.int .u64 (r1 : Nat)) (.int .u64 (r2 : Nat)) (.int .u64 (r3 : Nat)) (.int .u64 (r4 : Nat)) (.int .u64 (r5 : Nat)) (.int .u64 (r6 : Nat)) (.int .u64 (r7 : Nat)) (.int .u64 (r8 : Nat))
  have Z2 := (HZ.out.ext xq).other9 (b' := cb) (by omega) (.int .u64 (r0 : Nat)) (.int .u64 (r1 : Nat)) (.int .u64 (r2 : Nat)) (.int .u64 (r3 : Nat)) (.int .u64 (r4 : Nat)) (.int .u64 (r5 : Nat)) (.int .u64 (r6 : Nat)) (.int .u64 (r7 : Nat)) (.int .u64 (r8 : Nat))
  have C2 := (HC.out.ext xq).set9 r0 r1 r2 r3 r4 r5 r6 r7 r8
  go_simp
  go_wp2_with fail
  generalize (((((((((ext U2 xq).setCell ⟨cb, 0, none⟩ (.int .u64 (r0 : Nat))).setCell ⟨cb, 1, none⟩ (.int .u64 (r1 : Nat))).setCell ⟨cb, 2, none⟩ (.int .u64 (r2 : Nat))).setCell ⟨cb, 3, none⟩ (.int .u64 (r3 : Nat))).setCell ⟨cb, 4, none⟩ (.int .u64 (r4 : Nat))).setCell ⟨cb, 5, none⟩ (.int .u64 (r5 : Nat))).setCell ⟨cb, 6, none⟩ (.int .u64 (r6 : Nat))).setCell ⟨cb, 7, none⟩ (.int .u64 (r7 : Nat))).setCell ⟨cb, 8, none⟩ (.int .u64 (r8 : Nat)) = U3 at *
  clear HG HA HZ HC
  obtain ⟨_, _, _, _, _, _, _, _, _, _, _, _, _, _, _, _, _, _, _, _⟩ := A2.all
  obtain ⟨_, _, _, _, _, _, _, _, _, _, _, _, _, _, _, _, _, _, _, _⟩ := C2.all
  have HG := hid (p := _) G
  have HA := hid (p := _) A2
  have HZ := hid (p := _) Z2
  have HC := hid (p := _) C2
  clear G A2 Z2 C2 hge hcb
  refine wp_region_ext (by kernel_rfl) (by kernel_rfl) ?_
  repeat (go_big_quiet_step (with_reducible exact Calls.ext_of (HN5.out _)))
  refine wpQuiet_nil ?_
  rintro _ ⟨xq, rfl⟩
  have G := HG.out.ext xq
  have Z2 := HZ.out.ext xq
  have C2 := HC.out.ext xq
  generalize ext U3 xq = U4 at *
  obtain ⟨_, _, _, _, _, _, _, _, _, _, _, _, _, _, _, _, _, _, _, _⟩ := Z2.all
  obtain ⟨_, _, _, _, _, _, _, _, _, _, _, _, _, _, _, _, _, _, _, _⟩ := C2.all
  go_simp
  go_wp2_with (go_at_call 38; with_reducible refine (HN6.out _).mono ?_; rintro e V5 ⟨rfl, hF⟩; have G5 := hid (p := _) (G.trans0 hF); have Z5 := Z2.fr hF; have C5 := C2.fr hF; obtain ⟨_, _, _, _, _, _, _, _, _, _, _, _, _, _, _, _, _, _, _, _⟩ := Z5.all; obtain ⟨_, _, _, _, _, _, _, _, _, _, _, _, _, _, _, _, _, _, _, _⟩ := C5.all; clear hF)
  have hge : w.heap.size + 1 + 1 ≤ cb := by omega
  have G6 := G5.out.set9 (b := cb) (by omega) (.int .u64 (n0 : Nat)) (.int .u64 (n1 : Nat)) (.int .u64 (n2 : Nat)) (.int .u64 (n3 : Nat)) (.int .u64 (n4 : Nat)) (.int .u64 (n5 : Nat)) (.int .u64 (n6 : Nat)) (.int .u64 (n7 : Nat)) (.int .u64 (n8 : Nat))
  have Z6 := Z5.other9 (b' := cb) (by omega) (.int .u64 (n0 : Nat)) (.int .u64 (n1 : Nat)) (.int .u64 (n2 : Nat)) (.int .u64 (n3 : Nat)) (.int .u64 (n4 : Nat)) (.int .u64 (n5 : Nat)) (.int .u64 (n6 : Nat)) (.int .u64 (n7 : Nat)) (.int .u64 (n8 : Nat))
  have C6 := C5.set9 n0 n1 n2 n3 n4 n5 n6 n7 n8
  generalize (((((((((V5).setCell ⟨cb, 0, none⟩ (.int .u64 (n0 : Nat))).setCell ⟨cb, 1, none⟩ (.int .u64 (n1 : Nat))).setCell ⟨cb, 2, none⟩ (.int .u64 (n2 : Nat))).setCell ⟨cb, 3, none⟩ (.int .u64 (n3 : Nat))).setCell ⟨cb, 4, none⟩ (.int .u64 (n4 : Nat))).setCell ⟨cb, 5, none⟩ (.int .u64 (n5 : Nat))).setCell ⟨cb, 6, none⟩ (.int .u64 (n6 : Nat))).setCell ⟨cb, 7, none⟩ (.int .u64 (n7 : Nat))).setCell ⟨cb, 8, none⟩ (.int .u64 (n8 : Nat)) = U5 at *
  clear HG HA HZ HC G Z2 C2 G5 Z5 C5
  obtain ⟨_, _, _, _, _, _, _, _, _, _, _, _, _, _, _, _, _, _, _, _⟩ := Z6.all
  obtain ⟨_, _, _, _, _, _, _, _, _, _, _, _, _, _, _, _, _, _, _, _⟩ := C6.all
  have HGf := hid (p := _) G6
  clear G6
  have hcz : cb ≠ w.heap.size + 1 := by omega
  have hcz2 : w.heap.size + 1 ≠ cb := by omega
  obtain ⟨cs, hcs⟩ : ∃ cs : List Value, cs = [.int .u64 (n0 : Nat), .int .u64 (n1 : Nat), .int .u64 (n2 : Nat), .int .u64 (n3 : Nat), .int .u64 (n4 : Nat), .int .u64 (n5 : Nat), .int .u64 (n6 : Nat), .int .u64 (n7 : Nat), .int .u64 (n8 : Nat)] := ⟨_, rfl⟩
  have hr : U5.rangeAt cb 0 cs := by rw [hcs]; exact C6.range9
  have ht : U5.there (w.heap.size + 1) 0 9 := Z6.there9 rfl
  have hu36 := Tryd.underlying34
  have hl9 : cs.length = 9 := by rw [hcs]; rfl
  have hi36 : (Tryd.prog.info? 34).map (·.size) = some cs.length := by rw [hl9]; exact info36
  have h1c : ∀ v ∈ cs, v.oneCell' = true := by rw [hcs]; intro v hv; simp at hv; rcases hv with rfl | rfl | rfl | rfl | rfl | rfl | rfl | rfl | rfl <;> rfl
  have hc0 : U5.cell? ⟨cb, 0, none⟩ = some (.int .u64 (n0 : Nat)) := C6.cell 0 (by simp)
  have HCS := hid (p := _) hcs
  clear hcs
  go_region_held3 (fun V' => V'.rangeAt cb 0 cs ∧ V'.there (w.heap.size + 1) 0 9 ∧ V'.cell? ⟨cb, 0, none⟩ = some (.int .u64 (n0 : Nat))) (first | exact ⟨World.rangeAt_setCells_apart ‹_› _ _ _ (.inl hcz), World.there_setCells ‹_› _ _ _, (World.rangeAt_setCells_apart ‹_› _ _ _ (.inl hcz)) 0 _ (by rw [HCS.out]; rfl)⟩ | exact ⟨hr, ht, hc0⟩) (fail)
  go_wp2_with fail
  refine bodyPost_ret (results_cell_tmp Tryd.results41 rfl rfl (run_loadVar_mid _ (w.heap.size + 1) 0 34 cs (.array 9 23) (World.rangeAt_setCells_same _ _ _ _ (by rw [hl9]; exact ht)) hu36 rfl hi36)) rfl ⟨?_, ?_⟩
  · rw [HCS.out]; rfl
  · exact Fr.setCells (by omega) _ _ _ (by first | exact HGf.out.drew | exact HGf.out)
end Go.Proofs.YtpdagpjjlnncbaaDoor
