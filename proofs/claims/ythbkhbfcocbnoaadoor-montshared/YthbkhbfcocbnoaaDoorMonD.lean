/-
  Package mont: climb, begin. No statement is proved here.
-/
import Derived.Test.YthbkhbfcocbnoaaDoorMonC
import Derived.Deep.MidRow
import Derived.Laws.Tables
namespace Go.Proofs.YthbkhbfcocbnoaaDoor
open Go.RowKit Go.Lib Go.BigFrame
set_option linter.unusedVariables false
set_option linter.unusedSimpArgs false
set_option maxRecDepth 1000000
set_option maxHeartbeats 4000000

theorem L8.frS {S : List Nat} {V V' : World} {b t : Nat} {v0 v1 v2 v3 v4 v5 v6 v7 : Value} (h : L8 V b t v0 v1 v2 v3 v4 v5 v6 v7) (hF : Fr S V V') (hb : b ∉ S) : L8 V' b t v0 v1 v2 v3 v4 v5 v6 v7 := hF.heap h hb
theorem LD.fr {V V' : World} {b' X A B C E tt : Nat} (h : LD V b' X A B C E tt) (hF : Fr [] V V') : LD V' b' X A B C E tt := hF.heap h (by simp)
theorem LD.alloc {V : World} {b' X A B C E tt : Nat} (h : LD V b' X A B C E tt) (o : Obj) : LD (V.alloc o) b' X A B C E tt := h.fr ((Fr.refl [] V).alloc o)
theorem LD.lt {V : World} {b' X A B C E tt : Nat} (h : LD V b' X A B C E tt) : b' < V.heap.size := lt_of_heap h
theorem climb_any (b' X A B C E tt : Nat) (hX : X < Nt.P) (hA : A < Nt.P) (hB : B < Nt.P) (hC : C < Nt.P) (hE : E < Nt.P) (w : World) (hP : PV w) (hb0 : 0 < b') (hL : LD w b' X A B C E tt) : Calls Tryd.prog 26 #[.pointer (some ⟨b', 0, none⟩)] w fun e w' => e = .returned (.tuple #[]) ∧ Fr [b'] w w' ∧ LD w' b' X (dx A B) (dz A B) (sx A B C E) (sz X A B C E) tt := by
  have hP2 := hid (p := _) hP
  have HL := hid (p := _) hL
  have K1 := sum_any b' X A B C E tt hX hA hB hC hE w hP hL
  have K2 := fun W hW hl => double_any b' X A B C E tt hX hA hB hC hE W hW hb0 hl
  have l1 := dx_lt A B
  have l2 := dz_lt A B
  have l3 := sx_lt A B C E
  have l4 := sz_lt X A B C E
  obtain ⟨x0, x1, x2, x3, -, -, -, -, -, wx⟩ := wd_open X (lt4 hX)
  obtain ⟨a0, a1, a2, a3, -, -, -, -, -, wa⟩ := wd_open (dx A B) (lt4 l1)
  obtain ⟨b0, b1, b2, b3, -, -, -, -, -, wb⟩ := wd_open (dz A B) (lt4 l2)
  obtain ⟨c0, c1, c2, c3, -, -, -, -, -, wc⟩ := wd_open C (lt4 hC)
  obtain ⟨e0, e1, e2, e3, -, -, -, -, -, we⟩ := wd_open E (lt4 hE)
  obtain ⟨y0, y1, y2, y3, -, -, -, -, -, wy⟩ := wd_open (sx A B C E) (lt4 l3)
  obtain ⟨z0, z1, z2, z3, -, -, -, -, -, wz⟩ := wd_open (sz X A B C E) (lt4 l4)
  have HI := hid (p := _) (fun W => (LD.iff (V := W) (b' := b') (tt := tt) wx wa wb wc we).1)
  have HG := hid (p := _) (fun W => (LD.iff (V := W) (b' := b') (tt := tt) wx wa wb wy wz).2)
  rw [pv_of wy wz] at K1
  have H1 := hid (p := _) K1
  have H2 := hid (p := _) K2
  clear K1 K2 wx wa wb wc we wy wz hX hA hB hC hE l1 l2 l3 l4 hP hL
  go_enter Tryd.func26, Tryd.ntmps26
  go_wp2_with (first | (go_at_call 43; with_reducible refine H1.out.mono ?_; rintro e V ⟨rfl, hF⟩; have L1 := hid (p := _) (HL.out.fr hF); have F1 := hid (p := _) hF; have hlV := L1.out.lt; clear hF) | (go_at_call 44; with_reducible refine (H2.out _ (hP2.out.fr (F1.out.alloc _)) (L1.out.alloc _)).mono ?_; rintro e V2 ⟨rfl, hF, hL2⟩; have Z2 := (L8.new V 55 (.int .u64 (y0 : Nat)) (.int .u64 (y1 : Nat)) (.int .u64 (y2 : Nat)) (.int .u64 (y3 : Nat)) (.int .u64 (z0 : Nat)) (.int .u64 (z1 : Nat)) (.int .u64 (z2 : Nat)) (.int .u64 (z3 : Nat))).frS hF (by simp; omega); have F2 := hid (p := _) (((F1.out.alloc _).to (S := [b'])).trans hF (fun t ht => .inl ht)); have L2 := HI.out _ hL2; have HL2 := hid (p := _) L2; obtain ⟨_, _, _, _, _, _, _, _, _, _, _, _, _, _, _, _⟩ := L2.high; obtain ⟨_, _, _, _, _, _, _, _, _, _, _, _, _, _, _, _, _, _⟩ := Z2.all; clear hF hL2 Z2 L2))
  go_end0
  refine ⟨rfl, F2.out.set8 (b' := b') (.inl (by simp)) _ _ _ _ _ _ _ _ _ _ _ _ _ _ _ _, HG.out _ (HL2.out.set_high y0 y1 y2 y3 z0 z1 z2 z3)⟩
theorem one_lt : 1 < Nt.P := by rw [Nt.P_val]; decide
theorem zero_lt : 0 < Nt.P := by rw [Nt.P_val]; decide
theorem load57 {V : World} {b : Nat} {cs : Array Value} (h : V.heap[b]? = some (.cells cs 57)) (hs : cs.size = 21) : (loadVar 57 ⟨b, 0, none⟩).run Tryd.prog V = .ok (.agg cs) V := by
  have := run_loadVar_mid (P := Tryd.prog) V b 0 57 cs.toList _ (fun j v hv => by rw [Nat.zero_add]; exact cell_of_heap h (by simpa using hv)) Tryd.underlying57 rfl (by rw [Array.length_toList, hs]; kernel_rfl)
  simpa using this
theorem results_cell57 {fn : Func} {tmps : Array Value} {k b : Nat} {v : Value} {W : World} (hr : fn.results = #[.cell k 57]) (ht : tmps.getD k undef = .pointer (some ⟨b, 0, none⟩)) (hl : (loadVar 57 ⟨b, 0, none⟩).run Tryd.prog W = .ok v W) : (results fn tmps).run Tryd.prog W = .ok v W := by
  unfold results
  rw [hr]
  rw [Array.getD_eq_getD_getElem?] at ht
  simp [ht, asAddr, hl]
theorem begin_any (X : Nat) (hX : X < Nt.P) (w : World) (hP : PV w) : Calls Tryd.prog 24 #[wd X] w fun e w' => e = .returned (lv X 1 0 X 1 0) ∧ Fr [] w w' := by
  have K1 : ∀ W : World, Calls Tryd.prog 18 #[.int .u32 1] W fun e w' => e = .returned (wd 1) ∧ Fr [] W w' := fun W => small_any 1 (by decide) W
  have K0 : ∀ W : World, Calls Tryd.prog 18 #[.int .u32 0] W fun e w' => e = .returned (wd 0) ∧ Fr [] W w' := fun W => small_any 0 (by decide) W
  obtain ⟨x0, x1, x2, x3, -, -, -, -, -, wx⟩ := wd_open X (lt4 hX)
  obtain ⟨a0, a1, a2, a3, -, -, -, -, -, wa⟩ := wd_open 1 (lt4 one_lt)
  obtain ⟨b0, b1, b2, b3, -, -, -, -, -, wb⟩ := wd_open 0 (lt4 zero_lt)
  unfold lv
  rw [lc_of wx wa wb wx wa]
  rw [wx]
  rw [wa] at K1
  rw [wb] at K0
  have H1 := hid (p := _) K1
  have H0 := hid (p := _) K0
  clear K1 K0 wx wa wb hX hP
  go_enter Tryd.func24, Tryd.ntmps24
  go_wp2_with fail
  have F0 := hid (p := _) (((Fr.refl [] w).alloc (.cells #[.int .u64 (x0 : Nat), .int .u64 (x1 : Nat), .int .u64 (x2 : Nat), .int .u64 (x3 : Nat)] 43)).alloc (.cells #[.int .u64 0, .int .u64 0, .int .u64 0, .int .u64 0, .int .u64 0, .int .u64 0, .int .u64 0, .int .u64 0, .int .u64 0, .int .u64 0, .int .u64 0, .int .u64 0, .int .u64 0, .int .u64 0, .int .u64 0, .int .u64 0, .int .u64 0, .int .u64 0, .int .u64 0, .int .u64 0, .int .u8 0] 57))
  have X0 := (L4.new w 43 (.int .u64 (x0 : Nat)) (.int .u64 (x1 : Nat)) (.int .u64 (x2 : Nat)) (.int .u64 (x3 : Nat))).alloc (.cells #[.int .u64 0, .int .u64 0, .int .u64 0, .int .u64 0, .int .u64 0, .int .u64 0, .int .u64 0, .int .u64 0, .int .u64 0, .int .u64 0, .int .u64 0, .int .u64 0, .int .u64 0, .int .u64 0, .int .u64 0, .int .u64 0, .int .u64 0, .int .u64 0, .int .u64 0, .int .u64 0, .int .u8 0] 57)
  have R0 := hid (p := _) (show L21 ((w.alloc (.cells #[.int .u64 (x0 : Nat), .int .u64 (x1 : Nat), .int .u64 (x2 : Nat), .int .u64 (x3 : Nat)] 43)).alloc (.cells #[.int .u64 0, .int .u64 0, .int .u64 0, .int .u64 0, .int .u64 0, .int .u64 0, .int .u64 0, .int .u64 0, .int .u64 0, .int .u64 0, .int .u64 0, .int .u64 0, .int .u64 0, .int .u64 0, .int .u64 0, .int .u64 0, .int .u64 0, .int .u64 0, .int .u64 0, .int .u64 0, .int .u8 0] 57)) (w.heap.size + 1) 0 0 0 0 0 0 0 0 0 0 0 0 0 0 0 0 0 0 0 0 0 from heap_new1 w _ _)
  generalize (w.alloc (.cells #[.int .u64 (x0 : Nat), .int .u64 (x1 : Nat), .int .u64 (x2 : Nat), .int .u64 (x3 : Nat)] 43)).alloc (.cells #[.int .u64 0, .int .u64 0, .int .u64 0, .int .u64 0, .int .u64 0, .int .u64 0, .int .u64 0, .int .u64 0, .int .u64 0, .int .u64 0, .int .u64 0, .int .u64 0, .int .u64 0, .int .u64 0, .int .u64 0, .int .u64 0, .int .u64 0, .int .u64 0, .int .u64 0, .int .u64 0, .int .u8 0] 57) = U at *
  obtain ⟨_, _, _, _, _, _, _, _, _, _⟩ := X0.all
  clear X0
  refine wp_region_tail_ext [_, _, _, _, _, _, _, _] [_] (by simp) (by kernel_rfl) (by kernel_rfl) (by kernel_rfl) (by kernel_rfl) (by kernel_rfl) ?_
  simp only [List.cons_append, List.nil_append, List.map_cons, List.map_nil, idle]
  repeat (go_big_quiet_step (first | with_reducible exact Calls.ext_of (H1.out _) | with_reducible exact Calls.ext_of (H0.out _)))
  refine wpQuiet_nil ?_
  rintro _ ⟨xr, rfl⟩
  have F1 := hid (p := _) (F0.out.ext xr)
  have R1 := hid (p := _) (R0.out.ext xr)
  generalize ext U xr = W at *
  clear F0 R0
  simp only [tailWp]
  refine wp_store_row 57 (.tmp 2) (.tmp 10) rfl (w.heap.size + 1) #[.int .u64 (x0 : Nat), .int .u64 (x1 : Nat), .int .u64 (x2 : Nat), .int .u64 (x3 : Nat), .int .u64 (a0 : Nat), .int .u64 (a1 : Nat), .int .u64 (a2 : Nat), .int .u64 (a3 : Nat), .int .u64 (b0 : Nat), .int .u64 (b1 : Nat), .int .u64 (b2 : Nat), .int .u64 (b3 : Nat), .int .u64 (x0 : Nat), .int .u64 (x1 : Nat), .int .u64 (x2 : Nat), .int .u64 (x3 : Nat), .int .u64 (a0 : Nat), .int .u64 (a1 : Nat), .int .u64 (a2 : Nat), .int .u64 (a3 : Nat), .int .u8 0] rfl rfl 57 #[.int .u64 0, .int .u64 0, .int .u64 0, .int .u64 0, .int .u64 0, .int .u64 0, .int .u64 0, .int .u64 0, .int .u64 0, .int .u64 0, .int .u64 0, .int .u64 0, .int .u64 0, .int .u64 0, .int .u64 0, .int .u64 0, .int .u64 0, .int .u64 0, .int .u64 0, .int .u64 0, .int .u8 0] R1.out (by kernel_rfl) rfl (by kernel_rfl) ?_
  have hh : (W.setRow (w.heap.size + 1) #[.int .u64 (x0 : Nat), .int .u64 (x1 : Nat), .int .u64 (x2 : Nat), .int .u64 (x3 : Nat), .int .u64 (a0 : Nat), .int .u64 (a1 : Nat), .int .u64 (a2 : Nat), .int .u64 (a3 : Nat), .int .u64 (b0 : Nat), .int .u64 (b1 : Nat), .int .u64 (b2 : Nat), .int .u64 (b3 : Nat), .int .u64 (x0 : Nat), .int .u64 (x1 : Nat), .int .u64 (x2 : Nat), .int .u64 (x3 : Nat), .int .u64 (a0 : Nat), .int .u64 (a1 : Nat), .int .u64 (a2 : Nat), .int .u64 (a3 : Nat), .int .u8 0]).heap[w.heap.size + 1]? = some (.cells #[.int .u64 (x0 : Nat), .int .u64 (x1 : Nat), .int .u64 (x2 : Nat), .int .u64 (x3 : Nat), .int .u64 (a0 : Nat), .int .u64 (a1 : Nat), .int .u64 (a2 : Nat), .int .u64 (a3 : Nat), .int .u64 (b0 : Nat), .int .u64 (b1 : Nat), .int .u64 (b2 : Nat), .int .u64 (b3 : Nat), .int .u64 (x0 : Nat), .int .u64 (x1 : Nat), .int .u64 (x2 : Nat), .int .u64 (x3 : Nat), .int .u64 (a0 : Nat), .int .u64 (a1 : Nat), .int .u64 (a2 : Nat), .int .u64 (a3 : Nat), .int .u8 0] 57) := setRow_heap W (w.heap.size + 1) _ _ _ _ R1.out
  have F2 := F1.out.setRow (g := w.heap.size + 1) (.inr (Nat.le_succ _)) #[.int .u64 (x0 : Nat), .int .u64 (x1 : Nat), .int .u64 (x2 : Nat), .int .u64 (x3 : Nat), .int .u64 (a0 : Nat), .int .u64 (a1 : Nat), .int .u64 (a2 : Nat), .int .u64 (a3 : Nat), .int .u64 (b0 : Nat), .int .u64 (b1 : Nat), .int .u64 (b2 : Nat), .int .u64 (b3 : Nat), .int .u64 (x0 : Nat), .int .u64 (x1 : Nat), .int .u64 (x2 : Nat), .int .u64 (x3 : Nat), .int .u64 (a0 : Nat), .int .u64 (a1 : Nat), .int .u64 (a2 : Nat), .int .u64 (a3 : Nat), .int .u8 0]
  generalize W.setRow (w.heap.size + 1) #[.int .u64 (x0 : Nat), .int .u64 (x1 : Nat), .int .u64 (x2 : Nat), .int .u64 (x3 : Nat), .int .u64 (a0 : Nat), .int .u64 (a1 : Nat), .int .u64 (a2 : Nat), .int .u64 (a3 : Nat), .int .u64 (b0 : Nat), .int .u64 (b1 : Nat), .int .u64 (b2 : Nat), .int .u64 (b3 : Nat), .int .u64 (x0 : Nat), .int .u64 (x1 : Nat), .int .u64 (x2 : Nat), .int .u64 (x3 : Nat), .int .u64 (a0 : Nat), .int .u64 (a1 : Nat), .int .u64 (a2 : Nat), .int .u64 (a3 : Nat), .int .u8 0] = W2 at *
  clear F1 R1
  have HH := hid (p := _) hh
  have HF2 := hid (p := _) F2
  clear hh F2
  simp only [Act.put]
  go_simp
  go_wp2_with fail
  refine bodyPost_ret (results_cell57 Tryd.results24 rfl (load57 HH.out rfl)) rfl ⟨rfl, HF2.out⟩
end Go.Proofs.YthbkhbfcocbnoaaDoor
