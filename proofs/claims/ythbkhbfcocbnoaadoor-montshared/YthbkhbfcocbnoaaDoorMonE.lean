/-
  Package mont: turn. No statement is proved here.
-/
import Derived.Test.YthbkhbfcocbnoaaDoorMonD
import Derived.Deep.RegionHeld3
namespace Go.Proofs.YthbkhbfcocbnoaaDoor
open Go.RowKit Go.Lib Go.BigFrame
set_option linter.unusedVariables false
set_option linter.unusedSimpArgs false
set_option maxRecDepth 1000000
set_option maxHeartbeats 4000000

theorem L21.frS {S : List Nat} {V V' : World} {b' x0 x1 x2 x3 a0 a1 a2 a3 b0 b1 b2 b3 c0 c1 c2 c3 e0 e1 e2 e3 tt : Nat} (h : L21 V b' x0 x1 x2 x3 a0 a1 a2 a3 b0 b1 b2 b3 c0 c1 c2 c3 e0 e1 e2 e3 tt) (hF : Fr S V V') (hb : b' ∉ S) : L21 V' b' x0 x1 x2 x3 a0 a1 a2 a3 b0 b1 b2 b3 c0 c1 c2 c3 e0 e1 e2 e3 tt := hF.heap h hb
/-- Two cells of a variable in a block of its own. -/
def L2 (V : World) (b t : Nat) (v0 v1 : Value) : Prop := V.heap[b]? = some (.cells #[v0, v1] t)
section
variable {V V' : World} {b t : Nat} {v0 v1 : Value}
theorem L2.all (h : L2 V b t v0 v1) : V.cell? ⟨b, 0, none⟩ = some v0 ∧ V.cell? ⟨b, 1, none⟩ = some v1 ∧ b < V.heap.size ∧ b ≠ V.heap.size :=
  ⟨cell_of_heap h rfl, cell_of_heap h rfl, lt_of_heap h, by have := lt_of_heap h; omega⟩
theorem L2.fr (h : L2 V b t v0 v1) (hF : Fr [] V V') : L2 V' b t v0 v1 := hF.heap h (by simp)
theorem L2.alloc (h : L2 V b t v0 v1) (o : Obj) : L2 (V.alloc o) b t v0 v1 := h.fr ((Fr.refl [] V).alloc o)
theorem L2.new (V : World) (t : Nat) (v0 v1 : Value) : L2 (V.alloc (.cells #[v0, v1] t)) V.heap.size t v0 v1 := (MapKept.heap_alloc V _).1
end
theorem sel_no (A B : Nat) (hA : A < 115792089237316195423570985008687907853269984665640564039457584007913129639936) (hB : B < 115792089237316195423570985008687907853269984665640564039457584007913129639936) (w : World) : Calls Tryd.prog 42 #[.bool false, wd A, wd B] w fun e w' => e = .returned (wd A) ∧ Fr [] w w' := select_any false A B hA hB w
theorem sel_yes (A B : Nat) (hA : A < 115792089237316195423570985008687907853269984665640564039457584007913129639936) (hB : B < 115792089237316195423570985008687907853269984665640564039457584007913129639936) (w : World) : Calls Tryd.prog 42 #[.bool true, wd A, wd B] w fun e w' => e = .returned (wd B) ∧ Fr [] w w' := select_any true A B hA hB w
theorem index78_0 (b' : Nat) (W : World) : (Instr.index 78 (.agg #[.pointer (some ⟨b', 4, none⟩), .pointer (some ⟨b', 12, none⟩), .pointer (some ⟨b', 8, none⟩), .pointer (some ⟨b', 16, none⟩)]) (.int .i64 0)).run Tryd.prog W = .ok (.agg #[.pointer (some ⟨b', 4, none⟩), .pointer (some ⟨b', 12, none⟩)]) W := by kernel_rfl
theorem index78_1 (b' : Nat) (W : World) : (Instr.index 78 (.agg #[.pointer (some ⟨b', 4, none⟩), .pointer (some ⟨b', 12, none⟩), .pointer (some ⟨b', 8, none⟩), .pointer (some ⟨b', 16, none⟩)]) (.int .i64 1)).run Tryd.prog W = .ok (.agg #[.pointer (some ⟨b', 8, none⟩), .pointer (some ⟨b', 16, none⟩)]) W := by kernel_rfl
theorem L21.set_x {V : World} {b' x0 x1 x2 x3 a0 a1 a2 a3 b0 b1 b2 b3 c0 c1 c2 c3 e0 e1 e2 e3 tt : Nat} (h : L21 V b' x0 x1 x2 x3 a0 a1 a2 a3 b0 b1 b2 b3 c0 c1 c2 c3 e0 e1 e2 e3 tt) (n0 n1 n2 n3 m0 m1 m2 m3 : Nat) : L21 ((((((((V.setCell ⟨b', 4, none⟩ (.int .u64 (n0 : Nat))).setCell ⟨b', 5, none⟩ (.int .u64 (n1 : Nat))).setCell ⟨b', 6, none⟩ (.int .u64 (n2 : Nat))).setCell ⟨b', 7, none⟩ (.int .u64 (n3 : Nat))).setCell ⟨b', 12, none⟩ (.int .u64 (m0 : Nat))).setCell ⟨b', 13, none⟩ (.int .u64 (m1 : Nat))).setCell ⟨b', 14, none⟩ (.int .u64 (m2 : Nat))).setCell ⟨b', 15, none⟩ (.int .u64 (m3 : Nat))) b' x0 x1 x2 x3 n0 n1 n2 n3 b0 b1 b2 b3 m0 m1 m2 m3 e0 e1 e2 e3 tt := by
  unfold L21 at h ⊢
  have h0 := cells_set (i := 4) h (.int .u64 (n0 : Nat))
  simp only [List.setIfInBounds_toArray, List.set_cons_zero, List.set_cons_succ] at h0
  have h1 := cells_set (i := 5) h0 (.int .u64 (n1 : Nat))
  simp only [List.setIfInBounds_toArray, List.set_cons_zero, List.set_cons_succ] at h1
  have h2 := cells_set (i := 6) h1 (.int .u64 (n2 : Nat))
  simp only [List.setIfInBounds_toArray, List.set_cons_zero, List.set_cons_succ] at h2
  have h3 := cells_set (i := 7) h2 (.int .u64 (n3 : Nat))
  simp only [List.setIfInBounds_toArray, List.set_cons_zero, List.set_cons_succ] at h3
  have h4 := cells_set (i := 12) h3 (.int .u64 (m0 : Nat))
  simp only [List.setIfInBounds_toArray, List.set_cons_zero, List.set_cons_succ] at h4
  have h5 := cells_set (i := 13) h4 (.int .u64 (m1 : Nat))
  simp only [List.setIfInBounds_toArray, List.set_cons_zero, List.set_cons_succ] at h5
  have h6 := cells_set (i := 14) h5 (.int .u64 (m2 : Nat))
  simp only [List.setIfInBounds_toArray, List.set_cons_zero, List.set_cons_succ] at h6
  have h7 := cells_set (i := 15) h6 (.int .u64 (m3 : Nat))
  simp only [List.setIfInBounds_toArray, List.set_cons_zero, List.set_cons_succ] at h7
  exact h7
theorem L21.set_z {V : World} {b' x0 x1 x2 x3 a0 a1 a2 a3 b0 b1 b2 b3 c0 c1 c2 c3 e0 e1 e2 e3 tt : Nat} (h : L21 V b' x0 x1 x2 x3 a0 a1 a2 a3 b0 b1 b2 b3 c0 c1 c2 c3 e0 e1 e2 e3 tt) (n0 n1 n2 n3 m0 m1 m2 m3 : Nat) : L21 ((((((((V.setCell ⟨b', 8, none⟩ (.int .u64 (n0 : Nat))).setCell ⟨b', 9, none⟩ (.int .u64 (n1 : Nat))).setCell ⟨b', 10, none⟩ (.int .u64 (n2 : Nat))).setCell ⟨b', 11, none⟩ (.int .u64 (n3 : Nat))).setCell ⟨b', 16, none⟩ (.int .u64 (m0 : Nat))).setCell ⟨b', 17, none⟩ (.int .u64 (m1 : Nat))).setCell ⟨b', 18, none⟩ (.int .u64 (m2 : Nat))).setCell ⟨b', 19, none⟩ (.int .u64 (m3 : Nat))) b' x0 x1 x2 x3 a0 a1 a2 a3 n0 n1 n2 n3 c0 c1 c2 c3 m0 m1 m2 m3 tt := by
  unfold L21 at h ⊢
  have h0 := cells_set (i := 8) h (.int .u64 (n0 : Nat))
  simp only [List.setIfInBounds_toArray, List.set_cons_zero, List.set_cons_succ] at h0
  have h1 := cells_set (i := 9) h0 (.int .u64 (n1 : Nat))
  simp only [List.setIfInBounds_toArray, List.set_cons_zero, List.set_cons_succ] at h1
  have h2 := cells_set (i := 10) h1 (.int .u64 (n2 : Nat))
  simp only [List.setIfInBounds_toArray, List.set_cons_zero, List.set_cons_succ] at h2
  have h3 := cells_set (i := 11) h2 (.int .u64 (n3 : Nat))
  simp only [List.setIfInBounds_toArray, List.set_cons_zero, List.set_cons_succ] at h3
  have h4 := cells_set (i := 16) h3 (.int .u64 (m0 : Nat))
  simp only [List.setIfInBounds_toArray, List.set_cons_zero, List.set_cons_succ] at h4
  have h5 := cells_set (i := 17) h4 (.int .u64 (m1 : Nat))
  simp only [List.setIfInBounds_toArray, List.set_cons_zero, List.set_cons_succ] at h5
  have h6 := cells_set (i := 18) h5 (.int .u64 (m2 : Nat))
  simp only [List.setIfInBounds_toArray, List.set_cons_zero, List.set_cons_succ] at h6
  have h7 := cells_set (i := 19) h6 (.int .u64 (m3 : Nat))
  simp only [List.setIfInBounds_toArray, List.set_cons_zero, List.set_cons_succ] at h7
  exact h7

theorem cells_tu {V : World} {b' x0 x1 x2 x3 a0 a1 a2 a3 b0 b1 b2 b3 c0 c1 c2 c3 e0 e1 e2 e3 tt : Nat} (h : L21 V b' x0 x1 x2 x3 a0 a1 a2 a3 b0 b1 b2 b3 c0 c1 c2 c3 e0 e1 e2 e3 tt) (bit : Nat) : L21 (V.setCell ⟨b', 20, none⟩ (.int .u8 (bit : Nat))) b' x0 x1 x2 x3 a0 a1 a2 a3 b0 b1 b2 b3 c0 c1 c2 c3 e0 e1 e2 e3 bit := by
  unfold L21 at h ⊢
  have h0 := cells_set (i := 20) h (.int .u8 (bit : Nat))
  simp only [List.setIfInBounds_toArray, List.set_cons_zero, List.set_cons_succ] at h0
  exact h0

theorem turn_diff (b' X A B C E tt bit : Nat) (hX : X < Nt.P) (hA : A < Nt.P) (hB : B < Nt.P) (hC : C < Nt.P) (hE : E < Nt.P) (hne : bit ≠ tt) (w : World) (hP : PV w) (hb0 : 0 < b') (hL : LD w b' X A B C E tt) : Calls Tryd.prog 25 #[.pointer (some ⟨b', 0, none⟩), .int .u8 (bit : Nat)] w fun e w' => e = .returned (.tuple #[]) ∧ Fr [b'] w w' ∧ LD w' b' X C E A B bit := by
  have hP2 := hid (p := _) hP
  have K1 := fun W => sel_yes A C (lt4 hA) (lt4 hC) W
  have K2 := fun W => sel_yes C A (lt4 hC) (lt4 hA) W
  have K3 := fun W => sel_yes B E (lt4 hB) (lt4 hE) W
  have K4 := fun W => sel_yes E B (lt4 hE) (lt4 hB) W
  obtain ⟨x0, x1, x2, x3, -, -, -, -, -, wx⟩ := wd_open X (lt4 hX)
  obtain ⟨a0, a1, a2, a3, -, -, -, -, -, wa⟩ := wd_open A (lt4 hA)
  obtain ⟨b0, b1, b2, b3, -, -, -, -, -, wb⟩ := wd_open B (lt4 hB)
  obtain ⟨c0, c1, c2, c3, -, -, -, -, -, wc⟩ := wd_open C (lt4 hC)
  obtain ⟨e0, e1, e2, e3, -, -, -, -, -, we⟩ := wd_open E (lt4 hE)
  have hL2 := (LD.iff wx wa wb wc we).1 hL
  have HG := hid (p := _) (fun W => (LD.iff (V := W) (b' := b') (tt := bit) wx wc we wa wb).2)
  rw [wa, wc] at K1 K2
  rw [wb, we] at K3 K4
  have H1 := hid (p := _) K1
  have H2 := hid (p := _) K2
  have H3 := hid (p := _) K3
  have H4 := hid (p := _) K4
  have HL := hid (p := _) hL2
  have hlt := hL2.lt
  obtain ⟨_, _⟩ := hL2.tu
  clear K1 K2 K3 K4 wx wa wb wc we hX hA hB hC hE hP hL hL2
  have hn1 : ¬ ((bit : Int) = (tt : Int)) := by omega
  have hn2 : ((bit : Int) == (tt : Int)) = false := beq_eq_false_iff_ne.2 hn1
  have hn3 : ((bit : Int) != (tt : Int)) = true := bne_iff_ne.2 hn1
  clear hne
  have hix0 := index78_0 b'
  have hix1 := index78_1 b'
  go_enter Tryd.func25, Tryd.ntmps25
  go_wp2_with fail
  refine wp_region_ext (by kernel_rfl) (by kernel_rfl) ?_
  repeat (go_big_quiet_step (fail))
  refine wpQuiet_nil ?_
  rintro _ ⟨xq, rfl⟩
  have F0 := hid (p := _) (ext_fr w xq)
  have L0 := hid (p := _) (HL.out.ext xq)
  generalize ext w xq = U at *
  go_simp
  go_wp2_with fail
  go_loopg [34] 2 (fun gk q wr => ∃ k : Nat, k ≤ 2 ∧ gk = 2 - k ∧ q = .int .i64 k ∧ Hid (Fr [b'] w wr ∧ (k = 0 → L21 wr b' x0 x1 x2 x3 a0 a1 a2 a3 b0 b1 b2 b3 c0 c1 c2 c3 e0 e1 e2 e3 tt) ∧ (k = 1 → L21 wr b' x0 x1 x2 x3 c0 c1 c2 c3 b0 b1 b2 b3 a0 a1 a2 a3 e0 e1 e2 e3 tt) ∧ (k = 2 → L21 wr b' x0 x1 x2 x3 c0 c1 c2 c3 e0 e1 e2 e3 a0 a1 a2 a3 b0 b1 b2 b3 tt)))
  case atStart => exact ⟨0, by omega, rfl, rfl, hid ⟨F0.out.to, fun _ => L0.out, fun h => (by cases h), fun h => (by cases h)⟩⟩
  case round =>
    obtain ⟨k, hk, hgk, rfl, K⟩ := hrel
    obtain rfl | rfl | rfl : k = 0 ∨ k = 1 ∨ k = 2 := by omega
    · have L1 := K.out.2.1 rfl
      have F1 := hid (p := _) K.out.1
      have hlt1 := L1.lt
      obtain ⟨_, _, _, _, _, _, _, _, _, _, _, _, _, _, _, _⟩ := L1.low
      obtain ⟨_, _, _, _, _, _, _, _, _, _, _, _, _, _, _, _⟩ := L1.high
      have HL1 := hid (p := _) L1
      clear K L1
      go_wp2_with fail
      have hlt1' : b' ≠ wr.heap.size := by omega
      have T0 := L2.new wr 77 (.pointer (some ⟨b', 4, none⟩)) (.pointer (some ⟨b', 12, none⟩))
      have L2' := HL1.out.alloc (.cells #[.pointer (some ⟨b', 4, none⟩), .pointer (some ⟨b', 12, none⟩)] 77)
      have F2 := hid (p := _) (F1.out.alloc (.cells #[.pointer (some ⟨b', 4, none⟩), .pointer (some ⟨b', 12, none⟩)] 77))
      generalize wr.alloc (.cells #[.pointer (some ⟨b', 4, none⟩), .pointer (some ⟨b', 12, none⟩)] 77) = U1 at *
      generalize wr.heap.size = tb at *
      obtain ⟨t0c, t1c, t2c, t3c⟩ := T0.all
      have hltU := L2'.lt
      obtain ⟨_, _, _, _, _, _, _, _, _, _, _, _, _, _, _, _⟩ := L2'.low
      obtain ⟨_, _, _, _, _, _, _, _, _, _, _, _, _, _, _, _⟩ := L2'.high
      have HL2 := hid (p := _) L2'
      have HT0 := hid (p := _) T0
      have hbU : b' ≠ U1.heap.size := by omega
      have hbU1 : b' ≠ U1.heap.size + 1 := by omega
      have htU1 : tb ≠ U1.heap.size + 1 := by omega
      clear F1 HL1 T0 L2'
      go_region_held3 (fun V' => V'.cell? ⟨tb, 0, none⟩ = some (.pointer (some ⟨b', 4, none⟩)) ∧ V'.cell? ⟨tb, 1, none⟩ = some (.pointer (some ⟨b', 12, none⟩)) ∧ V'.cell? ⟨b', 4, none⟩ = some (.int .u64 (a0 : Nat)) ∧ V'.cell? ⟨b', 5, none⟩ = some (.int .u64 (a1 : Nat)) ∧ V'.cell? ⟨b', 6, none⟩ = some (.int .u64 (a2 : Nat)) ∧ V'.cell? ⟨b', 7, none⟩ = some (.int .u64 (a3 : Nat)) ∧ V'.cell? ⟨b', 12, none⟩ = some (.int .u64 (c0 : Nat)) ∧ V'.cell? ⟨b', 13, none⟩ = some (.int .u64 (c1 : Nat)) ∧ V'.cell? ⟨b', 14, none⟩ = some (.int .u64 (c2 : Nat)) ∧ V'.cell? ⟨b', 15, none⟩ = some (.int .u64 (c3 : Nat))) (go_keep) (fail)
      · have F3 := hid (p := _) (((F2.out.alloc (.cells #[.int .u64 (a0 : Nat), .int .u64 (a1 : Nat), .int .u64 (a2 : Nat), .int .u64 (a3 : Nat)] 43)).alloc (.cells #[.int .u64 (c0 : Nat), .int .u64 (c1 : Nat), .int .u64 (c2 : Nat), .int .u64 (c3 : Nat)] 43)).drew)
        have hdr : Fr [] ((U1.alloc (.cells #[.int .u64 (a0 : Nat), .int .u64 (a1 : Nat), .int .u64 (a2 : Nat), .int .u64 (a3 : Nat)] 43)).alloc (.cells #[.int .u64 (c0 : Nat), .int .u64 (c1 : Nat), .int .u64 (c2 : Nat), .int .u64 (c3 : Nat)] 43)) ((U1.alloc (.cells #[.int .u64 (a0 : Nat), .int .u64 (a1 : Nat), .int .u64 (a2 : Nat), .int .u64 (a3 : Nat)] 43)).alloc (.cells #[.int .u64 (c0 : Nat), .int .u64 (c1 : Nat), .int .u64 (c2 : Nat), .int .u64 (c3 : Nat)] 43)).drew := (Fr.refl [] _).drew
        have L3 := hid (p := _) (((HL2.out.alloc (.cells #[.int .u64 (a0 : Nat), .int .u64 (a1 : Nat), .int .u64 (a2 : Nat), .int .u64 (a3 : Nat)] 43)).alloc (.cells #[.int .u64 (c0 : Nat), .int .u64 (c1 : Nat), .int .u64 (c2 : Nat), .int .u64 (c3 : Nat)] 43)).fr hdr)
        have T3 := ((HT0.out.alloc (.cells #[.int .u64 (a0 : Nat), .int .u64 (a1 : Nat), .int .u64 (a2 : Nat), .int .u64 (a3 : Nat)] 43)).alloc (.cells #[.int .u64 (c0 : Nat), .int .u64 (c1 : Nat), .int .u64 (c2 : Nat), .int .u64 (c3 : Nat)] 43)).fr hdr
        have P3 := ((L4.new U1 43 (.int .u64 (a0 : Nat)) (.int .u64 (a1 : Nat)) (.int .u64 (a2 : Nat)) (.int .u64 (a3 : Nat))).alloc (.cells #[.int .u64 (c0 : Nat), .int .u64 (c1 : Nat), .int .u64 (c2 : Nat), .int .u64 (c3 : Nat)] 43)).fr hdr
        have Q3 := (L4.new1 U1 (.cells #[.int .u64 (a0 : Nat), .int .u64 (a1 : Nat), .int .u64 (a2 : Nat), .int .u64 (a3 : Nat)] 43) 43 (.int .u64 (c0 : Nat)) (.int .u64 (c1 : Nat)) (.int .u64 (c2 : Nat)) (.int .u64 (c3 : Nat))).fr hdr
        clear hdr
        generalize ((U1.alloc (.cells #[.int .u64 (a0 : Nat), .int .u64 (a1 : Nat), .int .u64 (a2 : Nat), .int .u64 (a3 : Nat)] 43)).alloc (.cells #[.int .u64 (c0 : Nat), .int .u64 (c1 : Nat), .int .u64 (c2 : Nat), .int .u64 (c3 : Nat)] 43)).drew = X1 at *
        have hsz : U1.heap.size ≠ U1.heap.size + 1 := by omega
        have y1 : b' ≠ tb := by omega
        have y2 : tb ≠ b' := by omega
        have y3 : b' ≠ U1.heap.size := by omega
        have y4 : U1.heap.size ≠ b' := by omega
        have y5 : b' ≠ U1.heap.size + 1 := by omega
        have y6 : U1.heap.size + 1 ≠ b' := by omega
        clear hlt1 hlt1' hltU hbU hbU1 htU1 F2 HL2 HT0 t0c t1c t2c t3c
        generalize U1.heap.size = pa at *
        generalize hpb : pa + 1 = pb at *
        clear hpb
        obtain ⟨_, _, _, _⟩ := T3.all
        obtain ⟨_, _, _, _, _, _, _, _, _, _⟩ := P3.all
        obtain ⟨_, _, _, _, _, _, _, _, _, _⟩ := Q3.all
        have HT3 := hid (p := _) T3
        have HP3 := hid (p := _) P3
        have HQ3 := hid (p := _) Q3
        clear T3 P3 Q3
        go_wp2_with fail
        go_region_held3 (fun V' => V'.cell? ⟨tb, 0, none⟩ = some (.pointer (some ⟨b', 4, none⟩)) ∧ V'.cell? ⟨tb, 1, none⟩ = some (.pointer (some ⟨b', 12, none⟩)) ∧ V'.cell? ⟨pa, 0, none⟩ = some (.int .u64 (a0 : Nat)) ∧ V'.cell? ⟨pa, 1, none⟩ = some (.int .u64 (a1 : Nat)) ∧ V'.cell? ⟨pa, 2, none⟩ = some (.int .u64 (a2 : Nat)) ∧ V'.cell? ⟨pa, 3, none⟩ = some (.int .u64 (a3 : Nat)) ∧ V'.cell? ⟨pb, 0, none⟩ = some (.int .u64 (c0 : Nat)) ∧ V'.cell? ⟨pb, 1, none⟩ = some (.int .u64 (c1 : Nat)) ∧ V'.cell? ⟨pb, 2, none⟩ = some (.int .u64 (c2 : Nat)) ∧ V'.cell? ⟨pb, 3, none⟩ = some (.int .u64 (c3 : Nat))) (go_keep)
          ((go_at_call 42; first | (with_reducible refine (H1.out _).mono ?_; rintro e Va ⟨rfl, hF⟩; have hX : Fr [] X1 Va := (by first | exact hF | exact (Fr.refl [] X1).drew.trans0 hF); have Ta := HT3.out.fr hX; have Pa := HP3.out.fr hX; have Qa := HQ3.out.fr hX; have La := hid (p := _) (L3.out.fr hX); have Fa := hid (p := _) (F3.out.trans0 hX); obtain ⟨_, _, _, _⟩ := Ta.all; obtain ⟨_, _, _, _, _, _, _, _, _, _⟩ := Pa.all; obtain ⟨_, _, _, _, _, _, _, _, _, _⟩ := Qa.all; clear hF hX) | (with_reducible refine (H2.out _).mono ?_; rintro e Vb ⟨rfl, hF⟩; have Tb := Ta.fr hF; have Pb := Pa.fr hF; have Qb := Qa.fr hF; have Lb := La.out.fr hF; have Fb := hid (p := _) (Fa.out.trans0 hF); have hlb := Lb.lt; obtain ⟨_, _, _, _⟩ := Tb.all; obtain ⟨_, _, _, _, _, _, _, _, _, _⟩ := Pb.all; obtain ⟨_, _, _, _, _, _, _, _, _, _⟩ := Qb.all; obtain ⟨_, _, _, _, _, _, _, _, _, _, _, _, _, _, _, _⟩ := Lb.low; obtain ⟨_, _, _, _, _, _, _, _, _, _, _, _, _, _, _, _⟩ := Lb.high; have HLb := hid (p := _) Lb; clear hF Lb)))
        go_wp2_with fail
        go_roundg (2 - 1)
        case measure => omega
        case rel => exact ⟨1, by omega, rfl, by go_num, hid ⟨Fb.out.set8 (b' := b') (.inl (by simp)) _ _ _ _ _ _ _ _ _ _ _ _ _ _ _ _, fun h => (by cases h), fun _ => HLb.out.set_x c0 c1 c2 c3 a0 a1 a2 a3, fun h => (by cases h)⟩⟩
      · have F3 := hid (p := _) (((F2.out.alloc (.cells #[.int .u64 (c0 : Nat), .int .u64 (c1 : Nat), .int .u64 (c2 : Nat), .int .u64 (c3 : Nat)] 43)).alloc (.cells #[.int .u64 (a0 : Nat), .int .u64 (a1 : Nat), .int .u64 (a2 : Nat), .int .u64 (a3 : Nat)] 43)).drew)
        have hdr : Fr [] ((U1.alloc (.cells #[.int .u64 (c0 : Nat), .int .u64 (c1 : Nat), .int .u64 (c2 : Nat), .int .u64 (c3 : Nat)] 43)).alloc (.cells #[.int .u64 (a0 : Nat), .int .u64 (a1 : Nat), .int .u64 (a2 : Nat), .int .u64 (a3 : Nat)] 43)) ((U1.alloc (.cells #[.int .u64 (c0 : Nat), .int .u64 (c1 : Nat), .int .u64 (c2 : Nat), .int .u64 (c3 : Nat)] 43)).alloc (.cells #[.int .u64 (a0 : Nat), .int .u64 (a1 : Nat), .int .u64 (a2 : Nat), .int .u64 (a3 : Nat)] 43)).drew := (Fr.refl [] _).drew
        have L3 := hid (p := _) (((HL2.out.alloc (.cells #[.int .u64 (c0 : Nat), .int .u64 (c1 : Nat), .int .u64 (c2 : Nat), .int .u64 (c3 : Nat)] 43)).alloc (.cells #[.int .u64 (a0 : Nat), .int .u64 (a1 : Nat), .int .u64 (a2 : Nat), .int .u64 (a3 : Nat)] 43)).fr hdr)
        have T3 := ((HT0.out.alloc (.cells #[.int .u64 (c0 : Nat), .int .u64 (c1 : Nat), .int .u64 (c2 : Nat), .int .u64 (c3 : Nat)] 43)).alloc (.cells #[.int .u64 (a0 : Nat), .int .u64 (a1 : Nat), .int .u64 (a2 : Nat), .int .u64 (a3 : Nat)] 43)).fr hdr
        have P3 := ((L4.new U1 43 (.int .u64 (c0 : Nat)) (.int .u64 (c1 : Nat)) (.int .u64 (c2 : Nat)) (.int .u64 (c3 : Nat))).alloc (.cells #[.int .u64 (a0 : Nat), .int .u64 (a1 : Nat), .int .u64 (a2 : Nat), .int .u64 (a3 : Nat)] 43)).fr hdr
        have Q3 := (L4.new1 U1 (.cells #[.int .u64 (c0 : Nat), .int .u64 (c1 : Nat), .int .u64 (c2 : Nat), .int .u64 (c3 : Nat)] 43) 43 (.int .u64 (a0 : Nat)) (.int .u64 (a1 : Nat)) (.int .u64 (a2 : Nat)) (.int .u64 (a3 : Nat))).fr hdr
        clear hdr
        generalize ((U1.alloc (.cells #[.int .u64 (c0 : Nat), .int .u64 (c1 : Nat), .int .u64 (c2 : Nat), .int .u64 (c3 : Nat)] 43)).alloc (.cells #[.int .u64 (a0 : Nat), .int .u64 (a1 : Nat), .int .u64 (a2 : Nat), .int .u64 (a3 : Nat)] 43)).drew = X1 at *
        have hsz : U1.heap.size ≠ U1.heap.size + 1 := by omega
        have y1 : b' ≠ tb := by omega
        have y2 : tb ≠ b' := by omega
        have y3 : b' ≠ U1.heap.size := by omega
        have y4 : U1.heap.size ≠ b' := by omega
        have y5 : b' ≠ U1.heap.size + 1 := by omega
        have y6 : U1.heap.size + 1 ≠ b' := by omega
        clear hlt1 hlt1' hltU hbU hbU1 htU1 F2 HL2 HT0 t0c t1c t2c t3c
        generalize U1.heap.size = pa at *
        generalize hpb : pa + 1 = pb at *
        clear hpb
        obtain ⟨_, _, _, _⟩ := T3.all
        obtain ⟨_, _, _, _, _, _, _, _, _, _⟩ := P3.all
        obtain ⟨_, _, _, _, _, _, _, _, _, _⟩ := Q3.all
        have HT3 := hid (p := _) T3
        have HP3 := hid (p := _) P3
        have HQ3 := hid (p := _) Q3
        clear T3 P3 Q3
        go_wp2_with fail
        go_region_held3 (fun V' => V'.cell? ⟨tb, 0, none⟩ = some (.pointer (some ⟨b', 4, none⟩)) ∧ V'.cell? ⟨tb, 1, none⟩ = some (.pointer (some ⟨b', 12, none⟩)) ∧ V'.cell? ⟨pb, 0, none⟩ = some (.int .u64 (a0 : Nat)) ∧ V'.cell? ⟨pb, 1, none⟩ = some (.int .u64 (a1 : Nat)) ∧ V'.cell? ⟨pb, 2, none⟩ = some (.int .u64 (a2 : Nat)) ∧ V'.cell? ⟨pb, 3, none⟩ = some (.int .u64 (a3 : Nat)) ∧ V'.cell? ⟨pa, 0, none⟩ = some (.int .u64 (c0 : Nat)) ∧ V'.cell? ⟨pa, 1, none⟩ = some (.int .u64 (c1 : Nat)) ∧ V'.cell? ⟨pa, 2, none⟩ = some (.int .u64 (c2 : Nat)) ∧ V'.cell? ⟨pa, 3, none⟩ = some (.int .u64 (c3 : Nat))) (go_keep)
          ((go_at_call 42; first | (with_reducible refine (H1.out _).mono ?_; rintro e Va ⟨rfl, hF⟩; have hX : Fr [] X1 Va := (by first | exact hF | exact (Fr.refl [] X1).drew.trans0 hF); have Ta := HT3.out.fr hX; have Pa := HP3.out.fr hX; have Qa := HQ3.out.fr hX; have La := hid (p := _) (L3.out.fr hX); have Fa := hid (p := _) (F3.out.trans0 hX); obtain ⟨_, _, _, _⟩ := Ta.all; obtain ⟨_, _, _, _, _, _, _, _, _, _⟩ := Pa.all; obtain ⟨_, _, _, _, _, _, _, _, _, _⟩ := Qa.all; clear hF hX) | (with_reducible refine (H2.out _).mono ?_; rintro e Vb ⟨rfl, hF⟩; have Tb := Ta.fr hF; have Pb := Pa.fr hF; have Qb := Qa.fr hF; have Lb := La.out.fr hF; have Fb := hid (p := _) (Fa.out.trans0 hF); have hlb := Lb.lt; obtain ⟨_, _, _, _⟩ := Tb.all; obtain ⟨_, _, _, _, _, _, _, _, _, _⟩ := Pb.all; obtain ⟨_, _, _, _, _, _, _, _, _, _⟩ := Qb.all; obtain ⟨_, _, _, _, _, _, _, _, _, _, _, _, _, _, _, _⟩ := Lb.low; obtain ⟨_, _, _, _, _, _, _, _, _, _, _, _, _, _, _, _⟩ := Lb.high; have HLb := hid (p := _) Lb; clear hF Lb)))
        go_wp2_with fail
        go_roundg (2 - 1)
        case measure => omega
        case rel => exact ⟨1, by omega, rfl, by go_num, hid ⟨Fb.out.set8 (b' := b') (.inl (by simp)) _ _ _ _ _ _ _ _ _ _ _ _ _ _ _ _, fun h => (by cases h), fun _ => HLb.out.set_x c0 c1 c2 c3 a0 a1 a2 a3, fun h => (by cases h)⟩⟩
    · have L1 := K.out.2.2.1 rfl
      have F1 := hid (p := _) K.out.1
      have hlt1 := L1.lt
      obtain ⟨_, _, _, _, _, _, _, _, _, _, _, _, _, _, _, _⟩ := L1.low
      obtain ⟨_, _, _, _, _, _, _, _, _, _, _, _, _, _, _, _⟩ := L1.high
      have HL1 := hid (p := _) L1
      clear K L1
      go_wp2_with fail
      have hlt1' : b' ≠ wr.heap.size := by omega
      have T0 := L2.new wr 77 (.pointer (some ⟨b', 8, none⟩)) (.pointer (some ⟨b', 16, none⟩))
      have L2' := HL1.out.alloc (.cells #[.pointer (some ⟨b', 8, none⟩), .pointer (some ⟨b', 16, none⟩)] 77)
      have F2 := hid (p := _) (F1.out.alloc (.cells #[.pointer (some ⟨b', 8, none⟩), .pointer (some ⟨b', 16, none⟩)] 77))
      generalize wr.alloc (.cells #[.pointer (some ⟨b', 8, none⟩), .pointer (some ⟨b', 16, none⟩)] 77) = U1 at *
      generalize wr.heap.size = tb at *
      obtain ⟨t0c, t1c, t2c, t3c⟩ := T0.all
      have hltU := L2'.lt
      obtain ⟨_, _, _, _, _, _, _, _, _, _, _, _, _, _, _, _⟩ := L2'.low
      obtain ⟨_, _, _, _, _, _, _, _, _, _, _, _, _, _, _, _⟩ := L2'.high
      have HL2 := hid (p := _) L2'
      have HT0 := hid (p := _) T0
      have hbU : b' ≠ U1.heap.size := by omega
      have hbU1 : b' ≠ U1.heap.size + 1 := by omega
      have htU1 : tb ≠ U1.heap.size + 1 := by omega
      clear F1 HL1 T0 L2'
      go_region_held3 (fun V' => V'.cell? ⟨tb, 0, none⟩ = some (.pointer (some ⟨b', 8, none⟩)) ∧ V'.cell? ⟨tb, 1, none⟩ = some (.pointer (some ⟨b', 16, none⟩)) ∧ V'.cell? ⟨b', 8, none⟩ = some (.int .u64 (b0 : Nat)) ∧ V'.cell? ⟨b', 9, none⟩ = some (.int .u64 (b1 : Nat)) ∧ V'.cell? ⟨b', 10, none⟩ = some (.int .u64 (b2 : Nat)) ∧ V'.cell? ⟨b', 11, none⟩ = some (.int .u64 (b3 : Nat)) ∧ V'.cell? ⟨b', 16, none⟩ = some (.int .u64 (e0 : Nat)) ∧ V'.cell? ⟨b', 17, none⟩ = some (.int .u64 (e1 : Nat)) ∧ V'.cell? ⟨b', 18, none⟩ = some (.int .u64 (e2 : Nat)) ∧ V'.cell? ⟨b', 19, none⟩ = some (.int .u64 (e3 : Nat))) (go_keep) (fail)
      · have F3 := hid (p := _) (((F2.out.alloc (.cells #[.int .u64 (b0 : Nat), .int .u64 (b1 : Nat), .int .u64 (b2 : Nat), .int .u64 (b3 : Nat)] 43)).alloc (.cells #[.int .u64 (e0 : Nat), .int .u64 (e1 : Nat), .int .u64 (e2 : Nat), .int .u64 (e3 : Nat)] 43)).drew)
        have hdr : Fr [] ((U1.alloc (.cells #[.int .u64 (b0 : Nat), .int .u64 (b1 : Nat), .int .u64 (b2 : Nat), .int .u64 (b3 : Nat)] 43)).alloc (.cells #[.int .u64 (e0 : Nat), .int .u64 (e1 : Nat), .int .u64 (e2 : Nat), .int .u64 (e3 : Nat)] 43)) ((U1.alloc (.cells #[.int .u64 (b0 : Nat), .int .u64 (b1 : Nat), .int .u64 (b2 : Nat), .int .u64 (b3 : Nat)] 43)).alloc (.cells #[.int .u64 (e0 : Nat), .int .u64 (e1 : Nat), .int .u64 (e2 : Nat), .int .u64 (e3 : Nat)] 43)).drew := (Fr.refl [] _).drew
        have L3 := hid (p := _) (((HL2.out.alloc (.cells #[.int .u64 (b0 : Nat), .int .u64 (b1 : Nat), .int .u64 (b2 : Nat), .int .u64 (b3 : Nat)] 43)).alloc (.cells #[.int .u64 (e0 : Nat), .int .u64 (e1 : Nat), .int .u64 (e2 : Nat), .int .u64 (e3 : Nat)] 43)).fr hdr)
        have T3 := ((HT0.out.alloc (.cells #[.int .u64 (b0 : Nat), .int .u64 (b1 : Nat), .int .u64 (b2 : Nat), .int .u64 (b3 : Nat)] 43)).alloc (.cells #[.int .u64 (e0 : Nat), .int .u64 (e1 : Nat), .int .u64 (e2 : Nat), .int .u64 (e3 : Nat)] 43)).fr hdr
        have P3 := ((L4.new U1 43 (.int .u64 (b0 : Nat)) (.int .u64 (b1 : Nat)) (.int .u64 (b2 : Nat)) (.int .u64 (b3 : Nat))).alloc (.cells #[.int .u64 (e0 : Nat), .int .u64 (e1 : Nat), .int .u64 (e2 : Nat), .int .u64 (e3 : Nat)] 43)).fr hdr
        have Q3 := (L4.new1 U1 (.cells #[.int .u64 (b0 : Nat), .int .u64 (b1 : Nat), .int .u64 (b2 : Nat), .int .u64 (b3 : Nat)] 43) 43 (.int .u64 (e0 : Nat)) (.int .u64 (e1 : Nat)) (.int .u64 (e2 : Nat)) (.int .u64 (e3 : Nat))).fr hdr
        clear hdr
        generalize ((U1.alloc (.cells #[.int .u64 (b0 : Nat), .int .u64 (b1 : Nat), .int .u64 (b2 : Nat), .int .u64 (b3 : Nat)] 43)).alloc (.cells #[.int .u64 (e0 : Nat), .int .u64 (e1 : Nat), .int .u64 (e2 : Nat), .int .u64 (e3 : Nat)] 43)).drew = X1 at *
        have hsz : U1.heap.size ≠ U1.heap.size + 1 := by omega
        have y1 : b' ≠ tb := by omega
        have y2 : tb ≠ b' := by omega
        have y3 : b' ≠ U1.heap.size := by omega
        have y4 : U1.heap.size ≠ b' := by omega
        have y5 : b' ≠ U1.heap.size + 1 := by omega
        have y6 : U1.heap.size + 1 ≠ b' := by omega
        clear hlt1 hlt1' hltU hbU hbU1 htU1 F2 HL2 HT0 t0c t1c t2c t3c
        generalize U1.heap.size = pa at *
        generalize hpb : pa + 1 = pb at *
        clear hpb
        obtain ⟨_, _, _, _⟩ := T3.all
        obtain ⟨_, _, _, _, _, _, _, _, _, _⟩ := P3.all
        obtain ⟨_, _, _, _, _, _, _, _, _, _⟩ := Q3.all
        have HT3 := hid (p := _) T3
        have HP3 := hid (p := _) P3
        have HQ3 := hid (p := _) Q3
        clear T3 P3 Q3
        go_wp2_with fail
        go_region_held3 (fun V' => V'.cell? ⟨tb, 0, none⟩ = some (.pointer (some ⟨b', 8, none⟩)) ∧ V'.cell? ⟨tb, 1, none⟩ = some (.pointer (some ⟨b', 16, none⟩)) ∧ V'.cell? ⟨pa, 0, none⟩ = some (.int .u64 (b0 : Nat)) ∧ V'.cell? ⟨pa, 1, none⟩ = some (.int .u64 (b1 : Nat)) ∧ V'.cell? ⟨pa, 2, none⟩ = some (.int .u64 (b2 : Nat)) ∧ V'.cell? ⟨pa, 3, none⟩ = some (.int .u64 (b3 : Nat)) ∧ V'.cell? ⟨pb, 0, none⟩ = some (.int .u64 (e0 : Nat)) ∧ V'.cell? ⟨pb, 1, none⟩ = some (.int .u64 (e1 : Nat)) ∧ V'.cell? ⟨pb, 2, none⟩ = some (.int .u64 (e2 : Nat)) ∧ V'.cell? ⟨pb, 3, none⟩ = some (.int .u64 (e3 : Nat))) (go_keep)
          ((go_at_call 42; first | (with_reducible refine (H3.out _).mono ?_; rintro e Va ⟨rfl, hF⟩; have hX : Fr [] X1 Va := (by first | exact hF | exact (Fr.refl [] X1).drew.trans0 hF); have Ta := HT3.out.fr hX; have Pa := HP3.out.fr hX; have Qa := HQ3.out.fr hX; have La := hid (p := _) (L3.out.fr hX); have Fa := hid (p := _) (F3.out.trans0 hX); obtain ⟨_, _, _, _⟩ := Ta.all; obtain ⟨_, _, _, _, _, _, _, _, _, _⟩ := Pa.all; obtain ⟨_, _, _, _, _, _, _, _, _, _⟩ := Qa.all; clear hF hX) | (with_reducible refine (H4.out _).mono ?_; rintro e Vb ⟨rfl, hF⟩; have Tb := Ta.fr hF; have Pb := Pa.fr hF; have Qb := Qa.fr hF; have Lb := La.out.fr hF; have Fb := hid (p := _) (Fa.out.trans0 hF); have hlb := Lb.lt; obtain ⟨_, _, _, _⟩ := Tb.all; obtain ⟨_, _, _, _, _, _, _, _, _, _⟩ := Pb.all; obtain ⟨_, _, _, _, _, _, _, _, _, _⟩ := Qb.all; obtain ⟨_, _, _, _, _, _, _, _, _, _, _, _, _, _, _, _⟩ := Lb.low; obtain ⟨_, _, _, _, _, _, _, _, _, _, _, _, _, _, _, _⟩ := Lb.high; have HLb := hid (p := _) Lb; clear hF Lb)))
        go_wp2_with fail
        go_roundg (2 - 2)
        case measure => omega
        case rel => exact ⟨2, by omega, rfl, by go_num, hid ⟨Fb.out.set8 (b' := b') (.inl (by simp)) _ _ _ _ _ _ _ _ _ _ _ _ _ _ _ _, fun h => (by cases h), fun h => (by cases h), fun _ => HLb.out.set_z e0 e1 e2 e3 b0 b1 b2 b3⟩⟩
      · have F3 := hid (p := _) (((F2.out.alloc (.cells #[.int .u64 (e0 : Nat), .int .u64 (e1 : Nat), .int .u64 (e2 : Nat), .int .u64 (e3 : Nat)] 43)).alloc (.cells #[.int .u64 (b0 : Nat), .int .u64 (b1 : Nat), .int .u64 (b2 : Nat), .int .u64 (b3 : Nat)] 43)).drew)
        have hdr : Fr [] ((U1.alloc (.cells #[.int .u64 (e0 : Nat), .int .u64 (e1 : Nat), .int .u64 (e2 : Nat), .int .u64 (e3 : Nat)] 43)).alloc (.cells #[.int .u64 (b0 : Nat), .int .u64 (b1 : Nat), .int .u64 (b2 : Nat), .int .u64 (b3 : Nat)] 43)) ((U1.alloc (.cells #[.int .u64 (e0 : Nat), .int .u64 (e1 : Nat), .int .u64 (e2 : Nat), .int .u64 (e3 : Nat)] 43)).alloc (.cells #[.int .u64 (b0 : Nat), .int .u64 (b1 : Nat), .int .u64 (b2 : Nat), .int .u64 (b3 : Nat)] 43)).drew := (Fr.refl [] _).drew
        have L3 := hid (p := _) (((HL2.out.alloc (.cells #[.int .u64 (e0 : Nat), .int .u64 (e1 : Nat), .int .u64 (e2 : Nat), .int .u64 (e3 : Nat)] 43)).alloc (.cells #[.int .u64 (b0 : Nat), .int .u64 (b1 : Nat), .int .u64 (b2 : Nat), .int .u64 (b3 : Nat)] 43)).fr hdr)
        have T3 := ((HT0.out.alloc (.cells #[.int .u64 (e0 : Nat), .int .u64 (e1 : Nat), .int .u64 (e2 : Nat), .int .u64 (e3 : Nat)] 43)).alloc (.cells #[.int .u64 (b0 : Nat), .int .u64 (b1 : Nat), .int .u64 (b2 : Nat), .int .u64 (b3 : Nat)] 43)).fr hdr
        have P3 := ((L4.new U1 43 (.int .u64 (e0 : Nat)) (.int .u64 (e1 : Nat)) (.int .u64 (e2 : Nat)) (.int .u64 (e3 : Nat))).alloc (.cells #[.int .u64 (b0 : Nat), .int .u64 (b1 : Nat), .int .u64 (b2 : Nat), .int .u64 (b3 : Nat)] 43)).fr hdr
        have Q3 := (L4.new1 U1 (.cells #[.int .u64 (e0 : Nat), .int .u64 (e1 : Nat), .int .u64 (e2 : Nat), .int .u64 (e3 : Nat)] 43) 43 (.int .u64 (b0 : Nat)) (.int .u64 (b1 : Nat)) (.int .u64 (b2 : Nat)) (.int .u64 (b3 : Nat))).fr hdr
        clear hdr
        generalize ((U1.alloc (.cells #[.int .u64 (e0 : Nat), .int .u64 (e1 : Nat), .int .u64 (e2 : Nat), .int .u64 (e3 : Nat)] 43)).alloc (.cells #[.int .u64 (b0 : Nat), .int .u64 (b1 : Nat), .int .u64 (b2 : Nat), .int .u64 (b3 : Nat)] 43)).drew = X1 at *
        have hsz : U1.heap.size ≠ U1.heap.size + 1 := by omega
        have y1 : b' ≠ tb := by omega
        have y2 : tb ≠ b' := by omega
        have y3 : b' ≠ U1.heap.size := by omega
        have y4 : U1.heap.size ≠ b' := by omega
        have y5 : b' ≠ U1.heap.size + 1 := by omega
        have y6 : U1.heap.size + 1 ≠ b' := by omega
        clear hlt1 hlt1' hltU hbU hbU1 htU1 F2 HL2 HT0 t0c t1c t2c t3c
        generalize U1.heap.size = pa at *
        generalize hpb : pa + 1 = pb at *
        clear hpb
        obtain ⟨_, _, _, _⟩ := T3.all
        obtain ⟨_, _, _, _, _, _, _, _, _, _⟩ := P3.all
        obtain ⟨_, _, _, _, _, _, _, _, _, _⟩ := Q3.all
        have HT3 := hid (p := _) T3
        have HP3 := hid (p := _) P3
        have HQ3 := hid (p := _) Q3
        clear T3 P3 Q3
        go_wp2_with fail
        go_region_held3 (fun V' => V'.cell? ⟨tb, 0, none⟩ = some (.pointer (some ⟨b', 8, none⟩)) ∧ V'.cell? ⟨tb, 1, none⟩ = some (.pointer (some ⟨b', 16, none⟩)) ∧ V'.cell? ⟨pb, 0, none⟩ = some (.int .u64 (b0 : Nat)) ∧ V'.cell? ⟨pb, 1, none⟩ = some (.int .u64 (b1 : Nat)) ∧ V'.cell? ⟨pb, 2, none⟩ = some (.int .u64 (b2 : Nat)) ∧ V'.cell? ⟨pb, 3, none⟩ = some (.int .u64 (b3 : Nat)) ∧ V'.cell? ⟨pa, 0, none⟩ = some (.int .u64 (e0 : Nat)) ∧ V'.cell? ⟨pa, 1, none⟩ = some (.int .u64 (e1 : Nat)) ∧ V'.cell? ⟨pa, 2, none⟩ = some (.int .u64 (e2 : Nat)) ∧ V'.cell? ⟨pa, 3, none⟩ = some (.int .u64 (e3 : Nat))) (go_keep)
          ((go_at_call 42; first | (with_reducible refine (H3.out _).mono ?_; rintro e Va ⟨rfl, hF⟩; have hX : Fr [] X1 Va := (by first | exact hF | exact (Fr.refl [] X1).drew.trans0 hF); have Ta := HT3.out.fr hX; have Pa := HP3.out.fr hX; have Qa := HQ3.out.fr hX; have La := hid (p := _) (L3.out.fr hX); have Fa := hid (p := _) (F3.out.trans0 hX); obtain ⟨_, _, _, _⟩ := Ta.all; obtain ⟨_, _, _, _, _, _, _, _, _, _⟩ := Pa.all; obtain ⟨_, _, _, _, _, _, _, _, _, _⟩ := Qa.all; clear hF hX) | (with_reducible refine (H4.out _).mono ?_; rintro e Vb ⟨rfl, hF⟩; have Tb := Ta.fr hF; have Pb := Pa.fr hF; have Qb := Qa.fr hF; have Lb := La.out.fr hF; have Fb := hid (p := _) (Fa.out.trans0 hF); have hlb := Lb.lt; obtain ⟨_, _, _, _⟩ := Tb.all; obtain ⟨_, _, _, _, _, _, _, _, _, _⟩ := Pb.all; obtain ⟨_, _, _, _, _, _, _, _, _, _⟩ := Qb.all; obtain ⟨_, _, _, _, _, _, _, _, _, _, _, _, _, _, _, _⟩ := Lb.low; obtain ⟨_, _, _, _, _, _, _, _, _, _, _, _, _, _, _, _⟩ := Lb.high; have HLb := hid (p := _) Lb; clear hF Lb)))
        go_wp2_with fail
        go_roundg (2 - 2)
        case measure => omega
        case rel => exact ⟨2, by omega, rfl, by go_num, hid ⟨Fb.out.set8 (b' := b') (.inl (by simp)) _ _ _ _ _ _ _ _ _ _ _ _ _ _ _ _, fun h => (by cases h), fun h => (by cases h), fun _ => HLb.out.set_z e0 e1 e2 e3 b0 b1 b2 b3⟩⟩
    · have L9 := hid (p := _) (K.out.2.2.2 rfl)
      have F9 := hid (p := _) K.out.1
      have hlt9 := L9.out.lt
      obtain ⟨_, _⟩ := L9.out.tu
      clear K
      go_wp2_with fail
      go_end0
      exact ⟨rfl, F9.out.setCell (.inl (by simp)) _, HG.out _ (cells_tu L9.out _)⟩
end Go.Proofs.YthbkhbfcocbnoaaDoor
