/-
  NumRows: its walk. No statement is proved here.
-/
import Derived.Test.YtjaocjnefopdfaaDoorRowsA
namespace Go.Proofs.YtjaocjnefopdfaaDoor
open Go.RowKit Go.Lib Go.BigFrame
set_option linter.unusedVariables false
set_option linter.unusedSimpArgs false
set_option maxRecDepth 1000000
set_option maxHeartbeats 40000000

theorem zero4 {y0 y1 y2 y3 : Nat} (h : Value.agg #[.int .u64 (y0 : Nat), .int .u64 (y1 : Nat), .int .u64 (y2 : Nat), .int .u64 (y3 : Nat)] = wd 0) : (y0 : Int) = 0 ∧ (y1 : Int) = 0 ∧ (y2 : Int) = 0 ∧ (y3 : Int) = 0 := by
  rw [← wd_0] at h
  simp at h
  omega
theorem rows_yes (s : ByteArray) (hs : s.size = 32) (n lb lo cap : Nat) (D : Nat → Nat) (T : Nat → ByteArray) (hn : n ≤ 100) (w : World) (hP : PV w) (hS : ∀ i, i < n → StepAt w lb (lo + i * 2) (D i) (T i)) : Calls Tryd.prog 6 #[.string s, .slice (some ⟨lb, lo, none⟩) n cap] w fun e w' => e = .returned (.bool true) ∧ Fr [] w w' := by
  have hP2 := hid (p := _) hP
  have HSt := hid (p := _) hS
  have aP := of_ltP s
  have K1 := fun W (h : PV W) => of_yes s hs W h
  have K2 := fun W => rof_any s hs W
  generalize of s = x0' at *
  have Kv := hid (p := _) (fun W (h : PV W) => alive_any W h)
  have KI := hid (p := _) (fun x (hx : x < Nt.P) W => is_yes x (lt4 hx) W)
  have KO := hid (p := _) (fun t (ht : t.size = 32) W (h : PV W) => of_yes t ht W h)
  have KN := hid (p := _) (fun t (ht : t.size ≠ 32) W => of_no t ht W)
  have KR := hid (p := _) (fun t (ht : t.size = 32) W => rof_any t ht W)
  have KA := hid (p := _) (fun x y (hx : x < Nt.P) (hy : y < Nt.P) W (h : PV W) => add_any x y hx hy W h)
  have KRA := hid (p := _) (fun x y (hx : x < Nt.P) (hy : y < Nt.P) W => radd_any x y (big_lt hx) (big_lt hy) (sum_K19 (Nat.le_of_lt hx) (Nat.le_of_lt hy)) W)
  have KS := hid (p := _) (fun x y (hx : x < Nt.P) (hy : y < Nt.P) W (h : PV W) => sub_any x y hx hy W h)
  have KRS := hid (p := _) (fun x y (hx : x < Nt.P) (hy : y < Nt.P) W => rsub_any x y hx hy W)
  have KM := hid (p := _) (fun x y (hx : x < Nt.P) (hy : y < Nt.P) W (h : PV W) => mul_any x y (lt4 hx) (lt4 hy) W h)
  have KRM := hid (p := _) (fun x y (hx : x < Nt.P) (hy : y < Nt.P) W => rmul_any x y (big_lt hx) (big_lt hy) (prod_K19 (lt4 hx) (lt4 hy)) W)
  have HX0 := hid (p := _) aP
  obtain ⟨p0, p1, p2, p3, -, -, -, -, -, wp0⟩ := wd_open x0' (lt4 aP)
  obtain ⟨q0, q1, q2, q3, q4, q5, q6, q7, q8, eq0, wq0⟩ := nd_open x0'
  rw [wp0] at K1
  rw [wq0] at K2
  have H1 := hid (p := _) K1
  have H2 := hid (p := _) K2
  have HP0 := hid (p := _) wp0
  have HQ0 := hid (p := _) eq0
  have hni : ¬ (100 : Int) < (n : Int) := by omega
  clear K1 K2 hP hS hs aP wp0 wq0 eq0
  have F0 := hid (p := _) (Fr.refl [] w)
  go_enter Tryd.func6, Tryd.ntmps6
  go_wp2_with (first | (go_at_call 9; with_reducible refine (H1.out _ hP2.out).mono ?_; rintro e V1 ⟨rfl, hF⟩; have F1 := hid (p := _) (F0.out.trans0 hF); clear hF) | (go_at_call 16; with_reducible refine (H2.out _).mono ?_; rintro e V2 ⟨rfl, hF⟩; have F2 := hid (p := _) ((F1.out.alloc _).trans0 hF); have A2 := hid (p := _) ((L4.new V1 28 _ _ _ _).fr hF); clear hF))
  have hs1 := F1.out.size
  have hs2 : V1.heap.size < V2.heap.size := lt_of_heap A2.out
  go_loopg [8] n (fun gk q wr => ∃ i : Nat, i ≤ n ∧ gk = n - i ∧ q = .int .i64 i ∧ Hid (Fr [] w wr ∧ LE wr V1.heap.size 28 (rw' x0' D T i) ∧ RW wr V2.heap.size 36 (dts (rw' x0' D T i))))
  case atStart =>
    refine ⟨0, Nat.zero_le _, rfl, rfl, hid ⟨F2.out.alloc _, (LE.iff HP0.out).2 (A2.out.alloc _), ?_⟩⟩
    rw [show rw' x0' D T 0 = x0' from rfl, HQ0.out]
    exact RW.of9 (heap_new0 V2 _)
  case round =>
    obtain ⟨i, hi, hgk, rfl, K⟩ := hrel
    have xP := rw_ltP HX0.out D T i
    by_cases hlt : i < n
    · have hlt' : (i : Int) < (n : Int) := by omega
      have st := (HSt.out i hlt).fr K.out.1
      have yP := ny_ltP (T i)
      have hnext : rw' x0' D T (i + 1) = nx (D i) (rw' x0' D T i) (ny (T i)) := rfl
      have HNX := hid (p := _) hnext
      have hny : (T i).size = 32 → of (T i) = ny (T i) := fun h => by unfold ny; rw [if_pos h]
      have hny0 : (T i).size ≠ 32 → ny (T i) = 0 := fun h => by unfold ny; rw [if_neg h]
      have HST := hid (p := _) (HSt.out i hlt)
      generalize hx' : rw' x0' D T (i + 1) = x' at *
      have HX' := hid (p := _) hx'
      clear hx'
      generalize rw' x0' D T i = x at *
      generalize ny (T i) = y at *
      generalize T i = tx at *
      generalize D i = dx at *
      obtain ⟨x0, x1, x2, x3, -, -, -, -, -, wx⟩ := wd_open x (lt4 xP)
      obtain ⟨a0, a1, a2, a3, a4, a5, a6, a7, a8, ea, wa⟩ := nd_open x
      have KF := hid (p := _) K.out.1
      have KL := hid (p := _) ((LE.iff wx).1 K.out.2.1)
      have KC0 := K.out.2.2
      rw [ea] at KC0
      have KC := hid (p := _) KC0
      have d0 := st.c0
      have d1 := st.c1
      clear K KC0 hnext hlt hi st
      by_cases ht : tx.size = 32
      · by_cases hd1 : dx = 1
        · have hd := hd1
          by_cases h7 : i % 7 = 6
          · as_aux_lemma =>
              have N1 := fun W (h : PV W) => KO.out tx ht W h
              have N2 := fun W => KR.out tx ht W
              rw [hny ht] at N1 N2
              have N3 := fun W (h : PV W) => KS.out x y xP yP W h
              have N4 := fun W => KRS.out x y xP yP W
              have hz : (x + Nt.P - y) % Nt.P = x' := by rw [HNX.out]; unfold nx; rw [if_pos hd]
              rw [hz] at N3 N4
              have zP : x' < Nt.P := by rw [← hz]; exact Nat.mod_lt _ P_pos
              have N5 := fun W => KI.out x' zP W
              obtain ⟨y0, y1, y2, y3, -, -, -, -, -, wy⟩ := wd_open y (lt4 yP)
              obtain ⟨b0, b1, b2, b3, b4, b5, b6, b7, b8, eb, wb⟩ := nd_open y
              obtain ⟨z0, z1, z2, z3, -, -, -, -, -, wz⟩ := wd_open x' (lt4 zP)
              obtain ⟨c0, c1, c2, c3, c4, c5, c6, c7, c8, ec, wc1⟩ := nd_open x'
              rw [wy] at N1
              rw [wb] at N2
              rw [wx, wy, wz] at N3
              rw [wa, wb, wc1] at N4
              rw [wz, wc1] at N5
              have HN1 := hid (p := _) N1
              have HN3 := hid (p := _) N3
              have HN4 := hid (p := _) N4
              have HN5 := hid (p := _) N5
              have HN2 := hid (p := _) N2
              have HZ4 := hid (p := _) wz
              have HC9 := hid (p := _) ec
              have hdi : (dx : Int) = 1 := by omega
              have h7i : (i : Int) % 7 = 6 := by omega
              clear N1 N3 N4 N5 N2 hz zP wz wc1 ec hny hny0 wx wa ea xP yP wy wb eb HNX
              go_wp2_with (first | (go_at_call 9; with_reducible refine (HN1.out _ (hP2.out.fr KF.out)).mono ?_; rintro e V3 ⟨rfl, hF⟩; have F3 := hid (p := _) (KF.out.trans0 hF); have L3 := hid (p := _) (KL.out.fr hF); have C3 := hid (p := _) (KC.out.fr hF); have st := HST.out.fr F3.out; have e0 := st.c0; have e1 := st.c1; clear st; obtain ⟨_, _, _, _, _, _, _, _, _, _⟩ := L3.out.all; obtain ⟨_, _, _, _, _, _, _, _, _, _, _, _, _, _, _, _, _, _, _, _⟩ := C3.out.all; have lt3 := C3.out.lt; have lbl : lb < V3.heap.size := World.block_lt_of_cell? V3 _ e1; have lbn : lb ≠ V3.heap.size := (by omega); have lbm : lb ≠ V3.heap.size + 1 := (by omega); clear hF HN1) | (go_at_call 16; with_reducible refine (HN2.out _).mono ?_; rintro e V4 ⟨rfl, hF⟩; have F4 := hid (p := _) (((F3.out.alloc _).alloc _).trans0 hF); have L4' := hid (p := _) (((L3.out.alloc _).alloc _).fr hF); have C4 := hid (p := _) (((C3.out.alloc _).alloc _).fr hF); have B4 := hid (p := _) (((L4.new V3 28 _ _ _ _).alloc _).fr hF); have D4 := hid (p := _) ((RW.ofz (t := 36) (heap_new1 V3 _ _)).fr hF); have lt4' := D4.out.lt; clear hF HN2) | (refine wpList_store_36 rfl (.tmp 11) (.tmp 50) rfl (V3.heap.size + 1) [0, 0, 0, 0, 0, 0, 0, 0, 0] [b0, b1, b2, b3, b4, b5, b6, b7, b8] 36 rfl rfl rfl rfl D4.out ?_; intro W5 hW; have F5 := hid (p := _) (show Fr [] w W5 from hW ▸ F4.out.setRow (.inr (by omega)) _); have L5 := (show L4 W5 V1.heap.size 28 (.int .u64 (x0 : Nat)) (.int .u64 (x1 : Nat)) (.int .u64 (x2 : Nat)) (.int .u64 (x3 : Nat)) from hW ▸ L4'.out.setRow_other (by omega) _); have C5 := (show RW W5 V2.heap.size 36 [a0, a1, a2, a3, a4, a5, a6, a7, a8] from hW ▸ C4.out.setRow_other (by omega) _); have B5 := (show L4 W5 V3.heap.size 28 (.int .u64 (y0 : Nat)) (.int .u64 (y1 : Nat)) (.int .u64 (y2 : Nat)) (.int .u64 (y3 : Nat)) from hW ▸ B4.out.setRow_other (by omega) _); have D5 := (show RW W5 (V3.heap.size + 1) 36 [b0, b1, b2, b3, b4, b5, b6, b7, b8] from hW ▸ D4.out.setRow _); obtain ⟨_, _, _, _, _, _, _, _, _, _⟩ := L5.all; obtain ⟨_, _, _, _, _, _, _, _, _, _⟩ := B5.all; have HL5 := hid (p := _) L5; have HC5 := hid (p := _) C5; have HB5 := hid (p := _) B5; have HD5 := hid (p := _) D5; have st := HST.out.fr F5.out; have e0 := st.c0; have e1 := st.c1; clear st; clear hW L5 C5 B5 D5 F4 L4' C4 B4 D4) | (go_at_call 20; with_reducible refine (HN3.out _ (hP2.out.fr F5.out)).mono ?_; rintro e V6 ⟨rfl, hF⟩; have F6 := hid (p := _) (F5.out.trans0 hF); have L6 := hid (p := _) (HL5.out.fr hF); have C6 := hid (p := _) (HC5.out.fr hF); have D6 := hid (p := _) (HD5.out.fr hF); clear hF HN3) | (refine wpList_store_28 rfl (.tmp 5) (.tmp 66) rfl V1.heap.size 28 _ _ _ _ z0 z1 z2 z3 rfl rfl L6.out ?_; intro W7 hW; have F7 := hid (p := _) (show Fr [] w W7 from hW ▸ F6.out.setRow (.inr hs1) _); have L7 := hid (p := _) (show L4 W7 V1.heap.size 28 (.int .u64 (z0 : Nat)) (.int .u64 (z1 : Nat)) (.int .u64 (z2 : Nat)) (.int .u64 (z3 : Nat)) from hW ▸ L6.out.setRow _ _ _ _); have C7 := (show RW W7 V2.heap.size 36 [a0, a1, a2, a3, a4, a5, a6, a7, a8] from hW ▸ C6.out.setRow_other (by omega) _); have D7 := (show RW W7 (V3.heap.size + 1) 36 [b0, b1, b2, b3, b4, b5, b6, b7, b8] from hW ▸ D6.out.setRow_other (by omega) _); obtain ⟨_, _, _, _, _, _, _, _, _, _, _, _, _, _, _, _, _, _, _, _⟩ := C7.all; obtain ⟨_, _, _, _, _, _, _, _, _, _, _, _, _, _, _, _, _, _, _, _⟩ := D7.all; have HC7 := hid (p := _) C7; clear hW C7 D7 F6 L6 C6 D6) | (go_at_call 21; with_reducible refine (HN4.out _).mono ?_; rintro e V8 ⟨rfl, hF⟩; have F8 := hid (p := _) (F7.out.trans0 hF); have L8 := hid (p := _) (L7.out.fr hF); have C8 := hid (p := _) (HC7.out.fr hF); clear hF HN4) | (refine wpList_store_36 rfl (.tmp 7) (.tmp 69) rfl V2.heap.size [a0, a1, a2, a3, a4, a5, a6, a7, a8] [c0, c1, c2, c3, c4, c5, c6, c7, c8] 36 rfl rfl rfl rfl C8.out ?_; intro W9 hW; have F9 := hid (p := _) (show Fr [] w W9 from hW ▸ F8.out.setRow (.inr (by omega)) _); have L9 := (show L4 W9 V1.heap.size 28 (.int .u64 (z0 : Nat)) (.int .u64 (z1 : Nat)) (.int .u64 (z2 : Nat)) (.int .u64 (z3 : Nat)) from hW ▸ L8.out.setRow_other (by omega) _); have C9 := (show RW W9 V2.heap.size 36 [c0, c1, c2, c3, c4, c5, c6, c7, c8] from hW ▸ C8.out.setRow _); obtain ⟨_, _, _, _, _, _, _, _, _, _⟩ := L9.all; obtain ⟨_, _, _, _, _, _, _, _, _, _, _, _, _, _, _, _, _, _, _, _⟩ := C9.all; have HL9 := hid (p := _) L9; have HC9' := hid (p := _) C9; clear hW L9 C9 F8 L8 C8) | (go_at_call 12; with_reducible refine (HN5.out _).mono ?_; rintro e V10 ⟨rfl, hF⟩; have F10 := hid (p := _) (F9.out.trans0 hF); have L10 := hid (p := _) (HL9.out.fr hF); have C10 := hid (p := _) (HC9'.out.fr hF); clear hF))
              go_roundg (n - (i + 1))
              case measure => omega
              case rel =>
                exact ⟨i + 1, by omega, rfl, by go_num, hid ⟨F10.out, by rw [HX'.out]; exact (LE.iff HZ4.out).2 L10.out, by rw [HX'.out, HC9.out]; exact C10.out⟩⟩
          · as_aux_lemma =>
              have N1 := fun W (h : PV W) => KO.out tx ht W h
              have N2 := fun W => KR.out tx ht W
              rw [hny ht] at N1 N2
              have N3 := fun W (h : PV W) => KS.out x y xP yP W h
              have N4 := fun W => KRS.out x y xP yP W
              have hz : (x + Nt.P - y) % Nt.P = x' := by rw [HNX.out]; unfold nx; rw [if_pos hd]
              rw [hz] at N3 N4
              have zP : x' < Nt.P := by rw [← hz]; exact Nat.mod_lt _ P_pos
              have N5 := fun W => KI.out x' zP W
              obtain ⟨y0, y1, y2, y3, -, -, -, -, -, wy⟩ := wd_open y (lt4 yP)
              obtain ⟨b0, b1, b2, b3, b4, b5, b6, b7, b8, eb, wb⟩ := nd_open y
              obtain ⟨z0, z1, z2, z3, -, -, -, -, -, wz⟩ := wd_open x' (lt4 zP)
              obtain ⟨c0, c1, c2, c3, c4, c5, c6, c7, c8, ec, wc1⟩ := nd_open x'
              rw [wy] at N1
              rw [wb] at N2
              rw [wx, wy, wz] at N3
              rw [wa, wb, wc1] at N4
              rw [wz, wc1] at N5
              have HN1 := hid (p := _) N1
              have HN3 := hid (p := _) N3
              have HN4 := hid (p := _) N4
              have HN5 := hid (p := _) N5
              have HN2 := hid (p := _) N2
              have HZ4 := hid (p := _) wz
              have HC9 := hid (p := _) ec
              have hdi : (dx : Int) = 1 := by omega
              have h7i : ¬ (i : Int) % 7 = 6 := by omega
              have h7b : ((i : Int) % 7 == 6) = false := beq_eq_false_iff_ne.2 h7i
              clear N1 N3 N4 N5 N2 hz zP wz wc1 ec hny hny0 wx wa ea xP yP wy wb eb HNX
              go_wp2_with (first | (go_at_call 9; with_reducible refine (HN1.out _ (hP2.out.fr KF.out)).mono ?_; rintro e V3 ⟨rfl, hF⟩; have F3 := hid (p := _) (KF.out.trans0 hF); have L3 := hid (p := _) (KL.out.fr hF); have C3 := hid (p := _) (KC.out.fr hF); have st := HST.out.fr F3.out; have e0 := st.c0; have e1 := st.c1; clear st; obtain ⟨_, _, _, _, _, _, _, _, _, _⟩ := L3.out.all; obtain ⟨_, _, _, _, _, _, _, _, _, _, _, _, _, _, _, _, _, _, _, _⟩ := C3.out.all; have lt3 := C3.out.lt; have lbl : lb < V3.heap.size := World.block_lt_of_cell? V3 _ e1; have lbn : lb ≠ V3.heap.size := (by omega); have lbm : lb ≠ V3.heap.size + 1 := (by omega); clear hF HN1) | (go_at_call 16; with_reducible refine (HN2.out _).mono ?_; rintro e V4 ⟨rfl, hF⟩; have F4 := hid (p := _) (((F3.out.alloc _).alloc _).trans0 hF); have L4' := hid (p := _) (((L3.out.alloc _).alloc _).fr hF); have C4 := hid (p := _) (((C3.out.alloc _).alloc _).fr hF); have B4 := hid (p := _) (((L4.new V3 28 _ _ _ _).alloc _).fr hF); have D4 := hid (p := _) ((RW.ofz (t := 36) (heap_new1 V3 _ _)).fr hF); have lt4' := D4.out.lt; clear hF HN2) | (refine wpList_store_36 rfl (.tmp 11) (.tmp 50) rfl (V3.heap.size + 1) [0, 0, 0, 0, 0, 0, 0, 0, 0] [b0, b1, b2, b3, b4, b5, b6, b7, b8] 36 rfl rfl rfl rfl D4.out ?_; intro W5 hW; have F5 := hid (p := _) (show Fr [] w W5 from hW ▸ F4.out.setRow (.inr (by omega)) _); have L5 := (show L4 W5 V1.heap.size 28 (.int .u64 (x0 : Nat)) (.int .u64 (x1 : Nat)) (.int .u64 (x2 : Nat)) (.int .u64 (x3 : Nat)) from hW ▸ L4'.out.setRow_other (by omega) _); have C5 := (show RW W5 V2.heap.size 36 [a0, a1, a2, a3, a4, a5, a6, a7, a8] from hW ▸ C4.out.setRow_other (by omega) _); have B5 := (show L4 W5 V3.heap.size 28 (.int .u64 (y0 : Nat)) (.int .u64 (y1 : Nat)) (.int .u64 (y2 : Nat)) (.int .u64 (y3 : Nat)) from hW ▸ B4.out.setRow_other (by omega) _); have D5 := (show RW W5 (V3.heap.size + 1) 36 [b0, b1, b2, b3, b4, b5, b6, b7, b8] from hW ▸ D4.out.setRow _); obtain ⟨_, _, _, _, _, _, _, _, _, _⟩ := L5.all; obtain ⟨_, _, _, _, _, _, _, _, _, _⟩ := B5.all; have HL5 := hid (p := _) L5; have HC5 := hid (p := _) C5; have HB5 := hid (p := _) B5; have HD5 := hid (p := _) D5; have st := HST.out.fr F5.out; have e0 := st.c0; have e1 := st.c1; clear st; clear hW L5 C5 B5 D5 F4 L4' C4 B4 D4) | (go_at_call 20; with_reducible refine (HN3.out _ (hP2.out.fr F5.out)).mono ?_; rintro e V6 ⟨rfl, hF⟩; have F6 := hid (p := _) (F5.out.trans0 hF); have L6 := hid (p := _) (HL5.out.fr hF); have C6 := hid (p := _) (HC5.out.fr hF); have D6 := hid (p := _) (HD5.out.fr hF); clear hF HN3) | (refine wpList_store_28 rfl (.tmp 5) (.tmp 66) rfl V1.heap.size 28 _ _ _ _ z0 z1 z2 z3 rfl rfl L6.out ?_; intro W7 hW; have F7 := hid (p := _) (show Fr [] w W7 from hW ▸ F6.out.setRow (.inr hs1) _); have L7 := hid (p := _) (show L4 W7 V1.heap.size 28 (.int .u64 (z0 : Nat)) (.int .u64 (z1 : Nat)) (.int .u64 (z2 : Nat)) (.int .u64 (z3 : Nat)) from hW ▸ L6.out.setRow _ _ _ _); have C7 := (show RW W7 V2.heap.size 36 [a0, a1, a2, a3, a4, a5, a6, a7, a8] from hW ▸ C6.out.setRow_other (by omega) _); have D7 := (show RW W7 (V3.heap.size + 1) 36 [b0, b1, b2, b3, b4, b5, b6, b7, b8] from hW ▸ D6.out.setRow_other (by omega) _); obtain ⟨_, _, _, _, _, _, _, _, _, _, _, _, _, _, _, _, _, _, _, _⟩ := C7.all; obtain ⟨_, _, _, _, _, _, _, _, _, _, _, _, _, _, _, _, _, _, _, _⟩ := D7.all; have HC7 := hid (p := _) C7; clear hW C7 D7 F6 L6 C6 D6) | (go_at_call 21; with_reducible refine (HN4.out _).mono ?_; rintro e V8 ⟨rfl, hF⟩; have F8 := hid (p := _) (F7.out.trans0 hF); have L8 := hid (p := _) (L7.out.fr hF); have C8 := hid (p := _) (HC7.out.fr hF); clear hF HN4) | (refine wpList_store_36 rfl (.tmp 7) (.tmp 69) rfl V2.heap.size [a0, a1, a2, a3, a4, a5, a6, a7, a8] [c0, c1, c2, c3, c4, c5, c6, c7, c8] 36 rfl rfl rfl rfl C8.out ?_; intro W9 hW; have F9 := hid (p := _) (show Fr [] w W9 from hW ▸ F8.out.setRow (.inr (by omega)) _); have L9 := (show L4 W9 V1.heap.size 28 (.int .u64 (z0 : Nat)) (.int .u64 (z1 : Nat)) (.int .u64 (z2 : Nat)) (.int .u64 (z3 : Nat)) from hW ▸ L8.out.setRow_other (by omega) _); have C9 := (show RW W9 V2.heap.size 36 [c0, c1, c2, c3, c4, c5, c6, c7, c8] from hW ▸ C8.out.setRow _); obtain ⟨_, _, _, _, _, _, _, _, _, _⟩ := L9.all; obtain ⟨_, _, _, _, _, _, _, _, _, _, _, _, _, _, _, _, _, _, _, _⟩ := C9.all; have HL9 := hid (p := _) L9; have HC9' := hid (p := _) C9; clear hW L9 C9 F8 L8 C8))
              go_roundg (n - (i + 1))
              case measure => omega
              case rel =>
                exact ⟨i + 1, by omega, rfl, by go_num, hid ⟨F9.out, by rw [HX'.out]; exact (LE.iff HZ4.out).2 HL9.out, by rw [HX'.out, HC9.out]; exact HC9'.out⟩⟩
        · by_cases hd2 : dx = 2
          · have hd := hd2
            by_cases h7 : i % 7 = 6
            · as_aux_lemma =>
                have N1 := fun W (h : PV W) => KO.out tx ht W h
                have N2 := fun W => KR.out tx ht W
                rw [hny ht] at N1 N2
                have N3 := fun W (h : PV W) => KM.out x y xP yP W h
                have N4 := fun W => KRM.out x y xP yP W
                have hz : x * y % Nt.P = x' := by rw [HNX.out]; unfold nx; rw [if_neg hd1, if_pos hd]
                rw [hz] at N3 N4
                have zP : x' < Nt.P := by rw [← hz]; exact Nat.mod_lt _ P_pos
                have N5 := fun W => KI.out x' zP W
                obtain ⟨y0, y1, y2, y3, -, -, -, -, -, wy⟩ := wd_open y (lt4 yP)
                obtain ⟨b0, b1, b2, b3, b4, b5, b6, b7, b8, eb, wb⟩ := nd_open y
                obtain ⟨z0, z1, z2, z3, -, -, -, -, -, wz⟩ := wd_open x' (lt4 zP)
                obtain ⟨c0, c1, c2, c3, c4, c5, c6, c7, c8, ec, wc1⟩ := nd_open x'
                rw [wy] at N1
                rw [wb] at N2
                rw [wx, wy, wz] at N3
                rw [wa, wb, wc1] at N4
                rw [wz, wc1] at N5
                have HN1 := hid (p := _) N1
                have HN3 := hid (p := _) N3
                have HN4 := hid (p := _) N4
                have HN5 := hid (p := _) N5
                have HN2 := hid (p := _) N2
                have HZ4 := hid (p := _) wz
                have HC9 := hid (p := _) ec
                have hdi : (dx : Int) = 2 := by omega
                have h7i : (i : Int) % 7 = 6 := by omega
                clear N1 N3 N4 N5 N2 hz zP wz wc1 ec hny hny0 wx wa ea xP yP wy wb eb HNX
                go_wp2_with (first | (go_at_call 9; with_reducible refine (HN1.out _ (hP2.out.fr KF.out)).mono ?_; rintro e V3 ⟨rfl, hF⟩; have F3 := hid (p := _) (KF.out.trans0 hF); have L3 := hid (p := _) (KL.out.fr hF); have C3 := hid (p := _) (KC.out.fr hF); have st := HST.out.fr F3.out; have e0 := st.c0; have e1 := st.c1; clear st; obtain ⟨_, _, _, _, _, _, _, _, _, _⟩ := L3.out.all; obtain ⟨_, _, _, _, _, _, _, _, _, _, _, _, _, _, _, _, _, _, _, _⟩ := C3.out.all; have lt3 := C3.out.lt; have lbl : lb < V3.heap.size := World.block_lt_of_cell? V3 _ e1; have lbn : lb ≠ V3.heap.size := (by omega); have lbm : lb ≠ V3.heap.size + 1 := (by omega); clear hF HN1) | (go_at_call 16; with_reducible refine (HN2.out _).mono ?_; rintro e V4 ⟨rfl, hF⟩; have F4 := hid (p := _) (((F3.out.alloc _).alloc _).trans0 hF); have L4' := hid (p := _) (((L3.out.alloc _).alloc _).fr hF); have C4 := hid (p := _) (((C3.out.alloc _).alloc _).fr hF); have B4 := hid (p := _) (((L4.new V3 28 _ _ _ _).alloc _).fr hF); have D4 := hid (p := _) ((RW.ofz (t := 36) (heap_new1 V3 _ _)).fr hF); have lt4' := D4.out.lt; clear hF HN2) | (refine wpList_store_36 rfl (.tmp 11) (.tmp 50) rfl (V3.heap.size + 1) [0, 0, 0, 0, 0, 0, 0, 0, 0] [b0, b1, b2, b3, b4, b5, b6, b7, b8] 36 rfl rfl rfl rfl D4.out ?_; intro W5 hW; have F5 := hid (p := _) (show Fr [] w W5 from hW ▸ F4.out.setRow (.inr (by omega)) _); have L5 := (show L4 W5 V1.heap.size 28 (.int .u64 (x0 : Nat)) (.int .u64 (x1 : Nat)) (.int .u64 (x2 : Nat)) (.int .u64 (x3 : Nat)) from hW ▸ L4'.out.setRow_other (by omega) _); have C5 := (show RW W5 V2.heap.size 36 [a0, a1, a2, a3, a4, a5, a6, a7, a8] from hW ▸ C4.out.setRow_other (by omega) _); have B5 := (show L4 W5 V3.heap.size 28 (.int .u64 (y0 : Nat)) (.int .u64 (y1 : Nat)) (.int .u64 (y2 : Nat)) (.int .u64 (y3 : Nat)) from hW ▸ B4.out.setRow_other (by omega) _); have D5 := (show RW W5 (V3.heap.size + 1) 36 [b0, b1, b2, b3, b4, b5, b6, b7, b8] from hW ▸ D4.out.setRow _); obtain ⟨_, _, _, _, _, _, _, _, _, _⟩ := L5.all; obtain ⟨_, _, _, _, _, _, _, _, _, _⟩ := B5.all; have HL5 := hid (p := _) L5; have HC5 := hid (p := _) C5; have HB5 := hid (p := _) B5; have HD5 := hid (p := _) D5; have st := HST.out.fr F5.out; have e0 := st.c0; have e1 := st.c1; clear st; clear hW L5 C5 B5 D5 F4 L4' C4 B4 D4) | (go_at_call 22; with_reducible refine (HN3.out _ (hP2.out.fr F5.out)).mono ?_; rintro e V6 ⟨rfl, hF⟩; have F6 := hid (p := _) (F5.out.trans0 hF); have L6 := hid (p := _) (HL5.out.fr hF); have C6 := hid (p := _) (HC5.out.fr hF); have D6 := hid (p := _) (HD5.out.fr hF); clear hF HN3) | (refine wpList_store_28 rfl (.tmp 5) (.tmp 74) rfl V1.heap.size 28 _ _ _ _ z0 z1 z2 z3 rfl rfl L6.out ?_; intro W7 hW; have F7 := hid (p := _) (show Fr [] w W7 from hW ▸ F6.out.setRow (.inr hs1) _); have L7 := hid (p := _) (show L4 W7 V1.heap.size 28 (.int .u64 (z0 : Nat)) (.int .u64 (z1 : Nat)) (.int .u64 (z2 : Nat)) (.int .u64 (z3 : Nat)) from hW ▸ L6.out.setRow _ _ _ _); have C7 := (show RW W7 V2.heap.size 36 [a0, a1, a2, a3, a4, a5, a6, a7, a8] from hW ▸ C6.out.setRow_other (by omega) _); have D7 := (show RW W7 (V3.heap.size + 1) 36 [b0, b1, b2, b3, b4, b5, b6, b7, b8] from hW ▸ D6.out.setRow_other (by omega) _); obtain ⟨_, _, _, _, _, _, _, _, _, _, _, _, _, _, _, _, _, _, _, _⟩ := C7.all; obtain ⟨_, _, _, _, _, _, _, _, _, _, _, _, _, _, _, _, _, _, _, _⟩ := D7.all; have HC7 := hid (p := _) C7; clear hW C7 D7 F6 L6 C6 D6) | (go_at_call 23; with_reducible refine (HN4.out _).mono ?_; rintro e V8 ⟨rfl, hF⟩; have F8 := hid (p := _) (F7.out.trans0 hF); have L8 := hid (p := _) (L7.out.fr hF); have C8 := hid (p := _) (HC7.out.fr hF); clear hF HN4) | (refine wpList_store_36 rfl (.tmp 7) (.tmp 77) rfl V2.heap.size [a0, a1, a2, a3, a4, a5, a6, a7, a8] [c0, c1, c2, c3, c4, c5, c6, c7, c8] 36 rfl rfl rfl rfl C8.out ?_; intro W9 hW; have F9 := hid (p := _) (show Fr [] w W9 from hW ▸ F8.out.setRow (.inr (by omega)) _); have L9 := (show L4 W9 V1.heap.size 28 (.int .u64 (z0 : Nat)) (.int .u64 (z1 : Nat)) (.int .u64 (z2 : Nat)) (.int .u64 (z3 : Nat)) from hW ▸ L8.out.setRow_other (by omega) _); have C9 := (show RW W9 V2.heap.size 36 [c0, c1, c2, c3, c4, c5, c6, c7, c8] from hW ▸ C8.out.setRow _); obtain ⟨_, _, _, _, _, _, _, _, _, _⟩ := L9.all; obtain ⟨_, _, _, _, _, _, _, _, _, _, _, _, _, _, _, _, _, _, _, _⟩ := C9.all; have HL9 := hid (p := _) L9; have HC9' := hid (p := _) C9; clear hW L9 C9 F8 L8 C8) | (go_at_call 12; with_reducible refine (HN5.out _).mono ?_; rintro e V10 ⟨rfl, hF⟩; have F10 := hid (p := _) (F9.out.trans0 hF); have L10 := hid (p := _) (HL9.out.fr hF); have C10 := hid (p := _) (HC9'.out.fr hF); clear hF))
                go_roundg (n - (i + 1))
                case measure => omega
                case rel =>
                  exact ⟨i + 1, by omega, rfl, by go_num, hid ⟨F10.out, by rw [HX'.out]; exact (LE.iff HZ4.out).2 L10.out, by rw [HX'.out, HC9.out]; exact C10.out⟩⟩
            · as_aux_lemma =>
                have N1 := fun W (h : PV W) => KO.out tx ht W h
                have N2 := fun W => KR.out tx ht W
                rw [hny ht] at N1 N2
                have N3 := fun W (h : PV W) => KM.out x y xP yP W h
                have N4 := fun W => KRM.out x y xP yP W
                have hz : x * y % Nt.P = x' := by rw [HNX.out]; unfold nx; rw [if_neg hd1, if_pos hd]
                rw [hz] at N3 N4
                have zP : x' < Nt.P := by rw [← hz]; exact Nat.mod_lt _ P_pos
                have N5 := fun W => KI.out x' zP W
                obtain ⟨y0, y1, y2, y3, -, -, -, -, -, wy⟩ := wd_open y (lt4 yP)
                obtain ⟨b0, b1, b2, b3, b4, b5, b6, b7, b8, eb, wb⟩ := nd_open y
                obtain ⟨z0, z1, z2, z3, -, -, -, -, -, wz⟩ := wd_open x' (lt4 zP)
                obtain ⟨c0, c1, c2, c3, c4, c5, c6, c7, c8, ec, wc1⟩ := nd_open x'
                rw [wy] at N1
                rw [wb] at N2
                rw [wx, wy, wz] at N3
                rw [wa, wb, wc1] at N4
                rw [wz, wc1] at N5
                have HN1 := hid (p := _) N1
                have HN3 := hid (p := _) N3
                have HN4 := hid (p := _) N4
                have HN5 := hid (p := _) N5
                have HN2 := hid (p := _) N2
                have HZ4 := hid (p := _) wz
                have HC9 := hid (p := _) ec
                have hdi : (dx : Int) = 2 := by omega
                have h7i : ¬ (i : Int) % 7 = 6 := by omega
                have h7b : ((i : Int) % 7 == 6) = false := beq_eq_false_iff_ne.2 h7i
                clear N1 N3 N4 N5 N2 hz zP wz wc1 ec hny hny0 wx wa ea xP yP wy wb eb HNX
                go_wp2_with (first | (go_at_call 9; with_reducible refine (HN1.out _ (hP2.out.fr KF.out)).mono ?_; rintro e V3 ⟨rfl, hF⟩; have F3 := hid (p := _) (KF.out.trans0 hF); have L3 := hid (p := _) (KL.out.fr hF); have C3 := hid (p := _) (KC.out.fr hF); have st := HST.out.fr F3.out; have e0 := st.c0; have e1 := st.c1; clear st; obtain ⟨_, _, _, _, _, _, _, _, _, _⟩ := L3.out.all; obtain ⟨_, _, _, _, _, _, _, _, _, _, _, _, _, _, _, _, _, _, _, _⟩ := C3.out.all; have lt3 := C3.out.lt; have lbl : lb < V3.heap.size := World.block_lt_of_cell? V3 _ e1; have lbn : lb ≠ V3.heap.size := (by omega); have lbm : lb ≠ V3.heap.size + 1 := (by omega); clear hF HN1) | (go_at_call 16; with_reducible refine (HN2.out _).mono ?_; rintro e V4 ⟨rfl, hF⟩; have F4 := hid (p := _) (((F3.out.alloc _).alloc _).trans0 hF); have L4' := hid (p := _) (((L3.out.alloc _).alloc _).fr hF); have C4 := hid (p := _) (((C3.out.alloc _).alloc _).fr hF); have B4 := hid (p := _) (((L4.new V3 28 _ _ _ _).alloc _).fr hF); have D4 := hid (p := _) ((RW.ofz (t := 36) (heap_new1 V3 _ _)).fr hF); have lt4' := D4.out.lt; clear hF HN2) | (refine wpList_store_36 rfl (.tmp 11) (.tmp 50) rfl (V3.heap.size + 1) [0, 0, 0, 0, 0, 0, 0, 0, 0] [b0, b1, b2, b3, b4, b5, b6, b7, b8] 36 rfl rfl rfl rfl D4.out ?_; intro W5 hW; have F5 := hid (p := _) (show Fr [] w W5 from hW ▸ F4.out.setRow (.inr (by omega)) _); have L5 := (show L4 W5 V1.heap.size 28 (.int .u64 (x0 : Nat)) (.int .u64 (x1 : Nat)) (.int .u64 (x2 : Nat)) (.int .u64 (x3 : Nat)) from hW ▸ L4'.out.setRow_other (by omega) _); have C5 := (show RW W5 V2.heap.size 36 [a0, a1, a2, a3, a4, a5, a6, a7, a8] from hW ▸ C4.out.setRow_other (by omega) _); have B5 := (show L4 W5 V3.heap.size 28 (.int .u64 (y0 : Nat)) (.int .u64 (y1 : Nat)) (.int .u64 (y2 : Nat)) (.int .u64 (y3 : Nat)) from hW ▸ B4.out.setRow_other (by omega) _); have D5 := (show RW W5 (V3.heap.size + 1) 36 [b0, b1, b2, b3, b4, b5, b6, b7, b8] from hW ▸ D4.out.setRow _); obtain ⟨_, _, _, _, _, _, _, _, _, _⟩ := L5.all; obtain ⟨_, _, _, _, _, _, _, _, _, _⟩ := B5.all; have HL5 := hid (p := _) L5; have HC5 := hid (p := _) C5; have HB5 := hid (p := _) B5; have HD5 := hid (p := _) D5; have st := HST.out.fr F5.out; have e0 := st.c0; have e1 := st.c1; clear st; clear hW L5 C5 B5 D5 F4 L4' C4 B4 D4) | (go_at_call 22; with_reducible refine (HN3.out _ (hP2.out.fr F5.out)).mono ?_; rintro e V6 ⟨rfl, hF⟩; have F6 := hid (p := _) (F5.out.trans0 hF); have L6 := hid (p := _) (HL5.out.fr hF); have C6 := hid (p := _) (HC5.out.fr hF); have D6 := hid (p := _) (HD5.out.fr hF); clear hF HN3) | (refine wpList_store_28 rfl (.tmp 5) (.tmp 74) rfl V1.heap.size 28 _ _ _ _ z0 z1 z2 z3 rfl rfl L6.out ?_; intro W7 hW; have F7 := hid (p := _) (show Fr [] w W7 from hW ▸ F6.out.setRow (.inr hs1) _); have L7 := hid (p := _) (show L4 W7 V1.heap.size 28 (.int .u64 (z0 : Nat)) (.int .u64 (z1 : Nat)) (.int .u64 (z2 : Nat)) (.int .u64 (z3 : Nat)) from hW ▸ L6.out.setRow _ _ _ _); have C7 := (show RW W7 V2.heap.size 36 [a0, a1, a2, a3, a4, a5, a6, a7, a8] from hW ▸ C6.out.setRow_other (by omega) _); have D7 := (show RW W7 (V3.heap.size + 1) 36 [b0, b1, b2, b3, b4, b5, b6, b7, b8] from hW ▸ D6.out.setRow_other (by omega) _); obtain ⟨_, _, _, _, _, _, _, _, _, _, _, _, _, _, _, _, _, _, _, _⟩ := C7.all; obtain ⟨_, _, _, _, _, _, _, _, _, _, _, _, _, _, _, _, _, _, _, _⟩ := D7.all; have HC7 := hid (p := _) C7; clear hW C7 D7 F6 L6 C6 D6) | (go_at_call 23; with_reducible refine (HN4.out _).mono ?_; rintro e V8 ⟨rfl, hF⟩; have F8 := hid (p := _) (F7.out.trans0 hF); have L8 := hid (p := _) (L7.out.fr hF); have C8 := hid (p := _) (HC7.out.fr hF); clear hF HN4) | (refine wpList_store_36 rfl (.tmp 7) (.tmp 77) rfl V2.heap.size [a0, a1, a2, a3, a4, a5, a6, a7, a8] [c0, c1, c2, c3, c4, c5, c6, c7, c8] 36 rfl rfl rfl rfl C8.out ?_; intro W9 hW; have F9 := hid (p := _) (show Fr [] w W9 from hW ▸ F8.out.setRow (.inr (by omega)) _); have L9 := (show L4 W9 V1.heap.size 28 (.int .u64 (z0 : Nat)) (.int .u64 (z1 : Nat)) (.int .u64 (z2 : Nat)) (.int .u64 (z3 : Nat)) from hW ▸ L8.out.setRow_other (by omega) _); have C9 := (show RW W9 V2.heap.size 36 [c0, c1, c2, c3, c4, c5, c6, c7, c8] from hW ▸ C8.out.setRow _); obtain ⟨_, _, _, _, _, _, _, _, _, _⟩ := L9.all; obtain ⟨_, _, _, _, _, _, _, _, _, _, _, _, _, _, _, _, _, _, _, _⟩ := C9.all; have HL9 := hid (p := _) L9; have HC9' := hid (p := _) C9; clear hW L9 C9 F8 L8 C8))
                go_roundg (n - (i + 1))
                case measure => omega
                case rel =>
                  exact ⟨i + 1, by omega, rfl, by go_num, hid ⟨F9.out, by rw [HX'.out]; exact (LE.iff HZ4.out).2 HL9.out, by rw [HX'.out, HC9.out]; exact HC9'.out⟩⟩
          · by_cases hd3 : dx = 3
            · have hd := hd3
              by_cases h7 : i % 7 = 6
              · as_aux_lemma =>
                  have N1 := fun W (h : PV W) => KO.out tx ht W h
                  have N2 := fun W => KR.out tx ht W
                  rw [hny ht] at N1 N2
                  have N3 := fun W (h : PV W) => KM.out x x xP xP W h
                  have N4 := fun W => KRM.out x x xP xP W
                  have hz : x * x % Nt.P = x' := by rw [HNX.out]; unfold nx; rw [if_neg hd1, if_neg hd2, if_pos hd]
                  rw [hz] at N3 N4
                  have zP : x' < Nt.P := by rw [← hz]; exact Nat.mod_lt _ P_pos
                  have N5 := fun W => KI.out x' zP W
                  obtain ⟨y0, y1, y2, y3, -, -, -, -, -, wy⟩ := wd_open y (lt4 yP)
                  obtain ⟨b0, b1, b2, b3, b4, b5, b6, b7, b8, eb, wb⟩ := nd_open y
                  obtain ⟨z0, z1, z2, z3, -, -, -, -, -, wz⟩ := wd_open x' (lt4 zP)
                  obtain ⟨c0, c1, c2, c3, c4, c5, c6, c7, c8, ec, wc1⟩ := nd_open x'
                  rw [wy] at N1
                  rw [wb] at N2
                  rw [wx, wz] at N3
                  rw [wa, wc1] at N4
                  rw [wz, wc1] at N5
                  have HN1 := hid (p := _) N1
                  have HN3 := hid (p := _) N3
                  have HN4 := hid (p := _) N4
                  have HN5 := hid (p := _) N5
                  have HN2 := hid (p := _) N2
                  have HZ4 := hid (p := _) wz
                  have HC9 := hid (p := _) ec
                  have hdi : (dx : Int) = 3 := by omega
                  have h7i : (i : Int) % 7 = 6 := by omega
                  clear N1 N3 N4 N5 N2 hz zP wz wc1 ec hny hny0 wx wa ea xP yP wy wb eb HNX
                  go_wp2_with (first | (go_at_call 9; with_reducible refine (HN1.out _ (hP2.out.fr KF.out)).mono ?_; rintro e V3 ⟨rfl, hF⟩; have F3 := hid (p := _) (KF.out.trans0 hF); have L3 := hid (p := _) (KL.out.fr hF); have C3 := hid (p := _) (KC.out.fr hF); have st := HST.out.fr F3.out; have e0 := st.c0; have e1 := st.c1; clear st; obtain ⟨_, _, _, _, _, _, _, _, _, _⟩ := L3.out.all; obtain ⟨_, _, _, _, _, _, _, _, _, _, _, _, _, _, _, _, _, _, _, _⟩ := C3.out.all; have lt3 := C3.out.lt; have lbl : lb < V3.heap.size := World.block_lt_of_cell? V3 _ e1; have lbn : lb ≠ V3.heap.size := (by omega); have lbm : lb ≠ V3.heap.size + 1 := (by omega); clear hF HN1) | (go_at_call 16; with_reducible refine (HN2.out _).mono ?_; rintro e V4 ⟨rfl, hF⟩; have F4 := hid (p := _) (((F3.out.alloc _).alloc _).trans0 hF); have L4' := hid (p := _) (((L3.out.alloc _).alloc _).fr hF); have C4 := hid (p := _) (((C3.out.alloc _).alloc _).fr hF); have B4 := hid (p := _) (((L4.new V3 28 _ _ _ _).alloc _).fr hF); have D4 := hid (p := _) ((RW.ofz (t := 36) (heap_new1 V3 _ _)).fr hF); have lt4' := D4.out.lt; clear hF HN2) | (refine wpList_store_36 rfl (.tmp 11) (.tmp 50) rfl (V3.heap.size + 1) [0, 0, 0, 0, 0, 0, 0, 0, 0] [b0, b1, b2, b3, b4, b5, b6, b7, b8] 36 rfl rfl rfl rfl D4.out ?_; intro W5 hW; have F5 := hid (p := _) (show Fr [] w W5 from hW ▸ F4.out.setRow (.inr (by omega)) _); have L5 := (show L4 W5 V1.heap.size 28 (.int .u64 (x0 : Nat)) (.int .u64 (x1 : Nat)) (.int .u64 (x2 : Nat)) (.int .u64 (x3 : Nat)) from hW ▸ L4'.out.setRow_other (by omega) _); have C5 := (show RW W5 V2.heap.size 36 [a0, a1, a2, a3, a4, a5, a6, a7, a8] from hW ▸ C4.out.setRow_other (by omega) _); have B5 := (show L4 W5 V3.heap.size 28 (.int .u64 (y0 : Nat)) (.int .u64 (y1 : Nat)) (.int .u64 (y2 : Nat)) (.int .u64 (y3 : Nat)) from hW ▸ B4.out.setRow_other (by omega) _); have D5 := (show RW W5 (V3.heap.size + 1) 36 [b0, b1, b2, b3, b4, b5, b6, b7, b8] from hW ▸ D4.out.setRow _); obtain ⟨_, _, _, _, _, _, _, _, _, _⟩ := L5.all; obtain ⟨_, _, _, _, _, _, _, _, _, _⟩ := B5.all; have HL5 := hid (p := _) L5; have HC5 := hid (p := _) C5; have HB5 := hid (p := _) B5; have HD5 := hid (p := _) D5; have st := HST.out.fr F5.out; have e0 := st.c0; have e1 := st.c1; clear st; clear hW L5 C5 B5 D5 F4 L4' C4 B4 D4) | (go_at_call 22; with_reducible refine (HN3.out _ (hP2.out.fr F5.out)).mono ?_; rintro e V6 ⟨rfl, hF⟩; have F6 := hid (p := _) (F5.out.trans0 hF); have L6 := hid (p := _) (HL5.out.fr hF); have C6 := hid (p := _) (HC5.out.fr hF); have D6 := hid (p := _) (HD5.out.fr hF); clear hF HN3) | (refine wpList_store_28 rfl (.tmp 5) (.tmp 82) rfl V1.heap.size 28 _ _ _ _ z0 z1 z2 z3 rfl rfl L6.out ?_; intro W7 hW; have F7 := hid (p := _) (show Fr [] w W7 from hW ▸ F6.out.setRow (.inr hs1) _); have L7 := hid (p := _) (show L4 W7 V1.heap.size 28 (.int .u64 (z0 : Nat)) (.int .u64 (z1 : Nat)) (.int .u64 (z2 : Nat)) (.int .u64 (z3 : Nat)) from hW ▸ L6.out.setRow _ _ _ _); have C7 := (show RW W7 V2.heap.size 36 [a0, a1, a2, a3, a4, a5, a6, a7, a8] from hW ▸ C6.out.setRow_other (by omega) _); have D7 := (show RW W7 (V3.heap.size + 1) 36 [b0, b1, b2, b3, b4, b5, b6, b7, b8] from hW ▸ D6.out.setRow_other (by omega) _); obtain ⟨_, _, _, _, _, _, _, _, _, _, _, _, _, _, _, _, _, _, _, _⟩ := C7.all; obtain ⟨_, _, _, _, _, _, _, _, _, _, _, _, _, _, _, _, _, _, _, _⟩ := D7.all; have HC7 := hid (p := _) C7; clear hW C7 D7 F6 L6 C6 D6) | (go_at_call 23; with_reducible refine (HN4.out _).mono ?_; rintro e V8 ⟨rfl, hF⟩; have F8 := hid (p := _) (F7.out.trans0 hF); have L8 := hid (p := _) (L7.out.fr hF); have C8 := hid (p := _) (HC7.out.fr hF); clear hF HN4) | (refine wpList_store_36 rfl (.tmp 7) (.tmp 85) rfl V2.heap.size [a0, a1, a2, a3, a4, a5, a6, a7, a8] [c0, c1, c2, c3, c4, c5, c6, c7, c8] 36 rfl rfl rfl rfl C8.out ?_; intro W9 hW; have F9 := hid (p := _) (show Fr [] w W9 from hW ▸ F8.out.setRow (.inr (by omega)) _); have L9 := (show L4 W9 V1.heap.size 28 (.int .u64 (z0 : Nat)) (.int .u64 (z1 : Nat)) (.int .u64 (z2 : Nat)) (.int .u64 (z3 : Nat)) from hW ▸ L8.out.setRow_other (by omega) _); have C9 := (show RW W9 V2.heap.size 36 [c0, c1, c2, c3, c4, c5, c6, c7, c8] from hW ▸ C8.out.setRow _); obtain ⟨_, _, _, _, _, _, _, _, _, _⟩ := L9.all; obtain ⟨_, _, _, _, _, _, _, _, _, _, _, _, _, _, _, _, _, _, _, _⟩ := C9.all; have HL9 := hid (p := _) L9; have HC9' := hid (p := _) C9; clear hW L9 C9 F8 L8 C8) | (go_at_call 12; with_reducible refine (HN5.out _).mono ?_; rintro e V10 ⟨rfl, hF⟩; have F10 := hid (p := _) (F9.out.trans0 hF); have L10 := hid (p := _) (HL9.out.fr hF); have C10 := hid (p := _) (HC9'.out.fr hF); clear hF))
                  go_roundg (n - (i + 1))
                  case measure => omega
                  case rel =>
                    exact ⟨i + 1, by omega, rfl, by go_num, hid ⟨F10.out, by rw [HX'.out]; exact (LE.iff HZ4.out).2 L10.out, by rw [HX'.out, HC9.out]; exact C10.out⟩⟩
              · as_aux_lemma =>
                  have N1 := fun W (h : PV W) => KO.out tx ht W h
                  have N2 := fun W => KR.out tx ht W
                  rw [hny ht] at N1 N2
                  have N3 := fun W (h : PV W) => KM.out x x xP xP W h
                  have N4 := fun W => KRM.out x x xP xP W
                  have hz : x * x % Nt.P = x' := by rw [HNX.out]; unfold nx; rw [if_neg hd1, if_neg hd2, if_pos hd]
                  rw [hz] at N3 N4
                  have zP : x' < Nt.P := by rw [← hz]; exact Nat.mod_lt _ P_pos
                  have N5 := fun W => KI.out x' zP W
                  obtain ⟨y0, y1, y2, y3, -, -, -, -, -, wy⟩ := wd_open y (lt4 yP)
                  obtain ⟨b0, b1, b2, b3, b4, b5, b6, b7, b8, eb, wb⟩ := nd_open y
                  obtain ⟨z0, z1, z2, z3, -, -, -, -, -, wz⟩ := wd_open x' (lt4 zP)
                  obtain ⟨c0, c1, c2, c3, c4, c5, c6, c7, c8, ec, wc1⟩ := nd_open x'
                  rw [wy] at N1
                  rw [wb] at N2
                  rw [wx, wz] at N3
                  rw [wa, wc1] at N4
                  rw [wz, wc1] at N5
                  have HN1 := hid (p := _) N1
                  have HN3 := hid (p := _) N3
                  have HN4 := hid (p := _) N4
                  have HN5 := hid (p := _) N5
                  have HN2 := hid (p := _) N2
                  have HZ4 := hid (p := _) wz
                  have HC9 := hid (p := _) ec
                  have hdi : (dx : Int) = 3 := by omega
                  have h7i : ¬ (i : Int) % 7 = 6 := by omega
                  have h7b : ((i : Int) % 7 == 6) = false := beq_eq_false_iff_ne.2 h7i
                  clear N1 N3 N4 N5 N2 hz zP wz wc1 ec hny hny0 wx wa ea xP yP wy wb eb HNX
                  go_wp2_with (first | (go_at_call 9; with_reducible refine (HN1.out _ (hP2.out.fr KF.out)).mono ?_; rintro e V3 ⟨rfl, hF⟩; have F3 := hid (p := _) (KF.out.trans0 hF); have L3 := hid (p := _) (KL.out.fr hF); have C3 := hid (p := _) (KC.out.fr hF); have st := HST.out.fr F3.out; have e0 := st.c0; have e1 := st.c1; clear st; obtain ⟨_, _, _, _, _, _, _, _, _, _⟩ := L3.out.all; obtain ⟨_, _, _, _, _, _, _, _, _, _, _, _, _, _, _, _, _, _, _, _⟩ := C3.out.all; have lt3 := C3.out.lt; have lbl : lb < V3.heap.size := World.block_lt_of_cell? V3 _ e1; have lbn : lb ≠ V3.heap.size := (by omega); have lbm : lb ≠ V3.heap.size + 1 := (by omega); clear hF HN1) | (go_at_call 16; with_reducible refine (HN2.out _).mono ?_; rintro e V4 ⟨rfl, hF⟩; have F4 := hid (p := _) (((F3.out.alloc _).alloc _).trans0 hF); have L4' := hid (p := _) (((L3.out.alloc _).alloc _).fr hF); have C4 := hid (p := _) (((C3.out.alloc _).alloc _).fr hF); have B4 := hid (p := _) (((L4.new V3 28 _ _ _ _).alloc _).fr hF); have D4 := hid (p := _) ((RW.ofz (t := 36) (heap_new1 V3 _ _)).fr hF); have lt4' := D4.out.lt; clear hF HN2) | (refine wpList_store_36 rfl (.tmp 11) (.tmp 50) rfl (V3.heap.size + 1) [0, 0, 0, 0, 0, 0, 0, 0, 0] [b0, b1, b2, b3, b4, b5, b6, b7, b8] 36 rfl rfl rfl rfl D4.out ?_; intro W5 hW; have F5 := hid (p := _) (show Fr [] w W5 from hW ▸ F4.out.setRow (.inr (by omega)) _); have L5 := (show L4 W5 V1.heap.size 28 (.int .u64 (x0 : Nat)) (.int .u64 (x1 : Nat)) (.int .u64 (x2 : Nat)) (.int .u64 (x3 : Nat)) from hW ▸ L4'.out.setRow_other (by omega) _); have C5 := (show RW W5 V2.heap.size 36 [a0, a1, a2, a3, a4, a5, a6, a7, a8] from hW ▸ C4.out.setRow_other (by omega) _); have B5 := (show L4 W5 V3.heap.size 28 (.int .u64 (y0 : Nat)) (.int .u64 (y1 : Nat)) (.int .u64 (y2 : Nat)) (.int .u64 (y3 : Nat)) from hW ▸ B4.out.setRow_other (by omega) _); have D5 := (show RW W5 (V3.heap.size + 1) 36 [b0, b1, b2, b3, b4, b5, b6, b7, b8] from hW ▸ D4.out.setRow _); obtain ⟨_, _, _, _, _, _, _, _, _, _⟩ := L5.all; obtain ⟨_, _, _, _, _, _, _, _, _, _⟩ := B5.all; have HL5 := hid (p := _) L5; have HC5 := hid (p := _) C5; have HB5 := hid (p := _) B5; have HD5 := hid (p := _) D5; have st := HST.out.fr F5.out; have e0 := st.c0; have e1 := st.c1; clear st; clear hW L5 C5 B5 D5 F4 L4' C4 B4 D4) | (go_at_call 22; with_reducible refine (HN3.out _ (hP2.out.fr F5.out)).mono ?_; rintro e V6 ⟨rfl, hF⟩; have F6 := hid (p := _) (F5.out.trans0 hF); have L6 := hid (p := _) (HL5.out.fr hF); have C6 := hid (p := _) (HC5.out.fr hF); have D6 := hid (p := _) (HD5.out.fr hF); clear hF HN3) | (refine wpList_store_28 rfl (.tmp 5) (.tmp 82) rfl V1.heap.size 28 _ _ _ _ z0 z1 z2 z3 rfl rfl L6.out ?_; intro W7 hW; have F7 := hid (p := _) (show Fr [] w W7 from hW ▸ F6.out.setRow (.inr hs1) _); have L7 := hid (p := _) (show L4 W7 V1.heap.size 28 (.int .u64 (z0 : Nat)) (.int .u64 (z1 : Nat)) (.int .u64 (z2 : Nat)) (.int .u64 (z3 : Nat)) from hW ▸ L6.out.setRow _ _ _ _); have C7 := (show RW W7 V2.heap.size 36 [a0, a1, a2, a3, a4, a5, a6, a7, a8] from hW ▸ C6.out.setRow_other (by omega) _); have D7 := (show RW W7 (V3.heap.size + 1) 36 [b0, b1, b2, b3, b4, b5, b6, b7, b8] from hW ▸ D6.out.setRow_other (by omega) _); obtain ⟨_, _, _, _, _, _, _, _, _, _, _, _, _, _, _, _, _, _, _, _⟩ := C7.all; obtain ⟨_, _, _, _, _, _, _, _, _, _, _, _, _, _, _, _, _, _, _, _⟩ := D7.all; have HC7 := hid (p := _) C7; clear hW C7 D7 F6 L6 C6 D6) | (go_at_call 23; with_reducible refine (HN4.out _).mono ?_; rintro e V8 ⟨rfl, hF⟩; have F8 := hid (p := _) (F7.out.trans0 hF); have L8 := hid (p := _) (L7.out.fr hF); have C8 := hid (p := _) (HC7.out.fr hF); clear hF HN4) | (refine wpList_store_36 rfl (.tmp 7) (.tmp 85) rfl V2.heap.size [a0, a1, a2, a3, a4, a5, a6, a7, a8] [c0, c1, c2, c3, c4, c5, c6, c7, c8] 36 rfl rfl rfl rfl C8.out ?_; intro W9 hW; have F9 := hid (p := _) (show Fr [] w W9 from hW ▸ F8.out.setRow (.inr (by omega)) _); have L9 := (show L4 W9 V1.heap.size 28 (.int .u64 (z0 : Nat)) (.int .u64 (z1 : Nat)) (.int .u64 (z2 : Nat)) (.int .u64 (z3 : Nat)) from hW ▸ L8.out.setRow_other (by omega) _); have C9 := (show RW W9 V2.heap.size 36 [c0, c1, c2, c3, c4, c5, c6, c7, c8] from hW ▸ C8.out.setRow _); obtain ⟨_, _, _, _, _, _, _, _, _, _⟩ := L9.all; obtain ⟨_, _, _, _, _, _, _, _, _, _, _, _, _, _, _, _, _, _, _, _⟩ := C9.all; have HL9 := hid (p := _) L9; have HC9' := hid (p := _) C9; clear hW L9 C9 F8 L8 C8))
                  go_roundg (n - (i + 1))
                  case measure => omega
                  case rel =>
                    exact ⟨i + 1, by omega, rfl, by go_num, hid ⟨F9.out, by rw [HX'.out]; exact (LE.iff HZ4.out).2 HL9.out, by rw [HX'.out, HC9.out]; exact HC9'.out⟩⟩
            · by_cases hd4 : dx = 4
              · have hd := hd4
                by_cases h7 : i % 7 = 6
                · as_aux_lemma =>
                    have N1 := fun W (h : PV W) => KO.out tx ht W h
                    have N2 := fun W => KR.out tx ht W
                    rw [hny ht] at N1 N2
                    have N3 := fun W (h : PV W) => KA.out x x xP xP W h
                    have N4 := fun W => KRA.out x x xP xP W
                    have hz : (x + x) % Nt.P = x' := by rw [HNX.out]; unfold nx; rw [if_neg hd1, if_neg hd2, if_neg hd3, if_pos hd]
                    rw [hz] at N3 N4
                    have zP : x' < Nt.P := by rw [← hz]; exact Nat.mod_lt _ P_pos
                    have N5 := fun W => KI.out x' zP W
                    obtain ⟨y0, y1, y2, y3, -, -, -, -, -, wy⟩ := wd_open y (lt4 yP)
                    obtain ⟨b0, b1, b2, b3, b4, b5, b6, b7, b8, eb, wb⟩ := nd_open y
                    obtain ⟨z0, z1, z2, z3, -, -, -, -, -, wz⟩ := wd_open x' (lt4 zP)
                    obtain ⟨c0, c1, c2, c3, c4, c5, c6, c7, c8, ec, wc1⟩ := nd_open x'
                    rw [wy] at N1
                    rw [wb] at N2
                    rw [wx, wz] at N3
                    rw [wa, wc1] at N4
                    rw [wz, wc1] at N5
                    have HN1 := hid (p := _) N1
                    have HN3 := hid (p := _) N3
                    have HN4 := hid (p := _) N4
                    have HN5 := hid (p := _) N5
                    have HN2 := hid (p := _) N2
                    have HZ4 := hid (p := _) wz
                    have HC9 := hid (p := _) ec
                    have hdi : (dx : Int) = 4 := by omega
                    have h7i : (i : Int) % 7 = 6 := by omega
                    clear N1 N3 N4 N5 N2 hz zP wz wc1 ec hny hny0 wx wa ea xP yP wy wb eb HNX
                    go_wp2_with (first | (go_at_call 9; with_reducible refine (HN1.out _ (hP2.out.fr KF.out)).mono ?_; rintro e V3 ⟨rfl, hF⟩; have F3 := hid (p := _) (KF.out.trans0 hF); have L3 := hid (p := _) (KL.out.fr hF); have C3 := hid (p := _) (KC.out.fr hF); have st := HST.out.fr F3.out; have e0 := st.c0; have e1 := st.c1; clear st; obtain ⟨_, _, _, _, _, _, _, _, _, _⟩ := L3.out.all; obtain ⟨_, _, _, _, _, _, _, _, _, _, _, _, _, _, _, _, _, _, _, _⟩ := C3.out.all; have lt3 := C3.out.lt; have lbl : lb < V3.heap.size := World.block_lt_of_cell? V3 _ e1; have lbn : lb ≠ V3.heap.size := (by omega); have lbm : lb ≠ V3.heap.size + 1 := (by omega); clear hF HN1) | (go_at_call 16; with_reducible refine (HN2.out _).mono ?_; rintro e V4 ⟨rfl, hF⟩; have F4 := hid (p := _) (((F3.out.alloc _).alloc _).trans0 hF); have L4' := hid (p := _) (((L3.out.alloc _).alloc _).fr hF); have C4 := hid (p := _) (((C3.out.alloc _).alloc _).fr hF); have B4 := hid (p := _) (((L4.new V3 28 _ _ _ _).alloc _).fr hF); have D4 := hid (p := _) ((RW.ofz (t := 36) (heap_new1 V3 _ _)).fr hF); have lt4' := D4.out.lt; clear hF HN2) | (refine wpList_store_36 rfl (.tmp 11) (.tmp 50) rfl (V3.heap.size + 1) [0, 0, 0, 0, 0, 0, 0, 0, 0] [b0, b1, b2, b3, b4, b5, b6, b7, b8] 36 rfl rfl rfl rfl D4.out ?_; intro W5 hW; have F5 := hid (p := _) (show Fr [] w W5 from hW ▸ F4.out.setRow (.inr (by omega)) _); have L5 := (show L4 W5 V1.heap.size 28 (.int .u64 (x0 : Nat)) (.int .u64 (x1 : Nat)) (.int .u64 (x2 : Nat)) (.int .u64 (x3 : Nat)) from hW ▸ L4'.out.setRow_other (by omega) _); have C5 := (show RW W5 V2.heap.size 36 [a0, a1, a2, a3, a4, a5, a6, a7, a8] from hW ▸ C4.out.setRow_other (by omega) _); have B5 := (show L4 W5 V3.heap.size 28 (.int .u64 (y0 : Nat)) (.int .u64 (y1 : Nat)) (.int .u64 (y2 : Nat)) (.int .u64 (y3 : Nat)) from hW ▸ B4.out.setRow_other (by omega) _); have D5 := (show RW W5 (V3.heap.size + 1) 36 [b0, b1, b2, b3, b4, b5, b6, b7, b8] from hW ▸ D4.out.setRow _); obtain ⟨_, _, _, _, _, _, _, _, _, _⟩ := L5.all; obtain ⟨_, _, _, _, _, _, _, _, _, _⟩ := B5.all; have HL5 := hid (p := _) L5; have HC5 := hid (p := _) C5; have HB5 := hid (p := _) B5; have HD5 := hid (p := _) D5; have st := HST.out.fr F5.out; have e0 := st.c0; have e1 := st.c1; clear st; clear hW L5 C5 B5 D5 F4 L4' C4 B4 D4) | (go_at_call 18; with_reducible refine (HN3.out _ (hP2.out.fr F5.out)).mono ?_; rintro e V6 ⟨rfl, hF⟩; have F6 := hid (p := _) (F5.out.trans0 hF); have L6 := hid (p := _) (HL5.out.fr hF); have C6 := hid (p := _) (HC5.out.fr hF); have D6 := hid (p := _) (HD5.out.fr hF); clear hF HN3) | (refine wpList_store_28 rfl (.tmp 5) (.tmp 90) rfl V1.heap.size 28 _ _ _ _ z0 z1 z2 z3 rfl rfl L6.out ?_; intro W7 hW; have F7 := hid (p := _) (show Fr [] w W7 from hW ▸ F6.out.setRow (.inr hs1) _); have L7 := hid (p := _) (show L4 W7 V1.heap.size 28 (.int .u64 (z0 : Nat)) (.int .u64 (z1 : Nat)) (.int .u64 (z2 : Nat)) (.int .u64 (z3 : Nat)) from hW ▸ L6.out.setRow _ _ _ _); have C7 := (show RW W7 V2.heap.size 36 [a0, a1, a2, a3, a4, a5, a6, a7, a8] from hW ▸ C6.out.setRow_other (by omega) _); have D7 := (show RW W7 (V3.heap.size + 1) 36 [b0, b1, b2, b3, b4, b5, b6, b7, b8] from hW ▸ D6.out.setRow_other (by omega) _); obtain ⟨_, _, _, _, _, _, _, _, _, _, _, _, _, _, _, _, _, _, _, _⟩ := C7.all; obtain ⟨_, _, _, _, _, _, _, _, _, _, _, _, _, _, _, _, _, _, _, _⟩ := D7.all; have HC7 := hid (p := _) C7; clear hW C7 D7 F6 L6 C6 D6) | (go_at_call 19; with_reducible refine (HN4.out _).mono ?_; rintro e V8 ⟨rfl, hF⟩; have F8 := hid (p := _) (F7.out.trans0 hF); have L8 := hid (p := _) (L7.out.fr hF); have C8 := hid (p := _) (HC7.out.fr hF); clear hF HN4) | (refine wpList_store_36 rfl (.tmp 7) (.tmp 93) rfl V2.heap.size [a0, a1, a2, a3, a4, a5, a6, a7, a8] [c0, c1, c2, c3, c4, c5, c6, c7, c8] 36 rfl rfl rfl rfl C8.out ?_; intro W9 hW; have F9 := hid (p := _) (show Fr [] w W9 from hW ▸ F8.out.setRow (.inr (by omega)) _); have L9 := (show L4 W9 V1.heap.size 28 (.int .u64 (z0 : Nat)) (.int .u64 (z1 : Nat)) (.int .u64 (z2 : Nat)) (.int .u64 (z3 : Nat)) from hW ▸ L8.out.setRow_other (by omega) _); have C9 := (show RW W9 V2.heap.size 36 [c0, c1, c2, c3, c4, c5, c6, c7, c8] from hW ▸ C8.out.setRow _); obtain ⟨_, _, _, _, _, _, _, _, _, _⟩ := L9.all; obtain ⟨_, _, _, _, _, _, _, _, _, _, _, _, _, _, _, _, _, _, _, _⟩ := C9.all; have HL9 := hid (p := _) L9; have HC9' := hid (p := _) C9; clear hW L9 C9 F8 L8 C8) | (go_at_call 12; with_reducible refine (HN5.out _).mono ?_; rintro e V10 ⟨rfl, hF⟩; have F10 := hid (p := _) (F9.out.trans0 hF); have L10 := hid (p := _) (HL9.out.fr hF); have C10 := hid (p := _) (HC9'.out.fr hF); clear hF))
                    go_roundg (n - (i + 1))
                    case measure => omega
                    case rel =>
                      exact ⟨i + 1, by omega, rfl, by go_num, hid ⟨F10.out, by rw [HX'.out]; exact (LE.iff HZ4.out).2 L10.out, by rw [HX'.out, HC9.out]; exact C10.out⟩⟩
                · as_aux_lemma =>
                    have N1 := fun W (h : PV W) => KO.out tx ht W h
                    have N2 := fun W => KR.out tx ht W
                    rw [hny ht] at N1 N2
                    have N3 := fun W (h : PV W) => KA.out x x xP xP W h
                    have N4 := fun W => KRA.out x x xP xP W
                    have hz : (x + x) % Nt.P = x' := by rw [HNX.out]; unfold nx; rw [if_neg hd1, if_neg hd2, if_neg hd3, if_pos hd]
                    rw [hz] at N3 N4
                    have zP : x' < Nt.P := by rw [← hz]; exact Nat.mod_lt _ P_pos
                    have N5 := fun W => KI.out x' zP W
                    obtain ⟨y0, y1, y2, y3, -, -, -, -, -, wy⟩ := wd_open y (lt4 yP)
                    obtain ⟨b0, b1, b2, b3, b4, b5, b6, b7, b8, eb, wb⟩ := nd_open y
                    obtain ⟨z0, z1, z2, z3, -, -, -, -, -, wz⟩ := wd_open x' (lt4 zP)
                    obtain ⟨c0, c1, c2, c3, c4, c5, c6, c7, c8, ec, wc1⟩ := nd_open x'
                    rw [wy] at N1
                    rw [wb] at N2
                    rw [wx, wz] at N3
                    rw [wa, wc1] at N4
                    rw [wz, wc1] at N5
                    have HN1 := hid (p := _) N1
                    have HN3 := hid (p := _) N3
                    have HN4 := hid (p := _) N4
                    have HN5 := hid (p := _) N5
                    have HN2 := hid (p := _) N2
                    have HZ4 := hid (p := _) wz
                    have HC9 := hid (p := _) ec
                    have hdi : (dx : Int) = 4 := by omega
                    have h7i : ¬ (i : Int) % 7 = 6 := by omega
                    have h7b : ((i : Int) % 7 == 6) = false := beq_eq_false_iff_ne.2 h7i
                    clear N1 N3 N4 N5 N2 hz zP wz wc1 ec hny hny0 wx wa ea xP yP wy wb eb HNX
                    go_wp2_with (first | (go_at_call 9; with_reducible refine (HN1.out _ (hP2.out.fr KF.out)).mono ?_; rintro e V3 ⟨rfl, hF⟩; have F3 := hid (p := _) (KF.out.trans0 hF); have L3 := hid (p := _) (KL.out.fr hF); have C3 := hid (p := _) (KC.out.fr hF); have st := HST.out.fr F3.out; have e0 := st.c0; have e1 := st.c1; clear st; obtain ⟨_, _, _, _, _, _, _, _, _, _⟩ := L3.out.all; obtain ⟨_, _, _, _, _, _, _, _, _, _, _, _, _, _, _, _, _, _, _, _⟩ := C3.out.all; have lt3 := C3.out.lt; have lbl : lb < V3.heap.size := World.block_lt_of_cell? V3 _ e1; have lbn : lb ≠ V3.heap.size := (by omega); have lbm : lb ≠ V3.heap.size + 1 := (by omega); clear hF HN1) | (go_at_call 16; with_reducible refine (HN2.out _).mono ?_; rintro e V4 ⟨rfl, hF⟩; have F4 := hid (p := _) (((F3.out.alloc _).alloc _).trans0 hF); have L4' := hid (p := _) (((L3.out.alloc _).alloc _).fr hF); have C4 := hid (p := _) (((C3.out.alloc _).alloc _).fr hF); have B4 := hid (p := _) (((L4.new V3 28 _ _ _ _).alloc _).fr hF); have D4 := hid (p := _) ((RW.ofz (t := 36) (heap_new1 V3 _ _)).fr hF); have lt4' := D4.out.lt; clear hF HN2) | (refine wpList_store_36 rfl (.tmp 11) (.tmp 50) rfl (V3.heap.size + 1) [0, 0, 0, 0, 0, 0, 0, 0, 0] [b0, b1, b2, b3, b4, b5, b6, b7, b8] 36 rfl rfl rfl rfl D4.out ?_; intro W5 hW; have F5 := hid (p := _) (show Fr [] w W5 from hW ▸ F4.out.setRow (.inr (by omega)) _); have L5 := (show L4 W5 V1.heap.size 28 (.int .u64 (x0 : Nat)) (.int .u64 (x1 : Nat)) (.int .u64 (x2 : Nat)) (.int .u64 (x3 : Nat)) from hW ▸ L4'.out.setRow_other (by omega) _); have C5 := (show RW W5 V2.heap.size 36 [a0, a1, a2, a3, a4, a5, a6, a7, a8] from hW ▸ C4.out.setRow_other (by omega) _); have B5 := (show L4 W5 V3.heap.size 28 (.int .u64 (y0 : Nat)) (.int .u64 (y1 : Nat)) (.int .u64 (y2 : Nat)) (.int .u64 (y3 : Nat)) from hW ▸ B4.out.setRow_other (by omega) _); have D5 := (show RW W5 (V3.heap.size + 1) 36 [b0, b1, b2, b3, b4, b5, b6, b7, b8] from hW ▸ D4.out.setRow _); obtain ⟨_, _, _, _, _, _, _, _, _, _⟩ := L5.all; obtain ⟨_, _, _, _, _, _, _, _, _, _⟩ := B5.all; have HL5 := hid (p := _) L5; have HC5 := hid (p := _) C5; have HB5 := hid (p := _) B5; have HD5 := hid (p := _) D5; have st := HST.out.fr F5.out; have e0 := st.c0; have e1 := st.c1; clear st; clear hW L5 C5 B5 D5 F4 L4' C4 B4 D4) | (go_at_call 18; with_reducible refine (HN3.out _ (hP2.out.fr F5.out)).mono ?_; rintro e V6 ⟨rfl, hF⟩; have F6 := hid (p := _) (F5.out.trans0 hF); have L6 := hid (p := _) (HL5.out.fr hF); have C6 := hid (p := _) (HC5.out.fr hF); have D6 := hid (p := _) (HD5.out.fr hF); clear hF HN3) | (refine wpList_store_28 rfl (.tmp 5) (.tmp 90) rfl V1.heap.size 28 _ _ _ _ z0 z1 z2 z3 rfl rfl L6.out ?_; intro W7 hW; have F7 := hid (p := _) (show Fr [] w W7 from hW ▸ F6.out.setRow (.inr hs1) _); have L7 := hid (p := _) (show L4 W7 V1.heap.size 28 (.int .u64 (z0 : Nat)) (.int .u64 (z1 : Nat)) (.int .u64 (z2 : Nat)) (.int .u64 (z3 : Nat)) from hW ▸ L6.out.setRow _ _ _ _); have C7 := (show RW W7 V2.heap.size 36 [a0, a1, a2, a3, a4, a5, a6, a7, a8] from hW ▸ C6.out.setRow_other (by omega) _); have D7 := (show RW W7 (V3.heap.size + 1) 36 [b0, b1, b2, b3, b4, b5, b6, b7, b8] from hW ▸ D6.out.setRow_other (by omega) _); obtain ⟨_, _, _, _, _, _, _, _, _, _, _, _, _, _, _, _, _, _, _, _⟩ := C7.all; obtain ⟨_, _, _, _, _, _, _, _, _, _, _, _, _, _, _, _, _, _, _, _⟩ := D7.all; have HC7 := hid (p := _) C7; clear hW C7 D7 F6 L6 C6 D6) | (go_at_call 19; with_reducible refine (HN4.out _).mono ?_; rintro e V8 ⟨rfl, hF⟩; have F8 := hid (p := _) (F7.out.trans0 hF); have L8 := hid (p := _) (L7.out.fr hF); have C8 := hid (p := _) (HC7.out.fr hF); clear hF HN4) | (refine wpList_store_36 rfl (.tmp 7) (.tmp 93) rfl V2.heap.size [a0, a1, a2, a3, a4, a5, a6, a7, a8] [c0, c1, c2, c3, c4, c5, c6, c7, c8] 36 rfl rfl rfl rfl C8.out ?_; intro W9 hW; have F9 := hid (p := _) (show Fr [] w W9 from hW ▸ F8.out.setRow (.inr (by omega)) _); have L9 := (show L4 W9 V1.heap.size 28 (.int .u64 (z0 : Nat)) (.int .u64 (z1 : Nat)) (.int .u64 (z2 : Nat)) (.int .u64 (z3 : Nat)) from hW ▸ L8.out.setRow_other (by omega) _); have C9 := (show RW W9 V2.heap.size 36 [c0, c1, c2, c3, c4, c5, c6, c7, c8] from hW ▸ C8.out.setRow _); obtain ⟨_, _, _, _, _, _, _, _, _, _⟩ := L9.all; obtain ⟨_, _, _, _, _, _, _, _, _, _, _, _, _, _, _, _, _, _, _, _⟩ := C9.all; have HL9 := hid (p := _) L9; have HC9' := hid (p := _) C9; clear hW L9 C9 F8 L8 C8))
                    go_roundg (n - (i + 1))
                    case measure => omega
                    case rel =>
                      exact ⟨i + 1, by omega, rfl, by go_num, hid ⟨F9.out, by rw [HX'.out]; exact (LE.iff HZ4.out).2 HL9.out, by rw [HX'.out, HC9.out]; exact HC9'.out⟩⟩
              · by_cases h7 : i % 7 = 6
                · as_aux_lemma =>
                    have N1 := fun W (h : PV W) => KO.out tx ht W h
                    have N2 := fun W => KR.out tx ht W
                    rw [hny ht] at N1 N2
                    have N3 := fun W (h : PV W) => KA.out x y xP yP W h
                    have N4 := fun W => KRA.out x y xP yP W
                    have hz : (x + y) % Nt.P = x' := by rw [HNX.out]; unfold nx; rw [if_neg hd1, if_neg hd2, if_neg hd3, if_neg hd4]
                    rw [hz] at N3 N4
                    have zP : x' < Nt.P := by rw [← hz]; exact Nat.mod_lt _ P_pos
                    have N5 := fun W => KI.out x' zP W
                    obtain ⟨y0, y1, y2, y3, -, -, -, -, -, wy⟩ := wd_open y (lt4 yP)
                    obtain ⟨b0, b1, b2, b3, b4, b5, b6, b7, b8, eb, wb⟩ := nd_open y
                    obtain ⟨z0, z1, z2, z3, -, -, -, -, -, wz⟩ := wd_open x' (lt4 zP)
                    obtain ⟨c0, c1, c2, c3, c4, c5, c6, c7, c8, ec, wc1⟩ := nd_open x'
                    rw [wy] at N1
                    rw [wb] at N2
                    rw [wx, wy, wz] at N3
                    rw [wa, wb, wc1] at N4
                    rw [wz, wc1] at N5
                    have HN1 := hid (p := _) N1
                    have HN3 := hid (p := _) N3
                    have HN4 := hid (p := _) N4
                    have HN5 := hid (p := _) N5
                    have HN2 := hid (p := _) N2
                    have HZ4 := hid (p := _) wz
                    have HC9 := hid (p := _) ec
                    have hdi1 : ¬ (dx : Int) = 1 := by omega
                    have hdi2 : ¬ (dx : Int) = 2 := by omega
                    have hdi3 : ¬ (dx : Int) = 3 := by omega
                    have hdi4 : ¬ (dx : Int) = 4 := by omega
                    have hdb1 : ((dx : Int) == 1) = false := beq_eq_false_iff_ne.2 hdi1
                    have hdb2 : ((dx : Int) == 2) = false := beq_eq_false_iff_ne.2 hdi2
                    have hdb3 : ((dx : Int) == 3) = false := beq_eq_false_iff_ne.2 hdi3
                    have hdb4 : ((dx : Int) == 4) = false := beq_eq_false_iff_ne.2 hdi4
                    have h7i : (i : Int) % 7 = 6 := by omega
                    clear N1 N3 N4 N5 N2 hz zP wz wc1 ec hny hny0 wx wa ea xP yP wy wb eb HNX
                    go_wp2_with (first | (go_at_call 9; with_reducible refine (HN1.out _ (hP2.out.fr KF.out)).mono ?_; rintro e V3 ⟨rfl, hF⟩; have F3 := hid (p := _) (KF.out.trans0 hF); have L3 := hid (p := _) (KL.out.fr hF); have C3 := hid (p := _) (KC.out.fr hF); have st := HST.out.fr F3.out; have e0 := st.c0; have e1 := st.c1; clear st; obtain ⟨_, _, _, _, _, _, _, _, _, _⟩ := L3.out.all; obtain ⟨_, _, _, _, _, _, _, _, _, _, _, _, _, _, _, _, _, _, _, _⟩ := C3.out.all; have lt3 := C3.out.lt; have lbl : lb < V3.heap.size := World.block_lt_of_cell? V3 _ e1; have lbn : lb ≠ V3.heap.size := (by omega); have lbm : lb ≠ V3.heap.size + 1 := (by omega); clear hF HN1) | (go_at_call 16; with_reducible refine (HN2.out _).mono ?_; rintro e V4 ⟨rfl, hF⟩; have F4 := hid (p := _) (((F3.out.alloc _).alloc _).trans0 hF); have L4' := hid (p := _) (((L3.out.alloc _).alloc _).fr hF); have C4 := hid (p := _) (((C3.out.alloc _).alloc _).fr hF); have B4 := hid (p := _) (((L4.new V3 28 _ _ _ _).alloc _).fr hF); have D4 := hid (p := _) ((RW.ofz (t := 36) (heap_new1 V3 _ _)).fr hF); have lt4' := D4.out.lt; clear hF HN2) | (refine wpList_store_36 rfl (.tmp 11) (.tmp 50) rfl (V3.heap.size + 1) [0, 0, 0, 0, 0, 0, 0, 0, 0] [b0, b1, b2, b3, b4, b5, b6, b7, b8] 36 rfl rfl rfl rfl D4.out ?_; intro W5 hW; have F5 := hid (p := _) (show Fr [] w W5 from hW ▸ F4.out.setRow (.inr (by omega)) _); have L5 := (show L4 W5 V1.heap.size 28 (.int .u64 (x0 : Nat)) (.int .u64 (x1 : Nat)) (.int .u64 (x2 : Nat)) (.int .u64 (x3 : Nat)) from hW ▸ L4'.out.setRow_other (by omega) _); have C5 := (show RW W5 V2.heap.size 36 [a0, a1, a2, a3, a4, a5, a6, a7, a8] from hW ▸ C4.out.setRow_other (by omega) _); have B5 := (show L4 W5 V3.heap.size 28 (.int .u64 (y0 : Nat)) (.int .u64 (y1 : Nat)) (.int .u64 (y2 : Nat)) (.int .u64 (y3 : Nat)) from hW ▸ B4.out.setRow_other (by omega) _); have D5 := (show RW W5 (V3.heap.size + 1) 36 [b0, b1, b2, b3, b4, b5, b6, b7, b8] from hW ▸ D4.out.setRow _); obtain ⟨_, _, _, _, _, _, _, _, _, _⟩ := L5.all; obtain ⟨_, _, _, _, _, _, _, _, _, _⟩ := B5.all; have HL5 := hid (p := _) L5; have HC5 := hid (p := _) C5; have HB5 := hid (p := _) B5; have HD5 := hid (p := _) D5; have st := HST.out.fr F5.out; have e0 := st.c0; have e1 := st.c1; clear st; clear hW L5 C5 B5 D5 F4 L4' C4 B4 D4) | (go_at_call 18; with_reducible refine (HN3.out _ (hP2.out.fr F5.out)).mono ?_; rintro e V6 ⟨rfl, hF⟩; have F6 := hid (p := _) (F5.out.trans0 hF); have L6 := hid (p := _) (HL5.out.fr hF); have C6 := hid (p := _) (HC5.out.fr hF); have D6 := hid (p := _) (HD5.out.fr hF); clear hF HN3) | (refine wpList_store_28 rfl (.tmp 5) (.tmp 58) rfl V1.heap.size 28 _ _ _ _ z0 z1 z2 z3 rfl rfl L6.out ?_; intro W7 hW; have F7 := hid (p := _) (show Fr [] w W7 from hW ▸ F6.out.setRow (.inr hs1) _); have L7 := hid (p := _) (show L4 W7 V1.heap.size 28 (.int .u64 (z0 : Nat)) (.int .u64 (z1 : Nat)) (.int .u64 (z2 : Nat)) (.int .u64 (z3 : Nat)) from hW ▸ L6.out.setRow _ _ _ _); have C7 := (show RW W7 V2.heap.size 36 [a0, a1, a2, a3, a4, a5, a6, a7, a8] from hW ▸ C6.out.setRow_other (by omega) _); have D7 := (show RW W7 (V3.heap.size + 1) 36 [b0, b1, b2, b3, b4, b5, b6, b7, b8] from hW ▸ D6.out.setRow_other (by omega) _); obtain ⟨_, _, _, _, _, _, _, _, _, _, _, _, _, _, _, _, _, _, _, _⟩ := C7.all; obtain ⟨_, _, _, _, _, _, _, _, _, _, _, _, _, _, _, _, _, _, _, _⟩ := D7.all; have HC7 := hid (p := _) C7; clear hW C7 D7 F6 L6 C6 D6) | (go_at_call 19; with_reducible refine (HN4.out _).mono ?_; rintro e V8 ⟨rfl, hF⟩; have F8 := hid (p := _) (F7.out.trans0 hF); have L8 := hid (p := _) (L7.out.fr hF); have C8 := hid (p := _) (HC7.out.fr hF); clear hF HN4) | (refine wpList_store_36 rfl (.tmp 7) (.tmp 61) rfl V2.heap.size [a0, a1, a2, a3, a4, a5, a6, a7, a8] [c0, c1, c2, c3, c4, c5, c6, c7, c8] 36 rfl rfl rfl rfl C8.out ?_; intro W9 hW; have F9 := hid (p := _) (show Fr [] w W9 from hW ▸ F8.out.setRow (.inr (by omega)) _); have L9 := (show L4 W9 V1.heap.size 28 (.int .u64 (z0 : Nat)) (.int .u64 (z1 : Nat)) (.int .u64 (z2 : Nat)) (.int .u64 (z3 : Nat)) from hW ▸ L8.out.setRow_other (by omega) _); have C9 := (show RW W9 V2.heap.size 36 [c0, c1, c2, c3, c4, c5, c6, c7, c8] from hW ▸ C8.out.setRow _); obtain ⟨_, _, _, _, _, _, _, _, _, _⟩ := L9.all; obtain ⟨_, _, _, _, _, _, _, _, _, _, _, _, _, _, _, _, _, _, _, _⟩ := C9.all; have HL9 := hid (p := _) L9; have HC9' := hid (p := _) C9; clear hW L9 C9 F8 L8 C8) | (go_at_call 12; with_reducible refine (HN5.out _).mono ?_; rintro e V10 ⟨rfl, hF⟩; have F10 := hid (p := _) (F9.out.trans0 hF); have L10 := hid (p := _) (HL9.out.fr hF); have C10 := hid (p := _) (HC9'.out.fr hF); clear hF))
                    go_roundg (n - (i + 1))
                    case measure => omega
                    case rel =>
                      exact ⟨i + 1, by omega, rfl, by go_num, hid ⟨F10.out, by rw [HX'.out]; exact (LE.iff HZ4.out).2 L10.out, by rw [HX'.out, HC9.out]; exact C10.out⟩⟩
                · as_aux_lemma =>
                    have N1 := fun W (h : PV W) => KO.out tx ht W h
                    have N2 := fun W => KR.out tx ht W
                    rw [hny ht] at N1 N2
                    have N3 := fun W (h : PV W) => KA.out x y xP yP W h
                    have N4 := fun W => KRA.out x y xP yP W
                    have hz : (x + y) % Nt.P = x' := by rw [HNX.out]; unfold nx; rw [if_neg hd1, if_neg hd2, if_neg hd3, if_neg hd4]
                    rw [hz] at N3 N4
                    have zP : x' < Nt.P := by rw [← hz]; exact Nat.mod_lt _ P_pos
                    have N5 := fun W => KI.out x' zP W
                    obtain ⟨y0, y1, y2, y3, -, -, -, -, -, wy⟩ := wd_open y (lt4 yP)
                    obtain ⟨b0, b1, b2, b3, b4, b5, b6, b7, b8, eb, wb⟩ := nd_open y
                    obtain ⟨z0, z1, z2, z3, -, -, -, -, -, wz⟩ := wd_open x' (lt4 zP)
                    obtain ⟨c0, c1, c2, c3, c4, c5, c6, c7, c8, ec, wc1⟩ := nd_open x'
                    rw [wy] at N1
                    rw [wb] at N2
                    rw [wx, wy, wz] at N3
                    rw [wa, wb, wc1] at N4
                    rw [wz, wc1] at N5
                    have HN1 := hid (p := _) N1
                    have HN3 := hid (p := _) N3
                    have HN4 := hid (p := _) N4
                    have HN5 := hid (p := _) N5
                    have HN2 := hid (p := _) N2
                    have HZ4 := hid (p := _) wz
                    have HC9 := hid (p := _) ec
                    have hdi1 : ¬ (dx : Int) = 1 := by omega
                    have hdi2 : ¬ (dx : Int) = 2 := by omega
                    have hdi3 : ¬ (dx : Int) = 3 := by omega
                    have hdi4 : ¬ (dx : Int) = 4 := by omega
                    have hdb1 : ((dx : Int) == 1) = false := beq_eq_false_iff_ne.2 hdi1
                    have hdb2 : ((dx : Int) == 2) = false := beq_eq_false_iff_ne.2 hdi2
                    have hdb3 : ((dx : Int) == 3) = false := beq_eq_false_iff_ne.2 hdi3
                    have hdb4 : ((dx : Int) == 4) = false := beq_eq_false_iff_ne.2 hdi4
                    have h7i : ¬ (i : Int) % 7 = 6 := by omega
                    have h7b : ((i : Int) % 7 == 6) = false := beq_eq_false_iff_ne.2 h7i
                    clear N1 N3 N4 N5 N2 hz zP wz wc1 ec hny hny0 wx wa ea xP yP wy wb eb HNX
                    go_wp2_with (first | (go_at_call 9; with_reducible refine (HN1.out _ (hP2.out.fr KF.out)).mono ?_; rintro e V3 ⟨rfl, hF⟩; have F3 := hid (p := _) (KF.out.trans0 hF); have L3 := hid (p := _) (KL.out.fr hF); have C3 := hid (p := _) (KC.out.fr hF); have st := HST.out.fr F3.out; have e0 := st.c0; have e1 := st.c1; clear st; obtain ⟨_, _, _, _, _, _, _, _, _, _⟩ := L3.out.all; obtain ⟨_, _, _, _, _, _, _, _, _, _, _, _, _, _, _, _, _, _, _, _⟩ := C3.out.all; have lt3 := C3.out.lt; have lbl : lb < V3.heap.size := World.block_lt_of_cell? V3 _ e1; have lbn : lb ≠ V3.heap.size := (by omega); have lbm : lb ≠ V3.heap.size + 1 := (by omega); clear hF HN1) | (go_at_call 16; with_reducible refine (HN2.out _).mono ?_; rintro e V4 ⟨rfl, hF⟩; have F4 := hid (p := _) (((F3.out.alloc _).alloc _).trans0 hF); have L4' := hid (p := _) (((L3.out.alloc _).alloc _).fr hF); have C4 := hid (p := _) (((C3.out.alloc _).alloc _).fr hF); have B4 := hid (p := _) (((L4.new V3 28 _ _ _ _).alloc _).fr hF); have D4 := hid (p := _) ((RW.ofz (t := 36) (heap_new1 V3 _ _)).fr hF); have lt4' := D4.out.lt; clear hF HN2) | (refine wpList_store_36 rfl (.tmp 11) (.tmp 50) rfl (V3.heap.size + 1) [0, 0, 0, 0, 0, 0, 0, 0, 0] [b0, b1, b2, b3, b4, b5, b6, b7, b8] 36 rfl rfl rfl rfl D4.out ?_; intro W5 hW; have F5 := hid (p := _) (show Fr [] w W5 from hW ▸ F4.out.setRow (.inr (by omega)) _); have L5 := (show L4 W5 V1.heap.size 28 (.int .u64 (x0 : Nat)) (.int .u64 (x1 : Nat)) (.int .u64 (x2 : Nat)) (.int .u64 (x3 : Nat)) from hW ▸ L4'.out.setRow_other (by omega) _); have C5 := (show RW W5 V2.heap.size 36 [a0, a1, a2, a3, a4, a5, a6, a7, a8] from hW ▸ C4.out.setRow_other (by omega) _); have B5 := (show L4 W5 V3.heap.size 28 (.int .u64 (y0 : Nat)) (.int .u64 (y1 : Nat)) (.int .u64 (y2 : Nat)) (.int .u64 (y3 : Nat)) from hW ▸ B4.out.setRow_other (by omega) _); have D5 := (show RW W5 (V3.heap.size + 1) 36 [b0, b1, b2, b3, b4, b5, b6, b7, b8] from hW ▸ D4.out.setRow _); obtain ⟨_, _, _, _, _, _, _, _, _, _⟩ := L5.all; obtain ⟨_, _, _, _, _, _, _, _, _, _⟩ := B5.all; have HL5 := hid (p := _) L5; have HC5 := hid (p := _) C5; have HB5 := hid (p := _) B5; have HD5 := hid (p := _) D5; have st := HST.out.fr F5.out; have e0 := st.c0; have e1 := st.c1; clear st; clear hW L5 C5 B5 D5 F4 L4' C4 B4 D4) | (go_at_call 18; with_reducible refine (HN3.out _ (hP2.out.fr F5.out)).mono ?_; rintro e V6 ⟨rfl, hF⟩; have F6 := hid (p := _) (F5.out.trans0 hF); have L6 := hid (p := _) (HL5.out.fr hF); have C6 := hid (p := _) (HC5.out.fr hF); have D6 := hid (p := _) (HD5.out.fr hF); clear hF HN3) | (refine wpList_store_28 rfl (.tmp 5) (.tmp 58) rfl V1.heap.size 28 _ _ _ _ z0 z1 z2 z3 rfl rfl L6.out ?_; intro W7 hW; have F7 := hid (p := _) (show Fr [] w W7 from hW ▸ F6.out.setRow (.inr hs1) _); have L7 := hid (p := _) (show L4 W7 V1.heap.size 28 (.int .u64 (z0 : Nat)) (.int .u64 (z1 : Nat)) (.int .u64 (z2 : Nat)) (.int .u64 (z3 : Nat)) from hW ▸ L6.out.setRow _ _ _ _); have C7 := (show RW W7 V2.heap.size 36 [a0, a1, a2, a3, a4, a5, a6, a7, a8] from hW ▸ C6.out.setRow_other (by omega) _); have D7 := (show RW W7 (V3.heap.size + 1) 36 [b0, b1, b2, b3, b4, b5, b6, b7, b8] from hW ▸ D6.out.setRow_other (by omega) _); obtain ⟨_, _, _, _, _, _, _, _, _, _, _, _, _, _, _, _, _, _, _, _⟩ := C7.all; obtain ⟨_, _, _, _, _, _, _, _, _, _, _, _, _, _, _, _, _, _, _, _⟩ := D7.all; have HC7 := hid (p := _) C7; clear hW C7 D7 F6 L6 C6 D6) | (go_at_call 19; with_reducible refine (HN4.out _).mono ?_; rintro e V8 ⟨rfl, hF⟩; have F8 := hid (p := _) (F7.out.trans0 hF); have L8 := hid (p := _) (L7.out.fr hF); have C8 := hid (p := _) (HC7.out.fr hF); clear hF HN4) | (refine wpList_store_36 rfl (.tmp 7) (.tmp 61) rfl V2.heap.size [a0, a1, a2, a3, a4, a5, a6, a7, a8] [c0, c1, c2, c3, c4, c5, c6, c7, c8] 36 rfl rfl rfl rfl C8.out ?_; intro W9 hW; have F9 := hid (p := _) (show Fr [] w W9 from hW ▸ F8.out.setRow (.inr (by omega)) _); have L9 := (show L4 W9 V1.heap.size 28 (.int .u64 (z0 : Nat)) (.int .u64 (z1 : Nat)) (.int .u64 (z2 : Nat)) (.int .u64 (z3 : Nat)) from hW ▸ L8.out.setRow_other (by omega) _); have C9 := (show RW W9 V2.heap.size 36 [c0, c1, c2, c3, c4, c5, c6, c7, c8] from hW ▸ C8.out.setRow _); obtain ⟨_, _, _, _, _, _, _, _, _, _⟩ := L9.all; obtain ⟨_, _, _, _, _, _, _, _, _, _, _, _, _, _, _, _, _, _, _, _⟩ := C9.all; have HL9 := hid (p := _) L9; have HC9' := hid (p := _) C9; clear hW L9 C9 F8 L8 C8))
                    go_roundg (n - (i + 1))
                    case measure => omega
                    case rel =>
                      exact ⟨i + 1, by omega, rfl, by go_num, hid ⟨F9.out, by rw [HX'.out]; exact (LE.iff HZ4.out).2 HL9.out, by rw [HX'.out, HC9.out]; exact HC9'.out⟩⟩
      · by_cases hd1 : dx = 1
        · have hd := hd1
          by_cases h7 : i % 7 = 6
          · as_aux_lemma =>
              have N1 := fun W (h : PV W) => KN.out tx ht W
              obtain rfl := hny0 ht
              have zn9 : nd 0 = .agg #[.int .u64 0, .int .u64 0, .int .u64 0, .int .u64 0, .int .u64 0, .int .u64 0, .int .u64 0, .int .u64 0, .int .u64 0] := rfl
              have N3 := fun W (h : PV W) => KS.out x 0 xP yP W h
              have N4 := fun W => KRS.out x 0 xP yP W
              have hz : (x + Nt.P - 0) % Nt.P = x' := by rw [HNX.out]; unfold nx; rw [if_pos hd]
              rw [hz] at N3 N4
              have zP : x' < Nt.P := by rw [← hz]; exact Nat.mod_lt _ P_pos
              have N5 := fun W => KI.out x' zP W
              obtain ⟨z0, z1, z2, z3, -, -, -, -, -, wz⟩ := wd_open x' (lt4 zP)
              obtain ⟨c0, c1, c2, c3, c4, c5, c6, c7, c8, ec, wc1⟩ := nd_open x'
              rw [← wd_0] at N1
              rw [wx, ← wd_0, wz] at N3
              rw [wa, zn9, wc1] at N4
              rw [wz, wc1] at N5
              have HN1 := hid (p := _) N1
              have HN3 := hid (p := _) N3
              have HN4 := hid (p := _) N4
              have HN5 := hid (p := _) N5
              have HZ4 := hid (p := _) wz
              have HC9 := hid (p := _) ec
              have hdi : (dx : Int) = 1 := by omega
              have h7i : (i : Int) % 7 = 6 := by omega
              clear N1 N3 N4 N5 hz zP wz wc1 ec hny hny0 wx wa ea xP yP zn9 HNX
              go_wp2_with (first | (go_at_call 9; with_reducible refine (HN1.out _ (hP2.out.fr KF.out)).mono ?_; rintro e V3 ⟨rfl, hF⟩; have F3 := hid (p := _) (KF.out.trans0 hF); have L3 := hid (p := _) (KL.out.fr hF); have C3 := hid (p := _) (KC.out.fr hF); have st := HST.out.fr F3.out; have e0 := st.c0; have e1 := st.c1; clear st; obtain ⟨_, _, _, _, _, _, _, _, _, _⟩ := L3.out.all; obtain ⟨_, _, _, _, _, _, _, _, _, _, _, _, _, _, _, _, _, _, _, _⟩ := C3.out.all; have lt3 := C3.out.lt; have lbl : lb < V3.heap.size := World.block_lt_of_cell? V3 _ e1; have lbn : lb ≠ V3.heap.size := (by omega); have lbm : lb ≠ V3.heap.size + 1 := (by omega); clear hF HN1) | (go_at_call 20; with_reducible refine (HN3.out _ (hP2.out.fr ((F3.out.alloc _).alloc _))).mono ?_; rintro e V6 ⟨rfl, hF⟩; have F6 := hid (p := _) (((F3.out.alloc _).alloc _).trans0 hF); have L6 := hid (p := _) (((L3.out.alloc _).alloc _).fr hF); have C6 := hid (p := _) (((C3.out.alloc _).alloc _).fr hF); have D6 := hid (p := _) ((RW.ofz (t := 36) (heap_new1 V3 _ _)).fr hF); clear hF HN3) | (refine wpList_store_28 rfl (.tmp 5) (.tmp 66) rfl V1.heap.size 28 _ _ _ _ z0 z1 z2 z3 rfl rfl L6.out ?_; intro W7 hW; have F7 := hid (p := _) (show Fr [] w W7 from hW ▸ F6.out.setRow (.inr hs1) _); have L7 := hid (p := _) (show L4 W7 V1.heap.size 28 (.int .u64 (z0 : Nat)) (.int .u64 (z1 : Nat)) (.int .u64 (z2 : Nat)) (.int .u64 (z3 : Nat)) from hW ▸ L6.out.setRow _ _ _ _); have C7 := (show RW W7 V2.heap.size 36 [a0, a1, a2, a3, a4, a5, a6, a7, a8] from hW ▸ C6.out.setRow_other (by omega) _); have D7 := (show RW W7 (V3.heap.size + 1) 36 [0, 0, 0, 0, 0, 0, 0, 0, 0] from hW ▸ D6.out.setRow_other (by omega) _); obtain ⟨_, _, _, _, _, _, _, _, _, _, _, _, _, _, _, _, _, _, _, _⟩ := C7.all; obtain ⟨_, _, _, _, _, _, _, _, _, _, _, _, _, _, _, _, _, _, _, _⟩ := D7.all; have HC7 := hid (p := _) C7; clear hW C7 D7 F6 L6 C6 D6) | (go_at_call 21; with_reducible refine (HN4.out _).mono ?_; rintro e V8 ⟨rfl, hF⟩; have F8 := hid (p := _) (F7.out.trans0 hF); have L8 := hid (p := _) (L7.out.fr hF); have C8 := hid (p := _) (HC7.out.fr hF); clear hF HN4) | (refine wpList_store_36 rfl (.tmp 7) (.tmp 69) rfl V2.heap.size [a0, a1, a2, a3, a4, a5, a6, a7, a8] [c0, c1, c2, c3, c4, c5, c6, c7, c8] 36 rfl rfl rfl rfl C8.out ?_; intro W9 hW; have F9 := hid (p := _) (show Fr [] w W9 from hW ▸ F8.out.setRow (.inr (by omega)) _); have L9 := (show L4 W9 V1.heap.size 28 (.int .u64 (z0 : Nat)) (.int .u64 (z1 : Nat)) (.int .u64 (z2 : Nat)) (.int .u64 (z3 : Nat)) from hW ▸ L8.out.setRow_other (by omega) _); have C9 := (show RW W9 V2.heap.size 36 [c0, c1, c2, c3, c4, c5, c6, c7, c8] from hW ▸ C8.out.setRow _); obtain ⟨_, _, _, _, _, _, _, _, _, _⟩ := L9.all; obtain ⟨_, _, _, _, _, _, _, _, _, _, _, _, _, _, _, _, _, _, _, _⟩ := C9.all; have HL9 := hid (p := _) L9; have HC9' := hid (p := _) C9; clear hW L9 C9 F8 L8 C8) | (go_at_call 12; with_reducible refine (HN5.out _).mono ?_; rintro e V10 ⟨rfl, hF⟩; have F10 := hid (p := _) (F9.out.trans0 hF); have L10 := hid (p := _) (HL9.out.fr hF); have C10 := hid (p := _) (HC9'.out.fr hF); clear hF))
              go_roundg (n - (i + 1))
              case measure => omega
              case rel =>
                exact ⟨i + 1, by omega, rfl, by go_num, hid ⟨F10.out, by rw [HX'.out]; exact (LE.iff HZ4.out).2 L10.out, by rw [HX'.out, HC9.out]; exact C10.out⟩⟩
          · as_aux_lemma =>
              have N1 := fun W (h : PV W) => KN.out tx ht W
              obtain rfl := hny0 ht
              have zn9 : nd 0 = .agg #[.int .u64 0, .int .u64 0, .int .u64 0, .int .u64 0, .int .u64 0, .int .u64 0, .int .u64 0, .int .u64 0, .int .u64 0] := rfl
              have N3 := fun W (h : PV W) => KS.out x 0 xP yP W h
              have N4 := fun W => KRS.out x 0 xP yP W
              have hz : (x + Nt.P - 0) % Nt.P = x' := by rw [HNX.out]; unfold nx; rw [if_pos hd]
              rw [hz] at N3 N4
              have zP : x' < Nt.P := by rw [← hz]; exact Nat.mod_lt _ P_pos
              have N5 := fun W => KI.out x' zP W
              obtain ⟨z0, z1, z2, z3, -, -, -, -, -, wz⟩ := wd_open x' (lt4 zP)
              obtain ⟨c0, c1, c2, c3, c4, c5, c6, c7, c8, ec, wc1⟩ := nd_open x'
              rw [← wd_0] at N1
              rw [wx, ← wd_0, wz] at N3
              rw [wa, zn9, wc1] at N4
              rw [wz, wc1] at N5
              have HN1 := hid (p := _) N1
              have HN3 := hid (p := _) N3
              have HN4 := hid (p := _) N4
              have HN5 := hid (p := _) N5
              have HZ4 := hid (p := _) wz
              have HC9 := hid (p := _) ec
              have hdi : (dx : Int) = 1 := by omega
              have h7i : ¬ (i : Int) % 7 = 6 := by omega
              have h7b : ((i : Int) % 7 == 6) = false := beq_eq_false_iff_ne.2 h7i
              clear N1 N3 N4 N5 hz zP wz wc1 ec hny hny0 wx wa ea xP yP zn9 HNX
              go_wp2_with (first | (go_at_call 9; with_reducible refine (HN1.out _ (hP2.out.fr KF.out)).mono ?_; rintro e V3 ⟨rfl, hF⟩; have F3 := hid (p := _) (KF.out.trans0 hF); have L3 := hid (p := _) (KL.out.fr hF); have C3 := hid (p := _) (KC.out.fr hF); have st := HST.out.fr F3.out; have e0 := st.c0; have e1 := st.c1; clear st; obtain ⟨_, _, _, _, _, _, _, _, _, _⟩ := L3.out.all; obtain ⟨_, _, _, _, _, _, _, _, _, _, _, _, _, _, _, _, _, _, _, _⟩ := C3.out.all; have lt3 := C3.out.lt; have lbl : lb < V3.heap.size := World.block_lt_of_cell? V3 _ e1; have lbn : lb ≠ V3.heap.size := (by omega); have lbm : lb ≠ V3.heap.size + 1 := (by omega); clear hF HN1) | (go_at_call 20; with_reducible refine (HN3.out _ (hP2.out.fr ((F3.out.alloc _).alloc _))).mono ?_; rintro e V6 ⟨rfl, hF⟩; have F6 := hid (p := _) (((F3.out.alloc _).alloc _).trans0 hF); have L6 := hid (p := _) (((L3.out.alloc _).alloc _).fr hF); have C6 := hid (p := _) (((C3.out.alloc _).alloc _).fr hF); have D6 := hid (p := _) ((RW.ofz (t := 36) (heap_new1 V3 _ _)).fr hF); clear hF HN3) | (refine wpList_store_28 rfl (.tmp 5) (.tmp 66) rfl V1.heap.size 28 _ _ _ _ z0 z1 z2 z3 rfl rfl L6.out ?_; intro W7 hW; have F7 := hid (p := _) (show Fr [] w W7 from hW ▸ F6.out.setRow (.inr hs1) _); have L7 := hid (p := _) (show L4 W7 V1.heap.size 28 (.int .u64 (z0 : Nat)) (.int .u64 (z1 : Nat)) (.int .u64 (z2 : Nat)) (.int .u64 (z3 : Nat)) from hW ▸ L6.out.setRow _ _ _ _); have C7 := (show RW W7 V2.heap.size 36 [a0, a1, a2, a3, a4, a5, a6, a7, a8] from hW ▸ C6.out.setRow_other (by omega) _); have D7 := (show RW W7 (V3.heap.size + 1) 36 [0, 0, 0, 0, 0, 0, 0, 0, 0] from hW ▸ D6.out.setRow_other (by omega) _); obtain ⟨_, _, _, _, _, _, _, _, _, _, _, _, _, _, _, _, _, _, _, _⟩ := C7.all; obtain ⟨_, _, _, _, _, _, _, _, _, _, _, _, _, _, _, _, _, _, _, _⟩ := D7.all; have HC7 := hid (p := _) C7; clear hW C7 D7 F6 L6 C6 D6) | (go_at_call 21; with_reducible refine (HN4.out _).mono ?_; rintro e V8 ⟨rfl, hF⟩; have F8 := hid (p := _) (F7.out.trans0 hF); have L8 := hid (p := _) (L7.out.fr hF); have C8 := hid (p := _) (HC7.out.fr hF); clear hF HN4) | (refine wpList_store_36 rfl (.tmp 7) (.tmp 69) rfl V2.heap.size [a0, a1, a2, a3, a4, a5, a6, a7, a8] [c0, c1, c2, c3, c4, c5, c6, c7, c8] 36 rfl rfl rfl rfl C8.out ?_; intro W9 hW; have F9 := hid (p := _) (show Fr [] w W9 from hW ▸ F8.out.setRow (.inr (by omega)) _); have L9 := (show L4 W9 V1.heap.size 28 (.int .u64 (z0 : Nat)) (.int .u64 (z1 : Nat)) (.int .u64 (z2 : Nat)) (.int .u64 (z3 : Nat)) from hW ▸ L8.out.setRow_other (by omega) _); have C9 := (show RW W9 V2.heap.size 36 [c0, c1, c2, c3, c4, c5, c6, c7, c8] from hW ▸ C8.out.setRow _); obtain ⟨_, _, _, _, _, _, _, _, _, _⟩ := L9.all; obtain ⟨_, _, _, _, _, _, _, _, _, _, _, _, _, _, _, _, _, _, _, _⟩ := C9.all; have HL9 := hid (p := _) L9; have HC9' := hid (p := _) C9; clear hW L9 C9 F8 L8 C8))
              go_roundg (n - (i + 1))
              case measure => omega
              case rel =>
                exact ⟨i + 1, by omega, rfl, by go_num, hid ⟨F9.out, by rw [HX'.out]; exact (LE.iff HZ4.out).2 HL9.out, by rw [HX'.out, HC9.out]; exact HC9'.out⟩⟩
        · by_cases hd2 : dx = 2
          · have hd := hd2
            by_cases h7 : i % 7 = 6
            · as_aux_lemma =>
                have N1 := fun W (h : PV W) => KN.out tx ht W
                obtain rfl := hny0 ht
                have zn9 : nd 0 = .agg #[.int .u64 0, .int .u64 0, .int .u64 0, .int .u64 0, .int .u64 0, .int .u64 0, .int .u64 0, .int .u64 0, .int .u64 0] := rfl
                have N3 := fun W (h : PV W) => KM.out x 0 xP yP W h
                have N4 := fun W => KRM.out x 0 xP yP W
                have hz : x * 0 % Nt.P = x' := by rw [HNX.out]; unfold nx; rw [if_neg hd1, if_pos hd]
                rw [hz] at N3 N4
                have zP : x' < Nt.P := by rw [← hz]; exact Nat.mod_lt _ P_pos
                have N5 := fun W => KI.out x' zP W
                obtain ⟨z0, z1, z2, z3, -, -, -, -, -, wz⟩ := wd_open x' (lt4 zP)
                obtain ⟨c0, c1, c2, c3, c4, c5, c6, c7, c8, ec, wc1⟩ := nd_open x'
                rw [← wd_0] at N1
                rw [wx, ← wd_0, wz] at N3
                rw [wa, zn9, wc1] at N4
                rw [wz, wc1] at N5
                have HN1 := hid (p := _) N1
                have HN3 := hid (p := _) N3
                have HN4 := hid (p := _) N4
                have HN5 := hid (p := _) N5
                have HZ4 := hid (p := _) wz
                have HC9 := hid (p := _) ec
                have hdi : (dx : Int) = 2 := by omega
                have h7i : (i : Int) % 7 = 6 := by omega
                clear N1 N3 N4 N5 hz zP wz wc1 ec hny hny0 wx wa ea xP yP zn9 HNX
                go_wp2_with (first | (go_at_call 9; with_reducible refine (HN1.out _ (hP2.out.fr KF.out)).mono ?_; rintro e V3 ⟨rfl, hF⟩; have F3 := hid (p := _) (KF.out.trans0 hF); have L3 := hid (p := _) (KL.out.fr hF); have C3 := hid (p := _) (KC.out.fr hF); have st := HST.out.fr F3.out; have e0 := st.c0; have e1 := st.c1; clear st; obtain ⟨_, _, _, _, _, _, _, _, _, _⟩ := L3.out.all; obtain ⟨_, _, _, _, _, _, _, _, _, _, _, _, _, _, _, _, _, _, _, _⟩ := C3.out.all; have lt3 := C3.out.lt; have lbl : lb < V3.heap.size := World.block_lt_of_cell? V3 _ e1; have lbn : lb ≠ V3.heap.size := (by omega); have lbm : lb ≠ V3.heap.size + 1 := (by omega); clear hF HN1) | (go_at_call 22; with_reducible refine (HN3.out _ (hP2.out.fr ((F3.out.alloc _).alloc _))).mono ?_; rintro e V6 ⟨rfl, hF⟩; have F6 := hid (p := _) (((F3.out.alloc _).alloc _).trans0 hF); have L6 := hid (p := _) (((L3.out.alloc _).alloc _).fr hF); have C6 := hid (p := _) (((C3.out.alloc _).alloc _).fr hF); have D6 := hid (p := _) ((RW.ofz (t := 36) (heap_new1 V3 _ _)).fr hF); clear hF HN3) | (refine wpList_store_28 rfl (.tmp 5) (.tmp 74) rfl V1.heap.size 28 _ _ _ _ z0 z1 z2 z3 rfl rfl L6.out ?_; intro W7 hW; have F7 := hid (p := _) (show Fr [] w W7 from hW ▸ F6.out.setRow (.inr hs1) _); have L7 := hid (p := _) (show L4 W7 V1.heap.size 28 (.int .u64 (z0 : Nat)) (.int .u64 (z1 : Nat)) (.int .u64 (z2 : Nat)) (.int .u64 (z3 : Nat)) from hW ▸ L6.out.setRow _ _ _ _); have C7 := (show RW W7 V2.heap.size 36 [a0, a1, a2, a3, a4, a5, a6, a7, a8] from hW ▸ C6.out.setRow_other (by omega) _); have D7 := (show RW W7 (V3.heap.size + 1) 36 [0, 0, 0, 0, 0, 0, 0, 0, 0] from hW ▸ D6.out.setRow_other (by omega) _); obtain ⟨_, _, _, _, _, _, _, _, _, _, _, _, _, _, _, _, _, _, _, _⟩ := C7.all; obtain ⟨_, _, _, _, _, _, _, _, _, _, _, _, _, _, _, _, _, _, _, _⟩ := D7.all; have HC7 := hid (p := _) C7; clear hW C7 D7 F6 L6 C6 D6) | (go_at_call 23; with_reducible refine (HN4.out _).mono ?_; rintro e V8 ⟨rfl, hF⟩; have F8 := hid (p := _) (F7.out.trans0 hF); have L8 := hid (p := _) (L7.out.fr hF); have C8 := hid (p := _) (HC7.out.fr hF); clear hF HN4) | (refine wpList_store_36 rfl (.tmp 7) (.tmp 77) rfl V2.heap.size [a0, a1, a2, a3, a4, a5, a6, a7, a8] [c0, c1, c2, c3, c4, c5, c6, c7, c8] 36 rfl rfl rfl rfl C8.out ?_; intro W9 hW; have F9 := hid (p := _) (show Fr [] w W9 from hW ▸ F8.out.setRow (.inr (by omega)) _); have L9 := (show L4 W9 V1.heap.size 28 (.int .u64 (z0 : Nat)) (.int .u64 (z1 : Nat)) (.int .u64 (z2 : Nat)) (.int .u64 (z3 : Nat)) from hW ▸ L8.out.setRow_other (by omega) _); have C9 := (show RW W9 V2.heap.size 36 [c0, c1, c2, c3, c4, c5, c6, c7, c8] from hW ▸ C8.out.setRow _); obtain ⟨_, _, _, _, _, _, _, _, _, _⟩ := L9.all; obtain ⟨_, _, _, _, _, _, _, _, _, _, _, _, _, _, _, _, _, _, _, _⟩ := C9.all; have HL9 := hid (p := _) L9; have HC9' := hid (p := _) C9; clear hW L9 C9 F8 L8 C8) | (go_at_call 12; with_reducible refine (HN5.out _).mono ?_; rintro e V10 ⟨rfl, hF⟩; have F10 := hid (p := _) (F9.out.trans0 hF); have L10 := hid (p := _) (HL9.out.fr hF); have C10 := hid (p := _) (HC9'.out.fr hF); clear hF))
                go_roundg (n - (i + 1))
                case measure => omega
                case rel =>
                  exact ⟨i + 1, by omega, rfl, by go_num, hid ⟨F10.out, by rw [HX'.out]; exact (LE.iff HZ4.out).2 L10.out, by rw [HX'.out, HC9.out]; exact C10.out⟩⟩
            · as_aux_lemma =>
                have N1 := fun W (h : PV W) => KN.out tx ht W
                obtain rfl := hny0 ht
                have zn9 : nd 0 = .agg #[.int .u64 0, .int .u64 0, .int .u64 0, .int .u64 0, .int .u64 0, .int .u64 0, .int .u64 0, .int .u64 0, .int .u64 0] := rfl
                have N3 := fun W (h : PV W) => KM.out x 0 xP yP W h
                have N4 := fun W => KRM.out x 0 xP yP W
                have hz : x * 0 % Nt.P = x' := by rw [HNX.out]; unfold nx; rw [if_neg hd1, if_pos hd]
                rw [hz] at N3 N4
                have zP : x' < Nt.P := by rw [← hz]; exact Nat.mod_lt _ P_pos
                have N5 := fun W => KI.out x' zP W
                obtain ⟨z0, z1, z2, z3, -, -, -, -, -, wz⟩ := wd_open x' (lt4 zP)
                obtain ⟨c0, c1, c2, c3, c4, c5, c6, c7, c8, ec, wc1⟩ := nd_open x'
                rw [← wd_0] at N1
                rw [wx, ← wd_0, wz] at N3
                rw [wa, zn9, wc1] at N4
                rw [wz, wc1] at N5
                have HN1 := hid (p := _) N1
                have HN3 := hid (p := _) N3
                have HN4 := hid (p := _) N4
                have HN5 := hid (p := _) N5
                have HZ4 := hid (p := _) wz
                have HC9 := hid (p := _) ec
                have hdi : (dx : Int) = 2 := by omega
                have h7i : ¬ (i : Int) % 7 = 6 := by omega
                have h7b : ((i : Int) % 7 == 6) = false := beq_eq_false_iff_ne.2 h7i
                clear N1 N3 N4 N5 hz zP wz wc1 ec hny hny0 wx wa ea xP yP zn9 HNX
                go_wp2_with (first | (go_at_call 9; with_reducible refine (HN1.out _ (hP2.out.fr KF.out)).mono ?_; rintro e V3 ⟨rfl, hF⟩; have F3 := hid (p := _) (KF.out.trans0 hF); have L3 := hid (p := _) (KL.out.fr hF); have C3 := hid (p := _) (KC.out.fr hF); have st := HST.out.fr F3.out; have e0 := st.c0; have e1 := st.c1; clear st; obtain ⟨_, _, _, _, _, _, _, _, _, _⟩ := L3.out.all; obtain ⟨_, _, _, _, _, _, _, _, _, _, _, _, _, _, _, _, _, _, _, _⟩ := C3.out.all; have lt3 := C3.out.lt; have lbl : lb < V3.heap.size := World.block_lt_of_cell? V3 _ e1; have lbn : lb ≠ V3.heap.size := (by omega); have lbm : lb ≠ V3.heap.size + 1 := (by omega); clear hF HN1) | (go_at_call 22; with_reducible refine (HN3.out _ (hP2.out.fr ((F3.out.alloc _).alloc _))).mono ?_; rintro e V6 ⟨rfl, hF⟩; have F6 := hid (p := _) (((F3.out.alloc _).alloc _).trans0 hF); have L6 := hid (p := _) (((L3.out.alloc _).alloc _).fr hF); have C6 := hid (p := _) (((C3.out.alloc _).alloc _).fr hF); have D6 := hid (p := _) ((RW.ofz (t := 36) (heap_new1 V3 _ _)).fr hF); clear hF HN3) | (refine wpList_store_28 rfl (.tmp 5) (.tmp 74) rfl V1.heap.size 28 _ _ _ _ z0 z1 z2 z3 rfl rfl L6.out ?_; intro W7 hW; have F7 := hid (p := _) (show Fr [] w W7 from hW ▸ F6.out.setRow (.inr hs1) _); have L7 := hid (p := _) (show L4 W7 V1.heap.size 28 (.int .u64 (z0 : Nat)) (.int .u64 (z1 : Nat)) (.int .u64 (z2 : Nat)) (.int .u64 (z3 : Nat)) from hW ▸ L6.out.setRow _ _ _ _); have C7 := (show RW W7 V2.heap.size 36 [a0, a1, a2, a3, a4, a5, a6, a7, a8] from hW ▸ C6.out.setRow_other (by omega) _); have D7 := (show RW W7 (V3.heap.size + 1) 36 [0, 0, 0, 0, 0, 0, 0, 0, 0] from hW ▸ D6.out.setRow_other (by omega) _); obtain ⟨_, _, _, _, _, _, _, _, _, _, _, _, _, _, _, _, _, _, _, _⟩ := C7.all; obtain ⟨_, _, _, _, _, _, _, _, _, _, _, _, _, _, _, _, _, _, _, _⟩ := D7.all; have HC7 := hid (p := _) C7; clear hW C7 D7 F6 L6 C6 D6) | (go_at_call 23; with_reducible refine (HN4.out _).mono ?_; rintro e V8 ⟨rfl, hF⟩; have F8 := hid (p := _) (F7.out.trans0 hF); have L8 := hid (p := _) (L7.out.fr hF); have C8 := hid (p := _) (HC7.out.fr hF); clear hF HN4) | (refine wpList_store_36 rfl (.tmp 7) (.tmp 77) rfl V2.heap.size [a0, a1, a2, a3, a4, a5, a6, a7, a8] [c0, c1, c2, c3, c4, c5, c6, c7, c8] 36 rfl rfl rfl rfl C8.out ?_; intro W9 hW; have F9 := hid (p := _) (show Fr [] w W9 from hW ▸ F8.out.setRow (.inr (by omega)) _); have L9 := (show L4 W9 V1.heap.size 28 (.int .u64 (z0 : Nat)) (.int .u64 (z1 : Nat)) (.int .u64 (z2 : Nat)) (.int .u64 (z3 : Nat)) from hW ▸ L8.out.setRow_other (by omega) _); have C9 := (show RW W9 V2.heap.size 36 [c0, c1, c2, c3, c4, c5, c6, c7, c8] from hW ▸ C8.out.setRow _); obtain ⟨_, _, _, _, _, _, _, _, _, _⟩ := L9.all; obtain ⟨_, _, _, _, _, _, _, _, _, _, _, _, _, _, _, _, _, _, _, _⟩ := C9.all; have HL9 := hid (p := _) L9; have HC9' := hid (p := _) C9; clear hW L9 C9 F8 L8 C8))
                go_roundg (n - (i + 1))
                case measure => omega
                case rel =>
                  exact ⟨i + 1, by omega, rfl, by go_num, hid ⟨F9.out, by rw [HX'.out]; exact (LE.iff HZ4.out).2 HL9.out, by rw [HX'.out, HC9.out]; exact HC9'.out⟩⟩
          · by_cases hd3 : dx = 3
            · have hd := hd3
              by_cases h7 : i % 7 = 6
              · as_aux_lemma =>
                  have N1 := fun W (h : PV W) => KN.out tx ht W
                  obtain rfl := hny0 ht
                  have zn9 : nd 0 = .agg #[.int .u64 0, .int .u64 0, .int .u64 0, .int .u64 0, .int .u64 0, .int .u64 0, .int .u64 0, .int .u64 0, .int .u64 0] := rfl
                  have N3 := fun W (h : PV W) => KM.out x x xP xP W h
                  have N4 := fun W => KRM.out x x xP xP W
                  have hz : x * x % Nt.P = x' := by rw [HNX.out]; unfold nx; rw [if_neg hd1, if_neg hd2, if_pos hd]
                  rw [hz] at N3 N4
                  have zP : x' < Nt.P := by rw [← hz]; exact Nat.mod_lt _ P_pos
                  have N5 := fun W => KI.out x' zP W
                  obtain ⟨z0, z1, z2, z3, -, -, -, -, -, wz⟩ := wd_open x' (lt4 zP)
                  obtain ⟨c0, c1, c2, c3, c4, c5, c6, c7, c8, ec, wc1⟩ := nd_open x'
                  rw [← wd_0] at N1
                  rw [wx, wz] at N3
                  rw [wa, wc1] at N4
                  rw [wz, wc1] at N5
                  have HN1 := hid (p := _) N1
                  have HN3 := hid (p := _) N3
                  have HN4 := hid (p := _) N4
                  have HN5 := hid (p := _) N5
                  have HZ4 := hid (p := _) wz
                  have HC9 := hid (p := _) ec
                  have hdi : (dx : Int) = 3 := by omega
                  have h7i : (i : Int) % 7 = 6 := by omega
                  clear N1 N3 N4 N5 hz zP wz wc1 ec hny hny0 wx wa ea xP yP zn9 HNX
                  go_wp2_with (first | (go_at_call 9; with_reducible refine (HN1.out _ (hP2.out.fr KF.out)).mono ?_; rintro e V3 ⟨rfl, hF⟩; have F3 := hid (p := _) (KF.out.trans0 hF); have L3 := hid (p := _) (KL.out.fr hF); have C3 := hid (p := _) (KC.out.fr hF); have st := HST.out.fr F3.out; have e0 := st.c0; have e1 := st.c1; clear st; obtain ⟨_, _, _, _, _, _, _, _, _, _⟩ := L3.out.all; obtain ⟨_, _, _, _, _, _, _, _, _, _, _, _, _, _, _, _, _, _, _, _⟩ := C3.out.all; have lt3 := C3.out.lt; have lbl : lb < V3.heap.size := World.block_lt_of_cell? V3 _ e1; have lbn : lb ≠ V3.heap.size := (by omega); have lbm : lb ≠ V3.heap.size + 1 := (by omega); clear hF HN1) | (go_at_call 22; with_reducible refine (HN3.out _ (hP2.out.fr ((F3.out.alloc _).alloc _))).mono ?_; rintro e V6 ⟨rfl, hF⟩; have F6 := hid (p := _) (((F3.out.alloc _).alloc _).trans0 hF); have L6 := hid (p := _) (((L3.out.alloc _).alloc _).fr hF); have C6 := hid (p := _) (((C3.out.alloc _).alloc _).fr hF); have D6 := hid (p := _) ((RW.ofz (t := 36) (heap_new1 V3 _ _)).fr hF); clear hF HN3) | (refine wpList_store_28 rfl (.tmp 5) (.tmp 82) rfl V1.heap.size 28 _ _ _ _ z0 z1 z2 z3 rfl rfl L6.out ?_; intro W7 hW; have F7 := hid (p := _) (show Fr [] w W7 from hW ▸ F6.out.setRow (.inr hs1) _); have L7 := hid (p := _) (show L4 W7 V1.heap.size 28 (.int .u64 (z0 : Nat)) (.int .u64 (z1 : Nat)) (.int .u64 (z2 : Nat)) (.int .u64 (z3 : Nat)) from hW ▸ L6.out.setRow _ _ _ _); have C7 := (show RW W7 V2.heap.size 36 [a0, a1, a2, a3, a4, a5, a6, a7, a8] from hW ▸ C6.out.setRow_other (by omega) _); have D7 := (show RW W7 (V3.heap.size + 1) 36 [0, 0, 0, 0, 0, 0, 0, 0, 0] from hW ▸ D6.out.setRow_other (by omega) _); obtain ⟨_, _, _, _, _, _, _, _, _, _, _, _, _, _, _, _, _, _, _, _⟩ := C7.all; obtain ⟨_, _, _, _, _, _, _, _, _, _, _, _, _, _, _, _, _, _, _, _⟩ := D7.all; have HC7 := hid (p := _) C7; clear hW C7 D7 F6 L6 C6 D6) | (go_at_call 23; with_reducible refine (HN4.out _).mono ?_; rintro e V8 ⟨rfl, hF⟩; have F8 := hid (p := _) (F7.out.trans0 hF); have L8 := hid (p := _) (L7.out.fr hF); have C8 := hid (p := _) (HC7.out.fr hF); clear hF HN4) | (refine wpList_store_36 rfl (.tmp 7) (.tmp 85) rfl V2.heap.size [a0, a1, a2, a3, a4, a5, a6, a7, a8] [c0, c1, c2, c3, c4, c5, c6, c7, c8] 36 rfl rfl rfl rfl C8.out ?_; intro W9 hW; have F9 := hid (p := _) (show Fr [] w W9 from hW ▸ F8.out.setRow (.inr (by omega)) _); have L9 := (show L4 W9 V1.heap.size 28 (.int .u64 (z0 : Nat)) (.int .u64 (z1 : Nat)) (.int .u64 (z2 : Nat)) (.int .u64 (z3 : Nat)) from hW ▸ L8.out.setRow_other (by omega) _); have C9 := (show RW W9 V2.heap.size 36 [c0, c1, c2, c3, c4, c5, c6, c7, c8] from hW ▸ C8.out.setRow _); obtain ⟨_, _, _, _, _, _, _, _, _, _⟩ := L9.all; obtain ⟨_, _, _, _, _, _, _, _, _, _, _, _, _, _, _, _, _, _, _, _⟩ := C9.all; have HL9 := hid (p := _) L9; have HC9' := hid (p := _) C9; clear hW L9 C9 F8 L8 C8) | (go_at_call 12; with_reducible refine (HN5.out _).mono ?_; rintro e V10 ⟨rfl, hF⟩; have F10 := hid (p := _) (F9.out.trans0 hF); have L10 := hid (p := _) (HL9.out.fr hF); have C10 := hid (p := _) (HC9'.out.fr hF); clear hF))
                  go_roundg (n - (i + 1))
                  case measure => omega
                  case rel =>
                    exact ⟨i + 1, by omega, rfl, by go_num, hid ⟨F10.out, by rw [HX'.out]; exact (LE.iff HZ4.out).2 L10.out, by rw [HX'.out, HC9.out]; exact C10.out⟩⟩
              · as_aux_lemma =>
                  have N1 := fun W (h : PV W) => KN.out tx ht W
                  obtain rfl := hny0 ht
                  have zn9 : nd 0 = .agg #[.int .u64 0, .int .u64 0, .int .u64 0, .int .u64 0, .int .u64 0, .int .u64 0, .int .u64 0, .int .u64 0, .int .u64 0] := rfl
                  have N3 := fun W (h : PV W) => KM.out x x xP xP W h
                  have N4 := fun W => KRM.out x x xP xP W
                  have hz : x * x % Nt.P = x' := by rw [HNX.out]; unfold nx; rw [if_neg hd1, if_neg hd2, if_pos hd]
                  rw [hz] at N3 N4
                  have zP : x' < Nt.P := by rw [← hz]; exact Nat.mod_lt _ P_pos
                  have N5 := fun W => KI.out x' zP W
                  obtain ⟨z0, z1, z2, z3, -, -, -, -, -, wz⟩ := wd_open x' (lt4 zP)
                  obtain ⟨c0, c1, c2, c3, c4, c5, c6, c7, c8, ec, wc1⟩ := nd_open x'
                  rw [← wd_0] at N1
                  rw [wx, wz] at N3
                  rw [wa, wc1] at N4
                  rw [wz, wc1] at N5
                  have HN1 := hid (p := _) N1
                  have HN3 := hid (p := _) N3
                  have HN4 := hid (p := _) N4
                  have HN5 := hid (p := _) N5
                  have HZ4 := hid (p := _) wz
                  have HC9 := hid (p := _) ec
                  have hdi : (dx : Int) = 3 := by omega
                  have h7i : ¬ (i : Int) % 7 = 6 := by omega
                  have h7b : ((i : Int) % 7 == 6) = false := beq_eq_false_iff_ne.2 h7i
                  clear N1 N3 N4 N5 hz zP wz wc1 ec hny hny0 wx wa ea xP yP zn9 HNX
                  go_wp2_with (first | (go_at_call 9; with_reducible refine (HN1.out _ (hP2.out.fr KF.out)).mono ?_; rintro e V3 ⟨rfl, hF⟩; have F3 := hid (p := _) (KF.out.trans0 hF); have L3 := hid (p := _) (KL.out.fr hF); have C3 := hid (p := _) (KC.out.fr hF); have st := HST.out.fr F3.out; have e0 := st.c0; have e1 := st.c1; clear st; obtain ⟨_, _, _, _, _, _, _, _, _, _⟩ := L3.out.all; obtain ⟨_, _, _, _, _, _, _, _, _, _, _, _, _, _, _, _, _, _, _, _⟩ := C3.out.all; have lt3 := C3.out.lt; have lbl : lb < V3.heap.size := World.block_lt_of_cell? V3 _ e1; have lbn : lb ≠ V3.heap.size := (by omega); have lbm : lb ≠ V3.heap.size + 1 := (by omega); clear hF HN1) | (go_at_call 22; with_reducible refine (HN3.out _ (hP2.out.fr ((F3.out.alloc _).alloc _))).mono ?_; rintro e V6 ⟨rfl, hF⟩; have F6 := hid (p := _) (((F3.out.alloc _).alloc _).trans0 hF); have L6 := hid (p := _) (((L3.out.alloc _).alloc _).fr hF); have C6 := hid (p := _) (((C3.out.alloc _).alloc _).fr hF); have D6 := hid (p := _) ((RW.ofz (t := 36) (heap_new1 V3 _ _)).fr hF); clear hF HN3) | (refine wpList_store_28 rfl (.tmp 5) (.tmp 82) rfl V1.heap.size 28 _ _ _ _ z0 z1 z2 z3 rfl rfl L6.out ?_; intro W7 hW; have F7 := hid (p := _) (show Fr [] w W7 from hW ▸ F6.out.setRow (.inr hs1) _); have L7 := hid (p := _) (show L4 W7 V1.heap.size 28 (.int .u64 (z0 : Nat)) (.int .u64 (z1 : Nat)) (.int .u64 (z2 : Nat)) (.int .u64 (z3 : Nat)) from hW ▸ L6.out.setRow _ _ _ _); have C7 := (show RW W7 V2.heap.size 36 [a0, a1, a2, a3, a4, a5, a6, a7, a8] from hW ▸ C6.out.setRow_other (by omega) _); have D7 := (show RW W7 (V3.heap.size + 1) 36 [0, 0, 0, 0, 0, 0, 0, 0, 0] from hW ▸ D6.out.setRow_other (by omega) _); obtain ⟨_, _, _, _, _, _, _, _, _, _, _, _, _, _, _, _, _, _, _, _⟩ := C7.all; obtain ⟨_, _, _, _, _, _, _, _, _, _, _, _, _, _, _, _, _, _, _, _⟩ := D7.all; have HC7 := hid (p := _) C7; clear hW C7 D7 F6 L6 C6 D6) | (go_at_call 23; with_reducible refine (HN4.out _).mono ?_; rintro e V8 ⟨rfl, hF⟩; have F8 := hid (p := _) (F7.out.trans0 hF); have L8 := hid (p := _) (L7.out.fr hF); have C8 := hid (p := _) (HC7.out.fr hF); clear hF HN4) | (refine wpList_store_36 rfl (.tmp 7) (.tmp 85) rfl V2.heap.size [a0, a1, a2, a3, a4, a5, a6, a7, a8] [c0, c1, c2, c3, c4, c5, c6, c7, c8] 36 rfl rfl rfl rfl C8.out ?_; intro W9 hW; have F9 := hid (p := _) (show Fr [] w W9 from hW ▸ F8.out.setRow (.inr (by omega)) _); have L9 := (show L4 W9 V1.heap.size 28 (.int .u64 (z0 : Nat)) (.int .u64 (z1 : Nat)) (.int .u64 (z2 : Nat)) (.int .u64 (z3 : Nat)) from hW ▸ L8.out.setRow_other (by omega) _); have C9 := (show RW W9 V2.heap.size 36 [c0, c1, c2, c3, c4, c5, c6, c7, c8] from hW ▸ C8.out.setRow _); obtain ⟨_, _, _, _, _, _, _, _, _, _⟩ := L9.all; obtain ⟨_, _, _, _, _, _, _, _, _, _, _, _, _, _, _, _, _, _, _, _⟩ := C9.all; have HL9 := hid (p := _) L9; have HC9' := hid (p := _) C9; clear hW L9 C9 F8 L8 C8))
                  go_roundg (n - (i + 1))
                  case measure => omega
                  case rel =>
                    exact ⟨i + 1, by omega, rfl, by go_num, hid ⟨F9.out, by rw [HX'.out]; exact (LE.iff HZ4.out).2 HL9.out, by rw [HX'.out, HC9.out]; exact HC9'.out⟩⟩
            · by_cases hd4 : dx = 4
              · have hd := hd4
                by_cases h7 : i % 7 = 6
                · as_aux_lemma =>
                    have N1 := fun W (h : PV W) => KN.out tx ht W
                    obtain rfl := hny0 ht
                    have zn9 : nd 0 = .agg #[.int .u64 0, .int .u64 0, .int .u64 0, .int .u64 0, .int .u64 0, .int .u64 0, .int .u64 0, .int .u64 0, .int .u64 0] := rfl
                    have N3 := fun W (h : PV W) => KA.out x x xP xP W h
                    have N4 := fun W => KRA.out x x xP xP W
                    have hz : (x + x) % Nt.P = x' := by rw [HNX.out]; unfold nx; rw [if_neg hd1, if_neg hd2, if_neg hd3, if_pos hd]
                    rw [hz] at N3 N4
                    have zP : x' < Nt.P := by rw [← hz]; exact Nat.mod_lt _ P_pos
                    have N5 := fun W => KI.out x' zP W
                    obtain ⟨z0, z1, z2, z3, -, -, -, -, -, wz⟩ := wd_open x' (lt4 zP)
                    obtain ⟨c0, c1, c2, c3, c4, c5, c6, c7, c8, ec, wc1⟩ := nd_open x'
                    rw [← wd_0] at N1
                    rw [wx, wz] at N3
                    rw [wa, wc1] at N4
                    rw [wz, wc1] at N5
                    have HN1 := hid (p := _) N1
                    have HN3 := hid (p := _) N3
                    have HN4 := hid (p := _) N4
                    have HN5 := hid (p := _) N5
                    have HZ4 := hid (p := _) wz
                    have HC9 := hid (p := _) ec
                    have hdi : (dx : Int) = 4 := by omega
                    have h7i : (i : Int) % 7 = 6 := by omega
                    clear N1 N3 N4 N5 hz zP wz wc1 ec hny hny0 wx wa ea xP yP zn9 HNX
                    go_wp2_with (first | (go_at_call 9; with_reducible refine (HN1.out _ (hP2.out.fr KF.out)).mono ?_; rintro e V3 ⟨rfl, hF⟩; have F3 := hid (p := _) (KF.out.trans0 hF); have L3 := hid (p := _) (KL.out.fr hF); have C3 := hid (p := _) (KC.out.fr hF); have st := HST.out.fr F3.out; have e0 := st.c0; have e1 := st.c1; clear st; obtain ⟨_, _, _, _, _, _, _, _, _, _⟩ := L3.out.all; obtain ⟨_, _, _, _, _, _, _, _, _, _, _, _, _, _, _, _, _, _, _, _⟩ := C3.out.all; have lt3 := C3.out.lt; have lbl : lb < V3.heap.size := World.block_lt_of_cell? V3 _ e1; have lbn : lb ≠ V3.heap.size := (by omega); have lbm : lb ≠ V3.heap.size + 1 := (by omega); clear hF HN1) | (go_at_call 18; with_reducible refine (HN3.out _ (hP2.out.fr ((F3.out.alloc _).alloc _))).mono ?_; rintro e V6 ⟨rfl, hF⟩; have F6 := hid (p := _) (((F3.out.alloc _).alloc _).trans0 hF); have L6 := hid (p := _) (((L3.out.alloc _).alloc _).fr hF); have C6 := hid (p := _) (((C3.out.alloc _).alloc _).fr hF); have D6 := hid (p := _) ((RW.ofz (t := 36) (heap_new1 V3 _ _)).fr hF); clear hF HN3) | (refine wpList_store_28 rfl (.tmp 5) (.tmp 90) rfl V1.heap.size 28 _ _ _ _ z0 z1 z2 z3 rfl rfl L6.out ?_; intro W7 hW; have F7 := hid (p := _) (show Fr [] w W7 from hW ▸ F6.out.setRow (.inr hs1) _); have L7 := hid (p := _) (show L4 W7 V1.heap.size 28 (.int .u64 (z0 : Nat)) (.int .u64 (z1 : Nat)) (.int .u64 (z2 : Nat)) (.int .u64 (z3 : Nat)) from hW ▸ L6.out.setRow _ _ _ _); have C7 := (show RW W7 V2.heap.size 36 [a0, a1, a2, a3, a4, a5, a6, a7, a8] from hW ▸ C6.out.setRow_other (by omega) _); have D7 := (show RW W7 (V3.heap.size + 1) 36 [0, 0, 0, 0, 0, 0, 0, 0, 0] from hW ▸ D6.out.setRow_other (by omega) _); obtain ⟨_, _, _, _, _, _, _, _, _, _, _, _, _, _, _, _, _, _, _, _⟩ := C7.all; obtain ⟨_, _, _, _, _, _, _, _, _, _, _, _, _, _, _, _, _, _, _, _⟩ := D7.all; have HC7 := hid (p := _) C7; clear hW C7 D7 F6 L6 C6 D6) | (go_at_call 19; with_reducible refine (HN4.out _).mono ?_; rintro e V8 ⟨rfl, hF⟩; have F8 := hid (p := _) (F7.out.trans0 hF); have L8 := hid (p := _) (L7.out.fr hF); have C8 := hid (p := _) (HC7.out.fr hF); clear hF HN4) | (refine wpList_store_36 rfl (.tmp 7) (.tmp 93) rfl V2.heap.size [a0, a1, a2, a3, a4, a5, a6, a7, a8] [c0, c1, c2, c3, c4, c5, c6, c7, c8] 36 rfl rfl rfl rfl C8.out ?_; intro W9 hW; have F9 := hid (p := _) (show Fr [] w W9 from hW ▸ F8.out.setRow (.inr (by omega)) _); have L9 := (show L4 W9 V1.heap.size 28 (.int .u64 (z0 : Nat)) (.int .u64 (z1 : Nat)) (.int .u64 (z2 : Nat)) (.int .u64 (z3 : Nat)) from hW ▸ L8.out.setRow_other (by omega) _); have C9 := (show RW W9 V2.heap.size 36 [c0, c1, c2, c3, c4, c5, c6, c7, c8] from hW ▸ C8.out.setRow _); obtain ⟨_, _, _, _, _, _, _, _, _, _⟩ := L9.all; obtain ⟨_, _, _, _, _, _, _, _, _, _, _, _, _, _, _, _, _, _, _, _⟩ := C9.all; have HL9 := hid (p := _) L9; have HC9' := hid (p := _) C9; clear hW L9 C9 F8 L8 C8) | (go_at_call 12; with_reducible refine (HN5.out _).mono ?_; rintro e V10 ⟨rfl, hF⟩; have F10 := hid (p := _) (F9.out.trans0 hF); have L10 := hid (p := _) (HL9.out.fr hF); have C10 := hid (p := _) (HC9'.out.fr hF); clear hF))
                    go_roundg (n - (i + 1))
                    case measure => omega
                    case rel =>
                      exact ⟨i + 1, by omega, rfl, by go_num, hid ⟨F10.out, by rw [HX'.out]; exact (LE.iff HZ4.out).2 L10.out, by rw [HX'.out, HC9.out]; exact C10.out⟩⟩
                · as_aux_lemma =>
                    have N1 := fun W (h : PV W) => KN.out tx ht W
                    obtain rfl := hny0 ht
                    have zn9 : nd 0 = .agg #[.int .u64 0, .int .u64 0, .int .u64 0, .int .u64 0, .int .u64 0, .int .u64 0, .int .u64 0, .int .u64 0, .int .u64 0] := rfl
                    have N3 := fun W (h : PV W) => KA.out x x xP xP W h
                    have N4 := fun W => KRA.out x x xP xP W
                    have hz : (x + x) % Nt.P = x' := by rw [HNX.out]; unfold nx; rw [if_neg hd1, if_neg hd2, if_neg hd3, if_pos hd]
                    rw [hz] at N3 N4
                    have zP : x' < Nt.P := by rw [← hz]; exact Nat.mod_lt _ P_pos
                    have N5 := fun W => KI.out x' zP W
                    obtain ⟨z0, z1, z2, z3, -, -, -, -, -, wz⟩ := wd_open x' (lt4 zP)
                    obtain ⟨c0, c1, c2, c3, c4, c5, c6, c7, c8, ec, wc1⟩ := nd_open x'
                    rw [← wd_0] at N1
                    rw [wx, wz] at N3
                    rw [wa, wc1] at N4
                    rw [wz, wc1] at N5
                    have HN1 := hid (p := _) N1
                    have HN3 := hid (p := _) N3
                    have HN4 := hid (p := _) N4
                    have HN5 := hid (p := _) N5
                    have HZ4 := hid (p := _) wz
                    have HC9 := hid (p := _) ec
                    have hdi : (dx : Int) = 4 := by omega
                    have h7i : ¬ (i : Int) % 7 = 6 := by omega
                    have h7b : ((i : Int) % 7 == 6) = false := beq_eq_false_iff_ne.2 h7i
                    clear N1 N3 N4 N5 hz zP wz wc1 ec hny hny0 wx wa ea xP yP zn9 HNX
                    go_wp2_with (first | (go_at_call 9; with_reducible refine (HN1.out _ (hP2.out.fr KF.out)).mono ?_; rintro e V3 ⟨rfl, hF⟩; have F3 := hid (p := _) (KF.out.trans0 hF); have L3 := hid (p := _) (KL.out.fr hF); have C3 := hid (p := _) (KC.out.fr hF); have st := HST.out.fr F3.out; have e0 := st.c0; have e1 := st.c1; clear st; obtain ⟨_, _, _, _, _, _, _, _, _, _⟩ := L3.out.all; obtain ⟨_, _, _, _, _, _, _, _, _, _, _, _, _, _, _, _, _, _, _, _⟩ := C3.out.all; have lt3 := C3.out.lt; have lbl : lb < V3.heap.size := World.block_lt_of_cell? V3 _ e1; have lbn : lb ≠ V3.heap.size := (by omega); have lbm : lb ≠ V3.heap.size + 1 := (by omega); clear hF HN1) | (go_at_call 18; with_reducible refine (HN3.out _ (hP2.out.fr ((F3.out.alloc _).alloc _))).mono ?_; rintro e V6 ⟨rfl, hF⟩; have F6 := hid (p := _) (((F3.out.alloc _).alloc _).trans0 hF); have L6 := hid (p := _) (((L3.out.alloc _).alloc _).fr hF); have C6 := hid (p := _) (((C3.out.alloc _).alloc _).fr hF); have D6 := hid (p := _) ((RW.ofz (t := 36) (heap_new1 V3 _ _)).fr hF); clear hF HN3) | (refine wpList_store_28 rfl (.tmp 5) (.tmp 90) rfl V1.heap.size 28 _ _ _ _ z0 z1 z2 z3 rfl rfl L6.out ?_; intro W7 hW; have F7 := hid (p := _) (show Fr [] w W7 from hW ▸ F6.out.setRow (.inr hs1) _); have L7 := hid (p := _) (show L4 W7 V1.heap.size 28 (.int .u64 (z0 : Nat)) (.int .u64 (z1 : Nat)) (.int .u64 (z2 : Nat)) (.int .u64 (z3 : Nat)) from hW ▸ L6.out.setRow _ _ _ _); have C7 := (show RW W7 V2.heap.size 36 [a0, a1, a2, a3, a4, a5, a6, a7, a8] from hW ▸ C6.out.setRow_other (by omega) _); have D7 := (show RW W7 (V3.heap.size + 1) 36 [0, 0, 0, 0, 0, 0, 0, 0, 0] from hW ▸ D6.out.setRow_other (by omega) _); obtain ⟨_, _, _, _, _, _, _, _, _, _, _, _, _, _, _, _, _, _, _, _⟩ := C7.all; obtain ⟨_, _, _, _, _, _, _, _, _, _, _, _, _, _, _, _, _, _, _, _⟩ := D7.all; have HC7 := hid (p := _) C7; clear hW C7 D7 F6 L6 C6 D6) | (go_at_call 19; with_reducible refine (HN4.out _).mono ?_; rintro e V8 ⟨rfl, hF⟩; have F8 := hid (p := _) (F7.out.trans0 hF); have L8 := hid (p := _) (L7.out.fr hF); have C8 := hid (p := _) (HC7.out.fr hF); clear hF HN4) | (refine wpList_store_36 rfl (.tmp 7) (.tmp 93) rfl V2.heap.size [a0, a1, a2, a3, a4, a5, a6, a7, a8] [c0, c1, c2, c3, c4, c5, c6, c7, c8] 36 rfl rfl rfl rfl C8.out ?_; intro W9 hW; have F9 := hid (p := _) (show Fr [] w W9 from hW ▸ F8.out.setRow (.inr (by omega)) _); have L9 := (show L4 W9 V1.heap.size 28 (.int .u64 (z0 : Nat)) (.int .u64 (z1 : Nat)) (.int .u64 (z2 : Nat)) (.int .u64 (z3 : Nat)) from hW ▸ L8.out.setRow_other (by omega) _); have C9 := (show RW W9 V2.heap.size 36 [c0, c1, c2, c3, c4, c5, c6, c7, c8] from hW ▸ C8.out.setRow _); obtain ⟨_, _, _, _, _, _, _, _, _, _⟩ := L9.all; obtain ⟨_, _, _, _, _, _, _, _, _, _, _, _, _, _, _, _, _, _, _, _⟩ := C9.all; have HL9 := hid (p := _) L9; have HC9' := hid (p := _) C9; clear hW L9 C9 F8 L8 C8))
                    go_roundg (n - (i + 1))
                    case measure => omega
                    case rel =>
                      exact ⟨i + 1, by omega, rfl, by go_num, hid ⟨F9.out, by rw [HX'.out]; exact (LE.iff HZ4.out).2 HL9.out, by rw [HX'.out, HC9.out]; exact HC9'.out⟩⟩
              · by_cases h7 : i % 7 = 6
                · as_aux_lemma =>
                    have N1 := fun W (h : PV W) => KN.out tx ht W
                    obtain rfl := hny0 ht
                    have zn9 : nd 0 = .agg #[.int .u64 0, .int .u64 0, .int .u64 0, .int .u64 0, .int .u64 0, .int .u64 0, .int .u64 0, .int .u64 0, .int .u64 0] := rfl
                    have N3 := fun W (h : PV W) => KA.out x 0 xP yP W h
                    have N4 := fun W => KRA.out x 0 xP yP W
                    have hz : (x + 0) % Nt.P = x' := by rw [HNX.out]; unfold nx; rw [if_neg hd1, if_neg hd2, if_neg hd3, if_neg hd4]
                    rw [hz] at N3 N4
                    have zP : x' < Nt.P := by rw [← hz]; exact Nat.mod_lt _ P_pos
                    have N5 := fun W => KI.out x' zP W
                    obtain ⟨z0, z1, z2, z3, -, -, -, -, -, wz⟩ := wd_open x' (lt4 zP)
                    obtain ⟨c0, c1, c2, c3, c4, c5, c6, c7, c8, ec, wc1⟩ := nd_open x'
                    rw [← wd_0] at N1
                    rw [wx, ← wd_0, wz] at N3
                    rw [wa, zn9, wc1] at N4
                    rw [wz, wc1] at N5
                    have HN1 := hid (p := _) N1
                    have HN3 := hid (p := _) N3
                    have HN4 := hid (p := _) N4
                    have HN5 := hid (p := _) N5
                    have HZ4 := hid (p := _) wz
                    have HC9 := hid (p := _) ec
                    have hdi1 : ¬ (dx : Int) = 1 := by omega
                    have hdi2 : ¬ (dx : Int) = 2 := by omega
                    have hdi3 : ¬ (dx : Int) = 3 := by omega
                    have hdi4 : ¬ (dx : Int) = 4 := by omega
                    have hdb1 : ((dx : Int) == 1) = false := beq_eq_false_iff_ne.2 hdi1
                    have hdb2 : ((dx : Int) == 2) = false := beq_eq_false_iff_ne.2 hdi2
                    have hdb3 : ((dx : Int) == 3) = false := beq_eq_false_iff_ne.2 hdi3
                    have hdb4 : ((dx : Int) == 4) = false := beq_eq_false_iff_ne.2 hdi4
                    have h7i : (i : Int) % 7 = 6 := by omega
                    clear N1 N3 N4 N5 hz zP wz wc1 ec hny hny0 wx wa ea xP yP zn9 HNX
                    go_wp2_with (first | (go_at_call 9; with_reducible refine (HN1.out _ (hP2.out.fr KF.out)).mono ?_; rintro e V3 ⟨rfl, hF⟩; have F3 := hid (p := _) (KF.out.trans0 hF); have L3 := hid (p := _) (KL.out.fr hF); have C3 := hid (p := _) (KC.out.fr hF); have st := HST.out.fr F3.out; have e0 := st.c0; have e1 := st.c1; clear st; obtain ⟨_, _, _, _, _, _, _, _, _, _⟩ := L3.out.all; obtain ⟨_, _, _, _, _, _, _, _, _, _, _, _, _, _, _, _, _, _, _, _⟩ := C3.out.all; have lt3 := C3.out.lt; have lbl : lb < V3.heap.size := World.block_lt_of_cell? V3 _ e1; have lbn : lb ≠ V3.heap.size := (by omega); have lbm : lb ≠ V3.heap.size + 1 := (by omega); clear hF HN1) | (go_at_call 18; with_reducible refine (HN3.out _ (hP2.out.fr ((F3.out.alloc _).alloc _))).mono ?_; rintro e V6 ⟨rfl, hF⟩; have F6 := hid (p := _) (((F3.out.alloc _).alloc _).trans0 hF); have L6 := hid (p := _) (((L3.out.alloc _).alloc _).fr hF); have C6 := hid (p := _) (((C3.out.alloc _).alloc _).fr hF); have D6 := hid (p := _) ((RW.ofz (t := 36) (heap_new1 V3 _ _)).fr hF); clear hF HN3) | (refine wpList_store_28 rfl (.tmp 5) (.tmp 58) rfl V1.heap.size 28 _ _ _ _ z0 z1 z2 z3 rfl rfl L6.out ?_; intro W7 hW; have F7 := hid (p := _) (show Fr [] w W7 from hW ▸ F6.out.setRow (.inr hs1) _); have L7 := hid (p := _) (show L4 W7 V1.heap.size 28 (.int .u64 (z0 : Nat)) (.int .u64 (z1 : Nat)) (.int .u64 (z2 : Nat)) (.int .u64 (z3 : Nat)) from hW ▸ L6.out.setRow _ _ _ _); have C7 := (show RW W7 V2.heap.size 36 [a0, a1, a2, a3, a4, a5, a6, a7, a8] from hW ▸ C6.out.setRow_other (by omega) _); have D7 := (show RW W7 (V3.heap.size + 1) 36 [0, 0, 0, 0, 0, 0, 0, 0, 0] from hW ▸ D6.out.setRow_other (by omega) _); obtain ⟨_, _, _, _, _, _, _, _, _, _, _, _, _, _, _, _, _, _, _, _⟩ := C7.all; obtain ⟨_, _, _, _, _, _, _, _, _, _, _, _, _, _, _, _, _, _, _, _⟩ := D7.all; have HC7 := hid (p := _) C7; clear hW C7 D7 F6 L6 C6 D6) | (go_at_call 19; with_reducible refine (HN4.out _).mono ?_; rintro e V8 ⟨rfl, hF⟩; have F8 := hid (p := _) (F7.out.trans0 hF); have L8 := hid (p := _) (L7.out.fr hF); have C8 := hid (p := _) (HC7.out.fr hF); clear hF HN4) | (refine wpList_store_36 rfl (.tmp 7) (.tmp 61) rfl V2.heap.size [a0, a1, a2, a3, a4, a5, a6, a7, a8] [c0, c1, c2, c3, c4, c5, c6, c7, c8] 36 rfl rfl rfl rfl C8.out ?_; intro W9 hW; have F9 := hid (p := _) (show Fr [] w W9 from hW ▸ F8.out.setRow (.inr (by omega)) _); have L9 := (show L4 W9 V1.heap.size 28 (.int .u64 (z0 : Nat)) (.int .u64 (z1 : Nat)) (.int .u64 (z2 : Nat)) (.int .u64 (z3 : Nat)) from hW ▸ L8.out.setRow_other (by omega) _); have C9 := (show RW W9 V2.heap.size 36 [c0, c1, c2, c3, c4, c5, c6, c7, c8] from hW ▸ C8.out.setRow _); obtain ⟨_, _, _, _, _, _, _, _, _, _⟩ := L9.all; obtain ⟨_, _, _, _, _, _, _, _, _, _, _, _, _, _, _, _, _, _, _, _⟩ := C9.all; have HL9 := hid (p := _) L9; have HC9' := hid (p := _) C9; clear hW L9 C9 F8 L8 C8) | (go_at_call 12; with_reducible refine (HN5.out _).mono ?_; rintro e V10 ⟨rfl, hF⟩; have F10 := hid (p := _) (F9.out.trans0 hF); have L10 := hid (p := _) (HL9.out.fr hF); have C10 := hid (p := _) (HC9'.out.fr hF); clear hF))
                    go_roundg (n - (i + 1))
                    case measure => omega
                    case rel =>
                      exact ⟨i + 1, by omega, rfl, by go_num, hid ⟨F10.out, by rw [HX'.out]; exact (LE.iff HZ4.out).2 L10.out, by rw [HX'.out, HC9.out]; exact C10.out⟩⟩
                · as_aux_lemma =>
                    have N1 := fun W (h : PV W) => KN.out tx ht W
                    obtain rfl := hny0 ht
                    have zn9 : nd 0 = .agg #[.int .u64 0, .int .u64 0, .int .u64 0, .int .u64 0, .int .u64 0, .int .u64 0, .int .u64 0, .int .u64 0, .int .u64 0] := rfl
                    have N3 := fun W (h : PV W) => KA.out x 0 xP yP W h
                    have N4 := fun W => KRA.out x 0 xP yP W
                    have hz : (x + 0) % Nt.P = x' := by rw [HNX.out]; unfold nx; rw [if_neg hd1, if_neg hd2, if_neg hd3, if_neg hd4]
                    rw [hz] at N3 N4
                    have zP : x' < Nt.P := by rw [← hz]; exact Nat.mod_lt _ P_pos
                    have N5 := fun W => KI.out x' zP W
                    obtain ⟨z0, z1, z2, z3, -, -, -, -, -, wz⟩ := wd_open x' (lt4 zP)
                    obtain ⟨c0, c1, c2, c3, c4, c5, c6, c7, c8, ec, wc1⟩ := nd_open x'
                    rw [← wd_0] at N1
                    rw [wx, ← wd_0, wz] at N3
                    rw [wa, zn9, wc1] at N4
                    rw [wz, wc1] at N5
                    have HN1 := hid (p := _) N1
                    have HN3 := hid (p := _) N3
                    have HN4 := hid (p := _) N4
                    have HN5 := hid (p := _) N5
                    have HZ4 := hid (p := _) wz
                    have HC9 := hid (p := _) ec
                    have hdi1 : ¬ (dx : Int) = 1 := by omega
                    have hdi2 : ¬ (dx : Int) = 2 := by omega
                    have hdi3 : ¬ (dx : Int) = 3 := by omega
                    have hdi4 : ¬ (dx : Int) = 4 := by omega
                    have hdb1 : ((dx : Int) == 1) = false := beq_eq_false_iff_ne.2 hdi1
                    have hdb2 : ((dx : Int) == 2) = false := beq_eq_false_iff_ne.2 hdi2
                    have hdb3 : ((dx : Int) == 3) = false := beq_eq_false_iff_ne.2 hdi3
                    have hdb4 : ((dx : Int) == 4) = false := beq_eq_false_iff_ne.2 hdi4
                    have h7i : ¬ (i : Int) % 7 = 6 := by omega
                    have h7b : ((i : Int) % 7 == 6) = false := beq_eq_false_iff_ne.2 h7i
                    clear N1 N3 N4 N5 hz zP wz wc1 ec hny hny0 wx wa ea xP yP zn9 HNX
                    go_wp2_with (first | (go_at_call 9; with_reducible refine (HN1.out _ (hP2.out.fr KF.out)).mono ?_; rintro e V3 ⟨rfl, hF⟩; have F3 := hid (p := _) (KF.out.trans0 hF); have L3 := hid (p := _) (KL.out.fr hF); have C3 := hid (p := _) (KC.out.fr hF); have st := HST.out.fr F3.out; have e0 := st.c0; have e1 := st.c1; clear st; obtain ⟨_, _, _, _, _, _, _, _, _, _⟩ := L3.out.all; obtain ⟨_, _, _, _, _, _, _, _, _, _, _, _, _, _, _, _, _, _, _, _⟩ := C3.out.all; have lt3 := C3.out.lt; have lbl : lb < V3.heap.size := World.block_lt_of_cell? V3 _ e1; have lbn : lb ≠ V3.heap.size := (by omega); have lbm : lb ≠ V3.heap.size + 1 := (by omega); clear hF HN1) | (go_at_call 18; with_reducible refine (HN3.out _ (hP2.out.fr ((F3.out.alloc _).alloc _))).mono ?_; rintro e V6 ⟨rfl, hF⟩; have F6 := hid (p := _) (((F3.out.alloc _).alloc _).trans0 hF); have L6 := hid (p := _) (((L3.out.alloc _).alloc _).fr hF); have C6 := hid (p := _) (((C3.out.alloc _).alloc _).fr hF); have D6 := hid (p := _) ((RW.ofz (t := 36) (heap_new1 V3 _ _)).fr hF); clear hF HN3) | (refine wpList_store_28 rfl (.tmp 5) (.tmp 58) rfl V1.heap.size 28 _ _ _ _ z0 z1 z2 z3 rfl rfl L6.out ?_; intro W7 hW; have F7 := hid (p := _) (show Fr [] w W7 from hW ▸ F6.out.setRow (.inr hs1) _); have L7 := hid (p := _) (show L4 W7 V1.heap.size 28 (.int .u64 (z0 : Nat)) (.int .u64 (z1 : Nat)) (.int .u64 (z2 : Nat)) (.int .u64 (z3 : Nat)) from hW ▸ L6.out.setRow _ _ _ _); have C7 := (show RW W7 V2.heap.size 36 [a0, a1, a2, a3, a4, a5, a6, a7, a8] from hW ▸ C6.out.setRow_other (by omega) _); have D7 := (show RW W7 (V3.heap.size + 1) 36 [0, 0, 0, 0, 0, 0, 0, 0, 0] from hW ▸ D6.out.setRow_other (by omega) _); obtain ⟨_, _, _, _, _, _, _, _, _, _, _, _, _, _, _, _, _, _, _, _⟩ := C7.all; obtain ⟨_, _, _, _, _, _, _, _, _, _, _, _, _, _, _, _, _, _, _, _⟩ := D7.all; have HC7 := hid (p := _) C7; clear hW C7 D7 F6 L6 C6 D6) | (go_at_call 19; with_reducible refine (HN4.out _).mono ?_; rintro e V8 ⟨rfl, hF⟩; have F8 := hid (p := _) (F7.out.trans0 hF); have L8 := hid (p := _) (L7.out.fr hF); have C8 := hid (p := _) (HC7.out.fr hF); clear hF HN4) | (refine wpList_store_36 rfl (.tmp 7) (.tmp 61) rfl V2.heap.size [a0, a1, a2, a3, a4, a5, a6, a7, a8] [c0, c1, c2, c3, c4, c5, c6, c7, c8] 36 rfl rfl rfl rfl C8.out ?_; intro W9 hW; have F9 := hid (p := _) (show Fr [] w W9 from hW ▸ F8.out.setRow (.inr (by omega)) _); have L9 := (show L4 W9 V1.heap.size 28 (.int .u64 (z0 : Nat)) (.int .u64 (z1 : Nat)) (.int .u64 (z2 : Nat)) (.int .u64 (z3 : Nat)) from hW ▸ L8.out.setRow_other (by omega) _); have C9 := (show RW W9 V2.heap.size 36 [c0, c1, c2, c3, c4, c5, c6, c7, c8] from hW ▸ C8.out.setRow _); obtain ⟨_, _, _, _, _, _, _, _, _, _⟩ := L9.all; obtain ⟨_, _, _, _, _, _, _, _, _, _, _, _, _, _, _, _, _, _, _, _⟩ := C9.all; have HL9 := hid (p := _) L9; have HC9' := hid (p := _) C9; clear hW L9 C9 F8 L8 C8))
                    go_roundg (n - (i + 1))
                    case measure => omega
                    case rel =>
                      exact ⟨i + 1, by omega, rfl, by go_num, hid ⟨F9.out, by rw [HX'.out]; exact (LE.iff HZ4.out).2 HL9.out, by rw [HX'.out, HC9.out]; exact HC9'.out⟩⟩
    · obtain rfl : i = n := by omega
      have hlt' : ¬ (i : Int) < (i : Int) := by omega
      generalize rw' x0' D T i = x at *
      have N1 := fun W => KI.out x xP W
      obtain ⟨x0, x1, x2, x3, -, -, -, -, -, wx⟩ := wd_open x (lt4 xP)
      obtain ⟨a0, a1, a2, a3, a4, a5, a6, a7, a8, ea, wa⟩ := nd_open x
      rw [wx, wa] at N1
      have HN1 := hid (p := _) N1
      have L := (LE.iff wx).1 K.out.2.1
      have C := K.out.2.2
      rw [ea] at C
      obtain ⟨_, _, _, _, _, _, _, _, _, _⟩ := L.all
      obtain ⟨_, _, _, _, _, _, _, _, _, _, _, _, _, _, _, _, _, _, _, _⟩ := C.all
      have KF := hid (p := _) K.out.1
      clear K L C N1 wx wa ea
      go_wp2_with (first | (go_at_call 12; with_reducible refine (HN1.out _).mono ?_; rintro e V3 ⟨rfl, hF⟩; have F3 := hid (p := _) (KF.out.trans0 hF); clear hF) | (go_at_call 8; with_reducible refine (Kv.out _ (hP2.out.fr F3.out)).mono ?_; rintro e V4 ⟨rfl, hF⟩; have F4 := hid (p := _) (F3.out.trans0 hF); clear hF))
      go_ret
      exact ⟨rfl, F4.out⟩

end Go.Proofs.YtjaocjnefopdfaaDoor
