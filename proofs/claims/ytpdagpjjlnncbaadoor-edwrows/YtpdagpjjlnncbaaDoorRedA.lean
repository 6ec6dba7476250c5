/-
  The document's numbers: reduce. No statement is proved here.
-/
import Derived.Test.YtpdagpjjlnncbaaDoorNumV
namespace Go.Proofs.YtpdagpjjlnncbaaDoor
open Go.RowKit Go.Lib Go.BigFrame
set_option linter.unusedVariables false
set_option linter.unusedSimpArgs false
set_option maxRecDepth 1000000
set_option maxHeartbeats 4000000

theorem RW.of19 {V : World} {b t x0 x1 x2 x3 x4 x5 x6 x7 x8 x9 x10 x11 x12 x13 x14 x15 x16 x17 x18 : Nat} (h : V.heap[b]? = some (.cells #[.int .u64 (x0 : Nat), .int .u64 (x1 : Nat), .int .u64 (x2 : Nat), .int .u64 (x3 : Nat), .int .u64 (x4 : Nat), .int .u64 (x5 : Nat), .int .u64 (x6 : Nat), .int .u64 (x7 : Nat), .int .u64 (x8 : Nat), .int .u64 (x9 : Nat), .int .u64 (x10 : Nat), .int .u64 (x11 : Nat), .int .u64 (x12 : Nat), .int .u64 (x13 : Nat), .int .u64 (x14 : Nat), .int .u64 (x15 : Nat), .int .u64 (x16 : Nat), .int .u64 (x17 : Nat), .int .u64 (x18 : Nat)] t)) : RW V b t [x0, x1, x2, x3, x4, x5, x6, x7, x8, x9, x10, x11, x12, x13, x14, x15, x16, x17, x18] := h
theorem open19 (t : List Nat) (h : t.length = 19) : ∃ x0 x1 x2 x3 x4 x5 x6 x7 x8 x9 x10 x11 x12 x13 x14 x15 x16 x17 x18 : Nat, t = [x0, x1, x2, x3, x4, x5, x6, x7, x8, x9, x10, x11, x12, x13, x14, x15, x16, x17, x18] ∧ Value.agg (wc t) = .agg #[.int .u64 (x0 : Nat), .int .u64 (x1 : Nat), .int .u64 (x2 : Nat), .int .u64 (x3 : Nat), .int .u64 (x4 : Nat), .int .u64 (x5 : Nat), .int .u64 (x6 : Nat), .int .u64 (x7 : Nat), .int .u64 (x8 : Nat), .int .u64 (x9 : Nat), .int .u64 (x10 : Nat), .int .u64 (x11 : Nat), .int .u64 (x12 : Nat), .int .u64 (x13 : Nat), .int .u64 (x14 : Nat), .int .u64 (x15 : Nat), .int .u64 (x16 : Nat), .int .u64 (x17 : Nat), .int .u64 (x18 : Nat)] := by
  obtain ⟨x0, x1, x2, x3, x4, x5, x6, x7, x8, x9, x10, x11, x12, x13, x14, x15, x16, x17, x18, rfl⟩ := list19 t h
  exact ⟨x0, x1, x2, x3, x4, x5, x6, x7, x8, x9, x10, x11, x12, x13, x14, x15, x16, x17, x18, rfl, rfl⟩
theorem getD_mem {t : List Nat} {i : Nat} (h : i < t.length) : t.getD i 0 ∈ t := by
  have e : t.getD i 0 = t[i] := by simp [h]
  rw [e]; exact List.getElem_mem h
theorem fe_small {t : List Nat} (hl : ∀ x ∈ t, x < 1073741824) (i : Nat) (h : i < 10) : fe t i i < 1073741824 ∧ fe t i (9 + i) < 1073741824 := by
  by_cases h9 : i < 9
  · rw [(fe_lo t i h9).1, (fe_lo t i h9).2]; exact ⟨getD_lt hl _, getD_lt hl _⟩
  · obtain rfl : i = 9 := by omega
    rw [(fe_hi t).1, show 9 + 9 = 18 from rfl, (fe_hi t).2]; exact ⟨by decide, getD_lt hl _⟩


/-- The row of the copying ahead of step i. -/
def cp9 (u : List Nat) (i : Nat) : List Nat := (List.range 9).map fun j => if j < i then u.getD j 0 else 0
theorem div_R {v : Nat} (h : v < 57896044618658097711785492504343953926634992332820282019728792003956564819968) : v / 2 ^ (30 * 9) = 0 := by
  generalize hk : 30 * 9 = k
  exact div_bigk (n := 255) h (by omega)
theorem div_less {v p : Nat} (hp : 0 < p) (h : p ≤ v) : (v - p) / p < v / p := by
  have := Nat.div_eq_sub_div hp h
  omega
theorem cp9_zero (u : List Nat) : cp9 u 0 = [0, 0, 0, 0, 0, 0, 0, 0, 0] := by simp [cp9]; rfl
theorem cp9_len (u : List Nat) (i : Nat) : (cp9 u i).length = 9 := by simp [cp9]
theorem cp9_step (u : List Nat) (i : Nat) (h : i < 9) : (cp9 u i).set i (u.getD i 0) = cp9 u (i + 1) := by
  apply List.ext_getElem
  · simp [cp9]
  · intro j h1 h2
    rw [List.getElem_set]
    split
    · rename_i e
      subst e
      simp [cp9]
    · rename_i e
      simp only [cp9, List.getElem_map, List.getElem_range]
      by_cases hji : j < i
      · rw [if_pos hji, if_pos (by omega)]
      · rw [if_neg hji, if_neg (by omega)]
theorem cp9_nine (u : List Nat) (v : Nat) (h : ∀ j, j < 9 → u.getD j 0 = dt v j) : cp9 u 9 = dts v := by
  unfold cp9 dts
  apply List.map_congr_left
  intro j hj
  rw [if_pos (by simpa using hj)]; exact h j (by simpa using hj)
theorem RW.set9 {V : World} {b t c0 c1 c2 c3 c4 c5 c6 c7 c8 : Nat} (h : RW V b t [c0, c1, c2, c3, c4, c5, c6, c7, c8]) (m0 m1 m2 m3 m4 m5 m6 m7 m8 : Nat) : RW (((((((((V.setCell ⟨b, 0, none⟩ (.int .u64 ((m0 : Nat) : Int))).setCell ⟨b, 1, none⟩ (.int .u64 ((m1 : Nat) : Int))).setCell ⟨b, 2, none⟩ (.int .u64 ((m2 : Nat) : Int))).setCell ⟨b, 3, none⟩ (.int .u64 ((m3 : Nat) : Int))).setCell ⟨b, 4, none⟩ (.int .u64 ((m4 : Nat) : Int))).setCell ⟨b, 5, none⟩ (.int .u64 ((m5 : Nat) : Int))).setCell ⟨b, 6, none⟩ (.int .u64 ((m6 : Nat) : Int))).setCell ⟨b, 7, none⟩ (.int .u64 ((m7 : Nat) : Int))).setCell ⟨b, 8, none⟩ (.int .u64 ((m8 : Nat) : Int))) b t [m0, m1, m2, m3, m4, m5, m6, m7, m8] :=
  ((((((((h.set 0 m0).set 1 m1).set 2 m2).set 3 m3).set 4 m4).set 5 m5).set 6 m6).set 7 m7).set 8 m8
theorem RW.other9 {V : World} {b t : Nat} {l : List Nat} (h : RW V b t l) {b' : Nat} (hne : b ≠ b') (u0 u1 u2 u3 u4 u5 u6 u7 u8 : Value) : RW (((((((((V.setCell ⟨b', 0, none⟩ u0).setCell ⟨b', 1, none⟩ u1).setCell ⟨b', 2, none⟩ u2).setCell ⟨b', 3, none⟩ u3).setCell ⟨b', 4, none⟩ u4).setCell ⟨b', 5, none⟩ u5).setCell ⟨b', 6, none⟩ u6).setCell ⟨b', 7, none⟩ u7).setCell ⟨b', 8, none⟩ u8) b t l :=
  ((((((((h.other (p := ⟨b', 0, none⟩) hne u0).other (p := ⟨b', 1, none⟩) hne u1).other (p := ⟨b', 2, none⟩) hne u2).other (p := ⟨b', 3, none⟩) hne u3).other (p := ⟨b', 4, none⟩) hne u4).other (p := ⟨b', 5, none⟩) hne u5).other (p := ⟨b', 6, none⟩) hne u6).other (p := ⟨b', 7, none⟩) hne u7).other (p := ⟨b', 8, none⟩) hne u8

theorem reduce_any (t : List Nat) (V : Nat) (hV : vl t = V) (ht : t.length = 19) (hd : ∀ x ∈ t, x ≤ 18446742974197923840) (hb : V < 3864537523017258344695351890931987344298927329706434998657235251451519142289560424536193766581922577962463616031502177177365078661042987655742908673467080748696980814823424) (w : World) : Calls Tryd.prog 71 #[.agg (wc t)] w fun e w' => e = .returned (nd (V % Nt.P)) ∧ Fr [] w w' := by
  have hS : S1 V 0 t := ⟨ht, hd, by rw [hV], by rw [hV]; exact hb⟩
  have HS := hid (p := _) hS
  clear hS
  obtain ⟨c0, c1, c2, c3, c4, c5, c6, c7, c8, ec, wc'⟩ := nd_open (V % Nt.P)
  obtain ⟨x0, x1, x2, x3, x4, x5, x6, x7, x8, x9, x10, x11, x12, x13, x14, x15, x16, x17, x18, et, wt⟩ := open19 t ht
  rw [wc', wt]
  have HC := hid (p := _) ec
  have HT := hid (p := _) et
  clear wc' wt ec et ht hd hb hV
  go_enter Tryd.func71, Tryd.ntmps71
  go_wp2_with fail
  go_loopg [3] 3 (fun gk q wr => ∃ k : Nat, ∃ u : List Nat, k ≤ 3 ∧ gk = 3 - k ∧ q = .int .i64 k ∧ Hid (Fr [] w wr ∧ RW wr w.heap.size 101 u ∧ RW wr (w.heap.size + 1) 34 [0, 0, 0, 0, 0, 0, 0, 0, 0] ∧ S1 V k u ∧ (k = 3 → u.drop 9 = List.replicate 10 0)))
  case atStart =>
    refine ⟨0, t, Nat.zero_le _, rfl, rfl, hid ⟨((Fr.refl [] w).alloc _).alloc _, ?_, RW.ofz (heap_new1 w _ _), HS.out, fun h => by omega⟩⟩
    rw [HT.out]; exact (RW.of19 (heap_new0 w _)).alloc _
  case round =>
    obtain ⟨k, u, hk, hgk, rfl, K1⟩ := hrel
    by_cases hk3 : k < 3
    · have hk3' : (k : Int) < 3 := by omega
      have HU := hid (p := _) K1.out.2.2.2.1
      go_wp2_with fail
      go_loopg [4, 5] 19 (fun gj q4 q5 wr => ∃ i : Nat, i ≤ 19 ∧ gj = 19 - i ∧ q4 = .int .u64 (cc u i : Nat) ∧ q5 = .int .i64 i ∧ Hid (Fr [] w wr ∧ RW wr w.heap.size 101 (cr u i) ∧ RW wr (w.heap.size + 1) 34 [0, 0, 0, 0, 0, 0, 0, 0, 0]))
      case atStart =>
        exact ⟨0, Nat.zero_le _, rfl, by rw [cc_zero]; rfl, rfl, hid ⟨K1.out.1, by rw [cr_zero]; exact K1.out.2.1, K1.out.2.2.1⟩⟩
      case round =>
        clear K1
        obtain ⟨i, hi, hgj, rfl, rfl, K2⟩ := hrel
        have hul := HU.out.1
        by_cases hlt : i < 19
        · have hlt' : (i : Int) < 19 := by omega
          have hiu : i < u.length := by omega
          have e1 := K2.out.2.1.cell i (by rw [cr_len]; exact hiu)
          rw [cr_get u i hiu] at e1
          have hF1 := K2.out.2.1.frozen i
          have d1 := HU.out.2.1 _ (getD_mem hiu)
          have d2 := cc_le u i HU.out.2.1
          have KN := K2.out.2.1.set i ((u.getD i 0 + cc u i) % 1073741824)
          rw [cr_step u i hiu] at KN
          have HKN := hid (p := _) KN
          have HC2 := hid (p := _) (cc_step u i hiu)
          have HF := hid (p := _) K2.out.1
          have HZ := hid (p := _) K2.out.2.2
          clear K2 KN
          generalize u.getD i 0 = x at *
          generalize cc u i = c at *
          have f1 : IntKind.u64.wrap ((x : Int) + (c : Int)) = ((x + c : Nat) : Int) := by rw [IntKind.wrap_u64]; omega
          have f2 := and30 (x + c) (by omega)
          have f3 : ((x + c : Nat) : Int) / 1073741824 = (((x + c) / 1073741824 : Nat) : Int) := by omega
          generalize (x + c) / 1073741824 = z2 at *
          generalize (x + c) % 1073741824 = z1 at *
          generalize x + c = y at *
          clear d1 d2 hul hiu
          go_wp2_with fail
          go_roundg (19 - (i + 1))
          case measure => omega
          case rel =>
            exact ⟨i + 1, by omega, rfl, by rw [HC2.out], by go_num, hid ⟨HF.out.setCell (.inr (Nat.le_refl _)) _, HKN.out, HZ.out.other (by show w.heap.size + 1 ≠ w.heap.size; omega) _⟩⟩
        · obtain rfl : i = 19 := by omega
          obtain ⟨v1, v2, v3⟩ := HU.out.carried
          have HV := hid (p := _) v2
          have HV1 := hid (p := _) v1
          have HN := hid (p := _) (HU.out.next hk3)
          clear v1 v2 v3
          go_wp2_with fail
          generalize cr u 19 = v at *
          go_loopg [7] 10 (fun gj q7 wr => ∃ i : Nat, i ≤ 10 ∧ gj = 10 - i ∧ q7 = .int .i64 i ∧ Hid (Fr [] w wr ∧ RW wr w.heap.size 101 (fl v i) ∧ RW wr (w.heap.size + 1) 34 [0, 0, 0, 0, 0, 0, 0, 0, 0]))
          case atStart =>
            exact ⟨0, Nat.zero_le _, rfl, rfl, hid ⟨K2.out.1, by rw [fl_zero _ HV1.out]; exact K2.out.2.1, K2.out.2.2⟩⟩
          case round =>
            clear K2
            obtain ⟨i, hi, hgi, rfl, K3⟩ := hrel
            by_cases hlt2 : i < 10
            · have hlt2' : (i : Int) < 10 := by omega
              have e1 := K3.out.2.1.cell i (by rw [fl_len]; omega)
              rw [fl_get v i i (by omega)] at e1
              have e2 := K3.out.2.1.cell (9 + i) (by rw [fl_len]; omega)
              rw [fl_get v i (9 + i) (by omega)] at e2
              have g1 := K3.out.2.1.frozen i
              have g2' := K3.out.2.1.frozen (9 + i)
              have l1 := K3.out.2.1.lt
              obtain ⟨d1, d2⟩ := fe_small HV.out i hlt2
              have KN := fun x => ((K3.out.2.1.ext x).set i (fe v i i + fe v i (9 + i) * 622592)).set (9 + i) 0
              rw [fl_step v i hlt2] at KN
              have HKN := hid (p := _) KN
              have HF := hid (p := _) K3.out.1
              have HZ := hid (p := _) K3.out.2.2
              clear K3 KN
              generalize fe v i i = x at *
              generalize fe v i (9 + i) = y at *
              have f1 : IntKind.u64.wrap ((y : Int) * 622592) = ((y * 622592 : Nat) : Int) := by rw [IntKind.wrap_u64]; omega
              have f2 : IntKind.u64.wrap ((x : Int) + ((y * 622592 : Nat) : Int)) = ((x + y * 622592 : Nat) : Int) := by rw [IntKind.wrap_u64]; omega
              generalize x + y * 622592 = z at *
              generalize y * 622592 = z2 at *
              clear d1 d2
              go_wp2_with fail
              refine wp_region_last_ext [_, _, _, _, _, _, _, _, _, _, _] _ (by kernel_rfl) (by kernel_rfl) (by kernel_rfl) (by kernel_rfl) (by kernel_rfl) ?_
              simp only [List.cons_append, List.nil_append, idle]
              repeat (go_big_quiet_step (fail))
              refine wpQuiet_nil ?_
              rintro _ ⟨xq, rfl⟩
              have KN2 := HKN.out xq
              go_simp
              go_wp2
              go_roundg (10 - (i + 1))
              case measure => omega
              case rel =>
                exact ⟨i + 1, by omega, rfl, by go_num, hid ⟨((HF.out.ext xq).setCell (.inr (Nat.le_refl _)) _).setCell (.inr (Nat.le_refl _)) _, KN2, ((HZ.out.ext xq).other (by show w.heap.size + 1 ≠ w.heap.size; omega) _).other (by show w.heap.size + 1 ≠ w.heap.size; omega) _⟩⟩
            · obtain rfl : i = 10 := by omega
              go_wp2_with fail
              go_roundg (3 - (k + 1))
              case measure => omega
              case rel => exact ⟨k + 1, _, by omega, rfl, by go_num, hid ⟨K3.out.1, K3.out.2.1, K3.out.2.2, HN.out.1, fun h => HN.out.2 (by omega)⟩⟩
    · obtain rfl : k = 3 := by omega
      have HS2 := hid (p := _) (S1.last K1.out.2.2.2.1 (K1.out.2.2.2.2 rfl))
      have F1 := hid (p := _) K1.out.1
      have R1 := hid (p := _) K1.out.2.1
      have Z1 := hid (p := _) K1.out.2.2.1
      clear K1
      have lz := Z1.out.lt
      go_wp2_with fail
      have Fn := F1.out.alloc (.cells #[.int .u64 0, .int .u64 0, .int .u64 0, .int .u64 0, .int .u64 0, .int .u64 0, .int .u64 0, .int .u64 0, .int .u64 0] 34)
      have Rn := R1.out.alloc (.cells #[.int .u64 0, .int .u64 0, .int .u64 0, .int .u64 0, .int .u64 0, .int .u64 0, .int .u64 0, .int .u64 0, .int .u64 0] 34)
      have Zn := Z1.out.alloc (.cells #[.int .u64 0, .int .u64 0, .int .u64 0, .int .u64 0, .int .u64 0, .int .u64 0, .int .u64 0, .int .u64 0, .int .u64 0] 34)
      have Nn : RW (wr.alloc (.cells #[.int .u64 0, .int .u64 0, .int .u64 0, .int .u64 0, .int .u64 0, .int .u64 0, .int .u64 0, .int .u64 0, .int .u64 0] 34)) wr.heap.size 34 [0, 0, 0, 0, 0, 0, 0, 0, 0] := RW.ofz (heap_new0 wr _)
      clear F1 R1 Z1
      generalize wr.alloc (.cells #[.int .u64 0, .int .u64 0, .int .u64 0, .int .u64 0, .int .u64 0, .int .u64 0, .int .u64 0, .int .u64 0, .int .u64 0] 34) = W1 at *
      generalize wr.heap.size = nb at *
      have HI := hid (p := _) (⟨Fn, Rn, Zn, Nn⟩ : Fr [] w W1 ∧ RW W1 w.heap.size 101 u ∧ RW W1 (w.heap.size + 1) 34 [0, 0, 0, 0, 0, 0, 0, 0, 0] ∧ RW W1 nb 34 [0, 0, 0, 0, 0, 0, 0, 0, 0])
      clear Fn Rn Zn Nn
      go_loopg [9] 3 (fun gk q wr => ∃ k : Nat, ∃ u : List Nat, k ≤ 3 ∧ gk = 3 - k ∧ q = .int .i64 k ∧ Hid (Fr [] w wr ∧ RW wr w.heap.size 101 u ∧ RW wr (w.heap.size + 1) 34 [0, 0, 0, 0, 0, 0, 0, 0, 0] ∧ RW wr nb 34 [0, 0, 0, 0, 0, 0, 0, 0, 0] ∧ S2 V k u))
      case atStart => exact ⟨0, u, Nat.zero_le _, rfl, rfl, hid ⟨HI.out.1, HI.out.2.1, HI.out.2.2.1, HI.out.2.2.2, HS2.out⟩⟩
      case round =>
        clear HI HS2
        obtain ⟨k, u, hk, hgk2, rfl, K1⟩ := hrel
        by_cases hk3b : k < 3
        · have hk3' : (k : Int) < 3 := by omega
          have HU := hid (p := _) K1.out.2.2.2.2
          go_wp2_with fail
          go_loopg [10, 11] 9 (fun gj q4 q5 wr => ∃ i : Nat, i ≤ 9 ∧ gj = 9 - i ∧ q4 = .int .u64 (cc u i : Nat) ∧ q5 = .int .i64 i ∧ Hid (Fr [] w wr ∧ RW wr w.heap.size 101 (cr u i) ∧ RW wr (w.heap.size + 1) 34 [0, 0, 0, 0, 0, 0, 0, 0, 0] ∧ RW wr nb 34 [0, 0, 0, 0, 0, 0, 0, 0, 0]))
          case atStart =>
            exact ⟨0, Nat.zero_le _, rfl, by rw [cc_zero]; rfl, rfl, hid ⟨K1.out.1, by rw [cr_zero]; exact K1.out.2.1, K1.out.2.2.1, K1.out.2.2.2.1⟩⟩
          case round =>
            clear K1
            obtain ⟨i, hi, hgj, rfl, rfl, K2⟩ := hrel
            have hul := HU.out.1
            by_cases hlt : i < 9
            · have hlt' : (i : Int) < 9 := by omega
              have hlt19 : (i : Int) < 19 := by omega
              have hiu : i < u.length := by omega
              have e1 := K2.out.2.1.cell i (by rw [cr_len]; exact hiu)
              rw [cr_get u i hiu] at e1
              have hF1 := K2.out.2.1.frozen i
              have d1 := HU.out.2.1 _ (getD_mem hiu)
              have d2 := cc_le u i HU.out.2.1
              have KN := K2.out.2.1.set i ((u.getD i 0 + cc u i) % 1073741824)
              rw [cr_step u i hiu] at KN
              have HKN := hid (p := _) KN
              have HC2 := hid (p := _) (cc_step u i hiu)
              have HF := hid (p := _) K2.out.1
              have HZ := hid (p := _) K2.out.2.2.1
              have HN9 := hid (p := _) K2.out.2.2.2
              clear K2 KN
              generalize u.getD i 0 = x at *
              generalize cc u i = c at *
              have f1 : IntKind.u64.wrap ((x : Int) + (c : Int)) = ((x + c : Nat) : Int) := by rw [IntKind.wrap_u64]; omega
              have f2 := and30 (x + c) (by omega)
              have f3 : ((x + c : Nat) : Int) / 1073741824 = (((x + c) / 1073741824 : Nat) : Int) := by omega
              generalize (x + c) / 1073741824 = z2 at *
              generalize (x + c) % 1073741824 = z1 at *
              generalize x + c = y at *
              clear d1 d2 hul hiu
              go_wp2_with fail
              go_roundg (9 - (i + 1))
              case measure => omega
              case rel =>
                exact ⟨i + 1, by omega, rfl, by rw [HC2.out], by go_num, hid ⟨HF.out.setCell (.inr (Nat.le_refl _)) _, HKN.out, HZ.out.other (by show w.heap.size + 1 ≠ w.heap.size; omega) _, HN9.out.other (by show nb ≠ w.heap.size; omega) _⟩⟩
            · obtain rfl : i = 9 := by omega
              obtain ⟨v1, v2, v3, v4, v5, v6, v7⟩ := g2_val u HU.out.1 HU.out.2.2.1 HU.out.2.1
              have HN := hid (p := _) (HU.out.next hk3b)
              have hc := cc_le u 9 HU.out.2.1
              have e8 := K2.out.2.1.cell 8 (by rw [cr_len]; omega)
              have e0 := K2.out.2.1.cell 0 (by rw [cr_len]; omega)
              have fz8 := K2.out.2.1.frozen 8
              have fz0 := K2.out.2.1.frozen 0
              have KN := (K2.out.2.1.set 8 ((cr u 9).getD 8 0 % 32768)).set 0 ((cr u 9).getD 0 0 + 19 * (cc u 9 * 32768 + (cr u 9).getD 8 0 / 32768))
              have eg : ((cr u 9).set 8 ((cr u 9).getD 8 0 % 32768)).set 0 ((cr u 9).getD 0 0 + 19 * (cc u 9 * 32768 + (cr u 9).getD 8 0 / 32768)) = g2 u := rfl
              rw [eg] at KN
              have HKN := hid (p := _) KN
              have HF := hid (p := _) K2.out.1
              have HZ := hid (p := _) K2.out.2.2.1
              have HN9 := hid (p := _) K2.out.2.2.2
              clear K2 KN eg v1 v2 v3 v4 v5 hul
              generalize (cr u 9).getD 8 0 = d8 at *
              generalize (cr u 9).getD 0 0 = d0 at *
              generalize cc u 9 = c at *
              have f1 : IntKind.u64.wrap ((c : Int) * 32768) = ((c * 32768 : Nat) : Int) := by rw [IntKind.wrap_u64]; omega
              have f2 : (d8 : Int) / 32768 = ((d8 / 32768 : Nat) : Int) := by omega
              have f3 : bits .or .u64 ((c * 32768 : Nat) : Int) ((d8 / 32768 : Nat) : Int) = ((c * 32768 + d8 / 32768 : Nat) : Int) := by
                have h := bits_or_u64_nat (c * 32768) (d8 / 32768) (by omega) (by omega)
                rw [nat_join 15 (c * 32768) (d8 / 32768) (by omega) (by omega)] at h
                exact h
              have f6 : bits .and .u64 (d8 : Int) 32767 = ((d8 % 32768 : Nat) : Int) := by
                have h := bits_and_u64_nat d8 32767 (by omega) (by decide)
                have e : d8 &&& 32767 = d8 % 32768 := Nat.and_two_pow_sub_one_eq_mod d8 15
                rw [e] at h
                exact h
              have f4 : IntKind.u64.wrap (19 * ((c * 32768 + d8 / 32768 : Nat) : Int)) = ((19 * (c * 32768 + d8 / 32768) : Nat) : Int) := by rw [IntKind.wrap_u64]; omega
              have f5 : IntKind.u64.wrap ((d0 : Int) + ((19 * (c * 32768 + d8 / 32768) : Nat) : Int)) = ((d0 + 19 * (c * 32768 + d8 / 32768) : Nat) : Int) := by rw [IntKind.wrap_u64]; omega
              generalize d0 + 19 * (c * 32768 + d8 / 32768) = z1 at *
              generalize 19 * (c * 32768 + d8 / 32768) = z2 at *
              generalize c * 32768 + d8 / 32768 = z3 at *
              generalize c * 32768 = z4 at *
              generalize d8 / 32768 = z5 at *
              generalize d8 % 32768 = z6 at *
              clear v6 v7 hc
              go_wp2_with fail
              go_roundg (3 - (k + 1))
              case measure => omega
              case rel =>
                exact ⟨k + 1, _, by omega, rfl, by go_num, hid ⟨(HF.out.setCell (.inr (Nat.le_refl _)) _).setCell (.inr (Nat.le_refl _)) _, HKN.out, (HZ.out.other (by show w.heap.size + 1 ≠ w.heap.size; omega) _).other (by show w.heap.size + 1 ≠ w.heap.size; omega) _, (HN9.out.other (by show nb ≠ w.heap.size; omega) _).other (by show nb ≠ w.heap.size; omega) _, HN.out⟩⟩
        · obtain rfl : k = 3 := by omega
          have HU := hid (p := _) K1.out.2.2.2.2
          go_wp2_with fail
          go_loopg [13] 9 (fun gj q wr => ∃ i : Nat, i ≤ 9 ∧ gj = 9 - i ∧ q = .int .i64 i ∧ Hid (Fr [] w wr ∧ RW wr w.heap.size 101 u ∧ RW wr (w.heap.size + 1) 34 [0, 0, 0, 0, 0, 0, 0, 0, 0] ∧ RW wr nb 34 (cp9 u i)))
          case atStart => exact ⟨0, Nat.zero_le _, rfl, rfl, hid ⟨K1.out.1, K1.out.2.1, K1.out.2.2.1, by rw [cp9_zero]; exact K1.out.2.2.2.1⟩⟩
          case round =>
            clear K1
            obtain ⟨i, hi, hgj, rfl, K2⟩ := hrel
            have hul := HU.out.1
            by_cases hlt : i < 9
            · have hlt' : (i : Int) < 9 := by omega
              have hlt19 : (i : Int) < 19 := by omega
              have e1 := K2.out.2.1.cell i (by omega)
              have e2 := K2.out.2.2.2.cell i (by rw [cp9_len]; omega)
              have hF1 := K2.out.2.2.2.frozen i
              have KN := K2.out.2.2.2.set i (u.getD i 0)
              rw [cp9_step u i hlt] at KN
              have HKN := hid (p := _) KN
              have HF := hid (p := _) K2.out.1
              have HA := hid (p := _) K2.out.2.1
              have HZ := hid (p := _) K2.out.2.2.1
              clear K2 KN
              generalize u.getD i 0 = x at *
              generalize (cp9 u i).getD i 0 = y at *
              go_wp2_with fail
              go_roundg (9 - (i + 1))
              case measure => omega
              case rel =>
                exact ⟨i + 1, by omega, rfl, by go_num, hid ⟨HF.out.setCell (.inr (by show w.heap.size ≤ nb; omega)) _, HA.out.other (by show w.heap.size ≠ nb; omega) _, HZ.out.other (by show w.heap.size + 1 ≠ nb; omega) _, HKN.out⟩⟩
            · obtain rfl : i = 9 := by omega
              have hdig := cp9_nine u (vl u) HU.out.digits
              have hvm := HU.out.2.2.2.1
              have hvb : vl u < 57896044618658097711785492504343953926634992332820282019728792003956564819968 := HU.out.2.2.2.2.1
              have HI := hid (p := _) (⟨K2.out.1, K2.out.2.2.1, by rw [← hdig]; exact K2.out.2.2.2, hvm, hvb⟩ : Fr [] w wr ∧ RW wr (w.heap.size + 1) 34 [0, 0, 0, 0, 0, 0, 0, 0, 0] ∧ RW wr nb 34 (dts (vl u)) ∧ vl u % Nt.P = V % Nt.P ∧ vl u < 57896044618658097711785492504343953926634992332820282019728792003956564819968)
              clear K2 hdig hvm hvb HU hul
              generalize vl u = v0 at *
              go_wp2_with fail
              go_loopg [98] (v0 / Nt.P) (fun gj q wr => ∃ v : Nat, gj = v / Nt.P ∧ Hid (Fr [] w wr ∧ RW wr (w.heap.size + 1) 34 [0, 0, 0, 0, 0, 0, 0, 0, 0] ∧ RW wr nb 34 (dts v) ∧ v % Nt.P = V % Nt.P ∧ v < 57896044618658097711785492504343953926634992332820282019728792003956564819968))
              case atStart => exact ⟨v0, rfl, HI⟩
              case round =>
                clear HI
                obtain ⟨v, hgv, K3⟩ := hrel
                have hv270 := div_R K3.out.2.2.2.2
                have hp270 := div_R (v := Nt.P) (by rw [Nt.P_val]; decide)
                obtain ⟨d0, d1, d2, d3, d4, d5, d6, d7, d8, ed, wd'⟩ := nd_open v
                obtain ⟨p0, p1, p2, p3, p4, p5, p6, p7, p8, ep, wp'⟩ := nd_open Nt.P
                have KP := fun W => prime_any W
                have KL := fun W => rless_any v Nt.P hv270 hp270 W
                by_cases hlt : v < Nt.P
                · rw [decide_eq_true hlt, wd'] at KL
                  have HP := hid (p := _) KP
                  have HL := hid (p := _) KL
                  have N := K3.out.2.2.1
                  rw [ed] at N
                  have hvv : v = V % Nt.P := by rw [← K3.out.2.2.2.1]; exact (Nat.mod_eq_of_lt hlt).symm
                  have edd := ed
                  rw [hvv, HC.out] at edd
                  injection edd with k0 edd
                  injection edd with k1 edd
                  injection edd with k2 edd
                  injection edd with k3 edd
                  injection edd with k4 edd
                  injection edd with k5 edd
                  injection edd with k6 edd
                  injection edd with k7 edd
                  injection edd with k8 edd
                  subst k0 k1 k2 k3 k4 k5 k6 k7 k8
                  have Fq := hid (p := _) K3.out.1
                  have Zq := hid (p := _) K3.out.2.1
                  have Nq := hid (p := _) N
                  obtain ⟨_, _, _, _, _, _, _, _, _, _, _, _, _, _, _, _, _, _, _, _⟩ := N.all
                  clear K3 KP KL wd' wp' ed ep edd hvv hv270 hp270 N hgv
                  generalize nd Nt.P = vp at *
                  go_wp2_with fail
                  refine wp_region_ext (by kernel_rfl) (by kernel_rfl) ?_
                  repeat (go_big_quiet_step (first | with_reducible exact Calls.ext_of (HP.out _) | with_reducible exact Calls.ext_of (HL.out _)))
                  refine wpQuiet_nil ?_
                  rintro _ ⟨xq, rfl⟩
                  have F2 := Fq.out.ext xq
                  have Z2 := Zq.out.ext xq
                  have N2 := Nq.out.ext xq
                  generalize ext wr xq = wr3 at *
                  obtain ⟨_, _, _, _, _, _, _, _, _, _, _, _, _, _, _, _, _, _, _, _⟩ := N2.all
                  obtain ⟨_, _, _, _, _, _, _, _, _, _, _, _, _, _, _, _, _, _, _, _⟩ := Z2.all
                  go_wp2_with fail
                  simp [bodyPost, results, Tryd.results71, go_sem, *]
                  exact F2.set9 (by omega) _ _ _ _ _ _ _ _ _
                · have KM := fun W => rminus_any v Nt.P (by omega) W
                  obtain ⟨m0, m1, m2, m3, m4, m5, m6, m7, m8, em, wm'⟩ := nd_open (v - Nt.P)
                  rw [decide_eq_false hlt, wd'] at KL
                  rw [wd', wm'] at KM
                  have HP := hid (p := _) KP
                  have HL := hid (p := _) KL
                  have HM := hid (p := _) KM
                  have N := K3.out.2.2.1
                  rw [ed] at N
                  have Fq := hid (p := _) K3.out.1
                  have Zq := hid (p := _) K3.out.2.1
                  have Nq := hid (p := _) N
                  have hm1 : (v - Nt.P) % Nt.P = V % Nt.P := by rw [← K3.out.2.2.2.1]; exact (Nat.mod_eq_sub_mod (by omega)).symm
                  have hm2 : v - Nt.P < 57896044618658097711785492504343953926634992332820282019728792003956564819968 := by have := K3.out.2.2.2.2; omega
                  have hm3 : (v - Nt.P) / Nt.P < v / Nt.P := div_less P_pos (by omega)
                  have HM3 := hid (p := _) hm3
                  have HM1 := hid (p := _) hm1
                  have HM2 := hid (p := _) hm2
                  have HEM := hid (p := _) em
                  obtain ⟨_, _, _, _, _, _, _, _, _, _, _, _, _, _, _, _, _, _, _, _⟩ := N.all
                  clear K3 KP KL KM wd' wp' wm' ed ep em hv270 hp270 N hm1 hm2 hm3
                  generalize nd Nt.P = vp at *
                  go_wp2_with fail
                  refine wp_region_ext (by kernel_rfl) (by kernel_rfl) ?_
                  repeat (go_big_quiet_step (first | with_reducible exact Calls.ext_of (HP.out _) | with_reducible exact Calls.ext_of (HL.out _)))
                  refine wpQuiet_nil ?_
                  rintro _ ⟨xq, rfl⟩
                  have F2 := Fq.out.ext xq
                  have Z2 := Zq.out.ext xq
                  have N2 := Nq.out.ext xq
                  generalize ext wr xq = wr3 at *
                  obtain ⟨_, _, _, _, _, _, _, _, _, _, _, _, _, _, _, _, _, _, _, _⟩ := N2.all
                  go_wp2_with fail
                  refine wp_region_last_ext [_, _, _] _ (by kernel_rfl) (by kernel_rfl) (by kernel_rfl) (by kernel_rfl) (by kernel_rfl) ?_
                  simp only [List.cons_append, List.nil_append, idle]
                  repeat (go_big_quiet_step (first | with_reducible exact Calls.ext_of (HP.out _) | with_reducible exact Calls.ext_of (HM.out _)))
                  refine wpQuiet_nil ?_
                  rintro _ ⟨xr, rfl⟩
                  go_simp
                  go_wp2
                  go_roundg ((v - Nt.P) / Nt.P)
                  case measure => have := HM3.out; omega
                  case rel =>
                    refine ⟨v - Nt.P, rfl, hid ⟨(F2.ext xr).set9 (by omega) _ _ _ _ _ _ _ _ _, (Z2.ext xr).other9 (by omega) _ _ _ _ _ _ _ _ _, ?_, HM1.out, HM2.out⟩⟩
                    rw [HEM.out]; exact (N2.ext xr).set9 _ _ _ _ _ _ _ _ _

end Go.Proofs.YtpdagpjjlnncbaaDoor
