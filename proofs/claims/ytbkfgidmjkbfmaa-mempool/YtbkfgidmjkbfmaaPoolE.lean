/-
  The walk of MemPool of the statements of package mem: whatever the script, a pool's buffers and what is lent stay together.
-/
import Derived.Test.YtbkfgidmjkbfmaaPoolD
import Derived.Test.YtbkfgidmjkbfmaaLawB
import Derived.Test.YtbkfgidmjkbfmaaWorks
import Derived.Deep.CutBlock
namespace Go.Proofs.Ytbkfgidmjkbfmaa
open Go.RowKit Go.BigFrame
set_option linter.unusedVariables false
set_option linter.unusedSimpArgs false
set_option maxRecDepth 1000000
set_option maxHeartbeats 400000000

theorem pinv_new {w w1 w2 : World} {bM bm bb bp bw size n T : Nat} (hT : T = size * n) (hB : w.heap.size ≤ bM ∧ w.heap.size ≤ bm ∧ w.heap.size ≤ bb) (hM : MemA w1 bM bm bb (T + 3) (.slice none 0 0) [] (List.replicate (T + 3) 0)) (hF1 : Fr [] w w1)
    (hP : PoolA w2 bp bm 3 size bw (List.replicate n 0)) (hF2 : Fr [] w1 w2) (hbw : w1.heap.size ≤ bp ∧ w1.heap.size ≤ bw) (h1 : 1 ≤ size) (h2 : size ≤ 64) (h3 : n ≤ 16) :
    PInv w (w2.alloc (.cells (madeCells #[.int .u8 0] n) 5)) bM bm bb bp bw w2.heap.size size n (T + 3) (.slice none 0 0) [] (List.replicate (T + 3) 0) (List.replicate n 0) := by
  have F3 : Fr [] w2 (w2.alloc (.cells (madeCells #[.int .u8 0] n) 5)) := (Fr.refl _ _).alloc _
  have lb := lt_of_heap hM.bytes
  have lw := lt_of_heap hP.who
  have z := hF2.size
  have z1 := hF1.size
  refine ⟨(hM.fr0 hF2).fr0 F3, hP.fr F3 (by simp) (by simp), ?_, by simp, fun b => ⟨fun ⟨i, hi, _⟩ => by simp at hi, fun ⟨j, hj, _⟩ => ?_⟩, by omega, by omega, by omega, hB.2.1, by omega, by omega, (fun g h => by cases h), (hF1.trans0 hF2).trans0 F3, by rw [hT, Nat.mul_comm]; omega, h1, h2, h3⟩
  · rw [← madeBytes]; exact heap_alloc_new w2 _
  · rw [List.getElem?_replicate] at hj
    split at hj
    · cases hj
    · cases hj

theorem put_yes (w0 w W : World) (bM bm bb bp bw bh size n k i M : Nat) (lv : Value) (l : List (Nat × Nat)) (bs ws : List UInt8) (h : PInv w0 w bM bm bb bp bw bh size n k lv l bs ws) (hF : Fr [] w W) (hi : i < n) (hM : M = i * size) (hx : ws[i]? = some 1) :
    Calls Try.prog 29 #[.pointer (some ⟨bp, 0, none⟩), .int .u32 (3 + (M : Int))] W fun e w' => e = .returned (.int .i64 0) ∧ PMid w0 w' bM bm bb bp bw bh size n k bs ws i 0 := by
  have e : (3 + (M : Int)) = ((3 + i * size : Nat) : Int) := by rw [hM]; push_cast; rfl
  rw [e]
  refine (put_inv w0 W bM bm bb bp bw bh size n k i lv l bs ws (h.fr0 hF) hi).mono ?_
  rintro e w' (⟨_, h1, h2⟩ | ⟨h1, _⟩)
  · exact ⟨h1, h2⟩
  · exact absurd hx h1
theorem put_no (w0 w W : World) (bM bm bb bp bw bh size n k i M : Nat) (lv : Value) (l : List (Nat × Nat)) (bs ws : List UInt8) (h : PInv w0 w bM bm bb bp bw bh size n k lv l bs ws) (hF : Fr [] w W) (hi : i < n) (hM : M = i * size) (hx : ws[i]? ≠ some 1) :
    Calls Try.prog 29 #[.pointer (some ⟨bp, 0, none⟩), .int .u32 (3 + (M : Int))] W fun e w' => e = .returned (.int .i64 3) ∧ Fr [] w w' := by
  have e : (3 + (M : Int)) = ((3 + i * size : Nat) : Int) := by rw [hM]; push_cast; rfl
  rw [e]
  refine (put_inv w0 W bM bm bb bp bw bh size n k i lv l bs ws (h.fr0 hF) hi).mono ?_
  rintro e w' (⟨h1, _⟩ | ⟨_, h1, h2⟩)
  · exact absurd h1 hx
  · exact ⟨h1, hF.trans0 h2⟩

theorem give_yes (w0 w W : World) (bM bm bb bp bw bh size n k i M : Nat) (lv : Value) (l : List (Nat × Nat)) (bs ws : List UInt8) (h : PInv w0 w bM bm bb bp bw bh size n k lv l bs ws) (hF : Fr [] w W) (hi : i < n) (hM : M = i * size) (hx : ws[i]? = some 1) :
    Calls Try.prog 30 #[.pointer (some ⟨bp, 0, none⟩), .int .u32 (3 + (M : Int))] W fun e w' => e = .returned (.int .i64 0) ∧ PMid w0 w' bM bm bb bp bw bh size n k bs ws i 2 := by
  have e : (3 + (M : Int)) = ((3 + i * size : Nat) : Int) := by rw [hM]; push_cast; rfl
  rw [e]
  refine (give_inv w0 W bM bm bb bp bw bh size n k i lv l bs ws (h.fr0 hF) hi).mono ?_
  rintro e w' (⟨_, h1, h2⟩ | ⟨h1, _⟩)
  · exact ⟨h1, h2⟩
  · exact absurd hx h1
theorem give_no (w0 w W : World) (bM bm bb bp bw bh size n k i M : Nat) (lv : Value) (l : List (Nat × Nat)) (bs ws : List UInt8) (h : PInv w0 w bM bm bb bp bw bh size n k lv l bs ws) (hF : Fr [] w W) (hi : i < n) (hM : M = i * size) (hx : ws[i]? ≠ some 1) :
    Calls Try.prog 30 #[.pointer (some ⟨bp, 0, none⟩), .int .u32 (3 + (M : Int))] W fun e w' => e = .returned (.int .i64 3) ∧ Fr [] w w' := by
  have e : (3 + (M : Int)) = ((3 + i * size : Nat) : Int) := by rw [hM]; push_cast; rfl
  rw [e]
  refine (give_inv w0 W bM bm bb bp bw bh size n k i lv l bs ws (h.fr0 hF) hi).mono ?_
  rintro e w' (⟨h1, _⟩ | ⟨_, h1, h2⟩)
  · exact absurd h1 hx
  · exact ⟨h1, hF.trans0 h2⟩

theorem take_yes (w0 w W : World) (bM bm bb bp bw bh size n k i M : Nat) (lv : Value) (l : List (Nat × Nat)) (bs ws : List UInt8) (h : PInv w0 w bM bm bb bp bw bh size n k lv l bs ws) (hF : Fr [] w W) (hi : i < n) (hM : M = i * size) (hx : ws[i]? = some 2) :
    Calls Try.prog 31 #[.pointer (some ⟨bp, 0, none⟩), .int .u32 (3 + (M : Int))] W fun e w' => e = .returned (.int .i64 0) ∧ PMid w0 w' bM bm bb bp bw bh size n k bs ws i 1 := by
  have e : (3 + (M : Int)) = ((3 + i * size : Nat) : Int) := by rw [hM]; push_cast; rfl
  rw [e]
  refine (take_inv w0 W bM bm bb bp bw bh size n k i lv l bs ws (h.fr0 hF) hi).mono ?_
  rintro e w' (⟨_, h1, h2⟩ | ⟨h1, _⟩)
  · exact ⟨h1, h2⟩
  · exact absurd hx h1
theorem take_no (w0 w W : World) (bM bm bb bp bw bh size n k i M : Nat) (lv : Value) (l : List (Nat × Nat)) (bs ws : List UInt8) (h : PInv w0 w bM bm bb bp bw bh size n k lv l bs ws) (hF : Fr [] w W) (hi : i < n) (hM : M = i * size) (hx : ws[i]? ≠ some 2) :
    Calls Try.prog 31 #[.pointer (some ⟨bp, 0, none⟩), .int .u32 (3 + (M : Int))] W fun e w' => e = .returned (.int .i64 3) ∧ Fr [] w w' := by
  have e : (3 + (M : Int)) = ((3 + i * size : Nat) : Int) := by rw [hM]; push_cast; rfl
  rw [e]
  refine (take_inv w0 W bM bm bb bp bw bh size n k i lv l bs ws (h.fr0 hF) hi).mono ?_
  rintro e w' (⟨h1, _⟩ | ⟨_, h1, h2⟩)
  · exact absurd h1 hx
  · exact ⟨h1, hF.trans0 h2⟩
theorem memPool_walk (a c : Nat) (ha : a < 256) (hc : c < 256) (sv : Value) (len : Nat) (F : Nat → St) (w : World) (hS : Steps w sv len F) :
    Calls Try.prog 5 #[.int .u8 a, .int .u8 c, sv] w fun e w' => e = .returned (.bool true) ∧ Fr [] w w' := by
  obtain ⟨size, hz, hz1, hz2⟩ : ∃ n : Nat, ((a : Int) % 64 + 1) = n ∧ 1 ≤ n ∧ n ≤ 64 := ⟨a % 64 + 1, by omega, by omega, by omega⟩
  obtain ⟨n, hn, hn1, hn2⟩ : ∃ n : Nat, ((c : Int) % 16 + 1) = n ∧ 1 ≤ n ∧ n ≤ 16 := ⟨c % 16 + 1, by omega, by omega, by omega⟩
  obtain ⟨T, hT⟩ : ∃ T, T = size * n := ⟨_, rfl⟩
  have hmul : (size : Int) * (n : Int) = (T : Int) := by rw [hT, Int.natCast_mul]
  have hTb : T ≤ 1024 := by rw [hT]; exact Nat.mul_le_mul hz2 hn2
  have HTe := hid hT
  have hmk := make_u8 n (by omega)
  clear hT
  have HS := hid hS
  have hl : len ≤ maxLen := hS.1
  unfold maxLen at hl
  obtain ⟨p, cap, hsv⟩ : ∃ p cap, sv = .slice p len cap := by
    rcases hS with ⟨_, ⟨p, c, h1, h2⟩ | ⟨b, o, cap, h1, _⟩⟩
    · exact ⟨p, c, by rw [h1, h2]⟩
    · exact ⟨_, cap, h1⟩
  subst hsv
  clear hS
  by_cases h200 : 200 < len
  · have d : decide ((200 : Int) < (len : Int)) = true := by simp; omega
    go_enter Try.func5, Try.ntmps5
    go_wp2_with fail
    refine (works_any _).mono ?_
    rintro e w1 ⟨rfl, hF⟩
    go_wp2
    go_ret
    exact ⟨rfl, hF⟩
  · have d : decide ((200 : Int) < (len : Int)) = false := by simp; omega
    go_enter Try.func5, Try.ntmps5
    go_wp2_with fail
    rw [show ((T : Int) + 3) = ((T + 3 : Nat) : Int) by omega]
    refine (new_mem (T + 3) (by omega) (by omega) w).mono ?_
    rintro e w1 ⟨rfl, hM1, hF1⟩
    obtain ⟨bM, hbM⟩ : ∃ b, b = w.heap.size + 1 + 1 := ⟨_, rfl⟩
    obtain ⟨bm, hbm⟩ : ∃ b, b = w.heap.size + 1 := ⟨_, rfl⟩
    obtain ⟨bb, hbb⟩ : ∃ b, b = w.heap.size := ⟨_, rfl⟩
    rw [← hbM, ← hbm] at hM1
    rw [← hbM]
    have hM1' : MemA w1 bM bm bb (T + 3) (.slice none 0 0) [] (List.replicate (T + 3) 0) := hbb ▸ hM1
    have HM1 := hid hM1'
    have HF1 := hid hF1
    have HB := hid (show w.heap.size ≤ bM ∧ w.heap.size ≤ bm ∧ w.heap.size ≤ bb by omega)
    clear hM1 hM1' hF1 hbM hbm hbb
    go_wp2_with fail
    refine (newPool_ok bM bm bb (T + 3) 3 size n _ _ _ w1 HM1.out hz1 (by omega) hn1 (by omega) (by rw [← HTe.out]; omega)).mono ?_
    rintro e w2 ⟨bp, bw, rfl, hP2, hbp, hbw, hF2⟩
    have HP2 := hid hP2
    have HF2 := hid hF2
    have HBW := hid (show w1.heap.size ≤ bp ∧ w1.heap.size ≤ bw from ⟨hbp, hbw⟩)
    clear hP2 hF2 hbp hbw
    go_wp2_with fail
    have HK := hid (show PKeeps w (w2.alloc (.cells (madeCells #[.int .u8 0] n) 5)) bM bm bb bp bw w2.heap.size size n (T + 3) from ⟨_, _, _, _, pinv_new HTe.out HB.out HM1.out HF1.out HP2.out HF2.out HBW.out hz1 hz2 hn2⟩)
    obtain ⟨bh, hbh⟩ : ∃ b, b = w2.heap.size := ⟨_, rfl⟩
    rw [← hbh] at HK
    rw [← hbh]
    clear hbh
    generalize w2.alloc (.cells (madeCells #[.int .u8 0] n) 5) = w3 at *
    clear HM1 HF1 HP2 HF2 HBW HB hmk
    go_loopg [13] len (fun gk q wr => ∃ i : Nat, i ≤ len ∧ gk = len - i ∧ q = .int .i64 i ∧ Hid (PKeeps w wr bM bm bb bp bw bh size n (T + 3)))
    case atStart => exact ⟨0, Nat.zero_le _, rfl, rfl, HK⟩
    case round =>
      clear HK
      obtain ⟨i, hi, hgk, rfl, K0⟩ := hrel
      by_cases hlt : i < len
      · have hlt' : (i : Int) < (len : Int) := by omega
        obtain ⟨b, o, hp, r⟩ : ∃ b o, p = some ⟨b, o, none⟩ ∧ StepAt w b (o + i * 5) (F i) := by
          rcases HS.out with ⟨_, ⟨p', c', h1, h2⟩ | ⟨b, o, cap', h1, h2⟩⟩
          · omega
          · cases h1; exact ⟨b, o, rfl, h2 i hlt⟩
        subst hp
        obtain ⟨lv, l, bs, ws, hI⟩ := K0.out
        have r' := r.fr hI.fr
        have r0 := r'.c0
        have r1 := r'.c1
        have r2 := r'.c2
        have r3 := r'.c3
        have r4 := r'.c4
        have HA := hid r'.hA
        have HI := hid hI
        clear r r' hI K0
        generalize F i = s at *
        obtain ⟨D, A, N, X, S⟩ := s
        simp only at *
        obtain ⟨kk, hkk, hkl⟩ : ∃ kk : Nat, (A : Int) % (n : Int) = kk ∧ kk < n := ⟨A % n, by rw [Int.natCast_emod], Nat.mod_lt _ (by omega)⟩
        obtain ⟨M, hM⟩ : ∃ M, M = kk * size := ⟨_, rfl⟩
        have hmk : (kk : Int) * (size : Int) = (M : Int) := by rw [hM, Int.natCast_mul]
        have hMb : M ≤ 1024 := by rw [hM]; exact Nat.mul_le_mul (show kk ≤ 16 by omega) hz2
        have HMe := hid hM
        clear hM
        have hnz : ¬ (n : Int) = 0 := by omega
        go_upto_block 2 with fail
        have F1 : Fr [] wr (wr.alloc (.cells #[.int .i64 D, .int .u32 (A : Nat), .int .i64 N, .int .u64 (X : Nat), .string S] 42)) := (Fr.refl _ _).alloc _
        have HI2 := hid (HI.out.fr0 F1)
        generalize wr.alloc (.cells #[.int .i64 D, .int .u32 (A : Nat), .int .i64 N, .int .u64 (X : Nat), .string S] 42) = w4 at *
        clear F1 HI r0 r1 r2 r3 r4
        go_cut [] from 67 to 242 (fun wx => Hid (PKeeps w wx bM bm bb bp bw bh size n (T + 3)))
        case first =>
          have hln := HI2.out.len
          have hkw : kk < ws.length := by omega
          have hcx := who_cell HI2.out.hld kk hkw
          have HWX := hid (show ws[kk]? = some ws[kk] from List.getElem?_eq_getElem hkw)
          obtain ⟨x, hxe⟩ : ∃ x, x = ws[kk] := ⟨_, rfl⟩
          rw [← hxe] at hcx HWX
          clear hxe
          by_cases D7 : D = 7
          · subst D7
            go_wp2_with fail
            refine (get_inv w w4 bM bm bb bp bw bh size n (T + 3) lv l bs ws HI2.out).mono ?_
            rintro e w5 (⟨j, hj, h0, rfl, hm⟩ | ⟨hf, rfl, hF⟩)
            · as_aux_lemma =>
                obtain ⟨U, hU⟩ : ∃ U, U = j * size := ⟨_, rfl⟩
                have qU : (U : Int) / (size : Int) = (j : Int) := by rw [hU, Int.natCast_mul, Int.mul_ediv_cancel _ (by omega)]
                have rU : (U : Int) % (size : Int) = 0 := by rw [hU, Int.natCast_mul, Int.mul_emod_left]
                have bU : U ≤ 1024 := by rw [hU]; exact Nat.mul_le_mul (show j ≤ 16 by omega) hz2
                have eU : ((3 + j * size : Nat) : Int) = 3 + (U : Int) := by rw [hU]; push_cast; rfl
                rw [eU]
                clear hU eU
                have hjw : j < ws.length := by omega
                have hc5 := hm.cell j hjw
                rw [show (ws[j]).toNat = 0 from by have := h0; rw [List.getElem?_eq_getElem hjw] at this; rw [Option.some.inj this]; rfl] at hc5
                have hz5 := hm.fz j
                have HM5 := hid (PMid.store HI2.out hm)
                clear hm h0 hcx
                have e3 : (3 + (U : Int) - 3) = (U : Int) := by omega
                have q3 : (3 + (U : Int) - 3) / (size : Int) = (j : Int) := by rw [e3]; exact qU
                have r3 : (3 + (U : Int) - 3) % (size : Int) = 0 := by rw [e3]; exact rU
                have d3 : decide ((3 : Int) + (U : Int) < 3) = false := by simp; omega
                have hzz : ¬ (size : Int) = 0 := by omega
                have hj' : (j : Int) < (n : Int) := by omega
                have dj : decide ((n : Int) ≤ (j : Int)) = false := by simp; omega
                have dj' : decide (n ≤ j) = false := by simp; omega
                go_wp2_with fail
                go_meet
                exact HM5
            · as_aux_lemma =>
                have hI5 := HI2.out.fr0 hF
                have HI5 := hid hI5
                have hlf := left_any bp bm 3 size bw ws w5 hI5.pool (by omega)
                rw [hf] at hlf
                have HL := hid hlf
                clear hI5 hlf hf hF
                go_wp2_with fail
                refine HL.out.mono ?_
                rintro e w6 ⟨rfl, hw⟩
                subst hw
                go_wp2_with fail
                go_roundg (len - (i + 1))
                case measure => omega
                case rel => exact ⟨i + 1, by omega, rfl, by go_num, hid ⟨_, _, _, _, HI5.out⟩⟩
          · have d7 : (D == 7) = false := by simp; exact D7
            by_cases D8 : D = 8
            · subst D8
              by_cases hx : x = 1
              · as_aux_lemma =>
                  have hy : x.toNat = 1 := by rw [hx]; rfl
                  rw [hy] at hcx
                  have HX := hid (show ws[kk]? = some 1 by rw [HWX.out, hx])
                  have H := hid (fun W (hF : Fr [] w4 W) => put_yes w w4 W bM bm bb bp bw bh size n (T + 3) kk M lv l bs ws HI2.out hF hkl HMe.out HX.out)
                  clear hx hy
                  go_wp2_with fail
                  go_region_with (go_at_call 29; refine (H.out _ (Fr.drew (Fr.refl _ _))).mono ?_; rintro e w5 ⟨rfl, hm⟩; have hc5 := hm.cell kk hkw; rw [show (ws[kk]).toNat = 1 from by have := HX.out; rw [List.getElem?_eq_getElem hkw] at this; rw [Option.some.inj this]; rfl] at hc5; have hz5 := hm.fz kk; have HM5 := hid (PMid.store HI2.out hm); clear hm)
                  all_goals
                    go_wp2_with fail
                    go_meet
                    exact HM5
              · as_aux_lemma =>
                  have hy : ¬ x.toNat = 1 := fun h => hx (UInt8.toNat_inj.1 h)
                  have HX := hid (show ws[kk]? ≠ some 1 by rw [HWX.out]; intro h; cases h; exact hx rfl)
                  have H := hid (fun W (hF : Fr [] w4 W) => put_no w w4 W bM bm bb bp bw bh size n (T + 3) kk M lv l bs ws HI2.out hF hkl HMe.out HX.out)
                  clear hx
                  generalize x.toNat = y at *
                  have hyb : ((y : Int) == 1) = false := by simp; omega
                  go_wp2_with fail
                  go_region_with (go_at_call 29; refine (H.out _ (Fr.drew (Fr.refl _ _))).mono ?_; rintro e w5 ⟨rfl, hF5⟩; have hc5 := hF5.cell hcx (by simp); have HM5 := hid (show PKeeps w w5 bM bm bb bp bw bh size n (T + 3) from ⟨_, _, _, _, HI2.out.fr0 hF5⟩); clear hF5)
                  all_goals
                    go_wp2_with fail
                    go_meet
                    exact HM5
            · have d8 : (D == 8) = false := by simp; exact D8
              by_cases D9 : D = 9
              · subst D9
                by_cases hx : x = 1
                · as_aux_lemma =>
                    have hy : x.toNat = 1 := by rw [hx]; rfl
                    rw [hy] at hcx
                    have HX := hid (show ws[kk]? = some 1 by rw [HWX.out, hx])
                    have H := hid (fun W (hF : Fr [] w4 W) => give_yes w w4 W bM bm bb bp bw bh size n (T + 3) kk M lv l bs ws HI2.out hF hkl HMe.out HX.out)
                    clear hx hy
                    go_wp2_with fail
                    go_region_with (go_at_call 30; refine (H.out _ (Fr.drew (Fr.refl _ _))).mono ?_; rintro e w5 ⟨rfl, hm⟩; have hc5 := hm.cell kk hkw; rw [show (ws[kk]).toNat = 1 from by have := HX.out; rw [List.getElem?_eq_getElem hkw] at this; rw [Option.some.inj this]; rfl] at hc5; have hz5 := hm.fz kk; have HM5 := hid (PMid.store HI2.out hm); clear hm)
                    all_goals
                      go_wp2_with fail
                      go_meet
                      exact HM5
                · as_aux_lemma =>
                    have hy : ¬ x.toNat = 1 := fun h => hx (UInt8.toNat_inj.1 h)
                    have HX := hid (show ws[kk]? ≠ some 1 by rw [HWX.out]; intro h; cases h; exact hx rfl)
                    have H := hid (fun W (hF : Fr [] w4 W) => give_no w w4 W bM bm bb bp bw bh size n (T + 3) kk M lv l bs ws HI2.out hF hkl HMe.out HX.out)
                    clear hx
                    generalize x.toNat = y at *
                    have hyb : ((y : Int) == 1) = false := by simp; omega
                    go_wp2_with fail
                    go_region_with (go_at_call 30; refine (H.out _ (Fr.drew (Fr.refl _ _))).mono ?_; rintro e w5 ⟨rfl, hF5⟩; have hc5 := hF5.cell hcx (by simp); have HM5 := hid (show PKeeps w w5 bM bm bb bp bw bh size n (T + 3) from ⟨_, _, _, _, HI2.out.fr0 hF5⟩); clear hF5)
                    all_goals
                      go_wp2_with fail
                      go_meet
                      exact HM5
              · have d9 : (D == 9) = false := by simp; exact D9
                by_cases D10 : D = 10
                · subst D10
                  by_cases hx : x = 2
                  · as_aux_lemma =>
                      have hy : x.toNat = 2 := by rw [hx]; rfl
                      rw [hy] at hcx
                      have HX := hid (show ws[kk]? = some 2 by rw [HWX.out, hx])
                      have H := hid (fun W (hF : Fr [] w4 W) => take_yes w w4 W bM bm bb bp bw bh size n (T + 3) kk M lv l bs ws HI2.out hF hkl HMe.out HX.out)
                      clear hx hy
                      go_wp2_with fail
                      go_region_with (go_at_call 31; refine (H.out _ (Fr.drew (Fr.refl _ _))).mono ?_; rintro e w5 ⟨rfl, hm⟩; have hc5 := hm.cell kk hkw; rw [show (ws[kk]).toNat = 2 from by have := HX.out; rw [List.getElem?_eq_getElem hkw] at this; rw [Option.some.inj this]; rfl] at hc5; have hz5 := hm.fz kk; have HM5 := hid (PMid.store HI2.out hm); clear hm)
                      all_goals
                        go_wp2_with fail
                        go_meet
                        exact HM5
                  · as_aux_lemma =>
                      have hy : ¬ x.toNat = 2 := fun h => hx (UInt8.toNat_inj.1 h)
                      have HX := hid (show ws[kk]? ≠ some 2 by rw [HWX.out]; intro h; cases h; exact hx rfl)
                      have H := hid (fun W (hF : Fr [] w4 W) => take_no w w4 W bM bm bb bp bw bh size n (T + 3) kk M lv l bs ws HI2.out hF hkl HMe.out HX.out)
                      clear hx
                      generalize x.toNat = y at *
                      have hyb : ((y : Int) == 2) = false := by simp; omega
                      go_wp2_with fail
                      go_region_with (go_at_call 31; refine (H.out _ (Fr.drew (Fr.refl _ _))).mono ?_; rintro e w5 ⟨rfl, hF5⟩; have hc5 := hF5.cell hcx (by simp); have HM5 := hid (show PKeeps w w5 bM bm bb bp bw bh size n (T + 3) from ⟨_, _, _, _, HI2.out.fr0 hF5⟩); clear hF5)
                      all_goals
                        go_wp2_with fail
                        go_meet
                        exact HM5
                · have d10 : (D == 10) = false := by simp; exact D10
                  go_wp2_with fail
                  go_meet
                  exact hid ⟨_, _, _, _, HI2.out⟩
        case rest =>
          as_aux_lemma =>
            obtain ⟨lv', l', bs', ws', hI⟩ := hcut.out
            have HI6 := hid hI
            clear hI hcut HI2
            go_wp2_with fail
            refine (lent_any bM bm bb (T + 3) lv' l' bs' wc HI6.out.mem).mono ?_
            rintro e w7 ⟨v, rfl, hR, hOv, hF7⟩
            have HI7 := hid (HI6.out.fr0 hF7)
            have HR := hid hR
            clear hR hOv hF7 HI6
            have hll := HI7.out.mem.mid.can.len
            have HTT := hid (fun j => (HI7.out.mem.mid.can.take j).has.le)
            go_upto_block 3 with fail
            go_cut [20] from 67 to 242 (fun s20 wx => s20 = .int .i64 (total l' : Nat) ∧ wx = w7)
            case first =>
              rcases HR.out.2 with ⟨rfl, h0⟩ | ⟨g, cp, cur, rfl, _, hg, hnc, hcm, hcs, htake⟩
              · obtain rfl : l' = [] := List.eq_nil_of_length_eq_zero h0
                go_wp2_with fail
                refine wp_loop_rounds 1 ?_
                rw [rounds_succ]; go_wp2_with fail
                go_meet
                exact ⟨rfl, rfl⟩
              · have HRA := hid (ownsRow.rowAt HR.out rfl : RowAt w7 g l')
                clear hg htake hcs hcm HR
                go_wp2_with fail
                go_loopg [20, 23] l'.length (fun gk s q wz => ∃ j : Nat, j ≤ l'.length ∧ gk = l'.length - j ∧ q = .int .i64 j ∧ s = .int .i64 (total (l'.take j) : Nat) ∧ wz = w7)
                case atStart => exact ⟨0, Nat.zero_le _, rfl, rfl, rfl, rfl⟩
                case round =>
                  obtain ⟨j, hj, hgk2, rfl, rfl, rfl⟩ := hrel
                  have hb1 := HTT.out j
                  by_cases hjl : j < l'.length
                  · have c1 := (HRA.out j hjl).2
                    have hb2 := HTT.out (j + 1)
                    have HE := hid (total_take l' j hjl)
                    rw [HE.out] at hb2
                    have hjl' : (j : Int) < (l'.length : Int) := by omega
                    generalize sn l' j = y at *
                    generalize total (l'.take j) = z at *
                    go_wp2_with fail
                    go_roundg (l'.length - (j + 1))
                    case measure => omega
                    case rel => exact ⟨j + 1, by omega, rfl, by go_num, by rw [HE.out]; go_num, rfl⟩
                  · obtain rfl : j = l'.length := by omega
                    go_wp2_with fail
                    go_meet
                    exact ⟨by rw [List.take_length], rfl⟩
            case rest =>
              obtain ⟨rfl, rfl⟩ := hcut
              have hsum := HI7.out.sum
              have hlw := HI7.out.len
              have mulG : (givens ws' : Int) * (size : Int) = (total l' : Int) := by rw [hsum, Int.natCast_mul]
              have htt := HI7.out.mem.mid.can.has.le
              have HL := hid (left_any bp bm 3 size bw ws' wc HI7.out.pool (by omega))
              have HG := hid (givens_le ws')
              have HFr := hid (frees_le ws')
              clear hsum HTT HR hll
              go_wp2_with fail
              go_loopg [21, 24, 25] n (fun gk s t q wz => ∃ j : Nat, j ≤ n ∧ gk = n - j ∧ q = .int .i64 j ∧ s = .int .i64 (frees (ws'.take j) : Nat) ∧ t = .int .i64 (givens (ws'.take j) : Nat) ∧ wz = wc)
              case atStart => exact ⟨0, Nat.zero_le _, rfl, rfl, rfl, rfl, rfl⟩
              case round =>
                obtain ⟨j, hj, hgk2, rfl, rfl, rfl, rfl⟩ := hrel
                have f1 := frees_le (ws'.take j)
                have f2 := givens_le (ws'.take j)
                have f3 : (ws'.take j).length ≤ 16 := by simp; omega
                by_cases hjl : j < n
                · have hjw : j < ws'.length := by omega
                  have hcj := who_cell HI7.out.hld j hjw
                  have E1 := hid (frees_take ws' j hjw)
                  have E2 := hid (givens_take ws' j hjw)
                  have hjl' : (j : Int) < (n : Int) := by omega
                  generalize (ws'[j]).toNat = y at *
                  have G1 := hid (show frees (ws'.take (j + 1)) = frees (ws'.take j) + (if y = 0 then 1 else 0) from E1.out)
                  have G2 := hid (show givens (ws'.take (j + 1)) = givens (ws'.take j) + (if y = 2 then 1 else 0) from E2.out)
                  clear E1 E2
                  generalize frees (ws'.take j) = z1 at *
                  generalize givens (ws'.take j) = z2 at *
                  by_cases y0 : y = 0
                  · subst y0
                    go_wp2_with fail
                    go_roundg (n - (j + 1))
                    case measure => omega
                    case rel => exact ⟨j + 1, by omega, rfl, by go_num, by rw [G1.out]; simp, by rw [G2.out]; simp, rfl⟩
                  · have y0b : ((y : Int) == 0) = false := by simp; omega
                    by_cases y2 : y = 2
                    · subst y2
                      go_wp2_with fail
                      go_roundg (n - (j + 1))
                      case measure => omega
                      case rel => exact ⟨j + 1, by omega, rfl, by go_num, by rw [G1.out]; simp, by rw [G2.out]; simp, rfl⟩
                    · have y2b : ((y : Int) == 2) = false := by simp; omega
                      have HY := hid (show ¬ y = 0 ∧ ¬ y = 2 from ⟨y0, y2⟩)
                      go_wp2_with fail
                      go_roundg (n - (j + 1))
                      case measure => omega
                      case rel => exact ⟨j + 1, by omega, rfl, by go_num, by rw [G1.out]; simp [HY.out.1], by rw [G2.out]; simp [HY.out.2], rfl⟩
                · obtain rfl : j = n := by omega
                  have et : ws'.take j = ws' := List.take_of_length_le (by omega)
                  rw [et]
                  clear et f1 f2 f3
                  have b1 := HG.out
                  have b2 := HFr.out
                  generalize givens ws' = z2 at *
                  generalize hz1 : frees ws' = z1 at *
                  generalize total l' = z3 at *
                  go_wp2_with fail
                  refine HL.out.mono ?_
                  rintro e w8 ⟨rfl, hw⟩
                  subst hw
                  go_wp2_with fail
                  go_roundg (len - (i + 1))
                  case measure => omega
                  case rel => exact ⟨i + 1, by omega, rfl, by go_num, hid ⟨_, _, _, _, HI7.out⟩⟩
      · obtain rfl : i = len := by omega
        go_wp2_with fail
        refine (works_any _).mono ?_
        rintro e w4 ⟨rfl, hF⟩
        go_wp2
        go_ret
        obtain ⟨_, _, _, _, hI⟩ := K0.out
        exact ⟨rfl, hI.fr.trans0 hF⟩
end Go.Proofs.Ytbkfgidmjkbfmaa
