/-
  The walk of MemApart of the statements of package mem: whatever the script, what the driver writes and what the device writes never meets.
-/
import Derived.Test.YtbkfgidmjkbfmaaApartA
import Derived.Test.YtbkfgidmjkbfmaaWorks
import Derived.Deep.CutBlock
namespace Go.Proofs.Ytbkfgidmjkbfmaa
open Go.RowKit Go.BigFrame
set_option linter.unusedVariables false
set_option linter.unusedSimpArgs false
set_option maxRecDepth 1000000
set_option maxHeartbeats 4000000

theorem lput_any (bM bm bb k a : Nat) (n : Int) (x : Nat) (lv : Value) (l : List (Nat × Nat)) (bs : List UInt8) (hx : x < 18446744073709551616) (w : World) (hM : MemA w bM bm bb k lv l bs) (ha : a < 4294967296) :
    Calls Try.prog 23 #[.pointer (some ⟨bM, 0, none⟩), .int .u32 a, .int .i64 n, .int .u64 x] w fun e w' => ∃ c, e = .returned (.int .i64 c) ∧ Does w w' bM bm bb k lv l bs c true false := by
  have H16 := hid (mput16_any bM bm bb k a (x % 65536) lv l bs (by omega) w hM ha)
  have H32 := hid (mput32_any bM bm bb k a (x % 4294967296) lv l bs (by omega) w hM ha)
  have H64 := hid (mput64_any bM bm bb k a x lv l bs hx w hM ha)
  have HM := hid hM
  clear hM
  go_enter Try.func23, Try.ntmps23
  go_wp2_with (first
    | (go_at_call 36; refine H16.out.mono ?_; rintro e w1 ⟨c, rfl, h1⟩)
    | (go_at_call 37; refine H32.out.mono ?_; rintro e w1 ⟨c, rfl, h1⟩)
    | (go_at_call 38; refine H64.out.mono ?_; rintro e w1 ⟨c, rfl, h1⟩))
  all_goals
    go_ret
    exact ⟨c, rfl, Does.ofWrites HM.out h1⟩

/-- What the loop over the script keeps. -/
def Keeps (w wr : World) (bM bm bb n : Nat) : Prop :=
  ∃ lv l bs, MemA wr bM bm bb n lv l bs ∧ (∀ g, lv.ownBlock = some g → w.heap.size ≤ g) ∧ Fr [] w wr
theorem read_all (bM bm bb n : Nat) (lv : Value) (l : List (Nat × Nat)) (bs : List UInt8) (w : World) (hM : MemA w bM bm bb n lv l bs) :
    Calls Try.prog 20 #[.pointer (some ⟨bM, 0, none⟩), .int .u32 0, .int .i64 n] w fun e w' => e = .returned (.tuple #[.string ⟨bs.toArray⟩, .int .i64 0]) ∧ w' = w :=
  (read_ok bM bm bb n 0 n lv l bs w hM (by omega)).mono fun e w' ⟨h1, h2⟩ => ⟨by rw [h1, List.drop_zero, List.take_of_length_le (by rw [hM.len]; exact Nat.le_refl _)], h2⟩
theorem MemA.lts {w : World} {bM bm bb k : Nat} {lv : Value} {l : List (Nat × Nat)} {bs : List UInt8} (h : MemA w bM bm bb k lv l bs) : bM < w.heap.size ∧ bm < w.heap.size ∧ bb < w.heap.size ∧ ∀ g, lv.ownBlock = some g → g < w.heap.size := by
  refine ⟨lt_of_heap h.top, lt_of_heap h.mid.blk, lt_of_heap h.bytes, fun g hg => ?_⟩
  rcases h.mid.row.2 with ⟨rfl, _⟩ | ⟨g', cap, cur, rfl, _, hh, _⟩
  · cases hg
  · simp only [Value.ownBlock, Option.some.injEq] at hg
    subst hg
    exact lt_of_heap hh
theorem Keeps.fr0 {w wr wz : World} {bM bm bb n : Nat} (h : Keeps w wr bM bm bb n) (hF : Fr [] wr wz) : Keeps w wz bM bm bb n := by
  obtain ⟨lv, l, bs, h1, h2, h3⟩ := h
  exact ⟨lv, l, bs, h1.fr0 hF, h2, h3.trans0 hF⟩
theorem Keeps.step {w w4 w6 : World} {bM bm bb n : Nat} {lv lv' : Value} {l' : List (Nat × Nat)} {bs' : List UInt8} (hB : w.heap.size ≤ bM ∧ w.heap.size ≤ bm ∧ w.heap.size ≤ bb) (hM : MemA w6 bM bm bb n lv' l' bs')
    (hlo : ∀ g, lv'.ownBlock = some g → lo w4 lv ≤ g) (hFr : Fr (bm :: bb :: lv.ownBlock.toList) w4 w6) (hF4 : Fr [] w w4) (hO : ∀ g, lv.ownBlock = some g → w.heap.size ≤ g) : Keeps w w6 bM bm bb n := by
  refine ⟨lv', l', bs', hM, fun g hg => Nat.le_trans ?_ (hlo g hg), hF4.trans hFr (fun t ht => .inr ?_)⟩
  · unfold lo
    cases e : lv.ownBlock with
    | none => exact hF4.size
    | some g' => exact hO g' e
  · simp only [List.mem_cons, Option.mem_toList] at ht
    rcases ht with rfl | rfl | ht
    · exact hB.2.1
    · exact hB.2.2
    · exact hO t ht
theorem row_kept {w3 w4 w6 : World} {bM bm bb n : Nat} {v lv : Value} {l : List (Nat × Nat)} {bs : List UInt8} (hR : Row w4 v l) (hV : ∀ g, v.ownBlock = some g → w3.heap.size ≤ g) (hM : MemA w3 bM bm bb n lv l bs) (hFr : Fr (bm :: bb :: lv.ownBlock.toList) w4 w6) : Row w6 v l := by
  refine hR.fr hFr (fun g hg ht => ?_)
  have h1 := hV g hg
  have h2 := hM.lts
  simp only [List.mem_cons, Option.mem_toList] at ht
  rcases ht with rfl | rfl | ht
  · have := h2.2.1; omega
  · have := h2.2.2.1; omega
  · have := h2.2.2.2 g ht; omega
theorem byte_at (bs : List UInt8) (k : Nat) (hk : k < (⟨bs.toArray⟩ : ByteArray).size) : ∃ y1 : Nat, (∀ h : k < (⟨bs.toArray⟩ : ByteArray).size, ((⟨bs.toArray⟩ : ByteArray)[k]'h).toNat = y1) ∧ Hid (∃ u : UInt8, bs[k]? = some u ∧ u.toNat = y1) := by
  have hk' : k < bs.length := hk
  refine ⟨(bs[k]).toNat, fun h => ?_, hid ⟨bs[k], List.getElem?_eq_getElem hk', rfl⟩⟩
  rfl
theorem byte_ne {bs bs' : List UInt8} {k y1 y2 : Nat} (h1 : ∃ u : UInt8, bs'[k]? = some u ∧ u.toNat = y1) (h2 : ∃ u : UInt8, bs[k]? = some u ∧ u.toNat = y2) (h : ¬ y1 = y2) : bs'[k]? ≠ bs[k]? := by
  obtain ⟨u, hu, rfl⟩ := h1
  obtain ⟨x, hx, rfl⟩ := h2
  intro e
  rw [hu, hx] at e
  cases e
  exact h rfl
theorem memApart_walk (a : Nat) (ha : a < 65536) (sv : Value) (len : Nat) (F : Nat → St) (w : World) (hS : Steps w sv len F) :
    Calls Try.prog 4 #[.int .u16 a, sv] w fun e w' => e = .returned (.bool true) ∧ Fr [] w w' := by
  have HS := hid hS
  clear hS
  go_enter Try.func4, Try.ntmps4
  go_wp2_with fail
  refine (heavy_any _ sv len F _ HS.out).mono ?_
  rintro e w' ⟨⟨b, rfl⟩, hw⟩
  subst hw
  cases b with
  | true =>
    go_wp2_with fail
    refine (works_any _).mono ?_
    rintro e w1 ⟨rfl, hF⟩
    go_wp2
    go_ret
    exact ⟨rfl, hF⟩
  | false =>
    go_wp2_with fail
    obtain ⟨n, hn, hn1, hn2⟩ : ∃ n : Nat, ((a : Int) % 2000 + 1) = n ∧ 1 ≤ n ∧ n ≤ 2000 := ⟨a % 2000 + 1, by omega, by omega, by omega⟩
    rw [hn]
    clear hn
    refine (new_mem n hn1 (by omega) w').mono ?_
    rintro e w1 ⟨rfl, hM1, hF1⟩
    obtain ⟨bM, hbM⟩ : ∃ b, b = w'.heap.size + 1 + 1 := ⟨_, rfl⟩
    obtain ⟨bm, hbm⟩ : ∃ b, b = w'.heap.size + 1 := ⟨_, rfl⟩
    obtain ⟨bb, hbb⟩ : ∃ b, b = w'.heap.size := ⟨_, rfl⟩
    rw [← hbM, ← hbm] at hM1
    rw [← hbM]
    have HB := hid (show w'.heap.size ≤ bM ∧ w'.heap.size ≤ bm ∧ w'.heap.size ≤ bb by omega)
    have HK := hid (show Keeps w' w1 bM bm bb n from ⟨_, _, _, hbb ▸ hM1, (fun g h => by cases h), hF1⟩)
    clear hM1 hF1 hbM hbm hbb
    rcases HS.out with ⟨hl, ⟨p, c, rfl, rfl⟩ | ⟨b, o, cap, rfl, hS⟩⟩
    · go_wp2_with fail
      refine wp_loop_rounds 1 ?_
      rw [rounds_succ]; go_wp2_with fail
      refine (works_any _).mono ?_
      rintro e w2 ⟨rfl, hF⟩
      go_wp2
      go_ret
      obtain ⟨_, _, _, _, _, hF1⟩ := HK.out
      exact ⟨rfl, hF1.trans0 hF⟩
    · have HT := hid hS
      clear hS HS
      unfold maxLen at hl
      go_wp2_with fail
      go_loopg [8] len (fun gk q wr => ∃ i : Nat, i ≤ len ∧ gk = len - i ∧ q = .int .i64 i ∧ Hid (Keeps w' wr bM bm bb n))
      case atStart => exact ⟨0, Nat.zero_le _, rfl, rfl, HK⟩
      case round =>
        obtain ⟨i, hi, hgk, rfl, K0⟩ := hrel
        by_cases hlt : i < len
        · have hlt' : (i : Int) < (len : Int) := by omega
          have r := HT.out i hlt
          obtain ⟨lv, l, bs, hM, hO, hF⟩ := K0.out
          have r' := r.fr hF
          have r0 := r'.c0
          have r1 := r'.c1
          have r2 := r'.c2
          have r3 := r'.c3
          have r4 := r'.c4
          have HA := hid r'.hA
          have HX := hid r'.hX
          have HN := hid r'.hN
          have HZ := hid r'.hS
          have HM := hid hM
          have HO := hid hO
          have HF := hid hF
          clear r r' hM hO hF K0
          generalize F i = s at *
          obtain ⟨D, A, N, X, S⟩ := s
          simp only at *
          go_upto_block 2 with fail
          have F1 : Fr [] wr (wr.alloc (.cells #[.int .i64 D, .int .u32 (A : Nat), .int .i64 N, .int .u64 (X : Nat), .string S] 42)) := (Fr.refl _ _).alloc _
          have hx := heap_alloc_new wr (.cells #[.int .i64 D, .int .u32 (A : Nat), .int .i64 N, .int .u64 (X : Nat), .string S] 42)
          obtain ⟨bx, hbx⟩ : ∃ b, b = wr.heap.size := ⟨_, rfl⟩
          rw [← hbx] at hx
          rw [← hbx]
          have HBX := hid hbx
          clear hbx
          generalize wr.alloc (.cells #[.int .i64 D, .int .u32 (A : Nat), .int .i64 N, .int .u64 (X : Nat), .string S] 42) = w2 at *
          have HM2 := hid (HM.out.fr0 F1)
          refine (read_all bM bm bb n lv l bs w2 HM2.out).mono ?_
          rintro e w3 ⟨rfl, hw⟩
          subst hw
          go_upto_block 2 with fail
          refine (lent_any bM bm bb n lv l bs w3 HM2.out).mono ?_
          rintro e w4 ⟨v, rfl, hR, hOv, F2⟩
          have hx4 := F2.heap hx (by simp)
          have b0 := cell_of_heap (o := 0) hx4 rfl
          have b1 := cell_of_heap (o := 1) hx4 rfl
          have b2 := cell_of_heap (o := 2) hx4 rfl
          have b3 := cell_of_heap (o := 3) hx4 rfl
          have b4 := cell_of_heap (o := 4) hx4 rfl
          have HR := hid hR
          have HV := hid hOv
          have HM4 := hid (HM2.out.fr0 F2)
          have HF4 := hid ((HF.out.trans0 F1).trans0 F2)
          have HS3 := hid (show Fr [] w3 w4 from F2)
          have HBX3 := hid (lt_of_heap hx)
          clear hx hx4 hR hOv F1 F2
          go_upto_block 2 with fail
          go_cut [13, 14, 15] from 40 to 159 (fun s13 s14 s15 wx => ∃ c dr dv, s13 = .int .i64 c ∧ s14 = .bool dr ∧ s15 = .bool dv ∧ Hid (Does w4 wx bM bm bb n lv l bs c dr dv))
          case first =>
            obtain ⟨q, hq, hq2⟩ : ∃ q : Nat, N % 4294967296 = q ∧ q < 4294967296 := ⟨(N % 4294967296).toNat, by omega, by omega⟩
            have HQ := hid hq2
            clear hq2
            go_wp2_with (first
              | (go_at_call 22; refine (write_any bM bm bb n A lv l bs S w4 HM4.out HA.out HZ.out).mono ?_; rintro e w5 ⟨c, rfl, h5⟩; replace h5 := hid (Does.ofWrites HM4.out h5))
              | (go_at_call 23; refine (lput_any bM bm bb n A N X lv l bs HX.out w4 HM4.out HA.out).mono ?_; rintro e w5 ⟨c, rfl, h5⟩; replace h5 := hid h5)
              | (go_at_call 24; refine (mlend_any bM bm bb n A q lv l bs w4 HM4.out HA.out HQ.out).mono ?_; rintro e w5 ⟨c, rfl, h5⟩; replace h5 := hid (Does.ofLends HM4.out h5))
              | (go_at_call 25; refine (mback_any bM bm bb n A q lv l bs w4 HM4.out HA.out HQ.out).mono ?_; rintro e w5 ⟨c, rfl, h5⟩; replace h5 := hid (Does.ofBacks HM4.out h5))
              | (go_at_call 26; refine (device_any bM bm bb n A lv l bs S w4 HM4.out HA.out HZ.out).mono ?_; rintro e w5 ⟨c, rfl, h5⟩; replace h5 := hid (Does.ofDevs HM4.out h5)))
            all_goals
              go_meet
              first
                | exact ⟨c, _, _, rfl, rfl, rfl, h5⟩
                | exact ⟨0, false, false, rfl, rfl, rfl, hid (Does.same 0 false false HM4.out (Fr.refl _ _))⟩
          case rest =>
            obtain ⟨c, dr, dv, rfl, rfl, rfl, hD⟩ := hcut
            obtain ⟨lv', l', bs', hM', hch, hsm, hlo, hFr⟩ := hD.out
            have HM5 := hid hM'
            have HCH := hid hch
            have HSM := hid hsm
            have HLO := hid hlo
            have HFR := hid hFr
            have z1 : (⟨bs.toArray⟩ : ByteArray).size = n := HM4.out.len
            have z2 : (⟨bs'.toArray⟩ : ByteArray).size = n := hM'.len
            have HR6 := hid (row_kept HR.out HV.out HM2.out hFr)
            have HK6 := hid (Keeps.step HB.out hM' hlo hFr HF4.out HO.out)
            have HCN := hid HM4.out.mid.can
            clear hM' hch hsm hlo hFr hD HM4 HM2 HR HV HFR HLO HF4 HO HM HF HS3 HBX3 HBX
            go_wp2_with fail
            refine (read_all bM bm bb n lv' l' bs' wc HM5.out).mono ?_
            rintro e w6 ⟨rfl, hw⟩
            subst hw
            go_wp2_with fail
            go_loopg [18] n (fun gk q wz => ∃ k : Nat, k ≤ n ∧ gk = n - k ∧ q = .int .i64 k ∧ Hid (Fr [] w6 wz))
            case atStart => exact ⟨0, Nat.zero_le _, rfl, rfl, hid (Fr.refl _ _)⟩
            case round =>
              obtain ⟨k, hk, hgk2, rfl, K5⟩ := hrel
              by_cases hkl : k < n
              · have hkl' : (k : Int) < (n : Int) := by omega
                obtain ⟨y1, Y1, Z1⟩ : ∃ y1 : Nat, (∀ h : k < (⟨bs'.toArray⟩ : ByteArray).size, ((⟨bs'.toArray⟩ : ByteArray)[k]'h).toNat = y1) ∧ Hid (∃ u : UInt8, bs'[k]? = some u ∧ u.toNat = y1) := byte_at bs' k (by omega)
                obtain ⟨y2, Y2, Z2⟩ : ∃ y1 : Nat, (∀ h : k < (⟨bs.toArray⟩ : ByteArray).size, ((⟨bs.toArray⟩ : ByteArray)[k]'h).toNat = y1) ∧ Hid (∃ u : UInt8, bs[k]? = some u ∧ u.toNat = y1) := byte_at bs k (by omega)
                by_cases hy : y1 = y2
                · subst hy
                  go_wp2_with fail
                  go_quiet (fail)
                  go_wp2_with fail
                  go_roundg (n - (k + 1))
                  case measure => omega
                  case rel => exact ⟨k + 1, by omega, rfl, by go_num, hid (K5.out.drewN _)⟩
                · have hyb : (y1 == y2) = false := by simpa using hy
                  have hyi : ((y1 : Int) == (y2 : Int)) = false := by simp; omega
                  obtain ⟨hc, hdv, hdr⟩ := HCH.out k (byte_ne Z1.out Z2.out hy)
                  subst hc
                  by_cases hi : In l k
                  · have hv := hdv hi
                    subst hv
                    have HI := hid hi
                    clear hi hdv hdr
                    go_wp2_with fail
                    go_quiet (fail)
                    go_wp2_with (first
                      | (go_at_call 27; refine (in_is v l n k (wr.drewN nq) (HR6.out.fr (K5.out.drewN _) (by simp)) HCN.out (by omega) (by omega) true ⟨fun _ => HI.out, fun _ => rfl⟩).mono ?_; rintro e w7 ⟨rfl, hF7⟩)
                      | (go_at_call 27; refine (in_is v l n k w7 (HR6.out.fr ((K5.out.drewN _).trans0 hF7) (by simp)) HCN.out (by omega) (by omega) true ⟨fun _ => HI.out, fun _ => rfl⟩).mono ?_; rintro e w8 ⟨rfl, hF8⟩))
                    all_goals
                      go_roundg (n - (k + 1))
                      case measure => omega
                      case rel => exact ⟨k + 1, by omega, rfl, by go_num, hid (((K5.out.drewN _).trans0 hF7).trans0 hF8)⟩
                  · have hv := hdr hi
                    subst hv
                    have HI := hid hi
                    clear hi hdv hdr
                    go_wp2_with fail
                    go_quiet (fail)
                    go_wp2_with (first
                      | (go_at_call 27; refine (in_is v l n k (wr.drewN nq) (HR6.out.fr (K5.out.drewN _) (by simp)) HCN.out (by omega) (by omega) false ⟨fun h => Bool.noConfusion h, fun h => absurd h HI.out⟩).mono ?_; rintro e w7 ⟨rfl, hF7⟩)
                      | (go_at_call 27; refine (in_is v l n k w7 (HR6.out.fr ((K5.out.drewN _).trans0 hF7) (by simp)) HCN.out (by omega) (by omega) false ⟨fun h => Bool.noConfusion h, fun h => absurd h HI.out⟩).mono ?_; rintro e w8 ⟨rfl, hF8⟩))
                    all_goals
                      go_roundg (n - (k + 1))
                      case measure => omega
                      case rel => exact ⟨k + 1, by omega, rfl, by go_num, hid (((K5.out.drewN _).trans0 hF7).trans0 hF8)⟩
              · obtain rfl : k = n := by omega
                by_cases hq : c ≠ 0 ∨ dr = true ∨ dv = true
                · obtain rfl := HSM.out hq
                  have HQ := hid hq
                  clear hq
                  go_wp2_with fail
                  all_goals first
                    | (refine (lent_any bM bm bb k lv' l' bs' wr (HM5.out.fr0 K5.out)).mono ?_
                       rintro e w7 ⟨v2, rfl, hR7, hO7, hF7⟩
                       have HR7 := hid hR7
                       have HF7 := hid hF7
                       clear hR7 hO7 hF7
                       go_wp2_with fail
                       refine (same_any v v2 l' w7 ((HR6.out.fr K5.out (by simp)).fr HF7.out (by simp)) HR7.out (Nat.le_trans HCN.out.len (by omega))).mono ?_
                       rintro e w8 ⟨rfl, hF8⟩
                       go_wp2
                       go_roundg (len - (i + 1))
                       case measure => omega
                       case rel => exact ⟨i + 1, by omega, rfl, by go_num, hid (((HK6.out.fr0 K5.out).fr0 HF7.out).fr0 hF8)⟩)
                    | (go_roundg (len - (i + 1))
                       case measure => omega
                       case rel => exact ⟨i + 1, by omega, rfl, by go_num, hid (HK6.out.fr0 K5.out)⟩)
                · obtain ⟨rfl, rfl, rfl⟩ : c = 0 ∧ dr = false ∧ dv = false := by
                    refine ⟨?_, ?_, ?_⟩
                    · exact Classical.byContradiction fun h => hq (.inl h)
                    · cases dr; rfl; exact absurd (.inr (.inl rfl)) hq
                    · cases dv; rfl; exact absurd (.inr (.inr rfl)) hq
                  clear hq
                  go_wp2_with fail
                  go_roundg (len - (i + 1))
                  case measure => omega
                  case rel => exact ⟨i + 1, by omega, rfl, by go_num, hid (HK6.out.fr0 K5.out)⟩
        · obtain rfl : i = len := by omega
          go_wp2_with fail
          refine (works_any _).mono ?_
          rintro e w2 ⟨rfl, hF⟩
          go_wp2
          go_ret
          obtain ⟨_, _, _, _, _, hF1⟩ := K0.out
          exact ⟨rfl, hF1.trans0 hF⟩
end Go.Proofs.Ytbkfgidmjkbfmaa
