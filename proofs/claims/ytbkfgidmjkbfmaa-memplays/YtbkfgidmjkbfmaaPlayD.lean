/-
  The walk of MemPlays of the statements of package mem: whatever the size, the pool and the script, the program's memory answers as the document's.
-/
import Derived.Test.YtbkfgidmjkbfmaaPlayC
import Derived.Test.YtbkfgidmjkbfmaaLaw
import Derived.Deep.CutBlock
namespace Go.Proofs.Ytbkfgidmjkbfmaa
open Go.RowKit Go.BigFrame
set_option linter.unusedVariables false
set_option linter.unusedSimpArgs false
set_option maxRecDepth 1000000
set_option maxHeartbeats 40000000

theorem duo_new {w w1 w2 w3 w4 : World} {bM bm bb br bB bL k : Nat} (hB : w.heap.size ≤ bM ∧ w.heap.size ≤ bm ∧ w.heap.size ≤ bb) (hM : MemA w1 bM bm bb k (.slice none 0 0) [] (List.replicate k 0)) (hF1 : Fr [] w w1)
    (hR : RefA w2 br bB bL k [] (List.replicate k 0)) (hbB : w1.heap.size ≤ bB) (hbL : w1.heap.size ≤ bL) (hF2 : Fr [] w1 w2) (o : Option PB) (c : Nat) (hc : c ≤ 256) (hP : ∀ b, o = some b → PoolA w3 b.bp bm b.at_ b.size b.bw (List.replicate c 0) ∧ w2.heap.size ≤ b.bw ∧ 1 ≤ b.size ∧ b.size ≤ 1048576 ∧ b.at_ + c * b.size ≤ k) (hF3 : Fr [] w2 w3)
    (hQ : ∀ b, o = some b → RPoolA w4 b.bq br b.at_ b.size b.bv (List.replicate c 0) ∧ w3.heap.size ≤ b.bv) (hF4 : Fr [] w3 w4) :
    Duo w w4 bM bm bb br bB bL k o (.slice none 0 0) [] (List.replicate k 0) (List.replicate c 0) [] (List.replicate k 0) (List.replicate c 0) := by
  have s1 := hF1.size
  have s2 := hF2.size
  have s3 := hF3.size
  have l1 := lt_of_heap hM.bytes
  have l2 := lt_of_heap hR.bytes
  refine ⟨((hM.fr0 hF2).fr0 hF3).fr0 hF4, (hR.fr0 hF3).fr0 hF4, fun b hb => (hP b hb).1.fr hF4 (by simp) (by simp), fun b hb => (hQ b hb).1, fun b hb => by have := hP b hb; simp; omega, by simpa using hc, rfl, by omega, fun b hb => ?_, by omega, fun b hb => ?_, (fun g h => by cases h), ((hF1.trans0 hF2).trans0 hF3).trans0 hF4⟩
  · have h1 := hP b hb
    have h2 := hQ b hb
    have h3 := lt_of_heap h1.1.who
    omega
  · have h1 := hP b hb
    have h2 := hQ b hb
    omega

/-- Between the program's NewPool and the document's. -/
def NP (w2 w3 : World) (bm k at_ : Nat) (size count : Int) (v : Value) (c : Int) : Prop :=
  (c = 2 ∧ BadP size count ∧ v = .pointer none ∧ Fr [] w2 w3) ∨ (c = 10 ∧ ¬ BadP size count ∧ (k : Int) < at_ + size * count ∧ v = .pointer none ∧ Fr [] w2 w3) ∨
  (c = 0 ∧ ∃ s n bp bw : Nat, size = s ∧ count = n ∧ 1 ≤ s ∧ s ≤ 1048576 ∧ 1 ≤ n ∧ n ≤ 256 ∧ at_ + s * n ≤ k ∧ v = .pointer (some ⟨bp, 0, none⟩) ∧ PoolA w3 bp bm at_ s bw (List.replicate n 0) ∧ w2.heap.size ≤ bw ∧ Fr [] w2 w3)
theorem NP.fr {w2 w3 : World} {bm k at_ : Nat} {size count : Int} {v : Value} {c : Int} (h : NP w2 w3 bm k at_ size count v c) : Fr [] w2 w3 := by
  rcases h with ⟨_, _, _, h⟩ | ⟨_, _, _, _, h⟩ | ⟨_, _, _, _, _, _, _, _, _, _, _, _, _, _, _, h⟩
  · exact h
  · exact h
  · exact h
theorem np_real (bM bm bb k at_ : Nat) (size count : Int) (lv : Value) (l : List (Nat × Nat)) (bs : List UInt8) (w : World) (hM : MemA w bM bm bb k lv l bs) (hat : at_ < 4294967296) (hs : size ≤ 9223372036854775807) :
    Calls Try.prog 12 #[.pointer (some ⟨bM, 0, none⟩), .int .u32 at_, .int .i64 size, .int .i64 count] w fun e w' => ∃ v c, e = .returned (.tuple #[v, .int .i64 c]) ∧ Hid (NP w w' bm k at_ size count v c) :=
  (newPool_any bM bm bb k at_ size count lv l bs w hM hat hs).mono fun e w' h => by
    rcases h with ⟨h1, h2, h3⟩ | ⟨h1, h2, h3, h4⟩ | ⟨s, n, h1, h2, h3, h4, h5, h6, h7, bp, bw, h8, h9, _, h10, h11⟩
    · exact ⟨_, 2, h2, hid (.inl ⟨rfl, h1, rfl, h3⟩)⟩
    · exact ⟨_, 10, h3, hid (.inr (.inl ⟨rfl, h1, h2, rfl, h4⟩))⟩
    · exact ⟨_, 0, h8, hid (.inr (.inr ⟨rfl, s, n, bp, bw, h1, h2, h3, h4, h5, h6, h7, rfl, h9, h10, h11⟩))⟩
theorem np_ref {w w1 w2 w3 : World} {bM bm bb br bB bL k at_ : Nat} {size count : Int} {v : Value} {c : Int} (hB : w.heap.size ≤ bM ∧ w.heap.size ≤ bm ∧ w.heap.size ≤ bb) (hM : MemA w1 bM bm bb k (.slice none 0 0) [] (List.replicate k 0)) (hF1 : Fr [] w w1)
    (hR : RefA w2 br bB bL k [] (List.replicate k 0)) (hbB : w1.heap.size ≤ bB) (hbL : w1.heap.size ≤ bL) (hF2 : Fr [] w1 w2) (hN : NP w2 w3 bm k at_ size count v c) (hat : at_ < 4294967296) (hs : size ≤ 9223372036854775807) :
    Calls Try.prog 13 #[.pointer (some ⟨br, 0, none⟩), .int .u32 at_, .int .i64 size, .int .i64 count] w3 fun e w4 => ∃ v2, e = .returned (.tuple #[v2, .int .i64 c]) ∧ ∃ o, v = PB.real o ∧ v2 = PB.ref o ∧ Hid (TwoK w w4 bM bm bb br bB bL k o) := by
  refine (rnewPool_any br bB bL k at_ size count [] _ w3 (hR.fr0 hN.fr) hat hs).mono ?_
  rintro e w4 (⟨h1, h2, h3⟩ | ⟨h1, h2, h3, h4⟩ | ⟨s, n, h1, h2, h3, h4, h5, h6, h7, bq, bv, h8, h9, _, h10, h11⟩)
  · rcases hN with ⟨rfl, g1, rfl, g3⟩ | ⟨_, g1, _⟩ | ⟨_, s', n', bp, bw, g1, g2, g3, g4, g5, g6, _⟩
    · exact ⟨_, h2, none, rfl, rfl, hid ⟨_, _, _, _, duo_new hB hM hF1 hR hbB hbL hF2 none 0 (by omega) (fun b hb => by cases hb) g3 (fun b hb => by cases hb) h3⟩⟩
    · exact absurd h1 g1
    · unfold BadP at h1; omega
  · rcases hN with ⟨_, g1, _⟩ | ⟨rfl, g1, g2, rfl, g3⟩ | ⟨_, s', n', bp, bw, g1, g2, g3, g4, g5, g6, g7, _⟩
    · exact absurd g1 h1
    · exact ⟨_, h3, none, rfl, rfl, hid ⟨_, _, _, _, duo_new hB hM hF1 hR hbB hbL hF2 none 0 (by omega) (fun b hb => by cases hb) g3 (fun b hb => by cases hb) h4⟩⟩
    · subst g1; subst g2; rw [← Int.natCast_mul] at h2; omega
  · rcases hN with ⟨_, g1, _⟩ | ⟨_, g1, g2, _⟩ | ⟨rfl, s', n', bp, bw, g1, g2, g3, g4, g5, g6, g7, rfl, g8, g9, g10⟩
    · unfold BadP at g1; omega
    · subst h1; subst h2; rw [← Int.natCast_mul] at g2; omega
    · obtain rfl : s' = s := by omega
      obtain rfl : n' = n := by omega
      exact ⟨_, h8, some ⟨bp, bw, bq, bv, at_, s'⟩, rfl, rfl, hid ⟨_, _, _, _, duo_new hB hM hF1 hR hbB hbL hF2 (some ⟨bp, bw, bq, bv, at_, s'⟩) n' g6 (fun b hb => by cases hb; exact ⟨g8, g9, g3, g4, by show at_ + n' * s' ≤ k; rw [Nat.mul_comm]; exact g7⟩) g10 (fun b hb => by cases hb; exact ⟨h9, h10⟩) h11⟩⟩
theorem whose_any (w0 w : World) (bM bm bb br bB bL k : Nat) (o : Option PB) (hT : TwoK w0 w bM bm bb br bB bL k o) : Calls Try.prog 21 #[PB.real o, PB.ref o] w fun e w' => e = .returned (.bool true) ∧ Fr [] w w' := by
  obtain ⟨lv, l, bs, ws, h⟩ := hT
  cases o with
  | none => exact whose_none _ w
  | some b =>
    have hn := h.num b rfl
    have hk := h.mem.mid.top
    exact whose_some b.bp b.bw b.bq b.bv bm br b.at_ b.size ws w (h.pool b rfl) (h.rpool b rfl) hn.1 hn.2.1 h.few (by omega)

theorem memPlays_walk (size : Int) (hz : size ≤ 9223372036854775807) (at_ : Nat) (hat : at_ < 4294967296) (each count : Int) (he : each ≤ 9223372036854775807) (sv : Value) (len : Nat) (F : Nat → St) (w : World) (hS : Steps w sv len F) :
    Calls Try.prog 3 #[.int .i64 size, .int .u32 at_, .int .i64 each, .int .i64 count, sv] w fun e w' => e = .returned (.bool true) ∧ Fr [] w w' := by
  have HS := hid hS
  have hl : len ≤ maxLen := hS.1
  unfold maxLen at hl
  obtain ⟨p, cap, hsv⟩ : ∃ p cap, sv = .slice p len cap := by
    rcases hS with ⟨_, ⟨p, c, h1, h2⟩ | ⟨b, o, cap, h1, _⟩⟩
    · exact ⟨p, c, by rw [h1, h2]⟩
    · exact ⟨_, cap, h1⟩
  subst hsv
  clear hS
  go_enter Try.func3, Try.ntmps3
  go_wp2_with fail
  refine (heavy_any _ _ len F _ HS.out).mono ?_
  rintro e w' ⟨⟨b, rfl⟩, hw⟩
  subst hw
  cases b with
  | true =>
    go_wp2_with fail
    refine (works_any _).mono ?_
    rintro e w1 ⟨rfl, hF⟩
    go_wp2
    go_ret
    exact ⟨rfl, hF⟩
  | false =>
    by_cases hb : size < 1 ∨ 1048576 < size
    · go_wp2_with fail
      refine (new_bad size hb w').mono ?_
      rintro e w1 ⟨rfl, hw⟩
      subst hw
      go_wp2_with fail
      refine (rnew_bad size hb w1).mono ?_
      rintro e w2 ⟨rfl, hw⟩
      subst hw
      go_wp2_with fail
      refine (works_any _).mono ?_
      rintro e w3 ⟨rfl, hF⟩
      go_wp2
      go_ret
      exact ⟨rfl, hF⟩
    · obtain ⟨n, rfl⟩ : ∃ n : Nat, size = n := ⟨size.toNat, by omega⟩
      have hn1 : 1 ≤ n := by omega
      have hn2 : n ≤ 1048576 := by omega
      clear hb
      go_wp2_with fail
      refine (new_mem n hn1 hn2 w').mono ?_
      rintro e w1 ⟨rfl, hM1, hF1⟩
      obtain ⟨bM, hbM⟩ : ∃ b, b = w'.heap.size + 1 + 1 := ⟨_, rfl⟩
      obtain ⟨bm, hbm⟩ : ∃ b, b = w'.heap.size + 1 := ⟨_, rfl⟩
      obtain ⟨bb, hbb⟩ : ∃ b, b = w'.heap.size := ⟨_, rfl⟩
      rw [← hbM, ← hbm] at hM1
      rw [← hbM]
      have hM1' : MemA w1 bM bm bb n (.slice none 0 0) [] (List.replicate n 0) := hbb ▸ hM1
      have HM1 := hid hM1'
      have HF1 := hid hF1
      have HB := hid (show w'.heap.size ≤ bM ∧ w'.heap.size ≤ bm ∧ w'.heap.size ≤ bb by omega)
      clear hM1 hM1' hF1 hbM hbm hbb
      go_wp2_with fail
      refine (rnew_ok n hn1 hn2 w1).mono ?_
      rintro e w2 ⟨br, bB, bL, rfl, hR2, h2B, h2L, hF2⟩
      have HR2 := hid hR2
      have HF2 := hid hF2
      have H2B := hid (show w1.heap.size ≤ bB ∧ w1.heap.size ≤ bL from ⟨h2B, h2L⟩)
      clear hR2 hF2 h2B h2L
      go_wp2_with fail
      refine (size_mem bM bm bb n _ _ _ w2 (HM1.out.fr0 HF2.out)).mono ?_
      rintro e w3 ⟨rfl, hw⟩
      subst hw
      go_wp2_with fail
      refine (np_real bM bm bb n at_ each count _ _ _ w3 (HM1.out.fr0 HF2.out) hat he).mono ?_
      rintro e w4 ⟨v1, c, rfl, hN⟩
      go_wp2_with fail
      refine (np_ref HB.out HM1.out HF1.out HR2.out H2B.out.1 H2B.out.2 HF2.out hN.out hat he).mono ?_
      rintro e w5 ⟨v2, rfl, o, rfl, rfl, HT⟩
      clear hN HM1 HF1 HR2 HF2 H2B
      go_upto_region 11 with fail
      go_cut [80] from 21 to 138 (fun s80 wx => s80 = .bool false ∧ wx = w5)
      case first =>
        cases o with
        | none =>
          simp only [PB.real, PB.ref]
          go_wp2_with fail
          go_meet
          exact ⟨rfl, rfl⟩
        | some b =>
          simp only [PB.real, PB.ref]
          go_wp2_with fail
          go_meet
          exact ⟨rfl, rfl⟩
      case rest =>
        obtain ⟨rfl, rfl⟩ := hcut
        go_wp2_with fail
        go_loopg [18] len (fun gk q wr => ∃ i : Nat, i ≤ len ∧ gk = len - i ∧ q = .int .i64 i ∧ Hid (TwoK w' wr bM bm bb br bB bL n o))
        case atStart => exact ⟨0, Nat.zero_le _, rfl, rfl, HT⟩
        case round =>
          obtain ⟨i, hi, hgk, rfl, K0⟩ := hrel
          clear HT
          by_cases hlt : i < len
          · have hlt' : (i : Int) < (len : Int) := by omega
            obtain ⟨b, off, hp, r⟩ : ∃ b off, p = some ⟨b, off, none⟩ ∧ StepAt w' b (off + i * 5) (F i) := by
              rcases HS.out with ⟨_, ⟨p', c', h1, h2⟩ | ⟨b, off, cap', h1, h2⟩⟩
              · omega
              · cases h1; exact ⟨b, off, rfl, h2 i hlt⟩
            subst hp
            have r' := r.fr (show Fr [] w' wr from by obtain ⟨_, _, _, _, hD⟩ := K0.out; exact hD.fr)
            have r0 := r'.c0
            have r1 := r'.c1
            have r2 := r'.c2
            have r3 := r'.c3
            have r4 := r'.c4
            have HA := hid r'.hA
            have HX := hid r'.hX
            have HN := hid r'.hN
            have HZ := hid r'.hS
            clear r r'
            generalize F i = s at *
            obtain ⟨D, A, N, X, S⟩ := s
            simp only at *
            go_wp2_with fail
            refine (step_at w' wr bM bm bb br bB bL n ⟨D, A, N, X, S⟩ o K0.out HA.out HX.out HN.out HZ.out).mono ?_
            rintro e w6 ⟨rfl, hT6⟩
            obtain ⟨lv, l, bs, ws, hD⟩ := hT6
            have HD := hid hD
            clear hD r0 r1 r2 r3 r4 K0
            go_wp2_with fail
            refine (lent_any bM bm bb n lv l bs w6 HD.out.mem).mono ?_
            rintro e w7 ⟨v7, rfl, hR7, hO7, hF7⟩
            have HR7 := hid hR7
            have HF7 := hid hF7
            clear hR7 hO7 hF7
            go_wp2_with fail
            refine (rspans_any br bB bL n l bs w7 (HD.out.ref.fr0 HF7.out) HD.out.mem.mid.can).mono ?_
            rintro e w8 ⟨v8, rfl, hR8, hO8, hF8⟩
            have HR8 := hid hR8
            have HF8 := hid hF8
            clear hR8 hO8 hF8
            go_wp2_with fail
            refine (same_any v7 v8 l w8 (HR7.out.fr HF8.out (by simp)) HR8.out (Nat.le_trans HD.out.mem.mid.can.len (by omega))).mono ?_
            rintro e w9 ⟨rfl, hF9⟩
            have HD9 := hid (((HD.out.fr0 HF7.out).fr0 HF8.out).fr0 hF9)
            clear HD HF7 HF8 hF9 HR7 HR8
            go_upto_region 18 with fail
            go_cut [113] from 81 to 113 (fun s113 wx => s113 = .bool false ∧ wx = w9)
            case first =>
              cases o with
              | none =>
                simp only [PB.real, PB.ref]
                go_wp2_with fail
                go_meet
                exact ⟨rfl, rfl⟩
              | some b =>
                simp only [PB.real, PB.ref]
                go_wp2_with fail
                refine (left_any b.bp bm b.at_ b.size b.bw ws w9 (HD9.out.pool b rfl) HD9.out.few).mono ?_
                rintro e w10 ⟨rfl, hw⟩
                subst hw
                go_wp2_with fail
                refine (rleft_any b.bq br b.at_ b.size b.bv ws w10 (HD9.out.rpool b rfl) HD9.out.few).mono ?_
                rintro e w11 ⟨rfl, hw⟩
                subst hw
                go_wp2_with fail
                go_meet
                exact ⟨rfl, rfl⟩
            case rest =>
              obtain ⟨rfl, rfl⟩ := hcut
              go_wp2_with fail
              go_roundg (len - (i + 1))
              case measure => omega
              case rel => exact ⟨i + 1, by omega, rfl, by go_num, hid ⟨_, _, _, _, HD9.out⟩⟩
          · obtain rfl : i = len := by omega
            obtain ⟨lv, l, bs, ws, hD⟩ := K0.out
            have HD := hid hD
            have hcv := conv_all wr br bB bL n l bs hD.ref
            have c0 := hD.ref.c0
            clear hD
            go_wp2_with fail
            refine (read_full bM bm bb n lv l bs wr HD.out.mem).mono ?_
            rintro e w6 ⟨rfl, hw⟩
            subst hw
            go_wp2_with fail
            refine (whose_any w' w6 bM bm bb br bB bL n o ⟨_, _, _, _, HD.out⟩).mono ?_
            rintro e w7 ⟨rfl, hF7⟩
            go_wp2_with fail
            refine (works_any _).mono ?_
            rintro e w8 ⟨rfl, hF8⟩
            go_wp2
            go_ret
            exact ⟨rfl, (HD.out.fr.trans0 hF7).trans0 hF8⟩
end Go.Proofs.Ytbkfgidmjkbfmaa
