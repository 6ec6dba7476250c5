/-
  The walk of RingShows of the statements of package ring. No statement is proved here.
-/
import Derived.Test.YtfiaciniikcacaaRingU
namespace Go.Proofs.Ytfiaciniikcacaa
open Go.RowKit Go.BigFrame Go.MapKept
set_option linter.unusedVariables false
set_option linter.unusedSimpArgs false
set_option maxRecDepth 1000000
set_option maxHeartbeats 40000000

theorem ringShows_none (pw : Nat) (hpw : pw < 256) (p : Option Addr) (c : Nat) (w : World) :
    Calls Try.prog 6 #[.int .u8 pw, .slice p 0 c] w fun e w' => e = .returned (.bool true) ∧ Fr [] w w' := by
  go_enter Try.func6, Try.ntmps6
  go_wp2_with fail
  refine wp_loop_rounds 1 ?_
  rw [rounds_succ]; go_wp2_with fail
  obtain ⟨N, hNe, hNp, hN32⟩ : ∃ N : Nat, wrap64 (2 ^ (pw % 6)) = (N : Int) ∧ Pow N ∧ N ≤ 32 := by
    have h5 : pw % 6 < 6 := Nat.mod_lt _ (by omega)
    generalize pw % 6 = q at *
    match q, h5 with
    | 0, _ => exact ⟨1, by decide +kernel, by unfold Pow; omega, by omega⟩
    | 1, _ => exact ⟨2, by decide +kernel, by unfold Pow; omega, by omega⟩
    | 2, _ => exact ⟨4, by decide +kernel, by unfold Pow; omega, by omega⟩
    | 3, _ => exact ⟨8, by decide +kernel, by unfold Pow; omega, by omega⟩
    | 4, _ => exact ⟨16, by decide +kernel, by unfold Pow; omega, by omega⟩
    | 5, _ => exact ⟨32, by decide +kernel, by unfold Pow; omega, by omega⟩
  rw [hNe]
  clear hNe
  refine (new_mem 2000 (by omega) (by omega) w).mono ?_
  rintro e w2 ⟨rfl, hM2, hF2⟩
  obtain ⟨bM, hbM⟩ : ∃ b, b = w.heap.size + 1 + 1 := ⟨_, rfl⟩
  obtain ⟨bm, hbm⟩ : ∃ b, b = w.heap.size + 1 := ⟨_, rfl⟩
  obtain ⟨bb, hbb⟩ : ∃ b, b = w.heap.size := ⟨_, rfl⟩
  rw [← hbM, ← hbm] at hM2
  rw [← hbM]
  have hN1 : 1 ≤ N := by unfold Pow at hNp; omega
  have hrs : rSize N ≤ 900 := by unfold rSize uAt; omega
  have H10 := hid (show Calls Try.prog 10 #[.pointer (some ⟨bM, 0, none⟩), .int .u32 32, .int .i64 N] w2 fun e w' => ∃ bR bT bC, e = .returned (.tuple #[.pointer (some ⟨bR, 0, none⟩), .int .i64 0]) ∧ Hid (ShI w w' bR bM bm bb bT N bC 0) from by
    refine (rnew_rs w.heap.size bM bm bb 2000 32 N _ w2 (hbb ▸ hM2) hNp (by omega) (by omega) hF2.size (by omega) (by omega)).mono ?_
    rintro e w' ⟨bR, bT, bC, q1, q2, q3, q4, q5, q6⟩
    refine ⟨bR, bT, bC, q1, hid ⟨_, _, _, q2, num_zero32 N hNp hN32, ?_⟩⟩
    exact hF2.trans q6 (fun t ht => .inr (by simp at ht; rcases ht with rfl | rfl <;> omega)))
  clear hM2 hF2 hbM hbm hbb
  go_wp2_with fail
  refine H10.out.mono ?_
  rintro e w3 ⟨bR, bT, bC, rfl, H3⟩
  clear H10
  go_wp2_with fail
  refine wp_loop_rounds 1 ?_
  rw [rounds_succ]; go_wp2_with fail
  refine (works_any _).mono ?_
  rintro e wk ⟨rfl, hFk⟩
  go_wp2
  go_ret
  obtain ⟨_, _, _, _, _, hF3⟩ := H3.out
  exact ⟨rfl, hF3.trans0 hFk⟩
theorem ringShows_walk (pw : Nat) (hpw : pw < 256) (b o cap len : Nat) (F : Nat → Cn) (w : World) (hl : len ≤ maxLen) (hT : ∀ i, i < len → CnAt w b (o + i) (F i)) :
    Calls Try.prog 6 #[.int .u8 pw, .slice (some ⟨b, o, none⟩) len cap] w fun e w' => e = .returned (.bool true) ∧ Fr [] w w' := by
  have HT := hid hT
  clear hT
  unfold maxLen at hl
  go_enter Try.func6, Try.ntmps6
  go_wp2_with fail
  go_loopg [5, 6] len (fun gk s q wr => ∃ i n : Nat, i ≤ len ∧ i ≤ 300 ∧ gk = len - i ∧ s = .int .i64 n ∧ q = .int .i64 i ∧ Hid (n = cv F i ∧ wr = w))
  case atStart => exact ⟨0, 0, Nat.zero_le _, Nat.zero_le _, rfl, rfl, rfl, hid ⟨rfl, rfl⟩⟩
  case round =>
    obtain ⟨i, n, hi, hi3, hgk, rfl, rfl, K1⟩ := hrel
    obtain ⟨hn, hw⟩ := K1.out
    have hw' := hw.symm
    subst hw'
    have hnb : n ≤ 42221246505369600 := by
      rw [hn]
      have := cv_le F 140737488351232 i (fun j hj => (HT.out j (by omega)).hL)
      omega
    have Hn := hid hn
    clear hn K1
    by_cases hlt : i < len ∧ i < 300
    · obtain ⟨hlt, hlt3⟩ := hlt
      have hlt' : (i : Int) < (len : Int) := by omega
      have hlt3' : decide ((i : Int) < 300) = true := by simp; omega
      have r := HT.out i hlt
      have r0 := r.c0
      have hxl := r.hL
      obtain ⟨p, c, hf⟩ := r.bufs.form
      rw [hf] at r0
      have HV := hid (show cv F (i + 1) = cv F i + (F i).xs.length from rfl)
      clear r hf
      generalize (F i).xs.length = L at *
      go_wp2
      go_roundg (len - (i + 1))
      case measure => omega
      case rel => exact ⟨i + 1, n + L, by omega, by omega, rfl, by go_num, by go_num, hid ⟨by rw [HV.out, Hn.out], rfl⟩⟩
    · by_cases h2 : 60 < len
      · have d2 : decide ((60 : Int) < (len : Int)) = true := by simp; omega
        go_wp2_with fail
        all_goals
          refine (works_any _).mono ?_
          rintro e wk ⟨rfl, hFk⟩
          go_wp2
          go_ret
          exact ⟨rfl, hFk⟩
      · have d2 : decide ((60 : Int) < (len : Int)) = false := by simp; omega
        obtain rfl : i = len := by omega
        by_cases h3 : 300 < n
        · have d3 : decide ((300 : Int) < (n : Int)) = true := by simp; omega
          go_wp2_with fail
          refine (works_any _).mono ?_
          rintro e wk ⟨rfl, hFk⟩
          go_wp2
          go_ret
          exact ⟨rfl, hFk⟩
        · have d3 : decide ((300 : Int) < (n : Int)) = false := by simp; omega
          have Hcv := hid (show cv F i ≤ 300 by rw [← Hn.out]; omega)
          generalize i = len at *
          clear hlt Hn
          go_wp2_with fail
          obtain ⟨N, hNe, hNp, hN32⟩ : ∃ N : Nat, wrap64 (2 ^ (pw % 6)) = (N : Int) ∧ Pow N ∧ N ≤ 32 := by
            have h5 : pw % 6 < 6 := Nat.mod_lt _ (by omega)
            generalize pw % 6 = q at *
            match q, h5 with
            | 0, _ => exact ⟨1, by decide +kernel, by unfold Pow; omega, by omega⟩
            | 1, _ => exact ⟨2, by decide +kernel, by unfold Pow; omega, by omega⟩
            | 2, _ => exact ⟨4, by decide +kernel, by unfold Pow; omega, by omega⟩
            | 3, _ => exact ⟨8, by decide +kernel, by unfold Pow; omega, by omega⟩
            | 4, _ => exact ⟨16, by decide +kernel, by unfold Pow; omega, by omega⟩
            | 5, _ => exact ⟨32, by decide +kernel, by unfold Pow; omega, by omega⟩
          rw [hNe]
          clear hNe
          refine (new_mem 2000 (by omega) (by omega) w).mono ?_
          rintro e w2 ⟨rfl, hM2, hF2⟩
          obtain ⟨bM, hbM⟩ : ∃ b, b = w.heap.size + 1 + 1 := ⟨_, rfl⟩
          obtain ⟨bm, hbm⟩ : ∃ b, b = w.heap.size + 1 := ⟨_, rfl⟩
          obtain ⟨bb, hbb⟩ : ∃ b, b = w.heap.size := ⟨_, rfl⟩
          rw [← hbM, ← hbm] at hM2
          rw [← hbM]
          have hN1 : 1 ≤ N := by unfold Pow at hNp; omega
          have hrs : rSize N ≤ 900 := by unfold rSize uAt; omega
          have H10 := hid (show Calls Try.prog 10 #[.pointer (some ⟨bM, 0, none⟩), .int .u32 32, .int .i64 N] w2 fun e w' => ∃ bR bT bC, e = .returned (.tuple #[.pointer (some ⟨bR, 0, none⟩), .int .i64 0]) ∧ Hid (ShI w w' bR bM bm bb bT N bC 0) from by
            refine (rnew_rs w.heap.size bM bm bb 2000 32 N _ w2 (hbb ▸ hM2) hNp (by omega) (by omega) hF2.size (by omega) (by omega)).mono ?_
            rintro e w' ⟨bR, bT, bC, q1, q2, q3, q4, q5, q6⟩
            refine ⟨bR, bT, bC, q1, hid ⟨_, _, _, q2, num_zero32 N hNp hN32, ?_⟩⟩
            exact hF2.trans q6 (fun t ht => .inr (by simp at ht; rcases ht with rfl | rfl <;> omega)))
          clear hM2 hF2 hbM hbm hbb
          go_wp2_with fail
          refine H10.out.mono ?_
          rintro e w3 ⟨bR, bT, bC, rfl, H3⟩
          clear H10
          obtain ⟨AA, hAA⟩ : ∃ A, A = 32 + 16 * N := ⟨_, rfl⟩
          have HAA := hid hAA
          have hAAb : AA ≤ 600 := by omega
          clear hAA
          go_wp2_with fail
          go_loopg [11, 12] len (fun gk s q wr => ∃ i seen : Nat, i ≤ len ∧ gk = len - i ∧ seen < 65536 ∧ s = .int .u16 seen ∧ q = .int .i64 i ∧ Hid (ShI w wr bR bM bm bb bT N bC seen))
          case atStart => exact ⟨0, 0, Nat.zero_le _, rfl, by omega, rfl, rfl, H3⟩
          case round =>
            obtain ⟨i, seen, hi, hgk2, hsn, rfl, rfl, K0⟩ := hrel
            by_cases hlt : i < len
            · have hlt' : (i : Int) < (len : Int) := by omega
              obtain ⟨tk, cs, bs, hR, hnum, hF⟩ := K0.out
              have r := (HT.out i hlt).fr hF
              have r0 := r.c0
              have hxs : (F i).xs.length ≤ 300 := by
                have := cv_mono F len i hlt
                have := Hcv.out
                omega
              have HB := hid r.bufs
              have HBw := hid (HT.out i hlt).bufs
              obtain ⟨pL, cL, hf⟩ := r.bufs.form
              rw [hf] at r0 HB HBw
              have HR := hid hR
              have HF := hid hF
              have Hnum := hid hnum
              have CA := hid (fun (W : World) (hFW : Fr [] w W) => (show CnAt W b (o + i) ⟨.slice pL (F i).xs.length cL, (F i).xs⟩ from by have := (HT.out i hlt).fr hFW; rw [← hf]; exact this))
              clear r hf hR hnum hF K0
              generalize (F i).xs = xs at *
              go_wp2_with fail
              refine (copied_any _ xs wr HB.out (by omega)).mono ?_
              rintro e w4 ⟨v4, rfl, hA4, hF4⟩
              have HA4 := hid hA4
              have HF4 := hid hF4
              clear hA4 hF4
              go_wp2_with fail
              refine (radd_all w.heap.size bR bM bm bb 2000 32 bT N bC seen 0 (Zr 32 N) false tk cs bs v4 xs w4 (HR.out.fr0 HF4.out) HA4.out).mono ?_
              have H25 := hid (fun (W : World) (idx : Nat) (tk' : List Bool) (cs' : List Ch) (bs' : List UInt8) (h : RS w.heap.size W bR bM bm bb 2000 32 bT N bC (Zr 32 N) idx 0 false tk' cs' bs') => (show Calls Try.prog 25 #[.pointer (some ⟨bR, 0, none⟩)] W fun e w' => e = .returned (.int .u32 (AA : Nat)) ∧ ∃ d, w' = W.drewN d from by rw [HAA.out]; exact Avail_any bR bM 32 bT N bC idx 0 false tk' W h.ring (by omega) (by omega)))
              have H26q := hid (fun (W : World) (idx a : Nat) (tk' : List Bool) (cs' : List Ch) (bs' : List UInt8) (h : RS w.heap.size W bR bM bm bb 2000 32 bT N bC (Zr 32 N) idx 0 false tk' cs' bs') (ha : a + 2 ≤ 2000) => (show Calls Try.prog 26 #[.pointer (some ⟨bM, 0, none⟩), .int .u32 (a : Nat)] W fun e w' => e = .returned (.tuple #[.int .u16 (num bs' a 2 : Nat), .int .i64 0]) ∧ ∃ d, w' = W.drewN d from by
                obtain ⟨l, ⟨lv, hM, _⟩, _⟩ := h.mem
                exact u16_q bM bm bb 2000 a lv l bs' W hM ha))
              have wA2 : IntKind.u32.wrap ((AA : Int) + 2) = (AA : Int) + 2 := by rw [IntKind.wrap_u32]; omega
              rintro e w5 (⟨cc, hW, rfl, hR5, hK5⟩ | ⟨hb, hm, hin, ch, hcx, hds, hfl, rfl, hfr, hR5, hK5⟩)
              · have hc0 : (cc == 0) = false := by have := hW.ne; simpa using this
                have hc0' : ¬ cc = 0 := hW.ne
                have hc0n : (cc != 0) = true := by simp [bne, hc0]
                have HR5 := hid hR5
                have HI := hid (show ShI w (w5) bR bM bm bb bT N bC seen from ⟨tk, cs, bs, hR5, Hnum.out, (HF.out.trans0 HF4.out).kpT hK5 hR5.lowS⟩)
                clear hR5 hK5 hW
                go_wp2_with fail
                refine (H25.out w5 _ _ _ _ HR5.out).mono ?_
                rintro e w6 ⟨rfl, d1, hw⟩
                subst hw
                have H26' := hid (show Calls Try.prog 26 #[.pointer (some ⟨bM, 0, none⟩), .int .u32 ((AA : Int) + 2)] (w5.drewN d1) fun e w' => e = .returned (.tuple #[.int .u16 (seen : Nat), .int .i64 0]) ∧ ∃ d, w' = (w5.drewN d1).drewN d from by
                  have h := H26q.out (w5.drewN d1) seen (AA + 2) tk cs bs (HR5.out.fr0 ((Fr.refl _ _).drewN _)) (by omega)
                  rw [HAA.out, Hnum.out] at h
                  rw [HAA.out, show (((32 + 16 * N : Nat) : Int) + 2) = ((32 + 16 * N + 2 : Nat) : Int) from by omega]
                  exact h)
                go_wp2_with fail
                refine H26'.out.mono ?_
                rintro e w7 ⟨rfl, d2, hw⟩
                subst hw
                go_wp2
                go_roundg (len - (i + 1))
                case measure => omega
                case rel => exact ⟨i + 1, seen, by omega, rfl, hsn, rfl, by go_num, hid (by obtain ⟨a1, a2, a3, a4, a5, a6⟩ := HI.out; exact ⟨a1, a2, a3, a4.fr0 ((Fr.refl _ _).drewN _), a5, a6.drewN _⟩)⟩
              · have hx1 := mayB_len hm
                obtain ⟨b2, o2, cap2, hfm, hBuf⟩ : ∃ b2 o2 cap2, Value.slice pL xs.length cL = .slice (some ⟨b2, o2, none⟩) xs.length cap2 ∧ ∀ j (h : j < xs.length), BufAt w b2 (o2 + j * 3) xs[j] := by
                  rcases HBw.out with ⟨p', c', h1, h2⟩ | ⟨b2, o2, cap2, h1, h2, h3⟩
                  · subst h2; simp at hx1
                  · exact ⟨b2, o2, cap2, h1, h3⟩
                cases hfm
                have hcm : ch ∈ cs ++ [ch] := by simp
                have hhN := hR5.hlt hcm
                have hS := shown (w' := w4) (ch := ch) (HR.out.fr0 HF4.out) (fun x hx => by
                  obtain ⟨j, hj, rfl⟩ := List.mem_iff_getElem.1 hx
                  exact ⟨(hBuf j hj).hA, (hBuf j hj).hL⟩) hfl (by omega)
                have hd0 : (frK tk xs.length N).getD 0 0 = ch.h := by
                  have := (hR5.chs ch hcm).hd
                  rw [hds] at this
                  simp [List.getD_eq_getElem?_getD, this]
                generalize offW (dW bs 32 (frK tk xs.length N) xs xs.length) 32 N seen ch.h = bs' at *
                generalize frK tk xs.length N = ds at *
                obtain ⟨s1, hs1⟩ : ∃ s1, s1 = (seen + 1) % 65536 := ⟨_, rfl⟩
                rw [← hs1] at hR5 hS
                have hs1b : s1 < 65536 := by omega
                have ws1 : IntKind.u16.wrap ((seen : Int) + 1) = (s1 : Int) := by rw [IntKind.wrap_u16]; omega
                have wsub : IntKind.u16.wrap ((s1 : Int) - 1) = (seen : Int) := by rw [IntKind.wrap_u16]; omega
                have wse : IntKind.i64.wrap (seen : Int) = seen := by rw [IntKind.wrap_i64]; omega
                obtain ⟨q, hq⟩ : ∃ q, q = seen % N := ⟨_, rfl⟩
                have hqb : q < N := by rw [hq]; exact Nat.mod_lt _ (by omega)
                have hremq : (seen : Int) % (N : Int) = (q : Int) := by rw [hq, Int.natCast_emod]
                have hNz : ¬ (N : Int) = 0 := by omega
                have wq : IntKind.u32.wrap (q : Int) = q := by rw [IntKind.wrap_u32]; omega
                have w2q : IntKind.u32.wrap (2 * (q : Int)) = 2 * (q : Int) := by rw [IntKind.wrap_u32]; omega
                have wA4 : IntKind.u32.wrap ((AA : Int) + 4) = (AA : Int) + 4 := by rw [IntKind.wrap_u32]; omega
                obtain ⟨E, hE⟩ : ∃ E, E = AA + 4 + 2 * q := ⟨_, rfl⟩
                have wE : IntKind.u32.wrap ((AA : Int) + 4 + 2 * (q : Int)) = (E : Int) := by rw [IntKind.wrap_u32]; omega
                have hEb : E + 2 ≤ 2000 := by omega
                have HR5 := hid hR5
                have HF5 := hid ((HF.out.trans0 HF4.out).kpT hK5 hR5.lowS)
                have HS := hid hS
                have Hd0 := hid hd0
                have HBuf := hid hBuf
                have HEq := hid (show E = 32 + 16 * N + 4 + 2 * (seen % N) by rw [hE, hq, HAA.out])
                clear hs1 hq hE hR5 hK5 hS hd0 hBuf hb hm hin hcx hds hfr hcm HB HBw HA4
                go_wp2_with fail
                refine (H25.out w5 _ _ _ _ HR5.out).mono ?_
                rintro e w6 ⟨rfl, d1, hw⟩
                subst hw
                have H26' := hid (show Calls Try.prog 26 #[.pointer (some ⟨bM, 0, none⟩), .int .u32 ((AA : Int) + 2)] (w5.drewN d1) fun e w' => e = .returned (.tuple #[.int .u16 (s1 : Nat), .int .i64 0]) ∧ ∃ d, w' = (w5.drewN d1).drewN d from by
                  have h := H26q.out (w5.drewN d1) _ (AA + 2) _ _ _ (HR5.out.fr0 ((Fr.refl _ _).drewN _)) (by omega)
                  rw [HAA.out, HS.out.1] at h
                  rw [HAA.out, show (((32 + 16 * N : Nat) : Int) + 2) = ((32 + 16 * N + 2 : Nat) : Int) from by omega]
                  exact h)
                go_wp2_with fail
                refine H26'.out.mono ?_
                rintro e w7 ⟨rfl, d2, hw⟩
                subst hw
                go_wp2_with fail
                have HR0 := hid (HR5.out.fr0 ((Fr.refl _ w5).drewN (d1 + d2)))
                have HF0 := hid (HF5.out.drewN (d1 + d2))
                generalize w5.drewN (d1 + d2) = W0 at *
                have H25d := hid (fun d => H25.out (W0.drewN d) _ _ _ _ (HR0.out.fr0 ((Fr.refl _ _).drewN _)))
                have H26d := hid (fun d => (show Calls Try.prog 26 #[.pointer (some ⟨bM, 0, none⟩), .int .u32 (E : Nat)] (W0.drewN d) fun e w' => e = .returned (.tuple #[.int .u16 (ch.h : Nat), .int .i64 0]) ∧ ∃ d', w' = (W0.drewN d).drewN d' from by
                  have h := H26q.out (W0.drewN d) _ E _ _ _ (HR0.out.fr0 ((Fr.refl _ _).drewN _)) hEb
                  have h2 := HS.out.2.1
                  rw [← HEq.out] at h2
                  rw [h2] at h
                  exact h))
                clear H26' H26q
                go_quiet (first | exact Calls.quiet_of (H25d.out _) | exact Calls.quiet_of (H26d.out _))
                have HF6 := hid (HF0.out.drewN nq)
                have HR6 := hid (HR0.out.fr0 ((Fr.refl _ W0).drewN nq))
                clear H25d H26d HR5 HF5 wE wA4 w2q wq hremq wse wsub ws1 wA2 HR0 HF0 H25 HR
                generalize W0.drewN nq = w6 at *
                go_wp2_with fail
                go_loopg [19, 20] xs.length (fun gk s q wz => ∃ k : Nat, k ≤ xs.length ∧ gk = xs.length - k ∧ s = .int .u16 (ds.getD k 0 : Nat) ∧ q = .int .i64 k ∧ Hid (Fr [] w6 wz))
                case atStart => exact ⟨0, Nat.zero_le _, rfl, by rw [Hd0.out], rfl, hid (Fr.refl _ _)⟩
                case round =>
                  obtain ⟨k, hk, hgk3, rfl, rfl, K5⟩ := hrel
                  have c0z := (CA.out wr (HF6.out.trans0 K5.out)).c0
                  by_cases hkl : k < xs.length
                  · have hkl' : (k : Int) < (xs.length : Int) := by omega
                    have qx := (HBuf.out k hkl).fr (HF6.out.trans0 K5.out) (show b2 ∉ [] by simp)
                    have x0 := qx.c0
                    have x1 := qx.c1
                    have x2 := qx.c2
                    have hxA := qx.hA
                    have hxL := qx.hL
                    have HN := hid (HS.out.2.2 k hkl)
                    clear qx
                    generalize xs[k] = x at *
                    obtain ⟨xA, xL, xI⟩ := x
                    simp only at *
                    generalize ds.getD k 0 = dk at *
                    have hdkN := HN.out.2.2.2.2
                    have wdk : IntKind.u32.wrap (dk : Int) = dk := by rw [IntKind.wrap_u32]; omega
                    have w16 : IntKind.u32.wrap (16 * (dk : Int)) = 16 * (dk : Int) := by rw [IntKind.wrap_u32]; omega
                    have w32 : IntKind.u32.wrap (32 + 16 * (dk : Int)) = 32 + 16 * (dk : Int) := by rw [IntKind.wrap_u32]; omega
                    have w40 : IntKind.u32.wrap (32 + 16 * (dk : Int) + 8) = 32 + 16 * (dk : Int) + 8 := by rw [IntKind.wrap_u32]; omega
                    have w44 : IntKind.u32.wrap (32 + 16 * (dk : Int) + 12) = 32 + 16 * (dk : Int) + 12 := by rw [IntKind.wrap_u32]; omega
                    have w46 : IntKind.u32.wrap (32 + 16 * (dk : Int) + 14) = 32 + 16 * (dk : Int) + 14 := by rw [IntKind.wrap_u32]; omega
                    have wxA : IntKind.u64.wrap (xA : Int) = xA := wraps_u64 _ (by omega) (by omega)
                    have wdi : IntKind.i64.wrap (dk : Int) = dk := by rw [IntKind.wrap_i64]; omega
                    have hge : decide ((N : Int) ≤ (dk : Int)) = false := by simp; omega
                    obtain ⟨nb, hnb'⟩ : ∃ nb, nb = wr.heap.size := ⟨_, rfl⟩
                    have HFz := hid (show Fr [] w6 (wr.alloc (.cells #[.int .u32 (xA : Nat), .int .u32 (xL : Nat), .bool xI] 59)) ∧ (wr.alloc (.cells #[.int .u32 (xA : Nat), .int .u32 (xL : Nat), .bool xI] 59)).heap[nb]? = some (.cells #[.int .u32 (xA : Nat), .int .u32 (xL : Nat), .bool xI] 59) from ⟨K5.out.alloc _, by rw [hnb']; exact heap_alloc_new wr _⟩)
                    have H27 := hid (fun (W : World) (hQ : Fr [] w6 W ∧ W.heap[nb]? = some (.cells #[.int .u32 (xA : Nat), .int .u32 (xL : Nat), .bool xI] 59)) => (show Calls Try.prog 27 #[.pointer (some ⟨bM, 0, none⟩), .int .u32 (32 + 16 * (dk : Int))] W fun e w' => e = .returned (.tuple #[.int .u64 (xA : Nat), .int .i64 0]) ∧ Hid (Fr [] w6 w' ∧ w'.heap[nb]? = some (.cells #[.int .u32 (xA : Nat), .int .u32 (xL : Nat), .bool xI] 59)) from by
                      obtain ⟨l, ⟨lv, hM, _⟩, _⟩ := (HR6.out.fr0 hQ.1).mem
                      have h := u64_is bM bm bb 2000 (32 + 16 * dk) lv l bs' W hM (by omega)
                      rw [HN.out.1] at h
                      rw [show (32 + 16 * (dk : Int)) = ((32 + 16 * dk : Nat) : Int) from by omega]
                      exact h.mono fun e w' ⟨q1, q2⟩ => ⟨q1, hid ⟨hQ.1.trans0 q2, q2.heap hQ.2 (by simp)⟩⟩))
                    have H28 := hid (fun (W : World) (hQ : Fr [] w6 W ∧ W.heap[nb]? = some (.cells #[.int .u32 (xA : Nat), .int .u32 (xL : Nat), .bool xI] 59)) => (show Calls Try.prog 28 #[.pointer (some ⟨bM, 0, none⟩), .int .u32 (32 + 16 * (dk : Int) + 8)] W fun e w' => e = .returned (.tuple #[.int .u32 (xL : Nat), .int .i64 0]) ∧ Hid (Fr [] w6 w' ∧ w'.heap[nb]? = some (.cells #[.int .u32 (xA : Nat), .int .u32 (xL : Nat), .bool xI] 59)) from by
                      obtain ⟨l, ⟨lv, hM, _⟩, _⟩ := (HR6.out.fr0 hQ.1).mem
                      have h := u32_is bM bm bb 2000 (32 + 16 * dk + 8) lv l bs' W hM (by omega)
                      rw [HN.out.2.1] at h
                      rw [show (32 + 16 * (dk : Int) + 8) = ((32 + 16 * dk + 8 : Nat) : Int) from by omega]
                      exact h.mono fun e w' ⟨q1, q2⟩ => ⟨q1, hid ⟨hQ.1.trans0 q2, q2.heap hQ.2 (by simp)⟩⟩))
                    have H26b := hid (fun (W : World) (hQ : Fr [] w6 W ∧ W.heap[nb]? = some (.cells #[.int .u32 (xA : Nat), .int .u32 (xL : Nat), .bool xI] 59)) => (show Calls Try.prog 26 #[.pointer (some ⟨bM, 0, none⟩), .int .u32 (32 + 16 * (dk : Int) + 14)] W fun e w' => e = .returned (.tuple #[.int .u16 (ds.getD (k + 1) 0 : Nat), .int .i64 0]) ∧ Hid (Fr [] w6 w' ∧ w'.heap[nb]? = some (.cells #[.int .u32 (xA : Nat), .int .u32 (xL : Nat), .bool xI] 59)) from by
                      obtain ⟨l, ⟨lv, hM, _⟩, _⟩ := (HR6.out.fr0 hQ.1).mem
                      have h := u16_is bM bm bb 2000 (32 + 16 * dk + 14) lv l bs' W hM (by omega)
                      rw [HN.out.2.2.2.1] at h
                      rw [show (32 + 16 * (dk : Int) + 14) = ((32 + 16 * dk + 14 : Nat) : Int) from by omega]
                      exact h.mono fun e w' ⟨q1, q2⟩ => ⟨q1, hid ⟨hQ.1.trans0 q2, q2.heap hQ.2 (by simp)⟩⟩))
                    rw [hnb'] at HFz H27 H28 H26b
                    clear hnb' nb
                    by_cases hmore : k + 1 < xs.length
                    · cases xI with
                      | true =>
                        have hlast : ((k : Int) == (xs.length : Int) - 1) = false := by simp; omega
                        have b1 : bits .and .u16 3 1 = 1 := by decide +kernel
                        have b2' : bits .and .u16 3 2 = 2 := by decide +kernel
                        have H26a := hid (fun (W : World) (hQ : Fr [] w6 W ∧ W.heap[wr.heap.size]? = some (.cells #[.int .u32 (xA : Nat), .int .u32 (xL : Nat), .bool true] 59)) => (show Calls Try.prog 26 #[.pointer (some ⟨bM, 0, none⟩), .int .u32 (32 + 16 * (dk : Int) + 12)] W fun e w' => e = .returned (.tuple #[.int .u16 3, .int .i64 0]) ∧ Hid (Fr [] w6 w' ∧ w'.heap[wr.heap.size]? = some (.cells #[.int .u32 (xA : Nat), .int .u32 (xL : Nat), .bool true] 59)) from by
                          obtain ⟨l, ⟨lv, hM, _⟩, _⟩ := (HR6.out.fr0 hQ.1).mem
                          have h := u16_is bM bm bb 2000 (32 + 16 * dk + 12) lv l bs' W hM (by omega)
                          rw [HN.out.2.2.1] at h
                          rw [show (32 + 16 * (dk : Int) + 12) = ((32 + 16 * dk + 12 : Nat) : Int) from by omega]
                          exact h.mono fun e w' ⟨q1, q2⟩ => ⟨by rw [q1]; simp [flg, hmore], hid ⟨hQ.1.trans0 q2, q2.heap hQ.2 (by simp)⟩⟩))
                        have Hmore := hid hmore
                        clear hmore
                        go_wp2_with fail
                        refine (H27.out _ HFz.out).mono ?_
                        rintro e wa ⟨rfl, hFa⟩
                        go_wp2_with fail
                        refine (H28.out _ hFa.out).mono ?_
                        rintro e wb ⟨rfl, hFb⟩
                        go_wp2_with fail
                        refine (H26a.out _ hFb.out).mono ?_
                        rintro e wc ⟨rfl, hFc⟩
                        go_wp2_with fail
                        refine (H26b.out _ hFc.out).mono ?_
                        rintro e wd ⟨rfl, hFd⟩
                        have r0d := (CA.out wd (HF6.out.trans0 hFd.out.1)).c0
                        have y0 : wd.cell? ⟨wr.heap.size, 0, none⟩ = some (.int .u32 (xA : Nat)) := cell_of_heap hFd.out.2 rfl
                        have y1 : wd.cell? ⟨wr.heap.size, 1, none⟩ = some (.int .u32 (xL : Nat)) := cell_of_heap hFd.out.2 rfl
                        have y2 : wd.cell? ⟨wr.heap.size, 2, none⟩ = some (.bool true) := cell_of_heap hFd.out.2 rfl
                        go_wp2
                        go_roundg (xs.length - (k + 1))
                        case measure => omega
                        case rel => exact ⟨k + 1, by omega, rfl, rfl, by go_num, hid hFd.out.1⟩
                      | false =>
                        have hlast : ((k : Int) == (xs.length : Int) - 1) = false := by simp; omega
                        have b1 : bits .and .u16 1 1 = 1 := by decide +kernel
                        have b2' : bits .and .u16 1 2 = 0 := by decide +kernel
                        have H26a := hid (fun (W : World) (hQ : Fr [] w6 W ∧ W.heap[wr.heap.size]? = some (.cells #[.int .u32 (xA : Nat), .int .u32 (xL : Nat), .bool false] 59)) => (show Calls Try.prog 26 #[.pointer (some ⟨bM, 0, none⟩), .int .u32 (32 + 16 * (dk : Int) + 12)] W fun e w' => e = .returned (.tuple #[.int .u16 1, .int .i64 0]) ∧ Hid (Fr [] w6 w' ∧ w'.heap[wr.heap.size]? = some (.cells #[.int .u32 (xA : Nat), .int .u32 (xL : Nat), .bool false] 59)) from by
                          obtain ⟨l, ⟨lv, hM, _⟩, _⟩ := (HR6.out.fr0 hQ.1).mem
                          have h := u16_is bM bm bb 2000 (32 + 16 * dk + 12) lv l bs' W hM (by omega)
                          rw [HN.out.2.2.1] at h
                          rw [show (32 + 16 * (dk : Int) + 12) = ((32 + 16 * dk + 12 : Nat) : Int) from by omega]
                          exact h.mono fun e w' ⟨q1, q2⟩ => ⟨by rw [q1]; simp [flg, hmore], hid ⟨hQ.1.trans0 q2, q2.heap hQ.2 (by simp)⟩⟩))
                        have Hmore := hid hmore
                        clear hmore
                        go_wp2_with fail
                        refine (H27.out _ HFz.out).mono ?_
                        rintro e wa ⟨rfl, hFa⟩
                        go_wp2_with fail
                        refine (H28.out _ hFa.out).mono ?_
                        rintro e wb ⟨rfl, hFb⟩
                        go_wp2_with fail
                        refine (H26a.out _ hFb.out).mono ?_
                        rintro e wc ⟨rfl, hFc⟩
                        go_wp2_with fail
                        refine (H26b.out _ hFc.out).mono ?_
                        rintro e wd ⟨rfl, hFd⟩
                        have r0d := (CA.out wd (HF6.out.trans0 hFd.out.1)).c0
                        have y0 : wd.cell? ⟨wr.heap.size, 0, none⟩ = some (.int .u32 (xA : Nat)) := cell_of_heap hFd.out.2 rfl
                        have y1 : wd.cell? ⟨wr.heap.size, 1, none⟩ = some (.int .u32 (xL : Nat)) := cell_of_heap hFd.out.2 rfl
                        have y2 : wd.cell? ⟨wr.heap.size, 2, none⟩ = some (.bool false) := cell_of_heap hFd.out.2 rfl
                        go_wp2
                        go_roundg (xs.length - (k + 1))
                        case measure => omega
                        case rel => exact ⟨k + 1, by omega, rfl, rfl, by go_num, hid hFd.out.1⟩
                    · cases xI with
                      | true =>
                        have hlast : ((k : Int) == (xs.length : Int) - 1) = true := by simp; omega
                        have b1 : bits .and .u16 2 1 = 0 := by decide +kernel
                        have b2' : bits .and .u16 2 2 = 2 := by decide +kernel
                        have H26a := hid (fun (W : World) (hQ : Fr [] w6 W ∧ W.heap[wr.heap.size]? = some (.cells #[.int .u32 (xA : Nat), .int .u32 (xL : Nat), .bool true] 59)) => (show Calls Try.prog 26 #[.pointer (some ⟨bM, 0, none⟩), .int .u32 (32 + 16 * (dk : Int) + 12)] W fun e w' => e = .returned (.tuple #[.int .u16 2, .int .i64 0]) ∧ Hid (Fr [] w6 w' ∧ w'.heap[wr.heap.size]? = some (.cells #[.int .u32 (xA : Nat), .int .u32 (xL : Nat), .bool true] 59)) from by
                          obtain ⟨l, ⟨lv, hM, _⟩, _⟩ := (HR6.out.fr0 hQ.1).mem
                          have h := u16_is bM bm bb 2000 (32 + 16 * dk + 12) lv l bs' W hM (by omega)
                          rw [HN.out.2.2.1] at h
                          rw [show (32 + 16 * (dk : Int) + 12) = ((32 + 16 * dk + 12 : Nat) : Int) from by omega]
                          exact h.mono fun e w' ⟨q1, q2⟩ => ⟨by rw [q1]; simp [flg, hmore], hid ⟨hQ.1.trans0 q2, q2.heap hQ.2 (by simp)⟩⟩))
                        have Hmore := hid hmore
                        clear hmore
                        go_wp2_with fail
                        refine (H27.out _ HFz.out).mono ?_
                        rintro e wa ⟨rfl, hFa⟩
                        go_wp2_with fail
                        refine (H28.out _ hFa.out).mono ?_
                        rintro e wb ⟨rfl, hFb⟩
                        go_wp2_with fail
                        refine (H26a.out _ hFb.out).mono ?_
                        rintro e wc ⟨rfl, hFc⟩
                        go_wp2_with fail
                        refine (H26b.out _ hFc.out).mono ?_
                        rintro e wd ⟨rfl, hFd⟩
                        have r0d := (CA.out wd (HF6.out.trans0 hFd.out.1)).c0
                        have y0 : wd.cell? ⟨wr.heap.size, 0, none⟩ = some (.int .u32 (xA : Nat)) := cell_of_heap hFd.out.2 rfl
                        have y1 : wd.cell? ⟨wr.heap.size, 1, none⟩ = some (.int .u32 (xL : Nat)) := cell_of_heap hFd.out.2 rfl
                        have y2 : wd.cell? ⟨wr.heap.size, 2, none⟩ = some (.bool true) := cell_of_heap hFd.out.2 rfl
                        go_wp2
                        go_roundg (xs.length - (k + 1))
                        case measure => omega
                        case rel => exact ⟨k + 1, by omega, rfl, rfl, by go_num, hid hFd.out.1⟩
                      | false =>
                        have hlast : ((k : Int) == (xs.length : Int) - 1) = true := by simp; omega
                        have b1 : bits .and .u16 0 1 = 0 := by decide +kernel
                        have b2' : bits .and .u16 0 2 = 0 := by decide +kernel
                        have H26a := hid (fun (W : World) (hQ : Fr [] w6 W ∧ W.heap[wr.heap.size]? = some (.cells #[.int .u32 (xA : Nat), .int .u32 (xL : Nat), .bool false] 59)) => (show Calls Try.prog 26 #[.pointer (some ⟨bM, 0, none⟩), .int .u32 (32 + 16 * (dk : Int) + 12)] W fun e w' => e = .returned (.tuple #[.int .u16 0, .int .i64 0]) ∧ Hid (Fr [] w6 w' ∧ w'.heap[wr.heap.size]? = some (.cells #[.int .u32 (xA : Nat), .int .u32 (xL : Nat), .bool false] 59)) from by
                          obtain ⟨l, ⟨lv, hM, _⟩, _⟩ := (HR6.out.fr0 hQ.1).mem
                          have h := u16_is bM bm bb 2000 (32 + 16 * dk + 12) lv l bs' W hM (by omega)
                          rw [HN.out.2.2.1] at h
                          rw [show (32 + 16 * (dk : Int) + 12) = ((32 + 16 * dk + 12 : Nat) : Int) from by omega]
                          exact h.mono fun e w' ⟨q1, q2⟩ => ⟨by rw [q1]; simp [flg, hmore], hid ⟨hQ.1.trans0 q2, q2.heap hQ.2 (by simp)⟩⟩))
                        have Hmore := hid hmore
                        clear hmore
                        go_wp2_with fail
                        refine (H27.out _ HFz.out).mono ?_
                        rintro e wa ⟨rfl, hFa⟩
                        go_wp2_with fail
                        refine (H28.out _ hFa.out).mono ?_
                        rintro e wb ⟨rfl, hFb⟩
                        go_wp2_with fail
                        refine (H26a.out _ hFb.out).mono ?_
                        rintro e wc ⟨rfl, hFc⟩
                        go_wp2_with fail
                        refine (H26b.out _ hFc.out).mono ?_
                        rintro e wd ⟨rfl, hFd⟩
                        have r0d := (CA.out wd (HF6.out.trans0 hFd.out.1)).c0
                        have y0 : wd.cell? ⟨wr.heap.size, 0, none⟩ = some (.int .u32 (xA : Nat)) := cell_of_heap hFd.out.2 rfl
                        have y1 : wd.cell? ⟨wr.heap.size, 1, none⟩ = some (.int .u32 (xL : Nat)) := cell_of_heap hFd.out.2 rfl
                        have y2 : wd.cell? ⟨wr.heap.size, 2, none⟩ = some (.bool false) := cell_of_heap hFd.out.2 rfl
                        go_wp2
                        go_roundg (xs.length - (k + 1))
                        case measure => omega
                        case rel => exact ⟨k + 1, by omega, rfl, rfl, by go_num, hid hFd.out.1⟩
                  · obtain rfl : k = xs.length := by omega
                    have HI := hid (show ShI w wr bR bM bm bb bT N bC s1 from ⟨_, _, _, HR6.out.fr0 K5.out, HS.out.1, HF6.out.trans0 K5.out⟩)
                    go_wp2
                    go_roundg (len - (i + 1))
                    case measure => omega
                    case rel => exact ⟨i + 1, s1, by omega, rfl, hs1b, rfl, by go_num, HI⟩
            · obtain rfl : i = len := by omega
              go_wp2_with fail
              refine (works_any _).mono ?_
              rintro e wk ⟨rfl, hFk⟩
              go_wp2
              go_ret
              obtain ⟨_, _, _, _, _, hF3⟩ := K0.out
              exact ⟨rfl, hF3.trans0 hFk⟩
end Go.Proofs.Ytfiaciniikcacaa
