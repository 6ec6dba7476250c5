/-
  The walk of RingOnce of the statements of package ring. No statement is proved here.
-/
import Derived.Test.YtfiaciniikcacaaRingE
import Derived.Deep.CutBlock
namespace Go.Proofs.Ytfiaciniikcacaa
open Go.RowKit Go.BigFrame Go.MapKept
set_option linter.unusedVariables false
set_option linter.unusedSimpArgs false
set_option maxRecDepth 1000000
set_option maxHeartbeats 40000000

theorem ringOnce_walk (pw : Nat) (hpw : pw < 256) (sv : Value) (len : Nat) (F : Nat → St) (w : World) (hS : Steps w sv len F) :
    Calls Try.prog 3 #[.int .u8 pw, sv] w fun e w' => e = .returned (.bool true) ∧ Fr [] w w' := by
  have HS := hid hS
  clear hS
  go_enter Try.func3, Try.ntmps3
  go_wp2_with fail
  refine (heavy_any sv len F _ HS.out).mono ?_
  rintro e w1 ⟨b, rfl, hb, hF1⟩
  cases b with
  | true =>
    go_wp2_with fail
    refine (works_any _).mono ?_
    rintro e w2 ⟨rfl, hF2⟩
    go_wp2
    go_ret
    exact ⟨rfl, hF1.trans0 hF2⟩
  | false =>
    obtain ⟨hl200, hhv⟩ := hb rfl
    clear hb
    have Hhv := hid hhv
    have HF1 := hid hF1
    clear hhv hF1
    go_wp2_with fail
    obtain ⟨N, hNe, hNp, hN16⟩ : ∃ N : Nat, wrap64 (2 ^ (pw % 5)) = (N : Int) ∧ Pow N ∧ N ≤ 16 := by
      have h5 : pw % 5 < 5 := Nat.mod_lt _ (by omega)
      generalize pw % 5 = q at *
      match q, h5 with
      | 0, _ => exact ⟨1, by decide +kernel, by unfold Pow; omega, by omega⟩
      | 1, _ => exact ⟨2, by decide +kernel, by unfold Pow; omega, by omega⟩
      | 2, _ => exact ⟨4, by decide +kernel, by unfold Pow; omega, by omega⟩
      | 3, _ => exact ⟨8, by decide +kernel, by unfold Pow; omega, by omega⟩
      | 4, _ => exact ⟨16, by decide +kernel, by unfold Pow; omega, by omega⟩
    rw [hNe]
    clear hNe
    refine (new_mem 900 (by omega) (by omega) w1).mono ?_
    rintro e w2 ⟨rfl, hM2, hF2⟩
    obtain ⟨bM, hbM⟩ : ∃ b, b = w1.heap.size + 1 + 1 := ⟨_, rfl⟩
    obtain ⟨bm, hbm⟩ : ∃ b, b = w1.heap.size + 1 := ⟨_, rfl⟩
    obtain ⟨bb, hbb⟩ : ∃ b, b = w1.heap.size := ⟨_, rfl⟩
    rw [← hbM, ← hbm] at hM2
    rw [← hbM]
    have hrs : rSize N ≤ 450 := by unfold rSize uAt; omega
    have H10 := hid (show Calls Try.prog 10 #[.pointer (some ⟨bM, 0, none⟩), .int .u32 16, .int .i64 N] w2 fun e w' => ∃ bR bT bC, e = .returned (.tuple #[.pointer (some ⟨bR, 0, none⟩), .int .i64 0]) ∧ Hid (OnceI w1 w' bR bM bm bb 900 16 bT N bC (.slice none 0 0) 0 (fun _ _ _ _ _ _ => True)) from by
      refine (rnew_rs w1.heap.size bM bm bb 900 16 N _ w2 (hbb ▸ hM2) hNp (by omega) (by omega) hF2.size (by omega) (by omega)).mono ?_
      rintro e w' ⟨bR, bT, bC, q1, q2, q3, q4, q5, q6⟩
      refine ⟨bR, bT, bC, q1, hid ⟨_, _, _, _, _, _, q2, rfl, World.ownsRow_nil _ _ _ _, fun c hc => by simp at hc, ?_, trivial⟩⟩
      exact hF2.trans q6 (fun t ht => .inr (by simp at ht; rcases ht with rfl | rfl <;> omega)))
    clear hM2 hF2 hbM hbm hbb
    go_wp2_with fail
    refine H10.out.mono ?_
    rintro e w3 ⟨bR, bT, bC, rfl, H3⟩
    clear H10
    obtain ⟨U, hU⟩ : ∃ U, U = 16 + uAt N := ⟨_, rfl⟩
    have HU := hid hU
    have hUb : U ≤ 600 := by rw [hU]; unfold uAt; omega
    clear hU
    have HS1 := hid (show Steps w1 sv len F from by
      obtain ⟨q1, q2 | ⟨b, o, cap, q3, q4⟩⟩ := HS.out
      · exact ⟨q1, .inl q2⟩
      · exact ⟨q1, .inr ⟨b, o, cap, q3, fun i hi => (q4 i hi).fr HF1.out⟩⟩)
    clear HS
    rcases HS1.out with ⟨hl, ⟨p, c, rfl, rfl⟩ | ⟨b, o, cap, rfl, hT⟩⟩
    · go_wp2_with fail
      refine wp_loop_rounds 1 ?_
      rw [rounds_succ]; go_wp2_with fail
      refine (works_any _).mono ?_
      rintro e w4 ⟨rfl, hF⟩
      go_wp2
      go_ret
      obtain ⟨_, _, _, _, _, _, _, _, _, _, hF3, _⟩ := H3.out
      exact ⟨rfl, (HF1.out.trans0 hF3).trans0 hF⟩
    · have HT := hid hT
      clear hT HS1
      unfold maxLen at hl
      go_wp2_with fail
      go_loopg [9, 10] len (fun gk s q wr => ∃ i n : Nat, i ≤ len ∧ gk = len - i ∧ q = .int .i64 i ∧ ∃ p c, s = .slice p n c ∧ Hid (OnceI w1 wr bR bM bm bb 900 16 bT N bC (.slice p n c) n (fun _ _ _ _ _ _ => True)))
      case atStart => exact ⟨0, 0, Nat.zero_le _, rfl, rfl, none, 0, rfl, H3⟩
      case round =>
        obtain ⟨i, n, hi, hgk, rfl, p, c, rfl, K0⟩ := hrel
        have hn16 : n ≤ 16 := by
          obtain ⟨_, _, _, _, cs, _, hR, hcn, _⟩ := K0.out
          have := hR.few
          omega
        by_cases hlt : i < len
        · have hlt' : (i : Int) < (len : Int) := by omega
          obtain ⟨idx, pol, brk, tk, cs, bs, hR, hcn, hO, hsep, hF, _⟩ := K0.out
          have r := (HT.out i hlt).fr hF
          have r0 := r.c0
          have r1 := r.c1
          have r2 := r.c2
          have r3 := r.c3
          have r4 := r.c4
          have r5 := r.c5
          have hxs4 : (F i).xs.length ≤ 4096 ∧ (F i).S.size ≤ 16384 := by
            have := hv_mono F len i hlt
            have := Hhv.out
            omega
          have HB := hid r.bufs
          have HA := hid r.hA
          have HX := hid r.hX
          have HN4 := hid r.hN
          obtain ⟨pL, cL, hf⟩ := r.bufs.form
          rw [hf] at r1 HB
          have HR := hid hR
          have HO := hid hO
          have HSp := hid hsep
          have HF := hid hF
          have Hcn := hid hcn
          clear r hf hR hO hsep hF hcn K0
          generalize F i = s at *
          obtain ⟨D, Lv, xs, A, S, NN, X⟩ := s
          simp only at *
          by_cases hD0 : D = 0
          · subst hD0
            as_aux_lemma =>
              have F1 : Fr [] wr (wr.alloc (.cells #[.int .i64 0, .slice pL xs.length cL, .int .u32 (A : Nat), .string S, .int .u8 (NN : Nat), .int .u32 (X : Nat)] 36)) := (Fr.refl _ _).alloc _
              have HB1 := hid (HB.out.fr0 F1)
              have HF1' := hid F1
              clear F1
              go_wp2_with fail
              generalize wr.alloc (.cells #[.int .i64 0, .slice pL xs.length cL, .int .u32 (A : Nat), .string S, .int .u8 (NN : Nat), .int .u32 (X : Nat)] 36) = W1 at *
              refine (copied_any _ xs W1 HB1.out (by omega)).mono ?_
              rintro e w4 ⟨v4, rfl, hA4, hF4⟩
              have HA4 := hid hA4
              have HF4 := hid (HF1'.out.trans0 hF4)
              clear hA4 hF4 HB1 HF1'
              go_wp2_with fail
              refine (radd_all w1.heap.size bR bM bm bb 900 16 bT N bC idx pol (Zr 16 N) brk tk cs bs v4 xs w4 (HR.out.fr0 HF4.out) HA4.out).mono ?_
              rintro e w5 (⟨cc, hW, rfl, hR5, hK5⟩ | ⟨hb, hm, hin, ch, hcx, hds, hfl, rfl, hfr, hR5, hK5⟩)
              · have hc0 : (cc == 0) = false := by have := hW.ne; simpa using this
                have hc0' : ¬ cc = 0 := hW.ne
                have HI := hid (OnceI.keep (P := fun _ _ _ _ _ _ => True) HR.out Hcn.out HO.out HSp.out HF.out hR5 ((HF4.out.kp0).trans hK5) trivial)
                clear hR5 hK5 hW
                go_wp2_with fail
                refine HI.out.waits.mono ?_
                rintro e w6 ⟨rfl, hw⟩
                subst hw
                go_wp2
                go_roundg (len - (i + 1))
                case measure => omega
                case rel => exact ⟨i + 1, n, by omega, rfl, by go_num, p, c, rfl, HI⟩
              · have hO5 : w5.ownsRow w1.heap.size 37 1 (.slice p n c) n (dvs (cs.map Ch.h)) := own37_kp (own37_kp (B := w1.heap.size) (S := []) HO.out HF4.out.kp0 (fun t ht => by simp at ht)) hK5 (HR.out.fr0 HF4.out).odd
                have hnm : ch.h ∉ cs.map Ch.h := by
                  have := hR5.hds
                  rw [List.map_append, List.nodup_append] at this
                  intro hm2
                  exact this.2.2 ch.h hm2 ch.h (by simp) rfl
                have hlen : (cs.map Ch.h).length = n := by rw [List.length_map, Hcn.out]
                have H13 := hid (show Calls Try.prog 13 #[.slice p n c, .int .u16 (ch.h : Nat)] w5 fun e w' => e = .returned (.int .i64 (-1)) ∧ w' = w5 from
                  (at_any w1.heap.size (.slice p n c) (cs.map Ch.h) ch.h w5 (by rw [hlen]; exact hO5) (by omega)).mono fun e w' ⟨r, q1, q2, q3⟩ => ⟨by
                    rcases q2 with ⟨q2, _⟩ | ⟨ps, qs, q2, _⟩
                    · rw [q1, q2]
                    · exact absurd (by rw [q2]; simp) hnm, q3⟩)
                obtain ⟨v7, w7, q1, q2, q3, q4⟩ := run_app37 (w5.alloc (.cells #[.int .u16 (ch.h : Nat)] 37)) 33 w1.heap.size (.slice p n c) (cs.map Ch.h) n hlen (hO5.alloc _) ⟨w5.heap.size, 0, none⟩ 1 1 [ch.h] rfl (by
                  intro j u hj
                  match j, hj with
                  | 0, hj => simp [dvs] at hj; subst hj; simp [Addr.add]) (by omega) (by have := (HF.out.trans0 HF4.out).size; have := hK5.size; simp; omega)
                obtain ⟨p7, c7, rfl⟩ := ownsRow.form q2
                have HI := hid (OnceI.added (P := fun _ _ _ _ _ _ => True) HR.out Hcn.out HO.out HSp.out HF.out HF4.out hfr hR5 hK5 q2 q3 q4 trivial)
                clear hR5 hK5 q2 q3 q4 hO5 hnm hlen hfr hb hm hin hcx hds hfl
                go_wp2_with fail
                refine H13.out.mono ?_
                rintro e w6 ⟨rfl, hw⟩
                subst hw
                go_wp2_with (at_builtin; refine wpList_app rfl _ _ 33 rfl rfl rfl q1 ?_)
                refine HI.out.waits.mono ?_
                rintro e w8 ⟨rfl, hw⟩
                subst hw
                go_wp2
                go_roundg (len - (i + 1))
                case measure => omega
                case rel => exact ⟨i + 1, n + 1, by omega, rfl, by go_num, p7, c7, rfl, HI⟩
          · have hd0 : (D == 0) = false := by simpa using hD0
            by_cases hD1 : D = 1
            · subst hD1
              have F1 : Fr [] wr (wr.alloc (.cells #[.int .i64 1, .slice pL xs.length cL, .int .u32 (A : Nat), .string S, .int .u8 (NN : Nat), .int .u32 (X : Nat)] 36)) := (Fr.refl _ _).alloc _
              have HF1' := hid F1
              clear F1
              go_wp2_with fail
              generalize wr.alloc (.cells #[.int .i64 1, .slice pL xs.length cL, .int .u32 (A : Nat), .string S, .int .u8 (NN : Nat), .int .u32 (X : Nat)] 36) = W1 at *
              refine (rbroken_any w1.heap.size bR bM bm bb 900 16 bT N bC idx pol (Zr 16 N) brk tk cs bs W1 (HR.out.fr0 HF1'.out)).mono ?_
              rintro e w4 ⟨rfl, hw⟩
              subst hw
              go_wp2_with fail
              cases brk with
              | true =>
                as_aux_lemma =>
                  refine (rpoll_broken w1.heap.size bR bM bm bb 900 16 bT N bC idx pol (Zr 16 N) tk cs bs w4 (HR.out.fr0 HF1'.out)).mono ?_
                  rintro e w5 ⟨rfl, hF5⟩
                  have F6 : Fr [] wr (w5.alloc (.cells #[.int .u16 0, .int .u32 0] 43)) := (HF1'.out.trans0 hF5).alloc _
                  have HI := hid (OnceI.keep (P := fun _ _ _ _ _ _ => True) HR.out Hcn.out HO.out HSp.out HF.out (HR.out.fr0 F6) F6.kp0 trivial)
                  have HF6 := hid F6
                  clear F6 hF5
                  go_wp2_with fail
                  generalize w5.alloc (.cells #[.int .u16 0, .int .u32 0] 43) = W6 at *
                  refine (rbroken_any w1.heap.size bR bM bm bb 900 16 bT N bC idx pol (Zr 16 N) true tk cs bs W6 (HR.out.fr0 HF6.out)).mono ?_
                  rintro e w7 ⟨rfl, hw⟩
                  subst hw
                  go_wp2_with fail
                  refine HI.out.waits.mono ?_
                  rintro e w8 ⟨rfl, hw⟩
                  subst hw
                  go_wp2
                  go_roundg (len - (i + 1))
                  case measure => omega
                  case rel => exact ⟨i + 1, n, by omega, rfl, by go_num, p, c, rfl, HI⟩
              | false =>
                refine (rpoll_any w1.heap.size bR bM bm bb 900 16 bT N bC idx pol (Zr 16 N) tk cs bs w4 (HR.out.fr0 HF1'.out)).mono ?_
                rintro e w5 (⟨rfl, _, hR5, hK5⟩ | ⟨rfl, _, _, hR5, hK5⟩ | ⟨ps, cc, qs, hcs, hr1, hr2, hch, hnr, rfl, hR5, hK5⟩)
                · as_aux_lemma =>
                    have F6 : Fr [] w5 (w5.alloc (.cells #[.int .u16 0, .int .u32 0] 43)) := (Fr.refl _ _).alloc _
                    have HI := hid (OnceI.keep (P := fun _ _ _ _ _ _ => True) HR.out Hcn.out HO.out HSp.out HF.out (hR5.fr0 F6) ((HF1'.out.kp0.trans hK5).trans F6.kp0) trivial)
                    clear F6 hR5 hK5
                    go_wp2_with fail
                    generalize w5.alloc (.cells #[.int .u16 0, .int .u32 0] 43) = W6 at *
                    refine HI.out.waits.mono ?_
                    rintro e w8 ⟨rfl, hw⟩
                    subst hw
                    go_wp2
                    go_roundg (len - (i + 1))
                    case measure => omega
                    case rel => exact ⟨i + 1, n, by omega, rfl, by go_num, p, c, rfl, HI⟩
                · as_aux_lemma =>
                    have F6 : Fr [] w5 (w5.alloc (.cells #[.int .u16 0, .int .u32 0] 43)) := (Fr.refl _ _).alloc _
                    have HI := hid (OnceI.keep (P := fun _ _ _ _ _ _ => True) HR.out Hcn.out HO.out HSp.out HF.out (hR5.fr0 F6) ((HF1'.out.kp0.trans hK5).trans F6.kp0) trivial)
                    have HR6 := hid (hR5.fr0 F6)
                    clear F6 hR5 hK5
                    go_wp2_with fail
                    generalize w5.alloc (.cells #[.int .u16 0, .int .u32 0] 43) = W6 at *
                    refine (rbroken_any w1.heap.size bR bM bm bb 900 16 bT N bC idx pol (Zr 16 N) true tk cs bs W6 HR6.out).mono ?_
                    rintro e w7 ⟨rfl, hw⟩
                    subst hw
                    go_wp2_with fail
                    refine HI.out.waits.mono ?_
                    rintro e w8 ⟨rfl, hw⟩
                    subst hw
                    go_wp2
                    go_roundg (len - (i + 1))
                    case measure => omega
                    case rel => exact ⟨i + 1, n, by omega, rfl, by go_num, p, c, rfl, HI⟩
                · have hlen : ((ps ++ cc :: qs).map Ch.h).length = n := by rw [List.length_map, ← hcs]; exact Hcn.out
                  have hlen' : ps.length + 1 + qs.length = n := by simp at hlen; omega
                  obtain ⟨M, hM⟩ : ∃ M, M = num bs (eAt 16 N pol + 4) 4 := ⟨_, rfl⟩
                  rw [← hM]
                  have F6 : Fr [] w5 (w5.alloc (.cells #[.int .u16 (cc.h : Nat), .int .u32 (M : Nat)] 43)) := (Fr.refl _ _).alloc _
                  have hO6 : (w5.alloc (.cells #[.int .u16 (cc.h : Nat), .int .u32 (M : Nat)] 43)).ownsRow w1.heap.size 37 1 (.slice p n c) ((ps ++ cc :: qs).map Ch.h).length (dvs ((ps ++ cc :: qs).map Ch.h)) := by
                    rw [hlen, ← hcs]
                    exact (own37_kp (own37_kp (B := w1.heap.size) (S := []) HO.out HF1'.out.kp0 (fun t ht => by simp at ht)) hK5 (HR.out.fr0 HF1'.out).odd).alloc _
                  have hnd := HR.out.hds
                  rw [hcs, List.map_append, List.map_cons] at hnd
                  have hnp : cc.h ∉ ps.map Ch.h := fun hm => by
                    rw [List.nodup_append] at hnd
                    exact hnd.2.2 cc.h hm cc.h (by simp) rfl
                  obtain ⟨g, cap7, hform, hc1, hc2, hD6, hg6⟩ := Descs.at hO6 (by omega)
                  rw [hlen] at hform hc1
                  cases hform
                  have H13 := hid (show Calls Try.prog 13 #[.slice (some ⟨g, 0, none⟩) n c, .int .u16 (cc.h : Nat)] (w5.alloc (.cells #[.int .u16 (cc.h : Nat), .int .u32 (M : Nat)] 43)) fun e w' => e = .returned (.int .i64 (ps.length : Nat)) ∧ w' = (w5.alloc (.cells #[.int .u16 (cc.h : Nat), .int .u32 (M : Nat)] 43)) from
                    (at_any w1.heap.size _ _ cc.h _ hO6 (by omega)).mono fun e w' ⟨r, q1, q2, q3⟩ => ⟨by
                      rcases q2 with ⟨_, q2⟩ | ⟨ps', qs', q2, q4, q5⟩
                      · exact absurd (by simp) q2
                      · rw [List.map_append, List.map_cons] at q2
                        have := split_len q2 hnp q4
                        rw [q1, q5, ← this]
                        simp, q3⟩)
                  have hB6 : w1.heap.size ≤ (w5.alloc (.cells #[.int .u16 (cc.h : Nat), .int .u32 (M : Nat)] 43)).heap.size := by have := (HF.out.trans0 HF1'.out).size; have := hK5.size; simp; omega
                  rw [List.map_append, List.map_cons] at hD6
                  obtain ⟨v7, w7, a1, a2, a3, a4⟩ := run_app37 _ 33 w1.heap.size (.slice none 0 0) [] 0 rfl (World.ownsRow_nil _ _ _ _) ⟨g, 0, none⟩ ps.length c (ps.map Ch.h) (by simp) (dcells_low hD6) (by omega) hB6
                  simp only [Nat.zero_add, List.nil_append] at a1 a2
                  have a3' : Fr [] (w5.alloc (.cells #[.int .u16 (cc.h : Nat), .int .u32 (M : Nat)] 43)) w7 := by simpa [Value.ownBlock] using a3
                  obtain ⟨p7, c7, rfl⟩ := ownsRow.form a2
                  have hD7 := hD6.fr a3' (by simp)
                  by_cases hcc : c = ps.length + 1
                  · as_aux_lemma =>
                      have hq0 := hid (show qs = [] from List.length_eq_zero_iff.1 (by omega))
                      subst hcc
                      obtain ⟨v8, w8, b1, b2, b3, b4⟩ := run_app37 w7 33 w1.heap.size _ (ps.map Ch.h) ps.length (by simp) a2 ⟨g, 0, none⟩ qs.length 0 (qs.map Ch.h) (by simp) (by rw [hq0.out]; intro j u hu; simp [dvs] at hu) (by omega) (Nat.le_trans hB6 a3'.size)
                      obtain ⟨p8, c8, rfl⟩ := ownsRow.form b2
                      have hb8 : Fr [] (w5.alloc (.cells #[.int .u16 (cc.h : Nat), .int .u32 (M : Nat)] 43)) w8 := a3'.trans b3 (fun t ht => .inr (by
                        have := a4 t (by simpa using ht)
                        simpa [Value.ownBlock] using this))
                      have HI := hid (show OnceI w1 w8 bR bM bm bb 900 16 bT N bC (.slice p8 (ps.length + qs.length) c8) (ps.length + qs.length) (fun _ _ _ _ _ _ => True) from by
                        have hR' := HR.out
                        rw [hcs] at hR'
                        have e1 : ps.length + qs.length = n - 1 := by omega
                        rw [e1] at b2 b4 ⊢
                        refine OnceI.polled hR' (by rw [← hlen]; simp) HF.out hR5 (HF1'.out.kp0.trans hK5) F6 (by simpa [dvs] using b2) hb8 (fun g' hg' => ?_) trivial
                        rcases b4 g' hg' with h1 | h1
                        · have := a4 g' h1
                          simp [Value.ownBlock] at this
                          omega
                        · have := hb8.size
                          have := a3'.size
                          have := F6.size
                          omega)
                      have hnc := hc1
                      clear hR5 hK5 a2 a3 a4 b2 b3 b4 hD6 hD7 hO6 hnd hnp hb8 a3' F6 hg6 hch hnr hr1 hr2 hM
                      go_wp2_with fail
                      refine H13.out.mono ?_
                      rintro e w6 ⟨rfl, hw⟩
                      subst hw
                      have hkn : ((ps.length : Int)) ≤ (n : Int) := by omega
                      have hkn1 : ((ps.length : Int)) + 1 ≤ (n : Int) := by omega
                      have hk0 : ¬ ((ps.length : Int) < 0) := by omega
                      have hq : n - (ps.length + 1) = qs.length := by omega
                      go_wp2_with (first | (at_builtin; refine wpList_app rfl _ _ 33 rfl rfl rfl a1 ?_; clear a1) | (at_builtin; refine wpList_app rfl _ _ 33 rfl rfl rfl b1 ?_; clear b1))
                      refine HI.out.waits.mono ?_
                      rintro e w9 ⟨rfl, hw⟩
                      subst hw
                      go_wp2
                      go_roundg (len - (i + 1))
                      case measure => omega
                      case rel => exact ⟨i + 1, ps.length + qs.length, by omega, rfl, by go_num, p8, c8, rfl, HI⟩
                  · as_aux_lemma =>
                      skip
                      obtain ⟨v8, w8, b1, b2, b3, b4⟩ := run_app37 w7 33 w1.heap.size _ (ps.map Ch.h) ps.length (by simp) a2 ⟨g, ps.length + 1, none⟩ qs.length (c - (ps.length + 1)) (qs.map Ch.h) (by simp) (by have := dcells_high hD7; simpa using this) (by omega) (Nat.le_trans hB6 a3'.size)
                      obtain ⟨p8, c8, rfl⟩ := ownsRow.form b2
                      have hb8 : Fr [] (w5.alloc (.cells #[.int .u16 (cc.h : Nat), .int .u32 (M : Nat)] 43)) w8 := a3'.trans b3 (fun t ht => .inr (by
                        have := a4 t (by simpa using ht)
                        simpa [Value.ownBlock] using this))
                      have HI := hid (show OnceI w1 w8 bR bM bm bb 900 16 bT N bC (.slice p8 (ps.length + qs.length) c8) (ps.length + qs.length) (fun _ _ _ _ _ _ => True) from by
                        have hR' := HR.out
                        rw [hcs] at hR'
                        have e1 : ps.length + qs.length = n - 1 := by omega
                        rw [e1] at b2 b4 ⊢
                        refine OnceI.polled hR' (by rw [← hlen]; simp) HF.out hR5 (HF1'.out.kp0.trans hK5) F6 (by simpa [dvs] using b2) hb8 (fun g' hg' => ?_) trivial
                        rcases b4 g' hg' with h1 | h1
                        · have := a4 g' h1
                          simp [Value.ownBlock] at this
                          omega
                        · have := hb8.size
                          have := a3'.size
                          have := F6.size
                          omega)
                      have hnc := hc1
                      clear hR5 hK5 a2 a3 a4 b2 b3 b4 hD6 hD7 hO6 hnd hnp hb8 a3' F6 hg6 hch hnr hr1 hr2 hM
                      go_wp2_with fail
                      refine H13.out.mono ?_
                      rintro e w6 ⟨rfl, hw⟩
                      subst hw
                      have hkn : ((ps.length : Int)) ≤ (n : Int) := by omega
                      have hkn1 : ((ps.length : Int)) + 1 ≤ (n : Int) := by omega
                      have hk0 : ¬ ((ps.length : Int) < 0) := by omega
                      have hq : n - (ps.length + 1) = qs.length := by omega
                      have hcn : ¬ c = ps.length + 1 := hcc
                      have hcn2 : ¬ (c - (ps.length + 1) = 0) := by omega
                      have hcn3 : ps.length + 1 < c := by omega
                      go_wp2_with (first | (at_builtin; refine wpList_app rfl _ _ 33 rfl rfl rfl a1 ?_; clear a1) | (at_builtin; refine wpList_app rfl _ _ 33 rfl rfl rfl b1 ?_; clear b1))
                      refine HI.out.waits.mono ?_
                      rintro e w9 ⟨rfl, hw⟩
                      subst hw
                      go_wp2
                      go_roundg (len - (i + 1))
                      case measure => omega
                      case rel => exact ⟨i + 1, ps.length + qs.length, by omega, rfl, by go_num, p8, c8, rfl, HI⟩
            · have hd1 : (D == 1) = false := by simpa using hD1
              by_cases hD2 : D = 2
              · subst hD2
                as_aux_lemma =>
                  have F1 : Fr [] wr (wr.alloc (.cells #[.int .i64 2, .slice pL xs.length cL, .int .u32 (A : Nat), .string S, .int .u8 (NN : Nat), .int .u32 (X : Nat)] 36)) := (Fr.refl _ _).alloc _
                  have hx := heap_alloc_new wr (.cells #[.int .i64 2, .slice pL xs.length cL, .int .u32 (A : Nat), .string S, .int .u8 (NN : Nat), .int .u32 (X : Nat)] 36)
                  obtain ⟨bx, hbx⟩ : ∃ b, b = wr.heap.size := ⟨_, rfl⟩
                  rw [← hbx] at hx
                  have HR1 := hid (HR.out.fr0 F1)
                  have HF1' := hid F1
                  clear F1
                  go_wp2_with fail
                  rw [← hbx]
                  have Hbx := hid hbx
                  clear hbx r0 r1 r2 r3 r4 r5
                  generalize wr.alloc (.cells #[.int .i64 2, .slice pL xs.length cL, .int .u32 (A : Nat), .string S, .int .u8 (NN : Nat), .int .u32 (X : Nat)] 36) = W1 at *
                  obtain ⟨l, ⟨lv, hM1, hlo⟩, hLn⟩ := HR1.out.mem
                  have HM1 := hid hM1
                  have HLn := hid hLn
                  clear hM1 hlo hLn
                  refine (read_all bM bm bb 900 lv l bs W1 HM1.out).mono ?_
                  rintro e w4 ⟨rfl, hw⟩
                  subst hw
                  go_wp2_with fail
                  refine (lent_any bM bm bb 900 lv l bs w4 HM1.out).mono ?_
                  rintro e w5 ⟨v5, rfl, hRw, hOv, hF5⟩
                  have hx5 := hF5.heap hx (by simp)
                  have b0 : w5.cell? ⟨bx, 0, none⟩ = some (.int .i64 2) := cell_of_heap hx5 rfl
                  have b2 : w5.cell? ⟨bx, 2, none⟩ = some (.int .u32 (A : Nat)) := cell_of_heap hx5 rfl
                  have b3 : w5.cell? ⟨bx, 3, none⟩ = some (.string S) := cell_of_heap hx5 rfl
                  have b4 : w5.cell? ⟨bx, 4, none⟩ = some (.int .u8 (NN : Nat)) := cell_of_heap hx5 rfl
                  have b5 : w5.cell? ⟨bx, 5, none⟩ = some (.int .u32 (X : Nat)) := cell_of_heap hx5 rfl
                  have hxb : bx ∉ [bb] := by simpa using blk_ne hx5 (HM1.out.fr0 hF5).bytes (by decide)
                  have HRow := hid hRw
                  have HV := hid (show ∀ g, v5.ownBlock = some g → g ≠ bb from fun g hg => by have := hOv g hg; have := lt_of_heap HM1.out.bytes; omega)
                  have HCN := hid HM1.out.mid.can
                  have HF5 := hid (HF1'.out.trans0 hF5)
                  have H18 := hid (fun (W : World) (hF : Fr [] w5 W) (a : Nat) (st : ByteArray) (ha : a < 4294967296) (hst : st.size ≤ 16384) => (show Calls Try.prog 18 #[.pointer (some ⟨bM, 0, none⟩), .int .u32 (a : Nat), .string st] W fun e w' => ∃ c' bs', e = .returned (.int .i64 c') ∧ Hid (RS w1.heap.size w' bR bM bm bb 900 16 bT N bC (Zr 16 N) idx pol brk tk cs bs' ∧ Fr [bb] w5 w' ∧ ∀ j, bs'[j]? ≠ bs[j]? → In l j) ∧ w'.cell? ⟨bx, 2, none⟩ = some (.int .u32 (A : Nat)) ∧ w'.cell? ⟨bx, 4, none⟩ = some (.int .u8 (NN : Nat)) ∧ w'.cell? ⟨bx, 5, none⟩ = some (.int .u32 (X : Nat)) from by
                    refine (rdevice_ch w1.heap.size bR bM bm bb 900 16 bT N bC idx pol a (Zr 16 N) brk tk cs bs st W (HR.out.fr0 (HF5.out.trans0 hF)) ha (by simp [maxLen]; omega)).mono ?_
                    rintro e w' ⟨c', bs', q1, q2, q3, q4⟩
                    have hx6 := q3.heap (hF.heap hx5 (by simp)) hxb
                    exact ⟨c', bs', q1, hid ⟨q2, (hF.mono (by simp)).trans q3 (fun t ht => .inl ht), fun j hj => (HLn.out.cov j).2 (q4 j hj)⟩, cell_of_heap hx6 rfl, cell_of_heap hx6 rfl, cell_of_heap hx6 rfl⟩))
                  have H19 := hid (fun (W : World) (hF : Fr [] w5 W) => (show Calls Try.prog 19 #[.pointer (some ⟨bR, 0, none⟩)] W fun e w' => e = .returned (.int .u32 (U : Nat)) ∧ ∃ d, w' = W.drewN d from by rw [HU.out]; exact Used_any bR bM 16 bT N bC idx pol brk tk W (HR.out.fr0 (HF5.out.trans0 hF)).ring (by omega) (by omega)))
                  clear hx hx5 hRw hOv hF5
                  go_wp2_with fail
                  refine (H18.out w5 (Fr.refl _ _) A S HA.out hxs4.2).mono ?_
                  rintro e w6 ⟨c6, bs', rfl, H6, _, _, _⟩
                  clear H18 H19 b0 b2 b3 b4 b5
                  obtain ⟨l6, ⟨lv6, hM6, _⟩, _⟩ := H6.out.1.mem
                  have HM6 := hid hM6
                  have z1 : (⟨bs.toArray⟩ : ByteArray).size = 900 := HM1.out.len
                  have z2 : (⟨bs'.toArray⟩ : ByteArray).size = 900 := hM6.len
                  have HRw := hid (HRow.out.fr H6.out.2.1 (fun g hg ht => HV.out g hg (by simpa using ht)))
                  have HCH := hid H6.out.2.2
                  have HI6 := hid (fun wz (hF : Fr [] w6 wz) => OnceI.keep (P := fun _ _ _ _ _ _ => True) HR.out Hcn.out HO.out HSp.out HF.out (H6.out.1.fr0 hF) (((HF5.out.kp0).trans (H6.out.2.1.kp (fun t ht => .inl (by simp at ht; simp [ht])))).trans hF.kp0) trivial)
                  clear hM6
                  go_wp2_with fail
                  refine (read_all bM bm bb 900 lv6 l6 bs' w6 HM6.out).mono ?_
                  rintro e w7 ⟨rfl, hw⟩
                  subst hw
                  go_wp2_with fail
                  go_loopg [25] 900 (fun gk q wz => ∃ k : Nat, k ≤ 900 ∧ gk = 900 - k ∧ q = .int .i64 k ∧ Hid (Fr [] w7 wz))
                  case atStart => exact ⟨0, Nat.zero_le _, rfl, rfl, hid (Fr.refl _ _)⟩
                  case round =>
                    obtain ⟨k, hk, hgk2, rfl, K5⟩ := hrel
                    by_cases hkl : k < 900
                    · have hkl' : (k : Int) < 900 := by omega
                      obtain ⟨y1, Y1, Z1⟩ : ∃ y1 : Nat, (∀ h : k < (⟨bs'.toArray⟩ : ByteArray).size, ((⟨bs'.toArray⟩ : ByteArray)[k]'h).toNat = y1) ∧ Hid (∃ u : UInt8, bs'[k]? = some u ∧ u.toNat = y1) := byte_at bs' k (by omega)
                      obtain ⟨y2, Y2, Z2⟩ : ∃ y1 : Nat, (∀ h : k < (⟨bs.toArray⟩ : ByteArray).size, ((⟨bs.toArray⟩ : ByteArray)[k]'h).toNat = y1) ∧ Hid (∃ u : UInt8, bs[k]? = some u ∧ u.toNat = y1) := byte_at bs k (by omega)
                      by_cases hy : y1 = y2
                      · subst hy
                        go_wp2_with fail
                        go_quiet (fail)
                        go_wp2_with fail
                        go_roundg (900 - (k + 1))
                        case measure => omega
                        case rel => exact ⟨k + 1, by omega, rfl, by go_num, hid (K5.out.drewN _)⟩
                      · have hyb : (y2 == y1) = false := by simp; omega
                        have hyi : ((y2 : Int) == (y1 : Int)) = false := by simp; omega
                        have hyj : ¬ ((y2 : Int) = (y1 : Int)) := by omega
                        have hyk : ¬ (y2 = y1) := by omega
                        have hyn : ((y2 : Int) != (y1 : Int)) = true := by simp; omega
                        have HI := hid (HCH.out k (byte_ne Z1.out Z2.out hy))
                        go_wp2_with fail
                        refine wp_region_ext (by kernel_rfl) (by kernel_rfl) ?_
                        repeat (go_big_quiet_step ((exact Calls.ext_of (in_is v5 l 900 k _ (HRw.out.fr (K5.out.trans0 (ext_fr _ _)) (by simp)) HCN.out (by omega) (by omega) true ⟨fun _ => HI.out, fun _ => rfl⟩))))
                        refine wpQuiet_nil ?_
                        rintro _ ⟨xq, rfl⟩
                        go_wp2
                        go_roundg (900 - (k + 1))
                        case measure => omega
                        case rel => exact ⟨k + 1, by omega, rfl, by go_num, hid (K5.out.trans0 (ext_fr _ _))⟩
                    · obtain rfl : k = 900 := by omega
                      have HI := hid (HI6.out _ K5.out)
                      clear HI6
                      go_wp2_with fail
                      refine HI.out.waits.mono ?_
                      rintro e w8 ⟨rfl, hw⟩
                      subst hw
                      go_wp2
                      go_roundg (len - (i + 1))
                      case measure => omega
                      case rel => exact ⟨i + 1, n, by omega, rfl, by go_num, p, c, rfl, HI⟩
              · have hd2 : (D == 2) = false := by simpa using hD2
                by_cases hD4 : D = 4
                · subst hD4
                  as_aux_lemma =>
                    have F1 : Fr [] wr (wr.alloc (.cells #[.int .i64 4, .slice pL xs.length cL, .int .u32 (A : Nat), .string S, .int .u8 (NN : Nat), .int .u32 (X : Nat)] 36)) := (Fr.refl _ _).alloc _
                    have hx := heap_alloc_new wr (.cells #[.int .i64 4, .slice pL xs.length cL, .int .u32 (A : Nat), .string S, .int .u8 (NN : Nat), .int .u32 (X : Nat)] 36)
                    obtain ⟨bx, hbx⟩ : ∃ b, b = wr.heap.size := ⟨_, rfl⟩
                    rw [← hbx] at hx
                    have HR1 := hid (HR.out.fr0 F1)
                    have HF1' := hid F1
                    clear F1
                    go_wp2_with fail
                    rw [← hbx]
                    have Hbx := hid hbx
                    clear hbx r0 r1 r2 r3 r4 r5
                    generalize wr.alloc (.cells #[.int .i64 4, .slice pL xs.length cL, .int .u32 (A : Nat), .string S, .int .u8 (NN : Nat), .int .u32 (X : Nat)] 36) = W1 at *
                    obtain ⟨l, ⟨lv, hM1, hlo⟩, hLn⟩ := HR1.out.mem
                    have HM1 := hid hM1
                    have HLn := hid hLn
                    clear hM1 hlo hLn
                    refine (read_all bM bm bb 900 lv l bs W1 HM1.out).mono ?_
                    rintro e w4 ⟨rfl, hw⟩
                    subst hw
                    go_wp2_with fail
                    refine (lent_any bM bm bb 900 lv l bs w4 HM1.out).mono ?_
                    rintro e w5 ⟨v5, rfl, hRw, hOv, hF5⟩
                    have hx5 := hF5.heap hx (by simp)
                    have b0 : w5.cell? ⟨bx, 0, none⟩ = some (.int .i64 4) := cell_of_heap hx5 rfl
                    have b2 : w5.cell? ⟨bx, 2, none⟩ = some (.int .u32 (A : Nat)) := cell_of_heap hx5 rfl
                    have b3 : w5.cell? ⟨bx, 3, none⟩ = some (.string S) := cell_of_heap hx5 rfl
                    have b4 : w5.cell? ⟨bx, 4, none⟩ = some (.int .u8 (NN : Nat)) := cell_of_heap hx5 rfl
                    have b5 : w5.cell? ⟨bx, 5, none⟩ = some (.int .u32 (X : Nat)) := cell_of_heap hx5 rfl
                    have hxb : bx ∉ [bb] := by simpa using blk_ne hx5 (HM1.out.fr0 hF5).bytes (by decide)
                    have HRow := hid hRw
                    have HV := hid (show ∀ g, v5.ownBlock = some g → g ≠ bb from fun g hg => by have := hOv g hg; have := lt_of_heap HM1.out.bytes; omega)
                    have HCN := hid HM1.out.mid.can
                    have HF5 := hid (HF1'.out.trans0 hF5)
                    have H18 := hid (fun (W : World) (hF : Fr [] w5 W) (a : Nat) (st : ByteArray) (ha : a < 4294967296) (hst : st.size ≤ 16384) => (show Calls Try.prog 18 #[.pointer (some ⟨bM, 0, none⟩), .int .u32 (a : Nat), .string st] W fun e w' => ∃ c' bs', e = .returned (.int .i64 c') ∧ Hid (RS w1.heap.size w' bR bM bm bb 900 16 bT N bC (Zr 16 N) idx pol brk tk cs bs' ∧ Fr [bb] w5 w' ∧ ∀ j, bs'[j]? ≠ bs[j]? → In l j) ∧ w'.cell? ⟨bx, 2, none⟩ = some (.int .u32 (A : Nat)) ∧ w'.cell? ⟨bx, 4, none⟩ = some (.int .u8 (NN : Nat)) ∧ w'.cell? ⟨bx, 5, none⟩ = some (.int .u32 (X : Nat)) from by
                      refine (rdevice_ch w1.heap.size bR bM bm bb 900 16 bT N bC idx pol a (Zr 16 N) brk tk cs bs st W (HR.out.fr0 (HF5.out.trans0 hF)) ha (by simp [maxLen]; omega)).mono ?_
                      rintro e w' ⟨c', bs', q1, q2, q3, q4⟩
                      have hx6 := q3.heap (hF.heap hx5 (by simp)) hxb
                      exact ⟨c', bs', q1, hid ⟨q2, (hF.mono (by simp)).trans q3 (fun t ht => .inl ht), fun j hj => (HLn.out.cov j).2 (q4 j hj)⟩, cell_of_heap hx6 rfl, cell_of_heap hx6 rfl, cell_of_heap hx6 rfl⟩))
                    have H19 := hid (fun (W : World) (hF : Fr [] w5 W) => (show Calls Try.prog 19 #[.pointer (some ⟨bR, 0, none⟩)] W fun e w' => e = .returned (.int .u32 (U : Nat)) ∧ ∃ d, w' = W.drewN d from by rw [HU.out]; exact Used_any bR bM 16 bT N bC idx pol brk tk W (HR.out.fr0 (HF5.out.trans0 hF)).ring (by omega) (by omega)))
                    clear hx hx5 hRw hOv hF5
                    go_wp2_with fail
                    have H20 := hid (fun (W : World) (hF : Fr [] w5 W) => (show Calls Try.prog 20 #[.int .u64 (X : Nat), .int .i64 2] W fun e w' => e = .returned (.string ⟨(le 2 X).toArray⟩) ∧ Hid (Fr [] w5 w') ∧ w'.cell? ⟨bx, 5, none⟩ = some (.int .u32 (X : Nat)) from (rbytes2 X (by have := HX.out; omega) W).mono fun e w' ⟨q1, q2⟩ => ⟨q1, hid (hF.trans0 q2), (hF.trans0 q2).cell b5 (by simp)⟩))
                    have wX : IntKind.u64.wrap (X : Int) = X := by have := HX.out; exact wraps_u64 _ (by omega) (by omega)
                    have wU : IntKind.u32.wrap ((U : Int) + 2) = (U : Int) + 2 := by rw [IntKind.wrap_u32]; omega
                    go_region_held (fun w' => w'.cell? ⟨bx, 5, none⟩ = some (.int .u32 (X : Nat))) (go_keep)
                      (first
                      | (go_at_call 19; refine (H19.out _ ((Fr.refl _ w5).drew)).mono ?_; rintro e wa ⟨rfl, d1, hw⟩; subst hw)
                      | (go_at_call 20; refine (H20.out _ ((Fr.refl _ w5).drewN _)).mono ?_; rintro e wb ⟨rfl, hFb, b5'⟩)
                      | (go_at_call 18; refine (H18.out _ hFb.out (U + 2) _ (by omega) (by simp [ByteArray.size, le_length])).mono ?_; rintro e w6 ⟨c6, bs', rfl, H6, _, _, b5''⟩))
                    clear H18 H19 b0 b2 b3 b4 b5
                    obtain ⟨l6, ⟨lv6, hM6, _⟩, _⟩ := H6.out.1.mem
                    have HM6 := hid hM6
                    have z1 : (⟨bs.toArray⟩ : ByteArray).size = 900 := HM1.out.len
                    have z2 : (⟨bs'.toArray⟩ : ByteArray).size = 900 := hM6.len
                    have HRw := hid (HRow.out.fr H6.out.2.1 (fun g hg ht => HV.out g hg (by simpa using ht)))
                    have HCH := hid H6.out.2.2
                    have HI6 := hid (fun wz (hF : Fr [] w6 wz) => OnceI.keep (P := fun _ _ _ _ _ _ => True) HR.out Hcn.out HO.out HSp.out HF.out (H6.out.1.fr0 hF) (((HF5.out.kp0).trans (H6.out.2.1.kp (fun t ht => .inl (by simp at ht; simp [ht])))).trans hF.kp0) trivial)
                    clear hM6
                    go_wp2_with fail
                    refine (read_all bM bm bb 900 lv6 l6 bs' w6 HM6.out).mono ?_
                    rintro e w7 ⟨rfl, hw⟩
                    subst hw
                    go_wp2_with fail
                    go_loopg [25] 900 (fun gk q wz => ∃ k : Nat, k ≤ 900 ∧ gk = 900 - k ∧ q = .int .i64 k ∧ Hid (Fr [] w7 wz))
                    case atStart => exact ⟨0, Nat.zero_le _, rfl, rfl, hid (Fr.refl _ _)⟩
                    case round =>
                      obtain ⟨k, hk, hgk2, rfl, K5⟩ := hrel
                      by_cases hkl : k < 900
                      · have hkl' : (k : Int) < 900 := by omega
                        obtain ⟨y1, Y1, Z1⟩ : ∃ y1 : Nat, (∀ h : k < (⟨bs'.toArray⟩ : ByteArray).size, ((⟨bs'.toArray⟩ : ByteArray)[k]'h).toNat = y1) ∧ Hid (∃ u : UInt8, bs'[k]? = some u ∧ u.toNat = y1) := byte_at bs' k (by omega)
                        obtain ⟨y2, Y2, Z2⟩ : ∃ y1 : Nat, (∀ h : k < (⟨bs.toArray⟩ : ByteArray).size, ((⟨bs.toArray⟩ : ByteArray)[k]'h).toNat = y1) ∧ Hid (∃ u : UInt8, bs[k]? = some u ∧ u.toNat = y1) := byte_at bs k (by omega)
                        by_cases hy : y1 = y2
                        · subst hy
                          go_wp2_with fail
                          go_quiet (fail)
                          go_wp2_with fail
                          go_roundg (900 - (k + 1))
                          case measure => omega
                          case rel => exact ⟨k + 1, by omega, rfl, by go_num, hid (K5.out.drewN _)⟩
                        · have hyb : (y2 == y1) = false := by simp; omega
                          have hyi : ((y2 : Int) == (y1 : Int)) = false := by simp; omega
                          have hyj : ¬ ((y2 : Int) = (y1 : Int)) := by omega
                          have hyk : ¬ (y2 = y1) := by omega
                          have hyn : ((y2 : Int) != (y1 : Int)) = true := by simp; omega
                          have HI := hid (HCH.out k (byte_ne Z1.out Z2.out hy))
                          go_wp2_with fail
                          refine wp_region_ext (by kernel_rfl) (by kernel_rfl) ?_
                          repeat (go_big_quiet_step ((exact Calls.ext_of (in_is v5 l 900 k _ (HRw.out.fr (K5.out.trans0 (ext_fr _ _)) (by simp)) HCN.out (by omega) (by omega) true ⟨fun _ => HI.out, fun _ => rfl⟩))))
                          refine wpQuiet_nil ?_
                          rintro _ ⟨xq, rfl⟩
                          go_wp2
                          go_roundg (900 - (k + 1))
                          case measure => omega
                          case rel => exact ⟨k + 1, by omega, rfl, by go_num, hid (K5.out.trans0 (ext_fr _ _))⟩
                      · obtain rfl : k = 900 := by omega
                        have HI := hid (HI6.out _ K5.out)
                        clear HI6
                        go_wp2_with fail
                        refine HI.out.waits.mono ?_
                        rintro e w8 ⟨rfl, hw⟩
                        subst hw
                        go_wp2
                        go_roundg (len - (i + 1))
                        case measure => omega
                        case rel => exact ⟨i + 1, n, by omega, rfl, by go_num, p, c, rfl, HI⟩
                · have hd4 : (D == 4) = false := by simpa using hD4
                  by_cases hD3 : D = 3
                  · subst hD3
                    as_aux_lemma =>
                      have F1 : Fr [] wr (wr.alloc (.cells #[.int .i64 3, .slice pL xs.length cL, .int .u32 (A : Nat), .string S, .int .u8 (NN : Nat), .int .u32 (X : Nat)] 36)) := (Fr.refl _ _).alloc _
                      have hx := heap_alloc_new wr (.cells #[.int .i64 3, .slice pL xs.length cL, .int .u32 (A : Nat), .string S, .int .u8 (NN : Nat), .int .u32 (X : Nat)] 36)
                      obtain ⟨bx, hbx⟩ : ∃ b, b = wr.heap.size := ⟨_, rfl⟩
                      rw [← hbx] at hx
                      have HR1 := hid (HR.out.fr0 F1)
                      have HF1' := hid F1
                      clear F1
                      go_wp2_with fail
                      rw [← hbx]
                      have Hbx := hid hbx
                      clear hbx r0 r1 r2 r3 r4 r5
                      generalize wr.alloc (.cells #[.int .i64 3, .slice pL xs.length cL, .int .u32 (A : Nat), .string S, .int .u8 (NN : Nat), .int .u32 (X : Nat)] 36) = W1 at *
                      obtain ⟨l, ⟨lv, hM1, hlo⟩, hLn⟩ := HR1.out.mem
                      have HM1 := hid hM1
                      have HLn := hid hLn
                      clear hM1 hlo hLn
                      refine (read_all bM bm bb 900 lv l bs W1 HM1.out).mono ?_
                      rintro e w4 ⟨rfl, hw⟩
                      subst hw
                      go_wp2_with fail
                      refine (lent_any bM bm bb 900 lv l bs w4 HM1.out).mono ?_
                      rintro e w5 ⟨v5, rfl, hRw, hOv, hF5⟩
                      have hx5 := hF5.heap hx (by simp)
                      have b0 : w5.cell? ⟨bx, 0, none⟩ = some (.int .i64 3) := cell_of_heap hx5 rfl
                      have b2 : w5.cell? ⟨bx, 2, none⟩ = some (.int .u32 (A : Nat)) := cell_of_heap hx5 rfl
                      have b3 : w5.cell? ⟨bx, 3, none⟩ = some (.string S) := cell_of_heap hx5 rfl
                      have b4 : w5.cell? ⟨bx, 4, none⟩ = some (.int .u8 (NN : Nat)) := cell_of_heap hx5 rfl
                      have b5 : w5.cell? ⟨bx, 5, none⟩ = some (.int .u32 (X : Nat)) := cell_of_heap hx5 rfl
                      have hxb : bx ∉ [bb] := by simpa using blk_ne hx5 (HM1.out.fr0 hF5).bytes (by decide)
                      have HRow := hid hRw
                      have HV := hid (show ∀ g, v5.ownBlock = some g → g ≠ bb from fun g hg => by have := hOv g hg; have := lt_of_heap HM1.out.bytes; omega)
                      have HCN := hid HM1.out.mid.can
                      have HF5 := hid (HF1'.out.trans0 hF5)
                      have H18 := hid (fun (W : World) (hF : Fr [] w5 W) (a : Nat) (st : ByteArray) (ha : a < 4294967296) (hst : st.size ≤ 16384) => (show Calls Try.prog 18 #[.pointer (some ⟨bM, 0, none⟩), .int .u32 (a : Nat), .string st] W fun e w' => ∃ c' bs', e = .returned (.int .i64 c') ∧ Hid (RS w1.heap.size w' bR bM bm bb 900 16 bT N bC (Zr 16 N) idx pol brk tk cs bs' ∧ Fr [bb] w5 w' ∧ ∀ j, bs'[j]? ≠ bs[j]? → In l j) ∧ w'.cell? ⟨bx, 2, none⟩ = some (.int .u32 (A : Nat)) ∧ w'.cell? ⟨bx, 4, none⟩ = some (.int .u8 (NN : Nat)) ∧ w'.cell? ⟨bx, 5, none⟩ = some (.int .u32 (X : Nat)) from by
                        refine (rdevice_ch w1.heap.size bR bM bm bb 900 16 bT N bC idx pol a (Zr 16 N) brk tk cs bs st W (HR.out.fr0 (HF5.out.trans0 hF)) ha (by simp [maxLen]; omega)).mono ?_
                        rintro e w' ⟨c', bs', q1, q2, q3, q4⟩
                        have hx6 := q3.heap (hF.heap hx5 (by simp)) hxb
                        exact ⟨c', bs', q1, hid ⟨q2, (hF.mono (by simp)).trans q3 (fun t ht => .inl ht), fun j hj => (HLn.out.cov j).2 (q4 j hj)⟩, cell_of_heap hx6 rfl, cell_of_heap hx6 rfl, cell_of_heap hx6 rfl⟩))
                      have H19 := hid (fun (W : World) (hF : Fr [] w5 W) => (show Calls Try.prog 19 #[.pointer (some ⟨bR, 0, none⟩)] W fun e w' => e = .returned (.int .u32 (U : Nat)) ∧ ∃ d, w' = W.drewN d from by rw [HU.out]; exact Used_any bR bM 16 bT N bC idx pol brk tk W (HR.out.fr0 (HF5.out.trans0 hF)).ring (by omega) (by omega)))
                      clear hx hx5 hRw hOv hF5
                      obtain ⟨q, hq⟩ : ∃ q, q = A % N := ⟨_, rfl⟩
                      have hN1 : 1 ≤ N := by unfold Pow at hNp; omega
                      have hqb : q < 16 := by have := Nat.mod_lt A (show 0 < N by omega); omega
                      have hrem : (A : Int) % (N : Int) = (q : Int) := by rw [hq, Int.natCast_emod]
                      have hnz : ¬ (N : Int) = 0 := by omega
                      obtain ⟨E, hE⟩ : ∃ E, E = U + 4 + 8 * q := ⟨_, rfl⟩
                      have wA : IntKind.i64.wrap (A : Int) = A := by have := HA.out; rw [IntKind.wrap_i64]; omega
                      have wq : IntKind.u32.wrap (q : Int) = q := by rw [IntKind.wrap_u32]; omega
                      have w8 : IntKind.u32.wrap (8 * (q : Int)) = 8 * (q : Int) := by rw [IntKind.wrap_u32]; omega
                      have w4' : IntKind.u32.wrap ((U : Int) + 4) = (U : Int) + 4 := by rw [IntKind.wrap_u32]; omega
                      have wE : IntKind.u32.wrap ((U : Int) + 4 + 8 * (q : Int)) = (E : Int) := by rw [IntKind.wrap_u32]; omega
                      have wX : IntKind.u64.wrap (X : Int) = X := by have := HX.out; exact wraps_u64 _ (by omega) (by omega)
                      have wN : IntKind.u64.wrap (NN : Int) = NN := by have := HN4.out; exact wraps_u64 _ (by omega) (by omega)
                      have HEb := hid (show E < 4294967296 by omega)
                      have H20 := hid (fun (W : World) (hF : Fr [] w5 W) (x : Nat) (hx : x < 18446744073709551616) => (show Calls Try.prog 20 #[.int .u64 (x : Nat), .int .i64 4] W fun e w' => ∃ st : ByteArray, e = .returned (.string st) ∧ st.size = 4 ∧ Hid (Fr [] w5 w') ∧ w'.cell? ⟨bx, 2, none⟩ = some (.int .u32 (A : Nat)) ∧ w'.cell? ⟨bx, 4, none⟩ = some (.int .u8 (NN : Nat)) ∧ w'.cell? ⟨bx, 5, none⟩ = some (.int .u32 (X : Nat)) from (rbytes4 x hx W).mono fun e w' ⟨q1, q2⟩ => ⟨_, q1, by show (le 4 x).length = 4; exact le_length 4 x, hid (hF.trans0 q2), (hF.trans0 q2).cell b2 (by simp), (hF.trans0 q2).cell b4 (by simp), (hF.trans0 q2).cell b5 (by simp)⟩))
                      have H20a := hid (fun (W : World) (hF : Fr [] w5 W) => H20.out W hF NN (by have := HN4.out; omega))
                      have H20b := hid (fun (W : World) (hF : Fr [] w5 W) => H20.out W hF X (by have := HX.out; omega))
                      clear hq hE hqb hN1 H20
                      go_wp2_with fail
                      go_region_held (fun w' => w'.cell? ⟨bx, 2, none⟩ = some (.int .u32 (A : Nat)) ∧ w'.cell? ⟨bx, 4, none⟩ = some (.int .u8 (NN : Nat)) ∧ w'.cell? ⟨bx, 5, none⟩ = some (.int .u32 (X : Nat))) (go_keep)
                        (first
                        | (go_at_call 19; refine (H19.out _ ((Fr.refl _ w5).drew)).mono ?_; rintro e wa ⟨rfl, d1, hw⟩; subst hw)
                        | (go_at_call 20; refine (H20a.out _ ((Fr.refl _ w5).drewN _)).mono ?_; rintro e wb ⟨sa, rfl, hsa, hFb, b2', b4', b5'⟩; clear H20a)
                        | (go_at_call 20; refine (H20b.out _ hFb.out).mono ?_; rintro e wc ⟨sb, rfl, hsb, hFc, b2'', b4'', b5''⟩)
                        | (go_at_call 18; refine (H18.out _ hFc.out E _ HEb.out (by simp [ByteArray.size_append, hsa, hsb])).mono ?_; rintro e w6 ⟨c6, bs', rfl, H6, z2', z4', z5'⟩))
                      all_goals
                        clear H18 H19 b0 b2 b3 b4 b5
                        obtain ⟨l6, ⟨lv6, hM6, _⟩, _⟩ := H6.out.1.mem
                        have HM6 := hid hM6
                        have z1 : (⟨bs.toArray⟩ : ByteArray).size = 900 := HM1.out.len
                        have z2 : (⟨bs'.toArray⟩ : ByteArray).size = 900 := hM6.len
                        have HRw := hid (HRow.out.fr H6.out.2.1 (fun g hg ht => HV.out g hg (by simpa using ht)))
                        have HCH := hid H6.out.2.2
                        have HI6 := hid (fun wz (hF : Fr [] w6 wz) => OnceI.keep (P := fun _ _ _ _ _ _ => True) HR.out Hcn.out HO.out HSp.out HF.out (H6.out.1.fr0 hF) (((HF5.out.kp0).trans (H6.out.2.1.kp (fun t ht => .inl (by simp at ht; simp [ht])))).trans hF.kp0) trivial)
                        clear hM6
                        go_wp2_with fail
                        refine (read_all bM bm bb 900 lv6 l6 bs' w6 HM6.out).mono ?_
                        rintro e w7 ⟨rfl, hw⟩
                        subst hw
                        go_wp2_with fail
                        go_loopg [25] 900 (fun gk q wz => ∃ k : Nat, k ≤ 900 ∧ gk = 900 - k ∧ q = .int .i64 k ∧ Hid (Fr [] w7 wz))
                        case atStart => exact ⟨0, Nat.zero_le _, rfl, rfl, hid (Fr.refl _ _)⟩
                        case round =>
                          obtain ⟨k, hk, hgk2, rfl, K5⟩ := hrel
                          by_cases hkl : k < 900
                          · have hkl' : (k : Int) < 900 := by omega
                            obtain ⟨y1, Y1, Z1⟩ : ∃ y1 : Nat, (∀ h : k < (⟨bs'.toArray⟩ : ByteArray).size, ((⟨bs'.toArray⟩ : ByteArray)[k]'h).toNat = y1) ∧ Hid (∃ u : UInt8, bs'[k]? = some u ∧ u.toNat = y1) := byte_at bs' k (by omega)
                            obtain ⟨y2, Y2, Z2⟩ : ∃ y1 : Nat, (∀ h : k < (⟨bs.toArray⟩ : ByteArray).size, ((⟨bs.toArray⟩ : ByteArray)[k]'h).toNat = y1) ∧ Hid (∃ u : UInt8, bs[k]? = some u ∧ u.toNat = y1) := byte_at bs k (by omega)
                            by_cases hy : y1 = y2
                            · subst hy
                              go_wp2_with fail
                              go_quiet (fail)
                              go_wp2_with fail
                              go_roundg (900 - (k + 1))
                              case measure => omega
                              case rel => exact ⟨k + 1, by omega, rfl, by go_num, hid (K5.out.drewN _)⟩
                            · have hyb : (y2 == y1) = false := by simp; omega
                              have hyi : ((y2 : Int) == (y1 : Int)) = false := by simp; omega
                              have hyj : ¬ ((y2 : Int) = (y1 : Int)) := by omega
                              have hyk : ¬ (y2 = y1) := by omega
                              have hyn : ((y2 : Int) != (y1 : Int)) = true := by simp; omega
                              have HI := hid (HCH.out k (byte_ne Z1.out Z2.out hy))
                              go_wp2_with fail
                              refine wp_region_ext (by kernel_rfl) (by kernel_rfl) ?_
                              repeat (go_big_quiet_step ((exact Calls.ext_of (in_is v5 l 900 k _ (HRw.out.fr (K5.out.trans0 (ext_fr _ _)) (by simp)) HCN.out (by omega) (by omega) true ⟨fun _ => HI.out, fun _ => rfl⟩))))
                              refine wpQuiet_nil ?_
                              rintro _ ⟨xq, rfl⟩
                              go_wp2
                              go_roundg (900 - (k + 1))
                              case measure => omega
                              case rel => exact ⟨k + 1, by omega, rfl, by go_num, hid (K5.out.trans0 (ext_fr _ _))⟩
                          · obtain rfl : k = 900 := by omega
                            have HI := hid (HI6.out _ K5.out)
                            clear HI6
                            go_wp2_with fail
                            refine HI.out.waits.mono ?_
                            rintro e w8 ⟨rfl, hw⟩
                            subst hw
                            go_wp2
                            go_roundg (len - (i + 1))
                            case measure => omega
                            case rel => exact ⟨i + 1, n, by omega, rfl, by go_num, p, c, rfl, HI⟩
                  · have hd3 : (D == 3) = false := by simpa using hD3
                    as_aux_lemma =>
                      have F1 : Fr [] wr (wr.alloc (.cells #[.int .i64 D, .slice pL xs.length cL, .int .u32 (A : Nat), .string S, .int .u8 (NN : Nat), .int .u32 (X : Nat)] 36)) := (Fr.refl _ _).alloc _
                      have HI := hid (OnceI.keep (P := fun _ _ _ _ _ _ => True) HR.out Hcn.out HO.out HSp.out HF.out (HR.out.fr0 F1) F1.kp0 trivial)
                      clear F1
                      go_wp2_with fail
                      refine HI.out.waits.mono ?_
                      rintro e w8 ⟨rfl, hw⟩
                      subst hw
                      go_wp2
                      go_roundg (len - (i + 1))
                      case measure => omega
                      case rel => exact ⟨i + 1, n, by omega, rfl, by go_num, p, c, rfl, HI⟩
        · obtain rfl : i = len := by omega
          go_wp2_with fail
          refine (works_any _).mono ?_
          rintro e w4 ⟨rfl, hF⟩
          go_wp2
          go_ret
          obtain ⟨_, _, _, _, _, _, _, _, _, _, hF3, _⟩ := K0.out
          exact ⟨rfl, (HF1.out.trans0 hF3).trans0 hF⟩
end Go.Proofs.Ytfiaciniikcacaa
