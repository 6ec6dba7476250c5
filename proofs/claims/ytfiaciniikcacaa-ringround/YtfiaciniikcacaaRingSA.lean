/-
  The walk of RingRound of the statements of package ring. No statement is proved here.
-/
import Derived.Test.YtfiaciniikcacaaRingR
namespace Go.Proofs.Ytfiaciniikcacaa
open Go.RowKit Go.BigFrame Go.MapKept
set_option linter.unusedVariables false
set_option linter.unusedSimpArgs false
set_option maxRecDepth 1000000
set_option maxHeartbeats 40000000

theorem and_one : ∀ y : Nat, y < 256 → bits .and .u8 (y : Int) 1 = ((y % 2 : Nat) : Int) := by decide +kernel
theorem num_zero (N : Nat) (hN : Pow N) (h8 : N ≤ 8) : num (wrb (List.replicate 600 0) 0 (List.replicate (rSize N) 0)) (uAt N + 2) 2 = 0 := by
  rcases hN with rfl | rfl | rfl | rfl | h | h | h | h | h
  · decide +kernel
  · decide +kernel
  · decide +kernel
  · decide +kernel
  all_goals omega
theorem OnceI.left {w wr : World} {bR bM bm bb k at_ bT N bC n m : Nat} {v : Value} (h : OnceI w wr bR bM bm bb k at_ bT N bC v n (RP N m)) : Calls Try.prog 23 #[.pointer (some ⟨bR, 0, none⟩)] wr fun e w' => e = .returned (.int .i64 ((N : Int) - (n : Int))) ∧ w' = wr := by
  obtain ⟨idx, pol, brk, tk, cs, bs, hR, hn, _, _, _, hP⟩ := h
  have h1 := hR.ones (fun c hc => (hP.2.2.2 c hc).1)
  have e1 : ((cnt tk : Nat) : Int) = (N : Int) - (n : Int) := by omega
  rw [← e1]
  exact rleft_any w.heap.size bR bM bm bb k at_ bT N bC idx pol (Zr at_ N) brk tk cs bs wr hR
theorem ringRound_walk0 (pw rd : Nat) (hpw : pw < 256) (hrd : rd < 256) (p0 : Option Addr) (c0 : Nat) (w : World) :
    Calls Try.prog 4 #[.int .u8 pw, .int .u8 rd, .slice p0 0 c0] w fun e w' => e = .returned (.bool true) ∧ Fr [] w w' := by
  skip
  go_enter Try.func4, Try.ntmps4
  go_wp2_with fail
  obtain ⟨N, hNe, hNp, hN8⟩ : ∃ N : Nat, wrap64 (2 ^ (pw % 4)) = (N : Int) ∧ Pow N ∧ N ≤ 8 := by
    have h5 : pw % 4 < 4 := Nat.mod_lt _ (by omega)
    generalize pw % 4 = q at *
    match q, h5 with
    | 0, _ => exact ⟨1, by decide +kernel, by unfold Pow; omega, by omega⟩
    | 1, _ => exact ⟨2, by decide +kernel, by unfold Pow; omega, by omega⟩
    | 2, _ => exact ⟨4, by decide +kernel, by unfold Pow; omega, by omega⟩
    | 3, _ => exact ⟨8, by decide +kernel, by unfold Pow; omega, by omega⟩
  rw [hNe]
  clear hNe
  refine (new_mem 600 (by omega) (by omega) w).mono ?_
  rintro e w2 ⟨rfl, hM2, hF2⟩
  obtain ⟨bM, hbM⟩ : ∃ b, b = w.heap.size + 1 + 1 := ⟨_, rfl⟩
  obtain ⟨bm, hbm⟩ : ∃ b, b = w.heap.size + 1 := ⟨_, rfl⟩
  obtain ⟨bb, hbb⟩ : ∃ b, b = w.heap.size := ⟨_, rfl⟩
  rw [← hbM, ← hbm] at hM2
  rw [← hbM]
  have hN1 : 1 ≤ N := by unfold Pow at hNp; omega
  have hrs : rSize N ≤ 300 := by unfold rSize uAt; omega
  have H10 := hid (show Calls Try.prog 10 #[.pointer (some ⟨bM, 0, none⟩), .int .u32 0, .int .i64 N] w2 fun e w' => ∃ bR bT bC, e = .returned (.tuple #[.pointer (some ⟨bR, 0, none⟩), .int .i64 0]) ∧ Hid (OnceI w w' bR bM bm bb 600 0 bT N bC (.slice none 0 0) 0 (RP N 0)) from by
    refine (rnew_rs w.heap.size bM bm bb 600 0 N _ w2 (hbb ▸ hM2) hNp (by omega) (by omega) hF2.size (by omega) (by omega)).mono ?_
    rintro e w' ⟨bR, bT, bC, q1, q2, q3, q4, q5, q6⟩
    refine ⟨bR, bT, bC, q1, hid ⟨_, _, _, _, _, _, q2, rfl, World.ownsRow_nil _ _ _ _, fun c hc => by simp at hc, ?_, rfl, rfl, num_zero N hNp hN8, fun c hc => by simp at hc⟩⟩
    exact hF2.trans q6 (fun t ht => .inr (by simp at ht; rcases ht with rfl | rfl <;> omega)))
  clear hM2 hF2 hbM hbm hbb
  go_wp2_with fail
  refine H10.out.mono ?_
  rintro e w3 ⟨bR, bT, bC, rfl, H3⟩
  clear H10
  obtain ⟨U, hU⟩ : ∃ U, U = uAt N := ⟨_, rfl⟩
  have HU := hid hU
  have hUb : U ≤ 300 := by rw [hU]; unfold uAt; omega
  clear hU
  go_wp2_with fail
  go_loopg [11, 12, 13] (200 + 4 * rd) (fun gk s11 s12 s13 wr => ∃ i m n : Nat, i ≤ 200 + 4 * rd ∧ gk = 200 + 4 * rd - i ∧ m < 65536 ∧ s11 = .int .u16 m ∧ s13 = .int .i64 i ∧ ∃ p c, s12 = .slice p n c ∧ Hid (OnceI w wr bR bM bm bb 600 0 bT N bC (.slice p n c) n (RP N m)))
  case atStart => exact ⟨0, 0, 0, Nat.zero_le _, rfl, by omega, rfl, rfl, none, 0, rfl, H3⟩
  case round =>
    obtain ⟨i, m, n, hi, hgk, hm, rfl, rfl, p, c, rfl, K0⟩ := hrel
    have hnN : n ≤ N := by
      obtain ⟨_, _, _, _, cs, _, hR, hcn, _⟩ := K0.out
      have := hR.few
      omega
    by_cases hlt : i < 200 + 4 * rd
    · have hlt' : (i : Int) < 200 + 4 * (rd : Int) := by omega
      obtain ⟨y, hy⟩ : ∃ y, y = i % 256 := ⟨_, rfl⟩
      have hyb : y < 256 := by omega
      have wI : IntKind.u8.wrap (i : Int) = (y : Int) := by rw [IntKind.wrap_u8]; omega
      clear hy
      obtain ⟨z, hz⟩ : ∃ z, z = y % 2 := ⟨_, rfl⟩
      have hand : bits .and .u8 (y : Int) 1 = (z : Int) := by rw [hz]; exact and_one y hyb
      have hz2 : z = 0 ∨ z = 1 := by omega
      clear hz
      rcases hz2 with rfl | rfl
      · skip
        obtain ⟨idx, pol, brk, tk, cs, bs, hR, hcn, hO, hsep, hF, hP⟩ := K0.out
        have HR := hid hR
        have HO := hid hO
        have HSp := hid hsep
        have HF := hid hF
        have Hcn := hid hcn
        have HP := hid hP
        clear hR hO hsep hF hcn hP
        obtain ⟨a, ha⟩ : ∃ a, a = 400 + 8 * n := ⟨_, rfl⟩
        have wn : IntKind.u32.wrap (n : Int) = n := by rw [IntKind.wrap_u32]; omega
        have w8n : IntKind.u32.wrap (8 * (n : Int)) = 8 * (n : Int) := by rw [IntKind.wrap_u32]; omega
        have wa : IntKind.u32.wrap (400 + 8 * (n : Int)) = (a : Int) := by rw [IntKind.wrap_u32]; omega
        have hab : a + 4 ≤ 600 := by omega
        clear ha
        have F1 : Fr [] wr (wr.alloc (.cells #[.int .u32 (a : Nat), .int .u32 4, .bool false] 59)) := (Fr.refl _ _).alloc _
        have HF1' := hid F1
        have HArg := hid (one_arg wr a (by omega))
        clear F1
        go_wp2_with fail
        generalize wr.alloc (.cells #[.int .u32 (a : Nat), .int .u32 4, .bool false] 59) = W1 at *
        generalize wr.heap.size = n0 at *
        refine (radd_all w.heap.size bR bM bm bb 600 0 bT N bC idx pol (Zr 0 N) brk tk cs bs _ [⟨a, 4, false⟩] W1 (HR.out.fr0 HF1'.out) HArg.out).mono ?_
        rintro e w5 (⟨cc0, hW, rfl, hR5, hK5⟩ | ⟨hb, hmm, hin, ch, hcx, hds, hfl, rfl, hfr, hR5, hK5⟩)
        · obtain ⟨rfl, hcN⟩ := one_why (n := n) HR.out HP.out.1 (fun c hc => (HP.out.2.2.2 c hc).1) hab hW
          have hcn' := Hcn.out
          have HIc := hid (OnceI.keep (P := RP N m) HR.out Hcn.out HO.out HSp.out HF.out hR5 ((HF1'.out.kp0).trans hK5) HP.out)
          have hNn : N = n := by omega
          have hn1 : 1 ≤ n := by omega
          have hnlt : ¬ ((n : Int) < (N : Int)) := by omega
          have hnlt' : decide ((n : Int) < (N : Int)) = false := by simp; omega
          clear hR5 hK5 hW HArg HF1' hcn' hcN HR HO HSp HF Hcn HP hNn
          obtain ⟨idx2, pol2, brk2, tk2, cs2, bs2, hRc, hcnc, hOc, hsepc, hFc, hPc⟩ := HIc.out
          obtain ⟨rfl, rfl, hnum, hones⟩ := hPc
          have hn1' : 1 ≤ n := by omega
          have hl2 : (cs2.map Ch.h).length = n := by rw [List.length_map, hcnc]
          obtain ⟨g, cap7, hform, hc1, hc2, hDc, hgc⟩ := Descs.at (ds := cs2.map Ch.h) (v := .slice p n c) (B := w.heap.size) (w := w5) (by rw [hl2]; exact hOc) (by omega)
          rw [hl2] at hform hc1
          cases hform
          obtain ⟨k, hk⟩ : ∃ k, k = y % n := ⟨_, rfl⟩
          have hkn0 : k < n := by rw [hk]; exact Nat.mod_lt _ (by omega)
          have hremk : (y : Int) % (n : Int) = (k : Int) := by rw [hk, Int.natCast_emod]
          have hnz : ¬ (n : Int) = 0 := by omega
          have wy : IntKind.i64.wrap (y : Int) = y := by rw [IntKind.wrap_i64]; omega
          obtain ⟨ps, cc, qs, hcs, hpl⟩ : ∃ ps cc qs, cs2 = ps ++ cc :: qs ∧ ps.length = k := ⟨cs2.take k, cs2[k]'(by omega), cs2.drop (k + 1), by rw [← List.drop_eq_getElem_cons (by omega), List.take_append_drop], by simp; omega⟩
          subst hpl
          have hck : w5.cell? ⟨g, ps.length, none⟩ = some (.int .u16 (cc.h : Nat)) := by
            have h0 : ps.length < (cs2.map Ch.h).length := by rw [hl2]; exact hkn0
            have h1 : (cs2.map Ch.h)[ps.length]? = some cc.h := by rw [hcs]; simp
            have h2 := hDc.cell ps.length h0
            rw [List.getElem?_eq_getElem h0] at h1
            rw [Option.some.inj h1] at h2
            exact h2
          have hkl' : (ps.length : Int) < (n : Int) := by omega
          have hcc0 : cc ∈ cs2 := by rw [hcs]; simp
          have hccN := hRc.hlt hcc0
          have hlen : ((ps ++ cc :: qs).map Ch.h).length = n := by rw [← hcs]; exact hl2
          have hlen' : ps.length + 1 + qs.length = n := by simp at hlen; omega
          rw [hcs] at hRc hDc hones
          obtain ⟨q, hqq⟩ : ∃ q, q = pol2 % N := ⟨_, rfl⟩
          have hqb : q < N := by rw [hqq]; exact Nat.mod_lt _ (by omega)
          have hremq : (pol2 : Int) % (N : Int) = (q : Int) := by rw [hqq, Int.natCast_emod]
          have hNz : ¬ (N : Int) = 0 := by omega
          obtain ⟨E, hE⟩ : ∃ E, E = U + 4 + 8 * q := ⟨_, rfl⟩
          have wm : IntKind.i64.wrap (pol2 : Int) = pol2 := by rw [IntKind.wrap_i64]; omega
          have wq : IntKind.u32.wrap (q : Int) = q := by rw [IntKind.wrap_u32]; omega
          have w8q : IntKind.u32.wrap (8 * (q : Int)) = 8 * (q : Int) := by rw [IntKind.wrap_u32]; omega
          have wU4 : IntKind.u32.wrap ((U : Int) + 4) = (U : Int) + 4 := by rw [IntKind.wrap_u32]; omega
          have wU2 : IntKind.u32.wrap ((U : Int) + 2) = (U : Int) + 2 := by rw [IntKind.wrap_u32]; omega
          have wE : IntKind.u32.wrap ((U : Int) + 4 + 8 * (q : Int)) = (E : Int) := by rw [IntKind.wrap_u32]; omega
          have wh : IntKind.u64.wrap (cc.h : Int) = cc.h := wraps_u64 _ (by omega) (by omega)
          obtain ⟨m', hm'⟩ : ∃ m', m' = (pol2 + 1) % 65536 := ⟨_, rfl⟩
          have hm'b : m' < 65536 := by omega
          have wm1 : IntKind.u16.wrap ((pol2 : Int) + 1) = (m' : Int) := by rw [IntKind.wrap_u16]; omega
          have wm2 : IntKind.u64.wrap (m' : Int) = m' := wraps_u64 _ (by omega) (by omega)
          have Hm' := hid hm'
          have HRc := hid hRc
          have HFc := hid hFc
          have HDc := hid hDc
          have HOc := hid hOc
          have HE := hid (show E = uAt N + 4 + 8 * (pol2 % N) by rw [hE, hqq, HU.out])
          have H19 := hid (fun (W' : World) (cs' : List Ch) (bs' : List UInt8) (tk' : List Bool) (h : RS w.heap.size W' bR bM bm bb 600 0 bT N bC (Zr 0 N) idx2 pol2 false tk' cs' bs') => (show Calls Try.prog 19 #[.pointer (some ⟨bR, 0, none⟩)] W' fun e w' => e = .returned (.int .u32 (U : Nat)) ∧ ∃ d, w' = W'.drewN d from by rw [HU.out]; have := Used_any bR bM 0 bT N bC idx2 pol2 false tk' W' h.ring (by omega) (by omega); simpa using this))
          have H20a := hid (fun (W' : World) (hF : Fr [] w5 W') => (show Calls Try.prog 20 #[.int .u64 (cc.h : Nat), .int .i64 4] W' fun e w' => e = .returned (.string ⟨(le 4 cc.h).toArray⟩) ∧ Hid (Fr [] w5 w') from (rbytes4 cc.h (by omega) W').mono fun e w' ⟨q1, q2⟩ => ⟨q1, hid (hF.trans0 q2)⟩))
          have H20b := hid (fun (W' : World) (hF : Fr [] w5 W') => (show Calls Try.prog 20 #[.int .u64 0, .int .i64 4] W' fun e w' => e = .returned (.string ⟨(le 4 0).toArray⟩) ∧ Hid (Fr [] w5 w') from (rbytes4 0 (by omega) W').mono fun e w' ⟨q1, q2⟩ => ⟨q1, hid (hF.trans0 q2)⟩))
          have H18 := hid (fun (W' : World) (hF : Fr [] w5 W') => (show Calls Try.prog 18 #[.pointer (some ⟨bM, 0, none⟩), .int .u32 (E : Nat), .string (⟨(le 4 cc.h).toArray⟩ ++ ⟨(le 4 0).toArray⟩)] W' fun e w' => e = .returned (.int .i64 0) ∧ Hid (RS w.heap.size w' bR bM bm bb 600 0 bT N bC (Zr 0 N) idx2 pol2 false tk2 (ps ++ cc :: qs) (wrb bs2 E (le 4 cc.h ++ le 4 0)) ∧ Fr [bb] w5 w') from
            (rdevice_used w.heap.size bR bM bm bb 600 0 bT N bC idx2 pol2 E false tk2 (ps ++ cc :: qs) bs2 _ (le 4 cc.h ++ le 4 0) (by simp) W' (HRc.out.fr0 hF) (by rw [HE.out]; omega) (by have := HE.out; have := HU.out; simp [le_length]; unfold rSize; omega)).mono fun e w' ⟨q1, q2, q3⟩ => ⟨q1, hid ⟨q2, (hF.mono (by simp)).trans q3 (fun t ht => .inl ht)⟩⟩))
          clear hm' hqq hE hk hRc hFc hDc hOc hsepc hcnc hcs hl2 hgc HIc hnum hcc0 K0
          go_wp2_with fail
          go_region_held (fun _ => True) (go_keep)
            (first
            | (go_at_call 19; refine (H19.out _ _ _ _ (HRc.out.fr0 ((Fr.refl _ w5).drew))).mono ?_; rintro e wa ⟨rfl, d1, hw⟩; subst hw)
            | (go_at_call 20; refine (H20a.out _ ((Fr.refl _ w5).drewN _)).mono ?_; rintro e wb ⟨rfl, hFb⟩; clear H20a)
            | (go_at_call 20; refine (H20b.out _ hFb.out).mono ?_; rintro e wc ⟨rfl, hFcc⟩; clear H20b)
            | (go_at_call 18; refine (H18.out _ hFcc.out).mono ?_; rintro e w6 ⟨rfl, H6⟩))
          all_goals
            as_aux_lemma =>
              go_wp2_with fail
              refine (H19.out _ _ _ _ H6.out.1).mono ?_
              rintro e wd ⟨rfl, d2, hw⟩
              subst hw
              go_wp2_with fail
              refine (rbytes2 m' (by omega) _).mono ?_
              rintro e we ⟨rfl, hFe⟩
              have H18b := hid (show Calls Try.prog 18 #[.pointer (some ⟨bM, 0, none⟩), .int .u32 ((U : Int) + 2), .string ⟨(le 2 m').toArray⟩] we fun e w' => e = .returned (.int .i64 0) ∧ Hid (RS w.heap.size w' bR bM bm bb 600 0 bT N bC (Zr 0 N) idx2 pol2 false tk2 (ps ++ cc :: qs) (rbs bs2 N pol2 cc.h) ∧ Kp w.heap.size [bR, bT, bC, bm, bb] w5 w') from by
                rw [show ((U : Int) + 2) = ((U + 2 : Nat) : Int) from by omega]
                have F7 : Fr [] w6 we := ((Fr.refl _ w6).drewN _).trans0 hFe
                refine (rdevice_used w.heap.size bR bM bm bb 600 0 bT N bC idx2 pol2 (U + 2) false tk2 (ps ++ cc :: qs) _ _ (le 2 m') (by simp) we (H6.out.1.fr0 F7) (by rw [HU.out]; omega) (by have := HU.out; simp [le_length]; unfold rSize; omega)).mono ?_
                rintro e w' ⟨q1, q2, q3⟩
                refine ⟨q1, hid ⟨?_, ((H6.out.2.kp (fun t ht => .inl (by simp at ht; simp [ht]))).trans F7.kp0).trans (q3.kp (fun t ht => .inl (by simp at ht; simp [ht])))⟩⟩
                have e2 : rbs bs2 N pol2 cc.h = wrb (wrb bs2 E (le 4 cc.h ++ le 4 0)) (U + 2) (le 2 m') := by
                  unfold rbs
                  rw [HE.out, HU.out, Hm'.out]
                rw [e2]
                exact q2)
              go_wp2_with fail
              refine H18b.out.mono ?_
              rintro e w8 ⟨rfl, H8⟩
              have H15 := hid (show Calls Try.prog 15 #[.pointer (some ⟨bR, 0, none⟩)] w8 fun e w' => e = .returned (.tuple #[.agg #[.int .u16 (cc.h : Nat), .int .u32 0], .bool true, .int .i64 0]) ∧ Hid (RS w.heap.size w' bR bM bm bb 600 0 bT N bC (Zr 0 N) idx2 m' false (tkC tk2 cc.ds cc.ds.length) (ps ++ qs) (rbs bs2 N pol2 cc.h) ∧ Kp w.heap.size [bR, bT, bC, bm, bb] w5 w' ∧ RP N m' idx2 m' false (tkC tk2 cc.ds cc.ds.length) (ps ++ qs) (rbs bs2 N pol2 cc.h)) from
                (rpoll_any w.heap.size bR bM bm bb 600 0 bT N bC idx2 pol2 (Zr 0 N) tk2 (ps ++ cc :: qs) (rbs bs2 N pol2 cc.h) w8 H8.out.1).mono fun e w' hq9 => by
                  obtain ⟨q1, q2, q3, q4⟩ := one_poll H8.out.1 HRc.out.len hq9 hones
                  rw [← Hm'.out] at q2 q4
                  exact ⟨q1, hid ⟨q2, H8.out.2.trans q3, q4⟩⟩)
              go_wp2_with fail
              refine H15.out.mono ?_
              rintro e w9 ⟨rfl, H9⟩
              clear H18b H8 H15 H6 H19 H18 hones
              have F6 : Fr [] w9 (w9.alloc (.cells #[.int .u16 (cc.h : Nat), .int .u32 0] 43)) := (Fr.refl _ _).alloc _
              have hgS : g ∉ [bR, bT, bC, bm, bb] := fun ht => by
                obtain ⟨cur, q1, _⟩ := HDc.out.blk
                exact (HRc.out.odd g ht cur _).2 q1
              have hD6 : DescsAt (w9.alloc (.cells #[.int .u16 (cc.h : Nat), .int .u32 0] 43)) g (ps.map Ch.h ++ cc.h :: qs.map Ch.h) := by
                have := (HDc.out.kp H9.out.2.1 hgS).fr F6 (by simp)
                simpa using this
              have hB6 : w.heap.size ≤ (w9.alloc (.cells #[.int .u16 (cc.h : Nat), .int .u32 0] 43)).heap.size := by have := HFc.out.size; have := H9.out.2.1.size; simp; omega
              obtain ⟨v7, w7', a1, a2, a3, a4⟩ := run_app37 (w9.alloc (.cells #[.int .u16 (cc.h : Nat), .int .u32 0] 43)) 33 w.heap.size (.slice none 0 0) [] 0 rfl (World.ownsRow_nil _ _ _ _) ⟨g, 0, none⟩ ps.length c (ps.map Ch.h) (by simp) (dcells_low hD6) (by omega) hB6
              simp only [Nat.zero_add, List.nil_append] at a1 a2
              have a3' : Fr [] (w9.alloc (.cells #[.int .u16 (cc.h : Nat), .int .u32 0] 43)) w7' := by simpa [Value.ownBlock] using a3
              obtain ⟨p7, c7, rfl⟩ := ownsRow.form a2
              have hD7 := hD6.fr a3' (by simp)
              by_cases hcc : c = ps.length + 1
              · have hq0 := hid (show qs = [] from List.length_eq_zero_iff.1 (by omega))
                subst hcc
                obtain ⟨v8, w8', b1, b2, b3, b4⟩ := run_app37 w7' 33 w.heap.size _ (ps.map Ch.h) ps.length (by simp) a2 ⟨g, 0, none⟩ qs.length 0 (qs.map Ch.h) (by simp) (by rw [hq0.out]; intro j u hu; simp [dvs] at hu) (by omega) (Nat.le_trans hB6 a3'.size)
                obtain ⟨p8, c8, rfl⟩ := ownsRow.form b2
                have hb8 : Fr [] (w9.alloc (.cells #[.int .u16 (cc.h : Nat), .int .u32 0] 43)) w8' := a3'.trans b3 (fun t ht => .inr (by
                  have := a4 t (by simpa using ht)
                  simpa [Value.ownBlock] using this))
                have HI := hid (show OnceI w w8' bR bM bm bb 600 0 bT N bC (.slice p8 (ps.length + qs.length) c8) (ps.length + qs.length) (RP N m') from by
                  have e1 : ps.length + qs.length = n - 1 := by omega
                  rw [e1] at b2 b4 ⊢
                  refine OnceI.polled HRc.out (by rw [← hlen]; simp) HFc.out H9.out.1 H9.out.2.1 F6 (by simpa [dvs] using b2) hb8 (fun g' hg' => ?_) H9.out.2.2
                  rcases b4 g' hg' with h1 | h1
                  · have := a4 g' h1
                    simp [Value.ownBlock] at this
                    omega
                  · have := hb8.size
                    have := a3'.size
                    have := F6.size
                    omega)
                have hnc := hc1
                clear a2 a3 a4 b2 b3 b4 hD6 hD7 hb8 a3' F6 hgS
                have hkn : ((ps.length : Int)) ≤ (n : Int) := by omega
                have hkn1 : ((ps.length : Int)) + 1 ≤ (n : Int) := by omega
                have hk0 : ¬ ((ps.length : Int) < 0) := by omega
                have hq' : n - (ps.length + 1) = qs.length := by omega
                go_wp2_with (first | (at_builtin; refine wpList_app rfl _ _ 33 rfl rfl rfl a1 ?_; clear a1) | (at_builtin; refine wpList_app rfl _ _ 33 rfl rfl rfl b1 ?_; clear b1))
                refine HI.out.waits.mono ?_
                rintro e w9' ⟨rfl, hw⟩
                subst hw
                go_wp2_with fail
                refine HI.out.left.mono ?_
                rintro e w10' ⟨rfl, hw⟩
                subst hw
                go_wp2
                go_roundg (200 + 4 * rd - (i + 1))
                case measure => omega
                case rel => exact ⟨i + 1, m', ps.length + qs.length, by omega, rfl, by omega, rfl, by go_num, p8, c8, rfl, HI⟩
              · skip
                obtain ⟨v8, w8', b1, b2, b3, b4⟩ := run_app37 w7' 33 w.heap.size _ (ps.map Ch.h) ps.length (by simp) a2 ⟨g, ps.length + 1, none⟩ qs.length (c - (ps.length + 1)) (qs.map Ch.h) (by simp) (by have := dcells_high hD7; simpa using this) (by omega) (Nat.le_trans hB6 a3'.size)
                obtain ⟨p8, c8, rfl⟩ := ownsRow.form b2
                have hb8 : Fr [] (w9.alloc (.cells #[.int .u16 (cc.h : Nat), .int .u32 0] 43)) w8' := a3'.trans b3 (fun t ht => .inr (by
                  have := a4 t (by simpa using ht)
                  simpa [Value.ownBlock] using this))
                have HI := hid (show OnceI w w8' bR bM bm bb 600 0 bT N bC (.slice p8 (ps.length + qs.length) c8) (ps.length + qs.length) (RP N m') from by
                  have e1 : ps.length + qs.length = n - 1 := by omega
                  rw [e1] at b2 b4 ⊢
                  refine OnceI.polled HRc.out (by rw [← hlen]; simp) HFc.out H9.out.1 H9.out.2.1 F6 (by simpa [dvs] using b2) hb8 (fun g' hg' => ?_) H9.out.2.2
                  rcases b4 g' hg' with h1 | h1
                  · have := a4 g' h1
                    simp [Value.ownBlock] at this
                    omega
                  · have := hb8.size
                    have := a3'.size
                    have := F6.size
                    omega)
                have hnc := hc1
                clear a2 a3 a4 b2 b3 b4 hD6 hD7 hb8 a3' F6 hgS
                have hkn : ((ps.length : Int)) ≤ (n : Int) := by omega
                have hkn1 : ((ps.length : Int)) + 1 ≤ (n : Int) := by omega
                have hk0 : ¬ ((ps.length : Int) < 0) := by omega
                have hq' : n - (ps.length + 1) = qs.length := by omega
                have hcn : ¬ c = ps.length + 1 := hcc
                have hcn2 : ¬ (c - (ps.length + 1) = 0) := by omega
                have hcn3 : ps.length + 1 < c := by omega
                go_wp2_with (first | (at_builtin; refine wpList_app rfl _ _ 33 rfl rfl rfl a1 ?_; clear a1) | (at_builtin; refine wpList_app rfl _ _ 33 rfl rfl rfl b1 ?_; clear b1))
                refine HI.out.waits.mono ?_
                rintro e w9' ⟨rfl, hw⟩
                subst hw
                go_wp2_with fail
                refine HI.out.left.mono ?_
                rintro e w10' ⟨rfl, hw⟩
                subst hw
                go_wp2
                go_roundg (200 + 4 * rd - (i + 1))
                case measure => omega
                case rel => exact ⟨i + 1, m', ps.length + qs.length, by omega, rfl, by omega, rfl, by go_num, p8, c8, rfl, HI⟩
        · have hO5 : w5.ownsRow w.heap.size 37 1 (.slice p n c) n (dvs (cs.map Ch.h)) := own37_kp (own37_kp (B := w.heap.size) (S := []) HO.out HF1'.out.kp0 (fun t ht => by simp at ht)) hK5 (HR.out.fr0 HF1'.out).odd
          have hlen : (cs.map Ch.h).length = n := by rw [List.length_map, Hcn.out]
          obtain ⟨v7, w7, q1, q2, q3, q4⟩ := run_app37 (w5.alloc (.cells #[.int .u16 (ch.h : Nat)] 37)) 33 w.heap.size (.slice p n c) (cs.map Ch.h) n hlen (hO5.alloc _) ⟨w5.heap.size, 0, none⟩ 1 1 [ch.h] rfl (by
            intro j u hj
            match j, hj with
            | 0, hj => simp [dvs] at hj; subst hj; simp [Addr.add]) (by omega) (by have := (HF.out.trans0 HF1'.out).size; have := hK5.size; simp; omega)
          obtain ⟨p7, c7, rfl⟩ := ownsRow.form q2
          have hR5' := hR5
          simp only [List.length_singleton] at hR5' hfl
          have HI := hid (OnceI.added (P := RP N m) HR.out Hcn.out HO.out HSp.out HF.out HF1'.out hfr hR5' hK5 q2 q3 q4 (RP.add HR.out HP.out hcx hfl))
          clear hR5 hR5' hK5 q2 q3 q4 hO5 hlen hfr hb hmm hin hcx hds hfl
          go_wp2_with (at_builtin; refine wpList_app rfl _ _ 33 rfl rfl rfl q1 ?_)
          go_roundg (200 + 4 * rd - (i + 1))
          case measure => omega
          case rel => exact ⟨i + 1, m, n + 1, by omega, rfl, hm, rfl, by go_num, p7, c7, rfl, HI⟩
      · by_cases hn0 : n = 0
        · have hn0' : n ≤ 0 := by omega
          have hnb : ((n : Int) == 0) = true := by simp; omega
          clear hn0
          obtain ⟨idx, pol, brk, tk, cs, bs, hR, hcn, hO, hsep, hF, hP⟩ := K0.out
          have HR := hid hR
          have HO := hid hO
          have HSp := hid hsep
          have HF := hid hF
          have Hcn := hid hcn
          have HP := hid hP
          clear hR hO hsep hF hcn hP
          obtain ⟨a, ha⟩ : ∃ a, a = 400 + 8 * n := ⟨_, rfl⟩
          have wn : IntKind.u32.wrap (n : Int) = n := by rw [IntKind.wrap_u32]; omega
          have w8n : IntKind.u32.wrap (8 * (n : Int)) = 8 * (n : Int) := by rw [IntKind.wrap_u32]; omega
          have wa : IntKind.u32.wrap (400 + 8 * (n : Int)) = (a : Int) := by rw [IntKind.wrap_u32]; omega
          have hab : a + 4 ≤ 600 := by omega
          clear ha
          have F1 : Fr [] wr (wr.alloc (.cells #[.int .u32 (a : Nat), .int .u32 4, .bool false] 59)) := (Fr.refl _ _).alloc _
          have HF1' := hid F1
          have HArg := hid (one_arg wr a (by omega))
          clear F1
          go_wp2_with fail
          generalize wr.alloc (.cells #[.int .u32 (a : Nat), .int .u32 4, .bool false] 59) = W1 at *
          generalize wr.heap.size = n0 at *
          refine (radd_all w.heap.size bR bM bm bb 600 0 bT N bC idx pol (Zr 0 N) brk tk cs bs _ [⟨a, 4, false⟩] W1 (HR.out.fr0 HF1'.out) HArg.out).mono ?_
          rintro e w5 (⟨cc0, hW, rfl, hR5, hK5⟩ | ⟨hb, hmm, hin, ch, hcx, hds, hfl, rfl, hfr, hR5, hK5⟩)
          · obtain ⟨rfl, hcN⟩ := one_why (n := n) HR.out HP.out.1 (fun c hc => (HP.out.2.2.2 c hc).1) hab hW
            have hcn' := Hcn.out
            exfalso
            omega
          · have hO5 : w5.ownsRow w.heap.size 37 1 (.slice p n c) n (dvs (cs.map Ch.h)) := own37_kp (own37_kp (B := w.heap.size) (S := []) HO.out HF1'.out.kp0 (fun t ht => by simp at ht)) hK5 (HR.out.fr0 HF1'.out).odd
            have hlen : (cs.map Ch.h).length = n := by rw [List.length_map, Hcn.out]
            obtain ⟨v7, w7, q1, q2, q3, q4⟩ := run_app37 (w5.alloc (.cells #[.int .u16 (ch.h : Nat)] 37)) 33 w.heap.size (.slice p n c) (cs.map Ch.h) n hlen (hO5.alloc _) ⟨w5.heap.size, 0, none⟩ 1 1 [ch.h] rfl (by
              intro j u hj
              match j, hj with
              | 0, hj => simp [dvs] at hj; subst hj; simp [Addr.add]) (by omega) (by have := (HF.out.trans0 HF1'.out).size; have := hK5.size; simp; omega)
            obtain ⟨p7, c7, rfl⟩ := ownsRow.form q2
            have hR5' := hR5
            simp only [List.length_singleton] at hR5' hfl
            have HI := hid (OnceI.added (P := RP N m) HR.out Hcn.out HO.out HSp.out HF.out HF1'.out hfr hR5' hK5 q2 q3 q4 (RP.add HR.out HP.out hcx hfl))
            clear hR5 hR5' hK5 q2 q3 q4 hO5 hlen hfr hb hmm hin hcx hds hfl
            go_wp2_with (at_builtin; refine wpList_app rfl _ _ 33 rfl rfl rfl q1 ?_)
            go_roundg (200 + 4 * rd - (i + 1))
            case measure => omega
            case rel => exact ⟨i + 1, m, n + 1, by omega, rfl, hm, rfl, by go_num, p7, c7, rfl, HI⟩
        · have hn1 : 1 ≤ n := by omega
          have hnb : ((n : Int) == 0) = false := by simp; omega
          have hnb' : ¬ ((n : Int) = 0) := by omega
          have HIc := K0
          obtain ⟨idx2, pol2, brk2, tk2, cs2, bs2, hRc, hcnc, hOc, hsepc, hFc, hPc⟩ := HIc.out
          obtain ⟨rfl, rfl, hnum, hones⟩ := hPc
          have hn1' : 1 ≤ n := by omega
          have hl2 : (cs2.map Ch.h).length = n := by rw [List.length_map, hcnc]
          obtain ⟨g, cap7, hform, hc1, hc2, hDc, hgc⟩ := Descs.at (ds := cs2.map Ch.h) (v := .slice p n c) (B := w.heap.size) (w := wr) (by rw [hl2]; exact hOc) (by omega)
          rw [hl2] at hform hc1
          cases hform
          obtain ⟨k, hk⟩ : ∃ k, k = y % n := ⟨_, rfl⟩
          have hkn0 : k < n := by rw [hk]; exact Nat.mod_lt _ (by omega)
          have hremk : (y : Int) % (n : Int) = (k : Int) := by rw [hk, Int.natCast_emod]
          have hnz : ¬ (n : Int) = 0 := by omega
          have wy : IntKind.i64.wrap (y : Int) = y := by rw [IntKind.wrap_i64]; omega
          obtain ⟨ps, cc, qs, hcs, hpl⟩ : ∃ ps cc qs, cs2 = ps ++ cc :: qs ∧ ps.length = k := ⟨cs2.take k, cs2[k]'(by omega), cs2.drop (k + 1), by rw [← List.drop_eq_getElem_cons (by omega), List.take_append_drop], by simp; omega⟩
          subst hpl
          have hck : wr.cell? ⟨g, ps.length, none⟩ = some (.int .u16 (cc.h : Nat)) := by
            have h0 : ps.length < (cs2.map Ch.h).length := by rw [hl2]; exact hkn0
            have h1 : (cs2.map Ch.h)[ps.length]? = some cc.h := by rw [hcs]; simp
            have h2 := hDc.cell ps.length h0
            rw [List.getElem?_eq_getElem h0] at h1
            rw [Option.some.inj h1] at h2
            exact h2
          have hkl' : (ps.length : Int) < (n : Int) := by omega
          have hcc0 : cc ∈ cs2 := by rw [hcs]; simp
          have hccN := hRc.hlt hcc0
          have hlen : ((ps ++ cc :: qs).map Ch.h).length = n := by rw [← hcs]; exact hl2
          have hlen' : ps.length + 1 + qs.length = n := by simp at hlen; omega
          rw [hcs] at hRc hDc hones
          obtain ⟨q, hqq⟩ : ∃ q, q = pol2 % N := ⟨_, rfl⟩
          have hqb : q < N := by rw [hqq]; exact Nat.mod_lt _ (by omega)
          have hremq : (pol2 : Int) % (N : Int) = (q : Int) := by rw [hqq, Int.natCast_emod]
          have hNz : ¬ (N : Int) = 0 := by omega
          obtain ⟨E, hE⟩ : ∃ E, E = U + 4 + 8 * q := ⟨_, rfl⟩
          have wm : IntKind.i64.wrap (pol2 : Int) = pol2 := by rw [IntKind.wrap_i64]; omega
          have wq : IntKind.u32.wrap (q : Int) = q := by rw [IntKind.wrap_u32]; omega
          have w8q : IntKind.u32.wrap (8 * (q : Int)) = 8 * (q : Int) := by rw [IntKind.wrap_u32]; omega
          have wU4 : IntKind.u32.wrap ((U : Int) + 4) = (U : Int) + 4 := by rw [IntKind.wrap_u32]; omega
          have wU2 : IntKind.u32.wrap ((U : Int) + 2) = (U : Int) + 2 := by rw [IntKind.wrap_u32]; omega
          have wE : IntKind.u32.wrap ((U : Int) + 4 + 8 * (q : Int)) = (E : Int) := by rw [IntKind.wrap_u32]; omega
          have wh : IntKind.u64.wrap (cc.h : Int) = cc.h := wraps_u64 _ (by omega) (by omega)
          obtain ⟨m', hm'⟩ : ∃ m', m' = (pol2 + 1) % 65536 := ⟨_, rfl⟩
          have hm'b : m' < 65536 := by omega
          have wm1 : IntKind.u16.wrap ((pol2 : Int) + 1) = (m' : Int) := by rw [IntKind.wrap_u16]; omega
          have wm2 : IntKind.u64.wrap (m' : Int) = m' := wraps_u64 _ (by omega) (by omega)
          have Hm' := hid hm'
          have HRc := hid hRc
          have HFc := hid hFc
          have HDc := hid hDc
          have HOc := hid hOc
          have HE := hid (show E = uAt N + 4 + 8 * (pol2 % N) by rw [hE, hqq, HU.out])
          have H19 := hid (fun (W' : World) (cs' : List Ch) (bs' : List UInt8) (tk' : List Bool) (h : RS w.heap.size W' bR bM bm bb 600 0 bT N bC (Zr 0 N) idx2 pol2 false tk' cs' bs') => (show Calls Try.prog 19 #[.pointer (some ⟨bR, 0, none⟩)] W' fun e w' => e = .returned (.int .u32 (U : Nat)) ∧ ∃ d, w' = W'.drewN d from by rw [HU.out]; have := Used_any bR bM 0 bT N bC idx2 pol2 false tk' W' h.ring (by omega) (by omega); simpa using this))
          have H20a := hid (fun (W' : World) (hF : Fr [] wr W') => (show Calls Try.prog 20 #[.int .u64 (cc.h : Nat), .int .i64 4] W' fun e w' => e = .returned (.string ⟨(le 4 cc.h).toArray⟩) ∧ Hid (Fr [] wr w') from (rbytes4 cc.h (by omega) W').mono fun e w' ⟨q1, q2⟩ => ⟨q1, hid (hF.trans0 q2)⟩))
          have H20b := hid (fun (W' : World) (hF : Fr [] wr W') => (show Calls Try.prog 20 #[.int .u64 0, .int .i64 4] W' fun e w' => e = .returned (.string ⟨(le 4 0).toArray⟩) ∧ Hid (Fr [] wr w') from (rbytes4 0 (by omega) W').mono fun e w' ⟨q1, q2⟩ => ⟨q1, hid (hF.trans0 q2)⟩))
          have H18 := hid (fun (W' : World) (hF : Fr [] wr W') => (show Calls Try.prog 18 #[.pointer (some ⟨bM, 0, none⟩), .int .u32 (E : Nat), .string (⟨(le 4 cc.h).toArray⟩ ++ ⟨(le 4 0).toArray⟩)] W' fun e w' => e = .returned (.int .i64 0) ∧ Hid (RS w.heap.size w' bR bM bm bb 600 0 bT N bC (Zr 0 N) idx2 pol2 false tk2 (ps ++ cc :: qs) (wrb bs2 E (le 4 cc.h ++ le 4 0)) ∧ Fr [bb] wr w') from
            (rdevice_used w.heap.size bR bM bm bb 600 0 bT N bC idx2 pol2 E false tk2 (ps ++ cc :: qs) bs2 _ (le 4 cc.h ++ le 4 0) (by simp) W' (HRc.out.fr0 hF) (by rw [HE.out]; omega) (by have := HE.out; have := HU.out; simp [le_length]; unfold rSize; omega)).mono fun e w' ⟨q1, q2, q3⟩ => ⟨q1, hid ⟨q2, (hF.mono (by simp)).trans q3 (fun t ht => .inl ht)⟩⟩))
          clear hm' hqq hE hk hRc hFc hDc hOc hsepc hcnc hcs hl2 hgc HIc hnum hcc0 K0
          go_wp2_with fail
          go_region_held (fun _ => True) (go_keep)
            (first
            | (go_at_call 19; refine (H19.out _ _ _ _ (HRc.out.fr0 ((Fr.refl _ wr).drew))).mono ?_; rintro e wa ⟨rfl, d1, hw⟩; subst hw)
            | (go_at_call 20; refine (H20a.out _ ((Fr.refl _ wr).drewN _)).mono ?_; rintro e wb ⟨rfl, hFb⟩; clear H20a)
            | (go_at_call 20; refine (H20b.out _ hFb.out).mono ?_; rintro e wc ⟨rfl, hFcc⟩; clear H20b)
            | (go_at_call 18; refine (H18.out _ hFcc.out).mono ?_; rintro e w6 ⟨rfl, H6⟩))
          all_goals
            as_aux_lemma =>
              go_wp2_with fail
              refine (H19.out _ _ _ _ H6.out.1).mono ?_
              rintro e wd ⟨rfl, d2, hw⟩
              subst hw
              go_wp2_with fail
              refine (rbytes2 m' (by omega) _).mono ?_
              rintro e we ⟨rfl, hFe⟩
              have H18b := hid (show Calls Try.prog 18 #[.pointer (some ⟨bM, 0, none⟩), .int .u32 ((U : Int) + 2), .string ⟨(le 2 m').toArray⟩] we fun e w' => e = .returned (.int .i64 0) ∧ Hid (RS w.heap.size w' bR bM bm bb 600 0 bT N bC (Zr 0 N) idx2 pol2 false tk2 (ps ++ cc :: qs) (rbs bs2 N pol2 cc.h) ∧ Kp w.heap.size [bR, bT, bC, bm, bb] wr w') from by
                rw [show ((U : Int) + 2) = ((U + 2 : Nat) : Int) from by omega]
                have F7 : Fr [] w6 we := ((Fr.refl _ w6).drewN _).trans0 hFe
                refine (rdevice_used w.heap.size bR bM bm bb 600 0 bT N bC idx2 pol2 (U + 2) false tk2 (ps ++ cc :: qs) _ _ (le 2 m') (by simp) we (H6.out.1.fr0 F7) (by rw [HU.out]; omega) (by have := HU.out; simp [le_length]; unfold rSize; omega)).mono ?_
                rintro e w' ⟨q1, q2, q3⟩
                refine ⟨q1, hid ⟨?_, ((H6.out.2.kp (fun t ht => .inl (by simp at ht; simp [ht]))).trans F7.kp0).trans (q3.kp (fun t ht => .inl (by simp at ht; simp [ht])))⟩⟩
                have e2 : rbs bs2 N pol2 cc.h = wrb (wrb bs2 E (le 4 cc.h ++ le 4 0)) (U + 2) (le 2 m') := by
                  unfold rbs
                  rw [HE.out, HU.out, Hm'.out]
                rw [e2]
                exact q2)
              go_wp2_with fail
              refine H18b.out.mono ?_
              rintro e w8 ⟨rfl, H8⟩
              have H15 := hid (show Calls Try.prog 15 #[.pointer (some ⟨bR, 0, none⟩)] w8 fun e w' => e = .returned (.tuple #[.agg #[.int .u16 (cc.h : Nat), .int .u32 0], .bool true, .int .i64 0]) ∧ Hid (RS w.heap.size w' bR bM bm bb 600 0 bT N bC (Zr 0 N) idx2 m' false (tkC tk2 cc.ds cc.ds.length) (ps ++ qs) (rbs bs2 N pol2 cc.h) ∧ Kp w.heap.size [bR, bT, bC, bm, bb] wr w' ∧ RP N m' idx2 m' false (tkC tk2 cc.ds cc.ds.length) (ps ++ qs) (rbs bs2 N pol2 cc.h)) from
                (rpoll_any w.heap.size bR bM bm bb 600 0 bT N bC idx2 pol2 (Zr 0 N) tk2 (ps ++ cc :: qs) (rbs bs2 N pol2 cc.h) w8 H8.out.1).mono fun e w' hq9 => by
                  obtain ⟨q1, q2, q3, q4⟩ := one_poll H8.out.1 HRc.out.len hq9 hones
                  rw [← Hm'.out] at q2 q4
                  exact ⟨q1, hid ⟨q2, H8.out.2.trans q3, q4⟩⟩)
              go_wp2_with fail
              refine H15.out.mono ?_
              rintro e w9 ⟨rfl, H9⟩
              clear H18b H8 H15 H6 H19 H18 hones
              have F6 : Fr [] w9 (w9.alloc (.cells #[.int .u16 (cc.h : Nat), .int .u32 0] 43)) := (Fr.refl _ _).alloc _
              have hgS : g ∉ [bR, bT, bC, bm, bb] := fun ht => by
                obtain ⟨cur, q1, _⟩ := HDc.out.blk
                exact (HRc.out.odd g ht cur _).2 q1
              have hD6 : DescsAt (w9.alloc (.cells #[.int .u16 (cc.h : Nat), .int .u32 0] 43)) g (ps.map Ch.h ++ cc.h :: qs.map Ch.h) := by
                have := (HDc.out.kp H9.out.2.1 hgS).fr F6 (by simp)
                simpa using this
              have hB6 : w.heap.size ≤ (w9.alloc (.cells #[.int .u16 (cc.h : Nat), .int .u32 0] 43)).heap.size := by have := HFc.out.size; have := H9.out.2.1.size; simp; omega
              obtain ⟨v7, w7', a1, a2, a3, a4⟩ := run_app37 (w9.alloc (.cells #[.int .u16 (cc.h : Nat), .int .u32 0] 43)) 33 w.heap.size (.slice none 0 0) [] 0 rfl (World.ownsRow_nil _ _ _ _) ⟨g, 0, none⟩ ps.length c (ps.map Ch.h) (by simp) (dcells_low hD6) (by omega) hB6
              simp only [Nat.zero_add, List.nil_append] at a1 a2
              have a3' : Fr [] (w9.alloc (.cells #[.int .u16 (cc.h : Nat), .int .u32 0] 43)) w7' := by simpa [Value.ownBlock] using a3
              obtain ⟨p7, c7, rfl⟩ := ownsRow.form a2
              have hD7 := hD6.fr a3' (by simp)
              by_cases hcc : c = ps.length + 1
              · have hq0 := hid (show qs = [] from List.length_eq_zero_iff.1 (by omega))
                subst hcc
                obtain ⟨v8, w8', b1, b2, b3, b4⟩ := run_app37 w7' 33 w.heap.size _ (ps.map Ch.h) ps.length (by simp) a2 ⟨g, 0, none⟩ qs.length 0 (qs.map Ch.h) (by simp) (by rw [hq0.out]; intro j u hu; simp [dvs] at hu) (by omega) (Nat.le_trans hB6 a3'.size)
                obtain ⟨p8, c8, rfl⟩ := ownsRow.form b2
                have hb8 : Fr [] (w9.alloc (.cells #[.int .u16 (cc.h : Nat), .int .u32 0] 43)) w8' := a3'.trans b3 (fun t ht => .inr (by
                  have := a4 t (by simpa using ht)
                  simpa [Value.ownBlock] using this))
                have HI := hid (show OnceI w w8' bR bM bm bb 600 0 bT N bC (.slice p8 (ps.length + qs.length) c8) (ps.length + qs.length) (RP N m') from by
                  have e1 : ps.length + qs.length = n - 1 := by omega
                  rw [e1] at b2 b4 ⊢
                  refine OnceI.polled HRc.out (by rw [← hlen]; simp) HFc.out H9.out.1 H9.out.2.1 F6 (by simpa [dvs] using b2) hb8 (fun g' hg' => ?_) H9.out.2.2
                  rcases b4 g' hg' with h1 | h1
                  · have := a4 g' h1
                    simp [Value.ownBlock] at this
                    omega
                  · have := hb8.size
                    have := a3'.size
                    have := F6.size
                    omega)
                have hnc := hc1
                clear a2 a3 a4 b2 b3 b4 hD6 hD7 hb8 a3' F6 hgS
                have hkn : ((ps.length : Int)) ≤ (n : Int) := by omega
                have hkn1 : ((ps.length : Int)) + 1 ≤ (n : Int) := by omega
                have hk0 : ¬ ((ps.length : Int) < 0) := by omega
                have hq' : n - (ps.length + 1) = qs.length := by omega
                go_wp2_with (first | (at_builtin; refine wpList_app rfl _ _ 33 rfl rfl rfl a1 ?_; clear a1) | (at_builtin; refine wpList_app rfl _ _ 33 rfl rfl rfl b1 ?_; clear b1))
                refine HI.out.waits.mono ?_
                rintro e w9' ⟨rfl, hw⟩
                subst hw
                go_wp2_with fail
                refine HI.out.left.mono ?_
                rintro e w10' ⟨rfl, hw⟩
                subst hw
                go_wp2
                go_roundg (200 + 4 * rd - (i + 1))
                case measure => omega
                case rel => exact ⟨i + 1, m', ps.length + qs.length, by omega, rfl, by omega, rfl, by go_num, p8, c8, rfl, HI⟩
              · skip
                obtain ⟨v8, w8', b1, b2, b3, b4⟩ := run_app37 w7' 33 w.heap.size _ (ps.map Ch.h) ps.length (by simp) a2 ⟨g, ps.length + 1, none⟩ qs.length (c - (ps.length + 1)) (qs.map Ch.h) (by simp) (by have := dcells_high hD7; simpa using this) (by omega) (Nat.le_trans hB6 a3'.size)
                obtain ⟨p8, c8, rfl⟩ := ownsRow.form b2
                have hb8 : Fr [] (w9.alloc (.cells #[.int .u16 (cc.h : Nat), .int .u32 0] 43)) w8' := a3'.trans b3 (fun t ht => .inr (by
                  have := a4 t (by simpa using ht)
                  simpa [Value.ownBlock] using this))
                have HI := hid (show OnceI w w8' bR bM bm bb 600 0 bT N bC (.slice p8 (ps.length + qs.length) c8) (ps.length + qs.length) (RP N m') from by
                  have e1 : ps.length + qs.length = n - 1 := by omega
                  rw [e1] at b2 b4 ⊢
                  refine OnceI.polled HRc.out (by rw [← hlen]; simp) HFc.out H9.out.1 H9.out.2.1 F6 (by simpa [dvs] using b2) hb8 (fun g' hg' => ?_) H9.out.2.2
                  rcases b4 g' hg' with h1 | h1
                  · have := a4 g' h1
                    simp [Value.ownBlock] at this
                    omega
                  · have := hb8.size
                    have := a3'.size
                    have := F6.size
                    omega)
                have hnc := hc1
                clear a2 a3 a4 b2 b3 b4 hD6 hD7 hb8 a3' F6 hgS
                have hkn : ((ps.length : Int)) ≤ (n : Int) := by omega
                have hkn1 : ((ps.length : Int)) + 1 ≤ (n : Int) := by omega
                have hk0 : ¬ ((ps.length : Int) < 0) := by omega
                have hq' : n - (ps.length + 1) = qs.length := by omega
                have hcn : ¬ c = ps.length + 1 := hcc
                have hcn2 : ¬ (c - (ps.length + 1) = 0) := by omega
                have hcn3 : ps.length + 1 < c := by omega
                go_wp2_with (first | (at_builtin; refine wpList_app rfl _ _ 33 rfl rfl rfl a1 ?_; clear a1) | (at_builtin; refine wpList_app rfl _ _ 33 rfl rfl rfl b1 ?_; clear b1))
                refine HI.out.waits.mono ?_
                rintro e w9' ⟨rfl, hw⟩
                subst hw
                go_wp2_with fail
                refine HI.out.left.mono ?_
                rintro e w10' ⟨rfl, hw⟩
                subst hw
                go_wp2
                go_roundg (200 + 4 * rd - (i + 1))
                case measure => omega
                case rel => exact ⟨i + 1, m', ps.length + qs.length, by omega, rfl, by omega, rfl, by go_num, p8, c8, rfl, HI⟩
    · have hlt' : ¬ ((i : Int) < 200 + 4 * (rd : Int)) := by omega
      have hlt2 : decide ((i : Int) < 200 + 4 * (rd : Int)) = false := by simp; omega
      obtain ⟨idx, pol, brk, tk, cs, bs, hR, hcn, hO, hsep, hF, hP⟩ := K0.out
      have HR := hid hR
      have HF := hid hF
      have hbk := hP.1
      subst hbk
      clear hR hO hsep hP hF
      go_wp2_with fail
      refine (rbroken_any w.heap.size bR bM bm bb 600 0 bT N bC idx pol (Zr 0 N) false tk cs bs wr HR.out).mono ?_
      rintro e w4 ⟨rfl, hw⟩
      subst hw
      go_wp2_with fail
      refine (works_any _).mono ?_
      rintro e w5 ⟨rfl, hF5⟩
      go_wp2
      go_ret
      exact ⟨rfl, HF.out.trans0 hF5⟩
end Go.Proofs.Ytfiaciniikcacaa
