/-
  The walk of Add of package ring where its buffers may be a chain: it is made available, or can't be lent. No statement is proved here.
-/
import Derived.Test.YtfiaciniikcacaaRing16
namespace Go.Proofs.Ytfiaciniikcacaa
open Go.RowKit Go.BigFrame Go.MapKept
set_option linter.unusedVariables false
set_option linter.unusedSimpArgs false
set_option maxRecDepth 1000000
set_option maxHeartbeats 4000000

theorem radd_go (B bR bM bm bb k at_ bT N bC idx pol b o cap : Nat) (Z : Nat → Prop) (tk : List Bool) (cs : List Ch) (bs : List UInt8) (xs : List Bf) (w : World) (h : RS B w bR bM bm bb k at_ bT N bC Z idx pol false tk cs bs) (hX : BufsAt w b o xs) (hcap : xs.length ≤ cap) (hcm : cap ≤ maxLen) (hbm : bR ≠ b)
    (hm : mayB xs = true) (hi : inB k xs = true) (hf : (frK tk xs.length N).length = xs.length) :
    Calls Try.prog 11 #[.pointer (some ⟨bR, 0, none⟩), .slice (some ⟨b, o, none⟩) xs.length cap] w fun e w' => AddP B w w' bR bM bm bb k at_ bT N bC Z idx pol tk cs bs xs e := by
  have hx8 := mayB_len hm
  have hinn := may_in hm hi
  have hN : 1 ≤ N ∧ N ≤ 256 := by have := h.pow; unfold Pow at this; omega
  have hk := h.top
  have hru : uAt N ≤ rSize N := by unfold rSize; omega
  have hfit := h.fit
  obtain ⟨l0, hK0, hL0⟩ := h.mem
  have hA : Arg w (.slice (some ⟨b, o, none⟩) xs.length cap) xs := .inr ⟨b, o, cap, rfl, hx8.1, hcap, hcm, hX⟩
  have hdm : ∀ d ∈ frK tk xs.length N, d < N := fun d hd => (frK_mem _ _ _ d hd).1
  obtain ⟨ob1, ob2, ob3, ob4, hbl⟩ : b ∉ [bb] ∧ b ∉ [bm] ∧ (bR ∉ [bb] ∧ bT ∉ [bb]) ∧ (bR ∉ [bm] ∧ bT ∉ [bm]) ∧ b < w.heap.size := by
    obtain ⟨lv, h1, _⟩ := hK0
    obtain ⟨c, t, f, g1, g2⟩ := hX.blk
    exact ⟨by simpa using blk_ne g1 h1.bytes g2.2.1, by simpa using blk_ne g1 h1.mid.blk g2.2.2.1, ⟨by simpa using blk_ne h.ring.blk h1.bytes (by decide), by simpa using blk_ne h.ring.tak h1.bytes (by decide)⟩, ⟨by simpa using blk_ne h.ring.blk h1.mid.blk (by decide), by simpa using blk_ne h.ring.tak h1.mid.blk (by decide)⟩, lt_of_heap g1⟩
  have c0 := h.ring.c0
  have c6 := h.ring.c6
  have H35 := hid (show Calls Try.prog 35 #[.slice (some ⟨b, o, none⟩) xs.length cap] w fun e w' => e = .returned (.bool true) ∧ Fr [] w w' from by have := mayBe_any _ xs w hA.bufs; rwa [hm] at this)
  have H36 := hid (fun W (hF : Fr [] w W) => (show Calls Try.prog 36 #[.pointer (some ⟨bR, 0, none⟩), .slice (some ⟨b, o, none⟩) xs.length cap] W fun e w' => e = .returned (.bool true) ∧ Fr [] w w' from by
    obtain ⟨lv, h1, _⟩ := hK0
    have := holds_ring bR bM bm bb k at_ bT N bC idx pol false tk lv l0 bs _ xs W (h.ring.fr hF (by simp) (by simp)) (h1.fr0 hF) (hA.fr0 hF).bufs
    rw [hi] at this
    exact this.mono fun e w' ⟨q1, q2⟩ => ⟨q1, hF.trans0 q2⟩))
  have H37 := hid (fun W (hF : Fr [] w W) => (show Calls Try.prog 37 #[.pointer (some ⟨bR, 0, none⟩), .int .i64 xs.length] W fun e w' => ∃ g dcap, e = .returned (.slice (some ⟨g, 0, none⟩) xs.length dcap) ∧ Hid (DescsAt w' g (frK tk xs.length N) ∧ w.heap.size ≤ g ∧ Fr [] w w') from
    (free_any bR bM at_ bT N bC idx pol false tk xs.length W (h.ring.fr hF (by simp) (by simp)) hN.2 hx8.2).mono fun e w' ⟨v', q1, q2, q3⟩ => by
      obtain ⟨g, dc, q4, _, _, q5, q6⟩ := Descs.at (ds := frK tk xs.length N) q2 (by omega)
      refine ⟨g, dc, by rw [q1, q4, hf], q5, Nat.le_trans hF.size q6, hF.trans0 q3⟩))
  have H38 := hid (fun W g dcap (hH : DescsAt W g (frK tk xs.length N) ∧ w.heap.size ≤ g ∧ Fr [] w W) => (show Calls Try.prog 38 #[.pointer (some ⟨bR, 0, none⟩), .slice (some ⟨g, 0, none⟩) xs.length dcap] W fun e w' => e = .returned (.bool true) ∧ Hid (MemK B w' bM bm bb k l0 bs ∧ Fr [bb] w w' ∧ DescsAt w' g (frK tk xs.length N)) from by
    have := writable_k B bR bM bm bb k at_ bT N bC idx pol g dcap false tk l0 bs (frK tk xs.length N) W (h.ring.fr hH.2.2 (by simp) (by simp)) (hK0.fr0 hH.2.2) hH.1 hdm (by omega) hN.1 hN.2 h.idl (by omega) (h.kept hL0 h.offIv)
    rw [hf] at this
    exact this.mono fun e w' ⟨q1, q2, q3⟩ => ⟨q1, q2, (hH.2.2.mono (by simp)).trans q3 (fun t ht => .inl ht), hH.1.fr q3 (by
      obtain ⟨lv, h1, _⟩ := hK0
      have := lt_of_heap h1.bytes
      simp; omega)⟩))
  have H39 := hid (fun W g (hH : MemK B W bM bm bb k l0 bs ∧ Fr [bb] w W ∧ DescsAt W g (frK tk xs.length N)) => (show Calls Try.prog 39 #[.pointer (some ⟨bR, 0, none⟩), .slice (some ⟨b, o, none⟩) xs.length cap] W fun e w' => ∃ r, e = .returned (.bool r) ∧ Hid (LendK B W w' bM bm bb k at_ (rSize N) Z (cs.flatMap fun c => ivs c.xs) bs l0 xs r) from
    (lend_ring B bR bM bm bb k at_ bT N bC idx pol b o cap false tk Z (cs.flatMap fun c => ivs c.xs) l0 bs xs W (h.ring.fr hH.2.1 ob3.1 ob3.2) hH.1 (hX.fr hH.2.1 ob1) hL0 (Nat.le_trans h.low.1 hH.2.1.size) hx8.2 hcap hcm h.pow h.fit hinn).mono fun e w' ⟨r, q1, q2⟩ => ⟨r, q1, hid q2⟩))
  have HNo := hid (fun W w' (hF : Fr [bb] w W) (hL : LendNo at_ (rSize N) l0 xs) (hH : HomeI B W w' bM bm bb k Z (cs.flatMap fun c => ivs c.xs) bs) => (show AddP B w w' bR bM bm bb k at_ bT N bC Z idx pol tk cs bs xs (.returned (.tuple #[.int .u16 0, .int .i64 11])) from by
    have hK : Kp B [bm, bb] w w' := (hF.kp (fun t ht => .inl (by simp at ht; simp [ht]))).trans (hH.2.mono (by simp))
    exact .inl ⟨rfl, ⟨l0, hL0.cov, hL⟩, h.mem' hK hH.1, hK.mono (by simp)⟩))
  -- behind lend: the ring, its memory, what is lent
  have HYes := hid (fun W w' g (hF : Fr [bb] w W) (hD : DescsAt W g (frK tk xs.length N)) (hH : LendI B W w' bM bm bb k at_ (rSize N) Z (cs.flatMap fun c => ivs c.xs) bs xs) => (show ∃ lv l, MemA w' bM bm bb k lv l bs ∧ (∀ g, lv.ownBlock = some g → B ≤ g) ∧ Lens l k Z (ivs xs ++ cs.flatMap fun c => ivs c.xs) ∧ Kept l at_ N ∧ RingF w' bR bM at_ bT N bC idx pol false tk ∧ DescsAt w' g (frK tk xs.length N) ∧ BufsAt w' b o xs ∧ Kp B [bR, bT, bC, bm, bb] w w' ∧ MapC w' bC cs ∧ (∀ x, x ∈ xs → x.I = true → ¬ ovr at_ (rSize N) x) from by
    obtain ⟨⟨l, ⟨lv, g1, g2⟩, g3⟩, g4, g5⟩ := hH
    have hK : Kp B [bm, bb] w w' := (hF.kp (fun t ht => .inl (by simp at ht; simp [ht]))).trans (g4.mono (by simp))
    have hb1 : b ∉ [bm, bb] := by simp at ob1 ob2 ⊢; exact ⟨ob2, ob1⟩
    refine ⟨lv, l, g1, g2, g3, h.kept g3 (fun p hp => ?_), h.ring.kp hK (by simp at ob3 ob4 ⊢; exact ⟨ob4.1, ob3.1⟩) (by simp at ob3 ob4 ⊢; exact ⟨ob4.2, ob3.2⟩), hD.kp g4 ?_, hX.kp hK hb1, hK.mono (by simp), h.map.kp hK ?_, g5⟩
    · rcases List.mem_append.1 hp with hp | hp
      · obtain ⟨x, hx, hI, rfl⟩ := ivs_mem hp
        exact g5 x hx hI
      · exact h.offIv p hp
    · obtain ⟨lv0, z1, _⟩ := hK0
      have := hD.ne (hF.heap z1.mid.blk (by simpa using z1.apart.2.1)) (by decide)
      simpa using this
    · obtain ⟨es, cl, hq, _⟩ := h.map
      obtain ⟨lv0, z1, _⟩ := hK0
      simp
      constructor
      · rintro rfl; rw [z1.mid.blk] at hq; cases hq
      · rintro rfl; rw [z1.bytes] at hq; cases hq))
  have HH := hid h
  have Hinn := hid hinn
  have hf0 : decide ((xs.length : Int) < (xs.length : Int)) = false := by simp
  have Hdm := hid hdm
  have Hf := hid hf
  clear h hX hm hi hA hK0 hL0 hinn hdm hf
  go_enter Try.func11, Try.ntmps11
  go_wp2_with (first | (go_at_call 34; refine (rnone_ring bR bM _ c0).mono ?_; rintro e w0 ⟨rfl, hw⟩; subst hw) | (go_at_call 35; refine H35.out.mono ?_; rintro e w1 ⟨rfl, hF1⟩) | (go_at_call 36; refine (H36.out w1 hF1).mono ?_; rintro e w2 ⟨rfl, hF2⟩) | (go_at_call 37; refine (H37.out w2 hF2).mono ?_; rintro e w3 ⟨g, dcap, rfl, hH3⟩) | (go_at_call 38; refine (H38.out w3 g dcap hH3.out).mono ?_; rintro e w4 ⟨rfl, hH4⟩) | (go_at_call 39; refine (H39.out w4 g hH4.out).mono ?_; rintro e w5 ⟨r, rfl, hH5⟩; cases r))
  · have HR := hid (show AddP B w0 w5 bR bM bm bb k at_ bT N bC Z idx pol tk cs bs xs (.returned (.tuple #[.int .u16 0, .int .i64 11])) from by
      rcases hH5.out with ⟨e, _⟩ | ⟨_, q1, q2⟩
      · cases e
      · exact HNo.out w4 w5 hH4.out.2.1 q1 q2)
    go_ret2
    exact HR.out
  · obtain ⟨lv, l5, H5⟩ : ∃ lv l, Hid (MemA w5 bM bm bb k lv l bs ∧ (∀ g, lv.ownBlock = some g → B ≤ g) ∧ Lens l k Z (ivs xs ++ cs.flatMap fun c => ivs c.xs) ∧ Kept l at_ N ∧ RingF w5 bR bM at_ bT N bC idx pol false tk ∧ DescsAt w5 g (frK tk xs.length N) ∧ BufsAt w5 b o xs ∧ Kp B [bR, bT, bC, bm, bb] w0 w5 ∧ MapC w5 bC cs ∧ (∀ x, x ∈ xs → x.I = true → ¬ ovr at_ (rSize N) x)) := by
      rcases hH5.out with ⟨_, q⟩ | ⟨e, _⟩
      · obtain ⟨lv, l, z⟩ := HYes.out w4 w5 g hH4.out.2.1 hH4.out.2.2 q
        exact ⟨lv, l, hid z⟩
      · cases e
    have Hgn := hid (show g ≠ bR ∧ g ≠ bC from by
      obtain ⟨es, cl, hq, _⟩ := H5.out.2.2.2.2.2.2.2.2.1
      obtain ⟨cur, q1, _⟩ := H5.out.2.2.2.2.2.1.blk
      refine ⟨H5.out.2.2.2.2.2.1.ne H5.out.2.2.2.2.1.blk (by decide), ?_⟩
      rintro rfl
      rw [hq] at q1
      cases q1)
    have Hgs := hid hH3.out.2.1
    clear H35 H36 H37 H38 H39 HNo HYes hH3 hH4 hH5 hF1 hF2 c0 c6
    go_wp2_with fail
    refine (writer_any bR g xs.length dcap w5).mono ?_
    rintro e w6 ⟨p1, p2, p3, rfl, hp1, hp2, hp3, hs1, hs2, hs3, hF6⟩
    have HI := hid (show AddI w6 w6 bR bM bm bb k at_ bT N bC idx pol g dcap p1 p2 p3 b o tk lv l5 bs (frK tk xs.length N) xs 0 from by
      obtain ⟨z1, z2, z3, z4, z5, z6, z7, z8, z9, z10⟩ := H5.out
      obtain ⟨c, t, f, y1, y2⟩ := z7.blk
      have := lt_of_heap y1
      exact ⟨z5.fr hF6 (by simp) (by simp), z1.fr0 hF6, z6.fr hF6 (by simp), z7.fr hF6 (by simp), hp1, by rw [Hf.out]; exact hp2, hp3, by omega, Fr.refl _ _⟩)
    have HF6 := hid (And.intro hF6 hs3)
    clear hp1 hp2 hp3 hs1 hs2 hs3 hF6
    go_wp2_with fail
    go_loopg [47] xs.length (fun gk q wr => ∃ i : Nat, i ≤ xs.length ∧ gk = xs.length - i ∧ q = .int .i64 i ∧ Hid (AddI w6 wr bR bM bm bb k at_ bT N bC idx pol g dcap p1 p2 p3 b o tk lv l5 bs (frK tk xs.length N) xs i))
    case atStart => exact ⟨0, Nat.zero_le _, rfl, rfl, HI⟩
    case round =>
      obtain ⟨i, hi, hgk, rfl, K0⟩ := hrel
      by_cases hlt : i < xs.length
      · have hlt' : (i : Int) < (xs.length : Int) := by omega
        have r := K0.out.bufs.at_ i hlt
        have r0 := r.c0
        have r1 := r.c1
        have r2 := r.c2
        have hid' : i < (frK tk xs.length N).length := by rw [Hf.out]; exact hlt
        have H61 := hid (fun W (hF : Fr [] wr W) => (show Calls Try.prog 61 (#[.agg #[.int .u32 xs[i].A, .int .u32 xs[i].L, .bool xs[i].I]] ++ #[.pointer (some ⟨p1, 0, none⟩), .pointer (some ⟨p2, 0, none⟩), .pointer (some ⟨p3, 0, none⟩)]) W fun e w' => e = .returned (.tuple #[]) ∧ Hid (AddI w6 w' bR bM bm bb k at_ bT N bC idx pol g dcap p1 p2 p3 b o tk lv l5 bs (frK tk xs.length N) xs (i + 1)) from
          (writer1_any bR bM bm bb k at_ bT N bC idx pol g dcap p1 p2 p3 i xs[i].A xs[i].L xs[i].I false (tkW tk (frK tk xs.length N) i) lv l5 (dW bs at_ (frK tk xs.length N) xs i) (frK tk xs.length N) W (K0.out.ring.fr hF (by simp) (by simp)) (K0.out.mem.fr0 hF) (K0.out.dscs.fr hF (by simp)) (hF.heap K0.out.b1 (by simp)) (hF.heap K0.out.b2 (by simp)) (hF.heap K0.out.b3 (by simp)) hid' (by rw [Hf.out]; exact hx8.2) Hdm.out hN.2 (by omega) H5.out.2.2.2.1 r.hA r.hL).mono fun e w' ⟨q1, q2, q3, q4, q5⟩ => ⟨q1, hid (K0.out.step hlt hid' hF q2 q3 q4 q5)⟩))
        clear r
        generalize xs[i] = x at *
        obtain ⟨xA, xL, xI⟩ := x
        simp only at *
        go_wp2_with fail
        refine (H61.out _ ((Fr.refl _ wr).alloc _)).mono ?_
        rintro e w7 ⟨rfl, H7⟩
        go_wp2
        go_roundg (xs.length - (i + 1))
        case measure => omega
        case rel => exact ⟨i + 1, by omega, rfl, by go_num, H7⟩
      · obtain rfl : i = xs.length := by omega
        obtain ⟨hd, hhd⟩ : ∃ hd, (frK tk xs.length N)[0]? = some hd := ⟨_, List.getElem?_eq_getElem (by rw [Hf.out]; omega)⟩
        have hdlt : hd < N := Hdm.out hd (List.mem_of_getElem? hhd)
        have Hd0 := hid (fun W (hD : DescsAt W g (frK tk xs.length N)) => (show W.cell? ⟨g, 0, none⟩ = some (.int .u16 (hd : Nat)) from by
          have h0 : 0 < (frK tk xs.length N).length := by rw [Hf.out]; omega
          have := hD.cell 0 h0
          rw [List.getElem?_eq_getElem h0] at hhd
          cases hhd
          exact this))
        have g0 := Hd0.out wr K0.out.dscs
        have h0' : (0 : Int) < (xs.length : Int) := by omega
        go_wp2_with fail
        refine (offer_any bR bM bm bb k at_ bT N bC idx pol hd false (tkW tk (frK tk xs.length N) xs.length) lv l5 (dW bs at_ (frK tk xs.length N) xs xs.length) wr K0.out.ring K0.out.mem (by omega) hN.1 hN.2 HH.out.idl (by omega) H5.out.2.2.2.1).mono ?_
        rintro e w8 ⟨rfl, hR8, hM8, hF8⟩
        have H8 := hid (show RingF w8 bR bM at_ bT N bC ((idx + 1) % 65536) pol false (tkW tk (frK tk xs.length N) xs.length) ∧ MemA w8 bM bm bb k lv l5 (offW (dW bs at_ (frK tk xs.length N) xs xs.length) at_ N idx hd) ∧ DescsAt w8 g (frK tk xs.length N) ∧ BufsAt w8 b o xs ∧ MapC w8 bC cs ∧ Kp B [bR, bT, bC, bm, bb] w0 w8 from by
          obtain ⟨c, t, f, y1, y2⟩ := K0.out.bufs.blk
          have F : Fr [bT, bb, bR] w5 w8 := ((HF6.out.1.mono (by simp)).trans K0.out.fr (fun t ht => by simp at ht; rcases ht with rfl | rfl | rfl; exact .inl (by simp); exact .inr HF6.out.2; exact .inl (by simp))).trans hF8 (fun t ht => .inl (by simp at ht; rcases ht with rfl | rfl <;> simp))
          obtain ⟨z1, z2, z3, z4, z5, z6, z7, z8, z9, z10⟩ := H5.out
          refine ⟨hR8, hM8, K0.out.dscs.fr hF8 ?_, K0.out.bufs.fr hF8 ?_, z9.fr F ?_, z8.trans (F.kp (fun t ht => .inl (by simp at ht; rcases ht with rfl | rfl | rfl <;> simp)))⟩
          · simp; exact ⟨Hgn.out.1, K0.out.dscs.ne K0.out.mem.bytes (by decide)⟩
          · simp; exact ⟨fun e => hbm e.symm, blk_ne y1 K0.out.mem.bytes y2.2.1⟩
          · obtain ⟨es, cl, hq, _⟩ := z9
            simp
            refine ⟨?_, ?_, ?_⟩
            · rintro rfl; rw [z5.tak] at hq; cases hq
            · rintro rfl; rw [z1.bytes] at hq; cases hq
            · rintro rfl; rw [z5.blk] at hq; cases hq)
        clear hR8 hM8 hF8
        have c3 := H8.out.1.c3
        have g8 := Hd0.out w8 H8.out.2.2.1
        have H21 := hid (fun v9 w9 (hO : w9.ownsRow w8.drew.heap.size 59 3 v9 xs.length (bcells xs)) (hF : Fr [] w8.drew w9) => (show ∃ g9 cap9 w10, v9 = .slice (some ⟨g9, 0, none⟩) xs.length cap9 ∧ (Instr.mapUpdate 78 (.map (some bC)) (.int .u16 (hd : Nat)) (.agg #[.slice (some ⟨g9, 0, none⟩) xs.length cap9, .slice (some ⟨g, 0, none⟩) xs.length dcap])).run Try.prog w9 = .ok () w10 ∧ w9.cell? ⟨bR, 3, none⟩ = some (.map (some bC)) ∧ w9.cell? ⟨g, 0, none⟩ = some (.int .u16 (hd : Nat)) ∧ w10.cell? ⟨g, 0, none⟩ = some (.int .u16 (hd : Nat)) ∧ Hid (AddP B w0 w10 bR bM bm bb k at_ bT N bC Z idx pol tk cs bs xs (.returned (.tuple #[.int .u16 (hd : Nat), .int .i64 0]))) from by
          obtain ⟨y1, y2, y3, y4, y5, y6⟩ := H8.out
          have hF' : Fr [] w8 w9 := ((Fr.refl _ w8).drew).trans0 hF
          obtain ⟨g9, cap9, e9, u1, u2, u3, u4, x9, u5⟩ := BufsAt.ofRow hO hx8.1 (fun x hx => by have := Hinn.out x hx; omega)
          have hnew : ∀ a ∈ cs, a.h ≠ hd := fun a ha e => by
            have hm : hd ∈ cs.flatMap Ch.ds := List.mem_flatMap.2 ⟨a, ha, e ▸ List.mem_of_getElem? (HH.out.chs a ha).hd⟩
            have h1 := (HH.out.tks hd hdlt).2 hm
            have h2 := (frK_mem tk xs.length N hd (List.mem_of_getElem? hhd)).2
            rw [h2] at h1; cases h1
          obtain ⟨w10, q1, q2, q3⟩ := put_map (y5.fr hF' (by simp)) ⟨hd, .slice (some ⟨g9, 0, none⟩) xs.length cap9, .slice (some ⟨g, 0, none⟩) xs.length dcap, xs, frK tk xs.length N⟩ hnew
          have hbC := y5.lt
          have e1 : ∀ {q : Nat} {c : Array Value} {t : TypeId} {f : Nat × Nat}, w9.heap[q]? = some (.cells c t f) → q ∉ [bC] := fun {q c t f} hq => by
            obtain ⟨es, cl, hz, _⟩ := y5.fr hF' (S := []) (by simp)
            simp
            rintro rfl
            rw [hz] at hq; cases hq
          have d9 := y3.fr hF' (by simp)
          have d10 : DescsAt w10 g (frK tk xs.length N) := d9.fr q3 (by obtain ⟨cur, z, _⟩ := d9.blk; exact e1 z)
          have r9 := y1.fr hF' (by simp) (by simp)
          have m9 := y2.fr0 hF'
          refine ⟨g9, cap9, w10, e9, q1, r9.c3, Hd0.out w9 d9, Hd0.out w10 d10, hid (.inr ⟨⟨hd, .slice (some ⟨g9, 0, none⟩) xs.length cap9, .slice (some ⟨g, 0, none⟩) xs.length dcap, xs, frK tk xs.length N⟩, rfl, rfl, rfl, fun g' hg' => by cases hg'; exact Hgs.out, ?_, ?_⟩)⟩
          · refine HH.out.added rfl rfl Hf.out (y6.trans ((hF'.mono (T := [bC]) (by simp)).trans q3 (fun t ht => .inl ht) |>.kp (fun t ht => .inl (by simp at ht; simp [ht])))) (r9.fr q3 (e1 r9.blk) (e1 r9.tak)) q2 (m9.fr q3 (e1 m9.top) (e1 m9.mid.blk) (e1 m9.bytes) (fun g' hg' => by obtain ⟨c, f, z⟩ := m9.own83 g' hg'; exact e1 z)) H5.out.2.1 H5.out.2.2.1 ?_ H5.out.2.2.2.2.2.2.2.2.2 Hinn.out
            exact ⟨⟨g9, cap9, x9, rfl, u1, u2, u3.fr q3 (e1 u5), q3.heap u5 (e1 u5)⟩, ⟨g, dcap, by show Value.slice _ xs.length dcap = Value.slice _ (frK tk xs.length N).length dcap; rw [Hf.out], d10⟩, hx8.1, hx8.2, Hf.out, hhd⟩
          · exact y6.trans ((hF'.mono (T := [bC]) (by simp)).trans q3 (fun t ht => .inl ht) |>.kp (fun t ht => .inl (by simp at ht; simp [ht])))))
        have HB8 := hid (H8.out.2.2.2.1.fr ((Fr.refl [] w8).drew) (by simp))
        clear g0
        have hpos : 0 < xs.length := by omega
        go_wp2_with fail
        go_region_law ((refine step_append59 rfl (.const (.slice none 0 0)) (.tmp 67) rfl b o xs.length cap xs (by kernel_rfl) (by kernel_rfl) HB8.out rfl (by omega) ?_; intro v9 w9 hO9 hF9; obtain ⟨g9, cap9, w10, rfl, hput, c3', g9', g10, HA⟩ := H21.out v9 w9 hO9 hF9))
        all_goals
          go_wp2
          go_ret2
          exact HA.out
end Go.Proofs.Ytfiaciniikcacaa
