/-
  The walk of 'release' of package ring: a chain's descriptors are free, its buffers are taken back. No statement is proved here.
-/
import Derived.Test.YtfiaciniikcacaaRing20
namespace Go.Proofs.Ytfiaciniikcacaa
open Go.RowKit Go.BigFrame Go.MapKept
set_option linter.unusedVariables false
set_option linter.unusedSimpArgs false
set_option maxRecDepth 1000000
set_option maxHeartbeats 4000000

theorem Lens.mid {l : List (Nat × Nat)} {k : Nat} {Z : Nat → Prop} {ps qs : List Ch} {c : Ch} (h : Lens l k Z ((ps ++ c :: qs).flatMap fun c => ivs c.xs)) : Lens l k Z (ivs c.xs ++ (ps ++ qs).flatMap fun c => ivs c.xs) := by
  refine h.perm ?_
  rw [flat_mid, List.flatMap_append, ← List.append_assoc, ← List.append_assoc]
  exact List.Perm.append_right _ List.perm_append_comm
theorem release_any (B bR bM bm bb k at_ bT N bC idx pol : Nat) (Z : Nat → Prop) (brk : Bool) (tk : List Bool) (ps qs : List Ch) (c : Ch) (bs : List UInt8) (w : World) (h : RS B w bR bM bm bb k at_ bT N bC Z idx pol brk tk (ps ++ c :: qs) bs) :
    Calls Try.prog 43 #[.pointer (some ⟨bR, 0, none⟩), .int .u16 (c.h : Nat)] w fun e w' => e = .returned (.tuple #[]) ∧ RS B w' bR bM bm bb k at_ bT N bC Z idx pol brk (tkC tk c.ds c.ds.length) (ps ++ qs) bs ∧ Kp B [bR, bT, bC, bm, bb] w w' := by
  have hN : 1 ≤ N ∧ N ≤ 256 := by have := h.pow; unfold Pow at this; omega
  have hps : ∀ a ∈ ps, a.h ≠ c.h := fun a ha e => by
    have := h.hds
    rw [List.map_append, List.nodup_append] at this
    exact this.2.2 a.h (List.mem_map.2 ⟨a, ha, rfl⟩) c.h (by simp) e
  have hcm : c ∈ ps ++ c :: qs := by simp
  have hCA := h.chs c hcm
  obtain ⟨b, cap, x, y1, y2, y3, y4, y5⟩ := hCA.bufs
  obtain ⟨g, gcap, z1, z2⟩ := hCA.dscs
  have hL := look_yes h.map hps false
  rw [y1, z1] at hL
  simp only [Bool.false_eq_true, if_false] at hL
  have hds8 : c.ds.length ≤ 8 := by have := hCA.n8; have := hCA.nd; omega
  have hxs8 := hCA.n8
  have HD := hid (fun d (hd : d ∈ c.ds) => h.dlt d (List.mem_flatMap.2 ⟨c, hcm, hd⟩))
  have c3 := h.ring.c3
  have HH := hid h
  have HY := hid (And.intro y4 (And.intro y5 z2))
  obtain ⟨ng1, ng2, nb1, nb2, nC1, nT1⟩ : g ≠ bT ∧ g ≠ bC ∧ b ≠ bT ∧ b ≠ bC ∧ bR ≠ bC ∧ bT ≠ bC := by
    obtain ⟨es, cl, hq, _⟩ := h.map
    obtain ⟨cur, q1, _⟩ := z2.blk
    refine ⟨z2.ne h.ring.tak (by decide), ?_, blk_ne y5 h.ring.tak (by decide), ?_, ?_, ?_⟩
    · rintro rfl; rw [hq] at q1; cases q1
    · rintro rfl; rw [hq] at y5; cases y5
    · rintro rfl; rw [h.ring.blk] at hq; cases hq
    · rintro rfl; rw [h.ring.tak] at hq; cases hq
  have hCl := h.map.lt
  have hTl := lt_of_heap h.ring.tak
  have F0 : Fr [] w (w.alloc (.cells #[.slice (some ⟨b, 0, none⟩) c.xs.length cap, .slice (some ⟨g, 0, none⟩) c.ds.length gcap] 91)) := (Fr.refl _ _).alloc _
  have hx0 := heap_alloc_new w (.cells #[.slice (some ⟨b, 0, none⟩) c.xs.length cap, .slice (some ⟨g, 0, none⟩) c.ds.length gcap] 91)
  have c3' := (h.ring.fr F0 (by simp) (by simp)).c3
  obtain ⟨w2, hdel, hmap2, hF2⟩ := del_map (h.map.fr F0 (by simp)) hps 0
  have hx2 := hF2.heap hx0 (by simp; omega)
  obtain ⟨n0, hn0⟩ : ∃ n, n = w.heap.size := ⟨_, rfl⟩
  rw [← hn0] at hx2
  have d0 : w2.cell? ⟨n0, 0, none⟩ = some (.slice (some ⟨b, 0, none⟩) c.xs.length cap) := cell_of_heap hx2 rfl
  have d1 : w2.cell? ⟨n0, 1, none⟩ = some (.slice (some ⟨g, 0, none⟩) c.ds.length gcap) := cell_of_heap hx2 rfl
  have HF2 := hid (And.intro ((F0.mono (by simp)).trans hF2 (fun t ht => .inl ht)) (And.intro hmap2 (And.intro hx2 hn0)))
  clear h hCA y1 y3 y4 y5 z1 z2 hF2 F0 hmap2 hx2
  go_enter Try.func43, Try.ntmps43
  rw [hn0] at d0 d1
  go_wp2_with fail
  rw [← hn0]
  rw [← hn0] at d0 d1
  clear hdel hL c3 c3' hx0 hps d1
  have HR2 := hid (show RingF w2 bR bM at_ bT N bC idx pol brk tk from HH.out.ring.fr HF2.out.1 (by simpa using nC1) (by simpa using nT1))
  have hn0T : n0 ≠ bT := by omega
  clear hn0 d0
  go_loopg [21] c.ds.length (fun gk q wr => ∃ i : Nat, i ≤ c.ds.length ∧ gk = c.ds.length - i ∧ q = .int .i64 i ∧ Hid (RingF wr bR bM at_ bT N bC idx pol brk (tkC tk c.ds i) ∧ Fr [bT] w2 wr))
  case atStart => exact ⟨0, Nat.zero_le _, rfl, rfl, hid ⟨HR2.out, Fr.refl _ _⟩⟩
  case round =>
    obtain ⟨i, hi, hgk, rfl, K0⟩ := hrel
    by_cases hlt : i < c.ds.length
    · have hlt' : (i : Int) < (c.ds.length : Int) := by omega
      have r0 := ((HY.out.2.2.fr HF2.out.1 (by simpa using ng2)).fr K0.out.2 (by simpa using ng1)).cell i hlt
      have hdN := HD.out _ (List.getElem_mem hlt)
      have c2 := K0.out.1.c2
      have z4 := frozen_of_heap (o := c.ds[i]) K0.out.1.tak
      have r4 := taken_cell K0.out.1 c.ds[i] hdN
      have HT := hid (show tkC tk c.ds (i + 1) = (tkC tk c.ds i).set c.ds[i] false by rw [tkC]; simp [hlt])
      generalize c.ds[i] = dd at *
      have hdN' : (dd : Int) < (N : Int) := by omega
      generalize (tkC tk c.ds i).getD dd true = tv at *
      go_wp2
      go_roundg (c.ds.length - (i + 1))
      case measure => omega
      case rel => exact ⟨i + 1, by omega, rfl, by go_num, hid ⟨by rw [HT.out]; exact K0.out.1.setTak dd false, K0.out.2.setCell (.inl (by simp)) _⟩⟩
    · obtain rfl : i = c.ds.length := by omega
      have d0 : wr.cell? ⟨n0, 0, none⟩ = some (.slice (some ⟨b, 0, none⟩) c.xs.length cap) := cell_of_heap (K0.out.2.heap HF2.out.2.2.1 (by simpa using hn0T)) rfl
      have F : Fr [bC, bT] w wr := (HF2.out.1.mono (by simp)).trans K0.out.2 (fun t ht => .inl (by simp at ht; simp [ht]))
      obtain ⟨l, hMl, hLl⟩ := HH.out.mem
      have H60 := hid (home_ok B bR bM bm bb k at_ bT N bC idx pol b 0 cap brk (tkC tk c.ds c.ds.length) Z ((ps ++ qs).flatMap fun c => ivs c.xs) l bs c.xs wr K0.out.1 (hMl.fr F (fun t ht => by
        obtain ⟨lv, h1, _⟩ := hMl
        obtain ⟨es, cl, hq, _⟩ := HH.out.map
        simp at ht
        rcases ht with rfl | rfl
        · refine ⟨?_, ?_, ?_, fun c f => by rw [hq]; simp⟩
          · rintro rfl; rw [h1.top] at hq; cases hq
          · rintro rfl; rw [h1.mid.blk] at hq; cases hq
          · rintro rfl; rw [h1.bytes] at hq; cases hq
        · refine ⟨blk_ne HH.out.ring.tak h1.top (by decide), blk_ne HH.out.ring.tak h1.mid.blk (by decide), blk_ne HH.out.ring.tak h1.bytes (by decide), fun c f => by rw [HH.out.ring.tak]; simp⟩)) (HY.out.1.fr F (by simp; exact ⟨nb2, nb1⟩)) hLl.mid (Nat.le_trans HH.out.low.1 F.size) hxs8)
      have HFF := hid F
      clear hMl hLl F
      go_wp2_with fail
      refine H60.out.mono ?_
      rintro e w6 ⟨rfl, hH6⟩
      have HH6 := hid hH6
      clear hH6
      go_wp2
      go_end0
      have hK : Kp B [bR, bT, bC, bm, bb] w w6 := (HFF.out.kp (fun t ht => .inl (by simp at ht; rcases ht with rfl | rfl <;> simp))).trans (HH6.out.2.mono (by simp))
      obtain ⟨l1, ⟨lv, z1, _⟩, _⟩ := HH.out.mem
      refine ⟨rfl, HH.out.polled hK (K0.out.1.kp HH6.out.2 ?_ ?_) ((HF2.out.2.1.fr K0.out.2 (by simpa using fun e => nT1 e.symm)).kp HH6.out.2 ?_) HH6.out.1, hK⟩
      · simpa using blk_ne HH.out.ring.blk z1.mid.blk (by decide)
      · simpa using blk_ne HH.out.ring.tak z1.mid.blk (by decide)
      · obtain ⟨es, cl, hq, _⟩ := HH.out.map
        simp
        rintro rfl
        rw [z1.mid.blk] at hq; cases hq
end Go.Proofs.Ytfiaciniikcacaa
