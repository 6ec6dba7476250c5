/-
  The walk of Poll of package ring. No statement is proved here.
-/
import Derived.Test.YtfiaciniikcacaaRing21
namespace Go.Proofs.Ytfiaciniikcacaa
open Go.RowKit Go.BigFrame Go.MapKept
set_option linter.unusedVariables false
set_option linter.unusedSimpArgs false
set_option maxRecDepth 1000000
set_option maxHeartbeats 4000000

/-- How many chains the device says it has used that were not polled yet. -/
def rdy (bs : List UInt8) (at_ N pol : Nat) : Nat := (num bs (at_ + uAt N + 2) 2 + 65536 - pol) % 65536
/-- What Poll comes to. -/
def PollP (B : Nat) (w w' : World) (bR bM bm bb k at_ bT N bC : Nat) (Z : Nat → Prop) (idx pol : Nat) (tk : List Bool) (cs : List Ch) (bs : List UInt8) (e : Ending) : Prop :=
  (e = .returned (.tuple #[.agg #[.int .u16 0, .int .u32 0], .bool false, .int .i64 0]) ∧ rdy bs at_ N pol = 0 ∧ RS B w' bR bM bm bb k at_ bT N bC Z idx pol false tk cs bs ∧ Kp B [bR, bT, bC, bm, bb] w w') ∨
  (e = .returned (.tuple #[.agg #[.int .u16 0, .int .u32 0], .bool false, .int .i64 20]) ∧ 1 ≤ rdy bs at_ N pol ∧ (cs.length < rdy bs at_ N pol ∨ ∀ c, c ∈ cs → ¬ (c.h = num bs (eAt at_ N pol) 4 ∧ num bs (eAt at_ N pol + 4) 4 ≤ roomB c.xs)) ∧ RS B w' bR bM bm bb k at_ bT N bC Z idx pol true tk cs bs ∧ Kp B [bR, bT, bC, bm, bb] w w') ∨
  ∃ ps c qs, cs = ps ++ c :: qs ∧ 1 ≤ rdy bs at_ N pol ∧ rdy bs at_ N pol ≤ cs.length ∧ c.h = num bs (eAt at_ N pol) 4 ∧ num bs (eAt at_ N pol + 4) 4 ≤ roomB c.xs ∧ e = .returned (.tuple #[.agg #[.int .u16 (c.h : Nat), .int .u32 (num bs (eAt at_ N pol + 4) 4 : Nat)], .bool true, .int .i64 0]) ∧
    RS B w' bR bM bm bb k at_ bT N bC Z idx ((pol + 1) % 65536) false (tkC tk c.ds c.ds.length) (ps ++ qs) bs ∧ Kp B [bR, bT, bC, bm, bb] w w'
theorem Kp.frNew {B : Nat} {S T : List Nat} {w W W' : World} (h : Kp B S w W) (hF : Fr T W W') (hT : ∀ t, t ∈ T → t ∈ S ∨ w.heap.size ≤ t) : Kp B S w W' :=
  ⟨hF.os.trans h.os, hF.tape.trans h.tape, hF.output.trans h.output, Nat.le_trans h.size hF.size, fun k o hk hS hc => by
    have h1 := h.block k o hk hS hc
    have hl := lt_of_heap hk
    rw [hF.block k (Nat.lt_of_lt_of_le hl h.size) (fun ht => by rcases hT k ht with g | g; exact hS g; omega)]
    exact h1⟩
/-- A block that holds none of what a ring has was written. -/
theorem RS.frT {B : Nat} {w w' : World} {bR bM bm bb k at_ bT N bC : Nat} {Z : Nat → Prop} {idx pol : Nat} {brk : Bool} {tk : List Bool} {cs : List Ch} {bs : List UInt8} {t : Nat} (h : RS B w bR bM bm bb k at_ bT N bC Z idx pol brk tk cs bs) (hF : Fr [t] w w')
    (ht : ∃ c ty f, w.heap[t]? = some (.cells c ty f) ∧ ty ≠ 80 ∧ ty ≠ 4 ∧ ty ≠ 76 ∧ ty ≠ 74 ∧ ty ≠ 5 ∧ ty ≠ 83 ∧ ty ≠ 59) (hd : ∀ c, c ∈ cs → c.dv.ownBlock ≠ some t) : RS B w' bR bM bm bb k at_ bT N bC Z idx pol brk tk cs bs := by
  obtain ⟨l, h1, h2⟩ := h.mem
  obtain ⟨lv, h3, _⟩ := id h1
  obtain ⟨es, cl, hm, _⟩ := h.map
  obtain ⟨cc, ty, f, hc, n1, n2, n3, n4, n5, n6, n7⟩ := ht
  refine ⟨h.ring.fr hF (by simpa using blk_ne h.ring.blk hc (fun e => n1 e.symm)) (by simpa using blk_ne h.ring.tak hc (fun e => n2 e.symm)), h.map.fr hF (by simp; rintro rfl; rw [hc] at hm; cases hm), ⟨l, h1.fr hF (fun t' ht' => ?_), h2⟩, fun c hcm => ?_, h.off, h.inn, h.pow, h.fit, h.zof, h.zus, h.hds, h.dsn, h.tks, h.dlt, h.idl, h.pll, ⟨Nat.le_trans h.low.1 hF.size, h.low.2⟩⟩
  · simp at ht'
    subst ht'
    exact ⟨blk_ne hc h3.top n3, blk_ne hc h3.mid.blk n4, blk_ne hc h3.bytes n5, fun c' f' e => by rw [hc] at e; cases e; exact n6 rfl⟩
  · obtain ⟨b, cap, x, y1, y2, y3, y4, y5⟩ := (h.chs c hcm).bufs
    obtain ⟨g, gc, g1, g2⟩ := (h.chs c hcm).dscs
    have hb : b ∉ [t] := by simpa using blk_ne y5 hc (fun e => n7 e.symm)
    have hg : g ∉ [t] := by
      simp
      rintro rfl
      exact hd c hcm (by rw [g1]; rfl)
    exact ⟨⟨b, cap, x, y1, y2, y3, y4.fr hF hb, hF.heap y5 hb⟩, ⟨g, gc, g1, g2.fr hF hg⟩, (h.chs c hcm).n1, (h.chs c hcm).n8, (h.chs c hcm).nd, (h.chs c hcm).hd⟩
theorem RS.fr43 {B : Nat} {w w' : World} {bR bM bm bb k at_ bT N bC : Nat} {Z : Nat → Prop} {idx pol : Nat} {brk : Bool} {tk : List Bool} {cs : List Ch} {bs : List UInt8} {t : Nat} {cc : Array Value} {f : Nat × Nat} (h : RS B w bR bM bm bb k at_ bT N bC Z idx pol brk tk cs bs) (hF : Fr [t] w w') (ht : w.heap[t]? = some (.cells cc 43 f)) : RS B w' bR bM bm bb k at_ bT N bC Z idx pol brk tk cs bs := by
  refine h.frT hF ⟨cc, 43, f, ht, by decide, by decide, by decide, by decide, by decide, by decide, by decide⟩ (fun c hc e => ?_)
  obtain ⟨g, gc, g1, g2⟩ := (h.chs c hc).dscs
  rw [g1] at e
  cases e
  obtain ⟨cur, q1, _⟩ := g2.blk
  rw [ht] at q1
  cases q1
theorem two_frames {W : World} {n0 : Nat} {a b : Value} : Fr [n0] W ((W.setCell ⟨n0, 0, none⟩ a).setCell ⟨n0, 1, none⟩ b) := ((Fr.refl [n0] W).setCell (.inl (by simp)) _).setCell (.inl (by simp)) _
theorem poll_end {B : Nat} {w W : World} {bR bM bm bb k at_ bT N bC n0 : Nat} {Z : Nat → Prop} {idx pol : Nat} {brk : Bool} {tk : List Bool} {cs : List Ch} {bs : List UInt8} {cc : Array Value} {a b : Value} (h : RS B W bR bM bm bb k at_ bT N bC Z idx pol brk tk cs bs) (hx : W.heap[n0]? = some (.cells cc 43)) (hK : Kp B [bR, bT, bC, bm, bb] w W) (hn : w.heap.size ≤ n0) :
    RS B ((W.setCell ⟨n0, 0, none⟩ a).setCell ⟨n0, 1, none⟩ b) bR bM bm bb k at_ bT N bC Z idx pol brk tk cs bs ∧ Kp B [bR, bT, bC, bm, bb] w ((W.setCell ⟨n0, 0, none⟩ a).setCell ⟨n0, 1, none⟩ b) :=
  ⟨h.fr43 two_frames hx, hK.frNew two_frames (fun t ht => by simp at ht; subst ht; exact .inr hn)⟩
theorem rpoll_broken (B bR bM bm bb k at_ bT N bC idx pol : Nat) (Z : Nat → Prop) (tk : List Bool) (cs : List Ch) (bs : List UInt8) (w : World) (h : RS B w bR bM bm bb k at_ bT N bC Z idx pol true tk cs bs) :
    Calls Try.prog 15 #[.pointer (some ⟨bR, 0, none⟩)] w fun e w' => e = .returned (.tuple #[.agg #[.int .u16 0, .int .u32 0], .bool false, .int .i64 20]) ∧ Fr [] w w' := by
  have F0 : Fr [] w (w.alloc (.cells #[.int .u16 0, .int .u32 0] 43)) := (Fr.refl _ _).alloc _
  have c0 := (h.ring.fr F0 (by simp) (by simp)).c0
  have c6 := (h.ring.fr F0 (by simp) (by simp)).c6
  have HF0 := hid F0
  clear h F0
  go_enter Try.func15, Try.ntmps15
  go_wp2_with (first | (go_at_call 34; refine (rnone_ring bR bM _ c0).mono ?_; rintro e w0 ⟨rfl, hw⟩; subst hw))
  go_returns
  exact ⟨rfl, HF0.out⟩
theorem rpoll_any (B bR bM bm bb k at_ bT N bC idx pol : Nat) (Z : Nat → Prop) (tk : List Bool) (cs : List Ch) (bs : List UInt8) (w : World) (h : RS B w bR bM bm bb k at_ bT N bC Z idx pol false tk cs bs) :
    Calls Try.prog 15 #[.pointer (some ⟨bR, 0, none⟩)] w fun e w' => PollP B w w' bR bM bm bb k at_ bT N bC Z idx pol tk cs bs e := by
  have hN : 1 ≤ N ∧ N ≤ 256 := by have := h.pow; unfold Pow at this; omega
  have hk := h.top
  have hfit := h.fit
  have hpl := h.pll
  have hru : uAt N + 6 ≤ rSize N := by unfold rSize; omega
  obtain ⟨U, hU⟩ : ∃ U, U = at_ + uAt N := ⟨_, rfl⟩
  obtain ⟨I, hI⟩ : ∃ I, I = num bs (U + 2) 2 := ⟨_, rfl⟩
  have hIb : I < 65536 := by rw [hI]; exact num_lt bs (U + 2) 2
  obtain ⟨r, hr⟩ : ∃ r, r = rdy bs at_ N pol := ⟨_, rfl⟩
  have hrI : r = (I + 65536 - pol) % 65536 := by rw [hr, hI, hU]; rfl
  have wr' : IntKind.u16.wrap ((I : Int) - (pol : Int)) = (r : Int) := by rw [IntKind.wrap_u16]; omega
  have wU2 : IntKind.u32.wrap ((U : Int) + 2) = (U : Int) + 2 := by rw [IntKind.wrap_u32]; omega
  have HU := hid (fun W (hF : Fr [] w W) => (show Calls Try.prog 19 #[.pointer (some ⟨bR, 0, none⟩)] W fun e w' => e = .returned (.int .u32 (U : Nat)) ∧ ∃ d, w' = W.drewN d from by rw [hU]; exact Used_any bR bM at_ bT N bC idx pol false tk W (h.ring.fr hF (by simp) (by simp)) hN.2 (by omega)))
  have H26 := hid (fun W (hF : Fr [] w W) => (show Calls Try.prog 26 #[.pointer (some ⟨bM, 0, none⟩), .int .u32 ((U : Int) + 2)] W fun e w' => e = .returned (.tuple #[.int .u16 (I : Nat), .int .i64 0]) ∧ Hid (Fr [] w w' ∧ Fr [] W w') ∧ w'.cell? ⟨bR, 0, none⟩ = some (.pointer (some ⟨bM, 0, none⟩)) from by
    obtain ⟨l, ⟨lv, hM, _⟩, _⟩ := h.mem
    rw [hI, show ((U : Int) + 2) = ((U + 2 : Nat) : Int) from by omega]
    exact (u16_is bM bm bb k (U + 2) lv l bs W (hM.fr0 hF) (by omega)).mono fun e w' ⟨q1, q2⟩ => ⟨q1, hid ⟨hF.trans0 q2, q2⟩, ((h.ring.fr hF (by simp) (by simp)).fr q2 (by simp) (by simp)).c0⟩))
  have HH := hid h
  have Hr := hid hr
  have F0 : Fr [] w (w.alloc (.cells #[.int .u16 0, .int .u32 0] 43)) := (Fr.refl _ _).alloc _
  have c0 := (h.ring.fr F0 (by simp) (by simp)).c0
  have c6 := (h.ring.fr F0 (by simp) (by simp)).c6
  have HF0 := hid F0
  have hrb : r < 65536 := by omega
  clear h hU hI hr hrI F0 hN hk hfit hru hIb
  go_enter Try.func15, Try.ntmps15
  go_wp2_with (first | (go_at_call 34; refine (rnone_ring bR bM _ c0).mono ?_; rintro e w0 ⟨rfl, hw⟩; subst hw))
  obtain ⟨n0, hn0⟩ : ∃ n, n = w.heap.size := ⟨_, rfl⟩
  have hx0 := heap_alloc_new w (.cells #[.int .u16 0, .int .u32 0] 43)
  rw [← hn0] at hx0
  rw [← hn0]
  have Hn0 := hid (Nat.le_of_eq hn0.symm)
  have Hx0 := hid hx0
  clear hn0 hx0 c6
  generalize w.alloc (.cells #[.int .u16 0, .int .u32 0] 43) = W0 at *
  go_region_held (fun w' => w'.cell? ⟨bR, 0, none⟩ = some (.pointer (some ⟨bM, 0, none⟩))) (go_keep)
    (first
    | (go_at_call 19; refine (HU.out _ (HF0.out.drew)).mono ?_; rintro e w1 ⟨rfl, d1, hw⟩; subst hw)
    | (go_at_call 26; refine (H26.out _ (HF0.out.drewN _)).mono ?_; rintro e w2 ⟨rfl, HF2, c0'⟩))
  have hx2 : w2.heap[n0]? = some (.cells #[.int .u16 0, .int .u32 0] 43) := HF2.out.2.heap (show World.heap _ |>.toList.toArray[n0]? = _ from by simpa using Hx0.out) (by simp)
  have c5 := (HH.out.ring.fr HF2.out.1 (by simp) (by simp)).c5
  clear c0 c0' HU H26 wU2
  by_cases hr0 : r = 0
  · subst hr0
    have hxF := hx2
    have g0 : (w2).cell? ⟨n0, 0, none⟩ = some (.int .u16 0) := cell_of_heap (o := 0) hxF rfl
    have g1 : (w2).cell? ⟨n0, 1, none⟩ = some (.int .u32 0) := cell_of_heap (o := 1) hxF rfl
    have k0 := frozen_of_heap (o := 0) hxF
    have k1 := frozen_of_heap (o := 1) hxF
    have s0 : ((w2).setCell ⟨n0, 0, none⟩ (.int .u16 0)).cell? ⟨n0, 0, none⟩ = some (.int .u16 0) := (two_cells (v1 := .bool true) g0 g1).1
    have s1 : (((w2).setCell ⟨n0, 0, none⟩ (.int .u16 0)).setCell ⟨n0, 1, none⟩ (.int .u32 0)).cell? ⟨n0, 1, none⟩ = some (.int .u32 0) := (two_cells g0 g1).2
    go_wp2
    try simp only [Exit.inBlock, Exit.then]
    refine bodyPost_ret (by simp [results, Try.results15, go_sem, s0, s1]; try rfl) rfl ?_
    exact .inl ⟨rfl, Hr.out.symm, poll_end (HH.out.fr0 HF2.out.1) hx2 HF2.out.1.kp0 Hn0.out⟩
  · have e0 : ((r : Int) == 0) = false := by simp; omega
    have e0' : ¬ ((r : Int) = 0) := by omega
    go_wp2_with fail
    refine (entry_any B bR bM bm bb k at_ bT N bC idx pol Z false tk cs bs w2 (HH.out.fr0 HF2.out.1)).mono ?_
    rintro e w3 ⟨hE, hF3⟩
    obtain ⟨ea, eb, ok, rfl, HEnt⟩ : ∃ (ea eb : Nat) (ok : Bool), e = .returned (.tuple #[.agg #[.int .u16 (ea : Nat), .int .u32 (eb : Nat)], .bool ok]) ∧ Hid ((ok = false ∧ ∀ c, c ∈ cs → ¬ (c.h = num bs (eAt at_ N pol) 4 ∧ num bs (eAt at_ N pol + 4) 4 ≤ roomB c.xs)) ∨ (ok = true ∧ eb = num bs (eAt at_ N pol + 4) 4 ∧ ∃ ps c qs, cs = ps ++ c :: qs ∧ c.h = num bs (eAt at_ N pol) 4 ∧ num bs (eAt at_ N pol + 4) 4 ≤ roomB c.xs ∧ ea = c.h)) := by
      rcases hE with ⟨q1, q2⟩ | ⟨ps, c, qs, q1, q2, q3, q4⟩
      · exact ⟨0, 0, false, q1, hid (.inl ⟨rfl, q2⟩)⟩
      · exact ⟨c.h, _, true, q4, hid (.inr ⟨rfl, rfl, ps, c, qs, q1, q2, q3, rfl⟩)⟩
    have hx3 := hF3.heap hx2 (by simp)
    have F3 := HF2.out.1.trans0 hF3
    have F4 : Fr [] w3 (w3.alloc (.cells #[.int .u16 (ea : Nat), .int .u32 (eb : Nat)] 43)) := (Fr.refl _ _).alloc _
    have hx4 := F4.heap hx3 (by simp)
    have hd4 := heap_alloc_new w3 (.cells #[.int .u16 (ea : Nat), .int .u32 (eb : Nat)] 43)
    have HR4 := hid (HH.out.fr0 (F3.trans0 F4))
    have HF4 := hid (F3.trans0 F4)
    have hne : n0 ≠ w3.heap.size := by have := lt_of_heap hx3; omega
    have hnR : n0 ≠ bR := blk_ne hx4 HR4.out.ring.blk (by decide)
    have c3 := HR4.out.ring.c3
    have hlen := len_map HR4.out.map
    have hxB : ((w3.alloc (.cells #[.int .u16 (ea : Nat), .int .u32 (eb : Nat)] 43)).setCell ⟨bR, 6, none⟩ (.bool true)).heap[n0]? = some (.cells #[.int .u16 0, .int .u32 0] 43) := ((Fr.refl [bR] _).setCell (.inl (by simp)) _).heap hx4 (by simpa using hnR)
    have HKB := hid (show Kp B [bR, bT, bC, bm, bb] w ((w3.alloc (.cells #[.int .u16 (ea : Nat), .int .u32 (eb : Nat)] 43)).setCell ⟨bR, 6, none⟩ (.bool true)) from (HF4.out.kp0).frNew ((Fr.refl [bR] _).setCell (.inl (by simp)) _) (fun t ht => .inl (by simp at ht; simp [ht])))
    clear hE hF3 hx2 hx3 c5 F3 F4
    by_cases hlr : cs.length < r
    · have e1 : decide ((cs.length : Int) < (r : Int)) = true := by simp; omega
      clear HEnt
      have hxF := hxB
      have c6 := HR4.out.ring.c6
      have z6 := frozen_of_heap (o := 6) HR4.out.ring.blk
      have g0 : ((w3.alloc (.cells #[.int .u16 (ea : Nat), .int .u32 (eb : Nat)] 43)).setCell ⟨bR, 6, none⟩ (.bool true)).cell? ⟨n0, 0, none⟩ = some (.int .u16 0) := cell_of_heap (o := 0) hxF rfl
      have g1 : ((w3.alloc (.cells #[.int .u16 (ea : Nat), .int .u32 (eb : Nat)] 43)).setCell ⟨bR, 6, none⟩ (.bool true)).cell? ⟨n0, 1, none⟩ = some (.int .u32 0) := cell_of_heap (o := 1) hxF rfl
      have k0 := frozen_of_heap (o := 0) hxF
      have k1 := frozen_of_heap (o := 1) hxF
      have s0 : (((w3.alloc (.cells #[.int .u16 (ea : Nat), .int .u32 (eb : Nat)] 43)).setCell ⟨bR, 6, none⟩ (.bool true)).setCell ⟨n0, 0, none⟩ (.int .u16 0)).cell? ⟨n0, 0, none⟩ = some (.int .u16 0) := (two_cells (v1 := .bool true) g0 g1).1
      have s1 : ((((w3.alloc (.cells #[.int .u16 (ea : Nat), .int .u32 (eb : Nat)] 43)).setCell ⟨bR, 6, none⟩ (.bool true)).setCell ⟨n0, 0, none⟩ (.int .u16 0)).setCell ⟨n0, 1, none⟩ (.int .u32 0)).cell? ⟨n0, 1, none⟩ = some (.int .u32 0) := (two_cells g0 g1).2
      go_wp2
      try simp only [Exit.inBlock, Exit.then]
      refine bodyPost_ret (by simp [results, Try.results15, go_sem, s0, s1]; try rfl) rfl ?_
      exact .inr (.inl ⟨rfl, by rw [← Hr.out]; omega, .inl (by rw [← Hr.out]; exact hlr), poll_end (HR4.out.setBrk true) hxB HKB.out Hn0.out⟩)
    · have e1 : decide ((cs.length : Int) < (r : Int)) = false := by simp; omega
      cases ok with
      | false =>
        have hxF := hxB
        have c6 := HR4.out.ring.c6
        have z6 := frozen_of_heap (o := 6) HR4.out.ring.blk
        have g0 : ((w3.alloc (.cells #[.int .u16 (ea : Nat), .int .u32 (eb : Nat)] 43)).setCell ⟨bR, 6, none⟩ (.bool true)).cell? ⟨n0, 0, none⟩ = some (.int .u16 0) := cell_of_heap (o := 0) hxF rfl
        have g1 : ((w3.alloc (.cells #[.int .u16 (ea : Nat), .int .u32 (eb : Nat)] 43)).setCell ⟨bR, 6, none⟩ (.bool true)).cell? ⟨n0, 1, none⟩ = some (.int .u32 0) := cell_of_heap (o := 1) hxF rfl
        have k0 := frozen_of_heap (o := 0) hxF
        have k1 := frozen_of_heap (o := 1) hxF
        have s0 : (((w3.alloc (.cells #[.int .u16 (ea : Nat), .int .u32 (eb : Nat)] 43)).setCell ⟨bR, 6, none⟩ (.bool true)).setCell ⟨n0, 0, none⟩ (.int .u16 0)).cell? ⟨n0, 0, none⟩ = some (.int .u16 0) := (two_cells (v1 := .bool true) g0 g1).1
        have s1 : ((((w3.alloc (.cells #[.int .u16 (ea : Nat), .int .u32 (eb : Nat)] 43)).setCell ⟨bR, 6, none⟩ (.bool true)).setCell ⟨n0, 0, none⟩ (.int .u16 0)).setCell ⟨n0, 1, none⟩ (.int .u32 0)).cell? ⟨n0, 1, none⟩ = some (.int .u32 0) := (two_cells g0 g1).2
        go_wp2
        try simp only [Exit.inBlock, Exit.then]
        refine bodyPost_ret (by simp [results, Try.results15, go_sem, s0, s1]; try rfl) rfl ?_
        exact .inr (.inl ⟨rfl, by rw [← Hr.out]; omega, .inr (by rcases HEnt.out with q | q; exact q.2; cases q.1), poll_end (HR4.out.setBrk true) hxB HKB.out Hn0.out⟩)
      | true =>
        have c5 := HR4.out.ring.c5
        have z5 := frozen_of_heap (o := 5) HR4.out.ring.blk
        obtain ⟨heb, ps, c, qs, hcs, hch, hnr, hea⟩ : eb = num bs (eAt at_ N pol + 4) 4 ∧ ∃ ps c qs, cs = ps ++ c :: qs ∧ c.h = num bs (eAt at_ N pol) 4 ∧ num bs (eAt at_ N pol + 4) 4 ≤ roomB c.xs ∧ ea = c.h := by
          rcases HEnt.out with q | q
          · cases q.1
          · exact q.2
        obtain ⟨P, hP⟩ : ∃ P, P = (pol + 1) % 65536 := ⟨_, rfl⟩
        have wP : IntKind.u16.wrap ((pol : Int) + 1) = (P : Int) := by rw [IntKind.wrap_u16]; omega
        have HP := hid hP
        have HR5 := hid (HR4.out.setPol P (by omega))
        have hx5 : ((w3.alloc (.cells #[.int .u16 (ea : Nat), .int .u32 (eb : Nat)] 43)).setCell ⟨bR, 5, none⟩ (.int .u16 (P : Nat))).heap[n0]? = some (.cells #[.int .u16 0, .int .u32 0] 43) := ((Fr.refl [bR] _).setCell (.inl (by simp)) _).heap hx4 (by simpa using hnR)
        have hd5 : ((w3.alloc (.cells #[.int .u16 (ea : Nat), .int .u32 (eb : Nat)] 43)).setCell ⟨bR, 5, none⟩ (.int .u16 (P : Nat))).heap[w3.heap.size]? = some (.cells #[.int .u16 (ea : Nat), .int .u32 (eb : Nat)] 43) := ((Fr.refl [bR] _).setCell (.inl (by simp)) _).heap hd4 (by simpa using blk_ne hd4 HR4.out.ring.blk (by decide))
        have HK5 := hid (show Kp B [bR, bT, bC, bm, bb] w ((w3.alloc (.cells #[.int .u16 (ea : Nat), .int .u32 (eb : Nat)] 43)).setCell ⟨bR, 5, none⟩ (.int .u16 (P : Nat))) from (HF4.out.kp0).frNew ((Fr.refl [bR] _).setCell (.inl (by simp)) _) (fun t ht => .inl (by simp at ht; simp [ht])))
        have u0 : ((w3.alloc (.cells #[.int .u16 (ea : Nat), .int .u32 (eb : Nat)] 43)).setCell ⟨bR, 5, none⟩ (.int .u16 (P : Nat))).cell? ⟨w3.heap.size, 0, none⟩ = some (.int .u16 (ea : Nat)) := cell_of_heap hd5 rfl
        clear hP hpl hxB HKB hx4 hd4
        have HE := hid (And.intro heb (And.intro hcs (And.intro hch (And.intro hnr hea))))
        have HNo := hid (show ∀ (q : Nat) (cc : Array Value), ((w3.alloc (.cells #[.int .u16 (ea : Nat), .int .u32 (eb : Nat)] 43)).setCell ⟨bR, 5, none⟩ (.int .u16 (P : Nat))).heap[q]? = some (.cells cc 43) → q ∉ [bR, bT, bC, bm, bb] from fun q cc hq => by
          obtain ⟨l, ⟨lv, h1, _⟩, _⟩ := HR5.out.mem
          obtain ⟨es, cl, hm, _⟩ := HR5.out.map
          simp
          refine ⟨blk_ne hq HR5.out.ring.blk (by decide), blk_ne hq HR5.out.ring.tak (by decide), ?_, blk_ne hq h1.mid.blk (by decide), blk_ne hq h1.bytes (by decide)⟩
          rintro rfl
          rw [hm] at hq; cases hq)
        have H43 := hid (show Calls Try.prog 43 #[.pointer (some ⟨bR, 0, none⟩), .int .u16 (ea : Nat)] ((w3.alloc (.cells #[.int .u16 (ea : Nat), .int .u32 (eb : Nat)] 43)).setCell ⟨bR, 5, none⟩ (.int .u16 (P : Nat))) fun e w' => e = .returned (.tuple #[]) ∧ Hid (RS B w' bR bM bm bb k at_ bT N bC Z idx P false (tkC tk c.ds c.ds.length) (ps ++ qs) bs ∧ Kp B [bR, bT, bC, bm, bb] w w') ∧ Hid (w'.heap[n0]? = some (.cells #[.int .u16 0, .int .u32 0] 43)) ∧ Hid (w'.heap[w3.heap.size]? = some (.cells #[.int .u16 (ea : Nat), .int .u32 (eb : Nat)] 43)) from by
          have h5 := HR5.out
          rw [hcs] at h5
          rw [hea]
          rw [hea] at h5 hx5 hd5 HNo HK5
          exact (release_any B bR bM bm bb k at_ bT N bC idx P Z false tk ps qs c bs _ h5).mono fun e w' ⟨q1, q2, q3⟩ => ⟨q1, hid ⟨q2, HK5.out.trans q3⟩, hid (q3.heap hx5 (HNo.out _ _ hx5) (by decide)), hid (q3.heap hd5 (HNo.out _ _ hd5) (by decide))⟩)
        clear heb hcs hch hnr hea hx5 hd5
        go_wp2_with fail
        refine H43.out.mono ?_
        rintro e w6 ⟨rfl, H6, Hx6, Hd6⟩
        have hxF := Hx6.out
        have v0 : w6.cell? ⟨w3.heap.size, 0, none⟩ = some (.int .u16 (ea : Nat)) := cell_of_heap Hd6.out rfl
        have v1 : w6.cell? ⟨w3.heap.size, 1, none⟩ = some (.int .u32 (eb : Nat)) := cell_of_heap Hd6.out rfl
        have g0 : (w6).cell? ⟨n0, 0, none⟩ = some (.int .u16 0) := cell_of_heap (o := 0) hxF rfl
        have g1 : (w6).cell? ⟨n0, 1, none⟩ = some (.int .u32 0) := cell_of_heap (o := 1) hxF rfl
        have k0 := frozen_of_heap (o := 0) hxF
        have k1 := frozen_of_heap (o := 1) hxF
        have s0 : ((w6).setCell ⟨n0, 0, none⟩ (.int .u16 (ea : Nat))).cell? ⟨n0, 0, none⟩ = some (.int .u16 (ea : Nat)) := (two_cells (v1 := .bool true) g0 g1).1
        have s1 : (((w6).setCell ⟨n0, 0, none⟩ (.int .u16 (ea : Nat))).setCell ⟨n0, 1, none⟩ (.int .u32 (eb : Nat))).cell? ⟨n0, 1, none⟩ = some (.int .u32 (eb : Nat)) := (two_cells g0 g1).2
        clear u0 c3 hlen c5 z5
        go_wp2
        try simp only [Exit.inBlock, Exit.then]
        refine bodyPost_ret (by simp [results, Try.results15, go_sem, s0, s1]; try rfl) rfl ?_
        obtain ⟨heb, hcs, hch, hnr, hea⟩ := HE.out
        have hP := HP.out
        refine .inr (.inr ⟨ps, c, qs, hcs, by rw [← Hr.out]; omega, by rw [← Hr.out]; omega, hch, hnr, by rw [hea, heb], ?_⟩)
        rw [← hP]
        exact poll_end H6.out.1 Hx6.out H6.out.2 Hn0.out
end Go.Proofs.Ytfiaciniikcacaa
