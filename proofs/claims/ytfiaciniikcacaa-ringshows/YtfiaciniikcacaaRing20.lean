/-
  The walk of 'entry' of package ring: what the device says of the next chain. No statement is proved here.
-/
import Derived.Test.YtfiaciniikcacaaRing19
namespace Go.Proofs.Ytfiaciniikcacaa
open Go.RowKit Go.BigFrame Go.MapKept
set_option linter.unusedVariables false
set_option linter.unusedSimpArgs false
set_option maxRecDepth 1000000
set_option maxHeartbeats 4000000

theorem two_cells {w : World} {n0 : Nat} {a b v0 v1 : Value} (g0 : w.cell? ⟨n0, 0, none⟩ = some a) (g1 : w.cell? ⟨n0, 1, none⟩ = some b) : (w.setCell ⟨n0, 0, none⟩ v0).cell? ⟨n0, 0, none⟩ = some v0 ∧ ((w.setCell ⟨n0, 0, none⟩ v0).setCell ⟨n0, 1, none⟩ v1).cell? ⟨n0, 1, none⟩ = some v1 := by
  refine ⟨World.cell?_setCell_same _ _ _ g0, World.cell?_setCell_same (u := b) _ _ _ ?_⟩
  rw [World.cell?_setCell_other]
  · exact g1
  · simp
theorem entry_any (B bR bM bm bb k at_ bT N bC idx pol : Nat) (Z : Nat → Prop) (brk : Bool) (tk : List Bool) (cs : List Ch) (bs : List UInt8) (w : World) (h : RS B w bR bM bm bb k at_ bT N bC Z idx pol brk tk cs bs) :
    Calls Try.prog 42 #[.pointer (some ⟨bR, 0, none⟩)] w fun e w' => EntP bs at_ N pol cs e ∧ Fr [] w w' := by
  have hN : 1 ≤ N ∧ N ≤ 256 := by have := h.pow; unfold Pow at this; omega
  have hk := h.top
  have hfit := h.fit
  have hpl := h.pll
  have hE8 := eAt_le h
  have hru : uAt N ≤ rSize N := by unfold rSize; omega
  obtain ⟨l, ⟨lv, hM, _⟩, _⟩ := h.mem
  obtain ⟨U, hU⟩ : ∃ U, U = at_ + uAt N := ⟨_, rfl⟩
  obtain ⟨q, hq⟩ : ∃ q, q = pol % N := ⟨_, rfl⟩
  have hqb : q < 256 := by have := Nat.mod_lt pol (show 0 < N by omega); omega
  have hrem : (pol : Int) % (N : Int) = (q : Int) := by rw [hq, Int.natCast_emod]
  obtain ⟨E, hE⟩ : ∃ E, E = eAt at_ N pol := ⟨_, rfl⟩
  have hEU : E = U + 4 + 8 * q := by rw [hE, hU, hq]; rfl
  rw [← hE] at hE8
  have hnz : ¬ (N : Int) = 0 := by omega
  have wi : IntKind.i64.wrap (pol : Int) = pol := by rw [IntKind.wrap_i64]; omega
  have wq : IntKind.u32.wrap (q : Int) = q := by rw [IntKind.wrap_u32]; omega
  have w8 : IntKind.u32.wrap (8 * (q : Int)) = 8 * (q : Int) := by rw [IntKind.wrap_u32]; omega
  have w4 : IntKind.u32.wrap ((U : Int) + 4) = (U : Int) + 4 := by rw [IntKind.wrap_u32]; omega
  have wE : IntKind.u32.wrap ((U : Int) + 4 + 8 * (q : Int)) = (E : Int) := by rw [IntKind.wrap_u32]; omega
  have wE4 : IntKind.u32.wrap ((E : Int) + 4) = (E : Int) + 4 := by rw [IntKind.wrap_u32]; omega
  unfold EntP
  rw [← hE]
  obtain ⟨H, hH⟩ : ∃ H, H = num bs E 4 := ⟨_, rfl⟩
  obtain ⟨n, hn⟩ : ∃ n, n = num bs (E + 4) 4 := ⟨_, rfl⟩
  have hHb : H < 4294967296 := by rw [hH]; exact num_lt bs E 4
  have hnb : n < 4294967296 := by rw [hn]; exact num_lt bs (E + 4) 4
  rw [← hH, ← hn]
  obtain ⟨hh, hhh⟩ : ∃ hh, hh = H % 65536 := ⟨_, rfl⟩
  have wh : IntKind.u16.wrap (H : Int) = (hh : Int) := by rw [IntKind.wrap_u16]; omega
  have wh2 : IntKind.u32.wrap (hh : Int) = (hh : Int) := by rw [IntKind.wrap_u32]; omega
  have wn : IntKind.u64.wrap (n : Int) = (n : Int) := wraps_u64 _ (by omega) (by omega)
  have HR := hid h.ring
  have HU := hid (fun W (hF : Fr [] w W) => (show Calls Try.prog 19 #[.pointer (some ⟨bR, 0, none⟩)] W fun e w' => e = .returned (.int .u32 (U : Nat)) ∧ ∃ d, w' = W.drewN d from by rw [hU]; exact Used_any bR bM at_ bT N bC idx pol brk tk W (h.ring.fr hF (by simp) (by simp)) hN.2 (by omega)))
  have H1 := hid (fun W (hF : Fr [] w W) => (show Calls Try.prog 28 #[.pointer (some ⟨bM, 0, none⟩), .int .u32 E] W fun e w' => e = .returned (.tuple #[.int .u32 (H : Nat), .int .i64 0]) ∧ Fr [] W w' from by rw [hH]; exact u32_is bM bm bb k E lv l bs W (hM.fr0 hF) (by omega)))
  have H2 := hid (fun W (hF : Fr [] w W) => (show Calls Try.prog 28 #[.pointer (some ⟨bM, 0, none⟩), .int .u32 ((E : Int) + 4)] W fun e w' => e = .returned (.tuple #[.int .u32 (n : Nat), .int .i64 0]) ∧ Fr [] W w' from by rw [hn, show ((E : Int) + 4) = ((E + 4 : Nat) : Int) from by omega]; exact u32_is bM bm bb k (E + 4) lv l bs W (hM.fr0 hF) (by omega)))
  have HC := hid (fun W (hF : Fr [] w W) => h.map.fr hF (by simp))
  have HH := hid h
  clear hM h hU hq hE hEU hH hn hfit hru hpl hN hk hE8 hqb hnb
  go_enter Try.func42, Try.ntmps42
  go_wp2_with fail
  have F0 : Fr [] w (w.alloc (.cells #[.int .u16 0, .int .u32 0] 43)) := (Fr.refl _ _).alloc _
  have hx0 := heap_alloc_new w (.cells #[.int .u16 0, .int .u32 0] 43)
  obtain ⟨n0, hn0⟩ : ∃ b, b = w.heap.size := ⟨_, rfl⟩
  rw [← hn0] at hx0
  rw [← hn0]
  have Hn0 := hid (Nat.le_of_eq hn0.symm)
  clear hn0
  generalize w.alloc (.cells #[.int .u16 0, .int .u32 0] 43) = W0 at *
  have HF0 := hid F0
  have Hx0 := hid hx0
  have c2 := (HR.out.fr F0 (by simp) (by simp)).c2
  have c5 := (HR.out.fr F0 (by simp) (by simp)).c5
  clear F0 hx0
  go_quiet (first | exact Calls.quiet_of_same (rsize_any bR bT N _ c2) | exact Calls.quiet_of (HU.out _ (HF0.out.drewN _)))
  have HF1 := hid (HF0.out.drewN nq)
  have Hx1 := hid (show (W0.drewN nq).heap[n0]? = _ from Hx0.out)
  generalize W0.drewN nq = W1 at *
  clear c2 c5 Hx0 wi wq w8 w4 wE hrem hnz
  have c0 := (HR.out.fr HF1.out (by simp) (by simp)).c0
  go_wp2_with fail
  refine (H1.out W1 HF1.out).mono ?_
  rintro e w2 ⟨rfl, hF2⟩
  have HF2 := hid (HF1.out.trans0 hF2)
  have Hx2 := hid (hF2.heap Hx1.out (by simp))
  clear hF2 HF1 Hx1 c0
  have c0 := (HR.out.fr HF2.out (by simp) (by simp)).c0
  go_wp2_with fail
  refine (H2.out w2 HF2.out).mono ?_
  rintro e w3 ⟨rfl, hF3⟩
  have HF3 := hid (HF2.out.trans0 hF3)
  have Hx3 := hid (hF3.heap Hx2.out (by simp))
  clear hF3 HF2 Hx2 c0
  have c3 := (HR.out.fr HF3.out (by simp) (by simp)).c3
  have f0 := frozen_of_heap (o := 0) Hx3.out
  by_cases hex : ∃ ps c qs, cs = ps ++ c :: qs ∧ c.h = hh
  · obtain ⟨ps, c, qs, hcs, hch⟩ := hex
    have hps : ∀ a ∈ ps, a.h ≠ c.h := fun a ha e => by
      have := HH.out.hds
      rw [hcs, List.map_append, List.nodup_append] at this
      exact this.2.2 a.h (List.mem_map.2 ⟨a, ha, rfl⟩) c.h (by simp) e
    have hL := look_yes (hcs ▸ HC.out w3 HF3.out) hps true
    have hcm : c ∈ cs := by rw [hcs]; simp
    have HCA := hid (HH.out.chs c hcm)
    obtain ⟨b, cap, x, y1, y2, y3, y4, y5⟩ := (HH.out.chs c hcm).bufs
    obtain ⟨g, gcap, z1, z2⟩ := (HH.out.chs c hcm).dscs
    rw [y1, z1, hch] at hL
    simp only [if_true] at hL
    have HX := hid (fun W (hF : Fr [] w W) => y4.fr hF (show b ∉ [] by simp))
    have hx8 := (HH.out.chs c hcm).n8
    have Hxb := hid (show ∀ x, x ∈ c.xs → x.L ≤ 1048576 from fun x hx => by have := HH.out.inn c hcm x hx; have := HH.out.top; omega)
    have HD := hid (fun a (ha : a ∈ cs) (e : a.h = H) (hlt : H < 65536) => (show a = c from by
      have he : a.h = c.h := by rw [hch, e, hhh]; omega
      have hnd := HH.out.hds
      have : ∀ (l : List Ch), (l.map Ch.h).Nodup → a ∈ l → c ∈ l → a.h = c.h → a = c := by
        intro l
        induction l with
        | nil => intro _ h; cases h
        | cons z zs ih =>
          intro h1 h2 h3 h4
          rw [List.map_cons, List.nodup_cons] at h1
          rcases List.mem_cons.1 h2 with rfl | h2
          · rcases List.mem_cons.1 h3 with h3 | h3
            · exact h3.symm
            · exact absurd (List.mem_map.2 ⟨c, h3, h4.symm⟩) h1.1
          · rcases List.mem_cons.1 h3 with h3 | h3
            · exact absurd (List.mem_map.2 ⟨a, h2, by rw [h4, h3]⟩) h1.1
            · exact ih h1.2 h2 h3 h4
      exact this cs hnd ha hcm he))
    have HE := hid (And.intro hcs (And.intro hch (And.intro hcm hhh)))
    clear y1 y2 y3 y4 y5 z1 z2 hps hcm HCA hcs
    generalize hxs : c.xs = xs at *
    have Hxs := hid hxs
    clear hxs
    generalize c.ds.length = dn at *
    by_cases hH6 : H < 65536
    · obtain rfl : hh = H := by omega
      have HH6 := hid hH6
      clear hhh hH6
      have F4 : Fr [] w (w3.alloc (.cells #[.slice (some ⟨b, 0, none⟩) xs.length cap, .slice (some ⟨g, 0, none⟩) dn gcap] 91)) := HF3.out.alloc _
      have HF4 := hid (And.intro F4 (((Fr.refl [] w3).alloc (.cells #[.slice (some ⟨b, 0, none⟩) xs.length cap, .slice (some ⟨g, 0, none⟩) dn gcap] 91)).heap Hx3.out (by simp)))
      clear F4
      go_wp2_with fail
      refine (room_any b cap dn gcap (some ⟨g, 0, none⟩) xs _ (HX.out _ HF4.out.1) hx8 Hxb.out).mono ?_
      rintro e w5 ⟨rfl, hF5⟩
      have hx5 := hF5.heap HF4.out.2 (by simp)
      have HF5 := hid (HF4.out.1.trans0 hF5)
      have g0 : w5.cell? ⟨n0, 0, none⟩ = some (.int .u16 0) := cell_of_heap (o := 0) hx5 rfl
      have g1 : w5.cell? ⟨n0, 1, none⟩ = some (.int .u32 0) := cell_of_heap (o := 1) hx5 rfl
      have k0 := frozen_of_heap (o := 0) hx5
      have k1 := frozen_of_heap (o := 1) hx5
      clear HF4 hF5 hx5 hL c3 f0
      generalize hRm : roomB xs = R at *
      have HRm := hid hRm
      clear hRm
      by_cases hnR : R < n
      · have e1 : decide ((R : Int) < (n : Int)) = true := by simp; omega
        have s0 : (w5.setCell ⟨n0, 0, none⟩ (.int .u16 0)).cell? ⟨n0, 0, none⟩ = some (.int .u16 0) := (two_cells (v1 := .bool true) g0 g1).1
        have s1 : ((w5.setCell ⟨n0, 0, none⟩ (.int .u16 0)).setCell ⟨n0, 1, none⟩ (.int .u32 0)).cell? ⟨n0, 1, none⟩ = some (.int .u32 0) := (two_cells g0 g1).2
        go_wp2
        try simp only [Exit.inBlock, Exit.then]
        refine bodyPost_ret (by simp [results, Try.results42, go_sem, s0, s1]; try rfl) rfl ?_
        refine ⟨.inl ⟨rfl, fun a ha ⟨q1, q2⟩ => ?_⟩, (HF5.out.setCell (.inr Hn0.out) _).setCell (.inr Hn0.out) _⟩
        obtain rfl := HD.out a ha q1 HH6.out
        rw [Hxs.out, HRm.out] at q2
        omega
      · have e1 : decide ((R : Int) < (n : Int)) = false := by simp; omega
        have s0 : (w5.setCell ⟨n0, 0, none⟩ (.int .u16 (hh : Nat))).cell? ⟨n0, 0, none⟩ = some (.int .u16 (hh : Nat)) := (two_cells (v1 := .bool true) g0 g1).1
        have s1 : ((w5.setCell ⟨n0, 0, none⟩ (.int .u16 (hh : Nat))).setCell ⟨n0, 1, none⟩ (.int .u32 (n : Nat))).cell? ⟨n0, 1, none⟩ = some (.int .u32 (n : Nat)) := (two_cells g0 g1).2
        go_wp2
        try simp only [Exit.inBlock, Exit.then]
        refine bodyPost_ret (by simp [results, Try.results42, go_sem, s0, s1]; try rfl) rfl ?_
        refine ⟨.inr ⟨ps, c, qs, HE.out.1, HE.out.2.1, ?_, ?_⟩, (HF5.out.setCell (.inr Hn0.out) _).setCell (.inr Hn0.out) _⟩
        · rw [Hxs.out, HRm.out]; omega
        · rw [HE.out.2.1]
    · have e1 : ((H : Int) == (hh : Int)) = false := by simp; omega
      have e2 : ¬ ((H : Int) = (hh : Int)) := by omega
      have e3 : ¬ (H = hh) := by omega
      have HH6 := hid hH6
      clear hhh hH6
      have hx4 : (w3.alloc (.cells #[.slice (some ⟨b, 0, none⟩) xs.length cap, .slice (some ⟨g, 0, none⟩) dn gcap] 91)).heap[n0]? = some (.cells #[.int .u16 0, .int .u32 0] 43) := ((Fr.refl [] w3).alloc _).heap Hx3.out (by simp)
      have F4 : Fr [] w (w3.alloc (.cells #[.slice (some ⟨b, 0, none⟩) xs.length cap, .slice (some ⟨g, 0, none⟩) dn gcap] 91)) := HF3.out.alloc _
      have g0 : World.cell? _ _ = some (.int .u16 0) := cell_of_heap (o := 0) hx4 rfl
      have g1 : World.cell? _ _ = some (.int .u32 0) := cell_of_heap (o := 1) hx4 rfl
      have k0 := frozen_of_heap (o := 0) hx4
      have k1 := frozen_of_heap (o := 1) hx4
      have s0 : ((w3.alloc (.cells #[.slice (some ⟨b, 0, none⟩) xs.length cap, .slice (some ⟨g, 0, none⟩) dn gcap] 91)).setCell ⟨n0, 0, none⟩ (.int .u16 0)).cell? ⟨n0, 0, none⟩ = some (.int .u16 0) := (two_cells (v1 := .bool true) g0 g1).1
      have s1 : (((w3.alloc (.cells #[.slice (some ⟨b, 0, none⟩) xs.length cap, .slice (some ⟨g, 0, none⟩) dn gcap] 91)).setCell ⟨n0, 0, none⟩ (.int .u16 0)).setCell ⟨n0, 1, none⟩ (.int .u32 0)).cell? ⟨n0, 1, none⟩ = some (.int .u32 0) := (two_cells g0 g1).2
      have HF4 := hid F4
      clear hx4 F4
      go_wp2
      try simp only [Exit.inBlock, Exit.then]
      refine bodyPost_ret (by simp [results, Try.results42, go_sem, s0, s1]; try rfl) rfl ?_
      refine ⟨.inl ⟨rfl, fun a ha ⟨q1, _⟩ => ?_⟩, (HF4.out.setCell (.inr Hn0.out) _).setCell (.inr Hn0.out) _⟩
      have g := HH.out.chs a ha
      have g2 := HH.out.dlt a.h (List.mem_flatMap.2 ⟨a, ha, List.mem_of_getElem? g.hd⟩)
      have g3 : N ≤ 256 := by have := HH.out.pow; unfold Pow at this; omega
      have := HH6.out
      omega
  · have hno : ∀ c ∈ cs, c.h ≠ hh := fun c hc e => by
      obtain ⟨ps, qs, hcs⟩ := List.append_of_mem hc
      exact hex ⟨ps, c, qs, hcs, e⟩
    have hL := look_no (HC.out w3 HF3.out) hh hno
    have Hno := hid (And.intro hno hhh)
    clear hno hex hhh
    have hx4 : (w3.alloc (.cells #[.slice none 0 0, .slice none 0 0] 91)).heap[n0]? = some (.cells #[.int .u16 0, .int .u32 0] 43) := ((Fr.refl [] w3).alloc _).heap Hx3.out (by simp)
    have F4 : Fr [] w (w3.alloc (.cells #[.slice none 0 0, .slice none 0 0] 91)) := HF3.out.alloc _
    have g0 : World.cell? _ _ = some (.int .u16 0) := cell_of_heap (o := 0) hx4 rfl
    have g1 : World.cell? _ _ = some (.int .u32 0) := cell_of_heap (o := 1) hx4 rfl
    have k0 := frozen_of_heap (o := 0) hx4
    have k1 := frozen_of_heap (o := 1) hx4
    have s0 : ((w3.alloc (.cells #[.slice none 0 0, .slice none 0 0] 91)).setCell ⟨n0, 0, none⟩ (.int .u16 0)).cell? ⟨n0, 0, none⟩ = some (.int .u16 0) := (two_cells (v1 := .bool true) g0 g1).1
    have s1 : (((w3.alloc (.cells #[.slice none 0 0, .slice none 0 0] 91)).setCell ⟨n0, 0, none⟩ (.int .u16 0)).setCell ⟨n0, 1, none⟩ (.int .u32 0)).cell? ⟨n0, 1, none⟩ = some (.int .u32 0) := (two_cells g0 g1).2
    have HF4 := hid F4
    clear hx4 F4
    go_wp2
    try simp only [Exit.inBlock, Exit.then]
    refine bodyPost_ret (by simp [results, Try.results42, go_sem, s0, s1]; try rfl) rfl ?_
    refine ⟨.inl ⟨rfl, fun a ha ⟨q1, _⟩ => ?_⟩, (HF4.out.setCell (.inr Hn0.out) _).setCell (.inr Hn0.out) _⟩
    have g := HH.out.chs a ha
    have g2 := HH.out.dlt a.h (List.mem_flatMap.2 ⟨a, ha, List.mem_of_getElem? g.hd⟩)
    have g3 : N ≤ 256 := by have := HH.out.pow; unfold Pow at this; omega
    refine Hno.out.1 a ha ?_
    have := Hno.out.2
    omega
end Go.Proofs.Ytfiaciniikcacaa
