/-
  The walks of the small functions of package ring: is there one, how many descriptors, where its parts stand, how many bytes it has. No statement is proved here.
-/
import Derived.Test.YtfiaciniikcacaaNums
import Derived.Test.YtfiaciniikcacaaWorks
namespace Go.Proofs.Ytfiaciniikcacaa
open Go.RowKit Go.BigFrame
set_option linter.unusedVariables false
set_option linter.unusedSimpArgs false
set_option maxRecDepth 1000000
set_option maxHeartbeats 4000000

/-- The fields of a ring: its memory, its place, its descriptors, its map of chains, both counts, and whether it is broken. -/
structure RingF (w : World) (bR bM at_ bT N bC idx pol : Nat) (brk : Bool) (tk : List Bool) : Prop where
  blk : w.heap[bR]? = some (.cells #[.pointer (some ⟨bM, 0, none⟩), .int .u32 (at_ : Nat), .slice (some ⟨bT, 0, none⟩) N N, .map (some bC), .int .u16 (idx : Nat), .int .u16 (pol : Nat), .bool brk] 80)
  tak : w.heap[bT]? = some (.cells (tk.map Value.bool).toArray 4)
  len : tk.length = N
theorem RingF.c0 {w : World} {bR bM at_ bT N bC idx pol : Nat} {brk : Bool} {tk : List Bool} (h : RingF w bR bM at_ bT N bC idx pol brk tk) : w.cell? ⟨bR, 0, none⟩ = some (.pointer (some ⟨bM, 0, none⟩)) := cell_of_heap h.blk rfl
theorem RingF.c1 {w : World} {bR bM at_ bT N bC idx pol : Nat} {brk : Bool} {tk : List Bool} (h : RingF w bR bM at_ bT N bC idx pol brk tk) : w.cell? ⟨bR, 1, none⟩ = some (.int .u32 (at_ : Nat)) := cell_of_heap h.blk rfl
theorem RingF.c2 {w : World} {bR bM at_ bT N bC idx pol : Nat} {brk : Bool} {tk : List Bool} (h : RingF w bR bM at_ bT N bC idx pol brk tk) : w.cell? ⟨bR, 2, none⟩ = some (.slice (some ⟨bT, 0, none⟩) N N) := cell_of_heap h.blk rfl
theorem RingF.c3 {w : World} {bR bM at_ bT N bC idx pol : Nat} {brk : Bool} {tk : List Bool} (h : RingF w bR bM at_ bT N bC idx pol brk tk) : w.cell? ⟨bR, 3, none⟩ = some (.map (some bC)) := cell_of_heap h.blk rfl
theorem RingF.c4 {w : World} {bR bM at_ bT N bC idx pol : Nat} {brk : Bool} {tk : List Bool} (h : RingF w bR bM at_ bT N bC idx pol brk tk) : w.cell? ⟨bR, 4, none⟩ = some (.int .u16 (idx : Nat)) := cell_of_heap h.blk rfl
theorem RingF.c5 {w : World} {bR bM at_ bT N bC idx pol : Nat} {brk : Bool} {tk : List Bool} (h : RingF w bR bM at_ bT N bC idx pol brk tk) : w.cell? ⟨bR, 5, none⟩ = some (.int .u16 (pol : Nat)) := cell_of_heap h.blk rfl
theorem RingF.c6 {w : World} {bR bM at_ bT N bC idx pol : Nat} {brk : Bool} {tk : List Bool} (h : RingF w bR bM at_ bT N bC idx pol brk tk) : w.cell? ⟨bR, 6, none⟩ = some (.bool brk) := cell_of_heap h.blk rfl
theorem RingF.fr {S : List Nat} {w w' : World} {bR bM at_ bT N bC idx pol : Nat} {brk : Bool} {tk : List Bool} (h : RingF w bR bM at_ bT N bC idx pol brk tk) (hF : Fr S w w') (h1 : bR ∉ S) (h2 : bT ∉ S) : RingF w' bR bM at_ bT N bC idx pol brk tk := ⟨hF.heap h.blk h1, hF.heap h.tak h2, h.len⟩

theorem rnone_nil (w : World) : Calls Try.prog 34 #[.pointer none] w fun e w' => e = .returned (.bool true) ∧ w' = w := by
  go_enter Try.func34, Try.ntmps34
  go_wp2
  go_ret
  exact ⟨rfl, rfl⟩
theorem rnone_ring (bR bM : Nat) (w : World) (c0 : w.cell? ⟨bR, 0, none⟩ = some (.pointer (some ⟨bM, 0, none⟩))) : Calls Try.prog 34 #[.pointer (some ⟨bR, 0, none⟩)] w fun e w' => e = .returned (.bool false) ∧ w' = w := by
  go_enter Try.func34, Try.ntmps34
  go_wp2
  go_ret
  exact ⟨rfl, rfl⟩
theorem rsize_any (bR bT N : Nat) (w : World) (c2 : w.cell? ⟨bR, 2, none⟩ = some (.slice (some ⟨bT, 0, none⟩) N N)) : Calls Try.prog 48 #[.pointer (some ⟨bR, 0, none⟩)] w fun e w' => e = .returned (.int .i64 N) ∧ w' = w := by
  go_enter Try.func48, Try.ntmps48
  go_wp2
  go_ret
  exact ⟨rfl, rfl⟩
theorem availAt_any (N : Nat) (h : N ≤ 256) (w : World) : Calls Try.prog 49 #[.int .i64 N] w fun e w' => e = .returned (.int .i64 (16 * N : Nat)) ∧ w' = w := by
  go_enter Try.func49, Try.ntmps49
  go_wp2
  go_ret
  exact ⟨by simp, rfl⟩
/-- How far behind its beginning the used part stands. -/
def uAt (N : Nat) : Nat := (16 * N + 6 + 2 * N + 3) / 4 * 4
theorem usedAt_any (N : Nat) (h : N ≤ 256) (w : World) : Calls Try.prog 33 #[.int .i64 N] w fun e w' => e = .returned (.int .i64 (uAt N : Nat)) ∧ w' = w := by
  go_enter Try.func33, Try.ntmps33
  go_wp2_with (go_at_call 49; refine (availAt_any N h _).mono ?_; rintro e w' ⟨rfl, hw⟩; subst hw)
  go_ret
  exact ⟨by unfold uAt; congr 2, rfl⟩
/-- How many bytes a ring has. -/
def rSize (N : Nat) : Nat := uAt N + 6 + 8 * N

/-- A size that may be. -/
def Pow (N : Nat) : Prop := N = 1 ∨ N = 2 ∨ N = 4 ∨ N = 8 ∨ N = 16 ∨ N = 32 ∨ N = 64 ∨ N = 128 ∨ N = 256
theorem Size_pow (N : Nat) (h : Pow N) (w : World) : Calls Try.prog 29 #[.int .i64 N] w fun e w' => e = .returned (.int .i64 (rSize N : Nat)) ∧ w' = w := by
  have hN : N ≤ 256 := by unfold Pow at h; omega
  have H := hid (usedAt_any N hN)
  have hu : uAt N ≤ 4616 := by unfold uAt; omega
  unfold rSize
  generalize uAt N = U at *
  rcases h with rfl | rfl | rfl | rfl | rfl | rfl | rfl | rfl | rfl
  all_goals
    go_enter Try.func29, Try.ntmps29
    go_wp2_with (go_at_call 33; refine (H.out _).mono ?_; rintro e w' ⟨rfl, hw⟩; subst hw)
    go_ret
    exact ⟨by simp, rfl⟩
theorem Avail_any (bR bM at_ bT N bC idx pol : Nat) (brk : Bool) (tk : List Bool) (w : World) (hR : RingF w bR bM at_ bT N bC idx pol brk tk) (hN : N ≤ 256) (hat : at_ ≤ 1048576) :
    Calls Try.prog 25 #[.pointer (some ⟨bR, 0, none⟩)] w fun e w' => e = .returned (.int .u32 (at_ + 16 * N : Nat)) ∧ ∃ d, w' = w.drewN d := by
  have c0 := hR.c0
  have c1 := hR.c1
  have c2 := hR.c2
  clear hR
  obtain ⟨T, hT⟩ : ∃ T, T = 16 * N := ⟨_, rfl⟩
  have HA := hid (fun W => hT ▸ availAt_any N hN W)
  have hTb : T ≤ 4096 := by omega
  rw [← hT]
  clear hT
  have wu : IntKind.u32.wrap (T : Int) = T := by rw [IntKind.wrap_u32]; omega
  have wa : IntKind.u32.wrap ((at_ : Int) + (T : Int)) = ((at_ + T : Nat) : Int) := by rw [IntKind.wrap_u32]; omega
  go_enter Try.func25, Try.ntmps25
  go_wp2_with (first | (go_at_call 34; refine (rnone_ring bR bM _ c0).mono ?_; rintro e w' ⟨rfl, hw⟩; subst hw))
  go_quiet (first | exact Calls.quiet_of_same (rsize_any bR bT N _ c2) | exact Calls.quiet_of_same (HA.out _))
  go_wp2
  go_ret
  exact ⟨by simp, nq, rfl⟩
theorem Used_any (bR bM at_ bT N bC idx pol : Nat) (brk : Bool) (tk : List Bool) (w : World) (hR : RingF w bR bM at_ bT N bC idx pol brk tk) (hN : N ≤ 256) (hat : at_ ≤ 1048576) :
    Calls Try.prog 19 #[.pointer (some ⟨bR, 0, none⟩)] w fun e w' => e = .returned (.int .u32 (at_ + uAt N : Nat)) ∧ ∃ d, w' = w.drewN d := by
  have c0 := hR.c0
  have c1 := hR.c1
  have c2 := hR.c2
  clear hR
  obtain ⟨T, hT⟩ : ∃ T, T = uAt N := ⟨_, rfl⟩
  have HA := hid (fun W => hT ▸ usedAt_any N hN W)
  have hTb : T ≤ 8192 := by rw [hT]; unfold uAt; omega
  rw [← hT]
  clear hT
  have wu : IntKind.u32.wrap (T : Int) = T := by rw [IntKind.wrap_u32]; omega
  have wa : IntKind.u32.wrap ((at_ : Int) + (T : Int)) = ((at_ + T : Nat) : Int) := by rw [IntKind.wrap_u32]; omega
  go_enter Try.func19, Try.ntmps19
  go_wp2_with (first | (go_at_call 34; refine (rnone_ring bR bM _ c0).mono ?_; rintro e w' ⟨rfl, hw⟩; subst hw))
  go_quiet (first | exact Calls.quiet_of_same (rsize_any bR bT N _ c2) | exact Calls.quiet_of_same (HA.out _))
  go_wp2
  go_ret
  exact ⟨by simp, nq, rfl⟩
theorem desc_any (bR bM at_ bT N bC idx pol k : Nat) (brk : Bool) (tk : List Bool) (w : World) (hR : RingF w bR bM at_ bT N bC idx pol brk tk) (hk : k < 65536) (hat : at_ ≤ 1048576) :
    Calls Try.prog 57 #[.pointer (some ⟨bR, 0, none⟩), .int .u16 k] w fun e w' => e = .returned (.int .u32 (at_ + 16 * k : Nat)) ∧ w' = w := by
  have c1 := hR.c1
  clear hR
  go_enter Try.func57, Try.ntmps57
  go_wp2
  go_ret
  exact ⟨by simp, rfl⟩
theorem slot_any (bR bM at_ bT N bC idx pol : Nat) (brk : Bool) (tk : List Bool) (w : World) (hR : RingF w bR bM at_ bT N bC idx pol brk tk) (hN1 : 1 ≤ N) (hN : N ≤ 256) (hat : at_ ≤ 1048576) (hi : idx < 65536) :
    Calls Try.prog 56 #[.pointer (some ⟨bR, 0, none⟩)] w fun e w' => e = .returned (.int .u32 (at_ + 16 * N + 4 + 2 * (idx % N) : Nat)) ∧ ∃ d, w' = w.drewN d := by
  have HR := hid hR
  have c2 := hR.c2
  have c4 := hR.c4
  clear hR
  obtain ⟨T, hT⟩ : ∃ T, T = at_ + 16 * N := ⟨_, rfl⟩
  obtain ⟨q, hq⟩ : ∃ q, q = idx % N := ⟨_, rfl⟩
  have hqb : q < 256 := by have := Nat.mod_lt idx (show 0 < N by omega); omega
  have hrem : (idx : Int) % (N : Int) = (q : Int) := by rw [hq, Int.natCast_emod]
  have HA := hid (fun (d : Nat) => hT ▸ Avail_any bR bM at_ bT N bC idx pol brk tk (w.drewN d) (HR.out.fr ((Fr.refl [] w).drewN d) (by simp) (by simp)) hN hat)
  have hTb : T ≤ 1052672 := by omega
  rw [← hT, ← hq]
  clear hT hq
  have hnz : ¬ (N : Int) = 0 := by omega
  have wi : IntKind.i64.wrap (idx : Int) = idx := by rw [IntKind.wrap_i64]; omega
  have wq : IntKind.u32.wrap (q : Int) = q := by rw [IntKind.wrap_u32]; omega
  have w2 : IntKind.u32.wrap (2 * (q : Int)) = 2 * (q : Int) := by rw [IntKind.wrap_u32]; omega
  have w4 : IntKind.u32.wrap ((T : Int) + 4) = (T : Int) + 4 := by rw [IntKind.wrap_u32]; omega
  have w6 : IntKind.u32.wrap ((T : Int) + 4 + 2 * (q : Int)) = (T : Int) + 4 + 2 * (q : Int) := by rw [IntKind.wrap_u32]; omega
  go_enter Try.func56, Try.ntmps56
  go_wp2_with fail
  go_quiet (first | exact Calls.quiet_of_same (rsize_any bR bT N _ c2) | exact Calls.quiet_of (HA.out _))
  go_wp2
  go_ret
  exact ⟨by simp, nq, rfl⟩
end Go.Proofs.Ytfiaciniikcacaa
