/-
  The walks of what Add of package ring asks of buffers: are they in memory. No statement is proved here.
-/
import Derived.Test.YtfiaciniikcacaaRing3
namespace Go.Proofs.Ytfiaciniikcacaa
open Go.RowKit Go.BigFrame
set_option linter.unusedVariables false
set_option linter.unusedSimpArgs false
set_option maxRecDepth 1000000
set_option maxHeartbeats 4000000

/-- Do all buffers end within k bytes? -/
def inB (k : Nat) (xs : List Bf) : Bool := xs.all fun x => decide (x.A + x.L ≤ k)
theorem holds_ring (bR bM bm bb k at_ bT N bC idx pol : Nat) (brk : Bool) (tk : List Bool) (lv : Value) (l : List (Nat × Nat)) (bs : List UInt8) (v : Value) (xs : List Bf) (w : World) (hR : RingF w bR bM at_ bT N bC idx pol brk tk) (hM : MemA w bM bm bb k lv l bs) (hB : Bufs w v xs) :
    Calls Try.prog 36 #[.pointer (some ⟨bR, 0, none⟩), v] w fun e w' => e = .returned (.bool (inB k xs)) ∧ Fr [] w w' := by
  rcases hB with ⟨p, c, rfl, rfl⟩ | ⟨b, o, cap, rfl, hm, hB⟩
  · clear hR hM
    go_enter Try.func36, Try.ntmps36
    go_wp2
    refine wp_loop_rounds 1 ?_
    rw [rounds_succ]; go_wp2
    go_ret
    exact ⟨rfl, Fr.refl _ _⟩
  · unfold maxLen at hm
    have HB := hid hB
    have HM := hid hM
    have hk := hM.mid.top
    have c0 := hR.c0
    clear hB hM hR
    go_enter Try.func36, Try.ntmps36
    go_wp2_with fail
    go_loopg [9] xs.length (fun gk q wr => ∃ i : Nat, i ≤ xs.length ∧ gk = xs.length - i ∧ q = .int .i64 i ∧ Hid (inB k xs = inB k (xs.drop i) ∧ Fr [] w wr))
    case atStart => exact ⟨0, Nat.zero_le _, rfl, rfl, hid ⟨rfl, Fr.refl _ _⟩⟩
    case round =>
      obtain ⟨i, hi, hgk, rfl, K0⟩ := hrel
      by_cases hlt : i < xs.length
      · have hlt' : (i : Int) < (xs.length : Int) := by omega
        have r := (HB.out i hlt).fr K0.out.2 (by simp)
        have r0 := r.c0
        have r1 := r.c1
        have r2 := r.c2
        have rA := r.hA
        have rL := r.hL
        have c0' := K0.out.2.cell c0 (by simp)
        have HG := hid (show inB k (xs.drop i) = (decide (xs[i].A + xs[i].L ≤ k) && inB k (xs.drop (i + 1))) by rw [List.drop_eq_getElem_cons hlt]; rfl)
        clear r
        generalize xs[i] = x at *
        obtain ⟨xA, xL, xI⟩ := x
        simp only at *
        have wA : IntKind.u64.wrap (xA : Int) = xA := wraps_u64 _ (by omega) (by omega)
        have wL : IntKind.u64.wrap (xL : Int) = xL := wraps_u64 _ (by omega) (by omega)
        have wS : IntKind.u64.wrap ((xA : Int) + (xL : Int)) = (xA : Int) + (xL : Int) := wraps_u64 _ (by omega) (by omega)
        have wK : IntKind.u64.wrap (k : Int) = k := wraps_u64 _ (by omega) (by omega)
        by_cases hL : xA + xL ≤ k
        · have e1 : decide ((k : Int) < (xA : Int) + (xL : Int)) = false := by simp; omega
          have HN := hid (show inB k xs = inB k (xs.drop (i + 1)) by rw [K0.out.1, HG.out, decide_eq_true hL]; rfl)
          clear HG
          go_wp2_with fail
          have hx := heap_alloc_new wr (.cells #[.int .u32 (xA : Nat), .int .u32 (xL : Nat), .bool xI] 59)
          have b0 := cell_of_heap (o := 0) hx rfl
          have b1 := cell_of_heap (o := 1) hx rfl
          have F1 : Fr [] wr (wr.alloc (.cells #[.int .u32 (xA : Nat), .int .u32 (xL : Nat), .bool xI] 59)) := (Fr.refl _ _).alloc _
          have c0'' := F1.cell c0' (by simp)
          generalize wr.alloc (.cells #[.int .u32 (xA : Nat), .int .u32 (xL : Nat), .bool xI] 59) = W1 at *
          have HZ1 := hid (fun (d : Nat) => msize_mem bM bm bb k lv l bs (W1.drewN d) (HM.out.fr0 ((K0.out.2.trans0 F1).drewN d)))
          have HF1 := hid (K0.out.2.trans0 F1)
          clear hx F1 r0 r1 r2 c0'
          go_quiet (exact Calls.quiet_of_same (HZ1.out _))
          go_wp2
          go_roundg (xs.length - (i + 1))
          case measure => omega
          case rel => exact ⟨i + 1, by omega, rfl, by go_num, hid ⟨HN.out, HF1.out.drewN _⟩⟩
        · have e1 : decide ((k : Int) < (xA : Int) + (xL : Int)) = true := by simp; omega
          have HN := hid (show inB k xs = false by rw [K0.out.1, HG.out, decide_eq_false hL]; rfl)
          clear HG
          go_wp2_with fail
          have hx := heap_alloc_new wr (.cells #[.int .u32 (xA : Nat), .int .u32 (xL : Nat), .bool xI] 59)
          have b0 := cell_of_heap (o := 0) hx rfl
          have b1 := cell_of_heap (o := 1) hx rfl
          have F1 : Fr [] wr (wr.alloc (.cells #[.int .u32 (xA : Nat), .int .u32 (xL : Nat), .bool xI] 59)) := (Fr.refl _ _).alloc _
          have c0'' := F1.cell c0' (by simp)
          generalize wr.alloc (.cells #[.int .u32 (xA : Nat), .int .u32 (xL : Nat), .bool xI] 59) = W1 at *
          have HZ1 := hid (fun (d : Nat) => msize_mem bM bm bb k lv l bs (W1.drewN d) (HM.out.fr0 ((K0.out.2.trans0 F1).drewN d)))
          have HF1 := hid (K0.out.2.trans0 F1)
          clear hx F1 r0 r1 r2 c0'
          go_quiet (exact Calls.quiet_of_same (HZ1.out _))
          go_wp2
          go_ret
          exact ⟨by rw [HN.out]; rfl, HF1.out.drewN _⟩
      · obtain rfl : i = xs.length := by omega
        go_wp2
        go_ret
        exact ⟨by rw [K0.out.1]; simp [inB], K0.out.2⟩
end Go.Proofs.Ytfiaciniikcacaa
