/-
  The walks of what Add of package ring asks of buffers: may they be a chain. No statement is proved here.
-/
import Derived.Test.YtfiaciniikcacaaRing2
namespace Go.Proofs.Ytfiaciniikcacaa
open Go.RowKit Go.BigFrame
set_option linter.unusedVariables false
set_option linter.unusedSimpArgs false
set_option maxRecDepth 1000000
set_option maxHeartbeats 4000000

/-- A buffer: its place, its length, does the device write it? -/
structure Bf where
  A : Nat
  L : Nat
  I : Bool
structure BufAt (w : World) (b o : Nat) (x : Bf) : Prop where
  c0 : w.cell? ⟨b, o, none⟩ = some (.int .u32 (x.A : Nat))
  c1 : w.cell? ⟨b, o + 1, none⟩ = some (.int .u32 (x.L : Nat))
  c2 : w.cell? ⟨b, o + 2, none⟩ = some (.bool x.I)
  hA : x.A < 4294967296
  hL : x.L < 4294967296
theorem BufAt.fr {S : List Nat} {w w' : World} {b o : Nat} {x : Bf} (h : BufAt w b o x) (hF : Fr S w w') (hb : b ∉ S) : BufAt w' b o x := ⟨hF.cell h.c0 hb, hF.cell h.c1 hb, hF.cell h.c2 hb, h.hA, h.hL⟩
/-- The buffers that a slice holds. -/
def Bufs (w : World) (v : Value) (xs : List Bf) : Prop :=
  (∃ p c, v = .slice p 0 c ∧ xs = []) ∨ ∃ b o cap, v = .slice (some ⟨b, o, none⟩) xs.length cap ∧ xs.length ≤ maxLen ∧ ∀ i (h : i < xs.length), BufAt w b (o + i * 3) xs[i]
/-- Does a row of buffers go on, behind one that is In or not? -/
def goB : Bool → List Bf → Bool
  | _, [] => true
  | n, x :: xs => !(decide (x.L < 1) || (n && !x.I)) && goB x.I xs
def mayB (xs : List Bf) : Bool := decide (1 ≤ xs.length ∧ xs.length ≤ 8) && goB false xs

theorem mayBe_any (v : Value) (xs : List Bf) (w : World) (hB : Bufs w v xs) : Calls Try.prog 35 #[v] w fun e w' => e = .returned (.bool (mayB xs)) ∧ Fr [] w w' := by
  rcases hB with ⟨p, c, rfl, rfl⟩ | ⟨b, o, cap, rfl, hm, hB⟩
  · go_enter Try.func35, Try.ntmps35
    go_wp2
    go_ret
    exact ⟨rfl, Fr.refl _ _⟩
  · unfold maxLen at hm
    by_cases h1 : 1 ≤ xs.length ∧ xs.length ≤ 8
    · have d1 : decide ((xs.length : Int) < 1) = false := by simp; omega
      have d2 : decide ((8 : Int) < (xs.length : Int)) = false := by simp; omega
      have HE := hid (show mayB xs = goB false xs by unfold mayB; simp [h1])
      have HB := hid hB
      clear hB
      go_enter Try.func35, Try.ntmps35
      go_wp2_with fail
      go_loopg [3, 16] xs.length (fun gk s q wr => ∃ (i : Nat) (n : Bool), i ≤ xs.length ∧ gk = xs.length - i ∧ q = .int .i64 i ∧ s = .bool n ∧ Hid (goB false xs = goB n (xs.drop i) ∧ Fr [] w wr))
      case atStart => exact ⟨0, false, Nat.zero_le _, rfl, rfl, rfl, hid ⟨rfl, Fr.refl _ _⟩⟩
      case round =>
        obtain ⟨i, n, hi, hgk, rfl, rfl, K0⟩ := hrel
        by_cases hlt : i < xs.length
        · have hlt' : (i : Int) < (xs.length : Int) := by omega
          have r := (HB.out i hlt).fr K0.out.2 (by simp)
          have r0 := r.c0
          have r1 := r.c1
          have r2 := r.c2
          have rL := r.hL
          have HG := hid (show goB n (xs.drop i) = (!(decide (xs[i].L < 1) || (n && !xs[i].I)) && goB xs[i].I (xs.drop (i + 1))) by rw [List.drop_eq_getElem_cons hlt]; rfl)
          clear r
          generalize xs[i] = x at *
          obtain ⟨xA, xL, xI⟩ := x
          simp only at *
          by_cases hL : xL < 1
          · have e1 : decide ((xL : Int) < 1) = true := by simp; omega
            have e2 : decide (xL < 1) = true := by simp; omega
            go_wp2
            go_ret
            exact ⟨by rw [HE.out, K0.out.1, HG.out, e2]; rfl, K0.out.2.alloc _⟩
          · have e1 : decide ((xL : Int) < 1) = false := by simp; omega
            have e2 : decide (xL < 1) = false := by simp; omega
            have HL := hid e2
            clear e2
            by_cases hq : n = true ∧ xI = false
            · obtain ⟨rfl, rfl⟩ := hq
              go_wp2
              go_ret
              exact ⟨by rw [HE.out, K0.out.1, HG.out]; simp, K0.out.2.alloc _⟩
            · have HQ := hid (show (n && !xI) = false by cases n <;> cases xI <;> simp_all)
              have HN := hid (show goB false xs = goB xI (xs.drop (i + 1)) by rw [K0.out.1, HG.out, HL.out, HQ.out]; rfl)
              have hqb : (!n || xI) = true := by cases n <;> cases xI <;> simp_all
              cases n <;> cases xI
              all_goals first
                | exact absurd ⟨rfl, rfl⟩ hq
                | (clear hq hqb HG
                   go_wp2
                   go_roundg (xs.length - (i + 1))
                   case measure => omega
                   case rel => exact ⟨i + 1, _, by omega, rfl, by go_num, rfl, hid ⟨HN.out, K0.out.2.alloc _⟩⟩)
        · obtain rfl : i = xs.length := by omega
          go_wp2
          go_ret
          exact ⟨by rw [HE.out, K0.out.1]; simp [goB], K0.out.2⟩
    · have HE := hid (show mayB xs = false by unfold mayB; simp only [h1, decide_false, Bool.false_and])
      clear hB
      by_cases h2 : xs.length < 1
      · have d1 : decide ((xs.length : Int) < 1) = true := by simp; omega
        go_enter Try.func35, Try.ntmps35
        go_wp2
        go_ret
        exact ⟨by rw [HE.out]; rfl, Fr.refl _ _⟩
      · have d1 : decide ((xs.length : Int) < 1) = false := by simp; omega
        have d2 : decide ((8 : Int) < (xs.length : Int)) = true := by simp; omega
        go_enter Try.func35, Try.ntmps35
        go_wp2
        go_ret
        exact ⟨by rw [HE.out]; rfl, Fr.refl _ _⟩

end Go.Proofs.Ytfiaciniikcacaa

namespace Go.Proofs.Ytfiaciniikcacaa
open Go.RowKit Go.BigFrame
set_option linter.unusedVariables false
set_option linter.unusedSimpArgs false
set_option maxRecDepth 1000000
set_option maxHeartbeats 4000000

/-- Do all buffers end within k bytes? -/
def inB (k : Nat) (xs : List Bf) : Bool := xs.all fun x => decide (x.A + x.L ≤ k)
theorem holds_ring (bR bM bm bb k at_ bT N bC idx pol : Nat) (brk : Bool) (tk : List Bool) (lv : Value) (l : List (Nat × Nat)) (bs : List UInt8) (v : Value) (xs : List Bf) (w : World) (hR : RingF w bR bM at_ bT N bC idx pol brk tk) (hM : MemA w bM bm bb k lv l bs) (hB : Bufs w v xs) :
    Calls Try.prog 36 #[.pointer (some ⟨bR, 0, none⟩), v] w fun e w' => e = .returned (.bool (inB k xs)) ∧ Fr [] w w' := by
  rcases hB with ⟨p, c, rfl, rfl⟩ | ⟨b, o, cap, rfl, hm, hB⟩
  · clear hR hM
    go_enter Try.func36, Try.ntmps36
    go_wp2
    refine wp_loop_rounds 1 ?_
    rw [rounds_succ]; go_wp2
    go_ret
    exact ⟨rfl, Fr.refl _ _⟩
  · unfold maxLen at hm
    have HB := hid hB
    have HM := hid hM
    have hk := hM.mid.top
    have c0 := hR.c0
    clear hB hM hR
    go_enter Try.func36, Try.ntmps36
    go_wp2_with fail
    go_loopg [9] xs.length (fun gk q wr => ∃ i : Nat, i ≤ xs.length ∧ gk = xs.length - i ∧ q = .int .i64 i ∧ Hid (inB k xs = inB k (xs.drop i) ∧ Fr [] w wr))
    case atStart => exact ⟨0, Nat.zero_le _, rfl, rfl, hid ⟨rfl, Fr.refl _ _⟩⟩
    case round =>
      obtain ⟨i, hi, hgk, rfl, K0⟩ := hrel
      by_cases hlt : i < xs.length
      · have hlt' : (i : Int) < (xs.length : Int) := by omega
        have r := (HB.out i hlt).fr K0.out.2 (by simp)
        have r0 := r.c0
        have r1 := r.c1
        have r2 := r.c2
        have rA := r.hA
        have rL := r.hL
        have c0' := K0.out.2.cell c0 (by simp)
        have HG := hid (show inB k (xs.drop i) = (decide (xs[i].A + xs[i].L ≤ k) && inB k (xs.drop (i + 1))) by rw [List.drop_eq_getElem_cons hlt]; rfl)
        clear r
        generalize xs[i] = x at *
        obtain ⟨xA, xL, xI⟩ := x
        simp only at *
        have wA : IntKind.u64.wrap (xA : Int) = xA := wraps_u64 _ (by omega) (by omega)
        have wL : IntKind.u64.wrap (xL : Int) = xL := wraps_u64 _ (by omega) (by omega)
        have wS : IntKind.u64.wrap ((xA : Int) + (xL : Int)) = (xA : Int) + (xL : Int) := wraps_u64 _ (by omega) (by omega)
        have wK : IntKind.u64.wrap (k : Int) = k := wraps_u64 _ (by omega) (by omega)
        by_cases hL : xA + xL ≤ k
        · have e1 : decide ((k : Int) < (xA : Int) + (xL : Int)) = false := by simp; omega
          have HN := hid (show inB k xs = inB k (xs.drop (i + 1)) by rw [K0.out.1, HG.out, decide_eq_true hL]; rfl)
          clear HG
          go_wp2_with fail
          have hx := heap_alloc_new wr (.cells #[.int .u32 (xA : Nat), .int .u32 (xL : Nat), .bool xI] 59)
          have b0 := cell_of_heap (o := 0) hx rfl
          have b1 := cell_of_heap (o := 1) hx rfl
          have F1 : Fr [] wr (wr.alloc (.cells #[.int .u32 (xA : Nat), .int .u32 (xL : Nat), .bool xI] 59)) := (Fr.refl _ _).alloc _
          have c0'' := F1.cell c0' (by simp)
          generalize wr.alloc (.cells #[.int .u32 (xA : Nat), .int .u32 (xL : Nat), .bool xI] 59) = W1 at *
          have HZ1 := hid (fun (d : Nat) => msize_mem bM bm bb k lv l bs (W1.drewN d) (HM.out.fr0 ((K0.out.2.trans0 F1).drewN d)))
          have HF1 := hid (K0.out.2.trans0 F1)
          clear hx F1 r0 r1 r2 c0'
          go_quiet (exact Calls.quiet_of_same (HZ1.out _))
          go_wp2
          go_roundg (xs.length - (i + 1))
          case measure => omega
          case rel => exact ⟨i + 1, by omega, rfl, by go_num, hid ⟨HN.out, HF1.out.drewN _⟩⟩
        · have e1 : decide ((k : Int) < (xA : Int) + (xL : Int)) = true := by simp; omega
          have HN := hid (show inB k xs = false by rw [K0.out.1, HG.out, decide_eq_false hL]; rfl)
          clear HG
          go_wp2_with fail
          have hx := heap_alloc_new wr (.cells #[.int .u32 (xA : Nat), .int .u32 (xL : Nat), .bool xI] 59)
          have b0 := cell_of_heap (o := 0) hx rfl
          have b1 := cell_of_heap (o := 1) hx rfl
          have F1 : Fr [] wr (wr.alloc (.cells #[.int .u32 (xA : Nat), .int .u32 (xL : Nat), .bool xI] 59)) := (Fr.refl _ _).alloc _
          have c0'' := F1.cell c0' (by simp)
          generalize wr.alloc (.cells #[.int .u32 (xA : Nat), .int .u32 (xL : Nat), .bool xI] 59) = W1 at *
          have HZ1 := hid (fun (d : Nat) => msize_mem bM bm bb k lv l bs (W1.drewN d) (HM.out.fr0 ((K0.out.2.trans0 F1).drewN d)))
          have HF1 := hid (K0.out.2.trans0 F1)
          clear hx F1 r0 r1 r2 c0'
          go_quiet (exact Calls.quiet_of_same (HZ1.out _))
          go_wp2
          go_ret
          exact ⟨by rw [HN.out]; rfl, HF1.out.drewN _⟩
      · obtain rfl : i = xs.length := by omega
        go_wp2
        go_ret
        exact ⟨by rw [K0.out.1]; simp [inB], K0.out.2⟩
end Go.Proofs.Ytfiaciniikcacaa

namespace Go.Proofs.Ytfiaciniikcacaa
open Go.RowKit Go.BigFrame
set_option linter.unusedVariables false
set_option linter.unusedSimpArgs false
set_option maxRecDepth 1000000
set_option maxHeartbeats 4000000

theorem put_back (bs : List UInt8) (a n : Nat) : bs.take a ++ (bs.drop a).take n ++ bs.drop (a + n) = bs := by
  rw [List.append_assoc, ← List.drop_drop, List.take_append_drop, List.take_append_drop]
theorem mine_any (bR bM bm bb k at_ bT N bC idx pol a n : Nat) (brk : Bool) (tk : List Bool) (lv : Value) (l : List (Nat × Nat)) (bs : List UInt8) (w : World) (hR : RingF w bR bM at_ bT N bC idx pol brk tk) (hM : MemA w bM bm bb k lv l bs) (ho : a + n ≤ k) (b : Bool) (hb : b = true ↔ ¬ ∃ j, a ≤ j ∧ j < a + n ∧ In l j) :
    Calls Try.prog 55 #[.pointer (some ⟨bR, 0, none⟩), .int .u32 a, .int .i64 n] w fun e w' => e = .returned (.bool b) ∧ MemA w' bM bm bb k lv l bs ∧ Fr [bb] w w' := by
  have hk := hM.mid.top
  have c0 := hR.c0
  have hsz : (⟨((bs.drop a).take n).toArray⟩ : ByteArray).size = n := by
    show ((bs.drop a).take n).length = n
    rw [List.length_take, List.length_drop, hM.len]; omega
  have H1 := hid (read_ok bM bm bb k a n lv l bs w hM ho)
  have HM := hid hM
  cases b with
  | true =>
    have hno := hb.1 rfl
    have H2 := hid (write_ok bM bm bb k a lv l bs ⟨((bs.drop a).take n).toArray⟩ w hM (by rw [hsz]; exact ho) (by rw [hsz]; exact hno))
    rw [hsz] at H2
    have HP := hid (put_back bs a n)
    clear hR hM hb hno hsz
    go_enter Try.func55, Try.ntmps55
    go_wp2_with fail
    refine H1.out.mono ?_
    rintro e w1 ⟨rfl, hw⟩
    subst hw
    go_wp2_with fail
    refine H2.out.mono ?_
    rintro e w2 ⟨rfl, hM2, hF2⟩
    have HM2 := hid hM2
    clear hM2
    go_wp2
    go_ret
    refine ⟨rfl, ?_, hF2⟩
    have := HM2.out
    rw [HP.out] at this
    exact this
  | false =>
    have hyes : ∃ j, a ≤ j ∧ j < a + n ∧ In l j := Classical.byContradiction fun h => Bool.noConfusion (hb.2 h)
    have H2 := hid (write_lent bM bm bb k a lv l bs ⟨((bs.drop a).take n).toArray⟩ w hM (by rw [hsz]; exact ho) (by rw [hsz]; exact hyes))
    clear hR hM hb hyes hsz
    go_enter Try.func55, Try.ntmps55
    go_wp2_with fail
    refine H1.out.mono ?_
    rintro e w1 ⟨rfl, hw⟩
    subst hw
    go_wp2_with fail
    refine H2.out.mono ?_
    rintro e w2 ⟨rfl, hF2⟩
    go_wp2
    go_ret
    exact ⟨rfl, HM.out.fr0 hF2, hF2.mono (by simp)⟩
end Go.Proofs.Ytfiaciniikcacaa
