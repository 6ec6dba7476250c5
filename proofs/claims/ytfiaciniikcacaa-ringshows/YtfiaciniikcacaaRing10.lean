/-
  The walks of 'over', 'span' and 'home' of package ring: is a byte of a buffer the ring's; buffers are taken back. No statement is proved here.
-/
import Derived.Test.YtfiaciniikcacaaRing9
namespace Go.Proofs.Ytfiaciniikcacaa
open Go.RowKit Go.BigFrame Go.MapKept
set_option linter.unusedVariables false
set_option linter.unusedSimpArgs false
set_option maxRecDepth 1000000
set_option maxHeartbeats 4000000

theorem span59 (A L : Int) (I : Bool) (w : World) : Calls Try.prog 59 #[.agg #[.int .u32 A, .int .u32 L, .bool I]] w fun e w' => e = .returned (.agg #[.int .u32 A, .int .u32 L]) ∧ Fr [] w w' := by
  go_enter Try.func59, Try.ntmps59
  go_wp2
  go_returns
  exact ⟨rfl, ((Fr.refl _ _).alloc _).alloc _⟩

theorem over_any (bR bM at_ bT N bC idx pol xA xL : Nat) (xI brk : Bool) (tk : List Bool) (w : World) (hR : RingF w bR bM at_ bT N bC idx pol brk tk) (hP : Pow N) (hx : xA + xL ≤ 1048576) (hat : at_ + rSize N ≤ 1048576) :
    Calls Try.prog 58 #[.pointer (some ⟨bR, 0, none⟩), .agg #[.int .u32 xA, .int .u32 xL, .bool xI]] w fun e w' => e = .returned (.bool (decide (xA < at_ + rSize N ∧ at_ < xA + xL))) ∧ Fr [] w w' := by
  obtain ⟨S, hS⟩ : ∃ S, S = rSize N := ⟨_, rfl⟩
  obtain ⟨T, hT⟩ : ∃ T, T = at_ + rSize N := ⟨_, rfl⟩
  obtain ⟨E, hE⟩ : ∃ E, E = xA + xL := ⟨_, rfl⟩
  have HZ := hid (fun W => (show Calls Try.prog 29 #[.int .i64 N] W fun e w' => e = .returned (.int .i64 (S : Nat)) ∧ w' = W from by rw [hS]; exact Size_pow N hP W))
  have wS : IntKind.u32.wrap (S : Int) = S := by rw [IntKind.wrap_u32]; omega
  have wT : IntKind.u32.wrap ((at_ : Int) + (S : Int)) = (T : Int) := by rw [IntKind.wrap_u32]; omega
  have wE : IntKind.u32.wrap ((xA : Int) + (xL : Int)) = (E : Int) := by rw [IntKind.wrap_u32]; omega
  rw [← hT, ← hE]
  have hF : Fr [] w (w.alloc (.cells #[.int .u32 (xA : Nat), .int .u32 (xL : Nat), .bool xI] 59)) := (Fr.refl _ _).alloc _
  have hx0 := heap_alloc_new w (.cells #[.int .u32 (xA : Nat), .int .u32 (xL : Nat), .bool xI] 59)
  have b0 := cell_of_heap (o := 0) hx0 rfl
  have b1 := cell_of_heap (o := 1) hx0 rfl
  have r1 := hF.cell hR.c1 (by simp)
  have r2 := hF.cell hR.c2 (by simp)
  have HF := hid hF
  clear hR hx0 hS hT hE hF
  go_enter Try.func58, Try.ntmps58
  go_wp2_with fail
  generalize w.alloc (.cells #[.int .u32 (xA : Nat), .int .u32 (xL : Nat), .bool xI] 59) = W at *
  by_cases h1 : xA < T
  · have d1 : decide ((xA : Int) < (T : Int)) = true := by simp; omega
    by_cases h2 : at_ < E
    · have d2 : decide ((at_ : Int) < (E : Int)) = true := by simp; omega
      go_quiet (first | exact Calls.quiet_of_same (rsize_any bR bT N _ r2) | exact Calls.quiet_of_same (HZ.out _))
      go_wp2
      go_ret
      exact ⟨by simp [h1, h2], HF.out.drewN _⟩
    · have d2 : decide ((at_ : Int) < (E : Int)) = false := by simp; omega
      go_quiet (first | exact Calls.quiet_of_same (rsize_any bR bT N _ r2) | exact Calls.quiet_of_same (HZ.out _))
      go_wp2
      go_ret
      exact ⟨by simp [h1, h2], HF.out.drewN _⟩
  · have d1 : decide ((xA : Int) < (T : Int)) = false := by simp; omega
    go_quiet (first | exact Calls.quiet_of_same (rsize_any bR bT N _ r2) | exact Calls.quiet_of_same (HZ.out _))
    go_wp2
    go_ret
    exact ⟨by simp [h1], HF.out.drewN _⟩

theorem back_one (B bM bm bb k xA xL : Nat) (Z : Nat → Prop) (iv : List (Nat × Nat)) (l : List (Nat × Nat)) (bs : List UInt8) (W : World) (hM : MemK B W bM bm bb k l bs) (hL : Lens l k Z ((xA, xL) :: iv)) (hk : k ≤ 1048576) (hB : B ≤ W.heap.size) :
    Calls Try.prog 74 #[.pointer (some ⟨bM, 0, none⟩), .agg #[.int .u32 xA, .int .u32 xL]] W fun e w' => e = .returned (.int .i64 0) ∧ (∃ l', MemK B w' bM bm bb k l' bs ∧ Lens l' k Z iv) ∧ Kp B [bm] W w' := by
  have h1 := hL.one (xA, xL) (by simp)
  have h2 := hL.all
  simp only at h1 h2
  refine (mback_k B bM bm bb k xA xL l bs W hM hB (by omega) (by omega)).mono ?_
  rintro e w' ⟨c, rfl, h⟩
  rcases h with ⟨q1, q2, _⟩ | ⟨q1, q2, q3, q4, _⟩ | ⟨q1, q2, q3, q4, l', q5, q6, q7⟩
  · omega
  · exact absurd h2 q4
  · exact ⟨by rw [q1], ⟨l', q5, hL.take q6⟩, q7⟩
theorem ivs_cons_in (x : Bf) (xs : List Bf) (h : x.I = true) : ivs (x :: xs) = (x.A, x.L) :: ivs xs := by simp [ivs, h]
theorem ivs_cons_out (x : Bf) (xs : List Bf) (h : x.I = false) : ivs (x :: xs) = ivs xs := by simp [ivs, h]
/-- What 'home' keeps and leaves. -/
def HomeI (B : Nat) (w wr : World) (bM bm bb k : Nat) (Z : Nat → Prop) (iv : List (Nat × Nat)) (bs : List UInt8) : Prop := (∃ l, MemK B wr bM bm bb k l bs ∧ Lens l k Z iv) ∧ Kp B [bm] w wr
theorem home_ok (B bR bM bm bb k at_ bT N bC idx pol b o cap : Nat) (brk : Bool) (tk : List Bool) (Z : Nat → Prop) (iv : List (Nat × Nat)) (l : List (Nat × Nat)) (bs : List UInt8) (xs : List Bf) (w : World) (hR : RingF w bR bM at_ bT N bC idx pol brk tk) (hM : MemK B w bM bm bb k l bs)
    (hX : BufsAt w b o xs) (hL : Lens l k Z (ivs xs ++ iv)) (hB : B ≤ w.heap.size) (hlen : xs.length ≤ 8) :
    Calls Try.prog 60 #[.pointer (some ⟨bR, 0, none⟩), .slice (some ⟨b, o, none⟩) xs.length cap] w fun e w' => e = .returned (.tuple #[]) ∧ HomeI B w w' bM bm bb k Z iv bs := by
  obtain ⟨hk, obR, obb, obb2⟩ : k ≤ 1048576 ∧ bR ∉ [bm] ∧ b ∉ [bm] ∧ bm < w.heap.size := by
    obtain ⟨lv, h1, _⟩ := hM
    obtain ⟨c, t, f, g1, g2⟩ := hX.blk
    exact ⟨h1.mid.top, by simpa using blk_ne hR.blk h1.mid.blk (by decide), by simpa using blk_ne g1 h1.mid.blk g2.2.2.1, lt_of_heap h1.mid.blk⟩
  have HX := hid (fun W (hK : Kp B [bm] w W) => hX.kp hK obb)
  have HR := hid (fun W (hK : Kp B [bm] w W) => hR.kp hK obR (show bT ∉ [bm] from by obtain ⟨lv, h1, _⟩ := hM; simpa using blk_ne hR.tak h1.mid.blk (by decide)))
  have HI0 := hid (show HomeI B w w bM bm bb k Z (ivs (xs.drop 0) ++ iv) bs from ⟨⟨l, hM, hL⟩, Kp.refl _ _ _⟩)
  clear hR hM hX hL
  go_enter Try.func60, Try.ntmps60
  go_wp2_with fail
  go_loopg [8] xs.length (fun gk q wr => ∃ i : Nat, i ≤ xs.length ∧ gk = xs.length - i ∧ q = .int .i64 i ∧ Hid (HomeI B w wr bM bm bb k Z (ivs (xs.drop i) ++ iv) bs))
  case atStart => exact ⟨0, Nat.zero_le _, rfl, rfl, HI0⟩
  case round =>
    obtain ⟨i, hi, hgk, rfl, K0⟩ := hrel
    by_cases hlt : i < xs.length
    · have hlt' : (i : Int) < (xs.length : Int) := by omega
      have r := (HX.out wr K0.out.2).at_ i hlt
      have r0 := r.c0
      have r1 := r.c1
      have r2 := r.c2
      have c0 := (HR.out wr K0.out.2).c0
      have HD := hid (show ivs (xs.drop i) = ivs (xs[i] :: xs.drop (i + 1)) by rw [← List.drop_eq_getElem_cons hlt])
      clear r
      generalize xs[i] = x at *
      obtain ⟨xA, xL, xI⟩ := x
      simp only at *
      go_wp2_with fail
      have hx := heap_alloc_new wr (.cells #[.int .u32 (xA : Nat), .int .u32 (xL : Nat), .bool xI] 59)
      have b0 := cell_of_heap (o := 0) hx rfl
      have b1 := cell_of_heap (o := 1) hx rfl
      have b2 := cell_of_heap (o := 2) hx rfl
      have F1 : Fr [] wr (wr.alloc (.cells #[.int .u32 (xA : Nat), .int .u32 (xL : Nat), .bool xI] 59)) := (Fr.refl _ _).alloc _
      have c0' := F1.cell c0 (by simp)
      have hnb : wr.heap.size ∉ [bm] := by have := K0.out.2.size; simp; omega
      have hsz : wr.heap.size < (wr.alloc (.cells #[.int .u32 (xA : Nat), .int .u32 (xL : Nat), .bool xI] 59)).heap.size := by simp
      generalize wr.heap.size = n0 at *
      generalize wr.alloc (.cells #[.int .u32 (xA : Nat), .int .u32 (xL : Nat), .bool xI] 59) = W1 at *
      have HK1 := hid (K0.out.2.fr0 F1)
      have HF1 := hid F1
      have Hx := hid hx
      clear F1 r0 r1 r2 c0 hx
      cases xI with
      | false =>
        have HN := hid (show HomeI B w wr bM bm bb k Z (ivs (xs.drop (i + 1)) ++ iv) bs by have := K0.out; rw [HD.out, ivs_cons_out _ _ rfl] at this; exact this)
        go_quiet (fail)
        go_wp2
        go_roundg (xs.length - (i + 1))
        case measure => omega
        case rel => exact ⟨i + 1, by omega, rfl, by go_num, hid (by obtain ⟨⟨l', g1, g2⟩, g3⟩ := HN.out; exact ⟨⟨l', (g1.fr0 HF1.out).fr0 ((Fr.refl _ _).drewN _), g2⟩, HK1.out.drewN _⟩)⟩
      | true =>
        have HN := hid (show ∃ l, MemK B W1 bM bm bb k l bs ∧ Lens l k Z ((xA, xL) :: (ivs (xs.drop (i + 1)) ++ iv)) by
          obtain ⟨⟨l', g1, g2⟩, g3⟩ := K0.out
          rw [HD.out, ivs_cons_in _ _ rfl] at g2
          exact ⟨l', g1.fr0 HF1.out, g2⟩)
        have H74 := hid (fun W (hF : Fr [] W1 W) => (show Calls Try.prog 74 #[.pointer (some ⟨bM, 0, none⟩), .agg #[.int .u32 xA, .int .u32 xL]] W fun e w' => e = .returned (.int .i64 0) ∧ Hid (HomeI B w w' bM bm bb k Z (ivs (xs.drop (i + 1)) ++ iv) bs) ∧ w'.cell? ⟨n0, 0, none⟩ = some (.int .u32 (xA : Nat)) ∧ w'.cell? ⟨n0, 1, none⟩ = some (.int .u32 (xL : Nat)) ∧ w'.cell? ⟨n0, 2, none⟩ = some (.bool true) ∧ w'.cell? ⟨bR, 0, none⟩ = some (.pointer (some ⟨bM, 0, none⟩)) from by
          obtain ⟨l', g1, g2⟩ := HN.out
          refine (back_one B bM bm bb k xA xL Z _ l' bs W (g1.fr0 hF) g2 hk (Nat.le_trans hB (Nat.le_trans HK1.out.size hF.size))).mono ?_
          rintro e w' ⟨q1, q2, q3⟩
          have hb := q3.heap (hF.heap Hx.out (by simp)) hnb (by decide)
          have hK := (HK1.out.fr0 hF).trans q3
          exact ⟨q1, ⟨q2, hK⟩, cell_of_heap hb rfl, cell_of_heap hb rfl, cell_of_heap hb rfl, (HR.out w' hK).c0⟩))
        clear HN
        go_region_held (fun w' => w'.cell? ⟨n0, 0, none⟩ = some (.int .u32 (xA : Nat)) ∧ w'.cell? ⟨n0, 1, none⟩ = some (.int .u32 (xL : Nat)) ∧ w'.cell? ⟨n0, 2, none⟩ = some (.bool true) ∧ w'.cell? ⟨bR, 0, none⟩ = some (.pointer (some ⟨bM, 0, none⟩))) (go_keep)
          (first
          | (go_at_call 59; refine (span59 _ _ _ _).mono ?_; rintro e w3 ⟨rfl, hF3⟩; have b0' := hF3.cell (show W1.drew.cell? _ = _ from b0) (by simp); have b1' := hF3.cell (show W1.drew.cell? _ = _ from b1) (by simp); have b2' := hF3.cell (show W1.drew.cell? _ = _ from b2) (by simp); have c0'' := hF3.cell (show W1.drew.cell? _ = _ from c0') (by simp))
          | (go_at_call 74; refine (H74.out _ ((Fr.refl _ W1).drew.trans0 hF3)).mono ?_; rintro e w4 ⟨rfl, hH, q1, q2, q3, q4⟩))
        all_goals
          go_wp2
          go_roundg (xs.length - (i + 1))
          case measure => omega
          case rel => exact ⟨i + 1, by omega, rfl, by go_num, hH⟩
    · obtain rfl : i = xs.length := by omega
      have HN := hid (show HomeI B w wr bM bm bb k Z iv bs by have := K0.out; rw [List.drop_of_length_le (Nat.le_refl _)] at this; simpa [ivs] using this)
      go_wp2
      go_end0
      exact ⟨rfl, HN.out⟩
end Go.Proofs.Ytfiaciniikcacaa
