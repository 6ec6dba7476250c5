/-
  The walk of 'lend' of package ring: all buffers that are In are lent, or none. No statement is proved here.
-/
import Derived.Test.YtfiaciniikcacaaRing10
namespace Go.Proofs.Ytfiaciniikcacaa
open Go.RowKit Go.BigFrame Go.MapKept
set_option linter.unusedVariables false
set_option linter.unusedSimpArgs false
set_option maxRecDepth 1000000
set_option maxHeartbeats 4000000

theorem lend_yes (B bM bm bb k xA xL : Nat) (Z : Nat → Prop) (iv : List (Nat × Nat)) (l : List (Nat × Nat)) (bs : List UInt8) (W : World) (hM : MemK B W bM bm bb k l bs) (hL : Lens l k Z iv) (h1 : 1 ≤ xL) (h2 : xA + xL ≤ k) (hk : k ≤ 1048576) (hn : ∀ b, xA ≤ b → b < xA + xL → ¬ In l b) (hB : B ≤ W.heap.size) :
    Calls Try.prog 32 #[.pointer (some ⟨bM, 0, none⟩), .agg #[.int .u32 xA, .int .u32 xL]] W fun e w' => e = .returned (.int .i64 0) ∧ (∃ l', MemK B w' bM bm bb k l' bs ∧ Lens l' k Z ((xA, xL) :: iv)) ∧ Kp B [bm] W w' := by
  refine (mlend_k B bM bm bb k xA xL l bs W hM hB (by omega) (by omega)).mono ?_
  rintro e w' ⟨c, rfl, h⟩
  rcases h with ⟨q1, q2, _⟩ | ⟨q1, q2, q3, ⟨b, g1, g2, g3⟩, _⟩ | ⟨q1, q2, q3, q4, l', q5, q6, q7⟩
  · omega
  · exact absurd g3 (hn b g1 g2)
  · exact ⟨by rw [q1], ⟨l', q5, hL.put (p := (xA, xL)) ⟨h1, h2⟩ hn q6⟩, q7⟩
theorem lend_not (B bM bm bb k xA xL : Nat) (l : List (Nat × Nat)) (bs : List UInt8) (W : World) (hM : MemK B W bM bm bb k l bs) (h1 : 1 ≤ xL) (h2 : xA + xL ≤ k) (hk : k ≤ 1048576) (hn : ∃ b, xA ≤ b ∧ b < xA + xL ∧ In l b) (hB : B ≤ W.heap.size) :
    Calls Try.prog 32 #[.pointer (some ⟨bM, 0, none⟩), .agg #[.int .u32 xA, .int .u32 xL]] W fun e w' => e = .returned (.int .i64 11) ∧ MemK B w' bM bm bb k l bs ∧ Kp B [bm] W w' := by
  refine (mlend_k B bM bm bb k xA xL l bs W hM hB (by omega) (by omega)).mono ?_
  rintro e w' ⟨c, rfl, h⟩
  rcases h with ⟨q1, q2, _⟩ | ⟨q1, q2, q3, q4, q5, q6⟩ | ⟨q1, q2, q3, q4, _⟩
  · omega
  · exact ⟨by rw [q1], q5, q6⟩
  · obtain ⟨b, g1, g2, g3⟩ := hn
    exact absurd g3 (q4 b g1 g2)
/-- A byte of the buffer is one of the S bytes from at_ on. -/
def ovr (at_ S : Nat) (x : Bf) : Prop := x.A < at_ + S ∧ at_ < x.A + x.L
instance (at_ S : Nat) (x : Bf) : Decidable (ovr at_ S x) := by unfold ovr; infer_instance
/-- What 'lend' keeps on its way. -/
def LendI (B : Nat) (w wr : World) (bM bm bb k at_ S : Nat) (Z : Nat → Prop) (iv : List (Nat × Nat)) (bs : List UInt8) (ys : List Bf) : Prop :=
  (∃ l, MemK B wr bM bm bb k l bs ∧ Lens l k Z (ivs ys ++ iv)) ∧ Kp B [bm] w wr ∧ ∀ x, x ∈ ys → x.I = true → ¬ ovr at_ S x
/-- Why buffers can't be lent: one has a byte of the ring's, or one that is lent already, or is one of the others'. -/
def LendNo (at_ S : Nat) (l : List (Nat × Nat)) (xs : List Bf) : Prop := ∃ i, ∃ h : i < xs.length, xs[i].I = true ∧ (ovr at_ S xs[i] ∨ ∃ j, xs[i].A ≤ j ∧ j < xs[i].A + xs[i].L ∧ (In l j ∨ Cov (ivs (xs.take i)) j))
/-- What 'lend' answers. -/
def LendK (B : Nat) (w w' : World) (bM bm bb k at_ S : Nat) (Z : Nat → Prop) (iv : List (Nat × Nat)) (bs : List UInt8) (l : List (Nat × Nat)) (xs : List Bf) (b : Bool) : Prop :=
  (b = true ∧ LendI B w w' bM bm bb k at_ S Z iv bs xs) ∨ (b = false ∧ LendNo at_ S l xs ∧ HomeI B w w' bM bm bb k Z iv bs)
theorem ivs_take_in (xs : List Bf) (i : Nat) (h : i < xs.length) (hI : xs[i].I = true) : ivs (xs.take (i + 1)) = ivs (xs.take i) ++ [(xs[i].A, xs[i].L)] := by
  rw [List.take_succ_eq_append_getElem h, ivs_append]; simp [ivs, hI]
theorem ivs_take_out (xs : List Bf) (i : Nat) (h : i < xs.length) (hI : xs[i].I = false) : ivs (xs.take (i + 1)) = ivs (xs.take i) := by
  rw [List.take_succ_eq_append_getElem h, ivs_append]; simp [ivs, hI]
theorem lend_step {B : Nat} {w wr w' : World} {bM bm bb k at_ S : Nat} {Z : Nat → Prop} {iv : List (Nat × Nat)} {bs : List UInt8} {xs : List Bf} {i : Nat} (h : i < xs.length) (K : LendI B w wr bM bm bb k at_ S Z iv bs (xs.take i)) (hI : xs[i].I = true) (ho : ¬ ovr at_ S xs[i])
    (h1 : ∃ l, MemK B w' bM bm bb k l bs ∧ Lens l k Z ((xs[i].A, xs[i].L) :: (ivs (xs.take i) ++ iv))) (h2 : Kp B [bm] wr w') : LendI B w w' bM bm bb k at_ S Z iv bs (xs.take (i + 1)) := by
  obtain ⟨l, g1, g2⟩ := h1
  refine ⟨⟨l, g1, ?_⟩, K.2.1.trans h2, fun x hx hxI => ?_⟩
  · rw [ivs_take_in xs i h hI]
    refine g2.perm ?_
    rw [List.append_assoc, List.singleton_append]
    exact List.perm_middle.symm
  · rw [List.take_succ_eq_append_getElem h] at hx
    rcases List.mem_append.1 hx with hx | hx
    · exact K.2.2 x hx hxI
    · simp at hx; subst hx; exact ho
theorem lend_skip {B : Nat} {w wr w' : World} {bM bm bb k at_ S : Nat} {Z : Nat → Prop} {iv : List (Nat × Nat)} {bs : List UInt8} {xs : List Bf} {i : Nat} (h : i < xs.length) (K : LendI B w wr bM bm bb k at_ S Z iv bs (xs.take i)) (hI : xs[i].I = false) (hF : Fr [] wr w') : LendI B w w' bM bm bb k at_ S Z iv bs (xs.take (i + 1)) := by
  obtain ⟨⟨l, g1, g2⟩, g3, g4⟩ := K
  refine ⟨⟨l, g1.fr0 hF, by rw [ivs_take_out xs i h hI]; exact g2⟩, g3.fr0 hF, fun x hx hxI => ?_⟩
  rw [List.take_succ_eq_append_getElem h] at hx
  rcases List.mem_append.1 hx with hx | hx
  · exact g4 x hx hxI
  · simp at hx; subst hx; rw [hI] at hxI; cases hxI
theorem BufsAt.take {w : World} {b o : Nat} {xs : List Bf} (h : BufsAt w b o xs) (i : Nat) : BufsAt w b o (xs.take i) :=
  ⟨h.blk, fun j hj => by
    have hj' : j < xs.length := by simp at hj; omega
    rw [List.getElem_take]
    exact h.at_ j hj'⟩
theorem lend_ring (B bR bM bm bb k at_ bT N bC idx pol b o cap : Nat) (brk : Bool) (tk : List Bool) (Z : Nat → Prop) (iv : List (Nat × Nat)) (l : List (Nat × Nat)) (bs : List UInt8) (xs : List Bf) (w : World) (hR : RingF w bR bM at_ bT N bC idx pol brk tk) (hM : MemK B w bM bm bb k l bs)
    (hX : BufsAt w b o xs) (hL : Lens l k Z iv) (hB : B ≤ w.heap.size) (hlen : xs.length ≤ 8) (hcap : xs.length ≤ cap) (hcm : cap ≤ maxLen) (hP : Pow N) (hat : at_ + rSize N ≤ k) (hin : ∀ x, x ∈ xs → 1 ≤ x.L ∧ x.A + x.L ≤ k) :
    Calls Try.prog 39 #[.pointer (some ⟨bR, 0, none⟩), .slice (some ⟨b, o, none⟩) xs.length cap] w fun e w' => ∃ r, e = .returned (.bool r) ∧ LendK B w w' bM bm bb k at_ (rSize N) Z iv bs l xs r := by
  unfold maxLen at hcm
  obtain ⟨hk, obR, obb, obb2⟩ : k ≤ 1048576 ∧ bR ∉ [bm] ∧ b ∉ [bm] ∧ bm < w.heap.size := by
    obtain ⟨lv, h1, _⟩ := hM
    obtain ⟨c, t, f, g1, g2⟩ := hX.blk
    exact ⟨h1.mid.top, by simpa using blk_ne hR.blk h1.mid.blk (by decide), by simpa using blk_ne g1 h1.mid.blk g2.2.2.1, lt_of_heap h1.mid.blk⟩
  have HX := hid (fun W (hK : Kp B [bm] w W) => hX.kp hK obb)
  have HR := hid (fun W (hK : Kp B [bm] w W) => hR.kp hK obR (show bT ∉ [bm] from by obtain ⟨lv, h1, _⟩ := hM; simpa using blk_ne hR.tak h1.mid.blk (by decide)))
  have HI0 := hid (show LendI B w w bM bm bb k at_ (rSize N) Z iv bs (xs.take 0) from ⟨⟨l, hM, by simpa [ivs] using hL⟩, Kp.refl _ _ _, by simp⟩)
  have HL := hid hL
  have HIn := hid hin
  have HP := hid hP
  have HAt := hid hat
  clear hR hM hX hL hin hP hat
  go_enter Try.func39, Try.ntmps39
  go_wp2_with fail
  go_loopg [9] xs.length (fun gk q wr => ∃ i : Nat, i ≤ xs.length ∧ gk = xs.length - i ∧ q = .int .i64 i ∧ Hid (LendI B w wr bM bm bb k at_ (rSize N) Z iv bs (xs.take i)))
  case atStart => exact ⟨0, Nat.zero_le _, rfl, rfl, HI0⟩
  case round =>
    obtain ⟨i, hi, hgk, rfl, K0⟩ := hrel
    by_cases hlt : i < xs.length
    · have hlt' : (i : Int) < (xs.length : Int) := by omega
      have hic : (i : Int) ≤ (cap : Int) := by omega
      have hi0 : (0 : Int) ≤ (i : Int) := by omega
      have r := (HX.out wr K0.out.2.1).at_ i hlt
      have r0 := r.c0
      have r1 := r.c1
      have r2 := r.c2
      have c0 := (HR.out wr K0.out.2.1).c0
      have hx1 := HIn.out xs[i] (List.getElem_mem hlt)
      have HSt := hid (fun (W : World) => lend_step (B := B) (w := w) (wr := wr) (w' := W) (bM := bM) (bm := bm) (bb := bb) (k := k) (at_ := at_) (S := rSize N) (Z := Z) (iv := iv) (bs := bs) hlt K0.out)
      have HSk := hid (fun (W : World) => lend_skip (B := B) (w := w) (wr := wr) (w' := W) (bM := bM) (bm := bm) (bb := bb) (k := k) (at_ := at_) (S := rSize N) (Z := Z) (iv := iv) (bs := bs) hlt K0.out)
      have HNo := hid (fun (h1 : xs[i].I = true) (h2 : ovr at_ (rSize N) xs[i] ∨ ∃ j, xs[i].A ≤ j ∧ j < xs[i].A + xs[i].L ∧ (In l j ∨ Cov (ivs (xs.take i)) j)) => (⟨i, hlt, h1, h2⟩ : LendNo at_ (rSize N) l xs))
      clear r
      generalize xs[i] = x at *
      obtain ⟨xA, xL, xI⟩ := x
      simp only at *
      go_wp2_with fail
      have hx := heap_alloc_new wr (.cells #[.int .u32 (xA : Nat), .int .u32 (xL : Nat), .bool xI] 59)
      have b0 := cell_of_heap (o := 0) hx rfl
      have b1 := cell_of_heap (o := 1) hx rfl
      have b2 := cell_of_heap (o := 2) hx rfl
      have F1 : Fr [] wr (wr.alloc (.cells #[.int .u32 (xA : Nat), .int .u32 (xL : Nat), .bool xI] 59)) := (Fr.refl _ _).alloc _
      have c0' := F1.cell c0 (by simp)
      have hnb : wr.heap.size ∉ [bm] := by have := K0.out.2.1.size; simp; omega
      generalize wr.heap.size = n0 at *
      generalize wr.alloc (.cells #[.int .u32 (xA : Nat), .int .u32 (xL : Nat), .bool xI] 59) = W1 at *
      have HK1 := hid (K0.out.2.1.fr0 F1)
      have HF1 := hid F1
      have Hx := hid hx
      have H58 := hid (fun W (hF : Fr [] W1 W) => over_any bR bM at_ bT N bC idx pol xA xL xI brk tk W (HR.out W (HK1.out.fr0 hF)) HP.out (by omega) (by have := HAt.out; omega))
      -- home, behind which none is lent
      have H60 := hid (fun W (hF : Kp B [bm] W1 W) (l' : List (Nat × Nat)) (hM' : MemK B W bM bm bb k l' bs) (hL' : Lens l' k Z (ivs (xs.take i) ++ iv)) => (show Calls Try.prog 60 #[.pointer (some ⟨bR, 0, none⟩), .slice (some ⟨b, o, none⟩) i cap] W fun e w' => e = .returned (.tuple #[]) ∧ HomeI B w w' bM bm bb k Z iv bs from by
        have hK := HK1.out.trans hF
        have hl : (xs.take i).length = i := by simp; omega
        have := home_ok B bR bM bm bb k at_ bT N bC idx pol b o cap brk tk Z iv l' bs (xs.take i) W (HR.out W hK) hM' ((HX.out W hK).take i) hL' (Nat.le_trans hB hK.size) (by omega)
        rw [hl] at this
        exact this.mono fun e w' ⟨q1, q2, q3⟩ => ⟨q1, q2, hK.trans q3⟩))
      clear F1 r0 r1 r2 c0 hx
      cases xI with
      | false =>
        clear H60 H58
        go_quiet (fail)
        go_wp2
        go_roundg (xs.length - (i + 1))
        case measure => omega
        case rel => exact ⟨i + 1, by omega, rfl, by go_num, hid (HSk.out _ trivial (HF1.out.drewN _))⟩
      | true =>
        by_cases hov : ovr at_ (rSize N) ⟨xA, xL, true⟩
        · have H58' := hid (fun W (hF : Fr [] W1 W) => (H58.out W hF).mono fun e w' ⟨q1, q2⟩ => (⟨by rw [q1, decide_eq_true (show xA < at_ + rSize N ∧ at_ < xA + xL from hov)], q2⟩ : e = Ending.returned (.bool true) ∧ Fr [] W w'))
          have HN := hid (HNo.out rfl (.inl hov))
          clear H58 HNo hov HSt HSk
          have l0 : n0 < W1.heap.size := World.block_lt_of_cell? W1 _ b0
          have l1 : bR < W1.heap.size := World.block_lt_of_cell? W1 _ c0'
          refine wp_region_ext (by kernel_rfl) (by kernel_rfl) ?_
          repeat (go_big_quiet_step ((exact Calls.ext_of (H58'.out _ (ext_fr _ _)))))
          refine wpQuiet_nil ?_
          rintro _ ⟨xq, rfl⟩
          have HF13 := hid (ext_fr W1 xq)
          generalize ext W1 xq = w3 at *
          go_wp2_with fail
          obtain ⟨l', g1, g2⟩ := K0.out.1
          refine (H60.out w3 HF13.out.kp0 l' ((g1.fr0 HF1.out).fr0 HF13.out) g2).mono ?_
          rintro e w4 ⟨rfl, hH⟩
          have HH := hid hH
          clear hH g1 g2
          go_wp2
          go_ret
          exact ⟨false, rfl, .inr ⟨rfl, HN.out, HH.out⟩⟩
        · have H58' := hid (fun W (hF : Fr [] W1 W) => (H58.out W hF).mono fun e w' ⟨q1, q2⟩ => (⟨by rw [q1, decide_eq_false (show ¬ (xA < at_ + rSize N ∧ at_ < xA + xL) from hov)], q2⟩ : e = Ending.returned (.bool false) ∧ Fr [] W w'))
          have HOv := hid hov
          obtain ⟨l', g1, g2⟩ := K0.out.1
          have Hg := hid (And.intro (g1.fr0 HF1.out) g2)
          clear H58 hov g1 g2
          by_cases hfr : ∃ j, xA ≤ j ∧ j < xA + xL ∧ In l' j
          · have HN := hid (HNo.out rfl (.inr (by
              obtain ⟨j, q1, q2, q3⟩ := hfr
              refine ⟨j, q1, q2, ?_⟩
              rw [Hg.out.2.cov, Cov.append] at q3
              rcases q3 with q3 | q3 | q3
              · exact .inl ((HL.out.cov j).2 (.inl q3))
              · exact .inr q3
              · exact .inl ((HL.out.cov j).2 (.inr q3)))))
            have H32 := hid (fun W (hF : Fr [] W1 W) => (show Calls Try.prog 32 #[.pointer (some ⟨bM, 0, none⟩), .agg #[.int .u32 xA, .int .u32 xL]] W fun e w' => e = .returned (.int .i64 11) ∧ Hid (MemK B w' bM bm bb k l' bs ∧ Kp B [bm] W1 w') ∧ w'.cell? ⟨n0, 0, none⟩ = some (.int .u32 (xA : Nat)) ∧ w'.cell? ⟨n0, 1, none⟩ = some (.int .u32 (xL : Nat)) ∧ w'.cell? ⟨n0, 2, none⟩ = some (.bool true) ∧ w'.cell? ⟨bR, 0, none⟩ = some (.pointer (some ⟨bM, 0, none⟩)) from by
              refine (lend_not B bM bm bb k xA xL l' bs W (Hg.out.1.fr0 hF) hx1.1 hx1.2 hk hfr (Nat.le_trans hB (Nat.le_trans HK1.out.size hF.size))).mono ?_
              rintro e w' ⟨q1, q2, q3⟩
              have hb := q3.heap (hF.heap Hx.out (by simp)) hnb (by decide)
              have hK := (hF.kp0 (B := B) (S := [bm])).trans q3
              exact ⟨q1, ⟨q2, hK⟩, cell_of_heap hb rfl, cell_of_heap hb rfl, cell_of_heap hb rfl, (HR.out w' (HK1.out.trans hK)).c0⟩))
            clear HNo HSt HSk hfr
            go_region_held (fun w' => w'.cell? ⟨n0, 0, none⟩ = some (.int .u32 (xA : Nat)) ∧ w'.cell? ⟨n0, 1, none⟩ = some (.int .u32 (xL : Nat)) ∧ w'.cell? ⟨n0, 2, none⟩ = some (.bool true) ∧ w'.cell? ⟨bR, 0, none⟩ = some (.pointer (some ⟨bM, 0, none⟩))) (go_keep)
              (first
              | (go_at_call 58; refine (H58'.out _ ((Fr.refl _ W1).drew)).mono ?_; rintro e w3 ⟨rfl, hF3⟩; have b0' := hF3.cell (show W1.drew.cell? _ = _ from b0) (by simp); have b1' := hF3.cell (show W1.drew.cell? _ = _ from b1) (by simp); have b2' := hF3.cell (show W1.drew.cell? _ = _ from b2) (by simp); have c0'' := hF3.cell (show W1.drew.cell? _ = _ from c0') (by simp))
              | (go_at_call 59; refine (span59 _ _ _ _).mono ?_; rintro e w4 ⟨rfl, hF4⟩; have b0'' := hF4.cell b0' (by simp); have b1'' := hF4.cell b1' (by simp); have b2'' := hF4.cell b2' (by simp); have c0''' := hF4.cell c0'' (by simp))
              | (go_at_call 32; refine (H32.out _ (((Fr.refl _ W1).drew.trans0 hF3).trans0 hF4)).mono ?_; rintro e w5 ⟨rfl, hH, q1, q2, q3, q4⟩))
            all_goals
              clear hF3 b0' b1' b2' c0'' hF4 b0'' b1'' b2'' c0''' q1 q2 q3 q4
              go_wp2_with fail
              refine (H60.out w5 hH.out.2 l' hH.out.1 Hg.out.2).mono ?_
              rintro e w6 ⟨rfl, hH6⟩
              have HH := hid hH6
              clear hH6
              go_wp2
              go_ret
              exact ⟨false, rfl, .inr ⟨rfl, HN.out, HH.out⟩⟩
          · have hno : ∀ b, xA ≤ b → b < xA + xL → ¬ In l' b := fun b q1 q2 q3 => hfr ⟨b, q1, q2, q3⟩
            have H32 := hid (fun W (hF : Fr [] W1 W) => (show Calls Try.prog 32 #[.pointer (some ⟨bM, 0, none⟩), .agg #[.int .u32 xA, .int .u32 xL]] W fun e w' => e = .returned (.int .i64 0) ∧ Hid (LendI B w w' bM bm bb k at_ (rSize N) Z iv bs (xs.take (i + 1))) ∧ w'.cell? ⟨n0, 0, none⟩ = some (.int .u32 (xA : Nat)) ∧ w'.cell? ⟨n0, 1, none⟩ = some (.int .u32 (xL : Nat)) ∧ w'.cell? ⟨n0, 2, none⟩ = some (.bool true) ∧ w'.cell? ⟨bR, 0, none⟩ = some (.pointer (some ⟨bM, 0, none⟩)) from by
              refine (lend_yes B bM bm bb k xA xL Z _ l' bs W (Hg.out.1.fr0 hF) Hg.out.2 hx1.1 hx1.2 hk hno (Nat.le_trans hB (Nat.le_trans HK1.out.size hF.size))).mono ?_
              rintro e w' ⟨q1, q2, q3⟩
              have hb := q3.heap (hF.heap Hx.out (by simp)) hnb (by decide)
              have hK := (hF.kp0 (B := B) (S := [bm])).trans q3
              exact ⟨q1, HSt.out w' rfl HOv.out q2 ((HF1.out.kp0 (B := B) (S := [bm])).trans hK), cell_of_heap hb rfl, cell_of_heap hb rfl, cell_of_heap hb rfl, (HR.out w' (HK1.out.trans hK)).c0⟩))
            clear HNo HSt HSk hfr hno H60
            go_region_held (fun w' => w'.cell? ⟨n0, 0, none⟩ = some (.int .u32 (xA : Nat)) ∧ w'.cell? ⟨n0, 1, none⟩ = some (.int .u32 (xL : Nat)) ∧ w'.cell? ⟨n0, 2, none⟩ = some (.bool true) ∧ w'.cell? ⟨bR, 0, none⟩ = some (.pointer (some ⟨bM, 0, none⟩))) (go_keep)
              (first
              | (go_at_call 58; refine (H58'.out _ ((Fr.refl _ W1).drew)).mono ?_; rintro e w3 ⟨rfl, hF3⟩; have b0' := hF3.cell (show W1.drew.cell? _ = _ from b0) (by simp); have b1' := hF3.cell (show W1.drew.cell? _ = _ from b1) (by simp); have b2' := hF3.cell (show W1.drew.cell? _ = _ from b2) (by simp); have c0'' := hF3.cell (show W1.drew.cell? _ = _ from c0') (by simp))
              | (go_at_call 59; refine (span59 _ _ _ _).mono ?_; rintro e w4 ⟨rfl, hF4⟩; have b0'' := hF4.cell b0' (by simp); have b1'' := hF4.cell b1' (by simp); have b2'' := hF4.cell b2' (by simp); have c0''' := hF4.cell c0'' (by simp))
              | (go_at_call 32; refine (H32.out _ (((Fr.refl _ W1).drew.trans0 hF3).trans0 hF4)).mono ?_; rintro e w5 ⟨rfl, hH, q1, q2, q3, q4⟩))
            all_goals
              clear hF3 b0' b1' b2' c0'' hF4 b0'' b1'' b2'' c0''' q1 q2 q3 q4
              go_wp2
              go_roundg (xs.length - (i + 1))
              case measure => omega
              case rel => exact ⟨i + 1, by omega, rfl, by go_num, hH⟩
    · obtain rfl : i = xs.length := by omega
      have HN := hid (show LendI B w wr bM bm bb k at_ (rSize N) Z iv bs xs by have := K0.out; rwa [List.take_of_length_le (Nat.le_refl _)] at this)
      go_wp2
      go_ret
      exact ⟨true, rfl, .inl ⟨rfl, HN.out⟩⟩
end Go.Proofs.Ytfiaciniikcacaa
