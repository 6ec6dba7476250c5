/-
  The walks of the pools of the document's answer for layer 1 (package pharosref01). No statement is proved here.
-/
import Derived.Test.YtbkfgidmjkbfmaaRef4
import Derived.Test.YtbkfgidmjkbfmaaPoolB
namespace Go.Proofs.Ytbkfgidmjkbfmaa
open Go.RowKit Go.BigFrame
set_option linter.unusedVariables false
set_option linter.unusedSimpArgs false
set_option maxRecDepth 1000000
set_option maxHeartbeats 4000000

/-- The document's pool. -/
structure RPoolA (w : World) (bq br at_ size bv : Nat) (ws : List UInt8) : Prop where
  blk : w.heap[bq]? = some (.cells #[.pointer (some ⟨br, 0, none⟩), .int .u32 (at_ : Nat), .int .i64 (size : Nat), .slice (some ⟨bv, 0, none⟩) ws.length ws.length] 86)
  who : w.heap[bv]? = some (.cells (ws.map b8).toArray 5)
theorem RPoolA.c0 {w : World} {bq br at_ size bv : Nat} {ws : List UInt8} (h : RPoolA w bq br at_ size bv ws) : w.cell? ⟨bq, 0, none⟩ = some (.pointer (some ⟨br, 0, none⟩)) := cell_of_heap h.blk rfl
theorem RPoolA.c1 {w : World} {bq br at_ size bv : Nat} {ws : List UInt8} (h : RPoolA w bq br at_ size bv ws) : w.cell? ⟨bq, 1, none⟩ = some (.int .u32 (at_ : Nat)) := cell_of_heap h.blk rfl
theorem RPoolA.c2 {w : World} {bq br at_ size bv : Nat} {ws : List UInt8} (h : RPoolA w bq br at_ size bv ws) : w.cell? ⟨bq, 2, none⟩ = some (.int .i64 (size : Nat)) := cell_of_heap h.blk rfl
theorem RPoolA.c3 {w : World} {bq br at_ size bv : Nat} {ws : List UInt8} (h : RPoolA w bq br at_ size bv ws) : w.cell? ⟨bq, 3, none⟩ = some (.slice (some ⟨bv, 0, none⟩) ws.length ws.length) := cell_of_heap h.blk rfl
theorem RPoolA.fr {S : List Nat} {w w' : World} {bq br at_ size bv : Nat} {ws : List UInt8} (h : RPoolA w bq br at_ size bv ws) (hF : Fr S w w') (h1 : bq ∉ S) (h2 : bv ∉ S) : RPoolA w' bq br at_ size bv ws := ⟨hF.heap h.blk h1, hF.heap h.who h2⟩
theorem RPoolA.ne {w : World} {bq br at_ size bv : Nat} {ws : List UInt8} (h : RPoolA w bq br at_ size bv ws) : bq ≠ bv := by
  intro e; subst e; have := h.blk; rw [h.who] at this; simp at this
theorem RPoolA.setWho {w : World} {bq br at_ size bv : Nat} {ws : List UInt8} (h : RPoolA w bq br at_ size bv ws) (i : Nat) (x : UInt8) : RPoolA (w.setCell ⟨bv, i, none⟩ (.int .u8 (x.toNat : Nat))) bq br at_ size bv (ws.set i x) := by
  refine ⟨?_, setW h.who i x⟩
  rw [List.length_set]
  exact ((Fr.refl [bv] w).setCell (by simp) _).heap h.blk (by simpa using h.ne)

theorem at_iff {at_ size n a i : Nat} (h1 : 1 ≤ size) (hi : i < n) (e : a = at_ + i * size) : At at_ size n a ∧ (a - at_) / size = i := by
  have e2 : a - at_ = i * size := by omega
  unfold At
  rw [e2, Nat.mul_mod_left, Nat.mul_div_cancel _ (by omega)]
  exact ⟨⟨by omega, rfl, hi⟩, rfl⟩
theorem at_back {at_ size n a : Nat} (h1 : 1 ≤ size) (h : At at_ size n a) : a = at_ + (a - at_) / size * size := by
  obtain ⟨h2, h3, h4⟩ := h
  have := Nat.div_add_mod (a - at_) size
  rw [h3, Nat.mul_comm] at this
  omega
theorem rfind_any (bq br at_ size bv a : Nat) (ws : List UInt8) (w : World) (hP : RPoolA w bq br at_ size bv ws) (ha : a < 4294967296) (hat : at_ < 4294967296) (h1 : 1 ≤ size) (h2 : size ≤ 1048576) (hl : ws.length ≤ 256) :
    Calls Try.prog 55 #[.pointer (some ⟨bq, 0, none⟩), .int .u32 a] w fun e w' => ((At at_ size ws.length a ∧ e = .returned (.int .i64 ((a - at_) / size : Nat))) ∨ (¬ At at_ size ws.length a ∧ e = .returned (.int .i64 (-1)))) ∧ Fr [] w w' := by
  have c1 := hP.c1
  have c2 := hP.c2
  have c3 := hP.c3
  clear hP
  go_enter Try.func55, Try.ntmps55
  go_wp2
  go_loopw [5] (fun q wr => ∃ i : Nat, i ≤ ws.length ∧ q = .int .i64 i ∧ (∃ d, wr = w.drewN d) ∧ Hid (∀ j, j < i → a ≠ at_ + j * size)) (fun q _ => ws.length - (intOf q).toNat)
  case atStart => exact ⟨0, Nat.zero_le _, rfl, ⟨0, rfl⟩, (fun j hj => absurd hj (Nat.not_lt_zero _) : ∀ j, j < 0 → a ≠ at_ + j * size)⟩
  case round =>
    obtain ⟨i, hi, rfl, ⟨d, rfl⟩, I⟩ := hrel
    by_cases hlt : i < ws.length
    · have hlt' : (i : Int) < (ws.length : Int) := by omega
      obtain ⟨M, hM⟩ : ∃ M, M = i * size := ⟨_, rfl⟩
      have hmul : (i : Int) * (size : Int) = (M : Int) := by rw [hM, Int.natCast_mul]
      have hMb : M ≤ 268435456 := by rw [hM]; exact Nat.mul_le_mul (show i ≤ 256 by omega) h2
      have wM : IntKind.i64.wrap (M : Int) = M := by rw [IntKind.wrap_i64]; omega
      have wA : IntKind.i64.wrap (a : Int) = a := by rw [IntKind.wrap_i64]; omega
      have wT : IntKind.i64.wrap (at_ : Int) = at_ := by rw [IntKind.wrap_i64]; omega
      have wS : IntKind.i64.wrap ((at_ : Int) + (M : Int)) = (at_ : Int) + (M : Int) := by rw [IntKind.wrap_i64]; omega
      have HM := hid hM
      clear hM
      by_cases he : a = at_ + M
      · have HE := hid he
        have db : ((a : Int) == (at_ : Int) + (M : Int)) = true := by simp; omega
        clear he
        go_wp2
        go_quiet (fail)
        go_wp2
        go_ret
        have g := at_iff (n := ws.length) h1 hlt (show a = at_ + i * size by rw [← HM.out]; exact HE.out)
        exact ⟨.inl ⟨g.1, by rw [g.2]; rfl⟩, ((Fr.refl _ _).drewN _).drewN _⟩
      · have HE := hid he
        have db : ((a : Int) == (at_ : Int) + (M : Int)) = false := by simp; omega
        clear he
        go_wp2
        go_quiet (fail)
        go_wp2
        go_roundw
        case rel => exact ⟨i + 1, by omega, by go_num, ⟨d + nq, rfl⟩, (fun j hj => by rcases Nat.eq_or_lt_of_le (Nat.le_of_lt_succ hj) with e | e; (subst e; rw [← HM.out]; exact HE.out); exact I.out j e : ∀ j, j < i + 1 → a ≠ at_ + j * size)⟩
        case measure => simp [intOf]; omega
    · obtain rfl : i = ws.length := by omega
      go_wp2
      go_ret
      exact ⟨.inr ⟨fun h => I.out _ h.2.2 (at_back h1 h), rfl⟩, (Fr.refl _ _).drewN _⟩

theorem rget_any (bq br at_ size bv : Nat) (ws : List UInt8) (w : World) (hP : RPoolA w bq br at_ size bv ws) (hl : ws.length ≤ 256) (hs : size ≤ 1048576) (hb : at_ + ws.length * size < 4294967296) :
    Calls Try.prog 51 #[.pointer (some ⟨bq, 0, none⟩)] w fun e w' => (∃ i : Nat, i < ws.length ∧ ws[i]? = some 0 ∧ (∀ j : Nat, j < i → ws[j]? ≠ some 0) ∧ e = .returned (.tuple #[.int .u32 ((at_ + i * size : Nat) : Int), .int .i64 0]) ∧ RPoolA w' bq br at_ size bv (ws.set i 1) ∧ Fr [bv] w w') ∨
      ((∀ j : Nat, ws[j]? ≠ some 0) ∧ e = .returned (.tuple #[.int .u32 0, .int .i64 6]) ∧ Fr [] w w') := by
  have c1 := hP.c1
  have c2 := hP.c2
  have c3 := hP.c3
  have HP := hid hP
  have hne := hP.ne
  clear hP
  go_enter Try.func51, Try.ntmps51
  go_wp2
  go_loop [4] (fun q => ∃ i : Nat, i ≤ ws.length ∧ q = .int .i64 i ∧ Hid (∀ j : Nat, j < i → ws[j]? ≠ some 0)) (fun q => ws.length - (intOf q).toNat)
  case atStart => exact ⟨0, Nat.zero_le _, rfl, (fun j hj => absurd hj (Nat.not_lt_zero _) : ∀ j : Nat, j < 0 → ws[j]? ≠ some 0)⟩
  case round =>
    obtain ⟨i, hi, rfl, I⟩ := hrel
    by_cases hlt : i < ws.length
    · have hlt' : (i : Int) < (ws.length : Int) := by omega
      have hc := who_cell HP.out.who i hlt
      have HX := hid (List.getElem?_eq_getElem hlt)
      obtain ⟨x, hx⟩ : ∃ x, x = ws[i] := ⟨_, rfl⟩
      rw [← hx] at hc HX
      clear hx
      by_cases hx0 : x = 0
      · subst hx0
        have hc' : w.cell? ⟨bv, i, none⟩ = some (.int .u8 0) := hc
        clear hc
        have z0 := frozen_of_heap (o := i) HP.out.who
        obtain ⟨M, hM⟩ : ∃ M, M = i * size := ⟨_, rfl⟩
        have hle : i * size ≤ ws.length * size := Nat.mul_le_mul_right _ (Nat.le_of_lt hlt)
        have hmul : (i : Int) * (size : Int) = (M : Int) := by rw [hM, Int.natCast_mul]
        rw [← hM] at hle
        have hMb : M ≤ 268435456 := by rw [hM]; exact Nat.mul_le_mul (show i ≤ 256 by omega) hs
        have wM : IntKind.i64.wrap (M : Int) = M := by rw [IntKind.wrap_i64]; omega
        have wU : IntKind.u32.wrap (M : Int) = M := by rw [IntKind.wrap_u32]; omega
        have wA : IntKind.u32.wrap ((at_ : Int) + (M : Int)) = ((at_ + M : Nat) : Int) := by rw [IntKind.wrap_u32]; omega
        have HM := hid hM
        clear hM
        obtain ⟨w1, hw1⟩ : ∃ w1, w1 = w.setCell ⟨bv, i, none⟩ (.int .u8 1) := ⟨_, rfl⟩
        have F1 : Fr [bv] w w1 := hw1 ▸ (Fr.refl [bv] w).setCell (by simp) _
        have e1 := F1.cell c1 (by simpa using hne)
        have e2 := F1.cell c2 (by simpa using hne)
        have HPP := hid (show RPoolA w1 bq br at_ size bv (ws.set i 1) from hw1 ▸ HP.out.setWho i 1)
        go_wp2_with fail
        rw [← hw1]
        clear hw1
        go_quiet (fail)
        go_wp2
        go_ret2
        refine .inl ⟨i, hlt, HX.out, I.out, by rw [← HM.out]; simp, ?_, F1.drewN _⟩
        exact ⟨HPP.out.blk, HPP.out.who⟩
      · have hxn : ¬ x.toNat = 0 := fun h => hx0 (UInt8.toNat_inj.1 h)
        have HX0 := hid hx0
        have hxb : ((x.toNat : Int) == 0) = false := by simp; omega
        generalize x.toNat = y at *
        clear hx0
        go_wp2
        go_round
        case rel => exact ⟨i + 1, by omega, by go_num, (fun j hj => by rcases Nat.eq_or_lt_of_le (Nat.le_of_lt_succ hj) with e | e; (subst e; rw [HX.out]; exact fun h => HX0.out (Option.some.inj h)); exact I.out j e : ∀ j : Nat, j < i + 1 → ws[j]? ≠ some 0)⟩
        case measure => simp [intOf]; omega
    · obtain rfl : i = ws.length := by omega
      go_wp2
      go_ret2
      refine .inr ⟨fun j hj => ?_, rfl, Fr.refl _ _⟩
      obtain ⟨h1, _⟩ := List.getElem?_eq_some_iff.1 hj
      exact I.out j h1 hj
theorem rleft_any (bq br at_ size bv : Nat) (ws : List UInt8) (w : World) (hP : RPoolA w bq br at_ size bv ws) (hl : ws.length ≤ 256) :
    Calls Try.prog 19 #[.pointer (some ⟨bq, 0, none⟩)] w fun e w' => e = .returned (.int .i64 (frees ws : Nat)) ∧ w' = w := by
  have c3 := hP.c3
  have HW := hid hP.who
  clear hP
  go_enter Try.func19, Try.ntmps19
  go_wp2
  go_loop [3, 4] (fun n i => ∃ k : Nat, k ≤ ws.length ∧ i = .int .i64 k ∧ n = .int .i64 (frees (ws.take k) : Nat)) (fun _ i => ws.length - (intOf i).toNat)
  case atStart => exact ⟨0, Nat.zero_le _, rfl, rfl⟩
  case round =>
    obtain ⟨k, hk, rfl, rfl⟩ := hrel
    have hf := frees_le (ws.take k)
    have hf2 : (ws.take k).length ≤ 256 := by simp; omega
    by_cases hlt : k < ws.length
    · have hc := who_cell HW.out k hlt
      have HF := hid (frees_take ws k hlt)
      have hlt' : (k : Int) < (ws.length : Int) := by omega
      generalize hx : ws[k].toNat = x at *
      clear hx
      by_cases hx0 : x = 0
      · subst hx0
        have HG : Hid (frees (ws.take (k + 1)) = frees (ws.take k) + 1) := by show _ = _; rw [HF.out]; simp
        clear HF
        go_wp2
        go_round
        case rel => exact ⟨k + 1, by omega, by go_num, by rw [HG.out]; go_num⟩
        case measure => simp [intOf]; omega
      · have hx1 : ((x : Int) == 0) = false := by simp; omega
        have HG : Hid (frees (ws.take (k + 1)) = frees (ws.take k)) := by show _ = _; rw [HF.out]; simp [hx0]
        clear HF
        go_wp2
        go_round
        case rel => exact ⟨k + 1, by omega, by go_num, by rw [HG.out]⟩
        case measure => simp [intOf]; omega
    · obtain rfl : k = ws.length := by omega
      go_wp2
      go_ret
      exact ⟨by simp, rfl⟩
end Go.Proofs.Ytbkfgidmjkbfmaa
