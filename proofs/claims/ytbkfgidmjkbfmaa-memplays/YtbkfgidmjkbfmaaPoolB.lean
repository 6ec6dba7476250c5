/-
  The walks of find, held, Put, Give, Take and Get of package mem's Pool, in general.
-/
import Derived.Test.YtbkfgidmjkbfmaaPool
namespace Go.Proofs.Ytbkfgidmjkbfmaa
open Go.RowKit Go.BigFrame
set_option linter.unusedVariables false
set_option linter.unusedSimpArgs false
set_option maxRecDepth 1000000
set_option maxHeartbeats 4000000

theorem PoolA.c0 {w : World} {bp bm at_ size bw : Nat} {ws : List UInt8} (h : PoolA w bp bm at_ size bw ws) : w.cell? ⟨bp, 0, none⟩ = some (.pointer (some ⟨bm, 0, none⟩)) := cell_of_heap h.blk rfl
theorem PoolA.c1 {w : World} {bp bm at_ size bw : Nat} {ws : List UInt8} (h : PoolA w bp bm at_ size bw ws) : w.cell? ⟨bp, 1, none⟩ = some (.int .u32 (at_ : Nat)) := cell_of_heap h.blk rfl
theorem PoolA.c2 {w : World} {bp bm at_ size bw : Nat} {ws : List UInt8} (h : PoolA w bp bm at_ size bw ws) : w.cell? ⟨bp, 2, none⟩ = some (.int .u32 (size : Nat)) := cell_of_heap h.blk rfl
theorem PoolA.c3 {w : World} {bp bm at_ size bw : Nat} {ws : List UInt8} (h : PoolA w bp bm at_ size bw ws) : w.cell? ⟨bp, 3, none⟩ = some (.slice (some ⟨bw, 0, none⟩) ws.length ws.length) := cell_of_heap h.blk rfl

/-- Is a buffer at a place? -/
def At (at_ size n a : Nat) : Prop := at_ ≤ a ∧ (a - at_) % size = 0 ∧ (a - at_) / size < n
theorem find_any (bp bm at_ size bw a : Nat) (ws : List UInt8) (w : World) (hP : PoolA w bp bm at_ size bw ws) (ha : a < 4294967296) (hat : at_ < 4294967296) (h1 : 1 ≤ size) (h2 : size < 4294967296) (hl : ws.length ≤ 256) :
    Calls Try.prog 65 #[.pointer (some ⟨bp, 0, none⟩), .int .u32 a] w fun e w' => ((At at_ size ws.length a ∧ e = .returned (.tuple #[.int .i64 ((a - at_) / size : Nat), .int .i64 0])) ∨ (¬ At at_ size ws.length a ∧ e = .returned (.tuple #[.int .i64 0, .int .i64 2]))) ∧ Fr [] w w' := by
  have c0 := hP.c0
  have c1 := hP.c1
  have c2 := hP.c2
  have c3 := hP.c3
  clear hP
  have hz : ¬ size = 0 := by omega
  have hz' : ¬ (size : Int) = 0 := by omega
  by_cases g1 : at_ ≤ a
  · obtain ⟨T, hT⟩ : ∃ T, T = a - at_ := ⟨_, rfl⟩
    obtain ⟨R, hR⟩ : ∃ R, R = T % size := ⟨_, rfl⟩
    obtain ⟨Q, hQ⟩ : ∃ Q, Q = T / size := ⟨_, rfl⟩
    have wT : IntKind.u32.wrap ((a : Int) - (at_ : Int)) = (T : Int) := by rw [IntKind.wrap_u32]; omega
    have d1 : decide ((a : Int) < (at_ : Int)) = false := by simp; omega
    have d1' : decide (a < at_) = false := by simp; omega
    have rT : (T : Int) % (size : Int) = (R : Int) := by rw [hR, Int.natCast_emod]
    have qT : (T : Int) / (size : Int) = (Q : Int) := by rw [hQ, Int.natCast_ediv]
    have qB : Q < 4294967296 := by rw [hQ]; exact Nat.lt_of_le_of_lt (Nat.div_le_self _ _) (by omega)
    have EQ := hid (show (a - at_) % size = R ∧ (a - at_) / size = Q by rw [hR, hQ, hT]; exact ⟨rfl, rfl⟩)
    clear hT hR hQ
    by_cases g2 : R = 0
    · subst g2
      by_cases g3 : Q < ws.length
      · have d3 : decide ((ws.length : Int) ≤ (Q : Int)) = false := by simp; omega
        have d3' : decide (ws.length ≤ Q) = false := by simp; omega
        go_enter Try.func65, Try.ntmps65
        go_wp2_with (go_at_call 53; refine (pnone_pool bp bm _ c0).mono ?_; rintro e w' ⟨rfl, hw⟩; subst hw)
        go_quiet (fail)
        go_wp2
        go_quiet (fail)
        go_wp2
        go_ret2
        exact ⟨.inl ⟨⟨g1, EQ.out.1, by rw [EQ.out.2]; exact g3⟩, by rw [EQ.out.2]; rfl⟩, ((Fr.refl _ _).drewN _).drewN _⟩
      · have d3 : decide ((ws.length : Int) ≤ (Q : Int)) = true := by simp; omega
        have d3' : decide (ws.length ≤ Q) = true := by simp; omega
        go_enter Try.func65, Try.ntmps65
        go_wp2_with (go_at_call 53; refine (pnone_pool bp bm _ c0).mono ?_; rintro e w' ⟨rfl, hw⟩; subst hw)
        go_quiet (fail)
        go_wp2
        go_ret2
        exact ⟨.inr ⟨fun h => g3 (by rw [← EQ.out.2]; exact h.2.2), rfl⟩, (Fr.refl _ _).drewN _⟩
    · have d2 : ((R : Int) != 0) = true := by simp; omega
      have d2' : ((R : Int) == 0) = false := by simp; omega
      go_enter Try.func65, Try.ntmps65
      go_wp2_with (go_at_call 53; refine (pnone_pool bp bm _ c0).mono ?_; rintro e w' ⟨rfl, hw⟩; subst hw)
      go_quiet (fail)
      go_wp2
      go_ret2
      exact ⟨.inr ⟨fun h => g2 (by rw [← EQ.out.1]; exact h.2.1), rfl⟩, (Fr.refl _ _).drewN _⟩
  · have d1 : decide ((a : Int) < (at_ : Int)) = true := by simp; omega
    have d1' : decide (a < at_) = true := by simp; omega
    go_enter Try.func65, Try.ntmps65
    go_wp2_with (go_at_call 53; refine (pnone_pool bp bm _ c0).mono ?_; rintro e w' ⟨rfl, hw⟩; subst hw)
    go_quiet (fail)
    go_wp2
    go_ret2
    exact ⟨.inr ⟨fun h => g1 h.1, rfl⟩, (Fr.refl _ _).drewN _⟩

/-- What 'held' says. -/
theorem held_any (bp bm at_ size bw a : Nat) (who : UInt8) (ws : List UInt8) (w : World) (hP : PoolA w bp bm at_ size bw ws) (ha : a < 4294967296) (hat : at_ < 4294967296) (h1 : 1 ≤ size) (h2 : size < 4294967296) (hl : ws.length ≤ 256) :
    Calls Try.prog 61 #[.pointer (some ⟨bp, 0, none⟩), .int .u32 a, .int .u8 (who.toNat : Nat)] w fun e w' =>
      ((At at_ size ws.length a ∧ ws[(a - at_) / size]? = some who ∧ e = .returned (.tuple #[.int .i64 ((a - at_) / size : Nat), .int .i64 0])) ∨ (At at_ size ws.length a ∧ ws[(a - at_) / size]? ≠ some who ∧ e = .returned (.tuple #[.int .i64 0, .int .i64 3])) ∨ (¬ At at_ size ws.length a ∧ e = .returned (.tuple #[.int .i64 0, .int .i64 2]))) ∧ Fr [] w w' := by
  have H := hid (find_any bp bm at_ size bw a ws w hP ha hat h1 h2 hl)
  have HP := hid hP
  clear hP
  go_enter Try.func61, Try.ntmps61
  go_wp2_with fail
  refine H.out.mono ?_
  rintro e w1 ⟨⟨hA, rfl⟩ | ⟨hA, rfl⟩, hF⟩
  · have hi := hA.2.2
    have c3 := (HP.out.fr hF (by simp) (by simp)).c3
    have hc := who_cell (HP.out.fr hF (by simp) (by simp)).who _ hi
    have HA := hid hA
    clear hA
    obtain ⟨i, hq⟩ : ∃ i, i = (a - at_) / size := ⟨_, rfl⟩
    have HW := hid (show ws[(a - at_) / size]? = some (ws[(a - at_) / size]) from List.getElem?_eq_getElem hi)
    obtain ⟨x, hx⟩ : ∃ x, x = ws[(a - at_) / size] := ⟨_, rfl⟩
    rw [← hx] at hc HW
    clear hx
    have HQ := hid hq
    rw [← hq] at hc hi HW ⊢
    clear hq
    have hi' : (i : Int) < (ws.length : Int) := by omega
    by_cases hxw : x = who
    · subst hxw
      go_wp2
      go_ret2
      exact ⟨.inl ⟨HA.out, by rw [← HQ.out]; exact HW.out, by rw [← HQ.out]; rfl⟩, hF⟩
    · have hxn : ¬ x.toNat = who.toNat := fun h => hxw (UInt8.toNat_inj.1 h)
      have hxb : ((x.toNat : Int) == (who.toNat : Int)) = false := by simp; omega
      have HX := hid hxw
      generalize x.toNat = y at *
      generalize who.toNat = z at *
      clear hxw
      go_wp2
      go_ret2
      exact ⟨.inr (.inl ⟨HA.out, by rw [← HQ.out, HW.out]; intro h; cases h; exact HX.out rfl, rfl⟩), hF⟩
  · go_wp2
    go_ret2
    exact ⟨.inr (.inr ⟨hA, rfl⟩), hF⟩

theorem PoolA.setWho {w : World} {bp bm at_ size bw : Nat} {ws : List UInt8} (h : PoolA w bp bm at_ size bw ws) (i : Nat) (x : UInt8) : PoolA (w.setCell ⟨bw, i, none⟩ (.int .u8 (x.toNat : Nat))) bp bm at_ size bw (ws.set i x) := by
  refine ⟨?_, setW h.who i x⟩
  rw [List.length_set]
  exact ((Fr.refl [bw] w).setCell (by simp) _).heap h.blk (by simpa using h.ne)

/-- What Put does: which error, or the buffer is free. -/
theorem pput_any (bp bm at_ size bw a : Nat) (ws : List UInt8) (w : World) (hP : PoolA w bp bm at_ size bw ws) (ha : a < 4294967296) (hat : at_ < 4294967296) (h1 : 1 ≤ size) (h2 : size < 4294967296) (hl : ws.length ≤ 256) :
    Calls Try.prog 29 #[.pointer (some ⟨bp, 0, none⟩), .int .u32 a] w fun e w' =>
      (At at_ size ws.length a ∧ ws[(a - at_) / size]? = some 1 ∧ e = .returned (.int .i64 0) ∧ PoolA w' bp bm at_ size bw (ws.set ((a - at_) / size) 0) ∧ Fr [bw] w w') ∨ (At at_ size ws.length a ∧ ws[(a - at_) / size]? ≠ some 1 ∧ e = .returned (.int .i64 3) ∧ Fr [] w w') ∨ (¬ At at_ size ws.length a ∧ e = .returned (.int .i64 2) ∧ Fr [] w w') := by
  have H := hid (held_any bp bm at_ size bw a 1 ws w hP ha hat h1 h2 hl)
  have HP := hid hP
  clear hP
  go_enter Try.func29, Try.ntmps29
  go_wp2_with fail
  refine H.out.mono ?_
  rintro e w1 ⟨⟨hA, hw, rfl⟩ | ⟨hA, hw, rfl⟩ | ⟨hA, rfl⟩, hF⟩
  · have hi := hA.2.2
    have hP1 := HP.out.fr hF (by simp) (by simp)
    have c3 := hP1.c3
    have HP1 := hid hP1
    have z0 := frozen_of_heap (o := (a - at_) / size) hP1.who
    have hc := who_cell hP1.who _ hi
    have HA := hid hA
    have HW := hid hw
    clear hA hw hP1
    obtain ⟨i, hq⟩ : ∃ i, i = (a - at_) / size := ⟨_, rfl⟩
    have HQ := hid hq
    rw [← hq] at hi z0 ⊢
    have hc' : ∃ x, w1.cell? ⟨bw, i, none⟩ = some x := ⟨_, by rw [hq]; exact hc⟩
    obtain ⟨x, hc'⟩ := hc'
    clear hq hc
    have hi' : (i : Int) < (ws.length : Int) := by omega
    go_wp2
    go_ret
    refine .inl ⟨HA.out, HW.out, rfl, ?_, (hF.mono (by simp)).trans ((Fr.refl [bw] w1).setCell (p := ⟨bw, i, none⟩) (by simp) (.int .u8 0)) (fun t ht => .inl ht)⟩
    rw [← HQ.out]
    exact HP1.out.setWho i 0
  · go_wp2
    go_ret
    exact .inr (.inl ⟨hA, hw, rfl, hF⟩)
  · go_wp2
    go_ret
    exact .inr (.inr ⟨hA, rfl, hF⟩)

theorem PoolA.apart {w : World} {bM bm bb k bp at_ size bw : Nat} {lv : Value} {l : List (Nat × Nat)} {bs ws : List UInt8} (hM : MemA w bM bm bb k lv l bs) (hP : PoolA w bp bm at_ size bw ws) :
    bp ≠ bm ∧ bw ≠ bm ∧ bw ≠ bM ∧ bp ≠ bM ∧ bp ≠ bb ∧ ∀ g, lv.ownBlock = some g → g ≠ bp ∧ g ≠ bw := by
  refine ⟨fun e => ?_, fun e => ?_, fun e => ?_, fun e => ?_, fun e => ?_, fun g hg => ⟨Row.ne hM.mid.row hP.blk (by decide) g hg, Row.ne hM.mid.row hP.who (by decide) g hg⟩⟩
  · subst e; have := hP.blk; rw [hM.mid.blk] at this; cases this
  · subst e; have := hP.who; rw [hM.mid.blk] at this; simp at this
  · subst e; have := hP.who; rw [hM.top] at this; simp at this
  · subst e; have := hP.blk; rw [hM.top] at this; cases this
  · subst e; have := hP.blk; rw [hM.bytes] at this; simp at this
/-- Behind lending or taking back: a buffer is another one's. -/
theorem turned {w w6 : World} {bM bm bb k bp at_ size bw : Nat} {lv lv' : Value} {l l' : List (Nat × Nat)} {bs ws : List UInt8} (hM : MemA w bM bm bb k lv l bs) (hP : PoolA w bp bm at_ size bw ws) (hne : bb ≠ bw) (h5 : MemB w6 bm bb k lv' l') (h7 : Fr (bm :: lv.ownBlock.toList) w w6) (i : Nat) (x : UInt8) :
    MemA (w6.setCell ⟨bw, i, none⟩ (.int .u8 (x.toNat : Nat))) bM bm bb k lv' l' bs ∧ PoolA (w6.setCell ⟨bw, i, none⟩ (.int .u8 (x.toNat : Nat))) bp bm at_ size bw (ws.set i x) ∧ Fr (bw :: bm :: lv.ownBlock.toList) w (w6.setCell ⟨bw, i, none⟩ (.int .u8 (x.toNat : Nat))) := by
  have ap := PoolA.apart hM hP
  have hM6 := hM.mid' h5 h7
  have hP6 : PoolA w6 bp bm at_ size bw ws := hP.fr h7 (by simp; exact ⟨ap.1, fun e => (ap.2.2.2.2.2 _ e).1 rfl⟩) (by simp; exact ⟨ap.2.1, fun e => (ap.2.2.2.2.2 _ e).2 rfl⟩)
  have ap6 := PoolA.apart hM6 hP6
  have hS : Fr [bw] w6 (w6.setCell ⟨bw, i, none⟩ (.int .u8 (x.toNat : Nat))) := (Fr.refl [bw] w6).setCell (by simp) _
  refine ⟨hM6.fr hS (by simp; exact Ne.symm ap.2.2.1) (by simp; exact Ne.symm ap.2.1) (by simp; exact hne) (fun g hg => by simp; exact (ap6.2.2.2.2.2 g hg).2), hP6.setWho i x, (h7.mono (T := bw :: bm :: lv.ownBlock.toList) (fun t ht => List.mem_cons_of_mem _ ht)).trans hS (fun t ht => .inl (by simp at ht; subst ht; simp))⟩
/-- What Give does. -/
def Gives (w w' : World) (bM bp bm bb k at_ size bw a : Nat) (ws : List UInt8) (lv : Value) (l : List (Nat × Nat)) (bs : List UInt8) (c : Int) : Prop :=
  (c = 2 ∧ ¬ At at_ size ws.length a ∧ Fr [] w w') ∨ (c = 3 ∧ At at_ size ws.length a ∧ ws[(a - at_) / size]? ≠ some 1 ∧ Fr [] w w') ∨
  (At at_ size ws.length a ∧ ws[(a - at_) / size]? = some 1 ∧ ((c = 10 ∧ k < a + size) ∨ (c = 11 ∧ a + size ≤ k ∧ ∃ b, a ≤ b ∧ b < a + size ∧ In l b)) ∧ Fr [] w w') ∨
  (c = 0 ∧ At at_ size ws.length a ∧ ws[(a - at_) / size]? = some 1 ∧ a + size ≤ k ∧ ∃ lv' l', MemA w' bM bm bb k lv' l' bs ∧ PoolA w' bp bm at_ size bw (ws.set ((a - at_) / size) 2) ∧
    (∀ b, In l' b ↔ In l b ∨ (a ≤ b ∧ b < a + size)) ∧ (∀ g, lv'.ownBlock = some g → lo w lv ≤ g) ∧ Fr (bw :: bm :: lv.ownBlock.toList) w w')
theorem pgive_any (bM bp bm bb k at_ size bw a : Nat) (ws : List UInt8) (lv : Value) (l : List (Nat × Nat)) (bs : List UInt8) (w : World) (hM : MemA w bM bm bb k lv l bs) (hP : PoolA w bp bm at_ size bw ws) (hne : bb ≠ bw)
    (ha : a < 4294967296) (hat : at_ < 4294967296) (h1 : 1 ≤ size) (h2 : size < 4294967296) (hl : ws.length ≤ 256) :
    Calls Try.prog 30 #[.pointer (some ⟨bp, 0, none⟩), .int .u32 a] w fun e w' => ∃ c, e = .returned (.int .i64 c) ∧ Gives w w' bM bp bm bb k at_ size bw a ws lv l bs c := by
  have H := hid (held_any bp bm at_ size bw a 1 ws w hP ha hat h1 h2 hl)
  have HP := hid hP
  have HM := hid hM
  have HNE := hid hne
  clear hP hM hne
  go_enter Try.func30, Try.ntmps30
  go_wp2_with fail
  refine H.out.mono ?_
  rintro e w1 ⟨⟨hA, hw, rfl⟩ | ⟨hA, hw, rfl⟩ | ⟨hA, rfl⟩, hF⟩
  · have hi := hA.2.2
    have HP1 := hid (HP.out.fr hF (by simp) (by simp))
    have HM1 := hid (HM.out.fr0 hF)
    have c0 := HP1.out.c0
    have c2 := HP1.out.c2
    have HA := hid hA
    have HW := hid hw
    have HF := hid hF
    clear hA hw hF
    obtain ⟨i, hq⟩ : ∃ i, i = (a - at_) / size := ⟨_, rfl⟩
    have HQ := hid hq
    rw [← hq] at hi ⊢
    clear hq
    have hi' : (i : Int) < (ws.length : Int) := by omega
    go_wp2_with fail
    go_region_law ((refine step_call rfl 58 #[.tmp 19, .tmp 25] #[77, 59] rfl he58 #[.pointer (some ⟨bm, 0, none⟩), .agg #[.int .u32 (a : Nat), .int .u32 (size : Nat)]] (by kernel_rfl) ?_; refine (lend_any bm bb k a size lv l _ (HM1.out.mid.fr (show Fr [] w1 _ from Fr.drew (Fr.refl _ _)) (by simp) (by simp)) ha h2).mono ?_; rintro e w6 ⟨c, rfl, hL⟩; refine ⟨_, rfl, ?_⟩))
    all_goals
      rcases (hL.pre (show Fr [] w1 _ from Fr.drew (Fr.refl _ _))).pre HF.out with ⟨rfl, g2, g3⟩ | ⟨rfl, g2, g3, g4, g5⟩ | ⟨rfl, g2, g3, g4, lv', l', g5, g6, g8, g7⟩
      · go_wp2
        go_ret
        exact ⟨10, rfl, .inr (.inr (.inl ⟨HA.out, HW.out, .inl ⟨rfl, by omega⟩, g3⟩))⟩
      · go_wp2
        go_ret
        exact ⟨_, rfl, .inr (.inr (.inl ⟨HA.out, HW.out, .inr ⟨rfl, g3, g4⟩, g5⟩))⟩
      · have ap := PoolA.apart HM.out HP.out
        have hP6 : PoolA w6 bp bm at_ size bw ws := HP.out.fr g7 (by simp; exact ⟨ap.1, fun e => (ap.2.2.2.2.2 _ e).1 rfl⟩) (by simp; exact ⟨ap.2.1, fun e => (ap.2.2.2.2.2 _ e).2 rfl⟩)
        have c3 := hP6.c3
        have z0 := frozen_of_heap (o := i) hP6.who
        have hc := who_cell hP6.who i hi
        have T1 := hid (turned HM.out HP.out HNE.out g5 g7 i 2)
        have G8 := hid g8
        have G6 := hid g6
        have G3 := hid g3
        clear ap hP6 g5 g7 g8 g6 hL g4
        obtain ⟨x, hc⟩ : ∃ x, w6.cell? ⟨bw, i, none⟩ = some x := ⟨_, hc⟩
        go_wp2
        go_ret
        exact ⟨0, rfl, .inr (.inr (.inr ⟨rfl, HA.out, HW.out, G3.out, lv', l', T1.out.1, by rw [← HQ.out]; exact T1.out.2.1, G6.out, G8.out, T1.out.2.2⟩))⟩
  · go_wp2
    go_ret
    exact ⟨3, rfl, .inr (.inl ⟨rfl, hA, hw, hF⟩)⟩
  · go_wp2
    go_ret
    exact ⟨2, rfl, .inl ⟨rfl, hA, hF⟩⟩
/-- What Take does. -/
def Takes (w w' : World) (bM bp bm bb k at_ size bw a : Nat) (ws : List UInt8) (lv : Value) (l : List (Nat × Nat)) (bs : List UInt8) (c : Int) : Prop :=
  (c = 2 ∧ ¬ At at_ size ws.length a ∧ Fr [] w w') ∨ (c = 3 ∧ At at_ size ws.length a ∧ ws[(a - at_) / size]? ≠ some 2 ∧ Fr [] w w') ∨
  (At at_ size ws.length a ∧ ws[(a - at_) / size]? = some 2 ∧ ((c = 10 ∧ k < a + size) ∨ (c = 12 ∧ a + size ≤ k ∧ ¬ ∀ b, a ≤ b → b < a + size → In l b)) ∧ Fr [] w w') ∨
  (c = 0 ∧ At at_ size ws.length a ∧ ws[(a - at_) / size]? = some 2 ∧ a + size ≤ k ∧ ∃ lv' l', MemA w' bM bm bb k lv' l' bs ∧ PoolA w' bp bm at_ size bw (ws.set ((a - at_) / size) 1) ∧
    (∀ b, In l' b ↔ In l b ∧ ¬ (a ≤ b ∧ b < a + size)) ∧ (∀ g, lv'.ownBlock = some g → lo w lv ≤ g) ∧ Fr (bw :: bm :: lv.ownBlock.toList) w w')
theorem ptake_any (bM bp bm bb k at_ size bw a : Nat) (ws : List UInt8) (lv : Value) (l : List (Nat × Nat)) (bs : List UInt8) (w : World) (hM : MemA w bM bm bb k lv l bs) (hP : PoolA w bp bm at_ size bw ws) (hne : bb ≠ bw)
    (ha : a < 4294967296) (hat : at_ < 4294967296) (h1 : 1 ≤ size) (h2 : size < 4294967296) (hl : ws.length ≤ 256) :
    Calls Try.prog 31 #[.pointer (some ⟨bp, 0, none⟩), .int .u32 a] w fun e w' => ∃ c, e = .returned (.int .i64 c) ∧ Takes w w' bM bp bm bb k at_ size bw a ws lv l bs c := by
  have H := hid (held_any bp bm at_ size bw a 2 ws w hP ha hat h1 h2 hl)
  have HP := hid hP
  have HM := hid hM
  have HNE := hid hne
  clear hP hM hne
  go_enter Try.func31, Try.ntmps31
  go_wp2_with fail
  refine H.out.mono ?_
  rintro e w1 ⟨⟨hA, hw, rfl⟩ | ⟨hA, hw, rfl⟩ | ⟨hA, rfl⟩, hF⟩
  · have hi := hA.2.2
    have HP1 := hid (HP.out.fr hF (by simp) (by simp))
    have HM1 := hid (HM.out.fr0 hF)
    have c0 := HP1.out.c0
    have c2 := HP1.out.c2
    have HA := hid hA
    have HW := hid hw
    have HF := hid hF
    clear hA hw hF
    obtain ⟨i, hq⟩ : ∃ i, i = (a - at_) / size := ⟨_, rfl⟩
    have HQ := hid hq
    rw [← hq] at hi ⊢
    clear hq
    have hi' : (i : Int) < (ws.length : Int) := by omega
    go_wp2_with fail
    go_region_law ((refine step_call rfl 59 #[.tmp 19, .tmp 25] #[77, 59] rfl he59 #[.pointer (some ⟨bm, 0, none⟩), .agg #[.int .u32 (a : Nat), .int .u32 (size : Nat)]] (by kernel_rfl) ?_; refine (back_any bm bb k a size lv l _ (HM1.out.mid.fr (show Fr [] w1 _ from Fr.drew (Fr.refl _ _)) (by simp) (by simp)) ha h2).mono ?_; rintro e w6 ⟨c, rfl, hL⟩; refine ⟨_, rfl, ?_⟩))
    all_goals
      rcases (hL.pre (show Fr [] w1 _ from Fr.drew (Fr.refl _ _))).pre HF.out with ⟨rfl, g2, g3⟩ | ⟨rfl, g2, g3, g4, g5⟩ | ⟨rfl, g2, g3, g4, lv', l', g5, g6, g8, g7⟩
      · go_wp2
        go_ret
        exact ⟨10, rfl, .inr (.inr (.inl ⟨HA.out, HW.out, .inl ⟨rfl, by omega⟩, g3⟩))⟩
      · go_wp2
        go_ret
        exact ⟨_, rfl, .inr (.inr (.inl ⟨HA.out, HW.out, .inr ⟨rfl, g3, g4⟩, g5⟩))⟩
      · have ap := PoolA.apart HM.out HP.out
        have hP6 : PoolA w6 bp bm at_ size bw ws := HP.out.fr g7 (by simp; exact ⟨ap.1, fun e => (ap.2.2.2.2.2 _ e).1 rfl⟩) (by simp; exact ⟨ap.2.1, fun e => (ap.2.2.2.2.2 _ e).2 rfl⟩)
        have c3 := hP6.c3
        have z0 := frozen_of_heap (o := i) hP6.who
        have hc := who_cell hP6.who i hi
        have T1 := hid (turned HM.out HP.out HNE.out g5 g7 i 1)
        have G8 := hid g8
        have G6 := hid g6
        have G3 := hid g3
        clear ap hP6 g5 g7 g8 g6 hL g4
        obtain ⟨x, hc⟩ : ∃ x, w6.cell? ⟨bw, i, none⟩ = some x := ⟨_, hc⟩
        go_wp2
        go_ret
        exact ⟨0, rfl, .inr (.inr (.inr ⟨rfl, HA.out, HW.out, G3.out, lv', l', T1.out.1, by rw [← HQ.out]; exact T1.out.2.1, G6.out, G8.out, T1.out.2.2⟩))⟩
  · go_wp2
    go_ret
    exact ⟨3, rfl, .inr (.inl ⟨rfl, hA, hw, hF⟩)⟩
  · go_wp2
    go_ret
    exact ⟨2, rfl, .inl ⟨rfl, hA, hF⟩⟩

theorem get_miss (bp bm at_ size bw : Nat) (ws : List UInt8) (w : World) (hP : PoolA w bp bm at_ size bw ws) (hl : ws.length ≤ 256) (hno : ∀ j (h : j < ws.length), ws[j] ≠ 0) :
    Calls Try.prog 28 #[.pointer (some ⟨bp, 0, none⟩)] w fun e w' => e = .returned (.tuple #[.int .u32 0, .int .i64 6]) ∧ w' = w := by
  have c0 := cell_of_heap (o := 0) (v := .pointer (some ⟨bm, 0, none⟩)) hP.blk rfl
  have c3 := cell_of_heap (o := 3) (v := .slice (some ⟨bw, 0, none⟩) ws.length ws.length) hP.blk rfl
  have HP := hid hP
  have HN := hid hno
  clear hP hno
  go_enter Try.func28, Try.ntmps28
  go_wp2_with (go_at_call 53; refine (pnone_pool bp bm _ c0).mono ?_; rintro e w' ⟨rfl, hw⟩; subst hw)
  go_loop [13] (fun q => ∃ k : Nat, k ≤ ws.length ∧ q = .int .i64 k) (fun q => ws.length - (intOf q).toNat)
  case atStart => exact ⟨0, Nat.zero_le _, rfl⟩
  case round =>
    obtain ⟨k, hk, rfl⟩ := hrel
    by_cases hlt : k < ws.length
    · have hlt' : (k : Int) < (ws.length : Int) := by omega
      have hc := who_cell HP.out.who k hlt
      have hx : ¬ (ws[k]).toNat = 0 := fun h => HN.out k hlt (UInt8.toNat_inj.1 h)
      generalize (ws[k]).toNat = x at *
      have hx1 : ((x : Int) == 0) = false := by simp; omega
      go_wp2
      go_round
      case rel => exact ⟨k + 1, by omega, by go_num⟩
      case measure => simp [intOf]; omega
    · obtain rfl : k = ws.length := by omega
      go_wp2
      go_ret2
      exact ⟨rfl, rfl⟩
/-- What Get does: the first that is free, or none. -/
theorem pget_any (bp bm at_ size bw : Nat) (ws : List UInt8) (w : World) (hP : PoolA w bp bm at_ size bw ws) (hl : ws.length ≤ 256) (hb : at_ + ws.length * size < 4294967296) :
    Calls Try.prog 28 #[.pointer (some ⟨bp, 0, none⟩)] w fun e w' => (∃ i : Nat, i < ws.length ∧ ws[i]? = some 0 ∧ (∀ j : Nat, j < i → ws[j]? ≠ some 0) ∧ e = .returned (.tuple #[.int .u32 ((at_ + i * size : Nat) : Int), .int .i64 0]) ∧ PoolA w' bp bm at_ size bw (ws.set i 1) ∧ Fr [bw] w w') ∨
      ((∀ j : Nat, ws[j]? ≠ some 0) ∧ e = .returned (.tuple #[.int .u32 0, .int .i64 6]) ∧ Fr [] w w') := by
  by_cases h : ∃ i : Nat, ws[i]? = some 0
  · obtain ⟨i, hi, hno⟩ : ∃ i : Nat, ws[i]? = some 0 ∧ ∀ j : Nat, j < i → ws[j]? ≠ some 0 := by
      obtain ⟨i, hi⟩ := h
      induction i using Nat.strongRecOn with
      | _ i ih =>
        by_cases hj : ∃ j : Nat, j < i ∧ ws[j]? = some 0
        · obtain ⟨j, h1, h2⟩ := hj
          exact ih j h1 h2
        · exact ⟨i, hi, fun j h1 h2 => hj ⟨j, h1, h2⟩⟩
    obtain ⟨hlt, h0⟩ := List.getElem?_eq_some_iff.1 hi
    have hle : i * size ≤ ws.length * size := Nat.mul_le_mul_right _ (Nat.le_of_lt hlt)
    exact (get_hit bp bm at_ size bw i ws w hP hl hlt h0 (fun j hj e => hno j hj (by rw [List.getElem?_eq_getElem (by omega), e])) (by omega) (by omega)).mono fun e w' ⟨h1, h2, h3⟩ => .inl ⟨i, hlt, hi, hno, h1, h2, h3⟩
  · exact (get_miss bp bm at_ size bw ws w hP hl (fun j hj e => h ⟨j, by rw [List.getElem?_eq_getElem hj, e]⟩)).mono fun e w' ⟨h1, h2⟩ => .inr ⟨fun j hj => h ⟨j, hj⟩, h1, h2 ▸ Fr.refl _ _⟩
end Go.Proofs.Ytbkfgidmjkbfmaa
