/-
  The walk of Turn of the pools of the document's answer for layer 1 (package pharosref01): a buffer is another one's. No statement is proved here.
-/
import Derived.Test.YtbkfgidmjkbfmaaRef5
namespace Go.Proofs.Ytbkfgidmjkbfmaa
open Go.RowKit Go.BigFrame
set_option linter.unusedVariables false
set_option linter.unusedSimpArgs false
set_option maxRecDepth 1000000
set_option maxHeartbeats 4000000

theorem he48 (args : Array Value) (w : World) : (callFunc 48 args).run Try.prog w = .ok (.enter 48 args) w := enters Try.func48 (by kernel_rfl) (by kernel_rfl) args w
theorem he49 (args : Array Value) (w : World) : (callFunc 49 args).run Try.prog w = .ok (.enter 49 args) w := enters Try.func49 (by kernel_rfl) (by kernel_rfl) args w

/-- What lending and taking back come to, by the document. -/
def RTurns (w w' : World) (bL k a n : Nat) (t : Bool) (err : Int) (l : List (Nat × Nat)) (c : Int) : Prop :=
  (c = 10 ∧ (n = 0 ∨ k < a + n) ∧ Fr [] w w') ∨ (c = err ∧ 1 ≤ n ∧ a + n ≤ k ∧ (¬ ∀ j, a ≤ j → j < a + n → (In l j ↔ (!t) = true)) ∧ Fr [] w w') ∨ (c = 0 ∧ 1 ≤ n ∧ a + n ≤ k ∧ (∀ j, a ≤ j → j < a + n → (In l j ↔ (!t) = true)) ∧ Turned w w' bL k a n t l)
theorem RTurns.pre {w w1 w' : World} {bL k a n : Nat} {t : Bool} {err : Int} {l : List (Nat × Nat)} {c : Int} (h : RTurns w1 w' bL k a n t err l c) (hF : Fr [] w w1) : RTurns w w' bL k a n t err l c := by
  rcases h with ⟨h1, h2, h3⟩ | ⟨h1, h2, h3, h4, h5⟩ | ⟨h1, h2, h3, h4, ls, g1, g2, g3, g4⟩
  · exact .inl ⟨h1, h2, hF.trans0 h3⟩
  · exact .inr (.inl ⟨h1, h2, h3, h4, hF.trans0 h5⟩)
  · exact .inr (.inr ⟨h1, h2, h3, h4, ls, g1, g2, g3, (hF.mono (by simp)).trans g4 (fun t ht => .inl ht)⟩)
theorem rlend_c (br bB bL k a n : Nat) (l : List (Nat × Nat)) (bs : List UInt8) (w : World) (hR : RefA w br bB bL k l bs) (ha : a < 4294967296) (hn : n < 4294967296) :
    Calls Try.prog 48 #[.pointer (some ⟨br, 0, none⟩), .agg #[.int .u32 a, .int .u32 n]] w fun e w' => ∃ c, e = .returned (.int .i64 c) ∧ RTurns w w' bL k a n true 11 l c :=
  (rlend_any br bB bL k a n l bs w hR ha hn).mono fun e w' h => by
    rcases h with ⟨h1, h2, h3⟩ | ⟨h1, h2, h3, h4, h5⟩ | ⟨h1, h2, h3, h4, h5⟩
    · exact ⟨10, h2, .inl ⟨rfl, h1, h3⟩⟩
    · exact ⟨11, h4, .inr (.inl ⟨rfl, h1, h2, h3, h5⟩)⟩
    · exact ⟨0, h4, .inr (.inr ⟨rfl, h1, h2, h3, h5⟩)⟩
theorem rback_c (br bB bL k a n : Nat) (l : List (Nat × Nat)) (bs : List UInt8) (w : World) (hR : RefA w br bB bL k l bs) (ha : a < 4294967296) (hn : n < 4294967296) :
    Calls Try.prog 49 #[.pointer (some ⟨br, 0, none⟩), .agg #[.int .u32 a, .int .u32 n]] w fun e w' => ∃ c, e = .returned (.int .i64 c) ∧ RTurns w w' bL k a n false 12 l c :=
  (rback_any br bB bL k a n l bs w hR ha hn).mono fun e w' h => by
    rcases h with ⟨h1, h2, h3⟩ | ⟨h1, h2, h3, h4, h5⟩ | ⟨h1, h2, h3, h4, h5⟩
    · exact ⟨10, h2, .inl ⟨rfl, h1, h3⟩⟩
    · exact ⟨12, h4, .inr (.inl ⟨rfl, h1, h2, h3, h5⟩)⟩
    · exact ⟨0, h4, .inr (.inr ⟨rfl, h1, h2, h3, h5⟩)⟩

/-- Behind the search: the buffer's number, and whose it is. -/
theorem RPoolA.at {w : World} {bq br at_ size bv a : Nat} {ws : List UInt8} (hP : RPoolA w bq br at_ size bv ws) (hA : At at_ size ws.length a) : ∃ i x, i = (a - at_) / size ∧ i < ws.length ∧ ws[i]? = some x ∧ w.cell? ⟨bv, i, none⟩ = some (.int .u8 (x.toNat : Nat)) ∧ w.frozen? ⟨bv, i, none⟩ = false :=
  ⟨(a - at_) / size, _, rfl, hA.2.2, List.getElem?_eq_getElem hA.2.2, who_cell hP.who _ hA.2.2, frozen_of_heap hP.who⟩

/-- What Turn comes to, by the document, where bytes are lent or taken back. -/
def RPT (w w' : World) (bq br bL k at_ size bv a : Nat) (ws : List UInt8) (l : List (Nat × Nat)) (frm to : UInt8) (t : Bool) (err c : Int) : Prop :=
  (c = 2 ∧ ¬ At at_ size ws.length a ∧ Fr [] w w') ∨ (c = 3 ∧ At at_ size ws.length a ∧ ws[(a - at_) / size]? ≠ some frm ∧ Fr [] w w') ∨
  (At at_ size ws.length a ∧ ws[(a - at_) / size]? = some frm ∧ ((c = 10 ∧ k < a + size) ∨ (c = err ∧ a + size ≤ k ∧ ¬ ∀ j, a ≤ j → j < a + size → (In l j ↔ (!t) = true))) ∧ Fr [] w w') ∨
  (c = 0 ∧ At at_ size ws.length a ∧ ws[(a - at_) / size]? = some frm ∧ a + size ≤ k ∧ (∀ j, a ≤ j → j < a + size → (In l j ↔ (!t) = true)) ∧ RPoolA w' bq br at_ size bv (ws.set ((a - at_) / size) to) ∧ ∃ w6, Turned w w6 bL k a size t l ∧ Fr [bv] w6 w')
theorem rpput_any (bq br at_ size bv a : Nat) (ws : List UInt8) (w : World) (hP : RPoolA w bq br at_ size bv ws) (ha : a < 4294967296) (hat : at_ < 4294967296) (h1 : 1 ≤ size) (h2 : size ≤ 1048576) (hl : ws.length ≤ 256) :
    Calls Try.prog 52 #[.pointer (some ⟨bq, 0, none⟩), .int .u32 a, .int .u8 1, .int .u8 0] w fun e w' =>
      (At at_ size ws.length a ∧ ws[(a - at_) / size]? = some 1 ∧ e = .returned (.int .i64 0) ∧ RPoolA w' bq br at_ size bv (ws.set ((a - at_) / size) 0) ∧ Fr [bv] w w') ∨ (At at_ size ws.length a ∧ ws[(a - at_) / size]? ≠ some 1 ∧ e = .returned (.int .i64 3) ∧ Fr [] w w') ∨ (¬ At at_ size ws.length a ∧ e = .returned (.int .i64 2) ∧ Fr [] w w') := by
  have H := hid (rfind_any bq br at_ size bv a ws w hP ha hat h1 h2 hl)
  have HP := hid hP
  clear hP
  go_enter Try.func52, Try.ntmps52
  go_wp2_with fail
  refine H.out.mono ?_
  rintro e w1 ⟨⟨hA, rfl⟩ | ⟨hA, rfl⟩, hF⟩
  · have hP1 := HP.out.fr hF (by simp) (by simp)
    obtain ⟨i, x, hq, hi, hx, hc, z0⟩ := hP1.at hA
    have c3 := hP1.c3
    have HP1 := hid hP1
    have HA := hid hA
    have HX := hid hx
    have HQ := hid hq
    rw [← hq]
    clear hP1 hA hx hq
    have hi' : (i : Int) < (ws.length : Int) := by omega
    have hn0 : decide ((i : Int) < 0) = false := by simp
    by_cases hx1 : x = 1
    · subst hx1
      have hc' : w1.cell? ⟨bv, i, none⟩ = some (.int .u8 1) := hc
      clear hc
      go_wp2
      go_ret
      refine .inl ⟨HA.out, by rw [← HQ.out]; exact HX.out, rfl, ?_, (hF.mono (by simp)).trans ((Fr.refl [bv] w1).setCell (p := ⟨bv, i, none⟩) (by simp) (.int .u8 0)) (fun t ht => .inl ht)⟩
      rw [← HQ.out]
      exact HP1.out.setWho i 0
    · have hxn : ¬ x.toNat = 1 := fun h => hx1 (UInt8.toNat_inj.1 h)
      have HX1 := hid hx1
      have hxb : ((x.toNat : Int) == 1) = false := by simp; omega
      generalize x.toNat = y at *
      clear hx1
      go_wp2
      go_ret
      exact .inr (.inl ⟨HA.out, by rw [← HQ.out, HX.out]; exact fun h => HX1.out (Option.some.inj h), rfl, hF⟩)
  · go_wp2
    go_ret
    exact .inr (.inr ⟨hA, rfl, hF⟩)

theorem rpgive_any (bq br bB bL k at_ size bv a : Nat) (ws : List UInt8) (l : List (Nat × Nat)) (bs : List UInt8) (w : World) (hR : RefA w br bB bL k l bs) (hP : RPoolA w bq br at_ size bv ws) (hne : bL ≠ bv) (ha : a < 4294967296) (hat : at_ < 4294967296) (h1 : 1 ≤ size) (h2 : size ≤ 1048576) (hl : ws.length ≤ 256) :
    Calls Try.prog 52 #[.pointer (some ⟨bq, 0, none⟩), .int .u32 a, .int .u8 1, .int .u8 2] w fun e w' => ∃ c : Int, e = .returned (.int .i64 c) ∧ RPT w w' bq br bL k at_ size bv a ws l 1 2 true 11 c := by
  have H := hid (rfind_any bq br at_ size bv a ws w hP ha hat h1 h2 hl)
  have HP := hid hP
  have HR := hid hR
  have HNE := hid hne
  have hk := hR.top
  clear hP hR hne
  go_enter Try.func52, Try.ntmps52
  go_wp2_with fail
  refine H.out.mono ?_
  rintro e w1 ⟨⟨hA, rfl⟩ | ⟨hA, rfl⟩, hF⟩
  · have hP1 := HP.out.fr hF (by simp) (by simp)
    obtain ⟨i, x, hq, hi, hx, hc, z0⟩ := hP1.at hA
    have c0 := hP1.c0
    have c2 := hP1.c2
    have c3 := hP1.c3
    have HP1 := hid hP1
    have HR1 := hid (HR.out.fr0 hF)
    have HA := hid hA
    have HX := hid hx
    have HQ := hid hq
    have HF := hid hF
    rw [← hq]
    clear hP1 hA hx hq hF
    have hi' : (i : Int) < (ws.length : Int) := by omega
    have hn0 : decide ((i : Int) < 0) = false := by simp
    by_cases hx1 : x = 1
    · subst hx1
      have hc' : w1.cell? ⟨bv, i, none⟩ = some (.int .u8 1) := hc
      clear hc
      have wS : IntKind.u32.wrap (size : Int) = size := by rw [IntKind.wrap_u32]; omega
      go_wp2_with fail
      go_region_law ((refine step_call rfl 48 #[.tmp 30, .tmp 37] #[30, 59] rfl he48 #[.pointer (some ⟨br, 0, none⟩), .agg #[.int .u32 (a : Nat), .int .u32 (size : Nat)]] (by kernel_rfl) ?_; refine (rlend_c br bB bL k a size l bs _ (HR1.out.fr0 (show Fr [] w1 _ from Fr.drew (Fr.refl _ _))) ha (by omega)).mono ?_; rintro e w6 ⟨c, rfl, hL⟩; refine ⟨_, rfl, ?_⟩))
      all_goals
        rcases (hL.pre (show Fr [] w1 _ from Fr.drew (Fr.refl _ _))).pre HF.out with ⟨rfl, g2, g3⟩ | ⟨rfl, g2, g3, g4, g5⟩ | ⟨rfl, g2, g3, g4, g5⟩
        · clear hL
          go_wp2
          go_ret
          exact ⟨10, rfl, .inr (.inr (.inl ⟨HA.out, by rw [← HQ.out]; exact HX.out, .inl ⟨rfl, by omega⟩, g3⟩))⟩
        · have G4 := hid g4
          clear g4 hL
          go_wp2
          go_ret
          exact ⟨_, rfl, .inr (.inr (.inl ⟨HA.out, by rw [← HQ.out]; exact HX.out, .inr ⟨rfl, g3, G4.out⟩, g5⟩))⟩
        · have G4 := hid g4
          have G5 := hid g5
          obtain ⟨_, _, _, _, f6⟩ := g5
          have bqL : bq ≠ bL := by
            intro e; subst e; obtain ⟨_, _, _, g⟩ := HR.out.lent; have := HP.out.blk; rw [g] at this; simp at this
          have hP6 := HP.out.fr f6 (by simpa using bqL) (by simpa using Ne.symm HNE.out)
          have c3' := hP6.c3
          have z6 := frozen_of_heap (o := i) hP6.who
          obtain ⟨x6, hc6⟩ : ∃ x, w6.cell? ⟨bv, i, none⟩ = some x := ⟨_, who_cell hP6.who i hi⟩
          have HP6 := hid hP6
          clear g4 hL hP6 f6
          go_wp2
          go_ret
          refine ⟨0, rfl, .inr (.inr (.inr ⟨rfl, HA.out, by rw [← HQ.out]; exact HX.out, g3, G4.out, ?_, w6, G5.out, (Fr.refl [bv] w6).setCell (p := ⟨bv, i, none⟩) (by simp) _⟩))⟩
          rw [← HQ.out]
          exact HP6.out.setWho i 2
    · have hxn : ¬ x.toNat = 1 := fun h => hx1 (UInt8.toNat_inj.1 h)
      have HX1 := hid hx1
      have hxb : ((x.toNat : Int) == 1) = false := by simp; omega
      generalize x.toNat = y at *
      clear hx1
      go_wp2
      go_ret
      exact ⟨3, rfl, .inr (.inl ⟨rfl, HA.out, by rw [← HQ.out, HX.out]; exact fun h => HX1.out (Option.some.inj h), HF.out⟩)⟩
  · go_wp2
    go_ret
    exact ⟨2, rfl, .inl ⟨rfl, hA, hF⟩⟩

theorem rptake_any (bq br bB bL k at_ size bv a : Nat) (ws : List UInt8) (l : List (Nat × Nat)) (bs : List UInt8) (w : World) (hR : RefA w br bB bL k l bs) (hP : RPoolA w bq br at_ size bv ws) (hne : bL ≠ bv) (ha : a < 4294967296) (hat : at_ < 4294967296) (h1 : 1 ≤ size) (h2 : size ≤ 1048576) (hl : ws.length ≤ 256) :
    Calls Try.prog 52 #[.pointer (some ⟨bq, 0, none⟩), .int .u32 a, .int .u8 2, .int .u8 1] w fun e w' => ∃ c : Int, e = .returned (.int .i64 c) ∧ RPT w w' bq br bL k at_ size bv a ws l 2 1 false 12 c := by
  have H := hid (rfind_any bq br at_ size bv a ws w hP ha hat h1 h2 hl)
  have HP := hid hP
  have HR := hid hR
  have HNE := hid hne
  have hk := hR.top
  clear hP hR hne
  go_enter Try.func52, Try.ntmps52
  go_wp2_with fail
  refine H.out.mono ?_
  rintro e w1 ⟨⟨hA, rfl⟩ | ⟨hA, rfl⟩, hF⟩
  · have hP1 := HP.out.fr hF (by simp) (by simp)
    obtain ⟨i, x, hq, hi, hx, hc, z0⟩ := hP1.at hA
    have c0 := hP1.c0
    have c2 := hP1.c2
    have c3 := hP1.c3
    have HP1 := hid hP1
    have HR1 := hid (HR.out.fr0 hF)
    have HA := hid hA
    have HX := hid hx
    have HQ := hid hq
    have HF := hid hF
    rw [← hq]
    clear hP1 hA hx hq hF
    have hi' : (i : Int) < (ws.length : Int) := by omega
    have hn0 : decide ((i : Int) < 0) = false := by simp
    by_cases hx1 : x = 2
    · subst hx1
      have hc' : w1.cell? ⟨bv, i, none⟩ = some (.int .u8 2) := hc
      clear hc
      have wS : IntKind.u32.wrap (size : Int) = size := by rw [IntKind.wrap_u32]; omega
      go_wp2_with fail
      go_region_law ((refine step_call rfl 49 #[.tmp 44, .tmp 51] #[30, 59] rfl he49 #[.pointer (some ⟨br, 0, none⟩), .agg #[.int .u32 (a : Nat), .int .u32 (size : Nat)]] (by kernel_rfl) ?_; refine (rback_c br bB bL k a size l bs _ (HR1.out.fr0 (show Fr [] w1 _ from Fr.drew (Fr.refl _ _))) ha (by omega)).mono ?_; rintro e w6 ⟨c, rfl, hL⟩; refine ⟨_, rfl, ?_⟩))
      all_goals
        rcases (hL.pre (show Fr [] w1 _ from Fr.drew (Fr.refl _ _))).pre HF.out with ⟨rfl, g2, g3⟩ | ⟨rfl, g2, g3, g4, g5⟩ | ⟨rfl, g2, g3, g4, g5⟩
        · clear hL
          go_wp2
          go_ret
          exact ⟨10, rfl, .inr (.inr (.inl ⟨HA.out, by rw [← HQ.out]; exact HX.out, .inl ⟨rfl, by omega⟩, g3⟩))⟩
        · have G4 := hid g4
          clear g4 hL
          go_wp2
          go_ret
          exact ⟨_, rfl, .inr (.inr (.inl ⟨HA.out, by rw [← HQ.out]; exact HX.out, .inr ⟨rfl, g3, G4.out⟩, g5⟩))⟩
        · have G4 := hid g4
          have G5 := hid g5
          obtain ⟨_, _, _, _, f6⟩ := g5
          have bqL : bq ≠ bL := by
            intro e; subst e; obtain ⟨_, _, _, g⟩ := HR.out.lent; have := HP.out.blk; rw [g] at this; simp at this
          have hP6 := HP.out.fr f6 (by simpa using bqL) (by simpa using Ne.symm HNE.out)
          have c3' := hP6.c3
          have z6 := frozen_of_heap (o := i) hP6.who
          obtain ⟨x6, hc6⟩ : ∃ x, w6.cell? ⟨bv, i, none⟩ = some x := ⟨_, who_cell hP6.who i hi⟩
          have HP6 := hid hP6
          clear g4 hL hP6 f6
          go_wp2
          go_ret
          refine ⟨0, rfl, .inr (.inr (.inr ⟨rfl, HA.out, by rw [← HQ.out]; exact HX.out, g3, G4.out, ?_, w6, G5.out, (Fr.refl [bv] w6).setCell (p := ⟨bv, i, none⟩) (by simp) _⟩))⟩
          rw [← HQ.out]
          exact HP6.out.setWho i 1
    · have hxn : ¬ x.toNat = 2 := fun h => hx1 (UInt8.toNat_inj.1 h)
      have HX1 := hid hx1
      have hxb : ((x.toNat : Int) == 2) = false := by simp; omega
      generalize x.toNat = y at *
      clear hx1
      go_wp2
      go_ret
      exact ⟨3, rfl, .inr (.inl ⟨rfl, HA.out, by rw [← HQ.out, HX.out]; exact fun h => HX1.out (Option.some.inj h), HF.out⟩)⟩
  · go_wp2
    go_ret
    exact ⟨2, rfl, .inl ⟨rfl, hA, hF⟩⟩
end Go.Proofs.Ytbkfgidmjkbfmaa
