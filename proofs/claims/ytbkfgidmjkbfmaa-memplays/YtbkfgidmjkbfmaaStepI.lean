/-
  The walks of Give and Take of package mem's Pool in general, with what was lent ahead of them. No statement is proved here.
-/
import Derived.Test.YtbkfgidmjkbfmaaStepH
namespace Go.Proofs.Ytbkfgidmjkbfmaa
open Go.RowKit Go.BigFrame
set_option linter.unusedVariables false
set_option linter.unusedSimpArgs false
set_option maxRecDepth 1000000
set_option maxHeartbeats 4000000

/-- What Give does, and what lay there. -/
def Givz (w w' : World) (bM bp bm bb k at_ size bw a : Nat) (ws : List UInt8) (lv : Value) (l : List (Nat × Nat)) (bs : List UInt8) (c : Int) : Prop :=
  (c = 2 ∧ ¬ At at_ size ws.length a ∧ Fr [] w w') ∨ (c = 3 ∧ At at_ size ws.length a ∧ ws[(a - at_) / size]? ≠ some 1 ∧ Fr [] w w') ∨
  (At at_ size ws.length a ∧ ws[(a - at_) / size]? = some 1 ∧ ((c = 10 ∧ k < a + size) ∨ (c = 11 ∧ a + size ≤ k ∧ ∃ b, a ≤ b ∧ b < a + size ∧ In l b)) ∧ Fr [] w w') ∨
  (c = 0 ∧ At at_ size ws.length a ∧ ws[(a - at_) / size]? = some 1 ∧ a + size ≤ k ∧ (∀ b, a ≤ b → b < a + size → ¬ In l b) ∧ ∃ lv' l', MemA w' bM bm bb k lv' l' bs ∧ PoolA w' bp bm at_ size bw (ws.set ((a - at_) / size) 2) ∧
    (∀ b, In l' b ↔ In l b ∨ (a ≤ b ∧ b < a + size)) ∧ (∀ g, lv'.ownBlock = some g → lo w lv ≤ g) ∧ Fr (bw :: bm :: lv.ownBlock.toList) w w')
theorem pgive_all (bM bp bm bb k at_ size bw a : Nat) (ws : List UInt8) (lv : Value) (l : List (Nat × Nat)) (bs : List UInt8) (w : World) (hM : MemA w bM bm bb k lv l bs) (hP : PoolA w bp bm at_ size bw ws) (hne : bb ≠ bw)
    (ha : a < 4294967296) (hat : at_ < 4294967296) (h1 : 1 ≤ size) (h2 : size < 4294967296) (hl : ws.length ≤ 256) :
    Calls Try.prog 30 #[.pointer (some ⟨bp, 0, none⟩), .int .u32 a] w fun e w' => ∃ c, e = .returned (.int .i64 c) ∧ Givz w w' bM bp bm bb k at_ size bw a ws lv l bs c := by
  have H := hid (held_any bp bm at_ size bw a 1 ws w hP ha hat h1 h2 hl)
  have HP := hid hP
  have HM := hid hM
  have HNE := hid hne
  clear hP hM hne
  go_enter Try.func30, Try.ntmps30
  go_wp2_with fail
  refine H.out.mono ?_
  rintro e w1 ⟨⟨hA, hw, rfl⟩ | ⟨hA, hw, rfl⟩ | ⟨hA, rfl⟩, hF⟩
  · have hi := hA.2.2
    have HP1 := hid (HP.out.fr hF (by simp) (by simp))
    have HM1 := hid (HM.out.fr0 hF)
    have c0 := HP1.out.c0
    have c2 := HP1.out.c2
    have HA := hid hA
    have HW := hid hw
    have HF := hid hF
    clear hA hw hF
    obtain ⟨i, hq⟩ : ∃ i, i = (a - at_) / size := ⟨_, rfl⟩
    have HQ := hid hq
    rw [← hq] at hi ⊢
    clear hq
    have hi' : (i : Int) < (ws.length : Int) := by omega
    go_wp2_with fail
    go_region_law ((refine step_call rfl 58 #[.tmp 19, .tmp 25] #[77, 59] rfl he58 #[.pointer (some ⟨bm, 0, none⟩), .agg #[.int .u32 (a : Nat), .int .u32 (size : Nat)]] (by kernel_rfl) ?_; refine (lend_any bm bb k a size lv l _ (HM1.out.mid.fr (show Fr [] w1 _ from Fr.drew (Fr.refl _ _)) (by simp) (by simp)) ha h2).mono ?_; rintro e w6 ⟨c, rfl, hL⟩; refine ⟨_, rfl, ?_⟩))
    all_goals
      rcases (hL.pre (show Fr [] w1 _ from Fr.drew (Fr.refl _ _))).pre HF.out with ⟨rfl, g2, g3⟩ | ⟨rfl, g2, g3, g4, g5⟩ | ⟨rfl, g2, g3, g4, lv', l', g5, g6, g8, g7⟩
      · go_wp2
        go_ret
        exact ⟨10, rfl, .inr (.inr (.inl ⟨HA.out, HW.out, .inl ⟨rfl, by omega⟩, g3⟩))⟩
      · go_wp2
        go_ret
        exact ⟨_, rfl, .inr (.inr (.inl ⟨HA.out, HW.out, .inr ⟨rfl, g3, g4⟩, g5⟩))⟩
      · have ap := PoolA.apart HM.out HP.out
        have hP6 : PoolA w6 bp bm at_ size bw ws := HP.out.fr g7 (by simp; exact ⟨ap.1, fun e => (ap.2.2.2.2.2 _ e).1 rfl⟩) (by simp; exact ⟨ap.2.1, fun e => (ap.2.2.2.2.2 _ e).2 rfl⟩)
        have c3 := hP6.c3
        have z0 := frozen_of_heap (o := i) hP6.who
        have hc := who_cell hP6.who i hi
        have T1 := hid (turned HM.out HP.out HNE.out g5 g7 i 2)
        have G8 := hid g8
        have G6 := hid g6
        have G3 := hid g3
        have G4 := hid g4
        clear ap hP6 g5 g7 g8 g6 hL g4
        obtain ⟨x, hc⟩ : ∃ x, w6.cell? ⟨bw, i, none⟩ = some x := ⟨_, hc⟩
        go_wp2
        go_ret
        exact ⟨0, rfl, .inr (.inr (.inr ⟨rfl, HA.out, HW.out, G3.out, G4.out, lv', l', T1.out.1, by rw [← HQ.out]; exact T1.out.2.1, G6.out, G8.out, T1.out.2.2⟩))⟩
  · go_wp2
    go_ret
    exact ⟨3, rfl, .inr (.inl ⟨rfl, hA, hw, hF⟩)⟩
  · go_wp2
    go_ret
    exact ⟨2, rfl, .inl ⟨rfl, hA, hF⟩⟩
/-- What Take does, and what lay there. -/
def Takz (w w' : World) (bM bp bm bb k at_ size bw a : Nat) (ws : List UInt8) (lv : Value) (l : List (Nat × Nat)) (bs : List UInt8) (c : Int) : Prop :=
  (c = 2 ∧ ¬ At at_ size ws.length a ∧ Fr [] w w') ∨ (c = 3 ∧ At at_ size ws.length a ∧ ws[(a - at_) / size]? ≠ some 2 ∧ Fr [] w w') ∨
  (At at_ size ws.length a ∧ ws[(a - at_) / size]? = some 2 ∧ ((c = 10 ∧ k < a + size) ∨ (c = 12 ∧ a + size ≤ k ∧ ¬ ∀ b, a ≤ b → b < a + size → In l b)) ∧ Fr [] w w') ∨
  (c = 0 ∧ At at_ size ws.length a ∧ ws[(a - at_) / size]? = some 2 ∧ a + size ≤ k ∧ (∀ b, a ≤ b → b < a + size → In l b) ∧ ∃ lv' l', MemA w' bM bm bb k lv' l' bs ∧ PoolA w' bp bm at_ size bw (ws.set ((a - at_) / size) 1) ∧
    (∀ b, In l' b ↔ In l b ∧ ¬ (a ≤ b ∧ b < a + size)) ∧ (∀ g, lv'.ownBlock = some g → lo w lv ≤ g) ∧ Fr (bw :: bm :: lv.ownBlock.toList) w w')
theorem ptake_all (bM bp bm bb k at_ size bw a : Nat) (ws : List UInt8) (lv : Value) (l : List (Nat × Nat)) (bs : List UInt8) (w : World) (hM : MemA w bM bm bb k lv l bs) (hP : PoolA w bp bm at_ size bw ws) (hne : bb ≠ bw)
    (ha : a < 4294967296) (hat : at_ < 4294967296) (h1 : 1 ≤ size) (h2 : size < 4294967296) (hl : ws.length ≤ 256) :
    Calls Try.prog 31 #[.pointer (some ⟨bp, 0, none⟩), .int .u32 a] w fun e w' => ∃ c, e = .returned (.int .i64 c) ∧ Takz w w' bM bp bm bb k at_ size bw a ws lv l bs c := by
  have H := hid (held_any bp bm at_ size bw a 2 ws w hP ha hat h1 h2 hl)
  have HP := hid hP
  have HM := hid hM
  have HNE := hid hne
  clear hP hM hne
  go_enter Try.func31, Try.ntmps31
  go_wp2_with fail
  refine H.out.mono ?_
  rintro e w1 ⟨⟨hA, hw, rfl⟩ | ⟨hA, hw, rfl⟩ | ⟨hA, rfl⟩, hF⟩
  · have hi := hA.2.2
    have HP1 := hid (HP.out.fr hF (by simp) (by simp))
    have HM1 := hid (HM.out.fr0 hF)
    have c0 := HP1.out.c0
    have c2 := HP1.out.c2
    have HA := hid hA
    have HW := hid hw
    have HF := hid hF
    clear hA hw hF
    obtain ⟨i, hq⟩ : ∃ i, i = (a - at_) / size := ⟨_, rfl⟩
    have HQ := hid hq
    rw [← hq] at hi ⊢
    clear hq
    have hi' : (i : Int) < (ws.length : Int) := by omega
    go_wp2_with fail
    go_region_law ((refine step_call rfl 59 #[.tmp 19, .tmp 25] #[77, 59] rfl he59 #[.pointer (some ⟨bm, 0, none⟩), .agg #[.int .u32 (a : Nat), .int .u32 (size : Nat)]] (by kernel_rfl) ?_; refine (back_any bm bb k a size lv l _ (HM1.out.mid.fr (show Fr [] w1 _ from Fr.drew (Fr.refl _ _)) (by simp) (by simp)) ha h2).mono ?_; rintro e w6 ⟨c, rfl, hL⟩; refine ⟨_, rfl, ?_⟩))
    all_goals
      rcases (hL.pre (show Fr [] w1 _ from Fr.drew (Fr.refl _ _))).pre HF.out with ⟨rfl, g2, g3⟩ | ⟨rfl, g2, g3, g4, g5⟩ | ⟨rfl, g2, g3, g4, lv', l', g5, g6, g8, g7⟩
      · go_wp2
        go_ret
        exact ⟨10, rfl, .inr (.inr (.inl ⟨HA.out, HW.out, .inl ⟨rfl, by omega⟩, g3⟩))⟩
      · go_wp2
        go_ret
        exact ⟨_, rfl, .inr (.inr (.inl ⟨HA.out, HW.out, .inr ⟨rfl, g3, g4⟩, g5⟩))⟩
      · have ap := PoolA.apart HM.out HP.out
        have hP6 : PoolA w6 bp bm at_ size bw ws := HP.out.fr g7 (by simp; exact ⟨ap.1, fun e => (ap.2.2.2.2.2 _ e).1 rfl⟩) (by simp; exact ⟨ap.2.1, fun e => (ap.2.2.2.2.2 _ e).2 rfl⟩)
        have c3 := hP6.c3
        have z0 := frozen_of_heap (o := i) hP6.who
        have hc := who_cell hP6.who i hi
        have T1 := hid (turned HM.out HP.out HNE.out g5 g7 i 1)
        have G8 := hid g8
        have G6 := hid g6
        have G3 := hid g3
        have G4 := hid g4
        clear ap hP6 g5 g7 g8 g6 hL g4
        obtain ⟨x, hc⟩ : ∃ x, w6.cell? ⟨bw, i, none⟩ = some x := ⟨_, hc⟩
        go_wp2
        go_ret
        exact ⟨0, rfl, .inr (.inr (.inr ⟨rfl, HA.out, HW.out, G3.out, G4.out, lv', l', T1.out.1, by rw [← HQ.out]; exact T1.out.2.1, G6.out, G8.out, T1.out.2.2⟩))⟩
  · go_wp2
    go_ret
    exact ⟨3, rfl, .inr (.inl ⟨rfl, hA, hw, hF⟩)⟩
  · go_wp2
    go_ret
    exact ⟨2, rfl, .inl ⟨rfl, hA, hF⟩⟩


/-- Between the program's Give or Take and the document's. -/
def GMid (w0 w1 : World) (bM bm bb br bB bL k : Nat) (b : PB) (l : List (Nat × Nat)) (bs ws : List UInt8) (a : Nat) (frm to : UInt8) (t : Bool) (err c : Int) : Prop :=
  ∃ lv' l' ws', Duo w0 w1 bM bm bb br bB bL k (some b) lv' l' bs ws' l bs ws ∧ ((c = 2 ∧ ¬ At b.at_ b.size ws.length a ∧ l' = l ∧ ws' = ws) ∨ (c = 3 ∧ At b.at_ b.size ws.length a ∧ ws[(a - b.at_) / b.size]? ≠ some frm ∧ l' = l ∧ ws' = ws) ∨
    (At b.at_ b.size ws.length a ∧ ws[(a - b.at_) / b.size]? = some frm ∧ ((c = 10 ∧ k < a + b.size) ∨ (c = err ∧ a + b.size ≤ k ∧ ¬ ∀ j, a ≤ j → j < a + b.size → (In l j ↔ (!t) = true))) ∧ l' = l ∧ ws' = ws) ∨
    (c = 0 ∧ At b.at_ b.size ws.length a ∧ ws[(a - b.at_) / b.size]? = some frm ∧ a + b.size ≤ k ∧ (∀ j, a ≤ j → j < a + b.size → (In l j ↔ (!t) = true)) ∧ ws' = ws.set ((a - b.at_) / b.size) to ∧ ∀ j, In l' j ↔ (if a ≤ j ∧ j < a + b.size then t = true else In l j)))
theorem sub_bw {b : PB} {bm bb : Nat} {lv : Value} : ∀ t, t ∈ b.bw :: bm :: lv.ownBlock.toList → t = bm ∨ t = bb ∨ lv.ownBlock = some t ∨ ∃ b', some b = some b' ∧ t = b'.bw := fun t ht => by
  simp only [List.mem_cons, Option.mem_toList] at ht
  rcases ht with e | e | e
  · exact .inr (.inr (.inr ⟨b, rfl, e⟩))
  · exact .inl e
  · exact .inr (.inr (.inl e))
theorem give_real (w0 w W : World) (bM bm bb br bB bL k a : Nat) (b : PB) (lv : Value) (l : List (Nat × Nat)) (bs ws : List UInt8) (h : Duo w0 w bM bm bb br bB bL k (some b) lv l bs ws l bs ws) (hF : Fr [] w W) (ha : a < 4294967296) :
    Calls Try.prog 30 #[.pointer (some ⟨b.bp, 0, none⟩), .int .u32 a] W fun e w1 => ∃ c : Int, e = .returned (.int .i64 c) ∧ Hid (GMid w0 w1 bM bm bb br bB bL k b l bs ws a 1 2 true 11 c) ∧ Fr (b.bw :: bm :: lv.ownBlock.toList) W w1 := by
  have hD := h.fr0 hF
  have hb := hD.bnd rfl
  have hn := hD.num b rfl
  refine (pgive_all bM b.bp bm bb k b.at_ b.size b.bw a ws lv l bs W hD.mem (hD.pool b rfl) (hD.nep b rfl).1 ha hb.1 hn.1 hb.2.1 h.few).mono ?_
  rintro e w1 ⟨c, he, ⟨c1, c2, c3⟩ | ⟨c1, c2, c3, c4⟩ | ⟨c1, c2, c3, c4⟩ | ⟨c1, c2, c3, c4, c5, lv', l', m1, m2, m3, m4, m5⟩⟩
  · exact ⟨c, he, hid ⟨lv, l, ws, hD.fr0 c3, .inl ⟨c1, c2, rfl, rfl⟩⟩, c3.mono (by simp)⟩
  · exact ⟨c, he, hid ⟨lv, l, ws, hD.fr0 c4, .inr (.inl ⟨c1, c2, c3, rfl, rfl⟩)⟩, c4.mono (by simp)⟩
  · refine ⟨c, he, hid ⟨lv, l, ws, hD.fr0 c4, .inr (.inr (.inl ⟨c1, c2, ?_, rfl, rfl⟩))⟩, c4.mono (by simp)⟩
    rcases c3 with ⟨d1, d2⟩ | ⟨d1, d2, x, x1, x2, x3⟩
    · exact .inl ⟨d1, d2⟩
    · exact .inr ⟨d1, d2, fun g => absurd ((g x x1 x2).1 x3) (by decide)⟩
  · refine ⟨c, he, hid ⟨lv', l', _, hD.real _ m1 (fun b' hb' => by cases hb'; exact m2) (by simp) m4 m5 sub_bw, .inr (.inr (.inr ⟨c1, c2, c3, c4, fun j j1 j2 => ⟨fun g => absurd g (c5 j j1 j2), fun g => by cases g⟩, rfl, fun j => ?_⟩))⟩, m5⟩
    rw [m3]
    by_cases hr : a ≤ j ∧ j < a + b.size
    · rw [if_pos hr]; exact ⟨fun _ => rfl, fun _ => .inr hr⟩
    · rw [if_neg hr]; exact ⟨fun g => g.elim (fun g => g) (fun g => absurd g hr), .inl⟩
theorem take_real (w0 w W : World) (bM bm bb br bB bL k a : Nat) (b : PB) (lv : Value) (l : List (Nat × Nat)) (bs ws : List UInt8) (h : Duo w0 w bM bm bb br bB bL k (some b) lv l bs ws l bs ws) (hF : Fr [] w W) (ha : a < 4294967296) :
    Calls Try.prog 31 #[.pointer (some ⟨b.bp, 0, none⟩), .int .u32 a] W fun e w1 => ∃ c : Int, e = .returned (.int .i64 c) ∧ Hid (GMid w0 w1 bM bm bb br bB bL k b l bs ws a 2 1 false 12 c) ∧ Fr (b.bw :: bm :: lv.ownBlock.toList) W w1 := by
  have hD := h.fr0 hF
  have hb := hD.bnd rfl
  have hn := hD.num b rfl
  refine (ptake_all bM b.bp bm bb k b.at_ b.size b.bw a ws lv l bs W hD.mem (hD.pool b rfl) (hD.nep b rfl).1 ha hb.1 hn.1 hb.2.1 h.few).mono ?_
  rintro e w1 ⟨c, he, ⟨c1, c2, c3⟩ | ⟨c1, c2, c3, c4⟩ | ⟨c1, c2, c3, c4⟩ | ⟨c1, c2, c3, c4, c5, lv', l', m1, m2, m3, m4, m5⟩⟩
  · exact ⟨c, he, hid ⟨lv, l, ws, hD.fr0 c3, .inl ⟨c1, c2, rfl, rfl⟩⟩, c3.mono (by simp)⟩
  · exact ⟨c, he, hid ⟨lv, l, ws, hD.fr0 c4, .inr (.inl ⟨c1, c2, c3, rfl, rfl⟩)⟩, c4.mono (by simp)⟩
  · refine ⟨c, he, hid ⟨lv, l, ws, hD.fr0 c4, .inr (.inr (.inl ⟨c1, c2, ?_, rfl, rfl⟩))⟩, c4.mono (by simp)⟩
    rcases c3 with ⟨d1, d2⟩ | ⟨d1, d2, d3⟩
    · exact .inl ⟨d1, d2⟩
    · exact .inr ⟨d1, d2, fun g => d3 (fun x x1 x2 => (g x x1 x2).2 rfl)⟩
  · refine ⟨c, he, hid ⟨lv', l', _, hD.real _ m1 (fun b' hb' => by cases hb'; exact m2) (by simp) m4 m5 sub_bw, .inr (.inr (.inr ⟨c1, c2, c3, c4, fun j j1 j2 => ⟨fun g => rfl, fun g => c5 j j1 j2⟩, rfl, fun j => ?_⟩))⟩, m5⟩
    rw [m3]
    by_cases hr : a ≤ j ∧ j < a + b.size
    · rw [if_pos hr]; exact ⟨fun g => absurd hr g.2, fun g => by cases g⟩
    · rw [if_neg hr]; exact ⟨fun g => g.1, fun g => ⟨g, hr⟩⟩
theorem gmid_ref {w0 w w1 W : World} {bM bm bb br bB bL k a : Nat} {b : PB} {l : List (Nat × Nat)} {bs ws : List UInt8} {frm to : UInt8} {t : Bool} {err c c' : Int} (hne : err ≠ 10) (h : GMid w0 w bM bm bb br bB bL k b l bs ws a frm to t err c) (hF : Fr [] w W) (hr : RPT W w1 b.bq br bL k b.at_ b.size b.bv a ws l frm to t err c') :
    c' = c ∧ TwoK w0 w1 bM bm bb br bB bL k (some b) := by
  obtain ⟨lv', l', ws', hD0, hc⟩ := h
  have hD := hD0.fr0 hF
  rcases hr with ⟨r1, r2, r3⟩ | ⟨r1, r2, r3, r4⟩ | ⟨r1, r2, r3, r4⟩ | ⟨r1, r2, r3, r4, r5, r6, w6, r7, r8⟩
  · rcases hc with ⟨c1, c2, rfl, rfl⟩ | ⟨c1, c2, _⟩ | ⟨c1, _⟩ | ⟨c1, c2, _⟩
    · exact ⟨by rw [r1, c1], _, _, _, _, hD.fr0 r3⟩
    · exact absurd c2 r2
    · exact absurd c1 r2
    · exact absurd c2 r2
  · rcases hc with ⟨c1, c2, _⟩ | ⟨c1, c2, c3, rfl, rfl⟩ | ⟨c1, c2, _⟩ | ⟨c1, c2, c3, _⟩
    · exact absurd r2 c2
    · exact ⟨by rw [r1, c1], _, _, _, _, hD.fr0 r4⟩
    · exact absurd c2 r3
    · exact absurd c3 r3
  · rcases hc with ⟨c1, c2, _⟩ | ⟨c1, c2, c3, _⟩ | ⟨c1, c2, c3, rfl, rfl⟩ | ⟨c1, c2, c3, c4, c5, _⟩
    · exact absurd r1 c2
    · exact absurd r2 c3
    · refine ⟨?_, _, _, _, _, hD.fr0 r4⟩
      rcases r3 with ⟨d1, d2⟩ | ⟨d1, d2, d3⟩ <;> rcases c3 with ⟨e1, e2⟩ | ⟨e1, e2, e3⟩
      · rw [d1, e1]
      · omega
      · omega
      · rw [d1, e1]
    · rcases r3 with ⟨d1, d2⟩ | ⟨d1, d2, d3⟩
      · omega
      · exact absurd c5 d3
  · rcases hc with ⟨c1, c2, _⟩ | ⟨c1, c2, c3, _⟩ | ⟨c1, c2, c3, _⟩ | ⟨c1, c2, c3, c4, c5, rfl, c6⟩
    · exact absurd r2 c2
    · exact absurd r3 c3
    · rcases c3 with ⟨e1, e2⟩ | ⟨e1, e2, e3⟩
      · omega
      · exact absurd r5 e3
    · have g := r7.ref hD.ref c6
      have hD6 := hD.turn [bL] g.1 (hD.keepRpool g.2 (fun t ht => .inr (by simpa using ht))) rfl g.2 (fun t ht => .inr (.inl (by simpa using ht)))
      exact ⟨by rw [r1, c1], _, _, _, _, hD6.turnP r6 (by simp) r8⟩
theorem give_ref (w0 w W : World) (bM bm bb br bB bL k a : Nat) (c : Int) (b : PB) (l : List (Nat × Nat)) (bs ws : List UInt8) (h : GMid w0 w bM bm bb br bB bL k b l bs ws a 1 2 true 11 c) (hF : Fr [] w W) (ha : a < 4294967296) :
    Calls Try.prog 52 #[.pointer (some ⟨b.bq, 0, none⟩), .int .u32 a, .int .u8 1, .int .u8 2] W fun e w1 => e = .returned (.int .i64 c) ∧ TwoK w0 w1 bM bm bb br bB bL k (some b) := by
  obtain ⟨lv', l', ws', hD0, hc⟩ := id h
  have hD := hD0.fr0 hF
  have hb := hD.bnd rfl
  have hn := hD.num b rfl
  have hf : ws.length ≤ 256 := by rw [hD.same]; exact hD.few
  obtain ⟨_, _, _, g3⟩ := hD.ref.lent
  exact (rpgive_any b.bq br bB bL k b.at_ b.size b.bv a ws l bs W hD.ref (hD.rpool b rfl) (ne_types g3 (hD.rpool b rfl).who (by decide)) ha hb.1 hn.1 hn.2.1 hf).mono fun e w1 ⟨c', he, hr⟩ => ⟨by rw [he, (gmid_ref (by decide) h hF hr).1], (gmid_ref (by decide) h hF hr).2⟩
theorem take_ref (w0 w W : World) (bM bm bb br bB bL k a : Nat) (c : Int) (b : PB) (l : List (Nat × Nat)) (bs ws : List UInt8) (h : GMid w0 w bM bm bb br bB bL k b l bs ws a 2 1 false 12 c) (hF : Fr [] w W) (ha : a < 4294967296) :
    Calls Try.prog 52 #[.pointer (some ⟨b.bq, 0, none⟩), .int .u32 a, .int .u8 2, .int .u8 1] W fun e w1 => e = .returned (.int .i64 c) ∧ TwoK w0 w1 bM bm bb br bB bL k (some b) := by
  obtain ⟨lv', l', ws', hD0, hc⟩ := id h
  have hD := hD0.fr0 hF
  have hb := hD.bnd rfl
  have hn := hD.num b rfl
  have hf : ws.length ≤ 256 := by rw [hD.same]; exact hD.few
  obtain ⟨_, _, _, g3⟩ := hD.ref.lent
  exact (rptake_any b.bq br bB bL k b.at_ b.size b.bv a ws l bs W hD.ref (hD.rpool b rfl) (ne_types g3 (hD.rpool b rfl).who (by decide)) ha hb.1 hn.1 hn.2.1 hf).mono fun e w1 ⟨c', he, hr⟩ => ⟨by rw [he, (gmid_ref (by decide) h hF hr).1], (gmid_ref (by decide) h hF hr).2⟩
end Go.Proofs.Ytbkfgidmjkbfmaa
