/-
  What lies between a call of the program's pool and the same call of the document's; 'step' of the statements at Get. No statement is proved here.
-/
import Derived.Test.YtbkfgidmjkbfmaaStepD
namespace Go.Proofs.Ytbkfgidmjkbfmaa
open Go.RowKit Go.BigFrame
set_option linter.unusedVariables false
set_option linter.unusedSimpArgs false
set_option maxRecDepth 1000000
set_option maxHeartbeats 4000000

theorem Duo.bnd {w0 w : World} {bM bm bb br bB bL k : Nat} {o : Option PB} {lv : Value} {l rl : List (Nat × Nat)} {bs ws rbs rws : List UInt8} (h : Duo w0 w bM bm bb br bB bL k o lv l bs ws rl rbs rws) {b : PB} (hb : o = some b) : b.at_ < 4294967296 ∧ b.size < 4294967296 ∧ b.at_ + ws.length * b.size < 4294967296 := by
  have h1 := h.num b hb
  have h2 := h.mem.mid.top
  have h3 := Nat.le_add_right b.at_ (ws.length * b.size)
  omega
/-- The pool alone turns, the program's. -/
theorem Duo.realP {w0 w w1 : World} {bM bm bb br bB bL k : Nat} {b : PB} {lv : Value} {l rl : List (Nat × Nat)} {bs ws ws' rbs rws : List UInt8} (h : Duo w0 w bM bm bb br bB bL k (some b) lv l bs ws rl rbs rws) (hP : PoolA w1 b.bp bm b.at_ b.size b.bw ws') (hl : ws'.length = ws.length) (hF : Fr [b.bw] w w1) :
    Duo w0 w1 bM bm bb br bB bL k (some b) lv l bs ws' rl rbs rws := by
  have ap := PoolA.apart h.mem (h.pool b rfl)
  refine h.real [b.bw] (h.mem.fr hF (by simpa using Ne.symm ap.2.2.1) (by simpa using Ne.symm ap.2.1) (by simpa using (h.nep b rfl).1) (fun g hg => by simpa using (ap.2.2.2.2.2 g hg).2)) (fun b' hb' => by cases hb'; exact hP) hl (fun g hg => lo_own hg) hF (fun t ht => .inr (.inr (.inr ⟨b, rfl, by simpa using ht⟩)))
/-- The pool alone turns, the document's. -/
theorem Duo.turnP {w0 w w1 : World} {bM bm bb br bB bL k : Nat} {b : PB} {lv : Value} {l rl : List (Nat × Nat)} {bs ws rbs rws rws' : List UInt8} (h : Duo w0 w bM bm bb br bB bL k (some b) lv l bs ws rl rbs rws) (hP : RPoolA w1 b.bq br b.at_ b.size b.bv rws') (hl : rws'.length = rws.length) (hF : Fr [b.bv] w w1) :
    Duo w0 w1 bM bm bb br bB bL k (some b) lv l bs ws rl rbs rws' := by
  obtain ⟨ls, g1, g2, g3⟩ := h.ref.lent
  refine h.turn [b.bv] (h.ref.fr hF (by simpa using ne_types h.ref.blk (h.rpool b rfl).who (by decide)) (by simpa using (h.nep b rfl).2.2.2.1) (by simpa using ne_types g3 (h.rpool b rfl).who (by decide))) (fun b' hb' => by cases hb'; exact hP) hl hF (fun t ht => .inr (.inr ⟨b, rfl, by simpa using ht⟩))

/-- Between the program's Get and the document's. -/
def XMid (w0 w1 : World) (bM bm bb br bB bL k : Nat) (b : PB) (lv : Value) (l : List (Nat × Nat)) (bs ws : List UInt8) (y : Nat) (c : Int) : Prop :=
  (∃ i : Nat, i < ws.length ∧ ws[i]? = some 0 ∧ (∀ j : Nat, j < i → ws[j]? ≠ some 0) ∧ y = b.at_ + i * b.size ∧ c = 0 ∧ Duo w0 w1 bM bm bb br bB bL k (some b) lv l bs (ws.set i 1) l bs ws) ∨ ((∀ j : Nat, ws[j]? ≠ some 0) ∧ y = 0 ∧ c = 6 ∧ Duo w0 w1 bM bm bb br bB bL k (some b) lv l bs ws l bs ws)
theorem get_real (w0 w W : World) (bM bm bb br bB bL k : Nat) (b : PB) (lv : Value) (l : List (Nat × Nat)) (bs ws : List UInt8) (h : Duo w0 w bM bm bb br bB bL k (some b) lv l bs ws l bs ws) (hF : Fr [] w W) :
    Calls Try.prog 28 #[.pointer (some ⟨b.bp, 0, none⟩)] W fun e w1 => ∃ (y : Nat) (c : Int), e = .returned (.tuple #[.int .u32 y, .int .i64 c]) ∧ Hid (XMid w0 w1 bM bm bb br bB bL k b lv l bs ws y c) := by
  have hD := h.fr0 hF
  refine (pget_any b.bp bm b.at_ b.size b.bw ws W (hD.pool b rfl) h.few (h.bnd rfl).2.2).mono ?_
  rintro e w1 (⟨i, h1, h2, h3, h4, h5, h6⟩ | ⟨h1, h2, h3⟩)
  · exact ⟨_, 0, h4, hid (.inl ⟨i, h1, h2, h3, rfl, rfl, hD.realP h5 (by simp) h6⟩)⟩
  · exact ⟨0, 6, h2, hid (.inr ⟨h1, rfl, rfl, hD.fr0 h3⟩)⟩
theorem get_ref (w0 w W : World) (bM bm bb br bB bL k y : Nat) (c : Int) (b : PB) (lv : Value) (l : List (Nat × Nat)) (bs ws : List UInt8) (h : XMid w0 w bM bm bb br bB bL k b lv l bs ws y c) (hF : Fr [] w W) :
    Calls Try.prog 51 #[.pointer (some ⟨b.bq, 0, none⟩)] W fun e w1 => e = .returned (.tuple #[.int .u32 y, .int .i64 c]) ∧ TwoK w0 w1 bM bm bb br bB bL k (some b) := by
  rcases h with ⟨i, h1, h2, h3, rfl, rfl, hD⟩ | ⟨h1, rfl, rfl, hD⟩
  · have hD' := hD.fr0 hF
    have hb := hD'.bnd rfl
    have hn := hD'.num b rfl
    have hf := hD'.few
    simp only [List.length_set] at hb hf
    refine (rget_any b.bq br b.at_ b.size b.bv ws W (hD'.rpool b rfl) hf hn.2.1 hb.2.2).mono ?_
    rintro e w1 (⟨j, g1, g2, g3, g4, g5, g6⟩ | ⟨g1, _⟩)
    · have : j = i := by
        rcases Nat.lt_trichotomy j i with e | e | e
        · exact absurd g2 (h3 j e)
        · exact e
        · exact absurd h2 (g3 i e)
      subst this
      exact ⟨g4, _, _, _, _, hD'.turnP g5 (by simp) g6⟩
    · exact absurd h2 (g1 i)
  · have hD' := hD.fr0 hF
    have hb := hD'.bnd rfl
    have hn := hD'.num b rfl
    refine (rget_any b.bq br b.at_ b.size b.bv ws W (hD'.rpool b rfl) hD'.few hn.2.1 hb.2.2).mono ?_
    rintro e w1 (⟨j, g1, g2, _⟩ | ⟨g1, g2, g3⟩)
    · exact absurd g2 (h1 j)
    · exact ⟨g2, _, _, _, _, hD'.fr0 g3⟩
theorem step_get (w0 w : World) (bM bm bb br bB bL k A X : Nat) (N : Int) (S : ByteArray) (b : PB) (lv : Value) (l : List (Nat × Nat)) (bs ws : List UInt8) (h : Duo w0 w bM bm bb br bB bL k (some b) lv l bs ws l bs ws) :
    Calls Try.prog 14 #[.pointer (some ⟨bM, 0, none⟩), .pointer (some ⟨br, 0, none⟩), .pointer (some ⟨b.bp, 0, none⟩), .pointer (some ⟨b.bq, 0, none⟩), .agg #[.int .i64 7, .int .u32 A, .int .i64 N, .int .u64 X, .string S]] w fun e w' => e = .returned (.bool true) ∧ TwoK w0 w' bM bm bb br bB bL k (some b) := by
  have F0 : Fr [] w (w.alloc (.cells #[.int .i64 7, .int .u32 A, .int .i64 N, .int .u64 X, .string S] 42)) := (Fr.refl _ _).alloc _
  have H1 := hid (get_real w0 w _ bM bm bb br bB bL k b lv l bs ws h F0)
  clear h F0
  go_enter Try.func14, Try.ntmps14
  go_wp2_with fail
  refine H1.out.mono ?_
  rintro e w1 ⟨y, c, rfl, hm⟩
  go_wp2_with fail
  refine (get_ref w0 w1 w1 bM bm bb br bB bL k y c b lv l bs ws hm.out (Fr.refl _ _)).mono ?_
  rintro e w2 ⟨rfl, hT⟩
  go_wp2
  go_ret
  exact ⟨rfl, hT⟩

/-- Between the program's Put and the document's. -/
def FMid (w0 w1 : World) (bM bm bb br bB bL k : Nat) (b : PB) (lv : Value) (l : List (Nat × Nat)) (bs ws : List UInt8) (a : Nat) (c : Int) : Prop :=
  ∃ ws', Duo w0 w1 bM bm bb br bB bL k (some b) lv l bs ws' l bs ws ∧ ((c = 0 ∧ At b.at_ b.size ws.length a ∧ ws[(a - b.at_) / b.size]? = some 1 ∧ ws' = ws.set ((a - b.at_) / b.size) 0) ∨ (c = 3 ∧ At b.at_ b.size ws.length a ∧ ws[(a - b.at_) / b.size]? ≠ some 1 ∧ ws' = ws) ∨ (c = 2 ∧ ¬ At b.at_ b.size ws.length a ∧ ws' = ws))
theorem put_real (w0 w W : World) (bM bm bb br bB bL k a : Nat) (b : PB) (lv : Value) (l : List (Nat × Nat)) (bs ws : List UInt8) (h : Duo w0 w bM bm bb br bB bL k (some b) lv l bs ws l bs ws) (hF : Fr [] w W) (ha : a < 4294967296) :
    Calls Try.prog 29 #[.pointer (some ⟨b.bp, 0, none⟩), .int .u32 a] W fun e w1 => ∃ c : Int, e = .returned (.int .i64 c) ∧ Hid (FMid w0 w1 bM bm bb br bB bL k b lv l bs ws a c) ∧ Fr [b.bw] W w1 := by
  have hD := h.fr0 hF
  have hb := hD.bnd rfl
  have hn := hD.num b rfl
  refine (pput_any b.bp bm b.at_ b.size b.bw a ws W (hD.pool b rfl) ha hb.1 hn.1 hb.2.1 h.few).mono ?_
  rintro e w1 (⟨h1, h2, h3, h4, h5⟩ | ⟨h1, h2, h3, h4⟩ | ⟨h1, h2, h3⟩)
  · exact ⟨0, h3, hid ⟨_, hD.realP h4 (by simp) h5, .inl ⟨rfl, h1, h2, rfl⟩⟩, h5⟩
  · exact ⟨3, h3, hid ⟨_, hD.fr0 h4, .inr (.inl ⟨rfl, h1, h2, rfl⟩)⟩, h4.mono (by simp)⟩
  · exact ⟨2, h2, hid ⟨_, hD.fr0 h3, .inr (.inr ⟨rfl, h1, rfl⟩)⟩, h3.mono (by simp)⟩
theorem put_ref (w0 w W : World) (bM bm bb br bB bL k a : Nat) (c : Int) (b : PB) (lv : Value) (l : List (Nat × Nat)) (bs ws : List UInt8) (h : FMid w0 w bM bm bb br bB bL k b lv l bs ws a c) (hF : Fr [] w W) (ha : a < 4294967296) :
    Calls Try.prog 52 #[.pointer (some ⟨b.bq, 0, none⟩), .int .u32 a, .int .u8 1, .int .u8 0] W fun e w1 => e = .returned (.int .i64 c) ∧ TwoK w0 w1 bM bm bb br bB bL k (some b) := by
  obtain ⟨ws', hD0, hc⟩ := h
  have hD := hD0.fr0 hF
  have hb := hD.bnd rfl
  have hn := hD.num b rfl
  have hf : ws.length ≤ 256 := by rw [hD.same]; exact hD.few
  refine (rpput_any b.bq br b.at_ b.size b.bv a ws W (hD.rpool b rfl) ha hb.1 hn.1 hn.2.1 hf).mono ?_
  rintro e w1 (⟨h1, h2, h3, h4, h5⟩ | ⟨h1, h2, h3, h4⟩ | ⟨h1, h2, h3⟩)
  · rcases hc with ⟨c1, c2, c3, rfl⟩ | ⟨c1, c2, c3, rfl⟩ | ⟨c1, c2, rfl⟩
    · exact ⟨by rw [h3, c1], _, _, _, _, hD.turnP h4 (by simp) h5⟩
    · exact absurd h2 c3
    · exact absurd h1 c2
  · rcases hc with ⟨c1, c2, c3, rfl⟩ | ⟨c1, c2, c3, rfl⟩ | ⟨c1, c2, rfl⟩
    · exact absurd c3 h2
    · exact ⟨by rw [h3, c1], _, _, _, _, hD.fr0 h4⟩
    · exact absurd h1 c2
  · rcases hc with ⟨c1, c2, c3, rfl⟩ | ⟨c1, c2, c3, rfl⟩ | ⟨c1, c2, rfl⟩
    · exact absurd c2 h1
    · exact absurd c2 h1
    · exact ⟨by rw [h2, c1], _, _, _, _, hD.fr0 h3⟩
end Go.Proofs.Ytbkfgidmjkbfmaa
