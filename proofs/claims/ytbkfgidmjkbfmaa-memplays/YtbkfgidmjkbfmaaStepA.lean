/-
  What lies between a call of the program's memory and the same call of the document's. No statement is proved here.
-/
import Derived.Test.YtbkfgidmjkbfmaaDuo
namespace Go.Proofs.Ytbkfgidmjkbfmaa
open Go.RowKit Go.BigFrame
set_option linter.unusedVariables false
set_option linter.unusedSimpArgs false
set_option maxRecDepth 1000000
set_option maxHeartbeats 4000000

/-- Both alike. -/
def TwoK (w0 w : World) (bM bm bb br bB bL k : Nat) (o : Option PB) : Prop := ∃ lv l bs ws, Duo w0 w bM bm bb br bB bL k o lv l bs ws l bs ws

theorem Duo.keepPool {w0 w w1 : World} {bM bm bb br bB bL k : Nat} {o : Option PB} {lv : Value} {l rl : List (Nat × Nat)} {bs ws rbs rws : List UInt8} (h : Duo w0 w bM bm bb br bB bL k o lv l bs ws rl rbs rws) {S : List Nat} (hF : Fr S w w1)
    (hS : ∀ t, t ∈ S → t = bm ∨ t = bb ∨ lv.ownBlock = some t) : ∀ b, o = some b → PoolA w1 b.bp bm b.at_ b.size b.bw ws := by
  intro b hb
  refine (h.pool b hb).fr hF (fun hm => ?_) (fun hm => ?_)
  · rcases hS _ hm with e | e | e
    · exact ne_types (h.pool b hb).blk h.mem.mid.blk (by decide) e
    · exact ne_types (h.pool b hb).blk h.mem.bytes (by decide) e
    · exact Row.ne h.mem.mid.row (h.pool b hb).blk (by decide) _ e rfl
  · rcases hS _ hm with e | e | e
    · exact ne_types (h.pool b hb).who h.mem.mid.blk (by decide) e
    · exact (h.nep b hb).1 e.symm
    · exact Row.ne h.mem.mid.row (h.pool b hb).who (by decide) _ e rfl
theorem Duo.keepRpool {w0 w w1 : World} {bM bm bb br bB bL k : Nat} {o : Option PB} {lv : Value} {l rl : List (Nat × Nat)} {bs ws rbs rws : List UInt8} (h : Duo w0 w bM bm bb br bB bL k o lv l bs ws rl rbs rws) {S : List Nat} (hF : Fr S w w1)
    (hS : ∀ t, t ∈ S → t = bB ∨ t = bL) : ∀ b, o = some b → RPoolA w1 b.bq br b.at_ b.size b.bv rws := by
  intro b hb
  obtain ⟨ls, g1, g2, g3⟩ := h.ref.lent
  refine (h.rpool b hb).fr hF (fun hm => ?_) (fun hm => ?_)
  · rcases hS _ hm with e | e
    · exact ne_types (h.rpool b hb).blk h.ref.bytes (by decide) e
    · exact ne_types (h.rpool b hb).blk g3 (by decide) e
  · rcases hS _ hm with e | e
    · exact (h.nep b hb).2.2.2.1 e.symm
    · exact ne_types (h.rpool b hb).who g3 (by decide) e

/-- Between the program's writing and the document's. -/
def WMid (w0 w1 : World) (bM bm bb br bB bL k : Nat) (o : Option PB) (lv : Value) (l : List (Nat × Nat)) (bs ws : List UInt8) (a : Nat) (s : ByteArray) (t : Bool) (err c : Int) : Prop :=
  ∃ bs', Duo w0 w1 bM bm bb br bB bL k o lv l bs' ws l bs ws ∧ ((c = 10 ∧ k < a + s.size ∧ bs' = bs) ∨ (c = err ∧ a + s.size ≤ k ∧ (¬ ∀ j, a ≤ j → j < a + s.size → (In l j ↔ t = true)) ∧ bs' = bs) ∨
    (c = 0 ∧ a + s.size ≤ k ∧ (∀ j, a ≤ j → j < a + s.size → (In l j ↔ t = true)) ∧ bs' = bs.take a ++ s.data.toList ++ bs.drop (a + s.size)))
theorem wmid_write {w0 w w1 : World} {bM bm bb br bB bL k a : Nat} {o : Option PB} {lv : Value} {l : List (Nat × Nat)} {bs ws : List UInt8} {s : ByteArray} {c : Int} (h : Duo w0 w bM bm bb br bB bL k o lv l bs ws l bs ws) (hW : Writes w w1 bM bm bb k a lv l bs s c) : WMid w0 w1 bM bm bb br bB bL k o lv l bs ws a s false 11 c := by
  rcases hW with ⟨h1, h2, h3⟩ | ⟨h1, h2, h3, h4⟩ | ⟨h1, h2, h3, h4, h5⟩
  · exact ⟨bs, h.fr0 h3, .inl ⟨h1, h2, rfl⟩⟩
  · refine ⟨bs, h.fr0 h4, .inr (.inl ⟨h1, h2, fun g => ?_, rfl⟩)⟩
    obtain ⟨b, b1, b2, b3⟩ := h3
    exact absurd ((g b b1 b2).1 b3) (by decide)
  · refine ⟨_, h.real [bb] h4 (h.keepPool h5 (fun t ht => .inr (.inl (by simpa using ht)))) rfl (fun g hg => lo_own hg) h5 (fun t ht => .inr (.inl (by simpa using ht))), .inr (.inr ⟨h1, h2, fun j j1 j2 => ⟨fun g => absurd ⟨j, j1, j2, g⟩ h3, fun g => by cases g⟩, rfl⟩)⟩
theorem wmid_device {w0 w w1 : World} {bM bm bb br bB bL k a : Nat} {o : Option PB} {lv : Value} {l : List (Nat × Nat)} {bs ws : List UInt8} {s : ByteArray} {c : Int} (h : Duo w0 w bM bm bb br bB bL k o lv l bs ws l bs ws) (hW : Devs w w1 bM bm bb k a lv l bs s c) : WMid w0 w1 bM bm bb br bB bL k o lv l bs ws a s true 12 c := by
  rcases hW with ⟨h1, h2, h3⟩ | ⟨h1, h2, h3, h4⟩ | ⟨h1, h2, h3, h4, h5⟩
  · exact ⟨bs, h.fr0 h3, .inl ⟨h1, h2, rfl⟩⟩
  · exact ⟨bs, h.fr0 h4, .inr (.inl ⟨h1, h2, fun g => h3 (fun b b1 b2 => (g b b1 b2).2 rfl), rfl⟩)⟩
  · refine ⟨_, h.real [bb] h4 (h.keepPool h5 (fun t ht => .inr (.inl (by simpa using ht)))) rfl (fun g hg => lo_own hg) h5 (fun t ht => .inr (.inl (by simpa using ht))), .inr (.inr ⟨h1, h2, fun j j1 j2 => ⟨fun g => rfl, fun g => h3 j j1 j2⟩, rfl⟩)⟩
theorem wmid_ref {w0 w1 w2 W : World} {bM bm bb br bB bL k a : Nat} {o : Option PB} {lv : Value} {l : List (Nat × Nat)} {bs ws : List UInt8} {s : ByteArray} {t : Bool} {err c : Int} {e : Ending} (h : WMid w0 w1 bM bm bb br bB bL k o lv l bs ws a s t err c) (hF : Fr [] w1 W)
    (hr : (k < a + s.size ∧ e = .returned (.int .i64 10) ∧ Fr [] W w2) ∨ (a + s.size ≤ k ∧ (¬ ∀ j, a ≤ j → j < a + s.size → (In l j ↔ t = true)) ∧ e = .returned (.int .i64 err) ∧ Fr [] W w2) ∨
      (a + s.size ≤ k ∧ (∀ j, a ≤ j → j < a + s.size → (In l j ↔ t = true)) ∧ e = .returned (.int .i64 0) ∧ RefA w2 br bB bL k l (bs.take a ++ s.data.toList ++ bs.drop (a + s.size)) ∧ Fr [bB] W w2)) :
    e = .returned (.int .i64 c) ∧ TwoK w0 w2 bM bm bb br bB bL k o := by
  obtain ⟨bs', hD, hc⟩ := h
  have hD' := hD.fr0 hF
  rcases hr with ⟨r1, r2, r3⟩ | ⟨r1, r2, r3, r4⟩ | ⟨r1, r2, r3, r4, r5⟩
  · rcases hc with ⟨c1, c2, rfl⟩ | ⟨c1, c2, _⟩ | ⟨c1, c2, _⟩
    · exact ⟨by rw [r2, c1], _, _, _, _, hD'.fr0 r3⟩
    · omega
    · omega
  · rcases hc with ⟨c1, c2, _⟩ | ⟨c1, c2, c3, rfl⟩ | ⟨c1, c2, c3, _⟩
    · omega
    · exact ⟨by rw [r3, c1], _, _, _, _, hD'.fr0 r4⟩
    · exact absurd c3 r2
  · rcases hc with ⟨c1, c2, _⟩ | ⟨c1, c2, c3, _⟩ | ⟨c1, c2, c3, rfl⟩
    · omega
    · exact absurd r2 c3
    · exact ⟨by rw [r3, c1], _, _, _, _, hD'.turn [bB] r4 (hD'.keepRpool r5 (fun t ht => .inl (by simpa using ht))) rfl r5 (fun t ht => .inl (by simpa using ht))⟩

theorem writes_fr {w w1 : World} {bM bm bb k a : Nat} {lv : Value} {l : List (Nat × Nat)} {bs : List UInt8} {s : ByteArray} {c : Int} (h : Writes w w1 bM bm bb k a lv l bs s c) : Fr [bb] w w1 := by
  rcases h with ⟨_, _, h3⟩ | ⟨_, _, _, h4⟩ | ⟨_, _, _, _, h5⟩
  · exact h3.mono (by simp)
  · exact h4.mono (by simp)
  · exact h5
theorem devs_fr {w w1 : World} {bM bm bb k a : Nat} {lv : Value} {l : List (Nat × Nat)} {bs : List UInt8} {s : ByteArray} {c : Int} (h : Devs w w1 bM bm bb k a lv l bs s c) : Fr [bb] w w1 := by
  rcases h with ⟨_, _, h3⟩ | ⟨_, _, _, h4⟩ | ⟨_, _, _, _, h5⟩
  · exact h3.mono (by simp)
  · exact h4.mono (by simp)
  · exact h5
theorem he22 (args : Array Value) (w : World) : (callFunc 22 args).run Try.prog w = .ok (.enter 22 args) w := enters Try.func22 (by kernel_rfl) (by kernel_rfl) args w
theorem he46 (args : Array Value) (w : World) : (callFunc 46 args).run Try.prog w = .ok (.enter 46 args) w := enters Try.func46 (by kernel_rfl) (by kernel_rfl) args w

theorem hs26 (args : Array Value) (w : World) : (callFunc 26 args).run Try.prog w = .ok (.enter 26 args) w := enters Try.func26 (by kernel_rfl) (by kernel_rfl) args w
theorem hs50 (args : Array Value) (w : World) : (callFunc 50 args).run Try.prog w = .ok (.enter 50 args) w := enters Try.func50 (by kernel_rfl) (by kernel_rfl) args w
theorem hs24 (args : Array Value) (w : World) : (callFunc 24 args).run Try.prog w = .ok (.enter 24 args) w := enters Try.func24 (by kernel_rfl) (by kernel_rfl) args w
theorem hs25 (args : Array Value) (w : World) : (callFunc 25 args).run Try.prog w = .ok (.enter 25 args) w := enters Try.func25 (by kernel_rfl) (by kernel_rfl) args w
theorem hs23 (args : Array Value) (w : World) : (callFunc 23 args).run Try.prog w = .ok (.enter 23 args) w := enters Try.func23 (by kernel_rfl) (by kernel_rfl) args w
theorem hs29 (args : Array Value) (w : World) : (callFunc 29 args).run Try.prog w = .ok (.enter 29 args) w := enters Try.func29 (by kernel_rfl) (by kernel_rfl) args w
theorem hs30 (args : Array Value) (w : World) : (callFunc 30 args).run Try.prog w = .ok (.enter 30 args) w := enters Try.func30 (by kernel_rfl) (by kernel_rfl) args w
theorem hs31 (args : Array Value) (w : World) : (callFunc 31 args).run Try.prog w = .ok (.enter 31 args) w := enters Try.func31 (by kernel_rfl) (by kernel_rfl) args w
theorem hs52 (args : Array Value) (w : World) : (callFunc 52 args).run Try.prog w = .ok (.enter 52 args) w := enters Try.func52 (by kernel_rfl) (by kernel_rfl) args w
theorem hs45 (args : Array Value) (w : World) : (callFunc 45 args).run Try.prog w = .ok (.enter 45 args) w := enters Try.func45 (by kernel_rfl) (by kernel_rfl) args w
theorem hs47 (args : Array Value) (w : World) : (callFunc 47 args).run Try.prog w = .ok (.enter 47 args) w := enters Try.func47 (by kernel_rfl) (by kernel_rfl) args w
end Go.Proofs.Ytbkfgidmjkbfmaa
