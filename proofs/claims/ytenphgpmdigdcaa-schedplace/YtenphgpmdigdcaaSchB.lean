/-
  A scheduler in memory ('SI', 'SS'), what its calls leave as it was ('Kq'), and the walks of its small functions: none, New, refused, stop, ready. No statement is proved here.
-/
import Derived.Test.YtenphgpmdigdcaaSchA
namespace Go.Proofs.Ytenphgpmdigdcaa
open Go.RowKit Go.BigFrame Go.MapKept
set_option linter.unusedVariables false
set_option linter.unusedSimpArgs false
set_option maxRecDepth 1000000
set_option maxHeartbeats 4000000

/-- A block of another kind than a scheduler's. -/
def Oth (w : World) (k : Nat) : Prop := ∃ c t f, w.heap[k]? = some (.cells c t f) ∧ t ≠ 61 ∧ t ≠ 63 ∧ t ≠ 67
/-- All blocks below B, and all that are of another kind than a scheduler's, are as they were; the streams too. -/
structure Kq (B : Nat) (w w' : World) : Prop where
  os : w'.os = w.os
  tape : w'.tape = w.tape
  output : w'.output = w.output
  size : w.heap.size ≤ w'.heap.size
  block : ∀ k o, w.heap[k]? = some o → (k < B ∨ Oth w k) → w'.heap[k]? = some o
theorem Kq.refl (B : Nat) (w : World) : Kq B w w := ⟨rfl, rfl, rfl, Nat.le_refl _, fun _ _ h _ => h⟩
theorem Kq.oth {B : Nat} {a b : World} (h : Kq B a b) {k : Nat} (hk : Oth a k) : Oth b k := by
  obtain ⟨c, t, f, h1, h2⟩ := hk
  exact ⟨c, t, f, h.block k _ h1 (.inr ⟨c, t, f, h1, h2⟩), h2⟩
theorem Kq.trans {B : Nat} {a b c : World} (h : Kq B a b) (k : Kq B b c) : Kq B a c :=
  ⟨k.os.trans h.os, k.tape.trans h.tape, k.output.trans h.output, Nat.le_trans h.size k.size, fun i o hi hc => k.block i o (h.block i o hi hc) (hc.imp id h.oth)⟩
theorem Kq.drewN {B : Nat} {a w : World} (h : Kq B a w) (n : Nat) : Kq B a (w.drewN n) := ⟨h.os, h.tape, h.output, h.size, h.block⟩
theorem Kq.drew {B : Nat} {a w : World} (h : Kq B a w) : Kq B a w.drew := ⟨h.os, h.tape, h.output, h.size, h.block⟩
/-- A block that a scheduler may write. -/
def Sob (B : Nat) (w : World) (k : Nat) : Prop := w.heap.size ≤ k ∨ (B ≤ k ∧ ((∃ c f, w.heap[k]? = some (.cells c 61 f)) ∨ (∃ c f, w.heap[k]? = some (.cells c 63 f)) ∨ (∃ c f, w.heap[k]? = some (.cells c 67 f)) ∨ ∃ es cl, w.heap[k]? = some (.map es cl)))
theorem Fr.kq {B : Nat} {T : List Nat} {w w' : World} (h : Fr T w w') (hT : ∀ t, t ∈ T → Sob B w t) : Kq B w w' :=
  ⟨h.os, h.tape, h.output, h.size, fun k o hk hc => by
    have hl := lt_of_heap hk
    rw [h.block k hl (fun ht => by
      rcases hT k ht with h1 | ⟨h1, h2⟩
      · omega
      · rcases hc with h3 | ⟨c, t, f, g, h3, h4, h5⟩
        · omega
        · rcases h2 with ⟨c, f, e⟩ | ⟨c, f, e⟩ | ⟨c, f, e⟩ | ⟨es, cl, e⟩
          · rw [g] at e; simp at e; exact h3 e.2.1
          · rw [g] at e; simp at e; exact h4 e.2.1
          · rw [g] at e; simp at e; exact h5 e.2.1
          · rw [g] at e; simp at e)]
    exact hk⟩
theorem Fr.kq0 {B : Nat} {w w' : World} (h : Fr [] w w') : Kq B w w' := h.kq (by simp)
theorem Kq.below {B : Nat} {w w' : World} (h : Kq B w w') (hB : B ≤ w.heap.size) : Below B w w' :=
  ⟨h.os, h.tape, h.output, h.size, fun k hk => by
    obtain ⟨o, ho⟩ : ∃ o, w.heap[k]? = some o := ⟨_, Array.getElem?_eq_getElem (by omega)⟩
    rw [ho]
    exact h.block k o ho (.inl hk)⟩
theorem Kq.heap {B : Nat} {w w' : World} (h : Kq B w w') {b : Nat} {c : Array Value} {t : TypeId} {f : Nat × Nat} (hb : w.heap[b]? = some (.cells c t f)) (ht : t ≠ 61 ∧ t ≠ 63 ∧ t ≠ 67) : w'.heap[b]? = some (.cells c t f) :=
  h.block b _ hb (.inr ⟨c, t, f, hb, ht⟩)

def xv (X : Option Tk) : Value := .pointer (X.map fun t => ⟨t.b, 0, none⟩)
def all (R W : List Tk) (X : Option Tk) (F : List Tk) : List Tk := R ++ W ++ X.toList ++ F
/-- A scheduler in memory, with all its parts named: its block, its map's, its two slices; the patience, the time; the tasks that are ready, wait, run, and such as are under way between these; the map's pairs. -/
structure SI (w : World) (B sb mb : Nat) (vr vw : Value) (p now : Nat) (R W : List Tk) (X : Option Tk) (F : List Tk) (ts : List (Nat × Nat)) : Prop where
  blk : w.heap[sb]? = some (.cells #[.int .i64 (p : Nat), .int .u64 (now : Nat), .map (some mb), vr, vw, xv X] 63)
  row : Own w B vr (R.map Tk.b)
  wai : Own w B vw (W.map Tk.b)
  apt : ∀ g, vr.ownBlock = some g → vw.ownBlock ≠ some g
  map : MapT w mb ts
  tk : ∀ t ∈ all R W X F, TkAt w t
  per : ts.Perm ((all R W X F).map fun t => (t.id, t.b))
  low : B ≤ sb ∧ B ≤ mb ∧ ∀ t ∈ all R W X F, B ≤ t.b
  nod : ((all R W X F).map Tk.id).Nodup
  rng : ∀ t ∈ all R W X F, t.id < 4294967296 ∧ t.qu < 4294967296 ∧ t.un < 4611686018427387904
  stR : ∀ t ∈ R, t.st = 1
  stW : ∀ t ∈ W, t.st = 3
  stX : ∀ t ∈ X, t.st = 2
  num : 1 ≤ p ∧ p ≤ 256 ∧ now < 4611686018427387904 ∧ (all R W X F).length ≤ 256
def SS (w : World) (B sb p now : Nat) (R W : List Tk) (X : Option Tk) : Prop := ∃ mb vr vw ts, SI w B sb mb vr vw p now R W X [] ts

theorem TkAt.fr {S : List Nat} {w w' : World} {t : Tk} (h : TkAt w t) (hF : Fr S w w') (hb : t.b ∉ S) : TkAt w' t := hF.heap h hb
section
variable {w w' : World} {B sb mb : Nat} {vr vw : Value} {p now : Nat} {R W : List Tk} {X : Option Tk} {F : List Tk} {ts : List (Nat × Nat)}
theorem SI.fr {S : List Nat} (h : SI w B sb mb vr vw p now R W X F ts) (hF : Fr S w w') (h1 : sb ∉ S) (h2 : mb ∉ S) (h3 : ∀ g, vr.ownBlock = some g → g ∉ S) (h4 : ∀ g, vw.ownBlock = some g → g ∉ S) (h5 : ∀ t ∈ all R W X F, t.b ∉ S) : SI w' B sb mb vr vw p now R W X F ts :=
  ⟨hF.heap h.blk h1, h.row.fr hF h3, h.wai.fr hF h4, h.apt, h.map.fr hF h2, fun t ht => (h.tk t ht).fr hF (h5 t ht), h.per, h.low, h.nod, h.rng, h.stR, h.stW, h.stX, h.num⟩
theorem SI.fr0 (h : SI w B sb mb vr vw p now R W X F ts) (hF : Fr [] w w') : SI w' B sb mb vr vw p now R W X F ts := h.fr hF (by simp) (by simp) (by simp) (by simp) (by simp)
theorem SI.frO {S : List Nat} (h : SI w B sb mb vr vw p now R W X F ts) (hF : Fr S w w') (hS : ∀ t ∈ S, w.heap.size ≤ t ∨ Oth w t) : SI w' B sb mb vr vw p now R W X F ts := by
  have key : ∀ k c t f, w.heap[k]? = some (.cells c t f) → (t = 61 ∨ t = 63 ∨ t = 67) → k ∉ S := fun k c t f hk ht hm => by
    rcases hS k hm with h1 | ⟨c', t', f', g, h1, h2, h3⟩
    · have := lt_of_heap hk; omega
    · rw [hk] at g; simp at g; rcases ht with rfl | rfl | rfl
      · exact h1 g.2.1.symm
      · exact h2 g.2.1.symm
      · exact h3 g.2.1.symm
  refine h.fr hF (key _ _ _ _ h.blk (by simp)) (fun hm => ?_) (fun g hg => ?_) (fun g hg => ?_) (fun t ht => key _ _ _ _ (h.tk t ht) (by simp))
  · obtain ⟨es, cl, g1, _⟩ := h.map
    rcases hS _ hm with h1 | ⟨c', t', f', g, _⟩
    · have := lt_of_heap g1; omega
    · rw [g1] at g; simp at g
  · obtain ⟨_, c, hc⟩ := h.row.blk g hg; exact key _ _ _ _ hc (by simp)
  · obtain ⟨_, c, hc⟩ := h.wai.blk g hg; exact key _ _ _ _ hc (by simp)
theorem SS.fr0 (h : SS w B sb p now R W X) (hF : Fr [] w w') : SS w' B sb p now R W X := by
  obtain ⟨mb, vr, vw, ts, h⟩ := h; exact ⟨mb, vr, vw, ts, h.fr0 hF⟩
theorem SS.frO {S : List Nat} (h : SS w B sb p now R W X) (hF : Fr S w w') (hS : ∀ t ∈ S, w.heap.size ≤ t ∨ Oth w t) : SS w' B sb p now R W X := by
  obtain ⟨mb, vr, vw, ts, h⟩ := h; exact ⟨mb, vr, vw, ts, h.frO hF hS⟩
theorem SI.cells (h : SI w B sb mb vr vw p now R W X F ts) : w.cell? ⟨sb, 0, none⟩ = some (.int .i64 (p : Nat)) ∧ w.cell? ⟨sb, 1, none⟩ = some (.int .u64 (now : Nat)) ∧ w.cell? ⟨sb, 2, none⟩ = some (.map (some mb)) ∧ w.cell? ⟨sb, 3, none⟩ = some vr ∧ w.cell? ⟨sb, 4, none⟩ = some vw ∧ w.cell? ⟨sb, 5, none⟩ = some (xv X) ∧ (∀ o, w.frozen? ⟨sb, o, none⟩ = false) :=
  ⟨cell_of_heap h.blk rfl, cell_of_heap h.blk rfl, cell_of_heap h.blk rfl, cell_of_heap h.blk rfl, cell_of_heap h.blk rfl, cell_of_heap h.blk rfl, fun o => frozen_of_heap h.blk⟩
end
theorem TkAt.cells {w : World} {t : Tk} (h : TkAt w t) : w.cell? ⟨t.b, 0, none⟩ = some (.int .u32 (t.id : Nat)) ∧ w.cell? ⟨t.b, 1, none⟩ = some (.int .u8 (t.st : Nat)) ∧ w.cell? ⟨t.b, 2, none⟩ = some (.int .i64 t.why) ∧ w.cell? ⟨t.b, 3, none⟩ = some (.int .i64 (t.pa : Nat)) ∧ w.cell? ⟨t.b, 4, none⟩ = some (.int .u32 (t.qu : Nat)) ∧ w.cell? ⟨t.b, 5, none⟩ = some (.int .u64 (t.un : Nat)) ∧ (∀ o, w.frozen? ⟨t.b, o, none⟩ = false) :=
  ⟨cell_of_heap h rfl, cell_of_heap h rfl, cell_of_heap h rfl, cell_of_heap h rfl, cell_of_heap h rfl, cell_of_heap h rfl, fun o => frozen_of_heap h⟩

theorem none_nil (w : World) : Calls Try.prog 33 #[.pointer none] w fun e w' => e = .returned (.bool true) ∧ w' = w := by
  go_enter Try.func33, Try.ntmps33
  go_wp2
  go_ret
  exact ⟨rfl, rfl⟩
theorem none_no (sb p : Nat) (w : World) (h : w.cell? ⟨sb, 0, none⟩ = some (.int .i64 (p : Nat))) (hp : 1 ≤ p) : Calls Try.prog 33 #[.pointer (some ⟨sb, 0, none⟩)] w fun e w' => e = .returned (.bool false) ∧ w' = w := by
  have e1 : ((p : Int) == 0) = false := by simp; omega
  go_enter Try.func33, Try.ntmps33
  go_wp2
  go_ret
  exact ⟨rfl, rfl⟩
theorem new_bad (p : Int) (w : World) (h : p < 1 ∨ 256 < p) : Calls Try.prog 8 #[.int .i64 p] w fun e w' => e = .returned (.tuple #[.pointer none, .int .i64 2]) ∧ w' = w := by
  rcases h with h | h
  · go_enter Try.func8, Try.ntmps8
    go_wp2
    go_ret2
    exact ⟨rfl, rfl⟩
  · have h' : ¬ p < 1 := by omega
    go_enter Try.func8, Try.ntmps8
    go_wp2
    go_ret2
    exact ⟨rfl, rfl⟩
theorem heap_at (w : World) (o : Obj) {k : Nat} (h : k = w.heap.size) : (w.alloc o).heap[k]? = some o := by subst h; exact heap_alloc_new w o
theorem new_ok (p : Nat) (w : World) (h1 : 1 ≤ p) (h2 : p ≤ 256) : Calls Try.prog 8 #[.int .i64 (p : Nat)] w fun e w' => ∃ sb, e = .returned (.tuple #[.pointer (some ⟨sb, 0, none⟩), .int .i64 0]) ∧ (∀ B, B ≤ w.heap.size → SS w' B sb p 0 [] [] none) ∧ Fr [] w w' := by
  have h3 : ¬ (p : Int) < 1 := by omega
  have h4 : ¬ (256 : Int) < p := by omega
  have hmm := @run_makeMap Try.prog
  go_enter Try.func8, Try.ntmps8
  go_wp2
  go_ret2
  have F1 : Fr [] w (w.alloc (.map #[] 0)) := (Fr.refl _ _).alloc _
  have g0 := heap_alloc_new w (.map #[] 0)
  refine ⟨_, rfl, fun B hB => ⟨w.heap.size, .slice none 0 0, .slice none 0 0, [], ?_⟩, F1.alloc _⟩
  have g1 : ((w.alloc (.map #[] 0)).alloc (.cells #[.int .i64 (p : Nat), .int .u64 0, .map (some w.heap.size), .slice none 0 0, .slice none 0 0, .pointer none] 63)).heap[w.heap.size]? = some (.map #[] 0) := (Below.heap_alloc _ _ _ (by simp)).trans g0
  exact ⟨heap_at _ _ (by simp), Own.nil _ _, Own.nil _ _, (by intro g hg; cases hg), ⟨_, _, g1, rfl⟩, by simp [all], by simp [all], ⟨by omega, hB, by simp [all]⟩, by simp [all], by simp [all], by simp, by simp, by simp, ⟨h1, h2, by omega, by simp [all]⟩⟩
theorem refused_nil (w : World) : Calls Try.prog 43 #[.pointer none] w fun e w' => e = .returned (.int .i64 1) ∧ w' = w := by
  go_enter Try.func43, Try.ntmps43
  go_wp2_with (go_at_call 33; refine (none_nil _).mono ?_; rintro e w' ⟨rfl, rfl⟩)
  go_ret
  exact ⟨rfl, rfl⟩
section
variable {w : World} {B sb mb : Nat} {vr vw : Value} {p now : Nat} {R W : List Tk} {X : Option Tk} {F : List Tk} {ts : List (Nat × Nat)}
theorem refused_any (h : SI w B sb mb vr vw p now R W X F ts) : Calls Try.prog 43 #[.pointer (some ⟨sb, 0, none⟩)] w fun e w' => e = .returned (.int .i64 (if X = none then 3 else 0)) ∧ w' = w := by
  have hp := h.num.1
  obtain ⟨c0, _, _, _, _, c5, _⟩ := h.cells
  clear h
  cases X with
  | none =>
    simp only [xv, Option.map_none] at c5
    go_enter Try.func43, Try.ntmps43
    go_wp2_with (go_at_call 33; refine (none_no sb p _ c0 hp).mono ?_; rintro e w' ⟨rfl, rfl⟩)
    go_ret
    exact ⟨rfl, rfl⟩
  | some t =>
    simp only [xv, Option.map_some] at c5
    go_enter Try.func43, Try.ntmps43
    go_wp2_with (go_at_call 33; refine (none_no sb p _ c0 hp).mono ?_; rintro e w' ⟨rfl, rfl⟩)
    go_ret
    exact ⟨rfl, rfl⟩
theorem stop_any {t : Tk} (h : SI w B sb mb vr vw p now R W (some t) F ts) : Calls Try.prog 44 #[.pointer (some ⟨sb, 0, none⟩)] w fun e w' => e = .returned (.pointer (some ⟨t.b, 0, none⟩)) ∧ w' = w.setCell ⟨sb, 5, none⟩ (.pointer none) := by
  obtain ⟨c0, _, _, _, _, c5, fz⟩ := h.cells
  simp only [xv, Option.map_some] at c5
  clear h
  go_enter Try.func44, Try.ntmps44
  go_wp2
  go_ret
  exact ⟨rfl, rfl⟩
end
/-- A task that has become ready. -/
def Tk.rd (why : Int) (t : Tk) : Tk := { t with st := 1, why := why, pa := 0 }
theorem TkAt.rd {w : World} {t : Tk} (h : TkAt w t) (why : Int) : TkAt (((w.setCell ⟨t.b, 1, none⟩ (.int .u8 1)).setCell ⟨t.b, 2, none⟩ (.int .i64 why)).setCell ⟨t.b, 3, none⟩ (.int .i64 0)) (t.rd why) := by
  unfold TkAt at h ⊢
  simp [World.setCell, Array.getElem?_modify, h, Tk.rd, Tk.cells]
/-- A slice of pointers that is handed in: none, or one that lies at a place. -/
def PArg (w : World) (v : Value) (bs : List Nat) : Prop := (v = .slice none 0 0 ∧ bs = []) ∨ ∃ g o c, v = .slice (some ⟨g, o, none⟩) bs.length c ∧ (∃ cs, w.heap[g]? = some (.cells cs 61)) ∧ ∀ i (h : i < bs.length), w.cell? ⟨g, o + i, none⟩ = some (.pointer (some ⟨bs[i], 0, none⟩))
theorem Own.arg {w : World} {B : Nat} {v : Value} {bs : List Nat} (h : Own w B v bs) : PArg w v bs := by
  rcases Nat.eq_zero_or_pos bs.length with h0 | h0
  · have e := List.length_eq_zero_iff.1 h0
    subst e
    rcases h.2 with ⟨h1, h2⟩ | ⟨g, cap, cur, h1, h2, h3, h4⟩
    · exact .inl ⟨h1, rfl⟩
    · exact .inr ⟨g, 0, cap, h1, ⟨_, h3⟩, by simp⟩
  · obtain ⟨g, cap, cur, h1, h2, h3, h4, h5, h6, h7⟩ := h.at h0
    subst h1
    exact .inr ⟨g, 0, cap, rfl, ⟨_, h4⟩, fun i hi => by simpa using h.cell i hi⟩
theorem PArg.fr {S : List Nat} {w w' : World} {v : Value} {bs : List Nat} (h : PArg w v bs) (hF : Fr S w w') (hS : ∀ k ∈ S, ∀ cs, w.heap[k]? ≠ some (.cells cs 61)) : PArg w' v bs := by
  rcases h with h | ⟨g, o, c, h1, ⟨cs, h2⟩, h3⟩
  · exact .inl h
  · have hg : g ∉ S := fun hm => hS g hm cs h2
    exact .inr ⟨g, o, c, h1, ⟨cs, hF.heap h2 hg⟩, fun i hi => hF.cell (h3 i hi) hg⟩
theorem ready_any (B sb mb p now : Nat) (vr vw x sv : Value) (why : Int) (bs : List Nat) (tl : List Tk) (w : World)
    (hb : w.heap[sb]? = some (.cells #[.int .i64 (p : Nat), .int .u64 (now : Nat), .map (some mb), vr, vw, x] 63)) (hrow : Own w B vr bs) (hB : B ≤ w.heap.size) (htk : ∀ t ∈ tl, TkAt w t) (hnd : (tl.map Tk.b).Nodup) (hsv : PArg w sv (tl.map Tk.b)) (hl : bs.length + tl.length ≤ 1000) :
    Calls Try.prog 36 #[.pointer (some ⟨sb, 0, none⟩), .int .i64 why, sv] w fun e w' => e = .returned (.tuple #[]) ∧ ∃ vr', w'.heap[sb]? = some (.cells #[.int .i64 (p : Nat), .int .u64 (now : Nat), .map (some mb), vr', vw, x] 63) ∧ Own w' B vr' (bs ++ tl.map Tk.b) ∧ (∀ t ∈ tl, TkAt w' (t.rd why)) ∧
      Fr (sb :: (vr.ownBlock.toList ++ tl.map Tk.b)) w w' ∧ (∀ g', vr'.ownBlock = some g' → vr.ownBlock = some g' ∨ w.heap.size ≤ g') := by
  have hnb : ∀ t ∈ tl, t.b ≠ sb := fun t ht => blk_ne (htk t ht) hb (by decide)
  have hnr : ∀ t ∈ tl, ∀ g, vr.ownBlock = some g → g ≠ t.b := fun t ht g hg => by
    obtain ⟨_, c, hc⟩ := hrow.blk g hg
    exact blk_ne hc (htk t ht) (by decide)
  have hsr : ∀ g, vr.ownBlock = some g → g ≠ sb := fun g hg => by
    obtain ⟨_, c, hc⟩ := hrow.blk g hg
    exact blk_ne hc hb (by decide)
  have hcl : ∀ k ∈ tl.map Tk.b, ∀ cs, w.heap[k]? ≠ some (.cells cs 61) := fun k hk cs e => by
    obtain ⟨t, ht, rfl⟩ := List.mem_map.1 hk
    exact blk_ne e (htk t ht) (by decide) rfl
  have HFin := hid (fun (wr W' : World) (vr' : Value) (h1 : Fr (tl.map Tk.b) w wr) (h2 : ∀ t ∈ tl, TkAt wr (t.rd why)) (h3 : Own W' B vr' (bs ++ tl.map Tk.b)) (h4 : Fr vr.ownBlock.toList wr W') (h5 : ∀ g', vr'.ownBlock = some g' → vr.ownBlock = some g' ∨ wr.heap.size ≤ g') =>
    (show ∃ vr'', (W'.setCell ⟨sb, 3, none⟩ vr').heap[sb]? = some (.cells #[.int .i64 (p : Nat), .int .u64 (now : Nat), .map (some mb), vr'', vw, x] 63) ∧ Own (W'.setCell ⟨sb, 3, none⟩ vr') B vr'' (bs ++ tl.map Tk.b) ∧ (∀ t ∈ tl, TkAt (W'.setCell ⟨sb, 3, none⟩ vr') (t.rd why)) ∧
      Fr (sb :: (vr.ownBlock.toList ++ tl.map Tk.b)) w (W'.setCell ⟨sb, 3, none⟩ vr') ∧ (∀ g', vr''.ownBlock = some g' → vr.ownBlock = some g' ∨ w.heap.size ≤ g') from by
    have hb1 := h1.heap hb (by simp; exact fun t ht e => hnb t ht e)
    have hb2 := h4.heap hb1 (by simp; intro e; exact hsr _ e rfl)
    have hF5 : Fr [sb] W' (W'.setCell ⟨sb, 3, none⟩ vr') := (Fr.refl _ _).setCell (by simp) _
    have hlt : sb < w.heap.size := lt_of_heap hb
    refine ⟨vr', ?_, h3.fr hF5 (fun g hg => ?_), fun t ht => ?_, ?_, fun g' hg' => (h5 g' hg').imp id (fun h => Nat.le_trans h1.size h)⟩
    · simp [World.setCell, Array.getElem?_modify, hb2]
    · simp
      rcases h5 g hg with h6 | h6
      · exact hsr g h6
      · have := h1.size; omega
    · refine ((h2 t ht).fr h4 ?_).fr hF5 (by simp; exact hnb t ht)
      simp; intro e; exact hnr t ht _ e rfl
    · refine ((h1.mono (T := sb :: (vr.ownBlock.toList ++ tl.map Tk.b)) (fun k hk => by simp at hk ⊢; exact .inr (.inr hk))).trans h4 (fun k hk => .inl (by simp at hk ⊢; exact .inr (.inl hk)))).trans hF5 (fun k hk => .inl (by simp at hk; simp [hk]))))
  have HL := hid (show ∀ (i : Nat) (h : i < tl.length) (wr : World), Fr (tl.map Tk.b) w wr → (∀ j (h : j < tl.length), j < i → TkAt wr (tl[j].rd why)) → (∀ j (h : j < tl.length), i ≤ j → TkAt wr tl[j]) →
      Fr (tl.map Tk.b) w (((wr.setCell ⟨tl[i].b, 1, none⟩ (.int .u8 1)).setCell ⟨tl[i].b, 2, none⟩ (.int .i64 why)).setCell ⟨tl[i].b, 3, none⟩ (.int .i64 0)) ∧
      (∀ j (h : j < tl.length), j < i + 1 → TkAt (((wr.setCell ⟨tl[i].b, 1, none⟩ (.int .u8 1)).setCell ⟨tl[i].b, 2, none⟩ (.int .i64 why)).setCell ⟨tl[i].b, 3, none⟩ (.int .i64 0)) (tl[j].rd why)) ∧ (∀ j (h : j < tl.length), i + 1 ≤ j → TkAt (((wr.setCell ⟨tl[i].b, 1, none⟩ (.int .u8 1)).setCell ⟨tl[i].b, 2, none⟩ (.int .i64 why)).setCell ⟨tl[i].b, 3, none⟩ (.int .i64 0)) tl[j]) from fun i hi wr h1 h2 h3 => by
    have hF : Fr [tl[i].b] wr (((wr.setCell ⟨tl[i].b, 1, none⟩ (.int .u8 1)).setCell ⟨tl[i].b, 2, none⟩ (.int .i64 why)).setCell ⟨tl[i].b, 3, none⟩ (.int .i64 0)) := (((Fr.refl _ _).setCell (by simp) _).setCell (by simp) _).setCell (by simp) _
    have hne : ∀ j (h : j < tl.length), j ≠ i → tl[j].b ∉ [tl[i].b] := fun j hj hji => by
      simp
      intro e
      exact hji ((List.getElem_inj (xs := tl.map Tk.b) (h₀ := by simpa using hj) (h₁ := by simpa using hi) hnd).1 (by simpa using e))
    refine ⟨h1.trans hF (fun k hk => .inl (by simp at hk; subst hk; simp; exact ⟨_, List.getElem_mem hi, rfl⟩)), fun j hj hji => ?_, fun j hj hji => (h3 j hj (by omega)).fr hF (hne j hj (by omega))⟩
    rcases Nat.lt_or_ge j i with h4 | h4
    · exact (h2 j hj h4).fr hF (hne j hj (by omega))
    · obtain rfl : j = i := by omega
      exact (h3 j hj (Nat.le_refl _)).rd why)
  rcases hsv with ⟨rfl, h0⟩ | ⟨g, o, c, rfl, ⟨cs, hg⟩, hc⟩
  · have e : tl = [] := by simpa using h0
    subst e
    have hap := run_app0 w 60 B vr bs hrow none 0 (.inl rfl)
    have c3 := cell_of_heap (o := 3) hb rfl
    have fz := frozen_of_heap (o := 3) hb
    have HO := hid hrow
    obtain ⟨pr, cr, rfl⟩ := ownsRow.form hrow
    clear hb hrow htk hnd hnb hnr hsr hcl HL hl
    go_enter Try.func36, Try.ntmps36
    go_wp2_with fail
    refine wp_loop_rounds 1 ?_
    rw [rounds_succ]
    go_wp2_with (first | (at_builtin; refine wpList_app rfl _ _ 60 rfl rfl rfl hap ?_) | go_in)
    go_end0
    exact ⟨rfl, HFin.out w w _ (Fr.refl _ _) (by simp) (by simpa using HO.out) (Fr.refl _ _) (fun g' h => .inl h)⟩
  · have HC := hid (fun (wr : World) (hF : Fr (tl.map Tk.b) w wr) (i : Nat) (h : i < tl.length) => (show wr.cell? ⟨g, o + i, none⟩ = some (.pointer (some ⟨tl[i].b, 0, none⟩)) from hF.cell (by have := hc i (by simpa using h); rw [List.getElem_map] at this; exact this) (fun hm => hcl g hm _ hg)))
    have HA := hid (fun (wr : World) (hF : Fr (tl.map Tk.b) w wr) (h2 : ∀ t ∈ tl, TkAt wr (t.rd why)) => (show ∃ v' w', (Builtin.append_ #[60, 60] 60 #[vr, .slice (some ⟨g, o, none⟩) tl.length c]).run Try.prog wr = .ok v' w' ∧ Own w' B v' (bs ++ tl.map Tk.b) ∧ Fr vr.ownBlock.toList wr w' ∧ (∀ g', v'.ownBlock = some g' → vr.ownBlock = some g' ∨ wr.heap.size ≤ g') from by
      refine run_app wr 60 B vr bs (hrow.fr hF (fun g hg hm => ?_)) ⟨g, o, none⟩ tl.length c (tl.map Tk.b) (by simp) (fun j u hu => ?_) (by omega) (by have := hF.size; omega)
      · obtain ⟨t, ht, e⟩ := List.mem_map.1 hm
        exact hnr t ht g hg e.symm
      · have hj : j < tl.length := by
          rcases Nat.lt_or_ge j tl.length with h | h
          · exact h
          · rw [List.getElem?_eq_none (by simp [pvs]; exact h)] at hu; cases hu
        have hadd : (⟨g, o, none⟩ : Addr).add j = ⟨g, o + j, none⟩ := by unfold Addr.add; split <;> simp_all
        rw [hadd, HC.out wr hF j hj]
        rw [← hu]; simp [pvs, hj, pv]))
    have HS := hid (fun (wr : World) (hF : Fr (tl.map Tk.b) w wr) => (show wr.cell? ⟨sb, 3, none⟩ = some vr ∧ wr.frozen? ⟨sb, 3, none⟩ = false from by
      have hb1 := hF.heap hb (by simp; exact fun t ht e => hnb t ht e)
      exact ⟨cell_of_heap hb1 rfl, frozen_of_heap hb1⟩))
    have HQ := hid (fun (wr W' : World) (hF : Fr (tl.map Tk.b) w wr) (h4 : Fr vr.ownBlock.toList wr W') => h4.heap (hF.heap hb (by simp; exact fun t ht e => hnb t ht e)) (show sb ∉ vr.ownBlock.toList from by simp; intro e; exact hsr _ e rfl))
    have HT := hid htk
    have HR := hid hrow
    obtain ⟨pr, cr, rfl⟩ := ownsRow.form hrow
    have hlen : (tl.map Tk.b).length = tl.length := by simp
    rw [hlen]
    clear hb hrow htk hnd hnb hnr hsr hcl hc hg hlen
    go_enter Try.func36, Try.ntmps36
    go_wp2_with fail
    go_loopg [10] tl.length (fun gk q wr => ∃ i : Nat, i ≤ tl.length ∧ gk = tl.length - i ∧ q = .int .i64 i ∧ Hid (Fr (tl.map Tk.b) w wr ∧ (∀ j (h : j < tl.length), j < i → TkAt wr (tl[j].rd why)) ∧ (∀ j (h : j < tl.length), i ≤ j → TkAt wr tl[j])))
    case atStart => exact ⟨0, Nat.zero_le _, rfl, rfl, hid ⟨Fr.refl _ _, by omega, fun j h _ => HT.out _ (List.getElem_mem h)⟩⟩
    case round =>
      obtain ⟨i, hi, hgk, rfl, K⟩ := hrel
      by_cases hlt : i < tl.length
      · have hlt' : (i : Int) < (tl.length : Int) := by omega
        have r0 := HC.out wr K.out.1 i hlt
        obtain ⟨k0, k1, k2, k3, _, _, kf⟩ := (K.out.2.2 i hlt (Nat.le_refl _)).cells
        have KN := hid (HL.out i hlt wr K.out.1 K.out.2.1 K.out.2.2)
        generalize tl[i].b = tb at *
        clear k0
        go_wp2_with fail
        go_roundg (tl.length - (i + 1))
        case measure => omega
        case rel => exact ⟨i + 1, by omega, rfl, by go_num, KN⟩
      · obtain rfl : i = tl.length := by omega
        obtain ⟨s3, sf⟩ := HS.out wr K.out.1
        have K2 := hid (fun t (ht : t ∈ tl) => (show TkAt wr (t.rd why) from by obtain ⟨n, hn, rfl⟩ := List.mem_iff_getElem.1 ht; exact K.out.2.1 n hn hn))
        obtain ⟨v', W', hap, a2, a3, a4⟩ := HA.out wr K.out.1 K2.out
        have HN := hid (HFin.out wr W' v' K.out.1 K2.out a2 a3 a4)
        obtain ⟨s3', sf'⟩ : W'.cell? ⟨sb, 3, none⟩ = some (.slice pr bs.length cr) ∧ W'.frozen? ⟨sb, 3, none⟩ = false := by
          have := HQ.out wr W' K.out.1 a3
          exact ⟨cell_of_heap this rfl, frozen_of_heap this⟩
        obtain ⟨pr', cr', rfl⟩ := ownsRow.form a2
        generalize (bs ++ List.map Tk.b tl).length = nl at hap HN
        have H4 := hid (And.intro a3 a4)
        clear a2 a3 a4
        go_wp2_with (first | (at_builtin; refine wpList_app rfl _ _ 60 rfl rfl rfl hap ?_) | go_in)
        go_end0
        exact ⟨rfl, HN.out⟩
theorem mem_all {R W : List Tk} {X : Option Tk} {F : List Tk} {t : Tk} : t ∈ all R W X F ↔ t ∈ R ∨ t ∈ W ∨ X = some t ∨ t ∈ F := by
  simp [all, or_assoc, Option.mem_toList]
section
variable {w w' : World} {B sb mb : Nat} {vr vw : Value} {p now : Nat} {R W : List Tk} {X : Option Tk} {F : List Tk} {ts : List (Nat × Nat)}
/-- Tasks of one block are one. -/
theorem SI.nob (h : SI w B sb mb vr vw p now R W X F ts) : ((all R W X F).map Tk.b).Nodup := by
  have h1 : ∀ t ∈ all R W X F, ∀ u ∈ all R W X F, t.b = u.b → t.id = u.id := fun t ht u hu e => by
    have a := h.tk t ht
    have b := h.tk u hu
    unfold TkAt at a b
    rw [e, b] at a
    simp [Tk.cells] at a
    have := a.1; omega
  have h2 := h.nod
  generalize all R W X F = l at *
  clear h
  induction l with
  | nil => simp
  | cons t l ih =>
    rw [List.map_cons, List.nodup_cons] at h2 ⊢
    refine ⟨fun hm => ?_, ih (fun a ha b hb => h1 a (by simp [ha]) b (by simp [hb])) h2.2⟩
    obtain ⟨u, hu, e⟩ := List.mem_map.1 hm
    exact h2.1 (List.mem_map.2 ⟨u, hu, (h1 t (by simp) u (by simp [hu]) e.symm).symm⟩)
theorem SI.sob (h : SI w B sb mb vr vw p now R W X F ts) : Sob B w sb ∧ Sob B w mb ∧ (∀ g, vr.ownBlock = some g → Sob B w g) ∧ (∀ g, vw.ownBlock = some g → Sob B w g) ∧ ∀ t ∈ all R W X F, Sob B w t.b := by
  refine ⟨.inr ⟨h.low.1, .inr (.inl ⟨_, _, h.blk⟩)⟩, ?_, fun g hg => ?_, fun g hg => ?_, fun t ht => .inr ⟨h.low.2.2 t ht, .inr (.inr (.inl ⟨_, _, h.tk t ht⟩))⟩⟩
  · obtain ⟨es, cl, e, _⟩ := h.map
    exact .inr ⟨h.low.2.1, .inr (.inr (.inr ⟨_, _, e⟩))⟩
  · obtain ⟨h1, c, hc⟩ := h.row.blk g hg; exact .inr ⟨h1, .inl ⟨_, _, hc⟩⟩
  · obtain ⟨h1, c, hc⟩ := h.wai.blk g hg; exact .inr ⟨h1, .inl ⟨_, _, hc⟩⟩
theorem rd_b (why : Int) (l : List Tk) : (l.map (Tk.rd why)).map Tk.b = l.map Tk.b := by simp [Tk.rd, Function.comp_def]
theorem rd_id (why : Int) (l : List Tk) : (l.map (Tk.rd why)).map Tk.id = l.map Tk.id := by simp [Tk.rd, Function.comp_def]
theorem rd_kv (why : Int) (l : List Tk) : (l.map (Tk.rd why)).map (fun t => (t.id, t.b)) = l.map (fun t => (t.id, t.b)) := by simp [Tk.rd, Function.comp_def]
theorem all_ready (R W : List Tk) (X : Option Tk) (F : List Tk) : (all (R ++ F) W X []).Perm (all R W X F) := by
  unfold all
  simp only [List.append_nil, List.append_assoc]
  refine List.Perm.append_left R ?_
  rw [← List.append_assoc W]
  exact List.perm_append_comm
theorem ready_si (h : SI w B sb mb vr vw p now R W X F ts) (sv : Value) (why : Int) (hsv : PArg w sv (F.map Tk.b)) :
    Calls Try.prog 36 #[.pointer (some ⟨sb, 0, none⟩), .int .i64 why, sv] w fun e w' => e = .returned (.tuple #[]) ∧ SS w' B sb p now (R ++ F.map (Tk.rd why)) W X ∧ Kq B w w' := by
  have hl := h.num.2.2.2
  have hB : B ≤ w.heap.size := by have := h.low.1; have := lt_of_heap h.blk; omega
  have hsub : ∀ t ∈ F, t ∈ all R W X F := fun t ht => mem_all.2 (.inr (.inr (.inr ht)))
  have hnob := h.nob
  have hnF : (F.map Tk.b).Nodup := by
    have : (all R W X F).map Tk.b = (R ++ W ++ X.toList).map Tk.b ++ F.map Tk.b := by simp [all]
    rw [this] at hnob
    exact (List.nodup_append.1 hnob).2.1
  refine (ready_any B sb mb p now vr vw (xv X) sv why (R.map Tk.b) F w h.blk h.row hB (fun t ht => h.tk t (hsub t ht)) hnF hsv (by simp [all] at hl ⊢; omega)).mono ?_
  rintro e w' ⟨rfl, vr', q1, q2, q3, q4, q5⟩
  have hsF : ∀ t ∈ R ++ W ++ X.toList, t.b ∉ F.map Tk.b := fun t ht hm => by
    have : (all R W X F).map Tk.b = (R ++ W ++ X.toList).map Tk.b ++ F.map Tk.b := by simp [all]
    rw [this] at hnob
    exact (List.nodup_append.1 hnob).2.2 _ (List.mem_map.2 ⟨t, ht, rfl⟩) _ hm rfl
  have hro : ∀ c, w.heap[sb]? ≠ some (.cells c 61) := fun c e => by have := h.blk; rw [this] at e; simp at e
  have hot : ∀ t ∈ R ++ W ++ X.toList, t.b ∉ sb :: (vr.ownBlock.toList ++ F.map Tk.b) := fun t ht => by
    have ht' := h.tk t (by simp only [all, List.mem_append] at ht ⊢; exact .inl ht)
    simp only [List.mem_cons, List.mem_append, not_or]
    refine ⟨blk_ne ht' h.blk (by decide), fun hm => ?_, hsF t ht⟩
    obtain ⟨_, c, hc⟩ := h.row.blk t.b (by simpa using hm)
    exact blk_ne hc ht' (by decide) rfl
  have hwo : ∀ g, vw.ownBlock = some g → g ∉ sb :: (vr.ownBlock.toList ++ F.map Tk.b) := fun g hg => by
    obtain ⟨_, c, hc⟩ := h.wai.blk g hg
    simp only [List.mem_cons, List.mem_append, not_or]
    refine ⟨blk_ne hc h.blk (by decide), fun hm => h.apt g (by simpa using hm) hg, fun hm => ?_⟩
    obtain ⟨t, ht, e⟩ := List.mem_map.1 hm
    exact blk_ne hc (h.tk t (hsub t ht)) (by decide) e.symm
  have hmo : mb ∉ sb :: (vr.ownBlock.toList ++ F.map Tk.b) := by
    simp only [List.mem_cons, List.mem_append, not_or]
    refine ⟨(h.map.ne h.blk).symm, fun hm => ?_, fun hm => ?_⟩
    · obtain ⟨_, c, hc⟩ := h.row.blk mb (by simpa using hm)
      exact h.map.ne hc rfl
    · obtain ⟨t, ht, e⟩ := List.mem_map.1 hm
      exact h.map.ne (h.tk t (hsub t ht)) e
  have hP : (all (R ++ F.map (Tk.rd why)) W X []).Perm (all R W X (F.map (Tk.rd why))) := all_ready R W X _
  have hmem : ∀ t ∈ all (R ++ F.map (Tk.rd why)) W X [], t ∈ R ++ W ++ X.toList ∨ ∃ u ∈ F, t = u.rd why := fun t ht => by
    have := hP.subset ht
    simp only [all, List.mem_append, List.mem_map] at this ⊢
    rcases this with h1 | ⟨u, hu, rfl⟩
    · exact .inl h1
    · exact .inr ⟨u, hu, rfl⟩
  have hback : ∀ t ∈ R ++ W ++ X.toList, t ∈ all R W X F := fun t ht => by simp only [all, List.mem_append] at ht ⊢; exact .inl ht
  refine ⟨rfl, ⟨mb, vr', vw, ts, q1, ?_, h.wai.fr q4 hwo, fun g hg hg2 => ?_, h.map.fr q4 hmo, fun t ht => ?_, ?_, ⟨h.low.1, h.low.2.1, fun t ht => ?_⟩, ?_, fun t ht => ?_, fun t ht => ?_, h.stW, h.stX, h.num.1, h.num.2.1, h.num.2.2.1, ?_⟩, ?_⟩
  · rw [List.map_append, rd_b]; exact q2
  · rcases q5 g hg with h1 | h1
    · exact h.apt g h1 hg2
    · obtain ⟨_, c, hc⟩ := h.wai.blk g hg2
      have := lt_of_heap hc; omega
  · rcases hmem t ht with h1 | ⟨u, hu, rfl⟩
    · exact (h.tk t (hback t h1)).fr q4 (hot t h1)
    · exact q3 u hu
  · refine h.per.trans ((List.Perm.map _ hP).symm.symm.trans ?_).symm
    have : (all R W X (F.map (Tk.rd why))).map (fun t => (t.id, t.b)) = (all R W X F).map (fun t => (t.id, t.b)) := by simp [all, Tk.rd, Function.comp_def]
    rw [this]
  · rcases hmem t ht with h1 | ⟨u, hu, rfl⟩
    · exact h.low.2.2 t (hback t h1)
    · exact h.low.2.2 u (hsub u hu)
  · have : ((all R W X (F.map (Tk.rd why))).map Tk.id) = (all R W X F).map Tk.id := by simp [all, Tk.rd, Function.comp_def]
    exact ((List.Perm.map _ hP).nodup_iff).2 (this ▸ h.nod)
  · rcases hmem t ht with h1 | ⟨u, hu, rfl⟩
    · exact h.rng t (hback t h1)
    · exact h.rng u (hsub u hu)
  · rcases List.mem_append.1 ht with h1 | h1
    · exact h.stR t h1
    · obtain ⟨u, hu, rfl⟩ := List.mem_map.1 h1; rfl
  · rw [hP.length_eq]; simpa [all] using hl
  · refine q4.kq (fun k hk => ?_)
    simp only [List.mem_cons, List.mem_append] at hk
    rcases hk with rfl | hk | hk
    · exact h.sob.1
    · exact h.sob.2.2.1 k (by simpa using hk)
    · obtain ⟨t, ht, rfl⟩ := List.mem_map.1 hk
      exact h.sob.2.2.2.2 t (hsub t ht)
end
end Go.Proofs.Ytenphgpmdigdcaa
