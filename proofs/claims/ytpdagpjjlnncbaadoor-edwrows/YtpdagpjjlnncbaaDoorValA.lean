/-
  A walk in closed values: what a call leaves ('Ret'), the blocks that a function has made ('St'), and a law for each kind of operation. No statement is proved here.
-/
import Derived.Test.YtpdagpjjlnncbaaDoorLast
import Derived.Test.YtpdagpjjlnncbaaDoorNews
import Derived.Deep.MidRow
import Derived.Laws.Tables
namespace Go.Proofs.YtpdagpjjlnncbaaDoor
open Go.RowKit Go.Lib Go.BigFrame
set_option linter.unusedVariables false
set_option linter.unusedSimpArgs false
set_option maxRecDepth 100000

/-- What stands in a world and is kept where nothing old is changed. -/
structure Keeps (Z : World → Prop) : Prop where
  fr : ∀ {W W' : World}, Z W → Fr [] W W' → Z W'
/-- A call answers v, and changes nothing old. -/
def Ret (Z : World → Prop) (f : Nat) (args : Array Value) (v : Value) : Prop := ∀ W : World, Z W → Calls Tryd.prog f args W fun e w' => e = .returned v ∧ Fr [] W w'
theorem Ret.weak {Y Z : World → Prop} {f : Nat} {args : Array Value} {v : Value} (h : Ret Y f args v) (hz : ∀ W, Z W → Y W) : Ret Z f args v := fun W hW => h W (hz W hW)
/-- 32 bytes in a row. -/
def BX (V : World) (b : Nat) (f : Nat → Int) : Prop := ∀ j, j < 32 → V.cell? ⟨b, j, none⟩ = some (.int .u8 (f j)) ∧ V.frozen? ⟨b, j, none⟩ = false
/-- What a block holds: these cells, or 32 bytes and what may be behind them. -/
inductive Cont where
  | row (A : Array Value) (t : Nat)
  | bytes (f : Nat → Int)
def Cont.holds (V : World) (b : Nat) : Cont → Prop
  | .row A t => V.heap[b]? = some (.cells A t)
  | .bytes f => BX V b f
theorem Cont.lt {V : World} {b : Nat} : ∀ {c : Cont}, c.holds V b → b < V.heap.size
  | .row _ _, h => lt_of_heap h
  | .bytes _, h => World.block_lt_of_cell? V _ (h 0 (by decide)).1
theorem Cont.same {V V' : World} {b : Nat} (e : V'.heap[b]? = V.heap[b]?) : ∀ {c : Cont}, c.holds V b → c.holds V' b
  | .row _ _, h => e.trans h
  | .bytes _, h => fun j hj => ⟨(World.cell?_of_block e).trans (h j hj).1, (World.frozen?_of_block e).trans (h j hj).2⟩
abbrev Mem := List (Nat × Cont)
/-- The world V stands behind w; the blocks M are new, each by itself, and hold what is told. -/
structure St (Z : World → Prop) (w V : World) (M : Mem) : Prop where
  fr : Fr [] w V
  z : Z w
  all : ∀ x ∈ M, x.2.holds V x.1
  lo : ∀ x ∈ M, w.heap.size ≤ x.1
  dis : M.Pairwise fun x y => x.1 ≠ y.1
section
variable {Z : World → Prop} {w V V' : World} {M : Mem}
theorem St.refl (h : Z w) : St Z w w [] := ⟨Fr.refl [] w, h, (fun x hx => by cases hx), (fun x hx => by cases hx), List.Pairwise.nil⟩
theorem St.nth (h : St Z w V M) (k : Nat) {b t : Nat} {A : Array Value} (hk : M[k]? = some (b, .row A t)) : V.heap[b]? = some (.cells A t) := h.all _ (List.mem_of_getElem? hk)
theorem St.byt (h : St Z w V M) (k : Nat) {b : Nat} {f : Nat → Int} (hk : M[k]? = some (b, .bytes f)) : BX V b f := h.all _ (List.mem_of_getElem? hk)
theorem St.low (h : St Z w V M) (k : Nat) {b : Nat} {c : Cont} (hk : M[k]? = some (b, c)) : w.heap.size ≤ b := h.lo _ (List.mem_of_getElem? hk)
theorem St.now (hZ : Keeps Z) (h : St Z w V M) : Z V := hZ.fr h.z h.fr
theorem St.step (h : St Z w V M) (hF : Fr [] V V') : St Z w V' M :=
  ⟨h.fr.trans0 hF, h.z, fun x hx => Cont.same (hF.block x.1 (Cont.lt (h.all x hx)) (by simp)) (h.all x hx), h.lo, h.dis⟩
theorem St.alloc (h : St Z w V M) (A : Array Value) (t : Nat) : St Z w (V.alloc (.cells A t)) ((V.heap.size, .row A t) :: M) := by
  have h1 := h.step ((Fr.refl [] V).alloc (.cells A t))
  refine ⟨h1.fr, h1.z, fun x hx => ?_, fun x hx => ?_, ?_⟩
  · rcases List.mem_cons.1 hx with rfl | hx
    · exact (MapKept.heap_alloc V _).1
    · exact h1.all x hx
  · rcases List.mem_cons.1 hx with rfl | hx
    · exact h.fr.size
    · exact h1.lo x hx
  · refine List.Pairwise.cons (fun y hy => ?_) h.dis
    have := Cont.lt (h.all y hy)
    show V.heap.size ≠ y.1
    omega
theorem set_mem {k : Nat} {M : Mem} {b : Nat} {A B : Cont} (hk : M[k]? = some (b, A)) {x : Nat × Cont} (hx : x ∈ M.set k (b, B)) : x = (b, B) ∨ ∃ j, j ≠ k ∧ M[j]? = some x := by
  obtain ⟨j, hj⟩ := List.mem_iff_getElem?.1 hx
  by_cases e : k = j
  · subst e
    rw [List.getElem?_set_self (by rcases Nat.lt_or_ge k M.length with q | q; exact q; rw [List.getElem?_eq_none q] at hk; cases hk)] at hj
    exact .inl (Option.some.inj hj).symm
  · rw [List.getElem?_set_ne e] at hj
    exact .inr ⟨j, Ne.symm e, hj⟩
theorem pair_ne {M : Mem} (h : M.Pairwise fun x y => x.1 ≠ y.1) {i j : Nat} {x y : Nat × Cont} (hi : M[i]? = some x) (hj : M[j]? = some y) (hne : i ≠ j) : x.1 ≠ y.1 := by
  have key : ∀ (i j : Nat) (x y : Nat × Cont), i < j → M[i]? = some x → M[j]? = some y → x.1 ≠ y.1 := by
    intro i j x y hlt hi hj
    obtain ⟨h1, e1⟩ := List.getElem?_eq_some_iff.1 hi
    obtain ⟨h2, e2⟩ := List.getElem?_eq_some_iff.1 hj
    have := List.pairwise_iff_getElem.1 h i j h1 h2 hlt
    rw [e1, e2] at this
    exact this
  rcases Nat.lt_or_gt_of_ne hne with q | q
  · exact key i j x y q hi hj
  · exact (key j i y x q hj hi).symm
theorem map_set {M : Mem} {k : Nat} {b : Nat} {A B : Cont} (hk : M[k]? = some (b, A)) : (M.set k (b, B)).map (·.1) = M.map (·.1) := by
  rw [List.map_set]
  refine List.ext_getElem? fun j => ?_
  by_cases e : k = j
  · subst e
    have hl : k < M.length := by rcases Nat.lt_or_ge k M.length with q | q; exact q; rw [List.getElem?_eq_none q] at hk; cases hk
    rw [List.getElem?_set_self (by simpa using hl), List.getElem?_map, hk]; rfl
  · rw [List.getElem?_set_ne e]
theorem pair_map {M : Mem} : (M.Pairwise fun x y => x.1 ≠ y.1) ↔ (M.map (·.1)).Pairwise fun x y => x ≠ y := by rw [List.pairwise_map]
theorem St.turn (h : St Z w V M) (k : Nat) {b : Nat} {A B : Cont} (hk : M[k]? = some (b, A)) (hF : Fr [] w V') (hb : B.holds V' b) (ho : ∀ i, i ≠ b → V'.heap[i]? = V.heap[i]?) : St Z w V' (M.set k (b, B)) := by
  refine ⟨hF, h.z, fun x hx => ?_, fun x hx => ?_, ?_⟩
  · rcases set_mem hk hx with rfl | ⟨j, hj, hM⟩
    · exact hb
    · exact Cont.same (ho x.1 (pair_ne h.dis hM hk hj)) (h.all x (List.mem_of_getElem? hM))
  · rcases set_mem hk hx with rfl | ⟨j, hj, hM⟩
    · exact h.low k hk
    · exact h.lo x (List.mem_of_getElem? hM)
  · rw [pair_map, map_set hk]; exact pair_map.1 h.dis
theorem St.set (h : St Z w V M) (k : Nat) {b t : Nat} {A : Array Value} (hk : M[k]? = some (b, .row A t)) (B : Array Value) : St Z w (V.setRow b B) (M.set k (b, .row B t)) :=
  h.turn k hk (h.fr.setRow (.inr (h.low k hk)) B) (setRow_heap V b A B t _ (h.nth k hk)) fun i hi => Go.setRow_other V b i B hi
theorem BX.set {b : Nat} {f : Nat → Int} (h : BX V b f) (k : Nat) (hk : k < 32) (z : Int) : BX (V.setCell ⟨b, k, none⟩ (.int .u8 z)) b (fun j => if j = k then z else f j) := by
  refine fun j hj => ⟨?_, ?_⟩
  · by_cases e : j = k
    · subst e
      rw [World.cell?_setCell_same _ _ _ (h j hj).1]; simp
    · rw [World.cell?_setCell_other _ _ _ _ (by simp <;> omega), (h j hj).1]; simp [e]
  · rw [World.frozen?_setCell]; exact (h j hj).2
theorem St.setByte (h : St Z w V M) (k : Nat) {b : Nat} {f : Nat → Int} (hk : M[k]? = some (b, .bytes f)) (i : Nat) (hi : i < 32) (z : Int) : St Z w (V.setCell ⟨b, i, none⟩ (.int .u8 z)) (M.set k (b, .bytes (fun j => if j = i then z else f j))) :=
  h.turn k hk (h.fr.setCell (.inr (h.low k hk)) _) ((h.byt k hk).set i hi z) fun i' hi' => heap_setCell_other _ _ _ _ hi'
theorem St.more (h : St Z w V M) {b : Nat} {c : Cont} (hF : Fr [] V V') (hb : V.heap.size ≤ b) (hc : c.holds V' b) : St Z w V' ((b, c) :: M) := by
  have h1 := h.step hF
  refine ⟨h1.fr, h1.z, fun x hx => ?_, fun x hx => ?_, List.Pairwise.cons (fun y hy => ?_) h.dis⟩
  · rcases List.mem_cons.1 hx with rfl | hx
    · exact hc
    · exact h1.all x hx
  · rcases List.mem_cons.1 hx with rfl | hx
    · exact Nat.le_trans h.fr.size hb
    · exact h1.lo x hx
  · have := Cont.lt (h.all y hy)
    show b ≠ y.1
    omega
end
end Go.Proofs.YtpdagpjjlnncbaaDoor
namespace Go.Proofs.YtpdagpjjlnncbaaDoor
open Go.RowKit Go.Lib Go.BigFrame
set_option linter.unusedVariables false
set_option linter.unusedSimpArgs false
set_option maxRecDepth 100000

/-- A type of n cells in a row. -/
def Row (ty n : Nat) : Prop := ∃ d : TypeDesc, Tryd.prog.underlying ty = some d ∧ d.isRow = true ∧ (Tryd.prog.info? ty).map (·.size) = some n
/-- The cells B stand in A from off on. -/
def Sub (A : Array Value) (off : Nat) (B : Array Value) : Prop := ∀ (j : Nat) v, B[j]? = some v → A[off + j]? = some v
theorem Sub.self (A : Array Value) : Sub A 0 A := fun j v h => by rw [Nat.zero_add]; exact h
def One (B : Array Value) : Prop := B.all (·.oneCell') = true
/-- The walks, shut: else Lean reckons guarded operations ahead of time. -/
structure Wl (ops : Array Oper) (Q : Exit → Act → World → Prop) (l : List Oper) (a : Act) (w : World) : Prop where
  out : wpList Tryd.prog ops Q l a w
structure Wq (ops : Array Oper) (C : World → Prop) (R : Act → Prop) (l : List Oper) (a : Act) : Prop where
  out : wpQuiet Tryd.prog ops C R l a
section
variable {Z : World → Prop} {w V : World} {M : Mem} {ops : Array Oper} {rest T : List Oper} {o : Oper} {a : Act} {Q : Exit → Act → World → Prop} {C : World → Prop} {R : Act → Prop}
theorem run_load (S : St Z w V M) (k : Nat) {b t off n : Nat} {A B : Array Value} (hk : M[k]? = some (b, .row A t)) {ty : Nat} (hs : Sub A off B) (hr : Row ty n) (hn : B.size = n) : (Instr.loadAt ty (.pointer (some ⟨b, off, none⟩))).run Tryd.prog V = .ok (.agg B) V := by
  obtain ⟨d, h1, h2, h3⟩ := hr
  have := run_loadAt_mid (P := Tryd.prog) V b off ty B.toList d (fun j v hv => cell_of_heap (S.nth k hk) (hs j v (by simpa using hv))) h1 h2 (by rw [h3, ← hn]; simp)
  simpa using this
theorem run_loadV (S : St Z w V M) (k : Nat) {b t n : Nat} {A : Array Value} (hk : M[k]? = some (b, .row A t)) {ty : Nat} (hr : Row ty n) (hn : A.size = n) : (loadVar ty ⟨b, 0, none⟩).run Tryd.prog V = .ok (.agg A) V := by
  obtain ⟨d, h1, h2, h3⟩ := hr
  have := run_loadVar_mid (P := Tryd.prog) V b 0 ty A.toList d (fun j v hv => cell_of_heap (S.nth k hk) (by rw [Nat.zero_add]; simpa using hv)) h1 h2 (by rw [h3, ← hn]; simp)
  simpa using this
theorem exec_load {ty : Nat} {x : Operand} (ho : o.op = .load ty x) {p v : Value} (hx : a.eval x = p) {W : World} (h : (Instr.loadAt ty p).run Tryd.prog W = .ok v W) : (execOp a.eval o).run Tryd.prog W = .ok (.value v) W := by
  unfold execOp
  simp only [ho, hx, Sem.run_bind, h, Result.andThen_ok, Sem.run_pure]
-- in the order of the text
theorem wl_want (hw : Region.wanted o (yielded ops a.tmps) = true) (h : ∀ K : Act → World → Prop, (∀ a w, Wl ops Q rest a w → K a w) → o.wp Tryd.prog a V K Q) : Wl ops Q (o :: rest) a V :=
  ⟨wpList_step fun K hK => by rw [if_pos hw]; exact h K fun a w k => hK a w k.out⟩
theorem wl_skip (hw : Region.wanted o (yielded ops a.tmps) = false) (h : ∀ a', a' = a.put o.dst undef → Wl ops Q rest a' V) : Wl ops Q (o :: rest) a V :=
  ⟨wpList_step fun K hK => by rw [if_neg (by rw [hw]; exact Bool.false_ne_true)]; exact hK _ _ (h _ rfl).out⟩
theorem wl_nil {K : Act → World → Prop} (h : K a V) : Wl ops (Exit.then K Q) [] a V := ⟨h⟩
theorem wl_pure (v : Value) (hw : Region.wanted o (yielded ops a.tmps) = true) (he : ∀ W, (execOp a.eval o).run Tryd.prog W = .ok (.value v) W) (h : ∀ a', a' = a.put o.dst v → Wl ops Q rest a' V) : Wl ops Q (o :: rest) a V :=
  wl_want hw fun K hK => by unfold Oper.wp; rw [he]; exact hK _ _ (h _ rfl)
theorem wl_alloc (S : St Z w V M) (A : Array Value) (t : Nat) (hw : Region.wanted o (yielded ops a.tmps) = true) (he : ∀ W : World, (execOp a.eval o).run Tryd.prog W = .ok (.value (.pointer (some ⟨W.heap.size, 0, none⟩))) (W.alloc (.cells A t))) (h : ∀ (b : Nat) (W : World) a', St Z w W ((b, .row A t) :: M) → a' = a.put o.dst (.pointer (some ⟨b, 0, none⟩)) → Wl ops Q rest a' W) : Wl ops Q (o :: rest) a V :=
  wl_want hw fun K hK => by unfold Oper.wp; rw [he]; exact hK _ _ (h _ _ _ (S.alloc A t) rfl)
theorem wl_load (S : St Z w V M) (k b off ty n : Nat) (x : Operand) (A B : Array Value) {t : Nat} (hw : Region.wanted o (yielded ops a.tmps) = true) (ho : o.op = .load ty x) (hx : a.eval x = .pointer (some ⟨b, off, none⟩)) (hk : M[k]? = some (b, .row A t)) (hs : Sub A off B) (hr : Row ty n) (hn : B.size = n) (h : ∀ a', a' = a.put o.dst (.agg B) → Wl ops Q rest a' V) : Wl ops Q (o :: rest) a V :=
  wl_want hw fun K hK => by unfold Oper.wp; rw [exec_load ho hx (run_load S k hk hs hr hn)]; exact hK _ _ (h _ rfl)
theorem wp_store_st {K : Act → World → Prop} (S : St Z w V M) (k b ty n : Nat) (x y : Operand) (A B : Array Value) {t : Nat} (ho : o.op = .store ty x y) (hx : a.eval x = .pointer (some ⟨b, 0, none⟩)) (hy : a.eval y = .agg B) (hk : M[k]? = some (b, .row A t)) (hr : Row ty n) (hn : B.size = n) (hA : A.size = n) (h1 : One B) (h : ∀ (W : World) a', St Z w W (M.set k (b, .row B t)) → a' = a.put o.dst undef → K a' W) : o.wp Tryd.prog a V K Q := by
  obtain ⟨d, -, -, h3⟩ := hr
  exact wp_store_row ty x y ho b B hx hy t A (S.nth k hk) (by rw [h3, hn]) (by rw [hA, hn]) h1 (h _ _ (S.set k hk B) rfl)
theorem wl_store (S : St Z w V M) (k b ty n : Nat) (x y : Operand) (A B : Array Value) {t : Nat} (hw : Region.wanted o (yielded ops a.tmps) = true) (ho : o.op = .store ty x y) (hx : a.eval x = .pointer (some ⟨b, 0, none⟩)) (hy : a.eval y = .agg B) (hk : M[k]? = some (b, .row A t)) (hr : Row ty n) (hn : B.size = n) (hA : A.size = n) (h1 : One B) (h : ∀ (W : World) a', St Z w W (M.set k (b, .row B t)) → a' = a.put o.dst undef → Wl ops Q rest a' W) : Wl ops Q (o :: rest) a V :=
  wl_want hw fun K hK => wp_store_st S k b ty n x y A B ho hx hy hk hr hn hA h1 fun W a' hS ha => hK _ _ (h W a' hS ha)
theorem wl_call (hZ : Keeps Z) (S : St Z w V M) {f : Nat} {args : Array Value} {v : Value} (H : Ret Z f args v) (hw : Region.wanted o (yielded ops a.tmps) = true) (he : ∀ W, (execOp a.eval o).run Tryd.prog W = .ok (.enter f args) W) (h : ∀ (W : World) a', St Z w W M → a' = a.put o.dst v → Wl ops Q rest a' W) : Wl ops Q (o :: rest) a V :=
  wl_want hw fun K hK => by
    unfold Oper.wp; rw [he]
    exact (H V (S.now hZ)).mono fun e W' ⟨h1, hF⟩ => by subst h1; exact hK _ _ (h _ _ (S.step hF) rfl)
-- in a region that draws its order
theorem wq_nil (h : R a) : Wq ops C R [] a := ⟨h⟩
theorem wq_skip (hw : Region.wanted o (yielded ops a.tmps) = false) (h : ∀ a', a' = a.put o.dst undef → Wq ops C R rest a') : Wq ops C R (o :: rest) a := ⟨wpQuiet_skip hw (h _ rfl).out⟩
theorem wq_pure (v : Value) (hw : Region.wanted o (yielded ops a.tmps) = true) (he : ∀ W, (execOp a.eval o).run Tryd.prog W = .ok (.value v) W) (h : ∀ a', a' = a.put o.dst v → Wq ops C R rest a') : Wq ops C R (o :: rest) a :=
  ⟨wpQuiet_want hw fun K hK => ⟨v, fun W _ => by unfold Oper.quietAt; rw [he]; exact ⟨rfl, rfl⟩, hK _ (h _ rfl).out⟩⟩
theorem wq_load (S : St Z w V M) (k b off ty n : Nat) (x : Operand) (A B : Array Value) {t : Nat} (hw : Region.wanted o (yielded ops a.tmps) = true) (ho : o.op = .load ty x) (hx : a.eval x = .pointer (some ⟨b, off, none⟩)) (hk : M[k]? = some (b, .row A t)) (hs : Sub A off B) (hr : Row ty n) (hn : B.size = n) (h : ∀ a', a' = a.put o.dst (.agg B) → Wq ops (fun w' => ∃ x, w' = ext V x) R rest a') : Wq ops (fun w' => ∃ x, w' = ext V x) R (o :: rest) a :=
  ⟨wpQuiet_want hw fun K hK => ⟨_, fun W hW => by obtain ⟨x', rfl⟩ := hW; unfold Oper.quietAt; rw [exec_load ho hx (run_load (S.step (ext_fr V x')) k hk hs hr hn)]; exact ⟨rfl, rfl⟩, hK _ (h _ rfl).out⟩⟩
theorem wq_call (hZ : Keeps Z) (S : St Z w V M) {f : Nat} {args : Array Value} {v : Value} (H : Ret Z f args v) (hw : Region.wanted o (yielded ops a.tmps) = true) (he : ∀ W, (execOp a.eval o).run Tryd.prog W = .ok (.enter f args) W) (h : ∀ a', a' = a.put o.dst v → Wq ops (fun w' => ∃ x, w' = ext V x) R rest a') : Wq ops (fun w' => ∃ x, w' = ext V x) R (o :: rest) a :=
  ⟨wpQuiet_want hw fun K hK => ⟨_, fun W hW => by obtain ⟨x', rfl⟩ := hW; unfold Oper.quietAt; rw [he]; exact ⟨rfl, Calls.ext_of (H _ ((S.step (ext_fr V x')).now hZ))⟩, hK _ (h _ rfl).out⟩⟩
-- the last operations of such a region
theorem wt_nil {K : Act → World → Prop} (h : K a V) : tailWp Tryd.prog (Exit.then K Q) [] a V := h
theorem wt_pure (v : Value) (he : ∀ W, (execOp a.eval o).run Tryd.prog W = .ok (.value v) W) (h : ∀ a', a' = a.put o.dst v → tailWp Tryd.prog Q T a' V) : tailWp Tryd.prog Q (o :: T) a V := by
  show o.wp Tryd.prog a V (tailWp Tryd.prog Q T) Q
  unfold Oper.wp; rw [he]; exact h _ rfl
theorem wt_store (S : St Z w V M) (k b ty n : Nat) (x y : Operand) (A B : Array Value) {t : Nat} (ho : o.op = .store ty x y) (hx : a.eval x = .pointer (some ⟨b, 0, none⟩)) (hy : a.eval y = .agg B) (hk : M[k]? = some (b, .row A t)) (hr : Row ty n) (hn : B.size = n) (hA : A.size = n) (h1 : One B) (h : ∀ (W : World) a', St Z w W (M.set k (b, .row B t)) → a' = a.put o.dst undef → tailWp Tryd.prog Q T a' W) : tailWp Tryd.prog Q (o :: T) a V :=
  wp_store_st S k b ty n x y A B ho hx hy hk hr hn hA h1 h
-- regions
theorem wr_list {id : Nat} {l : List Oper} (h : Wl l.toArray Q l a V) : (Code.region id l.toArray false).wp Tryd.prog Q a V := wp_region_list (by simpa using h.out)
theorem wq_post {R' : Act → Prop} (h : ∀ a, R a → R' a) : ∀ (l : List Oper) (a : Act), wpQuiet Tryd.prog ops C R l a → wpQuiet Tryd.prog ops C R' l a
  | [], a, hq => h a hq
  | o :: rest, a, hq => by
    refine wpQuiet_step fun K hK => ?_
    have hq' : if Region.wanted o (yielded ops a.tmps) then o.quiet Tryd.prog a C (wpQuiet Tryd.prog ops C R rest) else wpQuiet Tryd.prog ops C R rest (a.put o.dst undef) := hq
    split
    · rename_i hw; rw [if_pos hw] at hq'; exact Oper.quiet_mono (fun a' ha => hK a' (wq_post h rest a' ha)) hq'
    · rename_i hw; rw [if_neg hw] at hq'; exact hK _ (wq_post h rest _ hq')
theorem wr_ext {id : Nat} {l : List Oper} (S : St Z w V M) (hm : Tryd.prog.follows .mixedOrders = true) (hB : Region.lexB .any l.toArray = true) (h : Wq l.toArray (fun w' => ∃ x, w' = ext V x) (fun a' => ∀ W, St Z w W M → Q .normal a' W) l a) : (Code.region id l.toArray true).wp Tryd.prog Q a V :=
  wp_region_ext hm hB (wq_post (fun a' h1 W hW => by obtain ⟨x, rfl⟩ := hW; exact h1 _ (S.step (ext_fr V x))) l a h.out)
theorem wr_tail {id : Nat} (l T : List Oper) (S : St Z w V M) (hT : T ≠ []) (hm : Tryd.prog.follows .mixedOrders = true) (hB : Region.lexB .any (l ++ T.map idle).toArray = true) (hg : (l ++ T).all (fun x => x.guard.isNone) = true) (hlow : lowB (l ++ T) = true) (hc : coverT l.length (l ++ T) = true)
    (h : Wq (l ++ T.map idle).toArray (fun w' => ∃ x, w' = ext V x) (fun a' => ∀ W, St Z w W M → tailWp Tryd.prog Q T a' W) l a) : (Code.region id (l ++ T).toArray true).wp Tryd.prog Q a V :=
  wp_region_tail_ext l T hT hm hB hg hlow hc (wq_post (fun a' h1 W hW => by obtain ⟨x, rfl⟩ := hW; exact h1 _ (S.step (ext_fr V x))) l a h.out)
/-- The blocks that such a region makes. -/
def newMem (p : Nat → Nat) (Al : News) : Mem := Al.map fun x => (p x.1, .row x.2.2 x.2.1)
theorem new_pair {p : Nat → Nat} : ∀ (Al : News), (Al.Pairwise fun x y => x.1 ≠ y.1) → (∀ x ∈ Al, ∀ y ∈ Al, x.1 ≠ y.1 → p x.1 ≠ p y.1) → (newMem p Al).Pairwise fun x y => x.1 ≠ y.1
  | [], _, _ => List.Pairwise.nil
  | x :: Al, h, hd => by
    obtain ⟨h1, h2⟩ := List.pairwise_cons.1 h
    refine List.Pairwise.cons (fun y hy => ?_) (new_pair Al h2 fun a ha b hb => hd a (List.mem_cons_of_mem _ ha) b (List.mem_cons_of_mem _ hb))
    obtain ⟨z, hz, rfl⟩ := List.mem_map.1 hy
    exact hd x (List.mem_cons_self) z (List.mem_cons_of_mem _ hz) (h1 z hz)
theorem pair_ty {Al : News} (h : Al.Pairwise fun x y => x.1 ≠ y.1) : ∀ x ∈ Al, ∀ y ∈ Al, x.1 = y.1 → x = y := by
  induction Al with
  | nil => intro x hx; cases hx
  | cons c Al ih =>
    obtain ⟨h1, h2⟩ := List.pairwise_cons.1 h
    intro x hx y hy hxy
    rcases List.mem_cons.1 hx with ex | mx
    · rcases List.mem_cons.1 hy with ey | my
      · rw [ex, ey]
      · rw [ex] at hxy; exact absurd hxy (h1 y my)
    · rcases List.mem_cons.1 hy with ey | my
      · rw [ey] at hxy; exact absurd hxy.symm (h1 x mx)
      · exact ih h2 x mx y my hxy
theorem wr_news {id : Nat} (Al : News) (l T : List Oper) {af : Act} (S : St Z w V M) (hT : T ≠ []) (hm : Tryd.prog.follows .mixedOrders = true) (hB : Region.lexB .any (l.map still ++ T.map idle).toArray = true)
    (hg : (l ++ T).all (fun x => x.guard.isNone) = true) (hlow : lowB (l ++ T) = true) (hc : coverT l.length (l ++ T) = true) (hN : newB Al l = true) (hty : Al.Pairwise fun x y => x.1 ≠ y.1)
    (hrun : ∀ x ∈ Al, ∀ W : World, (Instr.alloc x.2.1 true (.tuple #[])).run Tryd.prog W = .ok (.pointer (some ⟨W.heap.size, 0, none⟩)) (W.alloc (.cells x.2.2 x.2.1)))
    (h : ∀ V', St Z w V' M → Wq (l.map still ++ T.map idle).toArray (fun w' => ∃ x, w' = ext V' x) (fun a' => a' = af) (l.map still) a)
    (hp : ∀ (W : World) (p : Nat → Nat), St Z w W (newMem p Al ++ M) → tailWp Tryd.prog Q T (putAll p Al af) W) : (Code.region id (l ++ T).toArray true).wp Tryd.prog Q a V := by
  refine wp_region_news Al l T hT hm hB hg hlow hc hN (pair_ty hty) hrun (fun V' hV => (h V' (S.step hV)).out) (fun W p hW hb hd => hp W p ?_)
  have S1 := S.step hW
  refine ⟨S1.fr, S1.z, fun x hx => ?_, fun x hx => ?_, ?_⟩
  · rcases List.mem_append.1 hx with hx | hx
    · obtain ⟨z, hz, rfl⟩ := List.mem_map.1 hx
      exact (hb z hz).1
    · exact S1.all x hx
  · rcases List.mem_append.1 hx with hx | hx
    · obtain ⟨z, hz, rfl⟩ := List.mem_map.1 hx
      exact Nat.le_trans S.fr.size (hb z hz).2
    · exact S1.lo x hx
  · refine List.pairwise_append.2 ⟨new_pair Al hty hd, S.dis, fun x hx y hy => ?_⟩
    obtain ⟨z, hz, rfl⟩ := List.mem_map.1 hx
    have h1 := (hb z hz).2
    have h2 := Cont.lt (S.all y hy)
    show p z.1 ≠ y.1
    omega
-- the ends
theorem fin_tmp {fn : Func} {r : Nat} {v : Value} (S : St Z w V M) (hr : fn.results = #[.tmp r]) (ht : a.tmps.getD r undef = v) (hd : a.defers = []) : bodyPost Tryd.prog fn (fun e w' => e = .returned v ∧ Fr [] w w') .ret a V :=
  bodyPost_ret ((results_tmp hr _ _ _).trans (by rw [ht])) hd ⟨rfl, S.fr⟩
theorem res_cell {fn : Func} {tmps : Array Value} {r b ty : Nat} {v : Value} {W : World} (hr : fn.results = #[.cell r ty]) (ht : tmps.getD r undef = .pointer (some ⟨b, 0, none⟩)) (hl : (loadVar ty ⟨b, 0, none⟩).run Tryd.prog W = .ok v W) : (results fn tmps).run Tryd.prog W = .ok v W := by
  unfold results
  rw [hr]
  rw [Array.getD_eq_getD_getElem?] at ht
  simp [ht, asAddr, hl]
theorem res_cell_tmp {fn : Func} {tmps : Array Value} {r s b ty : Nat} {v u : Value} {W : World} (hr : fn.results = #[.cell r ty, .tmp s]) (ht : tmps.getD r undef = .pointer (some ⟨b, 0, none⟩)) (hu : tmps.getD s undef = u) (hl : (loadVar ty ⟨b, 0, none⟩).run Tryd.prog W = .ok v W) : (results fn tmps).run Tryd.prog W = .ok (.tuple #[v, u]) W := by
  unfold results
  rw [hr]
  rw [Array.getD_eq_getD_getElem?] at ht hu
  simp [ht, hu, asAddr, hl]
theorem fin_cell {fn : Func} {r k b ty n t : Nat} {A : Array Value} (S : St Z w V M) (hr : fn.results = #[.cell r ty]) (ht : a.tmps.getD r undef = .pointer (some ⟨b, 0, none⟩)) (hk : M[k]? = some (b, .row A t)) (hR : Row ty n) (hn : A.size = n) (hd : a.defers = []) : bodyPost Tryd.prog fn (fun e w' => e = .returned (.agg A) ∧ Fr [] w w') .ret a V :=
  bodyPost_ret (res_cell hr ht (run_loadV S k hk hR hn)) hd ⟨rfl, S.fr⟩
theorem fin_cell_tmp {fn : Func} {r s k b ty n t : Nat} {A : Array Value} {u : Value} (S : St Z w V M) (hr : fn.results = #[.cell r ty, .tmp s]) (ht : a.tmps.getD r undef = .pointer (some ⟨b, 0, none⟩)) (hu : a.tmps.getD s undef = u) (hk : M[k]? = some (b, .row A t)) (hR : Row ty n) (hn : A.size = n) (hd : a.defers = []) : bodyPost Tryd.prog fn (fun e w' => e = .returned (.tuple #[.agg A, u]) ∧ Fr [] w w') .ret a V :=
  bodyPost_ret (res_cell_tmp hr ht hu (run_loadV S k hk hR hn)) hd ⟨rfl, S.fr⟩
end
end Go.Proofs.YtpdagpjjlnncbaaDoor
