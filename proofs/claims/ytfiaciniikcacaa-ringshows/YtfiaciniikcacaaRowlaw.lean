/-
  Laws of copy, clear and append for rows of spans (elements of two cells), as steps of a walk. No statement is proved here.
-/
import Derived.Test.YtfiaciniikcacaaSome
import Derived.Laws.CopyOwn
namespace Go.Proofs.Ytfiaciniikcacaa
open Go.RowKit Go.BigFrame
set_option linter.unusedVariables false
set_option linter.unusedSimpArgs false
set_option maxRecDepth 100000
set_option maxHeartbeats 1000000

/-- A block of spans, all its cells told. -/
def Blk (w : World) (g : Nat) (cur : List Value) : Prop := w.heap[g]? = some (.cells cur.toArray 83 (0, 0))

theorem run_copy2 (w : World) (ty : TypeId) (g o dLen dCap : Nat) (a : Addr) (sLen sCap : Nat) (cur cs : List Value)
    (hg : Blk w g cur) (hn : cs.length = Nat.min sLen dLen * 2)
    (hsrc : ∀ j v, cs[j]? = some v → w.cell? (a.add j) = some v) (hfit : o + cs.length ≤ cur.length) (h1 : ∀ v ∈ cs, v.oneCell' = true) :
    (Builtin.copy_ #[48, 48] ty #[.slice (some ⟨g, o, none⟩) dLen dCap, .slice (some a) sLen sCap]).run Try.prog w =
      .ok (goInt (Nat.min sLen dLen)) (w.setRow g (splice cur o cs).toArray) := by
  obtain ⟨i, hi, hz, hs, hb⟩ := info83
  have hl := run_loadCells_list (P := Try.prog) w a cs hsrc
  have hst := run_storeCells_at Try.prog g o 83 cs 0 cur.toArray w hg (by simpa using hfit) h1
  rw [hn] at hl
  simp [Builtin.copy_, run_underlying Try.underlying48, Builtin.lenOf, Builtin.firstCells, sizeOf, typeInfo, hi, hs, hl, hst, splice]

theorem run_copy2_none (w : World) (ty : TypeId) (dp sp : Option Addr) (dLen dCap sLen sCap : Nat) (hn : Nat.min sLen dLen = 0) :
    (Builtin.copy_ #[48, 48] ty #[.slice dp dLen dCap, .slice sp sLen sCap]).run Try.prog w = .ok (goInt 0) w := by
  obtain ⟨i, hi, hz, hs, hb⟩ := info83
  cases dp <;> cases sp <;> simp [Builtin.copy_, run_underlying Try.underlying48, Builtin.lenOf, Builtin.firstCells, sizeOf, typeInfo, hi, hn, loadCells, loadCellsFrom, storeCells]

theorem wp_copy2 {w : World} {o : Oper} {a : Act} {K : Act → World → Prop} {Q : Exit → Act → World → Prop} (d s : Operand)
    (ho : o.op = .call { callee := .builtin .copy, args := #[d, s], argTypes := #[48, 48] })
    (dp sp : Option Addr) (dLen dCap sLen sCap : Nat) (hd : a.eval d = .slice dp dLen dCap) (hs : a.eval s = .slice sp sLen sCap)
    (g off : Nat) (cur cs : List Value) (hg : Blk w g cur) (hn : cs.length = Nat.min sLen dLen * 2)
    (hpos : 0 < cs.length → dp = some ⟨g, off, none⟩ ∧ ∃ ad, sp = some ad ∧ ∀ j v, cs[j]? = some v → w.cell? (ad.add j) = some v)
    (hfit : off + cs.length ≤ cur.length) (h1 : ∀ v ∈ cs, v.oneCell' = true)
    (h : ∀ w', Hid (Blk w' g (splice cur off cs)) → Fr [g] w w' → K (a.put o.dst (goInt (Nat.min sLen dLen))) w') : o.wp Try.prog a w K Q := by
  by_cases h0 : cs.length = 0
  · obtain rfl : cs = [] := List.eq_nil_of_length_eq_zero h0
    have hm : Nat.min sLen dLen = 0 := by simp at hn; omega
    have hrun := run_copy2_none w o.type dp sp dLen dCap sLen sCap hm
    unfold Oper.wp
    simp [execOp, ho, resolve, invoke, builtin, hd, hs, hrun, Result.andThen]
    have := h w (show _ = _ by simpa [splice, Blk] using hg) (Fr.refl _ _)
    rwa [hm] at this
  · obtain ⟨rfl, ad, rfl, hsrc⟩ := hpos (by omega)
    have hrun := run_copy2 w o.type g off dLen dCap ad sLen sCap cur cs hg hn hsrc hfit h1
    unfold Oper.wp
    simp [execOp, ho, resolve, invoke, builtin, hd, hs, hrun, Result.andThen]
    exact h _ (show _ = _ from setRow_heap w g _ _ 83 _ hg) ((Fr.refl [g] w).setRow (by simp) _)

theorem wpList_copy2 {w : World} {ops : Array Oper} {rest : List Oper} {o : Oper} {a : Act} {Q : Exit → Act → World → Prop} (hgd : o.guard = none) (d s : Operand)
    (ho : o.op = .call { callee := .builtin .copy, args := #[d, s], argTypes := #[48, 48] })
    (dp sp : Option Addr) (dLen dCap sLen sCap : Nat) (hd : a.eval d = .slice dp dLen dCap) (hs : a.eval s = .slice sp sLen sCap)
    (g off : Nat) (cur cs : List Value) (hg : Blk w g cur) (hn : cs.length = Nat.min sLen dLen * 2)
    (hpos : 0 < cs.length → dp = some ⟨g, off, none⟩ ∧ ∃ ad, sp = some ad ∧ ∀ j v, cs[j]? = some v → w.cell? (ad.add j) = some v)
    (hfit : off + cs.length ≤ cur.length) (h1 : ∀ v ∈ cs, v.oneCell' = true)
    (h : ∀ w', Hid (Blk w' g (splice cur off cs)) → Fr [g] w w' → wpList Try.prog ops Q rest (a.put o.dst (goInt (Nat.min sLen dLen))) w') : wpList Try.prog ops Q (o :: rest) a w :=
  wpList_plain hgd fun _ hK => wp_copy2 d s ho dp sp dLen dCap sLen sCap hd hs g off cur cs hg hn hpos hfit h1 fun w' h2 h3 => hK _ _ (h w' h2 h3)

theorem step_copy2 {w : World} {ops : Array Oper} {o : Oper} {a : Act} {K : Act → World → Prop} {Q : Exit → Act → World → Prop} {E : Prop} (hgd : o.guard = none) (d s : Operand)
    (ho : o.op = .call { callee := .builtin .copy, args := #[d, s], argTypes := #[48, 48] })
    (dp sp : Option Addr) (dLen dCap sLen sCap : Nat) (hd : a.eval d = .slice dp dLen dCap) (hs : a.eval s = .slice sp sLen sCap)
    (g off : Nat) (cur cs : List Value) (hg : Blk w g cur) (hn : cs.length = Nat.min sLen dLen * 2)
    (hpos : 0 < cs.length → dp = some ⟨g, off, none⟩ ∧ ∃ ad, sp = some ad ∧ ∀ j v, cs[j]? = some v → w.cell? (ad.add j) = some v)
    (hfit : off + cs.length ≤ cur.length) (h1 : ∀ v ∈ cs, v.oneCell' = true)
    (h : ∀ w', Hid (Blk w' g (splice cur off cs)) → Fr [g] w w' → K (a.put o.dst (goInt (Nat.min sLen dLen))) w') :
    if Region.wanted o (yielded ops a.tmps) = true then Oper.wp Try.prog o a w K Q else E := by
  have hw : Region.wanted o (yielded ops a.tmps) = true := by simp [Region.wanted, hgd]
  rw [if_pos hw]
  exact wp_copy2 d s ho dp sp dLen dCap sLen sCap hd hs g off cur cs hg hn hpos hfit h1 h

/-- A row that the slice lv holds. -/
abbrev Row (w : World) (lv : Value) (l : List (Nat × Nat)) : Prop := w.ownsRow 0 83 2 lv l.length (flat l)

/-- The first block at which what is appended to v may lie. -/
def lo (w : World) (v : Value) : Nat := match v.ownBlock with
  | some g => g
  | none => w.heap.size
theorem Row.rebase {w : World} {v : Value} {l : List (Nat × Nat)} (h : Row w v l) : w.ownsRow (lo w v) 83 2 v l.length (flat l) ∧ lo w v ≤ w.heap.size := by
  rcases h.2 with ⟨rfl, h0⟩ | ⟨g, cap, cur, rfl, _, hg, r⟩
  · exact ⟨⟨h.1, .inl ⟨rfl, h0⟩⟩, Nat.le_refl _⟩
  · exact ⟨⟨h.1, .inr ⟨g, cap, cur, rfl, Nat.le_refl _, hg, r⟩⟩, Nat.le_of_lt (lt_of_heap hg)⟩
theorem Row.ofBase {w : World} {b : Nat} {v : Value} {n : Nat} {l : List (Nat × Nat)} (h : w.ownsRow b 83 2 v n (flat l)) (hn : n = l.length) : Row w v l ∧ ∀ g, v.ownBlock = some g → b ≤ g := by
  subst hn
  rcases h.2 with ⟨rfl, h0⟩ | ⟨g, cap, cur, rfl, hb, hg, r⟩
  · exact ⟨⟨h.1, .inl ⟨rfl, h0⟩⟩, fun g e => by cases e⟩
  · exact ⟨⟨h.1, .inr ⟨g, cap, cur, rfl, Nat.zero_le _, hg, r⟩⟩, fun g' e => by simp only [Value.ownBlock, Option.some.injEq] at e; omega⟩

theorem lo_mono {w w' : World} {v : Value} (h : w.heap.size ≤ w'.heap.size) : lo w v ≤ lo w' v := by
  unfold lo
  cases v.ownBlock with
  | none => exact h
  | some g => exact Nat.le_refl _
theorem lo_own {w : World} {v : Value} {g : Nat} (h : v.ownBlock = some g) : lo w v ≤ g := by unfold lo; rw [h]; exact Nat.le_refl _
theorem wpList_append2 {w : World} {ops : Array Oper} {rest : List Oper} {o : Oper} {a : Act} {Q : Exit → Act → World → Prop} (hgd : o.guard = none) (s x : Operand)
    (ho : o.op = .call { callee := .builtin .append, args := #[s, x], argTypes := #[48, 48] })
    (v : Value) (l k : List (Nat × Nat)) (hs : a.eval s = v) (hown : Row w v l)
    (vv : Value) (hx : a.eval x = vv) (hk : Row w vv k) (hlen : l.length + k.length ≤ 2097152)
    (h : ∀ v' w', Row w' v' (l ++ k) → Hid (∀ g, v'.ownBlock = some g → lo w v ≤ g) → Fr v.ownBlock.toList w w' → wpList Try.prog ops Q rest (a.put o.dst v') w') : wpList Try.prog ops Q (o :: rest) a w := by
  obtain ⟨i, hi, hz, hsz, hb⟩ := info83
  rcases hk.2 with ⟨rfl, h0⟩ | ⟨g, cap, cur, rfl, _, hg, hnc, hcm, hcs, htake⟩
  · obtain rfl : k = [] := List.eq_nil_of_length_eq_zero h0
    refine wpList_plain hgd fun K hK => ?_
    have hrun : (Builtin.append_ #[48, 48] o.type #[v, .slice none 0 0]).run Try.prog w = .ok v w := by
      rcases hown.2 with ⟨rfl, _⟩ | ⟨g, cap, cur, rfl, _, hg, hnc, hcm, hcs, htake⟩
      · simp [Builtin.append_, run_underlying Try.underlying48, sizeOf, typeInfo, hi, Builtin.lenOf, Builtin.firstCells]
      · simp [Builtin.append_, run_underlying Try.underlying48, sizeOf, typeInfo, hi, Builtin.lenOf, Builtin.firstCells, hnc, storeCells]
    unfold Oper.wp
    simp only [execOp, ho, resolve, invoke, builtin, Sem.run_bind, Sem.run_pure, Result.andThen_ok, List.map_toArray, List.map_cons, List.map_nil, hs, hx, hrun]
    exact hK _ _ (h v w (by simpa [Row] using hown) (fun g hg => lo_own hg) (Fr.refl _ _))
  · refine wpList_append_own (P := Try.prog) w hgd s x 48 ho (lo w v) 83 i (.agg #[.int .u32 0, .int .u32 0]) 2 8 Try.underlying48 hi hz hsz hb rfl (by omega) v l.length (flat l) hs hown.rebase.1
      ⟨g, 0, none⟩ k.length cap (flat k) hx (flat_length k) (hk.cells rfl) (flat_one k) (by simp [maxLen]; omega) (by omega) hown.rebase.2 ?_
    intro v' w' h2 h3 _
    rw [← flat_append] at h2
    have h4 := Row.ofBase h2 (by simp)
    exact h v' w' h4.1 h4.2 (Fr.ofGrown h3)

theorem Fr.ofDrew {S : List Nat} {w w' : World} (h : Fr S w.drew w') : Fr S w w' := ⟨h.os, h.tape, h.output, h.size, h.block⟩
/-- append where there is room, of a row or of nothing. -/
theorem wpList_append_room2 {w : World} {ops : Array Oper} {rest : List Oper} {o : Oper} {a : Act} {Q : Exit → Act → World → Prop} (hgd : o.guard = none) (s x : Operand)
    (ho : o.op = .call { callee := .builtin .append, args := #[s, x], argTypes := #[48, 48] })
    (g i cap : Nat) (hs : a.eval s = .slice (some ⟨g, 0, none⟩) i cap) (cur : List Value) (hg : Blk w g cur) (hcl : cur.length = cap * 2)
    (vv : Value) (hx : a.eval x = vv) (k : List (Nat × Nat)) (hk : Row w vv k) (hroom : i + k.length ≤ cap)
    (h : ∀ w', Hid (Blk w' g (splice cur (i * 2) (flat k))) → Fr [g] w w' → wpList Try.prog ops Q rest (a.put o.dst (.slice (some ⟨g, 0, none⟩) (i + k.length) cap)) w') : wpList Try.prog ops Q (o :: rest) a w := by
  obtain ⟨ti, hi, hz, hsz, hb⟩ := info83
  refine wpList_plain hgd fun K hK => ?_
  rcases hk.2 with ⟨rfl, h0⟩ | ⟨gv, vcap, cv, rfl, _, hgv, hnc, hcm, hcs, htake⟩
  · obtain rfl : k = [] := List.eq_nil_of_length_eq_zero h0
    have hrun : (Builtin.append_ #[48, 48] o.type #[.slice (some ⟨g, 0, none⟩) i cap, .slice none 0 0]).run Try.prog w = .ok (.slice (some ⟨g, 0, none⟩) i cap) w := by
      simp [Builtin.append_, run_underlying Try.underlying48, sizeOf, typeInfo, hi, Builtin.lenOf, Builtin.firstCells, storeCells]
      intro hh; simp at hroom; omega
    unfold Oper.wp
    simp only [execOp, ho, resolve, invoke, builtin, Sem.run_bind, Sem.run_pure, Result.andThen_ok, List.map_toArray, List.map_cons, List.map_nil, hs, hx, hrun]
    exact hK _ _ (h w (show _ = _ by simpa [splice, flat, Blk] using hg) (Fr.refl _ _))
  · have hrun := run_append_room (P := Try.prog) w 48 o.type 83 ti Try.underlying48 hi g i cap cur.toArray hg ⟨gv, 0, none⟩ k.length vcap (flat k) (by rw [hsz]; exact flat_length k) (hk.cells rfl) (flat_one k) hroom (by rw [hsz, flat_length]; simp; omega)
    unfold Oper.wp
    simp only [execOp, ho, resolve, invoke, builtin, Sem.run_bind, Sem.run_pure, Result.andThen_ok, List.map_toArray, List.map_cons, List.map_nil, hs, hx, hrun]
    refine hK _ _ (h _ (show _ = _ from ?_) ((Fr.refl [g] w).setRow (by simp) _))
    refine (setRow_heap w g _ _ 83 _ hg).trans ?_
    simp [splice, hsz]

theorem run_append_make (w : World) (ty : TypeId) (g i cap X : Nat) (cs : List Value) (hcs : cs.length = i * 2) (hold : ∀ j u, cs[j]? = some u → w.cell? ((⟨g, 0, none⟩ : Addr).add j) = some u)
    (hbig : cap < i + X) (hX : 1 ≤ X) (hsm : i + X ≤ 4194304) :
    (Builtin.append_ #[48, 3] ty #[.slice (some ⟨g, 0, none⟩) i cap, .int .i64 X]).run Try.prog w =
      .ok (.slice (some ⟨w.heap.size, 0, none⟩) (i + X) (grownCap w (i + X) cap 83))
        (w.drew.alloc (.cells (cs.toArray ++ Builtin.zeroCells #[.int .u32 0, .int .u32 0] X ++ Builtin.zeroCells #[.int .u32 0, .int .u32 0] (grownCap w (i + X) cap 83 - (i + X))) 83)) := by
  obtain ⟨ti, hi, hz, hs, hb⟩ := info83
  have hn : ¬ (i + X ≤ cap) := by omega
  have h63' : ¬ (9223372036854775807 < ((i : Int) + (X : Int))) := by omega
  have hfits := growslice_fits (need := i + X) (old := cap) (bytes := ti.bytes) (by omega) (by rw [hb]; omega)
  have h48' : ¬ (281474976710656 < Builtin.nextslicecap (i + X) cap * ti.bytes) := by omega
  have hfo := run_firstCells_some (P := Try.prog) w.drew ti.size i ⟨g, 0, none⟩ i cap cs (by rw [hs]; exact hcs) (by simpa using hold)
  rw [hs] at hfo
  have hx0 : ¬ (X * 2 = 0) := by omega
  have wx : IntKind.i64.wrap (X : Int) = (X : Int) := by rw [IntKind.wrap_i64]; omega
  have n1 : ¬ ((X : Int) < 0) := by omega
  have n2 : ¬ (281474976710656 < (X : Int) * (ti.bytes : Int)) := by rw [hb]; omega
  simp [Builtin.append_, run_underlying Try.underlying48, run_underlying Try.underlying3, asInt, asIntOf, wx, n1, n2, sizeOf, typeInfo, zeroValue, hi, hz, hn, h63', h48', Question.forced, hfo, newRow, grownCap, hx0, hs, Value.cells]

theorem wp_append_make {w : World} {o : Oper} {a : Act} {K : Act → World → Prop} {Q : Exit → Act → World → Prop} (s x : Operand)
    (ho : o.op = .call { callee := .builtin .append, args := #[s, x], argTypes := #[48, 3] })
    (g i cap X N : Nat) (z : Int) (hz : z = X) (hN : i + X = N) (hs : a.eval s = .slice (some ⟨g, 0, none⟩) i cap) (hx : a.eval x = .int .i64 z)
    (cur : List Value) (hg : Blk w g cur) (hi : i * 2 ≤ cur.length) (hbig : cap < i + X) (hX : 1 ≤ X) (hsm : i + X ≤ 4194304)
    (h : ∀ w' g' c cur', Hid (Blk w' g' cur') → Hid (cur'.length = c * 2) → N ≤ c → c ≤ maxLen → Hid (cur'.take (i * 2) = cur.take (i * 2)) → Hid (w.heap.size ≤ g') → Fr [] w w' → K (a.put o.dst (.slice (some ⟨g', 0, none⟩) N c)) w') : o.wp Try.prog a w K Q := by
  subst hz; subst hN
  have hlen : (cur.take (i * 2)).length = i * 2 := by simp; omega
  have hrun := run_append_make w o.type g i cap X (cur.take (i * 2)) hlen (fun j u hj => by
    have hju : cur[j]? = some u := by
      have hjl := (List.getElem?_eq_some_iff.1 hj).1
      rw [List.getElem?_take, if_pos (by omega)] at hj; exact hj
    have := cell_of_heap (o := j) hg (v := u) (by simpa using hju)
    by_cases hj0 : j = 0
    · subst hj0; simpa [Addr.add] using this
    · simpa [Addr.add, hj0] using this) hbig hX hsm
  have hge := grownCap_ge w (i + X) cap 83
  have hcm := grownCap_le_maxLen w (i + X) cap 83 (by simp [maxLen]; omega)
  unfold Oper.wp
  simp only [execOp, ho, resolve, invoke, builtin, Sem.run_bind, Sem.run_pure, Result.andThen_ok, List.map_toArray, List.map_cons, List.map_nil, hs, hx, hrun]
  refine h _ _ _ ((cur.take (i * 2)) ++ ((Builtin.zeroCells #[.int .u32 0, .int .u32 0] X).toList ++ (Builtin.zeroCells #[.int .u32 0, .int .u32 0] (grownCap w (i + X) cap 83 - (i + X))).toList)) (show _ = _ from ?_) (show _ = _ from ?_) hge hcm (show _ = _ from ?_) (Nat.le_refl _) (((Fr.refl _ _).drew).alloc _)
  · refine (heap_alloc_new w.drew _).trans ?_
    congr 2
    apply Array.ext'
    simp
  · simp only [List.length_append, hlen, Array.length_toList, size_zeroCells]
    simp; omega
  · rw [List.take_append_of_le_length (by omega)]
    exact List.take_of_length_le (by omega)

theorem wpList_append_make {w : World} {ops : Array Oper} {rest : List Oper} {o : Oper} {a : Act} {Q : Exit → Act → World → Prop} (hgd : o.guard = none) (s x : Operand)
    (ho : o.op = .call { callee := .builtin .append, args := #[s, x], argTypes := #[48, 3] })
    (g i cap X N : Nat) (z : Int) (hz : z = X) (hN : i + X = N) (hs : a.eval s = .slice (some ⟨g, 0, none⟩) i cap) (hx : a.eval x = .int .i64 z)
    (cur : List Value) (hg : Blk w g cur) (hi : i * 2 ≤ cur.length) (hbig : cap < i + X) (hX : 1 ≤ X) (hsm : i + X ≤ 4194304)
    (h : ∀ w' g' c cur', Hid (Blk w' g' cur') → Hid (cur'.length = c * 2) → N ≤ c → c ≤ maxLen → Hid (cur'.take (i * 2) = cur.take (i * 2)) → Hid (w.heap.size ≤ g') → Fr [] w w' → wpList Try.prog ops Q rest (a.put o.dst (.slice (some ⟨g', 0, none⟩) N c)) w') : wpList Try.prog ops Q (o :: rest) a w :=
  wpList_plain hgd fun _ hK => wp_append_make s x ho g i cap X N z hz hN hs hx cur hg hi hbig hX hsm fun w' g' c cur' h1 h2 h3 h4 h5 h6 h7 => hK _ _ (h w' g' c cur' h1 h2 h3 h4 h5 h6 h7)

theorem wpList_clear2 {w : World} {ops : Array Oper} {rest : List Oper} {o : Oper} {a : Act} {Q : Exit → Act → World → Prop} (hgd : o.guard = none) (s : Operand)
    (ho : o.op = .call { callee := .builtin .clear, args := #[s], argTypes := #[48] })
    (p : Option Addr) (n c : Nat) (hs : a.eval s = .slice p n c) (g off : Nat) (hp : 0 < n → p = some ⟨g, off, none⟩)
    (cur : List Value) (hg : Blk w g cur) (hfit : off + n * 2 ≤ cur.length)
    (h : ∀ w' cur', Hid (Blk w' g cur') → Hid (cur'.length = cur.length) → Hid (cur'.take off = cur.take off) → Fr [g] w w' → wpList Try.prog ops Q rest (a.put o.dst (.tuple #[])) w') : wpList Try.prog ops Q (o :: rest) a w := by
  obtain ⟨ti, hi, hz, hsz, hb⟩ := info83
  refine wpList_plain hgd fun K hK => ?_
  by_cases hn : n = 0
  · subst hn
    have hrun : (Builtin.clear_ #[48] o.type #[.slice p 0 c]).run Try.prog w = .ok (.tuple #[]) w := by
      cases p <;> simp [Builtin.clear_, run_underlying Try.underlying48]
    unfold Oper.wp
    simp only [execOp, ho, resolve, invoke, builtin, Sem.run_bind, Sem.run_pure, Result.andThen_ok, List.map_toArray, List.map_cons, List.map_nil, hs, hrun]
    exact hK _ _ (h w cur hg rfl rfl (Fr.refl _ _))
  · obtain rfl := hp (by omega)
    have hzl : (Builtin.zeroCells #[.int .u32 0, .int .u32 0] n).toList.length = n * 2 := by simp only [Array.length_toList, size_zeroCells]; rfl
    have hone : ∀ v ∈ (Builtin.zeroCells #[.int .u32 0, .int .u32 0] n).toList, v.oneCell' = true := by
      intro v hv
      simp only [Builtin.zeroCells, Array.toList_map, List.mem_map] at hv
      obtain ⟨j, _, rfl⟩ := hv
      have : j % 2 = 0 ∨ j % 2 = 1 := by omega
      rcases this with e | e <;> simp [e] <;> rfl
    have hst := run_storeCells_at Try.prog g off 83 _ 0 cur.toArray w hg (by rw [hzl]; simpa using hfit) hone
    have hrun : (Builtin.clear_ #[48] o.type #[.slice (some ⟨g, off, none⟩) n c]).run Try.prog w = .ok (.tuple #[]) (w.setRow g (splice cur off (Builtin.zeroCells #[.int .u32 0, .int .u32 0] n).toList).toArray) := by
      match n, hn with
      | n + 1, _ => simp [Builtin.clear_, run_underlying Try.underlying48, zeroValue, typeInfo, hi, hz, Value.cells, hst, splice]
    unfold Oper.wp
    simp only [execOp, ho, resolve, invoke, builtin, Sem.run_bind, Sem.run_pure, Result.andThen_ok, List.map_toArray, List.map_cons, List.map_nil, hs, hrun]
    refine hK _ _ (h _ _ (show _ = _ from setRow_heap w g _ _ 83 _ hg) (show _ = _ from length_splice _ _ _ (by rw [hzl]; exact hfit)) (show _ = _ from ?_) ((Fr.refl [g] w).setRow (by simp) _))
    simp only [splice]
    rw [List.take_append_of_le_length (by simp; omega)]
    exact List.take_of_length_le (by simp; omega)
end Go.Proofs.Ytfiaciniikcacaa
