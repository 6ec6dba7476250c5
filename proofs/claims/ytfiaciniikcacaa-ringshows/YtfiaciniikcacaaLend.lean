/-
  The walks of 'without', 'lend' and 'back' of package mem: what is lent behind them, as a list of spans that rise and do not touch.
-/
import Derived.Test.YtfiaciniikcacaaReplaceB
namespace Go.Proofs.Ytfiaciniikcacaa
open Go.RowKit Go.BigFrame
set_option linter.unusedVariables false
set_option linter.unusedSimpArgs false
set_option maxRecDepth 100000
set_option maxHeartbeats 2000000

theorem enters {P : Program} {f : FuncId} {fn : Func} (hf : P.funcs[f]? = some fn) (hn : (fn.name == "runtime.NumGoroutine") = false) (hb : fn.body.isSome = true) (args : Array Value) (w : World) : (callFunc f args).run P w = .ok (.enter f args) w := by
  have h1 : fn.name ≠ "runtime.NumGoroutine" := by simpa using hn
  obtain ⟨b, hb'⟩ := Option.isSome_iff_exists.1 hb
  simp [callFunc, hf, h1, hb']
theorem step_call {P : Program} {ops : Array Oper} {o : Oper} {a : Act} {w : World} {K : Act → World → Prop} {Q : Exit → Act → World → Prop} {E : Prop} (hgd : o.guard = none) (f : FuncId) (xs : Array Operand) (ts : Array TypeId)
    (ho : o.op = .call { callee := .value (.func f), args := xs, argTypes := ts }) (he : ∀ args w, (callFunc f args).run P w = .ok (.enter f args) w) (args : Array Value) (hx : xs.map a.eval = args)
    (h : Calls P f args w fun e w' => ∃ v, e = .returned v ∧ K (a.put o.dst v) w') : if Region.wanted o (yielded ops a.tmps) = true then Oper.wp P o a w K Q else E := by
  have hw : Region.wanted o (yielded ops a.tmps) = true := by simp [Region.wanted, hgd]
  rw [if_pos hw]
  unfold Oper.wp
  simp [execOp, ho, resolve, invoke, hx, he, Act.eval, Deferred.ofValue]
  refine h.mono ?_
  rintro e w' ⟨v, rfl, hK⟩
  exact hK

theorem wp_append3 {w : World} {o : Oper} {a : Act} {K : Act → World → Prop} {Q : Exit → Act → World → Prop} (s x : Operand)
    (ho : o.op = .call { callee := .builtin .append, args := #[s, x], argTypes := #[48, 48] })
    (v : Value) (l k : List (Nat × Nat)) (hs : a.eval s = v) (hown : Row w v l)
    (g cap : Nat) (hx : a.eval x = .slice (some ⟨g, 0, none⟩) k.length cap) (hk : Row w (.slice (some ⟨g, 0, none⟩) k.length cap) k) (hlen : l.length + k.length ≤ 2097152)
    (h : ∀ v' w', Row w' v' (l ++ k) → Hid (∀ g, v'.ownBlock = some g → lo w v ≤ g) → Fr v.ownBlock.toList w w' → K (a.put o.dst v') w') : o.wp Try.prog a w K Q := by
  obtain ⟨i, hi, hz, hsz, hb⟩ := info83
  refine wp_append_own (P := Try.prog) w s x 48 ho (lo w v) 83 i (.agg #[.int .u32 0, .int .u32 0]) 2 8 Try.underlying48 hi hz hsz hb rfl (by omega) v l.length (flat l) hs hown.rebase.1
    ⟨g, 0, none⟩ k.length cap (flat k) hx (flat_length k) (hk.cells rfl) (flat_one k) (by simp [maxLen]; omega) (by omega) hown.rebase.2 ?_
  intro v' w' h2 h3 _
  rw [← flat_append] at h2
  have h4 := Row.ofBase h2 (by simp)
  exact h v' w' h4.1 h4.2 (Fr.ofGrown h3)
theorem wpList_append3 {w : World} {ops : Array Oper} {rest : List Oper} {o : Oper} {a : Act} {Q : Exit → Act → World → Prop} (hgd : o.guard = none) (s x : Operand)
    (ho : o.op = .call { callee := .builtin .append, args := #[s, x], argTypes := #[48, 48] })
    (v : Value) (l k : List (Nat × Nat)) (hs : a.eval s = v) (hown : Row w v l)
    (g cap : Nat) (hx : a.eval x = .slice (some ⟨g, 0, none⟩) k.length cap) (hk : Row w (.slice (some ⟨g, 0, none⟩) k.length cap) k) (hlen : l.length + k.length ≤ 2097152)
    (h : ∀ v' w', Row w' v' (l ++ k) → Hid (∀ g, v'.ownBlock = some g → lo w v ≤ g) → Fr v.ownBlock.toList w w' → wpList Try.prog ops Q rest (a.put o.dst v') w') : wpList Try.prog ops Q (o :: rest) a w :=
  wpList_plain hgd fun _ hK => wp_append3 s x ho v l k hs hown g cap hx hk hlen fun v' w' h1 h2 h3 => hK _ _ (h v' w' h1 h2 h3)
theorem step_append3 {w : World} {ops : Array Oper} {o : Oper} {a : Act} {K : Act → World → Prop} {Q : Exit → Act → World → Prop} {E : Prop} (hgd : o.guard = none) (s x : Operand)
    (ho : o.op = .call { callee := .builtin .append, args := #[s, x], argTypes := #[48, 48] })
    (v : Value) (l k : List (Nat × Nat)) (hs : a.eval s = v) (hown : Row w v l)
    (g cap : Nat) (hx : a.eval x = .slice (some ⟨g, 0, none⟩) k.length cap) (hk : Row w (.slice (some ⟨g, 0, none⟩) k.length cap) k) (hlen : l.length + k.length ≤ 2097152)
    (h : ∀ v' w', Row w' v' (l ++ k) → Hid (∀ g, v'.ownBlock = some g → lo w v ≤ g) → Fr v.ownBlock.toList w w' → K (a.put o.dst v') w') : if Region.wanted o (yielded ops a.tmps) = true then Oper.wp Try.prog o a w K Q else E := by
  have hw : Region.wanted o (yielded ops a.tmps) = true := by simp [Region.wanted, hgd]
  rw [if_pos hw]
  exact wp_append3 s x ho v l k hs hown g cap hx hk hlen h

theorem row_one (w : World) (c0 c1 : Int) (p q N : Nat) (hN : N = w.heap.size) (h0 : c0 = (p : Int)) (h1 : c1 = (q : Int)) : Row (w.alloc (.cells #[.int .u32 c0, .int .u32 c1] 83)) (.slice (some ⟨N, 0, none⟩) 1 1) [(p, q)] := by
  subst hN; subst h0; subst h1
  exact Row.of (l := [(p, q)]) (cap := 1) (cur := [.int .u32 p, .int .u32 q]) (heap_alloc_new w _) rfl (Nat.le_refl _) (by decide) rfl

theorem row_one_drew (w : World) (c0 c1 : Int) (p q N : Nat) (hN : N = w.heap.size) (h0 : c0 = (p : Int)) (h1 : c1 = (q : Int)) : Row ((w.alloc (.cells #[.int .u32 c0, .int .u32 c1] 83)).drew) (.slice (some ⟨N, 0, none⟩) 1 1) [(p, q)] := row_one w c0 c1 p q N hN h0 h1

/-- Four blocks on, in whatever order they came. -/
theorem lo_le {w' : World} {v : Value} {B : Nat} (hB : B ≤ w'.heap.size) (hv : ∀ g, v.ownBlock = some g → B ≤ g) : B ≤ lo w' v := by
  unfold lo
  cases h : v.ownBlock with
  | none => exact hB
  | some g => exact hv g h
/-- What is left of a span when another one is taken out of it. -/
def wo (x y a n : Nat) : List (Nat × Nat) := (if x < a then [(x, a - x)] else []) ++ (if a + n < x + y then [(a + n, x + y - (a + n))] else [])

theorem he68 (args : Array Value) (w : World) : (callFunc 68 args).run Try.prog w = .ok (.enter 68 args) w := enters Try.func68 (by kernel_rfl) (by kernel_rfl) args w

theorem without_any (x y a n : Nat) (w : World) (hx : x ≤ a) (han : a + n ≤ x + y) (hxy : x + y < 4294967296) :
    Calls Try.prog 89 #[.agg #[.int .u32 x, .int .u32 y], .agg #[.int .u32 a, .int .u32 n]] w fun e w' => ∃ vv, e = .returned vv ∧ Row w' vv (wo x y a n) ∧ (∀ g, vv.ownBlock = some g → w.heap.size ≤ g) ∧ Fr [] w w' := by
  by_cases h1 : x < a
  · have d1 : decide ((x : Int) < (a : Int)) = true := by simp; omega
    go_enter Try.func89, Try.ntmps89
    go_wp2_with (at_builtin; refine wpList_append3 rfl (.tmp 11) (.tmp 20) rfl (.slice none 0 0) [] [(x, a - x)] rfl (World.ownsRow_nil _ _ _ _) _ 1 rfl (row_one _ _ _ x (a - x) _ ?_ ?_ ?_) (by simp) ?_)
    · simp
    · omega
    · omega
    intro v0 w1 hR hL hF1
    have q0 := hF1.cell (p := ⟨w.heap.size, 0, none⟩) (v := .int .u32 x) (by simp [go_sem]) (by simp [Value.ownBlock])
    have q1 := hF1.cell (p := ⟨w.heap.size, 1, none⟩) (v := .int .u32 y) (by simp [go_sem]) (by simp [Value.ownBlock])
    have q2 := hF1.cell (p := ⟨w.heap.size + 1, 0, none⟩) (v := .int .u32 a) (by simp [go_sem]) (by simp [Value.ownBlock])
    have q3 := hF1.cell (p := ⟨w.heap.size + 1, 1, none⟩) (v := .int .u32 n) (by simp [go_sem]) (by simp [Value.ownBlock])
    have F01 : Fr [] w w1 := ((((Fr.refl _ _).alloc _).alloc _).alloc _).trans0 hF1
    have qs : w.heap.size + 1 < w1.heap.size := World.block_lt_of_cell? w1 _ q2
    have qr : w.heap.size < w1.heap.size := by omega
    have hv0 : ∀ g, v0.ownBlock = some g → w.heap.size ≤ g := fun g hg => Nat.le_trans (by simp [lo, Value.ownBlock]; omega) (hL.out g hg)
    clear hF1 hL
    have e1 : a + n < 4294967296 := by omega
    have HR := hid hR
    have HV0 := hid hv0
    clear hR hv0
    by_cases h2 : a + n < x + y
    · have d2 : decide ((a : Int) + (n : Int) < (x : Int) + (y : Int)) = true := by simp; omega
      have HW : Hid (wo x y a n = [(x, a - x)] ++ [(a + n, x + y - (a + n))]) := by show _ = _; simp [wo, h1, h2]
      go_wp2_with fail
      refine wp_region_ext (by kernel_rfl) (by kernel_rfl) ?_
      repeat (go_big_quiet_step (first | exact Calls.ext_of (end_fr a n e1 _) | exact Calls.ext_of (end_fr x y hxy _)))
      refine wpQuiet_nil ?_
      rintro _ ⟨xq, rfl⟩
      obtain ⟨w2, hw2⟩ : ∃ w2, w2 = ext w1 xq := ⟨_, rfl⟩
      rw [← hw2]
      have F12 : Fr [] w1 w2 := hw2 ▸ ext_fr _ _
      clear hw2
      have q0 := F12.cell q0 (by simp)
      have q1 := F12.cell q1 (by simp)
      have q2 := F12.cell q2 (by simp)
      have q3 := F12.cell q3 (by simp)
      have qs : w.heap.size + 1 < w2.heap.size := Nat.lt_of_lt_of_le qs F12.size
      have qr : w.heap.size < w2.heap.size := by omega
      have HR2 := hid (HR.out.fr F12 (by simp))
      have wsub : IntKind.u32.wrap ((x : Int) + (y : Int) - ((a : Int) + (n : Int))) = (x : Int) + (y : Int) - ((a : Int) + (n : Int)) := by rw [IntKind.wrap_u32]; omega
      go_wp2_with fail
      go_region_law (first
        | (refine step_call rfl 68 #[.tmp 28] #[83] rfl he68 #[.agg #[.int .u32 a, .int .u32 n]] (by kernel_rfl) ?_; refine (end_any a n e1 _).mono ?_; rintro e w' ⟨rfl, rfl⟩; refine ⟨_, rfl, ?_⟩)
        | (refine step_call rfl 68 #[.tmp 30] #[83] rfl he68 #[.agg #[.int .u32 x, .int .u32 y]] (by kernel_rfl) ?_; refine (end_any x y hxy _).mono ?_; rintro e w' ⟨rfl, rfl⟩; refine ⟨_, rfl, ?_⟩)
        | (refine step_call rfl 68 #[.tmp 32] #[83] rfl he68 #[.agg #[.int .u32 a, .int .u32 n]] (by kernel_rfl) ?_; refine (end_any a n e1 _).mono ?_; rintro e w' ⟨rfl, rfl⟩; refine ⟨_, rfl, ?_⟩)
        | (refine step_append3 rfl (.tmp 27) (.tmp 36) rfl v0 [(x, a - x)] [(a + n, x + y - (a + n))] (by kernel_rfl) (Row.fr HR2.out (show Fr [] w2 _ from Fr.drew (Fr.alloc (Fr.alloc (Fr.alloc (Fr.alloc (Fr.refl _ _) _) _) _) _)) (by simp)) (w2.heap.size + 1 + 1 + 1) 1 (by kernel_rfl) (row_one_drew _ _ _ (a + n) (x + y - (a + n)) _ (by simp) (by omega) (by omega)) (by simp) ?_; intro v' w3 hR3 hL3 hF3))
      all_goals
        go_wp2
        go_ret
        refine ⟨_, rfl, by rw [HW.out]; exact hR3, fun g hg => Nat.le_trans (lo_le (by simp; omega) HV0.out) (hL3.out g hg), ?_⟩
        exact ((F01.trans0 F12).trans0 (Fr.drew (Fr.alloc (Fr.alloc (Fr.alloc (Fr.alloc (Fr.refl _ _) _) _) _) _))).trans hF3 (fun t ht => .inr (HV0.out t (by simpa using ht)))
    · have d2 : decide ((a : Int) + (n : Int) < (x : Int) + (y : Int)) = false := by simp; omega
      have HW : Hid (wo x y a n = [(x, a - x)]) := by show _ = _; simp [wo, h1, h2]
      go_wp2_with fail
      refine wp_region_ext (by kernel_rfl) (by kernel_rfl) ?_
      repeat (go_big_quiet_step (first | exact Calls.ext_of (end_fr a n e1 _) | exact Calls.ext_of (end_fr x y hxy _)))
      refine wpQuiet_nil ?_
      rintro _ ⟨xq, rfl⟩
      go_wp2
      go_ret
      exact ⟨_, rfl, by rw [HW.out]; exact HR.out.fr (ext_fr _ _) (by simp), HV0.out, F01.trans0 (ext_fr _ _)⟩
  · have d1 : decide ((x : Int) < (a : Int)) = false := by simp; omega
    obtain ⟨w1, hw1⟩ : ∃ w1, w1 = (w.alloc (.cells #[.int .u32 x, .int .u32 y] 83)).alloc (.cells #[.int .u32 a, .int .u32 n] 83) := ⟨_, rfl⟩
    have q0 : w1.cell? ⟨w.heap.size, 0, none⟩ = some (.int .u32 x) := by rw [hw1]; simp [go_sem]
    have q1 : w1.cell? ⟨w.heap.size, 1, none⟩ = some (.int .u32 y) := by rw [hw1]; simp [go_sem]
    have q2 : w1.cell? ⟨w.heap.size + 1, 0, none⟩ = some (.int .u32 a) := by rw [hw1]; simp [go_sem]
    have q3 : w1.cell? ⟨w.heap.size + 1, 1, none⟩ = some (.int .u32 n) := by rw [hw1]; simp [go_sem]
    have F01 : Fr [] w w1 := by rw [hw1]; exact ((Fr.refl _ _).alloc _).alloc _
    have qs : w.heap.size + 1 < w1.heap.size := World.block_lt_of_cell? w1 _ q2
    have qr : w.heap.size < w1.heap.size := by omega
    have hv0 : ∀ g, (Value.slice none 0 0).ownBlock = some g → w.heap.size ≤ g := fun g hg => by cases hg
    have hR : Row w1 (.slice none 0 0) [] := World.ownsRow_nil _ _ _ _
    go_enter Try.func89, Try.ntmps89
    go_wp2_with fail
    rw [← hw1]
    clear hw1
    have e1 : a + n < 4294967296 := by omega
    have HR := hid hR
    have HV0 := hid hv0
    clear hR hv0
    by_cases h2 : a + n < x + y
    · have d2 : decide ((a : Int) + (n : Int) < (x : Int) + (y : Int)) = true := by simp; omega
      have HW : Hid (wo x y a n = [] ++ [(a + n, x + y - (a + n))]) := by show _ = _; simp [wo, h1, h2]
      refine wp_region_ext (by kernel_rfl) (by kernel_rfl) ?_
      repeat (go_big_quiet_step (first | exact Calls.ext_of (end_fr a n e1 _) | exact Calls.ext_of (end_fr x y hxy _)))
      refine wpQuiet_nil ?_
      rintro _ ⟨xq, rfl⟩
      obtain ⟨w2, hw2⟩ : ∃ w2, w2 = ext w1 xq := ⟨_, rfl⟩
      rw [← hw2]
      have F12 : Fr [] w1 w2 := hw2 ▸ ext_fr _ _
      clear hw2
      have q0 := F12.cell q0 (by simp)
      have q1 := F12.cell q1 (by simp)
      have q2 := F12.cell q2 (by simp)
      have q3 := F12.cell q3 (by simp)
      have qs : w.heap.size + 1 < w2.heap.size := Nat.lt_of_lt_of_le qs F12.size
      have qr : w.heap.size < w2.heap.size := by omega
      have HR2 := hid (HR.out.fr F12 (by simp))
      have wsub : IntKind.u32.wrap ((x : Int) + (y : Int) - ((a : Int) + (n : Int))) = (x : Int) + (y : Int) - ((a : Int) + (n : Int)) := by rw [IntKind.wrap_u32]; omega
      go_wp2_with fail
      go_region_law (first
        | (refine step_call rfl 68 #[.tmp 28] #[83] rfl he68 #[.agg #[.int .u32 a, .int .u32 n]] (by kernel_rfl) ?_; refine (end_any a n e1 _).mono ?_; rintro e w' ⟨rfl, rfl⟩; refine ⟨_, rfl, ?_⟩)
        | (refine step_call rfl 68 #[.tmp 30] #[83] rfl he68 #[.agg #[.int .u32 x, .int .u32 y]] (by kernel_rfl) ?_; refine (end_any x y hxy _).mono ?_; rintro e w' ⟨rfl, rfl⟩; refine ⟨_, rfl, ?_⟩)
        | (refine step_call rfl 68 #[.tmp 32] #[83] rfl he68 #[.agg #[.int .u32 a, .int .u32 n]] (by kernel_rfl) ?_; refine (end_any a n e1 _).mono ?_; rintro e w' ⟨rfl, rfl⟩; refine ⟨_, rfl, ?_⟩)
        | (refine step_append3 rfl (.tmp 27) (.tmp 36) rfl (.slice none 0 0) [] [(a + n, x + y - (a + n))] (by kernel_rfl) (Row.fr HR2.out (show Fr [] w2 _ from Fr.drew (Fr.alloc (Fr.alloc (Fr.alloc (Fr.alloc (Fr.refl _ _) _) _) _) _)) (by simp)) (w2.heap.size + 1 + 1 + 1) 1 (by kernel_rfl) (row_one_drew _ _ _ (a + n) (x + y - (a + n)) _ (by simp) (by omega) (by omega)) (by simp) ?_; intro v' w3 hR3 hL3 hF3))
      all_goals
        go_wp2
        go_ret
        refine ⟨_, rfl, by rw [HW.out]; exact hR3, fun g hg => Nat.le_trans (lo_le (by simp; omega) HV0.out) (hL3.out g hg), ?_⟩
        exact ((F01.trans0 F12).trans0 (Fr.drew (Fr.alloc (Fr.alloc (Fr.alloc (Fr.alloc (Fr.refl _ _) _) _) _) _))).trans hF3 (fun t ht => .inr (HV0.out t (by simpa using ht)))
    · have d2 : decide ((a : Int) + (n : Int) < (x : Int) + (y : Int)) = false := by simp; omega
      have HW : Hid (wo x y a n = []) := by show _ = _; simp [wo, h1, h2]
      refine wp_region_ext (by kernel_rfl) (by kernel_rfl) ?_
      repeat (go_big_quiet_step (first | exact Calls.ext_of (end_fr a n e1 _) | exact Calls.ext_of (end_fr x y hxy _)))
      refine wpQuiet_nil ?_
      rintro _ ⟨xq, rfl⟩
      go_wp2
      go_ret
      exact ⟨_, rfl, by rw [HW.out]; exact HR.out.fr (ext_fr _ _) (by simp), HV0.out, F01.trans0 (ext_fr _ _)⟩
end Go.Proofs.Ytfiaciniikcacaa
