/-
  The law's is. No statement is proved here.
-/
import Derived.Test.YtgjpombdkgomaaaDoorOrdR
namespace Go.Proofs.YtgjpombdkgomaaaDoor
open Go.RowKit Go.Lib Go.BigFrame
set_option linter.unusedVariables false
set_option linter.unusedSimpArgs false
set_option maxRecDepth 1000000
set_option maxHeartbeats 4000000

theorem RB.loadAt {V : World} {b t v : Nat} (h : RB V b t (vbl v)) : (Instr.loadAt 38 (.pointer (some ⟨b, 0, none⟩))).run Tryd.prog V = .ok (nb v) V :=
  run_loadAt_mid V b 0 38 ((vbl v).map fun x => Value.int .u8 ((x : Nat) : Int)) (.array 32 5) h.range (by kernel_rfl) rfl (by rw [List.length_map, vbl_len]; exact info38)
/-- The load of a whole number in a region that draws its order. -/
theorem wpQuiet_load_38 {ops : Array Oper} {C : World → Prop} {Q : Act → Prop} {a : Act} {o : Oper} {rest : List Oper} (hg : o.guard = none) (x : Operand) (ho : o.op = .load 38 x) (b v t : Nat) (hx : a.eval x = .pointer (some ⟨b, 0, none⟩)) (hC : ∀ w, C w → RB w b t (vbl v))
    (h : wpQuiet Tryd.prog ops C Q rest (a.put o.dst (nb v))) : wpQuiet Tryd.prog ops C Q (o :: rest) a := by
  show if _ then _ else _
  have hw : Region.wanted o (yielded ops a.tmps) = true := by unfold Region.wanted; simp [hg]
  rw [if_pos hw]
  refine ⟨nb v, fun w hw => ?_, h⟩
  unfold Oper.quietAt execOp
  simp only [ho, hx, Sem.run_bind, (hC w hw).loadAt, Result.andThen_ok, Sem.run_pure]
  exact ⟨rfl, rfl⟩
theorem is_yes (v : Nat) (hv : v < 115792089237316195423570985008687907853269984665640564039457584007913129639936) (w : World) : Calls Tryd.prog 13 #[wd v, nb v] w fun e w' => e = .returned (.bool true) ∧ Fr [] w w' := by
  have K1 := fun W => bytes_any v hv W
  have K2 := fun W => rbytes_any v W
  obtain ⟨c0, c1, c2, c3, -, -, -, -, -, wc'⟩ := wd_open v hv
  rw [wc'] at K1
  rw [wc']
  have H1 := hid (p := _) K1
  have H2 := hid (p := _) K2
  have hnb : nb v = .agg (bc (vbl v)) := rfl
  rw [show (#[Value.agg #[.int .u64 (c0 : Nat), .int .u64 (c1 : Nat), .int .u64 (c2 : Nat), .int .u64 (c3 : Nat)], nb v] : Array Value) = #[.agg #[.int .u64 (c0 : Nat), .int .u64 (c1 : Nat), .int .u64 (c2 : Nat), .int .u64 (c3 : Nat)], .agg (bc (vbl v))] from rfl]
  clear K1 K2 wc' hv hnb
  generalize by32 v = t at *
  go_enter Tryd.func13, Tryd.ntmps13
  go_wp2_with fail
  have F := (((Fr.refl [] w).alloc (.cells #[.int .u64 (c0 : Nat), .int .u64 (c1 : Nat), .int .u64 (c2 : Nat), .int .u64 (c3 : Nat)] 27)).alloc (.cells (bc (vbl v)) 38))
  have A1 := ((L4.new w 27 (.int .u64 (c0 : Nat)) (.int .u64 (c1 : Nat)) (.int .u64 (c2 : Nat)) (.int .u64 (c3 : Nat)))).alloc (.cells (bc (vbl v)) 38)
  have B1 : RB ((w.alloc (.cells #[.int .u64 (c0 : Nat), .int .u64 (c1 : Nat), .int .u64 (c2 : Nat), .int .u64 (c3 : Nat)] 27)).alloc (.cells (bc (vbl v)) 38)) (w.heap.size + 1) 38 (vbl v) := heap_new1 w _ _
  generalize ((w.alloc (.cells #[.int .u64 (c0 : Nat), .int .u64 (c1 : Nat), .int .u64 (c2 : Nat), .int .u64 (c3 : Nat)] 27)).alloc (.cells (bc (vbl v)) 38)) = V at *
  obtain ⟨_, _, _, _, _, _, _, _, _, _⟩ := A1.all
  have HB := hid (p := _) (show ∀ W, (∃ x, W = ext V x) → RB W (w.heap.size + 1) 38 (vbl v) from fun W h => by obtain ⟨x, rfl⟩ := h; exact B1.ext x)
  clear B1
  refine wp_region_ext (by kernel_rfl) (by kernel_rfl) ?_
  go_big_quiet_step (fail)
  go_big_quiet_step (with_reducible exact Calls.ext_of (H1.out _))
  refine wpQuiet_load_38 rfl (.tmp 3) rfl (w.heap.size + 1) v 38 rfl HB.out ?_
  simp only [Act.put, List.setIfInBounds_toArray, List.set_cons_zero, List.set_cons_succ]
  repeat (go_big_quiet_step (with_reducible exact Calls.ext_of (H2.out _)))
  refine wpQuiet_nil ?_
  rintro _ ⟨xq, rfl⟩
  go_wp2
  go_ret
  exact ⟨rfl, F.ext xq⟩
end Go.Proofs.YtgjpombdkgomaaaDoor
