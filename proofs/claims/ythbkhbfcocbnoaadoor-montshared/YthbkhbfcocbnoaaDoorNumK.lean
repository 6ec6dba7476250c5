/-
  Package num: Inv, Root. No statement is proved here.
-/
import Derived.Test.YthbkhbfcocbnoaaDoorNumJ
namespace Go.Proofs.YthbkhbfcocbnoaaDoor
open Go.RowKit Go.Lib Go.BigFrame
set_option linter.unusedVariables false
set_option linter.unusedSimpArgs false
set_option maxRecDepth 1000000
set_option maxHeartbeats 4000000

theorem pb_pow (a e : Nat) (b : Bool) : pb a (a ^ e % Nt.P) b = a ^ (2 * e + (bif b then 1 else 0)) % Nt.P := by
  unfold pb
  rw [Nt.mm, Nt.mml, ← Nat.pow_add, Nat.two_mul]
  cases b
  · simp only [cond_false, Nat.mul_one, Nat.add_zero]
  · simp only [cond_true]; rw [← Nat.pow_succ]
theorem inv_pows (a x : Nat) : [false, true, false, true, true].foldl (pb a) (a ^ x % Nt.P) = a ^ (2 * (2 * (2 * (2 * (2 * x + 0) + 1) + 0) + 1) + 1) % Nt.P := by
  simp only [List.foldl, pb_pow, cond_true, cond_false]
theorem root_pows (a x : Nat) : [true, false].foldl (pb a) (a ^ x % Nt.P) = a ^ (2 * (2 * x + 1) + 0) % Nt.P := by
  simp only [List.foldl, pb_pow, cond_true, cond_false]
theorem inv_exp : 2 * (2 * (2 * (2 * (2 * ex 250 + 0) + 1) + 0) + 1) + 1 = Nt.P - 2 := by rw [Nt.P_val, ex_def]
theorem root_exp : 2 * (2 * ex 250 + 1) + 0 = Nt.K + 1 := by rw [Nt.K_val, ex_def]
theorem inv_pws (a : Nat) : pws a [false, true, false, true, true] = a ^ (Nt.P - 2) % Nt.P := by
  unfold pws pw
  rw [inv_pows, inv_exp]
theorem root_pws (a : Nat) : pws a [true, false] = Nt.c1 a := by
  unfold pws pw Nt.c1
  rw [root_pows, root_exp]
/-- What Inv answers. -/
def iv (a : Nat) : Nat := a ^ (Nt.P - 2) % Nt.P
theorem iv_ltP (a : Nat) : iv a < Nt.P := Nat.mod_lt _ P_pos
theorem c1_ltP (a : Nat) : Nt.c1 a < Nt.P := Nat.mod_lt _ P_pos

theorem heap_new2 (V : World) (o p q : Obj) : (((V.alloc o).alloc p).alloc q).heap[V.heap.size + 1 + 1]? = some q := by
  have := (MapKept.heap_alloc ((V.alloc o).alloc p) q).1
  simpa using this
theorem bits_cells {V : World} {g n t : Nat} {cs : Array Value} {bs : List Bool} (h : V.heap[g]? = some (.cells cs t)) (hcs : ∀ j, j < n → cs[j]? = some (.int .u64 (bv (bs.getD j false)))) : ∀ j, j < n → V.cell? ⟨g, j, none⟩ = some (.int .u64 (bv (bs.getD j false))) :=
  fun j hj => cell_of_heap h (hcs j hj)
theorem inv_any (a : Nat) (ha : a < Nt.P) (w : World) (hP : PV w) : Calls Tryd.prog 28 #[wd a] w fun e w' => e = .returned (wd (iv a)) ∧ Fr [] w w' := by
  have hP2 := hid (p := _) hP
  have K := fun g W (h : PV W) hc => power_any a ha [false, true, false, true, true] 5 rfl (by decide) g W h hc
  rw [inv_pws] at K
  have e : a ^ (Nt.P - 2) % Nt.P = iv a := rfl
  rw [e] at K
  obtain ⟨a0, a1, a2, a3, -, -, -, -, -, wa⟩ := wd_open a (lt4 ha)
  obtain ⟨c0, c1, c2, c3, -, -, -, -, -, wc⟩ := wd_open (iv a) (lt4 (iv_ltP a))
  rw [wa, wc] at K
  rw [wa, wc]
  have H := hid (p := _) K
  have hb : ∀ j, j < 5 → (#[Value.int .u64 0, .int .u64 1, .int .u64 0, .int .u64 1, .int .u64 1] : Array Value)[j]? = some (.int .u64 (bv ([false, true, false, true, true].getD j false))) := by
    intro j hj
    match j, hj with
    | 0, _ | 1, _ | 2, _ | 3, _ | 4, _ => rfl
  have HBt := hid (p := _) hb
  clear K wa wc e hP hb
  go_enter Tryd.func28, Tryd.ntmps28
  go_wp2_with (go_at_call 46; refine (H.out _ _ (hP2.out.fr ((((Fr.refl [] w).alloc _).alloc _).alloc _)) (bits_cells (heap_new2 w _ _ _) HBt.out)).mono ?_; rintro e V ⟨rfl, hF⟩; have C := ((L4.new1 w _ 43 _ _ _ _).alloc _).fr hF; have F := ((((Fr.refl [] w).alloc _).alloc _).alloc _).trans0 hF; obtain ⟨b0c, b1c, b2c, b3c, b4c, b5c, b6c, b7c, b8c, b9c⟩ := C.all; clear hF)
  simp [bodyPost, results, Tryd.results28, go_sem, *]
  exact F.set4 (by omega) _ _ _ _

end Go.Proofs.YthbkhbfcocbnoaaDoor
