/-
  What the row's condition on the two package variables gives the reckoner, and a world that meets it. No statement is proved here.
-/
import Derived.Test.YtceonplglbdggaaDoorSuA
import Derived.ChangeSame
import Derived.ChangeVars
import Derived.JoinedOf
import Derived.RowKit
import Derived.LaidLaws
import Derived.OpenShut
import Derived.ChangeMaps5
import Derived.Stop.Joined
import Derived.Stop.LaidErr
namespace Go.Proofs.YtceonplglbdggaaDoor
open Go.ChangeShapes Go.WideShapes Go.RowKit
set_option linter.unusedVariables false
set_option maxRecDepth 100000

abbrev laidS : List (String × DataW Unit) := Rows.sumOfsRow.laid
theorem Tryd.ownN : ownKnob Tryd.prog.godebug = none := by kernel_rfl
theorem gBegin : Tryd.prog.globalNamed (laidS.map Prod.fst)[1]! = some 0 := by kernel_rfl
theorem gConst : Tryd.prog.globalNamed (laidS.map Prod.fst)[2]! = some 1 := by kernel_rfl
theorem tBegin : (Tryd.prog.globals[0]?).map (·.type) = some 45 := by kernel_rfl
theorem tConst : (Tryd.prog.globals[1]?).map (·.type) = some 61 := by kernel_rfl
theorem cells39 : Tryd.prog.cellsOf 39 = 1 := by kernel_rfl
/-- The numbers of words. -/
def nums (l : List (BitVec 32)) : List Int := l.map fun x => ((x.toNat : Nat) : Int)
theorem nums_c (l : List (BitVec 32)) : (nums l).map (Value.int .u32 ·) = l.map c32 := by
  unfold nums
  rw [List.map_map]
  rfl
theorem laidBegin : (Rows.laid_pharos_sum_begin : DataW Unit) = .agg ((nums H0).map fun m => .lit (.int .u32 m)) := by kernel_rfl
theorem laidConst : (Rows.laid_pharos_sum_constants : DataW Unit) = .agg ((nums K64).map fun m => .lit (.int .u32 m)) := by kernel_rfl
theorem int_of_trod {H : Type} {enc : TypeId × Value → H} {P : Program} {w : World} {base : Nat} {sp : Nat → Bool} {held : Bool} {fuel : Nat} {t : TypeId} {k : IntKind} {c : Value} {y : DataW H × List MemPlace}
    (ht : P.underlying t = some (.int k)) (h : DataW.trod enc P w base sp held fuel t [c] = some y) : ∃ n, c = .int k n ∧ y = (.lit (.int k n), []) := by
  cases fuel with
  | zero => simp [DataW.trod] at h
  | succ fuel =>
    cases c <;> simp [DataW.trod, ht] at h
    rename_i k' n
    obtain ⟨⟨rfl, _⟩, rfl⟩ := h
    exact ⟨n, rfl, rfl⟩
theorem cells_of_arr {H : Type} {enc : TypeId × Value → H} {P : Program} {w : World} {base : Nat} {sp : Nat → Bool} {held : Bool} {fuel n : Nat} {t e : TypeId} {k : IntKind} {cs : List Value} {ms : List Int} {p : List MemPlace} (ht : P.underlying t = some (.array n e)) (he : P.underlying e = some (.int k)) (hc : P.cellsOf e = 1) (hn : P.cellsOf t = n)
    (hd : DataW.trod enc P w base sp held fuel t cs = some (.agg (ms.map fun m => .lit (.int k m)), p)) : cs = ms.map (Value.int k ·) := by
  obtain ⟨xs, m, rfl, hx, hl, hxl, hall⟩ := DataW.trod_array ht hd
  simp only [Prod.mk.injEq, DataW.agg.injEq] at hx
  obtain ⟨hx, -⟩ := hx
  rw [hn] at hl
  have hml : ms.length = n := by
    have := congrArg List.length hx
    simpa [hxl] using this
  apply List.ext_getElem?
  intro i
  rcases Nat.lt_or_ge i n with q | q
  · have h1 := hall i q
    rw [hc, Nat.mul_one] at h1
    have hcs : (cs.drop i).take 1 = [cs[i]] := by
      rw [List.drop_eq_getElem_cons (by omega)]
      rfl
    rw [hcs, List.getElem?_eq_getElem (by omega)] at h1
    obtain ⟨v, e1, e2⟩ := int_of_trod he h1
    have h2 : (ms.map fun m => (DataW.lit (.int k m) : DataW H))[i]? = (xs.map (·.1))[i]? := by rw [hx]
    rw [List.getElem?_map, List.getElem?_map, List.getElem?_eq_getElem (by omega : i < ms.length), List.getElem?_eq_getElem (by omega : i < xs.length), e2] at h2
    simp only [Option.map_some, Option.some.injEq, DataW.lit.injEq, Lit.int.injEq, true_and] at h2
    rw [List.getElem?_eq_getElem (by omega : i < cs.length), e1, List.getElem?_map, List.getElem?_eq_getElem (by omega : i < ms.length), h2]
    rfl
  · rw [List.getElem?_eq_none (by omega), List.getElem?_eq_none (by rw [List.length_map]; omega)]
theorem lt_of_cell {w : World} {b j : Nat} {v : Value} (h : w.cell? ⟨b, j, none⟩ = some v) : b < w.heap.size := by
  unfold World.cell? at h
  rcases Nat.lt_or_ge b w.heap.size with q | q
  · exact q
  · rw [Array.getElem?_eq_none q] at h
    cases h
theorem holds_ro {w : World} {b : Nat} {cs : Array Value} {l : List (BitVec 32)} (hne : l ≠ []) (hcs : cs.toList = l.map c32) (h : ∀ i, w.cell? ⟨b, i, none⟩ = cs[i]?) : Holds w b false (l.map c32) := by
  have hc : ∀ (j : Nat) (v : Value), (l.map c32)[j]? = some v → w.cell? ⟨b, j, none⟩ = some v := fun j v hv => by
    rw [h j, ← Array.getElem?_toList, hcs]; exact hv
  obtain ⟨x, m, rfl⟩ : ∃ x m, l = x :: m := by
    cases l with
    | nil => exact absurd rfl hne
    | cons x m => exact ⟨x, m, rfl⟩
  exact ⟨lt_of_cell (hc 0 _ rfl), hc, fun h => nomatch h⟩
theorem rel_of_laid {W : World} (h : laidMetH Tryd.prog laidS W) : Rel G (fun k => k) G W := by
  have h0 : laidMet Tryd.prog laidS W := h
  have h' := laidMet.tail h0
  obtain ⟨ps, ⟨g, t, cs, fuel, p, q, hg, ht, hvar, hd, ⟨g2, t2, cs2, fuel2, p2, q2, hg2, ht2, hvar2, hd2, _, _⟩, _⟩, _⟩ := h'
  obtain rfl := Option.some.inj (gBegin.symm.trans hg)
  obtain rfl := Option.some.inj (tBegin.symm.trans ht)
  obtain rfl := Option.some.inj (gConst.symm.trans hg2)
  obtain rfl := Option.some.inj (tConst.symm.trans ht2)
  rw [laidBegin] at hd
  rw [laidConst] at hd2
  have e1 := cells_of_arr Tryd.underlying45 Tryd.underlying39 cells39 (by kernel_rfl) hd
  have e2 := cells_of_arr Tryd.underlying61 Tryd.underlying39 cells39 (by kernel_rfl) hd2
  rw [nums_c] at e1 e2
  have h0 : Holds W 0 false (H0.map c32) := holds_ro (by decide) e1 (World.var?_cell hg hvar)
  have h1 : Holds W 1 false (K64.map c32) := holds_ro (by decide) e2 (World.var?_cell hg2 hvar2)
  refine ⟨fun k e he hc => ?_, fun i j x y hx hy hij hr => ?_, fun _ _ => rfl, Nat.le_refl _, fun _ _ => rfl, fun k e he => ?_, fun k e he => ?_⟩
  · match k, he with
    | 0, he => obtain rfl := Option.some.inj he; exact h0
    | 1, he => obtain rfl := Option.some.inj he; exact h1
    | k + 2, he => cases he
  · match i, hx with
    | 0, hx => obtain rfl := Option.some.inj hx; cases hr
    | 1, hx => obtain rfl := Option.some.inj hx; cases hr
    | k + 2, hx => cases hx
  · match k, he with
    | 0, he => obtain rfl := Option.some.inj he; exact ⟨rfl, rfl⟩
    | 1, he => obtain rfl := Option.some.inj he; exact ⟨rfl, rfl⟩
    | k + 2, he => cases he
  · match k, he with
    | 0, he => obtain rfl := Option.some.inj he; rfl
    | 1, he => obtain rfl := Option.some.inj he; rfl
    | k + 2, he => cases he
def cellsH : Array Value := (H0.map c32).toArray
def cellsK : Array Value := (K64.map c32).toArray
def errS : ByteArray := ⟨#[98, 121, 116, 101, 115, 46, 66, 117, 102, 102, 101, 114, 58, 32, 116, 111, 111, 32, 108, 97, 114, 103, 101]⟩
def lowE (P : Program) (os : Os) : Nat := (World.holding P os ⟨#[], #[], []⟩).heap.size
def wrld (P : Program) (os : Os) : World := { World.holding P os ⟨#[.cells #[.string errS] 92], #[], []⟩ with heap := (((World.holding P os ⟨#[.cells #[.string errS] 92], #[], []⟩).heap.modify 0 (fun | .cells _ t frozen => .cells cellsH t frozen | o => o)).modify 1 (fun | .cells _ t frozen => .cells cellsK t frozen | o => o)).modify 2 (fun | .cells _ t frozen => .cells #[.iface 77 (.pointer (some ⟨lowE P os, 0, none⟩))] t frozen | o => o) }
theorem world_met (os : Os) (args : Array Value) : laidMetH Tryd.prog laidS ((wrld Tryd.prog os).forCall (fun _ _ => 0) ⟨#[], args, []⟩).memory :=
  laidMet_of_run' 8 (by kernel_rfl) (by kernel_rfl)
end Go.Proofs.YtceonplglbdggaaDoor
