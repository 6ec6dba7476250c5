/-
  What the row's condition on the two package variables gives the reckoner, and a world that meets it. No statement is proved here.
-/
import Derived.Test.YtdejfaccoepfhaaDoorShA
import Derived.ChangeSame
import Derived.ChangeVars
import Derived.JoinedOf
import Derived.RowKit
import Derived.LaidLaws
import Derived.OpenShut
import Derived.ChangeMaps5
import Derived.Stop.Joined
namespace Go.Proofs.YtdejfaccoepfhaaDoor
open Go.ChangeShapes Go.WideShapes Go.RowKit
set_option linter.unusedVariables false
set_option maxRecDepth 100000

abbrev laidS : List (String × DataW Unit) := Rows.shaOfsRow.laid
theorem Tryd.ownN : ownKnob Tryd.prog.godebug = none := by kernel_rfl
theorem gBegin : Tryd.prog.globalNamed (laidS.map Prod.fst)[0]! = some 0 := by kernel_rfl
theorem gConst : Tryd.prog.globalNamed (laidS.map Prod.fst)[1]! = some 1 := by kernel_rfl
theorem tBegin : (Tryd.prog.globals[0]?).map (·.type) = some 37 := by kernel_rfl
theorem tConst : (Tryd.prog.globals[1]?).map (·.type) = some 29 := by kernel_rfl
theorem cells28 : Tryd.prog.cellsOf 28 = 1 := by kernel_rfl
/-- The numbers of words. -/
def nums (l : List (BitVec 64)) : List Int := l.map fun x => ((x.toNat : Nat) : Int)
theorem nums_c (l : List (BitVec 64)) : (nums l).map (Value.int .u64 ·) = l.map c64 := by
  unfold nums
  rw [List.map_map]
  rfl
theorem laidBegin : (Rows.laid_pharos_sha_begin : DataW Unit) = .agg ((nums H0).map fun m => .lit (.int .u64 m)) := by kernel_rfl
theorem laidConst : (Rows.laid_pharos_sha_constants : DataW Unit) = .agg ((nums K80).map fun m => .lit (.int .u64 m)) := by kernel_rfl
theorem int_of_trod {H : Type} {enc : TypeId × Value → H} {P : Program} {w : World} {base : Nat} {sp : Nat → Bool} {held : Bool} {fuel : Nat} {t : TypeId} {k : IntKind} {c : Value} {y : DataW H × List MemPlace}
    (ht : P.underlying t = some (.int k)) (h : DataW.trod enc P w base sp held fuel t [c] = some y) : ∃ n, c = .int k n ∧ y = (.lit (.int k n), []) := by
  cases fuel with
  | zero => simp [DataW.trod] at h
  | succ fuel =>
    cases c <;> simp [DataW.trod, ht] at h
    rename_i k' n
    obtain ⟨⟨rfl, _⟩, rfl⟩ := h
    exact ⟨n, rfl, rfl⟩
theorem cells_of_arr {H : Type} {enc : TypeId × Value → H} {P : Program} {w : World} {base : Nat} {sp : Nat → Bool} {held : Bool} {fuel n : Nat} {t e : TypeId} {k : IntKind} {cs : List Value} {ms : List Int} {p : List MemPlace} (ht : P.underlying t = some (.array n e)) (he : P.underlying e = some (.int k)) (hc : P.cellsOf e = 1) (hn : P.cellsOf t = n)
    (hd : DataW.trod enc P w base sp held fuel t cs = some (.agg (ms.map fun m => .lit (.int k m)), p)) : cs = ms.map (Value.int k ·) := by
  obtain ⟨xs, m, rfl, hx, hl, hxl, hall⟩ := DataW.trod_array ht hd
  simp only [Prod.mk.injEq, DataW.agg.injEq] at hx
  obtain ⟨hx, -⟩ := hx
  rw [hn] at hl
  have hml : ms.length = n := by
    have := congrArg List.length hx
    simpa [hxl] using this
  apply List.ext_getElem?
  intro i
  rcases Nat.lt_or_ge i n with q | q
  · have h1 := hall i q
    rw [hc, Nat.mul_one] at h1
    have hcs : (cs.drop i).take 1 = [cs[i]] := by
      rw [List.drop_eq_getElem_cons (by omega)]
      rfl
    rw [hcs, List.getElem?_eq_getElem (by omega)] at h1
    obtain ⟨v, e1, e2⟩ := int_of_trod he h1
    have h2 : (ms.map fun m => (DataW.lit (.int k m) : DataW H))[i]? = (xs.map (·.1))[i]? := by rw [hx]
    rw [List.getElem?_map, List.getElem?_map, List.getElem?_eq_getElem (by omega : i < ms.length), List.getElem?_eq_getElem (by omega : i < xs.length), e2] at h2
    simp only [Option.map_some, Option.some.injEq, DataW.lit.injEq, Lit.int.injEq, true_and] at h2
    rw [List.getElem?_eq_getElem (by omega : i < cs.length), e1, List.getElem?_map, List.getElem?_eq_getElem (by omega : i < ms.length), h2]
    rfl
  · rw [List.getElem?_eq_none (by omega), List.getElem?_eq_none (by rw [List.length_map]; omega)]
theorem lt_of_cell {w : World} {b j : Nat} {v : Value} (h : w.cell? ⟨b, j, none⟩ = some v) : b < w.heap.size := by
  unfold World.cell? at h
  rcases Nat.lt_or_ge b w.heap.size with q | q
  · exact q
  · rw [Array.getElem?_eq_none q] at h
    cases h
theorem holds_ro {w : World} {b : Nat} {cs : Array Value} {l : List (BitVec 64)} (hne : l ≠ []) (hcs : cs.toList = l.map c64) (h : ∀ i, w.cell? ⟨b, i, none⟩ = cs[i]?) : Holds w b false (l.map c64) := by
  have hc : ∀ (j : Nat) (v : Value), (l.map c64)[j]? = some v → w.cell? ⟨b, j, none⟩ = some v := fun j v hv => by
    rw [h j, ← Array.getElem?_toList, hcs]; exact hv
  obtain ⟨x, m, rfl⟩ : ∃ x m, l = x :: m := by
    cases l with
    | nil => exact absurd rfl hne
    | cons x m => exact ⟨x, m, rfl⟩
  exact ⟨lt_of_cell (hc 0 _ rfl), hc, fun h => nomatch h⟩
theorem rel_of_laid {W : World} (h : laidMetH Tryd.prog laidS W) : Rel G (fun k => k) G W := by
  have h' : laidMet Tryd.prog laidS W := h
  obtain ⟨ps, ⟨g, t, cs, fuel, p, q, hg, ht, hvar, hd, ⟨g2, t2, cs2, fuel2, p2, q2, hg2, ht2, hvar2, hd2, _, _⟩, _⟩, _⟩ := h'
  obtain rfl := Option.some.inj (gBegin.symm.trans hg)
  obtain rfl := Option.some.inj (tBegin.symm.trans ht)
  obtain rfl := Option.some.inj (gConst.symm.trans hg2)
  obtain rfl := Option.some.inj (tConst.symm.trans ht2)
  rw [laidBegin] at hd
  rw [laidConst] at hd2
  have e1 := cells_of_arr Tryd.underlying37 Tryd.underlying28 cells28 (by kernel_rfl) hd
  have e2 := cells_of_arr Tryd.underlying29 Tryd.underlying28 cells28 (by kernel_rfl) hd2
  rw [nums_c] at e1 e2
  have h0 : Holds W 0 false (H0.map c64) := holds_ro (by decide) e1 (World.var?_cell hg hvar)
  have h1 : Holds W 1 false (K80.map c64) := holds_ro (by decide) e2 (World.var?_cell hg2 hvar2)
  refine ⟨fun k e he hc => ?_, fun i j x y hx hy hij hr => ?_, fun _ _ => rfl, Nat.le_refl _, fun _ _ => rfl, fun k e he => ?_, fun k e he => ?_⟩
  · match k, he with
    | 0, he => obtain rfl := Option.some.inj he; exact h0
    | 1, he => obtain rfl := Option.some.inj he; exact h1
    | k + 2, he => cases he
  · match i, hx with
    | 0, hx => obtain rfl := Option.some.inj hx; cases hr
    | 1, hx => obtain rfl := Option.some.inj hx; cases hr
    | k + 2, hx => cases hx
  · match k, he with
    | 0, he => obtain rfl := Option.some.inj he; exact ⟨rfl, rfl⟩
    | 1, he => obtain rfl := Option.some.inj he; exact ⟨rfl, rfl⟩
    | k + 2, he => cases he
  · match k, he with
    | 0, he => obtain rfl := Option.some.inj he; rfl
    | 1, he => obtain rfl := Option.some.inj he; rfl
    | k + 2, he => cases he
def cellsH : Array Value := (H0.map c64).toArray
def cellsK : Array Value := (K80.map c64).toArray
def wrld (P : Program) (os : Os) : World := { World.holding P os ⟨#[], #[], []⟩ with heap := ((World.holding P os ⟨#[], #[], []⟩).heap.modify 0 (fun | .cells _ t frozen => .cells cellsH t frozen | o => o)).modify 1 (fun | .cells _ t frozen => .cells cellsK t frozen | o => o) }
theorem world_0 (os : Os) (args : Array Value) : ((wrld Tryd.prog os).forCall (fun _ _ => 0) ⟨#[], args, []⟩).memory.heap[0]? = some (.cells cellsH 37 (0, 0)) := by kernel_rfl
theorem world_1 (os : Os) (args : Array Value) : ((wrld Tryd.prog os).forCall (fun _ _ => 0) ⟨#[], args, []⟩).memory.heap[1]? = some (.cells cellsK 29 (0, 0)) := by kernel_rfl
theorem no_iface {l : List (BitVec 64)} {i : Nat} {u : TypeId} {v : Value} (h : (l.map c64).toArray[i]? = some (.iface u v)) : False := by
  rw [← Array.getElem?_toList] at h
  simp only [List.getElem?_map, Option.map_eq_some_iff] at h
  obtain ⟨x, -, hx⟩ := h
  unfold c64 at hx
  cases hx
def inB (p : MemPlace) : Bool := match p with
  | .cell b _ => Nat.beq b 0 || Nat.beq b 1
  | _ => false
theorem world_met (os : Os) (args : Array Value) : laidMetH Tryd.prog laidS ((wrld Tryd.prog os).forCall (fun _ _ => 0) ⟨#[], args, []⟩).memory := by
  show laidMet Tryd.prog laidS _
  refine ⟨_, ⟨0, 37, cellsH, 8, [], _, by kernel_rfl, by kernel_rfl, by kernel_rfl, by kernel_rfl, ⟨1, 29, cellsK, 8, [], [], by kernel_rfl, by kernel_rfl, by kernel_rfl, by kernel_rfl, rfl, rfl⟩, rfl⟩, by decide +kernel, fun b off h => ?_⟩
  have hall : List.all (MemPlace.row ⟨0, 0, none⟩ 8 ++ ([] ++ (MemPlace.row ⟨1, 0, none⟩ 80 ++ ([] ++ [])))) inB = true := by kernel_rfl
  have hb := List.all_eq_true.1 hall _ h
  simp only [inB, Bool.or_eq_true] at hb
  rcases hb with hb | hb
  · obtain rfl := Nat.eq_of_beq_eq_true hb
    refine ⟨⟨_, _, world_0 os args⟩, fun u v hc => ?_⟩
    simp only [World.cell?, world_0 os args] at hc
    exact (no_iface hc).elim
  · obtain rfl := Nat.eq_of_beq_eq_true hb
    refine ⟨⟨_, _, world_1 os args⟩, fun u v hc => ?_⟩
    simp only [World.cell?, world_1 os args] at hc
    exact (no_iface hc).elim
end Go.Proofs.YtdejfaccoepfhaaDoor
