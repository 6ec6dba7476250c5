/-
  What the row's condition on the package variable gives the reckoner, and a world that meets it. No statement is proved here.
-/
import Derived.Test.YtedcileokcbohaaDoorLiA
import Derived.ChangeSame
import Derived.ChangeVars
import Derived.JoinedOf
import Derived.RowKit
import Derived.LaidLaws
import Derived.OpenShut
import Derived.ChangeMaps5
import Derived.Stop.Joined
import Derived.Stop.LaidErr
namespace Go.Proofs.YtedcileokcbohaaDoor
open Go.ChangeShapes Go.WideShapes Go.RowKit
set_option linter.unusedVariables false
set_option maxRecDepth 100000

abbrev laidS : List (String × DataW Unit) := Rows.linkCodesRow.laid
theorem Tryd.ownN : ownKnob Tryd.prog.godebug = none := by kernel_rfl
theorem gRows : Tryd.prog.globalNamed (laidS.map Prod.fst)[0]! = some 0 := by kernel_rfl
theorem tRows : (Tryd.prog.globals[0]?).map (·.type) = some 67 := by kernel_rfl
theorem cells5 : Tryd.prog.cellsOf 5 = 1 := by kernel_rfl
theorem cells67 : Tryd.prog.cellsOf 67 = 6 := by kernel_rfl
/-- The numbers of bytes. -/
def nums (l : List (BitVec 8)) : List Int := l.map fun x => ((x.toNat : Nat) : Int)
theorem nums_c (l : List (BitVec 8)) : (nums l).map (Value.int .u8 ·) = l.map c8 := by
  unfold nums
  rw [List.map_map]
  rfl
theorem laidRows : (Rows.laid_pharos_link_arpHead : DataW Unit) = .agg ((nums HD).map fun m => .lit (.int .u8 m)) := by kernel_rfl
theorem int_of_trod {H : Type} {enc : TypeId × Value → H} {P : Program} {w : World} {base : Nat} {sp : Nat → Bool} {held : Bool} {fuel : Nat} {t : TypeId} {k : IntKind} {c : Value} {y : DataW H × List MemPlace}
    (ht : P.underlying t = some (.int k)) (h : DataW.trod enc P w base sp held fuel t [c] = some y) : ∃ n, c = .int k n ∧ y = (.lit (.int k n), []) := by
  cases fuel with
  | zero => simp [DataW.trod] at h
  | succ fuel =>
    cases c <;> simp [DataW.trod, ht] at h
    rename_i k' n
    obtain ⟨⟨rfl, _⟩, rfl⟩ := h
    exact ⟨n, rfl, rfl⟩
theorem cells_of_arr {H : Type} {enc : TypeId × Value → H} {P : Program} {w : World} {base : Nat} {sp : Nat → Bool} {held : Bool} {fuel n : Nat} {t e : TypeId} {k : IntKind} {cs : List Value} {ms : List Int} {p : List MemPlace} (ht : P.underlying t = some (.array n e)) (he : P.underlying e = some (.int k)) (hc : P.cellsOf e = 1) (hn : P.cellsOf t = n)
    (hd : DataW.trod enc P w base sp held fuel t cs = some (.agg (ms.map fun m => .lit (.int k m)), p)) : cs = ms.map (Value.int k ·) := by
  obtain ⟨xs, m, rfl, hx, hl, hxl, hall⟩ := DataW.trod_array ht hd
  simp only [Prod.mk.injEq, DataW.agg.injEq] at hx
  obtain ⟨hx, -⟩ := hx
  rw [hn] at hl
  have hml : ms.length = n := by
    have := congrArg List.length hx
    simpa [hxl] using this
  apply List.ext_getElem?
  intro i
  rcases Nat.lt_or_ge i n with q | q
  · have h1 := hall i q
    rw [hc, Nat.mul_one] at h1
    have hcs : (cs.drop i).take 1 = [cs[i]] := by
      rw [List.drop_eq_getElem_cons (by omega)]
      rfl
    rw [hcs, List.getElem?_eq_getElem (by omega)] at h1
    obtain ⟨v, e1, e2⟩ := int_of_trod he h1
    have h2 : (ms.map fun m => (DataW.lit (.int k m) : DataW H))[i]? = (xs.map (·.1))[i]? := by rw [hx]
    rw [List.getElem?_map, List.getElem?_map, List.getElem?_eq_getElem (by omega : i < ms.length), List.getElem?_eq_getElem (by omega : i < xs.length), e2] at h2
    simp only [Option.map_some, Option.some.injEq, DataW.lit.injEq, Lit.int.injEq, true_and] at h2
    rw [List.getElem?_eq_getElem (by omega : i < cs.length), e1, List.getElem?_map, List.getElem?_eq_getElem (by omega : i < ms.length), h2]
    rfl
  · rw [List.getElem?_eq_none (by omega), List.getElem?_eq_none (by rw [List.length_map]; omega)]
theorem lt_of_cell {w : World} {b j : Nat} {v : Value} (h : w.cell? ⟨b, j, none⟩ = some v) : b < w.heap.size := by
  unfold World.cell? at h
  rcases Nat.lt_or_ge b w.heap.size with q | q
  · exact q
  · rw [Array.getElem?_eq_none q] at h
    cases h
theorem rel_of_laid {W : World} (h : laidMetH Tryd.prog laidS W) : Rel G (fun k => k) G W := by
  have h' : laidMet Tryd.prog laidS W := h
  obtain ⟨ps, ⟨g, t, cs, fuel, p, q, hg, ht, hvar, hd, _, _⟩, _⟩ := h'
  obtain rfl := Option.some.inj (gRows.symm.trans hg)
  obtain rfl := Option.some.inj (tRows.symm.trans ht)
  rw [laidRows] at hd
  have e1 := cells_of_arr Tryd.underlying67 Tryd.underlying5 cells5 cells67 hd
  rw [nums_c] at e1
  have hcell := World.var?_cell hg hvar
  have hc : ∀ (j : Nat) (v : Value), (HD.map c8)[j]? = some v → W.cell? ⟨0, j, none⟩ = some v := fun j v hv => by
    rw [hcell j, ← Array.getElem?_toList, e1]; exact hv
  have h0 : Holds W 0 false (HD.map c8) := ⟨lt_of_cell (hc 0 _ rfl), hc, (fun h => nomatch h), (fun s hs => nomatch hs), (fun h => nomatch h), (fun h => nomatch h)⟩
  refine ⟨fun k e he hc => ?_, fun i j x y hx hy hij hr => ?_, fun _ _ => rfl, Nat.le_refl _, fun _ _ => rfl, fun k e he => ?_, fun k e he => ?_⟩
  · match k, he with
    | 0, he => obtain rfl := Option.some.inj he; exact h0
    | k + 1, he => cases he
  · match i, hx with
    | 0, hx => obtain rfl := Option.some.inj hx; cases hr
    | k + 1, hx => cases hx
  · match k, he with
    | 0, he => obtain rfl := Option.some.inj he; exact ⟨rfl, rfl⟩
    | k + 1, he => cases he
  · match k, he with
    | 0, he => obtain rfl := Option.some.inj he; rfl
    | k + 1, he => cases he
def cellsX : Array Value := (HD.map c8).toArray
def wrld (P : Program) (os : Os) : World := { World.holding P os ⟨#[], #[], []⟩ with heap := (World.holding P os ⟨#[], #[], []⟩).heap.modify 0 (fun | .cells _ t frozen => .cells cellsX t frozen | o => o) }
theorem world_met (os : Os) (args : Array Value) : laidMetH Tryd.prog laidS ((wrld Tryd.prog os).forCall (fun _ _ => 0) ⟨#[], args, []⟩).memory :=
  laidMet_of_run' 8 (by kernel_rfl) (by kernel_rfl)
end Go.Proofs.YtedcileokcbohaaDoor
