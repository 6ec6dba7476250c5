/-
  What the row's condition on the package variable gives a walk, and a world that meets it. No statement is proved here.
-/
import Derived.Test.YthbkhbfcocbnoaaDoorNumC
import Derived.Test.YthbkhbfcocbnoaaDoorRows
import Derived.ChangeSame
import Derived.ChangeVars
import Derived.JoinedOf
import Derived.RowKit
import Derived.LaidLaws
import Derived.OpenShut
import Derived.ChangeMaps5
import Derived.Stop.Joined
namespace Go.Proofs.YthbkhbfcocbnoaaDoor
open Go.ChangeShapes Go.WideShapes Go.RowKit
set_option linter.unusedVariables false
set_option maxRecDepth 100000

abbrev laidL : List (String × DataW Unit) := Rows.montBothRow.laid
theorem Tryd.ownN : ownKnob Tryd.prog.godebug = none := by kernel_rfl
theorem gWhole : Tryd.prog.globalNamed (laidL.map Prod.fst)[0]! = some 0 := by kernel_rfl
theorem tWhole : (Tryd.prog.globals[0]?).map (·.type) = some 41 := by kernel_rfl
theorem cells41 : Tryd.prog.cellsOf 41 = 4 := by kernel_rfl
theorem cells33 : Tryd.prog.cellsOf 33 = 1 := by kernel_rfl
def cellsP : Array Value := #[.int .u64 18446744073709551597, .int .u64 18446744073709551615, .int .u64 18446744073709551615, .int .u64 9223372036854775807]

theorem int_of_trod {H : Type} {enc : TypeId × Value → H} {P : Program} {w : World} {base : Nat} {sp : Nat → Bool} {held : Bool} {fuel : Nat} {t : TypeId} {k : IntKind} {c : Value} {y : DataW H × List MemPlace}
    (ht : P.underlying t = some (.int k)) (h : DataW.trod enc P w base sp held fuel t [c] = some y) : ∃ n, c = .int k n ∧ y = (.lit (.int k n), []) := by
  cases fuel with
  | zero => simp [DataW.trod] at h
  | succ fuel =>
    cases c <;> simp [DataW.trod, ht] at h
    rename_i k' n
    obtain ⟨⟨rfl, _⟩, rfl⟩ := h
    exact ⟨n, rfl, rfl⟩
theorem cells_of {H : Type} {enc : TypeId × Value → H} {w : World} {base : Nat} {sp : Nat → Bool} {held : Bool} {fuel : Nat} {cs : Array Value} {m0 m1 m2 m3 : Int} {p : List MemPlace}
    (hd : DataW.trod enc Tryd.prog w base sp held fuel 41 cs.toList = some (.agg [.lit (.int .u64 m0), .lit (.int .u64 m1), .lit (.int .u64 m2), .lit (.int .u64 m3)], p)) : cs = #[.int .u64 m0, .int .u64 m1, .int .u64 m2, .int .u64 m3] := by
  obtain ⟨l⟩ := cs
  cases fuel with
  | zero => simp [DataW.trod] at hd
  | succ fuel =>
    simp only [DataW.trod, Tryd.underlying41, cells41, cells33] at hd
    split at hd
    · rename_i hl
      obtain ⟨c0, c1, c2, c3, rfl⟩ : ∃ c0 c1 c2 c3, l = [c0, c1, c2, c3] := by
        match l, hl with
        | [a, b, c, d], _ => exact ⟨a, b, c, d, rfl⟩
      have e : List.range 4 = [0, 1, 2, 3] := rfl
      rw [e] at hd
      simp only [Option.map_eq_some_iff, List.mapM_cons, List.mapM_nil, Option.bind_eq_bind, Option.bind_eq_some_iff, Option.pure_def, Option.some.injEq] at hd
      obtain ⟨xs, ⟨y0, h0, _, ⟨y1, h1, _, ⟨y2, h2, _, ⟨y3, h3, _, rfl, rfl⟩, rfl⟩, rfl⟩, rfl⟩, hx⟩ := hd
      obtain ⟨n0, rfl, rfl⟩ := int_of_trod Tryd.underlying33 h0
      obtain ⟨n1, rfl, rfl⟩ := int_of_trod Tryd.underlying33 h1
      obtain ⟨n2, rfl, rfl⟩ := int_of_trod Tryd.underlying33 h2
      obtain ⟨n3, rfl, rfl⟩ := int_of_trod Tryd.underlying33 h3
      simp at hx
      obtain ⟨⟨rfl, rfl, rfl, rfl⟩, _⟩ := hx
      rfl
    · cases hd
theorem pv_of_laid {W : World} (h : laidMetH Tryd.prog laidL W) : PV W := by
  have h' : laidMet Tryd.prog laidL W := h
  obtain ⟨ps, ⟨g, t, cs, fuel, p, q, hg, ht, hvar, hd, _, _⟩, _⟩ := h'
  obtain rfl := Option.some.inj (gWhole.symm.trans hg)
  obtain rfl := Option.some.inj (tWhole.symm.trans ht)
  have e1 := cells_of hd
  subst e1
  exact ⟨World.var?_cell hg hvar 0, World.var?_cell hg hvar 1, World.var?_cell hg hvar 2, World.var?_cell hg hvar 3⟩

theorem laidWorld_0 (os : Os) (args : Array Value) : (({ World.holding Tryd.prog os ⟨#[], #[], []⟩ with heap := (World.holding Tryd.prog os ⟨#[], #[], []⟩).heap.modify 0 (fun | .cells _ t frozen => .cells cellsP t frozen | o => o) } : World).forCall (fun _ _ => 0) ⟨#[], args, []⟩).memory.heap[0]? = some (.cells cellsP 41 (0, 0)) := by kernel_rfl
theorem laidWorld_met (os : Os) (args : Array Value) : laidMetH Tryd.prog laidL (({ World.holding Tryd.prog os ⟨#[], #[], []⟩ with heap := (World.holding Tryd.prog os ⟨#[], #[], []⟩).heap.modify 0 (fun | .cells _ t frozen => .cells cellsP t frozen | o => o) } : World).forCall (fun _ _ => 0) ⟨#[], args, []⟩).memory := by
  show laidMet Tryd.prog laidL _
  refine ⟨_, ⟨0, 41, cellsP, 8, [], [], by kernel_rfl, by kernel_rfl, by kernel_rfl, by kernel_rfl, rfl, rfl⟩, by decide, fun b off h => ?_⟩
  have h' : MemPlace.cell b off ∈ [MemPlace.cell 0 0, .cell 0 1, .cell 0 2, .cell 0 3] := h
  obtain rfl : b = 0 := by
    simp at h'
    omega
  refine ⟨⟨_, _, laidWorld_0 os args⟩, fun u v hc => ?_⟩
  simp only [World.cell?, laidWorld_0 os args] at hc
  simp at h'
  rcases h' with rfl | rfl | rfl | rfl <;> simp [cellsP] at hc

end Go.Proofs.YthbkhbfcocbnoaaDoor
