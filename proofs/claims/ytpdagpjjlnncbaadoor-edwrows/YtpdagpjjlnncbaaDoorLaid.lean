/-
  What the row's condition on the two package variables gives a walk, and a world that meets it. No statement is proved here.
-/
import Derived.Test.YtpdagpjjlnncbaaDoorLast
import Derived.Test.YtpdagpjjlnncbaaDoorOrdB
import Derived.ChangeSame
import Derived.ChangeVars
import Derived.JoinedOf
import Derived.RowKit
import Derived.LaidLaws
import Derived.OpenShut
import Derived.ChangeMaps5
import Derived.Stop.Joined
namespace Go.Proofs.YtpdagpjjlnncbaaDoor
open Go.ChangeShapes Go.WideShapes Go.RowKit
set_option linter.unusedVariables false
set_option maxRecDepth 100000

abbrev laid2 : List (String × DataW Unit) := Rows.edwReadsRow.laid
abbrev laid3 : List (String × DataW Unit) := Rows.edwReckonsRow.laid
theorem Tryd.ownN : ownKnob Tryd.prog.godebug = none := by kernel_rfl
theorem gWhole : Tryd.prog.globalNamed (laid3.map Prod.fst)[2]! = some 2 := by kernel_rfl
theorem gPrime : Tryd.prog.globalNamed (laid3.map Prod.fst)[1]! = some 0 := by kernel_rfl
theorem gRoot : Tryd.prog.globalNamed (laid3.map Prod.fst)[0]! = some 1 := by kernel_rfl
theorem tPrime : (Tryd.prog.globals[0]?).map (·.type) = some 25 := by kernel_rfl
theorem tRoot : (Tryd.prog.globals[1]?).map (·.type) = some 25 := by kernel_rfl
theorem tWhole : (Tryd.prog.globals[2]?).map (·.type) = some 44 := by kernel_rfl
theorem cells25 : Tryd.prog.cellsOf 25 = 4 := by kernel_rfl
theorem cells44 : Tryd.prog.cellsOf 44 = 4 := by kernel_rfl
theorem cells23 : Tryd.prog.cellsOf 23 = 1 := by kernel_rfl
def cellsP : Array Value := #[.int .u64 18446744073709551597, .int .u64 18446744073709551615, .int .u64 18446744073709551615, .int .u64 9223372036854775807]
def cellsR : Array Value := #[.int .u64 14190309331451158704, .int .u64 3405592160176694392, .int .u64 3120150775007532967, .int .u64 3135389899092516619]
def cellsL : Array Value := #[.int .u64 6346243789798364141, .int .u64 1503914060200516822, .int .u64 0, .int .u64 1152921504606846976]

theorem int_of_trod {H : Type} {enc : TypeId × Value → H} {P : Program} {w : World} {base : Nat} {sp : Nat → Bool} {held : Bool} {fuel : Nat} {t : TypeId} {k : IntKind} {c : Value} {y : DataW H × List MemPlace}
    (ht : P.underlying t = some (.int k)) (h : DataW.trod enc P w base sp held fuel t [c] = some y) : ∃ n, c = .int k n ∧ y = (.lit (.int k n), []) := by
  cases fuel with
  | zero => simp [DataW.trod] at h
  | succ fuel =>
    cases c <;> simp [DataW.trod, ht] at h
    rename_i k' n
    obtain ⟨⟨rfl, _⟩, rfl⟩ := h
    exact ⟨n, rfl, rfl⟩
theorem cells_of25 {H : Type} {enc : TypeId × Value → H} {w : World} {base : Nat} {sp : Nat → Bool} {held : Bool} {fuel : Nat} {cs : Array Value} {m0 m1 m2 m3 : Int} {p : List MemPlace}
    (hd : DataW.trod enc Tryd.prog w base sp held fuel 25 cs.toList = some (.agg [.lit (.int .u64 m0), .lit (.int .u64 m1), .lit (.int .u64 m2), .lit (.int .u64 m3)], p)) : cs = #[.int .u64 m0, .int .u64 m1, .int .u64 m2, .int .u64 m3] := by
  obtain ⟨l⟩ := cs
  cases fuel with
  | zero => simp [DataW.trod] at hd
  | succ fuel =>
    simp only [DataW.trod, Tryd.underlying25, cells25, cells23] at hd
    split at hd
    · rename_i hl
      obtain ⟨c0, c1, c2, c3, rfl⟩ : ∃ c0 c1 c2 c3, l = [c0, c1, c2, c3] := by
        match l, hl with
        | [a, b, c, d], _ => exact ⟨a, b, c, d, rfl⟩
      have e : List.range 4 = [0, 1, 2, 3] := rfl
      rw [e] at hd
      simp only [Option.map_eq_some_iff, List.mapM_cons, List.mapM_nil, Option.bind_eq_bind, Option.bind_eq_some_iff, Option.pure_def, Option.some.injEq] at hd
      obtain ⟨xs, ⟨y0, h0, _, ⟨y1, h1, _, ⟨y2, h2, _, ⟨y3, h3, _, rfl, rfl⟩, rfl⟩, rfl⟩, rfl⟩, hx⟩ := hd
      obtain ⟨n0, rfl, rfl⟩ := int_of_trod Tryd.underlying23 h0
      obtain ⟨n1, rfl, rfl⟩ := int_of_trod Tryd.underlying23 h1
      obtain ⟨n2, rfl, rfl⟩ := int_of_trod Tryd.underlying23 h2
      obtain ⟨n3, rfl, rfl⟩ := int_of_trod Tryd.underlying23 h3
      simp at hx
      obtain ⟨⟨rfl, rfl, rfl, rfl⟩, _⟩ := hx
      rfl
    · cases hd
theorem cells_of44 {H : Type} {enc : TypeId × Value → H} {w : World} {base : Nat} {sp : Nat → Bool} {held : Bool} {fuel : Nat} {cs : Array Value} {m0 m1 m2 m3 : Int} {p : List MemPlace}
    (hd : DataW.trod enc Tryd.prog w base sp held fuel 44 cs.toList = some (.agg [.lit (.int .u64 m0), .lit (.int .u64 m1), .lit (.int .u64 m2), .lit (.int .u64 m3)], p)) : cs = #[.int .u64 m0, .int .u64 m1, .int .u64 m2, .int .u64 m3] := by
  obtain ⟨l⟩ := cs
  cases fuel with
  | zero => simp [DataW.trod] at hd
  | succ fuel =>
    simp only [DataW.trod, Tryd.underlying44, cells44, cells23] at hd
    split at hd
    · rename_i hl
      obtain ⟨c0, c1, c2, c3, rfl⟩ : ∃ c0 c1 c2 c3, l = [c0, c1, c2, c3] := by
        match l, hl with
        | [a, b, c, d], _ => exact ⟨a, b, c, d, rfl⟩
      have e : List.range 4 = [0, 1, 2, 3] := rfl
      rw [e] at hd
      simp only [Option.map_eq_some_iff, List.mapM_cons, List.mapM_nil, Option.bind_eq_bind, Option.bind_eq_some_iff, Option.pure_def, Option.some.injEq] at hd
      obtain ⟨xs, ⟨y0, h0, _, ⟨y1, h1, _, ⟨y2, h2, _, ⟨y3, h3, _, rfl, rfl⟩, rfl⟩, rfl⟩, rfl⟩, hx⟩ := hd
      obtain ⟨n0, rfl, rfl⟩ := int_of_trod Tryd.underlying23 h0
      obtain ⟨n1, rfl, rfl⟩ := int_of_trod Tryd.underlying23 h1
      obtain ⟨n2, rfl, rfl⟩ := int_of_trod Tryd.underlying23 h2
      obtain ⟨n3, rfl, rfl⟩ := int_of_trod Tryd.underlying23 h3
      simp at hx
      obtain ⟨⟨rfl, rfl, rfl, rfl⟩, _⟩ := hx
      rfl
    · cases hd
theorem pv_of_laid2 {W : World} (h : laidMetH Tryd.prog laid2 W) : PV W := by
  have h' : laidMet Tryd.prog laid2 W := h
  obtain ⟨ps, ⟨g, t, cs, fuel, p, q, hg, ht, hvar, hd, ⟨g2, t2, cs2, fuel2, p2, q2, hg2, ht2, hvar2, hd2, _, _⟩, _⟩, _⟩ := h'
  obtain rfl := Option.some.inj (gRoot.symm.trans hg)
  obtain rfl := Option.some.inj (tRoot.symm.trans ht)
  obtain rfl := Option.some.inj (gPrime.symm.trans hg2)
  obtain rfl := Option.some.inj (tPrime.symm.trans ht2)
  have e1 := cells_of25 hd
  have e2 := cells_of25 hd2
  subst e1
  subst e2
  exact ⟨World.var?_cell hg2 hvar2 0, World.var?_cell hg2 hvar2 1, World.var?_cell hg2 hvar2 2, World.var?_cell hg2 hvar2 3, World.var?_cell hg hvar 0, World.var?_cell hg hvar 1, World.var?_cell hg hvar 2, World.var?_cell hg hvar 3⟩
theorem pv_of_laid3 {W : World} (h : laidMetH Tryd.prog laid3 W) : PV W ∧ Ord.PV W := by
  have h' : laidMet Tryd.prog laid3 W := h
  obtain ⟨ps, ⟨g, t, cs, fuel, p, q, hg, ht, hvar, hd, ⟨g2, t2, cs2, fuel2, p2, q2, hg2, ht2, hvar2, hd2, ⟨g3, t3, cs3, fuel3, p3, q3, hg3, ht3, hvar3, hd3, _, _⟩, _⟩, _⟩, _⟩ := h'
  obtain rfl := Option.some.inj (gRoot.symm.trans hg)
  obtain rfl := Option.some.inj (tRoot.symm.trans ht)
  obtain rfl := Option.some.inj (gPrime.symm.trans hg2)
  obtain rfl := Option.some.inj (tPrime.symm.trans ht2)
  obtain rfl := Option.some.inj (gWhole.symm.trans hg3)
  obtain rfl := Option.some.inj (tWhole.symm.trans ht3)
  have e1 := cells_of25 hd
  have e2 := cells_of25 hd2
  have e3 := cells_of44 hd3
  subst e1
  subst e2
  subst e3
  exact ⟨⟨World.var?_cell hg2 hvar2 0, World.var?_cell hg2 hvar2 1, World.var?_cell hg2 hvar2 2, World.var?_cell hg2 hvar2 3, World.var?_cell hg hvar 0, World.var?_cell hg hvar 1, World.var?_cell hg hvar 2, World.var?_cell hg hvar 3⟩, ⟨World.var?_cell hg3 hvar3 0, World.var?_cell hg3 hvar3 1, World.var?_cell hg3 hvar3 2, World.var?_cell hg3 hvar3 3⟩⟩
theorem world2_0 (os : Os) (args : Array Value) : (({ World.holding Tryd.prog os ⟨#[], #[], []⟩ with heap := ((World.holding Tryd.prog os ⟨#[], #[], []⟩).heap.modify 0 (fun | .cells _ t frozen => .cells cellsP t frozen | o => o)).modify 1 (fun | .cells _ t frozen => .cells cellsR t frozen | o => o) } : World).forCall (fun _ _ => 0) ⟨#[], args, []⟩).memory.heap[0]? = some (.cells cellsP 25 (0, 0)) := by kernel_rfl
theorem world2_1 (os : Os) (args : Array Value) : (({ World.holding Tryd.prog os ⟨#[], #[], []⟩ with heap := ((World.holding Tryd.prog os ⟨#[], #[], []⟩).heap.modify 0 (fun | .cells _ t frozen => .cells cellsP t frozen | o => o)).modify 1 (fun | .cells _ t frozen => .cells cellsR t frozen | o => o) } : World).forCall (fun _ _ => 0) ⟨#[], args, []⟩).memory.heap[1]? = some (.cells cellsR 25 (0, 0)) := by kernel_rfl
theorem world2_met (os : Os) (args : Array Value) : laidMetH Tryd.prog laid2 (({ World.holding Tryd.prog os ⟨#[], #[], []⟩ with heap := ((World.holding Tryd.prog os ⟨#[], #[], []⟩).heap.modify 0 (fun | .cells _ t frozen => .cells cellsP t frozen | o => o)).modify 1 (fun | .cells _ t frozen => .cells cellsR t frozen | o => o) } : World).forCall (fun _ _ => 0) ⟨#[], args, []⟩).memory := by
  show laidMet Tryd.prog laid2 _
  refine ⟨_, ⟨1, 25, cellsR, 8, [], _, by kernel_rfl, by kernel_rfl, by kernel_rfl, by kernel_rfl, ⟨0, 25, cellsP, 8, [], [], by kernel_rfl, by kernel_rfl, by kernel_rfl, by kernel_rfl, rfl, rfl⟩, rfl⟩, by decide, fun b off h => ?_⟩
  have h' : MemPlace.cell b off ∈ [MemPlace.cell 1 0, .cell 1 1, .cell 1 2, .cell 1 3, .cell 0 0, .cell 0 1, .cell 0 2, .cell 0 3] := h
  have hb : b = 0 ∨ b = 1 := by
    simp at h'
    omega
  rcases hb with rfl | rfl
  · refine ⟨⟨_, _, world2_0 os args⟩, fun u v hc => ?_⟩
    simp only [World.cell?, world2_0 os args] at hc
    simp at h'
    rcases h' with rfl | rfl | rfl | rfl <;> simp [cellsP] at hc
  · refine ⟨⟨_, _, world2_1 os args⟩, fun u v hc => ?_⟩
    simp only [World.cell?, world2_1 os args] at hc
    simp at h'
    rcases h' with rfl | rfl | rfl | rfl <;> simp [cellsR] at hc
theorem world3_0 (os : Os) (args : Array Value) : (({ World.holding Tryd.prog os ⟨#[], #[], []⟩ with heap := (((World.holding Tryd.prog os ⟨#[], #[], []⟩).heap.modify 0 (fun | .cells _ t frozen => .cells cellsP t frozen | o => o)).modify 1 (fun | .cells _ t frozen => .cells cellsR t frozen | o => o)).modify 2 (fun | .cells _ t frozen => .cells cellsL t frozen | o => o) } : World).forCall (fun _ _ => 0) ⟨#[], args, []⟩).memory.heap[0]? = some (.cells cellsP 25 (0, 0)) := by kernel_rfl
theorem world3_1 (os : Os) (args : Array Value) : (({ World.holding Tryd.prog os ⟨#[], #[], []⟩ with heap := (((World.holding Tryd.prog os ⟨#[], #[], []⟩).heap.modify 0 (fun | .cells _ t frozen => .cells cellsP t frozen | o => o)).modify 1 (fun | .cells _ t frozen => .cells cellsR t frozen | o => o)).modify 2 (fun | .cells _ t frozen => .cells cellsL t frozen | o => o) } : World).forCall (fun _ _ => 0) ⟨#[], args, []⟩).memory.heap[1]? = some (.cells cellsR 25 (0, 0)) := by kernel_rfl
theorem world3_2 (os : Os) (args : Array Value) : (({ World.holding Tryd.prog os ⟨#[], #[], []⟩ with heap := (((World.holding Tryd.prog os ⟨#[], #[], []⟩).heap.modify 0 (fun | .cells _ t frozen => .cells cellsP t frozen | o => o)).modify 1 (fun | .cells _ t frozen => .cells cellsR t frozen | o => o)).modify 2 (fun | .cells _ t frozen => .cells cellsL t frozen | o => o) } : World).forCall (fun _ _ => 0) ⟨#[], args, []⟩).memory.heap[2]? = some (.cells cellsL 44 (0, 0)) := by kernel_rfl
theorem world3_met (os : Os) (args : Array Value) : laidMetH Tryd.prog laid3 (({ World.holding Tryd.prog os ⟨#[], #[], []⟩ with heap := (((World.holding Tryd.prog os ⟨#[], #[], []⟩).heap.modify 0 (fun | .cells _ t frozen => .cells cellsP t frozen | o => o)).modify 1 (fun | .cells _ t frozen => .cells cellsR t frozen | o => o)).modify 2 (fun | .cells _ t frozen => .cells cellsL t frozen | o => o) } : World).forCall (fun _ _ => 0) ⟨#[], args, []⟩).memory := by
  show laidMet Tryd.prog laid3 _
  refine ⟨_, ⟨1, 25, cellsR, 8, [], _, by kernel_rfl, by kernel_rfl, by kernel_rfl, by kernel_rfl, ⟨0, 25, cellsP, 8, [], _, by kernel_rfl, by kernel_rfl, by kernel_rfl, by kernel_rfl, ⟨2, 44, cellsL, 8, [], [], by kernel_rfl, by kernel_rfl, by kernel_rfl, by kernel_rfl, rfl, rfl⟩, rfl⟩, rfl⟩, by decide, fun b off h => ?_⟩
  have h' : MemPlace.cell b off ∈ [MemPlace.cell 1 0, .cell 1 1, .cell 1 2, .cell 1 3, .cell 0 0, .cell 0 1, .cell 0 2, .cell 0 3, .cell 2 0, .cell 2 1, .cell 2 2, .cell 2 3] := h
  have hb : b = 0 ∨ b = 1 ∨ b = 2 := by
    simp at h'
    omega
  rcases hb with rfl | rfl | rfl
  · refine ⟨⟨_, _, world3_0 os args⟩, fun u v hc => ?_⟩
    simp only [World.cell?, world3_0 os args] at hc
    simp at h'
    rcases h' with rfl | rfl | rfl | rfl <;> simp [cellsP] at hc
  · refine ⟨⟨_, _, world3_1 os args⟩, fun u v hc => ?_⟩
    simp only [World.cell?, world3_1 os args] at hc
    simp at h'
    rcases h' with rfl | rfl | rfl | rfl <;> simp [cellsR] at hc
  · refine ⟨⟨_, _, world3_2 os args⟩, fun u v hc => ?_⟩
    simp only [World.cell?, world3_2 os args] at hc
    simp at h'
    rcases h' with rfl | rfl | rfl | rfl <;> simp [cellsL] at hc

end Go.Proofs.YtpdagpjjlnncbaaDoor
