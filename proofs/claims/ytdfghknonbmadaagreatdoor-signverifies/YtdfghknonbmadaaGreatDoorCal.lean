/-
  sign: the law's call. No statement is proved here.
-/
import Derived.Test.YtdfghknonbmadaaGreatDoorAlB
import Derived.ChangeSame
import Derived.ChangeVars
import Derived.JoinedOf
import Derived.RowKit
import Derived.LaidLaws
import Derived.OpenShut
import Derived.ChangeMaps5
import Derived.Stop.Joined
namespace Go.Proofs.YtdfghknonbmadaaGreatDoor
open Go.RowKit
set_option linter.unusedVariables false
set_option linter.unusedSimpArgs false
set_option maxRecDepth 100000

theorem Fp.below {w w' : World} (h : Fp0 w w') : Below w.heap.size w w' := ⟨h.os, h.tape, h.output, h.size, fun k hk => h.block k hk id⟩
theorem spec_calls {P : Program} {G M : Mm} {f : Nat} {fn : Func} {c : Code} {args : List SV} {r0 : SV} {β : Nat → Nat} {w : World} (hf : P.funcs[f]? = some fn) (hb : fn.body = some c) (hn : (fn.name == "runtime.NumGoroutine") = false) (hS : Spec P G f args M (fun r _ => r = r0)) (hR : Rel G β M w) (ha : SV.wf.wfs M.length args = true) (hro : ∀ (k : Nat) (e : Ent), M[k]? = some e → e.rw = false) (hr : r0.wf M.length = true) : Calls P f (vals β args).toArray w (fun e w' => e = .returned (val β r0) ∧ Fp0 w w') := by
  rcases hS β w hR ha with ⟨v, W', h2, -⟩ | ⟨-, h⟩
  · rw [enter_run hf hb hn] at h2; cases h2
  · refine h.mono fun e W' hh => ?_
    obtain ⟨v, rfl, β', M', r, hE, hR', ⟨hw, rfl⟩, rfl⟩ := hh
    refine ⟨by rw [val_agree hE.agree r hr], hE.fp.mono fun k _ hk => ?_⟩
    obtain ⟨j, e, he, hr, -⟩ := hk
    rw [hro j e he] at hr; cases hr
theorem g_ro : ∀ (k : Nat) (e : Ent), GE[k]? = some e → e.rw = false := fun k e he => by
  match k, he with
  | 0, he => obtain rfl := Option.some.inj he; rfl
  | 1, he => obtain rfl := Option.some.inj he; rfl
  | 2, he => obtain rfl := Option.some.inj he; rfl
  | 3, he => obtain rfl := Option.some.inj he; rfl
  | 4, he => obtain rfl := Option.some.inj he; rfl
  | k + 5, he => cases he
theorem bts_len (s : ByteArray) : (bts s).length = s.data.toList.length := by simp [bts]
theorem calls3 (s m : ByteArray) (hs : s.data.toList.length ≤ 140737488355328) (hm : m.data.toList.length ≤ 140737488355328) {W : World} (hR : Rel GE (fun k => k) GE W) : Calls Tryz.prog 3 #[.string s, .string m] W (fun e W' => e = .returned (.bool true) ∧ Fp0 W W') := by
  have := spec_calls (f := 3) (fn := Tryz.f3) Tryz.func3 rfl (by kernel_rfl) (law3_ok (bts s) (bts m) (by rw [bts_len]; exact hs) (by rw [bts_len]; exact hm)) hR rfl g_ro rfl
  have e : (vals (fun k => k) [SV.s (bts s), SV.s (bts m)]).toArray = #[Value.string s, Value.string m] := by simp [vals, val, txt_bts]
  rw [e] at this
  exact this
theorem calls4 (p m s : ByteArray) (hp : p.data.toList.length ≤ 140737488355328) (hm : m.data.toList.length ≤ 140737488355328) (hs : s.data.toList.length ≤ 140737488355328) {W : World} (hR : Rel GE (fun k => k) GE W) : Calls Tryz.prog 4 #[.string p, .string m, .string s] W (fun e W' => e = .returned (.bool true) ∧ Fp0 W W') := by
  have := spec_calls (f := 4) (fn := Tryz.f4) Tryz.func4 rfl (by kernel_rfl) (law4_ok (bts p) (bts m) (bts s) (by rw [bts_len]; exact hp) (by rw [bts_len]; exact hm) (by rw [bts_len]; exact hs)) hR rfl g_ro rfl
  have e : (vals (fun k => k) [SV.s (bts p), SV.s (bts m), SV.s (bts s)]).toArray = #[Value.string p, Value.string m, Value.string s] := by simp [vals, val, txt_bts]
  rw [e] at this
  exact this
theorem byte_of {n : Int} (h : (Lit.int .u8 n).wf = true) : (((BitVec.ofInt 8 n).toNat : Nat) : Int) = n := by
  have h2 : IntKind.u8.min ≤ n ∧ n ≤ IntKind.u8.max := by simpa [Lit.wf] using h
  have e1 : IntKind.u8.min = 0 := by decide
  have e2 : IntKind.u8.max = 255 := by decide
  rw [e1, e2] at h2
  exact ofInt_toNat (inU_iff.2 ⟨h2.1, by have : (2 : Int) ^ 8 = 256 := by decide
                                         omega⟩)
theorem calls5 (s m : ByteArray) (a n : Int) (hn : (Lit.int .u8 n).wf = true) (hs : s.data.toList.length ≤ 140737488355328) (hm : m.data.toList.length ≤ 140737488355328) {W : World} (hR : Rel GE (fun k => k) GE W) : Calls Tryz.prog 5 #[.string s, .string m, .int .i64 a, .int .u8 n] W (fun e W' => e = .returned (.bool true) ∧ Fp0 W W') := by
  have := spec_calls (f := 5) (fn := Tryz.f5) Tryz.func5 rfl (by kernel_rfl) (law5_ok (bts s) (bts m) a (BitVec.ofInt 8 n)) hR rfl g_ro rfl
  have e : (vals (fun k => k) [SV.s (bts s), SV.s (bts m), SV.i a, SV.w8 (BitVec.ofInt 8 n)]).toArray = #[Value.string s, Value.string m, Value.int .i64 a, Value.int .u8 n] := by
    simp only [vals, val, txt_bts, c8, byte_of hn]
  rw [e] at this
  exact this
end Go.Proofs.YtdfghknonbmadaaGreatDoor
namespace Go.Proofs.YtdfghknonbmadaaGreatDoor
open Go.ChangeShapes Go.WideShapes Go.RowKit
set_option linter.unusedVariables false
set_option maxRecDepth 100000

abbrev laidS : List (String × DataW Unit) := Rows.signSignsRow.laid
theorem Tryz.ownN : ownKnob Tryz.prog.godebug = none := by kernel_rfl
theorem g0 : Tryz.prog.globalNamed (laidS.map Prod.fst)[0]! = some 0 := by kernel_rfl
theorem t0 : (Tryz.prog.globals[0]?).map (·.type) = some 107 := by kernel_rfl
theorem g1 : Tryz.prog.globalNamed (laidS.map Prod.fst)[1]! = some 2 := by kernel_rfl
theorem t1 : (Tryz.prog.globals[2]?).map (·.type) = some 118 := by kernel_rfl
theorem g2 : Tryz.prog.globalNamed (laidS.map Prod.fst)[2]! = some 4 := by kernel_rfl
theorem t2 : (Tryz.prog.globals[4]?).map (·.type) = some 57 := by kernel_rfl
theorem g3 : Tryz.prog.globalNamed (laidS.map Prod.fst)[3]! = some 1 := by kernel_rfl
theorem t3 : (Tryz.prog.globals[1]?).map (·.type) = some 57 := by kernel_rfl
theorem g4 : Tryz.prog.globalNamed (laidS.map Prod.fst)[4]! = some 3 := by kernel_rfl
theorem t4 : (Tryz.prog.globals[3]?).map (·.type) = some 36 := by kernel_rfl
theorem cells34 : Tryz.prog.cellsOf 34 = 1 := by kernel_rfl
/-- The numbers of words. -/
def nums (l : List (BitVec 64)) : List Int := l.map fun x => ((x.toNat : Nat) : Int)
theorem nums_c (l : List (BitVec 64)) : (nums l).map (Value.int .u64 ·) = l.map c64 := by
  unfold nums
  rw [List.map_map]
  rfl
theorem laid0 : (Rows.laid_pharos_sha_begin : DataW Unit) = .agg ((nums BEG).map fun m => .lit (.int .u64 m)) := by kernel_rfl
theorem laid1 : (Rows.laid_pharos_sha_constants : DataW Unit) = .agg ((nums CON).map fun m => .lit (.int .u64 m)) := by kernel_rfl
theorem laid2 : (Rows.laid_pharos_num_rootOfMinusOne : DataW Unit) = .agg ((nums ROM).map fun m => .lit (.int .u64 m)) := by kernel_rfl
theorem laid3 : (Rows.laid_pharos_num_prime : DataW Unit) = .agg ((nums PRI).map fun m => .lit (.int .u64 m)) := by kernel_rfl
theorem laid4 : (Rows.laid_pharos_order_whole : DataW Unit) = .agg ((nums WHO).map fun m => .lit (.int .u64 m)) := by kernel_rfl
theorem int_of_trod {H : Type} {enc : TypeId × Value → H} {P : Program} {w : World} {base : Nat} {sp : Nat → Bool} {held : Bool} {fuel : Nat} {t : TypeId} {k : IntKind} {c : Value} {y : DataW H × List MemPlace}
    (ht : P.underlying t = some (.int k)) (h : DataW.trod enc P w base sp held fuel t [c] = some y) : ∃ n, c = .int k n ∧ y = (.lit (.int k n), []) := by
  cases fuel with
  | zero => simp [DataW.trod] at h
  | succ fuel =>
    cases c <;> simp [DataW.trod, ht] at h
    rename_i k' n
    obtain ⟨⟨rfl, _⟩, rfl⟩ := h
    exact ⟨n, rfl, rfl⟩
theorem cells_of_arr {H : Type} {enc : TypeId × Value → H} {P : Program} {w : World} {base : Nat} {sp : Nat → Bool} {held : Bool} {fuel n : Nat} {t e : TypeId} {k : IntKind} {cs : List Value} {ms : List Int} {p : List MemPlace} (ht : P.underlying t = some (.array n e)) (he : P.underlying e = some (.int k)) (hc : P.cellsOf e = 1) (hn : P.cellsOf t = n)
    (hd : DataW.trod enc P w base sp held fuel t cs = some (.agg (ms.map fun m => .lit (.int k m)), p)) : cs = ms.map (Value.int k ·) := by
  obtain ⟨xs, m, rfl, hx, hl, hxl, hall⟩ := DataW.trod_array ht hd
  simp only [Prod.mk.injEq, DataW.agg.injEq] at hx
  obtain ⟨hx, -⟩ := hx
  rw [hn] at hl
  have hml : ms.length = n := by
    have := congrArg List.length hx
    simpa [hxl] using this
  apply List.ext_getElem?
  intro i
  rcases Nat.lt_or_ge i n with q | q
  · have h1 := hall i q
    rw [hc, Nat.mul_one] at h1
    have hcs : (cs.drop i).take 1 = [cs[i]] := by
      rw [List.drop_eq_getElem_cons (by omega)]
      rfl
    rw [hcs, List.getElem?_eq_getElem (by omega)] at h1
    obtain ⟨v, e1, e2⟩ := int_of_trod he h1
    have h2 : (ms.map fun m => (DataW.lit (.int k m) : DataW H))[i]? = (xs.map (·.1))[i]? := by rw [hx]
    rw [List.getElem?_map, List.getElem?_map, List.getElem?_eq_getElem (by omega : i < ms.length), List.getElem?_eq_getElem (by omega : i < xs.length), e2] at h2
    simp only [Option.map_some, Option.some.injEq, DataW.lit.injEq, Lit.int.injEq, true_and] at h2
    rw [List.getElem?_eq_getElem (by omega : i < cs.length), e1, List.getElem?_map, List.getElem?_eq_getElem (by omega : i < ms.length), h2]
    rfl
  · rw [List.getElem?_eq_none (by omega), List.getElem?_eq_none (by rw [List.length_map]; omega)]
theorem lt_of_cell {w : World} {b j : Nat} {v : Value} (h : w.cell? ⟨b, j, none⟩ = some v) : b < w.heap.size := by
  unfold World.cell? at h
  rcases Nat.lt_or_ge b w.heap.size with q | q
  · exact q
  · rw [Array.getElem?_eq_none q] at h
    cases h
theorem holds_ro {w : World} {b : Nat} {cs : Array Value} {l : List (BitVec 64)} (hne : l ≠ []) (hcs : cs.toList = l.map c64) (h : ∀ i, w.cell? ⟨b, i, none⟩ = cs[i]?) : Holds w b false (l.map c64) := by
  have hc : ∀ (j : Nat) (v : Value), (l.map c64)[j]? = some v → w.cell? ⟨b, j, none⟩ = some v := fun j v hv => by
    rw [h j, ← Array.getElem?_toList, hcs]; exact hv
  obtain ⟨x, m, rfl⟩ : ∃ x m, l = x :: m := by
    cases l with
    | nil => exact absurd rfl hne
    | cons x m => exact ⟨x, m, rfl⟩
  exact ⟨lt_of_cell (hc 0 _ rfl), hc, (fun h => nomatch h), (fun s hs => nomatch hs), (fun h => nomatch h)⟩
theorem rel_of_laid {W : World} (h : laidMetH Tryz.prog laidS W) : Rel GE (fun k => k) GE W := by
  have h' : laidMet Tryz.prog laidS W := h
  obtain ⟨ps, ⟨g0a, t0a, cs0, fuel0, p0, q0, hg0, ht0, hvar0, hd0, ⟨g1a, t1a, cs1, fuel1, p1, q1, hg1, ht1, hvar1, hd1, ⟨g2a, t2a, cs2, fuel2, p2, q2, hg2, ht2, hvar2, hd2, ⟨g3a, t3a, cs3, fuel3, p3, q3, hg3, ht3, hvar3, hd3, ⟨g4a, t4a, cs4, fuel4, p4, q4, hg4, ht4, hvar4, hd4, _, _⟩, _⟩, _⟩, _⟩, _⟩, _⟩ := h'
  obtain rfl := Option.some.inj (g0.symm.trans hg0)
  obtain rfl := Option.some.inj (t0.symm.trans ht0)
  rw [laid0] at hd0
  have e0 := cells_of_arr Tryz.underlying107 Tryz.underlying34 cells34 (by kernel_rfl) hd0
  rw [nums_c] at e0
  have h0 : Holds W 0 false (BEG.map c64) := holds_ro (by decide) e0 (World.var?_cell hg0 hvar0)
  obtain rfl := Option.some.inj (g1.symm.trans hg1)
  obtain rfl := Option.some.inj (t1.symm.trans ht1)
  rw [laid1] at hd1
  have e1 := cells_of_arr Tryz.underlying118 Tryz.underlying34 cells34 (by kernel_rfl) hd1
  rw [nums_c] at e1
  have h1 : Holds W 2 false (CON.map c64) := holds_ro (by decide) e1 (World.var?_cell hg1 hvar1)
  obtain rfl := Option.some.inj (g2.symm.trans hg2)
  obtain rfl := Option.some.inj (t2.symm.trans ht2)
  rw [laid2] at hd2
  have e2 := cells_of_arr Tryz.underlying57 Tryz.underlying34 cells34 (by kernel_rfl) hd2
  rw [nums_c] at e2
  have h2 : Holds W 4 false (ROM.map c64) := holds_ro (by decide) e2 (World.var?_cell hg2 hvar2)
  obtain rfl := Option.some.inj (g3.symm.trans hg3)
  obtain rfl := Option.some.inj (t3.symm.trans ht3)
  rw [laid3] at hd3
  have e3 := cells_of_arr Tryz.underlying57 Tryz.underlying34 cells34 (by kernel_rfl) hd3
  rw [nums_c] at e3
  have h3 : Holds W 1 false (PRI.map c64) := holds_ro (by decide) e3 (World.var?_cell hg3 hvar3)
  obtain rfl := Option.some.inj (g4.symm.trans hg4)
  obtain rfl := Option.some.inj (t4.symm.trans ht4)
  rw [laid4] at hd4
  have e4 := cells_of_arr Tryz.underlying36 Tryz.underlying34 cells34 (by kernel_rfl) hd4
  rw [nums_c] at e4
  have h4 : Holds W 3 false (WHO.map c64) := holds_ro (by decide) e4 (World.var?_cell hg4 hvar4)
  refine ⟨fun k e he hc => ?_, fun i j x y hx hy hij hr => ?_, fun _ _ => rfl, Nat.le_refl _, fun _ _ => rfl, fun k e he => ?_, fun k e he => ?_⟩
  · match k, he with
    | 0, he => obtain rfl := Option.some.inj he; exact h0
    | 1, he => obtain rfl := Option.some.inj he; exact h3
    | 2, he => obtain rfl := Option.some.inj he; exact h1
    | 3, he => obtain rfl := Option.some.inj he; exact h4
    | 4, he => obtain rfl := Option.some.inj he; exact h2
    | k + 5, he => cases he
  · match i, hx with
    | 0, hx => obtain rfl := Option.some.inj hx; cases hr
    | 1, hx => obtain rfl := Option.some.inj hx; cases hr
    | 2, hx => obtain rfl := Option.some.inj hx; cases hr
    | 3, hx => obtain rfl := Option.some.inj hx; cases hr
    | 4, hx => obtain rfl := Option.some.inj hx; cases hr
    | k + 5, hx => cases hx
  · match k, he with
    | 0, he => obtain rfl := Option.some.inj he; exact ⟨rfl, rfl⟩
    | 1, he => obtain rfl := Option.some.inj he; exact ⟨rfl, rfl⟩
    | 2, he => obtain rfl := Option.some.inj he; exact ⟨rfl, rfl⟩
    | 3, he => obtain rfl := Option.some.inj he; exact ⟨rfl, rfl⟩
    | 4, he => obtain rfl := Option.some.inj he; exact ⟨rfl, rfl⟩
    | k + 5, he => cases he
  · match k, he with
    | 0, he => obtain rfl := Option.some.inj he; rfl
    | 1, he => obtain rfl := Option.some.inj he; rfl
    | 2, he => obtain rfl := Option.some.inj he; rfl
    | 3, he => obtain rfl := Option.some.inj he; rfl
    | 4, he => obtain rfl := Option.some.inj he; rfl
    | k + 5, he => cases he
def cells_0 : Array Value := (BEG.map c64).toArray
def cells_1 : Array Value := (CON.map c64).toArray
def cells_2 : Array Value := (ROM.map c64).toArray
def cells_3 : Array Value := (PRI.map c64).toArray
def cells_4 : Array Value := (WHO.map c64).toArray
def wrld (P : Program) (os : Os) : World := { World.holding P os ⟨#[], #[], []⟩ with heap := ((((((World.holding P os ⟨#[], #[], []⟩).heap.modify 0 (fun | .cells _ t frozen => .cells cells_0 t frozen | o => o)).modify 2 (fun | .cells _ t frozen => .cells cells_1 t frozen | o => o)).modify 4 (fun | .cells _ t frozen => .cells cells_2 t frozen | o => o)).modify 1 (fun | .cells _ t frozen => .cells cells_3 t frozen | o => o)).modify 3 (fun | .cells _ t frozen => .cells cells_4 t frozen | o => o)) }
theorem world_0 (os : Os) (args : Array Value) : ((wrld Tryz.prog os).forCall (fun _ _ => 0) ⟨#[], args, []⟩).memory.heap[0]? = some (.cells cells_0 107 (0, 0)) := by kernel_rfl
theorem world_1 (os : Os) (args : Array Value) : ((wrld Tryz.prog os).forCall (fun _ _ => 0) ⟨#[], args, []⟩).memory.heap[2]? = some (.cells cells_1 118 (0, 0)) := by kernel_rfl
theorem world_2 (os : Os) (args : Array Value) : ((wrld Tryz.prog os).forCall (fun _ _ => 0) ⟨#[], args, []⟩).memory.heap[4]? = some (.cells cells_2 57 (0, 0)) := by kernel_rfl
theorem world_3 (os : Os) (args : Array Value) : ((wrld Tryz.prog os).forCall (fun _ _ => 0) ⟨#[], args, []⟩).memory.heap[1]? = some (.cells cells_3 57 (0, 0)) := by kernel_rfl
theorem world_4 (os : Os) (args : Array Value) : ((wrld Tryz.prog os).forCall (fun _ _ => 0) ⟨#[], args, []⟩).memory.heap[3]? = some (.cells cells_4 36 (0, 0)) := by kernel_rfl
theorem no_iface {l : List (BitVec 64)} {i : Nat} {u : TypeId} {v : Value} (h : (l.map c64).toArray[i]? = some (.iface u v)) : False := by
  rw [← Array.getElem?_toList] at h
  simp only [List.getElem?_map, Option.map_eq_some_iff] at h
  obtain ⟨x, -, hx⟩ := h
  unfold c64 at hx
  cases hx
def inB (p : MemPlace) : Bool := match p with
  | .cell b _ => Nat.beq b 0 || (Nat.beq b 2 || (Nat.beq b 4 || (Nat.beq b 1 || Nat.beq b 3)))
  | _ => false
theorem world_met (os : Os) (args : Array Value) : laidMetH Tryz.prog laidS ((wrld Tryz.prog os).forCall (fun _ _ => 0) ⟨#[], args, []⟩).memory := by
  show laidMet Tryz.prog laidS _
  refine ⟨_, ⟨0, 107, cells_0, 8, [], _, by kernel_rfl, by kernel_rfl, by kernel_rfl, by kernel_rfl, ⟨2, 118, cells_1, 8, [], _, by kernel_rfl, by kernel_rfl, by kernel_rfl, by kernel_rfl, ⟨4, 57, cells_2, 8, [], _, by kernel_rfl, by kernel_rfl, by kernel_rfl, by kernel_rfl, ⟨1, 57, cells_3, 8, [], _, by kernel_rfl, by kernel_rfl, by kernel_rfl, by kernel_rfl, ⟨3, 36, cells_4, 8, [], [], by kernel_rfl, by kernel_rfl, by kernel_rfl, by kernel_rfl, rfl, rfl⟩, rfl⟩, rfl⟩, rfl⟩, rfl⟩, by decide +kernel, fun b off h => ?_⟩
  have hall : List.all (MemPlace.row ⟨0, 0, none⟩ 8 ++ ([] ++ (MemPlace.row ⟨2, 0, none⟩ 80 ++ ([] ++ (MemPlace.row ⟨4, 0, none⟩ 4 ++ ([] ++ (MemPlace.row ⟨1, 0, none⟩ 4 ++ ([] ++ (MemPlace.row ⟨3, 0, none⟩ 4 ++ ([] ++ [])))))))))) inB = true := by kernel_rfl
  have hb := List.all_eq_true.1 hall _ h
  simp only [inB, Bool.or_eq_true] at hb
  rcases hb with hb | hb | hb | hb | hb
  · obtain rfl := Nat.eq_of_beq_eq_true hb
    refine ⟨⟨_, _, world_0 os args⟩, fun u v hc => ?_⟩
    simp only [World.cell?, world_0 os args] at hc
    exact (no_iface hc).elim
  · obtain rfl := Nat.eq_of_beq_eq_true hb
    refine ⟨⟨_, _, world_1 os args⟩, fun u v hc => ?_⟩
    simp only [World.cell?, world_1 os args] at hc
    exact (no_iface hc).elim
  · obtain rfl := Nat.eq_of_beq_eq_true hb
    refine ⟨⟨_, _, world_2 os args⟩, fun u v hc => ?_⟩
    simp only [World.cell?, world_2 os args] at hc
    exact (no_iface hc).elim
  · obtain rfl := Nat.eq_of_beq_eq_true hb
    refine ⟨⟨_, _, world_3 os args⟩, fun u v hc => ?_⟩
    simp only [World.cell?, world_3 os args] at hc
    exact (no_iface hc).elim
  · obtain rfl := Nat.eq_of_beq_eq_true hb
    refine ⟨⟨_, _, world_4 os args⟩, fun u v hc => ?_⟩
    simp only [World.cell?, world_4 os args] at hc
    exact (no_iface hc).elim
end Go.Proofs.YtdfghknonbmadaaGreatDoor
