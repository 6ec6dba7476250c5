/-
  hkdf: the laws' calls. No statement is proved here.
-/
import Derived.Test.YtmalnjdacmlcdaaDoorHkI
import Derived.Test.YtmalnjdacmlcdaaDoorVcV
import Derived.ChangeSame
import Derived.ChangeVars
import Derived.JoinedOf
import Derived.RowKit
import Derived.LaidLaws
import Derived.OpenShut
import Derived.ChangeMaps5
import Derived.Stop.Joined
import Derived.Stop.LaidErr
namespace Go.Proofs.YtmalnjdacmlcdaaDoor
open Go.RowKit
set_option linter.unusedVariables false
set_option linter.unusedSimpArgs false
set_option maxRecDepth 100000

theorem Fp.below {w w' : World} (h : Fp0 w w') : Below w.heap.size w w' := ⟨h.os, h.tape, h.output, h.size, fun k hk => h.block k hk id⟩
theorem spec_calls {P : Program} {G M : Mm} {f : Nat} {fn : Func} {c : Code} {args : List SV} {r0 : SV} {β : Nat → Nat} {w : World} (hf : P.funcs[f]? = some fn) (hb : fn.body = some c) (hn : (fn.name == "runtime.NumGoroutine") = false) (hS : Spec P G f args M (fun r _ => r = r0)) (hR : Rel G β M w) (ha : SV.wf.wfs M.length args = true) (hro : ∀ (k : Nat) (e : Ent), M[k]? = some e → e.rw = false) (hr : r0.wf M.length = true) : Calls P f (vals β args).toArray w (fun e w' => e = .returned (val β r0) ∧ Fp0 w w') := by
  rcases hS β w hR ha with ⟨v, W', h2, -⟩ | ⟨-, h⟩
  · rw [enter_run hf hb hn] at h2; cases h2
  · refine h.mono fun e W' hh => ?_
    obtain ⟨v, rfl, β', M', r, hE, hR', ⟨hw, rfl⟩, rfl⟩ := hh
    refine ⟨by rw [val_agree hE.agree r hr], hE.fp.mono fun k _ hk => ?_⟩
    obtain ⟨j, e, he, hr, -⟩ := hk
    rw [hro j e he] at hr; cases hr
theorem g_ro : ∀ (k : Nat) (e : Ent), G[k]? = some e → e.rw = false := fun k e he => by
  match k, he with
  | 0, he => obtain rfl := Option.some.inj he; rfl
  | 1, he => obtain rfl := Option.some.inj he; rfl
  | k + 2, he => cases he
theorem bts_len (s : ByteArray) : (bts s).length = s.data.toList.length := List.length_map ..
theorem byte_of {n : Int} (h : (Lit.int .u8 n).wf = true) : (((BitVec.ofInt 8 n).toNat : Nat) : Int) = n := by
  have h2 : IntKind.u8.min ≤ n ∧ n ≤ IntKind.u8.max := by simpa [Lit.wf] using h
  have e1 : IntKind.u8.min = 0 := by decide
  have e2 : IntKind.u8.max = 255 := by decide
  rw [e1, e2] at h2
  exact ofInt_toNat (inU_iff.2 ⟨h2.1, by have : (2 : Int) ^ 8 = 256 := by decide
                                         omega⟩)
theorem calls3 (k s : ByteArray) (n : Int) (h1 : k.data.toList.length ≤ 140737488355328) (h2 : s.data.toList.length ≤ 140737488355328) {W : World} (hR : Rel G (fun k => k) G W) : Calls Tryd.prog 3 #[.string k, .string s, .int .i64 n] W (fun e W' => e = .returned (.bool true) ∧ Fp0 W W') := by
  have := spec_calls (f := 3) (fn := Tryd.f3) Tryd.func3 rfl (by kernel_rfl) (law3 (bts k) (bts s) n (by rw [bts_len]; exact h1) (by rw [bts_len]; exact h2)) hR rfl g_ro rfl
  have e : (vals (fun k => k) [SV.s (bts k), SV.s (bts s), SV.i n]).toArray = #[Value.string k, Value.string s, Value.int .i64 n] := by simp [vals, val, txt_bts]
  rw [e] at this
  exact this
theorem calls4 (k s c : ByteArray) (n : Int) (h1 : k.data.toList.length ≤ 140737488355328) (h2 : s.data.toList.length ≤ 140737488355328) (h3 : c.data.toList.length ≤ 140737488355328) {W : World} (hR : Rel G (fun k => k) G W) : Calls Tryd.prog 4 #[.string k, .string s, .string c, .int .i64 n] W (fun e W' => e = .returned (.bool true) ∧ Fp0 W W') := by
  have := spec_calls (f := 4) (fn := Tryd.f4) Tryd.func4 rfl (by kernel_rfl) (law4 (bts k) (bts s) (bts c) n (by rw [bts_len]; exact h1) (by rw [bts_len]; exact h2) (by rw [bts_len]; exact h3)) hR rfl g_ro rfl
  have e : (vals (fun k => k) [SV.s (bts k), SV.s (bts s), SV.s (bts c), SV.i n]).toArray = #[Value.string k, Value.string s, Value.string c, Value.int .i64 n] := by simp [vals, val, txt_bts]
  rw [e] at this
  exact this
theorem calls5 (k s : ByteArray) (n m : Int) (hn : (Lit.int .u8 n).wf = true) (hm : (Lit.int .u8 m).wf = true) (h1 : k.data.toList.length ≤ 140737488355328) (h2 : s.data.toList.length ≤ 140737488355328) {W : World} (hR : Rel G (fun k => k) G W) : Calls Tryd.prog 5 #[.string k, .string s, .int .u8 n, .int .u8 m] W (fun e W' => e = .returned (.bool true) ∧ Fp0 W W') := by
  have := spec_calls (f := 5) (fn := Tryd.f5) Tryd.func5 rfl (by kernel_rfl) (law5 (bts k) (bts s) (BitVec.ofInt 8 n) (BitVec.ofInt 8 m) (by rw [bts_len]; exact h1) (by rw [bts_len]; exact h2)) hR rfl g_ro rfl
  have e : (vals (fun k => k) [SV.s (bts k), SV.s (bts s), SV.w8 (BitVec.ofInt 8 n), SV.w8 (BitVec.ofInt 8 m)]).toArray = #[Value.string k, Value.string s, Value.int .u8 n, Value.int .u8 m] := by
    simp only [vals, val, txt_bts, c8, byte_of hn, byte_of hm]
  rw [e] at this
  exact this
end Go.Proofs.YtmalnjdacmlcdaaDoor
namespace Go.Proofs.YtmalnjdacmlcdaaDoor
open Go.ChangeShapes Go.WideShapes Go.RowKit
set_option linter.unusedVariables false
set_option maxRecDepth 100000

abbrev laidS : List (String × DataW Unit) := Rows.hkdfKeysRow.laid
theorem Tryd.ownN : ownKnob Tryd.prog.godebug = none := by kernel_rfl
theorem gBegin : Tryd.prog.globalNamed (laidS.map Prod.fst)[1]! = some 0 := by kernel_rfl
theorem gConst : Tryd.prog.globalNamed (laidS.map Prod.fst)[2]! = some 1 := by kernel_rfl
theorem tBegin : (Tryd.prog.globals[0]?).map (·.type) = some 72 := by kernel_rfl
theorem tConst : (Tryd.prog.globals[1]?).map (·.type) = some 66 := by kernel_rfl
theorem cells57 : Tryd.prog.cellsOf 57 = 1 := by kernel_rfl
/-- The numbers of words. -/
def nums (l : List (BitVec 32)) : List Int := l.map fun x => ((x.toNat : Nat) : Int)
theorem nums_c (l : List (BitVec 32)) : (nums l).map (Value.int .u32 ·) = l.map c32 := by
  unfold nums
  rw [List.map_map]
  rfl
theorem laidBegin : (Rows.laid_pharos_sum_begin : DataW Unit) = .agg ((nums H0).map fun m => .lit (.int .u32 m)) := by kernel_rfl
theorem laidConst : (Rows.laid_pharos_sum_constants : DataW Unit) = .agg ((nums K64).map fun m => .lit (.int .u32 m)) := by kernel_rfl
theorem int_of_trod {H : Type} {enc : TypeId × Value → H} {P : Program} {w : World} {base : Nat} {sp : Nat → Bool} {held : Bool} {fuel : Nat} {t : TypeId} {k : IntKind} {c : Value} {y : DataW H × List MemPlace}
    (ht : P.underlying t = some (.int k)) (h : DataW.trod enc P w base sp held fuel t [c] = some y) : ∃ n, c = .int k n ∧ y = (.lit (.int k n), []) := by
  cases fuel with
  | zero => simp [DataW.trod] at h
  | succ fuel =>
    cases c <;> simp [DataW.trod, ht] at h
    rename_i k' n
    obtain ⟨⟨rfl, _⟩, rfl⟩ := h
    exact ⟨n, rfl, rfl⟩
theorem cells_of_arr {H : Type} {enc : TypeId × Value → H} {P : Program} {w : World} {base : Nat} {sp : Nat → Bool} {held : Bool} {fuel n : Nat} {t e : TypeId} {k : IntKind} {cs : List Value} {ms : List Int} {p : List MemPlace} (ht : P.underlying t = some (.array n e)) (he : P.underlying e = some (.int k)) (hc : P.cellsOf e = 1) (hn : P.cellsOf t = n)
    (hd : DataW.trod enc P w base sp held fuel t cs = some (.agg (ms.map fun m => .lit (.int k m)), p)) : cs = ms.map (Value.int k ·) := by
  obtain ⟨xs, m, rfl, hx, hl, hxl, hall⟩ := DataW.trod_array ht hd
  simp only [Prod.mk.injEq, DataW.agg.injEq] at hx
  obtain ⟨hx, -⟩ := hx
  rw [hn] at hl
  have hml : ms.length = n := by
    have := congrArg List.length hx
    simpa [hxl] using this
  apply List.ext_getElem?
  intro i
  rcases Nat.lt_or_ge i n with q | q
  · have h1 := hall i q
    rw [hc, Nat.mul_one] at h1
    have hcs : (cs.drop i).take 1 = [cs[i]] := by
      rw [List.drop_eq_getElem_cons (by omega)]
      rfl
    rw [hcs, List.getElem?_eq_getElem (by omega)] at h1
    obtain ⟨v, e1, e2⟩ := int_of_trod he h1
    have h2 : (ms.map fun m => (DataW.lit (.int k m) : DataW H))[i]? = (xs.map (·.1))[i]? := by rw [hx]
    rw [List.getElem?_map, List.getElem?_map, List.getElem?_eq_getElem (by omega : i < ms.length), List.getElem?_eq_getElem (by omega : i < xs.length), e2] at h2
    simp only [Option.map_some, Option.some.injEq, DataW.lit.injEq, Lit.int.injEq, true_and] at h2
    rw [List.getElem?_eq_getElem (by omega : i < cs.length), e1, List.getElem?_map, List.getElem?_eq_getElem (by omega : i < ms.length), h2]
    rfl
  · rw [List.getElem?_eq_none (by omega), List.getElem?_eq_none (by rw [List.length_map]; omega)]
theorem lt_of_cell {w : World} {b j : Nat} {v : Value} (h : w.cell? ⟨b, j, none⟩ = some v) : b < w.heap.size := by
  unfold World.cell? at h
  rcases Nat.lt_or_ge b w.heap.size with q | q
  · exact q
  · rw [Array.getElem?_eq_none q] at h
    cases h
theorem holds_ro {w : World} {b : Nat} {cs : Array Value} {l : List (BitVec 32)} (hne : l ≠ []) (hcs : cs.toList = l.map c32) (h : ∀ i, w.cell? ⟨b, i, none⟩ = cs[i]?) : Holds w b false (l.map c32) := by
  have hc : ∀ (j : Nat) (v : Value), (l.map c32)[j]? = some v → w.cell? ⟨b, j, none⟩ = some v := fun j v hv => by
    rw [h j, ← Array.getElem?_toList, hcs]; exact hv
  obtain ⟨x, m, rfl⟩ : ∃ x m, l = x :: m := by
    cases l with
    | nil => exact absurd rfl hne
    | cons x m => exact ⟨x, m, rfl⟩
  exact ⟨lt_of_cell (hc 0 _ rfl), hc, (fun h => nomatch h), fun s hs => nomatch hs⟩
theorem rel_of_laid {W : World} (h : laidMetH Tryd.prog laidS W) : Rel G (fun k => k) G W := by
  have h0 : laidMet Tryd.prog laidS W := h
  have h' := laidMet.tail h0
  obtain ⟨ps, ⟨g, t, cs, fuel, p, q, hg, ht, hvar, hd, ⟨g2, t2, cs2, fuel2, p2, q2, hg2, ht2, hvar2, hd2, _, _⟩, _⟩, _⟩ := h'
  obtain rfl := Option.some.inj (gBegin.symm.trans hg)
  obtain rfl := Option.some.inj (tBegin.symm.trans ht)
  obtain rfl := Option.some.inj (gConst.symm.trans hg2)
  obtain rfl := Option.some.inj (tConst.symm.trans ht2)
  rw [laidBegin] at hd
  rw [laidConst] at hd2
  have e1 := cells_of_arr Tryd.underlying72 Tryd.underlying57 cells57 (by kernel_rfl) hd
  have e2 := cells_of_arr Tryd.underlying66 Tryd.underlying57 cells57 (by kernel_rfl) hd2
  rw [nums_c] at e1 e2
  have h0 : Holds W 0 false (H0.map c32) := holds_ro (by decide) e1 (World.var?_cell hg hvar)
  have h1 : Holds W 1 false (K64.map c32) := holds_ro (by decide) e2 (World.var?_cell hg2 hvar2)
  refine ⟨fun k e he hc => ?_, fun i j x y hx hy hij hr => ?_, fun _ _ => rfl, Nat.le_refl _, fun _ _ => rfl, fun k e he => ?_, fun k e he => ?_⟩
  · match k, he with
    | 0, he => obtain rfl := Option.some.inj he; exact h0
    | 1, he => obtain rfl := Option.some.inj he; exact h1
    | k + 2, he => cases he
  · match i, hx with
    | 0, hx => obtain rfl := Option.some.inj hx; cases hr
    | 1, hx => obtain rfl := Option.some.inj hx; cases hr
    | k + 2, hx => cases hx
  · match k, he with
    | 0, he => obtain rfl := Option.some.inj he; exact ⟨rfl, rfl⟩
    | 1, he => obtain rfl := Option.some.inj he; exact ⟨rfl, rfl⟩
    | k + 2, he => cases he
  · match k, he with
    | 0, he => obtain rfl := Option.some.inj he; rfl
    | 1, he => obtain rfl := Option.some.inj he; rfl
    | k + 2, he => cases he
def cellsH : Array Value := (H0.map c32).toArray
def cellsK : Array Value := (K64.map c32).toArray
def errS : ByteArray := ⟨#[98, 121, 116, 101, 115, 46, 66, 117, 102, 102, 101, 114, 58, 32, 116, 111, 111, 32, 108, 97, 114, 103, 101]⟩
def lowE (P : Program) (os : Os) : Nat := (World.holding P os ⟨#[], #[], []⟩).heap.size
def wrld (P : Program) (os : Os) : World := { World.holding P os ⟨#[.cells #[.string errS] 109], #[], []⟩ with heap := (((World.holding P os ⟨#[.cells #[.string errS] 109], #[], []⟩).heap.modify 0 (fun | .cells _ t frozen => .cells cellsH t frozen | o => o)).modify 1 (fun | .cells _ t frozen => .cells cellsK t frozen | o => o)).modify 2 (fun | .cells _ t frozen => .cells #[.iface 95 (.pointer (some ⟨lowE P os, 0, none⟩))] t frozen | o => o) }
theorem world_met (os : Os) (args : Array Value) : laidMetH Tryd.prog laidS ((wrld Tryd.prog os).forCall (fun _ _ => 0) ⟨#[], args, []⟩).memory :=
  laidMet_of_run' 8 (by kernel_rfl) (by kernel_rfl)
end Go.Proofs.YtmalnjdacmlcdaaDoor
