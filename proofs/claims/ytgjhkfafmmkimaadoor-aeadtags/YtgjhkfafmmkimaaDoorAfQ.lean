/-
  aead: the laws' calls. No statement is proved here.
-/
import Derived.Test.YtgjhkfafmmkimaaDoorAfR
import Derived.Test.YtgjhkfafmmkimaaDoorAeA
import Derived.ChangeSame
import Derived.ChangeVars
import Derived.JoinedOf
import Derived.RowKit
import Derived.LaidLaws
import Derived.OpenShut
import Derived.ChangeMaps5
import Derived.Stop.Joined
import Derived.Stop.LaidErr
namespace Go.Proofs.YtgjhkfafmmkimaaDoor
open Go.RowKit
set_option linter.unusedVariables false
set_option linter.unusedSimpArgs false
set_option maxRecDepth 100000

theorem Fp.below {w w' : World} (h : Fp0 w w') : Below w.heap.size w w' := ⟨h.os, h.tape, h.output, h.size, fun k hk => h.block k hk id⟩
/-- A call of a function that reads alone. -/
theorem pok_calls {P : Program} {G : Mm} {f : Nat} {fn : Func} {c : Code} {ct : List SV → List Cont → Option (Bool × SV)} {args : List SV} {r : SV} {w : World} (hf : P.funcs[f]? = some fn) (hb : fn.body = some c) (hn : (fn.name == "runtime.NumGoroutine") = false) (h : POk P G f ct) (hc : ct args (args.map (tgt G)) = some (true, r)) (ha : SV.wf.wfs G.length args = true) (hR : Rel G (fun k => k) G w) : Calls P f (vals (fun k => k) args).toArray w (fun e w' => e = .returned (val (fun k => k) r) ∧ Fp0 w w') := by
  rcases h args _ r hc (fun k => k) G w hR ha rfl with ⟨v, W', h2, -⟩ | ⟨-, h⟩
  · rw [enter_run hf hb hn] at h2; cases h2
  · refine h.mono fun e W' hh => ?_
    obtain ⟨v, rfl, rfl, hF⟩ := hh
    exact ⟨rfl, hF⟩
theorem bts_len (s : ByteArray) : (bts s).length = s.data.toList.length := List.length_map ..
theorem lng_of {s : ByteArray} (h : s.data.toList.length ≤ 140737488355328) : lng (bts s) = true := Nat.ble_eq_true_of_le (by rw [bts_len]; exact h)
theorem byte_of {n : Int} (h : (Lit.int .u8 n).wf = true) : (((BitVec.ofInt 8 n).toNat : Nat) : Int) = n := by
  have h2 : IntKind.u8.min ≤ n ∧ n ≤ IntKind.u8.max := by simpa [Lit.wf] using h
  have e1 : IntKind.u8.min = 0 := by decide
  have e2 : IntKind.u8.max = 255 := by decide
  rw [e1, e2] at h2
  exact ofInt_toNat (inU_iff.2 ⟨h2.1, by have : (2 : Int) ^ 8 = 256 := by decide
                                         omega⟩)
theorem word_of {n : Int} (h : (Lit.int .u32 n).wf = true) : (((BitVec.ofInt 32 n).toNat : Nat) : Int) = n := by
  have h2 : IntKind.u32.min ≤ n ∧ n ≤ IntKind.u32.max := by simpa [Lit.wf] using h
  have e1 : IntKind.u32.min = 0 := by decide
  have e2 : IntKind.u32.max = 4294967295 := by decide
  rw [e1, e2] at h2
  exact ofInt_toNat (inU_iff.2 ⟨h2.1, by have : (2 : Int) ^ 32 = 4294967296 := by decide
                                         omega⟩)
theorem calls3 (k s : ByteArray) (n : Int) (hn : (Lit.int .u32 n).wf = true) (h1 : k.data.toList.length ≤ 140737488355328) (h2 : s.data.toList.length ≤ 140737488355328) {W : World} (hR : Rel G (fun k => k) G W) : Calls Tryd.prog 3 #[.string k, .string s, .int .u32 n] W (fun e W' => e = .returned (.bool true) ∧ Fp0 W W') := by
  have := pok_calls (f := 3) (fn := Tryd.f3) Tryd.func3 rfl (by kernel_rfl) (blocks_ok ae_ok) (args := [.s (bts k), .s (bts s), .w32 (BitVec.ofInt 32 n)]) (r := .b true) (by show some (lng (bts k) && lng (bts s), SV.b true) = _; rw [lng_of h1, lng_of h2]; rfl) rfl hR
  have e : (vals (fun k => k) [SV.s (bts k), SV.s (bts s), SV.w32 (BitVec.ofInt 32 n)]).toArray = #[Value.string k, Value.string s, Value.int .u32 n] := by simp only [vals, val, txt_bts, c32, word_of hn]
  rw [e] at this
  exact this
theorem calls4 (k s o : ByteArray) (h1 : k.data.toList.length ≤ 140737488355328) (h2 : s.data.toList.length ≤ 140737488355328) (h3 : o.data.toList.length ≤ 140737488355328) {W : World} (hR : Rel G (fun k => k) G W) : Calls Tryd.prog 4 #[.string k, .string s, .string o] W (fun e W' => e = .returned (.bool true) ∧ Fp0 W W') := by
  have := pok_calls (f := 4) (fn := Tryd.f4) Tryd.func4 rfl (by kernel_rfl) tags_ok (args := [.s (bts k), .s (bts s), .s (bts o)]) (r := .b true) (by show some (lng (bts k) && (lng (bts s) && lng (bts o)), SV.b true) = _; rw [lng_of h1, lng_of h2, lng_of h3]; rfl) rfl hR
  have e : (vals (fun k => k) [SV.s (bts k), SV.s (bts s), SV.s (bts o)]).toArray = #[Value.string k, Value.string s, Value.string o] := by simp only [vals, val, txt_bts]
  rw [e] at this
  exact this
theorem calls5 (k : ByteArray) (n : Int) (s : ByteArray) (hn : (Lit.int .u8 n).wf = true) (h1 : k.data.toList.length ≤ 140737488355328) (h2 : s.data.toList.length ≤ 140737488355328) {W : World} (hR : Rel G (fun k => k) G W) : Calls Tryd.prog 5 #[.string k, .int .u8 n, .string s] W (fun e W' => e = .returned (.bool true) ∧ Fp0 W W') := by
  have := pok_calls (f := 5) (fn := Tryd.f5) Tryd.func5 rfl (by kernel_rfl) ends_ok (args := [.s (bts k), .w8 (BitVec.ofInt 8 n), .s (bts s)]) (r := .b true) (by show some (lng (bts k) && lng (bts s), SV.b true) = _; rw [lng_of h1, lng_of h2]; rfl) rfl hR
  have e : (vals (fun k => k) [SV.s (bts k), SV.w8 (BitVec.ofInt 8 n), SV.s (bts s)]).toArray = #[Value.string k, Value.int .u8 n, Value.string s] := by simp only [vals, val, txt_bts, c8, byte_of hn]
  rw [e] at this
  exact this
theorem calls6 (k s a o : ByteArray) (h1 : k.data.toList.length ≤ 140737488355328) (h2 : s.data.toList.length ≤ 140737488355328) (h3 : a.data.toList.length ≤ 140737488355328) (h4 : o.data.toList.length ≤ 140737488355328) {W : World} (hR : Rel G (fun k => k) G W) : Calls Tryd.prog 6 #[.string k, .string s, .string a, .string o] W (fun e W' => e = .returned (.bool true) ∧ Fp0 W W') := by
  have := pok_calls (f := 6) (fn := Tryd.f6) Tryd.func6 rfl (by kernel_rfl) (seals_ok ae_ok) (args := [.s (bts k), .s (bts s), .s (bts a), .s (bts o)]) (r := .b true) (by show some (lng (bts k) && (lng (bts s) && (lng (bts a) && lng (bts o))), SV.b true) = _; rw [lng_of h1, lng_of h2, lng_of h3, lng_of h4]; rfl) rfl hR
  have e : (vals (fun k => k) [SV.s (bts k), SV.s (bts s), SV.s (bts a), SV.s (bts o)]).toArray = #[Value.string k, Value.string s, Value.string a, Value.string o] := by simp only [vals, val, txt_bts]
  rw [e] at this
  exact this
theorem calls7 (n : Int) (b : Bool) (hn : (Lit.int .i8 n).wf = true) {W : World} (hR : Rel G (fun k => k) G W) : Calls Tryd.prog 7 #[.int .i8 n, .bool b] W (fun e W' => e = .returned (.bool true) ∧ Fp0 W W') := by
  have h2 : IntKind.i8.min ≤ n ∧ n ≤ IntKind.i8.max := by simpa [Lit.wf] using hn
  have e1 : IntKind.i8.min = -128 := by decide
  have e2 : IntKind.i8.max = 127 := by decide
  rw [e1, e2] at h2
  have := pok_calls (f := 7) (fn := Tryd.f7) Tryd.func7 rfl (by kernel_rfl) long_ok (args := [.v (.int .i8 n), .b b]) (r := .b true) (by show some (ile (-128) n && ile n 127, SV.b true) = _; rw [ile_eq, ile_eq, decide_eq_true h2.1, decide_eq_true h2.2]; rfl) rfl hR
  exact this
theorem calls8 (k s a o : ByteArray) (n m : Int) (hm : (Lit.int .u8 m).wf = true) (h1 : k.data.toList.length ≤ 140737488355328) (h2 : s.data.toList.length ≤ 140737488355328) (h3 : a.data.toList.length ≤ 140737488355328) (h4 : o.data.toList.length ≤ 140737488355328) {W : World} (hR : Rel G (fun k => k) G W) : Calls Tryd.prog 8 #[.string k, .string s, .string a, .string o, .int .i64 n, .int .u8 m] W (fun e W' => e = .returned (.bool true) ∧ Fp0 W W') := by
  have := pok_calls (f := 8) (fn := Tryd.f8) Tryd.func8 rfl (by kernel_rfl) back_ok8 (args := [.s (bts k), .s (bts s), .s (bts a), .s (bts o), .i n, .w8 (BitVec.ofInt 8 m)]) (r := .b true) (by show some (lng (bts k) && (lng (bts s) && (lng (bts a) && lng (bts o))), SV.b true) = _; rw [lng_of h1, lng_of h2, lng_of h3, lng_of h4]; rfl) rfl hR
  have e : (vals (fun k => k) [SV.s (bts k), SV.s (bts s), SV.s (bts a), SV.s (bts o), SV.i n, SV.w8 (BitVec.ofInt 8 m)]).toArray = #[Value.string k, Value.string s, Value.string a, Value.string o, Value.int .i64 n, Value.int .u8 m] := by simp only [vals, val, txt_bts, c8, byte_of hm]
  rw [e] at this
  exact this
end Go.Proofs.YtgjhkfafmmkimaaDoor
namespace Go.Proofs.YtgjhkfafmmkimaaDoor
open Go.ChangeShapes Go.WideShapes Go.RowKit
set_option linter.unusedVariables false
set_option maxRecDepth 100000

abbrev laidS : List (String × DataW Unit) := Rows.aeadBlocksRow.laid
theorem Tryd.ownN : ownKnob Tryd.prog.godebug = none := by kernel_rfl
theorem gRows : Tryd.prog.globalNamed (laidS.map Prod.fst)[0]! = some 0 := by kernel_rfl
theorem tRows : (Tryd.prog.globals[0]?).map (·.type) = some 76 := by kernel_rfl
theorem cells3 : Tryd.prog.cellsOf 3 = 1 := by kernel_rfl
theorem cells75 : Tryd.prog.cellsOf 75 = 4 := by kernel_rfl
theorem cells76 : Tryd.prog.cellsOf 76 = 32 := by kernel_rfl
/-- Row by row. -/
def rowI (i : Nat) : List Int := (MX.drop (4 * i)).take 4
theorem laidRows : (Rows.laid_pharos_aead_rows : DataW Unit) = .agg ((List.range 8).map fun i => .agg ((rowI i).map fun m => .lit (.int .i64 m))) := by kernel_rfl
theorem int_of_trod {H : Type} {enc : TypeId × Value → H} {P : Program} {w : World} {base : Nat} {sp : Nat → Bool} {held : Bool} {fuel : Nat} {t : TypeId} {k : IntKind} {c : Value} {y : DataW H × List MemPlace}
    (ht : P.underlying t = some (.int k)) (h : DataW.trod enc P w base sp held fuel t [c] = some y) : ∃ n, c = .int k n ∧ y = (.lit (.int k n), []) := by
  cases fuel with
  | zero => simp [DataW.trod] at h
  | succ fuel =>
    cases c <;> simp [DataW.trod, ht] at h
    rename_i k' n
    obtain ⟨⟨rfl, _⟩, rfl⟩ := h
    exact ⟨n, rfl, rfl⟩
theorem cells_of_arr {H : Type} {enc : TypeId × Value → H} {P : Program} {w : World} {base : Nat} {sp : Nat → Bool} {held : Bool} {fuel n : Nat} {t e : TypeId} {k : IntKind} {cs : List Value} {ms : List Int} {p : List MemPlace} (ht : P.underlying t = some (.array n e)) (he : P.underlying e = some (.int k)) (hc : P.cellsOf e = 1) (hn : P.cellsOf t = n)
    (hd : DataW.trod enc P w base sp held fuel t cs = some (.agg (ms.map fun m => .lit (.int k m)), p)) : cs = ms.map (Value.int k ·) := by
  obtain ⟨xs, m, rfl, hx, hl, hxl, hall⟩ := DataW.trod_array ht hd
  simp only [Prod.mk.injEq, DataW.agg.injEq] at hx
  obtain ⟨hx, -⟩ := hx
  rw [hn] at hl
  have hml : ms.length = n := by
    have := congrArg List.length hx
    simpa [hxl] using this
  apply List.ext_getElem?
  intro i
  rcases Nat.lt_or_ge i n with q | q
  · have h1 := hall i q
    rw [hc, Nat.mul_one] at h1
    have hcs : (cs.drop i).take 1 = [cs[i]] := by
      rw [List.drop_eq_getElem_cons (by omega)]
      rfl
    rw [hcs, List.getElem?_eq_getElem (by omega)] at h1
    obtain ⟨v, e1, e2⟩ := int_of_trod he h1
    have h2 : (ms.map fun m => (DataW.lit (.int k m) : DataW H))[i]? = (xs.map (·.1))[i]? := by rw [hx]
    rw [List.getElem?_map, List.getElem?_map, List.getElem?_eq_getElem (by omega : i < ms.length), List.getElem?_eq_getElem (by omega : i < xs.length), e2] at h2
    simp only [Option.map_some, Option.some.injEq, DataW.lit.injEq, Lit.int.injEq, true_and] at h2
    rw [List.getElem?_eq_getElem (by omega : i < cs.length), e1, List.getElem?_map, List.getElem?_eq_getElem (by omega : i < ms.length), h2]
    rfl
  · rw [List.getElem?_eq_none (by omega), List.getElem?_eq_none (by rw [List.length_map]; omega)]
theorem lt_of_cell {w : World} {b j : Nat} {v : Value} (h : w.cell? ⟨b, j, none⟩ = some v) : b < w.heap.size := by
  unfold World.cell? at h
  rcases Nat.lt_or_ge b w.heap.size with q | q
  · exact q
  · rw [Array.getElem?_eq_none q] at h
    cases h
theorem cells_of_rows {H : Type} {enc : TypeId × Value → H} {w : World} {base : Nat} {sp : Nat → Bool} {held : Bool} {fuel : Nat} {cs : List Value} {p : List MemPlace}
    (hd : DataW.trod enc Tryd.prog w base sp held fuel 76 cs = some (.agg ((List.range 8).map fun i => .agg ((rowI i).map fun m => .lit (.int .i64 m))), p)) : cs = MX.map (Value.int .i64 ·) := by
  obtain ⟨xs, m, rfl, hx, hl, hxl, hall⟩ := DataW.trod_array Tryd.underlying76 hd
  simp only [Prod.mk.injEq, DataW.agg.injEq] at hx
  obtain ⟨hx, -⟩ := hx
  rw [cells76] at hl
  have row : ∀ i, i < 8 → (cs.drop (4 * i)).take 4 = (rowI i).map (Value.int .i64 ·) := fun i hi => by
    have h1 := hall i hi
    rw [cells75, Nat.mul_comm i 4] at h1
    have h2 : ((List.range 8).map fun i => (DataW.agg ((rowI i).map fun m => .lit (.int .i64 m)) : DataW H))[i]? = (xs.map (·.1))[i]? := by rw [hx]
    rw [List.getElem?_map, List.getElem?_map, List.getElem?_range hi, List.getElem?_eq_getElem (by omega : i < xs.length)] at h2
    simp only [Option.map_some, Option.some.injEq] at h2
    rw [List.getElem?_eq_getElem (by omega : i < xs.length)] at h1
    have e : xs[i] = (xs[i].1, xs[i].2) := rfl
    rw [e, ← h2] at h1
    exact cells_of_arr Tryd.underlying75 Tryd.underlying3 cells3 cells75 h1
  have step : ∀ i, i < 8 → cs.drop (4 * i) = (rowI i).map (Value.int .i64 ·) ++ cs.drop (4 * (i + 1)) := fun i hi => by
    rw [← row i hi, show 4 * (i + 1) = 4 * i + 4 by omega, ← List.drop_drop, List.take_append_drop]
  have e8 : cs.drop (4 * 8) = [] := List.drop_eq_nil_of_le (by omega)
  have e0 : cs = cs.drop (4 * 0) := rfl
  rw [e0, step 0 (by decide), step 1 (by decide), step 2 (by decide), step 3 (by decide), step 4 (by decide), step 5 (by decide), step 6 (by decide), step 7 (by decide), e8]
  rfl
theorem rel_of_laid {W : World} (h : laidMetH Tryd.prog laidS W) : Rel G (fun k => k) G W := by
  have h' : laidMet Tryd.prog laidS W := h
  obtain ⟨ps, ⟨g, t, cs, fuel, p, q, hg, ht, hvar, hd, _, _⟩, _⟩ := h'
  obtain rfl := Option.some.inj (gRows.symm.trans hg)
  obtain rfl := Option.some.inj (tRows.symm.trans ht)
  rw [laidRows] at hd
  have e1 := cells_of_rows hd
  have hcell := World.var?_cell hg hvar
  have hc : ∀ (j : Nat) (v : Value), (MX.map (Value.int .i64 ·))[j]? = some v → W.cell? ⟨0, j, none⟩ = some v := fun j v hv => by
    rw [hcell j, ← Array.getElem?_toList, e1]; exact hv
  have h0 : Holds W 0 false (MX.map (Value.int .i64 ·)) := ⟨lt_of_cell (hc 0 _ rfl), hc, (fun h => nomatch h), fun s hs => nomatch hs⟩
  refine ⟨fun k e he hc => ?_, fun i j x y hx hy hij hr => ?_, fun _ _ => rfl, Nat.le_refl _, fun _ _ => rfl, fun k e he => ?_, fun k e he => ?_⟩
  · match k, he with
    | 0, he => obtain rfl := Option.some.inj he; exact h0
    | k + 1, he => cases he
  · match i, hx with
    | 0, hx => obtain rfl := Option.some.inj hx; cases hr
    | k + 1, hx => cases hx
  · match k, he with
    | 0, he => obtain rfl := Option.some.inj he; exact ⟨rfl, rfl⟩
    | k + 1, he => cases he
  · match k, he with
    | 0, he => obtain rfl := Option.some.inj he; rfl
    | k + 1, he => cases he
def cellsX : Array Value := (MX.map (Value.int .i64 ·)).toArray
def wrld (P : Program) (os : Os) : World := { World.holding P os ⟨#[], #[], []⟩ with heap := (World.holding P os ⟨#[], #[], []⟩).heap.modify 0 (fun | .cells _ t frozen => .cells cellsX t frozen | o => o) }
theorem world_met (os : Os) (args : Array Value) : laidMetH Tryd.prog laidS ((wrld Tryd.prog os).forCall (fun _ _ => 0) ⟨#[], args, []⟩).memory :=
  laidMet_of_run' 8 (by kernel_rfl) (by kernel_rfl)
end Go.Proofs.YtgjhkfafmmkimaaDoor
