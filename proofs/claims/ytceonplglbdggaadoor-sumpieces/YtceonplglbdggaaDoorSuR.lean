/-
  sum: the call of the law of texts cut anyhow. No statement is proved here.
-/
import Derived.Test.YtceonplglbdggaaDoorSuO
import Derived.Test.YtceonplglbdggaaDoorSuQ
import Derived.SliceStrings
import Derived.SizedLaws
namespace Go.Proofs.YtceonplglbdggaaDoor
open Go.RowKit Go.ChangeShapes
set_option linter.unusedVariables false
set_option linter.unusedSimpArgs false
set_option maxRecDepth 100000

theorem strs_weights {H : Type} {P : Program} {e : TypeId} : ∀ (ss : List ByteArray) (s : ByteArray), s ∈ ss → s.data.toList.length ∈ DataW.weightsAll (H := H) P e (strs ss)
  | [], s, h => by cases h
  | a :: r, s, h => by
    show s.data.toList.length ∈ DataW.weights P e (.lit (.string a.data.toList)) ++ DataW.weightsAll (H := H) P e (strs r)
    rw [List.mem_append]
    rcases List.mem_cons.1 h with rfl | h
    · exact .inl (by simp [DataW.weights])
    · exact .inr (strs_weights r s h)
theorem okS_of {ss : List ByteArray} (h : ∀ s, s ∈ ss → s.data.toList.length ≤ 140737488355328) : okS (ss.map bts) = true := by
  unfold okS
  rw [List.all_eq_true]
  intro x hx
  obtain ⟨s, hs, rfl⟩ := List.mem_map.1 hx
  exact Nat.ble_eq_true_of_le (by rw [bts_len]; exact h s hs)
theorem b7_ro (pre : List Value) (l : List (List (BitVec 8))) : ∀ (k : Nat) (e : Ent), (B7 pre l)[k]? = some e → e.rw = false := fun k e he => by
  match k, he with
  | 0, he => obtain rfl := Option.some.inj he; rfl
  | 1, he => obtain rfl := Option.some.inj he; rfl
  | 2, he => obtain rfl := Option.some.inj he; rfl
  | k + 3, he => cases he
theorem cells9 : Tryd.prog.cellsOf 9 = 1 := by kernel_rfl
theorem vals5 (a : SV) (x : BitVec 64) (o : ByteArray) (β : Nat → Nat) : (vals β [a, SV.w64 x, SV.s (bts o)]).toArray = #[val β a, .int .u64 ((x.toNat : Nat) : Int), .string o] := by simp [vals, val, txt_bts, c64]
theorem zero5 (d : Option Addr) (c : Nat) (x : BitVec 64) (o : ByteArray) (ho : o.data.toList.length ≤ 140737488355328) {W : World} (hR : Rel G (fun k => k) G W) : Calls Tryd.prog 5 #[.slice d 0 c, .int .u64 ((x.toNat : Nat) : Int), .string o] W (fun e W' => e = .returned (.bool true) ∧ Fp0 W W') := by
  have := spec_calls (f := 5) (fn := Tryd.f5) Tryd.func5 rfl (by kernel_rfl) (law5z d c x (bts o) (by rw [bts_len]; exact ho)) hR rfl g_ro rfl
  rw [vals5] at this
  exact this
theorem calls5 (x : BitVec 64) (z : ByteArray) (ho : z.data.toList.length ≤ 140737488355328) {H : Type} {enc : TypeId × Value → H} {W : World} {v : Value} {d : DataW H} {ps : List MemPlace} (hR : Rel G (fun k => k) G W) (hv : ∃ a len cap, v = .slice a len cap) (h : DataW.Trod enc Tryd.prog W 0 (fun _ => true) true 28 v d ps) (hz : ∀ n ∈ d.weights Tryd.prog 28, n ≤ 140737488355328) : Calls Tryd.prog 5 #[v, .int .u64 ((x.toNat : Nat) : Int), .string z] W (fun e W' => e = .returned (.bool true) ∧ Fp0 W W') := by
  obtain ⟨a0, len0, cap0, rfl⟩ := hv
  obtain ⟨fuel, hf⟩ := h
  rcases open_strings Tryd.underlying28 Tryd.underlying9 cells9 hf with ⟨hcs, _⟩ | ⟨a, len, cap, ss, hcs, _, hl, hm, hss, hxd, hcell, _⟩
  · simp [Value.cells] at hcs
    obtain ⟨rfl, rfl, rfl⟩ := hcs
    exact zero5 none 0 x z ho hR
  · simp [Value.cells] at hcs
    obtain ⟨rfl, rfl, rfl⟩ := hcs
    rw [if_pos rfl] at hss
    rcases Nat.eq_zero_or_pos len0 with h0 | h0
    · subst h0
      exact zero5 (some a) cap0 x z ho hR
    · obtain ⟨b, o, spot⟩ := a
      have c0 := hcell 0 (by omega)
      have hspot : spot = none := World.cell?_spot (show W.cell? ⟨b, o + 0, spot⟩ = _ from c0)
      subst hspot
      have cell : ∀ i, i < cap0 → W.cell? ⟨b, o + i, none⟩ = some (.string (ss.getD i ByteArray.empty)) := fun i hi => by
        have := hcell i (by omega)
        rw [Go.WideShapes.add_plain] at this
        exact this
      -- the cells ahead of the slice
      obtain ⟨cs, t, fr, hb⟩ : ∃ cs t fr, W.heap[b]? = some (.cells cs t fr) := by
        have := cell 0 (by omega)
        unfold World.cell? at this
        split at this
        · rename_i cs t fr e; exact ⟨cs, t, fr, e⟩
        · cases this
      have at' : ∀ j, W.cell? ⟨b, j, none⟩ = cs[j]? := fun j => by simp [World.cell?, hb]
      have hsz : o < cs.size := by
        have := cell 0 (by omega)
        rw [at', Nat.add_zero] at this
        exact (Array.getElem?_eq_some_iff.1 this).1
      have hpl : (cs.toList.take o).length = o := by rw [List.length_take, Array.length_toList]; omega
      have hh : Holds W b false ((Cont.strs (cs.toList.take o) (ss.map bts)).cells (fun k => k)) := by
        refine ⟨?_, fun j v hv => ?_, fun h => nomatch h⟩
        · rcases Nat.lt_or_ge b W.heap.size with q | q
          · exact q
          · rw [Array.getElem?_eq_none q] at hb; cases hb
        · simp only [Cont.cells] at hv
          rcases Nat.lt_or_ge j o with q | q
          · rw [List.getElem?_append_left (by omega), List.getElem?_take_of_lt q, Array.getElem?_toList] at hv
            rw [at']; exact hv
          · rw [List.getElem?_append_right (by omega), hpl, List.map_map, List.getElem?_map] at hv
            cases hs : ss[j - o]? with
            | none => rw [hs] at hv; cases hv
            | some s =>
              rw [hs] at hv
              have hlt := lt_of_get hs
              have := cell (j - o) (by omega)
              rw [show o + (j - o) = j by omega, List.getD_eq_getElem?_getD, hs] at this
              rw [this, ← Option.some.inj hv]
              simp [txt_bts]
      have hR2 := hR.ro_more (x := .strs (cs.toList.take o) (ss.map bts)) rfl hh
      have hmax : maxLen = 9223372036854775807 := by decide
      obtain rfl : d = _ := congrArg Prod.fst hxd
      have hw : DataW.weights Tryd.prog 28 (DataW.slice (strs (H := H) (ss.take len0)) (strs (ss.drop len0))) = ((strs (H := H) (ss.take len0)).length + (strs (H := H) (ss.drop len0)).length) * Tryd.prog.bytesOf 9 :: (DataW.weightsAll Tryd.prog 9 (strs (H := H) (ss.take len0)) ++ DataW.weightsAll Tryd.prog 9 (strs (H := H) (ss.drop len0))) := by
        simp only [DataW.weights, Tryd.underlying28]
      have hlen : len0 ≤ 140737488355328 := by
        have q := hz _ (by rw [hw]; exact List.mem_cons_self)
        have e1 : (strs (H := H) (ss.take len0)).length = len0 := by unfold strs; rw [List.length_map, List.length_take]; omega
        rw [e1, show Tryd.prog.bytesOf 9 = 16 by kernel_rfl] at q
        omega
      have hok : okS (((ss.map bts).drop (o - (cs.toList.take o).length)).take len0) = true := by
        rw [hpl, Nat.sub_self, List.drop_zero, ← List.map_take]
        refine okS_of fun s hs => hz _ ?_
        rw [hw]
        exact List.mem_cons_of_mem _ (List.mem_append_left _ (strs_weights _ s hs))
      have := spec_calls (f := 5) (fn := Tryd.f5) (M := B7 (cs.toList.take o) (ss.map bts)) Tryd.func5 rfl (by kernel_rfl) (law5 (cs.toList.take o) (ss.map bts) o len0 cap0 x (bts z) (by omega) (by rw [List.length_map]; omega) (by omega) hok (by rw [bts_len]; exact ho)) hR2 rfl (b7_ro _ _) rfl
      rw [vals5] at this
      exact this
end Go.Proofs.YtceonplglbdggaaDoor
