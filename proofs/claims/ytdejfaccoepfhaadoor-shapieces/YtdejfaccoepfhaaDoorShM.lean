/-
  sha: the call of the law of texts cut anyhow. No statement is proved here.
-/
import Derived.Test.YtdejfaccoepfhaaDoorShK
import Derived.Test.YtdejfaccoepfhaaDoorShL
import Derived.SliceStrings
namespace Go.Proofs.YtdejfaccoepfhaaDoor
open Go.RowKit Go.ChangeShapes
set_option linter.unusedVariables false
set_option linter.unusedSimpArgs false
set_option maxRecDepth 100000

/-- One block more, that is read alone. -/
theorem Rel.ro_more {G : Mm} {β : Nat → Nat} {w : World} (h : Rel G β G w) {b : Nat} {x : Cont} (hx : x.wf G.length = true) (hh : Holds w b false (x.cells β)) : Rel G (upd1 β G.length b) (G ++ [⟨false, x⟩]) w := by
  have ha := upd1_agree β G.length b
  have eb : upd1 β G.length b G.length = b := by unfold upd1; rw [if_pos rfl]
  refine ⟨fun k e he hc => ?_, fun i j p q hp hq hij hr => ?_, fun g hg => by rw [ha g hg]; exact h.glob g hg, by simp, fun k hk => List.getElem?_append_left hk, h.ro, fun k e he => ?_⟩
  · rcases app_get he with ⟨q, hk⟩ | ⟨i, rfl, hi⟩
    · rw [ha k q, cells_agree ha _ (h.wf k e hk)]; exact h.all k e hk hc
    · cases i with
      | zero => obtain rfl := Option.some.inj hi; rw [Nat.add_zero, eb, cells_agree ha _ hx]; exact hh
      | succ i => cases hi
  · rcases app_get hp with ⟨q, hk⟩ | ⟨i', rfl, hi⟩
    · rw [(h.ro i p hk).1] at hr; cases hr
    · cases i' with
      | zero => obtain rfl := Option.some.inj hi; cases hr
      | succ i => cases hi
  · rcases app_get he with ⟨q, hk⟩ | ⟨i, rfl, hi⟩
    · exact cwf_mono (by simp) _ (h.wf k e hk)
    · cases i with
      | zero => obtain rfl := Option.some.inj hi; exact cwf_mono (by simp) _ hx
      | succ i => cases hi
theorem b7_ro (pre : List Value) (l : List (List (BitVec 8))) : ∀ (k : Nat) (e : Ent), (B7 pre l)[k]? = some e → e.rw = false := fun k e he => by
  match k, he with
  | 0, he => obtain rfl := Option.some.inj he; rfl
  | 1, he => obtain rfl := Option.some.inj he; rfl
  | 2, he => obtain rfl := Option.some.inj he; rfl
  | k + 3, he => cases he
theorem cells9 : Tryd.prog.cellsOf 9 = 1 := by kernel_rfl
theorem zero5 (d : Option Addr) (c : Nat) {W : World} (hR : Rel G (fun k => k) G W) : Calls Tryd.prog 5 #[.slice d 0 c] W (fun e W' => e = .returned (.bool true) ∧ Fp0 W W') :=
  spec_calls (f := 5) (fn := Tryd.f5) Tryd.func5 rfl (by kernel_rfl) (law5z d c) hR rfl g_ro rfl
theorem calls5 {H : Type} {enc : TypeId × Value → H} {W : World} {v : Value} {d : DataW H} {ps : List MemPlace} (hR : Rel G (fun k => k) G W) (hv : ∃ a len cap, v = .slice a len cap) (h : DataW.Trod enc Tryd.prog W 0 (fun _ => true) true 35 v d ps) : Calls Tryd.prog 5 #[v] W (fun e W' => e = .returned (.bool true) ∧ Fp0 W W') := by
  obtain ⟨a0, len0, cap0, rfl⟩ := hv
  obtain ⟨fuel, hf⟩ := h
  rcases open_strings Tryd.underlying35 Tryd.underlying9 cells9 hf with ⟨hcs, _⟩ | ⟨a, len, cap, ss, hcs, _, hl, hm, hss, _, hcell, _⟩
  · simp [Value.cells] at hcs
    obtain ⟨rfl, rfl, rfl⟩ := hcs
    exact zero5 none 0 hR
  · simp [Value.cells] at hcs
    obtain ⟨rfl, rfl, rfl⟩ := hcs
    rw [if_pos rfl] at hss
    rcases Nat.eq_zero_or_pos len0 with h0 | h0
    · subst h0
      exact zero5 (some a) cap0 hR
    · obtain ⟨b, o, spot⟩ := a
      have c0 := hcell 0 (by omega)
      have hspot : spot = none := World.cell?_spot (show W.cell? ⟨b, o + 0, spot⟩ = _ from c0)
      subst hspot
      have cell : ∀ i, i < cap0 → W.cell? ⟨b, o + i, none⟩ = some (.string (ss.getD i ByteArray.empty)) := fun i hi => by
        have := hcell i (by omega)
        rw [Go.WideShapes.add_plain] at this
        exact this
      -- the cells ahead of the slice
      obtain ⟨cs, t, fr, hb⟩ : ∃ cs t fr, W.heap[b]? = some (.cells cs t fr) := by
        have := cell 0 (by omega)
        unfold World.cell? at this
        split at this
        · rename_i cs t fr e; exact ⟨cs, t, fr, e⟩
        · cases this
      have at' : ∀ j, W.cell? ⟨b, j, none⟩ = cs[j]? := fun j => by simp [World.cell?, hb]
      have hsz : o < cs.size := by
        have := cell 0 (by omega)
        rw [at', Nat.add_zero] at this
        exact (Array.getElem?_eq_some_iff.1 this).1
      have hpl : (cs.toList.take o).length = o := by rw [List.length_take, Array.length_toList]; omega
      have hh : Holds W b false ((Cont.strs (cs.toList.take o) (ss.map bts)).cells (fun k => k)) := by
        refine ⟨?_, fun j v hv => ?_, fun h => nomatch h⟩
        · rcases Nat.lt_or_ge b W.heap.size with q | q
          · exact q
          · rw [Array.getElem?_eq_none q] at hb; cases hb
        · simp only [Cont.cells] at hv
          rcases Nat.lt_or_ge j o with q | q
          · rw [List.getElem?_append_left (by omega), List.getElem?_take_of_lt q, Array.getElem?_toList] at hv
            rw [at']; exact hv
          · rw [List.getElem?_append_right (by omega), hpl, List.map_map, List.getElem?_map] at hv
            cases hs : ss[j - o]? with
            | none => rw [hs] at hv; cases hv
            | some s =>
              rw [hs] at hv
              have hlt := lt_of_get hs
              have := cell (j - o) (by omega)
              rw [show o + (j - o) = j by omega, List.getD_eq_getElem?_getD, hs] at this
              rw [this, ← Option.some.inj hv]
              simp [txt_bts]
      have hR2 := hR.ro_more (x := .strs (cs.toList.take o) (ss.map bts)) rfl hh
      have hmax : maxLen = 9223372036854775807 := by decide
      have := spec_calls (f := 5) (fn := Tryd.f5) (M := B7 (cs.toList.take o) (ss.map bts)) Tryd.func5 rfl (by kernel_rfl) (law5 (cs.toList.take o) (ss.map bts) o len0 cap0 (by omega) (by rw [List.length_map]; omega) (by omega)) hR2 rfl (b7_ro _ _) rfl
      exact this
end Go.Proofs.YtdejfaccoepfhaaDoor
