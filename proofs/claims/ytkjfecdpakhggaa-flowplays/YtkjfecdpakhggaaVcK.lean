/-
  A reckoner of conditions: bytes that are added, copied, made of texts. No statement is proved here.
-/
import Derived.Test.YtkjfecdpakhggaaVcJ
import Derived.Lib.ConvBytes
namespace Go.Proofs.Ytkjfecdpakhggaa
open Go.RowKit
set_option linter.unusedVariables false
set_option linter.unusedSimpArgs false

/-- What stands behind an operation that leads to K. -/
def OutQ (nG : Mm) (β : Nat → Nat) (M : Mm) (w : World) (K : SV → Mm → Prop) (v : Value) (w' : World) : Prop :=
  ∃ β' M' r, Ext β M w β' M' w' ∧ Rel nG β' M' w' ∧ (r = .any ∨ (r.wf M'.length = true ∧ v = val β' r)) ∧ K r M'
section
variable {P : Program} {nG : Mm} {β : Nat → Nat} {M : Mm} {w : World}
theorem wf_sl (n l c off : Nat) : (SV.sl n off l c).wf (n + 1) = true := by simp [SV.wf, Nat.blt_eq]
theorem len_app (M : Mm) (e : Ent) : (M ++ [e]).length = M.length + 1 := by simp
theorem val_new (β : Nat → Nat) (n b l c : Nat) : Value.slice (some ⟨b, 0, none⟩) l c = val (upd1 β n b) (.sl n 0 l c) := by simp [val, upd1]
theorem set_gone {k : Nat} {c : Cont} (hR : Rel nG β M w) (hk : M[k]? = some ⟨true, c⟩) (hc : c.here = true) (hn : c.isRes = false := by rfl) : Rel nG β (M.set k ⟨true, .gone⟩) w ∧ Ext β M w β (M.set k ⟨true, .gone⟩) w :=
  hR.set (c' := .gone) hk hc (Fp.refl _ w) rfl (fun h => by cases h) hn
theorem vappend_ok (hR : Rel nG β M w) {tys : List Nat} {ty : Nat} {xs : List SV} {K : SV → Mm → Prop} (h : vappend P tys M xs K) :
    ∃ v w', (Builtin.append_ tys.toArray ty (vals β xs).toArray).run P w = .ok v w' ∧ OutQ nG β M w K v w' := by
  unfold vappend at h
  split at h
  · rename_i t tx d x
    replace h := vsome_iff.1 h
    obtain ⟨hb, h⟩ := h
    simp only [Bool.and_eq_true] at hb
    obtain ⟨e, i, hu, hi, hi1, hz, hby⟩ := isBytes_ok hb.1
    split at h
    · exact h.elim
    · rename_i c m ha
      split at h
      · rename_i k off len cap
        split at h
        · rename_i l hk
          replace h := vsome_iff.1 h
          obtain ⟨hcs, h⟩ := h
          simp only [Bool.and_eq_true, decide_eq_true_eq] at hcs
          obtain ⟨⟨⟨⟨⟨rfl, h0⟩, hlc⟩, hl⟩, hsz⟩, hsrc⟩ := hcs
          obtain rfl := Nat.eq_of_beq_eq_true h0
          have hh := hR.all k _ hk rfl
          have hs := added_ok β hR hb.2 ha
          simp only [vals, setK_eq, snocK_eq] at h ⊢
          by_cases hroom : len + m.length ≤ cap
          · have hcell : ∀ j, j < (m.map c8).length → (w.cell? ⟨β k, 0 + len * i.size + j, none⟩).isSome = true := fun j hj => by
              rw [hi1, Nat.mul_one, Nat.zero_add, hh.cell (len + j) _ (List.getElem?_eq_getElem (by simp [Cont.cells] at hj ⊢; omega))]; rfl
            have hfr : ∀ j, j < (m.map c8).length → w.frozen? ⟨β k, 0 + len * i.size + j, none⟩ = false := fun j hj => by
              rw [hi1, Nat.mul_one, Nat.zero_add]; exact hh.free rfl (len + j) (by simp [Cont.cells] at hj ⊢; omega)
            have hrun : (Builtin.append_ #[t, tx] ty #[.slice (some ⟨β k, 0, none⟩) len cap, val β x]).run P w = .ok (.slice (some ⟨β k, 0, none⟩) (len + m.length) cap) (w.setCells (β k) len (m.map c8)) := by
              rcases hs with ⟨n, hs, rfl⟩ | ⟨z, kk, rfl, hz0, hz1, hm, hkk⟩
              · have := run_append_room_src (P := P) w t tx ty e i hu hi (β k) 0 len cap (val β x) m.length (m.map c8) (by rw [hi1]; exact hs) hroom hcell hfr
                rw [hi1, Nat.mul_one, Nat.zero_add] at this
                exact this
              · have hml : m.length = z.toNat := by rw [hm]; simp
                have := room_zeros (P := P) (w := w) t tx ty e i .i64 kk hu hkk hi hi1 hby hz (β k) 0 len cap z.toNat (by omega) (by omega) (by omega) (fun j hj => by
                  have := hcell j (by simp; omega)
                  rw [hi1, Nat.mul_one] at this; exact this) (fun j hj => by
                  have := hfr j (by simp; omega)
                  rw [hi1, Nat.mul_one] at this; exact this)
                have hzz : ((z.toNat : Nat) : Int) = z := by omega
                rw [hzz, Nat.zero_add] at this
                have em : m.map c8 = List.replicate z.toNat (Value.int .u8 0) := by rw [hm]; simp [c8]
                rw [em, hml]
                exact this
            have hH : Holds (w.setCells (β k) len (m.map c8)) (β k) true ((Cont.a8 (l.take len ++ m ++ l.drop (len + m.length))).cells β) := by
              have := hh.setCells (off := len) (vs := m.map c8) (by simp [Cont.cells]; omega)
              simpa [Cont.cells, Cont.shp] using this
            obtain ⟨h1, h2⟩ := hR.move (w' := w.setCells (β k) len (m.map c8)) (x := .a8 (l.take len ++ m ++ l.drop (len + m.length))) hk rfl (Fp.setCells (β k) (m.map c8) len w) rfl hH
            refine ⟨_, _, hrun, _, _, .sl M.length 0 (len + m.length) cap, h2, h1, .inr ⟨?_, val_new β _ _ _ _⟩, h cap (l.drop (len + m.length)) (by simp; omega)⟩
            rw [len_app, List.length_set]; exact wf_sl _ _ _ _
          · have hg : cap < len + m.length := by omega
            have hfit : Builtin.nextslicecap (len + m.length) cap * i.bytes ≤ 281474976710656 := growslice_fits hg (by rw [hby]; omega)
            have hold : (Builtin.firstCells i.size len (.slice (some ⟨β k, 0, none⟩) len cap)).run P w.drew = .ok ((l.take len).map c8).toArray w.drew := by
              rw [hi1]
              refine run_firstCells_some w.drew 1 len ⟨β k, 0, none⟩ len cap _ (by simp; omega) (fun j v hv => ?_)
              rw [Addr.add_mid, Nat.zero_add, World.cell?_drew]
              have hj : j < len := by
                rcases Nat.lt_or_ge j len with q | q
                · exact q
                · rw [List.getElem?_eq_none (by simp; omega)] at hv; cases hv
              rw [List.map_take, List.getElem?_take_of_lt hj] at hv
              exact hh.cell j v hv
            have hge := grownCap_ge w (len + m.length) cap e
            have hrun : ∃ arr : Array Value, (Builtin.append_ #[t, tx] ty #[.slice (some ⟨β k, 0, none⟩) len cap, val β x]).run P w = .ok (.slice (some ⟨w.heap.size, 0, none⟩) (len + m.length) (grownCap w (len + m.length) cap e)) (w.drew.alloc (.cells arr e)) ∧ arr.toList = (Cont.a8 (l.take len ++ m ++ List.replicate (grownCap w (len + m.length) cap e - (len + m.length)) 0)).cells β := by
              rcases hs with ⟨n, hs, rfl⟩ | ⟨z, kk, rfl, hz0, hz1, hm, hkk⟩
              · refine ⟨_, run_append_grow_src (P := P) w t tx ty e i _ hu hi hz (some ⟨β k, 0, none⟩) len cap _ hold (val β x) m.length (m.map c8) (by rw [hi1]; exact hs) hg (by omega) hfit, ?_⟩
                rw [Array.toList_append, zeros_list]
                simp [Cont.cells]
              · have hml : m.length = z.toNat := by rw [hm]; simp
                have hzz : ((z.toNat : Nat) : Int) = z := by omega
                have := Lib.run_append_grow_zeros (P := P) w t tx ty e i _ .i64 kk hu hkk hi hz (some ⟨β k, 0, none⟩) len cap _ hold z.toNat (by omega) (by omega) (by omega) (by omega) (by rw [hby]; omega) (by rw [← hml]; exact hfit)
                rw [hzz, ← hml] at this
                refine ⟨_, this, ?_⟩
                rw [Array.toList_append, Array.toList_append, zeros_list, zeros_list, hm]
                simp [Cont.cells]
            obtain ⟨arr, hrun, hcells⟩ := hrun
            obtain ⟨h1, h2⟩ := set_gone hR hk rfl
            have hH : Holds (w.drew.alloc (.cells arr e)) w.heap.size true ((Cont.a8 (l.take len ++ m ++ List.replicate (grownCap w (len + m.length) cap e - (len + m.length)) 0)).cells β) := hcells ▸ (Holds.new w.drew arr e).plain
            obtain ⟨h3, h4⟩ := h1.more (w' := w.drew.alloc (.cells arr e)) (b := w.heap.size) ((Fp.drew w).trans0 (Fp.alloc w.drew _)) (Nat.le_refl _) (x := .a8 (l.take len ++ m ++ List.replicate (grownCap w (len + m.length) cap e - (len + m.length)) 0)) rfl hH
            rw [List.length_set] at h3 h4
            refine ⟨_, _, hrun, _, _, .sl M.length 0 (len + m.length) (grownCap w (len + m.length) cap e), h2.trans h4, h3, .inr ⟨?_, val_new β _ _ _ _⟩, h _ (List.replicate (grownCap w (len + m.length) cap e - (len + m.length)) 0) (by simp; omega)⟩
            rw [len_app, List.length_set]; exact wf_sl _ _ _ _
        · exact h.elim
      · replace h := vsome_iff.1 h
        obtain ⟨hcs, h⟩ := h
        simp only [Bool.and_eq_true, decide_eq_true_eq] at hcs
        obtain ⟨⟨rfl, hm0⟩, hsz⟩ := hcs
        have hs := added_ok β hR hb.2 ha
        simp only [vals, snocK_eq] at h ⊢
        have hfit : Builtin.nextslicecap (0 + m.length) 0 * i.bytes ≤ 281474976710656 := growslice_fits (by omega) (by rw [hby]; omega)
        have hold : (Builtin.firstCells i.size 0 (.slice none 0 0)).run P w.drew = .ok ([] : List Value).toArray w.drew := run_firstCells_none w.drew i.size 0 0 0
        have hge := grownCap_ge w (0 + m.length) 0 e
        have hrun : ∃ arr : Array Value, (Builtin.append_ #[t, tx] ty #[.slice none 0 0, val β x]).run P w = .ok (.slice (some ⟨w.heap.size, 0, none⟩) (0 + m.length) (grownCap w (0 + m.length) 0 e)) (w.drew.alloc (.cells arr e)) ∧ arr.toList = (Cont.a8 (m ++ List.replicate (grownCap w (0 + m.length) 0 e - (0 + m.length)) 0)).cells β := by
          rcases hs with ⟨n, hs, rfl⟩ | ⟨z, kk, rfl, hz0, hz1, hm, hkk⟩
          · refine ⟨_, run_append_grow_src (P := P) w t tx ty e i _ hu hi hz none 0 0 _ hold (val β x) m.length (m.map c8) (by rw [hi1]; exact hs) (by omega) (by omega) hfit, ?_⟩
            rw [Array.toList_append, zeros_list]
            simp [Cont.cells]
          · have hml : m.length = z.toNat := by rw [hm]; simp
            have hzz : ((z.toNat : Nat) : Int) = z := by omega
            have := Lib.run_append_grow_zeros (P := P) w t tx ty e i _ .i64 kk hu hkk hi hz none 0 0 _ hold z.toNat (by omega) (by omega) (by omega) (by omega) (by rw [hby]; omega) (by rw [← hml]; exact hfit)
            rw [hzz, ← hml] at this
            refine ⟨_, this, ?_⟩
            rw [Array.toList_append, Array.toList_append, zeros_list, zeros_list, hm]
            simp [Cont.cells]
        obtain ⟨arr, hrun, hcells⟩ := hrun
        simp only [Nat.zero_add] at hrun hcells hge
        have hH : Holds (w.drew.alloc (.cells arr e)) w.heap.size true ((Cont.a8 (m ++ List.replicate (grownCap w m.length 0 e - m.length) 0)).cells β) := hcells ▸ (Holds.new w.drew arr e).plain
        obtain ⟨h3, h4⟩ := hR.more (w' := w.drew.alloc (.cells arr e)) (b := w.heap.size) ((Fp.drew w).trans0 (Fp.alloc w.drew _)) (Nat.le_refl _) (x := .a8 (m ++ List.replicate (grownCap w m.length 0 e - m.length) 0)) rfl hH
        refine ⟨_, _, hrun, _, _, .sl M.length 0 m.length (grownCap w m.length 0 e), h4, h3, .inr ⟨?_, val_new β _ _ _ _⟩, h _ (List.replicate (grownCap w m.length 0 e - m.length) 0) (by simp; omega)⟩
        rw [len_app]; exact wf_sl _ _ _ _
      · exact h.elim
  · exact h.elim
theorem val_newO (β : Nat → Nat) (n b o l c : Nat) : Value.slice (some ⟨b, o, none⟩) l c = val (upd1 β n b) (.sl n o l c) := by simp [val, upd1]
theorem vappendO_ok (hR : Rel nG β M w) {tys : List Nat} {ty : Nat} {xs : List SV} {K : SV → Mm → Prop} (h : vappendO P tys M xs K) :
    ∃ v w', (Builtin.append_ tys.toArray ty (vals β xs).toArray).run P w = .ok v w' ∧ OutQ nG β M w K v w' := by
  unfold vappendO at h
  split at h
  · rename_i t tx d x
    replace h := vsome_iff.1 h
    obtain ⟨hb, h⟩ := h
    simp only [Bool.and_eq_true] at hb
    obtain ⟨hb, hnI⟩ := hb
    obtain ⟨e, i, hu, hi, hi1, hz, hby⟩ := isBytes_ok hb.1
    split at h
    · exact h.elim
    · rename_i c m ha
      split at h
      · rename_i k off len cap
        split at h
        · rename_i l hk
          replace h := vsome_iff.1 h
          obtain ⟨hcs, h⟩ := h
          simp only [Bool.and_eq_true, decide_eq_true_eq] at hcs
          obtain ⟨⟨⟨⟨rfl, hlc⟩, hl⟩, hsz⟩, hsrc⟩ := hcs
          have hh := hR.all k _ hk rfl
          have hs : Src P 1 tx (val β x) m.length (m.map c8) w := by
            rcases added_ok β hR hb.2 ha with ⟨n, hs, rfl⟩ | ⟨z, kk, rfl, _⟩
            · exact hs
            · cases hnI
          simp only [vals, setK_eq, snocK_eq] at h ⊢
          by_cases hroom : len + m.length ≤ cap
          · have hcell : ∀ j, j < (m.map c8).length → (w.cell? ⟨β k, off + len * i.size + j, none⟩).isSome = true := fun j hj => by
              rw [hi1, Nat.mul_one, hh.cell (off + len + j) _ (List.getElem?_eq_getElem (by simp [Cont.cells] at hj ⊢; omega))]; rfl
            have hfr : ∀ j, j < (m.map c8).length → w.frozen? ⟨β k, off + len * i.size + j, none⟩ = false := fun j hj => by
              rw [hi1, Nat.mul_one]; exact hh.free rfl (off + len + j) (by simp [Cont.cells] at hj ⊢; omega)
            have hrun : (Builtin.append_ #[t, tx] ty #[.slice (some ⟨β k, off, none⟩) len cap, val β x]).run P w = .ok (.slice (some ⟨β k, off, none⟩) (len + m.length) cap) (w.setCells (β k) (off + len) (m.map c8)) := by
              have := run_append_room_src (P := P) w t tx ty e i hu hi (β k) off len cap (val β x) m.length (m.map c8) (by rw [hi1]; exact hs) hroom hcell hfr
              rw [hi1, Nat.mul_one] at this
              exact this
            have hH : Holds (w.setCells (β k) (off + len) (m.map c8)) (β k) true ((Cont.a8 (l.take off ++ ((l.drop off).take len ++ m) ++ l.drop (off + len + m.length))).cells β) := by
              have := hh.setCells (off := off + len) (vs := m.map c8) (by simp [Cont.cells]; omega)
              have e1 : l.take (off + len) = l.take off ++ (l.drop off).take len := List.take_add
              simp only [Cont.cells, Cont.shp, ← List.map_take, ← List.map_drop, List.length_map, ← List.map_append, e1] at this ⊢
              simpa [List.append_assoc] using this
            obtain ⟨h1, h2⟩ := hR.move (w' := w.setCells (β k) (off + len) (m.map c8)) (x := .a8 (l.take off ++ ((l.drop off).take len ++ m) ++ l.drop (off + len + m.length))) hk rfl (Fp.setCells (β k) (m.map c8) (off + len) w) rfl hH
            have hpl : (l.take off).length = off := by rw [List.length_take]; omega
            have h3 := h cap (l.take off) (l.drop (off + len + m.length)) ⟨hroom, by rw [List.length_drop]; omega⟩
            rw [hpl] at h3
            refine ⟨_, _, hrun, _, _, .sl M.length off (len + m.length) cap, h2, h1, .inr ⟨?_, val_newO β _ _ _ _ _⟩, h3⟩
            rw [len_app, List.length_set]; exact wf_sl _ _ _ _
          · have hg : cap < len + m.length := by omega
            have hfit : Builtin.nextslicecap (len + m.length) cap * i.bytes ≤ 281474976710656 := growslice_fits hg (by rw [hby]; omega)
            have hold : (Builtin.firstCells i.size len (.slice (some ⟨β k, off, none⟩) len cap)).run P w.drew = .ok (((l.drop off).take len).map c8).toArray w.drew := by
              rw [hi1]
              refine run_firstCells_some w.drew 1 len ⟨β k, off, none⟩ len cap _ (by simp; omega) (fun j v hv => ?_)
              rw [Addr.add_mid, World.cell?_drew]
              have hj : j < len := by
                rcases Nat.lt_or_ge j len with q | q
                · exact q
                · rw [List.getElem?_eq_none (by simp; omega)] at hv; cases hv
              rw [List.map_take, List.getElem?_take_of_lt hj, List.map_drop, List.getElem?_drop] at hv
              exact hh.cell (off + j) v hv
            have hge := grownCap_ge w (len + m.length) cap e
            obtain ⟨arr, hrun, hcells⟩ : ∃ arr : Array Value, (Builtin.append_ #[t, tx] ty #[.slice (some ⟨β k, off, none⟩) len cap, val β x]).run P w = .ok (.slice (some ⟨w.heap.size, 0, none⟩) (len + m.length) (grownCap w (len + m.length) cap e)) (w.drew.alloc (.cells arr e)) ∧ arr.toList = (Cont.a8 ([] ++ ((l.drop off).take len ++ m) ++ List.replicate (grownCap w (len + m.length) cap e - (len + m.length)) 0)).cells β := by
              refine ⟨_, run_append_grow_src (P := P) w t tx ty e i _ hu hi hz (some ⟨β k, off, none⟩) len cap _ hold (val β x) m.length (m.map c8) (by rw [hi1]; exact hs) hg (by omega) hfit, ?_⟩
              rw [Array.toList_append, zeros_list]
              simp [Cont.cells]
            obtain ⟨h1, h2⟩ := set_gone hR hk rfl
            have hH : Holds (w.drew.alloc (.cells arr e)) w.heap.size true ((Cont.a8 ([] ++ ((l.drop off).take len ++ m) ++ List.replicate (grownCap w (len + m.length) cap e - (len + m.length)) 0)).cells β) := hcells ▸ (Holds.new w.drew arr e).plain
            obtain ⟨h3, h4⟩ := h1.more (w' := w.drew.alloc (.cells arr e)) (b := w.heap.size) ((Fp.drew w).trans0 (Fp.alloc w.drew _)) (Nat.le_refl _) (x := .a8 ([] ++ ((l.drop off).take len ++ m) ++ List.replicate (grownCap w (len + m.length) cap e - (len + m.length)) 0)) rfl hH
            rw [List.length_set] at h3 h4
            refine ⟨_, _, hrun, _, _, .sl M.length 0 (len + m.length) (grownCap w (len + m.length) cap e), h2.trans h4, h3, .inr ⟨?_, val_new β _ _ _ _⟩, h _ [] (List.replicate (grownCap w (len + m.length) cap e - (len + m.length)) 0) ⟨hge, by rw [List.length_replicate]; omega⟩⟩
            rw [len_app, List.length_set]; exact wf_sl _ _ _ _
        · exact h.elim
      · exact vappend_ok hR h
      · exact h.elim
  · exact h.elim
theorem vappendT_ok (hR : Rel nG β M w) {tys : List Nat} {ty : Nat} {xs : List SV} {K : SV → Mm → Prop} (h : vappendT P tys M xs K) :
    ∃ v w', (Builtin.append_ tys.toArray ty (vals β xs).toArray).run P w = .ok v w' ∧ OutQ nG β M w K v w' := by
  unfold vappendT at h
  split at h
  · rename_i t tx d m
    replace h := vsome_iff.1 h
    obtain ⟨hb, h⟩ := h
    simp only [Bool.and_eq_true] at hb
    obtain ⟨e, i, hu, hi, hi1, hz, hby⟩ := isBytes_ok hb.1
    have hel : elemT P t = e := by unfold elemT; rw [hu]
    have hs : Src P 1 tx (val β (.s m)) m.length (m.map c8) w := by
      rcases added_ok β hR (tys := []) hb.2 (x := .s m) (m := m) rfl with ⟨n, hs, rfl⟩ | ⟨z, kk, he, _⟩
      · exact hs
      · cases he
    have newH : ∀ (arr : Array Value) (l : List (BitVec 8)), arr.toList = l.map c8 → Holds (w.drew.alloc (.cells arr e)) w.heap.size true ((Cont.t8 e l).cells β) (Cont.t8 e l).shp := fun arr l hl => by
      have := Holds.new w.drew arr e
      rw [hl, List.length_map] at this
      exact this
    split at h
    · rename_i k off len cap
      split at h
      · rename_i u l hk
        replace h := vsome_iff.1 h
        obtain ⟨hcs, h⟩ := h
        simp only [Bool.and_eq_true, decide_eq_true_eq] at hcs
        obtain ⟨⟨⟨⟨h0, hlc⟩, hl⟩, hsz⟩, hue⟩ := hcs
        obtain rfl := Nat.eq_of_beq_eq_true h0
        have hue := Nat.eq_of_beq_eq_true hue
        rw [hel] at hue
        subst hue
        have hh := hR.all k _ hk rfl
        simp only [vals, setK_eq, snocK_eq] at h ⊢
        by_cases hroom : len + m.length ≤ cap
        · have hcell : ∀ j, j < (m.map c8).length → (w.cell? ⟨β k, 0 + len * i.size + j, none⟩).isSome = true := fun j hj => by
            rw [hi1, Nat.mul_one, Nat.zero_add, hh.cell (len + j) _ (List.getElem?_eq_getElem (by simp [Cont.cells] at hj ⊢; omega))]; rfl
          have hfr : ∀ j, j < (m.map c8).length → w.frozen? ⟨β k, 0 + len * i.size + j, none⟩ = false := fun j hj => by
            rw [hi1, Nat.mul_one, Nat.zero_add]; exact hh.free rfl (len + j) (by simp [Cont.cells] at hj ⊢; omega)
          have hrun : (Builtin.append_ #[t, tx] ty #[.slice (some ⟨β k, 0, none⟩) len cap, val β (.s m)]).run P w = .ok (.slice (some ⟨β k, 0, none⟩) (len + m.length) cap) (w.setCells (β k) len (m.map c8)) := by
            have := run_append_room_src (P := P) w t tx ty u i hu hi (β k) 0 len cap (val β (.s m)) m.length (m.map c8) (by rw [hi1]; exact hs) hroom hcell hfr
            rw [hi1, Nat.mul_one, Nat.zero_add] at this
            exact this
          have e2 : (l.take len ++ m ++ l.drop (len + m.length)).length = l.length := by simp; omega
          have hH : Holds (w.setCells (β k) len (m.map c8)) (β k) true ((Cont.t8 u (l.take len ++ m ++ l.drop (len + m.length))).cells β) (Cont.t8 u (l.take len ++ m ++ l.drop (len + m.length))).shp := by
            have := hh.setCells (off := len) (vs := m.map c8) (by simp [Cont.cells]; omega)
            show Holds _ _ _ _ (some (u, _))
            rw [e2]
            have e3 : (Cont.t8 u (l.take len ++ m ++ l.drop (len + m.length))).cells β = (l.map c8).take len ++ m.map c8 ++ (l.map c8).drop (len + (m.map c8).length) := by simp [Cont.cells]
            rw [e3]
            exact this
          obtain ⟨h1, h2⟩ := hR.move (w' := w.setCells (β k) len (m.map c8)) (x := .t8 u (l.take len ++ m ++ l.drop (len + m.length))) hk rfl (Fp.setCells (β k) (m.map c8) len w) rfl hH
          refine ⟨_, _, hrun, _, _, .sl M.length 0 (len + m.length) cap, h2, h1, .inr ⟨?_, val_new β _ _ _ _⟩, h cap (l.drop (len + m.length)) (by simp; omega)⟩
          rw [len_app, List.length_set]; exact wf_sl _ _ _ _
        · have hg : cap < len + m.length := by omega
          have hfit : Builtin.nextslicecap (len + m.length) cap * i.bytes ≤ 281474976710656 := growslice_fits hg (by rw [hby]; omega)
          have hold : (Builtin.firstCells i.size len (.slice (some ⟨β k, 0, none⟩) len cap)).run P w.drew = .ok ((l.take len).map c8).toArray w.drew := by
            rw [hi1]
            refine run_firstCells_some w.drew 1 len ⟨β k, 0, none⟩ len cap _ (by simp; omega) (fun j v hv => ?_)
            rw [Addr.add_mid, Nat.zero_add, World.cell?_drew]
            have hj : j < len := by
              rcases Nat.lt_or_ge j len with q | q
              · exact q
              · rw [List.getElem?_eq_none (by simp; omega)] at hv; cases hv
            rw [List.map_take, List.getElem?_take_of_lt hj] at hv
            exact hh.cell j v hv
          have hge := grownCap_ge w (len + m.length) cap u
          have hrun : ∃ arr : Array Value, (Builtin.append_ #[t, tx] ty #[.slice (some ⟨β k, 0, none⟩) len cap, val β (.s m)]).run P w = .ok (.slice (some ⟨w.heap.size, 0, none⟩) (len + m.length) (grownCap w (len + m.length) cap u)) (w.drew.alloc (.cells arr u)) ∧ arr.toList = (l.take len ++ m ++ List.replicate (grownCap w (len + m.length) cap u - (len + m.length)) 0).map c8 := by
            refine ⟨_, run_append_grow_src (P := P) w t tx ty u i _ hu hi hz (some ⟨β k, 0, none⟩) len cap _ hold (val β (.s m)) m.length (m.map c8) (by rw [hi1]; exact hs) hg (by omega) hfit, ?_⟩
            rw [Array.toList_append, zeros_list]
            simp
          obtain ⟨arr, hrun, hcells⟩ := hrun
          obtain ⟨h1, h2⟩ := set_gone hR hk rfl
          obtain ⟨h3, h4⟩ := h1.more (w' := w.drew.alloc (.cells arr u)) (b := w.heap.size) ((Fp.drew w).trans0 (Fp.alloc w.drew _)) (Nat.le_refl _) (x := .t8 u (l.take len ++ m ++ List.replicate (grownCap w (len + m.length) cap u - (len + m.length)) 0)) rfl (newH arr _ hcells)
          rw [List.length_set] at h3 h4
          refine ⟨_, _, hrun, _, _, .sl M.length 0 (len + m.length) (grownCap w (len + m.length) cap u), h2.trans h4, h3, .inr ⟨?_, val_new β _ _ _ _⟩, h _ (List.replicate (grownCap w (len + m.length) cap u - (len + m.length)) 0) (by simp; omega)⟩
          rw [len_app, List.length_set]; exact wf_sl _ _ _ _
      · exact h.elim
    · replace h := vsome_iff.1 h
      obtain ⟨hcs, h⟩ := h
      simp only [decide_eq_true_eq] at hcs
      rw [hel] at h
      simp only [vals, snocK_eq] at h ⊢
      cases hm0 : Nat.beq m.length 0 <;> rw [hm0] at h
      · simp only [cond_false] at h
        have hm1 : 0 < m.length := by
          rcases Nat.eq_zero_or_pos m.length with q | q
          · rw [q] at hm0; cases hm0
          · exact q
        have hfit : Builtin.nextslicecap (0 + m.length) 0 * i.bytes ≤ 281474976710656 := growslice_fits (by omega) (by rw [hby]; omega)
        have hold : (Builtin.firstCells i.size 0 (.slice none 0 0)).run P w.drew = .ok ([] : List Value).toArray w.drew := run_firstCells_none w.drew i.size 0 0 0
        have hge := grownCap_ge w (0 + m.length) 0 e
        have hrun : ∃ arr : Array Value, (Builtin.append_ #[t, tx] ty #[.slice none 0 0, val β (.s m)]).run P w = .ok (.slice (some ⟨w.heap.size, 0, none⟩) (0 + m.length) (grownCap w (0 + m.length) 0 e)) (w.drew.alloc (.cells arr e)) ∧ arr.toList = (m ++ List.replicate (grownCap w (0 + m.length) 0 e - (0 + m.length)) 0).map c8 := by
          refine ⟨_, run_append_grow_src (P := P) w t tx ty e i _ hu hi hz none 0 0 _ hold (val β (.s m)) m.length (m.map c8) (by rw [hi1]; exact hs) (by omega) (by omega) hfit, ?_⟩
          rw [Array.toList_append, zeros_list]
          simp
        obtain ⟨arr, hrun, hcells⟩ := hrun
        simp only [Nat.zero_add] at hrun hcells hge
        obtain ⟨h3, h4⟩ := hR.more (w' := w.drew.alloc (.cells arr e)) (b := w.heap.size) ((Fp.drew w).trans0 (Fp.alloc w.drew _)) (Nat.le_refl _) (x := .t8 e (m ++ List.replicate (grownCap w m.length 0 e - m.length) 0)) rfl (newH arr _ hcells)
        refine ⟨_, _, hrun, _, _, .sl M.length 0 m.length (grownCap w m.length 0 e), h4, h3, .inr ⟨?_, val_new β _ _ _ _⟩, h _ (List.replicate (grownCap w m.length 0 e - m.length) 0) (by simp; omega)⟩
        rw [len_app]; exact wf_sl _ _ _ _
      · simp only [cond_true] at h
        have hm1 : m.length = 0 := Nat.eq_of_beq_eq_true hm0
        refine ⟨.slice none 0 0, w, ?_, β, M, _, Ext.refl _ _ _, hR, .inr ⟨rfl, rfl⟩, h⟩
        have e0 : m = [] := List.eq_nil_of_length_eq_zero hm1
        subst e0
        have hux : P.underlying tx = some .string := by
          have h2 : srcOk P tx (.s ([] : List (BitVec 8))) = true := hb.2
          unfold srcOk at h2
          cases hq : P.underlying tx with
          | none => rw [hq] at h2; cases h2
          | some d => rw [hq] at h2; cases d <;> first | rfl | cases h2
        show (Builtin.append_ #[t, tx] ty #[.slice none 0 0, .string (txt [])]).run P w = _
        have hs0 : (txt []).size = 0 := rfl
        generalize txt [] = s at hs0
        simp [Builtin.append_, run_underlying hu, run_underlying hux, sizeOf, typeInfo, hi, Builtin.lenOf, hs0, Builtin.firstCells]
    · exact h.elim
  · exact h.elim
theorem Fp.freeze (w : World) (b o n : Nat) : Fp (fun k => k = b) w (w.freeze ⟨b, o, none⟩ n) := by
  unfold World.freeze
  split
  · exact Fp.refl _ w
  · exact ⟨rfl, rfl, rfl, by simp, fun k hk hb => by simp only [Array.getElem?_modify]; rw [if_neg (fun e => hb e.symm)]⟩
theorem vustr_ok (hR : Rel nG β M w) {tys : List Nat} {ty : Nat} {xs : List SV} {K : SV → Mm → Prop} (h : vustr P tys M xs K) :
    ∃ v w', (Builtin.unsafeString_ tys.toArray ty (vals β xs).toArray).run P w = .ok v w' ∧ OutQ nG β M w K v w' := by
  have e0 : (.string .empty : Value) = val β (.s []) := rfl
  unfold vustr at h
  split at h
  · rename_i t ti n
    replace h := vsome_iff.1 h
    obtain ⟨hn, h⟩ := h
    obtain rfl : n = 0 := by simpa using hn
    exact ⟨_, _, Lib.run_unsafeString_none w t ti ty none, β, M, _, Ext.refl _ _ _, hR, .inr ⟨rfl, e0⟩, h⟩
  · rename_i t ti k off n
    split at h
    · rename_i u l hk
      cases hn : n == 0 <;> rw [hn] at h
      · simp only [cond_false] at h
        replace h := vsome_iff.1 h
        obtain ⟨hcs, h⟩ := h
        simp only [Bool.and_eq_true, ile_eq, decide_eq_true_eq] at hcs
        obtain ⟨⟨⟨⟨ht, h0⟩, h1⟩, h2⟩, h3⟩ := hcs
        obtain rfl := Nat.eq_of_beq_eq_true h0
        have hn0 : n ≠ 0 := by simpa using hn
        split at ht
        · rename_i e hu
          simp only [Bool.and_eq_true] at ht
          obtain rfl := Nat.eq_of_beq_eq_true ht.1
          have hc1 := Nat.eq_of_beq_eq_true ht.2
          have hh := hR.all k _ hk rfl
          have hlen : ((l.take n.toNat).map UInt8.ofBitVec).length = n.toNat := by simp; omega
          have hnn : (((l.take n.toNat).map UInt8.ofBitVec).length : Int) = n := by rw [hlen]; omega
          have hrun := Lib.run_unsafeString_row (P := P) w t ti ty e hu hc1 (β k) l.length (hh.shp _ rfl) ((l.take n.toNat).map UInt8.ofBitVec) (fun e1 => by rw [e1] at hlen; simp at hlen; omega) (by rw [hlen]; omega) (by rw [hlen]; omega) (fun j x hx => by
            rw [List.getElem?_map] at hx
            obtain ⟨y, hy, rfl⟩ := Option.map_eq_some_iff.1 hx
            have hj : j < n.toNat := by
              have := lt_of_get hy
              simp at this; omega
            rw [List.getElem?_take_of_lt hj] at hy
            rw [Addr.add_mid, Nat.zero_add]
            refine hh.cell j _ ?_
            show (l.map c8)[j]? = _
            rw [List.getElem?_map, hy]
            simp [c8])
          rw [hnn] at hrun
          rw [setK_eq] at h
          obtain ⟨h5, h6⟩ := hR.set (c' := .gone) hk rfl (Fp.freeze w (β k) 0 _) rfl (fun h => by cases h)
          exact ⟨_, _, hrun, β, _, _, h6, h5, .inr ⟨rfl, rfl⟩, h⟩
        · cases ht
      · obtain rfl : n = 0 := by simpa using hn
        exact ⟨_, _, Lib.run_unsafeString_none w t ti ty _, β, M, _, Ext.refl _ _ _, hR, .inr ⟨rfl, e0⟩, h⟩
    · exact h.elim
  · exact h.elim
theorem vappendW_ok (hR : Rel nG β M w) {tys : List Nat} {ty : Nat} {xs : List SV} {K : SV → Mm → Prop} (h : vappendW P tys M xs K) :
    ∃ v w', (Builtin.append_ tys.toArray ty (vals β xs).toArray).run P w = .ok v w' ∧ OutQ nG β M w K v w' := by
  unfold vappendW at h
  split at h
  · rename_i t tx d kx o n c
    replace h := vsome_iff.1 h
    obtain ⟨hb, h⟩ := h
    simp only [Bool.and_eq_true] at hb
    obtain ⟨e, i, hu, hi, hi1, hz, hby⟩ := isWords_ok hb.1
    split at h
    · rename_i rq q hq
      split at h
      · rename_i k off len cap
        split at h
        · rename_i l hk
          replace h := vsome_iff.1 h
          obtain ⟨hcs, h⟩ := h
          simp only [Bool.and_eq_true, decide_eq_true_eq] at hcs
          obtain ⟨⟨⟨⟨⟨ho, h0⟩, hlc⟩, hl⟩, hsz⟩, hsrc⟩ := hcs
          obtain rfl := Nat.eq_of_beq_eq_true h0
          have hh := hR.all k _ hk rfl
          have hs := srcW β hR hb.2 hq ho
          have hm : ((q.drop o).take n).length = n := by simp; omega
          generalize (q.drop o).take n = m at h hs hm
          subst hm
          generalize SV.sl kx o m.length c = x at hs ⊢
          simp only [vals, setK_eq, snocK_eq] at h ⊢
          by_cases hroom : len + m.length ≤ cap
          · have hcell : ∀ j, j < (m.map c64).length → (w.cell? ⟨β k, 0 + len * i.size + j, none⟩).isSome = true := fun j hj => by
              rw [hi1, Nat.mul_one, Nat.zero_add, hh.cell (len + j) _ (List.getElem?_eq_getElem (by simp [Cont.cells] at hj ⊢; omega))]; rfl
            have hfr : ∀ j, j < (m.map c64).length → w.frozen? ⟨β k, 0 + len * i.size + j, none⟩ = false := fun j hj => by
              rw [hi1, Nat.mul_one, Nat.zero_add]; exact hh.free rfl (len + j) (by simp [Cont.cells] at hj ⊢; omega)
            have hrun : (Builtin.append_ #[t, tx] ty #[.slice (some ⟨β k, 0, none⟩) len cap, val β x]).run P w = .ok (.slice (some ⟨β k, 0, none⟩) (len + m.length) cap) (w.setCells (β k) len (m.map c64)) := by
              have := run_append_room_src (P := P) w t tx ty e i hu hi (β k) 0 len cap (val β x) m.length (m.map c64) (by rw [hi1]; exact hs) hroom hcell hfr
              rw [hi1, Nat.mul_one, Nat.zero_add] at this
              exact this
            have hH : Holds (w.setCells (β k) len (m.map c64)) (β k) true ((Cont.a64 (l.take len ++ m ++ l.drop (len + m.length))).cells β) := by
              have := hh.setCells (off := len) (vs := m.map c64) (by simp [Cont.cells]; omega)
              simpa [Cont.cells, Cont.shp] using this
            obtain ⟨h1, h2⟩ := hR.move (w' := w.setCells (β k) len (m.map c64)) (x := .a64 (l.take len ++ m ++ l.drop (len + m.length))) hk rfl (Fp.setCells (β k) (m.map c64) len w) rfl hH
            refine ⟨_, _, hrun, _, _, .sl M.length 0 (len + m.length) cap, h2, h1, .inr ⟨?_, val_new β _ _ _ _⟩, h cap (l.drop (len + m.length)) (by simp; omega)⟩
            rw [len_app, List.length_set]; exact wf_sl _ _ _ _
          · have hg : cap < len + m.length := by omega
            have hfit : Builtin.nextslicecap (len + m.length) cap * i.bytes ≤ 281474976710656 := growslice_fits hg (by rw [hby]; omega)
            have hold : (Builtin.firstCells i.size len (.slice (some ⟨β k, 0, none⟩) len cap)).run P w.drew = .ok ((l.take len).map c64).toArray w.drew := by
              rw [hi1]
              refine run_firstCells_some w.drew 1 len ⟨β k, 0, none⟩ len cap _ (by simp; omega) (fun j v hv => ?_)
              rw [Addr.add_mid, Nat.zero_add, World.cell?_drew]
              have hj : j < len := by
                rcases Nat.lt_or_ge j len with q | q
                · exact q
                · rw [List.getElem?_eq_none (by simp; omega)] at hv; cases hv
              rw [List.map_take, List.getElem?_take_of_lt hj] at hv
              exact hh.cell j v hv
            have hge := grownCap_ge w (len + m.length) cap e
            have hrun : ∃ arr : Array Value, (Builtin.append_ #[t, tx] ty #[.slice (some ⟨β k, 0, none⟩) len cap, val β x]).run P w = .ok (.slice (some ⟨w.heap.size, 0, none⟩) (len + m.length) (grownCap w (len + m.length) cap e)) (w.drew.alloc (.cells arr e)) ∧ arr.toList = (Cont.a64 (l.take len ++ m ++ List.replicate (grownCap w (len + m.length) cap e - (len + m.length)) 0)).cells β := by
              refine ⟨_, run_append_grow_src (P := P) w t tx ty e i _ hu hi hz (some ⟨β k, 0, none⟩) len cap _ hold (val β x) m.length (m.map c64) (by rw [hi1]; exact hs) hg (by omega) hfit, ?_⟩
              rw [Array.toList_append, zeros_listW]
              simp [Cont.cells]
            obtain ⟨arr, hrun, hcells⟩ := hrun
            obtain ⟨h1, h2⟩ := set_gone hR hk rfl
            have hH : Holds (w.drew.alloc (.cells arr e)) w.heap.size true ((Cont.a64 (l.take len ++ m ++ List.replicate (grownCap w (len + m.length) cap e - (len + m.length)) 0)).cells β) := hcells ▸ (Holds.new w.drew arr e).plain
            obtain ⟨h3, h4⟩ := h1.more (w' := w.drew.alloc (.cells arr e)) (b := w.heap.size) ((Fp.drew w).trans0 (Fp.alloc w.drew _)) (Nat.le_refl _) (x := .a64 (l.take len ++ m ++ List.replicate (grownCap w (len + m.length) cap e - (len + m.length)) 0)) rfl hH
            rw [List.length_set] at h3 h4
            refine ⟨_, _, hrun, _, _, .sl M.length 0 (len + m.length) (grownCap w (len + m.length) cap e), h2.trans h4, h3, .inr ⟨?_, val_new β _ _ _ _⟩, h _ (List.replicate (grownCap w (len + m.length) cap e - (len + m.length)) 0) (by simp; omega)⟩
            rw [len_app, List.length_set]; exact wf_sl _ _ _ _
        · exact h.elim
      · replace h := vsome_iff.1 h
        obtain ⟨hcs, h⟩ := h
        simp only [Bool.and_eq_true, decide_eq_true_eq] at hcs
        obtain ⟨⟨ho, hm0⟩, hsz⟩ := hcs
        have hs := srcW β hR hb.2 hq ho
        have hm : ((q.drop o).take n).length = n := by simp; omega
        generalize (q.drop o).take n = m at h hs hm
        subst hm
        generalize SV.sl kx o m.length c = x at hs ⊢
        simp only [vals, snocK_eq] at h ⊢
        have hfit : Builtin.nextslicecap (0 + m.length) 0 * i.bytes ≤ 281474976710656 := growslice_fits (by omega) (by rw [hby]; omega)
        have hold : (Builtin.firstCells i.size 0 (.slice none 0 0)).run P w.drew = .ok ([] : List Value).toArray w.drew := run_firstCells_none w.drew i.size 0 0 0
        have hge := grownCap_ge w (0 + m.length) 0 e
        have hrun : ∃ arr : Array Value, (Builtin.append_ #[t, tx] ty #[.slice none 0 0, val β x]).run P w = .ok (.slice (some ⟨w.heap.size, 0, none⟩) (0 + m.length) (grownCap w (0 + m.length) 0 e)) (w.drew.alloc (.cells arr e)) ∧ arr.toList = (Cont.a64 (m ++ List.replicate (grownCap w (0 + m.length) 0 e - (0 + m.length)) 0)).cells β := by
          refine ⟨_, run_append_grow_src (P := P) w t tx ty e i _ hu hi hz none 0 0 _ hold (val β x) m.length (m.map c64) (by rw [hi1]; exact hs) (by omega) (by omega) hfit, ?_⟩
          rw [Array.toList_append, zeros_listW]
          simp [Cont.cells]
        obtain ⟨arr, hrun, hcells⟩ := hrun
        simp only [Nat.zero_add] at hrun hcells hge
        have hH : Holds (w.drew.alloc (.cells arr e)) w.heap.size true ((Cont.a64 (m ++ List.replicate (grownCap w m.length 0 e - m.length) 0)).cells β) := hcells ▸ (Holds.new w.drew arr e).plain
        obtain ⟨h3, h4⟩ := hR.more (w' := w.drew.alloc (.cells arr e)) (b := w.heap.size) ((Fp.drew w).trans0 (Fp.alloc w.drew _)) (Nat.le_refl _) (x := .a64 (m ++ List.replicate (grownCap w m.length 0 e - m.length) 0)) rfl hH
        refine ⟨_, _, hrun, _, _, .sl M.length 0 m.length (grownCap w m.length 0 e), h4, h3, .inr ⟨?_, val_new β _ _ _ _⟩, h _ (List.replicate (grownCap w m.length 0 e - m.length) 0) (by simp; omega)⟩
        rw [len_app]; exact wf_sl _ _ _ _
      · exact h.elim
    · exact h.elim
  · exact h.elim
theorem copy_run {t tx ty e : Nat} {i : TypeInfo} (hu : P.underlying t = some (.slice e)) (hi : P.info? e = some i) (h1 : i.size = 1) {b off len cap nx : Nat} {x : Value} {cs : List Value} (hl : (Builtin.lenOf x).run P w = .ok nx w) (hf : (Builtin.firstCells 1 (Nat.min nx len) x).run P w = .ok cs.toArray w)
    (hc : ∀ j, j < cs.length → (w.cell? ⟨b, off + j, none⟩).isSome = true) (hz : ∀ j, j < cs.length → w.frozen? ⟨b, off + j, none⟩ = false) (h2 : ∀ u ∈ cs, u.oneCell' = true) :
    (Builtin.copy_ #[t, tx] ty #[.slice (some ⟨b, off, none⟩) len cap, x]).run P w = .ok (goInt (Nat.min nx len : Nat)) (w.setCells b off cs) := by
  have hst := run_storeCells_cells (P := P) b off cs 0 w (by simpa using hc) (by simpa using hz) h2
  simp only [Nat.add_zero] at hst
  simp [Builtin.copy_, run_underlying hu, hl, sizeOf, typeInfo, hi, h1, hf, hst]
theorem vcopy_ok (hR : Rel nG β M w) {tys : List Nat} {ty : Nat} {xs : List SV} {K : SV → Mm → Prop} (h : vcopy P tys M xs K) :
    ∃ v w', (Builtin.copy_ tys.toArray ty (vals β xs).toArray).run P w = .ok v w' ∧ OutQ nG β M w K v w' := by
  unfold vcopy at h
  split at h
  · rename_i t tx x
    replace h := vsome_iff.1 h
    obtain ⟨hb, h⟩ := h
    simp only [Bool.and_eq_true] at hb
    obtain ⟨e, i, hu, hi, hi1, hz, hby⟩ := isBytes_ok hb.1
    refine ⟨goInt 0, w, ?_, β, M, .i 0, Ext.refl _ _ _, hR, .inr ⟨rfl, rfl⟩, h⟩
    have hs : ∃ n, (Builtin.lenOf (val β x)).run P w = .ok n w ∧ ∃ cs, (Builtin.firstCells 1 0 (val β x)).run P w = .ok cs w := by
      have hx := hb.2
      unfold isSrc at hx
      split at hx
      · exact ⟨_, rfl, _, rfl⟩
      · rename_i k2 off2 len2 cap2
        exact ⟨_, rfl, #[], run_firstCells_some (P := P) w 1 0 ⟨β k2, off2, none⟩ len2 cap2 [] (by simp) (fun j v hv => by simp at hv)⟩
      · rename_i p len2 cap2
        cases p with
        | none => exact ⟨_, rfl, _, rfl⟩
        | some p => exact ⟨_, rfl, #[], run_firstCells_some (P := P) w 1 0 p len2 cap2 [] (by simp) (fun j v hv => by simp at hv)⟩
      · cases hx
    obtain ⟨n, hn, cs, hcs⟩ := hs
    show (Builtin.copy_ #[t, tx] ty #[.slice none 0 0, val β x]).run P w = _
    have h0 : Nat.min n 0 = 0 := Nat.min_zero n
    simp [Builtin.copy_, run_underlying hu, hn, sizeOf, typeInfo, hi, hi1, h0, hcs]
  · rename_i t tx k off len cap x
    cases hw : isWords32 P t
    case true =>
      rw [hw] at h
      simp only [cond_true] at h
      unfold vcopyW at h
      split at h
      · rename_i c m l ha hk
        replace h := vsome_iff.1 h
        obtain ⟨hcs, h⟩ := h
        simp only [Bool.and_eq_true] at hcs
        obtain ⟨rfl, hl⟩ := hcs
        have hl := Nat.le_of_ble_eq_true hl
        have hh := hR.all k _ hk rfl
        obtain ⟨e, i, hu, hi, hi1⟩ : ∃ e i, P.underlying t = some (.slice e) ∧ P.info? e = some i ∧ i.size = 1 := by
          unfold isWords32 at hw
          split at hw
          · rename_i e hu
            simp only [Bool.and_eq_true] at hw
            obtain ⟨i, hi, hi1⟩ := size_one hw.2
            exact ⟨e, i, hu, hi, hi1⟩
          · cases hw
        have hlen : (m.take len).length = min m.length len := by simp [Nat.min_comm]
        have hsrc2 : (Builtin.lenOf (val β x)).run P w = .ok m.length w ∧ (Builtin.firstCells 1 (Nat.min m.length len) (val β x)).run P w = .ok ((m.take len).map c32).toArray w := by
          cases x <;> simp only [words32, reduceCtorEq] at ha
          case sl k2 off2 len2 cap2 =>
            split at ha
            · rename_i r l2 hk2
              simp only [Option.some.injEq, Prod.mk.injEq] at ha
              obtain ⟨hb2, rfl⟩ := ha
              have hb2 := Nat.le_of_ble_eq_true hb2
              have hl2 : ((l2.drop off2).take len2).length = len2 := by simp; omega
              refine ⟨by rw [hl2]; rfl, ?_⟩
              have hh2 := hR.all k2 _ hk2 rfl
              rw [hl2]
              have e2 : (((l2.drop off2).take len2).take len).length = Nat.min len2 len := by simp [hl2]; show min len len2 = min len2 len; omega
              have := run_firstCells_some (P := P) w 1 (Nat.min len2 len) ⟨β k2, off2, none⟩ len2 cap2 ((((l2.drop off2).take len2).take len).map c32) (by rw [List.length_map, e2, Nat.mul_one]) (fun j v hv => by
                rw [Addr.add_mid]
                have := sub_range (w := w) (off := off2) (n := min len len2) hh2
                refine this j v ?_
                rw [← hv]
                simp [Cont.cells, List.take_take])
              exact this
            · cases ha
        have hrun := copy_run (P := P) (w := w) (tx := tx) (ty := ty) (b := β k) (off := off) (cap := cap) hu hi hi1 hsrc2.1 hsrc2.2 (fun j hj => by
          rw [hh.cell (off + j) _ (List.getElem?_eq_getElem (by simp [Cont.cells] at hj ⊢; omega))]; rfl) (fun j hj => hh.free rfl (off + j) (by simp [Cont.cells] at hj ⊢; omega)) (fun u hu => by obtain ⟨a, -, rfl⟩ := List.mem_map.1 hu; rfl)
        have hH : Holds (w.setCells (β k) off ((m.take len).map c32)) (β k) true ((Cont.a32 (l.take off ++ m.take len ++ l.drop (off + min m.length len))).cells β) := by
          have := hh.setCells (off := off) (vs := (m.take len).map c32) (by simp [Cont.cells]; omega)
          rw [List.length_map, hlen] at this
          simpa [Cont.cells, Cont.shp] using this
        obtain ⟨h1, h2⟩ := hR.set (w' := w.setCells (β k) off ((m.take len).map c32)) (c' := .a32 (l.take off ++ m.take len ++ l.drop (off + min m.length len))) hk rfl (Fp.setCells (β k) _ off w) rfl (fun _ => hH)
        rw [setK_eq] at h
        exact ⟨_, _, hrun, β, _, _, h2, h1, .inr ⟨rfl, rfl⟩, h⟩
      · exact h.elim
    rw [hw] at h
    simp only [cond_false] at h
    cases hw2 : isWords64 P t
    case true =>
      rw [hw2] at h
      simp only [cond_true] at h
      unfold vcopyX at h
      split at h
      · rename_i c m l ha hk
        replace h := vsome_iff.1 h
        obtain ⟨hcs, h⟩ := h
        simp only [Bool.and_eq_true] at hcs
        obtain ⟨rfl, hl⟩ := hcs
        have hl := Nat.le_of_ble_eq_true hl
        have hh := hR.all k _ hk rfl
        obtain ⟨e, i, hu, hi, hi1⟩ : ∃ e i, P.underlying t = some (.slice e) ∧ P.info? e = some i ∧ i.size = 1 := by
          unfold isWords64 at hw2
          split at hw2
          · rename_i e hu
            simp only [Bool.and_eq_true] at hw2
            obtain ⟨i, hi, hi1⟩ := size_one hw2.2
            exact ⟨e, i, hu, hi, hi1⟩
          · cases hw2
        have hlen : (m.take len).length = min m.length len := by simp [Nat.min_comm]
        have hsrc2 : (Builtin.lenOf (val β x)).run P w = .ok m.length w ∧ (Builtin.firstCells 1 (Nat.min m.length len) (val β x)).run P w = .ok ((m.take len).map c64).toArray w := by
          cases x <;> simp only [words64, reduceCtorEq] at ha
          case sl k2 off2 len2 cap2 =>
            split at ha
            · rename_i r l2 hk2
              simp only [Option.some.injEq, Prod.mk.injEq] at ha
              obtain ⟨hb2, rfl⟩ := ha
              have hb2 := Nat.le_of_ble_eq_true hb2
              have hl2 : ((l2.drop off2).take len2).length = len2 := by simp; omega
              refine ⟨by rw [hl2]; rfl, ?_⟩
              have hh2 := hR.all k2 _ hk2 rfl
              rw [hl2]
              have e2 : (((l2.drop off2).take len2).take len).length = Nat.min len2 len := by simp [hl2]; show min len len2 = min len2 len; omega
              have := run_firstCells_some (P := P) w 1 (Nat.min len2 len) ⟨β k2, off2, none⟩ len2 cap2 ((((l2.drop off2).take len2).take len).map c64) (by rw [List.length_map, e2, Nat.mul_one]) (fun j v hv => by
                rw [Addr.add_mid]
                have := sub_range (w := w) (off := off2) (n := min len len2) hh2
                refine this j v ?_
                rw [← hv]
                simp [Cont.cells, List.take_take])
              exact this
            · cases ha
        have hrun := copy_run (P := P) (w := w) (tx := tx) (ty := ty) (b := β k) (off := off) (cap := cap) hu hi hi1 hsrc2.1 hsrc2.2 (fun j hj => by
          rw [hh.cell (off + j) _ (List.getElem?_eq_getElem (by simp [Cont.cells] at hj ⊢; omega))]; rfl) (fun j hj => hh.free rfl (off + j) (by simp [Cont.cells] at hj ⊢; omega)) (fun u hu => by obtain ⟨a, -, rfl⟩ := List.mem_map.1 hu; rfl)
        have hH : Holds (w.setCells (β k) off ((m.take len).map c64)) (β k) true ((Cont.a64 (l.take off ++ m.take len ++ l.drop (off + min m.length len))).cells β) := by
          have := hh.setCells (off := off) (vs := (m.take len).map c64) (by simp [Cont.cells]; omega)
          rw [List.length_map, hlen] at this
          simpa [Cont.cells, Cont.shp] using this
        obtain ⟨h1, h2⟩ := hR.set (w' := w.setCells (β k) off ((m.take len).map c64)) (c' := .a64 (l.take off ++ m.take len ++ l.drop (off + min m.length len))) hk rfl (Fp.setCells (β k) _ off w) rfl (fun _ => hH)
        rw [setK_eq] at h
        exact ⟨_, _, hrun, β, _, _, h2, h1, .inr ⟨rfl, rfl⟩, h⟩
      · exact h.elim
    rw [hw2] at h
    simp only [cond_false] at h
    replace h := vsome_iff.1 h
    obtain ⟨hb, h⟩ := h
    obtain ⟨e, i, hu, hi, hi1, hz, hby⟩ := isBytes_ok hb
    split at h
    · rename_i c m l ha hk
      replace h := vsome_iff.1 h
      obtain ⟨hcs, h⟩ := h
      simp only [Bool.and_eq_true, decide_eq_true_eq] at hcs
      obtain ⟨rfl, hl⟩ := hcs
      have hh := hR.all k _ hk rfl
      have hlen : (m.take len).length = min m.length len := by simp [Nat.min_comm]
      have hsrc2 : (Builtin.lenOf (val β x)).run P w = .ok m.length w ∧ (Builtin.firstCells 1 (Nat.min m.length len) (val β x)).run P w = .ok ((m.take len).map c8).toArray w := by
        cases x <;> simp only [addedBytes, reduceCtorEq] at ha
        case s l2 =>
          simp only [Option.some.injEq, Prod.mk.injEq, true_and] at ha
          subst ha
          refine ⟨congrArg (fun n => Result.ok n w) (txt_size l2), ?_⟩
          simp only [val, Builtin.firstCells]
          rw [txt_extract, List.drop_zero, show Nat.min l2.length len = min l2.length len from rfl]
          have e2 : l2.take (min l2.length len) = l2.take len := by
            rw [List.take_eq_take_iff]; omega
          rw [e2]
          show Result.ok (Array.map (fun b => Value.int IntKind.u8 ↑b.toNat) (txt (List.take len l2)).data) w = _
          congr 1
          apply Array.ext'
          simp only [txt, Array.toList_map, List.map_map]
          apply List.map_congr_left
          intro y _
          simp [c8]
        case sl k2 off2 len2 cap2 =>
          split at ha
          · rename_i r l2 hk2
            simp only [Option.some.injEq, Prod.mk.injEq, decide_eq_true_eq] at ha
            obtain ⟨hb2, rfl⟩ := ha
            have hl2 : ((l2.drop off2).take len2).length = len2 := by simp; omega
            refine ⟨by rw [hl2]; rfl, ?_⟩
            have hh2 := hR.all k2 _ hk2 rfl
            rw [hl2]
            have e2 : (((l2.drop off2).take len2).take len).length = Nat.min len2 len := by simp [hl2]; show min len len2 = min len2 len; omega
            have := run_firstCells_some (P := P) w 1 (Nat.min len2 len) ⟨β k2, off2, none⟩ len2 cap2 ((((l2.drop off2).take len2).take len).map c8) (by rw [List.length_map, e2, Nat.mul_one]) (fun j v hv => by
              rw [Addr.add_mid]
              have := sub_range (w := w) (off := off2) (n := min len len2) hh2
              refine this j v ?_
              rw [← hv]
              simp [Cont.cells, List.take_take])
            exact this
          · cases ha
      have hrun := copy_run (P := P) (w := w) (tx := tx) (ty := ty) (b := β k) (off := off) (cap := cap) hu hi hi1 hsrc2.1 hsrc2.2 (fun j hj => by
        rw [hh.cell (off + j) _ (List.getElem?_eq_getElem (by simp [Cont.cells] at hj ⊢; omega))]; rfl) (fun j hj => hh.free rfl (off + j) (by simp [Cont.cells] at hj ⊢; omega)) (fun u hu => by obtain ⟨a, -, rfl⟩ := List.mem_map.1 hu; rfl)
      have hH : Holds (w.setCells (β k) off ((m.take len).map c8)) (β k) true ((Cont.a8 (l.take off ++ m.take len ++ l.drop (off + min m.length len))).cells β) := by
        have := hh.setCells (off := off) (vs := (m.take len).map c8) (by simp [Cont.cells]; omega)
        rw [List.length_map, hlen] at this
        simpa [Cont.cells, Cont.shp] using this
      obtain ⟨h1, h2⟩ := hR.set (w' := w.setCells (β k) off ((m.take len).map c8)) (c' := .a8 (l.take off ++ m.take len ++ l.drop (off + min m.length len))) hk rfl (Fp.setCells (β k) _ off w) rfl (fun _ => hH)
      rw [setK_eq] at h
      exact ⟨_, _, hrun, β, _, _, h2, h1, .inr ⟨rfl, rfl⟩, h⟩
    · exact h.elim
  · exact h.elim
theorem vbytes_ok (hR : Rel nG β M w) {src dst : Nat} {x : SV} {K : SV → Mm → Prop} (hs : isStrToBytes P src dst = true) (h : vbytes P M x K) :
    ∃ v w', (convert src dst (val β x)).run P w = .ok v w' ∧ OutQ nG β M w K v w' := by
  unfold isStrToBytes at hs
  split at hs
  · rename_i hsrc
    obtain ⟨e, i, hu, hi, hi1, hz, hby⟩ := isBytes_ok hs
    have he : P.underlying e = some (.int .u8) := by
      unfold isBytes at hs
      rw [hu] at hs
      simp only [Bool.and_eq_true] at hs
      have h1 := hs.1.1
      unfold isInt at h1
      split at h1
      · rename_i k hk
        have : k = .u8 := by simpa using (beq_iff_eq.1 h1).symm
        rw [this] at hk; exact hk
      · cases h1
    unfold vbytes at h
    split at h
    · rename_i m
      have hge : m.length ≤ grownCap w m.length 0 e := grownCap_ge w m.length 0 e
      have := h (grownCap w m.length 0 e) _ hge rfl
      rw [snocK_eq] at this
      have hrun := Lib.run_convert_string_bytes (P := P) w src dst e (txt m) hsrc hu he
      rw [txt_size] at hrun
      have hcells : (Lib.bytesCells w e (txt m)).toList = (Cont.a8 (m ++ List.replicate (grownCap w m.length 0 e - m.length) 0)).cells β := by
        unfold Lib.bytesCells
        rw [txt_size]
        simp [Cont.cells, txt, c8]
      have hnew := Lib.bytesWorld_at_new w e (txt m)
      have hfp : Fp0 w (Lib.bytesWorld w e (txt m)) := ⟨rfl, rfl, rfl, by rw [Lib.bytesWorld_size]; omega, fun k hk _ => Lib.bytesWorld_at_old w e (txt m) k hk⟩
      have hH : Holds (Lib.bytesWorld w e (txt m)) w.heap.size true ((Cont.a8 (m ++ List.replicate (grownCap w m.length 0 e - m.length) 0)).cells β) := by
        refine ⟨by rw [Lib.bytesWorld_size]; omega, fun j v hv => ?_, fun _ j hj => ?_, fun s hs => (nomatch hs), fun _ c e lo hi hh => ?_, fun _ hs => by cases hs⟩
        · rw [← hcells] at hv
          simp only [World.cell?, hnew]
          simpa using hv
        · rw [← hcells, Array.length_toList] at hj
          simp only [World.frozen?, hnew]
          simp
          omega
        · rw [hnew] at hh
          simp only [Option.some.injEq, Obj.cells.injEq, Prod.mk.injEq] at hh
          omega
      obtain ⟨h3, h4⟩ := hR.more (w' := Lib.bytesWorld w e (txt m)) (b := w.heap.size) hfp (Nat.le_refl _) (x := .a8 (m ++ List.replicate (grownCap w m.length 0 e - m.length) 0)) rfl hH
      refine ⟨_, _, hrun, _, _, .sl M.length 0 m.length (grownCap w m.length 0 e), h4, h3, .inr ⟨?_, val_new β _ _ _ _⟩, this⟩
      rw [len_app]; exact wf_sl _ _ _ _
    · exact h.elim
  · cases hs
/-- A row of bytes that is turned into its own type is marked behind its end. -/
theorem vmark_ok (hR : Rel nG β M w) {t k off len cap : Nat} {l : List (BitVec 8)} (ht : isBytes P t = true) (hk : M[k]? = some ⟨true, .a8 l⟩) (h0 : 0 < l.length) :
    ∃ w', (convert t t (.slice (some ⟨β k, off, none⟩) len cap)).run P w = .ok (.slice (some ⟨β k, off, none⟩) len cap) w' ∧ Ext β M w β M w' ∧ Rel nG β M w' := by
  have hh : Holds w (β k) true _ _ := hR.all k _ hk rfl
  unfold isBytes at ht
  split at ht
  · rename_i e hu
    simp only [Bool.and_eq_true] at ht
    have he : P.underlying e = some (.int .u8) := by
      have := ht.1.1
      unfold isInt at this
      split at this
      · rename_i k' hk'
        rw [hk']
        cases k' <;> first | rfl | cases this
      · cases this
    have hc0 := hh.cell 0 (c8 (l.getD 0 0)) (by show (l.map c8)[0]? = _; rw [List.getElem?_map, getD_get 0 h0]; rfl)
    have hobj : ∃ C e0 lo hi, w.heap[β k]? = some (.cells C e0 (lo, hi)) := by
      unfold World.cell? at hc0
      cases hb : w.heap[β k]? with
      | none => simp [hb] at hc0
      | some ob =>
        cases ob with
        | cells C e0 f0 => exact ⟨C, e0, f0.1, f0.2, rfl⟩
        | _ => simp [hb] at hc0
    obtain ⟨C, e0, lo, hi, hb⟩ := hobj
    have hcell : ∀ j v, (l.map c8)[j]? = some v → C[j]? = some v := fun j v hv => by
      have := hh.cell j v hv
      simpa [World.cell?, hb] using this
    have hCl : l.length ≤ C.size := by
      rcases Nat.lt_or_ge C.size l.length with q | q
      · have h1 : (l.map c8)[C.size]? = some (c8 (l.getD C.size 0)) := by rw [List.getElem?_map, getD_get 0 q]; rfl
        have h2 := hcell _ _ h1
        simp at h2
      · exact q
    have hsane := hh.iv rfl C e0 lo hi hb
    have hfree : ∀ j, j < l.length → ¬ (lo ≤ j ∧ j < hi) := fun j hj => by
      have := hh.free rfl j (by show j < (l.map c8).length; rw [List.length_map]; exact hj)
      simpa [World.frozen?, hb] using this
    have hnew : (w.freeze ⟨β k, C.size, none⟩ 1).heap[β k]? = some (.cells C e0 (if lo == hi then (C.size, C.size + 1) else (min lo C.size, max hi (C.size + 1)))) := by
      unfold World.freeze
      rw [if_neg (by decide)]
      simp only [Array.getElem?_modify, if_true, hb]
      rfl
    have hrun : (convert t t (.slice (some ⟨β k, off, none⟩) len cap)).run P w = .ok (.slice (some ⟨β k, off, none⟩) len cap) (w.freeze ⟨β k, C.size, none⟩ 1) := by
      have hsh : w.shape? (β k) = some (e0, C.size) := by unfold World.shape?; rw [hb]
      simp [convert, run_underlying hu, run_underlying he, markStringish, hsh]
    have hH : Holds (w.freeze ⟨β k, C.size, none⟩ 1) (β k) true ((Cont.a8 l).cells β) (Cont.a8 l).shp := by
      refine ⟨Nat.lt_of_lt_of_le hh.lt (Fp.freeze w (β k) C.size 1).size, fun j v hv => ?_, fun _ j hj => ?_, fun s hs => (nomatch hs), fun _ c e lo' hi' hq => ?_, fun _ hs => by cases hs⟩
      · simp only [World.cell?, hnew]
        simpa using hcell j v hv
      · have hj' : j < l.length := by
          have : j < (l.map c8).length := hj
          rwa [List.length_map] at this
        have h5 := hfree j hj'
        simp only [World.frozen?, hnew]
        by_cases q : lo = hi
        · rw [if_pos (by simpa using q)]
          simp; omega
        · rw [if_neg (by simpa using q)]
          have h6 := hfree lo
          simp; omega
      · rw [hnew] at hq
        simp only [Option.some.injEq, Obj.cells.injEq] at hq
        have h7 := hq.2.2
        by_cases q : lo = hi
        · rw [if_pos (by simpa using q)] at h7
          simp only [Prod.mk.injEq] at h7
          omega
        · rw [if_neg (by simpa using q)] at h7
          simp only [Prod.mk.injEq] at h7
          omega
    obtain ⟨h3, h4⟩ := hR.set (w' := w.freeze ⟨β k, C.size, none⟩ 1) (c' := .a8 l) hk rfl (Fp.freeze w (β k) C.size 1) rfl (fun _ => hH)
    have hset : M.set k ⟨true, .a8 l⟩ = M := by
      apply List.ext_getElem?
      intro j
      rw [List.getElem?_set]
      split
      · rename_i e; subst e; rw [hk, if_pos (lt_of_get hk)]
      · rfl
    rw [hset] at h3 h4
    exact ⟨_, hrun, h4, h3⟩
  · cases ht
end
end Go.Proofs.Ytkjfecdpakhggaa
