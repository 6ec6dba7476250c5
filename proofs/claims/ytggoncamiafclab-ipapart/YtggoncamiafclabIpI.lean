/-
  ip: slices.SortFunc of pieces. No statement is proved here.
-/
import Derived.Test.YtggoncamiafclabIpH
namespace Go.Proofs.Ytggoncamiafclab
open Go.RowKit Go.Lib Go.Sort
set_option linter.unusedVariables false
set_option linter.unusedSimpArgs false
set_option maxRecDepth 100000

abbrev Pq := Int × ByteArray × Bool × Int
def toQ (r : Pc) : Pq := (r.1, txt r.2.1, r.2.2.1, ((r.2.2.2.1.toNat : Nat) : Int))
def fromQ (q : Pq) : Pc := (q.1, bts q.2.1, q.2.2.1, BitVec.ofInt 8 q.2.2.2, ())
theorem from_to (r : Pc) : fromQ (toQ r) = r := by
  obtain ⟨a, m, b, t, u⟩ := r
  show (a, bts (txt m), b, BitVec.ofInt 8 ((t.toNat : Nat) : Int), ()) = _
  rw [bts_txt, ofInt_cast]
theorem enc_toQ (r : Pc) : encP (toQ r) = rvs fsP r := rfl
/-- By rising places. -/
def upP (l : List Pc) : Prop := l.Pairwise fun x y => x.1 ≤ y.1
theorem flat_get (d : Array Pq) (t : Nat) (h : t < d.size * 4) : (flatK encP 4 d)[t]! = (encP d[t / 4]!)[t % 4]! := get_flatK encP 4 d t h
theorem rowsP_at (l : List Pc) (t : Nat) (h : t < l.length * 4) : (rows fsP l)[t]? = some ((encP ((l.map toQ).toArray)[t / 4]!)[t % 4]!) := by
  have h1 : t / 4 < l.length := by omega
  have h2 := rows_get fsP l (t / 4) h1
  have e4 : fsP.length = 4 := rfl
  rw [e4] at h2
  have h3 : (((rows fsP l).drop (t / 4 * 4)).take 4)[t % 4]? = (rows fsP l)[t]? := by
    rw [List.getElem?_take_of_lt (by omega), List.getElem?_drop]
    congr 1; omega
  rw [← h3, h2, ← enc_toQ]
  have h5 : ((l.map toQ).toArray)[t / 4]! = toQ (l.getD (t / 4) (rz fsP)) := by
    rw [getElem!_pos _ _ (by simpa using h1), List.getD_eq_getElem?_getD, List.getElem?_eq_getElem h1]
    simp
  rw [h5]
  have hlen : (encP (toQ (l.getD (t / 4) (rz fsP)))).length = 4 := rfl
  rw [getElem!_pos _ _ (by rw [hlen]; omega), List.getElem?_eq_getElem]
theorem mapBlock_shape (w : World) (blk off : Nat) (d : Array Value) (b : Nat) : (Sort.putRow id w blk off d).shape? b = w.shape? b := by
  unfold World.shape? Sort.putRow Sort.mapBlock
  simp only [Array.getElem?_modify]
  by_cases e : blk = b
  · rw [if_pos e]
    cases h : w.heap[b]? with
    | none => rfl
    | some o => cases o <;> simp [Sort.onCells, Sort.putCells]
  · rw [if_neg e]
theorem mapBlock_other (w : World) (blk off : Nat) (d : Array Value) (b : Nat) (h : b ≠ blk) : (Sort.putRow id w blk off d).heap[b]? = w.heap[b]? := by
  unfold Sort.putRow Sort.mapBlock
  simp only [Array.getElem?_modify]
  rw [if_neg (Ne.symm h)]
theorem mapBlock_sane (w : World) (blk off : Nat) (d : Array Value) (b : Nat) (h : Sane w b) : Sane (Sort.putRow id w blk off d) b := fun c e lo hi hh => by
  unfold Sort.putRow Sort.mapBlock at hh
  simp only [Array.getElem?_modify] at hh
  by_cases q : blk = b
  · rw [if_pos q] at hh
    cases hb : w.heap[b]? with
    | none => rw [hb] at hh; cases hh
    | some o =>
      rw [hb] at hh
      cases o with
      | cells c0 e0 f0 =>
        obtain ⟨lo0, hi0⟩ := f0
        simp only [Option.map_some, Sort.onCells, Option.some.injEq, Obj.cells.injEq, Prod.mk.injEq] at hh
        obtain ⟨-, rfl, rfl, rfl⟩ := hh
        exact h c0 e0 lo0 hi0 hb
      | _ => simp [Sort.onCells] at hh
  · rw [if_neg q] at hh; exact h c e lo hi hh
def cSort : List SV → Mm → (SV → Mm → Prop) → Prop
  | [.rs k base eo sz len _, .fn f []], M, K => match M[k]? with
    | some ⟨true, c⟩ => match unR c with
      | some l => vsome (Nat.beq base 0 && (Nat.beq eo 0 && (Nat.beq sz 4 && (Nat.ble len l.length && (Nat.ble len 4294967296 && Nat.beq f 32))))) (∀ l' : List Pc, l'.Perm (l.take len) → upP l' → setK M k ⟨true, .recs (some 60) fsP [] (l' ++ l.drop len)⟩ fun M2 => K (.tup []) M2)
      | none => False
    | _ => False
  | _, _, _ => False
theorem sort_ok : COk Try.prog G 31 cSort := by
  intro args M K h
  unfold cSort at h
  split at h
  · rename_i k base eo sz len cap f
    split at h
    · rename_i c hk
      split at h
      · rename_i l hl
        obtain rfl := unR_ok hl
        obtain ⟨hc, h'⟩ := vsome_iff.1 h
        clear h
        simp only [Bool.and_eq_true] at hc
        obtain ⟨h1, h2, h3, h4, h5, h6⟩ := hc
        obtain rfl := Nat.eq_of_beq_eq_true h1
        obtain rfl := Nat.eq_of_beq_eq_true h2
        obtain rfl := Nat.eq_of_beq_eq_true h3
        obtain rfl := Nat.eq_of_beq_eq_true h6
        have h4 := Nat.le_of_ble_eq_true h4
        have h5 := Nat.le_of_ble_eq_true h5
        intro β w hR hw
        have hh : Holds w (β k) true (rows fsP l) (some (60, ([] : List Value).length + l.length * 4)) := hR.all k _ hk rfl
        have hlen : (l.take len).length = len := by rw [List.length_take]; omega
        have hcells := rows_len fsP l
        have e4 : fsP.length = 4 := rfl
        rw [e4] at hcells
        have hd : (((l.take len).map toQ).toArray).size = len := by simp; omega
        have hH : HoldsK encP 4 w (β k) 0 ((l.take len).map toQ).toArray := by
          intro j hj
          rw [size_flatK, hd] at hj
          rw [Nat.zero_add]
          refine ⟨?_, hh.free rfl j (by omega)⟩
          have g1 := rowsP_at (l.take len) j (by omega)
          have g2 : (rows fsP l)[j]? = some ((encP (((l.take len).map toQ).toArray)[j / 4]!)[j % 4]!) := by
            rw [← g1, rows_take, e4, List.getElem?_take_of_lt hj]
          have g3 := flat_get ((l.take len).map toQ).toArray j (by rw [hd]; exact hj)
          rw [id, g3]
          exact hh.cell j _ g2
        have hcall := sort_any (β k) cap ((l.take len).map toQ).toArray w hH hh.lt (by rw [hd]; omega)
        rw [hd] at hcall
        refine .inr ⟨enter_run Try.func31 rfl (by kernel_rfl) _ _, hcall.mono fun e w' hw' => ?_⟩
        obtain ⟨rfl, d', n, os, hp, hs, rfl⟩ := hw'
        refine ⟨_, rfl, ?_⟩
        -- what the row holds
        have hsz : d'.size = len := by rw [hp.1, hd]
        have hperm : d'.toList.Perm ((l.take len).map toQ) := by
          have := hp.2.2
          have t2 : (List.take len ((l.take len).map toQ)) = (l.take len).map toQ := List.take_of_length_le (by rw [List.length_map, hlen]; exact Nat.le_refl _)
          have t3 := this
          simp only [Array.toList_extract, List.extract_eq_take_drop, List.drop_zero, Nat.sub_zero] at t3
          rw [List.take_of_length_le (by rw [Array.length_toList, hsz]; exact Nat.le_refl _), t2] at t3
          exact t3
        let l' : List Pc := d'.toList.map fromQ
        have hp' : l'.Perm (l.take len) := by
          have := hperm.map fromQ
          rw [List.map_map] at this
          have e : fromQ ∘ toQ = id := funext from_to
          rw [e, List.map_id] at this
          exact this
        have hto : (l'.map toQ).toArray = d' := by
          apply Array.ext'
          show (d'.toList.map fromQ).map toQ = d'.toList
          rw [List.map_map]
          conv => rhs; rw [← List.map_id d'.toList]
          apply List.map_congr_left
          intro q hq
          obtain ⟨r, -, rfl⟩ := List.mem_map.1 (hperm.mem_iff.1 hq)
          show toQ (fromQ (toQ r)) = _
          rw [from_to]; rfl
        have hl' : l'.length = len := by rw [hp'.length_eq, hlen]
        have hup : upP l' := by
          rw [upP, List.pairwise_iff_getElem]
          intro i j hi hj hij
          have g := hs i j (Nat.zero_le _) hij (by omega)
          rw [byAt_lt] at g
          have gi : d'[i]! = toQ l'[i] := by
            rw [← hto, getElem!_pos _ _ (by simp; exact hi)]; simp
          have gj : d'[j]! = toQ l'[j] := by
            rw [← hto, getElem!_pos _ _ (by simp; exact hj)]; simp
          rw [gi, gj] at g
          have := of_decide_eq_false g
          exact Int.not_lt.1 this
        have hK := h' l' hp' hup
        rw [setK_eq] at hK
        have hgrow : ∀ b, b < w.heap.size → (sortWorldK encP 4 w (β k) 0 n d' os).heap[b]? = (Sort.putRow id (Sort.ahead w n) (β k) 0 (flatK encP 4 d')).heap[b]? := fun b hb => by
          unfold sortWorldK putRowK
          exact heap_grow_old _ _ (by rw [Sort.size_putRow]; exact hb)
        have hF : Fp (fun i => i = β k) w (sortWorldK encP 4 w (β k) 0 n d' os) := ⟨rfl, rfl, rfl, by unfold sortWorldK putRowK; rw [size_grow, Sort.size_putRow]; exact Nat.le_add_right _ _, fun b hb hne => by rw [hgrow b hb, mapBlock_other _ _ _ _ _ hne]; rfl⟩
        have hHn : Holds (sortWorldK encP 4 w (β k) 0 n d' os) (β k) true (rows fsP (l' ++ l.drop len)) (some (60, ([] : List Value).length + (l' ++ l.drop len).length * 4)) := by
          have hg := hgrow (β k) hh.lt
          have hl2 : (l' ++ l.drop len).length = l.length := by rw [List.length_append, List.length_drop, hl']; omega
          rw [hl2]
          have hrl : (rows fsP (l' ++ l.drop len)).length = l.length * 4 := by rw [rows_len, hl2, e4]
          have hr1 : (rows fsP l').length = len * 4 := by rw [rows_len, hl', e4]
          refine ⟨Nat.lt_of_lt_of_le hh.lt hF.size, fun j v hv => ?_, fun _ j hj => ?_, fun s hs' => ?_, fun _ => ?_, fun _ _ j => ?_⟩
          · rw [World.cell?_of_block (w := Sort.putRow id (Sort.ahead w n) (β k) 0 (flatK encP 4 d')) hg]
            rw [rows_append] at hv
            rcases Nat.lt_or_ge j (len * 4) with q | q
            · have hHold := holdsK_putRowK (k := 4) (enc := encP) (Sort.ahead w n) (β k) 0 ((l.take len).map toQ).toArray d' hH (by rw [hsz, hd])
              have hq := (hHold j (by rw [size_flatK, hsz]; exact q)).1
              rw [Nat.zero_add] at hq
              rw [List.getElem?_append_left (by omega)] at hv
              have g1 := rowsP_at l' j (by omega)
              rw [hto] at g1
              rw [g1] at hv
              obtain rfl := Option.some.inj hv
              rw [id, flat_get d' j (by rw [hsz]; exact q)] at hq
              exact hq
            · rw [List.getElem?_append_right (by omega), hr1] at hv
              have hdr := rows_drop fsP l len
              rw [e4] at hdr
              rw [hdr, List.getElem?_drop] at hv
              rw [Sort.cell?_putRow_other id (Sort.ahead w n) (β k) 0 (flatK encP 4 d') ⟨β k, j, none⟩ (.inr (.inr (by rw [size_flatK, hsz]; show 0 + len * 4 ≤ j; omega)))]
              refine hh.cell j v ?_
              rw [← hv]; congr 1; omega
          · rw [World.frozen?_of_block (w := Sort.putRow id (Sort.ahead w n) (β k) 0 (flatK encP 4 d')) hg, Sort.frozen?_putRow]
            exact hh.free rfl j (by omega)
          · rw [shape_of_block hg, mapBlock_shape]
            exact hh.shp s hs'
          · intro c e lo hi hx
            rw [hg] at hx
            exact mapBlock_sane (Sort.ahead w n) (β k) 0 (flatK encP 4 d') (β k) (hh.iv rfl) c e lo hi hx
          · rw [World.frozen?_of_block (w := Sort.putRow id (Sort.ahead w n) (β k) 0 (flatK encP 4 d')) hg, Sort.frozen?_putRow]
            exact hh.fz rfl rfl j
        obtain ⟨h7, h8⟩ := hR.set (c' := .recs (some 60) fsP [] (l' ++ l.drop len)) hk rfl hF rfl (fun _ => hHn)
        exact ⟨β, _, .tup [], h8, h7, ⟨rfl, rfl⟩, hK⟩
      · exact h.elim
    · exact h.elim
  · exact h.elim
end Go.Proofs.Ytggoncamiafclab
