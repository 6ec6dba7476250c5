/-
  ip: the map of sets, in the reckoner: what is looked up, put, struck. No statement is proved here.
-/
import Derived.Test.YtggoncamiafclaaIpK
import Derived.Shelf.Strings.Builder1
import Derived.Test.YtggoncamiafclaaProg
namespace Go.Proofs.Ytggoncamiafclaa
open Go.RowKit
set_option linter.unusedVariables false
set_option linter.unusedSimpArgs false
set_option maxRecDepth 100000
theorem del_perm (s : St) (n : Nm) : ((s.del n).gs ++ (s.del n).es).Perm (s.gs ++ s.es) := by
 show ((s.gs ++ (s.get n).toList) ++ s.es.eraseP (isNm n)).Perm _
 rw [List.append_assoc]
 refine List.Perm.append_left _ ?_
 unfold St.get
 induction s.es with
 | nil => exact List.Perm.refl _
 | cons e es ih =>
  rw [List.find?_cons, List.eraseP_cons]
  cases isNm n e
  ·simp only [cond_false]
   exact List.perm_middle.trans (ih.cons _)
  ·exact List.Perm.refl _
def unNm : SV → Option Nm
 | .agg [.w32 a, .w32 b, .w8 c, .w16 d] => some ⟨a, b, c, d⟩
 | _ => none
theorem unNm_ok {x : SV} {n : Nm} (h : unNm x = some n) : x = nmSv n := by
 unfold unNm at h
 split at h
 ·cases h; rfl
 ·cases h
def hLook (t : Nat) (c : Bool) (xs : List SV) (M : Mm) (K : SV → Mm → Prop) : Prop := match xs with
 | [.mp k, key] => match M[k]?, unNm key with
  | some ⟨_, .res s⟩, some n => vsome (Nat.beq t 71 && (!c && !s.was)) ((∀ e, s.get n = some e → K (.v (.pointer (some ⟨e.sb, 0, none⟩))) M) ∧ (s.get n = none → K (.v (.pointer none)) M))
  | _, _ => False
 | _ => False
def hPut (t : Nat) (xs : List SV) (M : Mm) (K : SV → Mm → Prop) : Prop := match xs with
 | [.mp k, key, .ptr j 0] => match M[k]?, M[j]?, unNm key with
  | some ⟨true, .res s⟩, some ⟨true, .row [.w64 u, .v (.slice none 0 0)]⟩, some n => vsome (Nat.beq t 71 && !s.was) (s.get n = none ∧ ∀ x, (∀ e ∈ s.gs ++ s.es, e.sb ≠ x) → setK M j ⟨true, .res (wasAt x)⟩ fun M1 => setK M1 k ⟨true, .res (s.put (newE n s.clk x u))⟩ fun M2 => K .any M2)
  | _, _, _ => False
 | _ => False
def hMake (t : Nat) (xs : List SV) (M : Mm) (K : SV → Mm → Prop) : Prop := match xs with
 | [] => vsome (Nat.beq t 71) (∀ x, snocK M ⟨true, .res ⟨x, 0, [], false, none, []⟩⟩ fun M2 => K (.mp M.length) M2)
 | _ => False
def hDel (ts : List Nat) (xs : List SV) (M : Mm) (K : SV → Mm → Prop) : Prop := match ts, xs with
 | [t, t2], [.mp k, key] => match M[k]?, unNm key with
  | some ⟨true, .res s⟩, some n => vsome (Nat.beq t 71 && (Nat.beq t2 76 && !s.was)) (setK M k ⟨true, .res (s.del n)⟩ fun M2 => K (.tup []) M2)
  | _, _ => False
 | _, _ => False
def hIp : HT := fun op xs M K => match op with
 | .lookup t _ _ c => hLook t c xs M K
 | .mapUpdate t _ _ _ => hPut t xs M K
 | .makeMap t none => hMake t xs M K
 | .call c => match c.callee with
  | .builtin .delete => hDel c.argTypes.toList xs M K
  | _ => False
 | _ => False
theorem hIp_ok (nG : Mm) : HTok Try.prog nG hIp := by
 intro o xs M K h ρ β w hR ho hx
 unfold hIp at h
 split at h
 ·rename_i t x ix c hop
  unfold hLook at h
  split at h
  ·rename_i k key
   split at h
   ·rename_i r s n hk hn
    obtain rfl := unNm_ok hn
    obtain ⟨hc, h1, h2⟩ := vsome_iff.1 h
    simp only [Bool.and_eq_true, Bool.not_eq_true'] at hc
    obtain ⟨ht, rfl, hw⟩ := hc
    obtain rfl := Nat.eq_of_beq_eq_true ht
    obtain ⟨hb, hRi⟩ := hR.at_res hk
    have hmap := res_map hRi hw
    rw [hop] at ho
    have ho : [ρ x, ρ ix] = [.map (some (β k)), n.v] := ho
    simp only [List.cons.injEq, and_true] at ho
    obtain ⟨e1, e2⟩ := ho
    have hrun : (execOp ρ o).run Try.prog w = .ok (.value (ptrO (s.get n))) w := by
     have h0 := run_look s n hmap
     unfold execOp
     simp only [hop]
     rw [e1, e2, hb]
     exact run_v h0
    refine .inl ⟨_, _, hrun, ?_⟩
    cases hg : s.get n with
    | none => exact ⟨β, M, .v (.pointer none), Ext.refl _ _ _, hR, .inr ⟨rfl, rfl⟩, h2 hg⟩
    | some e => exact ⟨β, M, .v (.pointer (some ⟨e.sb, 0, none⟩)), Ext.refl _ _ _, hR, .inr ⟨rfl, rfl⟩, h1 e hg⟩
   ·exact h.elim
  ·exact h.elim
 ·rename_i t m kk x hop
  unfold hPut at h
  split at h
  ·rename_i k key j
   split at h
   ·rename_i s u n hk hj hn
    obtain rfl := unNm_ok hn
    obtain ⟨hc, hg, h1⟩ := vsome_iff.1 h
    simp only [Bool.and_eq_true, Bool.not_eq_true'] at hc
    obtain ⟨ht, hw⟩ := hc
    obtain rfl := Nat.eq_of_beq_eq_true ht
    obtain ⟨hb, hRi⟩ := hR.at_res hk
    have hmap := res_map hRi hw
    rw [hop] at ho
    have ho : [ρ m, ρ kk, ρ x] = [.map (some (β k)), n.v, .pointer (some ⟨β j, 0, none⟩)] := ho
    simp only [List.cons.injEq, and_true] at ho
    obtain ⟨e1, e2, e3⟩ := ho
    have h2 := h1 (β j) (fun e he q => hR.dis k j _ _ hk hj (fun q2 => by subst q2; rw [hk] at hj; cases hj) rfl rfl rfl e.sb (by
     show e.sb ∈ s.objs.map (·.1)
     rw [res_objs hw, List.map_cons]
     refine List.mem_cons_of_mem _ (List.mem_map.2 ⟨(e.sb, _), List.mem_flatMap.2 ⟨e, he, List.mem_cons_self ..⟩, rfl⟩)) q)
    rw [setK_eq, setK_eq] at h2
    obtain ⟨g1, g2⟩ := hR.take (n := n) hk hw hj
    have hpush : (s.es.map SetE.entry).toArray.push { key := n.v, val := .pointer (some ⟨β j, 0, none⟩), born := s.clk } = ((s.put (newE n s.clk (β j) u)).es.map SetE.entry).toArray := by
     simp [St.put, newE, SetE.entry]
    have hrun := run_put s n ⟨β j, 0, none⟩ hmap hg
    rw [hpush] at hrun
    refine .inr (.inl ⟨_, ?_, _, _, .any, g2, g1, .inl rfl, h2⟩)
    unfold execOp
    simp only [hop]
    rw [e1, e2, e3, hb]
    simp [hrun]
   ·exact h.elim
  ·exact h.elim
 ·rename_i t hop
  unfold hMake at h
  split at h
  ·obtain ⟨ht, h1⟩ := vsome_iff.1 h
   obtain rfl := Nat.eq_of_beq_eq_true ht
   have h2 := h1 w.heap.size
   rw [snocK_eq] at h2
   have hF := Fp.alloc w (.map #[] 0)
   have hnew : (w.alloc (.map #[] 0)).heap[w.heap.size]? = some (.map #[] 0) := by
    show (w.heap.push (.map #[] 0))[w.heap.size]? = _
    simp
   obtain ⟨g1, g2⟩ := hR.moreR (b := w.heap.size) (x := .res ⟨w.heap.size, 0, [], false, none, []⟩) hF (fun i hi => by
    have hi : i ∈ [w.heap.size] := hi
    rw [List.mem_singleton.1 hi]; exact Nat.le_refl _) rfl ⟨rfl, fun p hp => by
     have hp : p ∈ [(w.heap.size, RO.map #[] 0)] := hp
     rw [List.mem_singleton.1 hp]; exact hnew, by simp [St.objs]⟩
   refine .inl ⟨.map (some w.heap.size), _, ?_, _, _, .mp M.length, g2, g1, .inr ⟨?_, ?_⟩, h2⟩
   ·have hrun : (Instr.makeMap 71 none).run Try.prog w = .ok (.map (some w.heap.size)) (w.alloc (.map #[] 0)) := by kernel_rfl
    unfold execOp
    simp only [hop]
    exact run_v hrun
   ·show Nat.blt M.length _ = true
    rw [Nat.blt_eq]; simp
   ·show Value.map _ = .map (some (upd1 β M.length w.heap.size M.length))
    unfold upd1; rw [if_pos rfl]
  ·exact h.elim
 ·rename_i c hop
  split at h
  ·rename_i hcal
   unfold hDel at h
   split at h
   ·rename_i t t2 k key hts
    split at h
    ·rename_i s n hk hn
     obtain rfl := unNm_ok hn
     obtain ⟨hc, h1⟩ := vsome_iff.1 h
     simp only [Bool.and_eq_true, Bool.not_eq_true'] at hc
     obtain ⟨ht, ht2, hw⟩ := hc
     obtain rfl := Nat.eq_of_beq_eq_true ht
     obtain rfl := Nat.eq_of_beq_eq_true ht2
     obtain ⟨hb, hRi⟩ := hR.at_res hk
     have hmap := res_map hRi hw
     rw [setK_eq] at h1
     obtain ⟨g1, g2⟩ := hR.turn (s' := s.del n) hk hw hw rfl (del_perm s n)
     have hargs : c.args.map ρ = #[.map (some s.mb), n.v] := by
      have hcl : c.args.toList.map ρ = [.map (some (β k)), n.v] := by
       rw [hop] at ho
       have hv : vals β [.mp k, nmSv n] = [.map (some (β k)), n.v] := rfl
       rw [hv] at ho
       simpa [Op.operands, Call.operands, hcal] using ho
      apply Array.ext'
      rw [← hb]
      simpa using hcl
     have htys : c.argTypes = #[71, 76] := Array.ext' hts
     have hrun := run_del s n hmap o.type
     refine bi_run hop hcal (Builtin.delete_ #[71, 76] o.type #[.map (some s.mb), n.v]) (fun consts => ?_) hrun _ ⟨β, _, .tup [], g2, g1, .inr ⟨rfl, rfl⟩, h1⟩
     rw [hargs, htys]; rfl
    ·exact h.elim
   ·exact h.elim
  ·exact h.elim
 ·exact h.elim
end Go.Proofs.Ytggoncamiafclaa
namespace Go.Proofs.Ytggoncamiafclaa
open Go.RowKit
set_option linter.unusedVariables false
set_option linter.unusedSimpArgs false
set_option maxRecDepth 100000

def endP (c : Pc) : Int := c.1 + (List.length c.2.1 : Nat)
def pAt (l : List Pc) (k : Nat) : Pc := l.getD k (rz fsP)
def endW (l : List Pc) : Nat → Int
  | 0 => 0
  | k + 1 => endP (pAt l k)
def moreW (l : List Pc) : Nat → Bool
  | 0 => true
  | k + 1 => (pAt l k).2.2.1
def goodW (l : List Pc) : Nat → Bool
  | 0 => true
  | k + 1 => goodW l k && ((pAt l k).1 == endW l k)
def i52 (len cap k : Nat) (z : Int) (b : Bool) : List (Nat × SV) := [(0, .ptr 0 0), (3, .i z), (4, .b b), (10, .rs 1 0 0 4 len cap), (11, .i (len : Nat)), (12, .i (k : Nat))]
theorem r52 (u : BitVec 64) (l : List Pc) (len cap k : Nat) (x : Int) (b : Bool) (x' : Int) (b' : Bool) (y : Bool) (p q z : Prop) : (frK 27 (i52 len cap k x b) fun fr => vround Try.prog ENa noL 52 0 fr (Mr u l len cap) (Kt (Mr u l len cap) 0 27 p (i52 len cap (k + 1) x' b') (Mr u l len cap) q [(4, .b y)] (Mr u l len cap) z [(2, .b false)] (Mr u l len cap))) = (bif ilt (↑k : Int) (↑len : Int) then bif inR (↑k : Int) len then bif rok 0 k 4 fsP [] l.length && true then bif (l.getD k (rz fsP)).fst != x then z ∧ SV.b false = SV.b false ∧ (true = true ∧ Cont.row [SV.w64 u, SV.rs 1 0 0 4 len cap] = Cont.row [SV.w64 u, SV.rs 1 0 0 4 len cap]) ∧ (true = true ∧ Cont.recs (some 92) fsP [] l = Cont.recs (some 92) fsP [] l) ∧ True else bif inI ((l.getD k (rz fsP)).fst + (↑(List.length (l.getD k (rz fsP)).snd.fst) : Int)) then bif inI ((↑k : Int) + 1) then p ∧ SV.ptr 0 0 = SV.ptr 0 0 ∧ SV.i ((l.getD k (rz fsP)).fst + (↑(List.length (l.getD k (rz fsP)).snd.fst) : Int)) = SV.i x' ∧ SV.b (l.getD k (rz fsP)).snd.snd.fst = SV.b b' ∧ SV.rs 1 0 0 4 len cap = SV.rs 1 0 0 4 len cap ∧ SV.i (↑len : Int) = SV.i (↑len : Int) ∧ SV.i ((↑k : Int) + 1) = SV.i (↑(k + 1) : Int) ∧ (true = true ∧ Cont.row [SV.w64 u, SV.rs 1 0 0 4 len cap] = Cont.row [SV.w64 u, SV.rs 1 0 0 4 len cap]) ∧ (true = true ∧ Cont.recs (some 92) fsP [] l = Cont.recs (some 92) fsP [] l) ∧ True else False else False else False else False else 0 = 0 ∧ q ∧ SV.b b = SV.b y ∧ (true = true ∧ Cont.row [SV.w64 u, SV.rs 1 0 0 4 len cap] = Cont.row [SV.w64 u, SV.rs 1 0 0 4 len cap]) ∧ (true = true ∧ Cont.recs (some 92) fsP [] l = Cont.recs (some 92) fsP [] l) ∧ True) := by kernel_rfl
def L52 (u : BitVec 64) (l : List Pc) (len cap : Nat) (q z : Prop) : LT := noL.add 0 (vLoopR (Mr u l len cap) 27 (i52 len cap 0 0 true) (Mr u l len cap) q [(4, .b (moreW l len))] (Mr u l len cap) z [(2, .b false)] (Mr u l len cap))
theorem v52 (u : BitVec 64) (l : List Pc) (len cap : Nat) (q z : Prop) (K : SV → Mm → Prop) : (vf Try.prog ENa (L52 u l len cap q z) 52 [.ptr 0 0] (Mr u l len cap) K) = (loopOf Try.prog 52 0 = loopOf Try.prog 52 0 ∧ SV.ptr 0 0 = SV.ptr 0 0 ∧ SV.i 0 = SV.i 0 ∧ SV.b true = SV.b true ∧ SV.rs 1 0 0 4 len cap = SV.rs 1 0 0 4 len cap ∧ SV.i (↑len : Int) = SV.i (↑len : Int) ∧ SV.i 0 = SV.i (↑0 : Int) ∧ (true = true ∧ Cont.row [SV.w64 u, SV.rs 1 0 0 4 len cap] = Cont.row [SV.w64 u, SV.rs 1 0 0 4 len cap]) ∧ (true = true ∧ Cont.recs (some 92) fsP [] l = Cont.recs (some 92) fsP [] l) ∧ (q → K (SV.b !moreW l len) (Mr u l len cap)) ∧ (z → K (SV.b false) (Mr u l len cap))) := by kernel_rfl
theorem goodW_le (l : List Pc) : ∀ (k n : Nat), k ≤ n → goodW l k = false → goodW l n = false
  | k, n, h, hk => by
    induction n with
    | zero => obtain rfl : k = 0 := by omega
              exact hk
    | succ n ih =>
      rcases Nat.lt_or_eq_of_le h with q | rfl
      · show (goodW l n && _) = false
        rw [ih (by omega)]; rfl
      · exact hk
def wholeP (l : List Pc) (len : Nat) : Bool := goodW l len && !moreW l len
theorem s52 (u : BitVec 64) (l : List Pc) (len cap : Nat) (hl : len ≤ l.length) (hb : len ≤ 4294967296) (hr : okR (l.take len)) : Spec Try.prog G 52 [.ptr 0 0] (Mr u l len cap) (fun r M => r = .b (wholeP l len) ∧ M = Mr u l len cap) := by
  have hL : LOk Try.prog G (Mr u l len cap) 52 (L52 u l len cap (goodW l len = true) (goodW l len = false)) := by
    refine LT.add_ok (noL_ok _ _ _ _) (loop_ret ena_ok mixed (noL_ok _ _ _ _) (by show 0 ≤ 2; decide) (by kernel_rfl) (fun k => i52 len cap k (endW l k) (moreW l k)) (fun _ => Mr u l len cap) (fun k => k ≤ len ∧ goodW l k = true) (fun k => len - k) (fun k => k + 1) 0 ⟨Nat.zero_le _, rfl⟩ (fun k hp => of_eq (r52 u l len cap k _ _ _ _ _ _ _ _) ?_))
    obtain ⟨hk, hg⟩ := hp
    cases hc : ilt (k : Int) (len : Int)
    · have := of_nilt hc
      obtain rfl : k = len := by omega
      exact ⟨rfl, hg, rfl, ⟨rfl, rfl⟩, ⟨rfl, rfl⟩, trivial⟩
    · have hlt := of_ilt hc
      have hx : okQ (l.getD k (rz fsP)) := by
        refine hr _ ?_
        rw [← getD_take _ _ len _ hlt, List.getD_eq_getElem?_getD, List.getElem?_eq_getElem (by rw [List.length_take]; omega)]
        exact List.getElem_mem _
      obtain ⟨o1, o2, o3⟩ := hx
      refine bif_of (inRn hlt hb) (bif_of (rok0 (by omega)) ?_)
      have ed : ((l.getD k (rz fsP)).fst != endW l k) = !((pAt l k).1 == endW l k) := rfl
      rw [ed]
      cases hd : ((pAt l k).1 == endW l k)
      · refine ⟨goodW_le l (k + 1) len (by omega) ?_, rfl, ⟨rfl, rfl⟩, ⟨rfl, rfl⟩, trivial⟩
        show (goodW l k && ((pAt l k).1 == endW l k)) = false
        rw [hd, Bool.and_false]
      · refine bif_of (inI_iff.2 (by omega)) (bif_of (inI_iff.2 (by omega)) ⟨⟨⟨by omega, ?_⟩, by omega⟩, rfl, rfl, rfl, rfl, rfl, rfl, ⟨rfl, rfl⟩, ⟨rfl, rfl⟩, trivial⟩)
        show (goodW l k && ((pAt l k).1 == endW l k)) = true
        rw [hd, hg]; rfl
  refine vf_ok ena_ok mixed hL (of_eq (v52 u l len cap _ _ _) ⟨rfl, rfl, rfl, rfl, rfl, rfl, rfl, ⟨rfl, rfl⟩, ⟨rfl, rfl⟩, fun h => ⟨?_, rfl⟩, fun h => ⟨?_, rfl⟩⟩)
  · unfold wholeP; rw [h]; rfl
  · unfold wholeP; rw [h]; rfl
end Go.Proofs.Ytggoncamiafclaa
namespace Go.Proofs.Ytggoncamiafclaa
open Go.Shelf Go.RowKit
def bl_ren : Go.Shelf.Ren := ⟨fun | 240 => 66 | 276 => 78 | n => n, fun | 70 => 102 | 72 => 104 | 37 => 55 | 164 => 125 | n => n, fun | n => n⟩
theorem bl_lays : Go.Proofs.Lays.n240 Try.prog bl_ren := {
 mixed := by kernel_rfl
 f240 := Try.func66.trans (congrArg some (by kernel_rfl))
 f276 := Try.func78.trans (congrArg some (by kernel_rfl))
 t0 := Try.underlying0
 a0 := Try.isAgg0
 z0 := Try.sizeOf0
 v0 := Try.zeroValue0
 t4 := Try.underlying4
 a4 := Try.isAgg4
 z4 := Try.sizeOf4
 v4 := Try.zeroValue4
 t9 := Try.underlying9
 a9 := Try.isAgg9
 z9 := Try.sizeOf9
 v9 := Try.zeroValue9
 t20 := Try.underlying20
 a20 := Try.isAgg20
 z20 := Try.sizeOf20
 v20 := Try.zeroValue20
 t70 := Try.underlying102
 a70 := Try.isAgg102
 z70 := Try.sizeOf102
 v70 := Try.zeroValue102
 t72 := Try.underlying104
 a72 := Try.isAgg104
 z72 := Try.sizeOf104
 v72 := Try.zeroValue104
 t164 := Try.underlying125
 a164 := Try.isAgg125
 z164 := Try.sizeOf125
 v164 := Try.zeroValue125 }
theorem bl_x : Builder.X72 Try.prog bl_ren := {
 sizeBuilder := by kernel_rfl
 liesBuilder := by kernel_rfl }
theorem bl_used (b : Nat) (w : World) (h0 : w.cell? ⟨b, 0, none⟩ = some (.pointer (some ⟨b, 0, none⟩))) :
  Calls Try.prog 66 #[.pointer (some ⟨b, 0, none⟩)] w fun e w' => e = .returned (.tuple #[]) ∧ w' = w := Any.Builder_copyCheck_used bl_lays bl_x b w h0
theorem bl_fresh (b : Nat) (w : World) (h0 : w.cell? ⟨b, 0, none⟩ = some (.pointer none)) (hsh : w.shape? b = some (104, 2)) (hfz : w.frozen? ⟨b, 0, none⟩ = false) :
  Calls Try.prog 66 #[.pointer (some ⟨b, 0, none⟩)] w fun e w' => e = .returned (.tuple #[]) ∧ w' = w.setCell ⟨b, 0, none⟩ (.pointer (some ⟨b, 0, none⟩)) := Any.Builder_copyCheck_fresh bl_lays bl_x b w h0 hsh hfz
end Go.Proofs.Ytggoncamiafclaa
namespace Go.Proofs.Ytggoncamiafclaa
open Go.RowKit
set_option linter.unusedVariables false
set_option linter.unusedSimpArgs false
set_option maxRecDepth 100000
def cCc : List SV → Mm → (SV → Mm → Prop) → Prop
 | [.ptr j 0], M, K => match M[j]? with
  | some ⟨true, .tr t [.v (.pointer none), x]⟩ => vsome (Nat.beq t 104) (setK M j ⟨true, .tr t [.ptr j 0, x]⟩ fun M2 => K (.tup []) M2)
  | some ⟨true, .tr t [.ptr i 0, x]⟩ => vsome (Nat.beq i j) (K (.tup []) M)
  | _ => False
 | _, _, _ => False
theorem cc_ok : COk Try.prog G 66 cCc := by
 intro args M K h
 unfold cCc at h
 split at h
 ·rename_i j
  split at h
  ·rename_i t x hk
   obtain ⟨ht, h⟩ := vsome_iff.1 h
   obtain rfl := Nat.eq_of_beq_eq_true ht
   rw [setK_eq] at h
   intro β w hR hw
   have hh : Holds w (β j) true (vals β [.v (.pointer none), x]) (some (104, 2)) := hR.all j _ hk rfl
   have h0 : w.cell? ⟨β j, 0, none⟩ = some (.pointer none) := hh.cell 0 _ rfl
   have hc := bl_fresh (β j) w h0 (hh.shp _ rfl) (hh.free rfl 0 (Nat.zero_lt_succ _))
   refine .inr ⟨enter_run Try.func66 rfl (by kernel_rfl) _ _, hc.mono fun e w' hw' => ?_⟩
   obtain ⟨rfl, rfl⟩ := hw'
   refine ⟨_, rfl, ?_⟩
   have hF : Fp (fun i => i = β j) w (w.setCell ⟨β j, 0, none⟩ (.pointer (some ⟨β j, 0, none⟩))) := ⟨rfl, rfl, rfl, by simp, fun k _ hk => heap_setCell_other _ _ _ _ hk⟩
   have hwf := hR.wf j _ hk
   have hlt := lt_of_get hk
   obtain ⟨h7, h8⟩ := hR.set (c' := .tr 104 [.ptr j 0, x]) hk rfl hF (by
    have h9 : (true && (SV.wf M.length x && true)) = true := hwf
    show (Nat.blt j M.length && (SV.wf M.length x && true)) = true
    rw [show Nat.blt j M.length = true by rw [Nat.blt_eq]; exact hlt]
    exact h9) (fun _ => Holds.setCells (off := 0) (vs := [.pointer (some ⟨β j, 0, none⟩)]) hh (by show 0 + 1 ≤ 2; decide))
   exact ⟨β, _, .tup [], h8, h7, ⟨rfl, rfl⟩, h⟩
  ·rename_i t i x hk
   obtain ⟨ht, h2⟩ := vsome_iff.1 h
   obtain rfl := Nat.eq_of_beq_eq_true ht
   intro β w hR hw
   have hh : Holds w (β i) true (vals β [.ptr i 0, x]) (some (t, 2)) := hR.all i _ hk rfl
   have h0 : w.cell? ⟨β i, 0, none⟩ = some (.pointer (some ⟨β i, 0, none⟩)) := hh.cell 0 _ rfl
   have hc := bl_used (β i) w h0
   refine .inr ⟨enter_run Try.func66 rfl (by kernel_rfl) _ _, hc.mono fun e w' hw' => ?_⟩
   obtain ⟨rfl, rfl⟩ := hw'
   exact ⟨_, rfl, β, M, .tup [], Ext.refl _ _ _, hR, ⟨rfl, rfl⟩, h2⟩
  ·exact h.elim
 ·exact h.elim
def EW : Env := { G := G, T := T0.add flagT cFlag, C := noC.add 66 cCc }
theorem ew_ok : EnvOk Try.prog EW := { T := PT.add_ok t0_ok (flag_ok _), C := CT.add_ok (noC_ok _ _) cc_ok }
end Go.Proofs.Ytggoncamiafclaa
