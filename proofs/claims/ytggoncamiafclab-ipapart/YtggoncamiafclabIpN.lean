/-
  ip: whether a set is whole. No statement is proved here.
-/
import Derived.Test.YtggoncamiafclabIpM
import Derived.Shelf.Strings.Builder1
import Derived.Test.YtggoncamiafclabProg
namespace Go.Proofs.Ytggoncamiafclab
open Go.RowKit
set_option linter.unusedVariables false
set_option linter.unusedSimpArgs false
set_option maxRecDepth 100000

def endP (c : Pc) : Int := c.1 + (List.length c.2.1 : Nat)
def pAt (l : List Pc) (k : Nat) : Pc := l.getD k (rz fsP)
def endW (l : List Pc) : Nat → Int
  | 0 => 0
  | k + 1 => endP (pAt l k)
def moreW (l : List Pc) : Nat → Bool
  | 0 => true
  | k + 1 => (pAt l k).2.2.1
def goodW (l : List Pc) : Nat → Bool
  | 0 => true
  | k + 1 => goodW l k && ((pAt l k).1 == endW l k)
def i52 (len cap k : Nat) (z : Int) (b : Bool) : List (Nat × SV) := [(0, .ptr 0 0), (3, .i z), (4, .b b), (10, .rs 1 0 0 4 len cap), (11, .i (len : Nat)), (12, .i (k : Nat))]
theorem r52 (u : BitVec 64) (l : List Pc) (len cap k : Nat) (x : Int) (b : Bool) (x' : Int) (b' : Bool) (y : Bool) (p q z : Prop) : (frK 27 (i52 len cap k x b) fun fr => vround Try.prog ENa noL 22 0 fr (Mr u l len cap) (Kt (Mr u l len cap) 0 27 p (i52 len cap (k + 1) x' b') (Mr u l len cap) q [(4, .b y)] (Mr u l len cap) z [(2, .b false)] (Mr u l len cap))) = (bif ilt (↑k : Int) (↑len : Int) then bif inR (↑k : Int) len then bif rok 0 k 4 fsP [] l.length && true then bif (l.getD k (rz fsP)).fst != x then z ∧ SV.b false = SV.b false ∧ (true = true ∧ Cont.row [SV.w64 u, SV.rs 1 0 0 4 len cap] = Cont.row [SV.w64 u, SV.rs 1 0 0 4 len cap]) ∧ (true = true ∧ Cont.recs (some 60) fsP [] l = Cont.recs (some 60) fsP [] l) ∧ True else bif inI ((l.getD k (rz fsP)).fst + (↑(List.length (l.getD k (rz fsP)).snd.fst) : Int)) then bif inI ((↑k : Int) + 1) then p ∧ SV.ptr 0 0 = SV.ptr 0 0 ∧ SV.i ((l.getD k (rz fsP)).fst + (↑(List.length (l.getD k (rz fsP)).snd.fst) : Int)) = SV.i x' ∧ SV.b (l.getD k (rz fsP)).snd.snd.fst = SV.b b' ∧ SV.rs 1 0 0 4 len cap = SV.rs 1 0 0 4 len cap ∧ SV.i (↑len : Int) = SV.i (↑len : Int) ∧ SV.i ((↑k : Int) + 1) = SV.i (↑(k + 1) : Int) ∧ (true = true ∧ Cont.row [SV.w64 u, SV.rs 1 0 0 4 len cap] = Cont.row [SV.w64 u, SV.rs 1 0 0 4 len cap]) ∧ (true = true ∧ Cont.recs (some 60) fsP [] l = Cont.recs (some 60) fsP [] l) ∧ True else False else False else False else False else 0 = 0 ∧ q ∧ SV.b b = SV.b y ∧ (true = true ∧ Cont.row [SV.w64 u, SV.rs 1 0 0 4 len cap] = Cont.row [SV.w64 u, SV.rs 1 0 0 4 len cap]) ∧ (true = true ∧ Cont.recs (some 60) fsP [] l = Cont.recs (some 60) fsP [] l) ∧ True) := by kernel_rfl
def L52 (u : BitVec 64) (l : List Pc) (len cap : Nat) (q z : Prop) : LT := noL.add 0 (vLoopR (Mr u l len cap) 27 (i52 len cap 0 0 true) (Mr u l len cap) q [(4, .b (moreW l len))] (Mr u l len cap) z [(2, .b false)] (Mr u l len cap))
theorem v52 (u : BitVec 64) (l : List Pc) (len cap : Nat) (q z : Prop) (K : SV → Mm → Prop) : (vf Try.prog ENa (L52 u l len cap q z) 22 [.ptr 0 0] (Mr u l len cap) K) = (loopOf Try.prog 22 0 = loopOf Try.prog 22 0 ∧ SV.ptr 0 0 = SV.ptr 0 0 ∧ SV.i 0 = SV.i 0 ∧ SV.b true = SV.b true ∧ SV.rs 1 0 0 4 len cap = SV.rs 1 0 0 4 len cap ∧ SV.i (↑len : Int) = SV.i (↑len : Int) ∧ SV.i 0 = SV.i (↑0 : Int) ∧ (true = true ∧ Cont.row [SV.w64 u, SV.rs 1 0 0 4 len cap] = Cont.row [SV.w64 u, SV.rs 1 0 0 4 len cap]) ∧ (true = true ∧ Cont.recs (some 60) fsP [] l = Cont.recs (some 60) fsP [] l) ∧ (q → K (SV.b !moreW l len) (Mr u l len cap)) ∧ (z → K (SV.b false) (Mr u l len cap))) := by kernel_rfl
theorem goodW_le (l : List Pc) : ∀ (k n : Nat), k ≤ n → goodW l k = false → goodW l n = false
  | k, n, h, hk => by
    induction n with
    | zero => obtain rfl : k = 0 := by omega
              exact hk
    | succ n ih =>
      rcases Nat.lt_or_eq_of_le h with q | rfl
      · show (goodW l n && _) = false
        rw [ih (by omega)]; rfl
      · exact hk
def wholeP (l : List Pc) (len : Nat) : Bool := goodW l len && !moreW l len
theorem s52 (u : BitVec 64) (l : List Pc) (len cap : Nat) (hl : len ≤ l.length) (hb : len ≤ 4294967296) (hr : okR (l.take len)) : Spec Try.prog G 22 [.ptr 0 0] (Mr u l len cap) (fun r M => r = .b (wholeP l len) ∧ M = Mr u l len cap) := by
  have hL : LOk Try.prog G (Mr u l len cap) 22 (L52 u l len cap (goodW l len = true) (goodW l len = false)) := by
    refine LT.add_ok (noL_ok _ _ _ _) (loop_ret ena_ok mixed (noL_ok _ _ _ _) (by show 0 ≤ 2; decide) (by kernel_rfl) (fun k => i52 len cap k (endW l k) (moreW l k)) (fun _ => Mr u l len cap) (fun k => k ≤ len ∧ goodW l k = true) (fun k => len - k) (fun k => k + 1) 0 ⟨Nat.zero_le _, rfl⟩ (fun k hp => of_eq (r52 u l len cap k _ _ _ _ _ _ _ _) ?_))
    obtain ⟨hk, hg⟩ := hp
    cases hc : ilt (k : Int) (len : Int)
    · have := of_nilt hc
      obtain rfl : k = len := by omega
      exact ⟨rfl, hg, rfl, ⟨rfl, rfl⟩, ⟨rfl, rfl⟩, trivial⟩
    · have hlt := of_ilt hc
      have hx : okQ (l.getD k (rz fsP)) := by
        refine hr _ ?_
        rw [← getD_take _ _ len _ hlt, List.getD_eq_getElem?_getD, List.getElem?_eq_getElem (by rw [List.length_take]; omega)]
        exact List.getElem_mem _
      obtain ⟨o1, o2, o3⟩ := hx
      refine bif_of (inRn hlt hb) (bif_of (rok0 (by omega)) ?_)
      have ed : ((l.getD k (rz fsP)).fst != endW l k) = !((pAt l k).1 == endW l k) := rfl
      rw [ed]
      cases hd : ((pAt l k).1 == endW l k)
      · refine ⟨goodW_le l (k + 1) len (by omega) ?_, rfl, ⟨rfl, rfl⟩, ⟨rfl, rfl⟩, trivial⟩
        show (goodW l k && ((pAt l k).1 == endW l k)) = false
        rw [hd, Bool.and_false]
      · refine bif_of (inI_iff.2 (by omega)) (bif_of (inI_iff.2 (by omega)) ⟨⟨⟨by omega, ?_⟩, by omega⟩, rfl, rfl, rfl, rfl, rfl, rfl, ⟨rfl, rfl⟩, ⟨rfl, rfl⟩, trivial⟩)
        show (goodW l k && ((pAt l k).1 == endW l k)) = true
        rw [hd, hg]; rfl
  refine vf_ok ena_ok mixed hL (of_eq (v52 u l len cap _ _ _) ⟨rfl, rfl, rfl, rfl, rfl, rfl, rfl, ⟨rfl, rfl⟩, ⟨rfl, rfl⟩, fun h => ⟨?_, rfl⟩, fun h => ⟨?_, rfl⟩⟩)
  · unfold wholeP; rw [h]; rfl
  · unfold wholeP; rw [h]; rfl
end Go.Proofs.Ytggoncamiafclab
namespace Go.Proofs.Ytggoncamiafclab
open Go.Shelf Go.RowKit
def bl_ren : Go.Shelf.Ren := ⟨fun | 240 => 40 | 276 => 52 | n => n, fun | 70 => 73 | 72 => 75 | 37 => 65 | 164 => 97 | n => n, fun | n => n⟩
theorem bl_lays : Go.Proofs.Lays.n240 Try.prog bl_ren := {
  mixed := by kernel_rfl
  f240 := Try.func40.trans (congrArg some (by kernel_rfl))
  f276 := Try.func52.trans (congrArg some (by kernel_rfl))
  t0 := Try.underlying0
  a0 := Try.isAgg0
  z0 := Try.sizeOf0
  v0 := Try.zeroValue0
  t4 := Try.underlying4
  a4 := Try.isAgg4
  z4 := Try.sizeOf4
  v4 := Try.zeroValue4
  t9 := Try.underlying9
  a9 := Try.isAgg9
  z9 := Try.sizeOf9
  v9 := Try.zeroValue9
  t20 := Try.underlying20
  a20 := Try.isAgg20
  z20 := Try.sizeOf20
  v20 := Try.zeroValue20
  t70 := Try.underlying73
  a70 := Try.isAgg73
  z70 := Try.sizeOf73
  v70 := Try.zeroValue73
  t72 := Try.underlying75
  a72 := Try.isAgg75
  z72 := Try.sizeOf75
  v72 := Try.zeroValue75
  t164 := Try.underlying97
  a164 := Try.isAgg97
  z164 := Try.sizeOf97
  v164 := Try.zeroValue97 }
theorem bl_x : Builder.X72 Try.prog bl_ren := {
  sizeBuilder := by kernel_rfl
  liesBuilder := by kernel_rfl }
theorem bl_used (b : Nat) (w : World) (h0 : w.cell? ⟨b, 0, none⟩ = some (.pointer (some ⟨b, 0, none⟩))) :
    Calls Try.prog 40 #[.pointer (some ⟨b, 0, none⟩)] w fun e w' => e = .returned (.tuple #[]) ∧ w' = w := Any.Builder_copyCheck_used bl_lays bl_x b w h0
theorem bl_fresh (b : Nat) (w : World) (h0 : w.cell? ⟨b, 0, none⟩ = some (.pointer none)) (hsh : w.shape? b = some (75, 2)) (hfz : w.frozen? ⟨b, 0, none⟩ = false) :
    Calls Try.prog 40 #[.pointer (some ⟨b, 0, none⟩)] w fun e w' => e = .returned (.tuple #[]) ∧ w' = w.setCell ⟨b, 0, none⟩ (.pointer (some ⟨b, 0, none⟩)) := Any.Builder_copyCheck_fresh bl_lays bl_x b w h0 hsh hfz
end Go.Proofs.Ytggoncamiafclab
namespace Go.Proofs.Ytggoncamiafclab
open Go.RowKit
set_option linter.unusedVariables false
set_option linter.unusedSimpArgs false
set_option maxRecDepth 100000

def cCc : List SV → Mm → (SV → Mm → Prop) → Prop
  | [.ptr j 0], M, K => match M[j]? with
    | some ⟨true, .tr t [.v (.pointer none), x]⟩ => vsome (Nat.beq t 75) (setK M j ⟨true, .tr t [.ptr j 0, x]⟩ fun M2 => K (.tup []) M2)
    | some ⟨true, .tr t [.ptr i 0, x]⟩ => vsome (Nat.beq i j) (K (.tup []) M)
    | _ => False
  | _, _, _ => False
theorem cc_ok : COk Try.prog G 40 cCc := by
  intro args M K h
  unfold cCc at h
  split at h
  · rename_i j
    split at h
    · rename_i t x hk
      obtain ⟨ht, h⟩ := vsome_iff.1 h
      obtain rfl := Nat.eq_of_beq_eq_true ht
      rw [setK_eq] at h
      intro β w hR hw
      have hh : Holds w (β j) true (vals β [.v (.pointer none), x]) (some (75, 2)) := hR.all j _ hk rfl
      have h0 : w.cell? ⟨β j, 0, none⟩ = some (.pointer none) := hh.cell 0 _ rfl
      have hc := bl_fresh (β j) w h0 (hh.shp _ rfl) (hh.free rfl 0 (Nat.zero_lt_succ _))
      refine .inr ⟨enter_run Try.func40 rfl (by kernel_rfl) _ _, hc.mono fun e w' hw' => ?_⟩
      obtain ⟨rfl, rfl⟩ := hw'
      refine ⟨_, rfl, ?_⟩
      have hF : Fp (fun i => i = β j) w (w.setCell ⟨β j, 0, none⟩ (.pointer (some ⟨β j, 0, none⟩))) := ⟨rfl, rfl, rfl, by simp, fun k _ hk => heap_setCell_other _ _ _ _ hk⟩
      have hwf := hR.wf j _ hk
      have hlt := lt_of_get hk
      obtain ⟨h7, h8⟩ := hR.set (c' := .tr 75 [.ptr j 0, x]) hk rfl hF (by
        have h9 : (true && (SV.wf M.length x && true)) = true := hwf
        show (Nat.blt j M.length && (SV.wf M.length x && true)) = true
        rw [show Nat.blt j M.length = true by rw [Nat.blt_eq]; exact hlt]
        exact h9) (fun _ => Holds.setCells (off := 0) (vs := [.pointer (some ⟨β j, 0, none⟩)]) hh (by show 0 + 1 ≤ 2; decide))
      exact ⟨β, _, .tup [], h8, h7, ⟨rfl, rfl⟩, h⟩
    · rename_i t i x hk
      obtain ⟨ht, h2⟩ := vsome_iff.1 h
      obtain rfl := Nat.eq_of_beq_eq_true ht
      intro β w hR hw
      have hh : Holds w (β i) true (vals β [.ptr i 0, x]) (some (t, 2)) := hR.all i _ hk rfl
      have h0 : w.cell? ⟨β i, 0, none⟩ = some (.pointer (some ⟨β i, 0, none⟩)) := hh.cell 0 _ rfl
      have hc := bl_used (β i) w h0
      refine .inr ⟨enter_run Try.func40 rfl (by kernel_rfl) _ _, hc.mono fun e w' hw' => ?_⟩
      obtain ⟨rfl, rfl⟩ := hw'
      exact ⟨_, rfl, β, M, .tup [], Ext.refl _ _ _, hR, ⟨rfl, rfl⟩, h2⟩
    · exact h.elim
  · exact h.elim
def EW : Env := { G := G, T := T0.add flagT cFlag, C := noC.add 40 cCc }
theorem ew_ok : EnvOk Try.prog EW := { T := PT.add_ok t0_ok (flag_ok _), C := CT.add_ok (noC_ok _ _) cc_ok }
end Go.Proofs.Ytggoncamiafclab
