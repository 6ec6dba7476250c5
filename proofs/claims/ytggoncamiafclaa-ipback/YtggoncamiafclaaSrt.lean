/-
  ip: the library's slices.SortFunc and cmp.Compare, as the library's own contracts tell them of this program. No statement is proved here.
-/
import Derived.Shelf.SlSortCmp.WholeK
import Derived.Shelf.SlicesG.Cmp
import Derived.Test.YtggoncamiafclaaProg
import Derived.WalkKit
import Derived.Test.YtggoncamiafclaaIpG
namespace Go.Proofs.Ytggoncamiafclaa
open Go.Shelf Go.RowKit Go.Lib Go.Sort
def sortP_ren : Go.Shelf.Ren := ⟨fun | 6 => 57 | 15 => 64 | 14 => 63 | 28 => 75 | 29 => 76 | 20 => 67 | 21 => 68 | 22 => 69 | 23 => 70 | 24 => 71 | 25 => 72 | 26 => 73 | 27 => 74 | 46 => 79 | 47 => 80 | 48 => 81 | 49 => 82 | 50 => 83 | 57 => 84 | n => n, fun | 22 => 78 | 24 => 92 | 25 => 101 | 3 => 3 | 39 => 64 | 0 => 0 | 53 => 22 | 55 => 37 | 4 => 4 | 46 => 116 | 45 => 115 | 50 => 120 | 5 => 5 | 9 => 9 | 66 => 127 | 70 => 131 | 76 => 133 | 77 => 134 | n => n, fun | n => n⟩
theorem sortP : Go.Proofs.SlLaysF0.n6 Try.prog sortP_ren := {
  mixed := by kernel_rfl
  f6 := ⟨Try.f57.name, by decide, Try.func57.trans (congrArg some (by kernel_rfl))⟩
  f14 := ⟨Try.f63.name, by decide, Try.func63.trans (congrArg some (by kernel_rfl))⟩
  f15 := Try.func64.trans (congrArg some (by kernel_rfl))
  f20 := ⟨Try.f67.name, by decide, Try.func67.trans (congrArg some (by kernel_rfl))⟩
  f21 := ⟨Try.f68.name, by decide, Try.func68.trans (congrArg some (by kernel_rfl))⟩
  f22 := ⟨Try.f69.name, by decide, Try.func69.trans (congrArg some (by kernel_rfl))⟩
  f23 := ⟨Try.f70.name, by decide, Try.func70.trans (congrArg some (by kernel_rfl))⟩
  f24 := ⟨Try.f71.name, by decide, Try.func71.trans (congrArg some (by kernel_rfl))⟩
  f25 := ⟨Try.f72.name, by decide, Try.func72.trans (congrArg some (by kernel_rfl))⟩
  f26 := ⟨Try.f73.name, by decide, Try.func73.trans (congrArg some (by kernel_rfl))⟩
  f27 := ⟨Try.f74.name, by decide, Try.func74.trans (congrArg some (by kernel_rfl))⟩
  f28 := Try.func75.trans (congrArg some (by kernel_rfl))
  f29 := Try.func76.trans (congrArg some (by kernel_rfl))
  f46 := ⟨Try.f79.name, by decide, Try.func79.trans (congrArg some (by kernel_rfl))⟩
  f47 := Try.func80.trans (congrArg some (by kernel_rfl))
  f48 := Try.func81.trans (congrArg some (by kernel_rfl))
  f49 := ⟨Try.f82.name, by decide, Try.func82.trans (congrArg some (by kernel_rfl))⟩
  f50 := ⟨Try.f83.name, by decide, Try.func83.trans (congrArg some (by kernel_rfl))⟩
  f57 := ⟨Try.f84.name, by decide, Try.func84.trans (congrArg some (by kernel_rfl))⟩
  t0 := Try.underlying0
  a0 := Try.isAgg0
  z0 := Try.sizeOf0
  v0 := Try.zeroValue0
  t3 := Try.underlying3
  a3 := Try.isAgg3
  z3 := Try.sizeOf3
  v3 := Try.zeroValue3
  t4 := Try.underlying4
  a4 := Try.isAgg4
  z4 := Try.sizeOf4
  v4 := Try.zeroValue4
  t5 := Try.underlying5
  a5 := Try.isAgg5
  z5 := Try.sizeOf5
  v5 := Try.zeroValue5
  t9 := Try.underlying9
  a9 := Try.isAgg9
  z9 := Try.sizeOf9
  v9 := Try.zeroValue9
  t22 := Try.underlying78
  a22 := Try.isAgg78
  z22 := Try.sizeOf78
  v22 := Try.zeroValue78
  t25 := Try.underlying101
  a25 := Try.isAgg101
  z25 := Try.sizeOf101
  v25 := Try.zeroValue101
  t39 := Try.underlying64
  a39 := Try.isAgg64
  z39 := Try.sizeOf64
  v39 := Try.zeroValue64
  t45 := Try.underlying115
  a45 := Try.isAgg115
  z45 := Try.sizeOf115
  v45 := Try.zeroValue115
  t46 := Try.underlying116
  a46 := Try.isAgg116
  z46 := Try.sizeOf116
  v46 := Try.zeroValue116
  t50 := Try.underlying120
  a50 := Try.isAgg120
  z50 := Try.sizeOf120
  v50 := Try.zeroValue120
  t53 := Try.underlying22
  a53 := Try.isAgg22
  z53 := Try.sizeOf22
  v53 := Try.zeroValue22
  t55 := Try.underlying37
  a55 := Try.isAgg37
  z55 := Try.sizeOf37
  v55 := Try.zeroValue37
  t66 := Try.underlying127
  a66 := Try.isAgg127
  z66 := Try.sizeOf127
  v66 := Try.zeroValue127
  t70 := Try.underlying131
  a70 := Try.isAgg131
  z70 := Try.sizeOf131
  v70 := Try.zeroValue131
  t76 := Try.underlying133
  a76 := Try.isAgg133
  z76 := Try.sizeOf133
  v76 := Try.zeroValue133
  t77 := Try.underlying134
  a77 := Try.isAgg134
  z77 := Try.sizeOf134
  v77 := Try.zeroValue134 }
def cmpInt_ren : Go.Shelf.Ren := ⟨fun | 5 => 65 | 7 => 77 | n => n, fun | 22 => 3 | 3 => 3 | 4 => 4 | n => n, fun | n => n⟩
theorem cmpInt : Go.Proofs.SlLaysC2.n5 Try.prog cmpInt_ren := {
  mixed := by kernel_rfl
  f5 := ⟨Try.f65.name, by decide, Try.func65.trans (congrArg some (by kernel_rfl))⟩
  f7 := ⟨Try.f77.name, by decide, Try.func77.trans (congrArg some (by kernel_rfl))⟩
  t3 := Try.underlying3
  a3 := Try.isAgg3
  z3 := Try.sizeOf3
  v3 := Try.zeroValue3
  t4 := Try.underlying4
  a4 := Try.isAgg4
  z4 := Try.sizeOf4
  v4 := Try.zeroValue4
  t22 := Try.underlying3
  a22 := Try.isAgg3
  z22 := Try.sizeOf3
  v22 := Try.zeroValue3 }

/-- A piece's cells. -/
def encP (x : Int × ByteArray × Bool × Int) : List Value := [.int .i64 x.1, .string x.2.1, .bool x.2.2.1, .int .u8 x.2.2.2]
def byAt (x y : Int × ByteArray × Bool × Int) : Int := Lib.compareInt x.1 y.1
set_option maxHeartbeats 1000000 in
/-- Two pieces, by their places. -/
theorem byPlace_any (x y : Int × ByteArray × Bool × Int) (W : World) : Calls Try.prog 58 #[.agg (encP x).toArray, .agg (encP y).toArray] W fun e w' => e = .returned (.int .i64 (byAt x y)) ∧ ∃ q os', w' = grow (W.drewN q) os' := by
  unfold byAt encP
  have hcon := fun W' => AnyG.cmp_Compare_int cmpInt x.1 y.1 W'
  change ∀ W', Calls Try.prog 65 _ _ _ at hcon
  generalize Lib.compareInt x.1 y.1 = r at hcon ⊢
  go_enter Try.func58, Try.ntmps58
  go_wp2_with (go_at_call 65; refine (hcon _).mono ?_; rintro e w' ⟨rfl, rfl⟩)
  go_ret
  exact ⟨rfl, 0, _, by rw [alloc_eq_grow, alloc_eq_grow, grow_grow]; rfl⟩
theorem byAt_lt (x y : Int × ByteArray × Bool × Int) : ltOf byAt x y = decide (x.1 < y.1) := by
  unfold ltOf byAt Lib.compareInt
  by_cases h1 : x.1 < y.1
  · simp [h1]
  · by_cases h2 : y.1 < x.1 <;> simp [h1, h2]
theorem byAt_swo : SWO (ltOf byAt) where
  irrefl x := by rw [byAt_lt]; simp
  trans x y z h1 h2 := by rw [byAt_lt] at *; simp at *; omega
  ntrans x y z h1 h2 := by rw [byAt_lt] at *; simp at *; omega
/-- The whole sort: a permutation, by rising places. -/
theorem sort_any (blk cap : Nat) (d : Array (Int × ByteArray × Bool × Int)) (w : World) (hH : HoldsK encP 4 w blk 0 d) (hblk : blk < w.heap.size) (hsz : d.size < 4611686018427387904) :
    Calls Try.prog 57 #[.slice (some ⟨blk, 0, none⟩) d.size cap, .func (.func 58) #[] #[]] w fun e w' => e = .returned (.tuple #[]) ∧ ∃ d' n os, PermIn 0 d.size d d' ∧ SortedIn (ltOf byAt) 0 d.size d' ∧ w' = sortWorldK encP 4 w blk 0 n d' os :=
  AnyQ.slices_SortFunc sortP 4 Try.isAgg92 Try.sizeOf92 encP (fun _ => rfl) (fun x v hv => by simp [encP] at hv; rcases hv with rfl | rfl | rfl | rfl <;> rfl) byAt byAt_swo 58 #[] blk 0 cap d w (enters_of Try.func58 (by kernel_rfl) rfl) (fun _ _ _ _ x y => byPlace_any x y _) hH hblk hsz
end Go.Proofs.Ytggoncamiafclaa
namespace Go.Proofs.Ytggoncamiafclaa
open Go.RowKit
set_option linter.unusedVariables false
set_option linter.unusedSimpArgs false
set_option maxRecDepth 100000

theorem tgt_rs {M : Mm} {k base eo sz len cap : Nat} {c : Cont} (h : tgt M (.rs k base eo sz len cap) = c) (hh : c.here = true) : ∃ r, M[k]? = some ⟨r, c⟩ := by
  unfold tgt at h
  dsimp only at h
  cases hk : M[k]? with
  | none => rw [hk] at h; subst h; cases hh
  | some e => rw [hk] at h; exact ⟨e.rw, by rw [← h]⟩
theorem byP_ok : POk Try.prog G 58 (fun args _ => match args with
    | [.agg [.i a, .s _, .b _, .w8 _], .agg [.i a', .s _, .b _, .w8 _]] => some (true, .i (cmpI a a'))
    | _ => none) := by
  intro args acs r hh β M w hR hw ha
  dsimp only at hh
  split at hh
  · rename_i a m b t a' m' b' t'
    simp only [Option.some.injEq, Prod.mk.injEq, true_and] at hh
    subst hh
    exact pokE (E := EBp) rfl ebp_ok (noL_ok _ _ _ _) (v58 a m b t a' m' b' t' _) rfl rfl rfl hR
  · cases hh
-- rows of pieces
def unR : Cont → Option (List Pc)
  | .recs (some t) [.i, .s, .b, .u8] [] l => bif Nat.beq t 92 then some l else none
  | _ => none
theorem unR_ok {c : Cont} {l : List Pc} (h : unR c = some l) : c = .recs (some 92) fsP [] l := by
  unfold unR at h
  split at h
  · rename_i t m
    cases ht : Nat.beq t 92 <;> rw [ht] at h
    · cases h
    · obtain rfl := Nat.eq_of_beq_eq_true ht
      cases h; rfl
  · cases h
theorem rok0 {i m : Nat} (h : i < m) : (rok 0 i 4 fsP [] m && true) = true := and_t (rok_iff.2 ⟨rfl, by decide, Nat.le_refl _, rfl, h⟩) rfl
theorem inRn {i m : Nat} (h : i < m) (hm : m ≤ 4294967296) : inR (i : Int) m = true := inR_iff.2 ⟨by omega, by omega⟩
theorem of_ilt {i m : Nat} (h : ilt (i : Int) (m : Int) = true) : i < m := by rw [ilt_eq] at h; have := of_decide_eq_true h; omega
theorem of_nilt {i m : Nat} (h : ilt (i : Int) (m : Int) = false) : ¬ i < m := by rw [ilt_eq] at h; have := of_decide_eq_false h; omega
theorem getD_take {α : Type} (z : α) (l : List α) (n i : Nat) (h : i < n) : (l.take n).getD i z = l.getD i z := by
  rw [List.getD_eq_getElem?_getD, List.getD_eq_getElem?_getD, List.getElem?_take_of_lt h]
def ixOf (a : Int) (m : Tx) (b : Bool) (L : List Pc) : Int := match L.findIdx? (pcq a m b) with
  | some i => (i : Nat)
  | none => -1
theorem ix_at {a : Int} {m : Tx} {b : Bool} {L : List Pc} {i : Nat} (h1 : i < L.length) (h2 : ∀ j, j < i → pcq a m b (L.getD j (rz fsP)) = false) (h3 : pcq a m b (L.getD i (rz fsP)) = true) : ixOf a m b L = i := by
  have : L.findIdx? (pcq a m b) = some i := by
    rw [List.findIdx?_eq_some_iff_getElem]
    refine ⟨h1, ?_, fun j hj => ?_⟩
    · rw [List.getD_eq_getElem?_getD, List.getElem?_eq_getElem h1] at h3; exact h3
    · have := h2 j hj
      rw [List.getD_eq_getElem?_getD, List.getElem?_eq_getElem (by omega)] at this
      simpa using this
  unfold ixOf
  rw [this]
theorem ix_no {a : Int} {m : Tx} {b : Bool} {L : List Pc} (h2 : ∀ j, j < L.length → pcq a m b (L.getD j (rz fsP)) = false) : ixOf a m b L = -1 := by
  have : L.findIdx? (pcq a m b) = none := by
    rw [List.findIdx?_eq_none_iff]
    intro x hx
    obtain ⟨j, hj, rfl⟩ := List.getElem_of_mem hx
    have := h2 j hj
    rwa [List.getD_eq_getElem?_getD, List.getElem?_eq_getElem hj] at this
  unfold ixOf
  rw [this]
theorem ix_any (a : Int) (m : Tx) (b : Bool) (L : List Pc) : ile 0 (ixOf a m b L) = L.any (pcq a m b) := by
  unfold ixOf
  cases h : L.findIdx? (pcq a m b) with
  | none =>
    have := List.findIdx?_eq_none_iff.1 h
    rw [ile_no (by decide)]
    symm
    rw [List.any_eq_false]
    intro x hx
    simpa using this x hx
  | some i =>
    obtain ⟨h1, h2, -⟩ := List.findIdx?_eq_some_iff_getElem.1 h
    have e : ile 0 (match some i with
      | some i => ((i : Nat) : Int)
      | none => -1) = true := ile_of (show (0 : Int) ≤ ((i : Nat) : Int) by omega)
    rw [e]
    symm
    rw [List.any_eq_true]
    exact ⟨_, List.getElem_mem h1, h2⟩
theorem s62 (l : List Pc) (a : Int) (m : Tx) (b : Bool) (t : BitVec 8) (len cap : Nat) (hl : len ≤ l.length) (hb : len ≤ 4294967296) : Spec Try.prog G 62 [.rs 0 0 0 4 len cap, .fm 56 [pcs a m b t]] [rowE false l] (fun r _ => r = .i (ixOf a m b (l.take len))) := by
  have hL : LOk Try.prog G [rowE false l] 62 (L62 l a m b t len cap (ixOf a m b (l.take len)) (ixOf a m b (l.take len) = -1) True) := by
    refine LT.add_ok (noL_ok _ _ _ _) (loop_ret ena_ok mixed (noL_ok _ _ _ _) (by show 0 ≤ 1; decide) (by kernel_rfl) (fun i => i62 a m b t len cap i) (fun _ => [rowE false l]) (fun i => i ≤ len ∧ ∀ j, j < i → pcq a m b (l.getD j (rz fsP)) = false) (fun i => len - i) (fun i => i + 1) 0 ⟨Nat.zero_le _, fun j hj => absurd hj (by omega)⟩ (fun i hp => of_eq (r62 l a m b t len cap i _ _ _ _) ?_))
    obtain ⟨hi, hp⟩ := hp
    have hlt : (l.take len).length = len := by rw [List.length_take]; omega
    cases hc : ilt (i : Int) (len : Int)
    · have := of_nilt hc
      refine ⟨rfl, ix_no fun j hj => ?_, ⟨rfl, rfl⟩, trivial⟩
      rw [getD_take _ _ _ _ (by omega)]
      exact hp j (by omega)
    · have hlt2 := of_ilt hc
      refine bif_of (inRn hlt2 hb) (bif_of (rok0 (by omega)) ?_)
      cases hd : sameP a m b (l.getD i (rz fsP)).1 (l.getD i (rz fsP)).2.1 (l.getD i (rz fsP)).2.2.1
      · refine bif_of (inI_iff.2 (by omega)) ⟨⟨⟨by omega, fun j hj => ?_⟩, by omega⟩, rfl, rfl, rfl, rfl, ⟨rfl, rfl⟩, trivial⟩
        rcases Nat.lt_or_eq_of_le (Nat.le_of_lt_succ hj) with q | rfl
        · exact hp j q
        · exact hd
      · refine ⟨trivial, congrArg SV.i (ix_at (by omega) (fun j hj => ?_) ?_).symm, ⟨rfl, rfl⟩, trivial⟩
        · rw [getD_take _ _ _ _ (by omega)]; exact hp j hj
        · rw [getD_take _ _ _ _ (by omega)]; exact hd
  exact vf_ok ena_ok mixed hL (of_eq (v62 l a m b t len cap _ _ _ _) ⟨rfl, rfl, rfl, rfl, rfl, ⟨rfl, rfl⟩, fun h => congrArg SV.i h.symm, fun _ => rfl⟩)
def cIx : List SV → List Cont → Option (Bool × SV)
  | [.rs _ base eo sz len _, .fm f [.agg [.i a, .s m, .b b, .w8 _]]], [c, _] => match unR c with
    | some l => some (Nat.beq base 0 && (Nat.beq eo 0 && (Nat.beq sz 4 && (Nat.ble len l.length && (Nat.ble len 4294967296 && Nat.beq f 56)))), .i (ixOf a m b (l.take len)))
    | none => none
  | [.v (.slice none 0 0), .fm f [.agg [.i a, .s m, .b b, .w8 _]]], [_, _] => some (Nat.beq f 56, .i (-1))
  | _, _ => none
theorem ix_ok : POk Try.prog G 62 cIx := by
  intro args acs r hh β M w hR hw ha
  unfold cIx at hh
  split at hh
  · rename_i k base eo sz len cap f a m b t c c1
    split at hh
    · rename_i l hl
      obtain rfl := unR_ok hl
      simp only [Option.some.injEq, Prod.mk.injEq, Bool.and_eq_true] at hh
      obtain ⟨⟨h1, h2, h3, h4, h5, h6⟩, rfl⟩ := hh
      obtain rfl := Nat.eq_of_beq_eq_true h1
      obtain rfl := Nat.eq_of_beq_eq_true h2
      obtain rfl := Nat.eq_of_beq_eq_true h3
      obtain rfl := Nat.eq_of_beq_eq_true h6
      simp only [List.map_cons, List.map_nil, List.cons.injEq, and_true] at ha
      obtain ⟨r1, hk⟩ := tgt_rs ha.1.symm rfl
      exact pureN (R := [rowE false l]) [k] (args0 := [.rs 0 0 0 4 len cap, .fm 56 [pcs a m b t]]) (s62 l a m b t len cap (Nat.le_of_ble_eq_true h4) (Nat.le_of_ble_eq_true h5)) rfl rfl (fun i e he => by
        match i, he with
        | 0, he => cases he; rfl) rfl (by simp) hR ⟨⟨r1, hk, (fun h => by cases h)⟩, ⟨rfl, rfl⟩, trivial⟩
    · cases hh
  · rename_i f a m b t c0 c1
    simp only [Option.some.injEq, Prod.mk.injEq] at hh
    obtain ⟨h6, rfl⟩ := hh
    obtain rfl := Nat.eq_of_beq_eq_true h6
    exact pokE (E := ENa) rfl ena_ok (LT.un_ok ena_ok mixed (noL_ok _ _ _ _) (noL_ok _ _ _ _) (by kernel_rfl) 1) (v62z a m b t _) ⟨rfl, rfl⟩ rfl rfl hR
  · cases hh
def E55 : Env := { G := G, T := T0.add 62 cIx, C := noC }
theorem e55_ok : EnvOk Try.prog E55 := { T := PT.add_ok t0_ok ix_ok, C := noC_ok _ _ }
theorem v55 (l : List Pc) (a : Int) (m : Tx) (b : Bool) (t : BitVec 8) (len cap : Nat) (K : SV → Prop) : (vf Try.prog E55 noL 55 [.rs 0 0 0 4 len cap, .fm 56 [pcs a m b t]] [rowE false l] (fun r _ => K r)) = (bif len.ble l.length && (len.ble 4294967296 && true) then K (SV.b (ile 0 (ixOf a m b (List.take len l)))) else False) := by kernel_rfl
theorem v55z (a : Int) (m : Tx) (b : Bool) (t : BitVec 8) (K : SV → Prop) : (vf Try.prog E55 noL 55 [.v (.slice none 0 0), .fm 56 [pcs a m b t]] G (fun r _ => K r)) = (K (SV.b (ile 0 (-1)))) := by kernel_rfl
def cCt : List SV → List Cont → Option (Bool × SV)
  | [.rs _ base eo sz len _, .fm f [.agg [.i a, .s m, .b b, .w8 _]]], [c, _] => match unR c with
    | some l => some (Nat.beq base 0 && (Nat.beq eo 0 && (Nat.beq sz 4 && (Nat.ble len l.length && (Nat.ble len 4294967296 && Nat.beq f 56)))), .b ((l.take len).any (pcq a m b)))
    | none => none
  | [.v (.slice none 0 0), .fm f [.agg [.i a, .s m, .b b, .w8 _]]], [_, _] => some (Nat.beq f 56, .b false)
  | _, _ => none
theorem ct_ok : POk Try.prog G 55 cCt := by
  intro args acs r hh β M w hR hw ha
  unfold cCt at hh
  split at hh
  · rename_i k base eo sz len cap f a m b t c c1
    split at hh
    · rename_i l hl
      obtain rfl := unR_ok hl
      simp only [Option.some.injEq, Prod.mk.injEq, Bool.and_eq_true] at hh
      obtain ⟨⟨h1, h2, h3, h4, h5, h6⟩, rfl⟩ := hh
      obtain rfl := Nat.eq_of_beq_eq_true h1
      obtain rfl := Nat.eq_of_beq_eq_true h2
      obtain rfl := Nat.eq_of_beq_eq_true h3
      obtain rfl := Nat.eq_of_beq_eq_true h6
      simp only [List.map_cons, List.map_nil, List.cons.injEq, and_true] at ha
      obtain ⟨r1, hk⟩ := tgt_rs ha.1.symm rfl
      exact pureN (R := [rowE false l]) [k] (args0 := [.rs 0 0 0 4 len cap, .fm 56 [pcs a m b t]]) (vf_ok e55_ok mixed (noL_ok _ _ _ _) (of_eq (v55 l a m b t len cap _) (bif_of (and_t h4 (and_t h5 rfl)) (congrArg SV.b (ix_any a m b (l.take len)))))) rfl rfl (fun i e he => by
        match i, he with
        | 0, he => cases he; rfl) rfl (by simp) hR ⟨⟨r1, hk, (fun h => by cases h)⟩, ⟨rfl, rfl⟩, trivial⟩
    · cases hh
  · rename_i f a m b t c0 c1
    simp only [Option.some.injEq, Prod.mk.injEq] at hh
    obtain ⟨h6, rfl⟩ := hh
    obtain rfl := Nat.eq_of_beq_eq_true h6
    exact pokE (E := E55) rfl e55_ok (noL_ok _ _ _ _) (v55z a m b t _) rfl rfl rfl hR
  · cases hh
end Go.Proofs.Ytggoncamiafclaa
