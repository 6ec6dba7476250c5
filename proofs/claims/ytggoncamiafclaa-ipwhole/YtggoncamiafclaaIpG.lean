/-
  ip: what is said back, by the document; pieces' own questions. No statement is proved here.
-/
import Derived.Test.YtggoncamiafclaaIpD
import Derived.Shelf.SlSortCmp.WholeK
import Derived.Shelf.SlicesG.Cmp
import Derived.Test.YtggoncamiafclaaProg
import Derived.WalkKit
namespace Go.Proofs.Ytggoncamiafclaa
open Go.RowKit
set_option linter.unusedVariables false
set_option linter.unusedSimpArgs false
set_option maxRecDepth 100000
abbrev pcs (a : Int) (m : Tx) (b : Bool) (t : BitVec 8) : SV := .agg [.i a, .s m, .b b, .w8 t]
theorem v54 (a : Int) (m : Tx) (b : Bool) (t : BitVec 8) (K : SV → Prop) : (vf Try.prog E0 noL 54 [pcs a m b t] G (fun r _ => K r)) = (bif inI (a + (↑(List.length m) : Int)) then K (SV.i (a + (↑(List.length m) : Int))) else False) := by kernel_rfl
theorem v56 (a : Int) (m : Tx) (b : Bool) (t : BitVec 8) (a' : Int) (m' : Tx) (b' : Bool) (t' : BitVec 8) (K : SV → Prop) : (vf Try.prog E0 noL 56 [pcs a m b t, pcs a' m' b' t'] G (fun r _ => K r)) = (bif a == a' then bif bif true then bif false then !b == b' else b == b' else false then K (SV.b (bif true then m == m' else false)) else K (SV.b false) else K (SV.b false)) := by kernel_rfl
theorem v77 (a : Int) (K : SV → Prop) : (vf Try.prog E0 noL 77 [.i a] G (fun r _ => K r)) = (K (SV.b (a != a))) := by kernel_rfl
def cEnd : List SV → List Cont → Option (Bool × SV)
 | [.agg [.i a, .s m, .b _, .w8 _]], _ => some (inI (a + (m.length : Int)), .i (a + (m.length : Int)))
 | _, _ => none
def cSame (F : Int → Tx → Bool → Int → Tx → Bool → Bool) : List SV → List Cont → Option (Bool × SV)
 | [.agg [.i a, .s m, .b b, .w8 _], .agg [.i a', .s m', .b b', .w8 _]], _ => some (true, .b (F a m b a' m' b'))
 | _, _ => none
def sameP (a : Int) (m : Tx) (b : Bool) (a' : Int) (m' : Tx) (b' : Bool) : Bool := bif bif a == a' then b == b' else false then m == m' else false
def cNaN : List SV → List Cont → Option (Bool × SV)
 | [.i _], _ => some (true, .b false)
 | _, _ => none
theorem end_ok : POk Try.prog G 54 cEnd := by
 intro args acs r hh β M w hR hw ha
 unfold cEnd at hh
 split at hh
 ·rename_i a m b t
  simp only [Option.some.injEq, Prod.mk.injEq] at hh
  obtain ⟨hl, rfl⟩ := hh
  exact pokE (E := E0) rfl e0_ok (noL_ok _ _ _ _) (v54 a m b t _) (bif_of hl rfl) rfl rfl hR
 ·cases hh
theorem same_ok : POk Try.prog G 56 (cSame sameP) := by
 intro args acs r hh β M w hR hw ha
 unfold cSame at hh
 split at hh
 ·rename_i a m b t a' m' b' t'
  simp only [Option.some.injEq, Prod.mk.injEq, true_and] at hh
  subst hh
  refine pokE (E := E0) rfl e0_ok (noL_ok _ _ _ _) (v56 a m b t a' m' b' t' _) ?_ rfl rfl hR
  unfold sameP
  cases a == a'
  ·rfl
  ·cases hb : b == b'
   ·rfl
   ·rfl
 ·cases hh
theorem nan_ok : POk Try.prog G 77 cNaN := by
 intro args acs r hh β M w hR hw ha
 unfold cNaN at hh
 split at hh
 ·rename_i a
  simp only [Option.some.injEq, Prod.mk.injEq, true_and] at hh
  subst hh
  exact pokE rfl e0_ok (noL_ok _ _ _ _) (v77 a _) (congrArg SV.b (by simp)) rfl rfl hR
 ·cases hh
def ENa : Env := { G := G, T := ((T0.add 77 cNaN).add 54 cEnd).add 56 (cSame sameP), C := noC }
theorem ena_ok : EnvOk Try.prog ENa := { T := PT.add_ok (PT.add_ok (PT.add_ok t0_ok nan_ok) end_ok) same_ok, C := noC_ok _ _ }
theorem v65 (a b : Int) (K : SV → Prop) : (vf Try.prog ENa noL 65 [.i a, .i b] G (fun r _ => K r)) = (bif ilt a b then K (SV.i (-1)) else bif ilt b a then K (SV.i 1) else K (SV.i 0)) := by kernel_rfl
theorem v59 (a : Int) (m : Tx) (b : Bool) (t : BitVec 8) (a' : Int) (m' : Tx) (b' : Bool) (t' : BitVec 8) (K : SV → Prop) : (vf Try.prog ENa noL 59 [pcs a m b t, pcs a' m' b' t'] G (fun r _ => K r)) = (bif b then bif inI (a + (↑(List.length m) : Int)) then K (SV.b (bif true then ile (a + (↑(List.length m) : Int)) a' else false)) else False else K (SV.b false)) := by kernel_rfl
theorem v49 (a : Int) (m : Tx) (b : Bool) (t : BitVec 8) (K : SV → Prop) : (vf Try.prog ENa noL 49 [pcs a m b t] G (fun r _ => K r)) = (bif m == bts { data := #[] } then K (SV.i 8) else bif b then bif bif false then true else bif true then (↑(List.length m) : Int).tmod 8 != 0 else false then K (SV.i 8) else bif inI (a + (↑(List.length m) : Int)) then bif ilt 8192 (a + (↑(List.length m) : Int)) then K (SV.i 4) else K (SV.i 0) else False else bif inI (a + (↑(List.length m) : Int)) then bif ilt 8192 (a + (↑(List.length m) : Int)) then K (SV.i 4) else K (SV.i 0) else False) := by kernel_rfl
def cmpI (a b : Int) : Int := bif ilt a b then -1 else bif ilt b a then 1 else 0
def cCmp : List SV → List Cont → Option (Bool × SV)
 | [.i a, .i b], _ => some (true, .i (cmpI a b))
 | _, _ => none
theorem cmp_ok : POk Try.prog G 65 cCmp := by
 intro args acs r hh β M w hR hw ha
 unfold cCmp at hh
 split at hh
 ·rename_i a b
  simp only [Option.some.injEq, Prod.mk.injEq, true_and] at hh
  subst hh
  refine pokE rfl ena_ok (noL_ok _ _ _ _) (v65 a b _) ?_ rfl rfl hR
  unfold cmpI
  cases ilt a b <;> cases ilt b a <;> rfl
 ·cases hh
def fitP (a : Int) (m : Tx) (b : Bool) (a' : Int) : Bool := bif b then ile (a + (m.length : Int)) a' else false
def cFit : List SV → List Cont → Option (Bool × SV)
 | [.agg [.i a, .s m, .b b, .w8 _], .agg [.i a', .s _, .b _, .w8 _]], _ => some (inI (a + (m.length : Int)), .b (fitP a m b a'))
 | _, _ => none
theorem fits_ok : POk Try.prog G 59 cFit := by
 intro args acs r hh β M w hR hw ha
 unfold cFit at hh
 split at hh
 ·rename_i a m b t a' m' b' t'
  simp only [Option.some.injEq, Prod.mk.injEq] at hh
  obtain ⟨hl, rfl⟩ := hh
  refine pokE (E := ENa) rfl ena_ok (noL_ok _ _ _ _) (v59 a m b t a' m' b' t' _) ?_ rfl rfl hR
  unfold fitP
  cases b
  ·rfl
  ·exact bif_of hl rfl
 ·cases hh
def wrE (a : Int) (m : Tx) (b : Bool) : Int := bif m == [] then 8 else bif bif b then ((m.length : Int).tmod 8) != 0 else false then 8 else bif ilt 8192 (a + (m.length : Int)) then 4 else 0
def cWr : List SV → List Cont → Option (Bool × SV)
 | [.agg [.i a, .s m, .b b, .w8 _]], _ => some (inI (a + (m.length : Int)), .i (wrE a m b))
 | _, _ => none
theorem wrong_ok : POk Try.prog G 49 cWr := by
 intro args acs r hh β M w hR hw ha
 unfold cWr at hh
 split at hh
 ·rename_i a m b t
  simp only [Option.some.injEq, Prod.mk.injEq] at hh
  obtain ⟨hl, rfl⟩ := hh
  refine pokE (E := ENa) rfl ena_ok (noL_ok _ _ _ _) (v49 a m b t _) ?_ rfl rfl hR
  unfold wrE
  show bif m == [] then _ else _
  cases hm : m == []
  ·cases b
   ·exact bif_of hl (by cases ilt 8192 (a + (m.length : Int)) <;> rfl)
   ·show bif (m.length : Int).tmod 8 != 0 then _ else _
    cases ht : (m.length : Int).tmod 8 != 0
    ·exact bif_of hl (by cases ilt 8192 (a + (m.length : Int)) <;> rfl)
    ·rfl
  ·rfl
 ·cases hh
def EBp : Env := { G := G, T := ENa.T.add 65 cCmp, C := noC }
theorem ebp_ok : EnvOk Try.prog EBp := { T := PT.add_ok ena_ok.T cmp_ok, C := noC_ok _ _ }
theorem v58 (a : Int) (m : Tx) (b : Bool) (t : BitVec 8) (a' : Int) (m' : Tx) (b' : Bool) (t' : BitVec 8) (K : SV → Prop) : (vf Try.prog EBp noL 58 [pcs a m b t, pcs a' m' b' t'] G (fun r _ => K r)) = (K (SV.i (cmpI a a'))) := by kernel_rfl
def rowE (b : Bool) (l : List Pc) : Ent := ⟨b, .recs (some 92) fsP [] l⟩
def pcq (a : Int) (m : Tx) (b : Bool) (r : Pc) : Bool := sameP a m b r.1 r.2.1 r.2.2.1
def i62 (a : Int) (m : Tx) (b : Bool) (t : BitVec 8) (len cap i : Nat) : List (Nat × SV) := [(0, .rs 0 0 0 4 len cap), (1, .fm 56 [pcs a m b t]), (7, .i (len : Nat)), (8, .i (i : Nat))]
theorem r62 (l : List Pc) (a : Int) (m : Tx) (b : Bool) (t : BitVec 8) (len cap i : Nat) (x : Int) (p q z : Prop) : (frK 19 (i62 a m b t len cap i) fun fr => vround Try.prog ENa noL 62 0 fr [rowE false l] (Kt [rowE false l] 0 19 p (i62 a m b t len cap (i + 1)) [rowE false l] q [] [rowE false l] z [(4, .i x)] [rowE false l])) = (bif ilt (↑i : Int) (↑len : Int) then bif inR (↑i : Int) len then bif rok 0 i 4 fsP [] l.length && true then bif sameP a m b (l.getD i (rz fsP)).fst (l.getD i (rz fsP)).snd.fst (l.getD i (rz fsP)).snd.snd.fst then z ∧ SV.i (↑i : Int) = SV.i x ∧ (false = false ∧ Cont.recs (some 92) fsP [] l = Cont.recs (some 92) fsP [] l) ∧ True else bif inI ((↑i : Int) + 1) then p ∧ SV.rs 0 0 0 4 len cap = SV.rs 0 0 0 4 len cap ∧ SV.fm 56 [pcs a m b t] = SV.fm 56 [pcs a m b t] ∧ SV.i (↑len : Int) = SV.i (↑len : Int) ∧ SV.i ((↑i : Int) + 1) = SV.i (↑(i + 1) : Int) ∧ (false = false ∧ Cont.recs (some 92) fsP [] l = Cont.recs (some 92) fsP [] l) ∧ True else False else False else False else 0 = 0 ∧ q ∧ (false = false ∧ Cont.recs (some 92) fsP [] l = Cont.recs (some 92) fsP [] l) ∧ True) := by kernel_rfl
def L62 (l : List Pc) (a : Int) (m : Tx) (b : Bool) (t : BitVec 8) (len cap : Nat) (x : Int) (q z : Prop) : LT := noL.add 0 (vLoopR [rowE false l] 19 (i62 a m b t len cap 0) [rowE false l] q [] [rowE false l] z [(4, .i x)] [rowE false l])
theorem v62 (l : List Pc) (a : Int) (m : Tx) (b : Bool) (t : BitVec 8) (len cap : Nat) (x : Int) (q z : Prop) (K : SV → Prop) : (vf Try.prog ENa (L62 l a m b t len cap x q z) 62 [.rs 0 0 0 4 len cap, .fm 56 [pcs a m b t]] [rowE false l] (fun r _ => K r)) = (loopOf Try.prog 62 0 = loopOf Try.prog 62 0 ∧ SV.rs 0 0 0 4 len cap = SV.rs 0 0 0 4 len cap ∧ SV.fm 56 [pcs a m b t] = SV.fm 56 [pcs a m b t] ∧ SV.i (↑len : Int) = SV.i (↑len : Int) ∧ SV.i 0 = SV.i (↑0 : Int) ∧ (false = false ∧ Cont.recs (some 92) fsP [] l = Cont.recs (some 92) fsP [] l) ∧ (q → K (SV.i (-1))) ∧ (z → K (SV.i x))) := by kernel_rfl
def L62z (P : Program) : LT := noL.add 0 (vUn P ENa noL 62 0 1)
theorem v62z (a : Int) (m : Tx) (b : Bool) (t : BitVec 8) (K : SV → Prop) : (vf Try.prog ENa (L62z Try.prog) 62 [.v (.slice none 0 0), .fm 56 [pcs a m b t]] G (fun r _ => K r)) = (loopOf Try.prog 62 0 = loopOf Try.prog 62 0 ∧ K (SV.i (-1))) := by kernel_rfl
end Go.Proofs.Ytggoncamiafclaa
namespace Go.Proofs.Ytggoncamiafclaa
open Go.Shelf Go.RowKit Go.Lib Go.Sort
def sortP_ren : Go.Shelf.Ren := ⟨fun | 6 => 57 | 15 => 64 | 14 => 63 | 28 => 75 | 29 => 76 | 20 => 67 | 21 => 68 | 22 => 69 | 23 => 70 | 24 => 71 | 25 => 72 | 26 => 73 | 27 => 74 | 46 => 79 | 47 => 80 | 48 => 81 | 49 => 82 | 50 => 83 | 57 => 84 | n => n, fun | 22 => 78 | 24 => 92 | 25 => 101 | 3 => 3 | 39 => 64 | 0 => 0 | 53 => 22 | 55 => 37 | 4 => 4 | 46 => 116 | 45 => 115 | 50 => 120 | 5 => 5 | 9 => 9 | 66 => 127 | 70 => 131 | 76 => 133 | 77 => 134 | n => n, fun | n => n⟩
theorem sortP : Go.Proofs.SlLaysF0.n6 Try.prog sortP_ren := {
 mixed := by kernel_rfl
 f6 := ⟨Try.f57.name, by decide, Try.func57.trans (congrArg some (by kernel_rfl))⟩
 f14 := ⟨Try.f63.name, by decide, Try.func63.trans (congrArg some (by kernel_rfl))⟩
 f15 := Try.func64.trans (congrArg some (by kernel_rfl))
 f20 := ⟨Try.f67.name, by decide, Try.func67.trans (congrArg some (by kernel_rfl))⟩
 f21 := ⟨Try.f68.name, by decide, Try.func68.trans (congrArg some (by kernel_rfl))⟩
 f22 := ⟨Try.f69.name, by decide, Try.func69.trans (congrArg some (by kernel_rfl))⟩
 f23 := ⟨Try.f70.name, by decide, Try.func70.trans (congrArg some (by kernel_rfl))⟩
 f24 := ⟨Try.f71.name, by decide, Try.func71.trans (congrArg some (by kernel_rfl))⟩
 f25 := ⟨Try.f72.name, by decide, Try.func72.trans (congrArg some (by kernel_rfl))⟩
 f26 := ⟨Try.f73.name, by decide, Try.func73.trans (congrArg some (by kernel_rfl))⟩
 f27 := ⟨Try.f74.name, by decide, Try.func74.trans (congrArg some (by kernel_rfl))⟩
 f28 := Try.func75.trans (congrArg some (by kernel_rfl))
 f29 := Try.func76.trans (congrArg some (by kernel_rfl))
 f46 := ⟨Try.f79.name, by decide, Try.func79.trans (congrArg some (by kernel_rfl))⟩
 f47 := Try.func80.trans (congrArg some (by kernel_rfl))
 f48 := Try.func81.trans (congrArg some (by kernel_rfl))
 f49 := ⟨Try.f82.name, by decide, Try.func82.trans (congrArg some (by kernel_rfl))⟩
 f50 := ⟨Try.f83.name, by decide, Try.func83.trans (congrArg some (by kernel_rfl))⟩
 f57 := ⟨Try.f84.name, by decide, Try.func84.trans (congrArg some (by kernel_rfl))⟩
 t0 := Try.underlying0
 a0 := Try.isAgg0
 z0 := Try.sizeOf0
 v0 := Try.zeroValue0
 t3 := Try.underlying3
 a3 := Try.isAgg3
 z3 := Try.sizeOf3
 v3 := Try.zeroValue3
 t4 := Try.underlying4
 a4 := Try.isAgg4
 z4 := Try.sizeOf4
 v4 := Try.zeroValue4
 t5 := Try.underlying5
 a5 := Try.isAgg5
 z5 := Try.sizeOf5
 v5 := Try.zeroValue5
 t9 := Try.underlying9
 a9 := Try.isAgg9
 z9 := Try.sizeOf9
 v9 := Try.zeroValue9
 t22 := Try.underlying78
 a22 := Try.isAgg78
 z22 := Try.sizeOf78
 v22 := Try.zeroValue78
 t25 := Try.underlying101
 a25 := Try.isAgg101
 z25 := Try.sizeOf101
 v25 := Try.zeroValue101
 t39 := Try.underlying64
 a39 := Try.isAgg64
 z39 := Try.sizeOf64
 v39 := Try.zeroValue64
 t45 := Try.underlying115
 a45 := Try.isAgg115
 z45 := Try.sizeOf115
 v45 := Try.zeroValue115
 t46 := Try.underlying116
 a46 := Try.isAgg116
 z46 := Try.sizeOf116
 v46 := Try.zeroValue116
 t50 := Try.underlying120
 a50 := Try.isAgg120
 z50 := Try.sizeOf120
 v50 := Try.zeroValue120
 t53 := Try.underlying22
 a53 := Try.isAgg22
 z53 := Try.sizeOf22
 v53 := Try.zeroValue22
 t55 := Try.underlying37
 a55 := Try.isAgg37
 z55 := Try.sizeOf37
 v55 := Try.zeroValue37
 t66 := Try.underlying127
 a66 := Try.isAgg127
 z66 := Try.sizeOf127
 v66 := Try.zeroValue127
 t70 := Try.underlying131
 a70 := Try.isAgg131
 z70 := Try.sizeOf131
 v70 := Try.zeroValue131
 t76 := Try.underlying133
 a76 := Try.isAgg133
 z76 := Try.sizeOf133
 v76 := Try.zeroValue133
 t77 := Try.underlying134
 a77 := Try.isAgg134
 z77 := Try.sizeOf134
 v77 := Try.zeroValue134 }
def cmpInt_ren : Go.Shelf.Ren := ⟨fun | 5 => 65 | 7 => 77 | n => n, fun | 22 => 3 | 3 => 3 | 4 => 4 | n => n, fun | n => n⟩
theorem cmpInt : Go.Proofs.SlLaysC2.n5 Try.prog cmpInt_ren := {
 mixed := by kernel_rfl
 f5 := ⟨Try.f65.name, by decide, Try.func65.trans (congrArg some (by kernel_rfl))⟩
 f7 := ⟨Try.f77.name, by decide, Try.func77.trans (congrArg some (by kernel_rfl))⟩
 t3 := Try.underlying3
 a3 := Try.isAgg3
 z3 := Try.sizeOf3
 v3 := Try.zeroValue3
 t4 := Try.underlying4
 a4 := Try.isAgg4
 z4 := Try.sizeOf4
 v4 := Try.zeroValue4
 t22 := Try.underlying3
 a22 := Try.isAgg3
 z22 := Try.sizeOf3
 v22 := Try.zeroValue3 }
def encP (x : Int × ByteArray × Bool × Int) : List Value := [.int .i64 x.1, .string x.2.1, .bool x.2.2.1, .int .u8 x.2.2.2]
def byAt (x y : Int × ByteArray × Bool × Int) : Int := Lib.compareInt x.1 y.1
set_option maxHeartbeats 1000000 in
theorem byPlace_any (x y : Int × ByteArray × Bool × Int) (W : World) : Calls Try.prog 58 #[.agg (encP x).toArray, .agg (encP y).toArray] W fun e w' => e = .returned (.int .i64 (byAt x y)) ∧ ∃ q os', w' = grow (W.drewN q) os' := by
 unfold byAt encP
 have hcon := fun W' => AnyG.cmp_Compare_int cmpInt x.1 y.1 W'
 change ∀ W', Calls Try.prog 65 _ _ _ at hcon
 generalize Lib.compareInt x.1 y.1 = r at hcon ⊢
 go_enter Try.func58, Try.ntmps58
 go_wp2_with (go_at_call 65; refine (hcon _).mono ?_; rintro e w' ⟨rfl, rfl⟩)
 go_ret
 exact ⟨rfl, 0, _, by rw [alloc_eq_grow, alloc_eq_grow, grow_grow]; rfl⟩
theorem byAt_lt (x y : Int × ByteArray × Bool × Int) : ltOf byAt x y = decide (x.1 < y.1) := by
 unfold ltOf byAt Lib.compareInt
 by_cases h1 : x.1 < y.1
 ·simp [h1]
 ·by_cases h2 : y.1 < x.1 <;> simp [h1, h2]
theorem byAt_swo : SWO (ltOf byAt) where
 irrefl x := by rw [byAt_lt]; simp
 trans x y z h1 h2 := by rw [byAt_lt] at *; simp at *; omega
 ntrans x y z h1 h2 := by rw [byAt_lt] at *; simp at *; omega
theorem sort_any (blk cap : Nat) (d : Array (Int × ByteArray × Bool × Int)) (w : World) (hH : HoldsK encP 4 w blk 0 d) (hblk : blk < w.heap.size) (hsz : d.size < 4611686018427387904) :
  Calls Try.prog 57 #[.slice (some ⟨blk, 0, none⟩) d.size cap, .func (.func 58) #[] #[]] w fun e w' => e = .returned (.tuple #[]) ∧ ∃ d' n os, PermIn 0 d.size d d' ∧ SortedIn (ltOf byAt) 0 d.size d' ∧ w' = sortWorldK encP 4 w blk 0 n d' os :=
 AnyQ.slices_SortFunc sortP 4 Try.isAgg92 Try.sizeOf92 encP (fun _ => rfl) (fun x v hv => by simp [encP] at hv; rcases hv with rfl | rfl | rfl | rfl <;> rfl) byAt byAt_swo 58 #[] blk 0 cap d w (enters_of Try.func58 (by kernel_rfl) rfl) (fun _ _ _ _ x y => byPlace_any x y _) hH hblk hsz
end Go.Proofs.Ytggoncamiafclaa
