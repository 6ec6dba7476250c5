/-
  ip: what is said back, by the document; pieces' own questions. No statement is proved here.
-/
import Derived.Test.YtggoncamiafclabIpD
import Derived.Shelf.SlSortCmp.WholeK
import Derived.Shelf.SlicesG.Cmp
import Derived.Test.YtggoncamiafclabProg
import Derived.WalkKit
namespace Go.Proofs.Ytggoncamiafclab
open Go.RowKit
set_option linter.unusedVariables false
set_option linter.unusedSimpArgs false
set_option maxRecDepth 100000

-- pieces
abbrev pcs (a : Int) (m : Tx) (b : Bool) (t : BitVec 8) : SV := .agg [.i a, .s m, .b b, .w8 t]
theorem v54 (a : Int) (m : Tx) (b : Bool) (t : BitVec 8) (K : SV → Prop) : (vf Try.prog E0 noL 28 [pcs a m b t] G (fun r _ => K r)) = (bif inI (a + (↑(List.length m) : Int)) then K (SV.i (a + (↑(List.length m) : Int))) else False) := by kernel_rfl
theorem v56 (a : Int) (m : Tx) (b : Bool) (t : BitVec 8) (a' : Int) (m' : Tx) (b' : Bool) (t' : BitVec 8) (K : SV → Prop) : (vf Try.prog E0 noL 30 [pcs a m b t, pcs a' m' b' t'] G (fun r _ => K r)) = (bif a == a' then bif bif true then bif false then !b == b' else b == b' else false then K (SV.b (bif true then m == m' else false)) else K (SV.b false) else K (SV.b false)) := by kernel_rfl
theorem v77 (a : Int) (K : SV → Prop) : (vf Try.prog E0 noL 51 [.i a] G (fun r _ => K r)) = (K (SV.b (a != a))) := by kernel_rfl
def cEnd : List SV → List Cont → Option (Bool × SV)
  | [.agg [.i a, .s m, .b _, .w8 _]], _ => some (inI (a + (m.length : Int)), .i (a + (m.length : Int)))
  | _, _ => none
def cSame (F : Int → Tx → Bool → Int → Tx → Bool → Bool) : List SV → List Cont → Option (Bool × SV)
  | [.agg [.i a, .s m, .b b, .w8 _], .agg [.i a', .s m', .b b', .w8 _]], _ => some (true, .b (F a m b a' m' b'))
  | _, _ => none
def sameP (a : Int) (m : Tx) (b : Bool) (a' : Int) (m' : Tx) (b' : Bool) : Bool := bif bif a == a' then b == b' else false then m == m' else false
def cNaN : List SV → List Cont → Option (Bool × SV)
  | [.i _], _ => some (true, .b false)
  | _, _ => none
theorem end_ok : POk Try.prog G 28 cEnd := by
  intro args acs r hh β M w hR hw ha
  unfold cEnd at hh
  split at hh
  · rename_i a m b t
    simp only [Option.some.injEq, Prod.mk.injEq] at hh
    obtain ⟨hl, rfl⟩ := hh
    exact pokE (E := E0) rfl e0_ok (noL_ok _ _ _ _) (v54 a m b t _) (bif_of hl rfl) rfl rfl hR
  · cases hh
theorem same_ok : POk Try.prog G 30 (cSame sameP) := by
  intro args acs r hh β M w hR hw ha
  unfold cSame at hh
  split at hh
  · rename_i a m b t a' m' b' t'
    simp only [Option.some.injEq, Prod.mk.injEq, true_and] at hh
    subst hh
    refine pokE (E := E0) rfl e0_ok (noL_ok _ _ _ _) (v56 a m b t a' m' b' t' _) ?_ rfl rfl hR
    unfold sameP
    cases a == a'
    · rfl
    · cases hb : b == b'
      · rfl
      · rfl
  · cases hh
theorem nan_ok : POk Try.prog G 51 cNaN := by
  intro args acs r hh β M w hR hw ha
  unfold cNaN at hh
  split at hh
  · rename_i a
    simp only [Option.some.injEq, Prod.mk.injEq, true_and] at hh
    subst hh
    exact pokE rfl e0_ok (noL_ok _ _ _ _) (v77 a _) (congrArg SV.b (by simp)) rfl rfl hR
  · cases hh
def ENa : Env := { G := G, T := ((T0.add 51 cNaN).add 28 cEnd).add 30 (cSame sameP), C := noC }
theorem ena_ok : EnvOk Try.prog ENa := { T := PT.add_ok (PT.add_ok (PT.add_ok t0_ok nan_ok) end_ok) same_ok, C := noC_ok _ _ }
theorem v65 (a b : Int) (K : SV → Prop) : (vf Try.prog ENa noL 39 [.i a, .i b] G (fun r _ => K r)) = (bif ilt a b then K (SV.i (-1)) else bif ilt b a then K (SV.i 1) else K (SV.i 0)) := by kernel_rfl
theorem v59 (a : Int) (m : Tx) (b : Bool) (t : BitVec 8) (a' : Int) (m' : Tx) (b' : Bool) (t' : BitVec 8) (K : SV → Prop) : (vf Try.prog ENa noL 33 [pcs a m b t, pcs a' m' b' t'] G (fun r _ => K r)) = (bif b then bif inI (a + (↑(List.length m) : Int)) then K (SV.b (bif true then ile (a + (↑(List.length m) : Int)) a' else false)) else False else K (SV.b false)) := by kernel_rfl
theorem v49 (a : Int) (m : Tx) (b : Bool) (t : BitVec 8) (K : SV → Prop) : (vf Try.prog ENa noL 19 [pcs a m b t] G (fun r _ => K r)) = (bif m == bts { data := #[] } then K (SV.i 8) else bif b then bif bif false then true else bif true then (↑(List.length m) : Int).tmod 8 != 0 else false then K (SV.i 8) else bif inI (a + (↑(List.length m) : Int)) then bif ilt 8192 (a + (↑(List.length m) : Int)) then K (SV.i 4) else K (SV.i 0) else False else bif inI (a + (↑(List.length m) : Int)) then bif ilt 8192 (a + (↑(List.length m) : Int)) then K (SV.i 4) else K (SV.i 0) else False) := by kernel_rfl
def cmpI (a b : Int) : Int := bif ilt a b then -1 else bif ilt b a then 1 else 0
def cCmp : List SV → List Cont → Option (Bool × SV)
  | [.i a, .i b], _ => some (true, .i (cmpI a b))
  | _, _ => none
theorem cmp_ok : POk Try.prog G 39 cCmp := by
  intro args acs r hh β M w hR hw ha
  unfold cCmp at hh
  split at hh
  · rename_i a b
    simp only [Option.some.injEq, Prod.mk.injEq, true_and] at hh
    subst hh
    refine pokE rfl ena_ok (noL_ok _ _ _ _) (v65 a b _) ?_ rfl rfl hR
    unfold cmpI
    cases ilt a b <;> cases ilt b a <;> rfl
  · cases hh
def fitP (a : Int) (m : Tx) (b : Bool) (a' : Int) : Bool := bif b then ile (a + (m.length : Int)) a' else false
def cFit : List SV → List Cont → Option (Bool × SV)
  | [.agg [.i a, .s m, .b b, .w8 _], .agg [.i a', .s _, .b _, .w8 _]], _ => some (inI (a + (m.length : Int)), .b (fitP a m b a'))
  | _, _ => none
theorem fits_ok : POk Try.prog G 33 cFit := by
  intro args acs r hh β M w hR hw ha
  unfold cFit at hh
  split at hh
  · rename_i a m b t a' m' b' t'
    simp only [Option.some.injEq, Prod.mk.injEq] at hh
    obtain ⟨hl, rfl⟩ := hh
    refine pokE (E := ENa) rfl ena_ok (noL_ok _ _ _ _) (v59 a m b t a' m' b' t' _) ?_ rfl rfl hR
    unfold fitP
    cases b
    · rfl
    · exact bif_of hl rfl
  · cases hh
/-- Why it can be a piece of nothing. -/
def wrE (a : Int) (m : Tx) (b : Bool) : Int := bif m == [] then 8 else bif bif b then ((m.length : Int).tmod 8) != 0 else false then 8 else bif ilt 8192 (a + (m.length : Int)) then 4 else 0
def cWr : List SV → List Cont → Option (Bool × SV)
  | [.agg [.i a, .s m, .b b, .w8 _]], _ => some (inI (a + (m.length : Int)), .i (wrE a m b))
  | _, _ => none
theorem wrong_ok : POk Try.prog G 19 cWr := by
  intro args acs r hh β M w hR hw ha
  unfold cWr at hh
  split at hh
  · rename_i a m b t
    simp only [Option.some.injEq, Prod.mk.injEq] at hh
    obtain ⟨hl, rfl⟩ := hh
    refine pokE (E := ENa) rfl ena_ok (noL_ok _ _ _ _) (v49 a m b t _) ?_ rfl rfl hR
    unfold wrE
    show bif m == [] then _ else _
    cases hm : m == []
    · cases b
      · exact bif_of hl (by cases ilt 8192 (a + (m.length : Int)) <;> rfl)
      · show bif (m.length : Int).tmod 8 != 0 then _ else _
        cases ht : (m.length : Int).tmod 8 != 0
        · exact bif_of hl (by cases ilt 8192 (a + (m.length : Int)) <;> rfl)
        · rfl
    · rfl
  · cases hh
def EBp : Env := { G := G, T := ENa.T.add 39 cCmp, C := noC }
theorem ebp_ok : EnvOk Try.prog EBp := { T := PT.add_ok ena_ok.T cmp_ok, C := noC_ok _ _ }
theorem v58 (a : Int) (m : Tx) (b : Bool) (t : BitVec 8) (a' : Int) (m' : Tx) (b' : Bool) (t' : BitVec 8) (K : SV → Prop) : (vf Try.prog EBp noL 32 [pcs a m b t, pcs a' m' b' t'] G (fun r _ => K r)) = (K (SV.i (cmpI a a'))) := by kernel_rfl
-- rows of pieces
def rowE (b : Bool) (l : List Pc) : Ent := ⟨b, .recs (some 60) fsP [] l⟩
def pcq (a : Int) (m : Tx) (b : Bool) (r : Pc) : Bool := sameP a m b r.1 r.2.1 r.2.2.1
def i62 (a : Int) (m : Tx) (b : Bool) (t : BitVec 8) (len cap i : Nat) : List (Nat × SV) := [(0, .rs 0 0 0 4 len cap), (1, .fm 30 [pcs a m b t]), (7, .i (len : Nat)), (8, .i (i : Nat))]
theorem r62 (l : List Pc) (a : Int) (m : Tx) (b : Bool) (t : BitVec 8) (len cap i : Nat) (x : Int) (p q z : Prop) : (frK 19 (i62 a m b t len cap i) fun fr => vround Try.prog ENa noL 36 0 fr [rowE false l] (Kt [rowE false l] 0 19 p (i62 a m b t len cap (i + 1)) [rowE false l] q [] [rowE false l] z [(4, .i x)] [rowE false l])) = (bif ilt (↑i : Int) (↑len : Int) then bif inR (↑i : Int) len then bif rok 0 i 4 fsP [] l.length && true then bif sameP a m b (l.getD i (rz fsP)).fst (l.getD i (rz fsP)).snd.fst (l.getD i (rz fsP)).snd.snd.fst then z ∧ SV.i (↑i : Int) = SV.i x ∧ (false = false ∧ Cont.recs (some 60) fsP [] l = Cont.recs (some 60) fsP [] l) ∧ True else bif inI ((↑i : Int) + 1) then p ∧ SV.rs 0 0 0 4 len cap = SV.rs 0 0 0 4 len cap ∧ SV.fm 30 [pcs a m b t] = SV.fm 30 [pcs a m b t] ∧ SV.i (↑len : Int) = SV.i (↑len : Int) ∧ SV.i ((↑i : Int) + 1) = SV.i (↑(i + 1) : Int) ∧ (false = false ∧ Cont.recs (some 60) fsP [] l = Cont.recs (some 60) fsP [] l) ∧ True else False else False else False else 0 = 0 ∧ q ∧ (false = false ∧ Cont.recs (some 60) fsP [] l = Cont.recs (some 60) fsP [] l) ∧ True) := by kernel_rfl
def L62 (l : List Pc) (a : Int) (m : Tx) (b : Bool) (t : BitVec 8) (len cap : Nat) (x : Int) (q z : Prop) : LT := noL.add 0 (vLoopR [rowE false l] 19 (i62 a m b t len cap 0) [rowE false l] q [] [rowE false l] z [(4, .i x)] [rowE false l])
theorem v62 (l : List Pc) (a : Int) (m : Tx) (b : Bool) (t : BitVec 8) (len cap : Nat) (x : Int) (q z : Prop) (K : SV → Prop) : (vf Try.prog ENa (L62 l a m b t len cap x q z) 36 [.rs 0 0 0 4 len cap, .fm 30 [pcs a m b t]] [rowE false l] (fun r _ => K r)) = (loopOf Try.prog 36 0 = loopOf Try.prog 36 0 ∧ SV.rs 0 0 0 4 len cap = SV.rs 0 0 0 4 len cap ∧ SV.fm 30 [pcs a m b t] = SV.fm 30 [pcs a m b t] ∧ SV.i (↑len : Int) = SV.i (↑len : Int) ∧ SV.i 0 = SV.i (↑0 : Int) ∧ (false = false ∧ Cont.recs (some 60) fsP [] l = Cont.recs (some 60) fsP [] l) ∧ (q → K (SV.i (-1))) ∧ (z → K (SV.i x))) := by kernel_rfl
def L62z (P : Program) : LT := noL.add 0 (vUn P ENa noL 36 0 1)
theorem v62z (a : Int) (m : Tx) (b : Bool) (t : BitVec 8) (K : SV → Prop) : (vf Try.prog ENa (L62z Try.prog) 36 [.v (.slice none 0 0), .fm 30 [pcs a m b t]] G (fun r _ => K r)) = (loopOf Try.prog 36 0 = loopOf Try.prog 36 0 ∧ K (SV.i (-1))) := by kernel_rfl
end Go.Proofs.Ytggoncamiafclab
namespace Go.Proofs.Ytggoncamiafclab
open Go.Shelf Go.RowKit Go.Lib Go.Sort
def sortP_ren : Go.Shelf.Ren := ⟨fun | 6 => 31 | 15 => 38 | 14 => 37 | 28 => 49 | 29 => 50 | 20 => 41 | 21 => 42 | 22 => 43 | 23 => 44 | 24 => 45 | 25 => 46 | 26 => 47 | 27 => 48 | 46 => 53 | 47 => 54 | 48 => 55 | 49 => 56 | 50 => 57 | 57 => 58 | n => n, fun | 22 => 50 | 24 => 60 | 25 => 72 | 3 => 3 | 39 => 58 | 0 => 0 | 53 => 24 | 55 => 33 | 4 => 4 | 46 => 88 | 45 => 87 | 50 => 92 | 5 => 5 | 9 => 9 | 66 => 99 | 70 => 103 | 76 => 105 | 77 => 106 | n => n, fun | n => n⟩
theorem sortP : Go.Proofs.SlLaysF0.n6 Try.prog sortP_ren := {
  mixed := by kernel_rfl
  f6 := ⟨Try.f31.name, by decide, Try.func31.trans (congrArg some (by kernel_rfl))⟩
  f14 := ⟨Try.f37.name, by decide, Try.func37.trans (congrArg some (by kernel_rfl))⟩
  f15 := Try.func38.trans (congrArg some (by kernel_rfl))
  f20 := ⟨Try.f41.name, by decide, Try.func41.trans (congrArg some (by kernel_rfl))⟩
  f21 := ⟨Try.f42.name, by decide, Try.func42.trans (congrArg some (by kernel_rfl))⟩
  f22 := ⟨Try.f43.name, by decide, Try.func43.trans (congrArg some (by kernel_rfl))⟩
  f23 := ⟨Try.f44.name, by decide, Try.func44.trans (congrArg some (by kernel_rfl))⟩
  f24 := ⟨Try.f45.name, by decide, Try.func45.trans (congrArg some (by kernel_rfl))⟩
  f25 := ⟨Try.f46.name, by decide, Try.func46.trans (congrArg some (by kernel_rfl))⟩
  f26 := ⟨Try.f47.name, by decide, Try.func47.trans (congrArg some (by kernel_rfl))⟩
  f27 := ⟨Try.f48.name, by decide, Try.func48.trans (congrArg some (by kernel_rfl))⟩
  f28 := Try.func49.trans (congrArg some (by kernel_rfl))
  f29 := Try.func50.trans (congrArg some (by kernel_rfl))
  f46 := ⟨Try.f53.name, by decide, Try.func53.trans (congrArg some (by kernel_rfl))⟩
  f47 := Try.func54.trans (congrArg some (by kernel_rfl))
  f48 := Try.func55.trans (congrArg some (by kernel_rfl))
  f49 := ⟨Try.f56.name, by decide, Try.func56.trans (congrArg some (by kernel_rfl))⟩
  f50 := ⟨Try.f57.name, by decide, Try.func57.trans (congrArg some (by kernel_rfl))⟩
  f57 := ⟨Try.f58.name, by decide, Try.func58.trans (congrArg some (by kernel_rfl))⟩
  t0 := Try.underlying0
  a0 := Try.isAgg0
  z0 := Try.sizeOf0
  v0 := Try.zeroValue0
  t3 := Try.underlying3
  a3 := Try.isAgg3
  z3 := Try.sizeOf3
  v3 := Try.zeroValue3
  t4 := Try.underlying4
  a4 := Try.isAgg4
  z4 := Try.sizeOf4
  v4 := Try.zeroValue4
  t5 := Try.underlying5
  a5 := Try.isAgg5
  z5 := Try.sizeOf5
  v5 := Try.zeroValue5
  t9 := Try.underlying9
  a9 := Try.isAgg9
  z9 := Try.sizeOf9
  v9 := Try.zeroValue9
  t22 := Try.underlying50
  a22 := Try.isAgg50
  z22 := Try.sizeOf50
  v22 := Try.zeroValue50
  t25 := Try.underlying72
  a25 := Try.isAgg72
  z25 := Try.sizeOf72
  v25 := Try.zeroValue72
  t39 := Try.underlying58
  a39 := Try.isAgg58
  z39 := Try.sizeOf58
  v39 := Try.zeroValue58
  t45 := Try.underlying87
  a45 := Try.isAgg87
  z45 := Try.sizeOf87
  v45 := Try.zeroValue87
  t46 := Try.underlying88
  a46 := Try.isAgg88
  z46 := Try.sizeOf88
  v46 := Try.zeroValue88
  t50 := Try.underlying92
  a50 := Try.isAgg92
  z50 := Try.sizeOf92
  v50 := Try.zeroValue92
  t53 := Try.underlying24
  a53 := Try.isAgg24
  z53 := Try.sizeOf24
  v53 := Try.zeroValue24
  t55 := Try.underlying33
  a55 := Try.isAgg33
  z55 := Try.sizeOf33
  v55 := Try.zeroValue33
  t66 := Try.underlying99
  a66 := Try.isAgg99
  z66 := Try.sizeOf99
  v66 := Try.zeroValue99
  t70 := Try.underlying103
  a70 := Try.isAgg103
  z70 := Try.sizeOf103
  v70 := Try.zeroValue103
  t76 := Try.underlying105
  a76 := Try.isAgg105
  z76 := Try.sizeOf105
  v76 := Try.zeroValue105
  t77 := Try.underlying106
  a77 := Try.isAgg106
  z77 := Try.sizeOf106
  v77 := Try.zeroValue106 }
def cmpInt_ren : Go.Shelf.Ren := ⟨fun | 5 => 39 | 7 => 51 | n => n, fun | 22 => 3 | 3 => 3 | 4 => 4 | n => n, fun | n => n⟩
theorem cmpInt : Go.Proofs.SlLaysC2.n5 Try.prog cmpInt_ren := {
  mixed := by kernel_rfl
  f5 := ⟨Try.f39.name, by decide, Try.func39.trans (congrArg some (by kernel_rfl))⟩
  f7 := ⟨Try.f51.name, by decide, Try.func51.trans (congrArg some (by kernel_rfl))⟩
  t3 := Try.underlying3
  a3 := Try.isAgg3
  z3 := Try.sizeOf3
  v3 := Try.zeroValue3
  t4 := Try.underlying4
  a4 := Try.isAgg4
  z4 := Try.sizeOf4
  v4 := Try.zeroValue4
  t22 := Try.underlying3
  a22 := Try.isAgg3
  z22 := Try.sizeOf3
  v22 := Try.zeroValue3 }

/-- A piece's cells. -/
def encP (x : Int × ByteArray × Bool × Int) : List Value := [.int .i64 x.1, .string x.2.1, .bool x.2.2.1, .int .u8 x.2.2.2]
def byAt (x y : Int × ByteArray × Bool × Int) : Int := Lib.compareInt x.1 y.1
set_option maxHeartbeats 1000000 in
/-- Two pieces, by their places. -/
theorem byPlace_any (x y : Int × ByteArray × Bool × Int) (W : World) : Calls Try.prog 32 #[.agg (encP x).toArray, .agg (encP y).toArray] W fun e w' => e = .returned (.int .i64 (byAt x y)) ∧ ∃ q os', w' = grow (W.drewN q) os' := by
  unfold byAt encP
  have hcon := fun W' => AnyG.cmp_Compare_int cmpInt x.1 y.1 W'
  change ∀ W', Calls Try.prog 39 _ _ _ at hcon
  generalize Lib.compareInt x.1 y.1 = r at hcon ⊢
  go_enter Try.func32, Try.ntmps32
  go_wp2_with (go_at_call 39; refine (hcon _).mono ?_; rintro e w' ⟨rfl, rfl⟩)
  go_ret
  exact ⟨rfl, 0, _, by rw [alloc_eq_grow, alloc_eq_grow, grow_grow]; rfl⟩
theorem byAt_lt (x y : Int × ByteArray × Bool × Int) : ltOf byAt x y = decide (x.1 < y.1) := by
  unfold ltOf byAt Lib.compareInt
  by_cases h1 : x.1 < y.1
  · simp [h1]
  · by_cases h2 : y.1 < x.1 <;> simp [h1, h2]
theorem byAt_swo : SWO (ltOf byAt) where
  irrefl x := by rw [byAt_lt]; simp
  trans x y z h1 h2 := by rw [byAt_lt] at *; simp at *; omega
  ntrans x y z h1 h2 := by rw [byAt_lt] at *; simp at *; omega
/-- The whole sort: a permutation, by rising places. -/
theorem sort_any (blk cap : Nat) (d : Array (Int × ByteArray × Bool × Int)) (w : World) (hH : HoldsK encP 4 w blk 0 d) (hblk : blk < w.heap.size) (hsz : d.size < 4611686018427387904) :
    Calls Try.prog 31 #[.slice (some ⟨blk, 0, none⟩) d.size cap, .func (.func 32) #[] #[]] w fun e w' => e = .returned (.tuple #[]) ∧ ∃ d' n os, PermIn 0 d.size d d' ∧ SortedIn (ltOf byAt) 0 d.size d' ∧ w' = sortWorldK encP 4 w blk 0 n d' os :=
  AnyQ.slices_SortFunc sortP 4 Try.isAgg60 Try.sizeOf60 encP (fun _ => rfl) (fun x v hv => by simp [encP] at hv; rcases hv with rfl | rfl | rfl | rfl <;> rfl) byAt byAt_swo 32 #[] blk 0 cap d w (enters_of Try.func32 (by kernel_rfl) rfl) (fun _ _ _ _ x y => byPlace_any x y _) hH hblk hsz
end Go.Proofs.Ytggoncamiafclab
