/-
  sum: what is not a whole block, as the library's buffer holds it. No statement is proved here.
-/
import Derived.Test.YtmalnjdacmlcdaaDoorSuD
namespace Go.Proofs.YtmalnjdacmlcdaaDoor
open Go.RowKit
set_option linter.unusedVariables false
set_option linter.unusedSimpArgs false
set_option maxRecDepth 100000

/-- A hash, as it lies in memory. -/
def hrow (s : S8) (buf : SV) (n : BitVec 64) : List SV := [.b true, .w32 s.a, .w32 s.b, .w32 s.c, .w32 s.d, .w32 s.e, .w32 s.f, .w32 s.g, .w32 s.h, buf, .i 0, .v (.int .i8 0), .w64 n]
def hget : Cont → Option (S8 × SV × BitVec 64)
  | .row [.b t, .w32 a, .w32 b, .w32 c, .w32 d, .w32 e, .w32 f, .w32 g, .w32 h, buf, .i o, .v (.int .i8 z), .w64 n] => bif t && (o == 0 && z == 0) then some (⟨a, b, c, d, e, f, g, h⟩, buf, n) else none
  | _ => none
theorem hget_ok {c : Cont} {s : S8} {buf : SV} {n : BitVec 64} (h : hget c = some (s, buf, n)) : c = .row (hrow s buf n) := by
  unfold hget at h
  split at h
  · rename_i t a b c d e f g h' buf' o z n'
    generalize hb : (t && (o == 0 && z == 0)) = bb at h
    cases bb
    · cases h
    · simp only [Bool.and_eq_true, beq_iff_eq] at hb
      obtain ⟨rfl, rfl, rfl⟩ := hb
      simp only [cond_true, Option.some.injEq, Prod.mk.injEq] at h
      obtain ⟨rfl, rfl, rfl⟩ := h
      rfl
  · cases h
/-- What a buffer holds: nothing yet, or so much of a block. -/
inductive BK where
  | no
  | at' (j len : Nat)
def bget : SV → Option BK
  | .v (.slice none 0 0) => some .no
  | .sl j o len cap => bif Nat.beq o 0 && Nat.beq cap 64 then some (.at' j len) else none
  | _ => none
def BK.sv : BK → SV
  | .no => .v (.slice none 0 0)
  | .at' j len => .sl j 0 len 64
theorem bget_ok {x : SV} {b : BK} (h : bget x = some b) : x = b.sv := by
  unfold bget at h
  split at h
  · obtain rfl := Option.some.inj h; rfl
  · rename_i j o len cap
    generalize hb : (Nat.beq o 0 && Nat.beq cap 64) = bb at h
    cases bb
    · cases h
    · simp only [Bool.and_eq_true] at hb
      obtain rfl := Nat.eq_of_beq_eq_true hb.1
      obtain rfl := Nat.eq_of_beq_eq_true hb.2
      obtain rfl := Option.some.inj h
      rfl
  · cases h
def Hn (s : S8) (n : BitVec 64) : Mm := [⟨false, .a32 H0⟩, ⟨false, .a32 K64⟩, ⟨true, .row (hrow s (.v (.slice none 0 0)) n)⟩]
def Hb (s : S8) (len : Nat) (n : BitVec 64) (l : List (BitVec 8)) : Mm := [⟨false, .a32 H0⟩, ⟨false, .a32 K64⟩, ⟨true, .row (hrow s (.sl 3 0 len 64) n)⟩, ⟨true, .a8 l⟩]
def Hv (s : S8) (v : Value) (n : BitVec 64) : Mm := [⟨false, .a32 H0⟩, ⟨false, .a32 K64⟩, ⟨false, .row (hrow s (.v v) n)⟩]
theorem vc21 (K : SV → Mm → Prop) : (vf Tryd.prog E9 noL 36 [.v (.pointer none)] G K) = (K (SV.b false) G) := by kernel_rfl
theorem vc21a (s : S8) (v : Value) (n : BitVec 64) (K : SV → Mm → Prop) : (vf Tryd.prog E9 noL 36 [.ptr 2 0] (Hv s v n) K) = (K (SV.b (bif true then true else false)) (Hv s v n)) := by kernel_rfl
theorem vc24 (s : S8) (a : Addr) (len : Nat) (n : BitVec 64) (K : SV → Mm → Prop) : (vf Tryd.prog E9 noL 37 [.ptr 2 9] (Hv s (.slice (some a) len 64) n) K) = (bif inI ((↑len : Int) - 0) then K (SV.i ((↑len : Int) - 0)) [{ rw := false, c := Cont.a32 H0 }, { rw := false, c := Cont.a32 K64 }, { rw := false, c := Cont.row (hrow s (SV.v (Value.slice (some a) len 64)) n) }] else False) := by kernel_rfl
theorem vc24z (s : S8) (n : BitVec 64) (K : SV → Mm → Prop) : (vf Tryd.prog E9 noL 37 [.ptr 2 9] (Hv s (.slice none 0 0) n) K) = (K (SV.i ((↑0 : Int) - 0)) [{ rw := false, c := Cont.a32 H0 }, { rw := false, c := Cont.a32 K64 }, { rw := false, c := Cont.row (hrow s (SV.v (Value.slice none 0 0)) n) }]) := by kernel_rfl
theorem vc23 (s : S8) (a : Addr) (len : Nat) (n : BitVec 64) (K : SV → Mm → Prop) : (vf Tryd.prog E9 noL 40 [.ptr 2 9] (Hv s (.slice (some a) len 64) n) K) = (bif ile (↑len : Int) (↑64 : Int) then K (SV.v (Value.slice (some a) len 64)) [{ rw := false, c := Cont.a32 H0 }, { rw := false, c := Cont.a32 K64 }, { rw := false, c := Cont.row (hrow s (SV.v (Value.slice (some a) len 64)) n) }] else False) := by kernel_rfl
theorem vc23z (s : S8) (n : BitVec 64) (K : SV → Mm → Prop) : (vf Tryd.prog E9 noL 40 [.ptr 2 9] (Hv s (.slice none 0 0) n) K) = (K (SV.v (Value.slice none 0 0)) [{ rw := false, c := Cont.a32 H0 }, { rw := false, c := Cont.a32 K64 }, { rw := false, c := Cont.row (hrow s (SV.v (Value.slice none 0 0)) n) }]) := by kernel_rfl
theorem Rel.ro_more {G : Mm} {β : Nat → Nat} {w : World} (h : Rel G β G w) {b : Nat} {x : Cont} (hx : x.wf G.length = true) (hh : Holds w b false (x.cells β) x.shp) : Rel G (upd1 β G.length b) (G ++ [⟨false, x⟩]) w := by
  have ha := upd1_agree β G.length b
  have eb : upd1 β G.length b G.length = b := by unfold upd1; rw [if_pos rfl]
  refine ⟨fun k e he hc => ?_, fun i j p q hp hq hij hr => ?_, fun g hg => by rw [ha g hg]; exact h.glob g hg, by simp, fun k hk => List.getElem?_append_left hk, h.ro, fun k e he => ?_⟩
  · rcases app_get he with ⟨q, hk⟩ | ⟨i, rfl, hi⟩
    · rw [ha k q, cells_agree ha _ (h.wf k e hk)]; exact h.all k e hk hc
    · cases i with
      | zero => obtain rfl := Option.some.inj hi; rw [Nat.add_zero, eb, cells_agree ha _ hx]; exact hh
      | succ i => cases hi
  · rcases app_get hp with ⟨q, hk⟩ | ⟨i', rfl, hi⟩
    · rw [(h.ro i p hk).1] at hr; cases hr
    · cases i' with
      | zero => obtain rfl := Option.some.inj hi; cases hr
      | succ i => cases hi
  · rcases app_get he with ⟨q, hk⟩ | ⟨i, rfl, hi⟩
    · exact cwf_mono (by simp) _ (h.wf k e hk)
    · cases i with
      | zero => obtain rfl := Option.some.inj hi; exact cwf_mono (by simp) _ hx
      | succ i => cases hi
-- a function that reads alone, of a block whose pointers are told as the plain values that they are
theorem pureV {P : Program} {G : Mm} {f k off : Nat} {c cv : Cont} {r0 r1 : SV} {β : Nat → Nat} {M : Mm} {w : World} (hS : Spec P G f [.ptr G.length off] (G ++ [⟨false, cv⟩]) (fun r _ => r = r0)) (hR : Rel G β M w) (hk : ∃ r, M[k]? = some ⟨r, c⟩) (hh : c.here = true) (hcv : cv.wf 0 = true) (hc : c.cells β = cv.cells β) (hr : r0.wf 0 = true) (hr1 : val β r0 = val β r1) (hcs : cv.shp = none := by rfl) : CallR P f (vals β [.ptr k off]).toArray w (fun v w' => v = val β r1 ∧ Fp0 w w') := by
  obtain ⟨rw0, hk⟩ := hk
  have h0 := hR.sel (Lies.none hR)
  rw [List.append_nil] at h0
  have hold := hR.all k _ hk hh
  have h1 := h0.ro_more (b := β k) (x := cv) (cwf_mono (Nat.zero_le _) _ hcv) ⟨hold.lt, by rw [← hc]; exact hold.cell, (fun h => nomatch h), fun s hs => by rw [hcs] at hs; cases hs⟩
  have eb : upd1 β G.length (β k) G.length = β k := by unfold upd1; rw [if_pos rfl]
  have e : (vals (upd1 β G.length (β k)) [SV.ptr G.length off]).toArray = (vals β [SV.ptr k off]).toArray := by simp only [vals, val, eb]
  have := hS _ w h1 (by simp [SV.wf.wfs, SV.wf, Nat.blt_eq])
  rw [e] at this
  have conv : ∀ (v : Value) (w' : World), (∃ β' M' r, Ext (upd1 β G.length (β k)) (G ++ [⟨false, cv⟩]) w β' M' w' ∧ Rel G β' M' w' ∧ (r.wf M'.length = true ∧ v = val β' r) ∧ r = r0) → v = val β r1 ∧ Fp0 w w' := by
    rintro v w' ⟨β', M', r, hE, hR', ⟨hw, rfl⟩, rfl⟩
    refine ⟨by rw [← hr1]; exact val_agree (n := 0) (fun _ h => absurd h (by omega)) r hr, hE.fp.mono fun b _ hb => ?_⟩
    obtain ⟨j, e2, he, hrw, -⟩ := hb
    rcases app_get he with ⟨q, hk2⟩ | ⟨i, rfl, hi⟩
    · rw [(hR.ro j e2 hk2).1] at hrw; cases hrw
    · cases i with
      | zero => obtain rfl := Option.some.inj hi; cases hrw
      | succ i => cases hi
  rcases this with ⟨v, W', h2, h3⟩ | ⟨h2, h3⟩
  · exact .inl ⟨v, W', h2, conv _ _ h3⟩
  · exact .inr ⟨h2, h3.mono fun e W' ⟨v, he, hq⟩ => ⟨v, he, conv _ _ hq⟩⟩
theorem hrow_cells (β : Nat → Nat) (s : S8) (x : SV) (n : BitVec 64) : (Cont.row (hrow s x n)).cells β = (Cont.row (hrow s (.v (val β x)) n)).cells β := by
  simp [Cont.cells, hrow, vals, val]
/-- Whether there is a hash; how much is held, and what. -/
def cIs : List SV → List Cont → Option (Bool × SV)
  | [.v (.pointer none)], _ => some (true, .b false)
  | [.ptr k off], [c] => match hget c with
    | some _ => some (Nat.beq off 0, .b true)
    | none => none
  | _, _ => none
theorem is_ok : POk Tryd.prog G 36 cIs := by
  intro args acs r h β M w hR hw ha
  unfold cIs at h
  split at h
  · simp only [Option.some.injEq, Prod.mk.injEq, true_and] at h
    subst h
    exact pure0 (vf_ok e9_ok mixed (noL_ok _ _ _ _) (of_eq (vc21 _) rfl)) rfl rfl hR
  · rename_i k off c
    split at h
    · rename_i x hx
      simp only [Option.some.injEq, Prod.mk.injEq] at h
      obtain ⟨h1, rfl⟩ := h
      obtain rfl := Nat.eq_of_beq_eq_true h1
      obtain ⟨s, buf, n⟩ := x
      obtain rfl := hget_ok hx
      simp only [List.map_cons, List.map_nil, List.cons.injEq, and_true] at ha
      exact pureV (cv := .row (hrow s (.v (val β buf)) n)) (r0 := .b true) (vf_ok (M := Hv s (val β buf) n) e9_ok mixed (noL_ok _ _ _ _) (of_eq (vc21a s (val β buf) n _) rfl)) hR (tgt_ptr ha.symm rfl) rfl rfl (hrow_cells β s buf n) rfl rfl
    · cases h
  · cases h
def cLen : List SV → List Cont → Option (Bool × SV)
  | [.ptr k off], [c] => match hget c with
    | some (_, buf, _) => match bget buf with
      | some .no => some (Nat.beq off 9, .i 0)
      | some (.at' j len) => some (Nat.beq off 9 && Nat.ble len 64, .i (len : Nat))
      | none => none
    | none => none
  | _, _ => none
theorem len_ok : POk Tryd.prog G 37 cLen := by
  intro args acs r h β M w hR hw ha
  unfold cLen at h
  split at h
  · rename_i k off c
    split at h
    · rename_i s buf n hx
      obtain rfl := hget_ok hx
      simp only [List.map_cons, List.map_nil, List.cons.injEq, and_true] at ha
      split at h
      · rename_i hb
        obtain rfl := bget_ok hb
        simp only [Option.some.injEq, Prod.mk.injEq] at h
        obtain ⟨h1, rfl⟩ := h
        obtain rfl := Nat.eq_of_beq_eq_true h1
        exact pureV (cv := .row (hrow s (.v (.slice none 0 0)) n)) (r0 := .i 0) (vf_ok (M := Hv s (.slice none 0 0) n) e9_ok mixed (noL_ok _ _ _ _) (of_eq (vc24z s n _) rfl)) hR (tgt_ptr ha.symm rfl) rfl rfl (hrow_cells β s _ n) rfl rfl
      · rename_i j len hb
        obtain rfl := bget_ok hb
        simp only [Option.some.injEq, Prod.mk.injEq, Bool.and_eq_true] at h
        obtain ⟨⟨h1, h2⟩, rfl⟩ := h
        obtain rfl := Nat.eq_of_beq_eq_true h1
        have h2 := Nat.le_of_ble_eq_true h2
        refine pureV (cv := .row (hrow s (.v (.slice (some ⟨β j, 0, none⟩) len 64)) n)) (r0 := .i (len : Nat)) (vf_ok (M := Hv s (.slice (some ⟨β j, 0, none⟩) len 64) n) e9_ok mixed (noL_ok _ _ _ _) (of_eq (vc24 s ⟨β j, 0, none⟩ len n _) (bif_of (inI_iff.2 (by omega)) ?_))) hR (tgt_ptr ha.symm rfl) rfl rfl (hrow_cells β s _ n) rfl rfl
        exact congrArg SV.i (by omega)
      · cases h
    · cases h
  · cases h
def cBytes : List SV → List Cont → Option (Bool × SV)
  | [.ptr k off], [c] => match hget c with
    | some (_, buf, _) => match bget buf with
      | some .no => some (Nat.beq off 9, .v (.slice none 0 0))
      | some (.at' j len) => some (Nat.beq off 9 && Nat.ble len 64, .sl j 0 len 64)
      | none => none
    | none => none
  | _, _ => none
theorem bytes_ok : POk Tryd.prog G 40 cBytes := by
  intro args acs r h β M w hR hw ha
  unfold cBytes at h
  split at h
  · rename_i k off c
    split at h
    · rename_i s buf n hx
      obtain rfl := hget_ok hx
      simp only [List.map_cons, List.map_nil, List.cons.injEq, and_true] at ha
      split at h
      · rename_i hb
        obtain rfl := bget_ok hb
        simp only [Option.some.injEq, Prod.mk.injEq] at h
        obtain ⟨h1, rfl⟩ := h
        obtain rfl := Nat.eq_of_beq_eq_true h1
        exact pureV (cv := .row (hrow s (.v (.slice none 0 0)) n)) (r0 := .v (.slice none 0 0)) (vf_ok (M := Hv s (.slice none 0 0) n) e9_ok mixed (noL_ok _ _ _ _) (of_eq (vc23z s n _) rfl)) hR (tgt_ptr ha.symm rfl) rfl rfl (hrow_cells β s _ n) rfl rfl
      · rename_i j len hb
        obtain rfl := bget_ok hb
        simp only [Option.some.injEq, Prod.mk.injEq, Bool.and_eq_true] at h
        obtain ⟨⟨h1, h2⟩, rfl⟩ := h
        obtain rfl := Nat.eq_of_beq_eq_true h1
        have h2 := Nat.le_of_ble_eq_true h2
        refine pureV (cv := .row (hrow s (.v (.slice (some ⟨β j, 0, none⟩) len 64)) n)) (r0 := .v (.slice (some ⟨β j, 0, none⟩) len 64)) (vf_ok (M := Hv s (.slice (some ⟨β j, 0, none⟩) len 64) n) e9_ok mixed (noL_ok _ _ _ _) (of_eq (vc23 s ⟨β j, 0, none⟩ len n _) (bif_of ?_ rfl))) hR (tgt_ptr ha.symm rfl) rfl rfl (hrow_cells β s _ n) rfl rfl
        simp [ile_eq]; omega
      · cases h
    · cases h
  · cases h
def T10 : PT := ((T9.add 36 cIs).add 37 cLen).add 40 cBytes
def E10 : Env := ⟨G, T10, C8⟩
theorem e10_ok : EnvOk Tryd.prog E10 := ⟨PT.add_ok (PT.add_ok (PT.add_ok e9_ok.T is_ok) len_ok) bytes_ok, e9_ok.C⟩
theorem vc27 (s : S8) (len : Nat) (n : BitVec 64) (l : List (BitVec 8)) (K : SV → Mm → Prop) : (vf Tryd.prog E10 noL 41 [.ptr 2 9] (Hb s len n l) K) = (K (SV.tup []) [{ rw := false, c := Cont.a32 H0 }, { rw := false, c := Cont.a32 K64 }, { rw := true, c := Cont.row ((((hrow s (SV.sl 3 0 len 64) n).set 9 (SV.sl 3 0 0 64)).set 10 (SV.i 0)).set 11 (SV.v (Value.int IntKind.i8 0))) }, { rw := true, c := Cont.a8 l }]) := by kernel_rfl
theorem vc32n (s : S8) (n : BitVec 64) (m : Nat) (K : SV → Mm → Prop) : (vf Tryd.prog E10 noL 45 [.ptr 2 9, .i (m : Nat)] (Hn s n) K) = (bif ile (↑m : Int) ((↑0 : Int) - (↑0 : Int)) then bif inI ((↑0 : Int) + (↑m : Int)) then bif ile ((↑0 : Int) + (↑m : Int)) 0 then K (SV.tup [SV.i (↑0 : Int), SV.b true]) [{ rw := false, c := Cont.a32 H0 }, { rw := false, c := Cont.a32 K64 }, { rw := true, c := Cont.row ((hrow s (SV.v (Value.slice none 0 0)) n).set 9 (SV.v (Value.slice none 0 0))) }] else False else False else K (SV.tup [SV.i 0, SV.b false]) (Hn s n)) := by kernel_rfl
theorem vc32b (s : S8) (len : Nat) (n : BitVec 64) (l : List (BitVec 8)) (m : Nat) (K : SV → Mm → Prop) : (vf Tryd.prog E10 noL 45 [.ptr 2 9, .i (m : Nat)] (Hb s len n l) K) = (bif inI ((↑64 : Int) - (↑len : Int)) then bif ile (↑m : Int) ((↑64 : Int) - (↑len : Int)) then bif inI ((↑len : Int) + (↑m : Int)) then bif ile ((↑len : Int) + (↑m : Int)) (↑64 : Int) && true then K (SV.tup [SV.i (↑len : Int), SV.b true]) [{ rw := false, c := Cont.a32 H0 }, { rw := false, c := Cont.a32 K64 }, { rw := true, c := Cont.row ((hrow s (SV.sl 3 0 len 64) n).set 9 (SV.sl 3 0 ((↑len : Int) + (↑m : Int)).toNat 64)) }, { rw := true, c := Cont.a8 l }] else False else False else K (SV.tup [SV.i 0, SV.b false]) (Hb s len n l) else False) := by kernel_rfl
def cReset : List SV → Mm → (SV → Mm → Prop) → Prop
  | [.ptr k off], M, K => match M[k]? with
    | some ⟨true, c⟩ => match hget c with
      | some (s, buf, n) => match bget buf with
        | some (.at' j len) => match M[j]? with
          | some ⟨true, .a8 l⟩ => vsome (Nat.beq off 9 && !Nat.beq k j) (setK M k ⟨true, .row (hrow s (.sl j 0 0 64) n)⟩ fun M1 => K (.tup []) M1)
          | _ => False
        | _ => False
      | none => False
    | _ => False
  | _, _, _ => False
theorem beq_ne {a b : Nat} (h : (!Nat.beq a b) = true) : a ≠ b := fun e => by subst e; rw [Nat.beq_refl] at h; cases h
theorem set_same {M : Mm} {k : Nat} {e : Ent} (h : M[k]? = some e) : M.set k e = M := by
  apply List.ext_getElem?
  intro i
  by_cases hi : k = i
  · subst hi; rw [List.getElem?_set_self (lt_of_get h), h]
  · rw [List.getElem?_set_ne hi]
theorem reset_ok : COk Tryd.prog G 41 cReset := by
  intro args M K h
  unfold cReset at h
  split at h
  · rename_i k off
    split at h
    · rename_i c hk
      split at h
      · rename_i s buf n hx
        obtain rfl := hget_ok hx
        split at h
        · rename_i j len hb
          obtain rfl := bget_ok hb
          split at h
          · rename_i l hj
            obtain ⟨hb, hh⟩ := vsome_iff.1 h
            simp only [Bool.and_eq_true] at hb
            obtain rfl := Nat.eq_of_beq_eq_true hb.1
            have hne := beq_ne hb.2
            rw [setK_eq] at hh
            refine eff_of (R := [⟨true, .row (hrow s (.sl 3 0 len 64) n)⟩, ⟨true, .a8 l⟩]) (args0 := [.ptr 2 9]) (K0 := fun r M => r = .tup [] ∧ M = Hb s 0 n l) [k, j] (vf_ok (M := Hb s len n l) e10_ok mixed (noL_ok _ _ _ _) (of_eq (vc27 s len n l _) ⟨rfl, rfl⟩)) rfl rfl (by simp [hne]) ⟨⟨true, hk, fun h => h⟩, ⟨rfl, rfl⟩, ⟨true, hj, fun h => h⟩, ⟨rfl, rfl⟩, trivial⟩ ?_
            rintro r1 M1 ⟨rfl, rfl⟩
            rw [show back G _ M _ _ = (M.set k ⟨true, .row (hrow s (.sl j 0 0 64) n)⟩).set j ⟨true, .a8 l⟩ ++ [] from rfl, List.append_nil, set_same (by rw [List.getElem?_set_ne hne]; exact hj)]
            exact hh
          · exact h.elim
        · exact h.elim
      · exact h.elim
    · exact h.elim
  · exact h.elim
/-- More room is taken, if there is. -/
def cTry : List SV → Mm → (SV → Mm → Prop) → Prop
  | [.ptr k off, .i z], M, K => match M[k]? with
    | some ⟨true, c⟩ => match hget c with
      | some (s, buf, n) => vsome (Nat.beq off 9 && ile 0 z) <| match bget buf with
        | some b => match b with
          | .no => bif ile z 0 then K (.tup [.i 0, .b true]) M else K (.tup [.i 0, .b false]) M
          | .at' j len => match M[j]? with
            | some ⟨true, .a8 l⟩ => vsome (!Nat.beq k j && Nat.ble (len + z.toNat) 64) (setK M k ⟨true, .row (hrow s (.sl j 0 (len + z.toNat) 64) n)⟩ fun M1 => K (.tup [.i (len : Nat), .b true]) M1)
            | _ => False
        | none => False
      | none => False
    | _ => False
  | _, _, _ => False
theorem try_ok : COk Tryd.prog G 45 cTry := by
  intro args M K h
  unfold cTry at h
  split at h
  · rename_i k off z
    split at h
    · rename_i c hk
      split at h
      · rename_i s buf n hx
        obtain rfl := hget_ok hx
        obtain ⟨hb0, h⟩ := vsome_iff.1 h
        simp only [Bool.and_eq_true, ile_eq, decide_eq_true_eq] at hb0
        obtain ⟨ho, hz⟩ := hb0
        obtain rfl := Nat.eq_of_beq_eq_true ho
        obtain ⟨m, rfl⟩ := Int.eq_ofNat_of_zero_le hz
        split at h
        · rename_i b hb
          obtain rfl := bget_ok hb
          cases b with
          | no =>
            have hk' : M[k]? = some ⟨true, .row (hrow s (.v (.slice none 0 0)) n)⟩ := hk
            refine eff_of (R := [⟨true, .row (hrow s (.v (.slice none 0 0)) n)⟩]) (args0 := [.ptr 2 9, .i (m : Nat)]) (K0 := fun r M => r = (bif ile (m : Int) 0 then .tup [.i 0, .b true] else .tup [.i 0, .b false]) ∧ M = Hn s n) [k] (vf_ok (M := Hn s n) e10_ok mixed (noL_ok _ _ _ _) (of_eq (vc32n s n m _) ?_)) rfl rfl (by simp) ⟨⟨true, hk', fun h => h⟩, ⟨rfl, rfl⟩, trivial⟩ ?_
            · change bif ile (m : Int) 0 then _ else _
              cases hc : ile (m : Int) 0
              · exact ⟨rfl, rfl⟩
              · have hm : m = 0 := by rw [ile_eq] at hc; have := of_decide_eq_true hc; omega
                subst hm
                exact ⟨rfl, rfl⟩
            · rintro r1 M1 ⟨rfl, rfl⟩
              rw [show back G _ M _ _ = M.set k ⟨true, .row (hrow s (.v (.slice none 0 0)) n)⟩ ++ [] from rfl, List.append_nil, set_same hk']
              cases hc : ile (m : Int) 0 <;> rw [hc] at h <;> exact h
          | at' j len =>
            replace h : (match M[j]? with
              | some ⟨true, .a8 l⟩ => vsome (!Nat.beq k j && Nat.ble (len + (m : Int).toNat) 64) (setK M k ⟨true, .row (hrow s (.sl j 0 (len + (m : Int).toNat) 64) n)⟩ fun M1 => K (.tup [.i (len : Nat), .b true]) M1)
              | _ => False) := h
            split at h
            · rename_i l hj
              obtain ⟨hb, hh⟩ := vsome_iff.1 h
              simp only [Bool.and_eq_true] at hb
              have hne := beq_ne hb.1
              have hle := Nat.le_of_ble_eq_true hb.2
              have em : ((m : Int)).toNat = m := rfl
              rw [em] at hle hh
              rw [setK_eq] at hh
              refine eff_of (R := [⟨true, .row (hrow s (.sl 3 0 len 64) n)⟩, ⟨true, .a8 l⟩]) (args0 := [.ptr 2 9, .i (m : Nat)]) (K0 := fun r M => r = .tup [.i (len : Nat), .b true] ∧ M = Hb s (len + m) n l) [k, j] (vf_ok (M := Hb s len n l) e10_ok mixed (noL_ok _ _ _ _) (of_eq (vc32b s len n l m _) ?_)) rfl rfl (by simp [hne]) ⟨⟨true, hk, fun h => h⟩, ⟨rfl, rfl⟩, ⟨true, hj, fun h => h⟩, ⟨rfl, rfl⟩, trivial⟩ ?_
              · have hc : ile (m : Int) (((64 : Nat) : Int) - (len : Int)) = true := by rw [ile_eq]; exact decide_eq_true (by omega)
                refine bif_of (inI_iff.2 (by omega)) ?_
                change bif ile (m : Int) (((64 : Nat) : Int) - (len : Int)) then _ else _
                rw [hc]
                refine bif_of (inI_iff.2 (by omega)) (bif_of ?_ ⟨rfl, ?_⟩)
                · simp [ile_eq]; omega
                · have : ((len : Int) + (m : Int)).toNat = len + m := by omega
                  rw [this]; rfl
              · rintro r1 M1 ⟨rfl, rfl⟩
                rw [show back G _ M _ _ = (M.set k ⟨true, .row (hrow s (.sl j 0 (len + m) 64) n)⟩).set j ⟨true, .a8 l⟩ ++ [] from rfl, List.append_nil, set_same (by rw [List.getElem?_set_ne hne]; exact hj)]
                exact hh
            · exact h.elim
        · exact h.elim
      · exact h.elim
    · exact h.elim
  · exact h.elim
def C11 : CT := (C8.add 41 cReset).add 45 cTry
def E11 : Env := ⟨G, T10, C11⟩
theorem e11_ok : EnvOk Tryd.prog E11 := ⟨e10_ok.T, CT.add_ok (CT.add_ok e10_ok.C reset_ok) try_ok⟩
end Go.Proofs.YtmalnjdacmlcdaaDoor
