/-
  ip: a piece that is added to a set. No statement is proved here.
-/
import Derived.Test.YtggoncamiafclabIpI
namespace Go.Proofs.Ytggoncamiafclab
open Go.RowKit
set_option linter.unusedVariables false
set_option linter.unusedSimpArgs false
set_option maxRecDepth 100000

def EA : Env := { G := G, T := ((T0.add 29 cCt).add 16 cCl).add 33 cFit, C := noC.add 31 cSort }
theorem ea_ok : EnvOk Try.prog EA := { T := PT.add_ok (PT.add_ok (PT.add_ok t0_ok ct_ok) clone_ok) fits_ok, C := CT.add_ok (noC_ok _ _) sort_ok }
def Mz (u : BitVec 64) : Mm := [⟨true, .row [.w64 u, .v (.slice none 0 0)]⟩]
def Mr (u : BitVec 64) (l : List Pc) (len cap : Nat) : Mm := [⟨true, .row [.w64 u, .rs 1 0 0 4 len cap]⟩, rowE true l]
def cE (a : Int) (m : Tx) (b : Bool) (t : BitVec 8) : List Pc := [(a, m, b, t, ())]
def MR (u : BitVec 64) (n cap : Nat) (a : Int) (m : Tx) (b : Bool) (t : BitVec 8) (L : List Pc) : Mm := [⟨true, .row [.w64 u, .rs 4 0 0 4 n cap]⟩, ⟨true, .gone⟩, ⟨true, .row [.i a, .s m, .b b, .w8 t]⟩, rowE true (cE a m b t), rowE true L]
def i51 (eo nl cap k : Nat) : List (Nat × SV) := [(0, .ptr 0 0), (37, .rs 4 0 eo 4 nl (cap - 1)), (38, .i (nl : Nat)), (39, .i (k : Nat))]
theorem r51 (u : BitVec 64) (l : List Pc) (len cap0 n cap eo nl k : Nat) (a : Int) (m : Tx) (b : Bool) (t : BitVec 8) (L : List Pc) (p q z : Prop) : (frK 55 (i51 eo nl cap k) fun fr => vround Try.prog EA noL 21 0 fr (MR u n cap a m b t L) (Kt (Mr u l len cap0) 0 55 p (i51 eo nl cap (k + 1)) (MR u n cap a m b t L) q [] (MR u n cap a m b t L) z [(4, .i 181)] (MR u n cap a m b t L))) = (bif ilt (↑k : Int) (↑nl : Int) then bif inR (↑k : Int) nl then bif rok 0 (k + eo) 4 fsP [] L.length && true then bif inR (↑k : Int) n then bif rok 0 k 4 fsP [] L.length && true then bif inI ((L.getD k (rz fsP)).fst + (↑(List.length (L.getD k (rz fsP)).snd.fst) : Int)) then bif !fitP (L.getD k (rz fsP)).fst (L.getD k (rz fsP)).snd.fst (L.getD k (rz fsP)).snd.snd.fst (L.getD (k + eo) (rz fsP)).fst then z ∧ SV.i 181 = SV.i 181 ∧ (true = true ∧ Cont.row [SV.w64 u, SV.rs 4 0 0 4 n cap] = Cont.row [SV.w64 u, SV.rs 4 0 0 4 n cap]) ∧ (true = true ∧ Cont.gone = Cont.gone) ∧ (true = true ∧ Cont.row [SV.i a, SV.s m, SV.b b, SV.w8 t] = Cont.row [SV.i a, SV.s m, SV.b b, SV.w8 t]) ∧ (true = true ∧ Cont.recs (some 60) fsP [] (cE a m b t) = Cont.recs (some 60) fsP [] (cE a m b t)) ∧ (true = true ∧ Cont.recs (some 60) fsP [] L = Cont.recs (some 60) fsP [] L) ∧ True else bif inI ((↑k : Int) + 1) then p ∧ SV.ptr 0 0 = SV.ptr 0 0 ∧ SV.rs 4 0 eo 4 nl (cap - 1) = SV.rs 4 0 eo 4 nl (cap - 1) ∧ SV.i (↑nl : Int) = SV.i (↑nl : Int) ∧ SV.i ((↑k : Int) + 1) = SV.i (↑(k + 1) : Int) ∧ (true = true ∧ Cont.row [SV.w64 u, SV.rs 4 0 0 4 n cap] = Cont.row [SV.w64 u, SV.rs 4 0 0 4 n cap]) ∧ (true = true ∧ Cont.gone = Cont.gone) ∧ (true = true ∧ Cont.row [SV.i a, SV.s m, SV.b b, SV.w8 t] = Cont.row [SV.i a, SV.s m, SV.b b, SV.w8 t]) ∧ (true = true ∧ Cont.recs (some 60) fsP [] (cE a m b t) = Cont.recs (some 60) fsP [] (cE a m b t)) ∧ (true = true ∧ Cont.recs (some 60) fsP [] L = Cont.recs (some 60) fsP [] L) ∧ True else False else False else False else False else False else False else 0 = 0 ∧ q ∧ (true = true ∧ Cont.row [SV.w64 u, SV.rs 4 0 0 4 n cap] = Cont.row [SV.w64 u, SV.rs 4 0 0 4 n cap]) ∧ (true = true ∧ Cont.gone = Cont.gone) ∧ (true = true ∧ Cont.row [SV.i a, SV.s m, SV.b b, SV.w8 t] = Cont.row [SV.i a, SV.s m, SV.b b, SV.w8 t]) ∧ (true = true ∧ Cont.recs (some 60) fsP [] (cE a m b t) = Cont.recs (some 60) fsP [] (cE a m b t)) ∧ (true = true ∧ Cont.recs (some 60) fsP [] L = Cont.recs (some 60) fsP [] L) ∧ True) := by kernel_rfl
/-- A piece that can be right. -/
def okq (a : Int) (m : Tx) : Prop := 0 ≤ a ∧ a + (m.length : Nat) ≤ 8192 ∧ 0 < m.length
def okQ (c : Pc) : Prop := okq c.1 c.2.1
def okR (L : List Pc) : Prop := ∀ x ∈ L, okQ x
def fit2 (x y : Pc) : Bool := fitP x.1 x.2.1 x.2.2.1 y.1
def Fits (L : List Pc) : Prop := ∀ k, k + 1 < L.length → fit2 (L.getD k (rz fsP)) (L.getD (k + 1) (rz fsP)) = true
structure PreL (eo nl n : Nat) (L : List Pc) : Prop where
  le : n ≤ L.length
  nl : nl + 1 = n
  eo : 1 < n → eo = 1
  big : n ≤ 4294967296
  ok : okR (L.take n)
def L51 (u : BitVec 64) (l : List Pc) (len cap0 : Nat) (a : Int) (m : Tx) (b : Bool) (t : BitVec 8) : LT := noL.add 0 fun (fr : List SV) (M : Mm) (K : Ko) => match (fr[36]? : Option SV), (fr[37]? : Option SV), (M[4]? : Option Ent) with
  | some (.rs _ _ _ _ n cap), some (.rs _ _ eo _ nl _), some ⟨_, .recs _ [.i, .s, .b, .u8] _ L⟩ => PreL eo nl n L ∧ vLoopR (Mr u l len cap0) 55 (i51 eo nl cap 0) (MR u n cap a m b t L) (Fits (L.take n)) [] (MR u n cap a m b t L) (¬ Fits (L.take n)) [(4, .i 181)] (MR u n cap a m b t L) fr M K
  | _, _, _ => False
theorem l51_ok (u : BitVec 64) (l : List Pc) (len cap0 : Nat) (a : Int) (m : Tx) (b : Bool) (t : BitVec 8) : LOk Try.prog G (Mr u l len cap0) 21 (L51 u l len cap0 a m b t) := by
  refine LT.add_ok (noL_ok _ _ _ _) fun fr M K h => ?_
  split at h
  · rename_i n cap x5 x6 eo x8 nl x9 x10 x11 x12 L e1 e2 e3
    obtain ⟨hP, h⟩ := h
    obtain ⟨h1, h2, h3, h4, h5⟩ := hP
    refine loop_ret ea_ok mixed (noL_ok _ _ _ _) (by show 0 ≤ 2; decide) (by kernel_rfl) (fun k => i51 eo nl cap k) (fun _ => MR u n cap a m b t L) (fun k => k ≤ nl ∧ ∀ j, j < k → fit2 ((L.take n).getD j (rz fsP)) ((L.take n).getD (j + 1) (rz fsP)) = true) (fun k => nl - k) (fun k => k + 1) 0 ⟨Nat.zero_le _, fun j hj => absurd hj (by omega)⟩ (fun k hp => of_eq (r51 u l len cap0 n cap eo nl k a m b t L _ _ _) ?_) fr M K h
    obtain ⟨hk, hp⟩ := hp
    have hlen : (L.take n).length = n := by rw [List.length_take]; omega
    cases hc : ilt (k : Int) (nl : Int)
    · have := of_nilt hc
      refine ⟨rfl, fun j hj => hp j (by rw [hlen] at hj; omega), ⟨rfl, rfl⟩, ⟨rfl, rfl⟩, ⟨rfl, rfl⟩, ⟨rfl, rfl⟩, ⟨rfl, rfl⟩, trivial⟩
    · have hlt := of_ilt hc
      obtain rfl := h3 (by omega)
      have hx : okQ (L.getD k (rz fsP)) := by
        refine h5 _ ?_
        rw [← getD_take _ _ n _ (by omega), List.getD_eq_getElem?_getD, List.getElem?_eq_getElem (by omega)]
        exact List.getElem_mem _
      obtain ⟨o1, o2, o3⟩ := hx
      refine bif_of (inRn hlt (by omega)) (bif_of (rok0 (by omega)) (bif_of (inRn (by omega) (by omega)) (bif_of (rok0 (by omega)) (bif_of (inI_iff.2 (by omega)) ?_))))
      have ef : fitP (L.getD k (rz fsP)).1 (L.getD k (rz fsP)).2.1 (L.getD k (rz fsP)).2.2.1 (L.getD (k + 1) (rz fsP)).1 = fit2 ((L.take n).getD k (rz fsP)) ((L.take n).getD (k + 1) (rz fsP)) := by
        rw [getD_take _ _ _ _ (by omega), getD_take _ _ _ _ (by omega)]; rfl
      cases hd : fit2 ((L.take n).getD k (rz fsP)) ((L.take n).getD (k + 1) (rz fsP))
      · rw [ef, hd]
        refine ⟨fun hF => ?_, rfl, ⟨rfl, rfl⟩, ⟨rfl, rfl⟩, ⟨rfl, rfl⟩, ⟨rfl, rfl⟩, ⟨rfl, rfl⟩, trivial⟩
        have := hF k (by rw [hlen]; omega)
        rw [hd] at this
        cases this
      · rw [ef, hd]
        refine bif_of (inI_iff.2 (by omega)) ⟨⟨⟨by omega, fun j hj => ?_⟩, by omega⟩, rfl, rfl, rfl, rfl, ⟨rfl, rfl⟩, ⟨rfl, rfl⟩, ⟨rfl, rfl⟩, ⟨rfl, rfl⟩, ⟨rfl, rfl⟩, trivial⟩
        rcases Nat.lt_or_eq_of_le (Nat.le_of_lt_succ hj) with q | rfl
        · exact hp j q
        · exact hd
  · exact h.elim
def L51z (P : Program) : LT := noL.add 0 (vUn P EA noL 21 0 1)
theorem v51z (u : BitVec 64) (a : Int) (m : Tx) (b : Bool) (t : BitVec 8) (K : SV → Mm → Prop) : (vf Try.prog EA (L51z Try.prog) 21 [.ptr 0 0, pcs a m b t] (Mz u) K) = (bif (List.length m).ble 4294967296 then ((∀ (cap' : Nat) (rest : List (Rc [Fk.i, Fk.s, Fk.b, Fk.u8])), (List.take 1 (List.drop 0 [(a, m, b, t, ())])).length + rest.length = cap' → (∀ (l' : List Pc), l'.Perm (List.take (List.take 1 (List.drop 0 [(a, m, b, t, ())])).length (List.take 1 (List.drop 0 [(a, m, b, t, ())]) ++ rest)) → upP l' → bif ile (↑(List.take 1 (List.drop 0 [(a, m, b, t, ())])).length : Int) (↑cap' : Int) then loopOf Try.prog 21 0 = loopOf Try.prog 21 0 ∧ K (SV.i 0) [{ rw := true, c := Cont.row ([SV.w64 u, SV.v (Value.slice none 0 0)].set 1 (SV.rs (0 + 1 + 1 + 1) 0 0 4 (List.take 1 (List.drop 0 [(a, m, b, t, ())])).length cap')) }, { rw := true, c := Cont.row ([SV.i a, SV.s m, SV.b b, SV.w8 t].set 1 (SV.s m)) }, { rw := true, c := Cont.recs (some 60) [Fk.i, Fk.s, Fk.b, Fk.u8] [] [(a, m, b, t, ())] }, { rw := true, c := Cont.recs (some 60) fsP [] (l' ++ List.drop (List.take 1 (List.drop 0 [(a, m, b, t, ())])).length (List.take 1 (List.drop 0 [(a, m, b, t, ())]) ++ rest)) }] else False) ∧ True) ∧ True) ∧ True else False) := by kernel_rfl
theorem v51 (u : BitVec 64) (l : List Pc) (len cap : Nat) (a : Int) (m : Tx) (b : Bool) (t : BitVec 8) (K : SV → Mm → Prop) : (vf Try.prog EA (L51 u l len cap a m b t) 21 [.ptr 0 0, pcs a m b t] (Mr u l len cap) K) = (bif len.ble l.length && (len.ble 4294967296 && true) then bif (List.take len l).any (pcq a m b) then K (SV.i 0) [{ rw := true, c := Cont.row [SV.w64 u, SV.rs 1 0 0 4 len cap] }, { rw := true, c := Cont.recs (some 60) fsP [] l }, { rw := true, c := Cont.row [SV.i a, SV.s m, SV.b b, SV.w8 t] }] else bif (List.length m).ble 4294967296 then ((bif len.ble cap && (l.length.beq cap && ((len + (List.take 1 (List.drop 0 [(a, m, b, t, ())])).length).ble 33554432 && true)) then ∀ (cap' : Nat) (rest : List (Rc [Fk.i, Fk.s, Fk.b, Fk.u8])), len + (List.take 1 (List.drop 0 [(a, m, b, t, ())])).length + rest.length = cap' → (bif (len + (List.take 1 (List.drop 0 [(a, m, b, t, ())])).length).ble (List.take len l ++ List.take 1 (List.drop 0 [(a, m, b, t, ())]) ++ rest).length && ((len + (List.take 1 (List.drop 0 [(a, m, b, t, ())])).length).ble 4294967296 && true) then ∀ (l' : List Pc), l'.Perm (List.take (len + (List.take 1 (List.drop 0 [(a, m, b, t, ())])).length) (List.take len l ++ List.take 1 (List.drop 0 [(a, m, b, t, ())]) ++ rest)) → upP l' → bif ile (↑(len + (List.take 1 (List.drop 0 [(a, m, b, t, ())])).length) : Int) (↑cap' : Int) then loopOf Try.prog 21 0 = loopOf Try.prog 21 0 ∧ PreL (bif ilt 1 (↑cap' : Int) then 1 else 0) (len + (List.take 1 (List.drop 0 [(a, m, b, t, ())])).length - 1) (len + (List.take 1 (List.drop 0 [(a, m, b, t, ())])).length) (l' ++ List.drop (len + (List.take 1 (List.drop 0 [(a, m, b, t, ())])).length) (List.take len l ++ List.take 1 (List.drop 0 [(a, m, b, t, ())]) ++ rest)) ∧ SV.ptr 0 0 = SV.ptr 0 0 ∧ SV.rs (0 + 1 + 1 + 1 + 1) 0 (bif ilt 1 (↑cap' : Int) then 1 else 0) 4 (len + (List.take 1 (List.drop 0 [(a, m, b, t, ())])).length - 1) (cap' - 1) = SV.rs 4 0 (bif ilt 1 (↑cap' : Int) then 1 else 0) 4 (len + (List.take 1 (List.drop 0 [(a, m, b, t, ())])).length - 1) (cap' - 1) ∧ SV.i (↑(len + (List.take 1 (List.drop 0 [(a, m, b, t, ())])).length - 1) : Int) = SV.i (↑(len + (List.take 1 (List.drop 0 [(a, m, b, t, ())])).length - 1) : Int) ∧ SV.i 0 = SV.i (↑0 : Int) ∧ (true = true ∧ Cont.row ([SV.w64 u, SV.rs 1 0 0 4 len cap].set 1 (SV.rs (0 + 1 + 1 + 1 + 1) 0 0 4 (len + (List.take 1 (List.drop 0 [(a, m, b, t, ())])).length) cap')) = Cont.row [SV.w64 u, SV.rs 4 0 0 4 (len + (List.take 1 (List.drop 0 [(a, m, b, t, ())])).length) cap']) ∧ (true = true ∧ Cont.gone = Cont.gone) ∧ (true = true ∧ Cont.row ([SV.i a, SV.s m, SV.b b, SV.w8 t].set 1 (SV.s m)) = Cont.row [SV.i a, SV.s m, SV.b b, SV.w8 t]) ∧ (true = true ∧ Cont.recs (some 60) [Fk.i, Fk.s, Fk.b, Fk.u8] [] [(a, m, b, t, ())] = Cont.recs (some 60) fsP [] (cE a m b t)) ∧ (true = true ∧ Cont.recs (some 60) fsP [] (l' ++ List.drop (len + (List.take 1 (List.drop 0 [(a, m, b, t, ())])).length) (List.take len l ++ List.take 1 (List.drop 0 [(a, m, b, t, ())]) ++ rest)) = Cont.recs (some 60) fsP [] (l' ++ List.drop (len + (List.take 1 (List.drop 0 [(a, m, b, t, ())])).length) (List.take len l ++ List.take 1 (List.drop 0 [(a, m, b, t, ())]) ++ rest))) ∧ (Fits (List.take (len + (List.take 1 (List.drop 0 [(a, m, b, t, ())])).length) (l' ++ List.drop (len + (List.take 1 (List.drop 0 [(a, m, b, t, ())])).length) (List.take len l ++ List.take 1 (List.drop 0 [(a, m, b, t, ())]) ++ rest))) → K (SV.i 0) (MR u (len + (List.take 1 (List.drop 0 [(a, m, b, t, ())])).length) cap' a m b t (l' ++ List.drop (len + (List.take 1 (List.drop 0 [(a, m, b, t, ())])).length) (List.take len l ++ List.take 1 (List.drop 0 [(a, m, b, t, ())]) ++ rest)))) ∧ (¬Fits (List.take (len + (List.take 1 (List.drop 0 [(a, m, b, t, ())])).length) (l' ++ List.drop (len + (List.take 1 (List.drop 0 [(a, m, b, t, ())])).length) (List.take len l ++ List.take 1 (List.drop 0 [(a, m, b, t, ())]) ++ rest))) → K (SV.i 181) (MR u (len + (List.take 1 (List.drop 0 [(a, m, b, t, ())])).length) cap' a m b t (l' ++ List.drop (len + (List.take 1 (List.drop 0 [(a, m, b, t, ())])).length) (List.take len l ++ List.take 1 (List.drop 0 [(a, m, b, t, ())]) ++ rest)))) else False else False) ∧ True else False) ∧ True) ∧ True else False else False) := by kernel_rfl
/-- What `add` makes of a row that has not that piece. -/
def AddTo (l : List Pc) (len : Nat) (c : Pc) (n : Nat) (L : List Pc) : Prop := n = len + 1 ∧ n ≤ L.length ∧ (L.take n).Perm (l.take len ++ [c]) ∧ upP (L.take n)
def errOf (L : List Pc) (r : SV) : Prop := (Fits L ∧ r = .i 0) ∨ (¬ Fits L ∧ r = .i 181)
theorem add_cut {l l' rest : List Pc} {len : Nat} {c : Pc} (hl : len ≤ l.length) (hp : l'.Perm (List.take (len + 1) (List.take len l ++ [c] ++ rest))) : l'.Perm (l.take len ++ [c]) ∧ l'.length = len + 1 ∧ List.drop (len + 1) (List.take len l ++ [c] ++ rest) = rest := by
  have h1 : (List.take len l ++ [c]).length = len + 1 := by rw [List.length_append, List.length_take]; show min len l.length + 1 = _; omega
  rw [List.take_append_of_le_length (by rw [h1]; exact Nat.le_refl _), List.take_of_length_le (by rw [h1]; exact Nat.le_refl _)] at hp
  refine ⟨hp, by rw [hp.length_eq, h1], ?_⟩
  rw [← h1, List.drop_left]
theorem okR_perm {l L : List Pc} (h : L.Perm l) (ok : okR l) : okR L := fun x hx => ok x (h.mem_iff.1 hx)
theorem s51 (u : BitVec 64) (l : List Pc) (len cap : Nat) (a : Int) (m : Tx) (b : Bool) (t : BitVec 8) (hl : len ≤ cap) (hc : l.length = cap) (hb : len + 1 ≤ 33554432) (hr : okR (l.take len)) (hq : okQ (a, m, b, t, ())) : Spec Try.prog G 21 [.ptr 0 0, pcs a m b t] (Mr u l len cap) (fun r M =>
    (((l.take len).any (pcq a m b) = true ∧ r = .i 0 ∧ M = Mr u l len cap ++ [⟨true, .row [.i a, .s m, .b b, .w8 t]⟩]) ∨
     ((l.take len).any (pcq a m b) = false ∧ ∃ n cap' L, L.length = cap' ∧ AddTo l len (a, m, b, t, ()) n L ∧ errOf (L.take n) r ∧ M = MR u n cap' a m b t L))) := by
  refine vf_ok ea_ok mixed (l51_ok u l len cap a m b t) (of_eq (v51 u l len cap a m b t _) ?_)
  have hq : okq a m := hq
  obtain ⟨q1, q2, q3⟩ := hq
  refine bif_of (and_t (Nat.ble_eq_true_of_le (by omega)) (and_t (Nat.ble_eq_true_of_le (by omega)) rfl)) ?_
  cases ha : (l.take len).any (pcq a m b)
  · refine bif_of (Nat.ble_eq_true_of_le (by omega)) ⟨⟨bif_of (and_t (Nat.ble_eq_true_of_le hl) (and_t (by rw [hc]; exact Nat.beq_refl _) (and_t (Nat.ble_eq_true_of_le hb) rfl))) (fun cap' rest hcr => ⟨bif_of (and_t (Nat.ble_eq_true_of_le ?_) (and_t (Nat.ble_eq_true_of_le (by show len + 1 ≤ _; omega)) rfl)) (fun l' hp hu => ?_), trivial⟩), trivial⟩, trivial⟩
    · show len + 1 ≤ (List.take len l ++ [(a, m, b, t, ())] ++ rest).length
      rw [List.length_append, List.length_append, List.length_take]
      show len + 1 ≤ min len l.length + 1 + _
      omega
    · have hcr : len + 1 + rest.length = cap' := hcr
      obtain ⟨g1, g2, g3⟩ := add_cut (by omega) hp
      refine bif_of (ile_of (by show ((len + 1 : Nat) : Int) ≤ _; omega)) ⟨rfl, ?_⟩
      have e1 : (l' ++ List.drop (len + (List.take 1 (List.drop 0 [(a, m, b, t, ())])).length) (List.take len l ++ List.take 1 (List.drop 0 [(a, m, b, t, ())]) ++ rest)) = l' ++ rest := congrArg (l' ++ ·) g3
      have e2 : (len + (List.take 1 (List.drop 0 [(a, m, b, t, ())])).length) = len + 1 := rfl
      rw [e1, e2]
      have e3 : (l' ++ rest).take (len + 1) = l' := by rw [← g2, List.take_left]
      have hA : AddTo l len (a, m, b, t, ()) (len + 1) (l' ++ rest) := ⟨rfl, by rw [List.length_append]; omega, by rw [e3]; exact g1, by rw [e3]; exact hu⟩
      have hL : (l' ++ rest).length = cap' := by rw [List.length_append]; omega
      refine ⟨⟨by omega, by omega, fun h => ?_, by omega, by rw [e3]; exact okR_perm g1 (fun x hx => (List.mem_append.1 hx).elim (hr x) (fun q => by obtain rfl := List.mem_singleton.1 q; exact ⟨q1, q2, q3⟩))⟩, rfl, rfl, rfl, rfl, ⟨rfl, rfl⟩, ⟨rfl, rfl⟩, ⟨rfl, rfl⟩, ⟨rfl, rfl⟩, ⟨rfl, rfl⟩, fun hF => .inr ⟨rfl, _, _, _, hL, hA, .inl ⟨hF, rfl⟩, rfl⟩, fun hF => .inr ⟨rfl, _, _, _, hL, hA, .inr ⟨hF, rfl⟩, rfl⟩⟩
      rw [show ilt 1 (cap' : Int) = true by rw [ilt_eq]; exact decide_eq_true (by omega)]; rfl
  · exact .inl ⟨rfl, rfl, rfl⟩
theorem fits1 (L : List Pc) (h : L.length ≤ 1) : Fits L := fun k hk => by omega
theorem s51z (u : BitVec 64) (a : Int) (m : Tx) (b : Bool) (t : BitVec 8) (hq : okQ (a, m, b, t, ())) : Spec Try.prog G 21 [.ptr 0 0, pcs a m b t] (Mz u) (fun r M => r = .i 0 ∧ ∃ cap' L, L.length = cap' ∧ AddTo [] 0 (a, m, b, t, ()) 1 L ∧ M = [⟨true, .row [.w64 u, .rs 3 0 0 4 1 cap']⟩, ⟨true, .row [.i a, .s m, .b b, .w8 t]⟩, rowE true (cE a m b t), rowE true L]) := by
  refine vf_ok ea_ok mixed (LT.un_ok ea_ok mixed (noL_ok _ _ _ _) (noL_ok _ _ _ _) (by kernel_rfl) 1) (of_eq (v51z u a m b t _) ?_)
  have hq : okq a m := hq
  obtain ⟨q1, q2, q3⟩ := hq
  refine bif_of (Nat.ble_eq_true_of_le (by omega)) ⟨⟨fun cap' rest hcr => ⟨fun l' hp hu => ?_, trivial⟩, trivial⟩, trivial⟩
  have hcr : 1 + rest.length = cap' := hcr
  obtain ⟨g1, g2, g3⟩ := add_cut (l := []) (len := 0) (by exact Nat.le_refl _) hp
  refine bif_of (ile_of (by show ((1 : Nat) : Int) ≤ _; omega)) ⟨rfl, rfl, cap', l' ++ rest, by rw [List.length_append]; omega, ?_, ?_⟩
  · have e3 : (l' ++ rest).take 1 = l' := by rw [show 1 = l'.length from g2.symm, List.take_left]
    exact ⟨rfl, by rw [List.length_append]; omega, by rw [e3]; exact g1, by rw [e3]; exact hu⟩
  · have g4 : List.drop (List.take 1 (List.drop 0 [(a, m, b, t, ())])).length (List.take 1 (List.drop 0 [(a, m, b, t, ())]) ++ rest) = rest := g3
    rw [g4]
    rfl
end Go.Proofs.Ytggoncamiafclab
