/-
  ip: numbers as bytes, bytes as numbers, texts that are copied. No statement is proved here.
-/
import Derived.Test.YtggoncamiafclabVcV
import Derived.Test.YtggoncamiafclabChecked
namespace Go.Proofs.Ytggoncamiafclab
open Go.RowKit
set_option linter.unusedVariables false
set_option linter.unusedSimpArgs false
set_option maxRecDepth 100000

abbrev Tx := List (BitVec 8)
def G : Mm := []
theorem mixed : Try.prog.follows .mixedOrders = true := by kernel_rfl
def flagN : Nat := 1000001
def cFlag : List SV → List Cont → Option (Bool × SV) := fun _ _ => some (false, .any)
theorem flag_ok (n : Nat) : POk Try.prog G n cFlag := by
  intro args acs r h
  simp [cFlag] at h
def T0 : PT := noT.add flagN cFlag
theorem t0_ok : PTok Try.prog G T0 := PT.add_ok (noT_ok _ _) (flag_ok _)
def E0 : Env := { G := G, T := T0, C := noC }
theorem e0_ok : EnvOk Try.prog E0 := { T := t0_ok, C := noC_ok _ _ }
theorem ble_of {a b : Nat} (h : a ≤ b) : Nat.ble a b = true := Nat.ble_eq_true_of_le h
theorem and_t {a b : Bool} (ha : a = true) (hb : b = true) : (a && b) = true := by rw [ha, hb]; rfl
theorem ile_of {a b : Int} (h : a ≤ b) : ile a b = true := by rw [ile_eq]; exact decide_eq_true h
theorem ilt_of {a b : Int} (h : a < b) : ilt a b = true := by rw [ilt_eq]; exact decide_eq_true h
theorem ile_no {a b : Int} (h : ¬ a ≤ b) : ile a b = false := by rw [ile_eq]; exact decide_eq_false h
/-- What a function answers that is handed values alone, from its reckoning. -/
theorem pokE {E : Env} (hG : E.G = G) (hE : EnvOk Try.prog E) {f : Nat} {L : LT} (hL : LOk Try.prog E.G G f L) {args : List SV} {r : SV} {q : Prop} (h : vf Try.prog E L f args G (fun r' _ => r' = r) = q) (hq : q) (ha : SV.wf.wfs 0 args = true) (hr : r.wf 0 = true) {β : Nat → Nat} {M : Mm} {w : World} (hR : Rel G β M w) : CallR Try.prog f (vals β args).toArray w (fun v w' => v = val β r ∧ Fp0 w w') := by
  have hS := vf_ok hE mixed hL (of_eq h hq)
  rw [hG] at hS
  exact pure0 hS ha hr hR
-- number, Value
def nmN (l : Tx) : Nat → BitVec 32
  | 0 => 0
  | j + 1 => nmN l j <<< 8 ||| (l.getD j 0).setWidth 32
def iNm (l : Tx) (x : BitVec 32) (j : Nat) : List (Nat × SV) := [(0, .s l), (3, .w32 x), (6, .i (l.length : Nat)), (7, .i (j : Nat))]
def oNm (x : BitVec 32) : List (Nat × SV) := [(3, .w32 x)]
def LNm (l : Tx) (x : BitVec 32) : LT := noL.add 0 (vLoop G 19 (iNm l 0 0) G (oNm x) G)
theorem vNm (l : Tx) (x : BitVec 32) (K : SV → Prop) : (vf Try.prog E0 (LNm l x) 18 [.s l] G (fun r _ => K r)) = (loopOf Try.prog 18 0 = loopOf Try.prog 18 0 ∧ SV.s l = SV.s l ∧ SV.w32 (BitVec.ofInt 32 0) = SV.w32 0 ∧ SV.i (↑(List.length l) : Int) = SV.i (↑(List.length l) : Int) ∧ SV.i 0 = SV.i (↑0 : Int) ∧ K (SV.w32 x)) := by kernel_rfl
theorem rNm (l : Tx) (x y z : BitVec 32) (j : Nat) (p : Prop) : (frK 19 (iNm l x j) fun fr => vround Try.prog E0 noL 18 0 fr G (Kn G 0 19 p (iNm l y (j + 1)) G (oNm z) G)) = (bif ilt (↑j : Int) (↑(List.length l) : Int) then bif inR (↑j : Int) (List.length l) then bif inI ((↑j : Int) + 1) then p ∧ SV.s l = SV.s l ∧ SV.w32 (x <<< 8 ||| BitVec.setWidth 32 (List.getD l j 0)) = SV.w32 y ∧ SV.i (↑(List.length l) : Int) = SV.i (↑(List.length l) : Int) ∧ SV.i ((↑j : Int) + 1) = SV.i (↑(j + 1) : Int) ∧ True else False else False else 0 = 0 ∧ SV.w32 x = SV.w32 z ∧ True) := by kernel_rfl
def flagT : Nat := 1000000
def ET : Env := { G := G, T := T0.add flagT cFlag, C := noC }
theorem et_ok : EnvOk Try.prog ET := { T := PT.add_ok t0_ok (flag_ok _), C := noC_ok _ _ }
theorem v57 (l : Tx) (K : SV → Prop) : (vf Try.prog ET noL 24 [.s l] G (fun r _ => K r)) = (bif (↑(List.length l) : Int) == (0 : Int) then K (SV.s (bts { data := #[] })) else bif ile (↑(List.length l) : Int) (↑(List.length l) : Int) && ile (↑(List.length l) : Int) (140737488355328 : Int) then bif ((0 : Nat) + List.length l).ble (List.replicate (List.length l) (0 : BitVec (8 : Nat))).length then bif inR (0 : Int) (List.length l) then bif (↑(List.length l) : Int) == (0 : Int) then K (SV.s []) else bif ile (↑(List.length l) : Int) (↑(List.take (0 : Nat) (List.replicate (List.length l) (0 : BitVec (8 : Nat))) ++ List.take (List.length l) l ++ List.drop ((0 : Nat) + min (List.length l) (List.length l)) (List.replicate (List.length l) (0 : BitVec (8 : Nat)))).length : Int) && ile (↑(List.length l) : Int) (1099511627776 : Int) then K (SV.s (List.take (List.length l) (List.take (0 : Nat) (List.replicate (List.length l) (0 : BitVec (8 : Nat))) ++ List.take (List.length l) l ++ List.drop ((0 : Nat) + min (List.length l) (List.length l)) (List.replicate (List.length l) (0 : BitVec (8 : Nat)))))) else False else False else False else False) := by kernel_rfl
theorem loopNm (l : Tx) (hl : l.length ≤ 4294967296) : ∀ fr M K, vLoop G 19 (iNm l 0 0) G (oNm (nmN l l.length)) G fr M K → Wp Try.prog G G (loopOf Try.prog 18 0) fr M K := by
  refine loop_next e0_ok mixed (noL_ok _ _ _ _) (Nat.le_refl _) (by kernel_rfl) (fun j => iNm l (nmN l j) j) (fun _ => G) (fun j => j ≤ l.length) (fun j => l.length - j) (fun j => j + 1) 0 (Nat.zero_le _) (fun j hj => of_eq (rNm l (nmN l j) (nmN l (j + 1)) (nmN l l.length) j _) ?_)
  cases hq : ilt (j : Int) (l.length : Int)
  · have hj2 : j = l.length := by rw [ilt_eq] at hq; have := of_decide_eq_false hq; omega
    exact ⟨rfl, congrArg SV.w32 (by rw [hj2]), trivial⟩
  · have hj2 : j < l.length := by rw [ilt_eq] at hq; have := of_decide_eq_true hq; omega
    exact bif_of (inR_iff.2 ⟨by omega, by omega⟩) (bif_of (inI_iff.2 (by omega)) ⟨⟨by omega, by omega⟩, rfl, rfl, rfl, rfl, trivial⟩)
def cNm (F : Tx → BitVec 32) : List SV → List Cont → Option (Bool × SV)
  | [.s l], _ => some (Nat.ble l.length 4294967296, .w32 (F l))
  | _, _ => none
def cCl : List SV → List Cont → Option (Bool × SV)
  | [.s l], _ => some (Nat.ble l.length 4294967296, .s l)
  | _, _ => none
def nmX (l : Tx) : BitVec 32 := nmN l l.length
theorem number_ok : POk Try.prog G 18 (cNm nmX) := by
  intro args acs r hh β M w hR hw ha
  unfold cNm at hh
  split at hh
  · rename_i l
    simp only [Option.some.injEq, Prod.mk.injEq] at hh
    obtain ⟨hl, rfl⟩ := hh
    exact pokE (E := E0) rfl e0_ok (L := LNm l (nmN l l.length)) (LT.add_ok (noL_ok _ _ _ _) (loopNm l (Nat.le_of_ble_eq_true hl))) (vNm l _ _) (by repeat (first | exact rfl | refine ⟨rfl, ?_⟩)) rfl rfl hR
  · cases hh
theorem clone57_ok : POk Try.prog G 24 cCl := by
  intro args acs r hh β M w hR hw ha
  unfold cCl at hh
  split at hh
  · rename_i l
    simp only [Option.some.injEq, Prod.mk.injEq] at hh
    obtain ⟨hl, rfl⟩ := hh
    have hl := Nat.le_of_ble_eq_true hl
    refine pokE (E := ET) rfl et_ok (noL_ok _ _ _ _) (v57 l _) ?_ rfl rfl hR
    cases l with
    | nil => rfl
    | cons b l =>
      have h0 : (((b :: l).length : Int) == 0) = false := by
        rw [beq_eq_false_iff_ne]; simp only [List.length_cons]; omega
      generalize hm : b :: l = m at h0 hl ⊢
      have hm0 : 0 < m.length := by rw [← hm]; simp
      rw [h0]
      have e2 : (List.replicate m.length (0 : BitVec 8)).take 0 ++ m.take m.length ++ (List.replicate m.length (0 : BitVec 8)).drop (0 + min m.length m.length) = m := by simp
      rw [e2]
      refine bif_of (and_t (ile_of (Int.le_refl _)) (ile_of (by omega))) (bif_of (ble_of (by simp)) (bif_of (inR_iff.2 ⟨by omega, by omega⟩) ?_))
      show bif ile (m.length : Int) (m.length : Int) && ile (m.length : Int) 1099511627776 then SV.s (m.take m.length) = SV.s m else False
      exact bif_of (and_t (ile_of (Int.le_refl _)) (ile_of (by omega))) (by rw [List.take_length])
  · cases hh
def EC : Env := { G := G, T := T0.add 24 cCl, C := noC }
theorem ec_ok : EnvOk Try.prog EC := { T := PT.add_ok t0_ok clone57_ok, C := noC_ok _ _ }
theorem v40 (l : Tx) (K : SV → Prop) : (vf Try.prog EC noL 16 [.s l] G (fun r _ => K r)) = (bif (List.length l).ble 4294967296 then K (SV.s l) else False) := by kernel_rfl
theorem clone_ok : POk Try.prog G 16 cCl := by
  intro args acs r hh β M w hR hw ha
  unfold cCl at hh
  split at hh
  · rename_i l
    simp only [Option.some.injEq, Prod.mk.injEq] at hh
    obtain ⟨hl, rfl⟩ := hh
    exact pokE (E := EC) rfl ec_ok (noL_ok _ _ _ _) (v40 l _) (bif_of hl rfl) rfl rfl hR
  · cases hh
-- Num
-- two, four
def t2 (x : BitVec 16) : Tx := [(x >>> 8).setWidth 8, x.setWidth 8]
def t4 (T : BitVec 16 → Tx) (x : BitVec 32) : Tx := T ((x >>> 16).setWidth 16) ++ T (x.setWidth 16)
def cTwo (F : BitVec 16 → Tx) : List SV → List Cont → Option (Bool × SV)
  | [.w16 x], _ => some (true, .s (F x))
  | _, _ => none
def cFour (F : BitVec 32 → Tx) : List SV → List Cont → Option (Bool × SV)
  | [.w32 x], _ => some (true, .s (F x))
  | _, _ => none
theorem v46 (x : BitVec 16) (K : SV → Prop) : (vf Try.prog E0 noL 25 [.w16 x] G (fun r _ => K r)) = (K (SV.s (List.take (2 : Nat) (List.drop (0 : Nat) [BitVec.setWidth (8 : Nat) (x >>> (8 : Nat)), BitVec.setWidth (8 : Nat) x])))) := by kernel_rfl
theorem two_ok : POk Try.prog G 25 (cTwo t2) := by
  intro args acs r hh β M w hR hw ha
  unfold cTwo at hh
  split at hh
  · rename_i x
    simp only [Option.some.injEq, Prod.mk.injEq, true_and] at hh
    subst hh
    exact pokE (E := E0) rfl e0_ok (noL_ok _ _ _ _) (v46 x _) rfl rfl rfl hR
  · cases hh
def E2 (T : BitVec 16 → Tx) : Env := { G := G, T := T0.add 25 (cTwo T), C := noC }
theorem e2_ok : EnvOk Try.prog (E2 t2) := { T := PT.add_ok t0_ok two_ok, C := noC_ok _ _ }
theorem v35 (T : BitVec 16 → Tx) (x : BitVec 32) (K : SV → Prop) : (vf Try.prog (E2 T) noL 27 [.w32 x] G (fun r _ => K r)) = (bif ile (↑(List.length (T (BitVec.setWidth (16 : Nat) (x >>> (16 : Nat)))) + List.length (T (BitVec.setWidth (16 : Nat) x))) : Int) (9223372036854775807 : Int) then K (SV.s (T (BitVec.setWidth (16 : Nat) (x >>> (16 : Nat))) ++ T (BitVec.setWidth (16 : Nat) x))) else False) := by kernel_rfl
theorem four_ok : POk Try.prog G 27 (cFour (t4 t2)) := by
  intro args acs r hh β M w hR hw ha
  unfold cFour at hh
  split at hh
  · rename_i x
    simp only [Option.some.injEq, Prod.mk.injEq, true_and] at hh
    subst hh
    exact pokE (E := E2 t2) rfl e2_ok (noL_ok _ _ _ _) (v35 t2 x _) rfl rfl rfl hR
  · cases hh
-- packets
def isPc (mo : Bool) (o : BitVec 16) : Bool := bif mo then true else o != BitVec.ofInt 16 0
def mkS (st mo : Bool) (o : BitVec 16) : BitVec 16 := bif mo then (bif st then o ||| BitVec.ofInt 16 16384 else o) ||| BitVec.ofInt 16 8192 else (bif st then o ||| BitVec.ofInt 16 16384 else o)
abbrev pkt (s d : BitVec 32) (p t : BitVec 8) (i : BitVec 16) (st mo : Bool) (o : BitVec 16) (l : Tx) : SV := .agg [.w32 s, .w32 d, .w8 p, .w8 t, .w16 i, .b st, .b mo, .w16 o, .s l]
theorem v31 (s d : BitVec 32) (p t : BitVec 8) (i : BitVec 16) (st mo : Bool) (o : BitVec 16) (l : Tx) (K : SV → Prop) : (vf Try.prog E0 noL 14 [pkt s d p t i st mo o l] G (fun r _ => K r)) = (bif mo then K (SV.b true) else K (SV.b (bif false then true else o != BitVec.ofInt 16 0))) := by kernel_rfl
theorem v47 (s d : BitVec 32) (p t : BitVec 8) (i : BitVec 16) (st mo : Bool) (o : BitVec 16) (l : Tx) (K : SV → Prop) : (vf Try.prog E0 noL 26 [pkt s d p t i st mo o l] G (fun r _ => K r)) = (bif st then bif mo then K (SV.w16 (o ||| BitVec.ofInt 16 16384 ||| BitVec.ofInt 16 8192)) else K (SV.w16 (o ||| BitVec.ofInt 16 16384)) else bif mo then K (SV.w16 (o ||| BitVec.ofInt 16 8192)) else K (SV.w16 o)) := by kernel_rfl
def cPc (F : Bool → BitVec 16 → Bool) : List SV → List Cont → Option (Bool × SV)
  | [.agg [.w32 _, .w32 _, .w8 _, .w8 _, .w16 _, .b _, .b mo, .w16 o, .s _]], _ => some (true, .b (F mo o))
  | _, _ => none
def cMk (F : Bool → Bool → BitVec 16 → BitVec 16) : List SV → List Cont → Option (Bool × SV)
  | [.agg [.w32 _, .w32 _, .w8 _, .w8 _, .w16 _, .b st, .b mo, .w16 o, .s _]], _ => some (true, .w16 (F st mo o))
  | _, _ => none
theorem isPiece_ok : POk Try.prog G 14 (cPc isPc) := by
  intro args acs r hh β M w hR hw ha
  unfold cPc at hh
  split at hh
  · rename_i s d p t i st mo o l
    simp only [Option.some.injEq, Prod.mk.injEq, true_and] at hh
    subst hh
    exact pokE (E := E0) rfl e0_ok (noL_ok _ _ _ _) (v31 s d p t i st mo o l _) (by cases mo <;> rfl) rfl rfl hR
  · cases hh
theorem marks_ok : POk Try.prog G 26 (cMk mkS) := by
  intro args acs r hh β M w hR hw ha
  unfold cMk at hh
  split at hh
  · rename_i s d p t i st mo o l
    simp only [Option.some.injEq, Prod.mk.injEq, true_and] at hh
    subst hh
    exact pokE (E := E0) rfl e0_ok (noL_ok _ _ _ _) (v47 s d p t i st mo o l _) (by cases st <;> cases mo <;> rfl) rfl rfl hR
  · cases hh
end Go.Proofs.Ytggoncamiafclab
