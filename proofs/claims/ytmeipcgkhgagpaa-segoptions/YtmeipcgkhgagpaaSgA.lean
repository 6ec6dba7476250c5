/-
  seg: numbers as bytes, bytes as numbers, texts that are copied. No statement is proved here.
-/
import Derived.Test.YtmeipcgkhgagpaaVdI
import Derived.Test.YtmeipcgkhgagpaaChecked
namespace Go.Proofs.Ytmeipcgkhgagpaa
open Go.RowKit
set_option linter.unusedVariables false
set_option linter.unusedSimpArgs false
set_option maxRecDepth 100000

abbrev Tx := List (BitVec 8)
def G : Mm := []
theorem mixed : Try.prog.follows .mixedOrders = true := by kernel_rfl
def flagN : Nat := 1000001
def cFlag : List SV → List Cont → Option (Bool × SV) := fun _ _ => some (false, .any)
theorem flag_ok (n : Nat) : POk Try.prog G n cFlag := by
  intro args acs r h
  simp [cFlag] at h
def T0 : PT := noT.add flagN cFlag
theorem t0_ok : PTok Try.prog G T0 := PT.add_ok (noT_ok _ _) (flag_ok _)
def E0 : Env := { G := G, T := T0, C := noC }
theorem e0_ok : EnvOk Try.prog E0 := { T := t0_ok, C := noC_ok _ _ }
theorem blt_of {a b : Nat} (h : a < b) : Nat.blt a b = true := by simpa [Nat.blt_eq] using h
theorem ble_of {a b : Nat} (h : a ≤ b) : Nat.ble a b = true := Nat.ble_eq_true_of_le h
theorem and_t {a b : Bool} (ha : a = true) (hb : b = true) : (a && b) = true := by rw [ha, hb]; rfl
theorem ile_of {a b : Int} (h : a ≤ b) : ile a b = true := by rw [ile_eq]; exact decide_eq_true h
theorem ilt_of {a b : Int} (h : a < b) : ilt a b = true := by rw [ilt_eq]; exact decide_eq_true h
theorem ilt_no {a b : Int} (h : ¬ a < b) : ilt a b = false := by rw [ilt_eq]; exact decide_eq_false h
theorem ile_no {a b : Int} (h : ¬ a ≤ b) : ile a b = false := by rw [ile_eq]; exact decide_eq_false h
/-- What a function answers that is handed values alone, from its reckoning. -/
theorem pokE {E : Env} (hG : E.G = G) (hE : EnvOk Try.prog E) {f : Nat} {L : LT} (hL : LOk Try.prog E.G G f L) {args : List SV} {r : SV} {q : Prop} (h : vf Try.prog E L f args G (fun r' _ => r' = r) = q) (hq : q) (ha : SV.wf.wfs 0 args = true) (hr : r.wf 0 = true) {β : Nat → Nat} {M : Mm} {w : World} (hR : Rel G β M w) : CallR Try.prog f (vals β args).toArray w (fun v w' => v = val β r ∧ Fp0 w w') := by
  have hS := vf_ok hE mixed hL (of_eq h hq)
  rw [hG] at hS
  exact pure0 hS ha hr hR
-- number, Value
def nmN (l : Tx) : Nat → BitVec 32
  | 0 => 0
  | j + 1 => nmN l j <<< 8 ||| (l.getD j 0).setWidth 32
def vlN (l : Tx) : Nat → BitVec 64
  | 0 => 0
  | j + 1 => vlN l j <<< 8 ||| (l.getD j 0).setWidth 64
def iNm (l : Tx) (x : BitVec 32) (j : Nat) : List (Nat × SV) := [(0, .s l), (3, .w32 x), (6, .i (l.length : Nat)), (7, .i (j : Nat))]
def oNm (x : BitVec 32) : List (Nat × SV) := [(3, .w32 x)]
def iVl (l : Tx) (x : BitVec 64) (j : Nat) : List (Nat × SV) := [(0, .s l), (3, .w64 x), (4, .i (j : Nat))]
def oVl (x : BitVec 64) : List (Nat × SV) := [(3, .w64 x)]
def LNm (l : Tx) (x : BitVec 32) : LT := noL.add 0 (vLoop G 19 (iNm l 0 0) G (oNm x) G)
def LVl (l : Tx) (x : BitVec 64) : LT := noL.add 0 (vLoop G 19 (iVl l 0 0) G (oVl x) G)
theorem vNm (l : Tx) (x : BitVec 32) (K : SV → Prop) : (vf Try.prog E0 (LNm l x) 30 [.s l] G (fun r _ => K r)) = (loopOf Try.prog 30 0 = loopOf Try.prog 30 0 ∧ SV.s l = SV.s l ∧ SV.w32 (BitVec.ofInt 32 0) = SV.w32 0 ∧ SV.i (↑(List.length l) : Int) = SV.i (↑(List.length l) : Int) ∧ SV.i 0 = SV.i (↑0 : Int) ∧ K (SV.w32 x)) := by kernel_rfl
theorem rNm (l : Tx) (x y z : BitVec 32) (j : Nat) (p : Prop) : (frK 19 (iNm l x j) fun fr => vround Try.prog E0 noL 30 0 fr G (Kn G 0 19 p (iNm l y (j + 1)) G (oNm z) G)) = (bif ilt (↑j : Int) (↑(List.length l) : Int) then bif inR (↑j : Int) (List.length l) then bif inI ((↑j : Int) + 1) then p ∧ SV.s l = SV.s l ∧ SV.w32 (x <<< 8 ||| BitVec.setWidth 32 (List.getD l j 0)) = SV.w32 y ∧ SV.i (↑(List.length l) : Int) = SV.i (↑(List.length l) : Int) ∧ SV.i ((↑j : Int) + 1) = SV.i (↑(j + 1) : Int) ∧ True else False else False else 0 = 0 ∧ SV.w32 x = SV.w32 z ∧ True) := by kernel_rfl
theorem vVl (l : Tx) (x : BitVec 64) (K : SV → Prop) : (vf Try.prog E0 (LVl l x) 22 [.s l] G (fun r _ => K r)) = (loopOf Try.prog 22 0 = loopOf Try.prog 22 0 ∧ SV.s l = SV.s l ∧ SV.w64 (BitVec.ofInt 64 0) = SV.w64 0 ∧ SV.i 0 = SV.i (↑0 : Int) ∧ K (SV.w64 x)) := by kernel_rfl
theorem rVl (l : Tx) (x y z : BitVec 64) (j : Nat) (p : Prop) : (frK 19 (iVl l x j) fun fr => vround Try.prog E0 noL 22 0 fr G (Kn G 0 19 p (iVl l y (j + 1)) G (oVl z) G)) = (bif ilt (↑j : Int) (↑(List.length l) : Int) then bif inR (↑j : Int) (List.length l) then bif inI ((↑j : Int) + 1) then p ∧ SV.s l = SV.s l ∧ SV.w64 (x <<< 8 ||| BitVec.setWidth 64 (List.getD l j 0)) = SV.w64 y ∧ SV.i ((↑j : Int) + 1) = SV.i (↑(j + 1) : Int) ∧ True else False else False else 0 = 0 ∧ SV.w64 x = SV.w64 z ∧ True) := by kernel_rfl
def flagT : Nat := 1000000
def ET : Env := { G := G, T := T0.add flagT cFlag, C := noC }
theorem et_ok : EnvOk Try.prog ET := { T := PT.add_ok t0_ok (flag_ok _), C := noC_ok _ _ }
theorem v57 (l : Tx) (K : SV → Prop) : (vf Try.prog ET noL 32 [.s l] G (fun r _ => K r)) = (bif (↑(List.length l) : Int) == (0 : Int) then K (SV.s (bts { data := #[] })) else bif ile (↑(List.length l) : Int) (↑(List.length l) : Int) && ile (↑(List.length l) : Int) (140737488355328 : Int) then bif ((0 : Nat) + List.length l).ble (List.replicate (List.length l) (0 : BitVec (8 : Nat))).length then bif inR (0 : Int) (List.length l) then bif (↑(List.length l) : Int) == (0 : Int) then K (SV.s []) else bif ile (↑(List.length l) : Int) (↑(List.take (0 : Nat) (List.replicate (List.length l) (0 : BitVec (8 : Nat))) ++ List.take (List.length l) l ++ List.drop ((0 : Nat) + min (List.length l) (List.length l)) (List.replicate (List.length l) (0 : BitVec (8 : Nat)))).length : Int) && ile (↑(List.length l) : Int) (1099511627776 : Int) then K (SV.s (List.take (List.length l) (List.take (0 : Nat) (List.replicate (List.length l) (0 : BitVec (8 : Nat))) ++ List.take (List.length l) l ++ List.drop ((0 : Nat) + min (List.length l) (List.length l)) (List.replicate (List.length l) (0 : BitVec (8 : Nat)))))) else False else False else False else False) := by kernel_rfl
def L36 (P : Program) : LT := noL.add 0 (vUn P E0 noL 19 0 5)
theorem v36a (x : BitVec 64) (K : SV → Prop) : (vf Try.prog E0 (L36 Try.prog) 19 [.w64 x, .i 2] G (fun r _ => K r)) = (loopOf Try.prog (19 : Nat) (0 : Nat) = loopOf Try.prog (19 : Nat) (0 : Nat) ∧ K (SV.s (List.take (2 : Nat) (List.drop (0 : Nat) (((List.replicate (2 : Nat) (0 : BitVec (8 : Nat))).set (1 : Nat) (BitVec.setWidth (8 : Nat) x)).set (0 : Nat) (BitVec.setWidth (8 : Nat) (x >>> (8 : Nat)))))))) := by kernel_rfl
theorem v36b (x : BitVec 64) (K : SV → Prop) : (vf Try.prog E0 (L36 Try.prog) 19 [.w64 x, .i 4] G (fun r _ => K r)) = (loopOf Try.prog (19 : Nat) (0 : Nat) = loopOf Try.prog (19 : Nat) (0 : Nat) ∧ K (SV.s (List.take (4 : Nat) (List.drop (0 : Nat) (((((List.replicate (4 : Nat) (0 : BitVec (8 : Nat))).set (3 : Nat) (BitVec.setWidth (8 : Nat) x)).set (2 : Nat) (BitVec.setWidth (8 : Nat) (x >>> (8 : Nat)))).set (1 : Nat) (BitVec.setWidth (8 : Nat) (x >>> (8 : Nat) >>> (8 : Nat)))).set (0 : Nat) (BitVec.setWidth (8 : Nat) (x >>> (8 : Nat) >>> (8 : Nat) >>> (8 : Nat)))))))) := by kernel_rfl
theorem loopNm (l : Tx) (hl : l.length ≤ 4294967296) : ∀ fr M K, vLoop G 19 (iNm l 0 0) G (oNm (nmN l l.length)) G fr M K → Wp Try.prog G G (loopOf Try.prog 30 0) fr M K := by
  refine loop_next e0_ok mixed (noL_ok _ _ _ _) (Nat.le_refl _) (by kernel_rfl) (fun j => iNm l (nmN l j) j) (fun _ => G) (fun j => j ≤ l.length) (fun j => l.length - j) (fun j => j + 1) 0 (Nat.zero_le _) (fun j hj => of_eq (rNm l (nmN l j) (nmN l (j + 1)) (nmN l l.length) j _) ?_)
  cases hq : ilt (j : Int) (l.length : Int)
  · have hj2 : j = l.length := by rw [ilt_eq] at hq; have := of_decide_eq_false hq; omega
    exact ⟨rfl, congrArg SV.w32 (by rw [hj2]), trivial⟩
  · have hj2 : j < l.length := by rw [ilt_eq] at hq; have := of_decide_eq_true hq; omega
    exact bif_of (inR_iff.2 ⟨by omega, by omega⟩) (bif_of (inI_iff.2 (by omega)) ⟨⟨by omega, by omega⟩, rfl, rfl, rfl, rfl, trivial⟩)
theorem loopVl (l : Tx) (hl : l.length ≤ 4294967296) : ∀ fr M K, vLoop G 19 (iVl l 0 0) G (oVl (vlN l l.length)) G fr M K → Wp Try.prog G G (loopOf Try.prog 22 0) fr M K := by
  refine loop_next e0_ok mixed (noL_ok _ _ _ _) (Nat.le_refl _) (by kernel_rfl) (fun j => iVl l (vlN l j) j) (fun _ => G) (fun j => j ≤ l.length) (fun j => l.length - j) (fun j => j + 1) 0 (Nat.zero_le _) (fun j hj => of_eq (rVl l (vlN l j) (vlN l (j + 1)) (vlN l l.length) j _) ?_)
  cases hq : ilt (j : Int) (l.length : Int)
  · have hj2 : j = l.length := by rw [ilt_eq] at hq; have := of_decide_eq_false hq; omega
    exact ⟨rfl, congrArg SV.w64 (by rw [hj2]), trivial⟩
  · have hj2 : j < l.length := by rw [ilt_eq] at hq; have := of_decide_eq_true hq; omega
    exact bif_of (inR_iff.2 ⟨by omega, by omega⟩) (bif_of (inI_iff.2 (by omega)) ⟨⟨by omega, by omega⟩, rfl, rfl, rfl, trivial⟩)
def cNm (F : Tx → BitVec 32) : List SV → List Cont → Option (Bool × SV)
  | [.s l], _ => some (Nat.ble l.length 4294967296, .w32 (F l))
  | _, _ => none
def cVl (F : Tx → BitVec 64) : List SV → List Cont → Option (Bool × SV)
  | [.s l], _ => some (Nat.ble l.length 4294967296, .w64 (F l))
  | _, _ => none
def cCl : List SV → List Cont → Option (Bool × SV)
  | [.s l], _ => some (Nat.ble l.length 4294967296, .s l)
  | _, _ => none
def nmX (l : Tx) : BitVec 32 := nmN l l.length
def vlX (l : Tx) : BitVec 64 := vlN l l.length
theorem number_ok : POk Try.prog G 30 (cNm nmX) := by
  intro args acs r hh β M w hR hw ha
  unfold cNm at hh
  split at hh
  · rename_i l
    simp only [Option.some.injEq, Prod.mk.injEq] at hh
    obtain ⟨hl, rfl⟩ := hh
    exact pokE (E := E0) rfl e0_ok (L := LNm l (nmN l l.length)) (LT.add_ok (noL_ok _ _ _ _) (loopNm l (Nat.le_of_ble_eq_true hl))) (vNm l _ _) (by repeat (first | exact rfl | refine ⟨rfl, ?_⟩)) rfl rfl hR
  · cases hh
theorem value_ok : POk Try.prog G 22 (cVl vlX) := by
  intro args acs r hh β M w hR hw ha
  unfold cVl at hh
  split at hh
  · rename_i l
    simp only [Option.some.injEq, Prod.mk.injEq] at hh
    obtain ⟨hl, rfl⟩ := hh
    exact pokE (E := E0) rfl e0_ok (L := LVl l (vlN l l.length)) (LT.add_ok (noL_ok _ _ _ _) (loopVl l (Nat.le_of_ble_eq_true hl))) (vVl l _ _) (by repeat (first | exact rfl | refine ⟨rfl, ?_⟩)) rfl rfl hR
  · cases hh
theorem vl_nm (l : Tx) : ∀ j, (vlN l j).setWidth 32 = nmN l j
  | 0 => rfl
  | j + 1 => by
    show (vlN l j <<< 8 ||| (l.getD j 0).setWidth 64).setWidth 32 = nmN l j <<< 8 ||| (l.getD j 0).setWidth 32
    rw [BitVec.setWidth_or, ← vl_nm l j]
    congr 1
    · apply BitVec.eq_of_toNat_eq
      simp only [BitVec.toNat_setWidth, BitVec.toNat_shiftLeft, Nat.shiftLeft_eq]
      omega
    · apply BitVec.eq_of_toNat_eq
      have := (l.getD j 0).isLt
      simp only [BitVec.toNat_setWidth]
      omega
theorem clone57_ok : POk Try.prog G 32 cCl := by
  intro args acs r hh β M w hR hw ha
  unfold cCl at hh
  split at hh
  · rename_i l
    simp only [Option.some.injEq, Prod.mk.injEq] at hh
    obtain ⟨hl, rfl⟩ := hh
    have hl := Nat.le_of_ble_eq_true hl
    refine pokE (E := ET) rfl et_ok (noL_ok _ _ _ _) (v57 l _) ?_ rfl rfl hR
    cases l with
    | nil => rfl
    | cons b l =>
      have h0 : (((b :: l).length : Int) == 0) = false := by
        rw [beq_eq_false_iff_ne]; simp only [List.length_cons]; omega
      generalize hm : b :: l = m at h0 hl ⊢
      have hm0 : 0 < m.length := by rw [← hm]; simp
      rw [h0]
      have e2 : (List.replicate m.length (0 : BitVec 8)).take 0 ++ m.take m.length ++ (List.replicate m.length (0 : BitVec 8)).drop (0 + min m.length m.length) = m := by simp
      rw [e2]
      refine bif_of (and_t (ile_of (Int.le_refl _)) (ile_of (by omega))) (bif_of (ble_of (by simp)) (bif_of (inR_iff.2 ⟨by omega, by omega⟩) ?_))
      show bif ile (m.length : Int) (m.length : Int) && ile (m.length : Int) 1099511627776 then SV.s (m.take m.length) = SV.s m else False
      exact bif_of (and_t (ile_of (Int.le_refl _)) (ile_of (by omega))) (by rw [List.take_length])
  · cases hh
def EC : Env := { G := G, T := T0.add 32 cCl, C := noC }
theorem ec_ok : EnvOk Try.prog EC := { T := PT.add_ok t0_ok clone57_ok, C := noC_ok _ _ }
theorem v40 (l : Tx) (K : SV → Prop) : (vf Try.prog EC noL 31 [.s l] G (fun r _ => K r)) = (bif (List.length l).ble 4294967296 then K (SV.s l) else False) := by kernel_rfl
theorem clone_ok : POk Try.prog G 31 cCl := by
  intro args acs r hh β M w hR hw ha
  unfold cCl at hh
  split at hh
  · rename_i l
    simp only [Option.some.injEq, Prod.mk.injEq] at hh
    obtain ⟨hl, rfl⟩ := hh
    exact pokE (E := EC) rfl ec_ok (noL_ok _ _ _ _) (v40 l _) (bif_of hl rfl) rfl rfl hR
  · cases hh
-- Num
def m2 (x : BitVec 64) : Tx := [(x >>> 8).setWidth 8, x.setWidth 8]
def m4 (x : BitVec 64) : Tx := [(x >>> 8 >>> 8 >>> 8).setWidth 8, (x >>> 8 >>> 8).setWidth 8, (x >>> 8).setWidth 8, x.setWidth 8]
def cNum (F2 F4 : BitVec 64 → Tx) : List SV → List Cont → Option (Bool × SV)
  | [.w64 x, .i z], _ => bif z == 2 then some (true, .s (F2 x)) else bif z == 4 then some (true, .s (F4 x)) else none
  | _, _ => none
theorem num_ok : POk Try.prog G 19 (cNum m2 m4) := by
  intro args acs r hh β M w hR hw ha
  unfold cNum at hh
  have hL : LOk Try.prog E0.G G 19 (L36 Try.prog) := LT.un_ok e0_ok mixed (noL_ok _ _ _ _) (noL_ok _ _ _ _) (by kernel_rfl) 5
  split at hh
  · rename_i x z
    cases h2 : (z == 2)
    · rw [h2] at hh
      cases h4 : (z == 4)
      · rw [h4] at hh; cases hh
      · rw [h4] at hh
        simp only [cond_true, cond_false, Option.some.injEq, Prod.mk.injEq, true_and] at hh
        subst hh
        obtain rfl := eq_of_beq h4
        exact pokE (E := E0) rfl e0_ok hL (v36b x _) ⟨rfl, rfl⟩ rfl rfl hR
    · rw [h2] at hh
      simp only [cond_true, Option.some.injEq, Prod.mk.injEq, true_and] at hh
      subst hh
      obtain rfl := eq_of_beq h2
      exact pokE (E := E0) rfl e0_ok hL (v36a x _) ⟨rfl, rfl⟩ rfl rfl hR
  · cases hh
-- two, four
def t2 (x : BitVec 16) : Tx := [(x >>> 8).setWidth 8, x.setWidth 8]
def t4 (T : BitVec 16 → Tx) (x : BitVec 32) : Tx := T ((x >>> 16).setWidth 16) ++ T (x.setWidth 16)
def cTwo (F : BitVec 16 → Tx) : List SV → List Cont → Option (Bool × SV)
  | [.w16 x], _ => some (true, .s (F x))
  | _, _ => none
def cFour (F : BitVec 32 → Tx) : List SV → List Cont → Option (Bool × SV)
  | [.w32 x], _ => some (true, .s (F x))
  | _, _ => none
theorem v46 (x : BitVec 16) (K : SV → Prop) : (vf Try.prog E0 noL 18 [.w16 x] G (fun r _ => K r)) = (K (SV.s (List.take (2 : Nat) (List.drop (0 : Nat) [BitVec.setWidth (8 : Nat) (x >>> (8 : Nat)), BitVec.setWidth (8 : Nat) x])))) := by kernel_rfl
theorem two_ok : POk Try.prog G 18 (cTwo t2) := by
  intro args acs r hh β M w hR hw ha
  unfold cTwo at hh
  split at hh
  · rename_i x
    simp only [Option.some.injEq, Prod.mk.injEq, true_and] at hh
    subst hh
    exact pokE (E := E0) rfl e0_ok (noL_ok _ _ _ _) (v46 x _) rfl rfl rfl hR
  · cases hh
def E2 (T : BitVec 16 → Tx) : Env := { G := G, T := T0.add 18 (cTwo T), C := noC }
theorem e2_ok : EnvOk Try.prog (E2 t2) := { T := PT.add_ok t0_ok two_ok, C := noC_ok _ _ }
theorem v35 (T : BitVec 16 → Tx) (x : BitVec 32) (K : SV → Prop) : (vf Try.prog (E2 T) noL 25 [.w32 x] G (fun r _ => K r)) = (bif ile (↑(List.length (T (BitVec.setWidth (16 : Nat) (x >>> (16 : Nat)))) + List.length (T (BitVec.setWidth (16 : Nat) x))) : Int) (9223372036854775807 : Int) then K (SV.s (T (BitVec.setWidth (16 : Nat) (x >>> (16 : Nat))) ++ T (BitVec.setWidth (16 : Nat) x))) else False) := by kernel_rfl
theorem four_ok : POk Try.prog G 25 (cFour (t4 t2)) := by
  intro args acs r hh β M w hR hw ha
  unfold cFour at hh
  split at hh
  · rename_i x
    simp only [Option.some.injEq, Prod.mk.injEq, true_and] at hh
    subst hh
    exact pokE (E := E2 t2) rfl e2_ok (noL_ok _ _ _ _) (v35 t2 x _) rfl rfl rfl hR
  · cases hh
end Go.Proofs.Ytmeipcgkhgagpaa
