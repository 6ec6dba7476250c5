/-
  seg: SegOptions: options that are not known, laid and gone through. No statement is proved here.
-/
import Derived.Test.YtmeipcgkhgagpaaSgP
import Derived.Test.YtmeipcgkhgagpaaSgQ
namespace Go.Proofs.Ytmeipcgkhgagpaa
open Go.RowKit
set_option linter.unusedVariables false
set_option linter.unusedSimpArgs false
set_option maxRecDepth 100000

def nz (z : BitVec 8) : Nat := z.toNat % 6 + 2
def chT (z k : BitVec 8) : Tx := bif k.ule (BitVec.ofInt 8 3) then [BitVec.ofInt 8 1] else [k, BitVec.ofInt 8 ((nz z : Nat) : Int)] ++ List.replicate (nz z - 2) 0
def ozN (z : BitVec 8) (ks : List (Rc KF)) : Nat → Tx
  | 0 => []
  | i + 1 => ozN z ks i ++ chT z (ks.getD i (rz KF)).fst
def padT (o : Tx) : Tx := o ++ List.replicate ((4 - o.length % 4) % 4) (BitVec.ofInt 8 1)
theorem nz_le (z : BitVec 8) : nz z ≤ 7 := by unfold nz; omega
theorem ch_len (z k : BitVec 8) : (chT z k).length ≤ 7 := by
  have := nz_le z
  unfold chT
  cases k.ule (BitVec.ofInt 8 3)
  · simp only [cond_false, List.length_append, List.length_cons, List.length_nil, List.length_replicate]
    have : 2 ≤ nz z := by unfold nz; omega
    omega
  · simp only [cond_true, List.length_cons, List.length_nil]; omega
theorem oz_len (z : BitVec 8) (ks : List (Rc KF)) : ∀ i, (ozN z ks i).length ≤ 7 * i
  | 0 => Nat.le_refl _
  | i + 1 => by
    have h1 := oz_len z ks i
    have h2 := ch_len z (ks.getD i (rz KF)).fst
    show (ozN z ks i ++ _).length ≤ _
    rw [List.length_append]; omega
theorem rok_k {i m : Nat} (pre : List Value) (h : i < m) : rok pre.length i 1 KF pre m = true := by
  unfold rok
  rw [Nat.sub_self, show Nat.beq 1 KF.length = true from rfl, show Nat.blt 0 1 = true from rfl, show Nat.ble pre.length pre.length = true from by rw [Nat.ble_eq]; exact Nat.le_refl _]
  show Nat.blt (i + 0) m = true
  rw [Nat.blt_eq]; exact h
theorem loop6 (pre : List Value) (ks : List (Rc KF)) (len cap : Nat) (g : Sg) (s d : BitVec 32) (t : Tx) (z : BitVec 8) (hl : len ≤ ks.length) (hb : len ≤ 140737488355328) : ∀ fr M K, vLoop (kE pre ks) 160 (i6 s d pre len cap z t [] 0) (M6 pre ks g) (o6 1 s d t (ozN z ks len)) (M6 pre ks g) fr M K → Wp Try.prog G (kE pre ks) (loopOf Try.prog 6 0) fr M K := by
  refine loop_next e0_ok mixed (noL_ok _ _ _ _) (by show 0 ≤ 1; decide) (by kernel_rfl) (fun i => i6 s d pre len cap z t (ozN z ks i) i) (fun _ => M6 pre ks g) (fun i => i ≤ len) (fun i => len - i) (fun i => i + 1) 0 (Nat.zero_le _) (fun i hp => of_eq (r6 pre ks len cap i g s d t _ _ _ z _) ?_)
  have hp : i ≤ len := hp
  have hol := oz_len z ks i
  have hz : (z.toNat : Int).tmod 6 + 2 = ((nz z : Nat) : Int) := by unfold nz; rw [Int.tmod_eq_emod_of_nonneg (by omega)]; omega
  have hz7 := nz_le z
  have hz2 : 2 ≤ nz z := by unfold nz; omega
  have hz3 : ((nz z : Nat) : Int) - 2 = ((nz z - 2 : Nat) : Int) := by omega
  rw [show i + (pre.length - pre.length) / 1 = i by omega]
  cases hc : ilt (i : Int) (len : Int)
  · have := of_nilt hc
    obtain rfl : i = len := by omega
    repeat' (first | exact rfl | exact trivial | apply And.intro)
  have hc := of_ilt hc
  have hr : inR ((i : Nat) : Int) len = true := inR_iff.2 ⟨by omega, by omega⟩
  have hk := rok_k pre (show i < ks.length by omega)
  have hI : ozN z ks (i + 1) = ozN z ks i ++ chT z (ks.getD i (rz KF)).fst := rfl
  rw [hI]
  refine bif_of (inI_iff.2 (by omega)) (bif_of hr (bif_of hk ?_))
  rw [hz, hz3]
  generalize (ks.getD i (rz KF)).fst = y
  rcases b_tf (BitVec.ule y (BitVec.ofInt 8 3)) with hy | hy
  · refine bif_t hy (bif_of (ile_of (by omega)) (bif_of (inI_iff.2 (by omega)) ⟨⟨by omega, by omega⟩, rfl, rfl, rfl, rfl, rfl, rfl, ?_, rfl, ⟨rfl, rfl⟩, ⟨rfl, rfl⟩, trivial⟩))
    unfold chT
    rw [hy]; rfl
  · refine bif_f hy (bif_of hr (bif_of hk ?_))
    refine bif_of (ile_of (by simp only [List.drop_zero, List.length_take, List.length_cons, List.length_nil]; omega)) ?_
    refine bif_of (inI_iff.2 (by omega)) (bif_of (and_t (and_t (ile_of (by omega)) (ile_of (by omega))) (ile_of (by omega))) ?_)
    rw [Int.toNat_natCast]
    refine bif_of (decide_eq_true (by rw [List.length_replicate]; omega)) ?_
    refine bif_of (ile_of (by simp only [List.length_append, List.drop_zero, List.length_take, List.length_cons, List.length_nil, List.length_replicate]; omega)) ?_
    refine bif_of (inI_iff.2 (by omega)) ⟨⟨by omega, by omega⟩, rfl, rfl, rfl, rfl, rfl, rfl, ?_, rfl, ⟨rfl, rfl⟩, ⟨rfl, rfl⟩, trivial⟩
    unfold chT
    have et : List.take (nz z - 2) (List.drop 0 (List.replicate (nz z - 2) (0 : BitVec 8))) = List.replicate (nz z - 2) 0 := by
      rw [List.drop_zero]
      exact List.take_of_length_le (by rw [List.length_replicate]; exact Nat.le_refl _)
    rw [hy, et, List.append_assoc]
    rfl
theorem pad_loop {I : Tx → List (Nat × SV)} {M0 B : Mm} (hB : 0 ≤ B.length) (o : Tx) (ho : o.length ≤ 1000000000000000)
    (hr : ∀ (o' : Tx) (p : Prop), (o'.length ≤ 1000000000000010) → (bif ((o'.length : Nat) : Int).tmod 4 != 0 then p else o' = padT o) → frK 160 (I o') fun fr => vround Try.prog E0 noL 6 2 fr M0 (Kn B 2 160 p (I (o' ++ [BitVec.ofInt 8 1])) M0 (I (padT o)) M0)) : ∀ fr M K, vLoop B 160 (I o) M0 (I (padT o)) M0 fr M K → Wp Try.prog G B (loopOf Try.prog 6 2) fr M K := by
  have e0 : I o = I (o ++ List.replicate 0 (BitVec.ofInt 8 1)) := by rw [List.replicate_zero, List.append_nil]
  rw [e0]
  refine loop_next e0_ok mixed (noL_ok _ _ _ _) hB (by kernel_rfl) (fun j => I (o ++ List.replicate j (BitVec.ofInt 8 1))) (fun _ => M0) (fun j => j ≤ (4 - o.length % 4) % 4) (fun j => 4 - j) (fun j => j + 1) 0 (Nat.zero_le _) (fun j hj => ?_)
  have hj : j ≤ (4 - o.length % 4) % 4 := hj
  have e1 : I (o ++ List.replicate (j + 1) (BitVec.ofInt 8 1)) = I (o ++ List.replicate j (BitVec.ofInt 8 1) ++ [BitVec.ofInt 8 1]) := by rw [List.replicate_succ', List.append_assoc]
  rw [e1]
  have hl : (o ++ List.replicate j (BitVec.ofInt 8 1)).length = o.length + j := by rw [List.length_append, List.length_replicate]
  refine hr _ _ (by rw [hl]; omega) ?_
  rw [hl, Int.tmod_eq_emod_of_nonneg (by omega)]
  cases hc : (((o.length + j : Nat) : Int) % 4 != 0)
  · simp only [bne, Bool.not_eq_false'] at hc
    have hc := eq_of_beq hc
    show _ = padT o
    unfold padT
    rw [show j = (4 - o.length % 4) % 4 by omega]
  · have hc := bne_iff_ne.1 hc
    show _ ∧ _
    exact ⟨by omega, by omega⟩
theorem loop62 (pre : List Value) (ks : List (Rc KF)) (g : Sg) (s d : BitVec 32) (t o : Tx) (ho : o.length ≤ 1000000000000000) : ∀ fr M K, vLoop (kE pre ks) 160 (o6 1 s d t o) (M6 pre ks g) (o6 1 s d t (padT o)) (M6 pre ks g) fr M K → Wp Try.prog G (kE pre ks) (loopOf Try.prog 6 2) fr M K := by
  refine pad_loop (I := fun o => o6 1 s d t o) (Nat.zero_le _) o ho fun o' p hl h => of_eq (q6 pre ks g s d t o' _ _ p) ?_
  cases hc : ((o'.length : Nat) : Int).tmod 4 != 0
  · rw [hc] at h
    obtain rfl : o' = padT o := h
    repeat' (first | exact rfl | exact trivial | apply And.intro)
  · rw [hc] at h
    refine bif_of (ile_of (by omega)) ⟨h, ?_⟩
    repeat' (first | exact rfl | exact trivial | apply And.intro)
theorem loop62z (g : Sg) (s d : BitVec 32) (t o : Tx) (ho : o.length ≤ 1000000000000000) : ∀ fr M K, vLoop G 160 (o6 0 s d t o) (Z6 g) (o6 0 s d t (padT o)) (Z6 g) fr M K → Wp Try.prog G G (loopOf Try.prog 6 2) fr M K := by
  refine pad_loop (I := fun o => o6 0 s d t o) (Nat.zero_le _) o ho fun o' p hl h => of_eq (q6z g s d t o' _ _ p) ?_
  cases hc : ((o'.length : Nat) : Int).tmod 4 != 0
  · rw [hc] at h
    obtain rfl : o' = padT o := h
    repeat' (first | exact rfl | exact trivial | apply And.intro)
  · rw [hc] at h
    refine bif_of (ile_of (by omega)) ⟨h, ?_⟩
    repeat' (first | exact rfl | exact trivial | apply And.intro)
theorem loop6z (x : Option Addr) (cap : Nat) (g : Sg) (s d : BitVec 32) (t : Tx) (z : BitVec 8) : ∀ fr M K, vLoop G 160 (j6 s d x cap z t []) (Z6 g) (o6 0 s d t []) (Z6 g) fr M K → Wp Try.prog G G (loopOf Try.prog 6 0) fr M K := by
  refine loop_next e0_ok mixed (noL_ok _ _ _ _) (Nat.le_refl _) (by kernel_rfl) (fun _ : Nat => j6 s d x cap z t []) (fun _ => Z6 g) (fun _ => True) (fun i => i) (fun i => i) 0 trivial (fun i hp => of_eq (r6z x cap g s d t z _) ?_)
  repeat' (first | exact rfl | exact trivial | apply And.intro)
-- gone through
theorem op_fuel : ∀ (n n' : Nat) (l : Tx) (m : BitVec 16) (h : Bool) (c : BitVec 8), l.length ≤ n → l.length ≤ n' → opN n l m h c = opN n' l m h c
  | 0, n', l, m, h, c, h1, h2 => by
    have : ilt 0 (l.length : Int) = false := ilt_no (by omega)
    rw [op_exit this, op_exit this]
  | n + 1, 0, l, m, h, c, h1, h2 => by
    have : ilt 0 (l.length : Int) = false := ilt_no (by omega)
    rw [op_exit this, op_exit this]
  | n + 1, n' + 1, l, m, h, c, h1, h2 => by
    unfold opN
    cases hA : ilt 0 (l.length : Int)
    · rfl
    have hA := of_ilt hA
    cases hB0 : l.getD 0 0 == BitVec.ofInt 8 0
    case true => rfl
    cases hB1 : l.getD 0 0 == BitVec.ofInt 8 1
    case true => exact op_fuel n n' _ _ _ _ (by rw [List.length_drop]; omega) (by rw [List.length_drop]; omega)
    cases hW : szB l
    case false => rfl
    cases hT : tkB l
    case false => rfl
    obtain ⟨z, hz1, hz2, hz3, hz4⟩ := szB_of hW
    have ez : (szI l).toNat = z := by rw [hz2]; rfl
    show opN n (l.drop (szI l).toNat) _ _ _ = opN n' (l.drop (szI l).toNat) _ _ _
    rw [ez]
    exact op_fuel n n' _ _ _ _ (by rw [List.length_drop]; omega) (by rw [List.length_drop]; omega)
theorem op_one (r : Tx) (m : BitVec 16) (h : Bool) (c : BitVec 8) : opX (BitVec.ofInt 8 1 :: r) m h c = opX r m h c := by
  show opN (r.length + 1) (BitVec.ofInt 8 1 :: r) m h c = opN r.length r m h c
  have hA : ilt 0 ((BitVec.ofInt 8 1 :: r).length : Int) = true := ilt_of (by rw [List.length_cons]; omega)
  rw [opN, hA]; rfl
theorem op_other (z k : BitVec 8) (hk : k.ule (BitVec.ofInt 8 3) = false) (r : Tx) (m : BitVec 16) (h : Bool) (c : BitVec 8) : opX ([k, BitVec.ofInt 8 ((nz z : Nat) : Int)] ++ List.replicate (nz z - 2) 0 ++ r) m h c = opX r m h c := by
  have hz7 := nz_le z
  have hz2 : 2 ≤ nz z := by unfold nz; omega
  have hk3 : 3 < k.toNat := by
    have := of_decide_eq_false hk
    have e : (BitVec.ofInt 8 3).toNat = 3 := rfl
    rw [e] at this; omega
  have hl : ([k, BitVec.ofInt 8 ((nz z : Nat) : Int)] ++ List.replicate (nz z - 2) 0 ++ r).length = (nz z - 1 + r.length) + 1 := by
    simp only [List.length_append, List.length_cons, List.length_nil, List.length_replicate]; omega
  unfold opX
  rw [hl]
  generalize hL : [k, BitVec.ofInt 8 ((nz z : Nat) : Int)] ++ List.replicate (nz z - 2) 0 ++ r = L at hl ⊢
  have g0 : L.getD 0 0 = k := by rw [← hL]; rfl
  have g1 : (L.getD 1 0).toNat = nz z := by
    have : L.getD 1 0 = BitVec.ofInt 8 ((nz z : Nat) : Int) := by rw [← hL]; rfl
    rw [this, BitVec.toNat_ofInt]; omega
  have ne : ∀ j : Nat, j ≤ 3 → (k == BitVec.ofInt 8 ((j : Nat) : Int)) = false := fun j hj => by
    rw [toNat_eq8 (by omega), beq_eq_false_iff_ne]; omega
  have c2 : ilt (L.length : Int) 2 = false := ilt_no (by omega)
  have hS : szI L = ((nz z : Nat) : Int) := by unfold szI; rw [c2, g1]; rfl
  have hW : szB L = true := by
    have b1 : ile 2 ((nz z : Nat) : Int) = true := ile_of (by omega)
    unfold szB
    rw [c2, g1, b1]
    show ile ((nz z : Nat) : Int) (L.length : Int) = true
    exact ile_of (by omega)
  have n2 : (k == BitVec.ofInt 8 2) = false := ne 2 (by omega)
  have n3 : (k == BitVec.ofInt 8 3) = false := ne 3 (by omega)
  have hT : tkB L = true := by unfold tkB; rw [g0, n2, n3]; rfl
  have e1 : tkM L m = m := by unfold tkM; rw [g0, n2]; rfl
  have e2 : tkH L h = h := by unfold tkH; rw [g0, n2, n3]; rfl
  have e3 : tkC L c = c := by unfold tkC; rw [g0, n2, n3]; rfl
  have hA : ilt 0 (L.length : Int) = true := ilt_of (by omega)
  have n0 : (k == BitVec.ofInt 8 0) = false := ne 0 (by omega)
  have n1 : (k == BitVec.ofInt 8 1) = false := ne 1 (by omega)
  have hD : L.drop (nz z) = r := by
    rw [← hL]
    exact List.drop_left' (by simp only [List.length_append, List.length_cons, List.length_nil, List.length_replicate]; omega)
  rw [opN, hA, g0, n0, n1, hW, hT, hS, e1, e2, e3]
  show opN (nz z - 1 + r.length) (L.drop (((nz z : Nat) : Int)).toNat) m h c = _
  rw [Int.toNat_natCast, hD]
  exact op_fuel _ _ _ _ _ _ (by omega) (Nat.le_refl _)
theorem op_ch (z k : BitVec 8) (r : Tx) (m : BitVec 16) (h : Bool) (c : BitVec 8) : opX (chT z k ++ r) m h c = opX r m h c := by
  unfold chT
  rcases b_tf (k.ule (BitVec.ofInt 8 3)) with hk | hk
  · rw [hk]; exact op_one r m h c
  · rw [hk]; exact op_other z k hk r m h c
theorem op_oz (z : BitVec 8) (ks : List (Rc KF)) (m : BitVec 16) (h : Bool) (c : BitVec 8) : ∀ (i : Nat) (r : Tx), opX (ozN z ks i ++ r) m h c = opX r m h c
  | 0, r => rfl
  | i + 1, r => by
    show opX (ozN z ks i ++ chT z (ks.getD i (rz KF)).fst ++ r) m h c = _
    rw [List.append_assoc, op_oz z ks m h c i, op_ch]
theorem op_pad (m : BitVec 16) (h : Bool) (c : BitVec 8) (r : Tx) : ∀ j : Nat, opX (List.replicate j (BitVec.ofInt 8 1) ++ r) m h c = opX r m h c
  | 0 => rfl
  | j + 1 => by
    rw [List.replicate_succ, List.cons_append, op_one, op_pad m h c r j]
theorem pad_len (o : Tx) : (padT o).length % 4 = 0 ∧ (padT o).length ≤ o.length + 3 := by
  unfold padT
  rw [List.length_append, List.length_replicate]
  omega
end Go.Proofs.Ytmeipcgkhgagpaa
