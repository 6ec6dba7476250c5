/-
  The law SignStrict, over letters: it answers true. No statement is proved here.
-/
import Derived.Test.YtdfghknonbmadaaDoorMtD
namespace Go.Proofs.YtdfghknonbmadaaDoor
open Go.RowKit
set_option linter.unusedVariables false
set_option linter.unusedSimpArgs false
set_option maxRecDepth 100000

/-- The order is added to the second half: the bytes and the carry. -/
def lwN (x : Tx8) : Nat → Tx8 × Nat
  | 0 => (x, 0)
  | j + 1 => ((lwN x j).1.set (32 + j) (BitVec.ofNat 8 (((lwN x j).1.getD (32 + j) 0).toNat + (ORD.getD j 0).toNat + (lwN x j).2)), (((lwN x j).1.getD (32 + j) 0).toNat + (ORD.getD j 0).toNat + (lwN x j).2) / 256)
theorem lwN_len (x : Tx8) : ∀ j, (lwN x j).1.length = x.length
  | 0 => rfl
  | j + 1 => by rw [lwN, List.length_set]; exact lwN_len x j
theorem lwN_c (x : Tx8) : ∀ j, (lwN x j).2 ≤ 1
  | 0 => Nat.zero_le _
  | j + 1 => by
    have ih := lwN_c x j
    have h1 := ((lwN x j).1.getD (32 + j) 0).isLt
    have h2 := (ORD.getD j 0).isLt
    show (((lwN x j).1.getD (32 + j) 0).toNat + (ORD.getD j 0).toNat + (lwN x j).2) / 256 ≤ 1
    omega
theorem loopLw (P : Tx8 → Tx8) (S : Tx8 → Tx8 → Tx8) (V : Tx8 → Tx8 → Tx8 → Bool) (b : Bool) (hE : EnvOk Tryd.prog (Elb P S V b)) (s m p x u : Tx8) (cap : Nat) (hx : x.length = 64) (hu : 64 ≤ u.length) : ∀ fr M K, vLoop GE 102 (iLw s m p x cap 0 0) (MLw u) (oLw s m p x cap) (MLw (lwN u 32).1) fr M K → Wp Tryd.prog GE GE (loopOf Tryd.prog 3 0) fr M K := by
  refine loop_next hE mixed (noL_ok _ _ _ _) (Nat.le_refl _) (by kernel_rfl) (fun j => iLw s m p x cap ((lwN u j).2 : Nat) j) (fun j => MLw (lwN u j).1) (fun j => j ≤ 32) (fun j => 32 - j) (fun j => j + 1) 0 (Nat.zero_le _) (fun j hj => of_eq (vrLw P S V b s m p x (lwN u j).1 (lwN u (j + 1)).1 (lwN u 32).1 cap j ((lwN u j).2 : Nat) ((lwN u (j + 1)).2 : Nat) _) ?_)
  have hlen := lwN_len u j
  have hc := lwN_c u j
  have hnext : lwN u (j + 1) = ((lwN u j).1.set (32 + j) (BitVec.ofNat 8 (((lwN u j).1.getD (32 + j) 0).toNat + (ORD.getD j 0).toNat + (lwN u j).2)), (((lwN u j).1.getD (32 + j) 0).toNat + (ORD.getD j 0).toNat + (lwN u j).2) / 256) := rfl
  have hfin : j = 32 → lwN u j = lwN u 32 := fun e => by rw [e]
  rw [hnext, show (32 + (j : Int)).toNat = 32 + j by omega]
  generalize lwN u 32 = z at hfin
  generalize lwN u j = y at hfin hlen hc
  have h1 := (y.1.getD (32 + j) 0).isLt
  have h2 := (ORD.getD j 0).isLt
  generalize y.1.getD (32 + j) 0 = a at *
  generalize ORD.getD j 0 = o at *
  cases hq : ilt (j : Int) 32
  · have hj2 : j = 32 := by rw [ilt_eq] at hq; have := of_decide_eq_false hq; omega
    exact ⟨rfl, rfl, rfl, rfl, rfl, rfl, ⟨rfl, rfl⟩, ⟨rfl, rfl⟩, ⟨rfl, rfl⟩, ⟨rfl, rfl⟩, ⟨rfl, rfl⟩, ⟨rfl, congrArg (fun z : Tx8 × Nat => Cont.a8 z.1) (hfin hj2)⟩, ⟨rfl, rfl⟩, trivial⟩
  · have hj2 : j < 32 := by rw [ilt_eq] at hq; have := of_decide_eq_true hq; omega
    have i1 : inI (32 + (j : Int)) = true := inI_iff.2 (by omega)
    have i2 : inR (32 + (j : Int)) x.length = true := inR_iff.2 ⟨by omega, by omega⟩
    have i3 : Nat.blt (32 + j) y.1.length = true := blt_of (by omega)
    have ev : ((a.toNat : Nat) : Int) + ((o.toNat : Nat) : Int) + ((y.2 : Nat) : Int) = ((a.toNat + o.toNat + y.2 : Nat) : Int) := by omega
    refine bif_of i1 (bif_of i2 (bif_of i3 (bif_of (inR_iff.2 ⟨by omega, by omega⟩) (bif_of (blt_of hj2) (bif_of (inI_iff.2 (by omega)) (bif_of (inI_iff.2 (by omega)) (bif_of i1 (bif_of i2 (bif_of i3 (bif_of (inI_iff.2 (by omega)) ⟨⟨by omega, by omega⟩, rfl, rfl, rfl, rfl, rfl, rfl, ?_, rfl, ⟨rfl, rfl⟩, ⟨rfl, rfl⟩, ⟨rfl, rfl⟩, ⟨rfl, rfl⟩, ⟨rfl, rfl⟩, ⟨rfl, ?_⟩, ⟨rfl, rfl⟩, trivial⟩))))))))))
    · refine congrArg SV.i ?_
      rw [ev]
      show ((a.toNat + o.toNat + y.2 : Nat) : Int).fdiv 256 = _
      rw [Int.fdiv_eq_ediv_of_nonneg _ (by omega)]
      omega
    · rw [ev, BitVec.ofInt_natCast]
def moreX (x : Tx8) : Tx8 := (lwN x 32).1
theorem more_def (x : Tx8) : moreX x = (lwN x 32).1 := by unfold moreX; exact Eq.refl _
theorem lw_app (x r : Tx8) (hx : x.length = 64) : ∀ j, j ≤ 32 → lwN (x ++ r) j = ((lwN x j).1 ++ r, (lwN x j).2)
  | 0, _ => rfl
  | j + 1, hj => by
    have ih := lw_app x r hx j (by omega)
    have hl := lwN_len x j
    rw [lwN, ih]
    dsimp only
    rw [get_app _ r (32 + j) (by omega), set_app _ r (32 + j) _ (by omega)]
    rfl
def ONE : Tx8 := 1 :: List.replicate 31 0
/-- What is asked of the functions for the law to answer true. -/
structure LwOk (P : Tx8 → Tx8) (S : Tx8 → Tx8 → Tx8) (V : Tx8 → Tx8 → Tx8 → Bool) : Prop where
  len : ∀ s m, (S s m).length = 64
  yes : ∀ s m, V (P s) m (S s m) = true
  more : ∀ s m, V (P s) m (moreX (S s m)) = false
  one : ∀ m, V ONE m (ONE ++ List.replicate 32 0) = false
theorem law_core (P : Tx8 → Tx8) (S : Tx8 → Tx8 → Tx8) (V : Tx8 → Tx8 → Tx8 → Bool) (hE : EnvOk Tryd.prog (Elb P S V true)) (s m : Tx8) (u z : Nat → Tx8) (Y : Tx8) (hlen : (S s m).length = 64) (hu : ∀ c, u c = S s m ++ List.replicate (c - 64) 0) (hz : ∀ c, z c = Y ++ List.replicate (c - 64) 0) (hY : Y.length = 64) (h1 : V (P s) m (S s m) = true) (h2 : V (P s) m Y = false) (h3 : V ONE m (ONE ++ List.replicate 32 0) = false) (hLoop : LOk Tryd.prog GE GE 3 (LLw s m (P s) (S s m) u z)) : Spec Tryd.prog GE 3 [.s s, .s m] GE (fun r _ => r = .b true) := by
  refine vf_ok hE mixed hLoop (of_eq (vaLw P S V true s m u z _) ?_)
  by_cases hs : s.length = 32
  · rw [nb_of hs, show Nat.beq s.length 32 = true by rw [hs]; rfl]
    cases hm : ilt 1024 (m.length : Int)
    · have hm2 : m.length ≤ 1024 := by rw [ilt_eq] at hm; have := of_decide_eq_false hm; omega
      have hm3 : Nat.ble m.length 1000000 = true := Nat.ble_eq_true_of_le (by omega)
      rw [hm3, show (((S s m).length : Int) != 64) = false by rw [hlen]; rfl, h1]
      intro cap x hc hx
      refine ⟨rfl, rfl, rfl, rfl, rfl, rfl, rfl, rfl, rfl, ⟨rfl, rfl⟩, ⟨rfl, rfl⟩, ⟨rfl, rfl⟩, ⟨rfl, rfl⟩, ⟨rfl, rfl⟩, ⟨rfl, ?_⟩, ⟨rfl, rfl⟩, ?_⟩
      · rw [hx, hlen, hu]
      · have hd : decide (0 + 64 ≤ (Y ++ List.replicate (cap - 64) 0).length) = true := decide_eq_true (by rw [List.length_append, hY]; omega)
        rw [hz cap, hlen, hd, List.drop_zero, List.take_left' hY, h2]
        show (bif (!V ONE m (ONE ++ List.replicate 32 0)) then SV.b true = SV.b true else SV.b false = SV.b true : Prop)
        rw [h3]
        rfl
    · rfl
  · rw [show ((s.length : Int) != 32) = true from bne_iff_ne.2 (by omega)]
    rfl
theorem law_gen (P : Tx8 → Tx8) (S : Tx8 → Tx8 → Tx8) (V : Tx8 → Tx8 → Tx8 → Bool) (hL : LwOk P S V) (hE : EnvOk Tryd.prog (Elb P S V true)) (s m : Tx8) : Spec Tryd.prog GE 3 [.s s, .s m] GE (fun r _ => r = .b true) := by
  have hlen := hL.len s m
  refine law_core P S V hE s m (fun c => S s m ++ List.replicate (c - 64) 0) (fun c => (lwN (S s m ++ List.replicate (c - 64) 0) 32).1) (moreX (S s m)) hlen (fun c => rfl) (fun c => ?_) ?_ (hL.yes s m) (hL.more s m) (hL.one m) ?_
  · rw [lw_app (S s m) (List.replicate (c - 64) 0) hlen 32 (Nat.le_refl _), more_def]
  · rw [more_def, lwN_len, hlen]
  · refine LT.add_ok (noL_ok _ _ _ _) fun fr M K h => ?_
    obtain ⟨v, h⟩ := slotK_ok _ _ h
    obtain ⟨c, h⟩ := capK_ok h
    exact loopLw P S V true hE s m (P s) (S s m) _ c hlen (by rw [List.length_append]; omega) fr M K h
end Go.Proofs.YtdfghknonbmadaaDoor
namespace Go.Proofs.YtdfghknonbmadaaDoor
open Go.RowKit Mt
set_option linter.unusedVariables false
set_option linter.unusedSimpArgs false
set_option maxRecDepth 100000

theorem get_drop (l : Tx8) (k : Nat) : (List.drop 32 l).getD k 0 = l.getD (32 + k) 0 := by
  rw [List.getD_eq_getElem?_getD, List.getElem?_drop, ← List.getD_eq_getElem?_getD]
theorem le_ext (l m : Tx8) : ∀ n, (∀ k, k < n → l.getD k 0 = m.getD k 0) → le l n = le m n
  | 0, _ => rfl
  | n + 1, h => by
    rw [le, le, le_ext l m n (fun k hk => h k (by omega)), h n (by omega)]
theorem le_succ (l : Tx8) (n : Nat) : le l (n + 1) = le l n + (l.getD n 0).toNat * 256 ^ n := rfl
theorem more_step (x : Tx8) (hx : x.length = 64) : ∀ j, j ≤ 32 → le (List.drop 32 (lwN x j).1) j + (lwN x j).2 * 256 ^ j = le (List.drop 32 x) j + le ORD j ∧ ∀ k, j ≤ k → (lwN x j).1.getD (32 + k) 0 = x.getD (32 + k) 0 := by
  intro j
  induction j with
  | zero =>
    intro _
    refine ⟨?_, fun k _ => rfl⟩
    show 0 + 0 * _ = 0 + 0
    rw [Nat.zero_mul]
  | succ j ih =>
    intro hj
    obtain ⟨h1, h2⟩ := ih (by omega)
    have hlen := lwN_len x j
    have hn : lwN x (j + 1) = ((lwN x j).1.set (32 + j) (BitVec.ofNat 8 (((lwN x j).1.getD (32 + j) 0).toNat + (ORD.getD j 0).toNat + (lwN x j).2)), (((lwN x j).1.getD (32 + j) 0).toNat + (ORD.getD j 0).toNat + (lwN x j).2) / 256) := rfl
    rw [hn]
    have h3 := h2 j (Nat.le_refl _)
    generalize lwN x j = y at *
    dsimp only
    rw [h3]
    refine ⟨?_, fun k hk => ?_⟩
    · rw [le_succ, le_succ, le_succ]
      have e1 : le (List.drop 32 (y.1.set (32 + j) (BitVec.ofNat 8 ((x.getD (32 + j) 0).toNat + (ORD.getD j 0).toNat + y.2)))) j = le (List.drop 32 y.1) j := le_ext _ _ j fun k hk => by rw [get_drop, get_drop, get_set_ne _ _ _ _ (by omega)]
      have e2 : ((List.drop 32 (y.1.set (32 + j) (BitVec.ofNat 8 ((x.getD (32 + j) 0).toNat + (ORD.getD j 0).toNat + y.2)))).getD j 0).toNat = ((x.getD (32 + j) 0).toNat + (ORD.getD j 0).toNat + y.2) % 256 := by
        rw [get_drop, get_set _ _ _ (by omega), BitVec.toNat_ofNat]
      rw [e1, e2, get_drop, Nat.pow_succ]
      generalize (x.getD (32 + j) 0).toNat = a at *
      generalize (ORD.getD j 0).toNat = o at *
      have hs : (a + o + y.2) % 256 + 256 * ((a + o + y.2) / 256) = a + o + y.2 := Nat.mod_add_div _ _
      have e3 : (a + o + y.2) % 256 * 256 ^ j + (a + o + y.2) / 256 * (256 ^ j * 256) = a * 256 ^ j + o * 256 ^ j + y.2 * 256 ^ j := by
        rw [← Nat.add_mul, ← Nat.add_mul, Nat.mul_comm (256 ^ j), ← Nat.mul_assoc, Nat.mul_comm _ 256, ← Nat.add_mul, hs]
      generalize (a + o + y.2) % 256 * 256 ^ j = t1 at *
      generalize (a + o + y.2) / 256 * (256 ^ j * 256) = t2 at *
      generalize a * 256 ^ j = t3 at *
      generalize o * 256 ^ j = t4 at *
      generalize y.2 * 256 ^ j = t5 at *
      omega
    · rw [get_set_ne _ _ _ _ (by omega)]
      exact h2 k (by omega)
theorem ORD_le : le ORD 32 = Lq := by rw [Lq_val]; decide +kernel
theorem more_no {n A c M N : Nat} (h : A + c * M = n + N) (hn : n < N) (hM : N + N ≤ M) : ¬ A < N := by
  intro hA
  cases c with
  | zero => omega
  | succ c =>
    have : M ≤ (c + 1) * M := Nat.le_mul_of_pos_left _ (by omega)
    omega
theorem le_same (l : Tx8) (n : Nat) (h : le l 32 = n) : le l 32 = n := h
/-- What is canonical is not so any more when the order is added. -/
theorem more_ca (x : Tx8) (hx : x.length = 64) (hn : le (List.drop 32 x) 32 < Lq) : caX (List.drop 32 (moreX x)) = false := by
  have h := (more_step x hx 32 (Nat.le_refl _)).1
  rw [ORD_le] at h
  have hM : Lq + Lq ≤ 256 ^ 32 := by rw [Lq_val]; decide
  have e := ca_le (List.drop 32 (moreX x))
  rw [more_def] at e ⊢
  rw [decide_eq_false (more_no h hn hM), Bool.and_false] at e
  exact e
theorem ve_no (C : Tx8 → Bool) (P : Tx8 → W6) (E : Tx8 → Int) (N : W6 → Bool) (D' : W6 → W6) (K : Tx8 → W6) (W : W6 → Bool) (F : TL → W6) (T : W6 → W6) (B : W6 → W6 → W6 → W6) (A : W6 → W6 → W6) (S : W6 → W6 → Bool) (p m s : Tx8) (h : C (List.drop 32 s) = false ∨ W (p16 (P p)) = true ∨ s.length ≠ 64) : veF ⟨C, P, E, N, D', K, W, F, T, B, A, S⟩ p m s = false := by
  unfold veF
  dsimp only
  rcases h with h | h | h
  · rw [h, Bool.false_and, Bool.and_false]
  · rw [h, Bool.not_true, Bool.false_and, Bool.and_false, Bool.and_false, Bool.and_false]
  · rw [beqF h, Bool.false_and]
theorem one_ec : ec Ed.zero = ONE := by decide +kernel
theorem one_weak : wkX (p16 (dePX ONE)) = true := by
  have h := (decode_ec Ed.zero_on).2
  rw [one_ec] at h
  rw [h]
  exact (weak_is (at_is Ed.zero_on)).2 (nm_zero 8)
section
variable (D : TL → Tx8) (hD : ∀ l, (D l).length = 64)
theorem lw_ok (D : TL → Tx8) (hD : ∀ l, (D l).length = 64) : LwOk (pbX D) (sgX D) (veF (vX D)) where
  len := sg_len D hD
  yes := verify_true D hD
  more := fun s m => ve_no caX dePX deEX noX dbP ofX wkX (nuF D ofX) tiX btX adP' smP _ m _ (.inl (more_ca _ (sg_len D hD s m) (by
    have hS : nS D s m < Lq := mod_lt' _
    rw [sg_drop D hD, le_enc (Lq_lt4 hS)]
    exact hS)))
  one := fun m => ve_no caX dePX deEX noX dbP ofX wkX (nuF D ofX) tiX btX adP' smP _ m _ (.inr (.inl one_weak))
end
end Go.Proofs.YtdfghknonbmadaaDoor
namespace Go.Proofs.YtdfghknonbmadaaDoor
open Go.RowKit Mt
set_option linter.unusedVariables false
set_option linter.unusedSimpArgs false
set_option maxRecDepth 100000

theorem nm_cancel {x d : Nat} (h : Ed.nm (x + d) Bp = Ed.nm x Bp) : Lq ∣ d := by
  apply nm_dvd
  have hx := Ed.nm_on Bp_on x
  have hd := Ed.nm_on Bp_on d
  rw [Ed.nm_add Bp_on] at h
  have h2 : Ed.add (Ed.neg (Ed.nm x Bp)) (Ed.add (Ed.nm x Bp) (Ed.nm d Bp)) = Ed.add (Ed.neg (Ed.nm x Bp)) (Ed.nm x Bp) := by rw [h]
  rw [← Ed.add_assoc (Ed.neg_on hx) hx hd, Ed.neg_add hx, Ed.zero_add hd] at h2
  exact h2
theorem k_same {k k' a r : Nat} (hk : k < Lq) (hk' : k' < Lq) (ha : ¬ Lq ∣ a) (h : Ed.nm (k * a + r) Bp = Ed.nm (k' * a + r) Bp) : k = k' := by
  have key : ∀ x y, x < Lq → y < Lq → x ≤ y → Ed.nm (y * a + r) Bp = Ed.nm (x * a + r) Bp → x = y := fun x y hx hy hxy h => by
    have e : y * a + r = (x * a + r) + (y - x) * a := by
      have : y * a = x * a + (y - x) * a := by rw [← Nat.add_mul, Nat.add_sub_cancel' hxy]
      omega
    rw [e] at h
    rcases prL.or (nm_cancel h) with h1 | h1
    · have := Nat.eq_zero_of_dvd_of_lt h1 (by omega)
      omega
    · exact absurd h1 ha
  rcases Nat.le_total k k' with h1 | h1
  · exact key k k' hk hk' h1 h.symm
  · exact (key k' k hk' hk h1 h).symm
theorem ve_last {C : Tx8 → Bool} {P : Tx8 → W6} {E : Tx8 → Int} {N : W6 → Bool} {D' : W6 → W6} {K : Tx8 → W6} {W : W6 → Bool} {F : TL → W6} {T : W6 → W6} {B : W6 → W6 → W6 → W6} {A : W6 → W6 → W6} {S : W6 → W6 → Bool} {p m s r1 s1 : Tx8} {a' b' : W6} (ht : List.take 32 s = r1) (hd : List.drop 32 s = s1) (e1 : p16 (T (w4 (K s1))) = a') (e2 : p16 (A (p16 (P r1)) (p16 (B (p16 (P p)) (w4 (F [r1, p, m])) [0, 0, 0, 0]))) = b') (h : veF ⟨C, P, E, N, D', K, W, F, T, B, A, S⟩ p m s = true) : S a' b' = true := by
  unfold veF at h
  dsimp only at h
  rw [ht, hd, e1, e2] at h
  simp only [Bool.and_eq_true] at h
  exact h.2.2.2.2.2
section
variable (D : TL → Tx8) (hD : ∀ l, (D l).length = 64)
/-- By another text it is verified only where its number is the same. -/
theorem other (D : TL → Tx8) (hD : ∀ l, (D l).length = 64) (s m m' : Tx8) (h : veF (vX D) (pbX D s) m' (sgX D s m) = true) : nK D s m = le (D [ec (Ed.nm (nR D s m) Bp), ec (Ed.nm (nA D s) Bp), m']) 64 % Lq := by
  have hA := Ed.nm_on Bp_on (nA D s)
  have hR := Ed.nm_on Bp_on (nR D s m)
  obtain ⟨d1, d2⟩ := decode_ec hA
  obtain ⟨d3, d4⟩ := decode_ec hR
  have iA := at_is hA
  have iR := at_is hR
  have hS : nS D s m < Lq := mod_lt' _
  have hK : le (D [ec (Ed.nm (nR D s m) Bp), ec (Ed.nm (nA D s) Bp), m']) 64 % Lq < Lq := mod_lt' _
  obtain ⟨t, ht1, ht2⟩ := times_pe hS
  obtain ⟨b, hb1, hb2⟩ := mul_pe iA hK
  obtain ⟨ha1, ha2⟩ := add_pe iR hb1
  rw [pb_ec D hD] at h
  have e1 : p16 (tiX (w4 (ofX (wrX (enc (nS D s m)))))) = pe t := by rw [of_wr hS]; exact ht2
  have e2 : p16 (adP' (p16 (dePX (ec (Ed.nm (nR D s m) Bp)))) (p16 (btX (p16 (dePX (ec (Ed.nm (nA D s) Bp)))) (w4 (nuF D ofX [ec (Ed.nm (nR D s m) Bp), ec (Ed.nm (nA D s) Bp), m'])) [0, 0, 0, 0]))) = pe (pls (atp (Ed.nm (nR D s m) Bp).x.val (Ed.nm (nR D s m) Bp).y.val) (rdy b)) := by
    rw [d4, d2, nu_enc D hD, hb2]
    exact ha2
  have hs := (sm_true ht1 ha1).1 (ve_last (C := caX) (P := dePX) (E := deEX) (N := noX) (D' := dbP) (K := ofX) (W := wkX) (F := nuF D ofX) (T := tiX) (B := btX) (A := adP') (S := smP) (sg_take D hD s m) (sg_drop D hD s m) e1 e2 h)
  refine k_same (mod_lt' _) hK (nA_nd D hD s) (r := nR D s m) ?_
  have e3 : Ed.nm (nS D s m) Bp = Ed.nm (nK D s m * nA D s + nR D s m) Bp := nm_mod _
  rw [← e3, hs, Ed.nm_add Bp_on, Ed.nm_mul Bp_on]
  exact Ed.add_comm _ _
end
/-- A multiple's bytes, to be reckoned. -/
def ptB (n : Nat) : Tx8 :=
  let q := bt4 zq 0 n
  let i := Nt.pm 57896044618658097711785492504343953926634992332820282019728792003956564819949 256 q.z 57896044618658097711785492504343953926634992332820282019728792003956564819947
  let x := q.x * i % 57896044618658097711785492504343953926634992332820282019728792003956564819949
  let y := q.y * i % 57896044618658097711785492504343953926634992332820282019728792003956564819949
  bif decide (x % 2 = 1) then (wrX (enc y)).set 31 ((wrX (enc y)).getD 31 0 ||| BitVec.ofInt 8 128) else wrX (enc y)
theorem pm_lit (z : Nat) : Nt.pm Nt.P 256 z (Nt.P - 2) = Nt.pm 57896044618658097711785492504343953926634992332820282019728792003956564819949 256 z 57896044618658097711785492504343953926634992332820282019728792003956564819947 := by rw [Nt.P_val]
theorem iv_pm (z : Nat) : iv z = Nt.pm 57896044618658097711785492504343953926634992332820282019728792003956564819949 256 z 57896044618658097711785492504343953926634992332820282019728792003956564819947 := (Nt.pm_eq Nt.P 256 z (Nt.P - 2) (by rw [Nt.P_val]; decide +kernel)).symm.trans (pm_lit z)
theorem ec_ptB {n : Nat} (hn : n < Lq) : ec (Ed.nm n Bp) = ptB n := by
  have h := bt4_is zq_is (a := 0) (b := n) (by decide) (L_253 hn)
  have e : Ed.add (Ed.nm 0 Ed.zero) (Ed.nm n Bp) = Ed.nm n Bp := Ed.zero_add (Ed.nm_on Bp_on n)
  rw [e] at h
  have hx := h.vx
  have hy := h.vy
  unfold mq at hx hy
  rw [iv_pm, Nt.P_val] at hx hy
  unfold ec ptB
  rw [← hx, ← hy]
/-- The example's digests and points. -/
def xH : Tx8 := [80, 70, 173, 193, 219, 168, 56, 134, 123, 43, 187, 253, 208, 195, 66, 62, 88, 181, 121, 112, 181, 38, 122, 144, 245, 121, 96, 146, 74, 135, 241, 150, 10, 106, 133, 234, 166, 66, 218, 200, 53, 66, 75, 93, 124, 141, 99, 124, 0, 64, 140, 122, 115, 218, 103, 43, 127, 73, 133, 33, 66, 11, 109, 211]
def xR0 : Tx8 := [136, 212, 239, 1, 55, 2, 143, 221, 51, 206, 240, 34, 101, 155, 231, 59, 191, 238, 181, 47, 217, 174, 208, 148, 63, 253, 36, 54, 129, 195, 103, 178, 190, 105, 20, 106, 200, 118, 38, 130, 254, 42, 66, 142, 252, 122, 84, 120, 50, 70, 148, 159, 38, 15, 11, 119, 183, 49, 240, 131, 50, 139, 200, 162]
def xPA : Tx8 := [59, 106, 39, 188, 206, 182, 164, 45, 98, 163, 168, 208, 42, 111, 13, 115, 101, 50, 21, 119, 29, 226, 67, 166, 58, 192, 72, 161, 139, 89, 218, 41]
def xPR : Tx8 := [14, 186, 195, 4, 107, 49, 207, 22, 124, 98, 116, 156, 217, 148, 29, 121, 29, 24, 142, 196, 46, 189, 59, 57, 131, 192, 14, 94, 171, 221, 154, 200]
def xK1 : Tx8 := [63, 59, 253, 9, 138, 202, 246, 110, 83, 165, 71, 48, 208, 53, 108, 72, 89, 6, 45, 72, 224, 148, 197, 236, 216, 234, 103, 0, 118, 240, 190, 95, 150, 220, 120, 47, 133, 53, 225, 127, 140, 157, 89, 224, 86, 61, 29, 112, 147, 82, 80, 112, 242, 195, 32, 191, 159, 212, 100, 184, 107, 23, 103, 247]
def xK2 : Tx8 := [148, 4, 219, 77, 200, 103, 108, 182, 124, 115, 232, 94, 25, 175, 203, 209, 147, 197, 221, 114, 12, 242, 15, 70, 183, 94, 143, 18, 63, 150, 208, 251, 78, 131, 101, 207, 93, 57, 152, 47, 177, 15, 110, 55, 47, 219, 151, 248, 126, 202, 211, 219, 247, 91, 233, 26, 235, 171, 47, 175, 162, 179, 207, 214]
theorem dig0 : dgX [K32] = xH := by decide +kernel
theorem dig1 : dgX [List.drop 32 xH, TEXT] = xR0 := by decide +kernel
theorem dig2 : dgX [xPR, xPA, TEXT] = xK1 := by decide +kernel
theorem dig3 : dgX [xPR, xPA, TEXX] = xK2 := by decide +kernel
theorem num_a : le (clX (List.take 32 xH)) 32 % Lq = 3140620980319341722849076354004524857726602937622481303882784251885505225391 := by rw [Lq_val]; decide +kernel
theorem num_r : le xR0 64 % Lq = 850196773666356309422339814893910971881761216279783485008188274366385375558 := by rw [Lq_val]; decide +kernel
theorem num_k : le xK1 64 % Lq = 3051700886902431880199312561605616305919771856675659439704689325507489791389 := by rw [Lq_val]; decide +kernel
theorem num_k2 : le xK2 64 % Lq = 6926124309909794583650894854177328360763410026704415995850608499506585452493 := by rw [Lq_val]; decide +kernel
theorem pt_a : ptB 3140620980319341722849076354004524857726602937622481303882784251885505225391 = xPA := by decide +kernel
theorem pt_r : ptB 850196773666356309422339814893910971881761216279783485008188274366385375558 = xPR := by decide +kernel
theorem alive_gen (D : TL → Tx8) (hD : ∀ l, (D l).length = 64) (h0 : D [K32] = xH) (h1 : D [List.drop 32 xH, TEXT] = xR0) (h2 : D [xPR, xPA, TEXT] = xK1) (h3 : D [xPR, xPA, TEXX] = xK2) : veF (vX D) (pbX D K32) TEXX (sgX D K32 TEXT) = false := by
  have nA_x : nA D K32 = 3140620980319341722849076354004524857726602937622481303882784251885505225391 := by
    unfold nA
    rw [h0, num_a]
  have nR_x : nR D K32 TEXT = 850196773666356309422339814893910971881761216279783485008188274366385375558 := by
    unfold nR opP
    rw [h0, h1, num_r]
  apply Bool.eq_false_iff.2
  intro h
  have e := other D hD K32 TEXT TEXX h
  unfold nK at e
  rw [ec_ptB (n := nR D K32 TEXT) (mod_lt' _), ec_ptB (n := nA D K32) (mod_lt' _), nA_x, nR_x, pt_a, pt_r, h2, h3, num_k, num_k2] at e
  exact absurd e (by decide)
/-- What is asked of the digest. -/
structure DgOk (D : TL → Tx8) : Prop where
  len : ∀ l, (D l).length = 64
  h0 : D [K32] = xH
  h1 : D [List.drop 32 xH, TEXT] = xR0
  h2 : D [xPR, xPA, TEXT] = xK1
  h3 : D [xPR, xPA, TEXX] = xK2
theorem dg_ok : DgOk dgX := ⟨dg_len, dig0, dig1, dig2, dig3⟩
section
variable (D : TL → Tx8) (hd : DgOk D) (hO : POk Tryd.prog GE 21 (Sh.cOf D))
theorem eal_ok (D : TL → Tx8) (hd : DgOk D) (hO : POk Tryd.prog GE 21 (Sh.cOf D)) : EnvOk Tryd.prog (Eal (pbX D) (sgX D) (veF (vX D))) := ⟨PT.add_ok (PT.add_ok (PT.add_ok (PT.add_ok (noT_ok _ _) (pb2_of (public_ok D hd.len hO))) (sg3_of (sign_ok D hd.len hO))) (verify_ok D hd.len hO)) (flag_ok _), noC_ok _ _⟩
theorem alive_ok (D : TL → Tx8) (hd : DgOk D) (hO : POk Tryd.prog GE 21 (Sh.cOf D)) : POk Tryd.prog GE 4 (cAlv true) := by
  intro args acs r hh β M w hR hw ha
  unfold cAlv at hh
  split at hh
  · simp only [Option.some.injEq, Prod.mk.injEq, true_and] at hh
    subst hh
    refine pokE (E := Eal (pbX D) (sgX D) (veF (vX D))) rfl (eal_ok D hd hO) (alive_e (pbX D) (sgX D) (veF (vX D)) fun r => r = .b true) ?_ rfl rfl hR
    have l1 : (pbX D K32).length = 32 := by rw [pb_ec D hd.len]; exact ec_len _
    have l2 := sg_len D hd.len K32 TEXT
    have l3 : veF (vX D) (pbX D K32) TEXT (List.take 63 (sgX D K32 TEXT)) = false := ve_no caX dePX deEX noX dbP ofX wkX (nuF D ofX) tiX btX adP' smP _ _ _ (.inr (.inr (by rw [List.length_take, l2]; decide)))
    rw [l1, l2, verify_true D hd.len, alive_gen D hd.len hd.h0 hd.h1 hd.h2 hd.h3, l3]
    rfl
  · cases hh
theorem elb_ok (D : TL → Tx8) (hd : DgOk D) (hO : POk Tryd.prog GE 21 (Sh.cOf D)) : EnvOk Tryd.prog (Elb (pbX D) (sgX D) (veF (vX D)) true) := ⟨PT.add_ok (PT.add_ok (PT.add_ok (PT.add_ok (PT.add_ok (PT.add_ok (noT_ok _ _) (pb2_of (public_ok D hd.len hO))) (sg2_of (sign_ok D hd.len hO))) (verify_ok D hd.len hO)) order_ok) (alive_ok D hd hO)) (flag_ok _), noC_ok _ _⟩
theorem strict_gen (D : TL → Tx8) (hd : DgOk D) (hO : POk Tryd.prog GE 21 (Sh.cOf D)) (s m : Tx8) : Spec Tryd.prog GE 3 [.s s, .s m] GE (fun r _ => r = .b true) := law_gen (pbX D) (sgX D) (veF (vX D)) (lw_ok D hd.len) (elb_ok D hd hO) s m
end
/-- The law answers true. -/
theorem strict_ok (s m : Tx8) : Spec Tryd.prog GE 3 [.s s, .s m] GE (fun r _ => r = .b true) := strict_gen dgX dg_ok Sh.of_ok s m
end Go.Proofs.YtdfghknonbmadaaDoor
namespace Go.Proofs.YtdfghknonbmadaaDoor
open Go.RowKit
set_option linter.unusedVariables false
set_option linter.unusedSimpArgs false
set_option maxRecDepth 100000

theorem Fp.below {w w' : World} (h : Fp0 w w') : Below w.heap.size w w' := ⟨h.os, h.tape, h.output, h.size, fun k hk => h.block k hk id⟩
theorem spec_calls {P : Program} {G M : Mm} {f : Nat} {fn : Func} {c : Code} {args : List SV} {r0 : SV} {β : Nat → Nat} {w : World} (hf : P.funcs[f]? = some fn) (hb : fn.body = some c) (hn : (fn.name == "runtime.NumGoroutine") = false) (hS : Spec P G f args M (fun r _ => r = r0)) (hR : Rel G β M w) (ha : SV.wf.wfs M.length args = true) (hro : ∀ (k : Nat) (e : Ent), M[k]? = some e → e.rw = false) (hr : r0.wf M.length = true) : Calls P f (vals β args).toArray w (fun e w' => e = .returned (val β r0) ∧ Fp0 w w') := by
  rcases hS β w hR ha with ⟨v, W', h2, -⟩ | ⟨-, h⟩
  · rw [enter_run hf hb hn] at h2; cases h2
  · refine h.mono fun e W' hh => ?_
    obtain ⟨v, rfl, β', M', r, hE, hR', ⟨hw, rfl⟩, rfl⟩ := hh
    refine ⟨by rw [val_agree hE.agree r hr], hE.fp.mono fun k _ hk => ?_⟩
    obtain ⟨j, e, he, hr, -⟩ := hk
    rw [hro j e he] at hr; cases hr
theorem g_ro : ∀ (k : Nat) (e : Ent), GE[k]? = some e → e.rw = false := fun k e he => by
  match k, he with
  | 0, he => obtain rfl := Option.some.inj he; rfl
  | 1, he => obtain rfl := Option.some.inj he; rfl
  | 2, he => obtain rfl := Option.some.inj he; rfl
  | 3, he => obtain rfl := Option.some.inj he; rfl
  | 4, he => obtain rfl := Option.some.inj he; rfl
  | k + 5, he => cases he
theorem calls3 (s m : ByteArray) {W : World} (hR : Rel GE (fun k => k) GE W) : Calls Tryd.prog 3 #[.string s, .string m] W (fun e W' => e = .returned (.bool true) ∧ Fp0 W W') := by
  have := spec_calls (f := 3) (fn := Tryd.f3) Tryd.func3 rfl (by kernel_rfl) (strict_ok (bts s) (bts m)) hR rfl g_ro rfl
  have e : (vals (fun k => k) [SV.s (bts s), SV.s (bts m)]).toArray = #[Value.string s, Value.string m] := by simp [vals, val, txt_bts]
  rw [e] at this
  exact this
end Go.Proofs.YtdfghknonbmadaaDoor
