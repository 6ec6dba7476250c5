/-
  edw: multiples, as points; order: products, as numbers. No statement is proved here.
-/
import Derived.Test.YtdfghknonbmadaaDoorMaH
import Derived.Test.YtdfghknonbmadaaDoorShG
namespace Go.Proofs.YtdfghknonbmadaaDoor
namespace Mt
set_option linter.unusedVariables false
set_option linter.unusedSimpArgs false
set_option maxRecDepth 100000

theorem kn_V (l : Tx8) : V (knX l) = le l 32 % Nt.P := by
  unfold knX
  rw [fold_X _ _ (by decide), V_w4, rd_V, z6_n, Nat.mul_zero, Nat.add_zero, P_is]
theorem kn_enc (l : Tx8) : w4 (knX l) = enc (le l 32 % Nt.P) := eq_enc (kn_V l)
theorem kn_d : w4 (knX curD) = enc dN := by
  rw [kn_enc, Nt.P_val]
  decide +kernel
theorem kn_bx : w4 (knX bXs) = enc Bp.x.val := by
  rw [kn_enc, Nt.P_val]
  decide +kernel
theorem kn_by : w4 (knX bYs) = enc Bp.y.val := by
  rw [kn_enc, Nt.P_val]
  decide +kernel
theorem ze_pe : zeP = pe zq := by
  show p16 (atF tmX zX (w4 (zX 0)) (w4 (zX 1))) = _
  rw [encZ0, encZ1]
  exact at_pe zero_lt one_lt
theorem ba_pe : baP = pe bq := by
  show p16 (atF tmX zX (w4 (knX bXs)) (w4 (knX bYs))) = _
  rw [kn_bx, kn_by]
  exact at_pe (Ed.val_lt _) (Ed.val_lt _)
theorem rd_pe {q : Pq} (h : Sm q) : p16 (rdP (pe q)) = pe (rdy q) := ready_pe knX kn_d h
theorem bit_wr (n i : Nat) (hn : n < 115792089237316195423570985008687907853269984665640564039457584007913129639936) (hi : i < 256) : (bitX (wrX (enc n)) i).toNat = n / 2 ^ i % 2 := by
  unfold bitX
  rw [BitVec.toNat_and, show (BitVec.ofInt 8 1).toNat = 2 ^ 1 - 1 from rfl, Nat.and_two_pow_sub_one_eq_mod, BitVec.toNat_ushiftRight, Nat.shiftRight_eq_div_pow, wr_get _ _ (by omega), V_enc hn]
  have h1 : ∀ a r : Nat, r < 8 → a % 256 / 2 ^ r % 2 = a / 2 ^ r % 2 := fun a r hr => by
    match r, hr with
    | 0, _ => omega
    | 1, _ => omega
    | 2, _ => omega
    | 3, _ => omega
    | 4, _ => omega
    | 5, _ => omega
    | 6, _ => omega
    | 7, _ => omega
  rw [show (2 : Nat) ^ 1 = 2 from rfl, h1 _ _ (by omega), Nat.div_div_eq_div_mul]
  have h2 : 256 ^ (i / 8) * 2 ^ (i % 8) = 2 ^ i := by
    rw [show (256 : Nat) = 2 ^ 8 from rfl, ← Nat.pow_mul, ← Nat.pow_add]
    congr 1
    omega
  rw [h2]
theorem pe_len (q : Pq) : (pe q).length = 16 := rfl
theorem take_four (a b c d : W6) (ha : a.length = 16) (hb : b.length = 16) (hc : c.length = 16) (hd : d.length = 16) (i : Nat) (hi : i < 4) : List.take 16 (List.drop (i * 16) (a ++ (b ++ (c ++ (d ++ []))))) = if i = 0 then a else if i = 1 then b else if i = 2 then c else d := by
  match i, hi with
  | 0, _ => rw [if_pos rfl, Nat.zero_mul, List.drop_zero, List.take_left' ha]
  | 1, _ => rw [if_neg (by decide), if_pos rfl, show 1 * 16 = a.length by omega, List.drop_left' rfl, List.take_left' hb]
  | 2, _ => rw [if_neg (by decide), if_neg (by decide), if_pos rfl, show 2 * 16 = a.length + b.length by omega, ← List.drop_drop, List.drop_left' rfl, List.drop_left' rfl, List.take_left' hc]
  | 3, _ => rw [if_neg (by decide), if_neg (by decide), if_neg (by decide), show 3 * 16 = a.length + (b.length + c.length) by omega, ← List.drop_drop, List.drop_left' rfl, ← List.drop_drop, List.drop_left' rfl, List.drop_left' rfl, List.append_nil, List.take_of_length_le (by omega)]
theorem four_pe {q : Pq} {p : Ed.Pt} (h : Is q p) : fourF (atX (w4 (zX 0)) (w4 (zX 1))) rdP adP' (pe q) baP = pe (rdy zq) ++ (pe (rdy q) ++ (pe (rdy bq) ++ (pe (rdy (pls q (rdy bq))) ++ []))) := by
  unfold fourF
  have e1 : p16 (atX (w4 (zX 0)) (w4 (zX 1))) = pe zq := ze_pe
  have e2 : p16 baP = pe bq := by rw [ba_pe, p16_pe]
  have e3 : p16 (adP' (p16 (pe q)) (p16 baP)) = pe (pls q (rdy bq)) := by
    rw [p16_pe, e2]
    show p16 (plP (pe q) (p16 (rdP (pe bq)))) = _
    rw [rd_pe bq_is.sm]
    exact plus_pe h.sm (rdy_sm bq_is.sm)
  rw [e1, e3, e2, p16_pe, rd_pe zq_is.sm, rd_pe h.sm, rd_pe bq_is.sm, rd_pe (h.pls bq_is).sm]
theorem four_at {q : Pq} {p : Ed.Pt} (h : Is q p) {i : Nat} (hi : i < 4) : List.take 16 (List.drop (i * 16) (fourF (atX (w4 (zX 0)) (w4 (zX 1))) rdP adP' (pe q) baP)) = pe (rdy (r4 q i)) := by
  rw [four_pe h, take_four _ _ _ _ rfl rfl rfl rfl i hi]
  unfold r4
  match i, hi with
  | 0, _ => rfl
  | 1, _ => rfl
  | 2, _ => rfl
  | 3, _ => rfl
theorem bt_pe {q : Pq} {p : Ed.Pt} (h : Is q p) {a b : Nat} (ha : a < 2 ^ 253) (hb : b < 2 ^ 253) (f : W6) (hf : ∀ i, i < 4 → List.take 16 (List.drop (i * 16) f) = pe (rdy (r4 q i))) (z : W6) (hz : p16 z = pe zq) : ∀ j, j ≤ 253 → p16 (btN dbP plP bitX f (wrX (enc a)) (wrX (enc b)) z j) = pe (st4 q (fun k => a / 2 ^ (252 - k) % 2) (fun k => b / 2 ^ (252 - k) % 2) j)
  | 0, _ => hz
  | j + 1, hj => by
    have ih := bt_pe h ha hb f hf z hz j (by omega)
    have hs := st4_is h a b ha hb j (by omega)
    have hp : (2 : Nat) ^ 253 ≤ 115792089237316195423570985008687907853269984665640564039457584007913129639936 := by decide
    have hix : ixB bitX (wrX (enc a)) (wrX (enc b)) j = 2 * (b / 2 ^ (252 - j) % 2) + a / 2 ^ (252 - j) % 2 := by
      unfold ixB
      rw [bit2 (bitX_le _ _) (bitX_le _ _), bit_wr b _ (by omega) (by omega), bit_wr a _ (by omega) (by omega)]
    have hi : 2 * (b / 2 ^ (252 - j) % 2) + a / 2 ^ (252 - j) % 2 < 4 := by
      have := Nat.mod_lt (b / 2 ^ (252 - j)) (show 0 < 2 by decide)
      have := Nat.mod_lt (a / 2 ^ (252 - j)) (show 0 < 2 by decide)
      omega
    show p16 (plP (p16 (dbP (p16 (btN dbP plP bitX f (wrX (enc a)) (wrX (enc b)) z j)))) (List.take 16 (List.drop (ixB bitX (wrX (enc a)) (wrX (enc b)) j * 16) f))) = _
    rw [ih, hix, hf _ hi, double_pe hs.sm, plus_pe hs.dbl.sm ⟨ad_lt _ _, sb_lt _ _, ad_lt _ _, ml_lt _ _⟩]
    rfl
/-- Both, in words: a times the point and b times the base point. -/
theorem both_pe {q : Pq} {p : Ed.Pt} (h : Is q p) {a b : Nat} (ha : a < 2 ^ 253) (hb : b < 2 ^ 253) : p16 (btF (atX (w4 (knX bXs)) (w4 (knX bYs))) wrX boX (pe q) (enc a) (enc b)) = pe (bt4 q a b) := by
  show p16 (btN dbP plP bitX (fourF (atX (w4 (zX 0)) (w4 (zX 1))) rdP adP' (pe q) baP) (wrX (enc a)) (wrX (enc b)) (atX (w4 (zX 0)) (w4 (zX 1))) 253) = _
  exact bt_pe h ha hb _ (fun i hi => four_at h hi) _ ze_pe 253 (Nat.le_refl _)
end Mt
end Go.Proofs.YtdfghknonbmadaaDoor
namespace Go.Proofs.YtdfghknonbmadaaDoor
namespace Mt
set_option linter.unusedVariables false
set_option linter.unusedSimpArgs false
set_option maxRecDepth 100000

-- the product of numbers modulo the order
/-- The number of the first words of a row, over whatever base. -/
def VB (Mb : Nat) (l : W6) : Nat → Nat
  | 0 => 0
  | i + 1 => VB Mb l i + (l.getD i 0).toNat * Mb ^ i
theorem VB_VW (l : W6) : ∀ n, VB 18446744073709551616 l n = VW l n
  | 0 => rfl
  | n + 1 => by
    have ih := VB_VW l n
    show VB 18446744073709551616 l n + _ = VW l n + _
    rw [ih]
theorem VB_set (Mb : Nat) (l : W6) (k : Nat) (v : B6) (hk : k < l.length) : ∀ n, VB Mb (l.set k v) n + (if k < n then (l.getD k 0).toNat * Mb ^ k else 0) = VB Mb l n + (if k < n then v.toNat * Mb ^ k else 0)
  | 0 => by simp [VB]
  | n + 1 => by
    have ih := VB_set Mb l k v hk n
    rw [VB, VB]
    by_cases h : n = k
    · subst h
      rw [if_neg (by omega), if_neg (by omega)] at ih
      rw [if_pos (by omega), if_pos (by omega)]
      have e : (l.set n v).getD n 0 = v := by rw [List.getD_eq_getElem?_getD, List.getElem?_set_self hk]; rfl
      rw [e]
      omega
    · have e : (l.set k v).getD n 0 = l.getD n 0 := by rw [List.getD_eq_getElem?_getD, List.getElem?_set_ne (by omega), ← List.getD_eq_getElem?_getD]
      rw [e]
      by_cases h2 : k < n
      · rw [if_pos h2, if_pos h2] at ih
        rw [if_pos (by omega), if_pos (by omega)]
        omega
      · rw [if_neg h2, if_neg h2] at ih
        rw [if_neg (by omega), if_neg (by omega)]
        omega
theorem VB_succ (Mb : Nat) (l : W6) (n : Nat) : VB Mb l (n + 1) = VB Mb l n + (l.getD n 0).toNat * Mb ^ n := rfl
theorem VB_none (Mb : Nat) (l : W6) (m : Nat) (h : ∀ k, m ≤ k → l.getD k 0 = 0) : ∀ d, VB Mb l (m + d) = VB Mb l m
  | 0 => rfl
  | d + 1 => by
    rw [← Nat.add_assoc, VB_succ, VB_none Mb l m h d, h _ (by omega), show (0 : B6).toNat = 0 from rfl, Nat.zero_mul, Nat.add_zero]
theorem VB_ext (Mb : Nat) (l m : W6) : ∀ n, (∀ k, k < n → l.getD k 0 = m.getD k 0) → VB Mb l n = VB Mb m n
  | 0, _ => rfl
  | n + 1, h => by rw [VB_succ, VB_succ, VB_ext Mb l m n (fun k hk => h k (by omega)), h n (by omega)]
theorem VB_set' {Mb : Nat} {l : W6} {k n : Nat} {v : B6} (hk : k < l.length) (hn : k < n) : VB Mb (l.set k v) n + (l.getD k 0).toNat * Mb ^ k = VB Mb l n + v.toNat * Mb ^ k := by
  have := VB_set Mb l k v hk n
  rw [if_pos hn, if_pos hn] at this
  exact this
section
variable (Mb : Nat) (L H : T4) (hLH : ∀ x y s c : B6, (L x y s c).toNat + Mb * (H x y s c).toNat = x.toNat * y.toNat + s.toNat + c.toNat)
/-- One row of a product: what was there, and the word times four words; the carry stands four places on. -/
theorem pdI_V (Mb : Nat) (L H : T4) (hLH : ∀ x y s c : B6, (L x y s c).toNat + Mb * (H x y s c).toNat = x.toNat * y.toNat + s.toNat + c.toNat) (b : W6) (i : Nat) (v : B6) (x : W6) (hx : x.length = 8) (hi : i < 4) : ∀ j, j ≤ 4 → VB Mb (pdI L H b i v x j).1 8 + (pdI L H b i v x j).2.toNat * Mb ^ (i + j) = VB Mb x 8 + v.toNat * VB Mb b j * Mb ^ i ∧ ∀ k, i + j ≤ k → (pdI L H b i v x j).1.getD k 0 = x.getD k 0
  := by
  intro j
  induction j with
  | zero =>
    intro _
    refine ⟨?_, fun k _ => rfl⟩
    show VB Mb x 8 + 0 * _ = VB Mb x 8 + v.toNat * 0 * _
    simp
  | succ j ihj =>
    intro hj
    obtain ⟨ih, hk⟩ := ihj (by omega)
    have hlen := pdI_len L H b i v x hx j
    have hnext : pdI L H b i v x (j + 1) = ((pdI L H b i v x j).1.set (i + j) (L v (b.getD j 0) ((pdI L H b i v x j).1.getD (i + j) 0) (pdI L H b i v x j).2), H v (b.getD j 0) ((pdI L H b i v x j).1.getD (i + j) 0) (pdI L H b i v x j).2) := rfl
    rw [hnext]
    generalize pdI L H b i v x j = y at ih hk hlen
    have hst := hLH v (b.getD j 0) (y.1.getD (i + j) 0) y.2
    have hset := VB_set' (Mb := Mb) (l := y.1) (k := i + j) (n := 8) (v := L v (b.getD j 0) (y.1.getD (i + j) 0) y.2) (by omega) (by omega)
    refine ⟨?_, fun k hk2 => ?_⟩
    · show VB Mb (y.1.set (i + j) (L v (b.getD j 0) (y.1.getD (i + j) 0) y.2)) 8 + (H v (b.getD j 0) (y.1.getD (i + j) 0) y.2).toNat * Mb ^ (i + (j + 1)) = _
      generalize L v (b.getD j 0) (y.1.getD (i + j) 0) y.2 = lo at *
      generalize H v (b.getD j 0) (y.1.getD (i + j) 0) y.2 = hi' at *
      have e1 : (lo.toNat + Mb * hi'.toNat) * Mb ^ (i + j) = (v.toNat * (b.getD j 0).toNat + (y.1.getD (i + j) 0).toNat + y.2.toNat) * Mb ^ (i + j) := by rw [hst]
      rw [show i + (j + 1) = i + j + 1 by omega, Nat.pow_succ, VB_succ Mb b j, Nat.mul_add, Nat.add_mul (v.toNat * VB Mb b j), ← Nat.mul_assoc v.toNat, Nat.mul_assoc (v.toNat * (b.getD j 0).toNat), ← Nat.pow_add, Nat.add_comm j i]
      rw [Nat.add_mul, Nat.add_mul, Nat.add_mul] at e1
      generalize Mb ^ (i + j) = Q at *
      have e2 : Mb * hi'.toNat * Q = hi'.toNat * (Q * Mb) := by
        rw [Nat.mul_comm Q, ← Nat.mul_assoc, Nat.mul_comm hi'.toNat]
      rw [e2] at e1
      omega
    · show (y.1.set (i + j) _).getD k 0 = _
      rw [List.getD_eq_getElem?_getD, List.getElem?_set_ne (by omega), ← List.getD_eq_getElem?_getD]
      exact hk k (by omega)
theorem pdO_V (Mb : Nat) (L H : T4) (hLH : ∀ x y s c : B6, (L x y s c).toNat + Mb * (H x y s c).toNat = x.toNat * y.toNat + s.toNat + c.toNat) (a b x : W6) (hx : x.length = 8) (h0 : ∀ k, 4 ≤ k → x.getD k 0 = 0) : ∀ i, i ≤ 4 → VB Mb (pdO L H a b x i) 8 = VB Mb x 8 + VB Mb a i * VB Mb b 4 ∧ ∀ k, i + 4 ≤ k → (pdO L H a b x i).getD k 0 = 0
  := by
  intro i
  induction i with
  | zero => exact fun _ => ⟨by show VB Mb x 8 = VB Mb x 8 + 0 * _; rw [Nat.zero_mul, Nat.add_zero], fun k hk => h0 k (by omega)⟩
  | succ i ihi =>
    intro hi
    obtain ⟨ih, hk⟩ := ihi (by omega)
    have hlen := pdO_len L H a b x hx i
    obtain ⟨h1, h2⟩ := pdI_V Mb L H hLH b i (a.getD i 0) (pdO L H a b x i) hlen (by omega) 4 (Nat.le_refl _)
    have hl2 := pdI_len L H b i (a.getD i 0) (pdO L H a b x i) hlen 4
    have hnext : pdO L H a b x (i + 1) = (pdI L H b i (a.getD i 0) (pdO L H a b x i) 4).1.set (i + 4) (pdI L H b i (a.getD i 0) (pdO L H a b x i) 4).2 := rfl
    rw [hnext]
    have hz := h2 (i + 4) (Nat.le_refl _)
    rw [hk (i + 4) (Nat.le_refl _)] at hz
    generalize pdI L H b i (a.getD i 0) (pdO L H a b x i) 4 = y at *
    have hset := VB_set' (Mb := Mb) (l := y.1) (k := i + 4) (n := 8) (v := y.2) (by omega) (by omega)
    rw [hz, show (0 : B6).toNat = 0 from rfl, Nat.zero_mul] at hset
    refine ⟨?_, fun k hk2 => ?_⟩
    · rw [VB_succ Mb a i, Nat.add_mul, Nat.mul_assoc, Nat.mul_comm (Mb ^ i), ← Nat.mul_assoc]
      generalize VB Mb (y.1.set (i + 4) y.2) 8 = X1 at *
      omega
    · rw [List.getD_eq_getElem?_getD, List.getElem?_set_ne (by omega), ← List.getD_eq_getElem?_getD, h2 k (by omega), hk k (by omega)]
theorem prod_gen' (Mb : Nat) (L H : T4) (hLH : ∀ x y s c : B6, (L x y s c).toNat + Mb * (H x y s c).toNat = x.toNat * y.toNat + s.toNat + c.toNat) (a b c : W6) (hc : c.length = 4) : VB Mb (pdF L H a b c) 8 = VB Mb a 4 * VB Mb b 4 + VB Mb c 4 := by
  have hx : (c ++ List.replicate 4 (0 : B6)).length = 8 := by simp [hc]
  have hz : ∀ k, 4 ≤ k → (c ++ List.replicate 4 (0 : B6)).getD k 0 = 0 := fun k hk => by
    rw [List.getD_eq_getElem?_getD, List.getElem?_append_right (by omega), List.getElem?_replicate]
    split <;> rfl
  have h := (pdO_V Mb L H hLH a b (c ++ List.replicate 4 0) hx hz 4 (Nat.le_refl _)).1
  have e : VB Mb (c ++ List.replicate 4 (0 : B6)) (4 + 4) = VB Mb c 4 := by
    rw [VB_none Mb _ 4 hz 4]
    exact VB_ext Mb _ _ 4 fun k hk => by rw [List.getD_eq_getElem?_getD, List.getElem?_append_left (by omega), ← List.getD_eq_getElem?_getD]
  have e : VB Mb (c ++ List.replicate 4 (0 : B6)) 8 = VB Mb c 4 := e
  rw [e, Nat.add_comm] at h
  exact h
end
theorem prod_V (a b c : W6) (hc : c.length = 4) : VW (pdX a b c) 8 = V a * V b + V c := by
  have h := prod_gen' 18446744073709551616 stLX stHX step_n a b c hc
  rw [VB_VW, VB_VW, VB_VW, VB_VW, VW4, VW4, VW4] at h
  exact h
theorem pd_len (a b c : W6) (hc : c.length = 4) : (pdX a b c).length = 8 := pdO_len stLX stHX a b _ (by simp [hc]) 4
theorem muladd_V (a b c : W6) (hc : c.length = 4) : V (maX a b c) = (V a * V b + V c) % 7237005577332262213973186563042994240857116359379907606001950938285454250989 := by
  show V (mdX (w8 (pdX a b c))) = _
  rw [w8_len (pd_len a b c hc), mod_V, pd_len a b c hc, prod_V a b c hc]
theorem of_V (l : Tx8) (h : l.length = 32 ∨ l.length = 64) : V (ofX l) = le l l.length % 7237005577332262213973186563042994240857116359379907606001950938285454250989 := by
  show V (ofF roX mdX l) = _
  unfold ofF
  rcases h with h | h
  · rw [h, show Nat.beq 32 32 = true from rfl, cond_true, show w4 (roX l 4) = roX l 4 from w4_len (rdM_len l 4 _), mod_V]
    unfold roX
    rw [rdM_len, h, (rdM_is l 4 32 (by decide)).1]
  · rw [h, show Nat.beq 64 32 = false from rfl, cond_false, show w8 (roX l 8) = roX l 8 from w8_len (rdM_len l 8 _), mod_V]
    unfold roX
    rw [rdM_len, h, (rdM_is l 8 64 (by decide)).1]
end Mt
end Go.Proofs.YtdfghknonbmadaaDoor
