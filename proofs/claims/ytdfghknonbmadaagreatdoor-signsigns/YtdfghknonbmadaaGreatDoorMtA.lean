/-
  edw: multiples, as points; order: products, as numbers. No statement is proved here.
-/
import Derived.Test.YtdfghknonbmadaaGreatDoorMaH
import Derived.Test.YtdfghknonbmadaaGreatDoorShG
namespace Go.Proofs.YtdfghknonbmadaaGreatDoor
namespace Mt
set_option linter.unusedVariables false
set_option linter.unusedSimpArgs false
set_option maxRecDepth 100000
theorem kn_V (l : Tx8) : V (knX l) = le l 32 % Nt.P := by
 unfold knX
 rw [fold_X _ _ (by decide), V_w4, rd_V, z6_n, Nat.mul_zero, Nat.add_zero, P_is]
theorem kn_enc (l : Tx8) : w4 (knX l) = enc (le l 32 % Nt.P) := eq_enc (kn_V l)
theorem kn_d : w4 (knX curD) = enc dN := by
 rw [kn_enc, Nt.P_val]
 decide +kernel
theorem kn_bx : w4 (knX bXs) = enc Bp.x.val := by
 rw [kn_enc, Nt.P_val]
 decide +kernel
theorem kn_by : w4 (knX bYs) = enc Bp.y.val := by
 rw [kn_enc, Nt.P_val]
 decide +kernel
theorem ze_pe : zeP = pe zq := by
 show p16 (atF tmX zX (w4 (zX 0)) (w4 (zX 1))) = _
 rw [encZ0, encZ1]
 exact at_pe zero_lt one_lt
theorem ba_pe : baP = pe bq := by
 show p16 (atF tmX zX (w4 (knX bXs)) (w4 (knX bYs))) = _
 rw [kn_bx, kn_by]
 exact at_pe (Ed.val_lt _) (Ed.val_lt _)
theorem rd_pe {q : Pq} (h : Sm q) : p16 (rdP (pe q)) = pe (rdy q) := ready_pe knX kn_d h
theorem bit_wr (n i : Nat) (hn : n < 115792089237316195423570985008687907853269984665640564039457584007913129639936) (hi : i < 256) : (bitX (wrX (enc n)) i).toNat = n / 2 ^ i % 2 := by
 unfold bitX
 rw [BitVec.toNat_and, show (BitVec.ofInt 8 1).toNat = 2 ^ 1 - 1 from rfl, Nat.and_two_pow_sub_one_eq_mod, BitVec.toNat_ushiftRight, Nat.shiftRight_eq_div_pow, wr_get _ _ (by omega), V_enc hn]
 have h1 : ∀ a r : Nat, r < 8 → a % 256 / 2 ^ r % 2 = a / 2 ^ r % 2 := fun a r hr => by
  match r, hr with
  | 0, _ => omega
  | 1, _ => omega
  | 2, _ => omega
  | 3, _ => omega
  | 4, _ => omega
  | 5, _ => omega
  | 6, _ => omega
  | 7, _ => omega
 rw [show (2 : Nat) ^ 1 = 2 from rfl, h1 _ _ (by omega), Nat.div_div_eq_div_mul]
 have h2 : 256 ^ (i / 8) * 2 ^ (i % 8) = 2 ^ i := by
  rw [show (256 : Nat) = 2 ^ 8 from rfl, ← Nat.pow_mul, ← Nat.pow_add]
  congr 1
  omega
 rw [h2]
theorem take_four (a b c d : W6) (ha : a.length = 16) (hb : b.length = 16) (hc : c.length = 16) (hd : d.length = 16) (i : Nat) (hi : i < 4) : List.take 16 (List.drop (i * 16) (a ++ (b ++ (c ++ (d ++ []))))) = if i = 0 then a else if i = 1 then b else if i = 2 then c else d := by
 match i, hi with
 | 0, _ => rw [if_pos rfl, Nat.zero_mul, List.drop_zero, List.take_left' ha]
 | 1, _ => rw [if_neg (by decide), if_pos rfl, show 1 * 16 = a.length by omega, List.drop_left' rfl, List.take_left' hb]
 | 2, _ => rw [if_neg (by decide), if_neg (by decide), if_pos rfl, show 2 * 16 = a.length + b.length by omega, ← List.drop_drop, List.drop_left' rfl, List.drop_left' rfl, List.take_left' hc]
 | 3, _ => rw [if_neg (by decide), if_neg (by decide), if_neg (by decide), show 3 * 16 = a.length + (b.length + c.length) by omega, ← List.drop_drop, List.drop_left' rfl, ← List.drop_drop, List.drop_left' rfl, List.drop_left' rfl, List.append_nil, List.take_of_length_le (by omega)]
theorem four_pe {q : Pq} {p : Ed.Pt} (h : Is q p) : fourF (atX (w4 (zX 0)) (w4 (zX 1))) rdP adP' (pe q) baP = pe (rdy zq) ++ (pe (rdy q) ++ (pe (rdy bq) ++ (pe (rdy (pls q (rdy bq))) ++ []))) := by
 unfold fourF
 have e1 : p16 (atX (w4 (zX 0)) (w4 (zX 1))) = pe zq := ze_pe
 have e2 : p16 baP = pe bq := by rw [ba_pe, p16_pe]
 have e3 : p16 (adP' (p16 (pe q)) (p16 baP)) = pe (pls q (rdy bq)) := by
  rw [p16_pe, e2]
  show p16 (plP (pe q) (p16 (rdP (pe bq)))) = _
  rw [rd_pe bq_is.sm]
  exact plus_pe h.sm (rdy_sm bq_is.sm)
 rw [e1, e3, e2, p16_pe, rd_pe zq_is.sm, rd_pe h.sm, rd_pe bq_is.sm, rd_pe (h.pls bq_is).sm]
theorem four_at {q : Pq} {p : Ed.Pt} (h : Is q p) {i : Nat} (hi : i < 4) : List.take 16 (List.drop (i * 16) (fourF (atX (w4 (zX 0)) (w4 (zX 1))) rdP adP' (pe q) baP)) = pe (rdy (r4 q i)) := by
 rw [four_pe h, take_four _ _ _ _ rfl rfl rfl rfl i hi]
 unfold r4
 match i, hi with
 | 0, _ => rfl
 | 1, _ => rfl
 | 2, _ => rfl
 | 3, _ => rfl
theorem bt_pe {q : Pq} {p : Ed.Pt} (h : Is q p) {a b : Nat} (ha : a < 2 ^ 253) (hb : b < 2 ^ 253) (f : W6) (hf : ∀ i, i < 4 → List.take 16 (List.drop (i * 16) f) = pe (rdy (r4 q i))) (z : W6) (hz : p16 z = pe zq) : ∀ j, j ≤ 253 → p16 (btN dbP plP bitX f (wrX (enc a)) (wrX (enc b)) z j) = pe (st4 q (fun k => a / 2 ^ (252 - k) % 2) (fun k => b / 2 ^ (252 - k) % 2) j)
 | 0, _ => hz
 | j + 1, hj => by
  have ih := bt_pe h ha hb f hf z hz j (by omega)
  have hs := st4_is h a b ha hb j (by omega)
  have hp : (2 : Nat) ^ 253 ≤ 115792089237316195423570985008687907853269984665640564039457584007913129639936 := by decide
  have hix : ixB bitX (wrX (enc a)) (wrX (enc b)) j = 2 * (b / 2 ^ (252 - j) % 2) + a / 2 ^ (252 - j) % 2 := by
   unfold ixB
   rw [bit2 (bitX_le _ _) (bitX_le _ _), bit_wr b _ (by omega) (by omega), bit_wr a _ (by omega) (by omega)]
  have hi : 2 * (b / 2 ^ (252 - j) % 2) + a / 2 ^ (252 - j) % 2 < 4 := by
   have := Nat.mod_lt (b / 2 ^ (252 - j)) (show 0 < 2 by decide)
   have := Nat.mod_lt (a / 2 ^ (252 - j)) (show 0 < 2 by decide)
   omega
  show p16 (plP (p16 (dbP (p16 (btN dbP plP bitX f (wrX (enc a)) (wrX (enc b)) z j)))) (List.take 16 (List.drop (ixB bitX (wrX (enc a)) (wrX (enc b)) j * 16) f))) = _
  rw [ih, hix, hf _ hi, double_pe hs.sm, plus_pe hs.dbl.sm ⟨ad_lt _ _, sb_lt _ _, ad_lt _ _, ml_lt _ _⟩]
  rfl
theorem both_pe {q : Pq} {p : Ed.Pt} (h : Is q p) {a b : Nat} (ha : a < 2 ^ 253) (hb : b < 2 ^ 253) : p16 (btF (atX (w4 (knX bXs)) (w4 (knX bYs))) wrX boX (pe q) (enc a) (enc b)) = pe (bt4 q a b) := by
 show p16 (btN dbP plP bitX (fourF (atX (w4 (zX 0)) (w4 (zX 1))) rdP adP' (pe q) baP) (wrX (enc a)) (wrX (enc b)) (atX (w4 (zX 0)) (w4 (zX 1))) 253) = _
 exact bt_pe h ha hb _ (fun i hi => four_at h hi) _ ze_pe 253 (Nat.le_refl _)
end Mt
end Go.Proofs.YtdfghknonbmadaaGreatDoor
namespace Go.Proofs.YtdfghknonbmadaaGreatDoor
namespace Mt
set_option linter.unusedVariables false
set_option linter.unusedSimpArgs false
set_option maxRecDepth 100000
def VB (Mb : Nat) (l : W6) : Nat → Nat
 | 0 => 0
 | i + 1 => VB Mb l i + (l.getD i 0).toNat * Mb ^ i
theorem VB_VW (l : W6) : ∀ n, VB 18446744073709551616 l n = VW l n
 | 0 => rfl
 | n + 1 => by
  have ih := VB_VW l n
  show VB 18446744073709551616 l n + _ = VW l n + _
  rw [ih]
theorem VB_set (Mb : Nat) (l : W6) (k : Nat) (v : B6) (hk : k < l.length) : ∀ n, VB Mb (l.set k v) n + (if k < n then (l.getD k 0).toNat * Mb ^ k else 0) = VB Mb l n + (if k < n then v.toNat * Mb ^ k else 0)
 | 0 => by simp [VB]
 | n + 1 => by
  have ih := VB_set Mb l k v hk n
  rw [VB, VB]
  by_cases h : n = k
  ·subst h
   rw [if_neg (by omega), if_neg (by omega)] at ih
   rw [if_pos (by omega), if_pos (by omega)]
   have e : (l.set n v).getD n 0 = v := by rw [List.getD_eq_getElem?_getD, List.getElem?_set_self hk]; rfl
   rw [e]
   omega
  ·have e : (l.set k v).getD n 0 = l.getD n 0 := by rw [List.getD_eq_getElem?_getD, List.getElem?_set_ne (by omega), ← List.getD_eq_getElem?_getD]
   rw [e]
   by_cases h2 : k < n
   ·rw [if_pos h2, if_pos h2] at ih
    rw [if_pos (by omega), if_pos (by omega)]
    omega
   ·rw [if_neg h2, if_neg h2] at ih
    rw [if_neg (by omega), if_neg (by omega)]
    omega
theorem VB_succ (Mb : Nat) (l : W6) (n : Nat) : VB Mb l (n + 1) = VB Mb l n + (l.getD n 0).toNat * Mb ^ n := rfl
theorem VB_none (Mb : Nat) (l : W6) (m : Nat) (h : ∀ k, m ≤ k → l.getD k 0 = 0) : ∀ d, VB Mb l (m + d) = VB Mb l m
 | 0 => rfl
 | d + 1 => by
  rw [← Nat.add_assoc, VB_succ, VB_none Mb l m h d, h _ (by omega), show (0 : B6).toNat = 0 from rfl, Nat.zero_mul, Nat.add_zero]
theorem VB_ext (Mb : Nat) (l m : W6) : ∀ n, (∀ k, k < n → l.getD k 0 = m.getD k 0) → VB Mb l n = VB Mb m n
 | 0, _ => rfl
 | n + 1, h => by rw [VB_succ, VB_succ, VB_ext Mb l m n (fun k hk => h k (by omega)), h n (by omega)]
theorem VB_set' {Mb : Nat} {l : W6} {k n : Nat} {v : B6} (hk : k < l.length) (hn : k < n) : VB Mb (l.set k v) n + (l.getD k 0).toNat * Mb ^ k = VB Mb l n + v.toNat * Mb ^ k := by
 have := VB_set Mb l k v hk n
 rw [if_pos hn, if_pos hn] at this
 exact this
section
variable (Mb : Nat) (L H : T4) (hLH : ∀ x y s c : B6, (L x y s c).toNat + Mb * (H x y s c).toNat = x.toNat * y.toNat + s.toNat + c.toNat)
theorem pdI_V (Mb : Nat) (L H : T4) (hLH : ∀ x y s c : B6, (L x y s c).toNat + Mb * (H x y s c).toNat = x.toNat * y.toNat + s.toNat + c.toNat) (b : W6) (i : Nat) (v : B6) (x : W6) (hx : x.length = 8) (hi : i < 4) : ∀ j, j ≤ 4 → VB Mb (pdI L H b i v x j).1 8 + (pdI L H b i v x j).2.toNat * Mb ^ (i + j) = VB Mb x 8 + v.toNat * VB Mb b j * Mb ^ i ∧ ∀ k, i + j ≤ k → (pdI L H b i v x j).1.getD k 0 = x.getD k 0
 := by
 intro j
 induction j with
 | zero =>
  intro _
  refine ⟨?_, fun k _ => rfl⟩
  show VB Mb x 8 + 0 * _ = VB Mb x 8 + v.toNat * 0 * _
  simp
 | succ j ihj =>
  intro hj
  obtain ⟨ih, hk⟩ := ihj (by omega)
  have hlen := pdI_len L H b i v x hx j
  have hnext : pdI L H b i v x (j + 1) = ((pdI L H b i v x j).1.set (i + j) (L v (b.getD j 0) ((pdI L H b i v x j).1.getD (i + j) 0) (pdI L H b i v x j).2), H v (b.getD j 0) ((pdI L H b i v x j).1.getD (i + j) 0) (pdI L H b i v x j).2) := rfl
  rw [hnext]
  generalize pdI L H b i v x j = y at ih hk hlen
  have hst := hLH v (b.getD j 0) (y.1.getD (i + j) 0) y.2
  have hset := VB_set' (Mb := Mb) (l := y.1) (k := i + j) (n := 8) (v := L v (b.getD j 0) (y.1.getD (i + j) 0) y.2) (by omega) (by omega)
  refine ⟨?_, fun k hk2 => ?_⟩
  ·show VB Mb (y.1.set (i + j) (L v (b.getD j 0) (y.1.getD (i + j) 0) y.2)) 8 + (H v (b.getD j 0) (y.1.getD (i + j) 0) y.2).toNat * Mb ^ (i + (j + 1)) = _
   generalize L v (b.getD j 0) (y.1.getD (i + j) 0) y.2 = lo at *
   generalize H v (b.getD j 0) (y.1.getD (i + j) 0) y.2 = hi' at *
   have e1 : (lo.toNat + Mb * hi'.toNat) * Mb ^ (i + j) = (v.toNat * (b.getD j 0).toNat + (y.1.getD (i + j) 0).toNat + y.2.toNat) * Mb ^ (i + j) := by rw [hst]
   rw [show i + (j + 1) = i + j + 1 by omega, Nat.pow_succ, VB_succ Mb b j, Nat.mul_add, Nat.add_mul (v.toNat * VB Mb b j), ← Nat.mul_assoc v.toNat, Nat.mul_assoc (v.toNat * (b.getD j 0).toNat), ← Nat.pow_add, Nat.add_comm j i]
   rw [Nat.add_mul, Nat.add_mul, Nat.add_mul] at e1
   generalize Mb ^ (i + j) = Q at *
   have e2 : Mb * hi'.toNat * Q = hi'.toNat * (Q * Mb) := by
    rw [Nat.mul_comm Q, ← Nat.mul_assoc, Nat.mul_comm hi'.toNat]
   rw [e2] at e1
   omega
  ·show (y.1.set (i + j) _).getD k 0 = _
   rw [List.getD_eq_getElem?_getD, List.getElem?_set_ne (by omega), ← List.getD_eq_getElem?_getD]
   exact hk k (by omega)
theorem pdO_V (Mb : Nat) (L H : T4) (hLH : ∀ x y s c : B6, (L x y s c).toNat + Mb * (H x y s c).toNat = x.toNat * y.toNat + s.toNat + c.toNat) (a b x : W6) (hx : x.length = 8) (h0 : ∀ k, 4 ≤ k → x.getD k 0 = 0) : ∀ i, i ≤ 4 → VB Mb (pdO L H a b x i) 8 = VB Mb x 8 + VB Mb a i * VB Mb b 4 ∧ ∀ k, i + 4 ≤ k → (pdO L H a b x i).getD k 0 = 0
 := by
 intro i
 induction i with
 | zero => exact fun _ => ⟨by show VB Mb x 8 = VB Mb x 8 + 0 * _; rw [Nat.zero_mul, Nat.add_zero], fun k hk => h0 k (by omega)⟩
 | succ i ihi =>
  intro hi
  obtain ⟨ih, hk⟩ := ihi (by omega)
  have hlen := pdO_len L H a b x hx i
  obtain ⟨h1, h2⟩ := pdI_V Mb L H hLH b i (a.getD i 0) (pdO L H a b x i) hlen (by omega) 4 (Nat.le_refl _)
  have hl2 := pdI_len L H b i (a.getD i 0) (pdO L H a b x i) hlen 4
  have hnext : pdO L H a b x (i + 1) = (pdI L H b i (a.getD i 0) (pdO L H a b x i) 4).1.set (i + 4) (pdI L H b i (a.getD i 0) (pdO L H a b x i) 4).2 := rfl
  rw [hnext]
  have hz := h2 (i + 4) (Nat.le_refl _)
  rw [hk (i + 4) (Nat.le_refl _)] at hz
  generalize pdI L H b i (a.getD i 0) (pdO L H a b x i) 4 = y at *
  have hset := VB_set' (Mb := Mb) (l := y.1) (k := i + 4) (n := 8) (v := y.2) (by omega) (by omega)
  rw [hz, show (0 : B6).toNat = 0 from rfl, Nat.zero_mul] at hset
  refine ⟨?_, fun k hk2 => ?_⟩
  ·rw [VB_succ Mb a i, Nat.add_mul, Nat.mul_assoc, Nat.mul_comm (Mb ^ i), ← Nat.mul_assoc]
   generalize VB Mb (y.1.set (i + 4) y.2) 8 = X1 at *
   omega
  ·rw [List.getD_eq_getElem?_getD, List.getElem?_set_ne (by omega), ← List.getD_eq_getElem?_getD, h2 k (by omega), hk k (by omega)]
theorem prod_gen' (Mb : Nat) (L H : T4) (hLH : ∀ x y s c : B6, (L x y s c).toNat + Mb * (H x y s c).toNat = x.toNat * y.toNat + s.toNat + c.toNat) (a b c : W6) (hc : c.length = 4) : VB Mb (pdF L H a b c) 8 = VB Mb a 4 * VB Mb b 4 + VB Mb c 4 := by
 have hx : (c ++ List.replicate 4 (0 : B6)).length = 8 := by simp [hc]
 have hz : ∀ k, 4 ≤ k → (c ++ List.replicate 4 (0 : B6)).getD k 0 = 0 := fun k hk => by
  rw [List.getD_eq_getElem?_getD, List.getElem?_append_right (by omega), List.getElem?_replicate]
  split <;> rfl
 have h := (pdO_V Mb L H hLH a b (c ++ List.replicate 4 0) hx hz 4 (Nat.le_refl _)).1
 have e : VB Mb (c ++ List.replicate 4 (0 : B6)) (4 + 4) = VB Mb c 4 := by
  rw [VB_none Mb _ 4 hz 4]
  exact VB_ext Mb _ _ 4 fun k hk => by rw [List.getD_eq_getElem?_getD, List.getElem?_append_left (by omega), ← List.getD_eq_getElem?_getD]
 have e : VB Mb (c ++ List.replicate 4 (0 : B6)) 8 = VB Mb c 4 := e
 rw [e, Nat.add_comm] at h
 exact h
end
theorem prod_V (a b c : W6) (hc : c.length = 4) : VW (pdX a b c) 8 = V a * V b + V c := by
 have h := prod_gen' 18446744073709551616 stLX stHX step_n a b c hc
 rw [VB_VW, VB_VW, VB_VW, VB_VW, VW4, VW4, VW4] at h
 exact h
theorem pd_len (a b c : W6) (hc : c.length = 4) : (pdX a b c).length = 8 := pdO_len stLX stHX a b _ (by simp [hc]) 4
theorem muladd_V (a b c : W6) (hc : c.length = 4) : V (maX a b c) = (V a * V b + V c) % 7237005577332262213973186563042994240857116359379907606001950938285454250989 := by
 show V (mdX (w8 (pdX a b c))) = _
 rw [w8_len (pd_len a b c hc), mod_V, pd_len a b c hc, prod_V a b c hc]
theorem of_V (l : Tx8) (h : l.length = 32 ∨ l.length = 64) : V (ofX l) = le l l.length % 7237005577332262213973186563042994240857116359379907606001950938285454250989 := by
 show V (ofF roX mdX l) = _
 unfold ofF
 rcases h with h | h
 ·rw [h, show Nat.beq 32 32 = true from rfl, cond_true, show w4 (roX l 4) = roX l 4 from w4_len (rdM_len l 4 _), mod_V]
  unfold roX
  rw [rdM_len, h, (rdM_is l 4 32 (by decide)).1]
 ·rw [h, show Nat.beq 64 32 = false from rfl, cond_false, show w8 (roX l 8) = roX l 8 from w8_len (rdM_len l 8 _), mod_V]
  unfold roX
  rw [rdM_len, h, (rdM_is l 8 64 (by decide)).1]
end Mt
end Go.Proofs.YtdfghknonbmadaaGreatDoor
namespace Go.Proofs.YtdfghknonbmadaaGreatDoor
namespace Mt
set_option linter.unusedVariables false
set_option linter.unusedSimpArgs false
set_option maxRecDepth 100000
def ec (p : Ed.Pt) : Tx8 := bif decide (p.x.val % 2 = 1) then (wrX (enc p.y.val)).set 31 ((wrX (enc p.y.val)).getD 31 0 ||| BitVec.ofInt 8 128) else wrX (enc p.y.val)
theorem bytes_pe {q : Pq} {p : Ed.Pt} (h : Is q p) : byP (pe q) = ec p := by
 have e1 : byY tmX ivX wrX (pe q) = wrX (enc p.y.val) := by
  show wrX (w4 (tmX (enc q.y) (w4 (ivX (enc q.z))))) = _
  rw [encI h.lz, encM h.ly (iv_ltP _), h.vy]
 have e2 : byO tmX ivX odX (pe q) = decide (p.x.val % 2 = 1) := by
  show odX (w4 (tmX (enc q.x) (w4 (ivX (enc q.z))))) = _
  rw [encI h.lz, encM h.lx (iv_ltP _), h.vx]
  exact encO (Ed.val_lt _)
 show byF tmX ivX odX wrX (pe q) = _
 unfold byF
 rw [e1, e2]
 rfl
theorem wr_len (w : W6) : (wrX w).length = 32 := wrN_len w 32
theorem ec_len (p : Ed.Pt) : (ec p).length = 32 := by
 unfold ec
 have hl := wr_len (enc p.y.val)
 generalize wrX (enc p.y.val) = s at *
 cases decide (p.x.val % 2 = 1)
 ·exact hl
 ·rw [cond_true, List.length_set]; exact hl
theorem b8a : ∀ b : BitVec 8, b.toNat < 128 → (b ||| BitVec.ofInt 8 128) &&& ~~~BitVec.ofInt 8 128 = b ∧ b &&& ~~~BitVec.ofInt 8 128 = b ∧ ((b ||| BitVec.ofInt 8 128) &&& BitVec.ofInt 8 128 != BitVec.ofInt 8 0) = true ∧ (b &&& BitVec.ofInt 8 128 != BitVec.ofInt 8 0) = false := by decide +kernel
theorem top31 {y : Nat} (hy : y < Nt.P) : ((wrX (enc y)).getD 31 0).toNat < 128 := by
 rw [wr_get _ 31 (by decide), V_enc (lt4 hy)]
 rw [Nt.P_val] at hy
 rw [show 256 ^ 31 = 452312848583266388373324160190187140051835877600158453279131187530910662656 from rfl]
 omega
theorem set_self (l : Tx8) (k : Nat) (hk : k < l.length) : l.set k (l.getD k 0) = l := by
 rw [List.getD_eq_getElem?_getD, List.getElem?_eq_getElem hk, Option.getD_some]
 exact List.set_getElem_self hk
theorem u8_ec (p : Ed.Pt) : u8 (ec p) = wrX (enc p.y.val) := by
 have hl := wr_len (enc p.y.val)
 obtain ⟨h1, h2, -, -⟩ := b8a _ (top31 (Ed.val_lt p.y))
 unfold u8 ec
 generalize wrX (enc p.y.val) = s at *
 cases decide (p.x.val % 2 = 1)
 ·rw [cond_false, h2]
  exact set_self s 31 (by omega)
 ·rw [cond_true]
  have e : (s.set 31 (s.getD 31 0 ||| BitVec.ofInt 8 128)).getD 31 0 = s.getD 31 0 ||| BitVec.ofInt 8 128 := by
   rw [List.getD_eq_getElem?_getD, List.getElem?_set_self (by omega)]; rfl
  rw [e, h1, List.set_set]
  exact set_self s 31 (by omega)
theorem o8_ec (p : Ed.Pt) : o8 (ec p) = decide (p.x.val % 2 = 1) := by
 have hl := wr_len (enc p.y.val)
 obtain ⟨-, -, h3, h4⟩ := b8a _ (top31 (Ed.val_lt p.y))
 unfold o8 ec
 generalize wrX (enc p.y.val) = s at *
 cases decide (p.x.val % 2 = 1)
 ·exact h4
 ·rw [cond_true]
  have e : (s.set 31 (s.getD 31 0 ||| BitVec.ofInt 8 128)).getD 31 0 = s.getD 31 0 ||| BitVec.ofInt 8 128 := by
   rw [List.getD_eq_getElem?_getD, List.getElem?_set_self (by omega)]; rfl
  rw [e]
  exact h3
theorem bne_one (c : Prop) [Decidable c] : ((if c then 1 else 0 : B6) != 0) = decide c := by
 by_cases h : c
 ·rw [if_pos h, decide_eq_true h]; rfl
 ·rw [if_neg h, decide_eq_false h]; rfl
theorem can_le (l : Tx8) : canX l = (Nat.beq l.length 32 && decide (le l 32 < Nt.P)) := by
 unfold canX
 rw [borrow_V, V_w4, rd_V, PRI_V, bne_one, P_is]
theorem x2_enc {y : Nat} (hy : y < Nt.P) : x2W adX sbX tmX ivX zX knX (enc y) = enc (x2 y) := by
 unfold x2W
 rw [encM hy hy, encZ1, kn_d, encS (ml_lt _ _) one_lt, encM (ml_lt _ _) dN_lt, encA (ml_lt _ _) one_lt, encI (ad_lt _ _), encM (sb_lt _ _) (iv_ltP _)]
 rfl
theorem bsB_enc {y : Nat} (hy : y < Nt.P) (o : Bool) : w4 (bsBX (enc y) o) = enc (ro (x2 y) o) := by
 show w4 (roBX (x2W adX sbX tmX ivX zX knX (enc y)) o) = _
 rw [x2_enc hy]
 exact encB (x2_lt y) o
theorem bsJ_enc {y : Nat} (hy : y < Nt.P) (o : Bool) : bsJX (enc y) o = ok (x2 y) o := by
 show roJX (x2W adX sbX tmX ivX zX knX (enc y)) o = _
 rw [x2_enc hy]
 exact encJ (x2_lt y) o
theorem de_is (s : Tx8) (hs : s.length = 32) (hy : le (u8 s) 32 < Nt.P) : deI canX knX bsJX s = ok (x2 (le (u8 s) 32)) (o8 s) ∧ p16 (dePt knX bsBX atX (u8 s) (o8 s)) = pe (atp (ro (x2 (le (u8 s) 32)) (o8 s)) (le (u8 s) 32)) := by
 have hl : (u8 s).length = 32 := by unfold u8; rw [List.length_set]; exact hs
 have hk : w4 (knX (u8 s)) = enc (le (u8 s) 32) := by rw [kn_enc, Nat.mod_eq_of_lt hy]
 constructor
 ·unfold deI
  rw [can_le, hl, decide_eq_true hy, hk, bsJ_enc hy, show Nat.beq 32 32 = true from rfl, Bool.true_and, Bool.true_and]
 ·unfold dePt
  rw [hk, bsB_enc hy]
  exact at_pe (ro_ltP _ _) hy
theorem le_enc {y : Nat} (hy : y < 115792089237316195423570985008687907853269984665640564039457584007913129639936) : le (wrX (enc y)) 32 = y := by rw [le_wr, V_enc hy]
theorem decode_ec {p : Ed.Pt} (hp : p.On) : deEX (ec p) = 0 ∧ p16 (dePX (ec p)) = pe (atp p.x.val p.y.val) := by
 have hl := ec_len p
 have hy : le (u8 (ec p)) 32 = p.y.val := by rw [u8_ec, le_enc (lt4 (Ed.val_lt _))]
 obtain ⟨h1, h2⟩ := de_is (ec p) hl (by rw [hy]; exact Ed.val_lt _)
 obtain ⟨r1, r2⟩ := root_of (Ed.val_lt p.x) (on_val hp)
 rw [hy, o8_ec] at h1 h2
 rw [r1] at h1
 rw [r2] at h2
 constructor
 ·show deE canX knX bsJX (ec p) = 0
  unfold deE
  rw [hl, h1, show Nat.beq 32 32 = true from rfl, cond_true, cond_true]
 ·show p16 (deP canX knX bsBX bsJX atX (ec p)) = _
  unfold deP
  rw [hl, h1, show Nat.beq 32 32 = true from rfl, Bool.true_and, cond_true, o8_ec]
  exact h2
theorem decode_pt {s : Tx8} (h : deEX s = 0) : s.length = 32 ∧ ∃ p : Ed.Pt, ∃ q : Pq, Is q p ∧ p16 (dePX s) = pe q := by
 have h : deE canX knX bsJX s = 0 := h
 unfold deE at h
 cases hb : Nat.beq s.length 32 <;> rw [hb] at h
 ·cases h
 have hl := Nat.eq_of_beq_eq_true hb
 refine ⟨hl, ?_⟩
 cases hi : deI canX knX bsJX s <;> rw [hi] at h
 ·cases h
 have hy : le (u8 s) 32 < Nt.P := by
  unfold deI at hi
  rw [Bool.and_eq_true, can_le, Bool.and_eq_true] at hi
  exact of_decide_eq_true hi.1.2
 obtain ⟨h1, h2⟩ := de_is s hl hy
 rw [hi] at h1
 obtain ⟨r1, -⟩ := ok_true h1.symm
 have hon := (on_x2 _ _).2 r1
 refine ⟨⟨Ed.fe (ro (x2 (le (u8 s) 32)) (o8 s)), Ed.fe (le (u8 s) 32)⟩, _, Is.at (ro_ltP _ _) hy rfl rfl hon, ?_⟩
 show p16 (deP canX knX bsBX bsJX atX s) = _
 unfold deP
 rw [hb, hi, Bool.true_and, cond_true]
 exact h2
theorem ca_gen (l : Tx8) (n x : Nat) (hx : V (roX l 4) = x) (hn : V WHO = n) : blO sbC (roX l 4) = decide (x < n) := by
 unfold blO
 rw [borrow_V, hx, hn]
 exact bne_one (x < n)
theorem ro_le (l : Tx8) (hl : l.length = 32) : V (roX l 4) = le l 32 := by
 rw [← VW4]
 unfold roX
 rw [hl, (rdM_is l 4 32 (by decide)).1]
theorem ca_le (l : Tx8) : caX l = (Nat.beq l.length 32 && decide (le l 32 < Lq)) := by
 show caF roX (blO sbC) l = _
 unfold caF
 cases hb : Nat.beq l.length 32
 ·rw [Bool.false_and, Bool.false_and]
 ·have hl := Nat.eq_of_beq_eq_true hb
  rw [Bool.true_and, Bool.true_and, show w4 (roX l 4) = roX l 4 from w4_len (rdM_len l 4 _)]
  exact ca_gen l Lq _ (ro_le l hl) WHO_V
theorem le_mod (l : Tx8) : ∀ n, le l (n + 1) % 256 = (l.getD 0 0).toNat
 | 0 => by
  have := (l.getD 0 0).isLt
  show (0 + (l.getD 0 0).toNat * 1) % 256 = _
  omega
 | n + 1 => by
  have ih := le_mod l n
  rw [le, Nat.pow_succ, ← Nat.mul_assoc]
  omega
theorem b8b : ∀ b : BitVec 8, (b &&& ~~~BitVec.ofInt 8 7).toNat % 8 = 0 := by decide +kernel
theorem b8c : ∀ b : BitVec 8, 64 ≤ ((b &&& ~~~BitVec.ofInt 8 128) ||| BitVec.ofInt 8 64).toNat ∧ ((b &&& ~~~BitVec.ofInt 8 128) ||| BitVec.ofInt 8 64).toNat < 128 := by decide +kernel
theorem get_set (l : Tx8) (k : Nat) (v : BitVec 8) (hk : k < l.length) : (l.set k v).getD k 0 = v := by
 rw [List.getD_eq_getElem?_getD, List.getElem?_set_self hk]; rfl
theorem get_set_ne (l : Tx8) (k j : Nat) (v : BitVec 8) (hk : k ≠ j) : (l.set k v).getD j 0 = l.getD j 0 := by
 rw [List.getD_eq_getElem?_getD, List.getElem?_set_ne hk, ← List.getD_eq_getElem?_getD]
theorem mod8 {A L k : Nat} (hL : L % 8 = 5) (hk : A = L * k) (h : A % 8 = 0) (k8 : k < 8) : k = 0 := by
 have e : A % 8 = 5 * (k % 8) % 8 := by rw [hk, Nat.mul_mod, hL]
 rw [h] at e
 omega
theorem lt8 {A L k B : Nat} (hk : A = L * k) (hB : A < B) (hL : B ≤ L * 8) : k < 8 := by
 apply Classical.byContradiction
 intro hn
 have h1 : L * 8 ≤ L * k := Nat.mul_le_mul_left _ (by omega)
 omega
theorem clamp_no {A r c T z k L : Nat} (hT : 0 < T) (hTL : 128 * T ≤ L * 8) (hL : L % 8 = 5) (h31 : A = r + c * T) (hlt : r < T) (h1 : 64 ≤ c) (h2 : c < 128) (h0 : A % 256 = z) (h8 : z % 8 = 0) (hk : A = L * k) : False := by
 have hc1 : 64 * T ≤ c * T := Nat.mul_le_mul_right _ h1
 have hc2 : c * T ≤ 127 * T := Nat.mul_le_mul_right _ (by omega)
 have k8 : k < 8 := lt8 hk (B := 128 * T) (by omega) hTL
 have k0 := mod8 hL hk (by omega) k8
 subst k0
 omega
theorem clamp_nd (s : Tx8) (hs : s.length = 32) : ¬ Lq ∣ le (clX s) 32 := by
 have e0 : (clX s).getD 0 0 = s.getD 0 0 &&& ~~~BitVec.ofInt 8 7 := by
  unfold clX c3Y c2Y c1Y
  rw [get_set_ne _ 31 0 _ (by decide), get_set_ne _ 31 0 _ (by decide), get_set _ 0 _ (by omega)]
 have e31 : (clX s).getD 31 0 = (((c1Y s).getD 31 0 &&& ~~~BitVec.ofInt 8 128) ||| BitVec.ofInt 8 64) := by
  unfold clX c3Y
  have hl : (c2Y (c1Y s)).length = 32 := by simp [c2Y, c1Y, hs]
  rw [get_set _ 31 _ (by omega)]
  unfold c2Y
  rw [get_set _ 31 _ (by simp [c1Y, hs])]
 have h0 : le (clX s) 32 % 256 = ((clX s).getD 0 0).toNat := le_mod (clX s) 31
 rw [e0] at h0
 have h8 := b8b (s.getD 0 0)
 obtain ⟨hb1, hb2⟩ := b8c ((c1Y s).getD 31 0)
 rw [← e31] at hb1 hb2
 have h31 : le (clX s) 32 = le (clX s) 31 + ((clX s).getD 31 0).toNat * 256 ^ 31 := rfl
 have hlt := le_lt (clX s) 31
 have hT : 0 < (256 : Nat) ^ 31 := by decide
 have hTL : 128 * (256 : Nat) ^ 31 ≤ Lq * 8 := by rw [Lq_val]; decide
 have hL : Lq % 8 = 5 := by rw [Lq_val]
 generalize (256 : Nat) ^ 31 = T at h31 hlt hT hTL
 generalize le (clX s) 32 = A at *
 generalize le (clX s) 31 = r at *
 generalize ((clX s).getD 31 0).toNat = c at *
 generalize (s.getD 0 0 &&& ~~~BitVec.ofInt 8 7).toNat = z at *
 rintro ⟨k, hk⟩
 exact clamp_no hT hTL hL h31 hlt hb1 hb2 h0 h8 hk
end Mt
end Go.Proofs.YtdfghknonbmadaaGreatDoor
namespace Go.Proofs.YtdfghknonbmadaaGreatDoor
open Go.RowKit
set_option linter.unusedVariables false
set_option linter.unusedSimpArgs false
set_option maxRecDepth 100000
abbrev TL := List Tx8
def cNm (F : TL → W6) : List SV → List Cont → Option (Bool × SV)
 | [.sl k off len cap], [.strs [] l] => some (Nat.beq off 0 && (Nat.beq len l.length && (Nat.ble len 1000 && Sh.okL l)), .a64 (w4 (F l)))
 | _, _ => none
def B5s (l : TL) : Mm := [⟨false, .a64 BEG⟩, ⟨false, .a64 PRI⟩, ⟨false, .a64 CON⟩, ⟨false, .a64 WHO⟩, ⟨false, .a64 ROM⟩, ⟨false, .strs [] l⟩]
def Enu (D : TL → Tx8) (K : Tx8 → W6) : Env := ⟨GE, (noT.add 38 (Sh.cOf D)).add 29 (c1k K), noC⟩
theorem vaNu (D : TL → Tx8) (K : Tx8 → W6) (l : TL) (len cap : Nat) (K0 : SV → Mm → Prop) : (vf Tryz.prog (Enu D K) noL 27 [.sl 5 0 len cap] (B5s l) K0) = (bif ((0 : Nat) + len).ble ((0 : Nat) + List.length l) && (len.ble 1099511627776 && Sh.okL (List.take len (List.drop 0 l))) then bif (List.length (D (List.take len (List.drop 0 l)))).beq 32 || (List.length (D (List.take len (List.drop 0 l)))).beq 64 then K0 (SV.a64 (List.take 4 (List.drop 0 (w4 (K (D (List.take len (List.drop 0 l)))))))) [{ rw := false, c := Cont.a64 BEG }, { rw := false, c := Cont.a64 PRI }, { rw := false, c := Cont.a64 CON }, { rw := false, c := Cont.a64 WHO }, { rw := false, c := Cont.a64 ROM }, { rw := false, c := Cont.strs [] l }, { rw := true, c := Cont.a64 (w4 (K (D (List.take len (List.drop 0 l))))) }] else False else False) := by kernel_rfl
def nuF (D : TL → Tx8) (K : Tx8 → W6) (l : TL) : W6 := K (D l)
def cOp (A : Tx8 → W6) (P : Tx8 → Tx8) : List SV → List Cont → Option (Bool × SV)
 | [.s s], _ => some (Nat.ble s.length 1099511627776, .agg [.w64 ((A s).getD 0 0), .w64 ((A s).getD 1 0), .w64 ((A s).getD 2 0), .w64 ((A s).getD 3 0), .s (P s)])
 | _, _ => none
def Eop (D : TL → Tx8) (C : Tx8 → Tx8) (K : Tx8 → W6) : Env := ⟨GE, ((noT.add 38 (Sh.cOf D)).add 39 (cCl C)).add 29 (c1k K), noC⟩
theorem vaOp (D : TL → Tx8) (C : Tx8 → Tx8) (K : Tx8 → W6) (s : Tx8) (K0 : SV → Mm → Prop) : (vf Tryz.prog (Eop D C K) noL 13 [.s s] GE K0) = (bif Sh.okL (List.take 1 (List.drop 0 [s])) then bif ile (32 : Int) (↑(List.length (D (List.take 1 (List.drop 0 [s])))) : Int) then bif (List.drop 0 (List.take 32 (D (List.take 1 (List.drop 0 [s]))))).length.beq 32 then bif (List.length (C (List.drop 0 (List.take 32 (D (List.take 1 (List.drop 0 [s]))))))).beq 32 || (List.length (C (List.drop 0 (List.take 32 (D (List.take 1 (List.drop 0 [s]))))))).beq 64 then bif ile (32 : Int) (↑(List.length (D (List.take 1 (List.drop 0 [s])))) : Int) && ile (↑(List.length (D (List.take 1 (List.drop 0 [s])))) : Int) (↑(List.length (D (List.take 1 (List.drop 0 [s])))) : Int) then K0 (SV.agg (List.take 5 (List.drop 0 (List.take 4 (List.take 0 [SV.w64 (0 : BitVec 64), SV.w64 (0 : BitVec 64), SV.w64 (0 : BitVec 64), SV.w64 (0 : BitVec 64), SV.s []] ++ List.map SV.w64 (w4 (K (C (List.drop 0 (List.take 32 (D (List.take 1 (List.drop 0 [s])))))))) ++ List.drop ((0 : Nat) + (List.map SV.w64 (w4 (K (C (List.drop 0 (List.take 32 (D (List.take 1 (List.drop 0 [s]))))))))).length) [SV.w64 (0 : BitVec 64), SV.w64 (0 : BitVec 64), SV.w64 (0 : BitVec 64), SV.w64 (0 : BitVec 64), SV.s []]) ++ [SV.s (List.drop 32 (List.take (List.length (D (List.take 1 (List.drop 0 [s])))) (D (List.take 1 (List.drop 0 [s])))))] ++ List.drop ((4 : Nat) + ((0 : Nat) + (1 : Nat))) (List.take 0 [SV.w64 (0 : BitVec 64), SV.w64 (0 : BitVec 64), SV.w64 (0 : BitVec 64), SV.w64 (0 : BitVec 64), SV.s []] ++ List.map SV.w64 (w4 (K (C (List.drop 0 (List.take 32 (D (List.take 1 (List.drop 0 [s])))))))) ++ List.drop ((0 : Nat) + (List.map SV.w64 (w4 (K (C (List.drop 0 (List.take 32 (D (List.take 1 (List.drop 0 [s]))))))))).length) [SV.w64 (0 : BitVec 64), SV.w64 (0 : BitVec 64), SV.w64 (0 : BitVec 64), SV.w64 (0 : BitVec 64), SV.s []]))))) [{ rw := false, c := Cont.a64 BEG }, { rw := false, c := Cont.a64 PRI }, { rw := false, c := Cont.a64 CON }, { rw := false, c := Cont.a64 WHO }, { rw := false, c := Cont.a64 ROM }, { rw := true, c := Cont.row (List.take 4 (List.take 0 [SV.w64 (0 : BitVec 64), SV.w64 (0 : BitVec 64), SV.w64 (0 : BitVec 64), SV.w64 (0 : BitVec 64), SV.s []] ++ List.map SV.w64 (w4 (K (C (List.drop 0 (List.take 32 (D (List.take 1 (List.drop 0 [s])))))))) ++ List.drop ((0 : Nat) + (List.map SV.w64 (w4 (K (C (List.drop 0 (List.take 32 (D (List.take 1 (List.drop 0 [s]))))))))).length) [SV.w64 (0 : BitVec 64), SV.w64 (0 : BitVec 64), SV.w64 (0 : BitVec 64), SV.w64 (0 : BitVec 64), SV.s []]) ++ [SV.s (List.drop 32 (List.take (List.length (D (List.take 1 (List.drop 0 [s])))) (D (List.take 1 (List.drop 0 [s])))))] ++ List.drop ((4 : Nat) + ((0 : Nat) + (1 : Nat))) (List.take 0 [SV.w64 (0 : BitVec 64), SV.w64 (0 : BitVec 64), SV.w64 (0 : BitVec 64), SV.w64 (0 : BitVec 64), SV.s []] ++ List.map SV.w64 (w4 (K (C (List.drop 0 (List.take 32 (D (List.take 1 (List.drop 0 [s])))))))) ++ List.drop ((0 : Nat) + (List.map SV.w64 (w4 (K (C (List.drop 0 (List.take 32 (D (List.take 1 (List.drop 0 [s]))))))))).length) [SV.w64 (0 : BitVec 64), SV.w64 (0 : BitVec 64), SV.w64 (0 : BitVec 64), SV.w64 (0 : BitVec 64), SV.s []])) }, { rw := true, c := Cont.strs [] [s] }] else False else False else False else False else False) := by kernel_rfl
def cPu' (N : W6 → Bool) (T : W6 → W6) (B : W6 → Tx8) : List SV → List Cont → Option (Bool × SV)
 | [.agg [.w64 a, .w64 b, .w64 c, .w64 d, .s p]], _ => some (!N (p16 (T [a, b, c, d])), .s (B (p16 (T [a, b, c, d]))))
 | _, _ => none
def Eph (N : W6 → Bool) (T : W6 → W6) (B : W6 → Tx8) : Env := ⟨GE, (noT.add 28 (cTm T)).add 40 (cBP N B), noC⟩
theorem pubH_e (N : W6 → Bool) (T : W6 → W6) (B : W6 → Tx8) (a b c d : B6) (p : Tx8) : vf Tryz.prog (Eph N T B) noL 14 [.agg [.w64 a, .w64 b, .w64 c, .w64 d, .s p]] GE (fun r _ => r = .s (B (p16 (T [a, b, c, d])))) = (bif !N (p16 (T [a, b, c, d])) then SV.s (B (p16 (T [a, b, c, d]))) = SV.s (B (p16 (T [a, b, c, d]))) else False) := by kernel_rfl
def Esi (N : W6 → Bool) (T : W6 → W6) (B : W6 → Tx8) (F : TL → W6) (A : W6 → W6 → W6 → W6) (W : W6 → Tx8) : Env := ⟨GE, (((((noT.add 28 (cTm T)).add 40 (cBP N B)).add 27 (cNm F)).add 14 (cPu' N T B)).add 45 (cMA A)).add 46 (cWr W), noC⟩
theorem number_gen (D : TL → Tx8) (K : Tx8 → W6) (hD : ∀ l, (D l).length = 64) (hE : EnvOk Tryz.prog (Enu D K)) : POk Tryz.prog GE 27 (cNm (nuF D K)) := by
 intro args acs r hh β M' w hR hw ha
 unfold cNm at hh
 split at hh
 ·rename_i k off len cap l
  simp only [Option.some.injEq, Prod.mk.injEq, Bool.and_eq_true] at hh
  obtain ⟨⟨h1, h2, h3, h4⟩, rfl⟩ := hh
  obtain rfl := Nat.eq_of_beq_eq_true h1
  obtain rfl := Nat.eq_of_beq_eq_true h2
  have h3 := Nat.le_of_ble_eq_true h3
  simp only [List.map_cons, List.map_nil, List.cons.injEq, and_true] at ha
  refine pure1 (args0 := [.sl 5 0 l.length cap]) (c := .strs [] l) (k := k) (vf_ok (M := B5s l) hE mixed (noL_ok _ _ _ _) (of_eq (vaNu D K l l.length cap _) ?_)) rfl rfl rfl rfl rfl (fun _ => rfl) hR (tgt_some ha.symm rfl)
  rw [List.drop_zero, List.take_length]
  refine bif_of ?_ (bif_of (by rw [hD]; rfl) rfl)
  rw [Bool.and_eq_true, Bool.and_eq_true]
  exact ⟨Nat.ble_eq_true_of_le (by omega), Nat.ble_eq_true_of_le (by omega), h4⟩
 ·cases hh
def opA (D : TL → Tx8) (C : Tx8 → Tx8) (K : Tx8 → W6) (s : Tx8) : W6 := K (C (List.take 32 (D [s])))
def opP (D : TL → Tx8) (s : Tx8) : Tx8 := List.drop 32 (D [s])
theorem open_gen (D : TL → Tx8) (C : Tx8 → Tx8) (K : Tx8 → W6) (hD : ∀ l, (D l).length = 64) (hC : ∀ l, (C l).length = l.length) (hE : EnvOk Tryz.prog (Eop D C K)) : POk Tryz.prog GE 13 (cOp (opA D C K) (opP D)) := by
 intro args acs r hh β M' w hR hw ha
 unfold cOp at hh
 split at hh
 ·rename_i s
  simp only [Option.some.injEq, Prod.mk.injEq] at hh
  obtain ⟨h1, rfl⟩ := hh
  refine pokE (E := Eop D C K) rfl hE (vaOp D C K s _) ?_ rfl rfl hR
  have ht : (List.take 32 (D [s])).length = 32 := by rw [List.length_take, hD]; rfl
  have e0 : List.take 1 (List.drop 0 [s]) = [s] := rfl
  rw [e0, List.drop_zero, hC, ht]
  have i1 : ile 32 ((D [s]).length : Int) = true := by rw [ile_eq, hD]; exact decide_eq_true (by omega)
  refine bif_of ?_ (bif_of i1 (bif_of rfl (bif_of rfl (bif_of ?_ ?_))))
  ·show (Nat.ble s.length 1099511627776 && true) = true
   rw [h1]; rfl
  ·rw [Bool.and_eq_true]
   exact ⟨i1, by rw [ile_eq]; exact decide_eq_true (by omega)⟩
  ·rw [List.take_length]
   rfl
 ·cases hh
theorem pubH_gen (N : W6 → Bool) (T : W6 → W6) (B : W6 → Tx8) (hE : EnvOk Tryz.prog (Eph N T B)) : POk Tryz.prog GE 14 (cPu' N T B) := by
 intro args acs r hh β M' w hR hw ha
 unfold cPu' at hh
 split at hh
 ·rename_i a b c d p
  simp only [Option.some.injEq, Prod.mk.injEq] at hh
  obtain ⟨h1, rfl⟩ := hh
  exact pokE (E := Eph N T B) rfl hE (pubH_e N T B a b c d p) (bif_of h1 rfl) rfl rfl hR
 ·cases hh
def siR (T : W6 → W6) (B : W6 → Tx8) (F : TL → W6) (p s : Tx8) : Tx8 := B (p16 (T (w4 (F [p, s]))))
def siS (T : W6 → W6) (B : W6 → Tx8) (F : TL → W6) (A : W6 → W6 → W6 → W6) (a : W6) (p s : Tx8) : W6 := A (w4 (F [siR T B F p s, B (p16 (T a)), s])) a (w4 (F [p, s]))
def siF (T : W6 → W6) (B : W6 → Tx8) (F : TL → W6) (A : W6 → W6 → W6 → W6) (W : W6 → Tx8) (a : W6) (p s : Tx8) : Tx8 := siR T B F p s ++ W (w4 (siS T B F A a p s))
theorem signH_e (N : W6 → Bool) (T : W6 → W6) (B : W6 → Tx8) (F : TL → W6) (A : W6 → W6 → W6 → W6) (W : W6 → Tx8) (a b c d : B6) (p s : Tx8) : vf Tryz.prog (Esi N T B F A W) noL 19 [.agg [.w64 a, .w64 b, .w64 c, .w64 d, .s p], .s s] GE (fun r _ => r = .s (siF T B F A W [a, b, c, d] p s)) = (bif Sh.okL [p, s] then bif !N (p16 (T (w4 (F [p, s])))) then bif !N (p16 (T [a, b, c, d])) then bif Sh.okL [siR T B F p s, B (p16 (T [a, b, c, d])), s] then bif ile (((siR T B F p s).length + (W (w4 (siS T B F A [a, b, c, d] p s))).length : Nat) : Int) 9223372036854775807 then SV.s (siF T B F A W [a, b, c, d] p s) = SV.s (siF T B F A W [a, b, c, d] p s) else False else False else False else False else False) := by kernel_rfl
def cSi (N : W6 → Bool) (T : W6 → W6) (B : W6 → Tx8) (F : TL → W6) (G : W6 → Tx8 → Tx8 → Tx8) : List SV → List Cont → Option (Bool × SV)
 | [.agg [.w64 a, .w64 b, .w64 c, .w64 d, .s p], .s s], _ => some (!N (p16 (T (w4 (F [p, s])))) && (!N (p16 (T [a, b, c, d])) && (Nat.ble p.length 1000 && Nat.ble s.length 1000000)), .s (G [a, b, c, d] p s))
 | _, _ => none
theorem signH_gen (N : W6 → Bool) (T : W6 → W6) (B : W6 → Tx8) (F : TL → W6) (A : W6 → W6 → W6 → W6) (W : W6 → Tx8) (hB : ∀ p, (B p).length = 32) (hW : ∀ a, (W a).length = 32) (hE : EnvOk Tryz.prog (Esi N T B F A W)) : POk Tryz.prog GE 19 (cSi N T B F (siF T B F A W)) := by
 intro args acs r hh β M' w hR hw ha
 unfold cSi at hh
 split at hh
 ·rename_i a b c d p s
  simp only [Option.some.injEq, Prod.mk.injEq, Bool.and_eq_true] at hh
  obtain ⟨⟨h1, h2, h3, h4⟩, rfl⟩ := hh
  have h3 := Nat.le_of_ble_eq_true h3
  have h4 := Nat.le_of_ble_eq_true h4
  refine pokE (E := Esi N T B F A W) rfl hE (signH_e N T B F A W a b c d p s) ?_ rfl rfl hR
  have hr : (siR T B F p s).length = 32 := hB _
  refine bif_of ?_ (bif_of h1 (bif_of h2 (bif_of ?_ (bif_of ?_ rfl))))
  ·simp only [Sh.okL, List.all_cons, List.all_nil, Bool.and_true, Bool.and_eq_true]
   exact ⟨Nat.ble_eq_true_of_le (by omega), Nat.ble_eq_true_of_le (by omega)⟩
  ·simp only [Sh.okL, List.all_cons, List.all_nil, Bool.and_true, Bool.and_eq_true, hr, hB]
   exact ⟨rfl, rfl, Nat.ble_eq_true_of_le (by omega)⟩
  ·rw [hr, hW]; rfl
 ·cases hh
def Epb (N : W6 → Bool) (T : W6 → W6) (B : W6 → Tx8) (F : TL → W6) (A : Tx8 → W6) (P : Tx8 → Tx8) (G : W6 → Tx8 → Tx8 → Tx8) : Env := ⟨GE, ((noT.add 13 (cOp A P)).add 14 (cPu' N T B)).add 19 (cSi N T B F G), noC⟩
theorem public_e (N : W6 → Bool) (T : W6 → W6) (B : W6 → Tx8) (F : TL → W6) (A : Tx8 → W6) (P : Tx8 → Tx8) (G : W6 → Tx8 → Tx8 → Tx8) (s : Tx8) (K0 : SV → Prop) : vf Tryz.prog (Epb N T B F A P G) noL 7 [.s s] GE (fun r _ => K0 r) = (bif (s.length : Int) != 32 then K0 (.tup [.s [], .i 2]) else bif Nat.ble s.length 1099511627776 then bif !N (p16 (T (w4 (A s)))) then K0 (.tup [.s (B (p16 (T (w4 (A s))))), .i 0]) else False else False) := by kernel_rfl
theorem sign_e (N : W6 → Bool) (T : W6 → W6) (B : W6 → Tx8) (F : TL → W6) (A : Tx8 → W6) (P : Tx8 → Tx8) (G : W6 → Tx8 → Tx8 → Tx8) (s m : Tx8) (K0 : SV → Prop) : vf Tryz.prog (Epb N T B F A P G) noL 9 [.s s, .s m] GE (fun r _ => K0 r) = (bif (s.length : Int) != 32 then K0 (.tup [.s [], .i 2]) else bif Nat.ble s.length 1099511627776 then bif (!N (p16 (T (w4 (F [P s, m])))) && (!N (p16 (T (w4 (A s)))) && (Nat.ble (P s).length 1000 && Nat.ble m.length 1000000))) then K0 (.tup [.s (G (w4 (A s)) (P s) m), .i 0]) else False else False) := by kernel_rfl
end Go.Proofs.YtdfghknonbmadaaGreatDoor
