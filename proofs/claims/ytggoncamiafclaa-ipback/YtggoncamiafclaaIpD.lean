/-
  ip: packets and their bytes: the program's answers and the document's are the same. No statement is proved here.
-/
import Derived.Test.YtggoncamiafclaaIpC
namespace Go.Proofs.Ytggoncamiafclaa
open Go.RowKit
set_option linter.unusedVariables false
set_option linter.unusedSimpArgs false
set_option maxRecDepth 100000

-- the sum, taken two by two
def sL : Tx → Nat
  | [] => 0
  | [a] => a.toNat * 256
  | a :: b :: l => a.toNat * 256 + b.toNat + sL l
theorem sN_shift (a b : BitVec 8) (l : Tx) : ∀ j, sN (a :: b :: l) (j + 2) = a.toNat * 256 + b.toNat + sN l j
  | 0 => by simp [sN]
  | j + 1 => by
    have h := sN_shift a b l j
    have e1 : sN (a :: b :: l) (j + 1 + 2) = sN (a :: b :: l) (j + 2) + ((a :: b :: l).getD (j + 2) 0).toNat * (if (j + 2) % 2 = 0 then 256 else 1) := rfl
    have e2 : sN l (j + 1) = sN l j + (l.getD j 0).toNat * (if j % 2 = 0 then 256 else 1) := rfl
    have e3 : (a :: b :: l).getD (j + 2) 0 = l.getD j 0 := by simp
    have e4 : (j + 2) % 2 = j % 2 := by omega
    rw [e1, e2, h, e3, e4]; omega
theorem sN_eq : ∀ l : Tx, sN l l.length = sL l
  | [] => rfl
  | [a] => by simp [sN, sL]
  | a :: b :: l => by
    show sN (a :: b :: l) (l.length + 2) = _
    rw [sN_shift, sN_eq l]; rfl
theorem sL_app : ∀ (a b : Tx), a.length % 2 = 0 → sL (a ++ b) = sL a + sL b
  | [], b, _ => by simp [sL]
  | [x], b, h => by simp at h
  | x :: y :: l, b, h => by
    have := sL_app l b (by simp at h; omega)
    show x.toNat * 256 + y.toNat + sL (l ++ b) = x.toNat * 256 + y.toNat + sL l + sL b
    omega
theorem sumX_eq (l : Tx) : sumX l = BitVec.ofNat 16 (65535 - resN (sL l)) := by unfold sumX; rw [sN_eq]
theorem sum_mid (a b : Tx) (h : a.length % 2 = 0) : sumX (a ++ [0, 0] ++ b) = sumX (a ++ b) := by
  rw [sumX_eq, sumX_eq, sL_app _ _ (by simp; omega), sL_app _ _ h, sL_app _ _ h]
  rfl
theorem sum_pre (b : Tx) : sumX (0 :: 0 :: b) = sumX b := by rw [sumX_eq, sumX_eq]; congr 2; simp [sL]
theorem sum_pre4 (b : Tx) : sumX (0 :: 0 :: 0 :: 0 :: b) = sumX b := by rw [sum_pre, sum_pre]
theorem t2_len (x : BitVec 16) : (t2 x).length = 2 := rfl
theorem t4_len (x : BitVec 32) : (t4 t2 x).length = 4 := rfl
theorem t2_val (x : BitVec 16) (l : Tx) : sL (t2 x ++ l) = x.toNat + sL l := by
  show ((x >>> 8).setWidth 8).toNat * 256 + (x.setWidth 8).toNat + sL l = _
  have := x.isLt
  simp only [BitVec.toNat_setWidth, BitVec.toNat_ushiftRight, Nat.shiftRight_eq_div_pow]
  omega
/-- Bytes that bear their own sum have the sum 0. -/
theorem sum_self (a b : Tx) (h : a.length % 2 = 0) : sumX (a ++ (t2 (sumX (a ++ b)) ++ b)) = 0 := by
  rw [sumX_eq (a ++ b), sumX_eq, sL_app _ _ h, t2_val, sL_app _ _ h]
  have h1 := resN_le (sL a + sL b)
  rw [BitVec.toNat_ofNat, Nat.mod_eq_of_lt (by omega)]
  generalize sL a = x at *
  generalize sL b = y at *
  have h2 : resN (x + (65535 - resN (x + y) + y)) = 65535 := by
    unfold resN
    split
    · split at * <;> omega
    · split <;> omega
  rw [h2]; rfl
-- numbers of two bytes and of four
theorem m2_t2 (x : BitVec 16) : m2 (x.setWidth 64) = t2 x := by
  have := x.isLt
  unfold m2 t2
  have e1 : ((x.setWidth 64) >>> 8).setWidth 8 = (x >>> 8).setWidth 8 := by
    apply BitVec.eq_of_toNat_eq
    simp only [BitVec.toNat_setWidth, BitVec.toNat_ushiftRight, Nat.shiftRight_eq_div_pow]
    omega
  have e2 : (x.setWidth 64).setWidth 8 = x.setWidth 8 := by
    apply BitVec.eq_of_toNat_eq
    simp only [BitVec.toNat_setWidth]
    omega
  rw [e1, e2]
theorem m2_int (z : Int) (h0 : 0 ≤ z) (h1 : z < 65536) : m2 (BitVec.ofInt 64 z) = t2 (BitVec.ofInt 16 z) := by
  rw [← m2_t2]
  congr 1
  apply BitVec.eq_of_toNat_eq
  simp only [BitVec.toNat_setWidth, BitVec.toNat_ofInt]
  omega
theorem m4_t4 (x : BitVec 32) : m4 (x.setWidth 64) = t4 t2 x := by
  have := x.isLt
  have e : ∀ {a b c d a' b' c' d' : BitVec 8}, a = a' → b = b' → c = c' → d = d' → [a, b, c, d] = [a', b', c', d'] := fun h1 h2 h3 h4 => by rw [h1, h2, h3, h4]
  show [_, _, _, _] = [_, _, _, _]
  refine e ?_ ?_ ?_ ?_
  all_goals
    apply BitVec.eq_of_toNat_eq
    simp only [BitVec.toNat_setWidth, BitVec.toNat_ushiftRight, Nat.shiftRight_eq_div_pow]
    omega
theorem vl_lt (l : Tx) : ∀ j, j ≤ 4 → (vlN l j).toNat < 2 ^ (8 * j)
  | 0, _ => by show (0 : BitVec 64).toNat < 1; decide
  | j + 1, h => by
    have h1 := vl_lt l j (by omega)
    have h2 := getD_t l j
    show (vlN l j <<< 8 ||| (l.getD j 0).setWidth 64).toNat < _
    rw [BitVec.toNat_or]
    refine Nat.or_lt_two_pow ?_ ?_
    · rw [BitVec.toNat_shiftLeft, Nat.shiftLeft_eq]
      have e : 2 ^ (8 * (j + 1)) = 2 ^ (8 * j) * 256 := by rw [Nat.mul_succ, Nat.pow_add]
      rw [e]
      exact Nat.lt_of_le_of_lt (Nat.mod_le _ _) (by omega)
    · rw [BitVec.toNat_setWidth]
      have : 2 ^ 8 ≤ 2 ^ (8 * (j + 1)) := Nat.pow_le_pow_right (by decide) (by omega)
      exact Nat.lt_of_le_of_lt (Nat.mod_le _ _) (by omega)
theorem vl_eq (l : Tx) (h : l.length ≤ 4) : vlX l = (nmX l).setWidth 64 := by
  have h1 := vl_lt l l.length h
  have h2 : 2 ^ (8 * l.length) ≤ 2 ^ 32 := Nat.pow_le_pow_right (by decide) (by omega)
  unfold vlX nmX
  rw [← vl_nm]
  apply BitVec.eq_of_toNat_eq
  simp only [BitVec.toNat_setWidth]
  omega
theorem nm_lt (l : Tx) (h : l.length ≤ 2) : (nmX l).toNat < 65536 := by
  have h1 := vl_lt l l.length (by omega)
  have h2 : 2 ^ (8 * l.length) ≤ 2 ^ 16 := Nat.pow_le_pow_right (by decide) (by omega)
  unfold nmX
  rw [← vl_nm, BitVec.toNat_setWidth]
  omega
def vl4 (l : Tx) : BitVec 64 := (nmX l).setWidth 64
theorem value4_ok : POk Try.prog G 30 (cVl4 vl4) := by
  intro args acs r hh β M w hR hw ha
  unfold cVl4 at hh
  split at hh
  · rename_i l
    simp only [Option.some.injEq, Prod.mk.injEq] at hh
    obtain ⟨hl, rfl⟩ := hh
    have hl := Nat.le_of_ble_eq_true hl
    refine value_ok [.s l] acs _ ?_ β M w hR hw ha
    show some (Nat.ble l.length 4294967296, SV.w64 (vlX l)) = _
    rw [ble_of (by omega), vl_eq l hl]; rfl
  · cases hh
-- a packet's bytes
def hdT (s d : BitVec 32) (p t : BitVec 8) (i m : BitVec 16) (n : BitVec 16) : Tx := [BitVec.ofInt 8 69, BitVec.ofInt 8 0] ++ t2 n ++ t2 i ++ t2 m ++ [t, p]
def enT (s d : BitVec 32) : Tx := t4 t2 s ++ t4 t2 d
def byT (s d : BitVec 32) (p t : BitVec 8) (i m : BitVec 16) (l : Tx) : Tx := hdT s d p t i m (BitVec.ofInt 16 (20 + (l.length : Int))) ++ t2 (sumX (hdT s d p t i m (BitVec.ofInt 16 (20 + (l.length : Int))) ++ enT s d)) ++ enT s d ++ l
theorem hd_len (s d : BitVec 32) (p t : BitVec 8) (i m n : BitVec 16) : (hdT s d p t i m n).length = 10 := rfl
theorem en_len (s d : BitVec 32) : (enT s d).length = 8 := rfl
theorem by_len (s d : BitVec 32) (p t : BitVec 8) (i m : BitVec 16) (l : Tx) : (byT s d p t i m l).length = 20 + l.length := by
  unfold byT
  simp only [List.length_append, hd_len, t2_len, en_len]
abbrev EPt : Env := EP t2 (t4 t2) sumX nmX
abbrev ERt : Env := ER m2 m4 sumX vl4
theorem ep_ok : EnvOk Try.prog EPt := { T := PT.add_ok (PT.add_ok (PT.add_ok (PT.add_ok (PT.add_ok (PT.add_ok (PT.add_ok (PT.add_ok t0_ok two_ok) four_ok) sum_ok) marks_ok) number_ok) clone_ok) isPiece_ok) isAsk_ok, C := noC_ok _ _ }
theorem er_ok : EnvOk Try.prog ERt := { T := PT.add_ok (PT.add_ok (PT.add_ok t0_ok num_ok) sumD_ok) value4_ok, C := noC_ok _ _ }
def cBy : List SV → List Cont → Option (Bool × SV)
  | [.agg [.w32 s, .w32 d, .w8 p, .w8 t, .w16 i, .b st, .b mo, .w16 o, .s l]], _ => some (Nat.ble l.length 4294900000, .s (byT s d p t i (mkS st mo o) l))
  | _, _ => none
theorem bytesOf_ok : POk Try.prog G 26 cBy := by
  intro args acs r hh β M w hR hw ha
  unfold cBy at hh
  split at hh
  · rename_i s d p t i st mo o l
    simp only [Option.some.injEq, Prod.mk.injEq] at hh
    obtain ⟨hl, rfl⟩ := hh
    have hl := Nat.le_of_ble_eq_true hl
    refine pokE (E := EPt) rfl ep_ok (noL_ok _ _ _ _) (v26 t2 (t4 t2) sumX nmX s d p t i st mo o l _) ?_ rfl rfl hR
    repeat refine bif_of (by first | exact inI_iff.2 (by (try simp only [List.length_append, List.length_cons, List.length_nil, t2_len, t4_len, List.drop_zero, List.take_succ_cons, List.take_zero]); omega) | exact ile_of (by (try simp only [List.length_append, List.length_cons, List.length_nil, t2_len, t4_len, List.drop_zero, List.take_succ_cons, List.take_zero]); omega) | exact ble_of (by (try simp only [List.length_append, List.length_cons, List.length_nil, t2_len, t4_len, List.drop_zero, List.take_succ_cons, List.take_zero]); omega) | exact inR_iff.2 (by (try simp only [List.length_append, List.length_cons, List.length_nil, t2_len, t4_len, List.drop_zero, List.take_succ_cons, List.take_zero]); omega) | exact and_t (ile_of (by (try simp only [List.length_append, List.length_cons, List.length_nil, t2_len, t4_len, List.drop_zero, List.take_succ_cons, List.take_zero]); omega)) (ile_of (by (try simp only [List.length_append, List.length_cons, List.length_nil, t2_len, t4_len, List.drop_zero, List.take_succ_cons, List.take_zero]); omega))) ?_
    rfl
  · cases hh
theorem or14 (x : Nat) (h : x < 16384) : x ||| 16384 = x + 16384 := by
  have h1 : 16384 + x = 16384 ||| x := Nat.two_pow_add_eq_or_of_lt (i := 14) (b := x) h 1
  rw [Nat.or_comm, ← h1]
  omega
theorem or13 (q r : Nat) (h : r < 8192) : (16384 * q + r) ||| 8192 = 16384 * q + r + 8192 := by
  have h1 := Nat.two_pow_add_eq_or_of_lt (i := 14) (b := r) (by omega) q
  have h2 := Nat.two_pow_add_eq_or_of_lt (i := 13) (b := r) h 1
  have h3 := Nat.two_pow_add_eq_or_of_lt (i := 14) (b := 8192 + r) (by omega) q
  have e1 : 16384 * q + r = 16384 * q ||| r := h1
  have e2 : 8192 + r = 8192 ||| r := h2
  have e3 : 16384 * q + (8192 + r) = 16384 * q ||| (8192 + r) := h3
  calc (16384 * q + r) ||| 8192 = (16384 * q ||| r) ||| 8192 := by rw [e1]
    _ = 16384 * q ||| (r ||| 8192) := Nat.or_assoc ..
    _ = 16384 * q ||| (8192 ||| r) := by rw [Nat.or_comm r]
    _ = 16384 * q ||| (8192 + r) := by rw [← e2]
    _ = 16384 * q + (8192 + r) := e3.symm
    _ = _ := by omega
theorem mk14 (o : BitVec 16) (h : o.toNat < 8192) : (o ||| BitVec.ofInt 16 16384).toNat = o.toNat + 16384 := by
  rw [BitVec.toNat_or]
  exact or14 _ (by omega)
theorem mk13 (x : BitVec 16) (h : x.toNat % 16384 < 8192) : (x ||| BitVec.ofInt 16 8192).toNat = x.toNat + 8192 := by
  rw [BitVec.toNat_or]
  have := or13 (x.toNat / 16384) (x.toNat % 16384) h
  rw [Nat.div_add_mod] at this
  exact this
theorem a14 : (BitVec.ofInt 64 16384).toNat = 16384 := rfl
theorem a13 : (BitVec.ofInt 64 8192).toNat = 8192 := rfl
theorem mkFF (o : BitVec 16) : BitVec.setWidth 64 o = (mkS false false o).setWidth 64 := rfl
theorem mkTF (o : BitVec 16) (h : o.toNat < 8192) : BitVec.setWidth 64 o + BitVec.ofInt 64 16384 = (mkS true false o).setWidth 64 := by
  apply BitVec.eq_of_toNat_eq
  show _ = (BitVec.setWidth 64 (o ||| BitVec.ofInt 16 16384)).toNat
  simp only [BitVec.toNat_add, BitVec.toNat_setWidth, mk14 o h, a14]; omega
theorem mkFT (o : BitVec 16) (h : o.toNat < 8192) : BitVec.setWidth 64 o + BitVec.ofInt 64 8192 = (mkS false true o).setWidth 64 := by
  apply BitVec.eq_of_toNat_eq
  show _ = (BitVec.setWidth 64 (o ||| BitVec.ofInt 16 8192)).toNat
  simp only [BitVec.toNat_add, BitVec.toNat_setWidth, mk13 o (by omega), a13]; omega
theorem mkTT (o : BitVec 16) (h : o.toNat < 8192) : BitVec.setWidth 64 o + BitVec.ofInt 64 16384 + BitVec.ofInt 64 8192 = (mkS true true o).setWidth 64 := by
  apply BitVec.eq_of_toNat_eq
  show _ = (BitVec.setWidth 64 ((o ||| BitVec.ofInt 16 16384) ||| BitVec.ofInt 16 8192)).toNat
  have e := mk14 o h
  simp only [BitVec.toNat_add, BitVec.toNat_setWidth, mk13 _ (show (o ||| BitVec.ofInt 16 16384).toNat % 16384 < 8192 by omega), e, a13, a14]; omega
-- Encode
def enE (o : BitVec 16) (l : Tx) : Int := bif (BitVec.ofInt 16 8192).ule o then 2 else bif ilt 1480 (l.length : Int) then 4 else 0
def enR (s d : BitVec 32) (p t : BitVec 8) (i : BitVec 16) (st mo : Bool) (o : BitVec 16) (l : Tx) : Tx := bif (BitVec.ofInt 16 8192).ule o then [] else bif ilt 1480 (l.length : Int) then [] else byT s d p t i (mkS st mo o) l
def cEn : List SV → List Cont → Option (Bool × SV)
  | [.agg [.w32 s, .w32 d, .w8 p, .w8 t, .w16 i, .b st, .b mo, .w16 o, .s l]], _ => some (Nat.ble l.length 4294900000, .tup [.s (enR s d p t i st mo o l), .i (enE o l)])
  | _, _ => none
def EQ : Env := { G := G, T := EPt.T.add 26 cBy, C := noC }
theorem eq_ok' : EnvOk Try.prog EQ := { T := PT.add_ok ep_ok.T bytesOf_ok, C := noC_ok _ _ }
theorem v10 (s d : BitVec 32) (p t : BitVec 8) (i : BitVec 16) (st mo : Bool) (o : BitVec 16) (l : Tx) (K : SV → Prop) : (vf Try.prog EQ noL 10 [pkt s d p t i st mo o l] G (fun r _ => K r)) = (bif (BitVec.ofInt 16 8192).ule o then K (SV.tup [SV.s (bts { data := #[] }), SV.i 2]) else bif ilt 1480 (↑(List.length l) : Int) then K (SV.tup [SV.s (bts { data := #[] }), SV.i 4]) else bif (List.length l).ble 4294900000 then K (SV.tup [SV.s (byT s d p t i (mkS st mo o) l), SV.i 0]) else False) := by kernel_rfl
theorem encode_ok : POk Try.prog G 10 cEn := by
  intro args acs r hh β M w hR hw ha
  unfold cEn at hh
  split at hh
  · rename_i s d p t i st mo o l
    simp only [Option.some.injEq, Prod.mk.injEq] at hh
    obtain ⟨hl, rfl⟩ := hh
    refine pokE (E := EQ) rfl eq_ok' (noL_ok _ _ _ _) (v10 s d p t i st mo o l _) ?_ rfl rfl hR
    unfold enR enE
    cases (BitVec.ofInt 16 8192).ule o
    · cases ilt 1480 (l.length : Int)
      · exact bif_of hl rfl
      · rfl
    · rfl
  · cases hh
theorem ule_no {o : BitVec 16} (h : (BitVec.ofInt 16 8192).ule o = false) : o.toNat < 8192 := by
  unfold BitVec.ule at h
  have := of_decide_eq_false h
  have e : (BitVec.ofInt 16 8192).toNat = 8192 := rfl
  omega
theorem by_doc (s d : BitVec 32) (p t : BitVec 8) (i m : BitVec 16) (l : Tx) (n64 m64 : BitVec 64) (hn : m2 n64 = t2 (BitVec.ofInt 16 (20 + (l.length : Int)))) (hm : m64 = m.setWidth 64) : bts { data := #[69, 0] } ++ m2 n64 ++ m2 (i.setWidth 64) ++ m2 m64 ++ List.take 2 (List.drop 0 [t, p]) ++ m2 ((sumX (bts { data := #[69, 0] } ++ m2 n64 ++ m2 (i.setWidth 64) ++ m2 m64 ++ List.take 2 (List.drop 0 [t, p]) ++ bts { data := #[0, 0] } ++ (m4 (s.setWidth 64) ++ m4 (d.setWidth 64)))).setWidth 64) ++ (m4 (s.setWidth 64) ++ m4 (d.setWidth 64)) ++ l = byT s d p t i m l := by
  have h := sum_mid (hdT s d p t i m (BitVec.ofInt 16 (20 + (l.length : Int)))) (enT s d) (by rw [hd_len])
  rw [hm, m2_t2 m, hn, m2_t2, m2_t2, m4_t4, m4_t4]
  unfold byT
  rw [← h]
  rfl
theorem m2_len (x : BitVec 64) : (m2 x).length = 2 := rfl
theorem m4_len (x : BitVec 64) : (m4 x).length = 4 := rfl
theorem bts2 (a b : UInt8) : (bts { data := #[a, b] }).length = 2 := rfl
set_option maxHeartbeats 2000000 in
theorem encodeD_ok : POk Try.prog G 11 cEn := by
  intro args acs r hh β M w hR hw ha
  unfold cEn at hh
  split at hh
  · rename_i s d p t i st mo o l
    simp only [Option.some.injEq, Prod.mk.injEq] at hh
    obtain ⟨hl, rfl⟩ := hh
    have hl := Nat.le_of_ble_eq_true hl
    refine pokE (E := ERt) rfl er_ok (noL_ok _ _ _ _) (v11 m2 m4 sumX vl4 s d p t i st mo o l _) ?_ rfl rfl hR
    unfold enR enE
    cases ho : (BitVec.ofInt 16 8192).ule o
    · refine bif_of (inI_iff.2 (by omega)) ?_
      have ho := ule_no ho
      cases h4 : ilt 1480 (l.length : Int)
      · have h4' : ilt 1500 (20 + (l.length : Int)) = false := by
          rw [ilt_eq] at h4 ⊢
          have := of_decide_eq_false h4
          exact decide_eq_false (by omega)
        have h5 := of_decide_eq_false ((ilt_eq _ _).symm.trans h4)
        rw [h4']
        have n1 := m2_int (20 + (l.length : Int)) (by omega) (by omega)
        cases st
        · cases mo
          · show bif inI _ then _ else _
            repeat refine bif_of (by first | exact inI_iff.2 (by (try simp only [List.length_append, List.length_cons, List.length_nil, m2_len, m4_len, List.drop_zero, List.take_succ_cons, List.take_zero, bts2]); omega) | exact ile_of (by (try simp only [List.length_append, List.length_cons, List.length_nil, m2_len, m4_len, List.drop_zero, List.take_succ_cons, List.take_zero, bts2]); omega) | exact ble_of (by (try simp only [List.length_append, List.length_cons, List.length_nil, m2_len, m4_len, List.drop_zero, List.take_succ_cons, List.take_zero, bts2]); omega) | exact inR_iff.2 (by (try simp only [List.length_append, List.length_cons, List.length_nil, m2_len, m4_len, List.drop_zero, List.take_succ_cons, List.take_zero, bts2]); omega) | exact and_t (ile_of (by (try simp only [List.length_append, List.length_cons, List.length_nil, m2_len, m4_len, List.drop_zero, List.take_succ_cons, List.take_zero, bts2]); omega)) (ile_of (by (try simp only [List.length_append, List.length_cons, List.length_nil, m2_len, m4_len, List.drop_zero, List.take_succ_cons, List.take_zero, bts2]); omega))) ?_
            exact congrArg (fun x => SV.tup [.s x, .i 0]) (by_doc s d p t i _ l _ _ n1 (mkFF o))
          · show bif inI _ then _ else _
            repeat refine bif_of (by first | exact inI_iff.2 (by (try simp only [List.length_append, List.length_cons, List.length_nil, m2_len, m4_len, List.drop_zero, List.take_succ_cons, List.take_zero, bts2]); omega) | exact ile_of (by (try simp only [List.length_append, List.length_cons, List.length_nil, m2_len, m4_len, List.drop_zero, List.take_succ_cons, List.take_zero, bts2]); omega) | exact ble_of (by (try simp only [List.length_append, List.length_cons, List.length_nil, m2_len, m4_len, List.drop_zero, List.take_succ_cons, List.take_zero, bts2]); omega) | exact inR_iff.2 (by (try simp only [List.length_append, List.length_cons, List.length_nil, m2_len, m4_len, List.drop_zero, List.take_succ_cons, List.take_zero, bts2]); omega) | exact and_t (ile_of (by (try simp only [List.length_append, List.length_cons, List.length_nil, m2_len, m4_len, List.drop_zero, List.take_succ_cons, List.take_zero, bts2]); omega)) (ile_of (by (try simp only [List.length_append, List.length_cons, List.length_nil, m2_len, m4_len, List.drop_zero, List.take_succ_cons, List.take_zero, bts2]); omega))) ?_
            exact congrArg (fun x => SV.tup [.s x, .i 0]) (by_doc s d p t i _ l _ _ n1 (mkFT o ho))
        · cases mo
          · show bif inI _ then _ else _
            repeat refine bif_of (by first | exact inI_iff.2 (by (try simp only [List.length_append, List.length_cons, List.length_nil, m2_len, m4_len, List.drop_zero, List.take_succ_cons, List.take_zero, bts2]); omega) | exact ile_of (by (try simp only [List.length_append, List.length_cons, List.length_nil, m2_len, m4_len, List.drop_zero, List.take_succ_cons, List.take_zero, bts2]); omega) | exact ble_of (by (try simp only [List.length_append, List.length_cons, List.length_nil, m2_len, m4_len, List.drop_zero, List.take_succ_cons, List.take_zero, bts2]); omega) | exact inR_iff.2 (by (try simp only [List.length_append, List.length_cons, List.length_nil, m2_len, m4_len, List.drop_zero, List.take_succ_cons, List.take_zero, bts2]); omega) | exact and_t (ile_of (by (try simp only [List.length_append, List.length_cons, List.length_nil, m2_len, m4_len, List.drop_zero, List.take_succ_cons, List.take_zero, bts2]); omega)) (ile_of (by (try simp only [List.length_append, List.length_cons, List.length_nil, m2_len, m4_len, List.drop_zero, List.take_succ_cons, List.take_zero, bts2]); omega))) ?_
            exact congrArg (fun x => SV.tup [.s x, .i 0]) (by_doc s d p t i _ l _ _ n1 (mkTF o ho))
          · show bif inI _ then _ else _
            repeat refine bif_of (by first | exact inI_iff.2 (by (try simp only [List.length_append, List.length_cons, List.length_nil, m2_len, m4_len, List.drop_zero, List.take_succ_cons, List.take_zero, bts2]); omega) | exact ile_of (by (try simp only [List.length_append, List.length_cons, List.length_nil, m2_len, m4_len, List.drop_zero, List.take_succ_cons, List.take_zero, bts2]); omega) | exact ble_of (by (try simp only [List.length_append, List.length_cons, List.length_nil, m2_len, m4_len, List.drop_zero, List.take_succ_cons, List.take_zero, bts2]); omega) | exact inR_iff.2 (by (try simp only [List.length_append, List.length_cons, List.length_nil, m2_len, m4_len, List.drop_zero, List.take_succ_cons, List.take_zero, bts2]); omega) | exact and_t (ile_of (by (try simp only [List.length_append, List.length_cons, List.length_nil, m2_len, m4_len, List.drop_zero, List.take_succ_cons, List.take_zero, bts2]); omega)) (ile_of (by (try simp only [List.length_append, List.length_cons, List.length_nil, m2_len, m4_len, List.drop_zero, List.take_succ_cons, List.take_zero, bts2]); omega))) ?_
            exact congrArg (fun x => SV.tup [.s x, .i 0]) (by_doc s d p t i _ l _ _ n1 (mkTT o ho))
      · have h4' : ilt 1500 (20 + (l.length : Int)) = true := by
          rw [ilt_eq] at h4 ⊢
          have := of_decide_eq_true h4
          exact decide_eq_true (by omega)
        rw [h4']; rfl
    · rfl
  · cases hh
end Go.Proofs.Ytggoncamiafclaa
