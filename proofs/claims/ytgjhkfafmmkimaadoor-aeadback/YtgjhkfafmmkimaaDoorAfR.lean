/-
  aead: the sum at a tag's end, added byte by byte. No statement is proved here.
-/
import Derived.Test.YtgjhkfafmmkimaaDoorAfO
namespace Go.Proofs.YtgjhkfafmmkimaaDoor
open Go.RowKit
set_option linter.unusedVariables false
set_option linter.unusedSimpArgs false
set_option maxRecDepth 100000

theorem bif_no {b : Bool} {p q : Prop} (hb : b = false) (h : q) : bif b then p else q := by rw [hb]; exact h
theorem bif_ye {b : Bool} {p q : Prop} (hb : b = true) (h : p) : bif b then p else q := by rw [hb]; exact h
theorem sc_le (A S j : Nat) : sc A S j ≤ 1 := by
  unfold sc
  have h : 0 < 256 ^ j := Nat.pow_pos (by decide)
  have h1 := Nat.mod_lt A h
  have h2 := Nat.mod_lt S h
  generalize 256 ^ j = d at *
  have : (A % d + S % d) / d < 2 := (Nat.div_lt_iff_lt_mul h).2 (by omega)
  omega
theorem loopAd (key : Tx) (A S c0 : Nat) (hc0 : c0 = sc A S 0) (hS : S = numS (key.drop 16)) (hk : key.length = 32) : ∀ fr M K, vLoop G 68 (iad key (leN (A + S) 16) (leN A 16) c0 0) G [] G fr M K → Wp Tryd.prog G G (loopOf Tryd.prog 20 0) fr M K := by
  subst hc0
  refine loop_next ead_ok mixed (noL_ok _ _ _ _) (Nat.le_refl _) (by kernel_rfl) (fun j => iad key (leN (A + S) 16) (leN A 16) (sc A S j) j) (fun _ => G) (fun j => j ≤ 16) (fun j => 16 - j) (fun j => j + 1) 0 (Nat.zero_le _) (fun j hj => of_eq (vrAd tagD key (leN (A + S) 16) (leN A 16) (sc A S j) (sc A S (j + 1)) j _) ?_)
  rw [leN_len, leN_len, hk]
  by_cases hj2 : j < 16
  · have q1 : ilt (j : Int) 16 = true := by rw [ilt_eq]; exact decide_eq_true (by omega)
    have e16 : ((16 : Int) + (j : Int)) = ((16 + j : Nat) : Int) := by omega
    have hb : ((leN A 16).getD j 0).toNat = A / 256 ^ j % 256 := by
      rw [leN_at 16 A j hj2, BitVec.toNat_ofNat]
    have hkb : (key.getD (16 + j) 0).toNat = S / 256 ^ j % 256 := by
      rw [hS, numS_byte, getD_drop', Nat.add_comm]
    have ha : (leN (A + S) 16).getD j 0 = BitVec.ofNat 8 ((A + S) / 256 ^ j) := leN_at 16 (A + S) j hj2
    have hcl := sc_le A S j
    have hsum : (((A / 256 ^ j % 256 : Nat) : Int) + ((S / 256 ^ j % 256 : Nat) : Int) + ((sc A S j : Nat) : Int)) = ((sc A S j + S / 256 ^ j % 256 + A / 256 ^ j % 256 : Nat) : Int) := by omega
    have hs1 := sc_succ A S j
    have hs2 := sc_byte A S j
    have n1 : A / 256 ^ j % 256 < 256 := Nat.mod_lt _ (by decide)
    have n2 : S / 256 ^ j % 256 < 256 := Nat.mod_lt _ (by decide)
    rw [e16, Int.toNat_natCast, hb, hkb, hsum, ha]
    have hby : BitVec.ofInt 8 ((sc A S j + S / 256 ^ j % 256 + A / 256 ^ j % 256 : Nat) : Int) = BitVec.ofNat 8 ((A + S) / 256 ^ j) := by
      rw [BitVec.ofInt_natCast]
      refine BitVec.eq_of_toNat_eq ?_
      rw [BitVec.toNat_ofNat, BitVec.toNat_ofNat]
      exact hs2
    have hfd : (((sc A S j + S / 256 ^ j % 256 + A / 256 ^ j % 256 : Nat) : Int)).fdiv (2 ^ 8) = ((sc A S (j + 1) : Nat) : Int) := by
      rw [← hs1]
      exact (Int.ofNat_fdiv _ 256).symm
    refine bif_ye q1 (bif_of (inR_nat hj2) (bif_of (inI_iff.2 (by omega)) (bif_of (inR_nat (by omega)) (bif_of (inI_iff.2 (by omega)) (bif_of (inI_iff.2 (by omega)) (bif_of (inR_nat hj2) (bif_no (by rw [hby]; exact bne_self_eq_false _) (bif_of (inI_iff.2 (by omega)) ?_))))))))
    exact ⟨⟨by omega, by omega⟩, rfl, rfl, rfl, congrArg SV.i hfd, rfl, ⟨rfl, rfl⟩, trivial⟩
  · have q1 : ilt (j : Int) 16 = false := by rw [ilt_eq]; exact decide_eq_false (by omega)
    exact bif_no q1 ⟨rfl, ⟨rfl, rfl⟩, trivial⟩
theorem tag_len (key s : Tx) : (tagD key s).length = 16 := lowD_len ..
theorem adds_ok : POk Tryd.prog G 20 cAdds := by
  intro args acs r hh β M w hR hw ha
  unfold cAdds at hh
  split at hh
  · rename_i key s
    simp only [Option.some.injEq, Prod.mk.injEq] at hh
    obtain ⟨h1, rfl⟩ := hh
    have hk : key.length = 32 := Nat.eq_of_beq_eq_true (Bool.and_eq_true_iff.1 h1).1
    have hf := (Bool.and_eq_true_iff.1 h1).2
    have hz : List.take 16 (List.drop 0 (List.replicate 16 (0 : BitVec 8))) = List.replicate 16 (0 : BitVec 8) := by rfl
    have ht : List.drop 0 (List.take 16 key) = key.take 16 := rfl
    have htl : (key.take 16).length = 16 := by rw [List.length_take]; omega
    have hkl : (key.take 16 ++ List.replicate 16 (0 : BitVec 8)).length = 32 := by rw [List.length_append, htl, List.length_replicate]
    have hc : clamp (key.take 16 ++ List.replicate 16 (0 : BitVec 8)) = clamp key := by
      unfold clamp
      rw [List.take_append_of_le_length (by omega), List.take_of_length_le (by omega)]
    have hd : (key.take 16 ++ List.replicate 16 (0 : BitVec 8)).drop 16 = List.replicate 16 (0 : BitVec 8) := by
      have := List.drop_left (l₁ := key.take 16) (l₂ := List.replicate 16 (0 : BitVec 8))
      rw [htl] at this
      exact this
    have ea : tagD key s = leN (polyN (numS (clamp key)) s (Nc s) % PP + numS (key.drop 16)) 16 := tagD_ok key s
    have eb : tagD (key.take 16 ++ List.replicate 16 (0 : BitVec 8)) s = leN (polyN (numS (clamp key)) s (Nc s) % PP) 16 := by
      rw [tagD_ok]
      unfold tagN
      rw [hc, hd, numS_zero, Nat.add_zero]
    have l1 := tag_len key s
    have l2 := tag_len (key.take 16 ++ List.replicate 16 (0 : BitVec 8)) s
    refine pure0 (vf_ok ead_ok mixed (LT.add_ok (noL_ok _ _ _ _) (loopAd key (polyN (numS (clamp key)) s (Nc s) % PP) (numS (key.drop 16)) 0 (sc_zero _ _).symm rfl hk)) (of_eq (vaAd tagD key s (leN (polyN (numS (clamp key)) s (Nc s) % PP + numS (key.drop 16)) 16) (leN (polyN (numS (clamp key)) s (Nc s) % PP) 16) _) ?_)) rfl rfl hR
    rw [hz, ht, htl, hkl, l1, l2, hk, hf]
    refine bif_of rfl (bif_of (by decide) (bif_of (by decide) (bif_of rfl (bif_no (by decide) (bif_no (by decide) ⟨rfl, rfl, congrArg SV.s ea, congrArg SV.s eb, rfl, rfl, ⟨rfl, rfl⟩, rfl⟩)))))
  · cases hh
end Go.Proofs.YtgjhkfafmmkimaaDoor
namespace Go.Proofs.YtgjhkfafmmkimaaDoor
open Go.RowKit
set_option linter.unusedVariables false
set_option linter.unusedSimpArgs false
set_option maxRecDepth 100000

theorem tags_ok : POk Tryd.prog G 4 cLT := by
  intro args acs r hh β M w hR hw ha
  unfold cLT at hh
  split at hh
  · rename_i key s other
    simp only [Option.some.injEq, Prod.mk.injEq, Bool.and_eq_true] at hh
    obtain ⟨⟨l1, l2, l3⟩, rfl⟩ := hh
    have eo : okS (List.take 3 (List.drop 0 [key, s, other])) = true := by
      show (Nat.ble key.length 140737488355328 && (Nat.ble s.length 140737488355328 && (Nat.ble other.length 140737488355328 && true))) = true
      rw [show Nat.ble key.length 140737488355328 = true from l1, show Nat.ble s.length 140737488355328 = true from l2, show Nat.ble other.length 140737488355328 = true from l3]; rfl
    have et : tot (List.take 3 (List.drop 0 [key, s, other])) = key.length + s.length + other.length := by show 0 + key.length + s.length + other.length = _; omega
    refine pure0 (vf_ok els_ok mixed (noL_ok _ _ _ _) (of_eq (vaLT bS bE blockR tS tE sS slE oS oE key s other _) ?_)) rfl rfl hR
    rw [et]
    refine bif_of eo ?_
    by_cases hb : key.length + s.length + other.length ≤ 4096
    · have e0 : ile ((key.length + s.length + other.length : Nat) : Int) 4096 = true := by rw [ile_eq]; exact decide_eq_true (by omega)
      have f1 : fit key = true := fit_of (by omega)
      have f2 : fit s = true := fit_of (by omega)
      have f3 : fit other = true := fit_of (by omega)
      have g1 : Nat.ble s.length 1099511627776 = true := Nat.ble_eq_true_of_le (by omega)
      simp only [e0, f1, f2, f3, g1, beq_self_eq_true, cond_true, cond_false, Bool.not_true, Bool.not_false, Bool.and_self]
    · have e0 : ile ((key.length + s.length + other.length : Nat) : Int) 4096 = false := by rw [ile_eq]; exact decide_eq_false (by omega)
      rw [e0]
      rfl
  · cases hh
def e8 : Tx := bts { data := #[(255 : UInt8), (255 : UInt8), (255 : UInt8), (255 : UInt8), (255 : UInt8), (255 : UInt8), (255 : UInt8), (255 : UInt8)] }
def xs8 : Nat → Tx
  | 0 => []
  | j + 1 => xs8 j ++ e8
theorem xs8_len : ∀ j, (xs8 j).length = 8 * j
  | 0 => rfl
  | j + 1 => by rw [xs8, List.length_append, xs8_len j, show e8.length = 8 from rfl]; omega
theorem loopEn (key rest : Tx) (n : BitVec 8) : ∀ fr M K, vLoop G 95 (iEn key rest n [] 0) G (oEn key rest n (xs8 (n.toNat % 40))) G fr M K → Wp Tryd.prog G G (loopOf Tryd.prog 5 0) fr M K := by
  have hN : n.toNat % 40 < 40 := Nat.mod_lt _ (by decide)
  refine loop_next els_ok mixed (noL_ok _ _ _ _) (Nat.le_refl _) (by kernel_rfl) (fun j => iEn key rest n (xs8 j) j) (fun _ => G) (fun j => j ≤ n.toNat % 40) (fun j => 40 - j) (fun j => j + 1) 0 (Nat.zero_le _) (fun j hj => of_eq (vrLE bS bE blockR tS tE sS slE oS oE key rest (xs8 j) (xs8 (j + 1)) (xs8 (n.toNat % 40)) n j _) ?_)
  have et : ((n.toNat : Nat) : Int).tmod 40 = ((n.toNat % 40 : Nat) : Int) := tmod_cast n.toNat 40
  rw [et, xs8_len]
  by_cases hj2 : j < n.toNat % 40
  · refine bif_ye (by rw [ilt_eq]; exact decide_eq_true (by omega)) (bif_of (by rw [ile_eq]; exact decide_eq_true (by omega)) (bif_of (inI_iff.2 (by omega)) ?_))
    exact ⟨⟨by omega, by omega⟩, rfl, rfl, rfl, rfl, rfl, ⟨rfl, rfl⟩, trivial⟩
  · have e : j = n.toNat % 40 := by omega
    refine bif_no (by rw [ilt_eq]; exact decide_eq_false (by omega)) ?_
    exact ⟨rfl, rfl, rfl, rfl, congrArg SV.s (congrArg xs8 e), ⟨rfl, rfl⟩, trivial⟩
def cLE : List SV → List Cont → Option (Bool × SV)
  | [.s key, .w8 n, .s rest], _ => some (lng key && lng rest, .b true)
  | _, _ => none
theorem ends_ok : POk Tryd.prog G 5 cLE := by
  intro args acs r hh β M w hR hw ha
  unfold cLE at hh
  split at hh
  · rename_i key n rest
    simp only [Option.some.injEq, Prod.mk.injEq] at hh
    obtain ⟨-, rfl⟩ := hh
    refine pure0 (vf_ok els_ok mixed (LT.add_ok (noL_ok _ _ _ _) (loopEn key rest n)) (of_eq (vaLE bS bE blockR tS tE sS slE oS oE key rest (xs8 (n.toNat % 40)) n _) ?_)) rfl rfl hR
    by_cases h1 : key.length = 32
    · refine bif_no (intne_f (m := 32) h1) ?_
      by_cases h2 : 256 < rest.length
      · exact bif_ye (b := bif false then true else _) (by show ilt _ _ = true; rw [ilt_eq]; exact decide_eq_true (by omega)) rfl
      · refine bif_no (b := bif false then true else _) (by show ilt _ _ = false; rw [ilt_eq]; exact decide_eq_false (by omega)) ?_
        refine ⟨rfl, rfl, rfl, rfl, rfl, rfl, ⟨rfl, rfl⟩, ?_⟩
        have hN : n.toNat % 40 < 40 := Nat.mod_lt _ (by decide)
        have hx := xs8_len (n.toNat % 40)
        generalize xs8 (n.toNat % 40) = x at hx
        have hxr : (x ++ rest).length = x.length + rest.length := List.length_append
        have hd : (List.drop 16 (List.take key.length key)).length = 16 := by rw [List.length_drop, List.length_take]; omega
        have hz : (List.take 15 (List.drop 0 (List.replicate 15 (0 : BitVec 8)))).length = 15 := rfl
        have h01 : (bts { data := #[(1 : UInt8)] }).length = 1 := rfl
        have q1 : (ile 16 (key.length : Int) && ile (key.length : Int) (key.length : Int)) = true := by rw [h1]; decide
        have q2 : ile ((16 + (List.drop 16 (List.take key.length key)).length : Nat) : Int) 9223372036854775807 = true := by rw [hd]; decide
        have q3 : ile ((x.length + rest.length : Nat) : Int) 9223372036854775807 = true := by rw [ile_eq]; exact decide_eq_true (by omega)
        have q4 : fit key = true := fit_of (by omega)
        have q5 : fit (x ++ rest) = true := fit_of (by omega)
        have q6 : Nat.ble (x ++ rest).length 1099511627776 = true := Nat.ble_eq_true_of_le (by omega)
        have q7 : fit (bts { data := #[(1 : UInt8)] } ++ List.take 15 (List.drop 0 (List.replicate 15 (0 : BitVec 8))) ++ List.drop 16 (List.take key.length key)) = true := fit_of (by rw [List.length_append, List.length_append, hd, hz, h01]; omega)
        simp only [q1, q2, q3, q4, q5, q6, q7, beq_self_eq_true, cond_true, cond_false, Bool.and_self]
    · exact bif_ye (intne_t (m := 32) h1) rfl
  · cases hh
end Go.Proofs.YtgjhkfafmmkimaaDoor
namespace Go.Proofs.YtgjhkfafmmkimaaDoor
open Go.RowKit
set_option linter.unusedVariables false
set_option linter.unusedSimpArgs false
set_option maxRecDepth 100000

theorem sl_0 {key nonce ad s : Tx} (h1 : key.length = 32) (h2 : nonce.length = 12) (h3 : ad.length ≤ 65536) (h4 : s.length ≤ 65536) : slE key nonce ad s = 0 := by
  unfold slE; rw [if_pos ⟨h1, h2⟩, if_neg (by omega)]
theorem sl_4 {key nonce ad s : Tx} (h1 : key.length = 32) (h2 : nonce.length = 12) (h3 : 65536 < ad.length ∨ 65536 < s.length) : slE key nonce ad s = 4 ∧ sS key nonce ad s = [] := by
  have e : slE key nonce ad s = 4 := by unfold slE; rw [if_pos ⟨h1, h2⟩, if_pos h3]
  refine ⟨e, ?_⟩
  show slS _ _ _ _ _ _ = _
  unfold slS
  rw [e]
  exact if_neg (by decide)
theorem op_4 {key nonce ad s : Tx} (h1 : key.length = 32) (h2 : nonce.length = 12) (h3 : 65536 < ad.length ∨ 65552 < s.length) : oE key nonce ad s = 4 := by
  show opE _ _ _ _ _ = _
  unfold opE; rw [if_pos ⟨h1, h2⟩, if_pos h3]
theorem back3 (key nonce ad s : Tx) (h : slE key nonce ad s = 0) : oE key nonce ad (sS key nonce ad s) = 0 ∧ oS key nonce ad (sS key nonce ad s) = s ∧ (sS key nonce ad s).length = s.length + 16 := backS key nonce ad s h
theorem take_rep (n : Nat) : (List.take n (List.drop 0 (List.replicate n (0 : BitVec 8)))).length = n := by
  rw [List.drop_zero, List.length_take, List.length_replicate]; omega
theorem dec_t {p : Prop} [Decidable p] (h : p) : decide p = true := decide_eq_true h
def cLL : List SV → List Cont → Option (Bool × SV)
  | [.v (.int .i8 z), .b b], _ => some (ile (-128) z && ile z 127, .b true)
  | _, _ => none
theorem long_ok : POk Tryd.prog G 7 cLL := by
  intro args acs r hh β M w hR hw ha
  unfold cLL at hh
  split at hh
  · rename_i z b
    simp only [Option.some.injEq, Prod.mk.injEq] at hh
    obtain ⟨h1, rfl⟩ := hh
    have h1 := Bool.and_eq_true_iff.1 h1
    rw [ile_eq, ile_eq] at h1
    have z1 : -128 ≤ z := of_decide_eq_true h1.1
    have z2 : z ≤ 127 := of_decide_eq_true h1.2
    have i1 : inI z = true := inI_iff.2 (by omega)
    have i2 : inI (65536 + z) = true := inI_iff.2 (by omega)
    have i3 : (ile 0 (65536 + z) && ile (65536 + z) (65536 + z) && ile (65536 + z) 140737488355328) = true := by
      rw [ile_eq, ile_eq, ile_eq, decide_eq_true (by omega : (0 : Int) ≤ 65536 + z), decide_eq_true (by omega : (65536 + z : Int) ≤ 65536 + z), decide_eq_true (by omega : (65536 + z : Int) ≤ 140737488355328)]; rfl
    have i4 : decide (0 + (65536 + z).toNat ≤ (List.replicate (65536 + z).toNat (0 : BitVec 8)).length) = true := dec_t (by rw [List.length_replicate]; omega)
    have hk := take_rep 32
    have hn := take_rep 12
    have hz := take_rep (65536 + z).toNat
    have h16 := take_rep 16
    have et : bts { data := #[] } = [] := rfl
    cases b
    · refine pure0 (vf_ok els_ok mixed (noL_ok _ _ _ _) (of_eq (vaLLf bS bE blockR tS tE sS slE oS oE z _) ?_)) (by rfl) rfl hR
      rw [i1, i2, i3, i4, et]
      generalize List.take 32 (List.drop 0 (List.replicate 32 (0 : BitVec 8))) = k0 at hk
      generalize List.take 12 (List.drop 0 (List.replicate 12 (0 : BitVec 8))) = n0 at hn
      generalize List.take (65536 + z).toNat (List.drop 0 (List.replicate (65536 + z).toNat (0 : BitVec 8))) = zz at hz
      generalize List.take 16 (List.drop 0 (List.replicate 16 (0 : BitVec 8))) = y0 at h16
      refine bif_of rfl (bif_of rfl (bif_of rfl (bif_of rfl (bif_of (fit_of (by omega)) ?_))))
      by_cases hp : 0 < z
      · refine bif_ye (by rw [ilt_eq]; exact decide_eq_true hp) ?_
        have hl : (zz ++ y0).length = zz.length + 16 := by rw [List.length_append, h16]
        obtain ⟨e1, e2⟩ := sl_4 (ad := []) (s := zz) hk hn (.inr (by omega))
        have e3 := op_4 (ad := []) (s := zz ++ y0) hk hn (.inr (by omega))
        refine bif_of (by rw [ile_eq]; exact decide_eq_true (by omega)) (bif_of (fit_of (by omega)) ?_)
        rw [e1, e2, e3]
        rfl
      · refine bif_no (by rw [ilt_eq]; exact decide_eq_false hp) ?_
        have e1 := sl_0 (ad := []) (s := zz) hk hn (Nat.zero_le _) (by omega)
        obtain ⟨e2, e3, e4⟩ := back3 k0 n0 [] zz e1
        refine bif_of (fit_of (by omega)) ?_
        rw [e1, e2, e3]
        refine bif_ye rfl (bif_ye rfl (bif_ye ?_ rfl))
        show (zz == zz) = true
        exact beq_self_eq_true zz
    · refine pure0 (vf_ok els_ok mixed (noL_ok _ _ _ _) (of_eq (vaLLt bS bE blockR tS tE sS slE oS oE z _) ?_)) (by rfl) rfl hR
      rw [i1, i2, i3, i4]
      have ht : (bts { data := #[(120 : UInt8)] }).length = 1 := rfl
      generalize bts { data := #[(120 : UInt8)] } = tx at ht
      generalize List.take 32 (List.drop 0 (List.replicate 32 (0 : BitVec 8))) = k0 at hk
      generalize List.take 12 (List.drop 0 (List.replicate 12 (0 : BitVec 8))) = n0 at hn
      generalize List.take (65536 + z).toNat (List.drop 0 (List.replicate (65536 + z).toNat (0 : BitVec 8))) = zz at hz
      have fz : fit zz = true := fit_of (by omega)
      by_cases hp : 0 < z
      · have g1 : ilt 0 z = true := by rw [ilt_eq]; exact decide_eq_true hp
        have g2 : ile z 0 = false := by rw [ile_eq]; exact decide_eq_false (by omega)
        obtain ⟨e1, e2⟩ := sl_4 (ad := zz) (s := tx) hk hn (.inl (by omega))
        have e3 := op_4 (ad := zz) (s := []) hk hn (.inl (by omega))
        rw [e1, e2, e3, g1, g2, fz]
        rfl
      · have g1 : ilt 0 z = false := by rw [ilt_eq]; exact decide_eq_false hp
        have g2 : ile z 0 = true := by rw [ile_eq]; exact decide_eq_true (by omega)
        have e1 := sl_0 (ad := zz) (s := tx) hk hn (by omega) (by omega)
        obtain ⟨e2, e3, e4⟩ := back3 k0 n0 zz tx e1
        have fs : fit (sS k0 n0 zz tx) = true := fit_of (by omega)
        rw [e1, e2, g1, g2, fz, fs]
        rfl
  · cases hh
end Go.Proofs.YtgjhkfafmmkimaaDoor
namespace Go.Proofs.YtgjhkfafmmkimaaDoor
open Go.RowKit
set_option linter.unusedVariables false
set_option linter.unusedSimpArgs false
set_option maxRecDepth 100000

theorem ine_f {a b : Int} (h : a = b) : (a != b) = false := by rw [h]; exact bne_self_eq_false b
theorem set_same (x : Tx) (i : Nat) : x.set i (x.getD i 0 ^^^ 0) = x := by
  have hx0 : x.getD i 0 ^^^ (0 : BitVec 8) = x.getD i 0 := BitVec.xor_zero
  rw [hx0]
  by_cases h : i < x.length
  · have : x.getD i 0 = x[i] := by rw [List.getD_eq_getElem?_getD, List.getElem?_eq_getElem h]; rfl
    rw [this, List.set_getElem_self]
  · exact List.set_eq_of_length_le (by omega)
theorem at_nat (a : Int) : (BitVec.ofInt 64 a &&& BitVec.ofInt 64 16777215).toInt = (((BitVec.ofInt 64 a &&& BitVec.ofInt 64 16777215).toNat : Nat) : Int) := by
  have h : (BitVec.ofInt 64 a &&& BitVec.ofInt 64 16777215).toNat ≤ 16777215 := by
    rw [BitVec.toNat_and]
    exact Nat.and_le_right
  rw [BitVec.toInt_eq_toNat_cond, if_pos (by omega)]
theorem elb_ok : EnvOk Tryd.prog (ELb bS bE blockR tS tE sS slE oS oE) := ⟨PT.add_ok els_ok.T adds_ok, noC_ok _ _⟩
def cLK : List SV → List Cont → Option (Bool × SV)
  | [.s key, .s nonce, .s ad, .s s, .i at', .w8 y], _ => some (lng key && (lng nonce && (lng ad && lng s)), .b true)
  | _, _ => none
theorem back_ok8 : POk Tryd.prog G 8 cLK := by
  intro args acs r hh β M w hR hw ha
  unfold cLK at hh
  split at hh
  · rename_i key nonce ad s a' y
    simp only [Option.some.injEq, Prod.mk.injEq, Bool.and_eq_true] at hh
    obtain ⟨⟨l1, l2, l3, l4⟩, rfl⟩ := hh
    have eo : okS (List.take 2 (List.drop 0 [ad, s])) = true := by
      show (Nat.ble ad.length 140737488355328 && (Nat.ble s.length 140737488355328 && true)) = true
      rw [show Nat.ble ad.length 140737488355328 = true from l3, show Nat.ble s.length 140737488355328 = true from l4]; rfl
    have et : tot (List.take 2 (List.drop 0 [ad, s])) = ad.length + s.length := by show 0 + ad.length + s.length = _; omega
    refine pure0 (vf_ok elb_ok mixed (noL_ok _ _ _ _) (of_eq (vaLK bS bE blockR tS tE sS slE oS oE key nonce ad s a' y _) ?_)) rfl rfl hR
    by_cases h1 : key.length = 32
    · refine bif_no (intne_f (m := 32) h1) ?_
      by_cases h2 : nonce.length = 12
      · refine bif_no (b := bif false then true else _) (intne_f (m := 12) h2) (bif_of eo ?_)
        rw [et]
        by_cases h3 : ad.length + s.length ≤ 4096
        · have q0 : ile ((ad.length + s.length : Nat) : Int) 4096 = true := by rw [ile_eq]; exact decide_eq_true (by omega)
          refine bif_no (b := bif false then true else _) (by rw [q0]; rfl) ?_
          have e1 := sl_0 (ad := ad) (s := s) h1 h2 (by omega) (by omega)
          obtain ⟨e2, e3, e4⟩ := back3 key nonce ad s e1
          rw [e1]
          generalize sS key nonce ad s = t at e2 e3 e4
          rw [e2, e3, at_nat]
          have f1 : fit key = true := fit_of (by omega)
          have f2 : fit nonce = true := fit_of (by omega)
          have f3 : fit ad = true := fit_of (by omega)
          have f4 : fit s = true := fit_of (by omega)
          have f5 : fit t = true := fit_of (by omega)
          rw [f1, f2, f3, f4, f5, h1]
          refine bif_of rfl (bif_of rfl (bif_no rfl (bif_no rfl (bif_no (by rw [beq_self_eq_true]; rfl) (bif_of (inI_iff.2 (by omega)) (bif_no (b := bif false then true else _) (ine_f (by omega)) (bif_of (by rw [ile_eq]; exact decide_eq_true (by omega)) ?_)))))))
          intro cap x hcap hx
          have hL : (ad ++ t).length = ad.length + t.length := List.length_append
          have hxl : x.length = cap := by rw [hx, List.length_append, List.length_replicate]; omega
          rw [tmod_cast, Int.toNat_natCast]
          have hi : (BitVec.ofInt 64 a' &&& BitVec.ofInt 64 16777215).toNat % (ad ++ t).length < (ad ++ t).length := Nat.mod_lt _ (by omega)
          generalize (BitVec.ofInt 64 a' &&& BitVec.ofInt 64 16777215).toNat % (ad ++ t).length = i at hi
          have hx2 : (x.set i (x.getD i 0 ^^^ y)).length = cap := by rw [List.length_set, hxl]
          have hy0 : y = 0 → x.set i (x.getD i 0 ^^^ y) = ad ++ t ++ List.replicate (cap - (ad ++ t).length) (0 : BitVec 8) := fun e => by rw [e, set_same, hx]
          generalize x.set i (x.getD i 0 ^^^ y) = x2 at hx2 hy0
          have d1 : (ile (ad.length : Int) (cap : Int) && ilt ((0 : Nat) : Int) (cap : Int)) = true := by rw [ile_eq, ilt_eq, decide_eq_true (by omega : (ad.length : Int) ≤ cap), decide_eq_true (by omega : ((0 : Nat) : Int) < cap)]; rfl
          have d2 : decide (0 + ad.length ≤ x2.length) = true := dec_t (by omega)
          have d3 : (ile (ad.length : Int) ((ad ++ t).length : Int) && ile ((ad ++ t).length : Int) (cap : Int) && ilt (ad.length : Int) (cap : Int)) = true := by rw [ile_eq, ile_eq, ilt_eq, decide_eq_true (by omega : (ad.length : Int) ≤ (ad ++ t).length), decide_eq_true (by omega : ((ad ++ t).length : Int) ≤ cap), decide_eq_true (by omega : (ad.length : Int) < cap)]; rfl
          have d4 : decide (ad.length + ((ad ++ t).length - ad.length) ≤ x2.length) = true := dec_t (by omega)
          have b1 : i.blt x.length = true := blt_of (by omega)
          have p1 : (List.take ad.length (List.drop 0 x2)).length ≤ 4096 := by rw [List.length_take]; omega
          have p2 : (List.take ((ad ++ t).length - ad.length) (List.drop ad.length x2)).length ≤ 8192 := by rw [List.length_take]; omega
          have g1 : fit (List.take ad.length (List.drop 0 x2)) = true := fit_of (by omega)
          have g2 : fit (List.take ((ad ++ t).length - ad.length) (List.drop ad.length x2)) = true := fit_of (by omega)
          have hback : y = 0 → oE key nonce (List.take ad.length (List.drop 0 x2)) (List.take ((ad ++ t).length - ad.length) (List.drop ad.length x2)) = 0 := fun e => by
            have z1 : List.take ad.length (List.drop 0 x2) = ad := by rw [hy0 e, List.drop_zero, List.append_assoc, List.take_left]
            have z2 : List.take ((ad ++ t).length - ad.length) (List.drop ad.length x2) = t := by rw [hy0 e, List.append_assoc, List.drop_left, hL, Nat.add_sub_cancel_left, List.take_left]
            rw [z1, z2, e2]
          refine bif_of (intne_t (m := 0) (by omega)) (bif_of (inR_nat hi) (bif_of b1 (bif_of (inR_nat hi) (bif_of b1 (bif_of d1 (bif_of d2 (bif_of d3 (bif_of d4 (bif_of (by rw [g1, g2]; rfl) (bif_of d1 (bif_of d2 (bif_of d3 (bif_of d4 (bif_ye (beq_self_eq_true _) (bif_ye (beq_self_eq_true _) ?_)))))))))))))))
          by_cases hy : y = 0
          · have hb := hback hy
            rw [hb]
            refine bif_no (by rw [hy]; rfl) (bif_ye rfl (bif_of rfl rfl))
          · exact bif_ye (bne_iff_ne.2 hy) (bif_of rfl rfl)
        · have q0 : ile ((ad.length + s.length : Nat) : Int) 4096 = false := by rw [ile_eq]; exact decide_eq_false (by omega)
          exact bif_ye (b := bif false then true else _) (by rw [q0]; rfl) rfl
      · exact bif_ye (b := bif false then true else _) (intne_t (m := 12) h2) rfl
    · exact bif_ye (intne_t (m := 32) h1) rfl
  · cases hh
end Go.Proofs.YtgjhkfafmmkimaaDoor
