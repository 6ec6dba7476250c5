/-
  The bytes of a point; which bytes are one's. No statement is proved here.
-/
import Derived.Test.YtpdagpjjlnncbaaDoorEdwK
import Derived.Test.YtpdagpjjlnncbaaDoorRedE
import Derived.Deep.RegionHeld3
namespace Go.Proofs.YtpdagpjjlnncbaaDoor
open Go.RowKit Go.Lib Go.BigFrame
set_option linter.unusedVariables false
set_option linter.unusedSimpArgs false
set_option maxRecDepth 100000
set_option maxHeartbeats 1000000

def hi (s : ByteArray) : ByteArray := sbi (fun j => if j = 31 then (bits .or .u8 ((bys s) 31) 128) else (bys s) j)
def lo (s : ByteArray) : ByteArray := sbi (fun j => if j = 31 then (bits .andNot .u8 ((bys s) 31) 128) else (bys s) j)
def top (s : ByteArray) : Bool := decide (128 ≤ (bys s) 31)
/-- The bytes of a point. -/
def enc (p : Ed.Pt) : ByteArray := if p.x.val % 2 = 1 then hi (by32 p.y.val) else by32 p.y.val
theorem bits_or128 : ∀ x : Fin 256, (bits .or .u8 ((x.1 : Nat) : Int) 128).toNat % 256 = x.1 % 128 + 128 := by decide +kernel
theorem bits_no128 : ∀ x : Fin 256, (bits .andNot .u8 ((x.1 : Nat) : Int) 128).toNat % 256 = x.1 % 128 := by decide +kernel
theorem bits_and128 : ∀ x : Fin 256, (!decide (bits .and .u8 ((x.1 : Nat) : Int) 128 = 0)) = decide (128 ≤ ((x.1 : Nat) : Int)) := by decide +kernel
theorem top_and (s : ByteArray) : (!decide ((bits .and .u8 ((bys s) 31) 128) = 0)) = top s := bits_and128 ⟨byt s 31, byt_lt s 31⟩
theorem top_iff (s : ByteArray) : top s = decide (128 ≤ byt s 31) := by
  unfold top bys
  by_cases h : 128 ≤ byt s 31
  · rw [decide_eq_true h, decide_eq_true (by omega)]
  · rw [decide_eq_false h, decide_eq_false (by omega)]
theorem byt_lo (s : ByteArray) (j : Nat) (hj : j < 32) : byt (lo s) j = if j = 31 then byt s 31 % 128 else byt s j := by
  unfold lo
  rw [byt_sbi _ _ hj]
  split
  · exact bits_no128 ⟨byt s 31, byt_lt s 31⟩
  · have := byt_lt s j
    show ((byt s j : Nat) : Int).toNat % 256 = _
    rw [Int.toNat_natCast]; omega
theorem byt_hi (s : ByteArray) (j : Nat) (hj : j < 32) : byt (hi s) j = if j = 31 then byt s 31 % 128 + 128 else byt s j := by
  unfold hi
  rw [byt_sbi _ _ hj]
  split
  · exact bits_or128 ⟨byt s 31, byt_lt s 31⟩
  · have := byt_lt s j
    show ((byt s j : Nat) : Int).toNat % 256 = _
    rw [Int.toNat_natCast]; omega
theorem lo_size (s : ByteArray) : (lo s).size = 32 := sbi_size _
theorem hi_size (s : ByteArray) : (hi s).size = 32 := sbi_size _
theorem by31 (v : Nat) (hv : v < Nt.P) : byt (by32 v) 31 < 128 := by
  rw [byt_by32 v 31 (by decide)]
  unfold vb
  rw [Nt.P_val] at hv
  have e : (256 : Nat) ^ 31 = 452312848583266388373324160190187140051835877600158453279131187530910662656 := by decide
  rw [e]; omega
theorem enc_size (p : Ed.Pt) : (enc p).size = 32 := by
  unfold enc
  split
  · exact hi_size _
  · exact by32_size _
theorem lo_enc (p : Ed.Pt) : lo (enc p) = by32 p.y.val := by
  have h31 := by31 p.y.val (Ed.val_lt p.y)
  refine text_eq (lo_size _) (by32_size _) fun j hj => ?_
  rw [byt_lo _ _ hj]
  unfold enc
  by_cases h : p.x.val % 2 = 1
  · rw [if_pos h]
    by_cases h2 : j = 31
    · subst h2; rw [if_pos rfl, byt_hi _ _ (by decide), if_pos rfl]; omega
    · rw [if_neg h2, byt_hi _ _ hj, if_neg h2]
  · rw [if_neg h]
    by_cases h2 : j = 31
    · subst h2; rw [if_pos rfl]; omega
    · rw [if_neg h2]
theorem top_enc (p : Ed.Pt) : top (enc p) = decide (p.x.val % 2 = 1) := by
  have h31 := by31 p.y.val (Ed.val_lt p.y)
  rw [top_iff]
  unfold enc
  split
  · rename_i h
    rw [byt_hi _ _ (by decide), if_pos rfl, decide_eq_true h, decide_eq_true (by omega)]
  · rename_i h
    rw [decide_eq_false h, decide_eq_false (by omega)]
theorem enc_of {s : ByteArray} {p : Ed.Pt} (hs : s.size = 32) (hy : p.y.val = rd (lo s) 32) (hx : decide (p.x.val % 2 = 1) = top s) : enc p = s := by
  have e : by32 p.y.val = lo s := by rw [hy]; exact by32_rd _ (lo_size s)
  have hb := byt_lt s 31
  rw [top_iff] at hx
  refine text_eq (enc_size _) hs fun j hj => ?_
  unfold enc
  rw [e]
  by_cases h : p.x.val % 2 = 1
  · rw [if_pos h]
    rw [decide_eq_true h] at hx
    have h2 : 128 ≤ byt s 31 := by
      apply Classical.byContradiction
      intro c
      rw [decide_eq_false c] at hx; cases hx
    rw [byt_hi _ _ hj]
    split
    · rename_i h3; subst h3; rw [byt_lo _ _ (by decide), if_pos rfl]; omega
    · rename_i h3; rw [byt_lo _ _ hj, if_neg h3]
  · rw [if_neg h]
    rw [decide_eq_false h] at hx
    have h2 : ¬ 128 ≤ byt s 31 := fun c => by rw [decide_eq_true c] at hx; cases hx
    rw [byt_lo _ _ hj]
    split
    · rename_i h3; subst h3; omega
    · rfl
/-- The square of the x beside y. -/
def x2 (y : Nat) : Nat := mq (sb (mq y y) 1) (iv (ad (mq (mq y y) dN) 1))
namespace Ed
theorem den_ne (y : F) : y * y * dd + 1 ≠ 0 := fun e => by
  have h := nsq (r := 1) (s := y) (by grind -lia)
  rw [h] at e
  exact one_ne (by grind -lia)
theorem on_iff (x y : F) : on x y ↔ x * x * (y * y * dd + 1) = y * y - 1 := by
  unfold on
  constructor
  · intro h; grind -lia
  · intro h; grind -lia
end Ed
theorem fe_x2 (y : Nat) : Ed.fe (x2 y) = (Ed.fe y * Ed.fe y - 1) * Ed.inv (Ed.fe y * Ed.fe y * Ed.dd + 1) := by
  unfold x2
  rw [Ed.fe_mul, Ed.fe_sub _ _ one_lt, Ed.fe_iv, Ed.fe_add, Ed.fe_mul, Ed.fe_mul (mq y y), Ed.fe_mul, Ed.fe_1, fe_dN]
theorem x2_lt (y : Nat) : x2 y < Nt.P := ml_lt _ _
theorem on_x2 (x y : Nat) : Ed.on (Ed.fe x) (Ed.fe y) ↔ mq x x = x2 y := by
  rw [Ed.on_iff, fe_eq (ml_lt _ _) (x2_lt y), Ed.fe_mul, fe_x2]
  exact (Ed.div_iff (Ed.den_ne _)).symm
theorem root_uniq {a b : Nat} (ha : a < Nt.P) (hb : b < Nt.P) (h : mq a a = mq b b) (hp : a % 2 = b % 2) : a = b := by
  have e : Ed.fe a * Ed.fe a = Ed.fe b * Ed.fe b := by rw [← Ed.fe_mul, ← Ed.fe_mul, h]
  have e2 : (Ed.fe a - Ed.fe b) * (Ed.fe a + Ed.fe b) = 0 := by grind -lia
  rcases Ed.dom e2 with f | f
  · exact Ed.fe_inj ha hb (by grind -lia)
  · have f2 : Ed.fe (ad a b) = Ed.fe 0 := by rw [Ed.fe_add, Ed.fe_0]; exact f
    have f3 := Ed.fe_inj (ad_lt _ _) zero_lt f2
    unfold ad at f3
    have hP : Nt.P % 2 = 1 := P_odd
    have h3 : a + b = 0 ∨ a + b = Nt.P := by
      have := Nat.div_add_mod (a + b) Nt.P
      rw [f3] at this
      have h4 : (a + b) / Nt.P < 2 := Nat.div_lt_of_lt_mul (by rw [Nat.mul_comm]; omega)
      generalize (a + b) / Nt.P = n at *
      rcases (show n = 0 ∨ n = 1 by omega) with q | q
      · subst q; left; omega
      · subst q; right; omega
    omega
theorem ok_true {a : Nat} {odd : Bool} (h : ok a odd = true) : mq (ro a odd) (ro a odd) = a ∧ decide (ro a odd % 2 = 1) = odd := by
  rw [ro_yes h]
  unfold ok at h
  rw [Bool.and_eq_true] at h
  refine ⟨of_decide_eq_true h.1, ?_⟩
  have h2 := h.2
  cases hd : decide (rs a odd % 2 = 1) <;> cases odd <;> simp_all
theorem has_x2 {x y : Nat} (hx : x < Nt.P) (h : mq x x = x2 y) : Nt.has (x2 y) := by
  by_cases h0 : x2 y = 0
  · exact Nt.has_zero _ h0
  · refine Nt.has_of_chi (x2_lt y) (Nt.chi_of_root (r := x) (Nt.not_dvd (by omega) (x2_lt y)) ?_)
    rw [Nat.mod_eq_of_lt (x2_lt y)]; exact h
/-- Where there is an x, the root is it. -/
theorem root_of {x y : Nat} (hx : x < Nt.P) (h : mq x x = x2 y) : ok (x2 y) (decide (x % 2 = 1)) = true ∧ ro (x2 y) (decide (x % 2 = 1)) = x := by
  have hok : ok (x2 y) (decide (x % 2 = 1)) = true := by
    by_cases h0 : x2 y = 0
    · have hx0 : x = 0 := by
        rw [h0] at h
        have e : Ed.fe x * Ed.fe x = 0 := by rw [← Ed.fe_mul, h, Ed.fe_0]
        have e2 : Ed.fe x = 0 := by rcases Ed.dom e with f | f <;> exact f
        exact Ed.fe_inj hx zero_lt (by rw [e2, Ed.fe_0])
      rw [ok_zero _ _ h0, hx0]; rfl
    · exact ok_has _ (by omega) (has_x2 hx h)
  refine ⟨hok, ?_⟩
  obtain ⟨h1, h2⟩ := ok_true hok
  refine root_uniq (ro_ltP _ _) hx (h1.trans h.symm) ?_
  have : decide (ro (x2 y) (decide (x % 2 = 1)) % 2 = 1) = decide (x % 2 = 1) := h2
  by_cases c : x % 2 = 1
  · rw [decide_eq_true c] at this
    rw [decide_eq_true c]
    have := of_decide_eq_true this
    omega
  · rw [decide_eq_false c] at this
    rw [decide_eq_false c]
    have := of_decide_eq_false this
    omega
theorem on_val {p : Ed.Pt} (h : p.On) : mq p.x.val p.x.val = x2 p.y.val := (on_x2 _ _).1 (by rw [Ed.fe_of, Ed.fe_of]; exact h)
theorem enc_inj {p q : Ed.Pt} (hp : p.On) (hq : q.On) (h : enc p = enc q) : p = q := by
  have h1 : by32 p.y.val = by32 q.y.val := by rw [← lo_enc, ← lo_enc, h]
  have hy : p.y.val = q.y.val := by
    have := congrArg (fun s => rd s 32) h1
    simp only [rd_by32 _ (lt4 (Ed.val_lt _))] at this
    exact this
  have h2 : decide (p.x.val % 2 = 1) = decide (q.x.val % 2 = 1) := by rw [← top_enc, ← top_enc, h]
  have h3 : p.x.val % 2 = q.x.val % 2 := by
    by_cases c : p.x.val % 2 = 1
    · rw [decide_eq_true c] at h2
      have := of_decide_eq_true h2.symm
      omega
    · rw [decide_eq_false c] at h2
      have := of_decide_eq_false h2.symm
      omega
  have hx : p.x.val = q.x.val := root_uniq (Ed.val_lt _) (Ed.val_lt _) (by rw [on_val hp, on_val hq, hy]) h3
  exact Ed.pt_eq (Fin.ext hx) (Fin.ext hy)
/-- The base point. -/
def Bp : Ed.Pt := ⟨15112221349535400772501151409588531511454012693041857206046113283949847762202, 46316835694926478169428394003475163141307993866256225615783033603165251855960⟩
theorem Bp_on : Bp.On := by show Ed.on _ _; unfold Ed.on; decide +kernel
theorem enc_Bp : enc Bp = bbs := by decide +kernel
end Go.Proofs.YtpdagpjjlnncbaaDoor
namespace Go.Proofs.YtpdagpjjlnncbaaDoor
open Go.RowKit Go.Lib Go.BigFrame
set_option linter.unusedVariables false
set_option linter.unusedSimpArgs false
set_option maxRecDepth 1000000
set_option maxHeartbeats 4000000

theorem canon_yes (s : ByteArray) (hs : s.size = 32) (w : World) (hP : PV w) : Calls Tryd.prog 30 #[.string s] w fun e w' => e = .returned (.bool (decide (rd s 32 < Nt.P))) ∧ Fr [] w w' := by
  have hP2 := hid (p := _) hP
  have K1 := fun W => read_any s hs W
  have K2 := fun W => minus_any (rd s 32) Nt.P (rd_lt4 s) P_lt W
  rw [← wd_P] at K2
  have hb : (((bo (rd s 32) Nt.P : Nat) : Int) != 0) = decide (rd s 32 < Nt.P) := by
    unfold bo
    by_cases h : rd s 32 < Nt.P <;> simp [h]
  have hsi : (s.size : Int) = 32 := by omega
  have HB := hid (p := _) hb
  clear hs hb hP
  rw [← HB.out]
  generalize bo (rd s 32) Nt.P = b at *
  obtain ⟨m0, m1, m2, m3, -, -, -, -, -, wm⟩ := wd_open ((rd s 32 + 115792089237316195423570985008687907853269984665640564039457584007913129639936 - Nt.P) % 115792089237316195423570985008687907853269984665640564039457584007913129639936) (Nat.mod_lt _ (by decide))
  rw [wm] at K2
  obtain ⟨n0, n1, n2, n3, -, -, -, -, -, wn⟩ := wd_open (rd s 32) (rd_lt4 s)
  rw [wn] at K1 K2
  clear wm wn HB
  have H1 := hid (p := _) K1
  have H2 := hid (p := _) K2
  clear K1 K2
  obtain ⟨q0, q1, q2, q3, q4, q5, q6, q7⟩ := hP2.out
  have hz0 := hP2.out.size
  have hz1 : 0 ≠ w.heap.size := by omega
  have hz2 : w.heap.size ≠ 0 := by omega
  go_enter Tryd.func30, Tryd.ntmps30
  go_wp2_with fail
  go_region_held3 (fun V' => V'.cell? ⟨0, 0, none⟩ = some (.int .u64 18446744073709551597) ∧ V'.cell? ⟨0, 1, none⟩ = some (.int .u64 18446744073709551615) ∧ V'.cell? ⟨0, 2, none⟩ = some (.int .u64 18446744073709551615) ∧ V'.cell? ⟨0, 3, none⟩ = some (.int .u64 9223372036854775807)) (go_keep)
    (first | (go_at_call 63; with_reducible refine (H1.out _).mono ?_; rintro e Va ⟨rfl, hF⟩; first | (have Fa : Fr [] w Va := (by with_reducible exact (Fr.refl [] w).drew.trans0 hF); obtain ⟨_, _, _, _, _, _, _, _⟩ := hP2.out.fr Fa; have hna : Va.heap.size ≠ 0 := (by have := (hP2.out.fr Fa).size; omega); clear hF) | (have Fa : Fr [] w Va := ((Fr.refl [] w).alloc _).drew.trans0 hF; have Oa : L4 Va w.heap.size 25 (.int .u64 0) (.int .u64 0) (.int .u64 0) (.int .u64 0) := (L4.new w 25 _ _ _ _).fr ((Fr.refl [] _).drew.trans0 hF); obtain ⟨_, _, _, _, _, _, _, _⟩ := hP2.out.fr Fa; have hna : Va.heap.size ≠ 0 := (by have := (hP2.out.fr Fa).size; omega); clear hF)) | (go_at_call 62; with_reducible refine (H2.out _).mono ?_; rintro e Vb ⟨rfl, hF⟩; first | (have Fb : Fr [] w Vb := (by with_reducible exact Fa.trans0 hF); have Ob : L4 Vb w.heap.size 25 (.int .u64 0) (.int .u64 0) (.int .u64 0) (.int .u64 0) := Oa.fr hF; obtain ⟨_, _, _, _, _, _, _, _, _, _⟩ := Ob.all; obtain ⟨_, _, _, _, _, _, _, _⟩ := hP2.out.fr Fb; have hnb : Vb.heap.size ≠ 0 := (by have := (hP2.out.fr Fb).size; omega); clear hF) | (have Fb : Fr [] w Vb := (by with_reducible exact Fa.trans0 hF); obtain ⟨_, _, _, _, _, _, _, _⟩ := hP2.out.fr Fb; have hnb : Vb.heap.size ≠ 0 := (by have := (hP2.out.fr Fb).size; omega); clear hF) | (have Fb : Fr [] w Vb := (Fa.alloc _).trans0 hF; have Ob : L4 Vb Va.heap.size 25 (.int .u64 0) (.int .u64 0) (.int .u64 0) (.int .u64 0) := (L4.new Va 25 _ _ _ _).fr hF; obtain ⟨_, _, _, _, _, _, _, _, _, _⟩ := Ob.all; obtain ⟨_, _, _, _, _, _, _, _⟩ := hP2.out.fr Fb; have hnb : Vb.heap.size ≠ 0 := (by have := (hP2.out.fr Fb).size; omega); clear hF)))
  all_goals go_wp2_with fail
  all_goals go_ret
  all_goals refine ⟨rfl, ?_⟩
  all_goals first | exact Fb.alloc _ | exact Fb.set4 (by have := Fa.size; omega) _ _ _ _
theorem canon_no (s : ByteArray) (hs : s.size ≠ 32) (w : World) : Calls Tryd.prog 30 #[.string s] w fun e w' => e = .returned (.bool false) ∧ Fr [] w w' := by
  have hsi : ¬ (s.size : Int) = 32 := by omega
  go_enter Tryd.func30, Tryd.ntmps30
  go_wp2_with fail
  go_ret
  exact ⟨rfl, Fr.refl [] w⟩

end Go.Proofs.YtpdagpjjlnncbaaDoor
