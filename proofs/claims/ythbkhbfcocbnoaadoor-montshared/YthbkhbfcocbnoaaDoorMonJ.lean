/-
  Package mont: the ladder by the number that a secret is; what public keys are as numbers; some values. No statement is proved here.
-/
import Derived.Test.YthbkhbfcocbnoaaDoorMonI
import Derived.Test.YthbkhbfcocbnoaaDoorRedE
namespace Go.Proofs.YthbkhbfcocbnoaaDoor
open Go.RowKit Go.Lib Go.BigFrame
set_option linter.unusedVariables false
set_option linter.unusedSimpArgs false
set_option maxRecDepth 1000000
set_option maxHeartbeats 4000000

theorem bt_rd (s : ByteArray) (i : Nat) (h : i < 256) : bx s i = rd s 32 / 2 ^ i % 2 := by
  obtain ⟨c, hc⟩ := rd_high s (i / 8) (32 - i / 8 - 1)
  rw [show i / 8 + 1 + (32 - i / 8 - 1) = 32 by omega] at hc
  have h1 := dig_bit (k := 8) (r := i % 8) (by omega) (rd s 32) (i / 8)
  rw [Nat.pow_mul, show 8 * (i / 8) + i % 8 = i by omega] at h1
  have h2 : rd s 32 / 256 ^ (i / 8) % 256 = byt s (i / 8) := by
    rw [hc, Nat.add_mul_div_left _ _ (Nat.pow_pos (by decide)), Nat.div_eq_of_lt (rd_lt s _), Nat.zero_add, Nat.add_mul_mod_self_left, Nat.mod_eq_of_lt (byt_lt s _)]
  unfold bx
  rw [← h1, ← h2]
/-- The ladder behind k bits of a number, from the bit 254 down. -/
def rnN (n X : Nat) : Nat → St
  | 0 => ⟨1, 0, X, 1, 0⟩
  | k + 1 => St.cl X ((rnN n X k).tn (n / 2 ^ (254 - k) % 2))
def ladN (n X : Nat) : Nat := mq ((rnN n X 255).tn 0).a (iv ((rnN n X 255).tn 0).b)
theorem rn_eq (s : ByteArray) (X : Nat) : ∀ k, k ≤ 255 → rn s X k = rnN (rd s 32) X k
  | 0, _ => rfl
  | k + 1, h => by
    rw [rn, rnN, rn_eq s X k (by omega), bt_rd s _ (by omega)]
theorem lad_eq (s : ByteArray) (X : Nat) : lad s X = ladN (rd s 32) X := by unfold lad ladN; rw [rn_eq s X 255 (Nat.le_refl _)]
theorem rd_same (s t : ByteArray) : ∀ n, (∀ j, j < n → byt s j = byt t j) → rd s n = rd t n
  | 0, _ => rfl
  | n + 1, h => by rw [rd, rd, rd_same s t n (fun j hj => h j (by omega)), h n (by omega)]
theorem byt_by32 (v j : Nat) (hj : j < 32) : byt (by32 v) j = vb v j := by
  unfold byt
  rw [by32_data]
  have h : vb v j < 256 := Nat.mod_lt _ (by decide)
  simp [hj]
  omega
theorem rd_is (s : ByteArray) (v : Nat) : ∀ n, (∀ j, j < n → byt s j = vb v j) → rd s n = v % 256 ^ n
  | 0, _ => by rw [rd, Nat.pow_zero, Nat.mod_one]
  | n + 1, h => by
    rw [rd, rd_is s v n (fun j hj => h j (by omega)), h n (by omega), Nat.mod_pow_succ, Nat.mul_comm]
    rfl
theorem rd_by32 (v : Nat) (hv : v < 115792089237316195423570985008687907853269984665640564039457584007913129639936) : rd (by32 v) 32 = v := by
  rw [rd_is (by32 v) v 32 (fun j hj => byt_by32 v j hj)]
  exact Nat.mod_eq_of_lt hv
theorem bits_no128 : ∀ x : Fin 256, (bits .andNot .u8 ((x.1 : Nat) : Int) 128).toNat % 256 = x.1 % 128 := by decide +kernel
theorem byt_cm (s : ByteArray) (j : Nat) (hj : j < 31) : byt (sbi (cm s)) j = byt s j := by
  rw [byt_sbi _ _ (by omega)]
  unfold cm
  rw [if_neg (by omega)]
  have := byt_lt s j
  show (byt s j : Nat) % 256 = _
  omega
theorem byt_cm31 (s : ByteArray) : byt (sbi (cm s)) 31 = byt s 31 % 128 := by
  rw [byt_sbi _ _ (by omega)]
  unfold cm
  rw [if_pos rfl]
  exact bits_no128 ⟨byt s 31, byt_lt s 31⟩
theorem rd_cm (s : ByteArray) : rd (sbi (cm s)) 32 = rd s 32 % 57896044618658097711785492504343953926634992332820282019728792003956564819968 := by
  have h1 : rd (sbi (cm s)) 32 = rd s 31 + byt s 31 % 128 * 256 ^ 31 := by
    show rd (sbi (cm s)) 31 + byt (sbi (cm s)) 31 * 256 ^ 31 = _
    rw [byt_cm31, rd_same (sbi (cm s)) s 31 (fun j hj => byt_cm s j hj)]
  have h2 : rd s 32 = rd s 31 + byt s 31 * 256 ^ 31 := rfl
  have h3 := rd_lt s 31
  rw [h1, h2]
  generalize rd s 31 = r at *
  generalize byt s 31 = b at *
  have e : (256 : Nat) ^ 31 = 452312848583266388373324160190187140051835877600158453279131187530910662656 := by decide
  rw [e] at *
  omega
/-- The number that a public key is. -/
def kp (p : ByteArray) : Nat := rd p 32 % 57896044618658097711785492504343953926634992332820282019728792003956564819968 % Nt.P
theorem of_cm (p : ByteArray) : of (sbi (cm p)) = kp p := by unfold of kp; rw [rd_cm]
theorem kp_lt (p : ByteArray) : kp p < Nt.P := Nat.mod_lt _ P_pos
theorem kp_by32 {v : Nat} (hv : v < Nt.P) : kp (by32 v) = v := by
  unfold kp
  rw [rd_by32 v (lt4 hv), Nat.mod_eq_of_lt (a := v), Nat.mod_eq_of_lt hv]
  have := Nt.P_val
  omega
/-- The number that a secret is. -/
def kn (s : ByteArray) : Nat := rd (sbi (cl s)) 32
theorem shv_eq (s p : ByteArray) : shv s p = ladN (kn s) (kp p) := by unfold shv; rw [of_cm, lad_eq]; rfl
theorem pbv_eq (s : ByteArray) : pbv s = ladN (kn s) 9 := by unfold pbv; rw [lad_eq]; rfl
theorem iv_pm (b : Nat) : iv b = Nt.pm Nt.P 255 b (Nt.P - 2) := (Nt.pm_eq Nt.P 255 b _ (by rw [Nt.P_val]; decide +kernel)).symm
theorem ladN_of {n X v : Nat} (h : mq ((rnN n X 255).tn 0).a (Nt.pm Nt.P 255 ((rnN n X 255).tn 0).b (Nt.P - 2)) = v) : ladN n X = v := by
  unfold ladN
  rw [iv_pm]; exact h
theorem lad_a9 : ladN 43874346312576839672212443538448152585028080127215369968075725190498334277632 9 = 16572691432107831290236438983220704641597839740724002177525024145463529258009 := ladN_of (by decide +kernel)
theorem lad_b9 : ladN 44326659161160106060585767698638339725079916004815528421354856378029244940288 9 = 3873599628253772194686510826457445042224408612751331329672488392857300769615 := ladN_of (by decide +kernel)
theorem lad_ab : ladN 43874346312576839672212443538448152585028080127215369968075725190498334277632 3873599628253772194686510826457445042224408612751331329672488392857300769615 = 45863505615179444264250632754092809270636439140959747961807530266934234225689 := ladN_of (by decide +kernel)
theorem lad_ba : ladN 44326659161160106060585767698638339725079916004815528421354856378029244940288 16572691432107831290236438983220704641597839740724002177525024145463529258009 = 45863505615179444264250632754092809270636439140959747961807530266934234225689 := ladN_of (by decide +kernel)
theorem lad_a0 : ladN 43874346312576839672212443538448152585028080127215369968075725190498334277632 0 = 0 := ladN_of (by decide +kernel)
end Go.Proofs.YthbkhbfcocbnoaaDoor
