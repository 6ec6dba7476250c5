/-
  The document's Of (pharosref07): twice a number and a bit, byte by byte. No statement is proved here.
-/
import Derived.Test.YtgjpombdkgomaaaDoorOrdS
namespace Go.Proofs.YtgjpombdkgomaaaDoor
open Go.RowKit Go.Lib Go.BigFrame
set_option linter.unusedVariables false
set_option linter.unusedSimpArgs false
set_option maxRecDepth 1000000
set_option maxHeartbeats 4000000

/-- The carry ahead of byte j of twice R and the bit b. -/
def cy (R b : Nat) : Nat → Nat
  | 0 => b
  | j + 1 => vb R j / 128
theorem cy_le {R b : Nat} (hb : b ≤ 1) : ∀ j, cy R b j ≤ 1
  | 0 => hb
  | j + 1 => by
    have := vb_lt R j
    show vb R j / 128 ≤ 1
    omega
theorem cy_div {R b : Nat} (hb : b ≤ 1) : ∀ j, (2 * R + b) / 256 ^ j = 2 * (R / 256 ^ j) + cy R b j
  | 0 => by rw [Nat.pow_zero, Nat.div_one, Nat.div_one]; rfl
  | j + 1 => by
    have ih := cy_div (R := R) hb j
    have hc := cy_le (R := R) hb j
    have hd := div_vb R j
    have hv := vb_lt R j
    rw [Nat.pow_succ, ← Nat.div_div_eq_div_mul, ih, hd, ← Nat.pow_succ]
    show _ = _ + vb R j / 128
    generalize R / 256 ^ (j + 1) = q at *
    generalize vb R j = x at *
    generalize cy R b j = c at *
    omega
theorem cy_vb {R b : Nat} (hb : b ≤ 1) (j : Nat) : vb (2 * R + b) j = (2 * vb R j + cy R b j) % 256 := by
  have h := cy_div (R := R) hb j
  have hd := div_vb R j
  have hc := cy_le (R := R) hb j
  show (2 * R + b) / 256 ^ j % 256 = _
  rw [h, hd]
  generalize R / 256 ^ (j + 1) = q at *
  generalize vb R j = x at *
  generalize cy R b j = c at *
  omega
theorem or_cy : ∀ (x : Fin 256) (c : Fin 2), bits .or .u8 (((x.1 : Nat) : Int) * 2 % 256) ((c.1 : Nat) : Int) = (((2 * x.1 + c.1) % 256 : Nat) : Int) := by decide +kernel
theorem or_vb {R b : Nat} (hb : b ≤ 1) (j : Nat) : bits .or .u8 (((vb R j : Nat) : Int) * 2 % 256) ((cy R b j : Nat) : Int) = ((vb (2 * R + b) j : Nat) : Int) := by
  rw [cy_vb hb]
  exact or_cy ⟨vb R j, vb_lt R j⟩ ⟨cy R b j, by have := cy_le (R := R) hb j; omega⟩
/-- The row of twice R and b ahead of byte j. -/
def dl (R b j : Nat) : List Nat := (List.range 32).map fun k => if k < j then vb (2 * R + b) k else vb R k
theorem dl_zero (R b : Nat) : dl R b 0 = vbl R := by simp [dl, vbl]
theorem dl_all (R b : Nat) : dl R b 32 = vbl (2 * R + b) := by
  unfold dl vbl
  apply List.map_congr_left
  intro j hj
  rw [if_pos (by simpa using hj)]
theorem dl_len (R b i : Nat) : (dl R b i).length = 32 := by simp [dl]
theorem dl_get (R b i : Nat) (h : i < 32) : (dl R b i).getD i 0 = vb R i := by simp [dl, h]
theorem dl_set (R b i : Nat) (h : i < 32) : (dl R b i).set i (vb (2 * R + b) i) = dl R b (i + 1) := by
  apply List.ext_getElem
  · simp [dl]
  · intro j h1 h2
    rw [List.getElem_set]
    split
    · rename_i e
      subst e
      simp [dl]
    · rename_i e
      simp only [dl, List.getElem_map, List.getElem_range]
      by_cases hji : j < i
      · rw [if_pos hji, if_pos (by omega)]
      · rw [if_neg hji, if_neg (by omega)]
/-- What is taken away of twice a number below L and a bit. -/
theorem less_mod {S : Nat} (h : S < 2 * Lq) : S % Lq = if S < Lq then S else S - Lq := by
  split
  · rename_i h1; exact Nat.mod_eq_of_lt h1
  · rename_i h1
    rw [Nat.mod_eq_sub_mod (by omega), Nat.mod_eq_of_lt (by omega)]
theorem byt_bit (s : ByteArray) (n i : Nat) (h : i < 8 * n) : byt s (i / 8) / 2 ^ (i % 8) % 2 = rd s n / 2 ^ i % 2 := by
  obtain ⟨c, hc⟩ := rd_high s (i / 8) (n - i / 8 - 1)
  rw [show i / 8 + 1 + (n - i / 8 - 1) = n by omega] at hc
  have h1 := dig_bit (k := 8) (r := i % 8) (by omega) (rd s n) (i / 8)
  rw [Nat.pow_mul, show 8 * (i / 8) + i % 8 = i by omega] at h1
  have h2 : rd s n / 256 ^ (i / 8) % 256 = byt s (i / 8) := by
    rw [hc, Nat.add_mul_div_left _ _ (Nat.pow_pos (by decide)), Nat.div_eq_of_lt (rd_lt s _), Nat.zero_add, Nat.add_mul_mod_self_left, Nat.mod_eq_of_lt (byt_lt s _)]
  rw [← h1, ← h2]
end Go.Proofs.YtgjpombdkgomaaaDoor
