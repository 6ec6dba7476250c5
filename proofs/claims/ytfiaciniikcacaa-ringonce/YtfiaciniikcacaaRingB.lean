/-
  What bytes an added chain has in memory: its descriptors, the head that is offered, the index. No statement is proved here.
-/
import Derived.Test.YtfiaciniikcacaaRing18
namespace Go.Proofs.Ytfiaciniikcacaa
open Go.RowKit Go.BigFrame Go.MapKept
set_option linter.unusedVariables false
set_option linter.unusedSimpArgs false
set_option maxRecDepth 1000000
set_option maxHeartbeats 4000000

theorem descW_length (bs : List UInt8) (D A L fl nx : Nat) (h : D + 16 ≤ bs.length) : (descW bs D A L fl nx).length = bs.length := by
  unfold descW
  have h1 : (wrb bs D (le 8 A)).length = bs.length := wrb_length _ _ _ (by rw [le_length]; omega)
  have h2 : (wrb (wrb bs D (le 8 A)) (D + 8) (le 4 L)).length = bs.length := by rw [wrb_length _ _ _ (by rw [le_length]; omega), h1]
  have h3 : (wrb (wrb (wrb bs D (le 8 A)) (D + 8) (le 4 L)) (D + 12) (le 2 fl)).length = bs.length := by rw [wrb_length _ _ _ (by rw [le_length]; omega), h2]
  rw [wrb_length _ _ _ (by rw [le_length]; omega), h3]
theorem descW_out (bs : List UInt8) (D A L fl nx b n : Nat) (h : D + 16 ≤ bs.length) (hj : b + n ≤ D ∨ D + 16 ≤ b) : num (descW bs D A L fl nx) b n = num bs b n := by
  unfold descW
  have h1 : (wrb bs D (le 8 A)).length = bs.length := wrb_length _ _ _ (by rw [le_length]; omega)
  have h2 : (wrb (wrb bs D (le 8 A)) (D + 8) (le 4 L)).length = bs.length := by rw [wrb_length _ _ _ (by rw [le_length]; omega), h1]
  have h3 : (wrb (wrb (wrb bs D (le 8 A)) (D + 8) (le 4 L)) (D + 12) (le 2 fl)).length = bs.length := by rw [wrb_length _ _ _ (by rw [le_length]; omega), h2]
  rw [num_out (by rw [le_length]; omega) (by rw [le_length]; omega), num_out (by rw [le_length]; omega) (by rw [le_length]; omega), num_out (by rw [le_length]; omega) (by rw [le_length]; omega), num_out (by rw [le_length]; omega) (by rw [le_length]; omega)]
theorem descW_in (bs : List UInt8) (D A L fl nx : Nat) (h : D + 16 ≤ bs.length) (hA : A < 18446744073709551616) (hL : L < 4294967296) (hf : fl < 65536) (hn : nx < 65536) :
    num (descW bs D A L fl nx) D 8 = A ∧ num (descW bs D A L fl nx) (D + 8) 4 = L ∧ num (descW bs D A L fl nx) (D + 12) 2 = fl ∧ num (descW bs D A L fl nx) (D + 14) 2 = nx := by
  unfold descW
  have h1 : (wrb bs D (le 8 A)).length = bs.length := wrb_length _ _ _ (by rw [le_length]; omega)
  have h2 : (wrb (wrb bs D (le 8 A)) (D + 8) (le 4 L)).length = bs.length := by rw [wrb_length _ _ _ (by rw [le_length]; omega), h1]
  have h3 : (wrb (wrb (wrb bs D (le 8 A)) (D + 8) (le 4 L)) (D + 12) (le 2 fl)).length = bs.length := by rw [wrb_length _ _ _ (by rw [le_length]; omega), h2]
  refine ⟨?_, ?_, ?_, ?_⟩
  · rw [num_out (by rw [le_length]; omega) (by rw [le_length]; omega), num_out (by rw [le_length]; omega) (by rw [le_length]; omega), num_out (by rw [le_length]; omega) (by rw [le_length]; omega), num_le (by omega) hA]
  · rw [num_out (by rw [le_length]; omega) (by rw [le_length]; omega), num_out (by rw [le_length]; omega) (by rw [le_length]; omega), num_le (by omega) hL]
  · rw [num_out (by rw [le_length]; omega) (by rw [le_length]; omega), num_le (by omega) hf]
  · rw [num_le (by omega) hn]
theorem offW_length (bs : List UInt8) (at_ N idx head : Nat) (hN : 1 ≤ N) (h : at_ + 16 * N + 4 + 2 * N ≤ bs.length) : (offW bs at_ N idx head).length = bs.length := by
  have hm := Nat.mod_lt idx (show 0 < N by omega)
  unfold offW
  have h1 : (wrb bs (at_ + 16 * N + 4 + 2 * (idx % N)) (le 2 head)).length = bs.length := wrb_length _ _ _ (by rw [le_length]; omega)
  rw [wrb_length _ _ _ (by rw [le_length]; omega), h1]
theorem offW_out (bs : List UInt8) (at_ N idx head b n : Nat) (hN : 1 ≤ N) (h : at_ + 16 * N + 4 + 2 * N ≤ bs.length) (hj : b + n ≤ at_ + 16 * N ∨ at_ + 16 * N + 4 + 2 * N ≤ b) : num (offW bs at_ N idx head) b n = num bs b n := by
  have hm := Nat.mod_lt idx (show 0 < N by omega)
  unfold offW
  have h1 : (wrb bs (at_ + 16 * N + 4 + 2 * (idx % N)) (le 2 head)).length = bs.length := wrb_length _ _ _ (by rw [le_length]; omega)
  rw [num_out (by rw [le_length]; omega) (by rw [le_length]; omega), num_out (by rw [le_length]; omega) (by rw [le_length]; omega)]
theorem offW_in (bs : List UInt8) (at_ N idx head : Nat) (hN : 1 ≤ N) (h : at_ + 16 * N + 4 + 2 * N ≤ bs.length) (hh : head < 65536) :
    num (offW bs at_ N idx head) (at_ + 16 * N + 2) 2 = (idx + 1) % 65536 ∧ num (offW bs at_ N idx head) (at_ + 16 * N + 4 + 2 * (idx % N)) 2 = head := by
  have hm := Nat.mod_lt idx (show 0 < N by omega)
  unfold offW
  have h1 : (wrb bs (at_ + 16 * N + 4 + 2 * (idx % N)) (le 2 head)).length = bs.length := wrb_length _ _ _ (by rw [le_length]; omega)
  refine ⟨?_, ?_⟩
  · rw [num_le (by omega) (by omega)]
  · rw [num_out (by rw [le_length]; omega) (by rw [le_length]; omega), num_le (by omega) hh]
theorem dW_length (bs : List UInt8) (at_ : Nat) (ds : List Nat) (xs : List Bf) (hb : ∀ d, d ∈ ds → at_ + 16 * d + 16 ≤ bs.length) : ∀ i, i ≤ ds.length → (dW bs at_ ds xs i).length = bs.length
  | 0, _ => rfl
  | i + 1, hi => by
    have ih := dW_length bs at_ ds xs hb i (by omega)
    have e : ds.getD i 0 = ds[i]'(by omega) := by simp [show i < ds.length by omega]
    have := hb _ (List.getElem_mem (show i < ds.length by omega))
    rw [dW, descW_length _ _ _ _ _ _ (by rw [ih, e]; exact this), ih]
theorem dW_out (bs : List UInt8) (at_ : Nat) (ds : List Nat) (xs : List Bf) (hb : ∀ d, d ∈ ds → at_ + 16 * d + 16 ≤ bs.length) (b n : Nat) (ho : ∀ d, d ∈ ds → b + n ≤ at_ + 16 * d ∨ at_ + 16 * d + 16 ≤ b) : ∀ i, i ≤ ds.length → num (dW bs at_ ds xs i) b n = num bs b n
  | 0, _ => rfl
  | i + 1, hi => by
    have ih := dW_out bs at_ ds xs hb b n ho i (by omega)
    have e : ds.getD i 0 = ds[i]'(by omega) := by simp [show i < ds.length by omega]
    have h1 := hb _ (List.getElem_mem (show i < ds.length by omega))
    have h2 := ho _ (List.getElem_mem (show i < ds.length by omega))
    rw [dW, descW_out _ _ _ _ _ _ _ _ (by rw [dW_length bs at_ ds xs hb i (by omega), e]; exact h1) (by rw [e]; exact h2), ih]
theorem flg_lt (a b : Bool) : flg a b < 65536 := by unfold flg; split <;> split <;> omega
theorem dW_in (bs : List UInt8) (at_ : Nat) (ds : List Nat) (xs : List Bf) (hb : ∀ d, d ∈ ds → at_ + 16 * d + 16 ≤ bs.length) (hn : ds.Nodup) (hd : ∀ d, d ∈ ds → d < 65536) (hx : ∀ x, x ∈ xs → x.A < 4294967296 ∧ x.L < 4294967296) (hl : xs.length = ds.length) (k : Nat) (hk : k < ds.length) : ∀ i, i ≤ ds.length → k < i →
    num (dW bs at_ ds xs i) (at_ + 16 * ds[k]) 8 = (xs[k]'(by omega)).A ∧ num (dW bs at_ ds xs i) (at_ + 16 * ds[k] + 8) 4 = (xs[k]'(by omega)).L ∧ num (dW bs at_ ds xs i) (at_ + 16 * ds[k] + 12) 2 = flg (decide (k + 1 < ds.length)) (xs[k]'(by omega)).I ∧ num (dW bs at_ ds xs i) (at_ + 16 * ds[k] + 14) 2 = ds.getD (k + 1) 0
  | 0, _, h => by omega
  | i + 1, hi, hki => by
    have hi' : i < ds.length := by omega
    have e : ds.getD i 0 = ds[i] := by simp [hi']
    have ex : xs.getD i ⟨0, 0, false⟩ = xs[i]'(by omega) := by simp [show i < xs.length by omega]
    have h1 := hb _ (List.getElem_mem hi')
    have hlen := dW_length bs at_ ds xs hb i (by omega)
    rw [dW]
    rcases Nat.lt_or_ge k i with h | h
    · have ih := dW_in bs at_ ds xs hb hn hd hx hl k hk i (by omega) h
      have hne : ds[k] ≠ ds[i] := fun he => by
        have := (List.getElem_inj hn).1 he
        omega
      rw [descW_out _ _ _ _ _ _ _ _ (by rw [hlen, e]; exact h1) (by rw [e]; omega), descW_out _ _ _ _ _ _ _ _ (by rw [hlen, e]; exact h1) (by rw [e]; omega), descW_out _ _ _ _ _ _ _ _ (by rw [hlen, e]; exact h1) (by rw [e]; omega), descW_out _ _ _ _ _ _ _ _ (by rw [hlen, e]; exact h1) (by rw [e]; omega)]
      exact ih
    · obtain rfl : k = i := by omega
      have hnx : ds.getD (k + 1) 0 < 65536 := by
        rcases Nat.lt_or_ge (k + 1) ds.length with g | g
        · have := hd _ (List.getElem_mem g); simpa [g] using this
        · simp [g]
      have hx' := hx _ (List.getElem_mem (show k < xs.length by omega))
      rw [e, ex]
      exact descW_in _ _ _ _ _ _ (by rw [hlen]; exact h1) (by omega) hx'.2 (flg_lt _ _) hnx
end Go.Proofs.Ytfiaciniikcacaa
