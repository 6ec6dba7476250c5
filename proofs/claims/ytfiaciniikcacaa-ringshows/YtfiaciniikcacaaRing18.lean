/-
  The number that bytes are; how many bytes the device may write into a chain. No statement is proved here.
-/
import Derived.Test.YtfiaciniikcacaaRing17
namespace Go.Proofs.Ytfiaciniikcacaa
open Go.RowKit Go.BigFrame Go.MapKept
set_option linter.unusedVariables false
set_option linter.unusedSimpArgs false
set_option maxRecDepth 1000000
set_option maxHeartbeats 4000000

/-- The number that bytes are, the lowest first. -/
def un : List UInt8 → Nat
  | [] => 0
  | b :: r => b.toNat + 256 * un r
theorem le_succ (n x : Nat) : le (n + 1) x = UInt8.ofNat (x % 256) :: le n (x / 256) := by
  simp only [le, List.range_succ_eq_map, List.map_cons, List.map_map]
  congr 1
  · simp
  · refine List.map_congr_left fun i _ => ?_
    simp only [Function.comp]
    rw [Nat.pow_succ', Nat.div_div_eq_div_mul]
theorem un_le : ∀ (n x : Nat), un (le n x) = x % 256 ^ n
  | 0, x => by simp [le, un, Nat.mod_one]
  | n + 1, x => by
    rw [le_succ, un, un_le n, Nat.pow_succ', Nat.mod_mul]
    have : (UInt8.ofNat (x % 256)).toNat = x % 256 := by simp
    rw [this]
theorem un_lt : ∀ l : List UInt8, un l < 256 ^ l.length
  | [] => by simp [un]
  | b :: r => by
    have h1 := un_lt r
    have h2 := b.toNat_lt
    have h3 : 256 ^ (b :: r).length = 256 * 256 ^ r.length := by simp [Nat.pow_succ']
    rw [un, h3]
    have h4 : (2 : Nat) ^ 8 = 256 := rfl
    omega
def num (bs : List UInt8) (a n : Nat) : Nat := un ((bs.drop a).take n)
theorem num_lt (bs : List UInt8) (a n : Nat) : num bs a n < 256 ^ n := by
  refine Nat.lt_of_lt_of_le (un_lt _) (Nat.pow_le_pow_right (by omega) ?_)
  simp; omega
theorem num_of {bs : List UInt8} {a n x : Nat} (h : (bs.drop a).take n = le n x) (hx : x < 256 ^ n) : x = num bs a n := by
  rw [num, h, un_le, Nat.mod_eq_of_lt hx]
theorem u16_is (bM bm bb k a : Nat) (lv : Value) (l : List (Nat × Nat)) (bs : List UInt8) (w : World) (hM : MemA w bM bm bb k lv l bs) (ho : a + 2 ≤ k) :
    Calls Try.prog 26 #[.pointer (some ⟨bM, 0, none⟩), .int .u32 a] w fun e w' => e = .returned (.tuple #[.int .u16 (num bs a 2 : Nat), .int .i64 0]) ∧ Fr [] w w' :=
  (u16_any bM bm bb k a lv l bs w hM ho).mono fun e w' ⟨x, h1, h2, h3, h4⟩ => ⟨by rw [h3, ← num_of h2 h1], h4⟩
theorem u32_is (bM bm bb k a : Nat) (lv : Value) (l : List (Nat × Nat)) (bs : List UInt8) (w : World) (hM : MemA w bM bm bb k lv l bs) (ho : a + 4 ≤ k) :
    Calls Try.prog 28 #[.pointer (some ⟨bM, 0, none⟩), .int .u32 a] w fun e w' => e = .returned (.tuple #[.int .u32 (num bs a 4 : Nat), .int .i64 0]) ∧ Fr [] w w' :=
  (u32_any bM bm bb k a lv l bs w hM ho).mono fun e w' ⟨x, h1, h2, h3, h4⟩ => ⟨by rw [h3, ← num_of h2 h1], h4⟩
theorem u64_is (bM bm bb k a : Nat) (lv : Value) (l : List (Nat × Nat)) (bs : List UInt8) (w : World) (hM : MemA w bM bm bb k lv l bs) (ho : a + 8 ≤ k) :
    Calls Try.prog 27 #[.pointer (some ⟨bM, 0, none⟩), .int .u32 a] w fun e w' => e = .returned (.tuple #[.int .u64 (num bs a 8 : Nat), .int .i64 0]) ∧ Fr [] w w' :=
  (u64_any bM bm bb k a lv l bs w hM ho).mono fun e w' ⟨x, h1, h2, h3, h4⟩ => ⟨by rw [h3, ← num_of h2 h1], h4⟩

theorem wrb_length (bs s : List UInt8) (a : Nat) (h : a + s.length ≤ bs.length) : (wrb bs a s).length = bs.length := by
  simp [wrb]; omega
theorem wrb_out (bs s : List UInt8) (a j : Nat) (h : a + s.length ≤ bs.length) (hj : j < a ∨ a + s.length ≤ j) : (wrb bs a s)[j]? = bs[j]? := by
  unfold wrb
  rcases hj with hj | hj
  · rw [List.append_assoc, List.getElem?_append_left (by simp; omega), List.getElem?_take, if_pos hj]
  · rw [List.getElem?_append_right (by simp; omega), List.getElem?_drop]
    congr 1
    simp; omega
theorem wrb_in (bs s : List UInt8) (a j : Nat) (h : a + s.length ≤ bs.length) (hj : j < s.length) : (wrb bs a s)[a + j]? = s[j]? := by
  unfold wrb
  rw [List.append_assoc, List.getElem?_append_right (by simp; omega), List.getElem?_append_left (by simp; omega)]
  congr 1
  simp; omega
theorem num_ext {bs bs' : List UInt8} {a n : Nat} (h : ∀ j, j < n → bs[a + j]? = bs'[a + j]?) : num bs a n = num bs' a n := by
  unfold num
  congr 1
  apply List.ext_getElem?
  intro j
  rw [List.getElem?_take, List.getElem?_take, List.getElem?_drop, List.getElem?_drop]
  split
  · rename_i hj; exact h j hj
  · rfl
theorem num_out {bs s : List UInt8} {a b n : Nat} (h : a + s.length ≤ bs.length) (hj : b + n ≤ a ∨ a + s.length ≤ b) : num (wrb bs a s) b n = num bs b n :=
  num_ext fun j hjn => wrb_out bs s a (b + j) h (by omega)
theorem num_in {bs s : List UInt8} {a : Nat} (h : a + s.length ≤ bs.length) : num (wrb bs a s) a s.length = un s := by
  unfold num
  congr 1
  apply List.ext_getElem?
  intro j
  rw [List.getElem?_take, List.getElem?_drop]
  split
  · rename_i hj; exact wrb_in bs s a j h hj
  · rename_i hj; rw [List.getElem?_eq_none (by omega)]
theorem num_le {bs : List UInt8} {a n x : Nat} (h : a + n ≤ bs.length) (hx : x < 256 ^ n) : num (wrb bs a (le n x)) a n = x := by
  have := num_in (bs := bs) (s := le n x) (a := a) (by rw [le_length]; exact h)
  rw [le_length, un_le, Nat.mod_eq_of_lt hx] at this
  exact this
/-- a part of what was written -/
theorem num_mid {bs s t u : List UInt8} {a : Nat} (h : a + (s ++ t ++ u).length ≤ bs.length) : num (wrb bs a (s ++ t ++ u)) (a + s.length) t.length = un t := by
  unfold num
  congr 1
  apply List.ext_getElem?
  intro j
  rw [List.getElem?_take, List.getElem?_drop]
  split
  · rename_i hj
    rw [Nat.add_assoc, wrb_in bs _ a (s.length + j) h (by simp; omega), List.append_assoc, List.getElem?_append_right (by omega), List.getElem?_append_left (by omega)]
    congr 1; omega
  · rename_i hj; rw [List.getElem?_eq_none (by omega)]


/-- How many bytes the device may write into buffers. -/
def roomB : List Bf → Nat
  | [] => 0
  | x :: xs => (if x.I then x.L else 0) + roomB xs
theorem roomB_append (xs ys : List Bf) : roomB (xs ++ ys) = roomB xs + roomB ys := by
  induction xs with
  | nil => simp [roomB]
  | cons x xs ih => simp only [List.cons_append, roomB, ih]; omega
theorem roomB_take (xs : List Bf) (i : Nat) (h : i < xs.length) : roomB (xs.take (i + 1)) = roomB (xs.take i) + (if xs[i].I then xs[i].L else 0) := by
  rw [List.take_succ_eq_append_getElem h, roomB_append]
  simp [roomB]
theorem roomB_le : ∀ (xs : List Bf), (∀ x, x ∈ xs → x.L ≤ 1048576) → roomB xs ≤ xs.length * 1048576
  | [], _ => by simp [roomB]
  | x :: xs, h => by
    have h1 := roomB_le xs (fun y hy => h y (by simp [hy]))
    have h2 := h x (by simp)
    simp only [roomB, List.length_cons, Nat.succ_mul]
    split <;> omega
theorem room_any (b cap n dcap : Nat) (dp : Option Addr) (xs : List Bf) (w : World) (hX : BufsAt w b 0 xs) (hlen : xs.length ≤ 8) (hin : ∀ x, x ∈ xs → x.L ≤ 1048576) :
    Calls Try.prog 65 #[.agg #[.slice (some ⟨b, 0, none⟩) xs.length cap, .slice dp n dcap]] w fun e w' => e = .returned (.int .u64 (roomB xs : Nat)) ∧ Fr [] w w' := by
  have HX := hid hX
  have Hin := hid hin
  clear hX hin
  go_enter Try.func65, Try.ntmps65
  go_wp2_with fail
  have HF0 := hid (show Fr [] w (w.alloc (.cells #[.slice (some ⟨b, 0, none⟩) xs.length cap, .slice dp n dcap] 91)) from (Fr.refl _ _).alloc _)
  generalize w.alloc (.cells #[.slice (some ⟨b, 0, none⟩) xs.length cap, .slice dp n dcap] 91) = W0 at *
  go_loopg [3, 9] xs.length (fun gk s q wr => ∃ i r : Nat, i ≤ xs.length ∧ gk = xs.length - i ∧ s = .int .u64 r ∧ q = .int .i64 i ∧ Hid (r = roomB (xs.take i) ∧ Fr [] w wr))
  case atStart => exact ⟨0, 0, Nat.zero_le _, rfl, rfl, rfl, hid ⟨rfl, HF0.out⟩⟩
  case round =>
    obtain ⟨i, r, hi, hgk, rfl, rfl, K0⟩ := hrel
    have hrb : r ≤ 8388608 := by
      rw [K0.out.1]
      have h1 := roomB_le (xs.take i) (fun x hx => Hin.out x (List.mem_of_mem_take hx))
      rw [List.length_take] at h1
      omega
    by_cases hlt : i < xs.length
    · have hlt' : (i : Int) < (xs.length : Int) := by omega
      have q := (HX.out.fr K0.out.2 (by simp)).at_ i hlt
      have r0 := q.c0
      have r1 := q.c1
      have r2 := q.c2
      have hxL := Hin.out xs[i] (List.getElem_mem hlt)
      have HT := hid (roomB_take xs i hlt)
      clear q
      simp only [Nat.zero_add] at r0 r1 r2
      generalize xs[i] = x at *
      obtain ⟨xA, xL, xI⟩ := x
      simp only at *
      have HF1 := hid (show Fr [] w (wr.alloc (.cells #[.int .u32 (xA : Nat), .int .u32 (xL : Nat), .bool xI] 59)) from K0.out.2.alloc _)
      cases xI with
      | true =>
        obtain ⟨R, hR⟩ : ∃ R, R = r + xL := ⟨_, rfl⟩
        have wL : IntKind.u64.wrap (xL : Int) = xL := wraps_u64 _ (by omega) (by omega)
        have wS : IntKind.u64.wrap ((r : Int) + (xL : Int)) = (R : Int) := by rw [wraps_u64 _ (by omega) (by omega)]; omega
        have HR := hid hR
        clear hR
        go_wp2
        go_roundg (xs.length - (i + 1))
        case measure => omega
        case rel => exact ⟨i + 1, R, by omega, rfl, rfl, by go_num, hid ⟨by rw [HT.out, HR.out, K0.out.1]; simp, HF1.out⟩⟩
      | false =>
        go_wp2
        go_roundg (xs.length - (i + 1))
        case measure => omega
        case rel => exact ⟨i + 1, r, by omega, rfl, rfl, by go_num, hid ⟨by rw [HT.out, K0.out.1]; simp, HF1.out⟩⟩
    · obtain rfl : i = xs.length := by omega
      have HE := hid (show r = roomB xs by have := K0.out.1; rwa [List.take_of_length_le (Nat.le_refl _)] at this)
      have HF := hid K0.out.2
      go_wp2
      go_ret
      exact ⟨by rw [HE.out]; rfl, HF.out⟩
end Go.Proofs.Ytfiaciniikcacaa

namespace Go.Proofs.Ytfiaciniikcacaa
open Go.RowKit Go.BigFrame Go.MapKept
set_option linter.unusedVariables false
set_option linter.unusedSimpArgs false
set_option maxRecDepth 1000000
set_option maxHeartbeats 4000000

theorem descW_length (bs : List UInt8) (D A L fl nx : Nat) (h : D + 16 ≤ bs.length) : (descW bs D A L fl nx).length = bs.length := by
  unfold descW
  have h1 : (wrb bs D (le 8 A)).length = bs.length := wrb_length _ _ _ (by rw [le_length]; omega)
  have h2 : (wrb (wrb bs D (le 8 A)) (D + 8) (le 4 L)).length = bs.length := by rw [wrb_length _ _ _ (by rw [le_length]; omega), h1]
  have h3 : (wrb (wrb (wrb bs D (le 8 A)) (D + 8) (le 4 L)) (D + 12) (le 2 fl)).length = bs.length := by rw [wrb_length _ _ _ (by rw [le_length]; omega), h2]
  rw [wrb_length _ _ _ (by rw [le_length]; omega), h3]
theorem descW_out (bs : List UInt8) (D A L fl nx b n : Nat) (h : D + 16 ≤ bs.length) (hj : b + n ≤ D ∨ D + 16 ≤ b) : num (descW bs D A L fl nx) b n = num bs b n := by
  unfold descW
  have h1 : (wrb bs D (le 8 A)).length = bs.length := wrb_length _ _ _ (by rw [le_length]; omega)
  have h2 : (wrb (wrb bs D (le 8 A)) (D + 8) (le 4 L)).length = bs.length := by rw [wrb_length _ _ _ (by rw [le_length]; omega), h1]
  have h3 : (wrb (wrb (wrb bs D (le 8 A)) (D + 8) (le 4 L)) (D + 12) (le 2 fl)).length = bs.length := by rw [wrb_length _ _ _ (by rw [le_length]; omega), h2]
  rw [num_out (by rw [le_length]; omega) (by rw [le_length]; omega), num_out (by rw [le_length]; omega) (by rw [le_length]; omega), num_out (by rw [le_length]; omega) (by rw [le_length]; omega), num_out (by rw [le_length]; omega) (by rw [le_length]; omega)]
theorem descW_in (bs : List UInt8) (D A L fl nx : Nat) (h : D + 16 ≤ bs.length) (hA : A < 18446744073709551616) (hL : L < 4294967296) (hf : fl < 65536) (hn : nx < 65536) :
    num (descW bs D A L fl nx) D 8 = A ∧ num (descW bs D A L fl nx) (D + 8) 4 = L ∧ num (descW bs D A L fl nx) (D + 12) 2 = fl ∧ num (descW bs D A L fl nx) (D + 14) 2 = nx := by
  unfold descW
  have h1 : (wrb bs D (le 8 A)).length = bs.length := wrb_length _ _ _ (by rw [le_length]; omega)
  have h2 : (wrb (wrb bs D (le 8 A)) (D + 8) (le 4 L)).length = bs.length := by rw [wrb_length _ _ _ (by rw [le_length]; omega), h1]
  have h3 : (wrb (wrb (wrb bs D (le 8 A)) (D + 8) (le 4 L)) (D + 12) (le 2 fl)).length = bs.length := by rw [wrb_length _ _ _ (by rw [le_length]; omega), h2]
  refine ⟨?_, ?_, ?_, ?_⟩
  · rw [num_out (by rw [le_length]; omega) (by rw [le_length]; omega), num_out (by rw [le_length]; omega) (by rw [le_length]; omega), num_out (by rw [le_length]; omega) (by rw [le_length]; omega), num_le (by omega) hA]
  · rw [num_out (by rw [le_length]; omega) (by rw [le_length]; omega), num_out (by rw [le_length]; omega) (by rw [le_length]; omega), num_le (by omega) hL]
  · rw [num_out (by rw [le_length]; omega) (by rw [le_length]; omega), num_le (by omega) hf]
  · rw [num_le (by omega) hn]
theorem offW_length (bs : List UInt8) (at_ N idx head : Nat) (hN : 1 ≤ N) (h : at_ + 16 * N + 4 + 2 * N ≤ bs.length) : (offW bs at_ N idx head).length = bs.length := by
  have hm := Nat.mod_lt idx (show 0 < N by omega)
  unfold offW
  have h1 : (wrb bs (at_ + 16 * N + 4 + 2 * (idx % N)) (le 2 head)).length = bs.length := wrb_length _ _ _ (by rw [le_length]; omega)
  rw [wrb_length _ _ _ (by rw [le_length]; omega), h1]
theorem offW_out (bs : List UInt8) (at_ N idx head b n : Nat) (hN : 1 ≤ N) (h : at_ + 16 * N + 4 + 2 * N ≤ bs.length) (hj : b + n ≤ at_ + 16 * N ∨ at_ + 16 * N + 4 + 2 * N ≤ b) : num (offW bs at_ N idx head) b n = num bs b n := by
  have hm := Nat.mod_lt idx (show 0 < N by omega)
  unfold offW
  have h1 : (wrb bs (at_ + 16 * N + 4 + 2 * (idx % N)) (le 2 head)).length = bs.length := wrb_length _ _ _ (by rw [le_length]; omega)
  rw [num_out (by rw [le_length]; omega) (by rw [le_length]; omega), num_out (by rw [le_length]; omega) (by rw [le_length]; omega)]
theorem offW_in (bs : List UInt8) (at_ N idx head : Nat) (hN : 1 ≤ N) (h : at_ + 16 * N + 4 + 2 * N ≤ bs.length) (hh : head < 65536) :
    num (offW bs at_ N idx head) (at_ + 16 * N + 2) 2 = (idx + 1) % 65536 ∧ num (offW bs at_ N idx head) (at_ + 16 * N + 4 + 2 * (idx % N)) 2 = head := by
  have hm := Nat.mod_lt idx (show 0 < N by omega)
  unfold offW
  have h1 : (wrb bs (at_ + 16 * N + 4 + 2 * (idx % N)) (le 2 head)).length = bs.length := wrb_length _ _ _ (by rw [le_length]; omega)
  refine ⟨?_, ?_⟩
  · rw [num_le (by omega) (by omega)]
  · rw [num_out (by rw [le_length]; omega) (by rw [le_length]; omega), num_le (by omega) hh]
theorem dW_length (bs : List UInt8) (at_ : Nat) (ds : List Nat) (xs : List Bf) (hb : ∀ d, d ∈ ds → at_ + 16 * d + 16 ≤ bs.length) : ∀ i, i ≤ ds.length → (dW bs at_ ds xs i).length = bs.length
  | 0, _ => rfl
  | i + 1, hi => by
    have ih := dW_length bs at_ ds xs hb i (by omega)
    have e : ds.getD i 0 = ds[i]'(by omega) := by simp [show i < ds.length by omega]
    have := hb _ (List.getElem_mem (show i < ds.length by omega))
    rw [dW, descW_length _ _ _ _ _ _ (by rw [ih, e]; exact this), ih]
theorem dW_out (bs : List UInt8) (at_ : Nat) (ds : List Nat) (xs : List Bf) (hb : ∀ d, d ∈ ds → at_ + 16 * d + 16 ≤ bs.length) (b n : Nat) (ho : ∀ d, d ∈ ds → b + n ≤ at_ + 16 * d ∨ at_ + 16 * d + 16 ≤ b) : ∀ i, i ≤ ds.length → num (dW bs at_ ds xs i) b n = num bs b n
  | 0, _ => rfl
  | i + 1, hi => by
    have ih := dW_out bs at_ ds xs hb b n ho i (by omega)
    have e : ds.getD i 0 = ds[i]'(by omega) := by simp [show i < ds.length by omega]
    have h1 := hb _ (List.getElem_mem (show i < ds.length by omega))
    have h2 := ho _ (List.getElem_mem (show i < ds.length by omega))
    rw [dW, descW_out _ _ _ _ _ _ _ _ (by rw [dW_length bs at_ ds xs hb i (by omega), e]; exact h1) (by rw [e]; exact h2), ih]
theorem flg_lt (a b : Bool) : flg a b < 65536 := by unfold flg; split <;> split <;> omega
theorem dW_in (bs : List UInt8) (at_ : Nat) (ds : List Nat) (xs : List Bf) (hb : ∀ d, d ∈ ds → at_ + 16 * d + 16 ≤ bs.length) (hn : ds.Nodup) (hd : ∀ d, d ∈ ds → d < 65536) (hx : ∀ x, x ∈ xs → x.A < 4294967296 ∧ x.L < 4294967296) (hl : xs.length = ds.length) (k : Nat) (hk : k < ds.length) : ∀ i, i ≤ ds.length → k < i →
    num (dW bs at_ ds xs i) (at_ + 16 * ds[k]) 8 = (xs[k]'(by omega)).A ∧ num (dW bs at_ ds xs i) (at_ + 16 * ds[k] + 8) 4 = (xs[k]'(by omega)).L ∧ num (dW bs at_ ds xs i) (at_ + 16 * ds[k] + 12) 2 = flg (decide (k + 1 < ds.length)) (xs[k]'(by omega)).I ∧ num (dW bs at_ ds xs i) (at_ + 16 * ds[k] + 14) 2 = ds.getD (k + 1) 0
  | 0, _, h => by omega
  | i + 1, hi, hki => by
    have hi' : i < ds.length := by omega
    have e : ds.getD i 0 = ds[i] := by simp [hi']
    have ex : xs.getD i ⟨0, 0, false⟩ = xs[i]'(by omega) := by simp [show i < xs.length by omega]
    have h1 := hb _ (List.getElem_mem hi')
    have hlen := dW_length bs at_ ds xs hb i (by omega)
    rw [dW]
    rcases Nat.lt_or_ge k i with h | h
    · have ih := dW_in bs at_ ds xs hb hn hd hx hl k hk i (by omega) h
      have hne : ds[k] ≠ ds[i] := fun he => by
        have := (List.getElem_inj hn).1 he
        omega
      rw [descW_out _ _ _ _ _ _ _ _ (by rw [hlen, e]; exact h1) (by rw [e]; omega), descW_out _ _ _ _ _ _ _ _ (by rw [hlen, e]; exact h1) (by rw [e]; omega), descW_out _ _ _ _ _ _ _ _ (by rw [hlen, e]; exact h1) (by rw [e]; omega), descW_out _ _ _ _ _ _ _ _ (by rw [hlen, e]; exact h1) (by rw [e]; omega)]
      exact ih
    · obtain rfl : k = i := by omega
      have hnx : ds.getD (k + 1) 0 < 65536 := by
        rcases Nat.lt_or_ge (k + 1) ds.length with g | g
        · have := hd _ (List.getElem_mem g); simpa [g] using this
        · simp [g]
      have hx' := hx _ (List.getElem_mem (show k < xs.length by omega))
      rw [e, ex]
      exact descW_in _ _ _ _ _ _ (by rw [hlen]; exact h1) (by omega) hx'.2 (flg_lt _ _) hnx
end Go.Proofs.Ytfiaciniikcacaa
