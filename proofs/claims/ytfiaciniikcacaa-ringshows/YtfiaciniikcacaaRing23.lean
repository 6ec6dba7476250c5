/-
  The walks of Waits, Left and Broken of a ring, what a device's writing leaves of one, and a new one. No statement is proved here.
-/
import Derived.Test.YtfiaciniikcacaaRing22
namespace Go.Proofs.Ytfiaciniikcacaa
open Go.RowKit Go.BigFrame Go.MapKept
set_option linter.unusedVariables false
set_option linter.unusedSimpArgs false
set_option maxRecDepth 1000000
set_option maxHeartbeats 4000000

theorem rwaits_any (B bR bM bm bb k at_ bT N bC idx pol : Nat) (Z : Nat → Prop) (brk : Bool) (tk : List Bool) (cs : List Ch) (bs : List UInt8) (w : World) (h : RS B w bR bM bm bb k at_ bT N bC Z idx pol brk tk cs bs) :
    Calls Try.prog 22 #[.pointer (some ⟨bR, 0, none⟩)] w fun e w' => e = .returned (.int .i64 cs.length) ∧ w' = w := by
  have c0 := h.ring.c0
  have c3 := h.ring.c3
  have hL := len_map h.map
  clear h
  go_enter Try.func22, Try.ntmps22
  go_wp2_with (go_at_call 34; refine (rnone_ring bR bM _ c0).mono ?_; rintro e w' ⟨rfl, hw⟩; subst hw)
  go_ret
  exact ⟨rfl, rfl⟩
theorem rbroken_any (B bR bM bm bb k at_ bT N bC idx pol : Nat) (Z : Nat → Prop) (brk : Bool) (tk : List Bool) (cs : List Ch) (bs : List UInt8) (w : World) (h : RS B w bR bM bm bb k at_ bT N bC Z idx pol brk tk cs bs) :
    Calls Try.prog 14 #[.pointer (some ⟨bR, 0, none⟩)] w fun e w' => e = .returned (.bool brk) ∧ w' = w := by
  have c0 := h.ring.c0
  have c6 := h.ring.c6
  clear h
  go_enter Try.func14, Try.ntmps14
  go_wp2_with (go_at_call 34; refine (rnone_ring bR bM _ c0).mono ?_; rintro e w' ⟨rfl, hw⟩; subst hw)
  go_ret
  exact ⟨rfl, rfl⟩
/-- How many descriptors are free. -/
def cnt : List Bool → Nat
  | [] => 0
  | t :: ts => (if t then 0 else 1) + cnt ts
theorem cnt_append (xs ys : List Bool) : cnt (xs ++ ys) = cnt xs + cnt ys := by
  induction xs with
  | nil => simp [cnt]
  | cons x xs ih => simp only [List.cons_append, cnt, ih]; omega
theorem cnt_le : ∀ xs : List Bool, cnt xs ≤ xs.length
  | [] => by simp [cnt]
  | x :: xs => by have := cnt_le xs; simp only [cnt, List.length_cons]; split <;> omega
theorem cnt_take (tk : List Bool) (i : Nat) (h : i < tk.length) : cnt (tk.take (i + 1)) = cnt (tk.take i) + (if tk.getD i true then 0 else 1) := by
  rw [List.take_succ_eq_append_getElem h, cnt_append]
  simp [cnt, h]
theorem cnt_range (tk : List Bool) : ∀ i, i ≤ tk.length → cnt (tk.take i) + ((List.range i).filter fun d => tk.getD d true).length = i
  | 0, _ => by simp [cnt]
  | i + 1, h => by
    have ih := cnt_range tk i (by omega)
    rw [cnt_take tk i (by omega), List.range_succ, List.filter_append, List.length_append]
    simp only [List.filter_cons, List.filter_nil]
    generalize ((List.range i).filter fun d => tk.getD d true).length = L at *
    cases tk.getD i true <;> simp <;> omega
theorem cnt_flat (tk : List Bool) (fl : List Nat) (h1 : ∀ d, d < tk.length → (tk.getD d true = true ↔ d ∈ fl)) (h2 : fl.Nodup) (h3 : ∀ d, d ∈ fl → d < tk.length) : cnt tk + fl.length = tk.length := by
  have hp : ((List.range tk.length).filter fun d => tk.getD d true).Perm fl := by
    refine (List.perm_ext_iff_of_nodup (List.nodup_range.filter _) h2).2 fun d => ?_
    simp only [List.mem_filter, List.mem_range]
    constructor
    · rintro ⟨g1, g2⟩; exact (h1 d g1).1 g2
    · intro g; exact ⟨h3 d g, (h1 d (h3 d g)).2 g⟩
  have := cnt_range tk tk.length (Nat.le_refl _)
  rw [List.take_of_length_le (Nat.le_refl _), hp.length_eq] at this
  exact this
theorem rleft_any (B bR bM bm bb k at_ bT N bC idx pol : Nat) (Z : Nat → Prop) (brk : Bool) (tk : List Bool) (cs : List Ch) (bs : List UInt8) (w : World) (h : RS B w bR bM bm bb k at_ bT N bC Z idx pol brk tk cs bs) :
    Calls Try.prog 23 #[.pointer (some ⟨bR, 0, none⟩)] w fun e w' => e = .returned (.int .i64 (cnt tk : Nat)) ∧ w' = w := by
  have hN : 1 ≤ N ∧ N ≤ 256 := by have := h.pow; unfold Pow at this; omega
  have c0 := h.ring.c0
  have c2 := h.ring.c2
  have HT := hid (fun i (hi : i < N) => taken_cell h.ring i hi)
  have HL := hid h.ring.len
  have HA := hid (show cnt tk = cnt (tk.take N) by rw [List.take_of_length_le (by rw [h.ring.len]; omega)])
  clear h
  go_enter Try.func23, Try.ntmps23
  go_wp2_with (go_at_call 34; refine (rnone_ring bR bM _ c0).mono ?_; rintro e w' ⟨rfl, hw⟩; subst hw)
  go_loopg [3, 13] N (fun gk s q wr => ∃ i n : Nat, i ≤ N ∧ n ≤ i ∧ gk = N - i ∧ s = .int .i64 n ∧ q = .int .i64 i ∧ Hid (n = cnt (tk.take i) ∧ wr = w'))
  case atStart => exact ⟨0, 0, Nat.zero_le _, Nat.zero_le _, rfl, rfl, rfl, hid ⟨by simp [cnt], rfl⟩⟩
  case round =>
    obtain ⟨i, n, hi, hn, hgk, rfl, rfl, K0⟩ := hrel
    obtain ⟨K1, hw⟩ := K0.out
    subst hw
    have HK1 := hid K1
    clear K1 K0
    by_cases hlt : i < N
    · have hlt' : (i : Int) < (N : Int) := by omega
      have hc := HT.out i hlt
      have HN := hid (cnt_take tk i (by rw [HL.out]; exact hlt))
      generalize tk.getD i true = tv at *
      cases tv with
      | true =>
        go_wp2
        go_roundg (N - (i + 1))
        case measure => omega
        case rel => exact ⟨i + 1, n, by omega, by omega, rfl, rfl, by go_num, hid ⟨by rw [HN.out, ← HK1.out]; simp, rfl⟩⟩
      | false =>
        go_wp2
        go_roundg (N - (i + 1))
        case measure => omega
        case rel => exact ⟨i + 1, n + 1, by omega, by omega, rfl, by go_num, by go_num, hid ⟨by rw [HN.out, ← HK1.out]; simp, rfl⟩⟩
    · obtain rfl : i = N := by omega
      have HE := hid (show n = cnt tk by rw [HA.out]; exact HK1.out)
      go_wp2
      go_ret
      exact ⟨by rw [HE.out]; rfl, rfl⟩
/-- What the device's writing leaves. -/
theorem rdevice_any (B bR bM bm bb k at_ bT N bC idx pol a : Nat) (Z : Nat → Prop) (brk : Bool) (tk : List Bool) (cs : List Ch) (bs : List UInt8) (s : ByteArray) (w : World) (h : RS B w bR bM bm bb k at_ bT N bC Z idx pol brk tk cs bs) (ha : a < 4294967296) (hs : s.size ≤ maxLen) :
    Calls Try.prog 18 #[.pointer (some ⟨bM, 0, none⟩), .int .u32 a, .string s] w fun e w' => ∃ c bs', e = .returned (.int .i64 c) ∧ RS B w' bR bM bm bb k at_ bT N bC Z idx pol brk tk cs bs' ∧ Fr [bb] w w' ∧
      ((bs' = bs ∧ (k < a + s.size ∨ ¬ ∀ j, a ≤ j → j < a + s.size → Z j ∨ Cov (cs.flatMap fun c => ivs c.xs) j)) ∨ (c = 0 ∧ a + s.size ≤ k ∧ (∀ j, a ≤ j → j < a + s.size → Z j ∨ Cov (cs.flatMap fun c => ivs c.xs) j) ∧ bs' = wrb bs a s.data.toList)) := by
  obtain ⟨l, ⟨lv, hM, hB⟩, hL⟩ := h.mem
  refine (device_any bM bm bb k a lv l bs s w hM ha hs).mono ?_
  rintro e w' ⟨c, rfl, h1⟩
  rcases h1 with ⟨q1, q2, q3⟩ | ⟨q1, q2, q3, q4⟩ | ⟨q1, q2, q3, q4, q5⟩
  · exact ⟨c, bs, rfl, h.fr0 q3, q3.mono (by simp), .inl ⟨rfl, .inl q2⟩⟩
  · refine ⟨c, bs, rfl, h.fr0 q4, q4.mono (by simp), .inl ⟨rfl, .inr fun hz => q3 fun j g1 g2 => (hL.cov j).2 (hz j g1 g2)⟩⟩
  · have hK : Kp B [bm, bb] w w' := q5.kp (fun t ht => .inl (by simp at ht; simp [ht]))
    have hlen : s.size = s.data.toList.length := rfl
    refine ⟨c, wrb bs a s.data.toList, rfl, h.mem' hK ⟨l, ⟨lv, ?_, hB⟩, hL⟩, q5, .inr ⟨q1, q2, fun j g1 g2 => (hL.cov j).1 (q3 j g1 g2), rfl⟩⟩
    unfold wrb
    rw [← hlen]
    exact q4
/-- The bytes that a ring lends of itself. -/
def Zr (at_ N : Nat) (j : Nat) : Prop := at_ + uAt N ≤ j ∧ j < at_ + rSize N
theorem rnew_rs (B bM bm bb k at_ N : Nat) (bs : List UInt8) (w : World) (hM : MemA w bM bm bb k (.slice none 0 0) [] bs) (hN : Pow N) (ha : at_ % 16 = 0) (ho : at_ + rSize N ≤ k) (hB : B ≤ w.heap.size) (h1 : B ≤ bm) (h2 : B ≤ bb) :
    Calls Try.prog 10 #[.pointer (some ⟨bM, 0, none⟩), .int .u32 at_, .int .i64 N] w fun e w' => ∃ bR bT bC, e = .returned (.tuple #[.pointer (some ⟨bR, 0, none⟩), .int .i64 0]) ∧
      RS B w' bR bM bm bb k at_ bT N bC (Zr at_ N) 0 0 false (List.replicate N false) [] (wrb bs at_ (List.replicate (rSize N) 0)) ∧ w.heap.size ≤ bR ∧ w.heap.size ≤ bT ∧ w.heap.size ≤ bC ∧ Fr [bm, bb] w w' := by
  refine (rnew_ok bM bm bb k at_ N bs w hM hN ha ho).mono ?_
  rintro e w' ⟨bR, bT, bC, lv, l, q1, q2, q3, q4, q5, q6, q7, q8, q9, q10⟩
  refine ⟨bR, bT, bC, q1, ⟨q4, ⟨#[], 0, q5, rfl⟩, ⟨l, ⟨lv, by simpa [wrb] using q2, fun g hg => Nat.le_trans hB (q9 g hg)⟩, ⟨fun j => ?_, List.Pairwise.nil, fun j hj => ?_, fun p hp => ?_⟩⟩, ?_, ?_, ?_, hN, ho, ?_, ?_, by simp, by simp, ?_, ?_, by omega, by omega, ?_⟩, q6, q7, q8, q10⟩
  · rw [q3]
    constructor
    · intro hj; exact .inl hj
    · rintro (hj | ⟨p, hp, _⟩)
      · exact hj
      · simp at hp
  · obtain ⟨p, hp, _⟩ := hj; simp at hp
  · simp at hp
  · intro c hc; simp at hc
  · intro c hc; simp at hc
  · intro c hc; simp at hc
  · intro j hj hj2
    unfold Zr at hj
    omega
  · intro j g1 g2; exact ⟨g1, g2⟩
  · intro d hd
    simp [List.getD_eq_getElem?_getD, List.getElem?_replicate, hd]
  · intro d hd; simp at hd
  · have := q10.size
    exact ⟨by omega, by omega, by omega, by omega, h1, h2⟩
end Go.Proofs.Ytfiaciniikcacaa
