/-
  What RingRound asks of a ring whose chains have one buffer each: how many descriptors are free; the device's writing into the used part. No statement is proved here.
-/
import Derived.Test.YtfiaciniikcacaaRingE
namespace Go.Proofs.Ytfiaciniikcacaa
open Go.RowKit Go.BigFrame Go.MapKept
set_option linter.unusedVariables false
set_option linter.unusedSimpArgs false
set_option maxRecDepth 1000000
set_option maxHeartbeats 4000000

theorem frK_none (tk : List Bool) : ∀ i, (frK tk 1 i).length = 0 → ∀ d, d < i → tk.getD d true = true
  | 0, _, d, hd => by omega
  | i + 1, h, d, hd => by
    unfold frK at h
    split at h
    · simp at h
    · rename_i hn
      rcases Nat.lt_or_ge d i with g | g
      · exact frK_none tk i h d g
      · obtain rfl : d = i := by omega
        rw [h] at hn
        cases e : tk.getD d true with
        | true => rfl
        | false => exact absurd ⟨e, by omega⟩ hn
section
variable {B : Nat} {w w' : World} {bR bM bm bb k at_ bT N bC : Nat} {Z : Nat → Prop} {idx pol : Nat} {brk : Bool} {tk : List Bool} {cs : List Ch} {bs : List UInt8}
theorem RS.left (h : RS B w bR bM bm bb k at_ bT N bC Z idx pol brk tk cs bs) : cnt tk + (cs.flatMap Ch.ds).length = N := by
  have := cnt_flat tk (cs.flatMap Ch.ds) (fun d hd => h.tks d (by rw [← h.ring.len]; exact hd)) h.dsn (fun d hd => by rw [h.ring.len]; exact h.dlt d hd)
  rw [h.ring.len] at this
  exact this
theorem flat_ones : ∀ (cs : List Ch), (∀ c, c ∈ cs → c.ds.length = 1) → (cs.flatMap Ch.ds).length = cs.length
  | [], _ => rfl
  | c :: cs, h => by
    rw [List.flatMap_cons, List.length_append, flat_ones cs (fun a ha => h a (by simp [ha])), h c (by simp), List.length_cons]
    omega
theorem RS.ones (h : RS B w bR bM bm bb k at_ bT N bC Z idx pol brk tk cs bs) (h1 : ∀ c, c ∈ cs → c.xs.length = 1) : cnt tk + cs.length = N := by
  have := h.left
  rw [flat_ones cs (fun c hc => by rw [(h.chs c hc).nd]; exact h1 c hc)] at this
  exact this
theorem RS.full (h : RS B w bR bM bm bb k at_ bT N bC Z idx pol brk tk cs bs) (h1 : ∀ c, c ∈ cs → c.xs.length = 1) (hf : (frK tk 1 N).length < 1) : cs.length = N := by
  have hall := frK_none tk N (by omega)
  have hle : (List.range N).length ≤ (cs.flatMap Ch.ds).length := List.nodup_range.length_le_of_subset (fun d hd => (h.tks d (List.mem_range.1 hd)).1 (hall d (List.mem_range.1 hd)))
  rw [flat_ones cs (fun c hc => by rw [(h.chs c hc).nd]; exact h1 c hc)] at hle
  have := h.few
  simp at hle
  omega
theorem RS.len (h : RS B w bR bM bm bb k at_ bT N bC Z idx pol brk tk cs bs) : bs.length = k := by
  obtain ⟨l, ⟨lv, hM, _⟩, _⟩ := h.mem
  exact hM.len
/-- What is added leaves the used part alone. -/
theorem used_kept (h : RS B w bR bM bm bb k at_ bT N bC Z idx pol brk tk cs bs) (xs : List Bf) (n head b m : Nat) (hn : n ≤ (frK tk xs.length N).length) (hb : at_ + uAt N ≤ b) : num (offW (dW bs at_ (frK tk xs.length N) xs n) at_ N idx head) b m = num bs b m := by
  have hl := h.len
  have hf := h.fit
  have hN : 1 ≤ N := by have := h.pow; unfold Pow at this; omega
  have hu : 16 * N + 6 + 2 * N ≤ uAt N := by unfold uAt; omega
  have hr : uAt N ≤ rSize N := by unfold rSize; omega
  have hd : ∀ d, d ∈ frK tk xs.length N → at_ + 16 * d + 16 ≤ bs.length := fun d hd => by have := (frK_mem _ _ _ d hd).1; omega
  rw [offW_out _ _ _ _ _ _ _ hN (by rw [dW_length bs at_ _ xs hd n hn]; omega) (.inr (by omega)), dW_out bs at_ _ xs hd b m (fun d hdm => .inr (by have := (frK_mem _ _ _ d hdm).1; omega)) n hn]
end
/-- The device writes into the used part. -/
theorem rdevice_used (B bR bM bm bb k at_ bT N bC idx pol a : Nat) (brk : Bool) (tk : List Bool) (cs : List Ch) (bs : List UInt8) (s : ByteArray) (us : List UInt8) (hus : s.data.toList = us) (w : World) (h : RS B w bR bM bm bb k at_ bT N bC (Zr at_ N) idx pol brk tk cs bs) (h1 : at_ + uAt N ≤ a) (h2 : a + us.length ≤ at_ + rSize N) :
    Calls Try.prog 18 #[.pointer (some ⟨bM, 0, none⟩), .int .u32 a, .string s] w fun e w' => e = .returned (.int .i64 0) ∧ RS B w' bR bM bm bb k at_ bT N bC (Zr at_ N) idx pol brk tk cs (wrb bs a us) ∧ Fr [bb] w w' := by
  subst hus
  have hs : s.data.toList.length = s.size := rfl
  have hk := h.top
  have hf := h.fit
  refine (rdevice_any B bR bM bm bb k at_ bT N bC idx pol a (Zr at_ N) brk tk cs bs s w h (by omega) (by simp [maxLen]; omega)).mono ?_
  rintro e w' ⟨c, bs', q1, q2, q3, (⟨q4, q5 | q5⟩ | ⟨q4, _, _, q5⟩)⟩
  · omega
  · exact absurd (fun j g1 g2 => .inl ⟨by omega, by omega⟩) q5
  · subst q4 q5
    exact ⟨q1, q2, q3⟩
end Go.Proofs.Ytfiaciniikcacaa

namespace Go.Proofs.Ytfiaciniikcacaa
open Go.RowKit Go.BigFrame Go.MapKept
set_option linter.unusedVariables false
set_option linter.unusedSimpArgs false
set_option maxRecDepth 1000000
set_option maxHeartbeats 4000000

theorem one_buf (w : World) (a : Nat) (ha : a < 4294967296) : BufsAt (w.alloc (.cells #[.int .u32 (a : Nat), .int .u32 4, .bool false] 59)) w.heap.size 0 [⟨a, 4, false⟩] := by
  have h := heap_alloc_new w (.cells #[.int .u32 (a : Nat), .int .u32 4, .bool false] 59)
  refine ⟨⟨_, _, _, h, by decide⟩, fun i hi => ?_⟩
  obtain rfl : i = 0 := by have hi' : i < 1 := hi; omega
  exact ⟨cell_of_heap h rfl, cell_of_heap h rfl, cell_of_heap h rfl, ha, by show (4 : Nat) < 4294967296; omega⟩
theorem one_arg (w : World) (a : Nat) (ha : a < 4294967296) : Arg (w.alloc (.cells #[.int .u32 (a : Nat), .int .u32 4, .bool false] 59)) (.slice (some ⟨w.heap.size, 0, none⟩) 1 1) [⟨a, 4, false⟩] :=
  .inr ⟨w.heap.size, 0, 1, rfl, by simp, by simp, by simp [maxLen], one_buf w a ha⟩
/-- What stands of the ring between two rounds: it was polled m times, and the device's index says so; each chain has one buffer, which is not In. -/
def RP (N m : Nat) (idx pol : Nat) (brk : Bool) (tk : List Bool) (cs : List Ch) (bs : List UInt8) : Prop :=
  brk = false ∧ pol = m ∧ num bs (uAt N + 2) 2 = m ∧ ∀ c, c ∈ cs → c.xs.length = 1 ∧ ∀ x, x ∈ c.xs → x.I = false
section
variable {B : Nat} {w w' : World} {bR bM bm bb k bT N bC : Nat} {idx pol : Nat} {brk : Bool} {tk : List Bool} {cs : List Ch} {bs : List UInt8}
theorem one_no {l : List (Nat × Nat)} {at_ S a : Nat} : ¬ LendNo at_ S l [⟨a, 4, false⟩] := LendNo.not (fun x hx => by simp at hx; subst hx; rfl)
/-- Add refuses such a buffer only where the ring is full. -/
theorem one_why {Z : Nat → Prop} {a n : Nat} {c : Int} (h : RS B w bR bM bm bb 600 0 bT N bC Z idx pol brk tk cs bs) (hb : brk = false) (h1 : ∀ c, c ∈ cs → c.xs.length = 1) (ha : a + 4 ≤ 600) (hw : AddW 600 0 N Z brk tk cs [⟨a, 4, false⟩] c) : c = 6 ∧ cs.length = N := by
  rcases hw with ⟨_, h2⟩ | ⟨_, h2⟩ | ⟨_, h2⟩ | ⟨h2, h3⟩ | ⟨_, l, _, h2⟩
  · rw [hb] at h2; cases h2
  · simp [mayB, goB] at h2
  · simp [inB] at h2; omega
  · exact ⟨h2, h.full h1 (by simpa using h3)⟩
  · exact absurd h2 one_no
theorem RP.add {m a : Nat} {ch : Ch} (h : RS B w bR bM bm bb 600 0 bT N bC (Zr 0 N) idx pol brk tk cs bs) (hP : RP N m idx pol brk tk cs bs) (hx : ch.xs = [⟨a, 4, false⟩]) (hf : (frK tk 1 N).length = 1) : RP N m ((idx + 1) % 65536) pol false (tkW tk (frK tk 1 N) 1) (cs ++ [ch]) (offW (dW bs 0 (frK tk 1 N) [⟨a, 4, false⟩] 1) 0 N idx ch.h) := by
  obtain ⟨h1, h2, h3, h4⟩ := hP
  refine ⟨rfl, h2, ?_, fun c hc => ?_⟩
  · have := used_kept h [⟨a, 4, false⟩] 1 ch.h (uAt N + 2) 2 (by simp; omega) (by omega)
    simp only [List.length_singleton] at this
    rw [this, h3]
  · rcases List.mem_append.1 hc with hc | hc
    · exact h4 c hc
    · simp at hc; subst hc
      rw [hx]
      exact ⟨rfl, fun x hx => by simp at hx; subst hx; rfl⟩
/-- The memory behind the device's two writings. -/
def rbs (bs : List UInt8) (N m h : Nat) : List UInt8 := wrb (wrb bs (uAt N + 4 + 8 * (m % N)) (le 4 h ++ le 4 0)) (uAt N + 2) (le 2 ((m + 1) % 65536))
theorem rbs_nums {m hd : Nat} (hN : 1 ≤ N) (hl : uAt N + 6 + 8 * N ≤ bs.length) (hm : m < 65536) (hh : hd < 65536) :
    num (rbs bs N m hd) (uAt N + 2) 2 = (m + 1) % 65536 ∧ num (rbs bs N m hd) (uAt N + 4 + 8 * (m % N)) 4 = hd ∧ num (rbs bs N m hd) (uAt N + 4 + 8 * (m % N) + 4) 4 = 0 := by
  have hmod := Nat.mod_lt m (show 0 < N by omega)
  have hlen : (le 4 hd ++ le 4 0).length = 8 := by simp [le_length]
  have h1 : (wrb bs (uAt N + 4 + 8 * (m % N)) (le 4 hd ++ le 4 0)).length = bs.length := wrb_length _ _ _ (by rw [hlen]; omega)
  unfold rbs
  refine ⟨?_, ?_, ?_⟩
  · rw [num_le (by omega) (by omega)]
  · rw [num_out (by rw [le_length]; omega) (by rw [le_length]; omega)]
    have := num_mid (bs := bs) (s := []) (t := le 4 hd) (u := le 4 0) (a := uAt N + 4 + 8 * (m % N)) (by simp [le_length]; omega)
    simp only [List.nil_append, List.length_nil, Nat.add_zero, le_length] at this
    rw [this, un_le, Nat.mod_eq_of_lt (by omega)]
  · rw [num_out (by rw [le_length]; omega) (by rw [le_length]; omega)]
    have := num_mid (bs := bs) (s := le 4 hd) (t := le 4 0) (u := []) (a := uAt N + 4 + 8 * (m % N)) (by simp [le_length]; omega)
    simp only [List.append_nil, le_length] at this
    rw [this, un_le]
/-- What Poll then tells. -/
theorem one_poll {m : Nat} {ps qs : List Ch} {c : Ch} {e : Ending} (h : RS B w bR bM bm bb 600 0 bT N bC (Zr 0 N) idx m false tk (ps ++ c :: qs) (rbs bs N m c.h)) (hbl : bs.length = 600) (hq : PollP B w w' bR bM bm bb 600 0 bT N bC (Zr 0 N) idx m tk (ps ++ c :: qs) (rbs bs N m c.h) e) (h1 : ∀ a, a ∈ ps ++ c :: qs → a.xs.length = 1 ∧ ∀ x, x ∈ a.xs → x.I = false) :
    e = .returned (.tuple #[.agg #[.int .u16 (c.h : Nat), .int .u32 0], .bool true, .int .i64 0]) ∧ RS B w' bR bM bm bb 600 0 bT N bC (Zr 0 N) idx ((m + 1) % 65536) false (tkC tk c.ds c.ds.length) (ps ++ qs) (rbs bs N m c.h) ∧ Kp B [bR, bT, bC, bm, bb] w w' ∧ RP N ((m + 1) % 65536) idx ((m + 1) % 65536) false (tkC tk c.ds c.ds.length) (ps ++ qs) (rbs bs N m c.h) := by
  have hN : 1 ≤ N ∧ N ≤ 256 := by have := h.pow; unfold Pow at this; omega
  have hf := h.fit
  have hcm : c ∈ ps ++ c :: qs := by simp
  have hch := h.hlt hcm
  have hnum := rbs_nums (N := N) (m := m) (hd := c.h) (bs := bs) hN.1 (by unfold rSize at hf; omega) h.pll (by omega)
  have hr : rdy (rbs bs N m c.h) 0 N m = 1 := by
    unfold rdy
    rw [Nat.zero_add, hnum.1]
    have := h.pll
    omega
  have hE : eAt 0 N m = uAt N + 4 + 8 * (m % N) := by unfold eAt; omega
  rcases hq with ⟨_, q, _⟩ | ⟨_, _, q | q, _⟩ | ⟨ps', c', qs', q0, q1, q2, q3, q4, q5, q6, q7⟩
  · rw [hr] at q; omega
  · rw [hr] at q; simp at q
  · exact absurd ⟨by rw [hE, hnum.2.1], by rw [hE, hnum.2.2]; omega⟩ (q c hcm)
  · rw [hE, hnum.2.1] at q3
    have hnd := h.hds
    have hc' : c' ∈ ps ++ c :: qs := by rw [q0]; simp
    have hps : ps = ps' ∧ c = c' ∧ qs = qs' := by
      have : ∀ (a a' b b' : List Ch), a ++ c :: b = a' ++ c' :: b' → ((a ++ c :: b).map Ch.h).Nodup → a = a' ∧ c = c' ∧ b = b' := by
        intro a
        induction a with
        | nil =>
          intro a' b b' h1 h2
          cases a' with
          | nil => simp at h1; exact ⟨rfl, h1.1, h1.2⟩
          | cons y ys =>
            simp at h1
            simp at h2
            exfalso
            refine h2.1 c' ?_ q3
            rw [h1.2]; simp
        | cons z zs ih =>
          intro a' b b' h1 h2
          cases a' with
          | nil =>
            simp at h1
            simp at h2
            exfalso
            have := h2.1
            rw [h1.1] at this
            exact this.2.1 q3
          | cons y ys =>
            simp at h1
            simp at h2
            obtain ⟨e1, e2, e3⟩ := ih ys b b' h1.2 (by simpa using h2.2)
            exact ⟨by rw [h1.1, e1], e2, e3⟩
      exact this ps ps' qs qs' q0 hnd
    obtain ⟨rfl, rfl, rfl⟩ := hps
    refine ⟨by rw [q5, hE, hnum.2.2]; rfl, q6, q7, rfl, rfl, hnum.1, fun a ha => h1 a ?_⟩
    rcases List.mem_append.1 ha with ha | ha
    · exact List.mem_append.2 (.inl ha)
    · exact List.mem_append.2 (.inr (List.mem_cons_of_mem _ ha))
end
end Go.Proofs.Ytfiaciniikcacaa
