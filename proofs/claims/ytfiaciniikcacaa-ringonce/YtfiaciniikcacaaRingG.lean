/-
  A ring, and beside it the row of the heads that wait: what adding, polling and the device's writing leave of both. No statement is proved here.
-/
import Derived.Test.YtfiaciniikcacaaRingE
namespace Go.Proofs.Ytfiaciniikcacaa
open Go.RowKit Go.BigFrame Go.MapKept
set_option linter.unusedVariables false
set_option linter.unusedSimpArgs false
set_option maxRecDepth 1000000
set_option maxHeartbeats 4000000

theorem read_all (bM bm bb n : Nat) (lv : Value) (l : List (Nat × Nat)) (bs : List UInt8) (w : World) (hM : MemA w bM bm bb n lv l bs) :
    Calls Try.prog 16 #[.pointer (some ⟨bM, 0, none⟩), .int .u32 0, .int .i64 n] w fun e w' => e = .returned (.tuple #[.string ⟨bs.toArray⟩, .int .i64 0]) ∧ w' = w :=
  (read_ok bM bm bb n 0 n lv l bs w hM (by omega)).mono fun e w' ⟨h1, h2⟩ => ⟨by rw [h1, List.drop_zero, List.take_of_length_le (by rw [hM.len]; exact Nat.le_refl _)], h2⟩
theorem byte_at (bs : List UInt8) (k : Nat) (hk : k < (⟨bs.toArray⟩ : ByteArray).size) : ∃ y1 : Nat, (∀ h : k < (⟨bs.toArray⟩ : ByteArray).size, ((⟨bs.toArray⟩ : ByteArray)[k]'h).toNat = y1) ∧ Hid (∃ u : UInt8, bs[k]? = some u ∧ u.toNat = y1) := by
  have hk' : k < bs.length := hk
  refine ⟨(bs[k]).toNat, fun h => ?_, hid ⟨bs[k], List.getElem?_eq_getElem hk', rfl⟩⟩
  rfl
theorem byte_ne {bs bs' : List UInt8} {k y1 y2 : Nat} (h1 : ∃ u : UInt8, bs'[k]? = some u ∧ u.toNat = y1) (h2 : ∃ u : UInt8, bs[k]? = some u ∧ u.toNat = y2) (h : ¬ y1 = y2) : bs'[k]? ≠ bs[k]? := by
  obtain ⟨u, hu, rfl⟩ := h1
  obtain ⟨x, hx, rfl⟩ := h2
  intro e
  rw [hu, hx] at e
  cases e
  exact h rfl
/-- What the device's writing changes. -/
theorem rdevice_ch (B bR bM bm bb k at_ bT N bC idx pol a : Nat) (Z : Nat → Prop) (brk : Bool) (tk : List Bool) (cs : List Ch) (bs : List UInt8) (s : ByteArray) (w : World) (h : RS B w bR bM bm bb k at_ bT N bC Z idx pol brk tk cs bs) (ha : a < 4294967296) (hs : s.size ≤ maxLen) :
    Calls Try.prog 18 #[.pointer (some ⟨bM, 0, none⟩), .int .u32 a, .string s] w fun e w' => ∃ c bs', e = .returned (.int .i64 c) ∧ RS B w' bR bM bm bb k at_ bT N bC Z idx pol brk tk cs bs' ∧ Fr [bb] w w' ∧ ∀ j, bs'[j]? ≠ bs[j]? → Z j ∨ Cov (cs.flatMap fun c => ivs c.xs) j := by
  have hlen : bs.length = k := by
    obtain ⟨l, ⟨lv, hM, _⟩, _⟩ := h.mem
    exact hM.len
  refine (rdevice_any B bR bM bm bb k at_ bT N bC idx pol a Z brk tk cs bs s w h ha hs).mono ?_
  rintro e w' ⟨c, bs', q1, q2, q3, ⟨rfl, _⟩ | ⟨_, q4, q5, rfl⟩⟩
  · exact ⟨c, bs', q1, q2, q3, fun j hj => absurd rfl hj⟩
  · refine ⟨c, _, q1, q2, q3, fun j hj => ?_⟩
    have hsl : s.data.toList.length = s.size := rfl
    rcases Nat.lt_or_ge j a with h1 | h1
    · exact absurd (wrb_out bs s.data.toList a j (by omega) (.inl h1)) hj
    · rcases Nat.lt_or_ge j (a + s.size) with h2 | h2
      · exact q5 j h1 h2
      · exact absurd (wrb_out bs s.data.toList a j (by omega) (.inr (by omega))) hj
theorem split_len {x : Nat} : ∀ {a a' b b' : List Nat}, a ++ x :: b = a' ++ x :: b' → x ∉ a → x ∉ a' → a.length = a'.length
  | [], [], _, _, _, _, _ => rfl
  | [], y :: a', b, b', h, _, h2 => by
    simp at h
    exact absurd (by simp [h.1]) h2
  | y :: a, [], b, b', h, h1, _ => by
    simp at h
    exact absurd (by simp [h.1]) h1
  | y :: a, z :: a', b, b', h, h1, h2 => by
    simp at h h1 h2
    have := split_len h.2 h1.2 h2.2
    simp [this]
section
variable {w wr w' : World} {bR bM bm bb k at_ bT N bC : Nat} {idx pol idx' pol' : Nat} {brk brk' : Bool} {tk tk' : List Bool} {cs : List Ch} {bs bs' : List UInt8} {v : Value} {n : Nat} {P : Nat → Nat → Bool → List Bool → List Ch → List UInt8 → Prop}
theorem OnceI.keep (hR : RS w.heap.size wr bR bM bm bb k at_ bT N bC (Zr at_ N) idx pol brk tk cs bs) (hn : cs.length = n) (hO : wr.ownsRow w.heap.size 37 1 v n (dvs (cs.map Ch.h))) (hd : ∀ c, c ∈ cs → ∀ g, v.ownBlock = some g → c.dv.ownBlock ≠ some g) (hF : Fr [] w wr)
    (hR' : RS w.heap.size w' bR bM bm bb k at_ bT N bC (Zr at_ N) idx' pol' brk' tk' cs bs') (hK : Kp w.heap.size [bR, bT, bC, bm, bb] wr w') (hP : P idx' pol' brk' tk' cs bs') : OnceI w w' bR bM bm bb k at_ bT N bC v n P :=
  ⟨idx', pol', brk', tk', cs, bs', hR', hn, own37_kp hO hK hR.odd, hd, hF.kpT hK hR.lowS, hP⟩
theorem dvs_append (a b : List Nat) : dvs (a ++ b) = dvs a ++ dvs b := by simp [dvs]
/-- A chain was added, and its head appended to the row. -/
theorem OnceI.added {ch : Ch} {w2 w3 w5 : World} {v' : Value} (hR : RS w.heap.size wr bR bM bm bb k at_ bT N bC (Zr at_ N) idx pol brk tk cs bs) (hn : cs.length = n) (hO : wr.ownsRow w.heap.size 37 1 v n (dvs (cs.map Ch.h))) (hd : ∀ c, c ∈ cs → ∀ g, v.ownBlock = some g → c.dv.ownBlock ≠ some g) (hF : Fr [] w wr) (hF2 : Fr [] wr w2)
    (hfr : ∀ g, ch.dv.ownBlock = some g → w2.heap.size ≤ g) (hR3 : RS w.heap.size w3 bR bM bm bb k at_ bT N bC (Zr at_ N) idx' pol' brk' tk' (cs ++ [ch]) bs') (hK : Kp w.heap.size [bR, bT, bC, bm, bb] w2 w3)
    (hO5 : w5.ownsRow w.heap.size 37 1 v' (n + 1) (dvs (cs.map Ch.h ++ [ch.h]))) (hF5 : Fr v.ownBlock.toList (w3.alloc (.cells #[.int .u16 (ch.h : Nat)] 37)) w5) (hloc : ∀ g', v'.ownBlock = some g' → v.ownBlock = some g' ∨ (w3.alloc (.cells #[.int .u16 (ch.h : Nat)] 37)).heap.size ≤ g') (hP : P idx' pol' brk' tk' (cs ++ [ch]) bs') :
    OnceI w w5 bR bM bm bb k at_ bT N bC v' (n + 1) P := by
  have hvl : ∀ g, v.ownBlock = some g → g < wr.heap.size := fun g hg => (hO.lt g hg).2
  have hO3 : w3.ownsRow w.heap.size 37 1 v n (dvs (cs.map Ch.h)) := own37_kp (own37_kp (B := w.heap.size) (S := []) hO hF2.kp0 (fun t ht => by simp at ht)) hK (hR.fr0 hF2).odd
  have hsep : ∀ c, c ∈ cs ++ [ch] → ∀ g, v.ownBlock = some g → c.dv.ownBlock ≠ some g := fun c hc g hg => by
    rcases List.mem_append.1 hc with hc | hc
    · exact hd c hc g hg
    · simp at hc; subst hc
      intro e
      have := hfr g e
      have := hvl g hg
      have := hF2.size
      omega
  have FA : Fr [] w3 (w3.alloc (.cells #[.int .u16 (ch.h : Nat)] 37)) := (Fr.refl _ _).alloc _
  have hR5 := (hR3.fr0 FA).frOwn (hO3.alloc _) hsep hF5
  refine ⟨idx', pol', brk', tk', cs ++ [ch], bs', hR5, by simp [hn], by simpa using hO5, fun c hc g hg => ?_, ?_, hP⟩
  · rcases hloc g hg with h1 | h1
    · exact hsep c hc g h1
    · intro e
      have := hR3.dvlt hc e
      have := FA.size
      omega
  · have h3 : Fr [] w w3 := (hF.trans0 hF2).kpT hK hR.lowS
    exact (h3.trans0 FA).trans hF5 (fun g hg => .inr (hO3.lt g (by simpa using hg)).1)
/-- A chain was polled, and its head struck from the row, which is a new one. -/
theorem OnceI.polled {c : Ch} {ps qs : List Ch} {w2 w3 w5 : World} {v' : Value} (hR : RS w.heap.size wr bR bM bm bb k at_ bT N bC (Zr at_ N) idx pol brk tk (ps ++ c :: qs) bs) (hn : (ps ++ c :: qs).length = n) (hF : Fr [] w wr)
    (hR2 : RS w.heap.size w2 bR bM bm bb k at_ bT N bC (Zr at_ N) idx' pol' brk' tk' (ps ++ qs) bs') (hK : Kp w.heap.size [bR, bT, bC, bm, bb] wr w2) (hF3 : Fr [] w2 w3)
    (hO5 : w5.ownsRow w.heap.size 37 1 v' (n - 1) (dvs (ps.map Ch.h ++ qs.map Ch.h))) (hF5 : Fr [] w3 w5) (hloc : ∀ g', v'.ownBlock = some g' → w2.heap.size ≤ g') (hP : P idx' pol' brk' tk' (ps ++ qs) bs') :
    OnceI w w5 bR bM bm bb k at_ bT N bC v' (n - 1) P := by
  refine ⟨idx', pol', brk', tk', ps ++ qs, bs', (hR2.fr0 hF3).fr0 hF5, ?_, by simpa using hO5, fun a ha g hg e => ?_, ((hF.kpT hK hR.lowS).trans0 hF3).trans0 hF5, hP⟩
  · simp at hn ⊢; omega
  · have := hR2.dvlt ha e
    have := hloc g hg
    omega
theorem OnceI.waits (h : OnceI w wr bR bM bm bb k at_ bT N bC v n P) : Calls Try.prog 22 #[.pointer (some ⟨bR, 0, none⟩)] wr fun e w' => e = .returned (.int .i64 n) ∧ w' = wr := by
  obtain ⟨idx, pol, brk, tk, cs, bs, hR, hn, _⟩ := h
  rw [← hn]
  exact rwaits_any w.heap.size bR bM bm bb k at_ bT N bC idx pol (Zr at_ N) brk tk cs bs wr hR
theorem add_at (g o j : Nat) : (⟨g, o, none⟩ : Addr).add j = ⟨g, o + j, none⟩ := by unfold Addr.add; split <;> simp_all
theorem dcells_low {W : World} {g : Nat} {ps qs : List Nat} {h : Nat} (hD : DescsAt W g (ps ++ h :: qs)) : ∀ j u, (dvs ps)[j]? = some u → W.cell? ((⟨g, 0, none⟩ : Addr).add j) = some u := by
  intro j u hu
  have hj : j < ps.length := by
    rcases Nat.lt_or_ge j ps.length with h1 | h1
    · exact h1
    · rw [List.getElem?_eq_none (by simpa [dvs] using h1)] at hu; cases hu
  have := hD.cell j (by simp; omega)
  rw [List.getElem_append_left hj] at this
  rw [add_at, Nat.zero_add, this]
  simpa [dvs, hj] using hu
theorem dcells_high {W : World} {g : Nat} {ps qs : List Nat} {h : Nat} (hD : DescsAt W g (ps ++ h :: qs)) : ∀ j u, (dvs qs)[j]? = some u → W.cell? ((⟨g, ps.length + 1, none⟩ : Addr).add j) = some u := by
  intro j u hu
  have hj : j < qs.length := by
    rcases Nat.lt_or_ge j qs.length with h1 | h1
    · exact h1
    · rw [List.getElem?_eq_none (by simpa [dvs] using h1)] at hu; cases hu
  have := hD.cell (ps.length + 1 + j) (by simp; omega)
  rw [add_at, this]
  have e : (ps ++ h :: qs)[ps.length + 1 + j]'(by simp; omega) = qs[j] := by
    rw [List.getElem_append_right (by omega)]
    simp [show ps.length + 1 + j - ps.length = j + 1 by omega]
  rw [e]
  simpa [dvs, hj] using hu
end
end Go.Proofs.Ytfiaciniikcacaa
