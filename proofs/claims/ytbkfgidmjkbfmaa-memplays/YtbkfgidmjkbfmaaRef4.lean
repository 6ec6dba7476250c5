/-
  The walk of Spans of the document's answer for layer 1 (package pharosref01): what is lent, as spans that rise and do not touch. No statement is proved here.
-/
import Derived.Test.YtbkfgidmjkbfmaaRef3
namespace Go.Proofs.Ytbkfgidmjkbfmaa
open Go.RowKit Go.BigFrame
set_option linter.unusedVariables false
set_option linter.unusedSimpArgs false
set_option maxRecDepth 1000000
set_option maxHeartbeats 4000000

/-- Spans of what is lent below i. -/
def Sp (L l : List (Nat × Nat)) (i : Nat) : Prop := Canon L i ∧ ∀ b, b < i → (In L b ↔ In l b)
theorem Canon.up {l : List (Nat × Nat)} {m n : Nat} (h : Canon l m) (hmn : m ≤ n) : Canon l n := ⟨h.one, fun i hi => Nat.le_trans (h.top i hi) hmn, h.gap⟩
theorem Canon.inTop {l : List (Nat × Nat)} {m b : Nat} (h : Canon l m) (hb : In l b) : b < m := by
  obtain ⟨i, hi, _, h2⟩ := hb
  have := h.top i hi
  omega
theorem Sp.zero (l : List (Nat × Nat)) : Sp [] l 0 := ⟨Canon.nil 0, fun b hb => absurd hb (Nat.not_lt_zero _)⟩
theorem Sp.skip {L l : List (Nat × Nat)} {i : Nat} (h : Sp L l i) (hn : ¬ In l i) : Sp L l (i + 1) := by
  refine ⟨h.1.up (by omega), fun b hb => ?_⟩
  rcases Nat.lt_or_ge b i with h1 | h1
  · exact h.2 b h1
  · obtain rfl : b = i := by omega
    exact ⟨fun hb => absurd (h.1.inTop hb) (by omega), fun hb => absurd hb hn⟩
theorem Sp.new {L l : List (Nat × Nat)} {i : Nat} (h : Sp L l i) (hy : In l i) (hp : i = 0 ∨ ¬ In l (i - 1)) : Sp (L ++ [(i, 1)]) l (i + 1) := by
  have hlow : ∀ p, p < L.length → fs L p + sn L p < i := by
    intro p hpl
    have h1 := h.1.top p hpl
    have h2 := h.1.one p hpl
    rcases Nat.lt_or_ge (fs L p + sn L p) i with h3 | h3
    · exact h3
    · have h4 : In L (i - 1) := ⟨p, hpl, by omega, by omega⟩
      rcases hp with h5 | h5
      · omega
      · exact absurd ((h.2 (i - 1) (by omega)).1 h4) h5
  refine ⟨(h.1.up (by omega)).append (Canon.single (by omega) (by omega)) (fun p q hp hq => ?_), fun b hb => ?_⟩
  · have : q = 0 := by simpa using hq
    subst this
    simpa [fs] using hlow p hp
  · rw [In.append, In.single]
    rcases Nat.lt_or_ge b i with h1 | h1
    · rw [h.2 b h1]
      exact ⟨fun h2 => h2.elim (fun h3 => h3) (fun h3 => by omega), .inl⟩
    · obtain rfl : b = i := by omega
      exact ⟨fun _ => hy, fun _ => .inr (by omega)⟩
theorem Sp.last {L l : List (Nat × Nat)} {i : Nat} (h : Sp L l i) (hi : 0 < i) (hp : In l (i - 1)) : ∃ L0 x y, L = L0 ++ [(x, y)] ∧ x + y = i ∧ 1 ≤ y := by
  have hL := (h.2 (i - 1) (by omega)).2 hp
  rcases List.eq_nil_or_concat L with rfl | ⟨L0, ⟨x, y⟩, rfl⟩
  · obtain ⟨p, hp, _⟩ := hL
    simp at hp
  · rw [List.concat_eq_append] at h hL ⊢
    have ex : fs (L0 ++ [(x, y)]) L0.length = x ∧ sn (L0 ++ [(x, y)]) L0.length = y := by simp [fs, sn]
    have h1 := h.1.top L0.length (by simp)
    have h2 := h.1.one L0.length (by simp)
    rw [ex.1, ex.2] at h1
    rw [ex.2] at h2
    refine ⟨L0, x, y, rfl, ?_, h2⟩
    obtain ⟨p, hpl, h3, h4⟩ := hL
    by_cases e : p = L0.length
    · subst e; rw [ex.1, ex.2] at h4; omega
    · have h5 := h.1.gap p L0.length (by simp at hpl; omega) (by simp)
      rw [ex.1] at h5
      omega
theorem Sp.grow {L0 l : List (Nat × Nat)} {i x y : Nat} (h : Sp (L0 ++ [(x, y)]) l i) (hxy : x + y = i) (hy1 : 1 ≤ y) (hy : In l i) : Sp (L0 ++ [(x, y + 1)]) l (i + 1) := by
  have hc0 : Canon L0 i := by simpa using h.1.take L0.length
  refine ⟨(hc0.up (by omega)).append (Canon.single (by omega) (by omega)) (fun p q hp hq => ?_), fun b hb => ?_⟩
  · have : q = 0 := by simpa using hq
    subst this
    have h5 := h.1.gap p L0.length hp (by simp)
    simp only [fs, sn, List.getD_eq_getElem?_getD] at h5 ⊢
    rw [List.getElem?_append_left hp, List.getElem?_append_right (Nat.le_refl _)] at h5
    simpa using h5
  · rw [In.append, In.single]
    have h6 := h.2 b
    rw [In.append, In.single] at h6
    rcases Nat.lt_or_ge b i with h1 | h1
    · rw [← h6 h1]
      constructor
      · rintro (h7 | h7)
        · exact .inl h7
        · exact .inr (by omega)
      · rintro (h7 | h7)
        · exact .inl h7
        · exact .inr (by omega)
    · obtain rfl : b = i := by omega
      exact ⟨fun _ => hy, fun _ => .inr (by omega)⟩
theorem Sp.end {L l : List (Nat × Nat)} {k : Nat} (h : Sp L l k) (hc : Canon l k) : L = l :=
  Canon.unique h.1 hc (fun b => by
    rcases Nat.lt_or_ge b k with h1 | h1
    · exact h.2 b h1
    · exact ⟨fun h2 => absurd (h.1.inTop h2) (by omega), fun h2 => absurd (hc.inTop h2) (by omega)⟩)
theorem Row.setLast {w : World} {g n cap : Nat} {L0 : List (Nat × Nat)} {x y : Nat} (h : Row w (.slice (some ⟨g, 0, none⟩) n cap) (L0 ++ [(x, y)])) :
    Row (w.setCell ⟨g, L0.length * 2 + 1, none⟩ (.int .u32 ((y + 1 : Nat) : Int))) (.slice (some ⟨g, 0, none⟩) n cap) (L0 ++ [(x, y + 1)]) := by
  obtain ⟨cur, hg, hcl, htk, hlc, hcm, hn⟩ := h.blk
  subst hn
  have hfl : flat (L0 ++ [(x, y)]) = flat L0 ++ [.int .u32 x, .int .u32 y] := by rw [flat_append]; rfl
  have hfl2 : flat (L0 ++ [(x, y + 1)]) = flat L0 ++ [.int .u32 x, .int .u32 ((y + 1 : Nat) : Int)] := by rw [flat_append]; rfl
  have hb : Blk (w.setCell ⟨g, L0.length * 2 + 1, none⟩ (.int .u32 ((y + 1 : Nat) : Int))) g (cur.set (L0.length * 2 + 1) (.int .u32 ((y + 1 : Nat) : Int))) := by
    unfold Blk at hg ⊢
    simp [World.setCell, Array.getElem?_modify, hg]
  have := Row.of (l := L0 ++ [(x, y + 1)]) (cap := cap) hb (by rw [List.length_set]; exact hcl) (by simpa using hlc) hcm ?_
  · simpa using this
  · rw [hfl] at htk
    rw [hfl2, List.length_append, List.length_singleton]
    rw [List.length_append, List.length_singleton] at htk
    rw [List.take_set, htk, List.set_append_right _ _ (by rw [flat_length]; omega), flat_length]
    congr 1
    rw [show L0.length * 2 + 1 - L0.length * 2 = 1 by omega]
    rfl

/-- What the loop of Spans keeps. -/
def SpK (w wr : World) (s : Value) (l : List (Nat × Nat)) (i : Nat) : Prop := ∃ L, Row wr s L ∧ Sp L l i ∧ (∀ g, s.ownBlock = some g → w.heap.size ≤ g) ∧ Fr [] w wr
theorem rspans_any (br bB bL k : Nat) (l : List (Nat × Nat)) (bs : List UInt8) (w : World) (hR : RefA w br bB bL k l bs) (hc : Canon l k) :
    Calls Try.prog 17 #[.pointer (some ⟨br, 0, none⟩)] w fun e w' => ∃ v, e = .returned v ∧ Row w' v l ∧ (∀ g, v.ownBlock = some g → w.heap.size ≤ g) ∧ Fr [] w w' := by
  have hk := hR.top
  have HR := hid hR
  have HC := hid hc
  clear hR hc
  go_enter Try.func17, Try.ntmps17
  go_wp2
  go_loopg [3, 4] k (fun gk s q wr => ∃ i : Nat, i ≤ k ∧ gk = k - i ∧ q = .int .i64 i ∧ Hid (SpK w wr s l i))
  case atStart => exact ⟨0, Nat.zero_le _, rfl, rfl, hid ⟨[], World.ownsRow_nil _ _ _ _, Sp.zero l, (fun g h => by cases h), Fr.refl _ _⟩⟩
  case round =>
    obtain ⟨i, hi, hgk, rfl, K0⟩ := hrel
    obtain ⟨L, hRow, hSp, hO, hF⟩ := K0.out
    have hR1 := HR.out.fr0 hF
    have c0 := hR1.c0
    have c1 := hR1.c1
    by_cases hlt : i < k
    · have hlt' : (i : Int) < (k : Int) := by omega
      obtain ⟨y, hy, hcy⟩ := hR1.lcell i hlt
      have HY := hid hy
      have HRow := hid hRow
      have HSp := hid hSp
      have HO := hid hO
      have HF := hid hF
      clear hR1 hRow hSp hO hF hy K0
      cases y with
      | false =>
        go_wp2
        go_roundg (k - (i + 1))
        case measure => omega
        case rel => exact ⟨i + 1, by omega, rfl, by go_num, hid ⟨L, HRow.out, HSp.out.skip (fun h => Bool.noConfusion (HY.out.2 h)), HO.out, HF.out⟩⟩
      | true =>
        by_cases h0 : i = 0
        · have d0 : decide ((0 : Int) < (i : Int)) = false := by simp; omega
          have d0n : decide (0 < i) = false := by simp; omega
          obtain ⟨p, cp, hform⟩ := HRow.out.form
          have hLl := HSp.out.1.len
          have HN := hid (HSp.out.new (HY.out.1 rfl) (.inl h0))
          clear h0
          subst hform
          go_wp2_with (at_builtin; refine wpList_append3 rfl (.tmp 44) (.tmp 48) rfl _ L [(i, 1)] rfl (HRow.out.fr ((Fr.refl [] wr).alloc _) (by simp)) _ 1 rfl (row_one _ _ _ i 1 _ ?_ ?_ ?_) (by simp; omega) ?_)
          · simp
          · omega
          intro v' w1 h1 hL1 hF1
          go_wp2
          go_roundg (k - (i + 1))
          case measure => omega
          case rel =>
            have F1 : Fr [] w w1 := (HF.out.alloc _).trans hF1 (fun t ht => .inr (HO.out t (by simpa using ht)))
            refine ⟨i + 1, by omega, rfl, by go_num, hid ⟨_, h1, HN.out, fun g hg => Nat.le_trans ?_ (hL1.out g hg), F1⟩⟩
            exact lo_le (HF.out.alloc _).size HO.out
        · have d0 : decide ((0 : Int) < (i : Int)) = true := by simp; omega
          have d0n : decide (0 < i) = true := by simp; omega
          obtain ⟨z, hz, hcz⟩ := (HR.out.fr0 HF.out).lcell (i - 1) (by omega)
          have HZ := hid hz
          clear hz
          have ei : ((i : Int) - 1) = ((i - 1 : Nat) : Int) := by omega
          have hi1 : ((i - 1 : Nat) : Int) < (k : Int) := by omega
          have hlt1 : i - 1 < k := by omega
          cases z with
          | false =>
            obtain ⟨p, cp, hform⟩ := HRow.out.form
            have hLl := HSp.out.1.len
            have HN := hid (HSp.out.new (HY.out.1 rfl) (.inr (fun h => Bool.noConfusion (HZ.out.2 h))))
            subst hform
            go_wp2_with (at_builtin; refine wpList_append3 rfl (.tmp 44) (.tmp 48) rfl _ L [(i, 1)] rfl (HRow.out.fr ((Fr.refl [] wr).alloc _) (by simp)) _ 1 rfl (row_one _ _ _ i 1 _ ?_ ?_ ?_) (by simp; omega) ?_)
            · simp
            · omega
            intro v' w1 h1 hL1 hF1
            go_wp2
            go_roundg (k - (i + 1))
            case measure => omega
            case rel =>
              have F1 : Fr [] w w1 := (HF.out.alloc _).trans hF1 (fun t ht => .inr (HO.out t (by simpa using ht)))
              refine ⟨i + 1, by omega, rfl, by go_num, hid ⟨_, h1, HN.out, fun g hg => Nat.le_trans ?_ (hL1.out g hg), F1⟩⟩
              exact lo_le (HF.out.alloc _).size HO.out
          | true =>
            obtain ⟨L0, x, y, rfl, hxy, hy1⟩ := HSp.out.last (by omega) (HZ.out.1 rfl)
            have HG := hid (HSp.out.grow hxy hy1 (HY.out.1 rfl))
            obtain ⟨g, cp, hform, hcp⟩ := HRow.out.slice (by simp)
            have hra := (ownsRow.rowAt (hform ▸ HRow.out) rfl : RowAt wr g (L0 ++ [(x, y)])) L0.length (by simp)
            have hcl : wr.cell? ⟨g, L0.length * 2 + 1, none⟩ = some (.int .u32 (y : Nat)) := by have := hra.2; simpa [sn] using this
            obtain ⟨cur, hbk, _⟩ := (hform ▸ HRow.out : Row wr (.slice (some ⟨g, 0, none⟩) _ cp) (L0 ++ [(x, y)])).blk
            have hfz := frozen_of_heap (o := L0.length * 2 + 1) hbk
            have HSL := hid (Row.setLast (hform ▸ HRow.out : Row wr (.slice (some ⟨g, 0, none⟩) _ cp) (L0 ++ [(x, y)])))
            have hLl := HSp.out.1.len
            rw [List.length_append, List.length_singleton] at hform hcp HSL hLl
            have HOg := hid (show w.heap.size ≤ g from HO.out g (by rw [hform]; rfl))
            subst hform
            clear hra hbk HRow HSp HO
            generalize hN : L0.length = N at *
            have eN : (((N + 1 : Nat) : Int) - 1) = (N : Int) := by omega
            go_wp2
            go_roundg (k - (i + 1))
            case measure => omega
            case rel => exact ⟨i + 1, by omega, rfl, by go_num, hid ⟨_, HSL.out, HG.out, (fun g' hg' => by cases hg'; exact HOg.out), HF.out.setCell (p := ⟨g, N * 2 + 1, none⟩) (.inr HOg.out) _⟩⟩
    · obtain rfl : i = k := by omega
      have HK := hid (show Row wr u3 l from by rw [← hSp.end HC.out]; exact hRow)
      have HO := hid hO
      have HF := hid hF
      clear hR1 hRow hSp hO hF K0
      go_wp2
      go_ret
      exact ⟨u3, rfl, HK.out, HO.out, HF.out⟩
end Go.Proofs.Ytbkfgidmjkbfmaa
