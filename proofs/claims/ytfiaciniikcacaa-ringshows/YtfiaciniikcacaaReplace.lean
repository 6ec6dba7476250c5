/-
  The walk of slices.Replace at spans: behind it a row holds the list in the place of the spans from i to j, and nothing else that was there has turned.
-/
import Derived.Test.YtfiaciniikcacaaGrow
namespace Go.Proofs.Ytfiaciniikcacaa
open Go.RowKit Go.BigFrame
set_option linter.unusedVariables false
set_option linter.unusedSimpArgs false
set_option maxRecDepth 100000
set_option maxHeartbeats 1000000

theorem Row.form {w : World} {vv : Value} {k : List (Nat × Nat)} (h : Row w vv k) : ∃ p c, vv = .slice p k.length c := by
  rcases h.2 with ⟨rfl, h0⟩ | ⟨g, cap, cur, rfl, _, _, hnc, _⟩
  · exact ⟨none, 0, by rw [h0]⟩
  · exact ⟨some ⟨g, 0, none⟩, cap, rfl⟩
/-- The cells of a list, wherever it lies, or nothing. -/
theorem Row.src {w : World} {p : Option Addr} {n c : Nat} {k : List (Nat × Nat)} (h : Row w (.slice p n c) k) (hp : 0 < (flat k).length) : ∃ ad, p = some ad ∧ ∀ j v, (flat k)[j]? = some v → w.cell? (ad.add j) = some v := by
  rcases h.2 with ⟨_, h0⟩ | ⟨g, cap, cur, he, _, hg, hnc, hcm, hcs, htake⟩
  · rw [flat_length] at hp; omega
  · simp only [Value.slice.injEq] at he
    obtain ⟨rfl, _, _⟩ := he
    exact ⟨_, rfl, World.ownsRow.cells h rfl⟩
theorem Row.fr {S : List Nat} {w w' : World} {v : Value} {k : List (Nat × Nat)} (h : Row w v k) (hF : Fr S w w') (hne : ∀ g, v.ownBlock = some g → g ∉ S) : Row w' v k := by
  refine ⟨h.1, ?_⟩
  rcases h.2 with h2 | ⟨g, cap, cur, rfl, h3, hg, r⟩
  · exact .inl h2
  · exact .inr ⟨g, cap, cur, rfl, h3, hF.heap hg (hne g rfl), r⟩

theorem replace_eq (lv vv : Value) (l k : List (Nat × Nat)) (i : Nat) (w : World) (hl : Row w lv l) (hk : Row w vv k) (hne : vv.ownBlock ≠ lv.ownBlock)
    (hm : 1 ≤ k.length) (hlen : l.length ≤ 1048576) (hkl : k.length ≤ 1048576) (hi : i ≤ l.length) :
    Calls Try.prog 73 #[lv, .int .i64 i, .int .i64 i, vv] w fun e w' => ∃ lv', e = .returned lv' ∧ Row w' lv' (l.take i ++ k ++ l.drop i) ∧ (∀ g, lv'.ownBlock = some g → lo w lv ≤ g) ∧ Fr lv.ownBlock.toList w w' := by
  have H := hid (insert_any lv vv l k i w hl hk hne hm hlen hkl hi)
  have hq : ((i : Int) == (i : Int)) = true := by simp
  have x1 : (i : Int) ≤ (l.length : Int) := by omega
  rcases hl.2 with ⟨rfl, h0⟩ | ⟨g, cap, cur, rfl, _, hg, hnc, hcm, hcs, htake⟩
  · obtain rfl : i = 0 := by omega
    clear hl hk hne
    have H0 : Hid (Calls Try.prog 83 #[.slice none 0 0, .int .i64 0, vv] w fun e w' => ∃ lv', e = .returned lv' ∧ Row w' lv' (l.take 0 ++ k ++ l.drop 0) ∧ (∀ g, lv'.ownBlock = some g → lo w (.slice none 0 0) ≤ g) ∧ Fr (Value.slice none 0 0).ownBlock.toList w w') := H.out
    clear H
    go_enter Try.func73, Try.ntmps73
    go_wp2_with fail
    refine H0.out.mono ?_
    rintro e w1 ⟨lv', rfl, h1, hL', h2⟩
    have HL := hid hL'
    clear hL'
    go_wp2
    go_ret
    exact ⟨lv', rfl, h1, HL.out, h2⟩
  · have x2 : (l.length : Int) ≤ (cap : Int) := by omega
    clear hl hk hne hg htake hcs
    by_cases hci : cap = i
    · subst hci
      go_enter Try.func73, Try.ntmps73
      go_wp2_with fail
      refine H.out.mono ?_
      rintro e w1 ⟨lv', rfl, h1, hL', h2⟩
      have HL := hid hL'
      clear hL'
      go_wp2
      go_ret
      exact ⟨lv', rfl, h1, HL.out, h2⟩
    · go_enter Try.func73, Try.ntmps73
      go_wp2_with fail
      refine H.out.mono ?_
      rintro e w1 ⟨lv', rfl, h1, hL', h2⟩
      have HL := hid hL'
      clear hL'
      go_wp2
      go_ret
      exact ⟨lv', rfl, h1, HL.out, h2⟩

theorem replace_end (g n cap : Nat) (vv : Value) (l k : List (Nat × Nat)) (i : Nat) (w : World) (hl : Row w (.slice (some ⟨g, 0, none⟩) n cap) l) (hk : Row w vv k)
    (hlen : l.length ≤ 1048576) (hkl : k.length ≤ 1048576) (hi : i < l.length) :
    Calls Try.prog 73 #[.slice (some ⟨g, 0, none⟩) n cap, .int .i64 i, .int .i64 l.length, vv] w fun e w' => ∃ lv', e = .returned lv' ∧ Row w' lv' (l.take i ++ k) ∧ (∀ g', lv'.ownBlock = some g' → lo w (.slice (some ⟨g, 0, none⟩) n cap) ≤ g') ∧ Fr [g] w w' := by
  obtain ⟨cur, hg, hcl, htk, hnc, hcm, rfl⟩ := hl.blk
  have hin : ((i : Int) == (l.length : Int)) = false := by simp; omega
  have x1 : (i : Int) < (l.length : Int) := by omega
  have x2 : (l.length : Int) ≤ (cap : Int) := by omega
  have x3 : (l.length : Int) ≤ 1048576 := by omega
  have x4 : (k.length : Int) ≤ 1048576 := by omega
  have hq : ((l.length : Int) == (l.length : Int)) = true := by simp
  have HG := hid hg
  have HK := hid hk
  have HA := hid (take_flat htk i (by omega))
  have L4 := hid (show (l.take i ++ k).length = i + k.length from by simp; omega)
  have lti : (l.take i).length = i := by simp; omega
  have HR : Hid (Row w (.slice (some ⟨g, 0, none⟩) i cap) (l.take i)) := by
    have := Row.of (l := l.take i) hg hcl (by omega) hcm (by rw [lti]; exact HA.out)
    rwa [lti] at this
  have hS := (shift_eq cur l k i l.length HA.out)
  simp only [Nat.sub_self, Nat.add_zero, List.drop_length, List.append_nil] at hS
  obtain ⟨pv, kc, hvv⟩ := hk.form
  rcases Nat.lt_or_ge cap (i + k.length) with hroom | hroom
  · subst hvv
    have z1 : ¬ ((i : Int) + (k.length : Int) < (l.length : Int)) := by omega
    clear hl hk hg htk hS lti
    go_enter Try.func73, Try.ntmps73
    go_wp2_with (at_builtin; refine wpList_append2 rfl (.tmp 32) (.tmp 33) rfl (.slice (some ⟨g, 0, none⟩) i cap) (l.take i) k rfl HR.out _ rfl HK.out (by simp; omega) ?_; intro v' w' h1 hL h2; obtain ⟨p', c', rfl⟩ := h1.form; rw [L4.out])
    go_ret
    exact ⟨_, rfl, by rw [← L4.out]; exact h1, fun g' hg' => (show g ≤ g' from hL.out g' (by cases p' <;> exact hg')), h2⟩
  · have HS := hid (hS (by omega)).1
    have fit : Hid (i * 2 + (flat k).length ≤ cur.length) := by show _ ≤ _; rw [flat_length]; omega
    subst hvv
    clear hl hk hg htk hS
    by_cases hcl0 : i + k.length < l.length
    · have z1 : (i : Int) + (k.length : Int) < (l.length : Int) := by omega
      go_enter Try.func73, Try.ntmps73
      go_wp2_with (first | (at_builtin; refine wpList_append_room2 rfl (.tmp 32) (.tmp 33) rfl g i cap rfl cur HG.out hcl _ rfl k HK.out hroom ?_; intro w1 hb1 hF1) | (refine wpList_clear2 rfl (.tmp 43) rfl (some ⟨g, (i + k.length) * 2, none⟩) (l.length - (i + k.length)) (cap - (i + k.length)) rfl g ((i + k.length) * 2) (fun _ => rfl) _ hb1.out ?_ ?_))
      · rw [length_splice _ _ _ fit.out]; omega
      intro w2 cur2 hb2 hl2 ht2 hF2
      go_wp2
      go_ret
      refine ⟨_, rfl, ?_, fun g' hg' => lo_own hg', hF1.trans hF2 (fun t ht => .inl ht)⟩
      have := Row.of (l := l.take i ++ k) (cap := cap) hb2.out (by rw [hl2.out, length_splice _ _ _ fit.out, hcl]) (by rw [L4.out]; omega) hcm (by rw [L4.out]; refine ht2.out.trans ?_; have := HS.out; rw [L4.out] at this; simpa [splice, flat] using this)
      rwa [L4.out] at this
    · have z1 : ¬ ((i : Int) + (k.length : Int) < (l.length : Int)) := by omega
      go_enter Try.func73, Try.ntmps73
      go_wp2_with (at_builtin; refine wpList_append_room2 rfl (.tmp 32) (.tmp 33) rfl g i cap rfl cur HG.out hcl _ rfl k HK.out hroom ?_; intro w1 hb1 hF1)
      go_ret
      refine ⟨_, rfl, ?_, fun g' hg' => lo_own hg', hF1⟩
      have := Row.of (l := l.take i ++ k) (cap := cap) hb1.out (by rw [length_splice _ _ _ fit.out, hcl]) (by rw [L4.out]; omega) hcm (by have := HS.out; rw [L4.out] at this ⊢; simpa [splice, flat] using this)
      rwa [L4.out] at this
end Go.Proofs.Ytfiaciniikcacaa
