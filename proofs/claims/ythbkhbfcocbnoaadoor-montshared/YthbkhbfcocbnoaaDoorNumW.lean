/-
  The document's numbers: reduce's second three rounds, as plain arithmetic on rows of digits. No statement is proved here.
-/
import Derived.Test.YthbkhbfcocbnoaaDoorNumV
namespace Go.Proofs.YthbkhbfcocbnoaaDoor
open Go.RowKit Go.Lib Go.BigFrame
set_option linter.unusedVariables false
set_option linter.unusedSimpArgs false
set_option maxRecDepth 1000000
set_option maxHeartbeats 2000000

/-- The row behind a round of the second three. -/
def g2 (t : List Nat) : List Nat := ((cr t 9).set 8 ((cr t 9).getD 8 0 % 32768)).set 0 ((cr t 9).getD 0 0 + 19 * (cc t 9 * 32768 + (cr t 9).getD 8 0 / 32768))
theorem list9 (t : List Nat) (h : t.length = 9) : ∃ x0 x1 x2 x3 x4 x5 x6 x7 x8 : Nat, t = [x0, x1, x2, x3, x4, x5, x6, x7, x8] := by
  match t, h with
  | [x0, x1, x2, x3, x4, x5, x6, x7, x8], _ => exact ⟨x0, x1, x2, x3, x4, x5, x6, x7, x8, rfl⟩
theorem cr9 (t : List Nat) (h : t.length = 19) (hz : t.drop 9 = List.replicate 10 0) : ∃ d0 d8 : Nat, ∃ m : List Nat, m.length = 7 ∧ cr t 9 = d0 :: m ++ d8 :: List.replicate 10 0 ∧ d0 < 1073741824 ∧ d8 < 1073741824 ∧ (∀ x ∈ m, x < 1073741824) ∧ vl t = d0 + 1073741824 * vl m + 1766847064778384329583297500742918515827483896875618958121606201292619776 * d8 + 1897137590064188545819787018382342682267975428761855001222473056385648716020711424 * cc t 9 := by
  have l1 : (t.take 9).length = 9 := by rw [List.length_take]; omega
  have l2 : (cpl (t.take 9) 0).1.length = 9 := by rw [cpl_len, l1]
  have hv := cpl_val (t.take 9) 0
  have hx := cpl_lt (t.take 9) 0
  have k9 : 1073741824 ^ 9 = 1897137590064188545819787018382342682267975428761855001222473056385648716020711424 := by decide
  have e1 : vl t = vl (t.take 9) := by
    have := vl_append (t.take 9) (t.drop 9)
    rw [List.take_append_drop, hz, vl_zeros, Nat.mul_zero, Nat.add_zero] at this
    exact this
  obtain ⟨x0, x1, x2, x3, x4, x5, x6, x7, x8, e2⟩ := list9 _ l2
  refine ⟨x0, x8, [x1, x2, x3, x4, x5, x6, x7], rfl, ?_, ?_, ?_, ?_, ?_⟩
  · unfold cr
    rw [e2, hz]; rfl
  · exact hx x0 (by rw [e2]; simp)
  · exact hx x8 (by rw [e2]; simp)
  · intro x h; apply hx x; rw [e2]
    simp at h ⊢
    omega
  · rw [l1, k9, Nat.add_zero, e2] at hv
    rw [e1, ← hv]
    show x0 + 1073741824 * vl [x1, x2, x3, x4, x5, x6, x7, x8] + 1897137590064188545819787018382342682267975428761855001222473056385648716020711424 * cc t 9 = _
    have := vl_append [x1, x2, x3, x4, x5, x6, x7] [x8]
    have k7 : 1073741824 ^ [x1, x2, x3, x4, x5, x6, x7].length = 1645504557321206042154969182557350504982735865633579863348609024 := by show 1073741824 ^ 7 = _; decide
    rw [k7] at this
    have e3 : vl [x1, x2, x3, x4, x5, x6, x7, x8] = vl [x1, x2, x3, x4, x5, x6, x7] + 1645504557321206042154969182557350504982735865633579863348609024 * x8 := by
      have e4 : vl [x8] = x8 := by simp [vl]
      rw [← e4]; exact this
    rw [e3]
    generalize vl [x1, x2, x3, x4, x5, x6, x7] = z
    omega
theorem g2_val (t : List Nat) (h : t.length = 19) (hz : t.drop 9 = List.replicate 10 0) (hd : ∀ x ∈ t, x ≤ 18446742974197923840) :
    (g2 t).length = 19 ∧ (g2 t).drop 9 = List.replicate 10 0 ∧ (∀ x ∈ g2 t, x ≤ 18446742974197923840) ∧ vl (g2 t) = vl t % 57896044618658097711785492504343953926634992332820282019728792003956564819968 + 19 * (vl t / 57896044618658097711785492504343953926634992332820282019728792003956564819968) ∧ (vl t < 57896044618658097711785492504343953926634992332820282019728792003956564819968 → ∀ x ∈ g2 t, x < 1073741824) ∧ (cr t 9).getD 8 0 < 1073741824 ∧ (cr t 9).getD 0 0 < 1073741824 := by
  obtain ⟨d0, d8, m, hm, e, h0, h8, hmm, hv⟩ := cr9 t h hz
  have hc := cc_le t 9 hd
  obtain ⟨m1, m2, m3, m4, m5, m6, m7, rfl⟩ : ∃ m1 m2 m3 m4 m5 m6 m7, m = [m1, m2, m3, m4, m5, m6, m7] := by
    match m, hm with
    | [m1, m2, m3, m4, m5, m6, m7], _ => exact ⟨m1, m2, m3, m4, m5, m6, m7, rfl⟩
  have hlt := vl_lt [m1, m2, m3, m4, m5, m6, m7] hmm
  have k7 : 1073741824 ^ [m1, m2, m3, m4, m5, m6, m7].length = 1645504557321206042154969182557350504982735865633579863348609024 := by show 1073741824 ^ 7 = _; decide
  rw [k7] at hlt
  have eg : g2 t = (d0 + 19 * (cc t 9 * 32768 + d8 / 32768)) :: [m1, m2, m3, m4, m5, m6, m7] ++ (d8 % 32768) :: List.replicate 10 0 := by
    unfold g2
    rw [e]; rfl
  have ev : vl (g2 t) = d0 + 19 * (cc t 9 * 32768 + d8 / 32768) + 1073741824 * vl [m1, m2, m3, m4, m5, m6, m7] + 1766847064778384329583297500742918515827483896875618958121606201292619776 * (d8 % 32768) := by
    rw [eg]
    have := vl_append [m1, m2, m3, m4, m5, m6, m7] ((d8 % 32768) :: List.replicate 10 0)
    rw [k7] at this
    have e4 : vl ((d8 % 32768) :: List.replicate 10 0) = d8 % 32768 := by
      show d8 % 32768 + 1073741824 * vl (List.replicate 10 0) = _
      rw [vl_zeros, Nat.mul_zero, Nat.add_zero]
    rw [e4] at this
    show d0 + 19 * (cc t 9 * 32768 + d8 / 32768) + 1073741824 * vl ([m1, m2, m3, m4, m5, m6, m7] ++ (d8 % 32768) :: List.replicate 10 0) = _
    rw [this]
    generalize vl [m1, m2, m3, m4, m5, m6, m7] = z
    omega
  have hq : vl t / 57896044618658097711785492504343953926634992332820282019728792003956564819968 = cc t 9 * 32768 + d8 / 32768 := by
    rw [hv]
    generalize vl [m1, m2, m3, m4, m5, m6, m7] = z at *
    omega
  have hr : vl t % 57896044618658097711785492504343953926634992332820282019728792003956564819968 = d0 + 1073741824 * vl [m1, m2, m3, m4, m5, m6, m7] + 1766847064778384329583297500742918515827483896875618958121606201292619776 * (d8 % 32768) := by
    rw [hv]
    generalize vl [m1, m2, m3, m4, m5, m6, m7] = z at *
    omega
  refine ⟨by rw [eg]; rfl, by rw [eg]; rfl, fun x hx => ?_, by rw [ev, hq, hr]; omega, fun hlt2 x hx => ?_, by rw [e]; exact h8, by rw [e]; exact h0⟩
  · rw [eg] at hx
    rcases List.mem_append.1 hx with hx | hx
    · rcases List.mem_cons.1 hx with rfl | hx
      · omega
      · have := hmm x hx; omega
    · rcases List.mem_cons.1 hx with rfl | hx
      · omega
      · have := List.eq_of_mem_replicate hx; omega
  · have hq0 : cc t 9 * 32768 + d8 / 32768 = 0 := by rw [← hq]; exact Nat.div_eq_of_lt hlt2
    rw [eg] at hx
    rcases List.mem_append.1 hx with hx | hx
    · rcases List.mem_cons.1 hx with rfl | hx
      · omega
      · exact hmm x hx
    · rcases List.mem_cons.1 hx with rfl | hx
      · omega
      · have := List.eq_of_mem_replicate hx; omega
def bn2 : Nat → Nat
  | 0 => 1897137590064188545819787018382342682267975428761855001222473056385648716020711424
  | 1 => 57896044618658097711785492504343953926634992332820282019728792003956565442560
  | _ => 57896044618658097711785492504343953926634992332820282019728792003956564819968
/-- Ahead of round k of the second three. -/
def S2 (V k : Nat) (t : List Nat) : Prop := t.length = 19 ∧ (∀ x ∈ t, x ≤ 18446742974197923840) ∧ t.drop 9 = List.replicate 10 0 ∧ vl t % Nt.P = V % Nt.P ∧ vl t < bn2 k ∧ (k = 3 → ∀ x ∈ t, x < 1073741824)
theorem R_P : 57896044618658097711785492504343953926634992332820282019728792003956564819968 = 19 + Nt.P * 1 := by rw [Nt.P_val]
theorem S2.next {V k : Nat} {t : List Nat} (h : S2 V k t) (hk : k < 3) : S2 V (k + 1) (g2 t) := by
  obtain ⟨h1, h2, h3, h4, h5, h6⟩ := h
  obtain ⟨a1, a2, a3, a4, a5, -, -⟩ := g2_val t h1 h3 h2
  refine ⟨a1, a3, a2, ?_, ?_, fun hk3 => a5 ?_⟩
  · rw [a4, fold_mod R_P, Nat.mod_add_div]; exact h4
  · rw [a4]
    match k, hk with
    | 0, _ => simp only [bn2] at *; omega
    | 1, _ => simp only [bn2] at *; omega
    | 2, _ => simp only [bn2] at *; omega
  · obtain rfl : k = 2 := by omega
    exact h5
theorem S1.last {V : Nat} {t : List Nat} (h : S1 V 3 t) (hz : t.drop 9 = List.replicate 10 0) : S2 V 0 t :=
  ⟨h.1, h.2.1, hz, h.2.2.1, h.2.2.2, fun h => by omega⟩
/-- Digits that are below 2^30 are the digits of their number. -/
theorem dt_vl : ∀ (l : List Nat) (i : Nat), (∀ x ∈ l, x < 1073741824) → dt (vl l) i = l.getD i 0
  | [], i, _ => by simp [dt, vl]
  | x :: l, 0, h => by
    have := h x (List.mem_cons_self ..)
    show (x + 1073741824 * vl l) / 2 ^ (30 * 0) % 1073741824 = x
    rw [Nat.mul_zero, Nat.pow_zero, Nat.div_one, Nat.add_mul_mod_self_left, Nat.mod_eq_of_lt this]
  | x :: l, i + 1, h => by
    have h0 := h x (List.mem_cons_self ..)
    have ih := dt_vl l i (fun y hy => h y (List.mem_cons_of_mem _ hy))
    show (x + 1073741824 * vl l) / 2 ^ (30 * (i + 1)) % 1073741824 = l.getD i 0
    rw [← ih, show 2 ^ (30 * (i + 1)) = 1073741824 * 2 ^ (30 * i) from by rw [Nat.mul_add, Nat.add_comm, Nat.pow_add], ← Nat.div_div_eq_div_mul, Nat.add_mul_div_left _ _ (by decide), Nat.div_eq_of_lt h0, Nat.zero_add]
    rfl
theorem S2.digits {V : Nat} {t : List Nat} (h : S2 V 3 t) : ∀ j, j < 9 → t.getD j 0 = dt (vl t) j := fun j _ => (dt_vl t j (h.2.2.2.2.2 rfl)).symm

end Go.Proofs.YthbkhbfcocbnoaaDoor
