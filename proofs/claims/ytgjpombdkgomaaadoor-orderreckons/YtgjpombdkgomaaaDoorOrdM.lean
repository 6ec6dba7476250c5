/-
  OrderLaws: what its numbers are; the walk where one text is no number. No statement is proved here.
-/
import Derived.Test.YtgjpombdkgomaaaDoorOrdL
namespace Go.Proofs.YtgjpombdkgomaaaDoor
open Go.RowKit Go.Lib Go.BigFrame
set_option linter.unusedVariables false
set_option linter.unusedSimpArgs false
set_option maxRecDepth 1000000
set_option maxHeartbeats 4000000

theorem law_one (a b m : Nat) : (b * 1 + a) % m = (a * 1 + b) % m := by rw [Nat.mul_one, Nat.mul_one, Nat.add_comm]
theorem law_com (a b c m : Nat) : (b * a + c) % m = (a * b + c) % m := by rw [Nat.mul_comm]
theorem law_zero {a b m : Nat} (h : b < m) : (a * 0 + b) % m = b := by rw [Nat.mul_zero, Nat.zero_add, Nat.mod_eq_of_lt h]
theorem law_ass (a b c m : Nat) : (a * ((b * c + 0) % m) + 0) % m = ((a * b + 0) % m * c + 0) % m := by
  rw [Nat.add_zero, Nat.add_zero, Nat.add_zero, Nat.add_zero, Nat.mul_mod, Nat.mod_mod, ← Nat.mul_mod, ← Nat.mul_assoc, Nat.mul_mod (a * b % m), Nat.mod_mod, ← Nat.mul_mod]
theorem law_dis (a b c m : Nat) : (a * b + (a * c + 0) % m) % m = (a * ((b * 1 + c) % m) + 0) % m := by
  rw [Nat.mul_one, Nat.add_zero, Nat.add_zero, Nat.mul_mod a ((b + c) % m), Nat.mod_mod, ← Nat.mul_mod, Nat.mul_add, Nat.add_mod, Nat.mod_mod, ← Nat.add_mod]
theorem rd_high (s : ByteArray) (j : Nat) : ∀ d, ∃ c, rd s (j + 1 + d) = rd s j + 256 ^ j * (byt s j + 256 * c)
  | 0 => ⟨0, by rw [Nat.add_zero, rd, Nat.mul_zero, Nat.add_zero, Nat.mul_comm]⟩
  | d + 1 => by
    obtain ⟨c, h⟩ := rd_high s j d
    refine ⟨c + byt s (j + 1 + d) * 256 ^ d, ?_⟩
    rw [show j + 1 + (d + 1) = (j + 1 + d) + 1 from rfl, rd, h, Nat.pow_add, Nat.pow_succ, Nat.mul_add, Nat.mul_add, Nat.mul_add, Nat.mul_add]
    have e : byt s (j + 1 + d) * (256 ^ j * 256 * 256 ^ d) = 256 ^ j * (256 * (byt s (j + 1 + d) * 256 ^ d)) := by
      generalize 256 ^ d = y
      generalize 256 ^ j = z
      generalize byt s (j + 1 + d) = x
      rw [Nat.mul_left_comm 256 x y, Nat.mul_left_comm z x, Nat.mul_assoc]
    rw [e]; omega
theorem rd_byte (s : ByteArray) (j : Nat) (h : j < 32) : rd s 32 / 256 ^ j % 256 = byt s j := by
  obtain ⟨c, hc⟩ := rd_high s j (31 - j)
  rw [show j + 1 + (31 - j) = 32 by omega] at hc
  rw [hc, Nat.add_mul_div_left _ _ (Nat.pow_pos (by decide)), Nat.div_eq_of_lt (rd_lt s j), Nat.zero_add, Nat.add_mul_mod_self_left, Nat.mod_eq_of_lt (byt_lt s j)]
theorem by32_rd (s : ByteArray) (hs : s.size = 32) : by32 (rd s 32) = s := by
  apply ByteArray.ext
  have hd : s.data.size = 32 := hs
  apply Array.ext
  · rw [by32_data, hd]; simp
  · intro j h1 h2
    have hj : j < 32 := by omega
    have hb : vb (rd s 32) j = byt s j := rd_byte s j hj
    simp only [by32_data, List.getElem_toArray, List.getElem_map, List.getElem_range, hb]
    unfold byt
    simp
    rw [Array.getElem?_eq_getElem h2]; rfl
theorem toList_inj' {a b : ByteArray} (h : a.toList = b.toList) : a = b := by
  rw [ByteArray.toList_eq, ByteArray.toList_eq] at h
  exact ByteArray.ext (Array.toList_inj.1 h)
theorem canon_q (s : ByteArray) (h : fits s) : ∃ q : Bool, (∀ W, PV W → Calls Tryd.prog 9 #[.string s] W fun e w' => e = .returned (.bool q) ∧ Fr [] W w') ∧ ((by32 (of s)).toList == s.toList) = q := by
  by_cases hs : s.size = 32
  · refine ⟨_, fun W hW => canon_yes s hs W hW, ?_⟩
    have ho : of s = rd s 32 % Lq := by unfold of; rw [hs]
    by_cases hl : rd s 32 < Lq
    · rw [decide_eq_true hl, ho, Nat.mod_eq_of_lt hl, by32_rd s hs, beq_self_eq_true]
    · rw [decide_eq_false hl, beq_eq_false_iff_ne]
      intro e
      have e := toList_inj' e
      have h1 := rd_by32 (of s) (lt4 (of_ltL s))
      rw [e] at h1
      have := of_ltL s
      omega
  · refine ⟨false, fun W hW => canon_no s hs W, ?_⟩
    rw [beq_eq_false_iff_ne]
    intro e
    have e := toList_inj' e
    exact hs (by rw [← e]; exact by32_size _)
theorem canon_own (v : Nat) (hv : v < Lq) (w : World) (hP : PV w) : Calls Tryd.prog 9 #[.string (by32 v)] w fun e w' => e = .returned (.bool true) ∧ Fr [] w w' := by
  have := canon_yes (by32 v) (by32_size v) w hP
  rwa [rd_by32 v (lt4 hv), decide_eq_true hv] at this
theorem byt_app (s t : ByteArray) (j : Nat) : byt (s ++ t) j = if j < s.size then byt s j else byt t (j - s.size) := by
  unfold byt
  rw [ByteArray.data_append, Array.getD_eq_getD_getElem?]
  by_cases h : j < s.size
  · rw [if_pos h, Array.getElem?_append_left h, ← Array.getD_eq_getD_getElem?]
  · have h2 : s.data.size ≤ j := Nat.le_of_not_lt h
    rw [if_neg h, Array.getElem?_append_right h2, ← Array.getD_eq_getD_getElem?]; rfl
theorem z32_byt (j : Nat) : byt z32 j = 0 := by
  rcases Nat.lt_or_ge j 32 with h | h
  · have : ∀ i : Fin 32, byt z32 i.1 = 0 := by decide +kernel
    exact this ⟨j, h⟩
  · unfold byt
    have hs : z32.data.size = 32 := z32_size
    rw [Array.getD_eq_getD_getElem?, Array.getElem?_eq_none (by omega)]; rfl
theorem of_wide (v : Nat) (hv : v < Lq) : fits (by32 v ++ z32) ∧ of (by32 v ++ z32) = v := by
  have hs : (by32 v ++ z32).size = 64 := by rw [ByteArray.size_append, by32_size, z32_size]
  refine ⟨.inr hs, ?_⟩
  unfold of
  rw [hs]
  have h1 := rd_more (by32 v ++ z32) 32 32 (fun j hj => by rw [byt_app, by32_size, if_neg (by omega), z32_byt])
  rw [show 32 + 32 = 64 from rfl] at h1
  rw [h1, rd_same (by32 v ++ z32) (by32 v) 32 (fun j hj => by rw [byt_app, by32_size, if_pos hj]), rd_by32 v (lt4 hv), Nat.mod_eq_of_lt hv]
/-- What Of answers to any text. -/
theorem of_some (s : ByteArray) : ∃ (c0 c1 c2 c3 : Nat) (e1 : Int), (∀ W, PV W → Calls Tryd.prog 7 #[.string s] W fun e w' => e = .returned (.tuple #[.agg #[.int .u64 (c0 : Nat), .int .u64 (c1 : Nat), .int .u64 (c2 : Nat), .int .u64 (c3 : Nat)], .int .i64 e1]) ∧ Fr [] W w') ∧ (e1 = 0 ∧ fits s ∨ e1 = 2) := by
  by_cases hs : fits s
  · obtain ⟨z0, z1, z2, z3, -, -, -, -, -, wz⟩ := wd_open (of s) (lt4 (of_ltL s))
    have K := fun W (hW : PV W) => of_yes s hs W hW
    rw [wz] at K
    exact ⟨z0, z1, z2, z3, 0, K, .inl ⟨rfl, hs⟩⟩
  · have K := fun W (hW : PV W) => of_no s hs W
    rw [← wd_0] at K
    exact ⟨0, 0, 0, 0, 2, K, .inr rfl⟩
theorem laws_no (s t u : ByteArray) (h : ¬ (fits s ∧ fits t ∧ fits u)) (w : World) (hP : PV w) : Calls Tryd.prog 5 #[.string s, .string t, .string u] w fun e w' => e = .returned (.bool true) ∧ Fr [] w w' := by
  have hP2 := hid (p := _) hP
  have K4 := hid (p := _) (fun W (h : PV W) => alive_any W h)
  obtain ⟨a0, a1, a2, a3, e1, K1, he1⟩ := of_some s
  obtain ⟨b0, b1, b2, b3, e2, K2, he2⟩ := of_some t
  obtain ⟨c0, c1, c2, c3, e3, K3, he3⟩ := of_some u
  have hno : (e1 = 2) ∨ (e1 = 0 ∧ e2 = 2) ∨ (e1 = 0 ∧ e2 = 0 ∧ e3 = 2) := by
    rcases he1 with ⟨h1, f1⟩ | h1
    · rcases he2 with ⟨h2, f2⟩ | h2
      · rcases he3 with ⟨h3, f3⟩ | h3
        · exact absurd ⟨f1, f2, f3⟩ h
        · exact .inr (.inr ⟨h1, h2, h3⟩)
      · exact .inr (.inl ⟨h1, h2⟩)
    · exact .inl h1
  have H1 := hid (p := _) K1
  have H2 := hid (p := _) K2
  have H3 := hid (p := _) K3
  clear K1 K2 K3 hP he1 he2 he3 h
  have F0 := hid (p := _) (Fr.refl [] w)
  rcases hno with rfl | ⟨rfl, rfl⟩ | ⟨rfl, rfl, rfl⟩
  all_goals
    go_enter Tryd.func5, Tryd.ntmps5
    go_wp2_with (first | (go_at_call 7; first | (with_reducible refine (H1.out _ (by with_reducible exact hP2.out)).mono ?_; rintro e V1 ⟨rfl, hF⟩; have F1 := hid (p := _) (F0.out.trans0 hF); clear hF H1) | (with_reducible refine (H2.out _ (hP2.out.fr (F1.out.alloc _) (by simp))).mono ?_; rintro e V2 ⟨rfl, hF⟩; have F2 := hid (p := _) ((F1.out.alloc _).trans0 hF); clear hF H2) | (with_reducible refine (H3.out _ (hP2.out.fr (F2.out.alloc _) (by simp))).mono ?_; rintro e V3 ⟨rfl, hF⟩; have F3 := hid (p := _) ((F2.out.alloc _).trans0 hF); clear hF H3)) | (go_at_call 6; with_reducible refine (K4.out _ (hP2.out.fr (F3.out.alloc _) (by simp))).mono ?_; rintro e V4 ⟨rfl, hF⟩; have F4 := hid (p := _) ((F3.out.alloc _).trans0 hF); clear hF))
    go_ret
    exact ⟨rfl, F4.out⟩
end Go.Proofs.YtgjpombdkgomaaaDoor
