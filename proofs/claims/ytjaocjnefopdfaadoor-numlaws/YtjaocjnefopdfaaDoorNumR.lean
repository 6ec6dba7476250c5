/-
  The walk of the statement NumLaws. No statement is proved here.
-/
import Derived.Test.YtjaocjnefopdfaaDoorNumQ
namespace Go.Proofs.YtjaocjnefopdfaaDoor
open Go.RowKit Go.Lib Go.BigFrame
set_option linter.unusedVariables false
set_option linter.unusedSimpArgs false
set_option maxRecDepth 1000000
set_option maxHeartbeats 2000000

theorem of_gen (s : ByteArray) : ∃ (x : Nat) (e : Int), x < Nt.P ∧ (e = 0 ∨ e = 2) ∧ ∀ W, PV W → Calls Tryd.prog 9 #[.string s] W fun e' w' => e' = .returned (.tuple #[wd x, .int .i64 e]) ∧ Fr [] W w' := by
  by_cases h : s.size = 32
  · exact ⟨of s, 0, of_ltP s, .inl rfl, fun W hP => of_yes s h W hP⟩
  · exact ⟨0, 2, P_pos, .inr rfl, fun W _ => of_no s h W⟩
theorem sub_is {a b c : Nat} (ha : a < Nt.P) (hb : b < Nt.P) (h1 : (a + Nt.P - b) % Nt.P = c) (W : World) (h : PV W) : Calls Tryd.prog 20 #[wd a, wd b] W fun e w' => e = .returned (wd c) ∧ Fr [] W w' := by
  rw [← h1]; exact sub_any a b ha hb W h
theorem same_is {x y : Nat} {k : Bool} (hx : x < 115792089237316195423570985008687907853269984665640564039457584007913129639936) (hy : y < 115792089237316195423570985008687907853269984665640564039457584007913129639936) (h : decide (x = y) = k) (W : World) : Calls Tryd.prog 15 #[wd x, wd y] W fun e w' => e = .returned (.bool k) ∧ Fr [] W w' := by
  rw [← h]; exact same_any x y hx hy W
theorem one_4 : 1 < 115792089237316195423570985008687907853269984665640564039457584007913129639936 := by decide

theorem laws_no (r s t : ByteArray) (a b c : Nat) (e f g : Int) (aP : a < Nt.P) (bP : b < Nt.P) (cP : c < Nt.P) (hefg : (e = 2 ∧ (f = 0 ∨ f = 2) ∧ (g = 0 ∨ g = 2)) ∨ (e = 0 ∧ f = 2 ∧ (g = 0 ∨ g = 2)) ∨ (e = 0 ∧ f = 0 ∧ g = 2)) 
    (K1 : ∀ W, PV W → Calls Tryd.prog 9 #[.string r] W fun e' w' => e' = .returned (.tuple #[wd a, .int .i64 e]) ∧ Fr [] W w')
    (K2 : ∀ W, PV W → Calls Tryd.prog 9 #[.string s] W fun e' w' => e' = .returned (.tuple #[wd b, .int .i64 f]) ∧ Fr [] W w')
    (K3 : ∀ W, PV W → Calls Tryd.prog 9 #[.string t] W fun e' w' => e' = .returned (.tuple #[wd c, .int .i64 g]) ∧ Fr [] W w') (w : World) (hP : PV w) :
    Calls Tryd.prog 7 #[.string r, .string s, .string t] w fun e w' => e = .returned (.bool true) ∧ Fr [] w w' := by
  have hP2 := hid (p := _) hP
  obtain ⟨a0, a1, a2, a3, -, -, -, -, -, wa⟩ := wd_open (a) (lt4 aP)
  obtain ⟨b0, b1, b2, b3, -, -, -, -, -, wb⟩ := wd_open (b) (lt4 bP)
  obtain ⟨c0, c1, c2, c3, -, -, -, -, -, wc⟩ := wd_open (c) (lt4 cP)
  rw [wa] at K1
  rw [wb] at K2
  rw [wc] at K3
  have H1 := hid (p := _) K1
  have H2 := hid (p := _) K2
  have H3 := hid (p := _) K3
  have HA := hid (p := _) alive_any
  clear K1 K2 K3 wa wb wc aP bP cP hP
  rcases hefg with ⟨rfl, hf, hg⟩ | ⟨rfl, rfl, hg⟩ | ⟨rfl, rfl, rfl⟩
  · rcases hf with rfl | rfl <;> rcases hg with rfl | rfl
    all_goals
      go_enter Tryd.func7, Tryd.ntmps7
      go_wp2_with (first | (go_at_call 9; first | (with_reducible refine (H1.out _ hP2.out).mono ?_; rintro e V1 ⟨rfl, hF⟩; have F1 := hF; clear hF) | (with_reducible refine (H2.out _ (hP2.out.fr (F1.alloc _))).mono ?_; rintro e V2 ⟨rfl, hF⟩; have F2 := (F1.alloc _).trans0 hF; clear hF) | (with_reducible refine (H3.out _ (hP2.out.fr (F2.alloc _))).mono ?_; rintro e V3 ⟨rfl, hF⟩; have F3 := (F2.alloc _).trans0 hF; clear hF)) | (go_at_call 8; refine (HA.out _ (hP2.out.fr (F3.alloc _))).mono ?_; rintro e V4 ⟨rfl, hF⟩; have F4 := (F3.alloc _).trans0 hF; clear hF))
      go_ret
      exact ⟨rfl, F4⟩
  · rcases hg with rfl | rfl
    all_goals
      go_enter Tryd.func7, Tryd.ntmps7
      go_wp2_with (first | (go_at_call 9; first | (with_reducible refine (H1.out _ hP2.out).mono ?_; rintro e V1 ⟨rfl, hF⟩; have F1 := hF; clear hF) | (with_reducible refine (H2.out _ (hP2.out.fr (F1.alloc _))).mono ?_; rintro e V2 ⟨rfl, hF⟩; have F2 := (F1.alloc _).trans0 hF; clear hF) | (with_reducible refine (H3.out _ (hP2.out.fr (F2.alloc _))).mono ?_; rintro e V3 ⟨rfl, hF⟩; have F3 := (F2.alloc _).trans0 hF; clear hF)) | (go_at_call 8; refine (HA.out _ (hP2.out.fr (F3.alloc _))).mono ?_; rintro e V4 ⟨rfl, hF⟩; have F4 := (F3.alloc _).trans0 hF; clear hF))
      go_ret
      exact ⟨rfl, F4⟩
  · go_enter Tryd.func7, Tryd.ntmps7
    go_wp2_with (first | (go_at_call 9; first | (with_reducible refine (H1.out _ hP2.out).mono ?_; rintro e V1 ⟨rfl, hF⟩; have F1 := hF; clear hF) | (with_reducible refine (H2.out _ (hP2.out.fr (F1.alloc _))).mono ?_; rintro e V2 ⟨rfl, hF⟩; have F2 := (F1.alloc _).trans0 hF; clear hF) | (with_reducible refine (H3.out _ (hP2.out.fr (F2.alloc _))).mono ?_; rintro e V3 ⟨rfl, hF⟩; have F3 := (F2.alloc _).trans0 hF; clear hF)) | (go_at_call 8; refine (HA.out _ (hP2.out.fr (F3.alloc _))).mono ?_; rintro e V4 ⟨rfl, hF⟩; have F4 := (F3.alloc _).trans0 hF; clear hF))
    go_ret
    exact ⟨rfl, F4⟩

theorem laws_yes (r s t : ByteArray) (a b c : Nat) (k : Bool) (aP : a < Nt.P) (bP : b < Nt.P) (cP : c < Nt.P) (hs1 : decide (a = 0) = k) (hs2 : decide (a * iv a % Nt.P = 1) = !k)
    (J1 : ∀ W, PV W → Calls Tryd.prog 9 #[.string r] W fun e' w' => e' = .returned (.tuple #[wd a, .int .i64 0]) ∧ Fr [] W w')
    (J2 : ∀ W, PV W → Calls Tryd.prog 9 #[.string s] W fun e' w' => e' = .returned (.tuple #[wd b, .int .i64 0]) ∧ Fr [] W w')
    (J3 : ∀ W, PV W → Calls Tryd.prog 9 #[.string t] W fun e' w' => e' = .returned (.tuple #[wd c, .int .i64 0]) ∧ Fr [] W w') (w : World) (hP : PV w) :
    Calls Tryd.prog 7 #[.string r, .string s, .string t] w fun e w' => e = .returned (.bool true) ∧ Fr [] w w' := by
  have hP2 := hid (p := _) hP
  have a4 := lt4 aP
  have b4 := lt4 bP
  have c4 := lt4 cP
  have iv4 := lt4 (iv_ltP a)
  have abP : (a + b) % Nt.P < Nt.P := Nat.mod_lt _ P_pos
  have ab4 := lt4 abP
  have mabP : a * b % Nt.P < Nt.P := Nat.mod_lt _ P_pos
  have mab4 := lt4 mabP
  have abcP : ((a + b) % Nt.P + c) % Nt.P < Nt.P := Nat.mod_lt _ P_pos
  have abc4 := lt4 abcP
  have bcP : (b + c) % Nt.P < Nt.P := Nat.mod_lt _ P_pos
  have bc4 := lt4 bcP
  have mabcP : (a * b % Nt.P) * c % Nt.P < Nt.P := Nat.mod_lt _ P_pos
  have mabc4 := lt4 mabcP
  have mbcP : b * c % Nt.P < Nt.P := Nat.mod_lt _ P_pos
  have mbc4 := lt4 mbcP
  have dP : a * ((b + c) % Nt.P) % Nt.P < Nt.P := Nat.mod_lt _ P_pos
  have d4 := lt4 dP
  have macP : a * c % Nt.P < Nt.P := Nat.mod_lt _ P_pos
  have mac4 := lt4 macP
  have sabP : (a + Nt.P - b) % Nt.P < Nt.P := Nat.mod_lt _ P_pos
  have sab4 := lt4 sabP
  have mP : a * iv a % Nt.P < Nt.P := Nat.mod_lt _ P_pos
  have m4 := lt4 mP
  have K1 := add_is aP bP rfl
  have K2 := add_is bP aP (show (b + a) % Nt.P = (a + b) % Nt.P by rw [Nat.add_comm])
  have K3 := same_true ab4 ab4 rfl
  have K4 := mul_is a4 b4 rfl
  have K5 := mul_is b4 a4 (show b * a % Nt.P = a * b % Nt.P by rw [Nat.mul_comm])
  have K6 := same_true mab4 mab4 rfl
  have K7 := add_is abP cP rfl
  have K8 := add_is bP cP rfl
  have K9 := add_is aP bcP (law_assoc a b c).symm
  have K10 := same_true abc4 abc4 rfl
  have K11 := mul_is mab4 c4 rfl
  have K12 := mul_is b4 c4 rfl
  have K13 := mul_is a4 mbc4 (law_massoc a b c).symm
  have K14 := same_true mabc4 mabc4 rfl
  have K15 := mul_is a4 bc4 rfl
  have K16 := mul_is a4 c4 rfl
  have K17 := add_is mabP macP (law_dist a b c).symm
  have K18 := same_true d4 d4 rfl
  have K19 := sub_is aP bP rfl
  have K20 := add_is sabP bP (sub_add_gen aP bP)
  have K21 := same_true a4 a4 rfl
  have K22 := sub_is aP aP (sub_self_gen (a := a) (p := Nt.P))
  have K23 := same_true z4 z4 rfl
  have K24 := same_is a4 z4 hs1
  have K25 := fun W (h : PV W) => inv_any a aP W h
  have K26 := mul_is a4 iv4 rfl
  have K28 := same_is m4 one_4 hs2
  have K29 := fun W (h : PV W) => roots_any a aP W h
  have K30 := fun W (h : PV W) => alive_any W h
  have K27 : ∀ W : World, Calls Tryd.prog 13 #[.int .u32 1] W fun e w' => e = .returned (wd 1) ∧ Fr [] W w' := fun W => small_any 1 (by decide) W
  obtain ⟨a0, a1, a2, a3, -, -, -, -, -, wa⟩ := wd_open (a) a4
  obtain ⟨b0, b1, b2, b3, -, -, -, -, -, wb⟩ := wd_open (b) b4
  obtain ⟨c0, c1, c2, c3, -, -, -, -, -, wc⟩ := wd_open (c) c4
  try simp only [wa, wb, wc, ← wd_0] at K1
  try simp only [wa, wb, wc, ← wd_0] at K2
  try simp only [wa, wb, wc, ← wd_0] at K3
  try simp only [wa, wb, wc, ← wd_0] at K4
  try simp only [wa, wb, wc, ← wd_0] at K5
  try simp only [wa, wb, wc, ← wd_0] at K6
  try simp only [wa, wb, wc, ← wd_0] at K7
  try simp only [wa, wb, wc, ← wd_0] at K8
  try simp only [wa, wb, wc, ← wd_0] at K9
  try simp only [wa, wb, wc, ← wd_0] at K10
  try simp only [wa, wb, wc, ← wd_0] at K11
  try simp only [wa, wb, wc, ← wd_0] at K12
  try simp only [wa, wb, wc, ← wd_0] at K13
  try simp only [wa, wb, wc, ← wd_0] at K14
  try simp only [wa, wb, wc, ← wd_0] at K15
  try simp only [wa, wb, wc, ← wd_0] at K16
  try simp only [wa, wb, wc, ← wd_0] at K17
  try simp only [wa, wb, wc, ← wd_0] at K18
  try simp only [wa, wb, wc, ← wd_0] at K19
  try simp only [wa, wb, wc, ← wd_0] at K20
  try simp only [wa, wb, wc, ← wd_0] at K21
  try simp only [wa, wb, wc, ← wd_0] at K22
  try simp only [wa, wb, wc, ← wd_0] at K23
  try simp only [wa, wb, wc, ← wd_0] at K24
  try simp only [wa, wb, wc, ← wd_0] at K25
  try simp only [wa, wb, wc, ← wd_0] at K26
  try simp only [wa, wb, wc, ← wd_0] at K28
  try simp only [wa, wb, wc, ← wd_0] at K29
  rw [wa] at J1
  rw [wb] at J2
  rw [wc] at J3
  have HK1 := hid (p := _) K1
  have HK2 := hid (p := _) K2
  have HK3 := hid (p := _) K3
  have HK4 := hid (p := _) K4
  have HK5 := hid (p := _) K5
  have HK6 := hid (p := _) K6
  have HK7 := hid (p := _) K7
  have HK8 := hid (p := _) K8
  have HK9 := hid (p := _) K9
  have HK10 := hid (p := _) K10
  have HK11 := hid (p := _) K11
  have HK12 := hid (p := _) K12
  have HK13 := hid (p := _) K13
  have HK14 := hid (p := _) K14
  have HK15 := hid (p := _) K15
  have HK16 := hid (p := _) K16
  have HK17 := hid (p := _) K17
  have HK18 := hid (p := _) K18
  have HK19 := hid (p := _) K19
  have HK20 := hid (p := _) K20
  have HK21 := hid (p := _) K21
  have HK22 := hid (p := _) K22
  have HK23 := hid (p := _) K23
  have HK24 := hid (p := _) K24
  have HK25 := hid (p := _) K25
  have HK26 := hid (p := _) K26
  have HK28 := hid (p := _) K28
  have HK29 := hid (p := _) K29
  have HK27 := hid (p := _) K27
  have HK30 := hid (p := _) K30
  have HJ1 := hid (p := _) J1
  have HJ2 := hid (p := _) J2
  have HJ3 := hid (p := _) J3
  clear K1 K2 K3 K4 K5 K6 K7 K8 K9 K10 K11 K12 K13 K14 K15 K16 K17 K18 K19 K20 K21 K22 K23 K24 K25 K26 K28 K29 K27 K30 J1 J2 J3 wa wb wc hP hs1 hs2
  clear ab4 abP
  clear mab4 mabP
  clear abc4 abcP
  clear bc4 bcP
  clear mabc4 mabcP
  clear mbc4 mbcP
  clear d4 dP
  clear mac4 macP
  clear sab4 sabP
  clear m4 mP
  generalize wd (a * iv a % Nt.P) = vm at *
  generalize wd ((a + Nt.P - b) % Nt.P) = vsab at *
  generalize wd (a * c % Nt.P) = vmac at *
  generalize wd (a * ((b + c) % Nt.P) % Nt.P) = vd at *
  generalize wd (b * c % Nt.P) = vmbc at *
  generalize wd ((a * b % Nt.P) * c % Nt.P) = vmabc at *
  generalize wd ((b + c) % Nt.P) = vbc at *
  generalize wd (((a + b) % Nt.P + c) % Nt.P) = vabc at *
  generalize wd (a * b % Nt.P) = vmab at *
  generalize wd ((a + b) % Nt.P) = vab at *
  generalize wd (iv a) = viv at *
  generalize wd 1 = vone at *
  clear a4 b4 c4 iv4 aP bP cP
  go_enter Tryd.func7, Tryd.ntmps7
  go_wp2_with ((go_at_call 9; first | (with_reducible refine (HJ1.out _ hP2.out).mono ?_; rintro e V1 ⟨rfl, hF⟩; have F1 := hF; clear hF) | (with_reducible refine (HJ2.out _ (hP2.out.fr (F1.alloc _))).mono ?_; rintro e V2 ⟨rfl, hF⟩; have F2 := (F1.alloc _).trans0 hF; have A2 := (L4.new V1 28 _ _ _ _).fr hF; clear hF) | (with_reducible refine (HJ3.out _ (hP2.out.fr (F2.alloc _))).mono ?_; rintro e V3 ⟨rfl, hF⟩; have F3 := (F2.alloc _).trans0 hF; have A3 := (A2.alloc _).fr hF; have B3 := (L4.new V2 28 _ _ _ _).fr hF; clear hF)))
  have F5 := (F3.alloc (.cells #[.int .u64 (c0 : Nat), .int .u64 (c1 : Nat), .int .u64 (c2 : Nat), .int .u64 (c3 : Nat)] 28)).alloc (.cells #[.int .u64 0, .int .u64 0, .int .u64 0, .int .u64 0] 28)
  have A5 := (A3.alloc (.cells #[.int .u64 (c0 : Nat), .int .u64 (c1 : Nat), .int .u64 (c2 : Nat), .int .u64 (c3 : Nat)] 28)).alloc (.cells #[.int .u64 0, .int .u64 0, .int .u64 0, .int .u64 0] 28)
  have B5 := (B3.alloc (.cells #[.int .u64 (c0 : Nat), .int .u64 (c1 : Nat), .int .u64 (c2 : Nat), .int .u64 (c3 : Nat)] 28)).alloc (.cells #[.int .u64 0, .int .u64 0, .int .u64 0, .int .u64 0] 28)
  have C5 := (L4.new V3 28 (.int .u64 (c0 : Nat)) (.int .u64 (c1 : Nat)) (.int .u64 (c2 : Nat)) (.int .u64 (c3 : Nat))).alloc (.cells #[.int .u64 0, .int .u64 0, .int .u64 0, .int .u64 0] 28)
  have Z5 := L4.new1 V3 (.cells #[.int .u64 (c0 : Nat), .int .u64 (c1 : Nat), .int .u64 (c2 : Nat), .int .u64 (c3 : Nat)] 28) 28 (.int .u64 0) (.int .u64 0) (.int .u64 0) (.int .u64 0)
  generalize (V3.alloc (.cells #[.int .u64 (c0 : Nat), .int .u64 (c1 : Nat), .int .u64 (c2 : Nat), .int .u64 (c3 : Nat)] 28)).alloc (.cells #[.int .u64 0, .int .u64 0, .int .u64 0, .int .u64 0] 28) = U at *
  generalize V1.heap.size = na at *
  generalize V2.heap.size = nb at *
  generalize V3.heap.size = nc at *
  clear F1 F2 F3 A2 A3 B3
  obtain ⟨_, _, _, _, _, _, _, _, _, _⟩ := A5.all
  obtain ⟨_, _, _, _, _, _, _, _, _, _⟩ := B5.all
  obtain ⟨_, _, _, _, _, _, _, _, _, _⟩ := C5.all
  obtain ⟨_, _, _, _, _, _, _, _, _, _⟩ := Z5.all
  have HP5 := hid (p := _) (hP2.out.fr F5)
  refine wp_region_ext (by kernel_rfl) (by kernel_rfl) ?_
  simp only [List.append]
  repeat (go_big_quiet_step (first | with_reducible exact Calls.ext_pv HP5.out HK1.out | with_reducible exact Calls.ext_pv HP5.out HK2.out | with_reducible exact Calls.ext_of (HK3.out _) | with_reducible exact Calls.ext_pv HP5.out HK4.out | with_reducible exact Calls.ext_pv HP5.out HK5.out | with_reducible exact Calls.ext_of (HK6.out _) | with_reducible exact Calls.ext_pv HP5.out HK7.out | with_reducible exact Calls.ext_pv HP5.out HK8.out | with_reducible exact Calls.ext_pv HP5.out HK9.out | with_reducible exact Calls.ext_of (HK10.out _) | with_reducible exact Calls.ext_pv HP5.out HK11.out | with_reducible exact Calls.ext_pv HP5.out HK12.out | with_reducible exact Calls.ext_pv HP5.out HK13.out | with_reducible exact Calls.ext_of (HK14.out _) | with_reducible exact Calls.ext_pv HP5.out HK15.out | with_reducible exact Calls.ext_pv HP5.out HK16.out | with_reducible exact Calls.ext_pv HP5.out HK17.out | with_reducible exact Calls.ext_of (HK18.out _) | with_reducible exact Calls.ext_pv HP5.out HK19.out | with_reducible exact Calls.ext_pv HP5.out HK20.out | with_reducible exact Calls.ext_of (HK21.out _) | with_reducible exact Calls.ext_pv HP5.out HK22.out | with_reducible exact Calls.ext_of (HK23.out _)))
  refine wpQuiet_nil ?_
  rintro _ ⟨x7, rfl⟩
  go_wp2_with fail
  have F6 := F5.ext x7
  have A6 := A5.fr (ext_fr U x7)
  have Z6 := Z5.fr (ext_fr U x7)
  generalize ext U x7 = U2 at *
  obtain ⟨_, _, _, _, _, _, _, _, _, _⟩ := A6.all
  obtain ⟨_, _, _, _, _, _, _, _, _, _⟩ := Z6.all
  have HP6 := hid (p := _) (hP2.out.fr F6)
  cases k
  all_goals
    refine wp_region_ext (by kernel_rfl) (by kernel_rfl) ?_
    repeat (go_big_quiet_step (first | with_reducible exact Calls.ext_of (HK24.out _) | with_reducible exact Calls.ext_pv HP6.out HK25.out | with_reducible exact Calls.ext_pv HP6.out HK26.out | with_reducible exact Calls.ext_of (HK27.out _) | with_reducible exact Calls.ext_of (HK28.out _)))
    refine wpQuiet_nil ?_
    rintro _ ⟨x9, rfl⟩
    have F7 := F6.ext x9
    have A7 := A6.fr (ext_fr U2 x9)
    go_wp2_with fail
    generalize ext U2 x9 = U3 at *
    obtain ⟨_, _, _, _, _, _, _, _, _, _⟩ := A7.all
    go_wp2_with (first | (go_at_call 29; refine (HK29.out _ (hP2.out.fr F7)).mono ?_; rintro e V8 ⟨rfl, hF⟩; have F8 := F7.trans0 hF; clear hF) | (go_at_call 8; refine (HK30.out _ (hP2.out.fr F8)).mono ?_; rintro e V9 ⟨rfl, hF⟩; have F9 := F8.trans0 hF; clear hF))
    go_ret
    exact ⟨rfl, F9⟩

theorem laws_any (r s t : ByteArray) (w : World) (hP : PV w) : Calls Tryd.prog 7 #[.string r, .string s, .string t] w fun e w' => e = .returned (.bool true) ∧ Fr [] w w' := by
  obtain ⟨a, e, aP, he, K1⟩ := of_gen r
  obtain ⟨b, f, bP, hf, K2⟩ := of_gen s
  obtain ⟨c, g, cP, hg, K3⟩ := of_gen t
  rcases he with rfl | rfl
  · rcases hf with rfl | rfl
    · rcases hg with rfl | rfl
      · by_cases h0 : a = 0
        · refine laws_yes r s t a b c true aP bP cP (decide_eq_true h0) (decide_eq_false ?_) K1 K2 K3 w hP
          rw [iv_zero a h0, Nat.mul_zero, Nat.zero_mod]; decide
        · exact laws_yes r s t a b c false aP bP cP (decide_eq_false h0) (decide_eq_true (inv_mul (Nat.pos_of_ne_zero h0) aP)) K1 K2 K3 w hP
      · exact laws_no r s t a b c 0 0 2 aP bP cP (.inr (.inr ⟨rfl, rfl, rfl⟩)) K1 K2 K3 w hP
    · exact laws_no r s t a b c 0 2 g aP bP cP (.inr (.inl ⟨rfl, rfl, hg⟩)) K1 K2 K3 w hP
  · exact laws_no r s t a b c 2 f g aP bP cP (.inl ⟨rfl, hf, hg⟩) K1 K2 K3 w hP

end Go.Proofs.YtjaocjnefopdfaaDoor
