/-
  The walks of Whose of package mem's Pool in general, and of 'whose' of the statements: the buffers of both pools are the same ones'. No statement is proved here.
-/
import Derived.Test.YtbkfgidmjkbfmaaStepH
namespace Go.Proofs.Ytbkfgidmjkbfmaa
open Go.RowKit Go.BigFrame
set_option linter.unusedVariables false
set_option linter.unusedSimpArgs false
set_option maxRecDepth 1000000
set_option maxHeartbeats 4000000

theorem pwhose_any (bp bm at_ size bw a : Nat) (ws : List UInt8) (w : World) (hP : PoolA w bp bm at_ size bw ws) (ha : a < 4294967296) (hat : at_ < 4294967296) (h1 : 1 ≤ size) (h2 : size < 4294967296) (hl : ws.length ≤ 256) :
    Calls Try.prog 35 #[.pointer (some ⟨bp, 0, none⟩), .int .u32 a] w fun e w' => ((∃ x : UInt8, At at_ size ws.length a ∧ ws[(a - at_) / size]? = some x ∧ e = .returned (.tuple #[.int .u8 (x.toNat : Nat), .int .i64 0])) ∨ (¬ At at_ size ws.length a ∧ e = .returned (.tuple #[.int .u8 0, .int .i64 2]))) ∧ Fr [] w w' := by
  have H := hid (find_any bp bm at_ size bw a ws w hP ha hat h1 h2 hl)
  have HP := hid hP
  clear hP
  go_enter Try.func35, Try.ntmps35
  go_wp2_with fail
  refine H.out.mono ?_
  rintro e w1 ⟨⟨hA, rfl⟩ | ⟨hA, rfl⟩, hF⟩
  · have hi := hA.2.2
    have c3 := (HP.out.fr hF (by simp) (by simp)).c3
    have hc := who_cell (HP.out.fr hF (by simp) (by simp)).who _ hi
    have HA := hid hA
    have HW := hid (List.getElem?_eq_getElem hi)
    obtain ⟨x, hx⟩ : ∃ x, x = ws[(a - at_) / size] := ⟨_, rfl⟩
    rw [← hx] at hc HW
    clear hx hA
    obtain ⟨i, hq⟩ : ∃ i, i = (a - at_) / size := ⟨_, rfl⟩
    have HQ := hid hq
    rw [← hq] at hc hi HW ⊢
    clear hq
    have hi' : (i : Int) < (ws.length : Int) := by omega
    go_wp2
    go_ret2
    exact ⟨.inl ⟨x, HA.out, by rw [← HQ.out]; exact HW.out, rfl⟩, hF⟩
  · go_wp2
    go_ret2
    exact ⟨.inr ⟨hA, rfl⟩, hF⟩
theorem whose_none (q : Value) (w : World) : Calls Try.prog 21 #[.pointer none, q] w fun e w' => e = .returned (.bool true) ∧ Fr [] w w' := by
  go_enter Try.func21, Try.ntmps21
  go_wp2
  go_ret
  exact ⟨rfl, Fr.refl _ _⟩
theorem whose_some (bp bw bq bv bm br at_ size : Nat) (ws : List UInt8) (w : World) (hP : PoolA w bp bm at_ size bw ws) (hQ : RPoolA w bq br at_ size bv ws) (h1 : 1 ≤ size) (h2 : size ≤ 1048576) (hl : ws.length ≤ 256) (hb : at_ + ws.length * size ≤ 1048576) :
    Calls Try.prog 21 #[.pointer (some ⟨bp, 0, none⟩), .pointer (some ⟨bq, 0, none⟩)] w fun e w' => e = .returned (.bool true) ∧ Fr [] w w' := by
  have HP := hid hP
  have HQ := hid hQ
  have hat : at_ ≤ 1048576 := Nat.le_trans (Nat.le_add_right _ _) hb
  clear hP hQ
  go_enter Try.func21, Try.ntmps21
  go_wp2_with fail
  go_loopg [5] ws.length (fun gk q wr => ∃ i : Nat, i ≤ ws.length ∧ gk = ws.length - i ∧ q = .int .i64 i ∧ Hid (Fr [] w wr))
  case atStart => exact ⟨0, Nat.zero_le _, rfl, rfl, hid (Fr.refl _ _)⟩
  case round =>
    obtain ⟨i, hi, hgk, rfl, K0⟩ := hrel
    have hQ1 := HQ.out.fr K0.out (by simp) (by simp)
    have c1 := hQ1.c1
    have c2 := hQ1.c2
    have c3 := hQ1.c3
    by_cases hlt : i < ws.length
    · have hlt' : (i : Int) < (ws.length : Int) := by omega
      obtain ⟨M, hM⟩ : ∃ M, M = i * size := ⟨_, rfl⟩
      have hmul : (i : Int) * (size : Int) = (M : Int) := by rw [hM, Int.natCast_mul]
      have hMb : M + size ≤ ws.length * size := by
        rw [hM, ← Nat.succ_mul]; exact Nat.mul_le_mul_right _ hlt
      have wM : IntKind.i64.wrap (M : Int) = M := by rw [IntKind.wrap_i64]; omega
      have wU : IntKind.u32.wrap (M : Int) = M := by rw [IntKind.wrap_u32]; omega
      obtain ⟨a, hae⟩ : ∃ a, a = at_ + M := ⟨_, rfl⟩
      have wA : IntKind.u32.wrap ((at_ : Int) + (M : Int)) = (a : Int) := by rw [IntKind.wrap_u32]; omega
      have hab : a < 4194304 := by omega
      have g := at_iff (n := ws.length) h1 hlt (show a = at_ + i * size by rw [← hM]; exact hae)
      have hx := List.getElem?_eq_getElem hlt
      have hcx := who_cell hQ1.who i hlt
      obtain ⟨x, hxe⟩ : ∃ x, x = ws[i] := ⟨_, rfl⟩
      rw [← hxe] at hx hcx
      have H1 := hid (fun W (hF : Fr [] w W) => (pwhose_any bp bm at_ size bw a ws W (HP.out.fr hF (by simp) (by simp)) (by omega) (by omega) h1 (by omega) hl).mono fun e w' h => (⟨by
        rcases h.1 with ⟨y, _, hy, he⟩ | ⟨hn, _⟩
        · rw [g.2, hx] at hy; cases hy; exact he
        · exact absurd g.1 hn, h.2⟩ : e = Ending.returned (.tuple #[.int .u8 (x.toNat : Nat), .int .i64 0]) ∧ Fr [] W w'))
      have H2 := hid (fun W (hF : Fr [] w W) => pwhose_any bp bm at_ size bw (a + 1) ws W (HP.out.fr hF (by simp) (by simp)) (by omega) (by omega) h1 (by omega) hl)
      have H3 := hid (fun W (hF : Fr [] w W) => rfind_any bq br at_ size bv (a + 1) ws W (HQ.out.fr hF (by simp) (by simp)) (by omega) (by omega) h1 h2 hl)
      clear hM hQ1 hae hxe g hx
      generalize x.toNat = y at *
      go_wp2_with fail
      go_quiet (fail)
      go_wp2_with fail
      refine (H1.out _ (K0.out.drewN _)).mono ?_
      rintro e w1 ⟨rfl, hF1⟩
      have K1 := hid ((K0.out.drewN nq).trans0 hF1)
      have d3 := (HQ.out.fr K1.out (by simp) (by simp)).c3
      have hcx' := hF1.cell (show (wr.drewN nq).cell? _ = _ from hcx) (by simp)
      clear hF1
      go_wp2_with fail
      have e1 : ((a : Int) + 1) = ((a + 1 : Nat) : Int) := by omega
      rw [e1]
      refine (H2.out _ K1.out).mono ?_
      rintro e w2 ⟨⟨z, hA, hz, rfl⟩ | ⟨hA, rfl⟩, hF2⟩
      · have K2 := hid (K1.out.trans0 hF2)
        have HA := hid hA
        have HZ := hid hz
        clear hA hz hF2 e1
        go_wp2_with fail
        have e1 : ((a : Int) + 1) = ((a + 1 : Nat) : Int) := by omega
        rw [e1]
        refine (H3.out _ K2.out).mono ?_
        rintro e w3 ⟨⟨_, rfl⟩ | ⟨hA, _⟩, hF3⟩
        · have K3 := hid (K2.out.trans0 hF3)
          have hQ3 := HQ.out.fr K3.out (by simp) (by simp)
          have f3 := hQ3.c3
          have hj := HA.out.2.2
          have hcz := who_cell hQ3.who _ hj
          have ez := HZ.out
          rw [List.getElem?_eq_getElem hj] at ez
          rw [Option.some.inj ez] at hcz
          obtain ⟨j, hje⟩ : ∃ j, j = (a + 1 - at_) / size := ⟨_, rfl⟩
          rw [← hje] at hcz hj ⊢
          clear hje ez hQ3 e1 hF3
          generalize z.toNat = y2 at *
          have hj' : (j : Int) < (ws.length : Int) := by omega
          have dj : decide ((0 : Int) ≤ (j : Int)) = true := by simp
          have dj2 : decide ((j : Int) < 0) = false := by simp
          go_wp2
          go_roundg (ws.length - (i + 1))
          case measure => omega
          case rel => exact ⟨i + 1, by omega, rfl, by go_num, K3⟩
        · exact absurd HA.out hA
      · have K2 := hid (K1.out.trans0 hF2)
        have HA := hid hA
        clear hA hF2 e1
        go_wp2_with fail
        have e1 : ((a : Int) + 1) = ((a + 1 : Nat) : Int) := by omega
        rw [e1]
        refine (H3.out _ K2.out).mono ?_
        rintro e w3 ⟨⟨hA, _⟩ | ⟨_, rfl⟩, hF3⟩
        · exact absurd hA HA.out
        · have K3 := hid (K2.out.trans0 hF3)
          clear hF3 e1
          go_wp2
          go_roundg (ws.length - (i + 1))
          case measure => omega
          case rel => exact ⟨i + 1, by omega, rfl, by go_num, K3⟩
    · obtain rfl : i = ws.length := by omega
      clear hQ1
      go_wp2
      go_ret
      exact ⟨rfl, K0.out⟩
end Go.Proofs.Ytbkfgidmjkbfmaa
