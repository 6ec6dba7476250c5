/-
  Package num: power, Inv. No statement is proved here.
-/
import Derived.Test.YthbkhbfcocbnoaaDoorNumI
namespace Go.Proofs.YthbkhbfcocbnoaaDoor
open Go.RowKit Go.Lib Go.BigFrame
set_option linter.unusedVariables false
set_option linter.unusedSimpArgs false
set_option maxRecDepth 1000000
set_option maxHeartbeats 4000000

/-- One bit more. -/
def pb (a r : Nat) (b : Bool) : Nat := (r * r % Nt.P) * (bif b then a else 1) % Nt.P
/-- The power that has 250 ones and behind them these bits. -/
def pws (a : Nat) (bs : List Bool) : Nat := bs.foldl (pb a) (pw a 250)
def bv (b : Bool) : Int := bif b then 1 else 0
theorem neg_bv (b : Bool) : IntKind.u64.wrap (-bv b) = mk b := by
  cases b <;> rw [IntKind.wrap_u64] <;> rfl
theorem pb_ltP (a r : Nat) (b : Bool) : pb a r b < Nt.P := Nat.mod_lt _ P_pos
theorem fold_ltP (a : Nat) : ∀ (bs : List Bool) (r : Nat), r < Nt.P → bs.foldl (pb a) r < Nt.P
  | [], r, h => h
  | b :: bs, r, h => fold_ltP a bs (pb a r b) (pb_ltP a r b)
theorem pws_ltP (a : Nat) (bs : List Bool) : pws a bs < Nt.P := fold_ltP a bs _ (pw_ltP a 250)
theorem fold_take (a r : Nat) (bs : List Bool) (i : Nat) (h : i < bs.length) : (bs.take (i + 1)).foldl (pb a) r = pb a ((bs.take i).foldl (pb a) r) (bs.getD i false) := by
  have e : bs.getD i false = bs[i] := by rw [List.getD_eq_getElem?_getD, List.getElem?_eq_getElem h]; rfl
  rw [List.take_succ_eq_append_getElem h, List.foldl_append, e]; rfl
theorem pws_take (a : Nat) (bs : List Bool) (i : Nat) (h : i < bs.length) : pws a (bs.take (i + 1)) = pb a (pws a (bs.take i)) (bs.getD i false) := fold_take a _ bs i h
theorem fold_none (a r : Nat) (bs : List Bool) : (bs.take 0).foldl (pb a) r = r := by rw [List.take_zero]; rfl
theorem pws_none (a : Nat) (bs : List Bool) : pws a (bs.take 0) = pw a 250 := fold_none a _ bs
theorem cond_lt {a : Nat} (ha : a < 115792089237316195423570985008687907853269984665640564039457584007913129639936) (b : Bool) : (bif b then a else 1) < 115792089237316195423570985008687907853269984665640564039457584007913129639936 := by
  cases b
  · exact (by decide : 1 < 115792089237316195423570985008687907853269984665640564039457584007913129639936)
  · exact ha

theorem power_any (a : Nat) (ha : a < Nt.P) (bs : List Bool) (n : Nat) (hlen : bs.length = n) (hn : n ≤ 1000) (g : Nat) (w : World) (hP : PV w) (hc : ∀ j, j < n → w.cell? ⟨g, j, none⟩ = some (.int .u64 (bv (bs.getD j false)))) :
    Calls Tryd.prog 46 #[wd a, .slice (some ⟨g, 0, none⟩) n n] w fun e w' => e = .returned (wd (pws a bs)) ∧ Fr [] w w' := by
  have hP2 := hid (p := _) hP
  have HC := hid (p := _) hc
  have hr : pws a bs < 115792089237316195423570985008687907853269984665640564039457584007913129639936 := lt4 (pws_ltP a bs)
  have K0 := fun W (h : PV W) => ones_any a ha W h
  have KL := hid (p := _) (fun i => lt4 (pws_ltP a (bs.take i)))
  have H4 := hid (p := _) (lt4 ha)
  have K1 := fun W => small_any 1 (by decide) W
  obtain ⟨a0, a1, a2, a3, -, -, -, -, -, wa⟩ := wd_open a (lt4 ha)
  obtain ⟨c0, c1, c2, c3, -, -, -, -, -, wc⟩ := wd_open _ hr
  obtain ⟨o0, o1, o2, o3, -, -, -, -, -, wo⟩ := wd_open 1 (by decide)
  obtain ⟨z0, z1, z2, z3, -, -, -, -, -, wz⟩ := wd_open (pw a 250) (pw_lt a 250)
  rw [wa, wz] at K0
  rw [wo] at K1
  rw [wa, wc]
  have H0 := hid (p := _) K0
  have H1 : Hid (∀ W : World, Calls Tryd.prog 18 #[.int .u32 1] W fun e w' => e = .returned (.agg #[.int .u64 (o0 : Nat), .int .u64 (o1 : Nat), .int .u64 (o2 : Nat), .int .u64 (o3 : Nat)]) ∧ Fr [] W w') := hid K1
  have HA := hid (p := _) wa
  have HR := hid (p := _) wc
  have HO := hid (p := _) wo
  have HZ := hid (p := _) wz
  clear K0 K1 wa wc wo wz hr hP hc
  have HLn := hid (p := _) hlen
  clear hlen
  go_enter Tryd.func46, Tryd.ntmps46
  go_wp2_with (go_at_call 59; refine (H0.out _ (hP2.out.fr (((Fr.refl [] w).alloc _).alloc _))).mono ?_; rintro e V ⟨rfl, hF⟩; have XA := ((L4.new w 43 _ _ _ _).alloc _).fr hF; have XR := (L4.new1 w _ 43 _ _ _ _).fr hF; have F := (((Fr.refl [] w).alloc _).alloc _).trans0 hF; clear hF)
  go_loopg [12] n (fun gk q wr => ∃ i : Nat, i ≤ n ∧ gk = n - i ∧ q = .int .i64 i ∧ Hid (Fr [] w wr ∧ LE wr V.heap.size 43 (pws a (bs.take i)) ∧ L4 wr w.heap.size 43 (.int .u64 (a0 : Nat)) (.int .u64 (a1 : Nat)) (.int .u64 (a2 : Nat)) (.int .u64 (a3 : Nat)) ∧ L4 wr (w.heap.size + 1) 43 (.int .u64 0) (.int .u64 0) (.int .u64 0) (.int .u64 0)))
  case atStart =>
    exact ⟨0, Nat.zero_le _, rfl, rfl, hid ⟨F.alloc _, (by rw [pws_none]; exact (LE.iff HZ.out).2 (L4.new V 43 _ _ _ _)), XA.alloc _, XR.alloc _⟩⟩
  case round =>
    obtain ⟨i, hi, hgk, rfl, K⟩ := hrel
    have hrb : w.heap.size + 1 < V.heap.size := lt_of_heap XR
    have hra : w.heap.size < V.heap.size := by omega
    clear XA XR F
    generalize V.heap.size = rb at *
    obtain ⟨s0, s1, s2, s3, -, -, -, -, -, ws⟩ := wd_open (pws a (bs.take i)) (KL.out i)
    have A := (LE.iff ws).1 K.out.2.1
    have HF := hid (p := _) K.out.1
    have HAa := hid (p := _) K.out.2.2.1
    have HRr := hid (p := _) K.out.2.2.2
    have HPW := hid (p := _) (hP2.out.fr K.out.1)
    obtain ⟨a0c, a1c, a2c, a3c, a4c, a5c, a6c, a7c, a8c, a9c⟩ := A.all
    by_cases hlt : i < n
    · have hlt' : (i : Int) < (n : Int) := by omega
      have hlb : i < bs.length := by rw [HLn.out]; exact hlt
      have r0 := K.out.1.cell (HC.out i hlt) (by simp)
      have hd : pws a (bs.take i) * pws a (bs.take i) % Nt.P < 115792089237316195423570985008687907853269984665640564039457584007913129639936 := lt4 (Nat.mod_lt _ P_pos)
      have he : (bif bs.getD i false then a else 1) < 115792089237316195423570985008687907853269984665640564039457584007913129639936 := cond_lt H4.out _
      obtain ⟨d0, d1, d2, d3, -, -, -, -, -, wd1⟩ := wd_open _ hd
      obtain ⟨e0, e1, e2, e3, -, -, -, -, -, we⟩ := wd_open _ he
      obtain ⟨t0, t1, t2, t3, -, -, -, -, -, wt⟩ := wd_open (pws a (bs.take (i + 1))) (KL.out (i + 1))
      have M1 := fun W (h : PV W) => mul_any (pws a (bs.take i)) (pws a (bs.take i)) (KL.out i) (KL.out i) W h
      have M2x := fun W => choose_any (bs.getD i false) 1 a (by decide) H4.out W
      have M3x := fun W (h : PV W) => mul_any _ _ hd he W h
      have ept : pws a (bs.take i) * pws a (bs.take i) % Nt.P * (bif bs.getD i false then a else 1) % Nt.P = pws a (bs.take (i + 1)) := (pws_take a bs i hlb).symm
      rw [ept, wd1, we, wt] at M3x
      rw [ws, wd1] at M1
      rw [HO.out, HA.out, we] at M2x
      have hng := neg_bv (bs.getD i false)
      have G1 := hid (p := _) M1
      have G2 := hid (p := _) M2x
      have G3 := hid (p := _) M3x
      have HT := hid (p := _) wt
      have HAA := hid (p := _) A
      obtain ⟨b0c, b1c, b2c, b3c, -, -, -, -, b8c, -⟩ := HAa.out.all
      clear M1 M2x M3x ept wd1 we wt ws K A hd he
      generalize bv (bs.getD i false) = bt at *
      generalize mk (bs.getD i false) = m at *
      clear hlb
      go_wp2_with fail
      refine wp_region_last_ext [_, _, _, _, _, _, _, _, _] _ (by kernel_rfl) (by kernel_rfl) (by kernel_rfl) (by kernel_rfl) (by kernel_rfl) ?_
      simp only [List.cons_append, List.nil_append, idle]
      repeat (go_big_quiet_step (first | with_reducible exact Calls.ext_pv HPW.out G1.out | exact Calls.ext_of (H1.out _) | exact Calls.ext_of (G2.out _) | exact Calls.ext_pv HPW.out G3.out))
      refine wpQuiet_nil ?_
      rintro _ ⟨xq, rfl⟩
      go_simp
      go_wp2
      go_roundg (n - (i + 1))
      case measure => omega
      case rel => exact ⟨i + 1, by omega, rfl, by go_num, hid ⟨(HF.out.ext xq).set4 (by omega) _ _ _ _, (LE.iff HT.out).2 ((HAA.out.fr (ext_fr _ xq)).set4 _ _ _ _), (HAa.out.fr (ext_fr _ xq)).other (by omega) _ _ _ _, (HRr.out.fr (ext_fr _ xq)).other (by omega) _ _ _ _⟩⟩
    · obtain rfl : i = n := by omega
      have et : bs.take i = bs := List.take_of_length_le (by rw [HLn.out]; exact Nat.le_refl _)
      rw [et, HR.out] at ws
      obtain ⟨x0c, x1c, x2c, x3c, x4c, x5c, x6c, x7c, x8c, x9c⟩ := HRr.out.all
      injection ws with ws
      have ws := congrArg Array.toList ws
      injection ws with h0 ws
      injection ws with h1 ws
      injection ws with h2 ws
      injection ws with h3 ws
      rw [← h0] at a0c
      rw [← h1] at a1c
      rw [← h2] at a2c
      rw [← h3] at a3c
      clear ws h0 h1 h2 h3 K A et
      go_wp2_with fail
      simp [bodyPost, results, Tryd.results46, go_sem, *]
      exact HF.out.set4 (by omega) _ _ _ _

end Go.Proofs.YthbkhbfcocbnoaaDoor
