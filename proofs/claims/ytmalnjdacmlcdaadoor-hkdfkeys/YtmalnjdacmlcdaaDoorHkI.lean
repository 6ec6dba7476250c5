/-
  hkdf: the laws. No statement is proved here.
-/
import Derived.Test.YtmalnjdacmlcdaaDoorHkH
namespace Go.Proofs.YtmalnjdacmlcdaaDoor
open Go.RowKit
set_option linter.unusedVariables false
set_option linter.unusedSimpArgs false
set_option maxRecDepth 100000

theorem okS2 {k s : Tx} (h1 : k.length ≤ 140737488355328) (h2 : s.length ≤ 140737488355328) : okS (List.take 2 (List.drop 0 [k, s])) = true := by
  show (Nat.ble k.length 140737488355328 && (Nat.ble s.length 140737488355328 && true)) = true
  rw [Nat.ble_eq_true_of_le h1, Nat.ble_eq_true_of_le h2]; rfl
theorem okS3 {k s t : Tx} (h1 : k.length ≤ 140737488355328) (h2 : s.length ≤ 140737488355328) (h3 : t.length ≤ 140737488355328) : okS (List.take 3 (List.drop 0 [k, s, t])) = true := by
  show (Nat.ble k.length 140737488355328 && (Nat.ble s.length 140737488355328 && (Nat.ble t.length 140737488355328 && true))) = true
  rw [Nat.ble_eq_true_of_le h1, Nat.ble_eq_true_of_le h2, Nat.ble_eq_true_of_le h3]; rfl
section
variable {X Y : Tx → Tx → Int → Tx} {U V : Tx → Tx → Tx}
theorem law3_gen (hE : EnvOk Tryd.prog (EW X Y U V)) (key info : Tx) (n : Int) (h1 : key.length ≤ 140737488355328) (h2 : info.length ≤ 140737488355328) (hX : key.length + info.length ≤ 2048 → X key info n = Y key info n) (hU : key.length + info.length ≤ 2048 → U key info = V key info) : Spec Tryd.prog G 3 [.s key, .s info, .i n] G (fun r _ => r = .b true) := by
  refine vf_ok hE mixed (noL_ok _ _ _ _) (of_eq (vw3 X Y U V key info n _) (bif_of (okS2 h1 h2) ?_))
  cases hc : ile (tot (List.take 2 (List.drop 0 [key, info])) : Int) 2048
  · cases hd : ilt 512 n <;> exact (rfl : SV.b true = SV.b true)
  · have hs : key.length + info.length ≤ 2048 := by
      rw [ile_eq] at hc
      have := of_decide_eq_true hc
      have e : tot (List.take 2 (List.drop 0 [key, info])) = 0 + key.length + info.length := rfl
      omega
    rw [hX hs, hU hs]
    have ey : (Y key info n == Y key info n) = true := beq_self_eq_true _
    have ev : (V key info == V key info) = true := beq_self_eq_true _
    have ee : (erI n == erI n) = true := beq_self_eq_true _
    have b1 : (key.length.ble 1000000 && info.length.ble 900000) = true := by rw [Nat.ble_eq_true_of_le (by omega), Nat.ble_eq_true_of_le (by omega)]; rfl
    have b2 : (key.length.ble 1000000 && info.length.ble 1000000) = true := by rw [Nat.ble_eq_true_of_le (by omega), Nat.ble_eq_true_of_le (by omega)]; rfl
    rw [ey, ev, ee, b1, b2]
    cases hd : ilt 512 n
    · rfl
    · cases he : ile n 8160
      · rfl
      · rfl
theorem law4_gen (hE : EnvOk Tryd.prog (EW X Y U V)) (key label ctx : Tx) (n : Int) (h1 : key.length ≤ 140737488355328) (h2 : label.length ≤ 140737488355328) (h3 : ctx.length ≤ 140737488355328) (hX : key.length + label.length + ctx.length ≤ 2048 → lxI X key label ctx n = lxI Y key label ctx n) : Spec Tryd.prog G 4 [.s key, .s label, .s ctx, .i n] G (fun r _ => r = .b true) := by
  refine vf_ok hE mixed (noL_ok _ _ _ _) (of_eq (vw4 X Y U V key label ctx n _) (bif_of (okS3 h1 h2 h3) ?_))
  cases hc : ile (tot (List.take 3 (List.drop 0 [key, label, ctx])) : Int) 2048
  · cases hd : ilt 512 n <;> exact (rfl : SV.b true = SV.b true)
  · have hs : key.length + label.length + ctx.length ≤ 2048 := by
      rw [ile_eq] at hc
      have := of_decide_eq_true hc
      have e : tot (List.take 3 (List.drop 0 [key, label, ctx])) = 0 + key.length + label.length + ctx.length := rfl
      omega
    rw [hX hs]
    have ey : (lxI Y key label ctx n == lxI Y key label ctx n) = true := beq_self_eq_true _
    have ee : (leI erI label ctx n == leI erI label ctx n) = true := beq_self_eq_true _
    have b1 : key.length.ble 1000000 = true := Nat.ble_eq_true_of_le (by omega)
    rw [ey, ee, b1]
    cases hd : ilt 512 n
    · rfl
    · cases he : ile n 8160
      · rfl
      · rfl
theorem law5_gen (hE : EnvOk Tryd.prog (EW X Y U V)) (key info : Tx) (n m : BitVec 8) (h1 : key.length ≤ 140737488355328) (h2 : info.length ≤ 140737488355328) (hn : ((X key info (n.toNat : Int)).length : Int) = (n.toNat : Int)) (hm : ((X key info ((n.toNat : Int) + (m.toNat : Int))).length : Int) = (n.toNat : Int) + (m.toNat : Int)) (ht : (X key info ((n.toNat : Int) + (m.toNat : Int))).take (X key info (n.toNat : Int)).length = X key info (n.toNat : Int)) : Spec Tryd.prog G 5 [.s key, .s info, .w8 n, .w8 m] G (fun r _ => r = .b true) := by
  have ln := n.isLt
  have lm := m.isLt
  refine vf_ok hE mixed (noL_ok _ _ _ _) (of_eq (vw5 X Y U V key info n m _) (bif_of (okS2 h1 h2) ?_))
  cases hc : ile (tot (List.take 2 (List.drop 0 [key, info])) : Int) 2048
  · rfl
  · have hs : key.length + info.length ≤ 2048 := by
      rw [ile_eq] at hc
      have := of_decide_eq_true hc
      have e : tot (List.take 2 (List.drop 0 [key, info])) = 0 + key.length + info.length := rfl
      omega
    have b1 : (key.length.ble 1000000 && info.length.ble 900000) = true := by rw [Nat.ble_eq_true_of_le (by omega), Nat.ble_eq_true_of_le (by omega)]; rfl
    have b2 : inI ((n.toNat : Int) + (m.toNat : Int)) = true := inI_iff.2 (by omega)
    have er : ∀ z : Int, 0 ≤ z → z ≤ 8160 → (erI z == 0) = true := fun z q1 q2 => by unfold erI; rw [(inR_8161 z).2 ⟨q1, q2⟩]; rfl
    have a1 := er (n.toNat : Int) (by omega) (by omega)
    have a2 := er ((n.toNat : Int) + (m.toNat : Int)) (by omega) (by omega)
    have a6 : ile ((X key info (n.toNat : Int)).length : Int) ((X key info ((n.toNat : Int) + (m.toNat : Int))).length : Int) = true := by rw [ile_eq]; exact decide_eq_true (by omega)
    have a3 : (((X key info (n.toNat : Int)).length : Int) == (n.toNat : Int)) = true := by rw [hn]; exact beq_self_eq_true _
    have a4 : (((X key info ((n.toNat : Int) + (m.toNat : Int))).length : Int) == (n.toNat : Int) + (m.toNat : Int)) = true := by rw [hm]; exact beq_self_eq_true _
    have a5 : (List.drop 0 (List.take (X key info (n.toNat : Int)).length (X key info ((n.toNat : Int) + (m.toNat : Int)))) == X key info (n.toNat : Int)) = true := by rw [List.drop_zero, ht]; exact beq_self_eq_true _
    rw [b1, b2, a1, a2, a3, a4, a5, a6]
    rfl
end
theorem eh1_ok : EnvOk Tryd.prog (EH1 dOf rOf (tg rOf)) := ⟨PT.add_ok e20_ok.T rtagU_ok, e20_ok.C⟩
theorem eh2_ok : EnvOk Tryd.prog (EH2 dOf rOf (tg rOf) (xpI (tg rOf)) erI) := ⟨PT.add_ok (PT.add_ok e20_ok.T rtagU_ok) (rexp_ok eh1_ok tgr_len), e20_ok.C⟩
theorem ew_ok : EnvOk Tryd.prog (EW (xpI (tg dOf)) (xpI (tg rOf)) (tg dOf) (tg rOf)) := ⟨PT.add_ok (PT.add_ok (PT.add_ok (PT.add_ok (PT.add_ok (PT.add_ok (PT.add_ok (PT.add_ok (noT_ok _ _) fewF_ok) alive_ok) (exp_ok ei_ok tgd_len)) (rexp_ok eh1_ok tgr_len)) (ext_ok ei_ok tgd_len)) rtagU_ok) (lab_ok ei_ok tgd_len)) (rlab_ok eh2_ok), noC_ok _ _⟩
theorem law3 (key info : Tx) (n : Int) (h1 : key.length ≤ 140737488355328) (h2 : info.length ≤ 140737488355328) : Spec Tryd.prog G 3 [.s key, .s info, .i n] G (fun r _ => r = .b true) :=
  law3_gen ew_ok key info n h1 h2 (fun hs => xpI_eq _ _ _ (by omega) (by omega)) (fun hs => tg_eq _ _ (by omega) (by omega))
theorem law4 (key label ctx : Tx) (n : Int) (h1 : key.length ≤ 140737488355328) (h2 : label.length ≤ 140737488355328) (h3 : ctx.length ≤ 140737488355328) : Spec Tryd.prog G 4 [.s key, .s label, .s ctx, .i n] G (fun r _ => r = .b true) :=
  law4_gen ew_ok key label ctx n h1 h2 h3 (fun hs => lxI_eq _ _ _ _ (by omega))
theorem xpI_nat {U : Tx → Tx → Tx} (key info : Tx) (n : Nat) (h : n ≤ 8160) : xpI U key info (n : Int) = xp U key info n := by
  unfold xpI
  rw [(inR_8161 _).2 ⟨by omega, by omega⟩]
  show xp U key info ((n : Int).toNat) = _
  rw [Int.toNat_natCast]
theorem xp_take {U : Tx → Tx → Tx} (hU : ∀ k s, (U k s).length = 32) (key info : Tx) (a b : Nat) (h : a ≤ b) : (xp U key info b).take a = xp U key info a := by
  have e : xp U key info b = (ct U key info (b / 32 + 1)).take b := rfl
  rw [e, List.take_take, Nat.min_eq_left h]
  exact xp_of hU key info a (b / 32 + 1) (by omega)
theorem law5 (key info : Tx) (n m : BitVec 8) (h1 : key.length ≤ 140737488355328) (h2 : info.length ≤ 140737488355328) : Spec Tryd.prog G 5 [.s key, .s info, .w8 n, .w8 m] G (fun r _ => r = .b true) := by
  have ln := n.isLt
  have lm := m.isLt
  have e1 := xpI_nat (U := tg dOf) key info n.toNat (by omega)
  have e2 : xpI (tg dOf) key info ((n.toNat : Int) + (m.toNat : Int)) = xp (tg dOf) key info (n.toNat + m.toNat) := by
    rw [← Int.natCast_add]; exact xpI_nat key info _ (by omega)
  refine law5_gen ew_ok key info n m h1 h2 ?_ ?_ ?_
  · rw [e1, xp_len tgd_len]
  · rw [e2, xp_len tgd_len]; omega
  · rw [e1, e2, xp_len tgd_len]
    exact xp_take tgd_len key info _ _ (by omega)
end Go.Proofs.YtmalnjdacmlcdaaDoor
