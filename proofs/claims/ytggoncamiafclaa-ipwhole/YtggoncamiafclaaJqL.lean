/-
  ip: the law IpWhole answers true. No statement is proved here.
-/
import Derived.Test.YtggoncamiafclaaJqK
namespace Go.Proofs.Ytggoncamiafclaa
open Go.RowKit
set_option linter.unusedVariables false
set_option linter.unusedSimpArgs false
set_option maxRecDepth 100000
theorem st_none {d : Dt} (H : HD d) (hA : AllC d d.n []) (nO x : Nat) : X6w d nO ⟨x, 0, [], []⟩ none := start6 (lf := none) (L := []) H hA (Nat.zero_le _) trivial (fun _ _ _ e => by cases e) rfl nO x
theorem st_some {d : Dt} (H : HD d) {len : Nat} {l : List Pr} (hA : AllC d d.n (l.take len)) (h68 : (l.take len).length ≤ 68) (hne : (List.take len (List.drop 0 l)).length.beq 0 = false) {cap' : Nat} {rest : List Pr} (hr : (List.take len (List.drop 0 l)).length + rest.length = cap') (nO x : Nat) : X6w d nO ⟨x, 0, [], []⟩ (some ((List.take len (List.drop 0 l)).length, cap', List.take len (List.drop 0 l) ++ rest)) := by
 have e0 : (List.take len (List.drop 0 l)).length ≤ cap' := by omega
 refine start6 (lf := some ((List.take len (List.drop 0 l)).length, cap', List.take len (List.drop 0 l) ++ rest)) (L := l.take len) H hA h68 ⟨e0, by rw [List.length_append]; exact hr⟩ (fun len' cap'' l' e => ?_) ?_ nO x
 ·cases e
  intro q
  rw [q] at hne
  cases hne
 ·show List.take _ (List.take len (List.drop 0 l) ++ rest) = _
  exact List.take_left' rfl
theorem es0 {s : Sv} (h : s.es = []) : (bif true then (bif (32 : Int) == 0 then 0 else ((s.es.length : Nat) : Int)) == 0 else false) = true := by rw [h]; rfl
theorem w_some {len cap : Nat} {l : List Pr} (h : okPl (some (len, cap, l))) : (((len : Nat) : Int) == W10w (some (len, cap, l))) = true := by
 obtain ⟨h1, h2⟩ := h
 have e : (acP (some (len, cap, l))).length = len := by
  show (l.take len).length = len
  rw [List.length_take]; omega
 unfold W10w
 rw [e]; exact beq_self_eq_true _
theorem hd_of {d : Dt} (hl : d.n ≤ d.l.length) (hw : ∀ i, i < d.n → (dat d i).length ≤ 140737488355328) (h1 : ilt 8 (d.n : Int) = false) (h2 : ilt 8192 (nBy d d.n) = false) : HD d := by
 rw [ilt_eq] at h1 h2
 have h1 := of_decide_eq_false h1
 have h2 := of_decide_eq_false h2
 refine ⟨by omega, hl, fun i hi => ?_⟩
 obtain ⟨-, -, h3⟩ := nBy_ok hw d.n (by omega) (Nat.le_refl _)
 have := h3 i hi
 omega
theorem law6zzz (aD : Option Addr) (kD : Nat) (aC : Option Addr) (kC : Nat) (aO : Option Addr) (kO : Nat) : Spec Try.prog G 6 [(.v (.slice aD 0 kD)), (.v (.slice aC 0 kC)), (.v (.slice aO 0 kO))] (mB zE zE zE) (fun r _ => r = .b true) := by
 have TT : v6zzzT aD kD aC kC aO kO 0 (fun L => L = []) (X6w dz 0) (Q6w dz) (X10w dz) W10w (fun r => r = .b true) := by
  unfold v6zzzT
  exact ⟨fun s' hq => ⟨rfl, trivial, rfl, rfl, rfl, rfl, rfl, ⟨rfl, rfl⟩, ⟨rfl, rfl⟩, ⟨rfl, rfl⟩, ⟨rfl, rfl⟩, ⟨rfl, rfl⟩, ⟨trivial, hq.2⟩, bif_t (show ((0 : Int) == W10w none) = true from rfl) (bif_t (es0 hq.1) rfl)⟩, fun s' len cap l ho hq => ⟨rfl, trivial, rfl, rfl, rfl, rfl, rfl, ⟨rfl, rfl⟩, ⟨rfl, rfl⟩, ⟨rfl, rfl⟩, ⟨rfl, rfl⟩, ⟨rfl, rfl⟩, ⟨rfl, rfl⟩, ⟨ho, hq.2⟩, bif_t (w_some ho) (bif_t (es0 hq.1) rfl)⟩⟩
 refine vf_ok e6w_ok mixed (LT.add_ok (LT.add_ok (LT.add_ok (LT.add_ok (noL_ok _ _ _ _) (loop0z aD kD (.v (.slice aC 0 kC)) (.v (.slice aO 0 kO)) zE zE (opq_z aC kC) (opq_z aO kO))) (loop2o aD kD (.v (.slice aC 0 kC)) (.v (.slice aO 0 kO)) zE zE (opq_z aC kC) (opq_z aO kO))) (loop6z (.v (.slice aD 0 kD)) (.v (.slice aC 0 kC)) aO kO zE zE dz (opq_z aD kD) (opq_z aC kC))) (loop10o aD kD (.v (.slice aC 0 kC)) (.v (.slice aO 0 kO)) zE zE (opq_z aC kC) (opq_z aO kO))) (of_eq (v6zzz aD kD aC kC aO kO 0 (fun L => L = []) (X6w dz 0) (Q6w dz) (X10w dz) W10w _) ?_)
 refine ⟨rfl, rfl, rfl, rfl, rfl, rfl, ⟨rfl, rfl⟩, ⟨rfl, rfl⟩, ⟨rfl, rfl⟩, bif_f rfl (⟨rfl, trivial, rfl, rfl, rfl, rfl, rfl, rfl, ⟨rfl, rfl⟩, ⟨rfl, rfl⟩, ⟨rfl, rfl⟩, fun hQ x => ⟨rfl, trivial, rfl, rfl, rfl, rfl, rfl, rfl, ⟨rfl, rfl⟩, ⟨rfl, rfl⟩, ⟨rfl, rfl⟩, ⟨rfl, rfl⟩, ⟨rfl, rfl⟩, st_none hd_z allC_z _ x, TT⟩, fun len cap l ho hQ x => ?_⟩)⟩
 obtain ⟨o1, o2⟩ := ho
 have hlen : (List.take len (List.drop 0 l)).length = len := by rw [List.drop_zero, List.length_take]; omega
 have hA : AllC dz dz.n (l.take len) := by have hQ : l.take len = [] := hQ; rw [hQ]; exact allC_z
 have h68 : (l.take len).length ≤ 68 := by have hQ : l.take len = [] := hQ; rw [hQ]; exact Nat.zero_le _
 have h68' : len ≤ 68 := by rw [List.length_take] at h68; omega
 refine bif_of (ble_of (by omega)) (bif_of (ble_of (by rw [hlen]; omega)) ?_)
 cases hz : (List.take len (List.drop 0 l)).length.beq 0
 ·exact bif_f rfl (fun cap' rest hr => ⟨rfl, trivial, rfl, rfl, rfl, rfl, rfl, rfl, ⟨rfl, rfl⟩, ⟨rfl, rfl⟩, ⟨rfl, rfl⟩, ⟨rfl, rfl⟩, ⟨rfl, rfl⟩, ⟨rfl, rfl⟩, st_some hd_z hA h68 hz hr _ x, TT⟩)
 ·have hnil : l.take len = [] := List.eq_nil_of_length_eq_zero (Nat.eq_of_beq_eq_true hz)
  rw [hnil] at hA
  exact bif_t rfl ⟨rfl, trivial, rfl, rfl, rfl, rfl, rfl, rfl, ⟨rfl, rfl⟩, ⟨rfl, rfl⟩, ⟨rfl, rfl⟩, ⟨rfl, rfl⟩, ⟨rfl, rfl⟩, st_none hd_z hA _ x, TT⟩
theorem law6zzr (aD : Option Addr) (kD : Nat) (aC : Option Addr) (kC : Nat) (o : Ot) (hO : o.n ≤ o.l.length) : Spec Try.prog G 6 [(.v (.slice aD 0 kD)), (.v (.slice aC 0 kC)), o.x] (mB zE zE o.e) (fun r _ => r = .b true) := by
 cases h4 : ilt 300 (o.n : Int)
 ·have _ := h4
  have h300 : o.n ≤ 300 := by rw [ilt_eq] at h4; have := of_decide_eq_false h4; omega
  have TT : v6zzrT aD kD aC kC o 0 (fun L => L = []) (X6w dz o.n) (Q6w dz) (X10w dz) W10w (fun r => r = .b true) := by
   unfold v6zzrT
   exact ⟨fun s' hq => ⟨rfl, trivial, rfl, rfl, rfl, rfl, rfl, ⟨rfl, rfl⟩, ⟨rfl, rfl⟩, ⟨rfl, rfl⟩, ⟨rfl, rfl⟩, ⟨rfl, rfl⟩, ⟨trivial, hq.2⟩, bif_t (show ((0 : Int) == W10w none) = true from rfl) (bif_t (es0 hq.1) rfl)⟩, fun s' len cap l ho hq => ⟨rfl, trivial, rfl, rfl, rfl, rfl, rfl, ⟨rfl, rfl⟩, ⟨rfl, rfl⟩, ⟨rfl, rfl⟩, ⟨rfl, rfl⟩, ⟨rfl, rfl⟩, ⟨rfl, rfl⟩, ⟨ho, hq.2⟩, bif_t (w_some ho) (bif_t (es0 hq.1) rfl)⟩⟩
  refine vf_ok e6w_ok mixed (LT.add_ok (LT.add_ok (LT.add_ok (LT.add_ok (noL_ok _ _ _ _) (loop0z aD kD (.v (.slice aC 0 kC)) o.x zE o.e (opq_z aC kC) (opq_o o))) (loop2o aD kD (.v (.slice aC 0 kC)) o.x zE o.e (opq_z aC kC) (opq_o o))) (loop6r (.v (.slice aD 0 kD)) (.v (.slice aC 0 kC)) o zE zE dz hO h300 (opq_z aD kD) (opq_z aC kC))) (loop10o aD kD (.v (.slice aC 0 kC)) o.x zE o.e (opq_z aC kC) (opq_o o))) (of_eq (v6zzr aD kD aC kC o 0 (fun L => L = []) (X6w dz o.n) (Q6w dz) (X10w dz) W10w _) ?_)
  refine ⟨rfl, rfl, rfl, rfl, rfl, rfl, ⟨rfl, rfl⟩, ⟨rfl, rfl⟩, ⟨rfl, rfl⟩, bif_f rfl (bif_f h4 (⟨rfl, trivial, rfl, rfl, rfl, rfl, rfl, rfl, ⟨rfl, rfl⟩, ⟨rfl, rfl⟩, ⟨rfl, rfl⟩, fun hQ x => ⟨rfl, trivial, rfl, rfl, rfl, rfl, rfl, rfl, ⟨rfl, rfl⟩, ⟨rfl, rfl⟩, ⟨rfl, rfl⟩, ⟨rfl, rfl⟩, ⟨rfl, rfl⟩, st_none hd_z allC_z _ x, TT⟩, fun len cap l ho hQ x => ?_⟩))⟩
  obtain ⟨o1, o2⟩ := ho
  have hlen : (List.take len (List.drop 0 l)).length = len := by rw [List.drop_zero, List.length_take]; omega
  have hA : AllC dz dz.n (l.take len) := by have hQ : l.take len = [] := hQ; rw [hQ]; exact allC_z
  have h68 : (l.take len).length ≤ 68 := by have hQ : l.take len = [] := hQ; rw [hQ]; exact Nat.zero_le _
  have h68' : len ≤ 68 := by rw [List.length_take] at h68; omega
  refine bif_of (ble_of (by omega)) (bif_of (ble_of (by rw [hlen]; omega)) ?_)
  cases hz : (List.take len (List.drop 0 l)).length.beq 0
  ·exact bif_f rfl (fun cap' rest hr => ⟨rfl, trivial, rfl, rfl, rfl, rfl, rfl, rfl, ⟨rfl, rfl⟩, ⟨rfl, rfl⟩, ⟨rfl, rfl⟩, ⟨rfl, rfl⟩, ⟨rfl, rfl⟩, ⟨rfl, rfl⟩, st_some hd_z hA h68 hz hr _ x, TT⟩)
  ·have hnil : l.take len = [] := List.eq_nil_of_length_eq_zero (Nat.eq_of_beq_eq_true hz)
   rw [hnil] at hA
   exact bif_t rfl ⟨rfl, trivial, rfl, rfl, rfl, rfl, rfl, rfl, ⟨rfl, rfl⟩, ⟨rfl, rfl⟩, ⟨rfl, rfl⟩, ⟨rfl, rfl⟩, ⟨rfl, rfl⟩, st_none hd_z hA _ x, TT⟩
 ·exact vf_ok e6w_ok mixed (LT.add_ok (noL_ok _ _ _ _) (loop0z aD kD (.v (.slice aC 0 kC)) o.x zE o.e (opq_z aC kC) (opq_o o))) (of_eq (v6hzzr aD kD aC kC o _ _) ⟨rfl, rfl, rfl, rfl, rfl, rfl, ⟨rfl, rfl⟩, ⟨rfl, rfl⟩, ⟨rfl, rfl⟩, bif_f rfl (bif_t h4 rfl)⟩)
theorem law6zrz (aD : Option Addr) (kD : Nat) (e : Ct) (aO : Option Addr) (kO : Nat) (hE : e.n ≤ e.l.length) : Spec Try.prog G 6 [(.v (.slice aD 0 kD)), e.x, (.v (.slice aO 0 kO))] (mB zE e.e zE) (fun r _ => r = .b true) := by
 cases h3 : ilt 60 (e.n : Int)
 ·have _ := h3
  have h60 : e.n ≤ 60 := by rw [ilt_eq] at h3; have := of_decide_eq_false h3; omega
  have TT : v6zrzT aD kD e aO kO 0 (fun L => L = []) (X6w dz 0) (Q6w dz) (X10w dz) W10w (fun r => r = .b true) := by
   unfold v6zrzT
   exact ⟨fun s' hq => ⟨rfl, trivial, rfl, rfl, rfl, rfl, rfl, ⟨rfl, rfl⟩, ⟨rfl, rfl⟩, ⟨rfl, rfl⟩, ⟨rfl, rfl⟩, ⟨rfl, rfl⟩, ⟨trivial, hq.2⟩, bif_t (show ((0 : Int) == W10w none) = true from rfl) (bif_t (es0 hq.1) rfl)⟩, fun s' len cap l ho hq => ⟨rfl, trivial, rfl, rfl, rfl, rfl, rfl, ⟨rfl, rfl⟩, ⟨rfl, rfl⟩, ⟨rfl, rfl⟩, ⟨rfl, rfl⟩, ⟨rfl, rfl⟩, ⟨rfl, rfl⟩, ⟨ho, hq.2⟩, bif_t (w_some ho) (bif_t (es0 hq.1) rfl)⟩⟩
  refine vf_ok e6w_ok mixed (LT.add_ok (LT.add_ok (LT.add_ok (LT.add_ok (noL_ok _ _ _ _) (loop0z aD kD e.x (.v (.slice aO 0 kO)) e.e zE (opq_c e) (opq_z aO kO))) (loop2o aD kD e.x (.v (.slice aO 0 kO)) e.e zE (opq_c e) (opq_z aO kO))) (loop6z (.v (.slice aD 0 kD)) e.x aO kO zE e.e dz (opq_z aD kD) (opq_c e))) (loop10o aD kD e.x (.v (.slice aO 0 kO)) e.e zE (opq_c e) (opq_z aO kO))) (of_eq (v6zrz aD kD e aO kO 0 (fun L => L = []) (X6w dz 0) (Q6w dz) (X10w dz) W10w _) ?_)
  refine ⟨rfl, rfl, rfl, rfl, rfl, rfl, ⟨rfl, rfl⟩, ⟨rfl, rfl⟩, ⟨rfl, rfl⟩, bif_f rfl (bif_f h3 (⟨rfl, trivial, rfl, rfl, rfl, rfl, rfl, rfl, ⟨rfl, rfl⟩, ⟨rfl, rfl⟩, ⟨rfl, rfl⟩, fun hQ x => ⟨rfl, trivial, rfl, rfl, rfl, rfl, rfl, rfl, ⟨rfl, rfl⟩, ⟨rfl, rfl⟩, ⟨rfl, rfl⟩, ⟨rfl, rfl⟩, ⟨rfl, rfl⟩, st_none hd_z allC_z _ x, TT⟩, fun len cap l ho hQ x => ?_⟩))⟩
  obtain ⟨o1, o2⟩ := ho
  have hlen : (List.take len (List.drop 0 l)).length = len := by rw [List.drop_zero, List.length_take]; omega
  have hA : AllC dz dz.n (l.take len) := by have hQ : l.take len = [] := hQ; rw [hQ]; exact allC_z
  have h68 : (l.take len).length ≤ 68 := by have hQ : l.take len = [] := hQ; rw [hQ]; exact Nat.zero_le _
  have h68' : len ≤ 68 := by rw [List.length_take] at h68; omega
  refine bif_of (ble_of (by omega)) (bif_of (ble_of (by rw [hlen]; omega)) ?_)
  cases hz : (List.take len (List.drop 0 l)).length.beq 0
  ·exact bif_f rfl (fun cap' rest hr => ⟨rfl, trivial, rfl, rfl, rfl, rfl, rfl, rfl, ⟨rfl, rfl⟩, ⟨rfl, rfl⟩, ⟨rfl, rfl⟩, ⟨rfl, rfl⟩, ⟨rfl, rfl⟩, ⟨rfl, rfl⟩, st_some hd_z hA h68 hz hr _ x, TT⟩)
  ·have hnil : l.take len = [] := List.eq_nil_of_length_eq_zero (Nat.eq_of_beq_eq_true hz)
   rw [hnil] at hA
   exact bif_t rfl ⟨rfl, trivial, rfl, rfl, rfl, rfl, rfl, rfl, ⟨rfl, rfl⟩, ⟨rfl, rfl⟩, ⟨rfl, rfl⟩, ⟨rfl, rfl⟩, ⟨rfl, rfl⟩, st_none hd_z hA _ x, TT⟩
 ·exact vf_ok e6w_ok mixed (LT.add_ok (noL_ok _ _ _ _) (loop0z aD kD e.x (.v (.slice aO 0 kO)) e.e zE (opq_c e) (opq_z aO kO))) (of_eq (v6hzrz aD kD e aO kO _ _) ⟨rfl, rfl, rfl, rfl, rfl, rfl, ⟨rfl, rfl⟩, ⟨rfl, rfl⟩, ⟨rfl, rfl⟩, bif_f rfl (bif_t h3 rfl)⟩)
theorem law6zrr (aD : Option Addr) (kD : Nat) (e : Ct) (o : Ot) (hE : e.n ≤ e.l.length) (hO : o.n ≤ o.l.length) : Spec Try.prog G 6 [(.v (.slice aD 0 kD)), e.x, o.x] (mB zE e.e o.e) (fun r _ => r = .b true) := by
 cases h3 : ilt 60 (e.n : Int)
 ·have _ := h3
  cases h4 : ilt 300 (o.n : Int)
  ·have _ := h4
   have h60 : e.n ≤ 60 := by rw [ilt_eq] at h3; have := of_decide_eq_false h3; omega
   have h300 : o.n ≤ 300 := by rw [ilt_eq] at h4; have := of_decide_eq_false h4; omega
   have TT : v6zrrT aD kD e o 0 (fun L => L = []) (X6w dz o.n) (Q6w dz) (X10w dz) W10w (fun r => r = .b true) := by
    unfold v6zrrT
    exact ⟨fun s' hq => ⟨rfl, trivial, rfl, rfl, rfl, rfl, rfl, ⟨rfl, rfl⟩, ⟨rfl, rfl⟩, ⟨rfl, rfl⟩, ⟨rfl, rfl⟩, ⟨rfl, rfl⟩, ⟨trivial, hq.2⟩, bif_t (show ((0 : Int) == W10w none) = true from rfl) (bif_t (es0 hq.1) rfl)⟩, fun s' len cap l ho hq => ⟨rfl, trivial, rfl, rfl, rfl, rfl, rfl, ⟨rfl, rfl⟩, ⟨rfl, rfl⟩, ⟨rfl, rfl⟩, ⟨rfl, rfl⟩, ⟨rfl, rfl⟩, ⟨rfl, rfl⟩, ⟨ho, hq.2⟩, bif_t (w_some ho) (bif_t (es0 hq.1) rfl)⟩⟩
   refine vf_ok e6w_ok mixed (LT.add_ok (LT.add_ok (LT.add_ok (LT.add_ok (noL_ok _ _ _ _) (loop0z aD kD e.x o.x e.e o.e (opq_c e) (opq_o o))) (loop2o aD kD e.x o.x e.e o.e (opq_c e) (opq_o o))) (loop6r (.v (.slice aD 0 kD)) e.x o zE e.e dz hO h300 (opq_z aD kD) (opq_c e))) (loop10o aD kD e.x o.x e.e o.e (opq_c e) (opq_o o))) (of_eq (v6zrr aD kD e o 0 (fun L => L = []) (X6w dz o.n) (Q6w dz) (X10w dz) W10w _) ?_)
   refine ⟨rfl, rfl, rfl, rfl, rfl, rfl, ⟨rfl, rfl⟩, ⟨rfl, rfl⟩, ⟨rfl, rfl⟩, bif_f rfl (bif_f h3 (bif_f h4 (⟨rfl, trivial, rfl, rfl, rfl, rfl, rfl, rfl, ⟨rfl, rfl⟩, ⟨rfl, rfl⟩, ⟨rfl, rfl⟩, fun hQ x => ⟨rfl, trivial, rfl, rfl, rfl, rfl, rfl, rfl, ⟨rfl, rfl⟩, ⟨rfl, rfl⟩, ⟨rfl, rfl⟩, ⟨rfl, rfl⟩, ⟨rfl, rfl⟩, st_none hd_z allC_z _ x, TT⟩, fun len cap l ho hQ x => ?_⟩)))⟩
   obtain ⟨o1, o2⟩ := ho
   have hlen : (List.take len (List.drop 0 l)).length = len := by rw [List.drop_zero, List.length_take]; omega
   have hA : AllC dz dz.n (l.take len) := by have hQ : l.take len = [] := hQ; rw [hQ]; exact allC_z
   have h68 : (l.take len).length ≤ 68 := by have hQ : l.take len = [] := hQ; rw [hQ]; exact Nat.zero_le _
   have h68' : len ≤ 68 := by rw [List.length_take] at h68; omega
   refine bif_of (ble_of (by omega)) (bif_of (ble_of (by rw [hlen]; omega)) ?_)
   cases hz : (List.take len (List.drop 0 l)).length.beq 0
   ·exact bif_f rfl (fun cap' rest hr => ⟨rfl, trivial, rfl, rfl, rfl, rfl, rfl, rfl, ⟨rfl, rfl⟩, ⟨rfl, rfl⟩, ⟨rfl, rfl⟩, ⟨rfl, rfl⟩, ⟨rfl, rfl⟩, ⟨rfl, rfl⟩, st_some hd_z hA h68 hz hr _ x, TT⟩)
   ·have hnil : l.take len = [] := List.eq_nil_of_length_eq_zero (Nat.eq_of_beq_eq_true hz)
    rw [hnil] at hA
    exact bif_t rfl ⟨rfl, trivial, rfl, rfl, rfl, rfl, rfl, rfl, ⟨rfl, rfl⟩, ⟨rfl, rfl⟩, ⟨rfl, rfl⟩, ⟨rfl, rfl⟩, ⟨rfl, rfl⟩, st_none hd_z hA _ x, TT⟩
  ·exact vf_ok e6w_ok mixed (LT.add_ok (noL_ok _ _ _ _) (loop0z aD kD e.x o.x e.e o.e (opq_c e) (opq_o o))) (of_eq (v6hzrr aD kD e o _ _) ⟨rfl, rfl, rfl, rfl, rfl, rfl, ⟨rfl, rfl⟩, ⟨rfl, rfl⟩, ⟨rfl, rfl⟩, bif_f rfl (bif_f h3 (bif_t h4 rfl))⟩)
 ·exact vf_ok e6w_ok mixed (LT.add_ok (noL_ok _ _ _ _) (loop0z aD kD e.x o.x e.e o.e (opq_c e) (opq_o o))) (of_eq (v6hzrr aD kD e o _ _) ⟨rfl, rfl, rfl, rfl, rfl, rfl, ⟨rfl, rfl⟩, ⟨rfl, rfl⟩, ⟨rfl, rfl⟩, bif_f rfl (bif_t h3 rfl)⟩)
theorem law6rzz (d : Dt) (aC : Option Addr) (kC : Nat) (aO : Option Addr) (kO : Nat) (hn : d.n ≤ 140737488355328) (hl : d.n ≤ d.l.length) (hw : ∀ i, i < d.n → (dat d i).length ≤ 140737488355328) : Spec Try.prog G 6 [d.x, (.v (.slice aC 0 kC)), (.v (.slice aO 0 kO))] (mB d.e zE zE) (fun r _ => r = .b true) := by
 cases h1 : ilt 8 (d.n : Int)
 ·have _ := h1
  cases h2 : ilt 8192 (nBy d d.n)
  ·have _ := h2
   have H : HD d := hd_of hl hw h1 h2
   have h8 := H.n8
   have TT : v6rzzT d aC kC aO kO (nBy d d.n) (Q2w d 0) (X6w d 0) (Q6w d) (X10w d) W10w (fun r => r = .b true) := by
    unfold v6rzzT
    exact ⟨fun s' hq => ⟨rfl, trivial, rfl, rfl, rfl, rfl, rfl, ⟨rfl, rfl⟩, ⟨rfl, rfl⟩, ⟨rfl, rfl⟩, ⟨rfl, rfl⟩, ⟨rfl, rfl⟩, ⟨trivial, hq.2⟩, bif_t (show ((0 : Int) == W10w none) = true from rfl) (bif_t (es0 hq.1) rfl)⟩, fun s' len cap l ho hq => ⟨rfl, trivial, rfl, rfl, rfl, rfl, rfl, ⟨rfl, rfl⟩, ⟨rfl, rfl⟩, ⟨rfl, rfl⟩, ⟨rfl, rfl⟩, ⟨rfl, rfl⟩, ⟨rfl, rfl⟩, ⟨ho, hq.2⟩, bif_t (w_some ho) (bif_t (es0 hq.1) rfl)⟩⟩
   refine vf_ok e6w_ok mixed (LT.add_ok (LT.add_ok (LT.add_ok (LT.add_ok (noL_ok _ _ _ _) (loop0 d (.v (.slice aC 0 kC)) (.v (.slice aO 0 kO)) zE zE hn hl (opq_z aC kC) (opq_z aO kO))) (loop2z d aC kC (.v (.slice aO 0 kO)) zE H (opq_z aO kO))) (loop6z d.x (.v (.slice aC 0 kC)) aO kO d.e zE d (opq_d d) (opq_z aC kC))) (loop10 d (.v (.slice aC 0 kC)) (.v (.slice aO 0 kO)) zE zE H.n8 hl (opq_z aC kC) (opq_z aO kO))) (of_eq (v6rzz d aC kC aO kO (nBy d d.n) (Q2w d 0) (X6w d 0) (Q6w d) (X10w d) W10w _) ?_)
   refine ⟨rfl, rfl, rfl, rfl, rfl, rfl, ⟨rfl, rfl⟩, ⟨rfl, rfl⟩, ⟨rfl, rfl⟩, bif_f h1 (bif_f h2 (⟨rfl, trivial, rfl, rfl, rfl, rfl, rfl, rfl, ⟨rfl, rfl⟩, ⟨rfl, rfl⟩, ⟨rfl, rfl⟩, fun hQ x => ⟨rfl, trivial, rfl, rfl, rfl, rfl, rfl, rfl, ⟨rfl, rfl⟩, ⟨rfl, rfl⟩, ⟨rfl, rfl⟩, ⟨rfl, rfl⟩, ⟨rfl, rfl⟩, st_none H hQ.1 _ x, TT⟩, fun len cap l ho hQ x => ?_⟩))⟩
   obtain ⟨o1, o2⟩ := ho
   have hlen : (List.take len (List.drop 0 l)).length = len := by rw [List.drop_zero, List.length_take]; omega
   have hA : AllC d d.n (l.take len) := hQ.1
   have h68 : (l.take len).length ≤ 68 := by have := hQ.2; omega
   have h68' : len ≤ 68 := by rw [List.length_take] at h68; omega
   refine bif_of (ble_of (by omega)) (bif_of (ble_of (by rw [hlen]; omega)) ?_)
   cases hz : (List.take len (List.drop 0 l)).length.beq 0
   ·exact bif_f rfl (fun cap' rest hr => ⟨rfl, trivial, rfl, rfl, rfl, rfl, rfl, rfl, ⟨rfl, rfl⟩, ⟨rfl, rfl⟩, ⟨rfl, rfl⟩, ⟨rfl, rfl⟩, ⟨rfl, rfl⟩, ⟨rfl, rfl⟩, st_some H hA h68 hz hr _ x, TT⟩)
   ·have hnil : l.take len = [] := List.eq_nil_of_length_eq_zero (Nat.eq_of_beq_eq_true hz)
    rw [hnil] at hA
    exact bif_t rfl ⟨rfl, trivial, rfl, rfl, rfl, rfl, rfl, rfl, ⟨rfl, rfl⟩, ⟨rfl, rfl⟩, ⟨rfl, rfl⟩, ⟨rfl, rfl⟩, ⟨rfl, rfl⟩, st_none H hA _ x, TT⟩
  ·exact vf_ok e6w_ok mixed (LT.add_ok (noL_ok _ _ _ _) (loop0 d (.v (.slice aC 0 kC)) (.v (.slice aO 0 kO)) zE zE hn hl (opq_z aC kC) (opq_z aO kO))) (of_eq (v6hrzz d aC kC aO kO _ _) ⟨rfl, rfl, rfl, rfl, rfl, rfl, ⟨rfl, rfl⟩, ⟨rfl, rfl⟩, ⟨rfl, rfl⟩, bif_f h1 (bif_t h2 rfl)⟩)
 ·exact vf_ok e6w_ok mixed (LT.add_ok (noL_ok _ _ _ _) (loop0 d (.v (.slice aC 0 kC)) (.v (.slice aO 0 kO)) zE zE hn hl (opq_z aC kC) (opq_z aO kO))) (of_eq (v6hrzz d aC kC aO kO _ _) ⟨rfl, rfl, rfl, rfl, rfl, rfl, ⟨rfl, rfl⟩, ⟨rfl, rfl⟩, ⟨rfl, rfl⟩, bif_t h1 rfl⟩)
theorem law6rzr (d : Dt) (aC : Option Addr) (kC : Nat) (o : Ot) (hn : d.n ≤ 140737488355328) (hl : d.n ≤ d.l.length) (hw : ∀ i, i < d.n → (dat d i).length ≤ 140737488355328) (hO : o.n ≤ o.l.length) : Spec Try.prog G 6 [d.x, (.v (.slice aC 0 kC)), o.x] (mB d.e zE o.e) (fun r _ => r = .b true) := by
 cases h1 : ilt 8 (d.n : Int)
 ·have _ := h1
  cases h2 : ilt 8192 (nBy d d.n)
  ·have _ := h2
   cases h4 : ilt 300 (o.n : Int)
   ·have _ := h4
    have H : HD d := hd_of hl hw h1 h2
    have h8 := H.n8
    have h300 : o.n ≤ 300 := by rw [ilt_eq] at h4; have := of_decide_eq_false h4; omega
    have TT : v6rzrT d aC kC o (nBy d d.n) (Q2w d 0) (X6w d o.n) (Q6w d) (X10w d) W10w (fun r => r = .b true) := by
     unfold v6rzrT
     exact ⟨fun s' hq => ⟨rfl, trivial, rfl, rfl, rfl, rfl, rfl, ⟨rfl, rfl⟩, ⟨rfl, rfl⟩, ⟨rfl, rfl⟩, ⟨rfl, rfl⟩, ⟨rfl, rfl⟩, ⟨trivial, hq.2⟩, bif_t (show ((0 : Int) == W10w none) = true from rfl) (bif_t (es0 hq.1) rfl)⟩, fun s' len cap l ho hq => ⟨rfl, trivial, rfl, rfl, rfl, rfl, rfl, ⟨rfl, rfl⟩, ⟨rfl, rfl⟩, ⟨rfl, rfl⟩, ⟨rfl, rfl⟩, ⟨rfl, rfl⟩, ⟨rfl, rfl⟩, ⟨ho, hq.2⟩, bif_t (w_some ho) (bif_t (es0 hq.1) rfl)⟩⟩
    refine vf_ok e6w_ok mixed (LT.add_ok (LT.add_ok (LT.add_ok (LT.add_ok (noL_ok _ _ _ _) (loop0 d (.v (.slice aC 0 kC)) o.x zE o.e hn hl (opq_z aC kC) (opq_o o))) (loop2z d aC kC o.x o.e H (opq_o o))) (loop6r d.x (.v (.slice aC 0 kC)) o d.e zE d hO h300 (opq_d d) (opq_z aC kC))) (loop10 d (.v (.slice aC 0 kC)) o.x zE o.e H.n8 hl (opq_z aC kC) (opq_o o))) (of_eq (v6rzr d aC kC o (nBy d d.n) (Q2w d 0) (X6w d o.n) (Q6w d) (X10w d) W10w _) ?_)
    refine ⟨rfl, rfl, rfl, rfl, rfl, rfl, ⟨rfl, rfl⟩, ⟨rfl, rfl⟩, ⟨rfl, rfl⟩, bif_f h1 (bif_f h2 (bif_f h4 (⟨rfl, trivial, rfl, rfl, rfl, rfl, rfl, rfl, ⟨rfl, rfl⟩, ⟨rfl, rfl⟩, ⟨rfl, rfl⟩, fun hQ x => ⟨rfl, trivial, rfl, rfl, rfl, rfl, rfl, rfl, ⟨rfl, rfl⟩, ⟨rfl, rfl⟩, ⟨rfl, rfl⟩, ⟨rfl, rfl⟩, ⟨rfl, rfl⟩, st_none H hQ.1 _ x, TT⟩, fun len cap l ho hQ x => ?_⟩)))⟩
    obtain ⟨o1, o2⟩ := ho
    have hlen : (List.take len (List.drop 0 l)).length = len := by rw [List.drop_zero, List.length_take]; omega
    have hA : AllC d d.n (l.take len) := hQ.1
    have h68 : (l.take len).length ≤ 68 := by have := hQ.2; omega
    have h68' : len ≤ 68 := by rw [List.length_take] at h68; omega
    refine bif_of (ble_of (by omega)) (bif_of (ble_of (by rw [hlen]; omega)) ?_)
    cases hz : (List.take len (List.drop 0 l)).length.beq 0
    ·exact bif_f rfl (fun cap' rest hr => ⟨rfl, trivial, rfl, rfl, rfl, rfl, rfl, rfl, ⟨rfl, rfl⟩, ⟨rfl, rfl⟩, ⟨rfl, rfl⟩, ⟨rfl, rfl⟩, ⟨rfl, rfl⟩, ⟨rfl, rfl⟩, st_some H hA h68 hz hr _ x, TT⟩)
    ·have hnil : l.take len = [] := List.eq_nil_of_length_eq_zero (Nat.eq_of_beq_eq_true hz)
     rw [hnil] at hA
     exact bif_t rfl ⟨rfl, trivial, rfl, rfl, rfl, rfl, rfl, rfl, ⟨rfl, rfl⟩, ⟨rfl, rfl⟩, ⟨rfl, rfl⟩, ⟨rfl, rfl⟩, ⟨rfl, rfl⟩, st_none H hA _ x, TT⟩
   ·exact vf_ok e6w_ok mixed (LT.add_ok (noL_ok _ _ _ _) (loop0 d (.v (.slice aC 0 kC)) o.x zE o.e hn hl (opq_z aC kC) (opq_o o))) (of_eq (v6hrzr d aC kC o _ _) ⟨rfl, rfl, rfl, rfl, rfl, rfl, ⟨rfl, rfl⟩, ⟨rfl, rfl⟩, ⟨rfl, rfl⟩, bif_f h1 (bif_f h2 (bif_t h4 rfl))⟩)
  ·exact vf_ok e6w_ok mixed (LT.add_ok (noL_ok _ _ _ _) (loop0 d (.v (.slice aC 0 kC)) o.x zE o.e hn hl (opq_z aC kC) (opq_o o))) (of_eq (v6hrzr d aC kC o _ _) ⟨rfl, rfl, rfl, rfl, rfl, rfl, ⟨rfl, rfl⟩, ⟨rfl, rfl⟩, ⟨rfl, rfl⟩, bif_f h1 (bif_t h2 rfl)⟩)
 ·exact vf_ok e6w_ok mixed (LT.add_ok (noL_ok _ _ _ _) (loop0 d (.v (.slice aC 0 kC)) o.x zE o.e hn hl (opq_z aC kC) (opq_o o))) (of_eq (v6hrzr d aC kC o _ _) ⟨rfl, rfl, rfl, rfl, rfl, rfl, ⟨rfl, rfl⟩, ⟨rfl, rfl⟩, ⟨rfl, rfl⟩, bif_t h1 rfl⟩)
theorem law6rrz (d : Dt) (e : Ct) (aO : Option Addr) (kO : Nat) (hn : d.n ≤ 140737488355328) (hl : d.n ≤ d.l.length) (hw : ∀ i, i < d.n → (dat d i).length ≤ 140737488355328) (hE : e.n ≤ e.l.length) : Spec Try.prog G 6 [d.x, e.x, (.v (.slice aO 0 kO))] (mB d.e e.e zE) (fun r _ => r = .b true) := by
 cases h1 : ilt 8 (d.n : Int)
 ·have _ := h1
  cases h2 : ilt 8192 (nBy d d.n)
  ·have _ := h2
   cases h3 : ilt 60 (e.n : Int)
   ·have _ := h3
    have H : HD d := hd_of hl hw h1 h2
    have h8 := H.n8
    have h60 : e.n ≤ 60 := by rw [ilt_eq] at h3; have := of_decide_eq_false h3; omega
    have TT : v6rrzT d e aO kO (nBy d d.n) (Q2w d e.n) (X6w d 0) (Q6w d) (X10w d) W10w (fun r => r = .b true) := by
     unfold v6rrzT
     exact ⟨fun s' hq => ⟨rfl, trivial, rfl, rfl, rfl, rfl, rfl, ⟨rfl, rfl⟩, ⟨rfl, rfl⟩, ⟨rfl, rfl⟩, ⟨rfl, rfl⟩, ⟨rfl, rfl⟩, ⟨trivial, hq.2⟩, bif_t (show ((0 : Int) == W10w none) = true from rfl) (bif_t (es0 hq.1) rfl)⟩, fun s' len cap l ho hq => ⟨rfl, trivial, rfl, rfl, rfl, rfl, rfl, ⟨rfl, rfl⟩, ⟨rfl, rfl⟩, ⟨rfl, rfl⟩, ⟨rfl, rfl⟩, ⟨rfl, rfl⟩, ⟨rfl, rfl⟩, ⟨ho, hq.2⟩, bif_t (w_some ho) (bif_t (es0 hq.1) rfl)⟩⟩
    refine vf_ok e6w_ok mixed (LT.add_ok (LT.add_ok (LT.add_ok (LT.add_ok (noL_ok _ _ _ _) (loop0 d e.x (.v (.slice aO 0 kO)) e.e zE hn hl (opq_c e) (opq_z aO kO))) (loop2r d e (.v (.slice aO 0 kO)) zE H hE h60 (opq_z aO kO))) (loop6z d.x e.x aO kO d.e e.e d (opq_d d) (opq_c e))) (loop10 d e.x (.v (.slice aO 0 kO)) e.e zE H.n8 hl (opq_c e) (opq_z aO kO))) (of_eq (v6rrz d e aO kO (nBy d d.n) (Q2w d e.n) (X6w d 0) (Q6w d) (X10w d) W10w _) ?_)
    refine ⟨rfl, rfl, rfl, rfl, rfl, rfl, ⟨rfl, rfl⟩, ⟨rfl, rfl⟩, ⟨rfl, rfl⟩, bif_f h1 (bif_f h2 (bif_f h3 (⟨rfl, trivial, rfl, rfl, rfl, rfl, rfl, rfl, ⟨rfl, rfl⟩, ⟨rfl, rfl⟩, ⟨rfl, rfl⟩, fun hQ x => ⟨rfl, trivial, rfl, rfl, rfl, rfl, rfl, rfl, ⟨rfl, rfl⟩, ⟨rfl, rfl⟩, ⟨rfl, rfl⟩, ⟨rfl, rfl⟩, ⟨rfl, rfl⟩, st_none H hQ.1 _ x, TT⟩, fun len cap l ho hQ x => ?_⟩)))⟩
    obtain ⟨o1, o2⟩ := ho
    have hlen : (List.take len (List.drop 0 l)).length = len := by rw [List.drop_zero, List.length_take]; omega
    have hA : AllC d d.n (l.take len) := hQ.1
    have h68 : (l.take len).length ≤ 68 := by have := hQ.2; omega
    have h68' : len ≤ 68 := by rw [List.length_take] at h68; omega
    refine bif_of (ble_of (by omega)) (bif_of (ble_of (by rw [hlen]; omega)) ?_)
    cases hz : (List.take len (List.drop 0 l)).length.beq 0
    ·exact bif_f rfl (fun cap' rest hr => ⟨rfl, trivial, rfl, rfl, rfl, rfl, rfl, rfl, ⟨rfl, rfl⟩, ⟨rfl, rfl⟩, ⟨rfl, rfl⟩, ⟨rfl, rfl⟩, ⟨rfl, rfl⟩, ⟨rfl, rfl⟩, st_some H hA h68 hz hr _ x, TT⟩)
    ·have hnil : l.take len = [] := List.eq_nil_of_length_eq_zero (Nat.eq_of_beq_eq_true hz)
     rw [hnil] at hA
     exact bif_t rfl ⟨rfl, trivial, rfl, rfl, rfl, rfl, rfl, rfl, ⟨rfl, rfl⟩, ⟨rfl, rfl⟩, ⟨rfl, rfl⟩, ⟨rfl, rfl⟩, ⟨rfl, rfl⟩, st_none H hA _ x, TT⟩
   ·exact vf_ok e6w_ok mixed (LT.add_ok (noL_ok _ _ _ _) (loop0 d e.x (.v (.slice aO 0 kO)) e.e zE hn hl (opq_c e) (opq_z aO kO))) (of_eq (v6hrrz d e aO kO _ _) ⟨rfl, rfl, rfl, rfl, rfl, rfl, ⟨rfl, rfl⟩, ⟨rfl, rfl⟩, ⟨rfl, rfl⟩, bif_f h1 (bif_f h2 (bif_t h3 rfl))⟩)
  ·exact vf_ok e6w_ok mixed (LT.add_ok (noL_ok _ _ _ _) (loop0 d e.x (.v (.slice aO 0 kO)) e.e zE hn hl (opq_c e) (opq_z aO kO))) (of_eq (v6hrrz d e aO kO _ _) ⟨rfl, rfl, rfl, rfl, rfl, rfl, ⟨rfl, rfl⟩, ⟨rfl, rfl⟩, ⟨rfl, rfl⟩, bif_f h1 (bif_t h2 rfl)⟩)
 ·exact vf_ok e6w_ok mixed (LT.add_ok (noL_ok _ _ _ _) (loop0 d e.x (.v (.slice aO 0 kO)) e.e zE hn hl (opq_c e) (opq_z aO kO))) (of_eq (v6hrrz d e aO kO _ _) ⟨rfl, rfl, rfl, rfl, rfl, rfl, ⟨rfl, rfl⟩, ⟨rfl, rfl⟩, ⟨rfl, rfl⟩, bif_t h1 rfl⟩)
theorem law6rrr (d : Dt) (e : Ct) (o : Ot) (hn : d.n ≤ 140737488355328) (hl : d.n ≤ d.l.length) (hw : ∀ i, i < d.n → (dat d i).length ≤ 140737488355328) (hE : e.n ≤ e.l.length) (hO : o.n ≤ o.l.length) : Spec Try.prog G 6 [d.x, e.x, o.x] (mB d.e e.e o.e) (fun r _ => r = .b true) := by
 cases h1 : ilt 8 (d.n : Int)
 ·have _ := h1
  cases h2 : ilt 8192 (nBy d d.n)
  ·have _ := h2
   cases h3 : ilt 60 (e.n : Int)
   ·have _ := h3
    cases h4 : ilt 300 (o.n : Int)
    ·have _ := h4
     have H : HD d := hd_of hl hw h1 h2
     have h8 := H.n8
     have h60 : e.n ≤ 60 := by rw [ilt_eq] at h3; have := of_decide_eq_false h3; omega
     have h300 : o.n ≤ 300 := by rw [ilt_eq] at h4; have := of_decide_eq_false h4; omega
     have TT : v6rrrT d e o (nBy d d.n) (Q2w d e.n) (X6w d o.n) (Q6w d) (X10w d) W10w (fun r => r = .b true) := by
      unfold v6rrrT
      exact ⟨fun s' hq => ⟨rfl, trivial, rfl, rfl, rfl, rfl, rfl, ⟨rfl, rfl⟩, ⟨rfl, rfl⟩, ⟨rfl, rfl⟩, ⟨rfl, rfl⟩, ⟨rfl, rfl⟩, ⟨trivial, hq.2⟩, bif_t (show ((0 : Int) == W10w none) = true from rfl) (bif_t (es0 hq.1) rfl)⟩, fun s' len cap l ho hq => ⟨rfl, trivial, rfl, rfl, rfl, rfl, rfl, ⟨rfl, rfl⟩, ⟨rfl, rfl⟩, ⟨rfl, rfl⟩, ⟨rfl, rfl⟩, ⟨rfl, rfl⟩, ⟨rfl, rfl⟩, ⟨ho, hq.2⟩, bif_t (w_some ho) (bif_t (es0 hq.1) rfl)⟩⟩
     refine vf_ok e6w_ok mixed (LT.add_ok (LT.add_ok (LT.add_ok (LT.add_ok (noL_ok _ _ _ _) (loop0 d e.x o.x e.e o.e hn hl (opq_c e) (opq_o o))) (loop2r d e o.x o.e H hE h60 (opq_o o))) (loop6r d.x e.x o d.e e.e d hO h300 (opq_d d) (opq_c e))) (loop10 d e.x o.x e.e o.e H.n8 hl (opq_c e) (opq_o o))) (of_eq (v6rrr d e o (nBy d d.n) (Q2w d e.n) (X6w d o.n) (Q6w d) (X10w d) W10w _) ?_)
     refine ⟨rfl, rfl, rfl, rfl, rfl, rfl, ⟨rfl, rfl⟩, ⟨rfl, rfl⟩, ⟨rfl, rfl⟩, bif_f h1 (bif_f h2 (bif_f h3 (bif_f h4 (⟨rfl, trivial, rfl, rfl, rfl, rfl, rfl, rfl, ⟨rfl, rfl⟩, ⟨rfl, rfl⟩, ⟨rfl, rfl⟩, fun hQ x => ⟨rfl, trivial, rfl, rfl, rfl, rfl, rfl, rfl, ⟨rfl, rfl⟩, ⟨rfl, rfl⟩, ⟨rfl, rfl⟩, ⟨rfl, rfl⟩, ⟨rfl, rfl⟩, st_none H hQ.1 _ x, TT⟩, fun len cap l ho hQ x => ?_⟩))))⟩
     obtain ⟨o1, o2⟩ := ho
     have hlen : (List.take len (List.drop 0 l)).length = len := by rw [List.drop_zero, List.length_take]; omega
     have hA : AllC d d.n (l.take len) := hQ.1
     have h68 : (l.take len).length ≤ 68 := by have := hQ.2; omega
     have h68' : len ≤ 68 := by rw [List.length_take] at h68; omega
     refine bif_of (ble_of (by omega)) (bif_of (ble_of (by rw [hlen]; omega)) ?_)
     cases hz : (List.take len (List.drop 0 l)).length.beq 0
     ·exact bif_f rfl (fun cap' rest hr => ⟨rfl, trivial, rfl, rfl, rfl, rfl, rfl, rfl, ⟨rfl, rfl⟩, ⟨rfl, rfl⟩, ⟨rfl, rfl⟩, ⟨rfl, rfl⟩, ⟨rfl, rfl⟩, ⟨rfl, rfl⟩, st_some H hA h68 hz hr _ x, TT⟩)
     ·have hnil : l.take len = [] := List.eq_nil_of_length_eq_zero (Nat.eq_of_beq_eq_true hz)
      rw [hnil] at hA
      exact bif_t rfl ⟨rfl, trivial, rfl, rfl, rfl, rfl, rfl, rfl, ⟨rfl, rfl⟩, ⟨rfl, rfl⟩, ⟨rfl, rfl⟩, ⟨rfl, rfl⟩, ⟨rfl, rfl⟩, st_none H hA _ x, TT⟩
    ·exact vf_ok e6w_ok mixed (LT.add_ok (noL_ok _ _ _ _) (loop0 d e.x o.x e.e o.e hn hl (opq_c e) (opq_o o))) (of_eq (v6hrrr d e o _ _) ⟨rfl, rfl, rfl, rfl, rfl, rfl, ⟨rfl, rfl⟩, ⟨rfl, rfl⟩, ⟨rfl, rfl⟩, bif_f h1 (bif_f h2 (bif_f h3 (bif_t h4 rfl)))⟩)
   ·exact vf_ok e6w_ok mixed (LT.add_ok (noL_ok _ _ _ _) (loop0 d e.x o.x e.e o.e hn hl (opq_c e) (opq_o o))) (of_eq (v6hrrr d e o _ _) ⟨rfl, rfl, rfl, rfl, rfl, rfl, ⟨rfl, rfl⟩, ⟨rfl, rfl⟩, ⟨rfl, rfl⟩, bif_f h1 (bif_f h2 (bif_t h3 rfl))⟩)
  ·exact vf_ok e6w_ok mixed (LT.add_ok (noL_ok _ _ _ _) (loop0 d e.x o.x e.e o.e hn hl (opq_c e) (opq_o o))) (of_eq (v6hrrr d e o _ _) ⟨rfl, rfl, rfl, rfl, rfl, rfl, ⟨rfl, rfl⟩, ⟨rfl, rfl⟩, ⟨rfl, rfl⟩, bif_f h1 (bif_t h2 rfl)⟩)
 ·exact vf_ok e6w_ok mixed (LT.add_ok (noL_ok _ _ _ _) (loop0 d e.x o.x e.e o.e hn hl (opq_c e) (opq_o o))) (of_eq (v6hrrr d e o _ _) ⟨rfl, rfl, rfl, rfl, rfl, rfl, ⟨rfl, rfl⟩, ⟨rfl, rfl⟩, ⟨rfl, rfl⟩, bif_t h1 rfl⟩)
end Go.Proofs.Ytggoncamiafclaa
