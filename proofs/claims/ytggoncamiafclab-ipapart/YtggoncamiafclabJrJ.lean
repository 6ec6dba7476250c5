/-
  ip: the law IpApart answers true. No statement is proved here.
-/
import Derived.Test.YtggoncamiafclabJrI
namespace Go.Proofs.Ytggoncamiafclab
open Go.RowKit
set_option linter.unusedVariables false
set_option linter.unusedSimpArgs false
set_option maxRecDepth 100000

theorem bif_c {c : Bool} {p q : Prop} (h1 : c = true → p) (h2 : c = false → q) : bif c then p else q := by
  cases c
  · exact h2 rfl
  · exact h1 rfl
/-- The bytes that came before, and those of the first packets. -/
def zB (z : Int) (l : List Pk) : Nat → Int
  | 0 => z
  | i + 1 => zB z l i + ((pW (l.getD i (rz PF)) : Nat) : Int)
theorem zB_eq (z : Int) (l : List Pk) : ∀ i, zB z l i = z + ((pN l i : Nat) : Int)
  | 0 => (Int.add_zero z).symm
  | i + 1 => by
    unfold zB pN
    rw [zB_eq z l i, Int.natCast_add, Int.add_assoc]
theorem zB_le {z : Int} {l : List Pk} (h : okPk l = true) (i : Nat) : z ≤ zB z l i ∧ zB z l i ≤ z + (i : Int) * 140737488355328 := by
  have h1 := pN_le h i
  rw [zB_eq]
  omega
theorem sim0 {x y : St} (hx : OkS x) (hy : OkS y) (ex : x.es = []) (ey : y.es = []) : Sim 0 x y :=
  ⟨⟨hx, fun e he => by rw [ex] at he; cases he⟩, ⟨hy, fun e he => by rw [ey] at he; cases he⟩, fun n _ => by rw [ex, ey], fun e he => (by rw [ey] at he; cases he), by rw [ex]; exact Nat.le_refl _⟩
theorem two_nil {a b : List SetE} (h : (Nat.beq a.length 0 && Nat.beq b.length 0) = true) : a = [] ∧ b = [] := by
  simp only [Bool.and_eq_true] at h
  exact ⟨List.eq_nil_of_length_eq_zero (Nat.eq_of_beq_eq_true h.1), List.eq_nil_of_length_eq_zero (Nat.eq_of_beq_eq_true h.2)⟩
theorem la_000 (du : Option Addr) (co : Nat) (dt : Option Addr) (ct : Nat) (dr : Option Addr) (cr : Nat) (z : Int) : ∀ fr M K, vLoop (mA000 du co dt ct dr cr) 191 (ia000 du co dt ct dr cr z 0) (mA000 du co dt ct dr cr) (oa000 du co dt ct dr cr z) (mA000 du co dt ct dr cr) fr M K → Wp Try.prog G (mA000 du co dt ct dr cr) (loopOf Try.prog 3 0) fr M K :=
  loop_next e3_ok mixed (noL_ok _ _ _ _) (by show 0 ≤ _; exact Nat.zero_le _) (by kernel_rfl) (fun i => ia000 du co dt ct dr cr z i) (fun _ => (mA000 du co dt ct dr cr)) (fun _ => True) (fun _ => 0) (fun i => i + 1) 0 trivial (fun i hp => of_eq (ra000 du co dt ct dr cr i _ _ _ _) ⟨rfl, rfl, rfl, rfl, rfl, trivial⟩)
theorem lb_000 (du : Option Addr) (co : Nat) (dt : Option Addr) (ct : Nat) (dr : Option Addr) (cr : Nat) (z : Int) : ∀ fr M K, vLoop (mA000 du co dt ct dr cr) 191 (ib000 du co dt ct dr cr z 0) (mA000 du co dt ct dr cr) (oa000 du co dt ct dr cr z) (mA000 du co dt ct dr cr) fr M K → Wp Try.prog G (mA000 du co dt ct dr cr) (loopOf Try.prog 3 2) fr M K :=
  loop_next e3_ok mixed (noL_ok _ _ _ _) (by show 0 ≤ _; exact Nat.zero_le _) (by kernel_rfl) (fun i => ib000 du co dt ct dr cr z i) (fun _ => (mA000 du co dt ct dr cr)) (fun _ => True) (fun _ => 0) (fun i => i + 1) 0 trivial (fun i hp => of_eq (rb000 du co dt ct dr cr i _ _ _ _) ⟨rfl, rfl, rfl, rfl, rfl, trivial⟩)
theorem lc_000 (du : Option Addr) (co : Nat) (dt : Option Addr) (ct : Nat) (dr : Option Addr) (cr : Nat) : ∀ fr M K, vc000 du co dt ct dr cr True fr M K → Wp Try.prog G (mA000 du co dt ct dr cr) (loopOf Try.prog 3 4) fr M K := by
  intro fr M K hh
  unfold vc000 at hh
  split at hh
  · obtain ⟨hle, ⟨hkx, hky, he, hH⟩, hK, hZ⟩ := vLe_ok hh
    obtain ⟨ex0, ey0⟩ := two_nil he
    rw [frK_eq] at hK hZ
    obtain - := hH
    exact loop_pickR e3_ok mixed (by show 0 ≤ _; exact Nat.zero_le _) (by kernel_rfl) (I3000 du co dt ct dr cr) (N3000 du co dt ct dr cr) (fun _ => True) (fun _ => 0) (fun s => sel000 s.k s.m s.i) [] (mA000 du co dt ct dr cr) [(6, .b true)] (mA000 du co dt ct dr cr) ⟨0, 0, 0, _, _, _, _, _, _, _, _⟩ trivial noL (noL_ok _ _ _ _) (fun s hp => of_eq (rc000 du co dt ct dr cr s.k s.m s.i s.mx s.cx s.ex s.gx s.my s.cy s.ey s.gy _) ⟨rfl, trivial⟩) hle hK hZ
  · exact hh.elim
theorem loops_000 (du : Option Addr) (co : Nat) (dt : Option Addr) (ct : Nat) (dr : Option Addr) (cr : Nat) : LOk Try.prog G (mA000 du co dt ct dr cr) 3 (L3000 du co dt ct dr cr 0 0 True) :=
  LT.add_ok (LT.add_ok (LT.add_ok (noL_ok _ _ _ _) (la_000 du co dt ct dr cr 0)) (lb_000 du co dt ct dr cr 0)) (lc_000 du co dt ct dr cr)
theorem law_000 (du : Option Addr) (co : Nat) (dt : Option Addr) (ct : Nat) (dr : Option Addr) (cr : Nat) : Spec Try.prog G 3 [.v (.slice du 0 co), .v (.slice dt 0 ct), .v (.slice dr 0 cr)] (mA000 du co dt ct dr cr) (fun r _ => r = .b true) := by
  refine vf_ok e3_ok mixed (loops_000 du co dt ct dr cr) (of_eq (v3000 du co dt ct dr cr _ _ _ _) ⟨rfl, rfl, rfl, rfl, rfl, rfl, rfl, rfl, rfl, rfl, rfl, rfl, ?_⟩)
  refine bif_c (fun _ => rfl) fun h3 => ?_
  have h3 : ¬ (16384 : Int) < 0 := by have h3 : ilt 16384 0 = false := h3; rw [ilt_eq] at h3; exact of_decide_eq_false h3
  exact fun x y => ⟨rfl, rfl, rfl, rfl, rfl, rfl, rfl, rfl, rfl, ⟨rfl, rfl⟩, ⟨rfl, rfl⟩, ⟨rfl, rfl⟩, ⟨rfl, rfl⟩, ⟨ok_empty x 0, ok_empty y 0, rfl, trivial⟩, rfl, rfl⟩
theorem la_001 (du : Option Addr) (co : Nat) (dt : Option Addr) (ct : Nat) (prer : List Value) (lr : List (Rc OF)) (nr cr : Nat) (z : Int) : ∀ fr M K, vLoop (mA001 du co dt ct prer lr nr cr) 191 (ia001 du co dt ct prer lr nr cr z 0) (mA001 du co dt ct prer lr nr cr) (oa001 du co dt ct prer lr nr cr z) (mA001 du co dt ct prer lr nr cr) fr M K → Wp Try.prog G (mA001 du co dt ct prer lr nr cr) (loopOf Try.prog 3 0) fr M K :=
  loop_next e3_ok mixed (noL_ok _ _ _ _) (by show 0 ≤ _; exact Nat.zero_le _) (by kernel_rfl) (fun i => ia001 du co dt ct prer lr nr cr z i) (fun _ => (mA001 du co dt ct prer lr nr cr)) (fun _ => True) (fun _ => 0) (fun i => i + 1) 0 trivial (fun i hp => of_eq (ra001 du co dt ct prer lr nr cr i _ _ _ _) ⟨rfl, rfl, rfl, rfl, rfl, ⟨rfl, rfl⟩, trivial⟩)
theorem lb_001 (du : Option Addr) (co : Nat) (dt : Option Addr) (ct : Nat) (prer : List Value) (lr : List (Rc OF)) (nr cr : Nat) (z : Int) : ∀ fr M K, vLoop (mA001 du co dt ct prer lr nr cr) 191 (ib001 du co dt ct prer lr nr cr z 0) (mA001 du co dt ct prer lr nr cr) (oa001 du co dt ct prer lr nr cr z) (mA001 du co dt ct prer lr nr cr) fr M K → Wp Try.prog G (mA001 du co dt ct prer lr nr cr) (loopOf Try.prog 3 2) fr M K :=
  loop_next e3_ok mixed (noL_ok _ _ _ _) (by show 0 ≤ _; exact Nat.zero_le _) (by kernel_rfl) (fun i => ib001 du co dt ct prer lr nr cr z i) (fun _ => (mA001 du co dt ct prer lr nr cr)) (fun _ => True) (fun _ => 0) (fun i => i + 1) 0 trivial (fun i hp => of_eq (rb001 du co dt ct prer lr nr cr i _ _ _ _) ⟨rfl, rfl, rfl, rfl, rfl, ⟨rfl, rfl⟩, trivial⟩)
theorem lc_001 (du : Option Addr) (co : Nat) (dt : Option Addr) (ct : Nat) (prer : List Value) (lr : List (Rc OF)) (nr cr : Nat) : ∀ fr M K, vc001 du co dt ct prer lr nr cr True fr M K → Wp Try.prog G (mA001 du co dt ct prer lr nr cr) (loopOf Try.prog 3 4) fr M K := by
  intro fr M K hh
  unfold vc001 at hh
  split at hh
  · obtain ⟨hle, ⟨hkx, hky, he, hH⟩, hK, hZ⟩ := vLe_ok hh
    obtain ⟨ex0, ey0⟩ := two_nil he
    rw [frK_eq] at hK hZ
    obtain - := hH
    exact loop_pickR e3_ok mixed (by show 0 ≤ _; exact Nat.zero_le _) (by kernel_rfl) (I3001 du co dt ct prer lr nr cr) (N3001 du co dt ct prer lr nr cr) (fun _ => True) (fun _ => 0) (fun s => sel001 s.k s.m s.i) [] (mA001 du co dt ct prer lr nr cr) [(6, .b true)] (mA001 du co dt ct prer lr nr cr) ⟨0, 0, 0, _, _, _, _, _, _, _, _⟩ trivial noL (noL_ok _ _ _ _) (fun s hp => of_eq (rc001 du co dt ct prer lr nr cr s.k s.m s.i s.mx s.cx s.ex s.gx s.my s.cy s.ey s.gy _) ⟨rfl, ⟨rfl, rfl⟩, trivial⟩) hle hK hZ
  · exact hh.elim
theorem loops_001 (du : Option Addr) (co : Nat) (dt : Option Addr) (ct : Nat) (prer : List Value) (lr : List (Rc OF)) (nr cr : Nat) (hnr : nr ≤ lr.length) : LOk Try.prog G (mA001 du co dt ct prer lr nr cr) 3 (L3001 du co dt ct prer lr nr cr 0 0 True) :=
  LT.add_ok (LT.add_ok (LT.add_ok (noL_ok _ _ _ _) (la_001 du co dt ct prer lr nr cr 0)) (lb_001 du co dt ct prer lr nr cr 0)) (lc_001 du co dt ct prer lr nr cr)
theorem law_001 (du : Option Addr) (co : Nat) (dt : Option Addr) (ct : Nat) (prer : List Value) (lr : List (Rc OF)) (nr cr : Nat) (hnr : nr ≤ lr.length) : Spec Try.prog G 3 [.v (.slice du 0 co), .v (.slice dt 0 ct), .rs 0 prer.length 0 1 nr cr] (mA001 du co dt ct prer lr nr cr) (fun r _ => r = .b true) := by
  refine vf_ok e3_ok mixed (loops_001 du co dt ct prer lr nr cr hnr) (of_eq (v3001 du co dt ct prer lr nr cr _ _ _ _) ⟨rfl, rfl, rfl, rfl, rfl, rfl, ⟨rfl, rfl⟩, rfl, rfl, rfl, rfl, rfl, rfl, ⟨rfl, rfl⟩, ?_⟩)
  refine bif_c (fun _ => rfl) fun h3 => ?_
  have h3 : ¬ (16384 : Int) < 0 := by have h3 : ilt 16384 0 = false := h3; rw [ilt_eq] at h3; exact of_decide_eq_false h3
  refine bif_c (fun _ => rfl) fun h4 => ?_
  exact fun x y => ⟨rfl, rfl, rfl, rfl, rfl, rfl, rfl, rfl, rfl, ⟨rfl, rfl⟩, ⟨rfl, rfl⟩, ⟨rfl, rfl⟩, ⟨rfl, rfl⟩, ⟨rfl, rfl⟩, ⟨ok_empty x 0, ok_empty y 0, rfl, trivial⟩, rfl, rfl⟩
theorem la_010 (du : Option Addr) (co : Nat) (pret : List Value) (lt : List Pk) (nt ct : Nat) (dr : Option Addr) (cr : Nat) (z : Int) : ∀ fr M K, vLoop (mA010 du co pret lt nt ct dr cr) 191 (ia010 du co pret lt nt ct dr cr z 0) (mA010 du co pret lt nt ct dr cr) (oa010 du co pret lt nt ct dr cr z) (mA010 du co pret lt nt ct dr cr) fr M K → Wp Try.prog G (mA010 du co pret lt nt ct dr cr) (loopOf Try.prog 3 0) fr M K :=
  loop_next e3_ok mixed (noL_ok _ _ _ _) (by show 0 ≤ _; exact Nat.zero_le _) (by kernel_rfl) (fun i => ia010 du co pret lt nt ct dr cr z i) (fun _ => (mA010 du co pret lt nt ct dr cr)) (fun _ => True) (fun _ => 0) (fun i => i + 1) 0 trivial (fun i hp => of_eq (ra010 du co pret lt nt ct dr cr i _ _ _ _) ⟨rfl, rfl, rfl, rfl, rfl, ⟨rfl, rfl⟩, trivial⟩)
theorem lb_010 (du : Option Addr) (co : Nat) (pret : List Value) (lt : List Pk) (nt ct : Nat) (dr : Option Addr) (cr : Nat) (z : Int) (hn : nt ≤ lt.length) (hc : nt ≤ 140737488355328) (ho : okPk lt = true) (hz : 0 ≤ z ∧ z ≤ 28147497671065600) : ∀ fr M K, vLoop (mA010 du co pret lt nt ct dr cr) 191 (ib010 du co pret lt nt ct dr cr z 0) (mA010 du co pret lt nt ct dr cr) (oa010 du co pret lt nt ct dr cr (zB z lt (min nt 200))) (mA010 du co pret lt nt ct dr cr) fr M K → Wp Try.prog G (mA010 du co pret lt nt ct dr cr) (loopOf Try.prog 3 2) fr M K := by
  refine loop_next e3_ok mixed (noL_ok _ _ _ _) (by show 0 ≤ _; exact Nat.zero_le _) (by kernel_rfl) (fun i => ib010 du co pret lt nt ct dr cr (zB z lt i) i) (fun _ => (mA010 du co pret lt nt ct dr cr)) (fun i => i ≤ nt ∧ i ≤ 200) (fun i => nt - i) (fun i => i + 1) 0 ⟨Nat.zero_le _, Nat.zero_le _⟩ (fun i hp => of_eq (rb010 du co pret lt nt ct dr cr i _ _ _ _) ?_)
  obtain ⟨hp1, hp2⟩ := hp
  obtain ⟨hb1, hb2⟩ := zB_le (z := z) ho i
  have h2 := okPk_at ho i
  rw [show i + (pret.length - pret.length) / 9 = i by omega]
  cases hc : ilt (i : Int) (nt : Int)
  · have := of_nilt hc
    exact ⟨rfl, rfl, rfl, rfl, congrArg (fun n => SV.i (zB z lt n)) (by omega), ⟨rfl, rfl⟩, trivial⟩
  · have hi := of_ilt hc
    show bif ilt (i : Int) 200 then _ else _
    cases hd : ilt (i : Int) 200
    · have : ¬ (i : Int) < 200 := by rw [ilt_eq] at hd; exact of_decide_eq_false hd
      exact ⟨rfl, rfl, rfl, rfl, congrArg (fun n => SV.i (zB z lt n)) (by omega), ⟨rfl, rfl⟩, trivial⟩
    · have h5 : (i : Int) < 200 := by rw [ilt_eq] at hd; exact of_decide_eq_true hd
      have hr := rok_p pret (show i < lt.length by omega)
      have hn : inR (i : Int) nt = true := inR_iff.2 ⟨by omega, by omega⟩
      have h9 : inI (zB z lt i + ((pW (lt.getD i (rz PF)) : Nat) : Int)) = true := inI_iff.2 (by omega)
      exact bif_of hn (bif_of hr (bif_of h9 (bif_of (inI_iff.2 (by omega)) ⟨⟨⟨by omega, by omega⟩, by omega⟩, rfl, rfl, rfl, rfl, rfl, ⟨rfl, rfl⟩, trivial⟩)))
theorem lc_010 (du : Option Addr) (co : Nat) (pret : List Value) (lt : List Pk) (nt ct : Nat) (dr : Option Addr) (cr : Nat) : ∀ fr M K, vc010 du co pret lt nt ct dr cr True fr M K → Wp Try.prog G (mA010 du co pret lt nt ct dr cr) (loopOf Try.prog 3 4) fr M K := by
  intro fr M K hh
  unfold vc010 at hh
  split at hh
  · obtain ⟨hle, ⟨hkx, hky, he, hH⟩, hK, hZ⟩ := vLe_ok hh
    obtain ⟨ex0, ey0⟩ := two_nil he
    rw [frK_eq] at hK hZ
    obtain - := hH
    exact loop_pickR e3_ok mixed (by show 0 ≤ _; exact Nat.zero_le _) (by kernel_rfl) (I3010 du co pret lt nt ct dr cr) (N3010 du co pret lt nt ct dr cr) (fun _ => True) (fun _ => 0) (fun s => sel010 s.k s.m s.i) [] (mA010 du co pret lt nt ct dr cr) [(6, .b true)] (mA010 du co pret lt nt ct dr cr) ⟨0, 0, 0, _, _, _, _, _, _, _, _⟩ trivial noL (noL_ok _ _ _ _) (fun s hp => of_eq (rc010 du co pret lt nt ct dr cr s.k s.m s.i s.mx s.cx s.ex s.gx s.my s.cy s.ey s.gy _) ⟨rfl, ⟨rfl, rfl⟩, trivial⟩) hle hK hZ
  · exact hh.elim
theorem loops_010 (du : Option Addr) (co : Nat) (pret : List Value) (lt : List Pk) (nt ct : Nat) (dr : Option Addr) (cr : Nat) (hnt : nt ≤ lt.length) (hct : nt ≤ 140737488355328) (hot : okPk lt = true) : LOk Try.prog G (mA010 du co pret lt nt ct dr cr) 3 (L3010 du co pret lt nt ct dr cr 0 (zB 0 lt (min nt 200)) True) :=
  LT.add_ok (LT.add_ok (LT.add_ok (noL_ok _ _ _ _) (la_010 du co pret lt nt ct dr cr 0)) (lb_010 du co pret lt nt ct dr cr 0 hnt hct hot ⟨by decide, by decide⟩)) (lc_010 du co pret lt nt ct dr cr)
theorem law_010 (du : Option Addr) (co : Nat) (pret : List Value) (lt : List Pk) (nt ct : Nat) (dr : Option Addr) (cr : Nat) (hnt : nt ≤ lt.length) (hct : nt ≤ 140737488355328) (hot : okPk lt = true) : Spec Try.prog G 3 [.v (.slice du 0 co), .rs 0 pret.length 0 9 nt ct, .v (.slice dr 0 cr)] (mA010 du co pret lt nt ct dr cr) (fun r _ => r = .b true) := by
  refine vf_ok e3_ok mixed (loops_010 du co pret lt nt ct dr cr hnt hct hot) (of_eq (v3010 du co pret lt nt ct dr cr _ _ _ _) ⟨rfl, rfl, rfl, rfl, rfl, rfl, ⟨rfl, rfl⟩, rfl, rfl, rfl, rfl, rfl, rfl, ⟨rfl, rfl⟩, ?_⟩)
  refine bif_c (fun _ => rfl) fun h2 => ?_
  have h2 : ¬ (20 : Int) < (nt : Int) := by have h2 : ilt 20 (nt : Int) = false := h2; rw [ilt_eq] at h2; exact of_decide_eq_false h2
  refine bif_c (fun _ => rfl) fun h3 => ?_
  have h3 : ¬ (16384 : Int) < (zB 0 lt (min nt 200)) := by have h3 : ilt 16384 (zB 0 lt (min nt 200)) = false := h3; rw [ilt_eq] at h3; exact of_decide_eq_false h3
  exact fun x y => ⟨rfl, rfl, rfl, rfl, rfl, rfl, rfl, rfl, rfl, ⟨rfl, rfl⟩, ⟨rfl, rfl⟩, ⟨rfl, rfl⟩, ⟨rfl, rfl⟩, ⟨rfl, rfl⟩, ⟨ok_empty x 0, ok_empty y 0, rfl, trivial⟩, rfl, rfl⟩
theorem la_011 (du : Option Addr) (co : Nat) (pret : List Value) (lt : List Pk) (nt ct : Nat) (prer : List Value) (lr : List (Rc OF)) (nr cr : Nat) (z : Int) : ∀ fr M K, vLoop (mA011 du co pret lt nt ct prer lr nr cr) 191 (ia011 du co pret lt nt ct prer lr nr cr z 0) (mA011 du co pret lt nt ct prer lr nr cr) (oa011 du co pret lt nt ct prer lr nr cr z) (mA011 du co pret lt nt ct prer lr nr cr) fr M K → Wp Try.prog G (mA011 du co pret lt nt ct prer lr nr cr) (loopOf Try.prog 3 0) fr M K :=
  loop_next e3_ok mixed (noL_ok _ _ _ _) (by show 0 ≤ _; exact Nat.zero_le _) (by kernel_rfl) (fun i => ia011 du co pret lt nt ct prer lr nr cr z i) (fun _ => (mA011 du co pret lt nt ct prer lr nr cr)) (fun _ => True) (fun _ => 0) (fun i => i + 1) 0 trivial (fun i hp => of_eq (ra011 du co pret lt nt ct prer lr nr cr i _ _ _ _) ⟨rfl, rfl, rfl, rfl, rfl, ⟨rfl, rfl⟩, ⟨rfl, rfl⟩, trivial⟩)
theorem lb_011 (du : Option Addr) (co : Nat) (pret : List Value) (lt : List Pk) (nt ct : Nat) (prer : List Value) (lr : List (Rc OF)) (nr cr : Nat) (z : Int) (hn : nt ≤ lt.length) (hc : nt ≤ 140737488355328) (ho : okPk lt = true) (hz : 0 ≤ z ∧ z ≤ 28147497671065600) : ∀ fr M K, vLoop (mA011 du co pret lt nt ct prer lr nr cr) 191 (ib011 du co pret lt nt ct prer lr nr cr z 0) (mA011 du co pret lt nt ct prer lr nr cr) (oa011 du co pret lt nt ct prer lr nr cr (zB z lt (min nt 200))) (mA011 du co pret lt nt ct prer lr nr cr) fr M K → Wp Try.prog G (mA011 du co pret lt nt ct prer lr nr cr) (loopOf Try.prog 3 2) fr M K := by
  refine loop_next e3_ok mixed (noL_ok _ _ _ _) (by show 0 ≤ _; exact Nat.zero_le _) (by kernel_rfl) (fun i => ib011 du co pret lt nt ct prer lr nr cr (zB z lt i) i) (fun _ => (mA011 du co pret lt nt ct prer lr nr cr)) (fun i => i ≤ nt ∧ i ≤ 200) (fun i => nt - i) (fun i => i + 1) 0 ⟨Nat.zero_le _, Nat.zero_le _⟩ (fun i hp => of_eq (rb011 du co pret lt nt ct prer lr nr cr i _ _ _ _) ?_)
  obtain ⟨hp1, hp2⟩ := hp
  obtain ⟨hb1, hb2⟩ := zB_le (z := z) ho i
  have h2 := okPk_at ho i
  rw [show i + (pret.length - pret.length) / 9 = i by omega]
  cases hc : ilt (i : Int) (nt : Int)
  · have := of_nilt hc
    exact ⟨rfl, rfl, rfl, rfl, congrArg (fun n => SV.i (zB z lt n)) (by omega), ⟨rfl, rfl⟩, ⟨rfl, rfl⟩, trivial⟩
  · have hi := of_ilt hc
    show bif ilt (i : Int) 200 then _ else _
    cases hd : ilt (i : Int) 200
    · have : ¬ (i : Int) < 200 := by rw [ilt_eq] at hd; exact of_decide_eq_false hd
      exact ⟨rfl, rfl, rfl, rfl, congrArg (fun n => SV.i (zB z lt n)) (by omega), ⟨rfl, rfl⟩, ⟨rfl, rfl⟩, trivial⟩
    · have h5 : (i : Int) < 200 := by rw [ilt_eq] at hd; exact of_decide_eq_true hd
      have hr := rok_p pret (show i < lt.length by omega)
      have hn : inR (i : Int) nt = true := inR_iff.2 ⟨by omega, by omega⟩
      have h9 : inI (zB z lt i + ((pW (lt.getD i (rz PF)) : Nat) : Int)) = true := inI_iff.2 (by omega)
      exact bif_of hn (bif_of hr (bif_of h9 (bif_of (inI_iff.2 (by omega)) ⟨⟨⟨by omega, by omega⟩, by omega⟩, rfl, rfl, rfl, rfl, rfl, ⟨rfl, rfl⟩, ⟨rfl, rfl⟩, trivial⟩)))
theorem lc_011 (du : Option Addr) (co : Nat) (pret : List Value) (lt : List Pk) (nt ct : Nat) (prer : List Value) (lr : List (Rc OF)) (nr cr : Nat) : ∀ fr M K, vc011 du co pret lt nt ct prer lr nr cr True fr M K → Wp Try.prog G (mA011 du co pret lt nt ct prer lr nr cr) (loopOf Try.prog 3 4) fr M K := by
  intro fr M K hh
  unfold vc011 at hh
  split at hh
  · obtain ⟨hle, ⟨hkx, hky, he, hH⟩, hK, hZ⟩ := vLe_ok hh
    obtain ⟨ex0, ey0⟩ := two_nil he
    rw [frK_eq] at hK hZ
    obtain - := hH
    exact loop_pickR e3_ok mixed (by show 0 ≤ _; exact Nat.zero_le _) (by kernel_rfl) (I3011 du co pret lt nt ct prer lr nr cr) (N3011 du co pret lt nt ct prer lr nr cr) (fun _ => True) (fun _ => 0) (fun s => sel011 s.k s.m s.i) [] (mA011 du co pret lt nt ct prer lr nr cr) [(6, .b true)] (mA011 du co pret lt nt ct prer lr nr cr) ⟨0, 0, 0, _, _, _, _, _, _, _, _⟩ trivial noL (noL_ok _ _ _ _) (fun s hp => of_eq (rc011 du co pret lt nt ct prer lr nr cr s.k s.m s.i s.mx s.cx s.ex s.gx s.my s.cy s.ey s.gy _) ⟨rfl, ⟨rfl, rfl⟩, ⟨rfl, rfl⟩, trivial⟩) hle hK hZ
  · exact hh.elim
theorem loops_011 (du : Option Addr) (co : Nat) (pret : List Value) (lt : List Pk) (nt ct : Nat) (prer : List Value) (lr : List (Rc OF)) (nr cr : Nat) (hnt : nt ≤ lt.length) (hct : nt ≤ 140737488355328) (hot : okPk lt = true) (hnr : nr ≤ lr.length) : LOk Try.prog G (mA011 du co pret lt nt ct prer lr nr cr) 3 (L3011 du co pret lt nt ct prer lr nr cr 0 (zB 0 lt (min nt 200)) True) :=
  LT.add_ok (LT.add_ok (LT.add_ok (noL_ok _ _ _ _) (la_011 du co pret lt nt ct prer lr nr cr 0)) (lb_011 du co pret lt nt ct prer lr nr cr 0 hnt hct hot ⟨by decide, by decide⟩)) (lc_011 du co pret lt nt ct prer lr nr cr)
theorem law_011 (du : Option Addr) (co : Nat) (pret : List Value) (lt : List Pk) (nt ct : Nat) (prer : List Value) (lr : List (Rc OF)) (nr cr : Nat) (hnt : nt ≤ lt.length) (hct : nt ≤ 140737488355328) (hot : okPk lt = true) (hnr : nr ≤ lr.length) : Spec Try.prog G 3 [.v (.slice du 0 co), .rs 0 pret.length 0 9 nt ct, .rs 1 prer.length 0 1 nr cr] (mA011 du co pret lt nt ct prer lr nr cr) (fun r _ => r = .b true) := by
  refine vf_ok e3_ok mixed (loops_011 du co pret lt nt ct prer lr nr cr hnt hct hot hnr) (of_eq (v3011 du co pret lt nt ct prer lr nr cr _ _ _ _) ⟨rfl, rfl, rfl, rfl, rfl, rfl, ⟨rfl, rfl⟩, ⟨rfl, rfl⟩, rfl, rfl, rfl, rfl, rfl, rfl, ⟨rfl, rfl⟩, ⟨rfl, rfl⟩, ?_⟩)
  refine bif_c (fun _ => rfl) fun h2 => ?_
  have h2 : ¬ (20 : Int) < (nt : Int) := by have h2 : ilt 20 (nt : Int) = false := h2; rw [ilt_eq] at h2; exact of_decide_eq_false h2
  refine bif_c (fun _ => rfl) fun h3 => ?_
  have h3 : ¬ (16384 : Int) < (zB 0 lt (min nt 200)) := by have h3 : ilt 16384 (zB 0 lt (min nt 200)) = false := h3; rw [ilt_eq] at h3; exact of_decide_eq_false h3
  refine bif_c (fun _ => rfl) fun h4 => ?_
  exact fun x y => ⟨rfl, rfl, rfl, rfl, rfl, rfl, rfl, rfl, rfl, ⟨rfl, rfl⟩, ⟨rfl, rfl⟩, ⟨rfl, rfl⟩, ⟨rfl, rfl⟩, ⟨rfl, rfl⟩, ⟨rfl, rfl⟩, ⟨ok_empty x 0, ok_empty y 0, rfl, trivial⟩, rfl, rfl⟩
theorem la_100 (preo : List Value) (lo : List Pk) (no co : Nat) (dt : Option Addr) (ct : Nat) (dr : Option Addr) (cr : Nat) (z : Int) (hn : no ≤ lo.length) (hc : no ≤ 140737488355328) (ho : okPk lo = true) (hz : 0 ≤ z ∧ z ≤ 28147497671065600) : ∀ fr M K, vLoop (mA100 preo lo no co dt ct dr cr) 191 (ia100 preo lo no co dt ct dr cr z 0) (mA100 preo lo no co dt ct dr cr) (oa100 preo lo no co dt ct dr cr (zB z lo (min no 200))) (mA100 preo lo no co dt ct dr cr) fr M K → Wp Try.prog G (mA100 preo lo no co dt ct dr cr) (loopOf Try.prog 3 0) fr M K := by
  refine loop_next e3_ok mixed (noL_ok _ _ _ _) (by show 0 ≤ _; exact Nat.zero_le _) (by kernel_rfl) (fun i => ia100 preo lo no co dt ct dr cr (zB z lo i) i) (fun _ => (mA100 preo lo no co dt ct dr cr)) (fun i => i ≤ no ∧ i ≤ 200) (fun i => no - i) (fun i => i + 1) 0 ⟨Nat.zero_le _, Nat.zero_le _⟩ (fun i hp => of_eq (ra100 preo lo no co dt ct dr cr i _ _ _ _) ?_)
  obtain ⟨hp1, hp2⟩ := hp
  obtain ⟨hb1, hb2⟩ := zB_le (z := z) ho i
  have h2 := okPk_at ho i
  rw [show i + (preo.length - preo.length) / 9 = i by omega]
  cases hc : ilt (i : Int) (no : Int)
  · have := of_nilt hc
    exact ⟨rfl, rfl, rfl, rfl, congrArg (fun n => SV.i (zB z lo n)) (by omega), ⟨rfl, rfl⟩, trivial⟩
  · have hi := of_ilt hc
    show bif ilt (i : Int) 200 then _ else _
    cases hd : ilt (i : Int) 200
    · have : ¬ (i : Int) < 200 := by rw [ilt_eq] at hd; exact of_decide_eq_false hd
      exact ⟨rfl, rfl, rfl, rfl, congrArg (fun n => SV.i (zB z lo n)) (by omega), ⟨rfl, rfl⟩, trivial⟩
    · have h5 : (i : Int) < 200 := by rw [ilt_eq] at hd; exact of_decide_eq_true hd
      have hr := rok_p preo (show i < lo.length by omega)
      have hn : inR (i : Int) no = true := inR_iff.2 ⟨by omega, by omega⟩
      have h9 : inI (zB z lo i + ((pW (lo.getD i (rz PF)) : Nat) : Int)) = true := inI_iff.2 (by omega)
      exact bif_of hn (bif_of hr (bif_of h9 (bif_of (inI_iff.2 (by omega)) ⟨⟨⟨by omega, by omega⟩, by omega⟩, rfl, rfl, rfl, rfl, rfl, ⟨rfl, rfl⟩, trivial⟩)))
theorem lb_100 (preo : List Value) (lo : List Pk) (no co : Nat) (dt : Option Addr) (ct : Nat) (dr : Option Addr) (cr : Nat) (z : Int) : ∀ fr M K, vLoop (mA100 preo lo no co dt ct dr cr) 191 (ib100 preo lo no co dt ct dr cr z 0) (mA100 preo lo no co dt ct dr cr) (oa100 preo lo no co dt ct dr cr z) (mA100 preo lo no co dt ct dr cr) fr M K → Wp Try.prog G (mA100 preo lo no co dt ct dr cr) (loopOf Try.prog 3 2) fr M K :=
  loop_next e3_ok mixed (noL_ok _ _ _ _) (by show 0 ≤ _; exact Nat.zero_le _) (by kernel_rfl) (fun i => ib100 preo lo no co dt ct dr cr z i) (fun _ => (mA100 preo lo no co dt ct dr cr)) (fun _ => True) (fun _ => 0) (fun i => i + 1) 0 trivial (fun i hp => of_eq (rb100 preo lo no co dt ct dr cr i _ _ _ _) ⟨rfl, rfl, rfl, rfl, rfl, ⟨rfl, rfl⟩, trivial⟩)
theorem lc_100 (preo : List Value) (lo : List Pk) (no co : Nat) (dt : Option Addr) (ct : Nat) (dr : Option Addr) (cr : Nat) (hno : no ≤ lo.length) : ∀ fr M K, vc100 preo lo no co dt ct dr cr (no ≤ 60 ∧ (∀ j, j < no → pW (lo.getD j (rz PF)) ≤ 16384)) fr M K → Wp Try.prog G (mA100 preo lo no co dt ct dr cr) (loopOf Try.prog 3 4) fr M K := by
  intro fr M K hh
  unfold vc100 at hh
  split at hh
  · obtain ⟨hle, ⟨hkx, hky, he, hH⟩, hK, hZ⟩ := vLe_ok hh
    obtain ⟨ex0, ey0⟩ := two_nil he
    rw [frK_eq] at hK hZ
    obtain ⟨hbo, hwo⟩ := hH
    exact loop_pickR e3_ok mixed (by show 0 ≤ _; exact Nat.zero_le _) (by kernel_rfl) (I3100 preo lo no co dt ct dr cr) (N3100 preo lo no co dt ct dr cr) (P3 no 0) (mu3 no 0) (fun s => sel100 s.k s.m s.i) [] (mA100 preo lo no co dt ct dr cr) [(6, .b true)] (mA100 preo lo no co dt ct dr cr) ⟨0, 0, 0, _, _, _, _, _, _, _, _⟩ ⟨Nat.zero_le _, Nat.zero_le _, rfl, sim0 hkx hky ex0 ey0⟩ noL (noL_ok _ _ _ _) (fun s hp => round_100 preo lo no co dt ct dr cr s hno hbo hwo hp) hle hK hZ
  · exact hh.elim
theorem loops_100 (preo : List Value) (lo : List Pk) (no co : Nat) (dt : Option Addr) (ct : Nat) (dr : Option Addr) (cr : Nat) (hno : no ≤ lo.length) (hco : no ≤ 140737488355328) (hoo : okPk lo = true) : LOk Try.prog G (mA100 preo lo no co dt ct dr cr) 3 (L3100 preo lo no co dt ct dr cr (zB 0 lo (min no 200)) (zB 0 lo (min no 200)) (no ≤ 60 ∧ (∀ j, j < no → pW (lo.getD j (rz PF)) ≤ 16384))) :=
  LT.add_ok (LT.add_ok (LT.add_ok (noL_ok _ _ _ _) (la_100 preo lo no co dt ct dr cr 0 hno hco hoo ⟨by decide, by decide⟩)) (lb_100 preo lo no co dt ct dr cr (zB 0 lo (min no 200)))) (lc_100 preo lo no co dt ct dr cr hno)
theorem law_100 (preo : List Value) (lo : List Pk) (no co : Nat) (dt : Option Addr) (ct : Nat) (dr : Option Addr) (cr : Nat) (hno : no ≤ lo.length) (hco : no ≤ 140737488355328) (hoo : okPk lo = true) : Spec Try.prog G 3 [.rs 0 preo.length 0 9 no co, .v (.slice dt 0 ct), .v (.slice dr 0 cr)] (mA100 preo lo no co dt ct dr cr) (fun r _ => r = .b true) := by
  refine vf_ok e3_ok mixed (loops_100 preo lo no co dt ct dr cr hno hco hoo) (of_eq (v3100 preo lo no co dt ct dr cr _ _ _ _) ⟨rfl, rfl, rfl, rfl, rfl, rfl, ⟨rfl, rfl⟩, rfl, rfl, rfl, rfl, rfl, rfl, ⟨rfl, rfl⟩, ?_⟩)
  refine bif_c (fun _ => rfl) fun h1 => ?_
  have h1 : ¬ (60 : Int) < (no : Int) := by have h1 : ilt 60 (no : Int) = false := h1; rw [ilt_eq] at h1; exact of_decide_eq_false h1
  refine bif_c (fun _ => rfl) fun h3 => ?_
  have h3 : ¬ (16384 : Int) < (zB 0 lo (min no 200)) := by have h3 : ilt 16384 (zB 0 lo (min no 200)) = false := h3; rw [ilt_eq] at h3; exact of_decide_eq_false h3
  rw [zB_eq _ lo, Nat.min_eq_left (show no ≤ 200 by omega)] at h3
  exact fun x y => ⟨rfl, rfl, rfl, rfl, rfl, rfl, rfl, rfl, rfl, ⟨rfl, rfl⟩, ⟨rfl, rfl⟩, ⟨rfl, rfl⟩, ⟨rfl, rfl⟩, ⟨rfl, rfl⟩, ⟨ok_empty x 0, ok_empty y 0, rfl, ⟨by omega, fun j hj => by have := pN_at lo j no hj; omega⟩⟩, rfl, rfl⟩
theorem la_101 (preo : List Value) (lo : List Pk) (no co : Nat) (dt : Option Addr) (ct : Nat) (prer : List Value) (lr : List (Rc OF)) (nr cr : Nat) (z : Int) (hn : no ≤ lo.length) (hc : no ≤ 140737488355328) (ho : okPk lo = true) (hz : 0 ≤ z ∧ z ≤ 28147497671065600) : ∀ fr M K, vLoop (mA101 preo lo no co dt ct prer lr nr cr) 191 (ia101 preo lo no co dt ct prer lr nr cr z 0) (mA101 preo lo no co dt ct prer lr nr cr) (oa101 preo lo no co dt ct prer lr nr cr (zB z lo (min no 200))) (mA101 preo lo no co dt ct prer lr nr cr) fr M K → Wp Try.prog G (mA101 preo lo no co dt ct prer lr nr cr) (loopOf Try.prog 3 0) fr M K := by
  refine loop_next e3_ok mixed (noL_ok _ _ _ _) (by show 0 ≤ _; exact Nat.zero_le _) (by kernel_rfl) (fun i => ia101 preo lo no co dt ct prer lr nr cr (zB z lo i) i) (fun _ => (mA101 preo lo no co dt ct prer lr nr cr)) (fun i => i ≤ no ∧ i ≤ 200) (fun i => no - i) (fun i => i + 1) 0 ⟨Nat.zero_le _, Nat.zero_le _⟩ (fun i hp => of_eq (ra101 preo lo no co dt ct prer lr nr cr i _ _ _ _) ?_)
  obtain ⟨hp1, hp2⟩ := hp
  obtain ⟨hb1, hb2⟩ := zB_le (z := z) ho i
  have h2 := okPk_at ho i
  rw [show i + (preo.length - preo.length) / 9 = i by omega]
  cases hc : ilt (i : Int) (no : Int)
  · have := of_nilt hc
    exact ⟨rfl, rfl, rfl, rfl, congrArg (fun n => SV.i (zB z lo n)) (by omega), ⟨rfl, rfl⟩, ⟨rfl, rfl⟩, trivial⟩
  · have hi := of_ilt hc
    show bif ilt (i : Int) 200 then _ else _
    cases hd : ilt (i : Int) 200
    · have : ¬ (i : Int) < 200 := by rw [ilt_eq] at hd; exact of_decide_eq_false hd
      exact ⟨rfl, rfl, rfl, rfl, congrArg (fun n => SV.i (zB z lo n)) (by omega), ⟨rfl, rfl⟩, ⟨rfl, rfl⟩, trivial⟩
    · have h5 : (i : Int) < 200 := by rw [ilt_eq] at hd; exact of_decide_eq_true hd
      have hr := rok_p preo (show i < lo.length by omega)
      have hn : inR (i : Int) no = true := inR_iff.2 ⟨by omega, by omega⟩
      have h9 : inI (zB z lo i + ((pW (lo.getD i (rz PF)) : Nat) : Int)) = true := inI_iff.2 (by omega)
      exact bif_of hn (bif_of hr (bif_of h9 (bif_of (inI_iff.2 (by omega)) ⟨⟨⟨by omega, by omega⟩, by omega⟩, rfl, rfl, rfl, rfl, rfl, ⟨rfl, rfl⟩, ⟨rfl, rfl⟩, trivial⟩)))
theorem lb_101 (preo : List Value) (lo : List Pk) (no co : Nat) (dt : Option Addr) (ct : Nat) (prer : List Value) (lr : List (Rc OF)) (nr cr : Nat) (z : Int) : ∀ fr M K, vLoop (mA101 preo lo no co dt ct prer lr nr cr) 191 (ib101 preo lo no co dt ct prer lr nr cr z 0) (mA101 preo lo no co dt ct prer lr nr cr) (oa101 preo lo no co dt ct prer lr nr cr z) (mA101 preo lo no co dt ct prer lr nr cr) fr M K → Wp Try.prog G (mA101 preo lo no co dt ct prer lr nr cr) (loopOf Try.prog 3 2) fr M K :=
  loop_next e3_ok mixed (noL_ok _ _ _ _) (by show 0 ≤ _; exact Nat.zero_le _) (by kernel_rfl) (fun i => ib101 preo lo no co dt ct prer lr nr cr z i) (fun _ => (mA101 preo lo no co dt ct prer lr nr cr)) (fun _ => True) (fun _ => 0) (fun i => i + 1) 0 trivial (fun i hp => of_eq (rb101 preo lo no co dt ct prer lr nr cr i _ _ _ _) ⟨rfl, rfl, rfl, rfl, rfl, ⟨rfl, rfl⟩, ⟨rfl, rfl⟩, trivial⟩)
theorem lc_101 (preo : List Value) (lo : List Pk) (no co : Nat) (dt : Option Addr) (ct : Nat) (prer : List Value) (lr : List (Rc OF)) (nr cr : Nat) (hno : no ≤ lo.length) (hnr : nr ≤ lr.length) : ∀ fr M K, vc101 preo lo no co dt ct prer lr nr cr (no ≤ 60 ∧ (∀ j, j < no → pW (lo.getD j (rz PF)) ≤ 16384)) fr M K → Wp Try.prog G (mA101 preo lo no co dt ct prer lr nr cr) (loopOf Try.prog 3 4) fr M K := by
  intro fr M K hh
  unfold vc101 at hh
  split at hh
  · obtain ⟨hle, ⟨hkx, hky, he, hH⟩, hK, hZ⟩ := vLe_ok hh
    obtain ⟨ex0, ey0⟩ := two_nil he
    rw [frK_eq] at hK hZ
    obtain ⟨hbo, hwo⟩ := hH
    exact loop_pickR e3_ok mixed (by show 0 ≤ _; exact Nat.zero_le _) (by kernel_rfl) (I3101 preo lo no co dt ct prer lr nr cr) (N3101 preo lo no co dt ct prer lr nr cr) (P3 no 0) (mu3 no 0) (fun s => sel101 s.k s.m s.i) [] (mA101 preo lo no co dt ct prer lr nr cr) [(6, .b true)] (mA101 preo lo no co dt ct prer lr nr cr) ⟨0, 0, 0, _, _, _, _, _, _, _, _⟩ ⟨Nat.zero_le _, Nat.zero_le _, rfl, sim0 hkx hky ex0 ey0⟩ noL (noL_ok _ _ _ _) (fun s hp => round_101 preo lo no co dt ct prer lr nr cr s hno hbo hwo hp) hle hK hZ
  · exact hh.elim
theorem loops_101 (preo : List Value) (lo : List Pk) (no co : Nat) (dt : Option Addr) (ct : Nat) (prer : List Value) (lr : List (Rc OF)) (nr cr : Nat) (hno : no ≤ lo.length) (hco : no ≤ 140737488355328) (hoo : okPk lo = true) (hnr : nr ≤ lr.length) : LOk Try.prog G (mA101 preo lo no co dt ct prer lr nr cr) 3 (L3101 preo lo no co dt ct prer lr nr cr (zB 0 lo (min no 200)) (zB 0 lo (min no 200)) (no ≤ 60 ∧ (∀ j, j < no → pW (lo.getD j (rz PF)) ≤ 16384))) :=
  LT.add_ok (LT.add_ok (LT.add_ok (noL_ok _ _ _ _) (la_101 preo lo no co dt ct prer lr nr cr 0 hno hco hoo ⟨by decide, by decide⟩)) (lb_101 preo lo no co dt ct prer lr nr cr (zB 0 lo (min no 200)))) (lc_101 preo lo no co dt ct prer lr nr cr hno hnr)
theorem law_101 (preo : List Value) (lo : List Pk) (no co : Nat) (dt : Option Addr) (ct : Nat) (prer : List Value) (lr : List (Rc OF)) (nr cr : Nat) (hno : no ≤ lo.length) (hco : no ≤ 140737488355328) (hoo : okPk lo = true) (hnr : nr ≤ lr.length) : Spec Try.prog G 3 [.rs 0 preo.length 0 9 no co, .v (.slice dt 0 ct), .rs 1 prer.length 0 1 nr cr] (mA101 preo lo no co dt ct prer lr nr cr) (fun r _ => r = .b true) := by
  refine vf_ok e3_ok mixed (loops_101 preo lo no co dt ct prer lr nr cr hno hco hoo hnr) (of_eq (v3101 preo lo no co dt ct prer lr nr cr _ _ _ _) ⟨rfl, rfl, rfl, rfl, rfl, rfl, ⟨rfl, rfl⟩, ⟨rfl, rfl⟩, rfl, rfl, rfl, rfl, rfl, rfl, ⟨rfl, rfl⟩, ⟨rfl, rfl⟩, ?_⟩)
  refine bif_c (fun _ => rfl) fun h1 => ?_
  have h1 : ¬ (60 : Int) < (no : Int) := by have h1 : ilt 60 (no : Int) = false := h1; rw [ilt_eq] at h1; exact of_decide_eq_false h1
  refine bif_c (fun _ => rfl) fun h3 => ?_
  have h3 : ¬ (16384 : Int) < (zB 0 lo (min no 200)) := by have h3 : ilt 16384 (zB 0 lo (min no 200)) = false := h3; rw [ilt_eq] at h3; exact of_decide_eq_false h3
  refine bif_c (fun _ => rfl) fun h4 => ?_
  rw [zB_eq _ lo, Nat.min_eq_left (show no ≤ 200 by omega)] at h3
  exact fun x y => ⟨rfl, rfl, rfl, rfl, rfl, rfl, rfl, rfl, rfl, ⟨rfl, rfl⟩, ⟨rfl, rfl⟩, ⟨rfl, rfl⟩, ⟨rfl, rfl⟩, ⟨rfl, rfl⟩, ⟨rfl, rfl⟩, ⟨ok_empty x 0, ok_empty y 0, rfl, ⟨by omega, fun j hj => by have := pN_at lo j no hj; omega⟩⟩, rfl, rfl⟩
theorem la_110 (preo : List Value) (lo : List Pk) (no co : Nat) (pret : List Value) (lt : List Pk) (nt ct : Nat) (dr : Option Addr) (cr : Nat) (z : Int) (hn : no ≤ lo.length) (hc : no ≤ 140737488355328) (ho : okPk lo = true) (hz : 0 ≤ z ∧ z ≤ 28147497671065600) : ∀ fr M K, vLoop (mA110 preo lo no co pret lt nt ct dr cr) 191 (ia110 preo lo no co pret lt nt ct dr cr z 0) (mA110 preo lo no co pret lt nt ct dr cr) (oa110 preo lo no co pret lt nt ct dr cr (zB z lo (min no 200))) (mA110 preo lo no co pret lt nt ct dr cr) fr M K → Wp Try.prog G (mA110 preo lo no co pret lt nt ct dr cr) (loopOf Try.prog 3 0) fr M K := by
  refine loop_next e3_ok mixed (noL_ok _ _ _ _) (by show 0 ≤ _; exact Nat.zero_le _) (by kernel_rfl) (fun i => ia110 preo lo no co pret lt nt ct dr cr (zB z lo i) i) (fun _ => (mA110 preo lo no co pret lt nt ct dr cr)) (fun i => i ≤ no ∧ i ≤ 200) (fun i => no - i) (fun i => i + 1) 0 ⟨Nat.zero_le _, Nat.zero_le _⟩ (fun i hp => of_eq (ra110 preo lo no co pret lt nt ct dr cr i _ _ _ _) ?_)
  obtain ⟨hp1, hp2⟩ := hp
  obtain ⟨hb1, hb2⟩ := zB_le (z := z) ho i
  have h2 := okPk_at ho i
  rw [show i + (preo.length - preo.length) / 9 = i by omega]
  cases hc : ilt (i : Int) (no : Int)
  · have := of_nilt hc
    exact ⟨rfl, rfl, rfl, rfl, congrArg (fun n => SV.i (zB z lo n)) (by omega), ⟨rfl, rfl⟩, ⟨rfl, rfl⟩, trivial⟩
  · have hi := of_ilt hc
    show bif ilt (i : Int) 200 then _ else _
    cases hd : ilt (i : Int) 200
    · have : ¬ (i : Int) < 200 := by rw [ilt_eq] at hd; exact of_decide_eq_false hd
      exact ⟨rfl, rfl, rfl, rfl, congrArg (fun n => SV.i (zB z lo n)) (by omega), ⟨rfl, rfl⟩, ⟨rfl, rfl⟩, trivial⟩
    · have h5 : (i : Int) < 200 := by rw [ilt_eq] at hd; exact of_decide_eq_true hd
      have hr := rok_p preo (show i < lo.length by omega)
      have hn : inR (i : Int) no = true := inR_iff.2 ⟨by omega, by omega⟩
      have h9 : inI (zB z lo i + ((pW (lo.getD i (rz PF)) : Nat) : Int)) = true := inI_iff.2 (by omega)
      exact bif_of hn (bif_of hr (bif_of h9 (bif_of (inI_iff.2 (by omega)) ⟨⟨⟨by omega, by omega⟩, by omega⟩, rfl, rfl, rfl, rfl, rfl, ⟨rfl, rfl⟩, ⟨rfl, rfl⟩, trivial⟩)))
theorem lb_110 (preo : List Value) (lo : List Pk) (no co : Nat) (pret : List Value) (lt : List Pk) (nt ct : Nat) (dr : Option Addr) (cr : Nat) (z : Int) (hn : nt ≤ lt.length) (hc : nt ≤ 140737488355328) (ho : okPk lt = true) (hz : 0 ≤ z ∧ z ≤ 28147497671065600) : ∀ fr M K, vLoop (mA110 preo lo no co pret lt nt ct dr cr) 191 (ib110 preo lo no co pret lt nt ct dr cr z 0) (mA110 preo lo no co pret lt nt ct dr cr) (oa110 preo lo no co pret lt nt ct dr cr (zB z lt (min nt 200))) (mA110 preo lo no co pret lt nt ct dr cr) fr M K → Wp Try.prog G (mA110 preo lo no co pret lt nt ct dr cr) (loopOf Try.prog 3 2) fr M K := by
  refine loop_next e3_ok mixed (noL_ok _ _ _ _) (by show 0 ≤ _; exact Nat.zero_le _) (by kernel_rfl) (fun i => ib110 preo lo no co pret lt nt ct dr cr (zB z lt i) i) (fun _ => (mA110 preo lo no co pret lt nt ct dr cr)) (fun i => i ≤ nt ∧ i ≤ 200) (fun i => nt - i) (fun i => i + 1) 0 ⟨Nat.zero_le _, Nat.zero_le _⟩ (fun i hp => of_eq (rb110 preo lo no co pret lt nt ct dr cr i _ _ _ _) ?_)
  obtain ⟨hp1, hp2⟩ := hp
  obtain ⟨hb1, hb2⟩ := zB_le (z := z) ho i
  have h2 := okPk_at ho i
  rw [show i + (pret.length - pret.length) / 9 = i by omega]
  cases hc : ilt (i : Int) (nt : Int)
  · have := of_nilt hc
    exact ⟨rfl, rfl, rfl, rfl, congrArg (fun n => SV.i (zB z lt n)) (by omega), ⟨rfl, rfl⟩, ⟨rfl, rfl⟩, trivial⟩
  · have hi := of_ilt hc
    show bif ilt (i : Int) 200 then _ else _
    cases hd : ilt (i : Int) 200
    · have : ¬ (i : Int) < 200 := by rw [ilt_eq] at hd; exact of_decide_eq_false hd
      exact ⟨rfl, rfl, rfl, rfl, congrArg (fun n => SV.i (zB z lt n)) (by omega), ⟨rfl, rfl⟩, ⟨rfl, rfl⟩, trivial⟩
    · have h5 : (i : Int) < 200 := by rw [ilt_eq] at hd; exact of_decide_eq_true hd
      have hr := rok_p pret (show i < lt.length by omega)
      have hn : inR (i : Int) nt = true := inR_iff.2 ⟨by omega, by omega⟩
      have h9 : inI (zB z lt i + ((pW (lt.getD i (rz PF)) : Nat) : Int)) = true := inI_iff.2 (by omega)
      exact bif_of hn (bif_of hr (bif_of h9 (bif_of (inI_iff.2 (by omega)) ⟨⟨⟨by omega, by omega⟩, by omega⟩, rfl, rfl, rfl, rfl, rfl, ⟨rfl, rfl⟩, ⟨rfl, rfl⟩, trivial⟩)))
theorem lc_110 (preo : List Value) (lo : List Pk) (no co : Nat) (pret : List Value) (lt : List Pk) (nt ct : Nat) (dr : Option Addr) (cr : Nat) (hno : no ≤ lo.length) (hnt : nt ≤ lt.length) : ∀ fr M K, vc110 preo lo no co pret lt nt ct dr cr (no ≤ 60 ∧ (∀ j, j < no → pW (lo.getD j (rz PF)) ≤ 16384) ∧ nt ≤ 20 ∧ (∀ j, j < nt → pW (lt.getD j (rz PF)) ≤ 16384)) fr M K → Wp Try.prog G (mA110 preo lo no co pret lt nt ct dr cr) (loopOf Try.prog 3 4) fr M K := by
  intro fr M K hh
  unfold vc110 at hh
  split at hh
  · obtain ⟨hle, ⟨hkx, hky, he, hH⟩, hK, hZ⟩ := vLe_ok hh
    obtain ⟨ex0, ey0⟩ := two_nil he
    rw [frK_eq] at hK hZ
    obtain ⟨hbo, hwo, hbt, hwt⟩ := hH
    exact loop_pickR e3_ok mixed (by show 0 ≤ _; exact Nat.zero_le _) (by kernel_rfl) (I3110 preo lo no co pret lt nt ct dr cr) (N3110 preo lo no co pret lt nt ct dr cr) (P3 no nt) (mu3 no nt) (fun s => sel110 s.k s.m s.i) [] (mA110 preo lo no co pret lt nt ct dr cr) [(6, .b true)] (mA110 preo lo no co pret lt nt ct dr cr) ⟨0, 0, 0, _, _, _, _, _, _, _, _⟩ ⟨Nat.zero_le _, Nat.zero_le _, rfl, sim0 hkx hky ex0 ey0⟩ noL (noL_ok _ _ _ _) (fun s hp => round_110 preo lo no co pret lt nt ct dr cr s hno hbo hwo hnt hbt hwt hp) hle hK hZ
  · exact hh.elim
theorem loops_110 (preo : List Value) (lo : List Pk) (no co : Nat) (pret : List Value) (lt : List Pk) (nt ct : Nat) (dr : Option Addr) (cr : Nat) (hno : no ≤ lo.length) (hco : no ≤ 140737488355328) (hoo : okPk lo = true) (hnt : nt ≤ lt.length) (hct : nt ≤ 140737488355328) (hot : okPk lt = true) : LOk Try.prog G (mA110 preo lo no co pret lt nt ct dr cr) 3 (L3110 preo lo no co pret lt nt ct dr cr (zB 0 lo (min no 200)) (zB (zB 0 lo (min no 200)) lt (min nt 200)) (no ≤ 60 ∧ (∀ j, j < no → pW (lo.getD j (rz PF)) ≤ 16384) ∧ nt ≤ 20 ∧ (∀ j, j < nt → pW (lt.getD j (rz PF)) ≤ 16384))) :=
  LT.add_ok (LT.add_ok (LT.add_ok (noL_ok _ _ _ _) (la_110 preo lo no co pret lt nt ct dr cr 0 hno hco hoo ⟨by decide, by decide⟩)) (lb_110 preo lo no co pret lt nt ct dr cr (zB 0 lo (min no 200)) hnt hct hot ⟨(zB_le hoo _).1, by have := (zB_le (z := 0) hoo (min no 200)).2; omega⟩)) (lc_110 preo lo no co pret lt nt ct dr cr hno hnt)
theorem law_110 (preo : List Value) (lo : List Pk) (no co : Nat) (pret : List Value) (lt : List Pk) (nt ct : Nat) (dr : Option Addr) (cr : Nat) (hno : no ≤ lo.length) (hco : no ≤ 140737488355328) (hoo : okPk lo = true) (hnt : nt ≤ lt.length) (hct : nt ≤ 140737488355328) (hot : okPk lt = true) : Spec Try.prog G 3 [.rs 0 preo.length 0 9 no co, .rs 1 pret.length 0 9 nt ct, .v (.slice dr 0 cr)] (mA110 preo lo no co pret lt nt ct dr cr) (fun r _ => r = .b true) := by
  refine vf_ok e3_ok mixed (loops_110 preo lo no co pret lt nt ct dr cr hno hco hoo hnt hct hot) (of_eq (v3110 preo lo no co pret lt nt ct dr cr _ _ _ _) ⟨rfl, rfl, rfl, rfl, rfl, rfl, ⟨rfl, rfl⟩, ⟨rfl, rfl⟩, rfl, rfl, rfl, rfl, rfl, rfl, ⟨rfl, rfl⟩, ⟨rfl, rfl⟩, ?_⟩)
  refine bif_c (fun _ => rfl) fun h1 => ?_
  have h1 : ¬ (60 : Int) < (no : Int) := by have h1 : ilt 60 (no : Int) = false := h1; rw [ilt_eq] at h1; exact of_decide_eq_false h1
  refine bif_c (fun _ => rfl) fun h2 => ?_
  have h2 : ¬ (20 : Int) < (nt : Int) := by have h2 : ilt 20 (nt : Int) = false := h2; rw [ilt_eq] at h2; exact of_decide_eq_false h2
  refine bif_c (fun _ => rfl) fun h3 => ?_
  have h3 : ¬ (16384 : Int) < (zB (zB 0 lo (min no 200)) lt (min nt 200)) := by have h3 : ilt 16384 (zB (zB 0 lo (min no 200)) lt (min nt 200)) = false := h3; rw [ilt_eq] at h3; exact of_decide_eq_false h3
  rw [zB_eq _ lt, zB_eq _ lo, Nat.min_eq_left (show no ≤ 200 by omega), Nat.min_eq_left (show nt ≤ 200 by omega)] at h3
  exact fun x y => ⟨rfl, rfl, rfl, rfl, rfl, rfl, rfl, rfl, rfl, ⟨rfl, rfl⟩, ⟨rfl, rfl⟩, ⟨rfl, rfl⟩, ⟨rfl, rfl⟩, ⟨rfl, rfl⟩, ⟨rfl, rfl⟩, ⟨ok_empty x 0, ok_empty y 0, rfl, ⟨by omega, fun j hj => by have := pN_at lo j no hj; omega, by omega, fun j hj => by have := pN_at lt j nt hj; omega⟩⟩, rfl, rfl⟩
theorem la_111 (preo : List Value) (lo : List Pk) (no co : Nat) (pret : List Value) (lt : List Pk) (nt ct : Nat) (prer : List Value) (lr : List (Rc OF)) (nr cr : Nat) (z : Int) (hn : no ≤ lo.length) (hc : no ≤ 140737488355328) (ho : okPk lo = true) (hz : 0 ≤ z ∧ z ≤ 28147497671065600) : ∀ fr M K, vLoop (mA111 preo lo no co pret lt nt ct prer lr nr cr) 191 (ia111 preo lo no co pret lt nt ct prer lr nr cr z 0) (mA111 preo lo no co pret lt nt ct prer lr nr cr) (oa111 preo lo no co pret lt nt ct prer lr nr cr (zB z lo (min no 200))) (mA111 preo lo no co pret lt nt ct prer lr nr cr) fr M K → Wp Try.prog G (mA111 preo lo no co pret lt nt ct prer lr nr cr) (loopOf Try.prog 3 0) fr M K := by
  refine loop_next e3_ok mixed (noL_ok _ _ _ _) (by show 0 ≤ _; exact Nat.zero_le _) (by kernel_rfl) (fun i => ia111 preo lo no co pret lt nt ct prer lr nr cr (zB z lo i) i) (fun _ => (mA111 preo lo no co pret lt nt ct prer lr nr cr)) (fun i => i ≤ no ∧ i ≤ 200) (fun i => no - i) (fun i => i + 1) 0 ⟨Nat.zero_le _, Nat.zero_le _⟩ (fun i hp => of_eq (ra111 preo lo no co pret lt nt ct prer lr nr cr i _ _ _ _) ?_)
  obtain ⟨hp1, hp2⟩ := hp
  obtain ⟨hb1, hb2⟩ := zB_le (z := z) ho i
  have h2 := okPk_at ho i
  rw [show i + (preo.length - preo.length) / 9 = i by omega]
  cases hc : ilt (i : Int) (no : Int)
  · have := of_nilt hc
    exact ⟨rfl, rfl, rfl, rfl, congrArg (fun n => SV.i (zB z lo n)) (by omega), ⟨rfl, rfl⟩, ⟨rfl, rfl⟩, ⟨rfl, rfl⟩, trivial⟩
  · have hi := of_ilt hc
    show bif ilt (i : Int) 200 then _ else _
    cases hd : ilt (i : Int) 200
    · have : ¬ (i : Int) < 200 := by rw [ilt_eq] at hd; exact of_decide_eq_false hd
      exact ⟨rfl, rfl, rfl, rfl, congrArg (fun n => SV.i (zB z lo n)) (by omega), ⟨rfl, rfl⟩, ⟨rfl, rfl⟩, ⟨rfl, rfl⟩, trivial⟩
    · have h5 : (i : Int) < 200 := by rw [ilt_eq] at hd; exact of_decide_eq_true hd
      have hr := rok_p preo (show i < lo.length by omega)
      have hn : inR (i : Int) no = true := inR_iff.2 ⟨by omega, by omega⟩
      have h9 : inI (zB z lo i + ((pW (lo.getD i (rz PF)) : Nat) : Int)) = true := inI_iff.2 (by omega)
      exact bif_of hn (bif_of hr (bif_of h9 (bif_of (inI_iff.2 (by omega)) ⟨⟨⟨by omega, by omega⟩, by omega⟩, rfl, rfl, rfl, rfl, rfl, ⟨rfl, rfl⟩, ⟨rfl, rfl⟩, ⟨rfl, rfl⟩, trivial⟩)))
theorem lb_111 (preo : List Value) (lo : List Pk) (no co : Nat) (pret : List Value) (lt : List Pk) (nt ct : Nat) (prer : List Value) (lr : List (Rc OF)) (nr cr : Nat) (z : Int) (hn : nt ≤ lt.length) (hc : nt ≤ 140737488355328) (ho : okPk lt = true) (hz : 0 ≤ z ∧ z ≤ 28147497671065600) : ∀ fr M K, vLoop (mA111 preo lo no co pret lt nt ct prer lr nr cr) 191 (ib111 preo lo no co pret lt nt ct prer lr nr cr z 0) (mA111 preo lo no co pret lt nt ct prer lr nr cr) (oa111 preo lo no co pret lt nt ct prer lr nr cr (zB z lt (min nt 200))) (mA111 preo lo no co pret lt nt ct prer lr nr cr) fr M K → Wp Try.prog G (mA111 preo lo no co pret lt nt ct prer lr nr cr) (loopOf Try.prog 3 2) fr M K := by
  refine loop_next e3_ok mixed (noL_ok _ _ _ _) (by show 0 ≤ _; exact Nat.zero_le _) (by kernel_rfl) (fun i => ib111 preo lo no co pret lt nt ct prer lr nr cr (zB z lt i) i) (fun _ => (mA111 preo lo no co pret lt nt ct prer lr nr cr)) (fun i => i ≤ nt ∧ i ≤ 200) (fun i => nt - i) (fun i => i + 1) 0 ⟨Nat.zero_le _, Nat.zero_le _⟩ (fun i hp => of_eq (rb111 preo lo no co pret lt nt ct prer lr nr cr i _ _ _ _) ?_)
  obtain ⟨hp1, hp2⟩ := hp
  obtain ⟨hb1, hb2⟩ := zB_le (z := z) ho i
  have h2 := okPk_at ho i
  rw [show i + (pret.length - pret.length) / 9 = i by omega]
  cases hc : ilt (i : Int) (nt : Int)
  · have := of_nilt hc
    exact ⟨rfl, rfl, rfl, rfl, congrArg (fun n => SV.i (zB z lt n)) (by omega), ⟨rfl, rfl⟩, ⟨rfl, rfl⟩, ⟨rfl, rfl⟩, trivial⟩
  · have hi := of_ilt hc
    show bif ilt (i : Int) 200 then _ else _
    cases hd : ilt (i : Int) 200
    · have : ¬ (i : Int) < 200 := by rw [ilt_eq] at hd; exact of_decide_eq_false hd
      exact ⟨rfl, rfl, rfl, rfl, congrArg (fun n => SV.i (zB z lt n)) (by omega), ⟨rfl, rfl⟩, ⟨rfl, rfl⟩, ⟨rfl, rfl⟩, trivial⟩
    · have h5 : (i : Int) < 200 := by rw [ilt_eq] at hd; exact of_decide_eq_true hd
      have hr := rok_p pret (show i < lt.length by omega)
      have hn : inR (i : Int) nt = true := inR_iff.2 ⟨by omega, by omega⟩
      have h9 : inI (zB z lt i + ((pW (lt.getD i (rz PF)) : Nat) : Int)) = true := inI_iff.2 (by omega)
      exact bif_of hn (bif_of hr (bif_of h9 (bif_of (inI_iff.2 (by omega)) ⟨⟨⟨by omega, by omega⟩, by omega⟩, rfl, rfl, rfl, rfl, rfl, ⟨rfl, rfl⟩, ⟨rfl, rfl⟩, ⟨rfl, rfl⟩, trivial⟩)))
theorem lc_111 (preo : List Value) (lo : List Pk) (no co : Nat) (pret : List Value) (lt : List Pk) (nt ct : Nat) (prer : List Value) (lr : List (Rc OF)) (nr cr : Nat) (hno : no ≤ lo.length) (hnt : nt ≤ lt.length) (hnr : nr ≤ lr.length) : ∀ fr M K, vc111 preo lo no co pret lt nt ct prer lr nr cr (no ≤ 60 ∧ (∀ j, j < no → pW (lo.getD j (rz PF)) ≤ 16384) ∧ nt ≤ 20 ∧ (∀ j, j < nt → pW (lt.getD j (rz PF)) ≤ 16384)) fr M K → Wp Try.prog G (mA111 preo lo no co pret lt nt ct prer lr nr cr) (loopOf Try.prog 3 4) fr M K := by
  intro fr M K hh
  unfold vc111 at hh
  split at hh
  · obtain ⟨hle, ⟨hkx, hky, he, hH⟩, hK, hZ⟩ := vLe_ok hh
    obtain ⟨ex0, ey0⟩ := two_nil he
    rw [frK_eq] at hK hZ
    obtain ⟨hbo, hwo, hbt, hwt⟩ := hH
    exact loop_pickR e3_ok mixed (by show 0 ≤ _; exact Nat.zero_le _) (by kernel_rfl) (I3111 preo lo no co pret lt nt ct prer lr nr cr) (N3111 preo lo no co pret lt nt ct prer lr nr cr) (P3 no nt) (mu3 no nt) (fun s => sel111 s.k s.m s.i) [] (mA111 preo lo no co pret lt nt ct prer lr nr cr) [(6, .b true)] (mA111 preo lo no co pret lt nt ct prer lr nr cr) ⟨0, 0, 0, _, _, _, _, _, _, _, _⟩ ⟨Nat.zero_le _, Nat.zero_le _, rfl, sim0 hkx hky ex0 ey0⟩ noL (noL_ok _ _ _ _) (fun s hp => round_111 preo lo no co pret lt nt ct prer lr nr cr s hno hbo hwo hnt hbt hwt hnr hp) hle hK hZ
  · exact hh.elim
theorem loops_111 (preo : List Value) (lo : List Pk) (no co : Nat) (pret : List Value) (lt : List Pk) (nt ct : Nat) (prer : List Value) (lr : List (Rc OF)) (nr cr : Nat) (hno : no ≤ lo.length) (hco : no ≤ 140737488355328) (hoo : okPk lo = true) (hnt : nt ≤ lt.length) (hct : nt ≤ 140737488355328) (hot : okPk lt = true) (hnr : nr ≤ lr.length) : LOk Try.prog G (mA111 preo lo no co pret lt nt ct prer lr nr cr) 3 (L3111 preo lo no co pret lt nt ct prer lr nr cr (zB 0 lo (min no 200)) (zB (zB 0 lo (min no 200)) lt (min nt 200)) (no ≤ 60 ∧ (∀ j, j < no → pW (lo.getD j (rz PF)) ≤ 16384) ∧ nt ≤ 20 ∧ (∀ j, j < nt → pW (lt.getD j (rz PF)) ≤ 16384))) :=
  LT.add_ok (LT.add_ok (LT.add_ok (noL_ok _ _ _ _) (la_111 preo lo no co pret lt nt ct prer lr nr cr 0 hno hco hoo ⟨by decide, by decide⟩)) (lb_111 preo lo no co pret lt nt ct prer lr nr cr (zB 0 lo (min no 200)) hnt hct hot ⟨(zB_le hoo _).1, by have := (zB_le (z := 0) hoo (min no 200)).2; omega⟩)) (lc_111 preo lo no co pret lt nt ct prer lr nr cr hno hnt hnr)
theorem law_111 (preo : List Value) (lo : List Pk) (no co : Nat) (pret : List Value) (lt : List Pk) (nt ct : Nat) (prer : List Value) (lr : List (Rc OF)) (nr cr : Nat) (hno : no ≤ lo.length) (hco : no ≤ 140737488355328) (hoo : okPk lo = true) (hnt : nt ≤ lt.length) (hct : nt ≤ 140737488355328) (hot : okPk lt = true) (hnr : nr ≤ lr.length) : Spec Try.prog G 3 [.rs 0 preo.length 0 9 no co, .rs 1 pret.length 0 9 nt ct, .rs 2 prer.length 0 1 nr cr] (mA111 preo lo no co pret lt nt ct prer lr nr cr) (fun r _ => r = .b true) := by
  refine vf_ok e3_ok mixed (loops_111 preo lo no co pret lt nt ct prer lr nr cr hno hco hoo hnt hct hot hnr) (of_eq (v3111 preo lo no co pret lt nt ct prer lr nr cr _ _ _ _) ⟨rfl, rfl, rfl, rfl, rfl, rfl, ⟨rfl, rfl⟩, ⟨rfl, rfl⟩, ⟨rfl, rfl⟩, rfl, rfl, rfl, rfl, rfl, rfl, ⟨rfl, rfl⟩, ⟨rfl, rfl⟩, ⟨rfl, rfl⟩, ?_⟩)
  refine bif_c (fun _ => rfl) fun h1 => ?_
  have h1 : ¬ (60 : Int) < (no : Int) := by have h1 : ilt 60 (no : Int) = false := h1; rw [ilt_eq] at h1; exact of_decide_eq_false h1
  refine bif_c (fun _ => rfl) fun h2 => ?_
  have h2 : ¬ (20 : Int) < (nt : Int) := by have h2 : ilt 20 (nt : Int) = false := h2; rw [ilt_eq] at h2; exact of_decide_eq_false h2
  refine bif_c (fun _ => rfl) fun h3 => ?_
  have h3 : ¬ (16384 : Int) < (zB (zB 0 lo (min no 200)) lt (min nt 200)) := by have h3 : ilt 16384 (zB (zB 0 lo (min no 200)) lt (min nt 200)) = false := h3; rw [ilt_eq] at h3; exact of_decide_eq_false h3
  refine bif_c (fun _ => rfl) fun h4 => ?_
  rw [zB_eq _ lt, zB_eq _ lo, Nat.min_eq_left (show no ≤ 200 by omega), Nat.min_eq_left (show nt ≤ 200 by omega)] at h3
  exact fun x y => ⟨rfl, rfl, rfl, rfl, rfl, rfl, rfl, rfl, rfl, ⟨rfl, rfl⟩, ⟨rfl, rfl⟩, ⟨rfl, rfl⟩, ⟨rfl, rfl⟩, ⟨rfl, rfl⟩, ⟨rfl, rfl⟩, ⟨rfl, rfl⟩, ⟨ok_empty x 0, ok_empty y 0, rfl, ⟨by omega, fun j hj => by have := pN_at lo j no hj; omega, by omega, fun j hj => by have := pN_at lt j nt hj; omega⟩⟩, rfl, rfl⟩
end Go.Proofs.Ytggoncamiafclab
