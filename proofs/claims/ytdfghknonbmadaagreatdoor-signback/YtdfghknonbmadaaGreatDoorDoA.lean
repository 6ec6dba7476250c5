/-
  The document's numbers (nine digits of 30 bits): what reduce does, as plain arithmetic on rows of digits. No statement is proved here.
-/
import Derived.Test.YtdfghknonbmadaaGreatDoorMaE
namespace Go.Proofs.YtdfghknonbmadaaGreatDoor
namespace Mt
namespace Dg
set_option linter.unusedVariables false
set_option linter.unusedSimpArgs false
set_option maxRecDepth 1000000
set_option maxHeartbeats 2000000
def dt (n i : Nat) : Nat := n / 2 ^ (30 * i) % 1073741824
def dts (n : Nat) : List Nat := (List.range 9).map (dt n)
theorem dts_len (n : Nat) : (dts n).length = 9 := by simp [dts]
theorem dts_get (n i : Nat) (h : i < 9) : (dts n).getD i 0 = dt n i := by simp [dts, h]
theorem dt_lt (n i : Nat) : dt n i < 1073741824 := Nat.mod_lt _ (by decide)
theorem dt_P : dts Nt.P = [1073741805, 1073741823, 1073741823, 1073741823, 1073741823, 1073741823, 1073741823, 1073741823, 32767] := by
 rw [Nt.P_val]; decide +kernel
def vl : List Nat → Nat
 | [] => 0
 | x :: l => x + 1073741824 * vl l
theorem vl_append : ∀ a b : List Nat, vl (a ++ b) = vl a + 1073741824 ^ a.length * vl b
 | [], b => by simp [vl]
 | x :: a, b => by
  have h := vl_append a b
  show x + 1073741824 * vl (a ++ b) = x + 1073741824 * vl a + 1073741824 ^ (a.length + 1) * vl b
  rw [h, Nat.mul_add, ← Nat.mul_assoc, ← Nat.pow_succ', Nat.add_assoc]
theorem vl_zeros : ∀ n, vl (List.replicate n 0) = 0
 | 0 => rfl
 | n + 1 => by
  show 0 + 1073741824 * vl (List.replicate n 0) = 0
  rw [vl_zeros n]
def cpl : List Nat → Nat → List Nat × Nat
 | [], c => ([], c)
 | x :: l, c => ((x + c) % 1073741824 :: (cpl l ((x + c) / 1073741824)).1, (cpl l ((x + c) / 1073741824)).2)
theorem cpl_val : ∀ (l : List Nat) (c : Nat), vl (cpl l c).1 + 1073741824 ^ l.length * (cpl l c).2 = vl l + c
 | [], c => by simp [cpl, vl]
 | x :: l, c => by
  have h := cpl_val l ((x + c) / 1073741824)
  show (x + c) % 1073741824 + 1073741824 * vl (cpl l ((x + c) / 1073741824)).1 + 1073741824 ^ (l.length + 1) * (cpl l ((x + c) / 1073741824)).2 = x + 1073741824 * vl l + c
  rw [Nat.pow_succ', Nat.mul_assoc]
  have e : 1073741824 * vl (cpl l ((x + c) / 1073741824)).1 + 1073741824 * (1073741824 ^ l.length * (cpl l ((x + c) / 1073741824)).2) = 1073741824 * (vl l + (x + c) / 1073741824) := by rw [← Nat.mul_add, h]
  have e2 := Nat.div_add_mod (x + c) 1073741824
  rw [Nat.mul_add] at e
  omega
theorem cpl_len : ∀ (l : List Nat) (c : Nat), (cpl l c).1.length = l.length
 | [], c => rfl
 | x :: l, c => by
  show (cpl l ((x + c) / 1073741824)).1.length + 1 = l.length + 1
  rw [cpl_len l]
theorem cpl_lt : ∀ (l : List Nat) (c : Nat), ∀ x ∈ (cpl l c).1, x < 1073741824
 | [], c, x, h => by simp [cpl] at h
 | y :: l, c, x, h => by
  have h' : x ∈ (y + c) % 1073741824 :: (cpl l ((y + c) / 1073741824)).1 := h
  rcases List.mem_cons.1 h' with rfl | h2
  ·exact Nat.mod_lt _ (by decide)
  ·exact cpl_lt l _ x h2
theorem cpl_snoc : ∀ (l : List Nat) (y c : Nat), cpl (l ++ [y]) c = ((cpl l c).1 ++ [(y + (cpl l c).2) % 1073741824], (y + (cpl l c).2) / 1073741824)
 | [], y, c => rfl
 | x :: l, y, c => by
  have h := cpl_snoc l y ((x + c) / 1073741824)
  show ((x + c) % 1073741824 :: (cpl (l ++ [y]) ((x + c) / 1073741824)).1, (cpl (l ++ [y]) ((x + c) / 1073741824)).2) = _
  rw [h]; rfl
theorem cpl_carry : ∀ (l : List Nat) (c : Nat), (∀ x ∈ l, x ≤ 18446742974197923840) → c ≤ 34359738368 → (cpl l c).2 ≤ 34359738368
 | [], c, _, h => h
 | x :: l, c, hl, h => cpl_carry l _ (fun y hy => hl y (List.mem_cons_of_mem _ hy)) (by
  have := hl x (List.mem_cons_self ..)
  omega)
def cr (l : List Nat) (i : Nat) : List Nat := (cpl (l.take i) 0).1 ++ l.drop i
def cc (l : List Nat) (i : Nat) : Nat := (cpl (l.take i) 0).2
theorem cr_zero (l : List Nat) : cr l 0 = l := by simp [cr, cpl]
theorem cc_zero (l : List Nat) : cc l 0 = 0 := by simp [cc, cpl]
theorem cr_len (l : List Nat) (i : Nat) : (cr l i).length = l.length := by
 simp only [cr, List.length_append, cpl_len, List.length_take, List.length_drop]; omega
theorem cc_step (l : List Nat) (i : Nat) (h : i < l.length) : cc l (i + 1) = (l.getD i 0 + cc l i) / 1073741824 := by
 unfold cc
 rw [List.take_succ_eq_append_getElem h, cpl_snoc]
 simp [h]
theorem cr_get (l : List Nat) (i : Nat) (h : i < l.length) : (cr l i).getD i 0 = l.getD i 0 := by
 have hl : (cpl (l.take i) 0).1.length = i := by rw [cpl_len, List.length_take]; omega
 simp only [cr, List.getD_eq_getElem?_getD]
 rw [List.getElem?_append_right (by omega), hl, Nat.sub_self, List.getElem?_drop, Nat.add_zero]
theorem cr_step (l : List Nat) (i : Nat) (h : i < l.length) : (cr l i).set i ((l.getD i 0 + cc l i) % 1073741824) = cr l (i + 1) := by
 have hl : (cpl (l.take i) 0).1.length = i := by rw [cpl_len, List.length_take]; omega
 have e : l.getD i 0 = l[i] := by simp [h]
 unfold cr
 rw [List.set_append_right _ _ (by omega), hl, Nat.sub_self, List.take_succ_eq_append_getElem h, cpl_snoc, List.drop_eq_getElem_cons h, List.set_cons_zero, e]
 show _ ++ ((l[i] + cc l i) % 1073741824 :: l.drop (i + 1)) = (_ ++ [_]) ++ _
 rw [List.append_assoc]; rfl
theorem cc_le (l : List Nat) (i : Nat) (hl : ∀ x ∈ l, x ≤ 18446742974197923840) : cc l i ≤ 34359738368 :=
 cpl_carry _ 0 (fun x hx => hl x (List.mem_of_mem_take hx)) (by decide)
def fe (t : List Nat) (i j : Nat) : Nat :=
 if j < 9 then (if j < i then t.getD j 0 + t.getD (9 + j) 0 * 622592 else t.getD j 0)
 else if j = 9 then (if i = 10 then t.getD 18 0 * 622592 else if i = 0 then t.getD 9 0 else 0)
 else if j < 9 + i then 0 else t.getD j 0
def fl (t : List Nat) (i : Nat) : List Nat := (List.range 19).map (fe t i)
theorem fl_len (t : List Nat) (i : Nat) : (fl t i).length = 19 := by simp [fl]
theorem fl_get (t : List Nat) (i j : Nat) (h : j < 19) : (fl t i).getD j 0 = fe t i j := by simp [fl, h]
theorem fl_zero (t : List Nat) (h : t.length = 19) : fl t 0 = t := by
 apply List.ext_getElem
 ·rw [fl_len, h]
 ·intro j h1 h2
  have e : t.getD j 0 = t[j] := by simp [h2]
  simp only [fl, List.getElem_map, List.getElem_range, fe]
  by_cases h9 : j < 9
  ·rw [if_pos h9, if_neg (by omega), e]
  ·rw [if_neg h9]
   by_cases h99 : j = 9
   ·rw [if_pos h99]; subst h99; simp [h2]
   ·rw [if_neg h99, if_neg (by omega), e]
theorem fe_lo (t : List Nat) (i : Nat) (h : i < 9) : fe t i i = t.getD i 0 ∧ fe t i (9 + i) = t.getD (9 + i) 0 := by
 unfold fe
 refine ⟨by rw [if_pos h, if_neg (by omega)], ?_⟩
 rw [if_neg (by omega)]
 by_cases h0 : i = 0
 ·subst h0; rw [if_pos rfl, if_neg (by omega), if_pos rfl]
 ·rw [if_neg (by omega), if_neg (by omega)]
theorem fe_hi (t : List Nat) : fe t 9 9 = 0 ∧ fe t 9 18 = t.getD 18 0 := ⟨rfl, rfl⟩
theorem fl_step (t : List Nat) (i : Nat) (h : i < 10) : ((fl t i).set i (fe t i i + fe t i (9 + i) * 622592)).set (9 + i) 0 = fl t (i + 1) := by
 apply List.ext_getElem
 ·simp [fl]
 ·intro j h1 h2
  have hj : j < 19 := by rw [fl_len] at h2; exact h2
  have eR : (fl t (i + 1))[j]'h2 = fe t (i + 1) j := by simp [fl]
  have eL : (fl t i)[j]'(by rw [fl_len]; exact hj) = fe t i j := by simp [fl]
  rw [eR, List.getElem_set]
  split
  ·rename_i e
   subst e
   unfold fe
   rw [if_neg (by omega)]
   by_cases h0 : i = 0
   ·subst h0; rw [if_pos rfl, if_neg (by omega), if_neg (by omega)]
   ·rw [if_neg (by omega), if_pos (by omega)]
  ·rename_i e
   rw [List.getElem_set]
   split
   ·rename_i e2
    subst e2
    by_cases h9 : i < 9
    ·rw [(fe_lo t i h9).1, (fe_lo t i h9).2]
     unfold fe
     rw [if_pos h9, if_pos (by omega)]
    ·obtain rfl : i = 9 := by omega
     rw [(fe_hi t).1, (fe_hi t).2]
     unfold fe
     rw [if_neg (by omega), if_pos rfl, if_pos rfl, Nat.zero_add]
   ·rename_i e2
    rw [eL]
    unfold fe
    by_cases h9 : j < 9
    ·rw [if_pos h9, if_pos h9]
     by_cases hji : j < i
     ·rw [if_pos hji, if_pos (by omega)]
     ·rw [if_neg hji, if_neg (by omega)]
    ·rw [if_neg h9, if_neg h9]
     by_cases h99 : j = 9
     ·rw [if_pos h99, if_pos h99]
      by_cases hi9 : i = 9
      ·omega
      ·by_cases hi0 : i = 0
       ·omega
       ·rw [if_neg (by omega), if_neg hi0, if_neg (by omega), if_neg (by omega)]
     ·rw [if_neg h99, if_neg h99]
      by_cases hji : j < 9 + i
      ·rw [if_pos hji, if_pos (by omega)]
      ·rw [if_neg hji, if_neg (by omega)]
theorem list19 (t : List Nat) (h : t.length = 19) : ∃ x0 x1 x2 x3 x4 x5 x6 x7 x8 x9 x10 x11 x12 x13 x14 x15 x16 x17 x18 : Nat, t = [x0, x1, x2, x3, x4, x5, x6, x7, x8, x9, x10, x11, x12, x13, x14, x15, x16, x17, x18] := by
 match t, h with
 | [x0, x1, x2, x3, x4, x5, x6, x7, x8, x9, x10, x11, x12, x13, x14, x15, x16, x17, x18], _ => exact ⟨x0, x1, x2, x3, x4, x5, x6, x7, x8, x9, x10, x11, x12, x13, x14, x15, x16, x17, x18, rfl⟩
theorem vl_lt : ∀ l : List Nat, (∀ x ∈ l, x < 1073741824) → vl l < 1073741824 ^ l.length
 | [], _ => by simp [vl]
 | x :: l, h => by
  have h1 := vl_lt l (fun y hy => h y (List.mem_cons_of_mem _ hy))
  have h2 := h x (List.mem_cons_self ..)
  show x + 1073741824 * vl l < 1073741824 ^ (l.length + 1)
  rw [Nat.pow_succ']
  generalize 1073741824 ^ l.length = z at *
  omega
theorem vl_zip (f : Nat) : ∀ a b : List Nat, a.length = b.length → vl (List.zipWith (fun x y => x + y * f) a b) = vl a + f * vl b
 | [], [], _ => by simp [vl]
 | x :: a, y :: b, h => by
  have h1 := vl_zip f a b (by simpa using h)
  show x + y * f + 1073741824 * vl (List.zipWith (fun x y => x + y * f) a b) = x + 1073741824 * vl a + f * (y + 1073741824 * vl b)
  rw [h1, Nat.mul_add, Nat.mul_add, Nat.mul_comm y f, Nat.mul_left_comm f 1073741824]
  omega
 | [], _ :: _, h => by simp at h
 | _ :: _, [], h => by simp at h
theorem getD_lt {t : List Nat} (hl : ∀ x ∈ t, x < 1073741824) (j : Nat) : t.getD j 0 < 1073741824 := by
 by_cases h : j < t.length
 ·have e : t.getD j 0 = t[j] := by simp [h]
  rw [e]; exact hl _ (List.getElem_mem h)
 ·have e : t.getD j 0 = 0 := by simp [Nat.le_of_not_lt h]
  rw [e]; decide
theorem fe_le {t : List Nat} (hl : ∀ x ∈ t, x < 1073741824) (i j : Nat) : fe t i j ≤ 18446742974197923840 := by
 have h1 := getD_lt hl j
 have h2 := getD_lt hl (9 + j)
 have h3 := getD_lt hl 18
 have h4 := getD_lt hl 9
 unfold fe
 repeat' split
 all_goals omega
theorem fl_shape (t : List Nat) (h : t.length = 19) : fl t 10 = List.zipWith (fun x y => x + y * 622592) (t.take 9) ((t.drop 9).take 9) ++ (t.getD 18 0 * 622592 :: List.replicate 9 0) ∧ t.drop 9 = (t.drop 9).take 9 ++ [t.getD 18 0] := by
 obtain ⟨x0, x1, x2, x3, x4, x5, x6, x7, x8, x9, x10, x11, x12, x13, x14, x15, x16, x17, x18, rfl⟩ := list19 t h
 exact ⟨rfl, rfl⟩
theorem fold_split (t : List Nat) (h : t.length = 19) (hl : ∀ x ∈ t, x < 1073741824) : ∃ lo hi : Nat, lo < 1897137590064188545819787018382342682267975428761855001222473056385648716020711424 ∧ vl t = lo + 1897137590064188545819787018382342682267975428761855001222473056385648716020711424 * hi ∧ vl (fl t 10) = lo + 622592 * hi ∧ (vl (fl t 10) < 1897137590064188545819787018382342682267975428761855001222473056385648716020711424 → (fl t 10).drop 9 = List.replicate 10 0) ∧ ∀ x ∈ fl t 10, x ≤ 18446742974197923840 := by
 obtain ⟨e1, e2⟩ := fl_shape t h
 have l1 : (t.take 9).length = 9 := by rw [List.length_take]; omega
 have l2 : ((t.drop 9).take 9).length = 9 := by rw [List.length_take, List.length_drop]; omega
 have l3 : (List.zipWith (fun x y => x + y * 622592) (t.take 9) ((t.drop 9).take 9)).length = 9 := by rw [List.length_zipWith, l1, l2]; rfl
 have k9 : 1073741824 ^ 9 = 1897137590064188545819787018382342682267975428761855001222473056385648716020711424 := by decide
 have v1 : vl t = vl (t.take 9) + 1897137590064188545819787018382342682267975428761855001222473056385648716020711424 * vl (t.drop 9) := by
  have := vl_append (t.take 9) (t.drop 9)
  rw [List.take_append_drop, l1, k9] at this
  exact this
 have v2 : vl (t.drop 9) = vl ((t.drop 9).take 9) + 1897137590064188545819787018382342682267975428761855001222473056385648716020711424 * t.getD 18 0 := by
  have := vl_append ((t.drop 9).take 9) [t.getD 18 0]
  rw [← e2, l2, k9] at this
  rw [this]; simp [vl]
 have v3 : vl (fl t 10) = vl (t.take 9) + 622592 * vl ((t.drop 9).take 9) + 1897137590064188545819787018382342682267975428761855001222473056385648716020711424 * (t.getD 18 0 * 622592) := by
  have := vl_append (List.zipWith (fun x y => x + y * 622592) (t.take 9) ((t.drop 9).take 9)) (t.getD 18 0 * 622592 :: List.replicate 9 0)
  rw [← e1, l3, k9, vl_zip 622592 _ _ (by rw [l1, l2])] at this
  rw [this]
  show _ + 1897137590064188545819787018382342682267975428761855001222473056385648716020711424 * (t.getD 18 0 * 622592 + 1073741824 * vl (List.replicate 9 0)) = _
  rw [vl_zeros, Nat.mul_zero, Nat.add_zero]
 have b1 : vl (t.take 9) < 1897137590064188545819787018382342682267975428761855001222473056385648716020711424 := by
  have := vl_lt (t.take 9) (fun x hx => hl x (List.mem_of_mem_take hx))
  rw [l1, k9] at this
  exact this
 refine ⟨vl (t.take 9), vl (t.drop 9), b1, v1, ?_, fun hv => ?_, fun x hx => ?_⟩
 ·rw [v3, v2, Nat.mul_add, Nat.mul_left_comm 622592, Nat.mul_comm (t.getD 18 0)]; omega
 ·have hz : t.getD 18 0 * 622592 = 0 := by
   rw [v3] at hv
   generalize vl (t.take 9) + 622592 * vl ((t.drop 9).take 9) = z at *
   omega
  rw [e1, List.drop_append_of_le_length (by omega), List.drop_of_length_le (by omega), hz]; rfl
 ·obtain ⟨j, _, rfl⟩ := List.mem_map.1 hx
  exact fe_le hl 10 j
theorem fold_mod {lo hi p f k c : Nat} (h : k = f + p * c) : (lo + f * hi) % p = (lo + k * hi) % p := by
 rw [h, Nat.add_mul, Nat.mul_assoc, ← Nat.add_assoc, Nat.add_mul_mod_self_left]
theorem K9_P : 1897137590064188545819787018382342682267975428761855001222473056385648716020711424 = 622592 + Nt.P * 32768 := by rw [Nt.P_val]
def bnd : Nat → Nat
 | 0 => 3864537523017258344695351890931987344298927329706434998657235251451519142289560424536193766581922577962463616031502177177365078661042987655742908673467080748696980814823424
 | 1 => 1268242302578042258559634202226717387832374192491944850131484716499444184655311712224849759830016
 | 2 => 1897137590064188545819787018382342682267975428761855001222473472590311879093714944
 | _ => 1897137590064188545819787018382342682267975428761855001222473056385648716020711424
def S1 (V k : Nat) (t : List Nat) : Prop := t.length = 19 ∧ (∀ x ∈ t, x ≤ 18446742974197923840) ∧ vl t % Nt.P = V % Nt.P ∧ vl t < bnd k
theorem bnd_le (k : Nat) : bnd k ≤ 3864537523017258344695351890931987344298927329706434998657235251451519142289560424536193766581922577962463616031502177177365078661042987655742908673467080748696980814823424 := by
 match k with
 | 0 => exact Nat.le_refl _
 | 1 => exact (by decide : 1268242302578042258559634202226717387832374192491944850131484716499444184655311712224849759830016 ≤ 3864537523017258344695351890931987344298927329706434998657235251451519142289560424536193766581922577962463616031502177177365078661042987655742908673467080748696980814823424)
 | 2 => exact (by decide : 1897137590064188545819787018382342682267975428761855001222473472590311879093714944 ≤ 3864537523017258344695351890931987344298927329706434998657235251451519142289560424536193766581922577962463616031502177177365078661042987655742908673467080748696980814823424)
 | _ + 3 => exact (by decide : 1897137590064188545819787018382342682267975428761855001222473056385648716020711424 ≤ 3864537523017258344695351890931987344298927329706434998657235251451519142289560424536193766581922577962463616031502177177365078661042987655742908673467080748696980814823424)
theorem bnd_step {lo hi k : Nat} (hk : k < 3) (hlo : lo < 1897137590064188545819787018382342682267975428761855001222473056385648716020711424) (h : lo + 1897137590064188545819787018382342682267975428761855001222473056385648716020711424 * hi < bnd k) : lo + 622592 * hi < bnd (k + 1) := by
 match k, hk with
 | 0, _ => simp only [bnd] at *; omega
 | 1, _ => simp only [bnd] at *; omega
 | 2, _ => simp only [bnd] at *; omega
theorem S1.carried {V k : Nat} {t : List Nat} (h : S1 V k t) : (cr t 19).length = 19 ∧ (∀ x ∈ cr t 19, x < 1073741824) ∧ vl (cr t 19) = vl t := by
 obtain ⟨hl, hd, hv, hb⟩ := h
 have e : cr t 19 = (cpl t 0).1 := by
  unfold cr
  rw [List.take_of_length_le (by omega), List.drop_of_length_le (by omega), List.append_nil]
 have h1 := cpl_val t 0
 rw [hl, Nat.add_zero] at h1
 have h2 := bnd_le k
 have h3 : (cpl t 0).2 = 0 := by
  have e19 : 1073741824 ^ 19 = 3864537523017258344695351890931987344298927329706434998657235251451519142289560424536193766581922577962463616031502177177365078661042987655742908673467080748696980814823424 := by decide
  rw [e19] at h1
  omega
 rw [h3, Nat.mul_zero, Nat.add_zero] at h1
 exact ⟨by rw [cr_len, hl], by rw [e]; exact cpl_lt t 0, by rw [e]; exact h1⟩
theorem S1.next {V k : Nat} {t : List Nat} (h : S1 V k t) (hk : k < 3) : S1 V (k + 1) (fl (cr t 19) 10) ∧ (k = 2 → (fl (cr t 19) 10).drop 9 = List.replicate 10 0) := by
 obtain ⟨c1, c2, c3⟩ := h.carried
 obtain ⟨hl, hd, hv, hb⟩ := h
 obtain ⟨lo, hi, hlo, e1, e2, hz, hx⟩ := fold_split _ c1 c2
 rw [c3] at e1
 have hb2 := bnd_step hk hlo (by rw [← e1]; exact hb)
 refine ⟨⟨fl_len _ _, hx, ?_, by rw [e2]; exact hb2⟩, fun h2 => hz ?_⟩
 ·rw [e2, fold_mod K9_P, ← e1]; exact hv
 ·rw [e2]; subst h2; exact hb2
def g2 (t : List Nat) : List Nat := ((cr t 9).set 8 ((cr t 9).getD 8 0 % 32768)).set 0 ((cr t 9).getD 0 0 + 19 * (cc t 9 * 32768 + (cr t 9).getD 8 0 / 32768))
theorem list9 (t : List Nat) (h : t.length = 9) : ∃ x0 x1 x2 x3 x4 x5 x6 x7 x8 : Nat, t = [x0, x1, x2, x3, x4, x5, x6, x7, x8] := by
 match t, h with
 | [x0, x1, x2, x3, x4, x5, x6, x7, x8], _ => exact ⟨x0, x1, x2, x3, x4, x5, x6, x7, x8, rfl⟩
theorem cr9 (t : List Nat) (h : t.length = 19) (hz : t.drop 9 = List.replicate 10 0) : ∃ d0 d8 : Nat, ∃ m : List Nat, m.length = 7 ∧ cr t 9 = d0 :: m ++ d8 :: List.replicate 10 0 ∧ d0 < 1073741824 ∧ d8 < 1073741824 ∧ (∀ x ∈ m, x < 1073741824) ∧ vl t = d0 + 1073741824 * vl m + 1766847064778384329583297500742918515827483896875618958121606201292619776 * d8 + 1897137590064188545819787018382342682267975428761855001222473056385648716020711424 * cc t 9 := by
 have l1 : (t.take 9).length = 9 := by rw [List.length_take]; omega
 have l2 : (cpl (t.take 9) 0).1.length = 9 := by rw [cpl_len, l1]
 have hv := cpl_val (t.take 9) 0
 have hx := cpl_lt (t.take 9) 0
 have k9 : 1073741824 ^ 9 = 1897137590064188545819787018382342682267975428761855001222473056385648716020711424 := by decide
 have e1 : vl t = vl (t.take 9) := by
  have := vl_append (t.take 9) (t.drop 9)
  rw [List.take_append_drop, hz, vl_zeros, Nat.mul_zero, Nat.add_zero] at this
  exact this
 obtain ⟨x0, x1, x2, x3, x4, x5, x6, x7, x8, e2⟩ := list9 _ l2
 refine ⟨x0, x8, [x1, x2, x3, x4, x5, x6, x7], rfl, ?_, ?_, ?_, ?_, ?_⟩
 ·unfold cr
  rw [e2, hz]; rfl
 ·exact hx x0 (by rw [e2]; simp)
 ·exact hx x8 (by rw [e2]; simp)
 ·intro x h; apply hx x; rw [e2]
  simp at h ⊢
  omega
 ·rw [l1, k9, Nat.add_zero, e2] at hv
  rw [e1, ← hv]
  show x0 + 1073741824 * vl [x1, x2, x3, x4, x5, x6, x7, x8] + 1897137590064188545819787018382342682267975428761855001222473056385648716020711424 * cc t 9 = _
  have := vl_append [x1, x2, x3, x4, x5, x6, x7] [x8]
  have k7 : 1073741824 ^ [x1, x2, x3, x4, x5, x6, x7].length = 1645504557321206042154969182557350504982735865633579863348609024 := by show 1073741824 ^ 7 = _; decide
  rw [k7] at this
  have e3 : vl [x1, x2, x3, x4, x5, x6, x7, x8] = vl [x1, x2, x3, x4, x5, x6, x7] + 1645504557321206042154969182557350504982735865633579863348609024 * x8 := by
   have e4 : vl [x8] = x8 := by simp [vl]
   rw [← e4]; exact this
  rw [e3]
  generalize vl [x1, x2, x3, x4, x5, x6, x7] = z
  omega
theorem g2_val (t : List Nat) (h : t.length = 19) (hz : t.drop 9 = List.replicate 10 0) (hd : ∀ x ∈ t, x ≤ 18446742974197923840) :
  (g2 t).length = 19 ∧ (g2 t).drop 9 = List.replicate 10 0 ∧ (∀ x ∈ g2 t, x ≤ 18446742974197923840) ∧ vl (g2 t) = vl t % 57896044618658097711785492504343953926634992332820282019728792003956564819968 + 19 * (vl t / 57896044618658097711785492504343953926634992332820282019728792003956564819968) ∧ (vl t < 57896044618658097711785492504343953926634992332820282019728792003956564819968 → ∀ x ∈ g2 t, x < 1073741824) ∧ (cr t 9).getD 8 0 < 1073741824 ∧ (cr t 9).getD 0 0 < 1073741824 := by
 obtain ⟨d0, d8, m, hm, e, h0, h8, hmm, hv⟩ := cr9 t h hz
 have hc := cc_le t 9 hd
 obtain ⟨m1, m2, m3, m4, m5, m6, m7, rfl⟩ : ∃ m1 m2 m3 m4 m5 m6 m7, m = [m1, m2, m3, m4, m5, m6, m7] := by
  match m, hm with
  | [m1, m2, m3, m4, m5, m6, m7], _ => exact ⟨m1, m2, m3, m4, m5, m6, m7, rfl⟩
 have hlt := vl_lt [m1, m2, m3, m4, m5, m6, m7] hmm
 have k7 : 1073741824 ^ [m1, m2, m3, m4, m5, m6, m7].length = 1645504557321206042154969182557350504982735865633579863348609024 := by show 1073741824 ^ 7 = _; decide
 rw [k7] at hlt
 have eg : g2 t = (d0 + 19 * (cc t 9 * 32768 + d8 / 32768)) :: [m1, m2, m3, m4, m5, m6, m7] ++ (d8 % 32768) :: List.replicate 10 0 := by
  unfold g2
  rw [e]; rfl
 have ev : vl (g2 t) = d0 + 19 * (cc t 9 * 32768 + d8 / 32768) + 1073741824 * vl [m1, m2, m3, m4, m5, m6, m7] + 1766847064778384329583297500742918515827483896875618958121606201292619776 * (d8 % 32768) := by
  rw [eg]
  have := vl_append [m1, m2, m3, m4, m5, m6, m7] ((d8 % 32768) :: List.replicate 10 0)
  rw [k7] at this
  have e4 : vl ((d8 % 32768) :: List.replicate 10 0) = d8 % 32768 := by
   show d8 % 32768 + 1073741824 * vl (List.replicate 10 0) = _
   rw [vl_zeros, Nat.mul_zero, Nat.add_zero]
  rw [e4] at this
  show d0 + 19 * (cc t 9 * 32768 + d8 / 32768) + 1073741824 * vl ([m1, m2, m3, m4, m5, m6, m7] ++ (d8 % 32768) :: List.replicate 10 0) = _
  rw [this]
  generalize vl [m1, m2, m3, m4, m5, m6, m7] = z
  omega
 have hq : vl t / 57896044618658097711785492504343953926634992332820282019728792003956564819968 = cc t 9 * 32768 + d8 / 32768 := by
  rw [hv]
  generalize vl [m1, m2, m3, m4, m5, m6, m7] = z at *
  omega
 have hr : vl t % 57896044618658097711785492504343953926634992332820282019728792003956564819968 = d0 + 1073741824 * vl [m1, m2, m3, m4, m5, m6, m7] + 1766847064778384329583297500742918515827483896875618958121606201292619776 * (d8 % 32768) := by
  rw [hv]
  generalize vl [m1, m2, m3, m4, m5, m6, m7] = z at *
  omega
 refine ⟨by rw [eg]; rfl, by rw [eg]; rfl, fun x hx => ?_, by rw [ev, hq, hr]; omega, fun hlt2 x hx => ?_, by rw [e]; exact h8, by rw [e]; exact h0⟩
 ·rw [eg] at hx
  rcases List.mem_append.1 hx with hx | hx
  ·rcases List.mem_cons.1 hx with rfl | hx
   ·omega
   ·have := hmm x hx; omega
  ·rcases List.mem_cons.1 hx with rfl | hx
   ·omega
   ·have := List.eq_of_mem_replicate hx; omega
 ·have hq0 : cc t 9 * 32768 + d8 / 32768 = 0 := by rw [← hq]; exact Nat.div_eq_of_lt hlt2
  rw [eg] at hx
  rcases List.mem_append.1 hx with hx | hx
  ·rcases List.mem_cons.1 hx with rfl | hx
   ·omega
   ·exact hmm x hx
  ·rcases List.mem_cons.1 hx with rfl | hx
   ·omega
   ·have := List.eq_of_mem_replicate hx; omega
def bn2 : Nat → Nat
 | 0 => 1897137590064188545819787018382342682267975428761855001222473056385648716020711424
 | 1 => 57896044618658097711785492504343953926634992332820282019728792003956565442560
 | _ => 57896044618658097711785492504343953926634992332820282019728792003956564819968
def S2 (V k : Nat) (t : List Nat) : Prop := t.length = 19 ∧ (∀ x ∈ t, x ≤ 18446742974197923840) ∧ t.drop 9 = List.replicate 10 0 ∧ vl t % Nt.P = V % Nt.P ∧ vl t < bn2 k ∧ (k = 3 → ∀ x ∈ t, x < 1073741824)
theorem R_P : 57896044618658097711785492504343953926634992332820282019728792003956564819968 = 19 + Nt.P * 1 := by rw [Nt.P_val]
theorem S2.next {V k : Nat} {t : List Nat} (h : S2 V k t) (hk : k < 3) : S2 V (k + 1) (g2 t) := by
 obtain ⟨h1, h2, h3, h4, h5, h6⟩ := h
 obtain ⟨a1, a2, a3, a4, a5, -, -⟩ := g2_val t h1 h3 h2
 refine ⟨a1, a3, a2, ?_, ?_, fun hk3 => a5 ?_⟩
 ·rw [a4, fold_mod R_P, Nat.mod_add_div]; exact h4
 ·rw [a4]
  match k, hk with
  | 0, _ => simp only [bn2] at *; omega
  | 1, _ => simp only [bn2] at *; omega
  | 2, _ => simp only [bn2] at *; omega
 ·obtain rfl : k = 2 := by omega
  exact h5
theorem S1.last {V : Nat} {t : List Nat} (h : S1 V 3 t) (hz : t.drop 9 = List.replicate 10 0) : S2 V 0 t :=
 ⟨h.1, h.2.1, hz, h.2.2.1, h.2.2.2, fun h => by omega⟩
theorem dt_vl : ∀ (l : List Nat) (i : Nat), (∀ x ∈ l, x < 1073741824) → dt (vl l) i = l.getD i 0
 | [], i, _ => by simp [dt, vl]
 | x :: l, 0, h => by
  have := h x (List.mem_cons_self ..)
  show (x + 1073741824 * vl l) / 2 ^ (30 * 0) % 1073741824 = x
  rw [Nat.mul_zero, Nat.pow_zero, Nat.div_one, Nat.add_mul_mod_self_left, Nat.mod_eq_of_lt this]
 | x :: l, i + 1, h => by
  have h0 := h x (List.mem_cons_self ..)
  have ih := dt_vl l i (fun y hy => h y (List.mem_cons_of_mem _ hy))
  show (x + 1073741824 * vl l) / 2 ^ (30 * (i + 1)) % 1073741824 = l.getD i 0
  rw [← ih, show 2 ^ (30 * (i + 1)) = 1073741824 * 2 ^ (30 * i) from by rw [Nat.mul_add, Nat.add_comm, Nat.pow_add], ← Nat.div_div_eq_div_mul, Nat.add_mul_div_left _ _ (by decide), Nat.div_eq_of_lt h0, Nat.zero_add]
  rfl
theorem S2.digits {V : Nat} {t : List Nat} (h : S2 V 3 t) : ∀ j, j < 9 → t.getD j 0 = dt (vl t) j := fun j _ => (dt_vl t j (h.2.2.2.2.2 rfl)).symm
end Dg
end Mt
end Go.Proofs.YtdfghknonbmadaaGreatDoor
