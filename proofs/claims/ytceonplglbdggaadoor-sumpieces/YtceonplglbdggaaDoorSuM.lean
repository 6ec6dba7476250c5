/-
  sum: texts that are looked at, digests that are known, and the laws of one text and of tags. No statement is proved here.
-/
import Derived.Test.YtceonplglbdggaaDoorSuL
namespace Go.Proofs.YtceonplglbdggaaDoor
open Go.RowKit
set_option linter.unusedVariables false
set_option linter.unusedSimpArgs false
set_option maxRecDepth 100000

theorem tot_app (a b : List (List (BitVec 8))) : tot (a ++ b) = tot a + tot b := by
  have key : ∀ (l : List (List (BitVec 8))) (n : Nat), l.foldl (fun n s => n + 8 + s.length) n = n + tot l := by
    intro l
    induction l with
    | nil => intro n; rfl
    | cons s l ih =>
      intro n
      have e : tot (s :: l) = 0 + 8 + s.length + tot l := ih (0 + 8 + s.length)
      rw [List.foldl_cons, ih, e]
      omega
  unfold tot
  rw [List.foldl_append, key]
  rfl
theorem tot_succ (L : List (List (BitVec 8))) (j : Nat) (h : j < L.length) : tot (L.take (j + 1)) = tot (L.take j) + 8 + (L.getD j []).length := by
  rw [List.take_add_one, getD_get [] h, Option.toList_some, tot_app]
  unfold tot; simp; omega
theorem tot_le (L : List (List (BitVec 8))) (j : Nat) : tot (L.take j) ≤ tot L := by
  have := tot_app (L.take j) (L.drop j)
  rw [List.take_append_drop] at this
  omega
theorem getD_drop' {α : Type} (l : List α) (d : α) (off j : Nat) : (l.drop off).getD j d = l.getD (j + off) d := by
  rw [List.getD_eq_getElem?_getD, List.getElem?_drop, ← List.getD_eq_getElem?_getD, Nat.add_comm]
theorem getD_take' {α : Type} (l : List α) (d : α) (n j : Nat) (h : j < n) : (l.take n).getD j d = l.getD j d := by
  rw [List.getD_eq_getElem?_getD, List.getElem?_take_of_lt h, ← List.getD_eq_getElem?_getD]
def okS (L : List (List (BitVec 8))) : Bool := L.all fun s => Nat.ble s.length 140737488355328
def q7 (L : List (List (BitVec 8))) (j : Nat) : Prop := j = L.length ∨ 2048 < tot (L.take j)
theorem small_of (L : List (List (BitVec 8))) (j : Nat) (h : q7 L j) : ile (tot (L.take j) : Int) 2048 = ile (tot L : Int) 2048 := by
  rcases h with rfl | h
  · rw [List.take_of_length_le (Nat.le_refl _)]
  · have := tot_le L j
    have e1 : ile (tot (L.take j) : Int) 2048 = false := by rw [ile_eq]; exact decide_eq_false (by omega)
    have e2 : ile (tot L : Int) 2048 = false := by rw [ile_eq]; exact decide_eq_false (by omega)
    rw [e1, e2]
theorem loop7 (pre : List Value) (l : List (List (BitVec 8))) (off len cap : Nat) (h0 : pre.length ≤ off) (h1 : off + len ≤ pre.length + l.length) (h2 : len ≤ 9223372036854775806) (h3 : okS ((l.drop (off - pre.length)).take len) = true) : LOk Tryd.prog G (B7 pre l) 7 (L7 (B7 pre l) (.sl 2 off len cap) ((l.drop (off - pre.length)).take len) (q7 ((l.drop (off - pre.length)).take len))) := by
  generalize hL : (l.drop (off - pre.length)).take len = L at h3
  have hlen : L.length = len := by rw [← hL]; simp; omega
  refine LT.add_ok (noL_ok _ _ _ _) fun fr M K h => ?_
  obtain ⟨hle, hK⟩ := vLe_ok h
  refine loop_sel e20_ok mixed (noL_ok _ _ _ _) (by show 2 ≤ 3; decide) (by kernel_rfl) (i7 (.sl 2 off len cap) L) (fun _ => B7 pre l) (fun j => j ≤ len ∧ tot (L.take j) ≤ 200000000000000) (fun j => len - j) (fun j _ _ => some (j + 1)) (fun _ => []) (q7 L) (fun j => o7 (tot (L.take j))) (fun _ => B7 pre l) 0 ⟨Nat.zero_le _, by unfold tot; simp⟩ (fun j hp => of_eq (vr7 dOf rOf pre l L off len cap j _ _) ?_) hle (fun j hp hq => ?_)
  · obtain ⟨hj, ht⟩ := hp
    cases hc : ilt (j : Int) (len : Int)
    · have hj2 : j = len := by rw [ilt_eq] at hc; have := of_decide_eq_false hc; omega
      exact ⟨rfl, .inl (by omega), rfl, ⟨rfl, rfl⟩, ⟨rfl, rfl⟩, ⟨rfl, rfl⟩, trivial⟩
    · have hj2 : j < len := by rw [ilt_eq] at hc; have := of_decide_eq_true hc; omega
      have hs := tot_succ L j (by omega)
      have eg : L.getD j [] = l.getD (j + off - pre.length) [] := by
        rw [← hL, getD_take' _ _ _ _ hj2, getD_drop', show j + off - pre.length = j + (off - pre.length) by omega]
      have hb : (L.getD j []).length ≤ 140737488355328 := by
        refine Nat.le_of_ble_eq_true (List.all_eq_true.1 h3 _ ?_)
        rw [List.getD_eq_getElem?_getD, List.getElem?_eq_getElem (by omega)]
        exact List.getElem_mem _
      cases hd : ile (tot (L.take j) : Int) 2048
      · exact ⟨rfl, .inr (by rw [ile_eq] at hd; have := of_decide_eq_false hd; omega), rfl, ⟨rfl, rfl⟩, ⟨rfl, rfl⟩, ⟨rfl, rfl⟩, trivial⟩
      · have hd2 : tot (L.take j) ≤ 2048 := by rw [ile_eq] at hd; have := of_decide_eq_true hd; omega
        rw [← eg]
        refine bif_of rfl (bif_of rfl (bif_of (inI_iff.2 (by omega)) (bif_of (inR_nat hj2) (bif_of (by rw [Bool.and_eq_true]; exact ⟨Nat.ble_eq_true_of_le (by omega), blt_of (by omega)⟩) (bif_of (inI_iff.2 (by omega)) (bif_of (inI_iff.2 (by omega)) ?_))))))
        exact ⟨⟨⟨by omega, by omega⟩, by omega⟩, rfl, congrArg SV.i (by rw [hs]; omega), rfl, ⟨rfl, rfl⟩, ⟨rfl, rfl⟩, ⟨rfl, rfl⟩, trivial⟩
  · have := hK j hq
    rw [frK_eq] at this
    exact this
theorem loop7z (d : Option Addr) (c : Nat) : LOk Tryd.prog G G 7 (L7 G (.v (.slice d 0 c)) [] (q7 [])) := by
  refine LT.add_ok (noL_ok _ _ _ _) fun fr M K h => ?_
  obtain ⟨hle, hK⟩ := vLe_ok h
  refine loop_sel e20_ok mixed (noL_ok _ _ _ _) (Nat.le_refl _) (by kernel_rfl) (i7 (.v (.slice d 0 c)) []) (fun _ => G) (fun j => j = 0) (fun j => 0) (fun j _ _ => some 0) (fun _ => []) (q7 []) (fun j => o7 (tot (([] : List (List (BitVec 8))).take j))) (fun _ => G) 0 rfl (fun j hp => ?_) hle (fun j hp hq => ?_)
  · subst hp
    exact of_eq (vr7z dOf rOf d c 0 _ _) ⟨rfl, .inl rfl, rfl, ⟨rfl, rfl⟩, ⟨rfl, rfl⟩, trivial⟩
  · have := hK j hq
    rw [frK_eq] at this
    exact this
def cSmall : List SV → List Cont → Option (Bool × SV)
  | [.sl k off len cap], [.strs pre l] => some (Nat.ble pre.length off && (Nat.ble (off + len) (pre.length + l.length) && (Nat.ble len 9223372036854775806 && okS ((l.drop (off - pre.length)).take len))), .b (ile (tot ((l.drop (off - pre.length)).take len) : Int) 2048))
  | [.v (.slice _ 0 _)], _ => some (true, .b true)
  | _, _ => none
theorem fewF_ok : POk Tryd.prog G 7 cSmall := by
  intro args acs r h β M w hR hw ha
  unfold cSmall at h
  split at h
  · rename_i k off len cap pre l
    simp only [Option.some.injEq, Prod.mk.injEq, Bool.and_eq_true] at h
    obtain ⟨⟨h0, h1, h2, h3⟩, rfl⟩ := h
    have h0 := Nat.le_of_ble_eq_true h0
    have h1 := Nat.le_of_ble_eq_true h1
    have h2 := Nat.le_of_ble_eq_true h2
    simp only [List.map_cons, List.map_nil, List.cons.injEq, and_true] at ha
    refine pure1 (args0 := [.sl 2 off len cap]) (c := .strs pre l) (k := k) (vf_ok (M := B7 pre l) e20_ok mixed (loop7 pre l off len cap h0 h1 h2 h3) (of_eq (vc7 _ _ pre l _ off len cap _ _) ⟨rfl, rfl, rfl, rfl, ⟨rfl, rfl⟩, ⟨rfl, rfl⟩, ⟨rfl, rfl⟩, fun j hj => ?_⟩)) rfl rfl rfl rfl rfl (fun _ => rfl) hR (tgt_some ha.symm rfl)
    exact congrArg SV.b (small_of _ j hj)
  · rename_i d c
    simp only [Option.some.injEq, Prod.mk.injEq, true_and] at h
    subst h
    refine pure0 (vf_ok e20_ok mixed (loop7z d c) (of_eq (vc7z _ _ d c _ _) ⟨rfl, rfl, rfl, rfl, ⟨rfl, rfl⟩, ⟨rfl, rfl⟩, fun j hj => ?_⟩)) rfl rfl hR
    exact congrArg SV.b (small_of _ j hj)
  · cases h
def f32 (x : BitVec 32) (K : BitVec 32 → Prop) : Prop := Nat.rec (motive := fun _ => Prop) (K 0#32) (fun m _ => K (BitVec.ofNat 32 (m + 1))) x.toNat
theorem f32_eq (x : BitVec 32) (K : BitVec 32 → Prop) : f32 x K = K x := by
  unfold f32
  cases h : x.toNat with
  | zero => have : x = 0#32 := BitVec.eq_of_toNat_eq (by rw [h]; rfl); rw [this]; rfl
  | succ m =>
    have : x = BitVec.ofNat 32 (m + 1) := BitVec.eq_of_toNat_eq (by rw [h, BitVec.toNat_ofNat]; have := x.isLt; omega)
    show K (BitVec.ofNat 32 (m + 1)) = K x
    rw [← this]
def fl32 : List (BitVec 32) → (List (BitVec 32) → Prop) → Prop
  | [], K => K []
  | x :: l, K => f32 x fun y => fl32 l fun m => K (y :: m)
theorem fl32_eq : ∀ (l : List (BitVec 32)) (K : List (BitVec 32) → Prop), fl32 l K = K l
  | [], K => rfl
  | x :: l, K => by rw [fl32, f32_eq, fl32_eq l]
def extK : Nat → List (BitVec 32) → (List (BitVec 32) → Prop) → Prop
  | 0, l, K => K l
  | n + 1, l, K => f32 (nw l l.length) fun w => snocK l w fun m => extK n m K
def rndsK (W : List (BitVec 32)) : Nat → Nat → S8 → (S8 → Prop) → Prop
  | 0, _, s, K => K s
  | n + 1, i, s, K => f32 (us (K64.getD i 0) (W.getD i 0) s) fun u => f32 (u + vs s) fun a => f32 (s.d + u) fun e => rndsK W n (i + 1) ⟨a, s.a, s.b, s.c, e, s.e, s.f, s.g⟩ K
def f8 (s : S8) (K : S8 → Prop) : Prop := f32 s.a fun a => f32 s.b fun b => f32 s.c fun c => f32 s.d fun d => f32 s.e fun e => f32 s.f fun f => f32 s.g fun g => f32 s.h fun h => K ⟨a, b, c, d, e, f, g, h⟩
def nextK (s : S8) (b : List (BitVec 8)) (K : S8 → Prop) : Prop := fl32 (w16 b) fun l => extK 48 l fun W => rndsK W 64 0 s fun t => f8 (addS t s) K
theorem dg0 (p : S8 → Prop) : (nextK h0 (pad []) p) = (p { a := 3820012610#32, b := 2566659092#32, c := 2600203464#32, d := 2574235940#32, e := 665731556#32, f := 1687917388#32, g := 2761267483#32, h := 2018687061#32 }) := by kernel_rfl
theorem dg1 (p : S8 → Prop) : (nextK h0 (pad [97, 98, 99]) p) = (p { a := 3128432319#32, b := 2399260650#32, c := 1094795486#32, d := 1571693091#32, e := 2953011619#32, f := 2518121116#32, g := 3021012833#32, h := 4060091821#32 }) := by kernel_rfl
theorem dg2 (p : S8 → Prop) : (nextK h0 (pad [97, 98]) p) = (p { a := 4220395772#32, b := 776748836#32, c := 2355151771#32, d := 3595760577#32, e := 879925435#32, f := 2541456205#32, g := 1493416016#32, h := 1432487427#32 }) := by kernel_rfl
theorem ext_fwd : ∀ (n : Nat) (l : List (BitVec 32)), ext32 (n + 1) l = ext32 n (l ++ [nw l l.length])
  | 0, l => rfl
  | n + 1, l => by rw [ext32, ext_fwd n l]; rfl
theorem extK_eq : ∀ (n : Nat) (l : List (BitVec 32)) (K : List (BitVec 32) → Prop), extK n l K = K (ext32 n l)
  | 0, l, K => rfl
  | n + 1, l, K => by rw [extK, f32_eq, snocK_eq, extK_eq n, ext_fwd]
theorem rndsK_eq (W : List (BitVec 32)) (s : S8) (K : S8 → Prop) : ∀ (n i : Nat), rndsK W n i (rounds W s i) K = K (rounds W s (i + n))
  | 0, i => rfl
  | n + 1, i => by
    rw [rndsK, f32_eq, f32_eq, f32_eq]
    have := rndsK_eq W s K n (i + 1)
    rw [show i + (n + 1) = i + 1 + n by omega]
    exact this
theorem f8_eq (s : S8) (K : S8 → Prop) : f8 s K = K s := by
  unfold f8; rw [f32_eq, f32_eq, f32_eq, f32_eq, f32_eq, f32_eq, f32_eq, f32_eq]
theorem nextK_eq (s : S8) (b : List (BitVec 8)) (K : S8 → Prop) : nextK s b K = K (nextS s b) := by
  unfold nextK
  rw [fl32_eq, extK_eq]
  have := rndsK_eq (ext32 48 (w16 b)) s (fun t => f8 (addS t s) K) 64 0
  rw [Nat.zero_add] at this
  exact this.trans (f8_eq _ _)
theorem rOf_one (s : List (BitVec 8)) (h : (pad s).length = 64) : rOf s = wr (nextS h0 (pad s)) := by
  unfold rOf
  rw [h]
  rfl
/-- Three digests that are known. -/
def d0 : List (BitVec 8) := [227, 176, 196, 66, 152, 252, 28, 20, 154, 251, 244, 200, 153, 111, 185, 36, 39, 174, 65, 228, 100, 155, 147, 76, 164, 149, 153, 27, 120, 82, 184, 85]
def d1 : List (BitVec 8) := [186, 120, 22, 191, 143, 1, 207, 234, 65, 65, 64, 222, 93, 174, 34, 35, 176, 3, 97, 163, 150, 23, 122, 156, 180, 16, 255, 97, 242, 0, 21, 173]
def d2 : List (BitVec 8) := [251, 142, 32, 252, 46, 76, 63, 36, 140, 96, 195, 155, 214, 82, 243, 193, 52, 114, 152, 187, 151, 123, 139, 77, 89, 3, 184, 80, 85, 98, 6, 3]
theorem known0 : dOf [] = d0 := by
  rw [dOf_eq [] (by decide), rOf_one _ (by decide)]
  have h := nextK_eq h0 (pad []) (fun s => wr s = d0)
  rw [dg0] at h
  exact of_eq h.symm (by decide)
theorem known1 : dOf [97, 98, 99] = d1 := by
  rw [dOf_eq [97, 98, 99] (by decide), rOf_one _ (by decide)]
  have h := nextK_eq h0 (pad [97, 98, 99]) (fun s => wr s = d1)
  rw [dg1] at h
  exact of_eq h.symm (by decide)
theorem known2 : dOf [97, 98] = d2 := by
  rw [dOf_eq [97, 98] (by decide), rOf_one _ (by decide)]
  have h := nextK_eq h0 (pad [97, 98]) (fun s => wr s = d2)
  rw [dg2] at h
  exact of_eq h.symm (by decide)
end Go.Proofs.YtceonplglbdggaaDoor
