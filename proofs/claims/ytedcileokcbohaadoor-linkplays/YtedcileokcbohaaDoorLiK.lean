/-
  link: what a table tells of itself; who goes, who is near, who comes. No statement is proved here.
-/
import Derived.Test.YtedcileokcbohaaDoorLiJ
namespace Go.Proofs.YtedcileokcbohaaDoor
open Go.RowKit
set_option linter.unusedVariables false
set_option linter.unusedSimpArgs false
set_option maxRecDepth 100000

theorem Spec.mvT {P : Program} {f : Nat} {args : List SV} {p : List SV} {s : TS} {K : SV → Mm → Prop} {Q : SV → TS → Prop} (hp : SV.wf.wfs 0 p = true) (hS : Spec P G f args (M0T p s) K) (h : ∀ r M1, K r M1 → ∃ s' t, r.wf 0 = true ∧ Q r s' ∧ 2 ≤ t ∧ M1[0]? = some e0 ∧ M1[1]? = some (rowT p s' t) ∧ (∃ c, M1[2]? = some ⟨true, c⟩) ∧ M1[t]? = some (recT' s')) : Spec P G f args (M0T p s) (fun r M1 => ∃ s', (r.wf 0 = true ∧ Q r s') ∧ M1 = M1T p s') := by
  refine Spec.re hS fun r M1 hK => ?_
  obtain ⟨s', t, hr, hq, ht, h0, h1, ⟨c, h2⟩, h3⟩ := h r M1 hK
  let σ : Nat → Nat := fun i => if i = 3 then t else i
  have s1 : ∀ i, i < 3 → σ i = i := fun i hi => if_neg (by omega)
  have s2 : σ 3 = t := if_pos rfl
  refine ⟨r, M1T p s', σ, ⟨fun k hk => s1 k hk, by show 3 ≤ 4; omega, fun k e he hh => ?_, fun i j x y hx hy hij hrw hxh hyh => ?_, fun k e he => ?_, fun k e he hrw => ?_, fun k e hk he => ?_, fun k e hk he => ?_, fun β => val0 hr, wf_mono (Nat.zero_le _) r hr⟩, ⟨s', ⟨hr, hq⟩, rfl⟩⟩
  · match k, he with
    | 0, he => cases he; rw [s1 0 (by omega)]; exact ⟨_, h0, rfl, rfl, fun _ => rfl, rfl⟩
    | 1, he =>
      cases he
      rw [s1 1 (by omega)]
      refine ⟨_, h1, rfl, rfl, fun β => ?_, rfl⟩
      show vals (fun i => β (σ i)) (p ++ [.ns s'.b 3 3 s'.len s'.cap]) = vals β (p ++ [.ns s'.b t 3 s'.len s'.cap])
      rw [vals_app, vals_app, vals0 (β := fun i => β (σ i)) (β' := β) hp]
      have e : vals (fun i => β (σ i)) [.ns s'.b 3 3 s'.len s'.cap] = vals β [.ns s'.b t 3 s'.len s'.cap] := by simp only [vals, val, s2]
      rw [e]
    | 2, he => cases he; cases hh
    | 3, he => cases he; rw [s2]; exact ⟨_, h3, hh, rfl, fun _ => rfl, rfl⟩
    | k + 4, he => cases he
  · match i, j, hx, hy with
    | 2, _, hx, _ => cases hx; cases hxh
    | _, 2, _, hy => cases hy; cases hyh
    | 0, 0, _, _ => exact absurd rfl hij
    | 0, 1, _, _ => exact fun h => by rw [s1 0 (by omega), s1 1 (by omega)] at h; cases h
    | 0, 3, _, _ => rw [s1 0 (by omega), s2]; omega
    | 1, 0, _, _ => exact fun h => by rw [s1 0 (by omega), s1 1 (by omega)] at h; cases h
    | 1, 1, _, _ => exact absurd rfl hij
    | 1, 3, _, _ => rw [s1 1 (by omega), s2]; omega
    | 3, 0, _, _ => rw [s1 0 (by omega), s2]; omega
    | 3, 1, _, _ => rw [s1 1 (by omega), s2]; omega
    | 3, 3, _, _ => exact absurd rfl hij
    | i + 4, _, hx, _ => cases hx
    | _, j + 4, _, hy => cases hy
  · match k, he with
    | 0, he => cases he; rfl
    | 1, he => cases he; exact wfs_app (wfs_mono (Nat.zero_le _) p hp) rfl
    | 2, he => cases he; rfl
    | 3, he => cases he; rfl
    | k + 4, he => cases he
  · match k, he with
    | 0, he => cases he; cases hrw
    | 1, he => rw [s1 1 (by omega)]; exact ⟨_, h1, rfl⟩
    | 2, he => rw [s1 2 (by omega)]; exact ⟨_, h2, rfl⟩
    | 3, he => rw [s2]; exact ⟨_, h3, rfl⟩
    | k + 4, he => cases he
  · match k, hk with
    | 0, _ =>
      rw [h0] at he; cases he
      exact ⟨_, rfl, fun _ => rfl⟩
    | 1, _ =>
      rw [h1] at he; cases he
      exact ⟨_, rfl, fun h => by cases h⟩
    | 2, _ =>
      rw [h2] at he; cases he
      exact ⟨_, rfl, fun h => by cases h⟩
    | k + 3, hk => exact absurd hk (by show ¬ k + 3 < 3; omega)
  · match k, hk with
    | 0, hk => exact absurd hk (by show ¬ 3 ≤ 0; omega)
    | 1, hk => exact absurd hk (by show ¬ 3 ≤ 1; omega)
    | 2, hk => exact absurd hk (by show ¬ 3 ≤ 2; omega)
    | 3, _ => cases he; rfl
    | k + 4, _ => cases he
theorem tab_eff {P : Program} {f k j : Nat} {M : Mm} {rest p : List SV} {s : TS} {K0 : SV → Mm → Prop} {Q : SV → TS → Prop} (hp : SV.wf.wfs 0 p = true) (hrest : SV.wf.wfs 0 rest = true) (hS : Spec P G f (.ptr 1 0 :: rest) (M0T p s) K0) (h : ∀ r M1, K0 r M1 → ∃ s' t, r.wf 0 = true ∧ Q r s' ∧ 2 ≤ t ∧ M1[0]? = some e0 ∧ M1[1]? = some (rowT p s' t) ∧ (∃ c, M1[2]? = some ⟨true, c⟩) ∧ M1[t]? = some (recT' s')) (hk : M[k]? = some (rowT p s j)) (hj : M[j]? = some (recT' s)) (hne : k ≠ j) :
    Spec P G f (.ptr k 0 :: rest) M (fun r M' => ∃ s', Q r s' ∧ M' = ((M.set k (rowT p s' M.length)).set j goneE) ++ [recT' s']) :=
  effN hp hp hrest (Spec.mvT hp hS h) hk hj hne
def pT (mac : Tx) (own : BitVec 32) (q : Int) (f : BitVec 64) : List SV := [.s mac, .w32 own, .i q, .w64 f]
/-- The rows that count. -/
def TS.L (s : TS) : List Nr := s.l.take s.len
def TS.ok (s : TS) : Bool := (!s.b || Nat.beq s.len 0) && (Nat.beq s.l.length s.cap && (Nat.ble s.len s.cap && Nat.ble s.len 64))
theorem TS.ok_iff {s : TS} : s.ok = true ↔ ((!s.b || Nat.beq s.len 0) = true ∧ s.l.length = s.cap ∧ s.len ≤ s.cap ∧ s.len ≤ 64) := by
  unfold TS.ok
  simp only [Bool.and_eq_true]
  exact ⟨fun ⟨h1, h2, h3, h4⟩ => ⟨h1, Nat.eq_of_beq_eq_true h2, Nat.le_of_ble_eq_true h3, Nat.le_of_ble_eq_true h4⟩, fun ⟨h1, h2, h3, h4⟩ => ⟨h1, by rw [h2]; exact Nat.beq_refl _, ble_of h3, ble_of h4⟩⟩
theorem TS.L_len {s : TS} (h : s.ok = true) : s.L.length = s.len := by
  obtain ⟨-, h2, h3, -⟩ := TS.ok_iff.1 h
  unfold TS.L; rw [List.length_take]; omega
/-- A state in which just these are near. -/
def okT (s : TS) (L : List Nr) : Prop := s.ok = true ∧ s.L = L
def unT : Cont → Option (Tx × BitVec 32 × Int × BitVec 64 × (Bool × Nat × Nat × Nat))
  | .row [.s m, .w32 a, .i q, .w64 f, .ns b j sz len cap] => bif Nat.beq sz 3 then some (m, a, q, f, b, j, len, cap) else none
  | _ => none
def mkT (b : Bool) (len cap : Nat) (l : List Nr) : TS := ⟨b, len, cap, l⟩
def onT (M : Mm) (k off : Nat) (F : Tx → BitVec 32 → Int → BitVec 64 → TS → Nat → Prop) : Prop := match M[k]? with
  | some ⟨true, c⟩ => match unT c with
    | some (m, o, q, f, b, j, len, cap) => match M[j]? with
      | some ⟨true, d⟩ => match unN d with
        | some (b', l) => b' = b ∧ vsome (Nat.beq off 0 && TS.ok (mkT b len cap l)) (F m o q f (mkT b len cap l) j)
        | none => False
      | _ => False
    | none => False
  | _ => False
theorem onT_ok {M : Mm} {k off : Nat} {F : Tx → BitVec 32 → Int → BitVec 64 → TS → Nat → Prop} (h : onT M k off F) : ∃ m o q f s j, M[k]? = some (rowT (pT m o q f) s j) ∧ M[j]? = some (recT' s) ∧ k ≠ j ∧ off = 0 ∧ s.ok = true ∧ F m o q f s j := by
  unfold onT at h
  split at h
  · rename_i c hk
    split at h
    · rename_i m o q f b j len cap hu
      have hc : c = .row (pT m o q f ++ [.ns b j 3 len cap]) := by
        unfold unT at hu
        split at hu
        · rename_i m' o' q' f' b' j' sz len' cap'
          cases hz : Nat.beq sz 3 <;> rw [hz] at hu
          · cases hu
          · obtain rfl := Nat.eq_of_beq_eq_true hz
            cases hu; rfl
        · cases hu
      subst hc
      split at h
      · rename_i d hj
        split at h
        · rename_i b' l hl
          obtain rfl := unN_ok hl
          obtain ⟨rfl, h⟩ := h
          obtain ⟨h1, h⟩ := vsome_iff.1 h
          rw [Bool.and_eq_true] at h1
          refine ⟨m, o, q, f, ⟨b', len, cap, l⟩, j, hk, hj, ?_, Nat.eq_of_beq_eq_true h1.1, h1.2, h⟩
          intro e
          subst e
          rw [hk] at hj
          cases hj
        · exact h.elim
      · exact h.elim
    · exact h.elim
  · exact h.elim
def putT (M : Mm) (k j : Nat) (m : Tx) (o : BitVec 32) (q : Int) (f : BitVec 64) (s : TS) (K : Mm → Prop) : Prop := setK M k ⟨true, .row [.s m, .w32 o, .i q, .w64 f, .ns s.b M.length 3 s.len s.cap]⟩ fun M1 => setK M1 j goneE fun M2 => snocK M2 (recT' s) K
theorem putT_eq {M : Mm} {k j : Nat} {m : Tx} {o : BitVec 32} {q : Int} {f : BitVec 64} {s : TS} {K : Mm → Prop} : putT M k j m o q f s K = K (((M.set k (rowT (pT m o q f) s M.length)).set j goneE) ++ [recT' s]) := by
  unfold putT
  rw [setK_eq, setK_eq, snocK_eq]
  rfl
-- a table's own words
def m42 (mac : Tx) (own : BitVec 32) (q : Int) (f : BitVec 64) : Mm := [e0, ⟨false, .row (pT mac own q f)⟩]
theorem v42 (mac : Tx) (own : BitVec 32) (q : Int) (f : BitVec 64) (K : SV → Prop) : (vf Tryd.prog E0 noL 42 [.ptr 1 0] (m42 mac own q f) (fun r _ => K r)) = (K (SV.b (bif false then true else q == 0))) := by kernel_rfl
theorem v42z (K : SV → Prop) : (vf Tryd.prog E0 noL 42 [.v (.pointer none)] G (fun r _ => K r)) = (K (SV.b true)) := by kernel_rfl
def cNone : List SV → List Cont → Option (Bool × SV)
  | [.ptr _ off], [.row (.s _ :: .w32 _ :: .i q :: .w64 _ :: _)] => some (Nat.beq off 0, .b (q == 0))
  | [.v (.pointer none)], _ => some (true, .b true)
  | _, _ => none
theorem none_ok : POk Tryd.prog G 42 cNone := by
  intro args acs r hh β M w hR hw ha
  unfold cNone at hh
  split at hh
  · rename_i k off mac own q f more
    simp only [Option.some.injEq, Prod.mk.injEq] at hh
    obtain ⟨h0, rfl⟩ := hh
    obtain rfl := Nat.eq_of_beq_eq_true h0
    simp only [List.map_cons, List.map_nil, List.cons.injEq, and_true] at ha
    exact pureP (l := pT mac own q f) (m := more) (args0 := [.ptr 1 0]) (vf_ok e0_ok mixed (noL_ok _ _ _ _) (of_eq (v42 mac own q f _) rfl)) rfl rfl rfl rfl hR (tgt_ptr ha.symm rfl)
  · simp only [Option.some.injEq, Prod.mk.injEq, true_and] at hh
    subst hh
    exact pokE rfl e0_ok (noL_ok _ _ _ _) (v42z _) rfl rfl rfl hR
  · cases hh
def E44 (AA : BitVec 32 → Bool) (AM : Tx → Bool) : Env := ⟨G, (T0.add 19 (cA AA)).add 17 (cM AM), noC⟩
theorem e44_ok : EnvOk Tryd.prog (E44 aloneA aloneM) := ⟨PT.add_ok (PT.add_ok t0_ok aloneAddr_ok) alone_ok, noC_ok _ _⟩
theorem v44 (AA : BitVec 32 → Bool) (AM : Tx → Bool) (mac m : Tx) (own a : BitVec 32) (q : Int) (f : BitVec 64) (K : SV → Prop) : (vf Tryd.prog (E44 AA AM) noL 44 [.ptr 1 0, .w32 a, .s m] (m42 mac own q f) (fun r _ => K r)) = (bif AA a then bif bif true then AM m else false then K (SV.b (bif true then a != own else false)) else K (SV.b false) else K (SV.b false)) := by kernel_rfl
/-- Whether these may be another one's. -/
def othR (own a : BitVec 32) (m : Tx) : Bool := aloneA a && (aloneM m && a != own)
def cOth (F : BitVec 32 → BitVec 32 → Tx → Bool) : List SV → List Cont → Option (Bool × SV)
  | [.ptr _ off, .w32 a, .s m], [.row (.s _ :: .w32 own :: .i _ :: .w64 _ :: _), _, _] => some (Nat.beq off 0, .b (F own a m))
  | _, _ => none
theorem oth_ok : POk Tryd.prog G 44 (cOth othR) := by
  intro args acs r hh β M w hR hw ha
  unfold cOth at hh
  split at hh
  · rename_i k off a m mac own q f more _ _
    simp only [Option.some.injEq, Prod.mk.injEq] at hh
    obtain ⟨h0, rfl⟩ := hh
    obtain rfl := Nat.eq_of_beq_eq_true h0
    simp only [List.map_cons, List.map_nil, List.cons.injEq, and_true] at ha
    refine pureP (l := pT mac own q f) (m := more) (args0 := [.ptr 1 0, .w32 a, .s m]) (vf_ok e44_ok mixed (noL_ok _ _ _ _) (of_eq (v44 aloneA aloneM mac m own a q f _) ?_)) rfl rfl rfl rfl hR (tgt_ptr ha.1.symm rfl)
    unfold othR
    cases aloneA a
    · rfl
    · show bif bif true then aloneM m else false then _ else _
      cases aloneM m <;> rfl
  · cases hh
theorem v47 (mac to : Tx) (own a : BitVec 32) (o : BitVec 16) (q : Int) (f : BitVec 64) (K : SV → Prop) : (vf Tryd.prog E0 noL 47 [.ptr 1 0, .w16 o, .s to, .w32 a] (m42 mac own q f) (fun r _ => K r)) = (K (SV.agg [SV.w16 o, SV.s mac, SV.w32 own, SV.s to, SV.w32 a])) := by kernel_rfl
def cSay : List SV → List Cont → Option (Bool × SV)
  | [.ptr _ off, .w16 o, .s to, .w32 a], [.row (.s mac :: .w32 own :: .i _ :: .w64 _ :: _), _, _, _] => some (Nat.beq off 0, .agg [.w16 o, .s mac, .w32 own, .s to, .w32 a])
  | _, _ => none
theorem say_ok : POk Tryd.prog G 47 cSay := by
  intro args acs r hh β M w hR hw ha
  unfold cSay at hh
  split at hh
  · rename_i k off o to a mac own q f more _ _ _
    simp only [Option.some.injEq, Prod.mk.injEq] at hh
    obtain ⟨h0, rfl⟩ := hh
    obtain rfl := Nat.eq_of_beq_eq_true h0
    simp only [List.map_cons, List.map_nil, List.cons.injEq, and_true] at ha
    exact pureP (l := pT mac own q f) (m := more) (args0 := [.ptr 1 0, .w16 o, .s to, .w32 a]) (vf_ok e0_ok mixed (noL_ok _ _ _ _) (of_eq (v47 mac to own a o q f _) rfl)) rfl rfl rfl rfl hR (tgt_ptr ha.1.symm rfl)
  · cases hh
-- who goes
def MC : BitVec 64 := BitVec.ofInt 64 4611686018427387904
def pasL (n : BitVec 64) (L : List Nr) : List Nr := bif MC.ule n then L else kept n L
def E43 : Env := ⟨G, T0, noC.add 58 cDfN⟩
theorem e43_ok : EnvOk Tryd.prog E43 := ⟨t0_ok, CT.add_ok (noC_ok _ _) dfN_ok⟩
theorem v43 (mac : Tx) (own : BitVec 32) (q : Int) (f n : BitVec 64) (b : Bool) (len cap : Nat) (l : List Nr) (K : SV → Mm → Prop) : (vf Tryd.prog E43 noL 43 [.ptr 1 0, .w64 n] (M0T (pT mac own q f) ⟨b, len, cap, l⟩) K) = (bif (BitVec.ofInt 64 4611686018427387904).ule n then K (SV.b false) [e0, rowT (pT mac own q f) { b := b, len := len, cap := cap, l := l } 2, recT' { b := b, len := len, cap := cap, l := l }, { rw := true, c := Cont.row [SV.w64 n] }] else b = b ∧ bif (!b || len.beq 0) && (len.ble l.length && (len.ble cap && (len.ble 1000 && true))) then K (SV.b true) [e0, { rw := true, c := Cont.row ((pT mac own q f ++ [SV.ns b 2 3 len cap]).set 4 (SV.ns b 2 3 (kept n (List.take len l)).length cap)) }, nrE b (delL n len l), { rw := true, c := Cont.row [SV.w64 n] }] else False) := by kernel_rfl
theorem delL_take (n : BitVec 64) (len : Nat) (l : List Nr) : (delL n len l).take (kept n (l.take len)).length = kept n (l.take len) := by
  unfold delL; rw [List.append_assoc]; exact take_ins rfl
theorem delL_len (n : BitVec 64) (len : Nat) (l : List Nr) (h : len ≤ l.length) : (delL n len l).length = l.length := by
  have := kept_le n (l.take len)
  rw [List.length_take] at this
  unfold delL; simp; omega
def cPass : List SV → Mm → (SV → Mm → Prop) → Prop
  | [.ptr k off, .w64 n], M, K => onT M k off fun m o q f s j => ∀ s', okT s' (pasL n s.L) → putT M k j m o q f s' (K (.b (!(MC.ule n))))
  | _, _, _ => False
theorem pass_ok : COk Tryd.prog G 43 cPass := by
  intro args M K h
  unfold cPass at h
  split at h
  · rename_i k off n
    obtain ⟨m, o, q, f, s, j, hk, hj, hne, rfl, hok, h⟩ := onT_ok h
    obtain ⟨b, len, cap, l⟩ := s
    obtain ⟨o1, o2, o3, o4⟩ := TS.ok_iff.1 hok
    refine Spec.imp (tab_eff (Q := fun r s' => r = .b (!(MC.ule n)) ∧ okT s' (pasL n (TS.L ⟨b, len, cap, l⟩))) rfl rfl (vf_ok e43_ok mixed (noL_ok _ _ _ _) (of_eq (v43 m o q f n b len cap l (fun r M1 => ∃ s' t, r.wf 0 = true ∧ (r = .b (!(MC.ule n)) ∧ okT s' (pasL n (TS.L ⟨b, len, cap, l⟩))) ∧ 2 ≤ t ∧ M1[0]? = some e0 ∧ M1[1]? = some (rowT (pT m o q f) s' t) ∧ (∃ c, M1[2]? = some ⟨true, c⟩) ∧ M1[t]? = some (recT' s'))) ?_)) (fun r M1 h => h) hk hj hne) ?_
    · unfold pasL
      show bif MC.ule n then _ else _
      cases hc : MC.ule n
      · refine ⟨rfl, bif_of (and_t o1 (and_t (ble_of (by rw [o2]; exact o3)) (and_t (ble_of o3) (and_t (ble_of (Nat.le_trans o4 (by decide))) rfl)))) ?_⟩
        refine ⟨⟨b, (kept n (l.take len)).length, cap, delL n len l⟩, 2, rfl, ⟨rfl, TS.ok_iff.2 ⟨?_, ?_, ?_, ?_⟩, delL_take n len l⟩, Nat.le_refl _, rfl, rfl, ⟨_, rfl⟩, rfl⟩
        · show (!b || Nat.beq (kept n (l.take len)).length 0) = true
          cases b
          · rfl
          · have h0 : len = 0 := Nat.eq_of_beq_eq_true o1
            subst h0; rfl
        · show (delL n len l).length = cap
          rw [delL_len n len l (by rw [o2]; exact o3)]; exact o2
        · have := kept_le n (l.take len)
          rw [List.length_take] at this
          show (kept n (l.take len)).length ≤ cap
          have : len ≤ cap := o3
          omega
        · have := kept_le n (l.take len)
          rw [List.length_take] at this
          show (kept n (l.take len)).length ≤ 64
          have : len ≤ 64 := o4
          omega
      · exact ⟨⟨b, len, cap, l⟩, 2, rfl, ⟨rfl, hok, rfl⟩, Nat.le_refl _, rfl, rfl, ⟨_, rfl⟩, rfl⟩
    · rintro r M' ⟨s', ⟨rfl, hs⟩, rfl⟩
      have := h s' hs
      rw [putT_eq] at this
      exact this
  · exact h.elim
-- who is near
def E45 : Env := ⟨G, T0, noC.add 60 cBsN⟩
theorem e45_ok : EnvOk Tryd.prog E45 := ⟨t0_ok, CT.add_ok (noC_ok _ _) bsN_ok⟩
theorem v45 (mac : Tx) (own a : BitVec 32) (q : Int) (f : BitVec 64) (b : Bool) (len cap : Nat) (l : List Nr) (K : SV → Mm → Prop) : (vf Tryd.prog E45 noL 45 [.ptr 1 0, .w32 a] (M0T (pT mac own q f) ⟨b, len, cap, l⟩) K) = (b = b ∧ bif (!b || len.beq 0) && (len.ble l.length && (len.ble 1000 && sortB (List.take len l))) then K (SV.tup [SV.i (↑(cntL a (List.take len l)) : Int), SV.b (isL a (List.take len l))]) (M0T (pT mac own q f) { b := b, len := len, cap := cap, l := l }) else False) := by kernel_rfl
def cFind : List SV → Mm → (SV → Mm → Prop) → Prop
  | [.ptr k off, .w32 a], M, K => onT M k off fun m o q f s j => vsome (sortB s.L) (putT M k j m o q f s (K (.tup [.i (cntL a s.L : Nat), .b (isL a s.L)])))
  | _, _, _ => False
theorem find_ok : COk Tryd.prog G 45 cFind := by
  intro args M K h
  unfold cFind at h
  split at h
  · rename_i k off a
    obtain ⟨m, o, q, f, s, j, hk, hj, hne, rfl, hok, h⟩ := onT_ok h
    obtain ⟨hso, h⟩ := vsome_iff.1 h
    obtain ⟨b, len, cap, l⟩ := s
    obtain ⟨o1, o2, o3, o4⟩ := TS.ok_iff.1 hok
    rw [putT_eq] at h
    refine Spec.imp (tab_eff (Q := fun r s' => r = .tup [.i (cntL a (l.take len) : Nat), .b (isL a (l.take len))] ∧ s' = ⟨b, len, cap, l⟩) rfl rfl (vf_ok e45_ok mixed (noL_ok _ _ _ _) (of_eq (v45 m o a q f b len cap l (fun r M1 => ∃ s' t, r.wf 0 = true ∧ (r = .tup [.i (cntL a (l.take len) : Nat), .b (isL a (l.take len))] ∧ s' = ⟨b, len, cap, l⟩) ∧ 2 ≤ t ∧ M1[0]? = some e0 ∧ M1[1]? = some (rowT (pT m o q f) s' t) ∧ (∃ c, M1[2]? = some ⟨true, c⟩) ∧ M1[t]? = some (recT' s'))) ?_)) (fun r M1 h => h) hk hj hne) ?_
    · exact ⟨rfl, bif_of (and_t o1 (and_t (ble_of (by rw [o2]; exact o3)) (and_t (ble_of (Nat.le_trans o4 (by decide))) hso))) ⟨_, 2, rfl, ⟨rfl, rfl⟩, Nat.le_refl _, rfl, rfl, ⟨_, rfl⟩, rfl⟩⟩
    · rintro r M' ⟨s', ⟨rfl, rfl⟩, rfl⟩
      exact h
  · exact h.elim
-- who comes
def keepE (q : Int) (a : BitVec 32) (L : List Nr) : Int := bif isL a L then 0 else bif ile q (L.length : Int) then 6 else 0
def keepL (q : Int) (f : BitVec 64) (a : BitVec 32) (m : Tx) (n : BitVec 64) (L : List Nr) : List Nr := bif isL a L then L.set (cntL a L) (a, m, n + f, ()) else bif ile q (L.length : Int) then L else insL (cntL a L) (a, m, n + f, ()) L
def E46 : Env := ⟨G, T0.add 40 cCl, (noC.add 45 cFind).add 62 cInsN⟩
theorem e46_ok : EnvOk Tryd.prog E46 := ⟨PT.add_ok t0_ok clone_ok, CT.add_ok (CT.add_ok (noC_ok _ _) find_ok) insN_ok⟩
theorem v46 (mac m : Tx) (own a : BitVec 32) (q : Int) (f n : BitVec 64) (s : TS) (K : SV → Mm → Prop) : (vf Tryd.prog E46 noL 46 [.ptr 1 0, .w32 a, .s m, .w64 n] (M0T (pT mac own q f) s) K) = (bif (List.length m).ble (4294967296 : Nat) then s.b = s.b ∧ bif (mkT s.b s.len s.cap s.l).ok then bif sortB (mkT s.b s.len s.cap s.l).L then bif isL a (mkT s.b s.len s.cap s.l).L then bif !(mkT s.b s.len s.cap s.l).b && inR (↑(cntL a (mkT s.b s.len s.cap s.l).L) : Int) (mkT s.b s.len s.cap s.l).len then bif !(mkT s.b s.len s.cap s.l).b && (rok (0 : Nat) (cntL a (mkT s.b s.len s.cap s.l).L) (3 : Nat) NF [] (mkT s.b s.len s.cap s.l).l.length && true) then K (SV.i (0 : Int)) [{ rw := false, c := Cont.a8 HD }, { rw := true, c := Cont.row [SV.s mac, SV.w32 own, SV.i q, SV.w64 f, SV.ns (mkT s.b s.len s.cap s.l).b ((0 : Nat) + (1 : Nat) + (1 : Nat) + (1 : Nat) + (1 : Nat) + (1 : Nat) + (1 : Nat) + (1 : Nat) + (1 : Nat) + (1 : Nat) + (1 : Nat) + (1 : Nat) + (1 : Nat) + (1 : Nat) + (1 : Nat)) (3 : Nat) (mkT s.b s.len s.cap s.l).len (mkT s.b s.len s.cap s.l).cap] }, { rw := true, c := Cont.gone }, { rw := true, c := Cont.gone }, { rw := true, c := Cont.gone }, { rw := true, c := Cont.gone }, { rw := true, c := Cont.gone }, { rw := true, c := Cont.gone }, { rw := true, c := Cont.gone }, { rw := true, c := Cont.gone }, { rw := true, c := Cont.gone }, { rw := true, c := Cont.gone }, { rw := true, c := Cont.gone }, { rw := true, c := Cont.row [SV.w32 a, SV.s m, SV.w64 (n + f)] }, { rw := true, c := Cont.nrec (mkT s.b s.len s.cap s.l).b (57 : Nat) NF ((mkT s.b s.len s.cap s.l).l.set (cntL a (mkT s.b s.len s.cap s.l).L) (a, m, n + f, ())) }] else False else False else bif !(mkT s.b s.len s.cap s.l).b || (mkT s.b s.len s.cap s.l).len.beq (0 : Nat) then bif ile q (↑(mkT s.b s.len s.cap s.l).len : Int) then K (SV.i (6 : Int)) [{ rw := false, c := Cont.a8 HD }, { rw := true, c := Cont.row [SV.s mac, SV.w32 own, SV.i q, SV.w64 f, SV.ns (mkT s.b s.len s.cap s.l).b ((0 : Nat) + (1 : Nat) + (1 : Nat) + (1 : Nat) + (1 : Nat) + (1 : Nat) + (1 : Nat) + (1 : Nat) + (1 : Nat) + (1 : Nat) + (1 : Nat) + (1 : Nat) + (1 : Nat) + (1 : Nat) + (1 : Nat)) (3 : Nat) (mkT s.b s.len s.cap s.l).len (mkT s.b s.len s.cap s.l).cap] }, { rw := true, c := Cont.gone }, { rw := true, c := Cont.gone }, { rw := true, c := Cont.gone }, { rw := true, c := Cont.gone }, { rw := true, c := Cont.gone }, { rw := true, c := Cont.gone }, { rw := true, c := Cont.gone }, { rw := true, c := Cont.gone }, { rw := true, c := Cont.gone }, { rw := true, c := Cont.gone }, { rw := true, c := Cont.gone }, { rw := true, c := Cont.row [SV.w32 a, SV.s m, SV.w64 (n + f)] }, { rw := true, c := Cont.nrec (mkT s.b s.len s.cap s.l).b (57 : Nat) NF (mkT s.b s.len s.cap s.l).l }] else (((mkT s.b s.len s.cap s.l).b = (mkT s.b s.len s.cap s.l).b ∧ bif (!(mkT s.b s.len s.cap s.l).b || (mkT s.b s.len s.cap s.l).len.beq (0 : Nat)) && ((mkT s.b s.len s.cap s.l).l.length.beq (mkT s.b s.len s.cap s.l).cap && ((mkT s.b s.len s.cap s.l).len.ble (mkT s.b s.len s.cap s.l).cap && ((mkT s.b s.len s.cap s.l).len.ble (1000 : Nat) && ile (↑(cntL a (mkT s.b s.len s.cap s.l).L) : Int) (↑(mkT s.b s.len s.cap s.l).len : Int)))) then ∀ (cap' : Nat) (l' : List Nr), List.take ((mkT s.b s.len s.cap s.l).len + (1 : Nat)) l' = insL (cntL a (mkT s.b s.len s.cap s.l).L) (a, m, n + f, ()) (List.take (mkT s.b s.len s.cap s.l).len (mkT s.b s.len s.cap s.l).l) → l'.length = cap' → K (SV.i (0 : Int)) [{ rw := false, c := Cont.a8 HD }, { rw := true, c := Cont.row ([SV.s mac, SV.w32 own, SV.i q, SV.w64 f, SV.ns (mkT s.b s.len s.cap s.l).b ((0 : Nat) + (1 : Nat) + (1 : Nat) + (1 : Nat) + (1 : Nat) + (1 : Nat) + (1 : Nat) + (1 : Nat) + (1 : Nat) + (1 : Nat) + (1 : Nat) + (1 : Nat) + (1 : Nat) + (1 : Nat) + (1 : Nat)) (3 : Nat) (mkT s.b s.len s.cap s.l).len (mkT s.b s.len s.cap s.l).cap].set (4 : Nat) (SV.ns false ((0 : Nat) + (1 : Nat) + (1 : Nat) + (1 : Nat) + (1 : Nat) + (1 : Nat) + (1 : Nat) + (1 : Nat) + (1 : Nat) + (1 : Nat) + (1 : Nat) + (1 : Nat) + (1 : Nat) + (1 : Nat) + (1 : Nat) + (1 : Nat) + (1 : Nat)) (3 : Nat) ((mkT s.b s.len s.cap s.l).len + (1 : Nat)) cap')) }, { rw := true, c := Cont.gone }, { rw := true, c := Cont.gone }, { rw := true, c := Cont.gone }, { rw := true, c := Cont.gone }, { rw := true, c := Cont.gone }, { rw := true, c := Cont.gone }, { rw := true, c := Cont.gone }, { rw := true, c := Cont.gone }, { rw := true, c := Cont.gone }, { rw := true, c := Cont.gone }, { rw := true, c := Cont.gone }, { rw := true, c := Cont.row [SV.w32 a, SV.s m, SV.w64 (n + f)] }, goneE, { rw := true, c := Cont.recs (some (57 : Nat)) [Fk.u32, Fk.s, Fk.u64] [] [(a, m, n + f, ())] }, nrE false l'] ∧ True else False) ∧ True) ∧ True else False else False else False else False) := by kernel_rfl
def cKeep : List SV → Mm → (SV → Mm → Prop) → Prop
  | [.ptr k off, .w32 a, .s m', .w64 n], M, K => onT M k off fun m o q f s j => vsome (sortB s.L && (Nat.ble m'.length 4294967296 && ile q 64)) (∀ s', okT s' (keepL q f a m' n s.L) → putT M k j m o q f s' (K (.i (keepE q a s.L))))
  | _, _, _ => False
theorem set_take {α : Type} (l : List α) (n i : Nat) (x : α) : (l.set i x).take n = (l.take n).set i x := by rw [List.take_set]
theorem keep_ok : COk Tryd.prog G 46 cKeep := by
  intro args M K h
  unfold cKeep at h
  split at h
  · rename_i k off a m' n
    obtain ⟨m, o, q, f, s, j, hk, hj, hne, rfl, hok, h⟩ := onT_ok h
    obtain ⟨hso, h⟩ := vsome_iff.1 h
    simp only [Bool.and_eq_true] at hso
    obtain ⟨hso, hml, hq⟩ := hso
    have hq : q ≤ 64 := by rw [ile_eq] at hq; exact of_decide_eq_true hq
    obtain ⟨o1, o2, o3, o4⟩ := TS.ok_iff.1 hok
    have hL := TS.L_len hok
    have hcl := cntL_le a s.L
    rw [hL] at hcl
    refine Spec.imp (tab_eff (Q := fun r s' => r = .i (keepE q a s.L) ∧ okT s' (keepL q f a m' n s.L)) rfl rfl (vf_ok e46_ok mixed (noL_ok _ _ _ _) (of_eq (v46 m m' o a q f n s (fun r M1 => ∃ s' t, r.wf 0 = true ∧ (r = .i (keepE q a s.L) ∧ okT s' (keepL q f a m' n s.L)) ∧ 2 ≤ t ∧ M1[0]? = some e0 ∧ M1[1]? = some (rowT (pT m o q f) s' t) ∧ (∃ c, M1[2]? = some ⟨true, c⟩) ∧ M1[t]? = some (recT' s'))) ?_)) (fun r M1 h => h) hk hj hne) ?_
    · refine bif_of hml ⟨rfl, bif_of hok (bif_of hso ?_)⟩
      unfold keepE keepL
      show bif isL a s.L then _ else _
      cases hi : isL a s.L
      · refine bif_of o1 ?_
        rw [hL]
        show bif ile q (s.len : Int) then _ else _
        cases hf : ile q (s.len : Int)
        · have hlt : ¬ q ≤ (s.len : Int) := fun e => by rw [ile_of e] at hf; cases hf
          refine ⟨⟨⟨rfl, bif_of (and_t o1 (and_t (show Nat.beq s.l.length s.cap = true by rw [o2]; exact Nat.beq_refl _) (and_t (ble_of o3) (and_t (ble_of (Nat.le_trans o4 (by decide))) (ile_of (show ((cntL a s.L : Nat) : Int) ≤ (s.len : Int) by omega)))))) fun cap' l' p1 p2 => ⟨?_, trivial⟩⟩, trivial⟩, trivial⟩
          have hl' : s.len + 1 ≤ l'.length := by
            have := congrArg List.length (show l'.take (s.len + 1) = insL (cntL a s.L) (a, m', n + f, ()) (s.l.take s.len) from p1)
            rw [insL_len, List.length_take, List.length_take] at this
            omega
          exact ⟨⟨false, s.len + 1, cap', l'⟩, 16, rfl, ⟨rfl, TS.ok_iff.2 ⟨rfl, p2, by show s.len + 1 ≤ cap'; omega, by show s.len + 1 ≤ 64; omega⟩, p1⟩, by decide, rfl, rfl, ⟨_, rfl⟩, rfl⟩
        · exact ⟨s, 14, rfl, ⟨rfl, hok, rfl⟩, by decide, rfl, rfl, ⟨_, rfl⟩, rfl⟩
      · have hc : cntL a s.L < s.len := by
          rw [is_cnt a s.L hso, hL] at hi
          cases hb : Nat.blt (cntL a s.L) s.len
          · rw [hb] at hi; cases hi
          · exact blt_lt hb
        have hb0 : s.b = false := by
          cases hb : s.b
          · rfl
          · rw [hb] at o1
            have : s.len = 0 := Nat.eq_of_beq_eq_true o1
            omega
        have hb1 : (!s.b) = true := by rw [hb0]; rfl
        refine bif_of (and_t hb1 (inRn hc (Nat.le_trans o4 (by decide)))) (bif_of (and_t hb1 (rok0 (Nat.lt_of_lt_of_le hc (show s.len ≤ s.l.length by rw [o2]; exact o3)))) ?_)
        refine ⟨⟨s.b, s.len, s.cap, s.l.set (cntL a s.L) (a, m', n + f, ())⟩, 14, rfl, ⟨rfl, TS.ok_iff.2 ⟨o1, by show (s.l.set _ _).length = s.cap; rw [List.length_set]; exact o2, o3, o4⟩, ?_⟩, by decide, rfl, rfl, ⟨_, rfl⟩, rfl⟩
        show (s.l.set (cntL a s.L) _).take s.len = _
        rw [set_take]; rfl
    · rintro r M' ⟨s', ⟨rfl, hs⟩, rfl⟩
      have := h s' hs
      rw [putT_eq] at this
      exact this
  · exact h.elim
end Go.Proofs.YtedcileokcbohaaDoor
