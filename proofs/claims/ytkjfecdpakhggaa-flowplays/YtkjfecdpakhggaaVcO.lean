/-
  A reckoner of conditions: what a function changes of the blocks that it is handed, told of a caller's blocks. No statement is proved here.
-/
import Derived.Test.YtkjfecdpakhggaaVcN
namespace Go.Proofs.Ytkjfecdpakhggaa
open Go.RowKit
set_option linter.unusedVariables false
set_option linter.unusedSimpArgs false

/-- Blocks that were written are laid back at their places. -/
def putAt (σ τ : Nat → Nat) : Nat → List Ent → Mm → Mm
  | _, [], M => M
  | j, e :: l, M => putAt σ τ (j + 1) l (bif e.rw then M.set (σ j) ⟨true, e.c.ren τ⟩ else M)
theorem putAt_len (σ τ : Nat → Nat) : ∀ (l : List Ent) (j : Nat) (M : Mm), (putAt σ τ j l M).length = M.length
  | [], j, M => rfl
  | e :: l, j, M => by
    rw [putAt, putAt_len σ τ l]
    cases e.rw <;> simp
theorem putAt_other (σ τ : Nat → Nat) : ∀ (l : List Ent) (j : Nat) (M : Mm) (k : Nat), (∀ (i : Nat) (e : Ent), l[i]? = some e → e.rw = true → σ (j + i) ≠ k) → (putAt σ τ j l M)[k]? = M[k]?
  | [], j, M, k, h => rfl
  | e :: l, j, M, k, h => by
    rw [putAt, putAt_other σ τ l (j + 1) _ k (fun i x hx hr => by have := h (i + 1) x hx hr; rwa [show j + 1 + i = j + (i + 1) by omega])]
    cases hr : e.rw
    · rfl
    · simp only [cond_true]
      exact List.getElem?_set_ne (h 0 e rfl hr)
theorem putAt_at (σ τ : Nat → Nat) : ∀ (l : List Ent) (j : Nat) (M : Mm) (i : Nat) (e : Ent), l[i]? = some e → e.rw = true → σ (j + i) < M.length → (∀ (i' : Nat) (x : Ent), l[i']? = some x → x.rw = true → i' ≠ i → σ (j + i') ≠ σ (j + i)) → (putAt σ τ j l M)[σ (j + i)]? = some ⟨true, e.c.ren τ⟩
  | e0 :: l, j, M, 0, e, he, hr, hl, hi => by
    obtain rfl := Option.some.inj he
    rw [putAt, putAt_other σ τ l (j + 1) _ _ (fun i x hx hxr => by have := hi (i + 1) x hx hxr (by omega); rwa [show j + 1 + i = j + (i + 1) by omega]), hr]
    simp only [cond_true, Nat.add_zero]
    exact List.getElem?_set_self hl
  | e0 :: l, j, M, i + 1, e, he, hr, hl, hi => by
    have hlen : (bif e0.rw then M.set (σ j) ⟨true, e0.c.ren τ⟩ else M).length = M.length := by cases e0.rw <;> simp
    have := putAt_at σ τ l (j + 1) (bif e0.rw then M.set (σ j) ⟨true, e0.c.ren τ⟩ else M) i e he hr (by rw [hlen, show j + 1 + i = j + (i + 1) by omega]; exact hl) (fun i' x hx hxr hne => by have := hi (i' + 1) x hx hxr (by omega); rwa [show j + 1 + i' = j + (i' + 1) by omega, show j + 1 + i = j + (i + 1) by omega])
    rw [putAt, show j + (i + 1) = j + 1 + i by omega]
    exact this
def Ent.ren (τ : Nat → Nat) (e : Ent) : Ent := ⟨e.rw, e.c.ren τ⟩
/-- The places of a function's blocks in the caller's list behind the call. -/
def reloc (σ : Nat → Nat) (n m : Nat) : Nat → Nat := fun j => if j < n then σ j else m + (j - n)
def back (G R M : Mm) (σ : Nat → Nat) (M1 : Mm) : Mm :=
  putAt σ (reloc σ (G ++ R).length M.length) G.length ((M1.drop G.length).take R.length) M ++ (M1.drop (G ++ R).length).map (Ent.ren (reloc σ (G ++ R).length M.length))
theorem lift_of {P : Program} {G R M : Mm} {σ β : Nat → Nat} {w : World} {f : Nat} {args0 : List SV} {K0 : SV → Mm → Prop} (hS : Spec P G f args0 (G ++ R) K0) (hR : Rel G β M w) (hl : Lies G R M σ) (ha : SV.wf.wfs (G ++ R).length args0 = true) :
    CallR P f (vals β (rens σ args0)).toArray w (fun v w' => ∃ β2 M2 r2, Ext β M w β2 M2 w' ∧ Rel G β2 M2 w' ∧ (r2.wf M2.length = true ∧ v = val β2 r2) ∧ ∃ r1 M1, K0 r1 M1 ∧ r2 = ren (reloc σ (G ++ R).length M.length) r1 ∧ M2 = back G R M σ M1) := by
  have h0 := hR.sel hl
  have hcall := hS _ w h0 ha
  rw [vals_ren]
  have conv : ∀ (v : Value) (w' : World), (∃ β' M' r, Ext (fun k => β (σ k)) (G ++ R) w β' M' w' ∧ Rel G β' M' w' ∧ (r.wf M'.length = true ∧ v = val β' r) ∧ K0 r M') → ∃ β2 M2 r2, Ext β M w β2 M2 w' ∧ Rel G β2 M2 w' ∧ (r2.wf M2.length = true ∧ v = val β2 r2) ∧ ∃ r1 M1, K0 r1 M1 ∧ r2 = ren (reloc σ (G ++ R).length M.length) r1 ∧ M2 = back G R M σ M1 := by
    rintro v w' ⟨β', M1, r1, hE, hR1, ⟨hw, rfl⟩, hK⟩
    have hGR : (G ++ R).length = G.length + R.length := by simp
    generalize hn : (G ++ R).length = n at *
    generalize hτ : reloc σ n M.length = τ
    have hn1 : n ≤ M1.length := by rw [← hn]; exact hE.len
    have τold : ∀ k, k < n → τ k = σ k := fun k hk => by rw [← hτ]; simp [reloc, hk]
    have τnew : ∀ i, τ (n + i) = M.length + i := fun i => by rw [← hτ]; unfold reloc; rw [if_neg (by omega)]; omega
    -- the function's blocks, behind it
    have L : ∀ (i : Nat) (e : Ent), ((M1.drop G.length).take R.length)[i]? = some e ↔ i < R.length ∧ M1[G.length + i]? = some e := fun i e => by
      rw [List.getElem?_take, List.getElem?_drop]
      split
      · rename_i h; simp [h]
      · rename_i h; simp [h]
    have flag : ∀ (i : Nat) (e : Ent), i < R.length → M1[G.length + i]? = some e → ∃ x, R[i]? = some x ∧ x.rw = e.rw := fun i e hi he => by
      have h1 : R[i]? = some R[i] := List.getElem?_eq_getElem hi
      have h2 : (G ++ R)[G.length + i]? = some R[i] := by rw [List.getElem?_append_right (by omega), Nat.add_sub_cancel_left]; exact h1
      obtain ⟨c, h3, -⟩ := hE.keep _ _ h2
      rw [h3] at he
      obtain rfl := Option.some.inj he
      exact ⟨_, h1, rfl⟩
    let M2 : Mm := putAt σ τ G.length ((M1.drop G.length).take R.length) M ++ (M1.drop n).map (Ent.ren τ)
    let β2 : Nat → Nat := fun k => if k < M.length then β k else β' (n + (k - M.length))
    have β2old : ∀ k, k < M.length → β2 k = β k := fun k hk => by simp [β2, hk]
    have σlt : ∀ k, k < n → σ k < M.length := fun k hk => hl.lt k (by rw [hn]; exact hk)
    have β2τ : ∀ k, β2 (τ k) = β' k ∨ ¬ k < M1.length := fun k => by
      rcases Nat.lt_or_ge k n with q | q
      · left; rw [τold k q, β2old _ (σlt k q)]; exact (hE.agree k (by rw [hn]; exact q)).symm
      · obtain ⟨i, rfl⟩ := Nat.exists_eq_add_of_le q
        left; rw [τnew]
        show (if M.length + i < M.length then β (M.length + i) else β' (n + (M.length + i - M.length))) = _
        rw [if_neg (by omega), Nat.add_sub_cancel_left]
    have β2τ' : ∀ k, k < M1.length → β2 (τ k) = β' k := fun k hk => (β2τ k).resolve_right (fun h => h hk)
    have len2 : M2.length = M.length + (M1.length - n) := by simp [M2, putAt_len]
    have τlt : ∀ k, k < M1.length → τ k < M2.length := fun k hk => by
      rw [len2]
      rcases Nat.lt_or_ge k n with q | q
      · rw [τold k q]; have := σlt k q; omega
      · obtain ⟨i, rfl⟩ := Nat.exists_eq_add_of_le q
        rw [τnew]; omega
    -- where an entry comes from
    have src : ∀ (k : Nat) (e : Ent), M2[k]? = some e → (k < M.length ∧ M[k]? = some e ∧ ∀ (i : Nat) (x : Ent), R[i]? = some x → x.rw = true → σ (G.length + i) ≠ k) ∨ (∃ (j : Nat) (x : Ent), M1[j]? = some x ∧ k = τ j ∧ e = ⟨true, x.c.ren τ⟩ ∧ x.rw = true ∧ (n ≤ j ∨ ∃ i y, j = G.length + i ∧ i < R.length ∧ R[i]? = some y ∧ y.rw = true)) := fun k e he => by
      rcases Nat.lt_or_ge k M.length with q | q
      · have he' : (putAt σ τ G.length ((M1.drop G.length).take R.length) M)[k]? = some e := by
          have h1 : M2[k]? = _ := List.getElem?_append_left (by rw [putAt_len]; exact q)
          rw [h1] at he; exact he
        by_cases hex : ∃ (i : Nat) (x : Ent), R[i]? = some x ∧ x.rw = true ∧ σ (G.length + i) = k
        · obtain ⟨i, x, hx, hxr, rfl⟩ := hex
          have hi : i < R.length := lt_of_get hx
          have hj : G.length + i < M1.length := by omega
          obtain ⟨y, hy, hyr⟩ := flag i _ hi (List.getElem?_eq_getElem hj)
          have hxy : y = x := Option.some.inj (hy.symm.trans hx)
          subst hxy
          have h2 := putAt_at σ τ _ G.length M i _ ((L i _).2 ⟨hi, List.getElem?_eq_getElem hj⟩) (by rw [← hyr]; exact hxr) q (fun i' z hz hzr hne => by
            obtain ⟨hi', hz'⟩ := (L i' z).1 hz
            obtain ⟨z', hz1, hz2⟩ := flag i' z hi' hz'
            exact hl.inj i' i z' y hz1 hx hne (by rw [hz2]; exact hzr))
          rw [h2] at he'
          exact .inr ⟨G.length + i, _, List.getElem?_eq_getElem hj, (τold _ (by omega)).symm, (Option.some.inj he').symm, by rw [← hyr]; exact hxr, .inr ⟨i, y, rfl, hi, hx, hxr⟩⟩
        · have h2 := putAt_other σ τ ((M1.drop G.length).take R.length) G.length M k (fun i z hz hzr e1 => by
            obtain ⟨hi', hz'⟩ := (L i z).1 hz
            obtain ⟨z', hz1, hz2⟩ := flag i z hi' hz'
            exact hex ⟨i, z', hz1, by rw [hz2]; exact hzr, e1⟩)
          rw [h2] at he'
          exact .inl ⟨q, he', fun i x hx hxr e1 => hex ⟨i, x, hx, hxr, e1⟩⟩
      · have h1 : M2[k]? = ((M1.drop n).map (Ent.ren τ))[k - M.length]? := by
          show (_ ++ _)[k]? = _
          rw [List.getElem?_append_right (by rw [putAt_len]; exact q), putAt_len]
        rw [h1, List.getElem?_map, List.getElem?_drop] at he
        cases hx : M1[n + (k - M.length)]? with
        | none => rw [hx] at he; cases he
        | some x =>
          rw [hx] at he
          have hr := hE.new _ x (by rw [hn]; omega) hx
          refine .inr ⟨n + (k - M.length), x, hx, by rw [τnew]; omega, ?_, hr, .inl (by omega)⟩
          rw [← Option.some.inj he, ← hr]; rfl
    -- a block of the function's that is ours
    have ours : ∀ b, rwset (fun k => β (σ k)) (G ++ R) b → ∃ (i : Nat) (y : Ent), R[i]? = some y ∧ y.rw = true ∧ own (β (σ (G.length + i))) y.c b := fun b hb => by
      obtain ⟨j, e, he, hr, hb⟩ := hb
      rcases app_get he with ⟨q, hk⟩ | ⟨i, rfl, hi⟩
      · rw [(hR.ro j e hk).1] at hr; cases hr
      · exact ⟨i, e, hi, hr, hb⟩
    have oursM : ∀ (i : Nat) (y : Ent), R[i]? = some y → y.rw = true → ∃ c, M[σ (G.length + i)]? = some ⟨true, c⟩ ∧ c.here = true ∧ ∀ b0 b, own b0 y.c b → own b0 c b := fun i y hy hr => by
      obtain ⟨r, h1, h2, h3, -⟩ := hl.at' i y hy
      rw [h2 hr] at h1
      exact ⟨_, h1, by rw [here_ren]; exact h3, fun b0 b hb => (own_ren _ _ _ _).2 hb⟩
    have apart : ∀ (k : Nat) (e : Ent), M[k]? = some e → e.c.here = true → (∀ (i : Nat) (x : Ent), R[i]? = some x → x.rw = true → σ (G.length + i) ≠ k) → ∀ b, own (β k) e.c b → ¬ rwset (fun k => β (σ k)) (G ++ R) b := fun k e he hc hne b hbk hb => by
      obtain ⟨i, y, hy, hyr, h1⟩ := ours _ hb
      obtain ⟨c, h2, h3, h4⟩ := oursM i y hy hyr
      exact hR.dis _ _ _ _ h2 he (hne i y hy hyr) rfl h3 hc b (h4 _ _ h1) hbk
    -- a block of the function's list lies apart from one of the caller's that was not handed
    have far : ∀ (j k : Nat) (x y : Ent), M1[j]? = some x → x.rw = true → M[k]? = some y → y.c.here = true → (∀ (i : Nat) (x : Ent), R[i]? = some x → x.rw = true → σ (G.length + i) ≠ k) → ∀ b, own (β' j) x.c b → ¬ own (β k) y.c b := fun j k x y hx hxr hy hyc hne b hbj hbk => by
      rcases hE.rws b ⟨j, x, hx, hxr, hbj⟩ with h1 | h1
      · exact apart k y hy hyc hne b hbk h1
      · have := (hR.all k y hy hyc).lt hbk; omega
    refine ⟨β2, M2, ren τ r1, ⟨β2old, by rw [len2]; omega, fun b hb => ?_, hE.fp.mono fun k _ hk => ?_, fun k e he => ?_, fun k e hk he => ?_⟩, ⟨fun k e he hc => ?_, fun i j x y hx hy hij hr hxc hyc => ?_, fun g hg => ?_, by rw [len2]; have := hR.gl; omega, fun k hk => ?_, hR.ro, fun k e he => ?_⟩, ⟨wf_ren τlt r1 hw, ?_⟩, r1, M1, hK, rfl, by rw [back, hn, hτ]⟩
    · obtain ⟨k, e, he, hr, hb⟩ := hb
      rcases src k e he with ⟨q, hM, -⟩ | ⟨j, x, hx, rfl, rfl, hxr, -⟩
      · rw [β2old k q] at hb; exact .inl ⟨k, e, hM, hr, hb⟩
      · rw [β2τ' j (lt_of_get hx)] at hb
        rcases hE.rws b ⟨j, x, hx, hxr, (own_ren _ _ _ _).1 hb⟩ with h1 | h1
        · obtain ⟨i, y, hy, hyr, h2⟩ := ours _ h1
          obtain ⟨c, h3, h4, h5⟩ := oursM i y hy hyr
          exact .inl ⟨_, _, h3, rfl, h5 _ _ h2⟩
        · exact .inr h1
    · obtain ⟨i, y, hy, hyr, h2⟩ := ours _ hk
      obtain ⟨c, h3, h4, h5⟩ := oursM i y hy hyr
      exact ⟨_, _, h3, rfl, h5 _ _ h2⟩
    · have hk : k < M2.length := by rw [len2]; have := lt_of_get he; omega
      have hg := List.getElem?_eq_getElem hk
      rcases src k _ hg with ⟨q, hM, -⟩ | ⟨j, x, hx, hkj, hee, hxr, hj⟩
      · rw [he] at hM
        exact ⟨e.c, by rw [hg, ← Option.some.inj hM], fun _ => rfl⟩
      · rcases hj with hj | ⟨i, y, rfl, hi, hy, hyr⟩
        · obtain ⟨i, rfl⟩ := Nat.exists_eq_add_of_le hj
          rw [τnew] at hkj
          have := lt_of_get he; omega
        · rw [τold _ (by omega)] at hkj
          obtain ⟨c, h3, h4, -⟩ := oursM i y hy hyr
          rw [← hkj, he] at h3
          obtain rfl := Option.some.inj h3
          exact ⟨_, by rw [hg, hee], fun h => nomatch h⟩
    · rcases src k e he with ⟨q, -, -⟩ | ⟨j, x, hx, hkj, rfl, hxr, hj⟩
      · omega
      · rfl
    · rcases src k e he with ⟨q, hM, hne⟩ | ⟨j, x, hx, rfl, rfl, hxr, -⟩
      · have h1 := hR.all k e hM hc
        rw [β2old k q, at_agree β2old _ (hR.wf k e hM)]
        exact h1.same (fun b hb => hE.fp.block _ (h1.lt hb) (apart k e hM hc hne b hb)) hE.fp.size
      · have hxl := lt_of_get hx
        have h1 := hR1.all j x hx (by rw [here_ren] at hc; exact hc)
        rw [β2τ' j hxl, at_ren, at_agree β2τ' _ (hR1.wf j x hx)]
        rw [hxr] at h1; exact h1
    · rcases src i x hx with ⟨qi, hMi, hni⟩ | ⟨a, p, hp, rfl, rfl, hpr, -⟩
      · rcases src j y hy with ⟨qj, hMj, hnj⟩ | ⟨b, q, hq, rfl, rfl, hqr, -⟩
        · rw [β2old i qi, β2old j qj]; exact hR.dis i j x y hMi hMj hij hr hxc hyc
        · rw [β2old i qi, β2τ' b (lt_of_get hq)]; exact fun c hc1 hc2 => far b i q x hq hqr hMi hxc hni c ((own_ren _ _ _ _).1 hc2) hc1
      · rcases src j y hy with ⟨qj, hMj, hnj⟩ | ⟨b, q, hq, rfl, rfl, hqr, -⟩
        · rw [β2old j qj, β2τ' a (lt_of_get hp)]; exact fun c hc1 hc2 => far a j p y hp hpr hMj hyc hnj c ((own_ren _ _ _ _).1 hc1) hc2
        · rw [β2τ' a (lt_of_get hp), β2τ' b (lt_of_get hq)]
          exact fun c hc1 hc2 => hR1.dis a b p q hp hq (fun e => hij (by rw [e])) hpr (by rw [here_ren] at hxc; exact hxc) (by rw [here_ren] at hyc; exact hyc) c ((own_ren _ _ _ _).1 hc1) ((own_ren _ _ _ _).1 hc2)
    · rw [β2old g (Nat.lt_of_lt_of_le hg hR.gl)]; exact hR.glob g hg
    · have hkM : k < M.length := Nat.lt_of_lt_of_le hk hR.gl
      have hk2 : k < M2.length := by rw [len2]; omega
      have hg := List.getElem?_eq_getElem hk2
      rcases src k _ hg with ⟨q, hM, -⟩ | ⟨j, x, hx, hkj, hee, hxr, hj⟩
      · rw [hg, ← hM]; exact hR.pre k hk
      · exfalso
        rcases hj with hj | ⟨i, y, rfl, hi, hy, hyr⟩
        · obtain ⟨i, rfl⟩ := Nat.exists_eq_add_of_le hj
          rw [τnew] at hkj; omega
        · rw [τold _ (by omega)] at hkj
          obtain ⟨c, h3, h4, -⟩ := oursM i y hy hyr
          rw [← hkj] at h3
          have := (hR.ro k _ ((hR.pre k hk).symm.trans h3)).1
          cases this
    · rcases src k e he with ⟨q, hM, -⟩ | ⟨j, x, hx, rfl, rfl, hxr, -⟩
      · exact cwf_mono (by rw [len2]; omega) _ (hR.wf k e hM)
      · exact cwf_ren τlt _ (hR1.wf j x hx)
    · rw [val_ren]; exact (val_agree β2τ' r1 hw).symm
  rcases hcall with ⟨v, W', h2, h3⟩ | ⟨h2, h3⟩
  · exact .inl ⟨v, W', h2, conv _ _ h3⟩
  · exact .inr ⟨h2, h3.mono fun e W' ⟨v, he, hq⟩ => ⟨v, he, conv _ _ hq⟩⟩
end Go.Proofs.Ytkjfecdpakhggaa
