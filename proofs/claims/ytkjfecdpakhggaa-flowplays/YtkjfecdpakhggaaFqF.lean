/-
  flow: a whole queue at one place: what a call does that is handed it. No statement is proved here.
-/
import Derived.Test.YtkjfecdpakhggaaFqD
namespace Go.Proofs.Ytkjfecdpakhggaa
open Go.RowKit
set_option linter.unusedVariables false
set_option linter.unusedSimpArgs false
set_option maxRecDepth 100000

/-- A call that is handed a resource, and does what it does of the blocks of that resource told one by one. -/
theorem res_pack {f : Nat} {xs : List SV} {M : Mm} {k : Nat} {s : St} {M0 : Mm} {b0 : Nat → Nat} {Q K : SV → Mm → Prop}
    (hk : M[k]? = some ⟨true, .res s⟩) (hb0 : b0 0 = s.mb) (hlen : 0 < M0.length) (hmem : ∀ b, rwset b0 M0 b → b ∈ s.objs.map (·.1)) (h0 : ∀ w, RIn s.objs w → Rel G b0 M0 w)
    (hS : Spec Try.prog G f (.ptr 0 0 :: xs) M0 Q) (hx : SV.wf.wfs 0 xs = true)
    (hQ : ∀ r M1, Q r M1 → r.wf 0 = true ∧ ∀ β1 w', Rel G β1 M1 w' → β1 0 = s.mb → ∃ s', s'.mb = s.mb ∧ RIn s'.objs w' ∧ (∀ i ∈ s'.objs.map (·.1), rwset β1 M1 i) ∧ K r (M.set k ⟨true, .res s'⟩)) :
    Spec Try.prog G f (.ptr k 0 :: xs) M K := by
  intro β w hR hwf
  obtain ⟨hb, hRi⟩ := hR.at_res hk
  have hR0 : Rel G b0 M0 w := h0 w hRi
  have hargs : vals β (.ptr k 0 :: xs) = vals b0 (.ptr 0 0 :: xs) := by
    show Value.pointer (some ⟨β k, 0, none⟩) :: vals β xs = Value.pointer (some ⟨b0 0, 0, none⟩) :: vals b0 xs
    rw [hb, hb0, vals_agree (n := 0) (β := b0) (β' := β) (fun k hk => absurd hk (by omega)) xs hx]
  rw [hargs]
  refine (hS b0 w hR0 ?_).mono fun v w' hh => ?_
  · show (Nat.blt 0 M0.length && SV.wf.wfs M0.length xs) = true
    rw [show Nat.blt 0 M0.length = true by rw [Nat.blt_eq]; exact hlen, wfs_mono (Nat.zero_le _) xs hx]; rfl
  obtain ⟨β1, M1, r, hE, hR1, ⟨hrw, rfl⟩, hQr⟩ := hh
  obtain ⟨hr0, hp⟩ := hQ r M1 hQr
  obtain ⟨s', h1, h2, h3, h4⟩ := hp β1 w' hR1 ((hE.agree 0 hlen).trans hb0)
  obtain ⟨g1, g2⟩ := hR.setR (c' := .res s') hk rfl (hE.fp.mono fun i _ hi => hmem i hi) rfl (fun i hi => (hE.rws i (h3 i hi)).imp (hmem i) id) (fun _ => ⟨hb.trans h1.symm, h2⟩)
  exact ⟨β, _, r, g2, g1, ⟨wf_mono (Nat.zero_le _) r hr0, (val_agree (n := 0) (fun k hk => absurd hk (by omega)) r hr0)⟩, h4⟩
/-- A call that makes a resource. -/
theorem res_new {f : Nat} {xs : List SV} {M : Mm} {Q K : SV → Mm → Prop} (hS : Spec Try.prog G f xs [] Q) (hx : SV.wf.wfs 0 xs = true)
    (hQ : ∀ r M1, Q r M1 → (r.wf 0 = true ∧ K r M) ∨ ∃ j ys, (SV.wf.wfs 0 ys = true ∧ r = .tup (.ptr j 0 :: ys) ∨ r = .ptr j 0) ∧ ∀ β1 w', Rel G β1 M1 w' → ∃ s', s'.mb = β1 j ∧ RIn s'.objs w' ∧ (∀ i ∈ s'.objs.map (·.1), rwset β1 M1 i) ∧ ((r = .ptr j 0 → K (.ptr M.length 0) (M ++ [⟨true, .res s'⟩])) ∧ (r = .tup (.ptr j 0 :: ys) → K (.tup (.ptr M.length 0 :: ys)) (M ++ [⟨true, .res s'⟩])))) :
    Spec Try.prog G f xs M K := by
  intro β w hR hwf
  have hR0 : Rel G β ([] : Mm) w := ⟨fun k x hx _ => (by cases hx), fun i j x y hx _ _ _ _ _ => (by cases hx), fun g hg => absurd hg (by show ¬ g < 0; omega), Nat.zero_le _, fun k hk => absurd hk (by show ¬ k < 0; omega), fun k x hx => (by cases hx), fun k x hx => (by cases hx)⟩
  refine (hS β w hR0 hx).mono fun v w' hh => ?_
  obtain ⟨β1, M1, r, hE, hR1, ⟨hrw, rfl⟩, hQr⟩ := hh
  have hF : Fp0 w w' := hE.fp.mono fun i _ hi => by
    obtain ⟨k, e, he, -⟩ := hi
    cases he
  rcases hQ r M1 hQr with ⟨hr0, hK⟩ | ⟨j, ys, hr, hp⟩
  · exact ⟨β, M, r, Ext.step hF, hR.step hF, ⟨wf_mono (Nat.zero_le _) r hr0, (val_agree (n := 0) (fun k hk => absurd hk (by omega)) r hr0)⟩, hK⟩
  · obtain ⟨s', h1, h2, h3, h4, h5⟩ := hp β1 w' hR1
    obtain ⟨g1, g2⟩ := hR.moreR (x := .res s') (b := s'.mb) hF (fun i hi => by
      rcases hE.rws i (h3 i hi) with ⟨k, e, he, -⟩ | q
      · cases he
      · exact q) rfl ⟨rfl, h2⟩
    have eb : upd1 β M.length s'.mb M.length = s'.mb := by unfold upd1; rw [if_pos rfl]
    rcases hr with ⟨hys, rfl⟩ | rfl
    · refine ⟨_, _, .tup (.ptr M.length 0 :: ys), g2, g1, ⟨?_, ?_⟩, h5 rfl⟩
      · show (Nat.blt M.length (M ++ _).length && SV.wf.wfs _ ys) = true
        rw [show Nat.blt M.length (M ++ [(⟨true, .res s'⟩ : Ent)]).length = true by rw [Nat.blt_eq]; simp, wfs_mono (Nat.zero_le _) ys hys]; rfl
      · show Value.tuple (Value.pointer (some ⟨β1 j, 0, none⟩) :: vals β1 ys).toArray = Value.tuple (Value.pointer (some ⟨upd1 β M.length s'.mb M.length, 0, none⟩) :: vals _ ys).toArray
        rw [eb, h1, vals_agree (n := 0) (β := β1) (β' := upd1 β M.length (β1 j)) (fun k hk => absurd hk (by omega)) ys hys]
    · refine ⟨_, _, .ptr M.length 0, g2, g1, ⟨?_, ?_⟩, h4 rfl⟩
      · show Nat.blt M.length (M ++ _).length = true
        rw [Nat.blt_eq]; simp
      · show Value.pointer (some ⟨β1 j, 0, none⟩) = Value.pointer (some ⟨upd1 β M.length s'.mb M.length, 0, none⟩)
        rw [eb, h1]
-- the program's
def b0p (rb : Nat) (p : QuP) : Nat → Nat := fun i => if i = 0 then rb else if i = 1 then p.mp else p.bb
theorem m0p_len (p : QuP) : 0 < (M0p p).length := by unfold M0p; cases p.nl <;> exact Nat.zero_lt_succ _
theorem objs_P (rb : Nat) (p : QuP) : (stP rb p).objs = p.objs rb := rfl
theorem objs_mem {rb : Nat} {p : QuP} {i : Nat} : i ∈ (stP rb p).objs.map (·.1) ↔ i = rb ∨ i = p.mp ∨ (p.nl = false ∧ i = p.bb) := by
  rw [objs_P]
  unfold QuP.objs
  cases p.nl <;> simp
theorem stM_objs (mp clk : Nat) (es : List EntE) : (stM mp clk es).objs = [(mp, .map (es.map EntE.entry).toArray clk)] := rfl
theorem rw0p {rb : Nat} {p : QuP} {b : Nat} (h : rwset (b0p rb p) (M0p p) b) : b ∈ (stP rb p).objs.map (·.1) := by
  rw [objs_mem]
  obtain ⟨k, x, hx, -, ho⟩ := h
  unfold M0p at hx
  cases hn : p.nl <;> rw [hn] at hx
  · match k, hx, ho with
    | 0, hx, ho => cases hx; exact .inl ho
    | 1, hx, ho =>
      cases hx
      have ho : b ∈ [p.mp] := ho
      exact .inr (.inl (List.mem_singleton.1 ho))
    | 2, hx, ho => cases hx; exact .inr (.inr ⟨rfl, ho⟩)
    | k + 3, hx, ho => cases hx
  · match k, hx, ho with
    | 0, hx, ho => cases hx; exact .inl ho
    | 1, hx, ho =>
      cases hx
      have ho : b ∈ [p.mp] := ho
      exact .inr (.inl (List.mem_singleton.1 ho))
    | k + 2, hx, ho => cases hx
/-- Lists of blocks, each another one, told one by one. -/
theorem rel_of {β : Nat → Nat} {M : Mm} {w : World} (ha : ∀ (k : Nat) (e : Ent), M[k]? = some e → e.c.here = true → At β w (β k) e.rw e.c) (hd : ∀ (i j : Nat) (x y : Ent), M[i]? = some x → M[j]? = some y → i < j → ∀ b, own (β i) x.c b → ¬ own (β j) y.c b) (hw : ∀ (k : Nat) (e : Ent), M[k]? = some e → e.c.wf M.length = true) : Rel G β M w :=
  ⟨ha, fun i j x y hx hy hij hr hxc hyc b hb hb' => by
    rcases Nat.lt_or_ge i j with g | g
    · exact hd i j x y hx hy g b hb hb'
    · exact hd j i y x hy hx (by omega) b hb' hb, fun g hg => absurd hg (by show ¬ g < 0; omega), Nat.zero_le _, fun k hk => absurd hk (by show ¬ k < 0; omega), fun k x hx => (by cases hx), hw⟩
theorem rel0p {w : World} {rb : Nat} {p : QuP} (h : RIn (stP rb p).objs w) : Rel G (b0p rb p) (M0p p) w := by
  obtain ⟨ha, hd⟩ := h
  rw [objs_P] at ha hd
  have h1 : Holds w rb true [.int .i64 p.z, c32 p.a, p.sl, .map (some p.mp), c32 p.en, .bool p.tl, .bool p.ed] none := ha (rb, _) (List.mem_cons_self ..)
  have h2 : w.heap[p.mp]? = some (.map (p.es.map EntE.entry).toArray p.clk) := ha (p.mp, .map (p.es.map EntE.entry).toArray p.clk) (List.mem_cons_of_mem _ (List.mem_cons_self ..))
  have hm : At (b0p rb p) w p.mp true (.res (stM p.mp p.clk p.es)) := ⟨rfl, ⟨fun x hx => by
    rw [stM_objs, List.mem_singleton] at hx
    subst hx; exact h2, by rw [stM_objs]; simp⟩⟩
  unfold QuP.sl at h1
  unfold M0p
  unfold QuP.objs at hd
  cases hn : p.nl
  · have h3 : Holds w p.bb true (p.l.map c8) none := ha (p.bb, .cells (p.l.map c8) none) (by unfold QuP.objs; rw [hn]; exact List.mem_cons_of_mem _ (List.mem_cons_of_mem _ (List.mem_cons_self ..)))
    rw [hn] at h1 hd
    simp at hd
    obtain ⟨⟨d1, d2⟩, d3⟩ := hd
    refine rel_of (fun k x hx hc => ?_) (fun i j x y hx hy hij b hb hb' => ?_) (fun k x hx => ?_)
    · match k, hx with
      | 0, hx => cases hx; exact h1
      | 1, hx => cases hx; exact hm
      | 2, hx => cases hx; exact (At_of rfl).2 h3
    · match i, j, hx, hy with
      | 0, 1, hx, hy =>
        cases hx; cases hy
        have e1 : b = rb := hb
        have e2 : b ∈ [p.mp] := hb'
        exact d1 (e1.symm.trans (List.mem_singleton.1 e2))
      | 0, 2, hx, hy => cases hx; cases hy; exact d2 ((show b = rb from hb).symm.trans hb')
      | 1, 2, hx, hy =>
        cases hx; cases hy
        have e1 : b ∈ [p.mp] := hb
        exact d3 ((List.mem_singleton.1 e1).symm.trans hb')
      | 0, 0, _, _ => omega
      | 1, 1, _, _ => omega
      | 2, 2, _, _ => omega
      | 1, 0, _, _ => omega
      | 2, 0, _, _ => omega
      | 2, 1, _, _ => omega
    · match k, hx with
      | 0, hx => cases hx; rfl
      | 1, hx => cases hx; rfl
      | 2, hx => cases hx; rfl
  · rw [hn] at h1 hd
    simp at hd
    refine rel_of (fun k x hx hc => ?_) (fun i j x y hx hy hij b hb hb' => ?_) (fun k x hx => ?_)
    · match k, hx with
      | 0, hx => cases hx; exact h1
      | 1, hx => cases hx; exact hm
    · match i, j, hx, hy with
      | 0, 1, hx, hy =>
        cases hx; cases hy
        have e1 : b = rb := hb
        have e2 : b ∈ [p.mp] := hb'
        exact hd (e1.symm.trans (List.mem_singleton.1 e2))
      | 0, 0, _, _ => omega
      | 1, 1, _, _ => omega
      | 1, 0, _, _ => omega
    · match k, hx with
      | 0, hx => cases hx; rfl
      | 1, hx => cases hx; rfl
theorem desc_res {β1 : Nat → Nat} {M1 : Mm} {w : World} (hR : Rel G β1 M1 w) {rb : Nat} {p : QuP} (hD : DescP M1 p) (hb : β1 0 = rb) : ∃ bb, RIn (stP rb { p with bb := bb }).objs w ∧ ∀ i ∈ (stP rb { p with bb := bb }).objs.map (·.1), rwset β1 M1 i := by
  obtain ⟨sl, h0, h1, h2⟩ := hD
  have a0 := hR.all 0 _ h0 rfl
  have a1 : β1 1 = p.mp ∧ RIn (stM p.mp p.clk p.es).objs w := hR.all 1 _ h1 rfl
  rw [stM_objs] at a1
  have am := a1.2.all (p.mp, .map (p.es.map EntE.entry).toArray p.clk) (List.mem_singleton.2 rfl)
  have d01 : rb ≠ p.mp := fun e => hR.dis 0 1 _ _ h0 h1 (by omega) rfl rfl rfl rb hb.symm (by
    show rb ∈ (stM p.mp p.clk p.es).objs.map (·.1)
    rw [stM_objs, e]; exact List.mem_singleton.2 rfl)
  have hv : Holds w rb true [.int .i64 p.z, c32 p.a, val β1 sl, .map (some p.mp), c32 p.en, .bool p.tl, .bool p.ed] none := by
    rw [← hb, ← a1.1]; exact a0
  rcases h2 with ⟨hn, rfl⟩ | ⟨hn, j, hj, rfl, h2⟩
  · refine ⟨0, ⟨fun x hx => ?_, ?_⟩, fun i hi => ?_⟩
    · rw [objs_P] at hx
      unfold QuP.objs QuP.sl at hx
      simp only [hn, cond_true, List.mem_cons, List.not_mem_nil, or_false] at hx
      rcases hx with rfl | rfl
      · exact hv
      · exact am
    · rw [objs_P]
      unfold QuP.objs
      simp [hn, d01]
    · rw [objs_mem] at hi
      rcases hi with e | e | ⟨e, -⟩
      · exact ⟨0, _, h0, rfl, e.trans hb.symm⟩
      · exact ⟨1, _, h1, rfl, by show i ∈ (stM p.mp p.clk p.es).objs.map (·.1); rw [stM_objs]; exact List.mem_singleton.2 e⟩
      · rw [show ({ p with bb := 0 } : QuP).nl = p.nl from rfl, hn] at e; cases e
  · have a2 := (At_of rfl).1 (hR.all j _ h2 rfl)
    have d02 : rb ≠ β1 j := fun e => hR.dis 0 j _ _ h0 h2 (by omega) rfl rfl rfl rb hb.symm e
    have d12 : p.mp ≠ β1 j := fun e => hR.dis 1 j _ _ h1 h2 (by omega) rfl rfl rfl p.mp (by show p.mp ∈ (stM p.mp p.clk p.es).objs.map (·.1); rw [stM_objs]; exact List.mem_singleton.2 rfl) e
    refine ⟨β1 j, ⟨fun x hx => ?_, ?_⟩, fun i hi => ?_⟩
    · rw [objs_P] at hx
      unfold QuP.objs QuP.sl at hx
      simp only [hn, cond_false, List.mem_cons, List.not_mem_nil, or_false] at hx
      rcases hx with rfl | rfl | rfl
      · exact hv
      · exact am
      · exact a2
    · rw [objs_P]
      unfold QuP.objs
      simp [hn, d01, d02, d12]
    · rw [objs_mem] at hi
      rcases hi with e | e | ⟨-, e⟩
      · exact ⟨0, _, h0, rfl, e.trans hb.symm⟩
      · exact ⟨1, _, h1, rfl, by show i ∈ (stM p.mp p.clk p.es).objs.map (·.1); rw [stM_objs]; exact List.mem_singleton.2 e⟩
      · exact ⟨j, _, h2, rfl, e⟩
theorem pqa_bb {p : QuP} {q : Qa} (h : PQa p q) (bb : Nat) : PQa { p with bb := bb } q := ⟨h.ok, h.z, h.a, h.ed, ⟨h.rd.nl, fun x => ⟨(h.rd.sl x).fit, (h.rd.sl x).len, (h.rd.sl x).eq⟩⟩, h.map, h.tl⟩
/-- Put, of a queue at a place. -/
theorem put_at {M : Mm} {k rb : Nat} {p : QuP} {q : Qa} (hk : M[k]? = some ⟨true, .res (stP rb p)⟩) (h : PQa p q) (sq : BitVec 32) (d : Tx) (fin : Bool) {K : SV → Mm → Prop} (hK : ∀ p', PQa p' (q.put sq d fin) → K (.b (q.moved sq d fin)) (M.set k ⟨true, .res (stP rb p')⟩)) : Spec Try.prog G 18 [.ptr k 0, .w32 sq, .s d, .b fin] M K :=
  res_pack hk rfl (m0p_len p) (fun b hb => rw0p hb) (fun w hw => rel0p hw) (put_sp h sq d fin) rfl fun r M1 hQ => by
    obtain ⟨rfl, p', hD, hp⟩ := hQ
    refine ⟨rfl, fun β1 w' hR1 hb => ?_⟩
    obtain ⟨bb, g1, g2⟩ := desc_res hR1 hD hb
    exact ⟨stP rb { p' with bb := bb }, rfl, g1, g2, hK _ (pqa_bb hp bb)⟩
theorem read_at {M : Mm} {k rb : Nat} {p : QuP} {q : Qa} (hk : M[k]? = some ⟨true, .res (stP rb p)⟩) (h : PQa p q) (m : Int) {K : SV → Mm → Prop} (hK : ∀ p', PQa p' (q.read m) → K (.s (q.told m)) (M.set k ⟨true, .res (stP rb p')⟩)) : Spec Try.prog G 16 [.ptr k 0, .i m] M K :=
  res_pack hk rfl (m0p_len p) (fun b hb => rw0p hb) (fun w hw => rel0p hw) (read_sp h m) rfl fun r M1 hQ => by
    obtain ⟨rfl, p', hD, hp⟩ := hQ
    refine ⟨rfl, fun β1 w' hR1 hb => ?_⟩
    obtain ⟨bb, g1, g2⟩ := desc_res hR1 hD hb
    exact ⟨stP rb { p' with bb := bb }, rfl, g1, g2, hK _ (pqa_bb hp bb)⟩
end Go.Proofs.Ytkjfecdpakhggaa
