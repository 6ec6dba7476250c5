/-
  ip: a set among the others: what a call does that is handed one of them. No statement is proved here.
-/
import Derived.Test.YtggoncamiafclabIpP
namespace Go.Proofs.Ytggoncamiafclab
open Go.RowKit
set_option linter.unusedVariables false
set_option linter.unusedSimpArgs false
set_option maxRecDepth 100000

def M0 (e : SetE) : Mm := bif e.nb then Mz e.u else Mr e.u e.l e.len e.cap
/-- The list tells of that set, at its head. -/
def Desc (M1 : Mm) (x : SetE) : Prop := ∃ sl, M1[0]? = some ⟨true, .row [.w64 x.u, sl]⟩ ∧ ((x.nb = true ∧ sl = .v (.slice none 0 0)) ∨ (x.nb = false ∧ ∃ j, j ≠ 0 ∧ sl = .rs j 0 0 4 x.len x.cap ∧ M1[j]? = some ⟨true, .recs (some 60) fsP [] x.l⟩))
def b0 (e : SetE) : Nat → Nat := fun i => if i = 0 then e.sb else e.rb
theorem m0_len (e : SetE) : 0 < (M0 e).length := by unfold M0; cases e.nb <;> exact Nat.zero_lt_succ _
theorem rw0 {e : SetE} {b : Nat} (h : rwset (b0 e) (M0 e) b) : b = e.sb ∨ (e.nb = false ∧ b = e.rb) := by
  obtain ⟨k, x, hx, -, ho⟩ := h
  unfold M0 at hx
  cases hn : e.nb <;> rw [hn] at hx
  · match k, hx, ho with
    | 0, hx, ho => cases hx; exact .inl ho
    | 1, hx, ho => cases hx; exact .inr ⟨rfl, ho⟩
    | k + 2, hx, ho => cases hx
  · match k, hx, ho with
    | 0, hx, ho => cases hx; exact .inl ho
    | k + 1, hx, ho => cases hx
theorem objs_mem {e : SetE} {i : Nat} : i ∈ e.objs.map (·.1) ↔ i = e.sb ∨ (e.nb = false ∧ i = e.rb) := by
  unfold SetE.objs
  cases e.nb <;> simp
theorem rel0 {w : World} {e : SetE} (h : ∀ p ∈ e.objs, p.2.In w p.1) (hd : (e.objs.map (·.1)).Nodup) : Rel G (b0 e) (M0 e) w := by
  have h1 : Holds w e.sb true [c64 e.u, e.sl] none := h (e.sb, _) (List.mem_cons_self ..)
  unfold SetE.sl at h1
  unfold M0
  cases hn : e.nb
  · have h2 : Holds w e.rb true (rows fsP e.l) (some (60, e.l.length * 4)) := h (e.rb, .cells (rows fsP e.l) (some (60, e.l.length * 4))) (by unfold SetE.objs; rw [hn]; exact List.mem_cons_of_mem _ (List.mem_cons_self ..))
    rw [hn] at h1
    have hne : e.sb ≠ e.rb := by
      unfold SetE.objs at hd
      rw [hn] at hd
      simpa using hd
    refine ⟨fun k x hx hc => ?_, fun i j x y hx hy hij hr hxc hyc b hb hb' => ?_, fun g hg => absurd hg (by show ¬ g < 0; omega), Nat.zero_le _, fun k hk => absurd hk (by show ¬ k < 0; omega), fun k x hx => (by cases hx), fun k x hx => ?_⟩
    · match k, hx with
      | 0, hx => cases hx; exact h1
      | 1, hx =>
        cases hx
        refine (At_of rfl).2 ?_
        show Holds w e.rb true ([] ++ rows fsP e.l) (some (60, 0 + e.l.length * 4))
        rw [Nat.zero_add]; exact h2
    · match i, j, hx, hy with
      | 0, 0, _, _ => exact hij rfl
      | 0, 1, hx, hy => cases hx; cases hy; exact hne ((show b = e.sb from hb).symm.trans hb')
      | 1, 0, hx, hy => cases hx; cases hy; exact hne ((show b = e.sb from hb').symm.trans hb)
      | 1, 1, _, _ => exact hij rfl
    · match k, hx with
      | 0, hx => cases hx; rfl
      | 1, hx => cases hx; rfl
  · rw [hn] at h1
    refine ⟨fun k x hx hc => ?_, fun i j x y hx hy hij hr hxc hyc b hb hb' => ?_, fun g hg => absurd hg (by show ¬ g < 0; omega), Nat.zero_le _, fun k hk => absurd hk (by show ¬ k < 0; omega), fun k x hx => (by cases hx), fun k x hx => ?_⟩
    · match k, hx with
      | 0, hx => cases hx; exact h1
    · match i, j, hx, hy with
      | 0, 0, _, _ => exact hij rfl
    · match k, hx with
      | 0, hx => cases hx; rfl
theorem res_call {f : Nat} {xs : List SV} {M : Mm} {k : Nat} {s : St} {pre post : List SetE} {e : SetE} {Q K : SV → Mm → Prop}
    (hk : M[k]? = some ⟨true, .res s⟩) (hw : s.was = false) (hs : s.gs ++ s.es = pre ++ e :: post) (T : SetE → St) (hT : ∀ x, x.nm = e.nm → x.born = e.born → x.sb = e.sb → ((T x).was = false ∧ (T x).mb = s.mb ∧ (T x).clk = s.clk) ∧ (T x).gs ++ (T x).es = pre ++ x :: post ∧ (T x).es.map SetE.entry = s.es.map SetE.entry)
    (hS : Spec Try.prog G f (.ptr 0 0 :: xs) (M0 e) Q) (hx : SV.wf.wfs 0 xs = true)
    (hQ : ∀ r M1, Q r M1 → r.wf 0 = true ∧ ∃ x : SetE, x.nm = e.nm ∧ x.born = e.born ∧ x.sb = e.sb ∧ Desc M1 x ∧ ∀ rb, K r (M.set k ⟨true, .res (T { x with rb := rb })⟩)) :
    Spec Try.prog G f (.v (.pointer (some ⟨e.sb, 0, none⟩)) :: xs) M K := by
  intro β w hR hwf
  obtain ⟨hb, hRi⟩ := hR.at_res hk
  have hmap := res_map hRi hw
  have hobj : s.objs = (s.mb, .map (s.es.map SetE.entry).toArray s.clk) :: (pre.flatMap SetE.objs ++ (e.objs ++ post.flatMap SetE.objs)) := by rw [res_objs hw, hs, List.flatMap_append, List.flatMap_cons]
  have hall := hRi.all
  have hdis := hRi.dis
  rw [hobj] at hall hdis
  simp only [List.map_cons, List.map_append, List.nodup_cons, List.nodup_append, List.mem_append, not_or] at hdis
  obtain ⟨⟨d1, d2, d3⟩, d4, ⟨d5, d6, d7⟩, d8⟩ := hdis
  have hmem : ∀ i, i ∈ e.objs.map (·.1) → own (β k) (.res s) i := fun i hi => by
    show i ∈ s.objs.map (·.1)
    rw [hobj]
    simp only [List.map_cons, List.map_append, List.mem_cons, List.mem_append]
    exact .inr (.inr (.inl hi))
  have hR0 : Rel G (b0 e) (M0 e) w := rel0 (fun p hp => hall p (List.mem_cons_of_mem _ (List.mem_append_right _ (List.mem_append_left _ hp)))) d5
  have hargs : vals β (.v (.pointer (some ⟨e.sb, 0, none⟩)) :: xs) = vals (b0 e) (.ptr 0 0 :: xs) := by
    show Value.pointer (some ⟨e.sb, 0, none⟩) :: vals β xs = Value.pointer (some ⟨e.sb, 0, none⟩) :: vals (b0 e) xs
    rw [vals_agree (n := 0) (β := b0 e) (β' := β) (fun k hk => absurd hk (by omega)) xs hx]
  rw [hargs]
  refine (hS (b0 e) w hR0 ?_).mono fun v w' hh => ?_
  · show (Nat.blt 0 (M0 e).length && SV.wf.wfs (M0 e).length xs) = true
    rw [show Nat.blt 0 (M0 e).length = true by rw [Nat.blt_eq]; exact m0_len e, wfs_mono (Nat.zero_le _) xs hx]; rfl
  obtain ⟨β1, M1, r, hE, hR1, ⟨hrw, rfl⟩, hQr⟩ := hh
  obtain ⟨hr0, x, hx1, hx2, hx3, ⟨sl, hM0, hD⟩, hK⟩ := hQ r M1 hQr
  have hβ0 : β1 0 = e.sb := (hE.agree 0 (m0_len e)).trans rfl
  have hrow := hR1.all 0 _ hM0 rfl
  -- what of the rest is left
  have keepB : ∀ i, i < w.heap.size → i ∉ e.objs.map (·.1) → w'.heap[i]? = w.heap[i]? := fun i hi hn => hE.fp.block i hi fun hq => hn (objs_mem.2 (rw0 hq))
  obtain ⟨rb, hrb⟩ : ∃ rb, (∀ p ∈ ({ x with rb := rb } : SetE).objs, p.2.In w' p.1) ∧ (({ x with rb := rb } : SetE).objs.map (·.1)).Nodup ∧ (∀ i ∈ ({ x with rb := rb } : SetE).objs.map (·.1), i ∈ e.objs.map (·.1) ∨ w.heap.size ≤ i) := by
    rcases hD with ⟨hn, rfl⟩ | ⟨hn, j, hj, rfl, hMj⟩
    · refine ⟨0, fun p hp => ?_, ?_, fun i hi => ?_⟩
      · have : p = (x.sb, .cells [c64 x.u, .slice none 0 0] none) := by simpa [SetE.objs, SetE.sl, hn] using hp
        subst this
        have : Holds w' (β1 0) true [c64 x.u, .slice none 0 0] none := hrow
        rw [hβ0, ← hx3] at this
        exact this
      · simp [SetE.objs, hn]
      · have : i = x.sb := by simpa [SetE.objs, hn] using hi
        rw [this, hx3]; exact .inl (objs_mem.2 (.inl rfl))
    · have hrow2 : Holds w' (β1 j) true (rows fsP x.l) (some (60, x.l.length * 4)) := by
        have h2 : Holds w' (β1 j) true ([] ++ rows fsP x.l) (some (60, 0 + x.l.length * 4)) := hR1.all j _ hMj rfl
        rw [Nat.zero_add] at h2; exact h2
      have hne : β1 j ≠ e.sb := fun q => hR1.dis 0 j _ _ hM0 hMj (Ne.symm hj) rfl rfl rfl e.sb hβ0.symm q.symm
      refine ⟨β1 j, fun p hp => ?_, ?_, fun i hi => ?_⟩
      · have hp : p = (x.sb, .cells [c64 x.u, .slice (some ⟨β1 j, 0, none⟩) x.len x.cap] none) ∨ p = (β1 j, .cells (rows fsP x.l) (some (60, x.l.length * 4))) := by simpa [SetE.objs, SetE.sl, hn] using hp
        rcases hp with rfl | rfl
        · have : Holds w' (β1 0) true [c64 x.u, .slice (some ⟨β1 j, 0, none⟩) x.len x.cap] none := hrow
          rw [hβ0, ← hx3] at this
          exact this
        · exact hrow2
      · have : ¬ x.sb = β1 j := fun q => hne (q.symm.trans hx3)
        simpa [SetE.objs, hn] using this
      · have hi : i = x.sb ∨ i = β1 j := by simpa [SetE.objs, hn] using hi
        rcases hi with rfl | rfl
        · rw [hx3]; exact .inl (objs_mem.2 (.inl rfl))
        · rcases hE.rws (β1 j) ⟨j, _, hMj, rfl, rfl⟩ with q | q
          · exact .inl (objs_mem.2 (rw0 q))
          · exact .inr q
  obtain ⟨r1, r2, r3⟩ := hrb
  obtain ⟨⟨t1, t2, t3⟩, t4, t5⟩ := hT { x with rb := rb } hx1 hx2 hx3
  have hobj' : (T { x with rb := rb }).objs = (s.mb, .map (s.es.map SetE.entry).toArray s.clk) :: (pre.flatMap SetE.objs ++ (({ x with rb := rb } : SetE).objs ++ post.flatMap SetE.objs)) := by
    rw [res_objs t1, t2, t3, t4, t5, List.flatMap_append, List.flatMap_cons]
  have lt_of : ∀ p ∈ (s.mb, RO.map (s.es.map SetE.entry).toArray s.clk) :: (pre.flatMap SetE.objs ++ (e.objs ++ post.flatMap SetE.objs)), p.1 < w.heap.size := fun p hp => RO.lt (hall p hp)
  have hnew : ∀ i, (i ∈ (pre.flatMap SetE.objs).map (·.1) ∨ i ∈ (post.flatMap SetE.objs).map (·.1) ∨ i = s.mb) → i ∉ ({ x with rb := rb } : SetE).objs.map (·.1) := fun i hi hq => by
    have hlt : i < w.heap.size := by
      rcases hi with h | h | rfl
      · obtain ⟨p, hp, rfl⟩ := List.mem_map.1 h
        exact lt_of p (List.mem_cons_of_mem _ (List.mem_append_left _ hp))
      · obtain ⟨p, hp, rfl⟩ := List.mem_map.1 h
        exact lt_of p (List.mem_cons_of_mem _ (List.mem_append_right _ (List.mem_append_right _ hp)))
      · exact lt_of _ (List.mem_cons_self ..)
    rcases r3 i hq with h2 | h2
    · rcases hi with h | h | rfl
      · exact d8 i h i (.inl h2) rfl
      · exact d7 i h2 i h rfl
      · exact d2 h2
    · omega
  obtain ⟨g1, g2⟩ := hR.setR (c' := .res (T { x with rb := rb })) hk rfl (hE.fp.mono fun i _ hi => hmem i (objs_mem.2 (rw0 hi))) rfl (fun i hi => by
      have hi : i ∈ (T { x with rb := rb }).objs.map (·.1) := hi
      rw [hobj'] at hi
      simp only [List.map_cons, List.map_append, List.mem_cons, List.mem_append] at hi
      have back : i = s.mb ∨ i ∈ (pre.flatMap SetE.objs).map (·.1) ∨ i ∈ e.objs.map (·.1) ∨ i ∈ (post.flatMap SetE.objs).map (·.1) → own (β k) (.res s) i := fun h => by
        show i ∈ s.objs.map (·.1)
        rw [hobj]
        simpa only [List.map_cons, List.map_append, List.mem_cons, List.mem_append] using h
      rcases hi with h | h | h | h
      · exact .inl (back (.inl h))
      · exact .inl (back (.inr (.inl h)))
      · exact (r3 i h).imp (fun q => back (.inr (.inr (.inl q)))) id
      · exact .inl (back (.inr (.inr (.inr h))))) (fun _ => by
      refine ⟨hb.trans t2.symm, fun p hp => ?_, ?_⟩
      · rw [hobj'] at hp
        rcases List.mem_cons.1 hp with rfl | hp
        · exact RO.same (hall _ (List.mem_cons_self ..)) (keepB _ (lt_of _ (List.mem_cons_self ..)) d2) hE.fp.size
        · rcases List.mem_append.1 hp with hp | hp
          · have h1 := hall p (List.mem_cons_of_mem _ (List.mem_append_left _ hp))
            exact RO.same h1 (keepB _ (RO.lt h1) fun q => d8 p.1 (List.mem_map.2 ⟨p, hp, rfl⟩) p.1 (.inl q) rfl) hE.fp.size
          · rcases List.mem_append.1 hp with hp | hp
            · exact r1 p hp
            · have h1 := hall p (List.mem_cons_of_mem _ (List.mem_append_right _ (List.mem_append_right _ hp)))
              exact RO.same h1 (keepB _ (RO.lt h1) fun q => d7 p.1 q p.1 (List.mem_map.2 ⟨p, hp, rfl⟩) rfl) hE.fp.size
      · rw [hobj']
        simp only [List.map_cons, List.map_append, List.nodup_cons, List.nodup_append, List.mem_append, not_or]
        exact ⟨⟨d1, hnew _ (.inr (.inr rfl)), d3⟩, d4, ⟨r2, d6, fun a ha b hb q => by subst q; exact hnew a (.inr (.inl hb)) ha⟩, fun a ha b hb q => by
          subst q
          rcases hb with h | h
          · exact hnew a (.inl ha) h
          · exact d8 a ha a (.inr h) rfl⟩)
  exact ⟨β, _, r, g2, g1, ⟨wf_mono (Nat.zero_le _) r hr0, (val_agree (n := 0) (fun k hk => absurd hk (by omega)) r hr0)⟩, hK rb⟩
end Go.Proofs.Ytggoncamiafclab
