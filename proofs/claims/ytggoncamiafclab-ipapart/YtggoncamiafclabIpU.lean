/-
  ip: a piece that is gathered. No statement is proved here.
-/
import Derived.Test.YtggoncamiafclabIpT
namespace Go.Proofs.Ytggoncamiafclab
open Go.RowKit
set_option linter.unusedVariables false
set_option linter.unusedSimpArgs false
set_option maxRecDepth 100000

/-- Behind a call less is told of: the places alone that were there. -/
theorem spec_cut {P : Program} {f : Nat} {args : List SV} {M : Mm} {K K' : SV → Mm → Prop} (hS : Spec P G f args M K) (h : ∀ r M1, K r M1 → r.wf M.length = true ∧ (∀ e ∈ M1.take M.length, e.c.wf M.length = true) ∧ K' r (M1.take M.length)) : Spec P G f args M K' := by
  intro β w hR hw
  refine (hS β w hR hw).mono fun v w' hh => ?_
  obtain ⟨β1, M1, r, hE, hR1, ⟨hwf, rfl⟩, hK⟩ := hh
  obtain ⟨h1, h2, h3⟩ := h r M1 hK
  have hl : (M1.take M.length).length = M.length := by rw [List.length_take]; have := hE.len; omega
  have get : ∀ k, k < M.length → (M1.take M.length)[k]? = M1[k]? := fun k hk => List.getElem?_take_of_lt hk
  have sub : ∀ (k : Nat) (e : Ent), (M1.take M.length)[k]? = some e → k < M.length ∧ M1[k]? = some e := fun k e he => by
    have hk : k < M.length := by rw [← hl]; exact lt_of_get he
    exact ⟨hk, by rw [← get k hk]; exact he⟩
  refine ⟨β1, M1.take M.length, r, ⟨hE.agree, by rw [hl]; exact Nat.le_refl _, fun b hb => ?_, hE.fp, fun k e he => ?_, fun k e hk he => absurd (sub k e he).1 (by omega)⟩, ⟨fun k e he hc => hR1.all k e (sub k e he).2 hc, fun i j x y hx hy hij => hR1.dis i j x y (sub i x hx).2 (sub j y hy).2 hij, hR1.glob, Nat.zero_le _, fun k hk => absurd hk (by show ¬ k < 0; omega), hR1.ro, fun k e he => ?_⟩, ⟨by rw [hl]; exact h1, rfl⟩, h3⟩
  · obtain ⟨k, e, he, hr, ho⟩ := hb
    exact hE.rws b ⟨k, e, (sub k e he).2, hr, ho⟩
  · obtain ⟨c, h4, h5⟩ := hE.keep k e he
    exact ⟨c, by rw [get k (lt_of_get he)]; exact h4, h5⟩
  · rw [hl]; exact h2 e (List.mem_of_getElem? he)
theorem okq_of {a : Int} {m : Tx} {b : Bool} (h : wrE a m b = 0) (h0 : 0 ≤ a) : okq a m := by
  unfold wrE at h
  cases hm : (m == ([] : Tx)) <;> rw [hm] at h
  · have hne : m ≠ [] := by simpa using hm
    rw [cond_false] at h
    generalize (bif b then ((m.length : Int).tmod 8) != 0 else false) = q at h
    cases q
    · rw [cond_false] at h
      cases hl : ilt 8192 (a + (m.length : Int)) <;> rw [hl] at h
      · rw [ilt_eq] at hl
        have := of_decide_eq_false hl
        exact ⟨h0, by omega, List.length_pos_iff.2 hne⟩
      · cases h
    · cases h
  · cases h
theorem TailP.mono {s0 : St} {bb : Nat} {n : Nm} {at' : Int} {m : Tx} {more : Bool} {ttl : BitVec 8} {K1 K2 : SV → St → Prop} (h : TailP s0 bb n at' m more ttl K1) (h1 : ∀ z s', K1 (errT z) s' → K2 (errT z) s')
    (h2 : ∀ w p s', K1 (.tup [.agg [.w32 n.src, .w32 n.dst, .w8 n.proto, .w8 w, .w16 n.id, .b false, .b false, .w16 0, .s p], .b true, .i 0]) s' → K2 (.tup [.agg [.w32 n.src, .w32 n.dst, .w8 n.proto, .w8 w, .w16 n.id, .b false, .b false, .w16 0, .s p], .b true, .i 0]) s') : TailP s0 bb n at' m more ttl K2 := by
  obtain ⟨t1, t2⟩ := h
  refine ⟨t1, fun pre e1 post x ps z a1 a2 a3 a4 a5 a6 => ?_⟩
  have t3 := t2 pre e1 post x ps z a1 a2 a3 a4 a5 a6
  cases hz : (z != 0) <;> rw [hz] at t3
  · obtain ⟨t4, t5⟩ := t3
    refine ⟨t4, fun pre1 e2 post1 x1 b1 b2 b3 b4 b5 => ?_⟩
    have t6 := t5 pre1 e2 post1 x1 b1 b2 b3 b4 b5
    cases hw : wholeP e2.ps e2.len <;> rw [hw] at t6
    · exact h1 _ _ t6
    · obtain ⟨t7, t8⟩ := t6
      exact ⟨t7, fun pre2 e3 post2 x2 c1 c2 c3 c4 c5 => h2 _ _ _ (t8 pre2 e3 post2 x2 c1 c2 c3 c4 c5)⟩
  · exact h1 _ _ t3
theorem g39 (most : Int) (life now : BitVec 64) (s : St) (e2 e3 e4 : Ent) (a b : BitVec 32) (c ttl : BitVec 8) (d : BitVec 16) (stay more : Bool) (off : BitVec 16) (m : Tx) (K : SV → Mm → Prop)
    (hk : OkS s) (hm : m.length ≤ 4294967296) (he2 : e2.c.wf 5 = true) (he3 : e3.c.wf 5 = true) (he4 : e4.c.wf 5 = true) (hfew : ∀ e ∈ s.es, e.len ≤ 33554430)
    (hWrong : wrE (8 * ((off.toNat : Nat) : Int)) m more ≠ 0 → OkS (s.del ⟨a, b, c, d⟩) → K (errT (wrE (8 * ((off.toNat : Nat) : Int)) m more)) (Mq most life (s.del ⟨a, b, c, d⟩) e2 e3 e4))
    (hFull : wrE (8 * ((off.toNat : Nat) : Int)) m more = 0 → s.get ⟨a, b, c, d⟩ = none → most ≤ (s.len : Nat) → K (errT 6) (Mq most life s e2 e3 e4))
    (hOld : wrE (8 * ((off.toNat : Nat) : Int)) m more = 0 → ∀ pre e post, s.es = pre ++ e :: post → e.nm = ⟨a, b, c, d⟩ → okq (8 * ((off.toNat : Nat) : Int)) m →
      TailP s e.sb ⟨a, b, c, d⟩ (8 * ((off.toNat : Nat) : Int)) m more ttl (fun r s' => K r (Mq most life s' e2 e3 e4)))
    (hNew : wrE (8 * ((off.toNat : Nat) : Int)) m more = 0 → s.get ⟨a, b, c, d⟩ = none → ¬ most ≤ (s.len : Nat) → ∀ x, (∀ e ∈ s.gs ++ s.es, e.sb ≠ x) → okq (8 * ((off.toNat : Nat) : Int)) m →
      TailP (s.put (newE ⟨a, b, c, d⟩ s.clk x (now + life))) x ⟨a, b, c, d⟩ (8 * ((off.toNat : Nat) : Int)) m more ttl (fun r s' => K r (Mq most life s' e2 e3 e4))) :
    Spec Try.prog G 15 [.ptr 0 0, .agg [.w32 a, .w32 b, .w8 c, .w8 ttl, .w16 d, .b stay, .b more, .w16 off, .s m], .w64 now] (Mq most life s e2 e3 e4) K := by
  obtain ⟨mb, clk, es, was, it, gs⟩ := s
  obtain rfl : was = false := hk.map
  obtain rfl : it = none := hk.it
  have hoff : off.toNat < 65536 := off.isLt
  have wfM : ∀ s', ∀ e ∈ Mq most life s' e2 e3 e4, e.c.wf 5 = true := fun s' e he => by
    simp only [Mq, List.mem_cons, List.not_mem_nil, or_false] at he
    rcases he with rfl | rfl | rfl | rfl | rfl
    · rfl
    · rfl
    · exact he2
    · exact he3
    · exact he4
  refine spec_cut (K := fun r M1 => r.wf 5 = true ∧ ∃ s', M1.take 5 = Mq most life s' e2 e3 e4 ∧ K r (Mq most life s' e2 e3 e4)) ?_ (fun r M1 ⟨h1, s', h2, h3⟩ => ⟨h1, fun e he => wfM s' e (h2 ▸ he), h2 ▸ h3⟩)
  refine vf_ok ega_ok mixed (noL_ok _ _ _ _) (of_eq (v39 most life now mb clk es gs e2 e3 e4 a b c ttl d stay more off m _) ?_)
  refine bif_of (inI_iff.2 (by omega)) (bif_of (inI_iff.2 (by omega)) ?_)
  have hw5 : ∀ (z : Int), (errT z).wf 5 = true := fun _ => rfl
  cases hw : (wrE (8 * ((off.toNat : Nat) : Int)) m more != 0)
  · have hw0 : wrE (8 * ((off.toNat : Nat) : Int)) m more = 0 := by simpa using hw
    have hq := okq_of hw0 (by omega)
    have up1 : ∀ (z : Int) (s' : St), K (errT z) (Mq most life s' e2 e3 e4) → (errT z).wf 5 = true ∧ ∃ s'', Mq most life s' e2 e3 e4 = Mq most life s'' e2 e3 e4 ∧ K (errT z) (Mq most life s'' e2 e3 e4) := fun z s' h => ⟨rfl, s', rfl, h⟩
    refine ⟨fun e hg => ?_, fun hg => ?_⟩
    · obtain ⟨pre, post, hs⟩ := List.append_of_mem (List.mem_of_find?_eq_some hg)
      have h8 : isNm ⟨a, b, c, d⟩ e = true := List.find?_some (p := isNm ⟨a, b, c, d⟩) (l := es) hg
      have hn : e.nm = ⟨a, b, c, d⟩ := (of_decide_eq_true h8).symm
      exact TailP.mono (K2 := fun r s' => r.wf 5 = true ∧ ∃ s'', Mq most life s' e2 e3 e4 = Mq most life s'' e2 e3 e4 ∧ K r (Mq most life s'' e2 e3 e4)) (hOld hw0 pre e post hs hn hq) up1 (fun w p s' h => ⟨rfl, s', rfl, h⟩)
    · cases hl : ile most ((es.length : Nat) : Int)
      · have hl2 : ile most (((stO mb clk es gs).len : Nat) : Int) = false := hl
        rw [hl2]
        have hnl : ¬ most ≤ ((es.length : Nat) : Int) := by rw [ile_eq] at hl; exact of_decide_eq_false hl
        refine ⟨hg, fun x hx => ?_⟩
        exact TailP.mono (K2 := fun r s' => r.wf 5 = true ∧ ∃ s'', Mq most life s' e2 e3 e4 = Mq most life s'' e2 e3 e4 ∧ K r (Mq most life s'' e2 e3 e4)) (hNew hw0 hg hnl x hx hq) up1 (fun w p s' h => ⟨rfl, s', rfl, h⟩)
      · have hl2 : ile most (((stO mb clk es gs).len : Nat) : Int) = true := hl
        rw [hl2]
        have hnl : most ≤ ((es.length : Nat) : Int) := by rw [ile_eq] at hl; exact of_decide_eq_true hl
        exact ⟨rfl, stO mb clk es gs, rfl, hFull hw0 hg hnl⟩
  · exact ⟨rfl, (stO mb clk es gs).del ⟨a, b, c, d⟩, rfl, hWrong (by simpa using hw) (hk.del _)⟩
end Go.Proofs.Ytggoncamiafclab
