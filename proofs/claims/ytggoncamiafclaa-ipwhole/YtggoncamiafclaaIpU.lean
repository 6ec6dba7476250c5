/-
  ip: a piece that is gathered. No statement is proved here.
-/
import Derived.Test.YtggoncamiafclaaIpT
import Derived.Maps.RangeRun
import Derived.Laws.IdiomRangeMap
namespace Go.Proofs.Ytggoncamiafclaa
open Go.RowKit
set_option linter.unusedVariables false
set_option linter.unusedSimpArgs false
set_option maxRecDepth 100000
theorem spec_cut {P : Program} {f : Nat} {args : List SV} {M : Mm} {K K' : SV → Mm → Prop} (hS : Spec P G f args M K) (h : ∀ r M1, K r M1 → r.wf M.length = true ∧ (∀ e ∈ M1.take M.length, e.c.wf M.length = true) ∧ K' r (M1.take M.length)) : Spec P G f args M K' := by
 intro β w hR hw
 refine (hS β w hR hw).mono fun v w' hh => ?_
 obtain ⟨β1, M1, r, hE, hR1, ⟨hwf, rfl⟩, hK⟩ := hh
 obtain ⟨h1, h2, h3⟩ := h r M1 hK
 have hl : (M1.take M.length).length = M.length := by rw [List.length_take]; have := hE.len; omega
 have get : ∀ k, k < M.length → (M1.take M.length)[k]? = M1[k]? := fun k hk => List.getElem?_take_of_lt hk
 have sub : ∀ (k : Nat) (e : Ent), (M1.take M.length)[k]? = some e → k < M.length ∧ M1[k]? = some e := fun k e he => by
  have hk : k < M.length := by rw [← hl]; exact lt_of_get he
  exact ⟨hk, by rw [← get k hk]; exact he⟩
 refine ⟨β1, M1.take M.length, r, ⟨hE.agree, by rw [hl]; exact Nat.le_refl _, fun b hb => ?_, hE.fp, fun k e he => ?_, fun k e hk he => absurd (sub k e he).1 (by omega)⟩, ⟨fun k e he hc => hR1.all k e (sub k e he).2 hc, fun i j x y hx hy hij => hR1.dis i j x y (sub i x hx).2 (sub j y hy).2 hij, hR1.glob, Nat.zero_le _, fun k hk => absurd hk (by show ¬ k < 0; omega), hR1.ro, fun k e he => ?_⟩, ⟨by rw [hl]; exact h1, rfl⟩, h3⟩
 ·obtain ⟨k, e, he, hr, ho⟩ := hb
  exact hE.rws b ⟨k, e, (sub k e he).2, hr, ho⟩
 ·obtain ⟨c, h4, h5⟩ := hE.keep k e he
  exact ⟨c, by rw [get k (lt_of_get he)]; exact h4, h5⟩
 ·rw [hl]; exact h2 e (List.mem_of_getElem? he)
theorem okq_of {a : Int} {m : Tx} {b : Bool} (h : wrE a m b = 0) (h0 : 0 ≤ a) : okq a m := by
 unfold wrE at h
 cases hm : (m == ([] : Tx)) <;> rw [hm] at h
 ·have hne : m ≠ [] := by simpa using hm
  rw [cond_false] at h
  generalize (bif b then ((m.length : Int).tmod 8) != 0 else false) = q at h
  cases q
  ·rw [cond_false] at h
   cases hl : ilt 8192 (a + (m.length : Int)) <;> rw [hl] at h
   ·rw [ilt_eq] at hl
    have := of_decide_eq_false hl
    exact ⟨h0, by omega, List.length_pos_iff.2 hne⟩
   ·cases h
  ·cases h
 ·cases h
theorem TailP.mono {s0 : St} {bb : Nat} {n : Nm} {at' : Int} {m : Tx} {more : Bool} {ttl : BitVec 8} {K1 K2 : SV → St → Prop} (h : TailP s0 bb n at' m more ttl K1) (h1 : ∀ z s', K1 (errT z) s' → K2 (errT z) s')
  (h2 : ∀ w p s', K1 (.tup [.agg [.w32 n.src, .w32 n.dst, .w8 n.proto, .w8 w, .w16 n.id, .b false, .b false, .w16 0, .s p], .b true, .i 0]) s' → K2 (.tup [.agg [.w32 n.src, .w32 n.dst, .w8 n.proto, .w8 w, .w16 n.id, .b false, .b false, .w16 0, .s p], .b true, .i 0]) s') : TailP s0 bb n at' m more ttl K2 := by
 obtain ⟨t1, t2⟩ := h
 refine ⟨t1, fun pre e1 post x ps z a1 a2 a3 a4 a5 a6 => ?_⟩
 have t3 := t2 pre e1 post x ps z a1 a2 a3 a4 a5 a6
 cases hz : (z != 0) <;> rw [hz] at t3
 ·obtain ⟨t4, t5⟩ := t3
  refine ⟨t4, fun pre1 e2 post1 x1 b1 b2 b3 b4 b5 => ?_⟩
  have t6 := t5 pre1 e2 post1 x1 b1 b2 b3 b4 b5
  cases hw : wholeP e2.ps e2.len <;> rw [hw] at t6
  ·exact h1 _ _ t6
  ·obtain ⟨t7, t8⟩ := t6
   exact ⟨t7, fun pre2 e3 post2 x2 c1 c2 c3 c4 c5 => h2 _ _ _ (t8 pre2 e3 post2 x2 c1 c2 c3 c4 c5)⟩
 ·exact h1 _ _ t3
theorem g39 (most : Int) (life now : BitVec 64) (s : St) (e2 e3 e4 : Ent) (a b : BitVec 32) (c ttl : BitVec 8) (d : BitVec 16) (stay more : Bool) (off : BitVec 16) (m : Tx) (K : SV → Mm → Prop)
  (hk : OkS s) (hm : m.length ≤ 4294967296) (he2 : e2.c.wf 5 = true) (he3 : e3.c.wf 5 = true) (he4 : e4.c.wf 5 = true) (hfew : ∀ e ∈ s.es, e.len ≤ 33554430)
  (hWrong : wrE (8 * ((off.toNat : Nat) : Int)) m more ≠ 0 → OkS (s.del ⟨a, b, c, d⟩) → K (errT (wrE (8 * ((off.toNat : Nat) : Int)) m more)) (Mq most life (s.del ⟨a, b, c, d⟩) e2 e3 e4))
  (hFull : wrE (8 * ((off.toNat : Nat) : Int)) m more = 0 → s.get ⟨a, b, c, d⟩ = none → most ≤ (s.len : Nat) → K (errT 6) (Mq most life s e2 e3 e4))
  (hOld : wrE (8 * ((off.toNat : Nat) : Int)) m more = 0 → ∀ pre e post, s.es = pre ++ e :: post → e.nm = ⟨a, b, c, d⟩ → okq (8 * ((off.toNat : Nat) : Int)) m →
   TailP s e.sb ⟨a, b, c, d⟩ (8 * ((off.toNat : Nat) : Int)) m more ttl (fun r s' => K r (Mq most life s' e2 e3 e4)))
  (hNew : wrE (8 * ((off.toNat : Nat) : Int)) m more = 0 → s.get ⟨a, b, c, d⟩ = none → ¬ most ≤ (s.len : Nat) → ∀ x, (∀ e ∈ s.gs ++ s.es, e.sb ≠ x) → okq (8 * ((off.toNat : Nat) : Int)) m →
   TailP (s.put (newE ⟨a, b, c, d⟩ s.clk x (now + life))) x ⟨a, b, c, d⟩ (8 * ((off.toNat : Nat) : Int)) m more ttl (fun r s' => K r (Mq most life s' e2 e3 e4))) :
  Spec Try.prog G 39 [.ptr 0 0, .agg [.w32 a, .w32 b, .w8 c, .w8 ttl, .w16 d, .b stay, .b more, .w16 off, .s m], .w64 now] (Mq most life s e2 e3 e4) K := by
 obtain ⟨mb, clk, es, was, it, gs⟩ := s
 obtain rfl : was = false := hk.map
 obtain rfl : it = none := hk.it
 have hoff : off.toNat < 65536 := off.isLt
 have wfM : ∀ s', ∀ e ∈ Mq most life s' e2 e3 e4, e.c.wf 5 = true := fun s' e he => by
  simp only [Mq, List.mem_cons, List.not_mem_nil, or_false] at he
  rcases he with rfl | rfl | rfl | rfl | rfl
  ·rfl
  ·rfl
  ·exact he2
  ·exact he3
  ·exact he4
 refine spec_cut (K := fun r M1 => r.wf 5 = true ∧ ∃ s', M1.take 5 = Mq most life s' e2 e3 e4 ∧ K r (Mq most life s' e2 e3 e4)) ?_ (fun r M1 ⟨h1, s', h2, h3⟩ => ⟨h1, fun e he => wfM s' e (h2 ▸ he), h2 ▸ h3⟩)
 refine vf_ok ega_ok mixed (noL_ok _ _ _ _) (of_eq (v39 most life now mb clk es gs e2 e3 e4 a b c ttl d stay more off m _) ?_)
 refine bif_of (inI_iff.2 (by omega)) (bif_of (inI_iff.2 (by omega)) ?_)
 have hw5 : ∀ (z : Int), (errT z).wf 5 = true := fun _ => rfl
 cases hw : (wrE (8 * ((off.toNat : Nat) : Int)) m more != 0)
 ·have hw0 : wrE (8 * ((off.toNat : Nat) : Int)) m more = 0 := by simpa using hw
  have hq := okq_of hw0 (by omega)
  have up1 : ∀ (z : Int) (s' : St), K (errT z) (Mq most life s' e2 e3 e4) → (errT z).wf 5 = true ∧ ∃ s'', Mq most life s' e2 e3 e4 = Mq most life s'' e2 e3 e4 ∧ K (errT z) (Mq most life s'' e2 e3 e4) := fun z s' h => ⟨rfl, s', rfl, h⟩
  refine ⟨fun e hg => ?_, fun hg => ?_⟩
  ·obtain ⟨pre, post, hs⟩ := List.append_of_mem (List.mem_of_find?_eq_some hg)
   have h8 : isNm ⟨a, b, c, d⟩ e = true := List.find?_some (p := isNm ⟨a, b, c, d⟩) (l := es) hg
   have hn : e.nm = ⟨a, b, c, d⟩ := (of_decide_eq_true h8).symm
   exact TailP.mono (K2 := fun r s' => r.wf 5 = true ∧ ∃ s'', Mq most life s' e2 e3 e4 = Mq most life s'' e2 e3 e4 ∧ K r (Mq most life s'' e2 e3 e4)) (hOld hw0 pre e post hs hn hq) up1 (fun w p s' h => ⟨rfl, s', rfl, h⟩)
  ·cases hl : ile most ((es.length : Nat) : Int)
   ·have hl2 : ile most (((stO mb clk es gs).len : Nat) : Int) = false := hl
    rw [hl2]
    have hnl : ¬ most ≤ ((es.length : Nat) : Int) := by rw [ile_eq] at hl; exact of_decide_eq_false hl
    refine ⟨hg, fun x hx => ?_⟩
    exact TailP.mono (K2 := fun r s' => r.wf 5 = true ∧ ∃ s'', Mq most life s' e2 e3 e4 = Mq most life s'' e2 e3 e4 ∧ K r (Mq most life s'' e2 e3 e4)) (hNew hw0 hg hnl x hx hq) up1 (fun w p s' h => ⟨rfl, s', rfl, h⟩)
   ·have hl2 : ile most (((stO mb clk es gs).len : Nat) : Int) = true := hl
    rw [hl2]
    have hnl : most ≤ ((es.length : Nat) : Int) := by rw [ile_eq] at hl; exact of_decide_eq_true hl
    exact ⟨rfl, stO mb clk es gs, rfl, hFull hw0 hg hnl⟩
 ·exact ⟨rfl, (stO mb clk es gs).del ⟨a, b, c, d⟩, rfl, hWrong (by simpa using hw) (hk.del _)⟩
end Go.Proofs.Ytggoncamiafclaa
namespace Go.Proofs.Ytggoncamiafclaa
open Go.RowKit
set_option linter.unusedVariables false
set_option linter.unusedSimpArgs false
set_option maxRecDepth 100000
abbrev itO (x mb clk : Nat) (seen : List Nat) : St := ⟨x, 0, [], true, some (mb, clk, seen), []⟩
def hRange (t : Nat) (xs : List SV) (M : Mm) (K : SV → Mm → Prop) : Prop := match xs with
 | [.mp k] => match (M[k]? : Option Ent) with
  | some ⟨_, .res s⟩ => vsome (Nat.beq t 71 && !s.was) (∀ x, snocK M ⟨true, .res (itO x s.mb s.clk [])⟩ fun M2 => K (.ptr M.length 0) M2)
  | _ => False
 | _ => False
def hNext (b : Bool) (xs : List SV) (M : Mm) (K : SV → Mm → Prop) : Prop := match xs with
 | [.ptr i 0] => match (M[i]? : Option Ent), (M[1]? : Option Ent) with
  | some ⟨true, .res ⟨x, 0, [], true, some (mb, clk, seen), []⟩⟩, some ⟨_, .res s⟩ => vsome (!b && !s.was) ((s.mb = mb ∧ s.clk = clk ∧ ∀ e ∈ s.es, e.born < clk) ∧ ((∀ e ∈ s.es, e.born ∈ seen) → K (.tup [.b false]) M) ∧ ∀ e, e ∈ s.es → e.born ∉ seen → setK M i ⟨true, .res (itO x mb clk (seen ++ [e.born]))⟩ fun M2 => K (.tup [.b true, .agg [.w32 e.nm.src, .w32 e.nm.dst, .w8 e.nm.proto, .w16 e.nm.id], .v (.pointer (some ⟨e.sb, 0, none⟩))]) M2)
  | _, _ => False
 | _ => False
def hEntry (xs : List SV) (M : Mm) (K : SV → Mm → Prop) : Prop := match xs with
 | [.ptr i 0] => match (M[i]? : Option Ent), (M[1]? : Option Ent) with
  | some ⟨_, .res ⟨x, 0, [], true, some (mb, clk, seen), []⟩⟩, some ⟨_, .res s⟩ => vsome (!s.was) ((s.mb = mb ∧ s.clk = clk ∧ (s.es.map (·.born)).Nodup ∧ ∃ e seen', e ∈ s.es ∧ seen = seen' ++ [e.born]) ∧ ∀ e seen', e ∈ s.es → seen = seen' ++ [e.born] → K (.tup [.agg [.w32 e.nm.src, .w32 e.nm.dst, .w8 e.nm.proto, .w16 e.nm.id], .v (.pointer (some ⟨e.sb, 0, none⟩))]) M)
  | _, _ => False
 | _ => False
def hField (t f : Nat) (xs : List SV) (M : Mm) (K : SV → Mm → Prop) : Prop := match xs with
 | [.v (.pointer (some ⟨b, 0, none⟩))] => vsome (Nat.beq t 80 && Nat.beq f 0) (K (.v (.pointer (some ⟨b, 0, none⟩))) M)
 | _ => False
def hLoad (t : Nat) (xs : List SV) (M : Mm) (K : SV → Mm → Prop) : Prop := match xs with
 | [.v (.pointer (some ⟨b, 0, none⟩))] => match (M[1]? : Option Ent) with
  | some ⟨_, .res s⟩ => vsome (Nat.beq t 37 && !s.was) ((∃ e, e ∈ s.es ∧ e.sb = b) ∧ ∀ e, e ∈ s.es → e.sb = b → K (.w64 e.u) M)
  | _ => False
 | _ => False
def hIt : HT := fun op xs M K => match op with
 | .range t _ => hRange t xs M K
 | .next _ b => hNext b xs M K
 | .entry _ => hEntry xs M K
 | .fieldAddr t _ f => hField t f xs M K
 | .load t _ => hLoad t xs M K
 | op => hIp op xs M K
theorem one_op {ρ : Operand → Value} {x : Operand} {v : Value} (h : List.map ρ [x] = [v]) : ρ x = v := by simpa using h
theorem size37 : 0 < sizeT Try.prog 37 := by
 have h : sizeT Try.prog 37 = 1 := by kernel_rfl
 rw [h]; exact Nat.zero_lt_one
theorem hIt_ok (nG : Mm) : HTok Try.prog nG hIt := by
 intro o xs M K h ρ β w hR ho hx
 unfold hIt at h
 split at h
 ·-- range
  rename_i t x hop
  unfold hRange at h
  split at h
  ·rename_i k
   split at h
   ·rename_i r s hk
    obtain ⟨hc, h1⟩ := vsome_iff.1 h
    simp only [Bool.and_eq_true, Bool.not_eq_true'] at hc
    obtain ⟨ht, hw⟩ := hc
    obtain rfl := Nat.eq_of_beq_eq_true ht
    obtain ⟨hb, hRi⟩ := hR.at_res hk
    have hmap := res_map hRi hw
    rw [hop] at ho
    have e1 : ρ x = .map (some (β k)) := one_op ho
    have h2 := h1 w.heap.size
    rw [snocK_eq] at h2
    have hm : Try.prog.underlying 71 = some (.map 76 77) := by kernel_rfl
    have hrun := run_range_map w 71 76 77 s.mb _ _ hm hmap
    have hF := Fp.alloc w (.mapIter (some s.mb) s.clk #[] s.clk)
    have hnew : (w.alloc (.mapIter (some s.mb) s.clk #[] s.clk)).heap[w.heap.size]? = some (.mapIter (some s.mb) s.clk #[] s.clk) := by
     show (w.heap.push _)[w.heap.size]? = _
     simp
    obtain ⟨g1, g2⟩ := hR.moreR (b := w.heap.size) (x := .res (itO w.heap.size s.mb s.clk [])) hF (fun i hi => by
     have hi : i ∈ [w.heap.size] := hi
     rw [List.mem_singleton.1 hi]; exact Nat.le_refl _) rfl ⟨rfl, fun p hp => by
      have hp : p ∈ [(w.heap.size, RO.iter s.mb s.clk [] s.clk)] := hp
      rw [List.mem_singleton.1 hp]; exact hnew, by simp [St.objs, St.its]⟩
    refine .inl ⟨.pointer (some ⟨w.heap.size, 0, none⟩), _, ?_, _, _, .ptr M.length 0, g2, g1, .inr ⟨?_, ?_⟩, h2⟩
    ·unfold execOp
     simp only [hop]
     rw [e1, hb]
     exact run_v hrun
    ·show Nat.blt M.length _ = true
     rw [Nat.blt_eq]; simp
    ·show Value.pointer _ = .pointer (some ⟨upd1 β M.length w.heap.size M.length, 0, none⟩)
     unfold upd1; rw [if_pos rfl]
   ·exact h.elim
  ·exact h.elim
 ·-- next
  rename_i x b hop
  unfold hNext at h
  split at h
  ·rename_i i
   split at h
   ·rename_i x0 mb clk seen r s hi hs1
    obtain ⟨hc, ⟨rfl, rfl, hlt⟩, h1, h2⟩ := vsome_iff.1 h
    simp only [Bool.and_eq_true, Bool.not_eq_true'] at hc
    obtain ⟨rfl, hw⟩ := hc
    obtain ⟨hb, hRi⟩ := hR.at_res hs1
    have hmap := res_map hRi hw
    obtain ⟨hbi, hRit⟩ := hR.at_res hi
    have hit : w.heap[β i]? = some (.mapIter (some s.mb) s.clk seen.toArray s.clk) := by
     rw [hbi]
     exact hRit.all (x0, RO.iter s.mb s.clk seen s.clk) (List.mem_singleton.2 rfl)
    rw [hop] at ho
    have e1 : ρ x = .pointer (some ⟨β i, 0, none⟩) := one_op ho
    have hex : ∀ (v : Value) (w' : World), (Instr.next (.pointer (some ⟨β i, 0, none⟩)) false o.type).run Try.prog w = .ok v w' → (execOp ρ o).run Try.prog w = .ok (.value v) w' := fun v w' hr => by
     unfold execOp
     simp only [hop]
     rw [e1]
     exact run_v hr
    rcases run_next_at (P := Try.prog) w o.type (β i) s.mb s.clk s.clk seen.toArray (s.es.map SetE.entry).toArray s.clk hit hmap (fun y hy => by
      obtain ⟨e, he, rfl⟩ := List.mem_map.1 (by simpa using hy)
      exact hlt e he) (Nat.le_refl _) with ⟨h0, hrun⟩ | ⟨y, hy, w1, hw1, hrun⟩
    ·refine .inl ⟨_, _, hex _ _ hrun, β, M, .tup [.b false], Ext.refl _ _ _, hR, .inr ⟨rfl, rfl⟩, h1 fun e he => ?_⟩
     have h3 : leftOf (s.es.map SetE.entry).toArray seen.toArray = #[] := Array.eq_empty_of_size_eq_zero h0
     unfold leftOf at h3
     rw [Array.filter_eq_empty_iff] at h3
     have := h3 e.entry (by simpa using ⟨e, he, rfl⟩)
     simpa [SetE.entry] using this
    ·unfold leftOf at hy
     have hy2 : y ∈ s.es.map SetE.entry ∧ y.born ∉ seen := by simpa using hy
     obtain ⟨hy3, hy4⟩ := hy2
     obtain ⟨e, he, rfl⟩ := List.mem_map.1 hy3
     have h3 := h2 e he hy4
     rw [setK_eq] at h3
     have hF0 : Fp0 w w1 := by
      rcases hw1 with rfl | rfl
      ·exact Fp.refl _ _
      ·exact Fp.drew w
     have hR1 := hR.step hF0
     have hit1 : β i < w1.heap.size := Nat.lt_of_lt_of_le (by
      rcases Nat.lt_or_ge (β i) w.heap.size with q | q
      ·exact q
      ·rw [Array.getElem?_eq_none q] at hit; cases hit) hF0.size
     obtain ⟨g1, g2⟩ := hR1.setR (c' := .res (itO x0 s.mb s.clk (seen ++ [e.born]))) hi rfl (w' := { w1 with heap := w1.heap.setIfInBounds (β i) (.mapIter (some s.mb) s.clk (seen.toArray.push e.entry.born) s.clk) }) ((fp_block w1 (β i) _).mono fun j _ hj => by
       show j ∈ [x0]
       rw [hj, hbi]; exact List.mem_singleton.2 rfl) rfl (fun j hj => .inl hj) (fun _ => ⟨hbi, fun p hp => by
        have hp : p ∈ [(x0, RO.iter s.mb s.clk (seen ++ [e.born]) s.clk)] := hp
        rw [List.mem_singleton.1 hp]
        show (w1.heap.setIfInBounds (β i) _)[x0]? = _
        rw [← show β i = x0 from hbi, Array.getElem?_setIfInBounds_self_of_lt hit1]
        simp [SetE.entry], by simp [St.objs, St.its]⟩)
     exact .inl ⟨_, _, hex _ _ hrun, β, _, .tup [.b true, .agg [.w32 e.nm.src, .w32 e.nm.dst, .w8 e.nm.proto, .w16 e.nm.id], .v (.pointer (some ⟨e.sb, 0, none⟩))], (Ext.step hF0).trans g2, g1, .inr ⟨rfl, rfl⟩, h3⟩
   ·exact h.elim
  ·exact h.elim
 ·-- entry
  rename_i x hop
  unfold hEntry at h
  split at h
  ·rename_i i
   split at h
   ·rename_i r0 x0 mb clk seen r s hi hs1
    obtain ⟨hw, ⟨rfl, rfl, hnd, e, seen', he, rfl⟩, h1⟩ := vsome_iff.1 h
    have hw : s.was = false := by simpa using hw
    obtain ⟨hb, hRi⟩ := hR.at_res hs1
    have hmap := res_map hRi hw
    obtain ⟨hbi, hRit⟩ := hR.at_res hi
    have hit : w.heap[β i]? = some (.mapIter (some s.mb) s.clk (seen'.toArray.push e.entry.born) s.clk) := by
     rw [hbi]
     have := hRit.all (x0, RO.iter s.mb s.clk (seen' ++ [e.born]) s.clk) (List.mem_singleton.2 rfl)
     have h4 : w.heap[x0]? = some (.mapIter (some s.mb) s.clk (seen' ++ [e.born]).toArray s.clk) := this
     rw [h4]; simp [SetE.entry]
    rw [hop] at ho
    have e1 : ρ x = .pointer (some ⟨β i, 0, none⟩) := one_op ho
    have hrun := run_entry_at (P := Try.prog) w (β i) s.mb s.clk seen'.toArray (s.es.map SetE.entry).toArray s.clk e.entry hit hmap (by simpa using ⟨e, he, rfl⟩) (by
     have : ((s.es.map SetE.entry).map (·.born)) = s.es.map (·.born) := by rw [List.map_map]; rfl
     simpa [this] using hnd)
    refine .inl ⟨_, _, ?_, β, M, .tup [.agg [.w32 e.nm.src, .w32 e.nm.dst, .w8 e.nm.proto, .w16 e.nm.id], .v (.pointer (some ⟨e.sb, 0, none⟩))], Ext.refl _ _ _, hR, .inr ⟨rfl, rfl⟩, h1 e seen' he rfl⟩
    unfold execOp
    simp only [hop]
    rw [e1]
    exact run_v hrun
   ·exact h.elim
  ·exact h.elim
 ·-- a field
  rename_i t x f hop
  unfold hField at h
  split at h
  ·rename_i b
   obtain ⟨hc, h1⟩ := vsome_iff.1 h
   simp only [Bool.and_eq_true] at hc
   obtain ⟨ht, hf⟩ := hc
   obtain rfl := Nat.eq_of_beq_eq_true ht
   obtain rfl := Nat.eq_of_beq_eq_true hf
   rw [hop] at ho
   have e1 : ρ x = .pointer (some ⟨b, 0, none⟩) := one_op ho
   have hrun : (Instr.fieldAt 80 (.pointer (some ⟨b, 0, none⟩)) 0).run Try.prog w = .ok (.pointer (some ⟨b, 0, none⟩)) w := by kernel_rfl
   refine .inl ⟨_, _, ?_, β, M, .v (.pointer (some ⟨b, 0, none⟩)), Ext.refl _ _ _, hR, .inr ⟨rfl, rfl⟩, h1⟩
   unfold execOp
   simp only [hop]
   rw [e1]
   exact run_v hrun
  ·exact h.elim
 ·-- a load
  rename_i t x hop
  unfold hLoad at h
  split at h
  ·rename_i b
   split at h
   ·rename_i r s hs1
    obtain ⟨hc, ⟨e, he, rfl⟩, h1⟩ := vsome_iff.1 h
    simp only [Bool.and_eq_true, Bool.not_eq_true'] at hc
    obtain ⟨ht, hw⟩ := hc
    obtain rfl := Nat.eq_of_beq_eq_true ht
    obtain ⟨hb, hRi⟩ := hR.at_res hs1
    have hh : Holds w e.sb true [c64 e.u, e.sl] none := by
     refine hRi.all (e.sb, .cells [c64 e.u, e.sl] none) ?_
     rw [res_objs hw]
     exact List.mem_cons_of_mem _ (List.mem_flatMap.2 ⟨e, List.mem_append_right _ he, List.mem_cons_self ..⟩)
    rw [hop] at ho
    have e1 : ρ x = .pointer (some ⟨e.sb, 0, none⟩) := one_op ho
    have hrun : (Instr.loadAt 37 (.pointer (some ⟨e.sb, 0, none⟩))).run Try.prog w = .ok (c64 e.u) w := qload_ok (β := fun _ => e.sb) (k := 0) (off := 0) (c := .row [.w64 e.u, .v e.sl]) (r := .w64 e.u) (fun _ => ⟨true, hh⟩) size37 (by kernel_rfl)
    refine .inl ⟨_, _, ?_, β, M, .w64 e.u, Ext.refl _ _ _, hR, .inr ⟨rfl, rfl⟩, h1 e he rfl⟩
    unfold execOp
    simp only [hop]
    rw [e1]
    exact run_v hrun
   ·exact h.elim
  ·exact h.elim
 ·exact hIp_ok nG o xs M K h ρ β w hR ho hx
end Go.Proofs.Ytggoncamiafclaa
