/-
  flow: reaches, finish, advance are contracts. No statement is proved here.
-/
import Derived.Test.YtkjfecdpakhggaaFpC
import Derived.Test.YtkjfecdpakhggaaFlA
namespace Go.Proofs.Ytkjfecdpakhggaa
open Go.RowKit
set_option linter.unusedVariables false
set_option linter.unusedSimpArgs false
set_option maxRecDepth 100000

theorem spec_cut {P : Program} {f : Nat} {args : List SV} {M : Mm} {K K' : SV → Mm → Prop} (hS : Spec P G f args M K) (h : ∀ r M1, K r M1 → r.wf M.length = true ∧ (∀ e ∈ M1.take M.length, e.c.wf M.length = true) ∧ K' r (M1.take M.length)) : Spec P G f args M K' := by
  intro β w hR hw
  refine (hS β w hR hw).mono fun v w' hh => ?_
  obtain ⟨β1, M1, r, hE, hR1, ⟨hwf, rfl⟩, hK⟩ := hh
  obtain ⟨h1, h2, h3⟩ := h r M1 hK
  have hl : (M1.take M.length).length = M.length := by rw [List.length_take]; have := hE.len; omega
  have get : ∀ k, k < M.length → (M1.take M.length)[k]? = M1[k]? := fun k hk => List.getElem?_take_of_lt hk
  have sub : ∀ (k : Nat) (e : Ent), (M1.take M.length)[k]? = some e → k < M.length ∧ M1[k]? = some e := fun k e he => by
    have hk : k < M.length := by rw [← hl]; exact lt_of_get he
    exact ⟨hk, by rw [← get k hk]; exact he⟩
  refine ⟨β1, M1.take M.length, r, ⟨hE.agree, by rw [hl]; exact Nat.le_refl _, fun b hb => ?_, hE.fp, fun k e he => ?_, fun k e hk he => absurd (sub k e he).1 (by omega)⟩, ⟨fun k e he hc => hR1.all k e (sub k e he).2 hc, fun i j x y hx hy hij => hR1.dis i j x y (sub i x hx).2 (sub j y hy).2 hij, hR1.glob, Nat.zero_le _, fun k hk => absurd hk (by show ¬ k < 0; omega), hR1.ro, fun k e he => ?_⟩, ⟨by rw [hl]; exact h1, rfl⟩, h3⟩
  · obtain ⟨k, e, he, hr, ho⟩ := hb
    exact hE.rws b ⟨k, e, (sub k e he).2, hr, ho⟩
  · obtain ⟨c, h4, h5⟩ := hE.keep k e he
    exact ⟨c, by rw [get k (lt_of_get he)]; exact h4, h5⟩
  · rw [hl]; exact h2 e (List.mem_of_getElem? he)
/-- A loop whose states are read off, and that may answer. -/
theorem loop_pickZ {P : Program} {E : Env} (hE : EnvOk P E) (hm : P.follows .mixedOrders = true) {B : Mm} {f id : Nat} (hG : E.G.length ≤ B.length) (hl : isLoop id (loopOf P f id) = true) {n : Nat} {ι : Type} (I : ι → List (Nat × SV)) (Mi : ι → Mm) (p : ι → Prop) (μ : ι → Nat) (sel : ι → List SV → Mm → Option (ι × List Nat)) (q : ι → Prop) (o : List (Nat × SV)) (z : Prop) (ro : List (Nat × SV)) (i0 : ι) (hp : p i0) (L : LT) (hL : LOk P E.G B f L)
    (hround : ∀ i, p i → frK n (I i) fun fr => vround P E L f id fr (Mi i) (Kz B id n (sel i) (fun i' => p i' ∧ μ i' < μ i) I Mi (q i) o (Mi i) z ro [])) {fr : List SV} {M : Mm} {K : Ko} (h0 : Le B fr M (mkF n (I i0)) (Mi i0)) (hK : ∀ i, p i → q i → K .normal (mkF n o) (Mi i)) (hZ : z → ∀ i, K .ret (mkF n ro) (Mi i)) : Wp P E.G B (loopOf P f id) fr M K := by
  have hc : loopOf P f id = .block id (.loop (body (loopOf P f id))) := by
    unfold isLoop at hl
    split at hl
    · rename_i j c he
      obtain rfl := Nat.eq_of_beq_eq_true hl
      rw [he]; rfl
    · cases hl
  refine Wp.le hG h0 ?_
  rw [hc]
  refine Wp.loop (fun m fr M => ∃ i, p i ∧ μ i = m ∧ fr = mkF n (I i) ∧ M = Mi i) (μ i0) ⟨i0, hp, rfl, rfl, rfl⟩ ?_
  rintro m fr M ⟨i, hpi, rfl, rfl, rfl⟩
  have h := hround i hpi
  rw [frK_eq] at h
  intro β0 w0 β a w hx hF hR
  refine Code.wp_mono (fun e a' w' hh => ?_) ((vcode_ok hE (wd_of hE hm hL) _ _ _ _ h) β0 w0 β a w hx hF hR)
  obtain ⟨β', fr', M', h1, h2, h3, hk⟩ := hh
  cases e with
  | normal =>
    simp only [Kz] at hk
    split at hk
    · rename_i i' rs hs
      obtain ⟨h4, h5⟩ := hk
      obtain ⟨q1, q2, q3⟩ := (vLeR_ok h5).1.go hG h1 h2 h3
      exact ⟨_, _, _, q1, q2, q3, _, h4.2, i', h4.1, rfl, rfl, rfl⟩
    · exact hk.elim
  | exit j =>
    obtain ⟨h4, h5, h6⟩ := hk
    obtain ⟨q1, q2, q3⟩ := (vLe_ok h6).1.go hG h1 h2 h3
    exact ⟨_, _, _, q1, q2, q3, h4, hK i hpi h5⟩
  | ret =>
    simp only [Kz] at hk
    split at hk
    · rename_i i' rs hs
      obtain ⟨h4, h5⟩ := hk
      obtain ⟨q1, q2, q3⟩ := (vLeR_ok h5).1.go hG h1 h2 h3
      exact ⟨_, _, _, q1, q2, q3, hZ h4 i'⟩
    · exact hk.elim
  | goto l => exact hk.elim
  | panic ch => exact hk.elim
  | outgrown => exact hk.elim
theorem inj_map {α β : Type} (f : α → β) : ∀ {l : List α}, (l.map f).Nodup → ∀ {a b : α}, a ∈ l → b ∈ l → f a = f b → a = b
  | [], _, _, _, h, _, _ => by cases h
  | x :: l, hn, a, b, ha, hb, hf => by
    rw [List.map_cons, List.nodup_cons] at hn
    rcases List.mem_cons.1 ha with h1 | h1
    · rcases List.mem_cons.1 hb with h2 | h2
      · rw [h1, h2]
      · exact absurd (List.mem_map.2 ⟨b, h2, by rw [← hf, h1]⟩) hn.1
    · rcases List.mem_cons.1 hb with h2 | h2
      · exact absurd (List.mem_map.2 ⟨a, h1, by rw [hf, h2]⟩) hn.1
      · exact inj_map f hn.2 h1 h2 hf
theorem count_lt {α : Type} {p q : α → Bool} : ∀ {l : List α} {e : α}, (∀ y, q y = true → p y = true) → e ∈ l → p e = true → q e = false → l.countP q < l.countP p
  | [], _, _, h, _, _ => by cases h
  | x :: l, e, hpq, he, h1, h2 => by
    have hle : l.countP q ≤ l.countP p := List.countP_mono_left fun y _ => hpq y
    rw [List.countP_cons, List.countP_cons]
    rcases List.mem_cons.1 he with rfl | he
    · rw [h1, h2]; simp; omega
    · have ih := count_lt hpq he h1 h2
      cases hq : q x
      · simp; omega
      · rw [hpq x hq]; simp; omega
-- reaches
def pRe (es : List EntE) (e : BitVec 32) (seen : List Nat) : Prop := ∀ y, y ∈ es → y.born ∈ seen → lessB y.k e = true
theorem reB_true {es : List EntE} {e : BitVec 32} {y : EntE} (hy : y ∈ es) (h : lessB y.k e = false) : reB es e = true := List.any_eq_true.2 ⟨y, hy, by rw [h]; rfl⟩
theorem reB_false {es : List EntE} {e : BitVec 32} (h : ∀ y, y ∈ es → lessB y.k e = true) : reB es e = false := by
  refine Bool.eq_false_iff.2 fun hq => ?_
  obtain ⟨y, hy, hb⟩ := List.any_eq_true.1 hq
  rw [h y hy] at hb; cases hb
theorem lastB {seen seen' : List Nat} {x y : Nat} (h : seen ++ [x] = seen' ++ [y]) : x = y := by
  have := congrArg (fun l : List Nat => l.getLast?) h
  simpa using this
theorem pRe_next {es : List EntE} {e : BitVec 32} {seen : List Nat} {y : EntE} (h : pRe es e seen) (hb : (es.map (·.born)).Nodup) (hy : y ∈ es) (hl : lessB y.k e = true) : pRe es e (seen ++ [y.born]) := fun z hz hm => by
  rcases List.mem_append.1 hm with q | q
  · exact h z hz q
  · obtain rfl : z = y := inj_map (·.born) hb hz hy (List.mem_singleton.1 q)
    exact hl
theorem cnt_next {es : List EntE} {seen : List Nat} {y : EntE} (hy : y ∈ es) (hn : y.born ∉ seen) : es.countP (fun z => decide (z.born ∉ seen ++ [y.born])) < es.countP (fun z => decide (z.born ∉ seen)) := count_lt (e := y) (fun z hz => decide_eq_true fun q => of_decide_eq_true hz (List.mem_append_left _ q)) hy (decide_eq_true hn) (by simp)
theorem loopReN (z : Int) (a en : BitVec 32) (tl ed : Bool) (mb clk : Nat) (es : List EntE) (e : BitVec 32) (hk : OkM (stM mb clk es)) : LOk Try.prog G (mN z a en tl ed mb clk es) 33 (LReN z a en tl ed mb clk es e) := by
  refine LT.add_ok (noL_ok _ _ _ _) fun fr M K h => ?_
  split at h
  · rename_i b s hs
    obtain ⟨hle, hK⟩ := vLe_ok h
    refine loop_pickZ ei_ok mixed (Nat.zero_le _) (by kernel_rfl) (fun _ => iRe 2 e) (mReN z a en tl ed mb clk es s.mb) (pRe es e) (fun seen => es.countP (fun z => decide (z.born ∉ seen))) (fun _ => selI 2) (fun _ => reB es e = false) [] (reB es e = true) [(4, .b true)] [] (fun y hy hm => (by cases hm)) noL (noL_ok _ _ _ _) (fun seen hp => ?_) hle (fun seen hp hq => ?_) (fun hq seen => ?_)
    · refine of_eq (rReN z a en tl ed mb clk es e s.mb seen _ _ _) ⟨⟨rfl, rfl, hk.lt⟩, fun hall => ⟨rfl, reB_false fun y hy => hp y hy (hall y hy), ⟨rfl, rfl⟩, ⟨rfl, rfl⟩, ⟨rfl, rfl⟩, trivial⟩, fun y hy hn => ⟨⟨rfl, rfl, hk.nd, y, seen, hy, rfl⟩, fun y2 seen' hy2 hs2 => ?_⟩⟩
      obtain rfl : y = y2 := inj_map (·.born) hk.nd hy hy2 (lastB hs2)
      rcases bTF (e - y.k != BitVec.ofInt 32 0) with h1 | h1
      · refine bifT h1 ?_
        rcases bTF ((e - y.k).ult (BitVec.ofInt 32 2147483648)) with h2 | h2
        · have hl : lessB y.k e = true := by unfold lessB; rw [h1, h2]; rfl
          exact bifF (by rw [h2]; rfl) ⟨⟨pRe_next hp hk.nd hy hl, cnt_next hy hn⟩, rfl, rfl, rfl, ⟨rfl, rfl⟩, ⟨rfl, rfl⟩, ⟨rfl, rfl⟩, trivial⟩
        · have hl : lessB y.k e = false := by unfold lessB; rw [h1, h2]; rfl
          exact bifT (by rw [h2]; rfl) ⟨reB_true hy hl, rfl, ⟨rfl, rfl⟩, ⟨rfl, rfl⟩, ⟨rfl, rfl⟩, trivial⟩
      · have hl : lessB y.k e = false := by unfold lessB; rw [h1]; rfl
        exact bifF h1 ⟨reB_true hy hl, rfl, ⟨rfl, rfl⟩, ⟨rfl, rfl⟩, ⟨rfl, rfl⟩, trivial⟩
    · have := (hK seen).1 hq
      rw [frK_eq] at this
      exact this
    · have := (hK seen).2 hq
      rw [frK_eq] at this
      exact this
  · exact h.elim
theorem loopReS (z : Int) (a en : BitVec 32) (tl ed : Bool) (mb clk : Nat) (es : List EntE) (off n cap : Nat) (l : List (BitVec 8)) (e : BitVec 32) (hk : OkM (stM mb clk es)) : LOk Try.prog G (mS z a en tl ed mb clk es off n cap l) 33 (LReS z a en tl ed mb clk es off n cap l e) := by
  refine LT.add_ok (noL_ok _ _ _ _) fun fr M K h => ?_
  split at h
  · rename_i b s hs
    obtain ⟨hle, hK⟩ := vLe_ok h
    refine loop_pickZ ei_ok mixed (Nat.zero_le _) (by kernel_rfl) (fun _ => iRe 3 e) (mReS z a en tl ed mb clk es off n cap l s.mb) (pRe es e) (fun seen => es.countP (fun z => decide (z.born ∉ seen))) (fun _ => selI 3) (fun _ => reB es e = false) [] (reB es e = true) [(4, .b true)] [] (fun y hy hm => (by cases hm)) noL (noL_ok _ _ _ _) (fun seen hp => ?_) hle (fun seen hp hq => ?_) (fun hq seen => ?_)
    · refine of_eq (rReS z a en tl ed mb clk es off n cap l e s.mb seen _ _ _) ⟨⟨rfl, rfl, hk.lt⟩, fun hall => ⟨rfl, reB_false fun y hy => hp y hy (hall y hy), ⟨rfl, rfl⟩, ⟨rfl, rfl⟩, ⟨rfl, rfl⟩, ⟨rfl, rfl⟩, trivial⟩, fun y hy hn => ⟨⟨rfl, rfl, hk.nd, y, seen, hy, rfl⟩, fun y2 seen' hy2 hs2 => ?_⟩⟩
      obtain rfl : y = y2 := inj_map (·.born) hk.nd hy hy2 (lastB hs2)
      rcases bTF (e - y.k != BitVec.ofInt 32 0) with h1 | h1
      · refine bifT h1 ?_
        rcases bTF ((e - y.k).ult (BitVec.ofInt 32 2147483648)) with h2 | h2
        · have hl : lessB y.k e = true := by unfold lessB; rw [h1, h2]; rfl
          exact bifF (by rw [h2]; rfl) ⟨⟨pRe_next hp hk.nd hy hl, cnt_next hy hn⟩, rfl, rfl, rfl, ⟨rfl, rfl⟩, ⟨rfl, rfl⟩, ⟨rfl, rfl⟩, ⟨rfl, rfl⟩, trivial⟩
        · have hl : lessB y.k e = false := by unfold lessB; rw [h1, h2]; rfl
          exact bifT (by rw [h2]; rfl) ⟨reB_true hy hl, rfl, ⟨rfl, rfl⟩, ⟨rfl, rfl⟩, ⟨rfl, rfl⟩, ⟨rfl, rfl⟩, trivial⟩
      · have hl : lessB y.k e = false := by unfold lessB; rw [h1]; rfl
        exact bifF h1 ⟨reB_true hy hl, rfl, ⟨rfl, rfl⟩, ⟨rfl, rfl⟩, ⟨rfl, rfl⟩, ⟨rfl, rfl⟩, trivial⟩
    · have := (hK seen).1 hq
      rw [frK_eq] at this
      exact this
    · have := (hK seen).2 hq
      rw [frK_eq] at this
      exact this
  · exact h.elim
theorem re_ok : COk Try.prog G 33 cRe := by
  intro args M K h
  unfold cRe at h
  split at h
  · rename_i e z a en tl ed mb clk es
    obtain ⟨hk, hK⟩ := h
    refine spec_cut (vf_ok ei_ok mixed (loopReN z a en tl ed mb clk es e hk) (of_eq (vReN z a en tl ed mb clk es e (fun r M1 => ∃ x seen, r = .b (reB es e) ∧ M1 = mReN z a en tl ed mb clk es x seen)) fun x => ⟨rfl, rfl, rfl, rfl, ⟨rfl, rfl⟩, ⟨rfl, rfl⟩, ⟨rfl, rfl⟩, fun seen => ⟨fun q => ⟨x, seen, by rw [q], rfl⟩, fun q => ⟨x, seen, by rw [q], rfl⟩⟩⟩)) (fun r M1 hh => ?_)
    obtain ⟨x, seen, rfl, rfl⟩ := hh
    refine ⟨rfl, fun y hy => ?_, hK⟩
    have hy : y ∈ mN z a en tl ed mb clk es := hy
    simp only [mN, List.mem_cons, List.not_mem_nil, or_false] at hy
    rcases hy with rfl | rfl <;> rfl
  · rename_i e z a off n cap en tl ed mb clk es l
    obtain ⟨hk, hK⟩ := h
    refine spec_cut (vf_ok ei_ok mixed (loopReS z a en tl ed mb clk es off n cap l e hk) (of_eq (vReS z a en tl ed mb clk es off n cap l e (fun r M1 => ∃ x seen, r = .b (reB es e) ∧ M1 = mReS z a en tl ed mb clk es off n cap l x seen)) fun x => ⟨rfl, rfl, rfl, rfl, ⟨rfl, rfl⟩, ⟨rfl, rfl⟩, ⟨rfl, rfl⟩, ⟨rfl, rfl⟩, fun seen => ⟨fun q => ⟨x, seen, by rw [q], rfl⟩, fun q => ⟨x, seen, by rw [q], rfl⟩⟩⟩)) (fun r M1 hh => ?_)
    obtain ⟨x, seen, rfl, rfl⟩ := hh
    refine ⟨rfl, fun y hy => ?_, hK⟩
    have hy : y ∈ mS z a en tl ed mb clk es off n cap l := hy
    simp only [mS, List.mem_cons, List.not_mem_nil, or_false] at hy
    rcases hy with rfl | rfl | rfl <;> rfl
  · exact h.elim
theorem e4_ok : EnvOk Try.prog E4 := { T := t4_ok, C := CT.add_ok (noC_ok _ _) re_ok, H := hMp_ok _ }
-- finish
theorem fiT_eq {z : Int} {n : Nat} {a : BitVec 32} {tl : Bool} {es : List EntE} {e : BitVec 32} : fiT z n a tl es e = (tl || (!((e - a).ult (BitVec.ofInt 32 (z - (n : Nat)) + BitVec.ofInt 32 1)) || reB es e)) := rfl
theorem fi_ok : COk Try.prog G 30 cFi := by
  intro args M K h
  unfold cFi at h
  split at h
  · rename_i e z a en tl ed mb clk es
    obtain ⟨⟨hq, hk⟩, hK⟩ := h
    obtain ⟨h1, h2⟩ := inI_win hq
    obtain rfl := hq.1
    refine vf_ok e4_ok mixed (noL_ok _ _ _ _) (of_eq (vFiN z a en tl false mb clk es e K) ?_)
    unfold enF tlF at hK
    rw [fiT_eq] at hK
    cases tl
    · refine bifF rfl (bifT (by rw [h1]; exact h2) ?_)
      rcases bTF (!(e - a).ult (BitVec.ofInt 32 (z - ((0 : Nat) : Int)) + BitVec.ofInt 32 1)) with hu | hu
      · rw [hu] at hK
        exact bifT hu hK
      · rw [hu] at hK
        refine bifF hu ⟨hk, ?_⟩
        rcases bTF (reB es e) with hr | hr
        · rw [hr] at hK
          exact bifT hr hK
        · rw [hr] at hK
          exact bifF hr hK
    · exact bifT rfl hK
  · rename_i e z a off n cap en tl ed mb clk es l
    obtain ⟨⟨hq, hk⟩, hK⟩ := h
    obtain ⟨h1, h2⟩ := inI_win hq
    obtain rfl := hq.1
    refine vf_ok e4_ok mixed (noL_ok _ _ _ _) (of_eq (vFiS z a en tl false mb clk es off n cap l e K) ?_)
    unfold enF tlF at hK
    rw [fiT_eq] at hK
    cases tl
    · refine bifF rfl (bifT (by rw [h1]; exact h2) ?_)
      rcases bTF (!(e - a).ult (BitVec.ofInt 32 (z - ((n : Nat) : Int)) + BitVec.ofInt 32 1)) with hu | hu
      · rw [hu] at hK
        exact bifT hu hK
      · rw [hu] at hK
        refine bifF hu ⟨hk, ?_⟩
        rcases bTF (reB es e) with hr | hr
        · rw [hr] at hK
          exact bifT hr hK
        · rw [hr] at hK
          exact bifF hr hK
    · exact bifT rfl hK
  · exact h.elim
end Go.Proofs.Ytkjfecdpakhggaa
