/-
  ip: IpApart: two that have the same sets of even numbers answer alike. No statement is proved here.
-/
import Derived.Test.YtggoncamiafclabJpB
namespace Go.Proofs.Ytggoncamiafclab
open Go.RowKit
set_option linter.unusedVariables false
set_option linter.unusedSimpArgs false
set_option maxRecDepth 100000

theorem fits_tail {x : Pc} {l : List Pc} (h : Fits (x :: l)) : Fits l := fun k hk => h (k + 1) (by rw [List.length_cons]; omega)
theorem fits_lt : ∀ {l : List Pc}, okR l → Fits l → l.Pairwise fun x y => x.1 < y.1
  | [], _, _ => List.Pairwise.nil
  | [x], _, _ => List.pairwise_singleton ..
  | x :: y :: l, o, f => by
    have ih := fits_lt (l := y :: l) (fun z hz => o z (List.mem_cons_of_mem _ hz)) (fits_tail f)
    have h1 : fit2 x y = true := f 0 (by simp only [List.length_cons]; omega)
    have h2 : x.1 < y.1 := by
      obtain ⟨-, -, h3⟩ := o x (List.mem_cons_self ..)
      unfold fit2 fitP at h1
      cases hb : x.2.2.1
      · rw [hb] at h1; cases h1
      · rw [hb] at h1
        have h1 : ile (x.1 + (x.2.1.length : Int)) y.1 = true := h1
        rw [ile_eq] at h1
        have key : ∀ (p q : Int) (k : Nat), 0 < k → p + (k : Int) ≤ q → p < q := fun p q k h1 h2 => by omega
        exact key _ _ _ h3 (of_decide_eq_true h1)
    refine List.pairwise_cons.2 ⟨fun z hz => ?_, ih⟩
    rcases List.mem_cons.1 hz with rfl | hz
    · exact h2
    · exact Int.lt_trans h2 ((List.pairwise_cons.1 ih).1 z hz)
theorem lt_one : ∀ {l : List Pc}, (l.Pairwise fun x y => x.1 < y.1) → ∀ a ∈ l, ∀ b ∈ l, a.1 = b.1 → a = b
  | [], _, a, ha, _, _, _ => by cases ha
  | x :: l, h, a, ha, b, hb, e => by
    obtain ⟨h1, h2⟩ := List.pairwise_cons.1 h
    rcases List.mem_cons.1 ha with ra | ga <;> rcases List.mem_cons.1 hb with rb | gb
    · rw [ra, rb]
    · rw [ra] at e; exact absurd e (Int.ne_of_lt (h1 b gb))
    · rw [rb] at e; exact absurd e.symm (Int.ne_of_lt (h1 a ga))
    · exact lt_one h2 a ga b gb e
theorem fits_one {l1 l2 : List Pc} (hp : l1.Perm l2) (o : okR l1) (f : Fits l1) (u : upP l2) : l1 = l2 := by
  have h1 := fits_lt o f
  exact List.Perm.eq_of_pairwise (le := fun x y : Pc => x.1 ≤ y.1) (fun a b ha hb q1 q2 => lt_one h1 a ha b (hp.mem_iff.2 hb) (Int.le_antisymm q1 q2)) (h1.imp fun q => Int.le_of_lt q) u hp
theorem addP_det {ps ps1 ps2 : List Pc} {a : Int} {m : Tx} {b : Bool} {t : BitVec 8} {z1 z2 : Int} (o : okR ps) (hq : okq a m) (h1 : AddP ps a m b t ps1 z1) (h2 : AddP ps a m b t ps2 z2) : z1 = z2 ∧ (z1 = 0 → ps1 = ps2) := by
  rcases h1 with ⟨g1, rfl, rfl⟩ | ⟨g1, p1, u1, f1⟩ <;> rcases h2 with ⟨g2, rfl, rfl⟩ | ⟨g2, p2, u2, f2⟩
  · exact ⟨rfl, fun _ => rfl⟩
  · rw [g1] at g2; cases g2
  · rw [g1] at g2; cases g2
  · have oA : okR (ps ++ [(a, m, b, t, ())]) := fun x hx => by
      rcases List.mem_append.1 hx with hx | hx
      · exact o x hx
      · obtain rfl := List.mem_singleton.1 hx
        exact hq
    have o1 : okR ps1 := fun x hx => oA x (p1.mem_iff.1 hx)
    have o2 : okR ps2 := fun x hx => oA x (p2.mem_iff.1 hx)
    have p3 : ps1.Perm ps2 := p1.trans p2.symm
    rcases f1 with ⟨f1, rfl⟩ | ⟨f1, rfl⟩
    · obtain rfl := fits_one p3 o1 f1 u2
      rcases f2 with ⟨-, rfl⟩ | ⟨f2, -⟩
      · exact ⟨rfl, fun _ => rfl⟩
      · exact absurd f1 f2
    · rcases f2 with ⟨f2, -⟩ | ⟨-, rfl⟩
      · obtain rfl := fits_one p3.symm o2 f2 u1
        exact absurd f2 f1
      · exact ⟨rfl, fun q => by cases q⟩
section
variable {v v1 v2 : Option (List Pc)} {F1 F2 : Prop} {a : Int} {m : Tx} {b : Bool} {t : BitVec 8} {z1 z2 : Int} {q1 q2 : List Pc}
theorem pair_ee (o : okR (v.getD [])) (h0 : 0 ≤ a) (h1 : OutE v F1 a m b t v1 z1) (h2 : OutE v F2 a m b t v2 z2) (hF : F2 → F1) : z1 = 6 ∨ (z1 = z2 ∧ v1 = v2) := by
  rcases h1 with ⟨w1, rfl, rfl⟩ | ⟨w1, -, -, rfl, -⟩ | ⟨w1, n1, ps1, A1, c1⟩
  · rcases h2 with ⟨w2, rfl, rfl⟩ | ⟨w2, -⟩ | ⟨w2, -⟩
    · exact .inr ⟨rfl, rfl⟩
    · exact absurd w2 w1
    · exact absurd w2 w1
  · exact .inl rfl
  · rcases h2 with ⟨w2, -⟩ | ⟨-, hn, f2, -⟩ | ⟨w2, n2, ps2, A2, c2⟩
    · exact absurd w1 w2
    · exact absurd (hF f2) (n1 hn)
    · obtain ⟨rfl, e⟩ := addP_det o (okq_of w1 h0) A1 A2
      refine .inr ⟨rfl, ?_⟩
      rcases c1 with ⟨k1, rfl⟩ | ⟨k1, -, rfl⟩ <;> rcases c2 with ⟨k2, rfl⟩ | ⟨k2, -, rfl⟩
      · rfl
      · exact absurd k2 k1
      · exact absurd k1 k2
      · rw [e k1]
theorem pair_em (o : okR (v.getD [])) (h0 : 0 ≤ a) (h1 : OutE v F1 a m b t v1 z1) (h2 : OutM v F2 a m b t v2 q2) : z1 = 6 := by
  obtain ⟨w2, n2, A2, W2, rfl⟩ := h2
  rcases h1 with ⟨w1, -⟩ | ⟨w1, -, -, rfl, -⟩ | ⟨w1, n1, ps1, A1, c1⟩
  · exact absurd w2 w1
  · rfl
  · obtain ⟨rfl, e⟩ := addP_det o (okq_of w1 h0) A1 A2
    rcases c1 with ⟨k1, -⟩ | ⟨-, W1, -⟩
    · exact absurd rfl k1
    · rw [e rfl, W2] at W1; cases W1
theorem pair_me (o : okR (v.getD [])) (h0 : 0 ≤ a) (h1 : OutM v F1 a m b t v1 q1) (h2 : OutE v F2 a m b t v2 z2) (hF : F2 → F1) : False := by
  obtain ⟨w1, n1, A1, W1, rfl⟩ := h1
  rcases h2 with ⟨w2, -⟩ | ⟨-, hn, f2, -⟩ | ⟨w2, n2, ps2, A2, c2⟩
  · exact w2 w1
  · exact n1 hn (hF f2)
  · obtain ⟨rfl, e⟩ := addP_det o (okq_of w1 h0) A1 A2
    rcases c2 with ⟨k2, -⟩ | ⟨-, W2, -⟩
    · exact k2 rfl
    · rw [← e rfl, W1] at W2; cases W2
theorem pair_mm (o : okR (v.getD [])) (h0 : 0 ≤ a) (h1 : OutM v F1 a m b t v1 q1) (h2 : OutM v F2 a m b t v2 q2) : q1 = q2 ∧ v1 = v2 := by
  obtain ⟨w1, n1, A1, W1, rfl⟩ := h1
  obtain ⟨w2, n2, A2, W2, rfl⟩ := h2
  exact ⟨(addP_det o (okq_of w1 h0) A1 A2).2 rfl, rfl⟩
end
theorem sub_len {α : Type} : ∀ {l m : List α}, l.Nodup → (∀ a ∈ l, a ∈ m) → l.length ≤ m.length
  | [], _, _, _ => Nat.zero_le _
  | a :: l, m, hn, hs => by
    obtain ⟨m1, m2, rfl⟩ := List.append_of_mem (hs a (List.mem_cons_self ..))
    rw [List.nodup_cons] at hn
    have := sub_len (l := l) (m := m1 ++ m2) hn.2 fun b hb => by
      have h1 := hs b (List.mem_cons_of_mem _ hb)
      rcases List.mem_append.1 h1 with h | h
      · exact List.mem_append_left _ h
      · rcases List.mem_cons.1 h with rfl | h
        · exact absurd hb hn.1
        · exact List.mem_append_right _ h
    simp only [List.length_append, List.length_cons] at this ⊢
    omega
def evN (n : Nm) : Prop := n.id.getLsbD 0 = false
/-- What the one has of even numbers the other one has, and nothing else. -/
structure Sim (i : Nat) (x y : St) : Prop where
  lx : Lv i x
  ly : Lv i y
  eq : ∀ n, evN n → vw x.es n = vw y.es n
  ev : ∀ e ∈ y.es, evN e.nm
  few : x.es.length ≤ i
theorem Sim.len {i : Nat} {x y : St} (h : Sim i x y) : y.es.length ≤ x.es.length := by
  have h1 := sub_len (m := x.es.map (·.nm)) h.ly.ok.nms fun n hn => by
    obtain ⟨e, he, rfl⟩ := List.mem_map.1 hn
    have h2 := vw_of h.ly.ok.nms he
    rw [← h.eq _ (h.ev e he)] at h2
    obtain ⟨e', he', hn', -⟩ := vw_mem h2
    exact List.mem_map.2 ⟨e', he', hn'⟩
  rwa [List.length_map, List.length_map] at h1
theorem Sim.full {i : Nat} {x y : St} (h : Sim i x y) : Full y → Full x := fun q => by
  have := h.len
  unfold Full St.len at q ⊢
  omega
theorem Lv.okv {i : Nat} {s : St} (h : Lv i s) (n : Nm) : okR ((vw s.es n).getD []) := by
  cases hv : vw s.es n with
  | none => exact fun x hx => by cases hx
  | some ps =>
    obtain ⟨e, he, -, rfl⟩ := vw_mem hv
    exact (h.ok.ok e he).ok
theorem ev_keep {y y' : St} {n : Nm} (hn : evN n) (h : ∀ e ∈ y.es, evN e.nm) (hk : ∀ k, k ≠ n → vw y'.es k = vw y.es k) (ho : OkS y') : ∀ e ∈ y'.es, evN e.nm := fun e he => by
  by_cases q : e.nm = n
  · rw [q]; exact hn
  · have h1 := vw_of ho.nms he
    rw [hk _ q] at h1
    obtain ⟨e', he', hn', -⟩ := vw_mem h1
    rw [← hn']; exact h e' he'
theorem Sim.next {i : Nat} {x y x' y' : St} {n : Nm} (hn : evN n) (h : Sim i x y) (hx : Lv (i + 1) x' ∧ x'.es.length ≤ x.es.length + 1 ∧ (∀ k, k ≠ n → vw x'.es k = vw x.es k)) (hy : Lv (i + 1) y' ∧ (∀ k, k ≠ n → vw y'.es k = vw y.es k)) (e : vw x'.es n = vw y'.es n) : Sim (i + 1) x' y' :=
  ⟨hx.1, hy.1, fun k hk => by
    by_cases q : k = n
    · subst q; exact e
    · rw [hx.2.2 k q, hy.2 k q]; exact h.eq k hk, ev_keep hn h.ev hy.2 hy.1.ok, by have := h.few; have := hx.2.1; omega⟩
theorem Lv.up {i j : Nat} {s : St} (h : Lv i s) (hij : i ≤ j) : Lv j s := h.mono hij (List.Sublist.refl _) h.ok
theorem Sim.up {i j : Nat} {x y : St} (h : Sim i x y) (hij : i ≤ j) : Sim j x y := ⟨h.lx.up hij, h.ly.up hij, h.eq, h.ev, Nat.le_trans h.few hij⟩
/-- A piece of another one. -/
theorem Sim.other {i : Nat} {x y x' : St} {n : Nm} (hn : ¬ evN n) (h : Sim i x y) (hx : Lv (i + 1) x' ∧ x'.es.length ≤ x.es.length + 1 ∧ (∀ k, k ≠ n → vw x'.es k = vw x.es k)) : Sim (i + 1) x' y :=
  ⟨hx.1, h.ly.up (Nat.le_succ _), fun k hk => by rw [hx.2.2 k (fun q => hn (q ▸ hk))]; exact h.eq k hk, h.ev, by have := h.few; have := hx.2.1; omega⟩
/-- A piece of its own, taken by both. -/
theorem sim_ee {i : Nat} {x y x' y' : St} {n : Nm} {a : Int} {m : Tx} {b : Bool} {t : BitVec 8} {z1 z2 : Int} (hn : evN n) (h0 : 0 ≤ a) (h : Sim i x y) (h1 : GErr 32 U1000 U1 n a m b t x x' z1) (h2 : GErr 32 U1000 U1 n a m b t y y' z2) : z1 = 6 ∨ (z1 = z2 ∧ Sim (i + 1) x' y') := by
  obtain ⟨g1, g2, g3, g4⟩ := view_err h1 h.lx
  obtain ⟨k1, k2, k3, k4⟩ := view_err h2 h.ly
  rw [h.eq n hn] at g4
  rcases pair_ee (h.ly.okv n) h0 g4 k4 h.full with q | ⟨q1, q2⟩
  · exact .inl q
  · exact .inr ⟨q1, h.next hn ⟨g1, g2, g3⟩ ⟨k1, k3⟩ q2⟩
theorem sim_em {i : Nat} {x y x' y' : St} {n : Nm} {a : Int} {m : Tx} {b : Bool} {t : BitVec 8} {z1 : Int} {q2 : List Pc} (hn : evN n) (h0 : 0 ≤ a) (h : Sim i x y) (h1 : GErr 32 U1000 U1 n a m b t x x' z1) (h2 : GMade 32 U1000 U1 n a m b t y y' q2) : z1 = 6 := by
  obtain ⟨g1, g2, g3, g4⟩ := view_err h1 h.lx
  obtain ⟨k1, k2, k3, k4⟩ := view_made h2 h.ly
  rw [h.eq n hn] at g4
  exact pair_em (h.ly.okv n) h0 g4 k4
theorem sim_me {i : Nat} {x y x' y' : St} {n : Nm} {a : Int} {m : Tx} {b : Bool} {t : BitVec 8} {z2 : Int} {q1 : List Pc} (hn : evN n) (h0 : 0 ≤ a) (h : Sim i x y) (h1 : GMade 32 U1000 U1 n a m b t x x' q1) (h2 : GErr 32 U1000 U1 n a m b t y y' z2) : False := by
  obtain ⟨g1, g2, g3, g4⟩ := view_made h1 h.lx
  obtain ⟨k1, k2, k3, k4⟩ := view_err h2 h.ly
  rw [h.eq n hn] at g4
  exact pair_me (h.ly.okv n) h0 g4 k4 h.full
theorem sim_mm {i : Nat} {x y x' y' : St} {n : Nm} {a : Int} {m : Tx} {b : Bool} {t : BitVec 8} {q1 q2 : List Pc} (hn : evN n) (h0 : 0 ≤ a) (h : Sim i x y) (h1 : GMade 32 U1000 U1 n a m b t x x' q1) (h2 : GMade 32 U1000 U1 n a m b t y y' q2) : q1 = q2 ∧ Sim (i + 1) x' y' := by
  obtain ⟨g1, g2, g3, g4⟩ := view_made h1 h.lx
  obtain ⟨k1, k2, k3, k4⟩ := view_made h2 h.ly
  rw [h.eq n hn] at g4
  obtain ⟨e1, e2⟩ := pair_mm (h.ly.okv n) h0 g4 k4
  exact ⟨e1, h.next hn ⟨g1, g2, g3⟩ ⟨k1, k3⟩ e2⟩
end Go.Proofs.Ytggoncamiafclab
namespace Go.Proofs.Ytggoncamiafclab
open Go.RowKit
set_option linter.unusedVariables false
set_option linter.unusedSimpArgs false
set_option maxRecDepth 100000

/-- As Kp; the round may answer too. -/
def Kq (B : Mm) (id n : Nat) {ι : Type} (sel : List SV → Mm → Option (ι × List Nat)) (a : ι → Prop) (I : ι → List (Nat × SV)) (Mi : ι → Mm) (o : List (Nat × SV)) (M1 : Mm) (ro : List (Nat × SV)) (Mr : Mm) : Ko := fun e fr2 M2 => match e with
  | .normal => match sel fr2 M2 with
    | some (i', rs) => a i' ∧ vLeR B fr2 M2 n (I i') (Mi i') rs True
    | none => False
  | .exit j => j = id ∧ vLe B fr2 M2 n o M1 True
  | .ret => vLe B fr2 M2 n ro Mr True
  | _ => False
theorem loop_pickR {P : Program} {E : Env} (hE : EnvOk P E) (hm : P.follows .mixedOrders = true) {B : Mm} {f id : Nat} (hG : E.G.length ≤ B.length) (hl : isLoop id (loopOf P f id) = true) {n : Nat} {ι : Type} (I : ι → List (Nat × SV)) (Mi : ι → Mm) (p : ι → Prop) (μ : ι → Nat) (sel : ι → List SV → Mm → Option (ι × List Nat)) (o : List (Nat × SV)) (M1 : Mm) (ro : List (Nat × SV)) (Mr : Mm) (i0 : ι) (hp : p i0) (L : LT) (hL : LOk P E.G B f L)
    (hround : ∀ i, p i → frK n (I i) fun fr => vround P E L f id fr (Mi i) (Kq B id n (sel i) (fun i' => p i' ∧ μ i' < μ i) I Mi o M1 ro Mr)) {fr : List SV} {M : Mm} {K : Ko} (h0 : Le B fr M (mkF n (I i0)) (Mi i0)) (hK : K .normal (mkF n o) M1) (hZ : K .ret (mkF n ro) Mr) : Wp P E.G B (loopOf P f id) fr M K := by
  have hc : loopOf P f id = .block id (.loop (body (loopOf P f id))) := by
    unfold isLoop at hl
    split at hl
    · rename_i j c he
      obtain rfl := Nat.eq_of_beq_eq_true hl
      rw [he]; rfl
    · cases hl
  refine Wp.le hG h0 ?_
  rw [hc]
  refine Wp.loop (fun m fr M => ∃ i, p i ∧ μ i = m ∧ fr = mkF n (I i) ∧ M = Mi i) (μ i0) ⟨i0, hp, rfl, rfl, rfl⟩ ?_
  rintro m fr M ⟨i, hpi, rfl, rfl, rfl⟩
  have h := hround i hpi
  rw [frK_eq] at h
  intro β0 w0 β a w hx hF hR
  refine Code.wp_mono (fun e a' w' hh => ?_) ((vcode_ok hE (wd_of hE hm hL) _ _ _ _ h) β0 w0 β a w hx hF hR)
  obtain ⟨β', fr', M', h1, h2, h3, hk⟩ := hh
  cases e with
  | normal =>
    simp only [Kq] at hk
    split at hk
    · rename_i i' rs hs
      obtain ⟨h4, h5⟩ := hk
      obtain ⟨q1, q2, q3⟩ := (vLeR_ok h5).1.go hG h1 h2 h3
      exact ⟨_, _, _, q1, q2, q3, _, h4.2, i', h4.1, rfl, rfl, rfl⟩
    · exact hk.elim
  | exit j =>
    obtain ⟨h4, h6⟩ := hk
    obtain ⟨q1, q2, q3⟩ := (vLe_ok h6).1.go hG h1 h2 h3
    exact ⟨_, _, _, q1, q2, q3, h4, hK⟩
  | ret =>
    obtain ⟨q1, q2, q3⟩ := (vLe_ok hk).1.go hG h1 h2 h3
    exact ⟨_, _, _, q1, q2, q3, hZ⟩
  | goto l => exact hk.elim
  | panic ch => exact hk.elim
  | outgrown => exact hk.elim
/-- A packet's cells. -/
abbrev PF : List Fk := [.u32, .u32, .u8, .u8, .u16, .b, .b, .u16, .s]
abbrev Pk : Type := Rc PF
abbrev Pk.dat (r : Pk) : Tx := r.2.2.2.2.2.2.2.2.1
abbrev OF : List Fk := [.b]
def pkE (pre : List Value) (l : List Pk) : Ent := ⟨false, .recs none PF pre l⟩
def orE (pre : List Value) (l : List (Rc OF)) : Ent := ⟨false, .recs none OF pre l⟩
def pW (r : Pk) : Nat := (Pk.dat r).length
def pN (l : List Pk) : Nat → Nat
  | 0 => 0
  | i + 1 => pN l i + pW (l.getD i (rz PF))
theorem rok_p {i m : Nat} (pre : List Value) (h : i < m) : rok pre.length i 9 PF pre m = true := by
  unfold rok
  rw [Nat.sub_self, show Nat.beq 9 PF.length = true from rfl, show Nat.blt 0 9 = true from rfl, show Nat.ble pre.length pre.length = true from by rw [Nat.ble_eq]; exact Nat.le_refl _]
  show Nat.blt (i + 0) m = true
  rw [Nat.blt_eq]; exact h
theorem rok_o {i m : Nat} (pre : List Value) (h : i < m) : rok pre.length i 1 OF pre m = true := by
  unfold rok
  rw [Nat.sub_self, show Nat.beq 1 OF.length = true from rfl, show Nat.blt 0 1 = true from rfl, show Nat.ble pre.length pre.length = true from by rw [Nat.ble_eq]; exact Nat.le_refl _]
  show Nat.blt (i + 0) m = true
  rw [Nat.blt_eq]; exact h
def okPk (l : List Pk) : Bool := l.all fun r => Nat.ble (Pk.dat r).length 140737488355328
theorem okPk_at {l : List Pk} (h : okPk l = true) (i : Nat) : pW (l.getD i (rz PF)) ≤ 140737488355328 := by
  rcases Nat.lt_or_ge i l.length with q | q
  · rw [List.getD_eq_getElem?_getD, List.getElem?_eq_getElem q]
    have := List.all_eq_true.1 h _ (List.getElem_mem q)
    simp only [Nat.ble_eq] at this
    exact this
  · rw [List.getD_eq_getElem?_getD, List.getElem?_eq_none q]
    exact Nat.zero_le _
theorem pN_le {l : List Pk} (h : okPk l = true) : ∀ i, pN l i ≤ i * 140737488355328
  | 0 => Nat.le_refl _
  | i + 1 => by
    have h1 := pN_le h i
    have h2 := okPk_at h i
    unfold pN
    omega
theorem pN_at (l : List Pk) (i : Nat) : ∀ n, i < n → pW (l.getD i (rz PF)) ≤ pN l n
  | 0, h => by omega
  | n + 1, h => by
    unfold pN
    rcases Nat.lt_or_ge i n with q | q
    · have := pN_at l i n q; omega
    · obtain rfl : i = n := by omega
      omega
end Go.Proofs.Ytggoncamiafclab
