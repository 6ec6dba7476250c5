/-
  link: what is asked of addresses and records. No statement is proved here.
-/
import Derived.Test.YtedcileokcbohaaDoorVcV
import Derived.Test.YtedcileokcbohaaDoorChecked
namespace Go.Proofs.YtedcileokcbohaaDoor
open Go.RowKit
set_option linter.unusedVariables false
set_option linter.unusedSimpArgs false
set_option maxRecDepth 100000

abbrev Tx := List (BitVec 8)
/-- What every ARP begins with. -/
def HD : Tx := [0, 1, 8, 0, 6, 4]
def G : Mm := [⟨false, .a8 HD⟩]
theorem mixed : Tryd.prog.follows .mixedOrders = true := by kernel_rfl
def flagN : Nat := 1000001
def cFlag : List SV → List Cont → Option (Bool × SV) := fun _ _ => some (false, .any)
theorem flag_ok (n : Nat) : POk Tryd.prog G n cFlag := by
  intro args acs r h
  simp [cFlag] at h
def T0 : PT := noT.add flagN cFlag
theorem t0_ok : PTok Tryd.prog G T0 := PT.add_ok (noT_ok _ _) (flag_ok _)
def E0 : Env := ⟨G, T0, noC⟩
theorem e0_ok : EnvOk Tryd.prog E0 := ⟨t0_ok, noC_ok _ _⟩
theorem blt_of {a b : Nat} (h : a < b) : Nat.blt a b = true := by simpa [Nat.blt_eq] using h
theorem ble_of {a b : Nat} (h : a ≤ b) : Nat.ble a b = true := Nat.ble_eq_true_of_le h
theorem and_t {a b : Bool} (ha : a = true) (hb : b = true) : (a && b) = true := by rw [ha, hb]; rfl
theorem ile_of {a b : Int} (h : a ≤ b) : ile a b = true := by rw [ile_eq]; exact decide_eq_true h
theorem ilt_of {a b : Int} (h : a < b) : ilt a b = true := by rw [ilt_eq]; exact decide_eq_true h
theorem ilt_no {a b : Int} (h : ¬ a < b) : ilt a b = false := by rw [ilt_eq]; exact decide_eq_false h
theorem ile_no {a b : Int} (h : ¬ a ≤ b) : ile a b = false := by rw [ile_eq]; exact decide_eq_false h
/-- What a function answers that is handed values alone, from its reckoning. -/
theorem pokE {E : Env} (hG : E.G = G) (hE : EnvOk Tryd.prog E) {f : Nat} {L : LT} (hL : LOk Tryd.prog E.G G f L) {args : List SV} {r : SV} {q : Prop} (h : vf Tryd.prog E L f args G (fun r' _ => r' = r) = q) (hq : q) (ha : SV.wf.wfs 0 args = true) (hr : r.wf 0 = true) {β : Nat → Nat} {M : Mm} {w : World} (hR : Rel G β M w) : CallR Tryd.prog f (vals β args).toArray w (fun v w' => v = val β r ∧ Fp0 w w') := by
  have hS := vf_ok hE mixed hL (of_eq h hq)
  rw [hG] at hS
  exact pure0 hS ha hr hR
-- contracts by shape
def cM (F : Tx → Bool) : List SV → List Cont → Option (Bool × SV)
  | [.s l], _ => some (true, .b (F l))
  | _, _ => none
def cA (F : BitVec 32 → Bool) : List SV → List Cont → Option (Bool × SV)
  | [.w32 a], _ => some (true, .b (F a))
  | _, _ => none
def cArp (F : BitVec 16 → Tx → Tx → Bool) : List SV → List Cont → Option (Bool × SV)
  | [.agg [.w16 o, .s a, .w32 _, .s b, .w32 _]], _ => some (true, .b (F o a b))
  | _, _ => none
theorem pM {E : Env} (hG : E.G = G) (hE : EnvOk Tryd.prog E) {f : Nat} {F : Tx → Bool} {q : Tx → Prop} (h : ∀ l, vf Tryd.prog E noL f [.s l] G (fun r _ => r = .b (F l)) = q l) (hq : ∀ l, q l) : POk Tryd.prog G f (cM F) := by
  intro args acs r hh β M w hR hw ha
  unfold cM at hh
  split at hh
  · rename_i l
    simp only [Option.some.injEq, Prod.mk.injEq, true_and] at hh
    subst hh
    exact pokE hG hE (noL_ok _ _ _ _) (h l) (hq l) rfl rfl hR
  · cases hh
theorem pA {E : Env} (hG : E.G = G) (hE : EnvOk Tryd.prog E) {f : Nat} {F : BitVec 32 → Bool} {q : BitVec 32 → Prop} (h : ∀ l, vf Tryd.prog E noL f [.w32 l] G (fun r _ => r = .b (F l)) = q l) (hq : ∀ l, q l) : POk Tryd.prog G f (cA F) := by
  intro args acs r hh β M w hR hw ha
  unfold cA at hh
  split at hh
  · rename_i l
    simp only [Option.some.injEq, Prod.mk.injEq, true_and] at hh
    subst hh
    exact pokE hG hE (noL_ok _ _ _ _) (h l) (hq l) rfl rfl hR
  · cases hh
theorem pArp {E : Env} (hG : E.G = G) (hE : EnvOk Tryd.prog E) {f : Nat} {F : BitVec 16 → Tx → Tx → Bool} {q : BitVec 16 → Tx → BitVec 32 → Tx → BitVec 32 → Prop} (h : ∀ o a u b v, vf Tryd.prog E noL f [.agg [.w16 o, .s a, .w32 u, .s b, .w32 v]] G (fun r _ => r = .b (F o a b)) = q o a u b v) (hq : ∀ o a u b v, q o a u b v) : POk Tryd.prog G f (cArp F) := by
  intro args acs r hh β M w hR hw ha
  unfold cArp at hh
  split at hh
  · rename_i o a u b v
    simp only [Option.some.injEq, Prod.mk.injEq, true_and] at hh
    subst hh
    exact pokE hG hE (noL_ok _ _ _ _) (h o a u b v) (hq o a u b v) rfl rfl hR
  · cases hh
/-- Six bytes. -/
def isM (l : Tx) : Bool := (l.length : Int) == 6
def aloneA (a : BitVec 32) : Bool := bif bif (BitVec.ofInt 32 1).ule (a >>> 24) then (a >>> 24).ule (BitVec.ofInt 32 223) else false then a >>> 24 != BitVec.ofInt 32 127 else false
def arpOk (I : Tx → Bool) (o : BitVec 16) (a b : Tx) : Bool := bif bif bif o == BitVec.ofInt 16 1 then true else o == BitVec.ofInt 16 2 then I a else false then I b else false
def Z6 : Tx := [0, 0, 0, 0, 0, 0]
def aloneM (l : Tx) : Bool := bif bif isM l then l.getD 0 0 &&& BitVec.ofInt 8 1 == BitVec.ofInt 8 0 else false then !(l == Z6) else false
theorem v33 (l : Tx) (K : SV → Prop) : (vf Tryd.prog E0 noL 33 [.s l] G (fun r _ => K r)) = (K (SV.b ((↑(List.length l) : Int) == 6))) := by kernel_rfl
theorem isMac_ok : POk Tryd.prog G 33 (cM isM) := pM rfl e0_ok (fun l => v33 l _) fun l => rfl
theorem v19 (a : BitVec 32) (K : SV → Prop) : (vf Tryd.prog E0 noL 19 [.w32 a] G (fun r _ => K r)) = (bif (BitVec.ofInt 32 1).ule (a >>> 24) then bif bif true then (a >>> 24).ule (BitVec.ofInt 32 223) else false then K (SV.b (bif true then a >>> 24 != BitVec.ofInt 32 127 else false)) else K (SV.b false) else K (SV.b false)) := by kernel_rfl
theorem v20 (a : BitVec 32) (K : SV → Prop) : (vf Tryd.prog E0 noL 20 [.w32 a] G (fun r _ => K r)) = (bif (BitVec.ofInt 32 1).ule (a >>> 24) then bif bif true then (a >>> 24).ule (BitVec.ofInt 32 223) else false then K (SV.b (bif true then a >>> 24 != BitVec.ofInt 32 127 else false)) else K (SV.b false) else K (SV.b false)) := by kernel_rfl
theorem aloneAddr_ok : POk Tryd.prog G 19 (cA aloneA) := pA rfl e0_ok (fun l => v19 l _) fun a => by
  unfold aloneA
  generalize (BitVec.ofInt 32 1).ule (a >>> 24) = p; generalize (a >>> 24).ule (BitVec.ofInt 32 223) = q
  cases p <;> cases q <;> rfl
theorem raloneAddr_ok : POk Tryd.prog G 20 (cA aloneA) := pA rfl e0_ok (fun l => v20 l _) fun a => by
  unfold aloneA
  generalize (BitVec.ofInt 32 1).ule (a >>> 24) = p; generalize (a >>> 24).ule (BitVec.ofInt 32 223) = q
  cases p <;> cases q <;> rfl
def E1 (I : Tx → Bool) : Env := ⟨G, T0.add 33 (cM I), noC⟩
theorem e1_ok : EnvOk Tryd.prog (E1 isM) := ⟨PT.add_ok t0_ok isMac_ok, noC_ok _ _⟩
theorem v37 (I : Tx → Bool) (o : BitVec 16) (a : Tx) (u : BitVec 32) (b : Tx) (v : BitVec 32) (K : SV → Prop) : (vf Tryd.prog (E1 I) noL 37 [.agg [.w16 o, .s a, .w32 u, .s b, .w32 v]] G (fun r _ => K r)) = (bif o == BitVec.ofInt 16 1 then bif bif true then I a else false then K (SV.b (bif true then I b else false)) else K (SV.b false) else bif bif false then true else o == BitVec.ofInt 16 2 then bif bif true then I a else false then K (SV.b (bif true then I b else false)) else K (SV.b false) else K (SV.b false)) := by kernel_rfl
theorem v38 (o : BitVec 16) (a : Tx) (u : BitVec 32) (b : Tx) (v : BitVec 32) (K : SV → Prop) : (vf Tryd.prog E0 noL 38 [.agg [.w16 o, .s a, .w32 u, .s b, .w32 v]] G (fun r _ => K r)) = (bif o == BitVec.ofInt 16 1 then bif bif true then (↑(List.length a) : Int) == 6 else false then K (SV.b (bif true then (↑(List.length b) : Int) == 6 else false)) else K (SV.b false) else bif bif false then true else o == BitVec.ofInt 16 2 then bif bif true then (↑(List.length a) : Int) == 6 else false then K (SV.b (bif true then (↑(List.length b) : Int) == 6 else false)) else K (SV.b false) else K (SV.b false)) := by kernel_rfl
theorem isArp_ok : POk Tryd.prog G 37 (cArp (arpOk isM)) := pArp rfl e1_ok (fun o a u b v => v37 isM o a u b v _) fun o a u b v => by
  unfold arpOk
  generalize (o == BitVec.ofInt 16 1) = p; generalize (o == BitVec.ofInt 16 2) = q; generalize isM a = r; generalize isM b = s
  cases p <;> cases q <;> cases r <;> cases s <;> rfl
theorem mayArp_ok : POk Tryd.prog G 38 (cArp (arpOk isM)) := pArp rfl e0_ok (fun o a u b v => v38 o a u b v _) fun o a u b v => by
  unfold arpOk isM
  generalize (o == BitVec.ofInt 16 1) = p; generalize (o == BitVec.ofInt 16 2) = q; generalize ((a.length : Int) == 6) = r; generalize ((b.length : Int) == 6) = s
  cases p <;> cases q <;> cases r <;> cases s <;> rfl
theorem v17 (I : Tx → Bool) (l : Tx) (K : SV → Prop) : (vf Tryd.prog (E1 I) noL 17 [.s l] G (fun r _ => K r)) = (bif I l then bif inR 0 (List.length l) then bif bif true then List.getD l 0 0 &&& BitVec.ofInt 8 1 == BitVec.ofInt 8 0 else false then K (SV.b (bif true then !l == bts { data := #[0, 0, 0, 0, 0, 0] } else false)) else K (SV.b false) else False else K (SV.b false)) := by kernel_rfl
theorem v18 (l : Tx) (K : SV → Prop) : (vf Tryd.prog E0 noL 18 [.s l] G (fun r _ => K r)) = (bif (↑(List.length l) : Int) == 6 then bif inR 0 (List.length l) then bif bif true then List.getD l 0 0 &&& BitVec.ofInt 8 1 == BitVec.ofInt 8 0 else false then K (SV.b (bif true then !l == List.take 6 (List.drop 0 (List.replicate 6 0)) else false)) else K (SV.b false) else False else K (SV.b false)) := by kernel_rfl
theorem inR0 {l : Tx} (h : isM l = true) : inR 0 l.length = true := inR_iff.2 ⟨by omega, by have := eq_of_beq h; omega⟩
theorem alone_ok : POk Tryd.prog G 17 (cM aloneM) := pM rfl e1_ok (fun l => v17 isM l _) fun l => by
  unfold aloneM
  cases h : isM l
  · rfl
  · rw [inR0 h]
    show bif (l.getD 0 0 &&& BitVec.ofInt 8 1 == BitVec.ofInt 8 0) then SV.b (!(l == bts ⟨#[0, 0, 0, 0, 0, 0]⟩)) = _ else SV.b false = _
    generalize (l.getD 0 0 &&& BitVec.ofInt 8 1 == BitVec.ofInt 8 0) = p
    cases p <;> rfl
theorem ralone_ok : POk Tryd.prog G 18 (cM aloneM) := pM rfl e0_ok (fun l => v18 l _) fun l => by
  unfold aloneM
  cases h : isM l
  · have h2 : ((l.length : Int) == 6) = false := h
    rw [h2]; rfl
  · have h2 : ((l.length : Int) == 6) = true := h
    rw [inR0 h, h2]
    show bif (l.getD 0 0 &&& BitVec.ofInt 8 1 == BitVec.ofInt 8 0) then SV.b (!(l == Z6)) = _ else SV.b false = _
    generalize (l.getD 0 0 &&& BitVec.ofInt 8 1 == BitVec.ofInt 8 0) = p
    cases p <;> rfl
end Go.Proofs.YtedcileokcbohaaDoor
namespace Go.Proofs.YtedcileokcbohaaDoor
open Go.RowKit
set_option linter.unusedVariables false
set_option linter.unusedSimpArgs false

/-- M2 and r2 tell of the same world as M1 and r do; place k of M2 is place σ k of M1. -/
structure Mv (n : Nat) (M1 M2 : Mm) (σ : Nat → Nat) (r r2 : SV) : Prop where
  low : ∀ k, k < n → σ k = k
  len : n ≤ M2.length
  all : ∀ (k : Nat) (e : Ent), M2[k]? = some e → e.c.here = true → ∃ e1, M1[σ k]? = some e1 ∧ e1.c.here = true ∧ e1.rw = e.rw ∧ (∀ β : Nat → Nat, e.c.cells (fun k => β (σ k)) = e1.c.cells β) ∧ (e.c.shp = e1.c.shp)
  inj : ∀ (i j : Nat) (x y : Ent), M2[i]? = some x → M2[j]? = some y → i ≠ j → x.rw = true → x.c.here = true → y.c.here = true → σ i ≠ σ j
  wf : ∀ (k : Nat) (e : Ent), M2[k]? = some e → e.c.wf M2.length = true
  rw : ∀ (k : Nat) (e : Ent), M2[k]? = some e → e.rw = true → ∃ e1, M1[σ k]? = some e1 ∧ e1.rw = true
  keep : ∀ (k : Nat) (e : Ent), k < n → M1[k]? = some e → ∃ c, M2[k]? = some ⟨e.rw, c⟩ ∧ (e.rw = false → c = e.c)
  new : ∀ (k : Nat) (e : Ent), n ≤ k → M2[k]? = some e → e.rw = true
  val : ∀ β : Nat → Nat, Proofs.YtedcileokcbohaaDoor.val β r = Proofs.YtedcileokcbohaaDoor.val (fun k => β (σ k)) r2
  rwf : r2.wf M2.length = true
theorem Spec.re {P : Program} {G M : Mm} {f : Nat} {args : List SV} {K K' : SV → Mm → Prop} (hS : Spec P G f args M K) (h : ∀ r M1, K r M1 → ∃ r2 M2 σ, Mv M.length M1 M2 σ r r2 ∧ K' r2 M2) : Spec P G f args M K' := by
  intro β w hR hw
  refine (hS β w hR hw).mono fun v w' hh => ?_
  obtain ⟨β1, M1, r, hE, hR1, ⟨hwf, rfl⟩, hK⟩ := hh
  obtain ⟨r2, M2, σ, hm, hK2⟩ := h r M1 hK
  have hn : G.length ≤ M.length := hR.gl
  refine ⟨fun k => β1 (σ k), M2, r2, ⟨fun k hk => ?_, hm.len, fun b hb => ?_, hE.fp, fun k e he => ?_, hm.new⟩, ⟨fun k e he hh => ?_, fun i j x y hx hy hij hr hxh hyh => ?_, fun g hg => ?_, Nat.le_trans hn hm.len, fun k hk => ?_, hR.ro, hm.wf⟩, ⟨hm.rwf, hm.val β1⟩, hK2⟩
  · rw [hm.low k hk]; exact hE.agree k hk
  · obtain ⟨k, e, he, hr, hb⟩ := hb
    obtain ⟨e1, h1, h2⟩ := hm.rw k e he hr
    exact hE.rws b ⟨σ k, e1, h1, h2, hb⟩
  · obtain ⟨c, h1, h2⟩ := hE.keep k e he
    obtain ⟨d, h3, h4⟩ := hm.keep k _ (lt_of_get he) h1
    exact ⟨d, h3, fun hr => (h4 hr).trans (h2 hr)⟩
  · obtain ⟨e1, h1, h2, h3, h4, h5⟩ := hm.all k e he hh
    have := hR1.all (σ k) e1 h1 h2
    rw [h3, ← h4, ← h5] at this
    exact this
  · obtain ⟨x1, h1, h2, h3, -⟩ := hm.all i x hx hxh
    obtain ⟨y1, k1, k2, -⟩ := hm.all j y hy hyh
    exact hR1.dis _ _ _ _ h1 k1 (hm.inj i j x y hx hy hij hr hxh hyh) (by rw [h3]; exact hr) h2 k2
  · show β1 (σ g) = g
    rw [hm.low g (Nat.lt_of_lt_of_le hg hn)]; exact hR1.glob g hg
  · have h1 := hR1.pre k hk
    obtain ⟨e, he⟩ : ∃ e, G[k]? = some e := ⟨_, List.getElem?_eq_getElem hk⟩
    obtain ⟨hro, -⟩ := hR.ro k e he
    rw [he] at h1 ⊢
    obtain ⟨c, h3, h4⟩ := hm.keep k e (Nat.lt_of_lt_of_le hk hn) h1
    rw [h3, h4 hro]
/-- The same blocks, told otherwise ahead of a call. -/
structure Eqv (M M0 : Mm) : Prop where
  len : M.length = M0.length
  at' : ∀ (k : Nat) (e0 : Ent), M0[k]? = some e0 → ∃ e, M[k]? = some e ∧ e.rw = e0.rw ∧ (e0.c.here = true → e.c.here = true ∧ (∀ β : Nat → Nat, e0.c.cells β = e.c.cells β) ∧ e0.c.shp = e.c.shp) ∧ (e.rw = false → e.c = e0.c)
  wf : ∀ (k : Nat) (e0 : Ent), M0[k]? = some e0 → e0.c.wf M0.length = true
theorem Spec.pre {P : Program} {G M M0 : Mm} {f : Nat} {args args0 : List SV} {K : SV → Mm → Prop} (hS : Spec P G f args0 M0 K) (hv : ∀ β : Nat → Nat, vals β args = vals β args0) (ha : SV.wf.wfs M0.length args0 = true) (hE : Eqv M M0) : Spec P G f args M K := by
  intro β w hR hw
  have back : ∀ (k : Nat) (e : Ent), M[k]? = some e → ∃ e0, M0[k]? = some e0 ∧ e.rw = e0.rw ∧ (e.rw = false → e.c = e0.c) := fun k e he => by
    have hk := lt_of_get he
    obtain ⟨e0, h0⟩ : ∃ e0, M0[k]? = some e0 := ⟨_, List.getElem?_eq_getElem (by rw [← hE.len]; exact hk)⟩
    obtain ⟨e', h1, h2, -, h4⟩ := hE.at' k _ h0
    rw [he] at h1
    obtain rfl := Option.some.inj h1
    exact ⟨_, h0, h2, h4⟩
  have hR0 : Rel G β M0 w := by
    refine ⟨fun k e he hh => ?_, fun i j x y hx hy hij hr hxh hyh => ?_, hR.glob, by rw [← hE.len]; exact hR.gl, fun k hk => ?_, hR.ro, hE.wf⟩
    · obtain ⟨e1, h1, h2, h3, -⟩ := hE.at' k e he
      obtain ⟨h5, h6, h7⟩ := h3 hh
      have := hR.all k e1 h1 h5
      rw [h2, ← h6, ← h7] at this
      exact this
    · obtain ⟨x1, h1, h2, h3, -⟩ := hE.at' i x hx
      obtain ⟨y1, k1, k2, k3, -⟩ := hE.at' j y hy
      exact hR.dis _ _ _ _ h1 k1 hij (by rw [h2]; exact hr) (h3 hxh).1 (k3 hyh).1
    · have h1 := hR.pre k hk
      obtain ⟨e, he⟩ : ∃ e, G[k]? = some e := ⟨_, List.getElem?_eq_getElem hk⟩
      obtain ⟨hro, -⟩ := hR.ro k e he
      rw [he] at h1 ⊢
      obtain ⟨e0, h2, h3, h4⟩ := back k e h1
      rw [h2]
      obtain ⟨r0, c0⟩ := e0
      obtain ⟨r1, c1⟩ := e
      simp only at h3 h4 hro
      rw [← h3, ← h4 hro]
  have rws : ∀ b, rwset β M0 b → rwset β M b := fun b hb => by
    obtain ⟨k, e, he, hr, hb⟩ := hb
    obtain ⟨e1, h1, h2, -⟩ := hE.at' k e he
    exact ⟨k, e1, h1, by rw [h2]; exact hr, hb⟩
  rw [hv]
  refine (hS β w hR0 ha).mono fun v w' hh => ?_
  obtain ⟨β1, M1, r, hX, hR1, hr, hK⟩ := hh
  refine ⟨β1, M1, r, ⟨fun k hk => hX.agree k (by rw [← hE.len]; exact hk), by rw [hE.len]; exact hX.len, fun b hb => (hX.rws b hb).imp (rws b) id, hX.fp.mono (fun k _ hk => rws k hk), fun k e he => ?_, fun k e hk he => hX.new k e (by rw [← hE.len]; exact hk) he⟩, hR1, hr, hK⟩
  obtain ⟨e0, h1, h2, h3⟩ := back k e he
  obtain ⟨c, h4, h5⟩ := hX.keep k e0 h1
  exact ⟨c, by rw [h2]; exact h4, fun hf => (h5 (by rw [← h2]; exact hf)).trans (h3 hf).symm⟩
end Go.Proofs.YtedcileokcbohaaDoor
