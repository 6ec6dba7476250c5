/-
  A walk in closed values: a region that draws its order, each of whose operations writes a slot or a block of its own, whatever order they come in. No statement is proved here.
-/
import Derived.Test.YtpdagpjjlnncbaaDoorNumN
import Derived.Test.YtpdagpjjlnncbaaDoorRootC
import Derived.Test.YtpdagpjjlnncbaaDoorEdwC
namespace Go.Proofs.YtpdagpjjlnncbaaDoor
open Go.RowKit Go.Lib Go.BigFrame
set_option linter.unusedVariables false
set_option linter.unusedSimpArgs false
set_option maxRecDepth 100000

/-- The frame once the operations of f are done. -/
def puts (f : Nat → Bool) : Nat → List Oper → List Value → Act → Act
  | _, [], _, a => a
  | k, o :: os, vs, a => puts f (k + 1) os vs.tail (if f k then a.put o.dst (vs.headD undef) else a)
def pairB : List Oper → Bool
  | [] => true
  | o :: os => (os.all fun x => x.dst.isNone || o.dst.isNone || x.dst != o.dst) && pairB os
theorem put_comm (a : Act) (d e : Option Nat) (u v : Value) (h : d = none ∨ e = none ∨ d ≠ e) : (a.put d u).put e v = (a.put e v).put d u := by
  cases d with
  | none => rfl
  | some d =>
    cases e with
    | none => rfl
    | some e =>
      have hne : d ≠ e := by rcases h with h | h | h; cases h; cases h; exact fun c => h (by rw [c])
      refine act_eq (by rw [put_size, put_size, put_size, put_size]) (by rw [put_defers, put_defers, put_defers, put_defers]) fun k => ?_
      rw [put_get, put_get, put_get, put_get, put_size, put_size]
      by_cases h1 : e = k
      · subst h1
        by_cases h3 : e < a.tmps.size <;> simp [hne, h3]
      · by_cases h2 : d = k
        · subst h2; simp [h1]
        · simp [h1, h2]
theorem puts_put (f : Nat → Bool) (d : Option Nat) (v : Value) : ∀ (os : List Oper) (k : Nat) (vs : List Value) (a : Act), (∀ o ∈ os, d = none ∨ o.dst = none ∨ d ≠ o.dst) → puts f k os vs (a.put d v) = (puts f k os vs a).put d v
  | [], _, _, _, _ => rfl
  | o :: os, k, vs, a, h => by
    have h1 := h o (List.mem_cons_self)
    have h2 := fun x hx => h x (List.mem_cons_of_mem _ hx)
    show puts f (k + 1) os vs.tail (if f k then (a.put d v).put o.dst _ else a.put d v) = (puts f (k + 1) os vs.tail (if f k then a.put o.dst _ else a)).put d v
    cases f k
    · exact puts_put f d v os _ _ _ h2
    · show puts f (k + 1) os vs.tail ((a.put d v).put o.dst _) = (puts f (k + 1) os vs.tail (a.put o.dst _)).put d v
      rw [put_comm a d o.dst v _ h1]; exact puts_put f d v os _ _ _ h2
theorem puts_congr {f g : Nat → Bool} : ∀ (os : List Oper) (k : Nat) (vs us : List Value) (a : Act), (∀ j, k ≤ j → f j = g j) → (∀ j, j < os.length → f (k + j) = true → vs.getD j undef = us.getD j undef) → puts f k os vs a = puts g k os us a
  | [], _, _, _, _, _, _ => rfl
  | o :: os, k, vs, us, a, h, hv => by
    show puts f (k + 1) os vs.tail (if f k then a.put o.dst (vs.headD undef) else a) = puts g (k + 1) os us.tail (if g k then a.put o.dst (us.headD undef) else a)
    have e : (if f k then a.put o.dst (vs.headD undef) else a) = (if g k then a.put o.dst (us.headD undef) else a) := by
      rw [← h k (Nat.le_refl _)]
      cases hk : f k
      · rfl
      · have := hv 0 (by simp) (by simpa using hk)
        have e2 : vs.headD undef = us.headD undef := by
          have l1 : ∀ l : List Value, l.headD undef = l.getD 0 undef := fun l => by cases l <;> rfl
          rw [l1, l1, this]
        rw [e2]
    rw [e]
    refine puts_congr os _ _ _ _ (fun j hj => h j (by omega)) fun j hj hf => ?_
    have := hv (j + 1) (by simpa using hj) (by rw [show k + (j + 1) = k + 1 + j by omega]; exact hf)
    have l2 : ∀ l : List Value, l.tail.getD j undef = l.getD (j + 1) undef := fun l => by cases l <;> simp
    rw [l2, l2, this]
theorem puts_upd (f : Nat → Bool) : ∀ (os : List Oper) (k i : Nat) (vs : List Value) (a : Act) (o : Oper), pairB os = true → os[i]? = some o → f (k + i) = false → puts (upd f (k + i)) k os vs a = (puts f k os vs a).put o.dst (vs.getD i undef)
  | [], _, i, _, _, _, _, h, _ => by cases h
  | x :: os, k, 0, vs, a, o, hp, h, hf => by
    obtain rfl : x = o := by simpa using h
    rw [Nat.add_zero] at hf ⊢
    simp only [pairB, Bool.and_eq_true] at hp
    show puts (upd f k) (k + 1) os vs.tail (if upd f k k then a.put x.dst (vs.headD undef) else a) = (puts f (k + 1) os vs.tail (if f k then _ else a)).put x.dst _
    have e1 : upd f k k = true := by unfold upd; rw [if_pos rfl]
    rw [e1, hf]
    have l1 : vs.headD undef = vs.getD 0 undef := by cases vs <;> rfl
    rw [← l1]
    show puts (upd f k) (k + 1) os vs.tail (a.put x.dst (vs.headD undef)) = (puts f (k + 1) os vs.tail a).put x.dst _
    rw [puts_congr (f := upd f k) (g := f) os _ vs.tail vs.tail _ (fun j hj => by unfold upd; rw [if_neg (by omega)]) (fun _ _ _ => rfl)]
    refine puts_put f _ _ os _ _ _ fun y hy => ?_
    have h1 := List.all_eq_true.1 hp.1 y hy
    simp only [Bool.or_eq_true, Option.isNone_iff_eq_none, bne_iff_ne, ne_eq] at h1
    rcases h1 with (h1 | h1) | h1
    · exact .inr (.inl h1)
    · exact .inl h1
    · exact .inr (.inr fun c => h1 c.symm)
  | x :: os, k, i + 1, vs, a, o, hp, h, hf => by
    simp only [pairB, Bool.and_eq_true] at hp
    have ho : os[i]? = some o := by simpa using h
    have e1 : upd f (k + (i + 1)) k = f k := by unfold upd; rw [if_neg (by omega)]
    show puts (upd f (k + (i + 1))) (k + 1) os vs.tail (if upd f (k + (i + 1)) k then _ else a) = (puts f (k + 1) os vs.tail (if f k then _ else a)).put o.dst _
    rw [e1, show k + (i + 1) = k + 1 + i by omega]
    have := puts_upd f os (k + 1) i vs.tail (if f k then a.put x.dst (vs.headD undef) else a) o hp.2 ho (by rw [← hf]; congr 1; omega)
    rw [this]
    congr 1
    cases vs <;> simp
theorem puts_get {f g : Nat → Bool} {s : Nat} : ∀ (os : List Oper) (k : Nat) (vs : List Value) (a b : Act), (∀ j o, os[j]? = some o → o.dst = some s → f (k + j) = g (k + j)) → a.tmps[s]? = b.tmps[s]? → a.tmps.size = b.tmps.size → (puts f k os vs a).tmps[s]? = (puts g k os vs b).tmps[s]?
  | [], _, _, _, _, _, h, _ => h
  | o :: os, k, vs, a, b, h, hs, hz => by
    refine puts_get os (k + 1) vs.tail _ _ (fun j x hx hd => ?_) ?_ ?_
    · have := h (j + 1) x (by simpa using hx) hd
      rw [show k + 1 + j = k + (j + 1) by omega]; exact this
    · by_cases hd : o.dst = some s
      · have := h 0 o rfl hd
        rw [Nat.add_zero] at this
        rw [this]
        cases g k
        · exact hs
        · show (a.put o.dst _).tmps[s]? = (b.put o.dst _).tmps[s]?
          rw [hd, put_get, put_get, hz, hs]
      · have q : ∀ (c : Act) (t : Bool), (if t then c.put o.dst (vs.headD undef) else c).tmps[s]? = c.tmps[s]? := fun c t => by
          cases t
          · rfl
          · show (c.put o.dst _).tmps[s]? = _
            cases hdo : o.dst with
            | none => rfl
            | some d => rw [put_get, if_neg (fun e => hd (by rw [hdo, e.1]))]
        rw [q, q, hs]
    · have q : ∀ (c : Act) (t : Bool), (if t then c.put o.dst (vs.headD undef) else c).tmps.size = c.tmps.size := fun c t => by
        cases t
        · rfl
        · exact put_size _ _ _
      rw [q, q, hz]
theorem St.tail {Z : World → Prop} {w V : World} {N M : Mem} (h : St Z w V (N ++ M)) : St Z w V M :=
  ⟨h.fr, h.z, fun x hx => h.all x (List.mem_append_right _ hx), fun x hx => h.lo x (List.mem_append_right _ hx), (List.pairwise_append.1 h.dis).2.1⟩
/-- What an operation yields, and in which world. -/
def Yields (ρ : Operand → Value) (o : Oper) (W : World) (v : Value) (R : World → Prop) : Prop :=
  (∃ W', (execOp ρ o).run Tryd.prog W = .ok (.value v) W' ∧ R W') ∨ (v = undef ∧ ∃ W', (execOp ρ o).run Tryd.prog W = .ok .skip W' ∧ R W') ∨ (∃ f args, (execOp ρ o).run Tryd.prog W = .ok (.enter f args) W ∧ Calls Tryd.prog f args W fun e W' => e = .returned v ∧ R W')
theorem Yields.wp {a : Act} {o : Oper} {W : World} {v : Value} {R : World → Prop} {Q : Exit → Act → World → Prop} (h : Yields a.eval o W v R) : o.wp Tryd.prog a W (fun a' W' => a' = a.put o.dst v ∧ R W') Q := by
  unfold Oper.wp
  rcases h with ⟨W', h1, h2⟩ | ⟨rfl, W', h1, h2⟩ | ⟨f, args, h1, h2⟩
  · rw [h1]; exact ⟨rfl, h2⟩
  · rw [h1]; exact ⟨rfl, h2⟩
  · rw [h1]; exact h2.mono fun e W' ⟨he, hR⟩ => by subst he; exact ⟨rfl, hR⟩
theorem Yields.pure {ρ : Operand → Value} {o : Oper} {W : World} {v : Value} {R : World → Prop} (h : (execOp ρ o).run Tryd.prog W = .ok (.value v) W) (hR : R W) : Yields ρ o W v R := .inl ⟨W, h, hR⟩
theorem Yields.call {Z : World → Prop} (hZ : Keeps Z) {w0 : World} {N : Mem} {ρ : Operand → Value} {o : Oper} {W : World} {v : Value} {f : Nat} {args : Array Value} (S : St Z w0 W N) (H : Ret Z f args v) (h : (execOp ρ o).run Tryd.prog W = .ok (.enter f args) W) : Yields ρ o W v (fun W' => St Z w0 W' N) :=
  .inr (.inr ⟨f, args, h, (H W (S.now hZ)).mono fun e W' ⟨h1, hF⟩ => ⟨h1, S.step hF⟩⟩)
theorem Yields.load {Z : World → Prop} {w0 : World} {N M : Mem} {a : Act} {o : Oper} {W : World} (S : St Z w0 W N) (S' : St Z w0 W M) (k b off ty n : Nat) (x : Operand) (A B : Array Value) {t : Nat} (ho : o.op = .load ty x) (hx : a.eval x = .pointer (some ⟨b, off, none⟩)) (hk : M[k]? = some (b, .row A t)) (hs : Sub A off B) (hr : Row ty n) (hn : B.size = n) : Yields a.eval o W (.agg B) (fun W' => St Z w0 W' N) :=
  .inl ⟨W, exec_load ho hx (run_load S' k hk hs hr hn), S⟩
theorem run_store {Z : World → Prop} {w0 : World} {M : Mem} {a : Act} {o : Oper} {W : World} (S : St Z w0 W M) (k b ty n : Nat) (x y : Operand) (A B : Array Value) {t : Nat} (ho : o.op = .store ty x y) (hx : a.eval x = .pointer (some ⟨b, 0, none⟩)) (hy : a.eval y = .agg B) (hk : M[k]? = some (b, .row A t)) (hr : Row ty n) (hn : B.size = n) (hA : A.size = n) (h1 : One B) : (execOp a.eval o).run Tryd.prog W = .ok .skip (W.setRow b B) := by
  obtain ⟨d, -, -, h3⟩ := hr
  unfold execOp
  simp only [ho, hx, hy, Instr.storeAt, Instr.sureAddr, Sem.run_bind, Sem.run_pure, Result.andThen_ok, run_storeVar_row W b t ty A B (S.nth k hk) (by rw [h3, hn]) (by rw [hA, hn]) h1]
def depB (ops : List Oper) : Bool := ops.all fun o => (o.op.operands.all fun x => match x with
    | .tmp k => (List.range ops.length).all fun j => (match ops[j]? with
      | some y => y.dst != some k || covT o j
      | none => true)
    | _ => true) && (match o.op with
    | .select _ _ => false
    | _ => true) && o.guard.isNone
theorem wr_all {Z : World → Prop} {w0 V : World} {M : Mem} {id : Nat} {a : Act} {Q : Exit → Act → World → Prop} (l : List Oper) (o : Oper) (S : St Z w0 V M) (vals : (Nat → Nat) → List Value) (mem : (Nat → Nat) → (Nat → Bool) → Mem)
    (hm : Tryd.prog.follows .mixedOrders = true) (hlow : lowB (l ++ [o]) = true) (hd : depB (l ++ [o]) = true) (hu : pairB (l ++ [o]) = true) (h0 : mem (fun _ => 0) (fun _ => false) = M)
    (hs : ∀ (p : Nat → Nat) (f : Nat → Bool) (W : World) (i : Nat) (x : Oper), St Z w0 W (mem p f) → (∀ k y, (l ++ [o])[k]? = some y → f k = true → ∀ e ∈ y.after, Region.binds .any e = true → f e.on = true) → f i = false → (l ++ [o])[i]? = some x → (∀ e ∈ x.after, Region.binds .any e = true → f e.on = true) → ∃ p', (∀ j, j < (l ++ [o]).length → f j = true → (vals p).getD j undef = (vals p').getD j undef) ∧ Yields (puts (fun _ => true) 0 (l ++ [o]) (vals p') a).eval x W ((vals p').getD i undef) (fun W' => St Z w0 W' (mem p' (upd f i))))
    (he : ∀ (p : Nat → Nat) (f : Nat → Bool) (W : World), (∀ i, i < l.length + 1 → f i = true) → St Z w0 W (mem p f) → Q .normal (puts (fun _ => true) 0 (l ++ [o]) (vals p) a) W) : (Code.region id (l ++ [o]).toArray true).wp Tryd.prog Q a V := by
  refine wp_region_inv l o hm hlow (fun f a' W => (∀ k y, (l ++ [o])[k]? = some y → f k = true → ∀ e ∈ y.after, Region.binds .any e = true → f e.on = true) ∧ ∃ p, a' = puts f 0 (l ++ [o]) (vals p) a ∧ St Z w0 W (mem p f)) ⟨(fun k y _ h => by cases h), fun _ => 0, ?_, ?_⟩ ?_ ?_
  · have : ∀ (os : List Oper) (k : Nat) (vs : List Value), puts (fun _ => false) k os vs a = a := by
      intro os
      induction os with
      | nil => intro k vs; rfl
      | cons x os ih => intro k vs; exact ih _ _
    exact (this _ _ _).symm
  · rw [h0]; exact S.step (Fr.refl [] V).drew
  · rintro f a' W i x ⟨hsh, p, rfl, hS⟩ hf hx hdep
    have hmem : x ∈ l ++ [o] := List.mem_of_getElem? hx
    have hdx := List.all_eq_true.1 hd x hmem
    simp only [Bool.and_eq_true, Option.isNone_iff_eq_none] at hdx
    obtain ⟨⟨hd1, hd2⟩, hd3⟩ := hdx
    refine ⟨hd3, ?_⟩
    obtain ⟨p', hv, hY⟩ := hs p f W i x hS hsh hf hx hdep
    have ef : puts f 0 (l ++ [o]) (vals p) a = puts f 0 (l ++ [o]) (vals p') a := puts_congr _ _ _ _ _ (fun _ _ => rfl) fun j hj hfj => hv j hj (by simpa using hfj)
    rw [ef]
    have hex : execOp (puts f 0 (l ++ [o]) (vals p') a).eval x = execOp (puts (fun _ => true) 0 (l ++ [o]) (vals p') a).eval x := by
      refine execOp_congr x (fun cs b e => by rw [e] at hd2; cases hd2) fun y hy => ?_
      cases y with
      | tmp k =>
        show Array.getD _ k undef = Array.getD _ k undef
        rw [Array.getD_eq_getD_getElem?, Array.getD_eq_getD_getElem?]
        congr 1
        refine puts_get _ _ _ _ _ (fun j z hz hzd => ?_) rfl rfl
        have h1 := (Array.all_eq_true_iff_forall_mem.1 hd1) _ hy
        have h2 := List.all_eq_true.1 h1 j (by simpa using (List.getElem?_eq_some_iff.1 hz).1)
        rw [hz] at h2
        simp only [hzd, bne_self_eq_false, Bool.false_or] at h2
        rw [Nat.zero_add]
        obtain ⟨e, he, h3⟩ := Array.any_eq_true'.1 h2
        simp only [Bool.and_eq_true, beq_iff_eq] at h3
        have := hdep e he h3.1
        rw [h3.2] at this
        exact this
      | _ => rfl
    have hY' : Yields (puts f 0 (l ++ [o]) (vals p') a).eval x W ((vals p').getD i undef) (fun W' => St Z w0 W' (mem p' (upd f i))) := by
      unfold Yields at hY ⊢
      rw [hex]; exact hY
    refine Oper.wp_mono (fun a'' W' hh => ?_) (hY'.wp (Q := Q))
    obtain ⟨rfl, hS'⟩ := hh
    refine ⟨fun k y hy hk e he hb => ?_, p', ?_, hS'⟩
    · unfold upd at hk ⊢
      by_cases c : e.on = i
      · rw [if_pos c]
      · rw [if_neg c]
        by_cases c2 : k = i
        · subst c2
          rw [hx] at hy
          obtain rfl := Option.some.inj hy
          exact hdep e he hb
        · rw [if_neg c2] at hk
          exact hsh k y hy hk e he hb
    have := puts_upd f (l ++ [o]) 0 i (vals p') a x hu hx (by simpa using hf)
    rw [Nat.zero_add] at this
    exact this.symm
  · rintro f a' W ⟨-, p, rfl, hS⟩ hf
    have ef : puts f 0 (l ++ [o]) (vals p) a = puts (fun _ => true) 0 (l ++ [o]) (vals p) a := by
      have : ∀ (os : List Oper) (k : Nat) (vs : List Value) (b : Act), (∀ j, j < os.length → f (k + j) = true) → puts f k os vs b = puts (fun _ => true) k os vs b := by
        intro os
        induction os with
        | nil => intro k vs b _; rfl
        | cons x os ih =>
          intro k vs b hj
          have e0 := hj 0 (by simp)
          rw [Nat.add_zero] at e0
          show puts f (k + 1) os vs.tail (if f k then _ else b) = puts (fun _ => true) (k + 1) os vs.tail _
          rw [e0]
          exact ih _ _ _ fun j h => by have := hj (j + 1) (by simpa using h); rw [show k + 1 + j = k + (j + 1) by omega]; exact this
      exact this _ _ _ _ fun j hj => by rw [Nat.zero_add]; exact hf j (by simpa using hj)
    rw [ef]; exact he p f W hf hS
end Go.Proofs.YtpdagpjjlnncbaaDoor
namespace Go.Proofs.YtpdagpjjlnncbaaDoor
open Go.RowKit Go.Lib Go.BigFrame
set_option linter.unusedVariables false
set_option linter.unusedSimpArgs false
set_option maxRecDepth 1000000
set_option maxHeartbeats 4000000

theorem n9_size (v : Nat) : (wc (dts v)).size = 9 := by rw [wc_size, dts_len]
def n27 (x y z : Nat) : Array Value := wc (dts x ++ dts y ++ dts z)
def rp (x y z : Nat) : Value := .agg (n27 x y z)
theorem n27_size (x y z : Nat) : (n27 x y z).size = 27 := by rw [n27, wc_size, List.length_append, List.length_append, dts_len, dts_len, dts_len]
theorem n27_one (x y z : Nat) : One (n27 x y z) := wc_one _
theorem row34 : Row 34 9 := ⟨_, Tryd.underlying34, rfl, info36⟩
theorem row46 : Row 46 4 := ⟨_, Tryd.underlying46, rfl, by kernel_rfl⟩
theorem row36 : Row 36 27 := ⟨_, Tryd.underlying36, rfl, by kernel_rfl⟩
/-- A point's four numbers. -/
structure Pq where
  x : Nat
  y : Nat
  z : Nat
  t : Nat
def q4l (p : Pq) : List Value := [w0 p.x, w1 p.x, w2 p.x, w3 p.x, w0 p.y, w1 p.y, w2 p.y, w3 p.y, w0 p.z, w1 p.z, w2 p.z, w3 p.z, w0 p.t, w1 p.t, w2 p.t, w3 p.t]
/-- Four that are ready to be added. -/
def a64 (d : Nat → Pq) : Array Value := (q4l (d 0) ++ q4l (d 1) ++ q4l (d 2) ++ q4l (d 3)).toArray
theorem a64_one (d : Nat → Pq) : One (a64 d) := by simp [One, a64, q4l, w0, w1, w2, w3, Value.oneCell']
theorem row111 : Row 111 64 := ⟨_, Tryd.underlying111, rfl, by kernel_rfl⟩
theorem sub_a0 (d : Nat → Pq) : Sub (a64 d) 0 (q4 (d 0).x (d 0).y (d 0).z (d 0).t) := fun j v h => match j, h with
  | 0, h | 1, h | 2, h | 3, h | 4, h | 5, h | 6, h | 7, h | 8, h | 9, h | 10, h | 11, h | 12, h | 13, h | 14, h | 15, h => h
  | _ + 16, h => by cases h
theorem sub_a1 (d : Nat → Pq) : Sub (a64 d) 16 (q4 (d 1).x (d 1).y (d 1).z (d 1).t) := fun j v h => match j, h with
  | 0, h | 1, h | 2, h | 3, h | 4, h | 5, h | 6, h | 7, h | 8, h | 9, h | 10, h | 11, h | 12, h | 13, h | 14, h | 15, h => h
  | _ + 16, h => by cases h
theorem sub_a2 (d : Nat → Pq) : Sub (a64 d) 32 (q4 (d 2).x (d 2).y (d 2).z (d 2).t) := fun j v h => match j, h with
  | 0, h | 1, h | 2, h | 3, h | 4, h | 5, h | 6, h | 7, h | 8, h | 9, h | 10, h | 11, h | 12, h | 13, h | 14, h | 15, h => h
  | _ + 16, h => by cases h
theorem sub_a3 (d : Nat → Pq) : Sub (a64 d) 48 (q4 (d 3).x (d 3).y (d 3).z (d 3).t) := fun j v h => match j, h with
  | 0, h | 1, h | 2, h | 3, h | 4, h | 5, h | 6, h | 7, h | 8, h | 9, h | 10, h | 11, h | 12, h | 13, h | 14, h | 15, h => h
  | _ + 16, h => by cases h
theorem wc_get (l : List Nat) (j : Nat) : (wc l)[j]? = (l[j]?).map fun x => Value.int .u64 ((x : Nat) : Int) := by simp [wc]
theorem sub_app (l m k : List Nat) : Sub (wc (l ++ m ++ k)) l.length (wc m) := fun j v h => by
  have hj : j < m.length := by
    rcases Nat.lt_or_ge j m.length with q | q
    · exact q
    · rw [Array.getElem?_eq_none (by rw [wc_size]; exact q)] at h; cases h
  rw [wc_get] at h ⊢
  rw [List.getElem?_append_left (by rw [List.length_append]; omega), List.getElem?_append_right (by omega), Nat.add_sub_cancel_left]
  exact h
theorem sub_n0 (x y z : Nat) : Sub (n27 x y z) 0 (wc (dts x)) := by
  have := sub_app [] (dts x) (dts y ++ dts z)
  rw [List.nil_append, ← List.append_assoc] at this
  exact this
theorem sub_n1 (x y z : Nat) : Sub (n27 x y z) 9 (wc (dts y)) := by
  have := sub_app (dts x) (dts y) (dts z)
  rw [dts_len] at this
  exact this
theorem sub_n2 (x y z : Nat) : Sub (n27 x y z) 18 (wc (dts z)) := by
  have := sub_app (dts x ++ dts y) (dts z) []
  rw [List.append_nil, List.length_append, dts_len, dts_len] at this
  exact this
section
variable {o : Oper} {a : Act}
theorem run_eq34 (x y : Operand) (t : Nat) (ho : o.op = .binOp .eql 34 x y t) (u v : Nat) (hx : a.eval x = .agg (wc (dts u))) (hy : a.eval y = .agg (wc (dts v))) {q : Bool} (hq : decide (dts u = dts v) = q) : ∀ W, (execOp a.eval o).run Tryd.prog W = .ok (.value (.bool q)) W := fun W => by
  have h := eql_nd (dts u) (dts v) (dts_len u) (dts_len v) W
  rw [hq] at h
  unfold execOp
  simp only [ho, hx, hy]
  simp [go_sem, h]
theorem run_ne34 (x y : Operand) (t : Nat) (ho : o.op = .binOp .neq 34 x y t) (u v : Nat) (hx : a.eval x = .agg (wc (dts u))) (hy : a.eval y = .agg (wc (dts v))) {q : Bool} (hq : decide (dts u = dts v) = q) : ∀ W, (execOp a.eval o).run Tryd.prog W = .ok (.value (.bool !q)) W := fun W => by
  have h := eql_nd (dts u) (dts v) (dts_len u) (dts_len v) W
  rw [hq] at h
  unfold execOp
  simp only [ho, hx, hy]
  simp [go_sem, h]
theorem run_eq9 (x y : Operand) (t : Nat) (ho : o.op = .binOp .eql 9 x y t) (u v : ByteArray) (hx : a.eval x = .string u) (hy : a.eval y = .string v) {q : Bool} (hq : (u.toList == v.toList) = q) : ∀ W, (execOp a.eval o).run Tryd.prog W = .ok (.value (.bool q)) W := fun W => by
  unfold execOp
  simp only [ho, hx, hy]
  simp [go_sem]
  first | exact hq | (simpa using hq)
theorem run_ix9 (x : Operand) (i : Nat) (ho : o.op = .index 9 x (.const (.int .i64 (i : Int)))) (s : ByteArray) (hx : a.eval x = .string s) (hs : s.size = 32) (hi : i < 32) : ∀ W, (execOp a.eval o).run Tryd.prog W = .ok (.value (.int .u8 (bys s i))) W := fun W => by
  have h1 : i < s.size := by omega
  have h2 := byt_get s i h1
  unfold execOp
  simp only [ho, hx]
  simp [go_sem, h1, bys, ← h2]
end
theorem wl_end {ops : Array Oper} {Q : Exit → Act → World → Prop} {a : Act} {V : World} (h : Q .normal a V) : Wl ops Q [] a V := ⟨h⟩
end Go.Proofs.YtpdagpjjlnncbaaDoor
