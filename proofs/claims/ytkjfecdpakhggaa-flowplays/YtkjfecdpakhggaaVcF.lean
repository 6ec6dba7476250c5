/-
  A reckoner of conditions: what operations make is what the model makes: operators, conversions. No statement is proved here.
-/
import Derived.Laws.StructEq
import Derived.Test.YtkjfecdpakhggaaVcE
import Derived.Lib.Builder
import Derived.Lib.UnsafeStr
namespace Go.Proofs.Ytkjfecdpakhggaa
open Go.RowKit
set_option linter.unusedVariables false
set_option linter.unusedSimpArgs false

section
variable {P : Program} {w : World} (β : Nat → Nat)
theorem guard_int (op : BinOp) (t : Nat) (xo yo : Operand) (k k' : IntKind) (a b : Int) : (eqGuard op t xo yo (.int k a) (.int k' b)).run P w = .ok () w := by cases op <;> rfl
theorem guard_str (op : BinOp) (t : Nat) (xo yo : Operand) (a b : ByteArray) : (eqGuard op t xo yo (.string a) (.string b)).run P w = .ok () w := by cases op <;> rfl
theorem bin_int (op : BinOp) (h1 : op ≠ .shl) (h2 : op ≠ .shr) (t : Nat) (k : IntKind) (a b : Int) : binOp op t (.int k a) (.int k b) = intOp op k a b := by
  cases op <;> first | exact absurd rfl h1 | exact absurd rfl h2 | simp [binOp, intOp]
theorem qbin_ok (op : BinOp) (t : Nat) (xo yo : Operand) (x y r : SV) (hq : qbin op x y = .ok true r) : (do eqGuard op t xo yo (val β x) (val β y); binOp op t (val β x) (val β y) : Sem Value).run P w = .ok (val β r) w := by
  have sh : ∀ (left : Bool) (k : IntKind) (a : Int), (∃ (kk : IntKind) (z : Int), val β y = .int kk z ∧ (Op.shift (if left then .shl else .shr) k a kk z).run P w = .ok (val β r) w) → (do eqGuard (if left then .shl else .shr) t xo yo (.int k a) (val β y); binOp (if left then .shl else .shr) t (.int k a) (val β y) : Sem Value).run P w = .ok (val β r) w := by
    rintro left k a ⟨kk, z, hv, h⟩
    rw [hv, Sem.run_bind, guard_int, Result.andThen_ok]
    cases left
    · exact h
    · exact h
  have two : ∀ (h1 : op ≠ .shl) (h2 : op ≠ .shr), (match x, y with
    | .w64 a, .w64 b => wop .w64 op a b
    | .w32 a, .w32 b => wop .w32 op a b
    | .w16 a, .w16 b => wop .w16 op a b
    | .w8 a, .w8 b => wop .w8 op a b
    | .i a, .i b => iop op a b
    | .s a, .s b => sop op a b
    | .v (.int k a), .v (.int k' b) => bif k == k' then icmp op a b else .no
    | _, _ => .no) = .ok true r → (do eqGuard op t xo yo (val β x) (val β y); binOp op t (val β x) (val β y) : Sem Value).run P w = .ok (val β r) w := by
    clear hq
    intro h1 h2 hq
    split at hq
    · rename_i a b
      show (do eqGuard op t xo yo (c64 a) (c64 b); binOp op t (c64 a) (c64 b) : Sem Value).run P w = _
      unfold c64
      rw [Sem.run_bind, guard_int, Result.andThen_ok, bin_int op h1 h2]
      exact wop_ok wk64 β op a b r hq
    · rename_i a b
      show (do eqGuard op t xo yo (c32 a) (c32 b); binOp op t (c32 a) (c32 b) : Sem Value).run P w = _
      unfold c32
      rw [Sem.run_bind, guard_int, Result.andThen_ok, bin_int op h1 h2]
      exact wop_ok wk32 β op a b r hq
    · rename_i a b
      show (do eqGuard op t xo yo (c16 a) (c16 b); binOp op t (c16 a) (c16 b) : Sem Value).run P w = _
      unfold c16
      rw [Sem.run_bind, guard_int, Result.andThen_ok, bin_int op h1 h2]
      exact wop_ok wk16 β op a b r hq
    · rename_i a b
      show (do eqGuard op t xo yo (c8 a) (c8 b); binOp op t (c8 a) (c8 b) : Sem Value).run P w = _
      unfold c8
      rw [Sem.run_bind, guard_int, Result.andThen_ok, bin_int op h1 h2]
      exact wop_ok wk8 β op a b r hq
    · rename_i a b
      show (do eqGuard op t xo yo (.int .i64 a) (.int .i64 b); binOp op t (.int .i64 a) (.int .i64 b) : Sem Value).run P w = _
      rw [Sem.run_bind, guard_int, Result.andThen_ok, bin_int op h1 h2]
      exact iop_ok β op a b r hq
    · rename_i a b
      show (do eqGuard op t xo yo (.string (txt a)) (.string (txt b)); binOp op t (.string (txt a)) (.string (txt b)) : Sem Value).run P w = _
      rw [Sem.run_bind, guard_str, Result.andThen_ok]
      have e : binOp op t (.string (txt a)) (.string (txt b)) = Op.stringOp op (txt a) (txt b) := by cases op <;> rfl
      rw [e]
      exact sop_ok β op a b r hq
    · rename_i k a k' b
      cases hk : k == k' <;> rw [hk] at hq
      · cases hq
      · obtain rfl : k = k' := by simpa using hk
        show (do eqGuard op t xo yo (.int k a) (.int k b); binOp op t (.int k a) (.int k b) : Sem Value).run P w = _
        rw [Sem.run_bind, guard_int, Result.andThen_ok, bin_int op h1 h2]
        exact icmp_ok β op k a b r hq
    · cases hq
  unfold qbin at hq
  split at hq
  · split at hq
    · exact sh true .u64 _ (wsh_ok wk64 β true _ y r hq)
    · exact sh true .u32 _ (wsh_ok wk32 β true _ y r hq)
    · exact sh true .u16 _ (wsh_ok wk16 β true _ y r hq)
    · exact sh true .u8 _ (wsh_ok wk8 β true _ y r hq)
    · exact sh true .i64 _ (ish_ok β true _ y r hq)
    · cases hq
  · split at hq
    · exact sh false .u64 _ (wsh_ok wk64 β false _ y r hq)
    · exact sh false .u32 _ (wsh_ok wk32 β false _ y r hq)
    · exact sh false .u16 _ (wsh_ok wk16 β false _ y r hq)
    · exact sh false .u8 _ (wsh_ok wk8 β false _ y r hq)
    · exact sh false .i64 _ (ish_ok β false _ y r hq)
    · cases hq
  · rename_i h1 h2
    exact two h1 h2 hq
theorem not_ok {n : Nat} {mk : BitVec n → SV} {k : IntKind} (h : WK n mk k) (x : BitVec n) : (Op.unary .xor (.int k ((x.toNat : Nat) : Int))).run P w = .ok (val β (mk (~~~x))) w := by
  obtain ⟨hv, rfl, hu⟩ := h
  have hw := (WK.mk hv rfl hu : WK k.bits mk k)
  rw [hv]
  have e : Op.unary .xor (.int k ((x.toNat : Nat) : Int)) = Op.intBits .xor k k.max ((x.toNat : Nat) : Int) := by unfold Op.unary; simp [hu]
  have hm : k.max = (((BitVec.allOnes k.bits).toNat : Nat) : Int) := by cases k <;> first | rfl | cases hu
  rw [e, hm, intBits_ok hw .xor (BitVec.allOnes k.bits) x _ rfl, BitVec.allOnes_xor]
theorem qun_ok (op : UnOp) (x r : SV) (hq : qun op x = .ok true r) : (Op.unary op (val β x)).run P w = .ok (val β r) w := by
  unfold qun at hq
  split at hq
  · simp only [QR.ok.injEq] at hq
    obtain ⟨hc, rfl⟩ := hq
    rename_i z
    have : IntKind.i64.wrap (0 - z) = -z := by rw [Int.zero_sub]; exact wrapI hc
    exact congrArg (fun z => Result.ok (Value.int .i64 z) w) this
  · simp only [QR.ok.injEq, true_and] at hq
    subst hq
    rename_i x
    have : IntKind.u64.wrap (0 - ((x.toNat : Nat) : Int)) = (((-x).toNat : Nat) : Int) := by
      have h := wk64.sub 0 x
      rw [show (0 : BitVec 64) - x = -x from BitVec.zero_sub x] at h
      exact h
    exact congrArg (fun z => Result.ok (Value.int .u64 z) w) this
  · simp only [QR.ok.injEq, true_and] at hq; subst hq; exact not_ok β wk64 _
  · simp only [QR.ok.injEq, true_and] at hq; subst hq; exact not_ok β wk32 _
  · simp only [QR.ok.injEq, true_and] at hq; subst hq; exact not_ok β wk16 _
  · simp only [QR.ok.injEq, true_and] at hq; subst hq; exact not_ok β wk8 _
  · simp only [QR.ok.injEq, true_and] at hq; subst hq; rfl
  · cases hq
theorem to_ok {n m : Nat} {mk : BitVec n → SV} {k : IntKind} (h : WK n mk k) (x : BitVec m) : k.wrap ((x.toNat : Nat) : Int) = (((x.setWidth n).toNat : Nat) : Int) := by rw [h.wrapN, BitVec.toNat_setWidth]
theorem toI_ok {n : Nat} {mk : BitVec n → SV} {k : IntKind} (h : WK n mk k) (z : Int) : k.wrap z = (((BitVec.ofInt n z).toNat : Nat) : Int) := by
  rw [h.wrap, BitVec.toNat_ofInt]
  have : 0 ≤ z % ((2 ^ n : Nat) : Int) := Int.emod_nonneg _ (by have := Nat.two_pow_pos n; omega)
  omega
theorem small_ok {m : Nat} (hm : m ≤ 32) (x : BitVec m) : IntKind.i64.wrap ((x.toNat : Nat) : Int) = ((x.toNat : Nat) : Int) := by
  have h1 := x.isLt
  have h2 : 2 ^ m ≤ 2 ^ 32 := Nat.pow_le_pow_right (by decide) hm
  exact wrapI (inI_iff.2 (by omega))
theorem toKind_ok (k : IntKind) (x r : SV) (hq : toKind k x = .ok true r) : ∃ (kk : IntKind) (z : Int), val β x = .int kk z ∧ .int k (k.wrap z) = val β r := by
  unfold toKind at hq
  have lift : ∀ {k : IntKind} {a b : Int}, a = b → Value.int k a = Value.int k b := fun h => by rw [h]
  split at hq
  · split at hq <;> simp only [QR.ok.injEq, true_and, reduceCtorEq] at hq <;> subst hq
    · exact ⟨_, _, rfl, lift (wk64.wrapB _)⟩
    · exact ⟨_, _, rfl, lift (to_ok wk64 _)⟩
    · exact ⟨_, _, rfl, lift (to_ok wk64 _)⟩
    · exact ⟨_, _, rfl, lift (to_ok wk64 _)⟩
    · exact ⟨_, _, rfl, lift (toI_ok wk64 _)⟩
  · split at hq <;> simp only [QR.ok.injEq, true_and, reduceCtorEq] at hq <;> subst hq
    · exact ⟨_, _, rfl, lift (to_ok wk32 _)⟩
    · exact ⟨_, _, rfl, lift (wk32.wrapB _)⟩
    · exact ⟨_, _, rfl, lift (to_ok wk32 _)⟩
    · exact ⟨_, _, rfl, lift (to_ok wk32 _)⟩
    · exact ⟨_, _, rfl, lift (toI_ok wk32 _)⟩
  · split at hq <;> simp only [QR.ok.injEq, true_and, reduceCtorEq] at hq <;> subst hq
    · exact ⟨_, _, rfl, lift (to_ok wk16 _)⟩
    · exact ⟨_, _, rfl, lift (to_ok wk16 _)⟩
    · exact ⟨_, _, rfl, lift (wk16.wrapB _)⟩
    · exact ⟨_, _, rfl, lift (to_ok wk16 _)⟩
    · exact ⟨_, _, rfl, lift (toI_ok wk16 _)⟩
  · split at hq <;> simp only [QR.ok.injEq, true_and, reduceCtorEq] at hq <;> subst hq
    · exact ⟨_, _, rfl, lift (to_ok wk8 _)⟩
    · exact ⟨_, _, rfl, lift (to_ok wk8 _)⟩
    · exact ⟨_, _, rfl, lift (to_ok wk8 _)⟩
    · exact ⟨_, _, rfl, lift (wk8.wrapB _)⟩
    · exact ⟨_, _, rfl, lift (toI_ok wk8 _)⟩
  · split at hq <;> simp only [QR.ok.injEq, true_and, reduceCtorEq] at hq
    · subst hq; exact ⟨_, _, rfl, lift (bits_toInt _)⟩
    · subst hq; exact ⟨_, _, rfl, lift (small_ok (by decide) _)⟩
    · subst hq; exact ⟨_, _, rfl, lift (small_ok (by decide) _)⟩
    · subst hq; exact ⟨_, _, rfl, lift (small_ok (by decide) _)⟩
    · obtain ⟨hc, rfl⟩ := hq; exact ⟨_, _, rfl, lift (wrapI hc)⟩
    · obtain ⟨hc, rfl⟩ := hq; exact ⟨_, _, rfl, lift (wrapI hc)⟩
  · cases hq
/-- What a block holds to which a value points. -/
def AtC (w : World) (x : SV) (c : Cont) : Prop := match x with
  | .ptr k _ => c.here = true → ∃ rw, At β w (β k) rw c
  | .sl k _ _ _ => c.here = true → ∃ rw, At β w (β k) rw c
  | .pe k _ _ _ _ => c.here = true → ∃ rw, At β w (β k) rw c
  | .rs k _ _ _ _ _ => c.here = true → ∃ rw, At β w (β k) rw c
  | .ns _ k _ _ _ => c.here = true → ∃ rw, At β w (β k) rw c
  | .mp k => c.here = true → ∃ rw, At β w (β k) rw c
  | _ => True
theorem push_txt (l : List (BitVec 8)) : ((l.map fun x => ((x.toNat : Nat) : Int)).foldl (fun r n => r.push (UInt8.ofNat n.toNat)) ByteArray.empty) = txt l := by
  have key : ∀ (l : List (BitVec 8)) (s : ByteArray), ((l.map fun x => ((x.toNat : Nat) : Int)).foldl (fun r n => r.push (UInt8.ofNat n.toNat)) s) = s ++ txt l := by
    intro l
    induction l with
    | nil => intro s; apply ByteArray.ext; simp [txt]
    | cons x l ih =>
      intro s
      rw [List.map_cons, List.foldl_cons, ih]
      apply ByteArray.ext
      have : UInt8.ofNat x.toNat = UInt8.ofBitVec x := by rw [← UInt8.toNat_inj]; simp
      simp [txt, this]
  rw [key]
  apply ByteArray.ext
  simp
theorem ptrNil_ok {x : SV} {b : Bool} (h : ptrNil x = some b) : ∃ p, val β x = .pointer p ∧ p.isNone = b := by
  unfold ptrNil at h
  split at h
  · rename_i p
    simp only [Option.some.injEq] at h; subst h; exact ⟨p, rfl, rfl⟩
  · simp only [Option.some.injEq] at h; subst h; exact ⟨_, rfl, rfl⟩
  · simp only [Option.some.injEq] at h; subst h; exact ⟨_, rfl, rfl⟩
  · cases h
theorem slNil_ok {x : SV} {b : Bool} (h : slNil x = some b) : ∃ p l c, val β x = .slice p l c ∧ p.isNone = b := by
  unfold slNil at h
  split at h
  · simp only [Option.some.injEq] at h; subst h; exact ⟨none, _, _, rfl, rfl⟩
  · simp only [Option.some.injEq] at h; subst h; exact ⟨_, _, _, rfl, rfl⟩
  · simp only [Option.some.injEq] at h; subst h; exact ⟨_, _, _, rfl, rfl⟩
  · rename_i c _ _ _ _
    simp only [Option.some.injEq] at h; subst h
    cases c
    · exact ⟨_, _, _, rfl, rfl⟩
    · exact ⟨none, _, _, rfl, rfl⟩
  · cases h
theorem eq_ptr {t e : Nat} (hu : P.underlying t = some (.pointer e)) (p q : Option Addr) (h : p = none ∨ q = none) : (Op.equal t (.pointer p) (.pointer q)).run P w = .ok (p.isNone && q.isNone) w := by
  have key : ∀ d, (Op.equalIn (d + 1) t (.pointer p) (.pointer q)).run P w = .ok (p.isNone && q.isNone) w := fun d => by
    rcases h with rfl | rfl
    · simp [Op.equalIn, run_underlying hu]
    · cases p <;> simp [Op.equalIn, run_underlying hu]
  exact key 9999
theorem eq_sl {t e : Nat} (hu : P.underlying t = some (.slice e)) (p q : Option Addr) (a b c d : Nat) (h : p = none ∨ q = none) : (Op.equal t (.slice p a b) (.slice q c d)).run P w = .ok (p.isNone && q.isNone) w := by
  have key : ∀ n, (Op.equalIn (n + 1) t (.slice p a b) (.slice q c d)).run P w = .ok (p.isNone && q.isNone) w := fun n => by
    rcases h with rfl | rfl
    · simp [Op.equalIn, run_underlying hu]
    · cases p <;> simp [Op.equalIn, run_underlying hu]
  exact key 9999
theorem eq_bool {t : Nat} (hu : P.underlying t = some .bool) (a b : Bool) : (Op.equal t (.bool a) (.bool b)).run P w = .ok (a == b) w := by
  have key : ∀ n, (Op.equalIn (n + 1) t (.bool a) (.bool b)).run P w = .ok (a == b) w := fun n => by
    simp [Op.equalIn, run_underlying hu]
  exact key 9999
theorem all_range64 : ∀ (xs ys : List (BitVec 64)), xs.length = ys.length → ((List.range xs.length).all fun i => xs.getD i 0 == ys.getD i 0) = (xs == ys)
  | [], [], _ => rfl
  | x :: xs, y :: ys, h => by
    have ih := all_range64 xs ys (by simpa using h)
    rw [List.length_cons, List.range_succ_eq_map, List.all_cons, List.all_map]
    simp only [List.getD_cons_zero, Function.comp_def, List.getD_cons_succ, ih]
    simp [List.cons_beq_cons]
  | [], _ :: _, h => by simp at h
  | _ :: _, [], h => by simp at h
theorem eq_a64 {t e n : Nat} (hu : P.underlying t = some (.array n e)) (he : P.underlying e = some (.int .u64)) {j : TypeInfo} (hj : P.info? e = some j) (hs : j.size = 1) (xs ys : List (BitVec 64)) (hx : xs.length = n) (hy : ys.length = n) : (Op.equal t (.agg (xs.map c64).toArray) (.agg (ys.map c64).toArray)).run P w = .ok (xs == ys) w := by
  have key : ∀ d, (Op.equalIn (d + 2) t (.agg (xs.map c64).toArray) (.agg (ys.map c64).toArray)).run P w = .ok (xs == ys) w := fun d => by
    have hsz : ∀ w, (sizeOf e).run P w = .ok 1 w := fun w => by simp [sizeOf, typeInfo, hj, hs]
    rw [← all_range64 xs ys (hx.trans hy.symm), hx, List.range_eq_range', Op.equalIn]
    simp only [Sem.run_bind, run_underlying hu, Result.andThen_ok, hsz, Std.Legacy.Range.forIn_eq_forIn_range', Std.Legacy.Range.size, Nat.sub_zero, Nat.add_sub_cancel, Nat.div_one]
    have hl : ∀ i ∈ List.range' 0 n 1, i < n := fun i hi => by simpa using (List.mem_range'_1.1 hi).2
    generalize List.range' 0 n 1 = l at hl ⊢
    induction l with
    | nil => simp
    | cons i l ih =>
      have hi : i < n := hl i (by simp)
      have px : (part e (xs.map c64).toArray (i * 1)).run P w = .ok (c64 (xs.getD i 0)) w := by
        simp [part, isAgg, run_underlying he, List.getD, List.getElem?_eq_getElem (show i < xs.length by omega)]
      have py : (part e (ys.map c64).toArray (i * 1)).run P w = .ok (c64 (ys.getD i 0)) w := by
        simp [part, isAgg, run_underlying he, List.getD, List.getElem?_eq_getElem (show i < ys.length by omega)]
      have pe : (Op.equalIn (d + 1) e (c64 (xs.getD i 0)) (c64 (ys.getD i 0))).run P w = .ok (xs.getD i 0 == ys.getD i 0) w := by
        rw [c64, c64, run_equalIn_int w d e .u64 .u64 _ _ he]
        congr 1
        rw [Bool.eq_iff_iff]
        simp [← BitVec.toNat_inj]
        omega
      simp only [List.forIn_cons, Sem.run_bind, px, py, pe, Result.andThen_ok, List.all_cons]
      cases hb : (xs.getD i 0 == ys.getD i 0)
      · simp
      · simp only [Bool.not_true, Bool.false_eq_true, if_false, Sem.run_pure, Result.andThen_ok, Bool.true_and]
        exact ih fun j hj => hl j (by simp [hj])
  exact key 9998
theorem eq_same {t e : Nat} {j : TypeInfo} (hu : P.underlying t = some (.pointer e)) (hj : P.info? e = some j) (a : Addr) : (Op.equal t (.pointer (some a)) (.pointer (some a))).run P w = .ok true w := by
  have key : ∀ d, (Op.equalIn (d + 1) t (.pointer (some a)) (.pointer (some a))).run P w = .ok true w := fun d => by
    simp [Op.equalIn, run_underlying hu, sizeOf, typeInfo, hj, run_sameAddr_same]
  exact key 9999
theorem info_of {u : Nat} (h : Nat.blt 0 (sizeT P u) = true) : ∃ j, P.info? u = some j ∧ j.size ≠ 0 := by
  have h := blt_lt h
  unfold sizeT at h
  cases hi : P.info? u with
  | none => simp [hi] at h
  | some j => simp [hi] at h; exact ⟨j, rfl, by omega⟩
theorem qnil2_ok {neg a b : Bool} {x y : Option Bool} {r : SV} (h : qnil2 neg x y = .ok true r) (hx : x = some a) (hy : y = some b) : (a = true ∨ b = true) ∧ r = .b (neg.xor (a && b)) := by
  subst hx hy
  cases a <;> cases b <;> simp [qnil2] at h ⊢ <;> exact h.symm
theorem qnil_ok (op : BinOp) (t : Nat) (xo yo : Operand) (x y r : SV) (hq : qnil P t op x y = .ok true r) : (do eqGuard op t xo yo (val β x) (val β y); binOp op t (val β x) (val β y) : Sem Value).run P w = .ok (val β r) w := by
  have main : ∀ (neg : Bool), qnil1 P t neg x y = .ok true r → (∀ v : Value, ∃ z : Bool, True) → (do eqGuard (if neg then .neq else .eql) t xo yo (val β x) (val β y); binOp (if neg then .neq else .eql) t (val β x) (val β y) : Sem Value).run P w = .ok (val β r) w := by
    intro neg h _
    unfold qnil1 at h
    split at h
    · rename_i e hu
      by_cases hpp : ∃ k off k2 off2, x = .ptr k off ∧ y = .ptr k2 off2
      · obtain ⟨k, off, k2, off2, rfl, rfl⟩ := hpp
        simp only [qptr, QR.ok.injEq, Bool.and_eq_true] at h
        obtain ⟨⟨⟨h1, h2⟩, h3⟩, rfl⟩ := h
        obtain rfl := Nat.eq_of_beq_eq_true h1
        obtain rfl := Nat.eq_of_beq_eq_true h2
        obtain ⟨j, hj⟩ := Option.isSome_iff_exists.1 h3
        have := eq_same (w := w) hu hj ⟨β k, off, none⟩
        cases neg
        · simp [eqGuard, binOp, this, val]
        · simp [eqGuard, binOp, this, val]
      have h : qnil2 neg (ptrNil x) (ptrNil y) = .ok true r := by
        unfold qptr at h
        split at h
        · exact absurd ⟨_, _, _, _, rfl, rfl⟩ hpp
        · exact h
      cases hx : ptrNil x with
      | none => rw [hx] at h; cases h
      | some a =>
        cases hy : ptrNil y with
        | none => rw [hx, hy] at h; cases a <;> cases h
        | some b =>
          obtain ⟨h1, rfl⟩ := qnil2_ok h hx hy
          obtain ⟨p, e1, hp⟩ := ptrNil_ok β hx
          obtain ⟨q, e2, hq2⟩ := ptrNil_ok β hy
          subst hp hq2
          have hh : p = none ∨ q = none := by simpa using h1
          have := eq_ptr (w := w) hu p q hh
          rw [e1, e2]
          cases neg
          · simp [eqGuard, binOp, this, val]
          · simp [eqGuard, binOp, this, val]
    · rename_i e hu
      cases hx : slNil x with
      | none => rw [hx] at h; cases h
      | some a =>
        cases hy : slNil y with
        | none => rw [hx, hy] at h; cases a <;> cases h
        | some b =>
          obtain ⟨h1, rfl⟩ := qnil2_ok h hx hy
          obtain ⟨p, l1, c1, e1, hp⟩ := slNil_ok β hx
          obtain ⟨q, l2, c2, e2, hq2⟩ := slNil_ok β hy
          subst hp hq2
          have hh : p = none ∨ q = none := by simpa using h1
          have := eq_sl (w := w) hu p q l1 c1 l2 c2 hh
          rw [e1, e2]
          cases neg
          · simp [eqGuard, binOp, this, val]
          · simp [eqGuard, binOp, this, val]
    · rename_i hu
      unfold qbool at h
      split at h
      · rename_i a b
        simp only [QR.ok.injEq, true_and] at h
        subst h
        have this : (Op.equal t (.bool a) (.bool b)).run P w = .ok (a == b) w := eq_bool hu a b
        cases neg
        · simp [eqGuard, binOp, this, val]
        · simp [eqGuard, binOp, this, val]
      · cases h
    · rename_i n e hu
      unfold qeq64 at h
      split at h
      · rename_i a b
        simp only [QR.ok.injEq, Bool.and_eq_true, Bool.not_eq_true'] at h
        obtain ⟨⟨⟨⟨⟨h1, h2⟩, h3⟩, h4⟩, h5⟩, rfl⟩ := h
        have he : P.underlying e = some (.int .u64) := by
          unfold isInt at h3
          split at h3
          · rename_i k' hk
            have := eq_of_beq h3
            subst this
            exact hk
          · cases h3
        obtain ⟨j, hj, -⟩ := info_of (P := P) (u := e) (by rw [Nat.eq_of_beq_eq_true h4]; rfl)
        have hs : j.size = 1 := by
          have := Nat.eq_of_beq_eq_true h4
          simpa [sizeT, hj] using this
        have this := eq_a64 (w := w) hu he hj hs a b (Nat.eq_of_beq_eq_true h1) (Nat.eq_of_beq_eq_true h2)
        cases neg
        · simp [eqGuard, binOp, this, val, h5]
        · simp [eqGuard, binOp, this, val, h5]
      · cases h
    · cases h
  unfold qnil at hq
  split at hq
  · exact main false hq (fun _ => ⟨true, trivial⟩)
  · exact main true hq (fun _ => ⟨true, trivial⟩)
  · cases hq
theorem qconv_ok (src dst : Nat) (x : SV) (c : Cont) (r : SV) (hc : AtC β w x c) (hq : qconv P src dst x c = .ok true r) : (convert src dst (val β x)).run P w = .ok (val β r) w := by
  unfold qconv at hq
  split at hq
  · rename_i k1 k2 hs hd
    obtain ⟨kk, z, hv, he⟩ := toKind_ok β k2 x r hq
    rw [hv, ← he]
    unfold convert
    simp [run_underlying hs, run_underlying hd, Conv.intToInt]
  · rename_i hs hd
    split at hq
    · simp only [QR.ok.injEq, true_and] at hq
      subst hq
      unfold convert
      simp [run_underlying hs, run_underlying hd, val]
    · cases hq
  · rename_i e hs hd
    split at hq
    · rename_i k off len cap l he
      simp only [QR.ok.injEq] at hq
      obtain ⟨hb, rfl⟩ := hq
      have hb' := of_decide_eq_true hb
      obtain ⟨rw0, hh⟩ := hc rfl
      show (convert src dst (.slice (some ⟨β k, off, none⟩) len cap)).run P w = _
      rw [run_convert_bytes_string w src dst e _ _ _ hs he hd]
      have hl : ((l.drop off).take len).length = len := by simp; omega
      have h1 := run_loadCells_list (P := P) w ⟨β k, off, none⟩ (((l.drop off).take len).map c8) (fun j v hv => by
        rw [Addr.add_mid]
        refine hh.cell (off + j) v ?_
        show (l.map c8)[off + j]? = _
        rw [List.getElem?_map] at hv ⊢
        have hj : j < len := by
          rcases Nat.lt_or_ge j len with q | q
          · exact q
          · rw [List.getElem?_eq_none (by rw [hl]; exact q)] at hv; cases hv
        rw [List.getElem?_take_of_lt hj, List.getElem?_drop] at hv
        exact hv)
      rw [List.length_map, hl] at h1
      have h2 := run_bytesToString w ⟨β k, off, none⟩ len cap (((l.drop off).take len).map fun x => ((x.toNat : Nat) : Int)) (by rw [h1, List.map_map]; rfl)
      rw [h2, push_txt]
      rfl
    · rename_i he
      simp only [QR.ok.injEq, true_and] at hq
      subst hq
      rename_i l2 c2
      show (convert src dst (.slice none _ _)).run P w = _
      rw [run_convert_bytes_string w src dst e _ _ _ hs he hd]
      exact congrArg (fun z => Result.ok (Value.string z) w) (by apply ByteArray.ext; rfl)
    · cases hq
  · rename_i u hs hd
    split at hq
    · rename_i k off t l
      simp only [QR.ok.injEq, Bool.and_eq_true] at hq
      obtain ⟨⟨h1, h2⟩, rfl⟩ := hq
      obtain ⟨j, hj, hj0⟩ := info_of h2
      obtain ⟨r0, hh⟩ := hc rfl
      exact Lib.run_to_unsafe w ⟨β k, off, none⟩ hs hd hj hj0 (hh.shp _ rfl) (blt_lt h1)
    · cases hq
  · rename_i u hs hd
    split at hq
    · rename_i k off t l
      simp only [QR.ok.injEq, Bool.and_eq_true] at hq
      obtain ⟨⟨h2, h1⟩, rfl⟩ := hq
      obtain ⟨j, hj, hj0⟩ := info_of h2
      obtain ⟨r0, hh⟩ := hc rfl
      exact Lib.run_from_unsafe w ⟨β k, off, none⟩ hs hd hj (hh.shp _ rfl) h1
    · cases hq
  · cases hq
theorem qmin_ok {ts : Array TypeId} {ty : TypeId} {xs : List SV} {r : SV} (hq : qmin xs = .ok true r) : (Builtin.min_ ts ty (vals β xs).toArray).run P w = .ok (val β r) w := by
  unfold qmin at hq
  split at hq
  · rename_i a b
    simp only [QR.ok.injEq, true_and] at hq
    subst hq
    have e : (if b < a then b else a) = (bif ilt b a then b else a) := by
      rw [ilt_eq]
      by_cases h : b < a <;> simp [h]
    simp [Builtin.min_, Builtin.min2, vals, val, e]
  · rename_i a b
    simp only [QR.ok.injEq, true_and] at hq
    subst hq
    have e : (if ((b.toNat : Nat) : Int) < ((a.toNat : Nat) : Int) then ((b.toNat : Nat) : Int) else ((a.toNat : Nat) : Int)) = (((bif BitVec.ult b a then b else a).toNat : Nat) : Int) := by
      cases h : BitVec.ult b a
      · have := of_decide_eq_false h
        rw [if_neg (by omega)]; rfl
      · have := of_decide_eq_true h
        rw [if_pos (by omega)]; rfl
    simp only [vals, val, c8]
    rw [← e]
    rfl
  · cases hq
theorem qsdata_ok {ts : Array TypeId} {ty : TypeId} {xs : List SV} {r : SV} (hq : qsdata xs = .ok true r) : (Builtin.unsafeSliceData_ ts ty (vals β xs).toArray).run P w = .ok (val β r) w := by
  unfold qsdata at hq
  split at hq
  · rename_i k off len cap
    simp only [QR.ok.injEq] at hq
    obtain ⟨h1, rfl⟩ := hq
    exact Lib.run_unsafeSliceData_row w ts ty ⟨β k, off, none⟩ len cap (by have := blt_lt h1; omega)
  · simp only [QR.ok.injEq, true_and] at hq
    subst hq
    exact Lib.run_unsafeSliceData_nil w ts ty _ _
  · cases hq
end
end Go.Proofs.Ytkjfecdpakhggaa
