/-
  A reckoner of conditions: what operations on numbers, words and texts make is what the model makes. No statement is proved here.
-/
import Derived.Test.YtkjfecdpakhggaaVcD
namespace Go.Proofs.Ytkjfecdpakhggaa
open Go.RowKit
set_option linter.unusedVariables false
set_option linter.unusedSimpArgs false

theorem inU_iff {n : Nat} {z : Int} : inU n z = true ↔ 0 ≤ z ∧ z < 2 ^ n := by simp [inU, ile_eq, ilt_eq]
theorem ofInt_toNat {n : Nat} {z : Int} (h : inU n z = true) : (((BitVec.ofInt n z).toNat : Nat) : Int) = z := by
  obtain ⟨h1, h2⟩ := inU_iff.1 h
  rw [BitVec.toNat_ofInt]
  have e : z % ((2 ^ n : Nat) : Int) = z := Int.emod_eq_of_lt h1 (by push_cast; exact h2)
  rw [e]; omega
theorem ofConst_val (β : Nat → Nat) (c : Value) : val β (ofConst c) = c ∧ ofConst c ≠ .any ∧ ∀ n, (ofConst c).wf n = true := by
  unfold ofConst
  split
  · rename_i z
    cases hz : inU 64 z
    · exact ⟨rfl, SV.noConfusion, fun _ => rfl⟩
    · exact ⟨congrArg (Value.int .u64) (ofInt_toNat hz), SV.noConfusion, fun _ => rfl⟩
  · rename_i z
    cases hz : inU 32 z
    · exact ⟨rfl, SV.noConfusion, fun _ => rfl⟩
    · exact ⟨congrArg (Value.int .u32) (ofInt_toNat hz), SV.noConfusion, fun _ => rfl⟩
  · rename_i z
    cases hz : inU 16 z
    · exact ⟨rfl, SV.noConfusion, fun _ => rfl⟩
    · exact ⟨congrArg (Value.int .u16) (ofInt_toNat hz), SV.noConfusion, fun _ => rfl⟩
  · rename_i z
    cases hz : inU 8 z
    · exact ⟨rfl, SV.noConfusion, fun _ => rfl⟩
    · exact ⟨congrArg (Value.int .u8) (ofInt_toNat hz), SV.noConfusion, fun _ => rfl⟩
  · exact ⟨rfl, SV.noConfusion, fun _ => rfl⟩
  · exact ⟨rfl, SV.noConfusion, fun _ => rfl⟩
  · exact ⟨congrArg Value.string (txt_bts _), SV.noConfusion, fun _ => rfl⟩
  · exact ⟨rfl, SV.noConfusion, fun _ => rfl⟩

def intOp (op : BinOp) (k : IntKind) (a b : Int) : Sem Value := match op with
  | .add | .sub | .mul => Op.intArith op k a b
  | .quo | .rem => Op.intDiv op k a b
  | .and | .or | .xor | .andNot => Op.intBits op k a b
  | _ => Op.intCmp op a b
/-- A kind of words: how wide, and which. -/
structure WK (n : Nat) (mk : BitVec n → SV) (k : IntKind) : Prop where
  val : ∀ (β : Nat → Nat) (x : BitVec n), val β (mk x) = .int k ((x.toNat : Nat) : Int)
  bits : k.bits = n
  uns : k.signed = false
theorem wk64 : WK 64 .w64 .u64 := ⟨fun _ _ => rfl, rfl, rfl⟩
theorem wk32 : WK 32 .w32 .u32 := ⟨fun _ _ => rfl, rfl, rfl⟩
theorem wk16 : WK 16 .w16 .u16 := ⟨fun _ _ => rfl, rfl, rfl⟩
theorem wk8 : WK 8 .w8 .u8 := ⟨fun _ _ => rfl, rfl, rfl⟩
section
variable {n : Nat} {mk : BitVec n → SV} {k : IntKind}
theorem WK.wrap (h : WK n mk k) (z : Int) : k.wrap z = z % ((2 ^ n : Nat) : Int) := by
  unfold IntKind.wrap
  simp [h.uns, h.bits]
theorem WK.wrapN (h : WK n mk k) (m : Nat) : k.wrap (m : Int) = ((m % 2 ^ n : Nat) : Int) := by rw [h.wrap]; exact (Int.natCast_emod m (2 ^ n)).symm
theorem WK.wrapB (h : WK n mk k) (x : BitVec n) : k.wrap ((x.toNat : Nat) : Int) = ((x.toNat : Nat) : Int) := by rw [h.wrapN, Nat.mod_eq_of_lt x.isLt]
theorem ofInt_cast (x : BitVec n) : BitVec.ofInt n ((x.toNat : Nat) : Int) = x := by rw [BitVec.ofInt_natCast, BitVec.ofNat_toNat, BitVec.setWidth_eq]
theorem WK.sub (h : WK n mk k) (x y : BitVec n) : k.wrap (((x.toNat : Nat) : Int) - ((y.toNat : Nat) : Int)) = (((x - y).toNat : Nat) : Int) := by
  rw [h.wrap, BitVec.toNat_sub, Int.natCast_emod]
  have : ((2 ^ n - y.toNat + x.toNat : Nat) : Int) = (((x.toNat : Nat) : Int) - ((y.toNat : Nat) : Int)) + ((2 ^ n : Nat) : Int) := by
    have := y.isLt
    omega
  rw [this, Int.add_emod_right]
theorem tdiv_cast (a b : Nat) : (a : Int).tdiv (b : Int) = ((a / b : Nat) : Int) := by rw [Int.tdiv_eq_ediv_of_nonneg (by omega)]; exact (Int.natCast_ediv a b).symm
theorem tmod_cast (a b : Nat) : (a : Int).tmod (b : Int) = ((a % b : Nat) : Int) := by rw [Int.tmod_eq_emod_of_nonneg (by omega)]; exact (Int.natCast_emod a b).symm
theorem bv_ne {x : BitVec n} (h : (x != 0) = true) : ((x.toNat : Nat) : Int) ≠ 0 := by
  intro e
  have e1 : x.toNat = 0 := by omega
  have : x = 0 := BitVec.eq_of_toNat_eq (by rw [e1]; exact (BitVec.toNat_ofNat 0 n).symm ▸ (Nat.zero_mod _).symm)
  simp [this] at h
theorem intBits_ok {P : Program} {w : World} (h : WK n mk k) (op : BinOp) (x y r : BitVec n) (hr : (match op with
    | .and => some (x &&& y)
    | .or => some (x ||| y)
    | .xor => some (x ^^^ y)
    | .andNot => some (x &&& ~~~y)
    | _ => none) = some r) : (Op.intBits op k ((x.toNat : Nat) : Int) ((y.toNat : Nat) : Int)).run P w = .ok (.int k ((r.toNat : Nat) : Int)) w := by
  obtain ⟨hv, rfl, hu⟩ := h
  have hb := fun (z : BitVec k.bits) => (WK.mk hv rfl hu : WK k.bits mk k).wrapB z
  cases op <;> simp at hr <;> subst hr <;> (unfold Op.intBits; simp only [ofInt_cast]; show (Sem.pure _ : Sem Value).run P w = _; rw [hb]; rfl)
theorem wop_ok {P : Program} {w : World} (h : WK n mk k) (β : Nat → Nat) (op : BinOp) (x y : BitVec n) (r : SV) (hq : wop mk op x y = .ok true r) : (intOp op k ((x.toNat : Nat) : Int) ((y.toNat : Nat) : Int)).run P w = .ok (val β r) w := by
  have key : ∀ z : BitVec n, val β (mk z) = .int k ((z.toNat : Nat) : Int) := h.val β
  cases op <;> simp only [wop, QR.ok.injEq, reduceCtorEq] at hq
  case add => obtain ⟨-, rfl⟩ := hq; rw [key, BitVec.toNat_add]; show (Sem.pure _ : Sem Value).run P w = _; rw [← Int.natCast_add, h.wrapN]; rfl
  case sub => obtain ⟨-, rfl⟩ := hq; rw [key, ← h.sub]; rfl
  case mul => obtain ⟨-, rfl⟩ := hq; rw [key, BitVec.toNat_mul]; show (Sem.pure _ : Sem Value).run P w = _; rw [← Int.natCast_mul, h.wrapN]; rfl
  case quo =>
    obtain ⟨hc, rfl⟩ := hq
    rw [key, BitVec.toNat_udiv]
    unfold intOp Op.intDiv
    simp only [if_neg (bv_ne hc), tdiv_cast, h.wrapN, Nat.mod_eq_of_lt (Nat.lt_of_le_of_lt (Nat.div_le_self _ _) x.isLt)]
    exact Sem.run_pure _ _ _
  case rem =>
    obtain ⟨hc, rfl⟩ := hq
    rw [key, BitVec.toNat_umod]
    unfold intOp Op.intDiv
    simp only [if_neg (bv_ne hc), tmod_cast]
    exact Sem.run_pure _ _ _
  case and => obtain ⟨-, rfl⟩ := hq; rw [key]; exact intBits_ok h .and x y _ rfl
  case or => obtain ⟨-, rfl⟩ := hq; rw [key]; exact intBits_ok h .or x y _ rfl
  case xor => obtain ⟨-, rfl⟩ := hq; rw [key]; exact intBits_ok h .xor x y _ rfl
  case andNot => obtain ⟨-, rfl⟩ := hq; rw [key]; exact intBits_ok h .andNot x y _ rfl
  case eql =>
    obtain ⟨-, rfl⟩ := hq
    have e : (((x.toNat : Nat) : Int) == ((y.toNat : Nat) : Int)) = (x == y) := by rw [Bool.eq_iff_iff]; simp only [beq_iff_eq, bne_iff_ne, ne_eq, Int.ofNat_inj, BitVec.toNat_inj]
    show (Sem.pure _ : Sem Value).run P w = _; rw [e]; rfl
  case neq =>
    obtain ⟨-, rfl⟩ := hq
    have e : (((x.toNat : Nat) : Int) != ((y.toNat : Nat) : Int)) = (x != y) := by rw [Bool.eq_iff_iff]; simp only [beq_iff_eq, bne_iff_ne, ne_eq, Int.ofNat_inj, BitVec.toNat_inj]
    show (Sem.pure _ : Sem Value).run P w = _; rw [e]; rfl
  case lss =>
    obtain ⟨-, rfl⟩ := hq
    have e : decide (((x.toNat : Nat) : Int) < ((y.toNat : Nat) : Int)) = x.ult y := by rw [Bool.eq_iff_iff]; simp [BitVec.ult]
    show (Sem.pure _ : Sem Value).run P w = _; rw [e]; rfl
  case leq =>
    obtain ⟨-, rfl⟩ := hq
    have e : decide (((x.toNat : Nat) : Int) ≤ ((y.toNat : Nat) : Int)) = x.ule y := by rw [Bool.eq_iff_iff]; simp [BitVec.ule]
    show (Sem.pure _ : Sem Value).run P w = _; rw [e]; rfl
  case gtr =>
    obtain ⟨-, rfl⟩ := hq
    have e : decide (((x.toNat : Nat) : Int) > ((y.toNat : Nat) : Int)) = y.ult x := by rw [Bool.eq_iff_iff]; simp [BitVec.ult]
    show (Sem.pure _ : Sem Value).run P w = _; rw [e]; rfl
  case geq =>
    obtain ⟨-, rfl⟩ := hq
    have e : decide (((x.toNat : Nat) : Int) ≥ ((y.toNat : Nat) : Int)) = y.ule x := by rw [Bool.eq_iff_iff]; simp [BitVec.ule]
    show (Sem.pure _ : Sem Value).run P w = _; rw [e]; rfl
end
theorem inI_iff {z : Int} : inI z = true ↔ -9223372036854775808 ≤ z ∧ z ≤ 9223372036854775807 := by simp [inI, ile_eq]
theorem wrapI {z : Int} (h : inI z = true) : IntKind.i64.wrap z = z := by
  have := inI_iff.1 h
  rw [IntKind.wrap_i64]; omega
theorem bits_toInt (x : BitVec 64) : IntKind.i64.wrap ((x.toNat : Nat) : Int) = x.toInt := by
  have := x.isLt
  rw [IntKind.wrap_i64, BitVec.toInt_eq_toNat_cond]; split <;> omega
theorem iop_ok {P : Program} {w : World} (β : Nat → Nat) (op : BinOp) (x y : Int) (r : SV) (hq : iop op x y = .ok true r) : (intOp op .i64 x y).run P w = .ok (val β r) w := by
  cases op <;> simp only [iop, QR.ok.injEq, reduceCtorEq] at hq
  case add => obtain ⟨hc, rfl⟩ := hq; show (Sem.pure _ : Sem Value).run P w = _; rw [wrapI hc]; rfl
  case sub => obtain ⟨hc, rfl⟩ := hq; show (Sem.pure _ : Sem Value).run P w = _; rw [wrapI hc]; rfl
  case mul => obtain ⟨hc, rfl⟩ := hq; show (Sem.pure _ : Sem Value).run P w = _; rw [wrapI hc]; rfl
  case quo =>
    obtain ⟨hc, rfl⟩ := hq
    simp only [Bool.and_eq_true, ilt_eq, decide_eq_true_eq] at hc
    have h2 := inI_iff.1 hc.2
    have hr : inI (x.tdiv y) = true := inI_iff.2 (by
      have hy : (1 : Int) ≤ y := by omega
      rcases Int.le_total 0 x with hx | hx
      · have a := Int.tdiv_nonneg hx (by omega : 0 ≤ y)
        have b := Int.tdiv_le_self y hx
        omega
      · have e : x.tdiv y = -((-x).tdiv y) := by rw [Int.neg_tdiv, Int.neg_neg]
        have a := Int.tdiv_nonneg (by omega : 0 ≤ -x) (by omega : 0 ≤ y)
        have b := Int.tdiv_le_self y (by omega : 0 ≤ -x)
        omega)
    unfold intOp Op.intDiv
    simp only [if_neg (by omega : ¬ y = 0), wrapI hr]
    exact Sem.run_pure _ _ _
  case rem =>
    obtain ⟨hc, rfl⟩ := hq
    unfold intOp Op.intDiv
    simp only [if_neg (by simpa using hc : ¬ y = 0)]
    exact Sem.run_pure _ _ _
  case and =>
    obtain ⟨-, rfl⟩ := hq
    have h := bits_toInt (BitVec.ofInt 64 x &&& BitVec.ofInt 64 y)
    exact congrArg (fun z => Result.ok (Value.int .i64 z) w) h
  case or =>
    obtain ⟨-, rfl⟩ := hq
    have h := bits_toInt (BitVec.ofInt 64 x ||| BitVec.ofInt 64 y)
    exact congrArg (fun z => Result.ok (Value.int .i64 z) w) h
  case xor =>
    obtain ⟨-, rfl⟩ := hq
    have h := bits_toInt (BitVec.ofInt 64 x ^^^ BitVec.ofInt 64 y)
    exact congrArg (fun z => Result.ok (Value.int .i64 z) w) h
  case eql => obtain ⟨-, rfl⟩ := hq; rfl
  case neq => obtain ⟨-, rfl⟩ := hq; rfl
  case lss => obtain ⟨-, rfl⟩ := hq; simp only [val, ile_eq, ilt_eq]; rfl
  case leq => obtain ⟨-, rfl⟩ := hq; simp only [val, ile_eq, ilt_eq]; rfl
  case gtr => obtain ⟨-, rfl⟩ := hq; simp only [val, ile_eq, ilt_eq]; rfl
  case geq => obtain ⟨-, rfl⟩ := hq; simp only [val, ile_eq, ilt_eq]; rfl
theorem icmp_ok {P : Program} {w : World} (β : Nat → Nat) (op : BinOp) (k : IntKind) (x y : Int) (r : SV) (hq : icmp op x y = .ok true r) : (intOp op k x y).run P w = .ok (val β r) w := by
  cases op <;> simp only [icmp, QR.ok.injEq, reduceCtorEq] at hq
  case eql => obtain ⟨-, rfl⟩ := hq; rfl
  case neq => obtain ⟨-, rfl⟩ := hq; rfl
  case lss => obtain ⟨-, rfl⟩ := hq; simp only [val, ile_eq, ilt_eq]; rfl
  case leq => obtain ⟨-, rfl⟩ := hq; simp only [val, ile_eq, ilt_eq]; rfl
  case gtr => obtain ⟨-, rfl⟩ := hq; simp only [val, ile_eq, ilt_eq]; rfl
  case geq => obtain ⟨-, rfl⟩ := hq; simp only [val, ile_eq, ilt_eq]; rfl
theorem txt_size (l : List (BitVec 8)) : (txt l).size = l.length := by simp [txt, ByteArray.size]
theorem txt_append (a b : List (BitVec 8)) : txt a ++ txt b = txt (a ++ b) := by
  apply ByteArray.ext
  simp [txt]
theorem txt_inj {a b : List (BitVec 8)} (h : txt a = txt b) : a = b := by rw [← bts_txt a, ← bts_txt b, h]
theorem toList_txt (l : List (BitVec 8)) : (txt l).toList = l.map UInt8.ofBitVec := by rw [ByteArray.toList_eq]; simp [txt]
theorem ofBitVec_inj {a b : List (BitVec 8)} (h : a.map UInt8.ofBitVec = b.map UInt8.ofBitVec) : a = b := by
  have := congrArg (List.map UInt8.toBitVec) h
  simpa [Function.comp_def] using this
theorem sop_ok {P : Program} {w : World} (β : Nat → Nat) (op : BinOp) (x y : List (BitVec 8)) (r : SV) (hq : sop op x y = .ok true r) : (Op.stringOp op (txt x) (txt y)).run P w = .ok (val β r) w := by
  have e : ((txt x).toList == (txt y).toList) = (x == y) := by
    rw [toList_txt, toList_txt, Bool.eq_iff_iff]
    simp only [beq_iff_eq]
    exact ⟨ofBitVec_inj, fun h => by rw [h]⟩
  cases op <;> simp only [sop, QR.ok.injEq, reduceCtorEq] at hq
  case add =>
    obtain ⟨hc, rfl⟩ := hq
    have h1 := of_decide_eq_true ((ile_eq _ _).symm.trans hc)
    unfold Op.stringOp
    have h2 : ¬ ((((txt x).size + (txt y).size : Nat) : Int) > IntKind.i64.max) := by
      rw [txt_size, txt_size]
      show ¬ (_ > (9223372036854775807 : Int))
      omega
    simp only [if_neg h2, txt_append]
    exact Sem.run_pure _ _ _
  case eql => obtain ⟨-, rfl⟩ := hq; exact congrArg (fun z => Result.ok (Value.bool z) w) e
  case neq => obtain ⟨-, rfl⟩ := hq; exact congrArg (fun z => Result.ok (Value.bool (!z)) w) e
/-- How far is moved, as the model has it. -/
theorem amt_ok (β : Nat → Nat) {y : SV} {k : Nat} (h : amt y = some (true, k)) : ∃ (kk : IntKind) (z : Int), val β y = .int kk z ∧ 0 ≤ z ∧ z.toNat = k := by
  cases y <;> simp only [amt, reduceCtorEq, Option.some.injEq, Prod.mk.injEq, ile_eq, decide_eq_true_eq, true_and] at h
  case i z => exact ⟨.i64, z, rfl, h.1, h.2⟩
  case w64 x => exact ⟨.u64, _, rfl, by omega, by rw [← h]; rfl⟩
  case w32 x => exact ⟨.u32, _, rfl, by omega, by rw [← h]; rfl⟩
  case w16 x => exact ⟨.u16, _, rfl, by omega, by rw [← h]; rfl⟩
  case w8 x => exact ⟨.u8, _, rfl, by omega, by rw [← h]; rfl⟩
theorem amt_true {y : SV} {c : Bool} {k : Nat} (h : amt y = some (c, k)) (hc : c = true) : amt y = some (true, k) := by rw [h, hc]
theorem mod_min (x s n : Nat) : x * 2 ^ (min s n) % 2 ^ n = x * 2 ^ s % 2 ^ n := by
  rcases Nat.le_total s n with h | h
  · rw [Nat.min_eq_left h]
  · rw [Nat.min_eq_right h, Nat.mul_mod_left]
    obtain ⟨d, rfl⟩ := Nat.exists_eq_add_of_le h
    rw [Nat.pow_add, Nat.mul_comm (2 ^ n), ← Nat.mul_assoc, Nat.mul_mod_left]
theorem div_min {x s n : Nat} (hx : x < 2 ^ n) : x / 2 ^ (min s n) = x / 2 ^ s := by
  rcases Nat.le_total s n with h | h
  · rw [Nat.min_eq_left h]
  · rw [Nat.min_eq_right h, Nat.div_eq_of_lt hx, Nat.div_eq_of_lt (Nat.lt_of_lt_of_le hx (Nat.pow_le_pow_right (by decide) h))]
theorem wsh_ok {P : Program} {w : World} {n : Nat} {mk : BitVec n → SV} {k : IntKind} (hk : WK n mk k) (β : Nat → Nat) (left : Bool) (x : BitVec n) (y : SV) (r : SV) (hq : wsh mk left x y = .ok true r) :
    ∃ (kk : IntKind) (z : Int), val β y = .int kk z ∧ (Op.shift (if left then .shl else .shr) k ((x.toNat : Nat) : Int) kk z).run P w = .ok (val β r) w := by
  unfold wsh at hq
  split at hq
  · rename_i c s hs
    have hc : c = true := by cases left <;> simp at hq <;> exact hq.1
    obtain ⟨kk, z, hv, h0, hz⟩ := amt_ok β (amt_true hs hc)
    refine ⟨kk, z, hv, ?_⟩
    unfold Op.shift
    rw [if_neg (by omega)]
    cases left
    · simp only [QR.ok.injEq] at hq
      obtain ⟨-, rfl⟩ := hq
      have e : (((x.toNat : Nat) : Int).fdiv (2 ^ (min z.toNat k.bits))) = (((x >>> s).toNat : Nat) : Int) := by
        rw [hz, hk.bits, BitVec.toNat_ushiftRight, Nat.shiftRight_eq_div_pow, ← div_min x.isLt, Int.fdiv_eq_ediv_of_nonneg _ (by exact Int.le_of_lt (Int.pow_pos (by decide)))]
        rw [Int.natCast_ediv, Int.natCast_pow]; rfl
      rw [hk.val]
      exact congrArg (fun z => Result.ok (Value.int k z) w) e
    · simp only [QR.ok.injEq] at hq
      obtain ⟨-, rfl⟩ := hq
      have e : k.wrap (((x.toNat : Nat) : Int) * 2 ^ (min z.toNat k.bits)) = (((x <<< s).toNat : Nat) : Int) := by
        have : ((x.toNat : Nat) : Int) * 2 ^ (min z.toNat k.bits) = ((x.toNat * 2 ^ (min s n) : Nat) : Int) := by
          rw [hz, hk.bits, Int.natCast_mul, Int.natCast_pow]; rfl
        rw [this, hk.wrapN, mod_min, BitVec.toNat_shiftLeft, Nat.shiftLeft_eq]
      rw [hk.val]
      exact congrArg (fun z => Result.ok (Value.int k z) w) e
  · cases hq
theorem ish_ok {P : Program} {w : World} (β : Nat → Nat) (left : Bool) (x : Int) (y : SV) (r : SV) (hq : ish left x y = .ok true r) :
    ∃ (kk : IntKind) (z : Int), val β y = .int kk z ∧ (Op.shift (if left then .shl else .shr) .i64 x kk z).run P w = .ok (val β r) w := by
  unfold ish at hq
  split at hq
  · rename_i c s hs
    have hc : c = true ∧ s < 64 := by cases left <;> simp at hq <;> simp [hq]
    obtain ⟨kk, z, hv, h0, hz⟩ := amt_ok β (amt_true hs hc.1)
    refine ⟨kk, z, hv, ?_⟩
    have hm : min z.toNat IntKind.i64.bits = s := by rw [hz]; show min s 64 = s; omega
    unfold Op.shift
    rw [if_neg (by omega)]
    simp only [hm]
    cases left
    · simp only [QR.ok.injEq] at hq
      obtain ⟨-, rfl⟩ := hq
      rfl
    · simp only [QR.ok.injEq, Bool.and_eq_true] at hq
      obtain ⟨⟨-, hi⟩, rfl⟩ := hq
      exact congrArg (fun z => Result.ok (Value.int .i64 z) w) (wrapI hi)
  · cases hq
end Go.Proofs.Ytkjfecdpakhggaa
