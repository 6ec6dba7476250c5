/-
  The walks of Write and Device of package mem's Mem: which error, or the bytes behind them.
-/
import Derived.Test.YtfiaciniikcacaaLendF
namespace Go.Proofs.Ytfiaciniikcacaa
open Go.RowKit Go.BigFrame
set_option linter.unusedVariables false
set_option linter.unusedSimpArgs false
set_option maxRecDepth 100000
set_option maxHeartbeats 4000000

def b8 (b : UInt8) : Value := .int .u8 (b.toNat : Nat)

/-- A memory: its handle, its fields, its bytes. -/
structure MemA (w : World) (bM bm bb k : Nat) (lv : Value) (l : List (Nat × Nat)) (bs : List UInt8) : Prop where
  top : w.heap[bM]? = some (.cells #[.pointer (some ⟨bm, 0, none⟩)] 76)
  mid : MemB w bm bb k lv l
  bytes : w.heap[bb]? = some (.cells (bs.map b8).toArray 5)
  len : bs.length = k

theorem MemA.cp {w : World} {bM bm bb k : Nat} {lv : Value} {l : List (Nat × Nat)} {bs : List UInt8} (h : MemA w bM bm bb k lv l bs) : w.cell? ⟨bM, 0, none⟩ = some (.pointer (some ⟨bm, 0, none⟩)) := cell_of_heap h.top rfl
theorem MemA.fr {S : List Nat} {w w' : World} {bM bm bb k : Nat} {lv : Value} {l : List (Nat × Nat)} {bs : List UInt8} (h : MemA w bM bm bb k lv l bs) (hF : Fr S w w') (h1 : bM ∉ S) (h2 : bm ∉ S) (h3 : bb ∉ S) (h4 : ∀ g, lv.ownBlock = some g → g ∉ S) : MemA w' bM bm bb k lv l bs :=
  ⟨hF.heap h.top h1, h.mid.fr hF h2 h4, hF.heap h.bytes h3, h.len⟩
theorem MemA.fr0 {w w' : World} {bM bm bb k : Nat} {lv : Value} {l : List (Nat × Nat)} {bs : List UInt8} (h : MemA w bM bm bb k lv l bs) (hF : Fr [] w w') : MemA w' bM bm bb k lv l bs :=
  h.fr hF (by simp) (by simp) (by simp) (by simp)
theorem MemA.apart {w : World} {bM bm bb k : Nat} {lv : Value} {l : List (Nat × Nat)} {bs : List UInt8} (h : MemA w bM bm bb k lv l bs) : bM ≠ bb ∧ bm ≠ bb ∧ bM ≠ bm ∧ (∀ g, lv.ownBlock = some g → g ≠ bb ∧ g ≠ bm ∧ g ≠ bM) := by
  refine ⟨fun e => ?_, fun e => ?_, fun e => ?_, fun g hg => ⟨Row.ne h.mid.row h.bytes (by decide) g hg, Row.ne h.mid.row h.mid.blk (by decide) g hg, Row.ne h.mid.row h.top (by decide) g hg⟩⟩
  · subst e; have := h.top; rw [h.bytes] at this; simp at this
  · subst e; have := h.mid.blk; rw [h.bytes] at this; simp at this
  · subst e; have := h.top; rw [h.mid.blk] at this; cases this

theorem span_fr (a : Nat) (p : Option Addr) (n c : Nat) (hn : n ≤ 1048576) (w : World) : Calls Try.prog 47 #[.int .u32 a, .slice p n c] w fun e w' => e = .returned (.agg #[.int .u32 a, .int .u32 n]) ∧ Fr [] w w' :=
  (span_any a p n c hn w).mono fun _ _ h => ⟨h.1, h.2 ▸ (Fr.refl _ _).alloc _⟩
theorem some_is (bm a n m : Nat) (lv : Value) (l : List (Nat × Nat)) (w : World) (hL : Lnt w bm lv l) (hc : Canon l m) (hm : m ≤ 1048576) (han : a + n ≤ m) (b : Bool) (hb : b = true ↔ ∃ k, a ≤ k ∧ k < a + n ∧ In l k) :
    Calls Try.prog 53 #[.pointer (some ⟨bm, 0, none⟩), .agg #[.int .u32 a, .int .u32 n]] w fun e w' => e = .returned (.bool b) ∧ Fr [] w w' :=
  (some_any bm a n m lv l w hL hc hm (by omega) han).mono fun e w' ⟨b', h1, h2, h3⟩ => ⟨by rw [h2]; congr 2; rw [Bool.eq_iff_iff, h1, hb], h3⟩
theorem all_is (bm a n m : Nat) (lv : Value) (l : List (Nat × Nat)) (w : World) (hL : Lnt w bm lv l) (hc : Canon l m) (hm : m ≤ 1048576) (han : a + n ≤ m) (b : Bool) (hb : b = true ↔ ∀ k, a ≤ k → k < a + n → In l k) :
    Calls Try.prog 46 #[.pointer (some ⟨bm, 0, none⟩), .agg #[.int .u32 a, .int .u32 n]] w fun e w' => e = .returned (.bool b) ∧ Fr [] w w' :=
  (all_any bm a n m lv l w hL hc hm (by omega) han).mono fun e w' ⟨b', h1, h2, h3⟩ => ⟨by rw [h2]; congr 2; rw [Bool.eq_iff_iff, h1, hb], h3⟩

theorem run_copy_str (w : World) (ty : TypeId) (g o n c : Nat) (s : ByteArray) (cur : List Value) (hg : w.heap[g]? = some (.cells cur.toArray 5 (0, 0))) (hn : s.size = n) (hfit : o + n ≤ cur.length) :
    (Builtin.copy_ #[57, 9] ty #[.slice (some ⟨g, o, none⟩) n c, .string s]).run Try.prog w = .ok (goInt n) (w.setRow g (splice cur o (s.data.toList.map b8)).toArray) := by
  obtain ⟨i, hi, hz, hs, hb⟩ := info5
  have hl : (s.data.toList.map b8).length = n := by simp; exact hn
  have hone : ∀ v ∈ s.data.toList.map b8, v.oneCell' = true := by
    intro v hv; simp at hv; obtain ⟨b, _, rfl⟩ := hv; rfl
  have hst := run_storeCells_at Try.prog g o 5 (s.data.toList.map b8) 0 cur.toArray w hg (by rw [hl]; simpa using hfit) hone
  have e : List.take n (List.map (fun b : UInt8 => Value.int IntKind.u8 (b.toNat : Int)) s.data.toList) = s.data.toList.map b8 := by
    rw [List.take_of_length_le (by simp; exact Nat.le_of_eq hn)]; rfl
  simp [Builtin.copy_, run_underlying Try.underlying57, Builtin.lenOf, Builtin.firstCells, hn, sizeOf, typeInfo, hi]
  rw [e, hst]
  simp [splice]
theorem wpList_copy_str {w : World} {ops : Array Oper} {rest : List Oper} {o : Oper} {a : Act} {Q : Exit → Act → World → Prop} (hgd : o.guard = none) (d s : Operand)
    (ho : o.op = .call { callee := .builtin .copy, args := #[d, s], argTypes := #[57, 9] })
    (g off n c : Nat) (str : ByteArray) (hd : a.eval d = .slice (some ⟨g, off, none⟩) n c) (hs : a.eval s = .string str) (hn : str.size = n)
    (cur : List Value) (hg : w.heap[g]? = some (.cells cur.toArray 5 (0, 0))) (hfit : off + n ≤ cur.length)
    (h : ∀ w', Hid (w'.heap[g]? = some (.cells (splice cur off (str.data.toList.map b8)).toArray 5 (0, 0))) → Fr [g] w w' → wpList Try.prog ops Q rest (a.put o.dst (goInt n)) w') : wpList Try.prog ops Q (o :: rest) a w := by
  refine wpList_plain hgd fun K hK => ?_
  have hrun := run_copy_str w o.type g off n c str cur hg hn hfit
  unfold Oper.wp
  simp [execOp, ho, resolve, invoke, builtin, hd, hs, hrun, Result.andThen]
  exact hK _ _ (h _ (show _ = _ from setRow_heap w g _ _ 5 _ hg) ((Fr.refl [g] w).setRow (by simp) _))

theorem splice_po (bs : List UInt8) (s : ByteArray) (a : Nat) (h : a + s.size ≤ bs.length) : (splice (bs.map b8) (po a s.size) (s.data.toList.map b8)) = (bs.take a ++ s.data.toList ++ bs.drop (a + s.size)).map b8 := by
  have hl : s.data.toList.length = s.size := rfl
  by_cases h0 : s.size = 0
  · have : s.data.toList = [] := List.eq_nil_of_length_eq_zero (by rw [hl, h0])
    rw [this, h0]
    simp [splice, po]
  · simp only [splice, po, h0, if_false, List.length_map, hl, List.map_append, List.map_take, List.map_drop, List.append_assoc]
theorem write_nil (at_ : Int) (s : ByteArray) (w : World) : Calls Try.prog 31 #[.pointer none, .int .u32 at_, .string s] w fun e w' => e = .returned (.int .i64 1) ∧ w' = w := by
  go_enter Try.func31, Try.ntmps31
  go_wp2_with (go_at_call 44; refine (none_nil _).mono ?_; rintro e w' ⟨rfl, rfl⟩)
  go_ret
  exact ⟨rfl, rfl⟩
theorem device_nil (at_ : Int) (s : ByteArray) (w : World) : Calls Try.prog 18 #[.pointer none, .int .u32 at_, .string s] w fun e w' => e = .returned (.int .i64 1) ∧ w' = w := by
  go_enter Try.func18, Try.ntmps18
  go_wp2_with (go_at_call 44; refine (none_nil _).mono ?_; rintro e w' ⟨rfl, rfl⟩)
  go_ret
  exact ⟨rfl, rfl⟩

theorem write_out (bM bm bb k a : Nat) (lv : Value) (l : List (Nat × Nat)) (bs : List UInt8) (s : ByteArray) (w : World) (hM : MemA w bM bm bb k lv l bs) (ha : a < 4294967296) (hs : s.size ≤ maxLen) (ho : k < a + s.size) :
    Calls Try.prog 31 #[.pointer (some ⟨bM, 0, none⟩), .int .u32 a, .string s] w fun e w' => e = .returned (.int .i64 10) ∧ w' = w := by
  have hk := hM.mid.top
  have c0 := hM.cp
  have c1 := hM.mid.c0
  unfold maxLen at hs
  go_enter Try.func31, Try.ntmps31
  go_wp2_with (first | (go_at_call 44; refine (none_mem bM bm _ c0).mono ?_; rintro e w' ⟨rfl, rfl⟩) | (go_at_call 45; refine (part_out bm bb a s.size k _ ha (by omega) hk c1 ho).mono ?_; rintro e w' ⟨rfl, rfl⟩))
  go_ret
  exact ⟨rfl, rfl⟩

theorem write_lent (bM bm bb k a : Nat) (lv : Value) (l : List (Nat × Nat)) (bs : List UInt8) (s : ByteArray) (w : World) (hM : MemA w bM bm bb k lv l bs) (ho : a + s.size ≤ k) (hsm : ∃ b, a ≤ b ∧ b < a + s.size ∧ In l b) :
    Calls Try.prog 31 #[.pointer (some ⟨bM, 0, none⟩), .int .u32 a, .string s] w fun e w' => e = .returned (.int .i64 11) ∧ Fr [] w w' := by
  have hk := hM.mid.top
  have c0 := hM.cp
  have c1 := hM.mid.c0
  have lM : bM < w.heap.size := lt_of_heap hM.top
  have HM := hid hM
  have HS := hid hsm
  clear hM hsm
  go_enter Try.func31, Try.ntmps31
  go_wp2_with (first | (go_at_call 44; refine (none_mem bM bm _ c0).mono ?_; rintro e w' ⟨rfl, rfl⟩) | (go_at_call 45; refine (part_in bm bb a s.size k _ (by omega) hk c1 ho).mono ?_; rintro e w' ⟨rfl, rfl⟩))
  refine wp_region_ext (by kernel_rfl) (by kernel_rfl) ?_
  repeat (go_big_quiet_step (first | exact Calls.ext_of (span_fr a _ s.size s.size (by omega) _) | exact Calls.ext_of (some_is bm a s.size k lv l _ (HM.out.fr0 (ext_fr _ _)).mid.lnt HM.out.mid.can hk ho true ⟨fun _ => HS.out, fun _ => rfl⟩)))
  refine wpQuiet_nil ?_
  rintro _ ⟨xq, rfl⟩
  go_wp2
  go_ret
  exact ⟨rfl, ext_fr _ _⟩
theorem write_ok (bM bm bb k a : Nat) (lv : Value) (l : List (Nat × Nat)) (bs : List UInt8) (s : ByteArray) (w : World) (hM : MemA w bM bm bb k lv l bs) (ho : a + s.size ≤ k) (hsm : ¬ ∃ b, a ≤ b ∧ b < a + s.size ∧ In l b) :
    Calls Try.prog 31 #[.pointer (some ⟨bM, 0, none⟩), .int .u32 a, .string s] w fun e w' => e = .returned (.int .i64 0) ∧ MemA w' bM bm bb k lv l (bs.take a ++ s.data.toList ++ bs.drop (a + s.size)) ∧ Fr [bb] w w' := by
  have hk := hM.mid.top
  have c0 := hM.cp
  have c1 := hM.mid.c0
  have lM : bM < w.heap.size := lt_of_heap hM.top
  have HM := hid hM
  have HS := hid hsm
  have hbl := hM.len
  have HB := hid hbl
  clear hM hsm hbl
  go_enter Try.func31, Try.ntmps31
  go_wp2_with (first | (go_at_call 44; refine (none_mem bM bm _ c0).mono ?_; rintro e w' ⟨rfl, rfl⟩) | (go_at_call 45; refine (part_in bm bb a s.size k _ (by omega) hk c1 ho).mono ?_; rintro e w' ⟨rfl, rfl⟩))
  refine wp_region_ext (by kernel_rfl) (by kernel_rfl) ?_
  repeat (go_big_quiet_step (first | exact Calls.ext_of (span_fr a _ s.size s.size (by omega) _) | exact Calls.ext_of (some_is bm a s.size k lv l _ (HM.out.fr0 (ext_fr _ _)).mid.lnt HM.out.mid.can hk ho false ⟨fun h => Bool.noConfusion h, fun h => absurd h HS.out⟩)))
  refine wpQuiet_nil ?_
  rintro _ ⟨xq, rfl⟩
  obtain ⟨w1, hw1⟩ : ∃ w1, w1 = ext w' xq := ⟨_, rfl⟩
  rw [← hw1]
  have F1 : Fr [] w' w1 := hw1 ▸ ext_fr _ _
  clear hw1
  have HM1 := hid (HM.out.fr0 F1)
  go_wp2_with (refine wpList_copy_str rfl (.tmp 33) (.tmp 34) rfl bb (po a s.size) s.size s.size s rfl rfl rfl (bs.map b8) HM1.out.bytes ?_ ?_)
  · have := HB.out; simp [po]; split <;> omega
  intro w2 hb2 hF2
  go_wp2
  go_ret
  have ap := HM1.out.apart
  refine ⟨rfl, ⟨hF2.heap HM1.out.top (by simp; exact ap.1), HM1.out.mid.fr hF2 (by simp; exact ap.2.1) (fun g hg => by simp; exact (ap.2.2.2 g hg).1), ?_, ?_⟩, (F1.mono (T := [bb]) (by simp)).trans hF2 (fun t ht => .inl ht)⟩
  · rw [hb2.out, splice_po bs s a (by rw [HB.out]; exact ho)]
  · rw [List.length_append, List.length_append, List.length_take, List.length_drop, show s.data.toList.length = s.size from rfl]; have := HB.out; omega
theorem device_out (bM bm bb k a : Nat) (lv : Value) (l : List (Nat × Nat)) (bs : List UInt8) (s : ByteArray) (w : World) (hM : MemA w bM bm bb k lv l bs) (ha : a < 4294967296) (hs : s.size ≤ maxLen) (ho : k < a + s.size) :
    Calls Try.prog 18 #[.pointer (some ⟨bM, 0, none⟩), .int .u32 a, .string s] w fun e w' => e = .returned (.int .i64 10) ∧ w' = w := by
  have hk := hM.mid.top
  have c0 := hM.cp
  have c1 := hM.mid.c0
  unfold maxLen at hs
  go_enter Try.func18, Try.ntmps18
  go_wp2_with (first | (go_at_call 44; refine (none_mem bM bm _ c0).mono ?_; rintro e w' ⟨rfl, rfl⟩) | (go_at_call 45; refine (part_out bm bb a s.size k _ ha (by omega) hk c1 ho).mono ?_; rintro e w' ⟨rfl, rfl⟩))
  go_ret
  exact ⟨rfl, rfl⟩

theorem device_kept (bM bm bb k a : Nat) (lv : Value) (l : List (Nat × Nat)) (bs : List UInt8) (s : ByteArray) (w : World) (hM : MemA w bM bm bb k lv l bs) (ho : a + s.size ≤ k) (hsm : ¬ ∀ b, a ≤ b → b < a + s.size → In l b) :
    Calls Try.prog 18 #[.pointer (some ⟨bM, 0, none⟩), .int .u32 a, .string s] w fun e w' => e = .returned (.int .i64 12) ∧ Fr [] w w' := by
  have hk := hM.mid.top
  have c0 := hM.cp
  have c1 := hM.mid.c0
  have lM : bM < w.heap.size := lt_of_heap hM.top
  have HM := hid hM
  have HS := hid hsm
  clear hM hsm
  go_enter Try.func18, Try.ntmps18
  go_wp2_with (first | (go_at_call 44; refine (none_mem bM bm _ c0).mono ?_; rintro e w' ⟨rfl, rfl⟩) | (go_at_call 45; refine (part_in bm bb a s.size k _ (by omega) hk c1 ho).mono ?_; rintro e w' ⟨rfl, rfl⟩))
  refine wp_region_ext (by kernel_rfl) (by kernel_rfl) ?_
  repeat (go_big_quiet_step (first | exact Calls.ext_of (span_fr a _ s.size s.size (by omega) _) | exact Calls.ext_of (all_is bm a s.size k lv l _ (HM.out.fr0 (ext_fr _ _)).mid.lnt HM.out.mid.can hk ho false ⟨fun h => Bool.noConfusion h, fun h => absurd h HS.out⟩)))
  refine wpQuiet_nil ?_
  rintro _ ⟨xq, rfl⟩
  go_wp2
  go_ret
  exact ⟨rfl, ext_fr _ _⟩
theorem device_ok (bM bm bb k a : Nat) (lv : Value) (l : List (Nat × Nat)) (bs : List UInt8) (s : ByteArray) (w : World) (hM : MemA w bM bm bb k lv l bs) (ho : a + s.size ≤ k) (hsm : ∀ b, a ≤ b → b < a + s.size → In l b) :
    Calls Try.prog 18 #[.pointer (some ⟨bM, 0, none⟩), .int .u32 a, .string s] w fun e w' => e = .returned (.int .i64 0) ∧ MemA w' bM bm bb k lv l (bs.take a ++ s.data.toList ++ bs.drop (a + s.size)) ∧ Fr [bb] w w' := by
  have hk := hM.mid.top
  have c0 := hM.cp
  have c1 := hM.mid.c0
  have lM : bM < w.heap.size := lt_of_heap hM.top
  have HM := hid hM
  have HS := hid hsm
  have hbl := hM.len
  have HB := hid hbl
  clear hM hsm hbl
  go_enter Try.func18, Try.ntmps18
  go_wp2_with (first | (go_at_call 44; refine (none_mem bM bm _ c0).mono ?_; rintro e w' ⟨rfl, rfl⟩) | (go_at_call 45; refine (part_in bm bb a s.size k _ (by omega) hk c1 ho).mono ?_; rintro e w' ⟨rfl, rfl⟩))
  refine wp_region_ext (by kernel_rfl) (by kernel_rfl) ?_
  repeat (go_big_quiet_step (first | exact Calls.ext_of (span_fr a _ s.size s.size (by omega) _) | exact Calls.ext_of (all_is bm a s.size k lv l _ (HM.out.fr0 (ext_fr _ _)).mid.lnt HM.out.mid.can hk ho true ⟨fun _ => HS.out, fun _ => rfl⟩)))
  refine wpQuiet_nil ?_
  rintro _ ⟨xq, rfl⟩
  obtain ⟨w1, hw1⟩ : ∃ w1, w1 = ext w' xq := ⟨_, rfl⟩
  rw [← hw1]
  have F1 : Fr [] w' w1 := hw1 ▸ ext_fr _ _
  clear hw1
  have HM1 := hid (HM.out.fr0 F1)
  go_wp2_with (refine wpList_copy_str rfl (.tmp 34) (.tmp 35) rfl bb (po a s.size) s.size s.size s rfl rfl rfl (bs.map b8) HM1.out.bytes ?_ ?_)
  · have := HB.out; simp [po]; split <;> omega
  intro w2 hb2 hF2
  go_wp2
  go_ret
  have ap := HM1.out.apart
  refine ⟨rfl, ⟨hF2.heap HM1.out.top (by simp; exact ap.1), HM1.out.mid.fr hF2 (by simp; exact ap.2.1) (fun g hg => by simp; exact (ap.2.2.2 g hg).1), ?_, ?_⟩, (F1.mono (T := [bb]) (by simp)).trans hF2 (fun t ht => .inl ht)⟩
  · rw [hb2.out, splice_po bs s a (by rw [HB.out]; exact ho)]
  · rw [List.length_append, List.length_append, List.length_take, List.length_drop, show s.data.toList.length = s.size from rfl]; have := HB.out; omega
end Go.Proofs.Ytfiaciniikcacaa
