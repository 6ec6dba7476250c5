/-
  The document's ladder (pharosref08): times. No statement is proved here.
-/
import Derived.Test.YthbkhbfcocbnoaaDoorDocC
import Derived.Test.YthbkhbfcocbnoaaDoorMonM
namespace Go.Proofs.YthbkhbfcocbnoaaDoor
open Go.RowKit Go.Lib Go.BigFrame
set_option linter.unusedVariables false
set_option linter.unusedSimpArgs false
set_option maxRecDepth 1000000
set_option maxHeartbeats 4000000

theorem s_swap1 (A B C E : Nat) : s1 C E A B = s2 A B C E := by unfold s1 s2; rw [mq_comm]
theorem s_swap2 (A B C E : Nat) : s2 C E A B = s1 A B C E := by unfold s1 s2; rw [mq_comm]
theorem sx_swap (A B C E : Nat) : sx C E A B = sx A B C E := by unfold sx; rw [s_swap1 A B C E, s_swap2 A B C E, ad_comm (s2 A B C E)]
theorem sz_swap (X A B C E : Nat) : sz X C E A B = sz X A B C E := by
  unfold sz sy
  rw [s_swap1 A B C E, s_swap2 A B C E, neg_sq (s1 A B C E) (s2 A B C E) (s1_lt _ _ _ _) (s2_lt _ _ _ _)]
/-- A step of the document's ladder. -/
def dstep (X : Nat) (s : St) (bit : Nat) : St := if bit = 1 then ⟨sx s.a s.b s.c s.e, sz X s.a s.b s.c s.e, dx s.c s.e, dz s.c s.e, 0⟩ else ⟨dx s.a s.b, dz s.a s.b, sx s.a s.b s.c s.e, sz X s.a s.b s.c s.e, 0⟩
def dn (s : ByteArray) (X : Nat) : Nat → St
  | 0 => ⟨1, 0, X, 1, 0⟩
  | k + 1 => dstep X (dn s X k) (bx s (254 - k))
theorem dn_ok (s : ByteArray) {X : Nat} (hX : X < Nt.P) : ∀ k, (dn s X k).Ok
  | 0 => ⟨one_lt, zero_lt, hX, one_lt⟩
  | k + 1 => by
    rw [dn, dstep]
    split
    · exact ⟨sx_lt _ _ _ _, sz_lt _ _ _ _ _, dx_lt _ _, dz_lt _ _⟩
    · exact ⟨dx_lt _ _, dz_lt _ _, sx_lt _ _ _ _, sz_lt _ _ _ _ _⟩
/-- Where the document's stands, and where the program's: turned or not. -/
structure Two (d r : St) : Prop where
  t : r.t ≤ 1
  low : r.t = 0 → r.a = d.a ∧ r.b = d.b ∧ r.c = d.c ∧ r.e = d.e
  high : r.t = 1 → r.a = d.c ∧ r.b = d.e ∧ r.c = d.a ∧ r.e = d.b
theorem Two.tn {d r : St} (h : Two d r) (bit : Nat) (hb : bit ≤ 1) : Two d (r.tn bit) := by
  have ht := h.t
  refine ⟨hb, fun e => ?_, fun e => ?_⟩
  · have e' : bit = 0 := e
    subst e'
    unfold St.tn
    by_cases h0 : 0 = r.t
    · simp only [← h0, if_true]; exact h.low h0.symm
    · simp only [h0, if_false]
      obtain ⟨x1, x2, x3, x4⟩ := h.high (by omega)
      exact ⟨x3, x4, x1, x2⟩
  · have e' : bit = 1 := e
    subst e'
    unfold St.tn
    by_cases h0 : 1 = r.t
    · simp only [← h0, if_true]; exact h.high h0.symm
    · simp only [h0, if_false]
      obtain ⟨x1, x2, x3, x4⟩ := h.low (by omega)
      exact ⟨x3, x4, x1, x2⟩
theorem Two.cl {d r : St} {X : Nat} (h : Two d r) : Two (dstep X d r.t) (St.cl X r) := by
  have ht := h.t
  by_cases e : r.t = 0
  · obtain ⟨x1, x2, x3, x4⟩ := h.low e
    unfold dstep St.cl
    rw [e, if_neg (by omega)]
    exact ⟨Nat.zero_le _, fun _ => by rw [x1, x2, x3, x4]; exact ⟨rfl, rfl, rfl, rfl⟩, fun k => by cases k⟩
  · have e : r.t = 1 := by omega
    obtain ⟨x1, x2, x3, x4⟩ := h.high e
    unfold dstep St.cl
    rw [e, if_pos rfl]
    exact ⟨Nat.le_refl _, fun k => (by cases k), fun _ => by rw [x1, x2, x3, x4, sx_swap, sz_swap]; exact ⟨rfl, rfl, rfl, rfl⟩⟩
theorem dn_rn (s : ByteArray) (X : Nat) : ∀ k, Two (dn s X k) (rn s X k)
  | 0 => ⟨Nat.zero_le _, fun _ => ⟨rfl, rfl, rfl, rfl⟩, fun k => by cases k⟩
  | k + 1 => ((dn_rn s X k).tn (bx s (254 - k)) (bt_le _ _)).cl
theorem dn_lad (s : ByteArray) (X : Nat) : mq (dn s X 255).a (iv (dn s X 255).b) = lad s X := by
  obtain ⟨h1, h2, -, -⟩ := ((dn_rn s X 255).tn 0 (by omega)).low rfl
  unfold lad
  rw [h1, h2]
theorem build_p1 (W : World) : (Instr.build 66 #[(0, nd 1)]).run Tryd.prog W = .ok (pn 1 0) W := by kernel_rfl
theorem alloc66 (W : World) : (Instr.alloc 66 true (.tuple #[])).run Tryd.prog W = .ok (.pointer (some ⟨W.heap.size, 0, none⟩)) (W.alloc (.cells #[.int .u64 0, .int .u64 0, .int .u64 0, .int .u64 0, .int .u64 0, .int .u64 0, .int .u64 0, .int .u64 0, .int .u64 0, .int .u64 0, .int .u64 0, .int .u64 0, .int .u64 0, .int .u64 0, .int .u64 0, .int .u64 0, .int .u64 0, .int .u64 0] 66)) := by kernel_rfl
theorem wpList_build_p1 {w : World} {ops : Array Oper} {rest : List Oper} {o : Oper} {a : Act} {Q : Exit → Act → World → Prop} (hgd : o.guard = none) (x : Operand) (ho : o.op = .build 66 #[(0, x)]) (hx : a.eval x = nd 1)
    (h : wpList Tryd.prog ops Q rest (a.put o.dst (pn 1 0)) w) : wpList Tryd.prog ops Q (o :: rest) a w := by
  refine wpList_plain hgd fun K hK => ?_
  have e : (#[(0, x)] : Array (Nat × Operand)).map (fun (i, x) => (i, a.eval x)) = #[(0, nd 1)] := by
    rw [← hx]; simp
  unfold Oper.wp execOp
  simp only [ho]
  rw [e]
  simp only [Sem.run_bind, build_p1, Result.andThen_ok, Sem.run_pure]
  exact hK _ _ h
theorem PT.setRow {V : World} {b : Nat} {old : Array Value} (h : V.heap[b]? = some (.cells old 66)) (A B : Nat) : PT (V.setRow b (wc (dts A ++ dts B))) b A B := setRow_heap V b _ _ _ _ h
theorem rtimes_any (s u : ByteArray) (hs : s.size = 32) (hu : u.size = 32) (w : World) : Calls Tryd.prog 20 #[.string s, .string u] w fun e w' => e = .returned (.string (by32 (lad (sbi (cl s)) (kp u)))) ∧ Fr [] w w' := by
  have hX := kp_lt u
  have K1 := fun W => rclamp_any s hs W
  have K2 := fun W => rof_any (sbi (cm u)) (sbi_size _) W
  rw [of_cm] at K2
  have K3 : ∀ W : World, Calls Tryd.prog 32 #[.int .u32 1] W fun e w' => e = .returned (nd 1) ∧ Fr [] W w' := fun W => rsmall_any 1 (by decide) W
  have hks : (sbi (cl s)).size = 32 := sbi_size _
  generalize kp u = X at *
  generalize sbi (cl s) = k at *
  have KS := hid (p := _) (fun (st : St) (hok : st.Ok) W => rsum_any st.a st.b st.c st.e X hok.a hok.b hok.c hok.e hX W)
  have KT := hid (p := _) (fun A B hA hB W => twice_any A B hA hB W)
  have HOK := hid (p := _) (fun i => dn_ok k hX i)
  have hok2 := dn_ok k hX 255
  have KI := fun W => rinv_any (dn k X 255).b hok2.b W
  have KM : ∀ W : World, Calls Tryd.prog 35 #[nd (dn k X 255).a, nd (iv (dn k X 255).b)] W fun e w' => e = .returned (nd (lad k X)) ∧ Fr [] W w' := fun W => by
    have := rmul_mq (dn k X 255).a (iv (dn k X 255).b) hok2.a (Nat.mod_lt _ P_pos) W
    rw [dn_lad] at this
    exact this
  have KB := fun W => rbytes_any (lad k X) (lt4 (lad_lt _ _)) W
  generalize hlad : nd (lad k X) = g1 at *
  generalize nd (iv (dn k X 255).b) = g2 at *
  generalize by32 (lad k X) = tx at *
  have H1 := hid (p := _) K1
  have H2 := hid (p := _) K2
  have H3 := hid (p := _) K3
  have HI := hid (p := _) KI
  have HM := hid (p := _) KM
  have HBy := hid (p := _) KB
  have HCu := hid (p := _) (fun W => conv_in u hu W)
  have hsi : (k.size : Int) = 32 := by omega
  clear K1 K2 K3 KI KM KB hX hlad hok2 hs hu
  have HZ := hid (p := _) (show ∀ V : World, RW (V.alloc (.cells #[.int .u64 0, .int .u64 0, .int .u64 0, .int .u64 0, .int .u64 0, .int .u64 0, .int .u64 0, .int .u64 0, .int .u64 0] 35)) V.heap.size 35 [0, 0, 0, 0, 0, 0, 0, 0, 0] from fun V => (MapKept.heap_alloc V _).1)
  have HZP := hid (p := _) (show ∀ V : World, (V.alloc (.cells #[.int .u64 0, .int .u64 0, .int .u64 0, .int .u64 0, .int .u64 0, .int .u64 0, .int .u64 0, .int .u64 0, .int .u64 0, .int .u64 0, .int .u64 0, .int .u64 0, .int .u64 0, .int .u64 0, .int .u64 0, .int .u64 0, .int .u64 0, .int .u64 0] 66)).heap[V.heap.size]? = some (.cells #[.int .u64 0, .int .u64 0, .int .u64 0, .int .u64 0, .int .u64 0, .int .u64 0, .int .u64 0, .int .u64 0, .int .u64 0, .int .u64 0, .int .u64 0, .int .u64 0, .int .u64 0, .int .u64 0, .int .u64 0, .int .u64 0, .int .u64 0, .int .u64 0] 66) from fun V => (MapKept.heap_alloc V _).1)
  go_enter Tryd.func20, Tryd.ntmps20
  go_wp2_with fail
  with_reducible refine (H1.out _).mono ?_
  rintro e V1 ⟨rfl, hF⟩
  have F1 := hid (p := _) hF
  clear hF H1
  obtain ⟨cap, W, hcv, FW, B⟩ := HCu.out V1
  have B1 := B.set 31 (by decide) (bits .andNot .u8 ((byt u 31 : Nat) : Int) 128)
  have hback := B1.back cap
  rw [show (fun j => if j = 31 then bits .andNot .u8 ((byt u 31 : Nat) : Int) 128 else ((byt u j : Nat) : Int)) = cm u from rfl] at hback
  obtain ⟨c31, g31⟩ := B.2 31 (by decide)
  have hlW := B.1
  have F2 := hid (p := _) ((F1.out.trans0 FW).setCell (p := ⟨V1.heap.size, 31, none⟩) (.inr F1.out.size) (.int .u8 (bits .andNot .u8 ((byt u 31 : Nat) : Int) 128)))
  clear FW B B1
  generalize V1.heap.size = ub at *
  generalize sbi (cm u) = km at *
  go_wp2_with fail
  with_reducible refine (H2.out _).mono ?_
  rintro e V2 ⟨rfl, hF⟩
  have F3 := hid (p := _) (F2.out.trans0 hF)
  clear hF hcv hback c31 g31 hlW F2 H2 F1
  go_wp2_with (first | (refine wpList_store_36 rfl (.tmp 7) (.tmp 24) rfl V2.heap.size [0, 0, 0, 0, 0, 0, 0, 0, 0] (dts X) 35 rfl rfl rfl (dts_len _) (HZ.out V2) ?_; intro W2 hW; have X2 := hid (p := _) (show RW W2 V2.heap.size 35 (dts X) from hW ▸ (HZ.out V2).setRow _); have F4 := hid (p := _) (show Fr [] w W2 from hW ▸ (F3.out.alloc (.cells #[.int .u64 0, .int .u64 0, .int .u64 0, .int .u64 0, .int .u64 0, .int .u64 0, .int .u64 0, .int .u64 0, .int .u64 0] 35)).setRow (.inr F3.out.size) _); clear hW) | (go_at_call 32; with_reducible refine (H3.out _).mono ?_; rintro e V3 ⟨rfl, hF⟩; have X3 := hid (p := _) (X2.out.fr hF); have F5 := hid (p := _) (F4.out.trans0 hF); clear hF) | (refine wpList_build_p1 rfl (.tmp 25) rfl rfl ?_) | (refine wpList_store_pn rfl (.tmp 8) (.tmp 26) rfl V3.heap.size 1 0 #[.int .u64 0, .int .u64 0, .int .u64 0, .int .u64 0, .int .u64 0, .int .u64 0, .int .u64 0, .int .u64 0, .int .u64 0, .int .u64 0, .int .u64 0, .int .u64 0, .int .u64 0, .int .u64 0, .int .u64 0, .int .u64 0, .int .u64 0, .int .u64 0] 66 rfl rfl (HZP.out V3) rfl ?_))
  have X4 := hid (p := _) ((X3.out.alloc (.cells #[.int .u64 0, .int .u64 0, .int .u64 0, .int .u64 0, .int .u64 0, .int .u64 0, .int .u64 0, .int .u64 0, .int .u64 0, .int .u64 0, .int .u64 0, .int .u64 0, .int .u64 0, .int .u64 0, .int .u64 0, .int .u64 0, .int .u64 0, .int .u64 0] 66)).setRow_other (b' := V3.heap.size) (Nat.ne_of_lt X3.out.lt) (wc (dts 1 ++ dts 0)))
  have P4 := hid (p := _) (PT.setRow (HZP.out V3) 1 0)
  have F6 := hid (p := _) ((F5.out.alloc (.cells #[.int .u64 0, .int .u64 0, .int .u64 0, .int .u64 0, .int .u64 0, .int .u64 0, .int .u64 0, .int .u64 0, .int .u64 0, .int .u64 0, .int .u64 0, .int .u64 0, .int .u64 0, .int .u64 0, .int .u64 0, .int .u64 0, .int .u64 0, .int .u64 0] 66)).setRow (g := V3.heap.size) (.inr F5.out.size) (wc (dts 1 ++ dts 0)))
  generalize (V3.alloc (.cells #[.int .u64 0, .int .u64 0, .int .u64 0, .int .u64 0, .int .u64 0, .int .u64 0, .int .u64 0, .int .u64 0, .int .u64 0, .int .u64 0, .int .u64 0, .int .u64 0, .int .u64 0, .int .u64 0, .int .u64 0, .int .u64 0, .int .u64 0, .int .u64 0] 66)).setRow V3.heap.size (wc (dts 1 ++ dts 0)) = U at *
  have hxp := hid (p := _) (Nat.ne_of_lt X3.out.lt)
  have hpwH := hid (p := _) F5.out.size
  clear X2 X3 F3 F4 F5
  generalize V3.heap.size = pb at *
  generalize V2.heap.size = xb at *
  try simp only [Act.put, List.setIfInBounds_toArray, List.set_cons_zero, List.set_cons_succ]
  apply wp_region_news [(9, 66, #[.int .u64 0, .int .u64 0, .int .u64 0, .int .u64 0, .int .u64 0, .int .u64 0, .int .u64 0, .int .u64 0, .int .u64 0, .int .u64 0, .int .u64 0, .int .u64 0, .int .u64 0, .int .u64 0, .int .u64 0, .int .u64 0, .int .u64 0, .int .u64 0])] [_, _, _, _] [_] (by simp) (by kernel_rfl) (by kernel_rfl) (by kernel_rfl) (by kernel_rfl) (by kernel_rfl) (by kernel_rfl) news1_ty (news1_run alloc66)
  · intro V0 hV0
    have HX := hid (p := _) (show ∀ W, (∃ x, W = ext V0 x) → NR W xb 0 X from fun W h => by obtain ⟨x, rfl⟩ := h; exact ((NR.row X4.out).fr hV0).fr (ext_fr _ x))
    simp only [List.cons_append, List.nil_append, List.map_cons, List.map_nil, still, isNew, idle, if_true, Bool.false_eq_true, if_false]
    refine wpQuiet_load_nd rfl (.tmp 7) rfl xb 0 X rfl HX.out ?_
    simp only [Act.put, List.setIfInBounds_toArray, List.set_cons_zero, List.set_cons_succ]
    go_big_quiet_step (with_reducible exact Calls.ext_of (H3.out _))
    refine wpQuiet_build_pn rfl (.tmp 27) (.tmp 28) rfl X 1 rfl rfl ?_
    simp only [Act.put, List.setIfInBounds_toArray, List.set_cons_zero, List.set_cons_succ]
    go_big_quiet_step (fail)
    refine wpQuiet_nil ?_
    rfl
  · intro W p hW hb hd
    have Z9' : W.heap[p 9]? = some (.cells #[.int .u64 0, .int .u64 0, .int .u64 0, .int .u64 0, .int .u64 0, .int .u64 0, .int .u64 0, .int .u64 0, .int .u64 0, .int .u64 0, .int .u64 0, .int .u64 0, .int .u64 0, .int .u64 0, .int .u64 0, .int .u64 0, .int .u64 0, .int .u64 0] 66) := (hb (9, 66, #[.int .u64 0, .int .u64 0, .int .u64 0, .int .u64 0, .int .u64 0, .int .u64 0, .int .u64 0, .int .u64 0, .int .u64 0, .int .u64 0, .int .u64 0, .int .u64 0, .int .u64 0, .int .u64 0, .int .u64 0, .int .u64 0, .int .u64 0, .int .u64 0]) (by simp)).1
    have g9 : U.heap.size ≤ p 9 := (hb (9, 66, #[.int .u64 0, .int .u64 0, .int .u64 0, .int .u64 0, .int .u64 0, .int .u64 0, .int .u64 0, .int .u64 0, .int .u64 0, .int .u64 0, .int .u64 0, .int .u64 0, .int .u64 0, .int .u64 0, .int .u64 0, .int .u64 0, .int .u64 0, .int .u64 0]) (by simp)).2
    simp only [putAll, Act.put, List.setIfInBounds_toArray, List.set_cons_zero, List.set_cons_succ, tailWp]
    refine wp_store_pn (.tmp 9) (.tmp 29) rfl (p 9) X 1 #[.int .u64 0, .int .u64 0, .int .u64 0, .int .u64 0, .int .u64 0, .int .u64 0, .int .u64 0, .int .u64 0, .int .u64 0, .int .u64 0, .int .u64 0, .int .u64 0, .int .u64 0, .int .u64 0, .int .u64 0, .int .u64 0, .int .u64 0, .int .u64 0] 66 rfl rfl Z9' rfl ?_
    have hx0 := X4.out.lt
    have hp0 := P4.out.lt
    have hf0 := F6.out.size
    have X5 := hid (p := _) ((X4.out.fr hW).setRow_other (b' := p 9) (by omega) (wc (dts X ++ dts 1)))
    have P5 := hid (p := _) ((P4.out.fr hW).setRow_other (b' := p 9) (by omega) (wc (dts X ++ dts 1)))
    have Q5 := hid (p := _) (PT.setRow Z9' X 1)
    have F7 := hid (p := _) ((F6.out.trans0 hW).setRow (g := p 9) (.inr (by omega)) (wc (dts X ++ dts 1)))
    have hpq : pb ≠ p 9 := by omega
    have hxq : xb ≠ p 9 := by omega
    have hqw : w.heap.size ≤ p 9 := by omega
    have hxp' := hxp.out
    have hpw' := hpwH.out
    have hxp : xb ≠ pb := hxp'
    have hpw : w.heap.size ≤ pb := hpw'
    clear hxp' hpw'
    generalize W.setRow (p 9) (wc (dts X ++ dts 1)) = U5 at *
    clear hb hd hW Z9' g9 hx0 hp0 hf0 X4 P4 F6
    generalize p 9 = qb at *
    simp only [Act.put, List.setIfInBounds_toArray, List.set_cons_zero, List.set_cons_succ]
    go_simp
    go_wp2_with fail
    go_loopg [10] 255 (fun gk q wr => ∃ (j : Nat) (z : Int), j ≤ 255 ∧ gk = j ∧ q = .int .i64 z ∧ z = (j : Int) - 1 ∧ Hid (Fr [] w wr ∧ RW wr xb 35 (dts X) ∧ PT wr pb (dn k X (255 - j)).a (dn k X (255 - j)).b ∧ PT wr qb (dn k X (255 - j)).c (dn k X (255 - j)).e))
    case atStart => exact ⟨255, _, Nat.le_refl _, rfl, rfl, by first | go_num | omega, hid ⟨F7.out, X5.out, P5.out, Q5.out⟩⟩
    case round =>
      clear F7 X5 P5 Q5
      obtain ⟨j, z, hj, hgk, rfl, hz, K⟩ := hrel
      by_cases hj0 : 0 < j
      · obtain ⟨i, rfl⟩ : ∃ i, j = i + 1 := ⟨j - 1, by omega⟩
        obtain rfl : z = (i : Int) := by omega
        clear hz
        have hi8 : i / 8 < k.size := by omega
        have h1 := byt_get k (i / 8) hi8
        have f1 := bt_bits k i
        have hst : dn k X (255 - i) = dstep X (dn k X (255 - (i + 1))) (bx k i) := by
          rw [show 255 - i = 255 - (i + 1) + 1 by omega, dn, show 254 - (255 - (i + 1)) = i by omega]
        have hok := HOK.out (255 - (i + 1))
        have hbit := bt_le k i
        have KF := hid (p := _) K.out.1
        have KX := hid (p := _) K.out.2.1
        have KP := hid (p := _) K.out.2.2.1
        have KQ := hid (p := _) K.out.2.2.2
        have HST := hid (p := _) hst
        clear K hst
        generalize dn k X (255 - (i + 1)) = st at *
        generalize bx k i = bit at *
        generalize byt k (i / 8) = B8 at *
        have HS := hid (p := _) (fun W => KS.out st hok W)
        by_cases hb1 : bit = 1
        · subst hb1
          have HT := hid (p := _) (fun W => KT.out st.c st.e hok.c hok.e W)
          have hst2 : dn k X (255 - i) = ⟨sx st.a st.b st.c st.e, sz X st.a st.b st.c st.e, dx st.c st.e, dz st.c st.e, 0⟩ := by rw [HST.out, dstep, if_pos rfl]
          have HST2 := hid (p := _) hst2
          clear hst2 HST hok hbit
          generalize st.a = A at *
          generalize st.b = B at *
          generalize st.c = C at *
          generalize st.e = E at *
          generalize sx A B C E = vx at *
          generalize sz X A B C E = vz at *
          generalize dx C E = dX at *
          generalize dz C E = dZ at *
          go_wp2_with (first | (refine wpList_load_pn rfl (.tmp 8) rfl pb A B rfl KP.out ?_) | (refine wpList_load_pn rfl (.tmp 9) rfl qb C E rfl KQ.out ?_) | (refine wpList_load_nd rfl (.tmp 7) rfl xb 0 X rfl (NR.row KX.out) ?_) | (go_at_call 33; with_reducible refine (HS.out _).mono ?_; rintro e V1 ⟨rfl, hF⟩; have F1 := hid (p := _) (KF.out.trans0 hF); have X1 := hid (p := _) (KX.out.fr hF); have P1 := hid (p := _) (KP.out.fr hF); have Q1 := hid (p := _) (KQ.out.fr hF); clear hF KP KQ) | (refine wpList_store_pn rfl (.tmp 11) (.tmp 37) rfl V1.heap.size vx vz #[.int .u64 0, .int .u64 0, .int .u64 0, .int .u64 0, .int .u64 0, .int .u64 0, .int .u64 0, .int .u64 0, .int .u64 0, .int .u64 0, .int .u64 0, .int .u64 0, .int .u64 0, .int .u64 0, .int .u64 0, .int .u64 0, .int .u64 0, .int .u64 0] 66 rfl rfl (HZP.out V1) rfl ?_; have F2 := hid (p := _) ((F1.out.alloc (.cells #[.int .u64 0, .int .u64 0, .int .u64 0, .int .u64 0, .int .u64 0, .int .u64 0, .int .u64 0, .int .u64 0, .int .u64 0, .int .u64 0, .int .u64 0, .int .u64 0, .int .u64 0, .int .u64 0, .int .u64 0, .int .u64 0, .int .u64 0, .int .u64 0] 66)).setRow (g := V1.heap.size) (.inr F1.out.size) (wc (dts vx ++ dts vz))); have X2 := hid (p := _) ((X1.out.alloc (.cells #[.int .u64 0, .int .u64 0, .int .u64 0, .int .u64 0, .int .u64 0, .int .u64 0, .int .u64 0, .int .u64 0, .int .u64 0, .int .u64 0, .int .u64 0, .int .u64 0, .int .u64 0, .int .u64 0, .int .u64 0, .int .u64 0, .int .u64 0, .int .u64 0] 66)).setRow_other (b' := V1.heap.size) (Nat.ne_of_lt X1.out.lt) (wc (dts vx ++ dts vz))); have P2 := hid (p := _) ((P1.out.alloc (.cells #[.int .u64 0, .int .u64 0, .int .u64 0, .int .u64 0, .int .u64 0, .int .u64 0, .int .u64 0, .int .u64 0, .int .u64 0, .int .u64 0, .int .u64 0, .int .u64 0, .int .u64 0, .int .u64 0, .int .u64 0, .int .u64 0, .int .u64 0, .int .u64 0] 66)).setRow_other (b' := V1.heap.size) (Nat.ne_of_lt P1.out.lt) (wc (dts vx ++ dts vz))); have Q2 := hid (p := _) ((Q1.out.alloc (.cells #[.int .u64 0, .int .u64 0, .int .u64 0, .int .u64 0, .int .u64 0, .int .u64 0, .int .u64 0, .int .u64 0, .int .u64 0, .int .u64 0, .int .u64 0, .int .u64 0, .int .u64 0, .int .u64 0, .int .u64 0, .int .u64 0, .int .u64 0, .int .u64 0] 66)).setRow_other (b' := V1.heap.size) (Nat.ne_of_lt Q1.out.lt) (wc (dts vx ++ dts vz))); have S2 := hid (p := _) (PT.setRow (HZP.out V1) vx vz); have hp1 := P1.out.lt; have hq1 := Q1.out.lt; have hx1 := X1.out.lt; generalize (V1.alloc (.cells #[.int .u64 0, .int .u64 0, .int .u64 0, .int .u64 0, .int .u64 0, .int .u64 0, .int .u64 0, .int .u64 0, .int .u64 0, .int .u64 0, .int .u64 0, .int .u64 0, .int .u64 0, .int .u64 0, .int .u64 0, .int .u64 0, .int .u64 0, .int .u64 0] 66)).setRow V1.heap.size (wc (dts vx ++ dts vz)) = W2 at *; clear F1 X1 P1 Q1) | (refine wpList_load_pn rfl (.tmp 11) rfl V1.heap.size vx vz rfl S2.out ?_) | (refine wpList_store_pn rfl (.tmp 8) (.tmp 48) rfl pb vx vz (wc (dts A ++ dts B)) 66 rfl rfl P2.out (wc18 _ _) ?_; have F3 := hid (p := _) (F2.out.setRow (g := pb) (.inr hpw) (wc (dts vx ++ dts vz))); have X3 := hid (p := _) (X2.out.setRow_other (b' := pb) (by omega) (wc (dts vx ++ dts vz))); have P3 := hid (p := _) (PT.setRow P2.out vx vz); have Q3 := hid (p := _) (Q2.out.setRow_other (b' := pb) (by omega) (wc (dts vx ++ dts vz))); generalize W2.setRow pb (wc (dts vx ++ dts vz)) = W3 at *; clear F2 X2 P2 Q2) | (refine wpList_load_pn rfl (.tmp 9) rfl qb C E rfl Q3.out ?_) | (go_at_call 34; with_reducible refine (HT.out _).mono ?_; rintro e V4 ⟨rfl, hF⟩; have F4 := hid (p := _) (F3.out.trans0 hF); have X4 := hid (p := _) (X3.out.fr hF); have P4 := hid (p := _) (P3.out.fr hF); have Q4 := hid (p := _) (Q3.out.fr hF); clear hF F3 X3 P3 Q3) | (refine wpList_store_pn rfl (.tmp 9) (.tmp 50) rfl qb dX dZ (wc (dts C ++ dts E)) 66 rfl rfl Q4.out (wc18 _ _) ?_; have F5 := hid (p := _) (F4.out.setRow (g := qb) (.inr hqw) (wc (dts dX ++ dts dZ))); have X5 := hid (p := _) (X4.out.setRow_other (b' := qb) (by omega) (wc (dts dX ++ dts dZ))); have Q5 := hid (p := _) (PT.setRow Q4.out dX dZ); have P5 := hid (p := _) (P4.out.setRow_other (b' := qb) (by omega) (wc (dts dX ++ dts dZ))); generalize V4.setRow qb (wc (dts dX ++ dts dZ)) = W5 at *; clear F4 X4 P4 Q4))
          go_roundg i
          case measure => omega
          case rel => exact ⟨i, _, by omega, rfl, by go_num, rfl, hid ⟨F5.out, X5.out, by rw [HST2.out]; exact P5.out, by rw [HST2.out]; exact Q5.out⟩⟩
        · obtain rfl : bit = 0 := by omega
          have HT := hid (p := _) (fun W => KT.out st.a st.b hok.a hok.b W)
          have hst2 : dn k X (255 - i) = ⟨dx st.a st.b, dz st.a st.b, sx st.a st.b st.c st.e, sz X st.a st.b st.c st.e, 0⟩ := by rw [HST.out, dstep, if_neg (by omega)]
          have HST2 := hid (p := _) hst2
          clear hst2 HST hok hbit hb1
          generalize st.a = A at *
          generalize st.b = B at *
          generalize st.c = C at *
          generalize st.e = E at *
          generalize sx A B C E = vx at *
          generalize sz X A B C E = vz at *
          generalize dx A B = dX at *
          generalize dz A B = dZ at *
          go_wp2_with (first | (refine wpList_load_pn rfl (.tmp 8) rfl pb A B rfl KP.out ?_) | (refine wpList_load_pn rfl (.tmp 9) rfl qb C E rfl KQ.out ?_) | (refine wpList_load_nd rfl (.tmp 7) rfl xb 0 X rfl (NR.row KX.out) ?_) | (go_at_call 33; with_reducible refine (HS.out _).mono ?_; rintro e V1 ⟨rfl, hF⟩; have F1 := hid (p := _) (KF.out.trans0 hF); have X1 := hid (p := _) (KX.out.fr hF); have P1 := hid (p := _) (KP.out.fr hF); have Q1 := hid (p := _) (KQ.out.fr hF); clear hF KP KQ) | (refine wpList_store_pn rfl (.tmp 11) (.tmp 37) rfl V1.heap.size vx vz #[.int .u64 0, .int .u64 0, .int .u64 0, .int .u64 0, .int .u64 0, .int .u64 0, .int .u64 0, .int .u64 0, .int .u64 0, .int .u64 0, .int .u64 0, .int .u64 0, .int .u64 0, .int .u64 0, .int .u64 0, .int .u64 0, .int .u64 0, .int .u64 0] 66 rfl rfl (HZP.out V1) rfl ?_; have F2 := hid (p := _) ((F1.out.alloc (.cells #[.int .u64 0, .int .u64 0, .int .u64 0, .int .u64 0, .int .u64 0, .int .u64 0, .int .u64 0, .int .u64 0, .int .u64 0, .int .u64 0, .int .u64 0, .int .u64 0, .int .u64 0, .int .u64 0, .int .u64 0, .int .u64 0, .int .u64 0, .int .u64 0] 66)).setRow (g := V1.heap.size) (.inr F1.out.size) (wc (dts vx ++ dts vz))); have X2 := hid (p := _) ((X1.out.alloc (.cells #[.int .u64 0, .int .u64 0, .int .u64 0, .int .u64 0, .int .u64 0, .int .u64 0, .int .u64 0, .int .u64 0, .int .u64 0, .int .u64 0, .int .u64 0, .int .u64 0, .int .u64 0, .int .u64 0, .int .u64 0, .int .u64 0, .int .u64 0, .int .u64 0] 66)).setRow_other (b' := V1.heap.size) (Nat.ne_of_lt X1.out.lt) (wc (dts vx ++ dts vz))); have P2 := hid (p := _) ((P1.out.alloc (.cells #[.int .u64 0, .int .u64 0, .int .u64 0, .int .u64 0, .int .u64 0, .int .u64 0, .int .u64 0, .int .u64 0, .int .u64 0, .int .u64 0, .int .u64 0, .int .u64 0, .int .u64 0, .int .u64 0, .int .u64 0, .int .u64 0, .int .u64 0, .int .u64 0] 66)).setRow_other (b' := V1.heap.size) (Nat.ne_of_lt P1.out.lt) (wc (dts vx ++ dts vz))); have Q2 := hid (p := _) ((Q1.out.alloc (.cells #[.int .u64 0, .int .u64 0, .int .u64 0, .int .u64 0, .int .u64 0, .int .u64 0, .int .u64 0, .int .u64 0, .int .u64 0, .int .u64 0, .int .u64 0, .int .u64 0, .int .u64 0, .int .u64 0, .int .u64 0, .int .u64 0, .int .u64 0, .int .u64 0] 66)).setRow_other (b' := V1.heap.size) (Nat.ne_of_lt Q1.out.lt) (wc (dts vx ++ dts vz))); have S2 := hid (p := _) (PT.setRow (HZP.out V1) vx vz); have hp1 := P1.out.lt; have hq1 := Q1.out.lt; have hx1 := X1.out.lt; generalize (V1.alloc (.cells #[.int .u64 0, .int .u64 0, .int .u64 0, .int .u64 0, .int .u64 0, .int .u64 0, .int .u64 0, .int .u64 0, .int .u64 0, .int .u64 0, .int .u64 0, .int .u64 0, .int .u64 0, .int .u64 0, .int .u64 0, .int .u64 0, .int .u64 0, .int .u64 0] 66)).setRow V1.heap.size (wc (dts vx ++ dts vz)) = W2 at *; clear F1 X1 P1 Q1) | (refine wpList_load_pn rfl (.tmp 11) rfl V1.heap.size vx vz rfl S2.out ?_) | (refine wpList_store_pn rfl (.tmp 9) (.tmp 51) rfl qb vx vz (wc (dts C ++ dts E)) 66 rfl rfl Q2.out (wc18 _ _) ?_; have F3 := hid (p := _) (F2.out.setRow (g := qb) (.inr hqw) (wc (dts vx ++ dts vz))); have X3 := hid (p := _) (X2.out.setRow_other (b' := qb) (by omega) (wc (dts vx ++ dts vz))); have Q3 := hid (p := _) (PT.setRow Q2.out vx vz); have P3 := hid (p := _) (P2.out.setRow_other (b' := qb) (by omega) (wc (dts vx ++ dts vz))); generalize W2.setRow qb (wc (dts vx ++ dts vz)) = W3 at *; clear F2 X2 P2 Q2) | (refine wpList_load_pn rfl (.tmp 8) rfl pb A B rfl P3.out ?_) | (go_at_call 34; with_reducible refine (HT.out _).mono ?_; rintro e V4 ⟨rfl, hF⟩; have F4 := hid (p := _) (F3.out.trans0 hF); have X4 := hid (p := _) (X3.out.fr hF); have P4 := hid (p := _) (P3.out.fr hF); have Q4 := hid (p := _) (Q3.out.fr hF); clear hF F3 X3 P3 Q3) | (refine wpList_store_pn rfl (.tmp 8) (.tmp 53) rfl pb dX dZ (wc (dts A ++ dts B)) 66 rfl rfl P4.out (wc18 _ _) ?_; have F5 := hid (p := _) (F4.out.setRow (g := pb) (.inr hpw) (wc (dts dX ++ dts dZ))); have X5 := hid (p := _) (X4.out.setRow_other (b' := pb) (by omega) (wc (dts dX ++ dts dZ))); have P5 := hid (p := _) (PT.setRow P4.out dX dZ); have Q5 := hid (p := _) (Q4.out.setRow_other (b' := pb) (by omega) (wc (dts dX ++ dts dZ))); generalize V4.setRow pb (wc (dts dX ++ dts dZ)) = W5 at *; clear F4 X4 P4 Q4))
          go_roundg i
          case measure => omega
          case rel => exact ⟨i, _, by omega, rfl, by go_num, rfl, hid ⟨F5.out, X5.out, by rw [HST2.out]; exact P5.out, by rw [HST2.out]; exact Q5.out⟩⟩
      · obtain rfl : j = 0 := by omega
        have hz2 : ¬ (0 : Int) ≤ z := by omega
        have KF := hid (p := _) K.out.1
        have KP := hid (p := _) K.out.2.2.1
        clear K hz
        have HA := hid (p := _) (show ∀ W, (∃ x, W = ext wr x) → NR W pb 0 (dn k X 255).a from fun W h => by obtain ⟨x, rfl⟩ := h; exact KP.out.x.fr (ext_fr _ x))
        have HB := hid (p := _) (show ∀ W, (∃ x, W = ext wr x) → NR W pb 9 (dn k X 255).b from fun W h => by obtain ⟨x, rfl⟩ := h; exact KP.out.z.fr (ext_fr _ x))
        go_wp2_with fail
        refine wp_region_ext (by kernel_rfl) (by kernel_rfl) ?_
        go_big_quiet_step (fail)
        refine wpQuiet_load_nd rfl (.tmp 54) rfl pb 0 (dn k X 255).a rfl HA.out ?_
        simp only [Act.put, List.setIfInBounds_toArray, List.set_cons_zero, List.set_cons_succ]
        go_big_quiet_step (fail)
        refine wpQuiet_load_nd rfl (.tmp 56) rfl pb 9 (dn k X 255).b rfl HB.out ?_
        simp only [Act.put, List.setIfInBounds_toArray, List.set_cons_zero, List.set_cons_succ]
        go_big_quiet_step (with_reducible exact Calls.ext_of (HI.out _))
        go_big_quiet_step (with_reducible exact Calls.ext_of (HM.out _))
        go_big_quiet_step (with_reducible exact Calls.ext_of (HBy.out _))
        go_big_quiet_step (fail)
        refine wpQuiet_nil ?_
        rintro _ ⟨xr, rfl⟩
        go_wp2
        go_ret
        exact ⟨rfl, KF.out.ext xr⟩
end Go.Proofs.YthbkhbfcocbnoaaDoor
