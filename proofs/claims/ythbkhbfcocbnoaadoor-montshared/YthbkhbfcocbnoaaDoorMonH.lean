/-
  Package mont: times. No statement is proved here.
-/
import Derived.Test.YthbkhbfcocbnoaaDoorMonG
namespace Go.Proofs.YthbkhbfcocbnoaaDoor
open Go.RowKit Go.Lib Go.BigFrame
set_option linter.unusedVariables false
set_option linter.unusedSimpArgs false
set_option maxRecDepth 1000000
set_option maxHeartbeats 4000000

theorem L4.setRow_other {V : World} {b b' t : Nat} {v0 v1 v2 v3 : Value} (h : L4 V b t v0 v1 v2 v3) (hne : b ≠ b') (c : Array Value) : L4 (V.setRow b' c) b t v0 v1 v2 v3 := by
  unfold L4
  rw [Go.setRow_other V b' b c hne]; exact h
theorem L4.frS {S : List Nat} {V V' : World} {b t : Nat} {v0 v1 v2 v3 : Value} (h : L4 V b t v0 v1 v2 v3) (hF : Fr S V V') (hb : b ∉ S) : L4 V' b t v0 v1 v2 v3 := hF.heap h hb
theorem lc_wf {X A B C E : Nat} (tt : Nat) (hX : X < Nt.P) (hA : A < Nt.P) (hB : B < Nt.P) (hC : C < Nt.P) (hE : E < Nt.P) : (lc X A B C E tt).size = 21 ∧ (lc X A B C E tt).all (·.oneCell') = true := by
  obtain ⟨x0, x1, x2, x3, -, -, -, -, -, wx⟩ := wd_open X (lt4 hX)
  obtain ⟨a0, a1, a2, a3, -, -, -, -, -, wa⟩ := wd_open A (lt4 hA)
  obtain ⟨b0, b1, b2, b3, -, -, -, -, -, wb⟩ := wd_open B (lt4 hB)
  obtain ⟨c0, c1, c2, c3, -, -, -, -, -, wc⟩ := wd_open C (lt4 hC)
  obtain ⟨e0, e1, e2, e3, -, -, -, -, -, we⟩ := wd_open E (lt4 hE)
  rw [lc_of wx wa wb wc we]
  exact ⟨rfl, by kernel_rfl⟩
theorem turn_any (b' X A B C E tt bit : Nat) (hX : X < Nt.P) (hA : A < Nt.P) (hB : B < Nt.P) (hC : C < Nt.P) (hE : E < Nt.P) (w : World) (hP : PV w) (hb0 : 0 < b') (hL : LD w b' X A B C E tt) : Calls Tryd.prog 25 #[.pointer (some ⟨b', 0, none⟩), .int .u8 (bit : Nat)] w fun e w' => e = .returned (.tuple #[]) ∧ Fr [b'] w w' ∧ LD w' b' X (if bit = tt then A else C) (if bit = tt then B else E) (if bit = tt then C else A) (if bit = tt then E else B) bit := by
  by_cases h : bit = tt
  · subst h
    simp only [if_true]
    exact turn_same b' X A B C E bit hX hA hB hC hE w hP hb0 hL
  · simp only [h, if_false]
    exact turn_diff b' X A B C E tt bit hX hA hB hC hE h w hP hb0 hL
/-- Where a ladder stands. -/
structure St where
  a : Nat
  b : Nat
  c : Nat
  e : Nat
  t : Nat
structure St.Ok (s : St) : Prop where
  a : s.a < Nt.P
  b : s.b < Nt.P
  c : s.c < Nt.P
  e : s.e < Nt.P
/-- Both points change places, unless they stand so. -/
def St.tn (s : St) (bit : Nat) : St := ⟨if bit = s.t then s.a else s.c, if bit = s.t then s.b else s.e, if bit = s.t then s.c else s.a, if bit = s.t then s.e else s.b, bit⟩
def St.cl (X : Nat) (s : St) : St := ⟨dx s.a s.b, dz s.a s.b, sx s.a s.b s.c s.e, sz X s.a s.b s.c s.e, s.t⟩
theorem St.Ok.tn {s : St} (h : s.Ok) (bit : Nat) : (s.tn bit).Ok := by
  unfold St.tn
  by_cases e : bit = s.t
  · simp only [e, if_true]; exact ⟨h.a, h.b, h.c, h.e⟩
  · simp only [e, if_false]; exact ⟨h.c, h.e, h.a, h.b⟩
theorem St.Ok.cl {s : St} (X : Nat) : (St.cl X s).Ok := ⟨dx_lt _ _, dz_lt _ _, sx_lt _ _ _ _, sz_lt _ _ _ _ _⟩
def SL (V : World) (b' X : Nat) (s : St) : Prop := LD V b' X s.a s.b s.c s.e s.t
/-- The ladder behind k bits of a text, from the bit 254 down. -/
def rn (s : ByteArray) (X : Nat) : Nat → St
  | 0 => ⟨1, 0, X, 1, 0⟩
  | k + 1 => St.cl X ((rn s X k).tn (bx s (254 - k)))
theorem rn_ok (s : ByteArray) {X : Nat} (hX : X < Nt.P) : ∀ k, (rn s X k).Ok
  | 0 => ⟨one_lt, zero_lt, hX, one_lt⟩
  | k + 1 => St.Ok.cl X
/-- What times makes. -/
def lad (s : ByteArray) (X : Nat) : Nat := mq ((rn s X 255).tn 0).a (iv ((rn s X 255).tn 0).b)
theorem lad_lt (s : ByteArray) (X : Nat) : lad s X < Nt.P := ml_lt _ _
theorem ladder_any (s : ByteArray) (hs : s.size = 32) (X : Nat) (hX : X < Nt.P) (w : World) (hP : PV w) : Calls Tryd.prog 16 #[.string s, wd X] w fun e w' => e = .returned (wd (lad s X)) ∧ Fr [] w w' := by
  have hP2 := hid (p := _) hP
  have K0 := fun W hW => begin_any X hX W hW
  have KT := hid (p := _) (fun b' (st : St) bit (hok : st.Ok) W hW h0 (hl : SL W b' X st) => turn_any b' X st.a st.b st.c st.e st.t bit hX hok.a hok.b hok.c hok.e W hW h0 hl)
  have KC := hid (p := _) (fun b' (st : St) (hok : st.Ok) W hW h0 (hl : SL W b' X st) => climb_any b' X st.a st.b st.c st.e st.t hX hok.a hok.b hok.c hok.e W hW h0 hl)
  have HOK := hid (p := _) (fun k => rn_ok s hX k)
  have hok2 := (rn_ok s hX 255).tn 0
  have KI := fun W hW => inv_any ((rn s X 255).tn 0).b hok2.b W hW
  have KM : ∀ W, PV W → Calls Tryd.prog 27 #[wd ((rn s X 255).tn 0).a, wd (iv ((rn s X 255).tn 0).b)] W fun e w' => e = .returned (wd (lad s X)) ∧ Fr [] W w' := fun W hW => mul_ml _ _ hok2.a (Nat.mod_lt _ P_pos) W hW
  obtain ⟨x0, x1, x2, x3, -, -, -, -, -, wx⟩ := wd_open X (lt4 hX)
  obtain ⟨a0, a1, a2, a3, -, -, -, -, -, wa⟩ := wd_open ((rn s X 255).tn 0).a (lt4 hok2.a)
  obtain ⟨b0, b1, b2, b3, -, -, -, -, -, wb⟩ := wd_open ((rn s X 255).tn 0).b (lt4 hok2.b)
  obtain ⟨c0, c1, c2, c3, -, -, -, -, -, wc⟩ := wd_open ((rn s X 255).tn 0).c (lt4 hok2.c)
  obtain ⟨e0, e1, e2, e3, -, -, -, -, -, we⟩ := wd_open ((rn s X 255).tn 0).e (lt4 hok2.e)
  obtain ⟨z0, z1, z2, z3, -, -, -, -, -, wz⟩ := wd_open (lad s X) (lt4 (lad_lt _ _))
  have HI := hid (p := _) (fun W b' => (LD.iff (V := W) (b' := b') (tt := 0) wx wa wb wc we).1)
  obtain ⟨hlc1, hlc2⟩ := lc_wf 0 hX one_lt zero_lt hX one_lt
  have HZ := hid (p := _) (show ∀ V : World, (V.alloc (.cells #[.int .u64 0, .int .u64 0, .int .u64 0, .int .u64 0, .int .u64 0, .int .u64 0, .int .u64 0, .int .u64 0, .int .u64 0, .int .u64 0, .int .u64 0, .int .u64 0, .int .u64 0, .int .u64 0, .int .u64 0, .int .u64 0, .int .u64 0, .int .u64 0, .int .u64 0, .int .u64 0, .int .u8 0] 57)).heap[V.heap.size]? = some (.cells #[.int .u64 0, .int .u64 0, .int .u64 0, .int .u64 0, .int .u64 0, .int .u64 0, .int .u64 0, .int .u64 0, .int .u64 0, .int .u64 0, .int .u64 0, .int .u64 0, .int .u64 0, .int .u64 0, .int .u64 0, .int .u64 0, .int .u64 0, .int .u64 0, .int .u64 0, .int .u64 0, .int .u8 0] 57) from fun V => (MapKept.heap_alloc V _).1)
  have HLV := hid (p := _) (show ∀ V : World, SL ((V.alloc (.cells #[.int .u64 0, .int .u64 0, .int .u64 0, .int .u64 0, .int .u64 0, .int .u64 0, .int .u64 0, .int .u64 0, .int .u64 0, .int .u64 0, .int .u64 0, .int .u64 0, .int .u64 0, .int .u64 0, .int .u64 0, .int .u64 0, .int .u64 0, .int .u64 0, .int .u64 0, .int .u64 0, .int .u8 0] 57)).setRow V.heap.size (lc X 1 0 X 1 0)) V.heap.size X (rn s X 0) from fun V => setRow_heap _ V.heap.size _ _ _ _ (HZ.out V))
  have HI57 := hid (p := _) (show (Tryd.prog.info? 57).map (·.size) = some (lc X 1 0 X 1 0).size by rw [hlc1]; kernel_rfl)
  have HS57 := hid (p := _) (show (#[.int .u64 0, .int .u64 0, .int .u64 0, .int .u64 0, .int .u64 0, .int .u64 0, .int .u64 0, .int .u64 0, .int .u64 0, .int .u64 0, .int .u64 0, .int .u64 0, .int .u64 0, .int .u64 0, .int .u64 0, .int .u64 0, .int .u64 0, .int .u64 0, .int .u64 0, .int .u64 0, .int .u8 0] : Array Value).size = (lc X 1 0 X 1 0).size by rw [hlc1]; rfl)
  have HO57 := hid (p := _) hlc2
  clear hlc1 hlc2
  rw [wz]
  rw [wx] at K0
  rw [wb] at KI
  rw [wa, wz] at KM
  rw [wx]
  generalize wd (iv ((rn s X 255).tn 0).b) = g1 at *
  have H0 := hid (p := _) K0
  have H1 := hid (p := _) KI
  have H2 := hid (p := _) KM
  have hsi : (s.size : Int) = 32 := by omega
  have hz0 := hid (p := _) hP.size
  clear K0 KI KM wx wa wb wc we wz hX hP hok2
  unfold lv at H0
  go_enter Tryd.func16, Tryd.ntmps16
  go_wp2_with (first | (go_at_call 24; with_reducible refine (H0.out _ (hP2.out.fr (((Fr.refl [] w).alloc _).alloc _))).mono ?_; rintro e V ⟨rfl, hF⟩; have F1 := hid (p := _) ((((Fr.refl [] w).alloc _).alloc _).trans0 hF); have R1 := hid (p := _) ((L4.new1 w _ 43 _ _ _ _).fr hF); clear hF) | (refine wpList_store_row rfl 57 (.tmp 5) (.tmp 8) rfl V.heap.size (lc X 1 0 X 1 0) rfl rfl 57 #[.int .u64 0, .int .u64 0, .int .u64 0, .int .u64 0, .int .u64 0, .int .u64 0, .int .u64 0, .int .u64 0, .int .u64 0, .int .u64 0, .int .u64 0, .int .u64 0, .int .u64 0, .int .u64 0, .int .u64 0, .int .u64 0, .int .u64 0, .int .u64 0, .int .u64 0, .int .u64 0, .int .u8 0] (HZ.out V) HI57.out HS57.out HO57.out ?_))
  have F2 := hid (p := _) ((F1.out.alloc (.cells #[.int .u64 0, .int .u64 0, .int .u64 0, .int .u64 0, .int .u64 0, .int .u64 0, .int .u64 0, .int .u64 0, .int .u64 0, .int .u64 0, .int .u64 0, .int .u64 0, .int .u64 0, .int .u64 0, .int .u64 0, .int .u64 0, .int .u64 0, .int .u64 0, .int .u64 0, .int .u64 0, .int .u8 0] 57)).setRow (g := V.heap.size) (.inr F1.out.size) (lc X 1 0 X 1 0))
  have hR1 : w.heap.size + 1 < V.heap.size := lt_of_heap R1.out
  have R2 := hid (p := _) ((R1.out.alloc (.cells #[.int .u64 0, .int .u64 0, .int .u64 0, .int .u64 0, .int .u64 0, .int .u64 0, .int .u64 0, .int .u64 0, .int .u64 0, .int .u64 0, .int .u64 0, .int .u64 0, .int .u64 0, .int .u64 0, .int .u64 0, .int .u64 0, .int .u64 0, .int .u64 0, .int .u64 0, .int .u64 0, .int .u8 0] 57)).setRow_other (b' := V.heap.size) (Nat.ne_of_lt hR1) (lc X 1 0 X 1 0))
  have S2 := hid (p := _) (HLV.out V)
  generalize (V.alloc (.cells #[.int .u64 0, .int .u64 0, .int .u64 0, .int .u64 0, .int .u64 0, .int .u64 0, .int .u64 0, .int .u64 0, .int .u64 0, .int .u64 0, .int .u64 0, .int .u64 0, .int .u64 0, .int .u64 0, .int .u64 0, .int .u64 0, .int .u64 0, .int .u64 0, .int .u64 0, .int .u64 0, .int .u8 0] 57)).setRow V.heap.size (lc X 1 0 X 1 0) = U at *
  have hw1 : w.heap.size ≤ V.heap.size := F1.out.size
  have hb1 : 0 < V.heap.size := by have := hz0.out; omega
  clear F1 R1 HLV HZ HI57 HS57 HO57 H0
  generalize V.heap.size = lb at *
  try simp only [Act.put, List.setIfInBounds_toArray, List.set_cons_zero, List.set_cons_succ]
  go_wp2_with fail
  go_loopg [6] 255 (fun gk q wr => ∃ (k : Nat) (z : Int), k ≤ 255 ∧ gk = k ∧ q = .int .i64 z ∧ z = (k : Int) - 1 ∧ Hid (Fr [] w wr ∧ SL wr lb X (rn s X (255 - k)) ∧ L4 wr (w.heap.size + 1) 43 (.int .u64 0) (.int .u64 0) (.int .u64 0) (.int .u64 0)))
  case atStart => exact ⟨255, _, Nat.le_refl _, rfl, rfl, by first | go_num | omega, hid ⟨F2.out, S2.out, R2.out⟩⟩
  case round =>
    clear F2 S2 R2
    obtain ⟨k, z, hk, hgk, rfl, hz, K⟩ := hrel
    by_cases hk0 : 0 < k
    · obtain ⟨i, rfl⟩ : ∃ i, k = i + 1 := ⟨k - 1, by omega⟩
      obtain rfl : z = (i : Int) := by omega
      clear hz
      have hi8 : i / 8 < s.size := by omega
      have h1 := byt_get s (i / 8) hi8
      have f1 := bt_bits s i
      have hst : rn s X (255 - i) = St.cl X ((rn s X (255 - (i + 1))).tn (bx s i)) := by
        rw [show 255 - i = 255 - (i + 1) + 1 by omega]
        show St.cl X ((rn s X (255 - (i + 1))).tn (bx s (254 - (255 - (i + 1))))) = _
        rw [show 254 - (255 - (i + 1)) = i by omega]
      have HST := hid (p := _) hst
      have HOKi := hid (p := _) (HOK.out (255 - (i + 1)))
      have KF := hid (p := _) K.out.1
      have KS := hid (p := _) K.out.2.1
      have KR := hid (p := _) K.out.2.2
      clear K hst
      generalize rn s X (255 - (i + 1)) = st at *
      generalize bx s i = bit at *
      generalize byt s (i / 8) = B8 at *
      go_wp2_with fail
      with_reducible refine (KT.out lb st bit HOKi.out _ (hP2.out.fr KF.out) hb1 KS.out).mono ?_
      rintro e V1 ⟨rfl, hF, hS⟩
      have F3 := hid (p := _) (KF.out.trans hF (fun t ht => .inr (by simp at ht; omega)))
      have S3 := hid (p := _) (show SL V1 lb X (st.tn bit) from hS)
      have R3 := hid (p := _) (KR.out.frS hF (by simp; omega))
      clear hF hS
      go_wp2_with fail
      with_reducible refine (KC.out lb (st.tn bit) (HOKi.out.tn bit) _ (hP2.out.fr F3.out) hb1 S3.out).mono ?_
      rintro e V2 ⟨rfl, hF, hS⟩
      have F4 := hid (p := _) (F3.out.trans hF (fun t ht => .inr (by simp at ht; omega)))
      have S4 := hid (p := _) (show SL V2 lb X (St.cl X (st.tn bit)) from hS)
      have R4 := hid (p := _) (R3.out.frS hF (by simp; omega))
      clear hF hS
      go_wp2_with fail
      go_roundg i
      case measure => omega
      case rel => exact ⟨i, _, by omega, rfl, by go_num, rfl, hid ⟨F4.out, by rw [HST.out]; exact S4.out, R4.out⟩⟩
    · obtain rfl : k = 0 := by omega
      have hz2 : ¬ (0 : Int) ≤ z := by omega
      have KF := hid (p := _) K.out.1
      have KS := hid (p := _) K.out.2.1
      have KR := hid (p := _) K.out.2.2
      have HOKi := hid (p := _) (HOK.out 255)
      clear K hz
      go_wp2_with fail
      have KT0 : Calls Tryd.prog 25 #[.pointer (some ⟨lb, 0, none⟩), .int .u8 0] wr fun e w' => e = .returned (.tuple #[]) ∧ Fr [lb] wr w' ∧ SL w' lb X ((rn s X 255).tn 0) := KT.out lb (rn s X 255) 0 HOKi.out _ (hP2.out.fr KF.out) hb1 KS.out
      with_reducible refine KT0.mono ?_
      rintro e V1 ⟨rfl, hF, hS⟩
      have F3 := hid (p := _) (KF.out.trans hF (fun t ht => .inr (by simp at ht; omega)))
      have S3 := HI.out V1 lb hS
      have R3 := hid (p := _) (KR.out.frS hF (by simp; omega))
      clear hF hS KT0
      go_wp2_with fail
      obtain ⟨_, _, _, _, _, _, _, _, _, _, _, _, _, _, _, _⟩ := S3.low
      have hl3 := S3.lt
      clear S3
      refine wp_region_tail_ext [_, _, _, _, _, _, _, _] [_] (by simp) (by kernel_rfl) (by kernel_rfl) (by kernel_rfl) (by kernel_rfl) (by kernel_rfl) ?_
      simp only [List.cons_append, List.nil_append, List.map_cons, List.map_nil, idle]
      repeat (go_big_quiet_step (first | with_reducible exact Calls.ext_of (H1.out _ (hP2.out.fr (F3.out.ext _))) | with_reducible exact Calls.ext_of (H2.out _ (hP2.out.fr (F3.out.ext _)))))
      refine wpQuiet_nil ?_
      rintro _ ⟨xr, rfl⟩
      have F6 := hid (p := _) (F3.out.ext xr)
      have R6 := R3.out.fr (ext_fr V1 xr)
      have R7 := R6.set4 (.int .u64 (z0 : Nat)) (.int .u64 (z1 : Nat)) (.int .u64 (z2 : Nat)) (.int .u64 (z3 : Nat))
      obtain ⟨_, _, _, _, _, _, _, _, _, _⟩ := R6.all
      simp only [tailWp]
      go_simp
      go_wp2
      simp [bodyPost, results, Tryd.results16, go_sem, *]
      exact F6.out.set4 (by omega) _ _ _ _
end Go.Proofs.YthbkhbfcocbnoaaDoor
