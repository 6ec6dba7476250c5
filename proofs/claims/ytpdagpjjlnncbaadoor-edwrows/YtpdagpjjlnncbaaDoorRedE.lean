/-
  The document's numbers: Bytes, Small, Canonical. No statement is proved here.
-/
import Derived.Test.YtpdagpjjlnncbaaDoorRedC
import Derived.Laws.MakeOwn
namespace Go.Proofs.YtpdagpjjlnncbaaDoor
open Go.RowKit Go.Lib Go.BigFrame
set_option linter.unusedVariables false
set_option linter.unusedSimpArgs false
set_option maxRecDepth 1000000
set_option maxHeartbeats 4000000

/-- A row of bytes in a block of its own. -/
def bc (l : List Nat) : Array Value := (l.map fun x => Value.int .u8 ((x : Nat) : Int)).toArray
def RB (V : World) (b t : Nat) (l : List Nat) : Prop := V.heap[b]? = some (.cells (bc l) t)
section
variable {V V' : World} {b t : Nat} {l : List Nat}
theorem RB.fr (h : RB V b t l) (hF : Fr [] V V') : RB V' b t l := hF.heap h (by simp)
theorem RB.alloc (h : RB V b t l) (o : Obj) : RB (V.alloc o) b t l := h.fr ((Fr.refl [] V).alloc o)
theorem RB.lt (h : RB V b t l) : b < V.heap.size := lt_of_heap h
theorem RB.cell (h : RB V b t l) (i : Nat) (hi : i < l.length) : V.cell? ⟨b, i, none⟩ = some (.int .u8 ((l.getD i 0 : Nat) : Int)) :=
  cell_of_heap h (by simp [bc, hi])
theorem RB.frozen (h : RB V b t l) (i : Nat) : V.frozen? ⟨b, i, none⟩ = false := frozen_of_heap h
theorem RB.set (h : RB V b t l) (i x : Nat) : RB (V.setCell ⟨b, i, none⟩ (.int .u8 ((x : Nat) : Int))) b t (l.set i x) := by
  have h2 := heap_setCell_same V b i _ t (.int .u8 ((x : Nat) : Int)) h
  unfold RB
  rw [h2]
  congr 2
  simp [bc, List.map_set]
theorem RB.other (h : RB V b t l) {p : Addr} (hne : b ≠ p.block) (u : Value) : RB (V.setCell p u) b t l := by
  unfold RB
  rw [heap_setCell_other _ _ _ _ hne]; exact h
theorem RB.ext (h : RB V b t l) (x : World) : RB (Go.Proofs.YtpdagpjjlnncbaaDoor.ext V x) b t l := h.fr (ext_fr V x)
end
def vbl (x : Nat) : List Nat := (List.range 32).map (vb x)
theorem vbl_len (x : Nat) : (vbl x).length = 32 := by simp [vbl]
theorem vbl_get (x i : Nat) (h : i < 32) : (vbl x).getD i 0 = vb x i := by simp [vbl, h]
theorem vb_put (v i j : Nat) : vb (v % 2 ^ (i + 1)) j = vb (v % 2 ^ i) j + if j = i / 8 then v / 2 ^ i % 2 * 2 ^ (i % 8) else 0 := by
  rw [mod_bit]
  have hx := Nat.mod_lt v (Nat.two_pow_pos i)
  generalize v % 2 ^ i = x at *
  rcases Nat.mod_two_eq_zero_or_one (v / 2 ^ i) with h | h
  · rw [h, Nat.mul_zero, Nat.add_zero, Nat.zero_mul]; simp
  · rw [h, Nat.mul_one, Nat.one_mul]
    rw [two_at i 8] at *
    have hp := put_bit (k := 8) (x := x) (q := i / 8) (r := i % 8) (by omega) hx j
    unfold vb
    rw [show (256 : Nat) = 2 ^ 8 from rfl, ← Nat.pow_mul]
    exact hp
theorem vb_room (v i : Nat) : vb (v % 2 ^ i) (i / 8) < 2 ^ (i % 8) := by
  have h := Nat.mod_lt v (Nat.two_pow_pos i)
  rw [show ∀ a : Nat, (a < 2 ^ i) = (a < 2 ^ (8 * (i / 8)) * 2 ^ (i % 8)) from fun a => by rw [← two_at]] at h
  unfold vb
  rw [show (256 : Nat) ^ (i / 8) = 2 ^ (8 * (i / 8)) from by rw [Nat.pow_mul]]
  exact Nat.lt_of_le_of_lt (Nat.mod_le _ _) (Nat.div_lt_of_lt_mul h)
theorem vbl_set (v i : Nat) : (vbl (v % 2 ^ i)).set (i / 8) (vb (v % 2 ^ (i + 1)) (i / 8)) = vbl (v % 2 ^ (i + 1)) := by
  apply List.ext_getElem
  · simp [vbl]
  · intro j h1 h2
    rw [List.getElem_set]
    simp only [vbl, List.getElem_map, List.getElem_range]
    split
    · rename_i e; subst e; rfl
    · rename_i e; rw [vb_put, if_neg (fun h => e h.symm), Nat.add_zero]
theorem or8 : ∀ (b : Fin 2) (r : Fin 8) (d : Fin 256), d.1 < 2 ^ r.1 → bits .or .u8 ((d.1 : Nat) : Int) (IntKind.u8.wrap (((b.1 : Nat) : Int) * 2 ^ r.1)) = ((d.1 + b.1 * 2 ^ r.1 : Nat) : Int) := by decide +kernel
theorem vb_lt (v j : Nat) : vb v j < 256 := Nat.mod_lt _ (by decide)
theorem vb_or (v i : Nat) : bits .or .u8 ((vb (v % 2 ^ i) (i / 8) : Nat) : Int) (IntKind.u8.wrap (((v / 2 ^ i % 2 : Nat) : Int) * 2 ^ (i % 8))) = ((vb (v % 2 ^ (i + 1)) (i / 8) : Nat) : Int) := by
  rw [vb_put, if_pos rfl]
  exact or8 ⟨v / 2 ^ i % 2, Nat.mod_lt _ (by decide)⟩ ⟨i % 8, Nat.mod_lt _ (by decide)⟩ ⟨_, vb_lt _ _⟩ (vb_room v i)
theorem and_one64 (a : Nat) (ha : a < 18446744073709551616) : bits .and .u64 (a : Int) 1 = ((a % 2 : Nat) : Int) := by
  have h := bits_and_u64_nat a 1 ha (by decide)
  rw [nat_mask1] at h
  exact h
theorem conv_rb {V : World} {b v : Nat} (h : RB V b 5 (vbl v)) : (convert 61 9 (.slice (some ⟨b, 0, none⟩) 32 32)).run Tryd.prog V = .ok (.string (by32 v)) V := by
  rw [run_convert_bytes_string V 61 9 5 _ _ _ (by kernel_rfl) (by kernel_rfl) (by kernel_rfl)]
  refine run_bytesToString V _ 32 32 (vbs v) ?_
  have hl : ((vbs v).map (Value.int .u8)).length = 32 := by simp [vbs]
  have := run_loadCells_list (P := Tryd.prog) (w := V) ⟨b, 0, none⟩ ((vbs v).map (Value.int .u8)) (fun j u hu => by
    have hj : j < 32 := by
      rcases Nat.lt_or_ge j 32 with h | h
      · exact h
      · rw [List.getElem?_eq_none (by omega)] at hu; cases hu
    have hadd : (⟨b, 0, none⟩ : Addr).add j = ⟨b, j, none⟩ := by unfold Addr.add; split <;> simp_all
    rw [hadd, h.cell j (by rw [vbl_len]; exact hj), vbl_get _ _ hj, ← hu]
    simp [vbs, hj])
  rw [hl] at this
  exact this
theorem pow_mod256 {v : Nat} (h : v < 2 ^ 256) : v % 2 ^ 256 = v := mod_pow_of 256 h
theorem infoOf {P : Program} {t : TypeId} {z : Option Value} {s b : Nat} (h : (P.info? t).map (fun i => (i.zero, i.size, i.bytes)) = some (z, s, b)) : ∃ i, P.info? t = some i ∧ i.zero = z ∧ i.size = s ∧ i.bytes = b := by
  cases hi : P.info? t with
  | none => rw [hi] at h; simp at h
  | some i => rw [hi] at h; simp at h; exact ⟨i, rfl, h.1, h.2.1, h.2.2⟩
theorem info5 : ∃ i, Tryd.prog.info? 5 = some i ∧ i.zero = some (.int .u8 0) ∧ i.size = 1 ∧ i.bytes = 1 := infoOf (by kernel_rfl)
theorem made32 : madeCells #[.int .u8 0] 32 = bc (vbl 0) := by kernel_rfl
theorem make32 (w : World) : (Instr.makeSlice 61 (.int .i64 32) (.int .i64 32)).run Tryd.prog w = .ok (.slice (some ⟨w.heap.size, 0, none⟩) 32 32) (w.alloc (.cells (bc (vbl 0)) 5)) := by
  obtain ⟨i, hi, hz, hs, hb⟩ := info5
  have := run_make (P := Tryd.prog) w 61 5 i (.int .u8 0) (by kernel_rfl) hi hz .i64 .i64 32 32 (by omega) (by omega) (by rw [hb]; omega) (by omega)
  rw [← made32]
  simpa [hs, Value.cells] using this
theorem rbytes_any (v : Nat) (hv : v < 115792089237316195423570985008687907853269984665640564039457584007913129639936) (w : World) : Calls Tryd.prog 61 #[nd v] w fun e w' => e = .returned (.string (by32 v)) ∧ Fr [] w w' := by
  have hvp := pow_mod256 hv
  obtain ⟨a0, a1, a2, a3, a4, a5, a6, a7, a8, ea, wa⟩ := nd_open v
  rw [wa]
  have HA := hid (p := _) ea
  have HV := hid (p := _) hvp
  clear wa ea hvp hv
  have hmk := make32
  go_enter Tryd.func61, Tryd.ntmps61
  go_wp2_with fail
  go_loopg [4] 256 (fun gk q wr => ∃ i : Nat, i ≤ 256 ∧ gk = 256 - i ∧ q = .int .i64 i ∧ Hid (Fr [] w wr ∧ RW wr w.heap.size 34 (dts v) ∧ RB wr (w.heap.size + 1) 5 (vbl (v % 2 ^ i))))
  case atStart =>
    refine ⟨0, Nat.zero_le _, rfl, rfl, hid ⟨((Fr.refl [] w).alloc _).alloc _, ?_, ?_⟩⟩
    · rw [HA.out]; exact (RW.of9 (heap_new0 w _)).alloc _
    · rw [Nat.pow_zero, Nat.mod_one]
      exact heap_new1 w _ _
  case round =>
    obtain ⟨i, hi, hgk, rfl, K⟩ := hrel
    by_cases hlt : i < 256
    · have hlt' : (i : Int) < 256 := by omega
      have h9 : i / 30 < 9 := by omega
      have h32 : i / 8 < 32 := by omega
      have hbit := dt_bit v i
      have hd := dt_lt v (i / 30)
      have c1 := K.out.2.1.cell (i / 30) (by rw [dts_len]; exact h9)
      rw [dts_get _ _ h9] at c1
      have c2 := K.out.2.2.cell (i / 8) (by rw [vbl_len]; exact h32)
      rw [vbl_get _ _ h32] at c2
      have g2 := K.out.2.2.frozen (i / 8)
      have l1 := K.out.2.1.lt
      have l2 := K.out.2.2.lt
      have f1 : bits .and .u64 ((dt v (i / 30) : Int) / 2 ^ (i % 30)) 1 = ((v / 2 ^ i % 2 : Nat) : Int) := by
        have e : ((dt v (i / 30) : Int) / 2 ^ (i % 30)) = ((dt v (i / 30) / 2 ^ (i % 30) : Nat) : Int) := by rw [Int.natCast_ediv, Int.natCast_pow]; rfl
        rw [e, ← hbit]
        exact and_one64 _ (Nat.lt_of_le_of_lt (Nat.div_le_self _ _) (by omega))
      have f2 : IntKind.u8.wrap ((v / 2 ^ i % 2 : Nat) : Int) = ((v / 2 ^ i % 2 : Nat) : Int) := by rw [IntKind.wrap_u8']; omega
      have f3 := vb_or v i
      rw [IntKind.wrap_u8'] at f3
      have KN := hid (p := _) (fun x => (K.out.2.2.ext x).set (i / 8) (vb (v % 2 ^ (i + 1)) (i / 8)))
      rw [vbl_set] at KN
      have KF := hid (p := _) K.out.1
      have KA := hid (p := _) K.out.2.1
      clear K hbit hd
      generalize vb (v % 2 ^ (i + 1)) (i / 8) = z at *
      generalize vb (v % 2 ^ i) (i / 8) = y at *
      generalize v / 2 ^ i % 2 = bt at *
      generalize dt v (i / 30) = x at *
      go_wp2_with fail
      refine wp_region_last_ext [_, _, _, _, _, _, _, _, _, _, _, _, _, _, _, _, _, _, _, _, _, _, _, _] _ (by kernel_rfl) (by kernel_rfl) (by kernel_rfl) (by kernel_rfl) (by kernel_rfl) ?_
      simp only [List.cons_append, List.nil_append, idle]
      repeat (go_big_quiet_step (fail))
      refine wpQuiet_nil ?_
      rintro _ ⟨xq, rfl⟩
      go_simp
      go_wp2_with fail
      go_roundg (256 - (i + 1))
      case measure => omega
      case rel =>
        exact ⟨i + 1, by omega, rfl, by go_num, hid ⟨(KF.out.ext xq).setCell (.inr (by show w.heap.size ≤ w.heap.size + 1; omega)) _, (KA.out.ext xq).other (by show w.heap.size ≠ w.heap.size + 1; omega) _, KN.out xq⟩⟩
    · obtain rfl : i = 256 := by omega
      have C := K.out.2.2
      rw [HV.out] at C
      have hconv := conv_rb C
      have F := K.out.1
      clear K C
      go_wp2_with fail
      go_ret
      exact ⟨rfl, F⟩

theorem rsmall_any (n : Nat) (hn : n < 4294967296) (w : World) : Calls Tryd.prog 37 #[.int .u32 (n : Nat)] w fun e w' => e = .returned (nd n) ∧ Fr [] w w' := by
  have e : nd n = .agg #[.int .u64 ((n % 1073741824 : Nat) : Int), .int .u64 ((n / 1073741824 : Nat) : Int), .int .u64 0, .int .u64 0, .int .u64 0, .int .u64 0, .int .u64 0, .int .u64 0, .int .u64 0] := by
    have d0 : dt n 0 = n % 1073741824 := by unfold dt; rw [Nat.mul_zero, Nat.pow_zero, Nat.div_one]
    have d1 : dt n 1 = n / 1073741824 := by unfold dt; rw [show 2 ^ (30 * 1) = 1073741824 from rfl]; omega
    have dk : ∀ k, 2 ≤ k → dt n k = 0 := fun k hk => by
      unfold dt
      have h2 : 2 ^ 32 ≤ 2 ^ (30 * k) := Nat.pow_le_pow_right (by decide) (by omega)
      rw [Nat.div_eq_of_lt (by omega)]
    show Value.agg #[.int .u64 (dt n 0 : Nat), .int .u64 (dt n 1 : Nat), .int .u64 (dt n 2 : Nat), .int .u64 (dt n 3 : Nat), .int .u64 (dt n 4 : Nat), .int .u64 (dt n 5 : Nat), .int .u64 (dt n 6 : Nat), .int .u64 (dt n 7 : Nat), .int .u64 (dt n 8 : Nat)] = _
    rw [d0, d1, dk 2 (by omega), dk 3 (by omega), dk 4 (by omega), dk 5 (by omega), dk 6 (by omega), dk 7 (by omega), dk 8 (by omega)]
    rfl
  have f1 := and30 n (by omega)
  have f2 : (n : Int) / 1073741824 = ((n / 1073741824 : Nat) : Int) := by omega
  have f3 : IntKind.u64.wrap (n : Int) = (n : Int) := wrapN n (by omega)
  rw [e]
  clear e
  generalize n % 1073741824 = x at *
  generalize n / 1073741824 = y at *
  clear hn
  go_enter Tryd.func37, Tryd.ntmps37
  go_wp2_with fail
  simp [bodyPost, results, Tryd.results37, go_sem, *]
  exact (Fr.refl [] w).alloc _

theorem rcanon_yes (s : ByteArray) (hs : s.size = 32) (w : World) : Calls Tryd.prog 34 #[.string s] w fun e w' => e = .returned (.bool (decide (rd s 32 < Nt.P))) ∧ Fr [] w w' := by
  have K1 := hid (p := _) (fun W => rread_any s hs W)
  have K2 := hid (p := _) (fun W => prime_any W)
  have K3 := hid (p := _) (fun W => rless_any (rd s 32) Nt.P (big_of4 (rd_lt4 s)) bigP W)
  have hsi : (s.size : Int) = 32 := by omega
  clear hs
  generalize decide (rd s 32 < Nt.P) = r at *
  generalize nd (rd s 32) = v at *
  generalize nd Nt.P = u at *
  have F := hid (p := _) (Fr.refl [] w)
  go_enter Tryd.func34, Tryd.ntmps34
  go_wp2_with (first | (go_at_call 69; with_reducible refine (K1.out _).mono ?_; rintro e V1 ⟨rfl, hF⟩; have F1 := hid (p := _) (F.out.trans0 hF); clear hF) | (go_at_call 70; with_reducible refine (K2.out _).mono ?_; rintro e V2 ⟨rfl, hF⟩; have F2 := hid (p := _) (F1.out.trans0 hF); clear hF) | (go_at_call 68; with_reducible refine (K3.out _).mono ?_; rintro e V3 ⟨rfl, hF⟩; have F3 := hid (p := _) (F2.out.trans0 hF); clear hF))
  go_ret
  exact ⟨rfl, F3.out⟩
theorem rcanon_no (s : ByteArray) (hs : s.size ≠ 32) (w : World) : Calls Tryd.prog 34 #[.string s] w fun e w' => e = .returned (.bool false) ∧ Fr [] w w' := by
  have hsi : ¬ (s.size : Int) = 32 := by omega
  go_enter Tryd.func34, Tryd.ntmps34
  go_wp2_with fail
  go_ret
  exact ⟨rfl, Fr.refl [] w⟩

end Go.Proofs.YtpdagpjjlnncbaaDoor
