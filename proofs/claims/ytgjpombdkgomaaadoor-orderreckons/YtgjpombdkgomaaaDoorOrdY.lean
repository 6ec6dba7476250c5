/-
  The document's MulAdd (pharosref07): its walk. No statement is proved here.
-/
import Derived.Test.YtgjpombdkgomaaaDoorOrdX
namespace Go.Proofs.YtgjpombdkgomaaaDoor
open Go.RowKit Go.Lib Go.BigFrame
set_option linter.unusedVariables false
set_option linter.unusedSimpArgs false
set_option maxRecDepth 1000000
set_option maxHeartbeats 4000000

/-- A row of ints in a block of its own. -/
def ic (l : List Nat) : Array Value := (l.map fun x => Value.int .i64 ((x : Nat) : Int)).toArray
def RI (V : World) (b t : Nat) (l : List Nat) : Prop := V.heap[b]? = some (.cells (ic l) t)
section
variable {V V' : World} {b t : Nat} {l : List Nat}
theorem RI.fr (h : RI V b t l) (hF : Fr [] V V') : RI V' b t l := hF.heap h (by simp)
theorem RI.alloc (h : RI V b t l) (o : Obj) : RI (V.alloc o) b t l := h.fr ((Fr.refl [] V).alloc o)
theorem RI.lt (h : RI V b t l) : b < V.heap.size := lt_of_heap h
theorem RI.cell (h : RI V b t l) (i : Nat) (hi : i < l.length) : V.cell? ⟨b, i, none⟩ = some (.int .i64 ((l.getD i 0 : Nat) : Int)) :=
  cell_of_heap h (by simp [ic, hi])
theorem RI.frozen (h : RI V b t l) (i : Nat) : V.frozen? ⟨b, i, none⟩ = false := frozen_of_heap h
theorem RI.set (h : RI V b t l) (i x : Nat) : RI (V.setCell ⟨b, i, none⟩ (.int .i64 ((x : Nat) : Int))) b t (l.set i x) := by
  have h2 := heap_setCell_same V b i _ t (.int .i64 ((x : Nat) : Int)) h
  unfold RI
  rw [h2]
  congr 2
  simp [ic, List.map_set]
theorem RI.other (h : RI V b t l) {p : Addr} (hne : b ≠ p.block) (u : Value) : RI (V.setCell p u) b t l := by
  unfold RI
  rw [heap_setCell_other _ _ _ _ hne]; exact h
theorem RI.ext (h : RI V b t l) (x : World) : RI (Go.Proofs.YtgjpombdkgomaaaDoor.ext V x) b t l := h.fr (ext_fr V x)
end
theorem RI.zero (w : World) (t : Nat) : RI (w.alloc (.cells (ic (List.replicate 65 0)) t)) w.heap.size t (List.replicate 65 0) := (MapKept.heap_alloc w _).1
theorem wpList_alloc_54 {w : World} {ops : Array Oper} {rest : List Oper} {o : Oper} {a : Act} {Q : Exit → Act → World → Prop} (hgd : o.guard = none) (ho : o.op = .alloc 54)
    (h : wpList Tryd.prog ops Q rest (a.put o.dst (.pointer (some ⟨w.heap.size, 0, none⟩))) (w.alloc (.cells (ic (List.replicate 65 0)) 54))) : wpList Tryd.prog ops Q (o :: rest) a w := by
  refine wpList_plain hgd fun K hK => ?_
  have hrun : (execOp a.eval o).run Tryd.prog w = .ok (.value (.pointer (some ⟨w.heap.size, 0, none⟩))) (w.alloc (.cells (ic (List.replicate 65 0)) 54)) := by
    unfold execOp
    rw [ho]
    kernel_rfl
  unfold Oper.wp
  rw [hrun, Oper.upon_value]
  exact hK _ _ h
theorem made65 : madeCells #[.int .u8 0] 65 = bc (List.replicate 65 0) := by kernel_rfl
theorem make65 (w : World) : (Instr.makeSlice 43 (.int .i64 65) (.int .i64 65)).run Tryd.prog w = .ok (.slice (some ⟨w.heap.size, 0, none⟩) 65 65) (w.alloc (.cells (bc (List.replicate 65 0)) 5)) := by
  obtain ⟨i, hi, hz, hs, hb⟩ := info5
  have := run_make (P := Tryd.prog) w 43 5 i (.int .u8 0) (by kernel_rfl) hi hz .i64 .i64 65 65 (by omega) (by omega) (by rw [hb]; omega) (by omega)
  rw [← made65]
  simpa [hs, Value.cells] using this
/-- The bytes of the sum, ahead of byte i. -/
def ob (v i : Nat) : List Nat := (List.range 65).map fun j => if j < i then vb v j else 0
theorem ob_zero (v : Nat) : ob v 0 = List.replicate 65 0 := by
  unfold ob
  apply List.ext_getElem
  · simp
  · intro j h1 h2
    rw [List.getElem_map, List.getElem_replicate, if_neg (Nat.not_lt_zero _)]
theorem ob_len (v i : Nat) : (ob v i).length = 65 := by simp [ob]
theorem ob_set (v i : Nat) : (ob v i).set i (vb v i) = ob v (i + 1) := by
  apply List.ext_getElem
  · simp [ob]
  · intro j h1 h2
    rw [List.getElem_set]
    simp only [ob, List.getElem_map, List.getElem_range]
    by_cases hij : i = j
    · subst hij; simp
    · rw [if_neg hij]
      by_cases hji : j < i
      · rw [if_pos hji, if_pos (by omega)]
      · rw [if_neg hji, if_neg (by omega)]
theorem sof_data (l : List Nat) : (sof l).data = (l.map fun x => UInt8.ofNat x).toArray := by
  have h : ∀ (l : List Nat) (s : ByteArray), ((l.map fun x => ((x : Nat) : Int)).foldl (fun r n => r.push (UInt8.ofNat n.toNat)) s).data = s.data ++ (l.map fun x => UInt8.ofNat x).toArray := by
    intro l
    induction l with
    | nil => intro s; simp
    | cons x l ih =>
      intro s
      rw [List.map_cons, List.foldl_cons, ih]
      show (s.data.push _) ++ _ = _
      simp
  rw [sof, h l ByteArray.empty]
  show #[] ++ _ = _
  simp
theorem sof_size (l : List Nat) : (sof l).size = l.length := by
  show (sof l).data.size = l.length
  rw [sof_data]; simp
theorem byt_ob (v j : Nat) (hj : j < 65) : byt (sof (ob v 65)) j = vb v j := by
  unfold byt
  rw [sof_data]
  have h := vb_lt v j
  simp [ob, hj]
  omega
theorem rd_ob (v : Nat) (hv : v / 256 ^ 65 = 0) : rd (sof (ob v 65)) (sof (ob v 65)).size = v := by
  rw [sof_size, ob_len, rd_is _ v 65 (fun j hj => byt_ob v j hj)]
  have h := Nat.div_add_mod v (256 ^ 65)
  rw [hv, Nat.mul_zero, Nat.zero_add] at h
  exact h
theorem big65 {a b c : Nat} (ha : a < 115792089237316195423570985008687907853269984665640564039457584007913129639936) (hb : b < 115792089237316195423570985008687907853269984665640564039457584007913129639936) (hc : c < 115792089237316195423570985008687907853269984665640564039457584007913129639936) : (a * b + c) / 256 ^ 65 = 0 := by
  refine Nat.div_eq_of_lt ?_
  have h1 : a * b ≤ 115792089237316195423570985008687907853269984665640564039457584007913129639936 * 115792089237316195423570985008687907853269984665640564039457584007913129639936 := Nat.mul_le_mul (Nat.le_of_lt ha) (Nat.le_of_lt hb)
  have h2 : 115792089237316195423570985008687907853269984665640564039457584007913129639936 * 115792089237316195423570985008687907853269984665640564039457584007913129639936 + 115792089237316195423570985008687907853269984665640564039457584007913129639936 ≤ 256 ^ 65 := by decide +kernel
  exact Nat.lt_of_lt_of_le (Nat.add_lt_add_of_le_of_lt h1 hc) h2
theorem wrapI (n : Nat) (h : n < 9223372036854775808) : IntKind.i64.wrap ((n : Nat) : Int) = ((n : Nat) : Int) := by
  rw [IntKind.wrap_i64]; omega
theorem rmuladd_any (a b c : Nat) (ha : a < 115792089237316195423570985008687907853269984665640564039457584007913129639936) (hb : b < 115792089237316195423570985008687907853269984665640564039457584007913129639936) (hc : c < 115792089237316195423570985008687907853269984665640564039457584007913129639936) (w : World) : Calls Tryd.prog 16 #[nb a, nb b, nb c] w fun e w' => e = .returned (nb ((a * b + c) % Lq)) ∧ Fr [] w w' := by
  have KO : ∀ W : World, Calls Tryd.prog 14 #[.string (sof (ob (a * b + c) 65))] W fun e w' => e = .returned (nb ((a * b + c) % Lq)) ∧ Fr [] W w' := fun W => by
    have := rof_any (sof (ob (a * b + c) 65)) (by rw [sof_size, ob_len]; omega) W
    rw [rd_ob _ (big65 ha hb hc)] at this
    exact this
  have HO := hid (p := _) KO
  have HL := hid (p := _) (fun l (h : MS a b c 32 l) => MS.last h ha hc)
  have HB := hid (p := _) hb
  have HZ38 := hid (p := _) z38
  have hmk := make65
  clear KO ha hb hc
  unfold nb
  go_enter Tryd.func16, Tryd.ntmps16
  go_wp2_with (refine wpList_alloc_54 rfl rfl ?_)
  go_loopg [8] 32 (fun gk q wr => ∃ i : Nat, ∃ l : List Nat, i ≤ 32 ∧ gk = 32 - i ∧ q = .int .i64 i ∧ Hid (Fr [] w wr ∧ RB wr w.heap.size 38 (vbl a) ∧ RB wr (w.heap.size + 1) 38 (vbl b) ∧ RB wr (w.heap.size + 2) 38 (vbl c) ∧ RB wr (w.heap.size + 3) 38 (vbl 0) ∧ RI wr (w.heap.size + 4) 54 l ∧ MS a b c i l))
  case atStart =>
    refine ⟨0, List.replicate 65 0, Nat.zero_le _, rfl, rfl, hid ⟨(((((Fr.refl [] w).alloc _).alloc _).alloc _).alloc _).alloc _, ?_, ?_, ?_, ?_, ?_, MS.start a b c⟩⟩
    · exact ((((show RB _ w.heap.size 38 (vbl a) from (MapKept.heap_alloc w _).1).alloc _).alloc _).alloc _).alloc _
    · exact (((show RB _ (w.heap.size + 1) 38 (vbl b) from heap_new1 w _ _).alloc _).alloc _).alloc _
    · exact ((show RB _ (w.heap.size + 2) 38 (vbl c) from heap_new2 w _ _ _).alloc _).alloc _
    · rw [HZ38.out]; exact (show RB _ (w.heap.size + 3) 38 (vbl 0) from heap_new3 w _ _ _ _).alloc _
    · exact heap_new4 w _ _ _ _ _
  case round =>
    obtain ⟨i, l, hi, hgk, rfl, K⟩ := hrel
    by_cases hlt : i < 32
    · have hlt' : (i : Int) < 32 := by omega
      have e1 := K.out.2.2.2.1.cell i (by rw [vbl_len]; exact hlt)
      rw [vbl_get _ _ hlt] at e1
      have e2 := K.out.2.2.2.2.2.1.cell i (by rw [K.out.2.2.2.2.2.2.len]; omega)
      have g2 := K.out.2.2.2.2.2.1.frozen i
      have l1 := K.out.2.2.2.1.lt
      have l2 := K.out.2.2.2.2.2.1.lt
      have hle := K.out.2.2.2.2.2.2.le i
      have hv := vb_lt c i
      have HKN := hid (p := _) (fun x => (K.out.2.2.2.2.2.1.ext x).set i (l.getD i 0 + vb c i))
      have HMR := hid (p := _) (K.out.2.2.2.2.2.2.add hlt)
      have HF := hid (p := _) K.out.1
      have H1 := hid (p := _) K.out.2.1
      have H2 := hid (p := _) K.out.2.2.1
      have H3 := hid (p := _) K.out.2.2.2.1
      have H4 := hid (p := _) K.out.2.2.2.2.1
      clear K
      generalize vb c i = y at *
      generalize hs : l.set i (l.getD i 0 + y) = l2' at *
      have HS := hid (p := _) hs
      clear hs
      generalize l.getD i 0 = o at *
      have f2 : IntKind.i64.wrap ((o : Int) + (y : Int)) = ((o + y : Nat) : Int) := by rw [← Int.natCast_add]; exact wrapI _ (by omega)
      have f3 : IntKind.i64.wrap ((y : Nat) : Int) = ((y : Nat) : Int) := wrapI _ (by omega)
      generalize o + y = z at *
      clear hle hv
      go_wp2_with fail
      refine wp_region_last_ext [_, _, _, _, _, _, _, _, _, _] _ (by kernel_rfl) (by kernel_rfl) (by kernel_rfl) (by kernel_rfl) (by kernel_rfl) ?_
      simp only [List.cons_append, List.nil_append, idle]
      repeat (go_big_quiet_step (fail))
      refine wpQuiet_nil ?_
      rintro _ ⟨xq, rfl⟩
      have KN2 := HKN.out xq
      go_simp
      go_wp2
      go_loopg [9] 32 (fun gj q wr => ∃ k : Nat, ∃ l : List Nat, k ≤ 32 ∧ gj = 32 - k ∧ q = .int .i64 k ∧ Hid (Fr [] w wr ∧ RB wr w.heap.size 38 (vbl a) ∧ RB wr (w.heap.size + 1) 38 (vbl b) ∧ RB wr (w.heap.size + 2) 38 (vbl c) ∧ RB wr (w.heap.size + 3) 38 (vbl 0) ∧ RI wr (w.heap.size + 4) 54 l ∧ MR a b c i k l))
      case atStart =>
        exact ⟨0, _, Nat.zero_le _, rfl, rfl, hid ⟨(HF.out.ext xq).setCell (.inr (by show w.heap.size ≤ w.heap.size + 4; omega)) _, (H1.out.ext xq).other (by show w.heap.size ≠ w.heap.size + 4; omega) _, (H2.out.ext xq).other (by show w.heap.size + 1 ≠ w.heap.size + 4; omega) _, (H3.out.ext xq).other (by show w.heap.size + 2 ≠ w.heap.size + 4; omega) _, (H4.out.ext xq).other (by show w.heap.size + 3 ≠ w.heap.size + 4; omega) _, KN2, HMR.out⟩⟩
      case round =>
        clear HF H1 H2 H3 H4 KN2 HKN HMR HS e1 e2 g2 l1 l2
        obtain ⟨k, l, hk, hgj, rfl, K⟩ := hrel
        by_cases hlk : k < 32
        · have hlk' : (k : Int) < 32 := by omega
          have hik : (i : Int) + (k : Int) < 65 := by omega
          have e1 := K.out.2.1.cell i (by rw [vbl_len]; exact hlt)
          rw [vbl_get a i hlt] at e1
          have e2 := K.out.2.2.1.cell k (by rw [vbl_len]; exact hlk)
          rw [vbl_get b k hlk] at e2
          have e3 := K.out.2.2.2.2.2.1.cell (i + k) (by rw [K.out.2.2.2.2.2.2.len]; omega)
          have g3 := K.out.2.2.2.2.2.1.frozen (i + k)
          have l1 := K.out.2.1.lt
          have l2 := K.out.2.2.1.lt
          have l3 := K.out.2.2.2.2.2.1.lt
          have hp := prod_le _ _ (vb_lt a i) (vb_lt b k)
          have hq := K.out.2.2.2.2.2.2.fresh (i + k) (Nat.le_refl _)
          have hva := vb_lt a i
          have hvb := vb_lt b k
          have HKN := hid (p := _) (fun x => (K.out.2.2.2.2.2.1.ext x).set (i + k) (l.getD (i + k) 0 + vb a i * vb b k))
          have HMR := hid (p := _) (K.out.2.2.2.2.2.2.step hlt hlk)
          have HF := hid (p := _) K.out.1
          have H1 := hid (p := _) K.out.2.1
          have H2 := hid (p := _) K.out.2.2.1
          have H3 := hid (p := _) K.out.2.2.2.1
          have H4 := hid (p := _) K.out.2.2.2.2.1
          clear K
          have f1 : IntKind.i64.wrap (((vb a i : Nat) : Int) * ((vb b k : Nat) : Int)) = ((vb a i * vb b k : Nat) : Int) := by rw [← Int.natCast_mul]; exact wrapI _ (by omega)
          have f4 : IntKind.i64.wrap ((vb a i : Nat) : Int) = ((vb a i : Nat) : Int) := wrapI _ (by omega)
          have f5 : IntKind.i64.wrap ((vb b k : Nat) : Int) = ((vb b k : Nat) : Int) := wrapI _ (by omega)
          generalize vb a i * vb b k = p at *
          generalize vb a i = x at *
          generalize vb b k = y at *
          generalize hs : l.set (i + k) (l.getD (i + k) 0 + p) = l2' at *
          have HS := hid (p := _) hs
          clear hs
          generalize l.getD (i + k) 0 = o at *
          have f2 : IntKind.i64.wrap ((o : Int) + (p : Int)) = ((o + p : Nat) : Int) := by rw [← Int.natCast_add]; exact wrapI _ (by omega)
          generalize o + p = z at *
          clear hp hq hva hvb
          go_wp2_with fail
          refine wp_region_last_ext [_, _, _, _, _, _, _, _, _, _, _, _, _, _, _, _, _, _, _] _ (by kernel_rfl) (by kernel_rfl) (by kernel_rfl) (by kernel_rfl) (by kernel_rfl) ?_
          simp only [List.cons_append, List.nil_append, idle]
          repeat (go_big_quiet_step (fail))
          refine wpQuiet_nil ?_
          rintro _ ⟨xq, rfl⟩
          have KN2 := HKN.out xq
          go_simp
          go_wp2
          go_roundg (32 - (k + 1))
          case measure => omega
          case rel =>
            exact ⟨k + 1, _, by omega, rfl, by go_num, hid ⟨(HF.out.ext xq).setCell (.inr (by show w.heap.size ≤ w.heap.size + 4; omega)) _, (H1.out.ext xq).other (by show w.heap.size ≠ w.heap.size + 4; omega) _, (H2.out.ext xq).other (by show w.heap.size + 1 ≠ w.heap.size + 4; omega) _, (H3.out.ext xq).other (by show w.heap.size + 2 ≠ w.heap.size + 4; omega) _, (H4.out.ext xq).other (by show w.heap.size + 3 ≠ w.heap.size + 4; omega) _, KN2, HMR.out⟩⟩
        · obtain rfl : k = 32 := by omega
          go_wp2_with fail
          go_roundg (32 - (i + 1))
          case measure => omega
          case rel => exact ⟨i + 1, l, by omega, rfl, by go_num, hid ⟨K.out.1, K.out.2.1, K.out.2.2.1, K.out.2.2.2.1, K.out.2.2.2.2.1, K.out.2.2.2.2.2.1, K.out.2.2.2.2.2.2.row HB.out⟩⟩
    · obtain rfl : i = 32 := by omega
      have hv := HL.out l K.out.2.2.2.2.2.2
      have hlen := K.out.2.2.2.2.2.2.len
      have HLE := hid (p := _) (K.out.2.2.2.2.2.2.le)
      have HF := hid (p := _) K.out.1
      have H4 := hid (p := _) K.out.2.2.2.2.1
      have H5 := hid (p := _) K.out.2.2.2.2.2.1
      have h4lt := K.out.2.2.2.2.1.lt
      have h5lt := K.out.2.2.2.2.2.1.lt
      have hne1 : w.heap.size + 3 ≠ wr.heap.size := by omega
      have hne2 : w.heap.size + 4 ≠ wr.heap.size := by omega
      have hle3 : w.heap.size ≤ wr.heap.size := by omega
      have HN1 := hid (p := _) hne1
      have HN2 := hid (p := _) hne2
      have HN3 := hid (p := _) hle3
      clear h4lt h5lt hne1 hne2 hle3
      have HV := hid (p := _) hv
      clear K hv HL HB
      go_wp2_with fail
      go_loopg [11, 12] 65 (fun gj q11 q12 wr' => ∃ j : Nat, j ≤ 65 ∧ gj = 65 - j ∧ q11 = .int .i64 (cr l j : Nat) ∧ q12 = .int .i64 j ∧ Hid (Fr [] w wr' ∧ RB wr' (w.heap.size + 3) 38 (vbl 0) ∧ RI wr' (w.heap.size + 4) 54 l ∧ RB wr' wr.heap.size 5 (ob (a * b + c) j)))
      case atStart =>
        exact ⟨0, Nat.zero_le _, rfl, rfl, rfl, hid ⟨HF.out.alloc _, H4.out.alloc _, H5.out.alloc _, by rw [ob_zero]; exact (MapKept.heap_alloc wr _).1⟩⟩
      case round =>
        clear HF H4 H5
        obtain ⟨j, hj, hgj, rfl, rfl, K⟩ := hrel
        by_cases hlj : j < 65
        · have hlj' : (j : Int) < 65 := by omega
          have e1 := K.out.2.2.1.cell j (by rw [hlen]; exact hlj)
          have e2 := K.out.2.2.2.cell j (by rw [ob_len]; exact hlj)
          have g2 := K.out.2.2.2.frozen j
          have l1 := K.out.2.2.1.lt
          have l2 := K.out.2.2.2.lt
          have hb1 := HLE.out j
          have hb2 := cr_le HLE.out j
          have hby := cr_byte l j (by rw [hlen]; exact hlj)
          rw [HV.out] at hby
          have hcs : cr l (j + 1) = (l.getD j 0 + cr l j) / 256 := rfl
          have KN := K.out.2.2.2.set j (vb (a * b + c) j)
          rw [ob_set] at KN
          have HN := hid (p := _) KN
          have HF := hid (p := _) K.out.1
          have H4 := hid (p := _) K.out.2.1
          have H5 := hid (p := _) K.out.2.2.1
          clear K KN
          have HCS := hid (p := _) hcs
          generalize hgc : cr l (j + 1) = c2 at *
          have HGC := hid (p := _) hgc
          generalize vb (a * b + c) j = y at *
          generalize l.getD j 0 = o at *
          generalize cr l j = c1 at *
          have f1 : IntKind.i64.wrap ((o : Int) + (c1 : Int)) = ((o + c1 : Nat) : Int) := by rw [← Int.natCast_add]; exact wrapI _ (by omega)
          have f2 : IntKind.u8.wrap ((o + c1 : Nat) : Int) = ((y : Nat) : Int) := by rw [IntKind.wrap_u8', hby]; omega
          have f3 : ((o + c1 : Nat) : Int) / 256 = ((c2 : Nat) : Int) := by rw [hcs]; omega
          have hbs : o + c1 < 9223372036854775808 := by omega
          generalize (ob (a * b + c) j).getD j 0 = y0 at *
          generalize o + c1 = z at *
          clear hgc hcs hby hb1 hb2
          go_wp2_with fail
          go_roundg (65 - (j + 1))
          case measure => omega
          case rel =>
            exact ⟨j + 1, by omega, rfl, by first | (rw [HGC.out]) | (rw [← HGC.out]), by go_num, hid ⟨HF.out.setCell (.inr HN3.out) _, H4.out.other HN1.out _, H5.out.other HN2.out _, HN.out⟩⟩
        · obtain rfl : j = 65 := by omega
          have hconv := conv_l K.out.2.2.2 65 65 (ob_len _ _)
          have Z := hid (p := _) K.out.2.1
          have F := hid (p := _) K.out.1
          clear K
          generalize sof (ob (a * b + c) 65) = sx at *
          clear HV
          go_wp2_with (first | (go_at_call 14; with_reducible refine (HO.out _).mono ?_; rintro e V1 ⟨rfl, hF⟩; have F1 := hid (p := _) (F.out.trans0 hF); have Z1 := hid (p := _) (Z.out.fr hF); clear hF) | (refine wpList_store_38 rfl (.tmp 6) (.tmp 70) rfl (w.heap.size + 3) ((a * b + c) % Lq) 38 rfl rfl (vbl 0) (vbl_len _) Z1.out ?_))
          refine bodyPost_ret (results_cell Tryd.results16 rfl (Z1.out.setRow (vbl ((a * b + c) % Lq))).load) rfl ⟨rfl, F1.out.setRow (.inr (by omega)) _⟩
end Go.Proofs.YtgjpombdkgomaaaDoor
