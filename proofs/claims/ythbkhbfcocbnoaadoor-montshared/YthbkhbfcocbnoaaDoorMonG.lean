/-
  Package mont: Clamp (order's), coordinate; the bits of a text. No statement is proved here.
-/
import Derived.Test.YthbkhbfcocbnoaaDoorMonF
import Derived.Laws.IdiomStrings
namespace Go.Proofs.YthbkhbfcocbnoaaDoor
open Go.RowKit Go.Lib Go.BigFrame
set_option linter.unusedVariables false
set_option linter.unusedSimpArgs false
set_option maxRecDepth 1000000
set_option maxHeartbeats 4000000

/-- 32 bytes in a row. -/
def BX (V : World) (b : Nat) (f : Nat → Int) : Prop := b < V.heap.size ∧ ∀ j, j < 32 → V.cell? ⟨b, j, none⟩ = some (.int .u8 (f j)) ∧ V.frozen? ⟨b, j, none⟩ = false
theorem BX.set {V : World} {b : Nat} {f : Nat → Int} (h : BX V b f) (k : Nat) (hk : k < 32) (z : Int) : BX (V.setCell ⟨b, k, none⟩ (.int .u8 z)) b (fun j => if j = k then z else f j) := by
  refine ⟨by simpa [World.setCell] using h.1, fun j hj => ⟨?_, ?_⟩⟩
  · by_cases e : j = k
    · subst e
      rw [World.cell?_setCell_same _ _ _ (h.2 j hj).1]; simp
    · rw [World.cell?_setCell_other _ _ _ _ (by simp <;> omega), (h.2 j hj).1]; simp [e]
  · rw [World.frozen?_setCell]; exact (h.2 j hj).2
/-- A text of 32 bytes. -/
def sbi (f : Nat → Int) : ByteArray := ((List.range 32).map f).foldl (fun r n => r.push (UInt8.ofNat n.toNat)) ByteArray.empty
theorem BX.back {V : World} {b : Nat} {f : Nat → Int} (h : BX V b f) (cap : Nat) : (convert 32 9 (.slice (some ⟨b, 0, none⟩) 32 cap)).run Tryd.prog V = .ok (.string (sbi f)) V := by
  rw [run_convert_bytes_string V 32 9 5 _ _ _ (by kernel_rfl) (by kernel_rfl) (by kernel_rfl)]
  refine run_bytesToString V _ 32 cap ((List.range 32).map f) ?_
  have hl : (((List.range 32).map f).map (Value.int .u8)).length = 32 := by simp
  have := run_loadCells_list (P := Tryd.prog) (w := V) ⟨b, 0, none⟩ (((List.range 32).map f).map (Value.int .u8)) (fun j u hu => by
    have hj : j < 32 := by
      rcases Nat.lt_or_ge j 32 with h | h
      · exact h
      · rw [List.getElem?_eq_none (by omega)] at hu; cases hu
    have hadd : (⟨b, 0, none⟩ : Addr).add j = ⟨b, j, none⟩ := by unfold Addr.add; split <;> simp_all
    rw [hadd, (h.2 j hj).1, ← hu]
    simp [hj])
  rw [hl] at this
  exact this
theorem conv_in (s : ByteArray) (hs : s.size = 32) (w : World) : ∃ (cap : Nat) (W : World), (convert 9 32 (.string s)).run Tryd.prog w = .ok (.slice (some ⟨w.heap.size, 0, none⟩) 32 cap) W ∧ Fr [] w W ∧ BX W w.heap.size (fun j => (byt s j : Nat)) := by
  have h := run_bytes_of_string (P := Tryd.prog) w 9 32 5 s (by kernel_rfl) (by kernel_rfl) (by kernel_rfl)
  refine ⟨_, _, by rw [h, hs], (Fr.refl [] w).drew.alloc _, ?_, fun j hj => ⟨?_, ?_⟩⟩
  · simp
  · have e := (MapKept.heap_alloc w.drew (.cells (bytesRow s (grownCap w s.size 0 5)) 5 ((bytesRow s (grownCap w s.size 0 5)).size, (bytesRow s (grownCap w s.size 0 5)).size + 1))).1
    have e' : (w.drew.alloc (.cells (bytesRow s (grownCap w s.size 0 5)) 5 ((bytesRow s (grownCap w s.size 0 5)).size, (bytesRow s (grownCap w s.size 0 5)).size + 1))).heap[w.heap.size]? = _ := e
    rw [hs] at e'
    refine cell_of_heap e' ?_
    have hd : s.data.size = 32 := hs
    unfold bytesRow byt
    rw [Array.getElem?_append_left (by simp; omega)]
    simp [hd, hj]
  · have e := (MapKept.heap_alloc w.drew (.cells (bytesRow s (grownCap w s.size 0 5)) 5 ((bytesRow s (grownCap w s.size 0 5)).size, (bytesRow s (grownCap w s.size 0 5)).size + 1))).1
    have e' : (w.drew.alloc (.cells (bytesRow s (grownCap w s.size 0 5)) 5 ((bytesRow s (grownCap w s.size 0 5)).size, (bytesRow s (grownCap w s.size 0 5)).size + 1))).heap[w.heap.size]? = _ := e
    rw [hs] at e'
    have hd : s.data.size = 32 := hs
    have hz : 32 ≤ (bytesRow s (grownCap w 32 0 5)).size := by unfold bytesRow; simp; omega
    unfold World.frozen?
    rw [e']
    simp
    omega
/-- The byte j of what Clamp makes. -/
def cl (s : ByteArray) (j : Nat) : Int := if j = 31 then bits .or .u8 (bits .andNot .u8 ((byt s 31 : Nat) : Int) 128) 64 else if j = 0 then bits .andNot .u8 ((byt s 0 : Nat) : Int) 7 else ((byt s j : Nat) : Int)
theorem clamp_yes (s : ByteArray) (hs : s.size = 32) (w : World) : Calls Tryd.prog 14 #[.string s] w fun e w' => e = .returned (.tuple #[.string (sbi (cl s)), .int .i64 0]) ∧ Fr [] w w' := by
  obtain ⟨cap, W, hcv, F, B⟩ := conv_in s hs w
  have hsi : (s.size : Int) = 32 := by omega
  have B1 := B.set 0 (by decide) (bits .andNot .u8 ((byt s 0 : Nat) : Int) 7)
  have B2 := B1.set 31 (by decide) (bits .andNot .u8 ((byt s 31 : Nat) : Int) 128)
  have B3 := B2.set 31 (by decide) (bits .or .u8 (bits .andNot .u8 ((byt s 31 : Nat) : Int) 128) 64)
  have hback := B3.back cap
  have e : (fun j => if j = 31 then bits .or .u8 (bits .andNot .u8 ((byt s 31 : Nat) : Int) 128) 64 else if j = 31 then bits .andNot .u8 ((byt s 31 : Nat) : Int) 128 else if j = 0 then bits .andNot .u8 ((byt s 0 : Nat) : Int) 7 else ((byt s j : Nat) : Int)) = cl s := by
    funext j
    unfold cl
    by_cases h : j = 31 <;> simp [h]
  rw [e] at hback
  have c0 := B.2 0 (by decide)
  have c31 := B.2 31 (by decide)
  obtain ⟨c0, g0⟩ := c0
  obtain ⟨c31, g31⟩ := c31
  have hl := B.1
  have HF := hid (p := _) F
  clear e B B1 B2 B3 F hs
  generalize sbi (cl s) = t at *
  go_enter Tryd.func14, Tryd.ntmps14
  go_wp2_with fail
  go_ret2
  exact ⟨rfl, ((HF.out.setCell (.inr (Nat.le_refl _)) _).setCell (.inr (Nat.le_refl _)) _).setCell (.inr (Nat.le_refl _)) _⟩
theorem clamp_no (s : ByteArray) (hs : s.size ≠ 32) (w : World) : Calls Tryd.prog 14 #[.string s] w fun e w' => e = .returned (.tuple #[.string ByteArray.empty, .int .i64 2]) ∧ Fr [] w w' := by
  have hsi : ¬ (s.size : Int) = 32 := by omega
  go_enter Tryd.func14, Tryd.ntmps14
  go_wp2_with fail
  go_ret2
  exact ⟨rfl, Fr.refl [] w⟩
theorem rclamp_any (s : ByteArray) (hs : s.size = 32) (w : World) : Calls Tryd.prog 31 #[.string s] w fun e w' => e = .returned (.string (sbi (cl s))) ∧ Fr [] w w' := by
  obtain ⟨cap, W, hcv, F, B⟩ := conv_in s hs w
  have B1 := B.set 0 (by decide) (bits .andNot .u8 ((byt s 0 : Nat) : Int) 7)
  have B3 := B1.set 31 (by decide) (bits .or .u8 (bits .andNot .u8 ((byt s 31 : Nat) : Int) 128) 64)
  have hback := B3.back cap
  have e : (fun j => if j = 31 then bits .or .u8 (bits .andNot .u8 ((byt s 31 : Nat) : Int) 128) 64 else if j = 0 then bits .andNot .u8 ((byt s 0 : Nat) : Int) 7 else ((byt s j : Nat) : Int)) = cl s := by
    funext j
    unfold cl
    rfl
  rw [e] at hback
  obtain ⟨c0, g0⟩ := B.2 0 (by decide)
  obtain ⟨c31, g31⟩ := B.2 31 (by decide)
  have hl := B.1
  have HF := hid (p := _) F
  clear e B B1 B3 F hs
  generalize sbi (cl s) = t at *
  go_enter Tryd.func31, Tryd.ntmps31
  go_wp2_with fail
  go_ret
  exact ⟨rfl, (HF.out.setCell (.inr (Nat.le_refl _)) _).setCell (.inr (Nat.le_refl _)) _⟩
theorem sbi_data (f : Nat → Int) : (sbi f).data = ((List.range 32).map fun j => UInt8.ofNat (f j).toNat).toArray := by
  have h : ∀ (l : List Nat) (s : ByteArray), ((l.map f).foldl (fun r n => r.push (UInt8.ofNat n.toNat)) s).data = s.data ++ (l.map fun j => UInt8.ofNat (f j).toNat).toArray := by
    intro l
    induction l with
    | nil => intro s; simp
    | cons x l ih =>
      intro s
      rw [List.map_cons, List.foldl_cons, ih]
      show (s.data.push _) ++ _ = _
      simp
  rw [sbi, h (List.range 32) ByteArray.empty]
  show #[] ++ _ = _
  simp
theorem sbi_size (f : Nat → Int) : (sbi f).size = 32 := by
  show (sbi f).data.size = 32
  rw [sbi_data]; simp
theorem byt_sbi (f : Nat → Int) (j : Nat) (hj : j < 32) : byt (sbi f) j = (f j).toNat % 256 := by
  unfold byt
  rw [sbi_data]
  simp [hj]
theorem L4.other1 {V : World} {b t : Nat} {v0 v1 v2 v3 : Value} (h : L4 V b t v0 v1 v2 v3) {p : Addr} (hne : b ≠ p.block) (u : Value) : L4 (V.setCell p u) b t v0 v1 v2 v3 := by
  unfold L4
  rw [heap_setCell_other _ _ _ _ hne]; exact h
/-- The byte j of a public key, its highest bit being left out. -/
def cm (s : ByteArray) (j : Nat) : Int := if j = 31 then bits .andNot .u8 ((byt s 31 : Nat) : Int) 128 else ((byt s j : Nat) : Int)
theorem coord_yes (s : ByteArray) (hs : s.size = 32) (w : World) (hP : PV w) : Calls Tryd.prog 15 #[.string s] w fun e w' => e = .returned (.tuple #[wd (of (sbi (cm s))), .int .i64 0]) ∧ Fr [] w w' := by
  have hP2 := hid (p := _) hP
  have KO := fun W hW => of_yes (sbi (cm s)) (sbi_size _) W hW
  have hol := of_ltP (sbi (cm s))
  obtain ⟨c0, c1, c2, c3, -, -, -, -, -, wc⟩ := wd_open (of (sbi (cm s))) (lt4 hol)
  rw [wc] at KO
  rw [wc]
  obtain ⟨cap, W, hcv, F, B⟩ := conv_in s hs (w.alloc (.cells #[.int .u64 0, .int .u64 0, .int .u64 0, .int .u64 0] 43))
  have hsi : (s.size : Int) = 32 := by omega
  have B1 := B.set 31 (by decide) (bits .andNot .u8 ((byt s 31 : Nat) : Int) 128)
  have hback := B1.back cap
  have e : (fun j => if j = 31 then bits .andNot .u8 ((byt s 31 : Nat) : Int) 128 else ((byt s j : Nat) : Int)) = cm s := rfl
  rw [e] at hback
  obtain ⟨c31, g31⟩ := B.2 31 (by decide)
  have hl := B.1
  have HF := hid (p := _) (((Fr.refl [] w).alloc (.cells #[.int .u64 0, .int .u64 0, .int .u64 0, .int .u64 0] 43)).trans0 F)
  have HR := hid (p := _) ((L4.new w 43 (.int .u64 0) (.int .u64 0) (.int .u64 0) (.int .u64 0)).fr F)
  have HO := hid (p := _) KO
  have hsz := hid (p := _) (((Fr.refl [] w).alloc (.cells #[.int .u64 0, .int .u64 0, .int .u64 0, .int .u64 0] 43)).size)
  clear e B B1 F hs KO wc hol hP
  generalize sbi (cm s) = t at *
  have hz : (w.alloc (.cells #[.int .u64 0, .int .u64 0, .int .u64 0, .int .u64 0] 43)).heap.size = w.heap.size + 1 := by simp
  rw [hz] at hcv hback c31 g31 hl
  go_enter Tryd.func15, Tryd.ntmps15
  go_wp2_with (go_at_call 23; with_reducible refine (HO.out _ (hP2.out.fr (HF.out.setCell (.inr (by show w.heap.size ≤ w.heap.size + 1; omega)) _))).mono ?_; rintro e V ⟨rfl, hF⟩; have R := (HR.out.other1 (p := ⟨w.heap.size + 1, 31, none⟩) (by show w.heap.size ≠ w.heap.size + 1; omega) _).fr hF; have FV := (HF.out.setCell (p := ⟨w.heap.size + 1, 31, none⟩) (.inr (by show w.heap.size ≤ w.heap.size + 1; omega)) _).trans0 hF; obtain ⟨_, _, _, _, _, _, _, _, _, _⟩ := R.all; clear hF)
  simp [bodyPost, results, Tryd.results15, go_sem, *]
  exact FV.set4 (Nat.le_refl _) _ _ _ _
theorem coord_no (s : ByteArray) (hs : s.size ≠ 32) (w : World) : Calls Tryd.prog 15 #[.string s] w fun e w' => e = .returned (.tuple #[.agg #[.int .u64 0, .int .u64 0, .int .u64 0, .int .u64 0], .int .i64 2]) ∧ Fr [] w w' := by
  have hsi : ¬ (s.size : Int) = 32 := by omega
  have R := L4.new w 43 (.int .u64 0) (.int .u64 0) (.int .u64 0) (.int .u64 0)
  go_enter Tryd.func15, Tryd.ntmps15
  go_wp2_with fail
  simp [bodyPost, results, Tryd.results15, go_sem, *]
  repeat (first | exact (Fr.refl [] w).alloc _ | refine Fr.setCell ?_ (.inr (Nat.le_refl _)) _)
/-- A bit of a text. -/
def bx (s : ByteArray) (i : Nat) : Nat := byt s (i / 8) / 2 ^ (i % 8) % 2
theorem bt_le (s : ByteArray) (i : Nat) : bx s i ≤ 1 := by unfold bx; omega
theorem and18 (a : Nat) (ha : a < 256) : bits .and .u8 (a : Int) 1 = ((a % 2 : Nat) : Int) := by
  have : ∀ x : Fin 256, bits .and .u8 ((x.1 : Nat) : Int) 1 = ((x.1 % 2 : Nat) : Int) := by decide +kernel
  exact this ⟨a, ha⟩
theorem bt_bits (s : ByteArray) (i : Nat) : bits .and .u8 (((byt s (i / 8) : Nat) : Int) / 2 ^ (i % 8)) 1 = ((bx s i : Nat) : Int) := by
  have e : ((byt s (i / 8) : Int) / 2 ^ (i % 8)) = ((byt s (i / 8) / 2 ^ (i % 8) : Nat) : Int) := by rw [Int.natCast_ediv, Int.natCast_pow]; rfl
  rw [e]
  exact and18 _ (Nat.lt_of_le_of_lt (Nat.div_le_self _ _) (byt_lt s _))
end Go.Proofs.YthbkhbfcocbnoaaDoor
