/-
  What RingShows asks: chains that are handed in, opened; a number of two bytes read. No statement is proved here.
-/
import Derived.Test.YtfiaciniikcacaaRingE
namespace Go.Proofs.Ytfiaciniikcacaa
open Go.ChangeShapes Go.WideShapes Go.ChangeAt Go.RowKit Go.Deep Go.BigFrame
set_option linter.unusedVariables false
set_option linter.unusedSimpArgs false
set_option maxRecDepth 1000000
set_option maxHeartbeats 4000000

/-- A list of buffers that is handed in. -/
structure Cn where
  Lv : Value
  xs : List Bf
structure CnAt (w : World) (b o : Nat) (s : Cn) : Prop where
  c0 : w.cell? ⟨b, o, none⟩ = some s.Lv
  bufs : Bufs w s.Lv s.xs
  hL : s.xs.length ≤ 140737488351232
theorem CnAt.fr {w w' : World} {b o : Nat} {s : Cn} (h : CnAt w b o s) (hF : Fr [] w w') : CnAt w' b o s := ⟨hF.cell h.c0 (by simp), h.bufs.fr0 hF, h.hL⟩
def Cns (w : World) (v : Value) (len : Nat) (F : Nat → Cn) : Prop :=
  len ≤ maxLen ∧ ((∃ p c, v = .slice p 0 c ∧ len = 0) ∨ ∃ b o cap, v = .slice (some ⟨b, o, none⟩) len cap ∧ ∀ i, i < len → CnAt w b (o + i) (F i))
/-- How many buffers i chains have. -/
def cv (F : Nat → Cn) : Nat → Nat
  | 0 => 0
  | i + 1 => cv F i + (F i).xs.length
theorem cv_le (F : Nat → Cn) (K : Nat) : ∀ i, (∀ j, j < i → (F j).xs.length ≤ K) → cv F i ≤ i * K
  | 0, _ => by simp [cv]
  | i + 1, h => by
    have ih := cv_le F K i (fun j hj => h j (by omega))
    have := h i (by omega)
    rw [cv, Nat.add_mul, Nat.one_mul]
    omega
theorem cv_mono (F : Nat → Cn) : ∀ j i, i < j → (F i).xs.length ≤ cv F j
  | 0, i, h => by omega
  | j + 1, i, h => by
    rw [cv]
    rcases Nat.lt_or_ge i j with g | g
    · have := cv_mono F j i g; omega
    · obtain rfl : i = j := by omega
      omega
theorem get16_q (bM bm bb k a : Nat) (lv : Value) (l : List (Nat × Nat)) (bs : List UInt8) (w : World) (hM : MemA w bM bm bb k lv l bs) (ho : a + 2 ≤ k) :
    Calls Try.prog 50 #[.pointer (some ⟨bM, 0, none⟩), .int .u32 a] w fun e w' => ∃ x : Nat, x < 65536 ∧ (bs.drop a).take 2 = le 2 x ∧ e = .returned (.tuple #[.int .u16 x, .int .i64 0]) ∧ ∃ d, w' = w.drewN d := by
  have hk := hM.mid.top
  have c0 := hM.cp
  have c1 := hM.mid.c0
  obtain ⟨y0, z0, e0, d0⟩ := byte_cell hM (a + 0) (by omega)
  obtain ⟨y1, z1, e1, d1⟩ := byte_cell hM (a + 1) (by omega)
  have hE : (bs.drop a).take 2 = le 2 (y0 + y1 * 256) := by
    refine (drop_take_is bs [UInt8.ofNat y0, UInt8.ofNat y1] a (fun j hj => ?_)).trans ?_
    · simp only [List.length_cons, List.length_nil] at hj
      match j, hj with
      | 0, _ => exact e0
      | 1, _ => exact e1
    · have g0 : (y0 + y1 * 256) % 256 = y0 := by omega
      have g1 : (y0 + y1 * 256) / 256 % 256 = y1 := by omega
      simp [le, List.range_succ, g0, g1]
  have HE := hid hE
  have o0 : bits .or .u16 0 (y0 : Int) = y0 := by have := bits_join_low .u16 16 (by decide) wraps_u16 0 0 (y0 : Int) (by omega) (by decide) (by decide) (by omega) (by simp) (by omega); rw [this]; omega
  have o1 : bits .or .u16 ((y0 : Int)) ((y1 : Int) * 256) = (y0 : Int) + (y1 : Int) * 256 := u16_or8 _ _ (by omega) (by omega) (by omega) (by omega) (by omega)
  have d0' : w.cell? ⟨bb, a, none⟩ = some (.int .u8 (y0 : Nat)) := d0
  have hp : po a 2 = a := by simp [po]
  clear hM hE d0 e0 e1
  go_enter Try.func50, Try.ntmps50
  go_wp2_with (go_at_call 44; refine (none_mem bM bm _ c0).mono ?_; rintro e w' ⟨rfl, hw⟩; subst hw)
  go_quiet (first | exact Calls.quiet_of_same (width16 _) | exact Calls.quiet_of_same (part_in bm bb a 2 k _ (by omega) hk c1 ho))
  rw [hp]
  clear hp
  go_wp2
  refine wp_loop_rounds 3 ?_
  rw [rounds_succ]; go_wp2
  rw [rounds_succ]; go_wp2
  rw [rounds_succ]; go_wp2
  go_ret2
  exact ⟨y0 + y1 * 256, by omega, HE.out, by simp, nq, rfl⟩
theorem u16_q (bM bm bb k a : Nat) (lv : Value) (l : List (Nat × Nat)) (bs : List UInt8) (w : World) (hM : MemA w bM bm bb k lv l bs) (ho : a + 2 ≤ k) :
    Calls Try.prog 26 #[.pointer (some ⟨bM, 0, none⟩), .int .u32 a] w fun e w' => e = .returned (.tuple #[.int .u16 (num bs a 2 : Nat), .int .i64 0]) ∧ ∃ d, w' = w.drewN d := by
  have H := hid (show Calls Try.prog 50 #[.pointer (some ⟨bM, 0, none⟩), .int .u32 a] w fun e w' => e = .returned (.tuple #[.int .u16 (num bs a 2 : Nat), .int .i64 0]) ∧ ∃ d, w' = w.drewN d from (get16_q bM bm bb k a lv l bs w hM ho).mono fun e w' ⟨x, h1, h2, h3, h4⟩ => ⟨by rw [h3, ← num_of h2 h1], h4⟩)
  clear hM
  go_enter Try.func26, Try.ntmps26
  go_wp2_with (go_at_call 50; refine H.out.mono ?_; rintro e w1 ⟨rfl, hF⟩)
  go_ret2
  exact ⟨rfl, hF⟩
section
variable {H : Type} {enc : TypeId × Value → H} {w : World} {base : Nat} {held : Bool}
theorem open_cns {v : Value} {d : DataW H} {ps : List MemPlace} (hv : ∃ a len cap, v = .slice a len cap) (h : DataW.Trod enc Try.prog w base (fun _ => true) held 64 v d ps) (hw : ∀ y, y ∈ d.weights Try.prog 64 → y ≤ reachBytes) : ∃ len F, Cns w v len F := by
  obtain ⟨a0, len0, cap0, rfl⟩ := hv
  obtain ⟨fuel, hf⟩ := h
  rcases open_slice Try.underlying64 hf with ⟨hcs, _⟩ | ⟨a, len, cap, m, n, D, Pl, hcs, _, hl, hm, hmm, hx, hall⟩
  · simp [Value.cells] at hcs
    obtain ⟨rfl, rfl, rfl⟩ := hcs
    exact ⟨0, fun _ => ⟨.slice none 0 0, []⟩, Nat.zero_le _, .inl ⟨none, 0, rfl, rfl⟩⟩
  · simp [Value.cells] at hcs
    obtain ⟨rfl, rfl, rfl⟩ := hcs
    have hle : len0 ≤ m := by rw [hmm]; simp; exact hl
    rcases Nat.eq_zero_or_pos len0 with h0 | h0
    · subst h0
      exact ⟨0, fun _ => ⟨.slice none 0 0, []⟩, Nat.zero_le _, .inl ⟨_, _, rfl, rfl⟩⟩
    · have each : ∀ i, i < len0 → (a.add i).spot = none ∧ ∃ s : Cn, CnAt w (a.add i).block (a.add i).off s := fun i hi => by
        obtain ⟨cs', h1, h2⟩ := hall i (by omega)
        rw [cells34, Nat.mul_one] at h1
        obtain ⟨_, hlen, hcell⟩ := World.cells?_some h1
        match cs', hlen with
        | [v0], _ =>
          obtain ⟨xs, hb, hbl⟩ := open_bufs h2 (fun y hy => hw y (by
            cases hx
            simp only [DataW.weights, Try.underlying64, List.mem_cons, List.mem_append]
            exact .inr (.inl (weightsAll_mem _ (D i) (List.mem_map.2 ⟨i, List.mem_range.2 hi, rfl⟩) y hy))))
          have c0 := hcell 0 (by omega)
          have c0' : w.cell? (a.add i) = some v0 := by simpa [Addr.add] using c0
          have hsp := World.cell?_spot c0'
          refine ⟨hsp, ⟨v0, xs⟩, ?_, hb, hbl⟩
          rw [← c0']
          congr 1
          rw [← hsp]
      obtain ⟨b, off, spot⟩ := a
      have hspot : spot = none := by simpa [Addr.add] using (each 0 h0).1
      subst hspot
      have : Inhabited Cn := ⟨⟨.slice none 0 0, []⟩⟩
      obtain ⟨F, hF⟩ := choose_lt (fun i hi => (each i hi).2)
      refine ⟨len0, F, Nat.le_trans hl hm, .inr ⟨b, off, cap0, rfl, fun i hi => ?_⟩⟩
      have := hF i hi
      rw [Go.WideShapes.add_plain] at this
      exact this
end
end Go.Proofs.Ytfiaciniikcacaa
