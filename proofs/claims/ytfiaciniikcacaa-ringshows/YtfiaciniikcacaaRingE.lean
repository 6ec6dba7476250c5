/-
  A script of the statements of package ring, opened: the slice of its steps, step by step; and whether it is heavy. No statement is proved here.
-/
import Derived.Test.YtfiaciniikcacaaRingD
import Derived.ProofKit
import Derived.OpenShut
import Derived.Carry
import Derived.Deep.Slices
namespace Go.Proofs.Ytfiaciniikcacaa
open Go.ChangeShapes Go.WideShapes Go.ChangeAt Go.RowKit Go.Deep Go.BigFrame
set_option linter.unusedVariables false
set_option linter.unusedSimpArgs false
set_option maxRecDepth 1000000
set_option maxHeartbeats 4000000

/-- One step of a script. -/
structure St where
  D : Int
  Lv : Value
  xs : List Bf
  A : Nat
  S : ByteArray
  N : Nat
  X : Nat
theorem Bufs.fr0 {w w' : World} {v : Value} {xs : List Bf} (h : Bufs w v xs) (hF : Fr [] w w') : Bufs w' v xs := by
  rcases h with h | ⟨b, o, cap, h1, h2, h3⟩
  · exact .inl h
  · exact .inr ⟨b, o, cap, h1, h2, fun i hi => (h3 i hi).fr hF (by simp)⟩
theorem Bufs.form {w : World} {v : Value} {xs : List Bf} (h : Bufs w v xs) : ∃ p c, v = .slice p xs.length c := by
  rcases h with ⟨p, c, h1, h2⟩ | ⟨b, o, cap, h1, h2, h3⟩
  · exact ⟨p, c, by rw [h1, h2]; rfl⟩
  · exact ⟨_, _, h1⟩
structure StepAt (w : World) (b o : Nat) (s : St) : Prop where
  c0 : w.cell? ⟨b, o, none⟩ = some (.int .i64 s.D)
  c1 : w.cell? ⟨b, o + 1, none⟩ = some s.Lv
  c2 : w.cell? ⟨b, o + 2, none⟩ = some (.int .u32 (s.A : Nat))
  c3 : w.cell? ⟨b, o + 3, none⟩ = some (.string s.S)
  c4 : w.cell? ⟨b, o + 4, none⟩ = some (.int .u8 (s.N : Nat))
  c5 : w.cell? ⟨b, o + 5, none⟩ = some (.int .u32 (s.X : Nat))
  bufs : Bufs w s.Lv s.xs
  hA : s.A < 4294967296
  hN : s.N < 256
  hX : s.X < 4294967296
  hS : s.S.size ≤ 140737488351232
  hL : s.xs.length ≤ 140737488351232
theorem StepAt.fr {w w' : World} {b o : Nat} {s : St} (h : StepAt w b o s) (hF : Fr [] w w') : StepAt w' b o s :=
  ⟨hF.cell h.c0 (by simp), hF.cell h.c1 (by simp), hF.cell h.c2 (by simp), hF.cell h.c3 (by simp), hF.cell h.c4 (by simp), hF.cell h.c5 (by simp), h.bufs.fr0 hF, h.hA, h.hN, h.hX, h.hS, h.hL⟩
def Steps (w : World) (v : Value) (len : Nat) (F : Nat → St) : Prop :=
  len ≤ maxLen ∧ ((∃ p c, v = .slice p 0 c ∧ len = 0) ∨ ∃ b o cap, v = .slice (some ⟨b, o, none⟩) len cap ∧ ∀ i, i < len → StepAt w b (o + i * 6) (F i))
/-- How much i steps have. -/
def hv (F : Nat → St) : Nat → Nat
  | 0 => 0
  | i + 1 => hv F i + (F i).S.size + 4 * (F i).xs.length
theorem hv_le (F : Nat → St) (K : Nat) : ∀ i, (∀ j, j < i → (F j).S.size ≤ K ∧ (F j).xs.length ≤ K) → hv F i ≤ i * (5 * K)
  | 0, _ => by simp [hv]
  | i + 1, h => by
    have ih := hv_le F K i (fun j hj => h j (by omega))
    have := h i (by omega)
    rw [hv, Nat.add_mul, Nat.one_mul]
    omega
theorem hv_mono (F : Nat → St) : ∀ j i, i < j → (F i).S.size + 4 * (F i).xs.length ≤ hv F j
  | 0, i, h => by omega
  | j + 1, i, h => by
    rw [hv]
    rcases Nat.lt_or_ge i j with g | g
    · have := hv_mono F j i g; omega
    · obtain rfl : i = j := by omega
      omega
theorem heavy_any (v : Value) (len : Nat) (F : Nat → St) (w : World) (h : Steps w v len F) :
    Calls Try.prog 7 #[v] w fun e w' => ∃ b, e = .returned (.bool b) ∧ (b = false → len ≤ 200 ∧ hv F len ≤ 16384) ∧ Fr [] w w' := by
  obtain ⟨hl, ⟨p, c, rfl, rfl⟩ | ⟨b, o, cap, rfl, hS⟩⟩ := h
  · go_enter Try.func7, Try.ntmps7
    go_wp2
    refine wp_loop_rounds 1 ?_
    rw [rounds_succ]; go_wp2
    go_ret
    exact ⟨false, rfl, fun _ => ⟨by omega, by simp [hv]⟩, Fr.refl _ _⟩
  · have HS := hid hS
    clear hS
    unfold maxLen at hl
    go_enter Try.func7, Try.ntmps7
    go_wp2_with fail
    go_loopg [3, 4] len (fun gk s q wr => ∃ i n : Nat, i ≤ len ∧ i ≤ 300 ∧ gk = len - i ∧ s = .int .i64 n ∧ q = .int .i64 i ∧ Hid (n = hv F i ∧ Fr [] w wr))
    case atStart => exact ⟨0, 0, Nat.zero_le _, Nat.zero_le _, rfl, rfl, rfl, hid ⟨rfl, Fr.refl _ _⟩⟩
    case round =>
      obtain ⟨i, n, hi, hi3, hgk, rfl, rfl, K0⟩ := hrel
      have hnb : n ≤ 211106232526848000 := by
        rw [K0.out.1]
        have := hv_le F 140737488351232 i (fun j hj => ⟨(HS.out j (by omega)).hS, (HS.out j (by omega)).hL⟩)
        omega
      by_cases hlt : i < len ∧ i < 300
      · obtain ⟨hlt, hlt3⟩ := hlt
        have hlt' : (i : Int) < (len : Int) := by omega
        have hlt3' : decide ((i : Int) < 300) = true := by simp; omega
        have r := (HS.out i hlt).fr K0.out.2
        have r1 := r.c1
        have r3 := r.c3
        have hsz := r.hS
        have hxl := r.hL
        obtain ⟨p, c, hf⟩ := r.bufs.form
        rw [hf] at r1
        have HV := hid (show hv F (i + 1) = hv F i + (F i).S.size + 4 * (F i).xs.length from rfl)
        clear r hf
        generalize (F i).S = S at *
        generalize (F i).xs.length = L at *
        go_wp2_with fail
        go_quiet (fail)
        go_wp2
        go_roundg (len - (i + 1))
        case measure => omega
        case rel => exact ⟨i + 1, n + S.size + 4 * L, by omega, by omega, rfl, by go_num, by go_num, hid ⟨by rw [HV.out, K0.out.1], K0.out.2.drewN _⟩⟩
      · have HK := hid K0.out
        by_cases h2 : 200 < len
        · have d2 : decide ((200 : Int) < (len : Int)) = true := by simp; omega
          go_wp2
          all_goals
            go_ret
            exact ⟨true, rfl, fun h => (by cases h), HK.out.2⟩
        · have d2 : decide ((200 : Int) < (len : Int)) = false := by simp; omega
          obtain rfl : i = len := by omega
          by_cases h3 : 16384 < n
          · have d3 : decide ((16384 : Int) < (n : Int)) = true := by simp; omega
            go_wp2
            go_ret
            exact ⟨true, rfl, fun h => (by cases h), HK.out.2⟩
          · have d3 : decide ((16384 : Int) < (n : Int)) = false := by simp; omega
            go_wp2
            go_ret
            exact ⟨false, rfl, fun _ => ⟨by omega, by rw [← HK.out.1]; omega⟩, HK.out.2⟩
theorem cells36 : Try.prog.cellsOf 36 = 6 := by kernel_rfl
theorem cells59 : Try.prog.cellsOf 59 = 3 := by kernel_rfl
theorem cells3 : Try.prog.cellsOf 3 = 1 := by kernel_rfl
theorem cells34 : Try.prog.cellsOf 34 = 1 := by kernel_rfl
theorem cells32 : Try.prog.cellsOf 32 = 1 := by kernel_rfl
theorem cells9 : Try.prog.cellsOf 9 = 1 := by kernel_rfl
theorem cells5 : Try.prog.cellsOf 5 = 1 := by kernel_rfl
theorem cells4 : Try.prog.cellsOf 4 = 1 := by kernel_rfl
theorem bytes59 : Try.prog.bytesOf 59 = 12 := by kernel_rfl
theorem wf_bounds {k : IntKind} {n : Int} (h : (Lit.int k n).wf = true) : k.min ≤ n ∧ n ≤ k.max := by simpa [Lit.wf] using h
section
variable {H : Type} {enc : TypeId × Value → H} {w : World} {base : Nat} {held : Bool}
theorem weightsAll_mem {P : Program} {e : TypeId} : ∀ (l : List (DataW H)) (d : DataW H), d ∈ l → ∀ x, x ∈ d.weights P e → x ∈ DataW.weightsAll P e l
  | [], d, h, _, _ => by cases h
  | y :: ys, d, h, x, hx => by
    rw [DataW.weightsAll]
    rcases List.mem_cons.1 h with rfl | h
    · exact List.mem_append.2 (.inl hx)
    · exact List.mem_append.2 (.inr (weightsAll_mem ys d h x hx))
/-- One buffer, opened. -/
theorem open_buf {spare : Nat → Bool} {fuel : Nat} {a : Addr} {cs : List Value} {x : DataW H × List MemPlace} (hc : w.cells? base a 3 = some cs) (h : DataW.trod enc Try.prog w base spare held fuel 59 cs = some x) :
    a.spot = none ∧ ∃ s : Bf, BufAt w a.block a.off s := by
  obtain ⟨_, hlen, hcell⟩ := World.cells?_some hc
  obtain ⟨xs, k, hk, hxy, _, hxl, hf⟩ := DataW.trod_struct Try.underlying59 h
  match xs, hxl, cs, hlen with
  | [y0, y1, y2], _, [v0, v1, v2], _ =>
    have f0 := hf 0 _ rfl
    have f1 := hf 1 _ rfl
    have f2 := hf 2 _ rfl
    simp [cells32, cells4] at f0 f1 f2
    obtain ⟨n0, e0, _, w0⟩ := DataW.trod_int Try.underlying32 f0
    obtain ⟨n1, e1, _, w1⟩ := DataW.trod_int Try.underlying32 f1
    obtain ⟨b2, e2, _⟩ := DataW.trod_bool Try.underlying4 f2
    simp only [List.cons.injEq, and_true] at e0 e1 e2
    subst e0; subst e1; subst e2
    have c0 := hcell 0 (by omega)
    have c1 := hcell 1 (by omega)
    have c2 := hcell 2 (by omega)
    obtain ⟨b, off, spot⟩ := a
    have c0' : w.cell? ⟨b, off, spot⟩ = some (.int .u32 n0) := by simpa [Addr.add] using c0
    have hspot : spot = none := World.cell?_spot c0'
    subst hspot
    simp [Addr.add] at c0 c1 c2
    have w0' := wf_bounds w0
    have w1' := wf_bounds w1
    rw [show IntKind.u32.min = 0 from by decide, show IntKind.u32.max = 4294967295 from by decide] at w0' w1'
    refine ⟨rfl, ⟨n0.toNat, n1.toNat, b2⟩, ?_, ?_, c2, ?_, ?_⟩
    · simp; rw [c0]; congr 2; omega
    · simp; rw [c1]; congr 2; omega
    · simp; omega
    · simp; omega
theorem open_bufs {fuel : Nat} {v : Value} {x : DataW H × List MemPlace} (h : DataW.trod enc Try.prog w base (fun _ => true) held fuel 34 [v] = some x) (hw : ∀ y, y ∈ x.1.weights Try.prog 34 → y ≤ reachBytes) : ∃ xs, Bufs w v xs ∧ xs.length ≤ 140737488351232 := by
  rcases open_slice Try.underlying34 h with ⟨hcs, _⟩ | ⟨a, len, cap, m, n, D, Pl, hcs, _, hl, hm, hmm, hx, hall⟩
  · simp at hcs
    exact ⟨[], .inl ⟨none, 0, hcs, rfl⟩, by simp⟩
  · simp at hcs
    subst hcs
    have hle : len ≤ m := by rw [hmm]; simp; exact hl
    have hb : len * 12 ≤ reachBytes := by
      rw [hx] at hw
      have := hw ((((List.range len).map D).length + ((List.range (m - len)).map fun j => D (len + j)).length) * Try.prog.bytesOf 59) (by simp [DataW.weights, Try.underlying34])
      rw [bytes59] at this
      simp at this
      omega
    unfold reachBytes at hb
    rcases Nat.eq_zero_or_pos len with h0 | h0
    · subst h0
      exact ⟨[], .inl ⟨_, _, rfl, rfl⟩, by simp⟩
    · have each : ∀ i, i < len → (a.add (i * 3)).spot = none ∧ ∃ s : Bf, BufAt w (a.add (i * 3)).block (a.add (i * 3)).off s := fun i hi => by
        obtain ⟨cs', h1, h2⟩ := hall i (by omega)
        rw [cells59] at h1
        exact open_buf h1 h2
      obtain ⟨b, off, spot⟩ := a
      have hspot : spot = none := by simpa [Addr.add] using (each 0 h0).1
      subst hspot
      have : Inhabited Bf := ⟨⟨0, 0, false⟩⟩
      obtain ⟨F, hF⟩ := choose_lt (fun i hi => (each i hi).2)
      refine ⟨(List.range len).map F, .inr ⟨b, off, cap, by simp, by simp; exact Nat.le_trans hl hm, fun i hi => ?_⟩, by simp; omega⟩
      have := hF i (by simpa using hi)
      rw [Go.WideShapes.add_plain] at this
      simpa using this
/-- One step, opened. -/
theorem open_step {fuel : Nat} {a : Addr} {cs : List Value} {x : DataW H × List MemPlace} (hc : w.cells? base a 6 = some cs) (h : DataW.trod enc Try.prog w base (fun _ => true) held fuel 36 cs = some x) (hw : ∀ y, y ∈ x.1.weights Try.prog 36 → y ≤ reachBytes) :
    a.spot = none ∧ ∃ s : St, StepAt w a.block a.off s := by
  obtain ⟨_, hlen, hcell⟩ := World.cells?_some hc
  obtain ⟨xs, k, hk, hxy, _, hxl, hf⟩ := DataW.trod_struct Try.underlying36 h
  match xs, hxl, cs, hlen with
  | [y0, y1, y2, y3, y4, y5], _, [v0, v1, v2, v3, v4, v5], _ =>
    have f0 := hf 0 _ rfl
    have f1 := hf 1 _ rfl
    have f2 := hf 2 _ rfl
    have f3 := hf 3 _ rfl
    have f4 := hf 4 _ rfl
    have f5 := hf 5 _ rfl
    simp [cells3, cells34, cells32, cells9, cells5] at f0 f1 f2 f3 f4 f5
    have hW : ∀ y, y ∈ y1.1.weights Try.prog 34 ∨ y ∈ y3.1.weights Try.prog 9 → y ≤ reachBytes := by
      intro y hy
      refine hw y ?_
      rw [hxy]
      simp only [List.map_cons, List.map_nil, DataW.weights, Try.underlying36, DataW.weightsEach, List.mem_append]
      rcases hy with hy | hy
      · exact .inr (.inl hy)
      · exact .inr (.inr (.inr (.inl hy)))
    obtain ⟨n0, e0, _, w0⟩ := DataW.trod_int Try.underlying3 f0
    obtain ⟨bx, hbx, hbl⟩ := open_bufs f1 (fun y hy => hW y (.inl hy))
    obtain ⟨n2, e2, _, w2⟩ := DataW.trod_int Try.underlying32 f2
    obtain ⟨s3, e3, g3, w3⟩ := DataW.trod_string Try.underlying9 f3
    obtain ⟨n4, e4, _, w4⟩ := DataW.trod_int Try.underlying5 f4
    obtain ⟨n5, e5, _, w5⟩ := DataW.trod_int Try.underlying32 f5
    simp only [List.cons.injEq, and_true] at e0 e2 e3 e4 e5
    subst e0; subst e2; subst e3; subst e4; subst e5
    have hs3 : s3.size ≤ 140737488351232 := by
      have := hW s3.size (.inr (by rw [g3]; simp only [DataW.weights]; exact List.mem_singleton.2 rfl))
      unfold reachBytes at this
      omega
    have c0 := hcell 0 (by omega)
    have c1 := hcell 1 (by omega)
    have c2 := hcell 2 (by omega)
    have c3 := hcell 3 (by omega)
    have c4 := hcell 4 (by omega)
    have c5 := hcell 5 (by omega)
    obtain ⟨b, off, spot⟩ := a
    have c0' : w.cell? ⟨b, off, spot⟩ = some (.int .i64 n0) := by simpa [Addr.add] using c0
    have hspot : spot = none := World.cell?_spot c0'
    subst hspot
    simp [Addr.add] at c0 c1 c2 c3 c4 c5
    have w2' := wf_bounds w2
    have w4' := wf_bounds w4
    have w5' := wf_bounds w5
    rw [show IntKind.u32.min = 0 from by decide, show IntKind.u32.max = 4294967295 from by decide] at w2' w5'
    rw [show IntKind.u8.min = 0 from by decide, show IntKind.u8.max = 255 from by decide] at w4'
    refine ⟨rfl, ⟨n0, v1, bx, n2.toNat, s3, n4.toNat, n5.toNat⟩, c0, c1, ?_, c3, ?_, ?_, hbx, ?_, ?_, ?_, hs3, hbl⟩
    · simp; rw [c2]; congr 2; omega
    · simp; rw [c4]; congr 2; omega
    · simp; rw [c5]; congr 2; omega
    · simp; omega
    · simp; omega
    · simp; omega
theorem open_steps {v : Value} {d : DataW H} {ps : List MemPlace} (hv : ∃ a len cap, v = .slice a len cap) (h : DataW.Trod enc Try.prog w base (fun _ => true) held 22 v d ps) (hw : ∀ y, y ∈ d.weights Try.prog 22 → y ≤ reachBytes) : ∃ len F, Steps w v len F := by
  obtain ⟨a0, len0, cap0, rfl⟩ := hv
  obtain ⟨fuel, hf⟩ := h
  rcases open_slice Try.underlying22 hf with ⟨hcs, _⟩ | ⟨a, len, cap, m, n, D, Pl, hcs, _, hl, hm, hmm, hx, hall⟩
  · simp [Value.cells] at hcs
    obtain ⟨rfl, rfl, rfl⟩ := hcs
    exact ⟨0, fun _ => ⟨0, .slice none 0 0, [], 0, ByteArray.empty, 0, 0⟩, Nat.zero_le _, .inl ⟨none, 0, rfl, rfl⟩⟩
  · simp [Value.cells] at hcs
    obtain ⟨rfl, rfl, rfl⟩ := hcs
    have hle : len0 ≤ m := by rw [hmm]; simp; exact hl
    rcases Nat.eq_zero_or_pos len0 with h0 | h0
    · subst h0
      exact ⟨0, fun _ => ⟨0, .slice none 0 0, [], 0, ByteArray.empty, 0, 0⟩, Nat.zero_le _, .inl ⟨_, _, rfl, rfl⟩⟩
    · have each : ∀ i, i < len0 → (a.add (i * 6)).spot = none ∧ ∃ s : St, StepAt w (a.add (i * 6)).block (a.add (i * 6)).off s := fun i hi => by
        obtain ⟨cs', h1, h2⟩ := hall i (by omega)
        rw [cells36] at h1
        refine open_step h1 h2 (fun y hy => hw y ?_)
        cases hx
        simp only [DataW.weights, Try.underlying22, List.mem_cons, List.mem_append]
        exact .inr (.inl (weightsAll_mem _ (D i) (List.mem_map.2 ⟨i, List.mem_range.2 hi, rfl⟩) y hy))
      obtain ⟨b, off, spot⟩ := a
      have hspot : spot = none := by simpa [Addr.add] using (each 0 h0).1
      subst hspot
      have : Inhabited St := ⟨⟨0, .slice none 0 0, [], 0, ByteArray.empty, 0, 0⟩⟩
      obtain ⟨F, hF⟩ := choose_lt (fun i hi => (each i hi).2)
      refine ⟨len0, F, Nat.le_trans hl hm, .inr ⟨b, off, cap0, rfl, fun i hi => ?_⟩⟩
      have := hF i hi
      rw [Go.WideShapes.add_plain] at this
      exact this
end
end Go.Proofs.Ytfiaciniikcacaa

namespace Go.Proofs.Ytfiaciniikcacaa
open Go.RowKit Go.BigFrame Go.MapKept
set_option linter.unusedVariables false
set_option linter.unusedSimpArgs false
set_option maxRecDepth 1000000
set_option maxHeartbeats 4000000

theorem read_all (bM bm bb n : Nat) (lv : Value) (l : List (Nat × Nat)) (bs : List UInt8) (w : World) (hM : MemA w bM bm bb n lv l bs) :
    Calls Try.prog 16 #[.pointer (some ⟨bM, 0, none⟩), .int .u32 0, .int .i64 n] w fun e w' => e = .returned (.tuple #[.string ⟨bs.toArray⟩, .int .i64 0]) ∧ w' = w :=
  (read_ok bM bm bb n 0 n lv l bs w hM (by omega)).mono fun e w' ⟨h1, h2⟩ => ⟨by rw [h1, List.drop_zero, List.take_of_length_le (by rw [hM.len]; exact Nat.le_refl _)], h2⟩
theorem byte_at (bs : List UInt8) (k : Nat) (hk : k < (⟨bs.toArray⟩ : ByteArray).size) : ∃ y1 : Nat, (∀ h : k < (⟨bs.toArray⟩ : ByteArray).size, ((⟨bs.toArray⟩ : ByteArray)[k]'h).toNat = y1) ∧ Hid (∃ u : UInt8, bs[k]? = some u ∧ u.toNat = y1) := by
  have hk' : k < bs.length := hk
  refine ⟨(bs[k]).toNat, fun h => ?_, hid ⟨bs[k], List.getElem?_eq_getElem hk', rfl⟩⟩
  rfl
theorem byte_ne {bs bs' : List UInt8} {k y1 y2 : Nat} (h1 : ∃ u : UInt8, bs'[k]? = some u ∧ u.toNat = y1) (h2 : ∃ u : UInt8, bs[k]? = some u ∧ u.toNat = y2) (h : ¬ y1 = y2) : bs'[k]? ≠ bs[k]? := by
  obtain ⟨u, hu, rfl⟩ := h1
  obtain ⟨x, hx, rfl⟩ := h2
  intro e
  rw [hu, hx] at e
  cases e
  exact h rfl
/-- What the device's writing changes. -/
theorem rdevice_ch (B bR bM bm bb k at_ bT N bC idx pol a : Nat) (Z : Nat → Prop) (brk : Bool) (tk : List Bool) (cs : List Ch) (bs : List UInt8) (s : ByteArray) (w : World) (h : RS B w bR bM bm bb k at_ bT N bC Z idx pol brk tk cs bs) (ha : a < 4294967296) (hs : s.size ≤ maxLen) :
    Calls Try.prog 18 #[.pointer (some ⟨bM, 0, none⟩), .int .u32 a, .string s] w fun e w' => ∃ c bs', e = .returned (.int .i64 c) ∧ RS B w' bR bM bm bb k at_ bT N bC Z idx pol brk tk cs bs' ∧ Fr [bb] w w' ∧ ∀ j, bs'[j]? ≠ bs[j]? → Z j ∨ Cov (cs.flatMap fun c => ivs c.xs) j := by
  have hlen : bs.length = k := by
    obtain ⟨l, ⟨lv, hM, _⟩, _⟩ := h.mem
    exact hM.len
  refine (rdevice_any B bR bM bm bb k at_ bT N bC idx pol a Z brk tk cs bs s w h ha hs).mono ?_
  rintro e w' ⟨c, bs', q1, q2, q3, ⟨rfl, _⟩ | ⟨_, q4, q5, rfl⟩⟩
  · exact ⟨c, bs', q1, q2, q3, fun j hj => absurd rfl hj⟩
  · refine ⟨c, _, q1, q2, q3, fun j hj => ?_⟩
    have hsl : s.data.toList.length = s.size := rfl
    rcases Nat.lt_or_ge j a with h1 | h1
    · exact absurd (wrb_out bs s.data.toList a j (by omega) (.inl h1)) hj
    · rcases Nat.lt_or_ge j (a + s.size) with h2 | h2
      · exact q5 j h1 h2
      · exact absurd (wrb_out bs s.data.toList a j (by omega) (.inr (by omega))) hj
theorem split_len {x : Nat} : ∀ {a a' b b' : List Nat}, a ++ x :: b = a' ++ x :: b' → x ∉ a → x ∉ a' → a.length = a'.length
  | [], [], _, _, _, _, _ => rfl
  | [], y :: a', b, b', h, _, h2 => by
    simp at h
    exact absurd (by simp [h.1]) h2
  | y :: a, [], b, b', h, h1, _ => by
    simp at h
    exact absurd (by simp [h.1]) h1
  | y :: a, z :: a', b, b', h, h1, h2 => by
    simp at h h1 h2
    have := split_len h.2 h1.2 h2.2
    simp [this]
section
variable {w wr w' : World} {bR bM bm bb k at_ bT N bC : Nat} {idx pol idx' pol' : Nat} {brk brk' : Bool} {tk tk' : List Bool} {cs : List Ch} {bs bs' : List UInt8} {v : Value} {n : Nat} {P : Nat → Nat → Bool → List Bool → List Ch → List UInt8 → Prop}
theorem OnceI.keep (hR : RS w.heap.size wr bR bM bm bb k at_ bT N bC (Zr at_ N) idx pol brk tk cs bs) (hn : cs.length = n) (hO : wr.ownsRow w.heap.size 37 1 v n (dvs (cs.map Ch.h))) (hd : ∀ c, c ∈ cs → ∀ g, v.ownBlock = some g → c.dv.ownBlock ≠ some g) (hF : Fr [] w wr)
    (hR' : RS w.heap.size w' bR bM bm bb k at_ bT N bC (Zr at_ N) idx' pol' brk' tk' cs bs') (hK : Kp w.heap.size [bR, bT, bC, bm, bb] wr w') (hP : P idx' pol' brk' tk' cs bs') : OnceI w w' bR bM bm bb k at_ bT N bC v n P :=
  ⟨idx', pol', brk', tk', cs, bs', hR', hn, own37_kp hO hK hR.odd, hd, hF.kpT hK hR.lowS, hP⟩
theorem dvs_append (a b : List Nat) : dvs (a ++ b) = dvs a ++ dvs b := by simp [dvs]
/-- A chain was added, and its head appended to the row. -/
theorem OnceI.added {ch : Ch} {w2 w3 w5 : World} {v' : Value} (hR : RS w.heap.size wr bR bM bm bb k at_ bT N bC (Zr at_ N) idx pol brk tk cs bs) (hn : cs.length = n) (hO : wr.ownsRow w.heap.size 37 1 v n (dvs (cs.map Ch.h))) (hd : ∀ c, c ∈ cs → ∀ g, v.ownBlock = some g → c.dv.ownBlock ≠ some g) (hF : Fr [] w wr) (hF2 : Fr [] wr w2)
    (hfr : ∀ g, ch.dv.ownBlock = some g → w2.heap.size ≤ g) (hR3 : RS w.heap.size w3 bR bM bm bb k at_ bT N bC (Zr at_ N) idx' pol' brk' tk' (cs ++ [ch]) bs') (hK : Kp w.heap.size [bR, bT, bC, bm, bb] w2 w3)
    (hO5 : w5.ownsRow w.heap.size 37 1 v' (n + 1) (dvs (cs.map Ch.h ++ [ch.h]))) (hF5 : Fr v.ownBlock.toList (w3.alloc (.cells #[.int .u16 (ch.h : Nat)] 37)) w5) (hloc : ∀ g', v'.ownBlock = some g' → v.ownBlock = some g' ∨ (w3.alloc (.cells #[.int .u16 (ch.h : Nat)] 37)).heap.size ≤ g') (hP : P idx' pol' brk' tk' (cs ++ [ch]) bs') :
    OnceI w w5 bR bM bm bb k at_ bT N bC v' (n + 1) P := by
  have hvl : ∀ g, v.ownBlock = some g → g < wr.heap.size := fun g hg => (hO.lt g hg).2
  have hO3 : w3.ownsRow w.heap.size 37 1 v n (dvs (cs.map Ch.h)) := own37_kp (own37_kp (B := w.heap.size) (S := []) hO hF2.kp0 (fun t ht => by simp at ht)) hK (hR.fr0 hF2).odd
  have hsep : ∀ c, c ∈ cs ++ [ch] → ∀ g, v.ownBlock = some g → c.dv.ownBlock ≠ some g := fun c hc g hg => by
    rcases List.mem_append.1 hc with hc | hc
    · exact hd c hc g hg
    · simp at hc; subst hc
      intro e
      have := hfr g e
      have := hvl g hg
      have := hF2.size
      omega
  have FA : Fr [] w3 (w3.alloc (.cells #[.int .u16 (ch.h : Nat)] 37)) := (Fr.refl _ _).alloc _
  have hR5 := (hR3.fr0 FA).frOwn (hO3.alloc _) hsep hF5
  refine ⟨idx', pol', brk', tk', cs ++ [ch], bs', hR5, by simp [hn], by simpa using hO5, fun c hc g hg => ?_, ?_, hP⟩
  · rcases hloc g hg with h1 | h1
    · exact hsep c hc g h1
    · intro e
      have := hR3.dvlt hc e
      have := FA.size
      omega
  · have h3 : Fr [] w w3 := (hF.trans0 hF2).kpT hK hR.lowS
    exact (h3.trans0 FA).trans hF5 (fun g hg => .inr (hO3.lt g (by simpa using hg)).1)
/-- A chain was polled, and its head struck from the row, which is a new one. -/
theorem OnceI.polled {c : Ch} {ps qs : List Ch} {w2 w3 w5 : World} {v' : Value} (hR : RS w.heap.size wr bR bM bm bb k at_ bT N bC (Zr at_ N) idx pol brk tk (ps ++ c :: qs) bs) (hn : (ps ++ c :: qs).length = n) (hF : Fr [] w wr)
    (hR2 : RS w.heap.size w2 bR bM bm bb k at_ bT N bC (Zr at_ N) idx' pol' brk' tk' (ps ++ qs) bs') (hK : Kp w.heap.size [bR, bT, bC, bm, bb] wr w2) (hF3 : Fr [] w2 w3)
    (hO5 : w5.ownsRow w.heap.size 37 1 v' (n - 1) (dvs (ps.map Ch.h ++ qs.map Ch.h))) (hF5 : Fr [] w3 w5) (hloc : ∀ g', v'.ownBlock = some g' → w2.heap.size ≤ g') (hP : P idx' pol' brk' tk' (ps ++ qs) bs') :
    OnceI w w5 bR bM bm bb k at_ bT N bC v' (n - 1) P := by
  refine ⟨idx', pol', brk', tk', ps ++ qs, bs', (hR2.fr0 hF3).fr0 hF5, ?_, by simpa using hO5, fun a ha g hg e => ?_, ((hF.kpT hK hR.lowS).trans0 hF3).trans0 hF5, hP⟩
  · simp at hn ⊢; omega
  · have := hR2.dvlt ha e
    have := hloc g hg
    omega
theorem OnceI.waits (h : OnceI w wr bR bM bm bb k at_ bT N bC v n P) : Calls Try.prog 22 #[.pointer (some ⟨bR, 0, none⟩)] wr fun e w' => e = .returned (.int .i64 n) ∧ w' = wr := by
  obtain ⟨idx, pol, brk, tk, cs, bs, hR, hn, _⟩ := h
  rw [← hn]
  exact rwaits_any w.heap.size bR bM bm bb k at_ bT N bC idx pol (Zr at_ N) brk tk cs bs wr hR
theorem add_at (g o j : Nat) : (⟨g, o, none⟩ : Addr).add j = ⟨g, o + j, none⟩ := by unfold Addr.add; split <;> simp_all
theorem dcells_low {W : World} {g : Nat} {ps qs : List Nat} {h : Nat} (hD : DescsAt W g (ps ++ h :: qs)) : ∀ j u, (dvs ps)[j]? = some u → W.cell? ((⟨g, 0, none⟩ : Addr).add j) = some u := by
  intro j u hu
  have hj : j < ps.length := by
    rcases Nat.lt_or_ge j ps.length with h1 | h1
    · exact h1
    · rw [List.getElem?_eq_none (by simpa [dvs] using h1)] at hu; cases hu
  have := hD.cell j (by simp; omega)
  rw [List.getElem_append_left hj] at this
  rw [add_at, Nat.zero_add, this]
  simpa [dvs, hj] using hu
theorem dcells_high {W : World} {g : Nat} {ps qs : List Nat} {h : Nat} (hD : DescsAt W g (ps ++ h :: qs)) : ∀ j u, (dvs qs)[j]? = some u → W.cell? ((⟨g, ps.length + 1, none⟩ : Addr).add j) = some u := by
  intro j u hu
  have hj : j < qs.length := by
    rcases Nat.lt_or_ge j qs.length with h1 | h1
    · exact h1
    · rw [List.getElem?_eq_none (by simpa [dvs] using h1)] at hu; cases hu
  have := hD.cell (ps.length + 1 + j) (by simp; omega)
  rw [add_at, this]
  have e : (ps ++ h :: qs)[ps.length + 1 + j]'(by simp; omega) = qs[j] := by
    rw [List.getElem_append_right (by omega)]
    simp [show ps.length + 1 + j - ps.length = j + 1 by omega]
  rw [e]
  simpa [dvs, hj] using hu
end
end Go.Proofs.Ytfiaciniikcacaa
