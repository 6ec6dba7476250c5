/-
  The walk of the statement SchedFair. No statement is proved here.
-/
import Derived.Test.YtenphgpmdigdcaaFairB
import Derived.Deep.CutBlock
namespace Go.Proofs.Ytenphgpmdigdcaa
open Go.RowKit Go.BigFrame Go.MapKept
set_option linter.unusedVariables false
set_option linter.unusedSimpArgs false
set_option maxRecDepth 1000000
set_option maxHeartbeats 4000000

theorem make_n (n : Nat) (h : n ≤ 20) (w : World) : (Instr.makeSlice 47 (.int .i64 n) (.int .i64 n)).run Try.prog w = .ok (.slice (some ⟨w.heap.size, 0, none⟩) n n) (w.alloc (.cells (madeCells #[.int .i64 0] n) 3)) := by
  obtain ⟨i, hi, hz, hs, hb⟩ := info3
  have := run_make (P := Try.prog) w 47 3 i (.int .i64 0) Try.underlying47 hi hz .i64 .i64 n n (by omega) (by omega) (by rw [hb]; omega) (by omega)
  simpa [hs, Value.cells] using this
theorem madeNats (n : Nat) : madeCells #[.int .i64 0] n = nats (List.replicate n 0) := by
  apply Array.ext'
  rw [toList_madeCells_one]
  simp [nats]
theorem StepAt.bel {w wr : World} {b o : Nat} {s : St} (h : StepAt w b o s) (hB : Below w.heap.size w wr) : StepAt wr b o s := by
  have key : ∀ k v, w.cell? ⟨b, k, none⟩ = some v → wr.cell? ⟨b, k, none⟩ = some v := fun k v hv => (hB.cell (p := ⟨b, k, none⟩) (World.block_lt_of_cell? w _ hv)).trans hv
  exact ⟨key _ _ h.c0, key _ _ h.c1, key _ _ h.c2, key _ _ h.c3, h.hi, h.hn, h.hm⟩
/-- What stands of the spawned. -/
def SpI (w wr : World) (sb p i : Nat) : Prop := ∃ R, SS wr w.heap.size sb p 0 R [] none ∧ R.map Tk.id = List.range i ∧ (∀ t ∈ R, t.pa = 0) ∧ Kq w.heap.size w wr
theorem SpI.spawn {w wr : World} {sb p i : Nat} (h : SpI w wr sb p i) (hi : i < 20) : Calls Try.prog 17 #[.pointer (some ⟨sb, 0, none⟩), .int .u32 (i : Nat)] wr fun e w' => e = .returned (.int .i64 0) ∧ SpI w w' sb p (i + 1) := by
  obtain ⟨R, h1, h2, h3, h4⟩ := h
  have hl : R.length = i := by have := congrArg List.length h2; simpa using this
  refine (spawn_ok h1 i (by omega) (by
    cases hf : fnd (all R [] none []) i with
    | none => rfl
    | some t =>
      obtain ⟨g1, g2⟩ := fnd_some hf
      have : t.id ∈ R.map Tk.id := List.mem_map.2 ⟨t, by simpa [all] using g1, rfl⟩
      rw [h2, g2] at this; simp at this) (by simp [all]; omega)).mono ?_
  rintro e w' ⟨rfl, b, q1, q2⟩
  refine ⟨rfl, _, q1, ?_, fun t ht => ?_, h4.trans q2⟩
  · rw [List.map_append, h2, List.range_succ]; rfl
  · rcases List.mem_append.1 ht with h5 | h5
    · exact h3 t h5
    · simp at h5; subst h5; rfl
/-- What stands of the script's play. -/
def FW (w wr : World) (sb gs p n k : Nat) : Prop := ∃ R W S now, LW w wr sb gs p now R W none S ∧ FI p n R W S ∧ now ≤ k ∧ ∀ m, S.getD m 0 ≤ k
def MW (w wr : World) (sb gs p n k : Nat) : Prop := ∃ R W S now, LW w wr sb gs p now R W none S ∧ MI p n R W S ∧ now ≤ k ∧ ∀ m, S.getD m 0 ≤ k
theorem SpI.begins {w wr : World} {sb p n : Nat} (h : SpI w wr sb p n) (hp : 1 ≤ p) : FW w (wr.alloc (.cells (madeCells #[.int .i64 0] n) 3)) sb wr.heap.size p n 0 := by
  obtain ⟨R, h1, h2, h3, h4⟩ := h
  have hl : R.length = n := by have := congrArg List.length h2; simpa using this
  have hg : ∀ k, (List.replicate n 0).getD k 0 = 0 := fun k => by
    by_cases hk : k < n
    · simp [hk]
    · simp [hk]
  refine ⟨R, [], List.replicate n 0, 0, ⟨h1.fr0 ((Fr.refl _ _).alloc _), ?_, h4.size, (h4.trans ((Fr.refl [] _).alloc _).kq0).below (Nat.le_refl _)⟩, ⟨⟨fun t ht => ?_, by simpa using hl, fun i hi => ?_, fun t ht => by rw [hg]; omega, by simp, by simp⟩, by simp⟩, Nat.le_refl _, fun m => by rw [hg]; omega⟩
  · unfold SinceAt; rw [← madeNats]; exact heap_alloc_new _ _
  · have : t.id ∈ R.map Tk.id := List.mem_map.2 ⟨t, by simpa using ht, rfl⟩
    rw [h2] at this; simpa using this
  · rw [h3 _ (List.getElem_mem hi)]; omega
theorem StepAt.cells {w wr : World} {b o : Nat} {s : St} (h : StepAt w b o s) (hB : Below w.heap.size w wr) : wr.cell? ⟨b, o, none⟩ = some (.int .i64 s.d) ∧ wr.cell? ⟨b, o + 1, none⟩ = some (.int .u32 (s.i : Nat)) ∧ wr.cell? ⟨b, o + 2, none⟩ = some (.int .u64 (s.n : Nat)) ∧ wr.cell? ⟨b, o + 3, none⟩ = some (.int .i64 s.m) :=
  ⟨(h.bel hB).c0, (h.bel hB).c1, (h.bel hB).c2, (h.bel hB).c3⟩
theorem MW.mk {w wr : World} {sb gs p n k now : Nat} {R W : List Tk} {S : List Nat} (h1 : LW w wr sb gs p now R W none S) (h2 : MI p n R W S) (h3 : now ≤ k) (h4 : ∀ m, S.getD m 0 ≤ k) : MW w wr sb gs p n k := ⟨R, W, S, now, h1, h2, h3, h4⟩
/-- The calls from what stands: each leaves it so. -/
theorem mw_now {w wr w' : World} {sb gs p n k now : Nat} {R W : List Tk} {X : Option Tk} {S : List Nat} (h1 : LW w wr sb gs p now R W X S) (hF : Fr [] wr w') : Calls Try.prog 13 #[.pointer (some ⟨sb, 0, none⟩)] w' fun e w'' => e = .returned (.int .u64 (now : Nat)) ∧ w'' = w' := now_any (h1.fr0 hF).ss
theorem mw_tick {w wr w' : World} {sb gs p n k now : Nat} {R W : List Tk} {S : List Nat} {b o : Nat} {s : St} (h1 : LW w wr sb gs p now R W none S) (h2 : MI p n R W S) (h3 : now ≤ k) (h4 : ∀ m, S.getD m 0 ≤ k) (hn : n ≤ 20) (hk : k ≤ 100000) (hS : StepAt w b o s) (hF : Fr [] wr w') (z : Int) (hz : (now : Int) ≤ z ∧ z ≤ now + 4) :
    Calls Try.prog 19 #[.pointer (some ⟨sb, 0, none⟩), .int .u64 z] w' fun e w'' => e = .returned (.int .i64 0) ∧ (w''.cell? ⟨b, o, none⟩ = some (.int .i64 s.d) ∧ w''.cell? ⟨b, o + 1, none⟩ = some (.int .u32 (s.i : Nat)) ∧ w''.cell? ⟨b, o + 2, none⟩ = some (.int .u64 (s.n : Nat)) ∧ w''.cell? ⟨b, o + 3, none⟩ = some (.int .i64 s.m)) ∧ Hid (MW w w'' sb gs p n (k + 4)) := by
  obtain ⟨t, rfl⟩ : ∃ t : Nat, z = (t : Nat) := ⟨z.toNat, by omega⟩
  refine (lw_tick (h1.fr0 hF) h2 hn t (by omega) (by omega)).mono ?_
  rintro e w'' ⟨rfl, R', W', q1, q2⟩
  exact ⟨rfl, hS.cells q1.bel, .mk q1 q2 (by omega) (fun m => by have := h4 m; omega)⟩
theorem mw_wake {w wr w' : World} {sb gs p n k now : Nat} {R W : List Tk} {S : List Nat} {b o : Nat} {s : St} (h1 : LW w wr sb gs p now R W none S) (h2 : MI p n R W S) (h3 : now ≤ k) (h4 : ∀ m, S.getD m 0 ≤ k) (hS : StepAt w b o s) (hF : Fr [] wr w') (z most : Int) (hz : 0 ≤ z) :
    Calls Try.prog 22 #[.pointer (some ⟨sb, 0, none⟩), .int .u32 z, .int .i64 most] w' fun e w'' => ∃ c : Int, e = .returned (.int .i64 c) ∧ (w''.cell? ⟨b, o, none⟩ = some (.int .i64 s.d) ∧ w''.cell? ⟨b, o + 1, none⟩ = some (.int .u32 (s.i : Nat)) ∧ w''.cell? ⟨b, o + 2, none⟩ = some (.int .u64 (s.n : Nat)) ∧ w''.cell? ⟨b, o + 3, none⟩ = some (.int .i64 s.m)) ∧ Hid (MW w w'' sb gs p n (k + 4)) := by
  obtain ⟨t, rfl⟩ : ∃ t : Nat, z = (t : Nat) := ⟨z.toNat, by omega⟩
  refine (lw_wake (h1.fr0 hF) h2 t most).mono ?_
  rintro e w'' ⟨c, rfl, R', W', q1, q2⟩
  exact ⟨c, rfl, hS.cells q1.bel, .mk q1 q2 (by omega) (fun m => by have := h4 m; omega)⟩
theorem upd_bd {S : List Nat} {i k : Nat} (h4 : ∀ m, S.getD m 0 + 1 ≤ k) : ∀ m, ((incs S S.length).set i 0).getD m 0 ≤ k := fun m => by
  rw [set_get, incs_get]
  have := h4 m
  split
  · omega
  · split <;> omega
theorem mw_pick {w wr : World} {sb gs p n now nn : Nat} {R W : List Tk} {S : List Nat} (h : LW w wr sb gs p now R W none S) (hI : FI p n R W S) (hn : n ≤ 20) (hp : p ≤ 20) (hR : R ≠ []) (hnn : nn < 18446744073709551616) :
    Calls Try.prog 18 #[.pointer (some ⟨sb, 0, none⟩), .int .u64 (nn : Nat)] wr fun e w' => ∃ (k : Nat) (hk : k < R.length) (id x : Nat), e = .returned (.tuple #[.int .u32 (id : Nat), .int .i64 0]) ∧ (id : Int) < (n : Int) ∧ ¬ (n : Int) ≤ (id : Int) ∧ decide ((p : Int) + (n : Int) < (x : Int)) = false ∧ w'.cell? ⟨gs, id, none⟩ = some (.int .i64 (x : Nat)) ∧ Hid (id = R[k].id ∧ Turn p R nn k ∧ LW w w' sb gs p now ((R.eraseIdx k).map Tk.bump) W (some { R[k] with st := 2 }) S) := by
  refine (lw_pick h hI hn hp hR nn hnn).mono ?_
  rintro e w' ⟨k, hk, rfl, hT, h1⟩
  have h2 := hI.1.idr R[k] (by simp)
  have h3 := hI.1.le R[k] (List.getElem_mem hk)
  exact ⟨k, hk, R[k].id, S.getD R[k].id 0, rfl, by omega, by omega, (by rw [decide_eq_false_iff_not]; omega), h1.si.cell _ (by rw [hI.1.sl]; exact h2), rfl, hT, h1⟩
theorem LW.inc {w wr : World} {sb gs p now : Nat} {R W : List Tk} {X : Option Tk} {S : List Nat} {k : Nat} (h : LW w wr sb gs p now R W X (incs S k)) (hk : k < S.length) : LW w (wr.setCell ⟨gs, k, none⟩ (.int .i64 (((incs S k).getD k 0 : Nat) + 1))) sb gs p now R W X (incs S (k + 1)) := by
  have h1 := incs_succ S k hk
  have e : (incs S k).getD k 0 = S[k] := by rw [List.getD_eq_getElem?_getD, h1.2]; rfl
  rw [h1.1, ← e]
  exact h.set k _ _ rfl
theorem incs_bd {S : List Nat} {k b : Nat} (h4 : ∀ m, S.getD m 0 ≤ b) (hk : k < S.length) : (incs S k).getD k 0 ≤ b := by
  have h1 := incs_succ S k hk
  have e : (incs S k).getD k 0 = S.getD k 0 := by rw [List.getD_eq_getElem?_getD, h1.2]; simp [hk]
  rw [e]; exact h4 k
theorem mw_yield {w wr : World} {sb gs p n nn kk k now : Nat} {R W : List Tk} {S : List Nat} {b o : Nat} {s : St} (hI : FI p n R W S) (hN : ((R ++ W).map Tk.id).Nodup) (hT : Turn p R nn kk) (hk : kk < R.length) (hp : 1 ≤ p) (h1 : LW w wr sb gs p now ((R.eraseIdx kk).map Tk.bump) W (some { R[kk] with st := 2 }) ((incs S S.length).set R[kk].id 0)) (h3 : now ≤ k) (h4 : ∀ m, S.getD m 0 + 1 ≤ k) (hS : StepAt w b o s) :
    Calls Try.prog 21 #[.pointer (some ⟨sb, 0, none⟩)] wr fun e w'' => e = .returned (.int .i64 0) ∧ (w''.cell? ⟨b, o, none⟩ = some (.int .i64 s.d) ∧ w''.cell? ⟨b, o + 1, none⟩ = some (.int .u32 (s.i : Nat)) ∧ w''.cell? ⟨b, o + 2, none⟩ = some (.int .u64 (s.n : Nat)) ∧ w''.cell? ⟨b, o + 3, none⟩ = some (.int .i64 s.m)) ∧ Hid (MW w w'' sb gs p n k) := by
  refine (yield_ok h1.ss).mono ?_
  rintro e w'' ⟨rfl, q1, q2⟩
  have q3 := h1.kq q1 q2
  exact ⟨rfl, hS.cells q3.bel, .mk q3 (hI.yields hN hT hk hp _ rfl rfl) h3 (upd_bd h4)⟩
theorem mw_wait {w wr w' : World} {sb gs p n nn kk k now : Nat} {R W : List Tk} {S : List Nat} {b o : Nat} {s : St} (hI : FI p n R W S) (hN : ((R ++ W).map Tk.id).Nodup) (hT : Turn p R nn kk) (hk : kk < R.length) (h1 : LW w wr sb gs p now ((R.eraseIdx kk).map Tk.bump) W (some { R[kk] with st := 2 }) ((incs S S.length).set R[kk].id 0)) (h3 : now ≤ k) (h4 : ∀ m, S.getD m 0 + 1 ≤ k) (hk2 : k ≤ 100000) (hS : StepAt w b o s) (hF : Fr [] wr w') (z u : Int) (hz : 0 ≤ z ∧ z < 10) (hu : (now : Int) < u ∧ u ≤ now + 10) :
    Calls Try.prog 20 #[.pointer (some ⟨sb, 0, none⟩), .int .u32 z, .int .u64 u] w' fun e w'' => e = .returned (.int .i64 0) ∧ (w''.cell? ⟨b, o, none⟩ = some (.int .i64 s.d) ∧ w''.cell? ⟨b, o + 1, none⟩ = some (.int .u32 (s.i : Nat)) ∧ w''.cell? ⟨b, o + 2, none⟩ = some (.int .u64 (s.n : Nat)) ∧ w''.cell? ⟨b, o + 3, none⟩ = some (.int .i64 s.m)) ∧ Hid (MW w w'' sb gs p n k) := by
  obtain ⟨t, rfl⟩ : ∃ t : Nat, z = (t : Nat) := ⟨z.toNat, by omega⟩
  obtain ⟨v, rfl⟩ : ∃ t : Nat, u = (t : Nat) := ⟨u.toNat, by omega⟩
  have h5 := h1.fr0 hF
  refine (wait_ok h5.ss t v (by omega) (.inr ⟨by omega, by omega⟩)).mono ?_
  rintro e w'' ⟨rfl, q1, q2⟩
  have q3 := h5.kq q1 q2
  exact ⟨rfl, hS.cells q3.bel, .mk q3 (hI.waits hN hT hk _ rfl) h3 (upd_bd h4)⟩
theorem schedFair_walk (a b : Nat) (ha : a ≤ 255) (hb : b ≤ 255) (v : Value) (len : Nat) (F : Nat → St) (w : World) (hS : Steps w v len F) :
    Calls Try.prog 4 #[.int .u8 (a : Nat), .int .u8 (b : Nat), v] w fun e w' => e = .returned (.bool true) ∧ Below w.heap.size w w' := by
  obtain ⟨pv, cv, hv⟩ : ∃ p c, v = .slice p len c := by
    rcases hS.2 with ⟨p, c, h1, h2⟩ | ⟨b, o, c, h1, _⟩
    · exact ⟨p, c, by rw [h1, h2]⟩
    · exact ⟨_, c, h1⟩
  subst hv
  by_cases hl : 400 < len
  · have hl' : (400 : Int) < (len : Int) := by omega
    clear hS
    go_enter Try.func4, Try.ntmps4
    go_wp2_with (go_at_call 7; refine (works_any _).mono ?_; rintro e w6 ⟨rfl, hK6⟩)
    go_ret
    exact ⟨rfl, hK6.below (Nat.le_refl _)⟩
  · have hl' : ¬ (400 : Int) < (len : Int) := by omega
    obtain ⟨p, hp⟩ : ∃ p, p = a % 20 + 1 := ⟨_, rfl⟩
    obtain ⟨n, hn⟩ : ∃ n, n = b % 20 + 1 := ⟨_, rfl⟩
    have e1 : (a : Int) % 20 + 1 = (p : Int) := by omega
    have e2 : (b : Int) % 20 + 1 = (n : Int) := by omega
    have hp1 : 1 ≤ p ∧ p ≤ 20 := by omega
    have hn1 : 1 ≤ n ∧ n ≤ 20 := by omega
    have HT := hid (p := _) (show ∀ i, i < len → ∃ g o, pv = some ⟨g, o, none⟩ ∧ StepAt w g (o + i * 4) (F i) from fun i hi => by
      rcases hS.2 with ⟨p, c, h1, h2⟩ | ⟨g, o, c, h1, h2⟩
      · omega
      · simp at h1; exact ⟨g, o, h1.1, h2 i hi⟩)
    have hmk := make_n n hn1.2
    clear hS hp hn
    go_enter Try.func4, Try.ntmps4
    go_wp2_with (go_at_call 8; refine (new_ok p _ hp1.1 (by omega)).mono ?_; rintro e w0 ⟨sb, rfl, hS0, hF0⟩)
    have K0 := hid (p := _) (show SpI w w0 sb p 0 from ⟨[], hS0 _ (Nat.le_refl _), by simp, by simp, hF0.kq0⟩)
    clear hS0 hF0
    go_loopg [11] n (fun gk q wr => ∃ i : Nat, i ≤ n ∧ gk = n - i ∧ q = .int .i64 i ∧ Hid (SpI w wr sb p i))
    case atStart => exact ⟨0, Nat.zero_le _, rfl, rfl, K0⟩
    case round =>
      obtain ⟨i, hi, hgk, rfl, K⟩ := hrel
      by_cases hlt : i < n
      · have hlt' : (i : Int) < (n : Int) := by omega
        have e3 : IntKind.u32.wrap (i : Int) = (i : Int) := by rw [IntKind.wrap_u32]; omega
        go_wp2_with (go_at_call 17; refine (K.out.spawn (by omega)).mono ?_; rintro e w5 ⟨rfl, K5⟩)
        go_roundg (n - (i + 1))
        case measure => omega
        case rel => exact ⟨i + 1, by omega, rfl, by go_num, K5⟩
      · obtain rfl : i = n := by omega
        go_wp2_with fail
        have HB := hid (p := _) (K.out.begins hp1.1)
        generalize wr.alloc (.cells (madeCells #[.int .i64 0] i) 3) = w1 at *
        generalize wr.heap.size = gs at *
        clear K hmk
        go_loopg [13] len (fun gk q wr => ∃ j : Nat, j ≤ len ∧ gk = len - j ∧ q = .int .i64 j ∧ Hid (FW w wr sb gs p i (10 * j)))
        case atStart => exact ⟨0, Nat.zero_le _, rfl, rfl, HB⟩
        case round =>
          obtain ⟨j, hj, hgk2, rfl, K⟩ := hrel
          by_cases hlt : j < len
          · have hlt' : (j : Int) < (len : Int) := by omega
            obtain ⟨g, o, rfl, hst⟩ := HT.out j hlt
            obtain ⟨R, W, S, now, hLW, hFI, hnow, hbd⟩ := K.out
            have HST := hid (p := _) hst
            obtain ⟨r0, r1, r2, r3⟩ := hst.cells hLW.bel
            have hsn := hst.hn
            have hn1' := hn1
            clear hst K
            generalize F j = s at *
            obtain ⟨D, I, N, M⟩ := s
            simp only at r0 r1 r2 r3 hsn
            have HSN := hid (p := _) hsn
            have tm1 : (I : Int).tmod 4 = (I : Int) % 4 := Int.tmod_eq_emod_of_nonneg (by omega)
            have tm2 : (N : Int).tmod 4 = (N : Int) % 4 := Int.tmod_eq_emod_of_nonneg (by omega)
            have tm3 : (N : Int).tmod 5 = (N : Int) % 5 := Int.tmod_eq_emod_of_nonneg (by omega)
            clear hsn
            by_cases hR : R = []
            · subst hR
              have H18 := hid (p := _) (pick_none hLW.ss (N : Int))
              have H13 := hid (p := _) (mw_now (n := i) (k := 0) hLW (Fr.refl [] _))
              have H19 := hid (p := _) (mw_tick hLW hFI.1 hnow hbd hn1'.2 (by omega) HST.out (Fr.refl [] _) ((now : Int) + 1) ⟨by omega, by omega⟩)
              have u0 : IntKind.u64.wrap ((now : Int) + 1) = (now : Int) + 1 := by rw [IntKind.wrap_u64]; omega
              clear hLW hFI hbd
              by_cases hd5 : D = 5
              · subst hd5
                go_wp2_with (first
                  | (go_at_call 18; refine H18.out.mono ?_; rintro e w5 ⟨rfl, hw5⟩; subst hw5)
                  | (go_at_call 13; refine H13.out.mono ?_; rintro e w5 ⟨rfl, hw5⟩; subst hw5)
                  | (go_at_call 19; refine H19.out.mono ?_; rintro e w6 ⟨rfl, ⟨x0, x1, x2, x3⟩, K6⟩))
                obtain ⟨R1, W1, S1, now1, hL1, hM1, hnw1, hbd1⟩ := K6.out
                have H13b := hid (p := _) (fun V' (hF : Fr [] w6 V') => mw_now (n := i) (k := 0) hL1 hF)
                have H19b := hid (p := _) (fun V' (hF : Fr [] w6 V') (z : Int) (hz : (now1 : Int) ≤ z ∧ z ≤ now1 + 4) => mw_tick hL1 hM1 hnw1 hbd1 hn1'.2 (by omega) HST.out hF z hz)
                have H22b := hid (p := _) (fun V' (hF : Fr [] w6 V') (z most : Int) (hz : 0 ≤ z) => mw_wake hL1 hM1 hnw1 hbd1 HST.out hF z most hz)
                have hnb : (now1 : Int) ≤ 100000 := by omega
                clear hL1 hM1 hbd1
                go_region_held (fun V' => V'.cell? ⟨g, o + j * 4, none⟩ = some (.int .i64 5) ∧ V'.cell? ⟨g, o + j * 4 + 1, none⟩ = some (.int .u32 (I : Nat)) ∧ V'.cell? ⟨g, o + j * 4 + 2, none⟩ = some (.int .u64 (N : Nat)) ∧ V'.cell? ⟨g, o + j * 4 + 3, none⟩ = some (.int .i64 M)) (go_keep)
                  (first | (go_at_call 22; refine (H22b.out _ ((Fr.refl [] _).drew) _ _ (by omega)).mono ?_; rintro e w7 ⟨c7, rfl, ⟨y0, y1, y2, y3⟩, K7⟩))
                obtain ⟨R9, W9, S9, now9, hL9, hM9, hn9, hb9⟩ := K7.out
                have HL9 := hid (p := _) (show LW w _ sb gs p now9 R9 W9 none S9 ∧ MI p i R9 W9 S9 ∧ (∀ t ∈ W9, t.id < 0 → S9.getD t.id 0 = 0) ∧ ∀ m, S9.getD m 0 ≤ 10 * j + 8 from ⟨hL9, hM9, by omega, fun m => by have := hb9 m; omega⟩)
                have HN9 := hid (p := _) hn9
                clear hL9 hM9 hn9 hb9
                go_wp2_with fail
                go_loopg [17] i (fun gk q wr => ∃ k : Nat, k ≤ i ∧ gk = i - k ∧ q = .int .i64 k ∧ Hid (∃ S', LW w wr sb gs p now9 R9 W9 none S' ∧ MI p i R9 W9 S' ∧ (∀ t ∈ W9, t.id < k → S'.getD t.id 0 = 0) ∧ ∀ m, S'.getD m 0 ≤ 10 * j + 8))
                case atStart => exact ⟨0, Nat.zero_le _, rfl, rfl, hid ⟨S9, HL9.out⟩⟩
                case round =>
                  obtain ⟨k, hk, hgk3, rfl, K9⟩ := hrel
                  obtain ⟨S', hL', hM', hZ', hB'⟩ := K9.out
                  by_cases hlt3 : k < i
                  · have hlt3' : (k : Int) < (i : Int) := by omega
                    have e3 : IntKind.u32.wrap (k : Int) = (k : Int) := by rw [IntKind.wrap_u32]; omega
                    have H23 := hid (p := _) (state_any hL'.ss k)
                    have c9 := hL'.si.cell k (by rw [hM'.sl]; exact hlt3)
                    have f9 := hL'.si.froz k
                    rcases hL'.st k with ⟨q1, ⟨t, ht, hti⟩, q2⟩ | ⟨q1, q2⟩
                    · rw [q1] at H23
                      have hle : (S'.getD k 0 : Int) ≤ (p : Int) + (i : Int) := by have := hM'.le t ht; rw [hti] at this; omega
                      have HR := hid (p := _) (show LW w wr sb gs p now9 R9 W9 none S' ∧ MI p i R9 W9 S' ∧ (∀ t ∈ W9, t.id < k + 1 → S'.getD t.id 0 = 0) ∧ ∀ m, S'.getD m 0 ≤ 10 * j + 8 from ⟨hL', hM', fun t ht h => hZ' t ht (by have := q2 t ht; omega), hB'⟩)
                      clear q1 q2 hti ht hL' hM' hZ' hB' K9
                      generalize S'.getD k 0 = x9 at *
                      have hle2 : ¬ (p : Int) + (i : Int) < (x9 : Int) := by omega
                      go_wp2_with (go_at_call 23; refine H23.out.mono ?_; rintro e w8 ⟨rfl, hw⟩; subst hw)
                      go_roundg (i - (k + 1))
                      case measure => omega
                      case rel => exact ⟨k + 1, by omega, rfl, by go_num, hid ⟨S', HR.out⟩⟩
                    · have HR := hid (p := _) (show LW w (wr.setCell ⟨gs, k, none⟩ (.int .i64 0)) sb gs p now9 R9 W9 none (S'.set k 0) ∧ MI p i R9 W9 (S'.set k 0) ∧ (∀ t ∈ W9, t.id < k + 1 → (S'.set k 0).getD t.id 0 = 0) ∧ ∀ m, (S'.set k 0).getD m 0 ≤ 10 * j + 8 from ⟨hL'.set k 0 0 rfl, hM'.set0 k, fun t ht h => by
                        rw [set_get]
                        split
                        · rfl
                        · rename_i hne
                          exact hZ' t ht (by rw [hM'.sl] at hne; omega), fun m => by rw [set_get]; have := hB' m; split <;> omega⟩)
                      obtain ⟨st, hst9⟩ : ∃ st, st = (fnd (all R9 W9 none []) k).elim 0 Tk.st := ⟨_, rfl⟩
                      rw [← hst9] at H23 q1
                      have q3 : ((st : Int) == 1) = false := by simp; omega
                      have q4 : ¬ (st : Int) = 1 := by omega
                      have hle2 : ¬ (p : Int) + (i : Int) < 0 := by omega
                      clear hst9 q2 hL' hM' hZ' hB' K9
                      generalize S'.getD k 0 = x9 at *
                      go_wp2_with (go_at_call 23; refine H23.out.mono ?_; rintro e w8 ⟨rfl, hw⟩; subst hw)
                      all_goals
                        go_roundg (i - (k + 1))
                        case measure => omega
                        case rel => exact ⟨k + 1, by omega, rfl, by go_num, hid ⟨_, HR.out⟩⟩
                  · obtain rfl : k = i := by omega
                    have HE := hid (p := _) (show FW w wr sb gs p k (10 * (j + 1)) from ⟨R9, W9, S', now9, hL', ⟨hM', fun t ht => hZ' t ht (hM'.idr t (by simp [ht]))⟩, by have := HN9.out; omega, fun m => by have := hB' m; omega⟩)
                    clear hL' hM' hZ' hB' K9
                    go_wp2_with fail
                    go_roundg (len - (j + 1))
                    case measure => omega
                    case rel => exact ⟨j + 1, by omega, rfl, by go_num, HE⟩
              · by_cases hd6 : D = 6
                · subst hd6
                  have u1 : ∀ now1 : Int, 0 ≤ now1 → now1 ≤ 100000 → IntKind.u64.wrap (now1 + (N : Int) % 4) = now1 + (N : Int) % 4 := fun now1 h1 h2 => by rw [IntKind.wrap_u64]; omega
                  go_wp2_with (first
                    | (go_at_call 18; refine H18.out.mono ?_; rintro e w5 ⟨rfl, hw5⟩; subst hw5)
                    | (go_at_call 13; refine H13.out.mono ?_; rintro e w5 ⟨rfl, hw5⟩; subst hw5)
                    | (go_at_call 19; refine H19.out.mono ?_; rintro e w6 ⟨rfl, ⟨x0, x1, x2, x3⟩, K6⟩))
                  obtain ⟨R1, W1, S1, now1, hL1, hM1, hnw1, hbd1⟩ := K6.out
                  have H13b := hid (p := _) (fun V' (hF : Fr [] w6 V') => mw_now (n := i) (k := 0) hL1 hF)
                  have H19b := hid (p := _) (fun V' (hF : Fr [] w6 V') (z : Int) (hz : (now1 : Int) ≤ z ∧ z ≤ now1 + 4) => mw_tick hL1 hM1 hnw1 hbd1 hn1'.2 (by omega) HST.out hF z hz)
                  have H22b := hid (p := _) (fun V' (hF : Fr [] w6 V') (z most : Int) (hz : 0 ≤ z) => mw_wake hL1 hM1 hnw1 hbd1 HST.out hF z most hz)
                  have hnb : (now1 : Int) ≤ 100000 := by omega
                  clear hL1 hM1 hbd1
                  have u2 := u1 now1 (by omega) hnb
                  go_region_held (fun V' => V'.cell? ⟨g, o + j * 4, none⟩ = some (.int .i64 6) ∧ V'.cell? ⟨g, o + j * 4 + 1, none⟩ = some (.int .u32 (I : Nat)) ∧ V'.cell? ⟨g, o + j * 4 + 2, none⟩ = some (.int .u64 (N : Nat)) ∧ V'.cell? ⟨g, o + j * 4 + 3, none⟩ = some (.int .i64 M)) (go_keep)
                    (first | (go_at_call 13; refine (H13b.out _ ((Fr.refl [] _).drew)).mono ?_; rintro e w7 ⟨rfl, hw7⟩; subst hw7) | (go_at_call 19; refine (H19b.out _ ((Fr.refl [] _).drew) _ ⟨by omega, by omega⟩).mono ?_; rintro e w7 ⟨rfl, ⟨y0, y1, y2, y3⟩, K7⟩))
                  obtain ⟨R9, W9, S9, now9, hL9, hM9, hn9, hb9⟩ := K7.out
                  have HL9 := hid (p := _) (show LW w _ sb gs p now9 R9 W9 none S9 ∧ MI p i R9 W9 S9 ∧ (∀ t ∈ W9, t.id < 0 → S9.getD t.id 0 = 0) ∧ ∀ m, S9.getD m 0 ≤ 10 * j + 8 from ⟨hL9, hM9, by omega, fun m => by have := hb9 m; omega⟩)
                  have HN9 := hid (p := _) hn9
                  clear hL9 hM9 hn9 hb9
                  go_wp2_with fail
                  go_loopg [17] i (fun gk q wr => ∃ k : Nat, k ≤ i ∧ gk = i - k ∧ q = .int .i64 k ∧ Hid (∃ S', LW w wr sb gs p now9 R9 W9 none S' ∧ MI p i R9 W9 S' ∧ (∀ t ∈ W9, t.id < k → S'.getD t.id 0 = 0) ∧ ∀ m, S'.getD m 0 ≤ 10 * j + 8))
                  case atStart => exact ⟨0, Nat.zero_le _, rfl, rfl, hid ⟨S9, HL9.out⟩⟩
                  case round =>
                    obtain ⟨k, hk, hgk3, rfl, K9⟩ := hrel
                    obtain ⟨S', hL', hM', hZ', hB'⟩ := K9.out
                    by_cases hlt3 : k < i
                    · have hlt3' : (k : Int) < (i : Int) := by omega
                      have e3 : IntKind.u32.wrap (k : Int) = (k : Int) := by rw [IntKind.wrap_u32]; omega
                      have H23 := hid (p := _) (state_any hL'.ss k)
                      have c9 := hL'.si.cell k (by rw [hM'.sl]; exact hlt3)
                      have f9 := hL'.si.froz k
                      rcases hL'.st k with ⟨q1, ⟨t, ht, hti⟩, q2⟩ | ⟨q1, q2⟩
                      · rw [q1] at H23
                        have hle : (S'.getD k 0 : Int) ≤ (p : Int) + (i : Int) := by have := hM'.le t ht; rw [hti] at this; omega
                        have HR := hid (p := _) (show LW w wr sb gs p now9 R9 W9 none S' ∧ MI p i R9 W9 S' ∧ (∀ t ∈ W9, t.id < k + 1 → S'.getD t.id 0 = 0) ∧ ∀ m, S'.getD m 0 ≤ 10 * j + 8 from ⟨hL', hM', fun t ht h => hZ' t ht (by have := q2 t ht; omega), hB'⟩)
                        clear q1 q2 hti ht hL' hM' hZ' hB' K9
                        generalize S'.getD k 0 = x9 at *
                        have hle2 : ¬ (p : Int) + (i : Int) < (x9 : Int) := by omega
                        go_wp2_with (go_at_call 23; refine H23.out.mono ?_; rintro e w8 ⟨rfl, hw⟩; subst hw)
                        go_roundg (i - (k + 1))
                        case measure => omega
                        case rel => exact ⟨k + 1, by omega, rfl, by go_num, hid ⟨S', HR.out⟩⟩
                      · have HR := hid (p := _) (show LW w (wr.setCell ⟨gs, k, none⟩ (.int .i64 0)) sb gs p now9 R9 W9 none (S'.set k 0) ∧ MI p i R9 W9 (S'.set k 0) ∧ (∀ t ∈ W9, t.id < k + 1 → (S'.set k 0).getD t.id 0 = 0) ∧ ∀ m, (S'.set k 0).getD m 0 ≤ 10 * j + 8 from ⟨hL'.set k 0 0 rfl, hM'.set0 k, fun t ht h => by
                          rw [set_get]
                          split
                          · rfl
                          · rename_i hne
                            exact hZ' t ht (by rw [hM'.sl] at hne; omega), fun m => by rw [set_get]; have := hB' m; split <;> omega⟩)
                        obtain ⟨st, hst9⟩ : ∃ st, st = (fnd (all R9 W9 none []) k).elim 0 Tk.st := ⟨_, rfl⟩
                        rw [← hst9] at H23 q1
                        have q3 : ((st : Int) == 1) = false := by simp; omega
                        have q4 : ¬ (st : Int) = 1 := by omega
                        have hle2 : ¬ (p : Int) + (i : Int) < 0 := by omega
                        clear hst9 q2 hL' hM' hZ' hB' K9
                        generalize S'.getD k 0 = x9 at *
                        go_wp2_with (go_at_call 23; refine H23.out.mono ?_; rintro e w8 ⟨rfl, hw⟩; subst hw)
                        all_goals
                          go_roundg (i - (k + 1))
                          case measure => omega
                          case rel => exact ⟨k + 1, by omega, rfl, by go_num, hid ⟨_, HR.out⟩⟩
                    · obtain rfl : k = i := by omega
                      have HE := hid (p := _) (show FW w wr sb gs p k (10 * (j + 1)) from ⟨R9, W9, S', now9, hL', ⟨hM', fun t ht => hZ' t ht (hM'.idr t (by simp [ht]))⟩, by have := HN9.out; omega, fun m => by have := hB' m; omega⟩)
                      clear hL' hM' hZ' hB' K9
                      go_wp2_with fail
                      go_roundg (len - (j + 1))
                      case measure => omega
                      case rel => exact ⟨j + 1, by omega, rfl, by go_num, HE⟩
                · have z5 : (D == 5) = false := by simpa using hd5
                  have z6 : (D == 6) = false := by simpa using hd6
                  go_wp2_with (first
                    | (go_at_call 18; refine H18.out.mono ?_; rintro e w5 ⟨rfl, hw5⟩; subst hw5)
                    | (go_at_call 13; refine H13.out.mono ?_; rintro e w5 ⟨rfl, hw5⟩; subst hw5)
                    | (go_at_call 19; refine H19.out.mono ?_; rintro e w6 ⟨rfl, ⟨x0, x1, x2, x3⟩, K6⟩))
                  have K7 := hid (p := _) (show MW w w6 sb gs p i (10 * j + 4) from K6.out)
                  obtain ⟨R9, W9, S9, now9, hL9, hM9, hn9, hb9⟩ := K7.out
                  have HL9 := hid (p := _) (show LW w _ sb gs p now9 R9 W9 none S9 ∧ MI p i R9 W9 S9 ∧ (∀ t ∈ W9, t.id < 0 → S9.getD t.id 0 = 0) ∧ ∀ m, S9.getD m 0 ≤ 10 * j + 8 from ⟨hL9, hM9, by omega, fun m => by have := hb9 m; omega⟩)
                  have HN9 := hid (p := _) hn9
                  clear hL9 hM9 hn9 hb9
                  go_wp2_with fail
                  go_loopg [17] i (fun gk q wr => ∃ k : Nat, k ≤ i ∧ gk = i - k ∧ q = .int .i64 k ∧ Hid (∃ S', LW w wr sb gs p now9 R9 W9 none S' ∧ MI p i R9 W9 S' ∧ (∀ t ∈ W9, t.id < k → S'.getD t.id 0 = 0) ∧ ∀ m, S'.getD m 0 ≤ 10 * j + 8))
                  case atStart => exact ⟨0, Nat.zero_le _, rfl, rfl, hid ⟨S9, HL9.out⟩⟩
                  case round =>
                    obtain ⟨k, hk, hgk3, rfl, K9⟩ := hrel
                    obtain ⟨S', hL', hM', hZ', hB'⟩ := K9.out
                    by_cases hlt3 : k < i
                    · have hlt3' : (k : Int) < (i : Int) := by omega
                      have e3 : IntKind.u32.wrap (k : Int) = (k : Int) := by rw [IntKind.wrap_u32]; omega
                      have H23 := hid (p := _) (state_any hL'.ss k)
                      have c9 := hL'.si.cell k (by rw [hM'.sl]; exact hlt3)
                      have f9 := hL'.si.froz k
                      rcases hL'.st k with ⟨q1, ⟨t, ht, hti⟩, q2⟩ | ⟨q1, q2⟩
                      · rw [q1] at H23
                        have hle : (S'.getD k 0 : Int) ≤ (p : Int) + (i : Int) := by have := hM'.le t ht; rw [hti] at this; omega
                        have HR := hid (p := _) (show LW w wr sb gs p now9 R9 W9 none S' ∧ MI p i R9 W9 S' ∧ (∀ t ∈ W9, t.id < k + 1 → S'.getD t.id 0 = 0) ∧ ∀ m, S'.getD m 0 ≤ 10 * j + 8 from ⟨hL', hM', fun t ht h => hZ' t ht (by have := q2 t ht; omega), hB'⟩)
                        clear q1 q2 hti ht hL' hM' hZ' hB' K9
                        generalize S'.getD k 0 = x9 at *
                        have hle2 : ¬ (p : Int) + (i : Int) < (x9 : Int) := by omega
                        go_wp2_with (go_at_call 23; refine H23.out.mono ?_; rintro e w8 ⟨rfl, hw⟩; subst hw)
                        go_roundg (i - (k + 1))
                        case measure => omega
                        case rel => exact ⟨k + 1, by omega, rfl, by go_num, hid ⟨S', HR.out⟩⟩
                      · have HR := hid (p := _) (show LW w (wr.setCell ⟨gs, k, none⟩ (.int .i64 0)) sb gs p now9 R9 W9 none (S'.set k 0) ∧ MI p i R9 W9 (S'.set k 0) ∧ (∀ t ∈ W9, t.id < k + 1 → (S'.set k 0).getD t.id 0 = 0) ∧ ∀ m, (S'.set k 0).getD m 0 ≤ 10 * j + 8 from ⟨hL'.set k 0 0 rfl, hM'.set0 k, fun t ht h => by
                          rw [set_get]
                          split
                          · rfl
                          · rename_i hne
                            exact hZ' t ht (by rw [hM'.sl] at hne; omega), fun m => by rw [set_get]; have := hB' m; split <;> omega⟩)
                        obtain ⟨st, hst9⟩ : ∃ st, st = (fnd (all R9 W9 none []) k).elim 0 Tk.st := ⟨_, rfl⟩
                        rw [← hst9] at H23 q1
                        have q3 : ((st : Int) == 1) = false := by simp; omega
                        have q4 : ¬ (st : Int) = 1 := by omega
                        have hle2 : ¬ (p : Int) + (i : Int) < 0 := by omega
                        clear hst9 q2 hL' hM' hZ' hB' K9
                        generalize S'.getD k 0 = x9 at *
                        go_wp2_with (go_at_call 23; refine H23.out.mono ?_; rintro e w8 ⟨rfl, hw⟩; subst hw)
                        all_goals
                          go_roundg (i - (k + 1))
                          case measure => omega
                          case rel => exact ⟨k + 1, by omega, rfl, by go_num, hid ⟨_, HR.out⟩⟩
                    · obtain rfl : k = i := by omega
                      have HE := hid (p := _) (show FW w wr sb gs p k (10 * (j + 1)) from ⟨R9, W9, S', now9, hL', ⟨hM', fun t ht => hZ' t ht (hM'.idr t (by simp [ht]))⟩, by have := HN9.out; omega, fun m => by have := hB' m; omega⟩)
                      clear hL' hM' hZ' hB' K9
                      go_wp2_with fail
                      go_roundg (len - (j + 1))
                      case measure => omega
                      case rel => exact ⟨j + 1, by omega, rfl, by go_num, HE⟩
            · have H18 := hid (p := _) (mw_pick hLW hFI hn1'.2 hp1.2 hR HSN.out)
              have HND := hid (p := _) hLW.nod
              have HFI := hid (p := _) hFI
              have HBD := hid (p := _) hbd
              have HNW := hid (p := _) hnow
              have hnow' : (now : Int) ≤ 10000 := by omega
              clear hLW hFI hbd hnow hR
              go_wp2_with (go_at_call 18; refine H18.out.mono ?_; rintro e w5 ⟨kk, hkk, id, x, rfl, y1, y2, y3, y4, HP⟩; have y7 : ¬ i ≤ id := (by omega))
              have y5 := HP.out.2.2.si.froz id
              go_loopg [16] i (fun gk q wr => ∃ k : Nat, k ≤ i ∧ gk = i - k ∧ q = .int .i64 k ∧ Hid (LW w wr sb gs p now ((R.eraseIdx kk).map Tk.bump) W (some { R[kk] with st := 2 }) (incs S k)))
              case atStart => exact ⟨0, Nat.zero_le _, rfl, rfl, hid (by simpa [incs] using HP.out.2.2)⟩
              case round =>
                obtain ⟨k, hk, hgk3, rfl, K5⟩ := hrel
                by_cases hlt3 : k < i
                · have hlt3' : (k : Int) < (i : Int) := by omega
                  have hkS : k < S.length := by rw [HFI.out.1.sl]; exact hlt3
                  have c9 := K5.out.si.cell k (by rw [incs_length]; exact hkS)
                  have f9 := K5.out.si.froz k
                  have KN := hid (p := _) (K5.out.inc hkS)
                  have hb9 := incs_bd HBD.out hkS
                  generalize (incs S k).getD k 0 = x9 at *
                  have e9 : IntKind.i64.wrap ((x9 : Int) + 1) = (x9 : Int) + 1 := by rw [IntKind.wrap_i64]; omega
                  go_wp2_with fail
                  go_roundg (i - (k + 1))
                  case measure => omega
                  case rel => exact ⟨k + 1, by omega, rfl, by go_num, KN⟩
                · obtain rfl : i = k := by omega
                  have K6 := hid (p := _) (show LW w (wr.setCell ⟨gs, id, none⟩ (.int .i64 0)) sb gs p now ((R.eraseIdx kk).map Tk.bump) W (some { R[kk] with st := 2 }) ((incs S S.length).set R[kk].id 0) from by
                    have := K5.out.set id 0 0 rfl
                    rw [HP.out.1] at this ⊢
                    rwa [show incs S i = incs S S.length from by rw [HFI.out.1.sl]] at this)
                  have c9 : ∃ v9, wr.cell? ⟨gs, id, none⟩ = some v9 := ⟨_, K5.out.si.cell id (by rw [incs_length, HFI.out.1.sl]; omega)⟩
                  obtain ⟨v9, c9⟩ := c9
                  have f9 := K5.out.si.froz id
                  obtain ⟨s0, s1, s2, s3⟩ := HST.out.cells K6.out.bel
                  obtain ⟨t0, t1, t2, t3⟩ := HST.out.cells K5.out.bel
                  simp only at s0 s1 s2 s3 t0 t1 t2 t3
                  have H13 := hid (p := _) (fun V' (hF : Fr [] (wr.setCell ⟨gs, id, none⟩ (.int .i64 0)) V') => mw_now (n := i) (k := 0) K6.out hF)
                  have H20 := hid (p := _) (fun V' (hF : Fr [] (wr.setCell ⟨gs, id, none⟩ (.int .i64 0)) V') (z u : Int) (hz : 0 ≤ z ∧ z < 10) (hu : (now : Int) < u ∧ u ≤ now + 10) => mw_wait (k := 10 * j + 4) HFI.out HND.out HP.out.2.1 hkk K6.out (by have := HNW.out; omega) (fun m => by have := HBD.out m; omega) (by omega) HST.out hF z u hz hu)
                  have H21 := hid (p := _) (mw_yield (k := 10 * j + 4) HFI.out HND.out HP.out.2.1 hkk hp1.1 K6.out (by have := HNW.out; omega) (fun m => by have := HBD.out m; omega) HST.out)
                  clear K5
                  by_cases hd3 : D = 3
                  · subst hd3
                    have u1 : IntKind.u64.wrap ((now : Int) + (N : Int) % 5) = (now : Int) + (N : Int) % 5 := by rw [IntKind.wrap_u64]; omega
                    have u2 : IntKind.u64.wrap ((now : Int) + (N : Int) % 5 + 1) = (now : Int) + (N : Int) % 5 + 1 := by rw [IntKind.wrap_u64]; omega
                    go_wp2_with fail
                    go_region_held (fun V' => V'.cell? ⟨g, o + j * 4, none⟩ = some (.int .i64 3) ∧ V'.cell? ⟨g, o + j * 4 + 1, none⟩ = some (.int .u32 (I : Nat)) ∧ V'.cell? ⟨g, o + j * 4 + 2, none⟩ = some (.int .u64 (N : Nat)) ∧ V'.cell? ⟨g, o + j * 4 + 3, none⟩ = some (.int .i64 M)) (go_keep)
                      (first | (go_at_call 13; refine (H13.out _ ((Fr.refl [] _).drew)).mono ?_; rintro e w7 ⟨rfl, hw7⟩; subst hw7) | (go_at_call 20; refine (H20.out _ ((Fr.refl [] _).drew) _ _ ⟨by omega, by omega⟩ ⟨by omega, by omega⟩).mono ?_; rintro e w7 ⟨rfl, ⟨x0, x1, x2, x3⟩, K6c⟩))
                    have K7 := hid (p := _) (show MW w w7 sb gs p i (10 * j + 4) from K6c.out)
                    obtain ⟨R9, W9, S9, now9, hL9, hM9, hn9, hb9⟩ := K7.out
                    have HL9 := hid (p := _) (show LW w _ sb gs p now9 R9 W9 none S9 ∧ MI p i R9 W9 S9 ∧ (∀ t ∈ W9, t.id < 0 → S9.getD t.id 0 = 0) ∧ ∀ m, S9.getD m 0 ≤ 10 * j + 8 from ⟨hL9, hM9, by omega, fun m => by have := hb9 m; omega⟩)
                    have HN9 := hid (p := _) hn9
                    clear hL9 hM9 hn9 hb9
                    go_wp2_with fail
                    go_loopg [17] i (fun gk q wr => ∃ k : Nat, k ≤ i ∧ gk = i - k ∧ q = .int .i64 k ∧ Hid (∃ S', LW w wr sb gs p now9 R9 W9 none S' ∧ MI p i R9 W9 S' ∧ (∀ t ∈ W9, t.id < k → S'.getD t.id 0 = 0) ∧ ∀ m, S'.getD m 0 ≤ 10 * j + 8))
                    case atStart => exact ⟨0, Nat.zero_le _, rfl, rfl, hid ⟨S9, HL9.out⟩⟩
                    case round =>
                      obtain ⟨k, hk, hgk3, rfl, K9⟩ := hrel
                      obtain ⟨S', hL', hM', hZ', hB'⟩ := K9.out
                      by_cases hlt3 : k < i
                      · have hlt3' : (k : Int) < (i : Int) := by omega
                        have e3 : IntKind.u32.wrap (k : Int) = (k : Int) := by rw [IntKind.wrap_u32]; omega
                        have H23 := hid (p := _) (state_any hL'.ss k)
                        have c9 := hL'.si.cell k (by rw [hM'.sl]; exact hlt3)
                        have f9 := hL'.si.froz k
                        rcases hL'.st k with ⟨q1, ⟨t, ht, hti⟩, q2⟩ | ⟨q1, q2⟩
                        · rw [q1] at H23
                          have hle : (S'.getD k 0 : Int) ≤ (p : Int) + (i : Int) := by have := hM'.le t ht; rw [hti] at this; omega
                          have HR := hid (p := _) (show LW w wr sb gs p now9 R9 W9 none S' ∧ MI p i R9 W9 S' ∧ (∀ t ∈ W9, t.id < k + 1 → S'.getD t.id 0 = 0) ∧ ∀ m, S'.getD m 0 ≤ 10 * j + 8 from ⟨hL', hM', fun t ht h => hZ' t ht (by have := q2 t ht; omega), hB'⟩)
                          clear q1 q2 hti ht hL' hM' hZ' hB' K9
                          generalize S'.getD k 0 = x9 at *
                          have hle2 : ¬ (p : Int) + (i : Int) < (x9 : Int) := by omega
                          go_wp2_with (go_at_call 23; refine H23.out.mono ?_; rintro e w8 ⟨rfl, hw⟩; subst hw)
                          go_roundg (i - (k + 1))
                          case measure => omega
                          case rel => exact ⟨k + 1, by omega, rfl, by go_num, hid ⟨S', HR.out⟩⟩
                        · have HR := hid (p := _) (show LW w (wr.setCell ⟨gs, k, none⟩ (.int .i64 0)) sb gs p now9 R9 W9 none (S'.set k 0) ∧ MI p i R9 W9 (S'.set k 0) ∧ (∀ t ∈ W9, t.id < k + 1 → (S'.set k 0).getD t.id 0 = 0) ∧ ∀ m, (S'.set k 0).getD m 0 ≤ 10 * j + 8 from ⟨hL'.set k 0 0 rfl, hM'.set0 k, fun t ht h => by
                            rw [set_get]
                            split
                            · rfl
                            · rename_i hne
                              exact hZ' t ht (by rw [hM'.sl] at hne; omega), fun m => by rw [set_get]; have := hB' m; split <;> omega⟩)
                          obtain ⟨st, hst9⟩ : ∃ st, st = (fnd (all R9 W9 none []) k).elim 0 Tk.st := ⟨_, rfl⟩
                          rw [← hst9] at H23 q1
                          have q3 : ((st : Int) == 1) = false := by simp; omega
                          have q4 : ¬ (st : Int) = 1 := by omega
                          have hle2 : ¬ (p : Int) + (i : Int) < 0 := by omega
                          clear hst9 q2 hL' hM' hZ' hB' K9
                          generalize S'.getD k 0 = x9 at *
                          go_wp2_with (go_at_call 23; refine H23.out.mono ?_; rintro e w8 ⟨rfl, hw⟩; subst hw)
                          all_goals
                            go_roundg (i - (k + 1))
                            case measure => omega
                            case rel => exact ⟨k + 1, by omega, rfl, by go_num, hid ⟨_, HR.out⟩⟩
                      · obtain rfl : k = i := by omega
                        have HE := hid (p := _) (show FW w wr sb gs p k (10 * (j + 1)) from ⟨R9, W9, S', now9, hL', ⟨hM', fun t ht => hZ' t ht (hM'.idr t (by simp [ht]))⟩, by have := HN9.out; omega, fun m => by have := hB' m; omega⟩)
                        clear hL' hM' hZ' hB' K9
                        go_wp2_with fail
                        go_roundg (len - (j + 1))
                        case measure => omega
                        case rel => exact ⟨j + 1, by omega, rfl, by go_num, HE⟩
                  · have z3 : (D == 3) = false := by simpa using hd3
                    by_cases hd5 : D = 5
                    · subst hd5
                      go_wp2_with (go_at_call 21; refine H21.out.mono ?_; rintro e w6 ⟨rfl, ⟨x0, x1, x2, x3⟩, K6b⟩)
                      obtain ⟨R1, W1, S1, now1, hL1, hM1, hnw1, hbd1⟩ := K6b.out
                      have H13b := hid (p := _) (fun V' (hF : Fr [] w6 V') => mw_now (n := i) (k := 0) hL1 hF)
                      have H19b := hid (p := _) (fun V' (hF : Fr [] w6 V') (z : Int) (hz : (now1 : Int) ≤ z ∧ z ≤ now1 + 4) => mw_tick hL1 hM1 hnw1 hbd1 hn1'.2 (by omega) HST.out hF z hz)
                      have H22b := hid (p := _) (fun V' (hF : Fr [] w6 V') (z most : Int) (hz : 0 ≤ z) => mw_wake hL1 hM1 hnw1 hbd1 HST.out hF z most hz)
                      have hnb : (now1 : Int) ≤ 100000 := by omega
                      clear hL1 hM1 hbd1
                      go_region_held (fun V' => V'.cell? ⟨g, o + j * 4, none⟩ = some (.int .i64 5) ∧ V'.cell? ⟨g, o + j * 4 + 1, none⟩ = some (.int .u32 (I : Nat)) ∧ V'.cell? ⟨g, o + j * 4 + 2, none⟩ = some (.int .u64 (N : Nat)) ∧ V'.cell? ⟨g, o + j * 4 + 3, none⟩ = some (.int .i64 M)) (go_keep)
                        (first | (go_at_call 22; refine (H22b.out _ ((Fr.refl [] _).drew) _ _ (by omega)).mono ?_; rintro e w7 ⟨c7, rfl, ⟨y0, y1, y2, y3⟩, K7⟩))
                      obtain ⟨R9, W9, S9, now9, hL9, hM9, hn9, hb9⟩ := K7.out
                      have HL9 := hid (p := _) (show LW w _ sb gs p now9 R9 W9 none S9 ∧ MI p i R9 W9 S9 ∧ (∀ t ∈ W9, t.id < 0 → S9.getD t.id 0 = 0) ∧ ∀ m, S9.getD m 0 ≤ 10 * j + 8 from ⟨hL9, hM9, by omega, fun m => by have := hb9 m; omega⟩)
                      have HN9 := hid (p := _) hn9
                      clear hL9 hM9 hn9 hb9
                      go_wp2_with fail
                      go_loopg [17] i (fun gk q wr => ∃ k : Nat, k ≤ i ∧ gk = i - k ∧ q = .int .i64 k ∧ Hid (∃ S', LW w wr sb gs p now9 R9 W9 none S' ∧ MI p i R9 W9 S' ∧ (∀ t ∈ W9, t.id < k → S'.getD t.id 0 = 0) ∧ ∀ m, S'.getD m 0 ≤ 10 * j + 8))
                      case atStart => exact ⟨0, Nat.zero_le _, rfl, rfl, hid ⟨S9, HL9.out⟩⟩
                      case round =>
                        obtain ⟨k, hk, hgk3, rfl, K9⟩ := hrel
                        obtain ⟨S', hL', hM', hZ', hB'⟩ := K9.out
                        by_cases hlt3 : k < i
                        · have hlt3' : (k : Int) < (i : Int) := by omega
                          have e3 : IntKind.u32.wrap (k : Int) = (k : Int) := by rw [IntKind.wrap_u32]; omega
                          have H23 := hid (p := _) (state_any hL'.ss k)
                          have c9 := hL'.si.cell k (by rw [hM'.sl]; exact hlt3)
                          have f9 := hL'.si.froz k
                          rcases hL'.st k with ⟨q1, ⟨t, ht, hti⟩, q2⟩ | ⟨q1, q2⟩
                          · rw [q1] at H23
                            have hle : (S'.getD k 0 : Int) ≤ (p : Int) + (i : Int) := by have := hM'.le t ht; rw [hti] at this; omega
                            have HR := hid (p := _) (show LW w wr sb gs p now9 R9 W9 none S' ∧ MI p i R9 W9 S' ∧ (∀ t ∈ W9, t.id < k + 1 → S'.getD t.id 0 = 0) ∧ ∀ m, S'.getD m 0 ≤ 10 * j + 8 from ⟨hL', hM', fun t ht h => hZ' t ht (by have := q2 t ht; omega), hB'⟩)
                            clear q1 q2 hti ht hL' hM' hZ' hB' K9
                            generalize S'.getD k 0 = x9 at *
                            have hle2 : ¬ (p : Int) + (i : Int) < (x9 : Int) := by omega
                            go_wp2_with (go_at_call 23; refine H23.out.mono ?_; rintro e w8 ⟨rfl, hw⟩; subst hw)
                            go_roundg (i - (k + 1))
                            case measure => omega
                            case rel => exact ⟨k + 1, by omega, rfl, by go_num, hid ⟨S', HR.out⟩⟩
                          · have HR := hid (p := _) (show LW w (wr.setCell ⟨gs, k, none⟩ (.int .i64 0)) sb gs p now9 R9 W9 none (S'.set k 0) ∧ MI p i R9 W9 (S'.set k 0) ∧ (∀ t ∈ W9, t.id < k + 1 → (S'.set k 0).getD t.id 0 = 0) ∧ ∀ m, (S'.set k 0).getD m 0 ≤ 10 * j + 8 from ⟨hL'.set k 0 0 rfl, hM'.set0 k, fun t ht h => by
                              rw [set_get]
                              split
                              · rfl
                              · rename_i hne
                                exact hZ' t ht (by rw [hM'.sl] at hne; omega), fun m => by rw [set_get]; have := hB' m; split <;> omega⟩)
                            obtain ⟨st, hst9⟩ : ∃ st, st = (fnd (all R9 W9 none []) k).elim 0 Tk.st := ⟨_, rfl⟩
                            rw [← hst9] at H23 q1
                            have q3 : ((st : Int) == 1) = false := by simp; omega
                            have q4 : ¬ (st : Int) = 1 := by omega
                            have hle2 : ¬ (p : Int) + (i : Int) < 0 := by omega
                            clear hst9 q2 hL' hM' hZ' hB' K9
                            generalize S'.getD k 0 = x9 at *
                            go_wp2_with (go_at_call 23; refine H23.out.mono ?_; rintro e w8 ⟨rfl, hw⟩; subst hw)
                            all_goals
                              go_roundg (i - (k + 1))
                              case measure => omega
                              case rel => exact ⟨k + 1, by omega, rfl, by go_num, hid ⟨_, HR.out⟩⟩
                        · obtain rfl : k = i := by omega
                          have HE := hid (p := _) (show FW w wr sb gs p k (10 * (j + 1)) from ⟨R9, W9, S', now9, hL', ⟨hM', fun t ht => hZ' t ht (hM'.idr t (by simp [ht]))⟩, by have := HN9.out; omega, fun m => by have := hB' m; omega⟩)
                          clear hL' hM' hZ' hB' K9
                          go_wp2_with fail
                          go_roundg (len - (j + 1))
                          case measure => omega
                          case rel => exact ⟨j + 1, by omega, rfl, by go_num, HE⟩
                    · by_cases hd6 : D = 6
                      · subst hd6
                        have u1 : ∀ now1 : Int, 0 ≤ now1 → now1 ≤ 100000 → IntKind.u64.wrap (now1 + (N : Int) % 4) = now1 + (N : Int) % 4 := fun now1 h1 h2 => by rw [IntKind.wrap_u64]; omega
                        go_wp2_with (go_at_call 21; refine H21.out.mono ?_; rintro e w6 ⟨rfl, ⟨x0, x1, x2, x3⟩, K6b⟩)
                        obtain ⟨R1, W1, S1, now1, hL1, hM1, hnw1, hbd1⟩ := K6b.out
                        have H13b := hid (p := _) (fun V' (hF : Fr [] w6 V') => mw_now (n := i) (k := 0) hL1 hF)
                        have H19b := hid (p := _) (fun V' (hF : Fr [] w6 V') (z : Int) (hz : (now1 : Int) ≤ z ∧ z ≤ now1 + 4) => mw_tick hL1 hM1 hnw1 hbd1 hn1'.2 (by omega) HST.out hF z hz)
                        have H22b := hid (p := _) (fun V' (hF : Fr [] w6 V') (z most : Int) (hz : 0 ≤ z) => mw_wake hL1 hM1 hnw1 hbd1 HST.out hF z most hz)
                        have hnb : (now1 : Int) ≤ 100000 := by omega
                        clear hL1 hM1 hbd1
                        have u2 := u1 now1 (by omega) hnb
                        go_region_held (fun V' => V'.cell? ⟨g, o + j * 4, none⟩ = some (.int .i64 6) ∧ V'.cell? ⟨g, o + j * 4 + 1, none⟩ = some (.int .u32 (I : Nat)) ∧ V'.cell? ⟨g, o + j * 4 + 2, none⟩ = some (.int .u64 (N : Nat)) ∧ V'.cell? ⟨g, o + j * 4 + 3, none⟩ = some (.int .i64 M)) (go_keep)
                          (first | (go_at_call 13; refine (H13b.out _ ((Fr.refl [] _).drew)).mono ?_; rintro e w7 ⟨rfl, hw7⟩; subst hw7) | (go_at_call 19; refine (H19b.out _ ((Fr.refl [] _).drew) _ ⟨by omega, by omega⟩).mono ?_; rintro e w7 ⟨rfl, ⟨y0, y1, y2, y3⟩, K7⟩))
                        obtain ⟨R9, W9, S9, now9, hL9, hM9, hn9, hb9⟩ := K7.out
                        have HL9 := hid (p := _) (show LW w _ sb gs p now9 R9 W9 none S9 ∧ MI p i R9 W9 S9 ∧ (∀ t ∈ W9, t.id < 0 → S9.getD t.id 0 = 0) ∧ ∀ m, S9.getD m 0 ≤ 10 * j + 8 from ⟨hL9, hM9, by omega, fun m => by have := hb9 m; omega⟩)
                        have HN9 := hid (p := _) hn9
                        clear hL9 hM9 hn9 hb9
                        go_wp2_with fail
                        go_loopg [17] i (fun gk q wr => ∃ k : Nat, k ≤ i ∧ gk = i - k ∧ q = .int .i64 k ∧ Hid (∃ S', LW w wr sb gs p now9 R9 W9 none S' ∧ MI p i R9 W9 S' ∧ (∀ t ∈ W9, t.id < k → S'.getD t.id 0 = 0) ∧ ∀ m, S'.getD m 0 ≤ 10 * j + 8))
                        case atStart => exact ⟨0, Nat.zero_le _, rfl, rfl, hid ⟨S9, HL9.out⟩⟩
                        case round =>
                          obtain ⟨k, hk, hgk3, rfl, K9⟩ := hrel
                          obtain ⟨S', hL', hM', hZ', hB'⟩ := K9.out
                          by_cases hlt3 : k < i
                          · have hlt3' : (k : Int) < (i : Int) := by omega
                            have e3 : IntKind.u32.wrap (k : Int) = (k : Int) := by rw [IntKind.wrap_u32]; omega
                            have H23 := hid (p := _) (state_any hL'.ss k)
                            have c9 := hL'.si.cell k (by rw [hM'.sl]; exact hlt3)
                            have f9 := hL'.si.froz k
                            rcases hL'.st k with ⟨q1, ⟨t, ht, hti⟩, q2⟩ | ⟨q1, q2⟩
                            · rw [q1] at H23
                              have hle : (S'.getD k 0 : Int) ≤ (p : Int) + (i : Int) := by have := hM'.le t ht; rw [hti] at this; omega
                              have HR := hid (p := _) (show LW w wr sb gs p now9 R9 W9 none S' ∧ MI p i R9 W9 S' ∧ (∀ t ∈ W9, t.id < k + 1 → S'.getD t.id 0 = 0) ∧ ∀ m, S'.getD m 0 ≤ 10 * j + 8 from ⟨hL', hM', fun t ht h => hZ' t ht (by have := q2 t ht; omega), hB'⟩)
                              clear q1 q2 hti ht hL' hM' hZ' hB' K9
                              generalize S'.getD k 0 = x9 at *
                              have hle2 : ¬ (p : Int) + (i : Int) < (x9 : Int) := by omega
                              go_wp2_with (go_at_call 23; refine H23.out.mono ?_; rintro e w8 ⟨rfl, hw⟩; subst hw)
                              go_roundg (i - (k + 1))
                              case measure => omega
                              case rel => exact ⟨k + 1, by omega, rfl, by go_num, hid ⟨S', HR.out⟩⟩
                            · have HR := hid (p := _) (show LW w (wr.setCell ⟨gs, k, none⟩ (.int .i64 0)) sb gs p now9 R9 W9 none (S'.set k 0) ∧ MI p i R9 W9 (S'.set k 0) ∧ (∀ t ∈ W9, t.id < k + 1 → (S'.set k 0).getD t.id 0 = 0) ∧ ∀ m, (S'.set k 0).getD m 0 ≤ 10 * j + 8 from ⟨hL'.set k 0 0 rfl, hM'.set0 k, fun t ht h => by
                                rw [set_get]
                                split
                                · rfl
                                · rename_i hne
                                  exact hZ' t ht (by rw [hM'.sl] at hne; omega), fun m => by rw [set_get]; have := hB' m; split <;> omega⟩)
                              obtain ⟨st, hst9⟩ : ∃ st, st = (fnd (all R9 W9 none []) k).elim 0 Tk.st := ⟨_, rfl⟩
                              rw [← hst9] at H23 q1
                              have q3 : ((st : Int) == 1) = false := by simp; omega
                              have q4 : ¬ (st : Int) = 1 := by omega
                              have hle2 : ¬ (p : Int) + (i : Int) < 0 := by omega
                              clear hst9 q2 hL' hM' hZ' hB' K9
                              generalize S'.getD k 0 = x9 at *
                              go_wp2_with (go_at_call 23; refine H23.out.mono ?_; rintro e w8 ⟨rfl, hw⟩; subst hw)
                              all_goals
                                go_roundg (i - (k + 1))
                                case measure => omega
                                case rel => exact ⟨k + 1, by omega, rfl, by go_num, hid ⟨_, HR.out⟩⟩
                          · obtain rfl : k = i := by omega
                            have HE := hid (p := _) (show FW w wr sb gs p k (10 * (j + 1)) from ⟨R9, W9, S', now9, hL', ⟨hM', fun t ht => hZ' t ht (hM'.idr t (by simp [ht]))⟩, by have := HN9.out; omega, fun m => by have := hB' m; omega⟩)
                            clear hL' hM' hZ' hB' K9
                            go_wp2_with fail
                            go_roundg (len - (j + 1))
                            case measure => omega
                            case rel => exact ⟨j + 1, by omega, rfl, by go_num, HE⟩
                      · have z5 : (D == 5) = false := by simpa using hd5
                        have z6 : (D == 6) = false := by simpa using hd6
                        go_wp2_with (go_at_call 21; refine H21.out.mono ?_; rintro e w6 ⟨rfl, ⟨x0, x1, x2, x3⟩, K6b⟩)
                        have K7 := hid (p := _) (show MW w w6 sb gs p i (10 * j + 4) from K6b.out)
                        obtain ⟨R9, W9, S9, now9, hL9, hM9, hn9, hb9⟩ := K7.out
                        have HL9 := hid (p := _) (show LW w _ sb gs p now9 R9 W9 none S9 ∧ MI p i R9 W9 S9 ∧ (∀ t ∈ W9, t.id < 0 → S9.getD t.id 0 = 0) ∧ ∀ m, S9.getD m 0 ≤ 10 * j + 8 from ⟨hL9, hM9, by omega, fun m => by have := hb9 m; omega⟩)
                        have HN9 := hid (p := _) hn9
                        clear hL9 hM9 hn9 hb9
                        go_wp2_with fail
                        go_loopg [17] i (fun gk q wr => ∃ k : Nat, k ≤ i ∧ gk = i - k ∧ q = .int .i64 k ∧ Hid (∃ S', LW w wr sb gs p now9 R9 W9 none S' ∧ MI p i R9 W9 S' ∧ (∀ t ∈ W9, t.id < k → S'.getD t.id 0 = 0) ∧ ∀ m, S'.getD m 0 ≤ 10 * j + 8))
                        case atStart => exact ⟨0, Nat.zero_le _, rfl, rfl, hid ⟨S9, HL9.out⟩⟩
                        case round =>
                          obtain ⟨k, hk, hgk3, rfl, K9⟩ := hrel
                          obtain ⟨S', hL', hM', hZ', hB'⟩ := K9.out
                          by_cases hlt3 : k < i
                          · have hlt3' : (k : Int) < (i : Int) := by omega
                            have e3 : IntKind.u32.wrap (k : Int) = (k : Int) := by rw [IntKind.wrap_u32]; omega
                            have H23 := hid (p := _) (state_any hL'.ss k)
                            have c9 := hL'.si.cell k (by rw [hM'.sl]; exact hlt3)
                            have f9 := hL'.si.froz k
                            rcases hL'.st k with ⟨q1, ⟨t, ht, hti⟩, q2⟩ | ⟨q1, q2⟩
                            · rw [q1] at H23
                              have hle : (S'.getD k 0 : Int) ≤ (p : Int) + (i : Int) := by have := hM'.le t ht; rw [hti] at this; omega
                              have HR := hid (p := _) (show LW w wr sb gs p now9 R9 W9 none S' ∧ MI p i R9 W9 S' ∧ (∀ t ∈ W9, t.id < k + 1 → S'.getD t.id 0 = 0) ∧ ∀ m, S'.getD m 0 ≤ 10 * j + 8 from ⟨hL', hM', fun t ht h => hZ' t ht (by have := q2 t ht; omega), hB'⟩)
                              clear q1 q2 hti ht hL' hM' hZ' hB' K9
                              generalize S'.getD k 0 = x9 at *
                              have hle2 : ¬ (p : Int) + (i : Int) < (x9 : Int) := by omega
                              go_wp2_with (go_at_call 23; refine H23.out.mono ?_; rintro e w8 ⟨rfl, hw⟩; subst hw)
                              go_roundg (i - (k + 1))
                              case measure => omega
                              case rel => exact ⟨k + 1, by omega, rfl, by go_num, hid ⟨S', HR.out⟩⟩
                            · have HR := hid (p := _) (show LW w (wr.setCell ⟨gs, k, none⟩ (.int .i64 0)) sb gs p now9 R9 W9 none (S'.set k 0) ∧ MI p i R9 W9 (S'.set k 0) ∧ (∀ t ∈ W9, t.id < k + 1 → (S'.set k 0).getD t.id 0 = 0) ∧ ∀ m, (S'.set k 0).getD m 0 ≤ 10 * j + 8 from ⟨hL'.set k 0 0 rfl, hM'.set0 k, fun t ht h => by
                                rw [set_get]
                                split
                                · rfl
                                · rename_i hne
                                  exact hZ' t ht (by rw [hM'.sl] at hne; omega), fun m => by rw [set_get]; have := hB' m; split <;> omega⟩)
                              obtain ⟨st, hst9⟩ : ∃ st, st = (fnd (all R9 W9 none []) k).elim 0 Tk.st := ⟨_, rfl⟩
                              rw [← hst9] at H23 q1
                              have q3 : ((st : Int) == 1) = false := by simp; omega
                              have q4 : ¬ (st : Int) = 1 := by omega
                              have hle2 : ¬ (p : Int) + (i : Int) < 0 := by omega
                              clear hst9 q2 hL' hM' hZ' hB' K9
                              generalize S'.getD k 0 = x9 at *
                              go_wp2_with (go_at_call 23; refine H23.out.mono ?_; rintro e w8 ⟨rfl, hw⟩; subst hw)
                              all_goals
                                go_roundg (i - (k + 1))
                                case measure => omega
                                case rel => exact ⟨k + 1, by omega, rfl, by go_num, hid ⟨_, HR.out⟩⟩
                          · obtain rfl : k = i := by omega
                            have HE := hid (p := _) (show FW w wr sb gs p k (10 * (j + 1)) from ⟨R9, W9, S', now9, hL', ⟨hM', fun t ht => hZ' t ht (hM'.idr t (by simp [ht]))⟩, by have := HN9.out; omega, fun m => by have := hB' m; omega⟩)
                            clear hL' hM' hZ' hB' K9
                            go_wp2_with fail
                            go_roundg (len - (j + 1))
                            case measure => omega
                            case rel => exact ⟨j + 1, by omega, rfl, by go_num, HE⟩
          · obtain rfl : j = len := by omega
            obtain ⟨R, W, S, now, hLW, hFI, hnow, hbd⟩ := K.out
            have HBel := hid (p := _) hLW.bel
            clear hLW hFI hnow hbd K
            go_wp2_with (go_at_call 7; refine (works_any _).mono ?_; rintro e w6 ⟨rfl, hK6⟩)
            go_ret
            exact ⟨rfl, HBel.out.trans ((hK6.mono HBel.out.size).below HBel.out.size)⟩
end Go.Proofs.Ytenphgpmdigdcaa
