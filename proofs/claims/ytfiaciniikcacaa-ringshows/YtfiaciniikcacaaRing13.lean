/-
  The walk of 'offer' of package ring: a head is shown to the device. Also the law of an append that copies buffers. No statement is proved here.
-/
import Derived.Test.YtfiaciniikcacaaRing12
namespace Go.Proofs.Ytfiaciniikcacaa
open Go.RowKit Go.BigFrame Go.MapKept
set_option linter.unusedVariables false
set_option linter.unusedSimpArgs false
set_option maxRecDepth 1000000
set_option maxHeartbeats 4000000

/-- Memory in which a head is offered: the entry, then the index. -/
def offW (bs : List UInt8) (at_ N idx head : Nat) : List UInt8 := wrb (wrb bs (at_ + 16 * N + 4 + 2 * (idx % N)) (le 2 head)) (at_ + 16 * N + 2) (le 2 ((idx + 1) % 65536))
theorem offer_any (bR bM bm bb k at_ bT N bC idx pol head : Nat) (brk : Bool) (tk : List Bool) (lv : Value) (l : List (Nat × Nat)) (bs : List UInt8) (w : World) (hR : RingF w bR bM at_ bT N bC idx pol brk tk) (hM : MemA w bM bm bb k lv l bs)
    (hh : head < 65536) (hN1 : 1 ≤ N) (hN : N ≤ 256) (hi : idx < 65536) (ho : at_ + uAt N ≤ k) (hK : Kept l at_ N) :
    Calls Try.prog 41 #[.pointer (some ⟨bR, 0, none⟩), .int .u16 (head : Nat)] w fun e w' => e = .returned (.tuple #[]) ∧ RingF w' bR bM at_ bT N bC ((idx + 1) % 65536) pol brk tk ∧ MemA w' bM bm bb k lv l (offW bs at_ N idx head) ∧ Fr [bR, bb] w w' := by
  have hk := hM.mid.top
  have hu : 16 * N + 6 + 2 * N ≤ uAt N := by unfold uAt; omega
  have hq : idx % N < N := Nat.mod_lt _ (by omega)
  have o1 : bR ∉ [bb] := by simpa using blk_ne hR.blk hM.bytes (by decide)
  have o2 : bT ∉ [bb] := by simpa using blk_ne hR.tak hM.bytes (by decide)
  have o3 : ∀ g, lv.ownBlock = some g → g ∉ [bR] := fun g hg => by simpa using Row.ne hM.mid.row hR.blk (by decide) g hg
  have o4 : bM ∉ [bR] ∧ bm ∉ [bR] ∧ bb ∉ [bR] := ⟨by simpa using blk_ne hM.top hR.blk (by decide), by simpa using blk_ne hM.mid.blk hR.blk (by decide), by simpa using blk_ne hM.bytes hR.blk (by decide)⟩
  unfold offW
  obtain ⟨T1, hT1⟩ : ∃ T, T = at_ + 16 * N + 4 + 2 * (idx % N) := ⟨_, rfl⟩
  obtain ⟨T2, hT2⟩ : ∃ T, T = at_ + 16 * N := ⟨_, rfl⟩
  obtain ⟨T3, hT3⟩ : ∃ T, T = at_ + 16 * N + 2 := ⟨_, rfl⟩
  obtain ⟨J, hJ⟩ : ∃ J, J = (idx + 1) % 65536 := ⟨_, rfl⟩
  have hJb : J < 65536 := by omega
  have wJ : IntKind.u16.wrap ((idx : Int) + 1) = (J : Int) := by rw [IntKind.wrap_u16]; omega
  have w3 : IntKind.u32.wrap ((T2 : Int) + 2) = (T3 : Int) := by rw [IntKind.wrap_u32]; omega
  have HS := hid (fun W (hF : Fr [] w W) => (show Calls Try.prog 56 #[.pointer (some ⟨bR, 0, none⟩)] W fun e w' => e = .returned (.int .u32 (T1 : Nat)) ∧ ∃ d, w' = W.drewN d from by rw [hT1]; exact slot_any bR bM at_ bT N bC idx pol brk tk W (hR.fr hF (by simp) (by simp)) hN1 hN (by omega) hi))
  have H1 := hid (fun W (hF : Fr [] w W) => (show Calls Try.prog 64 #[.pointer (some ⟨bM, 0, none⟩), .int .u32 (T1 : Nat), .int .u16 (head : Nat)] W fun e w' => e = .returned (.int .i64 0) ∧ Hid (MemA w' bM bm bb k lv l (wrb bs T1 (le 2 head)) ∧ RingF w' bR bM at_ bT N bC idx pol brk tk ∧ Fr [bR, bb] w w') ∧ w'.cell? ⟨bR, 0, none⟩ = some (.pointer (some ⟨bM, 0, none⟩)) from
    (mput16_ok bM bm bb k T1 head lv l bs hh W (hM.fr0 hF) (by omega) (fun j q1 q2 => hK j (by omega) (by omega))).mono fun e w' ⟨q1, q2, q3⟩ => by
      have hR' := (hR.fr hF (by simp) (by simp)).fr q3 o1 o2
      exact ⟨q1, ⟨q2, hR', (hF.mono (by simp)).trans q3 (fun t ht => .inl (by simp at ht; simp [ht]))⟩, hR'.c0⟩))
  have HA := hid (fun (W W' : World) (bs' : List UInt8) (hF : Fr [] W W') (hR' : RingF W bR bM at_ bT N bC J pol brk tk) (hM' : MemA W bM bm bb k lv l bs') => (show (Calls Try.prog 25 #[.pointer (some ⟨bR, 0, none⟩)] W' fun e w' => e = .returned (.int .u32 (T2 : Nat)) ∧ ∃ d, w' = W'.drewN d) ∧ (Calls Try.prog 64 #[.pointer (some ⟨bM, 0, none⟩), .int .u32 (T3 : Nat), .int .u16 (J : Nat)] W' fun e w' => e = .returned (.int .i64 0) ∧ Hid (MemA w' bM bm bb k lv l (wrb bs' T3 (le 2 J)) ∧ RingF w' bR bM at_ bT N bC J pol brk tk ∧ Fr [bR, bb] W w') ∧ w'.cell? ⟨bR, 0, none⟩ = some (.pointer (some ⟨bM, 0, none⟩)) ∧ w'.cell? ⟨bR, 4, none⟩ = some (.int .u16 (J : Nat))) from
    ⟨by rw [hT2]; exact Avail_any bR bM at_ bT N bC J pol brk tk W' (hR'.fr hF (by simp) (by simp)) hN (by omega),
     (mput16_ok bM bm bb k T3 J lv l bs' hJb W' (hM'.fr0 hF) (by omega) (fun j q1 q2 => hK j (by omega) (by omega))).mono fun e w' ⟨q1, q2, q3⟩ => by
      have hR'' := (hR'.fr hF (by simp) (by simp)).fr q3 o1 o2
      exact ⟨q1, ⟨q2, hR'', (hF.mono (by simp)).trans q3 (fun t ht => .inl (by simp at ht; simp [ht]))⟩, hR''.c0, hR''.c4⟩⟩))
  rw [← hT1, ← hT3, ← hJ]
  have c0 := hR.c0
  clear hR hM hK hT1 hT2 hT3 hJ
  go_enter Try.func41, Try.ntmps41
  go_wp2_with fail
  go_region_held (fun w' => w'.cell? ⟨bR, 0, none⟩ = some (.pointer (some ⟨bM, 0, none⟩))) (go_keep)
    (first
    | (go_at_call 56; refine (HS.out _ ((Fr.refl _ w).drew)).mono ?_; rintro e w1 ⟨rfl, d1, hw⟩; subst hw)
    | (go_at_call 64; refine (H1.out _ ((Fr.refl _ w).drewN _)).mono ?_; rintro e w2 ⟨rfl, H2, c0'⟩))
  clear c0
  have c4 := H2.out.2.1.c4
  have z4 := frozen_of_heap (o := 4) H2.out.2.1.blk
  go_wp2_with fail
  have HR3 := hid (H2.out.2.1.setIdx J)
  have HM3 := hid (H2.out.1.fr ((Fr.refl [bR] w2).setCell (p := ⟨bR, 4, none⟩) (by simp) (.int .u16 (J : Nat))) o4.1 o4.2.1 o4.2.2 o3)
  have HF3 := hid (H2.out.2.2.setCell (p := ⟨bR, 4, none⟩) (by simp) (.int .u16 (J : Nat)))
  generalize w2.setCell ⟨bR, 4, none⟩ (.int .u16 (J : Nat)) = w3' at *
  clear c0' c4 z4
  have c0 := HR3.out.c0
  have c4 := HR3.out.c4
  go_region_held (fun w' => w'.cell? ⟨bR, 0, none⟩ = some (.pointer (some ⟨bM, 0, none⟩)) ∧ w'.cell? ⟨bR, 4, none⟩ = some (.int .u16 (J : Nat))) (go_keep)
    (first
    | (go_at_call 25; refine (HA.out w3' _ _ ((Fr.refl _ w3').drew) HR3.out HM3.out).1.mono ?_; rintro e w4 ⟨rfl, d2, hw⟩; subst hw)
    | (go_at_call 64; refine (HA.out w3' _ _ ((Fr.refl _ w3').drewN _) HR3.out HM3.out).2.mono ?_; rintro e w5 ⟨rfl, H5, q0, q4⟩))
  go_wp2
  go_end0
  exact ⟨rfl, H5.out.2.1, H5.out.1, HF3.out.trans H5.out.2.2 (fun t ht => .inl ht)⟩

def bcells (xs : List Bf) : List Value := xs.flatMap fun x => [.int .u32 (x.A : Nat), .int .u32 (x.L : Nat), .bool x.I]
theorem bcells_length (xs : List Bf) : (bcells xs).length = xs.length * 3 := by
  induction xs with
  | nil => rfl
  | cons x xs ih => simp [bcells] at ih ⊢; omega
theorem bcells_get : ∀ (xs : List Bf) (i : Nat) (h : i < xs.length), (bcells xs)[i * 3]? = some (.int .u32 (xs[i].A : Nat)) ∧ (bcells xs)[i * 3 + 1]? = some (.int .u32 (xs[i].L : Nat)) ∧ (bcells xs)[i * 3 + 2]? = some (.bool xs[i].I)
  | x :: xs, 0, _ => by simp [bcells]
  | x :: xs, i + 1, h => by
    have ih := bcells_get xs i (by simpa using h)
    have e : bcells (x :: xs) = .int .u32 (x.A : Nat) :: .int .u32 (x.L : Nat) :: .bool x.I :: bcells xs := rfl
    rw [e, show (i + 1) * 3 = i * 3 + 1 + 1 + 1 by omega]
    simpa using ih
theorem bcells_one (xs : List Bf) : ∀ u ∈ bcells xs, u.oneCell' = true := by
  intro u hu
  simp [bcells] at hu
  obtain ⟨x, _, h | h | h⟩ := hu <;> subst h <;> rfl
theorem info59 : ∃ i, Try.prog.info? 59 = some i ∧ i.zero = some (.agg #[.int .u32 0, .int .u32 0, .bool false]) ∧ i.size = 3 ∧ i.bytes = 12 := infoOf (by kernel_rfl)
theorem BufsAt.cells {w : World} {b o : Nat} {xs : List Bf} (h : BufsAt w b o xs) : ∀ j u, (bcells xs)[j]? = some u → w.cell? ((⟨b, o, none⟩ : Addr).add j) = some u := by
  intro j u hu
  have hj : j < xs.length * 3 := by
    rw [← bcells_length]
    rcases Nat.lt_or_ge j (bcells xs).length with h1 | h1
    · exact h1
    · rw [List.getElem?_eq_none h1] at hu; cases hu
  have hadd : (⟨b, o, none⟩ : Addr).add j = ⟨b, o + j, none⟩ := by unfold Addr.add; split <;> simp_all
  rw [hadd]
  have hi : j / 3 < xs.length := by omega
  have g := bcells_get xs (j / 3) hi
  have r := h.at_ (j / 3) hi
  have hr : j % 3 = 0 ∨ j % 3 = 1 ∨ j % 3 = 2 := by omega
  rcases hr with e | e | e
  · rw [show j = j / 3 * 3 by omega] at hu ⊢; rw [g.1] at hu; cases hu; exact r.c0
  · rw [show j = j / 3 * 3 + 1 by omega] at hu ⊢; rw [g.2.1] at hu; cases hu; exact r.c1
  · rw [show j = j / 3 * 3 + 2 by omega] at hu ⊢; rw [g.2.2] at hu; cases hu; exact r.c2
theorem BufsAt.ofRow {w : World} {B : Nat} {v : Value} {xs : List Bf} (h : w.ownsRow B 59 3 v xs.length (bcells xs)) (hx : 1 ≤ xs.length) (hb : ∀ x, x ∈ xs → x.A < 4294967296 ∧ x.L < 4294967296) : ∃ g cap, v = .slice (some ⟨g, 0, none⟩) xs.length cap ∧ xs.length ≤ cap ∧ cap ≤ maxLen ∧ BufsAt w g 0 xs ∧ B ≤ g ∧ ∃ c, w.heap[g]? = some (.cells c 59) := by
  rcases h.2 with ⟨h1, h2⟩ | ⟨g, cap, cur, h1, h2, h3, h4, h5, h6, h7⟩
  · omega
  · refine ⟨g, cap, h1, h4, h5, ⟨⟨cur, 59, (0, 0), h3, by decide, by decide, by decide, by decide, by decide, by decide⟩, fun i hi => ?_⟩, h2, cur, h3⟩
    have hc := h.cells (g := g) (by rw [h1]; rfl)
    have g0 := bcells_get xs i hi
    have hadd : ∀ j, (⟨g, 0, none⟩ : Addr).add j = ⟨g, 0 + j, none⟩ := fun j => by unfold Addr.add; split <;> simp_all
    have hbb := hb xs[i] (List.getElem_mem hi)
    refine ⟨?_, ?_, ?_, hbb.1, hbb.2⟩
    · have := hc _ _ g0.1; rwa [hadd] at this
    · have := hc _ _ g0.2.1; rwa [hadd, ← Nat.add_assoc] at this
    · have := hc _ _ g0.2.2; rwa [hadd, ← Nat.add_assoc] at this
/-- What copying buffers into a new row comes to. -/
theorem run_append59 (w : World) (ty : TypeId) (b o n cap : Nat) (xs : List Bf) (hX : BufsAt w b o xs) (hn : xs.length = n) (h8 : xs.length ≤ 1000) :
    ∃ v' w', (Builtin.append_ #[34, 34] ty #[.slice none 0 0, .slice (some ⟨b, o, none⟩) n cap]).run Try.prog w = .ok v' w' ∧ w'.ownsRow w.heap.size 59 3 v' xs.length (bcells xs) ∧ Fr [] w w' := by
  subst hn
  obtain ⟨i, hi, hz, hsz, hb⟩ := info59
  obtain ⟨v', w', q1, q2, q3, q4⟩ := run_append_own (P := Try.prog) w w.heap.size 34 ty 59 i (.agg #[.int .u32 0, .int .u32 0, .bool false]) 3 12 Try.underlying34 hi hz hsz hb rfl (by omega) (.slice none 0 0) 0 [] (World.ownsRow_nil _ _ _ _) ⟨b, o, none⟩ xs.length cap (bcells xs) (bcells_length xs) hX.cells (bcells_one xs) (by simp [maxLen]; omega) (by omega) (Nat.le_refl _)
  refine ⟨v', w', q1, ?_, ?_⟩
  · simpa using q2
  · have := Fr.ofGrown q3
    simpa [Value.ownBlock] using this
theorem step_append59 {w : World} {ops : Array Oper} {o : Oper} {a : Act} {K : Act → World → Prop} {Q : Exit → Act → World → Prop} {E : Prop} (hgd : o.guard = none) (s x : Operand)
    (ho : o.op = .call { callee := .builtin .append, args := #[s, x], argTypes := #[34, 34] }) (b off n cap : Nat) (xs : List Bf) (hs : a.eval s = .slice none 0 0) (hx : a.eval x = .slice (some ⟨b, off, none⟩) n cap) (hX : BufsAt w b off xs) (hn : xs.length = n) (h8 : xs.length ≤ 1000)
    (h : ∀ v' w', w'.ownsRow w.heap.size 59 3 v' xs.length (bcells xs) → Fr [] w w' → K (a.put o.dst v') w') : if Region.wanted o (yielded ops a.tmps) = true then Oper.wp Try.prog o a w K Q else E := by
  have hw : Region.wanted o (yielded ops a.tmps) = true := by simp [Region.wanted, hgd]
  rw [if_pos hw]
  obtain ⟨v', w', q1, q2, q3⟩ := run_append59 w o.type b off n cap xs hX hn h8
  unfold Oper.wp
  simp [execOp, ho, resolve, invoke, builtin, hs, hx, q1, Result.andThen]
  exact h v' w' q2 q3
end Go.Proofs.Ytfiaciniikcacaa
