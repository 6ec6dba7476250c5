/-
  The walk of 'free' of package ring: the free descriptors of the least numbers. No statement is proved here.
-/
import Derived.Test.YtfiaciniikcacaaRing6
namespace Go.Proofs.Ytfiaciniikcacaa
open Go.RowKit Go.BigFrame Go.MapKept
set_option linter.unusedVariables false
set_option linter.unusedSimpArgs false
set_option maxRecDepth 1000000
set_option maxHeartbeats 4000000

def dvs (ds : List Nat) : List Value := ds.map fun d => Value.int .u16 (d : Nat)
theorem info37 : ∃ i, Try.prog.info? 37 = some i ∧ i.zero = some (.int .u16 0) ∧ i.size = 1 ∧ i.bytes = 2 := infoOf (by kernel_rfl)
theorem wpList_append16 {w : World} {ops : Array Oper} {rest : List Oper} {o : Oper} {a : Act} {Q : Exit → Act → World → Prop} (hgd : o.guard = none) (s x : Operand)
    (ho : o.op = .call { callee := .builtin .append, args := #[s, x], argTypes := #[33, 33] })
    (B : Nat) (v : Value) (ds : List Nat) (hs : a.eval s = v) (n : Nat) (hnl : ds.length = n) (hown : w.ownsRow B 37 1 v n (dvs ds)) (g d : Nat) (hx : a.eval x = .slice (some ⟨g, 0, none⟩) 1 1) (hc : w.cell? ⟨g, 0, none⟩ = some (.int .u16 (d : Nat))) (hlen : ds.length ≤ 1000) (hB : B ≤ w.heap.size)
    (h : ∀ p c w', Hid (w'.ownsRow B 37 1 (.slice p (ds ++ [d]).length c) (ds ++ [d]).length (dvs (ds ++ [d]))) → Hid (Fr v.ownBlock.toList w w') → wpList Try.prog ops Q rest (a.put o.dst (.slice p (ds ++ [d]).length c)) w') : wpList Try.prog ops Q (o :: rest) a w := by
  subst hnl
  obtain ⟨i, hi, hz, hsz, hb⟩ := info37
  refine wpList_append_own (P := Try.prog) w hgd s x 33 ho B 37 i (.int .u16 0) 1 2 Try.underlying33 hi hz hsz hb rfl (by omega) v ds.length (dvs ds) hs hown ⟨g, 0, none⟩ 1 1 [.int .u16 (d : Nat)] hx rfl ?_ ?_ (by simp [maxLen]; omega) (by omega) hB ?_
  · intro j u hj
    match j, hj with
    | 0, hj => simp at hj; subst hj; simpa [Addr.add] using hc
  · intro u hu; simp at hu; subst hu; rfl
  · intro v' w' h2 h3 h4
    have e : dvs ds ++ [.int .u16 (d : Nat)] = dvs (ds ++ [d]) := by simp [dvs]
    have e2 : ds.length + 1 = (ds ++ [d]).length := by simp
    rw [e, e2] at h2
    have hf : ∃ p c, v' = .slice p (ds ++ [d]).length c := by
      rcases h2.2 with ⟨h5, h6⟩ | ⟨g, cap, cur, h5, _⟩
      · simp at h6
      · exact ⟨_, _, h5⟩
    obtain ⟨p, c, rfl⟩ := hf
    exact h p c w' h2 (Fr.ofGrown h3)

/-- The free descriptors of the least numbers, n of them at most, as far as i. -/
def frK (tk : List Bool) (n : Nat) : Nat → List Nat
  | 0 => []
  | i + 1 => if tk.getD i true = false ∧ (frK tk n i).length < n then frK tk n i ++ [i] else frK tk n i
theorem frK_len (tk : List Bool) (n : Nat) : ∀ i, (frK tk n i).length ≤ i ∧ (frK tk n i).length ≤ n
  | 0 => by simp [frK]
  | i + 1 => by
    have := frK_len tk n i
    unfold frK
    split
    · rename_i h; simp; omega
    · omega
theorem frK_mem (tk : List Bool) (n : Nat) : ∀ i d, d ∈ frK tk n i → d < i ∧ tk.getD d true = false
  | 0, d, h => by simp [frK] at h
  | i + 1, d, h => by
    unfold frK at h
    split at h
    · rename_i hc
      simp at h
      rcases h with h | rfl
      · have := frK_mem tk n i d h; exact ⟨by omega, this.2⟩
      · exact ⟨by omega, hc.1⟩
    · have := frK_mem tk n i d h; exact ⟨by omega, this.2⟩
theorem frK_nodup (tk : List Bool) (n : Nat) : ∀ i, (frK tk n i).Nodup
  | 0 => by simp [frK]
  | i + 1 => by
    have ih := frK_nodup tk n i
    unfold frK
    split
    · rw [List.nodup_append]
      refine ⟨ih, by simp, fun a ha b hb => ?_⟩
      simp at hb; subst hb
      have := frK_mem tk n b a ha; omega
    · exact ih
theorem ownsRow.form {w : World} {B t s : Nat} {v : Value} {n : Nat} {xs : List Value} (h : w.ownsRow B t s v n xs) : ∃ p c, v = .slice p n c := by
  rcases h.2 with ⟨h5, h6⟩ | ⟨g, cap, cur, h5, _⟩
  · exact ⟨_, _, by rw [h5, h6]⟩
  · exact ⟨_, _, h5⟩
theorem own_fr {w wr w' : World} {B t s : Nat} {v : Value} {n : Nat} {xs : List Value} (hF : Fr [] w wr) (h : wr.ownsRow w.heap.size t s v n xs) (hF' : Fr v.ownBlock.toList wr w') : Fr [] w w' :=
  hF.trans hF' (fun g hg => .inr (h.lt g (by simpa using hg)).1)
theorem taken_cell {w : World} {bR bM at_ bT N bC idx pol : Nat} {brk : Bool} {tk : List Bool} (hR : RingF w bR bM at_ bT N bC idx pol brk tk) (i : Nat) (hi : i < N) : w.cell? ⟨bT, i, none⟩ = some (.bool (tk.getD i true)) := by
  have hi' : i < tk.length := by rw [hR.len]; exact hi
  refine cell_of_heap hR.tak ?_
  simp [hi']
theorem free_any (bR bM at_ bT N bC idx pol : Nat) (brk : Bool) (tk : List Bool) (n : Nat) (w : World) (hR : RingF w bR bM at_ bT N bC idx pol brk tk) (hN : N ≤ 256) (hn : n ≤ 8) :
    Calls Try.prog 37 #[.pointer (some ⟨bR, 0, none⟩), .int .i64 n] w fun e w' => ∃ v, e = .returned v ∧ w'.ownsRow w.heap.size 37 1 v (frK tk n N).length (dvs (frK tk n N)) ∧ Fr [] w w' := by
  have c2 := hR.c2
  have HT := hid (taken_cell hR)
  clear hR
  go_enter Try.func37, Try.ntmps37
  go_wp2_with fail
  go_loopg [5, 13] N (fun gk s q wr => ∃ i : Nat, i ≤ N ∧ gk = N - i ∧ q = .int .i64 i ∧ ∃ p c, s = .slice p (frK tk n i).length c ∧ Hid (wr.ownsRow w.heap.size 37 1 (.slice p (frK tk n i).length c) (frK tk n i).length (dvs (frK tk n i)) ∧ Fr [] w wr))
  case atStart => exact ⟨0, Nat.zero_le _, rfl, rfl, none, 0, rfl, hid ⟨World.ownsRow_nil _ _ _ _, Fr.refl _ _⟩⟩
  case round =>
    obtain ⟨i, hi, hgk, rfl, p, c, rfl, K0⟩ := hrel
    by_cases hlt : i < N
    · have hlt' : (i : Int) < (N : Int) := by omega
      have r0 := K0.out.2.cell (HT.out i hlt) (by simp)
      have wi : IntKind.u16.wrap (i : Int) = i := by rw [IntKind.wrap_u16]; omega
      have HL := hid (frK_len tk n i)
      have HS := hid (show frK tk n (i + 1) = if tk.getD i true = false ∧ (frK tk n i).length < n then frK tk n i ++ [i] else frK tk n i from rfl)
      generalize tk.getD i true = t at *
      generalize frK tk n i = ds at *
      generalize hL : ds.length = L at *
      cases t with
      | true =>
        go_wp2
        go_roundg (N - (i + 1))
        case measure => omega
        case rel => exact ⟨i + 1, by omega, rfl, by go_num, p, c, by rw [HS.out]; simp [hL], by rw [HS.out]; simpa [hL] using K0⟩
      | false =>
        by_cases hq : L < n
        · have e1 : decide ((L : Int) < (n : Int)) = true := by simp; omega
          have HE := hid (show frK tk n (i + 1) = ds ++ [i] by rw [HS.out]; simp [hq])
          have hLb : L ≤ 1000 := by have := HL.out; omega
          have HLL := hid hL
          clear HS hL
          have hs0 := K0.out.2.size
          go_wp2_with (first | (at_builtin; refine wpList_append16 rfl _ _ rfl w.heap.size _ ds rfl L HLL.out (K0.out.1.alloc _) wr.heap.size i rfl (by simp) (by rw [HLL.out]; exact hLb) (by simp; omega) ?_; intro p' c' w1 hown1 hF1) | go_in)
          go_roundg (N - (i + 1))
          case measure => omega
          case rel => exact ⟨i + 1, by omega, rfl, by go_num, p', c', by rw [HE.out]; simp, by rw [HE.out]; exact hid ⟨hown1.out, own_fr (B := 0) K0.out.2 K0.out.1 (((Fr.refl _ wr).alloc _).trans hF1.out (fun t ht => .inl ht))⟩⟩
        · have e1 : decide ((L : Int) < (n : Int)) = false := by simp; omega
          have HE := hid (show frK tk n (i + 1) = ds by rw [HS.out]; simp [hq])
          have HLL := hid hL
          clear HS hL
          go_wp2
          go_roundg (N - (i + 1))
          case measure => omega
          case rel => exact ⟨i + 1, by omega, rfl, by go_num, p, c, by rw [HE.out, HLL.out], by rw [HE.out, HLL.out]; exact K0⟩
    · obtain rfl : i = N := by omega
      go_wp2
      go_ret
      exact ⟨_, rfl, K0.out.1, K0.out.2⟩
end Go.Proofs.Ytfiaciniikcacaa
