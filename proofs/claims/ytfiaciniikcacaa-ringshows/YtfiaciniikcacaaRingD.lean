/-
  What Add of package ring comes to, whatever it is handed; rows of heads beside a ring. No statement is proved here.
-/
import Derived.Test.YtfiaciniikcacaaRing24
import Derived.Test.YtfiaciniikcacaaRingC
import Derived.Deep.DeepAppendRoom
namespace Go.Proofs.Ytfiaciniikcacaa
open Go.RowKit Go.BigFrame Go.MapKept
set_option linter.unusedVariables false
set_option linter.unusedSimpArgs false
set_option maxRecDepth 1000000
set_option maxHeartbeats 4000000

/-- Why Add refuses. -/
def AddW (k at_ N : Nat) (Z : Nat → Prop) (brk : Bool) (tk : List Bool) (cs : List Ch) (xs : List Bf) (c : Int) : Prop :=
  (c = 20 ∧ brk = true) ∨ (c = 2 ∧ mayB xs = false) ∨ (c = 10 ∧ inB k xs = false) ∨ (c = 6 ∧ (frK tk xs.length N).length < xs.length) ∨
  (c = 11 ∧ ∃ l, (∀ j, In l j ↔ Z j ∨ Cov (cs.flatMap fun c => ivs c.xs) j) ∧ LendNo at_ (rSize N) l xs)
def AddQ (B : Nat) (w w' : World) (bR bM bm bb k at_ bT N bC : Nat) (Z : Nat → Prop) (idx pol : Nat) (brk : Bool) (tk : List Bool) (cs : List Ch) (bs : List UInt8) (xs : List Bf) (e : Ending) : Prop :=
  (∃ c : Int, AddW k at_ N Z brk tk cs xs c ∧ e = .returned (.tuple #[.int .u16 0, .int .i64 c]) ∧ RS B w' bR bM bm bb k at_ bT N bC Z idx pol brk tk cs bs ∧ Kp B [bR, bT, bC, bm, bb] w w') ∨
  (brk = false ∧ mayB xs = true ∧ inB k xs = true ∧ ∃ ch : Ch, ch.xs = xs ∧ ch.ds = frK tk xs.length N ∧ (frK tk xs.length N).length = xs.length ∧ e = .returned (.tuple #[.int .u16 (ch.h : Nat), .int .i64 0]) ∧ (∀ g, ch.dv.ownBlock = some g → w.heap.size ≤ g) ∧ RS B w' bR bM bm bb k at_ bT N bC Z ((idx + 1) % 65536) pol false (tkW tk (frK tk xs.length N) xs.length) (cs ++ [ch]) (offW (dW bs at_ (frK tk xs.length N) xs xs.length) at_ N idx ch.h) ∧ Kp B [bR, bT, bC, bm, bb] w w')
theorem AddW.ne {k at_ N : Nat} {Z : Nat → Prop} {brk : Bool} {tk : List Bool} {cs : List Ch} {xs : List Bf} {c : Int} (h : AddW k at_ N Z brk tk cs xs c) : c ≠ 0 := by
  rcases h with h | h | h | h | h <;> rw [h.1] <;> decide
theorem radd_all (B bR bM bm bb k at_ bT N bC idx pol : Nat) (Z : Nat → Prop) (brk : Bool) (tk : List Bool) (cs : List Ch) (bs : List UInt8) (v : Value) (xs : List Bf) (w : World) (h : RS B w bR bM bm bb k at_ bT N bC Z idx pol brk tk cs bs) (hA : Arg w v xs) :
    Calls Try.prog 11 #[.pointer (some ⟨bR, 0, none⟩), v] w fun e w' => AddQ B w w' bR bM bm bb k at_ bT N bC Z idx pol brk tk cs bs xs e := by
  cases brk with
  | true => exact (radd_broken B bR bM bm bb k at_ bT N bC idx pol Z tk cs bs v w h).mono fun e w' ⟨q1, q2⟩ => .inl ⟨20, .inl ⟨rfl, rfl⟩, q1, q2 ▸ h, q2 ▸ Kp.refl _ _ _⟩
  | false =>
    cases hm : mayB xs with
    | false => exact (radd_arg B bR bM bm bb k at_ bT N bC idx pol Z tk cs bs v xs w h hA hm).mono fun e w' ⟨q1, q2⟩ => .inl ⟨2, .inr (.inl ⟨rfl, hm⟩), q1, h.fr0 q2, q2.kp0⟩
    | true =>
      cases hi : inB k xs with
      | false => exact (radd_out B bR bM bm bb k at_ bT N bC idx pol Z tk cs bs v xs w h hA hm hi).mono fun e w' ⟨q1, q2⟩ => .inl ⟨10, .inr (.inr (.inl ⟨rfl, hi⟩)), q1, h.fr0 q2, q2.kp0⟩
      | true =>
        have hfl := (frK_len tk xs.length N).2
        rcases Nat.lt_or_ge (frK tk xs.length N).length xs.length with hf | hf
        · exact (radd_full B bR bM bm bb k at_ bT N bC idx pol Z tk cs bs v xs w h hA hm hi hf).mono fun e w' ⟨q1, q2⟩ => .inl ⟨6, .inr (.inr (.inr (.inl ⟨rfl, hf⟩))), q1, h.fr0 q2, q2.kp0⟩
        · have hx8 := mayB_len hm
          rcases hA with ⟨p, c, _, h2⟩ | ⟨b, o, cap, rfl, h2, h3, h4, h5⟩
          · subst h2; simp at hx8
          · have hbm : bR ≠ b := by
              obtain ⟨c, t, f, g1, g2⟩ := h5.blk
              exact blk_ne h.ring.blk g1 (fun e => g2.2.2.2.1 e.symm)
            refine (radd_go B bR bM bm bb k at_ bT N bC idx pol b o cap Z tk cs bs xs w h h5 h3 h4 hbm hm hi (by omega)).mono ?_
            rintro e w' (⟨q1, q2, q3, q4⟩ | ⟨ch, q1, q2, q3, q4, q5, q6⟩)
            · exact .inl ⟨11, .inr (.inr (.inr (.inr ⟨rfl, q2⟩))), q1, q3, q4⟩
            · exact .inr ⟨rfl, hm, hi, ch, q1, q2, by omega, q3, q4, q5, q6⟩
/-- A row of heads, grown. -/
theorem run_app37 (w : World) (ty : TypeId) (B : Nat) (v : Value) (hs : List Nat) (n : Nat) (hn : hs.length = n) (hO : w.ownsRow B 37 1 v n (dvs hs)) (a : Addr) (m c : Nat) (ds : List Nat) (hm : ds.length = m) (hc : ∀ j u, (dvs ds)[j]? = some u → w.cell? (a.add j) = some u) (hl : n + m ≤ 100000) (hB : B ≤ w.heap.size) :
    ∃ v' w', (Builtin.append_ #[33, 33] ty #[v, .slice (some a) m c]).run Try.prog w = .ok v' w' ∧ w'.ownsRow B 37 1 v' (n + m) (dvs (hs ++ ds)) ∧ Fr v.ownBlock.toList w w' ∧ (∀ g', v'.ownBlock = some g' → v.ownBlock = some g' ∨ w.heap.size ≤ g') := by
  subst hn hm
  obtain ⟨i, hi, hz, hsz, hb⟩ := info37
  have h1 : ∀ u ∈ dvs ds, u.oneCell' = true := fun u hu => by
    simp [dvs] at hu
    obtain ⟨d, _, rfl⟩ := hu
    rfl
  have e : dvs (hs ++ ds) = dvs hs ++ dvs ds := by simp [dvs]
  rw [e]
  have hl1 : (dvs ds).length = ds.length * 1 := by simp [dvs]
  obtain ⟨v', w', q1, q2, q3, q4⟩ := run_append_own (P := Try.prog) w B 33 ty 37 i (.int .u16 0) 1 2 Try.underlying33 hi hz hsz hb rfl (by omega) v hs.length (dvs hs) hO a ds.length c (dvs ds) hl1 hc h1 (by simp [maxLen]; omega) (by omega) hB
  refine ⟨v', w', q1, q2, Fr.ofGrown q3, fun g' hg' => ?_⟩
  rcases hO.2 with ⟨rfl, h0⟩ | ⟨g, cap, cur, rfl, hbg, hg, hnc, hcm, hcs, htake⟩
  · have hx : hs = [] := List.length_eq_zero_iff.1 h0
    subst hx
    obtain ⟨v2, w2, p1, p2, _⟩ := run_append_own (P := Try.prog) w w.heap.size 33 ty 37 i (.int .u16 0) 1 2 Try.underlying33 hi hz hsz hb rfl (by omega) (.slice none 0 0) 0 [] (World.ownsRow_nil _ _ _ _) a ds.length c (dvs ds) hl1 hc h1 (by simp [maxLen]; omega) (by omega) (Nat.le_refl _)
    rw [p1] at q1
    cases q1
    rcases p2.2 with ⟨rfl, _⟩ | ⟨g, cap, cur, rfl, hbg, _⟩
    · cases hg'
    · cases hg'; exact .inr hbg
  · rcases Nat.lt_or_ge cap (hs.length + ds.length) with hroom | hroom
    · have holds : ∀ j u, (dvs hs)[j]? = some u → w.cell? ((⟨g, 0, none⟩ : Addr).add j) = some u := hO.cells (g := g) rfl
      have hr := run_append_grow (P := Try.prog) w 33 ty 37 i (.int .u16 0) Try.underlying33 hi hz ⟨g, 0, none⟩ hs.length cap (dvs hs) (by rw [hsz]; exact hO.1) holds a ds.length c (dvs ds) (by rw [hsz]; exact hl1) hc (by omega) (by omega) (growslice_fits (by omega) (by rw [hb]; omega))
      rw [hr] at q1
      cases q1
      cases hg'
      exact .inr (Nat.le_refl _)
    · obtain ⟨w2, p1, _⟩ := run_append_own_spare (P := Try.prog) w B 33 ty 37 i 1 Try.underlying33 hi hsz g hs.length cap (dvs hs) hO a ds.length c (dvs ds) hl1 hc h1 hroom
      rw [p1] at q1
      cases q1
      exact .inl hg'
/-- A row of heads is kept by what a ring's calls do. -/
theorem own37_kp {B B' : Nat} {S : List Nat} {w w' : World} {v : Value} {n : Nat} {xs : List Value} (h : w.ownsRow B' 37 1 v n xs) (hK : Kp B S w w') (hS : Odd w S) : w'.ownsRow B' 37 1 v n xs := by
  refine ⟨h.1, ?_⟩
  rcases h.2 with h0 | ⟨g, cap, cur, h1, h2, h3, h4⟩
  · exact .inl h0
  · exact .inr ⟨g, cap, cur, h1, h2, hK.heap h3 (fun ht => (hS g ht cur _).2 h3) (by decide), h4⟩
section
variable {B : Nat} {w w' : World} {bR bM bm bb k at_ bT N bC : Nat} {Z : Nat → Prop} {idx pol : Nat} {brk : Bool} {tk : List Bool} {cs : List Ch} {bs : List UInt8}
theorem RS.frOwn {B' : Nat} {v : Value} {n : Nat} {xs : List Value} (h : RS B w bR bM bm bb k at_ bT N bC Z idx pol brk tk cs bs) (hO : w.ownsRow B' 37 1 v n xs) (hd : ∀ c, c ∈ cs → ∀ g, v.ownBlock = some g → c.dv.ownBlock ≠ some g) (hF : Fr v.ownBlock.toList w w') : RS B w' bR bM bm bb k at_ bT N bC Z idx pol brk tk cs bs := by
  rcases hO.2 with ⟨rfl, _⟩ | ⟨g, cap, cur, rfl, h2, h3, h4⟩
  · exact h.fr0 hF
  · exact h.frT (t := g) hF ⟨cur, 37, _, h3, by decide, by decide, by decide, by decide, by decide, by decide, by decide⟩ (fun c hc => hd c hc g rfl)
theorem RS.few (h : RS B w bR bM bm bb k at_ bT N bC Z idx pol brk tk cs bs) : cs.length ≤ N := by
  have h1 : (cs.map Ch.h).length ≤ (List.range N).length := h.hds.length_le_of_subset (fun d hd => by
    obtain ⟨c, hc, rfl⟩ := List.mem_map.1 hd
    exact List.mem_range.2 (h.dlt c.h (List.mem_flatMap.2 ⟨c, hc, List.mem_of_getElem? (h.chs c hc).hd⟩)))
  simpa using h1
theorem RS.dvlt (h : RS B w bR bM bm bb k at_ bT N bC Z idx pol brk tk cs bs) {c : Ch} (hc : c ∈ cs) {g : Nat} (hg : c.dv.ownBlock = some g) : g < w.heap.size := by
  obtain ⟨g', gc, g1, g2⟩ := (h.chs c hc).dscs
  rw [g1] at hg
  cases hg
  obtain ⟨cur, q1, _⟩ := g2.blk
  exact lt_of_heap q1
theorem RS.hlt (h : RS B w bR bM bm bb k at_ bT N bC Z idx pol brk tk cs bs) {c : Ch} (hc : c ∈ cs) : c.h < N := h.dlt c.h (List.mem_flatMap.2 ⟨c, hc, List.mem_of_getElem? (h.chs c hc).hd⟩)
/-- A ring, and beside it the row of the heads that wait. -/
def OnceI (w wr : World) (bR bM bm bb k at_ bT N bC : Nat) (v : Value) (n : Nat) (P : Nat → Nat → Bool → List Bool → List Ch → List UInt8 → Prop) : Prop :=
  ∃ idx pol brk tk cs bs, RS w.heap.size wr bR bM bm bb k at_ bT N bC (Zr at_ N) idx pol brk tk cs bs ∧ cs.length = n ∧ wr.ownsRow w.heap.size 37 1 v n (dvs (cs.map Ch.h)) ∧ (∀ c, c ∈ cs → ∀ g, v.ownBlock = some g → c.dv.ownBlock ≠ some g) ∧ Fr [] w wr ∧ P idx pol brk tk cs bs
theorem Fr.kpT {S : List Nat} {w a b : World} (h : Fr [] w a) (hK : Kp w.heap.size S a b) (hS : ∀ t, t ∈ S → w.heap.size ≤ t) : Fr [] w b :=
  ⟨hK.os.trans h.os, hK.tape.trans h.tape, hK.output.trans h.output, Nat.le_trans h.size hK.size, fun k hk _ => by
    have hk' := Nat.lt_of_lt_of_le hk h.size
    have h1 := h.block k hk (by simp)
    obtain ⟨o, ho⟩ : ∃ o, a.heap[k]? = some o := ⟨_, Array.getElem?_eq_getElem hk'⟩
    rw [hK.block k o ho (fun ht => by have := hS k ht; omega) (.inl hk), ← ho, h1]⟩
theorem RS.lowS (h : RS B w bR bM bm bb k at_ bT N bC Z idx pol brk tk cs bs) : ∀ t, t ∈ [bR, bT, bC, bm, bb] → B ≤ t := by
  intro t ht
  have hl := h.low
  simp at ht
  rcases ht with rfl | rfl | rfl | rfl | rfl
  · exact hl.2.1
  · exact hl.2.2.1
  · exact hl.2.2.2.1
  · exact hl.2.2.2.2.1
  · exact hl.2.2.2.2.2
end
end Go.Proofs.Ytfiaciniikcacaa
