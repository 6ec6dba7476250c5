/-
  link: what the theorem of the stage says of rows and of what came. No statement is proved here.
-/
import Derived.Test.YtedcileokcbohaaDoorLiO
namespace Go.Proofs.YtedcileokcbohaaDoor
open Go.RowKit
set_option linter.unusedVariables false
set_option linter.unusedSimpArgs false
set_option maxRecDepth 100000

theorem sort_pw : ∀ L : List Nr, sortB L = true ↔ L.Pairwise fun r s => r.1.toNat < s.1.toNat
  | [] => ⟨fun _ => List.Pairwise.nil, fun _ => rfl⟩
  | r :: l => by rw [sort_cons, List.pairwise_cons, sort_pw l]
theorem getD_mem {α : Type} (z : α) {l : List α} {i : Nat} (h : i < l.length) : l.getD i z ∈ l := by
  rw [List.getD_eq_getElem?_getD, List.getElem?_eq_getElem h]; exact List.getElem_mem h
theorem mem_getD {α : Type} (z : α) {l : List α} {x : α} (h : x ∈ l) : ∃ i, i < l.length ∧ x = l.getD i z := by
  obtain ⟨i, hi, rfl⟩ := List.mem_iff_getElem.1 h
  exact ⟨i, hi, by rw [List.getD_eq_getElem?_getD, List.getElem?_eq_getElem hi]; rfl⟩
theorem cnt_self {L : List Nr} (h : sortB L = true) {i : Nat} (hi : i < L.length) : cntL (L.getD i (rz NF)).1 L = i := by
  have h1 := sort_cnt (L.getD i (rz NF)).1 L h i hi
  have h2 : ¬ i < cntL (L.getD i (rz NF)).1 L := fun q => by
    have := ult_iff.1 (h1.2 q)
    omega
  rcases Nat.lt_or_ge (cntL (L.getD i (rz NF)).1 L) i with q | q
  · have h3 := sort_cnt (L.getD i (rz NF)).1 L h _ (Nat.lt_trans q hi)
    have := h3.1 (ult_iff.2 (sort_lt L h _ i q hi))
    omega
  · omega
theorem is_self {L : List Nr} {i : Nat} (hi : i < L.length) : isL (L.getD i (rz NF)).1 L = true := by
  unfold isL
  rw [List.any_eq_true]
  exact ⟨_, getD_mem _ hi, beq_self_eq_true _⟩
theorem sort_congr : ∀ L L' : List Nr, L.map (·.1) = L'.map (·.1) → sortB L = true → sortB L' = true
  | [], [], _, _ => rfl
  | [], _ :: _, h, _ => by cases h
  | _ :: _, [], h, _ => by cases h
  | r :: l, r' :: l', h, hs => by
    simp only [List.map_cons, List.cons.injEq] at h
    obtain ⟨h1, h2⟩ := h
    rw [sort_cons] at hs ⊢
    refine ⟨fun s hm => ?_, sort_congr l l' h2 hs.2⟩
    have : s.1 ∈ l.map (·.1) := by rw [h2]; exact List.mem_map.2 ⟨s, hm, rfl⟩
    obtain ⟨t, ht, e⟩ := List.mem_map.1 this
    have := hs.1 t ht
    rw [← h1, ← e]; exact this
theorem sort_set {L : List Nr} {a : BitVec 32} {m : Tx} {u : BitVec 64} (h : sortB L = true) (hi : isL a L = true) : sortB (L.set (cntL a L) (a, m, u, ())) = true := by
  refine sort_congr L _ ?_ h
  have hk := is_cnt a L h
  rw [hi] at hk
  have h1 : cntL a L < L.length := is_lt h hi
  rw [show Nat.blt (cntL a L) L.length = true from by rw [Nat.blt_eq]; exact h1] at hk
  have h2 : (L.getD (cntL a L) (rz NF)).1 = a := eq_of_beq hk.symm
  rw [List.map_set]
  rw [List.getD_eq_getElem?_getD, List.getElem?_eq_getElem h1] at h2
  apply List.ext_getElem?
  intro j
  rw [List.getElem?_set]
  split
  · rename_i e
    subst e
    rw [if_pos (by rw [List.length_map]; exact h1), List.getElem?_map, List.getElem?_eq_getElem h1]
    exact congrArg some h2
  · rfl
theorem is_no {L : List Nr} {a : BitVec 32} (h : isL a L = false) {s : Nr} (hs : s ∈ L) : s.1 ≠ a := by
  intro e
  unfold isL at h
  rw [List.any_eq_false] at h
  exact h s hs (by rw [e]; exact beq_self_eq_true _)
theorem sort_ins {L : List Nr} {a : BitVec 32} {m : Tx} {u : BitVec 64} (h : sortB L = true) (hi : isL a L = false) : sortB (insL (cntL a L) (a, m, u, ()) L) = true := by
  have hc := cntL_le a L
  have hp := (sort_pw L).1 h
  have hq := sort_cnt a L h
  rw [← List.take_append_drop (cntL a L) L, List.pairwise_append] at hp
  obtain ⟨h1, h2, h3⟩ := hp
  have lo : ∀ r ∈ L.take (cntL a L), r.1.toNat < a.toNat := fun r hr => by
    obtain ⟨i, hi, rfl⟩ := List.mem_iff_getElem.1 hr
    have hi' := hi
    rw [List.length_take] at hi'
    have h4 := (hq i (by omega)).2 (by omega)
    rw [List.getD_eq_getElem?_getD, List.getElem?_eq_getElem (by omega)] at h4
    rw [List.getElem_take]
    exact ult_iff.1 h4
  have up : ∀ s ∈ L.drop (cntL a L), a.toNat < s.1.toNat := fun s hs => by
    have hne := is_no hi (List.mem_of_mem_drop hs)
    obtain ⟨i, hi, rfl⟩ := List.mem_iff_getElem.1 hs
    have hi' := hi
    rw [List.length_drop] at hi'
    have h4 := hq (cntL a L + i) (by omega)
    rw [List.getD_eq_getElem?_getD, List.getElem?_eq_getElem (by omega)] at h4
    rw [List.getElem_drop] at hne ⊢
    have h5 : ¬ (L[cntL a L + i]'(by omega)).1.toNat < a.toNat := fun q => by
      have := h4.1 (ult_iff.2 q)
      omega
    have h6 : (L[cntL a L + i]'(by omega)).1.toNat ≠ a.toNat := fun e => hne (BitVec.eq_of_toNat_eq e)
    omega
  rw [sort_pw]
  unfold insL
  rw [List.append_assoc, List.pairwise_append]
  refine ⟨h1, ?_, fun r hr s hs => ?_⟩
  · rw [List.singleton_append, List.pairwise_cons]
    exact ⟨up, h2⟩
  · rcases List.mem_append.1 hs with q | q
    · rw [List.mem_singleton] at q
      rw [q]; exact lo r hr
    · exact h3 r hr s q
theorem keep_sort {q : Int} {f : BitVec 64} {a : BitVec 32} {m : Tx} {n : BitVec 64} {L : List Nr} (h : sortB L = true) : sortB (keepL q f a m n L) = true := by
  unfold keepL
  cases hi : isL a L
  · cases hq : ile q (L.length : Int)
    · exact sort_ins h hi
    · exact h
  · exact sort_set h hi
theorem keep_len {q : Int} {f : BitVec 64} {a : BitVec 32} {m : Tx} {n : BitVec 64} {L : List Nr} (h : (L.length : Int) ≤ q) : ((keepL q f a m n L).length : Int) ≤ q := by
  unfold keepL
  cases hi : isL a L
  · cases hq : ile q (L.length : Int)
    · have : ¬ q ≤ (L.length : Int) := by rw [ile_eq] at hq; exact of_decide_eq_false hq
      show ((insL _ _ L).length : Int) ≤ q
      rw [insL_len]; omega
    · exact h
  · show ((L.set _ _).length : Int) ≤ q
    rw [List.length_set]; exact h
theorem keep_mem {q : Int} {f : BitVec 64} {a : BitVec 32} {m : Tx} {n : BitVec 64} {L : List Nr} {r : Nr} (h : r ∈ keepL q f a m n L) : r ∈ L ∨ r = (a, m, n + f, ()) := by
  unfold keepL at h
  cases hi : isL a L
  · rw [hi] at h
    cases hq : ile q (L.length : Int)
    · rw [hq] at h
      replace h : r ∈ insL (cntL a L) (a, m, n + f, ()) L := h
      unfold insL at h
      rcases List.mem_append.1 h with q | q
      · rcases List.mem_append.1 q with q | q
        · exact .inl (List.mem_of_mem_take q)
        · exact .inr (List.mem_singleton.1 q)
      · exact .inl (List.mem_of_mem_drop q)
    · rw [hq] at h; exact .inl h
  · rw [hi] at h
    exact (List.mem_or_eq_of_mem_set h)
theorem kept_mem {n : BitVec 64} {L : List Nr} {r : Nr} (h : r ∈ kept n L) : r ∈ L := (List.mem_filter.1 h).1
theorem kept_twice (n : BitVec 64) (L : List Nr) : kept n (kept n L) = kept n L := by
  unfold kept
  rw [List.filter_eq_self]
  intro r hr
  exact (List.mem_filter.1 hr).2
theorem pas_twice (n : BitVec 64) (L : List Nr) : pasL n (pasL n L) = pasL n L := by
  unfold pasL
  cases MC.ule n
  · exact kept_twice n L
  · rfl
/-- What holds of a table's rows, whatever came. -/
structure Iv (own : BitVec 32) (q : Int) (f : BitVec 64) (S : List Nr) (now : BitVec 64) (L : List Nr) : Prop where
  so : sortB L = true
  le : (L.length : Int) ≤ q
  row : ∀ r ∈ L, othR own r.1 r.2.1 = true ∧ ∃ b, b < S.length ∧ (S.getD b (rz NF)).1 = r.1 ∧ (S.getD b (rz NF)).2.1 = r.2.1 ∧ r.2.2.1 = (S.getD b (rz NF)).2.2.1 + f
  up : ∀ b c, b ≤ c → c < S.length → (S.getD b (rz NF)).2.2.1.toNat ≤ (S.getD c (rz NF)).2.2.1.toNat
  nw : ∀ b, b < S.length → (S.getD b (rz NF)).2.2.1.toNat ≤ now.toNat
section
variable {own : BitVec 32} {q : Int} {f : BitVec 64} {S : List Nr} {now : BitVec 64} {L : List Nr}
theorem Iv.kp (h : Iv own q f S now L) (n : BitVec 64) : Iv own q f S now (kept n L) :=
  ⟨sort_kept n h.so, Int.le_trans (by exact_mod_cast kept_le n L) h.le, fun r hr => h.row r (kept_mem hr), h.up, h.nw⟩
theorem Iv.pas (h : Iv own q f S now L) (n : BitVec 64) : Iv own q f S now (pasL n L) := by
  unfold pasL
  cases MC.ule n
  · exact h.kp n
  · exact h
theorem Iv.later (h : Iv own q f S now L) {n : BitVec 64} (hn : now.toNat ≤ n.toNat) : Iv own q f S n L :=
  ⟨h.so, h.le, h.row, h.up, fun b hb => Nat.le_trans (h.nw b hb) hn⟩
theorem getD_app_l {α : Type} (z : α) (S : List α) (x : α) {b : Nat} (h : b < S.length) : (S ++ [x]).getD b z = S.getD b z := by
  rw [List.getD_eq_getElem?_getD, List.getD_eq_getElem?_getD, List.getElem?_append_left h]
theorem getD_app_r {α : Type} (z : α) (S : List α) (x : α) : (S ++ [x]).getD S.length z = x := by
  rw [List.getD_eq_getElem?_getD, List.getElem?_append_right (Nat.le_refl _), Nat.sub_self]; rfl
theorem Iv.say (h : Iv own q f S now L) (a : BitVec 32) (m : Tx) : Iv own q f (S ++ [(a, m, now, ())]) now L := by
  have hl : (S ++ [((a, m, now, ()) : Nr)]).length = S.length + 1 := by simp
  refine ⟨h.so, h.le, fun r hr => ?_, fun b c hbc hc => ?_, fun b hb => ?_⟩
  · obtain ⟨h1, b, h2, h3, h4, h5⟩ := h.row r hr
    refine ⟨h1, b, by omega, ?_⟩
    rw [getD_app_l _ S _ h2]
    exact ⟨h3, h4, h5⟩
  · rw [hl] at hc
    rcases Nat.lt_or_ge c S.length with k | k
    · rw [getD_app_l _ S _ k, getD_app_l _ S _ (Nat.lt_of_le_of_lt hbc k)]
      exact h.up b c hbc k
    · obtain rfl : c = S.length := by omega
      rw [getD_app_r]
      rcases Nat.lt_or_ge b S.length with j | j
      · rw [getD_app_l _ S _ j]; exact h.nw b j
      · obtain rfl : b = S.length := by omega
        rw [getD_app_r]; exact Nat.le_refl _
  · rw [hl] at hb
    rcases Nat.lt_or_ge b S.length with j | j
    · rw [getD_app_l _ S _ j]; exact h.nw b j
    · obtain rfl : b = S.length := by omega
      rw [getD_app_r]; exact Nat.le_refl _
theorem Iv.keep (h : Iv own q f S now L) {a : BitVec 32} {m : Tx} (ho : othR own a m = true) : Iv own q f (S ++ [(a, m, now, ())]) now (keepL q f a m now L) := by
  have hs := h.say a m
  refine ⟨keep_sort h.so, keep_len h.le, fun r hr => ?_, hs.up, hs.nw⟩
  rcases keep_mem hr with k | rfl
  · exact hs.row r k
  · refine ⟨ho, S.length, by simp, ?_⟩
    rw [getD_app_r]
    exact ⟨rfl, rfl, rfl⟩
theorem tk_oth {op : BitVec 16} {m z : Tx} {fa : BitVec 32} {n : BitVec 64} (h : tkOk own op m fa z n = true) : MC.ule n = false ∧ othR own fa m = true := by
  unfold tkOk at h
  simp only [Bool.and_eq_true, Bool.not_eq_true'] at h
  exact ⟨h.1, h.2.2⟩
theorem Iv.take (h : Iv own q f S now L) {op : BitVec 16} {m z : Tx} {fa ta : BitVec 32} (hk : tkOk own op m fa z now = true) : Iv own q f (S ++ [(fa, m, now, ())]) now (tkLp q f own op m fa z ta now L) := by
  obtain ⟨-, ho⟩ := tk_oth hk
  have h1 := h.kp now
  unfold tkLp tkL
  rw [hk]
  show Iv own q f _ now (bif ta == own then _ else _)
  cases ta == own
  · show Iv own q f _ now (bif isL fa (kept now L) then _ else _)
    cases isL fa (kept now L)
    · exact h1.say fa m
    · exact h1.keep ho
  · exact h1.keep ho
theorem Iv.took (h : Iv own q f S now L) {op : BitVec 16} {m z : Tx} {fa ta : BitVec 32} (hk : tkOk own op m fa z now = false) : Iv own q f S now (tkLp q f own op m fa z ta now L) := by
  unfold tkLp
  rw [hk]
  exact h.pas now
theorem Iv.learn (h : Iv own q f S now L) {a : BitVec 32} {m : Tx} (hk : lnE q own a m now L = 0) : Iv own q f (S ++ [(a, m, now, ())]) now (lnL q f own a m now L) := by
  unfold lnE at hk
  unfold lnL
  cases ho : lnOk own a m now
  · rw [ho] at hk; cases hk
  · unfold lnOk at ho
    rw [Bool.and_eq_true] at ho
    exact (h.kp now).keep ho.2
theorem Iv.learnt (h : Iv own q f S now L) {a : BitVec 32} {m : Tx} (hk : lnE q own a m now L ≠ 0) : Iv own q f S now (lnL q f own a m now L) := by
  unfold lnE at hk
  unfold lnL
  cases ho : lnOk own a m now
  · exact h.pas now
  · rw [ho] at hk
    replace hk : keepE q a (kept now L) ≠ 0 := hk
    show Iv own q f S now (keepL q f a m now (kept now L))
    unfold keepE at hk
    unfold keepL
    cases hi : isL a (kept now L)
    · rw [hi] at hk
      cases hq : ile q ((kept now L).length : Int)
      · rw [hq] at hk; exact absurd rfl hk
      · exact h.kp now
    · rw [hi] at hk; exact absurd rfl hk
end
/-- The last of those before b that says so. -/
def lastI (S : List Nr) (a : BitVec 32) (m : Tx) : Nat → Int
  | 0 => -1
  | b + 1 => bif (S.getD b (rz NF)).1 == a && (S.getD b (rz NF)).2.1 == m then (b : Nat) else lastI S a m b
theorem lastI_is {S : List Nr} {a : BitVec 32} {m : Tx} {b0 : Nat} (h1 : (S.getD b0 (rz NF)).1 = a) (h2 : (S.getD b0 (rz NF)).2.1 = m) : ∀ B, b0 < B → ∃ c : Nat, lastI S a m B = (c : Nat) ∧ b0 ≤ c ∧ c < B
  | 0, h => absurd h (by omega)
  | B + 1, h => by
    unfold lastI
    cases hb : (S.getD B (rz NF)).1 == a && (S.getD B (rz NF)).2.1 == m
    · rcases Nat.lt_or_ge b0 B with k | k
      · obtain ⟨c, e1, e2, e3⟩ := lastI_is h1 h2 B k
        exact ⟨c, e1, e2, by omega⟩
      · obtain rfl : b0 = B := by omega
        rw [h1, h2, beq_self_eq_true, beq_self_eq_true] at hb
        cases hb
    · exact ⟨B, rfl, by omega, by omega⟩
theorem oth_split {own a : BitVec 32} {m : Tx} (h : othR own a m = true) : aloneM m = true ∧ (a == own) = false := by
  unfold othR at h
  simp only [Bool.and_eq_true] at h
  refine ⟨h.2.1, ?_⟩
  have := h.2.2
  cases hb : a == own
  · rfl
  · rw [bne, hb] at this; cases this
/-- What is looked up of one who is near. -/
theorem look_self {L : List Nr} {now : BitVec 64} (hs : sortB L = true) (hk : kept now L = L) (hm : MC.ule now = false) {k : Nat} (hi : k < L.length) : lkE (L.getD k (rz NF)).1 now L = 0 ∧ lkT (L.getD k (rz NF)).1 now L = (L.getD k (rz NF)).2.1 := by
  have h1 := is_self hi
  have h2 := cnt_self hs hi
  constructor
  · unfold lkE
    rw [hk, hm, h1]; rfl
  · unfold lkT lkB
    rw [hk, hm, h1, h2]; rfl
/-- The last who said so said it less than a life ago. -/
theorem last_ok {own : BitVec 32} {q : Int} {f : BitVec 64} {S : List Nr} {now : BitVec 64} {L : List Nr} (h : Iv own q f S now L) (hk : kept now L = L) (hn : now.toNat + f.toNat < 18446744073709551616) {k : Nat} (hi : k < L.length) : ∃ c : Nat, lastI S (L.getD k (rz NF)).1 (L.getD k (rz NF)).2.1 S.length = (c : Nat) ∧ c < S.length ∧ ((S.getD c (rz NF)).2.2.1 + f).ule now = false := by
  have hm := getD_mem (rz NF) hi
  obtain ⟨h1, b, h2, h3, h4, h5⟩ := h.row _ hm
  obtain ⟨c, e1, e2, e3⟩ := lastI_is h3 h4 S.length h2
  refine ⟨c, e1, e3, ?_⟩
  have hd : del now (L.getD k (rz NF)) = false := by
    have : L.getD k (rz NF) ∈ kept now L := by rw [hk]; exact hm
    have := (List.mem_filter.1 this).2
    cases hx : del now (L.getD k (rz NF))
    · rfl
    · rw [hx] at this; cases this
  unfold del at hd
  rw [h5] at hd
  have u1 := h.up b c e2 e3
  have u2 := h.nw c e3
  have u3 := h.nw b h2
  rw [BitVec.ule, decide_eq_false_iff_not] at hd ⊢
  rw [BitVec.toNat_add, Nat.mod_eq_of_lt (by omega)] at hd ⊢
  omega
end Go.Proofs.YtedcileokcbohaaDoor
