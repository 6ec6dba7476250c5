/-
  aead: the document's tag, as a number. No statement is proved here.
-/
import Derived.Test.YtgjhkfafmmkimaaDoorAeF
namespace Go.Proofs.YtgjhkfafmmkimaaDoor
open Go.RowKit
set_option linter.unusedVariables false
set_option linter.unusedSimpArgs false
set_option maxRecDepth 100000

theorem clN_app (t z : Tx) : ∀ j, j ≤ t.length → clN (t ++ z) j = clN t j ++ z
  | 0, _ => rfl
  | j + 1, h => by
    have hl := clN_len t j
    rw [clN, clN, clN_app t z j (by omega), List.set_append_left _ _ (by omega)]
    congr 3
    rw [List.getD_eq_getElem?_getD, List.getD_eq_getElem?_getD, List.getElem?_append_left (by omega)]
/-- The first half of a key, clamped. -/
def clamp (key : Tx) : Tx := clN (key.take 16) 16
def kC (key : Tx) (c : Nat) : Tx := key.take 16 ++ List.replicate (c - 16) 0
def k2C (key : Tx) (c : Nat) : Tx := clN (kC key c) 16
def tagD (key s : Tx) : Tx := lowD (belD (carryD (agN (rdD (clamp key)) s (Nc s)))) (key.drop 16)
def cTag (T : Tx → Tx → Tx) : List SV → List Cont → Option (Bool × SV)
  | [.s key, .s s], _ => some (Nat.ble s.length 1099511627776, bif Nat.beq key.length 32 then .tup [.s (T key s), .i 0] else .tup [.s [], .i 2])
  | _, _ => none
theorem ltg_ok (key s : Tx) (hk : key.length = 32) (hs : s.length ≤ 1099511627776) : LOk Tryd.prog G G 14 (Ltg key s (kC key) (k2C key) (rdD (clamp key)) (agN (rdD (clamp key)) s (Nc s))) := by
  refine LT.add_ok (LT.add_ok (noL_ok _ _ _ _) ?_) ?_
  · intro fr M K h
    obtain ⟨v, h⟩ := slotK_ok _ _ h
    obtain ⟨c, h⟩ := capK_ok h
    exact loopGk key s (kC key c) c (by unfold kC; rw [List.length_append, List.length_take]; omega) fr M K h
  · intro fr M K h
    obtain ⟨kk, h⟩ := txK_ok h
    exact loopGa key s kk hs _ (rdD_len _) fr M K h
theorem tag_ok : POk Tryd.prog G 14 (cTag tagD) := by
  intro args acs r h β M w hR hw ha
  unfold cTag at h
  split at h
  · rename_i key s
    simp only [Option.some.injEq, Prod.mk.injEq] at h
    obtain ⟨hl, rfl⟩ := h
    have hl := Nat.le_of_ble_eq_true hl
    cases hb : Nat.beq key.length 32
    · have hne : ¬ key.length = 32 := fun e => by rw [e] at hb; cases hb
      have hn : (((key.length : Int)) != 32) = true := bne_iff_ne.2 (by omega)
      refine pure0 (vf_ok eg_ok mixed (noL_ok _ _ _ _) (of_eq (vaG0 carryD timesD rdD belD lowD key s _) ?_)) rfl rfl hR
      rw [hn]
      rfl
    · have hk := Nat.eq_of_beq_eq_true hb
      have hn : (((key.length : Int)) != 32) = false := by rw [hk]; rfl
      have ht : (key.take 16).length = 16 := by rw [List.length_take]; omega
      have hc : (clamp key).length = 16 := (clN_len _ _).trans ht
      have hg := agN_len (rdD (clamp key)) s (Nc s)
      have hcar := carryD_len _ hg
      have hbel : (belD (carryD (agN (rdD (clamp key)) s (Nc s)))).length = 11 := (belD_len _).trans hcar
      refine pure0 (vf_ok eg_ok mixed (ltg_ok key s hk hl) (of_eq (vaG carryD timesD rdD belD lowD key s (kC key) (k2C key) (rdD (clamp key)) (agN (rdD (clamp key)) s (Nc s)) _) ?_)) rfl rfl hR
      rw [hn, List.drop_zero, ht, hk, hbel, hg, hcar]
      refine bif_of rfl (fun cap x hcap hx => ?_)
      have hx2 : x = kC key cap := hx
      have hkc : k2C key cap = clamp key ++ List.replicate (cap - 16) 0 := clN_app _ _ 16 (by omega)
      have htk : List.take 16 (List.drop 0 (clamp key ++ List.replicate (cap - 16) 0)) = clamp key := by
        rw [List.drop_zero, List.take_append_of_le_length (by omega), List.take_of_length_le (by omega)]
      have hky : List.drop 16 (List.take 32 key) = key.drop 16 := by rw [List.take_of_length_le (by omega)]
      have hk2 : (key.drop 16).length = 16 := by rw [List.length_drop]; omega
      have hlen : 16 ≤ (clamp key ++ List.replicate (cap - 16) (0 : BitVec 8)).length := by rw [List.length_append]; omega
      subst hx2
      rw [hkc, htk, hky, hk2, hc, rdD_len]
      unfold tagD
      generalize lowD (belD (carryD (agN (rdD (clamp key)) s (Nc s)))) (key.drop 16) = q
      generalize belD (carryD (agN (rdD (clamp key)) s (Nc s))) = q2
      generalize rdD (clamp key) = q3
      clear hkc htk hc hg hcar hbel
      generalize clamp key = q4 at hlen
      exact ⟨rfl, rfl, rfl, rfl, rfl, rfl, rfl, ⟨rfl, rfl⟩, ⟨rfl, rfl⟩, bif_of (decide_eq_true hlen) (bif_of rfl (bif_of rfl ⟨rfl, rfl, rfl, rfl, rfl, rfl, rfl, rfl, ⟨rfl, rfl⟩, ⟨rfl, rfl⟩, ⟨rfl, rfl⟩, ⟨rfl, rfl⟩, bif_of rfl (bif_of rfl (bif_of rfl (bif_of rfl (bif_of rfl (bif_of rfl (bif_of rfl rfl))))))⟩))⟩
  · cases h
end Go.Proofs.YtgjhkfafmmkimaaDoor
namespace Go.Proofs.YtgjhkfafmmkimaaDoor
open Go.RowKit
set_option linter.unusedVariables false
set_option linter.unusedSimpArgs false

theorem numS_lt : ∀ s : Tx, numS s < 256 ^ s.length
  | [] => by show 0 < 1; omega
  | x :: l => by
    have h1 := numS_lt l
    have h2 : x.toNat < 256 := x.isLt
    rw [numS, List.length_cons, Nat.pow_succ]
    omega
theorem numS_app : ∀ s t : Tx, numS (s ++ t) = numS s + 256 ^ s.length * numS t
  | [], t => by simp [numS]
  | x :: l, t => by
    rw [List.cons_append, numS, numS, numS_app l t, List.length_cons, Nat.pow_succ', Nat.mul_add, Nat.mul_assoc]
    omega
/-- A text that fits is read as its number. -/
theorem rdD_ok (s : Tx) (h : numS s < 2 ^ 132) : V (rdD s) = numS s ∧ Low (rdD s) := by
  have hN : Nr s = min (8 * s.length) 132 := rfl
  have hi := rdI s (Nr s) (by omega)
  refine ⟨?_, hi.low⟩
  show V (rdN s (Nr s)) = _
  rw [hi.v]
  apply Nat.mod_eq_of_lt
  rcases Nat.le_total (8 * s.length) 132 with q | q
  · rw [hN, Nat.min_eq_left q, Nat.pow_mul]
    exact numS_lt s
  · rw [hN, Nat.min_eq_right q]
    exact h
theorem adN_at (a p : Ds) (ha : Low a) (hp : Low p) (hl : a.length = 11) : ∀ i, i ≤ 11 → ∀ j, ((adN a p i).getD j 0).toNat = (a.getD j 0).toNat + if j < i then (p.getD j 0).toNat else 0
  | 0, _, j => by rw [if_neg (by omega)]; rfl
  | i + 1, hi, j => by
    have ih := adN_at a p ha hp hl i (by omega)
    have hlen := (adN_len a p i).trans hl
    have h1 := ha i
    have h2 := hp i
    rw [adN]
    by_cases e : i = j
    · subst e
      have hz := ih i
      rw [if_neg (by omega)] at hz
      rw [if_pos (by omega)]
      have e1 : ((adN a p i).set i ((adN a p i).getD i 0 + p.getD i 0)).getD i 0 = (adN a p i).getD i 0 + p.getD i 0 := by
        rw [List.getD_eq_getElem?_getD, List.getElem?_set_self (by omega)]; rfl
      rw [e1, add_nat (by omega), hz]
      omega
    · have e1 : ((adN a p i).set i ((adN a p i).getD i 0 + p.getD i 0)).getD j 0 = (adN a p i).getD j 0 := by
        rw [List.getD_eq_getElem?_getD, List.getElem?_set_ne e, ← List.getD_eq_getElem?_getD]
      rw [e1, ih j]
      by_cases q : j < i
      · rw [if_pos q, if_pos (by omega)]
      · rw [if_neg q, if_neg (by omega)]
theorem Vn_add {a p x : Ds} (h : ∀ j, j < 11 → (x.getD j 0).toNat = (a.getD j 0).toNat + (p.getD j 0).toNat) : ∀ n, n ≤ 11 → Vn x n = Vn a n + Vn p n
  | 0, _ => rfl
  | n + 1, hn => by rw [Vn, Vn, Vn, Vn_add h n (by omega), h n (by omega), Nat.add_mul]; omega
theorem adN_V (a p : Ds) (ha : Low a) (hp : Low p) (hl : a.length = 11) (hpl : p.length = 11) : V (adN a p 11) = V a + V p := by
  rw [V_eq, V_eq, V_eq, adN_len, hl, hpl]
  exact Vn_add (fun j hj => by rw [adN_at a p ha hp hl 11 (by omega) j, if_pos hj]) 11 (by omega)
theorem adN_small (a p : Ds) (ha : Low a) (hp : Low p) (hl : a.length = 11) : ∀ i, ((adN a p 11).getD i 0).toNat < 2 ^ 60 := fun i => by
  have h1 := ha i
  have h2 := hp i
  rw [adN_at a p ha hp hl 11 (by omega) i]
  split <;> omega
/-- The number of a text's pieces, taken in one by one. -/
def polyN (r : Nat) (s : Tx) : Nat → Nat
  | 0 => 0
  | m + 1 => (polyN r s m + numS (chk s m ++ [1])) * r % PP
theorem Z11_near : Near 4095 Z11 := ⟨rfl, by decide, fun i h1 h2 => by
  have : (Z11.getD i 0).toNat = 0 := rd0 [] i
  omega, by decide⟩
theorem chk1_lt (s : Tx) (m : Nat) : numS (chk s m ++ [1]) < 2 ^ 132 := by
  have h1 := numS_lt (chk s m)
  have h2 := chk_len s m
  have h3 : 256 ^ (chk s m).length ≤ 256 ^ 16 := Nat.pow_le_pow_right (by decide) h2
  rw [numS_app]
  have e : numS [1] = 1 := rfl
  rw [e]
  have e2 : (256 : Nat) ^ 16 = 340282366920938463463374607431768211456 := by decide
  rw [e2] at h3
  have e3 : (2 : Nat) ^ 132 = 5444517870735015415413993718908291383296 := by decide
  rw [e3]
  omega
theorem agN_ok (r : Ds) (hr : Low r) (hrl : r.length = 11) (s : Tx) : ∀ m, Near 4095 (agN r s m) ∧ V (agN r s m) % PP = polyN (V r) s m % PP
  | 0 => ⟨Z11_near, rfl⟩
  | m + 1 => by
    obtain ⟨h1, h2⟩ := agN_ok r hr hrl s m
    obtain ⟨p1, p2⟩ := rdD_ok (chk s m ++ [1]) (chk1_lt s m)
    have a1 := adN_V (agN r s m) _ h1.low p2 h1.len (rdD_len _)
    have a2 := adN_small (agN r s m) _ h1.low p2 h1.len
    obtain ⟨c1, c2⟩ := carryD_ok _ ((adN_len (agN r s m) (rdD (chk s m ++ [1])) 11).trans h1.len) a2
    obtain ⟨t1, t2⟩ := timesD_ok c1.low hr c1.len hrl
    refine ⟨t1, ?_⟩
    show V (timesD (carryD (adN (agN r s m) (rdD (chk s m ++ [1])) 11)) r) % PP = _
    rw [t2, Nat.mul_mod, c2, a1, p1, polyN, Nat.mod_mod, Nat.add_mod, h2, ← Nat.add_mod, ← Nat.mul_mod]
theorem belD_bel {a : Ds} (h : Near 4095 a) : belD a = bel a := by
  have h3 := (bel_ok h).2.2
  have e : (BitVec.ofInt 64 0).ult (ps (b5 a) 11).2 = false := by
    show decide (0 < (ps (b5 a) 11).2.toNat) = false
    have : (ps (b5 a) 11).2.toNat = 0 := h3
    rw [this]
    rfl
  unfold belD
  rw [e]
  show (bif (BitVec.ofInt 64 1023).ult ((ps (b5 a) 11).1.getD 10 0) then _ else _) = _
  unfold bel
  by_cases q : 1023 < ((ps (a.set 0 (a.getD 0 0 + 5)) 11).1.getD 10 0).toNat
  · rw [if_pos q]
    have : (BitVec.ofInt 64 1023).ult ((ps (b5 a) 11).1.getD 10 0) = true := decide_eq_true q
    rw [this]
    rfl
  · rw [if_neg q]
    have : (BitVec.ofInt 64 1023).ult ((ps (b5 a) 11).1.getD 10 0) = false := decide_eq_false q
    rw [this]
    rfl
theorem clamp_lt (key : Tx) : numS (clamp key) < 2 ^ 132 := by
  have h1 := numS_lt (clamp key)
  have h2 : (clamp key).length ≤ 16 := by
    unfold clamp
    rw [clN_len, List.length_take]
    omega
  have h3 : 256 ^ (clamp key).length ≤ 256 ^ 16 := Nat.pow_le_pow_right (by decide) h2
  have e2 : (256 : Nat) ^ 16 < 2 ^ 132 := by decide
  omega
/-- The tag, as the document's words say it. -/
def tagN (key s : Tx) : Tx := leN (polyN (numS (clamp key)) s (Nc s) % PP + numS (key.drop 16)) 16
theorem tagD_ok (key s : Tx) : tagD key s = tagN key s := by
  obtain ⟨r1, r2⟩ := rdD_ok (clamp key) (clamp_lt key)
  obtain ⟨g1, g2⟩ := agN_ok (rdD (clamp key)) r2 (rdD_len _) s (Nc s)
  obtain ⟨c1, c2⟩ := carryD_ok _ g1.len (g1.all (by decide))
  obtain ⟨b1, b2, _⟩ := bel_ok c1
  unfold tagD tagN
  rw [belD_bel c1, lowD_ok b1.low, b2, c2, g2, r1]
end Go.Proofs.YtgjhkfafmmkimaaDoor
namespace Go.Proofs.YtgjhkfafmmkimaaDoor
open Go.RowKit
set_option linter.unusedVariables false
set_option linter.unusedSimpArgs false
set_option maxRecDepth 100000

/-- The tag where the key has the right length. -/
def cTag1 (T : Tx → Tx → Tx) : List SV → List Cont → Option (Bool × SV)
  | [.s key, .s s], _ => some (Nat.beq key.length 32 && Nat.ble s.length 1099511627776, .tup [.s (T key s), .i 0])
  | _, _ => none
theorem tag1_ok : POk Tryd.prog G 14 (cTag1 tagD) := by
  intro args acs r h
  refine tag_ok args acs r ?_
  unfold cTag1 at h
  split at h
  · rename_i key s
    simp only [Option.some.injEq, Prod.mk.injEq, Bool.and_eq_true] at h
    obtain ⟨⟨h1, h2⟩, rfl⟩ := h
    show some (Nat.ble s.length 1099511627776, bif Nat.beq key.length 32 then SV.tup [.s (tagD key s), .i 0] else .tup [.s [], .i 2]) = _
    rw [h1, h2]
    rfl
  · cases h
def EB (B : Tx → Tx → BitVec 32 → Tx) (T : Tx → Tx → Tx) : Env := ⟨G, (noT.add 12 (cBlk B)).add 14 (cTag1 T), noC⟩
theorem eb_ok : EnvOk Tryd.prog (EB blockR tagD) := ⟨PT.add_ok (PT.add_ok (noT_ok _ _) rblk_ok) tag1_ok, noC_ok _ _⟩
def itu (key nonce k : Tx) (n c i : Nat) : List (Nat × SV) := [(0, .s key), (1, .s nonce), (6, .s []), (7, .sl 1 0 n c), (8, .s k), (9, .i (i : Int))]
def otu (n c : Nat) : List (Nat × SV) := [(7, .sl 1 0 n c)]
def Ltu (key nonce : Tx) (n : Nat) (x x2 : Nat → Tx) : LT := noL.add 0 (fun fr M K => slotK fr 7 fun v => capK v fun c => vLoop G 42 (itu key nonce [] n c 0) (Mk (x c)) (otu n c) (Mk (x2 c)) fr M K)
theorem vaU (B : Tx → Tx → BitVec 32 → Tx) (T : Tx → Tx → Tx) (key nonce s : Tx) (x x2 : Nat → Tx) (K : SV → Mm → Prop) : (vf Tryd.prog (EB B T) (Ltu key nonce s.length x x2) 33 [.s key, .s nonce, .s s] G K) = (∀ (cap : Nat) (x_1 : List (BitVec (8 : Nat))), List.length s ≤ cap → x_1 = s ++ List.replicate (cap - List.length s) (0 : BitVec (8 : Nat)) → loopOf Tryd.prog (33 : Nat) (0 : Nat) = loopOf Tryd.prog (33 : Nat) (0 : Nat) ∧ SV.s key = SV.s key ∧ SV.s nonce = SV.s nonce ∧ SV.s (bts { data := #[] }) = SV.s [] ∧ SV.sl (1 : Nat) (0 : Nat) (List.length s) cap = SV.sl (1 : Nat) (0 : Nat) (List.length s) cap ∧ SV.s (bts { data := #[] }) = SV.s [] ∧ SV.i (0 : Int) = SV.i (↑(0 : Nat) : Int) ∧ (false = false ∧ Cont.ints MX = Cont.ints MX) ∧ (true = true ∧ Cont.a8 x_1 = Cont.a8 (x cap)) ∧ bif decide ((0 : Nat) + List.length s ≤ List.length (x2 cap)) then K (SV.s (List.take (List.length s) (List.drop (0 : Nat) (x2 cap)))) (Mk (x2 cap)) else False) := by kernel_rfl
theorem vrU (B : Tx → Tx → BitVec 32 → Tx) (T : Tx → Tx → Tx) (key nonce k k1 x x1 x2 : Tx) (n c i : Nat) (p : Prop) : (frK 42 (itu key nonce k n c i) fun fr => vround Tryd.prog (EB B T) noL 33 0 fr (Mk x) (Kn G 0 42 p (itu key nonce k1 n c (i + 1)) (Mk x1) (otu n c) (Mk x2))) = (bif ilt (↑i : Int) (↑n : Int) then bif (↑i : Int).tmod (64 : Int) == (0 : Int) then bif inI (↑i : Int) then bif inI ((1 : Int) + (↑i : Int).tdiv (64 : Int)) then bif (List.length key).beq (32 : Nat) && (List.length nonce).beq (12 : Nat) then bif inR (↑i : Int) n then bif i.blt (List.length x) then bif inR ((↑i : Int).tmod (64 : Int)) (List.length (B key nonce (BitVec.ofInt (32 : Nat) ((1 : Int) + (↑i : Int).tdiv (64 : Int))))) then bif inR (↑i : Int) n then bif i.blt (List.length x) then bif inI ((↑i : Int) + (1 : Int)) then p ∧ SV.s key = SV.s key ∧ SV.s nonce = SV.s nonce ∧ SV.s [] = SV.s [] ∧ SV.sl (1 : Nat) (0 : Nat) n c = SV.sl (1 : Nat) (0 : Nat) n c ∧ SV.s (B key nonce (BitVec.ofInt (32 : Nat) ((1 : Int) + (↑i : Int).tdiv (64 : Int)))) = SV.s k1 ∧ SV.i ((↑i : Int) + (1 : Int)) = SV.i (↑(i + (1 : Nat)) : Int) ∧ (false = false ∧ Cont.ints MX = Cont.ints MX) ∧ (true = true ∧ Cont.a8 (List.set x i (List.getD x i (0 : BitVec (8 : Nat)) ^^^ List.getD (B key nonce (BitVec.ofInt (32 : Nat) ((1 : Int) + (↑i : Int).tdiv (64 : Int)))) ((↑i : Int).tmod (64 : Int)).toNat (0 : BitVec (8 : Nat)))) = Cont.a8 x1) ∧ True else False else False else False else False else False else False else False else False else False else bif inR (↑i : Int) n then bif i.blt (List.length x) then bif inR ((↑i : Int).tmod (64 : Int)) (List.length k) then bif inR (↑i : Int) n then bif i.blt (List.length x) then bif inI ((↑i : Int) + (1 : Int)) then p ∧ SV.s key = SV.s key ∧ SV.s nonce = SV.s nonce ∧ SV.s [] = SV.s [] ∧ SV.sl (1 : Nat) (0 : Nat) n c = SV.sl (1 : Nat) (0 : Nat) n c ∧ SV.s k = SV.s k1 ∧ SV.i ((↑i : Int) + (1 : Int)) = SV.i (↑(i + (1 : Nat)) : Int) ∧ (false = false ∧ Cont.ints MX = Cont.ints MX) ∧ (true = true ∧ Cont.a8 (List.set x i (List.getD x i (0 : BitVec (8 : Nat)) ^^^ List.getD k ((↑i : Int).tmod (64 : Int)).toNat (0 : BitVec (8 : Nat)))) = Cont.a8 x1) ∧ True else False else False else False else False else False else False else (0 : Nat) = (0 : Nat) ∧ SV.sl (1 : Nat) (0 : Nat) n c = SV.sl (1 : Nat) (0 : Nat) n c ∧ (false = false ∧ Cont.ints MX = Cont.ints MX) ∧ (true = true ∧ Cont.a8 x = Cont.a8 x2) ∧ True) := by kernel_rfl
def itg (key nonce ad c : Tx) (i : Nat) : List (Nat × SV) := [(0, .s key), (1, .s nonce), (2, .s ad), (3, .s c), (8, .s []), (9, .sl 1 0 16 16), (10, .i (i : Int))]
def otg (key nonce ad c : Tx) : List (Nat × SV) := [(0, .s key), (1, .s nonce), (2, .s ad), (3, .s c), (8, .s []), (9, .sl 1 0 16 16)]
def Lta (key nonce ad c : Tx) (o2 : Tx) : LT := noL.add 0 (vLoop G 72 (itg key nonce ad c 0) (Mk (List.replicate 16 0)) (otg key nonce ad c) (Mk o2))
theorem vaW (B : Tx → Tx → BitVec 32 → Tx) (T : Tx → Tx → Tx) (key nonce ad c o2 : Tx) (K : SV → Mm → Prop) : (vf Tryd.prog (EB B T) (Lta key nonce ad c o2) 34 [.s key, .s nonce, .s ad, .s c] G K) = (loopOf Tryd.prog (34 : Nat) (0 : Nat) = loopOf Tryd.prog (34 : Nat) (0 : Nat) ∧ SV.s key = SV.s key ∧ SV.s nonce = SV.s nonce ∧ SV.s ad = SV.s ad ∧ SV.s c = SV.s c ∧ SV.s (bts { data := #[] }) = SV.s [] ∧ SV.sl (1 : Nat) (0 : Nat) (16 : Nat) (16 : Nat) = SV.sl (1 : Nat) (0 : Nat) (16 : Nat) (16 : Nat) ∧ SV.i (0 : Int) = SV.i (↑(0 : Nat) : Int) ∧ (false = false ∧ Cont.ints MX = Cont.ints MX) ∧ (true = true ∧ Cont.a8 (List.replicate (16 : Nat) (0 : BitVec (8 : Nat))) = Cont.a8 (List.replicate (16 : Nat) (0 : BitVec (8 : Nat)))) ∧ bif (List.length key).beq (32 : Nat) && (List.length nonce).beq (12 : Nat) then bif ile (32 : Int) (↑(List.length (B key nonce (BitVec.ofInt (32 : Nat) (0 : Int)))) : Int) then bif inI ((16 : Int) - (↑(List.length ad) : Int).tmod (16 : Int)) then bif ile (0 : Int) (((16 : Int) - (↑(List.length ad) : Int).tmod (16 : Int)).tmod (16 : Int)) && ile (((16 : Int) - (↑(List.length ad) : Int).tmod (16 : Int)).tmod (16 : Int)) (((16 : Int) - (↑(List.length ad) : Int).tmod (16 : Int)).tmod (16 : Int)) && ile (((16 : Int) - (↑(List.length ad) : Int).tmod (16 : Int)).tmod (16 : Int)) (140737488355328 : Int) then bif decide ((0 : Nat) + (((16 : Int) - (↑(List.length ad) : Int).tmod (16 : Int)).tmod (16 : Int)).toNat ≤ (List.replicate (((16 : Int) - (↑(List.length ad) : Int).tmod (16 : Int)).tmod (16 : Int)).toNat (0 : BitVec (8 : Nat))).length) then bif ile (↑(List.length ad + (List.take (((16 : Int) - (↑(List.length ad) : Int).tmod (16 : Int)).tmod (16 : Int)).toNat (List.drop (0 : Nat) (List.replicate (((16 : Int) - (↑(List.length ad) : Int).tmod (16 : Int)).tmod (16 : Int)).toNat (0 : BitVec (8 : Nat))))).length) : Int) (9223372036854775807 : Int) then bif ile (↑((ad ++ List.take (((16 : Int) - (↑(List.length ad) : Int).tmod (16 : Int)).tmod (16 : Int)).toNat (List.drop (0 : Nat) (List.replicate (((16 : Int) - (↑(List.length ad) : Int).tmod (16 : Int)).tmod (16 : Int)).toNat (0 : BitVec (8 : Nat))))).length + List.length c) : Int) (9223372036854775807 : Int) then bif inI ((16 : Int) - (↑(List.length c) : Int).tmod (16 : Int)) then bif ile (0 : Int) (((16 : Int) - (↑(List.length c) : Int).tmod (16 : Int)).tmod (16 : Int)) && ile (((16 : Int) - (↑(List.length c) : Int).tmod (16 : Int)).tmod (16 : Int)) (((16 : Int) - (↑(List.length c) : Int).tmod (16 : Int)).tmod (16 : Int)) && ile (((16 : Int) - (↑(List.length c) : Int).tmod (16 : Int)).tmod (16 : Int)) (140737488355328 : Int) then bif decide ((0 : Nat) + (((16 : Int) - (↑(List.length c) : Int).tmod (16 : Int)).tmod (16 : Int)).toNat ≤ (List.replicate (((16 : Int) - (↑(List.length c) : Int).tmod (16 : Int)).tmod (16 : Int)).toNat (0 : BitVec (8 : Nat))).length) then bif ile (↑((ad ++ List.take (((16 : Int) - (↑(List.length ad) : Int).tmod (16 : Int)).tmod (16 : Int)).toNat (List.drop (0 : Nat) (List.replicate (((16 : Int) - (↑(List.length ad) : Int).tmod (16 : Int)).tmod (16 : Int)).toNat (0 : BitVec (8 : Nat)))) ++ c).length + (List.take (((16 : Int) - (↑(List.length c) : Int).tmod (16 : Int)).tmod (16 : Int)).toNat (List.drop (0 : Nat) (List.replicate (((16 : Int) - (↑(List.length c) : Int).tmod (16 : Int)).tmod (16 : Int)).toNat (0 : BitVec (8 : Nat))))).length) : Int) (9223372036854775807 : Int) then bif decide ((16 : Nat) ≤ List.length o2) then bif ile (↑((ad ++ List.take (((16 : Int) - (↑(List.length ad) : Int).tmod (16 : Int)).tmod (16 : Int)).toNat (List.drop (0 : Nat) (List.replicate (((16 : Int) - (↑(List.length ad) : Int).tmod (16 : Int)).tmod (16 : Int)).toNat (0 : BitVec (8 : Nat)))) ++ c ++ List.take (((16 : Int) - (↑(List.length c) : Int).tmod (16 : Int)).tmod (16 : Int)).toNat (List.drop (0 : Nat) (List.replicate (((16 : Int) - (↑(List.length c) : Int).tmod (16 : Int)).tmod (16 : Int)).toNat (0 : BitVec (8 : Nat))))).length + (List.take (16 : Nat) (List.drop (0 : Nat) o2)).length) : Int) (9223372036854775807 : Int) then bif (List.drop (0 : Nat) (List.take (32 : Nat) (B key nonce (BitVec.ofInt (32 : Nat) (0 : Int))))).length.beq (32 : Nat) && (ad ++ List.take (((16 : Int) - (↑(List.length ad) : Int).tmod (16 : Int)).tmod (16 : Int)).toNat (List.drop (0 : Nat) (List.replicate (((16 : Int) - (↑(List.length ad) : Int).tmod (16 : Int)).tmod (16 : Int)).toNat (0 : BitVec (8 : Nat)))) ++ c ++ List.take (((16 : Int) - (↑(List.length c) : Int).tmod (16 : Int)).tmod (16 : Int)).toNat (List.drop (0 : Nat) (List.replicate (((16 : Int) - (↑(List.length c) : Int).tmod (16 : Int)).tmod (16 : Int)).toNat (0 : BitVec (8 : Nat)))) ++ List.take (16 : Nat) (List.drop (0 : Nat) o2)).length.ble (1099511627776 : Nat) then K (SV.s (T (List.drop (0 : Nat) (List.take (32 : Nat) (B key nonce (BitVec.ofInt (32 : Nat) (0 : Int))))) (ad ++ List.take (((16 : Int) - (↑(List.length ad) : Int).tmod (16 : Int)).tmod (16 : Int)).toNat (List.drop (0 : Nat) (List.replicate (((16 : Int) - (↑(List.length ad) : Int).tmod (16 : Int)).tmod (16 : Int)).toNat (0 : BitVec (8 : Nat)))) ++ c ++ List.take (((16 : Int) - (↑(List.length c) : Int).tmod (16 : Int)).tmod (16 : Int)).toNat (List.drop (0 : Nat) (List.replicate (((16 : Int) - (↑(List.length c) : Int).tmod (16 : Int)).tmod (16 : Int)).toNat (0 : BitVec (8 : Nat)))) ++ List.take (16 : Nat) (List.drop (0 : Nat) o2)))) [{ rw := false, c := Cont.ints MX }, { rw := true, c := Cont.a8 o2 }, { rw := true, c := Cont.gone }, { rw := true, c := Cont.gone }, { rw := true, c := Cont.gone }, { rw := true, c := Cont.gone }, { rw := true, c := Cont.gone }, { rw := true, c := Cont.gone }, { rw := true, c := Cont.gone }, { rw := true, c := Cont.gone }, { rw := true, c := Cont.gone }, { rw := true, c := Cont.gone }, { rw := true, c := Cont.a8 (List.replicate (((16 : Int) - (↑(List.length ad) : Int).tmod (16 : Int)).tmod (16 : Int)).toNat (0 : BitVec (8 : Nat))) }, { rw := true, c := Cont.gone }, { rw := true, c := Cont.gone }, { rw := true, c := Cont.gone }, { rw := true, c := Cont.gone }, { rw := true, c := Cont.gone }, { rw := true, c := Cont.gone }, { rw := true, c := Cont.gone }, { rw := true, c := Cont.gone }, { rw := true, c := Cont.gone }, { rw := true, c := Cont.a8 (List.replicate (((16 : Int) - (↑(List.length c) : Int).tmod (16 : Int)).tmod (16 : Int)).toNat (0 : BitVec (8 : Nat))) }, { rw := true, c := Cont.gone }, { rw := true, c := Cont.gone }, { rw := true, c := Cont.gone }, { rw := true, c := Cont.gone }, { rw := true, c := Cont.gone }, { rw := true, c := Cont.gone }, { rw := true, c := Cont.gone }, { rw := true, c := Cont.gone }, { rw := true, c := Cont.gone }, { rw := true, c := Cont.gone }, { rw := true, c := Cont.gone }] else False else False else False else False else False else False else False else False else False else False else False else False else False else False) := by kernel_rfl
theorem vrW (B : Tx → Tx → BitVec 32 → Tx) (T : Tx → Tx → Tx) (key nonce ad c o o1 o2 : Tx) (i : Nat) (p : Prop) : (frK 72 (itg key nonce ad c i) fun fr => vround Tryd.prog (EB B T) noL 34 0 fr (Mk o) (Kn G 0 72 p (itg key nonce ad c (i + 1)) (Mk o1) (otg key nonce ad c) (Mk o2))) = (bif ilt (↑i : Int) (8 : Int) then bif inI ((8 : Int) * (↑i : Int)) then bif inR (↑i : Int) (16 : Nat) then bif i.blt (List.length o) then bif inI ((8 : Int) + (↑i : Int)) then bif inI ((8 : Int) * (↑i : Int)) then bif inR ((8 : Int) + (↑i : Int)) (16 : Nat) then bif ((8 : Int) + (↑i : Int)).toNat.blt (List.set o i (BitVec.setWidth (8 : Nat) (BitVec.ofInt (64 : Nat) (↑(List.length ad) : Int) >>> (BitVec.ofInt (64 : Nat) ((8 : Int) * (↑i : Int))).toNat))).length then bif inI ((↑i : Int) + (1 : Int)) then p ∧ SV.s key = SV.s key ∧ SV.s nonce = SV.s nonce ∧ SV.s ad = SV.s ad ∧ SV.s c = SV.s c ∧ SV.s [] = SV.s [] ∧ SV.sl (1 : Nat) (0 : Nat) (16 : Nat) (16 : Nat) = SV.sl (1 : Nat) (0 : Nat) (16 : Nat) (16 : Nat) ∧ SV.i ((↑i : Int) + (1 : Int)) = SV.i (↑(i + (1 : Nat)) : Int) ∧ (false = false ∧ Cont.ints MX = Cont.ints MX) ∧ (true = true ∧ Cont.a8 ((List.set o i (BitVec.setWidth (8 : Nat) (BitVec.ofInt (64 : Nat) (↑(List.length ad) : Int) >>> (BitVec.ofInt (64 : Nat) ((8 : Int) * (↑i : Int))).toNat))).set ((8 : Int) + (↑i : Int)).toNat (BitVec.setWidth (8 : Nat) (BitVec.ofInt (64 : Nat) (↑(List.length c) : Int) >>> (BitVec.ofInt (64 : Nat) ((8 : Int) * (↑i : Int))).toNat))) = Cont.a8 o1) ∧ True else False else False else False else False else False else False else False else False else (0 : Nat) = (0 : Nat) ∧ SV.s key = SV.s key ∧ SV.s nonce = SV.s nonce ∧ SV.s ad = SV.s ad ∧ SV.s c = SV.s c ∧ SV.s [] = SV.s [] ∧ SV.sl (1 : Nat) (0 : Nat) (16 : Nat) (16 : Nat) = SV.sl (1 : Nat) (0 : Nat) (16 : Nat) (16 : Nat) ∧ (false = false ∧ Cont.ints MX = Cont.ints MX) ∧ (true = true ∧ Cont.a8 o = Cont.a8 o2) ∧ True) := by kernel_rfl
/-- A text turned, byte by byte. -/
def trN (B : Tx → Tx → BitVec 32 → Tx) (key nonce x : Tx) : Nat → Tx
  | 0 => x
  | i + 1 => (trN B key nonce x i).set i ((trN B key nonce x i).getD i 0 ^^^ (B key nonce (BitVec.ofInt 32 (1 + ((i / 64 : Nat) : Int)))).getD (i % 64) 0)
theorem trN_len (B : Tx → Tx → BitVec 32 → Tx) (key nonce x : Tx) : ∀ i, (trN B key nonce x i).length = x.length
  | 0 => rfl
  | i + 1 => by rw [trN, List.length_set, trN_len B key nonce x i]
def kkS (B : Tx → Tx → BitVec 32 → Tx) (key nonce : Tx) (i : Nat) : Tx := if i = 0 then [] else B key nonce (BitVec.ofInt 32 (1 + (((i - 1) / 64 : Nat) : Int)))
theorem kkS_succ (B : Tx → Tx → BitVec 32 → Tx) (key nonce : Tx) (i : Nat) : kkS B key nonce (i + 1) = B key nonce (BitVec.ofInt 32 (1 + ((i / 64 : Nat) : Int))) := by
  unfold kkS
  rw [if_neg (by omega), Nat.add_sub_cancel]
theorem kkS_same (B : Tx → Tx → BitVec 32 → Tx) (key nonce : Tx) (i : Nat) (h : i % 64 ≠ 0) : kkS B key nonce i = B key nonce (BitVec.ofInt 32 (1 + ((i / 64 : Nat) : Int))) := by
  unfold kkS
  rw [if_neg (by omega), show (i - 1) / 64 = i / 64 by omega]
theorem loopU (key nonce x : Tx) (n c : Nat) (h1 : key.length = 32) (h2 : nonce.length = 12) (hn : n ≤ x.length) (hm : n ≤ 1099511627776) : ∀ fr M K, vLoop G 42 (itu key nonce [] n c 0) (Mk x) (otu n c) (Mk (trN blockR key nonce x n)) fr M K → Wp Tryd.prog G G (loopOf Tryd.prog 33 0) fr M K := by
  refine loop_next eb_ok mixed (noL_ok _ _ _ _) (Nat.le_refl _) (by kernel_rfl) (fun i => itu key nonce (kkS blockR key nonce i) n c i) (fun i => Mk (trN blockR key nonce x i)) (fun i => i ≤ n) (fun i => n - i) (fun i => i + 1) 0 (Nat.zero_le _) (fun i hi => of_eq (vrU blockR tagD key nonce (kkS blockR key nonce i) (kkS blockR key nonce (i + 1)) (trN blockR key nonce x i) (trN blockR key nonce x (i + 1)) (trN blockR key nonce x n) n c i _) ?_)
  have hfin : i = n → trN blockR key nonce x i = trN blockR key nonce x n := fun e => by rw [e]
  rw [trN_len, kkS_succ, trN]
  have m64 : (i : Int).tmod 64 = ((i % 64 : Nat) : Int) := tmod_cast i 64
  have d64 : (i : Int).tdiv 64 = ((i / 64 : Nat) : Int) := tdiv_cast i 64
  rw [m64, d64, Int.toNat_natCast, blockR_len, h1, h2]
  cases hq : ilt (i : Int) (n : Int)
  · have hj2 : i = n := nlt hq hi
    exact ⟨rfl, rfl, ⟨rfl, rfl⟩, ⟨rfl, congrArg Cont.a8 (hfin hj2)⟩, trivial⟩
  · have hj2 : i < n := ylt hq
    have i1 : inI ((i : Int) + 1) = true := inI_iff.2 (by omega)
    have i2 : Nat.blt i x.length = true := blt_of (by omega)
    have i3 : inR (i : Int) n = true := inR_nat hj2
    have i4 : inR ((i % 64 : Nat) : Int) 64 = true := inR_nat (by omega)
    by_cases h0 : i % 64 = 0
    · have e0 : (((i % 64 : Nat) : Int) == 0) = true := by rw [h0]; rfl
      rw [e0]
      exact bif_of (inI_iff.2 (by omega)) (bif_of (inI_iff.2 (by omega)) (bif_of rfl (bif_of i3 (bif_of i2 (bif_of i4 (bif_of i3 (bif_of i2 (bif_of i1 ⟨⟨by omega, by omega⟩, rfl, rfl, rfl, rfl, rfl, rfl, ⟨rfl, rfl⟩, ⟨rfl, rfl⟩, trivial⟩))))))))
    · have e0 : (((i % 64 : Nat) : Int) == 0) = false := beq_eq_false_iff_ne.2 (by omega)
      rw [e0, kkS_same blockR key nonce i h0, blockR_len]
      exact bif_of i3 (bif_of i2 (bif_of i4 (bif_of i3 (bif_of i2 (bif_of i1 ⟨⟨by omega, by omega⟩, rfl, rfl, rfl, rfl, rfl, rfl, ⟨rfl, rfl⟩, ⟨rfl, rfl⟩, trivial⟩)))))
theorem trN_app (B : Tx → Tx → BitVec 32 → Tx) (key nonce t z : Tx) : ∀ j, j ≤ t.length → trN B key nonce (t ++ z) j = trN B key nonce t j ++ z
  | 0, _ => rfl
  | j + 1, h => by
    have hl := trN_len B key nonce t j
    rw [trN, trN, trN_app B key nonce t z j (by omega), List.set_append_left _ _ (by omega)]
    congr 3
    rw [List.getD_eq_getElem?_getD, List.getD_eq_getElem?_getD, List.getElem?_append_left (by omega)]
def turnD (B : Tx → Tx → BitVec 32 → Tx) (key nonce s : Tx) : Tx := trN B key nonce s s.length
theorem turnD_len (B : Tx → Tx → BitVec 32 → Tx) (key nonce s : Tx) : (turnD B key nonce s).length = s.length := trN_len ..
def cTur (U : Tx → Tx → Tx → Tx) : List SV → List Cont → Option (Bool × SV)
  | [.s key, .s nonce, .s s], _ => some ((Nat.beq key.length 32 && Nat.beq nonce.length 12) && Nat.ble s.length 1099511627776, .s (U key nonce s))
  | _, _ => none
def xC (s : Tx) (c : Nat) : Tx := s ++ List.replicate (c - s.length) 0
def x2C (B : Tx → Tx → BitVec 32 → Tx) (key nonce s : Tx) (c : Nat) : Tx := trN B key nonce (xC s c) s.length
theorem turned_ok : POk Tryd.prog G 33 (cTur (turnD blockR)) := by
  intro args acs r h β M w hR hw ha
  unfold cTur at h
  split at h
  · rename_i key nonce s
    simp only [Option.some.injEq, Prod.mk.injEq, Bool.and_eq_true] at h
    obtain ⟨⟨⟨h1, h2⟩, h3⟩, rfl⟩ := h
    have h1 := Nat.eq_of_beq_eq_true h1
    have h2 := Nat.eq_of_beq_eq_true h2
    have h3 := Nat.le_of_ble_eq_true h3
    have hL : LOk Tryd.prog G G 33 (Ltu key nonce s.length (xC s) (x2C blockR key nonce s)) := by
      refine LT.add_ok (noL_ok _ _ _ _) ?_
      intro fr M K h
      obtain ⟨v, h⟩ := slotK_ok _ _ h
      obtain ⟨c, h⟩ := capK_ok h
      exact loopU key nonce (xC s c) s.length c h1 h2 (by unfold xC; rw [List.length_append]; omega) h3 fr M K h
    refine pure0 (vf_ok eb_ok mixed hL (of_eq (vaU blockR tagD key nonce s (xC s) (x2C blockR key nonce s) _) (fun cap x hcap hx => ?_))) rfl rfl hR
    have hx2 : x = xC s cap := hx
    have hkc : x2C blockR key nonce s cap = turnD blockR key nonce s ++ List.replicate (cap - s.length) 0 := trN_app blockR key nonce s _ s.length (Nat.le_refl _)
    have ht := turnD_len blockR key nonce s
    have htk : List.take s.length (List.drop 0 (turnD blockR key nonce s ++ List.replicate (cap - s.length) 0)) = turnD blockR key nonce s := by
      rw [List.drop_zero, List.take_append_of_le_length (by omega), List.take_of_length_le (by omega)]
    have hlen : 0 + s.length ≤ (turnD blockR key nonce s ++ List.replicate (cap - s.length) (0 : BitVec 8)).length := by rw [List.length_append]; omega
    subst hx2
    rw [hkc, htk]
    clear hkc htk ht
    generalize turnD blockR key nonce s = q at hlen
    exact ⟨rfl, rfl, rfl, rfl, rfl, rfl, rfl, ⟨rfl, rfl⟩, ⟨rfl, rfl⟩, bif_of (decide_eq_true hlen) rfl⟩
  · cases h
end Go.Proofs.YtgjhkfafmmkimaaDoor
