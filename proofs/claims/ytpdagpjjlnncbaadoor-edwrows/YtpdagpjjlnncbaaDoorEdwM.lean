/-
  What the calls of package edw, and of the document's points, answer. No statement is proved here.
-/
import Derived.Test.YtpdagpjjlnncbaaDoorEdwL
namespace Go.Proofs.YtpdagpjjlnncbaaDoor
open Go.RowKit Go.Lib Go.BigFrame
set_option linter.unusedVariables false
set_option linter.unusedSimpArgs false
set_option maxRecDepth 1000000
set_option maxHeartbeats 1000000

/-- What a world has where the numbers are reckoned with. -/
structure Env (Z : World → Prop) : Prop where
  keeps : Keeps Z
  pv : ∀ W, Z W → PV W
/-- A point by value. -/
def pq (q : Pq) : Value := pv q.x q.y q.z q.t
def pr (q : Pr) : Value := rp q.x q.y q.z
section
variable {Z : World → Prop}
theorem c_small (n : Nat) (hn : n < 4294967296) : Ret Z 59 #[.int .u32 (n : Nat)] (wd n) := fun W _ => small_any n hn W
theorem c_0 : Ret Z 59 #[.int .u32 0] (wd 0) := c_small 0 (by decide)
theorem c_1 : Ret Z 59 #[.int .u32 1] (wd 1) := c_small 1 (by decide)
theorem c_add (E : Env Z) {a b : Nat} (ha : a < Nt.P) (hb : b < Nt.P) : Ret Z 66 #[wd a, wd b] (wd (ad a b)) := fun W h => add_any a b ha hb W (E.pv W h)
theorem c_sub (E : Env Z) {a b : Nat} (ha : a < Nt.P) (hb : b < Nt.P) : Ret Z 65 #[wd a, wd b] (wd (sb a b)) := fun W h => sub_any a b ha hb W (E.pv W h)
theorem c_mul (E : Env Z) {a b : Nat} (ha : a < Nt.P) (hb : b < Nt.P) : Ret Z 44 #[wd a, wd b] (wd (mq a b)) := fun W h => mul_any a b (lt4 ha) (lt4 hb) W (E.pv W h)
theorem c_inv (E : Env Z) {a : Nat} (ha : a < Nt.P) : Ret Z 43 #[wd a] (wd (iv a)) := fun W h => inv_any a ha W (E.pv W h)
theorem c_same {a b : Nat} (ha : a < Nt.P) (hb : b < Nt.P) {q : Bool} (hq : decide (a = b) = q) : Ret Z 47 #[wd a, wd b] (.bool q) := fun W h => by
  have := same_any a b (lt4 ha) (lt4 hb) W
  rw [hq] at this
  exact this
theorem c_odd {a : Nat} (ha : a < Nt.P) {q : Bool} (hq : decide (a % 2 = 1) = q) : Ret Z 46 #[wd a] (.bool q) := fun W h => by
  have := odd_any a (lt4 ha) W
  rw [hq] at this
  exact this
theorem c_text {a : Nat} (ha : a < Nt.P) : Ret Z 45 #[wd a] (.string (by32 a)) := fun W h => bytes_any a (lt4 ha) W
theorem c_known (E : Env Z) {s : ByteArray} (hs : s.size = 32) : Ret Z 31 #[.string s] (wd (of s)) := known_r E.keeps fun W h => of_yes s hs W (E.pv W h)
def dS : ByteArray := ⟨#[163, 120, 89, 19, 202, 77, 235, 117, 171, 216, 65, 65, 77, 10, 112, 0, 152, 232, 121, 119, 121, 64, 199, 140, 115, 254, 111, 43, 238, 108, 3, 82]⟩
theorem of_dS : of dS = dN := by decide +kernel
theorem c_d (E : Env Z) : Ret Z 31 #[.string ⟨#[163, 120, 89, 19, 202, 77, 235, 117, 171, 216, 65, 65, 77, 10, 112, 0, 152, 232, 121, 119, 121, 64, 199, 140, 115, 254, 111, 43, 238, 108, 3, 82]⟩] (wd dN) := by
  have := c_known E (s := dS) rfl
  rw [of_dS] at this
  exact this
theorem c_join (E : Env Z) {e f g h : Nat} (he : e < Nt.P) (hf : f < Nt.P) (hg : g < Nt.P) (hh : h < Nt.P) : Ret Z 80 #[wd e, wd f, wd g, wd h] (pq (jn e f g h)) :=
  join_r E.keeps (c_mul E he hf) (c_mul E hg hh) (c_mul E hf hg) (c_mul E he hh)
/-- Numbers below the prime. -/
structure Sm (q : Pq) : Prop where
  x : q.x < Nt.P
  y : q.y < Nt.P
  z : q.z < Nt.P
  t : q.t < Nt.P
theorem Is.sm {q : Pq} {p : Ed.Pt} (h : Is q p) : Sm q := ⟨h.lx, h.ly, h.lz, h.lt⟩
theorem rdy_sm (q : Pq) : Sm (rdy q) := ⟨ad_lt _ _, sb_lt _ _, ad_lt _ _, ml_lt _ _⟩
theorem c_ready (E : Env Z) {q : Pq} (h : Sm q) : Ret Z 51 #[pq q] (pq (rdy q)) :=
  ready_r E.keeps (c_add E h.y h.x) (c_sub E h.y h.x) (c_add E h.z h.z) (c_add E h.t h.t) (c_d E) (c_mul E (ad_lt _ _) dN_lt)
theorem c_plus (E : Env Z) {q r : Pq} (h : Sm q) (k : Sm r) : Ret Z 50 #[pq q, pq r] (pq (pls q r)) :=
  plus_r E.keeps (c_sub E h.y h.x) (c_mul E (sb_lt _ _) k.y) (c_add E h.y h.x) (c_mul E (ad_lt _ _) k.x) (c_mul E h.t k.t) (c_mul E h.z k.z) (c_sub E (ml_lt _ _) (ml_lt _ _)) (c_sub E (ml_lt _ _) (ml_lt _ _)) (c_add E (ml_lt _ _) (ml_lt _ _)) (c_add E (ml_lt _ _) (ml_lt _ _)) (c_join E (sb_lt _ _) (sb_lt _ _) (ad_lt _ _) (ad_lt _ _))
theorem c_double (E : Env Z) {q : Pq} (h : Sm q) : Ret Z 52 #[pq q] (pq (dbq q)) :=
  double_r E.keeps (c_mul E h.x h.x) (c_mul E h.y h.y) (c_mul E h.z h.z) (c_add E h.x h.y) (c_add E (ml_lt _ _) (ml_lt _ _)) (c_sub E (ml_lt _ _) (ml_lt _ _)) (c_mul E (ad_lt _ _) (ad_lt _ _)) (c_sub E (ad_lt _ _) (ml_lt _ _)) (c_add E (ml_lt _ _) (ml_lt _ _)) (c_add E (ad_lt _ _) (sb_lt _ _)) (c_join E (sb_lt _ _) (ad_lt _ _) (sb_lt _ _) (ad_lt _ _))
theorem c_at (E : Env Z) {x y : Nat} (hx : x < Nt.P) (hy : y < Nt.P) : Ret Z 33 #[wd x, wd y] (pq (atp x y)) := at_r E.keeps c_1 (c_mul E hx hy)
def zq : Pq := atp 0 1
def bq : Pq := atp Bp.x.val Bp.y.val
theorem c_zero (E : Env Z) : Ret Z 25 #[] (pq zq) := zero_r E.keeps c_0 c_1 (c_at E zero_lt one_lt)
theorem zq_is : Is zq Ed.zero := Is.at zero_lt one_lt Ed.fe_0 Ed.fe_1 Ed.zero_on
theorem bq_is : Is bq Bp := Is.at (Ed.val_lt _) (Ed.val_lt _) (Ed.fe_of _) (Ed.fe_of _) Bp_on
def bxS : ByteArray := ⟨#[26, 213, 37, 143, 96, 45, 86, 201, 178, 167, 37, 149, 96, 199, 44, 105, 92, 220, 214, 253, 49, 226, 164, 192, 254, 83, 110, 205, 211, 54, 105, 33]⟩
def byS : ByteArray := ⟨#[88, 102, 102, 102, 102, 102, 102, 102, 102, 102, 102, 102, 102, 102, 102, 102, 102, 102, 102, 102, 102, 102, 102, 102, 102, 102, 102, 102, 102, 102, 102, 102]⟩
theorem of_bxS : of bxS = Bp.x.val := by decide +kernel
theorem of_byS : of byS = Bp.y.val := by decide +kernel
theorem c_base (E : Env Z) : Ret Z 26 #[] (pq bq) := by
  have h1 := c_known E (s := bxS) rfl
  have h2 := c_known E (s := byS) rfl
  rw [of_bxS] at h1
  rw [of_byS] at h2
  exact base_r E.keeps h1 h2 (c_at E (Ed.val_lt _) (Ed.val_lt _))
theorem Is.z0 {q : Pq} {p : Ed.Pt} (h : Is q p) : decide (q.z = 0) = false := decide_eq_false fun e => h.z (by rw [e, Ed.fe_0])
theorem c_live (E : Env Z) {q : Pq} {p : Ed.Pt} (h : Is q p) : Ret Z 42 #[pq q] (.bool false) := none_r E.keeps c_0 (c_same h.lz zero_lt h.z0)
theorem c_none (E : Env Z) : Ret Z 42 #[pv 0 0 0 0] (.bool true) := none_r E.keeps c_0 (c_same zero_lt zero_lt (by decide))
theorem c_sum (E : Env Z) {q r : Pq} {p s : Ed.Pt} (h : Is q p) (k : Is r s) : Ret Z 18 #[pq q, pq r] (pq (pls q (rdy r))) :=
  add_r E.keeps (c_live E h) (c_live E k) (c_ready E k.sm) (c_plus E h.sm (rdy_sm r))
theorem c_twice (E : Env Z) {q : Pq} {p : Ed.Pt} (h : Is q p) : Ret Z 20 #[pq q] (pq (dbq q)) := twice_r E.keeps (c_live E h) (c_double E h.sm)
theorem c_eq (E : Env Z) {q r : Pq} {p s : Ed.Pt} (h : Is q p) (k : Is r s) (e : p = s) : Ret Z 14 #[pq q, pq r] (.bool true) := by
  have hs := same_iff h.z k.z h.x h.y k.x k.y
  refine same_t E.keeps (c_live E h) (c_live E k) (c_mul E h.lx k.lz) (c_mul E k.lx h.lz) (c_same (ml_lt _ _) (ml_lt _ _) ?_) (c_mul E h.ly k.lz) (c_mul E k.ly h.lz) (c_same (ml_lt _ _) (ml_lt _ _) ?_)
  · refine decide_eq_true ((fe_eq (ml_lt _ _) (ml_lt _ _)).2 ?_)
    rw [Ed.fe_mul, Ed.fe_mul]; exact hs.1.2 (by rw [e])
  · refine decide_eq_true ((fe_eq (ml_lt _ _) (ml_lt _ _)).2 ?_)
    rw [Ed.fe_mul, Ed.fe_mul]; exact hs.2.2 (by rw [e])
theorem c_ne (E : Env Z) {q r : Pq} {p s : Ed.Pt} (h : Is q p) (k : Is r s) (e : p ≠ s) : Ret Z 14 #[pq q, pq r] (.bool false) := by
  have hs := same_iff h.z k.z h.x h.y k.x k.y
  by_cases hx : p.x = s.x
  · have hy : p.y ≠ s.y := fun c => e (Ed.pt_eq hx c)
    refine same_t E.keeps (c_live E h) (c_live E k) (c_mul E h.lx k.lz) (c_mul E k.lx h.lz) (c_same (ml_lt _ _) (ml_lt _ _) ?_) (c_mul E h.ly k.lz) (c_mul E k.ly h.lz) (c_same (ml_lt _ _) (ml_lt _ _) ?_)
    · refine decide_eq_true ((fe_eq (ml_lt _ _) (ml_lt _ _)).2 ?_)
      rw [Ed.fe_mul, Ed.fe_mul]; exact hs.1.2 hx
    · refine decide_eq_false fun c => hy (hs.2.1 ?_)
      have := (fe_eq (ml_lt _ _) (ml_lt _ _)).1 c
      rw [Ed.fe_mul, Ed.fe_mul] at this
      exact this
  · refine same_f E.keeps (c_live E h) (c_live E k) (c_mul E h.lx k.lz) (c_mul E k.lx h.lz) (c_same (ml_lt _ _) (ml_lt _ _) ?_)
    refine decide_eq_false fun c => hx (hs.1.1 ?_)
    have := (fe_eq (ml_lt _ _) (ml_lt _ _)).1 c
    rw [Ed.fe_mul, Ed.fe_mul] at this
    exact this
theorem c_bytes (E : Env Z) {q : Pq} {p : Ed.Pt} (h : Is q p) : Ret Z 13 #[pq q] (.string (enc p)) := by
  have k1 := c_inv E h.lz
  have k2 := c_mul E h.ly (iv_ltP q.z)
  have k3 := c_mul E h.lx (iv_ltP q.z)
  rw [h.vy] at k2
  rw [h.vx] at k3
  unfold enc
  by_cases c : p.x.val % 2 = 1
  · rw [if_pos c]
    exact bytes_odd E.keeps (by32_size _) (c_live E h) k1 k2 (c_text (Ed.val_lt _)) k3 (c_odd (Ed.val_lt _) (decide_eq_true c))
  · rw [if_neg c]
    have := bytes_even E.keeps (by32_size _) (c_live E h) k1 k2 (c_text (Ed.val_lt _)) k3 (c_odd (Ed.val_lt _) (decide_eq_false c))
    rw [sbi_self (by32_size _)] at this
    exact this
theorem c_bytes0 (E : Env Z) : Ret Z 13 #[pv 0 0 0 0] (.string ⟨#[]⟩) := bytes_no E.keeps (c_none E)
theorem c_beside (E : Env Z) {y : Nat} (hy : y < Nt.P) (odd : Bool) : Ret Z 32 #[wd y, .bool odd] (.tuple #[wd (ro (x2 y) odd), .bool (ok (x2 y) odd)]) :=
  beside_r E.keeps c_1 (c_mul E hy hy) (c_sub E (ml_lt _ _) one_lt) (c_d E) (c_mul E (ml_lt _ _) dN_lt) (c_add E (ml_lt _ _) one_lt) (c_inv E (ad_lt _ _)) (c_mul E (sb_lt _ _) (iv_ltP _)) (fun W h => root_any (x2 y) odd (x2_lt y) W (E.pv W h))
theorem c_canon (E : Env Z) {s : ByteArray} (hs : s.size = 32) {q : Bool} (hq : decide (rd s 32 < Nt.P) = q) : Ret Z 30 #[.string s] (.bool q) := fun W h => by
  have := canon_yes s hs W (E.pv W h)
  rw [hq] at this
  exact this
theorem of_small {s : ByteArray} (h : rd s 32 < Nt.P) : of s = rd s 32 := Nat.mod_eq_of_lt h
theorem size_t {s : ByteArray} (hs : s.size = 32) : decide ((s.size : Int) = 32) = true := decide_eq_true (by omega)
theorem size_f {s : ByteArray} (hs : s.size ≠ 32) : decide ((s.size : Int) = 32) = false := decide_eq_false (by omega)
theorem rd_enc (p : Ed.Pt) : rd (lo (enc p)) 32 = p.y.val := by rw [lo_enc, rd_by32 _ (lt4 (Ed.val_lt _))]
theorem c_dec (E : Env Z) {p : Ed.Pt} (h : p.On) : Ret Z 9 #[.string (enc p)] (.tuple #[pq (atp p.x.val p.y.val), .int .i64 0]) := by
  obtain ⟨r1, r2⟩ := root_of (Ed.val_lt p.x) (on_val h)
  have hk := c_known E (lo_size (enc p))
  rw [of_small (by rw [rd_enc]; exact Ed.val_lt _), rd_enc] at hk
  have hb := c_beside E (Ed.val_lt p.y) (decide (p.x.val % 2 = 1))
  rw [r1, r2, ← top_enc, ← top_and] at hb
  exact decode_r E.keeps (enc_size p) (size_t (enc_size p)) (c_canon E (lo_size _) (decide_eq_true (by rw [rd_enc]; exact Ed.val_lt _))) hk hb (c_at E (Ed.val_lt _) (Ed.val_lt _))
/-- No point has these bytes: what both answer. -/
theorem no_point {s : ByteArray} (hs : s.size = 32) (hc : rd (lo s) 32 < Nt.P) (h : ¬ ∃ p : Ed.Pt, p.On ∧ enc p = s) : ok (x2 (rd (lo s) 32)) (top s) = false := by
  cases hk : ok (x2 (rd (lo s) 32)) (top s)
  · rfl
  · obtain ⟨h1, h2⟩ := ok_true hk
    refine absurd ⟨⟨Ed.fe (ro (x2 (rd (lo s) 32)) (top s)), Ed.fe (rd (lo s) 32)⟩, (on_x2 _ _).2 h1, enc_of hs ?_ ?_⟩ h
    · show (Ed.fe _).val = _
      rw [Ed.fe_val, Nat.mod_eq_of_lt hc]
    · show decide ((Ed.fe _).val % 2 = 1) = _
      rw [Ed.fe_val, Nat.mod_eq_of_lt (ro_ltP _ _)]; exact h2
theorem c_dec_no (E : Env Z) {s : ByteArray} (h : ¬ ∃ p : Ed.Pt, p.On ∧ enc p = s) : Ret Z 9 #[.string s] (.tuple #[pv 0 0 0 0, .int .i64 (if s.size = 32 then 90 else 2)]) := by
  by_cases hs : s.size = 32
  · rw [if_pos hs]
    by_cases hc : rd (lo s) 32 < Nt.P
    · have hk := c_known E (lo_size s)
      rw [of_small hc] at hk
      have hb := c_beside E hc (top s)
      rw [no_point hs hc h, ← top_and] at hb
      exact decode_nr E.keeps hs (size_t hs) (c_canon E (lo_size _) (decide_eq_true hc)) hk hb
    · exact decode_nc E.keeps hs (size_t hs) (c_canon E (lo_size _) (decide_eq_false hc))
  · rw [if_neg hs]
    exact decode_no E.keeps (size_f hs)
end
end Go.Proofs.YtpdagpjjlnncbaaDoor
namespace Go.Proofs.YtpdagpjjlnncbaaDoor
open Go.RowKit Go.Lib Go.BigFrame
set_option linter.unusedVariables false
set_option linter.unusedSimpArgs false
set_option maxRecDepth 1000000
set_option maxHeartbeats 1000000

section
variable {Z : World → Prop}
theorem d_small (n : Nat) (hn : n < 4294967296) : Ret Z 37 #[.int .u32 (n : Nat)] (nd n) := fun W _ => rsmall_any n hn W
theorem d_1 : Ret Z 37 #[.int .u32 1] (nd 1) := d_small 1 (by decide)
theorem d_add {a b : Nat} (ha : a < Nt.P) (hb : b < Nt.P) : Ret Z 39 #[nd a, nd b] (nd (ad a b)) := fun W _ => radd_any a b (big_lt ha) (big_lt hb) (sum_K19 (Nat.le_of_lt ha) (Nat.le_of_lt hb)) W
theorem d_sub {a b : Nat} (ha : a < Nt.P) (hb : b < Nt.P) : Ret Z 38 #[nd a, nd b] (nd (sb a b)) := fun W _ => rsub_any a b ha hb W
theorem d_mul {a b : Nat} (ha : a < Nt.P) (hb : b < Nt.P) : Ret Z 36 #[nd a, nd b] (nd (mq a b)) := fun W _ => rmul_any a b (big_lt ha) (big_lt hb) (prod_K19 (lt4 ha) (lt4 hb)) W
theorem d_inv {a : Nat} (ha : a < Nt.P) : Ret Z 40 #[nd a] (nd (iv a)) := fun W _ => rinv_any a ha W
theorem d_of {s : ByteArray} (hs : s.size = 32) : Ret Z 35 #[.string s] (nd (of s)) := fun W _ => rof_any s hs W
theorem d_text {a : Nat} (ha : a < Nt.P) : Ret Z 61 #[nd a] (.string (by32 a)) := fun W _ => rbytes_any a (lt4 ha) W
theorem d_canon {s : ByteArray} (hs : s.size = 32) {q : Bool} (hq : decide (rd s 32 < Nt.P) = q) : Ret Z 34 #[.string s] (.bool q) := fun W _ => by
  have := rcanon_yes s hs W
  rw [hq] at this
  exact this
theorem d_root {a : Nat} (ha : a < Nt.P) (odd : Bool) : Ret Z 41 #[nd a, .bool odd] (.tuple #[nd (ro a odd), .bool (ok a odd)]) := fun W _ => by
  have := rroot_any a ha odd W
  rw [← rq_ro a ha, ← ry_ok] at this
  exact this
theorem d_given (E : Env Z) : Ret Z 11 #[] (nd dN) := by
  have := d_of (Z := Z) (s := dS) rfl
  rw [of_dS] at this
  exact given_r E.keeps this
theorem lt_k1 : 121665 < Nt.P := by rw [Nt.P_val]; decide
theorem lt_k2 : 121666 < Nt.P := by rw [Nt.P_val]; decide
theorem dN_is : mq (sb 0 121665) (iv 121666) = dN := by
  refine Ed.fe_inj (ml_lt _ _) dN_lt ?_
  rw [Ed.fe_mul, Ed.fe_sub _ _ lt_k1, Ed.fe_iv, fe_dN, Ed.fe_0]
  have h1 : Ed.fe 121666 ≠ 0 := by decide +kernel
  refine ((Ed.div_iff h1).2 ?_).symm
  decide +kernel
theorem d_d (E : Env Z) : Ret Z 12 #[] (nd dN) := by
  have := d_r E.keeps (d_small (Z := Z) 121665 (by decide)) (d_sub zero_lt lt_k1) (d_small 121666 (by decide)) (d_inv lt_k2) (d_mul (sb_lt _ _) (iv_ltP _))
  rw [dN_is] at this
  exact this
def zr : Pr := ⟨0, 1, 1⟩
theorem d_zero (E : Env Z) : Ret Z 83 #[] (pr zr) := rzero_r E.keeps d_1
theorem IsR.at {x y : Nat} {p : Ed.Pt} (hx : x < Nt.P) (hy : y < Nt.P) (ex : Ed.fe x = p.x) (ey : Ed.fe y = p.y) (on : p.On) : IsR ⟨x, y, 1⟩ p := by
  have h1 : Ed.fe 1 = 1 := Ed.fe_1
  refine ⟨hx, hy, one_lt, ?_, ?_, ?_, on⟩
  · show Ed.fe 1 ≠ 0; rw [h1]; exact Ed.one_ne
  · show Ed.fe x = p.x * Ed.fe 1; rw [h1, ex]; grind -lia
  · show Ed.fe y = p.y * Ed.fe 1; rw [h1, ey]; grind -lia
theorem zr_is : IsR zr Ed.zero := IsR.at zero_lt one_lt Ed.fe_0 Ed.fe_1 Ed.zero_on
theorem d_sum (E : Env Z) {q r : Pr} {p s : Ed.Pt} (h : IsR q p) (k : IsR r s) : Ret Z 19 #[pr q, pr r] (pr (rad q r)) :=
  radd_r E.keeps (d_mul h.lz k.lz) (d_mul (ml_lt _ _) (ml_lt _ _)) (d_mul h.lx k.lx) (d_mul h.ly k.ly) (d_given E) (d_mul dN_lt (ml_lt _ _)) (d_mul (ml_lt _ _) (ml_lt _ _)) (d_sub (ml_lt _ _) (ml_lt _ _)) (d_add (ml_lt _ _) (ml_lt _ _)) (d_add h.lx h.ly) (d_add k.lx k.ly) (d_mul (ad_lt _ _) (ad_lt _ _)) (d_sub (ml_lt _ _) (ml_lt _ _)) (d_sub (sb_lt _ _) (ml_lt _ _)) (d_mul (ml_lt _ _) (sb_lt _ _)) (d_mul (ml_lt _ _) (sb_lt _ _)) (d_mul (ml_lt _ _) (ad_lt _ _)) (d_add (ml_lt _ _) (ml_lt _ _)) (d_mul (ml_lt _ _) (ad_lt _ _)) (d_mul (sb_lt _ _) (ad_lt _ _))
theorem dts_eq {a b : Nat} (ha : a < Nt.P) (hb : b < Nt.P) : dts a = dts b ↔ a = b :=
  ⟨fun h => by rw [← vl_dts (big_lt ha), ← vl_dts (big_lt hb), h], fun h => by rw [h]⟩
theorem d_eq (E : Env Z) {q r : Pr} {p s : Ed.Pt} (h : IsR q p) (k : IsR r s) (e : p = s) : Ret Z 24 #[pr q, pr r] (.bool true) := by
  have hs := same_iff h.z k.z h.x h.y k.x k.y
  refine rsame_t E.keeps (d_mul h.lx k.lz) (d_mul k.lx h.lz) (d_mul h.ly k.lz) (d_mul k.ly h.lz) ?_ ?_
  · refine decide_eq_true ((dts_eq (ml_lt _ _) (ml_lt _ _)).2 ((fe_eq (ml_lt _ _) (ml_lt _ _)).2 ?_))
    rw [Ed.fe_mul, Ed.fe_mul]; exact hs.1.2 (by rw [e])
  · refine decide_eq_true ((dts_eq (ml_lt _ _) (ml_lt _ _)).2 ((fe_eq (ml_lt _ _) (ml_lt _ _)).2 ?_))
    rw [Ed.fe_mul, Ed.fe_mul]; exact hs.2.2 (by rw [e])
theorem d_ne (E : Env Z) {q r : Pr} {p s : Ed.Pt} (h : IsR q p) (k : IsR r s) (e : p ≠ s) : Ret Z 24 #[pr q, pr r] (.bool false) := by
  have hs := same_iff h.z k.z h.x h.y k.x k.y
  by_cases hx : p.x = s.x
  · have hy : p.y ≠ s.y := fun c => e (Ed.pt_eq hx c)
    refine rsame_t E.keeps (d_mul h.lx k.lz) (d_mul k.lx h.lz) (d_mul h.ly k.lz) (d_mul k.ly h.lz) ?_ ?_
    · refine decide_eq_true ((dts_eq (ml_lt _ _) (ml_lt _ _)).2 ((fe_eq (ml_lt _ _) (ml_lt _ _)).2 ?_))
      rw [Ed.fe_mul, Ed.fe_mul]; exact hs.1.2 hx
    · refine decide_eq_false fun c => hy (hs.2.1 ?_)
      have := (fe_eq (ml_lt _ _) (ml_lt _ _)).1 ((dts_eq (ml_lt _ _) (ml_lt _ _)).1 c)
      rw [Ed.fe_mul, Ed.fe_mul] at this
      exact this
  · refine rsame_f E.keeps (d_mul h.lx k.lz) (d_mul k.lx h.lz) ?_
    refine decide_eq_false fun c => hx (hs.1.1 ?_)
    have := (fe_eq (ml_lt _ _) (ml_lt _ _)).1 ((dts_eq (ml_lt _ _) (ml_lt _ _)).1 c)
    rw [Ed.fe_mul, Ed.fe_mul] at this
    exact this
namespace Ed
theorem on_z (x y z d : F) (ho : y * y - x * x = 1 + d * x * x * y * y) : (y * z * (y * z) - x * z * (x * z)) * (z * z) = z * z * (z * z) + d * (x * z * (x * z)) * (y * z * (y * z)) := by grind -lia
end Ed
theorem d_on (E : Env Z) {q : Pr} {p : Ed.Pt} (h : IsR q p) : Ret Z 16 #[pr q] (.bool true) := by
  refine on_r E.keeps (d_mul h.lx h.lx) (d_mul h.ly h.ly) (d_mul h.lz h.lz) (d_sub (ml_lt _ _) (ml_lt _ _)) (d_mul (sb_lt _ _) (ml_lt _ _)) (d_mul (ml_lt _ _) (ml_lt _ _)) (d_given E) (d_mul dN_lt (ml_lt _ _)) (d_mul (ml_lt _ _) (ml_lt _ _)) (d_add (ml_lt _ _) (ml_lt _ _)) ?_
  refine decide_eq_true ((dts_eq (ml_lt _ _) (ad_lt _ _)).2 ((fe_eq (ml_lt _ _) (ad_lt _ _)).2 ?_))
  rw [Ed.fe_add]
  simp only [Ed.fe_mul]
  rw [Ed.fe_sub _ _ (ml_lt _ _)]
  simp only [Ed.fe_mul]
  rw [fe_dN, h.x, h.y]
  exact Ed.on_z p.x p.y (Ed.fe q.z) Ed.dd h.on
theorem bit_par (v : Nat) {q : Bool} (hq : decide (v % 2 = 1) = q) : decide ((bits .and .u64 ((dt v 0 : Nat) : Int) 1) = 1) = q := by
  have h := par_bit v (dt v 0) _ rfl
  rw [h, ← hq]
  by_cases c : v % 2 = 1
  · rw [decide_eq_true c, decide_eq_true (by omega)]
  · rw [decide_eq_false c, decide_eq_false (by omega)]
theorem d_bytes (E : Env Z) {q : Pr} {p : Ed.Pt} (h : IsR q p) : Ret Z 29 #[pr q] (.string (enc p)) := by
  have k1 := d_inv (Z := Z) h.lz
  have k2 := d_mul (Z := Z) h.ly (iv_ltP q.z)
  have k3 := d_mul (Z := Z) h.lx (iv_ltP q.z)
  rw [h.vy] at k2
  rw [h.vx] at k3
  unfold enc
  by_cases c : p.x.val % 2 = 1
  · rw [if_pos c]
    exact rbytes_odd E.keeps (by32_size _) k1 k2 (d_text (Ed.val_lt _)) k3 (bit_par _ (decide_eq_true c))
  · rw [if_neg c]
    have := rbytes_even E.keeps (by32_size _) k1 k2 (d_text (Ed.val_lt _)) k3 (bit_par _ (decide_eq_false c))
    rw [sbi_self (by32_size _)] at this
    exact this
theorem mq_comm (a b : Nat) : mq a b = mq b a := by unfold mq; rw [Nat.mul_comm]
theorem x2_doc (y : Nat) : mq (sb (mq y y) 1) (iv (ad (mq dN (mq y y)) 1)) = x2 y := by unfold x2; rw [mq_comm dN]
theorem d_dec (E : Env Z) {p : Ed.Pt} (h : p.On) : Ret Z 10 #[.string (enc p)] (.tuple #[pr ⟨p.x.val, p.y.val, 1⟩, .int .i64 0]) := by
  obtain ⟨r1, r2⟩ := root_of (Ed.val_lt p.x) (on_val h)
  have hk := d_of (Z := Z) (lo_size (enc p))
  rw [of_small (by rw [rd_enc]; exact Ed.val_lt _), rd_enc] at hk
  have hb := d_root (Z := Z) (x2_lt p.y.val) (decide (p.x.val % 2 = 1))
  rw [r1, r2, ← top_enc] at hb
  have hy := Ed.val_lt p.y
  have hm := d_mul (Z := Z) (sb_lt (mq p.y.val p.y.val) 1) (iv_ltP (ad (mq dN (mq p.y.val p.y.val)) 1))
  rw [x2_doc] at hm
  exact rdecode_r E.keeps (enc_size p) (size_t (enc_size p)) (d_canon (lo_size _) (decide_eq_true (by rw [rd_enc]; exact hy))) hk (d_mul hy hy) d_1 (d_sub (ml_lt _ _) one_lt) (d_given E) (d_mul dN_lt (ml_lt _ _)) (d_add (ml_lt _ _) one_lt) (d_inv (ad_lt _ _)) hm hb
theorem d_dec_no (E : Env Z) {s : ByteArray} (h : ¬ ∃ p : Ed.Pt, p.On ∧ enc p = s) : Ret Z 10 #[.string s] (.tuple #[rp 0 0 0, .int .i64 (if s.size = 32 then 90 else 2)]) := by
  by_cases hs : s.size = 32
  · rw [if_pos hs]
    by_cases hc : rd (lo s) 32 < Nt.P
    · have hk := d_of (Z := Z) (lo_size s)
      rw [of_small hc] at hk
      have hb := d_root (Z := Z) (x2_lt (rd (lo s) 32)) (top s)
      rw [no_point hs hc h] at hb
      have hm := d_mul (Z := Z) (sb_lt (mq (rd (lo s) 32) (rd (lo s) 32)) 1) (iv_ltP (ad (mq dN (mq (rd (lo s) 32) (rd (lo s) 32))) 1))
      rw [x2_doc] at hm
      exact rdecode_nr E.keeps hs (size_t hs) (d_canon (lo_size _) (decide_eq_true hc)) hk (d_mul hc hc) d_1 (d_sub (ml_lt _ _) one_lt) (d_given E) (d_mul dN_lt (ml_lt _ _)) (d_add (ml_lt _ _) one_lt) (d_inv (ad_lt _ _)) hm hb
    · exact rdecode_nc E.keeps hs (size_t hs) (d_canon (lo_size _) (decide_eq_false hc))
  · rw [if_neg hs]
    exact rdecode_no E.keeps (size_f hs)
def br : Pr := ⟨Bp.x.val, Bp.y.val, 1⟩
theorem br_is : IsR br Bp := IsR.at (Ed.val_lt _) (Ed.val_lt _) (Ed.fe_of _) (Ed.fe_of _) Bp_on
theorem d_base (E : Env Z) : Ret Z 28 #[] (pr br) := by
  have := d_dec E Bp_on
  rw [enc_Bp] at this
  exact rbase_r E.keeps this
theorem c_is (E : Env Z) {q : Pq} {r : Pr} {p : Ed.Pt} (h : Is q p) (k : IsR r p) : Ret Z 15 #[pq q, pr r] (.bool true) := is_r E.keeps (c_bytes E h) (d_bytes E k) (by simp)
/-- What the law asks of all: it is so. -/
def shortS : ByteArray := ⟨#[115, 104, 111, 114, 116]⟩
theorem no_short : ¬ ∃ p : Ed.Pt, p.On ∧ enc p = shortS := fun ⟨p, _, h⟩ => by
  have := enc_size p
  rw [h] at this
  exact absurd this (by decide)
theorem enc_zero : bys (enc Ed.zero) 0 = 1 := by decide +kernel
theorem Bp_ne : Bp ≠ Ed.zero := fun h => by
  have : Bp.y = Ed.zero.y := by rw [h]
  exact absurd this (by decide +kernel)
theorem c_alive (E : Env Z) : Ret Z 8 #[] (.bool true) := by
  have h4 := c_dec_no E no_short
  rw [if_neg (by decide)] at h4
  have b2 := bq_is.dbl
  have b3 := bq_is.pls bq_is
  refine alive_r E.keeps (s := enc Bp) (t := enc Ed.zero) (enc_size _) (c_base E) (c_bytes E bq_is) (c_dec E Bp_on) h4 (c_zero E) (c_bytes E zq_is) (c_eq E bq_is bq_is rfl) (c_twice E bq_is) (c_sum E bq_is bq_is) (c_eq E b2 b3 rfl) (c_ne E bq_is zq_is Bp_ne) (c_bytes0 E) (d_base E) (d_bytes E br_is) (size_t (enc_size _)) (decide_eq_true enc_zero) (by simp) (by simp)
end
end Go.Proofs.YtpdagpjjlnncbaaDoor
namespace Go.Proofs.YtpdagpjjlnncbaaDoor
open Go.RowKit Go.Lib Go.BigFrame
set_option linter.unusedVariables false
set_option linter.unusedSimpArgs false
set_option maxRecDepth 1000000
set_option maxHeartbeats 1000000

/-- The package variables are laid. -/
def Z3 (W : World) : Prop := PV W ∧ Ord.PV W
theorem keeps3 : Keeps Z3 := ⟨fun h hF => ⟨h.1.fr hF, h.2.fr hF (by simp)⟩⟩
theorem env3 : Env Z3 := ⟨keeps3, fun W h => h.1⟩
theorem keeps2 : Keeps PV := ⟨fun h hF => h.fr hF⟩
theorem env2 : Env PV := ⟨keeps2, fun W h => h⟩
theorem o_of {s : ByteArray} (h : Ord.fits s) : Ret Z3 17 #[.string s] (.tuple #[wd (Ord.of s), .int .i64 0]) := fun W hW => Ord.of_yes s h W hW.2
theorem o_of_no {s : ByteArray} (h : ¬ Ord.fits s) : Ret Z3 17 #[.string s] (.tuple #[wd 0, .int .i64 2]) := fun W hW => Ord.of_no s h W
theorem L_lt4 {v : Nat} (h : v < Ord.Lq) : v < 115792089237316195423570985008687907853269984665640564039457584007913129639936 := by
  have := Ord.Lq_lt
  omega
theorem o_bytes {v : Nat} (h : v < Ord.Lq) : Ret Z3 54 #[wd v] (.string (Ord.by32 v)) := fun W hW => Ord.bytes_any v (L_lt4 h) W
theorem o_muladd {a b c : Nat} (ha : a < Ord.Lq) (hb : b < Ord.Lq) (hc : c < Ord.Lq) : Ret Z3 27 #[wd a, wd b, wd c] (wd ((a * b + c) % Ord.Lq)) := fun W hW => Ord.muladd_any a b c (L_lt4 ha) (L_lt4 hb) (L_lt4 hc) W hW.2
theorem none_any (n : ByteArray) : Ret Z3 7 #[.string n] (.bool true) := by
  by_cases h : Ord.fits n
  · have hn := c_none env3
    have hb := c_live env3 bq_is
    exact none_yes keeps3 (o_of h) (c_base env3) (c_bytes0 env3) (add_no2 keeps3 hb hn) (c_bytes0 env3) (add_no1 keeps3 hn) (twice_no keeps3 hn) (Both_no keeps3 hn) (same_no1 keeps3 hn) (same_no2 keeps3 hb hn) (same_no1 keeps3 hn) (c_alive env3) (by simp) (by simp) (by simp) (by simp) (by simp)
  · exact none_no keeps3 (o_of_no h) (c_alive env3)
end Go.Proofs.YtpdagpjjlnncbaaDoor
