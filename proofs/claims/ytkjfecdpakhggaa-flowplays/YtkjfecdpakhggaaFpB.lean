/-
  flow: what the program's queue does, as functions of its map; what its functions are told to do. No statement is proved here.
-/
import Derived.Test.YtkjfecdpakhggaaFpA
namespace Go.Proofs.Ytkjfecdpakhggaa
open Go.RowKit
set_option linter.unusedVariables false
set_option linter.unusedSimpArgs false
set_option maxRecDepth 100000

/-- How many numbers may have bytes. -/
def rmQ (z : Int) (n : Nat) (a en : BitVec 32) (tl : Bool) : BitVec 32 := bif tl then en - a else BitVec.ofInt 32 (z - (n : Nat))
/-- The map, when i bytes were looked at. -/
def hoS (a sq rm : BitVec 32) (d : List (BitVec 8)) (s : St) : Nat → St
  | 0 => s
  | i + 1 => bif !((hoS a sq rm d s i).get (sq + BitVec.ofInt 32 (i : Int))).isSome && (sq + BitVec.ofInt 32 (i : Int) - a).ult rm then (hoS a sq rm d s i).put (sq + BitVec.ofInt 32 (i : Int)) (d.getD i 0) else hoS a sq rm d s i
/-- Whether a byte is held at a number or behind it. -/
def lessB (x e : BitVec 32) : Bool := bif e - x != BitVec.ofInt 32 0 then (e - x).ult (BitVec.ofInt 32 2147483648) else false
def reB (es : List EntE) (e : BitVec 32) : Bool := es.any fun x => !lessB x.k e
/-- Whether the end that is told is not taken. -/
def fiT (z : Int) (n : Nat) (a : BitVec 32) (tl : Bool) (es : List EntE) (e : BitVec 32) : Bool := tl || (!((e - a).ult (BitVec.ofInt 32 (z - (n : Nat)) + BitVec.ofInt 32 1)) || reB es e)
def enF (z : Int) (n : Nat) (a en : BitVec 32) (tl : Bool) (es : List EntE) (e : BitVec 32) : BitVec 32 := bif fiT z n a tl es e then en else e
def tlF (z : Int) (n : Nat) (a : BitVec 32) (tl : Bool) (es : List EntE) (e : BitVec 32) : Bool := bif fiT z n a tl es e then tl else true
/-- How many come next. -/
structure NxS (s : St) (a : BitVec 32) (k : Nat) : Prop where
  all : ∀ j, j < k → (s.get (a + BitVec.ofNat 32 j)).isSome = true
  stop : s.get (a + BitVec.ofNat 32 k) = none
/-- What is left then, and the bytes. -/
def deS (s : St) (a : BitVec 32) : Nat → St
  | 0 => s
  | k + 1 => (deS s a k).del (a + BitVec.ofNat 32 k)
def byS (s : St) (a : BitVec 32) (k : Nat) : List (BitVec 8) := (List.range k).map fun j => bOf (s.get (a + BitVec.ofNat 32 j))
def edE (tl : Bool) (a1 en : BitVec 32) : Bool := tl && a1 == en
def nxE (tl : Bool) (a1 en : BitVec 32) : BitVec 32 := bif edE tl a1 en then a1 + BitVec.ofInt 32 1 else a1
/-- Bytes that stand in a slice. -/
structure RdOk (l : List (BitVec 8)) (off n cap : Nat) (rd : List (BitVec 8)) : Prop where
  fit : n ≤ cap
  len : off + cap ≤ l.length
  eq : (l.drop off).take n = rd
/-- What holds of a map between two calls. -/
structure OkM (s : St) : Prop where
  kd : s.kd
  lt : ∀ e ∈ s.es, e.born < s.clk
  nd : (s.es.map (·.born)).Nodup
def InQ (z : Int) (n : Nat) (ed : Bool) : Prop := ed = false ∧ 0 < z ∧ (n : Int) ≤ z ∧ z ≤ 65536
def mG (z : Int) (a en : BitVec 32) (tl ed : Bool) (mb clk : Nat) (es : List EntE) (off n cap : Nat) (l : List (BitVec 8)) : Mm := [⟨true, .row [.i z, .w32 a, .sl 3 off n cap, .mp 1, .w32 en, .b tl, .b ed]⟩, ⟨true, .res (stM mb clk es)⟩, ⟨true, .gone⟩, ⟨true, .a8 l⟩]
def cHo : List SV → Mm → (SV → Mm → Prop) → Prop
  | [.ptr 0 0, .w32 sq, .s d], [⟨true, .row [.i z, .w32 a, .v (.slice none 0 0), .mp 1, .w32 en, .b tl, .b ed]⟩, ⟨true, .res ⟨mb, clk, es, false, none, .no⟩⟩], K => (InQ z 0 ed ∧ d.length ≤ 65536) ∧ K (.tup []) (mN z a en tl ed mb (hoS a sq (rmQ z 0 a en tl) d (stM mb clk es) d.length).clk (hoS a sq (rmQ z 0 a en tl) d (stM mb clk es) d.length).es)
  | [.ptr 0 0, .w32 sq, .s d], [⟨true, .row [.i z, .w32 a, .sl 2 off n cap, .mp 1, .w32 en, .b tl, .b ed]⟩, ⟨true, .res ⟨mb, clk, es, false, none, .no⟩⟩, ⟨true, .a8 l⟩], K => (InQ z n ed ∧ d.length ≤ 65536) ∧ K (.tup []) (mS z a en tl ed mb (hoS a sq (rmQ z n a en tl) d (stM mb clk es) d.length).clk (hoS a sq (rmQ z n a en tl) d (stM mb clk es) d.length).es off n cap l)
  | _, _, _ => False
def cRe : List SV → Mm → (SV → Mm → Prop) → Prop
  | [.ptr 0 0, .w32 e], [⟨true, .row [.i z, .w32 a, .v (.slice none 0 0), .mp 1, .w32 en, .b tl, .b ed]⟩, ⟨true, .res ⟨mb, clk, es, false, none, .no⟩⟩], K => OkM (stM mb clk es) ∧ K (.b (reB es e)) (mN z a en tl ed mb clk es)
  | [.ptr 0 0, .w32 e], [⟨true, .row [.i z, .w32 a, .sl 2 off n cap, .mp 1, .w32 en, .b tl, .b ed]⟩, ⟨true, .res ⟨mb, clk, es, false, none, .no⟩⟩, ⟨true, .a8 l⟩], K => OkM (stM mb clk es) ∧ K (.b (reB es e)) (mS z a en tl ed mb clk es off n cap l)
  | _, _, _ => False
def cFi : List SV → Mm → (SV → Mm → Prop) → Prop
  | [.ptr 0 0, .w32 e], [⟨true, .row [.i z, .w32 a, .v (.slice none 0 0), .mp 1, .w32 en, .b tl, .b ed]⟩, ⟨true, .res ⟨mb, clk, es, false, none, .no⟩⟩], K => (InQ z 0 ed ∧ OkM (stM mb clk es)) ∧ K (.tup []) (mN z a (enF z 0 a en tl es e) (tlF z 0 a tl es e) ed mb clk es)
  | [.ptr 0 0, .w32 e], [⟨true, .row [.i z, .w32 a, .sl 2 off n cap, .mp 1, .w32 en, .b tl, .b ed]⟩, ⟨true, .res ⟨mb, clk, es, false, none, .no⟩⟩, ⟨true, .a8 l⟩], K => (InQ z n ed ∧ OkM (stM mb clk es)) ∧ K (.tup []) (mS z a (enF z n a en tl es e) (tlF z n a tl es e) ed mb clk es off n cap l)
  | _, _, _ => False
def cAd : List SV → Mm → (SV → Mm → Prop) → Prop
  | [.ptr 0 0], [⟨true, .row [.i z, .w32 a, .v (.slice none 0 0), .mp 1, .w32 en, .b tl, .b ed]⟩, ⟨true, .res ⟨mb, clk, es, false, none, .no⟩⟩], K => (ed = false ∧ OkM (stM mb clk es) ∧ es.length ≤ 65536) ∧ ∀ k, NxS (stM mb clk es) a k → (k = 0 → K (.tup []) (mN z (nxE tl a en) en tl (edE tl a en) mb clk es)) ∧ (0 < k → ∀ off cap l, RdOk l off k cap (byS (stM mb clk es) a k) → K (.tup []) (mS z (nxE tl (a + BitVec.ofNat 32 k) en) en tl (edE tl (a + BitVec.ofNat 32 k) en) mb clk (deS (stM mb clk es) a k).es off k cap l))
  | [.ptr 0 0], [⟨true, .row [.i z, .w32 a, .sl 2 off n cap, .mp 1, .w32 en, .b tl, .b ed]⟩, ⟨true, .res ⟨mb, clk, es, false, none, .no⟩⟩, ⟨true, .a8 l⟩], K => (ed = false ∧ OkM (stM mb clk es) ∧ es.length ≤ 65536 ∧ n ≤ 65536 ∧ n ≤ cap ∧ off + cap ≤ l.length) ∧ ∀ k, NxS (stM mb clk es) a k → (k = 0 → K (.tup []) (mS z (nxE tl a en) en tl (edE tl a en) mb clk es off n cap l)) ∧ (0 < k → ∀ off' cap' l', RdOk l' off' (n + k) cap' ((l.drop off).take n ++ byS (stM mb clk es) a k) → K (.tup []) (mG z (nxE tl (a + BitVec.ofNat 32 k) en) en tl (edE tl (a + BitVec.ofNat 32 k) en) mb clk (deS (stM mb clk es) a k).es off' (n + k) cap' l'))
  | _, _, _ => False
/-- Tables: of Put. -/
def E5 : Env := { G := G, T := T0, C := (((noC.add 27 (inl E0 27)).add 29 cHo).add 30 cFi).add 31 cAd, H := hMp }
def E6 : Env := { G := G, T := T0, C := (noC.add 27 (inl E0 27)).add 28 (inl EM 28), H := hMp }
theorem e6_ok : EnvOk Try.prog E6 := { T := t0_ok, C := CT.add_ok (CT.add_ok (noC_ok _ _) (inl_ok e0_ok rfl _)) (inl_ok em_ok rfl _), H := hMp_ok _ }
end Go.Proofs.Ytkjfecdpakhggaa
