/-
  sum: the words behind one more block, as the document reckons them. No statement is proved here.
-/
import Derived.Test.YtmalnjdacmlcdaaDoorSuB
namespace Go.Proofs.YtmalnjdacmlcdaaDoor
open Go.RowKit
set_option linter.unusedVariables false
set_option linter.unusedSimpArgs false
set_option maxRecDepth 100000

/-- The words of layer 10. -/
def H64 : List (BitVec 64) := [0x6a09e667f3bcc908, 0xbb67ae8584caa73b, 0x3c6ef372fe94f82b, 0xa54ff53a5f1d36f1, 0x510e527fade682d1, 0x9b05688c2b3e6c1f, 0x1f83d9abfb41bd6b, 0x5be0cd19137e2179]
def K80 : List (BitVec 64) := [0x428a2f98d728ae22, 0x7137449123ef65cd, 0xb5c0fbcfec4d3b2f, 0xe9b5dba58189dbbc, 0x3956c25bf348b538, 0x59f111f1b605d019, 0x923f82a4af194f9b, 0xab1c5ed5da6d8118, 0xd807aa98a3030242, 0x12835b0145706fbe, 0x243185be4ee4b28c, 0x550c7dc3d5ffb4e2, 0x72be5d74f27b896f, 0x80deb1fe3b1696b1, 0x9bdc06a725c71235, 0xc19bf174cf692694, 0xe49b69c19ef14ad2, 0xefbe4786384f25e3, 0x0fc19dc68b8cd5b5, 0x240ca1cc77ac9c65, 0x2de92c6f592b0275, 0x4a7484aa6ea6e483, 0x5cb0a9dcbd41fbd4, 0x76f988da831153b5, 0x983e5152ee66dfab, 0xa831c66d2db43210, 0xb00327c898fb213f, 0xbf597fc7beef0ee4, 0xc6e00bf33da88fc2, 0xd5a79147930aa725, 0x06ca6351e003826f, 0x142929670a0e6e70, 0x27b70a8546d22ffc, 0x2e1b21385c26c926, 0x4d2c6dfc5ac42aed, 0x53380d139d95b3df, 0x650a73548baf63de, 0x766a0abb3c77b2a8, 0x81c2c92e47edaee6, 0x92722c851482353b, 0xa2bfe8a14cf10364, 0xa81a664bbc423001, 0xc24b8b70d0f89791, 0xc76c51a30654be30, 0xd192e819d6ef5218, 0xd69906245565a910, 0xf40e35855771202a, 0x106aa07032bbd1b8, 0x19a4c116b8d2d0c8, 0x1e376c085141ab53, 0x2748774cdf8eeb99, 0x34b0bcb5e19b48a8, 0x391c0cb3c5c95a63, 0x4ed8aa4ae3418acb, 0x5b9cca4f7763e373, 0x682e6ff3d6b2b8a3, 0x748f82ee5defb2fc, 0x78a5636f43172f60, 0x84c87814a1f0ab72, 0x8cc702081a6439ec, 0x90befffa23631e28, 0xa4506cebde82bde9, 0xbef9a3f7b2c67915, 0xc67178f2e372532b, 0xca273eceea26619c, 0xd186b8c721c0c207, 0xeada7dd6cde0eb1e, 0xf57d4f7fee6ed178, 0x06f067aa72176fba, 0x0a637dc5a2c898a6, 0x113f9804bef90dae, 0x1b710b35131c471b, 0x28db77f523047d84, 0x32caab7b40c72493, 0x3c9ebe0a15c9bebc, 0x431d67c49c100d4c, 0x4cc5d4becb3e42b6, 0x597f299cfc657e2a, 0x5fcb6fab3ad6faec, 0x6c44198c4a475817]
theorem vc18 (K : SV → Mm → Prop) : (vf Tryd.prog E5 noL 26 [] G K) = (K (SV.a64 [BitVec.ofInt 64 7640891576956012808, BitVec.ofInt 64 13503953896175478587, BitVec.ofInt 64 4354685564936845355, BitVec.ofInt 64 11912009170470909681, BitVec.ofInt 64 5840696475078001361, BitVec.ofInt 64 11170449401992604703, BitVec.ofInt 64 2270897969802886507, BitVec.ofInt 64 6620516959819538809]) [{ rw := false, c := Cont.a32 H0 }, { rw := false, c := Cont.a32 K64 }, { rw := true, c := Cont.a64 [BitVec.ofInt 64 7640891576956012808, BitVec.ofInt 64 13503953896175478587, BitVec.ofInt 64 4354685564936845355, BitVec.ofInt 64 11912009170470909681, BitVec.ofInt 64 5840696475078001361, BitVec.ofInt 64 11170449401992604703, BitVec.ofInt 64 2270897969802886507, BitVec.ofInt 64 6620516959819538809] }]) := by kernel_rfl
theorem vc31 (K : SV → Mm → Prop) : (vf Tryd.prog E5 noL 34 [] G K) = (K (SV.a64 [BitVec.ofInt 64 4794697086780616226, BitVec.ofInt 64 8158064640168781261, BitVec.ofInt 64 13096744586834688815, BitVec.ofInt 64 16840607885511220156, BitVec.ofInt 64 4131703408338449720, BitVec.ofInt 64 6480981068601479193, BitVec.ofInt 64 10538285296894168987, BitVec.ofInt 64 12329834152419229976, BitVec.ofInt 64 15566598209576043074, BitVec.ofInt 64 1334009975649890238, BitVec.ofInt 64 2608012711638119052, BitVec.ofInt 64 6128411473006802146, BitVec.ofInt 64 8268148722764581231, BitVec.ofInt 64 9286055187155687089, BitVec.ofInt 64 11230858885718282805, BitVec.ofInt 64 13951009754708518548, BitVec.ofInt 64 16472876342353939154, BitVec.ofInt 64 17275323862435702243, BitVec.ofInt 64 1135362057144423861, BitVec.ofInt 64 2597628984639134821, BitVec.ofInt 64 3308224258029322869, BitVec.ofInt 64 5365058923640841347, BitVec.ofInt 64 6679025012923562964, BitVec.ofInt 64 8573033837759648693, BitVec.ofInt 64 10970295158949994411, BitVec.ofInt 64 12119686244451234320, BitVec.ofInt 64 12683024718118986047, BitVec.ofInt 64 13788192230050041572, BitVec.ofInt 64 14330467153632333762, BitVec.ofInt 64 15395433587784984357, BitVec.ofInt 64 489312712824947311, BitVec.ofInt 64 1452737877330783856, BitVec.ofInt 64 2861767655752347644, BitVec.ofInt 64 3322285676063803686, BitVec.ofInt 64 5560940570517711597, BitVec.ofInt 64 5996557281743188959, BitVec.ofInt 64 7280758554555802590, BitVec.ofInt 64 8532644243296465576, BitVec.ofInt 64 9350256976987008742, BitVec.ofInt 64 10552545826968843579, BitVec.ofInt 64 11727347734174303076, BitVec.ofInt 64 12113106623233404929, BitVec.ofInt 64 14000437183269869457, BitVec.ofInt 64 14369950271660146224, BitVec.ofInt 64 15101387698204529176, BitVec.ofInt 64 15463397548674623760, BitVec.ofInt 64 17586052441742319658, BitVec.ofInt 64 1182934255886127544, BitVec.ofInt 64 1847814050463011016, BitVec.ofInt 64 2177327727835720531, BitVec.ofInt 64 2830643537854262169, BitVec.ofInt 64 3796741975233480872, BitVec.ofInt 64 4115178125766777443, BitVec.ofInt 64 5681478168544905931, BitVec.ofInt 64 6601373596472566643, BitVec.ofInt 64 7507060721942968483, BitVec.ofInt 64 8399075790359081724, BitVec.ofInt 64 8693463985226723168, BitVec.ofInt 64 9568029438360202098, BitVec.ofInt 64 10144078919501101548, BitVec.ofInt 64 10430055236837252648, BitVec.ofInt 64 11840083180663258601, BitVec.ofInt 64 13761210420658862357, BitVec.ofInt 64 14299343276471374635, BitVec.ofInt 64 14566680578165727644, BitVec.ofInt 64 15097957966210449927, BitVec.ofInt 64 16922976911328602910, BitVec.ofInt 64 17689382322260857208, BitVec.ofInt 64 500013540394364858, BitVec.ofInt 64 748580250866718886, BitVec.ofInt 64 1242879168328830382, BitVec.ofInt 64 1977374033974150939, BitVec.ofInt 64 2944078676154940804, BitVec.ofInt 64 3659926193048069267, BitVec.ofInt 64 4368137639120453308, BitVec.ofInt 64 4836135668995329356, BitVec.ofInt 64 5532061633213252278, BitVec.ofInt 64 6448918945643986474, BitVec.ofInt 64 6902733635092675308, BitVec.ofInt 64 7801388544844847127]) [{ rw := false, c := Cont.a32 H0 }, { rw := false, c := Cont.a32 K64 }, { rw := true, c := Cont.a64 [BitVec.ofInt 64 4794697086780616226, BitVec.ofInt 64 8158064640168781261, BitVec.ofInt 64 13096744586834688815, BitVec.ofInt 64 16840607885511220156, BitVec.ofInt 64 4131703408338449720, BitVec.ofInt 64 6480981068601479193, BitVec.ofInt 64 10538285296894168987, BitVec.ofInt 64 12329834152419229976, BitVec.ofInt 64 15566598209576043074, BitVec.ofInt 64 1334009975649890238, BitVec.ofInt 64 2608012711638119052, BitVec.ofInt 64 6128411473006802146, BitVec.ofInt 64 8268148722764581231, BitVec.ofInt 64 9286055187155687089, BitVec.ofInt 64 11230858885718282805, BitVec.ofInt 64 13951009754708518548, BitVec.ofInt 64 16472876342353939154, BitVec.ofInt 64 17275323862435702243, BitVec.ofInt 64 1135362057144423861, BitVec.ofInt 64 2597628984639134821, BitVec.ofInt 64 3308224258029322869, BitVec.ofInt 64 5365058923640841347, BitVec.ofInt 64 6679025012923562964, BitVec.ofInt 64 8573033837759648693, BitVec.ofInt 64 10970295158949994411, BitVec.ofInt 64 12119686244451234320, BitVec.ofInt 64 12683024718118986047, BitVec.ofInt 64 13788192230050041572, BitVec.ofInt 64 14330467153632333762, BitVec.ofInt 64 15395433587784984357, BitVec.ofInt 64 489312712824947311, BitVec.ofInt 64 1452737877330783856, BitVec.ofInt 64 2861767655752347644, BitVec.ofInt 64 3322285676063803686, BitVec.ofInt 64 5560940570517711597, BitVec.ofInt 64 5996557281743188959, BitVec.ofInt 64 7280758554555802590, BitVec.ofInt 64 8532644243296465576, BitVec.ofInt 64 9350256976987008742, BitVec.ofInt 64 10552545826968843579, BitVec.ofInt 64 11727347734174303076, BitVec.ofInt 64 12113106623233404929, BitVec.ofInt 64 14000437183269869457, BitVec.ofInt 64 14369950271660146224, BitVec.ofInt 64 15101387698204529176, BitVec.ofInt 64 15463397548674623760, BitVec.ofInt 64 17586052441742319658, BitVec.ofInt 64 1182934255886127544, BitVec.ofInt 64 1847814050463011016, BitVec.ofInt 64 2177327727835720531, BitVec.ofInt 64 2830643537854262169, BitVec.ofInt 64 3796741975233480872, BitVec.ofInt 64 4115178125766777443, BitVec.ofInt 64 5681478168544905931, BitVec.ofInt 64 6601373596472566643, BitVec.ofInt 64 7507060721942968483, BitVec.ofInt 64 8399075790359081724, BitVec.ofInt 64 8693463985226723168, BitVec.ofInt 64 9568029438360202098, BitVec.ofInt 64 10144078919501101548, BitVec.ofInt 64 10430055236837252648, BitVec.ofInt 64 11840083180663258601, BitVec.ofInt 64 13761210420658862357, BitVec.ofInt 64 14299343276471374635, BitVec.ofInt 64 14566680578165727644, BitVec.ofInt 64 15097957966210449927, BitVec.ofInt 64 16922976911328602910, BitVec.ofInt 64 17689382322260857208, BitVec.ofInt 64 500013540394364858, BitVec.ofInt 64 748580250866718886, BitVec.ofInt 64 1242879168328830382, BitVec.ofInt 64 1977374033974150939, BitVec.ofInt 64 2944078676154940804, BitVec.ofInt 64 3659926193048069267, BitVec.ofInt 64 4368137639120453308, BitVec.ofInt 64 4836135668995329356, BitVec.ofInt 64 5532061633213252278, BitVec.ofInt 64 6448918945643986474, BitVec.ofInt 64 6902733635092675308, BitVec.ofInt 64 7801388544844847127] }]) := by kernel_rfl
def cFirst : List SV → List Cont → Option (Bool × SV)
  | [], _ => some (true, .a64 H64)
  | _, _ => none
def cRounds : List SV → List Cont → Option (Bool × SV)
  | [], _ => some (true, .a64 K80)
  | _, _ => none
theorem first_ok : POk Tryd.prog G 26 cFirst := by
  intro args acs r h β M w hR hw ha
  unfold cFirst at h
  split at h
  · simp only [Option.some.injEq, Prod.mk.injEq, true_and] at h
    subst h
    refine pure0 (vf_ok e5_ok mixed (noL_ok _ _ _ _) (of_eq (vc18 _) ?_)) rfl rfl hR
    exact congrArg SV.a64 (by kernel_rfl)
  · cases h
theorem rounds_ok : POk Tryd.prog G 34 cRounds := by
  intro args acs r h β M w hR hw ha
  unfold cRounds at h
  split at h
  · simp only [Option.some.injEq, Prod.mk.injEq, true_and] at h
    subst h
    refine pure0 (vf_ok e5_ok mixed (noL_ok _ _ _ _) (of_eq (vc31 _) ?_)) rfl rfl hR
    exact congrArg SV.a64 (by kernel_rfl)
  · cases h
def T6 : PT := (T5.add 26 cFirst).add 34 cRounds
def E6 : Env := ⟨G, T6, C2⟩
theorem e6_ok : EnvOk Tryd.prog E6 := ⟨PT.add_ok (PT.add_ok e5_ok.T first_ok) rounds_ok, e5_ok.C⟩
def M19 (l : List (BitVec 8)) (h w : List (BitVec 32)) : Mm := [⟨false, .a32 H0⟩, ⟨false, .a32 K64⟩, ⟨false, .a8 l⟩, ⟨true, .a32 h⟩, ⟨true, .a32 (List.replicate 8 0)⟩, ⟨true, .a32 w⟩]
def N19 (l : List (BitVec 8)) (h w x : List (BitVec 32)) : Mm := [⟨false, .a32 H0⟩, ⟨false, .a32 K64⟩, ⟨false, .a8 l⟩, ⟨true, .a32 h⟩, ⟨true, .a32 (List.replicate 8 0)⟩, ⟨true, .a32 w⟩, ⟨true, .a64 K80⟩, ⟨true, .a32 x⟩]
/-- The words of the first j bytes. -/
def wc (B : List (BitVec 8)) (j : Nat) : List (BitVec 32) := (List.range 64).map fun k => be ((B.drop (4 * k)).take (min 4 (j - 4 * k)))
def p19 (off cap : Nat) : List (Nat × SV) := [(1, .sl 2 off 64 cap), (2, .ptr 3 0), (4, .ptr 4 0), (5, .ptr 5 0)]
def r19 : List (Nat × SV) := [(2, .ptr 3 0), (4, .ptr 4 0), (5, .ptr 5 0)]
def q19 : List (Nat × SV) := [(2, .ptr 3 0), (4, .ptr 4 0), (5, .ptr 5 0), (10, .ptr 6 0), (11, .ptr 7 0)]
def z19 : List (Nat × SV) := [(2, .ptr 3 0), (4, .ptr 4 0)]
def addM (s t : S8) (j : Nat) : List (BitVec 32) := (addS s t).l.take j ++ s.l.drop j
def L19 (s t : S8) (l : List (BitVec 8)) (off cap : Nat) : LT := (((noL.add 0 (vLoop (B38 l) 177 ((6, .i 0) :: p19 off cap) (M19 l s.l (wc (l.drop off) 0)) r19 (M19 l s.l (wc (l.drop off) 64)))).add 2 (vLoop (B38 l) 177 ((7, .i 16) :: r19) (M19 l s.l (wb (l.drop off) 16)) r19 (M19 l s.l (wb (l.drop off) 64)))).add 4 (vLoop (B38 l) 177 ((12, .i 0) :: q19) (N19 l s.l (wb (l.drop off) 64) s.l) q19 (N19 l s.l (wb (l.drop off) 64) t.l))).add 6 (vLoop (B38 l) 177 ((15, .i 0) :: q19) (N19 l s.l (wb (l.drop off) 64) t.l) z19 (N19 l (addS s t).l (wb (l.drop off) 64) t.l))
theorem vc19 (s t : S8) (l : List (BitVec 8)) (off cap : Nat) (K : SV → Mm → Prop) : (vf Tryd.prog E6 (L19 s t l off cap) 27 [.a32 s.l, .sl 2 off 64 cap] (B38 l) K) = (loopOf Tryd.prog 27 0 = loopOf Tryd.prog 27 0 ∧ SV.sl 2 off 64 cap = SV.sl 2 off 64 cap ∧ SV.ptr (List.length (B38 l)) 0 = SV.ptr 3 0 ∧ SV.ptr (0 + 1 + 1 + 1 + 1) 0 = SV.ptr 4 0 ∧ SV.ptr (0 + 1 + 1 + 1 + 1 + 1) 0 = SV.ptr 5 0 ∧ SV.i 0 = SV.i 0 ∧ (false = false ∧ Cont.a32 H0 = Cont.a32 H0) ∧ (false = false ∧ Cont.a32 K64 = Cont.a32 K64) ∧ (false = false ∧ Cont.a8 l = Cont.a8 l) ∧ (true = true ∧ Cont.a32 s.l = Cont.a32 s.l) ∧ (true = true ∧ Cont.a32 (List.replicate 8 0) = Cont.a32 (List.replicate 8 0)) ∧ (true = true ∧ Cont.a32 (List.replicate 64 0) = Cont.a32 (wc (List.drop off l) 0)) ∧ loopOf Tryd.prog 27 2 = loopOf Tryd.prog 27 2 ∧ SV.ptr 3 0 = SV.ptr 3 0 ∧ SV.ptr 4 0 = SV.ptr 4 0 ∧ SV.ptr 5 0 = SV.ptr 5 0 ∧ SV.i 16 = SV.i 16 ∧ (false = false ∧ Cont.a32 H0 = Cont.a32 H0) ∧ (false = false ∧ Cont.a32 K64 = Cont.a32 K64) ∧ (false = false ∧ Cont.a8 l = Cont.a8 l) ∧ (true = true ∧ Cont.a32 s.l = Cont.a32 s.l) ∧ (true = true ∧ Cont.a32 (List.replicate 8 0) = Cont.a32 (List.replicate 8 0)) ∧ (true = true ∧ Cont.a32 (wc (List.drop off l) 64) = Cont.a32 (wb (List.drop off l) 16)) ∧ loopOf Tryd.prog 27 4 = loopOf Tryd.prog 27 4 ∧ SV.ptr 3 0 = SV.ptr 3 0 ∧ SV.ptr 4 0 = SV.ptr 4 0 ∧ SV.ptr 5 0 = SV.ptr 5 0 ∧ SV.ptr (List.length (M19 l s.l (wb (List.drop off l) 64))) 0 = SV.ptr 6 0 ∧ SV.ptr (0 + 1 + 1 + 1 + 1 + 1 + 1 + 1) 0 = SV.ptr 7 0 ∧ SV.i 0 = SV.i 0 ∧ (false = false ∧ Cont.a32 H0 = Cont.a32 H0) ∧ (false = false ∧ Cont.a32 K64 = Cont.a32 K64) ∧ (false = false ∧ Cont.a8 l = Cont.a8 l) ∧ (true = true ∧ Cont.a32 s.l = Cont.a32 s.l) ∧ (true = true ∧ Cont.a32 (List.replicate 8 0) = Cont.a32 (List.replicate 8 0)) ∧ (true = true ∧ Cont.a32 (wb (List.drop off l) 64) = Cont.a32 (wb (List.drop off l) 64)) ∧ (true = true ∧ Cont.a64 K80 = Cont.a64 K80) ∧ (true = true ∧ Cont.a32 s.l = Cont.a32 s.l) ∧ loopOf Tryd.prog 27 6 = loopOf Tryd.prog 27 6 ∧ SV.ptr 3 0 = SV.ptr 3 0 ∧ SV.ptr 4 0 = SV.ptr 4 0 ∧ SV.ptr 5 0 = SV.ptr 5 0 ∧ SV.ptr 6 0 = SV.ptr 6 0 ∧ SV.ptr 7 0 = SV.ptr 7 0 ∧ SV.i 0 = SV.i 0 ∧ (false = false ∧ Cont.a32 H0 = Cont.a32 H0) ∧ (false = false ∧ Cont.a32 K64 = Cont.a32 K64) ∧ (false = false ∧ Cont.a8 l = Cont.a8 l) ∧ (true = true ∧ Cont.a32 s.l = Cont.a32 s.l) ∧ (true = true ∧ Cont.a32 (List.replicate 8 0) = Cont.a32 (List.replicate 8 0)) ∧ (true = true ∧ Cont.a32 (wb (List.drop off l) 64) = Cont.a32 (wb (List.drop off l) 64)) ∧ (true = true ∧ Cont.a64 K80 = Cont.a64 K80) ∧ (true = true ∧ Cont.a32 t.l = Cont.a32 t.l) ∧ K (SV.a32 (addS s t).l) [{ rw := false, c := Cont.a32 H0 }, { rw := false, c := Cont.a32 K64 }, { rw := false, c := Cont.a8 l }, { rw := true, c := Cont.a32 (addS s t).l }, { rw := true, c := Cont.a32 (addS s t).l }, { rw := true, c := Cont.a32 (wb (List.drop off l) 64) }, { rw := true, c := Cont.a64 K80 }, { rw := true, c := Cont.a32 t.l }]) := by kernel_rfl
theorem vr19a (h w w' z : List (BitVec 32)) (l : List (BitVec 8)) (off cap j : Nat) (a : Prop) : (frK 177 ((6, .i (j : Nat)) :: p19 off cap) fun fr => vround Tryd.prog E6 noL 27 0 fr (M19 l h w) (Kn (B38 l) 0 177 a ((6, .i ((j + 1 : Nat) : Int)) :: p19 off cap) (M19 l h w') r19 (M19 l h z))) = (bif ilt (↑j : Int) 64 then bif inI (↑j : Int) then bif inI (↑j : Int) then bif inR ((↑j : Int).tdiv 4) 64 then bif ((↑j : Int).tdiv 4).toNat.blt w.length then bif inR (↑j : Int) 64 then bif (j + off).blt l.length then bif inR ((↑j : Int).tdiv 4) 64 then bif ((↑j : Int).tdiv 4).toNat.blt w.length then bif inI ((↑j : Int) + 1) then a ∧ SV.sl 2 off 64 cap = SV.sl 2 off 64 cap ∧ SV.ptr 3 0 = SV.ptr 3 0 ∧ SV.ptr 4 0 = SV.ptr 4 0 ∧ SV.ptr 5 0 = SV.ptr 5 0 ∧ SV.i ((↑j : Int) + 1) = SV.i (↑(j + 1) : Int) ∧ (false = false ∧ Cont.a32 H0 = Cont.a32 H0) ∧ (false = false ∧ Cont.a32 K64 = Cont.a32 K64) ∧ (false = false ∧ Cont.a8 l = Cont.a8 l) ∧ (true = true ∧ Cont.a32 h = Cont.a32 h) ∧ (true = true ∧ Cont.a32 (List.replicate 8 0) = Cont.a32 (List.replicate 8 0)) ∧ (true = true ∧ Cont.a32 (w.set ((↑j : Int).tdiv 4).toNat (w.getD ((↑j : Int).tdiv 4).toNat 0 <<< 8 ||| BitVec.setWidth 32 (l.getD (j + off) 0))) = Cont.a32 w') ∧ True else False else False else False else False else False else False else False else False else False else 0 = 0 ∧ SV.ptr 3 0 = SV.ptr 3 0 ∧ SV.ptr 4 0 = SV.ptr 4 0 ∧ SV.ptr 5 0 = SV.ptr 5 0 ∧ (false = false ∧ Cont.a32 H0 = Cont.a32 H0) ∧ (false = false ∧ Cont.a32 K64 = Cont.a32 K64) ∧ (false = false ∧ Cont.a8 l = Cont.a8 l) ∧ (true = true ∧ Cont.a32 h = Cont.a32 h) ∧ (true = true ∧ Cont.a32 (List.replicate 8 0) = Cont.a32 (List.replicate 8 0)) ∧ (true = true ∧ Cont.a32 w = Cont.a32 z) ∧ True) := by kernel_rfl
theorem vr19b (h w w' z : List (BitVec 32)) (l : List (BitVec 8)) (j : Nat) (a : Prop) : (frK 177 ((7, .i (j : Nat)) :: r19) fun fr => vround Tryd.prog E6 noL 27 2 fr (M19 l h w) (Kn (B38 l) 2 177 a ((7, .i ((j + 1 : Nat) : Int)) :: r19) (M19 l h w') r19 (M19 l h z))) = (bif ilt (↑j : Int) 64 then bif inI ((↑j : Int) - 15) then bif inR ((↑j : Int) - 15) 64 then bif ((↑j : Int) - 15).toNat.blt w.length then bif inI ((↑j : Int) - 2) then bif inR ((↑j : Int) - 2) 64 then bif ((↑j : Int) - 2).toNat.blt w.length then bif inI ((↑j : Int) - 16) then bif inR ((↑j : Int) - 16) 64 then bif ((↑j : Int) - 16).toNat.blt w.length then bif inI ((↑j : Int) - 7) then bif inR ((↑j : Int) - 7) 64 then bif ((↑j : Int) - 7).toNat.blt w.length then bif inR (↑j : Int) 64 then bif j.blt w.length then bif inI ((↑j : Int) + 1) then a ∧ SV.ptr 3 0 = SV.ptr 3 0 ∧ SV.ptr 4 0 = SV.ptr 4 0 ∧ SV.ptr 5 0 = SV.ptr 5 0 ∧ SV.i ((↑j : Int) + 1) = SV.i (↑(j + 1) : Int) ∧ (false = false ∧ Cont.a32 H0 = Cont.a32 H0) ∧ (false = false ∧ Cont.a32 K64 = Cont.a32 K64) ∧ (false = false ∧ Cont.a8 l = Cont.a8 l) ∧ (true = true ∧ Cont.a32 h = Cont.a32 h) ∧ (true = true ∧ Cont.a32 (List.replicate 8 0) = Cont.a32 (List.replicate 8 0)) ∧ (true = true ∧ Cont.a32 (w.set j (w.getD ((↑j : Int) - 16).toNat 0 + (rr (w.getD ((↑j : Int) - 15).toNat 0) (BitVec.ofInt 64 7) ^^^ rr (w.getD ((↑j : Int) - 15).toNat 0) (BitVec.ofInt 64 18) ^^^ w.getD ((↑j : Int) - 15).toNat 0 >>> 3) + w.getD ((↑j : Int) - 7).toNat 0 + (rr (w.getD ((↑j : Int) - 2).toNat 0) (BitVec.ofInt 64 17) ^^^ rr (w.getD ((↑j : Int) - 2).toNat 0) (BitVec.ofInt 64 19) ^^^ w.getD ((↑j : Int) - 2).toNat 0 >>> 10))) = Cont.a32 w') ∧ True else False else False else False else False else False else False else False else False else False else False else False else False else False else False else False else 2 = 2 ∧ SV.ptr 3 0 = SV.ptr 3 0 ∧ SV.ptr 4 0 = SV.ptr 4 0 ∧ SV.ptr 5 0 = SV.ptr 5 0 ∧ (false = false ∧ Cont.a32 H0 = Cont.a32 H0) ∧ (false = false ∧ Cont.a32 K64 = Cont.a32 K64) ∧ (false = false ∧ Cont.a8 l = Cont.a8 l) ∧ (true = true ∧ Cont.a32 h = Cont.a32 h) ∧ (true = true ∧ Cont.a32 (List.replicate 8 0) = Cont.a32 (List.replicate 8 0)) ∧ (true = true ∧ Cont.a32 w = Cont.a32 z) ∧ True) := by kernel_rfl
theorem vr19c (t u z : S8) (h w : List (BitVec 32)) (l : List (BitVec 8)) (j : Nat) (a : Prop) : (frK 177 ((12, .i (j : Nat)) :: q19) fun fr => vround Tryd.prog E6 noL 27 4 fr (N19 l h w t.l) (Kn (B38 l) 4 177 a ((12, .i ((j + 1 : Nat) : Int)) :: q19) (N19 l h w u.l) q19 (N19 l h w z.l))) = (bif ilt (↑j : Int) 64 then bif inR (↑j : Int) 80 then bif j.blt 80 then bif inR (↑j : Int) 64 then bif j.blt w.length then bif inI ((↑j : Int) + 1) then a ∧ SV.ptr 3 0 = SV.ptr 3 0 ∧ SV.ptr 4 0 = SV.ptr 4 0 ∧ SV.ptr 5 0 = SV.ptr 5 0 ∧ SV.ptr 6 0 = SV.ptr 6 0 ∧ SV.ptr 7 0 = SV.ptr 7 0 ∧ SV.i ((↑j : Int) + 1) = SV.i (↑(j + 1) : Int) ∧ (false = false ∧ Cont.a32 H0 = Cont.a32 H0) ∧ (false = false ∧ Cont.a32 K64 = Cont.a32 K64) ∧ (false = false ∧ Cont.a8 l = Cont.a8 l) ∧ (true = true ∧ Cont.a32 h = Cont.a32 h) ∧ (true = true ∧ Cont.a32 (List.replicate 8 0) = Cont.a32 (List.replicate 8 0)) ∧ (true = true ∧ Cont.a32 w = Cont.a32 w) ∧ (true = true ∧ Cont.a64 K80 = Cont.a64 K80) ∧ (true = true ∧ Cont.a32 [t.l.getD 7 0 + (rr (t.l.getD 4 0) (BitVec.ofInt 64 6) ^^^ rr (t.l.getD 4 0) (BitVec.ofInt 64 11) ^^^ rr (t.l.getD 4 0) (BitVec.ofInt 64 25)) + (t.l.getD 6 0 ^^^ t.l.getD 4 0 &&& (t.l.getD 5 0 ^^^ t.l.getD 6 0)) + BitVec.setWidth 32 (K80.getD j 0 >>> 32) + w.getD j 0 + ((rr (t.l.getD 0 0) (BitVec.ofInt 64 2) ^^^ rr (t.l.getD 0 0) (BitVec.ofInt 64 13) ^^^ rr (t.l.getD 0 0) (BitVec.ofInt 64 22)) + (t.l.getD 0 0 &&& t.l.getD 1 0 ||| t.l.getD 2 0 &&& (t.l.getD 0 0 ||| t.l.getD 1 0))), t.l.getD 0 0, t.l.getD 1 0, t.l.getD 2 0, t.l.getD 3 0 + (t.l.getD 7 0 + (rr (t.l.getD 4 0) (BitVec.ofInt 64 6) ^^^ rr (t.l.getD 4 0) (BitVec.ofInt 64 11) ^^^ rr (t.l.getD 4 0) (BitVec.ofInt 64 25)) + (t.l.getD 6 0 ^^^ t.l.getD 4 0 &&& (t.l.getD 5 0 ^^^ t.l.getD 6 0)) + BitVec.setWidth 32 (K80.getD j 0 >>> 32) + w.getD j 0), t.l.getD 4 0, t.l.getD 5 0, t.l.getD 6 0] = Cont.a32 u.l) ∧ True else False else False else False else False else False else 4 = 4 ∧ SV.ptr 3 0 = SV.ptr 3 0 ∧ SV.ptr 4 0 = SV.ptr 4 0 ∧ SV.ptr 5 0 = SV.ptr 5 0 ∧ SV.ptr 6 0 = SV.ptr 6 0 ∧ SV.ptr 7 0 = SV.ptr 7 0 ∧ (false = false ∧ Cont.a32 H0 = Cont.a32 H0) ∧ (false = false ∧ Cont.a32 K64 = Cont.a32 K64) ∧ (false = false ∧ Cont.a8 l = Cont.a8 l) ∧ (true = true ∧ Cont.a32 h = Cont.a32 h) ∧ (true = true ∧ Cont.a32 (List.replicate 8 0) = Cont.a32 (List.replicate 8 0)) ∧ (true = true ∧ Cont.a32 w = Cont.a32 w) ∧ (true = true ∧ Cont.a64 K80 = Cont.a64 K80) ∧ (true = true ∧ Cont.a32 t.l = Cont.a32 z.l) ∧ True) := by kernel_rfl
theorem vr19d (h h' x z w : List (BitVec 32)) (l : List (BitVec 8)) (j : Nat) (a : Prop) : (frK 177 ((15, .i (j : Nat)) :: q19) fun fr => vround Tryd.prog E6 noL 27 6 fr (N19 l h w x) (Kn (B38 l) 6 177 a ((15, .i ((j + 1 : Nat) : Int)) :: q19) (N19 l h' w x) z19 (N19 l z w x))) = (bif ilt (↑j : Int) 8 then bif inR (↑j : Int) 8 then bif j.blt h.length then bif inR (↑j : Int) 8 then bif j.blt x.length then bif inR (↑j : Int) 8 then bif j.blt h.length then bif inI ((↑j : Int) + 1) then a ∧ SV.ptr 3 0 = SV.ptr 3 0 ∧ SV.ptr 4 0 = SV.ptr 4 0 ∧ SV.ptr 5 0 = SV.ptr 5 0 ∧ SV.ptr 6 0 = SV.ptr 6 0 ∧ SV.ptr 7 0 = SV.ptr 7 0 ∧ SV.i ((↑j : Int) + 1) = SV.i (↑(j + 1) : Int) ∧ (false = false ∧ Cont.a32 H0 = Cont.a32 H0) ∧ (false = false ∧ Cont.a32 K64 = Cont.a32 K64) ∧ (false = false ∧ Cont.a8 l = Cont.a8 l) ∧ (true = true ∧ Cont.a32 (h.set j (h.getD j 0 + x.getD j 0)) = Cont.a32 h') ∧ (true = true ∧ Cont.a32 (List.replicate 8 0) = Cont.a32 (List.replicate 8 0)) ∧ (true = true ∧ Cont.a32 w = Cont.a32 w) ∧ (true = true ∧ Cont.a64 K80 = Cont.a64 K80) ∧ (true = true ∧ Cont.a32 x = Cont.a32 x) ∧ True else False else False else False else False else False else False else False else 6 = 6 ∧ SV.ptr 3 0 = SV.ptr 3 0 ∧ SV.ptr 4 0 = SV.ptr 4 0 ∧ (false = false ∧ Cont.a32 H0 = Cont.a32 H0) ∧ (false = false ∧ Cont.a32 K64 = Cont.a32 K64) ∧ (false = false ∧ Cont.a8 l = Cont.a8 l) ∧ (true = true ∧ Cont.a32 h = Cont.a32 z) ∧ (true = true ∧ Cont.a32 (List.replicate 8 0) = Cont.a32 (List.replicate 8 0)) ∧ (true = true ∧ Cont.a32 w = Cont.a32 w) ∧ (true = true ∧ Cont.a64 K80 = Cont.a64 K80) ∧ (true = true ∧ Cont.a32 x = Cont.a32 x) ∧ True) := by kernel_rfl
theorem getD_drop (l : List (BitVec 8)) (off j : Nat) : (l.drop off).getD j 0 = l.getD (off + j) 0 := by
  rw [List.getD_eq_getElem?_getD, List.getElem?_drop, ← List.getD_eq_getElem?_getD]
theorem be_succ (l : List (BitVec 8)) (j : Nat) (h : j < l.length) : be (l.take (j + 1)) = be (l.take j) <<< 8 ||| (l.getD j 0).setWidth 32 := by
  unfold be
  rw [List.take_add_one, getD_get 0 h, Option.toList_some, List.foldl_append]
  rfl
theorem wc_len (B : List (BitVec 8)) (j : Nat) : (wc B j).length = 64 := by simp [wc]
theorem wc_get (B : List (BitVec 8)) (j k : Nat) (h : k < 64) : (wc B j)[k]? = some (be ((B.drop (4 * k)).take (min 4 (j - 4 * k)))) := by simp [wc, h]
theorem wc_getD (B : List (BitVec 8)) (j k : Nat) (h : k < 64) : (wc B j).getD k 0 = be ((B.drop (4 * k)).take (min 4 (j - 4 * k))) := by rw [List.getD_eq_getElem?_getD, wc_get B j k h]; rfl
theorem wc_set (B : List (BitVec 8)) (j : Nat) (h : j < 64) (hB : j < B.length) : (wc B j).set (j / 4) ((wc B j).getD (j / 4) 0 <<< 8 ||| (B.getD j 0).setWidth 32) = wc B (j + 1) := by
  apply List.ext_getElem?
  intro k
  by_cases hk : k < 64
  · by_cases e : j / 4 = k
    · rw [e, List.getElem?_set_self (by rw [wc_len]; exact hk), wc_get B (j + 1) k hk, wc_getD B j k hk]
      have h1 : min 4 (j - 4 * k) = j - 4 * k := by omega
      have h2 : min 4 (j + 1 - 4 * k) = j - 4 * k + 1 := by omega
      rw [h1, h2, be_succ _ _ (by simp; omega), getD_drop]
      congr 4
      omega
    · rw [List.getElem?_set_ne e, wc_get B j k hk, wc_get B (j + 1) k hk]
      have : min 4 (j - 4 * k) = min 4 (j + 1 - 4 * k) := by omega
      rw [this]
  · rw [List.getElem?_eq_none (by simp [wc_len]; omega), List.getElem?_eq_none (by rw [wc_len]; omega)]
theorem wc_zero (B : List (BitVec 8)) : List.replicate 64 0 = wc B 0 := by
  apply List.ext_getElem?
  intro k
  by_cases hk : k < 64
  · rw [wc_get B 0 k hk, List.getElem?_replicate, if_pos hk, Nat.zero_sub, Nat.min_zero, List.take_zero]; rfl
  · rw [List.getElem?_eq_none (by simp; omega), List.getElem?_eq_none (by rw [wc_len]; omega)]
theorem wc_all (B : List (BitVec 8)) : wc B 64 = wb B 16 := by
  apply List.ext_getElem?
  intro k
  by_cases hk : k < 64
  · rw [wc_get B 64 k hk]
    unfold wb
    by_cases h16 : k < 16
    · rw [List.getElem?_append_left (by rw [ext_len, w16_len]; omega)]
      show _ = (w16 B)[k]?
      have : min 4 (64 - 4 * k) = 4 := by omega
      simp [w16, h16, this]
    · rw [List.getElem?_append_right (by rw [ext_len, w16_len]; omega), ext_len, w16_len]
      have : 64 - 4 * k = 0 := by omega
      rw [this, Nat.min_zero, List.take_zero, List.getElem?_replicate, if_pos (by omega)]
      rfl
  · rw [List.getElem?_eq_none (by rw [wc_len]; omega), List.getElem?_eq_none (by rw [wb_len B 16 (by decide) (by decide)]; omega)]
theorem ch_eq (e f g : BitVec 32) : g ^^^ e &&& (f ^^^ g) = e &&& f ^^^ ~~~e &&& g := by
  apply BitVec.eq_of_getLsbD_eq
  intro i hi
  simp only [BitVec.getLsbD_xor, BitVec.getLsbD_and, BitVec.getLsbD_not, hi, decide_true, Bool.true_and]
  cases e.getLsbD i <;> cases f.getLsbD i <;> cases g.getLsbD i <;> rfl
theorem maj_eq (a b c : BitVec 32) : a &&& b ||| c &&& (a ||| b) = a &&& b ^^^ a &&& c ^^^ b &&& c := by
  apply BitVec.eq_of_getLsbD_eq
  intro i hi
  simp only [BitVec.getLsbD_xor, BitVec.getLsbD_and, BitVec.getLsbD_or]
  cases a.getLsbD i <;> cases b.getLsbD i <;> cases c.getLsbD i <;> rfl
theorem rl7 (x : BitVec 32) : rl x (-7) = rr x 7 := BitVec.or_comm (x <<< 25) (x >>> 7)
theorem rl18 (x : BitVec 32) : rl x (-18) = rr x 18 := BitVec.or_comm (x <<< 14) (x >>> 18)
theorem rl17 (x : BitVec 32) : rl x (-17) = rr x 17 := BitVec.or_comm (x <<< 15) (x >>> 17)
theorem rl19 (x : BitVec 32) : rl x (-19) = rr x 19 := BitVec.or_comm (x <<< 13) (x >>> 19)
theorem rl6 (x : BitVec 32) : rl x (-6) = rr x 6 := BitVec.or_comm (x <<< 26) (x >>> 6)
theorem rl11 (x : BitVec 32) : rl x (-11) = rr x 11 := BitVec.or_comm (x <<< 21) (x >>> 11)
theorem rl25 (x : BitVec 32) : rl x (-25) = rr x 25 := BitVec.or_comm (x <<< 7) (x >>> 25)
theorem rl2 (x : BitVec 32) : rl x (-2) = rr x 2 := BitVec.or_comm (x <<< 30) (x >>> 2)
theorem rl13 (x : BitVec 32) : rl x (-13) = rr x 13 := BitVec.or_comm (x <<< 19) (x >>> 13)
theorem rl22 (x : BitVec 32) : rl x (-22) = rr x 22 := BitVec.or_comm (x <<< 10) (x >>> 22)
theorem us_eq (k w : BitVec 32) (t : S8) : t.h + (rr t.e 6 ^^^ rr t.e 11 ^^^ rr t.e 25) + (t.g ^^^ t.e &&& (t.f ^^^ t.g)) + k + w = us k w t := by
  unfold us; rw [rl6, rl11, rl25, ch_eq]
theorem vs_eq (t : S8) : (rr t.a 2 ^^^ rr t.a 13 ^^^ rr t.a 22) + (t.a &&& t.b ||| t.c &&& (t.a ||| t.b)) = vs t := by
  unfold vs; rw [rl2, rl13, rl22, maj_eq]
theorem rnd_doc (k w : BitVec 32) (t : S8) : [t.h + (rr t.e 6 ^^^ rr t.e 11 ^^^ rr t.e 25) + (t.g ^^^ t.e &&& (t.f ^^^ t.g)) + k + w + ((rr t.a 2 ^^^ rr t.a 13 ^^^ rr t.a 22) + (t.a &&& t.b ||| t.c &&& (t.a ||| t.b))), t.a, t.b, t.c, t.d + (t.h + (rr t.e 6 ^^^ rr t.e 11 ^^^ rr t.e 25) + (t.g ^^^ t.e &&& (t.f ^^^ t.g)) + k + w), t.e, t.f, t.g] = (rnd k w t).l := by
  rw [us_eq, vs_eq]; rfl
theorem k_all : ∀ i : Fin 64, (K80.getD i.1 0 >>> 32).setWidth 32 = K64.getD i.1 0 := by decide +kernel
theorem k_hi (i : Nat) (h : i < 64) : (K80.getD i 0 >>> 32).setWidth 32 = K64.getD i 0 := k_all ⟨i, h⟩
theorem addS_comm (s t : S8) : addS s t = addS t s := by
  unfold addS
  simp [BitVec.add_comm]
theorem loop19a (s : S8) (l : List (BitVec 8)) (off cap : Nat) (hl : off + 64 ≤ l.length) : ∀ fr M K, vLoop (B38 l) 177 ((6, .i 0) :: p19 off cap) (M19 l s.l (wc (l.drop off) 0)) r19 (M19 l s.l (wc (l.drop off) 64)) fr M K → Wp Tryd.prog G (B38 l) (loopOf Tryd.prog 27 0) fr M K := by
  refine loop_next e6_ok mixed (noL_ok _ _ _ _) (by show 2 ≤ 3; decide) (by kernel_rfl) (fun j => (6, .i (j : Nat)) :: p19 off cap) (fun j => M19 l s.l (wc (l.drop off) j)) (fun j => j ≤ 64) (fun j => 64 - j) (fun j => j + 1) 0 (Nat.zero_le _) fun j hj => of_eq (vr19a s.l (wc (l.drop off) j) (wc (l.drop off) (j + 1)) (wc (l.drop off) 64) l off cap j _) ?_
  cases hc : ilt (j : Int) 64
  · have hj2 : j = 64 := by rw [ilt_eq] at hc; have := of_decide_eq_false hc; omega
    subst hj2
    simp
  · have hj2 : j < 64 := by rw [ilt_eq] at hc; have := of_decide_eq_true hc; omega
    have e : (j : Int).tdiv 4 = ((j / 4 : Nat) : Int) := tdiv_cast j 4
    have h2 := wc_set (l.drop off) j hj2 (by simp; omega)
    rw [getD_drop, Nat.add_comm off j] at h2
    rw [e, Int.toNat_natCast, h2, wc_len]
    refine bif_of (inI_iff.2 (by omega)) (bif_of (inI_iff.2 (by omega)) (bif_of (inR_nat (by omega)) (bif_of (blt_of (by omega)) (bif_of (inR_nat (by omega)) (bif_of (blt_of (by omega)) (bif_of (inR_nat (by omega)) (bif_of (blt_of (by omega)) (bif_of (inI_iff.2 (by omega)) ?_))))))))
    refine ⟨⟨by omega, by omega⟩, ?_⟩
    simp
theorem loop19b (s : S8) (l b : List (BitVec 8)) : ∀ fr M K, vLoop (B38 l) 177 ((7, .i 16) :: r19) (M19 l s.l (wb b 16)) r19 (M19 l s.l (wb b 64)) fr M K → Wp Tryd.prog G (B38 l) (loopOf Tryd.prog 27 2) fr M K := by
  refine loop_next e6_ok mixed (noL_ok _ _ _ _) (by show 2 ≤ 3; decide) (by kernel_rfl) (fun j => (7, .i (j : Nat)) :: r19) (fun j => M19 l s.l (wb b j)) (fun j => 16 ≤ j ∧ j ≤ 64) (fun j => 64 - j) (fun j => j + 1) 16 (by decide) fun j hj => of_eq (vr19b s.l (wb b j) (wb b (j + 1)) (wb b 64) l j _) ?_
  cases hc : ilt (j : Int) 64
  · have hj2 : j = 64 := by rw [ilt_eq] at hc; have := of_decide_eq_false hc; omega
    subst hj2
    simp
  · have hj2 : j < 64 := by rw [ilt_eq] at hc; have := of_decide_eq_true hc; omega
    have e15 : ((j : Int) - 15).toNat = j - 15 := by omega
    have e2 : ((j : Int) - 2).toNat = j - 2 := by omega
    have e16 : ((j : Int) - 16).toNat = j - 16 := by omega
    have e7 : ((j : Int) - 7).toNat = j - 7 := by omega
    have hn := wb_set b j hj.1 hj2
    unfold nw s0 s1 at hn
    rw [rl7, rl18, rl17, rl19] at hn
    rw [e15, e2, e16, e7, wb_len b j hj.1 hj.2]
    refine bif_of (inI_iff.2 (by omega)) (bif_of (inR_iff.2 (by omega)) (bif_of (blt_of (by omega)) (bif_of (inI_iff.2 (by omega)) (bif_of (inR_iff.2 (by omega)) (bif_of (blt_of (by omega)) (bif_of (inI_iff.2 (by omega)) (bif_of (inR_iff.2 (by omega)) (bif_of (blt_of (by omega)) (bif_of (inI_iff.2 (by omega)) (bif_of (inR_iff.2 (by omega)) (bif_of (blt_of (by omega)) (bif_of (inR_nat (by omega)) (bif_of (blt_of (by omega)) (bif_of (inI_iff.2 (by omega)) ?_))))))))))))))
    exact ⟨⟨by omega, by omega⟩, rfl, rfl, rfl, rfl, ⟨rfl, rfl⟩, ⟨rfl, rfl⟩, ⟨rfl, rfl⟩, ⟨rfl, rfl⟩, ⟨rfl, rfl⟩, ⟨rfl, congrArg Cont.a32 hn⟩, trivial⟩
theorem loop19c (s : S8) (l : List (BitVec 8)) (h w : List (BitVec 32)) (hw : w.length = 64) : ∀ fr M K, vLoop (B38 l) 177 ((12, .i 0) :: q19) (N19 l h w s.l) q19 (N19 l h w (rounds w s 64).l) fr M K → Wp Tryd.prog G (B38 l) (loopOf Tryd.prog 27 4) fr M K := by
  refine loop_next e6_ok mixed (noL_ok _ _ _ _) (by show 2 ≤ 3; decide) (by kernel_rfl) (fun j => (12, .i (j : Nat)) :: q19) (fun j => N19 l h w (rounds w s j).l) (fun j => j ≤ 64) (fun j => 64 - j) (fun j => j + 1) 0 (Nat.zero_le _) fun j hj => of_eq (vr19c (rounds w s j) (rounds w s (j + 1)) (rounds w s 64) h w l j _) ?_
  cases hc : ilt (j : Int) 64
  · have hj2 : j = 64 := by rw [ilt_eq] at hc; have := of_decide_eq_false hc; omega
    subst hj2
    simp
  · have hj2 : j < 64 := by rw [ilt_eq] at hc; have := of_decide_eq_true hc; omega
    refine bif_of (inR_nat (by omega)) (bif_of (blt_of (by omega)) (bif_of (inR_nat (by omega)) (bif_of (blt_of (by omega)) (bif_of (inI_iff.2 (by omega)) ?_))))
    refine ⟨⟨by omega, by omega⟩, rfl, rfl, rfl, rfl, rfl, rfl, ⟨rfl, rfl⟩, ⟨rfl, rfl⟩, ⟨rfl, rfl⟩, ⟨rfl, rfl⟩, ⟨rfl, rfl⟩, ⟨rfl, rfl⟩, ⟨rfl, rfl⟩, ⟨rfl, ?_⟩, trivial⟩
    rw [show (rounds w s (j + 1)).l = (rnd (K64.getD j 0) (w.getD j 0) (rounds w s j)).l from rfl, ← k_hi j hj2]
    exact congrArg Cont.a32 (rnd_doc _ (w.getD j 0) (rounds w s j))
theorem addM_set (s t : S8) (j : Nat) (h : j < 8) : (addM s t j).set j ((addM s t j).getD j 0 + t.l.getD j 0) = addM s t (j + 1) := by
  have : j = 0 ∨ j = 1 ∨ j = 2 ∨ j = 3 ∨ j = 4 ∨ j = 5 ∨ j = 6 ∨ j = 7 := by omega
  rcases this with rfl | rfl | rfl | rfl | rfl | rfl | rfl | rfl <;> rfl
theorem addM_len (s t : S8) (j : Nat) (h : j ≤ 8) : (addM s t j).length = 8 := by
  simp [addM, S8.l]; omega
theorem loop19d (s t : S8) (l : List (BitVec 8)) (w : List (BitVec 32)) : ∀ fr M K, vLoop (B38 l) 177 ((15, .i 0) :: q19) (N19 l s.l w t.l) z19 (N19 l (addS s t).l w t.l) fr M K → Wp Tryd.prog G (B38 l) (loopOf Tryd.prog 27 6) fr M K := by
  refine loop_next e6_ok mixed (noL_ok _ _ _ _) (by show 2 ≤ 3; decide) (by kernel_rfl) (fun j => (15, .i (j : Nat)) :: q19) (fun j => N19 l (addM s t j) w t.l) (fun j => j ≤ 8) (fun j => 8 - j) (fun j => j + 1) 0 (Nat.zero_le _) fun j hj => of_eq (vr19d (addM s t j) (addM s t (j + 1)) t.l (addS s t).l w l j _) ?_
  cases hc : ilt (j : Int) 8
  · have hj2 : j = 8 := by rw [ilt_eq] at hc; have := of_decide_eq_false hc; omega
    subst hj2
    have : addM s t 8 = (addS s t).l := rfl
    simp [this]
  · have hj2 : j < 8 := by rw [ilt_eq] at hc; have := of_decide_eq_true hc; omega
    have ht : t.l.length = 8 := rfl
    rw [addM_set s t j hj2, addM_len s t j hj, ht]
    refine bif_of (inR_nat (by omega)) (bif_of (blt_of (by omega)) (bif_of (inR_nat (by omega)) (bif_of (blt_of (by omega)) (bif_of (inR_nat (by omega)) (bif_of (blt_of (by omega)) (bif_of (inI_iff.2 (by omega)) ?_))))))
    refine ⟨⟨by omega, by omega⟩, ?_⟩
    simp
theorem next_w (s : S8) (b : List (BitVec 8)) : addS s (rounds (wb b 64) s 64) = nextS s b := by rw [wb64, addS_comm]; rfl
theorem loop19 (s : S8) (l : List (BitVec 8)) (off cap : Nat) (hl : off + 64 ≤ l.length) : LOk Tryd.prog G (B38 l) 27 (L19 s (rounds (wb (l.drop off) 64) s 64) l off cap) :=
  LT.add_ok (LT.add_ok (LT.add_ok (LT.add_ok (noL_ok _ _ _ _) (loop19a s l off cap hl)) (loop19b s l (l.drop off))) (loop19c s l s.l _ (wb_len _ 64 (by decide) (by decide)))) (loop19d s _ l _)
def cBlock : List SV → List Cont → Option (Bool × SV)
  | [.a32 [a, b, c, d, e, f, g, h], .sl k off len cap], [_, .a8 l] => some (Nat.beq len 64 && Nat.ble (off + 64) l.length, .a32 (nextS ⟨a, b, c, d, e, f, g, h⟩ (l.drop off)).l)
  | _, _ => none
theorem block_ok : POk Tryd.prog G 27 cBlock := by
  intro args acs r h β M w hR hw ha
  unfold cBlock at h
  split at h
  · rename_i a b c d e f g h' k off len cap c0 l
    simp only [Option.some.injEq, Prod.mk.injEq, Bool.and_eq_true] at h
    obtain ⟨⟨h1, h2⟩, rfl⟩ := h
    obtain rfl := Nat.eq_of_beq_eq_true h1
    simp only [List.map_cons, List.map_nil, List.cons.injEq, and_true] at ha
    refine pure1 (args0 := [.a32 [a, b, c, d, e, f, g, h'], .sl 2 off 64 cap]) (c := .a8 l) (k := k) (vf_ok (M := B38 l) e6_ok mixed (loop19 ⟨a, b, c, d, e, f, g, h'⟩ l off cap (Nat.le_of_ble_eq_true h2)) (of_eq (vc19 ⟨a, b, c, d, e, f, g, h'⟩ _ l off cap _) ?_)) rfl rfl rfl rfl rfl (a8_ren l) hR (tgt_some ha.2.symm rfl)
    simp only [wc_zero (l.drop off), wc_all, next_w]
    simp [B38, M19]
  · cases h
def T7 : PT := T6.add 27 cBlock
def E7 : Env := ⟨G, T7, C2⟩
theorem e7_ok : EnvOk Tryd.prog E7 := ⟨PT.add_ok e6_ok.T block_ok, e6_ok.C⟩
end Go.Proofs.YtmalnjdacmlcdaaDoor
