/-
  sha: the words behind one more block, as the document reckons them. No statement is proved here.
-/
import Derived.Test.YtdfghknonbmadaaGreatDoorDqB
namespace Go.Proofs.YtdfghknonbmadaaGreatDoor
namespace Sh
open Go.RowKit
set_option linter.unusedVariables false
set_option linter.unusedSimpArgs false
set_option maxRecDepth 100000
theorem vc12 (K : SV → Mm → Prop) : (vf Tryz.prog EU noL 50 [] G K) = (K (SV.a64 [BitVec.ofInt 64 7640891576956012808, BitVec.ofInt 64 13503953896175478587, BitVec.ofInt 64 4354685564936845355, BitVec.ofInt 64 11912009170470909681, BitVec.ofInt 64 5840696475078001361, BitVec.ofInt 64 11170449401992604703, BitVec.ofInt 64 2270897969802886507, BitVec.ofInt 64 6620516959819538809]) [{ rw := false, c := Cont.a64 BEG }, { rw := false, c := Cont.a64 PRI }, { rw := false, c := Cont.a64 CON }, { rw := false, c := Cont.a64 WHO }, { rw := false, c := Cont.a64 ROM }, { rw := true, c := Cont.a64 [BitVec.ofInt 64 7640891576956012808, BitVec.ofInt 64 13503953896175478587, BitVec.ofInt 64 4354685564936845355, BitVec.ofInt 64 11912009170470909681, BitVec.ofInt 64 5840696475078001361, BitVec.ofInt 64 11170449401992604703, BitVec.ofInt 64 2270897969802886507, BitVec.ofInt 64 6620516959819538809] }]) := by kernel_rfl
theorem vc10 (K : SV → Mm → Prop) : (vf Tryz.prog EU noL 88 [] G K) = (K (SV.a64 [BitVec.ofInt 64 4794697086780616226, BitVec.ofInt 64 8158064640168781261, BitVec.ofInt 64 13096744586834688815, BitVec.ofInt 64 16840607885511220156, BitVec.ofInt 64 4131703408338449720, BitVec.ofInt 64 6480981068601479193, BitVec.ofInt 64 10538285296894168987, BitVec.ofInt 64 12329834152419229976, BitVec.ofInt 64 15566598209576043074, BitVec.ofInt 64 1334009975649890238, BitVec.ofInt 64 2608012711638119052, BitVec.ofInt 64 6128411473006802146, BitVec.ofInt 64 8268148722764581231, BitVec.ofInt 64 9286055187155687089, BitVec.ofInt 64 11230858885718282805, BitVec.ofInt 64 13951009754708518548, BitVec.ofInt 64 16472876342353939154, BitVec.ofInt 64 17275323862435702243, BitVec.ofInt 64 1135362057144423861, BitVec.ofInt 64 2597628984639134821, BitVec.ofInt 64 3308224258029322869, BitVec.ofInt 64 5365058923640841347, BitVec.ofInt 64 6679025012923562964, BitVec.ofInt 64 8573033837759648693, BitVec.ofInt 64 10970295158949994411, BitVec.ofInt 64 12119686244451234320, BitVec.ofInt 64 12683024718118986047, BitVec.ofInt 64 13788192230050041572, BitVec.ofInt 64 14330467153632333762, BitVec.ofInt 64 15395433587784984357, BitVec.ofInt 64 489312712824947311, BitVec.ofInt 64 1452737877330783856, BitVec.ofInt 64 2861767655752347644, BitVec.ofInt 64 3322285676063803686, BitVec.ofInt 64 5560940570517711597, BitVec.ofInt 64 5996557281743188959, BitVec.ofInt 64 7280758554555802590, BitVec.ofInt 64 8532644243296465576, BitVec.ofInt 64 9350256976987008742, BitVec.ofInt 64 10552545826968843579, BitVec.ofInt 64 11727347734174303076, BitVec.ofInt 64 12113106623233404929, BitVec.ofInt 64 14000437183269869457, BitVec.ofInt 64 14369950271660146224, BitVec.ofInt 64 15101387698204529176, BitVec.ofInt 64 15463397548674623760, BitVec.ofInt 64 17586052441742319658, BitVec.ofInt 64 1182934255886127544, BitVec.ofInt 64 1847814050463011016, BitVec.ofInt 64 2177327727835720531, BitVec.ofInt 64 2830643537854262169, BitVec.ofInt 64 3796741975233480872, BitVec.ofInt 64 4115178125766777443, BitVec.ofInt 64 5681478168544905931, BitVec.ofInt 64 6601373596472566643, BitVec.ofInt 64 7507060721942968483, BitVec.ofInt 64 8399075790359081724, BitVec.ofInt 64 8693463985226723168, BitVec.ofInt 64 9568029438360202098, BitVec.ofInt 64 10144078919501101548, BitVec.ofInt 64 10430055236837252648, BitVec.ofInt 64 11840083180663258601, BitVec.ofInt 64 13761210420658862357, BitVec.ofInt 64 14299343276471374635, BitVec.ofInt 64 14566680578165727644, BitVec.ofInt 64 15097957966210449927, BitVec.ofInt 64 16922976911328602910, BitVec.ofInt 64 17689382322260857208, BitVec.ofInt 64 500013540394364858, BitVec.ofInt 64 748580250866718886, BitVec.ofInt 64 1242879168328830382, BitVec.ofInt 64 1977374033974150939, BitVec.ofInt 64 2944078676154940804, BitVec.ofInt 64 3659926193048069267, BitVec.ofInt 64 4368137639120453308, BitVec.ofInt 64 4836135668995329356, BitVec.ofInt 64 5532061633213252278, BitVec.ofInt 64 6448918945643986474, BitVec.ofInt 64 6902733635092675308, BitVec.ofInt 64 7801388544844847127]) [{ rw := false, c := Cont.a64 BEG }, { rw := false, c := Cont.a64 PRI }, { rw := false, c := Cont.a64 CON }, { rw := false, c := Cont.a64 WHO }, { rw := false, c := Cont.a64 ROM }, { rw := true, c := Cont.a64 [BitVec.ofInt 64 4794697086780616226, BitVec.ofInt 64 8158064640168781261, BitVec.ofInt 64 13096744586834688815, BitVec.ofInt 64 16840607885511220156, BitVec.ofInt 64 4131703408338449720, BitVec.ofInt 64 6480981068601479193, BitVec.ofInt 64 10538285296894168987, BitVec.ofInt 64 12329834152419229976, BitVec.ofInt 64 15566598209576043074, BitVec.ofInt 64 1334009975649890238, BitVec.ofInt 64 2608012711638119052, BitVec.ofInt 64 6128411473006802146, BitVec.ofInt 64 8268148722764581231, BitVec.ofInt 64 9286055187155687089, BitVec.ofInt 64 11230858885718282805, BitVec.ofInt 64 13951009754708518548, BitVec.ofInt 64 16472876342353939154, BitVec.ofInt 64 17275323862435702243, BitVec.ofInt 64 1135362057144423861, BitVec.ofInt 64 2597628984639134821, BitVec.ofInt 64 3308224258029322869, BitVec.ofInt 64 5365058923640841347, BitVec.ofInt 64 6679025012923562964, BitVec.ofInt 64 8573033837759648693, BitVec.ofInt 64 10970295158949994411, BitVec.ofInt 64 12119686244451234320, BitVec.ofInt 64 12683024718118986047, BitVec.ofInt 64 13788192230050041572, BitVec.ofInt 64 14330467153632333762, BitVec.ofInt 64 15395433587784984357, BitVec.ofInt 64 489312712824947311, BitVec.ofInt 64 1452737877330783856, BitVec.ofInt 64 2861767655752347644, BitVec.ofInt 64 3322285676063803686, BitVec.ofInt 64 5560940570517711597, BitVec.ofInt 64 5996557281743188959, BitVec.ofInt 64 7280758554555802590, BitVec.ofInt 64 8532644243296465576, BitVec.ofInt 64 9350256976987008742, BitVec.ofInt 64 10552545826968843579, BitVec.ofInt 64 11727347734174303076, BitVec.ofInt 64 12113106623233404929, BitVec.ofInt 64 14000437183269869457, BitVec.ofInt 64 14369950271660146224, BitVec.ofInt 64 15101387698204529176, BitVec.ofInt 64 15463397548674623760, BitVec.ofInt 64 17586052441742319658, BitVec.ofInt 64 1182934255886127544, BitVec.ofInt 64 1847814050463011016, BitVec.ofInt 64 2177327727835720531, BitVec.ofInt 64 2830643537854262169, BitVec.ofInt 64 3796741975233480872, BitVec.ofInt 64 4115178125766777443, BitVec.ofInt 64 5681478168544905931, BitVec.ofInt 64 6601373596472566643, BitVec.ofInt 64 7507060721942968483, BitVec.ofInt 64 8399075790359081724, BitVec.ofInt 64 8693463985226723168, BitVec.ofInt 64 9568029438360202098, BitVec.ofInt 64 10144078919501101548, BitVec.ofInt 64 10430055236837252648, BitVec.ofInt 64 11840083180663258601, BitVec.ofInt 64 13761210420658862357, BitVec.ofInt 64 14299343276471374635, BitVec.ofInt 64 14566680578165727644, BitVec.ofInt 64 15097957966210449927, BitVec.ofInt 64 16922976911328602910, BitVec.ofInt 64 17689382322260857208, BitVec.ofInt 64 500013540394364858, BitVec.ofInt 64 748580250866718886, BitVec.ofInt 64 1242879168328830382, BitVec.ofInt 64 1977374033974150939, BitVec.ofInt 64 2944078676154940804, BitVec.ofInt 64 3659926193048069267, BitVec.ofInt 64 4368137639120453308, BitVec.ofInt 64 4836135668995329356, BitVec.ofInt 64 5532061633213252278, BitVec.ofInt 64 6448918945643986474, BitVec.ofInt 64 6902733635092675308, BitVec.ofInt 64 7801388544844847127] }]) := by kernel_rfl
def cFirst : List SV → List Cont → Option (Bool × SV)
 | [], _ => some (true, .a64 H0)
 | _, _ => none
def cRounds : List SV → List Cont → Option (Bool × SV)
 | [], _ => some (true, .a64 K80)
 | _, _ => none
theorem first_ok : POk Tryz.prog G 50 cFirst := by
 intro args acs r h β M w hR hw ha
 unfold cFirst at h
 split at h
 ·simp only [Option.some.injEq, Prod.mk.injEq, true_and] at h
  subst h
  refine pure0 (vf_ok eu_ok mixed (noL_ok _ _ _ _) (of_eq (vc12 _) ?_)) rfl rfl hR
  exact congrArg SV.a64 (by kernel_rfl)
 ·cases h
theorem rounds_ok : POk Tryz.prog G 88 cRounds := by
 intro args acs r h β M w hR hw ha
 unfold cRounds at h
 split at h
 ·simp only [Option.some.injEq, Prod.mk.injEq, true_and] at h
  subst h
  refine pure0 (vf_ok eu_ok mixed (noL_ok _ _ _ _) (of_eq (vc10 _) ?_)) rfl rfl hR
  exact congrArg SV.a64 (by kernel_rfl)
 ·cases h
def EV : Env := ⟨G, (((noT.add 89 cRight).add 87 cWord).add 50 cFirst).add 88 cRounds, noC⟩
theorem ev_ok : EnvOk Tryz.prog EV := ⟨PT.add_ok (PT.add_ok (PT.add_ok (PT.add_ok (noT_ok _ _) right_ok) word_ok) first_ok) rounds_ok, noC_ok _ _⟩
def B17 (l : List (BitVec 8)) : Mm := [⟨false, .a64 BEG⟩, ⟨false, .a64 PRI⟩, ⟨false, .a64 CON⟩, ⟨false, .a64 WHO⟩, ⟨false, .a64 ROM⟩, ⟨false, .a8 l⟩]
def M17 (l : List (BitVec 8)) (h : List (BitVec 64)) (w : List (BitVec 64)) : Mm := [⟨false, .a64 BEG⟩, ⟨false, .a64 PRI⟩, ⟨false, .a64 CON⟩, ⟨false, .a64 WHO⟩, ⟨false, .a64 ROM⟩, ⟨false, .a8 l⟩, ⟨true, .a64 h⟩, ⟨true, .a64 (List.replicate 8 0)⟩, ⟨true, .a64 w⟩]
def N17 (l : List (BitVec 8)) (h w x : List (BitVec 64)) : Mm := [⟨false, .a64 BEG⟩, ⟨false, .a64 PRI⟩, ⟨false, .a64 CON⟩, ⟨false, .a64 WHO⟩, ⟨false, .a64 ROM⟩, ⟨false, .a8 l⟩, ⟨true, .a64 h⟩, ⟨true, .a64 (List.replicate 8 0)⟩, ⟨true, .a64 w⟩, ⟨true, .a64 K80⟩, ⟨true, .a64 x⟩]
def wc (B : List (BitVec 8)) (j : Nat) : List (BitVec 64) := (List.range 80).map fun k => be ((B.drop (8 * k)).take (min 8 (j - 8 * k)))
def p17 (off cap : Nat) : List (Nat × SV) := [(1, .sl 5 off 128 cap), (2, .ptr 6 0), (4, .ptr 7 0), (5, .ptr 8 0)]
def r17 : List (Nat × SV) := [(2, .ptr 6 0), (4, .ptr 7 0), (5, .ptr 8 0)]
def q17 : List (Nat × SV) := [(2, .ptr 6 0), (4, .ptr 7 0), (5, .ptr 8 0), (8, .ptr 9 0), (9, .ptr 10 0)]
def z17 : List (Nat × SV) := [(2, .ptr 6 0), (4, .ptr 7 0)]
def addN (s t : S8) (j : Nat) : List (BitVec 64) := (addS s t).l.take j ++ s.l.drop j
def L17 (s : S8) (l : List (BitVec 8)) (off cap : Nat) : LT := (((noL.add 0 (vLoop (B17 l) 141 ((6, .i 0) :: p17 off cap) (M17 l s.l (wc (l.drop off) 0)) r17 (M17 l s.l (wc (l.drop off) 128)))).add 2 (vLoop (B17 l) 141 ((7, .i 16) :: r17) (M17 l s.l (wb (l.drop off) 16)) r17 (M17 l s.l (wb (l.drop off) 80)))).add 4 (vLoop (B17 l) 141 ((10, .i 0) :: q17) (N17 l s.l (wb (l.drop off) 80) s.l) q17 (N17 l s.l (wb (l.drop off) 80) (rounds (wb (l.drop off) 80) s 80).l))).add 6 (vLoop (B17 l) 141 ((13, .i 0) :: q17) (N17 l s.l (wb (l.drop off) 80) (rounds (wb (l.drop off) 80) s 80).l) z17 (N17 l (nextS s (l.drop off)).l (wb (l.drop off) 80) (rounds (wb (l.drop off) 80) s 80).l))
theorem vc17 (s : S8) (l : List (BitVec 8)) (off cap : Nat) (K : SV → Mm → Prop) : (vf Tryz.prog EV (L17 s l off cap) 51 [.a64 s.l, .sl 5 off 128 cap] (B17 l) K) = (loopOf Tryz.prog 51 0 = loopOf Tryz.prog 51 0 ∧ SV.sl 5 off 128 cap = SV.sl 5 off 128 cap ∧ SV.ptr (List.length (B17 l)) 0 = SV.ptr 6 0 ∧ SV.ptr (0 + 1 + 1 + 1 + 1 + 1 + 1 + 1) 0 = SV.ptr 7 0 ∧ SV.ptr (0 + 1 + 1 + 1 + 1 + 1 + 1 + 1 + 1) 0 = SV.ptr 8 0 ∧ SV.i 0 = SV.i 0 ∧ (false = false ∧ Cont.a64 BEG = Cont.a64 BEG) ∧ (false = false ∧ Cont.a64 PRI = Cont.a64 PRI) ∧ (false = false ∧ Cont.a64 CON = Cont.a64 CON) ∧ (false = false ∧ Cont.a64 WHO = Cont.a64 WHO) ∧ (false = false ∧ Cont.a64 ROM = Cont.a64 ROM) ∧ (false = false ∧ Cont.a8 l = Cont.a8 l) ∧ (true = true ∧ Cont.a64 s.l = Cont.a64 s.l) ∧ (true = true ∧ Cont.a64 (List.replicate 8 0) = Cont.a64 (List.replicate 8 0)) ∧ (true = true ∧ Cont.a64 (List.replicate 80 0) = Cont.a64 (wc (List.drop off l) 0)) ∧ loopOf Tryz.prog 51 2 = loopOf Tryz.prog 51 2 ∧ SV.ptr 6 0 = SV.ptr 6 0 ∧ SV.ptr 7 0 = SV.ptr 7 0 ∧ SV.ptr 8 0 = SV.ptr 8 0 ∧ SV.i 16 = SV.i 16 ∧ (false = false ∧ Cont.a64 BEG = Cont.a64 BEG) ∧ (false = false ∧ Cont.a64 PRI = Cont.a64 PRI) ∧ (false = false ∧ Cont.a64 CON = Cont.a64 CON) ∧ (false = false ∧ Cont.a64 WHO = Cont.a64 WHO) ∧ (false = false ∧ Cont.a64 ROM = Cont.a64 ROM) ∧ (false = false ∧ Cont.a8 l = Cont.a8 l) ∧ (true = true ∧ Cont.a64 s.l = Cont.a64 s.l) ∧ (true = true ∧ Cont.a64 (List.replicate 8 0) = Cont.a64 (List.replicate 8 0)) ∧ (true = true ∧ Cont.a64 (wc (List.drop off l) 128) = Cont.a64 (wb (List.drop off l) 16)) ∧ loopOf Tryz.prog 51 4 = loopOf Tryz.prog 51 4 ∧ SV.ptr 6 0 = SV.ptr 6 0 ∧ SV.ptr 7 0 = SV.ptr 7 0 ∧ SV.ptr 8 0 = SV.ptr 8 0 ∧ SV.ptr (List.length (M17 l s.l (wb (List.drop off l) 80))) 0 = SV.ptr 9 0 ∧ SV.ptr (0 + 1 + 1 + 1 + 1 + 1 + 1 + 1 + 1 + 1 + 1) 0 = SV.ptr 10 0 ∧ SV.i 0 = SV.i 0 ∧ (false = false ∧ Cont.a64 BEG = Cont.a64 BEG) ∧ (false = false ∧ Cont.a64 PRI = Cont.a64 PRI) ∧ (false = false ∧ Cont.a64 CON = Cont.a64 CON) ∧ (false = false ∧ Cont.a64 WHO = Cont.a64 WHO) ∧ (false = false ∧ Cont.a64 ROM = Cont.a64 ROM) ∧ (false = false ∧ Cont.a8 l = Cont.a8 l) ∧ (true = true ∧ Cont.a64 s.l = Cont.a64 s.l) ∧ (true = true ∧ Cont.a64 (List.replicate 8 0) = Cont.a64 (List.replicate 8 0)) ∧ (true = true ∧ Cont.a64 (wb (List.drop off l) 80) = Cont.a64 (wb (List.drop off l) 80)) ∧ (true = true ∧ Cont.a64 K80 = Cont.a64 K80) ∧ (true = true ∧ Cont.a64 s.l = Cont.a64 s.l) ∧ loopOf Tryz.prog 51 6 = loopOf Tryz.prog 51 6 ∧ SV.ptr 6 0 = SV.ptr 6 0 ∧ SV.ptr 7 0 = SV.ptr 7 0 ∧ SV.ptr 8 0 = SV.ptr 8 0 ∧ SV.ptr 9 0 = SV.ptr 9 0 ∧ SV.ptr 10 0 = SV.ptr 10 0 ∧ SV.i 0 = SV.i 0 ∧ (false = false ∧ Cont.a64 BEG = Cont.a64 BEG) ∧ (false = false ∧ Cont.a64 PRI = Cont.a64 PRI) ∧ (false = false ∧ Cont.a64 CON = Cont.a64 CON) ∧ (false = false ∧ Cont.a64 WHO = Cont.a64 WHO) ∧ (false = false ∧ Cont.a64 ROM = Cont.a64 ROM) ∧ (false = false ∧ Cont.a8 l = Cont.a8 l) ∧ (true = true ∧ Cont.a64 s.l = Cont.a64 s.l) ∧ (true = true ∧ Cont.a64 (List.replicate 8 0) = Cont.a64 (List.replicate 8 0)) ∧ (true = true ∧ Cont.a64 (wb (List.drop off l) 80) = Cont.a64 (wb (List.drop off l) 80)) ∧ (true = true ∧ Cont.a64 K80 = Cont.a64 K80) ∧ (true = true ∧ Cont.a64 (rounds (wb (List.drop off l) 80) s 80).l = Cont.a64 (rounds (wb (List.drop off l) 80) s 80).l) ∧ K (SV.a64 (nextS s (List.drop off l)).l) [{ rw := false, c := Cont.a64 BEG }, { rw := false, c := Cont.a64 PRI }, { rw := false, c := Cont.a64 CON }, { rw := false, c := Cont.a64 WHO }, { rw := false, c := Cont.a64 ROM }, { rw := false, c := Cont.a8 l }, { rw := true, c := Cont.a64 (nextS s (List.drop off l)).l }, { rw := true, c := Cont.a64 (nextS s (List.drop off l)).l }, { rw := true, c := Cont.a64 (wb (List.drop off l) 80) }, { rw := true, c := Cont.a64 K80 }, { rw := true, c := Cont.a64 (rounds (wb (List.drop off l) 80) s 80).l }]) := by kernel_rfl
theorem vr17a (h w w' z : List (BitVec 64)) (l : List (BitVec 8)) (off cap j : Nat) (a : Prop) : (frK 141 ((6, .i (j : Nat)) :: p17 off cap) fun fr => vround Tryz.prog EV noL 51 0 fr (M17 l h w) (Kn (B17 l) 0 141 a ((6, .i ((j + 1 : Nat) : Int)) :: p17 off cap) (M17 l h w') r17 (M17 l h z))) = (bif ilt (↑j : Int) 128 then bif inI (↑j : Int) then bif inI (↑j : Int) then bif inR ((↑j : Int).tdiv 8) 80 then bif ((↑j : Int).tdiv 8).toNat.blt w.length then bif inR (↑j : Int) 128 then bif (j + off).blt l.length then bif inR ((↑j : Int).tdiv 8) 80 then bif ((↑j : Int).tdiv 8).toNat.blt w.length then bif inI ((↑j : Int) + 1) then a ∧ SV.sl 5 off 128 cap = SV.sl 5 off 128 cap ∧ SV.ptr 6 0 = SV.ptr 6 0 ∧ SV.ptr 7 0 = SV.ptr 7 0 ∧ SV.ptr 8 0 = SV.ptr 8 0 ∧ SV.i ((↑j : Int) + 1) = SV.i (↑(j + 1) : Int) ∧ (false = false ∧ Cont.a64 BEG = Cont.a64 BEG) ∧ (false = false ∧ Cont.a64 PRI = Cont.a64 PRI) ∧ (false = false ∧ Cont.a64 CON = Cont.a64 CON) ∧ (false = false ∧ Cont.a64 WHO = Cont.a64 WHO) ∧ (false = false ∧ Cont.a64 ROM = Cont.a64 ROM) ∧ (false = false ∧ Cont.a8 l = Cont.a8 l) ∧ (true = true ∧ Cont.a64 h = Cont.a64 h) ∧ (true = true ∧ Cont.a64 (List.replicate 8 0) = Cont.a64 (List.replicate 8 0)) ∧ (true = true ∧ Cont.a64 (w.set ((↑j : Int).tdiv 8).toNat (w.getD ((↑j : Int).tdiv 8).toNat 0 <<< 8 ||| BitVec.setWidth 64 (l.getD (j + off) 0))) = Cont.a64 w') ∧ True else False else False else False else False else False else False else False else False else False else 0 = 0 ∧ SV.ptr 6 0 = SV.ptr 6 0 ∧ SV.ptr 7 0 = SV.ptr 7 0 ∧ SV.ptr 8 0 = SV.ptr 8 0 ∧ (false = false ∧ Cont.a64 BEG = Cont.a64 BEG) ∧ (false = false ∧ Cont.a64 PRI = Cont.a64 PRI) ∧ (false = false ∧ Cont.a64 CON = Cont.a64 CON) ∧ (false = false ∧ Cont.a64 WHO = Cont.a64 WHO) ∧ (false = false ∧ Cont.a64 ROM = Cont.a64 ROM) ∧ (false = false ∧ Cont.a8 l = Cont.a8 l) ∧ (true = true ∧ Cont.a64 h = Cont.a64 h) ∧ (true = true ∧ Cont.a64 (List.replicate 8 0) = Cont.a64 (List.replicate 8 0)) ∧ (true = true ∧ Cont.a64 w = Cont.a64 z) ∧ True) := by kernel_rfl
theorem vr17b (h w w' z : List (BitVec 64)) (l : List (BitVec 8)) (j : Nat) (a : Prop) : (frK 141 ((7, .i (j : Nat)) :: r17) fun fr => vround Tryz.prog EV noL 51 2 fr (M17 l h w) (Kn (B17 l) 2 141 a ((7, .i ((j + 1 : Nat) : Int)) :: r17) (M17 l h w') r17 (M17 l h z))) = (bif ilt (↑j : Int) 80 then bif w.length.beq 80 then bif ile 16 (↑j : Int) && (ilt (↑j : Int) 80 && w.length.beq 80) then bif inR (↑j : Int) 80 then bif j.blt w.length then bif inI ((↑j : Int) + 1) then a ∧ SV.ptr 6 0 = SV.ptr 6 0 ∧ SV.ptr 7 0 = SV.ptr 7 0 ∧ SV.ptr 8 0 = SV.ptr 8 0 ∧ SV.i ((↑j : Int) + 1) = SV.i (↑(j + 1) : Int) ∧ (false = false ∧ Cont.a64 BEG = Cont.a64 BEG) ∧ (false = false ∧ Cont.a64 PRI = Cont.a64 PRI) ∧ (false = false ∧ Cont.a64 CON = Cont.a64 CON) ∧ (false = false ∧ Cont.a64 WHO = Cont.a64 WHO) ∧ (false = false ∧ Cont.a64 ROM = Cont.a64 ROM) ∧ (false = false ∧ Cont.a8 l = Cont.a8 l) ∧ (true = true ∧ Cont.a64 h = Cont.a64 h) ∧ (true = true ∧ Cont.a64 (List.replicate 8 0) = Cont.a64 (List.replicate 8 0)) ∧ (true = true ∧ Cont.a64 (w.set j (nw w j)) = Cont.a64 w') ∧ True else False else False else False else False else False else 2 = 2 ∧ SV.ptr 6 0 = SV.ptr 6 0 ∧ SV.ptr 7 0 = SV.ptr 7 0 ∧ SV.ptr 8 0 = SV.ptr 8 0 ∧ (false = false ∧ Cont.a64 BEG = Cont.a64 BEG) ∧ (false = false ∧ Cont.a64 PRI = Cont.a64 PRI) ∧ (false = false ∧ Cont.a64 CON = Cont.a64 CON) ∧ (false = false ∧ Cont.a64 WHO = Cont.a64 WHO) ∧ (false = false ∧ Cont.a64 ROM = Cont.a64 ROM) ∧ (false = false ∧ Cont.a8 l = Cont.a8 l) ∧ (true = true ∧ Cont.a64 h = Cont.a64 h) ∧ (true = true ∧ Cont.a64 (List.replicate 8 0) = Cont.a64 (List.replicate 8 0)) ∧ (true = true ∧ Cont.a64 w = Cont.a64 z) ∧ True) := by kernel_rfl
theorem vr17c (t u z : S8) (h w : List (BitVec 64)) (l : List (BitVec 8)) (j : Nat) (a : Prop) : (frK 141 ((10, .i (j : Nat)) :: q17) fun fr => vround Tryz.prog EV noL 51 4 fr (N17 l h w t.l) (Kn (B17 l) 4 141 a ((10, .i ((j + 1 : Nat) : Int)) :: q17) (N17 l h w u.l) q17 (N17 l h w z.l))) = (bif ilt (↑j : Int) 80 then bif inR (↑j : Int) 80 then bif j.blt 80 then bif inR (↑j : Int) 80 then bif j.blt w.length then bif inI ((↑j : Int) + 1) then a ∧ SV.ptr 6 0 = SV.ptr 6 0 ∧ SV.ptr 7 0 = SV.ptr 7 0 ∧ SV.ptr 8 0 = SV.ptr 8 0 ∧ SV.ptr 9 0 = SV.ptr 9 0 ∧ SV.ptr 10 0 = SV.ptr 10 0 ∧ SV.i ((↑j : Int) + 1) = SV.i (↑(j + 1) : Int) ∧ (false = false ∧ Cont.a64 BEG = Cont.a64 BEG) ∧ (false = false ∧ Cont.a64 PRI = Cont.a64 PRI) ∧ (false = false ∧ Cont.a64 CON = Cont.a64 CON) ∧ (false = false ∧ Cont.a64 WHO = Cont.a64 WHO) ∧ (false = false ∧ Cont.a64 ROM = Cont.a64 ROM) ∧ (false = false ∧ Cont.a8 l = Cont.a8 l) ∧ (true = true ∧ Cont.a64 h = Cont.a64 h) ∧ (true = true ∧ Cont.a64 (List.replicate 8 0) = Cont.a64 (List.replicate 8 0)) ∧ (true = true ∧ Cont.a64 w = Cont.a64 w) ∧ (true = true ∧ Cont.a64 K80 = Cont.a64 K80) ∧ (true = true ∧ Cont.a64 [t.l.getD 7 0 + (rr (t.l.getD 4 0) (BitVec.ofInt 64 14) ^^^ rr (t.l.getD 4 0) (BitVec.ofInt 64 18) ^^^ rr (t.l.getD 4 0) (BitVec.ofInt 64 41)) + (t.l.getD 6 0 ^^^ t.l.getD 4 0 &&& (t.l.getD 5 0 ^^^ t.l.getD 6 0)) + K80.getD j 0 + w.getD j 0 + ((rr (t.l.getD 0 0) (BitVec.ofInt 64 28) ^^^ rr (t.l.getD 0 0) (BitVec.ofInt 64 34) ^^^ rr (t.l.getD 0 0) (BitVec.ofInt 64 39)) + (t.l.getD 0 0 &&& t.l.getD 1 0 ||| t.l.getD 2 0 &&& (t.l.getD 0 0 ||| t.l.getD 1 0))), t.l.getD 0 0, t.l.getD 1 0, t.l.getD 2 0, t.l.getD 3 0 + (t.l.getD 7 0 + (rr (t.l.getD 4 0) (BitVec.ofInt 64 14) ^^^ rr (t.l.getD 4 0) (BitVec.ofInt 64 18) ^^^ rr (t.l.getD 4 0) (BitVec.ofInt 64 41)) + (t.l.getD 6 0 ^^^ t.l.getD 4 0 &&& (t.l.getD 5 0 ^^^ t.l.getD 6 0)) + K80.getD j 0 + w.getD j 0), t.l.getD 4 0, t.l.getD 5 0, t.l.getD 6 0] = Cont.a64 u.l) ∧ True else False else False else False else False else False else 4 = 4 ∧ SV.ptr 6 0 = SV.ptr 6 0 ∧ SV.ptr 7 0 = SV.ptr 7 0 ∧ SV.ptr 8 0 = SV.ptr 8 0 ∧ SV.ptr 9 0 = SV.ptr 9 0 ∧ SV.ptr 10 0 = SV.ptr 10 0 ∧ (false = false ∧ Cont.a64 BEG = Cont.a64 BEG) ∧ (false = false ∧ Cont.a64 PRI = Cont.a64 PRI) ∧ (false = false ∧ Cont.a64 CON = Cont.a64 CON) ∧ (false = false ∧ Cont.a64 WHO = Cont.a64 WHO) ∧ (false = false ∧ Cont.a64 ROM = Cont.a64 ROM) ∧ (false = false ∧ Cont.a8 l = Cont.a8 l) ∧ (true = true ∧ Cont.a64 h = Cont.a64 h) ∧ (true = true ∧ Cont.a64 (List.replicate 8 0) = Cont.a64 (List.replicate 8 0)) ∧ (true = true ∧ Cont.a64 w = Cont.a64 w) ∧ (true = true ∧ Cont.a64 K80 = Cont.a64 K80) ∧ (true = true ∧ Cont.a64 t.l = Cont.a64 z.l) ∧ True) := by kernel_rfl
theorem vr17d (h h' x z w : List (BitVec 64)) (l : List (BitVec 8)) (j : Nat) (a : Prop) : (frK 141 ((13, .i (j : Nat)) :: q17) fun fr => vround Tryz.prog EV noL 51 6 fr (N17 l h w x) (Kn (B17 l) 6 141 a ((13, .i ((j + 1 : Nat) : Int)) :: q17) (N17 l h' w x) z17 (N17 l z w x))) = (bif ilt (↑j : Int) 8 then bif inR (↑j : Int) 8 then bif j.blt h.length then bif inR (↑j : Int) 8 then bif j.blt x.length then bif inR (↑j : Int) 8 then bif j.blt h.length then bif inI ((↑j : Int) + 1) then a ∧ SV.ptr 6 0 = SV.ptr 6 0 ∧ SV.ptr 7 0 = SV.ptr 7 0 ∧ SV.ptr 8 0 = SV.ptr 8 0 ∧ SV.ptr 9 0 = SV.ptr 9 0 ∧ SV.ptr 10 0 = SV.ptr 10 0 ∧ SV.i ((↑j : Int) + 1) = SV.i (↑(j + 1) : Int) ∧ (false = false ∧ Cont.a64 BEG = Cont.a64 BEG) ∧ (false = false ∧ Cont.a64 PRI = Cont.a64 PRI) ∧ (false = false ∧ Cont.a64 CON = Cont.a64 CON) ∧ (false = false ∧ Cont.a64 WHO = Cont.a64 WHO) ∧ (false = false ∧ Cont.a64 ROM = Cont.a64 ROM) ∧ (false = false ∧ Cont.a8 l = Cont.a8 l) ∧ (true = true ∧ Cont.a64 (h.set j (h.getD j 0 + x.getD j 0)) = Cont.a64 h') ∧ (true = true ∧ Cont.a64 (List.replicate 8 0) = Cont.a64 (List.replicate 8 0)) ∧ (true = true ∧ Cont.a64 w = Cont.a64 w) ∧ (true = true ∧ Cont.a64 K80 = Cont.a64 K80) ∧ (true = true ∧ Cont.a64 x = Cont.a64 x) ∧ True else False else False else False else False else False else False else False else 6 = 6 ∧ SV.ptr 6 0 = SV.ptr 6 0 ∧ SV.ptr 7 0 = SV.ptr 7 0 ∧ (false = false ∧ Cont.a64 BEG = Cont.a64 BEG) ∧ (false = false ∧ Cont.a64 PRI = Cont.a64 PRI) ∧ (false = false ∧ Cont.a64 CON = Cont.a64 CON) ∧ (false = false ∧ Cont.a64 WHO = Cont.a64 WHO) ∧ (false = false ∧ Cont.a64 ROM = Cont.a64 ROM) ∧ (false = false ∧ Cont.a8 l = Cont.a8 l) ∧ (true = true ∧ Cont.a64 h = Cont.a64 z) ∧ (true = true ∧ Cont.a64 (List.replicate 8 0) = Cont.a64 (List.replicate 8 0)) ∧ (true = true ∧ Cont.a64 w = Cont.a64 w) ∧ (true = true ∧ Cont.a64 K80 = Cont.a64 K80) ∧ (true = true ∧ Cont.a64 x = Cont.a64 x) ∧ True) := by kernel_rfl
theorem wc_len (B : List (BitVec 8)) (j : Nat) : (wc B j).length = 80 := by simp [wc]
theorem wc_get (B : List (BitVec 8)) (j k : Nat) (h : k < 80) : (wc B j)[k]? = some (be ((B.drop (8 * k)).take (min 8 (j - 8 * k)))) := by simp [wc, h]
theorem wc_getD (B : List (BitVec 8)) (j k : Nat) (h : k < 80) : (wc B j).getD k 0 = be ((B.drop (8 * k)).take (min 8 (j - 8 * k))) := by rw [List.getD_eq_getElem?_getD, wc_get B j k h]; rfl
theorem wc_set (B : List (BitVec 8)) (j : Nat) (h : j < 128) (hB : j < B.length) : (wc B j).set (j / 8) ((wc B j).getD (j / 8) 0 <<< 8 ||| (B.getD j 0).setWidth 64) = wc B (j + 1) := by
 apply List.ext_getElem?
 intro k
 by_cases hk : k < 80
 ·by_cases e : j / 8 = k
  ·rw [e, List.getElem?_set_self (by rw [wc_len]; exact hk), wc_get B (j + 1) k hk, wc_getD B j k hk]
   have h1 : min 8 (j - 8 * k) = j - 8 * k := by omega
   have h2 : min 8 (j + 1 - 8 * k) = j - 8 * k + 1 := by omega
   rw [h1, h2, be_succ _ _ (by simp; omega), getD_drop]
   congr 4
   omega
  ·rw [List.getElem?_set_ne e, wc_get B j k hk, wc_get B (j + 1) k hk]
   have : min 8 (j - 8 * k) = min 8 (j + 1 - 8 * k) := by omega
   rw [this]
 ·rw [List.getElem?_eq_none (by simp [wc_len]; omega), List.getElem?_eq_none (by rw [wc_len]; omega)]
theorem wc_zero (B : List (BitVec 8)) : List.replicate 80 0 = wc B 0 := by
 apply List.ext_getElem?
 intro k
 by_cases hk : k < 80
 ·rw [wc_get B 0 k hk, List.getElem?_replicate, if_pos hk, Nat.zero_sub, Nat.min_zero, List.take_zero]; rfl
 ·rw [List.getElem?_eq_none (by simp; omega), List.getElem?_eq_none (by rw [wc_len]; omega)]
theorem wc_all (B : List (BitVec 8)) : wc B 128 = wb B 16 := by
 apply List.ext_getElem?
 intro k
 by_cases hk : k < 80
 ·rw [wc_get B 128 k hk]
  unfold wb
  by_cases h16 : k < 16
  ·rw [List.getElem?_append_left (by rw [ext_len, w16_len]; omega)]
   show _ = (w16 B)[k]?
   have : min 8 (128 - 8 * k) = 8 := by omega
   simp [w16, h16, this]
  ·rw [List.getElem?_append_right (by rw [ext_len, w16_len]; omega), ext_len, w16_len]
   have : 128 - 8 * k = 0 := by omega
   rw [this, Nat.min_zero, List.take_zero, List.getElem?_replicate, if_pos (by omega)]
   rfl
 ·rw [List.getElem?_eq_none (by rw [wc_len]; omega), List.getElem?_eq_none (by rw [wb_len B 16 (by decide) (by decide)]; omega)]
theorem ch_eq (e f g : BitVec 64) : g ^^^ e &&& (f ^^^ g) = e &&& f ^^^ ~~~e &&& g := by
 apply BitVec.eq_of_getLsbD_eq
 intro i hi
 simp only [BitVec.getLsbD_xor, BitVec.getLsbD_and, BitVec.getLsbD_not, hi, decide_true, Bool.true_and]
 cases e.getLsbD i <;> cases f.getLsbD i <;> cases g.getLsbD i <;> rfl
theorem maj_eq (a b c : BitVec 64) : a &&& b ||| c &&& (a ||| b) = a &&& b ^^^ a &&& c ^^^ b &&& c := by
 apply BitVec.eq_of_getLsbD_eq
 intro i hi
 simp only [BitVec.getLsbD_xor, BitVec.getLsbD_and, BitVec.getLsbD_or]
 cases a.getLsbD i <;> cases b.getLsbD i <;> cases c.getLsbD i <;> rfl
theorem us_eq (k w : BitVec 64) (t : S8) : t.h + (rr t.e 14 ^^^ rr t.e 18 ^^^ rr t.e 41) + (t.g ^^^ t.e &&& (t.f ^^^ t.g)) + k + w = us k w t := by
 unfold us; rw [tw3, rl14, rl18, rl41, ch_eq]
theorem vs_eq (t : S8) : (rr t.a 28 ^^^ rr t.a 34 ^^^ rr t.a 39) + (t.a &&& t.b ||| t.c &&& (t.a ||| t.b)) = vs t := by
 unfold vs; rw [tw3, rl28, rl34, rl39, maj_eq]
theorem rnd_doc (k w : BitVec 64) (t : S8) : [t.h + (rr t.e 14 ^^^ rr t.e 18 ^^^ rr t.e 41) + (t.g ^^^ t.e &&& (t.f ^^^ t.g)) + k + w + ((rr t.a 28 ^^^ rr t.a 34 ^^^ rr t.a 39) + (t.a &&& t.b ||| t.c &&& (t.a ||| t.b))), t.a, t.b, t.c, t.d + (t.h + (rr t.e 14 ^^^ rr t.e 18 ^^^ rr t.e 41) + (t.g ^^^ t.e &&& (t.f ^^^ t.g)) + k + w), t.e, t.f, t.g] = (rnd k w t).l := by
 rw [us_eq, vs_eq]; rfl
theorem loop17a (s : S8) (l : List (BitVec 8)) (off cap : Nat) (hl : off + 128 ≤ l.length) : ∀ fr M K, vLoop (B17 l) 141 ((6, .i 0) :: p17 off cap) (M17 l s.l (wc (l.drop off) 0)) r17 (M17 l s.l (wc (l.drop off) 128)) fr M K → Wp Tryz.prog G (B17 l) (loopOf Tryz.prog 51 0) fr M K := by
 refine loop_next ev_ok mixed (noL_ok _ _ _ _) (by show 5 ≤ 6; decide) (by kernel_rfl) (fun j => (6, .i (j : Nat)) :: p17 off cap) (fun j => M17 l s.l (wc (l.drop off) j)) (fun j => j ≤ 128) (fun j => 128 - j) (fun j => j + 1) 0 (Nat.zero_le _) fun j hj => of_eq (vr17a s.l (wc (l.drop off) j) (wc (l.drop off) (j + 1)) (wc (l.drop off) 128) l off cap j _) ?_
 cases hc : ilt (j : Int) 128
 ·have hj2 : j = 128 := by rw [ilt_eq] at hc; have := of_decide_eq_false hc; omega
  subst hj2
  simp
 ·have hj2 : j < 128 := by rw [ilt_eq] at hc; have := of_decide_eq_true hc; omega
  have e : (j : Int).tdiv 8 = ((j / 8 : Nat) : Int) := tdiv_cast j 8
  have h2 := wc_set (l.drop off) j hj2 (by simp; omega)
  rw [getD_drop, Nat.add_comm off j] at h2
  rw [e, Int.toNat_natCast, h2, wc_len]
  refine bif_of (inI_iff.2 (by omega)) (bif_of (inI_iff.2 (by omega)) (bif_of (inR_nat (by omega)) (bif_of (blt_of (by omega)) (bif_of (inR_nat (by omega)) (bif_of (blt_of (by omega)) (bif_of (inR_nat (by omega)) (bif_of (blt_of (by omega)) (bif_of (inI_iff.2 (by omega)) ?_))))))))
  refine ⟨⟨by omega, by omega⟩, ?_⟩
  simp
theorem loop17b (s : S8) (l b : List (BitVec 8)) : ∀ fr M K, vLoop (B17 l) 141 ((7, .i 16) :: r17) (M17 l s.l (wb b 16)) r17 (M17 l s.l (wb b 80)) fr M K → Wp Tryz.prog G (B17 l) (loopOf Tryz.prog 51 2) fr M K := by
 refine loop_next ev_ok mixed (noL_ok _ _ _ _) (by show 5 ≤ 6; decide) (by kernel_rfl) (fun j => (7, .i (j : Nat)) :: r17) (fun j => M17 l s.l (wb b j)) (fun j => 16 ≤ j ∧ j ≤ 80) (fun j => 80 - j) (fun j => j + 1) 16 (by decide) fun j hj => of_eq (vr17b s.l (wb b j) (wb b (j + 1)) (wb b 80) l j _) ?_
 cases hc : ilt (j : Int) 80
 ·have hj2 : j = 80 := by rw [ilt_eq] at hc; have := of_decide_eq_false hc; omega
  subst hj2
  simp
 ·have hj2 : j < 80 := by rw [ilt_eq] at hc; have := of_decide_eq_true hc; omega
  have h16 : ile 16 (j : Int) = true := by rw [ile_eq]; exact decide_eq_true (by omega)
  rw [wb_set b j hj.1 hj2, wb_len b j hj.1 hj.2, h16]
  have h80 : Nat.beq 80 80 = true := rfl
  simp only [h80, Bool.true_and, cond_true]
  refine bif_of (inR_nat (by omega)) (bif_of (blt_of (by omega)) (bif_of (inI_iff.2 (by omega)) ?_))
  refine ⟨⟨by omega, by omega⟩, ?_⟩
  simp
theorem loop17c (s : S8) (l : List (BitVec 8)) (h w : List (BitVec 64)) (hw : w.length = 80) : ∀ fr M K, vLoop (B17 l) 141 ((10, .i 0) :: q17) (N17 l h w s.l) q17 (N17 l h w (rounds w s 80).l) fr M K → Wp Tryz.prog G (B17 l) (loopOf Tryz.prog 51 4) fr M K := by
 refine loop_next ev_ok mixed (noL_ok _ _ _ _) (by show 5 ≤ 6; decide) (by kernel_rfl) (fun j => (10, .i (j : Nat)) :: q17) (fun j => N17 l h w (rounds w s j).l) (fun j => j ≤ 80) (fun j => 80 - j) (fun j => j + 1) 0 (Nat.zero_le _) fun j hj => of_eq (vr17c (rounds w s j) (rounds w s (j + 1)) (rounds w s 80) h w l j _) ?_
 cases hc : ilt (j : Int) 80
 ·have hj2 : j = 80 := by rw [ilt_eq] at hc; have := of_decide_eq_false hc; omega
  subst hj2
  simp
 ·have hj2 : j < 80 := by rw [ilt_eq] at hc; have := of_decide_eq_true hc; omega
  refine bif_of (inR_nat (by omega)) (bif_of (blt_of (by omega)) (bif_of (inR_nat (by omega)) (bif_of (blt_of (by omega)) (bif_of (inI_iff.2 (by omega)) ?_))))
  refine ⟨⟨by omega, by omega⟩, rfl, rfl, rfl, rfl, rfl, rfl, ⟨rfl, rfl⟩, ⟨rfl, rfl⟩, ⟨rfl, rfl⟩, ⟨rfl, rfl⟩, ⟨rfl, rfl⟩, ⟨rfl, rfl⟩, ⟨rfl, rfl⟩, ⟨rfl, rfl⟩, ⟨rfl, rfl⟩, ⟨rfl, rfl⟩, ⟨rfl, ?_⟩, trivial⟩
  exact congrArg Cont.a64 (rnd_doc (K80.getD j 0) (w.getD j 0) (rounds w s j))
theorem addN_set (s t : S8) (j : Nat) (h : j < 8) : (addN s t j).set j ((addN s t j).getD j 0 + t.l.getD j 0) = addN s t (j + 1) := by
 have : j = 0 ∨ j = 1 ∨ j = 2 ∨ j = 3 ∨ j = 4 ∨ j = 5 ∨ j = 6 ∨ j = 7 := by omega
 rcases this with rfl | rfl | rfl | rfl | rfl | rfl | rfl | rfl <;> rfl
theorem addN_len (s t : S8) (j : Nat) (h : j ≤ 8) : (addN s t j).length = 8 := by
 simp [addN, S8.l]; omega
theorem loop17d (s t : S8) (l : List (BitVec 8)) (w : List (BitVec 64)) : ∀ fr M K, vLoop (B17 l) 141 ((13, .i 0) :: q17) (N17 l s.l w t.l) z17 (N17 l (addS s t).l w t.l) fr M K → Wp Tryz.prog G (B17 l) (loopOf Tryz.prog 51 6) fr M K := by
 refine loop_next ev_ok mixed (noL_ok _ _ _ _) (by show 5 ≤ 6; decide) (by kernel_rfl) (fun j => (13, .i (j : Nat)) :: q17) (fun j => N17 l (addN s t j) w t.l) (fun j => j ≤ 8) (fun j => 8 - j) (fun j => j + 1) 0 (Nat.zero_le _) fun j hj => of_eq (vr17d (addN s t j) (addN s t (j + 1)) t.l (addS s t).l w l j _) ?_
 cases hc : ilt (j : Int) 8
 ·have hj2 : j = 8 := by rw [ilt_eq] at hc; have := of_decide_eq_false hc; omega
  subst hj2
  have : addN s t 8 = (addS s t).l := rfl
  simp [this]
 ·have hj2 : j < 8 := by rw [ilt_eq] at hc; have := of_decide_eq_true hc; omega
  have ht : t.l.length = 8 := rfl
  rw [addN_set s t j hj2, addN_len s t j hj, ht]
  refine bif_of (inR_nat (by omega)) (bif_of (blt_of (by omega)) (bif_of (inR_nat (by omega)) (bif_of (blt_of (by omega)) (bif_of (inR_nat (by omega)) (bif_of (blt_of (by omega)) (bif_of (inI_iff.2 (by omega)) ?_))))))
  refine ⟨⟨by omega, by omega⟩, ?_⟩
  simp
theorem next_w (s : S8) (b : List (BitVec 8)) : addS s (rounds (wb b 80) s 80) = nextS s b := by rw [wb80]; rfl
theorem loop17 (s : S8) (l : List (BitVec 8)) (off cap : Nat) (hl : off + 128 ≤ l.length) : LOk Tryz.prog G (B17 l) 51 (L17 s l off cap) := by
 refine LT.add_ok (LT.add_ok (LT.add_ok (LT.add_ok (noL_ok _ _ _ _) (loop17a s l off cap hl)) (loop17b s l (l.drop off))) (loop17c s l s.l _ (wb_len _ 80 (by decide) (by decide)))) ?_
 rw [← next_w s (l.drop off)]
 exact loop17d s _ l _
def cBlock : List SV → List Cont → Option (Bool × SV)
 | [.a64 [a, b, c, d, e, f, g, h], .sl k off len cap], [_, .a8 l] => some (Nat.beq len 128 && Nat.ble (off + 128) l.length, .a64 (nextS ⟨a, b, c, d, e, f, g, h⟩ (l.drop off)).l)
 | _, _ => none
theorem block_ok : POk Tryz.prog G 51 cBlock := by
 intro args acs r h β M w hR hw ha
 unfold cBlock at h
 split at h
 ·rename_i a b c d e f g h' k off len cap c0 l
  simp only [Option.some.injEq, Prod.mk.injEq, Bool.and_eq_true] at h
  obtain ⟨⟨h1, h2⟩, rfl⟩ := h
  obtain rfl := Nat.eq_of_beq_eq_true h1
  simp only [List.map_cons, List.map_nil, List.cons.injEq, and_true] at ha
  refine pure1 (args0 := [.a64 [a, b, c, d, e, f, g, h'], .sl 5 off 128 cap]) (c := .a8 l) (k := k) (vf_ok (M := B17 l) ev_ok mixed (loop17 ⟨a, b, c, d, e, f, g, h'⟩ l off cap (Nat.le_of_ble_eq_true h2)) (of_eq (vc17 ⟨a, b, c, d, e, f, g, h'⟩ l off cap _) ?_)) rfl rfl rfl rfl rfl (a8_ren l) hR (tgt_some ha.2.symm rfl)
  simp only [wc_zero (l.drop off), wc_all]
  simp [B17, M17]
 ·cases h
end Sh
end Go.Proofs.YtdfghknonbmadaaGreatDoor
