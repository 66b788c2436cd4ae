/-
  The law TopStand answers true for every book, list of words and number, and leaves memory as it was, whatever the state of the machine that it starts in. No conditions. (The calls of the count for a stand of at most four chairs are run inside the kernel, one by one.)
-/
import Derived.Test.YtjgbfnciedkafaaEvUHh
import Derived.Test.YtjgbfnciedkafaaEvUNm
import Derived.Test.YtjgbfnciedkafaaEvUNj
import Derived.Test.YtjgbfnciedkafaaEvUTq8
import Derived.Test.YtjgbfnciedkafaaRows
import Derived.WalkKit
import Derived.ProofKit
import Derived.OpenShut
import Derived.Test.YtjgbfnciedkafaaEvUIt
import Derived.ShutString
import Derived.Test.YtjgbfnciedkafaaFaTopStand
set_option linter.all false
set_option maxHeartbeats 8000000
namespace Go.Ev
open Go.Proofs
set_option maxRecDepth 1000000
def Rh : Pos := .i FR
def Or : Pos := .o Hx
def Rb : Pos := .i Hx
def PV : Pos := .o p97
def Sm : Pos := .i p97
def SK : Pos := .o FH
def SF : Pos := .i FH
def SN : Pos := .o FB
def QJ : Pos := .i FB
def RJ : Pos := .o sV
def Sx : Pos := .i sV
def PS : Pos := .o tT
def Rl : Pos := .i tT
def QW : Pos := .o oU
def Lp : Pos := .i oU
def NO : Pos := .o vF
def OK : Pos := .i vF
def Rs : Pos := .o pB
def rO : Pos := .i pB
def Oe : Pos := .o p105
def Od : Pos := .i p105
def NT : Pos := .o p106
def Pk : Pos := .i p106
def Ps : Pos := .o p107
def OS : Pos := .i p107
def NX : Pos := .o p108
def NH : Pos := .i p108
def OG : Pos := .o p109
def OP : Pos := .i p109
def Nx : Pos := .o p110
def Tk : Pos := .i p110
def OB : Pos := .o p111
def PI : Pos := .i p111
def Su : Pos := .o p112
noncomputable def TT : RC := (Sr [(.u (.box p4 p1)), (.u (.mv p7 (.k (.b false))))] (.seq (Sr [(Fd p25 p4 0), (L1 eS p25), (Cf fY p36 [eS, (K_ 1), (K_ 4)]), (.u (.un p28 .not fY)), (Mv gA p28), (Gs gA false fW (.fad fW p4 1)), (Gs gA false p31 (.ld1 p31 fW)), (Gs gA false jM (.cf (some jM) p36 [p31, (K_ 1), (K_ 99)])), (Gs gA false p33 (.un p33 .not jM)), (Po p34 gA p33), (Mv kS p34), (Gs kS false p36 (.fad p36 p4 2)), (Gs kS false nG (.ld1 nG p36)), (Gs kS false nZ (.cf (some nZ) p36 [nG, (K_ 0), (K_ 999)])), (Gs kS false p39 (.un p39 .not nZ)), (Po qZ kS p39)] (.cond qZ (Sr [(Cf p41 p69 []), (Mv p7 p41)] .ret) .skip)) (Sr [(bU tC p4 5), (Mv tB p2), (Cf xR p54 [tC, tB]), (Mv rJ xR), (.u (.ext AA rJ 0)), (.u (.ext BI rJ 1)), (.u (.new p8 [(.i .i64 0), (.i .i64 0), (.i .i64 0), .ns, .ns])), (.u (.st p8 AA 5)), (Mv p9 BI)] (.seq (Sr [(bU Ej p8 5), (Cf FK p21 [Ej]), (.u (.un Ac .not FK)), (Mv BK Ac), (Gs BK false EA (.ldn EA p8 5)), (Gs BK false CZ (.cf (some CZ) p70 [EA])), (Gs BK false p54 (.bin p54 .neq CZ (K_ 0))), (Po EL BK p54)] (.cond EL (Sr [(Cf Fm p69 []), (Mv p7 Fm)] .ret) .skip)) (Sr [(Mv p57 p3), (.u (.cvi p58 .i64 p57)), (Mv yD p9), (.u (.len Fo yD)), (dH Ff .add Fo 1), (fR Fn .rem p58 Ff), (Mv bE Fn)] (Sr [(bU Gx p8 5), (Cf Cl p24 [Gx]), (Mv FF bE), (Cf HY p34 [Cl, FF]), (Mv p63 HY), (.u (.ext HX p63 0)), (.u (.ext p69 p63 1)), (.u (.ext p70 p63 2)), (Mv bM HX), (Mv bW p69), (Mv cH p70)] (Sr [(bU p72 p8 5), (Cf p73 p24 [p72]), (Mv p74 bE), (Cf p75 p39 [p73, p74]), (Mv p71 p75), (.u (.ext p76 p71 0)), (.u (.ext p77 p71 1)), (.u (.new bX [(.i .i64 0), (.i .i64 0)])), (.u (.st bX p76 2)), (Mv cW p77)] (Sr [(bU Jb p8 5), (Cf p80 p24 [Jb]), (Mv p81 p9), (Cf p82 p25 [p81]), (Cf Jh p23 [p80, p82]), (Mv p78 Jh), (.u (.ext p84 p78 0)), (.u (.ext p85 p78 1)), (.u (.ext p86 p78 2)), (Mv cE p84), (Mv dG p85), (Mv dE p86)] (.seq (.seq (.drw [(Mv p87 cH), (dH HJ .neq p87 0), (Mv p89 HJ), (Gs p89 false FG (.mv FG cW)), (Gs p89 false FI (.bin FI .neq FG (K_ 0))), (Po Jj p89 FI), (Mv p93 Jj), (Gs p93 false p94 (.mv p94 dE)), (Gs p93 false FR (.bin FR .neq p94 (K_ 0))), (Po Hx p93 FR), (Mv p97 Hx), (Gs p97 false FH (.mv FH bM)), (Gs p97 false FB (.len FB FH)), (Gs p97 false sV (.fad sV p4 0)), (Gs p97 false tT (.ld1 tT sV)), (Gs p97 false oU (.bin oU .neq FB tT)), (Po vF p97 oU), (Mv pB vF), (Gs pB false p105 (.mv p105 bW)), (Gs pB false p106 (.len p106 p105)), (Gs pB false p107 (.fad p107 p4 0)), (Gs pB false p108 (.ld1 p108 p107)), (Gs pB false p109 (.bin p109 .neq p106 p108)), (Po p110 pB p109), (Mv p111 p110), (Gs p111 false p112 (.mv p112 cE)), (Gs p111 false p113 (.len p113 p112)), (Gs p111 false p114 (.mv p114 p9)), (Gs p111 false p115 (.len p115 p114)), (Gs p111 false p116 (.bin p116 .add p115 (K_ 1))), (Gs p111 false p117 (.bin p117 .neq p113 p116)), (Po p118 p111 p117), (Mv p119 p118), (Gs p119 false p120 (.mv p120 cE)), (Gs p119 false p121 (.mv p121 bE)), (Gs p119 false p122 (.ixs p122 1 p120 p121)), (Gs p119 false p123 (.ld1 p123 p122)), (Gs p119 false HL (.fad HL bX 0)), (Gs p119 false HO (.ld1 HO HL)), (Gs p119 false GB (.bin GB .lss p123 HO)), (Po Ks p119 GB), (Mv uG Ks), (Gs uG false Ib (.mv Ib cE)), (Gs uG false Hi (.mv Hi bE)), (Gs uG false Gk (.ixs Gk 1 Ib Hi)), (Gs uG false IE (.ld1 IE Gk)), (Gs uG false Hm (.fad Hm bX 1)), (Gs uG false IG (.ld1 IG Hm)), (Gs uG false p135 (.bin p135 .gtr IE IG)), (Po p136 uG p135)] [0, 1, 3, 7, 15, 31, 63, 127, 255, 511, 1023, 2047, 4095, 2047, 10239, 32767, 65535, 131071, 262143, 524287, 262143, 1310719, 4194303, 8388607, 16777215, 33554431, 67108863, 33554431, 167772159, 436207615, 1073741823, 2147483647, 4294967295, 8589934591, 8589934591, 34359738367, 68719476735, 8589934591, 146028888063, 549755813887, 1099511627775, 2199023255551, 4398046511103, 4398046511103, 17592186044415, 35184372088831, 4398046511103, 74766790688767, 281474976710655, 562949953421311]) (.cond p136 (Sr [(.u (.mv p7 (.k (.b false))))] .ret) .skip)) (.seq (.drw [(Mv p137 cE), (Mv p138 bE), (.u (.ixs p139 1 p137 p138)), (L1 p140 p139), (Fd Kj p4 2), (L1 JN Kj), (fR LU .sub p140 JN), (Fd JD p4 1), (L1 Lr JD), (fR Kv .quo LU Lr), (Mv dO Kv)] [0, 0, 3, 7, 0, 16, 63, 0, 128, 511, 1023]) (.seq (.seq (.drw [(Mv Lv cE), (Mv Lk bE), (.u (.ixs Li 1 Lv Lk)), (L1 LA Li), (Fd Kc p4 2), (L1 LT Kc), (Fd KO p4 1), (L1 LY KO), (Mv KL dO), (fR p156 .mul LY KL), (fR Md .add LT p156), (fR Mr .neq LA Md), (Mv EY Mr), (Gs EY false FV (.mv FV dO)), (Gs EY false GA (.bin GA .lss FV (K_ 0))), (Po AJ EY GA), (Mv yC AJ), (Gs yC false Fj (.mv Fj dO)), (Gs yC false ER (.fad ER p4 0)), (Gs yC false Fk (.ld1 Fk ER)), (Gs yC false Hl (.bin Hl .gtr Fj Fk)), (Po LZ yC Hl)] [0, 0, 3, 7, 0, 16, 0, 64, 0, 448, 1008, 2047, 4095, 8191, 16383, 32767, 65535, 131071, 131071, 393215, 1048575, 2097151]) (.cond LZ (Sr [(.u (.mv p7 (.k (.b false))))] .ret) .skip)) (Sr [(Mv Jm bM), (Fd KI p4 0), (L1 Mi KI), (Mv Lf dO), (fR Mn .sub Mi Lf), (Cf KU p71 [Jm, Mn]), (.u (.new p20 [.ns, .ns, (.i .i64 0), (.i .i64 0)])), (.u (.st p20 KU 4))] (Sr [(Fd Kd p4 0), (L1 Oq Kd), (.u (.mks PP 1 [(.i .i64 0)] Oq Oq)), (Mv p21 PP)] (.seq (Sr [(.u (.mv dB (K_ 0)))] (.blk 0 (.loop (.seq (Sr [(Mv SO dB), (Fd RL p4 0), (L1 Rv RL), (fR SZ .lss SO Rv)] (.cond SZ .skip (.exit 0))) (.seq (.blk 1 (Sr [(Mv Qh p9), (Mv SI bE), (Mv PY dB), (Cf RB p57 [Qh, SI, PY]), (dH Qr .lss RB 0)] (.cond Qr (.reg [(Mv QB p21), (Mv SD dB), (.u (.ixs Rh 1 QB SD)), (.u (.st Rh (K_ 1) 1))]) .skip))) (.reg [(Mv Sz dB), (dH QT .add Sz 1), (Mv dB QT)])))))) (.seq (.drw [(bU Rb p20 4), (Cf PV p73 [Rb]), (Fd Sm p4 0), (L1 SK Sm), (dH SF .sub SK 1), (Cf SN p72 [PV, (K_ 0), SF]), (Mv Or SN), (.u (.ext QJ Or 0)), (.u (.ext RJ Or 1)), (.u (.new p23 [(.i .i64 0), (.i .i64 0)])), (.u (.st p23 QJ 2)), (Mv p24 RJ)] [0, 1, 0, 4, 12, 31, 63, 127, 127, 0, 767, 2047]) (Sr [(bU Sx p20 4), (Cf PS p73 [Sx]), (Mv Rl p21), (Cf QW p74 [PS, Rl]), (Mv Lp QW), (Gs Lp true NO (.mv NO p24)), (Gs Lp true OK (.bin OK .eql NO (K_ 0))), (Pa Rs Lp OK), (Mv rO Rs), (Gs rO true Oe (.ldn Oe p23 2)), (Gs rO true Od (.fad Od p4 0)), (Gs rO true NT (.ld1 NT Od)), (Gs rO true Pk (.mv Pk dO)), (Gs rO true Ps (.bin Ps .sub NT Pk)), (Gs rO true OS (.fad OS p4 0)), (Gs rO true NX (.ld1 NX OS)), (Gs rO true NH (.mv NH dO)), (Gs rO true OG (.bin OG .sub NX NH)), (Gs rO true OP (.bld OP [(.i .i64 0), (.i .i64 0)] [(0, (1, Ps)), (1, (1, OG))])), (Gs rO true Nx (.eqr Nx false [(.i .i64), (.i .i64)] Oe OP)), (Pa Tk rO Nx), (Mv OB Tk), (Gs OB true PI (.cf (some PI) p69 [])), (Pa Su OB PI), (Mv p7 Su)] .ret))))))))))))))))
def Ux : List RR := [(.t p7)]
theorem Vk : FnOk Try.prog p20.ix 224 TT Ux := fX Try.f19 Try.func19
end Go.Ev
namespace Go.Ev
open Go.Proofs
set_option maxRecDepth 100000
theorem Pd {B : Bk} (V : VB B) {line : Nat} (hl : line < B.ls.length) {a : Ln} (h : Am B.n (B.ls.getD line default) a = true) : vJ a := by
 obtain ⟨h1, h2, h3⟩ := V.rd hl h
 exact ⟨cL (by omega) (by omega), cL (by omega) (by omega), cL (by omega) (by omega)⟩
theorem EK {m box coin S : Int} (h : m = box + coin * S) (hc : 1 <= coin) : Int.tdiv (m - box) coin = S := by
 rw [h, show box + coin * S - box = S * coin by rw [Int.mul_comm]; omega, Int.mul_tdiv_cancel _ (by omega)]
theorem BR (n coin box : Int) (ls : List Ln) (cs : List Ct) (ws : List Int) (after : Int) (hws : ∀ w ∈ ws, 0 <= w /\ w <= 65535) (w1 : 0 <= after /\ after <= 255) : PureF Try.prog p20.ix [.ag [.i .i64 n, .i .i64 coin, .i .i64 box, .lst 3 (aD aM ls), .lst 3 (aD dZ cs)], .lst 1 (aD pK ws), .i .u8 after] (.b true) := by
 have LF : PureF Try.prog p69.ix [] (.b true) := lfT
 have i1 := nR n 1 4
 have i2 := nR coin 1 99
 have i3 := nR box 0 999
 refine PureF.run Vk (by simp) (by simp [aO, eB, Pu, aB, aE, cX]) ?_; conv => whnf
 cases h1 : gS n 1 4 with
 | false =>
   rw [h1] at i1
   repeat' ((first | refine Qw ?_ | refine Qf i1 ?_ | refine Qf LF ?_ | refine Qv ?_) <;> conv => whnf)
   exact Fin.b rfl rfl
 | true =>
 rw [h1] at i1
 cases h2 : gS coin 1 99 with
 | false =>
   rw [h2] at i2
   repeat' ((first | refine Qw ?_ | refine Qf i1 ?_ | refine Qf i2 ?_ | refine Qf LF ?_ | refine Qv ?_) <;> conv => whnf)
   exact Fin.b rfl rfl
 | true =>
 rw [h2] at i2
 cases h3 : gS box 0 999 with
 | false =>
   rw [h3] at i3
   repeat' ((first | refine Qw ?_ | refine Qf i1 ?_ | refine Qf i2 ?_ | refine Qf i3 ?_ | refine Qf LF ?_ | refine Qv ?_) <;> conv => whnf)
   exact Fin.b rfl rfl
 | true =>
 rw [h3] at i3
 have hn := aP.1 h1
 have hc := aP.1 h2
 have hb := aP.1 h3
 obtain ⟨v, ⟨T, L, C, rfl, hT8, hC3, hHI, hCg⟩, iH⟩ := Mg n coin box ls cs ws hws hn hb hc
 have iR := Pg n coin box L C
 have iRF := DX n coin box L C
 have hR0 : zG n coin box L C = (BE n coin box L C && decide (aS n coin box L C = 0)) := rfl
 unfold CW at iR iRF
 cases hTh : BE n coin box L C with
 | false =>
   rw [hTh] at iR
   repeat' ((first | refine Qw ?_ | refine Qf i1 ?_ | refine Qf i2 ?_ | refine Qf i3 ?_ | refine Qf iH ?_ | refine Qf iR ?_ | refine Qf LF ?_ | refine Qv ?_) <;> conv => whnf)
   exact Fin.b rfl rfl
 | true =>
 rw [hTh] at iR hR0
 by_cases hF : aS n coin box L C = 0
 rotate_left
 ·generalize aS n coin box L C = fl at *
  repeat' ((first | refine Qw ?_ | refine Qf i1 ?_ | refine Qf i2 ?_ | refine Qf i3 ?_ | refine Qf iH ?_ | refine Qf iR ?_ | refine Qf iRF ?_ | refine Qf LF ?_ | refine Qv ?_) <;> conv => whnf)
  exact Fin.b rfl rfl
 have hR : zG n coin box L C = true := by rw [hR0, hF]; rfl
 rw [hF] at iRF
 obtain ⟨l8, l4, h0⟩ := Ha hR
 have V := VB.of h0
 have hm := Nn h0 hHI hCg
 have hlen : L.length = T.length := hHI.len
 have e1 := aC aM T
 have b1 := Int.tmod_nonneg (((aD aM T).length : Int) + 1) w1.1
 have b2 := Int.tmod_lt_of_pos after (show (0 : Int) < ((aD aM T).length : Int) + 1 by omega)
 obtain ⟨k, hk⟩ := Int.eq_ofNat_of_zero_le b1
 have hkT : k <= T.length := by omega
 have hwf : ∀ r ∈ T, vJ r := fun r hr => by
  obtain ⟨i, hi, e⟩ := Ga (d := default) hr
  have h := (MV h0 hm) i hi
  rw [<- e]
  exact Pd V (by show i < L.length; omega) h.1
 have hfit : vL n coin box L C T = true := (mQ V).1 hm
 have hfol : cI n L T = true := by
  rw [tY hn (show L.all (cB n) = true from V.ls), hHI.rd, hHI.poss]; rfl
 have iB := PJ n coin box L C (by omega) (by omega)
 have iTr := DC T (by omega)
 have iP := OT n coin box L C T (by omega) hwf
 rw [HT h0 hfol] at iP
 have iP : PureF Try.prog p23.ix [.ag [.i .i64 n, .i .i64 coin, .i .i64 box, .lst 3 (aD aM L), .lst 3 (aD dZ C)], .lst 3 (aD aM T)] (.tp [.lst 1 (ints ((List.range (T.length + 1)).map (bZ box coin T))), .i .i64 (gT T T.length), .i .i64 0]) := iP
 have hh := Hd h0 hm
 have hin : gS (k : Int) 0 (L.length : Int) = true := aP.2 ⟨by omega, by omega⟩
 have iO := NM n coin box L C (k : Int)
 unfold OA at iO
 rw [hin, yP h0 hh, if_pos rfl, Int.toNat_natCast] at iO
 have iM := Gu n coin box L C (k : Int)
 unfold Pi at iM
 rw [hin, yP h0 hh, if_pos rfl, Int.toNat_natCast] at iM
 obtain ⟨t1, t2⟩ := Pl h0 hm hkT
 have q1 := NV h0 hm k Mo.box
 have q1 : _ <= bZ box coin T k /\ bZ box coin T k <= _ := q1
 unfold Ch at iM
 have vC := fun j (hj : j < 4) => Oz h0 hm k hj
 have vl0 : (oX (B5 n coin box L C) k 0).length = n.toNat := lH _ _ _
 have vl4 : (oX (B5 n coin box L C) k 4).length = n.toNat := lH _ _ _
 have wl0 : (ints (oX (B5 n coin box L C) k 0)).length = n.toNat := by rw [aR]; exact vl0
 have wl4 : (ints (oX (B5 n coin box L C) k 4)).length = n.toNat := by rw [aR]; exact vl4
 have vC : ∀ j, j < n.toNat -> (1 <= (oX (B5 n coin box L C) k 0).getD j 0 /\ (oX (B5 n coin box L C) k 0).getD j 0 <= 3) /\ ((oX (B5 n coin box L C) k 0).getD j 0 = 1 -> decide (0 <= bK T (j : Int) k) = true) /\ ((oX (B5 n coin box L C) k 0).getD j 0 = 2 -> decide (0 <= bK T (j : Int) k) = false) := fun j hj => by
  have e : (oX (B5 n coin box L C) k 0).getD j 0 = CM (B5 n coin box L C) k (0 + j) := BY hj
  rw [e]; exact vC j (by omega)
 have hMl : (ints ((List.range (T.length + 1)).map (bZ box coin T))).length = T.length + 1 := by rw [aR, List.length_map, List.length_range]
 have hMl2 : ((List.range (T.length + 1)).map (bZ box coin T)).length = T.length + 1 := by rw [List.length_map, List.length_range]
 have hMk : ((List.range (T.length + 1)).map (bZ box coin T)).getD k 0 = bZ box coin T k := by simp [List.getD, show k < T.length + 1 by omega]
 rw [<- hMk] at q1 t1
 have iCO := fun j : Nat => uQ T k (j : Int) (by omega) hkT
 generalize oX (B5 n coin box L C) k 0 = C0 at *
 generalize oX (B5 n coin box L C) k 4 = C4 at *
 generalize (List.range (T.length + 1)).map (bZ box coin T) = MS at *
 generalize (fL (B5 n coin box L C) k Mo.box).foldl min ((fL (B5 n coin box L C) k Mo.box).getD 0 0) = r1 at *
 generalize (fL (B5 n coin box L C) k Mo.box).foldl max ((fL (B5 n coin box L C) k Mo.box).getD 0 0) = r2 at *
 generalize gT T T.length = mx at *
 obtain ⟨g, hg⟩ : ∃ g : Nat -> Int, g = fun a : Nat => bK T (a : Int) k := ⟨_, rfl⟩
 have hgj : ∀ j : Nat, bK T (j : Int) k = g j := fun j => by rw [hg]
 simp only [hgj] at iCO vC
 rw [<- hg] at t1
 have s1 := zI g n.toNat
 obtain ⟨S, hS⟩ : ∃ S, Ap g n.toNat = S := ⟨_, rfl⟩
 rw [hS] at t1 s1
 obtain ⟨P, Q, hP, hQ, f1, f2, f3, f4⟩ := Gw hn vl0 vC hS
 have hX := EK t1 hc.1
 have hp1 : 0 <= coin * S := Int.mul_nonneg (by omega) s1.1
 have hp2 : coin * S <= 99 * 4 := Int.le_trans (Int.mul_le_mul_of_nonneg_right hc.2 s1.1) (Int.mul_le_mul_of_nonneg_left (by omega) (by omega))
 repeat' ((first | refine Qw ?_ | refine Qf i1 ?_ | refine Qf i2 ?_ | refine Qf i3 ?_ | refine Qf iH ?_ | refine Qf iR ?_ | refine Qf iRF ?_ | refine Qv ?_) <;> conv => whnf)
 rw [hk]
 repeat' ((first | refine Qw ?_ | refine Qf iB ?_ | refine Qf iTr ?_ | refine Qf iO ?_ | refine Qf iM ?_ | refine Qf iP ?_ | refine Qv ?_) <;> conv => whnf)
 rw [hX]
 repeat' ((first | refine Qw ?_ | refine Qf f1 ?_ | refine Qv ?_) <;> conv => whnf)
 refine WSt.mks1 (m := n.toNat) (by show some _ = some _; rw [Int.toNat_of_nonneg (by omega)]) (by show some _ = some _; rw [Int.toNat_of_nonneg (by omega)]) (by omega) ?_; conv => whnf
 rw [<- Sj g n.toNat]
 repeat' ((first | refine Qw ?_ | refine Qv ?_) <;> conv => whnf)
 refine Rn.loop (fun j : Nat => (⟨(.n (.n (.n (.n .e (some (.pt (.o .h) 0 0)) .e) (some (.pt .h 0 0)) (.n (.n .e (some (.pt (.o (.o .h)) 0 0)) .e) none .e)) none (.n (.n .e (some (.i .i64 (k : Int))) .e) none (.n (.n .e (some (.i .i64 ((j : Nat) : Int))) .e) (some (.pt (.i .h) 0 0)) .e))) none (.n (.n (.n .e (some (.lst 3 (aD aM T))) .e) none (.n (.n .e (some (.sl (.i (.o .h)) 0 n.toNat 0 1)) .e) none .e)) none (.n (.n (.n .e (some (.i .i64 S)) .e) none .e) none .e))), (.n (.n (.n .e (some (.cells false [.o (.lst 1 P) 0, .o (.lst 3 Q) 0, .o (.i .i64 0) 0, .o (.i .i64 0) 0] 1)) .e) (some (jU n coin box L C)) .e) (some (jU n coin box ls cs)) (.n (.n .e (some (blk1 (xS g n.toNat (j)))) .e) (some (.cells false [.o (.i .i64 r1) 0, .o (.i .i64 r2) 0] 1)) .e)), (.o (.i .h)), none⟩ : X)) (fun j => j <= n.toNat) (fun j => n.toNat - j) 0 ?_ (Nat.zero_le _) ?_
 ·refine X.le.mk ?_ ?_ (Nat.le_refl _) rfl rfl
  all_goals (repeat' first | exact Ev.T.le_e _ | exact Ev.T.le_refl _ | refine Ev.T.le_some ?_ rfl ?_ | refine Ev.T.le_none ?_ ?_ | refine Ev.T.le_ee ?_ ?_)
 intro j hj
 have hj : j <= n.toNat := hj
 conv => whnf
 repeat' ((first | refine Qw ?_ | refine Qv ?_) <;> conv => whnf)
 refine WB.dec (fun h => ?_) (fun h => ?_) <;> conv => whnf
 ·have hlt : j < n.toNat := by omega
  have iC := iCO j
  have hl := Dd g n.toNat j
  repeat' ((first | refine Qw ?_ | refine Qf iC ?_ | refine Qv ?_) <;> conv => whnf)
  refine WB.dec (fun h2 => ?_) (fun h2 => ?_) <;> conv => whnf
  ·repeat' ((first | refine Qw ?_ | refine Qv ?_) <;> conv => whnf)
   refine WSt.ixsO (m := j) rfl rfl rfl hlt ?_; conv => whnf
   refine wSt.st1 (lo := 0) (v0 := .i .i64 ((xS g n.toNat j).getD j 0)) rfl rfl rfl rfl (by rw [List.getElem?_map, List.getElem?_eq_getElem (by omega)]; simp [List.getD, show j < (xS g n.toNat j).length by omega]) (Nat.le_refl _) ?_; conv => whnf
   repeat' ((first | refine Qw ?_ | refine Qv ?_) <;> conv => whnf)
   refine Again.to (j + 1) (by omega) (show j + 1 <= n.toNat by omega) (Nat.le_refl _) ?_
   rw [Ik, NI g n.toNat j h2]
   refine Shr.of ?_ ?_ rfl rfl
   ·exact Rw
   ·(repeat' first | exact Rel.e | refine Rel.some ?_ ?_ ?_ | refine Rel.none ?_ ?_ | refine Rel.ee ?_ ?_)
    all_goals first | exact Ro aZ | exact Ro (ShC.blk1 _) | (refine Ro (ShC.same ?_); (repeat' first | exact ShC.nl | refine ShC.cn ?_ ?_) <;> first | exact .pu trivial | exact .pu hP | exact .pu hQ)
  ·repeat' ((first | refine Qw ?_ | refine Qv ?_) <;> conv => whnf)
   refine Again.to (j + 1) (by omega) (show j + 1 <= n.toNat by omega) (Nat.le_refl _) ?_
   rw [Lb g n.toNat j h2]
   refine Shr.of ?_ ?_ rfl rfl
   ·exact Rw
   ·(repeat' first | exact Rel.e | refine Rel.some ?_ ?_ ?_ | refine Rel.none ?_ ?_ | refine Rel.ee ?_ ?_)
    all_goals first | exact Ro aZ | exact Ro (ShC.blk1 _) | (refine Ro (ShC.same ?_); (repeat' first | exact ShC.nl | refine ShC.cn ?_ ?_) <;> first | exact .pu trivial | exact .pu hP | exact .pu hQ)
 ·obtain rfl : j = n.toNat := by omega
  repeat' ((first | refine Qw ?_ | refine Qf f2 ?_ | refine Qf f3 ?_ | refine Qv ?_) <;> conv => whnf)
  refine WCall.borrow f4 (.cons (.pu ?_) (.cons (Fz.blk1 (fun h => h) rfl (Dd g n.toNat n.toNat)) .nil)) trivial ?_
  ·unfold Pu aO
   exact ⟨hP, hQ, trivial, trivial, trivial⟩
  conv => whnf
  repeat' ((first | refine Qw ?_ | refine Qv ?_) <;> conv => whnf)
  refine WSt.eqr2 (a := n - S) (b := n - S) (a' := n - S) (b' := n - S) rfl rfl (cL (by omega) (by omega)) (cL (by omega) (by omega)) (cL (by omega) (by omega)) (cL (by omega) (by omega)) ?_; conv => whnf
  repeat' ((first | refine Qw ?_ | refine Qf LF ?_ | refine Qv ?_) <;> conv => whnf)
  exact Fin.b rfl rfl
theorem main_topStand (AW : PureF Try.prog p69.ix [] (.b true)) {es : List D} (fit : FitP [(true, [.i .i64, .i .i64, .i .i64, .sl [.i .i64, .i .i64, .i .i64], .sl [.i .i64, .i .i64, .i .i64]]), (false, [.sl [.i .u16]]), (false, [.i .u8])] es) : PureF Try.prog 19 es (.b true) := by
 obtain ⟨n, coin, box, ls, cs, _, rfl, g1⟩ := fit.book
 obtain ⟨ws, _, rfl, w0, g2⟩ := g1.nums
 obtain ⟨a, _, rfl, w1, g3⟩ := g2.i
 obtain rfl := g3.no
 exact BR n coin box ls cs ws a (fun w h => Nq (w0 w h)) (QN w1)
end Go.Ev
namespace Go.Proofs.Ytjgbfnciedkafaa.topStand
open Go.ChangeShapes Go.WideShapes Go.ChangeAt Go.RowKit
open Go.ChangeMaps (open_string shut_string)
set_option linter.unusedVariables false
theorem laid : laidOutB Try.prog = true := faP.laid
theorem own : ownKnob Try.prog.godebug = none := by kernel_rfl
theorem walk {es : List Go.Ev.D} (fit : Go.Ev.FitP [(true, [.i .i64, .i .i64, .i .i64, .sl [.i .i64, .i .i64, .i .i64], .sl [.i .i64, .i .i64, .i .i64]]), (false, [.sl [.i .u16]]), (false, [.i .u8])] es) {args : Array Value} {W : World} (ha : Go.Ev.DVL (Go.Ev.γH W) W es args.toList) :
    Calls Try.prog 19 args W fun e w' => e = .returned (.bool true) ∧ Grown W w' ∧ Below W.heap.size W w' :=
  Go.Ev.PureF.calls (Go.Ev.main_topStand (fun ob nx lg => Go.Ev.lfT ob nx lg) fit) ha
set_option maxRecDepth 100000 in
theorem lifted (os : Os) (started : os.Started) (H : Type) (enc : TypeId × Value → H) :
    ReturnsInHanded {} Try.checked os 19 .any (Rows.topStandSpec.pre6 enc Try.prog Try.f19 Rows.topStandRow.domain false) (Rows.topStandSpec.post enc Try.prog Try.f19 false true false false) := by
  refine returnsInHanded_of_change (C := Try.checked) own started (by kernel_rfl) Try.func19
    (ChangeSpec.witness6 (enc := enc) (C := Try.checked) false ⟨#[], #[.agg #[.int .i64 0, .int .i64 0, .int .i64 0, .slice none 0 0, .slice none 0 0], .slice none 0 0, .int .u8 0], []⟩ 8 (by kernel_rfl) (by kernel_rfl) (by kernel_rfl) (by kernel_rfl)) ?_
  intro W base args ds gs before hval0 hW hcnd _
  have hval : ∀ (j : Nat) t v, Try.f19.params[j]? = some t → args[j]? = some v → Value.okWide Try.prog W .any base t v := hval0
  have hW' := hW
  obtain ⟨p, q, hA0, hV, rfl, hfz, hnd⟩ := hW
  have hA : DataW.TrodAll enc Try.prog W 0 (fun _ => true) true Try.f19.params.toList args.toList ds p := hA0
  rw [Try.params19] at hA hval
  obtain ⟨rfl, rfl⟩ := trodVars_none hV
  obtain ⟨d0, d1, d2, rfl⟩ := Go.Ev.len3 (Go.Ev.trod_len hA)
  clear hA0 hval0
  simp only [List.append_nil] at hW'
  obtain ⟨es, fit, dv⟩ := Go.Ev.open_all (n := 6) (pars := [(true, [.i .i64, .i .i64, .i .i64, .sl [.i .i64, .i .i64, .i .i64], .sl [.i .i64, .i .i64, .i .i64]]), (false, [.sl [.i .u16]]), (false, [.i .u8])]) (by kernel_rfl) hA (fun j t v h1 h2 => hval j t v (by simpa using h1) (by simpa using h2))
  have hlt : ∀ x ∈ p, x.block < W.heap.size := fun x hx => by simpa using hW'.lt x hx
  refine (walk fit dv).mono fun e W' ⟨he, hg, hb⟩ => ?_
  subst he
  exact ⟨_, rfl, post_of_same (pa := p) (pv := []) hW' (fun _ _ _ => (trodAll_cons_mk (shut_bool Try.underlying4 _) trodAll_mk0))
    (fun sp hs => Go.Ev.stays_all laid (Go.Ev.of_allT (by kernel_rfl)) hA (fun x hx => hb.same (hlt x hx)) (fun x hx => hs x hx))
    (fun _ _ => rfl) (List.append_nil _).symm
    (hg.frame _) hg.2.1 (ok_one (by kernel_rfl) rfl (okWide_bool_mk Try.underlying4 _))⟩
theorem over : Rows.topStandRow.holds Try.pinned (OpenSpec.ofChange Rows.topStandSpec) :=
  OpenClaim.holds_of_wide 19 Try.f19 rfl rfl rfl rfl rfl rfl rfl ⟨rfl, rfl, rfl, rfl, rfl⟩ rfl rfl rfl rfl rfl (by kernel_rfl) Try.func19 faTopStand.all
    (of_decide_eq_true (by kernel_rfl)) (by unfold Func.isWrapper; first | (rw [if_pos (by decide +kernel)]; kernel_rfl) | (rw [if_neg (by decide +kernel)]; exact ⟨rfl, rfl⟩))
    (fun os started H enc _ => lifted os started H enc)
theorem proved : Rows.TopStandSaid :=
  over
#print axioms proved
end Go.Proofs.Ytjgbfnciedkafaa.topStand