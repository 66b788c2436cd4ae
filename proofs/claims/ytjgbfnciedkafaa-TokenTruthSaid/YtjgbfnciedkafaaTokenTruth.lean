/-
  The law TokenTruth answers true for every book, list of words and number, and leaves memory as it was, whatever the state of the machine that it starts in. No conditions.
-/
import Derived.Test.YtjgbfnciedkafaaEvUHa
import Derived.Test.YtjgbfnciedkafaaEvUGk
import Derived.Test.YtjgbfnciedkafaaRows
import Derived.WalkKit
import Derived.ProofKit
import Derived.OpenShut
import Derived.Test.YtjgbfnciedkafaaEvUIt
import Derived.ShutString
import Derived.Test.YtjgbfnciedkafaaFaTokenTruth
set_option linter.all false
set_option maxHeartbeats 8000000
namespace Go.Ev
open Go.Proofs
set_option maxRecDepth 1000000
def VQ : Pos := .i p95
def Sl : Pos := .o He
def Tm : Pos := .i He
def TE : Pos := .o p97
def SH : Pos := .i p97
def Sq : Pos := .o IN
def Uw : Pos := .i IN
def Ss : Pos := .o JN
def TN : Pos := .i JN
def UJ : Pos := .o wQ
def TP : Pos := .i wQ
def UK : Pos := .o xS
def Ae : Pos := .i xS
def Px : Pos := .o pQ
def OA : Pos := .i pQ
def Pg : Pos := .o vW
def Pl : Pos := .i vW
def OH : Pos := .o Be
def OM : Pos := .i Be
def QQ : Pos := .o p105
def Si : Pos := .i p105
def Uj : Pos := .o p106
def SM : Pos := .i p106
def To : Pos := .o p107
def UW : Pos := .i p107
def UO : Pos := .o p108
def Ua : Pos := .i p108
def SR : Pos := .o p109
def Rx : Pos := .i p109
def TW : Pos := .o p110
def RN : Pos := .i p110
def UV : Pos := .o p111
def Ui : Pos := .i p111
def OC : Pos := .o p112
def TO : Pos := .i p112
def TU : Pos := .o p113
def Tl : Pos := .i p113
def VW : Pos := .o p114
def RH : Pos := .i p114
def Uq : Pos := .o p115
def Vr : Pos := .i p115
def SE : Pos := .o p116
def As : Pos := .i p116
def Ob : Pos := .o p117
def Or : Pos := .i p117
def Rh : Pos := .o p118
def Qx : Pos := .i p118
def PO : Pos := .o p119
def QO : Pos := .i p119
def Pc : Pos := .o p120
def Tb : Pos := .i p120
def TR : Pos := .o p121
def Vh : Pos := .i p121
def Tj : Pos := .o p122
def rI : Pos := .i p122
def PD : Pos := .o p123
def Rg : Pos := .i p123
def Pq : Pos := .o p124
def QN : Pos := .i p124
def Pi : Pos := .o p125
def QX : Pos := .i p125
def QA : Pos := .o Bo
def QR : Pos := .i Bo
def Pb : Pos := .o Du
def PI : Pos := .i Du
def PG : Pos := .o Dp
def OT : Pos := .i Dp
def Ur : Pos := .o DU
def OY : Pos := .i DU
def PN : Pos := .o GU
def VL : Pos := .i GU
noncomputable def Zk : RC := (Sr [(.u (.box p4 p1)), (.u (.mv p7 (.k (.b false))))] (.seq (Sr [(Fd p33 p4 0), (L1 p34 p33), (Cf kH p36 [p34, (K_ 1), (K_ 4)]), (.u (.un p36 .not kH)), (Mv lA p36), (Gs lA false nA (.fad nA p4 1)), (Gs lA false p39 (.ld1 p39 nA)), (Gs lA false p40 (.cf (some p40) p36 [p39, (K_ 1), (K_ 99)])), (Gs lA false p41 (.un p41 .not p40)), (Po pS lA p41), (Mv lT pS), (Gs lT false p44 (.fad p44 p4 2)), (Gs lT false sO (.ld1 sO p44)), (Gs lT false xA (.cf (some xA) p36 [sO, (K_ 0), (K_ 999)])), (Gs lT false p47 (.un p47 .not xA)), (Po p48 lT p47)] (.cond p48 (Sr [(Cf AZ p22 []), (Mv p7 AZ)] .ret) .skip)) (Sr [(bM Bs p4 5), (Mv Bv p2), (Cf Br p54 [Bs, Bv]), (Mv uK Br), (.u (.ext p54 uK 0)), (.u (.ext p55 uK 1)), (.u (.new p8 [(.i .i64 0), (.i .i64 0), (.i .i64 0), .ns, .ns])), (.u (.st p8 p54 5)), (Mv p9 p55)] (.seq (Sr [(bM p56 p8 5), (Cf p57 p55 [p56]), (.u (.un p58 .not p57))] (.cond p58 (Sr [(Cf p59 p22 []), (Mv p7 p59)] .ret) .skip)) (Sr [(Mv p60 p3), (.u (.cvi De .i64 p60)), (Mv DZ p9), (.u (.len p63 DZ)), (cD Gm .add p63 1), (dY DA .rem De Gm), (Mv p10 DA)] (Sr [(bM KT p8 5), (Cf KL p24 [KT]), (Mv Jd p9), (Cf p70 p25 [Jd]), (Cf Fs p23 [KL, p70]), (Mv EL Fs), (.u (.ext JF EL 0)), (.u (.ext Iz EL 1)), (.u (.ext Ip EL 2)), (Mv bD JF), (Mv bF Iz), (Mv bG Ip)] (Sr [(bM p76 p8 5), (Cf p77 p24 [p76]), (Mv p78 p10), (Cf p79 p34 [p77, p78]), (Mv p75 p79), (.u (.ext p80 p75 0)), (.u (.ext p81 p75 1)), (.u (.ext p82 p75 2)), (Mv bH p80), (Mv bN p81), (Mv bP p82)] (Sr [(bM p84 p8 5), (Cf p85 p24 [p84]), (Mv p86 p10), (Cf p87 p39 [p85, p86]), (Mv HV p87), (.u (.ext HO HV 0)), (.u (.ext p89 HV 1)), (.u (.new bX [(.i .i64 0), (.i .i64 0)])), (.u (.st bX HO 2)), (Mv bS p89)] (Sr [(bM KS p8 5), (Cf p92 p24 [KS]), (Cf p93 p40 [p92]), (Mv Hl p93), (.u (.ext p94 Hl 0)), (.u (.ext p95 Hl 1)), (.u (.new cH [(.i .i64 0), (.i .i64 0)])), (.u (.st cH p94 2)), (Mv cB p95)] (Sr [(bM p97 p8 5), (Cf IN p24 [p97]), (Cf JN p48 [IN]), (Mv He JN), (.u (.ext wQ He 0)), (.u (.ext xS He 1)), (Mv p21 wQ), (Mv p22 xS)] (Sr [(bM vW p8 5), (Cf Be p24 [vW]), (Cf p105 p47 [Be]), (Mv pQ p105), (.u (.ext p106 pQ 0)), (.u (.ext p107 pQ 1)), (Mv p23 p106), (Mv p24 p107)] (.seq (.seq (.drw [(Mv p108 bG), (cD p109 .neq p108 0), (Mv p110 p109), (Gs p110 false p111 (.mv p111 bP)), (Gs p110 false p112 (.bin p112 .neq p111 (K_ 0))), (Po p113 p110 p112), (Mv p114 p113), (Gs p114 false p115 (.mv p115 bS)), (Gs p114 false p116 (.bin p116 .neq p115 (K_ 0))), (Po p117 p114 p116), (Mv p118 p117), (Gs p118 false p119 (.mv p119 cB)), (Gs p118 false p120 (.bin p120 .neq p119 (K_ 0))), (Po p121 p118 p120), (Mv p122 p121), (Gs p122 false p123 (.mv p123 p22)), (Gs p122 false p124 (.bin p124 .neq p123 (K_ 0))), (Po p125 p122 p124), (Mv Bo p125), (Gs Bo false Du (.mv Du p21)), (Gs Bo false Dp (.len Dp Du)), (Gs Bo false DU (.bin DU .neq Dp (K_ 0))), (Po GU Bo DU), (Mv GN GU), (Gs GN false IA (.mv IA p24)), (Gs GN false KO (.bin KO .neq IA (K_ 7))), (Po LI GN KO), (Mv p135 LI), (Gs p135 false p136 (.mv p136 bD)), (Gs p135 false p137 (.len p137 p136)), (Gs p135 false p138 (.mv p138 p9)), (Gs p135 false p139 (.len p139 p138)), (Gs p135 false p140 (.bin p140 .add p139 (K_ 1))), (Gs p135 false p141 (.bin p141 .neq p137 p140)), (Po p142 p135 p141), (Mv p143 p142), (Gs p143 false p144 (.mv p144 bH)), (Gs p143 false p145 (.len p145 p144)), (Gs p143 false Ig (.fad Ig p4 0)), (Gs p143 false Hw (.ld1 Hw Ig)), (Gs p143 false Ld (.bin Ld .neq p145 Hw)), (Po LN p143 Ld), (Mv Bn LN), (Gs Bn false IQ (.mv IQ bN)), (Gs Bn false Kl (.len Kl IQ)), (Gs Bn false HS (.fad HS p4 0)), (Gs Bn false Iw (.ld1 Iw HS)), (Gs Bn false JO (.bin JO .neq Kl Iw)), (Po p156 Bn JO), (Mv vF p156), (Gs vF false p158 (.ldn p158 p8 5)), (Gs vF false p159 (.cf (some p159) p24 [p158])), (Gs vF false p160 (.mv p160 p9)), (Gs vF false p161 (.cf (some p161) p25 [p160])), (Gs vF false Aq (.cf (some Aq) p26 [p159, p161])), (Gs vF false GA (.un GA .not Aq)), (Po Jp vF GA), (Mv p165 Jp), (Gs p165 false GB (.mv GB bD)), (Gs p165 false Js (.mv Js p10)), (Gs p165 false Hz (.ixs Hz 1 GB Js)), (Gs p165 false IC (.ld1 IC Hz)), (Gs p165 false Iu (.ldn Iu bX 2)), (Gs p165 false HM (.cf (some HM) p56 [IC, Iu])), (Gs p165 false Kv (.un Kv .not HM)), (Po Lv p165 Kv), (Mv CE Lv), (Gs CE false KR (.mv KR bF)), (Gs CE false PZ (.ldn PZ cH 2)), (Gs CE false Pr (.cf (some Pr) p56 [KR, PZ])), (Gs CE false PF (.un PF .not Pr)), (Po Sb CE PF)] [0, 1, 3, 7, 15, 31, 63, 127, 255, 511, 1023, 2047, 4095, 8191, 16383, 32767, 65535, 131071, 262143, 524287, 1048575, 2097151, 4194303, 8388607, 16777215, 33554431, 67108863, 134217727, 268435455, 536870911, 268435455, 1342177279, 3489660927, 8589934591, 17179869183, 34359738367, 68719476735, 137438953471, 68719476735, 343597383679, 1099511627775, 2199023255551, 4398046511103, 8796093022207, 17592186044415, 8796093022207, 43980465111039, 140737488355327, 281474976710655, 562949953421311, 1125899906842623, 2251799813685247, 1125899906842623, 9007199254740991, 18014398509481983, 36028797018963967, 72057594037927935, 144115188075855871, 288230376151711743, 288230376151711743, 1152921504606846975, 2305843009213693951, 288230376151711743, 9223372036854775807, 18446744073709551615, 36893488147419103231, 73786976294838206463, 147573952589676412927, 147573952589676412927, 590295810358705651711, 1180591620717411303423, 2361183241434822606847]) (.cond Sb (Sr [(.u (.mv p7 (.k (.b false))))] .ret) .skip)) (Sr [(.u (.mv p25 (K_ 0))), (.u (.mv p26 (K_ 0)))] (.seq (Sr [(.u (.mv eB (K_ 0)))] (.blk 0 (.loop (.seq (Sr [(Mv Vb eB), (Fd Tq p4 0), (L1 Vm Tq), (dY TG .lss Vb Vm)] (.cond TG .skip (.exit 0))) (.seq (.blk 1 (Sr [(Mv RE p9), (Mv Tw p10), (Mv Uu eB), (Cf Uc p57 [RE, Tw, Uu]), (cD VX .geq Uc 0), (Mv VQ p9), (Mv Sl p10), (Mv Tm eB), (Cf TE p58 [VQ, Sl, Tm]), (cD SH .geq TE 0), (Mv p28 VX), (Mv fA SH)] (.seq (Sr [(Mv Sq bH), (Mv Uw eB), (.u (.ixs Ss 1 Sq Uw)), (L1 TN Ss), (Mv UJ p28), (Cf TP p59 [TN, UJ]), (.u (.un UK .not TP)), (Mv Ae UK), (Gs Ae false Px (.mv Px bN)), (Gs Ae false OA (.mv OA eB)), (Gs Ae false Pg (.ixs Pg 1 Px OA)), (Gs Ae false Pl (.ld1 Pl Pg)), (Gs Ae false OH (.mv OH fA)), (Gs Ae false OM (.cf (some OM) p59 [Pl, OH])), (Gs Ae false QQ (.un QQ .not OM)), (Po Si Ae QQ)] (.cond Si (Sr [(.u (.mv p7 (.k (.b false))))] .ret) .skip)) (.seq (Sr [(Mv Uj p28)] (.cond Uj (.reg [(Mv SM p25), (cD To .add SM 1), (Mv p25 To)]) .skip)) (Sr [(Mv UW fA)] (.cond UW (.reg [(Mv UO p26), (cD Ua .add UO 1), (Mv p26 Ua)]) .skip)))))) (.reg [(Mv UL eB), (cD Sh .add UL 1), (Mv eB Sh)])))))) (.seq (Sr [(.u (.mv eG (K_ 0)))] (.blk 2 (.loop (.seq (Sr [(Mv SR eG), (Mv Rx p9), (.u (.len TW Rx)), (dY RN .lss SR TW)] (.cond RN .skip (.exit 2))) (.seq (.blk 3 (Sr [(bM TO p8 5), (Cf TU p24 [TO]), (Mv Tl eG), (Cf VW p44 [TU, Tl]), (Mv OC VW), (.u (.ext RH OC 0)), (.u (.ext Uq OC 1)), (Mv p31 RH), (Mv iD Uq)] (Sr [(Mv Vr iD), (cD SE .neq Vr 0), (Mv As SE), (Gs As false Ob (.mv Ob p31)), (Gs As false Or (.mv Or p9)), (Gs As false Rh (.mv Rh eG)), (Gs As false Qx (.ixs Qx 3 Or Rh)), (Gs As false PO (.ldn PO Qx 3)), (Gs As false QO (.cf (some QO) p60 [Ob, PO])), (Gs As false Pc (.un Pc .not QO)), (Po Tb As Pc)] (.cond Tb (Sr [(.u (.mv p7 (.k (.b false))))] .ret) .skip)))) (.reg [(Mv UV eG), (cD Ui .add UV 1), (Mv eG Ui)])))))) (.seq (.drw [(Mv TR p25), (Mv Vh p26), (dY Tj .eql TR Vh), (Mv rI Tj), (Gs rI true PD (.mv PD bD)), (Gs rI true Rg (.mv Rg p10)), (Gs rI true Pq (.ixs Pq 1 PD Rg)), (Gs rI true QN (.ld1 QN Pq)), (Gs rI true Pi (.fad Pi p4 2)), (Gs rI true QX (.ld1 QX Pi)), (Gs rI true QA (.fad QA p4 1)), (Gs rI true QR (.ld1 QR QA)), (Gs rI true Pb (.mv Pb p25)), (Gs rI true PI (.bin PI .mul QR Pb)), (Gs rI true PG (.bin PG .add QX PI)), (Gs rI true OT (.bin OT .eql QN PG)), (Pa Ur rI OT), (Mv OY Ur), (Gs OY true PN (.cf (some PN) p22 [])), (Pa VL OY PN), (Mv p7 VL)] [0, 0, 3, 7, 15, 15, 63, 127, 15, 271, 15, 1039, 15, 7183, 16143, 32767, 65535, 131071, 262143, 524287, 1048575]) .ret))))))))))))))))
def Zp : List RR := [(.t p7)]
theorem Zt : FnOk Try.prog p10.ix 261 Zk Zp := dU Try.f9 Try.func9
end Go.Ev
namespace Go.Ev
open Go.Proofs
set_option maxRecDepth 100000
theorem JV {B : Bk} (V : VB B) {line : Nat} (hl : line < B.ls.length) {a : Ln} (h : Ba B.n (B.ls.getD line default) a = true) : kY a := by
 obtain ⟨h1, h2, h3⟩ := V.rd hl h
 exact ⟨cJ (by omega) (by omega), cJ (by omega) (by omega), cJ (by omega) (by omega)⟩
theorem GG : ∀ e : _root_.Fin 9, iQ 0 e.1 = [] := by decide +kernel
theorem AF (n coin box : Int) (ls : List Ln) (cs : List Ct) (ws : List Int) (after : Int) (hws : ∀ w ∈ ws, 0 <= w /\ w <= 65535) (w1 : 0 <= after /\ after <= 255) (AW : PureF Try.prog p22.ix [] (.b true)) : PureF Try.prog p10.ix [.ag [.i .i64 n, .i .i64 coin, .i .i64 box, .lst 3 (aC aI ls), .lst 3 (aC cX cs)], .lst 1 (aC rA ws), .i .u8 after] (.b true) := by
 have i1 := nM n 1 4
 have i2 := nM coin 1 99
 have i3 := nM box 0 999
 refine PureF.run Zt (by simp) (by simp [aO, dE, Pu, aB, aE, dD]) ?_; conv => whnf
 cases h1 : fY n 1 4 with
 | false =>
   rw [h1] at i1
   repeat' ((first | refine Qw ?_ | refine Qf i1 ?_ | refine Qf AW ?_ | refine Qv ?_) <;> conv => whnf)
   exact Fin.b rfl rfl
 | true =>
 rw [h1] at i1
 cases h2 : fY coin 1 99 with
 | false =>
   rw [h2] at i2
   repeat' ((first | refine Qw ?_ | refine Qf i1 ?_ | refine Qf i2 ?_ | refine Qf AW ?_ | refine Qv ?_) <;> conv => whnf)
   exact Fin.b rfl rfl
 | true =>
 rw [h2] at i2
 cases h3 : fY box 0 999 with
 | false =>
   rw [h3] at i3
   repeat' ((first | refine Qw ?_ | refine Qf i1 ?_ | refine Qf i2 ?_ | refine Qf i3 ?_ | refine Qf AW ?_ | refine Qv ?_) <;> conv => whnf)
   exact Fin.b rfl rfl
 | true =>
 rw [h3] at i3
 have hn := aP.1 h1
 have hc := aP.1 h2
 have hb := aP.1 h3
 obtain ⟨v, ⟨T, L, C, rfl, hT8, hC3, hHI, hCg⟩, iH⟩ := LU n coin box ls cs ws hws hn hb hc
 have iR := MH n coin box L C
 unfold CT at iR
 cases hR : wJ n coin box L C with
 | false =>
   rw [hR] at iR
   repeat' ((first | refine Qw ?_ | refine Qf i1 ?_ | refine Qf i2 ?_ | refine Qf i3 ?_ | refine Qf iH ?_ | refine Qf iR ?_ | refine Qf AW ?_ | refine Qv ?_) <;> conv => whnf)
   exact Fin.b rfl rfl
 | true =>
 rw [hR] at iR
 obtain ⟨l8, l4, h0⟩ := Kg hR
 have V := VB.of h0
 have hm := Ph h0 hHI hCg
 have hlen : L.length = T.length := hHI.len
 have e1 := aD aI T
 have b1 := Int.tmod_nonneg (((aC aI T).length : Int) + 1) w1.1
 have b2 := Int.tmod_lt_of_pos after (show (0 : Int) < ((aC aI T).length : Int) + 1 by omega)
 obtain ⟨k, hk⟩ := Int.eq_ofNat_of_zero_le b1
 have hkT : k <= T.length := by omega
 have hwf : ∀ r ∈ T, kY r := fun r hr => by
  obtain ⟨i, hi, e⟩ := Bz (d := default) hr
  have h := (MZ h0 hm) i hi
  rw [<- e]
  exact JV V (by show i < L.length; omega) h.1
 have hfit : qJ n coin box L C T = true := (jW V).1 hm
 have hfol : bY n L T = true := by
  rw [pX hn (show L.all (cQ n) = true from V.ls), hHI.rd, hHI.poss]; rfl
 have iB := Rb n coin box L C (by omega) (by omega)
 have iTr := FC T (by omega)
 have iP := QE n coin box L C T (by omega) hwf
 rw [HB h0 hfol] at iP
 have iP : PureF Try.prog p23.ix [.ag [.i .i64 n, .i .i64 coin, .i .i64 box, .lst 3 (aC aI L), .lst 3 (aC cX C)], .lst 3 (aC aI T)] (.tp [.lst 1 (ints ((List.range (T.length + 1)).map (cL box coin T))), .i .i64 (gO T T.length), .i .i64 0]) := iP
 have iPr := MQ n coin box L C T (by omega) hwf
 rw [GT h0, hfit] at iPr
 have hh := Ap h0 hm
 have hin : fY (k : Int) 0 (L.length : Int) = true := aP.2 ⟨by omega, by omega⟩
 have iO := OP n coin box L C (k : Int)
 unfold NU at iO
 rw [hin, oM h0 hh, if_pos rfl, Int.toNat_natCast] at iO
 have iM := Ki n coin box L C (k : Int)
 unfold On at iM
 rw [hin, oM h0 hh, if_pos rfl, Int.toNat_natCast] at iM
 have iX := Ie n coin box L C
 unfold Oh at iX
 rw [oM h0 hh, if_pos rfl] at iX
 have iL := JP n coin box L C
 unfold FX at iL
 rw [if_pos h0, Rc h0 hm] at iL
 have iL : PureF Try.prog p48.ix [.ag [.i .i64 n, .i .i64 coin, .i .i64 box, .lst 3 (aC aI L), .lst 3 (aC cX C)]] (.tp [lY (iQ 0 L.length), .i .i64 0]) := iL
 rw [GG ⟨L.length, by omega⟩] at iL
 have iL : PureF Try.prog p48.ix [.ag [.i .i64 n, .i .i64 coin, .i .i64 box, .lst 3 (aC aI L), .lst 3 (aC cX C)]] (.tp [.ns, .i .i64 0]) := iL
 have iF := JM n coin box L C
 unfold DT at iF
 rw [if_pos h0, KI h0 hm] at iF
 have iF : PureF Try.prog p47.ix [.ag [.i .i64 n, .i .i64 coin, .i .i64 box, .lst 3 (aC aI L), .lst 3 (aC cX C)]] (.tp [.i .i64 0, .i .i64 7]) := iF
 have q1 := HN h0 hm k Mo.box
 have q1 : _ <= cL box coin T k /\ cL box coin T k <= _ := q1
 have q2 := HN h0 hm L.length Mo.mix
 have q2 : _ <= gO T L.length /\ gO T L.length <= _ := q2
 rw [hlen] at q2 iX
 have ii2 := Tx _ _ _ q2
 unfold BP at iM iX
 obtain ⟨t1, t2⟩ := QI h0 hm hkT
 have vC := fun j (hj : j < 4) => QJ h0 hm k hj
 have vT := fun j (hj : j < 4) => PS h0 hm k hj
 have vl0 : (nJ (B5 n coin box L C) k 0).length = n.toNat := mJ _ _ _
 have vl4 : (nJ (B5 n coin box L C) k 4).length = n.toNat := mJ _ _ _
 have wl0 : (ints (nJ (B5 n coin box L C) k 0)).length = n.toNat := by rw [aU]; exact vl0
 have wl4 : (ints (nJ (B5 n coin box L C) k 4)).length = n.toNat := by rw [aU]; exact vl4
 have vC : ∀ j, j < n.toNat -> (1 <= (nJ (B5 n coin box L C) k 0).getD j 0 /\ (nJ (B5 n coin box L C) k 0).getD j 0 <= 3) /\ ((nJ (B5 n coin box L C) k 0).getD j 0 = 1 -> decide (0 <= aZ T (j : Int) k) = true) /\ ((nJ (B5 n coin box L C) k 0).getD j 0 = 2 -> decide (0 <= aZ T (j : Int) k) = false) := fun j hj => by
  have e : (nJ (B5 n coin box L C) k 0).getD j 0 = yD (B5 n coin box L C) k (0 + j) := AK hj
  rw [e]; exact vC j (by omega)
 have vT : ∀ j, j < n.toNat -> (1 <= (nJ (B5 n coin box L C) k 4).getD j 0 /\ (nJ (B5 n coin box L C) k 4).getD j 0 <= 3) /\ ((nJ (B5 n coin box L C) k 4).getD j 0 = 1 -> decide (0 <= bB T (j : Int) k) = true) /\ ((nJ (B5 n coin box L C) k 4).getD j 0 = 2 -> decide (0 <= bB T (j : Int) k) = false) := fun j hj => by
  have e : (nJ (B5 n coin box L C) k 4).getD j 0 = yD (B5 n coin box L C) k (4 + j) := AK hj
  rw [e]; exact vT j (by omega)
 have hMl : (ints ((List.range (T.length + 1)).map (cL box coin T))).length = T.length + 1 := by rw [aU, List.length_map, List.length_range]
 have hMl2 : ((List.range (T.length + 1)).map (cL box coin T)).length = T.length + 1 := by rw [List.length_map, List.length_range]
 have hMk : ((List.range (T.length + 1)).map (cL box coin T)).getD k 0 = cL box coin T k := by simp [List.getD, show k < T.length + 1 by omega]
 rw [<- hMk] at q1 t1
 have ii1 := Tx _ _ _ q1
 generalize nJ (B5 n coin box L C) k 0 = C0 at *
 generalize nJ (B5 n coin box L C) k 4 = C4 at *
 generalize (List.range (T.length + 1)).map (cL box coin T) = MS at *
 generalize (eV (B5 n coin box L C) k Mo.box).foldl min ((eV (B5 n coin box L C) k Mo.box).getD 0 0) = r1 at *
 generalize (eV (B5 n coin box L C) k Mo.box).foldl max ((eV (B5 n coin box L C) k Mo.box).getD 0 0) = r2 at *
 generalize (eV (B5 n coin box L C) T.length Mo.mix).foldl min ((eV (B5 n coin box L C) T.length Mo.mix).getD 0 0) = q3 at *
 generalize (eV (B5 n coin box L C) T.length Mo.mix).foldl max ((eV (B5 n coin box L C) T.length Mo.mix).getD 0 0) = q4 at *
 generalize gO T T.length = mx at *
 repeat' ((first | refine Qw ?_ | refine Qf i1 ?_ | refine Qf i2 ?_ | refine Qf i3 ?_ | refine Qf iH ?_ | refine Qf iR ?_ | refine Qf iB ?_ | refine Qf iTr ?_ | refine Qf iP ?_ | refine Qv ?_) <;> conv => whnf)
 rw [hk]
 repeat' ((first | refine Qw ?_ | refine Qf iB ?_ | refine Qf iTr ?_ | refine Qf iP ?_ | refine Qf iO ?_ | refine Qf iM ?_ | refine Qf iX ?_ | refine Qf iL ?_ | refine Qf iF ?_ | refine Qf iPr ?_ | refine Qf ii1 ?_ | refine Qf ii2 ?_ | refine Qv ?_) <;> conv => whnf)
 refine Rn.loop (fun j : Nat => (⟨(.n (.n (.n (.n .e (some (.pt (.o .h) 0 0)) .e) (some (.pt .h 0 0)) .e) none (.n (.n .e (some (.i .i64 (k : Int))) (.n .e (some (.i .i64 (jH (fun a => bB T (a : Int) k) j))) .e)) none (.n .e (some (.lst 1 (ints C0))) .e))) none (.n (.n (.n .e (some (.lst 3 (aC aI T))) (.n .e (some (.i .i64 (jH (fun a => aZ T (a : Int) k) j))) .e)) none .e) none (.n (.n .e (some (.lst 1 (ints MS))) (.n .e (some (.i .i64 ((j : Nat) : Int))) .e)) none (.n .e (some (.lst 1 (ints C4))) .e)))), (.n (.n .e (some (fL n coin box L C)) .e) (some (fL n coin box ls cs)) .e), (.i (.o .h)), none⟩ : X)) (fun j => j <= n.toNat) (fun j => n.toNat - j) 0 ?_ (Nat.zero_le _) ?_
 ·refine X.le.mk ?_ ?_ (Nat.le_refl _) rfl rfl
  all_goals (repeat' first | exact Ev.T.le_e _ | exact Ev.T.le_refl _ | refine Ev.T.le_some ?_ rfl ?_ | refine Ev.T.le_none ?_ ?_ | refine Ev.T.le_ee ?_ ?_)
 intro j hj
 have hj : j <= n.toNat := hj
 have s1 := Di (fun a => aZ T (a : Int) k) j
 have s2 := Di (fun a => bB T (a : Int) k) j
 conv => whnf
 repeat' ((first | refine Qw ?_ | refine Qv ?_) <;> conv => whnf)
 refine WB.dec (fun h => ?_) (fun h => ?_) <;> conv => whnf
 ·have hlt : j < n.toNat := by omega
  have iCO := vJ T k (j : Int) (by omega) hkT
  have iTO := xE T k (j : Int) (by omega) hkT
  obtain ⟨x1, x2, x3⟩ := vC j hlt
  obtain ⟨y1, y2, y3⟩ := vT j hlt
  have iS1 := Cr (C0.getD j 0) (decide (0 <= aZ T (j : Int) k)) x1 x2 x3
  have Hn := Cr (C4.getD j 0) (decide (0 <= bB T (j : Int) k)) y1 y2 y3
  by_cases hc : 0 <= aZ T (j : Int) k
  ·by_cases ht : 0 <= bB T (j : Int) k
   ·have ec : jH (fun a => aZ T (a : Int) k) (j + 1) = jH (fun a => aZ T (a : Int) k) j + 1 := by show jH _ j + fS (aZ T (j : Int) k) = _; unfold fS; rw [if_pos hc]
    have et : jH (fun a => bB T (a : Int) k) (j + 1) = jH (fun a => bB T (a : Int) k) j + 1 := by show jH _ j + fS (bB T (j : Int) k) = _; unfold fS; rw [if_pos ht]
    repeat' ((first | refine Qw ?_ | refine Qf iCO ?_ | refine Qf iTO ?_ | refine Qf iS1 ?_ | refine Qf Hn ?_ | refine Qv ?_) <;> conv => whnf)
    refine Again.to (j + 1) (by omega) (show j + 1 <= n.toNat by omega) (Nat.le_refl _) ?_
    show Shr _ (⟨(.n (.n (.n (.n .e (some (.pt (.o .h) 0 0)) .e) (some (.pt .h 0 0)) .e) none (.n (.n .e (some (.i .i64 (k : Int))) (.n .e (some (.i .i64 (jH (fun a => bB T (a : Int) k) (j + 1)))) .e)) none (.n .e (some (.lst 1 (ints C0))) .e))) none (.n (.n (.n .e (some (.lst 3 (aC aI T))) (.n .e (some (.i .i64 (jH (fun a => aZ T (a : Int) k) (j + 1)))) .e)) none .e) none (.n (.n .e (some (.lst 1 (ints MS))) (.n .e (some (.i .i64 (((j + 1) : Nat) : Int))) .e)) none (.n .e (some (.lst 1 (ints C4))) .e)))), (.n (.n .e (some (fL n coin box L C)) .e) (some (fL n coin box ls cs)) .e), (.i (.o .h)), none⟩)
    rw [ec, et]
    refine Shr.of ?_ ?_ rfl rfl
    ·exact Rw
    ·(repeat' first | exact Rel.e | refine Rel.some ?_ ?_ ?_ | refine Rel.none ?_ ?_ | refine Rel.ee ?_ ?_)
     all_goals exact Ro aY
   ·have ec : jH (fun a => aZ T (a : Int) k) (j + 1) = jH (fun a => aZ T (a : Int) k) j + 1 := by show jH _ j + fS (aZ T (j : Int) k) = _; unfold fS; rw [if_pos hc]
    have et : jH (fun a => bB T (a : Int) k) (j + 1) = jH (fun a => bB T (a : Int) k) j := by show jH _ j + fS (bB T (j : Int) k) = _; unfold fS; rw [if_neg ht]; omega
    repeat' ((first | refine Qw ?_ | refine Qf iCO ?_ | refine Qf iTO ?_ | refine Qf iS1 ?_ | refine Qf Hn ?_ | refine Qv ?_) <;> conv => whnf)
    refine Again.to (j + 1) (by omega) (show j + 1 <= n.toNat by omega) (Nat.le_refl _) ?_
    show Shr _ (⟨(.n (.n (.n (.n .e (some (.pt (.o .h) 0 0)) .e) (some (.pt .h 0 0)) .e) none (.n (.n .e (some (.i .i64 (k : Int))) (.n .e (some (.i .i64 (jH (fun a => bB T (a : Int) k) (j + 1)))) .e)) none (.n .e (some (.lst 1 (ints C0))) .e))) none (.n (.n (.n .e (some (.lst 3 (aC aI T))) (.n .e (some (.i .i64 (jH (fun a => aZ T (a : Int) k) (j + 1)))) .e)) none .e) none (.n (.n .e (some (.lst 1 (ints MS))) (.n .e (some (.i .i64 (((j + 1) : Nat) : Int))) .e)) none (.n .e (some (.lst 1 (ints C4))) .e)))), (.n (.n .e (some (fL n coin box L C)) .e) (some (fL n coin box ls cs)) .e), (.i (.o .h)), none⟩)
    rw [ec, et]
    refine Shr.of ?_ ?_ rfl rfl
    ·exact Rw
    ·(repeat' first | exact Rel.e | refine Rel.some ?_ ?_ ?_ | refine Rel.none ?_ ?_ | refine Rel.ee ?_ ?_)
     all_goals exact Ro aY
  ·by_cases ht : 0 <= bB T (j : Int) k
   ·have ec : jH (fun a => aZ T (a : Int) k) (j + 1) = jH (fun a => aZ T (a : Int) k) j := by show jH _ j + fS (aZ T (j : Int) k) = _; unfold fS; rw [if_neg hc]; omega
    have et : jH (fun a => bB T (a : Int) k) (j + 1) = jH (fun a => bB T (a : Int) k) j + 1 := by show jH _ j + fS (bB T (j : Int) k) = _; unfold fS; rw [if_pos ht]
    repeat' ((first | refine Qw ?_ | refine Qf iCO ?_ | refine Qf iTO ?_ | refine Qf iS1 ?_ | refine Qf Hn ?_ | refine Qv ?_) <;> conv => whnf)
    refine Again.to (j + 1) (by omega) (show j + 1 <= n.toNat by omega) (Nat.le_refl _) ?_
    show Shr _ (⟨(.n (.n (.n (.n .e (some (.pt (.o .h) 0 0)) .e) (some (.pt .h 0 0)) .e) none (.n (.n .e (some (.i .i64 (k : Int))) (.n .e (some (.i .i64 (jH (fun a => bB T (a : Int) k) (j + 1)))) .e)) none (.n .e (some (.lst 1 (ints C0))) .e))) none (.n (.n (.n .e (some (.lst 3 (aC aI T))) (.n .e (some (.i .i64 (jH (fun a => aZ T (a : Int) k) (j + 1)))) .e)) none .e) none (.n (.n .e (some (.lst 1 (ints MS))) (.n .e (some (.i .i64 (((j + 1) : Nat) : Int))) .e)) none (.n .e (some (.lst 1 (ints C4))) .e)))), (.n (.n .e (some (fL n coin box L C)) .e) (some (fL n coin box ls cs)) .e), (.i (.o .h)), none⟩)
    rw [ec, et]
    refine Shr.of ?_ ?_ rfl rfl
    ·exact Rw
    ·(repeat' first | exact Rel.e | refine Rel.some ?_ ?_ ?_ | refine Rel.none ?_ ?_ | refine Rel.ee ?_ ?_)
     all_goals exact Ro aY
   ·have ec : jH (fun a => aZ T (a : Int) k) (j + 1) = jH (fun a => aZ T (a : Int) k) j := by show jH _ j + fS (aZ T (j : Int) k) = _; unfold fS; rw [if_neg hc]; omega
    have et : jH (fun a => bB T (a : Int) k) (j + 1) = jH (fun a => bB T (a : Int) k) j := by show jH _ j + fS (bB T (j : Int) k) = _; unfold fS; rw [if_neg ht]; omega
    repeat' ((first | refine Qw ?_ | refine Qf iCO ?_ | refine Qf iTO ?_ | refine Qf iS1 ?_ | refine Qf Hn ?_ | refine Qv ?_) <;> conv => whnf)
    refine Again.to (j + 1) (by omega) (show j + 1 <= n.toNat by omega) (Nat.le_refl _) ?_
    show Shr _ (⟨(.n (.n (.n (.n .e (some (.pt (.o .h) 0 0)) .e) (some (.pt .h 0 0)) .e) none (.n (.n .e (some (.i .i64 (k : Int))) (.n .e (some (.i .i64 (jH (fun a => bB T (a : Int) k) (j + 1)))) .e)) none (.n .e (some (.lst 1 (ints C0))) .e))) none (.n (.n (.n .e (some (.lst 3 (aC aI T))) (.n .e (some (.i .i64 (jH (fun a => aZ T (a : Int) k) (j + 1)))) .e)) none .e) none (.n (.n .e (some (.lst 1 (ints MS))) (.n .e (some (.i .i64 (((j + 1) : Nat) : Int))) .e)) none (.n .e (some (.lst 1 (ints C4))) .e)))), (.n (.n .e (some (fL n coin box L C)) .e) (some (fL n coin box ls cs)) .e), (.i (.o .h)), none⟩)
    rw [ec, et]
    refine Shr.of ?_ ?_ rfl rfl
    ·exact Rw
    ·(repeat' first | exact Rel.e | refine Rel.some ?_ ?_ ?_ | refine Rel.none ?_ ?_ | refine Rel.ee ?_ ?_)
     all_goals exact Ro aY
 ·obtain rfl : j = n.toNat := by omega
  rw [t2]
  have s3 : jH (fun a => aZ T (a : Int) k) n.toNat <= 4 := by omega
  have s4 := s1.1
  have hp1 : 0 <= coin * jH (fun a => aZ T (a : Int) k) n.toNat := Int.mul_nonneg (by omega) s4
  have hp2 : coin * jH (fun a => aZ T (a : Int) k) n.toNat <= 99 * 4 := Int.le_trans (Int.mul_le_mul_of_nonneg_right hc.2 s4) (Int.mul_le_mul_of_nonneg_left s3 (by omega))
  clear s1 s2 t2
  generalize jH (fun a => aZ T (a : Int) k) n.toNat = S at *
  repeat' ((first | refine Qw ?_ | refine Qv ?_) <;> conv => whnf)
  refine Rn.loop (fun j : Nat => (⟨(.n (.n (.n (.n .e (some (.pt (.o .h) 0 0)) .e) (some (.pt .h 0 0)) .e) none (.n (.n .e (some (.i .i64 (k : Int))) (.n .e (some (.i .i64 S)) .e)) none (.n .e none (.n .e (some (.i .i64 ((j : Nat) : Int))) .e)))) none (.n (.n (.n .e (some (.lst 3 (aC aI T))) (.n .e (some (.i .i64 S)) .e)) none .e) none (.n (.n .e (some (.lst 1 (ints MS))) .e) none .e))), (.n (.n .e (some (fL n coin box L C)) .e) (some (fL n coin box ls cs)) .e), (.i (.o .h)), none⟩ : X)) (fun j => j <= T.length) (fun j => T.length - j) 0 ?_ (Nat.zero_le _) ?_
  ·refine X.le.mk ?_ ?_ (Nat.le_refl _) rfl rfl
   all_goals (repeat' first | exact Ev.T.le_e _ | exact Ev.T.le_refl _ | refine Ev.T.le_some ?_ rfl ?_ | refine Ev.T.le_none ?_ ?_ | refine Ev.T.le_ee ?_ ?_)
  intro j hj
  have hj : j <= T.length := hj
  conv => whnf
  repeat' ((first | refine Qw ?_ | refine Qv ?_) <;> conv => whnf)
  refine WB.dec (fun h => ?_) (fun h => ?_) <;> conv => whnf
  ·have hlt : j < T.length := by omega
   have iW := Rf n coin box L C (j : Int) (by omega)
   unfold Pm at iW
   rw [show fY (j : Int) 0 ((L.length : Int) - 1) = true from aP.2 ⟨by omega, by omega⟩, oM h0 hh, if_pos rfl, Int.toNat_natCast] at iW
   have iHL := Ri (AB (B5 n coin box L C) j) (T.getD j default) (Nat.le_trans (List.length_filter_le _ _) (Jv V _)) (fun a h => JV V (by show j < L.length; omega) (fC.1 (List.mem_filter.1 h).1)) (QW h0 hm hlt)
   generalize AB (B5 n coin box L C) j = W at *
   repeat' ((first | refine Qw ?_ | refine Qf iB ?_ | refine Qf iW ?_ | refine Qf iHL ?_ | refine Qv ?_) <;> conv => whnf)
   refine Again.to (j + 1) (by omega) (show j + 1 <= T.length by omega) (Nat.le_refl _) ?_
   refine Shr.of ?_ ?_ rfl rfl
   ·exact Rw
   ·(repeat' first | exact Rel.e | refine Rel.some ?_ ?_ ?_ | refine Rel.none ?_ ?_ | refine Rel.ee ?_ ?_)
    all_goals exact Ro aY
  ·repeat' ((first | refine Qw ?_ | refine Qf AW ?_ | refine Qv ?_) <;> conv => whnf)
   exact Fin.b rfl rfl
theorem main_tokenTruth (AW : PureF Try.prog p22.ix [] (.b true)) {es : List D} (fit : FitP [(true, [.i .i64, .i .i64, .i .i64, .sl [.i .i64, .i .i64, .i .i64], .sl [.i .i64, .i .i64, .i .i64]]), (false, [.sl [.i .u16]]), (false, [.i .u8])] es) : PureF Try.prog 9 es (.b true) := by
 obtain ⟨n, coin, box, ls, cs, _, rfl, g1⟩ := fit.book
 obtain ⟨ws, _, rfl, w0, g2⟩ := g1.nums
 obtain ⟨a, _, rfl, w1, g3⟩ := g2.i
 obtain rfl := g3.no
 exact AF n coin box ls cs ws a (fun w h => QL (w0 w h)) (SA w1) AW
end Go.Ev
namespace Go.Proofs.Ytjgbfnciedkafaa.tokenTruth
open Go.ChangeShapes Go.WideShapes Go.ChangeAt Go.RowKit
open Go.ChangeMaps (open_string shut_string)
set_option linter.unusedVariables false
theorem laid : laidOutB Try.prog = true := faP.laid
theorem own : ownKnob Try.prog.godebug = none := by kernel_rfl
theorem walk {es : List Go.Ev.D} (fit : Go.Ev.FitP [(true, [.i .i64, .i .i64, .i .i64, .sl [.i .i64, .i .i64, .i .i64], .sl [.i .i64, .i .i64, .i .i64]]), (false, [.sl [.i .u16]]), (false, [.i .u8])] es) {args : Array Value} {W : World} (ha : Go.Ev.DVL (Go.Ev.γH W) W es args.toList) :
    Calls Try.prog 9 args W fun e w' => e = .returned (.bool true) ∧ Grown W w' ∧ Below W.heap.size W w' :=
  Go.Ev.PureF.calls (Go.Ev.main_tokenTruth (fun ob nx lg => Go.Ev.t21.any ob nx lg) fit) ha
set_option maxRecDepth 100000 in
theorem lifted (os : Os) (started : os.Started) (H : Type) (enc : TypeId × Value → H) :
    ReturnsInHanded {} Try.checked os 9 .any (Rows.tokenTruthSpec.pre6 enc Try.prog Try.f9 Rows.tokenTruthRow.domain false) (Rows.tokenTruthSpec.post enc Try.prog Try.f9 false true false false) := by
  refine returnsInHanded_of_change (C := Try.checked) own started (by kernel_rfl) Try.func9
    (ChangeSpec.witness6 (enc := enc) (C := Try.checked) false ⟨#[], #[.agg #[.int .i64 0, .int .i64 0, .int .i64 0, .slice none 0 0, .slice none 0 0], .slice none 0 0, .int .u8 0], []⟩ 8 (by kernel_rfl) (by kernel_rfl) (by kernel_rfl) (by kernel_rfl)) ?_
  intro W base args ds gs before hval0 hW hcnd _
  have hval : ∀ (j : Nat) t v, Try.f9.params[j]? = some t → args[j]? = some v → Value.okWide Try.prog W .any base t v := hval0
  have hW' := hW
  obtain ⟨p, q, hA0, hV, rfl, hfz, hnd⟩ := hW
  have hA : DataW.TrodAll enc Try.prog W 0 (fun _ => true) true Try.f9.params.toList args.toList ds p := hA0
  rw [Try.params9] at hA hval
  obtain ⟨rfl, rfl⟩ := trodVars_none hV
  obtain ⟨d0, d1, d2, rfl⟩ := Go.Ev.len3 (Go.Ev.trod_len hA)
  clear hA0 hval0
  simp only [List.append_nil] at hW'
  obtain ⟨es, fit, dv⟩ := Go.Ev.open_all (n := 6) (pars := [(true, [.i .i64, .i .i64, .i .i64, .sl [.i .i64, .i .i64, .i .i64], .sl [.i .i64, .i .i64, .i .i64]]), (false, [.sl [.i .u16]]), (false, [.i .u8])]) (by kernel_rfl) hA (fun j t v h1 h2 => hval j t v (by simpa using h1) (by simpa using h2))
  have hlt : ∀ x ∈ p, x.block < W.heap.size := fun x hx => by simpa using hW'.lt x hx
  refine (walk fit dv).mono fun e W' ⟨he, hg, hb⟩ => ?_
  subst he
  exact ⟨_, rfl, post_of_same (pa := p) (pv := []) hW' (fun _ _ _ => (trodAll_cons_mk (shut_bool Try.underlying4 _) trodAll_mk0))
    (fun sp hs => Go.Ev.stays_all laid (Go.Ev.of_allT (by kernel_rfl)) hA (fun x hx => hb.same (hlt x hx)) (fun x hx => hs x hx))
    (fun _ _ => rfl) (List.append_nil _).symm
    (hg.frame _) hg.2.1 (ok_one (by kernel_rfl) rfl (okWide_bool_mk Try.underlying4 _))⟩
theorem over : Rows.tokenTruthRow.holds Try.pinned (OpenSpec.ofChange Rows.tokenTruthSpec) :=
  OpenClaim.holds_of_wide 9 Try.f9 rfl rfl rfl rfl rfl rfl rfl ⟨rfl, rfl, rfl, rfl, rfl⟩ rfl rfl rfl rfl rfl (by kernel_rfl) Try.func9 faTokenTruth.all
    (of_decide_eq_true (by kernel_rfl)) (by unfold Func.isWrapper; first | (rw [if_pos (by decide +kernel)]; kernel_rfl) | (rw [if_neg (by decide +kernel)]; exact ⟨rfl, rfl⟩))
    (fun os started H enc _ => lifted os started H enc)
theorem proved : Rows.TokenTruthSaid :=
  over
#print axioms proved
end Go.Proofs.Ytjgbfnciedkafaa.tokenTruth