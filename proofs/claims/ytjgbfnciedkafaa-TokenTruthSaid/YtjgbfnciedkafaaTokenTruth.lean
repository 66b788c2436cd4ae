/-
  The law TokenTruth answers true for every book, list of words and number, and leaves memory as it was, whatever the state of the machine that it starts in. No conditions.
-/
import Derived.Test.YtjgbfnciedkafaaEvUHa
import Derived.Test.YtjgbfnciedkafaaEvUGk
import Derived.Test.YtjgbfnciedkafaaRows
import Derived.WalkKit
import Derived.ProofKit
import Derived.OpenShut
import Derived.Test.YtjgbfnciedkafaaEvUIt
import Derived.ShutString
import Derived.Test.YtjgbfnciedkafaaFaTokenTruth
set_option linter.all false
set_option maxHeartbeats 8000000
namespace Go.Ev
open Go.Proofs
set_option maxRecDepth 1000000
def TC : Pos := .i p95
def Ui : Pos := .o He
def UZ : Pos := .i He
def SP : Pos := .o p97
def Td : Pos := .i p97
def Tw : Pos := .o KQ
def SV : Pos := .i KQ
def TK : Pos := .o KH
def Tc : Pos := .i KH
def RJ : Pos := .o wR
def TZ : Pos := .i wR
def Vo : Pos := .o xN
def AF : Pos := .i xN
def Oo : Pos := .o pP
def PV : Pos := .i pP
def PL : Pos := .o wI
def Oq : Pos := .i wI
def QP : Pos := .o AQ
def Ob : Pos := .i AQ
def NY : Pos := .o p105
def Uu : Pos := .i p105
def Tm : Pos := .o p106
def Sw : Pos := .i p106
def TA : Pos := .o p107
def Uy : Pos := .i p107
def SQ : Pos := .o p108
def SX : Pos := .i p108
def TF : Pos := .o p109
def UM : Pos := .i p109
def SO : Pos := .o p110
def Ts : Pos := .i p110
def Un : Pos := .o p111
def VR : Pos := .i p111
def Qh : Pos := .o p112
def TY : Pos := .i p112
def Uv : Pos := .o p113
def VT : Pos := .i p113
def TI : Pos := .o p114
def UN : Pos := .i p114
def UY : Pos := .o p115
def Va : Pos := .i p115
def TB : Pos := .o p116
def Ae : Pos := .i p116
def Of : Pos := .o p117
def Pv : Pos := .i p117
def QS : Pos := .o p118
def Ra : Pos := .i p118
def Pb : Pos := .o p119
def NW : Pos := .i p119
def PM : Pos := .o p120
def RZ : Pos := .i p120
def VC : Pos := .o p121
def TS : Pos := .i p121
def UP : Pos := .o p122
def rG : Pos := .i p122
def Ps : Pos := .o p123
def PJ : Pos := .i p123
def Ol : Pos := .o p124
def Rh : Pos := .i p124
def QL : Pos := .o p125
def Qe : Pos := .i p125
def Pe : Pos := .o AA
def PY : Pos := .i AA
def Ok : Pos := .o Dg
def QY : Pos := .i Dg
def OT : Pos := .o Dq
def Pk : Pos := .i Dq
def Vf : Pos := .o Ea
def OV : Pos := .i Ea
def NT : Pos := .o FY
def RP : Pos := .i FY
noncomputable def Zv : RC := (Sr [(.u (.box p4 p1)), (.u (.mv p7 (.k (.b false))))] (.seq (Sr [(Fd p33 p4 0), (L1 p34 p33), (Cf kK p36 [p34, (K_ 1), (K_ 4)]), (.u (.un p36 .not kK)), (Mv kZ p36), (Gs kZ false mV (.fad mV p4 1)), (Gs kZ false p39 (.ld1 p39 mV)), (Gs kZ false p40 (.cf (some p40) p36 [p39, (K_ 1), (K_ 99)])), (Gs kZ false p41 (.un p41 .not p40)), (Po qB kZ p41), (Mv lT qB), (Gs lT false p44 (.fad p44 p4 2)), (Gs lT false sS (.ld1 sS p44)), (Gs lT false xB (.cf (some xB) p36 [sS, (K_ 0), (K_ 999)])), (Gs lT false p47 (.un p47 .not xB)), (Po p48 lT p47)] (.cond p48 (Sr [(Cf AU p22 []), (Mv p7 AU)] .ret) .skip)) (Sr [(bM Bt p4 5), (Mv Bs p2), (Cf Bu p54 [Bt, Bs]), (Mv uG Bu), (.u (.ext p54 uG 0)), (.u (.ext p55 uG 1)), (.u (.new p8 [(.i .i64 0), (.i .i64 0), (.i .i64 0), .ns, .ns])), (.u (.st p8 p54 5)), (Mv p9 p55)] (.seq (Sr [(bM p56 p8 5), (Cf p57 p55 [p56]), (.u (.un p58 .not p57))] (.cond p58 (Sr [(Cf p59 p22 []), (Mv p7 p59)] .ret) .skip)) (Sr [(Mv p60 p3), (.u (.cvi Dp .i64 p60)), (Mv DZ p9), (.u (.len p63 DZ)), (cB Gd .add p63 1), (dX Di .rem Dp Gd), (Mv p10 Di)] (Sr [(bM JQ p8 5), (Cf JN p24 [JQ]), (Mv IG p9), (Cf p70 p25 [IG]), (Cf En p23 [JN, p70]), (Mv EA En), (.u (.ext JT EA 0)), (.u (.ext Jv EA 1)), (.u (.ext Iw EA 2)), (Mv bD JT), (Mv bF Jv), (Mv bH Iw)] (Sr [(bM p76 p8 5), (Cf p77 p24 [p76]), (Mv p78 p10), (Cf p79 p34 [p77, p78]), (Mv p75 p79), (.u (.ext p80 p75 0)), (.u (.ext p81 p75 1)), (.u (.ext p82 p75 2)), (Mv bG p80), (Mv bN p81), (Mv bO p82)] (Sr [(bM p84 p8 5), (Cf p85 p24 [p84]), (Mv p86 p10), (Cf p87 p39 [p85, p86]), (Mv JC p87), (.u (.ext Kn JC 0)), (.u (.ext p89 JC 1)), (.u (.new bX [(.i .i64 0), (.i .i64 0)])), (.u (.st bX Kn 2)), (Mv bR p89)] (Sr [(bM Ii p8 5), (Cf p92 p24 [Ii]), (Cf p93 p40 [p92]), (Mv Hd p93), (.u (.ext p94 Hd 0)), (.u (.ext p95 Hd 1)), (.u (.new cH [(.i .i64 0), (.i .i64 0)])), (.u (.st cH p94 2)), (Mv cD p95)] (Sr [(bM p97 p8 5), (Cf KQ p24 [p97]), (Cf KH p48 [KQ]), (Mv He KH), (.u (.ext wR He 0)), (.u (.ext xN He 1)), (Mv p21 wR), (Mv p22 xN)] (Sr [(bM wI p8 5), (Cf AQ p24 [wI]), (Cf p105 p47 [AQ]), (Mv pP p105), (.u (.ext p106 pP 0)), (.u (.ext p107 pP 1)), (Mv p23 p106), (Mv p24 p107)] (.seq (.seq (.drw [(Mv p108 bH), (cB p109 .neq p108 0), (Mv p110 p109), (Gs p110 false p111 (.mv p111 bO)), (Gs p110 false p112 (.bin p112 .neq p111 (K_ 0))), (Po p113 p110 p112), (Mv p114 p113), (Gs p114 false p115 (.mv p115 bR)), (Gs p114 false p116 (.bin p116 .neq p115 (K_ 0))), (Po p117 p114 p116), (Mv p118 p117), (Gs p118 false p119 (.mv p119 cD)), (Gs p118 false p120 (.bin p120 .neq p119 (K_ 0))), (Po p121 p118 p120), (Mv p122 p121), (Gs p122 false p123 (.mv p123 p22)), (Gs p122 false p124 (.bin p124 .neq p123 (K_ 0))), (Po p125 p122 p124), (Mv AA p125), (Gs AA false Dg (.mv Dg p21)), (Gs AA false Dq (.len Dq Dg)), (Gs AA false Ea (.bin Ea .neq Dq (K_ 0))), (Po FY AA Ea), (Mv GP FY), (Gs GP false HM (.mv HM p24)), (Gs GP false Jn (.bin Jn .neq HM (K_ 7))), (Po Mg GP Jn), (Mv p135 Mg), (Gs p135 false p136 (.mv p136 bD)), (Gs p135 false p137 (.len p137 p136)), (Gs p135 false p138 (.mv p138 p9)), (Gs p135 false p139 (.len p139 p138)), (Gs p135 false p140 (.bin p140 .add p139 (K_ 1))), (Gs p135 false p141 (.bin p141 .neq p137 p140)), (Po p142 p135 p141), (Mv p143 p142), (Gs p143 false p144 (.mv p144 bG)), (Gs p143 false p145 (.len p145 p144)), (Gs p143 false Hw (.fad Hw p4 0)), (Gs p143 false IN (.ld1 IN Hw)), (Gs p143 false IA (.bin IA .neq p145 IN)), (Po LN p143 IA), (Mv Bh LN), (Gs Bh false KD (.mv KD bN)), (Gs Bh false Ih (.len Ih KD)), (Gs Bh false JL (.fad JL p4 0)), (Gs Bh false KB (.ld1 KB JL)), (Gs Bh false KE (.bin KE .neq Ih KB)), (Po p156 Bh KE), (Mv vO p156), (Gs vO false p158 (.ldn p158 p8 5)), (Gs vO false p159 (.cf (some p159) p24 [p158])), (Gs vO false p160 (.mv p160 p9)), (Gs vO false p161 (.cf (some p161) p25 [p160])), (Gs vO false Bj (.cf (some Bj) p26 [p159, p161])), (Gs vO false Gf (.un Gf .not Bj)), (Po Ic vO Gf), (Mv p165 Ic), (Gs p165 false Gw (.mv Gw bD)), (Gs p165 false Jr (.mv Jr p10)), (Gs p165 false II (.ixs II 1 Gw Jr)), (Gs p165 false HX (.ld1 HX II)), (Gs p165 false Kr (.ldn Kr bX 2)), (Gs p165 false Ko (.cf (some Ko) p56 [HX, Kr])), (Gs p165 false In (.un In .not Ko)), (Po Ml p165 In), (Mv Co Ml), (Gs Co false Jg (.mv Jg bF)), (Gs Co false On (.ldn On cH 2)), (Gs Co false OH (.cf (some OH) p56 [Jg, On])), (Gs Co false QF (.un QF .not OH)), (Po SY Co QF)] [0, 1, 3, 7, 15, 31, 63, 127, 255, 511, 1023, 2047, 4095, 8191, 16383, 32767, 65535, 131071, 262143, 524287, 1048575, 2097151, 4194303, 8388607, 16777215, 33554431, 67108863, 134217727, 268435455, 536870911, 268435455, 1342177279, 3489660927, 8589934591, 17179869183, 34359738367, 68719476735, 137438953471, 68719476735, 343597383679, 1099511627775, 2199023255551, 4398046511103, 8796093022207, 17592186044415, 8796093022207, 43980465111039, 140737488355327, 281474976710655, 562949953421311, 1125899906842623, 2251799813685247, 1125899906842623, 9007199254740991, 18014398509481983, 36028797018963967, 72057594037927935, 144115188075855871, 288230376151711743, 288230376151711743, 1152921504606846975, 2305843009213693951, 288230376151711743, 9223372036854775807, 18446744073709551615, 36893488147419103231, 73786976294838206463, 147573952589676412927, 147573952589676412927, 590295810358705651711, 1180591620717411303423, 2361183241434822606847]) (.cond SY (Sr [(.u (.mv p7 (.k (.b false))))] .ret) .skip)) (Sr [(.u (.mv p25 (K_ 0))), (.u (.mv p26 (K_ 0)))] (.seq (Sr [(.u (.mv eE (K_ 0)))] (.blk 0 (.loop (.seq (Sr [(Mv SA eE), (Fd RQ p4 0), (L1 Tt RQ), (dX Ti .lss SA Tt)] (.cond Ti .skip (.exit 0))) (.seq (.blk 1 (Sr [(Mv UO p9), (Mv Vl p10), (Mv SB eE), (Cf TG p57 [UO, Vl, SB]), (cB Tk .geq TG 0), (Mv TC p9), (Mv Ui p10), (Mv UZ eE), (Cf SP p58 [TC, Ui, UZ]), (cB Td .geq SP 0), (Mv p28 Tk), (Mv fB Td)] (.seq (Sr [(Mv Tw bG), (Mv SV eE), (.u (.ixs TK 1 Tw SV)), (L1 Tc TK), (Mv RJ p28), (Cf TZ p59 [Tc, RJ]), (.u (.un Vo .not TZ)), (Mv AF Vo), (Gs AF false Oo (.mv Oo bN)), (Gs AF false PV (.mv PV eE)), (Gs AF false PL (.ixs PL 1 Oo PV)), (Gs AF false Oq (.ld1 Oq PL)), (Gs AF false QP (.mv QP fB)), (Gs AF false Ob (.cf (some Ob) p59 [Oq, QP])), (Gs AF false NY (.un NY .not Ob)), (Po Uu AF NY)] (.cond Uu (Sr [(.u (.mv p7 (.k (.b false))))] .ret) .skip)) (.seq (Sr [(Mv Tm p28)] (.cond Tm (.reg [(Mv Sw p25), (cB TA .add Sw 1), (Mv p25 TA)]) .skip)) (Sr [(Mv Uy fB)] (.cond Uy (.reg [(Mv SQ p26), (cB SX .add SQ 1), (Mv p26 SX)]) .skip)))))) (.reg [(Mv RU eE), (cB RY .add RU 1), (Mv eE RY)])))))) (.seq (Sr [(.u (.mv eH (K_ 0)))] (.blk 2 (.loop (.seq (Sr [(Mv TF eH), (Mv UM p9), (.u (.len SO UM)), (dX Ts .lss TF SO)] (.cond Ts .skip (.exit 2))) (.seq (.blk 3 (Sr [(bM TY p8 5), (Cf Uv p24 [TY]), (Mv VT eH), (Cf TI p44 [Uv, VT]), (Mv Qh TI), (.u (.ext UN Qh 0)), (.u (.ext UY Qh 1)), (Mv p31 UN), (Mv hU UY)] (Sr [(Mv Va hU), (cB TB .neq Va 0), (Mv Ae TB), (Gs Ae false Of (.mv Of p31)), (Gs Ae false Pv (.mv Pv p9)), (Gs Ae false QS (.mv QS eH)), (Gs Ae false Ra (.ixs Ra 3 Pv QS)), (Gs Ae false Pb (.ldn Pb Ra 3)), (Gs Ae false NW (.cf (some NW) p60 [Of, Pb])), (Gs Ae false PM (.un PM .not NW)), (Po RZ Ae PM)] (.cond RZ (Sr [(.u (.mv p7 (.k (.b false))))] .ret) .skip)))) (.reg [(Mv Un eH), (cB VR .add Un 1), (Mv eH VR)])))))) (.seq (.drw [(Mv VC p25), (Mv TS p26), (dX UP .eql VC TS), (Mv rG UP), (Gs rG true Ps (.mv Ps bD)), (Gs rG true PJ (.mv PJ p10)), (Gs rG true Ol (.ixs Ol 1 Ps PJ)), (Gs rG true Rh (.ld1 Rh Ol)), (Gs rG true QL (.fad QL p4 2)), (Gs rG true Qe (.ld1 Qe QL)), (Gs rG true Pe (.fad Pe p4 1)), (Gs rG true PY (.ld1 PY Pe)), (Gs rG true Ok (.mv Ok p25)), (Gs rG true QY (.bin QY .mul PY Ok)), (Gs rG true OT (.bin OT .add Qe QY)), (Gs rG true Pk (.bin Pk .eql Rh OT)), (Pa Vf rG Pk), (Mv OV Vf), (Gs OV true NT (.cf (some NT) p22 [])), (Pa RP OV NT), (Mv p7 RP)] [0, 0, 3, 7, 15, 15, 63, 127, 15, 271, 15, 1039, 15, 7183, 16143, 32767, 65535, 131071, 262143, 524287, 1048575]) .ret))))))))))))))))
def Zl : List RR := [(.t p7)]
theorem Zr : FnOk Try.prog p10.ix 261 Zv Zl := dU Try.f9 Try.func9
end Go.Ev
namespace Go.Ev
open Go.Proofs
set_option maxRecDepth 100000
theorem HG {B : Bk} (V : VB B) {line : Nat} (hl : line < B.ls.length) {a : Ln} (h : Ay B.n (B.ls.getD line default) a = true) : kS a := by
 obtain ⟨h1, h2, h3⟩ := V.rd hl h
 exact ⟨cK (by omega) (by omega), cK (by omega) (by omega), cK (by omega) (by omega)⟩
theorem GU : ∀ e : _root_.Fin 9, iA 0 e.1 = [] := by decide +kernel
theorem Ai (n coin box : Int) (ls : List Ln) (cs : List Ct) (ws : List Int) (after : Int) (hws : ∀ w ∈ ws, 0 <= w /\ w <= 65535) (w1 : 0 <= after /\ after <= 255) (AW : PureF Try.prog p22.ix [] (.b true)) : PureF Try.prog p10.ix [.ag [.i .i64 n, .i .i64 coin, .i .i64 box, .lst 3 (aC aI ls), .lst 3 (aC cY cs)], .lst 1 (aC qJ ws), .i .u8 after] (.b true) := by
 have i1 := nW n 1 4
 have i2 := nW coin 1 99
 have i3 := nW box 0 999
 refine PureF.run Zr (by simp) (by simp [aO, dF, Pu, aB, aE, dD]) ?_; conv => whnf
 cases h1 : gE n 1 4 with
 | false =>
   rw [h1] at i1
   repeat' ((first | refine Qw ?_ | refine Qf i1 ?_ | refine Qf AW ?_ | refine Qv ?_) <;> conv => whnf)
   exact Fin.b rfl rfl
 | true =>
 rw [h1] at i1
 cases h2 : gE coin 1 99 with
 | false =>
   rw [h2] at i2
   repeat' ((first | refine Qw ?_ | refine Qf i1 ?_ | refine Qf i2 ?_ | refine Qf AW ?_ | refine Qv ?_) <;> conv => whnf)
   exact Fin.b rfl rfl
 | true =>
 rw [h2] at i2
 cases h3 : gE box 0 999 with
 | false =>
   rw [h3] at i3
   repeat' ((first | refine Qw ?_ | refine Qf i1 ?_ | refine Qf i2 ?_ | refine Qf i3 ?_ | refine Qf AW ?_ | refine Qv ?_) <;> conv => whnf)
   exact Fin.b rfl rfl
 | true =>
 rw [h3] at i3
 have hn := aP.1 h1
 have hc := aP.1 h2
 have hb := aP.1 h3
 obtain ⟨v, ⟨T, L, C, rfl, hT8, hC3, hHI, hCg⟩, iH⟩ := Mj n coin box ls cs ws hws hn hb hc
 have iR := MN n coin box L C
 unfold CT at iR
 cases hR : wK n coin box L C with
 | false =>
   rw [hR] at iR
   repeat' ((first | refine Qw ?_ | refine Qf i1 ?_ | refine Qf i2 ?_ | refine Qf i3 ?_ | refine Qf iH ?_ | refine Qf iR ?_ | refine Qf AW ?_ | refine Qv ?_) <;> conv => whnf)
   exact Fin.b rfl rfl
 | true =>
 rw [hR] at iR
 obtain ⟨l8, l4, h0⟩ := IC hR
 have V := VB.of h0
 have hm := PO h0 hHI hCg
 have hlen : L.length = T.length := hHI.len
 have e1 := aD aI T
 have b1 := Int.tmod_nonneg (((aC aI T).length : Int) + 1) w1.1
 have b2 := Int.tmod_lt_of_pos after (show (0 : Int) < ((aC aI T).length : Int) + 1 by omega)
 obtain ⟨k, hk⟩ := Int.eq_ofNat_of_zero_le b1
 have hkT : k <= T.length := by omega
 have hwf : ∀ r ∈ T, kS r := fun r hr => by
  obtain ⟨i, hi, e⟩ := BX (d := default) hr
  have h := (Nk h0 hm) i hi
  rw [<- e]
  exact HG V (by show i < L.length; omega) h.1
 have hfit : sF n coin box L C T = true := (jU V).1 hm
 have hfol : bY n L T = true := by
  rw [qA hn (show L.all (cL n) = true from V.ls), hHI.rd, hHI.poss]; rfl
 have iB := PW n coin box L C (by omega) (by omega)
 have iTr := EW T (by omega)
 have iP := Ot n coin box L C T (by omega) hwf
 rw [La h0 hfol] at iP
 have iP : PureF Try.prog p23.ix [.ag [.i .i64 n, .i .i64 coin, .i .i64 box, .lst 3 (aC aI L), .lst 3 (aC cY C)], .lst 3 (aC aI T)] (.tp [.lst 1 (ints ((List.range (T.length + 1)).map (cQ box coin T))), .i .i64 (gQ T T.length), .i .i64 0]) := iP
 have iPr := LG n coin box L C T (by omega) hwf
 rw [Gt h0, hfit] at iPr
 have hh := Aa h0 hm
 have hin : gE (k : Int) 0 (L.length : Int) = true := aP.2 ⟨by omega, by omega⟩
 have iO := Ox n coin box L C (k : Int)
 unfold Oh at iO
 rw [hin, oK h0 hh, if_pos rfl, Int.toNat_natCast] at iO
 have iM := JR n coin box L C (k : Int)
 unfold Pq at iM
 rw [hin, oK h0 hh, if_pos rfl, Int.toNat_natCast] at iM
 have iX := JW n coin box L C
 unfold QI at iX
 rw [oK h0 hh, if_pos rfl] at iX
 have iL := JK n coin box L C
 unfold Gc at iL
 rw [if_pos h0, PQ h0 hm] at iL
 have iL : PureF Try.prog p48.ix [.ag [.i .i64 n, .i .i64 coin, .i .i64 box, .lst 3 (aC aI L), .lst 3 (aC cY C)]] (.tp [lZ (iA 0 L.length), .i .i64 0]) := iL
 rw [GU ⟨L.length, by omega⟩] at iL
 have iL : PureF Try.prog p48.ix [.ag [.i .i64 n, .i .i64 coin, .i .i64 box, .lst 3 (aC aI L), .lst 3 (aC cY C)]] (.tp [.ns, .i .i64 0]) := iL
 have iF := Id n coin box L C
 unfold Dj at iF
 rw [if_pos h0, JI h0 hm] at iF
 have iF : PureF Try.prog p47.ix [.ag [.i .i64 n, .i .i64 coin, .i .i64 box, .lst 3 (aC aI L), .lst 3 (aC cY C)]] (.tp [.i .i64 0, .i .i64 7]) := iF
 have q1 := Kh h0 hm k Mo.box
 have q1 : _ <= cQ box coin T k /\ cQ box coin T k <= _ := q1
 have q2 := Kh h0 hm L.length Mo.mix
 have q2 : _ <= gQ T L.length /\ gQ T L.length <= _ := q2
 rw [hlen] at q2 iX
 have ii2 := UW _ _ _ q2
 unfold Cd at iM iX
 obtain ⟨t1, t2⟩ := QE h0 hm hkT
 have vC := fun j (hj : j < 4) => Oz h0 hm k hj
 have vT := fun j (hj : j < 4) => OS h0 hm k hj
 have vl0 : (nQ (B5 n coin box L C) k 0).length = n.toNat := mP _ _ _
 have vl4 : (nQ (B5 n coin box L C) k 4).length = n.toNat := mP _ _ _
 have wl0 : (ints (nQ (B5 n coin box L C) k 0)).length = n.toNat := by rw [aU]; exact vl0
 have wl4 : (ints (nQ (B5 n coin box L C) k 4)).length = n.toNat := by rw [aU]; exact vl4
 have vC : ∀ j, j < n.toNat -> (1 <= (nQ (B5 n coin box L C) k 0).getD j 0 /\ (nQ (B5 n coin box L C) k 0).getD j 0 <= 3) /\ ((nQ (B5 n coin box L C) k 0).getD j 0 = 1 -> decide (0 <= aZ T (j : Int) k) = true) /\ ((nQ (B5 n coin box L C) k 0).getD j 0 = 2 -> decide (0 <= aZ T (j : Int) k) = false) := fun j hj => by
  have e : (nQ (B5 n coin box L C) k 0).getD j 0 = yS (B5 n coin box L C) k (0 + j) := As hj
  rw [e]; exact vC j (by omega)
 have vT : ∀ j, j < n.toNat -> (1 <= (nQ (B5 n coin box L C) k 4).getD j 0 /\ (nQ (B5 n coin box L C) k 4).getD j 0 <= 3) /\ ((nQ (B5 n coin box L C) k 4).getD j 0 = 1 -> decide (0 <= bC T (j : Int) k) = true) /\ ((nQ (B5 n coin box L C) k 4).getD j 0 = 2 -> decide (0 <= bC T (j : Int) k) = false) := fun j hj => by
  have e : (nQ (B5 n coin box L C) k 4).getD j 0 = yS (B5 n coin box L C) k (4 + j) := As hj
  rw [e]; exact vT j (by omega)
 have hMl : (ints ((List.range (T.length + 1)).map (cQ box coin T))).length = T.length + 1 := by rw [aU, List.length_map, List.length_range]
 have hMl2 : ((List.range (T.length + 1)).map (cQ box coin T)).length = T.length + 1 := by rw [List.length_map, List.length_range]
 have hMk : ((List.range (T.length + 1)).map (cQ box coin T)).getD k 0 = cQ box coin T k := by simp [List.getD, show k < T.length + 1 by omega]
 rw [<- hMk] at q1 t1
 have ii1 := UW _ _ _ q1
 generalize nQ (B5 n coin box L C) k 0 = C0 at *
 generalize nQ (B5 n coin box L C) k 4 = C4 at *
 generalize (List.range (T.length + 1)).map (cQ box coin T) = MS at *
 generalize (eX (B5 n coin box L C) k Mo.box).foldl min ((eX (B5 n coin box L C) k Mo.box).getD 0 0) = r1 at *
 generalize (eX (B5 n coin box L C) k Mo.box).foldl max ((eX (B5 n coin box L C) k Mo.box).getD 0 0) = r2 at *
 generalize (eX (B5 n coin box L C) T.length Mo.mix).foldl min ((eX (B5 n coin box L C) T.length Mo.mix).getD 0 0) = q3 at *
 generalize (eX (B5 n coin box L C) T.length Mo.mix).foldl max ((eX (B5 n coin box L C) T.length Mo.mix).getD 0 0) = q4 at *
 generalize gQ T T.length = mx at *
 repeat' ((first | refine Qw ?_ | refine Qf i1 ?_ | refine Qf i2 ?_ | refine Qf i3 ?_ | refine Qf iH ?_ | refine Qf iR ?_ | refine Qf iB ?_ | refine Qf iTr ?_ | refine Qf iP ?_ | refine Qv ?_) <;> conv => whnf)
 rw [hk]
 repeat' ((first | refine Qw ?_ | refine Qf iB ?_ | refine Qf iTr ?_ | refine Qf iP ?_ | refine Qf iO ?_ | refine Qf iM ?_ | refine Qf iX ?_ | refine Qf iL ?_ | refine Qf iF ?_ | refine Qf iPr ?_ | refine Qf ii1 ?_ | refine Qf ii2 ?_ | refine Qv ?_) <;> conv => whnf)
 refine Rn.loop (fun j : Nat => (⟨(.n (.n (.n (.n .e (some (.pt (.o .h) 0 0)) .e) (some (.pt .h 0 0)) .e) none (.n (.n .e (some (.i .i64 (k : Int))) (.n .e (some (.i .i64 (jA (fun a => bC T (a : Int) k) j))) .e)) none (.n .e (some (.lst 1 (ints C0))) .e))) none (.n (.n (.n .e (some (.lst 3 (aC aI T))) (.n .e (some (.i .i64 (jA (fun a => aZ T (a : Int) k) j))) .e)) none .e) none (.n (.n .e (some (.lst 1 (ints MS))) (.n .e (some (.i .i64 ((j : Nat) : Int))) .e)) none (.n .e (some (.lst 1 (ints C4))) .e)))), (.n (.n .e (some (fK n coin box L C)) .e) (some (fK n coin box ls cs)) .e), (.i (.o .h)), none⟩ : X)) (fun j => j <= n.toNat) (fun j => n.toNat - j) 0 ?_ (Nat.zero_le _) ?_
 ·refine X.le.mk ?_ ?_ (Nat.le_refl _) rfl rfl
  all_goals (repeat' first | exact Ev.T.le_e _ | exact Ev.T.le_refl _ | refine Ev.T.le_some ?_ rfl ?_ | refine Ev.T.le_none ?_ ?_ | refine Ev.T.le_ee ?_ ?_)
 intro j hj
 have hj : j <= n.toNat := hj
 have s1 := Dr (fun a => aZ T (a : Int) k) j
 have s2 := Dr (fun a => bC T (a : Int) k) j
 conv => whnf
 repeat' ((first | refine Qw ?_ | refine Qv ?_) <;> conv => whnf)
 refine WB.dec (fun h => ?_) (fun h => ?_) <;> conv => whnf
 ·have hlt : j < n.toNat := by omega
  have iCO := vU T k (j : Int) (by omega) hkT
  have iTO := xC T k (j : Int) (by omega) hkT
  obtain ⟨x1, x2, x3⟩ := vC j hlt
  obtain ⟨y1, y2, y3⟩ := vT j hlt
  have iS1 := BV (C0.getD j 0) (decide (0 <= aZ T (j : Int) k)) x1 x2 x3
  have Hj := BV (C4.getD j 0) (decide (0 <= bC T (j : Int) k)) y1 y2 y3
  by_cases hc : 0 <= aZ T (j : Int) k
  ·by_cases ht : 0 <= bC T (j : Int) k
   ·have ec : jA (fun a => aZ T (a : Int) k) (j + 1) = jA (fun a => aZ T (a : Int) k) j + 1 := by show jA _ j + fS (aZ T (j : Int) k) = _; unfold fS; rw [if_pos hc]
    have et : jA (fun a => bC T (a : Int) k) (j + 1) = jA (fun a => bC T (a : Int) k) j + 1 := by show jA _ j + fS (bC T (j : Int) k) = _; unfold fS; rw [if_pos ht]
    repeat' ((first | refine Qw ?_ | refine Qf iCO ?_ | refine Qf iTO ?_ | refine Qf iS1 ?_ | refine Qf Hj ?_ | refine Qv ?_) <;> conv => whnf)
    refine Again.to (j + 1) (by omega) (show j + 1 <= n.toNat by omega) (Nat.le_refl _) ?_
    show Shr _ (⟨(.n (.n (.n (.n .e (some (.pt (.o .h) 0 0)) .e) (some (.pt .h 0 0)) .e) none (.n (.n .e (some (.i .i64 (k : Int))) (.n .e (some (.i .i64 (jA (fun a => bC T (a : Int) k) (j + 1)))) .e)) none (.n .e (some (.lst 1 (ints C0))) .e))) none (.n (.n (.n .e (some (.lst 3 (aC aI T))) (.n .e (some (.i .i64 (jA (fun a => aZ T (a : Int) k) (j + 1)))) .e)) none .e) none (.n (.n .e (some (.lst 1 (ints MS))) (.n .e (some (.i .i64 (((j + 1) : Nat) : Int))) .e)) none (.n .e (some (.lst 1 (ints C4))) .e)))), (.n (.n .e (some (fK n coin box L C)) .e) (some (fK n coin box ls cs)) .e), (.i (.o .h)), none⟩)
    rw [ec, et]
    refine Shr.of ?_ ?_ rfl rfl
    ·exact Rw
    ·(repeat' first | exact Rel.e | refine Rel.some ?_ ?_ ?_ | refine Rel.none ?_ ?_ | refine Rel.ee ?_ ?_)
     all_goals exact Ro aY
   ·have ec : jA (fun a => aZ T (a : Int) k) (j + 1) = jA (fun a => aZ T (a : Int) k) j + 1 := by show jA _ j + fS (aZ T (j : Int) k) = _; unfold fS; rw [if_pos hc]
    have et : jA (fun a => bC T (a : Int) k) (j + 1) = jA (fun a => bC T (a : Int) k) j := by show jA _ j + fS (bC T (j : Int) k) = _; unfold fS; rw [if_neg ht]; omega
    repeat' ((first | refine Qw ?_ | refine Qf iCO ?_ | refine Qf iTO ?_ | refine Qf iS1 ?_ | refine Qf Hj ?_ | refine Qv ?_) <;> conv => whnf)
    refine Again.to (j + 1) (by omega) (show j + 1 <= n.toNat by omega) (Nat.le_refl _) ?_
    show Shr _ (⟨(.n (.n (.n (.n .e (some (.pt (.o .h) 0 0)) .e) (some (.pt .h 0 0)) .e) none (.n (.n .e (some (.i .i64 (k : Int))) (.n .e (some (.i .i64 (jA (fun a => bC T (a : Int) k) (j + 1)))) .e)) none (.n .e (some (.lst 1 (ints C0))) .e))) none (.n (.n (.n .e (some (.lst 3 (aC aI T))) (.n .e (some (.i .i64 (jA (fun a => aZ T (a : Int) k) (j + 1)))) .e)) none .e) none (.n (.n .e (some (.lst 1 (ints MS))) (.n .e (some (.i .i64 (((j + 1) : Nat) : Int))) .e)) none (.n .e (some (.lst 1 (ints C4))) .e)))), (.n (.n .e (some (fK n coin box L C)) .e) (some (fK n coin box ls cs)) .e), (.i (.o .h)), none⟩)
    rw [ec, et]
    refine Shr.of ?_ ?_ rfl rfl
    ·exact Rw
    ·(repeat' first | exact Rel.e | refine Rel.some ?_ ?_ ?_ | refine Rel.none ?_ ?_ | refine Rel.ee ?_ ?_)
     all_goals exact Ro aY
  ·by_cases ht : 0 <= bC T (j : Int) k
   ·have ec : jA (fun a => aZ T (a : Int) k) (j + 1) = jA (fun a => aZ T (a : Int) k) j := by show jA _ j + fS (aZ T (j : Int) k) = _; unfold fS; rw [if_neg hc]; omega
    have et : jA (fun a => bC T (a : Int) k) (j + 1) = jA (fun a => bC T (a : Int) k) j + 1 := by show jA _ j + fS (bC T (j : Int) k) = _; unfold fS; rw [if_pos ht]
    repeat' ((first | refine Qw ?_ | refine Qf iCO ?_ | refine Qf iTO ?_ | refine Qf iS1 ?_ | refine Qf Hj ?_ | refine Qv ?_) <;> conv => whnf)
    refine Again.to (j + 1) (by omega) (show j + 1 <= n.toNat by omega) (Nat.le_refl _) ?_
    show Shr _ (⟨(.n (.n (.n (.n .e (some (.pt (.o .h) 0 0)) .e) (some (.pt .h 0 0)) .e) none (.n (.n .e (some (.i .i64 (k : Int))) (.n .e (some (.i .i64 (jA (fun a => bC T (a : Int) k) (j + 1)))) .e)) none (.n .e (some (.lst 1 (ints C0))) .e))) none (.n (.n (.n .e (some (.lst 3 (aC aI T))) (.n .e (some (.i .i64 (jA (fun a => aZ T (a : Int) k) (j + 1)))) .e)) none .e) none (.n (.n .e (some (.lst 1 (ints MS))) (.n .e (some (.i .i64 (((j + 1) : Nat) : Int))) .e)) none (.n .e (some (.lst 1 (ints C4))) .e)))), (.n (.n .e (some (fK n coin box L C)) .e) (some (fK n coin box ls cs)) .e), (.i (.o .h)), none⟩)
    rw [ec, et]
    refine Shr.of ?_ ?_ rfl rfl
    ·exact Rw
    ·(repeat' first | exact Rel.e | refine Rel.some ?_ ?_ ?_ | refine Rel.none ?_ ?_ | refine Rel.ee ?_ ?_)
     all_goals exact Ro aY
   ·have ec : jA (fun a => aZ T (a : Int) k) (j + 1) = jA (fun a => aZ T (a : Int) k) j := by show jA _ j + fS (aZ T (j : Int) k) = _; unfold fS; rw [if_neg hc]; omega
    have et : jA (fun a => bC T (a : Int) k) (j + 1) = jA (fun a => bC T (a : Int) k) j := by show jA _ j + fS (bC T (j : Int) k) = _; unfold fS; rw [if_neg ht]; omega
    repeat' ((first | refine Qw ?_ | refine Qf iCO ?_ | refine Qf iTO ?_ | refine Qf iS1 ?_ | refine Qf Hj ?_ | refine Qv ?_) <;> conv => whnf)
    refine Again.to (j + 1) (by omega) (show j + 1 <= n.toNat by omega) (Nat.le_refl _) ?_
    show Shr _ (⟨(.n (.n (.n (.n .e (some (.pt (.o .h) 0 0)) .e) (some (.pt .h 0 0)) .e) none (.n (.n .e (some (.i .i64 (k : Int))) (.n .e (some (.i .i64 (jA (fun a => bC T (a : Int) k) (j + 1)))) .e)) none (.n .e (some (.lst 1 (ints C0))) .e))) none (.n (.n (.n .e (some (.lst 3 (aC aI T))) (.n .e (some (.i .i64 (jA (fun a => aZ T (a : Int) k) (j + 1)))) .e)) none .e) none (.n (.n .e (some (.lst 1 (ints MS))) (.n .e (some (.i .i64 (((j + 1) : Nat) : Int))) .e)) none (.n .e (some (.lst 1 (ints C4))) .e)))), (.n (.n .e (some (fK n coin box L C)) .e) (some (fK n coin box ls cs)) .e), (.i (.o .h)), none⟩)
    rw [ec, et]
    refine Shr.of ?_ ?_ rfl rfl
    ·exact Rw
    ·(repeat' first | exact Rel.e | refine Rel.some ?_ ?_ ?_ | refine Rel.none ?_ ?_ | refine Rel.ee ?_ ?_)
     all_goals exact Ro aY
 ·obtain rfl : j = n.toNat := by omega
  rw [t2]
  have s3 : jA (fun a => aZ T (a : Int) k) n.toNat <= 4 := by omega
  have s4 := s1.1
  have hp1 : 0 <= coin * jA (fun a => aZ T (a : Int) k) n.toNat := Int.mul_nonneg (by omega) s4
  have hp2 : coin * jA (fun a => aZ T (a : Int) k) n.toNat <= 99 * 4 := Int.le_trans (Int.mul_le_mul_of_nonneg_right hc.2 s4) (Int.mul_le_mul_of_nonneg_left s3 (by omega))
  clear s1 s2 t2
  generalize jA (fun a => aZ T (a : Int) k) n.toNat = S at *
  repeat' ((first | refine Qw ?_ | refine Qv ?_) <;> conv => whnf)
  refine Rn.loop (fun j : Nat => (⟨(.n (.n (.n (.n .e (some (.pt (.o .h) 0 0)) .e) (some (.pt .h 0 0)) .e) none (.n (.n .e (some (.i .i64 (k : Int))) (.n .e (some (.i .i64 S)) .e)) none (.n .e none (.n .e (some (.i .i64 ((j : Nat) : Int))) .e)))) none (.n (.n (.n .e (some (.lst 3 (aC aI T))) (.n .e (some (.i .i64 S)) .e)) none .e) none (.n (.n .e (some (.lst 1 (ints MS))) .e) none .e))), (.n (.n .e (some (fK n coin box L C)) .e) (some (fK n coin box ls cs)) .e), (.i (.o .h)), none⟩ : X)) (fun j => j <= T.length) (fun j => T.length - j) 0 ?_ (Nat.zero_le _) ?_
  ·refine X.le.mk ?_ ?_ (Nat.le_refl _) rfl rfl
   all_goals (repeat' first | exact Ev.T.le_e _ | exact Ev.T.le_refl _ | refine Ev.T.le_some ?_ rfl ?_ | refine Ev.T.le_none ?_ ?_ | refine Ev.T.le_ee ?_ ?_)
  intro j hj
  have hj : j <= T.length := hj
  conv => whnf
  repeat' ((first | refine Qw ?_ | refine Qv ?_) <;> conv => whnf)
  refine WB.dec (fun h => ?_) (fun h => ?_) <;> conv => whnf
  ·have hlt : j < T.length := by omega
   have iW := Pm n coin box L C (j : Int) (by omega)
   unfold QX at iW
   rw [show gE (j : Int) 0 ((L.length : Int) - 1) = true from aP.2 ⟨by omega, by omega⟩, oK h0 hh, if_pos rfl, Int.toNat_natCast] at iW
   have iHL := Or (Ax (B5 n coin box L C) j) (T.getD j default) (Nat.le_trans (List.length_filter_le _ _) (JP V _)) (fun a h => HG V (by show j < L.length; omega) (fC.1 (List.mem_filter.1 h).1)) (QV h0 hm hlt)
   generalize Ax (B5 n coin box L C) j = W at *
   repeat' ((first | refine Qw ?_ | refine Qf iB ?_ | refine Qf iW ?_ | refine Qf iHL ?_ | refine Qv ?_) <;> conv => whnf)
   refine Again.to (j + 1) (by omega) (show j + 1 <= T.length by omega) (Nat.le_refl _) ?_
   refine Shr.of ?_ ?_ rfl rfl
   ·exact Rw
   ·(repeat' first | exact Rel.e | refine Rel.some ?_ ?_ ?_ | refine Rel.none ?_ ?_ | refine Rel.ee ?_ ?_)
    all_goals exact Ro aY
  ·repeat' ((first | refine Qw ?_ | refine Qf AW ?_ | refine Qv ?_) <;> conv => whnf)
   exact Fin.b rfl rfl
theorem main_tokenTruth (AW : PureF Try.prog p22.ix [] (.b true)) {es : List D} (fit : FitP [(true, [.i .i64, .i .i64, .i .i64, .sl [.i .i64, .i .i64, .i .i64], .sl [.i .i64, .i .i64, .i .i64]]), (false, [.sl [.i .u16]]), (false, [.i .u8])] es) : PureF Try.prog 9 es (.b true) := by
 obtain ⟨n, coin, box, ls, cs, _, rfl, g1⟩ := fit.book
 obtain ⟨ws, _, rfl, w0, g2⟩ := g1.nums
 obtain ⟨a, _, rfl, w1, g3⟩ := g2.i
 obtain rfl := g3.no
 exact Ai n coin box ls cs ws a (fun w h => QA (w0 w h)) (TR w1) AW
end Go.Ev
namespace Go.Proofs.Ytjgbfnciedkafaa.tokenTruth
open Go.ChangeShapes Go.WideShapes Go.ChangeAt Go.RowKit
open Go.ChangeMaps (open_string shut_string)
set_option linter.unusedVariables false
theorem laid : laidOutB Try.prog = true := faP.laid
theorem own : ownKnob Try.prog.godebug = none := by kernel_rfl
theorem walk {es : List Go.Ev.D} (fit : Go.Ev.FitP [(true, [.i .i64, .i .i64, .i .i64, .sl [.i .i64, .i .i64, .i .i64], .sl [.i .i64, .i .i64, .i .i64]]), (false, [.sl [.i .u16]]), (false, [.i .u8])] es) {args : Array Value} {W : World} (ha : Go.Ev.DVL (Go.Ev.γH W) W es args.toList) :
    Calls Try.prog 9 args W fun e w' => e = .returned (.bool true) ∧ Grown W w' ∧ Below W.heap.size W w' :=
  Go.Ev.PureF.calls (Go.Ev.main_tokenTruth (fun ob nx lg => Go.Ev.t21.any ob nx lg) fit) ha
set_option maxRecDepth 100000 in
theorem lifted (os : Os) (started : os.Started) (H : Type) (enc : TypeId × Value → H) :
    ReturnsInHanded {} Try.checked os 9 .any (Rows.tokenTruthSpec.pre6 enc Try.prog Try.f9 Rows.tokenTruthRow.domain false) (Rows.tokenTruthSpec.post enc Try.prog Try.f9 false true false false) := by
  refine returnsInHanded_of_change (C := Try.checked) own started (by kernel_rfl) Try.func9
    (ChangeSpec.witness6 (enc := enc) (C := Try.checked) false ⟨#[], #[.agg #[.int .i64 0, .int .i64 0, .int .i64 0, .slice none 0 0, .slice none 0 0], .slice none 0 0, .int .u8 0], []⟩ 8 (by kernel_rfl) (by kernel_rfl) (by kernel_rfl) (by kernel_rfl)) ?_
  intro W base args ds gs before hval0 hW hcnd _
  have hval : ∀ (j : Nat) t v, Try.f9.params[j]? = some t → args[j]? = some v → Value.okWide Try.prog W .any base t v := hval0
  have hW' := hW
  obtain ⟨p, q, hA0, hV, rfl, hfz, hnd⟩ := hW
  have hA : DataW.TrodAll enc Try.prog W 0 (fun _ => true) true Try.f9.params.toList args.toList ds p := hA0
  rw [Try.params9] at hA hval
  obtain ⟨rfl, rfl⟩ := trodVars_none hV
  obtain ⟨d0, d1, d2, rfl⟩ := Go.Ev.len3 (Go.Ev.trod_len hA)
  clear hA0 hval0
  simp only [List.append_nil] at hW'
  obtain ⟨es, fit, dv⟩ := Go.Ev.open_all (n := 6) (pars := [(true, [.i .i64, .i .i64, .i .i64, .sl [.i .i64, .i .i64, .i .i64], .sl [.i .i64, .i .i64, .i .i64]]), (false, [.sl [.i .u16]]), (false, [.i .u8])]) (by kernel_rfl) hA (fun j t v h1 h2 => hval j t v (by simpa using h1) (by simpa using h2))
  have hlt : ∀ x ∈ p, x.block < W.heap.size := fun x hx => by simpa using hW'.lt x hx
  refine (walk fit dv).mono fun e W' ⟨he, hg, hb⟩ => ?_
  subst he
  exact ⟨_, rfl, post_of_same (pa := p) (pv := []) hW' (fun _ _ _ => (trodAll_cons_mk (shut_bool Try.underlying4 _) trodAll_mk0))
    (fun sp hs => Go.Ev.stays_all laid (Go.Ev.of_allT (by kernel_rfl)) hA (fun x hx => hb.same (hlt x hx)) (fun x hx => hs x hx))
    (fun _ _ => rfl) (List.append_nil _).symm
    (hg.frame _) hg.2.1 (ok_one (by kernel_rfl) rfl (okWide_bool_mk Try.underlying4 _))⟩
theorem over : Rows.tokenTruthRow.holds Try.pinned (OpenSpec.ofChange Rows.tokenTruthSpec) :=
  OpenClaim.holds_of_wide 9 Try.f9 rfl rfl rfl rfl rfl rfl rfl ⟨rfl, rfl, rfl, rfl, rfl⟩ rfl rfl rfl rfl rfl (by kernel_rfl) Try.func9 faTokenTruth.all
    (of_decide_eq_true (by kernel_rfl)) (by unfold Func.isWrapper; first | (rw [if_pos (by decide +kernel)]; kernel_rfl) | (rw [if_neg (by decide +kernel)]; exact ⟨rfl, rfl⟩))
    (fun os started H enc _ => lifted os started H enc)
theorem proved : Rows.TokenTruthSaid :=
  over
#print axioms proved
end Go.Proofs.Ytjgbfnciedkafaa.tokenTruth