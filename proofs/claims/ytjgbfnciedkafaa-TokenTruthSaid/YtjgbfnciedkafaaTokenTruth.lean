/-
  The law TokenTruth answers true for every book, list of words and number, and leaves memory as it was, whatever the state of the machine that it starts in. No conditions.
-/
import Derived.Test.YtjgbfnciedkafaaEvUHa
import Derived.Test.YtjgbfnciedkafaaEvUGk
import Derived.Test.YtjgbfnciedkafaaRows
import Derived.WalkKit
import Derived.ProofKit
import Derived.OpenShut
import Derived.Test.YtjgbfnciedkafaaEvUIt
import Derived.ShutString
import Derived.Test.YtjgbfnciedkafaaFaTokenTruth
set_option linter.all false
set_option maxHeartbeats 8000000
namespace Go.Ev
open Go.Proofs
set_option maxRecDepth 1000000
def Um : Pos := .i p95
def Th : Pos := .o Hq
def TC : Pos := .i Hq
def Uk : Pos := .o p97
def RQ : Pos := .i p97
def VE : Pos := .o KV
def UR : Pos := .i KV
def TI : Pos := .o Kn
def Sq : Pos := .i Kn
def UN : Pos := .o wM
def UZ : Pos := .i wM
def SS : Pos := .o xR
def Bs : Pos := .i xR
def Rk : Pos := .o pN
def QJ : Pos := .i pN
def Pw : Pos := .o xB
def QO : Pos := .i xB
def Ob : Pos := .o Bn
def PZ : Pos := .i Bn
def OE : Pos := .o p105
def SL : Pos := .i p105
def TQ : Pos := .o p106
def SX : Pos := .i p106
def Ul : Pos := .o p107
def Vx : Pos := .i p107
def So : Pos := .o p108
def TM : Pos := .i p108
def SG : Pos := .o p109
def Ta : Pos := .i p109
def Rz : Pos := .o p110
def VQ : Pos := .i p110
def Tn : Pos := .o p111
def TB : Pos := .i p111
def Oh : Pos := .o p112
def Tk : Pos := .i p112
def Sh : Pos := .o p113
def Vv : Pos := .i p113
def Uq : Pos := .o p114
def SY : Pos := .i p114
def UB : Pos := .o p115
def SZ : Pos := .i p115
def TF : Pos := .o p116
def Bh : Pos := .i p116
def NV : Pos := .o p117
def OA : Pos := .i p117
def Rj : Pos := .o p118
def Pg : Pos := .i p118
def Oz : Pos := .o p119
def Oq : Pos := .i p119
def Oj : Pos := .o p120
def SJ : Pos := .i p120
def UH : Pos := .o p121
def UG : Pos := .i p121
def Tg : Pos := .o p122
def qQ : Pos := .i p122
def Qh : Pos := .o p123
def QY : Pos := .i p123
def Px : Pos := .o p124
def Ot : Pos := .i p124
def ON : Pos := .o p125
def Qs : Pos := .i p125
def QC : Pos := .o AL
def Pn : Pos := .i AL
def PJ : Pos := .o Dq
def Of : Pos := .i Dq
def Qr : Pos := .o DE
def QB : Pos := .i DE
def Uu : Pos := .o Dn
def OI : Pos := .i Dn
def NW : Pos := .o Gd
def TV : Pos := .i Gd
noncomputable def Zr : RC := (Sr [(.u (.box p4 p1)), (.u (.mv p7 (.k (.b false))))] (.seq (Sr [(Fd p33 p4 0), (L1 p34 p33), (Cf kO p36 [p34, (K_ 1), (K_ 4)]), (.u (.un p36 .not kO)), (Mv kZ p36), (Gs kZ false mY (.fad mY p4 1)), (Gs kZ false p39 (.ld1 p39 mY)), (Gs kZ false p40 (.cf (some p40) p36 [p39, (K_ 1), (K_ 99)])), (Gs kZ false p41 (.un p41 .not p40)), (Po qA kZ p41), (Mv lT qA), (Gs lT false p44 (.fad p44 p4 2)), (Gs lT false sS (.ld1 sS p44)), (Gs lT false vW (.cf (some vW) p36 [sS, (K_ 0), (K_ 999)])), (Gs lT false p47 (.un p47 .not vW)), (Po p48 lT p47)] (.cond p48 (Sr [(Cf Be p22 []), (Mv p7 Be)] .ret) .skip)) (Sr [(bM Bv p4 5), (Mv By p2), (Cf Bt p54 [Bv, By]), (Mv uD Bt), (.u (.ext p54 uD 0)), (.u (.ext p55 uD 1)), (.u (.new p8 [(.i .i64 0), (.i .i64 0), (.i .i64 0), .ns, .ns])), (.u (.st p8 p54 5)), (Mv p9 p55)] (.seq (Sr [(bM p56 p8 5), (Cf p57 p55 [p56]), (.u (.un p58 .not p57))] (.cond p58 (Sr [(Cf p59 p22 []), (Mv p7 p59)] .ret) .skip)) (Sr [(Mv p60 p3), (.u (.cvi DC .i64 p60)), (Mv DN p9), (.u (.len p63 DN)), (cD Gr .add p63 1), (dZ DT .rem DC Gr), (Mv p10 DT)] (Sr [(bM Le p8 5), (Cf Jc p24 [Le]), (Mv KC p9), (Cf p70 p25 [KC]), (Cf FB p23 [Jc, p70]), (Mv EG FB), (.u (.ext Hw EG 0)), (.u (.ext KH EG 1)), (.u (.ext KL EG 2)), (Mv bD Hw), (Mv bF KH), (Mv bG KL)] (Sr [(bM p76 p8 5), (Cf p77 p24 [p76]), (Mv p78 p10), (Cf p79 p34 [p77, p78]), (Mv p75 p79), (.u (.ext p80 p75 0)), (.u (.ext p81 p75 1)), (.u (.ext p82 p75 2)), (Mv bH p80), (Mv bN p81), (Mv bO p82)] (Sr [(bM p84 p8 5), (Cf p85 p24 [p84]), (Mv p86 p10), (Cf p87 p39 [p85, p86]), (Mv IU p87), (.u (.ext HV IU 0)), (.u (.ext p89 IU 1)), (.u (.new bY [(.i .i64 0), (.i .i64 0)])), (.u (.st bY HV 2)), (Mv bT p89)] (Sr [(bM HK p8 5), (Cf p92 p24 [HK]), (Cf p93 p40 [p92]), (Mv Hu p93), (.u (.ext p94 Hu 0)), (.u (.ext p95 Hu 1)), (.u (.new cH [(.i .i64 0), (.i .i64 0)])), (.u (.st cH p94 2)), (Mv cB p95)] (Sr [(bM p97 p8 5), (Cf KV p24 [p97]), (Cf Kn p48 [KV]), (Mv Hq Kn), (.u (.ext wM Hq 0)), (.u (.ext xR Hq 1)), (Mv p21 wM), (Mv p22 xR)] (Sr [(bM xB p8 5), (Cf Bn p24 [xB]), (Cf p105 p47 [Bn]), (Mv pN p105), (.u (.ext p106 pN 0)), (.u (.ext p107 pN 1)), (Mv p23 p106), (Mv p24 p107)] (.seq (.seq (.drw [(Mv p108 bG), (cD p109 .neq p108 0), (Mv p110 p109), (Gs p110 false p111 (.mv p111 bO)), (Gs p110 false p112 (.bin p112 .neq p111 (K_ 0))), (Po p113 p110 p112), (Mv p114 p113), (Gs p114 false p115 (.mv p115 bT)), (Gs p114 false p116 (.bin p116 .neq p115 (K_ 0))), (Po p117 p114 p116), (Mv p118 p117), (Gs p118 false p119 (.mv p119 cB)), (Gs p118 false p120 (.bin p120 .neq p119 (K_ 0))), (Po p121 p118 p120), (Mv p122 p121), (Gs p122 false p123 (.mv p123 p22)), (Gs p122 false p124 (.bin p124 .neq p123 (K_ 0))), (Po p125 p122 p124), (Mv AL p125), (Gs AL false Dq (.mv Dq p21)), (Gs AL false DE (.len DE Dq)), (Gs AL false Dn (.bin Dn .neq DE (K_ 0))), (Po Gd AL Dn), (Mv Gv Gd), (Gs Gv false JF (.mv JF p24)), (Gs Gv false Ji (.bin Ji .neq JF (K_ 7))), (Po Mf Gv Ji), (Mv p135 Mf), (Gs p135 false p136 (.mv p136 bD)), (Gs p135 false p137 (.len p137 p136)), (Gs p135 false p138 (.mv p138 p9)), (Gs p135 false p139 (.len p139 p138)), (Gs p135 false p140 (.bin p140 .add p139 (K_ 1))), (Gs p135 false p141 (.bin p141 .neq p137 p140)), (Po p142 p135 p141), (Mv p143 p142), (Gs p143 false p144 (.mv p144 bH)), (Gs p143 false p145 (.len p145 p144)), (Gs p143 false KW (.fad KW p4 0)), (Gs p143 false HM (.ld1 HM KW)), (Gs p143 false Jl (.bin Jl .neq p145 HM)), (Po LH p143 Jl), (Mv Bl LH), (Gs Bl false JV (.mv JV bN)), (Gs Bl false Ko (.len Ko JV)), (Gs Bl false KS (.fad KS p4 0)), (Gs Bl false Jf (.ld1 Jf KS)), (Gs Bl false Ib (.bin Ib .neq Ko Jf)), (Po p156 Bl Ib), (Mv uY p156), (Gs uY false p158 (.ldn p158 p8 5)), (Gs uY false p159 (.cf (some p159) p24 [p158])), (Gs uY false p160 (.mv p160 p9)), (Gs uY false p161 (.cf (some p161) p25 [p160])), (Gs uY false Bc (.cf (some Bc) p26 [p159, p161])), (Gs uY false Gb (.un Gb .not Bc)), (Po HL uY Gb), (Mv p165 HL), (Gs p165 false GY (.mv GY bD)), (Gs p165 false JP (.mv JP p10)), (Gs p165 false JQ (.ixs JQ 1 GY JP)), (Gs p165 false La (.ld1 La JQ)), (Gs p165 false Kh (.ldn Kh bY 2)), (Gs p165 false JG (.cf (some JG) p56 [La, Kh])), (Gs p165 false HO (.un HO .not JG)), (Po Mu p165 HO), (Mv Cx Mu), (Gs Cx false Ik (.mv Ik bF)), (Gs Cx false PI (.ldn PI cH 2)), (Gs Cx false Oa (.cf (some Oa) p56 [Ik, PI])), (Gs Cx false Oe (.un Oe .not Oa)), (Po RM Cx Oe)] [0, 1, 3, 7, 15, 31, 63, 127, 255, 511, 1023, 2047, 4095, 8191, 16383, 32767, 65535, 131071, 262143, 524287, 1048575, 2097151, 4194303, 8388607, 16777215, 33554431, 67108863, 134217727, 268435455, 536870911, 268435455, 1342177279, 3489660927, 8589934591, 17179869183, 34359738367, 68719476735, 137438953471, 68719476735, 343597383679, 1099511627775, 2199023255551, 4398046511103, 8796093022207, 17592186044415, 8796093022207, 43980465111039, 140737488355327, 281474976710655, 562949953421311, 1125899906842623, 2251799813685247, 1125899906842623, 9007199254740991, 18014398509481983, 36028797018963967, 72057594037927935, 144115188075855871, 288230376151711743, 288230376151711743, 1152921504606846975, 2305843009213693951, 288230376151711743, 9223372036854775807, 18446744073709551615, 36893488147419103231, 73786976294838206463, 147573952589676412927, 147573952589676412927, 590295810358705651711, 1180591620717411303423, 2361183241434822606847]) (.cond RM (Sr [(.u (.mv p7 (.k (.b false))))] .ret) .skip)) (Sr [(.u (.mv p25 (K_ 0))), (.u (.mv p26 (K_ 0)))] (.seq (Sr [(.u (.mv eB (K_ 0)))] (.blk 0 (.loop (.seq (Sr [(Mv VY eB), (Fd UC p4 0), (L1 RV UC), (dZ SN .lss VY RV)] (.cond SN .skip (.exit 0))) (.seq (.blk 1 (Sr [(Mv RW p9), (Mv Uy p10), (Mv Sy eB), (Cf UV p57 [RW, Uy, Sy]), (cD Tb .geq UV 0), (Mv Um p9), (Mv Th p10), (Mv TC eB), (Cf Uk p58 [Um, Th, TC]), (cD RQ .geq Uk 0), (Mv p28 Tb), (Mv eY RQ)] (.seq (Sr [(Mv VE bH), (Mv UR eB), (.u (.ixs TI 1 VE UR)), (L1 Sq TI), (Mv UN p28), (Cf UZ p59 [Sq, UN]), (.u (.un SS .not UZ)), (Mv Bs SS), (Gs Bs false Rk (.mv Rk bN)), (Gs Bs false QJ (.mv QJ eB)), (Gs Bs false Pw (.ixs Pw 1 Rk QJ)), (Gs Bs false QO (.ld1 QO Pw)), (Gs Bs false Ob (.mv Ob eY)), (Gs Bs false PZ (.cf (some PZ) p59 [QO, Ob])), (Gs Bs false OE (.un OE .not PZ)), (Po SL Bs OE)] (.cond SL (Sr [(.u (.mv p7 (.k (.b false))))] .ret) .skip)) (.seq (Sr [(Mv TQ p28)] (.cond TQ (.reg [(Mv SX p25), (cD Ul .add SX 1), (Mv p25 Ul)]) .skip)) (Sr [(Mv Vx eY)] (.cond Vx (.reg [(Mv So p26), (cD TM .add So 1), (Mv p26 TM)]) .skip)))))) (.reg [(Mv RH eB), (cD Sl .add RH 1), (Mv eB Sl)])))))) (.seq (Sr [(.u (.mv eG (K_ 0)))] (.blk 2 (.loop (.seq (Sr [(Mv SG eG), (Mv Ta p9), (.u (.len Rz Ta)), (dZ VQ .lss SG Rz)] (.cond VQ .skip (.exit 2))) (.seq (.blk 3 (Sr [(bM Tk p8 5), (Cf Sh p24 [Tk]), (Mv Vv eG), (Cf Uq p44 [Sh, Vv]), (Mv Oh Uq), (.u (.ext SY Oh 0)), (.u (.ext UB Oh 1)), (Mv p31 SY), (Mv iA UB)] (Sr [(Mv SZ iA), (cD TF .neq SZ 0), (Mv Bh TF), (Gs Bh false NV (.mv NV p31)), (Gs Bh false OA (.mv OA p9)), (Gs Bh false Rj (.mv Rj eG)), (Gs Bh false Pg (.ixs Pg 3 OA Rj)), (Gs Bh false Oz (.ldn Oz Pg 3)), (Gs Bh false Oq (.cf (some Oq) p60 [NV, Oz])), (Gs Bh false Oj (.un Oj .not Oq)), (Po SJ Bh Oj)] (.cond SJ (Sr [(.u (.mv p7 (.k (.b false))))] .ret) .skip)))) (.reg [(Mv Tn eG), (cD TB .add Tn 1), (Mv eG TB)])))))) (.seq (.drw [(Mv UH p25), (Mv UG p26), (dZ Tg .eql UH UG), (Mv qQ Tg), (Gs qQ true Qh (.mv Qh bD)), (Gs qQ true QY (.mv QY p10)), (Gs qQ true Px (.ixs Px 1 Qh QY)), (Gs qQ true Ot (.ld1 Ot Px)), (Gs qQ true ON (.fad ON p4 2)), (Gs qQ true Qs (.ld1 Qs ON)), (Gs qQ true QC (.fad QC p4 1)), (Gs qQ true Pn (.ld1 Pn QC)), (Gs qQ true PJ (.mv PJ p25)), (Gs qQ true Of (.bin Of .mul Pn PJ)), (Gs qQ true Qr (.bin Qr .add Qs Of)), (Gs qQ true QB (.bin QB .eql Ot Qr)), (Pa Uu qQ QB), (Mv OI Uu), (Gs OI true NW (.cf (some NW) p22 [])), (Pa TV OI NW), (Mv p7 TV)] [0, 0, 3, 7, 15, 15, 63, 127, 15, 271, 15, 1039, 15, 7183, 16143, 32767, 65535, 131071, 262143, 524287, 1048575]) .ret))))))))))))))))
def Zp : List RR := [(.t p7)]
theorem Zt : FnOk Try.prog p10.ix 261 Zr Zp := dU Try.f9 Try.func9
end Go.Ev
namespace Go.Ev
open Go.Proofs
set_option maxRecDepth 100000
theorem JK {B : Bk} (V : VB B) {line : Nat} (hl : line < B.ls.length) {a : Ln} (h : AO B.n (B.ls.getD line default) a = true) : kW a := by
 obtain ⟨h1, h2, h3⟩ := V.rd hl h
 exact ⟨cK (by omega) (by omega), cK (by omega) (by omega), cK (by omega) (by omega)⟩
theorem GF : ∀ e : _root_.Fin 9, iD 0 e.1 = [] := by decide +kernel
theorem Bj (n coin box : Int) (ls : List Ln) (cs : List Ct) (ws : List Int) (after : Int) (hws : ∀ w ∈ ws, 0 <= w /\ w <= 65535) (w1 : 0 <= after /\ after <= 255) (AW : PureF Try.prog p22.ix [] (.b true)) : PureF Try.prog p10.ix [.ag [.i .i64 n, .i .i64 coin, .i .i64 box, .lst 3 (aC aI ls), .lst 3 (aC cX cs)], .lst 1 (aC rF ws), .i .u8 after] (.b true) := by
 have i1 := nL n 1 4
 have i2 := nL coin 1 99
 have i3 := nL box 0 999
 refine PureF.run Zt (by simp) (by simp [aO, dF, Pu, aB, aE, dD]) ?_; conv => whnf
 cases h1 : gE n 1 4 with
 | false =>
   rw [h1] at i1
   repeat' ((first | refine Qw ?_ | refine Qf i1 ?_ | refine Qf AW ?_ | refine Qv ?_) <;> conv => whnf)
   exact Fin.b rfl rfl
 | true =>
 rw [h1] at i1
 cases h2 : gE coin 1 99 with
 | false =>
   rw [h2] at i2
   repeat' ((first | refine Qw ?_ | refine Qf i1 ?_ | refine Qf i2 ?_ | refine Qf AW ?_ | refine Qv ?_) <;> conv => whnf)
   exact Fin.b rfl rfl
 | true =>
 rw [h2] at i2
 cases h3 : gE box 0 999 with
 | false =>
   rw [h3] at i3
   repeat' ((first | refine Qw ?_ | refine Qf i1 ?_ | refine Qf i2 ?_ | refine Qf i3 ?_ | refine Qf AW ?_ | refine Qv ?_) <;> conv => whnf)
   exact Fin.b rfl rfl
 | true =>
 rw [h3] at i3
 have hn := aP.1 h1
 have hc := aP.1 h2
 have hb := aP.1 h3
 obtain ⟨v, ⟨T, L, C, rfl, hT8, hC3, hHI, hCg⟩, iH⟩ := MR n coin box ls cs ws hws hn hb hc
 have iR := Lu n coin box L C
 unfold CZ at iR
 cases hR : wA n coin box L C with
 | false =>
   rw [hR] at iR
   repeat' ((first | refine Qw ?_ | refine Qf i1 ?_ | refine Qf i2 ?_ | refine Qf i3 ?_ | refine Qf iH ?_ | refine Qf iR ?_ | refine Qf AW ?_ | refine Qv ?_) <;> conv => whnf)
   exact Fin.b rfl rfl
 | true =>
 rw [hR] at iR
 obtain ⟨l8, l4, h0⟩ := Ii hR
 have V := VB.of h0
 have hm := Pr h0 hHI hCg
 have hlen : L.length = T.length := hHI.len
 have e1 := aD aI T
 have b1 := Int.tmod_nonneg (((aC aI T).length : Int) + 1) w1.1
 have b2 := Int.tmod_lt_of_pos after (show (0 : Int) < ((aC aI T).length : Int) + 1 by omega)
 obtain ⟨k, hk⟩ := Int.eq_ofNat_of_zero_le b1
 have hkT : k <= T.length := by omega
 have hwf : ∀ r ∈ T, kW r := fun r hr => by
  obtain ⟨i, hi, e⟩ := CS (d := default) hr
  have h := (Ny h0 hm) i hi
  rw [<- e]
  exact JK V (by show i < L.length; omega) h.1
 have hfit : sI n coin box L C T = true := (jN V).1 hm
 have hfol : bX n L T = true := by
  rw [pQ hn (show L.all (cQ n) = true from V.ls), hHI.rd, hHI.poss]; rfl
 have iB := OM n coin box L C (by omega) (by omega)
 have iTr := Ei T (by omega)
 have iP := OZ n coin box L C T (by omega) hwf
 rw [Je h0 hfol] at iP
 have iP : PureF Try.prog p23.ix [.ag [.i .i64 n, .i .i64 coin, .i .i64 box, .lst 3 (aC aI L), .lst 3 (aC cX C)], .lst 3 (aC aI T)] (.tp [.lst 1 (ints ((List.range (T.length + 1)).map (cL box coin T))), .i .i64 (gL T T.length), .i .i64 0]) := iP
 have iPr := LY n coin box L C T (by omega) hwf
 rw [GT h0, hfit] at iPr
 have hh := AK h0 hm
 have hin : gE (k : Int) 0 (L.length : Int) = true := aP.2 ⟨by omega, by omega⟩
 have iO := QR n coin box L C (k : Int)
 unfold NY at iO
 rw [hin, oL h0 hh, if_pos rfl, Int.toNat_natCast] at iO
 have iM := Jy n coin box L C (k : Int)
 unfold PE at iM
 rw [hin, oL h0 hh, if_pos rfl, Int.toNat_natCast] at iM
 have iX := Jm n coin box L C
 unfold Qq at iX
 rw [oL h0 hh, if_pos rfl] at iX
 have iL := Io n coin box L C
 unfold Gi at iL
 rw [if_pos h0, Ol h0 hm] at iL
 have iL : PureF Try.prog p48.ix [.ag [.i .i64 n, .i .i64 coin, .i .i64 box, .lst 3 (aC aI L), .lst 3 (aC cX C)]] (.tp [mK (iD 0 L.length), .i .i64 0]) := iL
 rw [GF ⟨L.length, by omega⟩] at iL
 have iL : PureF Try.prog p48.ix [.ag [.i .i64 n, .i .i64 coin, .i .i64 box, .lst 3 (aC aI L), .lst 3 (aC cX C)]] (.tp [.ns, .i .i64 0]) := iL
 have iF := Ky n coin box L C
 unfold DD at iF
 rw [if_pos h0, Kx h0 hm] at iF
 have iF : PureF Try.prog p47.ix [.ag [.i .i64 n, .i .i64 coin, .i .i64 box, .lst 3 (aC aI L), .lst 3 (aC cX C)]] (.tp [.i .i64 0, .i .i64 7]) := iF
 have q1 := IE h0 hm k Mo.box
 have q1 : _ <= cL box coin T k /\ cL box coin T k <= _ := q1
 have q2 := IE h0 hm L.length Mo.mix
 have q2 : _ <= gL T L.length /\ gL T L.length <= _ := q2
 rw [hlen] at q2 iX
 have ii2 := Vi _ _ _ q2
 unfold Cg at iM iX
 obtain ⟨t1, t2⟩ := QZ h0 hm hkT
 have vC := fun j (hj : j < 4) => OW h0 hm k hj
 have vT := fun j (hj : j < 4) => PX h0 hm k hj
 have vl0 : (nK (B5 n coin box L C) k 0).length = n.toNat := mJ _ _ _
 have vl4 : (nK (B5 n coin box L C) k 4).length = n.toNat := mJ _ _ _
 have wl0 : (ints (nK (B5 n coin box L C) k 0)).length = n.toNat := by rw [aU]; exact vl0
 have wl4 : (ints (nK (B5 n coin box L C) k 4)).length = n.toNat := by rw [aU]; exact vl4
 have vC : ∀ j, j < n.toNat -> (1 <= (nK (B5 n coin box L C) k 0).getD j 0 /\ (nK (B5 n coin box L C) k 0).getD j 0 <= 3) /\ ((nK (B5 n coin box L C) k 0).getD j 0 = 1 -> decide (0 <= aZ T (j : Int) k) = true) /\ ((nK (B5 n coin box L C) k 0).getD j 0 = 2 -> decide (0 <= aZ T (j : Int) k) = false) := fun j hj => by
  have e : (nK (B5 n coin box L C) k 0).getD j 0 = yN (B5 n coin box L C) k (0 + j) := AX hj
  rw [e]; exact vC j (by omega)
 have vT : ∀ j, j < n.toNat -> (1 <= (nK (B5 n coin box L C) k 4).getD j 0 /\ (nK (B5 n coin box L C) k 4).getD j 0 <= 3) /\ ((nK (B5 n coin box L C) k 4).getD j 0 = 1 -> decide (0 <= bC T (j : Int) k) = true) /\ ((nK (B5 n coin box L C) k 4).getD j 0 = 2 -> decide (0 <= bC T (j : Int) k) = false) := fun j hj => by
  have e : (nK (B5 n coin box L C) k 4).getD j 0 = yN (B5 n coin box L C) k (4 + j) := AX hj
  rw [e]; exact vT j (by omega)
 have hMl : (ints ((List.range (T.length + 1)).map (cL box coin T))).length = T.length + 1 := by rw [aU, List.length_map, List.length_range]
 have hMl2 : ((List.range (T.length + 1)).map (cL box coin T)).length = T.length + 1 := by rw [List.length_map, List.length_range]
 have hMk : ((List.range (T.length + 1)).map (cL box coin T)).getD k 0 = cL box coin T k := by simp [List.getD, show k < T.length + 1 by omega]
 rw [<- hMk] at q1 t1
 have ii1 := Vi _ _ _ q1
 generalize nK (B5 n coin box L C) k 0 = C0 at *
 generalize nK (B5 n coin box L C) k 4 = C4 at *
 generalize (List.range (T.length + 1)).map (cL box coin T) = MS at *
 generalize (eX (B5 n coin box L C) k Mo.box).foldl min ((eX (B5 n coin box L C) k Mo.box).getD 0 0) = r1 at *
 generalize (eX (B5 n coin box L C) k Mo.box).foldl max ((eX (B5 n coin box L C) k Mo.box).getD 0 0) = r2 at *
 generalize (eX (B5 n coin box L C) T.length Mo.mix).foldl min ((eX (B5 n coin box L C) T.length Mo.mix).getD 0 0) = q3 at *
 generalize (eX (B5 n coin box L C) T.length Mo.mix).foldl max ((eX (B5 n coin box L C) T.length Mo.mix).getD 0 0) = q4 at *
 generalize gL T T.length = mx at *
 repeat' ((first | refine Qw ?_ | refine Qf i1 ?_ | refine Qf i2 ?_ | refine Qf i3 ?_ | refine Qf iH ?_ | refine Qf iR ?_ | refine Qf iB ?_ | refine Qf iTr ?_ | refine Qf iP ?_ | refine Qv ?_) <;> conv => whnf)
 rw [hk]
 repeat' ((first | refine Qw ?_ | refine Qf iB ?_ | refine Qf iTr ?_ | refine Qf iP ?_ | refine Qf iO ?_ | refine Qf iM ?_ | refine Qf iX ?_ | refine Qf iL ?_ | refine Qf iF ?_ | refine Qf iPr ?_ | refine Qf ii1 ?_ | refine Qf ii2 ?_ | refine Qv ?_) <;> conv => whnf)
 refine Rn.loop (fun j : Nat => (⟨(.n (.n (.n (.n .e (some (.pt (.o .h) 0 0)) .e) (some (.pt .h 0 0)) .e) none (.n (.n .e (some (.i .i64 (k : Int))) (.n .e (some (.i .i64 (jG (fun a => bC T (a : Int) k) j))) .e)) none (.n .e (some (.lst 1 (ints C0))) .e))) none (.n (.n (.n .e (some (.lst 3 (aC aI T))) (.n .e (some (.i .i64 (jG (fun a => aZ T (a : Int) k) j))) .e)) none .e) none (.n (.n .e (some (.lst 1 (ints MS))) (.n .e (some (.i .i64 ((j : Nat) : Int))) .e)) none (.n .e (some (.lst 1 (ints C4))) .e)))), (.n (.n .e (some (fM n coin box L C)) .e) (some (fM n coin box ls cs)) .e), (.i (.o .h)), none⟩ : X)) (fun j => j <= n.toNat) (fun j => n.toNat - j) 0 ?_ (Nat.zero_le _) ?_
 ·refine X.le.mk ?_ ?_ (Nat.le_refl _) rfl rfl
  all_goals (repeat' first | exact Ev.T.le_e _ | exact Ev.T.le_refl _ | refine Ev.T.le_some ?_ rfl ?_ | refine Ev.T.le_none ?_ ?_ | refine Ev.T.le_ee ?_ ?_)
 intro j hj
 have hj : j <= n.toNat := hj
 have s1 := DG (fun a => aZ T (a : Int) k) j
 have s2 := DG (fun a => bC T (a : Int) k) j
 conv => whnf
 repeat' ((first | refine Qw ?_ | refine Qv ?_) <;> conv => whnf)
 refine WB.dec (fun h => ?_) (fun h => ?_) <;> conv => whnf
 ·have hlt : j < n.toNat := by omega
  have iCO := xD T k (j : Int) (by omega) hkT
  have iTO := uX T k (j : Int) (by omega) hkT
  obtain ⟨x1, x2, x3⟩ := vC j hlt
  obtain ⟨y1, y2, y3⟩ := vT j hlt
  have iS1 := CR (C0.getD j 0) (decide (0 <= aZ T (j : Int) k)) x1 x2 x3
  have Hn := CR (C4.getD j 0) (decide (0 <= bC T (j : Int) k)) y1 y2 y3
  by_cases hc : 0 <= aZ T (j : Int) k
  ·by_cases ht : 0 <= bC T (j : Int) k
   ·have ec : jG (fun a => aZ T (a : Int) k) (j + 1) = jG (fun a => aZ T (a : Int) k) j + 1 := by show jG _ j + fS (aZ T (j : Int) k) = _; unfold fS; rw [if_pos hc]
    have et : jG (fun a => bC T (a : Int) k) (j + 1) = jG (fun a => bC T (a : Int) k) j + 1 := by show jG _ j + fS (bC T (j : Int) k) = _; unfold fS; rw [if_pos ht]
    repeat' ((first | refine Qw ?_ | refine Qf iCO ?_ | refine Qf iTO ?_ | refine Qf iS1 ?_ | refine Qf Hn ?_ | refine Qv ?_) <;> conv => whnf)
    refine Again.to (j + 1) (by omega) (show j + 1 <= n.toNat by omega) (Nat.le_refl _) ?_
    show Shr _ (⟨(.n (.n (.n (.n .e (some (.pt (.o .h) 0 0)) .e) (some (.pt .h 0 0)) .e) none (.n (.n .e (some (.i .i64 (k : Int))) (.n .e (some (.i .i64 (jG (fun a => bC T (a : Int) k) (j + 1)))) .e)) none (.n .e (some (.lst 1 (ints C0))) .e))) none (.n (.n (.n .e (some (.lst 3 (aC aI T))) (.n .e (some (.i .i64 (jG (fun a => aZ T (a : Int) k) (j + 1)))) .e)) none .e) none (.n (.n .e (some (.lst 1 (ints MS))) (.n .e (some (.i .i64 (((j + 1) : Nat) : Int))) .e)) none (.n .e (some (.lst 1 (ints C4))) .e)))), (.n (.n .e (some (fM n coin box L C)) .e) (some (fM n coin box ls cs)) .e), (.i (.o .h)), none⟩)
    rw [ec, et]
    refine Shr.of ?_ ?_ rfl rfl
    ·exact Rw
    ·(repeat' first | exact Rel.e | refine Rel.some ?_ ?_ ?_ | refine Rel.none ?_ ?_ | refine Rel.ee ?_ ?_)
     all_goals exact Ro aY
   ·have ec : jG (fun a => aZ T (a : Int) k) (j + 1) = jG (fun a => aZ T (a : Int) k) j + 1 := by show jG _ j + fS (aZ T (j : Int) k) = _; unfold fS; rw [if_pos hc]
    have et : jG (fun a => bC T (a : Int) k) (j + 1) = jG (fun a => bC T (a : Int) k) j := by show jG _ j + fS (bC T (j : Int) k) = _; unfold fS; rw [if_neg ht]; omega
    repeat' ((first | refine Qw ?_ | refine Qf iCO ?_ | refine Qf iTO ?_ | refine Qf iS1 ?_ | refine Qf Hn ?_ | refine Qv ?_) <;> conv => whnf)
    refine Again.to (j + 1) (by omega) (show j + 1 <= n.toNat by omega) (Nat.le_refl _) ?_
    show Shr _ (⟨(.n (.n (.n (.n .e (some (.pt (.o .h) 0 0)) .e) (some (.pt .h 0 0)) .e) none (.n (.n .e (some (.i .i64 (k : Int))) (.n .e (some (.i .i64 (jG (fun a => bC T (a : Int) k) (j + 1)))) .e)) none (.n .e (some (.lst 1 (ints C0))) .e))) none (.n (.n (.n .e (some (.lst 3 (aC aI T))) (.n .e (some (.i .i64 (jG (fun a => aZ T (a : Int) k) (j + 1)))) .e)) none .e) none (.n (.n .e (some (.lst 1 (ints MS))) (.n .e (some (.i .i64 (((j + 1) : Nat) : Int))) .e)) none (.n .e (some (.lst 1 (ints C4))) .e)))), (.n (.n .e (some (fM n coin box L C)) .e) (some (fM n coin box ls cs)) .e), (.i (.o .h)), none⟩)
    rw [ec, et]
    refine Shr.of ?_ ?_ rfl rfl
    ·exact Rw
    ·(repeat' first | exact Rel.e | refine Rel.some ?_ ?_ ?_ | refine Rel.none ?_ ?_ | refine Rel.ee ?_ ?_)
     all_goals exact Ro aY
  ·by_cases ht : 0 <= bC T (j : Int) k
   ·have ec : jG (fun a => aZ T (a : Int) k) (j + 1) = jG (fun a => aZ T (a : Int) k) j := by show jG _ j + fS (aZ T (j : Int) k) = _; unfold fS; rw [if_neg hc]; omega
    have et : jG (fun a => bC T (a : Int) k) (j + 1) = jG (fun a => bC T (a : Int) k) j + 1 := by show jG _ j + fS (bC T (j : Int) k) = _; unfold fS; rw [if_pos ht]
    repeat' ((first | refine Qw ?_ | refine Qf iCO ?_ | refine Qf iTO ?_ | refine Qf iS1 ?_ | refine Qf Hn ?_ | refine Qv ?_) <;> conv => whnf)
    refine Again.to (j + 1) (by omega) (show j + 1 <= n.toNat by omega) (Nat.le_refl _) ?_
    show Shr _ (⟨(.n (.n (.n (.n .e (some (.pt (.o .h) 0 0)) .e) (some (.pt .h 0 0)) .e) none (.n (.n .e (some (.i .i64 (k : Int))) (.n .e (some (.i .i64 (jG (fun a => bC T (a : Int) k) (j + 1)))) .e)) none (.n .e (some (.lst 1 (ints C0))) .e))) none (.n (.n (.n .e (some (.lst 3 (aC aI T))) (.n .e (some (.i .i64 (jG (fun a => aZ T (a : Int) k) (j + 1)))) .e)) none .e) none (.n (.n .e (some (.lst 1 (ints MS))) (.n .e (some (.i .i64 (((j + 1) : Nat) : Int))) .e)) none (.n .e (some (.lst 1 (ints C4))) .e)))), (.n (.n .e (some (fM n coin box L C)) .e) (some (fM n coin box ls cs)) .e), (.i (.o .h)), none⟩)
    rw [ec, et]
    refine Shr.of ?_ ?_ rfl rfl
    ·exact Rw
    ·(repeat' first | exact Rel.e | refine Rel.some ?_ ?_ ?_ | refine Rel.none ?_ ?_ | refine Rel.ee ?_ ?_)
     all_goals exact Ro aY
   ·have ec : jG (fun a => aZ T (a : Int) k) (j + 1) = jG (fun a => aZ T (a : Int) k) j := by show jG _ j + fS (aZ T (j : Int) k) = _; unfold fS; rw [if_neg hc]; omega
    have et : jG (fun a => bC T (a : Int) k) (j + 1) = jG (fun a => bC T (a : Int) k) j := by show jG _ j + fS (bC T (j : Int) k) = _; unfold fS; rw [if_neg ht]; omega
    repeat' ((first | refine Qw ?_ | refine Qf iCO ?_ | refine Qf iTO ?_ | refine Qf iS1 ?_ | refine Qf Hn ?_ | refine Qv ?_) <;> conv => whnf)
    refine Again.to (j + 1) (by omega) (show j + 1 <= n.toNat by omega) (Nat.le_refl _) ?_
    show Shr _ (⟨(.n (.n (.n (.n .e (some (.pt (.o .h) 0 0)) .e) (some (.pt .h 0 0)) .e) none (.n (.n .e (some (.i .i64 (k : Int))) (.n .e (some (.i .i64 (jG (fun a => bC T (a : Int) k) (j + 1)))) .e)) none (.n .e (some (.lst 1 (ints C0))) .e))) none (.n (.n (.n .e (some (.lst 3 (aC aI T))) (.n .e (some (.i .i64 (jG (fun a => aZ T (a : Int) k) (j + 1)))) .e)) none .e) none (.n (.n .e (some (.lst 1 (ints MS))) (.n .e (some (.i .i64 (((j + 1) : Nat) : Int))) .e)) none (.n .e (some (.lst 1 (ints C4))) .e)))), (.n (.n .e (some (fM n coin box L C)) .e) (some (fM n coin box ls cs)) .e), (.i (.o .h)), none⟩)
    rw [ec, et]
    refine Shr.of ?_ ?_ rfl rfl
    ·exact Rw
    ·(repeat' first | exact Rel.e | refine Rel.some ?_ ?_ ?_ | refine Rel.none ?_ ?_ | refine Rel.ee ?_ ?_)
     all_goals exact Ro aY
 ·obtain rfl : j = n.toNat := by omega
  rw [t2]
  have s3 : jG (fun a => aZ T (a : Int) k) n.toNat <= 4 := by omega
  have s4 := s1.1
  have hp1 : 0 <= coin * jG (fun a => aZ T (a : Int) k) n.toNat := Int.mul_nonneg (by omega) s4
  have hp2 : coin * jG (fun a => aZ T (a : Int) k) n.toNat <= 99 * 4 := Int.le_trans (Int.mul_le_mul_of_nonneg_right hc.2 s4) (Int.mul_le_mul_of_nonneg_left s3 (by omega))
  clear s1 s2 t2
  generalize jG (fun a => aZ T (a : Int) k) n.toNat = S at *
  repeat' ((first | refine Qw ?_ | refine Qv ?_) <;> conv => whnf)
  refine Rn.loop (fun j : Nat => (⟨(.n (.n (.n (.n .e (some (.pt (.o .h) 0 0)) .e) (some (.pt .h 0 0)) .e) none (.n (.n .e (some (.i .i64 (k : Int))) (.n .e (some (.i .i64 S)) .e)) none (.n .e none (.n .e (some (.i .i64 ((j : Nat) : Int))) .e)))) none (.n (.n (.n .e (some (.lst 3 (aC aI T))) (.n .e (some (.i .i64 S)) .e)) none .e) none (.n (.n .e (some (.lst 1 (ints MS))) .e) none .e))), (.n (.n .e (some (fM n coin box L C)) .e) (some (fM n coin box ls cs)) .e), (.i (.o .h)), none⟩ : X)) (fun j => j <= T.length) (fun j => T.length - j) 0 ?_ (Nat.zero_le _) ?_
  ·refine X.le.mk ?_ ?_ (Nat.le_refl _) rfl rfl
   all_goals (repeat' first | exact Ev.T.le_e _ | exact Ev.T.le_refl _ | refine Ev.T.le_some ?_ rfl ?_ | refine Ev.T.le_none ?_ ?_ | refine Ev.T.le_ee ?_ ?_)
  intro j hj
  have hj : j <= T.length := hj
  conv => whnf
  repeat' ((first | refine Qw ?_ | refine Qv ?_) <;> conv => whnf)
  refine WB.dec (fun h => ?_) (fun h => ?_) <;> conv => whnf
  ·have hlt : j < T.length := by omega
   have iW := Pc n coin box L C (j : Int) (by omega)
   unfold PQ at iW
   rw [show gE (j : Int) 0 ((L.length : Int) - 1) = true from aP.2 ⟨by omega, by omega⟩, oL h0 hh, if_pos rfl, Int.toNat_natCast] at iW
   have iHL := QE (AM (B5 n coin box L C) j) (T.getD j default) (Nat.le_trans (List.length_filter_le _ _) (Km V _)) (fun a h => JK V (by show j < L.length; omega) (fD.1 (List.mem_filter.1 h).1)) (PL h0 hm hlt)
   generalize AM (B5 n coin box L C) j = W at *
   repeat' ((first | refine Qw ?_ | refine Qf iB ?_ | refine Qf iW ?_ | refine Qf iHL ?_ | refine Qv ?_) <;> conv => whnf)
   refine Again.to (j + 1) (by omega) (show j + 1 <= T.length by omega) (Nat.le_refl _) ?_
   refine Shr.of ?_ ?_ rfl rfl
   ·exact Rw
   ·(repeat' first | exact Rel.e | refine Rel.some ?_ ?_ ?_ | refine Rel.none ?_ ?_ | refine Rel.ee ?_ ?_)
    all_goals exact Ro aY
  ·repeat' ((first | refine Qw ?_ | refine Qf AW ?_ | refine Qv ?_) <;> conv => whnf)
   exact Fin.b rfl rfl
theorem main_tokenTruth (AW : PureF Try.prog p22.ix [] (.b true)) {es : List D} (fit : FitP [(true, [.i .i64, .i .i64, .i .i64, .sl [.i .i64, .i .i64, .i .i64], .sl [.i .i64, .i .i64, .i .i64]]), (false, [.sl [.i .u16]]), (false, [.i .u8])] es) : PureF Try.prog 9 es (.b true) := by
 obtain ⟨n, coin, box, ls, cs, _, rfl, g1⟩ := fit.book
 obtain ⟨ws, _, rfl, w0, g2⟩ := g1.nums
 obtain ⟨a, _, rfl, w1, g3⟩ := g2.i
 obtain rfl := g3.no
 exact Bj n coin box ls cs ws a (fun w h => Oi (w0 w h)) (SU w1) AW
end Go.Ev
namespace Go.Proofs.Ytjgbfnciedkafaa.tokenTruth
open Go.ChangeShapes Go.WideShapes Go.ChangeAt Go.RowKit
open Go.ChangeMaps (open_string shut_string)
set_option linter.unusedVariables false
theorem laid : laidOutB Try.prog = true := faP.laid
theorem own : ownKnob Try.prog.godebug = none := by kernel_rfl
theorem walk {es : List Go.Ev.D} (fit : Go.Ev.FitP [(true, [.i .i64, .i .i64, .i .i64, .sl [.i .i64, .i .i64, .i .i64], .sl [.i .i64, .i .i64, .i .i64]]), (false, [.sl [.i .u16]]), (false, [.i .u8])] es) {args : Array Value} {W : World} (ha : Go.Ev.DVL (Go.Ev.γH W) W es args.toList) :
    Calls Try.prog 9 args W fun e w' => e = .returned (.bool true) ∧ Grown W w' ∧ Below W.heap.size W w' :=
  Go.Ev.PureF.calls (Go.Ev.main_tokenTruth (fun ob nx lg => Go.Ev.t21.any ob nx lg) fit) ha
set_option maxRecDepth 100000 in
theorem lifted (os : Os) (started : os.Started) (H : Type) (enc : TypeId × Value → H) :
    ReturnsInHanded {} Try.checked os 9 .any (Rows.tokenTruthSpec.pre6 enc Try.prog Try.f9 Rows.tokenTruthRow.domain false) (Rows.tokenTruthSpec.post enc Try.prog Try.f9 false true false false) := by
  refine returnsInHanded_of_change (C := Try.checked) own started (by kernel_rfl) Try.func9
    (ChangeSpec.witness6 (enc := enc) (C := Try.checked) false ⟨#[], #[.agg #[.int .i64 0, .int .i64 0, .int .i64 0, .slice none 0 0, .slice none 0 0], .slice none 0 0, .int .u8 0], []⟩ 8 (by kernel_rfl) (by kernel_rfl) (by kernel_rfl) (by kernel_rfl)) ?_
  intro W base args ds gs before hval0 hW hcnd _
  have hval : ∀ (j : Nat) t v, Try.f9.params[j]? = some t → args[j]? = some v → Value.okWide Try.prog W .any base t v := hval0
  have hW' := hW
  obtain ⟨p, q, hA0, hV, rfl, hfz, hnd⟩ := hW
  have hA : DataW.TrodAll enc Try.prog W 0 (fun _ => true) true Try.f9.params.toList args.toList ds p := hA0
  rw [Try.params9] at hA hval
  obtain ⟨rfl, rfl⟩ := trodVars_none hV
  obtain ⟨d0, d1, d2, rfl⟩ := Go.Ev.len3 (Go.Ev.trod_len hA)
  clear hA0 hval0
  simp only [List.append_nil] at hW'
  obtain ⟨es, fit, dv⟩ := Go.Ev.open_all (n := 6) (pars := [(true, [.i .i64, .i .i64, .i .i64, .sl [.i .i64, .i .i64, .i .i64], .sl [.i .i64, .i .i64, .i .i64]]), (false, [.sl [.i .u16]]), (false, [.i .u8])]) (by kernel_rfl) hA (fun j t v h1 h2 => hval j t v (by simpa using h1) (by simpa using h2))
  have hlt : ∀ x ∈ p, x.block < W.heap.size := fun x hx => by simpa using hW'.lt x hx
  refine (walk fit dv).mono fun e W' ⟨he, hg, hb⟩ => ?_
  subst he
  exact ⟨_, rfl, post_of_same (pa := p) (pv := []) hW' (fun _ _ _ => (trodAll_cons_mk (shut_bool Try.underlying4 _) trodAll_mk0))
    (fun sp hs => Go.Ev.stays_all laid (Go.Ev.of_allT (by kernel_rfl)) hA (fun x hx => hb.same (hlt x hx)) (fun x hx => hs x hx))
    (fun _ _ => rfl) (List.append_nil _).symm
    (hg.frame _) hg.2.1 (ok_one (by kernel_rfl) rfl (okWide_bool_mk Try.underlying4 _))⟩
theorem over : Rows.tokenTruthRow.holds Try.pinned (OpenSpec.ofChange Rows.tokenTruthSpec) :=
  OpenClaim.holds_of_wide 9 Try.f9 rfl rfl rfl rfl rfl rfl rfl ⟨rfl, rfl, rfl, rfl, rfl⟩ rfl rfl rfl rfl rfl (by kernel_rfl) Try.func9 faTokenTruth.all
    (of_decide_eq_true (by kernel_rfl)) (by unfold Func.isWrapper; first | (rw [if_pos (by decide +kernel)]; kernel_rfl) | (rw [if_neg (by decide +kernel)]; exact ⟨rfl, rfl⟩))
    (fun os started H enc _ => lifted os started H enc)
theorem proved : Rows.TokenTruthSaid :=
  over
#print axioms proved
end Go.Proofs.Ytjgbfnciedkafaa.tokenTruth