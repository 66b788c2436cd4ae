import Derived.Test.YtjgbfnciedkafaaEvUJ1
import Derived.Test.YtjgbfnciedkafaaEvUIt
import Derived.Test.YtjgbfnciedkafaaEvURn
set_option linter.all false
set_option maxHeartbeats 8000000
noncomputable section
namespace Go.Ev
open Go.Proofs
set_option maxRecDepth 1000000
def p118 : Pos := .o yD
def p119 : Pos := .i yD
def p120 : Pos := .o Fo
def p121 : Pos := .i Fo
def p122 : Pos := .o Ff
def p123 : Pos := .i Ff
def HL : Pos := .o Fn
def HO : Pos := .i Fn
def p136 : Pos := .o HX
def p137 : Pos := .i HX
def p138 : Pos := .o p69
def p139 : Pos := .i p69
def p140 : Pos := .o p70
def Kj : Pos := .i p70
def JN : Pos := .o p71
def LU : Pos := .i p71
def JD : Pos := .o p72
def Lr : Pos := .i p72
def p156 : Pos := .o p78
def Md : Pos := .i p78
def Mr : Pos := .o Jb
def EY : Pos := .i Jb
def FV : Pos := .o p80
def GA : Pos := .i p80
def ER : Pos := .i p82
def VG : RC := (Sr [(.u (.box p3 p1)), (.u (.mv p5 (.k .ns))), (.u (.mv p6 (.k .ns))), (.u (.mv p7 (K_ 0)))] (.seq (.drw [(bU bE p3 5), (Mv bM p2), (Fd bW p3 3), (L1 cH bW), (.u (.len bX cH)), (Cf cW p86 [bM, bX]), (Cf cE p85 [bE, cW]), (Mv p9 cE), (.u (.ext dG p9 0)), (.u (.ext dE p9 1)), (.u (.new p8 [(.i .i64 0), (.i .i64 0), (.i .i64 0), .ns, .ns, .nm])), (.u (.st p8 dG 6)), (Mv p7 dE)] [0, 0, 0, 4, 12, 30, 63, 127, 255, 255, 0, 1535, 4095]) (.seq (Sr [(Mv dO p7), (dH p20 .neq dO 0)] (.cond p20 (Sr [(Mv p21 p7), (.u (.mv p5 (.k .ns))), (.u (.mv p6 (.k .ns))), (Mv p7 p21)] .ret) .skip)) (.seq (.drw [(bU dB p8 6), (Mv p23 p2), (Cf p24 p87 [dB, p23, (K_ 0)]), (bU p25 p8 6), (Mv eS p2), (Cf fY p87 [p25, eS, (K_ 4)]), (Mv p5 p24), (Mv p6 fY), (.u (.mv p7 (K_ 0)))] [0, 0, 3, 0, 0, 31, 63, 127, 255]) .ret))))
def VI : List RR := [(.t p5), (.t p6), (.t p7)]
theorem SL : FnOk Try.prog p34.ix 27 VG VI := fX Try.f33 Try.func33
def Vz : RC := (Sr [(.u (.box p3 p1)), (.u (.new p5 [(.i .i64 0), (.i .i64 0)])), (.u (.mv p6 (K_ 0)))] (.seq (.drw [(bU bE p3 5), (Mv bM p2), (Fd bW p3 3), (L1 cH bW), (.u (.len bX cH)), (Cf cW p86 [bM, bX]), (Cf cE p85 [bE, cW]), (Mv p9 cE), (.u (.ext dG p9 0)), (.u (.ext dE p9 1)), (.u (.new p7 [(.i .i64 0), (.i .i64 0), (.i .i64 0), .ns, .ns, .nm])), (.u (.st p7 dG 6)), (Mv p8 dE)] [0, 0, 0, 4, 12, 30, 63, 127, 255, 255, 0, 1535, 4095]) (.seq (Sr [(Mv dO p8), (dH p20 .neq dO 0)] (.cond p20 (Sr [(.u (.bld p21 [(.i .i64 0), (.i .i64 0)] [])), (Mv dB p8), (.u (.st p5 p21 2)), (Mv p6 dB)] .ret) .skip)) (Sr [(bU p23 p7 6), (Mv p24 p2), (.u (.bld p25 [(.i .i64 0), .nf] [(0, (1, p24)), (1, (1, (.k (.fn p77 [] []))))])), (Cf eS p89 [p23, p25]), (.u (.st p5 eS 2)), (.u (.mv p6 (K_ 0)))] .ret))))
def VL : List RR := [(.cn p5 2), (.t p6)]
theorem QC : FnOk Try.prog p39.ix 26 Vz VL := fX Try.f38 Try.func38
def Un : RC := (Sr [(.u (.box p3 p1)), (.u (.new p5 [(.i .i64 0), (.i .i64 0), (.i .i64 0), .ns, .ns, .nm])), (.u (.mv p6 (K_ 0)))] (.seq (Sr [(bU p9 p3 5), (Cf bE p28 [p9]), (Mv p7 bE)] (Sr [(Mv bM p7), (dH bW .neq bM 0)] (.cond bW (Sr [(.u (.bld cH [(.i .i64 0), (.i .i64 0), (.i .i64 0), .ns, .ns, .nm] [])), (Mv bX p7), (.u (.st p5 cH 6)), (Mv p6 bX)] .ret) .skip))) (.seq (Sr [(Mv cW p2), (.u (.un cE .not cW))] (.cond cE (Sr [(.u (.bld dG [(.i .i64 0), (.i .i64 0), (.i .i64 0), .ns, .ns, .nm] [])), (.u (.st p5 dG 6)), (.u (.mv p6 (K_ 2)))] .ret) .skip)) (Sr [(bU dE p3 5), (Cf dO p75 [dE]), (.u (.new p8 [(.i .i64 0), (.i .i64 0), (.i .i64 0), .ns, .ns, .nm])), (.u (.st p8 dO 6))] (.seq (Sr [(bU p20 p8 6), (Cf p21 p94 [p20]), (.u (.un dB .not p21))] (.cond dB (Sr [(.u (.bld p23 [(.i .i64 0), (.i .i64 0), (.i .i64 0), .ns, .ns, .nm] [])), (.u (.st p5 p23 6)), (.u (.mv p6 (K_ 11)))] .ret) .skip)) (Sr [(bU p24 p8 6), (.u (.st p5 p24 6)), (.u (.mv p6 (K_ 0)))] .ret))))))
def Vh : List RR := [(.cn p5 6), (.t p6)]
theorem Lu : FnOk Try.prog p85.ix 24 Un Vh := fX Try.f84 Try.func84
def Um : RC := (Sr [(.u (.box p4 p1)), (.u (.mv p7 (.k .ns)))] (Sr [(.u (.mv p8 (.k .ns)))] (.seq (Sr [(Fd bM p4 0), (Fd bW bM 0), (L1 cH bW), (.u (.mv bX (K_ 0)))] (.blk 0 (.loop (Sr [(fR cW .lss bX cH)] (.seq (.cond cW .skip (.exit 0)) (.seq (.blk 1 (Sr [(Mv cE bX), (Mv p9 cE)] (Sr [(Mv dG p3), (Mv dE p9), (fR dO .add dG dE), (Mv bE dO)] (.reg [(Mv p20 p8), (bU p21 p4 6), (Mv dB p2), (Mv p23 bE), (.u (.fnl p24 p119 [p23] [])), (.u (.bld p25 [(.i .i64 0), .nf] [(0, (1, dB)), (1, (1, p24))])), (Cf eS p89 [p21, p25]), (Cf fY p118 [eS]), (.u (.bsl p28 1 1 [(.i .i64 0)] [(0, (1, fY))])), (.u (.app gA 1 p20 p28)), (Mv p8 gA)])))) (.reg [(dH fW .add bX 1), (Mv bX fW)]))))))) (Sr [(Mv p31 p8), (Mv p7 p31)] .ret))))
def Ua : List RR := [(.t p7)]
theorem Uq : FnOk Try.prog p87.ix 31 Um Ua := fX Try.f86 Try.func86
def TM : RC := (Sr [(.u (.box p3 p1)), (.u (.box p4 p2)), (.u (.new p5 [(.i .i64 0), (.i .i64 0)]))] (Sr [(.u (.new p6 [.ns]))] (.seq (Sr [(bU p8 p3 6), (Cf p9 p120 [p8])] (.blk 0 (.rf p9 [bE] 28 (uY (aY Try.f88) 0) (uC (aY Try.f88) 0)))) (.seq (.drw [(L1 p21 p6), (.u (.ixs dB 1 p21 (K_ 0))), (L1 p23 dB), (L1 p24 p6), (Cf p25 p121 [p23, p24]), (L1 eS p6), (Cf fY p122 [eS]), (.u (.bld p28 [(.i .i64 0), (.i .i64 0)] [(0, (1, p25)), (1, (1, fY))])), (.u (.st p5 p28 2))] [0, 1, 3, 0, 15, 0, 63, 127, 255]) .ret))))
def Ue : List RR := [(.cn p5 2)]
theorem Ug : FnOk Try.prog p89.ix 28 TM Ue := fX Try.f88 Try.func88
def Ol : RC := (.reg [(.u (.new p7 [(.i .i64 0), (.i .i64 0), (.i .i64 0), (.i .i64 0), (.i .i64 0), (.i .i64 0), (.i .i64 0), (.i .i64 0), (.i .i64 0), (.i .i64 0), (.i .i64 0), (.i .i64 0), (.i .i64 0), (.i .i64 0), (.i .i64 0), (.i .i64 0), (.i .i64 0), (.i .i64 0), (.i .i64 0), (.i .i64 0), (.i .i64 0), (.i .i64 0), (.i .i64 0), (.i .i64 0), (.i .i64 0), (.i .i64 0), (.i .i64 0), (.i .i64 0), (.i .i64 0), (.i .i64 0), (.i .i64 0), (.i .i64 0), (.i .i64 0), (.i .i64 0), (.i .i64 0), (.i .i64 0), (.i .i64 0), (.i .i64 0), (.i .i64 0), (.i .i64 0), (.i .i64 0), (.i .i64 0), (.i .i64 0), (.i .i64 0), (.i .i64 0), (.i .i64 0), (.i .i64 0), (.i .i64 0), (.i .i64 0), (.i .i64 0), (.i .i64 0), (.i .i64 0), (.i .i64 0), (.i .i64 0), (.i .i64 0), (.i .i64 0), (.i .i64 0), (.i .i64 0), (.i .i64 0), (.i .i64 0), (.i .i64 0), (.i .i64 0), (.i .i64 0), (.i .i64 0), (.i .i64 0), (.i .i64 0), (.i .i64 0), (.i .i64 0), (.i .i64 0), (.i .i64 0), (.i .i64 0), (.i .i64 0), (.i .i64 0), (.i .i64 0), (.i .i64 0), (.i .i64 0), (.i .i64 0), (.i .i64 0), (.i .i64 0), (.i .i64 0), (.i .i64 0), (.i .i64 0), (.i .i64 0), (.i .i64 0), (.i .i64 0), (.i .i64 0), (.i .i64 0), (.i .i64 0), (.i .i64 0), (.i .i64 0), (.i .i64 0), (.i .i64 0), (.i .i64 0), (.i .i64 0), (.i .i64 0), (.i .i64 0), (.i .i64 0), (.i .i64 0), (.i .i64 0), (.i .i64 0), (.i .i64 0), (.i .i64 0), (.i .i64 0), (.i .i64 0), (.i .i64 0), (.i .i64 0), (.i .i64 0), (.i .i64 0), (.i .i64 0), (.i .i64 0), (.i .i64 0), (.i .i64 0), (.i .i64 0), (.i .i64 0), (.i .i64 0), (.i .i64 0), (.i .i64 0), (.i .i64 0), (.i .i64 0), (.i .i64 0), (.i .i64 0), (.i .i64 0), (.i .i64 0), (.i .i64 0), (.i .i64 0), (.i .i64 0)])), (.u (.st p7 bE 126))])
theorem vY : aV Try.prog 28 (uY (aY Try.f88) 0) = Ol := by kernel_rfl
def NP : RC := (.blk 1 (.drw [(L1 bM p6), (Fd bW p4 1), (L1 cH bW), (Fd bX p4 0), (L1 cW bX), (.u (.ixa cE 9 14 p7 cW)), (bU dG cE 14), (.u (.cv (some dE) cH [dG])), (.u (.bsl dO 1 1 [(.i .i64 0)] [(0, (1, dE))])), (.u (.app p20 1 bM dO)), (.u (.st p6 p20 1))] [0, 0, 2, 0, 8, 24, 56, 126, 254, 511, 1023]))
theorem wY : aV Try.prog 28 (uC (aY Try.f88) 0) = NP := by kernel_rfl
def Ui : RC := (Sr [(.u (.box p2 p1)), (.u (.mv p3 (.k (.b false))))] (.seq (.drw [(bU p4 p2 6), (bU p5 p2 6), (Cf p6 p105 [p5]), (Cf p7 p123 [p4, p6]), (Mv p3 p7)] [0, 0, 2, 7, 15]) .ret))
def Va : List RR := [(.t p3)]
theorem TN : FnOk Try.prog p94.ix 7 Ui Va := fX Try.f93 Try.func93
def Rx : RC := (Sr [(.u (.box p2 p1)), (.u (.mv p3 (K_ 0)))] (.seq (Sr [(bU p4 p2 2)] (.blk 0 (Sr [(.u (.bld p6 [(.i .i64 0), (.i .i64 0)] [(0, (1, (K_ 1))), (1, (1, (K_ 1)))])), (.u (.eqr p7 false [(.i .i64), (.i .i64)] p4 p6)), (Mv p5 p7)] (.cond p5 (Sr [(.u (.mv p3 (K_ 1)))] .ret) (Sr [(.u (.bld p9 [(.i .i64 0), (.i .i64 0)] [(0, (1, (K_ 0))), (1, (1, (K_ 0)))])), (.u (.eqr bE false [(.i .i64), (.i .i64)] p4 p9)), (Mv p8 bE)] (.cond p8 (Sr [(.u (.mv p3 (K_ 2)))] .ret) .skip)))))) (Sr [(.u (.mv p3 (K_ 3)))] .ret)))
def Qq : List RR := [(.t p3)]
theorem QD : FnOk Try.prog p118.ix 10 Rx Qq := fX Try.f117 Try.func117
def Tb : RC := (Sr [(.u (.box p4 p2)), (.u (.mv p5 (K_ 0)))] (Sr [(Mv p6 p1), (Fd p7 p4 1), (.u (.ixa p8 8 1 p7 p6)), (L1 p9 p8), (.u (.mn bE p9 (K_ 1))), (Mv p5 bE)] .ret))
def Tu : List RR := [(.t p5)]
theorem Sc : FnOk Try.prog p119.ix 10 Tb Tu := fX Try.f118 Try.func118
def SU : RC := (Sr [(.u (.box p2 p1)), (.u (.mv p3 (.k .nf)))] (Sr [(.u (.fnl p4 p136 [] [p2])), (Mv p3 p4)] .ret))
def Te : List RR := [(.t p3)]
theorem PR : FnOk Try.prog p120.ix 4 SU Te := fX Try.f119 Try.func119
def PQ : RC := (Sr [(.u (.mv p5 (K_ 0)))] (.seq (Sr [(Mv p8 p2), (.u (.len p9 p8)), (.u (.mv bE (K_ 0)))] (.blk 0 (.loop (Sr [(fR bM .lss bE p9)] (.seq (.cond bM .skip (.exit 0)) (.seq (.blk 1 (Sr [(.u (.ixs bW 1 p8 bE)), (L1 cH bW), (Mv p7 cH)] (.reg [(Mv bX p1), (Mv cW p7), (.u (.mn cE bX cW)), (Mv p1 cE)]))) (.reg [(dH dG .add bE 1), (Mv bE dG)]))))))) (Sr [(Mv dE p1), (Mv p5 dE)] .ret)))
def SC : List RR := [(.t p5)]
theorem Qx : FnOk Try.prog p121.ix 18 PQ SC := fX Try.f120 Try.func120
def ST : RC := (Sr [(.u (.mv p3 (K_ 0)))] (.seq (Sr [(Mv p6 p1), (.u (.len p7 p6)), (dH p8 .lss p7 1)] (.cond p8 (.reg [(.u .bad), (.u .bad)]) .skip)) (Sr [(Mv bE p1), (.u (.ixs bM 1 bE (K_ 0))), (L1 bW bM), (Mv p4 bW)] (.seq (Sr [(.u (.mv p5 (K_ 1)))] (.blk 0 (.loop (.seq (Sr [(Mv cH p5), (Mv bX p1), (.u (.len cW bX)), (fR cE .lss cH cW)] (.cond cE .skip (.exit 0))) (.seq (.blk 1 (.reg [(Mv dO p4), (Mv p20 p1), (Mv p21 p5), (.u (.ixs dB 1 p20 p21)), (L1 p23 dB), (.u (.mx p24 dO p23)), (Mv p4 p24)])) (.reg [(Mv dG p5), (dH dE .add dG 1), (Mv p5 dE)])))))) (Sr [(Mv p25 p4), (Mv p3 p25)] .ret)))))
def QM : List RR := [(.t p3)]
theorem Se : FnOk Try.prog p122.ix 25 ST QM := fX Try.f121 Try.func121
def Ta : RC := (Sr [(.u (.box p3 p1)), (.u (.box p4 p2)), (.u (.mv p5 (.k (.b false))))] (Sr [(bU p9 p4 14), (Cf bE p139 [p9]), (.u (.new p6 [(.i .i64 0), (.b false), (.b false), (.b false), (.b false), (.b false), (.b false), (.b false), (.b false)])), (.u (.st p6 bE 9))] (Sr [(Fd bW p3 5), (L1 cH bW), (bU bX p6 9), (.u (.lkp cW (.b false) true [(.i .i64), .b, .b, .b, .b, .b, .b, .b, .b] cH bX)), (Mv bM cW), (.u (.ext cE bM 0)), (.u (.ext dG bM 1)), (Mv p7 cE), (Mv p8 dG)] (.seq (Sr [(Mv dE p8), (.u (.un dO .not dE))] (.cond dO (.seq (.drw [(bU p20 p3 6), (bU p21 p4 14), (Cf dB p80 [p20, p21]), (Mv p23 dB), (Gs p23 true p24 (.fad p24 p4 0)), (Gs p23 true p25 (.ld1 p25 p24)), (Gs p23 true eS (.fad eS p3 0)), (Gs p23 true fY (.fad fY eS 3)), (Gs p23 true p28 (.ld1 p28 fY)), (Gs p23 true gA (.len gA p28)), (Gs p23 true fW (.bin fW .eql p25 gA)), (Gs p23 true p31 (.mv p31 fW)), (Gs p31 false jM (.ldn jM p3 6)), (Gs p31 false p33 (.ldn p33 p4 14)), (Gs p31 false p34 (.cf (some p34) p138 [jM, p33])), (Gs p31 false kS (.ldn kS p3 6)), (Gs p31 false p36 (.fnl p36 p123 [kS] [])), (Gs p31 false nG (.cf (some nG) p140 [p34, p36])), (Gs p23 true nZ (.pick nZ p31 (.k (.b true)) nG)), (Pa p39 p23 nZ), (Mv p7 p39)] [0, 0, 3, 7, 15, 31, 15, 79, 207, 463, 1023, 2047, 4095, 4095, 16383, 4095, 36863, 131071, 262143, 524287, 1048575]) (.reg [(Fd qZ p3 5), (L1 p41 qZ), (bU rJ p6 9), (Mv tC p7), (.u (.mup [(.i .i64), .b, .b, .b, .b, .b, .b, .b, .b] p41 rJ tC))])) .skip)) (Sr [(Mv tB p7), (Mv p5 tB)] .ret)))))
def Tz : List RR := [(.t p5)]
theorem MP : FnOk Try.prog p123.ix 44 Ta Tz := fX Try.f122 Try.func122
def Qe : RC := (Sr [(.u (.box p3 p1))] (Sr [(.u (.new p4 [(.i .i64 0), (.i .i64 0), (.i .i64 0), (.i .i64 0), (.i .i64 0), (.i .i64 0), (.i .i64 0), (.i .i64 0), (.i .i64 0), (.i .i64 0), (.i .i64 0), (.i .i64 0), (.i .i64 0), (.i .i64 0), (.i .i64 0), (.i .i64 0), (.i .i64 0), (.i .i64 0), (.i .i64 0), (.i .i64 0), (.i .i64 0), (.i .i64 0), (.i .i64 0), (.i .i64 0), (.i .i64 0), (.i .i64 0), (.i .i64 0), (.i .i64 0), (.i .i64 0), (.i .i64 0), (.i .i64 0), (.i .i64 0), (.i .i64 0), (.i .i64 0), (.i .i64 0), (.i .i64 0), (.i .i64 0), (.i .i64 0), (.i .i64 0), (.i .i64 0), (.i .i64 0), (.i .i64 0), (.i .i64 0), (.i .i64 0), (.i .i64 0), (.i .i64 0), (.i .i64 0), (.i .i64 0), (.i .i64 0), (.i .i64 0), (.i .i64 0), (.i .i64 0), (.i .i64 0), (.i .i64 0), (.i .i64 0), (.i .i64 0), (.i .i64 0), (.i .i64 0), (.i .i64 0), (.i .i64 0), (.i .i64 0), (.i .i64 0), (.i .i64 0), (.i .i64 0), (.i .i64 0), (.i .i64 0), (.i .i64 0), (.i .i64 0), (.i .i64 0), (.i .i64 0), (.i .i64 0), (.i .i64 0), (.i .i64 0), (.i .i64 0), (.i .i64 0), (.i .i64 0), (.i .i64 0), (.i .i64 0), (.i .i64 0), (.i .i64 0), (.i .i64 0), (.i .i64 0), (.i .i64 0), (.i .i64 0), (.i .i64 0), (.i .i64 0), (.i .i64 0), (.i .i64 0), (.i .i64 0), (.i .i64 0), (.i .i64 0), (.i .i64 0), (.i .i64 0), (.i .i64 0), (.i .i64 0), (.i .i64 0), (.i .i64 0), (.i .i64 0), (.i .i64 0), (.i .i64 0), (.i .i64 0), (.i .i64 0), (.i .i64 0), (.i .i64 0), (.i .i64 0), (.i .i64 0), (.i .i64 0), (.i .i64 0), (.i .i64 0), (.i .i64 0), (.i .i64 0), (.i .i64 0), (.i .i64 0), (.i .i64 0), (.i .i64 0), (.i .i64 0), (.i .i64 0), (.i .i64 0), (.i .i64 0), (.i .i64 0), (.i .i64 0), (.i .i64 0), (.i .i64 0), (.i .i64 0), (.i .i64 0), (.i .i64 0)]))] (Sr [(.u (.new p5 [.nf]))] (Sr [(.u (.fnl p6 p137 [] [p2, p4, p3, p5])), (.u (.st p5 p6 1))] (.drw [(L1 p7 p5), (bU p8 p2 6), (Cf p9 p105 [p8]), (.u (.cv (some bE) p7 [p9]))] [0, 0, 2, 7])))))
def Tf : List RR := []
theorem Rj : FnOk Try.prog p136.ix 10 Qe Tf := fX Try.f135 Try.func135
def Tc : RC := (Sr [(.u (.box p6 p1)), (.u (.new p7 [(.b false)]))] (.seq (Sr [(bU p9 p2 6), (bU bE p6 14), (Cf bM p123 [p9, bE]), (.u (.un bW .not bM))] (.cond bW (Sr [(.u (.st p7 (.k (.b true)) 1))] .ret) .skip)) (Sr [(Fd cH p6 0), (L1 bX cH), (bU cW p6 14), (.u (.ixa cE 9 14 p3 bX)), (.u (.st cE cW 14))] (.seq (Sr [(Fd dG p6 0), (L1 dE dG), (Fd dO p2 0), (Fd p20 dO 3), (L1 p21 p20), (.u (.len dB p21)), (fR p23 .eql dE dB)] (.cond p23 (Sr [(L1 p24 p4), (bU p25 p3 126), (.u (.cv (some eS) p24 [p25])), (.u (.st p7 eS 1))] .ret) .skip)) (.seq (Sr [(bU fY p2 6), (bU p28 p6 14), (Cf gA p138 [fY, p28])] (.blk 0 (.rf gA [fW] 34 (uY (aY Try.f136) 0) (uC (aY Try.f136) 0)))) (Sr [(.u (.st p7 (.k (.b true)) 1))] .ret))))))
def RT : List RR := [(.c1 p7)]
theorem Nl : FnOk Try.prog p137.ix 34 Tc RT := fX Try.f136 Try.func136
def Kt : RC := (.reg [(.u (.new p8 [(.i .i64 0), (.i .i64 0), (.i .i64 0), (.i .i64 0), (.i .i64 0), (.i .i64 0), (.i .i64 0), (.i .i64 0), (.i .i64 0), (.i .i64 0), (.i .i64 0), (.i .i64 0), (.i .i64 0), (.i .i64 0)])), (.u (.st p8 fW 14))])
theorem Cg : aV Try.prog 34 (uY (aY Try.f136) 0) = Kt := by kernel_rfl
def JA : RC := (.blk 1 (Sr [(L1 p31 p5), (bU jM p8 14), (.u (.cv (some p33) p31 [jM])), (.u (.un p34 .not p33))] (.cond p34 (Sr [(.u (.st p7 (.k (.b false)) 1))] .ret) .skip)))
theorem Cm : aV Try.prog 34 (uC (aY Try.f136) 0) = JA := by kernel_rfl
def SQ : RC := (Sr [(.u (.box p3 p1)), (.u (.box p4 p2)), (.u (.mv p5 (.k .nf)))] (Sr [(.u (.fnl p6 p156 [] [p3, p4])), (Mv p5 p6)] .ret))
def Tp : List RR := [(.t p5)]
theorem QO : FnOk Try.prog p138.ix 6 SQ Tp := fX Try.f137 Try.func137
def Rc : RC := (Sr [(.u (.box p2 p1)), (.u (.new p3 [(.i .i64 0), (.b false), (.b false), (.b false), (.b false), (.b false), (.b false), (.b false), (.b false)]))] (Sr [(Fd p7 p2 0), (L1 p8 p7), (.u (.bld p9 [(.i .i64 0), (.b false), (.b false), (.b false), (.b false), (.b false), (.b false), (.b false), (.b false)] [(0, (1, p8))])), (.u (.new p4 [(.i .i64 0), (.b false), (.b false), (.b false), (.b false), (.b false), (.b false), (.b false), (.b false)])), (.u (.st p4 p9 9))] (.seq (Sr [(Fd bE p2 1), (bU bM bE 8), (.u (.mv bW (K_ 0)))] (.blk 0 (.loop (Sr [(dH cH .lss bW 8)] (.seq (.cond cH .skip (.exit 0)) (.seq (.blk 1 (Sr [(Mv bX bW), (.u (.ixv cW 8 1 false bM bW)), (Mv p5 bX), (Mv p6 cW)] (.reg [(Mv cE p5), (Mv dG p6), (dH dE .neq dG 0), (Fd dO p4 1), (.u (.ixa p20 8 1 dO cE)), (.u (.st p20 dE 1))]))) (.reg [(dH p21 .add bW 1), (Mv bW p21)]))))))) (Sr [(bU dB p4 9), (.u (.st p3 dB 9))] .ret))))
def Tx : List RR := [(.cn p3 9)]
theorem Tj : FnOk Try.prog p139.ix 22 Rc Tx := fX Try.f138 Try.func138
def QH : RC := (Sr [(.u (.box p4 p2)), (.u (.new p5 [(.b false)]))] (.seq (Sr [(Mv p7 p1)] (.blk 0 (.rf p7 [p8] 11 (uY (aY Try.f139) 0) (uC (aY Try.f139) 0)))) (Sr [(.u (.st p5 (.k (.b false)) 1))] .ret)))
def Ru : List RR := [(.c1 p5)]
theorem PZ : FnOk Try.prog p140.ix 11 QH Ru := fX Try.f139 Try.func139
def LH : RC := (.reg [(.u (.new p6 [(.i .i64 0), (.i .i64 0), (.i .i64 0), (.i .i64 0), (.i .i64 0), (.i .i64 0), (.i .i64 0), (.i .i64 0), (.i .i64 0), (.i .i64 0), (.i .i64 0), (.i .i64 0), (.i .i64 0), (.i .i64 0)])), (.u (.st p6 p8 14))])
theorem Ck : aV Try.prog 11 (uY (aY Try.f139) 0) = LH := by kernel_rfl
def KE : RC := (.blk 1 (Sr [(L1 p9 p4), (bU bE p6 14), (.u (.cv (some bM) p9 [bE]))] (.cond bM (Sr [(.u (.st p5 (.k (.b true)) 1))] .ret) .skip)))
theorem Cd : aV Try.prog 11 (uC (aY Try.f139) 0) = KE := by kernel_rfl
def PU : RC := (Sr [(.u (.box p4 p1))] (.seq (.drw [(bU p8 p2 6), (Fd p9 p2 0), (Fd bE p9 3), (L1 bM bE), (Fd bW p3 0), (L1 cH bW), (.u (.ixs bX 3 bM cH)), (bU cW bX 3), (Cf cE p107 [p8, cW])] [0, 0, 2, 6, 0, 16, 62, 126, 255]) (.blk 0 (.rf cE [dG] 31 (uY (aY Try.f155) 0) (uC (aY Try.f155) 0)))))
def QU : List RR := []
theorem Rk : FnOk Try.prog p156.ix 31 PU QU := fX Try.f155 Try.func155
def JW : RC := (.reg [(.u (.new p5 [(.i .i64 0), (.i .i64 0), (.i .i64 0)])), (.u (.st p5 dG 3))])
theorem CF : aV Try.prog 31 (uY (aY Try.f155) 0) = JW := by kernel_rfl
def Kb : RC := (.blk 1 (Sr [(bU dO p2 6), (bU p20 p3 14), (bU p21 p5 3), (Cf dB p109 [dO, p20, p21]), (Mv dE dB), (.u (.ext p23 dE 0)), (.u (.ext p24 dE 1)), (.u (.new p6 [(.i .i64 0), (.i .i64 0), (.i .i64 0), (.i .i64 0), (.i .i64 0), (.i .i64 0), (.i .i64 0), (.i .i64 0), (.i .i64 0), (.i .i64 0), (.i .i64 0), (.i .i64 0), (.i .i64 0), (.i .i64 0)])), (.u (.st p6 p23 14)), (Mv p7 p24)] (Sr [(Mv p25 p7), (Mv eS p25), (Gs eS true fY (.ld1 fY p4)), (Gs eS true p28 (.ldn p28 p6 14)), (Gs eS true gA (.cv (some gA) fY [p28])), (Gs eS true fW (.un fW .not gA)), (Pa p31 eS fW)] (.cond p31 .ret .skip))))
theorem BU : aV Try.prog 31 (uC (aY Try.f155) 0) = Kb := by kernel_rfl
open Go.RowKit (Below Grown)
structure ShrB (B : Pos -> Prop) (z z' : X) : Prop where
 sl : ∀ s d', z'.sl.get s = some d' -> ∃ d, z.sl.get s = some d /\ Fz B z.ob d d'
 ob : ∀ id c', z'.ob.get id = some c' -> B id /\ ∃ c, z.ob.get id = some c /\ ShC B z.ob c c'
 l : z.lg = none
 l' : z'.lg = none
section
variable {P : Program} {nt : Nat}
structure AgainB {σ : Type} (S : σ -> X) (I : σ -> Prop) (μ : σ -> Nat) (s : σ) (z : X) : Prop where
 ok : ∃ s' B, μ s' < μ s /\ I s' /\ (S s).nx.nat <= (S s').nx.nat /\ (∀ id : Pos, id.nat < (S s).nx.nat -> B id) /\ (∀ id : Pos, B id -> id.nat < (S s').nx.nat) /\ ShrB B z (S s')
theorem AgainB.to {σ : Type} {S : σ -> X} {I : σ -> Prop} {μ : σ -> Nat} {s : σ} {z : X} (s' : σ) (B : Pos -> Prop) (h : μ s' < μ s) (i : I s') (n : (S s).nx.nat <= (S s').nx.nat) (b1 : ∀ id : Pos, id.nat < (S s).nx.nat -> B id) (b2 : ∀ id : Pos, B id -> id.nat < (S s').nx.nat) (l : ShrB B z (S s')) : AgainB S I μ s z := ⟨s', B, h, i, n, b1, b2, l⟩
theorem Shr.toB {z z' : X} (h : Shr z z') : ShrB (fun id => id.nat < z'.nx.nat) z z' := ⟨h.sl, h.ob, h.l, h.l'⟩
theorem AgainB.sh {σ : Type} {S : σ -> X} {I : σ -> Prop} {μ : σ -> Nat} {s : σ} {z : X} (s' : σ) (h : μ s' < μ s) (i : I s') (n : (S s).nx.nat <= (S s').nx.nat) (l : Shr z (S s')) : AgainB S I μ s z :=
 ⟨s', _, h, i, n, fun _ h => Nat.lt_of_lt_of_le h n, fun _ h => h, l.toB⟩
end
open Go.RowKit (Below Grown)
section
variable {P : Program} {nt : Nat}
open Classical in
theorem Cy {x Z Z' : X} {B : Pos -> Prop} {ro : Option Nat} {so : Pos -> Prop} {γ γ1 : Gh} {a a1 : Act} {w w1 : World} (S : ShrB B Z Z') (hx : ∀ id : Pos, id.nat < x.nx.nat -> B id) (hz : ∀ id : Pos, B id -> id.nat < Z'.nx.nat) (hall : ∀ id, so id) (R : Rep P (gE so) γ a w x) (cst : CSt ro Z.lg γ a w γ1 a1 w1) (rep : Rep P (gE so) γ1 a1 w1 Z) :
 ∃ γ2, CSt ro Z'.lg γ a w γ2 a1 w1 /\ Rep P (gE so) γ2 a1 w1 Z' := by
 have hzero : ∀ id, ¬ B id -> γ.cur id = 0 := fun id hid => R.nx id (hall id) (Nat.not_lt.1 fun h => hid (hx id h))
 let γ2 : Gh := ⟨fun id => if B id then γ1.cur id else 0, γ1.β, fun b => γ1.im b \/ ((∃ id st, ¬ B id /\ st < γ1.cur id /\ (γ1.β id st).1 = b) /\ ∃ vs e fr, w1.heap[b]? = some (.cells vs e fr))⟩
 have c2 : ∀ id, B id -> γ2.cur id = γ1.cur id := fun id hid => by show (if _ then _ else _) = _; rw [if_pos hid]
 have c2' : ∀ id, ¬ B id -> γ2.cur id = 0 := fun id hid => by show (if _ then _ else _) = _; rw [if_neg hid]
 have lt2 : ∀ id st, st < γ2.cur id -> B id /\ st < γ1.cur id := fun id st hst => by
  by_cases hid : B id
  ·rw [c2 id hid] at hst; exact ⟨hid, hst⟩
  ·rw [c2' id hid] at hst; exact absurd hst (Nat.not_lt_zero _)
 have hob1 : ∀ id c, Z.ob.get id = some c -> HoldsO P γ1 w1 id c := fun id c hc => rep.ob id c (hall id) hc
 have fz : ∀ d d', Fz B Z.ob d d' -> ∀ v, DV γ1 w1 d v -> DV γ2 w1 d' v := fun d d' hf =>
  Fz.ok (γ := γ1) (γ' := γ2) (fun b hb => .inl hb) hob1 (fun id hid => ⟨c2 id hid, rfl⟩) (fun id st vs e fr hid hst hc => .inr ⟨⟨id, st, hid, hst, rfl⟩, vs, e, fr, hc⟩) hf
 have F := cst.fr
 have fresh : ∀ id st, ¬ B id -> st < γ1.cur id -> w.heap.size <= (γ1.β id st).1 := fun id st hid hst => by
  rcases F.new id st (by rw [hzero id hid]; exact Nat.zero_le _) hst with h | ⟨jA, h, _⟩
  ·exact h
  ·rw [hzero id hid] at h; exact absurd h (Nat.not_lt_zero _)
 have G2 : G ro γ2 a1 w1 := by
  refine ⟨fun id st hst => cst.g.ob id st (lt2 id st hst).2, fun id st id' st' hst hst' he => cst.g.inj id st id' st' (lt2 id st hst).2 (lt2 id' st' hst').2 he, ?_, cst.g.rd, fun b hb => ?_, cst.g.gl.im fun _ h => .inl h⟩
  ·obtain ⟨ms, d1, d2, d3⟩ := cst.g.df
   exact ⟨ms, d1, d2, fun r hr => ⟨(d3 r hr).1, fun id st hst => (d3 r hr).2 id st (lt2 id st hst).2⟩⟩
  ·rcases hb with hb | ⟨⟨id', st', h1, h2, h3⟩, h4⟩
   ·exact ⟨(cst.g.im b hb).1, fun id st hst => (cst.g.im b hb).2 id st (lt2 id st hst).2⟩
   ·refine ⟨h4, fun id st hst e => ?_⟩
    obtain ⟨k1, k2⟩ := lt2 id st hst
    have e : (γ1.β id st).1 = b := e
    obtain ⟨rfl, _⟩ := cst.g.inj id st id' st' k2 h2 (e.trans h3.symm)
    exact h1 k1
 have hw : ∀ {id : Pos}, wrtn Z'.lg id := fun {id} => by rw [S.l']; trivial
 have hwZ : ∀ {id : Pos}, wrtn Z.lg id := fun {id} => by rw [S.l]; trivial
 refine ⟨γ2, ⟨G2, ⟨⟨fun id => ?_, fun id st hst => F.up.β id st hst, F.up.sh, fun b hb => ⟨.inl (F.up.im b hb).1, (F.up.im b hb).2⟩⟩, fun id hn => absurd hw hn, fun b hb hn => F.blk b hb fun id st _ hst => hn id st hw hst, fun id st h1 h2 => F.new id st h1 (lt2 id st h2).2, fun b hb hlt => ?_, F.lp, F.size, F.os, F.tape, F.output, F.fz⟩, cst.sz, cst.dn⟩,
  ⟨fun s d' _ hd => ?_, fun id c' _ hc => ?_, fun id _ hle => c2' id (fun hb => by have := hz id hb; omega), cst.g.gl.im fun _ h => .inl h⟩⟩
 ·by_cases hid : B id
  ·rw [c2 id hid]; exact F.up.cur id
  ·rw [hzero id hid]; exact Nat.zero_le _
 ·rcases hb with hb | ⟨⟨id', st', h1, h2, h3⟩, h4⟩
  ·exact F.imn b hb hlt
  ·have := fresh id' st' h1 h2
   omega
 ·obtain ⟨d, h1, h2⟩ := S.sl s d' hd
  obtain ⟨h3, h4⟩ := rep.sl s d trivial h1
  exact ⟨h3, fz d d' h2 _ h4⟩
 ·obtain ⟨hid, c, h1, h2⟩ := S.ob id c' hc
  have H := hob1 id c h1
  cases h2 with
  | cells hcc =>
    obtain ⟨q0, q1, q2⟩ := H
    refine ⟨q0, (c2 id hid).trans q1, fun st hst => ?_⟩
    obtain ⟨vs, e, fr, q3, q4, q5⟩ := q2 st hst
    refine ⟨vs, e, fr, q3, q4, fun p c' hp hh hd => ?_⟩
    obtain ⟨c, k1, k2, k3⟩ := hcc p c' hp
    obtain ⟨u, k4, k5, k6⟩ := q5 p c k1 (k2 st hh) hd
    exact ⟨u, k4, fz _ _ k3 u k5, k6⟩
  | map hl hm =>
    obtain ⟨q1, en, cl, q2, q3, q4⟩ := H
    refine ⟨(c2 id hid).trans q1, en, cl, q2, by rw [<- hl]; exact q3, fun i e' f he' hf => ?_⟩
    rename_i es es'
    have hi : i < es.length := by rw [hl]; exact (List.getElem?_eq_some_iff.1 he').1
    obtain ⟨k1, k2⟩ := hm i _ e' (List.getElem?_eq_getElem hi) he'
    obtain ⟨k3, k4⟩ := q4 i _ f (List.getElem?_eq_getElem hi) hf
    exact ⟨fz _ _ k1 _ k3, fz _ _ k2 _ k4⟩
  | lp hsl =>
    obtain ⟨q1, l, q2, q3, q4, q5, q6⟩ := H
    refine ⟨(c2 id hid).trans q1, l, q2, q3, q4, fun s d' hs => ?_, q6⟩
    obtain ⟨d, k1, k2⟩ := hsl s d' hs
    exact ⟨(q5 s d k1).1, fz _ _ k2 _ (q5 s d k1).2⟩
  | hole => exact (c2 id hid).trans H
theorem MB : ∀ c : Code, ∃ c', aV P nt c' = aV P nt c /\ (∀ d, c' ≠ .scope d) /\ ∀ {F : Fence} {n : Nat} {Q : Exit -> Act -> World -> Prop} {a : Act} {w : World}, ∃ Q' : Exit -> Act -> World -> Prop, (∀ (e : Ex) a w, Q e.to a w -> Q' e.to a w) /\ (c'.wpIn F n P Q' a w -> c.wpIn F n P Q a w)
 | .scope c => let ⟨c', h1, h2, h3⟩ := MB c; ⟨c', h1, h2, fun {F n Q a w} => by
   obtain ⟨Q', k1, k2⟩ := h3 (F := F) (n := n) (Q := Exit.noGoto Q) (a := a) (w := w)
   exact ⟨Q', fun e a w h => k1 e a w (by cases e <;> exact h), fun h => gR (k2 h)⟩⟩
 | .skip => ⟨.skip, rfl, (fun _ h => by cases h), fun {F n Q a w} => ⟨Q, fun _ _ _ h => h, fun h => h⟩⟩
 | .label l => ⟨.label l, rfl, (fun _ h => by cases h), fun {F n Q a w} => ⟨Q, fun _ _ _ h => h, fun h => h⟩⟩
 | .ret => ⟨.ret, rfl, (fun _ h => by cases h), fun {F n Q a w} => ⟨Q, fun _ _ _ h => h, fun h => h⟩⟩
 | .exit i => ⟨.exit i, rfl, (fun _ h => by cases h), fun {F n Q a w} => ⟨Q, fun _ _ _ h => h, fun h => h⟩⟩
 | .region i o d => ⟨.region i o d, rfl, (fun _ h => by cases h), fun {F n Q a w} => ⟨Q, fun _ _ _ h => h, fun h => h⟩⟩
 | .seq a b => ⟨.seq a b, rfl, (fun _ h => by cases h), fun {F n Q a w} => ⟨Q, fun _ _ _ h => h, fun h => h⟩⟩
 | .cond c a b => ⟨.cond c a b, rfl, (fun _ h => by cases h), fun {F n Q a w} => ⟨Q, fun _ _ _ h => h, fun h => h⟩⟩
 | .block i a => ⟨.block i a, rfl, (fun _ h => by cases h), fun {F n Q a w} => ⟨Q, fun _ _ _ h => h, fun h => h⟩⟩
 | .loop a => ⟨.loop a, rfl, (fun _ h => by cases h), fun {F n Q a w} => ⟨Q, fun _ _ _ h => h, fun h => h⟩⟩
 | .rangeFunc f p a b => ⟨.rangeFunc f p a b, rfl, (fun _ h => by cases h), fun {F n Q a w} => ⟨Q, fun _ _ _ h => h, fun h => h⟩⟩
 | .goto l => ⟨.goto l, rfl, (fun _ h => by cases h), fun {F n Q a w} => ⟨Q, fun _ _ _ h => h, fun h => h⟩⟩
 | .refuse s => ⟨.refuse s, rfl, (fun _ h => by cases h), fun {F n Q a w} => ⟨Q, fun _ _ _ h => h, fun h => h⟩⟩
structure SeqZ (P : Program) (nt : Nat) (c : RC) (x : X) (K : Ex -> X -> Prop) (e : Ex) (z : X) : Prop where
 ok : e = .normal /\ ∃ z' B, ShrB B z z' /\ (∀ id : Pos, id.nat < x.nx.nat -> B id) /\ (∀ id : Pos, B id -> id.nat < z'.nx.nat) /\ x.nx.nat <= z'.nx.nat /\ Rn P nt c z' K
end
theorem WB.decT {p : Prop} [Decidable p] {F : Bool -> Prop} (h : p) (k : F true) : WB (decide p) F := WB.of (by rw [decide_eq_true h]; exact k)
theorem WB.decF {p : Prop} [Decidable p] {F : Bool -> Prop} (h : ¬ p) (k : F false) : WB (decide p) F := WB.of (by rw [decide_eq_false h]; exact k)
theorem WB.ndT {p : Prop} [Decidable p] {F : Bool -> Prop} (h : p) (k : F false) : WB (!decide p) F := WB.of (by rw [decide_eq_true h]; exact k)
theorem WB.ndF {p : Prop} [Decidable p] {F : Bool -> Prop} (h : ¬ p) (k : F true) : WB (!decide p) F := WB.of (by rw [decide_eq_false h]; exact k)
theorem WB.nt {F : Bool -> Prop} (k : F false) : WB (!true) F := WB.of k
theorem WB.nf {F : Bool -> Prop} (k : F true) : WB (!false) F := WB.of k
theorem WB.at' {b c : Bool} {F : Bool -> Prop} (h : b = c) (k : F c) : WB b F := WB.of (by rw [h]; exact k)
theorem Qm {p : Prop} [Decidable p] {F : Bool -> Prop} (k : F true) (h : p := by first | rfl | assumption | omega | exact ⟨rfl, rfl⟩) : WB (decide p) F := WB.decT h k
theorem Qn {p : Prop} [Decidable p] {F : Bool -> Prop} (k : F false) (h : ¬ p := by first | assumption | omega) : WB (decide p) F := WB.decF h k
theorem Qo {p : Prop} [Decidable p] {F : Bool -> Prop} (k : F false) (h : p := by first | rfl | assumption | omega | exact ⟨rfl, rfl⟩) : WB (!decide p) F := WB.ndT h k
theorem Qp {p : Prop} [Decidable p] {F : Bool -> Prop} (k : F true) (h : ¬ p := by first | assumption | omega) : WB (!decide p) F := WB.ndF h k
theorem Qy {p q : Prop} (k : q) (h : q -> p := by with_reducible (first | exact WB.decT (by first | rfl | assumption | omega | exact ⟨rfl, rfl⟩) | exact WB.decF (by first | assumption | omega) | exact WB.ndT (by first | rfl | assumption | omega | exact ⟨rfl, rfl⟩) | exact WB.ndF (by first | assumption | omega) | exact WB.nt | exact WB.nf)) : p := h k
theorem Qw {p q : Prop} (k : q) (h : q -> p := by first | with_reducible (first | exact WB.tt | exact WB.ff) | exact Qa rfl | exact Rn.cond rfl | exact VF (by omega) (by omega) | exact VM (by omega) | exact WIx.intsN (by omega) | exact WIx.rowsN (by omega) | with_reducible (first | exact WB.decT (by first | rfl | assumption | omega | exact ⟨rfl, rfl⟩) | exact WB.decF (by first | assumption | omega) | exact WB.ndT (by first | rfl | assumption | omega | exact ⟨rfl, rfl⟩) | exact WB.ndF (by first | assumption | omega) | exact WB.nt | exact WB.nf)) : p := h k
theorem Qd {b : Bool} {F : Bool -> Prop} {p n : Prop} (k1 : p -> F true) (k0 : n -> F false) (h : (p -> F true) -> (n -> F false) -> WB b F := by first | with_reducible (first | exact fun a b => WB.dec a b | exact fun a b => WB.ndec a b) | exact fun a b => WB.mk a b) : WB b F := h k1 k0
theorem Qv {p q : Prop} (k : q) (h : q -> p := by first | exact WB.tt | exact WB.ff) : p := h k
open Go.RowKit (Below Grown)
section
variable {ob : T C}
end
section
variable {P : Program} {FP : T RF}
end
set_option maxRecDepth 100000
theorem tO {p : Nat -> Bool} {j : Nat} (h : (List.range j).all p = true) (k : p j = true) : (List.range (j + 1)).all p = true := by
 rw [List.range_succ, List.all_append, h]; simp [k]
theorem sR {p : Nat -> Bool} {j n : Nat} (h : j < n) (k : p j = false) : (List.range n).all p = false := by
 rw [List.all_eq_false]
 exact ⟨j, List.mem_range.2 h, by rw [k]; simp⟩
theorem WSt.ixaN {sl : T D} {ob : T C} {nx : Pos} {lg : Option (T Bool)} {K : X -> Prop} {d id : Pos} {len z off st m : Nat} {k : IntKind} {x i : RX} {n : Int} (hx : bG sl x = some (.pt id off st)) (hi : bG sl i = some (.i k n)) (hn : n = (m : Int)) (hm : m < len) (h : dX sl ob nx lg d K (.pt id (off + m * z) st)) : WSt (.ixa d len z x i) ⟨sl, ob, nx, lg⟩ K := by
 obtain ⟨h2, h3⟩ := aT h
 refine ⟨_, ?_, h3⟩
 show wS d len z x i sl ob nx lg = _
 unfold wS
 rw [hx, hi, hn]
 have e : FQ (m : Int) len = some m := by
  show (bif Nat.blt m len then some m else none) = _
  rw [show Nat.blt m len = true from Nat.ble_eq_true_of_le hm]
  rfl
 simp only [e, bH]
 exact h2
theorem Frz.ptr {ob : T C} {id : Pos} {st : Nat} {cs : List Cell} {cur : Nat} {r : List D} (h : ob.get id = some (.cells false cs cur)) (hc : cs = r.map fun d => Cell.o d st) (h0 : 0 < r.length) (hp : aO r) : Frz ob (.pt id 0 st) (.pl r 0) := by
 subst hc
 refine .pt (fun h => h) h h0 (fun k d hk => ⟨.o d st, ?_, ?_, rfl⟩) (FzL.of hp)
 ·rw [List.drop_zero, List.getElem?_map, hk]; rfl
 ·show Nat.ble st st = true
  exact Nat.ble_eq_true_of_le (Nat.le_refl _)
theorem T.le_ee {α : Type} {l r : T α} (hl : T.le l .e) (hr : T.le r .e) : T.le (.n l none r) .e := fun p x h => by
 cases p with
 | h => rw [T.get_h] at h; cases h
 | o p => exact absurd (hl p x h) (by rw [T.get_e]; exact fun h => by cases h)
 | i p => exact absurd (hr p x h) (by rw [T.get_e]; exact fun h => by cases h)
theorem KpO.le {n : Nat} {a b : T C} (h : T.le a b) (k : KpO n b) : KpO n a := fun id c hc => k id c (h id c hc)
theorem OI {n : Nat} {d : D} {r : Bool} {k m : Nat} (h : Kp n d) : KpC n (.cells r [.o d k] m) := by
 refine KpL.all ?_
 simp [KpL, Cell.d, h]
theorem ShrB.of {B : Pos -> Prop} {z z' : X} (hs : Rel (RS B z.ob) (fun p => p) z'.sl z.sl) (ho : Rel (fun id c c' => B id /\ ShC B z.ob c c') (fun p => p) z'.ob z.ob) (l : z.lg = none) (l' : z'.lg = none) : ShrB B z z' :=
 ⟨fun s d' h => hs s d' h, fun id c' h => by
  obtain ⟨c, h1, h2, h3⟩ := ho id c' h
  exact ⟨h2, c, h1, h3⟩, l, l'⟩
theorem Rel.ee {α : Type} {R : Pos -> α -> α -> Prop} {g : Pos -> Pos} {l r : T α} (hl : Rel R (fun p => g (.o p)) l .e) (hr : Rel R (fun p => g (.i p)) r .e) : Rel R g (.n l Option.none r) .e := fun p x h => by
 cases p with
 | h => rw [T.get_h] at h; cases h
 | o p => obtain ⟨y, h1, _⟩ := hl p x h; rw [T.get_e] at h1; cases h1
 | i p => obtain ⟨y, h1, _⟩ := hr p x h; rw [T.get_e] at h1; cases h1
theorem Fz.grown {B : Pos -> Prop} {ob : T C} {id : Pos} {s1 s2 cur n z : Nat} {ds r : List D} {cs : List Cell} {es : List (List D)} (hB : ¬ B id) (h : ob.get id = some (.cells false cs cur)) (hc : cs = (ds.map fun d => Cell.o d s1) ++ r.map fun d => Cell.o d s2) (hs : s1 <= s2) (he : es.flatten = ds ++ r) (hn : n = es.length) (hz : ∀ x ∈ es, x.length = z) (hp : eB es) : Fz B ob (.sl id 0 n s2 z) (.lst z es) := by
 subst hc
 refine .sl hB h hn.symm hz (fun k d hk => ?_) (FzE.of hp)
 rw [he] at hk
 rw [List.drop_zero]
 by_cases hlt : k < ds.length
 ·rw [List.getElem?_append_left hlt] at hk
  refine ⟨.o d s1, ?_, Nat.ble_eq_true_of_le hs, rfl⟩
  rw [List.getElem?_append_left (by simpa using hlt), List.getElem?_map, hk]; rfl
 ·rw [List.getElem?_append_right (by omega)] at hk
  refine ⟨.o d s2, ?_, Nat.ble_eq_true_of_le (Nat.le_refl _), rfl⟩
  rw [List.getElem?_append_right (by simp; omega), List.length_map, List.getElem?_map, hk]; rfl
theorem xD {β : Type} (new : List D) (k : List Cell -> Option β) : wA 0 1 new 0 [] k = k (new.map fun d => Cell.o d 1) := by
 show sB (Nat.pred 1) (eI (List.length new) []) (fun l => jG (fun d => .o d 1) new l k) = _
 rw [bT, qQ, iV]
 simp
section
variable {sl : T D} {ob : T C} {nx : Pos} {K : X -> Prop}
theorem WSt.eqr2 {lg : Option (T Bool)} {d : Pos} {x y : RX} {a b a' b' : Int} (h1 : bG sl x = some (.ag [.i .i64 a, .i .i64 b])) (h2 : bG sl y = some (.ag [.i .i64 a', .i .i64 b'])) (w1 : qY .i64 a = true) (w2 : qY .i64 b = true) (w3 : qY .i64 a' = true) (w4 : qY .i64 b' = true) (k : dX sl ob nx lg d K (.b (decide (a = a' /\ b = b')))) :
 WSt (.eqr d false [.i .i64, .i .i64] x y) ⟨sl, ob, nx, lg⟩ K := by
 obtain ⟨k1, k2⟩ := aT k
 refine ⟨_, ?_, k2⟩
 show sA _ _ _ x y sl ob nx lg = _
 unfold sA
 rw [h1, h2]
 have e : AZ [.i .i64, .i .i64] (.ag [.i .i64 a, .i .i64 b]) (.ag [.i .i64 a', .i .i64 b']) = some (decide (a = a' /\ b = b')) := by
  have hk : vU .i64 .i64 = true := rfl
  simp only [AZ, Fg, RK, hk, w1, w2, w3, w4, Bool.and_self, cond_true, Option.some.injEq]
  simp only [lF, Bool.decide_and]
  have hb : ∀ a b : Int, (a == b) = decide (a = b) := fun a b => by by_cases h : a = b <;> simp [h]
  simp only [hb, Bool.and_true]
 simp only [e, cond_false, bL]
 exact k1
end
theorem cL {n : Int} (h1 : -1000000000000000000 <= n) (h2 : n <= 1000000000000000000) : qY .i64 n = true := by
 cases n with
 | ofNat m =>
   have h2 : (m : Int) <= 1000000000000000000 := h2
   exact Nat.ble_eq_true_of_le (by simp only [gZ]; omega)
 | negSucc m =>
   have h1 : -1000000000000000000 <= Int.negSucc m := h1
   show (IntKind.signed .i64 && Nat.ble m (gZ .i64)) = true
   rw [show IntKind.signed .i64 = true from rfl, Bool.true_and]
   exact Nat.ble_eq_true_of_le (by simp only [gZ]; omega)
theorem sC : ∀ {L : List Int} {a : Int}, L.foldl min a = a \/ L.foldl min a ∈ L
 | [], a => .inl rfl
 | b :: L, a => by
   show List.foldl min (min a b) L = a \/ _
   rcases sC (L := L) (a := min a b) with h | h
   ·have : min a b = a \/ min a b = b := by omega
    rcases this with e | e
    ·exact .inl (by rw [h, e])
    ·exact .inr (by show List.foldl min (min a b) L ∈ _; rw [h, e]; simp)
   ·exact .inr (List.mem_cons_of_mem _ h)
theorem sG : ∀ {L : List Int} {a : Int}, L.foldl max a = a \/ L.foldl max a ∈ L
 | [], a => .inl rfl
 | b :: L, a => by
   show List.foldl max (max a b) L = a \/ _
   rcases sG (L := L) (a := max a b) with h | h
   ·have : max a b = a \/ max a b = b := by omega
    rcases this with e | e
    ·exact .inl (by rw [h, e])
    ·exact .inr (by show List.foldl max (max a b) L ∈ _; rw [h, e]; simp)
   ·exact .inr (List.mem_cons_of_mem _ h)
structure FinX (rs : List RR) (Φ : D -> Prop) (e : Ex) (z : X) : Prop where
 ok : ∃ v, Φ v /\ Fin rs v e z
theorem PureF.runE {P : Program} {f nt : Nat} {rc : RC} {rs : List RR} {ds : List D} {Φ : D -> Prop} (F : FnOk P f nt rc rs) (hlen : ds.length <= nt) (hp : aO ds) (h : rX ds .h .e fun sl => Rn P nt rc ⟨sl, .e, .h, none⟩ (FinX rs Φ)) : ∃ v, Φ v /\ PureF P f ds v := by
 obtain ⟨fn, c, hf, hb, hc, hr, hname, h6⟩ := F.ok
 subst h6
 obtain ⟨sl0, h, hsl⟩ := qJ h
 obtain ⟨e, ⟨sl, ob1, nx1, lg1⟩, X1, FE⟩ := h.ok c hc
 obtain ⟨v, hΦ, F⟩ := FE.ok
 obtain ⟨u, h1, h2⟩ := F.hr
 obtain ⟨v', ob', nx', lg', h3, C⟩ := pY (k := fun v ob nx lg => some ⟨T.set .h v .e, ob, nx, lg⟩) hf hb hr hname hlen hsl F.he X1 h1
 have h3 := Option.some.inj h3
 have e1 := congrArg (fun t => T.get t .h) (X.mk.inj h3).1
 simp only [T.get_set_same, Option.some.injEq] at e1
 have e2 := (X.mk.inj h3).2.1
 have e3 : ob' = ob1 := e2
 subst e1
 subst e3
 exact ⟨v, hΦ, C.shut hp h2⟩
theorem pre6 {l : List Int} (h : 6 < l.length) : ∃ a0 a1 a2 a3 a4 a5 a6 r, l = a0 :: a1 :: a2 :: a3 :: a4 :: a5 :: a6 :: r := by
 match l, h with
 | a0 :: a1 :: a2 :: a3 :: a4 :: a5 :: a6 :: r, _ => exact ⟨a0, a1, a2, a3, a4, a5, a6, r, rfl⟩
theorem WSt.ixsO {sl : T D} {ob : T C} {nx : Pos} {lg : Option (T Bool)} {K : X -> Prop} {d id : Pos} {len st m : Nat} {k : IntKind} {x i : RX} {n : Int} (hx : bG sl x = some (.sl id 0 len st 1)) (hi : bG sl i = some (.i k n)) (hn : n = (m : Int)) (hm : m < len) (h : dX sl ob nx lg d K (.pt id m st)) : WSt (.ixs d 1 x i) ⟨sl, ob, nx, lg⟩ K := by
 obtain ⟨h2, h3⟩ := aT h
 refine ⟨_, ?_, h3⟩
 show nY d 1 x i sl ob nx lg = _
 unfold nY
 rw [hx, hi]
 subst hn
 have hidx : FQ (m : Int) len = some m := by
  show (bif Nat.blt m len then some m else none) = some m
  rw [show Nat.blt m len = true from Nat.ble_eq_true_of_le hm]; rfl
 have h1 : Nat.add 0 (Nat.mul m 1) = m := by show 0 + m * 1 = m; omega
 simp only [Nat.beq_refl, cond_true, hidx, bH, h1]
 exact h2
theorem Lw {α : Type} {a b : T α} (h : T.le a b := by repeat' first | exact T.le_e _ | exact T.le_refl _ | refine T.le_some ?_ rfl ?_ | refine T.le_none ?_ ?_ | refine T.le_ee ?_ ?_) : T.le a b := h
structure Ln where
 k : Int
 c : Int
 t : Int
deriving Inhabited
structure Ct where
 a : Int
 lo : Int
 hi : Int
deriving Inhabited
def aM (l : Ln) : List D := [.i .i64 l.k, .i .i64 l.c, .i .i64 l.t]
def dZ (c : Ct) : List D := [.i .i64 c.a, .i .i64 c.lo, .i .i64 c.hi]
def CW (n coin box : Int) (ls : List Ln) (cs : List Ct) : List D := [.i .i64 n, .i .i64 coin, .i .i64 box, .lst 3 (aD aM ls), .lst 3 (aD dZ cs)]
theorem aB (ls : List Ln) : eB (aD aM ls) := nL (fun l => by simp [aM, aO, Pu]) ls
theorem aE (cs : List Ct) : eB (aD dZ cs) := nL (fun l => by simp [dZ, aO, Pu]) cs
theorem Fx {B : Pos -> Prop} {ob : T C} {d e : D} (h : Fz B ob d e := by first | exact Fz.pu trivial | (refine Fz.i ?_; first | rfl | omega) | exact .kpt (Ql rfl) | exact .ksl (Ql rfl) | exact .kmp (Ql rfl) | (refine Fz.pu ?_; simp [Cell.d, Pu, aO, eB, aJ, aB, aE]; done) | (refine Fz.pu ?_; simp only [Cell.d]; assumption)) : Fz B ob d e := h
theorem Rw {sl sl' : T D} {B : Pos -> Prop} {ob : T C} {f : Pos -> Pos} (h : Rel (RS B ob) f sl sl' := by (repeat' first | exact Rel.e | refine Rel.some ?_ ?_ ?_ | refine Rel.none ?_ ?_ | refine Rel.ee ?_ ?_) <;> first | exact Fy | exact Fz.pu (aJ _) | exact Fz.pu (aB _) | exact Fz.pu (aE _)) : Rel (RS B ob) f sl sl' := h
theorem dN (ls : List Ln) : ∀ r ∈ aD aM ls, r.length = 3 := fun r hr => by
 obtain ⟨l, _, rfl⟩ := List.mem_map.1 hr
 rfl
theorem Gd (cs : List Ct) : ∀ r ∈ aD dZ cs, r.length = 3 := fun r hr => by
 obtain ⟨l, _, rfl⟩ := List.mem_map.1 hr
 rfl
def oI (l x : Ln) : Bool := (decide (l.k = 0) || decide (l.k = x.k)) && ((decide (l.c < 0) || decide (l.c = x.c)) && (decide (l.t < 0) || decide (l.t = x.t)))
def gS (n a b : Int) : Bool := decide (a <= n /\ n <= b)
theorem aP {n a b : Int} : gS n a b = true ↔ a <= n /\ n <= b := decide_eq_true_iff
def cB (n : Int) (l : Ln) : Bool := gS l.k 0 2 && (gS l.c (-1) (n - 1) && gS l.t (-1) (n - 1))
def rE (m : Int) (c : Ct) : Bool := gS c.a 0 m && (decide (0 <= c.lo) && (decide (c.lo <= c.hi) && decide (c.hi <= 2000)))
def BO (l : Ln) : Int := if l.k = 0 then 2 else 1
def BM (n : Int) (l : Ln) : Int := if l.c = -1 then n else 1
def BJ (n : Int) (l : Ln) : Int := if l.t = -1 then n else 1
def jX (n : Int) (l : Ln) : Int := BO l * BM n l * BJ n l
theorem mD {n : Int} (h1 : 1 <= n) (h4 : n <= 4) (l : Ln) : 1 <= jX n l /\ jX n l <= 32 := by
 unfold jX BO BM BJ
 have : n = 1 \/ n = 2 \/ n = 3 \/ n = 4 := by omega
 rcases this with rfl | rfl | rfl | rfl <;> split <;> split <;> split <;> omega
def eP (n : Int) (ls : List Ln) : Int := ls.foldl (fun m l => m * jX n l) 1
def eE (n : Int) (ls : List Ln) : Int := ls.foldl (fun m l => min 5000 (m * jX n l)) 1
theorem tV {n : Int} (h1 : 1 <= n) (h4 : n <= 4) : ∀ (ls : List Ln) (p q : Int), 1 <= p -> q = min 5000 p -> ls.foldl (fun m l => min 5000 (m * jX n l)) q = min 5000 (ls.foldl (fun m l => m * jX n l) p) /\ 1 <= ls.foldl (fun m l => m * jX n l) p
 | [], p, q, hp, hq => ⟨hq, hp⟩
 | l :: ls, p, q, hp, hq => by
   obtain ⟨b1, b2⟩ := mD h1 h4 l
   have h0 : 1 <= p * jX n l := by
    have := Int.mul_le_mul hp b1 (by omega) (by omega)
    omega
   refine tV h1 h4 ls (p * jX n l) (min 5000 (q * jX n l)) h0 ?_
   by_cases h : p <= 5000
   ·rw [hq, show min 5000 p = p by omega]
   ·have e : q = 5000 := by omega
    have h2 : (5000 : Int) * 1 <= 5000 * jX n l := Int.mul_le_mul (Int.le_refl _) b1 (by omega) (by omega)
    have h3 : (5000 : Int) * 1 <= p * jX n l := Int.mul_le_mul (by omega) b1 (by omega) (by omega)
    rw [e]
    omega
theorem fD {n : Int} (h1 : 1 <= n) (h4 : n <= 4) (ls : List Ln) : eE n ls = min 5000 (eP n ls) /\ 1 <= eP n ls := tV h1 h4 ls 1 1 (by omega) (by omega)
theorem As {n : Int} (h1 : 1 <= n) (h4 : n <= 4) : ∀ (ls : List Ln) (p b : Int), 1 <= p -> p <= b -> ls.foldl (fun m l => m * jX n l) p <= b * 32 ^ ls.length
 | [], p, b, _, h => by simpa using h
 | l :: ls, p, b, hp, h => by
   obtain ⟨b1, b2⟩ := mD h1 h4 l
   have h0 : 1 <= p * jX n l := by
    have := Int.mul_le_mul hp b1 (by omega) (by omega)
    omega
   have h2 : p * jX n l <= b * 32 := Int.mul_le_mul h b2 (by omega) (by omega)
   have := As h1 h4 ls (p * jX n l) (b * 32) h0 h2
   rw [List.length_cons, Int.pow_succ, show b * (32 ^ ls.length * 32) = b * 32 * 32 ^ ls.length by rw [Int.mul_assoc, Int.mul_comm 32]]
   exact this
def kU (n coin box : Int) (ls : List Ln) (cs : List Ct) : Bool := gS n 1 4 && (gS coin 1 99 && (gS box 0 999 && (ls.all (cB n) && cs.all (rE ls.length))))
def aS (n coin box : Int) (ls : List Ln) (cs : List Ct) : Int :=
 if 8 < ls.length \/ 4 < cs.length then 3 else if kU n coin box ls cs = true then (if 4096 < eE n ls then 3 else 0) else 1
theorem nI {n coin box : Int} {ls : List Ln} {cs : List Ct} (h : aS n coin box ls cs = 0) : ls.length <= 8 /\ cs.length <= 4 /\ kU n coin box ls cs = true /\ eE n ls <= 4096 := by
 unfold aS at h
 split at h
 ·cases h
 ·split at h
  ·split at h
   ·cases h
   ·exact ⟨by omega, by omega, by assumption, by omega⟩
  ·cases h
def bK (T : List Ln) (c : Int) : Nat -> Int
 | 0 => -1
 | i + 1 => if (T.getD i default).c = c then (if (T.getD i default).k = 1 then (i : Int) else -1) else bK T c i
def bY (T : List Ln) (t : Int) : Nat -> Int
 | 0 => -1
 | i + 1 => if (T.getD i default).t = t then (if (T.getD i default).k = 1 then (i : Int) else -1) else bY T t i
theorem jO (T : List Ln) (c : Int) : ∀ i, -1 <= bK T c i /\ bK T c i < i
 | 0 => by show -1 <= (-1 : Int) /\ (-1 : Int) < 0; omega
 | i + 1 => by
   have := jO T c i
   unfold bK
   split <;> try split
   all_goals omega
theorem jK (T : List Ln) (c : Int) : ∀ i, -1 <= bY T c i /\ bY T c i < i
 | 0 => by show -1 <= (-1 : Int) /\ (-1 : Int) < 0; omega
 | i + 1 => by
   have := jK T c i
   unfold bY
   split <;> try split
   all_goals omega
def dV (T : List Ln) (i : Nat) : Bool := (decide (0 <= bK T (T.getD i default).c i) == decide ((T.getD i default).k = 2)) && (decide (0 <= bY T (T.getD i default).t i) == decide ((T.getD i default).k = 2))
def eG (T : List Ln) : Bool := (List.range T.length).all (dV T)
def bZ (box coin : Int) (T : List Ln) : Nat -> Int
 | 0 => box
 | i + 1 => if (T.getD i default).k = 1 then bZ box coin T i + coin else bZ box coin T i - coin
def gT (T : List Ln) : Nat -> Int
 | 0 => 0
 | i + 1 => gT T i + if (T.getD i default).k = 2 /\ bK T (T.getD i default).c i ≠ bY T (T.getD i default).t i then 1 else 0
theorem qR {box coin : Int} {T : List Ln} (h1 : 0 <= box /\ box <= 999) (h2 : 1 <= coin /\ coin <= 99) : ∀ i : Nat, -99 * (i : Int) <= bZ box coin T i /\ bZ box coin T i <= 999 + 99 * (i : Int)
 | 0 => by show -99 * 0 <= box /\ box <= 999 + 99 * 0; omega
 | i + 1 => by
   have := qR (T := T) h1 h2 i
   unfold bZ
   split <;> omega
theorem yK {T : List Ln} : ∀ i : Nat, 0 <= gT T i /\ gT T i <= i
 | 0 => by show (0 : Int) <= 0 /\ (0 : Int) <= 0; omega
 | i + 1 => by
   have := yK (T := T) i
   unfold gT
   split <;> omega
def Ni (n : Int) (l x : Ln) : Bool := gS x.k 1 2 && (gS x.c 0 (n - 1) && (gS x.t 0 (n - 1) && oI l x))
def jE (n : Int) (ls T : List Ln) : Bool := decide (T.length = ls.length) && (List.range T.length).all fun i => Ni n (ls.getD i default) (T.getD i default)
def yG (box coin : Int) (cs : List Ct) (T : List Ln) : Bool := cs.all fun c => gS (bZ box coin T c.a.toNat) c.lo c.hi
structure Mo where
 n : Int
 h : Nat -> Int
 box : Int
 mix : Int
 last : Ln
instance : Inhabited Mo := ⟨⟨0, fun _ => 0, 0, 0, ⟨0, 0, 0⟩⟩⟩
def dW (m : Mo) : List D := [.i .i64 m.n, .i .i64 (m.h 0), .i .i64 (m.h 1), .i .i64 (m.h 2), .i .i64 (m.h 3), .i .i64 (m.h 4), .i .i64 (m.h 5), .i .i64 (m.h 6), .i .i64 (m.h 7), .i .i64 m.box, .i .i64 m.mix, .i .i64 m.last.k, .i .i64 m.last.c, .i .i64 m.last.t]
def oF (h : Nat -> Int) (q : Nat) (v : Int) (i : Nat) : Int := if i = q then v else h i
def kX (coin : Int) (m : Mo) (l : Ln) : Mo × Bool :=
 if l.k = 1 /\ m.h l.c.toNat = 0 /\ m.h (4 + l.t.toNat) = 0 then (⟨m.n + 1, oF (oF m.h l.c.toNat (m.n + 1)) (4 + l.t.toNat) (m.n + 1), m.box + coin, m.mix, l⟩, true)
 else if l.k = 2 /\ m.h l.c.toNat ≠ 0 /\ m.h (4 + l.t.toNat) ≠ 0 then (⟨m.n + 1, oF (oF m.h l.c.toNat 0) (4 + l.t.toNat) 0, m.box - coin, if m.h l.c.toNat ≠ m.h (4 + l.t.toNat) then m.mix + 1 else m.mix, l⟩, true)
 else (⟨m.n + 1, m.h, m.box, m.mix, l⟩, false)
def fC (box coin : Int) (T : List Ln) (i : Nat) : Mo := ⟨(i : Int), fun q => if q < 4 then bK T (q : Int) i + 1 else bY T ((q - 4 : Nat) : Int) i + 1, bZ box coin T i, gT T i, match i with
 | 0 => ⟨0, 0, 0⟩
 | i + 1 => T.getD i default⟩
theorem Er {box coin : Int} {T : List Ln} {i : Nat} (hk : (T.getD i default).k = 1 \/ (T.getD i default).k = 2) (hc : 0 <= (T.getD i default).c /\ (T.getD i default).c <= 3) (ht : 0 <= (T.getD i default).t /\ (T.getD i default).t <= 3) (hp : dV T i = true) : kX coin (fC box coin T i) (T.getD i default) = (fC box coin T (i + 1), true) := by
 unfold dV at hp
 rw [Bool.and_eq_true, beq_iff_eq, beq_iff_eq] at hp
 obtain ⟨p1, p2⟩ := hp
 have hcN : (((T.getD i default).c.toNat : Nat) : Int) = (T.getD i default).c := by omega
 have htN : (((T.getD i default).t.toNat : Nat) : Int) = (T.getD i default).t := by omega
 have e1 : (fC box coin T i).h (T.getD i default).c.toNat = bK T (T.getD i default).c i + 1 := by
  show (if (T.getD i default).c.toNat < 4 then _ else _) = _
  rw [if_pos (by omega), hcN]
 have e2 : (fC box coin T i).h (4 + (T.getD i default).t.toNat) = bY T (T.getD i default).t i + 1 := by
  show (if 4 + (T.getD i default).t.toNat < 4 then _ else _) = _
  rw [if_neg (by omega), show 4 + (T.getD i default).t.toNat - 4 = (T.getD i default).t.toNat by omega, htN]
 have b1 := jO T (T.getD i default).c i
 have b2 := jK T (T.getD i default).t i
 have hext : ∀ v : Int, (∀ c : Int, bK T c (i + 1) = if (T.getD i default).c = c then v - 1 else bK T c i) -> (∀ c : Int, bY T c (i + 1) = if (T.getD i default).t = c then v - 1 else bY T c i) -> oF (oF (fC box coin T i).h (T.getD i default).c.toNat v) (4 + (T.getD i default).t.toNat) v = (fC box coin T (i + 1)).h := fun v h1 h2 => by
  funext q
  show (if q = 4 + (T.getD i default).t.toNat then v else if q = (T.getD i default).c.toNat then v else if q < 4 then bK T (q : Int) i + 1 else bY T ((q - 4 : Nat) : Int) i + 1) = if q < 4 then bK T (q : Int) (i + 1) + 1 else bY T ((q - 4 : Nat) : Int) (i + 1) + 1
  rw [h1, h2]
  by_cases hq : q < 4
  ·rw [if_neg (show ¬ q = 4 + (T.getD i default).t.toNat by omega), if_pos hq, if_pos hq]
   by_cases hqc : q = (T.getD i default).c.toNat
   ·rw [if_pos hqc, if_pos (by omega)]; omega
   ·rw [if_neg hqc, if_neg (by omega)]
  ·rw [if_neg hq, if_neg hq, if_neg (show ¬ q = (T.getD i default).c.toNat by omega)]
   by_cases hqt : q = 4 + (T.getD i default).t.toNat
   ·rw [if_pos hqt, if_pos (by omega)]; omega
   ·rw [if_neg hqt, if_neg (by omega)]
 unfold kX
 rw [e1, e2]
 rcases hk with hk | hk
 ·have q1 : ¬ 0 <= bK T (T.getD i default).c i := by
   intro h; rw [decide_eq_true h, hk] at p1; cases p1
  have q2 : ¬ 0 <= bY T (T.getD i default).t i := by
   intro h; rw [decide_eq_true h, hk] at p2; cases p2
  rw [if_pos ⟨hk, by omega, by omega⟩]
  have hh := hext ((i : Int) + 1) (fun c => by
   show (if _ then (if _ then _ else _) else _) = _
   rw [hk, if_pos rfl]
   congr 1; omega) (fun c => by
   show (if _ then (if _ then _ else _) else _) = _
   rw [hk, if_pos rfl]
   congr 1; omega)
  show ((⟨(i : Int) + 1, oF (oF (fC box coin T i).h _ ((i : Int) + 1)) _ ((i : Int) + 1), bZ box coin T i + coin, gT T i, T.getD i default⟩, true) : Mo × Bool) = _
  rw [hh]
  have m1 : bZ box coin T (i + 1) = bZ box coin T i + coin := by
   show (if _ then _ else _) = _
   rw [if_pos hk]
  have m2 : gT T (i + 1) = gT T i := by
   show gT T i + (if _ then _ else _) = _
   rw [if_neg (by rw [hk]; intro h; omega)]; omega
  unfold fC
  simp only [m1, m2]
  rfl
 ·have q1 : 0 <= bK T (T.getD i default).c i := by
   refine Classical.byContradiction fun h => ?_
   rw [decide_eq_false h, hk] at p1; cases p1
  have q2 : 0 <= bY T (T.getD i default).t i := by
   refine Classical.byContradiction fun h => ?_
   rw [decide_eq_false h, hk] at p2; cases p2
  rw [if_neg (fun h => by omega), if_pos ⟨hk, by omega, by omega⟩]
  have hh := hext 0 (fun c => by
   show (if _ then (if _ then _ else _) else _) = _
   by_cases hcc : (T.getD i default).c = c
   ·rw [if_pos hcc, if_neg (by rw [hk]; decide), if_pos hcc]; rfl
   ·rw [if_neg hcc, if_neg hcc]) (fun c => by
   show (if _ then (if _ then _ else _) else _) = _
   by_cases hcc : (T.getD i default).t = c
   ·rw [if_pos hcc, if_neg (by rw [hk]; decide), if_pos hcc]; rfl
   ·rw [if_neg hcc, if_neg hcc])
  show ((⟨(i : Int) + 1, oF (oF (fC box coin T i).h _ 0) _ 0, bZ box coin T i - coin, (if bK T _ i + 1 ≠ bY T _ i + 1 then gT T i + 1 else gT T i), T.getD i default⟩, true) : Mo × Bool) = _
  rw [hh]
  have m1 : bZ box coin T (i + 1) = bZ box coin T i - coin := by
   show (if _ then _ else _) = _
   rw [if_neg (by rw [hk]; decide)]
  have m2 : gT T (i + 1) = if bK T (T.getD i default).c i + 1 ≠ bY T (T.getD i default).t i + 1 then gT T i + 1 else gT T i := by
   show gT T i + (if _ then _ else _) = _
   by_cases h : bK T (T.getD i default).c i = bY T (T.getD i default).t i
   ·rw [if_neg (fun h' => h'.2 h), if_neg (fun h' => h' (by omega))]; omega
   ·rw [if_pos ⟨hk, h⟩, if_pos (by omega)]
  unfold fC
  simp only [m1, m2]
  rfl
theorem Hy {box coin : Int} {T : List Ln} {i : Nat} (hk : (T.getD i default).k = 1 \/ (T.getD i default).k = 2) (hc : 0 <= (T.getD i default).c /\ (T.getD i default).c <= 3) (ht : 0 <= (T.getD i default).t /\ (T.getD i default).t <= 3) (hp : dV T i = false) : (kX coin (fC box coin T i) (T.getD i default)).2 = false := by
 have hcN : (((T.getD i default).c.toNat : Nat) : Int) = (T.getD i default).c := by omega
 have htN : (((T.getD i default).t.toNat : Nat) : Int) = (T.getD i default).t := by omega
 have e1 : (fC box coin T i).h (T.getD i default).c.toNat = bK T (T.getD i default).c i + 1 := by
  show (if (T.getD i default).c.toNat < 4 then _ else _) = _
  rw [if_pos (by omega), hcN]
 have e2 : (fC box coin T i).h (4 + (T.getD i default).t.toNat) = bY T (T.getD i default).t i + 1 := by
  show (if 4 + (T.getD i default).t.toNat < 4 then _ else _) = _
  rw [if_neg (by omega), show 4 + (T.getD i default).t.toNat - 4 = (T.getD i default).t.toNat by omega, htN]
 have b1 := jO T (T.getD i default).c i
 have b2 := jK T (T.getD i default).t i
 unfold kX
 rw [e1, e2]
 have hn : ¬ (decide (0 <= bK T (T.getD i default).c i) = decide ((T.getD i default).k = 2) /\ decide (0 <= bY T (T.getD i default).t i) = decide ((T.getD i default).k = 2)) := fun h => by
  have : dV T i = true := by
   unfold dV
   rw [h.1, h.2]; simp
  rw [this] at hp; cases hp
 split
 ·rename_i h
  exact absurd ⟨by rw [decide_eq_false (by omega), decide_eq_false (by omega)], by rw [decide_eq_false (by omega), decide_eq_false (by omega)]⟩ hn
 ·split
  ·rename_i h
   exact absurd ⟨by rw [decide_eq_true (by omega), decide_eq_true (by omega)], by rw [decide_eq_true (by omega), decide_eq_true (by omega)]⟩ hn
  ·rfl
end Go.Ev
end
