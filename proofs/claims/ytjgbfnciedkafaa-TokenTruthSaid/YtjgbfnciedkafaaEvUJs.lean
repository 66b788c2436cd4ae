import Derived.Test.YtjgbfnciedkafaaEvUJ1
import Derived.Test.YtjgbfnciedkafaaEvUIt
import Derived.Test.YtjgbfnciedkafaaEvURn
set_option linter.all false
set_option maxHeartbeats 8000000
noncomputable section
namespace Go.Ev
open Go.Proofs
set_option maxRecDepth 1000000
def p118 : Pos := .o p59
def p119 : Pos := .i p59
def p120 : Pos := .o p60
def p121 : Pos := .i p60
def p122 : Pos := .o De
def p123 : Pos := .i De
def p124 : Pos := .o DZ
def p125 : Pos := .i DZ
def p136 : Pos := .o KL
def p137 : Pos := .i KL
def p138 : Pos := .o Jd
def p139 : Pos := .i Jd
def p140 : Pos := .o p70
def p141 : Pos := .i p70
def p142 : Pos := .o Fs
def p143 : Pos := .i Fs
def p144 : Pos := .o JF
def p145 : Pos := .i JF
def p156 : Pos := .o p78
def vF : Pos := .i p78
def p158 : Pos := .o p79
def p159 : Pos := .i p79
def p160 : Pos := .o p80
def p161 : Pos := .i p80
def p165 : Pos := .i p82
def Yo : RC := (Sr [(.u (.box p3 p1)), (.u (.mv p5 (.k .ns))), (.u (.mv p6 (.k .ns))), (.u (.mv p7 (K_ 0)))] (.seq (.drw [(bM p10 p3 5), (Mv bD p2), (Fd bF p3 3), (L1 bG bF), (.u (.len bH bG)), (Cf bN p86 [bD, bH]), (Cf bP p85 [p10, bN]), (Mv p9 bP), (.u (.ext bX p9 0)), (.u (.ext bS p9 1)), (.u (.new p8 [(.i .i64 0), (.i .i64 0), (.i .i64 0), .ns, .ns, .nm])), (.u (.st p8 bX 6)), (Mv p7 bS)] [0, 0, 0, 4, 12, 30, 63, 127, 255, 255, 0, 1535, 4095]) (.seq (Sr [(Mv cH p7), (cD cB .neq cH 0)] (.cond cB (Sr [(Mv p21 p7), (.u (.mv p5 (.k .ns))), (.u (.mv p6 (.k .ns))), (Mv p7 p21)] .ret) .skip)) (.seq (.drw [(bM p22 p8 6), (Mv p23 p2), (Cf p24 p87 [p22, p23, (K_ 0)]), (bM p25 p8 6), (Mv p26 p2), (Cf eB p87 [p25, p26, (K_ 4)]), (Mv p5 p24), (Mv p6 eB), (.u (.mv p7 (K_ 0)))] [0, 0, 3, 0, 0, 31, 63, 127, 255]) .ret))))
def YK : List RR := [(.t p5), (.t p6), (.t p7)]
theorem Tk : FnOk Try.prog p34.ix 27 Yo YK := dU Try.f33 Try.func33
def Yh : RC := (Sr [(.u (.box p3 p1)), (.u (.new p5 [(.i .i64 0), (.i .i64 0)])), (.u (.mv p6 (K_ 0)))] (.seq (.drw [(bM p10 p3 5), (Mv bD p2), (Fd bF p3 3), (L1 bG bF), (.u (.len bH bG)), (Cf bN p86 [bD, bH]), (Cf bP p85 [p10, bN]), (Mv p9 bP), (.u (.ext bX p9 0)), (.u (.ext bS p9 1)), (.u (.new p7 [(.i .i64 0), (.i .i64 0), (.i .i64 0), .ns, .ns, .nm])), (.u (.st p7 bX 6)), (Mv p8 bS)] [0, 0, 0, 4, 12, 30, 63, 127, 255, 255, 0, 1535, 4095]) (.seq (Sr [(Mv cH p8), (cD cB .neq cH 0)] (.cond cB (Sr [(.u (.bld p21 [(.i .i64 0), (.i .i64 0)] [])), (Mv p22 p8), (.u (.st p5 p21 2)), (Mv p6 p22)] .ret) .skip)) (Sr [(bM p23 p7 6), (Mv p24 p2), (.u (.bld p25 [(.i .i64 0), .nf] [(0, (1, p24)), (1, (1, (.k (.fn p77 [] []))))])), (Cf p26 p89 [p23, p25]), (.u (.st p5 p26 2)), (.u (.mv p6 (K_ 0)))] .ret))))
def Xu : List RR := [(.cn p5 2), (.t p6)]
theorem So : FnOk Try.prog p39.ix 26 Yh Xu := dU Try.f38 Try.func38
def XD : RC := (Sr [(.u (.box p2 p1)), (.u (.new p3 [(.i .i64 0), (.i .i64 0)])), (.u (.mv p4 (K_ 0)))] (Sr [(bM p8 p2 5), (Cf p9 p85 [p8, (.k (.b true))]), (Mv p7 p9), (.u (.ext p10 p7 0)), (.u (.ext bD p7 1)), (.u (.new p5 [(.i .i64 0), (.i .i64 0), (.i .i64 0), .ns, .ns, .nm])), (.u (.st p5 p10 6)), (Mv p6 bD)] (.seq (Sr [(Mv bF p6), (cD bG .neq bF 0)] (.cond bG (Sr [(.u (.bld bH [(.i .i64 0), (.i .i64 0)] [])), (Mv bN p6), (.u (.st p3 bH 2)), (Mv p4 bN)] .ret) .skip)) (Sr [(bM bP p5 6), (Fd bX p2 3), (L1 bS bX), (.u (.len cH bS)), (.u (.bld cB [(.i .i64 0), .nf] [(0, (1, cH)), (1, (1, (.k (.fn p78 [] []))))])), (Cf p21 p89 [bP, cB]), (.u (.st p3 p21 2)), (.u (.mv p4 (K_ 0)))] .ret))))
def XY : List RR := [(.cn p3 2), (.t p4)]
theorem TM : FnOk Try.prog p40.ix 21 XD XY := dU Try.f39 Try.func39
def XE : RC := (Sr [(.u (.box p3 p1)), (.u (.mv p5 (.k .ns))), (.u (.mv p6 (K_ 0)))] (.seq (.drw [(bM p10 p3 5), (Mv bD p2), (Fd bF p3 3), (L1 bG bF), (.u (.len bH bG)), (cD bN .sub bH 1), (Cf bP p86 [bD, bN]), (Cf bX p85 [p10, bP]), (Mv p9 bX), (.u (.ext bS p9 0)), (.u (.ext cH p9 1)), (.u (.new p7 [(.i .i64 0), (.i .i64 0), (.i .i64 0), .ns, .ns, .nm])), (.u (.st p7 bS 6)), (Mv p8 cH)] [0, 0, 0, 4, 12, 28, 62, 127, 255, 511, 511, 0, 3071, 8191]) (.seq (Sr [(Mv cB p8), (cD p21 .neq cB 0)] (.cond p21 (Sr [(Mv p22 p8), (.u (.mv p5 (.k .ns))), (Mv p6 p22)] .ret) .skip)) (Sr [(bM p23 p7 6), (Mv p24 p2), (Cf p25 p92 [p23, p24]), (Mv p5 p25), (.u (.mv p6 (K_ 0)))] .ret))))
def Yr : List RR := [(.t p5), (.t p6)]
theorem SB : FnOk Try.prog p44.ix 25 XE Yr := dU Try.f43 Try.func43
def YE : RC := (Sr [(.u (.box p2 p1)), (.u (.mv p3 (K_ 0))), (.u (.mv p4 (K_ 0)))] (.seq (Sr [(bM p8 p2 5), (Cf p9 p28 [p8]), (Mv p5 p9)] (Sr [(Mv p10 p5), (cD bD .neq p10 0)] (.cond bD (Sr [(Mv bF p5), (.u (.mv p3 (K_ 0))), (Mv p4 bF)] .ret) .skip))) (Sr [(Fd bG p2 3), (L1 bH bG), (Mv p6 bH)] (Sr [(Fd bN p2 4), (.u (.st bN (.k .ns) 1))] (.seq (Sr [(Mv bP p6), (.u (.len bX bP)), (.u (.mv bS (K_ 0)))] (.blk 0 (.loop (Sr [(dY cH .lss bS bX)] (.seq (.cond cH .skip (.exit 0)) (.seq (.blk 1 (Sr [(Mv cB bS), (Mv p7 cB)] (Sr [(Mv p21 p6), (Mv p22 p7), (cD p23 .add p22 1), (.u (.slc p24 3 p21 none (some p23) none)), (Fd p25 p2 3), (.u (.st p25 p24 1))] (Sr [(bM p26 p2 5), (Cf eB p75 [p26]), (Cf p28 p94 [eB]), (.u (.un fA .not p28))] (.cond fA (Sr [(Mv eG p7), (Mv p3 eG), (.u (.mv p4 (K_ 0)))] .ret) .skip))))) (.reg [(cD p31 .add bS 1), (Mv bS p31)]))))))) (Sr [(.u (.mv p3 (K_ 0))), (.u (.mv p4 (K_ 7)))] .ret))))))
def Xi : List RR := [(.t p3), (.t p4)]
theorem Wz : FnOk Try.prog p47.ix 31 YE Xi := dU Try.f46 Try.func46
def YU : RC := (Sr [(.u (.box p2 p1)), (.u (.mv p3 (.k .ns))), (.u (.mv p4 (K_ 0)))] (.seq (Sr [(bM p8 p2 5), (Cf p9 p28 [p8]), (Mv p5 p9)] (Sr [(Mv p10 p5), (cD bD .neq p10 0)] (.cond bD (Sr [(Mv bF p5), (.u (.mv p3 (.k .ns))), (Mv p4 bF)] .ret) .skip))) (Sr [(bM bH p2 5), (Cf bN p75 [bH]), (Cf bP p95 [bN]), (Mv bG bP), (.u (.ext bX bG 0)), (.u (.ext bS bG 1)), (Mv p6 bX), (Mv p7 bS)] (.seq (Sr [(Mv cH p7), (.u (.un cB .not cH))] (.cond cB (Sr [(.u (.mv p3 (.k .ns))), (.u (.mv p4 (K_ 10)))] .ret) .skip)) (Sr [(Mv p21 p6), (Mv p3 p21), (.u (.mv p4 (K_ 0)))] .ret)))))
def XG : List RR := [(.t p3), (.t p4)]
theorem YQ : FnOk Try.prog p48.ix 21 YU XG := dU Try.f47 Try.func47
def Wv : RC := (Sr [(.u (.box p3 p1)), (.u (.new p5 [(.i .i64 0), (.i .i64 0), (.i .i64 0), .ns, .ns, .nm])), (.u (.mv p6 (K_ 0)))] (.seq (Sr [(bM p9 p3 5), (Cf p10 p28 [p9]), (Mv p7 p10)] (Sr [(Mv bD p7), (cD bF .neq bD 0)] (.cond bF (Sr [(.u (.bld bG [(.i .i64 0), (.i .i64 0), (.i .i64 0), .ns, .ns, .nm] [])), (Mv bH p7), (.u (.st p5 bG 6)), (Mv p6 bH)] .ret) .skip))) (.seq (Sr [(Mv bN p2), (.u (.un bP .not bN))] (.cond bP (Sr [(.u (.bld bX [(.i .i64 0), (.i .i64 0), (.i .i64 0), .ns, .ns, .nm] [])), (.u (.st p5 bX 6)), (.u (.mv p6 (K_ 2)))] .ret) .skip)) (Sr [(bM bS p3 5), (Cf cH p75 [bS]), (.u (.new p8 [(.i .i64 0), (.i .i64 0), (.i .i64 0), .ns, .ns, .nm])), (.u (.st p8 cH 6))] (.seq (Sr [(bM cB p8 6), (Cf p21 p94 [cB]), (.u (.un p22 .not p21))] (.cond p22 (Sr [(.u (.bld p23 [(.i .i64 0), (.i .i64 0), (.i .i64 0), .ns, .ns, .nm] [])), (.u (.st p5 p23 6)), (.u (.mv p6 (K_ 11)))] .ret) .skip)) (Sr [(bM p24 p8 6), (.u (.st p5 p24 6)), (.u (.mv p6 (K_ 0)))] .ret))))))
def WT : List RR := [(.cn p5 6), (.t p6)]
theorem ME : FnOk Try.prog p85.ix 24 Wv WT := dU Try.f84 Try.func84
def Wt : RC := (Sr [(.u (.box p4 p1)), (.u (.mv p7 (.k .ns)))] (Sr [(.u (.mv p8 (.k .ns)))] (.seq (Sr [(Fd bD p4 0), (Fd bF bD 0), (L1 bG bF), (.u (.mv bH (K_ 0)))] (.blk 0 (.loop (Sr [(dY bN .lss bH bG)] (.seq (.cond bN .skip (.exit 0)) (.seq (.blk 1 (Sr [(Mv bP bH), (Mv p9 bP)] (Sr [(Mv bX p3), (Mv bS p9), (dY cH .add bX bS), (Mv p10 cH)] (.reg [(Mv cB p8), (bM p21 p4 6), (Mv p22 p2), (Mv p23 p10), (.u (.fnl p24 p119 [p23] [])), (.u (.bld p25 [(.i .i64 0), .nf] [(0, (1, p22)), (1, (1, p24))])), (Cf p26 p89 [p21, p25]), (Cf eB p118 [p26]), (.u (.bsl p28 1 1 [(.i .i64 0)] [(0, (1, eB))])), (.u (.app fA 1 cB p28)), (Mv p8 fA)])))) (.reg [(cD eG .add bH 1), (Mv bH eG)]))))))) (Sr [(Mv p31 p8), (Mv p7 p31)] .ret))))
def Ww : List RR := [(.t p7)]
theorem XN : FnOk Try.prog p87.ix 31 Wt Ww := dU Try.f86 Try.func86
def XJ : RC := (Sr [(.u (.box p3 p1)), (.u (.box p4 p2)), (.u (.new p5 [(.i .i64 0), (.i .i64 0)]))] (Sr [(.u (.new p6 [.ns]))] (.seq (Sr [(bM p8 p3 6), (Cf p9 p120 [p8])] (.blk 0 (.rf p9 [p10] 28 (mG (aN Try.f88) 0) (mA (aN Try.f88) 0)))) (.seq (.drw [(L1 p21 p6), (.u (.ixs p22 1 p21 (K_ 0))), (L1 p23 p22), (L1 p24 p6), (Cf p25 p121 [p23, p24]), (L1 p26 p6), (Cf eB p122 [p26]), (.u (.bld p28 [(.i .i64 0), (.i .i64 0)] [(0, (1, p25)), (1, (1, eB))])), (.u (.st p5 p28 2))] [0, 1, 3, 0, 15, 0, 63, 127, 255]) .ret))))
def Yg : List RR := [(.cn p5 2)]
theorem WE : FnOk Try.prog p89.ix 28 XJ Yg := dU Try.f88 Try.func88
def Oe : RC := (.reg [(.u (.new p7 [(.i .i64 0), (.i .i64 0), (.i .i64 0), (.i .i64 0), (.i .i64 0), (.i .i64 0), (.i .i64 0), (.i .i64 0), (.i .i64 0), (.i .i64 0), (.i .i64 0), (.i .i64 0), (.i .i64 0), (.i .i64 0), (.i .i64 0), (.i .i64 0), (.i .i64 0), (.i .i64 0), (.i .i64 0), (.i .i64 0), (.i .i64 0), (.i .i64 0), (.i .i64 0), (.i .i64 0), (.i .i64 0), (.i .i64 0), (.i .i64 0), (.i .i64 0), (.i .i64 0), (.i .i64 0), (.i .i64 0), (.i .i64 0), (.i .i64 0), (.i .i64 0), (.i .i64 0), (.i .i64 0), (.i .i64 0), (.i .i64 0), (.i .i64 0), (.i .i64 0), (.i .i64 0), (.i .i64 0), (.i .i64 0), (.i .i64 0), (.i .i64 0), (.i .i64 0), (.i .i64 0), (.i .i64 0), (.i .i64 0), (.i .i64 0), (.i .i64 0), (.i .i64 0), (.i .i64 0), (.i .i64 0), (.i .i64 0), (.i .i64 0), (.i .i64 0), (.i .i64 0), (.i .i64 0), (.i .i64 0), (.i .i64 0), (.i .i64 0), (.i .i64 0), (.i .i64 0), (.i .i64 0), (.i .i64 0), (.i .i64 0), (.i .i64 0), (.i .i64 0), (.i .i64 0), (.i .i64 0), (.i .i64 0), (.i .i64 0), (.i .i64 0), (.i .i64 0), (.i .i64 0), (.i .i64 0), (.i .i64 0), (.i .i64 0), (.i .i64 0), (.i .i64 0), (.i .i64 0), (.i .i64 0), (.i .i64 0), (.i .i64 0), (.i .i64 0), (.i .i64 0), (.i .i64 0), (.i .i64 0), (.i .i64 0), (.i .i64 0), (.i .i64 0), (.i .i64 0), (.i .i64 0), (.i .i64 0), (.i .i64 0), (.i .i64 0), (.i .i64 0), (.i .i64 0), (.i .i64 0), (.i .i64 0), (.i .i64 0), (.i .i64 0), (.i .i64 0), (.i .i64 0), (.i .i64 0), (.i .i64 0), (.i .i64 0), (.i .i64 0), (.i .i64 0), (.i .i64 0), (.i .i64 0), (.i .i64 0), (.i .i64 0), (.i .i64 0), (.i .i64 0), (.i .i64 0), (.i .i64 0), (.i .i64 0), (.i .i64 0), (.i .i64 0), (.i .i64 0), (.i .i64 0), (.i .i64 0), (.i .i64 0), (.i .i64 0)])), (.u (.st p7 p10 126))])
theorem yY : aT Try.prog 28 (mG (aN Try.f88) 0) = Oe := by kernel_rfl
def PJ : RC := (.blk 1 (.drw [(L1 bD p6), (Fd bF p4 1), (L1 bG bF), (Fd bH p4 0), (L1 bN bH), (.u (.ixa bP 9 14 p7 bN)), (bM bX bP 14), (.u (.cv (some bS) bG [bX])), (.u (.bsl cH 1 1 [(.i .i64 0)] [(0, (1, bS))])), (.u (.app cB 1 bD cH)), (.u (.st p6 cB 1))] [0, 0, 2, 0, 8, 24, 56, 126, 254, 511, 1023]))
theorem zW : aT Try.prog 28 (mA (aN Try.f88) 0) = PJ := by kernel_rfl
def YP : RC := (Sr [(.u (.box p3 p1)), (.u (.box p4 p2)), (.u (.mv p5 (.k .ns)))] (Sr [(.u (.mkm p10)), (.u (.new p6 [.nm])), (.u (.st p6 p10 1))] (.seq (Sr [(bM bD p3 6), (Cf bF p120 [bD])] (.blk 0 (.rf bF [bG] 36 (mG (aN Try.f91) 0) (mA (aN Try.f91) 0)))) (Sr [(.u (.new p8 [.ns]))] (.seq (.seq (.drw [(bM cB p3 6), (Fd p21 p3 0), (Fd p22 p21 3), (L1 p23 p22), (L1 p24 p4), (.u (.ixs p25 3 p23 p24)), (bM p26 p25 3), (Cf eB p107 [cB, p26])] [0, 0, 2, 6, 0, 30, 62, 127]) (.blk 2 (.rf eB [p28] 36 (mG (aN Try.f91) 1) (mA (aN Try.f91) 1)))) (Sr [(L1 p36 p8), (Mv p5 p36)] .ret))))))
def WN : List RR := [(.t p5)]
theorem XX : FnOk Try.prog p92.ix 36 YP WN := dU Try.f91 Try.func91
def Og : RC := (.reg [(.u (.new p7 [(.i .i64 0), (.i .i64 0), (.i .i64 0), (.i .i64 0), (.i .i64 0), (.i .i64 0), (.i .i64 0), (.i .i64 0), (.i .i64 0), (.i .i64 0), (.i .i64 0), (.i .i64 0), (.i .i64 0), (.i .i64 0), (.i .i64 0), (.i .i64 0), (.i .i64 0), (.i .i64 0), (.i .i64 0), (.i .i64 0), (.i .i64 0), (.i .i64 0), (.i .i64 0), (.i .i64 0), (.i .i64 0), (.i .i64 0), (.i .i64 0), (.i .i64 0), (.i .i64 0), (.i .i64 0), (.i .i64 0), (.i .i64 0), (.i .i64 0), (.i .i64 0), (.i .i64 0), (.i .i64 0), (.i .i64 0), (.i .i64 0), (.i .i64 0), (.i .i64 0), (.i .i64 0), (.i .i64 0), (.i .i64 0), (.i .i64 0), (.i .i64 0), (.i .i64 0), (.i .i64 0), (.i .i64 0), (.i .i64 0), (.i .i64 0), (.i .i64 0), (.i .i64 0), (.i .i64 0), (.i .i64 0), (.i .i64 0), (.i .i64 0), (.i .i64 0), (.i .i64 0), (.i .i64 0), (.i .i64 0), (.i .i64 0), (.i .i64 0), (.i .i64 0), (.i .i64 0), (.i .i64 0), (.i .i64 0), (.i .i64 0), (.i .i64 0), (.i .i64 0), (.i .i64 0), (.i .i64 0), (.i .i64 0), (.i .i64 0), (.i .i64 0), (.i .i64 0), (.i .i64 0), (.i .i64 0), (.i .i64 0), (.i .i64 0), (.i .i64 0), (.i .i64 0), (.i .i64 0), (.i .i64 0), (.i .i64 0), (.i .i64 0), (.i .i64 0), (.i .i64 0), (.i .i64 0), (.i .i64 0), (.i .i64 0), (.i .i64 0), (.i .i64 0), (.i .i64 0), (.i .i64 0), (.i .i64 0), (.i .i64 0), (.i .i64 0), (.i .i64 0), (.i .i64 0), (.i .i64 0), (.i .i64 0), (.i .i64 0), (.i .i64 0), (.i .i64 0), (.i .i64 0), (.i .i64 0), (.i .i64 0), (.i .i64 0), (.i .i64 0), (.i .i64 0), (.i .i64 0), (.i .i64 0), (.i .i64 0), (.i .i64 0), (.i .i64 0), (.i .i64 0), (.i .i64 0), (.i .i64 0), (.i .i64 0), (.i .i64 0), (.i .i64 0), (.i .i64 0), (.i .i64 0), (.i .i64 0), (.i .i64 0), (.i .i64 0)])), (.u (.st p7 bG 126))])
theorem GX : aT Try.prog 36 (mG (aN Try.f91) 0) = Og := by kernel_rfl
def QK : RC := (.blk 1 (.drw [(L1 bH p6), (L1 bN p4), (cD bP .add bN 1), (.u (.ixa bX 9 14 p7 bP)), (Fd bS bX 11), (bM cH bS 3), (.u (.mup [(.i .i64), (.i .i64), (.i .i64)] bH cH (.k (.b true))))] [0, 0, 2, 6, 14, 30, 63]))
theorem GI : aT Try.prog 36 (mA (aN Try.f91) 0) = QK := by kernel_rfl
def PV : RC := (.reg [(.u (.new p9 [(.i .i64 0), (.i .i64 0), (.i .i64 0)])), (.u (.st p9 p28 3))])
theorem oQ : aT Try.prog 36 (mG (aN Try.f91) 1) = PV := by kernel_rfl
def Re : RC := (.blk 3 (Sr [(L1 fA p6), (bM eG p9 3), (.u (.lkp p31 (.b false) false [(.i .i64), (.i .i64), (.i .i64)] fA eG))] (.cond p31 (.reg [(L1 iD p8), (bM p33 p9 3), (.u (.bsl p34 3 1 [(.i .i64 0), (.i .i64 0), (.i .i64 0)] [(0, (3, p33))])), (.u (.app kH 3 iD p34)), (.u (.st p8 kH 1))]) .skip)))
theorem oU : aT Try.prog 36 (mA (aN Try.f91) 1) = Re := by kernel_rfl
def Yn : RC := (Sr [(.u (.box p2 p1)), (.u (.mv p3 (.k (.b false))))] (.seq (.drw [(bM p4 p2 6), (bM p5 p2 6), (Cf p6 p105 [p5]), (Cf p7 p123 [p4, p6]), (Mv p3 p7)] [0, 0, 2, 7, 15]) .ret))
def Xq : List RR := [(.t p3)]
theorem Xc : FnOk Try.prog p94.ix 7 Yn Xq := dU Try.f93 Try.func93
def Wy : RC := (Sr [(.u (.box p2 p1)), (.u (.new p3 [.ns])), (.u (.new p4 [(.b false)]))] (.seq .skip (.seq (Sr [(Fd p7 p2 0), (Fd p8 p7 3), (L1 p9 p8), (.u (.len p10 p9)), (cD bD .add p10 1), (.u (.mv bF (K_ 0)))] (.blk 0 (.loop (Sr [(dY bG .lss bF bD)] (.seq (.cond bG .skip (.exit 0)) (.seq (.blk 1 (Sr [(Mv bH bF), (Mv p5 bH)] (Sr [(Fd bN p2 0), (Fd bP bN 3), (L1 bX bP), (.u (.len bS bX)), (Mv cH p5), (Cf cB p124 [bS, cH])] (.blk 2 (.rf cB [p21] 30 (mG (aN Try.f94) 0) (mA (aN Try.f94) 0)))))) (.reg [(cD p28 .add bF 1), (Mv bF p28)]))))))) (.seq (.drw [(L1 fA p3), (L1 eG p4), (.u (.st p3 fA 1)), (.u (.st p4 eG 1))] [0, 0, 1, 7]) .ret))))
def YW : List RR := [(.c1 p3), (.c1 p4)]
theorem Wu : FnOk Try.prog p95.ix 30 Wy YW := dU Try.f94 Try.func94
def OJ : RC := (.reg [(Mv p6 p21)])
theorem Ga : aT Try.prog 30 (mG (aN Try.f94) 0) = OJ := by kernel_rfl
def OL : RC := (.blk 3 (Sr [(bM p22 p2 6), (Mv p23 p6), (Cf p24 p125 [p22, p23]), (Cf p25 p75 [p24]), (Cf p26 p94 [p25])] (.cond p26 (Sr [(Mv eB p6), (.u (.st p3 eB 1)), (.u (.st p4 (.k (.b true)) 1))] (.exit 0)) .skip)))
theorem Gu : aT Try.prog 30 (mA (aN Try.f94) 0) = OL := by kernel_rfl
def Tc : RC := (Sr [(.u (.box p2 p1)), (.u (.mv p3 (K_ 0)))] (.seq (Sr [(bM p4 p2 2)] (.blk 0 (Sr [(.u (.bld p6 [(.i .i64 0), (.i .i64 0)] [(0, (1, (K_ 1))), (1, (1, (K_ 1)))])), (.u (.eqr p7 false [(.i .i64), (.i .i64)] p4 p6)), (Mv p5 p7)] (.cond p5 (Sr [(.u (.mv p3 (K_ 1)))] .ret) (Sr [(.u (.bld p9 [(.i .i64 0), (.i .i64 0)] [(0, (1, (K_ 0))), (1, (1, (K_ 0)))])), (.u (.eqr p10 false [(.i .i64), (.i .i64)] p4 p9)), (Mv p8 p10)] (.cond p8 (Sr [(.u (.mv p3 (K_ 2)))] .ret) .skip)))))) (Sr [(.u (.mv p3 (K_ 3)))] .ret)))
def Vl : List RR := [(.t p3)]
theorem Um : FnOk Try.prog p118.ix 10 Tc Vl := dU Try.f117 Try.func117
def Sx : RC := (Sr [(.u (.box p4 p2)), (.u (.mv p5 (K_ 0)))] (Sr [(Mv p6 p1), (Fd p7 p4 1), (.u (.ixa p8 8 1 p7 p6)), (L1 p9 p8), (.u (.mn p10 p9 (K_ 1))), (Mv p5 p10)] .ret))
def UH : List RR := [(.t p5)]
theorem Sf : FnOk Try.prog p119.ix 10 Sx UH := dU Try.f118 Try.func118
def TJ : RC := (Sr [(.u (.box p2 p1)), (.u (.mv p3 (.k .nf)))] (Sr [(.u (.fnl p4 p136 [] [p2])), (Mv p3 p4)] .ret))
def Vp : List RR := [(.t p3)]
theorem TI : FnOk Try.prog p120.ix 4 TJ Vp := dU Try.f119 Try.func119
def RI : RC := (Sr [(.u (.mv p5 (K_ 0)))] (.seq (Sr [(Mv p8 p2), (.u (.len p9 p8)), (.u (.mv p10 (K_ 0)))] (.blk 0 (.loop (Sr [(dY bD .lss p10 p9)] (.seq (.cond bD .skip (.exit 0)) (.seq (.blk 1 (Sr [(.u (.ixs bF 1 p8 p10)), (L1 bG bF), (Mv p7 bG)] (.reg [(Mv bH p1), (Mv bN p7), (.u (.mn bP bH bN)), (Mv p1 bP)]))) (.reg [(cD bX .add p10 1), (Mv p10 bX)]))))))) (Sr [(Mv bS p1), (Mv p5 bS)] .ret)))
def Vg : List RR := [(.t p5)]
theorem Vy : FnOk Try.prog p121.ix 18 RI Vg := dU Try.f120 Try.func120
def Sn : RC := (Sr [(.u (.mv p3 (K_ 0)))] (.seq (Sr [(Mv p6 p1), (.u (.len p7 p6)), (cD p8 .lss p7 1)] (.cond p8 (.reg [(.u .bad), (.u .bad)]) .skip)) (Sr [(Mv p10 p1), (.u (.ixs bD 1 p10 (K_ 0))), (L1 bF bD), (Mv p4 bF)] (.seq (Sr [(.u (.mv p5 (K_ 1)))] (.blk 0 (.loop (.seq (Sr [(Mv bG p5), (Mv bH p1), (.u (.len bN bH)), (dY bP .lss bG bN)] (.cond bP .skip (.exit 0))) (.seq (.blk 1 (.reg [(Mv cH p4), (Mv cB p1), (Mv p21 p5), (.u (.ixs p22 1 cB p21)), (L1 p23 p22), (.u (.mx p24 cH p23)), (Mv p4 p24)])) (.reg [(Mv bX p5), (cD bS .add bX 1), (Mv p5 bS)])))))) (Sr [(Mv p25 p4), (Mv p3 p25)] .ret)))))
def TX : List RR := [(.t p3)]
theorem Ut : FnOk Try.prog p122.ix 25 Sn TX := dU Try.f121 Try.func121
def UP : RC := (Sr [(.u (.box p3 p1)), (.u (.box p4 p2)), (.u (.mv p5 (.k (.b false))))] (Sr [(bM p9 p4 14), (Cf p10 p139 [p9]), (.u (.new p6 [(.i .i64 0), (.b false), (.b false), (.b false), (.b false), (.b false), (.b false), (.b false), (.b false)])), (.u (.st p6 p10 9))] (Sr [(Fd bF p3 5), (L1 bG bF), (bM bH p6 9), (.u (.lkp bN (.b false) true [(.i .i64), .b, .b, .b, .b, .b, .b, .b, .b] bG bH)), (Mv bD bN), (.u (.ext bP bD 0)), (.u (.ext bX bD 1)), (Mv p7 bP), (Mv p8 bX)] (.seq (Sr [(Mv bS p8), (.u (.un cH .not bS))] (.cond cH (.seq (.drw [(bM cB p3 6), (bM p21 p4 14), (Cf p22 p80 [cB, p21]), (Mv p23 p22), (Gs p23 true p24 (.fad p24 p4 0)), (Gs p23 true p25 (.ld1 p25 p24)), (Gs p23 true p26 (.fad p26 p3 0)), (Gs p23 true eB (.fad eB p26 3)), (Gs p23 true p28 (.ld1 p28 eB)), (Gs p23 true fA (.len fA p28)), (Gs p23 true eG (.bin eG .eql p25 fA)), (Gs p23 true p31 (.mv p31 eG)), (Gs p31 false iD (.ldn iD p3 6)), (Gs p31 false p33 (.ldn p33 p4 14)), (Gs p31 false p34 (.cf (some p34) p138 [iD, p33])), (Gs p31 false kH (.ldn kH p3 6)), (Gs p31 false p36 (.fnl p36 p123 [kH] [])), (Gs p31 false lA (.cf (some lA) p140 [p34, p36])), (Gs p23 true nA (.pick nA p31 (.k (.b true)) lA)), (Pa p39 p23 nA), (Mv p7 p39)] [0, 0, 3, 7, 15, 31, 15, 79, 207, 463, 1023, 2047, 4095, 4095, 16383, 4095, 36863, 131071, 262143, 524287, 1048575]) (.reg [(Fd p40 p3 5), (L1 p41 p40), (bM pS p6 9), (Mv lT p7), (.u (.mup [(.i .i64), .b, .b, .b, .b, .b, .b, .b, .b] p41 pS lT))])) .skip)) (Sr [(Mv p44 p7), (Mv p5 p44)] .ret)))))
def SV : List RR := [(.t p5)]
theorem Nk : FnOk Try.prog p123.ix 44 UP SV := dU Try.f122 Try.func122
def Sk : RC := (Sr [(.u (.box p3 p1)), (.u (.box p4 p2)), (.u (.mv p5 (.k .nf)))] (Sr [(.u (.fnl p6 p141 [] [p3, p4])), (Mv p5 p6)] .ret))
def VH : List RR := [(.t p5)]
theorem Vu : FnOk Try.prog p124.ix 6 Sk VH := dU Try.f123 Try.func123
def NN : RC := (Sr [(.u (.box p3 p1)), (.u (.new p5 [(.i .i64 0), (.i .i64 0), (.i .i64 0), .ns, .ns]))] (Sr [(Fd bG p3 0), (bM bH bG 5), (.u (.new p6 [(.i .i64 0), (.i .i64 0), (.i .i64 0), .ns, .ns])), (.u (.st p6 bH 5))] (Sr [(Fd bN p6 3), (.u (.st bN (.k .ns) 1)), (Fd bP p6 4), (.u (.st bP (.k .ns) 1))] (.seq (Sr [(Fd bX p3 0), (Fd bS bX 3), (L1 cH bS), (.u (.len cB cH)), (.u (.mv p21 (K_ 0)))] (.blk 0 (.loop (Sr [(dY p22 .lss p21 cB)] (.seq (.cond p22 .skip (.exit 0)) (.seq (.blk 1 (Sr [(Mv p23 p21), (.u (.ixs p24 3 cH p21)), (bM p25 p24 3), (.u (.new p8 [(.i .i64 0), (.i .i64 0), (.i .i64 0)])), (Mv p7 p23), (.u (.st p8 p25 3))] (Sr [(Mv p26 p2), (Mv eB p7), (Cf p28 p144 [p26, eB]), (.u (.un fA .not p28))] (.cond fA (.reg [(Fd eG p6 3), (L1 p31 eG), (bM iD p8 3), (.u (.bsl p33 3 1 [(.i .i64 0), (.i .i64 0), (.i .i64 0)] [(0, (3, iD))])), (.u (.app p34 3 p31 p33)), (Fd kH p6 3), (.u (.st kH p34 1))]) .skip)))) (.reg [(cD p36 .add p21 1), (Mv p21 p36)]))))))) (.seq (Sr [(Fd lA p3 0), (Fd nA lA 4), (L1 p39 nA), (.u (.len p40 p39)), (.u (.mv p41 (K_ 0)))] (.blk 2 (.loop (Sr [(dY pS .lss p41 p40)] (.seq (.cond pS .skip (.exit 2)) (.seq (.blk 3 (Sr [(.u (.ixs lT 3 p39 p41)), (bM p44 lT 3), (.u (.new p10 [(.i .i64 0), (.i .i64 0), (.i .i64 0)])), (.u (.st p10 p44 3))] (Sr [(Mv xA p2), (Fd p47 p10 0), (L1 p48 p47), (Cf AZ p145 [xA, p48]), (Mv sO AZ), (.u (.ext uK sO 0)), (.u (.ext Bs sO 1)), (Mv bD uK), (Mv bF Bs)] (Sr [(Fd Bv p10 0), (L1 Br Bv), (Mv p54 bD), (dY p55 .sub Br p54), (Fd p56 p10 0), (.u (.st p56 p55 1))] (.reg [(Fd p57 p6 4), (L1 p58 p57), (bM p59 p10 3), (.u (.bsl p60 3 1 [(.i .i64 0), (.i .i64 0), (.i .i64 0)] [(0, (3, p59))])), (.u (.app De 3 p58 p60)), (Fd DZ p6 4), (.u (.st DZ De 1))]))))) (.reg [(cD p63 .add p41 1), (Mv p41 p63)]))))))) (Sr [(bM Gm p6 5), (.u (.st p5 Gm 5))] .ret))))))
def Ny : List RR := [(.cn p5 5)]
theorem Ve : FnOk Try.prog p125.ix 64 NN Ny := dU Try.f124 Try.func124
def Vn : RC := (Sr [(.u (.box p3 p1))] (Sr [(.u (.new p4 [(.i .i64 0), (.i .i64 0), (.i .i64 0), (.i .i64 0), (.i .i64 0), (.i .i64 0), (.i .i64 0), (.i .i64 0), (.i .i64 0), (.i .i64 0), (.i .i64 0), (.i .i64 0), (.i .i64 0), (.i .i64 0), (.i .i64 0), (.i .i64 0), (.i .i64 0), (.i .i64 0), (.i .i64 0), (.i .i64 0), (.i .i64 0), (.i .i64 0), (.i .i64 0), (.i .i64 0), (.i .i64 0), (.i .i64 0), (.i .i64 0), (.i .i64 0), (.i .i64 0), (.i .i64 0), (.i .i64 0), (.i .i64 0), (.i .i64 0), (.i .i64 0), (.i .i64 0), (.i .i64 0), (.i .i64 0), (.i .i64 0), (.i .i64 0), (.i .i64 0), (.i .i64 0), (.i .i64 0), (.i .i64 0), (.i .i64 0), (.i .i64 0), (.i .i64 0), (.i .i64 0), (.i .i64 0), (.i .i64 0), (.i .i64 0), (.i .i64 0), (.i .i64 0), (.i .i64 0), (.i .i64 0), (.i .i64 0), (.i .i64 0), (.i .i64 0), (.i .i64 0), (.i .i64 0), (.i .i64 0), (.i .i64 0), (.i .i64 0), (.i .i64 0), (.i .i64 0), (.i .i64 0), (.i .i64 0), (.i .i64 0), (.i .i64 0), (.i .i64 0), (.i .i64 0), (.i .i64 0), (.i .i64 0), (.i .i64 0), (.i .i64 0), (.i .i64 0), (.i .i64 0), (.i .i64 0), (.i .i64 0), (.i .i64 0), (.i .i64 0), (.i .i64 0), (.i .i64 0), (.i .i64 0), (.i .i64 0), (.i .i64 0), (.i .i64 0), (.i .i64 0), (.i .i64 0), (.i .i64 0), (.i .i64 0), (.i .i64 0), (.i .i64 0), (.i .i64 0), (.i .i64 0), (.i .i64 0), (.i .i64 0), (.i .i64 0), (.i .i64 0), (.i .i64 0), (.i .i64 0), (.i .i64 0), (.i .i64 0), (.i .i64 0), (.i .i64 0), (.i .i64 0), (.i .i64 0), (.i .i64 0), (.i .i64 0), (.i .i64 0), (.i .i64 0), (.i .i64 0), (.i .i64 0), (.i .i64 0), (.i .i64 0), (.i .i64 0), (.i .i64 0), (.i .i64 0), (.i .i64 0), (.i .i64 0), (.i .i64 0), (.i .i64 0), (.i .i64 0), (.i .i64 0), (.i .i64 0), (.i .i64 0), (.i .i64 0)]))] (Sr [(.u (.new p5 [.nf]))] (Sr [(.u (.fnl p6 p137 [] [p2, p4, p3, p5])), (.u (.st p5 p6 1))] (.drw [(L1 p7 p5), (bM p8 p2 6), (Cf p9 p105 [p8]), (.u (.cv (some p10) p7 [p9]))] [0, 0, 2, 7])))))
def Ul : List RR := []
theorem TQ : FnOk Try.prog p136.ix 10 Vn Ul := dU Try.f135 Try.func135
def VG : RC := (Sr [(.u (.box p6 p1)), (.u (.new p7 [(.b false)]))] (.seq (Sr [(bM p9 p2 6), (bM p10 p6 14), (Cf bD p123 [p9, p10]), (.u (.un bF .not bD))] (.cond bF (Sr [(.u (.st p7 (.k (.b true)) 1))] .ret) .skip)) (Sr [(Fd bG p6 0), (L1 bH bG), (bM bN p6 14), (.u (.ixa bP 9 14 p3 bH)), (.u (.st bP bN 14))] (.seq (Sr [(Fd bX p6 0), (L1 bS bX), (Fd cH p2 0), (Fd cB cH 3), (L1 p21 cB), (.u (.len p22 p21)), (dY p23 .eql bS p22)] (.cond p23 (Sr [(L1 p24 p4), (bM p25 p3 126), (.u (.cv (some p26) p24 [p25])), (.u (.st p7 p26 1))] .ret) .skip)) (.seq (Sr [(bM eB p2 6), (bM p28 p6 14), (Cf fA p138 [eB, p28])] (.blk 0 (.rf fA [eG] 34 (mG (aN Try.f136) 0) (mA (aN Try.f136) 0)))) (Sr [(.u (.st p7 (.k (.b true)) 1))] .ret))))))
def Sv : List RR := [(.c1 p7)]
theorem Nc : FnOk Try.prog p137.ix 34 VG Sv := dU Try.f136 Try.func136
def Mp : RC := (.reg [(.u (.new p8 [(.i .i64 0), (.i .i64 0), (.i .i64 0), (.i .i64 0), (.i .i64 0), (.i .i64 0), (.i .i64 0), (.i .i64 0), (.i .i64 0), (.i .i64 0), (.i .i64 0), (.i .i64 0), (.i .i64 0), (.i .i64 0)])), (.u (.st p8 eG 14))])
theorem Dr : aT Try.prog 34 (mG (aN Try.f136) 0) = Mp := by kernel_rfl
def Mf : RC := (.blk 1 (Sr [(L1 p31 p5), (bM iD p8 14), (.u (.cv (some p33) p31 [iD])), (.u (.un p34 .not p33))] (.cond p34 (Sr [(.u (.st p7 (.k (.b false)) 1))] .ret) .skip)))
theorem Do : aT Try.prog 34 (mA (aN Try.f136) 0) = Mf := by kernel_rfl
def VC : RC := (Sr [(.u (.box p3 p1)), (.u (.box p4 p2)), (.u (.mv p5 (.k .nf)))] (Sr [(.u (.fnl p6 p156 [] [p3, p4])), (Mv p5 p6)] .ret))
def Vs : List RR := [(.t p5)]
theorem Uz : FnOk Try.prog p138.ix 6 VC Vs := dU Try.f137 Try.func137
def Tz : RC := (Sr [(.u (.box p2 p1)), (.u (.new p3 [(.i .i64 0), (.b false), (.b false), (.b false), (.b false), (.b false), (.b false), (.b false), (.b false)]))] (Sr [(Fd p7 p2 0), (L1 p8 p7), (.u (.bld p9 [(.i .i64 0), (.b false), (.b false), (.b false), (.b false), (.b false), (.b false), (.b false), (.b false)] [(0, (1, p8))])), (.u (.new p4 [(.i .i64 0), (.b false), (.b false), (.b false), (.b false), (.b false), (.b false), (.b false), (.b false)])), (.u (.st p4 p9 9))] (.seq (Sr [(Fd p10 p2 1), (bM bD p10 8), (.u (.mv bF (K_ 0)))] (.blk 0 (.loop (Sr [(cD bG .lss bF 8)] (.seq (.cond bG .skip (.exit 0)) (.seq (.blk 1 (Sr [(Mv bH bF), (.u (.ixv bN 8 1 false bD bF)), (Mv p5 bH), (Mv p6 bN)] (.reg [(Mv bP p5), (Mv bX p6), (cD bS .neq bX 0), (Fd cH p4 1), (.u (.ixa cB 8 1 cH bP)), (.u (.st cB bS 1))]))) (.reg [(cD p21 .add bF 1), (Mv bF p21)]))))))) (Sr [(bM p22 p4 9), (.u (.st p3 p22 9))] .ret))))
def SS : List RR := [(.cn p3 9)]
theorem VK : FnOk Try.prog p139.ix 22 Tz SS := dU Try.f138 Try.func138
def UR : RC := (Sr [(.u (.box p4 p2)), (.u (.new p5 [(.b false)]))] (.seq (Sr [(Mv p7 p1)] (.blk 0 (.rf p7 [p8] 11 (mG (aN Try.f139) 0) (mA (aN Try.f139) 0)))) (Sr [(.u (.st p5 (.k (.b false)) 1))] .ret)))
def Ry : List RR := [(.c1 p5)]
theorem Ty : FnOk Try.prog p140.ix 11 UR Ry := dU Try.f139 Try.func139
def Mz : RC := (.reg [(.u (.new p6 [(.i .i64 0), (.i .i64 0), (.i .i64 0), (.i .i64 0), (.i .i64 0), (.i .i64 0), (.i .i64 0), (.i .i64 0), (.i .i64 0), (.i .i64 0), (.i .i64 0), (.i .i64 0), (.i .i64 0), (.i .i64 0)])), (.u (.st p6 p8 14))])
theorem DP : aT Try.prog 11 (mG (aN Try.f139) 0) = Mz := by kernel_rfl
def Mh : RC := (.blk 1 (Sr [(L1 p9 p4), (bM p10 p6 14), (.u (.cv (some bD) p9 [p10]))] (.cond bD (Sr [(.u (.st p5 (.k (.b true)) 1))] .ret) .skip)))
theorem DG : aT Try.prog 11 (mA (aN Try.f139) 0) = Mh := by kernel_rfl
def RY : RC := (Sr [(L1 p6 p2), (.u (.bin p7 .shl (K_ 1) p6)), (cD p8 .sub p7 1), (Mv p5 p8)] (.blk 0 (.loop (.seq (Sr [(Mv p9 p5), (cD p10 .geq p9 0)] (.cond p10 .skip (.exit 0))) (.seq (.blk 1 (.seq (.drw [(Mv bG p5), (.u (.cvi bH .u64 bG)), (Cf bN p142 [bH]), (L1 bP p3), (dY bX .eql bN bP), (Mv bS bX), (Gs bS true cH (.mv cH p1)), (Gs bS true cB (.mv cB p5)), (Gs bS true p21 (.ld1 p21 p2)), (Gs bS true p22 (.cf (some p22) p143 [cB, p21])), (Gs bS true p23 (.cv (some p23) cH [p22])), (Gs bS true p24 (.un p24 .not p23)), (Pa p25 bS p24)] [0, 1, 3, 0, 15, 31, 63, 63, 63, 447, 1023, 2047, 4095]) (.cond p25 .ret .skip))) (.reg [(Mv bD p5), (cD bF .sub bD 1), (Mv p5 bF)]))))))
def VE : List RR := []
theorem VT : FnOk Try.prog p141.ix 25 RY VE := dU Try.f140 Try.func140
def UM : RC := (Sr [(.u (.mv p3 (K_ 0)))] (.seq (.cond (.k (.b false)) (Sr [(Mv p4 p1), (.u (.cvi p5 .u32 p4)), (Cf p6 vF [p5]), (Mv p3 p6)] .ret) .skip) (Sr [(Mv p7 p1), (Cf p8 p158 [p7]), (Mv p3 p8)] .ret)))
def Ud : List RR := [(.t p3)]
theorem Vo : FnOk Try.prog p142.ix 8 UM Ud := dU Try.f141 Try.func141
def Ub : RC := (Sr [(.u (.mv p5 (.k .ns)))] (Sr [(.u (.mv p6 (.k .ns)))] (.seq (Sr [(Mv p8 p2), (.u (.mv p9 (K_ 0)))] (.blk 0 (.loop (Sr [(dY p10 .lss p9 p8)] (.seq (.cond p10 .skip (.exit 0)) (.seq (.blk 1 (Sr [(Mv bD p9), (Mv p7 bD)] (Sr [(Mv bF p1), (Mv bG p2), (cD bH .sub bG 1), (Mv bN p7), (dY bP .sub bH bN), (dY bX .shr bF bP), (cD bS .and bX 1), (cD cH .eql bS 1)] (.cond cH (.reg [(Mv cB p6), (Mv p21 p7), (.u (.bsl p22 1 1 [(.i .i64 0)] [(0, (1, p21))])), (.u (.app p23 1 cB p22)), (Mv p6 p23)]) .skip)))) (.reg [(cD p24 .add p9 1), (Mv p9 p24)]))))))) (Sr [(Mv p25 p6), (Mv p5 p25)] .ret))))
def UN : List RR := [(.t p5)]
theorem UB : FnOk Try.prog p143.ix 25 Ub UN := dU Try.f142 Try.func142
def VO : RC := (Sr [(.u (.mv p5 (.k (.b false))))] (Sr [(Mv p6 p1), (Mv p7 p2), (Cf p8 p159 [p6, p7]), (cD p9 .geq p8 0), (Mv p5 p9)] .ret))
def Vz : List RR := [(.t p5)]
theorem MR : FnOk Try.prog p144.ix 9 VO Vz := dU Try.f143 Try.func143
def Uh : RC := (Sr [(.u (.mv p5 (K_ 0))), (.u (.mv p6 (.k (.b false))))] (Sr [(Mv bD p1), (.u (.len bF bD)), (Mv p7 bF)] (Sr [(Mv bG p7), (.u (.mv p8 (K_ 0))), (Mv p9 bG)] (.seq (.blk 0 (.loop (.seq (Sr [(Mv bH p8), (Mv bN p9), (dY bP .lss bH bN)] (.cond bP .skip (.exit 0))) (.blk 1 (Sr [(Mv bX p8), (Mv bS p9), (dY cH .add bX bS), (.u (.cvi cB .u64 cH)), (.u (.bin p21 .shr cB (.k (.i .u64 1)))), (.u (.cvi p22 .i64 p21)), (Mv p10 p22)] (Sr [(Mv p23 p1), (Mv p24 p10), (.u (.ixs p25 1 p23 p24)), (L1 p26 p25), (Mv eB p2), (Cf p28 p160 [p26, eB])] (.cond p28 (.reg [(Mv fA p10), (cD eG .add fA 1), (Mv p8 eG)]) (.reg [(Mv p31 p10), (Mv p9 p31)])))))))) (Sr [(Mv iD p8), (Mv p33 p8), (Mv p34 p7), (dY kH .lss p33 p34), (Mv p36 kH), (Gs p36 true lA (.mv lA p1)), (Gs p36 true nA (.mv nA p8)), (Gs p36 true p39 (.ixs p39 1 lA nA)), (Gs p36 true p40 (.ld1 p40 p39)), (Gs p36 true p41 (.mv p41 p2)), (Gs p36 true pS (.bin pS .eql p40 p41)), (Gs p36 true lT (.mv lT pS)), (Gs lT false p44 (.mv p44 p1)), (Gs lT false sO (.mv sO p8)), (Gs lT false xA (.ixs xA 1 p44 sO)), (Gs lT false p47 (.ld1 p47 xA)), (Gs lT false p48 (.cf (some p48) p161 [p47])), (Gs lT false AZ (.mv AZ p48)), (Gs AZ true uK (.mv uK p2)), (Gs AZ true Bs (.cf (some Bs) p161 [uK])), (Gs lT false Bv (.pick Bv AZ Bs (.k (.b false)))), (Gs p36 true Br (.pick Br lT (.k (.b true)) Bv)), (Pa p54 p36 Br), (Mv p5 iD), (Mv p6 p54)] .ret)))))
def Te : List RR := [(.t p5), (.t p6)]
theorem UE : FnOk Try.prog p145.ix 54 Uh Te := dU Try.f144 Try.func144
def TT : RC := (Sr [(.u (.box p4 p1))] (.seq (.drw [(bM p8 p2 6), (Fd p9 p2 0), (Fd p10 p9 3), (L1 bD p10), (Fd bF p3 0), (L1 bG bF), (.u (.ixs bH 3 bD bG)), (bM bN bH 3), (Cf bP p107 [p8, bN])] [0, 0, 2, 6, 0, 16, 62, 126, 255]) (.blk 0 (.rf bP [bX] 31 (mG (aN Try.f155) 0) (mA (aN Try.f155) 0)))))
def Vf : List RR := []
theorem TY : FnOk Try.prog p156.ix 31 TT Vf := dU Try.f155 Try.func155
def LM : RC := (.reg [(.u (.new p5 [(.i .i64 0), (.i .i64 0), (.i .i64 0)])), (.u (.st p5 bX 3))])
theorem DL : aT Try.prog 31 (mG (aN Try.f155) 0) = LM := by kernel_rfl
def MO : RC := (.blk 1 (Sr [(bM cH p2 6), (bM cB p3 14), (bM p21 p5 3), (Cf p22 p109 [cH, cB, p21]), (Mv bS p22), (.u (.ext p23 bS 0)), (.u (.ext p24 bS 1)), (.u (.new p6 [(.i .i64 0), (.i .i64 0), (.i .i64 0), (.i .i64 0), (.i .i64 0), (.i .i64 0), (.i .i64 0), (.i .i64 0), (.i .i64 0), (.i .i64 0), (.i .i64 0), (.i .i64 0), (.i .i64 0), (.i .i64 0)])), (.u (.st p6 p23 14)), (Mv p7 p24)] (Sr [(Mv p25 p7), (Mv p26 p25), (Gs p26 true eB (.ld1 eB p4)), (Gs p26 true p28 (.ldn p28 p6 14)), (Gs p26 true fA (.cv (some fA) eB [p28])), (Gs p26 true eG (.un eG .not fA)), (Pa p31 p26 eG)] (.cond p31 .ret .skip))))
theorem Df : aT Try.prog 31 (mA (aN Try.f155) 0) = MO := by kernel_rfl
def UD : RC := (Sr [(.u (.mv p3 (K_ 0)))] (Sr [(Mv p4 p1), (.u (.bin p5 .shr p4 (.k (.i .u64 1)))), (.u (.bin p6 .and p5 (.k (.i .u64 6148914691236517205)))), (Mv p7 p1), (.u (.bin p8 .and p7 (.k (.i .u64 6148914691236517205)))), (dY p9 .add p6 p8), (Mv p1 p9)] (Sr [(Mv p10 p1), (.u (.bin bD .shr p10 (.k (.i .u64 2)))), (.u (.bin bF .and bD (.k (.i .u64 3689348814741910323)))), (Mv bG p1), (.u (.bin bH .and bG (.k (.i .u64 3689348814741910323)))), (dY bN .add bF bH), (Mv p1 bN)] (Sr [(Mv bP p1), (.u (.bin bX .shr bP (.k (.i .u64 4)))), (Mv bS p1), (dY cH .add bX bS), (.u (.bin cB .and cH (.k (.i .u64 1085102592571150095)))), (Mv p1 cB)] (Sr [(Mv p21 p1), (Mv p22 p1), (.u (.bin p23 .shr p22 (.k (.i .u64 8)))), (dY p24 .add p21 p23), (Mv p1 p24)] (Sr [(Mv p25 p1), (Mv p26 p1), (.u (.bin eB .shr p26 (.k (.i .u64 16)))), (dY p28 .add p25 eB), (Mv p1 p28)] (Sr [(Mv fA p1), (Mv eG p1), (.u (.bin p31 .shr eG (.k (.i .u64 32)))), (dY iD .add fA p31), (Mv p1 iD)] (Sr [(Mv p33 p1), (.u (.cvi p34 .i64 p33)), (cD kH .and p34 127), (Mv p3 kH)] .ret))))))))
def TC : List RR := [(.t p3)]
theorem UY : FnOk Try.prog p158.ix 35 UD TC := dU Try.f157 Try.func157
def Rv : RC := (Sr [(.u (.mv p5 (K_ 0)))] (.seq (Sr [(Mv p7 p1), (.u (.len p8 p7)), (.u (.mv p9 (K_ 0)))] (.blk 0 (.loop (Sr [(dY p10 .lss p9 p8)] (.seq (.cond p10 .skip (.exit 0)) (.seq (.blk 1 (Sr [(Mv bD p9), (Mv p6 bD)] (Sr [(Mv bF p2), (Mv bG p1), (Mv bH p6), (.u (.ixs bN 1 bG bH)), (L1 bP bN), (dY bX .eql bF bP)] (.cond bX (Sr [(Mv bS p6), (Mv p5 bS)] .ret) .skip)))) (.reg [(cD cH .add p9 1), (Mv p9 cH)]))))))) (Sr [(.u (.mv p5 (.k (.i .i64 (-1)))))] .ret)))
def Uv : List RR := [(.t p5)]
theorem Nm : FnOk Try.prog p159.ix 19 Rv Uv := dU Try.f158 Try.func158
def UA : RC := (Sr [(.u (.mv p5 (.k (.b false))))] (Sr [(Mv p6 p1), (Cf p7 p165 [p6]), (Mv p8 p7), (Gs p8 true p9 (.mv p9 p2)), (Gs p8 true p10 (.cf (some p10) p165 [p9])), (Gs p8 true bD (.un bD .not p10)), (Pa bF p8 bD), (Mv bG bF), (Gs bG false bH (.mv bH p1)), (Gs bG false bN (.mv bN p2)), (Gs bG false bP (.bin bP .lss bH bN)), (Po bX bG bP), (Mv p5 bX)] .ret))
def UC : List RR := [(.t p5)]
theorem Un : FnOk Try.prog p160.ix 17 UA UC := dU Try.f159 Try.func159
def VM : RC := (Sr [(.u (.mv p3 (.k (.b false))))] (Sr [(Mv p4 p1), (Mv p5 p1), (dY p6 .neq p4 p5), (Mv p3 p6)] .ret))
def Tt : List RR := [(.t p3)]
theorem Uk : FnOk Try.prog p161.ix 6 VM Tt := dU Try.f160 Try.func160
def Sg : RC := (Sr [(.u (.mv p3 (.k (.b false))))] (Sr [(Mv p4 p1), (Mv p5 p1), (dY p6 .neq p4 p5), (Mv p3 p6)] .ret))
def VA : List RR := [(.t p3)]
theorem SX : FnOk Try.prog p165.ix 6 Sg VA := dU Try.f164 Try.func164
open Go.RowKit (Below Grown)
structure ShrB (B : Pos -> Prop) (z z' : X) : Prop where
 sl : ∀ s d', z'.sl.get s = some d' -> ∃ d, z.sl.get s = some d /\ Fz B z.ob d d'
 ob : ∀ id c', z'.ob.get id = some c' -> B id /\ ∃ c, z.ob.get id = some c /\ ShC B z.ob c c'
 l : z.lg = none
 l' : z'.lg = none
section
variable {P : Program} {nt : Nat}
structure AgainB {σ : Type} (S : σ -> X) (I : σ -> Prop) (μ : σ -> Nat) (s : σ) (z : X) : Prop where
 ok : ∃ s' B, μ s' < μ s /\ I s' /\ (S s).nx.nat <= (S s').nx.nat /\ (∀ id : Pos, id.nat < (S s).nx.nat -> B id) /\ (∀ id : Pos, B id -> id.nat < (S s').nx.nat) /\ ShrB B z (S s')
theorem AgainB.to {σ : Type} {S : σ -> X} {I : σ -> Prop} {μ : σ -> Nat} {s : σ} {z : X} (s' : σ) (B : Pos -> Prop) (h : μ s' < μ s) (i : I s') (n : (S s).nx.nat <= (S s').nx.nat) (b1 : ∀ id : Pos, id.nat < (S s).nx.nat -> B id) (b2 : ∀ id : Pos, B id -> id.nat < (S s').nx.nat) (l : ShrB B z (S s')) : AgainB S I μ s z := ⟨s', B, h, i, n, b1, b2, l⟩
theorem Shr.toB {z z' : X} (h : Shr z z') : ShrB (fun id => id.nat < z'.nx.nat) z z' := ⟨h.sl, h.ob, h.l, h.l'⟩
theorem AgainB.sh {σ : Type} {S : σ -> X} {I : σ -> Prop} {μ : σ -> Nat} {s : σ} {z : X} (s' : σ) (h : μ s' < μ s) (i : I s') (n : (S s).nx.nat <= (S s').nx.nat) (l : Shr z (S s')) : AgainB S I μ s z :=
 ⟨s', _, h, i, n, fun _ h => Nat.lt_of_lt_of_le h n, fun _ h => h, l.toB⟩
end
open Go.RowKit (Below Grown)
section
variable {P : Program} {nt : Nat}
open Classical in
theorem DK {x Z Z' : X} {B : Pos -> Prop} {ro : Option Nat} {so : Pos -> Prop} {γ γ1 : Gh} {a a1 : Act} {w w1 : World} (S : ShrB B Z Z') (hx : ∀ id : Pos, id.nat < x.nx.nat -> B id) (hz : ∀ id : Pos, B id -> id.nat < Z'.nx.nat) (hall : ∀ id, so id) (R : Rep P (gR so) γ a w x) (cst : CSt ro Z.lg γ a w γ1 a1 w1) (rep : Rep P (gR so) γ1 a1 w1 Z) :
 ∃ γ2, CSt ro Z'.lg γ a w γ2 a1 w1 /\ Rep P (gR so) γ2 a1 w1 Z' := by
 have hzero : ∀ id, ¬ B id -> γ.cur id = 0 := fun id hid => R.nx id (hall id) (Nat.not_lt.1 fun h => hid (hx id h))
 let γ2 : Gh := ⟨fun id => if B id then γ1.cur id else 0, γ1.β, fun b => γ1.im b \/ ((∃ id st, ¬ B id /\ st < γ1.cur id /\ (γ1.β id st).1 = b) /\ ∃ vs e fr, w1.heap[b]? = some (.cells vs e fr))⟩
 have c2 : ∀ id, B id -> γ2.cur id = γ1.cur id := fun id hid => by show (if _ then _ else _) = _; rw [if_pos hid]
 have c2' : ∀ id, ¬ B id -> γ2.cur id = 0 := fun id hid => by show (if _ then _ else _) = _; rw [if_neg hid]
 have lt2 : ∀ id st, st < γ2.cur id -> B id /\ st < γ1.cur id := fun id st hst => by
  by_cases hid : B id
  ·rw [c2 id hid] at hst; exact ⟨hid, hst⟩
  ·rw [c2' id hid] at hst; exact absurd hst (Nat.not_lt_zero _)
 have hob1 : ∀ id c, Z.ob.get id = some c -> HoldsO P γ1 w1 id c := fun id c hc => rep.ob id c (hall id) hc
 have fz : ∀ d d', Fz B Z.ob d d' -> ∀ v, DV γ1 w1 d v -> DV γ2 w1 d' v := fun d d' hf =>
  Fz.ok (γ := γ1) (γ' := γ2) (fun b hb => .inl hb) hob1 (fun id hid => ⟨c2 id hid, rfl⟩) (fun id st vs e fr hid hst hc => .inr ⟨⟨id, st, hid, hst, rfl⟩, vs, e, fr, hc⟩) hf
 have F := cst.fr
 have fresh : ∀ id st, ¬ B id -> st < γ1.cur id -> w.heap.size <= (γ1.β id st).1 := fun id st hid hst => by
  rcases F.new id st (by rw [hzero id hid]; exact Nat.zero_le _) hst with h | ⟨kC, h, _⟩
  ·exact h
  ·rw [hzero id hid] at h; exact absurd h (Nat.not_lt_zero _)
 have G2 : G ro γ2 a1 w1 := by
  refine ⟨fun id st hst => cst.g.ob id st (lt2 id st hst).2, fun id st id' st' hst hst' he => cst.g.inj id st id' st' (lt2 id st hst).2 (lt2 id' st' hst').2 he, ?_, cst.g.rd, fun b hb => ?_, cst.g.gl.im fun _ h => .inl h⟩
  ·obtain ⟨ms, d1, d2, d3⟩ := cst.g.df
   exact ⟨ms, d1, d2, fun r hr => ⟨(d3 r hr).1, fun id st hst => (d3 r hr).2 id st (lt2 id st hst).2⟩⟩
  ·rcases hb with hb | ⟨⟨id', st', h1, h2, h3⟩, h4⟩
   ·exact ⟨(cst.g.im b hb).1, fun id st hst => (cst.g.im b hb).2 id st (lt2 id st hst).2⟩
   ·refine ⟨h4, fun id st hst e => ?_⟩
    obtain ⟨k1, k2⟩ := lt2 id st hst
    have e : (γ1.β id st).1 = b := e
    obtain ⟨rfl, _⟩ := cst.g.inj id st id' st' k2 h2 (e.trans h3.symm)
    exact h1 k1
 have hw : ∀ {id : Pos}, wrtn Z'.lg id := fun {id} => by rw [S.l']; trivial
 have hwZ : ∀ {id : Pos}, wrtn Z.lg id := fun {id} => by rw [S.l]; trivial
 refine ⟨γ2, ⟨G2, ⟨⟨fun id => ?_, fun id st hst => F.up.β id st hst, F.up.sh, fun b hb => ⟨.inl (F.up.im b hb).1, (F.up.im b hb).2⟩⟩, fun id hn => absurd hw hn, fun b hb hn => F.blk b hb fun id st _ hst => hn id st hw hst, fun id st h1 h2 => F.new id st h1 (lt2 id st h2).2, fun b hb hlt => ?_, F.lp, F.size, F.os, F.tape, F.output, F.fz⟩, cst.sz, cst.dn⟩,
  ⟨fun s d' _ hd => ?_, fun id c' _ hc => ?_, fun id _ hle => c2' id (fun hb => by have := hz id hb; omega), cst.g.gl.im fun _ h => .inl h⟩⟩
 ·by_cases hid : B id
  ·rw [c2 id hid]; exact F.up.cur id
  ·rw [hzero id hid]; exact Nat.zero_le _
 ·rcases hb with hb | ⟨⟨id', st', h1, h2, h3⟩, h4⟩
  ·exact F.imn b hb hlt
  ·have := fresh id' st' h1 h2
   omega
 ·obtain ⟨d, h1, h2⟩ := S.sl s d' hd
  obtain ⟨h3, h4⟩ := rep.sl s d trivial h1
  exact ⟨h3, fz d d' h2 _ h4⟩
 ·obtain ⟨hid, c, h1, h2⟩ := S.ob id c' hc
  have H := hob1 id c h1
  cases h2 with
  | cells hcc =>
    obtain ⟨q0, q1, q2⟩ := H
    refine ⟨q0, (c2 id hid).trans q1, fun st hst => ?_⟩
    obtain ⟨vs, e, fr, q3, q4, q5⟩ := q2 st hst
    refine ⟨vs, e, fr, q3, q4, fun p c' hp hh hd => ?_⟩
    obtain ⟨c, k1, k2, k3⟩ := hcc p c' hp
    obtain ⟨u, k4, k5, k6⟩ := q5 p c k1 (k2 st hh) hd
    exact ⟨u, k4, fz _ _ k3 u k5, k6⟩
  | map hl hm =>
    obtain ⟨q1, en, cl, q2, q3, q4⟩ := H
    refine ⟨(c2 id hid).trans q1, en, cl, q2, by rw [<- hl]; exact q3, fun i e' f he' hf => ?_⟩
    rename_i es es'
    have hi : i < es.length := by rw [hl]; exact (List.getElem?_eq_some_iff.1 he').1
    obtain ⟨k1, k2⟩ := hm i _ e' (List.getElem?_eq_getElem hi) he'
    obtain ⟨k3, k4⟩ := q4 i _ f (List.getElem?_eq_getElem hi) hf
    exact ⟨fz _ _ k1 _ k3, fz _ _ k2 _ k4⟩
  | lp hsl =>
    obtain ⟨q1, l, q2, q3, q4, q5, q6⟩ := H
    refine ⟨(c2 id hid).trans q1, l, q2, q3, q4, fun s d' hs => ?_, q6⟩
    obtain ⟨d, k1, k2⟩ := hsl s d' hs
    exact ⟨(q5 s d k1).1, fz _ _ k2 _ (q5 s d k1).2⟩
  | hole => exact (c2 id hid).trans H
theorem NS : ∀ c : Code, ∃ c', aT P nt c' = aT P nt c /\ (∀ d, c' ≠ .scope d) /\ ∀ {F : Fence} {n : Nat} {Q : Exit -> Act -> World -> Prop} {a : Act} {w : World}, ∃ Q' : Exit -> Act -> World -> Prop, (∀ (e : Ex) a w, Q e.to a w -> Q' e.to a w) /\ (c'.wpIn F n P Q' a w -> c.wpIn F n P Q a w)
 | .scope c => let ⟨c', h1, h2, h3⟩ := NS c; ⟨c', h1, h2, fun {F n Q a w} => by
   obtain ⟨Q', k1, k2⟩ := h3 (F := F) (n := n) (Q := Exit.noGoto Q) (a := a) (w := w)
   exact ⟨Q', fun e a w h => k1 e a w (by cases e <;> exact h), fun h => hH (k2 h)⟩⟩
 | .skip => ⟨.skip, rfl, (fun _ h => by cases h), fun {F n Q a w} => ⟨Q, fun _ _ _ h => h, fun h => h⟩⟩
 | .label l => ⟨.label l, rfl, (fun _ h => by cases h), fun {F n Q a w} => ⟨Q, fun _ _ _ h => h, fun h => h⟩⟩
 | .ret => ⟨.ret, rfl, (fun _ h => by cases h), fun {F n Q a w} => ⟨Q, fun _ _ _ h => h, fun h => h⟩⟩
 | .exit i => ⟨.exit i, rfl, (fun _ h => by cases h), fun {F n Q a w} => ⟨Q, fun _ _ _ h => h, fun h => h⟩⟩
 | .region i o d => ⟨.region i o d, rfl, (fun _ h => by cases h), fun {F n Q a w} => ⟨Q, fun _ _ _ h => h, fun h => h⟩⟩
 | .seq a b => ⟨.seq a b, rfl, (fun _ h => by cases h), fun {F n Q a w} => ⟨Q, fun _ _ _ h => h, fun h => h⟩⟩
 | .cond c a b => ⟨.cond c a b, rfl, (fun _ h => by cases h), fun {F n Q a w} => ⟨Q, fun _ _ _ h => h, fun h => h⟩⟩
 | .block i a => ⟨.block i a, rfl, (fun _ h => by cases h), fun {F n Q a w} => ⟨Q, fun _ _ _ h => h, fun h => h⟩⟩
 | .loop a => ⟨.loop a, rfl, (fun _ h => by cases h), fun {F n Q a w} => ⟨Q, fun _ _ _ h => h, fun h => h⟩⟩
 | .rangeFunc f p a b => ⟨.rangeFunc f p a b, rfl, (fun _ h => by cases h), fun {F n Q a w} => ⟨Q, fun _ _ _ h => h, fun h => h⟩⟩
 | .goto l => ⟨.goto l, rfl, (fun _ h => by cases h), fun {F n Q a w} => ⟨Q, fun _ _ _ h => h, fun h => h⟩⟩
 | .refuse s => ⟨.refuse s, rfl, (fun _ h => by cases h), fun {F n Q a w} => ⟨Q, fun _ _ _ h => h, fun h => h⟩⟩
structure SeqZ (P : Program) (nt : Nat) (c : RC) (x : X) (K : Ex -> X -> Prop) (e : Ex) (z : X) : Prop where
 ok : e = .normal /\ ∃ z' B, ShrB B z z' /\ (∀ id : Pos, id.nat < x.nx.nat -> B id) /\ (∀ id : Pos, B id -> id.nat < z'.nx.nat) /\ x.nx.nat <= z'.nx.nat /\ Rn P nt c z' K
end
theorem WB.decT {p : Prop} [Decidable p] {F : Bool -> Prop} (h : p) (k : F true) : WB (decide p) F := WB.of (by rw [decide_eq_true h]; exact k)
theorem WB.decF {p : Prop} [Decidable p] {F : Bool -> Prop} (h : ¬ p) (k : F false) : WB (decide p) F := WB.of (by rw [decide_eq_false h]; exact k)
theorem WB.ndT {p : Prop} [Decidable p] {F : Bool -> Prop} (h : p) (k : F false) : WB (!decide p) F := WB.of (by rw [decide_eq_true h]; exact k)
theorem WB.ndF {p : Prop} [Decidable p] {F : Bool -> Prop} (h : ¬ p) (k : F true) : WB (!decide p) F := WB.of (by rw [decide_eq_false h]; exact k)
theorem WB.nt {F : Bool -> Prop} (k : F false) : WB (!true) F := WB.of k
theorem WB.nf {F : Bool -> Prop} (k : F true) : WB (!false) F := WB.of k
theorem WB.at' {b c : Bool} {F : Bool -> Prop} (h : b = c) (k : F c) : WB b F := WB.of (by rw [h]; exact k)
theorem Qm {p : Prop} [Decidable p] {F : Bool -> Prop} (k : F true) (h : p := by first | rfl | assumption | omega | exact ⟨rfl, rfl⟩) : WB (decide p) F := WB.decT h k
theorem Qn {p : Prop} [Decidable p] {F : Bool -> Prop} (k : F false) (h : ¬ p := by first | assumption | omega) : WB (decide p) F := WB.decF h k
theorem Qo {p : Prop} [Decidable p] {F : Bool -> Prop} (k : F false) (h : p := by first | rfl | assumption | omega | exact ⟨rfl, rfl⟩) : WB (!decide p) F := WB.ndT h k
theorem Qp {p : Prop} [Decidable p] {F : Bool -> Prop} (k : F true) (h : ¬ p := by first | assumption | omega) : WB (!decide p) F := WB.ndF h k
theorem Qy {p q : Prop} (k : q) (h : q -> p := by with_reducible (first | exact WB.decT (by first | rfl | assumption | omega | exact ⟨rfl, rfl⟩) | exact WB.decF (by first | assumption | omega) | exact WB.ndT (by first | rfl | assumption | omega | exact ⟨rfl, rfl⟩) | exact WB.ndF (by first | assumption | omega) | exact WB.nt | exact WB.nf)) : p := h k
theorem Qw {p q : Prop} (k : q) (h : q -> p := by first | with_reducible (first | exact WB.tt | exact WB.ff) | exact Qa rfl | exact Rn.cond rfl | exact Yy (by omega) (by omega) | exact YF (by omega) | exact WIx.intsN (by omega) | exact WIx.rowsN (by omega) | with_reducible (first | exact WB.decT (by first | rfl | assumption | omega | exact ⟨rfl, rfl⟩) | exact WB.decF (by first | assumption | omega) | exact WB.ndT (by first | rfl | assumption | omega | exact ⟨rfl, rfl⟩) | exact WB.ndF (by first | assumption | omega) | exact WB.nt | exact WB.nf)) : p := h k
theorem Qd {b : Bool} {F : Bool -> Prop} {p n : Prop} (k1 : p -> F true) (k0 : n -> F false) (h : (p -> F true) -> (n -> F false) -> WB b F := by first | with_reducible (first | exact fun a b => WB.dec a b | exact fun a b => WB.ndec a b) | exact fun a b => WB.mk a b) : WB b F := h k1 k0
theorem Qv {p q : Prop} (k : q) (h : q -> p := by first | exact WB.tt | exact WB.ff) : p := h k
open Go.RowKit (Below Grown)
section
variable {ob : T C}
end
section
variable {P : Program} {FP : T RF}
end
set_option maxRecDepth 100000
theorem vZ {p : Nat -> Bool} {j : Nat} (h : (List.range j).all p = true) (k : p j = true) : (List.range (j + 1)).all p = true := by
 rw [List.range_succ, List.all_append, h]; simp [k]
theorem uJ {p : Nat -> Bool} {j n : Nat} (h : j < n) (k : p j = false) : (List.range n).all p = false := by
 rw [List.all_eq_false]
 exact ⟨j, List.mem_range.2 h, by rw [k]; simp⟩
theorem Jx (l : List Int) : ∀ r ∈ ints l, r.length = 1 := fun r hr => by
 obtain ⟨n, _, rfl⟩ := List.mem_map.1 hr
 rfl
theorem WSt.ixaN {sl : T D} {ob : T C} {nx : Pos} {lg : Option (T Bool)} {K : X -> Prop} {d id : Pos} {len z off st m : Nat} {k : IntKind} {x i : RX} {n : Int} (hx : bE sl x = some (.pt id off st)) (hi : bE sl i = some (.i k n)) (hn : n = (m : Int)) (hm : m < len) (h : dJ sl ob nx lg d K (.pt id (off + m * z) st)) : WSt (.ixa d len z x i) ⟨sl, ob, nx, lg⟩ K := by
 obtain ⟨h2, h3⟩ := aV h
 refine ⟨_, ?_, h3⟩
 show zT d len z x i sl ob nx lg = _
 unfold zT
 rw [hx, hi, hn]
 have e : HA (m : Int) len = some m := by
  show (bif Nat.blt m len then some m else none) = _
  rw [show Nat.blt m len = true from Nat.ble_eq_true_of_le hm]
  rfl
 simp only [e, bO]
 exact h2
theorem Frz.ptr {ob : T C} {id : Pos} {st : Nat} {cs : List Cell} {cur : Nat} {r : List D} (h : ob.get id = some (.cells false cs cur)) (hc : cs = r.map fun d => Cell.o d st) (h0 : 0 < r.length) (hp : aO r) : Frz ob (.pt id 0 st) (.pl r 0) := by
 subst hc
 refine .pt (fun h => h) h h0 (fun k d hk => ⟨.o d st, ?_, ?_, rfl⟩) (FzL.of hp)
 ·rw [List.drop_zero, List.getElem?_map, hk]; rfl
 ·show Nat.ble st st = true
  exact Nat.ble_eq_true_of_le (Nat.le_refl _)
theorem T.le_ee {α : Type} {l r : T α} (hl : T.le l .e) (hr : T.le r .e) : T.le (.n l none r) .e := fun p x h => by
 cases p with
 | h => rw [T.get_h] at h; cases h
 | o p => exact absurd (hl p x h) (by rw [T.get_e]; exact fun h => by cases h)
 | i p => exact absurd (hr p x h) (by rw [T.get_e]; exact fun h => by cases h)
theorem KpO.le {n : Nat} {a b : T C} (h : T.le a b) (k : KpO n b) : KpO n a := fun id c hc => k id c (h id c hc)
theorem PQ {n : Nat} {d : D} {r : Bool} {k m : Nat} (h : Kp n d) : KpC n (.cells r [.o d k] m) := by
 refine KpL.all ?_
 simp [KpL, Cell.d, h]
theorem ShrB.of {B : Pos -> Prop} {z z' : X} (hs : Rel (RS B z.ob) (fun p => p) z'.sl z.sl) (ho : Rel (fun id c c' => B id /\ ShC B z.ob c c') (fun p => p) z'.ob z.ob) (l : z.lg = none) (l' : z'.lg = none) : ShrB B z z' :=
 ⟨fun s d' h => hs s d' h, fun id c' h => by
  obtain ⟨c, h1, h2, h3⟩ := ho id c' h
  exact ⟨h2, c, h1, h3⟩, l, l'⟩
theorem Rel.ee {α : Type} {R : Pos -> α -> α -> Prop} {g : Pos -> Pos} {l r : T α} (hl : Rel R (fun p => g (.o p)) l .e) (hr : Rel R (fun p => g (.i p)) r .e) : Rel R g (.n l Option.none r) .e := fun p x h => by
 cases p with
 | h => rw [T.get_h] at h; cases h
 | o p => obtain ⟨y, h1, _⟩ := hl p x h; rw [T.get_e] at h1; cases h1
 | i p => obtain ⟨y, h1, _⟩ := hr p x h; rw [T.get_e] at h1; cases h1
theorem Fz.grown {B : Pos -> Prop} {ob : T C} {id : Pos} {s1 s2 cur n z : Nat} {ds r : List D} {cs : List Cell} {es : List (List D)} (hB : ¬ B id) (h : ob.get id = some (.cells false cs cur)) (hc : cs = (ds.map fun d => Cell.o d s1) ++ r.map fun d => Cell.o d s2) (hs : s1 <= s2) (he : es.flatten = ds ++ r) (hn : n = es.length) (hz : ∀ x ∈ es, x.length = z) (hp : dE es) : Fz B ob (.sl id 0 n s2 z) (.lst z es) := by
 subst hc
 refine .sl hB h hn.symm hz (fun k d hk => ?_) (FzE.of hp)
 rw [he] at hk
 rw [List.drop_zero]
 by_cases hlt : k < ds.length
 ·rw [List.getElem?_append_left hlt] at hk
  refine ⟨.o d s1, ?_, Nat.ble_eq_true_of_le hs, rfl⟩
  rw [List.getElem?_append_left (by simpa using hlt), List.getElem?_map, hk]; rfl
 ·rw [List.getElem?_append_right (by omega)] at hk
  refine ⟨.o d s2, ?_, Nat.ble_eq_true_of_le (Nat.le_refl _), rfl⟩
  rw [List.getElem?_append_right (by simp; omega), List.length_map, List.getElem?_map, hk]; rfl
theorem yC {β : Type} (new : List D) (k : List Cell -> Option β) : yR 0 1 new 0 [] k = k (new.map fun d => Cell.o d 1) := by
 show tT (Nat.pred 1) (eY (List.length new) []) (fun l => nS (fun d => .o d 1) new l k) = _
 rw [cE, sF, lQ]
 simp
section
variable {sl : T D} {ob : T C} {nx : Pos} {K : X -> Prop}
theorem WSt.eqr2 {lg : Option (T Bool)} {d : Pos} {x y : RX} {a b a' b' : Int} (h1 : bE sl x = some (.ag [.i .i64 a, .i .i64 b])) (h2 : bE sl y = some (.ag [.i .i64 a', .i .i64 b'])) (w1 : sK .i64 a = true) (w2 : sK .i64 b = true) (w3 : sK .i64 a' = true) (w4 : sK .i64 b' = true) (k : dJ sl ob nx lg d K (.b (decide (a = a' /\ b = b')))) :
 WSt (.eqr d false [.i .i64, .i .i64] x y) ⟨sl, ob, nx, lg⟩ K := by
 obtain ⟨k1, k2⟩ := aV k
 refine ⟨_, ?_, k2⟩
 show tY _ _ _ x y sl ob nx lg = _
 unfold tY
 rw [h1, h2]
 have e : Bu [.i .i64, .i .i64] (.ag [.i .i64 a, .i .i64 b]) (.ag [.i .i64 a', .i .i64 b']) = some (decide (a = a' /\ b = b')) := by
  have hk : xH .i64 .i64 = true := rfl
  simp only [Bu, FG, Rq, hk, w1, w2, w3, w4, Bool.and_self, cond_true, Option.some.injEq]
  simp only [kV, Bool.decide_and]
  have hb : ∀ a b : Int, (a == b) = decide (a = b) := fun a b => by by_cases h : a = b <;> simp [h]
  simp only [hb, Bool.and_true]
 simp only [e, cond_false, bZ]
 exact k1
end
theorem cJ {n : Int} (h1 : -1000000000000000000 <= n) (h2 : n <= 1000000000000000000) : sK .i64 n = true := by
 cases n with
 | ofNat m =>
   have h2 : (m : Int) <= 1000000000000000000 := h2
   exact Nat.ble_eq_true_of_le (by simp only [iK]; omega)
 | negSucc m =>
   have h1 : -1000000000000000000 <= Int.negSucc m := h1
   show (IntKind.signed .i64 && Nat.ble m (iK .i64)) = true
   rw [show IntKind.signed .i64 = true from rfl, Bool.true_and]
   exact Nat.ble_eq_true_of_le (by simp only [iK]; omega)
theorem tX : ∀ {L : List Int} {a : Int}, L.foldl min a = a \/ L.foldl min a ∈ L
 | [], a => .inl rfl
 | b :: L, a => by
   show List.foldl min (min a b) L = a \/ _
   rcases tX (L := L) (a := min a b) with h | h
   ·have : min a b = a \/ min a b = b := by omega
    rcases this with e | e
    ·exact .inl (by rw [h, e])
    ·exact .inr (by show List.foldl min (min a b) L ∈ _; rw [h, e]; simp)
   ·exact .inr (List.mem_cons_of_mem _ h)
theorem tJ : ∀ {L : List Int} {a : Int}, L.foldl max a = a \/ L.foldl max a ∈ L
 | [], a => .inl rfl
 | b :: L, a => by
   show List.foldl max (max a b) L = a \/ _
   rcases tJ (L := L) (a := max a b) with h | h
   ·have : max a b = a \/ max a b = b := by omega
    rcases this with e | e
    ·exact .inl (by rw [h, e])
    ·exact .inr (by show List.foldl max (max a b) L ∈ _; rw [h, e]; simp)
   ·exact .inr (List.mem_cons_of_mem _ h)
structure FinX (rs : List RR) (Φ : D -> Prop) (e : Ex) (z : X) : Prop where
 ok : ∃ v, Φ v /\ Fin rs v e z
theorem PureF.runE {P : Program} {f nt : Nat} {rc : RC} {rs : List RR} {ds : List D} {Φ : D -> Prop} (F : FnOk P f nt rc rs) (hlen : ds.length <= nt) (hp : aO ds) (h : tR ds .h .e fun sl => Rn P nt rc ⟨sl, .e, .h, none⟩ (FinX rs Φ)) : ∃ v, Φ v /\ PureF P f ds v := by
 obtain ⟨fn, c, hf, hb, hc, hr, hname, h6⟩ := F.ok
 subst h6
 obtain ⟨sl0, h, hsl⟩ := rU h
 obtain ⟨e, ⟨sl, ob1, nx1, lg1⟩, X1, FE⟩ := h.ok c hc
 obtain ⟨v, hΦ, F⟩ := FE.ok
 obtain ⟨u, h1, h2⟩ := F.hr
 obtain ⟨v', ob', nx', lg', h3, C⟩ := oX (k := fun v ob nx lg => some ⟨T.set .h v .e, ob, nx, lg⟩) hf hb hr hname hlen hsl F.he X1 h1
 have h3 := Option.some.inj h3
 have e1 := congrArg (fun t => T.get t .h) (X.mk.inj h3).1
 simp only [T.get_set_same, Option.some.injEq] at e1
 have e2 := (X.mk.inj h3).2.1
 have e3 : ob' = ob1 := e2
 subst e1
 subst e3
 exact ⟨v, hΦ, C.shut hp h2⟩
theorem pre6 {l : List Int} (h : 6 < l.length) : ∃ a0 a1 a2 a3 a4 a5 a6 r, l = a0 :: a1 :: a2 :: a3 :: a4 :: a5 :: a6 :: r := by
 match l, h with
 | a0 :: a1 :: a2 :: a3 :: a4 :: a5 :: a6 :: r, _ => exact ⟨a0, a1, a2, a3, a4, a5, a6, r, rfl⟩
theorem Lw {α : Type} {a b : T α} (h : T.le a b := by repeat' first | exact T.le_e _ | exact T.le_refl _ | refine T.le_some ?_ rfl ?_ | refine T.le_none ?_ ?_ | refine T.le_ee ?_ ?_) : T.le a b := h
end Go.Ev
end
