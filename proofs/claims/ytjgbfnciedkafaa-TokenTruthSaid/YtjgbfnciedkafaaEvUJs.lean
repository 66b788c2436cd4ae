import Derived.Test.YtjgbfnciedkafaaEvUJ1
import Derived.Test.YtjgbfnciedkafaaEvUIt
import Derived.Test.YtjgbfnciedkafaaEvURn
set_option linter.all false
set_option maxHeartbeats 8000000
noncomputable section
namespace Go.Ev
open Go.Proofs
set_option maxRecDepth 1000000
def p118 : Pos := .o p59
def p119 : Pos := .i p59
def p120 : Pos := .o p60
def p121 : Pos := .i p60
def p122 : Pos := .o Dp
def p123 : Pos := .i Dp
def p124 : Pos := .o DZ
def p125 : Pos := .i DZ
def p136 : Pos := .o JN
def p137 : Pos := .i JN
def p138 : Pos := .o IG
def p139 : Pos := .i IG
def p140 : Pos := .o p70
def p141 : Pos := .i p70
def p142 : Pos := .o En
def p143 : Pos := .i En
def p144 : Pos := .o JT
def p145 : Pos := .i JT
def p156 : Pos := .o p78
def vO : Pos := .i p78
def p158 : Pos := .o p79
def p159 : Pos := .i p79
def p160 : Pos := .o p80
def p161 : Pos := .i p80
def p165 : Pos := .i p82
def XP : RC := (Sr [(.u (.box p3 p1)), (.u (.mv p5 (.k .ns))), (.u (.mv p6 (.k .ns))), (.u (.mv p7 (K_ 0)))] (.seq (.drw [(bM p10 p3 5), (Mv bD p2), (Fd bF p3 3), (L1 bH bF), (.u (.len bG bH)), (Cf bN p86 [bD, bG]), (Cf bO p85 [p10, bN]), (Mv p9 bO), (.u (.ext bX p9 0)), (.u (.ext bR p9 1)), (.u (.new p8 [(.i .i64 0), (.i .i64 0), (.i .i64 0), .ns, .ns, .nm])), (.u (.st p8 bX 6)), (Mv p7 bR)] [0, 0, 0, 4, 12, 30, 63, 127, 255, 255, 0, 1535, 4095]) (.seq (Sr [(Mv cH p7), (cB cD .neq cH 0)] (.cond cD (Sr [(Mv p21 p7), (.u (.mv p5 (.k .ns))), (.u (.mv p6 (.k .ns))), (Mv p7 p21)] .ret) .skip)) (.seq (.drw [(bM p22 p8 6), (Mv p23 p2), (Cf p24 p87 [p22, p23, (K_ 0)]), (bM p25 p8 6), (Mv p26 p2), (Cf eE p87 [p25, p26, (K_ 4)]), (Mv p5 p24), (Mv p6 eE), (.u (.mv p7 (K_ 0)))] [0, 0, 3, 0, 0, 31, 63, 127, 255]) .ret))))
def YR : List RR := [(.t p5), (.t p6), (.t p7)]
theorem SH : FnOk Try.prog p34.ix 27 XP YR := dU Try.f33 Try.func33
def Yx : RC := (Sr [(.u (.box p3 p1)), (.u (.new p5 [(.i .i64 0), (.i .i64 0)])), (.u (.mv p6 (K_ 0)))] (.seq (.drw [(bM p10 p3 5), (Mv bD p2), (Fd bF p3 3), (L1 bH bF), (.u (.len bG bH)), (Cf bN p86 [bD, bG]), (Cf bO p85 [p10, bN]), (Mv p9 bO), (.u (.ext bX p9 0)), (.u (.ext bR p9 1)), (.u (.new p7 [(.i .i64 0), (.i .i64 0), (.i .i64 0), .ns, .ns, .nm])), (.u (.st p7 bX 6)), (Mv p8 bR)] [0, 0, 0, 4, 12, 30, 63, 127, 255, 255, 0, 1535, 4095]) (.seq (Sr [(Mv cH p8), (cB cD .neq cH 0)] (.cond cD (Sr [(.u (.bld p21 [(.i .i64 0), (.i .i64 0)] [])), (Mv p22 p8), (.u (.st p5 p21 2)), (Mv p6 p22)] .ret) .skip)) (Sr [(bM p23 p7 6), (Mv p24 p2), (.u (.bld p25 [(.i .i64 0), .nf] [(0, (1, p24)), (1, (1, (.k (.fn p77 [] []))))])), (Cf p26 p89 [p23, p25]), (.u (.st p5 p26 2)), (.u (.mv p6 (K_ 0)))] .ret))))
def Yu : List RR := [(.cn p5 2), (.t p6)]
theorem SZ : FnOk Try.prog p39.ix 26 Yx Yu := dU Try.f38 Try.func38
def XM : RC := (Sr [(.u (.box p2 p1)), (.u (.new p3 [(.i .i64 0), (.i .i64 0)])), (.u (.mv p4 (K_ 0)))] (Sr [(bM p8 p2 5), (Cf p9 p85 [p8, (.k (.b true))]), (Mv p7 p9), (.u (.ext p10 p7 0)), (.u (.ext bD p7 1)), (.u (.new p5 [(.i .i64 0), (.i .i64 0), (.i .i64 0), .ns, .ns, .nm])), (.u (.st p5 p10 6)), (Mv p6 bD)] (.seq (Sr [(Mv bF p6), (cB bH .neq bF 0)] (.cond bH (Sr [(.u (.bld bG [(.i .i64 0), (.i .i64 0)] [])), (Mv bN p6), (.u (.st p3 bG 2)), (Mv p4 bN)] .ret) .skip)) (Sr [(bM bO p5 6), (Fd bX p2 3), (L1 bR bX), (.u (.len cH bR)), (.u (.bld cD [(.i .i64 0), .nf] [(0, (1, cH)), (1, (1, (.k (.fn p78 [] []))))])), (Cf p21 p89 [bO, cD]), (.u (.st p3 p21 2)), (.u (.mv p4 (K_ 0)))] .ret))))
def Xm : List RR := [(.cn p3 2), (.t p4)]
theorem Sg : FnOk Try.prog p40.ix 21 XM Xm := dU Try.f39 Try.func39
def Xx : RC := (Sr [(.u (.box p3 p1)), (.u (.mv p5 (.k .ns))), (.u (.mv p6 (K_ 0)))] (.seq (.drw [(bM p10 p3 5), (Mv bD p2), (Fd bF p3 3), (L1 bH bF), (.u (.len bG bH)), (cB bN .sub bG 1), (Cf bO p86 [bD, bN]), (Cf bX p85 [p10, bO]), (Mv p9 bX), (.u (.ext bR p9 0)), (.u (.ext cH p9 1)), (.u (.new p7 [(.i .i64 0), (.i .i64 0), (.i .i64 0), .ns, .ns, .nm])), (.u (.st p7 bR 6)), (Mv p8 cH)] [0, 0, 0, 4, 12, 28, 62, 127, 255, 511, 511, 0, 3071, 8191]) (.seq (Sr [(Mv cD p8), (cB p21 .neq cD 0)] (.cond p21 (Sr [(Mv p22 p8), (.u (.mv p5 (.k .ns))), (Mv p6 p22)] .ret) .skip)) (Sr [(bM p23 p7 6), (Mv p24 p2), (Cf p25 p92 [p23, p24]), (Mv p5 p25), (.u (.mv p6 (K_ 0)))] .ret))))
def XD : List RR := [(.t p5), (.t p6)]
theorem SD : FnOk Try.prog p44.ix 25 Xx XD := dU Try.f43 Try.func43
def YU : RC := (Sr [(.u (.box p2 p1)), (.u (.mv p3 (K_ 0))), (.u (.mv p4 (K_ 0)))] (.seq (Sr [(bM p8 p2 5), (Cf p9 p28 [p8]), (Mv p5 p9)] (Sr [(Mv p10 p5), (cB bD .neq p10 0)] (.cond bD (Sr [(Mv bF p5), (.u (.mv p3 (K_ 0))), (Mv p4 bF)] .ret) .skip))) (Sr [(Fd bH p2 3), (L1 bG bH), (Mv p6 bG)] (Sr [(Fd bN p2 4), (.u (.st bN (.k .ns) 1))] (.seq (Sr [(Mv bO p6), (.u (.len bX bO)), (.u (.mv bR (K_ 0)))] (.blk 0 (.loop (Sr [(dX cH .lss bR bX)] (.seq (.cond cH .skip (.exit 0)) (.seq (.blk 1 (Sr [(Mv cD bR), (Mv p7 cD)] (Sr [(Mv p21 p6), (Mv p22 p7), (cB p23 .add p22 1), (.u (.slc p24 3 p21 none (some p23) none)), (Fd p25 p2 3), (.u (.st p25 p24 1))] (Sr [(bM p26 p2 5), (Cf eE p75 [p26]), (Cf p28 p94 [eE]), (.u (.un fB .not p28))] (.cond fB (Sr [(Mv eH p7), (Mv p3 eH), (.u (.mv p4 (K_ 0)))] .ret) .skip))))) (.reg [(cB p31 .add bR 1), (Mv bR p31)]))))))) (Sr [(.u (.mv p3 (K_ 0))), (.u (.mv p4 (K_ 7)))] .ret))))))
def Yw : List RR := [(.t p3), (.t p4)]
theorem XO : FnOk Try.prog p47.ix 31 YU Yw := dU Try.f46 Try.func46
def Xu : RC := (Sr [(.u (.box p2 p1)), (.u (.mv p3 (.k .ns))), (.u (.mv p4 (K_ 0)))] (.seq (Sr [(bM p8 p2 5), (Cf p9 p28 [p8]), (Mv p5 p9)] (Sr [(Mv p10 p5), (cB bD .neq p10 0)] (.cond bD (Sr [(Mv bF p5), (.u (.mv p3 (.k .ns))), (Mv p4 bF)] .ret) .skip))) (Sr [(bM bG p2 5), (Cf bN p75 [bG]), (Cf bO p95 [bN]), (Mv bH bO), (.u (.ext bX bH 0)), (.u (.ext bR bH 1)), (Mv p6 bX), (Mv p7 bR)] (.seq (Sr [(Mv cH p7), (.u (.un cD .not cH))] (.cond cD (Sr [(.u (.mv p3 (.k .ns))), (.u (.mv p4 (K_ 10)))] .ret) .skip)) (Sr [(Mv p21 p6), (Mv p3 p21), (.u (.mv p4 (K_ 0)))] .ret)))))
def Yb : List RR := [(.t p3), (.t p4)]
theorem YT : FnOk Try.prog p48.ix 21 Xu Yb := dU Try.f47 Try.func47
def Yp : RC := (Sr [(.u (.box p3 p1)), (.u (.new p5 [(.i .i64 0), (.i .i64 0), (.i .i64 0), .ns, .ns, .nm])), (.u (.mv p6 (K_ 0)))] (.seq (Sr [(bM p9 p3 5), (Cf p10 p28 [p9]), (Mv p7 p10)] (Sr [(Mv bD p7), (cB bF .neq bD 0)] (.cond bF (Sr [(.u (.bld bH [(.i .i64 0), (.i .i64 0), (.i .i64 0), .ns, .ns, .nm] [])), (Mv bG p7), (.u (.st p5 bH 6)), (Mv p6 bG)] .ret) .skip))) (.seq (Sr [(Mv bN p2), (.u (.un bO .not bN))] (.cond bO (Sr [(.u (.bld bX [(.i .i64 0), (.i .i64 0), (.i .i64 0), .ns, .ns, .nm] [])), (.u (.st p5 bX 6)), (.u (.mv p6 (K_ 2)))] .ret) .skip)) (Sr [(bM bR p3 5), (Cf cH p75 [bR]), (.u (.new p8 [(.i .i64 0), (.i .i64 0), (.i .i64 0), .ns, .ns, .nm])), (.u (.st p8 cH 6))] (.seq (Sr [(bM cD p8 6), (Cf p21 p94 [cD]), (.u (.un p22 .not p21))] (.cond p22 (Sr [(.u (.bld p23 [(.i .i64 0), (.i .i64 0), (.i .i64 0), .ns, .ns, .nm] [])), (.u (.st p5 p23 6)), (.u (.mv p6 (K_ 11)))] .ret) .skip)) (Sr [(bM p24 p8 6), (.u (.st p5 p24 6)), (.u (.mv p6 (K_ 0)))] .ret))))))
def YC : List RR := [(.cn p5 6), (.t p6)]
theorem MP : FnOk Try.prog p85.ix 24 Yp YC := dU Try.f84 Try.func84
def Ya : RC := (Sr [(.u (.box p4 p1)), (.u (.mv p7 (.k .ns)))] (Sr [(.u (.mv p8 (.k .ns)))] (.seq (Sr [(Fd bD p4 0), (Fd bF bD 0), (L1 bH bF), (.u (.mv bG (K_ 0)))] (.blk 0 (.loop (Sr [(dX bN .lss bG bH)] (.seq (.cond bN .skip (.exit 0)) (.seq (.blk 1 (Sr [(Mv bO bG), (Mv p9 bO)] (Sr [(Mv bX p3), (Mv bR p9), (dX cH .add bX bR), (Mv p10 cH)] (.reg [(Mv cD p8), (bM p21 p4 6), (Mv p22 p2), (Mv p23 p10), (.u (.fnl p24 p119 [p23] [])), (.u (.bld p25 [(.i .i64 0), .nf] [(0, (1, p22)), (1, (1, p24))])), (Cf p26 p89 [p21, p25]), (Cf eE p118 [p26]), (.u (.bsl p28 1 1 [(.i .i64 0)] [(0, (1, eE))])), (.u (.app fB 1 cD p28)), (Mv p8 fB)])))) (.reg [(cB eH .add bG 1), (Mv bG eH)]))))))) (Sr [(Mv p31 p8), (Mv p7 p31)] .ret))))
def XA : List RR := [(.t p7)]
theorem Xg : FnOk Try.prog p87.ix 31 Ya XA := dU Try.f86 Try.func86
def WA : RC := (Sr [(.u (.box p3 p1)), (.u (.box p4 p2)), (.u (.new p5 [(.i .i64 0), (.i .i64 0)]))] (Sr [(.u (.new p6 [.ns]))] (.seq (Sr [(bM p8 p3 6), (Cf p9 p120 [p8])] (.blk 0 (.rf p9 [p10] 28 (mB (aN Try.f88) 0) (mQ (aN Try.f88) 0)))) (.seq (.drw [(L1 p21 p6), (.u (.ixs p22 1 p21 (K_ 0))), (L1 p23 p22), (L1 p24 p6), (Cf p25 p121 [p23, p24]), (L1 p26 p6), (Cf eE p122 [p26]), (.u (.bld p28 [(.i .i64 0), (.i .i64 0)] [(0, (1, p25)), (1, (1, eE))])), (.u (.st p5 p28 2))] [0, 1, 3, 0, 15, 0, 63, 127, 255]) .ret))))
def Wy : List RR := [(.cn p5 2)]
theorem Xh : FnOk Try.prog p89.ix 28 WA Wy := dU Try.f88 Try.func88
def PN : RC := (.reg [(.u (.new p7 [(.i .i64 0), (.i .i64 0), (.i .i64 0), (.i .i64 0), (.i .i64 0), (.i .i64 0), (.i .i64 0), (.i .i64 0), (.i .i64 0), (.i .i64 0), (.i .i64 0), (.i .i64 0), (.i .i64 0), (.i .i64 0), (.i .i64 0), (.i .i64 0), (.i .i64 0), (.i .i64 0), (.i .i64 0), (.i .i64 0), (.i .i64 0), (.i .i64 0), (.i .i64 0), (.i .i64 0), (.i .i64 0), (.i .i64 0), (.i .i64 0), (.i .i64 0), (.i .i64 0), (.i .i64 0), (.i .i64 0), (.i .i64 0), (.i .i64 0), (.i .i64 0), (.i .i64 0), (.i .i64 0), (.i .i64 0), (.i .i64 0), (.i .i64 0), (.i .i64 0), (.i .i64 0), (.i .i64 0), (.i .i64 0), (.i .i64 0), (.i .i64 0), (.i .i64 0), (.i .i64 0), (.i .i64 0), (.i .i64 0), (.i .i64 0), (.i .i64 0), (.i .i64 0), (.i .i64 0), (.i .i64 0), (.i .i64 0), (.i .i64 0), (.i .i64 0), (.i .i64 0), (.i .i64 0), (.i .i64 0), (.i .i64 0), (.i .i64 0), (.i .i64 0), (.i .i64 0), (.i .i64 0), (.i .i64 0), (.i .i64 0), (.i .i64 0), (.i .i64 0), (.i .i64 0), (.i .i64 0), (.i .i64 0), (.i .i64 0), (.i .i64 0), (.i .i64 0), (.i .i64 0), (.i .i64 0), (.i .i64 0), (.i .i64 0), (.i .i64 0), (.i .i64 0), (.i .i64 0), (.i .i64 0), (.i .i64 0), (.i .i64 0), (.i .i64 0), (.i .i64 0), (.i .i64 0), (.i .i64 0), (.i .i64 0), (.i .i64 0), (.i .i64 0), (.i .i64 0), (.i .i64 0), (.i .i64 0), (.i .i64 0), (.i .i64 0), (.i .i64 0), (.i .i64 0), (.i .i64 0), (.i .i64 0), (.i .i64 0), (.i .i64 0), (.i .i64 0), (.i .i64 0), (.i .i64 0), (.i .i64 0), (.i .i64 0), (.i .i64 0), (.i .i64 0), (.i .i64 0), (.i .i64 0), (.i .i64 0), (.i .i64 0), (.i .i64 0), (.i .i64 0), (.i .i64 0), (.i .i64 0), (.i .i64 0), (.i .i64 0), (.i .i64 0), (.i .i64 0), (.i .i64 0), (.i .i64 0), (.i .i64 0), (.i .i64 0)])), (.u (.st p7 p10 126))])
theorem zO : aT Try.prog 28 (mB (aN Try.f88) 0) = PN := by kernel_rfl
def OD : RC := (.blk 1 (.drw [(L1 bD p6), (Fd bF p4 1), (L1 bH bF), (Fd bG p4 0), (L1 bN bG), (.u (.ixa bO 9 14 p7 bN)), (bM bX bO 14), (.u (.cv (some bR) bH [bX])), (.u (.bsl cH 1 1 [(.i .i64 0)] [(0, (1, bR))])), (.u (.app cD 1 bD cH)), (.u (.st p6 cD 1))] [0, 0, 2, 0, 8, 24, 56, 126, 254, 511, 1023]))
theorem zR : aT Try.prog 28 (mQ (aN Try.f88) 0) = OD := by kernel_rfl
def Yd : RC := (Sr [(.u (.box p3 p1)), (.u (.box p4 p2)), (.u (.mv p5 (.k .ns)))] (Sr [(.u (.mkm p10)), (.u (.new p6 [.nm])), (.u (.st p6 p10 1))] (.seq (Sr [(bM bD p3 6), (Cf bF p120 [bD])] (.blk 0 (.rf bF [bH] 36 (mB (aN Try.f91) 0) (mQ (aN Try.f91) 0)))) (Sr [(.u (.new p8 [.ns]))] (.seq (.seq (.drw [(bM cD p3 6), (Fd p21 p3 0), (Fd p22 p21 3), (L1 p23 p22), (L1 p24 p4), (.u (.ixs p25 3 p23 p24)), (bM p26 p25 3), (Cf eE p107 [cD, p26])] [0, 0, 2, 6, 0, 30, 62, 127]) (.blk 2 (.rf eE [p28] 36 (mB (aN Try.f91) 1) (mQ (aN Try.f91) 1)))) (Sr [(L1 p36 p8), (Mv p5 p36)] .ret))))))
def Wz : List RR := [(.t p5)]
theorem WS : FnOk Try.prog p92.ix 36 Yd Wz := dU Try.f91 Try.func91
def PS : RC := (.reg [(.u (.new p7 [(.i .i64 0), (.i .i64 0), (.i .i64 0), (.i .i64 0), (.i .i64 0), (.i .i64 0), (.i .i64 0), (.i .i64 0), (.i .i64 0), (.i .i64 0), (.i .i64 0), (.i .i64 0), (.i .i64 0), (.i .i64 0), (.i .i64 0), (.i .i64 0), (.i .i64 0), (.i .i64 0), (.i .i64 0), (.i .i64 0), (.i .i64 0), (.i .i64 0), (.i .i64 0), (.i .i64 0), (.i .i64 0), (.i .i64 0), (.i .i64 0), (.i .i64 0), (.i .i64 0), (.i .i64 0), (.i .i64 0), (.i .i64 0), (.i .i64 0), (.i .i64 0), (.i .i64 0), (.i .i64 0), (.i .i64 0), (.i .i64 0), (.i .i64 0), (.i .i64 0), (.i .i64 0), (.i .i64 0), (.i .i64 0), (.i .i64 0), (.i .i64 0), (.i .i64 0), (.i .i64 0), (.i .i64 0), (.i .i64 0), (.i .i64 0), (.i .i64 0), (.i .i64 0), (.i .i64 0), (.i .i64 0), (.i .i64 0), (.i .i64 0), (.i .i64 0), (.i .i64 0), (.i .i64 0), (.i .i64 0), (.i .i64 0), (.i .i64 0), (.i .i64 0), (.i .i64 0), (.i .i64 0), (.i .i64 0), (.i .i64 0), (.i .i64 0), (.i .i64 0), (.i .i64 0), (.i .i64 0), (.i .i64 0), (.i .i64 0), (.i .i64 0), (.i .i64 0), (.i .i64 0), (.i .i64 0), (.i .i64 0), (.i .i64 0), (.i .i64 0), (.i .i64 0), (.i .i64 0), (.i .i64 0), (.i .i64 0), (.i .i64 0), (.i .i64 0), (.i .i64 0), (.i .i64 0), (.i .i64 0), (.i .i64 0), (.i .i64 0), (.i .i64 0), (.i .i64 0), (.i .i64 0), (.i .i64 0), (.i .i64 0), (.i .i64 0), (.i .i64 0), (.i .i64 0), (.i .i64 0), (.i .i64 0), (.i .i64 0), (.i .i64 0), (.i .i64 0), (.i .i64 0), (.i .i64 0), (.i .i64 0), (.i .i64 0), (.i .i64 0), (.i .i64 0), (.i .i64 0), (.i .i64 0), (.i .i64 0), (.i .i64 0), (.i .i64 0), (.i .i64 0), (.i .i64 0), (.i .i64 0), (.i .i64 0), (.i .i64 0), (.i .i64 0), (.i .i64 0), (.i .i64 0), (.i .i64 0), (.i .i64 0), (.i .i64 0)])), (.u (.st p7 bH 126))])
theorem FZ : aT Try.prog 36 (mB (aN Try.f91) 0) = PS := by kernel_rfl
def Rc : RC := (.blk 1 (.drw [(L1 bG p6), (L1 bN p4), (cB bO .add bN 1), (.u (.ixa bX 9 14 p7 bO)), (Fd bR bX 11), (bM cH bR 3), (.u (.mup [(.i .i64), (.i .i64), (.i .i64)] bG cH (.k (.b true))))] [0, 0, 2, 6, 14, 30, 63]))
theorem GK : aT Try.prog 36 (mQ (aN Try.f91) 0) = Rc := by kernel_rfl
def Pp : RC := (.reg [(.u (.new p9 [(.i .i64 0), (.i .i64 0), (.i .i64 0)])), (.u (.st p9 p28 3))])
theorem oQ : aT Try.prog 36 (mB (aN Try.f91) 1) = Pp := by kernel_rfl
def OL : RC := (.blk 3 (Sr [(L1 fB p6), (bM eH p9 3), (.u (.lkp p31 (.b false) false [(.i .i64), (.i .i64), (.i .i64)] fB eH))] (.cond p31 (.reg [(L1 hU p8), (bM p33 p9 3), (.u (.bsl p34 3 1 [(.i .i64 0), (.i .i64 0), (.i .i64 0)] [(0, (3, p33))])), (.u (.app kK 3 hU p34)), (.u (.st p8 kK 1))]) .skip)))
theorem pA : aT Try.prog 36 (mQ (aN Try.f91) 1) = OL := by kernel_rfl
def Wp : RC := (Sr [(.u (.box p2 p1)), (.u (.mv p3 (.k (.b false))))] (.seq (.drw [(bM p4 p2 6), (bM p5 p2 6), (Cf p6 p105 [p5]), (Cf p7 p123 [p4, p6]), (Mv p3 p7)] [0, 0, 2, 7, 15]) .ret))
def YJ : List RR := [(.t p3)]
theorem YI : FnOk Try.prog p94.ix 7 Wp YJ := dU Try.f93 Try.func93
def YW : RC := (Sr [(.u (.box p2 p1)), (.u (.new p3 [.ns])), (.u (.new p4 [(.b false)]))] (.seq .skip (.seq (Sr [(Fd p7 p2 0), (Fd p8 p7 3), (L1 p9 p8), (.u (.len p10 p9)), (cB bD .add p10 1), (.u (.mv bF (K_ 0)))] (.blk 0 (.loop (Sr [(dX bH .lss bF bD)] (.seq (.cond bH .skip (.exit 0)) (.seq (.blk 1 (Sr [(Mv bG bF), (Mv p5 bG)] (Sr [(Fd bN p2 0), (Fd bO bN 3), (L1 bX bO), (.u (.len bR bX)), (Mv cH p5), (Cf cD p124 [bR, cH])] (.blk 2 (.rf cD [p21] 30 (mB (aN Try.f94) 0) (mQ (aN Try.f94) 0)))))) (.reg [(cB p28 .add bF 1), (Mv bF p28)]))))))) (.seq (.drw [(L1 fB p3), (L1 eH p4), (.u (.st p3 fB 1)), (.u (.st p4 eH 1))] [0, 0, 1, 7]) .ret))))
def Xd : List RR := [(.c1 p3), (.c1 p4)]
theorem Xt : FnOk Try.prog p95.ix 30 YW Xd := dU Try.f94 Try.func94
def OC : RC := (.reg [(Mv p6 p21)])
theorem Gb : aT Try.prog 30 (mB (aN Try.f94) 0) = OC := by kernel_rfl
def Oi : RC := (.blk 3 (Sr [(bM p22 p2 6), (Mv p23 p6), (Cf p24 p125 [p22, p23]), (Cf p25 p75 [p24]), (Cf p26 p94 [p25])] (.cond p26 (Sr [(Mv eE p6), (.u (.st p3 eE 1)), (.u (.st p4 (.k (.b true)) 1))] (.exit 0)) .skip)))
theorem Gi : aT Try.prog 30 (mQ (aN Try.f94) 0) = Oi := by kernel_rfl
def Tu : RC := (Sr [(.u (.box p2 p1)), (.u (.mv p3 (K_ 0)))] (.seq (Sr [(bM p4 p2 2)] (.blk 0 (Sr [(.u (.bld p6 [(.i .i64 0), (.i .i64 0)] [(0, (1, (K_ 1))), (1, (1, (K_ 1)))])), (.u (.eqr p7 false [(.i .i64), (.i .i64)] p4 p6)), (Mv p5 p7)] (.cond p5 (Sr [(.u (.mv p3 (K_ 1)))] .ret) (Sr [(.u (.bld p9 [(.i .i64 0), (.i .i64 0)] [(0, (1, (K_ 0))), (1, (1, (K_ 0)))])), (.u (.eqr p10 false [(.i .i64), (.i .i64)] p4 p9)), (Mv p8 p10)] (.cond p8 (Sr [(.u (.mv p3 (K_ 2)))] .ret) .skip)))))) (Sr [(.u (.mv p3 (K_ 3)))] .ret)))
def Sa : List RR := [(.t p3)]
theorem Se : FnOk Try.prog p118.ix 10 Tu Sa := dU Try.f117 Try.func117
def TN : RC := (Sr [(.u (.box p4 p2)), (.u (.mv p5 (K_ 0)))] (Sr [(Mv p6 p1), (Fd p7 p4 1), (.u (.ixa p8 8 1 p7 p6)), (L1 p9 p8), (.u (.mn p10 p9 (K_ 1))), (Mv p5 p10)] .ret))
def Sm : List RR := [(.t p5)]
theorem Sk : FnOk Try.prog p119.ix 10 TN Sm := dU Try.f118 Try.func118
def VL : RC := (Sr [(.u (.box p2 p1)), (.u (.mv p3 (.k .nf)))] (Sr [(.u (.fnl p4 p136 [] [p2])), (Mv p3 p4)] .ret))
def RE : List RR := [(.t p3)]
theorem Sn : FnOk Try.prog p120.ix 4 VL RE := dU Try.f119 Try.func119
def Ue : RC := (Sr [(.u (.mv p5 (K_ 0)))] (.seq (Sr [(Mv p8 p2), (.u (.len p9 p8)), (.u (.mv p10 (K_ 0)))] (.blk 0 (.loop (Sr [(dX bD .lss p10 p9)] (.seq (.cond bD .skip (.exit 0)) (.seq (.blk 1 (Sr [(.u (.ixs bF 1 p8 p10)), (L1 bH bF), (Mv p7 bH)] (.reg [(Mv bG p1), (Mv bN p7), (.u (.mn bO bG bN)), (Mv p1 bO)]))) (.reg [(cB bX .add p10 1), (Mv p10 bX)]))))))) (Sr [(Mv bR p1), (Mv p5 bR)] .ret)))
def ST : List RR := [(.t p5)]
theorem RM : FnOk Try.prog p121.ix 18 Ue ST := dU Try.f120 Try.func120
def Ve : RC := (Sr [(.u (.mv p3 (K_ 0)))] (.seq (Sr [(Mv p6 p1), (.u (.len p7 p6)), (cB p8 .lss p7 1)] (.cond p8 (.reg [(.u .bad), (.u .bad)]) .skip)) (Sr [(Mv p10 p1), (.u (.ixs bD 1 p10 (K_ 0))), (L1 bF bD), (Mv p4 bF)] (.seq (Sr [(.u (.mv p5 (K_ 1)))] (.blk 0 (.loop (.seq (Sr [(Mv bH p5), (Mv bG p1), (.u (.len bN bG)), (dX bO .lss bH bN)] (.cond bO .skip (.exit 0))) (.seq (.blk 1 (.reg [(Mv cH p4), (Mv cD p1), (Mv p21 p5), (.u (.ixs p22 1 cD p21)), (L1 p23 p22), (.u (.mx p24 cH p23)), (Mv p4 p24)])) (.reg [(Mv bX p5), (cB bR .add bX 1), (Mv p5 bR)])))))) (Sr [(Mv p25 p4), (Mv p3 p25)] .ret)))))
def Sz : List RR := [(.t p3)]
theorem RI : FnOk Try.prog p122.ix 25 Ve Sz := dU Try.f121 Try.func121
def RB : RC := (Sr [(.u (.box p3 p1)), (.u (.box p4 p2)), (.u (.mv p5 (.k (.b false))))] (Sr [(bM p9 p4 14), (Cf p10 p139 [p9]), (.u (.new p6 [(.i .i64 0), (.b false), (.b false), (.b false), (.b false), (.b false), (.b false), (.b false), (.b false)])), (.u (.st p6 p10 9))] (Sr [(Fd bF p3 5), (L1 bH bF), (bM bG p6 9), (.u (.lkp bN (.b false) true [(.i .i64), .b, .b, .b, .b, .b, .b, .b, .b] bH bG)), (Mv bD bN), (.u (.ext bO bD 0)), (.u (.ext bX bD 1)), (Mv p7 bO), (Mv p8 bX)] (.seq (Sr [(Mv bR p8), (.u (.un cH .not bR))] (.cond cH (.seq (.drw [(bM cD p3 6), (bM p21 p4 14), (Cf p22 p80 [cD, p21]), (Mv p23 p22), (Gs p23 true p24 (.fad p24 p4 0)), (Gs p23 true p25 (.ld1 p25 p24)), (Gs p23 true p26 (.fad p26 p3 0)), (Gs p23 true eE (.fad eE p26 3)), (Gs p23 true p28 (.ld1 p28 eE)), (Gs p23 true fB (.len fB p28)), (Gs p23 true eH (.bin eH .eql p25 fB)), (Gs p23 true p31 (.mv p31 eH)), (Gs p31 false hU (.ldn hU p3 6)), (Gs p31 false p33 (.ldn p33 p4 14)), (Gs p31 false p34 (.cf (some p34) p138 [hU, p33])), (Gs p31 false kK (.ldn kK p3 6)), (Gs p31 false p36 (.fnl p36 p123 [kK] [])), (Gs p31 false kZ (.cf (some kZ) p140 [p34, p36])), (Gs p23 true mV (.pick mV p31 (.k (.b true)) kZ)), (Pa p39 p23 mV), (Mv p7 p39)] [0, 0, 3, 7, 15, 31, 15, 79, 207, 463, 1023, 2047, 4095, 4095, 16383, 4095, 36863, 131071, 262143, 524287, 1048575]) (.reg [(Fd p40 p3 5), (L1 p41 p40), (bM qB p6 9), (Mv lT p7), (.u (.mup [(.i .i64), .b, .b, .b, .b, .b, .b, .b, .b] p41 qB lT))])) .skip)) (Sr [(Mv p44 p7), (Mv p5 p44)] .ret)))))
def Vp : List RR := [(.t p5)]
theorem MW : FnOk Try.prog p123.ix 44 RB Vp := dU Try.f122 Try.func122
def RK : RC := (Sr [(.u (.box p3 p1)), (.u (.box p4 p2)), (.u (.mv p5 (.k .nf)))] (Sr [(.u (.fnl p6 p141 [] [p3, p4])), (Mv p5 p6)] .ret))
def Vd : List RR := [(.t p5)]
theorem Vg : FnOk Try.prog p124.ix 6 RK Vd := dU Try.f123 Try.func123
def Nx : RC := (Sr [(.u (.box p3 p1)), (.u (.new p5 [(.i .i64 0), (.i .i64 0), (.i .i64 0), .ns, .ns]))] (Sr [(Fd bH p3 0), (bM bG bH 5), (.u (.new p6 [(.i .i64 0), (.i .i64 0), (.i .i64 0), .ns, .ns])), (.u (.st p6 bG 5))] (Sr [(Fd bN p6 3), (.u (.st bN (.k .ns) 1)), (Fd bO p6 4), (.u (.st bO (.k .ns) 1))] (.seq (Sr [(Fd bX p3 0), (Fd bR bX 3), (L1 cH bR), (.u (.len cD cH)), (.u (.mv p21 (K_ 0)))] (.blk 0 (.loop (Sr [(dX p22 .lss p21 cD)] (.seq (.cond p22 .skip (.exit 0)) (.seq (.blk 1 (Sr [(Mv p23 p21), (.u (.ixs p24 3 cH p21)), (bM p25 p24 3), (.u (.new p8 [(.i .i64 0), (.i .i64 0), (.i .i64 0)])), (Mv p7 p23), (.u (.st p8 p25 3))] (Sr [(Mv p26 p2), (Mv eE p7), (Cf p28 p144 [p26, eE]), (.u (.un fB .not p28))] (.cond fB (.reg [(Fd eH p6 3), (L1 p31 eH), (bM hU p8 3), (.u (.bsl p33 3 1 [(.i .i64 0), (.i .i64 0), (.i .i64 0)] [(0, (3, hU))])), (.u (.app p34 3 p31 p33)), (Fd kK p6 3), (.u (.st kK p34 1))]) .skip)))) (.reg [(cB p36 .add p21 1), (Mv p21 p36)]))))))) (.seq (Sr [(Fd kZ p3 0), (Fd mV kZ 4), (L1 p39 mV), (.u (.len p40 p39)), (.u (.mv p41 (K_ 0)))] (.blk 2 (.loop (Sr [(dX qB .lss p41 p40)] (.seq (.cond qB .skip (.exit 2)) (.seq (.blk 3 (Sr [(.u (.ixs lT 3 p39 p41)), (bM p44 lT 3), (.u (.new p10 [(.i .i64 0), (.i .i64 0), (.i .i64 0)])), (.u (.st p10 p44 3))] (Sr [(Mv xB p2), (Fd p47 p10 0), (L1 p48 p47), (Cf AU p145 [xB, p48]), (Mv sS AU), (.u (.ext uG sS 0)), (.u (.ext Bt sS 1)), (Mv bD uG), (Mv bF Bt)] (Sr [(Fd Bs p10 0), (L1 Bu Bs), (Mv p54 bD), (dX p55 .sub Bu p54), (Fd p56 p10 0), (.u (.st p56 p55 1))] (.reg [(Fd p57 p6 4), (L1 p58 p57), (bM p59 p10 3), (.u (.bsl p60 3 1 [(.i .i64 0), (.i .i64 0), (.i .i64 0)] [(0, (3, p59))])), (.u (.app Dp 3 p58 p60)), (Fd DZ p6 4), (.u (.st DZ Dp 1))]))))) (.reg [(cB p63 .add p41 1), (Mv p41 p63)]))))))) (Sr [(bM Gd p6 5), (.u (.st p5 Gd 5))] .ret))))))
def NR : List RR := [(.cn p5 5)]
theorem TX : FnOk Try.prog p125.ix 64 Nx NR := dU Try.f124 Try.func124
def Rv : RC := (Sr [(.u (.box p3 p1))] (Sr [(.u (.new p4 [(.i .i64 0), (.i .i64 0), (.i .i64 0), (.i .i64 0), (.i .i64 0), (.i .i64 0), (.i .i64 0), (.i .i64 0), (.i .i64 0), (.i .i64 0), (.i .i64 0), (.i .i64 0), (.i .i64 0), (.i .i64 0), (.i .i64 0), (.i .i64 0), (.i .i64 0), (.i .i64 0), (.i .i64 0), (.i .i64 0), (.i .i64 0), (.i .i64 0), (.i .i64 0), (.i .i64 0), (.i .i64 0), (.i .i64 0), (.i .i64 0), (.i .i64 0), (.i .i64 0), (.i .i64 0), (.i .i64 0), (.i .i64 0), (.i .i64 0), (.i .i64 0), (.i .i64 0), (.i .i64 0), (.i .i64 0), (.i .i64 0), (.i .i64 0), (.i .i64 0), (.i .i64 0), (.i .i64 0), (.i .i64 0), (.i .i64 0), (.i .i64 0), (.i .i64 0), (.i .i64 0), (.i .i64 0), (.i .i64 0), (.i .i64 0), (.i .i64 0), (.i .i64 0), (.i .i64 0), (.i .i64 0), (.i .i64 0), (.i .i64 0), (.i .i64 0), (.i .i64 0), (.i .i64 0), (.i .i64 0), (.i .i64 0), (.i .i64 0), (.i .i64 0), (.i .i64 0), (.i .i64 0), (.i .i64 0), (.i .i64 0), (.i .i64 0), (.i .i64 0), (.i .i64 0), (.i .i64 0), (.i .i64 0), (.i .i64 0), (.i .i64 0), (.i .i64 0), (.i .i64 0), (.i .i64 0), (.i .i64 0), (.i .i64 0), (.i .i64 0), (.i .i64 0), (.i .i64 0), (.i .i64 0), (.i .i64 0), (.i .i64 0), (.i .i64 0), (.i .i64 0), (.i .i64 0), (.i .i64 0), (.i .i64 0), (.i .i64 0), (.i .i64 0), (.i .i64 0), (.i .i64 0), (.i .i64 0), (.i .i64 0), (.i .i64 0), (.i .i64 0), (.i .i64 0), (.i .i64 0), (.i .i64 0), (.i .i64 0), (.i .i64 0), (.i .i64 0), (.i .i64 0), (.i .i64 0), (.i .i64 0), (.i .i64 0), (.i .i64 0), (.i .i64 0), (.i .i64 0), (.i .i64 0), (.i .i64 0), (.i .i64 0), (.i .i64 0), (.i .i64 0), (.i .i64 0), (.i .i64 0), (.i .i64 0), (.i .i64 0), (.i .i64 0), (.i .i64 0), (.i .i64 0), (.i .i64 0), (.i .i64 0), (.i .i64 0)]))] (Sr [(.u (.new p5 [.nf]))] (Sr [(.u (.fnl p6 p137 [] [p2, p4, p3, p5])), (.u (.st p5 p6 1))] (.drw [(L1 p7 p5), (bM p8 p2 6), (Cf p9 p105 [p8]), (.u (.cv (some p10) p7 [p9]))] [0, 0, 2, 7])))))
def Uw : List RR := []
theorem RD : FnOk Try.prog p136.ix 10 Rv Uw := dU Try.f135 Try.func135
def SU : RC := (Sr [(.u (.box p6 p1)), (.u (.new p7 [(.b false)]))] (.seq (Sr [(bM p9 p2 6), (bM p10 p6 14), (Cf bD p123 [p9, p10]), (.u (.un bF .not bD))] (.cond bF (Sr [(.u (.st p7 (.k (.b true)) 1))] .ret) .skip)) (Sr [(Fd bH p6 0), (L1 bG bH), (bM bN p6 14), (.u (.ixa bO 9 14 p3 bG)), (.u (.st bO bN 14))] (.seq (Sr [(Fd bX p6 0), (L1 bR bX), (Fd cH p2 0), (Fd cD cH 3), (L1 p21 cD), (.u (.len p22 p21)), (dX p23 .eql bR p22)] (.cond p23 (Sr [(L1 p24 p4), (bM p25 p3 126), (.u (.cv (some p26) p24 [p25])), (.u (.st p7 p26 1))] .ret) .skip)) (.seq (Sr [(bM eE p2 6), (bM p28 p6 14), (Cf fB p138 [eE, p28])] (.blk 0 (.rf fB [eH] 34 (mB (aN Try.f136) 0) (mQ (aN Try.f136) 0)))) (Sr [(.u (.st p7 (.k (.b true)) 1))] .ret))))))
def US : List RR := [(.c1 p7)]
theorem Nr : FnOk Try.prog p137.ix 34 SU US := dU Try.f136 Try.func136
def MI : RC := (.reg [(.u (.new p8 [(.i .i64 0), (.i .i64 0), (.i .i64 0), (.i .i64 0), (.i .i64 0), (.i .i64 0), (.i .i64 0), (.i .i64 0), (.i .i64 0), (.i .i64 0), (.i .i64 0), (.i .i64 0), (.i .i64 0), (.i .i64 0)])), (.u (.st p8 eH 14))])
theorem DB : aT Try.prog 34 (mB (aN Try.f136) 0) = MI := by kernel_rfl
def MK : RC := (.blk 1 (Sr [(L1 p31 p5), (bM hU p8 14), (.u (.cv (some p33) p31 [hU])), (.u (.un p34 .not p33))] (.cond p34 (Sr [(.u (.st p7 (.k (.b false)) 1))] .ret) .skip)))
theorem Du : aT Try.prog 34 (mQ (aN Try.f136) 0) = MK := by kernel_rfl
def Uq : RC := (Sr [(.u (.box p3 p1)), (.u (.box p4 p2)), (.u (.mv p5 (.k .nf)))] (Sr [(.u (.fnl p6 p156 [] [p3, p4])), (Mv p5 p6)] .ret))
def VW : List RR := [(.t p5)]
theorem Tj : FnOk Try.prog p138.ix 6 Uq VW := dU Try.f137 Try.func137
def Uo : RC := (Sr [(.u (.box p2 p1)), (.u (.new p3 [(.i .i64 0), (.b false), (.b false), (.b false), (.b false), (.b false), (.b false), (.b false), (.b false)]))] (Sr [(Fd p7 p2 0), (L1 p8 p7), (.u (.bld p9 [(.i .i64 0), (.b false), (.b false), (.b false), (.b false), (.b false), (.b false), (.b false), (.b false)] [(0, (1, p8))])), (.u (.new p4 [(.i .i64 0), (.b false), (.b false), (.b false), (.b false), (.b false), (.b false), (.b false), (.b false)])), (.u (.st p4 p9 9))] (.seq (Sr [(Fd p10 p2 1), (bM bD p10 8), (.u (.mv bF (K_ 0)))] (.blk 0 (.loop (Sr [(cB bH .lss bF 8)] (.seq (.cond bH .skip (.exit 0)) (.seq (.blk 1 (Sr [(Mv bG bF), (.u (.ixv bN 8 1 false bD bF)), (Mv p5 bG), (Mv p6 bN)] (.reg [(Mv bO p5), (Mv bX p6), (cB bR .neq bX 0), (Fd cH p4 1), (.u (.ixa cD 8 1 cH bO)), (.u (.st cD bR 1))]))) (.reg [(cB p21 .add bF 1), (Mv bF p21)]))))))) (Sr [(bM p22 p4 9), (.u (.st p3 p22 9))] .ret))))
def Uc : List RR := [(.cn p3 9)]
theorem Ta : FnOk Try.prog p139.ix 22 Uo Uc := dU Try.f138 Try.func138
def SK : RC := (Sr [(.u (.box p4 p2)), (.u (.new p5 [(.b false)]))] (.seq (Sr [(Mv p7 p1)] (.blk 0 (.rf p7 [p8] 11 (mB (aN Try.f139) 0) (mQ (aN Try.f139) 0)))) (Sr [(.u (.st p5 (.k (.b false)) 1))] .ret)))
def TD : List RR := [(.c1 p5)]
theorem Si : FnOk Try.prog p140.ix 11 SK TD := dU Try.f139 Try.func139
def Mi : RC := (.reg [(.u (.new p6 [(.i .i64 0), (.i .i64 0), (.i .i64 0), (.i .i64 0), (.i .i64 0), (.i .i64 0), (.i .i64 0), (.i .i64 0), (.i .i64 0), (.i .i64 0), (.i .i64 0), (.i .i64 0), (.i .i64 0), (.i .i64 0)])), (.u (.st p6 p8 14))])
theorem Dc : aT Try.prog 11 (mB (aN Try.f139) 0) = Mi := by kernel_rfl
def LO : RC := (.blk 1 (Sr [(L1 p9 p4), (bM p10 p6 14), (.u (.cv (some bD) p9 [p10]))] (.cond bD (Sr [(.u (.st p5 (.k (.b true)) 1))] .ret) .skip)))
theorem DX : aT Try.prog 11 (mQ (aN Try.f139) 0) = LO := by kernel_rfl
def RA : RC := (Sr [(L1 p6 p2), (.u (.bin p7 .shl (K_ 1) p6)), (cB p8 .sub p7 1), (Mv p5 p8)] (.blk 0 (.loop (.seq (Sr [(Mv p9 p5), (cB p10 .geq p9 0)] (.cond p10 .skip (.exit 0))) (.seq (.blk 1 (.seq (.drw [(Mv bH p5), (.u (.cvi bG .u64 bH)), (Cf bN p142 [bG]), (L1 bO p3), (dX bX .eql bN bO), (Mv bR bX), (Gs bR true cH (.mv cH p1)), (Gs bR true cD (.mv cD p5)), (Gs bR true p21 (.ld1 p21 p2)), (Gs bR true p22 (.cf (some p22) p143 [cD, p21])), (Gs bR true p23 (.cv (some p23) cH [p22])), (Gs bR true p24 (.un p24 .not p23)), (Pa p25 bR p24)] [0, 1, 3, 0, 15, 31, 63, 63, 63, 447, 1023, 2047, 4095]) (.cond p25 .ret .skip))) (.reg [(Mv bD p5), (cB bF .sub bD 1), (Mv p5 bF)]))))))
def VJ : List RR := []
theorem UL : FnOk Try.prog p141.ix 25 RA VJ := dU Try.f140 Try.func140
def Tf : RC := (Sr [(.u (.mv p3 (K_ 0)))] (.seq (.cond (.k (.b false)) (Sr [(Mv p4 p1), (.u (.cvi p5 .u32 p4)), (Cf p6 vO [p5]), (Mv p3 p6)] .ret) .skip) (Sr [(Mv p7 p1), (Cf p8 p158 [p7]), (Mv p3 p8)] .ret)))
def Ry : List RR := [(.t p3)]
theorem VA : FnOk Try.prog p142.ix 8 Tf Ry := dU Try.f141 Try.func141
def Su : RC := (Sr [(.u (.mv p5 (.k .ns)))] (Sr [(.u (.mv p6 (.k .ns)))] (.seq (Sr [(Mv p8 p2), (.u (.mv p9 (K_ 0)))] (.blk 0 (.loop (Sr [(dX p10 .lss p9 p8)] (.seq (.cond p10 .skip (.exit 0)) (.seq (.blk 1 (Sr [(Mv bD p9), (Mv p7 bD)] (Sr [(Mv bF p1), (Mv bH p2), (cB bG .sub bH 1), (Mv bN p7), (dX bO .sub bG bN), (dX bX .shr bF bO), (cB bR .and bX 1), (cB cH .eql bR 1)] (.cond cH (.reg [(Mv cD p6), (Mv p21 p7), (.u (.bsl p22 1 1 [(.i .i64 0)] [(0, (1, p21))])), (.u (.app p23 1 cD p22)), (Mv p6 p23)]) .skip)))) (.reg [(cB p24 .add p9 1), (Mv p9 p24)]))))))) (Sr [(Mv p25 p6), (Mv p5 p25)] .ret))))
def Vz : List RR := [(.t p5)]
theorem SL : FnOk Try.prog p143.ix 25 Su Vz := dU Try.f142 Try.func142
def Vi : RC := (Sr [(.u (.mv p5 (.k (.b false))))] (Sr [(Mv p6 p1), (Mv p7 p2), (Cf p8 p159 [p6, p7]), (cB p9 .geq p8 0), (Mv p5 p9)] .ret))
def RN : List RR := [(.t p5)]
theorem NJ : FnOk Try.prog p144.ix 9 Vi RN := dU Try.f143 Try.func143
def Ty : RC := (Sr [(.u (.mv p5 (K_ 0))), (.u (.mv p6 (.k (.b false))))] (Sr [(Mv bD p1), (.u (.len bF bD)), (Mv p7 bF)] (Sr [(Mv bH p7), (.u (.mv p8 (K_ 0))), (Mv p9 bH)] (.seq (.blk 0 (.loop (.seq (Sr [(Mv bG p8), (Mv bN p9), (dX bO .lss bG bN)] (.cond bO .skip (.exit 0))) (.blk 1 (Sr [(Mv bX p8), (Mv bR p9), (dX cH .add bX bR), (.u (.cvi cD .u64 cH)), (.u (.bin p21 .shr cD (.k (.i .u64 1)))), (.u (.cvi p22 .i64 p21)), (Mv p10 p22)] (Sr [(Mv p23 p1), (Mv p24 p10), (.u (.ixs p25 1 p23 p24)), (L1 p26 p25), (Mv eE p2), (Cf p28 p160 [p26, eE])] (.cond p28 (.reg [(Mv fB p10), (cB eH .add fB 1), (Mv p8 eH)]) (.reg [(Mv p31 p10), (Mv p9 p31)])))))))) (Sr [(Mv hU p8), (Mv p33 p8), (Mv p34 p7), (dX kK .lss p33 p34), (Mv p36 kK), (Gs p36 true kZ (.mv kZ p1)), (Gs p36 true mV (.mv mV p8)), (Gs p36 true p39 (.ixs p39 1 kZ mV)), (Gs p36 true p40 (.ld1 p40 p39)), (Gs p36 true p41 (.mv p41 p2)), (Gs p36 true qB (.bin qB .eql p40 p41)), (Gs p36 true lT (.mv lT qB)), (Gs lT false p44 (.mv p44 p1)), (Gs lT false sS (.mv sS p8)), (Gs lT false xB (.ixs xB 1 p44 sS)), (Gs lT false p47 (.ld1 p47 xB)), (Gs lT false p48 (.cf (some p48) p161 [p47])), (Gs lT false AU (.mv AU p48)), (Gs AU true uG (.mv uG p2)), (Gs AU true Bt (.cf (some Bt) p161 [uG])), (Gs lT false Bs (.pick Bs AU Bt (.k (.b false)))), (Gs p36 true Bu (.pick Bu lT (.k (.b true)) Bs)), (Pa p54 p36 Bu), (Mv p5 hU), (Mv p6 p54)] .ret)))))
def VP : List RR := [(.t p5), (.t p6)]
theorem Vj : FnOk Try.prog p145.ix 54 Ty VP := dU Try.f144 Try.func144
def Vn : RC := (Sr [(.u (.box p4 p1))] (.seq (.drw [(bM p8 p2 6), (Fd p9 p2 0), (Fd p10 p9 3), (L1 bD p10), (Fd bF p3 0), (L1 bH bF), (.u (.ixs bG 3 bD bH)), (bM bN bG 3), (Cf bO p107 [p8, bN])] [0, 0, 2, 6, 0, 16, 62, 126, 255]) (.blk 0 (.rf bO [bX] 31 (mB (aN Try.f155) 0) (mQ (aN Try.f155) 0)))))
def VV : List RR := []
theorem UE : FnOk Try.prog p156.ix 31 Vn VV := dU Try.f155 Try.func155
def MJ : RC := (.reg [(.u (.new p5 [(.i .i64 0), (.i .i64 0), (.i .i64 0)])), (.u (.st p5 bX 3))])
theorem Ds : aT Try.prog 31 (mB (aN Try.f155) 0) = MJ := by kernel_rfl
def LH : RC := (.blk 1 (Sr [(bM cH p2 6), (bM cD p3 14), (bM p21 p5 3), (Cf p22 p109 [cH, cD, p21]), (Mv bR p22), (.u (.ext p23 bR 0)), (.u (.ext p24 bR 1)), (.u (.new p6 [(.i .i64 0), (.i .i64 0), (.i .i64 0), (.i .i64 0), (.i .i64 0), (.i .i64 0), (.i .i64 0), (.i .i64 0), (.i .i64 0), (.i .i64 0), (.i .i64 0), (.i .i64 0), (.i .i64 0), (.i .i64 0)])), (.u (.st p6 p23 14)), (Mv p7 p24)] (Sr [(Mv p25 p7), (Mv p26 p25), (Gs p26 true eE (.ld1 eE p4)), (Gs p26 true p28 (.ldn p28 p6 14)), (Gs p26 true fB (.cv (some fB) eE [p28])), (Gs p26 true eH (.un eH .not fB)), (Pa p31 p26 eH)] (.cond p31 .ret .skip))))
theorem Dh : aT Try.prog 31 (mQ (aN Try.f155) 0) = LH := by kernel_rfl
def UT : RC := (Sr [(.u (.mv p3 (K_ 0)))] (Sr [(Mv p4 p1), (.u (.bin p5 .shr p4 (.k (.i .u64 1)))), (.u (.bin p6 .and p5 (.k (.i .u64 6148914691236517205)))), (Mv p7 p1), (.u (.bin p8 .and p7 (.k (.i .u64 6148914691236517205)))), (dX p9 .add p6 p8), (Mv p1 p9)] (Sr [(Mv p10 p1), (.u (.bin bD .shr p10 (.k (.i .u64 2)))), (.u (.bin bF .and bD (.k (.i .u64 3689348814741910323)))), (Mv bH p1), (.u (.bin bG .and bH (.k (.i .u64 3689348814741910323)))), (dX bN .add bF bG), (Mv p1 bN)] (Sr [(Mv bO p1), (.u (.bin bX .shr bO (.k (.i .u64 4)))), (Mv bR p1), (dX cH .add bX bR), (.u (.bin cD .and cH (.k (.i .u64 1085102592571150095)))), (Mv p1 cD)] (Sr [(Mv p21 p1), (Mv p22 p1), (.u (.bin p23 .shr p22 (.k (.i .u64 8)))), (dX p24 .add p21 p23), (Mv p1 p24)] (Sr [(Mv p25 p1), (Mv p26 p1), (.u (.bin eE .shr p26 (.k (.i .u64 16)))), (dX p28 .add p25 eE), (Mv p1 p28)] (Sr [(Mv fB p1), (Mv eH p1), (.u (.bin p31 .shr eH (.k (.i .u64 32)))), (dX hU .add fB p31), (Mv p1 hU)] (Sr [(Mv p33 p1), (.u (.cvi p34 .i64 p33)), (cB kK .and p34 127), (Mv p3 kK)] .ret))))))))
def VM : List RR := [(.t p3)]
theorem Vc : FnOk Try.prog p158.ix 35 UT VM := dU Try.f157 Try.func157
def TH : RC := (Sr [(.u (.mv p5 (K_ 0)))] (.seq (Sr [(Mv p7 p1), (.u (.len p8 p7)), (.u (.mv p9 (K_ 0)))] (.blk 0 (.loop (Sr [(dX p10 .lss p9 p8)] (.seq (.cond p10 .skip (.exit 0)) (.seq (.blk 1 (Sr [(Mv bD p9), (Mv p6 bD)] (Sr [(Mv bF p2), (Mv bH p1), (Mv bG p6), (.u (.ixs bN 1 bH bG)), (L1 bO bN), (dX bX .eql bF bO)] (.cond bX (Sr [(Mv bR p6), (Mv p5 bR)] .ret) .skip)))) (.reg [(cB cH .add p9 1), (Mv p9 cH)]))))))) (Sr [(.u (.mv p5 (.k (.i .i64 (-1)))))] .ret)))
def VO : List RR := [(.t p5)]
theorem NK : FnOk Try.prog p159.ix 19 TH VO := dU Try.f158 Try.func158
def So : RC := (Sr [(.u (.mv p5 (.k (.b false))))] (Sr [(Mv p6 p1), (Cf p7 p165 [p6]), (Mv p8 p7), (Gs p8 true p9 (.mv p9 p2)), (Gs p8 true p10 (.cf (some p10) p165 [p9])), (Gs p8 true bD (.un bD .not p10)), (Pa bF p8 bD), (Mv bH bF), (Gs bH false bG (.mv bG p1)), (Gs bH false bN (.mv bN p2)), (Gs bH false bO (.bin bO .lss bG bN)), (Po bX bH bO), (Mv p5 bX)] .ret))
def SR : List RR := [(.t p5)]
theorem VQ : FnOk Try.prog p160.ix 17 So SR := dU Try.f159 Try.func159
def Tn : RC := (Sr [(.u (.mv p3 (.k (.b false))))] (Sr [(Mv p4 p1), (Mv p5 p1), (dX p6 .neq p4 p5), (Mv p3 p6)] .ret))
def SC : List RR := [(.t p3)]
theorem UC : FnOk Try.prog p161.ix 6 Tn SC := dU Try.f160 Try.func160
def To : RC := (Sr [(.u (.mv p3 (.k (.b false))))] (Sr [(Mv p4 p1), (Mv p5 p1), (dX p6 .neq p4 p5), (Mv p3 p6)] .ret))
def Ul : List RR := [(.t p3)]
theorem RW : FnOk Try.prog p165.ix 6 To Ul := dU Try.f164 Try.func164
open Go.RowKit (Below Grown)
structure ShrB (B : Pos -> Prop) (z z' : X) : Prop where
 sl : ∀ s d', z'.sl.get s = some d' -> ∃ d, z.sl.get s = some d /\ Fz B z.ob d d'
 ob : ∀ id c', z'.ob.get id = some c' -> B id /\ ∃ c, z.ob.get id = some c /\ ShC B z.ob c c'
 l : z.lg = none
 l' : z'.lg = none
section
variable {P : Program} {nt : Nat}
structure AgainB {σ : Type} (S : σ -> X) (I : σ -> Prop) (μ : σ -> Nat) (s : σ) (z : X) : Prop where
 ok : ∃ s' B, μ s' < μ s /\ I s' /\ (S s).nx.nat <= (S s').nx.nat /\ (∀ id : Pos, id.nat < (S s).nx.nat -> B id) /\ (∀ id : Pos, B id -> id.nat < (S s').nx.nat) /\ ShrB B z (S s')
theorem AgainB.to {σ : Type} {S : σ -> X} {I : σ -> Prop} {μ : σ -> Nat} {s : σ} {z : X} (s' : σ) (B : Pos -> Prop) (h : μ s' < μ s) (i : I s') (n : (S s).nx.nat <= (S s').nx.nat) (b1 : ∀ id : Pos, id.nat < (S s).nx.nat -> B id) (b2 : ∀ id : Pos, B id -> id.nat < (S s').nx.nat) (l : ShrB B z (S s')) : AgainB S I μ s z := ⟨s', B, h, i, n, b1, b2, l⟩
theorem Shr.toB {z z' : X} (h : Shr z z') : ShrB (fun id => id.nat < z'.nx.nat) z z' := ⟨h.sl, h.ob, h.l, h.l'⟩
theorem AgainB.sh {σ : Type} {S : σ -> X} {I : σ -> Prop} {μ : σ -> Nat} {s : σ} {z : X} (s' : σ) (h : μ s' < μ s) (i : I s') (n : (S s).nx.nat <= (S s').nx.nat) (l : Shr z (S s')) : AgainB S I μ s z :=
 ⟨s', _, h, i, n, fun _ h => Nat.lt_of_lt_of_le h n, fun _ h => h, l.toB⟩
end
open Go.RowKit (Below Grown)
section
variable {P : Program} {nt : Nat}
open Classical in
theorem Dy {x Z Z' : X} {B : Pos -> Prop} {ro : Option Nat} {so : Pos -> Prop} {γ γ1 : Gh} {a a1 : Act} {w w1 : World} (S : ShrB B Z Z') (hx : ∀ id : Pos, id.nat < x.nx.nat -> B id) (hz : ∀ id : Pos, B id -> id.nat < Z'.nx.nat) (hall : ∀ id, so id) (R : Rep P (gM so) γ a w x) (cst : CSt ro Z.lg γ a w γ1 a1 w1) (rep : Rep P (gM so) γ1 a1 w1 Z) :
 ∃ γ2, CSt ro Z'.lg γ a w γ2 a1 w1 /\ Rep P (gM so) γ2 a1 w1 Z' := by
 have hzero : ∀ id, ¬ B id -> γ.cur id = 0 := fun id hid => R.nx id (hall id) (Nat.not_lt.1 fun h => hid (hx id h))
 let γ2 : Gh := ⟨fun id => if B id then γ1.cur id else 0, γ1.β, fun b => γ1.im b \/ ((∃ id st, ¬ B id /\ st < γ1.cur id /\ (γ1.β id st).1 = b) /\ ∃ vs e fr, w1.heap[b]? = some (.cells vs e fr))⟩
 have c2 : ∀ id, B id -> γ2.cur id = γ1.cur id := fun id hid => by show (if _ then _ else _) = _; rw [if_pos hid]
 have c2' : ∀ id, ¬ B id -> γ2.cur id = 0 := fun id hid => by show (if _ then _ else _) = _; rw [if_neg hid]
 have lt2 : ∀ id st, st < γ2.cur id -> B id /\ st < γ1.cur id := fun id st hst => by
  by_cases hid : B id
  ·rw [c2 id hid] at hst; exact ⟨hid, hst⟩
  ·rw [c2' id hid] at hst; exact absurd hst (Nat.not_lt_zero _)
 have hob1 : ∀ id c, Z.ob.get id = some c -> HoldsO P γ1 w1 id c := fun id c hc => rep.ob id c (hall id) hc
 have fz : ∀ d d', Fz B Z.ob d d' -> ∀ v, DV γ1 w1 d v -> DV γ2 w1 d' v := fun d d' hf =>
  Fz.ok (γ := γ1) (γ' := γ2) (fun b hb => .inl hb) hob1 (fun id hid => ⟨c2 id hid, rfl⟩) (fun id st vs e fr hid hst hc => .inr ⟨⟨id, st, hid, hst, rfl⟩, vs, e, fr, hc⟩) hf
 have F := cst.fr
 have fresh : ∀ id st, ¬ B id -> st < γ1.cur id -> w.heap.size <= (γ1.β id st).1 := fun id st hid hst => by
  rcases F.new id st (by rw [hzero id hid]; exact Nat.zero_le _) hst with h | ⟨kC, h, _⟩
  ·exact h
  ·rw [hzero id hid] at h; exact absurd h (Nat.not_lt_zero _)
 have G2 : G ro γ2 a1 w1 := by
  refine ⟨fun id st hst => cst.g.ob id st (lt2 id st hst).2, fun id st id' st' hst hst' he => cst.g.inj id st id' st' (lt2 id st hst).2 (lt2 id' st' hst').2 he, ?_, cst.g.rd, fun b hb => ?_, cst.g.gl.im fun _ h => .inl h⟩
  ·obtain ⟨ms, d1, d2, d3⟩ := cst.g.df
   exact ⟨ms, d1, d2, fun r hr => ⟨(d3 r hr).1, fun id st hst => (d3 r hr).2 id st (lt2 id st hst).2⟩⟩
  ·rcases hb with hb | ⟨⟨id', st', h1, h2, h3⟩, h4⟩
   ·exact ⟨(cst.g.im b hb).1, fun id st hst => (cst.g.im b hb).2 id st (lt2 id st hst).2⟩
   ·refine ⟨h4, fun id st hst e => ?_⟩
    obtain ⟨k1, k2⟩ := lt2 id st hst
    have e : (γ1.β id st).1 = b := e
    obtain ⟨rfl, _⟩ := cst.g.inj id st id' st' k2 h2 (e.trans h3.symm)
    exact h1 k1
 have hw : ∀ {id : Pos}, wrtn Z'.lg id := fun {id} => by rw [S.l']; trivial
 have hwZ : ∀ {id : Pos}, wrtn Z.lg id := fun {id} => by rw [S.l]; trivial
 refine ⟨γ2, ⟨G2, ⟨⟨fun id => ?_, fun id st hst => F.up.β id st hst, F.up.sh, fun b hb => ⟨.inl (F.up.im b hb).1, (F.up.im b hb).2⟩⟩, fun id hn => absurd hw hn, fun b hb hn => F.blk b hb fun id st _ hst => hn id st hw hst, fun id st h1 h2 => F.new id st h1 (lt2 id st h2).2, fun b hb hlt => ?_, F.lp, F.size, F.os, F.tape, F.output, F.fz⟩, cst.sz, cst.dn⟩,
  ⟨fun s d' _ hd => ?_, fun id c' _ hc => ?_, fun id _ hle => c2' id (fun hb => by have := hz id hb; omega), cst.g.gl.im fun _ h => .inl h⟩⟩
 ·by_cases hid : B id
  ·rw [c2 id hid]; exact F.up.cur id
  ·rw [hzero id hid]; exact Nat.zero_le _
 ·rcases hb with hb | ⟨⟨id', st', h1, h2, h3⟩, h4⟩
  ·exact F.imn b hb hlt
  ·have := fresh id' st' h1 h2
   omega
 ·obtain ⟨d, h1, h2⟩ := S.sl s d' hd
  obtain ⟨h3, h4⟩ := rep.sl s d trivial h1
  exact ⟨h3, fz d d' h2 _ h4⟩
 ·obtain ⟨hid, c, h1, h2⟩ := S.ob id c' hc
  have H := hob1 id c h1
  cases h2 with
  | cells hcc =>
    obtain ⟨q0, q1, q2⟩ := H
    refine ⟨q0, (c2 id hid).trans q1, fun st hst => ?_⟩
    obtain ⟨vs, e, fr, q3, q4, q5⟩ := q2 st hst
    refine ⟨vs, e, fr, q3, q4, fun p c' hp hh hd => ?_⟩
    obtain ⟨c, k1, k2, k3⟩ := hcc p c' hp
    obtain ⟨u, k4, k5, k6⟩ := q5 p c k1 (k2 st hh) hd
    exact ⟨u, k4, fz _ _ k3 u k5, k6⟩
  | map hl hm =>
    obtain ⟨q1, en, cl, q2, q3, q4⟩ := H
    refine ⟨(c2 id hid).trans q1, en, cl, q2, by rw [<- hl]; exact q3, fun i e' f he' hf => ?_⟩
    rename_i es es'
    have hi : i < es.length := by rw [hl]; exact (List.getElem?_eq_some_iff.1 he').1
    obtain ⟨k1, k2⟩ := hm i _ e' (List.getElem?_eq_getElem hi) he'
    obtain ⟨k3, k4⟩ := q4 i _ f (List.getElem?_eq_getElem hi) hf
    exact ⟨fz _ _ k1 _ k3, fz _ _ k2 _ k4⟩
  | lp hsl =>
    obtain ⟨q1, l, q2, q3, q4, q5, q6⟩ := H
    refine ⟨(c2 id hid).trans q1, l, q2, q3, q4, fun s d' hs => ?_, q6⟩
    obtain ⟨d, k1, k2⟩ := hsl s d' hs
    exact ⟨(q5 s d k1).1, fz _ _ k2 _ (q5 s d k1).2⟩
  | hole => exact (c2 id hid).trans H
theorem NF : ∀ c : Code, ∃ c', aT P nt c' = aT P nt c /\ (∀ d, c' ≠ .scope d) /\ ∀ {F : Fence} {n : Nat} {Q : Exit -> Act -> World -> Prop} {a : Act} {w : World}, ∃ Q' : Exit -> Act -> World -> Prop, (∀ (e : Ex) a w, Q e.to a w -> Q' e.to a w) /\ (c'.wpIn F n P Q' a w -> c.wpIn F n P Q a w)
 | .scope c => let ⟨c', h1, h2, h3⟩ := NF c; ⟨c', h1, h2, fun {F n Q a w} => by
   obtain ⟨Q', k1, k2⟩ := h3 (F := F) (n := n) (Q := Exit.noGoto Q) (a := a) (w := w)
   exact ⟨Q', fun e a w h => k1 e a w (by cases e <;> exact h), fun h => gY (k2 h)⟩⟩
 | .skip => ⟨.skip, rfl, (fun _ h => by cases h), fun {F n Q a w} => ⟨Q, fun _ _ _ h => h, fun h => h⟩⟩
 | .label l => ⟨.label l, rfl, (fun _ h => by cases h), fun {F n Q a w} => ⟨Q, fun _ _ _ h => h, fun h => h⟩⟩
 | .ret => ⟨.ret, rfl, (fun _ h => by cases h), fun {F n Q a w} => ⟨Q, fun _ _ _ h => h, fun h => h⟩⟩
 | .exit i => ⟨.exit i, rfl, (fun _ h => by cases h), fun {F n Q a w} => ⟨Q, fun _ _ _ h => h, fun h => h⟩⟩
 | .region i o d => ⟨.region i o d, rfl, (fun _ h => by cases h), fun {F n Q a w} => ⟨Q, fun _ _ _ h => h, fun h => h⟩⟩
 | .seq a b => ⟨.seq a b, rfl, (fun _ h => by cases h), fun {F n Q a w} => ⟨Q, fun _ _ _ h => h, fun h => h⟩⟩
 | .cond c a b => ⟨.cond c a b, rfl, (fun _ h => by cases h), fun {F n Q a w} => ⟨Q, fun _ _ _ h => h, fun h => h⟩⟩
 | .block i a => ⟨.block i a, rfl, (fun _ h => by cases h), fun {F n Q a w} => ⟨Q, fun _ _ _ h => h, fun h => h⟩⟩
 | .loop a => ⟨.loop a, rfl, (fun _ h => by cases h), fun {F n Q a w} => ⟨Q, fun _ _ _ h => h, fun h => h⟩⟩
 | .rangeFunc f p a b => ⟨.rangeFunc f p a b, rfl, (fun _ h => by cases h), fun {F n Q a w} => ⟨Q, fun _ _ _ h => h, fun h => h⟩⟩
 | .goto l => ⟨.goto l, rfl, (fun _ h => by cases h), fun {F n Q a w} => ⟨Q, fun _ _ _ h => h, fun h => h⟩⟩
 | .refuse s => ⟨.refuse s, rfl, (fun _ h => by cases h), fun {F n Q a w} => ⟨Q, fun _ _ _ h => h, fun h => h⟩⟩
structure SeqZ (P : Program) (nt : Nat) (c : RC) (x : X) (K : Ex -> X -> Prop) (e : Ex) (z : X) : Prop where
 ok : e = .normal /\ ∃ z' B, ShrB B z z' /\ (∀ id : Pos, id.nat < x.nx.nat -> B id) /\ (∀ id : Pos, B id -> id.nat < z'.nx.nat) /\ x.nx.nat <= z'.nx.nat /\ Rn P nt c z' K
end
theorem WB.decT {p : Prop} [Decidable p] {F : Bool -> Prop} (h : p) (k : F true) : WB (decide p) F := WB.of (by rw [decide_eq_true h]; exact k)
theorem WB.decF {p : Prop} [Decidable p] {F : Bool -> Prop} (h : ¬ p) (k : F false) : WB (decide p) F := WB.of (by rw [decide_eq_false h]; exact k)
theorem WB.ndT {p : Prop} [Decidable p] {F : Bool -> Prop} (h : p) (k : F false) : WB (!decide p) F := WB.of (by rw [decide_eq_true h]; exact k)
theorem WB.ndF {p : Prop} [Decidable p] {F : Bool -> Prop} (h : ¬ p) (k : F true) : WB (!decide p) F := WB.of (by rw [decide_eq_false h]; exact k)
theorem WB.nt {F : Bool -> Prop} (k : F false) : WB (!true) F := WB.of k
theorem WB.nf {F : Bool -> Prop} (k : F true) : WB (!false) F := WB.of k
theorem WB.at' {b c : Bool} {F : Bool -> Prop} (h : b = c) (k : F c) : WB b F := WB.of (by rw [h]; exact k)
theorem Qm {p : Prop} [Decidable p] {F : Bool -> Prop} (k : F true) (h : p := by first | rfl | assumption | omega | exact ⟨rfl, rfl⟩) : WB (decide p) F := WB.decT h k
theorem Qn {p : Prop} [Decidable p] {F : Bool -> Prop} (k : F false) (h : ¬ p := by first | assumption | omega) : WB (decide p) F := WB.decF h k
theorem Qo {p : Prop} [Decidable p] {F : Bool -> Prop} (k : F false) (h : p := by first | rfl | assumption | omega | exact ⟨rfl, rfl⟩) : WB (!decide p) F := WB.ndT h k
theorem Qp {p : Prop} [Decidable p] {F : Bool -> Prop} (k : F true) (h : ¬ p := by first | assumption | omega) : WB (!decide p) F := WB.ndF h k
theorem Qy {p q : Prop} (k : q) (h : q -> p := by with_reducible (first | exact WB.decT (by first | rfl | assumption | omega | exact ⟨rfl, rfl⟩) | exact WB.decF (by first | assumption | omega) | exact WB.ndT (by first | rfl | assumption | omega | exact ⟨rfl, rfl⟩) | exact WB.ndF (by first | assumption | omega) | exact WB.nt | exact WB.nf)) : p := h k
theorem Qw {p q : Prop} (k : q) (h : q -> p := by first | with_reducible (first | exact WB.tt | exact WB.ff) | exact Qa rfl | exact Rn.cond rfl | exact WK (by omega) (by omega) | exact Yr (by omega) | exact WIx.intsN (by omega) | exact WIx.rowsN (by omega) | with_reducible (first | exact WB.decT (by first | rfl | assumption | omega | exact ⟨rfl, rfl⟩) | exact WB.decF (by first | assumption | omega) | exact WB.ndT (by first | rfl | assumption | omega | exact ⟨rfl, rfl⟩) | exact WB.ndF (by first | assumption | omega) | exact WB.nt | exact WB.nf)) : p := h k
theorem Qd {b : Bool} {F : Bool -> Prop} {p n : Prop} (k1 : p -> F true) (k0 : n -> F false) (h : (p -> F true) -> (n -> F false) -> WB b F := by first | with_reducible (first | exact fun a b => WB.dec a b | exact fun a b => WB.ndec a b) | exact fun a b => WB.mk a b) : WB b F := h k1 k0
theorem Qv {p q : Prop} (k : q) (h : q -> p := by first | exact WB.tt | exact WB.ff) : p := h k
open Go.RowKit (Below Grown)
section
variable {ob : T C}
end
section
variable {P : Program} {FP : T RF}
end
set_option maxRecDepth 100000
theorem wV {p : Nat -> Bool} {j : Nat} (h : (List.range j).all p = true) (k : p j = true) : (List.range (j + 1)).all p = true := by
 rw [List.range_succ, List.all_append, h]; simp [k]
theorem uC {p : Nat -> Bool} {j n : Nat} (h : j < n) (k : p j = false) : (List.range n).all p = false := by
 rw [List.all_eq_false]
 exact ⟨j, List.mem_range.2 h, by rw [k]; simp⟩
theorem Ka (l : List Int) : ∀ r ∈ ints l, r.length = 1 := fun r hr => by
 obtain ⟨n, _, rfl⟩ := List.mem_map.1 hr
 rfl
theorem WSt.ixaN {sl : T D} {ob : T C} {nx : Pos} {lg : Option (T Bool)} {K : X -> Prop} {d id : Pos} {len z off st m : Nat} {k : IntKind} {x i : RX} {n : Int} (hx : bE sl x = some (.pt id off st)) (hi : bE sl i = some (.i k n)) (hn : n = (m : Int)) (hm : m < len) (h : dL sl ob nx lg d K (.pt id (off + m * z) st)) : WSt (.ixa d len z x i) ⟨sl, ob, nx, lg⟩ K := by
 obtain ⟨h2, h3⟩ := aV h
 refine ⟨_, ?_, h3⟩
 show zG d len z x i sl ob nx lg = _
 unfold zG
 rw [hx, hi, hn]
 have e : Jy (m : Int) len = some m := by
  show (bif Nat.blt m len then some m else none) = _
  rw [show Nat.blt m len = true from Nat.ble_eq_true_of_le hm]
  rfl
 simp only [e, bP]
 exact h2
theorem Frz.ptr {ob : T C} {id : Pos} {st : Nat} {cs : List Cell} {cur : Nat} {r : List D} (h : ob.get id = some (.cells false cs cur)) (hc : cs = r.map fun d => Cell.o d st) (h0 : 0 < r.length) (hp : aO r) : Frz ob (.pt id 0 st) (.pl r 0) := by
 subst hc
 refine .pt (fun h => h) h h0 (fun k d hk => ⟨.o d st, ?_, ?_, rfl⟩) (FzL.of hp)
 ·rw [List.drop_zero, List.getElem?_map, hk]; rfl
 ·show Nat.ble st st = true
  exact Nat.ble_eq_true_of_le (Nat.le_refl _)
theorem T.le_ee {α : Type} {l r : T α} (hl : T.le l .e) (hr : T.le r .e) : T.le (.n l none r) .e := fun p x h => by
 cases p with
 | h => rw [T.get_h] at h; cases h
 | o p => exact absurd (hl p x h) (by rw [T.get_e]; exact fun h => by cases h)
 | i p => exact absurd (hr p x h) (by rw [T.get_e]; exact fun h => by cases h)
theorem KpO.le {n : Nat} {a b : T C} (h : T.le a b) (k : KpO n b) : KpO n a := fun id c hc => k id c (h id c hc)
theorem PE {n : Nat} {d : D} {r : Bool} {k m : Nat} (h : Kp n d) : KpC n (.cells r [.o d k] m) := by
 refine KpL.all ?_
 simp [KpL, Cell.d, h]
theorem ShrB.of {B : Pos -> Prop} {z z' : X} (hs : Rel (RS B z.ob) (fun p => p) z'.sl z.sl) (ho : Rel (fun id c c' => B id /\ ShC B z.ob c c') (fun p => p) z'.ob z.ob) (l : z.lg = none) (l' : z'.lg = none) : ShrB B z z' :=
 ⟨fun s d' h => hs s d' h, fun id c' h => by
  obtain ⟨c, h1, h2, h3⟩ := ho id c' h
  exact ⟨h2, c, h1, h3⟩, l, l'⟩
theorem Rel.ee {α : Type} {R : Pos -> α -> α -> Prop} {g : Pos -> Pos} {l r : T α} (hl : Rel R (fun p => g (.o p)) l .e) (hr : Rel R (fun p => g (.i p)) r .e) : Rel R g (.n l Option.none r) .e := fun p x h => by
 cases p with
 | h => rw [T.get_h] at h; cases h
 | o p => obtain ⟨y, h1, _⟩ := hl p x h; rw [T.get_e] at h1; cases h1
 | i p => obtain ⟨y, h1, _⟩ := hr p x h; rw [T.get_e] at h1; cases h1
theorem Fz.grown {B : Pos -> Prop} {ob : T C} {id : Pos} {s1 s2 cur n z : Nat} {ds r : List D} {cs : List Cell} {es : List (List D)} (hB : ¬ B id) (h : ob.get id = some (.cells false cs cur)) (hc : cs = (ds.map fun d => Cell.o d s1) ++ r.map fun d => Cell.o d s2) (hs : s1 <= s2) (he : es.flatten = ds ++ r) (hn : n = es.length) (hz : ∀ x ∈ es, x.length = z) (hp : dF es) : Fz B ob (.sl id 0 n s2 z) (.lst z es) := by
 subst hc
 refine .sl hB h hn.symm hz (fun k d hk => ?_) (FzE.of hp)
 rw [he] at hk
 rw [List.drop_zero]
 by_cases hlt : k < ds.length
 ·rw [List.getElem?_append_left hlt] at hk
  refine ⟨.o d s1, ?_, Nat.ble_eq_true_of_le hs, rfl⟩
  rw [List.getElem?_append_left (by simpa using hlt), List.getElem?_map, hk]; rfl
 ·rw [List.getElem?_append_right (by omega)] at hk
  refine ⟨.o d s2, ?_, Nat.ble_eq_true_of_le (Nat.le_refl _), rfl⟩
  rw [List.getElem?_append_right (by simp; omega), List.length_map, List.getElem?_map, hk]; rfl
theorem zI {β : Type} (new : List D) (k : List Cell -> Option β) : zP 0 1 new 0 [] k = k (new.map fun d => Cell.o d 1) := by
 show tK (Nat.pred 1) (eZ (List.length new) []) (fun l => nX (fun d => .o d 1) new l k) = _
 rw [cE, qT, lN]
 simp
section
variable {sl : T D} {ob : T C} {nx : Pos} {K : X -> Prop}
theorem WSt.eqr2 {lg : Option (T Bool)} {d : Pos} {x y : RX} {a b a' b' : Int} (h1 : bE sl x = some (.ag [.i .i64 a, .i .i64 b])) (h2 : bE sl y = some (.ag [.i .i64 a', .i .i64 b'])) (w1 : sL .i64 a = true) (w2 : sL .i64 b = true) (w3 : sL .i64 a' = true) (w4 : sL .i64 b' = true) (k : dL sl ob nx lg d K (.b (decide (a = a' /\ b = b')))) :
 WSt (.eqr d false [.i .i64, .i .i64] x y) ⟨sl, ob, nx, lg⟩ K := by
 obtain ⟨k1, k2⟩ := aV k
 refine ⟨_, ?_, k2⟩
 show tX _ _ _ x y sl ob nx lg = _
 unfold tX
 rw [h1, h2]
 have e : Br [.i .i64, .i .i64] (.ag [.i .i64 a, .i .i64 b]) (.ag [.i .i64 a', .i .i64 b']) = some (decide (a = a' /\ b = b')) := by
  have hk : xJ .i64 .i64 = true := rfl
  simp only [Br, FL, Rk, hk, w1, w2, w3, w4, Bool.and_self, cond_true, Option.some.injEq]
  simp only [kX, Bool.decide_and]
  have hb : ∀ a b : Int, (a == b) = decide (a = b) := fun a b => by by_cases h : a = b <;> simp [h]
  simp only [hb, Bool.and_true]
 simp only [e, cond_false, bZ]
 exact k1
end
theorem cK {n : Int} (h1 : -1000000000000000000 <= n) (h2 : n <= 1000000000000000000) : sL .i64 n = true := by
 cases n with
 | ofNat m =>
   have h2 : (m : Int) <= 1000000000000000000 := h2
   exact Nat.ble_eq_true_of_le (by simp only [iJ]; omega)
 | negSucc m =>
   have h1 : -1000000000000000000 <= Int.negSucc m := h1
   show (IntKind.signed .i64 && Nat.ble m (iJ .i64)) = true
   rw [show IntKind.signed .i64 = true from rfl, Bool.true_and]
   exact Nat.ble_eq_true_of_le (by simp only [iJ]; omega)
theorem tW : ∀ {L : List Int} {a : Int}, L.foldl min a = a \/ L.foldl min a ∈ L
 | [], a => .inl rfl
 | b :: L, a => by
   show List.foldl min (min a b) L = a \/ _
   rcases tW (L := L) (a := min a b) with h | h
   ·have : min a b = a \/ min a b = b := by omega
    rcases this with e | e
    ·exact .inl (by rw [h, e])
    ·exact .inr (by show List.foldl min (min a b) L ∈ _; rw [h, e]; simp)
   ·exact .inr (List.mem_cons_of_mem _ h)
theorem tZ : ∀ {L : List Int} {a : Int}, L.foldl max a = a \/ L.foldl max a ∈ L
 | [], a => .inl rfl
 | b :: L, a => by
   show List.foldl max (max a b) L = a \/ _
   rcases tZ (L := L) (a := max a b) with h | h
   ·have : max a b = a \/ max a b = b := by omega
    rcases this with e | e
    ·exact .inl (by rw [h, e])
    ·exact .inr (by show List.foldl max (max a b) L ∈ _; rw [h, e]; simp)
   ·exact .inr (List.mem_cons_of_mem _ h)
structure FinX (rs : List RR) (Φ : D -> Prop) (e : Ex) (z : X) : Prop where
 ok : ∃ v, Φ v /\ Fin rs v e z
theorem PureF.runE {P : Program} {f nt : Nat} {rc : RC} {rs : List RR} {ds : List D} {Φ : D -> Prop} (F : FnOk P f nt rc rs) (hlen : ds.length <= nt) (hp : aO ds) (h : tI ds .h .e fun sl => Rn P nt rc ⟨sl, .e, .h, none⟩ (FinX rs Φ)) : ∃ v, Φ v /\ PureF P f ds v := by
 obtain ⟨fn, c, hf, hb, hc, hr, hname, h6⟩ := F.ok
 subst h6
 obtain ⟨sl0, h, hsl⟩ := qZ h
 obtain ⟨e, ⟨sl, ob1, nx1, lg1⟩, X1, FE⟩ := h.ok c hc
 obtain ⟨v, hΦ, F⟩ := FE.ok
 obtain ⟨u, h1, h2⟩ := F.hr
 obtain ⟨v', ob', nx', lg', h3, C⟩ := oR (k := fun v ob nx lg => some ⟨T.set .h v .e, ob, nx, lg⟩) hf hb hr hname hlen hsl F.he X1 h1
 have h3 := Option.some.inj h3
 have e1 := congrArg (fun t => T.get t .h) (X.mk.inj h3).1
 simp only [T.get_set_same, Option.some.injEq] at e1
 have e2 := (X.mk.inj h3).2.1
 have e3 : ob' = ob1 := e2
 subst e1
 subst e3
 exact ⟨v, hΦ, C.shut hp h2⟩
theorem pre6 {l : List Int} (h : 6 < l.length) : ∃ a0 a1 a2 a3 a4 a5 a6 r, l = a0 :: a1 :: a2 :: a3 :: a4 :: a5 :: a6 :: r := by
 match l, h with
 | a0 :: a1 :: a2 :: a3 :: a4 :: a5 :: a6 :: r, _ => exact ⟨a0, a1, a2, a3, a4, a5, a6, r, rfl⟩
theorem Lw {α : Type} {a b : T α} (h : T.le a b := by repeat' first | exact T.le_e _ | exact T.le_refl _ | refine T.le_some ?_ rfl ?_ | refine T.le_none ?_ ?_ | refine T.le_ee ?_ ?_) : T.le a b := h
end Go.Ev
end
