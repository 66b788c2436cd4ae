import Derived.Test.YtjgbfnciedkafaaEvUPl
import Derived.Test.YtjgbfnciedkafaaEvUTc
import Derived.Test.YtjgbfnciedkafaaEvUWp
set_option linter.all false
namespace Go.Ev
open Go.Proofs
set_option maxRecDepth 1000000
def p118 : Pos := .o p59
def p119 : Pos := .i p59
def p120 : Pos := .o p60
def p121 : Pos := .i p60
def p122 : Pos := .o p61
def p123 : Pos := .i p61
def p124 : Pos := .o p62
def p125 : Pos := .i p62
def p136 : Pos := .o p68
def p137 : Pos := .i p68
def p138 : Pos := .o p69
def p139 : Pos := .i p69
def p140 : Pos := .o p70
def p141 : Pos := .i p70
def p142 : Pos := .o p71
def p143 : Pos := .i p71
def p144 : Pos := .o p72
def p145 : Pos := .i p72
def p156 : Pos := .o p78
def p157 : Pos := .i p78
def p158 : Pos := .o p79
def p159 : Pos := .i p79
def p160 : Pos := .o p80
def p161 : Pos := .i p80
def p165 : Pos := .i p82
noncomputable def rc39 : RC := (.seq (.reg [(.u (.box p2 (.t p1))), (.u (.new p3 [(.i .i64 0), (.i .i64 0)])), (.u (.mv p4 (.k (.i .i64 0))))]) (.seq (.reg [(.u (.ldn p8 (.t p2) 5)), (.u (.cf (some p9) p85 [(.t p8), (.k (.b true))])), (.u (.mv p7 (.t p9))), (.u (.ext p10 (.t p7) 0)), (.u (.ext p11 (.t p7) 1)), (.u (.new p5 [(.i .i64 0), (.i .i64 0), (.i .i64 0), .ns, .ns, .nm])), (.u (.st (.t p5) (.t p10) 6)), (.u (.mv p6 (.t p11)))]) (.seq (.seq (.reg [(.u (.mv p12 (.t p6))), (.u (.bin p13 .neq (.t p12) (.k (.i .i64 0))))]) (.cond (.t p13) (.seq (.reg [(.u (.bld p14 [(.i .i64 0), (.i .i64 0)] [])), (.u (.mv p15 (.t p6))), (.u (.st (.t p3) (.t p14) 2)), (.u (.mv p4 (.t p15)))]) .ret) .skip)) (.seq (.reg [(.u (.ldn p16 (.t p5) 6)), (.u (.fad p17 (.t p2) 3)), (.u (.ld1 p18 (.t p17))), (.u (.len p19 (.t p18))), (.u (.bld p20 [(.i .i64 0), .nf] [(0, (1, (.t p19))), (1, (1, (.k (.fn p78 [] []))))])), (.u (.cf (some p21) p89 [(.t p16), (.t p20)])), (.u (.st (.t p3) (.t p21) 2)), (.u (.mv p4 (.k (.i .i64 0))))]) .ret))))
def rs39 : List RR := [(.cn p3 2), (.t p4)]
theorem fn39 : FnOk Try.prog p40.ix 21 rc39 rs39 := ⟨Try.f39, bodyC Try.f39, Try.func39, by kernel_rfl, by kernel_rfl, by kernel_rfl, by kernel_rfl, by kernel_rfl⟩
noncomputable def rc47 : RC := (.seq (.reg [(.u (.box p2 (.t p1))), (.u (.mv p3 (.k .ns))), (.u (.mv p4 (.k (.i .i64 0))))]) (.seq (.seq (.reg [(.u (.ldn p8 (.t p2) 5)), (.u (.cf (some p9) p28 [(.t p8)])), (.u (.mv p5 (.t p9)))]) (.seq (.reg [(.u (.mv p10 (.t p5))), (.u (.bin p11 .neq (.t p10) (.k (.i .i64 0))))]) (.cond (.t p11) (.seq (.reg [(.u (.mv p12 (.t p5))), (.u (.mv p3 (.k .ns))), (.u (.mv p4 (.t p12)))]) .ret) .skip))) (.seq (.reg [(.u (.ldn p14 (.t p2) 5)), (.u (.cf (some p15) p75 [(.t p14)])), (.u (.cf (some p16) p95 [(.t p15)])), (.u (.mv p13 (.t p16))), (.u (.ext p17 (.t p13) 0)), (.u (.ext p18 (.t p13) 1)), (.u (.mv p6 (.t p17))), (.u (.mv p7 (.t p18)))]) (.seq (.seq (.reg [(.u (.mv p19 (.t p7))), (.u (.un p20 .not (.t p19)))]) (.cond (.t p20) (.seq (.reg [(.u (.mv p3 (.k .ns))), (.u (.mv p4 (.k (.i .i64 10))))]) .ret) .skip)) (.seq (.reg [(.u (.mv p21 (.t p6))), (.u (.mv p3 (.t p21))), (.u (.mv p4 (.k (.i .i64 0))))]) .ret)))))
def rs47 : List RR := [(.t p3), (.t p4)]
theorem fn47 : FnOk Try.prog p48.ix 21 rc47 rs47 := ⟨Try.f47, bodyC Try.f47, Try.func47, by kernel_rfl, by kernel_rfl, by kernel_rfl, by kernel_rfl, by kernel_rfl⟩
noncomputable def rc64 : RC := (.seq (.reg [(.u (.box p3 (.t p1))), (.u (.new p5 [(.i .i64 0), (.i .i64 0), (.i .i64 0), .ns, .ns]))]) (.seq (.reg [(.u (.ldn p10 (.t p3) 5)), (.u (.new p6 [(.i .i64 0), (.i .i64 0), (.i .i64 0), .ns, .ns])), (.u (.st (.t p6) (.t p10) 5))]) (.seq (.reg [(.u (.fad p11 (.t p6) 3)), (.u (.st (.t p11) (.k .ns) 1)), (.u (.fad p12 (.t p6) 4)), (.u (.st (.t p12) (.k .ns) 1))]) (.seq (.seq (.reg [(.u (.mv p7 (.k (.i .i64 0))))]) (.blk 0 (.loop (.seq (.seq (.reg [(.u (.mv p13 (.t p7))), (.u (.fad p14 (.t p3) 3)), (.u (.ld1 p15 (.t p14))), (.u (.len p16 (.t p15))), (.u (.bin p17 .lss (.t p13) (.t p16)))]) (.cond (.t p17) .skip (.exit 0))) (.seq (.blk 1 (.seq (.reg [(.u (.mv p20 (.t p2))), (.u (.mv p21 (.t p7))), (.u (.cvi p22 .u64 (.t p21))), (.u (.bin p23 .shr (.t p20) (.t p22))), (.u (.bin p24 .rem (.t p23) (.k (.i .i64 2)))), (.u (.bin p25 .eql (.t p24) (.k (.i .i64 1))))]) (.cond (.t p25) (.drw [(.u (.fad p26 (.t p6) 3)), (.u (.ld1 p27 (.t p26))), (.u (.fad p28 (.t p3) 3)), (.u (.ld1 p29 (.t p28))), (.u (.mv p30 (.t p7))), (.u (.ixs p31 3 (.t p29) (.t p30))), (.u (.ldn p32 (.t p31) 3)), (.u (.bsl p33 3 1 [(.i .i64 0), (.i .i64 0), (.i .i64 0)] [(0, (3, (.t p32)))])), (.u (.app p34 3 (.t p27) (.t p33))), (.u (.fad p35 (.t p6) 3)), (.u (.st (.t p35) (.t p34) 1))] [0, 1, 0, 4, 0, 28, 60, 124, 255, 511, 1023]) .skip))) (.reg [(.u (.mv p18 (.t p7))), (.u (.bin p19 .add (.t p18) (.k (.i .i64 1)))), (.u (.mv p7 (.t p19)))])))))) (.seq (.seq (.reg [(.u (.mv p8 (.k (.i .i64 0))))]) (.blk 2 (.loop (.seq (.seq (.reg [(.u (.mv p36 (.t p8))), (.u (.fad p37 (.t p3) 4)), (.u (.ld1 p38 (.t p37))), (.u (.len p39 (.t p38))), (.u (.bin p40 .lss (.t p36) (.t p39)))]) (.cond (.t p40) .skip (.exit 2))) (.seq (.blk 3 (.seq (.reg [(.u (.fad p43 (.t p3) 4)), (.u (.ld1 p44 (.t p43))), (.u (.mv p45 (.t p8))), (.u (.ixs p46 3 (.t p44) (.t p45))), (.u (.ldn p47 (.t p46) 3)), (.u (.new p9 [(.i .i64 0), (.i .i64 0), (.i .i64 0)])), (.u (.st (.t p9) (.t p47) 3))]) (.seq (.reg [(.u (.mv p48 (.t p2))), (.u (.fad p49 (.t p9) 0)), (.u (.ld1 p50 (.t p49))), (.u (.cvi p51 .u64 (.t p50))), (.u (.bin p52 .shl (.k (.i .i64 1)) (.t p51))), (.u (.bin p53 .sub (.t p52) (.k (.i .i64 1)))), (.u (.bin p54 .and (.t p48) (.t p53))), (.u (.cf (some p55) p68 [(.t p54)])), (.u (.len p56 (.t p55))), (.u (.fad p57 (.t p9) 0)), (.u (.st (.t p57) (.t p56) 1))]) (.reg [(.u (.fad p58 (.t p6) 4)), (.u (.ld1 p59 (.t p58))), (.u (.ldn p60 (.t p9) 3)), (.u (.bsl p61 3 1 [(.i .i64 0), (.i .i64 0), (.i .i64 0)] [(0, (3, (.t p60)))])), (.u (.app p62 3 (.t p59) (.t p61))), (.u (.fad p63 (.t p6) 4)), (.u (.st (.t p63) (.t p62) 1))])))) (.reg [(.u (.mv p41 (.t p8))), (.u (.bin p42 .add (.t p41) (.k (.i .i64 1)))), (.u (.mv p8 (.t p42)))])))))) (.seq (.reg [(.u (.ldn p64 (.t p6) 5)), (.u (.st (.t p5) (.t p64) 5))]) .ret))))))
def rs64 : List RR := [(.cn p5 5)]
theorem fn64 : FnOk Try.prog p65.ix 64 rc64 rs64 := ⟨Try.f64, bodyC Try.f64, Try.func64, by kernel_rfl, by kernel_rfl, by kernel_rfl, by kernel_rfl, by kernel_rfl⟩
noncomputable def rc65 : RC := (.seq (.reg [(.u (.box p2 (.t p1))), (.u (.mv p3 (.k (.i .i64 0))))]) (.seq (.reg [(.u (.fad p4 (.t p2) 3)), (.u (.ld1 p5 (.t p4))), (.u (.len p6 (.t p5))), (.u (.cvi p7 .u64 (.t p6))), (.u (.bin p8 .shl (.k (.i .i64 1)) (.t p7))), (.u (.bin p9 .sub (.t p8) (.k (.i .i64 1)))), (.u (.mv p3 (.t p9)))]) .ret))
def rs65 : List RR := [(.t p3)]
theorem fn65 : FnOk Try.prog p66.ix 9 rc65 rs65 := ⟨Try.f65, bodyC Try.f65, Try.func65, by kernel_rfl, by kernel_rfl, by kernel_rfl, by kernel_rfl, by kernel_rfl⟩
noncomputable def rc66 : RC := (.seq (.reg [(.u (.mv p5 (.k (.b false))))]) (.seq (.reg [(.u (.mv p6 (.t p1))), (.u (.len p7 (.t p6))), (.u (.mv p8 (.t p2))), (.u (.len p9 (.t p8))), (.u (.bin p10 .lss (.t p7) (.t p9))), (.u (.mv p11 (.t p10))), (.g p11 false (some p12) (.mv p12 (.t p1))), (.g p11 false (some p13) (.len p13 (.t p12))), (.g p11 false (some p14) (.mv p14 (.t p2))), (.g p11 false (some p15) (.len p15 (.t p14))), (.g p11 false (some p16) (.bin p16 .eql (.t p13) (.t p15))), (.g p11 false (some p17) (.mv p17 (.t p16))), (.g p17 true (some p18) (.mv p18 (.t p1))), (.g p17 true (some p19) (.mv p19 (.t p2))), (.g p17 true (some p20) (.cf (some p20) p99 [(.t p18), (.t p19)])), (.g p11 false (some p21) (.pick p21 (.t p17) (.t p20) (.k (.b false)))), (.u (.pick p22 (.t p11) (.k (.b true)) (.t p21))), (.u (.mv p5 (.t p22)))]) .ret))
def rs66 : List RR := [(.t p5)]
theorem fn66 : FnOk Try.prog p67.ix 22 rc66 rs66 := ⟨Try.f66, bodyC Try.f66, Try.func66, by kernel_rfl, by kernel_rfl, by kernel_rfl, by kernel_rfl, by kernel_rfl⟩
noncomputable def rc67 : RC := (.seq (.reg [(.u (.mv p3 (.k .ns)))]) (.seq (.reg [(.u (.mv p4 (.k .ns)))]) (.seq (.seq (.reg [(.u (.mv p5 (.k (.i .i64 0))))]) (.blk 0 (.loop (.seq (.seq (.reg [(.u (.mv p6 (.t p1))), (.u (.mv p7 (.t p5))), (.u (.cvi p8 .u64 (.t p7))), (.u (.bin p9 .shr (.t p6) (.t p8))), (.u (.bin p10 .gtr (.t p9) (.k (.i .i64 0))))]) (.cond (.t p10) .skip (.exit 0))) (.seq (.blk 1 (.seq (.reg [(.u (.mv p13 (.t p1))), (.u (.mv p14 (.t p5))), (.u (.cvi p15 .u64 (.t p14))), (.u (.bin p16 .shr (.t p13) (.t p15))), (.u (.bin p17 .rem (.t p16) (.k (.i .i64 2)))), (.u (.bin p18 .eql (.t p17) (.k (.i .i64 1))))]) (.cond (.t p18) (.reg [(.u (.mv p19 (.t p4))), (.u (.mv p20 (.t p5))), (.u (.bsl p21 1 1 [(.i .i64 0)] [(0, (1, (.t p20)))])), (.u (.app p22 1 (.t p19) (.t p21))), (.u (.mv p4 (.t p22)))]) .skip))) (.reg [(.u (.mv p11 (.t p5))), (.u (.bin p12 .add (.t p11) (.k (.i .i64 1)))), (.u (.mv p5 (.t p12)))])))))) (.seq (.reg [(.u (.mv p23 (.t p4))), (.u (.mv p3 (.t p23)))]) .ret))))
def rs67 : List RR := [(.t p3)]
theorem fn67 : FnOk Try.prog p68.ix 23 rc67 rs67 := ⟨Try.f67, bodyC Try.f67, Try.func67, by kernel_rfl, by kernel_rfl, by kernel_rfl, by kernel_rfl, by kernel_rfl⟩
noncomputable def rc84 : RC := (.seq (.reg [(.u (.box p3 (.t p1))), (.u (.new p5 [(.i .i64 0), (.i .i64 0), (.i .i64 0), .ns, .ns, .nm])), (.u (.mv p6 (.k (.i .i64 0))))]) (.seq (.seq (.reg [(.u (.ldn p9 (.t p3) 5)), (.u (.cf (some p10) p28 [(.t p9)])), (.u (.mv p7 (.t p10)))]) (.seq (.reg [(.u (.mv p11 (.t p7))), (.u (.bin p12 .neq (.t p11) (.k (.i .i64 0))))]) (.cond (.t p12) (.seq (.reg [(.u (.bld p13 [(.i .i64 0), (.i .i64 0), (.i .i64 0), .ns, .ns, .nm] [])), (.u (.mv p14 (.t p7))), (.u (.st (.t p5) (.t p13) 6)), (.u (.mv p6 (.t p14)))]) .ret) .skip))) (.seq (.seq (.reg [(.u (.mv p15 (.t p2))), (.u (.un p16 .not (.t p15)))]) (.cond (.t p16) (.seq (.reg [(.u (.bld p17 [(.i .i64 0), (.i .i64 0), (.i .i64 0), .ns, .ns, .nm] [])), (.u (.st (.t p5) (.t p17) 6)), (.u (.mv p6 (.k (.i .i64 2))))]) .ret) .skip)) (.seq (.reg [(.u (.ldn p18 (.t p3) 5)), (.u (.cf (some p19) p75 [(.t p18)])), (.u (.new p8 [(.i .i64 0), (.i .i64 0), (.i .i64 0), .ns, .ns, .nm])), (.u (.st (.t p8) (.t p19) 6))]) (.seq (.seq (.reg [(.u (.ldn p20 (.t p8) 6)), (.u (.cf (some p21) p94 [(.t p20)])), (.u (.un p22 .not (.t p21)))]) (.cond (.t p22) (.seq (.reg [(.u (.bld p23 [(.i .i64 0), (.i .i64 0), (.i .i64 0), .ns, .ns, .nm] [])), (.u (.st (.t p5) (.t p23) 6)), (.u (.mv p6 (.k (.i .i64 11))))]) .ret) .skip)) (.seq (.reg [(.u (.ldn p24 (.t p8) 6)), (.u (.st (.t p5) (.t p24) 6)), (.u (.mv p6 (.k (.i .i64 0))))]) .ret))))))
def rs84 : List RR := [(.cn p5 6), (.t p6)]
theorem fn84 : FnOk Try.prog p85.ix 24 rc84 rs84 := ⟨Try.f84, bodyC Try.f84, Try.func84, by kernel_rfl, by kernel_rfl, by kernel_rfl, by kernel_rfl, by kernel_rfl⟩
noncomputable def rc88 : RC := (.seq (.reg [(.u (.box p3 (.t p1))), (.u (.box p4 (.t p2))), (.u (.new p5 [(.i .i64 0), (.i .i64 0)]))]) (.seq (.reg [(.u (.new p6 [.ns]))]) (.seq (.seq (.reg [(.u (.ldn p8 (.t p3) 6)), (.u (.cf (some p9) p120 [(.t p8)]))]) (.blk 0 (.rf (.t p9) [p10] 28 (rfA (bodyC Try.f88) 0) (rfB (bodyC Try.f88) 0)))) (.seq (.drw [(.u (.ld1 p21 (.t p6))), (.u (.ixs p22 1 (.t p21) (.k (.i .i64 0)))), (.u (.ld1 p23 (.t p22))), (.u (.ld1 p24 (.t p6))), (.u (.cf (some p25) p121 [(.t p23), (.t p24)])), (.u (.ld1 p26 (.t p6))), (.u (.cf (some p27) p122 [(.t p26)])), (.u (.bld p28 [(.i .i64 0), (.i .i64 0)] [(0, (1, (.t p25))), (1, (1, (.t p27)))])), (.u (.st (.t p5) (.t p28) 2))] [0, 1, 3, 0, 15, 0, 63, 127, 255]) .ret))))
def rs88 : List RR := [(.cn p5 2)]
theorem fn88 : FnOk Try.prog p89.ix 28 rc88 rs88 := ⟨Try.f88, bodyC Try.f88, Try.func88, by kernel_rfl, by kernel_rfl, by kernel_rfl, by kernel_rfl, by kernel_rfl⟩
noncomputable def rc88a0 : RC := (.reg [(.u (.new p7 [(.i .i64 0), (.i .i64 0), (.i .i64 0), (.i .i64 0), (.i .i64 0), (.i .i64 0), (.i .i64 0), (.i .i64 0), (.i .i64 0), (.i .i64 0), (.i .i64 0), (.i .i64 0), (.i .i64 0), (.i .i64 0), (.i .i64 0), (.i .i64 0), (.i .i64 0), (.i .i64 0), (.i .i64 0), (.i .i64 0), (.i .i64 0), (.i .i64 0), (.i .i64 0), (.i .i64 0), (.i .i64 0), (.i .i64 0), (.i .i64 0), (.i .i64 0), (.i .i64 0), (.i .i64 0), (.i .i64 0), (.i .i64 0), (.i .i64 0), (.i .i64 0), (.i .i64 0), (.i .i64 0), (.i .i64 0), (.i .i64 0), (.i .i64 0), (.i .i64 0), (.i .i64 0), (.i .i64 0), (.i .i64 0), (.i .i64 0), (.i .i64 0), (.i .i64 0), (.i .i64 0), (.i .i64 0), (.i .i64 0), (.i .i64 0), (.i .i64 0), (.i .i64 0), (.i .i64 0), (.i .i64 0), (.i .i64 0), (.i .i64 0), (.i .i64 0), (.i .i64 0), (.i .i64 0), (.i .i64 0), (.i .i64 0), (.i .i64 0), (.i .i64 0), (.i .i64 0), (.i .i64 0), (.i .i64 0), (.i .i64 0), (.i .i64 0), (.i .i64 0), (.i .i64 0), (.i .i64 0), (.i .i64 0), (.i .i64 0), (.i .i64 0), (.i .i64 0), (.i .i64 0), (.i .i64 0), (.i .i64 0), (.i .i64 0), (.i .i64 0), (.i .i64 0), (.i .i64 0), (.i .i64 0), (.i .i64 0), (.i .i64 0), (.i .i64 0), (.i .i64 0), (.i .i64 0), (.i .i64 0), (.i .i64 0), (.i .i64 0), (.i .i64 0), (.i .i64 0), (.i .i64 0), (.i .i64 0), (.i .i64 0), (.i .i64 0), (.i .i64 0), (.i .i64 0), (.i .i64 0), (.i .i64 0), (.i .i64 0), (.i .i64 0), (.i .i64 0), (.i .i64 0), (.i .i64 0), (.i .i64 0), (.i .i64 0), (.i .i64 0), (.i .i64 0), (.i .i64 0), (.i .i64 0), (.i .i64 0), (.i .i64 0), (.i .i64 0), (.i .i64 0), (.i .i64 0), (.i .i64 0), (.i .i64 0), (.i .i64 0), (.i .i64 0), (.i .i64 0), (.i .i64 0), (.i .i64 0), (.i .i64 0), (.i .i64 0)])), (.u (.st (.t p7) (.t p10) 126))])
theorem rc88a0_ok : comp Try.prog 28 (rfA (bodyC Try.f88) 0) = rc88a0 := by kernel_rfl
noncomputable def rc88b0 : RC := (.blk 1 (.drw [(.u (.ld1 p11 (.t p6))), (.u (.fad p12 (.t p4) 1)), (.u (.ld1 p13 (.t p12))), (.u (.fad p14 (.t p4) 0)), (.u (.ld1 p15 (.t p14))), (.u (.ixa p16 9 14 (.t p7) (.t p15))), (.u (.ldn p17 (.t p16) 14)), (.u (.cv (some p18) (.t p13) [(.t p17)])), (.u (.bsl p19 1 1 [(.i .i64 0)] [(0, (1, (.t p18)))])), (.u (.app p20 1 (.t p11) (.t p19))), (.u (.st (.t p6) (.t p20) 1))] [0, 0, 2, 0, 8, 24, 56, 126, 254, 511, 1023]))
theorem rc88b0_ok : comp Try.prog 28 (rfB (bodyC Try.f88) 0) = rc88b0 := by kernel_rfl
noncomputable def rc93 : RC := (.seq (.reg [(.u (.box p2 (.t p1))), (.u (.mv p3 (.k (.b false))))]) (.seq (.drw [(.u (.ldn p4 (.t p2) 6)), (.u (.ldn p5 (.t p2) 6)), (.u (.cf (some p6) p105 [(.t p5)])), (.u (.cf (some p7) p123 [(.t p4), (.t p6)])), (.u (.mv p3 (.t p7)))] [0, 0, 2, 7, 15]) .ret))
def rs93 : List RR := [(.t p3)]
theorem fn93 : FnOk Try.prog p94.ix 7 rc93 rs93 := ⟨Try.f93, bodyC Try.f93, Try.func93, by kernel_rfl, by kernel_rfl, by kernel_rfl, by kernel_rfl, by kernel_rfl⟩
noncomputable def rc94 : RC := (.seq (.reg [(.u (.box p2 (.t p1))), (.u (.new p3 [.ns])), (.u (.new p4 [(.b false)]))]) (.seq .skip (.seq (.seq (.reg [(.u (.fad p7 (.t p2) 0)), (.u (.fad p8 (.t p7) 3)), (.u (.ld1 p9 (.t p8))), (.u (.len p10 (.t p9))), (.u (.bin p11 .add (.t p10) (.k (.i .i64 1)))), (.u (.mv p12 (.k (.i .i64 0))))]) (.blk 0 (.loop (.seq (.reg [(.u (.bin p13 .lss (.t p12) (.t p11)))]) (.seq (.cond (.t p13) .skip (.exit 0)) (.seq (.blk 1 (.seq (.reg [(.u (.mv p14 (.t p12))), (.u (.mv p5 (.t p14)))]) (.seq (.reg [(.u (.fad p15 (.t p2) 0)), (.u (.fad p16 (.t p15) 3)), (.u (.ld1 p17 (.t p16))), (.u (.len p18 (.t p17))), (.u (.mv p19 (.t p5))), (.u (.cf (some p20) p124 [(.t p18), (.t p19)]))]) (.blk 2 (.rf (.t p20) [p21] 30 (rfA (bodyC Try.f94) 0) (rfB (bodyC Try.f94) 0)))))) (.reg [(.u (.bin p28 .add (.t p12) (.k (.i .i64 1)))), (.u (.mv p12 (.t p28)))]))))))) (.seq (.drw [(.u (.ld1 p29 (.t p3))), (.u (.ld1 p30 (.t p4))), (.u (.st (.t p3) (.t p29) 1)), (.u (.st (.t p4) (.t p30) 1))] [0, 0, 1, 7]) .ret))))
def rs94 : List RR := [(.c1 p3), (.c1 p4)]
theorem fn94 : FnOk Try.prog p95.ix 30 rc94 rs94 := ⟨Try.f94, bodyC Try.f94, Try.func94, by kernel_rfl, by kernel_rfl, by kernel_rfl, by kernel_rfl, by kernel_rfl⟩
noncomputable def rc94a0 : RC := (.reg [(.u (.mv p6 (.t p21)))])
theorem rc94a0_ok : comp Try.prog 30 (rfA (bodyC Try.f94) 0) = rc94a0 := by kernel_rfl
noncomputable def rc94b0 : RC := (.blk 3 (.seq (.reg [(.u (.ldn p22 (.t p2) 6)), (.u (.mv p23 (.t p6))), (.u (.cf (some p24) p125 [(.t p22), (.t p23)])), (.u (.cf (some p25) p75 [(.t p24)])), (.u (.cf (some p26) p94 [(.t p25)]))]) (.cond (.t p26) (.seq (.reg [(.u (.mv p27 (.t p6))), (.u (.st (.t p3) (.t p27) 1)), (.u (.st (.t p4) (.k (.b true)) 1))]) (.exit 0)) .skip)))
theorem rc94b0_ok : comp Try.prog 30 (rfB (bodyC Try.f94) 0) = rc94b0 := by kernel_rfl
noncomputable def rc98 : RC := (.seq (.reg [(.u (.mv p5 (.k (.b false))))]) (.seq (.seq (.reg [(.u (.mv p6 (.k (.i .i64 0))))]) (.blk 0 (.loop (.seq (.seq (.reg [(.u (.mv p7 (.t p6))), (.u (.mv p8 (.t p1))), (.u (.len p9 (.t p8))), (.u (.bin p10 .lss (.t p7) (.t p9))), (.u (.mv p11 (.t p10))), (.g p11 true (some p12) (.mv p12 (.t p6))), (.g p11 true (some p13) (.mv p13 (.t p2))), (.g p11 true (some p14) (.len p14 (.t p13))), (.g p11 true (some p15) (.bin p15 .lss (.t p12) (.t p14))), (.u (.pick p16 (.t p11) (.t p15) (.k (.b false))))]) (.cond (.t p16) .skip (.exit 0))) (.seq (.blk 1 (.seq (.drw [(.u (.mv p19 (.t p1))), (.u (.mv p20 (.t p6))), (.u (.ixs p21 1 (.t p19) (.t p20))), (.u (.ld1 p22 (.t p21))), (.u (.mv p23 (.t p2))), (.u (.mv p24 (.t p6))), (.u (.ixs p25 1 (.t p23) (.t p24))), (.u (.ld1 p26 (.t p25))), (.u (.bin p27 .neq (.t p22) (.t p26)))] [0, 0, 3, 7, 0, 0, 48, 112, 255]) (.cond (.t p27) (.seq (.drw [(.u (.mv p28 (.t p1))), (.u (.mv p29 (.t p6))), (.u (.ixs p30 1 (.t p28) (.t p29))), (.u (.ld1 p31 (.t p30))), (.u (.mv p32 (.t p2))), (.u (.mv p33 (.t p6))), (.u (.ixs p34 1 (.t p32) (.t p33))), (.u (.ld1 p35 (.t p34))), (.u (.bin p36 .lss (.t p31) (.t p35))), (.u (.mv p5 (.t p36)))] [0, 0, 3, 7, 0, 0, 48, 112, 255, 511]) .ret) .skip))) (.reg [(.u (.mv p17 (.t p6))), (.u (.bin p18 .add (.t p17) (.k (.i .i64 1)))), (.u (.mv p6 (.t p18)))])))))) (.seq (.reg [(.u (.mv p37 (.t p1))), (.u (.len p38 (.t p37))), (.u (.mv p39 (.t p2))), (.u (.len p40 (.t p39))), (.u (.bin p41 .lss (.t p38) (.t p40))), (.u (.mv p5 (.t p41)))]) .ret)))
def rs98 : List RR := [(.t p5)]
theorem fn98 : FnOk Try.prog p99.ix 41 rc98 rs98 := ⟨Try.f98, bodyC Try.f98, Try.func98, by kernel_rfl, by kernel_rfl, by kernel_rfl, by kernel_rfl, by kernel_rfl⟩
noncomputable def rc119 : RC := (.seq (.reg [(.u (.box p2 (.t p1))), (.u (.mv p3 (.k .nf)))]) (.seq (.reg [(.u (.fnl p4 p136 [] [(.t p2)])), (.u (.mv p3 (.t p4)))]) .ret))
def rs119 : List RR := [(.t p3)]
theorem fn119 : FnOk Try.prog p120.ix 4 rc119 rs119 := ⟨Try.f119, bodyC Try.f119, Try.func119, by kernel_rfl, by kernel_rfl, by kernel_rfl, by kernel_rfl, by kernel_rfl⟩
noncomputable def rc120 : RC := (.seq (.reg [(.u (.mv p5 (.k (.i .i64 0))))]) (.seq (.seq (.reg [(.u (.mv p8 (.t p2))), (.u (.len p9 (.t p8))), (.u (.mv p10 (.k (.i .i64 0))))]) (.blk 0 (.loop (.seq (.reg [(.u (.bin p11 .lss (.t p10) (.t p9)))]) (.seq (.cond (.t p11) .skip (.exit 0)) (.seq (.blk 1 (.seq (.reg [(.u (.ixs p12 1 (.t p8) (.t p10))), (.u (.ld1 p13 (.t p12))), (.u (.mv p7 (.t p13)))]) (.reg [(.u (.mv p14 (.t p1))), (.u (.mv p15 (.t p7))), (.u (.mn p16 (.t p14) (.t p15))), (.u (.mv p1 (.t p16)))]))) (.reg [(.u (.bin p17 .add (.t p10) (.k (.i .i64 1)))), (.u (.mv p10 (.t p17)))]))))))) (.seq (.reg [(.u (.mv p18 (.t p1))), (.u (.mv p5 (.t p18)))]) .ret)))
def rs120 : List RR := [(.t p5)]
theorem fn120 : FnOk Try.prog p121.ix 18 rc120 rs120 := ⟨Try.f120, bodyC Try.f120, Try.func120, by kernel_rfl, by kernel_rfl, by kernel_rfl, by kernel_rfl, by kernel_rfl⟩
noncomputable def rc121 : RC := (.seq (.reg [(.u (.mv p3 (.k (.i .i64 0))))]) (.seq (.seq (.reg [(.u (.mv p6 (.t p1))), (.u (.len p7 (.t p6))), (.u (.bin p8 .lss (.t p7) (.k (.i .i64 1))))]) (.cond (.t p8) (.reg [(.u .bad), (.u .bad)]) .skip)) (.seq (.reg [(.u (.mv p10 (.t p1))), (.u (.ixs p11 1 (.t p10) (.k (.i .i64 0)))), (.u (.ld1 p12 (.t p11))), (.u (.mv p4 (.t p12)))]) (.seq (.seq (.reg [(.u (.mv p5 (.k (.i .i64 1))))]) (.blk 0 (.loop (.seq (.seq (.reg [(.u (.mv p13 (.t p5))), (.u (.mv p14 (.t p1))), (.u (.len p15 (.t p14))), (.u (.bin p16 .lss (.t p13) (.t p15)))]) (.cond (.t p16) .skip (.exit 0))) (.seq (.blk 1 (.reg [(.u (.mv p19 (.t p4))), (.u (.mv p20 (.t p1))), (.u (.mv p21 (.t p5))), (.u (.ixs p22 1 (.t p20) (.t p21))), (.u (.ld1 p23 (.t p22))), (.u (.mx p24 (.t p19) (.t p23))), (.u (.mv p4 (.t p24)))])) (.reg [(.u (.mv p17 (.t p5))), (.u (.bin p18 .add (.t p17) (.k (.i .i64 1)))), (.u (.mv p5 (.t p18)))])))))) (.seq (.reg [(.u (.mv p25 (.t p4))), (.u (.mv p3 (.t p25)))]) .ret)))))
def rs121 : List RR := [(.t p3)]
theorem fn121 : FnOk Try.prog p122.ix 25 rc121 rs121 := ⟨Try.f121, bodyC Try.f121, Try.func121, by kernel_rfl, by kernel_rfl, by kernel_rfl, by kernel_rfl, by kernel_rfl⟩
noncomputable def rc122 : RC := (.seq (.reg [(.u (.box p3 (.t p1))), (.u (.box p4 (.t p2))), (.u (.mv p5 (.k (.b false))))]) (.seq (.reg [(.u (.ldn p9 (.t p4) 14)), (.u (.cf (some p10) p139 [(.t p9)])), (.u (.new p6 [(.i .i64 0), (.b false), (.b false), (.b false), (.b false), (.b false), (.b false), (.b false), (.b false)])), (.u (.st (.t p6) (.t p10) 9))]) (.seq (.reg [(.u (.fad p12 (.t p3) 5)), (.u (.ld1 p13 (.t p12))), (.u (.ldn p14 (.t p6) 9)), (.u (.lkp p15 (.b false) true [(.i .i64), .b, .b, .b, .b, .b, .b, .b, .b] (.t p13) (.t p14))), (.u (.mv p11 (.t p15))), (.u (.ext p16 (.t p11) 0)), (.u (.ext p17 (.t p11) 1)), (.u (.mv p7 (.t p16))), (.u (.mv p8 (.t p17)))]) (.seq (.seq (.reg [(.u (.mv p18 (.t p8))), (.u (.un p19 .not (.t p18)))]) (.cond (.t p19) (.seq (.drw [(.u (.ldn p20 (.t p3) 6)), (.u (.ldn p21 (.t p4) 14)), (.u (.cf (some p22) p80 [(.t p20), (.t p21)])), (.u (.mv p23 (.t p22))), (.g p23 true (some p24) (.fad p24 (.t p4) 0)), (.g p23 true (some p25) (.ld1 p25 (.t p24))), (.g p23 true (some p26) (.fad p26 (.t p3) 0)), (.g p23 true (some p27) (.fad p27 (.t p26) 3)), (.g p23 true (some p28) (.ld1 p28 (.t p27))), (.g p23 true (some p29) (.len p29 (.t p28))), (.g p23 true (some p30) (.bin p30 .eql (.t p25) (.t p29))), (.g p23 true (some p31) (.mv p31 (.t p30))), (.g p31 false (some p32) (.ldn p32 (.t p3) 6)), (.g p31 false (some p33) (.ldn p33 (.t p4) 14)), (.g p31 false (some p34) (.cf (some p34) p138 [(.t p32), (.t p33)])), (.g p31 false (some p35) (.ldn p35 (.t p3) 6)), (.g p31 false (some p36) (.fnl p36 p123 [(.t p35)] [])), (.g p31 false (some p37) (.cf (some p37) p140 [(.t p34), (.t p36)])), (.g p23 true (some p38) (.pick p38 (.t p31) (.k (.b true)) (.t p37))), (.u (.pick p39 (.t p23) (.t p38) (.k (.b false)))), (.u (.mv p7 (.t p39)))] [0, 0, 3, 7, 15, 31, 15, 79, 207, 463, 1023, 2047, 4095, 4095, 16383, 4095, 36863, 131071, 262143, 524287, 1048575]) (.reg [(.u (.fad p40 (.t p3) 5)), (.u (.ld1 p41 (.t p40))), (.u (.ldn p42 (.t p6) 9)), (.u (.mv p43 (.t p7))), (.u (.mup [(.i .i64), .b, .b, .b, .b, .b, .b, .b, .b] (.t p41) (.t p42) (.t p43)))])) .skip)) (.seq (.reg [(.u (.mv p44 (.t p7))), (.u (.mv p5 (.t p44)))]) .ret)))))
def rs122 : List RR := [(.t p5)]
theorem fn122 : FnOk Try.prog p123.ix 44 rc122 rs122 := ⟨Try.f122, bodyC Try.f122, Try.func122, by kernel_rfl, by kernel_rfl, by kernel_rfl, by kernel_rfl, by kernel_rfl⟩
noncomputable def rc123 : RC := (.seq (.reg [(.u (.box p3 (.t p1))), (.u (.box p4 (.t p2))), (.u (.mv p5 (.k .nf)))]) (.seq (.reg [(.u (.fnl p6 p141 [] [(.t p3), (.t p4)])), (.u (.mv p5 (.t p6)))]) .ret))
def rs123 : List RR := [(.t p5)]
theorem fn123 : FnOk Try.prog p124.ix 6 rc123 rs123 := ⟨Try.f123, bodyC Try.f123, Try.func123, by kernel_rfl, by kernel_rfl, by kernel_rfl, by kernel_rfl, by kernel_rfl⟩
noncomputable def rc124 : RC := (.seq (.reg [(.u (.box p3 (.t p1))), (.u (.new p5 [(.i .i64 0), (.i .i64 0), (.i .i64 0), .ns, .ns]))]) (.seq (.reg [(.u (.fad p13 (.t p3) 0)), (.u (.ldn p14 (.t p13) 5)), (.u (.new p6 [(.i .i64 0), (.i .i64 0), (.i .i64 0), .ns, .ns])), (.u (.st (.t p6) (.t p14) 5))]) (.seq (.reg [(.u (.fad p15 (.t p6) 3)), (.u (.st (.t p15) (.k .ns) 1)), (.u (.fad p16 (.t p6) 4)), (.u (.st (.t p16) (.k .ns) 1))]) (.seq (.seq (.reg [(.u (.fad p17 (.t p3) 0)), (.u (.fad p18 (.t p17) 3)), (.u (.ld1 p19 (.t p18))), (.u (.len p20 (.t p19))), (.u (.mv p21 (.k (.i .i64 0))))]) (.blk 0 (.loop (.seq (.reg [(.u (.bin p22 .lss (.t p21) (.t p20)))]) (.seq (.cond (.t p22) .skip (.exit 0)) (.seq (.blk 1 (.seq (.reg [(.u (.mv p23 (.t p21))), (.u (.ixs p24 3 (.t p19) (.t p21))), (.u (.ldn p25 (.t p24) 3)), (.u (.new p8 [(.i .i64 0), (.i .i64 0), (.i .i64 0)])), (.u (.mv p7 (.t p23))), (.u (.st (.t p8) (.t p25) 3))]) (.seq (.reg [(.u (.mv p26 (.t p2))), (.u (.mv p27 (.t p7))), (.u (.cf (some p28) p144 [(.t p26), (.t p27)])), (.u (.un p29 .not (.t p28)))]) (.cond (.t p29) (.reg [(.u (.fad p30 (.t p6) 3)), (.u (.ld1 p31 (.t p30))), (.u (.ldn p32 (.t p8) 3)), (.u (.bsl p33 3 1 [(.i .i64 0), (.i .i64 0), (.i .i64 0)] [(0, (3, (.t p32)))])), (.u (.app p34 3 (.t p31) (.t p33))), (.u (.fad p35 (.t p6) 3)), (.u (.st (.t p35) (.t p34) 1))]) .skip)))) (.reg [(.u (.bin p36 .add (.t p21) (.k (.i .i64 1)))), (.u (.mv p21 (.t p36)))]))))))) (.seq (.seq (.reg [(.u (.fad p37 (.t p3) 0)), (.u (.fad p38 (.t p37) 4)), (.u (.ld1 p39 (.t p38))), (.u (.len p40 (.t p39))), (.u (.mv p41 (.k (.i .i64 0))))]) (.blk 2 (.loop (.seq (.reg [(.u (.bin p42 .lss (.t p41) (.t p40)))]) (.seq (.cond (.t p42) .skip (.exit 2)) (.seq (.blk 3 (.seq (.reg [(.u (.ixs p43 3 (.t p39) (.t p41))), (.u (.ldn p44 (.t p43) 3)), (.u (.new p10 [(.i .i64 0), (.i .i64 0), (.i .i64 0)])), (.u (.st (.t p10) (.t p44) 3))]) (.seq (.reg [(.u (.mv p46 (.t p2))), (.u (.fad p47 (.t p10) 0)), (.u (.ld1 p48 (.t p47))), (.u (.cf (some p49) p145 [(.t p46), (.t p48)])), (.u (.mv p45 (.t p49))), (.u (.ext p50 (.t p45) 0)), (.u (.ext p51 (.t p45) 1)), (.u (.mv p11 (.t p50))), (.u (.mv p12 (.t p51)))]) (.seq (.reg [(.u (.fad p52 (.t p10) 0)), (.u (.ld1 p53 (.t p52))), (.u (.mv p54 (.t p11))), (.u (.bin p55 .sub (.t p53) (.t p54))), (.u (.fad p56 (.t p10) 0)), (.u (.st (.t p56) (.t p55) 1))]) (.reg [(.u (.fad p57 (.t p6) 4)), (.u (.ld1 p58 (.t p57))), (.u (.ldn p59 (.t p10) 3)), (.u (.bsl p60 3 1 [(.i .i64 0), (.i .i64 0), (.i .i64 0)] [(0, (3, (.t p59)))])), (.u (.app p61 3 (.t p58) (.t p60))), (.u (.fad p62 (.t p6) 4)), (.u (.st (.t p62) (.t p61) 1))]))))) (.reg [(.u (.bin p63 .add (.t p41) (.k (.i .i64 1)))), (.u (.mv p41 (.t p63)))]))))))) (.seq (.reg [(.u (.ldn p64 (.t p6) 5)), (.u (.st (.t p5) (.t p64) 5))]) .ret))))))
def rs124 : List RR := [(.cn p5 5)]
theorem fn124 : FnOk Try.prog p125.ix 64 rc124 rs124 := ⟨Try.f124, bodyC Try.f124, Try.func124, by kernel_rfl, by kernel_rfl, by kernel_rfl, by kernel_rfl, by kernel_rfl⟩
noncomputable def rc135 : RC := (.seq (.reg [(.u (.box p3 (.t p1)))]) (.seq (.reg [(.u (.new p4 [(.i .i64 0), (.i .i64 0), (.i .i64 0), (.i .i64 0), (.i .i64 0), (.i .i64 0), (.i .i64 0), (.i .i64 0), (.i .i64 0), (.i .i64 0), (.i .i64 0), (.i .i64 0), (.i .i64 0), (.i .i64 0), (.i .i64 0), (.i .i64 0), (.i .i64 0), (.i .i64 0), (.i .i64 0), (.i .i64 0), (.i .i64 0), (.i .i64 0), (.i .i64 0), (.i .i64 0), (.i .i64 0), (.i .i64 0), (.i .i64 0), (.i .i64 0), (.i .i64 0), (.i .i64 0), (.i .i64 0), (.i .i64 0), (.i .i64 0), (.i .i64 0), (.i .i64 0), (.i .i64 0), (.i .i64 0), (.i .i64 0), (.i .i64 0), (.i .i64 0), (.i .i64 0), (.i .i64 0), (.i .i64 0), (.i .i64 0), (.i .i64 0), (.i .i64 0), (.i .i64 0), (.i .i64 0), (.i .i64 0), (.i .i64 0), (.i .i64 0), (.i .i64 0), (.i .i64 0), (.i .i64 0), (.i .i64 0), (.i .i64 0), (.i .i64 0), (.i .i64 0), (.i .i64 0), (.i .i64 0), (.i .i64 0), (.i .i64 0), (.i .i64 0), (.i .i64 0), (.i .i64 0), (.i .i64 0), (.i .i64 0), (.i .i64 0), (.i .i64 0), (.i .i64 0), (.i .i64 0), (.i .i64 0), (.i .i64 0), (.i .i64 0), (.i .i64 0), (.i .i64 0), (.i .i64 0), (.i .i64 0), (.i .i64 0), (.i .i64 0), (.i .i64 0), (.i .i64 0), (.i .i64 0), (.i .i64 0), (.i .i64 0), (.i .i64 0), (.i .i64 0), (.i .i64 0), (.i .i64 0), (.i .i64 0), (.i .i64 0), (.i .i64 0), (.i .i64 0), (.i .i64 0), (.i .i64 0), (.i .i64 0), (.i .i64 0), (.i .i64 0), (.i .i64 0), (.i .i64 0), (.i .i64 0), (.i .i64 0), (.i .i64 0), (.i .i64 0), (.i .i64 0), (.i .i64 0), (.i .i64 0), (.i .i64 0), (.i .i64 0), (.i .i64 0), (.i .i64 0), (.i .i64 0), (.i .i64 0), (.i .i64 0), (.i .i64 0), (.i .i64 0), (.i .i64 0), (.i .i64 0), (.i .i64 0), (.i .i64 0), (.i .i64 0), (.i .i64 0), (.i .i64 0), (.i .i64 0), (.i .i64 0), (.i .i64 0)]))]) (.seq (.reg [(.u (.new p5 [.nf]))]) (.seq (.reg [(.u (.fnl p6 p137 [] [(.t p2), (.t p4), (.t p3), (.t p5)])), (.u (.st (.t p5) (.t p6) 1))]) (.drw [(.u (.ld1 p7 (.t p5))), (.u (.ldn p8 (.t p2) 6)), (.u (.cf (some p9) p105 [(.t p8)])), (.u (.cv (some p10) (.t p7) [(.t p9)]))] [0, 0, 2, 7])))))
def rs135 : List RR := []
theorem fn135 : FnOk Try.prog p136.ix 10 rc135 rs135 := ⟨Try.f135, bodyC Try.f135, Try.func135, by kernel_rfl, by kernel_rfl, by kernel_rfl, by kernel_rfl, by kernel_rfl⟩
noncomputable def rc136 : RC := (.seq (.reg [(.u (.box p6 (.t p1))), (.u (.new p7 [(.b false)]))]) (.seq (.seq (.reg [(.u (.ldn p9 (.t p2) 6)), (.u (.ldn p10 (.t p6) 14)), (.u (.cf (some p11) p123 [(.t p9), (.t p10)])), (.u (.un p12 .not (.t p11)))]) (.cond (.t p12) (.seq (.reg [(.u (.st (.t p7) (.k (.b true)) 1))]) .ret) .skip)) (.seq (.reg [(.u (.fad p13 (.t p6) 0)), (.u (.ld1 p14 (.t p13))), (.u (.ldn p15 (.t p6) 14)), (.u (.ixa p16 9 14 (.t p3) (.t p14))), (.u (.st (.t p16) (.t p15) 14))]) (.seq (.seq (.reg [(.u (.fad p17 (.t p6) 0)), (.u (.ld1 p18 (.t p17))), (.u (.fad p19 (.t p2) 0)), (.u (.fad p20 (.t p19) 3)), (.u (.ld1 p21 (.t p20))), (.u (.len p22 (.t p21))), (.u (.bin p23 .eql (.t p18) (.t p22)))]) (.cond (.t p23) (.seq (.reg [(.u (.ld1 p24 (.t p4))), (.u (.ldn p25 (.t p3) 126)), (.u (.cv (some p26) (.t p24) [(.t p25)])), (.u (.st (.t p7) (.t p26) 1))]) .ret) .skip)) (.seq (.seq (.reg [(.u (.ldn p27 (.t p2) 6)), (.u (.ldn p28 (.t p6) 14)), (.u (.cf (some p29) p138 [(.t p27), (.t p28)]))]) (.blk 0 (.rf (.t p29) [p30] 34 (rfA (bodyC Try.f136) 0) (rfB (bodyC Try.f136) 0)))) (.seq (.reg [(.u (.st (.t p7) (.k (.b true)) 1))]) .ret))))))
def rs136 : List RR := [(.c1 p7)]
theorem fn136 : FnOk Try.prog p137.ix 34 rc136 rs136 := ⟨Try.f136, bodyC Try.f136, Try.func136, by kernel_rfl, by kernel_rfl, by kernel_rfl, by kernel_rfl, by kernel_rfl⟩
noncomputable def rc136a0 : RC := (.reg [(.u (.new p8 [(.i .i64 0), (.i .i64 0), (.i .i64 0), (.i .i64 0), (.i .i64 0), (.i .i64 0), (.i .i64 0), (.i .i64 0), (.i .i64 0), (.i .i64 0), (.i .i64 0), (.i .i64 0), (.i .i64 0), (.i .i64 0)])), (.u (.st (.t p8) (.t p30) 14))])
theorem rc136a0_ok : comp Try.prog 34 (rfA (bodyC Try.f136) 0) = rc136a0 := by kernel_rfl
noncomputable def rc136b0 : RC := (.blk 1 (.seq (.reg [(.u (.ld1 p31 (.t p5))), (.u (.ldn p32 (.t p8) 14)), (.u (.cv (some p33) (.t p31) [(.t p32)])), (.u (.un p34 .not (.t p33)))]) (.cond (.t p34) (.seq (.reg [(.u (.st (.t p7) (.k (.b false)) 1))]) .ret) .skip)))
theorem rc136b0_ok : comp Try.prog 34 (rfB (bodyC Try.f136) 0) = rc136b0 := by kernel_rfl
noncomputable def rc137 : RC := (.seq (.reg [(.u (.box p3 (.t p1))), (.u (.box p4 (.t p2))), (.u (.mv p5 (.k .nf)))]) (.seq (.reg [(.u (.fnl p6 p156 [] [(.t p3), (.t p4)])), (.u (.mv p5 (.t p6)))]) .ret))
def rs137 : List RR := [(.t p5)]
theorem fn137 : FnOk Try.prog p138.ix 6 rc137 rs137 := ⟨Try.f137, bodyC Try.f137, Try.func137, by kernel_rfl, by kernel_rfl, by kernel_rfl, by kernel_rfl, by kernel_rfl⟩
noncomputable def rc138 : RC := (.seq (.reg [(.u (.box p2 (.t p1))), (.u (.new p3 [(.i .i64 0), (.b false), (.b false), (.b false), (.b false), (.b false), (.b false), (.b false), (.b false)]))]) (.seq (.reg [(.u (.fad p7 (.t p2) 0)), (.u (.ld1 p8 (.t p7))), (.u (.bld p9 [(.i .i64 0), (.b false), (.b false), (.b false), (.b false), (.b false), (.b false), (.b false), (.b false)] [(0, (1, (.t p8)))])), (.u (.new p4 [(.i .i64 0), (.b false), (.b false), (.b false), (.b false), (.b false), (.b false), (.b false), (.b false)])), (.u (.st (.t p4) (.t p9) 9))]) (.seq (.seq (.reg [(.u (.fad p10 (.t p2) 1)), (.u (.ldn p11 (.t p10) 8)), (.u (.mv p12 (.k (.i .i64 0))))]) (.blk 0 (.loop (.seq (.reg [(.u (.bin p13 .lss (.t p12) (.k (.i .i64 8))))]) (.seq (.cond (.t p13) .skip (.exit 0)) (.seq (.blk 1 (.seq (.reg [(.u (.mv p14 (.t p12))), (.u (.ixv p15 8 1 false (.t p11) (.t p12))), (.u (.mv p5 (.t p14))), (.u (.mv p6 (.t p15)))]) (.reg [(.u (.mv p16 (.t p5))), (.u (.mv p17 (.t p6))), (.u (.bin p18 .neq (.t p17) (.k (.i .i64 0)))), (.u (.fad p19 (.t p4) 1)), (.u (.ixa p20 8 1 (.t p19) (.t p16))), (.u (.st (.t p20) (.t p18) 1))]))) (.reg [(.u (.bin p21 .add (.t p12) (.k (.i .i64 1)))), (.u (.mv p12 (.t p21)))]))))))) (.seq (.reg [(.u (.ldn p22 (.t p4) 9)), (.u (.st (.t p3) (.t p22) 9))]) .ret))))
def rs138 : List RR := [(.cn p3 9)]
theorem fn138 : FnOk Try.prog p139.ix 22 rc138 rs138 := ⟨Try.f138, bodyC Try.f138, Try.func138, by kernel_rfl, by kernel_rfl, by kernel_rfl, by kernel_rfl, by kernel_rfl⟩
noncomputable def rc139 : RC := (.seq (.reg [(.u (.box p4 (.t p2))), (.u (.new p5 [(.b false)]))]) (.seq (.seq (.reg [(.u (.mv p7 (.t p1)))]) (.blk 0 (.rf (.t p7) [p8] 11 (rfA (bodyC Try.f139) 0) (rfB (bodyC Try.f139) 0)))) (.seq (.reg [(.u (.st (.t p5) (.k (.b false)) 1))]) .ret)))
def rs139 : List RR := [(.c1 p5)]
theorem fn139 : FnOk Try.prog p140.ix 11 rc139 rs139 := ⟨Try.f139, bodyC Try.f139, Try.func139, by kernel_rfl, by kernel_rfl, by kernel_rfl, by kernel_rfl, by kernel_rfl⟩
noncomputable def rc139a0 : RC := (.reg [(.u (.new p6 [(.i .i64 0), (.i .i64 0), (.i .i64 0), (.i .i64 0), (.i .i64 0), (.i .i64 0), (.i .i64 0), (.i .i64 0), (.i .i64 0), (.i .i64 0), (.i .i64 0), (.i .i64 0), (.i .i64 0), (.i .i64 0)])), (.u (.st (.t p6) (.t p8) 14))])
theorem rc139a0_ok : comp Try.prog 11 (rfA (bodyC Try.f139) 0) = rc139a0 := by kernel_rfl
noncomputable def rc139b0 : RC := (.blk 1 (.seq (.reg [(.u (.ld1 p9 (.t p4))), (.u (.ldn p10 (.t p6) 14)), (.u (.cv (some p11) (.t p9) [(.t p10)]))]) (.cond (.t p11) (.seq (.reg [(.u (.st (.t p5) (.k (.b true)) 1))]) .ret) .skip)))
theorem rc139b0_ok : comp Try.prog 11 (rfB (bodyC Try.f139) 0) = rc139b0 := by kernel_rfl
noncomputable def rc140 : RC := (.seq (.reg [(.u (.ld1 p6 (.t p2))), (.u (.bin p7 .shl (.k (.i .i64 1)) (.t p6))), (.u (.bin p8 .sub (.t p7) (.k (.i .i64 1)))), (.u (.mv p5 (.t p8)))]) (.blk 0 (.loop (.seq (.seq (.reg [(.u (.mv p9 (.t p5))), (.u (.bin p10 .geq (.t p9) (.k (.i .i64 0))))]) (.cond (.t p10) .skip (.exit 0))) (.seq (.blk 1 (.seq (.drw [(.u (.mv p13 (.t p5))), (.u (.cvi p14 .u64 (.t p13))), (.u (.cf (some p15) p142 [(.t p14)])), (.u (.ld1 p16 (.t p3))), (.u (.bin p17 .eql (.t p15) (.t p16))), (.u (.mv p18 (.t p17))), (.g p18 true (some p19) (.mv p19 (.t p1))), (.g p18 true (some p20) (.mv p20 (.t p5))), (.g p18 true (some p21) (.ld1 p21 (.t p2))), (.g p18 true (some p22) (.cf (some p22) p143 [(.t p20), (.t p21)])), (.g p18 true (some p23) (.cv (some p23) (.t p19) [(.t p22)])), (.g p18 true (some p24) (.un p24 .not (.t p23))), (.u (.pick p25 (.t p18) (.t p24) (.k (.b false))))] [0, 1, 3, 0, 15, 31, 63, 63, 63, 447, 1023, 2047, 4095]) (.cond (.t p25) .ret .skip))) (.reg [(.u (.mv p11 (.t p5))), (.u (.bin p12 .sub (.t p11) (.k (.i .i64 1)))), (.u (.mv p5 (.t p12)))]))))))
def rs140 : List RR := []
theorem fn140 : FnOk Try.prog p141.ix 25 rc140 rs140 := ⟨Try.f140, bodyC Try.f140, Try.func140, by kernel_rfl, by kernel_rfl, by kernel_rfl, by kernel_rfl, by kernel_rfl⟩
noncomputable def rc141 : RC := (.seq (.reg [(.u (.mv p3 (.k (.i .i64 0))))]) (.seq (.cond (.k (.b false)) (.seq (.reg [(.u (.mv p4 (.t p1))), (.u (.cvi p5 .u32 (.t p4))), (.u (.cf (some p6) p157 [(.t p5)])), (.u (.mv p3 (.t p6)))]) .ret) .skip) (.seq (.reg [(.u (.mv p7 (.t p1))), (.u (.cf (some p8) p158 [(.t p7)])), (.u (.mv p3 (.t p8)))]) .ret)))
def rs141 : List RR := [(.t p3)]
theorem fn141 : FnOk Try.prog p142.ix 8 rc141 rs141 := ⟨Try.f141, bodyC Try.f141, Try.func141, by kernel_rfl, by kernel_rfl, by kernel_rfl, by kernel_rfl, by kernel_rfl⟩
noncomputable def rc142 : RC := (.seq (.reg [(.u (.mv p5 (.k .ns)))]) (.seq (.reg [(.u (.mv p6 (.k .ns)))]) (.seq (.seq (.reg [(.u (.mv p8 (.t p2))), (.u (.mv p9 (.k (.i .i64 0))))]) (.blk 0 (.loop (.seq (.reg [(.u (.bin p10 .lss (.t p9) (.t p8)))]) (.seq (.cond (.t p10) .skip (.exit 0)) (.seq (.blk 1 (.seq (.reg [(.u (.mv p11 (.t p9))), (.u (.mv p7 (.t p11)))]) (.seq (.reg [(.u (.mv p12 (.t p1))), (.u (.mv p13 (.t p2))), (.u (.bin p14 .sub (.t p13) (.k (.i .i64 1)))), (.u (.mv p15 (.t p7))), (.u (.bin p16 .sub (.t p14) (.t p15))), (.u (.bin p17 .shr (.t p12) (.t p16))), (.u (.bin p18 .and (.t p17) (.k (.i .i64 1)))), (.u (.bin p19 .eql (.t p18) (.k (.i .i64 1))))]) (.cond (.t p19) (.reg [(.u (.mv p20 (.t p6))), (.u (.mv p21 (.t p7))), (.u (.bsl p22 1 1 [(.i .i64 0)] [(0, (1, (.t p21)))])), (.u (.app p23 1 (.t p20) (.t p22))), (.u (.mv p6 (.t p23)))]) .skip)))) (.reg [(.u (.bin p24 .add (.t p9) (.k (.i .i64 1)))), (.u (.mv p9 (.t p24)))]))))))) (.seq (.reg [(.u (.mv p25 (.t p6))), (.u (.mv p5 (.t p25)))]) .ret))))
def rs142 : List RR := [(.t p5)]
theorem fn142 : FnOk Try.prog p143.ix 25 rc142 rs142 := ⟨Try.f142, bodyC Try.f142, Try.func142, by kernel_rfl, by kernel_rfl, by kernel_rfl, by kernel_rfl, by kernel_rfl⟩
noncomputable def rc143 : RC := (.seq (.reg [(.u (.mv p5 (.k (.b false))))]) (.seq (.reg [(.u (.mv p6 (.t p1))), (.u (.mv p7 (.t p2))), (.u (.cf (some p8) p159 [(.t p6), (.t p7)])), (.u (.bin p9 .geq (.t p8) (.k (.i .i64 0)))), (.u (.mv p5 (.t p9)))]) .ret))
def rs143 : List RR := [(.t p5)]
theorem fn143 : FnOk Try.prog p144.ix 9 rc143 rs143 := ⟨Try.f143, bodyC Try.f143, Try.func143, by kernel_rfl, by kernel_rfl, by kernel_rfl, by kernel_rfl, by kernel_rfl⟩
noncomputable def rc144 : RC := (.seq (.reg [(.u (.mv p5 (.k (.i .i64 0)))), (.u (.mv p6 (.k (.b false))))]) (.seq (.reg [(.u (.mv p11 (.t p1))), (.u (.len p12 (.t p11))), (.u (.mv p7 (.t p12)))]) (.seq (.reg [(.u (.mv p13 (.t p7))), (.u (.mv p8 (.k (.i .i64 0)))), (.u (.mv p9 (.t p13)))]) (.seq (.blk 0 (.loop (.seq (.seq (.reg [(.u (.mv p14 (.t p8))), (.u (.mv p15 (.t p9))), (.u (.bin p16 .lss (.t p14) (.t p15)))]) (.cond (.t p16) .skip (.exit 0))) (.blk 1 (.seq (.reg [(.u (.mv p17 (.t p8))), (.u (.mv p18 (.t p9))), (.u (.bin p19 .add (.t p17) (.t p18))), (.u (.cvi p20 .u64 (.t p19))), (.u (.bin p21 .shr (.t p20) (.k (.i .u64 1)))), (.u (.cvi p22 .i64 (.t p21))), (.u (.mv p10 (.t p22)))]) (.seq (.reg [(.u (.mv p23 (.t p1))), (.u (.mv p24 (.t p10))), (.u (.ixs p25 1 (.t p23) (.t p24))), (.u (.ld1 p26 (.t p25))), (.u (.mv p27 (.t p2))), (.u (.cf (some p28) p160 [(.t p26), (.t p27)]))]) (.cond (.t p28) (.reg [(.u (.mv p29 (.t p10))), (.u (.bin p30 .add (.t p29) (.k (.i .i64 1)))), (.u (.mv p8 (.t p30)))]) (.reg [(.u (.mv p31 (.t p10))), (.u (.mv p9 (.t p31)))])))))))) (.seq (.reg [(.u (.mv p32 (.t p8))), (.u (.mv p33 (.t p8))), (.u (.mv p34 (.t p7))), (.u (.bin p35 .lss (.t p33) (.t p34))), (.u (.mv p36 (.t p35))), (.g p36 true (some p37) (.mv p37 (.t p1))), (.g p36 true (some p38) (.mv p38 (.t p8))), (.g p36 true (some p39) (.ixs p39 1 (.t p37) (.t p38))), (.g p36 true (some p40) (.ld1 p40 (.t p39))), (.g p36 true (some p41) (.mv p41 (.t p2))), (.g p36 true (some p42) (.bin p42 .eql (.t p40) (.t p41))), (.g p36 true (some p43) (.mv p43 (.t p42))), (.g p43 false (some p44) (.mv p44 (.t p1))), (.g p43 false (some p45) (.mv p45 (.t p8))), (.g p43 false (some p46) (.ixs p46 1 (.t p44) (.t p45))), (.g p43 false (some p47) (.ld1 p47 (.t p46))), (.g p43 false (some p48) (.cf (some p48) p161 [(.t p47)])), (.g p43 false (some p49) (.mv p49 (.t p48))), (.g p49 true (some p50) (.mv p50 (.t p2))), (.g p49 true (some p51) (.cf (some p51) p161 [(.t p50)])), (.g p43 false (some p52) (.pick p52 (.t p49) (.t p51) (.k (.b false)))), (.g p36 true (some p53) (.pick p53 (.t p43) (.k (.b true)) (.t p52))), (.u (.pick p54 (.t p36) (.t p53) (.k (.b false)))), (.u (.mv p5 (.t p32))), (.u (.mv p6 (.t p54)))]) .ret)))))
def rs144 : List RR := [(.t p5), (.t p6)]
theorem fn144 : FnOk Try.prog p145.ix 54 rc144 rs144 := ⟨Try.f144, bodyC Try.f144, Try.func144, by kernel_rfl, by kernel_rfl, by kernel_rfl, by kernel_rfl, by kernel_rfl⟩
noncomputable def rc155 : RC := (.seq (.reg [(.u (.box p4 (.t p1)))]) (.seq (.drw [(.u (.ldn p8 (.t p2) 6)), (.u (.fad p9 (.t p2) 0)), (.u (.fad p10 (.t p9) 3)), (.u (.ld1 p11 (.t p10))), (.u (.fad p12 (.t p3) 0)), (.u (.ld1 p13 (.t p12))), (.u (.ixs p14 3 (.t p11) (.t p13))), (.u (.ldn p15 (.t p14) 3)), (.u (.cf (some p16) p107 [(.t p8), (.t p15)]))] [0, 0, 2, 6, 0, 16, 62, 126, 255]) (.blk 0 (.rf (.t p16) [p17] 31 (rfA (bodyC Try.f155) 0) (rfB (bodyC Try.f155) 0)))))
def rs155 : List RR := []
theorem fn155 : FnOk Try.prog p156.ix 31 rc155 rs155 := ⟨Try.f155, bodyC Try.f155, Try.func155, by kernel_rfl, by kernel_rfl, by kernel_rfl, by kernel_rfl, by kernel_rfl⟩
noncomputable def rc155a0 : RC := (.reg [(.u (.new p5 [(.i .i64 0), (.i .i64 0), (.i .i64 0)])), (.u (.st (.t p5) (.t p17) 3))])
theorem rc155a0_ok : comp Try.prog 31 (rfA (bodyC Try.f155) 0) = rc155a0 := by kernel_rfl
noncomputable def rc155b0 : RC := (.blk 1 (.seq (.reg [(.u (.ldn p19 (.t p2) 6)), (.u (.ldn p20 (.t p3) 14)), (.u (.ldn p21 (.t p5) 3)), (.u (.cf (some p22) p109 [(.t p19), (.t p20), (.t p21)])), (.u (.mv p18 (.t p22))), (.u (.ext p23 (.t p18) 0)), (.u (.ext p24 (.t p18) 1)), (.u (.new p6 [(.i .i64 0), (.i .i64 0), (.i .i64 0), (.i .i64 0), (.i .i64 0), (.i .i64 0), (.i .i64 0), (.i .i64 0), (.i .i64 0), (.i .i64 0), (.i .i64 0), (.i .i64 0), (.i .i64 0), (.i .i64 0)])), (.u (.st (.t p6) (.t p23) 14)), (.u (.mv p7 (.t p24)))]) (.seq (.reg [(.u (.mv p25 (.t p7))), (.u (.mv p26 (.t p25))), (.g p26 true (some p27) (.ld1 p27 (.t p4))), (.g p26 true (some p28) (.ldn p28 (.t p6) 14)), (.g p26 true (some p29) (.cv (some p29) (.t p27) [(.t p28)])), (.g p26 true (some p30) (.un p30 .not (.t p29))), (.u (.pick p31 (.t p26) (.t p30) (.k (.b false))))]) (.cond (.t p31) .ret .skip))))
theorem rc155b0_ok : comp Try.prog 31 (rfB (bodyC Try.f155) 0) = rc155b0 := by kernel_rfl
noncomputable def rc157 : RC := (.seq (.reg [(.u (.mv p3 (.k (.i .i64 0))))]) (.seq (.reg [(.u (.mv p4 (.t p1))), (.u (.bin p5 .shr (.t p4) (.k (.i .u64 1)))), (.u (.bin p6 .and (.t p5) (.k (.i .u64 6148914691236517205)))), (.u (.mv p7 (.t p1))), (.u (.bin p8 .and (.t p7) (.k (.i .u64 6148914691236517205)))), (.u (.bin p9 .add (.t p6) (.t p8))), (.u (.mv p1 (.t p9)))]) (.seq (.reg [(.u (.mv p10 (.t p1))), (.u (.bin p11 .shr (.t p10) (.k (.i .u64 2)))), (.u (.bin p12 .and (.t p11) (.k (.i .u64 3689348814741910323)))), (.u (.mv p13 (.t p1))), (.u (.bin p14 .and (.t p13) (.k (.i .u64 3689348814741910323)))), (.u (.bin p15 .add (.t p12) (.t p14))), (.u (.mv p1 (.t p15)))]) (.seq (.reg [(.u (.mv p16 (.t p1))), (.u (.bin p17 .shr (.t p16) (.k (.i .u64 4)))), (.u (.mv p18 (.t p1))), (.u (.bin p19 .add (.t p17) (.t p18))), (.u (.bin p20 .and (.t p19) (.k (.i .u64 1085102592571150095)))), (.u (.mv p1 (.t p20)))]) (.seq (.reg [(.u (.mv p21 (.t p1))), (.u (.mv p22 (.t p1))), (.u (.bin p23 .shr (.t p22) (.k (.i .u64 8)))), (.u (.bin p24 .add (.t p21) (.t p23))), (.u (.mv p1 (.t p24)))]) (.seq (.reg [(.u (.mv p25 (.t p1))), (.u (.mv p26 (.t p1))), (.u (.bin p27 .shr (.t p26) (.k (.i .u64 16)))), (.u (.bin p28 .add (.t p25) (.t p27))), (.u (.mv p1 (.t p28)))]) (.seq (.reg [(.u (.mv p29 (.t p1))), (.u (.mv p30 (.t p1))), (.u (.bin p31 .shr (.t p30) (.k (.i .u64 32)))), (.u (.bin p32 .add (.t p29) (.t p31))), (.u (.mv p1 (.t p32)))]) (.seq (.reg [(.u (.mv p33 (.t p1))), (.u (.cvi p34 .i64 (.t p33))), (.u (.bin p35 .and (.t p34) (.k (.i .i64 127)))), (.u (.mv p3 (.t p35)))]) .ret))))))))
def rs157 : List RR := [(.t p3)]
theorem fn157 : FnOk Try.prog p158.ix 35 rc157 rs157 := ⟨Try.f157, bodyC Try.f157, Try.func157, by kernel_rfl, by kernel_rfl, by kernel_rfl, by kernel_rfl, by kernel_rfl⟩
noncomputable def rc158 : RC := (.seq (.reg [(.u (.mv p5 (.k (.i .i64 0))))]) (.seq (.seq (.reg [(.u (.mv p7 (.t p1))), (.u (.len p8 (.t p7))), (.u (.mv p9 (.k (.i .i64 0))))]) (.blk 0 (.loop (.seq (.reg [(.u (.bin p10 .lss (.t p9) (.t p8)))]) (.seq (.cond (.t p10) .skip (.exit 0)) (.seq (.blk 1 (.seq (.reg [(.u (.mv p11 (.t p9))), (.u (.mv p6 (.t p11)))]) (.seq (.reg [(.u (.mv p12 (.t p2))), (.u (.mv p13 (.t p1))), (.u (.mv p14 (.t p6))), (.u (.ixs p15 1 (.t p13) (.t p14))), (.u (.ld1 p16 (.t p15))), (.u (.bin p17 .eql (.t p12) (.t p16)))]) (.cond (.t p17) (.seq (.reg [(.u (.mv p18 (.t p6))), (.u (.mv p5 (.t p18)))]) .ret) .skip)))) (.reg [(.u (.bin p19 .add (.t p9) (.k (.i .i64 1)))), (.u (.mv p9 (.t p19)))]))))))) (.seq (.reg [(.u (.mv p5 (.k (.i .i64 (-1)))))]) .ret)))
def rs158 : List RR := [(.t p5)]
theorem fn158 : FnOk Try.prog p159.ix 19 rc158 rs158 := ⟨Try.f158, bodyC Try.f158, Try.func158, by kernel_rfl, by kernel_rfl, by kernel_rfl, by kernel_rfl, by kernel_rfl⟩
noncomputable def rc159 : RC := (.seq (.reg [(.u (.mv p5 (.k (.b false))))]) (.seq (.reg [(.u (.mv p6 (.t p1))), (.u (.cf (some p7) p165 [(.t p6)])), (.u (.mv p8 (.t p7))), (.g p8 true (some p9) (.mv p9 (.t p2))), (.g p8 true (some p10) (.cf (some p10) p165 [(.t p9)])), (.g p8 true (some p11) (.un p11 .not (.t p10))), (.u (.pick p12 (.t p8) (.t p11) (.k (.b false)))), (.u (.mv p13 (.t p12))), (.g p13 false (some p14) (.mv p14 (.t p1))), (.g p13 false (some p15) (.mv p15 (.t p2))), (.g p13 false (some p16) (.bin p16 .lss (.t p14) (.t p15))), (.u (.pick p17 (.t p13) (.k (.b true)) (.t p16))), (.u (.mv p5 (.t p17)))]) .ret))
def rs159 : List RR := [(.t p5)]
theorem fn159 : FnOk Try.prog p160.ix 17 rc159 rs159 := ⟨Try.f159, bodyC Try.f159, Try.func159, by kernel_rfl, by kernel_rfl, by kernel_rfl, by kernel_rfl, by kernel_rfl⟩
noncomputable def rc160 : RC := (.seq (.reg [(.u (.mv p3 (.k (.b false))))]) (.seq (.reg [(.u (.mv p4 (.t p1))), (.u (.mv p5 (.t p1))), (.u (.bin p6 .neq (.t p4) (.t p5))), (.u (.mv p3 (.t p6)))]) .ret))
def rs160 : List RR := [(.t p3)]
theorem fn160 : FnOk Try.prog p161.ix 6 rc160 rs160 := ⟨Try.f160, bodyC Try.f160, Try.func160, by kernel_rfl, by kernel_rfl, by kernel_rfl, by kernel_rfl, by kernel_rfl⟩
end Go.Ev
namespace Go.Ev
open Go.Proofs
set_option maxRecDepth 1000000
noncomputable def rc164 : RC := (.seq (.reg [(.u (.mv p3 (.k (.b false))))]) (.seq (.reg [(.u (.mv p4 (.t p1))), (.u (.mv p5 (.t p1))), (.u (.bin p6 .neq (.t p4) (.t p5))), (.u (.mv p3 (.t p6)))]) .ret))
def rs164 : List RR := [(.t p3)]
theorem fn164 : FnOk Try.prog p165.ix 6 rc164 rs164 := ⟨Try.f164, bodyC Try.f164, Try.func164, by kernel_rfl, by kernel_rfl, by kernel_rfl, by kernel_rfl, by kernel_rfl⟩
end Go.Ev
namespace Go.Ev
open Go.RowKit (Below Grown)
structure ShrB (B : Pos → Prop) (z z' : X) : Prop where
  sl : ∀ s d', z'.sl.get s = some d' → ∃ d, z.sl.get s = some d ∧ Fz B z.ob d d'
  ob : ∀ id c', z'.ob.get id = some c' → B id ∧ ∃ c, z.ob.get id = some c ∧ ShC B z.ob c c'
  l : z.lg = none
  l' : z'.lg = none
section
variable {P : Program} {nt : Nat}
structure AgainB {σ : Type} (S : σ → X) (I : σ → Prop) (μ : σ → Nat) (s : σ) (z : X) : Prop where
  ok : ∃ s' B, μ s' < μ s ∧ I s' ∧ (S s).nx.nat ≤ (S s').nx.nat ∧ (∀ id : Pos, id.nat < (S s).nx.nat → B id) ∧ (∀ id : Pos, B id → id.nat < (S s').nx.nat) ∧ ShrB B z (S s')
theorem AgainB.to {σ : Type} {S : σ → X} {I : σ → Prop} {μ : σ → Nat} {s : σ} {z : X} (s' : σ) (B : Pos → Prop) (h : μ s' < μ s) (i : I s') (n : (S s).nx.nat ≤ (S s').nx.nat) (b1 : ∀ id : Pos, id.nat < (S s).nx.nat → B id) (b2 : ∀ id : Pos, B id → id.nat < (S s').nx.nat) (l : ShrB B z (S s')) : AgainB S I μ s z := ⟨s', B, h, i, n, b1, b2, l⟩
theorem Shr.toB {z z' : X} (h : Shr z z') : ShrB (fun id => id.nat < z'.nx.nat) z z' := ⟨h.sl, h.ob, h.l, h.l'⟩
theorem AgainB.sh {σ : Type} {S : σ → X} {I : σ → Prop} {μ : σ → Nat} {s : σ} {z : X} (s' : σ) (h : μ s' < μ s) (i : I s') (n : (S s).nx.nat ≤ (S s').nx.nat) (l : Shr z (S s')) : AgainB S I μ s z :=
  ⟨s', _, h, i, n, fun _ h => Nat.lt_of_lt_of_le h n, fun _ h => h, l.toB⟩
end
end Go.Ev
namespace Go.Ev
open Go.RowKit (Below Grown)
section
variable {P : Program} {nt : Nat}
open Classical in
theorem shrinkB_at {x Z Z' : X} {B : Pos → Prop} {ro : Option Nat} {so : Pos → Prop} {γ γ1 : Gh} {a a1 : Act} {w w1 : World} (S : ShrB B Z Z') (hx : ∀ id : Pos, id.nat < x.nx.nat → B id) (hz : ∀ id : Pos, B id → id.nat < Z'.nx.nat) (hall : ∀ id, so id) (R : Rep P (allS so) γ a w x) (cst : CSt ro Z.lg γ a w γ1 a1 w1) (rep : Rep P (allS so) γ1 a1 w1 Z) :
    ∃ γ2, CSt ro Z'.lg γ a w γ2 a1 w1 ∧ Rep P (allS so) γ2 a1 w1 Z' := by
  have hzero : ∀ id, ¬ B id → γ.cur id = 0 := fun id hid => R.nx id (hall id) (Nat.not_lt.1 fun h => hid (hx id h))
  let γ2 : Gh := ⟨fun id => if B id then γ1.cur id else 0, γ1.β, fun b => γ1.im b ∨ ((∃ id st, ¬ B id ∧ st < γ1.cur id ∧ (γ1.β id st).1 = b) ∧ ∃ vs e fr, w1.heap[b]? = some (.cells vs e fr))⟩
  have c2 : ∀ id, B id → γ2.cur id = γ1.cur id := fun id hid => by show (if _ then _ else _) = _; rw [if_pos hid]
  have c2' : ∀ id, ¬ B id → γ2.cur id = 0 := fun id hid => by show (if _ then _ else _) = _; rw [if_neg hid]
  have lt2 : ∀ id st, st < γ2.cur id → B id ∧ st < γ1.cur id := fun id st hst => by
    by_cases hid : B id
    · rw [c2 id hid] at hst; exact ⟨hid, hst⟩
    · rw [c2' id hid] at hst; exact absurd hst (Nat.not_lt_zero _)
  have hob1 : ∀ id c, Z.ob.get id = some c → HoldsO P γ1 w1 id c := fun id c hc => rep.ob id c (hall id) hc
  have fz : ∀ d d', Fz B Z.ob d d' → ∀ v, DV γ1 w1 d v → DV γ2 w1 d' v := fun d d' hf =>
    Fz.ok (γ := γ1) (γ' := γ2) (fun b hb => .inl hb) hob1 (fun id hid => ⟨c2 id hid, rfl⟩) (fun id st vs e fr hid hst hc => .inr ⟨⟨id, st, hid, hst, rfl⟩, vs, e, fr, hc⟩) hf
  have F := cst.fr
  have fresh : ∀ id st, ¬ B id → st < γ1.cur id → w.heap.size ≤ (γ1.β id st).1 := fun id st hid hst => by
    rcases F.new id st (by rw [hzero id hid]; exact Nat.zero_le _) hst with h | ⟨st0, h, _⟩
    · exact h
    · rw [hzero id hid] at h; exact absurd h (Nat.not_lt_zero _)
  have G2 : G ro γ2 a1 w1 := by
    refine ⟨fun id st hst => cst.g.ob id st (lt2 id st hst).2, fun id st id' st' hst hst' he => cst.g.inj id st id' st' (lt2 id st hst).2 (lt2 id' st' hst').2 he, ?_, cst.g.rd, fun b hb => ?_, cst.g.gl.im fun _ h => .inl h⟩
    · obtain ⟨ms, d1, d2, d3⟩ := cst.g.df
      exact ⟨ms, d1, d2, fun r hr => ⟨(d3 r hr).1, fun id st hst => (d3 r hr).2 id st (lt2 id st hst).2⟩⟩
    · rcases hb with hb | ⟨⟨id', st', h1, h2, h3⟩, h4⟩
      · exact ⟨(cst.g.im b hb).1, fun id st hst => (cst.g.im b hb).2 id st (lt2 id st hst).2⟩
      · refine ⟨h4, fun id st hst e => ?_⟩
        obtain ⟨k1, k2⟩ := lt2 id st hst
        have e : (γ1.β id st).1 = b := e
        obtain ⟨rfl, _⟩ := cst.g.inj id st id' st' k2 h2 (e.trans h3.symm)
        exact h1 k1
  have hw : ∀ {id : Pos}, wrtn Z'.lg id := fun {id} => by rw [S.l']; trivial
  have hwZ : ∀ {id : Pos}, wrtn Z.lg id := fun {id} => by rw [S.l]; trivial
  refine ⟨γ2, ⟨G2, ⟨⟨fun id => ?_, fun id st hst => F.up.β id st hst, F.up.sh, fun b hb => ⟨.inl (F.up.im b hb).1, (F.up.im b hb).2⟩⟩, fun id hn => absurd hw hn, fun b hb hn => F.blk b hb fun id st _ hst => hn id st hw hst, fun id st h1 h2 => F.new id st h1 (lt2 id st h2).2, fun b hb hlt => ?_, F.lp, F.size, F.os, F.tape, F.output, F.fz⟩, cst.sz, cst.dn⟩,
    ⟨fun s d' _ hd => ?_, fun id c' _ hc => ?_, fun id _ hle => c2' id (fun hb => by have := hz id hb; omega), cst.g.gl.im fun _ h => .inl h⟩⟩
  · by_cases hid : B id
    · rw [c2 id hid]; exact F.up.cur id
    · rw [hzero id hid]; exact Nat.zero_le _
  · rcases hb with hb | ⟨⟨id', st', h1, h2, h3⟩, h4⟩
    · exact F.imn b hb hlt
    · have := fresh id' st' h1 h2
      omega
  · obtain ⟨d, h1, h2⟩ := S.sl s d' hd
    obtain ⟨h3, h4⟩ := rep.sl s d trivial h1
    exact ⟨h3, fz d d' h2 _ h4⟩
  · obtain ⟨hid, c, h1, h2⟩ := S.ob id c' hc
    have H := hob1 id c h1
    cases h2 with
    | cells hcc =>
      obtain ⟨q0, q1, q2⟩ := H
      refine ⟨q0, (c2 id hid).trans q1, fun st hst => ?_⟩
      obtain ⟨vs, e, fr, q3, q4, q5⟩ := q2 st hst
      refine ⟨vs, e, fr, q3, q4, fun p c' hp hh hd => ?_⟩
      obtain ⟨c, k1, k2, k3⟩ := hcc p c' hp
      obtain ⟨u, k4, k5, k6⟩ := q5 p c k1 (k2 st hh) hd
      exact ⟨u, k4, fz _ _ k3 u k5, k6⟩
    | map hl hm =>
      obtain ⟨q1, en, cl, q2, q3, q4⟩ := H
      refine ⟨(c2 id hid).trans q1, en, cl, q2, by rw [← hl]; exact q3, fun i e' f he' hf => ?_⟩
      rename_i es es'
      have hi : i < es.length := by rw [hl]; exact (List.getElem?_eq_some_iff.1 he').1
      obtain ⟨k1, k2⟩ := hm i _ e' (List.getElem?_eq_getElem hi) he'
      obtain ⟨k3, k4⟩ := q4 i _ f (List.getElem?_eq_getElem hi) hf
      exact ⟨fz _ _ k1 _ k3, fz _ _ k2 _ k4⟩
    | lp hsl =>
      obtain ⟨q1, l, q2, q3, q4, q5, q6⟩ := H
      refine ⟨(c2 id hid).trans q1, l, q2, q3, q4, fun s d' hs => ?_, q6⟩
      obtain ⟨d, k1, k2⟩ := hsl s d' hs
      exact ⟨(q5 s d k1).1, fz _ _ k2 _ (q5 s d k1).2⟩
    | hole => exact (c2 id hid).trans H
theorem bareW : ∀ c : Code, ∃ c', comp P nt c' = comp P nt c ∧ (∀ d, c' ≠ .scope d) ∧ ∀ {F : Fence} {n : Nat} {Q : Exit → Act → World → Prop} {a : Act} {w : World}, ∃ Q' : Exit → Act → World → Prop, (∀ (e : Ex) a w, Q e.to a w → Q' e.to a w) ∧ (c'.wpIn F n P Q' a w → c.wpIn F n P Q a w)
  | .scope c => let ⟨c', h1, h2, h3⟩ := bareW c; ⟨c', h1, h2, fun {F n Q a w} => by
    obtain ⟨Q', k1, k2⟩ := h3 (F := F) (n := n) (Q := Exit.noGoto Q) (a := a) (w := w)
    exact ⟨Q', fun e a w h => k1 e a w (by cases e <;> exact h), fun h => wpIn_scope_straight' (k2 h)⟩⟩
  | .skip => ⟨.skip, rfl, (fun _ h => by cases h), fun {F n Q a w} => ⟨Q, fun _ _ _ h => h, fun h => h⟩⟩
  | .label l => ⟨.label l, rfl, (fun _ h => by cases h), fun {F n Q a w} => ⟨Q, fun _ _ _ h => h, fun h => h⟩⟩
  | .ret => ⟨.ret, rfl, (fun _ h => by cases h), fun {F n Q a w} => ⟨Q, fun _ _ _ h => h, fun h => h⟩⟩
  | .exit i => ⟨.exit i, rfl, (fun _ h => by cases h), fun {F n Q a w} => ⟨Q, fun _ _ _ h => h, fun h => h⟩⟩
  | .region i o d => ⟨.region i o d, rfl, (fun _ h => by cases h), fun {F n Q a w} => ⟨Q, fun _ _ _ h => h, fun h => h⟩⟩
  | .seq a b => ⟨.seq a b, rfl, (fun _ h => by cases h), fun {F n Q a w} => ⟨Q, fun _ _ _ h => h, fun h => h⟩⟩
  | .cond c a b => ⟨.cond c a b, rfl, (fun _ h => by cases h), fun {F n Q a w} => ⟨Q, fun _ _ _ h => h, fun h => h⟩⟩
  | .block i a => ⟨.block i a, rfl, (fun _ h => by cases h), fun {F n Q a w} => ⟨Q, fun _ _ _ h => h, fun h => h⟩⟩
  | .loop a => ⟨.loop a, rfl, (fun _ h => by cases h), fun {F n Q a w} => ⟨Q, fun _ _ _ h => h, fun h => h⟩⟩
  | .rangeFunc f p a b => ⟨.rangeFunc f p a b, rfl, (fun _ h => by cases h), fun {F n Q a w} => ⟨Q, fun _ _ _ h => h, fun h => h⟩⟩
  | .goto l => ⟨.goto l, rfl, (fun _ h => by cases h), fun {F n Q a w} => ⟨Q, fun _ _ _ h => h, fun h => h⟩⟩
  | .refuse s => ⟨.refuse s, rfl, (fun _ h => by cases h), fun {F n Q a w} => ⟨Q, fun _ _ _ h => h, fun h => h⟩⟩
theorem XOk.seqB {a b c b2 : Code} {x y z z' Z : X} {ex : Ex} {B : Pos → Prop} (hb : ∀ {F : Fence} {n : Nat} {Q : Exit → Act → World → Prop} {a : Act} {w : World}, ∃ Q' : Exit → Act → World → Prop, (∀ (e : Ex) a w, Q e.to a w → Q' e.to a w) ∧ ((Code.seq b c).wpIn F n P Q' a w → b2.wpIn F n P Q a w))
    (h1 : XOk P nt a x .normal y) (h2 : XOk P nt b y .normal z) (S : ShrB B z z') (hx : ∀ id : Pos, id.nat < x.nx.nat → B id) (hz : ∀ id : Pos, B id → id.nat < z'.nx.nat) (hn : x.nx.nat ≤ z'.nx.nat) (h3 : XOk P nt c z' ex Z) : XOk P nt (.seq a b2) x ex Z := by
  have hl : x.lg = none := (h1.lg.trans h2.lg).none.2 S.l
  have hZ : Z.lg = none := h3.lg.none.1 S.l'
  refine ⟨by rw [hl, hZ]; exact LgLe.refl _, Nat.le_trans hn h3.nx, fun id hn => by rw [hZ] at hn; exact absurd trivial hn, fun so hs ro γ a w hn g R n Q hQ => ?_⟩
  have hall : ∀ id, so id := fun id => hs id (by rw [hZ]; trivial)
  refine wpIn_seq (h1.ok so (fun id _ => hall id) ro γ a w hn g R n _ fun γ1 a1 w1 s1 R1 => ?_)
  obtain ⟨Q', k1, k2⟩ := hb (F := FW ro) (n := n) (Q := Q) (a := a1) (w := w1)
  refine k2 (wpIn_seq (h2.ok so (fun id _ => hall id) ro γ1 a1 w1 (s1.sz.trans hn) s1.g R1 n _ fun γ2 a2 w2 s2 R2 => ?_))
  obtain ⟨γ3, s3, R3⟩ := shrinkB_at S hx hz hall R (CSt.trans h2.lg s1 s2) R2
  exact h3.ok so hs ro γ3 a2 w2 (s3.sz.trans hn) s3.g R3 n Q' fun γ4 a4 w4 s4 R4 => k1 _ _ _ <| hQ γ4 a4 w4 (CSt.trans h3.lg s3 s4) R4
structure SeqZ (P : Program) (nt : Nat) (c : RC) (x : X) (K : Ex → X → Prop) (e : Ex) (z : X) : Prop where
  ok : e = .normal ∧ ∃ z' B, ShrB B z z' ∧ (∀ id : Pos, id.nat < x.nx.nat → B id) ∧ (∀ id : Pos, B id → id.nat < z'.nx.nat) ∧ x.nx.nat ≤ z'.nx.nat ∧ Rn P nt c z' K
def seqY (P : Program) (nt : Nat) (b c : RC) (x : X) (K : Ex → X → Prop) (e : Ex) (y : X) : Prop :=
  match e with
  | .normal => Rn P nt b y (SeqZ P nt c x K)
  | .ret => False
  | .exit _ => False
theorem Rn.seqB {a b c : RC} {x : X} {K : Ex → X → Prop} (h : Rn P nt a x (seqY P nt b c x K)) : Rn P nt (.seq a (.seq b c)) x K := Rn.of_bare fun code hc hs => by
  refine other hc hs (fun e => by cases e) (fun _ e => by cases e) (fun j _ e => by cases e) (fun i ops _ e => by cases e) (fun i ops _ e => by cases e) (fun a' b2 e e' => ?_) (fun _ _ _ _ _ _ e => by cases e) (fun _ _ _ e => by cases e) (fun _ _ e => by cases e) (fun _ _ _ _ _ _ _ _ _ e => by cases e) (fun e => by cases e)
  simp only [RC.seq.injEq] at e'
  obtain ⟨e1, e2⟩ := e'
  subst e
  obtain ⟨c1, k1, k2, k3⟩ := bareW (P := P) (nt := nt) b2
  refine other (k1.trans e2.symm) k2 (fun e => by cases e) (fun _ e => by cases e) (fun j _ e => by cases e) (fun i ops _ e => by cases e) (fun i ops _ e => by cases e) (fun b' c' e e' => ?_) (fun _ _ _ _ _ _ e => by cases e) (fun _ _ _ e => by cases e) (fun _ _ e => by cases e) (fun _ _ _ _ _ _ _ _ _ e => by cases e) (fun e => by cases e)
  simp only [RC.seq.injEq] at e'
  obtain ⟨e3, e4⟩ := e'
  subst e
  obtain ⟨e, y, h1, h2⟩ := h.ok a' e1.symm
  cases e with
  | normal =>
    obtain ⟨e, z, h3, h4⟩ := h2.ok b' e3.symm
    obtain ⟨rfl, z', B, S, q1, q2, q3, h5⟩ := h4.ok
    obtain ⟨e, Z, h6, h7⟩ := h5.ok c' e4.symm
    exact ⟨e, Z, XOk.seqB k3 h1 h3 S q1 q2 q3 h6, h7⟩
  | ret => exact absurd h2 (fun h => h)
  | exit i => exact absurd h2 (fun h => h)
end
end Go.Ev
namespace Go.Ev
theorem WB.decT {p : Prop} [Decidable p] {F : Bool → Prop} (h : p) (k : F true) : WB (decide p) F := WB.of (by rw [decide_eq_true h]; exact k)
theorem WB.decF {p : Prop} [Decidable p] {F : Bool → Prop} (h : ¬ p) (k : F false) : WB (decide p) F := WB.of (by rw [decide_eq_false h]; exact k)
theorem WB.ndT {p : Prop} [Decidable p] {F : Bool → Prop} (h : p) (k : F false) : WB (!decide p) F := WB.of (by rw [decide_eq_true h]; exact k)
theorem WB.ndF {p : Prop} [Decidable p] {F : Bool → Prop} (h : ¬ p) (k : F true) : WB (!decide p) F := WB.of (by rw [decide_eq_false h]; exact k)
theorem WB.nt {F : Bool → Prop} (k : F false) : WB (!true) F := WB.of k
theorem WB.nf {F : Bool → Prop} (k : F true) : WB (!false) F := WB.of k
theorem WB.at' {b c : Bool} {F : Bool → Prop} (h : b = c) (k : F c) : WB b F := WB.of (by rw [h]; exact k)
theorem Qm {p : Prop} [Decidable p] {F : Bool → Prop} (k : F true) (h : p := by first | rfl | assumption | omega | exact ⟨rfl, rfl⟩) : WB (decide p) F := WB.decT h k
theorem Qn {p : Prop} [Decidable p] {F : Bool → Prop} (k : F false) (h : ¬ p := by first | assumption | omega) : WB (decide p) F := WB.decF h k
theorem Qo {p : Prop} [Decidable p] {F : Bool → Prop} (k : F false) (h : p := by first | rfl | assumption | omega | exact ⟨rfl, rfl⟩) : WB (!decide p) F := WB.ndT h k
theorem Qp {p : Prop} [Decidable p] {F : Bool → Prop} (k : F true) (h : ¬ p := by first | assumption | omega) : WB (!decide p) F := WB.ndF h k
end Go.Ev
namespace Go.Ev
open Go.RowKit (Below Grown)
section
variable {ob : T C}
end
section
variable {P : Program} {FP : T RF}
end
end Go.Ev