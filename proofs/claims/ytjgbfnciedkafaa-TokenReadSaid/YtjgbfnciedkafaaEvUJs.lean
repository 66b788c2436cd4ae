import Derived.Test.YtjgbfnciedkafaaEvUJ8
import Derived.Test.YtjgbfnciedkafaaEvUFg
import Derived.Test.YtjgbfnciedkafaaEvUJb
set_option linter.all false
namespace Go.Ev
open Go.Proofs
set_option maxRecDepth 1000000
def p118 : Pos := .o p59
def p119 : Pos := .i p59
def p120 : Pos := .o p60
def p121 : Pos := .i p60
def p122 : Pos := .o p61
def p123 : Pos := .i p61
def p124 : Pos := .o p62
def p125 : Pos := .i p62
def p136 : Pos := .o p68
def p137 : Pos := .i p68
def p138 : Pos := .o p69
def p139 : Pos := .i p69
def p140 : Pos := .o p70
def p141 : Pos := .i p70
def p142 : Pos := .o p71
def p143 : Pos := .i p71
def p144 : Pos := .o p72
def p145 : Pos := .i p72
def p156 : Pos := .o p78
def p157 : Pos := .i p78
def p158 : Pos := .o p79
def p159 : Pos := .i p79
def p160 : Pos := .o p80
def p161 : Pos := .i p80
def p165 : Pos := .i p82
noncomputable def rc33 : RC := (.seq (.reg [(.u (.box p3 (.t p1))), (.u (.mv p5 (.k .ns))), (.u (.mv p6 (.k .ns))), (.u (.mv p7 (.k (.i .i64 0))))]) (.seq (.drw [(.u (.ldn p10 (.t p3) 5)), (.u (.mv p11 (.t p2))), (.u (.fad p12 (.t p3) 3)), (.u (.ld1 p13 (.t p12))), (.u (.len p14 (.t p13))), (.u (.cf (some p15) p86 [(.t p11), (.t p14)])), (.u (.cf (some p16) p85 [(.t p10), (.t p15)])), (.u (.mv p9 (.t p16))), (.u (.ext p17 (.t p9) 0)), (.u (.ext p18 (.t p9) 1)), (.u (.new p8 [(.i .i64 0), (.i .i64 0), (.i .i64 0), .ns, .ns, .nm])), (.u (.st (.t p8) (.t p17) 6)), (.u (.mv p7 (.t p18)))] [0, 0, 0, 4, 12, 30, 63, 127, 255, 255, 0, 1535, 4095]) (.seq (.seq (.reg [(.u (.mv p19 (.t p7))), (.u (.bin p20 .neq (.t p19) (.k (.i .i64 0))))]) (.cond (.t p20) (.seq (.reg [(.u (.mv p21 (.t p7))), (.u (.mv p5 (.k .ns))), (.u (.mv p6 (.k .ns))), (.u (.mv p7 (.t p21)))]) .ret) .skip)) (.seq (.drw [(.u (.ldn p22 (.t p8) 6)), (.u (.mv p23 (.t p2))), (.u (.cf (some p24) p87 [(.t p22), (.t p23), (.k (.i .i64 0))])), (.u (.ldn p25 (.t p8) 6)), (.u (.mv p26 (.t p2))), (.u (.cf (some p27) p87 [(.t p25), (.t p26), (.k (.i .i64 4))])), (.u (.mv p5 (.t p24))), (.u (.mv p6 (.t p27))), (.u (.mv p7 (.k (.i .i64 0))))] [0, 0, 3, 0, 0, 31, 63, 127, 255]) .ret))))
def rs33 : List RR := [(.t p5), (.t p6), (.t p7)]
theorem fn33 : FnOk Try.prog p34.ix 27 rc33 rs33 := ⟨Try.f33, bodyC Try.f33, Try.func33, by kernel_rfl, by kernel_rfl, by kernel_rfl, by kernel_rfl, by kernel_rfl⟩
noncomputable def rc38 : RC := (.seq (.reg [(.u (.box p3 (.t p1))), (.u (.new p5 [(.i .i64 0), (.i .i64 0)])), (.u (.mv p6 (.k (.i .i64 0))))]) (.seq (.drw [(.u (.ldn p10 (.t p3) 5)), (.u (.mv p11 (.t p2))), (.u (.fad p12 (.t p3) 3)), (.u (.ld1 p13 (.t p12))), (.u (.len p14 (.t p13))), (.u (.cf (some p15) p86 [(.t p11), (.t p14)])), (.u (.cf (some p16) p85 [(.t p10), (.t p15)])), (.u (.mv p9 (.t p16))), (.u (.ext p17 (.t p9) 0)), (.u (.ext p18 (.t p9) 1)), (.u (.new p7 [(.i .i64 0), (.i .i64 0), (.i .i64 0), .ns, .ns, .nm])), (.u (.st (.t p7) (.t p17) 6)), (.u (.mv p8 (.t p18)))] [0, 0, 0, 4, 12, 30, 63, 127, 255, 255, 0, 1535, 4095]) (.seq (.seq (.reg [(.u (.mv p19 (.t p8))), (.u (.bin p20 .neq (.t p19) (.k (.i .i64 0))))]) (.cond (.t p20) (.seq (.reg [(.u (.bld p21 [(.i .i64 0), (.i .i64 0)] [])), (.u (.mv p22 (.t p8))), (.u (.st (.t p5) (.t p21) 2)), (.u (.mv p6 (.t p22)))]) .ret) .skip)) (.seq (.reg [(.u (.ldn p23 (.t p7) 6)), (.u (.mv p24 (.t p2))), (.u (.bld p25 [(.i .i64 0), .nf] [(0, (1, (.t p24))), (1, (1, (.k (.fn p77 [] []))))])), (.u (.cf (some p26) p89 [(.t p23), (.t p25)])), (.u (.st (.t p5) (.t p26) 2)), (.u (.mv p6 (.k (.i .i64 0))))]) .ret))))
def rs38 : List RR := [(.cn p5 2), (.t p6)]
theorem fn38 : FnOk Try.prog p39.ix 26 rc38 rs38 := ⟨Try.f38, bodyC Try.f38, Try.func38, by kernel_rfl, by kernel_rfl, by kernel_rfl, by kernel_rfl, by kernel_rfl⟩
noncomputable def rc39 : RC := (.seq (.reg [(.u (.box p2 (.t p1))), (.u (.new p3 [(.i .i64 0), (.i .i64 0)])), (.u (.mv p4 (.k (.i .i64 0))))]) (.seq (.reg [(.u (.ldn p8 (.t p2) 5)), (.u (.cf (some p9) p85 [(.t p8), (.k (.b true))])), (.u (.mv p7 (.t p9))), (.u (.ext p10 (.t p7) 0)), (.u (.ext p11 (.t p7) 1)), (.u (.new p5 [(.i .i64 0), (.i .i64 0), (.i .i64 0), .ns, .ns, .nm])), (.u (.st (.t p5) (.t p10) 6)), (.u (.mv p6 (.t p11)))]) (.seq (.seq (.reg [(.u (.mv p12 (.t p6))), (.u (.bin p13 .neq (.t p12) (.k (.i .i64 0))))]) (.cond (.t p13) (.seq (.reg [(.u (.bld p14 [(.i .i64 0), (.i .i64 0)] [])), (.u (.mv p15 (.t p6))), (.u (.st (.t p3) (.t p14) 2)), (.u (.mv p4 (.t p15)))]) .ret) .skip)) (.seq (.reg [(.u (.ldn p16 (.t p5) 6)), (.u (.fad p17 (.t p2) 3)), (.u (.ld1 p18 (.t p17))), (.u (.len p19 (.t p18))), (.u (.bld p20 [(.i .i64 0), .nf] [(0, (1, (.t p19))), (1, (1, (.k (.fn p78 [] []))))])), (.u (.cf (some p21) p89 [(.t p16), (.t p20)])), (.u (.st (.t p3) (.t p21) 2)), (.u (.mv p4 (.k (.i .i64 0))))]) .ret))))
def rs39 : List RR := [(.cn p3 2), (.t p4)]
theorem fn39 : FnOk Try.prog p40.ix 21 rc39 rs39 := ⟨Try.f39, bodyC Try.f39, Try.func39, by kernel_rfl, by kernel_rfl, by kernel_rfl, by kernel_rfl, by kernel_rfl⟩
noncomputable def rc43 : RC := (.seq (.reg [(.u (.box p3 (.t p1))), (.u (.mv p5 (.k .ns))), (.u (.mv p6 (.k (.i .i64 0))))]) (.seq (.drw [(.u (.ldn p10 (.t p3) 5)), (.u (.mv p11 (.t p2))), (.u (.fad p12 (.t p3) 3)), (.u (.ld1 p13 (.t p12))), (.u (.len p14 (.t p13))), (.u (.bin p15 .sub (.t p14) (.k (.i .i64 1)))), (.u (.cf (some p16) p86 [(.t p11), (.t p15)])), (.u (.cf (some p17) p85 [(.t p10), (.t p16)])), (.u (.mv p9 (.t p17))), (.u (.ext p18 (.t p9) 0)), (.u (.ext p19 (.t p9) 1)), (.u (.new p7 [(.i .i64 0), (.i .i64 0), (.i .i64 0), .ns, .ns, .nm])), (.u (.st (.t p7) (.t p18) 6)), (.u (.mv p8 (.t p19)))] [0, 0, 0, 4, 12, 28, 62, 127, 255, 511, 511, 0, 3071, 8191]) (.seq (.seq (.reg [(.u (.mv p20 (.t p8))), (.u (.bin p21 .neq (.t p20) (.k (.i .i64 0))))]) (.cond (.t p21) (.seq (.reg [(.u (.mv p22 (.t p8))), (.u (.mv p5 (.k .ns))), (.u (.mv p6 (.t p22)))]) .ret) .skip)) (.seq (.reg [(.u (.ldn p23 (.t p7) 6)), (.u (.mv p24 (.t p2))), (.u (.cf (some p25) p92 [(.t p23), (.t p24)])), (.u (.mv p5 (.t p25))), (.u (.mv p6 (.k (.i .i64 0))))]) .ret))))
def rs43 : List RR := [(.t p5), (.t p6)]
theorem fn43 : FnOk Try.prog p44.ix 25 rc43 rs43 := ⟨Try.f43, bodyC Try.f43, Try.func43, by kernel_rfl, by kernel_rfl, by kernel_rfl, by kernel_rfl, by kernel_rfl⟩
noncomputable def rc84 : RC := (.seq (.reg [(.u (.box p3 (.t p1))), (.u (.new p5 [(.i .i64 0), (.i .i64 0), (.i .i64 0), .ns, .ns, .nm])), (.u (.mv p6 (.k (.i .i64 0))))]) (.seq (.seq (.reg [(.u (.ldn p9 (.t p3) 5)), (.u (.cf (some p10) p28 [(.t p9)])), (.u (.mv p7 (.t p10)))]) (.seq (.reg [(.u (.mv p11 (.t p7))), (.u (.bin p12 .neq (.t p11) (.k (.i .i64 0))))]) (.cond (.t p12) (.seq (.reg [(.u (.bld p13 [(.i .i64 0), (.i .i64 0), (.i .i64 0), .ns, .ns, .nm] [])), (.u (.mv p14 (.t p7))), (.u (.st (.t p5) (.t p13) 6)), (.u (.mv p6 (.t p14)))]) .ret) .skip))) (.seq (.seq (.reg [(.u (.mv p15 (.t p2))), (.u (.un p16 .not (.t p15)))]) (.cond (.t p16) (.seq (.reg [(.u (.bld p17 [(.i .i64 0), (.i .i64 0), (.i .i64 0), .ns, .ns, .nm] [])), (.u (.st (.t p5) (.t p17) 6)), (.u (.mv p6 (.k (.i .i64 2))))]) .ret) .skip)) (.seq (.reg [(.u (.ldn p18 (.t p3) 5)), (.u (.cf (some p19) p75 [(.t p18)])), (.u (.new p8 [(.i .i64 0), (.i .i64 0), (.i .i64 0), .ns, .ns, .nm])), (.u (.st (.t p8) (.t p19) 6))]) (.seq (.seq (.reg [(.u (.ldn p20 (.t p8) 6)), (.u (.cf (some p21) p94 [(.t p20)])), (.u (.un p22 .not (.t p21)))]) (.cond (.t p22) (.seq (.reg [(.u (.bld p23 [(.i .i64 0), (.i .i64 0), (.i .i64 0), .ns, .ns, .nm] [])), (.u (.st (.t p5) (.t p23) 6)), (.u (.mv p6 (.k (.i .i64 11))))]) .ret) .skip)) (.seq (.reg [(.u (.ldn p24 (.t p8) 6)), (.u (.st (.t p5) (.t p24) 6)), (.u (.mv p6 (.k (.i .i64 0))))]) .ret))))))
def rs84 : List RR := [(.cn p5 6), (.t p6)]
theorem fn84 : FnOk Try.prog p85.ix 24 rc84 rs84 := ⟨Try.f84, bodyC Try.f84, Try.func84, by kernel_rfl, by kernel_rfl, by kernel_rfl, by kernel_rfl, by kernel_rfl⟩
noncomputable def rc86 : RC := (.seq (.reg [(.u (.box p4 (.t p1))), (.u (.mv p7 (.k .ns)))]) (.seq (.reg [(.u (.mv p8 (.k .ns)))]) (.seq (.seq (.reg [(.u (.fad p11 (.t p4) 0)), (.u (.fad p12 (.t p11) 0)), (.u (.ld1 p13 (.t p12))), (.u (.mv p14 (.k (.i .i64 0))))]) (.blk 0 (.loop (.seq (.reg [(.u (.bin p15 .lss (.t p14) (.t p13)))]) (.seq (.cond (.t p15) .skip (.exit 0)) (.seq (.blk 1 (.seq (.reg [(.u (.mv p16 (.t p14))), (.u (.mv p9 (.t p16)))]) (.seq (.reg [(.u (.mv p17 (.t p3))), (.u (.mv p18 (.t p9))), (.u (.bin p19 .add (.t p17) (.t p18))), (.u (.mv p10 (.t p19)))]) (.reg [(.u (.mv p20 (.t p8))), (.u (.ldn p21 (.t p4) 6)), (.u (.mv p22 (.t p2))), (.u (.mv p23 (.t p10))), (.u (.fnl p24 p119 [(.t p23)] [])), (.u (.bld p25 [(.i .i64 0), .nf] [(0, (1, (.t p22))), (1, (1, (.t p24)))])), (.u (.cf (some p26) p89 [(.t p21), (.t p25)])), (.u (.cf (some p27) p118 [(.t p26)])), (.u (.bsl p28 1 1 [(.i .i64 0)] [(0, (1, (.t p27)))])), (.u (.app p29 1 (.t p20) (.t p28))), (.u (.mv p8 (.t p29)))])))) (.reg [(.u (.bin p30 .add (.t p14) (.k (.i .i64 1)))), (.u (.mv p14 (.t p30)))]))))))) (.seq (.reg [(.u (.mv p31 (.t p8))), (.u (.mv p7 (.t p31)))]) .ret))))
def rs86 : List RR := [(.t p7)]
theorem fn86 : FnOk Try.prog p87.ix 31 rc86 rs86 := ⟨Try.f86, bodyC Try.f86, Try.func86, by kernel_rfl, by kernel_rfl, by kernel_rfl, by kernel_rfl, by kernel_rfl⟩
noncomputable def rc88 : RC := (.seq (.reg [(.u (.box p3 (.t p1))), (.u (.box p4 (.t p2))), (.u (.new p5 [(.i .i64 0), (.i .i64 0)]))]) (.seq (.reg [(.u (.new p6 [.ns]))]) (.seq (.seq (.reg [(.u (.ldn p8 (.t p3) 6)), (.u (.cf (some p9) p120 [(.t p8)]))]) (.blk 0 (.rf (.t p9) [p10] 28 (rfA (bodyC Try.f88) 0) (rfB (bodyC Try.f88) 0)))) (.seq (.drw [(.u (.ld1 p21 (.t p6))), (.u (.ixs p22 1 (.t p21) (.k (.i .i64 0)))), (.u (.ld1 p23 (.t p22))), (.u (.ld1 p24 (.t p6))), (.u (.cf (some p25) p121 [(.t p23), (.t p24)])), (.u (.ld1 p26 (.t p6))), (.u (.cf (some p27) p122 [(.t p26)])), (.u (.bld p28 [(.i .i64 0), (.i .i64 0)] [(0, (1, (.t p25))), (1, (1, (.t p27)))])), (.u (.st (.t p5) (.t p28) 2))] [0, 1, 3, 0, 15, 0, 63, 127, 255]) .ret))))
def rs88 : List RR := [(.cn p5 2)]
theorem fn88 : FnOk Try.prog p89.ix 28 rc88 rs88 := ⟨Try.f88, bodyC Try.f88, Try.func88, by kernel_rfl, by kernel_rfl, by kernel_rfl, by kernel_rfl, by kernel_rfl⟩
noncomputable def rc88a0 : RC := (.reg [(.u (.new p7 [(.i .i64 0), (.i .i64 0), (.i .i64 0), (.i .i64 0), (.i .i64 0), (.i .i64 0), (.i .i64 0), (.i .i64 0), (.i .i64 0), (.i .i64 0), (.i .i64 0), (.i .i64 0), (.i .i64 0), (.i .i64 0), (.i .i64 0), (.i .i64 0), (.i .i64 0), (.i .i64 0), (.i .i64 0), (.i .i64 0), (.i .i64 0), (.i .i64 0), (.i .i64 0), (.i .i64 0), (.i .i64 0), (.i .i64 0), (.i .i64 0), (.i .i64 0), (.i .i64 0), (.i .i64 0), (.i .i64 0), (.i .i64 0), (.i .i64 0), (.i .i64 0), (.i .i64 0), (.i .i64 0), (.i .i64 0), (.i .i64 0), (.i .i64 0), (.i .i64 0), (.i .i64 0), (.i .i64 0), (.i .i64 0), (.i .i64 0), (.i .i64 0), (.i .i64 0), (.i .i64 0), (.i .i64 0), (.i .i64 0), (.i .i64 0), (.i .i64 0), (.i .i64 0), (.i .i64 0), (.i .i64 0), (.i .i64 0), (.i .i64 0), (.i .i64 0), (.i .i64 0), (.i .i64 0), (.i .i64 0), (.i .i64 0), (.i .i64 0), (.i .i64 0), (.i .i64 0), (.i .i64 0), (.i .i64 0), (.i .i64 0), (.i .i64 0), (.i .i64 0), (.i .i64 0), (.i .i64 0), (.i .i64 0), (.i .i64 0), (.i .i64 0), (.i .i64 0), (.i .i64 0), (.i .i64 0), (.i .i64 0), (.i .i64 0), (.i .i64 0), (.i .i64 0), (.i .i64 0), (.i .i64 0), (.i .i64 0), (.i .i64 0), (.i .i64 0), (.i .i64 0), (.i .i64 0), (.i .i64 0), (.i .i64 0), (.i .i64 0), (.i .i64 0), (.i .i64 0), (.i .i64 0), (.i .i64 0), (.i .i64 0), (.i .i64 0), (.i .i64 0), (.i .i64 0), (.i .i64 0), (.i .i64 0), (.i .i64 0), (.i .i64 0), (.i .i64 0), (.i .i64 0), (.i .i64 0), (.i .i64 0), (.i .i64 0), (.i .i64 0), (.i .i64 0), (.i .i64 0), (.i .i64 0), (.i .i64 0), (.i .i64 0), (.i .i64 0), (.i .i64 0), (.i .i64 0), (.i .i64 0), (.i .i64 0), (.i .i64 0), (.i .i64 0), (.i .i64 0), (.i .i64 0), (.i .i64 0), (.i .i64 0), (.i .i64 0)])), (.u (.st (.t p7) (.t p10) 126))])
theorem rc88a0_ok : comp Try.prog 28 (rfA (bodyC Try.f88) 0) = rc88a0 := by kernel_rfl
noncomputable def rc88b0 : RC := (.blk 1 (.drw [(.u (.ld1 p11 (.t p6))), (.u (.fad p12 (.t p4) 1)), (.u (.ld1 p13 (.t p12))), (.u (.fad p14 (.t p4) 0)), (.u (.ld1 p15 (.t p14))), (.u (.ixa p16 9 14 (.t p7) (.t p15))), (.u (.ldn p17 (.t p16) 14)), (.u (.cv (some p18) (.t p13) [(.t p17)])), (.u (.bsl p19 1 1 [(.i .i64 0)] [(0, (1, (.t p18)))])), (.u (.app p20 1 (.t p11) (.t p19))), (.u (.st (.t p6) (.t p20) 1))] [0, 0, 2, 0, 8, 24, 56, 126, 254, 511, 1023]))
theorem rc88b0_ok : comp Try.prog 28 (rfB (bodyC Try.f88) 0) = rc88b0 := by kernel_rfl
noncomputable def rc91 : RC := (.seq (.reg [(.u (.box p3 (.t p1))), (.u (.box p4 (.t p2))), (.u (.mv p5 (.k .ns)))]) (.seq (.reg [(.u (.mkm p10)), (.u (.new p6 [.nm])), (.u (.st (.t p6) (.t p10) 1))]) (.seq (.seq (.reg [(.u (.ldn p11 (.t p3) 6)), (.u (.cf (some p12) p120 [(.t p11)]))]) (.blk 0 (.rf (.t p12) [p13] 36 (rfA (bodyC Try.f91) 0) (rfB (bodyC Try.f91) 0)))) (.seq (.reg [(.u (.new p8 [.ns]))]) (.seq (.seq (.drw [(.u (.ldn p20 (.t p3) 6)), (.u (.fad p21 (.t p3) 0)), (.u (.fad p22 (.t p21) 3)), (.u (.ld1 p23 (.t p22))), (.u (.ld1 p24 (.t p4))), (.u (.ixs p25 3 (.t p23) (.t p24))), (.u (.ldn p26 (.t p25) 3)), (.u (.cf (some p27) p107 [(.t p20), (.t p26)]))] [0, 0, 2, 6, 0, 30, 62, 127]) (.blk 2 (.rf (.t p27) [p28] 36 (rfA (bodyC Try.f91) 1) (rfB (bodyC Try.f91) 1)))) (.seq (.reg [(.u (.ld1 p36 (.t p8))), (.u (.mv p5 (.t p36)))]) .ret))))))
def rs91 : List RR := [(.t p5)]
theorem fn91 : FnOk Try.prog p92.ix 36 rc91 rs91 := ⟨Try.f91, bodyC Try.f91, Try.func91, by kernel_rfl, by kernel_rfl, by kernel_rfl, by kernel_rfl, by kernel_rfl⟩
noncomputable def rc91a0 : RC := (.reg [(.u (.new p7 [(.i .i64 0), (.i .i64 0), (.i .i64 0), (.i .i64 0), (.i .i64 0), (.i .i64 0), (.i .i64 0), (.i .i64 0), (.i .i64 0), (.i .i64 0), (.i .i64 0), (.i .i64 0), (.i .i64 0), (.i .i64 0), (.i .i64 0), (.i .i64 0), (.i .i64 0), (.i .i64 0), (.i .i64 0), (.i .i64 0), (.i .i64 0), (.i .i64 0), (.i .i64 0), (.i .i64 0), (.i .i64 0), (.i .i64 0), (.i .i64 0), (.i .i64 0), (.i .i64 0), (.i .i64 0), (.i .i64 0), (.i .i64 0), (.i .i64 0), (.i .i64 0), (.i .i64 0), (.i .i64 0), (.i .i64 0), (.i .i64 0), (.i .i64 0), (.i .i64 0), (.i .i64 0), (.i .i64 0), (.i .i64 0), (.i .i64 0), (.i .i64 0), (.i .i64 0), (.i .i64 0), (.i .i64 0), (.i .i64 0), (.i .i64 0), (.i .i64 0), (.i .i64 0), (.i .i64 0), (.i .i64 0), (.i .i64 0), (.i .i64 0), (.i .i64 0), (.i .i64 0), (.i .i64 0), (.i .i64 0), (.i .i64 0), (.i .i64 0), (.i .i64 0), (.i .i64 0), (.i .i64 0), (.i .i64 0), (.i .i64 0), (.i .i64 0), (.i .i64 0), (.i .i64 0), (.i .i64 0), (.i .i64 0), (.i .i64 0), (.i .i64 0), (.i .i64 0), (.i .i64 0), (.i .i64 0), (.i .i64 0), (.i .i64 0), (.i .i64 0), (.i .i64 0), (.i .i64 0), (.i .i64 0), (.i .i64 0), (.i .i64 0), (.i .i64 0), (.i .i64 0), (.i .i64 0), (.i .i64 0), (.i .i64 0), (.i .i64 0), (.i .i64 0), (.i .i64 0), (.i .i64 0), (.i .i64 0), (.i .i64 0), (.i .i64 0), (.i .i64 0), (.i .i64 0), (.i .i64 0), (.i .i64 0), (.i .i64 0), (.i .i64 0), (.i .i64 0), (.i .i64 0), (.i .i64 0), (.i .i64 0), (.i .i64 0), (.i .i64 0), (.i .i64 0), (.i .i64 0), (.i .i64 0), (.i .i64 0), (.i .i64 0), (.i .i64 0), (.i .i64 0), (.i .i64 0), (.i .i64 0), (.i .i64 0), (.i .i64 0), (.i .i64 0), (.i .i64 0), (.i .i64 0), (.i .i64 0), (.i .i64 0), (.i .i64 0)])), (.u (.st (.t p7) (.t p13) 126))])
theorem rc91a0_ok : comp Try.prog 36 (rfA (bodyC Try.f91) 0) = rc91a0 := by kernel_rfl
noncomputable def rc91b0 : RC := (.blk 1 (.drw [(.u (.ld1 p14 (.t p6))), (.u (.ld1 p15 (.t p4))), (.u (.bin p16 .add (.t p15) (.k (.i .i64 1)))), (.u (.ixa p17 9 14 (.t p7) (.t p16))), (.u (.fad p18 (.t p17) 11)), (.u (.ldn p19 (.t p18) 3)), (.u (.mup [(.i .i64), (.i .i64), (.i .i64)] (.t p14) (.t p19) (.k (.b true))))] [0, 0, 2, 6, 14, 30, 63]))
theorem rc91b0_ok : comp Try.prog 36 (rfB (bodyC Try.f91) 0) = rc91b0 := by kernel_rfl
noncomputable def rc91a1 : RC := (.reg [(.u (.new p9 [(.i .i64 0), (.i .i64 0), (.i .i64 0)])), (.u (.st (.t p9) (.t p28) 3))])
theorem rc91a1_ok : comp Try.prog 36 (rfA (bodyC Try.f91) 1) = rc91a1 := by kernel_rfl
noncomputable def rc91b1 : RC := (.blk 3 (.seq (.reg [(.u (.ld1 p29 (.t p6))), (.u (.ldn p30 (.t p9) 3)), (.u (.lkp p31 (.b false) false [(.i .i64), (.i .i64), (.i .i64)] (.t p29) (.t p30)))]) (.cond (.t p31) (.reg [(.u (.ld1 p32 (.t p8))), (.u (.ldn p33 (.t p9) 3)), (.u (.bsl p34 3 1 [(.i .i64 0), (.i .i64 0), (.i .i64 0)] [(0, (3, (.t p33)))])), (.u (.app p35 3 (.t p32) (.t p34))), (.u (.st (.t p8) (.t p35) 1))]) .skip)))
theorem rc91b1_ok : comp Try.prog 36 (rfB (bodyC Try.f91) 1) = rc91b1 := by kernel_rfl
noncomputable def rc93 : RC := (.seq (.reg [(.u (.box p2 (.t p1))), (.u (.mv p3 (.k (.b false))))]) (.seq (.drw [(.u (.ldn p4 (.t p2) 6)), (.u (.ldn p5 (.t p2) 6)), (.u (.cf (some p6) p105 [(.t p5)])), (.u (.cf (some p7) p123 [(.t p4), (.t p6)])), (.u (.mv p3 (.t p7)))] [0, 0, 2, 7, 15]) .ret))
def rs93 : List RR := [(.t p3)]
theorem fn93 : FnOk Try.prog p94.ix 7 rc93 rs93 := ⟨Try.f93, bodyC Try.f93, Try.func93, by kernel_rfl, by kernel_rfl, by kernel_rfl, by kernel_rfl, by kernel_rfl⟩
noncomputable def rc117 : RC := (.seq (.reg [(.u (.box p2 (.t p1))), (.u (.mv p3 (.k (.i .i64 0))))]) (.seq (.seq (.reg [(.u (.ldn p4 (.t p2) 2))]) (.blk 0 (.seq (.reg [(.u (.bld p6 [(.i .i64 0), (.i .i64 0)] [(0, (1, (.k (.i .i64 1)))), (1, (1, (.k (.i .i64 1))))])), (.u (.eqr p7 false [(.i .i64), (.i .i64)] (.t p4) (.t p6))), (.u (.mv p5 (.t p7)))]) (.cond (.t p5) (.seq (.reg [(.u (.mv p3 (.k (.i .i64 1))))]) .ret) (.seq (.reg [(.u (.bld p9 [(.i .i64 0), (.i .i64 0)] [(0, (1, (.k (.i .i64 0)))), (1, (1, (.k (.i .i64 0))))])), (.u (.eqr p10 false [(.i .i64), (.i .i64)] (.t p4) (.t p9))), (.u (.mv p8 (.t p10)))]) (.cond (.t p8) (.seq (.reg [(.u (.mv p3 (.k (.i .i64 2))))]) .ret) .skip)))))) (.seq (.reg [(.u (.mv p3 (.k (.i .i64 3))))]) .ret)))
def rs117 : List RR := [(.t p3)]
theorem fn117 : FnOk Try.prog p118.ix 10 rc117 rs117 := ⟨Try.f117, bodyC Try.f117, Try.func117, by kernel_rfl, by kernel_rfl, by kernel_rfl, by kernel_rfl, by kernel_rfl⟩
noncomputable def rc118 : RC := (.seq (.reg [(.u (.box p4 (.t p2))), (.u (.mv p5 (.k (.i .i64 0))))]) (.seq (.reg [(.u (.mv p6 (.t p1))), (.u (.fad p7 (.t p4) 1)), (.u (.ixa p8 8 1 (.t p7) (.t p6))), (.u (.ld1 p9 (.t p8))), (.u (.mn p10 (.t p9) (.k (.i .i64 1)))), (.u (.mv p5 (.t p10)))]) .ret))
def rs118 : List RR := [(.t p5)]
theorem fn118 : FnOk Try.prog p119.ix 10 rc118 rs118 := ⟨Try.f118, bodyC Try.f118, Try.func118, by kernel_rfl, by kernel_rfl, by kernel_rfl, by kernel_rfl, by kernel_rfl⟩
noncomputable def rc119 : RC := (.seq (.reg [(.u (.box p2 (.t p1))), (.u (.mv p3 (.k .nf)))]) (.seq (.reg [(.u (.fnl p4 p136 [] [(.t p2)])), (.u (.mv p3 (.t p4)))]) .ret))
def rs119 : List RR := [(.t p3)]
theorem fn119 : FnOk Try.prog p120.ix 4 rc119 rs119 := ⟨Try.f119, bodyC Try.f119, Try.func119, by kernel_rfl, by kernel_rfl, by kernel_rfl, by kernel_rfl, by kernel_rfl⟩
noncomputable def rc120 : RC := (.seq (.reg [(.u (.mv p5 (.k (.i .i64 0))))]) (.seq (.seq (.reg [(.u (.mv p8 (.t p2))), (.u (.len p9 (.t p8))), (.u (.mv p10 (.k (.i .i64 0))))]) (.blk 0 (.loop (.seq (.reg [(.u (.bin p11 .lss (.t p10) (.t p9)))]) (.seq (.cond (.t p11) .skip (.exit 0)) (.seq (.blk 1 (.seq (.reg [(.u (.ixs p12 1 (.t p8) (.t p10))), (.u (.ld1 p13 (.t p12))), (.u (.mv p7 (.t p13)))]) (.reg [(.u (.mv p14 (.t p1))), (.u (.mv p15 (.t p7))), (.u (.mn p16 (.t p14) (.t p15))), (.u (.mv p1 (.t p16)))]))) (.reg [(.u (.bin p17 .add (.t p10) (.k (.i .i64 1)))), (.u (.mv p10 (.t p17)))]))))))) (.seq (.reg [(.u (.mv p18 (.t p1))), (.u (.mv p5 (.t p18)))]) .ret)))
def rs120 : List RR := [(.t p5)]
theorem fn120 : FnOk Try.prog p121.ix 18 rc120 rs120 := ⟨Try.f120, bodyC Try.f120, Try.func120, by kernel_rfl, by kernel_rfl, by kernel_rfl, by kernel_rfl, by kernel_rfl⟩
noncomputable def rc121 : RC := (.seq (.reg [(.u (.mv p3 (.k (.i .i64 0))))]) (.seq (.seq (.reg [(.u (.mv p6 (.t p1))), (.u (.len p7 (.t p6))), (.u (.bin p8 .lss (.t p7) (.k (.i .i64 1))))]) (.cond (.t p8) (.reg [(.u .bad), (.u .bad)]) .skip)) (.seq (.reg [(.u (.mv p10 (.t p1))), (.u (.ixs p11 1 (.t p10) (.k (.i .i64 0)))), (.u (.ld1 p12 (.t p11))), (.u (.mv p4 (.t p12)))]) (.seq (.seq (.reg [(.u (.mv p5 (.k (.i .i64 1))))]) (.blk 0 (.loop (.seq (.seq (.reg [(.u (.mv p13 (.t p5))), (.u (.mv p14 (.t p1))), (.u (.len p15 (.t p14))), (.u (.bin p16 .lss (.t p13) (.t p15)))]) (.cond (.t p16) .skip (.exit 0))) (.seq (.blk 1 (.reg [(.u (.mv p19 (.t p4))), (.u (.mv p20 (.t p1))), (.u (.mv p21 (.t p5))), (.u (.ixs p22 1 (.t p20) (.t p21))), (.u (.ld1 p23 (.t p22))), (.u (.mx p24 (.t p19) (.t p23))), (.u (.mv p4 (.t p24)))])) (.reg [(.u (.mv p17 (.t p5))), (.u (.bin p18 .add (.t p17) (.k (.i .i64 1)))), (.u (.mv p5 (.t p18)))])))))) (.seq (.reg [(.u (.mv p25 (.t p4))), (.u (.mv p3 (.t p25)))]) .ret)))))
def rs121 : List RR := [(.t p3)]
theorem fn121 : FnOk Try.prog p122.ix 25 rc121 rs121 := ⟨Try.f121, bodyC Try.f121, Try.func121, by kernel_rfl, by kernel_rfl, by kernel_rfl, by kernel_rfl, by kernel_rfl⟩
noncomputable def rc122 : RC := (.seq (.reg [(.u (.box p3 (.t p1))), (.u (.box p4 (.t p2))), (.u (.mv p5 (.k (.b false))))]) (.seq (.reg [(.u (.ldn p9 (.t p4) 14)), (.u (.cf (some p10) p139 [(.t p9)])), (.u (.new p6 [(.i .i64 0), (.b false), (.b false), (.b false), (.b false), (.b false), (.b false), (.b false), (.b false)])), (.u (.st (.t p6) (.t p10) 9))]) (.seq (.reg [(.u (.fad p12 (.t p3) 5)), (.u (.ld1 p13 (.t p12))), (.u (.ldn p14 (.t p6) 9)), (.u (.lkp p15 (.b false) true [(.i .i64), .b, .b, .b, .b, .b, .b, .b, .b] (.t p13) (.t p14))), (.u (.mv p11 (.t p15))), (.u (.ext p16 (.t p11) 0)), (.u (.ext p17 (.t p11) 1)), (.u (.mv p7 (.t p16))), (.u (.mv p8 (.t p17)))]) (.seq (.seq (.reg [(.u (.mv p18 (.t p8))), (.u (.un p19 .not (.t p18)))]) (.cond (.t p19) (.seq (.drw [(.u (.ldn p20 (.t p3) 6)), (.u (.ldn p21 (.t p4) 14)), (.u (.cf (some p22) p80 [(.t p20), (.t p21)])), (.u (.mv p23 (.t p22))), (.g p23 true (some p24) (.fad p24 (.t p4) 0)), (.g p23 true (some p25) (.ld1 p25 (.t p24))), (.g p23 true (some p26) (.fad p26 (.t p3) 0)), (.g p23 true (some p27) (.fad p27 (.t p26) 3)), (.g p23 true (some p28) (.ld1 p28 (.t p27))), (.g p23 true (some p29) (.len p29 (.t p28))), (.g p23 true (some p30) (.bin p30 .eql (.t p25) (.t p29))), (.g p23 true (some p31) (.mv p31 (.t p30))), (.g p31 false (some p32) (.ldn p32 (.t p3) 6)), (.g p31 false (some p33) (.ldn p33 (.t p4) 14)), (.g p31 false (some p34) (.cf (some p34) p138 [(.t p32), (.t p33)])), (.g p31 false (some p35) (.ldn p35 (.t p3) 6)), (.g p31 false (some p36) (.fnl p36 p123 [(.t p35)] [])), (.g p31 false (some p37) (.cf (some p37) p140 [(.t p34), (.t p36)])), (.g p23 true (some p38) (.pick p38 (.t p31) (.k (.b true)) (.t p37))), (.u (.pick p39 (.t p23) (.t p38) (.k (.b false)))), (.u (.mv p7 (.t p39)))] [0, 0, 3, 7, 15, 31, 15, 79, 207, 463, 1023, 2047, 4095, 4095, 16383, 4095, 36863, 131071, 262143, 524287, 1048575]) (.reg [(.u (.fad p40 (.t p3) 5)), (.u (.ld1 p41 (.t p40))), (.u (.ldn p42 (.t p6) 9)), (.u (.mv p43 (.t p7))), (.u (.mup [(.i .i64), .b, .b, .b, .b, .b, .b, .b, .b] (.t p41) (.t p42) (.t p43)))])) .skip)) (.seq (.reg [(.u (.mv p44 (.t p7))), (.u (.mv p5 (.t p44)))]) .ret)))))
def rs122 : List RR := [(.t p5)]
theorem fn122 : FnOk Try.prog p123.ix 44 rc122 rs122 := ⟨Try.f122, bodyC Try.f122, Try.func122, by kernel_rfl, by kernel_rfl, by kernel_rfl, by kernel_rfl, by kernel_rfl⟩
noncomputable def rc135 : RC := (.seq (.reg [(.u (.box p3 (.t p1)))]) (.seq (.reg [(.u (.new p4 [(.i .i64 0), (.i .i64 0), (.i .i64 0), (.i .i64 0), (.i .i64 0), (.i .i64 0), (.i .i64 0), (.i .i64 0), (.i .i64 0), (.i .i64 0), (.i .i64 0), (.i .i64 0), (.i .i64 0), (.i .i64 0), (.i .i64 0), (.i .i64 0), (.i .i64 0), (.i .i64 0), (.i .i64 0), (.i .i64 0), (.i .i64 0), (.i .i64 0), (.i .i64 0), (.i .i64 0), (.i .i64 0), (.i .i64 0), (.i .i64 0), (.i .i64 0), (.i .i64 0), (.i .i64 0), (.i .i64 0), (.i .i64 0), (.i .i64 0), (.i .i64 0), (.i .i64 0), (.i .i64 0), (.i .i64 0), (.i .i64 0), (.i .i64 0), (.i .i64 0), (.i .i64 0), (.i .i64 0), (.i .i64 0), (.i .i64 0), (.i .i64 0), (.i .i64 0), (.i .i64 0), (.i .i64 0), (.i .i64 0), (.i .i64 0), (.i .i64 0), (.i .i64 0), (.i .i64 0), (.i .i64 0), (.i .i64 0), (.i .i64 0), (.i .i64 0), (.i .i64 0), (.i .i64 0), (.i .i64 0), (.i .i64 0), (.i .i64 0), (.i .i64 0), (.i .i64 0), (.i .i64 0), (.i .i64 0), (.i .i64 0), (.i .i64 0), (.i .i64 0), (.i .i64 0), (.i .i64 0), (.i .i64 0), (.i .i64 0), (.i .i64 0), (.i .i64 0), (.i .i64 0), (.i .i64 0), (.i .i64 0), (.i .i64 0), (.i .i64 0), (.i .i64 0), (.i .i64 0), (.i .i64 0), (.i .i64 0), (.i .i64 0), (.i .i64 0), (.i .i64 0), (.i .i64 0), (.i .i64 0), (.i .i64 0), (.i .i64 0), (.i .i64 0), (.i .i64 0), (.i .i64 0), (.i .i64 0), (.i .i64 0), (.i .i64 0), (.i .i64 0), (.i .i64 0), (.i .i64 0), (.i .i64 0), (.i .i64 0), (.i .i64 0), (.i .i64 0), (.i .i64 0), (.i .i64 0), (.i .i64 0), (.i .i64 0), (.i .i64 0), (.i .i64 0), (.i .i64 0), (.i .i64 0), (.i .i64 0), (.i .i64 0), (.i .i64 0), (.i .i64 0), (.i .i64 0), (.i .i64 0), (.i .i64 0), (.i .i64 0), (.i .i64 0), (.i .i64 0), (.i .i64 0), (.i .i64 0), (.i .i64 0), (.i .i64 0)]))]) (.seq (.reg [(.u (.new p5 [.nf]))]) (.seq (.reg [(.u (.fnl p6 p137 [] [(.t p2), (.t p4), (.t p3), (.t p5)])), (.u (.st (.t p5) (.t p6) 1))]) (.drw [(.u (.ld1 p7 (.t p5))), (.u (.ldn p8 (.t p2) 6)), (.u (.cf (some p9) p105 [(.t p8)])), (.u (.cv (some p10) (.t p7) [(.t p9)]))] [0, 0, 2, 7])))))
def rs135 : List RR := []
theorem fn135 : FnOk Try.prog p136.ix 10 rc135 rs135 := ⟨Try.f135, bodyC Try.f135, Try.func135, by kernel_rfl, by kernel_rfl, by kernel_rfl, by kernel_rfl, by kernel_rfl⟩
noncomputable def rc136 : RC := (.seq (.reg [(.u (.box p6 (.t p1))), (.u (.new p7 [(.b false)]))]) (.seq (.seq (.reg [(.u (.ldn p9 (.t p2) 6)), (.u (.ldn p10 (.t p6) 14)), (.u (.cf (some p11) p123 [(.t p9), (.t p10)])), (.u (.un p12 .not (.t p11)))]) (.cond (.t p12) (.seq (.reg [(.u (.st (.t p7) (.k (.b true)) 1))]) .ret) .skip)) (.seq (.reg [(.u (.fad p13 (.t p6) 0)), (.u (.ld1 p14 (.t p13))), (.u (.ldn p15 (.t p6) 14)), (.u (.ixa p16 9 14 (.t p3) (.t p14))), (.u (.st (.t p16) (.t p15) 14))]) (.seq (.seq (.reg [(.u (.fad p17 (.t p6) 0)), (.u (.ld1 p18 (.t p17))), (.u (.fad p19 (.t p2) 0)), (.u (.fad p20 (.t p19) 3)), (.u (.ld1 p21 (.t p20))), (.u (.len p22 (.t p21))), (.u (.bin p23 .eql (.t p18) (.t p22)))]) (.cond (.t p23) (.seq (.reg [(.u (.ld1 p24 (.t p4))), (.u (.ldn p25 (.t p3) 126)), (.u (.cv (some p26) (.t p24) [(.t p25)])), (.u (.st (.t p7) (.t p26) 1))]) .ret) .skip)) (.seq (.seq (.reg [(.u (.ldn p27 (.t p2) 6)), (.u (.ldn p28 (.t p6) 14)), (.u (.cf (some p29) p138 [(.t p27), (.t p28)]))]) (.blk 0 (.rf (.t p29) [p30] 34 (rfA (bodyC Try.f136) 0) (rfB (bodyC Try.f136) 0)))) (.seq (.reg [(.u (.st (.t p7) (.k (.b true)) 1))]) .ret))))))
def rs136 : List RR := [(.c1 p7)]
theorem fn136 : FnOk Try.prog p137.ix 34 rc136 rs136 := ⟨Try.f136, bodyC Try.f136, Try.func136, by kernel_rfl, by kernel_rfl, by kernel_rfl, by kernel_rfl, by kernel_rfl⟩
noncomputable def rc136a0 : RC := (.reg [(.u (.new p8 [(.i .i64 0), (.i .i64 0), (.i .i64 0), (.i .i64 0), (.i .i64 0), (.i .i64 0), (.i .i64 0), (.i .i64 0), (.i .i64 0), (.i .i64 0), (.i .i64 0), (.i .i64 0), (.i .i64 0), (.i .i64 0)])), (.u (.st (.t p8) (.t p30) 14))])
theorem rc136a0_ok : comp Try.prog 34 (rfA (bodyC Try.f136) 0) = rc136a0 := by kernel_rfl
noncomputable def rc136b0 : RC := (.blk 1 (.seq (.reg [(.u (.ld1 p31 (.t p5))), (.u (.ldn p32 (.t p8) 14)), (.u (.cv (some p33) (.t p31) [(.t p32)])), (.u (.un p34 .not (.t p33)))]) (.cond (.t p34) (.seq (.reg [(.u (.st (.t p7) (.k (.b false)) 1))]) .ret) .skip)))
theorem rc136b0_ok : comp Try.prog 34 (rfB (bodyC Try.f136) 0) = rc136b0 := by kernel_rfl
noncomputable def rc137 : RC := (.seq (.reg [(.u (.box p3 (.t p1))), (.u (.box p4 (.t p2))), (.u (.mv p5 (.k .nf)))]) (.seq (.reg [(.u (.fnl p6 p156 [] [(.t p3), (.t p4)])), (.u (.mv p5 (.t p6)))]) .ret))
def rs137 : List RR := [(.t p5)]
theorem fn137 : FnOk Try.prog p138.ix 6 rc137 rs137 := ⟨Try.f137, bodyC Try.f137, Try.func137, by kernel_rfl, by kernel_rfl, by kernel_rfl, by kernel_rfl, by kernel_rfl⟩
noncomputable def rc138 : RC := (.seq (.reg [(.u (.box p2 (.t p1))), (.u (.new p3 [(.i .i64 0), (.b false), (.b false), (.b false), (.b false), (.b false), (.b false), (.b false), (.b false)]))]) (.seq (.reg [(.u (.fad p7 (.t p2) 0)), (.u (.ld1 p8 (.t p7))), (.u (.bld p9 [(.i .i64 0), (.b false), (.b false), (.b false), (.b false), (.b false), (.b false), (.b false), (.b false)] [(0, (1, (.t p8)))])), (.u (.new p4 [(.i .i64 0), (.b false), (.b false), (.b false), (.b false), (.b false), (.b false), (.b false), (.b false)])), (.u (.st (.t p4) (.t p9) 9))]) (.seq (.seq (.reg [(.u (.fad p10 (.t p2) 1)), (.u (.ldn p11 (.t p10) 8)), (.u (.mv p12 (.k (.i .i64 0))))]) (.blk 0 (.loop (.seq (.reg [(.u (.bin p13 .lss (.t p12) (.k (.i .i64 8))))]) (.seq (.cond (.t p13) .skip (.exit 0)) (.seq (.blk 1 (.seq (.reg [(.u (.mv p14 (.t p12))), (.u (.ixv p15 8 1 false (.t p11) (.t p12))), (.u (.mv p5 (.t p14))), (.u (.mv p6 (.t p15)))]) (.reg [(.u (.mv p16 (.t p5))), (.u (.mv p17 (.t p6))), (.u (.bin p18 .neq (.t p17) (.k (.i .i64 0)))), (.u (.fad p19 (.t p4) 1)), (.u (.ixa p20 8 1 (.t p19) (.t p16))), (.u (.st (.t p20) (.t p18) 1))]))) (.reg [(.u (.bin p21 .add (.t p12) (.k (.i .i64 1)))), (.u (.mv p12 (.t p21)))]))))))) (.seq (.reg [(.u (.ldn p22 (.t p4) 9)), (.u (.st (.t p3) (.t p22) 9))]) .ret))))
def rs138 : List RR := [(.cn p3 9)]
theorem fn138 : FnOk Try.prog p139.ix 22 rc138 rs138 := ⟨Try.f138, bodyC Try.f138, Try.func138, by kernel_rfl, by kernel_rfl, by kernel_rfl, by kernel_rfl, by kernel_rfl⟩
noncomputable def rc139 : RC := (.seq (.reg [(.u (.box p4 (.t p2))), (.u (.new p5 [(.b false)]))]) (.seq (.seq (.reg [(.u (.mv p7 (.t p1)))]) (.blk 0 (.rf (.t p7) [p8] 11 (rfA (bodyC Try.f139) 0) (rfB (bodyC Try.f139) 0)))) (.seq (.reg [(.u (.st (.t p5) (.k (.b false)) 1))]) .ret)))
def rs139 : List RR := [(.c1 p5)]
theorem fn139 : FnOk Try.prog p140.ix 11 rc139 rs139 := ⟨Try.f139, bodyC Try.f139, Try.func139, by kernel_rfl, by kernel_rfl, by kernel_rfl, by kernel_rfl, by kernel_rfl⟩
noncomputable def rc139a0 : RC := (.reg [(.u (.new p6 [(.i .i64 0), (.i .i64 0), (.i .i64 0), (.i .i64 0), (.i .i64 0), (.i .i64 0), (.i .i64 0), (.i .i64 0), (.i .i64 0), (.i .i64 0), (.i .i64 0), (.i .i64 0), (.i .i64 0), (.i .i64 0)])), (.u (.st (.t p6) (.t p8) 14))])
theorem rc139a0_ok : comp Try.prog 11 (rfA (bodyC Try.f139) 0) = rc139a0 := by kernel_rfl
noncomputable def rc139b0 : RC := (.blk 1 (.seq (.reg [(.u (.ld1 p9 (.t p4))), (.u (.ldn p10 (.t p6) 14)), (.u (.cv (some p11) (.t p9) [(.t p10)]))]) (.cond (.t p11) (.seq (.reg [(.u (.st (.t p5) (.k (.b true)) 1))]) .ret) .skip)))
theorem rc139b0_ok : comp Try.prog 11 (rfB (bodyC Try.f139) 0) = rc139b0 := by kernel_rfl
noncomputable def rc155 : RC := (.seq (.reg [(.u (.box p4 (.t p1)))]) (.seq (.drw [(.u (.ldn p8 (.t p2) 6)), (.u (.fad p9 (.t p2) 0)), (.u (.fad p10 (.t p9) 3)), (.u (.ld1 p11 (.t p10))), (.u (.fad p12 (.t p3) 0)), (.u (.ld1 p13 (.t p12))), (.u (.ixs p14 3 (.t p11) (.t p13))), (.u (.ldn p15 (.t p14) 3)), (.u (.cf (some p16) p107 [(.t p8), (.t p15)]))] [0, 0, 2, 6, 0, 16, 62, 126, 255]) (.blk 0 (.rf (.t p16) [p17] 31 (rfA (bodyC Try.f155) 0) (rfB (bodyC Try.f155) 0)))))
def rs155 : List RR := []
theorem fn155 : FnOk Try.prog p156.ix 31 rc155 rs155 := ⟨Try.f155, bodyC Try.f155, Try.func155, by kernel_rfl, by kernel_rfl, by kernel_rfl, by kernel_rfl, by kernel_rfl⟩
noncomputable def rc155a0 : RC := (.reg [(.u (.new p5 [(.i .i64 0), (.i .i64 0), (.i .i64 0)])), (.u (.st (.t p5) (.t p17) 3))])
theorem rc155a0_ok : comp Try.prog 31 (rfA (bodyC Try.f155) 0) = rc155a0 := by kernel_rfl
noncomputable def rc155b0 : RC := (.blk 1 (.seq (.reg [(.u (.ldn p19 (.t p2) 6)), (.u (.ldn p20 (.t p3) 14)), (.u (.ldn p21 (.t p5) 3)), (.u (.cf (some p22) p109 [(.t p19), (.t p20), (.t p21)])), (.u (.mv p18 (.t p22))), (.u (.ext p23 (.t p18) 0)), (.u (.ext p24 (.t p18) 1)), (.u (.new p6 [(.i .i64 0), (.i .i64 0), (.i .i64 0), (.i .i64 0), (.i .i64 0), (.i .i64 0), (.i .i64 0), (.i .i64 0), (.i .i64 0), (.i .i64 0), (.i .i64 0), (.i .i64 0), (.i .i64 0), (.i .i64 0)])), (.u (.st (.t p6) (.t p23) 14)), (.u (.mv p7 (.t p24)))]) (.seq (.reg [(.u (.mv p25 (.t p7))), (.u (.mv p26 (.t p25))), (.g p26 true (some p27) (.ld1 p27 (.t p4))), (.g p26 true (some p28) (.ldn p28 (.t p6) 14)), (.g p26 true (some p29) (.cv (some p29) (.t p27) [(.t p28)])), (.g p26 true (some p30) (.un p30 .not (.t p29))), (.u (.pick p31 (.t p26) (.t p30) (.k (.b false))))]) (.cond (.t p31) .ret .skip))))
theorem rc155b0_ok : comp Try.prog 31 (rfB (bodyC Try.f155) 0) = rc155b0 := by kernel_rfl
end Go.Ev
namespace Go.Ev
open Go.RowKit (Below Grown)
def Cv (γ γ' : Gh) (w : World) (d d' : D) : Prop := ∀ v, DV γ w d v → DV γ' w d' v
def CvL (γ γ' : Gh) (w : World) (ds ds' : List D) : Prop := ∀ vs, DVL γ w ds vs → DVL γ' w ds' vs
section
variable {γ γ' : Gh} {w : World}
theorem CvL.nil : CvL γ γ' w [] [] := fun vs h => by unfold DVL at h ⊢; exact h
theorem CvL.cons {d d' : D} {ds ds' : List D} (h : Cv γ γ' w d d') (k : CvL γ γ' w ds ds') : CvL γ γ' w (d :: ds) (d' :: ds') := fun vs H => by
  unfold DVL at H ⊢
  obtain ⟨v, r, h1, h2, h3⟩ := H
  exact ⟨v, r, h1, h v h2, k r h3⟩
theorem CvL.app {a a' b b' : List D} (h : CvL γ γ' w a a') (hl : a.length = a'.length) (k : CvL γ γ' w b b') : CvL γ γ' w (a ++ b) (a' ++ b') := fun vs H => by
  obtain ⟨l1, e1⟩ := DVL_iff.1 H
  have hv : vs = vs.take a.length ++ vs.drop a.length := (List.take_append_drop _ _).symm
  have t1 := H.take a.length
  have t2 := H.drop a.length
  rw [List.take_left'] at t1 <;> try rfl
  rw [List.drop_left'] at t2 <;> try rfl
  rw [hv]
  exact DVL.append (h _ t1) (k _ t2)
theorem Cv.pu (him : ∀ b, γ.im b → γ'.im b) {d : D} (h : Pu d) : Cv γ γ' w d d := fun v H => DV.pu him d v h H
theorem CvL.pu (him : ∀ b, γ.im b → γ'.im b) {ds : List D} (h : PuL ds) : CvL γ γ' w ds ds := fun v H => DVL.pu him ds v h H
theorem Cv.any {d : D} : Cv γ γ' w d .any := fun v _ => by unfold DV; trivial
theorem Cv.ag {ds ds' : List D} (h : CvL γ γ' w ds ds') : Cv γ γ' w (.ag ds) (.ag ds') := fun v H => by
  unfold DV at H ⊢
  obtain ⟨vs, h1, h2, h3⟩ := H
  exact ⟨vs, h1, h _ h2, h3⟩
theorem Cv.tp {ds ds' : List D} (h : CvL γ γ' w ds ds') : Cv γ γ' w (.tp ds) (.tp ds') := fun v H => by
  unfold DV at H ⊢
  obtain ⟨vs, h1, h2⟩ := H
  exact ⟨vs, h1, h _ h2⟩
theorem Cv.fn {f : Pos} {x x' y y' : List D} (h : CvL γ γ' w x x') (k : CvL γ γ' w y y') : Cv γ γ' w (.fn f x y) (.fn f x' y') := fun v H => by
  unfold DV at H ⊢
  obtain ⟨vx, vy, h1, h2, h3⟩ := H
  exact ⟨vx, vy, h1, h _ h2, k _ h3⟩
end
theorem CallOk.sub {P : Program} {f : Nat} {ds ds' : List D} {ob ob' : T C} {nx nx' : Pos} {lg lg' : Option (T Bool)} {v : D} (h : CallOk P f ds' ob nx lg v ob' nx' lg') (k : ∀ γ w, CvL γ γ w ds ds') : CallOk P f ds ob nx lg v ob' nx' lg' :=
  ⟨h.hl, h.hx, h.hk, fun so hs γ args w gh ha ho hn => h.ok so hs γ args w gh (k γ w _ ha) ho hn⟩
theorem PureF.sub {P : Program} {f : Nat} {ds ds' : List D} {v : D} (h : PureF P f ds' v) (k : ∀ γ w, CvL γ γ w ds ds') : PureF P f ds v := fun ob nx lg => (h ob nx lg).sub k
noncomputable def pul1 (id : Pos) (γ : Gh) : Gh := pull (.o .h) (fun _ => id) γ
noncomputable def psh1 (id : Pos) (γ γ' : Gh) : Gh := psh (tau1 id) γ γ'
theorem Cv.mpI {γ : Gh} {w : World} {id : Pos} : Cv γ (pul1 id γ) w (.mp id) (.mp .h) := fun u h => dv_mp h
theorem Cv.mpO {γ γ' : Gh} {w : World} {id : Pos} : Cv γ' (psh1 id γ γ') w (.mp .h) (.mp id) := fun u h => by
  unfold DV at h ⊢
  show 0 < (psh (tau1 id) γ γ').cur id ∧ u = .map (some ((psh (tau1 id) γ γ').β id 0).1)
  rw [psh_cur (tau1_eq id), psh_be (tau1_eq id)]
  exact h
theorem pul1_im {id : Pos} {γ : Gh} : ∀ b, γ.im b → (pul1 id γ).im b := fun _ h => h
theorem psh1_im {id : Pos} {γ γ' : Gh} : ∀ b, γ'.im b → (psh1 id γ γ').im b := fun _ h => h
theorem CallOk.oneG {P : Program} {f : Nat} {es es' : List (D × D)} {ds ds' : List D} {v v' : D} {ob' : T C} (h : CallOk P f ds (.n .e (some (.map es)) .e) (.o .h) none v ob' (.o .h) none) (hob' : ob'.get .h = some (.map es')) (hp : ∀ e ∈ es, Pu e.1 ∧ Pu e.2) (hp' : ∀ e ∈ es', Pu e.1 ∧ Pu e.2)
    {id : Pos} {ob : T C} {nx : Pos} {lg : Option (T Bool)} (hid : ob.get id = some (.map es)) (hlt : id.nat < nx.nat) (hd : ∀ γ w, CvL γ (pul1 id γ) w ds' ds) (hv : ∀ γ γ' w, Cv γ' (psh1 id γ γ') w v v') : CallOk P f ds' ob nx lg v' (T.set id (.map es') ob) nx (lgW lg id) := by
  have hw := lgW_w lg id
  refine ⟨lgW_le lg id, Nat.le_refl _, fun j hn => ?_, fun so hs γ args w gh hargs hob hnx => ?_⟩
  · by_cases e : j = id
    · subst e; exact absurd hw hn
    · exact T.get_set_ne e _ _
  have hso : so id := hs id hw.tchd
  have h1 : Pos.h.nat < (Pos.o .h).nat := by decide
  have R := Ren.one id
  have him := pull_im (nx := .o .h) (ρ := fun _ => id) (γ := γ)
  obtain ⟨c1, c2⟩ := h.ok (fun _ => True) (fun _ _ => trivial) (pull (.o .h) (fun _ => id) γ) args w (pull_gh R gh) (hd γ w _ hargs) (fun j c _ hc => by
    cases j with
    | h =>
      rw [T.get_h] at hc
      cases hc
      obtain ⟨q1, en, cl, q2, q3, q4⟩ := hob id _ hso hid
      refine ⟨(pull_cur h1).trans q1, en, cl, q2, q3, fun i e f he hf => ?_⟩
      obtain ⟨k1, k2⟩ := hp e (List.mem_of_getElem? he)
      exact ⟨DV.pu him _ _ k1 (q4 i e f he hf).1, DV.pu him _ _ k2 (q4 i e f he hf).2⟩
    | o p => rw [T.get_o, T.get_e] at hc; cases hc
    | i p => rw [T.get_i, T.get_e] at hc; cases hc) (fun j _ hj => pull_cur0 (Nat.not_lt.2 hj))
  refine ⟨c1, fun ro m Q' hQ' => c2 ro m Q' fun γ' w' u gh' F hu ho hn => ?_⟩
  have hWid : ∀ i j, tau1 id i = some j → wrtn (lgW lg id) i := fun i j h => by
    by_cases e : i = id
    · subst e; exact hw
    · rw [tau1_ne e] at h; cases h
  have him' := psh_im (τ := tau1 id) (γ := γ) (γ' := γ')
  refine hQ' (psh (tau1 id) γ γ') w' u (psh_gh R gh gh' F) (psh_fr R hWid F) (hv γ γ' w' u hu) (fun i c hi hc => ?_) (fun i hi hle => ?_)
  · by_cases e : i = id
    · subst e
      rw [T.get_set_same] at hc
      cases hc
      obtain ⟨q1, en, cl, q2, q3, q4⟩ := ho .h _ trivial hob'
      refine ⟨(psh_cur (tau1_eq i)).trans q1, en, cl, by rw [psh_be (tau1_eq i)]; exact q2, q3, fun j e f he hf => ?_⟩
      obtain ⟨k1, k2⟩ := hp' e (List.mem_of_getElem? he)
      exact ⟨DV.pu him' _ _ k1 (q4 j e f he hf).1, DV.pu him' _ _ k2 (q4 j e f he hf).2⟩
    · rw [T.get_set_ne e _ _] at hc
      exact psh_keep R gh F (tau1_ne e) (hob i c hi hc)
  · have e : i ≠ id := fun e => by subst e; omega
    rw [psh_cur0 (tau1_ne e)]
    exact hnx i hi hle
theorem CallOk.newG {P : Program} {f : Nat} {es' : List (D × D)} {ds : List D} {v v' : D} {ob' : T C} (h : CallOk P f ds .e .h none v ob' (.o .h) none) (hob' : ob'.get .h = some (.map es')) (hp' : ∀ e ∈ es', Pu e.1 ∧ Pu e.2) (hds : PuL ds)
    {ob : T C} {nx : Pos} {lg : Option (T Bool)} (hv : ∀ γ γ' w, Cv γ' (psh1 nx γ γ') w v v') : CallOk P f ds ob nx lg v' (T.set nx (.map es') ob) nx.succ (lgW lg nx) := by
  have hw := lgW_w lg nx
  refine ⟨lgW_le lg nx, by rw [Pos.succ_nat]; omega, fun j hn => ?_, fun so hs γ args w gh hargs hob hnx => ?_⟩
  · by_cases e : j = nx
    · subst e; exact absurd hw hn
    · exact T.get_set_ne e _ _
  have hso : so nx := hs nx hw.tchd
  have h1 : Pos.h.nat < (Pos.o .h).nat := by decide
  have R := Ren.one nx
  have him := pull_im (nx := .o .h) (ρ := fun _ => nx) (γ := γ)
  obtain ⟨c1, c2⟩ := h.ok (fun _ => True) (fun _ _ => trivial) (pull (.o .h) (fun _ => nx) γ) args w (pull_gh R gh) (DVL.pu him _ _ hds hargs) (fun j c _ hc => by rw [T.get_e] at hc; cases hc) (fun j _ hj => by
    by_cases hj1 : j.nat < (Pos.o .h).nat
    · rw [pull_cur hj1]; exact hnx nx hso (Nat.le_refl _)
    · exact pull_cur0 hj1)
  refine ⟨c1, fun ro m Q' hQ' => c2 ro m Q' fun γ' w' u gh' F hu ho hn => ?_⟩
  have hWid : ∀ i j, tau1 nx i = some j → wrtn (lgW lg nx) i := fun i j h => by
    by_cases e : i = nx
    · subst e; exact hw
    · rw [tau1_ne e] at h; cases h
  have him' := psh_im (τ := tau1 nx) (γ := γ) (γ' := γ')
  refine hQ' (psh (tau1 nx) γ γ') w' u (psh_gh R gh gh' F) (psh_fr R hWid F) (hv γ γ' w' u hu) (fun i c hi hc => ?_) (fun i hi hle => ?_)
  · by_cases e : i = nx
    · subst e
      rw [T.get_set_same] at hc
      cases hc
      obtain ⟨q1, en, cl, q2, q3, q4⟩ := ho .h _ trivial hob'
      refine ⟨(psh_cur (tau1_eq i)).trans q1, en, cl, by rw [psh_be (tau1_eq i)]; exact q2, q3, fun j e f he hf => ?_⟩
      obtain ⟨k1, k2⟩ := hp' e (List.mem_of_getElem? he)
      exact ⟨DV.pu him' _ _ k1 (q4 j e f he hf).1, DV.pu him' _ _ k2 (q4 j e f he hf).2⟩
    · rw [T.get_set_ne e _ _] at hc
      exact psh_keep R gh F (tau1_ne e) (hob i c hi hc)
  · have e : i ≠ nx := fun e => by subst e; rw [Pos.succ_nat] at hle; omega
    rw [psh_cur0 (tau1_ne e)]
    exact hnx i hi (by rw [Pos.succ_nat] at hle; omega)
theorem WCall.of {P : Program} {f : Nat} {ds : List D} {d : Option Pos} {sl : T D} {ob ob2 : T C} {nx nx2 : Pos} {lg lg2 : Option (T Bool)} {K : X → Prop} {v : D} (h : CallOk P f ds ob nx lg v ob2 nx2 lg2) (k : wDst sl ob2 nx2 lg2 d K v) : WCall P f ds d ⟨sl, ob, nx, lg⟩ K := by
  cases d with
  | none => exact ⟨v, _, _, _, _, h, rfl, k⟩
  | some d =>
    obtain ⟨h1, h2⟩ := wOut_ok k
    exact ⟨v, _, _, _, _, h, h1, h2⟩
mutual
theorem Kp.up {n m : Nat} (h : n ≤ m) : ∀ d : D, Kp n d → Kp m d
  | .pt _ _ _, k => by unfold Kp at k ⊢; omega
  | .yl _, k => by unfold Kp at k ⊢; omega
  | .sl _ _ _ _ _, k => by unfold Kp at k ⊢; omega
  | .mp _, k => by unfold Kp at k ⊢; omega
  | .fn _ x y, k => by unfold Kp at k ⊢; exact ⟨KpL.up h x k.1, KpL.up h y k.2⟩
  | .ag cs, k => by unfold Kp at k ⊢; exact KpL.up h cs k
  | .tp cs, k => by unfold Kp at k ⊢; exact KpL.up h cs k
  | .any, k => by unfold Kp at k ⊢; exact k
  | .b _, k => by unfold Kp at k ⊢; exact k
  | .i _ _, k => by unfold Kp at k ⊢; exact k
  | .s _, k => by unfold Kp at k ⊢; exact k
  | .np, k => by unfold Kp at k ⊢; exact k
  | .nf, k => by unfold Kp at k ⊢; exact k
  | .ni, k => by unfold Kp at k ⊢; exact k
  | .nm, k => by unfold Kp at k ⊢; exact k
  | .ns, k => by unfold Kp at k ⊢; exact k
  | .em, k => by unfold Kp at k ⊢; exact k
  | .ifc _ _, k => by unfold Kp at k ⊢; exact k
  | .lst _ _, k => by unfold Kp at k ⊢; exact k
  | .pl _ _, k => by unfold Kp at k ⊢; exact k
theorem KpL.up {n m : Nat} (h : n ≤ m) : ∀ ds : List D, KpL n ds → KpL m ds
  | [], k => by unfold KpL at k ⊢; exact k
  | d :: ds, k => by unfold KpL at k ⊢; exact ⟨Kp.up h d k.1, KpL.up h ds k.2⟩
end
theorem KpC.up {n m : Nat} (h : n ≤ m) : ∀ {c : C}, KpC n c → KpC m c
  | .cells _ _ _, k => fun c hc => Kp.up h _ (k c hc)
  | .lp _ _ _ _ _ _ _, k => fun s d hd => Kp.up h _ (k s d hd)
  | .map _, k => fun e he => ⟨Kp.up h _ (k e he).1, Kp.up h _ (k e he).2⟩
  | .hole, _ => trivial
theorem KpO.up {n m : Nat} (h : n ≤ m) {ob : T C} (k : KpO n ob) : KpO m ob := fun id c hc => ⟨Nat.lt_of_lt_of_le (k id c hc).1 h, (k id c hc).2.up h⟩
mutual
theorem Kp.pu {n : Nat} : ∀ d : D, Pu d → Kp n d
  | .pt _ _ _, h => by unfold Pu at h; exact h.elim
  | .yl _, h => by unfold Pu at h; exact h.elim
  | .sl _ _ _ _ _, h => by unfold Pu at h; exact h.elim
  | .mp _, h => by unfold Pu at h; exact h.elim
  | .fn _ x y, h => by unfold Pu at h; unfold Kp; exact ⟨KpL.pu x h.1, KpL.pu y h.2⟩
  | .ag cs, h => by unfold Pu at h; unfold Kp; exact KpL.pu cs h
  | .tp cs, h => by unfold Pu at h; unfold Kp; exact KpL.pu cs h
  | .any, h => by unfold Kp; exact h
  | .b _, h => by unfold Kp; exact h
  | .i _ _, h => by unfold Kp; exact h
  | .s _, h => by unfold Kp; exact h
  | .np, h => by unfold Kp; exact h
  | .nf, h => by unfold Kp; exact h
  | .ni, h => by unfold Kp; exact h
  | .nm, h => by unfold Kp; exact h
  | .ns, h => by unfold Kp; exact h
  | .em, h => by unfold Kp; exact h
  | .ifc _ _, h => by unfold Kp; exact h
  | .lst _ _, h => by unfold Kp; exact h
  | .pl _ _, h => by unfold Kp; exact h
theorem KpL.pu {n : Nat} : ∀ ds : List D, PuL ds → KpL n ds
  | [], _ => by unfold KpL; trivial
  | d :: ds, h => by unfold PuL at h; unfold KpL; exact ⟨Kp.pu d h.1, KpL.pu ds h.2⟩
end
inductive Fld {α σ : Type} (R : σ → α → σ → Bool → Prop) : List α → σ → σ → Bool → Prop where
  | nil {s : σ} : Fld R [] s s true
  | stop {a : α} {l : List α} {s s' : σ} (h : R s a s' false) : Fld R (a :: l) s s' false
  | go {a : α} {l : List α} {s s' s2 : σ} {g : Bool} (h : R s a s' true) (k : Fld R l s' s2 g) : Fld R (a :: l) s s2 g
theorem Fld.app {α σ : Type} {R : σ → α → σ → Bool → Prop} : ∀ {a b : List α} {s s1 s2 : σ} {g : Bool}, Fld R a s s1 true → Fld R b s1 s2 g → Fld R (a ++ b) s s2 g
  | [], _, _, _, _, _, h, k => by cases h; exact k
  | _ :: _, _, _, _, _, _, h, k => by
    cases h with
    | go h1 h2 => exact .go h1 (h2.app k)
theorem Fld.cut {α σ : Type} {R : σ → α → σ → Bool → Prop} : ∀ {a : List α} (b : List α) {s s1 : σ}, Fld R a s s1 false → Fld R (a ++ b) s s1 false
  | [], _, _, _, h => by cases h
  | _ :: _, b, _, _, h => by
    cases h with
    | stop h1 => exact .stop h1
    | go h1 h2 => exact .go h1 (h2.cut b)
theorem Fld.inv {α σ : Type} {R : σ → α → σ → Bool → Prop} {I : List α → σ → Prop} {W : List α} (hI : ∀ h s a s', h ++ [a] <+: W → I h s → R s a s' true → I (h ++ [a]) s') : ∀ {l h : List α} {s s' : σ}, h ++ l <+: W → I h s → Fld R l s s' true → I (h ++ l) s'
  | [], h, s, s', _, i, k => by cases k; rw [List.append_nil]; exact i
  | a :: l, h, s, s', hp, i, k => by
    cases k with
    | go h1 h2 =>
      have hp' : h ++ [a] ++ l <+: W := by rw [List.append_assoc]; exact hp
      have := Fld.inv hI hp' (hI _ _ _ _ ((List.prefix_append _ _).trans hp') i h1) h2
      rw [List.append_assoc] at this
      exact this
theorem map_next {α β : Type} {f : α → β} {L0 L : List α} {a : β} (h0 : L0 <+: L) (h : L0.map f ++ [a] <+: L.map f) : ∃ x, L0 ++ [x] <+: L ∧ a = f x := by
  obtain ⟨r, rfl⟩ := h0
  rw [List.map_append] at h
  have h := (List.prefix_append_right_inj _).1 h
  cases r with
  | nil => simp at h
  | cons x r =>
    rw [List.map_cons] at h
    refine ⟨x, (List.prefix_append_right_inj _).2 ⟨r, rfl⟩, ?_⟩
    obtain ⟨t, ht⟩ := h
    simp at ht
    exact ht.1
end Go.Ev
namespace Go.Ev
open Go.Proofs
set_option maxRecDepth 100000
def nz (n : Int) : Bool := !decide (n = 0)
def ptD (m : Mo) : List D := [.i .i64 m.n, .b (nz (m.h 0)), .b (nz (m.h 1)), .b (nz (m.h 2)), .b (nz (m.h 3)), .b (nz (m.h 4)), .b (nz (m.h 5)), .b (nz (m.h 6)), .b (nz (m.h 7))]
theorem pu_moD (m : Mo) : PuL (moD m) := by simp [moD, PuL, Pu]
theorem WSt.ixaZ {sl : T D} {ob : T C} {nx : Pos} {lg : Option (T Bool)} {K : X → Prop} {d id : Pos} {len z off st : Nat} {k : IntKind} {x i : RX} {n : Int} (hx : opd sl x = some (.pt id off st)) (hi : opd sl i = some (.i k n)) (h0 : 0 ≤ n) (hm : n.toNat < len) (h : wOut sl ob nx lg d K (.pt id (off + n.toNat * z) st)) : WSt (.ixa d len z x i) ⟨sl, ob, nx, lg⟩ K :=
  WSt.ixaN (m := n.toNat) hx hi (by omega) hm h
set_option maxHeartbeats 1000000 in
theorem j_point (m : Mo) : PureF Try.prog p139.ix [.ag (moD m)] (.ag (ptD m)) := by
  unfold moD
  refine PureF.run fn138 (by simp) (by simp [PuL, PuE, Pu, pu_ints, pu_ln, pu_ct]) ?_; conv => whnf
  repeat' first | ((first | with_reducible apply WB.tt | with_reducible apply WB.ff | refine Rn.seq ?_ | refine Rn.reg ?_ | refine Rn.drw ?_ | refine Rn.blk ?_ | refine Rn.skip ?_ | refine Rn.ret ?_ | refine Rn.exit ?_ | refine Rn.cond rfl ?_ | refine And.intro (InR.i64 (by omega) (by omega)) ?_ | refine And.intro (show _ ≠ (0 : Int) by omega) ?_ | refine WIx.intsN (by omega) ?_ | refine WIx.rowsN (by omega) ?_) <;> conv => whnf)
  refine Rn.rounds ?_
  iterate 8
    refine RnR.more ?_; conv => whnf
    repeat' first | ((first | with_reducible apply WB.tt | with_reducible apply WB.ff | refine Rn.seq ?_ | refine Rn.reg ?_ | refine Rn.drw ?_ | refine Rn.blk ?_ | refine Rn.skip ?_ | refine Rn.ret ?_ | refine Rn.exit ?_ | refine Rn.cond rfl ?_ | refine And.intro (InR.i64 (by omega) (by omega)) ?_ | refine And.intro (show _ ≠ (0 : Int) by omega) ?_ | refine WIx.intsN (by omega) ?_ | refine WIx.rowsN (by omega) ?_ | with_reducible refine WB.decT (by first | with_reducible rfl | assumption | omega | exact ⟨rfl, rfl⟩) ?_ | with_reducible refine WB.decF (by first | assumption | omega) ?_ | with_reducible refine WB.ndT (by first | with_reducible rfl | assumption | omega | exact ⟨rfl, rfl⟩) ?_ | with_reducible refine WB.ndF (by first | assumption | omega) ?_ | with_reducible refine WB.nt ?_ | with_reducible refine WB.nf ?_ | with_reducible refine WB.dec (fun h => ?_) (fun h => ?_) | with_reducible refine WB.ndec (fun h => ?_) (fun h => ?_) | refine WB.mk (fun h => ?_) (fun h => ?_)) <;> conv => whnf)
    refine WSt.ixaZ rfl rfl (by omega) (by decide) ?_; conv => whnf
    repeat' first | ((first | with_reducible apply WB.tt | with_reducible apply WB.ff | refine Rn.seq ?_ | refine Rn.reg ?_ | refine Rn.drw ?_ | refine Rn.blk ?_ | refine Rn.skip ?_ | refine Rn.ret ?_ | refine Rn.exit ?_ | refine Rn.cond rfl ?_ | refine And.intro (InR.i64 (by omega) (by omega)) ?_ | refine And.intro (show _ ≠ (0 : Int) by omega) ?_ | refine WIx.intsN (by omega) ?_ | refine WIx.rowsN (by omega) ?_ | with_reducible refine WB.decT (by first | with_reducible rfl | assumption | omega | exact ⟨rfl, rfl⟩) ?_ | with_reducible refine WB.decF (by first | assumption | omega) ?_ | with_reducible refine WB.ndT (by first | with_reducible rfl | assumption | omega | exact ⟨rfl, rfl⟩) ?_ | with_reducible refine WB.ndF (by first | assumption | omega) ?_ | with_reducible refine WB.nt ?_ | with_reducible refine WB.nf ?_ | with_reducible refine WB.dec (fun h => ?_) (fun h => ?_) | with_reducible refine WB.ndec (fun h => ?_) (fun h => ?_) | refine WB.mk (fun h => ?_) (fun h => ?_)) <;> conv => whnf)
  refine RnR.more ?_; conv => whnf
  repeat' first | ((first | with_reducible apply WB.tt | with_reducible apply WB.ff | refine Rn.seq ?_ | refine Rn.reg ?_ | refine Rn.drw ?_ | refine Rn.blk ?_ | refine Rn.skip ?_ | refine Rn.ret ?_ | refine Rn.exit ?_ | refine Rn.cond rfl ?_ | refine And.intro (InR.i64 (by omega) (by omega)) ?_ | refine And.intro (show _ ≠ (0 : Int) by omega) ?_ | refine WIx.intsN (by omega) ?_ | refine WIx.rowsN (by omega) ?_ | with_reducible refine WB.decT (by first | with_reducible rfl | assumption | omega | exact ⟨rfl, rfl⟩) ?_ | with_reducible refine WB.decF (by first | assumption | omega) ?_ | with_reducible refine WB.ndT (by first | with_reducible rfl | assumption | omega | exact ⟨rfl, rfl⟩) ?_ | with_reducible refine WB.ndF (by first | assumption | omega) ?_ | with_reducible refine WB.nt ?_ | with_reducible refine WB.nf ?_ | with_reducible refine WB.dec (fun h => ?_) (fun h => ?_) | with_reducible refine WB.ndec (fun h => ?_) (fun h => ?_) | refine WB.mk (fun h => ?_) (fun h => ?_)) <;> conv => whnf)
  refine ⟨.inr rfl, _, rfl, .ag ?_⟩
  unfold ptD nz
  repeat' first | exact FzL.nil | refine FzL.cons ?_ ?_
  all_goals exact .pu trivial
theorem j_nexts (n coin box : Int) (ls : List Ln) (cs : List Ct) (m : Mo) : PureF Try.prog p138.ix [.ag [.i .i64 n, .i .i64 coin, .i .i64 box, .lst 3 (rows lnD ls), .lst 3 (rows ctD cs), .any], .ag (moD m)] (.fn p156 [] [.pl (wk6 n coin box ls cs) 0, .pl (moD m) 0]) := by
  unfold moD
  refine PureF.run fn137 (by simp) (by simp [PuL, PuE, Pu, pu_ints, pu_ln, pu_ct]) ?_; conv => whnf
  repeat' first | ((first | with_reducible apply WB.tt | with_reducible apply WB.ff | refine Rn.seq ?_ | refine Rn.reg ?_ | refine Rn.drw ?_ | refine Rn.blk ?_ | refine Rn.skip ?_ | refine Rn.ret ?_ | refine Rn.exit ?_ | refine Rn.cond rfl ?_ | refine And.intro (InR.i64 (by omega) (by omega)) ?_ | refine And.intro (show _ ≠ (0 : Int) by omega) ?_ | refine WIx.intsN (by omega) ?_ | refine WIx.rowsN (by omega) ?_) <;> conv => whnf)
  refine Fin.t (.inr rfl) rfl (.fn .nil (.cons (Frz.ptr rfl rfl (by simp [wk6]) (by simp [wk6, PuL, Pu, pu_ln, pu_ct])) (.cons (Frz.ptr (r := moD m) rfl rfl (by simp [moD]) (by simp [moD, PuL, Pu])) .nil)))
end Go.Ev