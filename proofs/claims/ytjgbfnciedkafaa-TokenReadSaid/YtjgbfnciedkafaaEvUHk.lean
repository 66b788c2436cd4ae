import Derived.Test.YtjgbfnciedkafaaEvUJs
import Derived.Test.YtjgbfnciedkafaaEvUJb
import Derived.Test.YtjgbfnciedkafaaEvUPl
import Derived.Test.YtjgbfnciedkafaaEvUGk
import Derived.Test.YtjgbfnciedkafaaEvUTc
set_option linter.all false
namespace Go.Ev
open Go.Proofs
set_option maxRecDepth 1000000
def p126 : Pos := .o p63
def p127 : Pos := .i p63
def p128 : Pos := .o p64
def p129 : Pos := .i p64
def p130 : Pos := .o p65
def p131 : Pos := .i p65
def p132 : Pos := .o p66
def p133 : Pos := .i p66
def p134 : Pos := .o p67
def p146 : Pos := .o p73
def p147 : Pos := .i p73
def p148 : Pos := .o p74
def p149 : Pos := .i p74
def p150 : Pos := .o p75
def p151 : Pos := .i p75
def p152 : Pos := .o p76
def p153 : Pos := .i p76
def p154 : Pos := .o p77
def p155 : Pos := .i p77
def p162 : Pos := .o p81
def p163 : Pos := .i p81
def p164 : Pos := .o p82
def p166 : Pos := .o p83
def p167 : Pos := .i p83
def p168 : Pos := .o p84
def p169 : Pos := .i p84
def p170 : Pos := .o p85
def p171 : Pos := .i p85
def p172 : Pos := .o p86
def p173 : Pos := .i p86
def p174 : Pos := .o p87
def p175 : Pos := .i p87
def p176 : Pos := .o p88
def p177 : Pos := .i p88
def p178 : Pos := .o p89
def p179 : Pos := .i p89
def p180 : Pos := .o p90
def p181 : Pos := .i p90
def p182 : Pos := .o p91
def p183 : Pos := .i p91
def p184 : Pos := .o p92
def p185 : Pos := .i p92
def p186 : Pos := .o p93
def p187 : Pos := .i p93
def p188 : Pos := .o p94
def p189 : Pos := .i p94
def p190 : Pos := .o p95
noncomputable def rc54 : RC := (.seq (.reg [(.u (.box p2 (.t p1))), (.u (.mv p3 (.k (.b false))))]) (.seq (.reg [(.u (.ldn p4 (.t p2) 5)), (.u (.cf (some p5) p21 [(.t p4)])), (.u (.mv p6 (.t p5))), (.g p6 true (some p7) (.ldn p7 (.t p2) 5)), (.g p6 true (some p8) (.cf (some p8) p70 [(.t p7)])), (.g p6 true (some p9) (.bin p9 .eql (.t p8) (.k (.i .i64 0)))), (.u (.pick p10 (.t p6) (.t p9) (.k (.b false)))), (.u (.mv p3 (.t p10)))]) .ret))
def rs54 : List RR := [(.t p3)]
theorem fn54 : FnOk Try.prog p55.ix 10 rc54 rs54 := ⟨Try.f54, bodyC Try.f54, Try.func54, by kernel_rfl, by kernel_rfl, by kernel_rfl, by kernel_rfl, by kernel_rfl⟩
noncomputable def rc59 : RC := (.seq (.reg [(.u (.box p4 (.t p2))), (.u (.mv p5 (.k (.b false))))]) (.seq (.seq (.reg [(.u (.mv p6 (.k (.i .i64 0))))]) (.blk 0 (.loop (.seq (.seq (.reg [(.u (.mv p7 (.t p6))), (.u (.mv p8 (.t p1))), (.u (.len p9 (.t p8))), (.u (.bin p10 .lss (.t p7) (.t p9)))]) (.cond (.t p10) .skip (.exit 0))) (.seq (.blk 1 (.seq (.drw [(.u (.mv p13 (.t p1))), (.u (.mv p14 (.t p6))), (.u (.ixs p15 3 (.t p13) (.t p14))), (.u (.ldn p16 (.t p15) 3)), (.u (.fad p17 (.t p4) 0)), (.u (.ld1 p18 (.t p17))), (.u (.fad p19 (.t p4) 1)), (.u (.ld1 p20 (.t p19))), (.u (.fad p21 (.t p4) 2)), (.u (.ld1 p22 (.t p21))), (.u (.bld p23 [(.i .i64 0), (.i .i64 0), (.i .i64 0)] [(0, (1, (.t p18))), (1, (1, (.t p20))), (2, (1, (.t p22)))])), (.u (.eqr p24 false [(.i .i64), (.i .i64), (.i .i64)] (.t p16) (.t p23)))] [0, 0, 3, 7, 0, 16, 0, 64, 0, 256, 1008, 2047]) (.cond (.t p24) (.seq (.reg [(.u (.mv p5 (.k (.b true))))]) .ret) .skip))) (.reg [(.u (.mv p11 (.t p6))), (.u (.bin p12 .add (.t p11) (.k (.i .i64 1)))), (.u (.mv p6 (.t p12)))])))))) (.seq (.reg [(.u (.mv p5 (.k (.b false))))]) .ret)))
def rs59 : List RR := [(.t p5)]
theorem fn59 : FnOk Try.prog p60.ix 24 rc59 rs59 := ⟨Try.f59, bodyC Try.f59, Try.func59, by kernel_rfl, by kernel_rfl, by kernel_rfl, by kernel_rfl, by kernel_rfl⟩
noncomputable def rc63 : RC := (.seq (.reg [(.u (.box p5 (.t p1))), (.u (.box p6 (.t p2))), (.u (.mv p9 (.k (.b false))))]) (.seq (.reg [(.u (.ldn p27 (.t p5) 5)), (.u (.cf (some p28) p24 [(.t p27)])), (.u (.mv p29 (.t p3))), (.u (.cf (some p30) p39 [(.t p28), (.t p29)])), (.u (.mv p26 (.t p30))), (.u (.ext p31 (.t p26) 0)), (.u (.ext p32 (.t p26) 1)), (.u (.new p10 [(.i .i64 0), (.i .i64 0)])), (.u (.st (.t p10) (.t p31) 2)), (.u (.mv p11 (.t p32)))]) (.seq (.reg [(.u (.ldn p34 (.t p6) 5)), (.u (.cf (some p35) p24 [(.t p34)])), (.u (.mv p36 (.t p3))), (.u (.cf (some p37) p39 [(.t p35), (.t p36)])), (.u (.mv p33 (.t p37))), (.u (.ext p38 (.t p33) 0)), (.u (.ext p39 (.t p33) 1)), (.u (.new p12 [(.i .i64 0), (.i .i64 0)])), (.u (.st (.t p12) (.t p38) 2)), (.u (.mv p13 (.t p39)))]) (.seq (.reg [(.u (.ldn p41 (.t p5) 5)), (.u (.cf (some p42) p24 [(.t p41)])), (.u (.mv p43 (.t p3))), (.u (.cf (some p44) p34 [(.t p42), (.t p43)])), (.u (.mv p40 (.t p44))), (.u (.ext p45 (.t p40) 0)), (.u (.ext p46 (.t p40) 1)), (.u (.ext p47 (.t p40) 2)), (.u (.mv p14 (.t p45))), (.u (.mv p15 (.t p46))), (.u (.mv p16 (.t p47)))]) (.seq (.reg [(.u (.ldn p49 (.t p6) 5)), (.u (.cf (some p50) p24 [(.t p49)])), (.u (.mv p51 (.t p3))), (.u (.cf (some p52) p34 [(.t p50), (.t p51)])), (.u (.mv p48 (.t p52))), (.u (.ext p53 (.t p48) 0)), (.u (.ext p54 (.t p48) 1)), (.u (.ext p55 (.t p48) 2)), (.u (.mv p17 (.t p53))), (.u (.mv p18 (.t p54))), (.u (.mv p19 (.t p55)))]) (.seq (.seq (.reg [(.u (.mv p56 (.t p11))), (.u (.bin p57 .neq (.t p56) (.k (.i .i64 0)))), (.u (.mv p58 (.t p57))), (.g p58 false (some p59) (.mv p59 (.t p13))), (.g p58 false (some p60) (.bin p60 .neq (.t p59) (.k (.i .i64 0)))), (.u (.pick p61 (.t p58) (.k (.b true)) (.t p60))), (.u (.mv p62 (.t p61))), (.g p62 false (some p63) (.ldn p63 (.t p10) 2)), (.g p62 false (some p64) (.ldn p64 (.t p12) 2)), (.g p62 false (some p65) (.cf (some p65) p98 [(.t p63), (.t p64)])), (.g p62 false (some p66) (.un p66 .not (.t p65))), (.u (.pick p67 (.t p62) (.k (.b true)) (.t p66))), (.u (.mv p68 (.t p67))), (.g p68 false (some p69) (.mv p69 (.t p16))), (.g p68 false (some p70) (.bin p70 .neq (.t p69) (.k (.i .i64 0)))), (.u (.pick p71 (.t p68) (.k (.b true)) (.t p70))), (.u (.mv p72 (.t p71))), (.g p72 false (some p73) (.mv p73 (.t p19))), (.g p72 false (some p74) (.bin p74 .neq (.t p73) (.k (.i .i64 0)))), (.u (.pick p75 (.t p72) (.k (.b true)) (.t p74))), (.u (.mv p76 (.t p75))), (.g p76 false (some p77) (.mv p77 (.t p14))), (.g p76 false (some p78) (.len p78 (.t p77))), (.g p76 false (some p79) (.fad p79 (.t p6) 0)), (.g p76 false (some p80) (.ld1 p80 (.t p79))), (.g p76 false (some p81) (.bin p81 .neq (.t p78) (.t p80))), (.u (.pick p82 (.t p76) (.k (.b true)) (.t p81))), (.u (.mv p83 (.t p82))), (.g p83 false (some p84) (.mv p84 (.t p15))), (.g p83 false (some p85) (.len p85 (.t p84))), (.g p83 false (some p86) (.fad p86 (.t p6) 0)), (.g p83 false (some p87) (.ld1 p87 (.t p86))), (.g p83 false (some p88) (.bin p88 .neq (.t p85) (.t p87))), (.u (.pick p89 (.t p83) (.k (.b true)) (.t p88))), (.u (.mv p90 (.t p89))), (.g p90 false (some p91) (.mv p91 (.t p17))), (.g p90 false (some p92) (.len p92 (.t p91))), (.g p90 false (some p93) (.fad p93 (.t p6) 0)), (.g p90 false (some p94) (.ld1 p94 (.t p93))), (.g p90 false (some p95) (.bin p95 .neq (.t p92) (.t p94))), (.u (.pick p96 (.t p90) (.k (.b true)) (.t p95))), (.u (.mv p97 (.t p96))), (.g p97 false (some p98) (.mv p98 (.t p18))), (.g p97 false (some p99) (.len p99 (.t p98))), (.g p97 false (some p100) (.fad p100 (.t p6) 0)), (.g p97 false (some p101) (.ld1 p101 (.t p100))), (.g p97 false (some p102) (.bin p102 .neq (.t p99) (.t p101))), (.u (.pick p103 (.t p97) (.k (.b true)) (.t p102)))]) (.cond (.t p103) (.seq (.reg [(.u (.mv p9 (.k (.b false))))]) .ret) .skip)) (.seq (.seq (.reg [(.u (.mv p20 (.k (.i .i64 0))))]) (.blk 0 (.loop (.seq (.seq (.reg [(.u (.mv p104 (.t p20))), (.u (.mv p105 (.t p14))), (.u (.len p106 (.t p105))), (.u (.bin p107 .lss (.t p104) (.t p106)))]) (.cond (.t p107) .skip (.exit 0))) (.seq (.blk 1 (.seq (.drw [(.u (.mv p110 (.t p17))), (.u (.mv p111 (.t p20))), (.u (.ixs p112 1 (.t p110) (.t p111))), (.u (.ld1 p113 (.t p112))), (.u (.bin p114 .neq (.t p113) (.k (.i .i64 3)))), (.u (.mv p115 (.t p114))), (.g p115 true (some p116) (.mv p116 (.t p14))), (.g p115 true (some p117) (.mv p117 (.t p20))), (.g p115 true (some p118) (.ixs p118 1 (.t p116) (.t p117))), (.g p115 true (some p119) (.ld1 p119 (.t p118))), (.g p115 true (some p120) (.mv p120 (.t p17))), (.g p115 true (some p121) (.mv p121 (.t p20))), (.g p115 true (some p122) (.ixs p122 1 (.t p120) (.t p121))), (.g p115 true (some p123) (.ld1 p123 (.t p122))), (.g p115 true (some p124) (.bin p124 .neq (.t p119) (.t p123))), (.u (.pick p125 (.t p115) (.t p124) (.k (.b false)))), (.u (.mv p126 (.t p125))), (.g p126 false (some p127) (.mv p127 (.t p18))), (.g p126 false (some p128) (.mv p128 (.t p20))), (.g p126 false (some p129) (.ixs p129 1 (.t p127) (.t p128))), (.g p126 false (some p130) (.ld1 p130 (.t p129))), (.g p126 false (some p131) (.bin p131 .neq (.t p130) (.k (.i .i64 3)))), (.g p126 false (some p132) (.mv p132 (.t p131))), (.g p132 true (some p133) (.mv p133 (.t p15))), (.g p132 true (some p134) (.mv p134 (.t p20))), (.g p132 true (some p135) (.ixs p135 1 (.t p133) (.t p134))), (.g p132 true (some p136) (.ld1 p136 (.t p135))), (.g p132 true (some p137) (.mv p137 (.t p18))), (.g p132 true (some p138) (.mv p138 (.t p20))), (.g p132 true (some p139) (.ixs p139 1 (.t p137) (.t p138))), (.g p132 true (some p140) (.ld1 p140 (.t p139))), (.g p132 true (some p141) (.bin p141 .neq (.t p136) (.t p140))), (.g p126 false (some p142) (.pick p142 (.t p132) (.t p141) (.k (.b false)))), (.u (.pick p143 (.t p126) (.k (.b true)) (.t p142)))] [0, 0, 3, 7, 15, 31, 63, 63, 255, 511, 63, 63, 3135, 7231, 16383, 32767, 65535, 131071, 131071, 524287, 1048575, 2097151, 4194303, 8388607, 8388607, 33554431, 67108863, 8388607, 8388607, 411041791, 947912703, 2147483647, 4294967295, 8589934591]) (.cond (.t p143) (.seq (.reg [(.u (.mv p9 (.k (.b false))))]) .ret) .skip))) (.reg [(.u (.mv p108 (.t p20))), (.u (.bin p109 .add (.t p108) (.k (.i .i64 1)))), (.u (.mv p20 (.t p109)))])))))) (.seq (.seq (.reg [(.u (.mv p144 (.t p4))), (.u (.bin p145 .lss (.t p144) (.k (.i .i64 0))))]) (.cond (.t p145) (.seq (.reg [(.u (.mv p9 (.k (.b true))))]) .ret) .skip)) (.seq (.reg [(.u (.ldn p147 (.t p5) 5)), (.u (.cf (some p148) p24 [(.t p147)])), (.u (.mv p149 (.t p4))), (.u (.cf (some p150) p44 [(.t p148), (.t p149)])), (.u (.mv p146 (.t p150))), (.u (.ext p151 (.t p146) 0)), (.u (.ext p152 (.t p146) 1)), (.u (.mv p21 (.t p151))), (.u (.mv p22 (.t p152)))]) (.seq (.reg [(.u (.ldn p154 (.t p6) 5)), (.u (.cf (some p155) p24 [(.t p154)])), (.u (.mv p156 (.t p4))), (.u (.cf (some p157) p44 [(.t p155), (.t p156)])), (.u (.mv p153 (.t p157))), (.u (.ext p158 (.t p153) 0)), (.u (.ext p159 (.t p153) 1)), (.u (.mv p23 (.t p158))), (.u (.mv p24 (.t p159)))]) (.seq (.seq (.reg [(.u (.mv p25 (.k (.i .i64 0))))]) (.blk 2 (.loop (.seq (.seq (.reg [(.u (.mv p160 (.t p25))), (.u (.mv p161 (.t p21))), (.u (.len p162 (.t p161))), (.u (.bin p163 .lss (.t p160) (.t p162)))]) (.cond (.t p163) .skip (.exit 2))) (.seq (.blk 3 (.seq (.drw [(.u (.mv p166 (.t p23))), (.u (.mv p167 (.t p21))), (.u (.mv p168 (.t p25))), (.u (.ixs p169 3 (.t p167) (.t p168))), (.u (.fad p170 (.t p169) 0)), (.u (.ld1 p171 (.t p170))), (.u (.mv p172 (.t p21))), (.u (.mv p173 (.t p25))), (.u (.ixs p174 3 (.t p172) (.t p173))), (.u (.fad p175 (.t p174) 1)), (.u (.ld1 p176 (.t p175))), (.u (.mv p177 (.t p21))), (.u (.mv p178 (.t p25))), (.u (.ixs p179 3 (.t p177) (.t p178))), (.u (.fad p180 (.t p179) 2)), (.u (.ld1 p181 (.t p180))), (.u (.bld p182 [(.i .i64 0), (.i .i64 0), (.i .i64 0)] [(0, (1, (.t p171))), (1, (1, (.t p176))), (2, (1, (.t p181)))])), (.u (.cf (some p183) p60 [(.t p166), (.t p182)])), (.u (.un p184 .not (.t p183)))] [0, 0, 0, 6, 14, 30, 0, 0, 192, 448, 960, 0, 0, 6144, 14336, 30720, 65534, 131071, 262143]) (.cond (.t p184) (.seq (.reg [(.u (.mv p9 (.k (.b false))))]) .ret) .skip))) (.reg [(.u (.mv p164 (.t p25))), (.u (.bin p165 .add (.t p164) (.k (.i .i64 1)))), (.u (.mv p25 (.t p165)))])))))) (.seq (.reg [(.u (.mv p185 (.t p22))), (.u (.bin p186 .eql (.t p185) (.k (.i .i64 0)))), (.u (.mv p187 (.t p186))), (.g p187 true (some p188) (.mv p188 (.t p24))), (.g p187 true (some p189) (.bin p189 .eql (.t p188) (.k (.i .i64 0)))), (.u (.pick p190 (.t p187) (.t p189) (.k (.b false)))), (.u (.mv p9 (.t p190)))]) .ret))))))))))))
def rs63 : List RR := [(.t p9)]
theorem fn63 : FnOk Try.prog p64.ix 190 rc63 rs63 := ⟨Try.f63, bodyC Try.f63, Try.func63, by kernel_rfl, by kernel_rfl, by kernel_rfl, by kernel_rfl, by kernel_rfl⟩
noncomputable def rc97 : RC := (.seq (.reg [(.u (.box p3 (.t p1))), (.u (.box p4 (.t p2))), (.u (.mv p5 (.k (.b false))))]) (.seq (.reg [(.u (.fad p6 (.t p3) 0)), (.u (.ld1 p7 (.t p6))), (.u (.fad p8 (.t p4) 0)), (.u (.ld1 p9 (.t p8))), (.u (.bin p10 .geq (.t p7) (.t p9))), (.u (.mv p11 (.t p10))), (.g p11 true (some p12) (.fad p12 (.t p3) 1)), (.g p11 true (some p13) (.ld1 p13 (.t p12))), (.g p11 true (some p14) (.fad p14 (.t p4) 1)), (.g p11 true (some p15) (.ld1 p15 (.t p14))), (.g p11 true (some p16) (.bin p16 .leq (.t p13) (.t p15))), (.u (.pick p17 (.t p11) (.t p16) (.k (.b false)))), (.u (.mv p5 (.t p17)))]) .ret))
def rs97 : List RR := [(.t p5)]
theorem fn97 : FnOk Try.prog p98.ix 17 rc97 rs97 := ⟨Try.f97, bodyC Try.f97, Try.func97, by kernel_rfl, by kernel_rfl, by kernel_rfl, by kernel_rfl, by kernel_rfl⟩
end Go.Ev
namespace Go.Ev
open Go.Proofs
theorem fit_lines : ∀ {es : List (List D)}, (∀ x ∈ es, FitL [.i .i64, .i .i64, .i .i64] x) → ∃ l : List Ln, es = rows lnD l ∧ ∀ r ∈ l, lnWf r
  | [], _ => ⟨[], rfl, fun r h => by cases h⟩
  | x :: es, h => by
    obtain ⟨l, rfl, hl⟩ := fit_lines (es := es) fun y hy => h y (by simp [hy])
    have h1 := h x (by simp)
    simp only [FitL, FitC] at h1
    obtain ⟨d, ds, rfl, ⟨n1, rfl, w1⟩, d2, ds2, rfl, ⟨n2, rfl, w2⟩, d3, ds3, rfl, ⟨n3, rfl, w3⟩, rfl⟩ := h1
    refine ⟨⟨n1, n2, n3⟩ :: l, rfl, fun r hr => ?_⟩
    rcases List.mem_cons.1 hr with rfl | hr
    · exact ⟨wfB_of w1, wfB_of w2, wfB_of w3⟩
    · exact hl r hr
theorem fit_counts : ∀ {es : List (List D)}, (∀ x ∈ es, FitL [.i .i64, .i .i64, .i .i64] x) → ∃ l : List Ct, es = rows ctD l
  | [], _ => ⟨[], rfl⟩
  | x :: es, h => by
    obtain ⟨l, rfl⟩ := fit_counts (es := es) fun y hy => h y (by simp [hy])
    have h1 := h x (by simp)
    simp only [FitL, FitC] at h1
    obtain ⟨d, ds, rfl, ⟨n1, rfl, w1⟩, d2, ds2, rfl, ⟨n2, rfl, w2⟩, d3, ds3, rfl, ⟨n3, rfl, w3⟩, rfl⟩ := h1
    exact ⟨⟨n1, n2, n3⟩ :: l, rfl⟩
theorem FitP.book {ps : List (Bool × List CK)} {ds : List D} (h : FitP ((true, [.i .i64, .i .i64, .i .i64, .sl [.i .i64, .i .i64, .i .i64], .sl [.i .i64, .i .i64, .i .i64]]) :: ps) ds) : ∃ n coin box ls cs ds', ds = .ag [.i .i64 n, .i .i64 coin, .i .i64 box, .lst 3 (rows lnD ls), .lst 3 (rows ctD cs)] :: ds' ∧ FitP ps ds' := by
  unfold FitP at h
  obtain ⟨es, ds', rfl, h1, h2⟩ := h
  simp only [FitL, FitC] at h1
  obtain ⟨d, ds, rfl, ⟨n1, rfl, _⟩, d2, ds2, rfl, ⟨n2, rfl, _⟩, d3, ds3, rfl, ⟨n3, rfl, _⟩, d4, ds4, rfl, ⟨e4, rfl, k4⟩, d5, ds5, rfl, ⟨e5, rfl, k5⟩, rfl⟩ := h1
  obtain ⟨ls, rfl, _⟩ := fit_lines fun x hx => by have := k4 x hx; simpa only [FitL, FitC] using this
  obtain ⟨cs, rfl⟩ := fit_counts fun x hx => by have := k5 x hx; simpa only [FitL, FitC] using this
  exact ⟨n1, n2, n3, ls, cs, ds', rfl, h2⟩
theorem FitP.lines {ps : List (Bool × List CK)} {ds : List D} (h : FitP ((false, [.sl [.i .i64, .i .i64, .i .i64]]) :: ps) ds) : ∃ (t : List Ln) (ds' : List D), ds = .lst 3 (rows lnD t) :: ds' ∧ (∀ r ∈ t, lnWf r) ∧ FitP ps ds' := by
  unfold FitP at h
  obtain ⟨d, ds', rfl, h1, h2⟩ := h
  simp only [FitL, FitC] at h1
  obtain ⟨d, ds, e, ⟨es, rfl, h1⟩, rfl⟩ := h1
  cases e
  obtain ⟨l, rfl, hl⟩ := fit_lines fun x hx => by have := h1 x hx; simpa only [FitL, FitC] using this
  exact ⟨l, ds', rfl, hl, h2⟩
end Go.Ev
namespace Go.Ev
open Go.Proofs
set_option maxRecDepth 1000000
end Go.Ev
namespace Go.Ev
open Go.Proofs
set_option maxRecDepth 100000
theorem rd_wf {B : Bk} (V : VB B) {line : Nat} (hl : line < B.ls.length) {a : Ln} (h : rdB B.n (B.ls.getD line default) a = true) : lnWf a := by
  obtain ⟨h1, h2, h3⟩ := V.rd hl h
  exact ⟨wf_small (by omega) (by omega), wf_small (by omega) (by omega), wf_small (by omega) (by omega)⟩
end Go.Ev
namespace Go.Ev
set_option maxRecDepth 100000
end Go.Ev
namespace Go.Ev
open Go.Proofs
set_option maxRecDepth 100000
def readyB (n coin box : Int) (ls : List Ln) (cs : List Ct) : Bool := thinT n coin box ls cs && decide (faultT n coin box ls cs = 0)
theorem j_ready (n coin box : Int) (ls : List Ln) (cs : List Ct) : PureF Try.prog p55.ix [.ag (bk5 n coin box ls cs)] (.b (readyB n coin box ls cs)) := by
  have iT := j_Thin n coin box ls cs
  have iF := j_Fault n coin box ls cs
  unfold readyB
  refine PureF.run fn54 (by simp) (by simp [PuL, Pu, bk5, pu_ln, pu_ct]) ?_; conv => whnf
  cases hT : thinT n coin box ls cs with
  | false =>
    rw [hT] at iT
    repeat' first | ((first | with_reducible apply WB.tt | with_reducible apply WB.ff | refine Rn.seq ?_ | refine Rn.reg ?_ | refine Rn.drw ?_ | refine Rn.blk ?_ | refine Rn.skip ?_ | refine Rn.ret ?_ | refine Rn.exit ?_ | refine Rn.cond rfl ?_ | refine And.intro (InR.i64 (by omega) (by omega)) ?_ | refine And.intro (show _ ≠ (0 : Int) by omega) ?_ | refine WIx.intsN (by omega) ?_ | refine WIx.rowsN (by omega) ?_ | refine WCall.pure (iT) ?_) <;> conv => whnf)
    exact Fin.b rfl rfl
  | true =>
    rw [hT] at iT
    repeat' first | ((first | with_reducible apply WB.tt | with_reducible apply WB.ff | refine Rn.seq ?_ | refine Rn.reg ?_ | refine Rn.drw ?_ | refine Rn.blk ?_ | refine Rn.skip ?_ | refine Rn.ret ?_ | refine Rn.exit ?_ | refine Rn.cond rfl ?_ | refine And.intro (InR.i64 (by omega) (by omega)) ?_ | refine And.intro (show _ ≠ (0 : Int) by omega) ?_ | refine WIx.intsN (by omega) ?_ | refine WIx.rowsN (by omega) ?_ | refine WCall.pure (iT) ?_ | refine WCall.pure (iF) ?_) <;> conv => whnf)
    exact Fin.b rfl rfl
theorem ready_of {n coin box : Int} {ls : List Ln} {cs : List Ct} (h : readyB n coin box ls cs = true) : ls.length ≤ 8 ∧ cs.length ≤ 4 ∧ faultT n coin box ls cs = 0 := by
  unfold readyB at h
  rw [Bool.and_eq_true, decide_eq_true_iff] at h
  obtain ⟨f1, f2, _, _⟩ := fault_okT h.2
  exact ⟨f1, f2, h.2⟩
theorem fold_mem {A : List Int} (hne : A ≠ []) : A.foldl min (A.getD 0 0) ∈ A ∧ A.foldl max (A.getD 0 0) ∈ A := by
  have hA := getD0_mem hne
  obtain ⟨a1, a2, a3⟩ := foldl_minJ A (A.getD 0 0)
  obtain ⟨c1, c2, c3⟩ := foldl_maxJ A (A.getD 0 0)
  constructor
  · rcases a3 with h | h
    · rw [h]; exact hA
    · exact h
  · rcases c3 with h | h
    · rw [h]; exact hA
    · exact h
end Go.Ev
namespace Go.Ev
open Go.Proofs
set_option maxRecDepth 1000000
end Go.Ev
namespace Go.Ev
open Go.Proofs
set_option maxRecDepth 100000
theorem mem_getD {α : Type} {l : List α} {x d : α} (h : x ∈ l) : ∃ i, i < l.length ∧ l.getD i d = x := by
  obtain ⟨i, hi, e⟩ := List.getElem_of_mem h
  exact ⟨i, hi, by simp [List.getD, hi, e]⟩
end Go.Ev
namespace Go.Ev
open Go.Proofs
set_option maxRecDepth 100000
theorem j_hasL (A : List Ln) (x : Ln) (ha : A.length ≤ 1000) (hw : ∀ a ∈ A, lnWf a) (hx : x ∈ A) : PureF Try.prog p60.ix [.lst 3 (rows lnD A), .ag (lnD x)] (.b true) := by
  have e1 := rows_length lnD A
  have hxw := hw x hx
  refine PureF.run fn59 (by simp) (by simp [PuL, Pu, lnD, pu_ln]) ?_; conv => whnf
  repeat' first | ((first | with_reducible apply WB.tt | with_reducible apply WB.ff | refine Rn.seq ?_ | refine Rn.reg ?_ | refine Rn.drw ?_ | refine Rn.blk ?_ | refine Rn.skip ?_ | refine Rn.ret ?_ | refine Rn.exit ?_ | refine Rn.cond rfl ?_ | refine And.intro (InR.i64 (by omega) (by omega)) ?_ | refine And.intro (show _ ≠ (0 : Int) by omega) ?_ | refine WIx.intsN (by omega) ?_ | refine WIx.rowsN (by omega) ?_ | with_reducible refine WB.decT (by first | with_reducible rfl | assumption | omega | exact ⟨rfl, rfl⟩) ?_ | with_reducible refine WB.decF (by first | assumption | omega) ?_ | with_reducible refine WB.ndT (by first | with_reducible rfl | assumption | omega | exact ⟨rfl, rfl⟩) ?_ | with_reducible refine WB.ndF (by first | assumption | omega) ?_ | with_reducible refine WB.nt ?_ | with_reducible refine WB.nf ?_ | with_reducible refine WB.dec (fun h => ?_) (fun h => ?_) | with_reducible refine WB.ndec (fun h => ?_) (fun h => ?_) | refine WB.mk (fun h => ?_) (fun h => ?_)) <;> conv => whnf)
  refine Rn.loop (fun j : Nat => ⟨(.n (.n (.n .e (some (.pt .h 0 0)) .e) none (.n .e (some (.i .i64 (j : Int))) .e)) (some (.lst 3 (rows lnD A))) .e), (.n .e (some (.cells false [.o (.i .i64 x.k) 0, .o (.i .i64 x.c) 0, .o (.i .i64 x.t) 0] 1)) .e), .o .h, none⟩) (fun j => j ≤ A.length ∧ ∀ q, q < j → A.getD q default ≠ x) (fun j => A.length - j) 0 ?_ ?_ ?_
  · refine X.le.mk ?_ ?_ (Nat.le_refl _) rfl rfl
    · (repeat' first | exact T.le_e _ | refine T.le_some ?_ rfl ?_ | refine T.le_none ?_ ?_)
    · (repeat' first | exact T.le_e _ | refine T.le_some ?_ rfl ?_ | refine T.le_none ?_ ?_ | refine T.le_ee ?_ ?_)
  · exact ⟨Nat.zero_le _, fun q h => absurd h (Nat.not_lt_zero _)⟩
  rintro j ⟨hj, hno⟩
  conv => whnf
  repeat' first | ((first | with_reducible apply WB.tt | with_reducible apply WB.ff | refine Rn.seq ?_ | refine Rn.reg ?_ | refine Rn.drw ?_ | refine Rn.blk ?_ | refine Rn.skip ?_ | refine Rn.ret ?_ | refine Rn.exit ?_ | refine Rn.cond rfl ?_ | refine And.intro (InR.i64 (by omega) (by omega)) ?_ | refine And.intro (show _ ≠ (0 : Int) by omega) ?_ | refine WIx.intsN (by omega) ?_ | refine WIx.rowsN (by omega) ?_) <;> conv => whnf)
  refine WB.dec (fun h => ?_) (fun h => ?_) <;> conv => whnf
  · have hlt : j < A.length := by omega
    have hwj := hw _ (getD_mem (d := default) hlt)
    repeat' first | ((first | with_reducible apply WB.tt | with_reducible apply WB.ff | refine Rn.seq ?_ | refine Rn.reg ?_ | refine Rn.drw ?_ | refine Rn.blk ?_ | refine Rn.skip ?_ | refine Rn.ret ?_ | refine Rn.exit ?_ | refine Rn.cond rfl ?_ | refine And.intro (InR.i64 (by omega) (by omega)) ?_ | refine And.intro (show _ ≠ (0 : Int) by omega) ?_ | refine WIx.intsN (by omega) ?_ | refine WIx.rowsN (by omega) ?_ | with_reducible refine WB.decT (by first | with_reducible rfl | assumption | omega | exact ⟨rfl, rfl⟩) ?_ | with_reducible refine WB.decF (by first | assumption | omega) ?_ | with_reducible refine WB.ndT (by first | with_reducible rfl | assumption | omega | exact ⟨rfl, rfl⟩) ?_ | with_reducible refine WB.ndF (by first | assumption | omega) ?_ | with_reducible refine WB.nt ?_ | with_reducible refine WB.nf ?_ | with_reducible refine WB.dec (fun h => ?_) (fun h => ?_) | with_reducible refine WB.ndec (fun h => ?_) (fun h => ?_) | refine WB.mk (fun h => ?_) (fun h => ?_)) <;> conv => whnf)
    by_cases he : A.getD j default = x
    · refine WSt.eqLn (A.getD j default) x (by rfl) (by rfl) hwj hxw (r := true) (show decide (A.getD j default = x) = true from decide_eq_true he) ?_; conv => whnf
      repeat' first | ((first | with_reducible apply WB.tt | with_reducible apply WB.ff | refine Rn.seq ?_ | refine Rn.reg ?_ | refine Rn.drw ?_ | refine Rn.blk ?_ | refine Rn.skip ?_ | refine Rn.ret ?_ | refine Rn.exit ?_ | refine Rn.cond rfl ?_ | refine And.intro (InR.i64 (by omega) (by omega)) ?_ | refine And.intro (show _ ≠ (0 : Int) by omega) ?_ | refine WIx.intsN (by omega) ?_ | refine WIx.rowsN (by omega) ?_ | with_reducible refine WB.decT (by first | with_reducible rfl | assumption | omega | exact ⟨rfl, rfl⟩) ?_ | with_reducible refine WB.decF (by first | assumption | omega) ?_ | with_reducible refine WB.ndT (by first | with_reducible rfl | assumption | omega | exact ⟨rfl, rfl⟩) ?_ | with_reducible refine WB.ndF (by first | assumption | omega) ?_ | with_reducible refine WB.nt ?_ | with_reducible refine WB.nf ?_ | with_reducible refine WB.dec (fun h => ?_) (fun h => ?_) | with_reducible refine WB.ndec (fun h => ?_) (fun h => ?_) | refine WB.mk (fun h => ?_) (fun h => ?_)) <;> conv => whnf)
      exact Fin.b rfl rfl
    · refine WSt.eqLn (A.getD j default) x (by rfl) (by rfl) hwj hxw (r := false) (show decide (A.getD j default = x) = false from decide_eq_false he) ?_; conv => whnf
      repeat' first | ((first | with_reducible apply WB.tt | with_reducible apply WB.ff | refine Rn.seq ?_ | refine Rn.reg ?_ | refine Rn.drw ?_ | refine Rn.blk ?_ | refine Rn.skip ?_ | refine Rn.ret ?_ | refine Rn.exit ?_ | refine Rn.cond rfl ?_ | refine And.intro (InR.i64 (by omega) (by omega)) ?_ | refine And.intro (show _ ≠ (0 : Int) by omega) ?_ | refine WIx.intsN (by omega) ?_ | refine WIx.rowsN (by omega) ?_ | with_reducible refine WB.decT (by first | with_reducible rfl | assumption | omega | exact ⟨rfl, rfl⟩) ?_ | with_reducible refine WB.decF (by first | assumption | omega) ?_ | with_reducible refine WB.ndT (by first | with_reducible rfl | assumption | omega | exact ⟨rfl, rfl⟩) ?_ | with_reducible refine WB.ndF (by first | assumption | omega) ?_ | with_reducible refine WB.nt ?_ | with_reducible refine WB.nf ?_ | with_reducible refine WB.dec (fun h => ?_) (fun h => ?_) | with_reducible refine WB.ndec (fun h => ?_) (fun h => ?_) | refine WB.mk (fun h => ?_) (fun h => ?_)) <;> conv => whnf)
      refine Again.to (j + 1) (by omega) ⟨by omega, fun q hq => ?_⟩ (Nat.le_refl _) ?_
      · by_cases e : q = j
        · subst e; exact he
        · exact hno q (by omega)
      refine Shr.of ?_ ?_ rfl rfl
      · (repeat' first | exact Rel.e | refine Rel.some ?_ ?_ ?_ | refine Rel.none ?_ ?_ | refine Rel.ee ?_ ?_)
        all_goals show Fz _ _ _ _
        all_goals first | exact .kpt (show _ < 2 by simp [Pos.nat]) | exact .pu trivial | exact .pu (pu_ln _)
      · (repeat' first | exact Rel.e | refine Rel.some ?_ ?_ ?_ | refine Rel.none ?_ ?_ | refine Rel.ee ?_ ?_)
        exact RO'.of (show _ < 2 by simp [Pos.nat]) (ShC.same (ShC.cn (.pu trivial) (ShC.cn (.pu trivial) (ShC.cn (.pu trivial) ShC.nl))))
  · exfalso
    obtain ⟨q, hq, e⟩ := mem_getD (d := default) hx
    exact hno q (by omega) e
theorem j_inside (a b c d : Int) (h : c ≤ a ∧ b ≤ d) : PureF Try.prog p98.ix [.ag [.i .i64 a, .i .i64 b], .ag [.i .i64 c, .i .i64 d]] (.b true) := by
  refine PureF.run fn97 (by simp) (by simp [PuL, Pu]) ?_; conv => whnf
  repeat' first | ((first | with_reducible apply WB.tt | with_reducible apply WB.ff | refine Rn.seq ?_ | refine Rn.reg ?_ | refine Rn.drw ?_ | refine Rn.blk ?_ | refine Rn.skip ?_ | refine Rn.ret ?_ | refine Rn.exit ?_ | refine Rn.cond rfl ?_ | refine And.intro (InR.i64 (by omega) (by omega)) ?_ | refine And.intro (show _ ≠ (0 : Int) by omega) ?_ | refine WIx.intsN (by omega) ?_ | refine WIx.rowsN (by omega) ?_ | with_reducible refine WB.decT (by first | with_reducible rfl | assumption | omega | exact ⟨rfl, rfl⟩) ?_ | with_reducible refine WB.decF (by first | assumption | omega) ?_ | with_reducible refine WB.ndT (by first | with_reducible rfl | assumption | omega | exact ⟨rfl, rfl⟩) ?_ | with_reducible refine WB.ndF (by first | assumption | omega) ?_ | with_reducible refine WB.nt ?_ | with_reducible refine WB.nf ?_ | with_reducible refine WB.dec (fun h => ?_) (fun h => ?_) | with_reducible refine WB.ndec (fun h => ?_) (fun h => ?_) | refine WB.mk (fun h => ?_) (fun h => ?_)) <;> conv => whnf)
  all_goals first | exact Fin.b rfl rfl | exact Fin.b rfl (by rw [decide_eq_true (by omega)]) | (exfalso; omega)
structure Finer (Bx Bb : Bk) : Prop where
  n : Bx.n = Bb.n
  coin : Bx.coin = Bb.coin
  box : Bx.box = Bb.box
  vx : VB Bx
  vb : VB Bb
  ne : exT Bx Bx.ls.length [] ≠ []
  sub : ∀ X ∈ exT Bx Bx.ls.length [], ∃ Y ∈ exT Bb Bb.ls.length [], SameTo Bb.ls.length X Y
theorem Finer.neb {Bx Bb : Bk} (F : Finer Bx Bb) : exT Bb Bb.ls.length [] ≠ [] := fun h => by
  obtain ⟨X, s, hs⟩ := List.exists_cons_of_ne_nil F.ne
  obtain ⟨Y, hY, _⟩ := F.sub X (by rw [hs]; exact List.mem_cons_self)
  rw [h] at hY; cases hY
theorem Finer.ans {Bx Bb : Bk} (F : Finer Bx Bb) {k : Nat} (hk : k ≤ Bb.ls.length) (f : Mo → Int) : ∀ v ∈ ansL Bx k f, v ∈ ansL Bb k f := fun v hv => by
  obtain ⟨X, hX, rfl⟩ := List.mem_map.1 hv
  obtain ⟨Y, hY, hs⟩ := F.sub X hX
  refine List.mem_map.2 ⟨Y, hY, ?_⟩
  show f (moR Bb.box Bb.coin Y k) = f (moR Bx.box Bx.coin X k)
  rw [F.box, F.coin, moR_same (hs.le hk)]
theorem Finer.bnd {Bx Bb : Bk} (F : Finer Bx Bb) {k : Nat} (hk : k ≤ Bb.ls.length) (f : Mo → Int) : (ansL Bb k f).foldl min ((ansL Bb k f).getD 0 0) ≤ (ansL Bx k f).foldl min ((ansL Bx k f).getD 0 0) ∧ (ansL Bx k f).foldl max ((ansL Bx k f).getD 0 0) ≤ (ansL Bb k f).foldl max ((ansL Bb k f).getD 0 0) := by
  have g := fold_mem (ans_ne (aft := k) (ak := f) F.ne)
  exact ⟨(foldl_minJ _ _).2.1 _ (F.ans hk f _ g.1), (foldl_maxJ _ _).2.1 _ (F.ans hk f _ g.2)⟩
theorem Finer.vd {Bx Bb : Bk} (F : Finer Bx Bb) {k : Nat} (hk : k ≤ Bb.ls.length) (x : Nat) (h3 : vdO Bb k x ≠ 3) : vdO Bx k x = vdO Bb k x := by
  have hb := F.bnd hk fun m => min (m.h x) 1
  have g := fold_mem (ans_ne (aft := k) (ak := fun m => min (m.h x) 1) F.ne)
  have hr : ∀ v ∈ ansL Bx k (fun m => min (m.h x) 1), 0 ≤ v ∧ v ≤ 1 := fun v hv => by
    obtain ⟨X, _, rfl⟩ := List.mem_map.1 hv
    have hb2 : 0 ≤ (moR Bx.box Bx.coin X k).h x := by
      show 0 ≤ if x < 4 then cOut X (x : Int) k + 1 else tOut X ((x - 4 : Nat) : Int) k + 1
      have q1 := cOut_bd X (x : Int) k
      have q2 := tOut_bd X ((x - 4 : Nat) : Int) k
      split <;> omega
    show 0 ≤ min ((moR Bx.box Bx.coin X k).h x) 1 ∧ min ((moR Bx.box Bx.coin X k).h x) 1 ≤ 1
    omega
  have r1 := hr _ g.1
  have r2 := hr _ g.2
  have r3 := (foldl_minJ (ansL Bx k fun m => min (m.h x) 1) ((ansL Bx k fun m => min (m.h x) 1).getD 0 0)).2.1 _ g.2
  unfold vdO outA at h3 ⊢
  generalize (ansL Bb k fun m => min (m.h x) 1).foldl min ((ansL Bb k fun m => min (m.h x) 1).getD 0 0) = a at *
  generalize (ansL Bb k fun m => min (m.h x) 1).foldl max ((ansL Bb k fun m => min (m.h x) 1).getD 0 0) = b at *
  generalize (ansL Bx k fun m => min (m.h x) 1).foldl min ((ansL Bx k fun m => min (m.h x) 1).getD 0 0) = c at *
  generalize (ansL Bx k fun m => min (m.h x) 1).foldl max ((ansL Bx k fun m => min (m.h x) 1).getD 0 0) = d at *
  unfold vdT at h3 ⊢
  by_cases e1 : a = 1 ∧ b = 1
  · rw [if_pos e1, if_pos (by omega)]
  · rw [if_neg e1] at h3 ⊢
    by_cases e2 : a = 0 ∧ b = 0
    · rw [if_pos e2, if_neg (by omega), if_pos (by omega)]
    · rw [if_neg e2] at h3
      exact absurd rfl h3
theorem Finer.was {Bx Bb : Bk} (F : Finer Bx Bb) {line : Nat} (hl : line < Bb.ls.length) : ∀ v ∈ wasL Bx line, v ∈ wasL Bb line := fun v hv => by
  obtain ⟨_, h2⟩ := List.mem_filter.1 hv
  rw [List.any_eq_true] at h2
  obtain ⟨X, hX, e⟩ := h2
  obtain ⟨Y, hY, hs⟩ := F.sub X hX
  have e : X.getD line default = v := of_decide_eq_true e
  have e2 : Y.getD line default = v := by rw [hs line hl]; exact e
  have hYe := mem_exT.1 hY
  have hYl : Y.length = Bb.ls.length := by have := hYe.len; simpa using this
  refine List.mem_filter.2 ⟨?_, ?_⟩
  · rw [← e2]
    exact mem_rdsL.2 (hYe.st line (Nat.zero_le _) (by omega)).1
  · rw [List.any_eq_true]
    exact ⟨Y, hY, decide_eq_true e2⟩
end Go.Ev
namespace Go.Ev
open Go.Proofs
set_option maxRecDepth 100000
set_option maxHeartbeats 4000000 in
theorem j_closer {n coin box : Int} {lx ls : List Ln} {cx cs : List Ct} (F : Finer (B5 n coin box lx cx) (B5 n coin box ls cs)) (fx : faultT n coin box lx cx = 0) (fb : faultT n coin box ls cs = 0) (hx : hasB (B5 n coin box lx cx) = true) (hb : hasB (B5 n coin box ls cs) = true) {k : Nat} (hk : k ≤ ls.length) (hkx : k ≤ lx.length) (line : Int) (hl : line = -1 ∨ (0 ≤ line ∧ line < ls.length ∧ line < lx.length)) :
    PureF Try.prog p64.ix [.ag [.i .i64 n, .i .i64 coin, .i .i64 box, .lst 3 (rows lnD lx), .lst 3 (rows ctD cx)], .ag [.i .i64 n, .i .i64 coin, .i .i64 box, .lst 3 (rows lnD ls), .lst 3 (rows ctD cs)], .i .i64 (k : Int), .i .i64 line] (.b true) := by
  have l8x : lx.length ≤ 8 := F.vx.len
  have l8 : ls.length ≤ 8 := F.vb.len
  have c4x : cx.length ≤ 4 := F.vx.clen
  have c4 : cs.length ≤ 4 := F.vb.clen
  have hn : 1 ≤ n ∧ n ≤ 4 := F.vx.n
  have iBx := j_Book n coin box lx cx (by omega) (by omega)
  have iB := j_Book n coin box ls cs (by omega) (by omega)
  have iMx := j_MoneyP n coin box lx cx (k : Int)
  have iM := j_MoneyP n coin box ls cs (k : Int)
  have iOx := j_OutP n coin box lx cx (k : Int)
  have iO := j_OutP n coin box ls cs (k : Int)
  unfold monT at iM iMx
  unfold outT at iO iOx
  rw [show inR (k : Int) 0 (lx.length : Int) = true from inR_iff.2 (by omega), sE_true fx hx, if_pos rfl, Int.toNat_natCast] at iMx iOx
  rw [show inR (k : Int) 0 (ls.length : Int) = true from inR_iff.2 (by omega), sE_true fb hb, if_pos rfl, Int.toNat_natCast] at iM iO
  have hbn := F.bnd (k := k) hk Mo.box
  unfold lohi at iM iMx
  generalize (ansL (B5 n coin box lx cx) k Mo.box).foldl min ((ansL (B5 n coin box lx cx) k Mo.box).getD 0 0) = r1 at *
  generalize (ansL (B5 n coin box lx cx) k Mo.box).foldl max ((ansL (B5 n coin box lx cx) k Mo.box).getD 0 0) = r2 at *
  generalize (ansL (B5 n coin box ls cs) k Mo.box).foldl min ((ansL (B5 n coin box ls cs) k Mo.box).getD 0 0) = q1 at *
  generalize (ansL (B5 n coin box ls cs) k Mo.box).foldl max ((ansL (B5 n coin box ls cs) k Mo.box).getD 0 0) = q2 at *
  have iI := j_inside r1 r2 q1 q2 hbn
  have w0 : ∀ j, j < n.toNat → (vdL (B5 n coin box ls cs) k 0).getD j 0 = 3 ∨ (vdL (B5 n coin box lx cx) k 0).getD j 0 = (vdL (B5 n coin box ls cs) k 0).getD j 0 := fun j hj => by
    rw [vdL_at (B := B5 n coin box ls cs) hj, vdL_at (B := B5 n coin box lx cx) hj]
    by_cases h : vdO (B5 n coin box ls cs) k (0 + j) = 3
    · exact .inl h
    · exact .inr (F.vd hk _ h)
  have w4 : ∀ j, j < n.toNat → (vdL (B5 n coin box ls cs) k 4).getD j 0 = 3 ∨ (vdL (B5 n coin box lx cx) k 4).getD j 0 = (vdL (B5 n coin box ls cs) k 4).getD j 0 := fun j hj => by
    rw [vdL_at (B := B5 n coin box ls cs) hj, vdL_at (B := B5 n coin box lx cx) hj]
    by_cases h : vdO (B5 n coin box ls cs) k (4 + j) = 3
    · exact .inl h
    · exact .inr (F.vd hk _ h)
  have vl0 : (ints (vdL (B5 n coin box ls cs) k 0)).length = n.toNat := by rw [ints_length]; exact vdL_len _ _ _
  have vl4 : (ints (vdL (B5 n coin box ls cs) k 4)).length = n.toNat := by rw [ints_length]; exact vdL_len _ _ _
  have vx0 : (ints (vdL (B5 n coin box lx cx) k 0)).length = n.toNat := by rw [ints_length]; exact vdL_len _ _ _
  have vx4 : (ints (vdL (B5 n coin box lx cx) k 4)).length = n.toNat := by rw [ints_length]; exact vdL_len _ _ _
  have wl0 : (vdL (B5 n coin box ls cs) k 0).length = n.toNat := vdL_len _ _ _
  have wl4 : (vdL (B5 n coin box ls cs) k 4).length = n.toNat := vdL_len _ _ _
  have wx0 : (vdL (B5 n coin box lx cx) k 0).length = n.toNat := vdL_len _ _ _
  have wx4 : (vdL (B5 n coin box lx cx) k 4).length = n.toNat := vdL_len _ _ _
  generalize vdL (B5 n coin box ls cs) k 0 = D0 at *
  generalize vdL (B5 n coin box ls cs) k 4 = D4 at *
  generalize vdL (B5 n coin box lx cx) k 0 = C0 at *
  generalize vdL (B5 n coin box lx cx) k 4 = C4 at *
  refine PureF.run fn63 (by simp) (by simp [PuL, PuE, Pu, pu_ints, pu_ln, pu_ct, pu_tl]) ?_; conv => whnf
  repeat' first | ((first | with_reducible apply WB.tt | with_reducible apply WB.ff | refine Rn.seq ?_ | refine Rn.reg ?_ | refine Rn.drw ?_ | refine Rn.blk ?_ | refine Rn.skip ?_ | refine Rn.ret ?_ | refine Rn.exit ?_ | refine Rn.cond rfl ?_ | refine And.intro (InR.i64 (by omega) (by omega)) ?_ | refine And.intro (show _ ≠ (0 : Int) by omega) ?_ | refine WIx.intsN (by omega) ?_ | refine WIx.rowsN (by omega) ?_ | refine WCall.pure (iBx) ?_ | refine WCall.pure (iB) ?_ | refine WCall.pure (iMx) ?_ | refine WCall.pure (iM) ?_ | refine WCall.pure (iOx) ?_ | refine WCall.pure (iO) ?_ | refine WCall.pure (iI) ?_ | with_reducible refine WB.decT (by first | with_reducible rfl | assumption | omega | exact ⟨rfl, rfl⟩) ?_ | with_reducible refine WB.decF (by first | assumption | omega) ?_ | with_reducible refine WB.ndT (by first | with_reducible rfl | assumption | omega | exact ⟨rfl, rfl⟩) ?_ | with_reducible refine WB.ndF (by first | assumption | omega) ?_ | with_reducible refine WB.nt ?_ | with_reducible refine WB.nf ?_ | with_reducible refine WB.dec (fun h => ?_) (fun h => ?_) | with_reducible refine WB.ndec (fun h => ?_) (fun h => ?_) | refine WB.mk (fun h => ?_) (fun h => ?_)) <;> conv => whnf)
  all_goals first | (exfalso; omega) | skip
  refine Rn.loop (fun j : Nat => ⟨(.n (.n (.n .e (some (.i .i64 line)) (.n (.n .e (some (.i .i64 (j : Int))) .e) none .e)) none (.n (.n (.n .e (some (.lst 1 (ints D4))) .e) none .e) (some (.pt (.o .h) 0 0)) (.n .e (some (.lst 1 (ints C0))) .e))) none (.n (.n (.n (.n .e (some (.lst 1 (ints D0))) .e) none .e) (some (.pt .h 0 0)) .e) none (.n .e none (.n .e (some (.lst 1 (ints C4))) .e)))), (.n (.n .e (some (bkC n coin box ls cs)) .e) (some (bkC n coin box lx cx)) .e), .i (.o .h), none⟩) (fun j => j ≤ n.toNat) (fun j => n.toNat - j) 0 ?_ ?_ ?_
  · refine X.le.mk ?_ ?_ (Nat.le_refl _) rfl rfl
    · (repeat' first | exact T.le_e _ | refine T.le_some ?_ rfl ?_ | refine T.le_none ?_ ?_)
    · (repeat' first | exact T.le_e _ | refine T.le_some ?_ rfl ?_ | refine T.le_none ?_ ?_ | refine T.le_ee ?_ ?_)
  · exact Nat.zero_le _
  intro j hj
  have hj : j ≤ n.toNat := hj
  conv => whnf
  repeat' first | ((first | with_reducible apply WB.tt | with_reducible apply WB.ff | refine Rn.seq ?_ | refine Rn.reg ?_ | refine Rn.drw ?_ | refine Rn.blk ?_ | refine Rn.skip ?_ | refine Rn.ret ?_ | refine Rn.exit ?_ | refine Rn.cond rfl ?_ | refine And.intro (InR.i64 (by omega) (by omega)) ?_ | refine And.intro (show _ ≠ (0 : Int) by omega) ?_ | refine WIx.intsN (by omega) ?_ | refine WIx.rowsN (by omega) ?_) <;> conv => whnf)
  refine WB.dec (fun h => ?_) (fun h => ?_) <;> conv => whnf
  · have hlt : j < n.toNat := by omega
    have c1 := w0 j hlt
    have c2 := w4 j hlt
    have hend : Again (fun j : Nat => (⟨(.n (.n (.n .e (some (.i .i64 line)) (.n (.n .e (some (.i .i64 (j : Int))) .e) none .e)) none (.n (.n (.n .e (some (.lst 1 (ints D4))) .e) none .e) (some (.pt (.o .h) 0 0)) (.n .e (some (.lst 1 (ints C0))) .e))) none (.n (.n (.n (.n .e (some (.lst 1 (ints D0))) .e) none .e) (some (.pt .h 0 0)) .e) none (.n .e none (.n .e (some (.lst 1 (ints C4))) .e)))), (.n (.n .e (some (bkC n coin box ls cs)) .e) (some (bkC n coin box lx cx)) .e), .i (.o .h), none⟩ : X)) (fun j => j ≤ n.toNat) (fun j => n.toNat - j) j ⟨(.n (.n (.n .e (some (.i .i64 line)) (.n (.n .e (some (.i .i64 ((j + 1 : Nat) : Int))) .e) none .e)) none (.n (.n (.n .e (some (.lst 1 (ints D4))) .e) none .e) (some (.pt (.o .h) 0 0)) (.n .e (some (.lst 1 (ints C0))) .e))) none (.n (.n (.n (.n .e (some (.lst 1 (ints D0))) .e) none .e) (some (.pt .h 0 0)) .e) none (.n .e none (.n .e (some (.lst 1 (ints C4))) .e)))), (.n (.n .e (some (bkC n coin box ls cs)) .e) (some (bkC n coin box lx cx)) .e), .i (.o .h), none⟩ → True := fun _ => trivial
    rcases c1 with c1 | c1 <;> rcases c2 with c2 | c2
    all_goals repeat' first | ((first | with_reducible apply WB.tt | with_reducible apply WB.ff | refine Rn.seq ?_ | refine Rn.reg ?_ | refine Rn.drw ?_ | refine Rn.blk ?_ | refine Rn.skip ?_ | refine Rn.ret ?_ | refine Rn.exit ?_ | refine Rn.cond rfl ?_ | refine And.intro (InR.i64 (by omega) (by omega)) ?_ | refine And.intro (show _ ≠ (0 : Int) by omega) ?_ | refine WIx.intsN (by omega) ?_ | refine WIx.rowsN (by omega) ?_ | with_reducible refine WB.decT (by first | with_reducible rfl | assumption | omega | exact ⟨rfl, rfl⟩) ?_ | with_reducible refine WB.decF (by first | assumption | omega) ?_ | with_reducible refine WB.ndT (by first | with_reducible rfl | assumption | omega | exact ⟨rfl, rfl⟩) ?_ | with_reducible refine WB.ndF (by first | assumption | omega) ?_ | with_reducible refine WB.nt ?_ | with_reducible refine WB.nf ?_ | with_reducible refine WB.dec (fun h => ?_) (fun h => ?_) | with_reducible refine WB.ndec (fun h => ?_) (fun h => ?_) | refine WB.mk (fun h => ?_) (fun h => ?_)) <;> conv => whnf)
    all_goals first | (exfalso; omega) | skip
    all_goals refine Again.to (j + 1) (by omega) (by omega) (Nat.le_refl _) ?_
    all_goals refine Shr.of ?_ ?_ rfl rfl
    all_goals (repeat' first | exact Rel.e | refine Rel.some ?_ ?_ ?_ | refine Rel.none ?_ ?_ | refine Rel.ee ?_ ?_)
    all_goals first
      | exact RO'.of (show _ < 5 by simp [Pos.nat]) (ShC.kp (bkC_kp _ _ _ _ _ _))
      | (show Fz _ _ _ _; first | exact .kpt (show _ < 5 by simp [Pos.nat]) | exact .pu trivial | exact .pu (pu_ints _))
  · rcases hl with rfl | ⟨hl0, hl1, hl2⟩
    · repeat' first | ((first | with_reducible apply WB.tt | with_reducible apply WB.ff | refine Rn.seq ?_ | refine Rn.reg ?_ | refine Rn.drw ?_ | refine Rn.blk ?_ | refine Rn.skip ?_ | refine Rn.ret ?_ | refine Rn.exit ?_ | refine Rn.cond rfl ?_ | refine And.intro (InR.i64 (by omega) (by omega)) ?_ | refine And.intro (show _ ≠ (0 : Int) by omega) ?_ | refine WIx.intsN (by omega) ?_ | refine WIx.rowsN (by omega) ?_ | with_reducible refine WB.decT (by first | with_reducible rfl | assumption | omega | exact ⟨rfl, rfl⟩) ?_ | with_reducible refine WB.decF (by first | assumption | omega) ?_ | with_reducible refine WB.ndT (by first | with_reducible rfl | assumption | omega | exact ⟨rfl, rfl⟩) ?_ | with_reducible refine WB.ndF (by first | assumption | omega) ?_ | with_reducible refine WB.nt ?_ | with_reducible refine WB.nf ?_ | with_reducible refine WB.dec (fun h => ?_) (fun h => ?_) | with_reducible refine WB.ndec (fun h => ?_) (fun h => ?_) | refine WB.mk (fun h => ?_) (fun h => ?_)) <;> conv => whnf)
      exact Fin.b rfl rfl
    · obtain ⟨m, rfl⟩ : ∃ m : Nat, line = (m : Int) := ⟨line.toNat, by omega⟩
      have iWx := j_WasP n coin box lx cx (m : Int) (by omega)
      have iW := j_WasP n coin box ls cs (m : Int) (by omega)
      unfold wasT at iW iWx
      rw [show inR (m : Int) 0 ((lx.length : Int) - 1) = true from inR_iff.2 (by omega), sE_true fx hx, if_pos rfl, Int.toNat_natCast] at iWx
      rw [show inR (m : Int) 0 ((ls.length : Int) - 1) = true from inR_iff.2 (by omega), sE_true fb hb, if_pos rfl, Int.toNat_natCast] at iW
      have hsub := F.was (line := m) (show m < ls.length by omega)
      have hWl : (wasL (B5 n coin box lx cx) m).length ≤ 1000 := Nat.le_trans (List.length_filter_le _ _) (rds_32 F.vx _)
      have hVl : (wasL (B5 n coin box ls cs) m).length ≤ 1000 := Nat.le_trans (List.length_filter_le _ _) (rds_32 F.vb _)
      have hVw : ∀ a ∈ wasL (B5 n coin box ls cs) m, lnWf a := fun a h => rd_wf F.vb (line := m) (show m < ls.length by omega) (mem_rdsL.1 (List.mem_filter.1 h).1)
      generalize wasL (B5 n coin box lx cx) m = W at *
      generalize wasL (B5 n coin box ls cs) m = U at *
      have e3 := rows_length lnD W
      repeat' first | ((first | with_reducible apply WB.tt | with_reducible apply WB.ff | refine Rn.seq ?_ | refine Rn.reg ?_ | refine Rn.drw ?_ | refine Rn.blk ?_ | refine Rn.skip ?_ | refine Rn.ret ?_ | refine Rn.exit ?_ | refine Rn.cond rfl ?_ | refine And.intro (InR.i64 (by omega) (by omega)) ?_ | refine And.intro (show _ ≠ (0 : Int) by omega) ?_ | refine WIx.intsN (by omega) ?_ | refine WIx.rowsN (by omega) ?_ | refine WCall.pure (iBx) ?_ | refine WCall.pure (iB) ?_ | refine WCall.pure (iWx) ?_ | refine WCall.pure (iW) ?_ | with_reducible refine WB.decT (by first | with_reducible rfl | assumption | omega | exact ⟨rfl, rfl⟩) ?_ | with_reducible refine WB.decF (by first | assumption | omega) ?_ | with_reducible refine WB.ndT (by first | with_reducible rfl | assumption | omega | exact ⟨rfl, rfl⟩) ?_ | with_reducible refine WB.ndF (by first | assumption | omega) ?_ | with_reducible refine WB.nt ?_ | with_reducible refine WB.nf ?_ | with_reducible refine WB.dec (fun h => ?_) (fun h => ?_) | with_reducible refine WB.ndec (fun h => ?_) (fun h => ?_) | refine WB.mk (fun h => ?_) (fun h => ?_)) <;> conv => whnf)
      refine Rn.loop (fun j : Nat => ⟨(.n (.n (.n (.n .e none (.n .e (some (.i .i64 0)) .e)) none .e) none (.n .e none (.n (.n .e (some (.i .i64 0)) .e) none .e))) none (.n (.n (.n .e none (.n .e (some (.i .i64 (j : Int))) .e)) none (.n (.n .e (some (.lst 3 (rows lnD W))) .e) none .e)) none (.n .e none (.n (.n .e (some (.lst 3 (rows lnD U))) .e) none .e)))), .e, .i (.o .h), none⟩) (fun j => j ≤ W.length) (fun j => W.length - j) 0 ?_ ?_ ?_
      · refine X.le.mk ?_ (T.le_e _) (Nat.le_refl _) rfl rfl
        (repeat' first | exact T.le_e _ | refine T.le_some ?_ rfl ?_ | refine T.le_none ?_ ?_)
      · exact Nat.zero_le _
      intro i hi
      have hi : i ≤ W.length := hi
      conv => whnf
      repeat' first | ((first | with_reducible apply WB.tt | with_reducible apply WB.ff | refine Rn.seq ?_ | refine Rn.reg ?_ | refine Rn.drw ?_ | refine Rn.blk ?_ | refine Rn.skip ?_ | refine Rn.ret ?_ | refine Rn.exit ?_ | refine Rn.cond rfl ?_ | refine And.intro (InR.i64 (by omega) (by omega)) ?_ | refine And.intro (show _ ≠ (0 : Int) by omega) ?_ | refine WIx.intsN (by omega) ?_ | refine WIx.rowsN (by omega) ?_) <;> conv => whnf)
      refine WB.dec (fun h => ?_) (fun h => ?_) <;> conv => whnf
      · have hlt : i < W.length := by omega
        have iH := j_hasL U (W.getD i default) hVl hVw (hsub _ (getD_mem hlt))
        unfold lnD at iH
        repeat' first | ((first | with_reducible apply WB.tt | with_reducible apply WB.ff | refine Rn.seq ?_ | refine Rn.reg ?_ | refine Rn.drw ?_ | refine Rn.blk ?_ | refine Rn.skip ?_ | refine Rn.ret ?_ | refine Rn.exit ?_ | refine Rn.cond rfl ?_ | refine And.intro (InR.i64 (by omega) (by omega)) ?_ | refine And.intro (show _ ≠ (0 : Int) by omega) ?_ | refine WIx.intsN (by omega) ?_ | refine WIx.rowsN (by omega) ?_ | refine WCall.pure (iH) ?_ | with_reducible refine WB.decT (by first | with_reducible rfl | assumption | omega | exact ⟨rfl, rfl⟩) ?_ | with_reducible refine WB.decF (by first | assumption | omega) ?_ | with_reducible refine WB.ndT (by first | with_reducible rfl | assumption | omega | exact ⟨rfl, rfl⟩) ?_ | with_reducible refine WB.ndF (by first | assumption | omega) ?_ | with_reducible refine WB.nt ?_ | with_reducible refine WB.nf ?_ | with_reducible refine WB.dec (fun h => ?_) (fun h => ?_) | with_reducible refine WB.ndec (fun h => ?_) (fun h => ?_) | refine WB.mk (fun h => ?_) (fun h => ?_)) <;> conv => whnf)
        refine Again.to (i + 1) (by omega) (by omega) (Nat.le_refl _) ?_
        (refine Shr.of ?_ ?_ rfl rfl) <;> (repeat' first | exact Rel.e | refine Rel.some ?_ ?_ ?_ | refine Rel.none ?_ ?_) <;> (try first | (show Fz _ _ _ _; first | exact Fz.pu trivial | (refine Fz.i ?_; first | rfl | omega) | (refine Fz.kpt ?_; (focus (show Pos.nat _ < Pos.nat _; simp [Pos.nat]; done))) | (refine Fz.ksl ?_; (focus (show Pos.nat _ < Pos.nat _; simp [Pos.nat]; done))) | (refine Fz.kmp ?_; (focus (show Pos.nat _ < Pos.nat _; simp [Pos.nat]; done))) | (refine Fz.pu ?_; simp [Cell.d, Pu, PuL, PuE, pu_ints, pu_ln, pu_ct, pu_tl]; done) | (refine Fz.pu ?_; simp only [Cell.d]; assumption)) | (refine RO'.of ?_ (ShC.same ?_); (focus (show Pos.nat _ < Pos.nat _; simp [Pos.nat]; done)); (repeat' first | exact ShC.nl | refine ShC.cn ?_ ?_) <;> first | exact Fz.pu trivial | (refine Fz.i ?_; first | rfl | omega) | (refine Fz.kpt ?_; (focus (show Pos.nat _ < Pos.nat _; simp [Pos.nat]; done))) | (refine Fz.ksl ?_; (focus (show Pos.nat _ < Pos.nat _; simp [Pos.nat]; done))) | (refine Fz.kmp ?_; (focus (show Pos.nat _ < Pos.nat _; simp [Pos.nat]; done))) | (refine Fz.pu ?_; simp [Cell.d, Pu, PuL, PuE, pu_ints, pu_ln, pu_ct, pu_tl]; done) | (refine Fz.pu ?_; simp only [Cell.d]; assumption)))
        all_goals exact Fz.pu (pu_ln _)
      · repeat' first | ((first | with_reducible apply WB.tt | with_reducible apply WB.ff | refine Rn.seq ?_ | refine Rn.reg ?_ | refine Rn.drw ?_ | refine Rn.blk ?_ | refine Rn.skip ?_ | refine Rn.ret ?_ | refine Rn.exit ?_ | refine Rn.cond rfl ?_ | refine And.intro (InR.i64 (by omega) (by omega)) ?_ | refine And.intro (show _ ≠ (0 : Int) by omega) ?_ | refine WIx.intsN (by omega) ?_ | refine WIx.rowsN (by omega) ?_ | with_reducible refine WB.decT (by first | with_reducible rfl | assumption | omega | exact ⟨rfl, rfl⟩) ?_ | with_reducible refine WB.decF (by first | assumption | omega) ?_ | with_reducible refine WB.ndT (by first | with_reducible rfl | assumption | omega | exact ⟨rfl, rfl⟩) ?_ | with_reducible refine WB.ndF (by first | assumption | omega) ?_ | with_reducible refine WB.nt ?_ | with_reducible refine WB.nf ?_ | with_reducible refine WB.dec (fun h => ?_) (fun h => ?_) | with_reducible refine WB.ndec (fun h => ?_) (fun h => ?_) | refine WB.mk (fun h => ?_) (fun h => ?_)) <;> conv => whnf)
        exact Fin.b rfl rfl
end Go.Ev
namespace Go.Ev
open Go.Proofs
set_option maxRecDepth 1000000
end Go.Ev
namespace Go.Ev
open Go.Proofs
set_option maxRecDepth 100000
theorem Finer.has {Bx Bb : Bk} (F : Finer Bx Bb) : hasB Bb = true := by
  rw [hasB_nil F.vb]
  intro h
  obtain ⟨Y, s, hs⟩ := List.exists_cons_of_ne_nil F.neb
  have := (refT_ext F.vb).2 (show Y ∈ exT Bb Bb.ls.length [] by rw [hs]; exact List.mem_cons_self)
  rw [h] at this; cases this
def seqR : RC → RC
  | .seq _ b => b
  | c => c
end Go.Ev
namespace Go.Ev
open Go.RowKit Go.ChangeShapes
section
variable {H : Type} {enc : TypeId × Value → H} {P : Program} {w : World} {base : Nat} {spare : Nat → Bool} {held : Bool} {B : DataW H → Nat}
end
end Go.Ev