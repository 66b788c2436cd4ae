/-
  TideShifted: the law answers true for every table and numbers; the only conditions are those of the row itself.
-/
import Derived.Test.YtpemagogcagipaaRows
import Derived.WalkKit
import Derived.ProofKit
import Derived.OpenShut
import Derived.Test.YtpemagogcagipaaEvFt
import Derived.Test.YtpemagogcagipaaEvSy
import Derived.ShutString
import Derived.Test.YtpemagogcagipaaEvQG
import Derived.Test.YtpemagogcagipaaEvMN
import Derived.Test.YtpemagogcagipaaEvMH
import Derived.Test.YtpemagogcagipaaEvQD
set_option linter.all false
namespace Go.Ev
open Go.Proofs
set_option maxRecDepth 1000000
noncomputable def rc16 : RC := (.seq (.reg [(.u (.box p4 (.t p1))), (.u (.mv p7 (.k (.b false))))]) (.seq (.seq (.reg [(.u (.ldn p37 (.t p4) 5)), (.u (.cf (some p38) p52 [(.t p37)])), (.u (.un p39 .not (.t p38)))]) (.cond (.t p39) (.seq (.reg [(.u (.cf (some p40) p21 [])), (.u (.mv p7 (.t p40)))]) .ret) .skip)) (.seq (.reg [(.u (.mv p41 (.t p2))), (.u (.cvi p42 .i64 (.t p41))), (.u (.bin p43 .rem (.t p42) (.k (.i .i64 30)))), (.u (.mv p8 (.t p43)))]) (.seq (.drw [(.u (.ldn p44 (.t p4) 5)), (.u (.ldn p45 (.t p4) 5)), (.u (.new p9 [(.i .i64 0), .ns, (.i .i64 0), .ns, .ns])), (.u (.new p10 [(.i .i64 0), .ns, (.i .i64 0), .ns, .ns])), (.u (.st (.t p9) (.t p44) 5)), (.u (.st (.t p10) (.t p45) 5))] [0, 0, 0, 0, 13, 31]) (.seq (.reg [(.u (.fad p46 (.t p9) 1)), (.u (.st (.t p46) (.k .ns) 1)), (.u (.fad p47 (.t p9) 3)), (.u (.st (.t p47) (.k .ns) 1)), (.u (.fad p48 (.t p9) 4)), (.u (.st (.t p48) (.k .ns) 1)), (.u (.fad p49 (.t p10) 1)), (.u (.st (.t p49) (.k .ns) 1)), (.u (.fad p50 (.t p10) 4)), (.u (.st (.t p50) (.k .ns) 1))]) (.seq (.seq (.reg [(.u (.mv p11 (.k (.i .i64 0))))]) (.blk 0 (.loop (.seq (.seq (.reg [(.u (.mv p51 (.t p11))), (.u (.fad p52 (.t p4) 1)), (.u (.ld1 p53 (.t p52))), (.u (.len p54 (.t p53))), (.u (.bin p55 .lss (.t p51) (.t p54)))]) (.cond (.t p55) .skip (.exit 0))) (.seq (.blk 1 (.seq (.reg [(.u (.fad p58 (.t p4) 1)), (.u (.ld1 p59 (.t p58))), (.u (.mv p60 (.t p11))), (.u (.ixs p61 2 (.t p59) (.t p60))), (.u (.ldn p62 (.t p61) 2)), (.u (.new p12 [(.i .i64 0), (.i .i64 0)])), (.u (.st (.t p12) (.t p62) 2))]) (.drw [(.u (.fad p63 (.t p9) 1)), (.u (.ld1 p64 (.t p63))), (.u (.fad p65 (.t p12) 0)), (.u (.ld1 p66 (.t p65))), (.u (.mv p67 (.t p8))), (.u (.bin p68 .add (.t p66) (.t p67))), (.u (.fad p69 (.t p12) 1)), (.u (.ld1 p70 (.t p69))), (.u (.mv p71 (.t p8))), (.u (.bin p72 .add (.t p70) (.t p71))), (.u (.bld p73 [(.i .i64 0), (.i .i64 0)] [(0, (1, (.t p68))), (1, (1, (.t p72)))])), (.u (.bsl p74 2 1 [(.i .i64 0), (.i .i64 0)] [(0, (2, (.t p73)))])), (.u (.app p75 2 (.t p64) (.t p74))), (.u (.fad p76 (.t p10) 1)), (.u (.ld1 p77 (.t p76))), (.u (.fad p78 (.t p4) 1)), (.u (.ld1 p79 (.t p78))), (.u (.fad p80 (.t p4) 0)), (.u (.ld1 p81 (.t p80))), (.u (.mv p82 (.t p11))), (.u (.bin p83 .sub (.t p81) (.t p82))), (.u (.ixs p84 2 (.t p79) (.t p83))), (.u (.ldn p85 (.t p84) 2)), (.u (.bsl p86 2 1 [(.i .i64 0), (.i .i64 0)] [(0, (2, (.t p85)))])), (.u (.app p87 2 (.t p77) (.t p86))), (.u (.fad p88 (.t p9) 1)), (.u (.st (.t p88) (.t p75) 1)), (.u (.fad p89 (.t p10) 1)), (.u (.st (.t p89) (.t p87) 1))] [0, 1, 0, 4, 0, 28, 0, 64, 0, 448, 1020, 2044, 4095, 0, 8192, 0, 32768, 0, 131072, 0, 917504, 2064384, 4161536, 8355840, 16777215, 8191, 67108863, 134217727, 268435455]))) (.reg [(.u (.mv p56 (.t p11))), (.u (.bin p57 .add (.t p56) (.k (.i .i64 1)))), (.u (.mv p11 (.t p57)))])))))) (.seq (.seq (.reg [(.u (.mv p13 (.k (.i .i64 0))))]) (.blk 2 (.loop (.seq (.seq (.reg [(.u (.mv p90 (.t p13))), (.u (.fad p91 (.t p4) 3)), (.u (.ld1 p92 (.t p91))), (.u (.len p93 (.t p92))), (.u (.bin p94 .lss (.t p90) (.t p93)))]) (.cond (.t p94) .skip (.exit 2))) (.seq (.blk 3 (.drw [(.u (.fad p97 (.t p9) 3)), (.u (.ld1 p98 (.t p97))), (.u (.fad p99 (.t p4) 3)), (.u (.ld1 p100 (.t p99))), (.u (.mv p101 (.t p13))), (.u (.ixs p102 1 (.t p100) (.t p101))), (.u (.ld1 p103 (.t p102))), (.u (.mv p104 (.t p8))), (.u (.bin p105 .add (.t p103) (.t p104))), (.u (.bsl p106 1 1 [(.i .i64 0)] [(0, (1, (.t p105)))])), (.u (.app p107 1 (.t p98) (.t p106))), (.u (.fad p108 (.t p9) 3)), (.u (.st (.t p108) (.t p107) 1))] [0, 1, 0, 4, 0, 28, 60, 0, 252, 508, 1023, 2047, 4095])) (.reg [(.u (.mv p95 (.t p13))), (.u (.bin p96 .add (.t p95) (.k (.i .i64 1)))), (.u (.mv p13 (.t p96)))])))))) (.seq (.seq (.reg [(.u (.mv p14 (.k (.i .i64 0))))]) (.blk 4 (.loop (.seq (.seq (.reg [(.u (.mv p109 (.t p14))), (.u (.fad p110 (.t p4) 4)), (.u (.ld1 p111 (.t p110))), (.u (.len p112 (.t p111))), (.u (.bin p113 .lss (.t p109) (.t p112)))]) (.cond (.t p113) .skip (.exit 4))) (.seq (.blk 5 (.seq (.reg [(.u (.fad p116 (.t p4) 4)), (.u (.ld1 p117 (.t p116))), (.u (.mv p118 (.t p14))), (.u (.ixs p119 4 (.t p117) (.t p118))), (.u (.ldn p120 (.t p119) 4)), (.u (.new p15 [(.i .i64 0), (.i .i64 0), (.i .i64 0), (.i .i64 0)])), (.u (.st (.t p15) (.t p120) 4))]) (.seq (.reg [(.u (.fad p121 (.t p9) 4)), (.u (.ld1 p122 (.t p121))), (.u (.fad p123 (.t p15) 0)), (.u (.ld1 p124 (.t p123))), (.u (.fad p125 (.t p15) 1)), (.u (.ld1 p126 (.t p125))), (.u (.fad p127 (.t p15) 2)), (.u (.fad p128 (.t p127) 0)), (.u (.ld1 p129 (.t p128))), (.u (.mv p130 (.t p8))), (.u (.bin p131 .add (.t p129) (.t p130))), (.u (.fad p132 (.t p15) 2)), (.u (.fad p133 (.t p132) 1)), (.u (.ld1 p134 (.t p133))), (.u (.mv p135 (.t p8))), (.u (.bin p136 .add (.t p134) (.t p135))), (.u (.bld p137 [(.i .i64 0), (.i .i64 0)] [(0, (1, (.t p131))), (1, (1, (.t p136)))])), (.u (.bld p138 [(.i .i64 0), (.i .i64 0), (.i .i64 0), (.i .i64 0)] [(0, (1, (.t p124))), (1, (1, (.t p126))), (2, (2, (.t p137)))])), (.u (.bsl p139 4 1 [(.i .i64 0), (.i .i64 0), (.i .i64 0), (.i .i64 0)] [(0, (4, (.t p138)))])), (.u (.app p140 4 (.t p122) (.t p139))), (.u (.fad p141 (.t p9) 4)), (.u (.st (.t p141) (.t p140) 1))]) (.reg [(.u (.fad p142 (.t p10) 4)), (.u (.ld1 p143 (.t p142))), (.u (.fad p144 (.t p4) 0)), (.u (.ld1 p145 (.t p144))), (.u (.fad p146 (.t p15) 1)), (.u (.ld1 p147 (.t p146))), (.u (.bin p148 .sub (.t p145) (.t p147))), (.u (.fad p149 (.t p4) 0)), (.u (.ld1 p150 (.t p149))), (.u (.fad p151 (.t p15) 0)), (.u (.ld1 p152 (.t p151))), (.u (.bin p153 .sub (.t p150) (.t p152))), (.u (.fad p154 (.t p15) 2)), (.u (.ldn p155 (.t p154) 2)), (.u (.bld p156 [(.i .i64 0), (.i .i64 0), (.i .i64 0), (.i .i64 0)] [(0, (1, (.t p148))), (1, (1, (.t p153))), (2, (2, (.t p155)))])), (.u (.bsl p157 4 1 [(.i .i64 0), (.i .i64 0), (.i .i64 0), (.i .i64 0)] [(0, (4, (.t p156)))])), (.u (.app p158 4 (.t p143) (.t p157))), (.u (.fad p159 (.t p10) 4)), (.u (.st (.t p159) (.t p158) 1))])))) (.reg [(.u (.mv p114 (.t p14))), (.u (.bin p115 .add (.t p114) (.k (.i .i64 1)))), (.u (.mv p14 (.t p115)))])))))) (.seq (.reg [(.u (.ldn p161 (.t p4) 5)), (.u (.cf (some p162) p23 [(.t p161)])), (.u (.cf (some p163) p32 [(.t p162)])), (.u (.mv p160 (.t p163))), (.u (.ext p164 (.t p160) 0)), (.u (.ext p165 (.t p160) 1)), (.u (.mv p16 (.t p164))), (.u (.mv p17 (.t p165)))]) (.seq (.reg [(.u (.ldn p167 (.t p10) 5)), (.u (.cf (some p168) p23 [(.t p167)])), (.u (.cf (some p169) p32 [(.t p168)])), (.u (.mv p166 (.t p169))), (.u (.ext p170 (.t p166) 0)), (.u (.ext p171 (.t p166) 1)), (.u (.mv p18 (.t p170))), (.u (.mv p19 (.t p171)))]) (.seq (.seq (.reg [(.u (.mv p172 (.t p17))), (.u (.mv p173 (.t p19))), (.u (.bin p174 .neq (.t p172) (.t p173))), (.u (.mv p175 (.t p174))), (.g p175 false (some p176) (.mv p176 (.t p16))), (.g p175 false (some p177) (.len p177 (.t p176))), (.g p175 false (some p178) (.mv p178 (.t p18))), (.g p175 false (some p179) (.len p179 (.t p178))), (.g p175 false (some p180) (.bin p180 .neq (.t p177) (.t p179))), (.u (.pick p181 (.t p175) (.k (.b true)) (.t p180)))]) (.cond (.t p181) (.seq (.reg [(.u (.mv p7 (.k (.b false))))]) .ret) .skip)) (.seq (.seq (.reg [(.u (.mv p20 (.k (.i .i64 0))))]) (.blk 6 (.loop (.seq (.seq (.reg [(.u (.mv p182 (.t p20))), (.u (.mv p183 (.t p16))), (.u (.len p184 (.t p183))), (.u (.bin p185 .lss (.t p182) (.t p184)))]) (.cond (.t p185) .skip (.exit 6))) (.seq (.blk 7 (.seq (.drw [(.u (.mv p188 (.t p16))), (.u (.mv p189 (.t p20))), (.u (.ixs p190 2 (.t p188) (.t p189))), (.u (.ldn p191 (.t p190) 2)), (.u (.mv p192 (.t p18))), (.u (.mv p193 (.t p16))), (.u (.len p194 (.t p193))), (.u (.bin p195 .sub (.t p194) (.k (.i .i64 1)))), (.u (.mv p196 (.t p20))), (.u (.bin p197 .sub (.t p195) (.t p196))), (.u (.ixs p198 2 (.t p192) (.t p197))), (.u (.ldn p199 (.t p198) 2)), (.u (.eqr p200 true [(.i .i64), (.i .i64)] (.t p191) (.t p199)))] [0, 0, 3, 7, 0, 0, 32, 96, 0, 480, 1008, 2032, 4095]) (.cond (.t p200) (.seq (.reg [(.u (.mv p7 (.k (.b false))))]) .ret) .skip))) (.reg [(.u (.mv p186 (.t p20))), (.u (.bin p187 .add (.t p186) (.k (.i .i64 1)))), (.u (.mv p20 (.t p187)))])))))) (.seq (.seq (.reg [(.u (.ldn p201 (.t p9) 5)), (.u (.cf (some p202) p52 [(.t p201)])), (.u (.un p203 .not (.t p202)))]) (.cond (.t p203) (.seq (.reg [(.u (.cf (some p204) p21 [])), (.u (.mv p7 (.t p204)))]) .ret) .skip)) (.seq (.reg [(.u (.ldn p206 (.t p9) 5)), (.u (.cf (some p207) p23 [(.t p206)])), (.u (.cf (some p208) p32 [(.t p207)])), (.u (.mv p205 (.t p208))), (.u (.ext p209 (.t p205) 0)), (.u (.ext p210 (.t p205) 1)), (.u (.mv p21 (.t p209))), (.u (.mv p22 (.t p210)))]) (.seq (.drw [(.u (.ldn p212 (.t p4) 5)), (.u (.cf (some p213) p23 [(.t p212)])), (.u (.fad p214 (.t p4) 0)), (.u (.ld1 p215 (.t p214))), (.u (.cf (some p216) p41 [(.t p213), (.k (.i .i64 0)), (.t p215)])), (.u (.mv p211 (.t p216))), (.u (.ext p217 (.t p211) 0)), (.u (.ext p218 (.t p211) 1)), (.u (.mv p23 (.t p217))), (.u (.mv p24 (.t p218)))] [0, 1, 0, 4, 15, 31, 63, 63, 127, 511]) (.seq (.drw [(.u (.ldn p220 (.t p9) 5)), (.u (.cf (some p221) p23 [(.t p220)])), (.u (.fad p222 (.t p4) 0)), (.u (.ld1 p223 (.t p222))), (.u (.cf (some p224) p41 [(.t p221), (.k (.i .i64 0)), (.t p223)])), (.u (.mv p219 (.t p224))), (.u (.ext p225 (.t p219) 0)), (.u (.ext p226 (.t p219) 1)), (.u (.mv p25 (.t p225))), (.u (.mv p26 (.t p226)))] [0, 1, 0, 4, 15, 31, 63, 63, 127, 511]) (.seq (.seq (.reg [(.u (.mv p227 (.t p22))), (.u (.mv p228 (.t p17))), (.u (.bin p229 .neq (.t p227) (.t p228))), (.u (.mv p230 (.t p229))), (.g p230 false (some p231) (.mv p231 (.t p24))), (.g p230 false (some p232) (.mv p232 (.t p17))), (.g p230 false (some p233) (.bin p233 .neq (.t p231) (.t p232))), (.u (.pick p234 (.t p230) (.k (.b true)) (.t p233))), (.u (.mv p235 (.t p234))), (.g p235 false (some p236) (.mv p236 (.t p26))), (.g p235 false (some p237) (.mv p237 (.t p17))), (.g p235 false (some p238) (.bin p238 .neq (.t p236) (.t p237))), (.u (.pick p239 (.t p235) (.k (.b true)) (.t p238))), (.u (.mv p240 (.t p239))), (.g p240 false (some p241) (.mv p241 (.t p21))), (.g p240 false (some p242) (.len p242 (.t p241))), (.g p240 false (some p243) (.mv p243 (.t p16))), (.g p240 false (some p244) (.len p244 (.t p243))), (.g p240 false (some p245) (.bin p245 .neq (.t p242) (.t p244))), (.u (.pick p246 (.t p240) (.k (.b true)) (.t p245))), (.u (.mv p247 (.t p246))), (.g p247 false (some p248) (.mv p248 (.t p17))), (.g p247 false (some p249) (.bin p249 .eql (.t p248) (.k (.i .i64 0)))), (.g p247 false (some p250) (.mv p250 (.t p249))), (.g p250 true (some p251) (.mv p251 (.t p25))), (.g p250 true (some p252) (.mv p252 (.t p23))), (.g p250 true (some p253) (.mv p253 (.t p8))), (.g p250 true (some p254) (.bin p254 .add (.t p252) (.t p253))), (.g p250 true (some p255) (.bin p255 .neq (.t p251) (.t p254))), (.g p247 false (some p256) (.pick p256 (.t p250) (.t p255) (.k (.b false)))), (.u (.pick p257 (.t p247) (.k (.b true)) (.t p256)))]) (.cond (.t p257) (.seq (.reg [(.u (.mv p7 (.k (.b false))))]) .ret) .skip)) (.seq (.seq (.reg [(.u (.mv p27 (.k (.i .i64 0))))]) (.blk 8 (.loop (.seq (.seq (.reg [(.u (.mv p258 (.t p27))), (.u (.mv p259 (.t p16))), (.u (.len p260 (.t p259))), (.u (.bin p261 .lss (.t p258) (.t p260)))]) (.cond (.t p261) .skip (.exit 8))) (.seq (.blk 9 (.seq (.drw [(.u (.mv p264 (.t p21))), (.u (.mv p265 (.t p27))), (.u (.ixs p266 2 (.t p264) (.t p265))), (.u (.ldn p267 (.t p266) 2)), (.u (.mv p268 (.t p16))), (.u (.mv p269 (.t p27))), (.u (.ixs p270 2 (.t p268) (.t p269))), (.u (.fad p271 (.t p270) 0)), (.u (.ld1 p272 (.t p271))), (.u (.mv p273 (.t p8))), (.u (.bin p274 .add (.t p272) (.t p273))), (.u (.mv p275 (.t p16))), (.u (.mv p276 (.t p27))), (.u (.ixs p277 2 (.t p275) (.t p276))), (.u (.fad p278 (.t p277) 1)), (.u (.ld1 p279 (.t p278))), (.u (.mv p280 (.t p8))), (.u (.bin p281 .add (.t p279) (.t p280))), (.u (.cf (some p282) p51 [(.t p274), (.t p281)])), (.u (.eqr p283 true [(.i .i64), (.i .i64)] (.t p267) (.t p282)))] [0, 0, 3, 7, 0, 0, 48, 112, 240, 0, 1008, 0, 0, 6144, 14336, 30720, 0, 129024, 262128, 524287]) (.cond (.t p283) (.seq (.reg [(.u (.mv p7 (.k (.b false))))]) .ret) .skip))) (.reg [(.u (.mv p262 (.t p27))), (.u (.bin p263 .add (.t p262) (.k (.i .i64 1)))), (.u (.mv p27 (.t p263)))])))))) (.seq (.reg [(.u (.ldn p284 (.t p4) 5)), (.u (.cf (some p285) p57 [(.t p284)])), (.u (.mv p28 (.t p285)))]) (.seq (.reg [(.u (.mv p286 (.t p28))), (.u (.mv p287 (.t p3))), (.u (.cvi p288 .i64 (.t p287))), (.u (.mv p289 (.t p28))), (.u (.len p290 (.t p289))), (.u (.bin p291 .rem (.t p288) (.t p290))), (.u (.ixs p292 1 (.t p286) (.t p291))), (.u (.ld1 p293 (.t p292))), (.u (.mv p29 (.t p293)))]) (.seq (.reg [(.u (.mv p30 (.k .ns)))]) (.seq (.seq (.reg [(.u (.mv p31 (.k (.i .i64 0))))]) (.blk 10 (.loop (.seq (.seq (.reg [(.u (.mv p294 (.t p31))), (.u (.mv p295 (.t p29))), (.u (.len p296 (.t p295))), (.u (.bin p297 .lss (.t p294) (.t p296)))]) (.cond (.t p297) .skip (.exit 10))) (.seq (.blk 11 (.reg [(.u (.mv p300 (.t p30))), (.u (.mv p301 (.t p29))), (.u (.mv p302 (.t p31))), (.u (.ixs p303 1 (.t p301) (.t p302))), (.u (.ld1 p304 (.t p303))), (.u (.mv p305 (.t p8))), (.u (.bin p306 .add (.t p304) (.t p305))), (.u (.bsl p307 1 1 [(.i .i64 0)] [(0, (1, (.t p306)))])), (.u (.app p308 1 (.t p300) (.t p307))), (.u (.mv p30 (.t p308)))])) (.reg [(.u (.mv p298 (.t p31))), (.u (.bin p299 .add (.t p298) (.k (.i .i64 1)))), (.u (.mv p31 (.t p299)))])))))) (.seq (.reg [(.u (.ldn p310 (.t p4) 5)), (.u (.cf (some p311) p23 [(.t p310)])), (.u (.mv p312 (.t p29))), (.u (.cf (some p313) p24 [(.t p312)])), (.u (.cf (some p314) p22 [(.t p311), (.t p313)])), (.u (.mv p309 (.t p314))), (.u (.ext p315 (.t p309) 0)), (.u (.ext p316 (.t p309) 1)), (.u (.mv p32 (.t p315))), (.u (.mv p33 (.t p316)))]) (.seq (.reg [(.u (.ldn p318 (.t p9) 5)), (.u (.cf (some p319) p23 [(.t p318)])), (.u (.mv p320 (.t p30))), (.u (.cf (some p321) p22 [(.t p319), (.t p320)])), (.u (.mv p317 (.t p321))), (.u (.ext p322 (.t p317) 0)), (.u (.ext p323 (.t p317) 1)), (.u (.mv p34 (.t p322))), (.u (.mv p35 (.t p323)))]) (.seq (.seq (.reg [(.u (.mv p324 (.t p33))), (.u (.bin p325 .neq (.t p324) (.k (.i .i64 0)))), (.u (.mv p326 (.t p325))), (.g p326 false (some p327) (.mv p327 (.t p35))), (.g p326 false (some p328) (.bin p328 .neq (.t p327) (.k (.i .i64 0)))), (.u (.pick p329 (.t p326) (.k (.b true)) (.t p328))), (.u (.mv p330 (.t p329))), (.g p330 false (some p331) (.mv p331 (.t p32))), (.g p330 false (some p332) (.len p332 (.t p331))), (.g p330 false (some p333) (.fad p333 (.t p4) 3)), (.g p330 false (some p334) (.ld1 p334 (.t p333))), (.g p330 false (some p335) (.len p335 (.t p334))), (.g p330 false (some p336) (.bin p336 .neq (.t p332) (.t p335))), (.u (.pick p337 (.t p330) (.k (.b true)) (.t p336))), (.u (.mv p338 (.t p337))), (.g p338 false (some p339) (.mv p339 (.t p34))), (.g p338 false (some p340) (.len p340 (.t p339))), (.g p338 false (some p341) (.mv p341 (.t p32))), (.g p338 false (some p342) (.len p342 (.t p341))), (.g p338 false (some p343) (.bin p343 .neq (.t p340) (.t p342))), (.u (.pick p344 (.t p338) (.k (.b true)) (.t p343)))]) (.cond (.t p344) (.seq (.reg [(.u (.mv p7 (.k (.b false))))]) .ret) .skip)) (.seq (.seq (.reg [(.u (.mv p36 (.k (.i .i64 0))))]) (.blk 12 (.loop (.seq (.seq (.reg [(.u (.mv p345 (.t p36))), (.u (.mv p346 (.t p32))), (.u (.len p347 (.t p346))), (.u (.bin p348 .lss (.t p345) (.t p347)))]) (.cond (.t p348) .skip (.exit 12))) (.seq (.blk 13 (.seq (.drw [(.u (.mv p351 (.t p32))), (.u (.mv p352 (.t p36))), (.u (.ixs p353 1 (.t p351) (.t p352))), (.u (.ld1 p354 (.t p353))), (.u (.mv p355 (.t p34))), (.u (.mv p356 (.t p36))), (.u (.ixs p357 1 (.t p355) (.t p356))), (.u (.ld1 p358 (.t p357))), (.u (.cf (some p359) p30 [(.t p354), (.t p358)])), (.u (.un p360 .not (.t p359)))] [0, 0, 3, 7, 0, 0, 48, 112, 255, 511]) (.cond (.t p360) (.seq (.reg [(.u (.mv p7 (.k (.b false))))]) .ret) .skip))) (.reg [(.u (.mv p349 (.t p36))), (.u (.bin p350 .add (.t p349) (.k (.i .i64 1)))), (.u (.mv p36 (.t p350)))])))))) (.seq (.reg [(.u (.cf (some p361) p21 [])), (.u (.mv p7 (.t p361)))]) .ret)))))))))))))))))))))))))))
def rs16 : List RR := [(.t p7)]
theorem fn16 : FnOk Try.prog p17.ix 361 rc16 rs16 := ⟨Try.f16, bodyC Try.f16, Try.func16, by kernel_rfl, by kernel_rfl, by kernel_rfl, by kernel_rfl, by kernel_rfl⟩
end Go.Ev
namespace Go.Ev
open Go.Proofs
set_option maxRecDepth 100000
/-! ### The table with everything higher by n; the table with its hours counted backwards -/
def shR (n : Int) (r : Rg) : Rg := ⟨r.lo + n, r.hi + n⟩
def shM (n : Int) (m : Mk) : Mk := ⟨m.fr, m.to, m.lo + n, m.hi + n⟩
def upL (n : Int) (t : List Int) : List Int := t.map fun v => v + n
def rvM (last : Int) (m : Mk) : Mk := ⟨last - m.to, last - m.fr, m.lo, m.hi⟩
theorem upL_len (n : Int) (t : List Int) : (upL n t).length = t.length := by simp [upL]
theorem upL_at {n : Int} {t : List Int} {i : Nat} (h : i < t.length) : (upL n t).getD i 0 = t.getD i 0 + n := by simp [upL, List.getD, h]
theorem upL_up (a b : Int) (t : List Int) : upL a (upL b t) = upL (b + a) t := by
  unfold upL
  rw [List.map_map]
  exact List.map_congr_left fun x _ => by simp only [Function.comp]; omega
theorem upL_zero (t : List Int) : upL 0 t = t := by simp [upL]
theorem shR_at {n : Int} {hs : List Rg} {i : Nat} (h : i < hs.length) : (hs.map (shR n)).getD i default = shR n (hs.getD i default) := by simp [List.getD, h]
theorem rev_at {α : Type} {d : α} {t : List α} {i : Nat} (h : i < t.length) : t.reverse.getD i d = t.getD (t.length - 1 - i) d := by
  have h2 : t.length - 1 - i < t.length := by omega
  rw [List.getD_eq_getElem?_getD, List.getD_eq_getElem?_getD, List.getElem?_reverse h]
theorem near_iff {step : Int} {t : List Int} : nearB step t = true ↔ ∀ i, i + 1 < t.length → t.getD (i + 1) 0 - t.getD i 0 ≤ step ∧ t.getD i 0 - t.getD (i + 1) 0 ≤ step := by
  unfold nearB near1
  rw [List.all_eq_true]
  constructor
  · intro h i hi
    exact of_decide_eq_true (h i (List.mem_range.2 (by omega)))
  · intro h i hi
    have := List.mem_range.1 hi
    exact decide_eq_true (h i (by omega))
theorem up_near (n step : Int) (t : List Int) : nearB step (upL n t) = nearB step t := by
  rw [Bool.eq_iff_iff, near_iff, near_iff, upL_len]
  constructor
  · intro h i hi
    have := h i hi
    rw [upL_at hi, upL_at (show i < t.length by omega)] at this
    omega
  · intro h i hi
    have := h i hi
    rw [upL_at hi, upL_at (show i < t.length by omega)]
    omega
theorem rv_near {step : Int} {t : List Int} (h : nearB step t = true) : nearB step t.reverse = true := by
  rw [near_iff] at h ⊢
  intro i hi
  rw [List.length_reverse] at hi
  rw [rev_at (show i < t.length by omega), rev_at hi]
  have := h (t.length - 1 - (i + 1)) (by omega)
  rw [show t.length - 1 - (i + 1) + 1 = t.length - 1 - i from by omega] at this
  omega
theorem le_all {a b : Int} (h : ∀ v, a ≤ v ↔ b ≤ v) : a = b := by
  have h1 := (h b).2 (Int.le_refl _)
  have h2 := (h a).1 (Int.le_refl _)
  omega
theorem up_top {n : Int} {t : List Int} {f u : Nat} (hfu : f ≤ u) (hu : u < t.length) : topR (upL n t) (f : Int) (u : Int) = topR t (f : Int) (u : Int) + n := by
  refine le_all fun v => ?_
  rw [topR_le hfu (by rw [upL_len]; exact hu), show (topR t (f : Int) (u : Int) + n ≤ v) ↔ topR t (f : Int) (u : Int) ≤ v - n from by omega, topR_le hfu hu]
  constructor
  · intro h i h1 h2
    have := h i h1 h2
    rw [upL_at (by omega)] at this
    omega
  · intro h i h1 h2
    have := h i h1 h2
    rw [upL_at (by omega)]
    omega
theorem rv_top {t : List Int} {f u : Nat} (hfu : f ≤ u) (hu : u < t.length) : topR t.reverse ((t.length - 1 - u : Nat) : Int) ((t.length - 1 - f : Nat) : Int) = topR t (f : Int) (u : Int) := by
  refine le_all fun v => ?_
  rw [topR_le (by omega) (by rw [List.length_reverse]; omega), topR_le hfu hu]
  constructor
  · intro h i h1 h2
    have := h (t.length - 1 - i) (by omega) (by omega)
    rw [rev_at (by omega), show t.length - 1 - (t.length - 1 - i) = i from by omega] at this
    exact this
  · intro h i h1 h2
    rw [rev_at (by omega)]
    exact h _ (by omega) (by omega)
theorem up_right {n : Int} {t : List Int} {m : Mk} (h0 : 0 ≤ m.fr) (h1 : m.fr ≤ m.to) (h2 : m.to < t.length) : rightR (upL n t) (shM n m) = rightR t m := by
  obtain ⟨fr, to, lo, hi⟩ := m
  obtain ⟨f, rfl⟩ := Int.eq_ofNat_of_zero_le h0
  obtain ⟨u, rfl⟩ := Int.eq_ofNat_of_zero_le (Int.le_trans h0 h1)
  have e := up_top (n := n) (t := t) (f := f) (u := u) (by simp only at h1; omega) (by simp only at h2; omega)
  unfold rightR shM
  rw [Bool.eq_iff_iff, inB_iff, inB_iff]
  dsimp only
  rw [e]
  omega
theorem rv_right {last : Int} {t : List Int} {m : Mk} (hl : (t.length : Int) = last + 1) (h0 : 0 ≤ m.fr) (h1 : m.fr ≤ m.to) (h2 : m.to < t.length) : rightR t.reverse (rvM last m) = rightR t m := by
  obtain ⟨fr, to, lo, hi⟩ := m
  obtain ⟨f, rfl⟩ := Int.eq_ofNat_of_zero_le h0
  obtain ⟨u, rfl⟩ := Int.eq_ofNat_of_zero_le (Int.le_trans h0 h1)
  simp only at h1 h2
  have e := rv_top (t := t) (f := f) (u := u) (by omega) (by omega)
  unfold rightR rvM
  dsimp only
  rw [show last - (u : Int) = ((t.length - 1 - u : Nat) : Int) from by omega, show last - (f : Int) = ((t.length - 1 - f : Nat) : Int) from by omega, e]
theorem listed_iff {hs : List Rg} {step : Int} {t : List Int} : listedR hs step t = true ↔ t.length = hs.length ∧ (∀ i, i < hs.length → (hs.getD i default).lo ≤ t.getD i 0 ∧ t.getD i 0 ≤ (hs.getD i default).hi) ∧ nearB step t = true := by
  unfold listedR inAt
  rw [Bool.and_eq_true, Bool.and_eq_true, List.all_eq_true, decide_eq_true_iff]
  constructor
  · rintro ⟨h1, h2, h3⟩
    exact ⟨h2, fun i hi => inB_iff.1 (h1 i (List.mem_range.2 (by omega))), h3⟩
  · rintro ⟨h2, h1, h3⟩
    exact ⟨fun i hi => inB_iff.2 (h1 i (by have := List.mem_range.1 hi; omega)), h2, h3⟩
theorem up_listed (n : Int) (hs : List Rg) (step : Int) (t : List Int) : listedR (hs.map (shR n)) step (upL n t) = listedR hs step t := by
  rw [Bool.eq_iff_iff, listed_iff, listed_iff, upL_len, List.length_map, up_near]
  refine and_congr_right fun hl => and_congr_left fun _ => ?_
  refine forall_congr' fun i => forall_congr' fun hi => ?_
  rw [shR_at hi, upL_at (by omega)]
  unfold shR
  dsimp only
  omega
theorem rv_listed {hs : List Rg} {step : Int} {t : List Int} (h : listedR hs step t = true) : listedR hs.reverse step t.reverse = true := by
  rw [listed_iff] at h ⊢
  obtain ⟨h1, h2, h3⟩ := h
  refine ⟨by rw [List.length_reverse, List.length_reverse, h1], fun i hi => ?_, rv_near h3⟩
  rw [List.length_reverse] at hi
  rw [rev_at hi, rev_at (by omega), h1]
  exact h2 _ (by omega)
theorem truths_iff {last : Int} {hs : List Rg} {step : Int} {lv : List Int} {ms : List Mk} (V : ValidT last hs step lv ms) (hm : manyR hs ≤ 2000) {t : List Int} : t ∈ truthsR hs step ms ↔ listedR hs step t = true ∧ ms.all (rightR t) = true := by
  unfold truthsR truthR
  rw [List.mem_filter, mem_listsR V.hv hm, Bool.and_eq_true]
  exact ⟨fun h => h.2, fun h => ⟨h.1, h⟩⟩
theorem up_truths {last n : Int} {hs : List Rg} {step : Int} {lv lv2 : List Int} {ms : List Mk} (V : ValidT last hs step lv ms) (V2 : ValidT last (hs.map (shR n)) step lv2 (ms.map (shM n))) (hm : manyR hs ≤ 2000) (hm2 : manyR (hs.map (shR n)) ≤ 2000) {t : List Int} : upL n t ∈ truthsR (hs.map (shR n)) step (ms.map (shM n)) ↔ t ∈ truthsR hs step ms := by
  rw [truths_iff V2 hm2, truths_iff V hm, up_listed]
  refine and_congr_right fun hl => ?_
  have e := (listed_iff.1 hl).1
  rw [List.all_map, List.all_eq_true, List.all_eq_true]
  refine forall_congr' fun m => forall_congr' fun hmm => ?_
  have := V.vt m hmm
  rw [Function.comp, up_right this.1 this.2.1 (by omega)]
theorem rv_rv {last : Int} (ms : List Mk) : (ms.map (rvM last)).map (rvM last) = ms := by
  rw [List.map_map]
  conv => rhs; rw [← List.map_id ms]
  refine List.map_congr_left fun m _ => ?_
  obtain ⟨fr, to, lo, hi⟩ := m
  simp only [Function.comp, rvM, id, Mk.mk.injEq]
  refine ⟨by omega, by omega, trivial, trivial⟩
theorem rv_truths {last : Int} {hs : List Rg} {step : Int} {lv lv2 : List Int} {ms : List Mk} (V : ValidT last hs step lv ms) (V2 : ValidT last hs.reverse step lv2 (ms.map (rvM last))) (hm : manyR hs ≤ 2000) (hm2 : manyR hs.reverse ≤ 2000) {t : List Int} (h : t ∈ truthsR hs step ms) : t.reverse ∈ truthsR hs.reverse step (ms.map (rvM last)) := by
  rw [truths_iff V hm] at h
  rw [truths_iff V2 hm2]
  refine ⟨rv_listed h.1, ?_⟩
  have e := (listed_iff.1 h.1).1
  have hn := V.n
  rw [List.all_map, List.all_eq_true]
  intro m hmm
  have := V.vt m hmm
  rw [Function.comp, rv_right (by omega) this.1 this.2.1 (by omega)]
  exact List.all_eq_true.1 h.2 m hmm
theorem rv_prod (hs : List Rg) (n : Int) : hs.reverse.foldl (fun n r => n * szR r) n = hs.foldl (fun n r => n * szR r) n := by
  induction hs generalizing n with
  | nil => rfl
  | cons r hs ih =>
    rw [List.reverse_cons, List.foldl_append, ih, List.foldl_cons, List.foldl_nil, List.foldl_cons]
    clear ih
    induction hs generalizing n with
    | nil => rfl
    | cons q hs ih =>
      rw [List.foldl_cons, List.foldl_cons, ih, show n * szR q * szR r = n * szR r * szR q from by rw [Int.mul_assoc, Int.mul_assoc, Int.mul_comm (szR q)]]
theorem rv_many {hs : List Rg} (h : Vr hs) : manyR hs.reverse = manyR hs := by
  rw [manyR_eq h, manyR_eq (fun r hr => h r (List.mem_reverse.1 hr)), prodR, prodR, rv_prod]
theorem fault_rv {last : Int} {hs : List Rg} {step : Int} {lv : List Int} {ms : List Mk} (hf : faultR last hs step lv ms = 0) : faultR last hs.reverse step lv (ms.map (rvM last)) = 0 := by
  obtain ⟨V, hm, hA⟩ := fault_zero hf
  have hn := V.n
  have h10 := V.h10
  have l6 := V.lv6
  have m5 := V.ms5
  have f1 : ¬ (9 < last ∨ 6 < lv.length ∨ 5 < ms.length) := by omega
  have f2 : ¬ (9 < last ∨ 6 < lv.length ∨ 5 < (ms.map (rvM last)).length) := by rw [List.length_map]; omega
  rw [fault_ok f1] at hf
  rw [fault_ok f2]
  have hv : validB last hs step lv ms = true := by
    by_cases h : validB last hs step lv ms = true
    · exact h
    · rw [if_neg h] at hf; exact absurd hf (by decide)
  have hv2 : validB last hs.reverse step lv (ms.map (rvM last)) = true := by
    unfold validB at hv ⊢
    simp only [Bool.and_eq_true] at hv ⊢
    refine ⟨hv.1, by rw [List.length_reverse]; exact hv.2.1, by rw [List.all_reverse]; exact hv.2.2.1, hv.2.2.2.1, hv.2.2.2.2.1, ?_⟩
    rw [List.all_map, List.all_eq_true]
    intro m hmm
    have h1 := List.all_eq_true.1 hv.2.2.2.2.2 m hmm
    have := V.vt m hmm
    unfold mkB at h1
    simp only [Function.comp, mkB, rvM]
    rw [Bool.and_eq_true, Bool.and_eq_true] at h1 ⊢
    exact ⟨inB_iff.2 (by omega), inB_iff.2 (by omega), h1.2.2⟩
  rw [if_pos hv2, rv_many V.hv, if_neg (by omega), if_pos ?_]
  obtain ⟨t, h1, h2⟩ := List.any_eq_true.1 hA
  refine List.any_eq_true.2 ⟨t.reverse, ?_, rv_near h2⟩
  have hv' : Vr hs.reverse := fun r hr => V.hv r (List.mem_reverse.1 hr)
  rw [mem_allN hv' (by rw [rv_many V.hv]; exact hm)]
  rw [mem_allN V.hv hm] at h1
  refine ⟨by rw [List.length_reverse, List.length_reverse, h1.1], fun i hi => ?_⟩
  rw [List.length_reverse] at hi
  have := h1.2 (hs.length - 1 - i) (by omega)
  unfold inAt at this ⊢
  rw [rev_at hi, rev_at (by omega), h1.1]
  exact this
theorem bdG_map {L M : List (Nat → Int)} (h0 : L ≠ []) (h0' : M ≠ []) {j k : Nat} (n : Int) (h1 : ∀ c ∈ L, ∃ e ∈ M, e k = c j + n) (h2 : ∀ e ∈ M, ∃ c ∈ L, e k = c j + n) : bdG M k = shR n (bdG L j) := by
  obtain ⟨⟨a, ha, a1⟩, b, hb, b1⟩ := bdG_at h0 j
  obtain ⟨⟨a', ha', a1'⟩, b', hb', b1'⟩ := bdG_at h0' k
  obtain ⟨ea, m1, m2⟩ := h1 a ha
  obtain ⟨eb, m3, m4⟩ := h1 b hb
  obtain ⟨ea', n1, n2⟩ := h2 a' ha'
  obtain ⟨eb', n3, n4⟩ := h2 b' hb'
  have r1 := bdG_in m1 k
  have r2 := bdG_in m3 k
  have r3 := bdG_in n1 j
  have r4 := bdG_in n3 j
  have e1 : (bdG M k).lo = (bdG L j).lo + n := by omega
  have e2 : (bdG M k).hi = (bdG L j).hi + n := by omega
  unfold shR
  rw [← e1, ← e2]
section
variable {last n : Int} {hs : List Rg} {step : Int} {lv lv2 : List Int} {ms : List Mk}
theorem up_ne (V : ValidT last hs step lv ms) (V2 : ValidT last (hs.map (shR n)) step lv2 (ms.map (shM n))) (hm : manyR hs ≤ 2000) (hm2 : manyR (hs.map (shR n)) ≤ 2000) : truthS (hs.map (shR n)) step (ms.map (shM n)) = [] ↔ truthS hs step ms = [] := by
  rw [truth_nil V2 hm2, truth_nil V hm, List.eq_nil_iff_forall_not_mem, List.eq_nil_iff_forall_not_mem]
  constructor
  · intro h t ht
    exact h _ ((up_truths V V2 hm hm2).2 ht)
  · intro h t ht
    refine h (upL (-n) t) ?_
    refine (up_truths V V2 hm hm2).1 ?_
    rw [upL_up, show -n + n = 0 from by omega, upL_zero]
    exact ht
theorem up_bd (V : ValidT last hs step lv ms) (V2 : ValidT last (hs.map (shR n)) step lv2 (ms.map (shM n))) (hm : manyR hs ≤ 2000) (hm2 : manyR (hs.map (shR n)) ≤ 2000) (h0 : truthS hs step ms ≠ []) {j : Nat} (hj : j < hs.length) : bdG (truthS (hs.map (shR n)) step (ms.map (shM n))) j = shR n (bdG (truthS hs step ms) j) := by
  refine bdG_map h0 (fun h => h0 ((up_ne V V2 hm hm2).1 h)) n (fun c hc => ?_) (fun e he => ?_)
  · obtain ⟨t, ht, rfl⟩ := (mem_truthS V hm).1 hc
    have hl := (listed_iff.1 ((truths_iff V hm).1 ht).1).1
    refine ⟨wantS (upL n t), (mem_truthS V2 hm2).2 ⟨_, (up_truths V V2 hm hm2).2 ht, rfl⟩, ?_⟩
    unfold wantS
    rw [upL_at (by omega)]
  · obtain ⟨t, ht, rfl⟩ := (mem_truthS V2 hm2).1 he
    have hl := (listed_iff.1 ((truths_iff V2 hm2).1 ht).1).1
    rw [List.length_map] at hl
    have e0 : upL n (upL (-n) t) = t := by rw [upL_up, show -n + n = 0 from by omega, upL_zero]
    refine ⟨wantS (upL (-n) t), (mem_truthS V hm).2 ⟨_, (up_truths V V2 hm hm2).1 (by rw [e0]; exact ht), rfl⟩, ?_⟩
    unfold wantS
    rw [upL_at (by omega)]
    omega
theorem rv_ne (V : ValidT last hs step lv ms) (V2 : ValidT last hs.reverse step lv2 (ms.map (rvM last))) (hm : manyR hs ≤ 2000) (hm2 : manyR hs.reverse ≤ 2000) : truthS hs.reverse step (ms.map (rvM last)) = [] ↔ truthS hs step ms = [] := by
  rw [truth_nil V2 hm2, truth_nil V hm, List.eq_nil_iff_forall_not_mem, List.eq_nil_iff_forall_not_mem]
  have V3 : ValidT last hs.reverse.reverse step lv ((ms.map (rvM last)).map (rvM last)) := by rw [rv_rv, List.reverse_reverse]; exact V
  constructor
  · intro h t ht
    exact h _ (rv_truths V V2 hm hm2 ht)
  · intro h t ht
    have := rv_truths V2 V3 hm2 (by rw [List.reverse_reverse]; exact hm) ht
    rw [rv_rv, List.reverse_reverse] at this
    exact h _ this
theorem rv_bd (V : ValidT last hs step lv ms) (V2 : ValidT last hs.reverse step lv2 (ms.map (rvM last))) (hm : manyR hs ≤ 2000) (hm2 : manyR hs.reverse ≤ 2000) (h0 : truthS hs step ms ≠ []) {j : Nat} (hj : j < hs.length) : bdG (truthS hs.reverse step (ms.map (rvM last))) (hs.length - 1 - j) = bdG (truthS hs step ms) j := by
  have V3 : ValidT last hs.reverse.reverse step lv ((ms.map (rvM last)).map (rvM last)) := by rw [rv_rv, List.reverse_reverse]; exact V
  have e := bdG_map h0 (fun h => h0 ((rv_ne V V2 hm hm2).1 h)) (j := j) (k := hs.length - 1 - j) 0 (fun c hc => ?_) (fun e he => ?_)
  · rw [e]; unfold shR; rw [Int.add_zero, Int.add_zero]
  · obtain ⟨t, ht, rfl⟩ := (mem_truthS V hm).1 hc
    have hl := (listed_iff.1 ((truths_iff V hm).1 ht).1).1
    refine ⟨wantS t.reverse, (mem_truthS V2 hm2).2 ⟨_, rv_truths V V2 hm hm2 ht, rfl⟩, ?_⟩
    unfold wantS
    rw [rev_at (by omega), hl, show hs.length - 1 - (hs.length - 1 - j) = j from by omega, Int.add_zero]
  · obtain ⟨t, ht, rfl⟩ := (mem_truthS V2 hm2).1 he
    have hl := (listed_iff.1 ((truths_iff V2 hm2).1 ht).1).1
    rw [List.length_reverse] at hl
    have h5 := rv_truths V2 V3 hm2 (by rw [List.reverse_reverse]; exact hm) ht
    rw [rv_rv, List.reverse_reverse] at h5
    refine ⟨wantS t.reverse, (mem_truthS V hm).2 ⟨_, h5, rfl⟩, ?_⟩
    unfold wantS
    rw [rev_at (by omega), hl, Int.add_zero]
theorem up_dry (V : ValidT last hs step lv ms) (V2 : ValidT last (hs.map (shR n)) step lv2 (ms.map (shM n))) (hm : manyR hs ≤ 2000) (hm2 : manyR (hs.map (shR n)) ≤ 2000) (h0 : truthS hs step ms ≠ []) (hn : 0 ≤ n) : dryT (truthS (hs.map (shR n)) step (ms.map (shM n))) 0 hs.length = dryT (truthS hs step ms) 0 hs.length + n := by
  have h1 := V.h1
  have e : ∀ k, k < hs.length → topS (truthS (hs.map (shR n)) step (ms.map (shM n))) (0 + k) = topS (truthS hs step ms) (0 + k) + n := fun k hk => by
    rw [Nat.zero_add]
    have := up_bd V V2 hm hm2 h0 hk
    exact congrArg Rg.hi this
  have hp : 0 ≤ topS (truthS hs step ms) 0 := by
    obtain ⟨_, c, hc, hc2⟩ := bdG_at h0 0
    obtain ⟨t, ht, rfl⟩ := (mem_truthS V hm).1 hc
    have := (truth_hts V hm ht (h := 0) (by omega)).1
    show 0 ≤ (bdG (truthS hs step ms) 0).hi
    rw [← hc2]
    exact this
  refine le_all fun v => ?_
  rw [dryT_le, show (dryT (truthS hs step ms) 0 hs.length + n ≤ v) ↔ dryT (truthS hs step ms) 0 hs.length ≤ v - n from by omega, dryT_le]
  constructor
  · rintro ⟨_, h⟩
    have hz := h 0 (by omega)
    rw [e 0 (by omega), Nat.zero_add] at hz
    refine ⟨by omega, fun k hk => ?_⟩
    have := h k hk
    rw [e k hk] at this
    omega
  · rintro ⟨h2, h⟩
    refine ⟨by omega, fun k hk => ?_⟩
    have := h k hk
    rw [e k hk]
    omega
theorem up_wet {t : List Int} (hl : (t.length : Int) = last + 1) : wetsR (upL n lv) (wantS (upL n t)) last = wetsR lv (wantS t) last := by
  unfold wetsR
  rw [upL_len]
  refine List.map_congr_left fun row hr => ?_
  have hr := List.mem_range.1 hr
  unfold wetR
  refine List.filter_congr fun h hh => ?_
  unfold hrs at hh
  obtain ⟨k, hk, rfl⟩ := List.mem_map.1 hh
  have hk := List.mem_range.1 hk
  unfold wetB wantS
  rw [upL_at hr, Int.toNat_natCast, upL_at (by omega), Bool.eq_iff_iff, decide_eq_true_iff, decide_eq_true_iff]
  omega
end
end Go.Ev

namespace Go.Ev
open Go.Proofs
set_option maxRecDepth 100000
/-! ### TideShifted: the last part -/
theorem c_between (a b : Int) : PureF Try.prog p51.ix [.i .i64 a, .i .i64 b] (.ag [.i .i64 a, .i .i64 b]) := by
  refine PureF.run fn50 (by simp) (by simp [PuL, PuE, Pu]) ?_; conv => whnf
  repeat' first | ((first | (with_reducible first | apply WB.tt | apply WB.ff) | apply Rn.seq | apply Rn.reg | apply Rn.drw | apply Rn.blk | apply Rn.skip | apply Rn.ret | apply Rn.exit | apply Rn.cond rfl | refine i64_ (by omega) (by omega) ?_ | refine ne0_ (by omega) ?_ | refine WIx.intsN (by omega) ?_ | refine WIx.rowsN (by omega) ?_) <;> conv => whnf)
  exact ⟨.inr rfl, _, rfl, .pu (by simp [Pu, PuL, one])⟩
def seqS : RC → RC
  | .seq _ b => b
  | c => c
def seqT : Nat → RC → RC
  | 0, c => c
  | n + 1, c => seqT n (seqS c)
noncomputable def rc16P : RC := seqT 22 rc16
def shPZ (last : Int) (hs hs2 : List Rg) (step : Int) (lv lv2 : List Int) (ms ms2 : List Mk) (s u : List Int) : X := ⟨(.n (.n (.n .e (some (.pt .h 0 0)) .e) none (.n .e none (.n .e none (.n .e (some (.lst 1 (ints u))) .e)))) none (.n (.n (.n .e (some (.pt (.o .h) 0 0)) .e) none (.n .e none (.n .e (some (.lst 1 (ints s))) .e))) none .e)), (.n (.n .e (some (tabC last hs2 step lv2 ms2)) .e) (some (tabC last hs step lv ms)) .e), .o (.o .h), none⟩
set_option maxHeartbeats 8000000 in
theorem c_shP (last : Int) (hs hs2 : List Rg) (step : Int) (lv lv2 : List Int) (ms ms2 : List Mk) (s u : List Int) (W : List (List Int)) (hW : W.length = lv.length) (hr : ∀ r ∈ W, r.length ≤ 1000) (h6 : lv.length ≤ 6) (sl : s.length ≤ 1000)
    (iT : PureF Try.prog p23.ix [.ag [.i .i64 last, .lst 2 (rows rgD hs), .i .i64 step, .lst 1 (ints lv), .lst 4 (rows mkD ms)]] (.ag [.i .i64 last, .lst 2 (rows rgD hs), .i .i64 step, .lst 1 (ints lv), .lst 4 (rows mkD ms)]))
    (iX : PureF Try.prog p23.ix [.ag [.i .i64 last, .lst 2 (rows rgD hs2), .i .i64 step, .lst 1 (ints lv2), .lst 4 (rows mkD ms2)]] (.ag [.i .i64 last, .lst 2 (rows rgD hs2), .i .i64 step, .lst 1 (ints lv2), .lst 4 (rows mkD ms2)]))
    (iP : PureF Try.prog p22.ix [.ag [.i .i64 last, .lst 2 (rows rgD hs), .i .i64 step, .lst 1 (ints lv), .lst 4 (rows mkD ms)], .lst 1 (ints s)] (.tp [.lst 1 (rows tD W), .i .i64 0]))
    (iQ : PureF Try.prog p22.ix [.ag [.i .i64 last, .lst 2 (rows rgD hs2), .i .i64 step, .lst 1 (ints lv2), .lst 4 (rows mkD ms2)], .lst 1 (ints u)] (.tp [.lst 1 (rows tD W), .i .i64 0]))
    (AW : PureF Try.prog p21.ix [] (.b true)) : Rn Try.prog 361 rc16P (shPZ last hs hs2 step lv lv2 ms ms2 s u) (Fin rs16 (.b true)) := by
  have iL := c_list s (by omega)
  have eW := rows_length tD W
  have eL := ints_length lv
  conv => whnf
  repeat' first | ((first | (with_reducible first | apply WB.tt | apply WB.ff) | apply Rn.seq | apply Rn.reg | apply Rn.drw | apply Rn.blk | apply Rn.skip | apply Rn.ret | apply Rn.exit | apply Rn.cond rfl | refine i64_ (by omega) (by omega) ?_ | refine ne0_ (by omega) ?_ | refine WIx.intsN (by omega) ?_ | refine WIx.rowsN (by omega) ?_ | refine WCall.pure (iT) ?_ | refine WCall.pure (iL) ?_ | refine WCall.pure (iP) ?_ | refine WCall.pure (iX) ?_ | refine WCall.pure (iQ) ?_ | (with_reducible first | refine WB.decT (by first | rfl | assumption | omega | exact ⟨rfl, rfl⟩) ?_ | refine WB.decF (by first | assumption | omega) ?_ | refine WB.ndT (by first | rfl | assumption | omega | exact ⟨rfl, rfl⟩) ?_ | refine WB.ndF (by first | assumption | omega) ?_ | apply WB.nt | apply WB.nf | refine WB.dec (fun h => ?_) (fun h => ?_) | refine WB.ndec (fun h => ?_) (fun h => ?_)) | refine WB.mk (fun h => ?_) (fun h => ?_)) <;> conv => whnf) | (refine WB.tt ?_; conv => whnf) | (refine WB.ff ?_; conv => whnf)
  all_goals try (exfalso; omega)
  all_goals try exact absurd h (by decide)
  all_goals
    refine Rn.loop (fun j : Nat => ⟨(.n (.n (.n (.n (.n (.n .e (some (.lst 1 (rows tD W))) .e) none .e) none .e) none (.n (.n (.n .e (some (.i .i64 (j : Int))) .e) none .e) none .e)) none (.n (.n (.n (.n .e (some (.lst 1 (rows tD W))) .e) none .e) none .e) none .e)) none .e), (.n .e (some (tabC last hs step lv ms)) .e), .o (.o .h), none⟩) (fun j => j ≤ W.length) (fun j => W.length - j) 0 ?_ ?_ ?_
    · (first | (refine X.le.mk ?_ ?_ (Nat.le_refl _) rfl rfl) | skip) <;> (repeat' first | exact T.le_e _ | refine T.le_some ?_ ?_ ?_ | refine T.le_none ?_ ?_ | rfl)
    · exact Nat.zero_le _
    intro j hj
    have hj : j ≤ W.length := hj
    conv => whnf
    repeat' first | ((first | (with_reducible first | apply WB.tt | apply WB.ff) | apply Rn.seq | apply Rn.reg | apply Rn.drw | apply Rn.blk | apply Rn.skip | apply Rn.ret | apply Rn.exit | apply Rn.cond rfl | refine i64_ (by omega) (by omega) ?_ | refine ne0_ (by omega) ?_ | refine WIx.intsN (by omega) ?_ | refine WIx.rowsN (by omega) ?_) <;> conv => whnf)
    refine WB.dec (fun h => ?_) (fun h => ?_) <;> conv => whnf
    · have hlt : j < W.length := by omega
      have iS : PureF Try.prog p30.ix [.lst 1 (ints (W.getD j default)), .lst 1 (ints (W.getD j default))] (.b true) := by
        have h9 := c_same (W.getD j default) (W.getD j default) (hr _ (getD_mem hlt))
        rwa [decide_eq_true rfl] at h9
      repeat' first | ((first | (with_reducible first | apply WB.tt | apply WB.ff) | apply Rn.seq | apply Rn.reg | apply Rn.drw | apply Rn.blk | apply Rn.skip | apply Rn.ret | apply Rn.exit | apply Rn.cond rfl | refine i64_ (by omega) (by omega) ?_ | refine ne0_ (by omega) ?_ | refine WIx.intsN (by omega) ?_ | refine WIx.rowsN (by omega) ?_ | refine WCall.pure (iS) ?_ | (with_reducible first | refine WB.decT (by first | rfl | assumption | omega | exact ⟨rfl, rfl⟩) ?_ | refine WB.decF (by first | assumption | omega) ?_ | refine WB.ndT (by first | rfl | assumption | omega | exact ⟨rfl, rfl⟩) ?_ | refine WB.ndF (by first | assumption | omega) ?_ | apply WB.nt | apply WB.nf | refine WB.dec (fun h => ?_) (fun h => ?_) | refine WB.ndec (fun h => ?_) (fun h => ?_)) | refine WB.mk (fun h => ?_) (fun h => ?_)) <;> conv => whnf) | (refine WB.tt ?_; conv => whnf) | (refine WB.ff ?_; conv => whnf)
      all_goals try (exfalso; omega)
      all_goals
        refine Again.to (j + 1) (by omega) (by omega) (Nat.le_refl _) ?_
        refine Shr.of ?_ ?_ rfl rfl
        · show Rel _ _ ((.n (.n (.n (.n (.n (.n .e (some (.lst 1 (rows tD W))) .e) none .e) none .e) none (.n (.n (.n .e (some (.i .i64 ((j + 1 : Nat) : Int))) .e) none .e) none .e)) none (.n (.n (.n (.n .e (some (.lst 1 (rows tD W))) .e) none .e) none .e) none .e)) none .e) : T D) _
          (repeat' first | exact Rel.e | refine Rel.some ?_ ?_ ?_ | refine Rel.none ?_ ?_ | refine Rel.ee ?_ ?_)
          all_goals show Fz _ _ _ _
          all_goals first | exact .pu trivial | exact .pu (pu_tR _)
        · show Rel _ _ ((.n .e (some (tabC last hs step lv ms)) .e) : T C) _
          (repeat' first | exact Rel.e | refine Rel.some ?_ ?_ ?_ | refine Rel.none ?_ ?_ | refine Rel.ee ?_ ?_)
          exact RO'.of (show _ < 4 by simp [Pos.nat]) (tabC_sh last hs step lv ms)
    · repeat' first | ((first | (with_reducible first | apply WB.tt | apply WB.ff) | apply Rn.seq | apply Rn.reg | apply Rn.drw | apply Rn.blk | apply Rn.skip | apply Rn.ret | apply Rn.exit | apply Rn.cond rfl | refine i64_ (by omega) (by omega) ?_ | refine ne0_ (by omega) ?_ | refine WIx.intsN (by omega) ?_ | refine WIx.rowsN (by omega) ?_ | refine WCall.pure (AW) ?_ | (with_reducible first | refine WB.decT (by first | rfl | assumption | omega | exact ⟨rfl, rfl⟩) ?_ | refine WB.decF (by first | assumption | omega) ?_ | refine WB.ndT (by first | rfl | assumption | omega | exact ⟨rfl, rfl⟩) ?_ | refine WB.ndF (by first | assumption | omega) ?_ | apply WB.nt | apply WB.nf | refine WB.dec (fun h => ?_) (fun h => ?_) | refine WB.ndec (fun h => ?_) (fun h => ?_)) | refine WB.mk (fun h => ?_) (fun h => ?_)) <;> conv => whnf) | (refine WB.tt ?_; conv => whnf) | (refine WB.ff ?_; conv => whnf)
      all_goals first | exact Fin.b rfl rfl | (exfalso; omega)
end Go.Ev

namespace Go.Ev
open Go.Proofs
set_option maxRecDepth 100000
/-! ### TideShifted: the list that is higher -/
noncomputable def rc16U : RC := seqT 18 rc16
def slU : List Int → D
  | [] => .ns
  | _ :: s => .sl (.i (.o .h)) 0 (s.length + 1) s.length 1
def blU : List Int → Option C
  | [] => none
  | a :: s => some (.cells false ((nD (a :: s)).map fun d => Cell.o d s.length) (s.length + 1))
def nxU : List Int → Pos
  | [] => .o (.o .h)
  | _ :: _ => .o (.i .h)
theorem blU_snoc (a : Int) (s : List Int) (x : Int) : blU (a :: (s ++ [x])) = some (.cells false ((nD (a :: s) ++ [D.i .i64 x]).map fun d => Cell.o d (s.length + 1)) (s.length + 1 + 1)) := by
  simp [blU, nD]
theorem slU_snoc (a : Int) (s : List Int) (x : Int) : slU (a :: (s ++ [x])) = .sl (.i (.o .h)) 0 (s.length + 1 + 1) (s.length + 1) 1 := by
  simp [slU]
def shUZ (last : Int) (hs hs2 : List Rg) (step : Int) (lv lv2 : List Int) (ms ms2 : List Mk) (which n : Int) : X := ⟨(.n (.n (.n (.n .e (some (.i .i64 n)) .e) (some (.pt .h 0 0)) .e) none .e) none (.n (.n (.n .e (some (.pt (.o .h) 0 0)) .e) none .e) (some (.i .u16 which)) .e)), (.n (.n .e (some (tabC last hs2 step lv2 ms2)) .e) (some (tabC last hs step lv ms)) .e), .o (.o .h), none⟩
def shUL (last : Int) (hs hs2 : List Rg) (step : Int) (lv lv2 : List Int) (ms ms2 : List Mk) (n : Int) (s : List Int) (A : List Int) (j : Nat) : X := ⟨(.n (.n (.n (.n .e (some (.i .i64 n)) .e) (some (.pt .h 0 0)) .e) none (.n .e none (.n .e none (.n .e (some (slU A)) .e)))) none (.n (.n (.n .e (some (.pt (.o .h) 0 0)) .e) none (.n .e none (.n .e (some (.lst 1 (ints s))) .e))) none (.n .e none (.n .e none (.n .e (some (.i .i64 (j : Int))) .e))))), .n (.n .e (some (tabC last hs2 step lv2 ms2)) (.n .e none .e)) (some (tabC last hs step lv ms)) (.n (.n .e (blU A) .e) none .e), nxU A, none⟩
set_option maxHeartbeats 8000000 in
theorem c_shU (last : Int) (hs hs2 : List Rg) (step : Int) (lv lv2 : List Int) (ms ms2 : List Mk) (which n : Int) (hn : 0 ≤ n ∧ n ≤ 29) (w1 : 0 ≤ which ∧ which ≤ 65535) (hv : Vr hs) (h10 : hs.length ≤ 10) (h1 : 1 ≤ hs.length) (q : Nat) (hq : which.tmod ((listsR hs step).length : Int) = (q : Int)) (hql : q < (listsR hs step).length) (s : List Int) (hs' : (listsR hs step).getD q default = s) (hsl : s.length = hs.length) (hts : Hts s)
    (hrest : Rn Try.prog 361 rc16P (shPZ last hs hs2 step lv lv2 ms ms2 s (upL n s)) (Fin rs16 (.b true))) : Rn Try.prog 361 rc16U (shUZ last hs hs2 step lv lv2 ms ms2 which n) (Fin rs16 (.b true)) := by
  have iL := c_Lists last hs step lv ms hv (by omega)
  have el := rows_length tD (listsR hs step)
  have e1 := ints_length s
  conv => whnf
  repeat' first | ((first | (with_reducible first | apply WB.tt | apply WB.ff) | apply Rn.seq | apply Rn.reg | apply Rn.drw | apply Rn.blk | apply Rn.skip | apply Rn.ret | apply Rn.exit | apply Rn.cond rfl | refine i64_ (by omega) (by omega) ?_ | refine ne0_ (by omega) ?_ | refine WIx.intsN (by omega) ?_ | refine WIx.rowsN (by omega) ?_ | refine WCall.pure (iL) ?_ | (with_reducible first | refine WB.decT (by first | rfl | assumption | omega | exact ⟨rfl, rfl⟩) ?_ | refine WB.decF (by first | assumption | omega) ?_ | refine WB.ndT (by first | rfl | assumption | omega | exact ⟨rfl, rfl⟩) ?_ | refine WB.ndF (by first | assumption | omega) ?_ | apply WB.nt | apply WB.nf | refine WB.dec (fun h => ?_) (fun h => ?_) | refine WB.ndec (fun h => ?_) (fun h => ?_)) | refine WB.mk (fun h => ?_) (fun h => ?_)) <;> conv => whnf) | (refine WB.tt ?_; conv => whnf) | (refine WB.ff ?_; conv => whnf)
  rw [el, hq]
  refine WIx.rowsN hql ?_; conv => whnf
  rw [hs']
  conv => whnf
  refine Rn.far rfl ?_
  refine RnF.seq ?_; conv => whnf
  refine Rn.reg ?_; conv => whnf
  refine ⟨rfl, rfl, (show 4 ≤ 4 by omega), ?_⟩
  refine RnF.seq ?_; conv => whnf
  repeat' first | ((first | (with_reducible first | apply WB.tt | apply WB.ff) | apply Rn.seq | apply Rn.reg | apply Rn.drw | apply Rn.blk | apply Rn.skip | apply Rn.ret | apply Rn.exit | apply Rn.cond rfl | refine i64_ (by omega) (by omega) ?_ | refine ne0_ (by omega) ?_ | refine WIx.intsN (by omega) ?_ | refine WIx.rowsN (by omega) ?_) <;> conv => whnf)
  refine Rn.loop (fun j : Nat => shUL last hs hs2 step lv lv2 ms ms2 n s ((upL n s).take j) j) (fun j => j ≤ s.length) (fun j => s.length - j) 0 ?_ ?_ ?_
  · refine X.le.mk ?_ ?_ (Nat.le_refl _) rfl rfl
    · show T.le ((.n (.n (.n (.n .e (some (.i .i64 n)) .e) (some (.pt .h 0 0)) .e) none (.n .e none (.n .e none (.n .e (some (.ns)) .e)))) none (.n (.n (.n .e (some (.pt (.o .h) 0 0)) .e) none (.n .e none (.n .e (some (.lst 1 (ints s))) .e))) none (.n .e none (.n .e none (.n .e (some (.i .i64 0)) .e))))) : T D) _
      (repeat' first | exact T.le_e _ | refine T.le_some ?_ rfl ?_ | refine T.le_none ?_ ?_)
    · show T.le (.n (.n .e (some (tabC last hs2 step lv2 ms2)) (.n .e none .e)) (some (tabC last hs step lv ms)) (.n (.n .e none .e) none .e)) _
      (repeat' first | exact T.le_e _ | refine T.le_some ?_ rfl ?_ | refine T.le_none ?_ ?_ | refine T.le_ee ?_ ?_)
  · exact Nat.zero_le _
  intro j hj
  have hj : j ≤ s.length := hj
  have hul := upL_len n s
  have hAl : ((upL n s).take j).length = j := by rw [List.length_take]; omega
  have hend : j = s.length → (upL n s).take j = upL n s := fun e => List.take_of_length_le (by omega)
  have hnext : j < s.length → (upL n s).take (j + 1) = (upL n s).take j ++ [s.getD j 0 + n] := fun h => by
    rw [take_succ_getD (d := 0) (by omega), upL_at h]
  generalize hA : (upL n s).take j = A at *
  conv => whnf
  repeat' first | ((first | (with_reducible first | apply WB.tt | apply WB.ff) | apply Rn.seq | apply Rn.reg | apply Rn.drw | apply Rn.blk | apply Rn.skip | apply Rn.ret | apply Rn.exit | apply Rn.cond rfl | refine i64_ (by omega) (by omega) ?_ | refine ne0_ (by omega) ?_ | refine WIx.intsN (by omega) ?_ | refine WIx.rowsN (by omega) ?_) <;> conv => whnf)
  refine WB.dec (fun h => ?_) (fun h => ?_) <;> conv => whnf
  · have hlt : j < s.length := by omega
    have hnext := hnext hlt
    have hb := hts.at j
    cases A with
    | nil =>
      repeat' first | ((first | (with_reducible first | apply WB.tt | apply WB.ff) | apply Rn.seq | apply Rn.reg | apply Rn.drw | apply Rn.blk | apply Rn.skip | apply Rn.ret | apply Rn.exit | apply Rn.cond rfl | refine i64_ (by omega) (by omega) ?_ | refine ne0_ (by omega) ?_ | refine WIx.intsN (by omega) ?_ | refine WIx.rowsN (by omega) ?_) <;> conv => whnf)
      refine WSt.app_first (r := [_]) (by rfl) (.inl rfl) (by rfl) (by rfl) (by rfl) (by rfl) ?_; conv => whnf
      repeat' first | ((first | (with_reducible first | apply WB.tt | apply WB.ff) | apply Rn.seq | apply Rn.reg | apply Rn.drw | apply Rn.blk | apply Rn.skip | apply Rn.ret | apply Rn.exit | apply Rn.cond rfl | refine i64_ (by omega) (by omega) ?_ | refine ne0_ (by omega) ?_ | refine WIx.intsN (by omega) ?_ | refine WIx.rowsN (by omega) ?_) <;> conv => whnf)
      refine Again.to (j + 1) (by omega) (by omega) (by show (nxU ((upL n s).take j)).nat ≤ (nxU ((upL n s).take (j + 1))).nat; rw [hA, hnext]; exact (show 4 ≤ 6 by omega)) ?_
      show Shr _ (shUL last hs hs2 step lv lv2 ms ms2 n s ((upL n s).take (j + 1)) (j + 1))
      rw [hnext]
      refine Shr.of ?_ ?_ rfl rfl
      · show Rel _ _ ((.n (.n (.n (.n .e (some (.i .i64 n)) .e) (some (.pt .h 0 0)) .e) none (.n .e none (.n .e none (.n .e (some (.sl (.i (.o .h)) 0 1 0 1)) .e)))) none (.n (.n (.n .e (some (.pt (.o .h) 0 0)) .e) none (.n .e none (.n .e (some (.lst 1 (ints s))) .e))) none (.n .e none (.n .e none (.n .e (some (.i .i64 ((j + 1 : Nat) : Int))) .e))))) : T D) _
        (repeat' first | exact Rel.e | refine Rel.some ?_ ?_ ?_ | refine Rel.none ?_ ?_ | refine Rel.ee ?_ ?_)
        all_goals show Fz _ _ _ _
        all_goals first | exact .pu trivial | exact .pu (pu_ints _) | exact .kpt (show _ < 6 by simp [Pos.nat]) | exact .ksl (show _ < 6 by simp [Pos.nat])
      · show Rel _ _ (.n (.n .e (some (tabC last hs2 step lv2 ms2)) (.n .e none .e)) (some (tabC last hs step lv ms)) (.n (.n .e (some (.cells false [.o (.i .i64 (s.getD j 0 + n)) 0] 1)) .e) none .e)) _
        (repeat' first | exact Rel.e | refine Rel.some ?_ ?_ ?_ | refine Rel.none ?_ ?_ | refine Rel.ee ?_ ?_)
        all_goals first
          | exact RO'.of (show _ < 6 by simp [Pos.nat]) (tabC_sh last hs step lv ms)
          | exact RO'.of (show _ < 6 by simp [Pos.nat]) (tabC_sh last hs2 step lv2 ms2)
          | exact RO'.of (show _ < 6 by simp [Pos.nat]) (ShC.same (ShC.cn (.pu trivial) ShC.nl))
    | cons a A =>
      have hs5 : A.length + 1 ≤ 10 := by have : A.length + 1 = j := hAl; omega
      repeat' first | ((first | (with_reducible first | apply WB.tt | apply WB.ff) | apply Rn.seq | apply Rn.reg | apply Rn.drw | apply Rn.blk | apply Rn.skip | apply Rn.ret | apply Rn.exit | apply Rn.cond rfl | refine i64_ (by omega) (by omega) ?_ | refine ne0_ (by omega) ?_ | refine WIx.intsN (by omega) ?_ | refine WIx.rowsN (by omega) ?_) <;> conv => whnf)
      refine WSt.app_one (id := .i (.o .h)) (st := A.length) (len := A.length + 1) (cur := A.length + 1) (ds := nD (a :: A)) (r := [_]) (by rfl) (by rfl) (by rfl) (by rfl) (by rfl) (by rfl) (by simp [nD]) (by rfl) (by rfl) (by omega) (by rfl) ?_; conv => whnf
      repeat' first | ((first | (with_reducible first | apply WB.tt | apply WB.ff) | apply Rn.seq | apply Rn.reg | apply Rn.drw | apply Rn.blk | apply Rn.skip | apply Rn.ret | apply Rn.exit | apply Rn.cond rfl | refine i64_ (by omega) (by omega) ?_ | refine ne0_ (by omega) ?_ | refine WIx.intsN (by omega) ?_ | refine WIx.rowsN (by omega) ?_) <;> conv => whnf)
      refine Again.to (j + 1) (by omega) (by omega) (by show (nxU ((upL n s).take j)).nat ≤ (nxU ((upL n s).take (j + 1))).nat; rw [hA, hnext]; exact (show 6 ≤ 6 by omega)) ?_
      show Shr _ (shUL last hs hs2 step lv lv2 ms ms2 n s ((upL n s).take (j + 1)) (j + 1))
      rw [hnext, List.cons_append]
      refine Shr.of ?_ ?_ rfl rfl
      · show Rel _ _ ((.n (.n (.n (.n .e (some (.i .i64 n)) .e) (some (.pt .h 0 0)) .e) none (.n .e none (.n .e none (.n .e (some (slU (a :: (A ++ [s.getD j 0 + n])))) .e)))) none (.n (.n (.n .e (some (.pt (.o .h) 0 0)) .e) none (.n .e none (.n .e (some (.lst 1 (ints s))) .e))) none (.n .e none (.n .e none (.n .e (some (.i .i64 ((j + 1 : Nat) : Int))) .e))))) : T D) _
        rw [slU_snoc]
        (repeat' first | exact Rel.e | refine Rel.some ?_ ?_ ?_ | refine Rel.none ?_ ?_ | refine Rel.ee ?_ ?_)
        all_goals show Fz _ _ _ _
        all_goals first | exact .pu trivial | exact .pu (pu_ints _) | exact .kpt (show _ < 6 by simp [Pos.nat]) | exact .ksl (show _ < 6 by simp [Pos.nat])
      · show Rel _ _ (.n (.n .e (some (tabC last hs2 step lv2 ms2)) (.n .e none .e)) (some (tabC last hs step lv ms)) (.n (.n .e (blU (a :: (A ++ [s.getD j 0 + n]))) .e) none .e)) _
        rw [blU_snoc]
        (repeat' first | exact Rel.e | refine Rel.some ?_ ?_ ?_ | refine Rel.none ?_ ?_ | refine Rel.ee ?_ ?_)
        all_goals first
          | exact RO'.of (show _ < 6 by simp [Pos.nat]) (tabC_sh last hs step lv ms)
          | exact RO'.of (show _ < 6 by simp [Pos.nat]) (tabC_sh last hs2 step lv2 ms2)
          | (refine RO'.of (show _ < 6 by simp [Pos.nat]) ?_
             exact ShC.grownF (by omega) (pu_nD _) (.pu trivial))
  · have he := hend (by omega)
    cases A with
    | nil =>
      have : (upL n s).length = 0 := by rw [← he]; rfl
      exfalso; omega
    | cons a A =>
      repeat' first | ((first | (with_reducible first | apply WB.tt | apply WB.ff) | apply Rn.seq | apply Rn.reg | apply Rn.drw | apply Rn.blk | apply Rn.skip | apply Rn.ret | apply Rn.exit | apply Rn.cond rfl | refine i64_ (by omega) (by omega) ?_ | refine ne0_ (by omega) ?_ | refine WIx.intsN (by omega) ?_ | refine WIx.rowsN (by omega) ?_) <;> conv => whnf)
      refine ⟨rfl, rfl, (show 4 ≤ 6 by omega), RnF.turn (z' := shPZ last hs hs2 step lv lv2 ms ms2 s (upL n s)) (B := fun id => id.nat < 4) ?_ (fun id h => h) (fun id h => h) (show 4 ≤ 4 by omega) hrest⟩
      refine ShrB.of ?_ ?_ rfl rfl
      · show Rel _ _ ((.n (.n (.n .e (some (.pt .h 0 0)) .e) none (.n .e none (.n .e none (.n .e (some (.lst 1 (ints (upL n s)))) .e)))) none (.n (.n (.n .e (some (.pt (.o .h) 0 0)) .e) none (.n .e none (.n .e (some (.lst 1 (ints s))) .e))) none .e)) : T D) _
        rw [← he]
        (repeat' first | exact Rel.e | refine Rel.some ?_ ?_ ?_ | refine Rel.none ?_ ?_ | refine Rel.ee ?_ ?_)
        all_goals show Fz _ _ _ _
        all_goals first
          | exact .pu (pu_ints _)
          | exact .kpt (show _ < 4 by simp [Pos.nat])
          | exact Fz.whole (cs := (nD (a :: A)).map fun d => Cell.o d A.length) (cur := A.length + 1) (show ¬ 5 < 4 by omega) (by rfl) (by simp [ints]) (ints_one _) (by rw [ints_flatten]; rfl) (pu_ints _)
      · show Rel _ _ ((.n (.n .e (some (tabC last hs2 step lv2 ms2)) .e) (some (tabC last hs step lv ms)) .e) : T C) _
        (repeat' first | exact Rel.e | refine Rel.some ?_ ?_ ?_ | refine Rel.none ?_ ?_ | refine Rel.ee ?_ ?_)
        all_goals first
          | exact ⟨show _ < 4 by simp [Pos.nat], tabC_sh last hs step lv ms⟩
          | exact ⟨show _ < 4 by simp [Pos.nat], tabC_sh last hs2 step lv2 ms2⟩
end Go.Ev

namespace Go.Ev
open Go.Proofs
set_option maxRecDepth 100000
/-! ### TideShifted: the three tables compared -/
noncomputable def rc16R : RC := seqT 8 rc16
def shRZ (last : Int) (hs hs2 hs3 : List Rg) (step : Int) (lv lv2 : List Int) (ms ms2 ms3 : List Mk) (which n : Int) : X := ⟨(.n (.n (.n (.n .e (some (.i .i64 n)) .e) (some (.pt .h 0 0)) .e) none (.n (.n .e (some (.pt (.i .h) 0 0)) .e) none .e)) none (.n (.n (.n .e (some (.pt (.o .h) 0 0)) .e) none .e) (some (.i .u16 which)) .e)), (.n (.n .e (some (tabC last hs2 step lv2 ms2)) .e) (some (tabC last hs step lv ms)) (.n .e (some (tabC last hs3 step lv ms3)) .e)), .o (.o .h), none⟩
set_option maxHeartbeats 8000000 in
theorem c_shR (last : Int) (hs hs2 hs3 : List Rg) (step : Int) (lv lv2 : List Int) (ms ms2 ms3 : List Mk) (which n : Int) (hn : 0 ≤ n ∧ n ≤ 29)
    (iT : PureF Try.prog p23.ix [.ag [.i .i64 last, .lst 2 (rows rgD hs), .i .i64 step, .lst 1 (ints lv), .lst 4 (rows mkD ms)]] (.ag [.i .i64 last, .lst 2 (rows rgD hs), .i .i64 step, .lst 1 (ints lv), .lst 4 (rows mkD ms)]))
    (iX : PureF Try.prog p23.ix [.ag [.i .i64 last, .lst 2 (rows rgD hs2), .i .i64 step, .lst 1 (ints lv2), .lst 4 (rows mkD ms2)]] (.ag [.i .i64 last, .lst 2 (rows rgD hs2), .i .i64 step, .lst 1 (ints lv2), .lst 4 (rows mkD ms2)]))
    (iY : PureF Try.prog p23.ix [.ag [.i .i64 last, .lst 2 (rows rgD hs3), .i .i64 step, .lst 1 (ints lv), .lst 4 (rows mkD ms3)]] (.ag [.i .i64 last, .lst 2 (rows rgD hs3), .i .i64 step, .lst 1 (ints lv), .lst 4 (rows mkD ms3)]))
    (A Cl : List Rg) (E d : Int) (hE0 : E = 0 ∨ E = 11) (hd : 0 ≤ d ∧ d ≤ 99) (hAb : ∀ r ∈ A, 0 ≤ r.lo ∧ r.lo ≤ 99 ∧ 0 ≤ r.hi ∧ r.hi ≤ 99) (hAl : A.length ≤ 10) (hC : Cl.length = A.length) (hCA : ∀ j, j < A.length → Cl.getD (A.length - 1 - j) default = A.getD j default)
    (iB : PureF Try.prog p32.ix [.ag [.i .i64 last, .lst 2 (rows rgD hs), .i .i64 step, .lst 1 (ints lv), .lst 4 (rows mkD ms)]] (.tp [.lst 2 (rows rgD A), .i .i64 E]))
    (iC : PureF Try.prog p32.ix [.ag [.i .i64 last, .lst 2 (rows rgD hs3), .i .i64 step, .lst 1 (ints lv), .lst 4 (rows mkD ms3)]] (.tp [.lst 2 (rows rgD Cl), .i .i64 E]))
    (iD : PureF Try.prog p41.ix [.ag [.i .i64 last, .lst 2 (rows rgD hs), .i .i64 step, .lst 1 (ints lv), .lst 4 (rows mkD ms)], .i .i64 0, .i .i64 last] (.tp [.i .i64 d, .i .i64 E]))
    (hx : readyB last hs2 step lv2 ms2 = true → ∃ (B : List Rg) (k : Int), PureF Try.prog p32.ix [.ag [.i .i64 last, .lst 2 (rows rgD hs2), .i .i64 step, .lst 1 (ints lv2), .lst 4 (rows mkD ms2)]] (.tp [.lst 2 (rows rgD B), .i .i64 E]) ∧
      PureF Try.prog p41.ix [.ag [.i .i64 last, .lst 2 (rows rgD hs2), .i .i64 step, .lst 1 (ints lv2), .lst 4 (rows mkD ms2)], .i .i64 0, .i .i64 last] (.tp [.i .i64 k, .i .i64 E]) ∧ B.length = A.length ∧ (∀ j, j < A.length → B.getD j default = shR n (A.getD j default)) ∧ (E = 0 ∧ k = d + n ∨ E = 11) ∧
      Rn Try.prog 361 rc16U (shUZ last hs hs2 step lv lv2 ms ms2 which n) (Fin rs16 (.b true)))
    (AW : PureF Try.prog p21.ix [] (.b true)) : Rn Try.prog 361 rc16R (shRZ last hs hs2 hs3 step lv lv2 ms ms2 ms3 which n) (Fin rs16 (.b true)) := by
  have iR := c_ready last hs2 step lv2 ms2
  have eA := rows_length rgD A
  have eC := rows_length rgD Cl
  conv => whnf
  repeat' first | ((first | (with_reducible first | apply WB.tt | apply WB.ff) | apply Rn.seq | apply Rn.reg | apply Rn.drw | apply Rn.blk | apply Rn.skip | apply Rn.ret | apply Rn.exit | apply Rn.cond rfl | refine i64_ (by omega) (by omega) ?_ | refine ne0_ (by omega) ?_ | refine WIx.intsN (by omega) ?_ | refine WIx.rowsN (by omega) ?_ | refine WCall.pure (iT) ?_ | refine WCall.pure (iB) ?_ | refine WCall.pure (iY) ?_ | refine WCall.pure (iC) ?_ | (with_reducible first | refine WB.decT (by first | rfl | assumption | omega | exact ⟨rfl, rfl⟩) ?_ | refine WB.decF (by first | assumption | omega) ?_ | refine WB.ndT (by first | rfl | assumption | omega | exact ⟨rfl, rfl⟩) ?_ | refine WB.ndF (by first | assumption | omega) ?_ | apply WB.nt | apply WB.nf | refine WB.dec (fun h => ?_) (fun h => ?_) | refine WB.ndec (fun h => ?_) (fun h => ?_)) | refine WB.mk (fun h => ?_) (fun h => ?_)) <;> conv => whnf) | (refine WB.tt ?_; conv => whnf) | (refine WB.ff ?_; conv => whnf)
  all_goals try (exfalso; omega)
  all_goals try exact absurd h (by decide)
  all_goals
    refine Rn.loop (fun j : Nat => ⟨(.n (.n (.n (.n (.n .e (some (.lst 2 (rows rgD A))) .e) (some (.i .i64 n)) .e) (some (.pt .h 0 0)) (.n (.n .e (some (.i .i64 (j : Int))) .e) none .e)) none (.n (.n (.n .e (some (.lst 2 (rows rgD Cl))) .e) none .e) none .e)) none (.n (.n (.n (.n .e (some (.i .i64 E)) .e) (some (.pt (.o .h) 0 0)) .e) none .e) (some (.i .u16 which)) .e)), (.n (.n .e (some (tabC last hs2 step lv2 ms2)) .e) (some (tabC last hs step lv ms)) .e), .o (.o .h), none⟩) (fun j => j ≤ A.length) (fun j => A.length - j) 0 ?_ ?_ ?_
    · (first | (refine X.le.mk ?_ ?_ (Nat.le_refl _) rfl rfl) | skip) <;> (repeat' first | exact T.le_e _ | refine T.le_some ?_ ?_ ?_ | refine T.le_none ?_ ?_ | rfl)
    · exact Nat.zero_le _
    intro j hj
    have hj : j ≤ A.length := hj
    conv => whnf
    repeat' first | ((first | (with_reducible first | apply WB.tt | apply WB.ff) | apply Rn.seq | apply Rn.reg | apply Rn.drw | apply Rn.blk | apply Rn.skip | apply Rn.ret | apply Rn.exit | apply Rn.cond rfl | refine i64_ (by omega) (by omega) ?_ | refine ne0_ (by omega) ?_ | refine WIx.intsN (by omega) ?_ | refine WIx.rowsN (by omega) ?_) <;> conv => whnf)
    refine WB.dec (fun h => ?_) (fun h => ?_) <;> conv => whnf
    · have hlt : j < A.length := by omega
      have hb := hAb _ (getD_mem (d := default) hlt)
      have hc := hCA j hlt
      have hlo : (Cl.getD (A.length - 1 - j) default).lo = (A.getD j default).lo := by rw [hc]
      have hhi : (Cl.getD (A.length - 1 - j) default).hi = (A.getD j default).hi := by rw [hc]
      have hab : (A.getD j default).lo = (Cl.getD (A.length - 1 - j) default).lo ∧ (A.getD j default).hi = (Cl.getD (A.length - 1 - j) default).hi := ⟨hlo.symm, hhi.symm⟩
      have w1 := wf_small (n := (A.getD j default).lo) (by omega) (by omega)
      have w2 := wf_small (n := (A.getD j default).hi) (by omega) (by omega)
      repeat' first | ((first | (with_reducible first | apply WB.tt | apply WB.ff) | apply Rn.seq | apply Rn.reg | apply Rn.drw | apply Rn.blk | apply Rn.skip | apply Rn.ret | apply Rn.exit | apply Rn.cond rfl | refine i64_ (by omega) (by omega) ?_ | refine ne0_ (by omega) ?_ | refine WIx.intsN (by omega) ?_ | refine WIx.rowsN (by omega) ?_ | refine WCall.pure (iR) ?_ | (with_reducible first | refine WB.decT (by first | rfl | assumption | omega | exact ⟨rfl, rfl⟩) ?_ | refine WB.decF (by first | assumption | omega) ?_ | refine WB.ndT (by first | rfl | assumption | omega | exact ⟨rfl, rfl⟩) ?_ | refine WB.ndF (by first | assumption | omega) ?_ | apply WB.nt | apply WB.nf | refine WB.dec (fun h => ?_) (fun h => ?_) | refine WB.ndec (fun h => ?_) (fun h => ?_)) | refine WB.mk (fun h => ?_) (fun h => ?_)) <;> conv => whnf) | (refine WB.tt ?_; conv => whnf) | (refine WB.ff ?_; conv => whnf)
      have hq2 : (((rows rgD A).length : Nat) : Int) - 1 - (j : Int) = ((A.length - 1 - j : Nat) : Int) := by rw [eA]; omega
      rw [hq2]
      repeat' first | ((first | (with_reducible first | apply WB.tt | apply WB.ff) | apply Rn.seq | apply Rn.reg | apply Rn.drw | apply Rn.blk | apply Rn.skip | apply Rn.ret | apply Rn.exit | apply Rn.cond rfl | refine i64_ (by omega) (by omega) ?_ | refine ne0_ (by omega) ?_ | refine WIx.intsN (by omega) ?_ | refine WIx.rowsN (by omega) ?_ | refine WCall.pure (iR) ?_ | (with_reducible first | refine WB.decT (by first | rfl | assumption | omega | exact ⟨rfl, rfl⟩) ?_ | refine WB.decF (by first | assumption | omega) ?_ | refine WB.ndT (by first | rfl | assumption | omega | exact ⟨rfl, rfl⟩) ?_ | refine WB.ndF (by first | assumption | omega) ?_ | apply WB.nt | apply WB.nf | refine WB.dec (fun h => ?_) (fun h => ?_) | refine WB.ndec (fun h => ?_) (fun h => ?_)) | refine WB.mk (fun h => ?_) (fun h => ?_)) <;> conv => whnf) | (refine WB.tt ?_; conv => whnf) | (refine WB.ff ?_; conv => whnf)
      refine WSt.eqr2n rfl rfl w1 w2 (by rw [hlo]; exact w1) (by rw [hhi]; exact w2) ?_; conv => whnf
      repeat' first | ((first | (with_reducible first | apply WB.tt | apply WB.ff) | apply Rn.seq | apply Rn.reg | apply Rn.drw | apply Rn.blk | apply Rn.skip | apply Rn.ret | apply Rn.exit | apply Rn.cond rfl | refine i64_ (by omega) (by omega) ?_ | refine ne0_ (by omega) ?_ | refine WIx.intsN (by omega) ?_ | refine WIx.rowsN (by omega) ?_ | refine WCall.pure (iR) ?_ | (with_reducible first | refine WB.decT (by first | rfl | assumption | omega | exact ⟨rfl, rfl⟩) ?_ | refine WB.decF (by first | assumption | omega) ?_ | refine WB.ndT (by first | rfl | assumption | omega | exact ⟨rfl, rfl⟩) ?_ | refine WB.ndF (by first | assumption | omega) ?_ | apply WB.nt | apply WB.nf | refine WB.dec (fun h => ?_) (fun h => ?_) | refine WB.ndec (fun h => ?_) (fun h => ?_)) | refine WB.mk (fun h => ?_) (fun h => ?_)) <;> conv => whnf) | (refine WB.tt ?_; conv => whnf) | (refine WB.ff ?_; conv => whnf)
      all_goals try (exfalso; omega)
      all_goals
        refine Again.to (j + 1) (by omega) (by omega) (Nat.le_refl _) ?_
        refine Shr.of ?_ ?_ rfl rfl
        · show Rel _ _ ((.n (.n (.n (.n (.n .e (some (.lst 2 (rows rgD A))) .e) (some (.i .i64 n)) .e) (some (.pt .h 0 0)) (.n (.n .e (some (.i .i64 ((j + 1 : Nat) : Int))) .e) none .e)) none (.n (.n (.n .e (some (.lst 2 (rows rgD Cl))) .e) none .e) none .e)) none (.n (.n (.n (.n .e (some (.i .i64 E)) .e) (some (.pt (.o .h) 0 0)) .e) none .e) (some (.i .u16 which)) .e)) : T D) _
          (repeat' first | exact Rel.e | refine Rel.some ?_ ?_ ?_ | refine Rel.none ?_ ?_ | refine Rel.ee ?_ ?_)
          all_goals show Fz _ _ _ _
          all_goals first | exact .pu trivial | exact .pu (pu_rg _) | exact .kpt (show _ < 4 by simp [Pos.nat])
        · show Rel _ _ ((.n (.n .e (some (tabC last hs2 step lv2 ms2)) .e) (some (tabC last hs step lv ms)) .e) : T C) _
          (repeat' first | exact Rel.e | refine Rel.some ?_ ?_ ?_ | refine Rel.none ?_ ?_ | refine Rel.ee ?_ ?_)
          all_goals first
            | exact RO'.of (show _ < 4 by simp [Pos.nat]) (tabC_sh last hs step lv ms)
            | exact RO'.of (show _ < 4 by simp [Pos.nat]) (tabC_sh last hs2 step lv2 ms2)
    · cases hR : readyB last hs2 step lv2 ms2 with
      | false =>
        rw [hR] at iR
        repeat' first | ((first | (with_reducible first | apply WB.tt | apply WB.ff) | apply Rn.seq | apply Rn.reg | apply Rn.drw | apply Rn.blk | apply Rn.skip | apply Rn.ret | apply Rn.exit | apply Rn.cond rfl | refine i64_ (by omega) (by omega) ?_ | refine ne0_ (by omega) ?_ | refine WIx.intsN (by omega) ?_ | refine WIx.rowsN (by omega) ?_ | refine WCall.pure (iR) ?_ | refine WCall.pure (AW) ?_ | (with_reducible first | refine WB.decT (by first | rfl | assumption | omega | exact ⟨rfl, rfl⟩) ?_ | refine WB.decF (by first | assumption | omega) ?_ | refine WB.ndT (by first | rfl | assumption | omega | exact ⟨rfl, rfl⟩) ?_ | refine WB.ndF (by first | assumption | omega) ?_ | apply WB.nt | apply WB.nf | refine WB.dec (fun h => ?_) (fun h => ?_) | refine WB.ndec (fun h => ?_) (fun h => ?_)) | refine WB.mk (fun h => ?_) (fun h => ?_)) <;> conv => whnf) | (refine WB.tt ?_; conv => whnf) | (refine WB.ff ?_; conv => whnf)
        all_goals first | exact Fin.b rfl rfl | (exfalso; omega) | exact absurd h (by decide)
      | true =>
        rw [hR] at iR
        obtain ⟨B, k, iBx, iDx, hB, hBA, hEk, hrest⟩ := hx hR
        have eB := rows_length rgD B
        repeat' first | ((first | (with_reducible first | apply WB.tt | apply WB.ff) | apply Rn.seq | apply Rn.reg | apply Rn.drw | apply Rn.blk | apply Rn.skip | apply Rn.ret | apply Rn.exit | apply Rn.cond rfl | refine i64_ (by omega) (by omega) ?_ | refine ne0_ (by omega) ?_ | refine WIx.intsN (by omega) ?_ | refine WIx.rowsN (by omega) ?_ | refine WCall.pure (iR) ?_ | refine WCall.pure (iX) ?_ | refine WCall.pure (iBx) ?_ | refine WCall.pure (iT) ?_ | refine WCall.pure (iD) ?_ | refine WCall.pure (iDx) ?_ | (with_reducible first | refine WB.decT (by first | rfl | assumption | omega | exact ⟨rfl, rfl⟩) ?_ | refine WB.decF (by first | assumption | omega) ?_ | refine WB.ndT (by first | rfl | assumption | omega | exact ⟨rfl, rfl⟩) ?_ | refine WB.ndF (by first | assumption | omega) ?_ | apply WB.nt | apply WB.nf | refine WB.dec (fun h => ?_) (fun h => ?_) | refine WB.ndec (fun h => ?_) (fun h => ?_)) | refine WB.mk (fun h => ?_) (fun h => ?_)) <;> conv => whnf) | (refine WB.tt ?_; conv => whnf) | (refine WB.ff ?_; conv => whnf)
        all_goals try (exfalso; omega)
        all_goals try exact absurd h (by decide)
        all_goals
          refine Rn.loop (fun j : Nat => ⟨(.n (.n (.n (.n (.n .e (some (.lst 2 (rows rgD A))) .e) (some (.i .i64 n)) .e) (some (.pt .h 0 0)) .e) none .e) none (.n (.n (.n .e (some (.pt (.o .h) 0 0)) .e) none (.n (.n .e (some (.lst 2 (rows rgD B))) .e) none .e)) (some (.i .u16 which)) (.n (.n .e none (.n .e (some (.i .i64 (j : Int))) .e)) none .e))), (.n (.n .e (some (tabC last hs2 step lv2 ms2)) .e) (some (tabC last hs step lv ms)) .e), .o (.o .h), none⟩) (fun j => j ≤ A.length) (fun j => A.length - j) 0 ?_ ?_ ?_
          · (first | (refine X.le.mk ?_ ?_ (Nat.le_refl _) rfl rfl) | skip) <;> (repeat' first | exact T.le_e _ | refine T.le_some ?_ ?_ ?_ | refine T.le_none ?_ ?_ | rfl)
          · exact Nat.zero_le _
          intro j hj
          have hj : j ≤ A.length := hj
          conv => whnf
          repeat' first | ((first | (with_reducible first | apply WB.tt | apply WB.ff) | apply Rn.seq | apply Rn.reg | apply Rn.drw | apply Rn.blk | apply Rn.skip | apply Rn.ret | apply Rn.exit | apply Rn.cond rfl | refine i64_ (by omega) (by omega) ?_ | refine ne0_ (by omega) ?_ | refine WIx.intsN (by omega) ?_ | refine WIx.rowsN (by omega) ?_) <;> conv => whnf)
          refine WB.dec (fun h => ?_) (fun h => ?_) <;> conv => whnf
          · have hlt : j < A.length := by omega
            have hb := hAb _ (getD_mem (d := default) hlt)
            have hc := hBA j hlt
            have hlo : (B.getD j default).lo = (A.getD j default).lo + n := by rw [hc]; rfl
            have hhi : (B.getD j default).hi = (A.getD j default).hi + n := by rw [hc]; rfl
            have hab : (B.getD j default).lo = (A.getD j default).lo + n ∧ (B.getD j default).hi = (A.getD j default).hi + n := ⟨hlo, hhi⟩
            have w1 := wf_small (n := (A.getD j default).lo + n) (by omega) (by omega)
            have w2 := wf_small (n := (A.getD j default).hi + n) (by omega) (by omega)
            have iW := c_between ((A.getD j default).lo + n) ((A.getD j default).hi + n)
            repeat' first | ((first | (with_reducible first | apply WB.tt | apply WB.ff) | apply Rn.seq | apply Rn.reg | apply Rn.drw | apply Rn.blk | apply Rn.skip | apply Rn.ret | apply Rn.exit | apply Rn.cond rfl | refine i64_ (by omega) (by omega) ?_ | refine ne0_ (by omega) ?_ | refine WIx.intsN (by omega) ?_ | refine WIx.rowsN (by omega) ?_ | refine WCall.pure (iW) ?_ | (with_reducible first | refine WB.decT (by first | rfl | assumption | omega | exact ⟨rfl, rfl⟩) ?_ | refine WB.decF (by first | assumption | omega) ?_ | refine WB.ndT (by first | rfl | assumption | omega | exact ⟨rfl, rfl⟩) ?_ | refine WB.ndF (by first | assumption | omega) ?_ | apply WB.nt | apply WB.nf | refine WB.dec (fun h => ?_) (fun h => ?_) | refine WB.ndec (fun h => ?_) (fun h => ?_)) | refine WB.mk (fun h => ?_) (fun h => ?_)) <;> conv => whnf) | (refine WB.tt ?_; conv => whnf) | (refine WB.ff ?_; conv => whnf)
            refine WSt.eqr2n rfl rfl (by rw [hlo]; exact w1) (by rw [hhi]; exact w2) w1 w2 ?_; conv => whnf
            repeat' first | ((first | (with_reducible first | apply WB.tt | apply WB.ff) | apply Rn.seq | apply Rn.reg | apply Rn.drw | apply Rn.blk | apply Rn.skip | apply Rn.ret | apply Rn.exit | apply Rn.cond rfl | refine i64_ (by omega) (by omega) ?_ | refine ne0_ (by omega) ?_ | refine WIx.intsN (by omega) ?_ | refine WIx.rowsN (by omega) ?_ | refine WCall.pure (iW) ?_ | (with_reducible first | refine WB.decT (by first | rfl | assumption | omega | exact ⟨rfl, rfl⟩) ?_ | refine WB.decF (by first | assumption | omega) ?_ | refine WB.ndT (by first | rfl | assumption | omega | exact ⟨rfl, rfl⟩) ?_ | refine WB.ndF (by first | assumption | omega) ?_ | apply WB.nt | apply WB.nf | refine WB.dec (fun h => ?_) (fun h => ?_) | refine WB.ndec (fun h => ?_) (fun h => ?_)) | refine WB.mk (fun h => ?_) (fun h => ?_)) <;> conv => whnf) | (refine WB.tt ?_; conv => whnf) | (refine WB.ff ?_; conv => whnf)
            all_goals try (exfalso; omega)
            all_goals
              refine Again.to (j + 1) (by omega) (by omega) (Nat.le_refl _) ?_
              refine Shr.of ?_ ?_ rfl rfl
              · show Rel _ _ ((.n (.n (.n (.n (.n .e (some (.lst 2 (rows rgD A))) .e) (some (.i .i64 n)) .e) (some (.pt .h 0 0)) .e) none .e) none (.n (.n (.n .e (some (.pt (.o .h) 0 0)) .e) none (.n (.n .e (some (.lst 2 (rows rgD B))) .e) none .e)) (some (.i .u16 which)) (.n (.n .e none (.n .e (some (.i .i64 ((j + 1 : Nat) : Int))) .e)) none .e))) : T D) _
                (repeat' first | exact Rel.e | refine Rel.some ?_ ?_ ?_ | refine Rel.none ?_ ?_ | refine Rel.ee ?_ ?_)
                all_goals show Fz _ _ _ _
                all_goals first | exact .pu trivial | exact .pu (pu_rg _) | exact .kpt (show _ < 4 by simp [Pos.nat])
              · show Rel _ _ ((.n (.n .e (some (tabC last hs2 step lv2 ms2)) .e) (some (tabC last hs step lv ms)) .e) : T C) _
                (repeat' first | exact Rel.e | refine Rel.some ?_ ?_ ?_ | refine Rel.none ?_ ?_ | refine Rel.ee ?_ ?_)
                all_goals first
                  | exact RO'.of (show _ < 4 by simp [Pos.nat]) (tabC_sh last hs step lv ms)
                  | exact RO'.of (show _ < 4 by simp [Pos.nat]) (tabC_sh last hs2 step lv2 ms2)
          · repeat' first | (refine Rn.le hrest ?_; (first | (refine X.le.mk ?_ ?_ (Nat.le_refl _) rfl rfl) | skip) <;> (repeat' first | exact T.le_e _ | refine T.le_some ?_ ?_ ?_ | refine T.le_none ?_ ?_ | rfl)) | ((first | (with_reducible first | apply WB.tt | apply WB.ff) | apply Rn.cond rfl | apply Rn.skip | apply Rn.exit | apply Rn.reg) <;> conv => whnf)
end Go.Ev

namespace Go.Ev
open Go.Proofs
set_option maxRecDepth 100000
/-! ### TideShifted: the levels -/
def tabG (last step : Int) (d1 d2 d3 : D) : C := .cells false [.o (.i .i64 last) 0, .o d1 0, .o (.i .i64 step) 0, .o d2 0, .o d3 0] 1
theorem tabG_sh {last step : Int} {d1 d2 d3 e1 e2 e3 : D} {B : Pos → Prop} {ob : T C} (h1 : Fz B ob d1 e1) (h2 : Fz B ob d2 e2) (h3 : Fz B ob d3 e3) : ShC B ob (tabG last step d1 d2 d3) (tabG last step e1 e2 e3) := by
  refine .cells fun k c' hc => ?_
  match k, hc with
  | 0, hc => cases hc; exact ⟨_, rfl, fun _ h => h, .pu trivial⟩
  | 1, hc => cases hc; exact ⟨_, rfl, fun _ h => h, h1⟩
  | 2, hc => cases hc; exact ⟨_, rfl, fun _ h => h, .pu trivial⟩
  | 3, hc => cases hc; exact ⟨_, rfl, fun _ h => h, h2⟩
  | 4, hc => cases hc; exact ⟨_, rfl, fun _ h => h, h3⟩
  | k + 5, hc => cases hc
def slG {α : Type} (id : Pos) (z : Nat) : List α → D
  | [] => .ns
  | _ :: s => .sl id 0 (s.length + 1) s.length z
def blG {α : Type} (F : List α → List D) : List α → Option C
  | [] => none
  | a :: s => some (.cells false ((F (a :: s)).map fun d => Cell.o d s.length) (s.length + 1))
def nxG {α : Type} (n : Pos) : List α → Pos
  | [] => .o (.o .h)
  | _ :: _ => n
theorem slG_snoc {α : Type} (id : Pos) (z : Nat) (a : α) (s : List α) (x : α) : slG id z (a :: (s ++ [x])) = .sl id 0 (s.length + 1 + 1) (s.length + 1) z := by simp [slG]
theorem blG_snoc {α : Type} {F : List α → List D} {a : α} {s : List α} {x : α} {r : List D} (h : F (a :: (s ++ [x])) = F (a :: s) ++ r) : blG F (a :: (s ++ [x])) = some (.cells false ((F (a :: s) ++ r).map fun d => Cell.o d (s.length + 1)) (s.length + 1 + 1)) := by
  simp [blG, h]
def shX (last : Int) (hs : List Rg) (step : Int) (lv : List Int) (ms : List Mk) (which n : Int) (cx cy : C) : X := ⟨(.n (.n (.n (.n .e (some (.i .i64 n)) .e) (some (.pt .h 0 0)) .e) none (.n (.n .e (some (.pt (.i .h) 0 0)) .e) none .e)) none (.n (.n (.n .e (some (.pt (.o .h) 0 0)) .e) none .e) (some (.i .u16 which)) .e)), (.n (.n .e (some (cx)) .e) (some (tabC last hs step lv ms)) (.n .e (some (cy)) .e)), .o (.o .h), none⟩
def sh2S (last : Int) (hs : List Rg) (step : Int) (lv : List Int) (ms : List Mk) (which n : Int) (h2 : D) (cy : C) (A : List Int) (j : Nat) : X := ⟨(.n (.n (.n (.n .e (some (.i .i64 n)) .e) (some (.pt .h 0 0)) .e) none (.n (.n .e (some (.pt (.i .h) 0 0)) .e) none .e)) none (.n (.n (.n .e (some (.pt (.o .h) 0 0)) .e) none (.n .e (some (.i .i64 (j : Int))) .e)) (some (.i .u16 which)) .e)), .n (.n .e (some (tabG last step h2 (slG (.i (.o .h)) 1 A) .ns)) .e) (some (tabC last hs step lv ms)) (.n (.n .e (blG nD A) .e) (some cy) .e), nxG (.o (.i .h)) A, none⟩
set_option maxHeartbeats 8000000 in
theorem c_sh2 (last : Int) (hs : List Rg) (step : Int) (lv : List Int) (ms : List Mk) (which n : Int) (hn : 0 ≤ n ∧ n ≤ 29) (h6 : lv.length ≤ 6) (hlv : Hts lv) (hs2 hs3 : List Rg)
    (hrest : Rn Try.prog 361 (seqT 7 rc16) (shX last hs step lv ms which n (tabG last step (.lst 2 (rows rgD hs2)) (.lst 1 (ints (upL n lv))) .ns) (tabG last step (.lst 2 (rows rgD hs3)) (.lst 1 (ints lv)) .ns)) (Fin rs16 (.b true))) :
    Rn Try.prog 361 (seqT 6 rc16) (shX last hs step lv ms which n (tabG last step (.lst 2 (rows rgD hs2)) .ns .ns) (tabG last step (.lst 2 (rows rgD hs3)) (.lst 1 (ints lv)) .ns)) (Fin rs16 (.b true)) := by
  have e1 := ints_length lv
  have cyS : ∀ {B : Pos → Prop} {ob : T C}, ShC B ob (tabG last step (.lst 2 (rows rgD hs3)) (.lst 1 (ints lv)) .ns) (tabG last step (.lst 2 (rows rgD hs3)) (.lst 1 (ints lv)) .ns) := fun {_ _} => tabG_sh (.pu (pu_rg _)) (.pu (pu_ints _)) (.pu trivial)
  conv => whnf
  refine Rn.far rfl ?_
  refine RnF.seq ?_; conv => whnf
  repeat' first | ((first | (with_reducible first | apply WB.tt | apply WB.ff) | apply Rn.seq | apply Rn.reg | apply Rn.drw | apply Rn.blk | apply Rn.skip | apply Rn.ret | apply Rn.exit | apply Rn.cond rfl | refine i64_ (by omega) (by omega) ?_ | refine ne0_ (by omega) ?_ | refine WIx.intsN (by omega) ?_ | refine WIx.rowsN (by omega) ?_) <;> conv => whnf)
  refine Rn.loop (fun j : Nat => sh2S last hs step lv ms which n (.lst 2 (rows rgD hs2)) (tabG last step (.lst 2 (rows rgD hs3)) (.lst 1 (ints lv)) .ns) ((upL n lv).take j) j) (fun j => j ≤ lv.length) (fun j => lv.length - j) 0 ?_ ?_ ?_
  · refine X.le.mk ?_ ?_ (Nat.le_refl _) rfl rfl
    · show T.le ((.n (.n (.n (.n .e (some (.i .i64 n)) .e) (some (.pt .h 0 0)) .e) none (.n (.n .e (some (.pt (.i .h) 0 0)) .e) none .e)) none (.n (.n (.n .e (some (.pt (.o .h) 0 0)) .e) none (.n .e (some (.i .i64 0)) .e)) (some (.i .u16 which)) .e)) : T D) _
      (repeat' first | exact T.le_e _ | refine T.le_some ?_ rfl ?_ | refine T.le_none ?_ ?_)
    · show T.le (.n (.n .e (some (tabG last step (.lst 2 (rows rgD hs2)) .ns .ns)) .e) (some (tabC last hs step lv ms)) (.n (.n .e none .e) (some (tabG last step (.lst 2 (rows rgD hs3)) (.lst 1 (ints lv)) .ns)) .e)) _
      (repeat' first | exact T.le_e _ | refine T.le_some ?_ rfl ?_ | refine T.le_none ?_ ?_ | refine T.le_ee ?_ ?_)
  · exact Nat.zero_le _
  intro j hj
  have hj : j ≤ lv.length := hj
  have hul := upL_len n lv
  have hAl : ((upL n lv).take j).length = j := by rw [List.length_take]; omega
  have hend : j = lv.length → (upL n lv).take j = upL n lv := fun e => List.take_of_length_le (by omega)
  have hnext : j < lv.length → (upL n lv).take (j + 1) = (upL n lv).take j ++ [lv.getD j 0 + n] := fun h => by
    rw [take_succ_getD (d := 0) (by omega), upL_at h]
  generalize hA : (upL n lv).take j = A at *
  conv => whnf
  repeat' first | ((first | (with_reducible first | apply WB.tt | apply WB.ff) | apply Rn.seq | apply Rn.reg | apply Rn.drw | apply Rn.blk | apply Rn.skip | apply Rn.ret | apply Rn.exit | apply Rn.cond rfl | refine i64_ (by omega) (by omega) ?_ | refine ne0_ (by omega) ?_ | refine WIx.intsN (by omega) ?_ | refine WIx.rowsN (by omega) ?_) <;> conv => whnf)
  refine WB.dec (fun h => ?_) (fun h => ?_) <;> conv => whnf
  · have hlt : j < lv.length := by omega
    have hnext := hnext hlt
    have hb := hlv.at j
    cases A with
    | nil =>
      repeat' first | ((first | (with_reducible first | apply WB.tt | apply WB.ff) | apply Rn.seq | apply Rn.reg | apply Rn.drw | apply Rn.blk | apply Rn.skip | apply Rn.ret | apply Rn.exit | apply Rn.cond rfl | refine i64_ (by omega) (by omega) ?_ | refine ne0_ (by omega) ?_ | refine WIx.intsN (by omega) ?_ | refine WIx.rowsN (by omega) ?_) <;> conv => whnf)
      refine WSt.app_firstL (r := [_]) (by rfl) (.inl rfl) (by rfl) (by rfl) (by rfl) (by rfl) ?_; conv => whnf
      repeat' first | ((first | (with_reducible first | apply WB.tt | apply WB.ff) | apply Rn.seq | apply Rn.reg | apply Rn.drw | apply Rn.blk | apply Rn.skip | apply Rn.ret | apply Rn.exit | apply Rn.cond rfl | refine i64_ (by omega) (by omega) ?_ | refine ne0_ (by omega) ?_ | refine WIx.intsN (by omega) ?_ | refine WIx.rowsN (by omega) ?_) <;> conv => whnf)
      refine Again.to (j + 1) (by omega) (by omega) (by show (nxG (.o (.i .h)) ((upL n lv).take j)).nat ≤ (nxG (.o (.i .h)) ((upL n lv).take (j + 1))).nat; rw [hA, hnext]; exact (show 4 ≤ 6 by omega)) ?_
      show Shr _ (sh2S last hs step lv ms which n (.lst 2 (rows rgD hs2)) (tabG last step (.lst 2 (rows rgD hs3)) (.lst 1 (ints lv)) .ns) ((upL n lv).take (j + 1)) (j + 1))
      rw [hnext]
      refine Shr.of ?_ ?_ rfl rfl
      · show Rel _ _ ((.n (.n (.n (.n .e (some (.i .i64 n)) .e) (some (.pt .h 0 0)) .e) none (.n (.n .e (some (.pt (.i .h) 0 0)) .e) none .e)) none (.n (.n (.n .e (some (.pt (.o .h) 0 0)) .e) none (.n .e (some (.i .i64 ((j + 1 : Nat) : Int))) .e)) (some (.i .u16 which)) .e)) : T D) _
        (repeat' first | exact Rel.e | refine Rel.some ?_ ?_ ?_ | refine Rel.none ?_ ?_ | refine Rel.ee ?_ ?_)
        all_goals show Fz _ _ _ _
        all_goals first | exact .pu trivial | exact .kpt (show _ < 6 by simp [Pos.nat])
      · show Rel _ _ (.n (.n .e (some (tabG last step (.lst 2 (rows rgD hs2)) (.sl (.i (.o .h)) 0 1 0 1) .ns)) .e) (some (tabC last hs step lv ms)) (.n (.n .e (some (.cells false [.o (.i .i64 (lv.getD j 0 + n)) 0] 1)) .e) (some (tabG last step (.lst 2 (rows rgD hs3)) (.lst 1 (ints lv)) .ns)) .e)) _
        (repeat' first | exact Rel.e | refine Rel.some ?_ ?_ ?_ | refine Rel.none ?_ ?_ | refine Rel.ee ?_ ?_)
        all_goals first
          | exact RO'.of (show _ < 6 by simp [Pos.nat]) (tabC_sh last hs step lv ms)
          | exact RO'.of (show _ < 6 by simp [Pos.nat]) cyS
          | exact RO'.of (show _ < 6 by simp [Pos.nat]) (tabG_sh (.pu (pu_rg _)) (.ksl (show _ < 6 by simp [Pos.nat])) (.pu trivial))
          | exact RO'.of (show _ < 6 by simp [Pos.nat]) (ShC.same (ShC.cn (.pu trivial) ShC.nl))
    | cons a A =>
      have hs5 : A.length + 1 ≤ 10 := by have : A.length + 1 = j := hAl; omega
      repeat' first | ((first | (with_reducible first | apply WB.tt | apply WB.ff) | apply Rn.seq | apply Rn.reg | apply Rn.drw | apply Rn.blk | apply Rn.skip | apply Rn.ret | apply Rn.exit | apply Rn.cond rfl | refine i64_ (by omega) (by omega) ?_ | refine ne0_ (by omega) ?_ | refine WIx.intsN (by omega) ?_ | refine WIx.rowsN (by omega) ?_) <;> conv => whnf)
      refine WSt.app_oneL (id := .i (.o .h)) (st := A.length) (len := A.length + 1) (cur := A.length + 1) (ds := nD (a :: A)) (r := [_]) (by rfl) (by rfl) (by rfl) (by rfl) (by rfl) (by rfl) (by simp [nD]) (by rfl) (by rfl) (by omega) (by rfl) ?_; conv => whnf
      repeat' first | ((first | (with_reducible first | apply WB.tt | apply WB.ff) | apply Rn.seq | apply Rn.reg | apply Rn.drw | apply Rn.blk | apply Rn.skip | apply Rn.ret | apply Rn.exit | apply Rn.cond rfl | refine i64_ (by omega) (by omega) ?_ | refine ne0_ (by omega) ?_ | refine WIx.intsN (by omega) ?_ | refine WIx.rowsN (by omega) ?_) <;> conv => whnf)
      refine Again.to (j + 1) (by omega) (by omega) (by show (nxG (.o (.i .h)) ((upL n lv).take j)).nat ≤ (nxG (.o (.i .h)) ((upL n lv).take (j + 1))).nat; rw [hA, hnext]; exact (show 6 ≤ 6 by omega)) ?_
      show Shr _ (sh2S last hs step lv ms which n (.lst 2 (rows rgD hs2)) (tabG last step (.lst 2 (rows rgD hs3)) (.lst 1 (ints lv)) .ns) ((upL n lv).take (j + 1)) (j + 1))
      rw [hnext, List.cons_append]
      refine Shr.of ?_ ?_ rfl rfl
      · show Rel _ _ ((.n (.n (.n (.n .e (some (.i .i64 n)) .e) (some (.pt .h 0 0)) .e) none (.n (.n .e (some (.pt (.i .h) 0 0)) .e) none .e)) none (.n (.n (.n .e (some (.pt (.o .h) 0 0)) .e) none (.n .e (some (.i .i64 ((j + 1 : Nat) : Int))) .e)) (some (.i .u16 which)) .e)) : T D) _
        (repeat' first | exact Rel.e | refine Rel.some ?_ ?_ ?_ | refine Rel.none ?_ ?_ | refine Rel.ee ?_ ?_)
        all_goals show Fz _ _ _ _
        all_goals first | exact .pu trivial | exact .kpt (show _ < 6 by simp [Pos.nat])
      · show Rel _ _ (.n (.n .e (some (tabG last step (.lst 2 (rows rgD hs2)) (slG (.i (.o .h)) 1 (a :: (A ++ [lv.getD j 0 + n]))) .ns)) .e) (some (tabC last hs step lv ms)) (.n (.n .e (blG nD (a :: (A ++ [lv.getD j 0 + n]))) .e) (some (tabG last step (.lst 2 (rows rgD hs3)) (.lst 1 (ints lv)) .ns)) .e)) _
        rw [slG_snoc, blG_snoc (nD_snoc (a :: A) (lv.getD j 0 + n))]
        (repeat' first | exact Rel.e | refine Rel.some ?_ ?_ ?_ | refine Rel.none ?_ ?_ | refine Rel.ee ?_ ?_)
        all_goals first
          | exact RO'.of (show _ < 6 by simp [Pos.nat]) (tabC_sh last hs step lv ms)
          | exact RO'.of (show _ < 6 by simp [Pos.nat]) cyS
          | exact RO'.of (show _ < 6 by simp [Pos.nat]) (tabG_sh (.pu (pu_rg _)) (.ksl (show _ < 6 by simp [Pos.nat])) (.pu trivial))
          | (refine RO'.of (show _ < 6 by simp [Pos.nat]) ?_
             exact ShC.grownF (by omega) (pu_nD _) (.pu trivial))
  · have he := hend (by omega)
    cases A with
    | nil =>
      repeat' first | ((first | (with_reducible first | apply WB.tt | apply WB.ff) | apply Rn.seq | apply Rn.reg | apply Rn.drw | apply Rn.blk | apply Rn.skip | apply Rn.ret | apply Rn.exit | apply Rn.cond rfl | refine i64_ (by omega) (by omega) ?_ | refine ne0_ (by omega) ?_ | refine WIx.intsN (by omega) ?_ | refine WIx.rowsN (by omega) ?_) <;> conv => whnf)
      refine ⟨rfl, rfl, (show 4 ≤ 4 by omega), RnF.turn (z' := shX last hs step lv ms which n (tabG last step (.lst 2 (rows rgD hs2)) (.lst 1 (ints (upL n lv))) .ns) (tabG last step (.lst 2 (rows rgD hs3)) (.lst 1 (ints lv)) .ns)) (B := fun id => id.nat < 4) ?_ (fun id h => h) (fun id h => h) (show 4 ≤ 4 by omega) hrest⟩
      refine ShrB.of ?_ ?_ rfl rfl
      · show Rel _ _ ((.n (.n (.n (.n .e (some (.i .i64 n)) .e) (some (.pt .h 0 0)) .e) none (.n (.n .e (some (.pt (.i .h) 0 0)) .e) none .e)) none (.n (.n (.n .e (some (.pt (.o .h) 0 0)) .e) none .e) (some (.i .u16 which)) .e)) : T D) _
        (repeat' first | exact Rel.e | refine Rel.some ?_ ?_ ?_ | refine Rel.none ?_ ?_ | refine Rel.ee ?_ ?_)
        all_goals show Fz _ _ _ _
        all_goals first | exact .pu trivial | exact .kpt (show _ < 4 by simp [Pos.nat])
      · show Rel _ _ ((.n (.n .e (some (tabG last step (.lst 2 (rows rgD hs2)) (.lst 1 (ints (upL n lv))) .ns)) .e) (some (tabC last hs step lv ms)) (.n .e (some (tabG last step (.lst 2 (rows rgD hs3)) (.lst 1 (ints lv)) .ns)) .e)) : T C) _
        rw [← he]
        (repeat' first | exact Rel.e | refine Rel.some ?_ ?_ ?_ | refine Rel.none ?_ ?_ | refine Rel.ee ?_ ?_)
        all_goals first
          | exact ⟨show _ < 4 by simp [Pos.nat], tabC_sh last hs step lv ms⟩
          | exact ⟨show _ < 4 by simp [Pos.nat], cyS⟩
          | exact ⟨show _ < 4 by simp [Pos.nat], tabG_sh (.pu (pu_rg _)) .ns (.pu trivial)⟩
    | cons a A =>
      repeat' first | ((first | (with_reducible first | apply WB.tt | apply WB.ff) | apply Rn.seq | apply Rn.reg | apply Rn.drw | apply Rn.blk | apply Rn.skip | apply Rn.ret | apply Rn.exit | apply Rn.cond rfl | refine i64_ (by omega) (by omega) ?_ | refine ne0_ (by omega) ?_ | refine WIx.intsN (by omega) ?_ | refine WIx.rowsN (by omega) ?_) <;> conv => whnf)
      refine ⟨rfl, rfl, (show 4 ≤ 6 by omega), RnF.turn (z' := shX last hs step lv ms which n (tabG last step (.lst 2 (rows rgD hs2)) (.lst 1 (ints (upL n lv))) .ns) (tabG last step (.lst 2 (rows rgD hs3)) (.lst 1 (ints lv)) .ns)) (B := fun id => id.nat < 4) ?_ (fun id h => h) (fun id h => h) (show 4 ≤ 4 by omega) hrest⟩
      refine ShrB.of ?_ ?_ rfl rfl
      · show Rel _ _ ((.n (.n (.n (.n .e (some (.i .i64 n)) .e) (some (.pt .h 0 0)) .e) none (.n (.n .e (some (.pt (.i .h) 0 0)) .e) none .e)) none (.n (.n (.n .e (some (.pt (.o .h) 0 0)) .e) none .e) (some (.i .u16 which)) .e)) : T D) _
        (repeat' first | exact Rel.e | refine Rel.some ?_ ?_ ?_ | refine Rel.none ?_ ?_ | refine Rel.ee ?_ ?_)
        all_goals show Fz _ _ _ _
        all_goals first | exact .pu trivial | exact .kpt (show _ < 4 by simp [Pos.nat])
      · show Rel _ _ ((.n (.n .e (some (tabG last step (.lst 2 (rows rgD hs2)) (.lst 1 (ints (upL n lv))) .ns)) .e) (some (tabC last hs step lv ms)) (.n .e (some (tabG last step (.lst 2 (rows rgD hs3)) (.lst 1 (ints lv)) .ns)) .e)) : T C) _
        rw [← he]
        (repeat' first | exact Rel.e | refine Rel.some ?_ ?_ ?_ | refine Rel.none ?_ ?_ | refine Rel.ee ?_ ?_)
        all_goals first
          | exact ⟨show _ < 4 by simp [Pos.nat], tabC_sh last hs step lv ms⟩
          | exact ⟨show _ < 4 by simp [Pos.nat], cyS⟩
          | exact ⟨show _ < 4 by simp [Pos.nat], tabG_sh (.pu (pu_rg _)) (Fz.whole (cs := (nD (a :: A)).map fun d => Cell.o d A.length) (cur := A.length + 1) (show ¬ 5 < 4 by omega) (by rfl) (by simp [ints]) (ints_one _) (by rw [ints_flatten]; rfl) (pu_ints _)) (.pu trivial)⟩
end Go.Ev

namespace Go.Ev
open Go.Proofs
set_option maxRecDepth 100000
/-! ### TideShifted: the heights -/

def sh1S (last : Int) (hs : List Rg) (step : Int) (lv : List Int) (ms : List Mk) (which n : Int)  (A B : List Rg) (j : Nat) : X := ⟨(.n (.n (.n (.n .e (some (.i .i64 n)) .e) (some (.pt .h 0 0)) .e) none (.n (.n .e (some (.pt (.i .h) 0 0)) .e) none .e)) none (.n (.n (.n .e (some (.pt (.o .h) 0 0)) .e) none .e) (some (.i .u16 which)) (.n (.n .e (some (.i .i64 (j : Int))) .e) none .e))), .n (.n (.n (.n .e (blG rgF B) .e) none .e) (some (tabG last step (slG (.o (.i .h)) 2 A) .ns .ns)) (.n .e (blG rgF A) .e)) (some (tabC last hs step lv ms)) (.n .e (some (tabG last step (slG (.o (.o (.o .h))) 2 B) (.lst 1 (ints lv)) .ns)) .e), nxG (.i (.o (.o .h))) A, none⟩
set_option maxHeartbeats 8000000 in
theorem c_sh1 (last : Int) (hs : List Rg) (step : Int) (lv : List Int) (ms : List Mk) (which n : Int)  (hn : 0 ≤ n ∧ n ≤ 29) (hlast : (hs.length : Int) = last + 1) (h1 : 1 ≤ hs.length) (h10 : hs.length ≤ 10) (hv : Vr hs)
    (hrest : Rn Try.prog 361 (seqT 6 rc16) (shX last hs step lv ms which n (tabG last step (.lst 2 (rows rgD (hs.map (shR n)))) .ns .ns) (tabG last step (.lst 2 (rows rgD hs.reverse)) (.lst 1 (ints lv)) .ns)) (Fin rs16 (.b true))) :
    Rn Try.prog 361 (seqT 5 rc16) (shX last hs step lv ms which n (tabG last step .ns .ns .ns) (tabG last step .ns (.lst 1 (ints lv)) .ns)) (Fin rs16 (.b true)) := by
  have e1 := rows_length rgD hs
  conv => whnf
  refine Rn.far rfl ?_
  refine RnF.seq ?_; conv => whnf
  repeat' first | ((first | (with_reducible first | apply WB.tt | apply WB.ff) | apply Rn.seq | apply Rn.reg | apply Rn.drw | apply Rn.blk | apply Rn.skip | apply Rn.ret | apply Rn.exit | apply Rn.cond rfl | refine i64_ (by omega) (by omega) ?_ | refine ne0_ (by omega) ?_ | refine WIx.intsN (by omega) ?_ | refine WIx.rowsN (by omega) ?_) <;> conv => whnf)
  refine Rn.loop (fun j : Nat => sh1S last hs step lv ms which n  ((hs.map (shR n)).take j) ((hs.reverse).take j) j) (fun j => j ≤ hs.length) (fun j => hs.length - j) 0 ?_ ?_ ?_
  · refine X.le.mk ?_ ?_ (Nat.le_refl _) rfl rfl
    · show T.le ((.n (.n (.n (.n .e (some (.i .i64 n)) .e) (some (.pt .h 0 0)) .e) none (.n (.n .e (some (.pt (.i .h) 0 0)) .e) none .e)) none (.n (.n (.n .e (some (.pt (.o .h) 0 0)) .e) none .e) (some (.i .u16 which)) (.n (.n .e (some (.i .i64 0)) .e) none .e))) : T D) _
      (repeat' first | exact T.le_e _ | refine T.le_some ?_ rfl ?_ | refine T.le_none ?_ ?_)
    · show T.le (.n (.n (.n (.n .e none .e) none .e) (some (tabG last step .ns .ns .ns)) (.n .e none .e)) (some (tabC last hs step lv ms)) (.n .e (some (tabG last step .ns (.lst 1 (ints lv)) .ns)) .e)) _
      (repeat' first | exact T.le_e _ | refine T.le_some ?_ rfl ?_ | refine T.le_none ?_ ?_ | refine T.le_ee ?_ ?_)
  · exact Nat.zero_le _
  intro j hj
  have hj : j ≤ hs.length := hj
  have lA : (hs.map (shR n)).length = hs.length := by simp
  have lB : (hs.reverse).length = hs.length := by simp
  have hAl : ((hs.map (shR n)).take j).length = j := by rw [List.length_take]; omega
  have hBl : ((hs.reverse).take j).length = j := by rw [List.length_take]; omega
  have hendA : j = hs.length → ((hs.map (shR n)).take j) = hs.map (shR n) := fun e => List.take_of_length_le (by omega)
  have hendB : j = hs.length → ((hs.reverse).take j) = hs.reverse := fun e => List.take_of_length_le (by omega)
  have hnA : j < hs.length → ((hs.map (shR n)).take (j + 1)) = ((hs.map (shR n)).take j) ++ [shR n (hs.getD j default)] := fun h => by
    rw [take_succ_getD (d := default) (by omega)]; congr 1; rw [shR_at h]
  have hnB : j < hs.length → ((hs.reverse).take (j + 1)) = ((hs.reverse).take j) ++ [hs.getD (hs.length - 1 - j) default] := fun h => by
    rw [take_succ_getD (d := default) (by omega)]; congr 1; rw [rev_at h]
  generalize hA : ((hs.map (shR n)).take j) = A at *
  generalize hB : ((hs.reverse).take j) = B at *
  conv => whnf
  repeat' first | ((first | (with_reducible first | apply WB.tt | apply WB.ff) | apply Rn.seq | apply Rn.reg | apply Rn.drw | apply Rn.blk | apply Rn.skip | apply Rn.ret | apply Rn.exit | apply Rn.cond rfl | refine i64_ (by omega) (by omega) ?_ | refine ne0_ (by omega) ?_ | refine WIx.intsN (by omega) ?_ | refine WIx.rowsN (by omega) ?_) <;> conv => whnf)
  refine WB.dec (fun h => ?_) (fun h => ?_) <;> conv => whnf
  · have hlt : j < hs.length := by omega
    have hnA := hnA hlt
    have hnB := hnB hlt
    have hb := hv (hs.getD j default) (getD_mem hlt)
    have hq : last - (j : Int) = ((hs.length - 1 - j : Nat) : Int) := by omega
    have hq2 : hs.length - 1 - j < hs.length := by omega
    cases A with
    | nil =>
      have hB0 : B = [] := List.length_eq_zero_iff.1 (by have : (0 : Nat) = j := hAl; omega)
      subst hB0
      repeat' first | ((first | (with_reducible first | apply WB.tt | apply WB.ff) | apply Rn.seq | apply Rn.reg | apply Rn.drw | apply Rn.blk | apply Rn.skip | apply Rn.ret | apply Rn.exit | apply Rn.cond rfl | refine i64_ (by omega) (by omega) ?_ | refine ne0_ (by omega) ?_ | refine WIx.intsN (by omega) ?_ | refine WIx.rowsN (by omega) ?_) <;> conv => whnf)
      refine WSt.app_firstL (r := rgD (shR n (hs.getD j default))) (by rfl) (.inl rfl) (by rfl) (by rfl) (by rfl) (by rfl) ?_; conv => whnf
      repeat' first | ((first | (with_reducible first | apply WB.tt | apply WB.ff) | apply Rn.seq | apply Rn.reg | apply Rn.drw | apply Rn.blk | apply Rn.skip | apply Rn.ret | apply Rn.exit | apply Rn.cond rfl | refine i64_ (by omega) (by omega) ?_ | refine ne0_ (by omega) ?_ | refine WIx.intsN (by omega) ?_ | refine WIx.rowsN (by omega) ?_) <;> conv => whnf)
      rw [hq]
      refine WIx.rowsN hq2 ?_; conv => whnf
      repeat' first | ((first | (with_reducible first | apply WB.tt | apply WB.ff) | apply Rn.seq | apply Rn.reg | apply Rn.drw | apply Rn.blk | apply Rn.skip | apply Rn.ret | apply Rn.exit | apply Rn.cond rfl | refine i64_ (by omega) (by omega) ?_ | refine ne0_ (by omega) ?_ | refine WIx.intsN (by omega) ?_ | refine WIx.rowsN (by omega) ?_) <;> conv => whnf)
      refine WSt.app_firstL (r := rgD (hs.getD (hs.length - 1 - j) default)) (by rfl) (.inl rfl) (by rfl) (by rfl) (by rfl) (by rfl) ?_; conv => whnf
      repeat' first | ((first | (with_reducible first | apply WB.tt | apply WB.ff) | apply Rn.seq | apply Rn.reg | apply Rn.drw | apply Rn.blk | apply Rn.skip | apply Rn.ret | apply Rn.exit | apply Rn.cond rfl | refine i64_ (by omega) (by omega) ?_ | refine ne0_ (by omega) ?_ | refine WIx.intsN (by omega) ?_ | refine WIx.rowsN (by omega) ?_) <;> conv => whnf)
      refine Again.to (j + 1) (by omega) (by omega) (by show (nxG (.i (.o (.o .h))) ((hs.map (shR n)).take j)).nat ≤ (nxG (.i (.o (.o .h))) ((hs.map (shR n)).take (j + 1))).nat; rw [hA, hnA]; exact (show 4 ≤ 9 by omega)) ?_
      show Shr _ (sh1S last hs step lv ms which n  ((hs.map (shR n)).take (j + 1)) ((hs.reverse).take (j + 1)) (j + 1))
      rw [hnA, hnB]
      focus
        refine Shr.of ?_ ?_ rfl rfl
        · show Rel _ _ ((.n (.n (.n (.n .e (some (.i .i64 n)) .e) (some (.pt .h 0 0)) .e) none (.n (.n .e (some (.pt (.i .h) 0 0)) .e) none .e)) none (.n (.n (.n .e (some (.pt (.o .h) 0 0)) .e) none .e) (some (.i .u16 which)) (.n (.n .e (some (.i .i64 ((j + 1 : Nat) : Int))) .e) none .e))) : T D) _
          (repeat' first | exact Rel.e | refine Rel.some ?_ ?_ ?_ | refine Rel.none ?_ ?_ | refine Rel.ee ?_ ?_)
          all_goals show Fz _ _ _ _
          all_goals first | exact .pu trivial | exact .kpt (show _ < 9 by simp [Pos.nat])
        · show Rel _ _ (.n (.n (.n (.n .e (some (.cells false ((rgD (hs.getD (hs.length - 1 - j) default)).map fun d => Cell.o d 0) 1)) .e) none .e) (some (tabG last step (.sl (.o (.i .h)) 0 1 0 2) .ns .ns)) (.n .e (some (.cells false ((rgD (shR n (hs.getD j default))).map fun d => Cell.o d 0) 1)) .e)) (some (tabC last hs step lv ms)) (.n .e (some (tabG last step (.sl (.o (.o (.o .h))) 0 1 0 2) (.lst 1 (ints lv)) .ns)) .e)) _
          (repeat' first | exact Rel.e | refine Rel.some ?_ ?_ ?_ | refine Rel.none ?_ ?_ | refine Rel.ee ?_ ?_)
          all_goals first
            | exact RO'.of (show _ < 9 by simp [Pos.nat]) (tabC_sh last hs step lv ms)
            | exact RO'.of (show _ < 9 by simp [Pos.nat]) (tabG_sh (.ksl (show _ < 9 by simp [Pos.nat])) (.pu trivial) (.pu trivial))
            | exact RO'.of (show _ < 9 by simp [Pos.nat]) (tabG_sh (.ksl (show _ < 9 by simp [Pos.nat])) (.pu (pu_ints _)) (.pu trivial))
            | exact RO'.of (show _ < 9 by simp [Pos.nat]) (ShC.same (ShC.cn (.pu trivial) (ShC.cn (.pu trivial) ShC.nl)))
    | cons a A =>
      cases B with
      | nil => exfalso; have h1 : A.length + 1 = j := hAl; have h2 : (0 : Nat) = j := hBl; omega
      | cons b B =>
      have hs5 : A.length + 1 ≤ 10 := by have : A.length + 1 = j := hAl; omega
      have hs6 : B.length + 1 ≤ 10 := by have : B.length + 1 = j := hBl; omega
      repeat' first | ((first | (with_reducible first | apply WB.tt | apply WB.ff) | apply Rn.seq | apply Rn.reg | apply Rn.drw | apply Rn.blk | apply Rn.skip | apply Rn.ret | apply Rn.exit | apply Rn.cond rfl | refine i64_ (by omega) (by omega) ?_ | refine ne0_ (by omega) ?_ | refine WIx.intsN (by omega) ?_ | refine WIx.rowsN (by omega) ?_) <;> conv => whnf)
      refine WSt.app_oneL (id := .o (.i .h)) (st := A.length) (len := A.length + 1) (cur := A.length + 1) (ds := rgF (a :: A)) (r := rgD (shR n (hs.getD j default))) (by rfl) (by rfl) (by rfl) (by rfl) (by rfl) (by rfl) (by rw [rgF_length]; rfl) (by rfl) (by rfl) (by omega) (by rfl) ?_; conv => whnf
      repeat' first | ((first | (with_reducible first | apply WB.tt | apply WB.ff) | apply Rn.seq | apply Rn.reg | apply Rn.drw | apply Rn.blk | apply Rn.skip | apply Rn.ret | apply Rn.exit | apply Rn.cond rfl | refine i64_ (by omega) (by omega) ?_ | refine ne0_ (by omega) ?_ | refine WIx.intsN (by omega) ?_ | refine WIx.rowsN (by omega) ?_) <;> conv => whnf)
      rw [hq]
      refine WIx.rowsN hq2 ?_; conv => whnf
      repeat' first | ((first | (with_reducible first | apply WB.tt | apply WB.ff) | apply Rn.seq | apply Rn.reg | apply Rn.drw | apply Rn.blk | apply Rn.skip | apply Rn.ret | apply Rn.exit | apply Rn.cond rfl | refine i64_ (by omega) (by omega) ?_ | refine ne0_ (by omega) ?_ | refine WIx.intsN (by omega) ?_ | refine WIx.rowsN (by omega) ?_) <;> conv => whnf)
      refine WSt.app_oneL (id := .o (.o (.o .h))) (st := B.length) (len := B.length + 1) (cur := B.length + 1) (ds := rgF (b :: B)) (r := rgD (hs.getD (hs.length - 1 - j) default)) (by rfl) (by rfl) (by rfl) (by rfl) (by rfl) (by rfl) (by rw [rgF_length]; rfl) (by rfl) (by rfl) (by omega) (by rfl) ?_; conv => whnf
      repeat' first | ((first | (with_reducible first | apply WB.tt | apply WB.ff) | apply Rn.seq | apply Rn.reg | apply Rn.drw | apply Rn.blk | apply Rn.skip | apply Rn.ret | apply Rn.exit | apply Rn.cond rfl | refine i64_ (by omega) (by omega) ?_ | refine ne0_ (by omega) ?_ | refine WIx.intsN (by omega) ?_ | refine WIx.rowsN (by omega) ?_) <;> conv => whnf)
      refine Again.to (j + 1) (by omega) (by omega) (by show (nxG (.i (.o (.o .h))) ((hs.map (shR n)).take j)).nat ≤ (nxG (.i (.o (.o .h))) ((hs.map (shR n)).take (j + 1))).nat; rw [hA, hnA]; exact (show 9 ≤ 9 by omega)) ?_
      show Shr _ (sh1S last hs step lv ms which n  ((hs.map (shR n)).take (j + 1)) ((hs.reverse).take (j + 1)) (j + 1))
      rw [hnA, hnB, List.cons_append, List.cons_append]
      focus
        refine Shr.of ?_ ?_ rfl rfl
        · show Rel _ _ ((.n (.n (.n (.n .e (some (.i .i64 n)) .e) (some (.pt .h 0 0)) .e) none (.n (.n .e (some (.pt (.i .h) 0 0)) .e) none .e)) none (.n (.n (.n .e (some (.pt (.o .h) 0 0)) .e) none .e) (some (.i .u16 which)) (.n (.n .e (some (.i .i64 ((j + 1 : Nat) : Int))) .e) none .e))) : T D) _
          (repeat' first | exact Rel.e | refine Rel.some ?_ ?_ ?_ | refine Rel.none ?_ ?_ | refine Rel.ee ?_ ?_)
          all_goals show Fz _ _ _ _
          all_goals first | exact .pu trivial | exact .kpt (show _ < 9 by simp [Pos.nat])
        · show Rel _ _ (.n (.n (.n (.n .e (blG rgF (b :: (B ++ [hs.getD (hs.length - 1 - j) default]))) .e) none .e) (some (tabG last step (slG (.o (.i .h)) 2 (a :: (A ++ [shR n (hs.getD j default)]))) .ns .ns)) (.n .e (blG rgF (a :: (A ++ [shR n (hs.getD j default)]))) .e)) (some (tabC last hs step lv ms)) (.n .e (some (tabG last step (slG (.o (.o (.o .h))) 2 (b :: (B ++ [hs.getD (hs.length - 1 - j) default]))) (.lst 1 (ints lv)) .ns)) .e)) _
          rw [slG_snoc, slG_snoc, blG_snoc (rgF_snoc (a :: A) (shR n (hs.getD j default))), blG_snoc (rgF_snoc (b :: B) (hs.getD (hs.length - 1 - j) default))]
          (repeat' first | exact Rel.e | refine Rel.some ?_ ?_ ?_ | refine Rel.none ?_ ?_ | refine Rel.ee ?_ ?_)
          all_goals first
            | exact RO'.of (show _ < 9 by simp [Pos.nat]) (tabC_sh last hs step lv ms)
            | exact RO'.of (show _ < 9 by simp [Pos.nat]) (tabG_sh (.ksl (show _ < 9 by simp [Pos.nat])) (.pu trivial) (.pu trivial))
            | exact RO'.of (show _ < 9 by simp [Pos.nat]) (tabG_sh (.ksl (show _ < 9 by simp [Pos.nat])) (.pu (pu_ints _)) (.pu trivial))
            | (refine RO'.of (show _ < 9 by simp [Pos.nat]) ?_
               exact ShC.grown (by omega) (PuL_iff.2 fun d hd => by
                 rcases List.mem_append.1 hd with hd | hd
                 · exact PuL_iff.1 (pu_rgF _) d hd
                 · exact PuL_iff.1 (show PuL (rgD _) by simp [rgD, PuL, Pu]) d hd))
            | (refine RO'.of (show _ < 9 by simp [Pos.nat]) ?_
               exact ShC.grown (by omega) (PuL_iff.2 fun d hd => by
                 rcases List.mem_append.1 hd with hd | hd
                 · exact PuL_iff.1 (pu_rgF _) d hd
                 · exact PuL_iff.1 (show PuL (rgD _) by simp [rgD, PuL, Pu]) d hd))
  · have heA := hendA (by omega)
    have heB := hendB (by omega)
    cases A with
    | nil =>
      exfalso; have : (0 : Nat) = j := hAl; omega
    | cons a A =>
      cases B with
      | nil => exfalso; have h1 : A.length + 1 = j := hAl; have h2 : (0 : Nat) = j := hBl; omega
      | cons b B =>
      repeat' first | ((first | (with_reducible first | apply WB.tt | apply WB.ff) | apply Rn.seq | apply Rn.reg | apply Rn.drw | apply Rn.blk | apply Rn.skip | apply Rn.ret | apply Rn.exit | apply Rn.cond rfl | refine i64_ (by omega) (by omega) ?_ | refine ne0_ (by omega) ?_ | refine WIx.intsN (by omega) ?_ | refine WIx.rowsN (by omega) ?_) <;> conv => whnf)
      refine ⟨rfl, rfl, (show 4 ≤ 9 by omega), RnF.turn (z' := shX last hs step lv ms which n (tabG last step (.lst 2 (rows rgD (hs.map (shR n)))) .ns .ns) (tabG last step (.lst 2 (rows rgD hs.reverse)) (.lst 1 (ints lv)) .ns)) (B := fun id => id.nat < 4) ?_ (fun id h => h) (fun id h => h) (show 4 ≤ 4 by omega) hrest⟩
      refine ShrB.of ?_ ?_ rfl rfl
      · show Rel _ _ ((.n (.n (.n (.n .e (some (.i .i64 n)) .e) (some (.pt .h 0 0)) .e) none (.n (.n .e (some (.pt (.i .h) 0 0)) .e) none .e)) none (.n (.n (.n .e (some (.pt (.o .h) 0 0)) .e) none .e) (some (.i .u16 which)) .e)) : T D) _
        (repeat' first | exact Rel.e | refine Rel.some ?_ ?_ ?_ | refine Rel.none ?_ ?_ | refine Rel.ee ?_ ?_)
        all_goals show Fz _ _ _ _
        all_goals first | exact .pu trivial | exact .kpt (show _ < 4 by simp [Pos.nat])
      · show Rel _ _ ((.n (.n .e (some ((tabG last step (.lst 2 (rows rgD (hs.map (shR n)))) .ns .ns))) .e) (some (tabC last hs step lv ms)) (.n .e (some ((tabG last step (.lst 2 (rows rgD hs.reverse)) (.lst 1 (ints lv)) .ns))) .e)) : T C) _
        rw [← heA, ← heB]
        (repeat' first | exact Rel.e | refine Rel.some ?_ ?_ ?_ | refine Rel.none ?_ ?_ | refine Rel.ee ?_ ?_)
        all_goals first
          | exact ⟨show _ < 4 by simp [Pos.nat], tabC_sh last hs step lv ms⟩
          | exact ⟨show _ < 4 by simp [Pos.nat], tabG_sh (Fz.whole (cs := (rgF (a :: A)).map fun d => Cell.o d A.length) (cur := A.length + 1) (show ¬ 6 < 4 by omega) (by rfl) (by simp [rows]) (rg_two _) (by rfl) (pu_rg _)) (.pu trivial) (.pu trivial)⟩
          | exact ⟨show _ < 4 by simp [Pos.nat], tabG_sh (Fz.whole (cs := (rgF (b :: B)).map fun d => Cell.o d B.length) (cur := B.length + 1) (show ¬ 8 < 4 by omega) (by rfl) (by simp [rows]) (rg_two _) (by rfl) (pu_rg _)) (.pu (pu_ints _)) (.pu trivial)⟩
end Go.Ev

namespace Go.Ev
open Go.Proofs
set_option maxRecDepth 100000
/-! ### TideShifted: the marks -/

def sh3S (last : Int) (hs : List Rg) (step : Int) (lv : List Int) (ms : List Mk) (which n : Int) (H1 : List Rg) (H2 : List Int) (H3 : List Rg) (A B : List Mk) (j : Nat) : X := ⟨(.n (.n (.n (.n .e (some (.i .i64 n)) .e) (some (.pt .h 0 0)) .e) none (.n (.n .e (some (.pt (.i .h) 0 0)) .e) none (.n .e (some (.i .i64 (j : Int))) .e))) none (.n (.n (.n .e (some (.pt (.o .h) 0 0)) .e) none .e) (some (.i .u16 which)) .e)), .n (.n (.n (.n .e (blG mkF B) .e) none .e) (some (tabG last step (.lst 2 (rows rgD H1)) (.lst 1 (ints H2)) (slG (.o (.i .h)) 4 A))) (.n .e (blG mkF A) .e)) (some (tabC last hs step lv ms)) (.n .e (some (tabG last step (.lst 2 (rows rgD H3)) (.lst 1 (ints lv)) (slG (.o (.o (.o .h))) 4 B))) .e), nxG (.i (.o (.o .h))) A, none⟩
set_option maxHeartbeats 8000000 in
theorem c_sh3 (last : Int) (hs : List Rg) (step : Int) (lv : List Int) (ms : List Mk) (which n : Int) (H1 : List Rg) (H2 : List Int) (H3 : List Rg) (hn : 0 ≤ n ∧ n ≤ 29) (hlast : (hs.length : Int) = last + 1) (m5 : ms.length ≤ 5) (h10 : hs.length ≤ 10) (hvt : ∀ m ∈ ms, (0 ≤ m.fr ∧ m.fr ≤ m.to ∧ m.to < hs.length) ∧ 0 ≤ m.lo ∧ m.lo ≤ 99 ∧ 0 ≤ m.hi ∧ m.hi ≤ 99)
    (hrest : Rn Try.prog 361 (seqT 8 rc16) (shX last hs step lv ms which n (tabG last step (.lst 2 (rows rgD H1)) (.lst 1 (ints H2)) (.lst 4 (rows mkD (ms.map (shM n))))) (tabG last step (.lst 2 (rows rgD H3)) (.lst 1 (ints lv)) (.lst 4 (rows mkD (ms.map (rvM last)))))) (Fin rs16 (.b true))) :
    Rn Try.prog 361 (seqT 7 rc16) (shX last hs step lv ms which n (tabG last step (.lst 2 (rows rgD H1)) (.lst 1 (ints H2)) .ns) (tabG last step (.lst 2 (rows rgD H3)) (.lst 1 (ints lv)) .ns)) (Fin rs16 (.b true)) := by
  have e1 := rows_length mkD ms
  conv => whnf
  refine Rn.far rfl ?_
  refine RnF.seq ?_; conv => whnf
  repeat' first | ((first | (with_reducible first | apply WB.tt | apply WB.ff) | apply Rn.seq | apply Rn.reg | apply Rn.drw | apply Rn.blk | apply Rn.skip | apply Rn.ret | apply Rn.exit | apply Rn.cond rfl | refine i64_ (by omega) (by omega) ?_ | refine ne0_ (by omega) ?_ | refine WIx.intsN (by omega) ?_ | refine WIx.rowsN (by omega) ?_) <;> conv => whnf)
  refine Rn.loop (fun j : Nat => sh3S last hs step lv ms which n H1 H2 H3 ((ms.map (shM n)).take j) ((ms.map (rvM last)).take j) j) (fun j => j ≤ ms.length) (fun j => ms.length - j) 0 ?_ ?_ ?_
  · refine X.le.mk ?_ ?_ (Nat.le_refl _) rfl rfl
    · show T.le ((.n (.n (.n (.n .e (some (.i .i64 n)) .e) (some (.pt .h 0 0)) .e) none (.n (.n .e (some (.pt (.i .h) 0 0)) .e) none (.n .e (some (.i .i64 0)) .e))) none (.n (.n (.n .e (some (.pt (.o .h) 0 0)) .e) none .e) (some (.i .u16 which)) .e)) : T D) _
      (repeat' first | exact T.le_e _ | refine T.le_some ?_ rfl ?_ | refine T.le_none ?_ ?_)
    · show T.le (.n (.n (.n (.n .e none .e) none .e) (some (tabG last step (.lst 2 (rows rgD H1)) (.lst 1 (ints H2)) .ns)) (.n .e none .e)) (some (tabC last hs step lv ms)) (.n .e (some (tabG last step (.lst 2 (rows rgD H3)) (.lst 1 (ints lv)) .ns)) .e)) _
      (repeat' first | exact T.le_e _ | refine T.le_some ?_ rfl ?_ | refine T.le_none ?_ ?_ | refine T.le_ee ?_ ?_)
  · exact Nat.zero_le _
  intro j hj
  have hj : j ≤ ms.length := hj
  have lA : (ms.map (shM n)).length = ms.length := by simp
  have lB : (ms.map (rvM last)).length = ms.length := by simp
  have hAl : ((ms.map (shM n)).take j).length = j := by rw [List.length_take]; omega
  have hBl : ((ms.map (rvM last)).take j).length = j := by rw [List.length_take]; omega
  have hendA : j = ms.length → ((ms.map (shM n)).take j) = ms.map (shM n) := fun e => List.take_of_length_le (by omega)
  have hendB : j = ms.length → ((ms.map (rvM last)).take j) = ms.map (rvM last) := fun e => List.take_of_length_le (by omega)
  have hnA : j < ms.length → ((ms.map (shM n)).take (j + 1)) = ((ms.map (shM n)).take j) ++ [shM n (ms.getD j default)] := fun h => by
    rw [take_succ_getD (d := default) (by omega)]; congr 1; simp [List.getD, h]
  have hnB : j < ms.length → ((ms.map (rvM last)).take (j + 1)) = ((ms.map (rvM last)).take j) ++ [rvM last (ms.getD j default)] := fun h => by
    rw [take_succ_getD (d := default) (by omega)]; congr 1; simp [List.getD, h]
  generalize hA : ((ms.map (shM n)).take j) = A at *
  generalize hB : ((ms.map (rvM last)).take j) = B at *
  conv => whnf
  repeat' first | ((first | (with_reducible first | apply WB.tt | apply WB.ff) | apply Rn.seq | apply Rn.reg | apply Rn.drw | apply Rn.blk | apply Rn.skip | apply Rn.ret | apply Rn.exit | apply Rn.cond rfl | refine i64_ (by omega) (by omega) ?_ | refine ne0_ (by omega) ?_ | refine WIx.intsN (by omega) ?_ | refine WIx.rowsN (by omega) ?_) <;> conv => whnf)
  refine WB.dec (fun h => ?_) (fun h => ?_) <;> conv => whnf
  · have hlt : j < ms.length := by omega
    have hnA := hnA hlt
    have hnB := hnB hlt
    have hb := hvt (ms.getD j default) (getD_mem hlt)
    cases A with
    | nil =>
      have hB0 : B = [] := List.length_eq_zero_iff.1 (by have : (0 : Nat) = j := hAl; omega)
      subst hB0
      repeat' first | ((first | (with_reducible first | apply WB.tt | apply WB.ff) | apply Rn.seq | apply Rn.reg | apply Rn.drw | apply Rn.blk | apply Rn.skip | apply Rn.ret | apply Rn.exit | apply Rn.cond rfl | refine i64_ (by omega) (by omega) ?_ | refine ne0_ (by omega) ?_ | refine WIx.intsN (by omega) ?_ | refine WIx.rowsN (by omega) ?_) <;> conv => whnf)
      refine WSt.app_first (r := mkD (shM n (ms.getD j default))) (by rfl) (.inl rfl) (by rfl) (by rfl) (by rfl) (by rfl) ?_; conv => whnf
      repeat' first | ((first | (with_reducible first | apply WB.tt | apply WB.ff) | apply Rn.seq | apply Rn.reg | apply Rn.drw | apply Rn.blk | apply Rn.skip | apply Rn.ret | apply Rn.exit | apply Rn.cond rfl | refine i64_ (by omega) (by omega) ?_ | refine ne0_ (by omega) ?_ | refine WIx.intsN (by omega) ?_ | refine WIx.rowsN (by omega) ?_) <;> conv => whnf)
      refine WSt.app_first (r := mkD (rvM last (ms.getD j default))) (by rfl) (.inl rfl) (by rfl) (by rfl) (by rfl) (by rfl) ?_; conv => whnf
      repeat' first | ((first | (with_reducible first | apply WB.tt | apply WB.ff) | apply Rn.seq | apply Rn.reg | apply Rn.drw | apply Rn.blk | apply Rn.skip | apply Rn.ret | apply Rn.exit | apply Rn.cond rfl | refine i64_ (by omega) (by omega) ?_ | refine ne0_ (by omega) ?_ | refine WIx.intsN (by omega) ?_ | refine WIx.rowsN (by omega) ?_) <;> conv => whnf)
      refine Again.to (j + 1) (by omega) (by omega) (by show (nxG (.i (.o (.o .h))) ((ms.map (shM n)).take j)).nat ≤ (nxG (.i (.o (.o .h))) ((ms.map (shM n)).take (j + 1))).nat; rw [hA, hnA]; exact (show 4 ≤ 9 by omega)) ?_
      show Shr _ (sh3S last hs step lv ms which n H1 H2 H3 ((ms.map (shM n)).take (j + 1)) ((ms.map (rvM last)).take (j + 1)) (j + 1))
      rw [hnA, hnB]
      focus
        refine Shr.of ?_ ?_ rfl rfl
        · show Rel _ _ ((.n (.n (.n (.n .e (some (.i .i64 n)) .e) (some (.pt .h 0 0)) .e) none (.n (.n .e (some (.pt (.i .h) 0 0)) .e) none (.n .e (some (.i .i64 ((j + 1 : Nat) : Int))) .e))) none (.n (.n (.n .e (some (.pt (.o .h) 0 0)) .e) none .e) (some (.i .u16 which)) .e)) : T D) _
          (repeat' first | exact Rel.e | refine Rel.some ?_ ?_ ?_ | refine Rel.none ?_ ?_ | refine Rel.ee ?_ ?_)
          all_goals show Fz _ _ _ _
          all_goals first | exact .pu trivial | exact .kpt (show _ < 9 by simp [Pos.nat])
        · show Rel _ _ (.n (.n (.n (.n .e (some (.cells false ((mkD (rvM last (ms.getD j default))).map fun d => Cell.o d 0) 1)) .e) none .e) (some (tabG last step (.lst 2 (rows rgD H1)) (.lst 1 (ints H2)) (.sl (.o (.i .h)) 0 1 0 4))) (.n .e (some (.cells false ((mkD (shM n (ms.getD j default))).map fun d => Cell.o d 0) 1)) .e)) (some (tabC last hs step lv ms)) (.n .e (some (tabG last step (.lst 2 (rows rgD H3)) (.lst 1 (ints lv)) (.sl (.o (.o (.o .h))) 0 1 0 4))) .e)) _
          (repeat' first | exact Rel.e | refine Rel.some ?_ ?_ ?_ | refine Rel.none ?_ ?_ | refine Rel.ee ?_ ?_)
          all_goals first
            | exact RO'.of (show _ < 9 by simp [Pos.nat]) (tabC_sh last hs step lv ms)
            | exact RO'.of (show _ < 9 by simp [Pos.nat]) (tabG_sh (.pu (pu_rg _)) (.pu (pu_ints _)) (.ksl (show _ < 9 by simp [Pos.nat])))
            | exact RO'.of (show _ < 9 by simp [Pos.nat]) (tabG_sh (.pu (pu_rg _)) (.pu (pu_ints _)) (.ksl (show _ < 9 by simp [Pos.nat])))
            | exact RO'.of (show _ < 9 by simp [Pos.nat]) (ShC.same (ShC.cn (.pu trivial) (ShC.cn (.pu trivial) (ShC.cn (.pu trivial) (ShC.cn (.pu trivial) ShC.nl)))))
    | cons a A =>
      cases B with
      | nil => exfalso; have h1 : A.length + 1 = j := hAl; have h2 : (0 : Nat) = j := hBl; omega
      | cons b B =>
      have hs5 : A.length + 1 ≤ 10 := by have : A.length + 1 = j := hAl; omega
      have hs6 : B.length + 1 ≤ 10 := by have : B.length + 1 = j := hBl; omega
      repeat' first | ((first | (with_reducible first | apply WB.tt | apply WB.ff) | apply Rn.seq | apply Rn.reg | apply Rn.drw | apply Rn.blk | apply Rn.skip | apply Rn.ret | apply Rn.exit | apply Rn.cond rfl | refine i64_ (by omega) (by omega) ?_ | refine ne0_ (by omega) ?_ | refine WIx.intsN (by omega) ?_ | refine WIx.rowsN (by omega) ?_) <;> conv => whnf)
      refine WSt.app_one (id := .o (.i .h)) (st := A.length) (len := A.length + 1) (cur := A.length + 1) (ds := mkF (a :: A)) (r := mkD (shM n (ms.getD j default))) (by rfl) (by rfl) (by rfl) (by rfl) (by rfl) (by rfl) (by rw [mkF_length]; rfl) (by rfl) (by rfl) (by omega) (by rfl) ?_; conv => whnf
      repeat' first | ((first | (with_reducible first | apply WB.tt | apply WB.ff) | apply Rn.seq | apply Rn.reg | apply Rn.drw | apply Rn.blk | apply Rn.skip | apply Rn.ret | apply Rn.exit | apply Rn.cond rfl | refine i64_ (by omega) (by omega) ?_ | refine ne0_ (by omega) ?_ | refine WIx.intsN (by omega) ?_ | refine WIx.rowsN (by omega) ?_) <;> conv => whnf)
      refine WSt.app_one (id := .o (.o (.o .h))) (st := B.length) (len := B.length + 1) (cur := B.length + 1) (ds := mkF (b :: B)) (r := mkD (rvM last (ms.getD j default))) (by rfl) (by rfl) (by rfl) (by rfl) (by rfl) (by rfl) (by rw [mkF_length]; rfl) (by rfl) (by rfl) (by omega) (by rfl) ?_; conv => whnf
      repeat' first | ((first | (with_reducible first | apply WB.tt | apply WB.ff) | apply Rn.seq | apply Rn.reg | apply Rn.drw | apply Rn.blk | apply Rn.skip | apply Rn.ret | apply Rn.exit | apply Rn.cond rfl | refine i64_ (by omega) (by omega) ?_ | refine ne0_ (by omega) ?_ | refine WIx.intsN (by omega) ?_ | refine WIx.rowsN (by omega) ?_) <;> conv => whnf)
      refine Again.to (j + 1) (by omega) (by omega) (by show (nxG (.i (.o (.o .h))) ((ms.map (shM n)).take j)).nat ≤ (nxG (.i (.o (.o .h))) ((ms.map (shM n)).take (j + 1))).nat; rw [hA, hnA]; exact (show 9 ≤ 9 by omega)) ?_
      show Shr _ (sh3S last hs step lv ms which n H1 H2 H3 ((ms.map (shM n)).take (j + 1)) ((ms.map (rvM last)).take (j + 1)) (j + 1))
      rw [hnA, hnB, List.cons_append, List.cons_append]
      focus
        refine Shr.of ?_ ?_ rfl rfl
        · show Rel _ _ ((.n (.n (.n (.n .e (some (.i .i64 n)) .e) (some (.pt .h 0 0)) .e) none (.n (.n .e (some (.pt (.i .h) 0 0)) .e) none (.n .e (some (.i .i64 ((j + 1 : Nat) : Int))) .e))) none (.n (.n (.n .e (some (.pt (.o .h) 0 0)) .e) none .e) (some (.i .u16 which)) .e)) : T D) _
          (repeat' first | exact Rel.e | refine Rel.some ?_ ?_ ?_ | refine Rel.none ?_ ?_ | refine Rel.ee ?_ ?_)
          all_goals show Fz _ _ _ _
          all_goals first | exact .pu trivial | exact .kpt (show _ < 9 by simp [Pos.nat])
        · show Rel _ _ (.n (.n (.n (.n .e (blG mkF (b :: (B ++ [rvM last (ms.getD j default)]))) .e) none .e) (some (tabG last step (.lst 2 (rows rgD H1)) (.lst 1 (ints H2)) (slG (.o (.i .h)) 4 (a :: (A ++ [shM n (ms.getD j default)]))))) (.n .e (blG mkF (a :: (A ++ [shM n (ms.getD j default)]))) .e)) (some (tabC last hs step lv ms)) (.n .e (some (tabG last step (.lst 2 (rows rgD H3)) (.lst 1 (ints lv)) (slG (.o (.o (.o .h))) 4 (b :: (B ++ [rvM last (ms.getD j default)]))))) .e)) _
          rw [slG_snoc, slG_snoc, blG_snoc (mkF_snoc (a :: A) (shM n (ms.getD j default))), blG_snoc (mkF_snoc (b :: B) (rvM last (ms.getD j default)))]
          (repeat' first | exact Rel.e | refine Rel.some ?_ ?_ ?_ | refine Rel.none ?_ ?_ | refine Rel.ee ?_ ?_)
          all_goals first
            | exact RO'.of (show _ < 9 by simp [Pos.nat]) (tabC_sh last hs step lv ms)
            | exact RO'.of (show _ < 9 by simp [Pos.nat]) (tabG_sh (.pu (pu_rg _)) (.pu (pu_ints _)) (.ksl (show _ < 9 by simp [Pos.nat])))
            | exact RO'.of (show _ < 9 by simp [Pos.nat]) (tabG_sh (.pu (pu_rg _)) (.pu (pu_ints _)) (.ksl (show _ < 9 by simp [Pos.nat])))
            | (refine RO'.of (show _ < 9 by simp [Pos.nat]) ?_
               exact ShC.grown (by omega) (PuL_iff.2 fun d hd => by
                 rcases List.mem_append.1 hd with hd | hd
                 · exact PuL_iff.1 (pu_mkF _) d hd
                 · exact PuL_iff.1 (show PuL (mkD _) by simp [mkD, PuL, Pu]) d hd))
            | (refine RO'.of (show _ < 9 by simp [Pos.nat]) ?_
               exact ShC.grown (by omega) (PuL_iff.2 fun d hd => by
                 rcases List.mem_append.1 hd with hd | hd
                 · exact PuL_iff.1 (pu_mkF _) d hd
                 · exact PuL_iff.1 (show PuL (mkD _) by simp [mkD, PuL, Pu]) d hd))
  · have heA := hendA (by omega)
    have heB := hendB (by omega)
    cases A with
    | nil =>
      have hB0 : B = [] := List.length_eq_zero_iff.1 (by have : (0 : Nat) = j := hAl; omega)
      subst hB0
      repeat' first | ((first | (with_reducible first | apply WB.tt | apply WB.ff) | apply Rn.seq | apply Rn.reg | apply Rn.drw | apply Rn.blk | apply Rn.skip | apply Rn.ret | apply Rn.exit | apply Rn.cond rfl | refine i64_ (by omega) (by omega) ?_ | refine ne0_ (by omega) ?_ | refine WIx.intsN (by omega) ?_ | refine WIx.rowsN (by omega) ?_) <;> conv => whnf)
      refine ⟨rfl, rfl, (show 4 ≤ 4 by omega), RnF.turn (z' := shX last hs step lv ms which n (tabG last step (.lst 2 (rows rgD H1)) (.lst 1 (ints H2)) (.lst 4 (rows mkD (ms.map (shM n))))) (tabG last step (.lst 2 (rows rgD H3)) (.lst 1 (ints lv)) (.lst 4 (rows mkD (ms.map (rvM last)))))) (B := fun id => id.nat < 4) ?_ (fun id h => h) (fun id h => h) (show 4 ≤ 4 by omega) hrest⟩
      refine ShrB.of ?_ ?_ rfl rfl
      · show Rel _ _ ((.n (.n (.n (.n .e (some (.i .i64 n)) .e) (some (.pt .h 0 0)) .e) none (.n (.n .e (some (.pt (.i .h) 0 0)) .e) none .e)) none (.n (.n (.n .e (some (.pt (.o .h) 0 0)) .e) none .e) (some (.i .u16 which)) .e)) : T D) _
        (repeat' first | exact Rel.e | refine Rel.some ?_ ?_ ?_ | refine Rel.none ?_ ?_ | refine Rel.ee ?_ ?_)
        all_goals show Fz _ _ _ _
        all_goals first | exact .pu trivial | exact .kpt (show _ < 4 by simp [Pos.nat])
      · show Rel _ _ ((.n (.n .e (some ((tabG last step (.lst 2 (rows rgD H1)) (.lst 1 (ints H2)) (.lst 4 (rows mkD (ms.map (shM n))))))) .e) (some (tabC last hs step lv ms)) (.n .e (some ((tabG last step (.lst 2 (rows rgD H3)) (.lst 1 (ints lv)) (.lst 4 (rows mkD (ms.map (rvM last))))))) .e)) : T C) _
        rw [← heA, ← heB]
        (repeat' first | exact Rel.e | refine Rel.some ?_ ?_ ?_ | refine Rel.none ?_ ?_ | refine Rel.ee ?_ ?_)
        all_goals first
          | exact ⟨show _ < 4 by simp [Pos.nat], tabC_sh last hs step lv ms⟩
          | exact ⟨show _ < 4 by simp [Pos.nat], tabG_sh (.pu (pu_rg _)) (.pu (pu_ints _)) .ns⟩
          | exact ⟨show _ < 4 by simp [Pos.nat], tabG_sh (.pu (pu_rg _)) (.pu (pu_ints _)) .ns⟩
    | cons a A =>
      cases B with
      | nil => exfalso; have h1 : A.length + 1 = j := hAl; have h2 : (0 : Nat) = j := hBl; omega
      | cons b B =>
      repeat' first | ((first | (with_reducible first | apply WB.tt | apply WB.ff) | apply Rn.seq | apply Rn.reg | apply Rn.drw | apply Rn.blk | apply Rn.skip | apply Rn.ret | apply Rn.exit | apply Rn.cond rfl | refine i64_ (by omega) (by omega) ?_ | refine ne0_ (by omega) ?_ | refine WIx.intsN (by omega) ?_ | refine WIx.rowsN (by omega) ?_) <;> conv => whnf)
      refine ⟨rfl, rfl, (show 4 ≤ 9 by omega), RnF.turn (z' := shX last hs step lv ms which n (tabG last step (.lst 2 (rows rgD H1)) (.lst 1 (ints H2)) (.lst 4 (rows mkD (ms.map (shM n))))) (tabG last step (.lst 2 (rows rgD H3)) (.lst 1 (ints lv)) (.lst 4 (rows mkD (ms.map (rvM last)))))) (B := fun id => id.nat < 4) ?_ (fun id h => h) (fun id h => h) (show 4 ≤ 4 by omega) hrest⟩
      refine ShrB.of ?_ ?_ rfl rfl
      · show Rel _ _ ((.n (.n (.n (.n .e (some (.i .i64 n)) .e) (some (.pt .h 0 0)) .e) none (.n (.n .e (some (.pt (.i .h) 0 0)) .e) none .e)) none (.n (.n (.n .e (some (.pt (.o .h) 0 0)) .e) none .e) (some (.i .u16 which)) .e)) : T D) _
        (repeat' first | exact Rel.e | refine Rel.some ?_ ?_ ?_ | refine Rel.none ?_ ?_ | refine Rel.ee ?_ ?_)
        all_goals show Fz _ _ _ _
        all_goals first | exact .pu trivial | exact .kpt (show _ < 4 by simp [Pos.nat])
      · show Rel _ _ ((.n (.n .e (some ((tabG last step (.lst 2 (rows rgD H1)) (.lst 1 (ints H2)) (.lst 4 (rows mkD (ms.map (shM n))))))) .e) (some (tabC last hs step lv ms)) (.n .e (some ((tabG last step (.lst 2 (rows rgD H3)) (.lst 1 (ints lv)) (.lst 4 (rows mkD (ms.map (rvM last))))))) .e)) : T C) _
        rw [← heA, ← heB]
        (repeat' first | exact Rel.e | refine Rel.some ?_ ?_ ?_ | refine Rel.none ?_ ?_ | refine Rel.ee ?_ ?_)
        all_goals first
          | exact ⟨show _ < 4 by simp [Pos.nat], tabC_sh last hs step lv ms⟩
          | exact ⟨show _ < 4 by simp [Pos.nat], tabG_sh (.pu (pu_rg _)) (.pu (pu_ints _)) (Fz.whole (cs := (mkF (a :: A)).map fun d => Cell.o d A.length) (cur := A.length + 1) (show ¬ 6 < 4 by omega) (by rfl) (by simp [rows]) (mk_four _) (by rfl) (pu_mk _))⟩
          | exact ⟨show _ < 4 by simp [Pos.nat], tabG_sh (.pu (pu_rg _)) (.pu (pu_ints _)) (Fz.whole (cs := (mkF (b :: B)).map fun d => Cell.o d B.length) (cur := B.length + 1) (show ¬ 8 < 4 by omega) (by rfl) (by simp [rows]) (mk_four _) (by rfl) (pu_mk _))⟩
end Go.Ev

namespace Go.Ev
open Go.Proofs
set_option maxRecDepth 100000
/-! ### TideShifted -/
theorem marks_in {last : Int} {hs : List Rg} {step : Int} {lv : List Int} {ms : List Mk} (hf : faultR last hs step lv ms = 0) : ∀ m ∈ ms, 0 ≤ m.lo ∧ m.lo ≤ m.hi ∧ m.hi ≤ 99 := by
  obtain ⟨V, hm, hA⟩ := fault_zero hf
  have f1 : ¬ (9 < last ∨ 6 < lv.length ∨ 5 < ms.length) := by
    have := V.n; have := V.h10; have := V.lv6; have := V.ms5
    omega
  rw [fault_ok f1] at hf
  have hv : validB last hs step lv ms = true := by
    by_cases h : validB last hs step lv ms = true
    · exact h
    · rw [if_neg h] at hf; exact absurd hf (by decide)
  unfold validB at hv
  simp only [Bool.and_eq_true] at hv
  intro m h
  have h2 := List.all_eq_true.1 hv.2.2.2.2.2 m h
  unfold mkB rgB hgtB at h2
  simp only [Bool.and_eq_true, inB_iff] at h2
  omega
section
variable {last : Int} {hs : List Rg} {step : Int} {lv : List Int} {ms : List Mk}
/-- What Bounds and Dry answer for a table that is right in itself. -/
theorem bnd_nil (hf : faultR last hs step lv ms = 0) (h : truthS hs step ms = []) : bndE last hs step lv ms = 11 ∧ bndL last hs step lv ms = [] ∧ dryE last hs step lv ms 0 last = 11 ∧ dryR last hs step lv ms 0 last = 0 := by
  obtain ⟨V, hm, _⟩ := fault_zero hf
  have hn := V.n
  have h1 := V.h1
  have s1 : spanB last 0 last = true := by unfold spanB; rw [inB_iff.2 (by omega), inB_iff.2 (by omega)]; rfl
  have e : bndE last hs step lv ms = 11 := by unfold bndE startE; rw [if_pos hf, cond_true, if_pos h]
  have e2 : dryE last hs step lv ms 0 last = 11 := by unfold dryE; rw [s1]; exact e
  refine ⟨e, ?_, e2, ?_⟩
  · unfold bndL; rw [if_neg (by rw [e]; decide)]
  · unfold dryR; rw [if_neg (by rw [e2]; decide)]
theorem bnd_some (hf : faultR last hs step lv ms = 0) (h : truthS hs step ms ≠ []) : bndE last hs step lv ms = 0 ∧ bndL last hs step lv ms = bdsR (truthS hs step ms) hs.length ∧ dryE last hs step lv ms 0 last = 0 ∧ dryR last hs step lv ms 0 last = dryT (truthS hs step ms) 0 hs.length := by
  obtain ⟨V, hm, _⟩ := fault_zero hf
  have hn := V.n
  have h1 := V.h1
  have s1 : spanB last 0 last = true := by unfold spanB; rw [inB_iff.2 (by omega), inB_iff.2 (by omega)]; rfl
  have e : bndE last hs step lv ms = 0 := by unfold bndE startE; rw [if_pos hf, cond_true, if_neg h]
  have e2 : dryE last hs step lv ms 0 last = 0 := by unfold dryE; rw [s1]; exact e
  refine ⟨e, ?_, e2, ?_⟩
  · unfold bndL; rw [if_pos e]
  · unfold dryR; rw [if_pos e2]; congr 1; omega
theorem bds_ok (hf : faultR last hs step lv ms = 0) (h : truthS hs step ms ≠ []) : ∀ r ∈ bdsR (truthS hs step ms) hs.length, 0 ≤ r.lo ∧ r.lo ≤ 99 ∧ 0 ≤ r.hi ∧ r.hi ≤ 99 := by
  obtain ⟨V, hm, _⟩ := fault_zero hf
  intro r hr
  unfold bdsR at hr
  obtain ⟨j, hj, rfl⟩ := List.mem_map.1 hr
  have hj := List.mem_range.1 hj
  obtain ⟨⟨a, ha, a1⟩, b, hb, b1⟩ := bdG_at h j
  obtain ⟨t, ht, rfl⟩ := (mem_truthS V hm).1 ha
  obtain ⟨u, hu, rfl⟩ := (mem_truthS V hm).1 hb
  have h1 := truth_hts V hm ht hj
  have h2 := truth_hts V hm hu hj
  have e1 : wantS t j = t.getD j 0 := rfl
  have e2 : wantS u j = u.getD j 0 := rfl
  omega
theorem dry_ok (hf : faultR last hs step lv ms = 0) (h : truthS hs step ms ≠ []) : 0 ≤ dryT (truthS hs step ms) 0 hs.length ∧ dryT (truthS hs step ms) 0 hs.length ≤ 99 := by
  have k := bds_ok hf h
  refine ⟨((dryT_le _ 0 _ _).1 (Int.le_refl _)).1, (dryT_le _ 0 _ _).2 ⟨by omega, fun j hj => ?_⟩⟩
  have := k (bdG (truthS hs step ms) j) (List.mem_map_of_mem (List.mem_range.2 hj))
  rw [Nat.zero_add]
  exact this.2.2.2
end
set_option maxHeartbeats 8000000 in
theorem c_shAll (last : Int) (hs : List Rg) (step : Int) (lv : List Int) (ms : List Mk) (which n : Int) (hn : 0 ≤ n ∧ n ≤ 29) (w1 : 0 ≤ which ∧ which ≤ 65535) (hT : thinR last hs step lv ms = true) (hf : faultR last hs step lv ms = 0) (AW : PureF Try.prog p21.ix [] (.b true)) :
    Rn Try.prog 361 (seqT 5 rc16) (shX last hs step lv ms which n (tabG last step .ns .ns .ns) (tabG last step .ns (.lst 1 (ints lv)) .ns)) (Fin rs16 (.b true)) := by
  obtain ⟨V, hm, hA⟩ := fault_zero hf
  have hf3 := fault_rv hf
  obtain ⟨V3, hm3, _⟩ := fault_zero hf3
  have h6 := V.lv6
  have h5 := V.ms5
  have h10 := V.h10
  have hpos := V.h1
  have hlast := V.n
  have hlv : Hts lv := fun x hx => V.lvs x hx
  have l2 : (hs.map (shR n)).length = hs.length := by simp
  have l3 : hs.reverse.length = hs.length := by simp
  have l4 : (upL n lv).length = lv.length := upL_len n lv
  have l5 : (ms.map (shM n)).length = ms.length := by simp
  have l6 : (ms.map (rvM last)).length = ms.length := by simp
  have iT := c_Table last hs step lv ms (by omega) (by omega) (by omega)
  have iX := c_Table last (hs.map (shR n)) step (upL n lv) (ms.map (shM n)) (by omega) (by omega) (by omega)
  have iY := c_Table last hs.reverse step lv (ms.map (rvM last)) (by omega) (by omega) (by omega)
  have h150 := thin_many hT hf
  have hTl : (truthS hs step ms).length ≤ 1000 := Nat.le_trans (List.length_filter_le _ _) (Nat.le_trans (exS_150 V.hv h150 step) (by omega))
  have hTl3 : (truthS hs.reverse step (ms.map (rvM last))).length ≤ 1000 := Nat.le_trans (List.length_filter_le _ _) (Nat.le_trans (exS_150 V3.hv (by rw [rv_many V.hv]; exact h150) step) (by omega))
  have iB := c_Bounds last hs step lv ms fun _ => hTl
  have iC := c_Bounds last hs.reverse step lv (ms.map (rvM last)) fun _ => hTl3
  have iD := c_Dry last hs step lv ms 0 last fun _ => hTl
  -- the list with a number
  have hLs : 0 < (listsR hs step).length := by
    obtain ⟨t, ht1, ht2⟩ := List.any_eq_true.1 hA
    exact List.length_pos_of_mem (List.mem_filter.2 ⟨ht1, ht2⟩ : t ∈ listsR hs step)
  have m6 := Int.tmod_nonneg ((listsR hs step).length : Int) w1.1
  have m7 := Int.tmod_lt_of_pos which (show (0 : Int) < ((listsR hs step).length : Int) by omega)
  obtain ⟨q, hq2⟩ := Int.eq_ofNat_of_zero_le m6
  have hql : q < (listsR hs step).length := by omega
  have hmem : (listsR hs step).getD q default ∈ listsR hs step := getD_mem hql
  obtain ⟨s, hs'⟩ : ∃ s, (listsR hs step).getD q default = s := ⟨_, rfl⟩
  rw [hs'] at hmem
  have hlis := (mem_listsR V.hv hm).1 hmem
  have hsl : s.length = hs.length := listed_lenZ hlis
  have hts : Hts s := by
    have h2 := hlis
    unfold listedR at h2
    simp only [Bool.and_eq_true] at h2
    refine listed_hts V.hv hsl ?_
    rw [hsl]
    have := h2.1
    rw [hsl, Nat.min_self] at this
    exact this
  have hwf : ∀ i, wfB .i64 (s.getD i 0) = true := fun i => wf_small (by have := hts.at i; omega) (by have := hts.at i; omega)
  have hts2 : Hts (upL (-n) (upL n s)) := by rw [upL_up, show n + -n = 0 by omega, upL_zero]; exact hts
  have hwf2 : ∀ i, wfB .i64 ((upL n s).getD i 0) = true := fun i => by
    by_cases h : i < s.length
    · rw [upL_at h]; exact wf_small (by have := hts.at i; omega) (by have := hts.at i; omega)
    · rw [List.getD_eq_getElem?_getD, List.getElem?_eq_none (by rw [upL_len]; omega)]; rfl
  have iP := c_Play last hs step lv ms s hwf
  have hpl : playR last hs step lv ms s = (wetsR lv (wantS s) last, 0) := by unfold playR; rw [if_pos hf, if_pos hlis]
  rw [hpl] at iP
  have hWl : ∀ r ∈ wetsR lv (wantS s) last, r.length ≤ 1000 := fun r hr => by
    unfold wetsR at hr
    obtain ⟨k, _, rfl⟩ := List.mem_map.1 hr
    unfold wetR
    refine Nat.le_trans (List.length_filter_le _ _) ?_
    rw [hrs_length]
    omega
  have hx2 : readyB last (hs.map (shR n)) step (upL n lv) (ms.map (shM n)) = true → faultR last (hs.map (shR n)) step (upL n lv) (ms.map (shM n)) = 0 ∧ (truthS (hs.map (shR n)) step (ms.map (shM n))).length ≤ 1000 := fun hR => by
    unfold readyB at hR
    rw [Bool.and_eq_true, decide_eq_true_iff] at hR
    exact ⟨hR.2, Nat.le_trans (List.length_filter_le _ _) (Nat.le_trans (thin_exS hR.1 hR.2) (by omega))⟩
  have hU : faultR last (hs.map (shR n)) step (upL n lv) (ms.map (shM n)) = 0 → Rn Try.prog 361 rc16U (shUZ last hs (hs.map (shR n)) step lv (upL n lv) ms (ms.map (shM n)) which n) (Fin rs16 (.b true)) := fun hfx => by
    have iQ := c_Play last (hs.map (shR n)) step (upL n lv) (ms.map (shM n)) (upL n s) hwf2
    have hpq : playR last (hs.map (shR n)) step (upL n lv) (ms.map (shM n)) (upL n s) = (wetsR lv (wantS s) last, 0) := by
      unfold playR; rw [if_pos hfx, if_pos (by rw [up_listed]; exact hlis), up_wet (by omega)]
    rw [hpq] at iQ
    exact c_shU last hs _ step lv _ ms _ which n hn w1 V.hv h10 hpos q hq2 hql s hs' hsl hts
      (c_shP last hs _ step lv _ ms _ s (upL n s) (wetsR lv (wantS s) last) (wetsR_length _ _ _) hWl h6 (by omega) iT iX iP iQ AW)
  have hR : Rn Try.prog 361 rc16R (shRZ last hs (hs.map (shR n)) hs.reverse step lv (upL n lv) ms (ms.map (shM n)) (ms.map (rvM last)) which n) (Fin rs16 (.b true)) := by
    by_cases hne : truthS hs step ms = []
    · have hne3 := (rv_ne V V3 hm hm3).2 hne
      obtain ⟨b1, b2, b3, b4⟩ := bnd_nil hf hne
      obtain ⟨c1, c2, _, _⟩ := bnd_nil hf3 hne3
      rw [b1, b2] at iB
      rw [c1, c2] at iC
      rw [b3, b4] at iD
      refine c_shR last hs _ _ step lv _ ms _ _ which n hn iT iX iY [] [] 11 0 (.inr rfl) (by omega) (fun r h => by cases h) (by simp) rfl (fun j h => absurd h (Nat.not_lt_zero _)) iB iC iD (fun hRx => ?_) AW
      obtain ⟨hfx, hTx⟩ := hx2 hRx
      obtain ⟨Vx, hmx, _⟩ := fault_zero hfx
      have hnex := (up_ne V Vx hm hmx).2 hne
      obtain ⟨d1, d2, d3, d4⟩ := bnd_nil hfx hnex
      have iBx := c_Bounds last (hs.map (shR n)) step (upL n lv) (ms.map (shM n)) fun _ => hTx
      have iDx := c_Dry last (hs.map (shR n)) step (upL n lv) (ms.map (shM n)) 0 last fun _ => hTx
      rw [d1, d2] at iBx
      rw [d3, d4] at iDx
      exact ⟨[], 0, iBx, iDx, rfl, fun j h => absurd h (Nat.not_lt_zero _), .inr rfl, hU hfx⟩
    · have hne3 : truthS hs.reverse step (ms.map (rvM last)) ≠ [] := fun h => hne ((rv_ne V V3 hm hm3).1 h)
      obtain ⟨b1, b2, b3, b4⟩ := bnd_some hf hne
      obtain ⟨c1, c2, _, _⟩ := bnd_some hf3 hne3
      rw [b1, b2] at iB
      rw [c1, c2, l3] at iC
      rw [b3, b4] at iD
      refine c_shR last hs _ _ step lv _ ms _ _ which n hn iT iX iY (bdsR (truthS hs step ms) hs.length) (bdsR (truthS hs.reverse step (ms.map (rvM last))) hs.length) 0 (dryT (truthS hs step ms) 0 hs.length) (.inl rfl) (dry_ok hf hne) (bds_ok hf hne) (by rw [bdsR_len]; exact h10) (by rw [bdsR_len, bdsR_len]) (fun j h => ?_) iB iC iD (fun hRx => ?_) AW
      · rw [bdsR_len] at h ⊢
        rw [bdsR_at _ (show hs.length - 1 - j < hs.length by omega), bdsR_at _ h]
        exact rv_bd V V3 hm hm3 hne h
      obtain ⟨hfx, hTx⟩ := hx2 hRx
      obtain ⟨Vx, hmx, _⟩ := fault_zero hfx
      have hnex : truthS (hs.map (shR n)) step (ms.map (shM n)) ≠ [] := fun h => hne ((up_ne V Vx hm hmx).1 h)
      obtain ⟨d1, d2, d3, d4⟩ := bnd_some hfx hnex
      have iBx := c_Bounds last (hs.map (shR n)) step (upL n lv) (ms.map (shM n)) fun _ => hTx
      have iDx := c_Dry last (hs.map (shR n)) step (upL n lv) (ms.map (shM n)) 0 last fun _ => hTx
      rw [d1, d2, l2] at iBx
      rw [d3, d4, l2] at iDx
      refine ⟨_, _, iBx, iDx, by rw [bdsR_len, bdsR_len], fun j h => ?_, .inl ⟨rfl, up_dry V Vx hm hmx hne hn.1⟩, hU hfx⟩
      rw [bdsR_len] at h
      rw [bdsR_at _ h, bdsR_at _ h]
      exact up_bd V Vx hm hmx hne h
  have hvt : ∀ m ∈ ms, (0 ≤ m.fr ∧ m.fr ≤ m.to ∧ m.to < hs.length) ∧ 0 ≤ m.lo ∧ m.lo ≤ 99 ∧ 0 ≤ m.hi ∧ m.hi ≤ 99 := fun m h => by
    have := V.vt m h
    have := marks_in hf m h
    omega
  exact c_sh1 last hs step lv ms which n hn hlast hpos h10 V.hv (c_sh2 last hs step lv ms which n hn h6 hlv _ _ (c_sh3 last hs step lv ms which n _ _ _ hn hlast h5 h10 hvt hR))
set_option maxHeartbeats 8000000 in
theorem c_TideShifted (last : Int) (hs : List Rg) (step : Int) (lv : List Int) (ms : List Mk) (by' which : Int) (w2 : 0 ≤ by' ∧ by' ≤ 255) (w1 : 0 ≤ which ∧ which ≤ 65535) (AW : PureF Try.prog p21.ix [] (.b true)) : PureF Try.prog p17.ix [.ag [.i .i64 last, .lst 2 (rows rgD hs), .i .i64 step, .lst 1 (ints lv), .lst 4 (rows mkD ms)], .i .u8 by', .i .u16 which] (.b true) := by
  have iR := c_ready last hs step lv ms
  refine PureF.run fn16 (by simp) (by simp [PuL, PuE, Pu, pu_ints, pu_rg, pu_mk]) ?_; conv => whnf
  refine Rn.seq ?_; conv => whnf
  refine Rn.reg ?_; conv => whnf
  cases hR : readyB last hs step lv ms with
  | false =>
    rw [hR] at iR
    repeat' first | ((first | (with_reducible first | apply WB.tt | apply WB.ff) | apply Rn.seq | apply Rn.reg | apply Rn.drw | apply Rn.blk | apply Rn.skip | apply Rn.ret | apply Rn.exit | apply Rn.cond rfl | refine i64_ (by omega) (by omega) ?_ | refine ne0_ (by omega) ?_ | refine WIx.intsN (by omega) ?_ | refine WIx.rowsN (by omega) ?_ | refine WCall.pure (iR) ?_ | refine WCall.pure (AW) ?_ | (with_reducible first | refine WB.decT (by first | rfl | assumption | omega | exact ⟨rfl, rfl⟩) ?_ | refine WB.decF (by first | assumption | omega) ?_ | refine WB.ndT (by first | rfl | assumption | omega | exact ⟨rfl, rfl⟩) ?_ | refine WB.ndF (by first | assumption | omega) ?_ | apply WB.nt | apply WB.nf | refine WB.dec (fun h => ?_) (fun h => ?_) | refine WB.ndec (fun h => ?_) (fun h => ?_)) | refine WB.mk (fun h => ?_) (fun h => ?_)) <;> conv => whnf) | (refine WB.tt ?_; conv => whnf) | (refine WB.ff ?_; conv => whnf)
    all_goals first | exact Fin.b rfl rfl | (exfalso; omega) | exact absurd h (by decide)
  | true =>
    rw [hR] at iR
    have hR' := hR
    unfold readyB at hR'
    rw [Bool.and_eq_true, decide_eq_true_iff] at hR'
    obtain ⟨hT, hf⟩ := hR'
    have b1 := Int.tmod_nonneg 30 w2.1
    have b2 := Int.tmod_lt_of_pos by' (show (0 : Int) < 30 by omega)
    have hrest := c_shAll last hs step lv ms which (by'.tmod 30) (by omega) w1 hT hf AW
    refine Rn.seq ?_; conv => whnf
    refine Rn.seq ?_; conv => whnf
    refine Rn.reg ?_; conv => whnf
    refine WCall.pure iR ?_; conv => whnf
    refine Rn.cond rfl ?_; conv => whnf
    refine WB.ff ?_; conv => whnf
    refine Rn.skip ?_; conv => whnf
    repeat' first | (refine Rn.le hrest ?_; (first | (refine X.le.mk ?_ ?_ (Nat.le_refl _) rfl rfl) | skip) <;> (repeat' first | exact T.le_e _ | refine T.le_some ?_ ?_ ?_ | refine T.le_none ?_ ?_ | rfl)) | ((first | (with_reducible first | apply WB.tt | apply WB.ff) | apply Rn.cond rfl | apply Rn.skip | apply Rn.exit | apply Rn.reg | apply Rn.drw | apply Rn.seq | (refine And.intro (InR.i64 (by omega) (by omega)) ?_) | refine i64_ (by omega) (by omega) ?_ | refine ne0_ (by omega) ?_) <;> conv => whnf)
theorem main_tideShifted (AW : PureF Try.prog p21.ix [] (.b true)) {es : List D} (fit : FitP [(true, [.i .i64, .sl [.i .i64, .i .i64], .i .i64, .sl [.i .i64], .sl [.i .i64, .i .i64, .i .i64, .i .i64]]), (false, [.i .u8]), (false, [.i .u16])] es) : PureF Try.prog 16 es (.b true) := by
  obtain ⟨last, hs, step, lv, ms, _, rfl, g1⟩ := fit.tab
  obtain ⟨f, _, rfl, w1, g2⟩ := g1.i
  obtain ⟨t, _, rfl, w2, g3⟩ := g2.i
  obtain rfl := g3.no
  exact c_TideShifted last hs step lv ms f t (wf_u8 w1) (wf_u16 w2) AW
end Go.Ev

namespace Go.Proofs.Ytpemagogcagipaa.tideShifted
open Go.ChangeShapes Go.WideShapes Go.ChangeAt Go.RowKit
open Go.ChangeMaps (open_string shut_string)
set_option linter.unusedVariables false

theorem laid : laidOutB Try.prog = true := by kernel_rfl
theorem own : ownKnob Try.prog.godebug = none := by kernel_rfl

/-! ### the walk -/
theorem walk {es : List Go.Ev.D} (fit : Go.Ev.FitP [(true, [.i .i64, .sl [.i .i64, .i .i64], .i .i64, .sl [.i .i64], .sl [.i .i64, .i .i64, .i .i64, .i .i64]]), (false, [.i .u8]), (false, [.i .u16])] es) {args : Array Value} {W : World} (ha : Go.Ev.DVL (Go.Ev.γH W) W es args.toList) :
    Calls Try.prog 16 args W fun e w' => e = .returned (.bool true) ∧ Grown W w' ∧ Below W.heap.size W w' :=
  Go.Ev.PureF.calls (Go.Ev.main_tideShifted (fun ob nx lg => Go.Ev.closed_call Go.Ev.fp_ok Go.Ev.aw ob nx lg) fit) ha

set_option maxRecDepth 100000 in
theorem lifted (os : Os) (started : os.Started) (H : Type) (enc : TypeId × Value → H) :
    ReturnsInHanded {} Try.checked os 16 .any (Rows.tideShiftedSpec.pre6 enc Try.prog Try.f16 Rows.tideShiftedRow.domain false) (Rows.tideShiftedSpec.post enc Try.prog Try.f16 false true false false) := by
  refine returnsInHanded_of_change (C := Try.checked) own started (by kernel_rfl) Try.func16
    (ChangeSpec.witness6 (enc := enc) (C := Try.checked) false ⟨#[], #[.agg #[.int .i64 0, .slice none 0 0, .int .i64 0, .slice none 0 0, .slice none 0 0], .int .u8 0, .int .u16 0], []⟩ 8 (by kernel_rfl) (by kernel_rfl) (by kernel_rfl) (by kernel_rfl)) ?_
  intro W base args ds gs before hval0 hW hcnd _
  have hval : ∀ (j : Nat) t v, Try.f16.params[j]? = some t → args[j]? = some v → Value.okWide Try.prog W .any base t v := hval0
  have hW' := hW
  obtain ⟨p, q, hA0, hV, rfl, hfz, hnd⟩ := hW
  have hA : DataW.TrodAll enc Try.prog W 0 (fun _ => true) true Try.f16.params.toList args.toList ds p := hA0
  rw [Try.params16] at hA hval
  obtain ⟨rfl, rfl⟩ := trodVars_none hV
  obtain ⟨d0, d1, d2, rfl⟩ := Go.Ev.len3 (Go.Ev.trod_len hA)
  clear hA0 hval0
  simp only [List.append_nil] at hW'
  obtain ⟨es, fit, dv⟩ := Go.Ev.open_all (n := 6) (pars := [(true, [.i .i64, .sl [.i .i64, .i .i64], .i .i64, .sl [.i .i64], .sl [.i .i64, .i .i64, .i .i64, .i .i64]]), (false, [.i .u8]), (false, [.i .u16])]) (by kernel_rfl) hA (fun j t v h1 h2 => hval j t v (by simpa using h1) (by simpa using h2))
  have hlt : ∀ x ∈ p, x.block < W.heap.size := fun x hx => by simpa using hW'.lt x hx
  refine (walk fit dv).mono fun e W' ⟨he, hg, hb⟩ => ?_
  subst he
  exact ⟨_, rfl, post_of_same (pa := p) (pv := []) hW' (fun _ _ _ => (trodAll_cons_mk (shut_bool Try.underlying4 _) trodAll_mk0))
    (fun sp hs => Go.Ev.stays_all laid (Go.Ev.of_allT (by kernel_rfl)) hA (fun x hx => hb.same (hlt x hx)) (fun x hx => hs x hx))
    (fun _ _ => rfl) (List.append_nil _).symm
    (hg.frame _) hg.2.1 (ok_one (by kernel_rfl) rfl (okWide_bool_mk Try.underlying4 _))⟩

theorem over : Rows.tideShiftedRow.holds Try.pinned (OpenSpec.ofChange Rows.tideShiftedSpec) :=
  OpenClaim.holds_of_wide 16 Try.f16 rfl rfl rfl rfl rfl rfl rfl ⟨rfl, rfl, rfl, rfl, rfl⟩ rfl rfl rfl rfl rfl (by kernel_rfl) Try.func16 (by kernel_rfl)
    (of_decide_eq_true (by kernel_rfl)) (by unfold Func.isWrapper; first | (rw [if_pos (by decide +kernel)]; kernel_rfl) | (rw [if_neg (by decide +kernel)]; exact ⟨rfl, rfl⟩))
    (fun os started H enc _ => lifted os started H enc)

/-- ████ THE STATEMENT ████ -/
theorem proved : Rows.TideShiftedSaid :=
  over
#print axioms proved
end Go.Proofs.Ytpemagogcagipaa.tideShifted
