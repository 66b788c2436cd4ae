/-
  TokenNumbers: what is told does not hang on the tokens' numbers, nor on which of the two is called a chair.
-/
import Derived.Test.YtjgbfnciedkafaaEvUHs
import Derived.Test.YtjgbfnciedkafaaRows
import Derived.WalkKit
import Derived.ProofKit
import Derived.OpenShut
import Derived.Test.YtjgbfnciedkafaaEvUOc
import Derived.ShutString
import Derived.Test.YtjgbfnciedkafaaFaTokenNumbers
set_option linter.all false
namespace Go.Ev
open Go.Proofs
set_option maxRecDepth 1000000
def p191 : Pos := .i p95
def p192 : Pos := .o p96
def p193 : Pos := .i p96
def p194 : Pos := .o p97
def p195 : Pos := .i p97
def p196 : Pos := .o p98
def p197 : Pos := .i p98
def p198 : Pos := .o p99
def p199 : Pos := .i p99
def p200 : Pos := .o p100
def p201 : Pos := .i p100
def p202 : Pos := .o p101
def p203 : Pos := .i p101
def p204 : Pos := .o p102
def p205 : Pos := .i p102
def p206 : Pos := .o p103
def p207 : Pos := .i p103
def p208 : Pos := .o p104
def p209 : Pos := .i p104
def p210 : Pos := .o p105
def p211 : Pos := .i p105
def p212 : Pos := .o p106
def p213 : Pos := .i p106
def p214 : Pos := .o p107
def p215 : Pos := .i p107
def p216 : Pos := .o p108
def p217 : Pos := .i p108
def p218 : Pos := .o p109
def p219 : Pos := .i p109
def p220 : Pos := .o p110
def p221 : Pos := .i p110
def p222 : Pos := .o p111
def p223 : Pos := .i p111
def p224 : Pos := .o p112
def p225 : Pos := .i p112
def p226 : Pos := .o p113
def p227 : Pos := .i p113
def p228 : Pos := .o p114
def p229 : Pos := .i p114
def p230 : Pos := .o p115
def p231 : Pos := .i p115
def p232 : Pos := .o p116
def p233 : Pos := .i p116
def p234 : Pos := .o p117
def p235 : Pos := .i p117
def p236 : Pos := .o p118
def p237 : Pos := .i p118
def p238 : Pos := .o p119
def p239 : Pos := .i p119
def p240 : Pos := .o p120
def p241 : Pos := .i p120
def p242 : Pos := .o p121
def p243 : Pos := .i p121
def p244 : Pos := .o p122
def p245 : Pos := .i p122
def p246 : Pos := .o p123
def p247 : Pos := .i p123
def p248 : Pos := .o p124
def p249 : Pos := .i p124
noncomputable def rc15 : RC := (.seq (.reg [(.u (.box p5 (.t p1))), (.u (.mv p9 (.k (.b false))))]) (.seq (.seq (.reg [(.u (.ldn p38 (.t p5) 5)), (.u (.cf (some p39) p55 [(.t p38)])), (.u (.un p40 .not (.t p39)))]) (.cond (.t p40) (.seq (.reg [(.u (.cf (some p41) p22 [])), (.u (.mv p9 (.t p41)))]) .ret) .skip)) (.seq (.drw [(.u (.mv p42 (.t p2))), (.u (.cvi p43 .i64 (.t p42))), (.u (.fad p44 (.t p5) 0)), (.u (.ld1 p45 (.t p44))), (.u (.bin p46 .rem (.t p43) (.t p45))), (.u (.mv p47 (.t p3))), (.u (.cvi p48 .i64 (.t p47))), (.u (.fad p49 (.t p5) 0)), (.u (.ld1 p50 (.t p49))), (.u (.bin p51 .rem (.t p48) (.t p50))), (.u (.mv p10 (.t p46))), (.u (.mv p11 (.t p51)))] [0, 1, 0, 4, 15, 0, 32, 0, 128, 480, 31, 2047]) (.seq (.drw [(.u (.ldn p52 (.t p5) 5)), (.u (.ldn p53 (.t p5) 5)), (.u (.new p12 [(.i .i64 0), (.i .i64 0), (.i .i64 0), .ns, .ns])), (.u (.new p13 [(.i .i64 0), (.i .i64 0), (.i .i64 0), .ns, .ns])), (.u (.st (.t p12) (.t p52) 5)), (.u (.st (.t p13) (.t p53) 5))] [0, 0, 0, 0, 13, 31]) (.seq (.reg [(.u (.fad p54 (.t p12) 3)), (.u (.st (.t p54) (.k .ns) 1)), (.u (.fad p55 (.t p13) 3)), (.u (.st (.t p55) (.k .ns) 1))]) (.seq (.seq (.reg [(.u (.mv p14 (.k (.i .i64 0))))]) (.blk 0 (.loop (.seq (.seq (.reg [(.u (.mv p56 (.t p14))), (.u (.fad p57 (.t p5) 3)), (.u (.ld1 p58 (.t p57))), (.u (.len p59 (.t p58))), (.u (.bin p60 .lss (.t p56) (.t p59)))]) (.cond (.t p60) .skip (.exit 0))) (.seq (.blk 1 (.seq (.reg [(.u (.fad p63 (.t p5) 3)), (.u (.ld1 p64 (.t p63))), (.u (.mv p65 (.t p14))), (.u (.ixs p66 3 (.t p64) (.t p65))), (.u (.ldn p67 (.t p66) 3)), (.u (.new p15 [(.i .i64 0), (.i .i64 0), (.i .i64 0)])), (.u (.st (.t p15) (.t p67) 3))]) (.seq (.reg [(.u (.fad p68 (.t p13) 3)), (.u (.ld1 p69 (.t p68))), (.u (.fad p70 (.t p15) 0)), (.u (.ld1 p71 (.t p70))), (.u (.fad p72 (.t p15) 2)), (.u (.ld1 p73 (.t p72))), (.u (.fad p74 (.t p15) 1)), (.u (.ld1 p75 (.t p74))), (.u (.bld p76 [(.i .i64 0), (.i .i64 0), (.i .i64 0)] [(0, (1, (.t p71))), (1, (1, (.t p73))), (2, (1, (.t p75)))])), (.u (.bsl p77 3 1 [(.i .i64 0), (.i .i64 0), (.i .i64 0)] [(0, (3, (.t p76)))])), (.u (.app p78 3 (.t p69) (.t p77))), (.u (.fad p79 (.t p13) 3)), (.u (.st (.t p79) (.t p78) 1))]) (.seq (.seq (.reg [(.u (.fad p80 (.t p15) 2)), (.u (.ld1 p81 (.t p80))), (.u (.mv p82 (.t p10))), (.u (.bin p83 .eql (.t p81) (.t p82)))]) (.cond (.t p83) (.reg [(.u (.mv p84 (.t p11))), (.u (.fad p85 (.t p15) 2)), (.u (.st (.t p85) (.t p84) 1))]) (.seq (.reg [(.u (.fad p86 (.t p15) 2)), (.u (.ld1 p87 (.t p86))), (.u (.mv p88 (.t p11))), (.u (.bin p89 .eql (.t p87) (.t p88)))]) (.cond (.t p89) (.reg [(.u (.mv p90 (.t p10))), (.u (.fad p91 (.t p15) 2)), (.u (.st (.t p91) (.t p90) 1))]) .skip)))) (.reg [(.u (.fad p92 (.t p12) 3)), (.u (.ld1 p93 (.t p92))), (.u (.ldn p94 (.t p15) 3)), (.u (.bsl p95 3 1 [(.i .i64 0), (.i .i64 0), (.i .i64 0)] [(0, (3, (.t p94)))])), (.u (.app p96 3 (.t p93) (.t p95))), (.u (.fad p97 (.t p12) 3)), (.u (.st (.t p97) (.t p96) 1))]))))) (.reg [(.u (.mv p61 (.t p14))), (.u (.bin p62 .add (.t p61) (.k (.i .i64 1)))), (.u (.mv p14 (.t p62)))])))))) (.seq (.reg [(.u (.mv p98 (.t p4))), (.u (.cvi p99 .i64 (.t p98))), (.u (.fad p100 (.t p5) 3)), (.u (.ld1 p101 (.t p100))), (.u (.len p102 (.t p101))), (.u (.bin p103 .add (.t p102) (.k (.i .i64 1)))), (.u (.bin p104 .rem (.t p99) (.t p103))), (.u (.mv p16 (.t p104)))]) (.seq (.reg [(.u (.ldn p106 (.t p5) 5)), (.u (.cf (some p107) p24 [(.t p106)])), (.u (.mv p108 (.t p16))), (.u (.cf (some p109) p34 [(.t p107), (.t p108)])), (.u (.mv p105 (.t p109))), (.u (.ext p110 (.t p105) 0)), (.u (.ext p111 (.t p105) 1)), (.u (.ext p112 (.t p105) 2)), (.u (.mv p17 (.t p110))), (.u (.mv p18 (.t p111))), (.u (.mv p19 (.t p112)))]) (.seq (.reg [(.u (.ldn p114 (.t p12) 5)), (.u (.cf (some p115) p24 [(.t p114)])), (.u (.mv p116 (.t p16))), (.u (.cf (some p117) p34 [(.t p115), (.t p116)])), (.u (.mv p113 (.t p117))), (.u (.ext p118 (.t p113) 0)), (.u (.ext p119 (.t p113) 1)), (.u (.ext p120 (.t p113) 2)), (.u (.mv p20 (.t p118))), (.u (.mv p21 (.t p119))), (.u (.mv p22 (.t p120)))]) (.seq (.reg [(.u (.ldn p122 (.t p13) 5)), (.u (.cf (some p123) p24 [(.t p122)])), (.u (.mv p124 (.t p16))), (.u (.cf (some p125) p34 [(.t p123), (.t p124)])), (.u (.mv p121 (.t p125))), (.u (.ext p126 (.t p121) 0)), (.u (.ext p127 (.t p121) 1)), (.u (.ext p128 (.t p121) 2)), (.u (.mv p23 (.t p126))), (.u (.mv p24 (.t p127))), (.u (.mv p25 (.t p128)))]) (.seq (.reg [(.u (.ldn p130 (.t p5) 5)), (.u (.cf (some p131) p24 [(.t p130)])), (.u (.mv p132 (.t p16))), (.u (.cf (some p133) p39 [(.t p131), (.t p132)])), (.u (.mv p129 (.t p133))), (.u (.ext p134 (.t p129) 0)), (.u (.ext p135 (.t p129) 1)), (.u (.new p26 [(.i .i64 0), (.i .i64 0)])), (.u (.st (.t p26) (.t p134) 2)), (.u (.mv p27 (.t p135)))]) (.seq (.reg [(.u (.ldn p137 (.t p12) 5)), (.u (.cf (some p138) p24 [(.t p137)])), (.u (.mv p139 (.t p16))), (.u (.cf (some p140) p39 [(.t p138), (.t p139)])), (.u (.mv p136 (.t p140))), (.u (.ext p141 (.t p136) 0)), (.u (.ext p142 (.t p136) 1)), (.u (.new p28 [(.i .i64 0), (.i .i64 0)])), (.u (.st (.t p28) (.t p141) 2)), (.u (.mv p29 (.t p142)))]) (.seq (.reg [(.u (.ldn p144 (.t p13) 5)), (.u (.cf (some p145) p24 [(.t p144)])), (.u (.mv p146 (.t p16))), (.u (.cf (some p147) p39 [(.t p145), (.t p146)])), (.u (.mv p143 (.t p147))), (.u (.ext p148 (.t p143) 0)), (.u (.ext p149 (.t p143) 1)), (.u (.new p30 [(.i .i64 0), (.i .i64 0)])), (.u (.st (.t p30) (.t p148) 2)), (.u (.mv p31 (.t p149)))]) (.seq (.reg [(.u (.ldn p151 (.t p5) 5)), (.u (.cf (some p152) p24 [(.t p151)])), (.u (.cf (some p153) p40 [(.t p152)])), (.u (.mv p150 (.t p153))), (.u (.ext p154 (.t p150) 0)), (.u (.ext p155 (.t p150) 1)), (.u (.new p32 [(.i .i64 0), (.i .i64 0)])), (.u (.st (.t p32) (.t p154) 2)), (.u (.mv p33 (.t p155)))]) (.seq (.reg [(.u (.ldn p157 (.t p12) 5)), (.u (.cf (some p158) p24 [(.t p157)])), (.u (.cf (some p159) p40 [(.t p158)])), (.u (.mv p156 (.t p159))), (.u (.ext p160 (.t p156) 0)), (.u (.ext p161 (.t p156) 1)), (.u (.new p34 [(.i .i64 0), (.i .i64 0)])), (.u (.st (.t p34) (.t p160) 2)), (.u (.mv p35 (.t p161)))]) (.seq (.reg [(.u (.ldn p163 (.t p13) 5)), (.u (.cf (some p164) p24 [(.t p163)])), (.u (.cf (some p165) p40 [(.t p164)])), (.u (.mv p162 (.t p165))), (.u (.ext p166 (.t p162) 0)), (.u (.ext p167 (.t p162) 1)), (.u (.new p36 [(.i .i64 0), (.i .i64 0)])), (.u (.st (.t p36) (.t p166) 2)), (.u (.mv p37 (.t p167)))]) (.seq (.seq (.reg [(.u (.mv p168 (.t p19))), (.u (.bin p169 .neq (.t p168) (.k (.i .i64 0)))), (.u (.mv p170 (.t p169))), (.g p170 true (some p171) (.mv p171 (.t p19))), (.g p170 true (some p172) (.bin p172 .neq (.t p171) (.k (.i .i64 11)))), (.u (.pick p173 (.t p170) (.t p172) (.k (.b false)))), (.u (.mv p174 (.t p173))), (.g p174 false (some p175) (.mv p175 (.t p22))), (.g p174 false (some p176) (.mv p176 (.t p19))), (.g p174 false (some p177) (.bin p177 .neq (.t p175) (.t p176))), (.u (.pick p178 (.t p174) (.k (.b true)) (.t p177))), (.u (.mv p179 (.t p178))), (.g p179 false (some p180) (.mv p180 (.t p25))), (.g p179 false (some p181) (.mv p181 (.t p19))), (.g p179 false (some p182) (.bin p182 .neq (.t p180) (.t p181))), (.u (.pick p183 (.t p179) (.k (.b true)) (.t p182))), (.u (.mv p184 (.t p183))), (.g p184 false (some p185) (.mv p185 (.t p27))), (.g p184 false (some p186) (.mv p186 (.t p19))), (.g p184 false (some p187) (.bin p187 .neq (.t p185) (.t p186))), (.u (.pick p188 (.t p184) (.k (.b true)) (.t p187))), (.u (.mv p189 (.t p188))), (.g p189 false (some p190) (.mv p190 (.t p29))), (.g p189 false (some p191) (.mv p191 (.t p19))), (.g p189 false (some p192) (.bin p192 .neq (.t p190) (.t p191))), (.u (.pick p193 (.t p189) (.k (.b true)) (.t p192))), (.u (.mv p194 (.t p193))), (.g p194 false (some p195) (.mv p195 (.t p31))), (.g p194 false (some p196) (.mv p196 (.t p19))), (.g p194 false (some p197) (.bin p197 .neq (.t p195) (.t p196))), (.u (.pick p198 (.t p194) (.k (.b true)) (.t p197))), (.u (.mv p199 (.t p198))), (.g p199 false (some p200) (.mv p200 (.t p33))), (.g p199 false (some p201) (.mv p201 (.t p19))), (.g p199 false (some p202) (.bin p202 .neq (.t p200) (.t p201))), (.u (.pick p203 (.t p199) (.k (.b true)) (.t p202))), (.u (.mv p204 (.t p203))), (.g p204 false (some p205) (.mv p205 (.t p35))), (.g p204 false (some p206) (.mv p206 (.t p19))), (.g p204 false (some p207) (.bin p207 .neq (.t p205) (.t p206))), (.u (.pick p208 (.t p204) (.k (.b true)) (.t p207))), (.u (.mv p209 (.t p208))), (.g p209 false (some p210) (.mv p210 (.t p37))), (.g p209 false (some p211) (.mv p211 (.t p19))), (.g p209 false (some p212) (.bin p212 .neq (.t p210) (.t p211))), (.u (.pick p213 (.t p209) (.k (.b true)) (.t p212)))]) (.cond (.t p213) (.seq (.reg [(.u (.mv p9 (.k (.b false))))]) .ret) .skip)) (.seq (.reg [(.u (.mv p214 (.t p17))), (.u (.mv p215 (.t p20))), (.u (.cf (some p216) p50 [(.t p214), (.t p215)])), (.u (.mv p217 (.t p216))), (.g p217 true (some p218) (.mv p218 (.t p17))), (.g p217 true (some p219) (.mv p219 (.t p24))), (.g p217 true (some p220) (.cf (some p220) p50 [(.t p218), (.t p219)])), (.u (.pick p221 (.t p217) (.t p220) (.k (.b false)))), (.u (.mv p222 (.t p221))), (.g p222 true (some p223) (.mv p223 (.t p18))), (.g p222 true (some p224) (.mv p224 (.t p23))), (.g p222 true (some p225) (.cf (some p225) p50 [(.t p223), (.t p224)])), (.u (.pick p226 (.t p222) (.t p225) (.k (.b false)))), (.u (.mv p227 (.t p226))), (.g p227 true (some p228) (.ldn p228 (.t p26) 2)), (.g p227 true (some p229) (.ldn p229 (.t p28) 2)), (.g p227 true (some p230) (.eqr p230 false [(.i .i64), (.i .i64)] (.t p228) (.t p229))), (.u (.pick p231 (.t p227) (.t p230) (.k (.b false)))), (.u (.mv p232 (.t p231))), (.g p232 true (some p233) (.ldn p233 (.t p26) 2)), (.g p232 true (some p234) (.ldn p234 (.t p30) 2)), (.g p232 true (some p235) (.eqr p235 false [(.i .i64), (.i .i64)] (.t p233) (.t p234))), (.u (.pick p236 (.t p232) (.t p235) (.k (.b false)))), (.u (.mv p237 (.t p236))), (.g p237 true (some p238) (.ldn p238 (.t p32) 2)), (.g p237 true (some p239) (.ldn p239 (.t p34) 2)), (.g p237 true (some p240) (.eqr p240 false [(.i .i64), (.i .i64)] (.t p238) (.t p239))), (.u (.pick p241 (.t p237) (.t p240) (.k (.b false)))), (.u (.mv p242 (.t p241))), (.g p242 true (some p243) (.ldn p243 (.t p32) 2)), (.g p242 true (some p244) (.ldn p244 (.t p36) 2)), (.g p242 true (some p245) (.eqr p245 false [(.i .i64), (.i .i64)] (.t p243) (.t p244))), (.u (.pick p246 (.t p242) (.t p245) (.k (.b false)))), (.u (.mv p247 (.t p246))), (.g p247 true (some p248) (.cf (some p248) p22 [])), (.u (.pick p249 (.t p247) (.t p248) (.k (.b false)))), (.u (.mv p9 (.t p249)))]) .ret))))))))))))))))))
def rs15 : List RR := [(.t p9)]
theorem fn15 : FnOk Try.prog p16.ix 249 rc15 rs15 := ⟨Try.f15, bodyC Try.f15, Try.func15, by kernel_rfl, by kernel_rfl, by kernel_rfl, by kernel_rfl, by kernel_rfl⟩

end Go.Ev

namespace Go.Ev
open Go.Proofs
set_option maxRecDepth 100000
/-! ### TokenNumbers -/
theorem j_ints (a : List Int) (ha : a.length ≤ 1000) : PureF Try.prog p50.ix [.lst 1 (ints a), .lst 1 (ints a)] (.b true) := by
  have e1 := ints_length a
  refine PureF.run fn49 (by simp) (by simp [PuL, Pu, pu_ints]) ?_; conv => whnf
  repeat' first | ((first | with_reducible apply WB.tt | with_reducible apply WB.ff | refine Rn.seq ?_ | refine Rn.reg ?_ | refine Rn.drw ?_ | refine Rn.blk ?_ | refine Rn.skip ?_ | refine Rn.ret ?_ | refine Rn.exit ?_ | refine Rn.cond rfl ?_ | refine And.intro (InR.i64 (by omega) (by omega)) ?_ | refine And.intro (show _ ≠ (0 : Int) by omega) ?_ | refine WIx.intsN (by omega) ?_ | refine WIx.rowsN (by omega) ?_ | with_reducible refine WB.decT (by first | with_reducible rfl | assumption | omega | exact ⟨rfl, rfl⟩) ?_ | with_reducible refine WB.decF (by first | assumption | omega) ?_ | with_reducible refine WB.ndT (by first | with_reducible rfl | assumption | omega | exact ⟨rfl, rfl⟩) ?_ | with_reducible refine WB.ndF (by first | assumption | omega) ?_ | with_reducible refine WB.nt ?_ | with_reducible refine WB.nf ?_ | with_reducible refine WB.dec (fun h => ?_) (fun h => ?_) | with_reducible refine WB.ndec (fun h => ?_) (fun h => ?_) | refine WB.mk (fun h => ?_) (fun h => ?_)) <;> conv => whnf)
  refine Rn.loop (fun j : Nat => ⟨(.n (.n .e (some (.lst 1 (ints a))) (.n .e (some (.i .i64 (j : Int))) .e)) (some (.lst 1 (ints a))) .e), .e, .h, none⟩) (fun j => j ≤ a.length) (fun j => a.length - j) 0 ?_ ?_ ?_
  · (first | (refine X.le.mk ?_ ?_ (Nat.le_refl _) rfl rfl) | skip) <;> (repeat' first | exact T.le_e _ | refine T.le_some ?_ ?_ ?_ | refine T.le_none ?_ ?_ | rfl)
  · exact Nat.zero_le _
  intro j hj
  have hj : j ≤ a.length := hj
  conv => whnf
  repeat' first | ((first | with_reducible apply WB.tt | with_reducible apply WB.ff | refine Rn.seq ?_ | refine Rn.reg ?_ | refine Rn.drw ?_ | refine Rn.blk ?_ | refine Rn.skip ?_ | refine Rn.ret ?_ | refine Rn.exit ?_ | refine Rn.cond rfl ?_ | refine And.intro (InR.i64 (by omega) (by omega)) ?_ | refine And.intro (show _ ≠ (0 : Int) by omega) ?_ | refine WIx.intsN (by omega) ?_ | refine WIx.rowsN (by omega) ?_) <;> conv => whnf)
  refine WB.dec (fun h => ?_) (fun h => ?_) <;> conv => whnf
  · have hlt : j < a.length := by omega
    repeat' first | ((first | with_reducible apply WB.tt | with_reducible apply WB.ff | refine Rn.seq ?_ | refine Rn.reg ?_ | refine Rn.drw ?_ | refine Rn.blk ?_ | refine Rn.skip ?_ | refine Rn.ret ?_ | refine Rn.exit ?_ | refine Rn.cond rfl ?_ | refine And.intro (InR.i64 (by omega) (by omega)) ?_ | refine And.intro (show _ ≠ (0 : Int) by omega) ?_ | refine WIx.intsN (by omega) ?_ | refine WIx.rowsN (by omega) ?_ | with_reducible refine WB.decT (by first | with_reducible rfl | assumption | omega | exact ⟨rfl, rfl⟩) ?_ | with_reducible refine WB.decF (by first | assumption | omega) ?_ | with_reducible refine WB.ndT (by first | with_reducible rfl | assumption | omega | exact ⟨rfl, rfl⟩) ?_ | with_reducible refine WB.ndF (by first | assumption | omega) ?_ | with_reducible refine WB.nt ?_ | with_reducible refine WB.nf ?_ | with_reducible refine WB.dec (fun h => ?_) (fun h => ?_) | with_reducible refine WB.ndec (fun h => ?_) (fun h => ?_) | refine WB.mk (fun h => ?_) (fun h => ?_)) <;> conv => whnf)
    refine Again.to (j + 1) (by omega) (by omega) (Nat.le_refl _) ?_
    (refine Shr.of ?_ ?_ rfl rfl) <;> (repeat' first | exact Rel.e | refine Rel.some ?_ ?_ ?_ | refine Rel.none ?_ ?_) <;> (try first | (show Fz _ _ _ _; first | exact Fz.pu trivial | (refine Fz.i ?_; first | rfl | omega) | (refine Fz.kpt ?_; (focus (show Pos.nat _ < Pos.nat _; simp [Pos.nat]; done))) | (refine Fz.ksl ?_; (focus (show Pos.nat _ < Pos.nat _; simp [Pos.nat]; done))) | (refine Fz.kmp ?_; (focus (show Pos.nat _ < Pos.nat _; simp [Pos.nat]; done))) | (refine Fz.pu ?_; simp [Cell.d, Pu, PuL, PuE, pu_ints, pu_ln, pu_ct, pu_tl]; done) | (refine Fz.pu ?_; simp only [Cell.d]; assumption)) | (refine RO'.of ?_ (ShC.same ?_); (focus (show Pos.nat _ < Pos.nat _; simp [Pos.nat]; done)); (repeat' first | exact ShC.nl | refine ShC.cn ?_ ?_) <;> first | exact Fz.pu trivial | (refine Fz.i ?_; first | rfl | omega) | (refine Fz.kpt ?_; (focus (show Pos.nat _ < Pos.nat _; simp [Pos.nat]; done))) | (refine Fz.ksl ?_; (focus (show Pos.nat _ < Pos.nat _; simp [Pos.nat]; done))) | (refine Fz.kmp ?_; (focus (show Pos.nat _ < Pos.nat _; simp [Pos.nat]; done))) | (refine Fz.pu ?_; simp [Cell.d, Pu, PuL, PuE, pu_ints, pu_ln, pu_ct, pu_tl]; done) | (refine Fz.pu ?_; simp only [Cell.d]; assumption)))
    all_goals exact Fz.pu (pu_ints _)
  · repeat' first | ((first | with_reducible apply WB.tt | with_reducible apply WB.ff | refine Rn.seq ?_ | refine Rn.reg ?_ | refine Rn.drw ?_ | refine Rn.blk ?_ | refine Rn.skip ?_ | refine Rn.ret ?_ | refine Rn.exit ?_ | refine Rn.cond rfl ?_ | refine And.intro (InR.i64 (by omega) (by omega)) ?_ | refine And.intro (show _ ≠ (0 : Int) by omega) ?_ | refine WIx.intsN (by omega) ?_ | refine WIx.rowsN (by omega) ?_) <;> conv => whnf)
    exact Fin.b rfl rfl
noncomputable def outN (n coin box : Int) (cs : List Ct) (d : D) : C := .cells false [.o (.i .i64 n) 0, .o (.i .i64 coin) 0, .o (.i .i64 box) 0, .o d 0, .o (.lst 3 (rows ctD cs)) 0] 1
theorem outN_sh {n coin box : Int} {cs : List Ct} {d d' : D} {B : Pos → Prop} {ob : T C} (h : Fz B ob d d') : ShC B ob (outN n coin box cs d) (outN n coin box cs d') := by
  refine .cells fun k c' hc => ?_
  match k, hc with
  | 0, hc => cases hc; exact ⟨_, rfl, fun _ h => h, .pu trivial⟩
  | 1, hc => cases hc; exact ⟨_, rfl, fun _ h => h, .pu trivial⟩
  | 2, hc => cases hc; exact ⟨_, rfl, fun _ h => h, .pu trivial⟩
  | 3, hc => cases hc; exact ⟨_, rfl, fun _ h => h, h⟩
  | 4, hc => cases hc; exact ⟨_, rfl, fun _ h => h, .pu (pu_ct _)⟩
  | k + 5, hc => cases hc
def slN (id : Pos) : List Ln → D
  | [] => .ns
  | _ :: s => .sl id 0 (s.length + 1) s.length 3
def blN : List Ln → Option C
  | [] => none
  | a :: s => some (.cells false ((lnF (a :: s)).map fun d => Cell.o d s.length) (s.length + 1))
def nxN : List Ln → Pos
  | [] => .o (.o .h)
  | _ :: _ => .i (.o (.o .h))
theorem slN_snoc (id : Pos) (a : Ln) (s : List Ln) (x : Ln) : slN id (a :: (s ++ [x])) = .sl id 0 (s.length + 1 + 1) (s.length + 1) 3 := by simp [slN]
theorem blN_snoc (a : Ln) (s : List Ln) (x : Ln) : blN (a :: (s ++ [x])) = some (.cells false ((lnF (a :: s) ++ lnD x).map fun d => Cell.o d (s.length + 1)) (s.length + 1 + 1)) := by
  have h := lnF_snoc (a :: s) x
  have h2 : lnF (a :: (s ++ [x])) = lnF (a :: s) ++ lnD x := h
  simp [blN, h2]
theorem fz_slN {B : Pos → Prop} {ob : T C} {id : Pos} (hB : ¬ B id) : ∀ (X : List Ln), (ob.get id = blN X) → Fz B ob (slN id X) (.lst 3 (rows lnD X))
  | [], _ => .ns
  | a :: s, h => Fz.whole (cs := (lnF (a :: s)).map fun d => Cell.o d s.length) (cur := s.length + 1) hB h (by simp [rows]) (ln_three _) (by rfl) (pu_ln _)
theorem vdL_eq {B B' : Bk} {k f f' : Nat} (hn : B'.n = B.n) (h : ∀ i, i < B.n.toNat → vdO B' k (f' + i) = vdO B k (f + i)) : vdL B' k f' = vdL B k f := by
  unfold vdL
  rw [hn]
  exact List.map_congr_left fun i hi => h i (List.mem_range.1 hi)
/-- X: x's lines so far, Y: y's. -/
noncomputable def nuS (n coin box : Int) (ls : List Ln) (cs : List Ct) (after p q : Int) (X Y : List Ln) (j : Nat) : Go.Ev.X := ⟨(.n (.n (.n .e (some (.i .u8 after)) (.n .e (some (.pt (.o .h) 0 0)) .e)) none (.n (.n .e (some (.i .i64 p)) .e) none (.n .e (some (.i .i64 (j : Int))) .e))) none (.n (.n .e (some (.pt .h 0 0)) (.n .e (some (.pt (.i .h) 0 0)) .e)) none (.n (.n .e (some (.i .i64 q)) .e) none .e))), .n (.n (.n (.n .e (blN X) .e) none .e) (some (outN n coin box cs (slN (.o (.o (.o .h))) X))) (.n .e (blN Y) .e)) (some (bkC n coin box ls cs)) (.n .e (some (outN n coin box cs (slN (.o (.i .h)) Y))) .e), nxN X, none⟩
set_option maxHeartbeats 4000000 in
theorem j_TokenNumbers (n coin box : Int) (ls : List Ln) (cs : List Ct) (one other after : Int) (h1 : 0 ≤ one ∧ one ≤ 255) (h2 : 0 ≤ other ∧ other ≤ 255) (hh : 0 ≤ after ∧ after ≤ 255) (AW : PureF Try.prog p22.ix [] (.b true)) : PureF Try.prog p16.ix [.ag [.i .i64 n, .i .i64 coin, .i .i64 box, .lst 3 (rows lnD ls), .lst 3 (rows ctD cs)], .i .u8 one, .i .u8 other, .i .u8 after] (.b true) := by
  have e1 := rows_length lnD ls
  have iR := j_ready n coin box ls cs
  unfold bk5 at iR
  refine PureF.run fn15 (by simp) (by simp [PuL, PuE, Pu, pu_ints, pu_ln, pu_ct, pu_tl]) ?_; conv => whnf
  cases hR : readyB n coin box ls cs with
  | false =>
    rw [hR] at iR
    repeat' first | ((first | with_reducible apply WB.tt | with_reducible apply WB.ff | refine Rn.seq ?_ | refine Rn.reg ?_ | refine Rn.drw ?_ | refine Rn.blk ?_ | refine Rn.skip ?_ | refine Rn.ret ?_ | refine Rn.exit ?_ | refine Rn.cond rfl ?_ | refine And.intro (InR.i64 (by omega) (by omega)) ?_ | refine And.intro (show _ ≠ (0 : Int) by omega) ?_ | refine WIx.intsN (by omega) ?_ | refine WIx.rowsN (by omega) ?_ | refine WCall.pure (iR) ?_ | refine WCall.pure (AW) ?_ | with_reducible refine WB.decT (by first | with_reducible rfl | assumption | omega | exact ⟨rfl, rfl⟩) ?_ | with_reducible refine WB.decF (by first | assumption | omega) ?_ | with_reducible refine WB.ndT (by first | with_reducible rfl | assumption | omega | exact ⟨rfl, rfl⟩) ?_ | with_reducible refine WB.ndF (by first | assumption | omega) ?_ | with_reducible refine WB.nt ?_ | with_reducible refine WB.nf ?_ | with_reducible refine WB.dec (fun h => ?_) (fun h => ?_) | with_reducible refine WB.ndec (fun h => ?_) (fun h => ?_) | refine WB.mk (fun h => ?_) (fun h => ?_)) <;> conv => whnf)
    exact Fin.b rfl rfl
  | true =>
  rw [hR] at iR
  obtain ⟨l8, l4, h0⟩ := ready_of hR
  have V := VB.of h0
  have hn : 1 ≤ n ∧ n ≤ 4 := V.n
  refine Rn.seq ?_; conv => whnf
  refine Rn.reg ?_; conv => whnf
  refine Rn.seq ?_; conv => whnf
  refine Rn.seq ?_; conv => whnf
  refine Rn.reg ?_; conv => whnf
  refine WCall.pure iR ?_; conv => whnf
  refine Rn.cond rfl ?_; conv => whnf
  refine WB.ff ?_; conv => whnf
  refine Rn.skip ?_; conv => whnf
  refine Rn.seq ?_; conv => whnf
  refine Rn.drw ?_; conv => whnf
  repeat' first | (refine And.intro (InR.i64 (by omega) (by omega)) ?_; conv => whnf) | (refine And.intro (show _ ≠ (0 : Int) by omega) ?_; conv => whnf)
  have a1 := Int.tmod_nonneg n h1.1
  have a2 := Int.tmod_lt_of_pos one (show 0 < n by omega)
  have b1 := Int.tmod_nonneg n h2.1
  have b2 := Int.tmod_lt_of_pos other (show 0 < n by omega)
  generalize one.tmod n = p at *
  generalize other.tmod n = q at *
  have RX := ren_X (p := p) (q := q) ⟨a1, a2⟩ ⟨b1, b2⟩ V.ls
  have RX : RenL n ls (sX p q) := RX
  have RY := ren_Y (n := n) ls
  refine Rn.seq ?_; conv => whnf
  refine Rn.drw ?_; conv => whnf
  refine Rn.seqB ?_; conv => whnf
  repeat' first | ((first | with_reducible apply WB.tt | with_reducible apply WB.ff | refine Rn.seq ?_ | refine Rn.reg ?_ | refine Rn.drw ?_ | refine Rn.blk ?_ | refine Rn.skip ?_ | refine Rn.ret ?_ | refine Rn.exit ?_ | refine Rn.cond rfl ?_ | refine And.intro (InR.i64 (by omega) (by omega)) ?_ | refine And.intro (show _ ≠ (0 : Int) by omega) ?_ | refine WIx.intsN (by omega) ?_ | refine WIx.rowsN (by omega) ?_ | with_reducible refine WB.decT (by first | with_reducible rfl | assumption | omega | exact ⟨rfl, rfl⟩) ?_ | with_reducible refine WB.decF (by first | assumption | omega) ?_ | with_reducible refine WB.ndT (by first | with_reducible rfl | assumption | omega | exact ⟨rfl, rfl⟩) ?_ | with_reducible refine WB.ndF (by first | assumption | omega) ?_ | with_reducible refine WB.nt ?_ | with_reducible refine WB.nf ?_ | with_reducible refine WB.dec (fun h => ?_) (fun h => ?_) | with_reducible refine WB.ndec (fun h => ?_) (fun h => ?_) | refine WB.mk (fun h => ?_) (fun h => ?_)) <;> conv => whnf)
  refine Rn.loop (fun j : Nat => nuS n coin box ls cs after p q ((ls.take j).map (sX p q)) ((ls.take j).map sY) j) (fun j => j ≤ ls.length) (fun j => ls.length - j) 0 ?_ ?_ ?_
  · refine Go.Ev.X.le.mk ?_ ?_ (Nat.le_refl _) rfl rfl
    · show T.le ((.n (.n (.n .e (some (.i .u8 after)) (.n .e (some (.pt (.o .h) 0 0)) .e)) none (.n (.n .e (some (.i .i64 p)) .e) none (.n .e (some (.i .i64 0)) .e))) none (.n (.n .e (some (.pt .h 0 0)) (.n .e (some (.pt (.i .h) 0 0)) .e)) none (.n (.n .e (some (.i .i64 q)) .e) none .e))) : T D) _
      (repeat' first | exact T.le_e _ | refine T.le_some ?_ rfl ?_ | refine T.le_none ?_ ?_ | refine T.le_ee ?_ ?_)
    · show T.le (.n (.n (.n (.n .e none .e) none .e) (some (outN n coin box cs .ns)) (.n .e none .e)) (some (bkC n coin box ls cs)) (.n .e (some (outN n coin box cs .ns)) .e) : T C) _
      (repeat' first | exact T.le_e _ | refine T.le_some ?_ rfl ?_ | refine T.le_none ?_ ?_ | refine T.le_ee ?_ ?_)
  · exact Nat.zero_le _
  intro j hj
  have hj : j ≤ ls.length := hj
  have hend : j = ls.length → ls.take j = ls := fun e => List.take_of_length_le (by omega)
  have hnext : j < ls.length → ls.take (j + 1) = ls.take j ++ [ls.getD j default] := fun h => take_succ_getD (d := default) h
  have hAl : (ls.take j).length ≤ 8 := by rw [List.length_take]; omega
  generalize hA : ls.take j = A at *
  conv => whnf
  repeat' first | ((first | with_reducible apply WB.tt | with_reducible apply WB.ff | refine Rn.seq ?_ | refine Rn.reg ?_ | refine Rn.drw ?_ | refine Rn.blk ?_ | refine Rn.skip ?_ | refine Rn.ret ?_ | refine Rn.exit ?_ | refine Rn.cond rfl ?_ | refine And.intro (InR.i64 (by omega) (by omega)) ?_ | refine And.intro (show _ ≠ (0 : Int) by omega) ?_ | refine WIx.intsN (by omega) ?_ | refine WIx.rowsN (by omega) ?_) <;> conv => whnf)
  refine WB.dec (fun h => ?_) (fun h => ?_) <;> conv => whnf
  · have hlt : j < ls.length := by omega
    have hnext := hnext hlt
    have hnX : (ls.take (j + 1)).map (sX p q) = A.map (sX p q) ++ [sX p q (ls.getD j default)] := by rw [hnext, List.map_append]; rfl
    have hnY : (ls.take (j + 1)).map sY = A.map sY ++ [sY (ls.getD j default)] := by rw [hnext, List.map_append]; rfl
    have hsY : sY (ls.getD j default) = ⟨(ls.getD j default).k, (ls.getD j default).t, (ls.getD j default).c⟩ := rfl
    have hXl : (A.map (sX p q)).length = (A.map sY).length := by rw [List.length_map, List.length_map]
    have hXl8 : (A.map (sX p q)).length ≤ 8 := by rw [List.length_map]; exact hAl
    have hS2 : nuS n coin box ls cs after p q ((ls.take (j + 1)).map (sX p q)) ((ls.take (j + 1)).map sY) (j + 1) = nuS n coin box ls cs after p q (A.map (sX p q) ++ [sX p q (ls.getD j default)]) (A.map sY ++ [sY (ls.getD j default)]) (j + 1) := by rw [hnX, hnY]
    have hS1 : nuS n coin box ls cs after p q ((ls.take j).map (sX p q)) ((ls.take j).map sY) j = nuS n coin box ls cs after p q (A.map (sX p q)) (A.map sY) j := by rw [hA]
    clear hnX hnY hnext
    generalize A.map (sX p q) = X at *
    generalize A.map sY = Y at *
    obtain ⟨x, hx⟩ : ∃ x, ls.getD j default = x := ⟨_, rfl⟩
    rw [hx] at hS2
    have hsx : sX p q x = ⟨x.k, x.c, if x.t = p then q else if x.t = q then p else x.t⟩ := rfl
    cases X with
    | nil =>
      have : Y = [] := List.length_eq_zero_iff.1 hXl.symm
      subst this
      repeat' first | ((first | with_reducible apply WB.tt | with_reducible apply WB.ff | refine Rn.seq ?_ | refine Rn.reg ?_ | refine Rn.drw ?_ | refine Rn.blk ?_ | refine Rn.skip ?_ | refine Rn.ret ?_ | refine Rn.exit ?_ | refine Rn.cond rfl ?_ | refine And.intro (InR.i64 (by omega) (by omega)) ?_ | refine And.intro (show _ ≠ (0 : Int) by omega) ?_ | refine WIx.intsN (by omega) ?_ | refine WIx.rowsN (by omega) ?_ | with_reducible refine WB.decT (by first | with_reducible rfl | assumption | omega | exact ⟨rfl, rfl⟩) ?_ | with_reducible refine WB.decF (by first | assumption | omega) ?_ | with_reducible refine WB.ndT (by first | with_reducible rfl | assumption | omega | exact ⟨rfl, rfl⟩) ?_ | with_reducible refine WB.ndF (by first | assumption | omega) ?_ | with_reducible refine WB.nt ?_ | with_reducible refine WB.nf ?_ | with_reducible refine WB.dec (fun h => ?_) (fun h => ?_) | with_reducible refine WB.ndec (fun h => ?_) (fun h => ?_) | refine WB.mk (fun h => ?_) (fun h => ?_)) <;> conv => whnf)
      rw [hx]
      repeat' first | ((first | with_reducible apply WB.tt | with_reducible apply WB.ff | refine Rn.seq ?_ | refine Rn.reg ?_ | refine Rn.drw ?_ | refine Rn.blk ?_ | refine Rn.skip ?_ | refine Rn.ret ?_ | refine Rn.exit ?_ | refine Rn.cond rfl ?_ | refine And.intro (InR.i64 (by omega) (by omega)) ?_ | refine And.intro (show _ ≠ (0 : Int) by omega) ?_ | refine WIx.intsN (by omega) ?_ | refine WIx.rowsN (by omega) ?_ | with_reducible refine WB.decT (by first | with_reducible rfl | assumption | omega | exact ⟨rfl, rfl⟩) ?_ | with_reducible refine WB.decF (by first | assumption | omega) ?_ | with_reducible refine WB.ndT (by first | with_reducible rfl | assumption | omega | exact ⟨rfl, rfl⟩) ?_ | with_reducible refine WB.ndF (by first | assumption | omega) ?_ | with_reducible refine WB.nt ?_ | with_reducible refine WB.nf ?_ | with_reducible refine WB.dec (fun h => ?_) (fun h => ?_) | with_reducible refine WB.ndec (fun h => ?_) (fun h => ?_) | refine WB.mk (fun h => ?_) (fun h => ?_)) <;> conv => whnf)
      refine WSt.app_first (r := lnD (sY x)) rfl (.inl rfl) rfl rfl rfl rfl ?_; conv => whnf
      by_cases t1 : x.t = p
      · rw [if_pos t1] at hsx
        repeat' first | ((first | with_reducible apply WB.tt | with_reducible apply WB.ff | refine Rn.seq ?_ | refine Rn.reg ?_ | refine Rn.drw ?_ | refine Rn.blk ?_ | refine Rn.skip ?_ | refine Rn.ret ?_ | refine Rn.exit ?_ | refine Rn.cond rfl ?_ | refine And.intro (InR.i64 (by omega) (by omega)) ?_ | refine And.intro (show _ ≠ (0 : Int) by omega) ?_ | refine WIx.intsN (by omega) ?_ | refine WIx.rowsN (by omega) ?_ | with_reducible refine WB.decT (by first | with_reducible rfl | assumption | omega | exact ⟨rfl, rfl⟩) ?_ | with_reducible refine WB.decF (by first | assumption | omega) ?_ | with_reducible refine WB.ndT (by first | with_reducible rfl | assumption | omega | exact ⟨rfl, rfl⟩) ?_ | with_reducible refine WB.ndF (by first | assumption | omega) ?_ | with_reducible refine WB.nt ?_ | with_reducible refine WB.nf ?_ | with_reducible refine WB.dec (fun h => ?_) (fun h => ?_) | with_reducible refine WB.ndec (fun h => ?_) (fun h => ?_) | refine WB.mk (fun h => ?_) (fun h => ?_)) <;> conv => whnf)
        refine WSt.app_first (r := lnD (⟨x.k, x.c, q⟩ : Ln)) rfl (.inl rfl) rfl rfl rfl rfl ?_; conv => whnf
        repeat' first | ((first | with_reducible apply WB.tt | with_reducible apply WB.ff | refine Rn.seq ?_ | refine Rn.reg ?_ | refine Rn.drw ?_ | refine Rn.blk ?_ | refine Rn.skip ?_ | refine Rn.ret ?_ | refine Rn.exit ?_ | refine Rn.cond rfl ?_ | refine And.intro (InR.i64 (by omega) (by omega)) ?_ | refine And.intro (show _ ≠ (0 : Int) by omega) ?_ | refine WIx.intsN (by omega) ?_ | refine WIx.rowsN (by omega) ?_ | with_reducible refine WB.decT (by first | with_reducible rfl | assumption | omega | exact ⟨rfl, rfl⟩) ?_ | with_reducible refine WB.decF (by first | assumption | omega) ?_ | with_reducible refine WB.ndT (by first | with_reducible rfl | assumption | omega | exact ⟨rfl, rfl⟩) ?_ | with_reducible refine WB.ndF (by first | assumption | omega) ?_ | with_reducible refine WB.nt ?_ | with_reducible refine WB.nf ?_ | with_reducible refine WB.dec (fun h => ?_) (fun h => ?_) | with_reducible refine WB.ndec (fun h => ?_) (fun h => ?_) | refine WB.mk (fun h => ?_) (fun h => ?_)) <;> conv => whnf)
        refine Again.to (j + 1) (by omega) (by omega) (by rw [hS1, hS2]; exact (show 4 ≤ 9 by omega)) ?_
        rw [hS2, hsx]
        refine Shr.of ?_ ?_ rfl rfl
        · show Rel _ _ ((.n (.n (.n .e (some (.i .u8 after)) (.n .e (some (.pt (.o .h) 0 0)) .e)) none (.n (.n .e (some (.i .i64 p)) .e) none (.n .e (some (.i .i64 ((j + 1 : Nat) : Int))) .e))) none (.n (.n .e (some (.pt .h 0 0)) (.n .e (some (.pt (.i .h) 0 0)) .e)) none (.n (.n .e (some (.i .i64 q)) .e) none .e))) : T D) _
          (repeat' first | exact Rel.e | refine Rel.some ?_ ?_ ?_ | refine Rel.none ?_ ?_ | refine Rel.ee ?_ ?_)
          all_goals show Fz _ _ _ _
          all_goals first | exact .pu trivial | exact .kpt (show _ < 9 by simp [Pos.nat])
        · show Rel _ _ (.n (.n (.n (.n .e (some (.cells false ((lnD (⟨x.k, x.c, q⟩ : Ln)).map fun d => Cell.o d 0) 1)) .e) none .e) (some (outN n coin box cs (.sl (.o (.o (.o .h))) 0 1 0 3))) (.n .e (some (.cells false ((lnD (sY x)).map fun d => Cell.o d 0) 1)) .e)) (some (bkC n coin box ls cs)) (.n .e (some (outN n coin box cs (.sl (.o (.i .h)) 0 1 0 3))) .e) : T C) _
          (repeat' first | exact Rel.e | refine Rel.some ?_ ?_ ?_ | refine Rel.none ?_ ?_ | refine Rel.ee ?_ ?_)
          all_goals first
            | exact RO'.of (show _ < 9 by simp [Pos.nat]) (ShC.kp (bkC_kp _ _ _ _ _ _))
            | exact RO'.of (show _ < 9 by simp [Pos.nat]) (outN_sh (.ksl (show _ < 9 by simp [Pos.nat])))
            | exact RO'.of (show _ < 9 by simp [Pos.nat]) (ShC.same (ShC.cn (.pu trivial) (ShC.cn (.pu trivial) (ShC.cn (.pu trivial) ShC.nl))))
      by_cases t2 : x.t = q
      · rw [if_neg t1, if_pos t2] at hsx
        repeat' first | ((first | with_reducible apply WB.tt | with_reducible apply WB.ff | refine Rn.seq ?_ | refine Rn.reg ?_ | refine Rn.drw ?_ | refine Rn.blk ?_ | refine Rn.skip ?_ | refine Rn.ret ?_ | refine Rn.exit ?_ | refine Rn.cond rfl ?_ | refine And.intro (InR.i64 (by omega) (by omega)) ?_ | refine And.intro (show _ ≠ (0 : Int) by omega) ?_ | refine WIx.intsN (by omega) ?_ | refine WIx.rowsN (by omega) ?_ | with_reducible refine WB.decT (by first | with_reducible rfl | assumption | omega | exact ⟨rfl, rfl⟩) ?_ | with_reducible refine WB.decF (by first | assumption | omega) ?_ | with_reducible refine WB.ndT (by first | with_reducible rfl | assumption | omega | exact ⟨rfl, rfl⟩) ?_ | with_reducible refine WB.ndF (by first | assumption | omega) ?_ | with_reducible refine WB.nt ?_ | with_reducible refine WB.nf ?_ | with_reducible refine WB.dec (fun h => ?_) (fun h => ?_) | with_reducible refine WB.ndec (fun h => ?_) (fun h => ?_) | refine WB.mk (fun h => ?_) (fun h => ?_)) <;> conv => whnf)
        refine WSt.app_first (r := lnD (⟨x.k, x.c, p⟩ : Ln)) rfl (.inl rfl) rfl rfl rfl rfl ?_; conv => whnf
        repeat' first | ((first | with_reducible apply WB.tt | with_reducible apply WB.ff | refine Rn.seq ?_ | refine Rn.reg ?_ | refine Rn.drw ?_ | refine Rn.blk ?_ | refine Rn.skip ?_ | refine Rn.ret ?_ | refine Rn.exit ?_ | refine Rn.cond rfl ?_ | refine And.intro (InR.i64 (by omega) (by omega)) ?_ | refine And.intro (show _ ≠ (0 : Int) by omega) ?_ | refine WIx.intsN (by omega) ?_ | refine WIx.rowsN (by omega) ?_ | with_reducible refine WB.decT (by first | with_reducible rfl | assumption | omega | exact ⟨rfl, rfl⟩) ?_ | with_reducible refine WB.decF (by first | assumption | omega) ?_ | with_reducible refine WB.ndT (by first | with_reducible rfl | assumption | omega | exact ⟨rfl, rfl⟩) ?_ | with_reducible refine WB.ndF (by first | assumption | omega) ?_ | with_reducible refine WB.nt ?_ | with_reducible refine WB.nf ?_ | with_reducible refine WB.dec (fun h => ?_) (fun h => ?_) | with_reducible refine WB.ndec (fun h => ?_) (fun h => ?_) | refine WB.mk (fun h => ?_) (fun h => ?_)) <;> conv => whnf)
        refine Again.to (j + 1) (by omega) (by omega) (by rw [hS1, hS2]; exact (show 4 ≤ 9 by omega)) ?_
        rw [hS2, hsx]
        refine Shr.of ?_ ?_ rfl rfl
        · show Rel _ _ ((.n (.n (.n .e (some (.i .u8 after)) (.n .e (some (.pt (.o .h) 0 0)) .e)) none (.n (.n .e (some (.i .i64 p)) .e) none (.n .e (some (.i .i64 ((j + 1 : Nat) : Int))) .e))) none (.n (.n .e (some (.pt .h 0 0)) (.n .e (some (.pt (.i .h) 0 0)) .e)) none (.n (.n .e (some (.i .i64 q)) .e) none .e))) : T D) _
          (repeat' first | exact Rel.e | refine Rel.some ?_ ?_ ?_ | refine Rel.none ?_ ?_ | refine Rel.ee ?_ ?_)
          all_goals show Fz _ _ _ _
          all_goals first | exact .pu trivial | exact .kpt (show _ < 9 by simp [Pos.nat])
        · show Rel _ _ (.n (.n (.n (.n .e (some (.cells false ((lnD (⟨x.k, x.c, p⟩ : Ln)).map fun d => Cell.o d 0) 1)) .e) none .e) (some (outN n coin box cs (.sl (.o (.o (.o .h))) 0 1 0 3))) (.n .e (some (.cells false ((lnD (sY x)).map fun d => Cell.o d 0) 1)) .e)) (some (bkC n coin box ls cs)) (.n .e (some (outN n coin box cs (.sl (.o (.i .h)) 0 1 0 3))) .e) : T C) _
          (repeat' first | exact Rel.e | refine Rel.some ?_ ?_ ?_ | refine Rel.none ?_ ?_ | refine Rel.ee ?_ ?_)
          all_goals first
            | exact RO'.of (show _ < 9 by simp [Pos.nat]) (ShC.kp (bkC_kp _ _ _ _ _ _))
            | exact RO'.of (show _ < 9 by simp [Pos.nat]) (outN_sh (.ksl (show _ < 9 by simp [Pos.nat])))
            | exact RO'.of (show _ < 9 by simp [Pos.nat]) (ShC.same (ShC.cn (.pu trivial) (ShC.cn (.pu trivial) (ShC.cn (.pu trivial) ShC.nl))))
      · rw [if_neg t1, if_neg t2] at hsx
        repeat' first | ((first | with_reducible apply WB.tt | with_reducible apply WB.ff | refine Rn.seq ?_ | refine Rn.reg ?_ | refine Rn.drw ?_ | refine Rn.blk ?_ | refine Rn.skip ?_ | refine Rn.ret ?_ | refine Rn.exit ?_ | refine Rn.cond rfl ?_ | refine And.intro (InR.i64 (by omega) (by omega)) ?_ | refine And.intro (show _ ≠ (0 : Int) by omega) ?_ | refine WIx.intsN (by omega) ?_ | refine WIx.rowsN (by omega) ?_ | with_reducible refine WB.decT (by first | with_reducible rfl | assumption | omega | exact ⟨rfl, rfl⟩) ?_ | with_reducible refine WB.decF (by first | assumption | omega) ?_ | with_reducible refine WB.ndT (by first | with_reducible rfl | assumption | omega | exact ⟨rfl, rfl⟩) ?_ | with_reducible refine WB.ndF (by first | assumption | omega) ?_ | with_reducible refine WB.nt ?_ | with_reducible refine WB.nf ?_ | with_reducible refine WB.dec (fun h => ?_) (fun h => ?_) | with_reducible refine WB.ndec (fun h => ?_) (fun h => ?_) | refine WB.mk (fun h => ?_) (fun h => ?_)) <;> conv => whnf)
        refine WSt.app_first (r := lnD (⟨x.k, x.c, x.t⟩ : Ln)) rfl (.inl rfl) rfl rfl rfl rfl ?_; conv => whnf
        repeat' first | ((first | with_reducible apply WB.tt | with_reducible apply WB.ff | refine Rn.seq ?_ | refine Rn.reg ?_ | refine Rn.drw ?_ | refine Rn.blk ?_ | refine Rn.skip ?_ | refine Rn.ret ?_ | refine Rn.exit ?_ | refine Rn.cond rfl ?_ | refine And.intro (InR.i64 (by omega) (by omega)) ?_ | refine And.intro (show _ ≠ (0 : Int) by omega) ?_ | refine WIx.intsN (by omega) ?_ | refine WIx.rowsN (by omega) ?_ | with_reducible refine WB.decT (by first | with_reducible rfl | assumption | omega | exact ⟨rfl, rfl⟩) ?_ | with_reducible refine WB.decF (by first | assumption | omega) ?_ | with_reducible refine WB.ndT (by first | with_reducible rfl | assumption | omega | exact ⟨rfl, rfl⟩) ?_ | with_reducible refine WB.ndF (by first | assumption | omega) ?_ | with_reducible refine WB.nt ?_ | with_reducible refine WB.nf ?_ | with_reducible refine WB.dec (fun h => ?_) (fun h => ?_) | with_reducible refine WB.ndec (fun h => ?_) (fun h => ?_) | refine WB.mk (fun h => ?_) (fun h => ?_)) <;> conv => whnf)
        refine Again.to (j + 1) (by omega) (by omega) (by rw [hS1, hS2]; exact (show 4 ≤ 9 by omega)) ?_
        rw [hS2, hsx]
        refine Shr.of ?_ ?_ rfl rfl
        · show Rel _ _ ((.n (.n (.n .e (some (.i .u8 after)) (.n .e (some (.pt (.o .h) 0 0)) .e)) none (.n (.n .e (some (.i .i64 p)) .e) none (.n .e (some (.i .i64 ((j + 1 : Nat) : Int))) .e))) none (.n (.n .e (some (.pt .h 0 0)) (.n .e (some (.pt (.i .h) 0 0)) .e)) none (.n (.n .e (some (.i .i64 q)) .e) none .e))) : T D) _
          (repeat' first | exact Rel.e | refine Rel.some ?_ ?_ ?_ | refine Rel.none ?_ ?_ | refine Rel.ee ?_ ?_)
          all_goals show Fz _ _ _ _
          all_goals first | exact .pu trivial | exact .kpt (show _ < 9 by simp [Pos.nat])
        · show Rel _ _ (.n (.n (.n (.n .e (some (.cells false ((lnD (⟨x.k, x.c, x.t⟩ : Ln)).map fun d => Cell.o d 0) 1)) .e) none .e) (some (outN n coin box cs (.sl (.o (.o (.o .h))) 0 1 0 3))) (.n .e (some (.cells false ((lnD (sY x)).map fun d => Cell.o d 0) 1)) .e)) (some (bkC n coin box ls cs)) (.n .e (some (outN n coin box cs (.sl (.o (.i .h)) 0 1 0 3))) .e) : T C) _
          (repeat' first | exact Rel.e | refine Rel.some ?_ ?_ ?_ | refine Rel.none ?_ ?_ | refine Rel.ee ?_ ?_)
          all_goals first
            | exact RO'.of (show _ < 9 by simp [Pos.nat]) (ShC.kp (bkC_kp _ _ _ _ _ _))
            | exact RO'.of (show _ < 9 by simp [Pos.nat]) (outN_sh (.ksl (show _ < 9 by simp [Pos.nat])))
            | exact RO'.of (show _ < 9 by simp [Pos.nat]) (ShC.same (ShC.cn (.pu trivial) (ShC.cn (.pu trivial) (ShC.cn (.pu trivial) ShC.nl))))
    | cons a s =>
      obtain ⟨b, u, rfl⟩ : ∃ b u, Y = b :: u := by
        cases Y with
        | nil => exact absurd hXl (by simp)
        | cons b u => exact ⟨b, u, rfl⟩
      have hsu : s.length + 1 = u.length + 1 := hXl
      have hs8 : s.length + 1 ≤ 8 := hXl8
      repeat' first | ((first | with_reducible apply WB.tt | with_reducible apply WB.ff | refine Rn.seq ?_ | refine Rn.reg ?_ | refine Rn.drw ?_ | refine Rn.blk ?_ | refine Rn.skip ?_ | refine Rn.ret ?_ | refine Rn.exit ?_ | refine Rn.cond rfl ?_ | refine And.intro (InR.i64 (by omega) (by omega)) ?_ | refine And.intro (show _ ≠ (0 : Int) by omega) ?_ | refine WIx.intsN (by omega) ?_ | refine WIx.rowsN (by omega) ?_ | with_reducible refine WB.decT (by first | with_reducible rfl | assumption | omega | exact ⟨rfl, rfl⟩) ?_ | with_reducible refine WB.decF (by first | assumption | omega) ?_ | with_reducible refine WB.ndT (by first | with_reducible rfl | assumption | omega | exact ⟨rfl, rfl⟩) ?_ | with_reducible refine WB.ndF (by first | assumption | omega) ?_ | with_reducible refine WB.nt ?_ | with_reducible refine WB.nf ?_ | with_reducible refine WB.dec (fun h => ?_) (fun h => ?_) | with_reducible refine WB.ndec (fun h => ?_) (fun h => ?_) | refine WB.mk (fun h => ?_) (fun h => ?_)) <;> conv => whnf)
      rw [hx]
      repeat' first | ((first | with_reducible apply WB.tt | with_reducible apply WB.ff | refine Rn.seq ?_ | refine Rn.reg ?_ | refine Rn.drw ?_ | refine Rn.blk ?_ | refine Rn.skip ?_ | refine Rn.ret ?_ | refine Rn.exit ?_ | refine Rn.cond rfl ?_ | refine And.intro (InR.i64 (by omega) (by omega)) ?_ | refine And.intro (show _ ≠ (0 : Int) by omega) ?_ | refine WIx.intsN (by omega) ?_ | refine WIx.rowsN (by omega) ?_ | with_reducible refine WB.decT (by first | with_reducible rfl | assumption | omega | exact ⟨rfl, rfl⟩) ?_ | with_reducible refine WB.decF (by first | assumption | omega) ?_ | with_reducible refine WB.ndT (by first | with_reducible rfl | assumption | omega | exact ⟨rfl, rfl⟩) ?_ | with_reducible refine WB.ndF (by first | assumption | omega) ?_ | with_reducible refine WB.nt ?_ | with_reducible refine WB.nf ?_ | with_reducible refine WB.dec (fun h => ?_) (fun h => ?_) | with_reducible refine WB.ndec (fun h => ?_) (fun h => ?_) | refine WB.mk (fun h => ?_) (fun h => ?_)) <;> conv => whnf)
      refine WSt.app_one (ds := lnF (b :: u)) (r := lnD (sY x)) rfl rfl rfl rfl rfl rfl (by rw [lnF_len]; rfl) rfl rfl (by omega) rfl ?_; conv => whnf
      by_cases t1 : x.t = p
      · rw [if_pos t1] at hsx
        repeat' first | ((first | with_reducible apply WB.tt | with_reducible apply WB.ff | refine Rn.seq ?_ | refine Rn.reg ?_ | refine Rn.drw ?_ | refine Rn.blk ?_ | refine Rn.skip ?_ | refine Rn.ret ?_ | refine Rn.exit ?_ | refine Rn.cond rfl ?_ | refine And.intro (InR.i64 (by omega) (by omega)) ?_ | refine And.intro (show _ ≠ (0 : Int) by omega) ?_ | refine WIx.intsN (by omega) ?_ | refine WIx.rowsN (by omega) ?_ | with_reducible refine WB.decT (by first | with_reducible rfl | assumption | omega | exact ⟨rfl, rfl⟩) ?_ | with_reducible refine WB.decF (by first | assumption | omega) ?_ | with_reducible refine WB.ndT (by first | with_reducible rfl | assumption | omega | exact ⟨rfl, rfl⟩) ?_ | with_reducible refine WB.ndF (by first | assumption | omega) ?_ | with_reducible refine WB.nt ?_ | with_reducible refine WB.nf ?_ | with_reducible refine WB.dec (fun h => ?_) (fun h => ?_) | with_reducible refine WB.ndec (fun h => ?_) (fun h => ?_) | refine WB.mk (fun h => ?_) (fun h => ?_)) <;> conv => whnf)
        refine WSt.app_one (ds := lnF (a :: s)) (r := lnD (⟨x.k, x.c, q⟩ : Ln)) rfl rfl rfl rfl rfl rfl (by rw [lnF_len]; rfl) rfl rfl (by omega) rfl ?_; conv => whnf
        repeat' first | ((first | with_reducible apply WB.tt | with_reducible apply WB.ff | refine Rn.seq ?_ | refine Rn.reg ?_ | refine Rn.drw ?_ | refine Rn.blk ?_ | refine Rn.skip ?_ | refine Rn.ret ?_ | refine Rn.exit ?_ | refine Rn.cond rfl ?_ | refine And.intro (InR.i64 (by omega) (by omega)) ?_ | refine And.intro (show _ ≠ (0 : Int) by omega) ?_ | refine WIx.intsN (by omega) ?_ | refine WIx.rowsN (by omega) ?_ | with_reducible refine WB.decT (by first | with_reducible rfl | assumption | omega | exact ⟨rfl, rfl⟩) ?_ | with_reducible refine WB.decF (by first | assumption | omega) ?_ | with_reducible refine WB.ndT (by first | with_reducible rfl | assumption | omega | exact ⟨rfl, rfl⟩) ?_ | with_reducible refine WB.ndF (by first | assumption | omega) ?_ | with_reducible refine WB.nt ?_ | with_reducible refine WB.nf ?_ | with_reducible refine WB.dec (fun h => ?_) (fun h => ?_) | with_reducible refine WB.ndec (fun h => ?_) (fun h => ?_) | refine WB.mk (fun h => ?_) (fun h => ?_)) <;> conv => whnf)
        refine Again.to (j + 1) (by omega) (by omega) (by rw [hS1, hS2]; exact (show 9 ≤ 9 by omega)) ?_
        rw [hS2, hsx]
        refine Shr.of ?_ ?_ rfl rfl
        · show Rel _ _ ((.n (.n (.n .e (some (.i .u8 after)) (.n .e (some (.pt (.o .h) 0 0)) .e)) none (.n (.n .e (some (.i .i64 p)) .e) none (.n .e (some (.i .i64 ((j + 1 : Nat) : Int))) .e))) none (.n (.n .e (some (.pt .h 0 0)) (.n .e (some (.pt (.i .h) 0 0)) .e)) none (.n (.n .e (some (.i .i64 q)) .e) none .e))) : T D) _
          (repeat' first | exact Rel.e | refine Rel.some ?_ ?_ ?_ | refine Rel.none ?_ ?_ | refine Rel.ee ?_ ?_)
          all_goals show Fz _ _ _ _
          all_goals first | exact .pu trivial | exact .kpt (show _ < 9 by simp [Pos.nat])
        · show Rel _ _ (.n (.n (.n (.n .e (blN (a :: (s ++ [(⟨x.k, x.c, q⟩ : Ln)]))) .e) none .e) (some (outN n coin box cs (slN (.o (.o (.o .h))) (a :: (s ++ [(⟨x.k, x.c, q⟩ : Ln)]))))) (.n .e (blN (b :: (u ++ [sY x]))) .e)) (some (bkC n coin box ls cs)) (.n .e (some (outN n coin box cs (slN (.o (.i .h)) (b :: (u ++ [sY x]))))) .e) : T C) _
          rw [slN_snoc, blN_snoc, slN_snoc, blN_snoc]
          (repeat' first | exact Rel.e | refine Rel.some ?_ ?_ ?_ | refine Rel.none ?_ ?_ | refine Rel.ee ?_ ?_)
          all_goals first
            | exact RO'.of (show _ < 9 by simp [Pos.nat]) (ShC.kp (bkC_kp _ _ _ _ _ _))
            | exact RO'.of (show _ < 9 by simp [Pos.nat]) (outN_sh (.ksl (show _ < 9 by simp [Pos.nat])))
            | (refine RO'.of (show _ < 9 by simp [Pos.nat]) ?_
               exact ShC.grown (by omega) (PuL_iff.2 fun d hd => by
                 rcases List.mem_append.1 hd with hd | hd
                 · exact PuL_iff.1 (lnF_pu _) d hd
                 · exact PuL_iff.1 (show PuL (lnD _) by simp [lnD, PuL, Pu]) d hd))
      by_cases t2 : x.t = q
      · rw [if_neg t1, if_pos t2] at hsx
        repeat' first | ((first | with_reducible apply WB.tt | with_reducible apply WB.ff | refine Rn.seq ?_ | refine Rn.reg ?_ | refine Rn.drw ?_ | refine Rn.blk ?_ | refine Rn.skip ?_ | refine Rn.ret ?_ | refine Rn.exit ?_ | refine Rn.cond rfl ?_ | refine And.intro (InR.i64 (by omega) (by omega)) ?_ | refine And.intro (show _ ≠ (0 : Int) by omega) ?_ | refine WIx.intsN (by omega) ?_ | refine WIx.rowsN (by omega) ?_ | with_reducible refine WB.decT (by first | with_reducible rfl | assumption | omega | exact ⟨rfl, rfl⟩) ?_ | with_reducible refine WB.decF (by first | assumption | omega) ?_ | with_reducible refine WB.ndT (by first | with_reducible rfl | assumption | omega | exact ⟨rfl, rfl⟩) ?_ | with_reducible refine WB.ndF (by first | assumption | omega) ?_ | with_reducible refine WB.nt ?_ | with_reducible refine WB.nf ?_ | with_reducible refine WB.dec (fun h => ?_) (fun h => ?_) | with_reducible refine WB.ndec (fun h => ?_) (fun h => ?_) | refine WB.mk (fun h => ?_) (fun h => ?_)) <;> conv => whnf)
        refine WSt.app_one (ds := lnF (a :: s)) (r := lnD (⟨x.k, x.c, p⟩ : Ln)) rfl rfl rfl rfl rfl rfl (by rw [lnF_len]; rfl) rfl rfl (by omega) rfl ?_; conv => whnf
        repeat' first | ((first | with_reducible apply WB.tt | with_reducible apply WB.ff | refine Rn.seq ?_ | refine Rn.reg ?_ | refine Rn.drw ?_ | refine Rn.blk ?_ | refine Rn.skip ?_ | refine Rn.ret ?_ | refine Rn.exit ?_ | refine Rn.cond rfl ?_ | refine And.intro (InR.i64 (by omega) (by omega)) ?_ | refine And.intro (show _ ≠ (0 : Int) by omega) ?_ | refine WIx.intsN (by omega) ?_ | refine WIx.rowsN (by omega) ?_ | with_reducible refine WB.decT (by first | with_reducible rfl | assumption | omega | exact ⟨rfl, rfl⟩) ?_ | with_reducible refine WB.decF (by first | assumption | omega) ?_ | with_reducible refine WB.ndT (by first | with_reducible rfl | assumption | omega | exact ⟨rfl, rfl⟩) ?_ | with_reducible refine WB.ndF (by first | assumption | omega) ?_ | with_reducible refine WB.nt ?_ | with_reducible refine WB.nf ?_ | with_reducible refine WB.dec (fun h => ?_) (fun h => ?_) | with_reducible refine WB.ndec (fun h => ?_) (fun h => ?_) | refine WB.mk (fun h => ?_) (fun h => ?_)) <;> conv => whnf)
        refine Again.to (j + 1) (by omega) (by omega) (by rw [hS1, hS2]; exact (show 9 ≤ 9 by omega)) ?_
        rw [hS2, hsx]
        refine Shr.of ?_ ?_ rfl rfl
        · show Rel _ _ ((.n (.n (.n .e (some (.i .u8 after)) (.n .e (some (.pt (.o .h) 0 0)) .e)) none (.n (.n .e (some (.i .i64 p)) .e) none (.n .e (some (.i .i64 ((j + 1 : Nat) : Int))) .e))) none (.n (.n .e (some (.pt .h 0 0)) (.n .e (some (.pt (.i .h) 0 0)) .e)) none (.n (.n .e (some (.i .i64 q)) .e) none .e))) : T D) _
          (repeat' first | exact Rel.e | refine Rel.some ?_ ?_ ?_ | refine Rel.none ?_ ?_ | refine Rel.ee ?_ ?_)
          all_goals show Fz _ _ _ _
          all_goals first | exact .pu trivial | exact .kpt (show _ < 9 by simp [Pos.nat])
        · show Rel _ _ (.n (.n (.n (.n .e (blN (a :: (s ++ [(⟨x.k, x.c, p⟩ : Ln)]))) .e) none .e) (some (outN n coin box cs (slN (.o (.o (.o .h))) (a :: (s ++ [(⟨x.k, x.c, p⟩ : Ln)]))))) (.n .e (blN (b :: (u ++ [sY x]))) .e)) (some (bkC n coin box ls cs)) (.n .e (some (outN n coin box cs (slN (.o (.i .h)) (b :: (u ++ [sY x]))))) .e) : T C) _
          rw [slN_snoc, blN_snoc, slN_snoc, blN_snoc]
          (repeat' first | exact Rel.e | refine Rel.some ?_ ?_ ?_ | refine Rel.none ?_ ?_ | refine Rel.ee ?_ ?_)
          all_goals first
            | exact RO'.of (show _ < 9 by simp [Pos.nat]) (ShC.kp (bkC_kp _ _ _ _ _ _))
            | exact RO'.of (show _ < 9 by simp [Pos.nat]) (outN_sh (.ksl (show _ < 9 by simp [Pos.nat])))
            | (refine RO'.of (show _ < 9 by simp [Pos.nat]) ?_
               exact ShC.grown (by omega) (PuL_iff.2 fun d hd => by
                 rcases List.mem_append.1 hd with hd | hd
                 · exact PuL_iff.1 (lnF_pu _) d hd
                 · exact PuL_iff.1 (show PuL (lnD _) by simp [lnD, PuL, Pu]) d hd))
      · rw [if_neg t1, if_neg t2] at hsx
        repeat' first | ((first | with_reducible apply WB.tt | with_reducible apply WB.ff | refine Rn.seq ?_ | refine Rn.reg ?_ | refine Rn.drw ?_ | refine Rn.blk ?_ | refine Rn.skip ?_ | refine Rn.ret ?_ | refine Rn.exit ?_ | refine Rn.cond rfl ?_ | refine And.intro (InR.i64 (by omega) (by omega)) ?_ | refine And.intro (show _ ≠ (0 : Int) by omega) ?_ | refine WIx.intsN (by omega) ?_ | refine WIx.rowsN (by omega) ?_ | with_reducible refine WB.decT (by first | with_reducible rfl | assumption | omega | exact ⟨rfl, rfl⟩) ?_ | with_reducible refine WB.decF (by first | assumption | omega) ?_ | with_reducible refine WB.ndT (by first | with_reducible rfl | assumption | omega | exact ⟨rfl, rfl⟩) ?_ | with_reducible refine WB.ndF (by first | assumption | omega) ?_ | with_reducible refine WB.nt ?_ | with_reducible refine WB.nf ?_ | with_reducible refine WB.dec (fun h => ?_) (fun h => ?_) | with_reducible refine WB.ndec (fun h => ?_) (fun h => ?_) | refine WB.mk (fun h => ?_) (fun h => ?_)) <;> conv => whnf)
        refine WSt.app_one (ds := lnF (a :: s)) (r := lnD (⟨x.k, x.c, x.t⟩ : Ln)) rfl rfl rfl rfl rfl rfl (by rw [lnF_len]; rfl) rfl rfl (by omega) rfl ?_; conv => whnf
        repeat' first | ((first | with_reducible apply WB.tt | with_reducible apply WB.ff | refine Rn.seq ?_ | refine Rn.reg ?_ | refine Rn.drw ?_ | refine Rn.blk ?_ | refine Rn.skip ?_ | refine Rn.ret ?_ | refine Rn.exit ?_ | refine Rn.cond rfl ?_ | refine And.intro (InR.i64 (by omega) (by omega)) ?_ | refine And.intro (show _ ≠ (0 : Int) by omega) ?_ | refine WIx.intsN (by omega) ?_ | refine WIx.rowsN (by omega) ?_ | with_reducible refine WB.decT (by first | with_reducible rfl | assumption | omega | exact ⟨rfl, rfl⟩) ?_ | with_reducible refine WB.decF (by first | assumption | omega) ?_ | with_reducible refine WB.ndT (by first | with_reducible rfl | assumption | omega | exact ⟨rfl, rfl⟩) ?_ | with_reducible refine WB.ndF (by first | assumption | omega) ?_ | with_reducible refine WB.nt ?_ | with_reducible refine WB.nf ?_ | with_reducible refine WB.dec (fun h => ?_) (fun h => ?_) | with_reducible refine WB.ndec (fun h => ?_) (fun h => ?_) | refine WB.mk (fun h => ?_) (fun h => ?_)) <;> conv => whnf)
        refine Again.to (j + 1) (by omega) (by omega) (by rw [hS1, hS2]; exact (show 9 ≤ 9 by omega)) ?_
        rw [hS2, hsx]
        refine Shr.of ?_ ?_ rfl rfl
        · show Rel _ _ ((.n (.n (.n .e (some (.i .u8 after)) (.n .e (some (.pt (.o .h) 0 0)) .e)) none (.n (.n .e (some (.i .i64 p)) .e) none (.n .e (some (.i .i64 ((j + 1 : Nat) : Int))) .e))) none (.n (.n .e (some (.pt .h 0 0)) (.n .e (some (.pt (.i .h) 0 0)) .e)) none (.n (.n .e (some (.i .i64 q)) .e) none .e))) : T D) _
          (repeat' first | exact Rel.e | refine Rel.some ?_ ?_ ?_ | refine Rel.none ?_ ?_ | refine Rel.ee ?_ ?_)
          all_goals show Fz _ _ _ _
          all_goals first | exact .pu trivial | exact .kpt (show _ < 9 by simp [Pos.nat])
        · show Rel _ _ (.n (.n (.n (.n .e (blN (a :: (s ++ [(⟨x.k, x.c, x.t⟩ : Ln)]))) .e) none .e) (some (outN n coin box cs (slN (.o (.o (.o .h))) (a :: (s ++ [(⟨x.k, x.c, x.t⟩ : Ln)]))))) (.n .e (blN (b :: (u ++ [sY x]))) .e)) (some (bkC n coin box ls cs)) (.n .e (some (outN n coin box cs (slN (.o (.i .h)) (b :: (u ++ [sY x]))))) .e) : T C) _
          rw [slN_snoc, blN_snoc, slN_snoc, blN_snoc]
          (repeat' first | exact Rel.e | refine Rel.some ?_ ?_ ?_ | refine Rel.none ?_ ?_ | refine Rel.ee ?_ ?_)
          all_goals first
            | exact RO'.of (show _ < 9 by simp [Pos.nat]) (ShC.kp (bkC_kp _ _ _ _ _ _))
            | exact RO'.of (show _ < 9 by simp [Pos.nat]) (outN_sh (.ksl (show _ < 9 by simp [Pos.nat])))
            | (refine RO'.of (show _ < 9 by simp [Pos.nat]) ?_
               exact ShC.grown (by omega) (PuL_iff.2 fun d hd => by
                 rcases List.mem_append.1 hd with hd | hd
                 · exact PuL_iff.1 (lnF_pu _) d hd
                 · exact PuL_iff.1 (show PuL (lnD _) by simp [lnD, PuL, Pu]) d hd))
  · have hje : j = ls.length := by omega
    have he := hend hje
    rw [he]
    clear hnext hAl hend he hA
    repeat' first | ((first | with_reducible apply WB.tt | with_reducible apply WB.ff | refine Rn.seq ?_ | refine Rn.reg ?_ | refine Rn.drw ?_ | refine Rn.blk ?_ | refine Rn.skip ?_ | refine Rn.ret ?_ | refine Rn.exit ?_ | refine Rn.cond rfl ?_ | refine And.intro (InR.i64 (by omega) (by omega)) ?_ | refine And.intro (show _ ≠ (0 : Int) by omega) ?_ | refine WIx.intsN (by omega) ?_ | refine WIx.rowsN (by omega) ?_ | with_reducible refine WB.decT (by first | with_reducible rfl | assumption | omega | exact ⟨rfl, rfl⟩) ?_ | with_reducible refine WB.decF (by first | assumption | omega) ?_ | with_reducible refine WB.ndT (by first | with_reducible rfl | assumption | omega | exact ⟨rfl, rfl⟩) ?_ | with_reducible refine WB.ndF (by first | assumption | omega) ?_ | with_reducible refine WB.nt ?_ | with_reducible refine WB.nf ?_ | with_reducible refine WB.dec (fun h => ?_) (fun h => ?_) | with_reducible refine WB.ndec (fun h => ?_) (fun h => ?_) | refine WB.mk (fun h => ?_) (fun h => ?_)) <;> conv => whnf)
    refine ⟨rfl, ⟨(.n (.n (.n .e (some (.i .u8 after)) (.n .e (some (.pt (.o .h) 0 0)) .e)) none .e) none (.n (.n .e (some (.pt .h 0 0)) (.n .e (some (.pt (.i .h) 0 0)) .e)) none .e)), (.n (.n .e (some (outN n coin box cs (.lst 3 (rows lnD (ls.map (sX p q)))))) .e) (some (bkC n coin box ls cs)) (.n .e (some (outN n coin box cs (.lst 3 (rows lnD (ls.map sY))))) .e)), .o (.o .h), none⟩, (fun id => id.nat < 4), ?_, (fun id (h : id.nat < 4) => h), (fun id h => h), (Nat.le_refl 4), ?_⟩
    · refine ShrB.of ?_ ?_ rfl rfl
      · (repeat' first | exact Rel.e | refine Rel.some ?_ ?_ ?_ | refine Rel.none ?_ ?_ | refine Rel.ee ?_ ?_)
        all_goals show Fz _ _ _ _
        all_goals first | exact .pu trivial | exact .kpt (show _ < 4 by simp [Pos.nat])
      · (repeat' first | exact Rel.e | refine Rel.some ?_ ?_ ?_ | refine Rel.none ?_ ?_ | refine Rel.ee ?_ ?_)
        all_goals refine ⟨show _ < 4 by simp [Pos.nat], ?_⟩
        all_goals first
          | exact ShC.kp (bkC_kp _ _ _ _ _ _)
          | exact outN_sh (fz_slN (show ¬ Pos.nat (.o (.o (.o .h))) < 4 by decide) _ rfl)
          | exact outN_sh (fz_slN (show ¬ Pos.nat (.o (.i .h)) < 4 by decide) _ rfl)
    conv => whnf
    have m1 := Int.tmod_nonneg (((rows lnD ls).length : Int) + 1) hh.1
    have m2 := Int.tmod_lt_of_pos after (show (0 : Int) < ((rows lnD ls).length : Int) + 1 by omega)
    obtain ⟨k, hk2⟩ := Int.eq_ofNat_of_zero_le m1
    have hk : k ≤ ls.length := by omega
    obtain ⟨LX, hLX⟩ : ∃ LX, ls.map (sX p q) = LX := ⟨_, rfl⟩
    obtain ⟨LY, hLY⟩ : ∃ LY, ls.map sY = LY := ⟨_, rfl⟩
    have lX : LX.length = ls.length := by rw [← hLX, List.length_map]
    have lY : LY.length = ls.length := by rw [← hLY, List.length_map]
    have fX := RX.fault h0
    have fY := RY.fault h0
    have bX := RX.has h0
    have bY := RY.has h0
    rw [hLX] at fX bX
    rw [hLY] at fY bY
    rw [hLX, hLY]
    have iB := j_Book n coin box ls cs (by omega) (by omega)
    have iBX := j_Book n coin box LX cs (by omega) (by omega)
    have iBY := j_Book n coin box LY cs (by omega) (by omega)
    have iO := j_OutP n coin box ls cs (k : Int)
    have iOX := j_OutP n coin box LX cs (k : Int)
    have iOY := j_OutP n coin box LY cs (k : Int)
    have iM := j_MoneyP n coin box ls cs (k : Int)
    have iMX := j_MoneyP n coin box LX cs (k : Int)
    have iMY := j_MoneyP n coin box LY cs (k : Int)
    have iQ := j_MixedP n coin box ls cs
    have iQX := j_MixedP n coin box LX cs
    have iQY := j_MixedP n coin box LY cs
    unfold outT at iO iOX iOY
    unfold monT at iM iMX iMY
    unfold mixT at iQ iQX iQY
    have ht : inR (k : Int) 0 (ls.length : Int) = true := inR_iff.2 (by omega)
    rw [lX, ht] at iOX iMX
    rw [lY, ht] at iOY iMY
    rw [ht] at iO iM
    rw [lX] at iQX
    rw [lY] at iQY
    repeat' first | ((first | with_reducible apply WB.tt | with_reducible apply WB.ff | refine Rn.seq ?_ | refine Rn.reg ?_ | refine Rn.drw ?_ | refine Rn.blk ?_ | refine Rn.skip ?_ | refine Rn.ret ?_ | refine Rn.exit ?_ | refine Rn.cond rfl ?_ | refine And.intro (InR.i64 (by omega) (by omega)) ?_ | refine And.intro (show _ ≠ (0 : Int) by omega) ?_ | refine WIx.intsN (by omega) ?_ | refine WIx.rowsN (by omega) ?_ | with_reducible refine WB.decT (by first | with_reducible rfl | assumption | omega | exact ⟨rfl, rfl⟩) ?_ | with_reducible refine WB.decF (by first | assumption | omega) ?_ | with_reducible refine WB.ndT (by first | with_reducible rfl | assumption | omega | exact ⟨rfl, rfl⟩) ?_ | with_reducible refine WB.ndF (by first | assumption | omega) ?_ | with_reducible refine WB.nt ?_ | with_reducible refine WB.nf ?_ | with_reducible refine WB.dec (fun h => ?_) (fun h => ?_) | with_reducible refine WB.ndec (fun h => ?_) (fun h => ?_) | refine WB.mk (fun h => ?_) (fun h => ?_)) <;> conv => whnf)
    rw [hk2]
    cases hb : hasB (B5 n coin box ls cs) with
    | false =>
      rw [hb] at bX bY
      rw [sE_false h0 hb, if_neg (by decide)] at iO iM iQ
      rw [sE_false fX bX, if_neg (by decide)] at iOX iMX iQX
      rw [sE_false fY bY, if_neg (by decide)] at iOY iMY iQY
      have iN : PureF Try.prog p50.ix [.lst 1 [], .lst 1 []] (.b true) := j_ints [] (by simp)
      have hz : (0 : Int) = 0 ∧ (0 : Int) = 0 := ⟨rfl, rfl⟩
      repeat' first | ((first | with_reducible apply WB.tt | with_reducible apply WB.ff | refine Rn.seq ?_ | refine Rn.reg ?_ | refine Rn.drw ?_ | refine Rn.blk ?_ | refine Rn.skip ?_ | refine Rn.ret ?_ | refine Rn.exit ?_ | refine Rn.cond rfl ?_ | refine And.intro (InR.i64 (by omega) (by omega)) ?_ | refine And.intro (show _ ≠ (0 : Int) by omega) ?_ | refine WIx.intsN (by omega) ?_ | refine WIx.rowsN (by omega) ?_ | refine WCall.pure (iB) ?_ | refine WCall.pure (iBX) ?_ | refine WCall.pure (iBY) ?_ | refine WCall.pure (iO) ?_ | refine WCall.pure (iOX) ?_ | refine WCall.pure (iOY) ?_ | refine WCall.pure (iM) ?_ | refine WCall.pure (iMX) ?_ | refine WCall.pure (iMY) ?_ | refine WCall.pure (iQ) ?_ | refine WCall.pure (iQX) ?_ | refine WCall.pure (iQY) ?_ | refine WCall.pure (iN) ?_ | with_reducible refine WB.decT (by first | with_reducible rfl | assumption | omega | exact ⟨rfl, rfl⟩) ?_ | with_reducible refine WB.decF (by first | assumption | omega) ?_ | with_reducible refine WB.ndT (by first | with_reducible rfl | assumption | omega | exact ⟨rfl, rfl⟩) ?_ | with_reducible refine WB.ndF (by first | assumption | omega) ?_ | with_reducible refine WB.nt ?_ | with_reducible refine WB.nf ?_ | with_reducible refine WB.dec (fun h => ?_) (fun h => ?_) | with_reducible refine WB.ndec (fun h => ?_) (fun h => ?_) | refine WB.mk (fun h => ?_) (fun h => ?_)) <;> conv => whnf)
      refine WSt.eqr2 (a := 0) (b := 0) (a' := 0) (b' := 0) rfl rfl rfl rfl rfl rfl ?_; conv => whnf
      repeat' first | ((first | with_reducible apply WB.tt | with_reducible apply WB.ff | refine Rn.seq ?_ | refine Rn.reg ?_ | refine Rn.drw ?_ | refine Rn.blk ?_ | refine Rn.skip ?_ | refine Rn.ret ?_ | refine Rn.exit ?_ | refine Rn.cond rfl ?_ | refine And.intro (InR.i64 (by omega) (by omega)) ?_ | refine And.intro (show _ ≠ (0 : Int) by omega) ?_ | refine WIx.intsN (by omega) ?_ | refine WIx.rowsN (by omega) ?_ | refine WCall.pure (AW) ?_ | with_reducible refine WB.decT (by first | with_reducible rfl | assumption | omega | exact ⟨rfl, rfl⟩) ?_ | with_reducible refine WB.decF (by first | assumption | omega) ?_ | with_reducible refine WB.ndT (by first | with_reducible rfl | assumption | omega | exact ⟨rfl, rfl⟩) ?_ | with_reducible refine WB.ndF (by first | assumption | omega) ?_ | with_reducible refine WB.nt ?_ | with_reducible refine WB.nf ?_ | with_reducible refine WB.dec (fun h => ?_) (fun h => ?_) | with_reducible refine WB.ndec (fun h => ?_) (fun h => ?_) | refine WB.mk (fun h => ?_) (fun h => ?_)) <;> conv => whnf)
      refine WSt.eqr2 (a := 0) (b := 0) (a' := 0) (b' := 0) rfl rfl rfl rfl rfl rfl ?_; conv => whnf
      repeat' first | ((first | with_reducible apply WB.tt | with_reducible apply WB.ff | refine Rn.seq ?_ | refine Rn.reg ?_ | refine Rn.drw ?_ | refine Rn.blk ?_ | refine Rn.skip ?_ | refine Rn.ret ?_ | refine Rn.exit ?_ | refine Rn.cond rfl ?_ | refine And.intro (InR.i64 (by omega) (by omega)) ?_ | refine And.intro (show _ ≠ (0 : Int) by omega) ?_ | refine WIx.intsN (by omega) ?_ | refine WIx.rowsN (by omega) ?_ | refine WCall.pure (AW) ?_ | with_reducible refine WB.decT (by first | with_reducible rfl | assumption | omega | exact ⟨rfl, rfl⟩) ?_ | with_reducible refine WB.decF (by first | assumption | omega) ?_ | with_reducible refine WB.ndT (by first | with_reducible rfl | assumption | omega | exact ⟨rfl, rfl⟩) ?_ | with_reducible refine WB.ndF (by first | assumption | omega) ?_ | with_reducible refine WB.nt ?_ | with_reducible refine WB.nf ?_ | with_reducible refine WB.dec (fun h => ?_) (fun h => ?_) | with_reducible refine WB.ndec (fun h => ?_) (fun h => ?_) | refine WB.mk (fun h => ?_) (fun h => ?_)) <;> conv => whnf)
      refine WSt.eqr2 (a := 0) (b := 0) (a' := 0) (b' := 0) rfl rfl rfl rfl rfl rfl ?_; conv => whnf
      repeat' first | ((first | with_reducible apply WB.tt | with_reducible apply WB.ff | refine Rn.seq ?_ | refine Rn.reg ?_ | refine Rn.drw ?_ | refine Rn.blk ?_ | refine Rn.skip ?_ | refine Rn.ret ?_ | refine Rn.exit ?_ | refine Rn.cond rfl ?_ | refine And.intro (InR.i64 (by omega) (by omega)) ?_ | refine And.intro (show _ ≠ (0 : Int) by omega) ?_ | refine WIx.intsN (by omega) ?_ | refine WIx.rowsN (by omega) ?_ | refine WCall.pure (AW) ?_ | with_reducible refine WB.decT (by first | with_reducible rfl | assumption | omega | exact ⟨rfl, rfl⟩) ?_ | with_reducible refine WB.decF (by first | assumption | omega) ?_ | with_reducible refine WB.ndT (by first | with_reducible rfl | assumption | omega | exact ⟨rfl, rfl⟩) ?_ | with_reducible refine WB.ndF (by first | assumption | omega) ?_ | with_reducible refine WB.nt ?_ | with_reducible refine WB.nf ?_ | with_reducible refine WB.dec (fun h => ?_) (fun h => ?_) | with_reducible refine WB.ndec (fun h => ?_) (fun h => ?_) | refine WB.mk (fun h => ?_) (fun h => ?_)) <;> conv => whnf)
      refine WSt.eqr2 (a := 0) (b := 0) (a' := 0) (b' := 0) rfl rfl rfl rfl rfl rfl ?_; conv => whnf
      repeat' first | ((first | with_reducible apply WB.tt | with_reducible apply WB.ff | refine Rn.seq ?_ | refine Rn.reg ?_ | refine Rn.drw ?_ | refine Rn.blk ?_ | refine Rn.skip ?_ | refine Rn.ret ?_ | refine Rn.exit ?_ | refine Rn.cond rfl ?_ | refine And.intro (InR.i64 (by omega) (by omega)) ?_ | refine And.intro (show _ ≠ (0 : Int) by omega) ?_ | refine WIx.intsN (by omega) ?_ | refine WIx.rowsN (by omega) ?_ | refine WCall.pure (AW) ?_ | with_reducible refine WB.decT (by first | with_reducible rfl | assumption | omega | exact ⟨rfl, rfl⟩) ?_ | with_reducible refine WB.decF (by first | assumption | omega) ?_ | with_reducible refine WB.ndT (by first | with_reducible rfl | assumption | omega | exact ⟨rfl, rfl⟩) ?_ | with_reducible refine WB.ndF (by first | assumption | omega) ?_ | with_reducible refine WB.nt ?_ | with_reducible refine WB.nf ?_ | with_reducible refine WB.dec (fun h => ?_) (fun h => ?_) | with_reducible refine WB.ndec (fun h => ?_) (fun h => ?_) | refine WB.mk (fun h => ?_) (fun h => ?_)) <;> conv => whnf)
      exact Fin.b rfl rfl
    | true =>
      rw [hb] at bX bY
      rw [sE_true h0 hb, if_pos rfl] at iO iM iQ
      rw [sE_true fX bX, if_pos rfl] at iOX iMX iQX
      rw [sE_true fY bY, if_pos rfl] at iOY iMY iQY
      rw [Int.toNat_natCast] at iO iM iOX iMX iOY iMY
      have vX : vdL (B5 n coin box LX cs) k 0 = vdL (B5 n coin box ls cs) k 0 := vdL_eq rfl fun i hi => by
        have hi : i < n.toNat := hi
        rw [← hLX]
        have := RX.ans h0 hb (k := k) (k' := k) (f := fun m => min (m.h (0 + i)) 1) (g := fun m => min (m.h (0 + i)) 1) hk fun T hT => by
          show min ((if 0 + i < 4 then cOut (T.map (sX p q)) ((0 + i : Nat) : Int) k + 1 else _) : Int) 1 = min ((if 0 + i < 4 then cOut T ((0 + i : Nat) : Int) k + 1 else _) : Int) 1
          rw [if_pos (by omega), if_pos (by omega), sX_c p q T _ k (by omega)]
        unfold vdO outA
        rw [this.1, this.2]
      have vY0 : vdL (B5 n coin box LY cs) k 0 = vdL (B5 n coin box ls cs) k 4 := vdL_eq rfl fun i hi => by
        have hi : i < n.toNat := hi
        rw [← hLY]
        have := RY.ans h0 hb (k := k) (k' := k) (f := fun m => min (m.h (0 + i)) 1) (g := fun m => min (m.h (4 + i)) 1) hk fun T hT => by
          show min ((if 0 + i < 4 then cOut (T.map sY) ((0 + i : Nat) : Int) k + 1 else _) : Int) 1 = min ((if 4 + i < 4 then _ else tOut T ((4 + i - 4 : Nat) : Int) k + 1) : Int) 1
          rw [if_pos (by omega), if_neg (by omega), sY_c T _ k (by omega), show 0 + i = 4 + i - 4 by omega]
        unfold vdO outA
        rw [this.1, this.2]
      have vY4 : vdL (B5 n coin box LY cs) k 4 = vdL (B5 n coin box ls cs) k 0 := vdL_eq rfl fun i hi => by
        have hi : i < n.toNat := hi
        rw [← hLY]
        have := RY.ans h0 hb (k := k) (k' := k) (f := fun m => min (m.h (4 + i)) 1) (g := fun m => min (m.h (0 + i)) 1) hk fun T hT => by
          show min ((if 4 + i < 4 then _ else tOut (T.map sY) ((4 + i - 4 : Nat) : Int) k + 1) : Int) 1 = min ((if 0 + i < 4 then cOut T ((0 + i : Nat) : Int) k + 1 else _) : Int) 1
          rw [if_neg (by omega), if_pos (by omega), sY_t T _ k (by omega), show 0 + i = 4 + i - 4 by omega]
        unfold vdO outA
        rw [this.1, this.2]
      have mX := RX.ans h0 hb (k := k) (k' := k) (f := Mo.box) (g := Mo.box) hk fun T hT => RX.mon T box coin k (by omega)
      have mY := RY.ans h0 hb (k := k) (k' := k) (f := Mo.box) (g := Mo.box) hk fun T hT => RY.mon T box coin k (by omega)
      have xX := RX.ans h0 hb (k := ls.length) (k' := k) (f := Mo.mix) (g := Mo.mix) (Nat.le_refl _) fun T hT => RX.mix T ls.length (by omega)
      have xY := RY.ans h0 hb (k := ls.length) (k' := k) (f := Mo.mix) (g := Mo.mix) (Nat.le_refl _) fun T hT => RY.mix T ls.length (by omega)
      rw [hLX] at mX xX
      rw [hLY] at mY xY
      unfold lohi at iM iMX iMY iQ iQX iQY
      rw [mX.1, mX.2] at iMX
      rw [mY.1, mY.2] at iMY
      rw [xX.1, xX.2] at iQX
      rw [xY.1, xY.2] at iQY
      rw [vX] at iOX
      rw [vY0, vY4] at iOY
      have hne : exT (B5 n coin box ls cs) (B5 n coin box ls cs).ls.length [] ≠ [] := ex_ne (sE_true h0 hb)
      have g1 := fold_mem (ans_ne (aft := k) (ak := Mo.box) hne)
      have g2 := fold_mem (ans_ne (aft := ls.length) (ak := Mo.mix) hne)
      have wM : ∀ v ∈ ansL (B5 n coin box ls cs) k Mo.box, wfB .i64 v = true := fun v hv => by
        obtain ⟨T, _, rfl⟩ := List.mem_map.1 hv
        have h1 := monR_bd (T := T) V.box V.coin k
        have h1 : -99 * (k : Int) ≤ monR box coin T k ∧ monR box coin T k ≤ 999 + 99 * (k : Int) := h1
        exact wf_small (show _ ≤ monR box coin T k by omega) (show monR box coin T k ≤ _ by omega)
      have wQ : ∀ v ∈ ansL (B5 n coin box ls cs) ls.length Mo.mix, wfB .i64 v = true := fun v hv => by
        obtain ⟨T, _, rfl⟩ := List.mem_map.1 hv
        have h1 := mixR_bd (T := T) ls.length
        exact wf_small (show _ ≤ mixR T ls.length by omega) (show mixR T ls.length ≤ _ by omega)
      have w1 := wM _ g1.1
      have w2 := wM _ g1.2
      have w3 := wQ _ g2.1
      have w4 := wQ _ g2.2
      have iN0 := j_ints (vdL (B5 n coin box ls cs) k 0) (by rw [vdL_len]; show n.toNat ≤ 1000; omega)
      have iN4 := j_ints (vdL (B5 n coin box ls cs) k 4) (by rw [vdL_len]; show n.toNat ≤ 1000; omega)
      clear g1 g2 wM wQ mX mY xX xY vX vY0 vY4
      generalize (ansL (B5 n coin box ls cs) k Mo.box).foldl min ((ansL (B5 n coin box ls cs) k Mo.box).getD 0 0) = r1 at *
      generalize (ansL (B5 n coin box ls cs) k Mo.box).foldl max ((ansL (B5 n coin box ls cs) k Mo.box).getD 0 0) = r2 at *
      generalize (ansL (B5 n coin box ls cs) ls.length Mo.mix).foldl min ((ansL (B5 n coin box ls cs) ls.length Mo.mix).getD 0 0) = q1 at *
      generalize (ansL (B5 n coin box ls cs) ls.length Mo.mix).foldl max ((ansL (B5 n coin box ls cs) ls.length Mo.mix).getD 0 0) = q2 at *
      have hr : r1 = r1 ∧ r2 = r2 := ⟨rfl, rfl⟩
      have hq : q1 = q1 ∧ q2 = q2 := ⟨rfl, rfl⟩
      repeat' first | ((first | with_reducible apply WB.tt | with_reducible apply WB.ff | refine Rn.seq ?_ | refine Rn.reg ?_ | refine Rn.drw ?_ | refine Rn.blk ?_ | refine Rn.skip ?_ | refine Rn.ret ?_ | refine Rn.exit ?_ | refine Rn.cond rfl ?_ | refine And.intro (InR.i64 (by omega) (by omega)) ?_ | refine And.intro (show _ ≠ (0 : Int) by omega) ?_ | refine WIx.intsN (by omega) ?_ | refine WIx.rowsN (by omega) ?_ | refine WCall.pure (iB) ?_ | refine WCall.pure (iBX) ?_ | refine WCall.pure (iBY) ?_ | refine WCall.pure (iO) ?_ | refine WCall.pure (iOX) ?_ | refine WCall.pure (iOY) ?_ | refine WCall.pure (iM) ?_ | refine WCall.pure (iMX) ?_ | refine WCall.pure (iMY) ?_ | refine WCall.pure (iQ) ?_ | refine WCall.pure (iQX) ?_ | refine WCall.pure (iQY) ?_ | refine WCall.pure (iN0) ?_ | refine WCall.pure (iN4) ?_ | with_reducible refine WB.decT (by first | with_reducible rfl | assumption | omega | exact ⟨rfl, rfl⟩) ?_ | with_reducible refine WB.decF (by first | assumption | omega) ?_ | with_reducible refine WB.ndT (by first | with_reducible rfl | assumption | omega | exact ⟨rfl, rfl⟩) ?_ | with_reducible refine WB.ndF (by first | assumption | omega) ?_ | with_reducible refine WB.nt ?_ | with_reducible refine WB.nf ?_ | with_reducible refine WB.dec (fun h => ?_) (fun h => ?_) | with_reducible refine WB.ndec (fun h => ?_) (fun h => ?_) | refine WB.mk (fun h => ?_) (fun h => ?_)) <;> conv => whnf)
      refine WSt.eqr2 (a := r1) (b := r2) (a' := r1) (b' := r2) rfl rfl w1 w2 w1 w2 ?_; conv => whnf
      repeat' first | ((first | with_reducible apply WB.tt | with_reducible apply WB.ff | refine Rn.seq ?_ | refine Rn.reg ?_ | refine Rn.drw ?_ | refine Rn.blk ?_ | refine Rn.skip ?_ | refine Rn.ret ?_ | refine Rn.exit ?_ | refine Rn.cond rfl ?_ | refine And.intro (InR.i64 (by omega) (by omega)) ?_ | refine And.intro (show _ ≠ (0 : Int) by omega) ?_ | refine WIx.intsN (by omega) ?_ | refine WIx.rowsN (by omega) ?_ | refine WCall.pure (AW) ?_ | with_reducible refine WB.decT (by first | with_reducible rfl | assumption | omega | exact ⟨rfl, rfl⟩) ?_ | with_reducible refine WB.decF (by first | assumption | omega) ?_ | with_reducible refine WB.ndT (by first | with_reducible rfl | assumption | omega | exact ⟨rfl, rfl⟩) ?_ | with_reducible refine WB.ndF (by first | assumption | omega) ?_ | with_reducible refine WB.nt ?_ | with_reducible refine WB.nf ?_ | with_reducible refine WB.dec (fun h => ?_) (fun h => ?_) | with_reducible refine WB.ndec (fun h => ?_) (fun h => ?_) | refine WB.mk (fun h => ?_) (fun h => ?_)) <;> conv => whnf)
      refine WSt.eqr2 (a := r1) (b := r2) (a' := r1) (b' := r2) rfl rfl w1 w2 w1 w2 ?_; conv => whnf
      repeat' first | ((first | with_reducible apply WB.tt | with_reducible apply WB.ff | refine Rn.seq ?_ | refine Rn.reg ?_ | refine Rn.drw ?_ | refine Rn.blk ?_ | refine Rn.skip ?_ | refine Rn.ret ?_ | refine Rn.exit ?_ | refine Rn.cond rfl ?_ | refine And.intro (InR.i64 (by omega) (by omega)) ?_ | refine And.intro (show _ ≠ (0 : Int) by omega) ?_ | refine WIx.intsN (by omega) ?_ | refine WIx.rowsN (by omega) ?_ | refine WCall.pure (AW) ?_ | with_reducible refine WB.decT (by first | with_reducible rfl | assumption | omega | exact ⟨rfl, rfl⟩) ?_ | with_reducible refine WB.decF (by first | assumption | omega) ?_ | with_reducible refine WB.ndT (by first | with_reducible rfl | assumption | omega | exact ⟨rfl, rfl⟩) ?_ | with_reducible refine WB.ndF (by first | assumption | omega) ?_ | with_reducible refine WB.nt ?_ | with_reducible refine WB.nf ?_ | with_reducible refine WB.dec (fun h => ?_) (fun h => ?_) | with_reducible refine WB.ndec (fun h => ?_) (fun h => ?_) | refine WB.mk (fun h => ?_) (fun h => ?_)) <;> conv => whnf)
      refine WSt.eqr2 (a := q1) (b := q2) (a' := q1) (b' := q2) rfl rfl w3 w4 w3 w4 ?_; conv => whnf
      repeat' first | ((first | with_reducible apply WB.tt | with_reducible apply WB.ff | refine Rn.seq ?_ | refine Rn.reg ?_ | refine Rn.drw ?_ | refine Rn.blk ?_ | refine Rn.skip ?_ | refine Rn.ret ?_ | refine Rn.exit ?_ | refine Rn.cond rfl ?_ | refine And.intro (InR.i64 (by omega) (by omega)) ?_ | refine And.intro (show _ ≠ (0 : Int) by omega) ?_ | refine WIx.intsN (by omega) ?_ | refine WIx.rowsN (by omega) ?_ | refine WCall.pure (AW) ?_ | with_reducible refine WB.decT (by first | with_reducible rfl | assumption | omega | exact ⟨rfl, rfl⟩) ?_ | with_reducible refine WB.decF (by first | assumption | omega) ?_ | with_reducible refine WB.ndT (by first | with_reducible rfl | assumption | omega | exact ⟨rfl, rfl⟩) ?_ | with_reducible refine WB.ndF (by first | assumption | omega) ?_ | with_reducible refine WB.nt ?_ | with_reducible refine WB.nf ?_ | with_reducible refine WB.dec (fun h => ?_) (fun h => ?_) | with_reducible refine WB.ndec (fun h => ?_) (fun h => ?_) | refine WB.mk (fun h => ?_) (fun h => ?_)) <;> conv => whnf)
      refine WSt.eqr2 (a := q1) (b := q2) (a' := q1) (b' := q2) rfl rfl w3 w4 w3 w4 ?_; conv => whnf
      repeat' first | ((first | with_reducible apply WB.tt | with_reducible apply WB.ff | refine Rn.seq ?_ | refine Rn.reg ?_ | refine Rn.drw ?_ | refine Rn.blk ?_ | refine Rn.skip ?_ | refine Rn.ret ?_ | refine Rn.exit ?_ | refine Rn.cond rfl ?_ | refine And.intro (InR.i64 (by omega) (by omega)) ?_ | refine And.intro (show _ ≠ (0 : Int) by omega) ?_ | refine WIx.intsN (by omega) ?_ | refine WIx.rowsN (by omega) ?_ | refine WCall.pure (AW) ?_ | with_reducible refine WB.decT (by first | with_reducible rfl | assumption | omega | exact ⟨rfl, rfl⟩) ?_ | with_reducible refine WB.decF (by first | assumption | omega) ?_ | with_reducible refine WB.ndT (by first | with_reducible rfl | assumption | omega | exact ⟨rfl, rfl⟩) ?_ | with_reducible refine WB.ndF (by first | assumption | omega) ?_ | with_reducible refine WB.nt ?_ | with_reducible refine WB.nf ?_ | with_reducible refine WB.dec (fun h => ?_) (fun h => ?_) | with_reducible refine WB.ndec (fun h => ?_) (fun h => ?_) | refine WB.mk (fun h => ?_) (fun h => ?_)) <;> conv => whnf)
      exact Fin.b rfl rfl
theorem main_tokenNumbers (AW : PureF Try.prog p22.ix [] (.b true)) {es : List D} (fit : FitP [(true, [.i .i64, .i .i64, .i .i64, .sl [.i .i64, .i .i64, .i .i64], .sl [.i .i64, .i .i64, .i .i64]]), (false, [.i .u8]), (false, [.i .u8]), (false, [.i .u8])] es) : PureF Try.prog 15 es (.b true) := by
  obtain ⟨n, coin, box, ls, cs, _, rfl, g1⟩ := fit.book
  obtain ⟨o, _, rfl, w0, g2⟩ := g1.i
  obtain ⟨h, _, rfl, w1, g3⟩ := g2.i
  obtain ⟨k, _, rfl, w2, g4⟩ := g3.i
  obtain rfl := g4.no
  exact j_TokenNumbers n coin box ls cs o h k (wf_u8 w0) (wf_u8 w1) (wf_u8 w2) AW
end Go.Ev

namespace Go.Proofs.Ytjgbfnciedkafaa.tokenNumbers
open Go.ChangeShapes Go.WideShapes Go.ChangeAt Go.RowKit
open Go.ChangeMaps (open_string shut_string)
set_option linter.unusedVariables false

theorem laid : laidOutB Try.prog = true := faP.laid
theorem own : ownKnob Try.prog.godebug = none := by kernel_rfl

/-! ### the walk -/
theorem walk {es : List Go.Ev.D} (fit : Go.Ev.FitP [(true, [.i .i64, .i .i64, .i .i64, .sl [.i .i64, .i .i64, .i .i64], .sl [.i .i64, .i .i64, .i .i64]]), (false, [.i .u8]), (false, [.i .u8]), (false, [.i .u8])] es) {args : Array Value} {W : World} (ha : Go.Ev.DVL (Go.Ev.γH W) W es args.toList) :
    Calls Try.prog 15 args W fun e w' => e = .returned (.bool true) ∧ Grown W w' ∧ Below W.heap.size W w' :=
  Go.Ev.PureF.calls (Go.Ev.main_tokenNumbers (fun ob nx lg => Go.Ev.t21.any ob nx lg) fit) ha

set_option maxRecDepth 100000 in
theorem lifted (os : Os) (started : os.Started) (H : Type) (enc : TypeId × Value → H) :
    ReturnsInHanded {} Try.checked os 15 .any (Rows.tokenNumbersSpec.pre6 enc Try.prog Try.f15 Rows.tokenNumbersRow.domain false) (Rows.tokenNumbersSpec.post enc Try.prog Try.f15 false true false false) := by
  refine returnsInHanded_of_change (C := Try.checked) own started (by kernel_rfl) Try.func15
    (ChangeSpec.witness6 (enc := enc) (C := Try.checked) false ⟨#[], #[.agg #[.int .i64 0, .int .i64 0, .int .i64 0, .slice none 0 0, .slice none 0 0], .int .u8 0, .int .u8 0, .int .u8 0], []⟩ 8 (by kernel_rfl) (by kernel_rfl) (by kernel_rfl) (by kernel_rfl)) ?_
  intro W base args ds gs before hval0 hW hcnd _
  have hval : ∀ (j : Nat) t v, Try.f15.params[j]? = some t → args[j]? = some v → Value.okWide Try.prog W .any base t v := hval0
  have hW' := hW
  obtain ⟨p, q, hA0, hV, rfl, hfz, hnd⟩ := hW
  have hA : DataW.TrodAll enc Try.prog W 0 (fun _ => true) true Try.f15.params.toList args.toList ds p := hA0
  rw [Try.params15] at hA hval
  obtain ⟨rfl, rfl⟩ := trodVars_none hV
  obtain ⟨d0, d1, d2, d3, rfl⟩ := Go.Ev.len4 (Go.Ev.trod_len hA)
  clear hA0 hval0
  simp only [List.append_nil] at hW'
  obtain ⟨es, fit, dv⟩ := Go.Ev.open_all (n := 6) (pars := [(true, [.i .i64, .i .i64, .i .i64, .sl [.i .i64, .i .i64, .i .i64], .sl [.i .i64, .i .i64, .i .i64]]), (false, [.i .u8]), (false, [.i .u8]), (false, [.i .u8])]) (by kernel_rfl) hA (fun j t v h1 h2 => hval j t v (by simpa using h1) (by simpa using h2))
  have hlt : ∀ x ∈ p, x.block < W.heap.size := fun x hx => by simpa using hW'.lt x hx
  refine (walk fit dv).mono fun e W' ⟨he, hg, hb⟩ => ?_
  subst he
  exact ⟨_, rfl, post_of_same (pa := p) (pv := []) hW' (fun _ _ _ => (trodAll_cons_mk (shut_bool Try.underlying4 _) trodAll_mk0))
    (fun sp hs => Go.Ev.stays_all laid (Go.Ev.of_allT (by kernel_rfl)) hA (fun x hx => hb.same (hlt x hx)) (fun x hx => hs x hx))
    (fun _ _ => rfl) (List.append_nil _).symm
    (hg.frame _) hg.2.1 (ok_one (by kernel_rfl) rfl (okWide_bool_mk Try.underlying4 _))⟩

theorem over : Rows.tokenNumbersRow.holds Try.pinned (OpenSpec.ofChange Rows.tokenNumbersSpec) :=
  OpenClaim.holds_of_wide 15 Try.f15 rfl rfl rfl rfl rfl rfl rfl ⟨rfl, rfl, rfl, rfl, rfl⟩ rfl rfl rfl rfl rfl (by kernel_rfl) Try.func15 faTokenNumbers.all
    (of_decide_eq_true (by kernel_rfl)) (by unfold Func.isWrapper; first | (rw [if_pos (by decide +kernel)]; kernel_rfl) | (rw [if_neg (by decide +kernel)]; exact ⟨rfl, rfl⟩))
    (fun os started H enc _ => lifted os started H enc)

/-- ████ THE STATEMENT ████ -/
theorem proved : Rows.TokenNumbersSaid :=
  over
#print axioms proved
end Go.Proofs.Ytjgbfnciedkafaa.tokenNumbers
