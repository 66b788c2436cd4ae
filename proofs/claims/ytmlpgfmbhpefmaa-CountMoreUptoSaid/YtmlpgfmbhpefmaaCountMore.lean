/-
  CountMore is true in its second form: for each row, count more and part, whose lists have at most as many entries as that form allows, one more count makes no bounds wider, keeps verdicts, and wants no more looks. No conditions but those of the statement itself.
-/
import Derived.Test.YtmlpgfmbhpefmaaRows
import Derived.WalkKit
import Derived.ProofKit
import Derived.OpenShut
import Derived.JoinedCond
import Derived.Test.YtmlpgfmbhpefmaaEvBk
import Derived.Test.YtmlpgfmbhpefmaaEvLg
import Derived.Test.YtmlpgfmbhpefmaaEvS1Y
import Derived.ShutString
set_option linter.all false
namespace Go.Ev
open Go.Proofs
set_option maxRecDepth 1000000
noncomputable def rc11 : RC := (.seq (.reg [(.u (.box p5 (.t p1))), (.u (.box p6 (.t p2))), (.u (.mv p9 (.k (.b false))))]) (.seq (.reg [(.u (.ldn p36 (.t p5) 4)), (.u (.new p10 [.ns, .ns, (.i .i64 0), (.i .i64 0)])), (.u (.st (.t p10) (.t p36) 4))]) (.seq (.drw [(.u (.bsl p37 3 0 [] [])), (.u (.fad p38 (.t p5) 1)), (.u (.ld1 p39 (.t p38))), (.u (.app p40 3 (.t p37) (.t p39))), (.u (.ldn p41 (.t p6) 3)), (.u (.bsl p42 3 1 [(.b false), (.i .i64 0), (.i .i64 0)] [(0, (3, (.t p41)))])), (.u (.app p43 3 (.t p40) (.t p42))), (.u (.fad p44 (.t p10) 1)), (.u (.st (.t p44) (.t p43) 1))] [0, 0, 2, 7, 0, 16, 63, 127, 255]) (.seq (.seq (.reg [(.u (.ldn p45 (.t p5) 4)), (.u (.cf (some p46) p51 [(.t p45)])), (.u (.un p47 .not (.t p46))), (.u (.mv p48 (.t p47))), (.g p48 false (some p49) (.ldn p49 (.t p10) 4)), (.g p48 false (some p50) (.cf (some p50) p51 [(.t p49)])), (.g p48 false (some p51) (.un p51 .not (.t p50))), (.u (.pick p52 (.t p48) (.k (.b true)) (.t p51)))]) (.cond (.t p52) (.seq (.reg [(.u (.cf (some p53) p20 [])), (.u (.mv p9 (.t p53)))]) .ret) .skip)) (.seq (.reg [(.u (.ldn p55 (.t p5) 4)), (.u (.cf (some p56) p22 [(.t p55)])), (.u (.cf (some p57) p39 [(.t p56)])), (.u (.mv p54 (.t p57))), (.u (.ext p58 (.t p54) 0)), (.u (.ext p59 (.t p54) 1)), (.u (.mv p11 (.t p58))), (.u (.mv p12 (.t p59)))]) (.seq (.reg [(.u (.ldn p61 (.t p10) 4)), (.u (.cf (some p62) p22 [(.t p61)])), (.u (.cf (some p63) p39 [(.t p62)])), (.u (.mv p60 (.t p63))), (.u (.ext p64 (.t p60) 0)), (.u (.ext p65 (.t p60) 1)), (.u (.mv p13 (.t p64))), (.u (.mv p14 (.t p65)))]) (.seq (.seq (.reg [(.u (.mv p66 (.t p12))), (.u (.bin p67 .neq (.t p66) (.k (.i .i64 0))))]) (.cond (.t p67) (.seq (.reg [(.u (.mv p68 (.t p12))), (.u (.bin p69 .eql (.t p68) (.k (.i .i64 10)))), (.u (.mv p70 (.t p69))), (.g p70 true (some p71) (.mv p71 (.t p14))), (.g p70 true (some p72) (.mv p72 (.t p12))), (.g p70 true (some p73) (.bin p73 .eql (.t p71) (.t p72))), (.u (.pick p74 (.t p70) (.t p73) (.k (.b false)))), (.u (.mv p75 (.t p74))), (.g p75 true (some p76) (.cf (some p76) p20 [])), (.u (.pick p77 (.t p75) (.t p76) (.k (.b false)))), (.u (.mv p9 (.t p77)))]) .ret) .skip)) (.seq (.seq (.reg [(.u (.mv p78 (.t p14))), (.u (.bin p79 .neq (.t p78) (.k (.i .i64 0)))), (.u (.mv p80 (.t p79))), (.g p80 true (some p81) (.mv p81 (.t p14))), (.g p80 true (some p82) (.bin p82 .neq (.t p81) (.k (.i .i64 10)))), (.u (.pick p83 (.t p80) (.t p82) (.k (.b false)))), (.u (.mv p84 (.t p83))), (.g p84 false (some p85) (.mv p85 (.t p14))), (.g p84 false (some p86) (.bin p86 .eql (.t p85) (.k (.i .i64 0)))), (.g p84 false (some p87) (.mv p87 (.t p86))), (.g p87 true (some p88) (.mv p88 (.t p13))), (.g p87 true (some p89) (.mv p89 (.t p11))), (.g p87 true (some p90) (.bin p90 .lss (.t p88) (.t p89))), (.g p84 false (some p91) (.pick p91 (.t p87) (.t p90) (.k (.b false)))), (.u (.pick p92 (.t p84) (.k (.b true)) (.t p91)))]) (.cond (.t p92) (.seq (.reg [(.u (.mv p9 (.k (.b false))))]) .ret) .skip)) (.seq (.reg [(.u (.ldn p94 (.t p5) 4)), (.u (.mv p95 (.t p3))), (.u (.mv p96 (.t p4))), (.u (.cf (some p97) p53 [(.t p94), (.t p95), (.t p96)])), (.u (.mv p93 (.t p97))), (.u (.ext p98 (.t p93) 0)), (.u (.ext p99 (.t p93) 1)), (.u (.mv p15 (.t p98))), (.u (.mv p16 (.t p99)))]) (.seq (.reg [(.u (.ldn p101 (.t p5) 4)), (.u (.cf (some p102) p22 [(.t p101)])), (.u (.mv p103 (.t p15))), (.u (.mv p104 (.t p16))), (.u (.cf (some p105) p30 [(.t p102), (.t p103), (.t p104)])), (.u (.mv p100 (.t p105))), (.u (.ext p106 (.t p100) 0)), (.u (.ext p107 (.t p100) 1)), (.u (.new p17 [(.i .i64 0), (.i .i64 0)])), (.u (.st (.t p17) (.t p106) 2)), (.u (.mv p18 (.t p107)))]) (.seq (.reg [(.u (.ldn p109 (.t p10) 4)), (.u (.cf (some p110) p22 [(.t p109)])), (.u (.mv p111 (.t p15))), (.u (.mv p112 (.t p16))), (.u (.cf (some p113) p30 [(.t p110), (.t p111), (.t p112)])), (.u (.mv p108 (.t p113))), (.u (.ext p114 (.t p108) 0)), (.u (.ext p115 (.t p108) 1)), (.u (.new p19 [(.i .i64 0), (.i .i64 0)])), (.u (.st (.t p19) (.t p114) 2)), (.u (.mv p20 (.t p115)))]) (.seq (.seq (.reg [(.u (.mv p116 (.t p20))), (.u (.bin p117 .neq (.t p116) (.k (.i .i64 0))))]) (.cond (.t p117) (.seq (.reg [(.u (.mv p118 (.t p20))), (.u (.bin p119 .eql (.t p118) (.k (.i .i64 11)))), (.u (.mv p120 (.t p119))), (.g p120 true (some p121) (.mv p121 (.t p18))), (.g p120 true (some p122) (.bin p122 .eql (.t p121) (.k (.i .i64 0)))), (.g p120 true (some p123) (.mv p123 (.t p122))), (.g p123 false (some p124) (.mv p124 (.t p18))), (.g p123 false (some p125) (.mv p125 (.t p20))), (.g p123 false (some p126) (.bin p126 .eql (.t p124) (.t p125))), (.g p120 true (some p127) (.pick p127 (.t p123) (.k (.b true)) (.t p126))), (.u (.pick p128 (.t p120) (.t p127) (.k (.b false)))), (.u (.mv p129 (.t p128))), (.g p129 true (some p130) (.cf (some p130) p20 [])), (.u (.pick p131 (.t p129) (.t p130) (.k (.b false)))), (.u (.mv p9 (.t p131)))]) .ret) .skip)) (.seq (.reg [(.u (.ldn p133 (.t p5) 4)), (.u (.cf (some p134) p22 [(.t p133)])), (.u (.cf (some p135) p35 [(.t p134)])), (.u (.mv p132 (.t p135))), (.u (.ext p136 (.t p132) 0)), (.u (.ext p137 (.t p132) 1)), (.u (.mv p21 (.t p136))), (.u (.mv p22 (.t p137)))]) (.seq (.reg [(.u (.ldn p139 (.t p10) 4)), (.u (.cf (some p140) p22 [(.t p139)])), (.u (.cf (some p141) p35 [(.t p140)])), (.u (.mv p138 (.t p141))), (.u (.ext p142 (.t p138) 0)), (.u (.ext p143 (.t p138) 1)), (.u (.mv p23 (.t p142))), (.u (.mv p24 (.t p143)))]) (.seq (.reg [(.u (.ldn p145 (.t p5) 4)), (.u (.cf (some p146) p22 [(.t p145)])), (.u (.cf (some p147) p43 [(.t p146)])), (.u (.mv p144 (.t p147))), (.u (.ext p148 (.t p144) 0)), (.u (.ext p149 (.t p144) 1)), (.u (.ext p150 (.t p144) 2)), (.u (.mv p25 (.t p148))), (.u (.mv p26 (.t p149))), (.u (.mv p27 (.t p150)))]) (.seq (.reg [(.u (.ldn p152 (.t p10) 4)), (.u (.cf (some p153) p22 [(.t p152)])), (.u (.cf (some p154) p43 [(.t p153)])), (.u (.mv p151 (.t p154))), (.u (.ext p155 (.t p151) 0)), (.u (.ext p156 (.t p151) 1)), (.u (.ext p157 (.t p151) 2)), (.u (.mv p28 (.t p155))), (.u (.mv p29 (.t p156))), (.u (.mv p30 (.t p157)))]) (.seq (.reg [(.u (.ldn p159 (.t p5) 4)), (.u (.cf (some p160) p22 [(.t p159)])), (.u (.mv p161 (.t p15))), (.u (.mv p162 (.t p16))), (.u (.cf (some p163) p44 [(.t p160), (.t p161), (.t p162)])), (.u (.mv p158 (.t p163))), (.u (.ext p164 (.t p158) 0)), (.u (.ext p165 (.t p158) 1)), (.u (.mv p31 (.t p164))), (.u (.mv p32 (.t p165)))]) (.seq (.reg [(.u (.ldn p167 (.t p10) 4)), (.u (.cf (some p168) p22 [(.t p167)])), (.u (.mv p169 (.t p15))), (.u (.mv p170 (.t p16))), (.u (.cf (some p171) p44 [(.t p168), (.t p169), (.t p170)])), (.u (.mv p166 (.t p171))), (.u (.ext p172 (.t p166) 0)), (.u (.ext p173 (.t p166) 1)), (.u (.mv p33 (.t p172))), (.u (.mv p34 (.t p173)))]) (.seq (.seq (.reg [(.u (.mv p174 (.t p18))), (.u (.bin p175 .neq (.t p174) (.k (.i .i64 0)))), (.u (.mv p176 (.t p175))), (.g p176 false (some p177) (.ldn p177 (.t p19) 2)), (.g p176 false (some p178) (.ldn p178 (.t p17) 2)), (.g p176 false (some p179) (.cf (some p179) p58 [(.t p177), (.t p178)])), (.g p176 false (some p180) (.un p180 .not (.t p179))), (.u (.pick p181 (.t p176) (.k (.b true)) (.t p180))), (.u (.mv p182 (.t p181))), (.g p182 false (some p183) (.mv p183 (.t p22))), (.g p182 false (some p184) (.bin p184 .neq (.t p183) (.k (.i .i64 0)))), (.u (.pick p185 (.t p182) (.k (.b true)) (.t p184))), (.u (.mv p186 (.t p185))), (.g p186 false (some p187) (.mv p187 (.t p24))), (.g p186 false (some p188) (.bin p188 .neq (.t p187) (.k (.i .i64 0)))), (.u (.pick p189 (.t p186) (.k (.b true)) (.t p188))), (.u (.mv p190 (.t p189))), (.g p190 false (some p191) (.mv p191 (.t p21))), (.g p190 false (some p192) (.len p192 (.t p191))), (.g p190 false (some p193) (.fad p193 (.t p5) 0)), (.g p190 false (some p194) (.ld1 p194 (.t p193))), (.g p190 false (some p195) (.len p195 (.t p194))), (.g p190 false (some p196) (.bin p196 .neq (.t p192) (.t p195))), (.u (.pick p197 (.t p190) (.k (.b true)) (.t p196))), (.u (.mv p198 (.t p197))), (.g p198 false (some p199) (.mv p199 (.t p23))), (.g p198 false (some p200) (.len p200 (.t p199))), (.g p198 false (some p201) (.mv p201 (.t p21))), (.g p198 false (some p202) (.len p202 (.t p201))), (.g p198 false (some p203) (.bin p203 .neq (.t p200) (.t p202))), (.u (.pick p204 (.t p198) (.k (.b true)) (.t p203))), (.u (.mv p205 (.t p204))), (.g p205 false (some p206) (.mv p206 (.t p27))), (.g p205 false (some p207) (.bin p207 .neq (.t p206) (.k (.i .i64 0)))), (.u (.pick p208 (.t p205) (.k (.b true)) (.t p207))), (.u (.mv p209 (.t p208))), (.g p209 false (some p210) (.mv p210 (.t p30))), (.g p209 false (some p211) (.bin p211 .neq (.t p210) (.k (.i .i64 0)))), (.u (.pick p212 (.t p209) (.k (.b true)) (.t p211))), (.u (.mv p213 (.t p212))), (.g p213 false (some p214) (.mv p214 (.t p29))), (.g p213 false (some p215) (.mv p215 (.t p26))), (.g p213 false (some p216) (.bin p216 .gtr (.t p214) (.t p215))), (.u (.pick p217 (.t p213) (.k (.b true)) (.t p216))), (.u (.mv p218 (.t p217))), (.g p218 false (some p219) (.mv p219 (.t p32))), (.g p218 false (some p220) (.bin p220 .neq (.t p219) (.k (.i .i64 0)))), (.u (.pick p221 (.t p218) (.k (.b true)) (.t p220))), (.u (.mv p222 (.t p221))), (.g p222 false (some p223) (.mv p223 (.t p34))), (.g p222 false (some p224) (.bin p224 .neq (.t p223) (.k (.i .i64 0)))), (.u (.pick p225 (.t p222) (.k (.b true)) (.t p224))), (.u (.mv p226 (.t p225))), (.g p226 false (some p227) (.mv p227 (.t p33))), (.g p226 false (some p228) (.mv p228 (.t p31))), (.g p226 false (some p229) (.bin p229 .gtr (.t p227) (.t p228))), (.u (.pick p230 (.t p226) (.k (.b true)) (.t p229)))]) (.cond (.t p230) (.seq (.reg [(.u (.mv p9 (.k (.b false))))]) .ret) .skip)) (.seq (.seq (.reg [(.u (.mv p35 (.k (.i .i64 0))))]) (.blk 0 (.loop (.seq (.seq (.reg [(.u (.mv p231 (.t p35))), (.u (.mv p232 (.t p21))), (.u (.len p233 (.t p232))), (.u (.bin p234 .lss (.t p231) (.t p233)))]) (.cond (.t p234) .skip (.exit 0))) (.seq (.blk 1 (.seq (.drw [(.u (.mv p237 (.t p21))), (.u (.mv p238 (.t p35))), (.u (.ixs p239 1 (.t p237) (.t p238))), (.u (.ld1 p240 (.t p239))), (.u (.bin p241 .neq (.t p240) (.k (.i .i64 3)))), (.u (.mv p242 (.t p241))), (.g p242 true (some p243) (.mv p243 (.t p21))), (.g p242 true (some p244) (.mv p244 (.t p35))), (.g p242 true (some p245) (.ixs p245 1 (.t p243) (.t p244))), (.g p242 true (some p246) (.ld1 p246 (.t p245))), (.g p242 true (some p247) (.mv p247 (.t p23))), (.g p242 true (some p248) (.mv p248 (.t p35))), (.g p242 true (some p249) (.ixs p249 1 (.t p247) (.t p248))), (.g p242 true (some p250) (.ld1 p250 (.t p249))), (.g p242 true (some p251) (.bin p251 .neq (.t p246) (.t p250))), (.u (.pick p252 (.t p242) (.t p251) (.k (.b false))))] [0, 0, 3, 7, 15, 31, 63, 63, 255, 511, 63, 63, 3135, 7231, 16383, 32767]) (.cond (.t p252) (.seq (.reg [(.u (.mv p9 (.k (.b false))))]) .ret) .skip))) (.reg [(.u (.mv p235 (.t p35))), (.u (.bin p236 .add (.t p235) (.k (.i .i64 1)))), (.u (.mv p35 (.t p236)))])))))) (.seq (.reg [(.u (.cf (some p253) p20 [])), (.u (.mv p9 (.t p253)))]) .ret)))))))))))))))))))))
def rs11 : List RR := [(.t p9)]
theorem fn11 : FnOk Try.prog p12.ix 253 rc11 rs11 := ⟨Try.f11, bodyC Try.f11, Try.func11, by kernel_rfl, by kernel_rfl, by kernel_rfl, by kernel_rfl, by kernel_rfl⟩
noncomputable def rc11R : RC := seqRz (seqRz (seqRz rc11))
set_option maxHeartbeats 8000000 in
theorem c_CountMoreR (l : List Int) (cs : List Cnt) (wr off : Int) (x : Cnt) (a b : Int) (ha : 0 ≤ a ∧ a ≤ 255) (hb : 0 ≤ b ∧ b ≤ 255) (hcn : cs.length ≤ 1048576) (AW : PureF Try.prog p20.ix [] (.b true)) : Rn Try.prog 253 rc11R (moS l cs wr off x a b) (Fin rs11 (.b true)) := by
  have e1 := ints_length l
  have e4 : (cs ++ [x]).length = cs.length + 1 := by simp
  have cD := c_ready l cs wr off
  have cD1 := c_ready l (cs ++ [x]) wr off
  conv => whnf
  cases hR : readyB l cs wr off with
  | false =>
    rw [hR] at cD
    repeat' first | ((first | with_reducible apply WB.tt | with_reducible apply WB.ff | refine Rn.seq ?_ | refine Rn.reg ?_ | refine Rn.drw ?_ | refine Rn.blk ?_ | refine Rn.skip ?_ | refine Rn.ret ?_ | refine Rn.exit ?_ | refine Rn.cond rfl ?_ | refine And.intro (InR.i64 (by omega) (by omega)) ?_ | refine And.intro (show _ ≠ (0 : Int) by omega) ?_ | refine WIx.intsN (by omega) ?_ | refine WIx.rowsN (by omega) ?_ | refine WCall.pure (cD) ?_ | refine WCall.pure (AW) ?_ | with_reducible refine WB.decT (by first | with_reducible rfl | assumption | omega | exact ⟨rfl, rfl⟩) ?_ | with_reducible refine WB.decF (by first | assumption | omega) ?_ | with_reducible refine WB.ndT (by first | with_reducible rfl | assumption | omega | exact ⟨rfl, rfl⟩) ?_ | with_reducible refine WB.ndF (by first | assumption | omega) ?_ | with_reducible refine WB.nt ?_ | with_reducible refine WB.nf ?_ | with_reducible refine WB.dec (fun h => ?_) (fun h => ?_) | with_reducible refine WB.ndec (fun h => ?_) (fun h => ?_) | refine WB.mk (fun h => ?_) (fun h => ?_)) <;> conv => whnf)
    all_goals first | exact Fin.b rfl rfl | (exfalso; omega) | exact absurd h (by decide)
  | true =>
  cases hR1 : readyB l (cs ++ [x]) wr off with
  | false =>
    rw [hR] at cD
    rw [hR1] at cD1
    repeat' first | ((first | with_reducible apply WB.tt | with_reducible apply WB.ff | refine Rn.seq ?_ | refine Rn.reg ?_ | refine Rn.drw ?_ | refine Rn.blk ?_ | refine Rn.skip ?_ | refine Rn.ret ?_ | refine Rn.exit ?_ | refine Rn.cond rfl ?_ | refine And.intro (InR.i64 (by omega) (by omega)) ?_ | refine And.intro (show _ ≠ (0 : Int) by omega) ?_ | refine WIx.intsN (by omega) ?_ | refine WIx.rowsN (by omega) ?_ | refine WCall.pure (cD) ?_ | refine WCall.pure (cD1) ?_ | refine WCall.pure (AW) ?_ | with_reducible refine WB.decT (by first | with_reducible rfl | assumption | omega | exact ⟨rfl, rfl⟩) ?_ | with_reducible refine WB.decF (by first | assumption | omega) ?_ | with_reducible refine WB.ndT (by first | with_reducible rfl | assumption | omega | exact ⟨rfl, rfl⟩) ?_ | with_reducible refine WB.ndF (by first | assumption | omega) ?_ | with_reducible refine WB.nt ?_ | with_reducible refine WB.nf ?_ | with_reducible refine WB.dec (fun h => ?_) (fun h => ?_) | with_reducible refine WB.ndec (fun h => ?_) (fun h => ?_) | refine WB.mk (fun h => ?_) (fun h => ?_)) <;> conv => whnf)
    all_goals first | exact Fin.b rfl rfl | (exfalso; omega) | exact absurd h (by decide)
  | true =>
  rw [hR] at cD
  rw [hR1] at cD1
  obtain ⟨h1, hF⟩ := ready_spec hR
  obtain ⟨h2, hF'⟩ := ready_spec hR1
  obtain ⟨f1, f2, f3, f4⟩ := fault0 hF
  obtain ⟨f1', f2', f3', f4'⟩ := fault0 hF'
  obtain ⟨g1, g2, g3⟩ := parted_spec f1 ha.1 hb.1
  have hu := thin_unk h1 hF
  have cR := c_Row l cs wr off (by omega) (by omega)
  have cR' := c_Row l (cs ++ [x]) wr off (by omega) (by omega)
  have cP := c_parted l cs wr off a b f1 (by omega) ha hb
  have cM := c_Least l cs wr off (by omega)
  have cM' := c_Least l (cs ++ [x]) wr off (by omega)
  have hls := least_snoc (l := l) (cs := cs) (x := x) (off := off)
  have hsub : ∀ t ∈ truR l (cs ++ [x]) wr off, t ∈ truR l cs wr off := fun t ht => tru_snoc_mem ht
  have cPl := c_Places l cs wr off (by omega)
  have cPl' := c_Places l (cs ++ [x]) wr off (by omega)
  have cK := c_Look l cs wr off (by omega)
  have cK' := c_Look l (cs ++ [x]) wr off (by omega)
  generalize pA l.length a b = A at *
  generalize pB l.length a b = B at *
  have cN := c_Looks l cs wr off A B (fun _ => hu)
  have cN' := c_Looks l (cs ++ [x]) wr off A B (fun _ => hu)
  clear h1 h2 hR hR1
  unfold leN leE at cM cM'
  rw [if_pos hF, if_pos hF] at cM
  rw [if_pos hF', if_pos hF'] at cM'
  have hlb := leastF_bd cs off (allR l)
  have hlb' := leastF_bd (cs ++ [x]) off (allR l)
  have tl := truR_len l cs wr off f2
  have htl := truth_leastZ hF
  have htl' := truth_leastZ hF'
  generalize leastF cs off (allR l) = m0 at *
  generalize leastF (cs ++ [x]) off (allR l) = m1 at *
  by_cases hm0 : m0 < 0
  · have hm1 : m1 < 0 := by omega
    rw [if_pos hm0, if_pos hm0] at cM
    rw [if_pos hm1, if_pos hm1] at cM'
    repeat' first | ((first | with_reducible apply WB.tt | with_reducible apply WB.ff | refine Rn.seq ?_ | refine Rn.reg ?_ | refine Rn.drw ?_ | refine Rn.blk ?_ | refine Rn.skip ?_ | refine Rn.ret ?_ | refine Rn.exit ?_ | refine Rn.cond rfl ?_ | refine And.intro (InR.i64 (by omega) (by omega)) ?_ | refine And.intro (show _ ≠ (0 : Int) by omega) ?_ | refine WIx.intsN (by omega) ?_ | refine WIx.rowsN (by omega) ?_ | refine WCall.pure (cD) ?_ | refine WCall.pure (cD1) ?_ | refine WCall.pure (cR) ?_ | refine WCall.pure (cR') ?_ | refine WCall.pure (cM) ?_ | refine WCall.pure (cM') ?_ | refine WCall.pure (AW) ?_ | with_reducible refine WB.decT (by first | with_reducible rfl | assumption | omega | exact ⟨rfl, rfl⟩) ?_ | with_reducible refine WB.decF (by first | assumption | omega) ?_ | with_reducible refine WB.ndT (by first | with_reducible rfl | assumption | omega | exact ⟨rfl, rfl⟩) ?_ | with_reducible refine WB.ndF (by first | assumption | omega) ?_ | with_reducible refine WB.nt ?_ | with_reducible refine WB.nf ?_ | with_reducible refine WB.dec (fun h => ?_) (fun h => ?_) | with_reducible refine WB.ndec (fun h => ?_) (fun h => ?_) | refine WB.mk (fun h => ?_) (fun h => ?_)) <;> conv => whnf)
    all_goals first | exact Fin.b rfl rfl | (exfalso; omega) | exact absurd h (by decide)
  rw [if_neg hm0, if_neg hm0] at cM
  by_cases hT1 : truR l (cs ++ [x]) wr off = []
  · have cC' := c_Chairs11 l (cs ++ [x]) wr off A B hF' g1 g2 g3 hT1
    have cC : ∃ (d : D) (e : Int), (e = 0 ∨ e = 11) ∧ (∃ u v : Int, d = .ag [.i .i64 u, .i .i64 v]) ∧ PureF Try.prog p30.ix [.ag [.lst 1 (ints l), .lst 3 (rows cntD cs), .i .i64 wr, .i .i64 off], .i .i64 A, .i .i64 B] (.tp [d, .i .i64 e]) := by
      by_cases hT : truR l cs wr off = []
      · exact ⟨_, 11, .inr rfl, ⟨_, _, rfl⟩, c_Chairs11 l cs wr off A B hF g1 g2 g3 hT⟩
      · exact ⟨_, 0, .inl rfl, ⟨_, _, rfl⟩, c_Chairs0 l cs wr off A B hF g1 g2 g3 hT⟩
    obtain ⟨_, e, he, ⟨u, v, rfl⟩, cC⟩ := cC
    by_cases hm1 : m1 < 0
    · rw [if_pos hm1, if_pos hm1] at cM'
      rcases he with rfl | rfl
      · repeat' first | ((first | with_reducible apply WB.tt | with_reducible apply WB.ff | refine Rn.seq ?_ | refine Rn.reg ?_ | refine Rn.drw ?_ | refine Rn.blk ?_ | refine Rn.skip ?_ | refine Rn.ret ?_ | refine Rn.exit ?_ | refine Rn.cond rfl ?_ | refine And.intro (InR.i64 (by omega) (by omega)) ?_ | refine And.intro (show _ ≠ (0 : Int) by omega) ?_ | refine WIx.intsN (by omega) ?_ | refine WIx.rowsN (by omega) ?_ | refine WCall.pure (cD) ?_ | refine WCall.pure (cD1) ?_ | refine WCall.pure (cR) ?_ | refine WCall.pure (cR') ?_ | refine WCall.pure (cM) ?_ | refine WCall.pure (cM') ?_ | refine WCall.pure (cP) ?_ | refine WCall.pure (cC) ?_ | refine WCall.pure (cC') ?_ | refine WCall.pure (AW) ?_ | with_reducible refine WB.decT (by first | with_reducible rfl | assumption | omega | exact ⟨rfl, rfl⟩) ?_ | with_reducible refine WB.decF (by first | assumption | omega) ?_ | with_reducible refine WB.ndT (by first | with_reducible rfl | assumption | omega | exact ⟨rfl, rfl⟩) ?_ | with_reducible refine WB.ndF (by first | assumption | omega) ?_ | with_reducible refine WB.nt ?_ | with_reducible refine WB.nf ?_ | with_reducible refine WB.dec (fun h => ?_) (fun h => ?_) | with_reducible refine WB.ndec (fun h => ?_) (fun h => ?_) | refine WB.mk (fun h => ?_) (fun h => ?_)) <;> conv => whnf)
        all_goals first | exact Fin.b rfl rfl | (exfalso; omega) | exact absurd h (by decide)
      · repeat' first | ((first | with_reducible apply WB.tt | with_reducible apply WB.ff | refine Rn.seq ?_ | refine Rn.reg ?_ | refine Rn.drw ?_ | refine Rn.blk ?_ | refine Rn.skip ?_ | refine Rn.ret ?_ | refine Rn.exit ?_ | refine Rn.cond rfl ?_ | refine And.intro (InR.i64 (by omega) (by omega)) ?_ | refine And.intro (show _ ≠ (0 : Int) by omega) ?_ | refine WIx.intsN (by omega) ?_ | refine WIx.rowsN (by omega) ?_ | refine WCall.pure (cD) ?_ | refine WCall.pure (cD1) ?_ | refine WCall.pure (cR) ?_ | refine WCall.pure (cR') ?_ | refine WCall.pure (cM) ?_ | refine WCall.pure (cM') ?_ | refine WCall.pure (cP) ?_ | refine WCall.pure (cC) ?_ | refine WCall.pure (cC') ?_ | refine WCall.pure (AW) ?_ | with_reducible refine WB.decT (by first | with_reducible rfl | assumption | omega | exact ⟨rfl, rfl⟩) ?_ | with_reducible refine WB.decF (by first | assumption | omega) ?_ | with_reducible refine WB.ndT (by first | with_reducible rfl | assumption | omega | exact ⟨rfl, rfl⟩) ?_ | with_reducible refine WB.ndF (by first | assumption | omega) ?_ | with_reducible refine WB.nt ?_ | with_reducible refine WB.nf ?_ | with_reducible refine WB.dec (fun h => ?_) (fun h => ?_) | with_reducible refine WB.ndec (fun h => ?_) (fun h => ?_) | refine WB.mk (fun h => ?_) (fun h => ?_)) <;> conv => whnf)
        all_goals first | exact Fin.b rfl rfl | (exfalso; omega) | exact absurd h (by decide)
    · rw [if_neg hm1, if_neg hm1] at cM'
      have hmm := hls (by omega)
      rcases he with rfl | rfl
      · repeat' first | ((first | with_reducible apply WB.tt | with_reducible apply WB.ff | refine Rn.seq ?_ | refine Rn.reg ?_ | refine Rn.drw ?_ | refine Rn.blk ?_ | refine Rn.skip ?_ | refine Rn.ret ?_ | refine Rn.exit ?_ | refine Rn.cond rfl ?_ | refine And.intro (InR.i64 (by omega) (by omega)) ?_ | refine And.intro (show _ ≠ (0 : Int) by omega) ?_ | refine WIx.intsN (by omega) ?_ | refine WIx.rowsN (by omega) ?_ | refine WCall.pure (cD) ?_ | refine WCall.pure (cD1) ?_ | refine WCall.pure (cR) ?_ | refine WCall.pure (cR') ?_ | refine WCall.pure (cM) ?_ | refine WCall.pure (cM') ?_ | refine WCall.pure (cP) ?_ | refine WCall.pure (cC) ?_ | refine WCall.pure (cC') ?_ | refine WCall.pure (AW) ?_ | with_reducible refine WB.decT (by first | with_reducible rfl | assumption | omega | exact ⟨rfl, rfl⟩) ?_ | with_reducible refine WB.decF (by first | assumption | omega) ?_ | with_reducible refine WB.ndT (by first | with_reducible rfl | assumption | omega | exact ⟨rfl, rfl⟩) ?_ | with_reducible refine WB.ndF (by first | assumption | omega) ?_ | with_reducible refine WB.nt ?_ | with_reducible refine WB.nf ?_ | with_reducible refine WB.dec (fun h => ?_) (fun h => ?_) | with_reducible refine WB.ndec (fun h => ?_) (fun h => ?_) | refine WB.mk (fun h => ?_) (fun h => ?_)) <;> conv => whnf)
        all_goals first | exact Fin.b rfl rfl | (exfalso; omega) | exact absurd h (by decide)
      · repeat' first | ((first | with_reducible apply WB.tt | with_reducible apply WB.ff | refine Rn.seq ?_ | refine Rn.reg ?_ | refine Rn.drw ?_ | refine Rn.blk ?_ | refine Rn.skip ?_ | refine Rn.ret ?_ | refine Rn.exit ?_ | refine Rn.cond rfl ?_ | refine And.intro (InR.i64 (by omega) (by omega)) ?_ | refine And.intro (show _ ≠ (0 : Int) by omega) ?_ | refine WIx.intsN (by omega) ?_ | refine WIx.rowsN (by omega) ?_ | refine WCall.pure (cD) ?_ | refine WCall.pure (cD1) ?_ | refine WCall.pure (cR) ?_ | refine WCall.pure (cR') ?_ | refine WCall.pure (cM) ?_ | refine WCall.pure (cM') ?_ | refine WCall.pure (cP) ?_ | refine WCall.pure (cC) ?_ | refine WCall.pure (cC') ?_ | refine WCall.pure (AW) ?_ | with_reducible refine WB.decT (by first | with_reducible rfl | assumption | omega | exact ⟨rfl, rfl⟩) ?_ | with_reducible refine WB.decF (by first | assumption | omega) ?_ | with_reducible refine WB.ndT (by first | with_reducible rfl | assumption | omega | exact ⟨rfl, rfl⟩) ?_ | with_reducible refine WB.ndF (by first | assumption | omega) ?_ | with_reducible refine WB.nt ?_ | with_reducible refine WB.nf ?_ | with_reducible refine WB.dec (fun h => ?_) (fun h => ?_) | with_reducible refine WB.ndec (fun h => ?_) (fun h => ?_) | refine WB.mk (fun h => ?_) (fun h => ?_)) <;> conv => whnf)
        all_goals first | exact Fin.b rfl rfl | (exfalso; omega) | exact absurd h (by decide)
  · have hT : truR l cs wr off ≠ [] := fun e => by
      obtain ⟨t, ht⟩ := List.exists_mem_of_ne_nil _ hT1
      have := hsub t ht
      rw [e] at this; cases this
    have hm1 : ¬ m1 < 0 := by have := htl'.1 hT1; omega
    have hmm := hls (by omega)
    rw [if_neg hm1, if_neg hm1] at cM'
    have cC := c_Chairs0 l cs wr off A B hF g1 g2 g3 hT
    have cC' := c_Chairs0 l (cs ++ [x]) wr off A B hF' g1 g2 g3 hT1
    have L := tru_lks (f := A) (t := B) hF g1 g2 g3
    obtain ⟨i1, i2⟩ := bnd_snoc hT1 hsub L
    have cIn := c_insideZ _ _ _ _ i1 i2
    have hsE : sureE l cs wr off = 0 := by unfold sureE; rw [if_pos hF, if_neg hT]
    have hsE' : sureE l (cs ++ [x]) wr off = 0 := by unfold sureE; rw [if_pos hF', if_neg hT1]
    have hS : startE l cs wr off A B = 0 := by rw [startE_in hF g1 g2 g3, if_neg hT]
    have hS' : startE l (cs ++ [x]) wr off A B = 0 := by rw [startE_in hF' g1 g2 g3, if_neg hT1]
    unfold looksN at cN cN'
    rw [hS, if_pos rfl] at cN
    rw [hS', if_pos rfl] at cN'
    have hlk := lk_sub hT1 L hsub
    unfold lkP1 lkP2 at cK cK'
    rw [hsE, if_pos rfl, if_pos rfl] at cK
    rw [hsE', if_pos rfl, if_pos rfl] at cK'
    have hlf := look_filter (R := truR l cs wr off) (p := fitR l (cs ++ [x]) wr off) (n := l.length) (by omega) f1
    rw [← tru_snoc] at hlf
    have hpl : plL l cs wr off = (List.range l.length).map fun i => verdR (yesP (truR l cs wr off) i) (truR l cs wr off).length := by unfold plL; rw [if_pos hsE]
    have hpl' : plL l (cs ++ [x]) wr off = (List.range l.length).map fun i => verdR (yesP (truR l (cs ++ [x]) wr off) i) (truR l (cs ++ [x]) wr off).length := by unfold plL; rw [if_pos hsE']
    have hvz : ∀ z, z < l.length → (plL l cs wr off).getD z 0 = 3 ∨ (plL l cs wr off).getD z 0 = (plL l (cs ++ [x]) wr off).getD z 0 := fun z hz => by
      rw [hpl, hpl', map_range_get _ hz, map_range_get _ hz]
      exact ver_snoc hT1 hsub fun t ht => (truR_mem t ht).2
    have hPl : (ints (plL l cs wr off)).length = l.length := by rw [ints_length, hpl]; simp
    have hQl : (ints (plL l (cs ++ [x]) wr off)).length = l.length := by rw [ints_length, hpl']; simp
    have hPl2 : (plL l cs wr off).length = l.length := by rw [hpl]; simp
    have hQl2 : (plL l (cs ++ [x]) wr off).length = l.length := by rw [hpl']; simp
    rw [hsE] at cPl
    rw [hsE'] at cPl'
    generalize plL l cs wr off = Pz at *
    generalize plL l (cs ++ [x]) wr off = Qz at *
    generalize (lookS (truR l cs wr off) l.length).1 = k1 at *
    generalize (lookS (truR l cs wr off) l.length).2 = k2 at *
    generalize (lookS (truR l (cs ++ [x]) wr off) l.length).1 = k3 at *
    generalize (lookS (truR l (cs ++ [x]) wr off) l.length).2 = k4 at *
    generalize lkN A B l.length (truR l cs wr off) = n1 at *
    generalize lkN A B l.length (truR l (cs ++ [x]) wr off) = n2 at *
    generalize loR A B (truR l cs wr off) = lo at *
    generalize hiR A B (truR l cs wr off) = hi at *
    generalize loR A B (truR l (cs ++ [x]) wr off) = lo1 at *
    generalize hiR A B (truR l (cs ++ [x]) wr off) = hi1 at *
    repeat' first | ((first | with_reducible apply WB.tt | with_reducible apply WB.ff | refine Rn.seq ?_ | refine Rn.reg ?_ | refine Rn.drw ?_ | refine Rn.blk ?_ | refine Rn.skip ?_ | refine Rn.ret ?_ | refine Rn.exit ?_ | refine Rn.cond rfl ?_ | refine And.intro (InR.i64 (by omega) (by omega)) ?_ | refine And.intro (show _ ≠ (0 : Int) by omega) ?_ | refine WIx.intsN (by omega) ?_ | refine WIx.rowsN (by omega) ?_ | refine WCall.pure (cD) ?_ | refine WCall.pure (cD1) ?_ | refine WCall.pure (cR) ?_ | refine WCall.pure (cR') ?_ | refine WCall.pure (cM) ?_ | refine WCall.pure (cM') ?_ | refine WCall.pure (cP) ?_ | refine WCall.pure (cC) ?_ | refine WCall.pure (cC') ?_ | refine WCall.pure (cPl) ?_ | refine WCall.pure (cPl') ?_ | refine WCall.pure (cK) ?_ | refine WCall.pure (cK') ?_ | refine WCall.pure (cN) ?_ | refine WCall.pure (cN') ?_ | refine WCall.pure (cIn) ?_ | with_reducible refine WB.decT (by first | with_reducible rfl | assumption | omega | exact ⟨rfl, rfl⟩) ?_ | with_reducible refine WB.decF (by first | assumption | omega) ?_ | with_reducible refine WB.ndT (by first | with_reducible rfl | assumption | omega | exact ⟨rfl, rfl⟩) ?_ | with_reducible refine WB.ndF (by first | assumption | omega) ?_ | with_reducible refine WB.nt ?_ | with_reducible refine WB.nf ?_ | with_reducible refine WB.dec (fun h => ?_) (fun h => ?_) | with_reducible refine WB.ndec (fun h => ?_) (fun h => ?_) | refine WB.mk (fun h => ?_) (fun h => ?_)) <;> conv => whnf)
    refine Rn.loop (fun z : Nat => ⟨(.n .e none (.n (.n .e none (.n (.n .e (some (.lst 1 (ints Pz))) .e) none .e)) none (.n (.n (.n (.n .e (some (.i .i64 (z : Int))) .e) none .e) none .e) none (.n (.n .e (some (.lst 1 (ints Qz))) .e) none .e)))), .e, .o (.i .h), none⟩) (fun z => z ≤ l.length) (fun z => l.length - z) 0 ?_ ?_ ?_
    · refine X.le.mk ?_ (T.le_e _) (Nat.le_refl _) rfl rfl
      (repeat' first | exact T.le_e _ | refine T.le_some ?_ rfl ?_ | refine T.le_none ?_ ?_)
    · exact Nat.zero_le _
    intro z hz
    have hz : z ≤ l.length := hz
    conv => whnf
    repeat' first | ((first | with_reducible apply WB.tt | with_reducible apply WB.ff | refine Rn.seq ?_ | refine Rn.reg ?_ | refine Rn.drw ?_ | refine Rn.blk ?_ | refine Rn.skip ?_ | refine Rn.ret ?_ | refine Rn.exit ?_ | refine Rn.cond rfl ?_ | refine And.intro (InR.i64 (by omega) (by omega)) ?_ | refine And.intro (show _ ≠ (0 : Int) by omega) ?_ | refine WIx.intsN (by omega) ?_ | refine WIx.rowsN (by omega) ?_) <;> conv => whnf)
    refine WB.dec (fun h => ?_) (fun h => ?_) <;> conv => whnf
    · have hlt : z < l.length := by omega
      have hv := hvz z hlt
      repeat' first | ((first | with_reducible apply WB.tt | with_reducible apply WB.ff | refine Rn.seq ?_ | refine Rn.reg ?_ | refine Rn.drw ?_ | refine Rn.blk ?_ | refine Rn.skip ?_ | refine Rn.ret ?_ | refine Rn.exit ?_ | refine Rn.cond rfl ?_ | refine And.intro (InR.i64 (by omega) (by omega)) ?_ | refine And.intro (show _ ≠ (0 : Int) by omega) ?_ | refine WIx.intsN (by omega) ?_ | refine WIx.rowsN (by omega) ?_ | with_reducible refine WB.decT (by first | with_reducible rfl | assumption | omega | exact ⟨rfl, rfl⟩) ?_ | with_reducible refine WB.decF (by first | assumption | omega) ?_ | with_reducible refine WB.ndT (by first | with_reducible rfl | assumption | omega | exact ⟨rfl, rfl⟩) ?_ | with_reducible refine WB.ndF (by first | assumption | omega) ?_ | with_reducible refine WB.nt ?_ | with_reducible refine WB.nf ?_ | with_reducible refine WB.dec (fun h => ?_) (fun h => ?_) | with_reducible refine WB.ndec (fun h => ?_) (fun h => ?_) | refine WB.mk (fun h => ?_) (fun h => ?_)) <;> conv => whnf)
      all_goals first
        | (refine Again.to (z + 1) (by omega) (by omega) (Nat.le_refl _) ?_
           refine Shr.of ?_ Rel.e rfl rfl
           (repeat' first | exact Rel.e | refine Rel.some ?_ ?_ ?_ | refine Rel.none ?_ ?_ | refine Rel.ee ?_ ?_)
           all_goals show Fz _ _ _ _
           all_goals first | exact .pu trivial | exact .pu (pu_ints _))
        | (exfalso; omega)
        | skip
    · repeat' first | ((first | with_reducible apply WB.tt | with_reducible apply WB.ff | refine Rn.seq ?_ | refine Rn.reg ?_ | refine Rn.drw ?_ | refine Rn.blk ?_ | refine Rn.skip ?_ | refine Rn.ret ?_ | refine Rn.exit ?_ | refine Rn.cond rfl ?_ | refine And.intro (InR.i64 (by omega) (by omega)) ?_ | refine And.intro (show _ ≠ (0 : Int) by omega) ?_ | refine WIx.intsN (by omega) ?_ | refine WIx.rowsN (by omega) ?_ | refine WCall.pure (AW) ?_) <;> conv => whnf)
      exact Fin.b rfl rfl
theorem c_CountMore (l : List Int) (cs : List Cnt) (wr off : Int) (x : Cnt) (a b : Int) (ha : 0 ≤ a ∧ a ≤ 255) (hb : 0 ≤ b ∧ b ≤ 255) (hcn : cs.length ≤ 1048576) (AW : PureF Try.prog p20.ix [] (.b true)) : PureF Try.prog p12.ix [.ag [.lst 1 (ints l), .lst 3 (rows cntD cs), .i .i64 wr, .i .i64 off], .ag (cntD x), .i .u8 a, .i .u8 b] (.b true) := by
  have e3 := rows_length cntD cs
  refine PureF.run fn11 (by simp) (by simp [PuL, PuE, Pu, pu_ints, pu_cnts, cntD]) ?_; conv => whnf
  refine Rn.seq ?_; conv => whnf
  refine Rn.reg ?_; conv => whnf
  refine Rn.seqB ?_; conv => whnf
  repeat' first | ((first | with_reducible apply WB.tt | with_reducible apply WB.ff | refine Rn.seq ?_ | refine Rn.reg ?_ | refine Rn.drw ?_ | refine Rn.blk ?_ | refine Rn.skip ?_ | refine Rn.ret ?_ | refine Rn.exit ?_ | refine Rn.cond rfl ?_ | refine And.intro (InR.i64 (by omega) (by omega)) ?_ | refine And.intro (show _ ≠ (0 : Int) by omega) ?_ | refine WIx.intsN (by omega) ?_ | refine WIx.rowsN (by omega) ?_) <;> conv => whnf)
  refine WSt.app_empE (es := rows cntD cs) rfl rfl rfl (cnts_three _) (by omega) (fun st w => ?_); conv => whnf
  cases w
  all_goals
    repeat' first | ((first | with_reducible apply WB.tt | with_reducible apply WB.ff | refine Rn.seq ?_ | refine Rn.reg ?_ | refine Rn.drw ?_ | refine Rn.blk ?_ | refine Rn.skip ?_ | refine Rn.ret ?_ | refine Rn.exit ?_ | refine Rn.cond rfl ?_ | refine And.intro (InR.i64 (by omega) (by omega)) ?_ | refine And.intro (show _ ≠ (0 : Int) by omega) ?_ | refine WIx.intsN (by omega) ?_ | refine WIx.rowsN (by omega) ?_) <;> conv => whnf)
    refine WSt.app_oneL (id := .o (.o .h)) (idy := .i (.o .h)) (st := st) (cur := st + 1) (ds := (rows cntD cs).flatten) (r := cntD x) (len := (rows cntD cs).length) (by rfl) (by rfl) (by rfl) (by rfl) (by rfl) (by rfl) (by rw [e3]; exact flat_three cs) (by rfl) (by rfl) (by omega) (by rfl) ?_; conv => whnf
    repeat' first | ((first | with_reducible apply WB.tt | with_reducible apply WB.ff | refine Rn.seq ?_ | refine Rn.reg ?_ | refine Rn.drw ?_ | refine Rn.blk ?_ | refine Rn.skip ?_ | refine Rn.ret ?_ | refine Rn.exit ?_ | refine Rn.cond rfl ?_ | refine And.intro (InR.i64 (by omega) (by omega)) ?_ | refine And.intro (show _ ≠ (0 : Int) by omega) ?_ | refine WIx.intsN (by omega) ?_ | refine WIx.rowsN (by omega) ?_) <;> conv => whnf)
    refine ⟨rfl, moS l cs wr off x a b, (fun id => id.nat < 4), ?_, (fun id (h : id.nat < 3) => show id.nat < 4 by omega), (fun id h => h), (show 3 ≤ 4 by omega), ?_⟩
    · refine ShrB.of ?_ ?_ rfl rfl
      · show Rel _ _ ((.n (.n (.n .e (some (.i .u8 b)) .e) none (.n (.n .e (some (.pt (.i .h) 0 0)) .e) none .e)) none (.n (.n .e (some (.pt .h 0 0)) .e) (some (.i .u8 a)) .e)) : T D) _
        (repeat' first | exact Rel.e | refine Rel.some ?_ ?_ ?_ | refine Rel.none ?_ ?_ | refine Rel.ee ?_ ?_)
        all_goals show Fz _ _ _ _
        all_goals first | exact .pu trivial | exact .kpt (show _ < 4 by simp [Pos.nat])
      · show Rel _ _ ((.n .e (some (rowC l cs wr off)) (.n .e (some (rowC l (cs ++ [x]) wr off)) .e)) : T C) _
        (repeat' first | exact Rel.e | refine Rel.some ?_ ?_ ?_ | refine Rel.none ?_ ?_ | refine Rel.ee ?_ ?_)
        · exact ⟨show _ < 4 by simp [Pos.nat], rowC_sh l cs wr off⟩
        · refine ⟨show _ < 4 by simp [Pos.nat], rowZ_sh ?_⟩
          exact Fz.grown (ds := (rows cntD cs).flatten) (r := cntD x) (s1 := st) (s2 := st + 1) (show ¬ 4 < 4 by omega) rfl rfl (Nat.le_succ _) (rows_snocZ _ _) (by first | (rw [rows_length, e3]; simp) | (rw [rows_length]; simp [rows_length])) (cnts_three _) (pu_cnts _)
    exact c_CountMoreR l cs wr off x a b ha hb hcn AW
theorem main_countMore (AW : PureF Try.prog p20.ix [] (.b true)) {es : List D} (fit : FitP [(true, [.sl [.i .i64], .sl [.b, .i .i64, .i .i64], .i .i64, .i .i64]), (true, [.b, .i .i64, .i .i64]), (false, [.i .u8]), (false, [.i .u8])] es) (hB : ∀ e ∈ es, LstLe 1048576 e) : PureF Try.prog 11 es (.b true) := by
  obtain ⟨l, cs, wr, off, _, rfl, g1⟩ := fit.row
  obtain ⟨x, _, rfl, g2⟩ := g1.cnt
  obtain ⟨a, _, rfl, w1, g3⟩ := g2.i
  obtain ⟨b, _, rfl, w2, g4⟩ := g3.i
  obtain rfl := g4.no
  have h0 : LstLe 1048576 (.ag [.lst 1 (ints l), .lst 3 (rows cntD cs), .i .i64 wr, .i .i64 off]) := hB _ (by simp)
  have h1 : (rows cntD cs).length ≤ 1048576 := h0 (.lst 3 (rows cntD cs)) (by simp) 3 _ rfl
  rw [rows_length] at h1
  exact c_CountMore l cs wr off x a b (wf_u8 w1) (wf_u8 w2) h1 AW
end Go.Ev
namespace Go.Proofs.Ytmlpgfmbhpefmaa.countMore
open Go.ChangeShapes Go.WideShapes Go.ChangeAt Go.RowKit
open Go.ChangeMaps (open_string shut_string)
set_option linter.unusedVariables false

theorem laid : laidOutB Try.prog = true := by kernel_rfl
theorem own : ownKnob Try.prog.godebug = none := by kernel_rfl

/-! ### the bulk bounds the lists -/
theorem bulk_one {H : Type} (d : DataW H) : 1 ≤ Rows.uptoBulk d := by
  cases d with
  | lit l => cases l <;> simp [Rows.uptoBulk]
  | _ => simp [Rows.uptoBulk]
theorem bulk_len {H : Type} : ∀ (l : List (DataW H)), l.length ≤ Rows.uptoBulkAll l
  | [] => Nat.zero_le _
  | x :: r => by
    have h1 := bulk_one x
    have h2 := bulk_len r
    simp only [Rows.uptoBulkAll, List.length_cons]
    omega
theorem bulk_mem {H : Type} {d : DataW H} : ∀ {l : List (DataW H)}, d ∈ l → Rows.uptoBulk d ≤ Rows.uptoBulkAll l
  | [], h => by cases h
  | x :: r, h => by
    simp only [Rows.uptoBulkAll]
    rcases List.mem_cons.1 h with rfl | h
    · omega
    · have := bulk_mem h; omega
theorem bulk_slice {H : Type} (elems spare : List (DataW H)) : elems.length ≤ Rows.uptoBulk (.slice elems spare) := by
  have := bulk_len elems
  simp only [Rows.uptoBulk]
  omega
theorem bulk_agg {H : Type} (parts : List (DataW H)) (d : DataW H) (h : d ∈ parts) : Rows.uptoBulk d ≤ Rows.uptoBulk (.agg parts) := by
  have := bulk_mem h
  simp only [Rows.uptoBulk]
  omega

/-! ### the walk -/
theorem walk {es : List Go.Ev.D} (fit : Go.Ev.FitP [(true, [.sl [.i .i64], .sl [.b, .i .i64, .i .i64], .i .i64, .i .i64]), (true, [.b, .i .i64, .i .i64]), (false, [.i .u8]), (false, [.i .u8])] es) (hB : ∀ e ∈ es, Go.Ev.LstLe 1048576 e) {args : Array Value} {W : World} (ha : Go.Ev.DVL (Go.Ev.γH W) W es args.toList) :
    Calls Try.prog 11 args W fun e w' => e = .returned (.bool true) ∧ Grown W w' ∧ Below W.heap.size W w' :=
  Go.Ev.PureF.calls (Go.Ev.main_countMore (fun ob nx lg => Go.Ev.awT.any ob nx lg) fit hB) ha

set_option maxRecDepth 100000 in
theorem lifted (os : Os) (started : os.Started) (H : Type) (enc : TypeId × Value → H) (F : Stop.Interp) :
    ReturnsInHanded {} Try.checked os 11 .any ((Rows.OpenSpec.upto Rows.countMoreSpec).pre6 enc Try.prog Try.f11 Rows.countMoreUptoRow.domain false) (((Rows.OpenSpec.upto Rows.countMoreSpec).at F).post enc Try.prog Try.f11 false true false false) := by
  refine returnsInHanded_of_cond (C := Try.checked) (s := Rows.OpenSpec.upto Rows.countMoreSpec) (k := Rows.uptoSmall) rfl own started (by kernel_rfl) Try.func11
    (OpenSpec.witness (enc := enc) (C := Try.checked) (s := Rows.OpenSpec.upto Rows.countMoreSpec) (k := Rows.uptoSmall) rfl false ⟨#[], #[.agg #[.slice none 0 0, .slice none 0 0, .int .i64 0, .int .i64 0], .agg #[.bool false, .int .i64 0, .int .i64 0], .int .u8 0, .int .u8 0], []⟩ 8 (by kernel_rfl) (by kernel_rfl) (by kernel_rfl)
      (x := ([.agg [.nil, .nil, .lit (.int .i64 0), .lit (.int .i64 0)], .agg [.lit (.bool false), .lit (.int .i64 0), .lit (.int .i64 0)], .lit (.int .u8 0), .lit (.int .u8 0)], [], [])) (by kernel_rfl) rfl (by kernel_rfl)) ?_
  intro W base args ds gs before hval0 hW _ hk _
  have hval : ∀ (j : Nat) t v, Try.f11.params[j]? = some t → args[j]? = some v → Value.okWide Try.prog W .any base t v := hval0
  have hW' := hW
  obtain ⟨p, q, hA0, hV, rfl, hfz, hnd⟩ := hW
  have hA : DataW.TrodAll enc Try.prog W 0 (fun _ => true) true Try.f11.params.toList args.toList ds p := hA0
  rw [Try.params11] at hA hval
  obtain ⟨rfl, rfl⟩ := trodVars_none hV
  have hk1 : Rows.uptoBulkAll (ds ++ []) ≤ 1048576 := of_decide_eq_true hk
  rw [List.append_nil] at hk1
  obtain ⟨es, fit, dv, hB⟩ := Go.Ev.open_allB (B := Rows.uptoBulk) (n := 6) (N := 1048576) (pars := [(true, [.sl [.i .i64], .sl [.b, .i .i64, .i .i64], .i .i64, .i .i64]), (true, [.b, .i .i64, .i .i64]), (false, [.i .u8]), (false, [.i .u8])]) bulk_slice bulk_agg (by kernel_rfl) hA (fun j t v h1 h2 => hval j t v (by simpa using h1) (by simpa using h2)) (fun d hd => Nat.le_trans (bulk_mem hd) hk1)
  obtain ⟨d0, d1, d2, d3, rfl⟩ := Go.Ev.len4 (Go.Ev.trod_len hA)
  clear hA0 hval0
  simp only [List.append_nil] at hW'
  have hlt : ∀ x ∈ p, x.block < W.heap.size := fun x hx => by simpa using hW'.lt x hx
  refine (walk fit hB dv).mono fun e W' ⟨he, hg, hb⟩ => ?_
  subst he
  exact ⟨_, rfl, post_of_same (pa := p) (pv := []) hW' (fun _ _ _ => (trodAll_cons_mk (shut_bool Try.underlying4 _) trodAll_mk0))
    (fun sp hs => Go.Ev.stays_all laid (Go.Ev.of_allT (by kernel_rfl)) hA (fun x hx => hb.same (hlt x hx)) (fun x hx => hs x hx))
    (fun _ _ => rfl) (List.append_nil _).symm
    (hg.frame _) hg.2.1 (ok_one (by kernel_rfl) rfl (okWide_bool_mk Try.underlying4 _))⟩

theorem over : Rows.countMoreUptoRow.holds Try.pinned (Rows.OpenSpec.upto Rows.countMoreSpec) :=
  OpenClaim.holds_of_cond 11 Try.f11 rfl rfl rfl rfl rfl rfl rfl ⟨rfl, rfl, rfl, rfl, rfl⟩ rfl rfl rfl rfl rfl (by kernel_rfl) Try.func11 (by kernel_rfl)
    (of_decide_eq_true (by kernel_rfl)) (by unfold Func.isWrapper; first | (rw [if_pos (by decide +kernel)]; kernel_rfl) | (rw [if_neg (by decide +kernel)]; exact ⟨rfl, rfl⟩))
    (fun os started H enc _ F => lifted os started H enc F)

/-- ████ THE STATEMENT ████ -/
theorem proved : Rows.CountMoreUptoSaid :=
  over
#print axioms proved
end Go.Proofs.Ytmlpgfmbhpefmaa.countMore
