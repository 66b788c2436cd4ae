/-
  TideStep: the law answers true for every table and numbers; the only conditions are those of the row itself.
-/
import Derived.Test.YtpemagogcagipaaRows
import Derived.WalkKit
import Derived.ProofKit
import Derived.OpenShut
import Derived.Test.YtpemagogcagipaaEvFt
import Derived.Test.YtpemagogcagipaaEvSy
import Derived.ShutString
import Derived.Test.YtpemagogcagipaaEvQG
import Derived.Test.YtpemagogcagipaaEvMN
set_option linter.all false
namespace Go.Ev
open Go.Proofs
set_option maxRecDepth 1000000
noncomputable def rc13 : RC := (.seq (.reg [(.u (.box p6 (.t p1))), (.u (.mv p11 (.k (.b false))))]) (.seq (.seq (.reg [(.u (.ldn p26 (.t p6) 5)), (.u (.cf (some p27) p52 [(.t p26)])), (.u (.un p28 .not (.t p27)))]) (.cond (.t p28) (.seq (.reg [(.u (.cf (some p29) p21 [])), (.u (.mv p11 (.t p29)))]) .ret) .skip)) (.seq (.reg [(.u (.ldn p30 (.t p6) 5)), (.u (.new p12 [(.i .i64 0), .ns, (.i .i64 0), .ns, .ns])), (.u (.st (.t p12) (.t p30) 5))]) (.seq (.reg [(.u (.fad p31 (.t p6) 2)), (.u (.ld1 p32 (.t p31))), (.u (.mv p33 (.t p5))), (.u (.cvi p34 .i64 (.t p33))), (.u (.bin p35 .rem (.t p34) (.k (.i .i64 5)))), (.u (.bin p36 .add (.t p32) (.t p35))), (.u (.mn p37 (.k (.i .i64 99)) (.t p36))), (.u (.fad p38 (.t p12) 2)), (.u (.st (.t p38) (.t p37) 1))]) (.seq (.reg [(.u (.ldn p40 (.t p6) 5)), (.u (.cf (some p41) p23 [(.t p40)])), (.u (.cf (some p42) p46 [(.t p41)])), (.u (.mv p39 (.t p42))), (.u (.ext p43 (.t p39) 0)), (.u (.ext p44 (.t p39) 1)), (.u (.mv p13 (.t p43))), (.u (.mv p14 (.t p44)))]) (.seq (.reg [(.u (.ldn p46 (.t p12) 5)), (.u (.cf (some p47) p23 [(.t p46)])), (.u (.cf (some p48) p46 [(.t p47)])), (.u (.mv p45 (.t p48))), (.u (.ext p49 (.t p45) 0)), (.u (.ext p50 (.t p45) 1)), (.u (.mv p15 (.t p49))), (.u (.mv p16 (.t p50)))]) (.seq (.seq (.reg [(.u (.mv p51 (.t p14))), (.u (.bin p52 .neq (.t p51) (.k (.i .i64 0)))), (.u (.mv p53 (.t p52))), (.g p53 false (some p54) (.mv p54 (.t p16))), (.g p53 false (some p55) (.bin p55 .neq (.t p54) (.k (.i .i64 0)))), (.u (.pick p56 (.t p53) (.k (.b true)) (.t p55))), (.u (.mv p57 (.t p56))), (.g p57 false (some p58) (.mv p58 (.t p15))), (.g p57 false (some p59) (.len p59 (.t p58))), (.g p57 false (some p60) (.mv p60 (.t p13))), (.g p57 false (some p61) (.len p61 (.t p60))), (.g p57 false (some p62) (.bin p62 .gtr (.t p59) (.t p61))), (.u (.pick p63 (.t p57) (.k (.b true)) (.t p62)))]) (.cond (.t p63) (.seq (.reg [(.u (.mv p11 (.k (.b false))))]) .ret) .skip)) (.seq (.seq (.reg [(.u (.mv p64 (.t p13))), (.u (.len p65 (.t p64))), (.u (.bin p66 .gtr (.t p65) (.k (.i .i64 0))))]) (.cond (.t p66) (.seq (.reg [(.u (.cf (some p67) p21 [])), (.u (.mv p11 (.t p67)))]) .ret) .skip)) (.seq (.reg [(.u (.ldn p69 (.t p6) 5)), (.u (.cf (some p70) p23 [(.t p69)])), (.u (.cf (some p71) p32 [(.t p70)])), (.u (.mv p68 (.t p71))), (.u (.ext p72 (.t p68) 0)), (.u (.ext p73 (.t p68) 1)), (.u (.mv p17 (.t p72))), (.u (.mv p18 (.t p73)))]) (.seq (.reg [(.u (.ldn p75 (.t p12) 5)), (.u (.cf (some p76) p23 [(.t p75)])), (.u (.cf (some p77) p32 [(.t p76)])), (.u (.mv p74 (.t p77))), (.u (.ext p78 (.t p74) 0)), (.u (.ext p79 (.t p74) 1)), (.u (.mv p19 (.t p78))), (.u (.mv p20 (.t p79)))]) (.seq (.seq (.reg [(.u (.mv p80 (.t p18))), (.u (.bin p81 .neq (.t p80) (.k (.i .i64 0)))), (.u (.mv p82 (.t p81))), (.g p82 false (some p83) (.mv p83 (.t p20))), (.g p82 false (some p84) (.bin p84 .neq (.t p83) (.k (.i .i64 0)))), (.u (.pick p85 (.t p82) (.k (.b true)) (.t p84))), (.u (.mv p86 (.t p85))), (.g p86 false (some p87) (.mv p87 (.t p17))), (.g p86 false (some p88) (.mv p88 (.t p19))), (.g p86 false (some p89) (.cf (some p89) p58 [(.t p87), (.t p88)])), (.g p86 false (some p90) (.un p90 .not (.t p89))), (.u (.pick p91 (.t p86) (.k (.b true)) (.t p90))), (.u (.mv p92 (.t p91))), (.g p92 false (some p93) (.mv p93 (.t p17))), (.g p92 false (some p94) (.len p94 (.t p93))), (.g p92 false (some p95) (.fad p95 (.t p6) 0)), (.g p92 false (some p96) (.ld1 p96 (.t p95))), (.g p92 false (some p97) (.bin p97 .add (.t p96) (.k (.i .i64 1)))), (.g p92 false (some p98) (.bin p98 .neq (.t p94) (.t p97))), (.u (.pick p99 (.t p92) (.k (.b true)) (.t p98)))]) (.cond (.t p99) (.seq (.reg [(.u (.mv p11 (.k (.b false))))]) .ret) .skip)) (.seq (.drw [(.u (.mv p100 (.t p3))), (.u (.cvi p101 .i64 (.t p100))), (.u (.fad p102 (.t p6) 0)), (.u (.ld1 p103 (.t p102))), (.u (.bin p104 .add (.t p103) (.k (.i .i64 1)))), (.u (.bin p105 .rem (.t p101) (.t p104))), (.u (.mv p106 (.t p4))), (.u (.cvi p107 .i64 (.t p106))), (.u (.fad p108 (.t p6) 0)), (.u (.ld1 p109 (.t p108))), (.u (.bin p110 .add (.t p109) (.k (.i .i64 1)))), (.u (.bin p111 .rem (.t p107) (.t p110))), (.u (.mv p21 (.t p105))), (.u (.mv p22 (.t p111)))] [0, 1, 0, 4, 12, 31, 0, 64, 0, 256, 768, 1984, 63, 8191]) (.seq (.reg [(.u (.fad p112 (.t p6) 2)), (.u (.ld1 p113 (.t p112))), (.u (.mv p114 (.t p21))), (.u (.mv p115 (.t p22))), (.u (.bin p116 .sub (.t p114) (.t p115))), (.u (.mv p117 (.t p22))), (.u (.mv p118 (.t p21))), (.u (.bin p119 .sub (.t p117) (.t p118))), (.u (.mx p120 (.t p116) (.t p119))), (.u (.bin p121 .mul (.t p113) (.t p120))), (.u (.mv p23 (.t p121)))]) (.seq (.reg [(.u (.ldn p122 (.t p6) 5)), (.u (.cf (some p123) p55 [(.t p122)])), (.u (.mv p24 (.t p123)))]) (.seq (.reg [(.u (.mv p124 (.t p24))), (.u (.mv p125 (.t p2))), (.u (.cvi p126 .i64 (.t p125))), (.u (.mv p127 (.t p24))), (.u (.len p128 (.t p127))), (.u (.bin p129 .rem (.t p126) (.t p128))), (.u (.ixs p130 1 (.t p124) (.t p129))), (.u (.ld1 p131 (.t p130))), (.u (.mv p25 (.t p131)))]) (.seq (.drw [(.u (.mv p132 (.t p25))), (.u (.mv p133 (.t p21))), (.u (.ixs p134 1 (.t p132) (.t p133))), (.u (.ld1 p135 (.t p134))), (.u (.mv p136 (.t p25))), (.u (.mv p137 (.t p22))), (.u (.ixs p138 1 (.t p136) (.t p137))), (.u (.ld1 p139 (.t p138))), (.u (.bin p140 .sub (.t p135) (.t p139))), (.u (.mv p141 (.t p23))), (.u (.bin p142 .leq (.t p140) (.t p141))), (.u (.mv p143 (.t p142))), (.g p143 true (some p144) (.mv p144 (.t p25))), (.g p143 true (some p145) (.mv p145 (.t p22))), (.g p143 true (some p146) (.ixs p146 1 (.t p144) (.t p145))), (.g p143 true (some p147) (.ld1 p147 (.t p146))), (.g p143 true (some p148) (.mv p148 (.t p25))), (.g p143 true (some p149) (.mv p149 (.t p21))), (.g p143 true (some p150) (.ixs p150 1 (.t p148) (.t p149))), (.g p143 true (some p151) (.ld1 p151 (.t p150))), (.g p143 true (some p152) (.bin p152 .sub (.t p147) (.t p151))), (.g p143 true (some p153) (.mv p153 (.t p23))), (.g p143 true (some p154) (.bin p154 .leq (.t p152) (.t p153))), (.u (.pick p155 (.t p143) (.t p154) (.k (.b false)))), (.u (.mv p156 (.t p155))), (.g p156 true (some p157) (.mv p157 (.t p17))), (.g p156 true (some p158) (.mv p158 (.t p21))), (.g p156 true (some p159) (.ixs p159 2 (.t p157) (.t p158))), (.g p156 true (some p160) (.fad p160 (.t p159) 1)), (.g p156 true (some p161) (.ld1 p161 (.t p160))), (.g p156 true (some p162) (.mv p162 (.t p17))), (.g p156 true (some p163) (.mv p163 (.t p22))), (.g p156 true (some p164) (.ixs p164 2 (.t p162) (.t p163))), (.g p156 true (some p165) (.fad p165 (.t p164) 1)), (.g p156 true (some p166) (.ld1 p166 (.t p165))), (.g p156 true (some p167) (.bin p167 .sub (.t p161) (.t p166))), (.g p156 true (some p168) (.mv p168 (.t p23))), (.g p156 true (some p169) (.bin p169 .leq (.t p167) (.t p168))), (.u (.pick p170 (.t p156) (.t p169) (.k (.b false)))), (.u (.mv p171 (.t p170))), (.g p171 true (some p172) (.mv p172 (.t p17))), (.g p171 true (some p173) (.mv p173 (.t p22))), (.g p171 true (some p174) (.ixs p174 2 (.t p172) (.t p173))), (.g p171 true (some p175) (.fad p175 (.t p174) 0)), (.g p171 true (some p176) (.ld1 p176 (.t p175))), (.g p171 true (some p177) (.mv p177 (.t p17))), (.g p171 true (some p178) (.mv p178 (.t p21))), (.g p171 true (some p179) (.ixs p179 2 (.t p177) (.t p178))), (.g p171 true (some p180) (.fad p180 (.t p179) 0)), (.g p171 true (some p181) (.ld1 p181 (.t p180))), (.g p171 true (some p182) (.bin p182 .sub (.t p176) (.t p181))), (.g p171 true (some p183) (.mv p183 (.t p23))), (.g p171 true (some p184) (.bin p184 .leq (.t p182) (.t p183))), (.u (.pick p185 (.t p171) (.t p184) (.k (.b false)))), (.u (.mv p186 (.t p185))), (.g p186 true (some p187) (.ldn p187 (.t p12) 5)), (.g p186 true (some p188) (.cf (some p188) p23 [(.t p187)])), (.g p186 true (some p189) (.mv p189 (.t p25))), (.g p186 true (some p190) (.cf (some p190) p24 [(.t p189)])), (.g p186 true (some p191) (.cf (some p191) p25 [(.t p188), (.t p190)])), (.u (.pick p192 (.t p186) (.t p191) (.k (.b false)))), (.u (.mv p193 (.t p192))), (.g p193 true (some p194) (.cf (some p194) p21 [])), (.u (.pick p195 (.t p193) (.t p194) (.k (.b false)))), (.u (.mv p11 (.t p195)))] [0, 0, 3, 7, 0, 0, 48, 112, 255, 0, 1023, 2047, 4095, 4095, 16383, 32767, 4095, 4095, 200703, 462847, 1048575, 4095, 4194303, 8388607, 16777215, 33554431, 33554431, 134217727, 268435455, 536870911, 33554431, 33554431, 3254779903, 7549747199, 16139681791, 34359738367, 33554431, 137438953471, 274877906943, 549755813887, 1099511627775, 1099511627775, 4398046511103, 8796093022207, 17592186044415, 1099511627775, 1099511627775, 106652627894271, 247390116249599, 528865092960255, 1125899906842623, 1099511627775, 4503599627370495, 9007199254740991, 18014398509481983, 36028797018963967, 72057594037927935, 36028797018963967, 288230376151711743, 576460752303423487, 1152921504606846975, 2305843009213693951, 4611686018427387903, 9223372036854775807, 18446744073709551615]) .ret))))))))))))))))
def rs13 : List RR := [(.t p11)]
theorem fn13 : FnOk Try.prog p14.ix 195 rc13 rs13 := ⟨Try.f13, bodyC Try.f13, Try.func13, by kernel_rfl, by kernel_rfl, by kernel_rfl, by kernel_rfl, by kernel_rfl⟩
end Go.Ev
namespace Go.Ev
open Go.Proofs
set_option maxRecDepth 100000
/-! ### TideStep -/
set_option maxHeartbeats 8000000 in
theorem c_TideStep (last : Int) (hs : List Rg) (step : Int) (lv : List Int) (ms : List Mk) (which one other more : Int) (w1 : 0 ≤ which ∧ which ≤ 65535) (w2 : 0 ≤ one ∧ one ≤ 255) (w3 : 0 ≤ other ∧ other ≤ 255) (w4 : 0 ≤ more ∧ more ≤ 255) (AW : PureF Try.prog p21.ix [] (.b true)) : PureF Try.prog p14.ix [.ag [.i .i64 last, .lst 2 (rows rgD hs), .i .i64 step, .lst 1 (ints lv), .lst 4 (rows mkD ms)], .i .u16 which, .i .u8 one, .i .u8 other, .i .u8 more] (.b true) := by
  have iR := c_ready last hs step lv ms
  refine PureF.run fn13 (by simp) (by simp [PuL, PuE, Pu, pu_ints, pu_rg, pu_mk]) ?_; conv => whnf
  cases hR : readyB last hs step lv ms with
  | false =>
    rw [hR] at iR
    repeat' first | ((with_reducible apply WB.tt); conv => whnf) | ((with_reducible apply WB.ff); conv => whnf) | (refine Rn.seq ?_; conv => whnf) | (refine Rn.reg ?_; conv => whnf) | (refine Rn.drw ?_; conv => whnf) | (refine Rn.blk ?_; conv => whnf) | (refine Rn.skip ?_; conv => whnf) | (refine Rn.ret ?_; conv => whnf) | (refine Rn.exit ?_; conv => whnf) | (refine Rn.cond rfl ?_; conv => whnf) | (refine And.intro (InR.i64 (by omega) (by omega)) ?_; conv => whnf) | (refine And.intro (show _ ≠ (0 : Int) by omega) ?_; conv => whnf) | (refine WIx.intsN (by omega) ?_; conv => whnf) | (refine WIx.rowsN (by omega) ?_; conv => whnf) | (refine WCall.pure (iR) ?_; conv => whnf)
    refine WB.tt ?_; conv => whnf
    repeat' first | ((with_reducible apply WB.tt); conv => whnf) | ((with_reducible apply WB.ff); conv => whnf) | (refine Rn.seq ?_; conv => whnf) | (refine Rn.reg ?_; conv => whnf) | (refine Rn.drw ?_; conv => whnf) | (refine Rn.blk ?_; conv => whnf) | (refine Rn.skip ?_; conv => whnf) | (refine Rn.ret ?_; conv => whnf) | (refine Rn.exit ?_; conv => whnf) | (refine Rn.cond rfl ?_; conv => whnf) | (refine And.intro (InR.i64 (by omega) (by omega)) ?_; conv => whnf) | (refine And.intro (show _ ≠ (0 : Int) by omega) ?_; conv => whnf) | (refine WIx.intsN (by omega) ?_; conv => whnf) | (refine WIx.rowsN (by omega) ?_; conv => whnf) | (refine WCall.pure (AW) ?_; conv => whnf)
    exact Fin.b rfl rfl
  | true =>
    rw [hR] at iR
    have hR' := hR
    unfold readyB at hR'
    rw [Bool.and_eq_true, decide_eq_true_iff] at hR'
    obtain ⟨hT, hf⟩ := hR'
    obtain ⟨V, hm, hA⟩ := fault_zero hf
    have h5 := V.ms5
    have h6 := V.lv6
    have h10 := V.h10
    have hpos := V.h1
    have hn := V.n
    have hs0 := V.s0
    have hs9 := V.s99
    have m0 := Int.tmod_nonneg 5 w4.1
    have m1 := Int.tmod_nonneg (last + 1) w2.1
    have m2 := Int.tmod_lt_of_pos one (show 0 < last + 1 by omega)
    have m3 := Int.tmod_nonneg (last + 1) w3.1
    have m4 := Int.tmod_lt_of_pos other (show 0 < last + 1 by omega)
    have hS2 : step ≤ min 99 (step + more.tmod 5) := by omega
    have hS9 : min 99 (step + more.tmod 5) ≤ 99 := by omega
    have m5 := Int.tmod_lt_of_pos more (show (0 : Int) < 5 by omega)
    have iT0 := c_Table last hs step lv ms (by omega) (by omega) (by omega)
    have iL0 := c_Leave last hs step lv ms
    repeat' first | ((with_reducible apply WB.tt); conv => whnf) | ((with_reducible apply WB.ff); conv => whnf) | (refine Rn.seq ?_; conv => whnf) | (refine Rn.reg ?_; conv => whnf) | (refine Rn.drw ?_; conv => whnf) | (refine Rn.blk ?_; conv => whnf) | (refine Rn.skip ?_; conv => whnf) | (refine Rn.ret ?_; conv => whnf) | (refine Rn.exit ?_; conv => whnf) | (refine Rn.cond rfl ?_; conv => whnf) | (refine And.intro (InR.i64 (by omega) (by omega)) ?_; conv => whnf) | (refine And.intro (show _ ≠ (0 : Int) by omega) ?_; conv => whnf) | (refine WIx.intsN (by omega) ?_; conv => whnf) | (refine WIx.rowsN (by omega) ?_; conv => whnf) | (refine WCall.pure (iR) ?_; conv => whnf) | ((with_reducible refine WB.decT (by first | with_reducible rfl | assumption | omega | exact ⟨rfl, rfl⟩) ?_); conv => whnf) | ((with_reducible refine WB.decF (by first | assumption | omega) ?_); conv => whnf) | ((with_reducible refine WB.ndT (by first | with_reducible rfl | assumption | omega | exact ⟨rfl, rfl⟩) ?_); conv => whnf) | ((with_reducible refine WB.ndF (by first | assumption | omega) ?_); conv => whnf) | ((with_reducible refine WB.nt ?_); conv => whnf) | ((with_reducible refine WB.nf ?_); conv => whnf) | ((with_reducible refine WB.dec (fun h => ?_) (fun h => ?_)) <;> conv => whnf) | ((with_reducible refine WB.ndec (fun h => ?_) (fun h => ?_)) <;> conv => whnf) | (refine WB.mk (fun h => ?_) (fun h => ?_) <;> conv => whnf) | (refine WB.ff ?_; conv => whnf)
    generalize min 99 (step + more.tmod 5) = S2 at *
    have hf2 := fault_step hf hS2 hS9
    obtain ⟨V2, _, _⟩ := fault_zero hf2
    have iTx := c_Table last hs S2 lv ms (by omega) (by omega) (by omega)
    have iLx := c_Leave last hs S2 lv ms
    rw [if_pos hf, hf] at iL0
    rw [if_pos hf2, hf2] at iLx
    have hless := lev_less hf hf2 rfl fun w _ => can_mono hS2 w
    have hnil := lev_nil hf
    have e1 := ints_length (levS hs step ms)
    have e2 := ints_length (levS hs S2 ms)
    cases hA1 : levS hs step ms with
    | cons a A =>
      rw [hA1] at iL0 e1 hless
      have iL0 : PureF Try.prog p46.ix [.ag [.i .i64 last, .lst 2 (rows rgD hs), .i .i64 step, .lst 1 (ints lv), .lst 4 (rows mkD ms)]] (.tp [.lst 1 (ints (a :: A)), .i .i64 0]) := iL0
      have e1' : (a :: A).length = A.length + 1 := rfl
      cases hB1 : levS hs S2 ms with
      | nil =>
        rw [hB1] at iLx
        have iLx : PureF Try.prog p46.ix [.ag [.i .i64 last, .lst 2 (rows rgD hs), .i .i64 S2, .lst 1 (ints lv), .lst 4 (rows mkD ms)]] (.tp [.ns, .i .i64 0]) := iLx
        have q0 : Int.ofNat 0 = 0 := rfl
        repeat' first | ((with_reducible apply WB.tt); conv => whnf) | ((with_reducible apply WB.ff); conv => whnf) | (refine Rn.seq ?_; conv => whnf) | (refine Rn.reg ?_; conv => whnf) | (refine Rn.drw ?_; conv => whnf) | (refine Rn.blk ?_; conv => whnf) | (refine Rn.skip ?_; conv => whnf) | (refine Rn.ret ?_; conv => whnf) | (refine Rn.exit ?_; conv => whnf) | (refine Rn.cond rfl ?_; conv => whnf) | (refine And.intro (InR.i64 (by omega) (by omega)) ?_; conv => whnf) | (refine And.intro (show _ ≠ (0 : Int) by omega) ?_; conv => whnf) | (refine WIx.intsN (by omega) ?_; conv => whnf) | (refine WIx.rowsN (by omega) ?_; conv => whnf) | (refine WCall.pure (iT0) ?_; conv => whnf) | (refine WCall.pure (iL0) ?_; conv => whnf) | (refine WCall.pure (iTx) ?_; conv => whnf) | (refine WCall.pure (iLx) ?_; conv => whnf) | (refine WCall.pure (AW) ?_; conv => whnf) | ((with_reducible refine WB.decT (by first | with_reducible rfl | assumption | omega | exact ⟨rfl, rfl⟩) ?_); conv => whnf) | ((with_reducible refine WB.decF (by first | assumption | omega) ?_); conv => whnf) | ((with_reducible refine WB.ndT (by first | with_reducible rfl | assumption | omega | exact ⟨rfl, rfl⟩) ?_); conv => whnf) | ((with_reducible refine WB.ndF (by first | assumption | omega) ?_); conv => whnf) | ((with_reducible refine WB.nt ?_); conv => whnf) | ((with_reducible refine WB.nf ?_); conv => whnf) | ((with_reducible refine WB.dec (fun h => ?_) (fun h => ?_)) <;> conv => whnf) | ((with_reducible refine WB.ndec (fun h => ?_) (fun h => ?_)) <;> conv => whnf) | (refine WB.mk (fun h => ?_) (fun h => ?_) <;> conv => whnf) | (refine WB.tt ?_; conv => whnf) | (refine WB.ff ?_; conv => whnf)
        all_goals first | exact Fin.b rfl rfl | (exfalso; omega) | exact absurd h (by decide)
      | cons b B =>
        rw [hB1] at iLx e2 hless
        have iLx : PureF Try.prog p46.ix [.ag [.i .i64 last, .lst 2 (rows rgD hs), .i .i64 S2, .lst 1 (ints lv), .lst 4 (rows mkD ms)]] (.tp [.lst 1 (ints (b :: B)), .i .i64 0]) := iLx
        repeat' first | ((with_reducible apply WB.tt); conv => whnf) | ((with_reducible apply WB.ff); conv => whnf) | (refine Rn.seq ?_; conv => whnf) | (refine Rn.reg ?_; conv => whnf) | (refine Rn.drw ?_; conv => whnf) | (refine Rn.blk ?_; conv => whnf) | (refine Rn.skip ?_; conv => whnf) | (refine Rn.ret ?_; conv => whnf) | (refine Rn.exit ?_; conv => whnf) | (refine Rn.cond rfl ?_; conv => whnf) | (refine And.intro (InR.i64 (by omega) (by omega)) ?_; conv => whnf) | (refine And.intro (show _ ≠ (0 : Int) by omega) ?_; conv => whnf) | (refine WIx.intsN (by omega) ?_; conv => whnf) | (refine WIx.rowsN (by omega) ?_; conv => whnf) | (refine WCall.pure (iT0) ?_; conv => whnf) | (refine WCall.pure (iL0) ?_; conv => whnf) | (refine WCall.pure (iTx) ?_; conv => whnf) | (refine WCall.pure (iLx) ?_; conv => whnf) | (refine WCall.pure (AW) ?_; conv => whnf) | ((with_reducible refine WB.decT (by first | with_reducible rfl | assumption | omega | exact ⟨rfl, rfl⟩) ?_); conv => whnf) | ((with_reducible refine WB.decF (by first | assumption | omega) ?_); conv => whnf) | ((with_reducible refine WB.ndT (by first | with_reducible rfl | assumption | omega | exact ⟨rfl, rfl⟩) ?_); conv => whnf) | ((with_reducible refine WB.ndF (by first | assumption | omega) ?_); conv => whnf) | ((with_reducible refine WB.nt ?_); conv => whnf) | ((with_reducible refine WB.nf ?_); conv => whnf) | ((with_reducible refine WB.dec (fun h => ?_) (fun h => ?_)) <;> conv => whnf) | ((with_reducible refine WB.ndec (fun h => ?_) (fun h => ?_)) <;> conv => whnf) | (refine WB.mk (fun h => ?_) (fun h => ?_) <;> conv => whnf) | (refine WB.tt ?_; conv => whnf) | (refine WB.ff ?_; conv => whnf)
        all_goals first | exact Fin.b rfl rfl | (exfalso; omega) | exact absurd h (by decide)
    | nil =>
      rw [hA1] at iL0 hless
      have hB1 : levS hs S2 ms = [] := List.length_eq_zero_iff.1 (Nat.le_zero.1 hless)
      rw [hB1] at iLx
      have hne := hnil.1 hA1
      have hsub := fun c (k : c ∈ truthS hs step ms) => truthS_mono V V2 hm hS2 k
      have hne2 : truthS hs S2 ms ≠ [] := fun e => by
        obtain ⟨c, hc⟩ := List.exists_mem_of_ne_nil _ hne
        have := hsub c hc
        rw [e] at this
        cases this
      have iL0 : PureF Try.prog p46.ix [.ag [.i .i64 last, .lst 2 (rows rgD hs), .i .i64 step, .lst 1 (ints lv), .lst 4 (rows mkD ms)]] (.tp [.ns, .i .i64 0]) := iL0
      have iLx : PureF Try.prog p46.ix [.ag [.i .i64 last, .lst 2 (rows rgD hs), .i .i64 S2, .lst 1 (ints lv), .lst 4 (rows mkD ms)]] (.tp [.ns, .i .i64 0]) := iLx
      have h150 := thin_many hT hf
      have iB0 := c_Bounds last hs step lv ms fun _ => Nat.le_trans (List.length_filter_le _ _) (Nat.le_trans (exS_150 V.hv h150 step) (by omega))
      have iBx := c_Bounds last hs S2 lv ms fun _ => Nat.le_trans (List.length_filter_le _ _) (Nat.le_trans (exS_150 V.hv h150 S2) (by omega))
      have hE0 : bndE last hs step lv ms = 0 := by unfold bndE startE; rw [if_pos hf, cond_true, if_neg hne]
      have hEx : bndE last hs S2 lv ms = 0 := by unfold bndE startE; rw [if_pos hf2, cond_true, if_neg hne2]
      have hB0 : bndL last hs step lv ms = bdsR (truthS hs step ms) hs.length := by unfold bndL; rw [if_pos hE0]
      have hBx : bndL last hs S2 lv ms = bdsR (truthS hs S2 ms) hs.length := by unfold bndL; rw [if_pos hEx]
      have hIn := ins_sub hne hsub hs.length
      have iIn := c_inside (bdsR (truthS hs step ms) hs.length) (bdsR (truthS hs S2 ms) hs.length) (by rw [bdsR_len]; omega)
      rw [hIn] at iIn
      rw [hE0, hB0] at iB0
      rw [hEx, hBx] at iBx
      have hat := fun (j : Nat) (h : j < hs.length) => bdsR_at (truthS hs step ms) h
      have hbl := bdsR_len (truthS hs step ms) hs.length
      have hrl := rows_length rgD (bdsR (truthS hs step ms) hs.length)
      have iTr := c_Truths last hs step lv ms V.hv (by omega) (fun m hm => by have := V.vt m hm; omega) (by omega)
      have hTr : 0 < (truthsR hs step ms).length := by
        cases hL : truthsR hs step ms with
        | nil => exact absurd ((truth_nil V hm).2 hL) hne
        | cons a s => simp
      have hrt := rows_length tD (truthsR hs step ms)
      have m6 := Int.tmod_nonneg ((rows tD (truthsR hs step ms)).length : Int) w1.1
      have m7 := Int.tmod_lt_of_pos which (show (0 : Int) < ((rows tD (truthsR hs step ms)).length : Int) by omega)
      obtain ⟨z, hz2⟩ := Int.eq_ofNat_of_zero_le m1
      obtain ⟨k, hk2⟩ := Int.eq_ofNat_of_zero_le m3
      obtain ⟨q, hq2⟩ := Int.eq_ofNat_of_zero_le m6
      have hzl : z < hs.length := by omega
      have hkl : k < hs.length := by omega
      have hql : q < (truthsR hs step ms).length := by omega
      have hmem : (truthsR hs step ms).getD q default ∈ truthsR hs step ms := getD_mem hql
      obtain ⟨t1, t2, t3, _⟩ := truth_at V hm hmem
      have t5 := (truth_at V2 hm (truths_mono hS2 hmem)).2.2.2
      have hfar := near_far t2 (i := z) (k := k) (by omega) (by omega)
      have hz9 : max ((z : Int) - (k : Int)) ((k : Int) - (z : Int)) ≤ 9 := by omega
      have hz0 : 0 ≤ max ((z : Int) - (k : Int)) ((k : Int) - (z : Int)) := by omega
      have hf0 : 0 ≤ step * max ((z : Int) - (k : Int)) ((k : Int) - (z : Int)) := Int.mul_nonneg hs0 hz0
      have hf9 : step * max ((z : Int) - (k : Int)) ((k : Int) - (z : Int)) ≤ 99 * 9 := Int.mul_le_mul hs9 hz9 hz0 (by omega)
      have hfar2 : (bdG (truthS hs step ms) z).hi - (bdG (truthS hs step ms) k).hi ≤ step * max ((z : Int) - (k : Int)) ((k : Int) - (z : Int)) ∧ (bdG (truthS hs step ms) k).lo - (bdG (truthS hs step ms) z).lo ≤ step * max ((z : Int) - (k : Int)) ((k : Int) - (z : Int)) := by
        obtain ⟨⟨c, k1, k2⟩, ⟨d, k3, k4⟩⟩ := bdG_at hne z
        obtain ⟨tc, j1, j2⟩ := (mem_truthS V hm).1 k1
        obtain ⟨td, j3, j4⟩ := (mem_truthS V hm).1 k3
        have i1 := bdG_in k1 k
        have i2 := bdG_in k3 k
        obtain ⟨u1, u2, _⟩ := truth_at V hm j1
        obtain ⟨v1, v2, _⟩ := truth_at V hm j3
        have f1 := near_far u2 (i := z) (k := k) (by omega) (by omega)
        have f2 := near_far v2 (i := z) (k := k) (by omega) (by omega)
        have c1 : c z = tc.getD z 0 := by rw [← j2]; rfl
        have c2 : c k = tc.getD k 0 := by rw [← j2]; rfl
        have d1 : d z = td.getD z 0 := by rw [← j4]; rfl
        have d2 : d k = td.getD k 0 := by rw [← j4]; rfl
        omega
      have hb9 : ∀ j, j < hs.length → (0 ≤ (bdG (truthS hs step ms) j).lo ∧ (bdG (truthS hs step ms) j).lo ≤ 99) ∧ 0 ≤ (bdG (truthS hs step ms) j).hi ∧ (bdG (truthS hs step ms) j).hi ≤ 99 := fun j hj => by
        obtain ⟨⟨c, k1, k2⟩, ⟨d, k3, k4⟩⟩ := bdG_at hne j
        obtain ⟨tc, j1, j2⟩ := (mem_truthS V hm).1 k1
        obtain ⟨td, j3, j4⟩ := (mem_truthS V hm).1 k3
        have u := (truth_at V hm j1).2.2.1.at j
        have v := (truth_at V hm j3).2.2.1.at j
        have c1 : c j = tc.getD j 0 := by rw [← j2]; rfl
        have d1 : d j = td.getD j 0 := by rw [← j4]; rfl
        omega
      have hbz := hb9 z hzl
      have hbk := hb9 k hkl
      rw [← hat z hzl] at hbz hfar2
      rw [← hat k hkl] at hbk hfar2
      have hsz := t3.at z
      have hsk := t3.at k
      have iPr := c_ProveTruth last hs S2 lv ms ((truthsR hs step ms).getD q default) fun i => wf_small (by have := t3.at i; omega) (by have := t3.at i; omega)
      rw [show proveR last hs S2 lv ms ((truthsR hs step ms).getD q default) = true by unfold proveR; rw [decide_eq_true hf2, t5]; rfl] at iPr
      have iLi := c_list ((truthsR hs step ms).getD q default) (by omega)
      have e4 := ints_length ((truthsR hs step ms).getD q default)
      have q0 : Int.ofNat 0 = 0 := rfl
      clear hIn hsub hb9 hat hless hnil hE0 hEx hB0 hBx hne hne2
      generalize bdsR (truthS hs step ms) hs.length = bl at *
      generalize bdsR (truthS hs S2 ms) hs.length = bx at *
      repeat' first | ((with_reducible apply WB.tt); conv => whnf) | ((with_reducible apply WB.ff); conv => whnf) | (refine Rn.seq ?_; conv => whnf) | (refine Rn.reg ?_; conv => whnf) | (refine Rn.drw ?_; conv => whnf) | (refine Rn.blk ?_; conv => whnf) | (refine Rn.skip ?_; conv => whnf) | (refine Rn.ret ?_; conv => whnf) | (refine Rn.exit ?_; conv => whnf) | (refine Rn.cond rfl ?_; conv => whnf) | (refine And.intro (InR.i64 (by omega) (by omega)) ?_; conv => whnf) | (refine And.intro (show _ ≠ (0 : Int) by omega) ?_; conv => whnf) | (refine WIx.intsN (by omega) ?_; conv => whnf) | (refine WIx.rowsN (by omega) ?_; conv => whnf) | (refine WCall.pure (iT0) ?_; conv => whnf) | (refine WCall.pure (iL0) ?_; conv => whnf) | (refine WCall.pure (iTx) ?_; conv => whnf) | (refine WCall.pure (iLx) ?_; conv => whnf) | (refine WCall.pure (iB0) ?_; conv => whnf) | (refine WCall.pure (iBx) ?_; conv => whnf) | (refine WCall.pure (iIn) ?_; conv => whnf) | (refine WCall.pure (iTr) ?_; conv => whnf) | ((with_reducible refine WB.decT (by first | with_reducible rfl | assumption | omega | exact ⟨rfl, rfl⟩) ?_); conv => whnf) | ((with_reducible refine WB.decF (by first | assumption | omega) ?_); conv => whnf) | ((with_reducible refine WB.ndT (by first | with_reducible rfl | assumption | omega | exact ⟨rfl, rfl⟩) ?_); conv => whnf) | ((with_reducible refine WB.ndF (by first | assumption | omega) ?_); conv => whnf) | ((with_reducible refine WB.nt ?_); conv => whnf) | ((with_reducible refine WB.nf ?_); conv => whnf) | ((with_reducible refine WB.dec (fun h => ?_) (fun h => ?_)) <;> conv => whnf) | ((with_reducible refine WB.ndec (fun h => ?_) (fun h => ?_)) <;> conv => whnf) | (refine WB.mk (fun h => ?_) (fun h => ?_) <;> conv => whnf) | (refine WB.tt ?_; conv => whnf) | (refine WB.ff ?_; conv => whnf) | (rw [hz2]; conv => whnf) | (rw [hk2]; conv => whnf)
      rw [hq2]
      refine WIx.rowsN hql ?_; conv => whnf
      generalize (truthsR hs step ms).getD q default = s at *
      repeat' first | ((with_reducible apply WB.tt); conv => whnf) | ((with_reducible apply WB.ff); conv => whnf) | (refine Rn.seq ?_; conv => whnf) | (refine Rn.reg ?_; conv => whnf) | (refine Rn.drw ?_; conv => whnf) | (refine Rn.blk ?_; conv => whnf) | (refine Rn.skip ?_; conv => whnf) | (refine Rn.ret ?_; conv => whnf) | (refine Rn.exit ?_; conv => whnf) | (refine Rn.cond rfl ?_; conv => whnf) | (refine And.intro (InR.i64 (by omega) (by omega)) ?_; conv => whnf) | (refine And.intro (show _ ≠ (0 : Int) by omega) ?_; conv => whnf) | (refine WIx.intsN (by omega) ?_; conv => whnf) | (refine WIx.rowsN (by omega) ?_; conv => whnf) | (refine WCall.pure (iTx) ?_; conv => whnf) | (refine WCall.pure (iPr) ?_; conv => whnf) | (refine WCall.pure (iLi) ?_; conv => whnf) | (refine WCall.pure (AW) ?_; conv => whnf) | ((with_reducible refine WB.decT (by first | with_reducible rfl | assumption | omega | exact ⟨rfl, rfl⟩) ?_); conv => whnf) | ((with_reducible refine WB.decF (by first | assumption | omega) ?_); conv => whnf) | ((with_reducible refine WB.ndT (by first | with_reducible rfl | assumption | omega | exact ⟨rfl, rfl⟩) ?_); conv => whnf) | ((with_reducible refine WB.ndF (by first | assumption | omega) ?_); conv => whnf) | ((with_reducible refine WB.nt ?_); conv => whnf) | ((with_reducible refine WB.nf ?_); conv => whnf) | ((with_reducible refine WB.dec (fun h => ?_) (fun h => ?_)) <;> conv => whnf) | ((with_reducible refine WB.ndec (fun h => ?_) (fun h => ?_)) <;> conv => whnf) | (refine WB.mk (fun h => ?_) (fun h => ?_) <;> conv => whnf) | (refine WB.tt ?_; conv => whnf) | (refine WB.ff ?_; conv => whnf)
      all_goals first | exact Fin.b rfl rfl | (exfalso; omega) | exact absurd h (by decide)
theorem main_tideStep (AW : PureF Try.prog p21.ix [] (.b true)) {es : List D} (fit : FitP [(true, [.i .i64, .sl [.i .i64, .i .i64], .i .i64, .sl [.i .i64], .sl [.i .i64, .i .i64, .i .i64, .i .i64]]), (false, [.i .u16]), (false, [.i .u8]), (false, [.i .u8]), (false, [.i .u8])] es) : PureF Try.prog 13 es (.b true) := by
  obtain ⟨last, hs, step, lv, ms, _, rfl, g1⟩ := fit.tab
  obtain ⟨w, _, rfl, w1, g2⟩ := g1.i
  obtain ⟨o, _, rfl, w2, g3⟩ := g2.i
  obtain ⟨t, _, rfl, w3, g4⟩ := g3.i
  obtain ⟨u, _, rfl, w4, g5⟩ := g4.i
  obtain rfl := g5.no
  exact c_TideStep last hs step lv ms w o t u (wf_u16 w1) (wf_u8 w2) (wf_u8 w3) (wf_u8 w4) AW
end Go.Ev

namespace Go.Proofs.Ytpemagogcagipaa.tideStep
open Go.ChangeShapes Go.WideShapes Go.ChangeAt Go.RowKit
open Go.ChangeMaps (open_string shut_string)
set_option linter.unusedVariables false

theorem laid : laidOutB Try.prog = true := by kernel_rfl
theorem own : ownKnob Try.prog.godebug = none := by kernel_rfl

/-! ### the walk -/
theorem walk {es : List Go.Ev.D} (fit : Go.Ev.FitP [(true, [.i .i64, .sl [.i .i64, .i .i64], .i .i64, .sl [.i .i64], .sl [.i .i64, .i .i64, .i .i64, .i .i64]]), (false, [.i .u16]), (false, [.i .u8]), (false, [.i .u8]), (false, [.i .u8])] es) {args : Array Value} {W : World} (ha : Go.Ev.DVL (Go.Ev.γH W) W es args.toList) :
    Calls Try.prog 13 args W fun e w' => e = .returned (.bool true) ∧ Grown W w' ∧ Below W.heap.size W w' :=
  Go.Ev.PureF.calls (Go.Ev.main_tideStep (fun ob nx lg => Go.Ev.closed_call Go.Ev.fp_ok Go.Ev.aw ob nx lg) fit) ha

set_option maxRecDepth 100000 in
theorem lifted (os : Os) (started : os.Started) (H : Type) (enc : TypeId × Value → H) :
    ReturnsInHanded {} Try.checked os 13 .any (Rows.tideStepSpec.pre6 enc Try.prog Try.f13 Rows.tideStepRow.domain false) (Rows.tideStepSpec.post enc Try.prog Try.f13 false true false false) := by
  refine returnsInHanded_of_change (C := Try.checked) own started (by kernel_rfl) Try.func13
    (ChangeSpec.witness6 (enc := enc) (C := Try.checked) false ⟨#[], #[.agg #[.int .i64 0, .slice none 0 0, .int .i64 0, .slice none 0 0, .slice none 0 0], .int .u16 0, .int .u8 0, .int .u8 0, .int .u8 0], []⟩ 8 (by kernel_rfl) (by kernel_rfl) (by kernel_rfl) (by kernel_rfl)) ?_
  intro W base args ds gs before hval0 hW hcnd _
  have hval : ∀ (j : Nat) t v, Try.f13.params[j]? = some t → args[j]? = some v → Value.okWide Try.prog W .any base t v := hval0
  have hW' := hW
  obtain ⟨p, q, hA0, hV, rfl, hfz, hnd⟩ := hW
  have hA : DataW.TrodAll enc Try.prog W 0 (fun _ => true) true Try.f13.params.toList args.toList ds p := hA0
  rw [Try.params13] at hA hval
  obtain ⟨rfl, rfl⟩ := trodVars_none hV
  obtain ⟨d0, d1, d2, d3, d4, rfl⟩ := Go.Ev.len5 (Go.Ev.trod_len hA)
  clear hA0 hval0
  simp only [List.append_nil] at hW'
  obtain ⟨es, fit, dv⟩ := Go.Ev.open_all (n := 6) (pars := [(true, [.i .i64, .sl [.i .i64, .i .i64], .i .i64, .sl [.i .i64], .sl [.i .i64, .i .i64, .i .i64, .i .i64]]), (false, [.i .u16]), (false, [.i .u8]), (false, [.i .u8]), (false, [.i .u8])]) (by kernel_rfl) hA (fun j t v h1 h2 => hval j t v (by simpa using h1) (by simpa using h2))
  have hlt : ∀ x ∈ p, x.block < W.heap.size := fun x hx => by simpa using hW'.lt x hx
  refine (walk fit dv).mono fun e W' ⟨he, hg, hb⟩ => ?_
  subst he
  exact ⟨_, rfl, post_of_same (pa := p) (pv := []) hW' (fun _ _ _ => (trodAll_cons_mk (shut_bool Try.underlying4 _) trodAll_mk0))
    (fun sp hs => Go.Ev.stays_all laid (Go.Ev.of_allT (by kernel_rfl)) hA (fun x hx => hb.same (hlt x hx)) (fun x hx => hs x hx))
    (fun _ _ => rfl) (List.append_nil _).symm
    (hg.frame _) hg.2.1 (ok_one (by kernel_rfl) rfl (okWide_bool_mk Try.underlying4 _))⟩

theorem over : Rows.tideStepRow.holds Try.pinned (OpenSpec.ofChange Rows.tideStepSpec) :=
  OpenClaim.holds_of_wide 13 Try.f13 rfl rfl rfl rfl rfl rfl rfl ⟨rfl, rfl, rfl, rfl, rfl⟩ rfl rfl rfl rfl rfl (by kernel_rfl) Try.func13 (by kernel_rfl)
    (of_decide_eq_true (by kernel_rfl)) (by unfold Func.isWrapper; first | (rw [if_pos (by decide +kernel)]; kernel_rfl) | (rw [if_neg (by decide +kernel)]; exact ⟨rfl, rfl⟩))
    (fun os started H enc _ => lifted os started H enc)

/-- ████ THE STATEMENT ████ -/
theorem proved : Rows.TideStepSaid :=
  over
#print axioms proved
end Go.Proofs.Ytpemagogcagipaa.tideStep
