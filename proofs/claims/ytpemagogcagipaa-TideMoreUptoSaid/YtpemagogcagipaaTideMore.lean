/-
  TideMore: the law answers true for every table, mark and numbers whose bulk is at most 1048576; the only other conditions are those of the row itself.
-/
import Derived.Test.YtpemagogcagipaaRows
import Derived.WalkKit
import Derived.ProofKit
import Derived.OpenShut
import Derived.JoinedCond
import Derived.Test.YtpemagogcagipaaEvFt
import Derived.Test.YtpemagogcagipaaEvSy
import Derived.ShutString
import Derived.Test.YtpemagogcagipaaEvQG
import Derived.Test.YtpemagogcagipaaEvMN
import Derived.Test.YtpemagogcagipaaEvMH
set_option linter.all false
namespace Go.Ev
open Go.Proofs
set_option maxRecDepth 1000000
noncomputable def rc14 : RC := (.seq (.reg [(.u (.box p5 (.t p1))), (.u (.box p6 (.t p2))), (.u (.mv p9 (.k (.b false))))]) (.seq (.reg [(.u (.ldn p29 (.t p5) 5)), (.u (.new p10 [(.i .i64 0), .ns, (.i .i64 0), .ns, .ns])), (.u (.st (.t p10) (.t p29) 5))]) (.seq (.drw [(.u (.bsl p30 4 0 [] [])), (.u (.fad p31 (.t p5) 4)), (.u (.ld1 p32 (.t p31))), (.u (.app p33 4 (.t p30) (.t p32))), (.u (.ldn p34 (.t p6) 4)), (.u (.bsl p35 4 1 [(.i .i64 0), (.i .i64 0), (.i .i64 0), (.i .i64 0)] [(0, (4, (.t p34)))])), (.u (.app p36 4 (.t p33) (.t p35))), (.u (.fad p37 (.t p10) 4)), (.u (.st (.t p37) (.t p36) 1))] [0, 0, 2, 7, 0, 16, 63, 127, 255]) (.seq (.seq (.reg [(.u (.ldn p38 (.t p5) 5)), (.u (.cf (some p39) p52 [(.t p38)])), (.u (.un p40 .not (.t p39))), (.u (.mv p41 (.t p40))), (.g p41 false (some p42) (.ldn p42 (.t p10) 5)), (.g p41 false (some p43) (.cf (some p43) p52 [(.t p42)])), (.g p41 false (some p44) (.un p44 .not (.t p43))), (.u (.pick p45 (.t p41) (.k (.b true)) (.t p44)))]) (.cond (.t p45) (.seq (.reg [(.u (.cf (some p46) p21 [])), (.u (.mv p9 (.t p46)))]) .ret) .skip)) (.seq (.reg [(.u (.ldn p48 (.t p5) 5)), (.u (.cf (some p49) p23 [(.t p48)])), (.u (.cf (some p50) p46 [(.t p49)])), (.u (.mv p47 (.t p50))), (.u (.ext p51 (.t p47) 0)), (.u (.ext p52 (.t p47) 1)), (.u (.mv p11 (.t p51))), (.u (.mv p12 (.t p52)))]) (.seq (.reg [(.u (.ldn p54 (.t p10) 5)), (.u (.cf (some p55) p23 [(.t p54)])), (.u (.cf (some p56) p46 [(.t p55)])), (.u (.mv p53 (.t p56))), (.u (.ext p57 (.t p53) 0)), (.u (.ext p58 (.t p53) 1)), (.u (.mv p13 (.t p57))), (.u (.mv p14 (.t p58)))]) (.seq (.seq (.reg [(.u (.mv p59 (.t p12))), (.u (.bin p60 .neq (.t p59) (.k (.i .i64 0)))), (.u (.mv p61 (.t p60))), (.g p61 false (some p62) (.mv p62 (.t p14))), (.g p61 false (some p63) (.bin p63 .neq (.t p62) (.k (.i .i64 0)))), (.u (.pick p64 (.t p61) (.k (.b true)) (.t p63))), (.u (.mv p65 (.t p64))), (.g p65 false (some p66) (.mv p66 (.t p13))), (.g p65 false (some p67) (.len p67 (.t p66))), (.g p65 false (some p68) (.mv p68 (.t p11))), (.g p65 false (some p69) (.len p69 (.t p68))), (.g p65 false (some p70) (.bin p70 .lss (.t p67) (.t p69))), (.u (.pick p71 (.t p65) (.k (.b true)) (.t p70))), (.u (.mv p72 (.t p71))), (.g p72 false (some p73) (.mv p73 (.t p13))), (.g p72 false (some p74) (.len p74 (.t p73))), (.g p72 false (some p75) (.mv p75 (.t p11))), (.g p72 false (some p76) (.len p76 (.t p75))), (.g p72 false (some p77) (.bin p77 .add (.t p76) (.k (.i .i64 1)))), (.g p72 false (some p78) (.bin p78 .gtr (.t p74) (.t p77))), (.u (.pick p79 (.t p72) (.k (.b true)) (.t p78)))]) (.cond (.t p79) (.seq (.reg [(.u (.mv p9 (.k (.b false))))]) .ret) .skip)) (.seq (.seq (.reg [(.u (.mv p80 (.t p13))), (.u (.len p81 (.t p80))), (.u (.bin p82 .gtr (.t p81) (.k (.i .i64 0))))]) (.cond (.t p82) (.seq (.reg [(.u (.cf (some p83) p21 [])), (.u (.mv p9 (.t p83)))]) .ret) .skip)) (.seq (.reg [(.u (.ldn p85 (.t p5) 5)), (.u (.cf (some p86) p23 [(.t p85)])), (.u (.cf (some p87) p32 [(.t p86)])), (.u (.mv p84 (.t p87))), (.u (.ext p88 (.t p84) 0)), (.u (.ext p89 (.t p84) 1)), (.u (.mv p15 (.t p88))), (.u (.mv p16 (.t p89)))]) (.seq (.reg [(.u (.ldn p91 (.t p10) 5)), (.u (.cf (some p92) p23 [(.t p91)])), (.u (.cf (some p93) p32 [(.t p92)])), (.u (.mv p90 (.t p93))), (.u (.ext p94 (.t p90) 0)), (.u (.ext p95 (.t p90) 1)), (.u (.mv p17 (.t p94))), (.u (.mv p18 (.t p95)))]) (.seq (.drw [(.u (.ldn p97 (.t p5) 5)), (.u (.cf (some p98) p23 [(.t p97)])), (.u (.fad p99 (.t p5) 0)), (.u (.ld1 p100 (.t p99))), (.u (.cf (some p101) p41 [(.t p98), (.k (.i .i64 0)), (.t p100)])), (.u (.mv p96 (.t p101))), (.u (.ext p102 (.t p96) 0)), (.u (.ext p103 (.t p96) 1)), (.u (.mv p19 (.t p102))), (.u (.mv p20 (.t p103)))] [0, 1, 0, 4, 15, 31, 63, 63, 127, 511]) (.seq (.drw [(.u (.ldn p105 (.t p10) 5)), (.u (.cf (some p106) p23 [(.t p105)])), (.u (.fad p107 (.t p5) 0)), (.u (.ld1 p108 (.t p107))), (.u (.cf (some p109) p41 [(.t p106), (.k (.i .i64 0)), (.t p108)])), (.u (.mv p104 (.t p109))), (.u (.ext p110 (.t p104) 0)), (.u (.ext p111 (.t p104) 1)), (.u (.mv p21 (.t p110))), (.u (.mv p22 (.t p111)))] [0, 1, 0, 4, 15, 31, 63, 63, 127, 511]) (.seq (.seq (.reg [(.u (.mv p112 (.t p16))), (.u (.bin p113 .neq (.t p112) (.k (.i .i64 0)))), (.u (.mv p114 (.t p113))), (.g p114 false (some p115) (.mv p115 (.t p18))), (.g p114 false (some p116) (.bin p116 .neq (.t p115) (.k (.i .i64 0)))), (.u (.pick p117 (.t p114) (.k (.b true)) (.t p116))), (.u (.mv p118 (.t p117))), (.g p118 false (some p119) (.mv p119 (.t p17))), (.g p118 false (some p120) (.mv p120 (.t p15))), (.g p118 false (some p121) (.cf (some p121) p58 [(.t p119), (.t p120)])), (.g p118 false (some p122) (.un p122 .not (.t p121))), (.u (.pick p123 (.t p118) (.k (.b true)) (.t p122))), (.u (.mv p124 (.t p123))), (.g p124 false (some p125) (.mv p125 (.t p20))), (.g p124 false (some p126) (.bin p126 .neq (.t p125) (.k (.i .i64 0)))), (.u (.pick p127 (.t p124) (.k (.b true)) (.t p126))), (.u (.mv p128 (.t p127))), (.g p128 false (some p129) (.mv p129 (.t p22))), (.g p128 false (some p130) (.bin p130 .neq (.t p129) (.k (.i .i64 0)))), (.u (.pick p131 (.t p128) (.k (.b true)) (.t p130))), (.u (.mv p132 (.t p131))), (.g p132 false (some p133) (.mv p133 (.t p21))), (.g p132 false (some p134) (.mv p134 (.t p19))), (.g p132 false (some p135) (.bin p135 .gtr (.t p133) (.t p134))), (.u (.pick p136 (.t p132) (.k (.b true)) (.t p135)))]) (.cond (.t p136) (.seq (.reg [(.u (.mv p9 (.k (.b false))))]) .ret) .skip)) (.seq (.seq (.reg [(.u (.fad p137 (.t p5) 3)), (.u (.ld1 p138 (.t p137))), (.u (.len p139 (.t p138))), (.u (.bin p140 .eql (.t p139) (.k (.i .i64 0))))]) (.cond (.t p140) (.seq (.reg [(.u (.cf (some p141) p21 [])), (.u (.mv p9 (.t p141)))]) .ret) .skip)) (.seq (.drw [(.u (.mv p142 (.t p3))), (.u (.cvi p143 .i64 (.t p142))), (.u (.fad p144 (.t p5) 3)), (.u (.ld1 p145 (.t p144))), (.u (.len p146 (.t p145))), (.u (.bin p147 .rem (.t p143) (.t p146))), (.u (.mv p148 (.t p4))), (.u (.cvi p149 .i64 (.t p148))), (.u (.fad p150 (.t p5) 0)), (.u (.ld1 p151 (.t p150))), (.u (.bin p152 .add (.t p151) (.k (.i .i64 1)))), (.u (.bin p153 .rem (.t p149) (.t p152))), (.u (.mv p23 (.t p147))), (.u (.mv p24 (.t p153)))] [0, 1, 0, 4, 12, 31, 0, 64, 0, 256, 768, 1984, 63, 8191]) (.seq (.reg [(.u (.ldn p155 (.t p5) 5)), (.u (.cf (some p156) p23 [(.t p155)])), (.u (.mv p157 (.t p23))), (.u (.mv p158 (.t p24))), (.u (.cf (some p159) p33 [(.t p156), (.t p157), (.t p158)])), (.u (.mv p154 (.t p159))), (.u (.ext p160 (.t p154) 0)), (.u (.ext p161 (.t p154) 1)), (.u (.mv p25 (.t p160))), (.u (.mv p26 (.t p161)))]) (.seq (.reg [(.u (.ldn p163 (.t p10) 5)), (.u (.cf (some p164) p23 [(.t p163)])), (.u (.mv p165 (.t p23))), (.u (.mv p166 (.t p24))), (.u (.cf (some p167) p33 [(.t p164), (.t p165), (.t p166)])), (.u (.mv p162 (.t p167))), (.u (.ext p168 (.t p162) 0)), (.u (.ext p169 (.t p162) 1)), (.u (.mv p27 (.t p168))), (.u (.mv p28 (.t p169)))]) (.seq (.reg [(.u (.mv p170 (.t p26))), (.u (.bin p171 .eql (.t p170) (.k (.i .i64 0)))), (.u (.mv p172 (.t p171))), (.g p172 true (some p173) (.mv p173 (.t p28))), (.g p172 true (some p174) (.bin p174 .eql (.t p173) (.k (.i .i64 0)))), (.u (.pick p175 (.t p172) (.t p174) (.k (.b false)))), (.u (.mv p176 (.t p175))), (.g p176 true (some p177) (.mv p177 (.t p25))), (.g p176 true (some p178) (.bin p178 .eql (.t p177) (.k (.i .i64 3)))), (.g p176 true (some p179) (.mv p179 (.t p178))), (.g p179 false (some p180) (.mv p180 (.t p25))), (.g p179 false (some p181) (.mv p181 (.t p27))), (.g p179 false (some p182) (.bin p182 .eql (.t p180) (.t p181))), (.g p176 true (some p183) (.pick p183 (.t p179) (.k (.b true)) (.t p182))), (.u (.pick p184 (.t p176) (.t p183) (.k (.b false)))), (.u (.mv p185 (.t p184))), (.g p185 true (some p186) (.cf (some p186) p21 [])), (.u (.pick p187 (.t p185) (.t p186) (.k (.b false)))), (.u (.mv p9 (.t p187)))]) .ret))))))))))))))))))
def rs14 : List RR := [(.t p9)]
theorem fn14 : FnOk Try.prog p15.ix 187 rc14 rs14 := ⟨Try.f14, bodyC Try.f14, Try.func14, by kernel_rfl, by kernel_rfl, by kernel_rfl, by kernel_rfl, by kernel_rfl⟩
end Go.Ev
namespace Go.Ev
open Go.Proofs
set_option maxRecDepth 100000
/-! ### TideMore -/
def moZ (last : Int) (hs : List Rg) (step : Int) (lv : List Int) (ms : List Mk) (x : Mk) (row hour : Int) : X := ⟨(.n (.n (.n .e (some (.i .u8 hour)) .e) none (.n (.n .e (some (.pt (.i .h) 0 0)) .e) none .e)) none (.n (.n .e (some (.pt .h 0 0)) .e) (some (.i .u8 row)) .e)), (.n .e (some (tabC last hs step lv ms)) (.n .e (some (tabC last hs step lv (ms ++ [x]))) .e)), .o (.o .h), none⟩
theorem mkF_four (ms : List Mk) : (rows mkD ms).flatten.length = ms.length * 4 := by
  induction ms with
  | nil => rfl
  | cons a l ih => simp [rows, mkD] at ih ⊢; omega
def seqR : RC → RC
  | .seq _ b => b
  | c => c
noncomputable def rc14R : RC := seqR (seqR (seqR rc14))
set_option maxHeartbeats 8000000 in
theorem c_TideMoreR (last : Int) (hs : List Rg) (step : Int) (lv : List Int) (ms : List Mk) (x : Mk) (row hour : Int) (hml : ms.length ≤ 1048576) (w1 : 0 ≤ row ∧ row ≤ 255) (w2 : 0 ≤ hour ∧ hour ≤ 255) (AW : PureF Try.prog p21.ix [] (.b true)) : Rn Try.prog 187 rc14R (moZ last hs step lv ms x row hour) (Fin rs14 (.b true)) := by
  have e3 := rows_length mkD ms
  have e2 := ints_length lv
  have iR := c_ready last hs step lv ms
  have iRx := c_ready last hs step lv (ms ++ [x])
  conv => whnf
  cases hR : readyB last hs step lv ms with
  | false =>
    rw [hR] at iR
    repeat' first | ((first | with_reducible apply WB.tt | with_reducible apply WB.ff | refine Rn.seq ?_ | refine Rn.reg ?_ | refine Rn.drw ?_ | refine Rn.blk ?_ | refine Rn.skip ?_ | refine Rn.ret ?_ | refine Rn.exit ?_ | refine Rn.cond rfl ?_ | refine And.intro (InR.i64 (by omega) (by omega)) ?_ | refine And.intro (show _ ≠ (0 : Int) by omega) ?_ | refine WIx.intsN (by omega) ?_ | refine WIx.rowsN (by omega) ?_ | refine WCall.pure (iR) ?_ | refine WCall.pure (AW) ?_ | with_reducible refine WB.decT (by first | with_reducible rfl | assumption | omega | exact ⟨rfl, rfl⟩) ?_ | with_reducible refine WB.decF (by first | assumption | omega) ?_ | with_reducible refine WB.ndT (by first | with_reducible rfl | assumption | omega | exact ⟨rfl, rfl⟩) ?_ | with_reducible refine WB.ndF (by first | assumption | omega) ?_ | with_reducible refine WB.nt ?_ | with_reducible refine WB.nf ?_ | with_reducible refine WB.dec (fun h => ?_) (fun h => ?_) | with_reducible refine WB.ndec (fun h => ?_) (fun h => ?_) | refine WB.mk (fun h => ?_) (fun h => ?_)) <;> conv => whnf) | (refine WB.tt ?_; conv => whnf) | (refine WB.ff ?_; conv => whnf)
    all_goals first | exact Fin.b rfl rfl | (exfalso; omega) | exact absurd h (by decide)
  | true =>
  cases hRx : readyB last hs step lv (ms ++ [x]) with
  | false =>
    rw [hR] at iR
    rw [hRx] at iRx
    repeat' first | ((first | with_reducible apply WB.tt | with_reducible apply WB.ff | refine Rn.seq ?_ | refine Rn.reg ?_ | refine Rn.drw ?_ | refine Rn.blk ?_ | refine Rn.skip ?_ | refine Rn.ret ?_ | refine Rn.exit ?_ | refine Rn.cond rfl ?_ | refine And.intro (InR.i64 (by omega) (by omega)) ?_ | refine And.intro (show _ ≠ (0 : Int) by omega) ?_ | refine WIx.intsN (by omega) ?_ | refine WIx.rowsN (by omega) ?_ | refine WCall.pure (iR) ?_ | refine WCall.pure (iRx) ?_ | refine WCall.pure (AW) ?_ | with_reducible refine WB.decT (by first | with_reducible rfl | assumption | omega | exact ⟨rfl, rfl⟩) ?_ | with_reducible refine WB.decF (by first | assumption | omega) ?_ | with_reducible refine WB.ndT (by first | with_reducible rfl | assumption | omega | exact ⟨rfl, rfl⟩) ?_ | with_reducible refine WB.ndF (by first | assumption | omega) ?_ | with_reducible refine WB.nt ?_ | with_reducible refine WB.nf ?_ | with_reducible refine WB.dec (fun h => ?_) (fun h => ?_) | with_reducible refine WB.ndec (fun h => ?_) (fun h => ?_) | refine WB.mk (fun h => ?_) (fun h => ?_)) <;> conv => whnf) | (refine WB.tt ?_; conv => whnf) | (refine WB.ff ?_; conv => whnf)
    all_goals first | exact Fin.b rfl rfl | (exfalso; omega) | exact absurd h (by decide)
  | true =>
    rw [hR] at iR
    rw [hRx] at iRx
    have hR' := hR
    unfold readyB at hR'
    rw [Bool.and_eq_true, decide_eq_true_iff] at hR'
    obtain ⟨hT, hf⟩ := hR'
    have hRx' := hRx
    unfold readyB at hRx'
    rw [Bool.and_eq_true, decide_eq_true_iff] at hRx'
    obtain ⟨hTx, hfx⟩ := hRx'
    obtain ⟨V, hm, _⟩ := fault_zero hf
    obtain ⟨Vx, _, _⟩ := fault_zero hfx
    have h5 := V.ms5
    have h5x := Vx.ms5
    have h6 := V.lv6
    have h10 := V.h10
    have hpos := V.h1
    have hn := V.n
    have iT0 := c_Table last hs step lv ms (by omega) (by omega) (by omega)
    have iTx := c_Table last hs step lv (ms ++ [x]) (by omega) (by omega) (by omega)
    have iL0 := c_Leave last hs step lv ms
    have iLx := c_Leave last hs step lv (ms ++ [x])
    rw [if_pos hf, hf] at iL0
    rw [if_pos hfx, hfx] at iLx
    obtain ⟨hl1, hl2⟩ := lev_more hf hfx
    have hnil := lev_nil hfx
    have hb10 : (levS hs step ms).length ≤ 10 := levJ_len (allR hs step ms) ms.length (2 ^ ms.length)
    have e1 := ints_length (levS hs step ms)
    have e4 := ints_length (levS hs step (ms ++ [x]))
    have q0 : Int.ofNat 0 = 0 := rfl
    cases hB1 : levS hs step (ms ++ [x]) with
    | cons b B =>
      rw [hB1] at iLx e4 hl1 hl2
      have iLx : PureF Try.prog p46.ix [.ag [.i .i64 last, .lst 2 (rows rgD hs), .i .i64 step, .lst 1 (ints lv), .lst 4 (rows mkD (ms ++ [x]))]] (.tp [.lst 1 (ints (b :: B)), .i .i64 0]) := iLx
      have e4' : (b :: B).length = B.length + 1 := rfl
      cases hA1 : levS hs step ms with
      | nil =>
        rw [hA1] at iL0 hl1 hl2
        have iL0 : PureF Try.prog p46.ix [.ag [.i .i64 last, .lst 2 (rows rgD hs), .i .i64 step, .lst 1 (ints lv), .lst 4 (rows mkD ms)]] (.tp [.ns, .i .i64 0]) := iL0
        have hl2 : (b :: B).length ≤ 1 := hl2
        repeat' first | ((first | with_reducible apply WB.tt | with_reducible apply WB.ff | refine Rn.seq ?_ | refine Rn.reg ?_ | refine Rn.drw ?_ | refine Rn.blk ?_ | refine Rn.skip ?_ | refine Rn.ret ?_ | refine Rn.exit ?_ | refine Rn.cond rfl ?_ | refine And.intro (InR.i64 (by omega) (by omega)) ?_ | refine And.intro (show _ ≠ (0 : Int) by omega) ?_ | refine WIx.intsN (by omega) ?_ | refine WIx.rowsN (by omega) ?_ | refine WCall.pure (iR) ?_ | refine WCall.pure (iRx) ?_ | refine WCall.pure (iT0) ?_ | refine WCall.pure (iL0) ?_ | refine WCall.pure (iTx) ?_ | refine WCall.pure (iLx) ?_ | refine WCall.pure (AW) ?_ | with_reducible refine WB.decT (by first | with_reducible rfl | assumption | omega | exact ⟨rfl, rfl⟩) ?_ | with_reducible refine WB.decF (by first | assumption | omega) ?_ | with_reducible refine WB.ndT (by first | with_reducible rfl | assumption | omega | exact ⟨rfl, rfl⟩) ?_ | with_reducible refine WB.ndF (by first | assumption | omega) ?_ | with_reducible refine WB.nt ?_ | with_reducible refine WB.nf ?_ | with_reducible refine WB.dec (fun h => ?_) (fun h => ?_) | with_reducible refine WB.ndec (fun h => ?_) (fun h => ?_) | refine WB.mk (fun h => ?_) (fun h => ?_)) <;> conv => whnf) | (refine WB.tt ?_; conv => whnf) | (refine WB.ff ?_; conv => whnf)
        all_goals first | exact Fin.b rfl rfl | (exfalso; omega) | exact absurd h (by decide)
      | cons a A =>
        rw [hA1] at iL0 e1 hl1 hl2 hb10
        have iL0 : PureF Try.prog p46.ix [.ag [.i .i64 last, .lst 2 (rows rgD hs), .i .i64 step, .lst 1 (ints lv), .lst 4 (rows mkD ms)]] (.tp [.lst 1 (ints (a :: A)), .i .i64 0]) := iL0
        repeat' first | ((first | with_reducible apply WB.tt | with_reducible apply WB.ff | refine Rn.seq ?_ | refine Rn.reg ?_ | refine Rn.drw ?_ | refine Rn.blk ?_ | refine Rn.skip ?_ | refine Rn.ret ?_ | refine Rn.exit ?_ | refine Rn.cond rfl ?_ | refine And.intro (InR.i64 (by omega) (by omega)) ?_ | refine And.intro (show _ ≠ (0 : Int) by omega) ?_ | refine WIx.intsN (by omega) ?_ | refine WIx.rowsN (by omega) ?_ | refine WCall.pure (iR) ?_ | refine WCall.pure (iRx) ?_ | refine WCall.pure (iT0) ?_ | refine WCall.pure (iL0) ?_ | refine WCall.pure (iTx) ?_ | refine WCall.pure (iLx) ?_ | refine WCall.pure (AW) ?_ | with_reducible refine WB.decT (by first | with_reducible rfl | assumption | omega | exact ⟨rfl, rfl⟩) ?_ | with_reducible refine WB.decF (by first | assumption | omega) ?_ | with_reducible refine WB.ndT (by first | with_reducible rfl | assumption | omega | exact ⟨rfl, rfl⟩) ?_ | with_reducible refine WB.ndF (by first | assumption | omega) ?_ | with_reducible refine WB.nt ?_ | with_reducible refine WB.nf ?_ | with_reducible refine WB.dec (fun h => ?_) (fun h => ?_) | with_reducible refine WB.ndec (fun h => ?_) (fun h => ?_) | refine WB.mk (fun h => ?_) (fun h => ?_)) <;> conv => whnf) | (refine WB.tt ?_; conv => whnf) | (refine WB.ff ?_; conv => whnf)
        all_goals first | exact Fin.b rfl rfl | (exfalso; omega) | exact absurd h (by decide)
    | nil =>
      rw [hB1] at iLx hl1
      have hA1 : levS hs step ms = [] := List.length_eq_zero_iff.1 (Nat.le_zero.1 hl1)
      rw [hA1] at iL0
      have hnex := hnil.1 hB1
      have hne := (lev_nil hf).1 hA1
      have iL0 : PureF Try.prog p46.ix [.ag [.i .i64 last, .lst 2 (rows rgD hs), .i .i64 step, .lst 1 (ints lv), .lst 4 (rows mkD ms)]] (.tp [.ns, .i .i64 0]) := iL0
      have iLx : PureF Try.prog p46.ix [.ag [.i .i64 last, .lst 2 (rows rgD hs), .i .i64 step, .lst 1 (ints lv), .lst 4 (rows mkD (ms ++ [x]))]] (.tp [.ns, .i .i64 0]) := iLx
      have hTl : (truthS hs step ms).length ≤ 1000 := Nat.le_trans (List.length_filter_le _ _) (Nat.le_trans (thin_exS hT hf) (by omega))
      have hTlx : (truthS hs step (ms ++ [x])).length ≤ 1000 := Nat.le_trans (List.length_filter_le _ _) (Nat.le_trans (thin_exS hT hf) (by omega))
      have iB0 := c_Bounds last hs step lv ms fun _ => hTl
      have iBx := c_Bounds last hs step lv (ms ++ [x]) fun _ => hTlx
      have hE0 : bndE last hs step lv ms = 0 := by unfold bndE startE; rw [if_pos hf, cond_true, if_neg hne]
      have hEx : bndE last hs step lv (ms ++ [x]) = 0 := by unfold bndE startE; rw [if_pos hfx, cond_true, if_neg hnex]
      have hB0 : bndL last hs step lv ms = bdsR (truthS hs step ms) hs.length := by unfold bndL; rw [if_pos hE0]
      have hBx : bndL last hs step lv (ms ++ [x]) = bdsR (truthS hs step (ms ++ [x])) hs.length := by unfold bndL; rw [if_pos hEx]
      have iIn := c_inside (bdsR (truthS hs step (ms ++ [x])) hs.length) (bdsR (truthS hs step ms) hs.length) (by rw [bdsR_len]; omega)
      rw [ins_sub hnex (fun c h => truthS_snoc h) hs.length] at iIn
      rw [hE0, hB0] at iB0
      rw [hEx, hBx] at iBx
      have iD0 := c_Dry last hs step lv ms 0 last fun _ => hTl
      have iDx := c_Dry last hs step lv (ms ++ [x]) 0 last fun _ => hTlx
      have s1 : spanB last 0 last = true := by unfold spanB; rw [inB_iff.2 (by omega), inB_iff.2 (by omega)]; rfl
      have hd0 : dryE last hs step lv ms 0 last = 0 := by unfold dryE; rw [s1]; exact hE0
      have hdx : dryE last hs step lv (ms ++ [x]) 0 last = 0 := by unfold dryE; rw [s1]; exact hEx
      have r0 : dryR last hs step lv ms 0 last = dryT (truthS hs step ms) 0 hs.length := by unfold dryR; rw [if_pos hd0]; congr 1; omega
      have rx : dryR last hs step lv (ms ++ [x]) 0 last = dryT (truthS hs step (ms ++ [x])) 0 hs.length := by unfold dryR; rw [if_pos hdx]; congr 1; omega
      have hdl := dry_sub V Vx hm hne hnex (fun t h => truthsR_snoc h) (n := hs.length) (by omega) (Nat.le_refl _)
      rw [hd0, r0] at iD0
      rw [hdx, rx] at iDx
      generalize dryT (truthS hs step ms) 0 hs.length = dn at *
      generalize dryT (truthS hs step (ms ++ [x])) 0 hs.length = dx at *
      generalize bdsR (truthS hs step ms) hs.length = bl at *
      generalize bdsR (truthS hs step (ms ++ [x])) hs.length = bx at *
      by_cases hl0 : lv.length = 0
      · repeat' first | ((first | with_reducible apply WB.tt | with_reducible apply WB.ff | refine Rn.seq ?_ | refine Rn.reg ?_ | refine Rn.drw ?_ | refine Rn.blk ?_ | refine Rn.skip ?_ | refine Rn.ret ?_ | refine Rn.exit ?_ | refine Rn.cond rfl ?_ | refine And.intro (InR.i64 (by omega) (by omega)) ?_ | refine And.intro (show _ ≠ (0 : Int) by omega) ?_ | refine WIx.intsN (by omega) ?_ | refine WIx.rowsN (by omega) ?_ | refine WCall.pure (iR) ?_ | refine WCall.pure (iRx) ?_ | refine WCall.pure (iT0) ?_ | refine WCall.pure (iL0) ?_ | refine WCall.pure (iTx) ?_ | refine WCall.pure (iLx) ?_ | refine WCall.pure (iB0) ?_ | refine WCall.pure (iBx) ?_ | refine WCall.pure (iIn) ?_ | refine WCall.pure (iD0) ?_ | refine WCall.pure (iDx) ?_ | refine WCall.pure (AW) ?_ | with_reducible refine WB.decT (by first | with_reducible rfl | assumption | omega | exact ⟨rfl, rfl⟩) ?_ | with_reducible refine WB.decF (by first | assumption | omega) ?_ | with_reducible refine WB.ndT (by first | with_reducible rfl | assumption | omega | exact ⟨rfl, rfl⟩) ?_ | with_reducible refine WB.ndF (by first | assumption | omega) ?_ | with_reducible refine WB.nt ?_ | with_reducible refine WB.nf ?_ | with_reducible refine WB.dec (fun h => ?_) (fun h => ?_) | with_reducible refine WB.ndec (fun h => ?_) (fun h => ?_) | refine WB.mk (fun h => ?_) (fun h => ?_)) <;> conv => whnf) | (refine WB.tt ?_; conv => whnf) | (refine WB.ff ?_; conv => whnf)
        all_goals first | exact Fin.b rfl rfl | (exfalso; omega) | exact absurd h (by decide)
      · have m1 := Int.tmod_nonneg ((ints lv).length : Int) w1.1
        have m2 := Int.tmod_lt_of_pos row (show (0 : Int) < ((ints lv).length : Int) by omega)
        have m3 := Int.tmod_nonneg (last + 1) w2.1
        have m4 := Int.tmod_lt_of_pos hour (show 0 < last + 1 by omega)
        obtain ⟨k, hk2⟩ := Int.eq_ofNat_of_zero_le m1
        obtain ⟨z, hz2⟩ := Int.eq_ofNat_of_zero_le m3
        have hk : k < lv.length := by omega
        have hz : z < hs.length := by omega
        have iW0 := c_Wet last hs step lv ms (k : Int) (z : Int) (by omega) fun _ => hTl
        have iWx := c_Wet last hs step lv (ms ++ [x]) (k : Int) (z : Int) (by omega) fun _ => hTlx
        have hc : cellB last lv (k : Int) (z : Int) = true := by unfold cellB; rw [inB_iff.2 (by omega), inB_iff.2 (by omega)]; rfl
        have hw0 : wetE last hs step lv ms (k : Int) (z : Int) = 0 := by unfold wetE; rw [hc]; exact hE0
        have hwx : wetE last hs step lv (ms ++ [x]) (k : Int) (z : Int) = 0 := by unfold wetE; rw [hc]; exact hEx
        have v0 : wetV last hs step lv ms (k : Int) (z : Int) = verN (truthsR hs step ms) (lv.getD k 0) z := by
          unfold wetV
          rw [if_pos hw0]
          exact ver_same V hm (List.length_pos_iff.2 hne) hz _
        have vx : wetV last hs step lv (ms ++ [x]) (k : Int) (z : Int) = verN (truthsR hs step (ms ++ [x])) (lv.getD k 0) z := by
          unfold wetV
          rw [if_pos hwx]
          exact ver_same Vx hm (List.length_pos_iff.2 hnex) hz _
        rw [hw0, v0] at iW0
        rw [hwx, vx] at iWx
        have hpx : 0 < (truthsR hs step (ms ++ [x])).length := by
          cases hL : truthsR hs step (ms ++ [x]) with
          | nil => exact absurd ((truth_nil Vx hm).2 hL) hnex
          | cons a s => simp
        have hv := ver_sub hpx (fun t h => truthsR_snoc h) (lv.getD k 0) z
        generalize verN (truthsR hs step ms) (lv.getD k 0) z = u at *
        generalize verN (truthsR hs step (ms ++ [x])) (lv.getD k 0) z = v at *
        repeat' first | ((first | with_reducible apply WB.tt | with_reducible apply WB.ff | refine Rn.seq ?_ | refine Rn.reg ?_ | refine Rn.drw ?_ | refine Rn.blk ?_ | refine Rn.skip ?_ | refine Rn.ret ?_ | refine Rn.exit ?_ | refine Rn.cond rfl ?_ | refine And.intro (InR.i64 (by omega) (by omega)) ?_ | refine And.intro (show _ ≠ (0 : Int) by omega) ?_ | refine WIx.intsN (by omega) ?_ | refine WIx.rowsN (by omega) ?_ | refine WCall.pure (iR) ?_ | refine WCall.pure (iRx) ?_ | refine WCall.pure (iT0) ?_ | refine WCall.pure (iL0) ?_ | refine WCall.pure (iTx) ?_ | refine WCall.pure (iLx) ?_ | refine WCall.pure (iB0) ?_ | refine WCall.pure (iBx) ?_ | refine WCall.pure (iIn) ?_ | refine WCall.pure (iD0) ?_ | refine WCall.pure (iDx) ?_ | with_reducible refine WB.decT (by first | with_reducible rfl | assumption | omega | exact ⟨rfl, rfl⟩) ?_ | with_reducible refine WB.decF (by first | assumption | omega) ?_ | with_reducible refine WB.ndT (by first | with_reducible rfl | assumption | omega | exact ⟨rfl, rfl⟩) ?_ | with_reducible refine WB.ndF (by first | assumption | omega) ?_ | with_reducible refine WB.nt ?_ | with_reducible refine WB.nf ?_ | with_reducible refine WB.dec (fun h => ?_) (fun h => ?_) | with_reducible refine WB.ndec (fun h => ?_) (fun h => ?_) | refine WB.mk (fun h => ?_) (fun h => ?_)) <;> conv => whnf) | (refine WB.tt ?_; conv => whnf) | (refine WB.ff ?_; conv => whnf)
        rw [hk2, hz2]; conv => whnf
        repeat' first | ((first | with_reducible apply WB.tt | with_reducible apply WB.ff | refine Rn.seq ?_ | refine Rn.reg ?_ | refine Rn.drw ?_ | refine Rn.blk ?_ | refine Rn.skip ?_ | refine Rn.ret ?_ | refine Rn.exit ?_ | refine Rn.cond rfl ?_ | refine And.intro (InR.i64 (by omega) (by omega)) ?_ | refine And.intro (show _ ≠ (0 : Int) by omega) ?_ | refine WIx.intsN (by omega) ?_ | refine WIx.rowsN (by omega) ?_ | refine WCall.pure (iR) ?_ | refine WCall.pure (iT0) ?_ | refine WCall.pure (iTx) ?_ | refine WCall.pure (iW0) ?_ | refine WCall.pure (iWx) ?_ | refine WCall.pure (AW) ?_ | with_reducible refine WB.decT (by first | with_reducible rfl | assumption | omega | exact ⟨rfl, rfl⟩) ?_ | with_reducible refine WB.decF (by first | assumption | omega) ?_ | with_reducible refine WB.ndT (by first | with_reducible rfl | assumption | omega | exact ⟨rfl, rfl⟩) ?_ | with_reducible refine WB.ndF (by first | assumption | omega) ?_ | with_reducible refine WB.nt ?_ | with_reducible refine WB.nf ?_ | with_reducible refine WB.dec (fun h => ?_) (fun h => ?_) | with_reducible refine WB.ndec (fun h => ?_) (fun h => ?_) | refine WB.mk (fun h => ?_) (fun h => ?_)) <;> conv => whnf) | (refine WB.tt ?_; conv => whnf) | (refine WB.ff ?_; conv => whnf)
        all_goals first | exact Fin.b rfl rfl | (exfalso; omega) | exact absurd h (by decide)
theorem c_TideMore (last : Int) (hs : List Rg) (step : Int) (lv : List Int) (ms : List Mk) (x : Mk) (row hour : Int) (hml : ms.length ≤ 1048576) (w1 : 0 ≤ row ∧ row ≤ 255) (w2 : 0 ≤ hour ∧ hour ≤ 255) (AW : PureF Try.prog p21.ix [] (.b true)) : PureF Try.prog p15.ix [.ag [.i .i64 last, .lst 2 (rows rgD hs), .i .i64 step, .lst 1 (ints lv), .lst 4 (rows mkD ms)], .ag (mkD x), .i .u8 row, .i .u8 hour] (.b true) := by
  have e3 := rows_length mkD ms
  have e2 := ints_length lv
  refine PureF.run fn14 (by simp) (by simp [PuL, PuE, Pu, pu_ints, pu_rg, pu_mk, mkD]) ?_; conv => whnf
  refine Rn.seq ?_; conv => whnf
  refine Rn.reg ?_; conv => whnf
  refine Rn.seqB ?_; conv => whnf
  repeat' first | ((first | with_reducible apply WB.tt | with_reducible apply WB.ff | refine Rn.seq ?_ | refine Rn.reg ?_ | refine Rn.drw ?_ | refine Rn.blk ?_ | refine Rn.skip ?_ | refine Rn.ret ?_ | refine Rn.exit ?_ | refine Rn.cond rfl ?_ | refine And.intro (InR.i64 (by omega) (by omega)) ?_ | refine And.intro (show _ ≠ (0 : Int) by omega) ?_ | refine WIx.intsN (by omega) ?_ | refine WIx.rowsN (by omega) ?_) <;> conv => whnf)
  refine WSt.app_empE (es := rows mkD ms) rfl rfl rfl (fun r hr => by
    obtain ⟨m, _, rfl⟩ := List.mem_map.1 hr
    rfl) (by omega) (fun st w => ?_); conv => whnf
  cases w
  all_goals
    repeat' first | ((first | with_reducible apply WB.tt | with_reducible apply WB.ff | refine Rn.seq ?_ | refine Rn.reg ?_ | refine Rn.drw ?_ | refine Rn.blk ?_ | refine Rn.skip ?_ | refine Rn.ret ?_ | refine Rn.exit ?_ | refine Rn.cond rfl ?_ | refine And.intro (InR.i64 (by omega) (by omega)) ?_ | refine And.intro (show _ ≠ (0 : Int) by omega) ?_ | refine WIx.intsN (by omega) ?_ | refine WIx.rowsN (by omega) ?_) <;> conv => whnf)
    refine WSt.app_oneL (id := .o (.o .h)) (idy := .i (.o .h)) (st := st) (cur := st + 1) (ds := (rows mkD ms).flatten) (r := mkD x) (len := (rows mkD ms).length) (by rfl) (by rfl) (by rfl) (by rfl) (by rfl) (by rfl) (by rw [e3]; exact mkF_four ms) (by rfl) (by rfl) (by omega) (by rfl) ?_; conv => whnf
    repeat' first | ((first | with_reducible apply WB.tt | with_reducible apply WB.ff | refine Rn.seq ?_ | refine Rn.reg ?_ | refine Rn.drw ?_ | refine Rn.blk ?_ | refine Rn.skip ?_ | refine Rn.ret ?_ | refine Rn.exit ?_ | refine Rn.cond rfl ?_ | refine And.intro (InR.i64 (by omega) (by omega)) ?_ | refine And.intro (show _ ≠ (0 : Int) by omega) ?_ | refine WIx.intsN (by omega) ?_ | refine WIx.rowsN (by omega) ?_) <;> conv => whnf)
    refine ⟨rfl, moZ last hs step lv ms x row hour, (fun id => id.nat < 4), ?_, (fun id (h : id.nat < 3) => show id.nat < 4 by omega), (fun id h => h), (show 3 ≤ 4 by omega), ?_⟩
    · refine ShrB.of ?_ ?_ rfl rfl
      · show Rel _ _ ((.n (.n (.n .e (some (.i .u8 hour)) .e) none (.n (.n .e (some (.pt (.i .h) 0 0)) .e) none .e)) none (.n (.n .e (some (.pt .h 0 0)) .e) (some (.i .u8 row)) .e)) : T D) _
        (repeat' first | exact Rel.e | refine Rel.some ?_ ?_ ?_ | refine Rel.none ?_ ?_ | refine Rel.ee ?_ ?_)
        all_goals show Fz _ _ _ _
        all_goals first | exact .pu trivial | exact .kpt (show _ < 4 by simp [Pos.nat])
      · show Rel _ _ ((.n .e (some (tabC last hs step lv ms)) (.n .e (some (tabC last hs step lv (ms ++ [x]))) .e)) : T C) _
        (repeat' first | exact Rel.e | refine Rel.some ?_ ?_ ?_ | refine Rel.none ?_ ?_ | refine Rel.ee ?_ ?_)
        · exact ⟨show _ < 4 by simp [Pos.nat], tabC_sh last hs step lv ms⟩
        · refine ⟨show _ < 4 by simp [Pos.nat], tab_shM ?_⟩
          exact Fz.grown (ds := (rows mkD ms).flatten) (r := mkD x) (s1 := st) (s2 := st + 1) (show ¬ 4 < 4 by omega) rfl rfl (Nat.le_succ _) (by simp [rows]) (by first | (rw [rows_length, e3]; simp) | (rw [rows_length]; simp [rows_length])) (fun r hr => by
            obtain ⟨m, _, rfl⟩ := List.mem_map.1 hr
            rfl) (pu_mk _)
    exact c_TideMoreR last hs step lv ms x row hour hml w1 w2 AW
theorem main_tideMore (AW : PureF Try.prog p21.ix [] (.b true)) {es : List D} (fit : FitP [(true, [.i .i64, .sl [.i .i64, .i .i64], .i .i64, .sl [.i .i64], .sl [.i .i64, .i .i64, .i .i64, .i .i64]]), (true, [.i .i64, .i .i64, .i .i64, .i .i64]), (false, [.i .u8]), (false, [.i .u8])] es) (hB : ∀ e ∈ es, LstLe 1048576 e) : PureF Try.prog 14 es (.b true) := by
  obtain ⟨last, hs, step, lv, ms, _, rfl, g1⟩ := fit.tab
  obtain ⟨x, _, rfl, g2⟩ := g1.mk
  obtain ⟨f, _, rfl, w1, g3⟩ := g2.i
  obtain ⟨t, _, rfl, w2, g4⟩ := g3.i
  obtain rfl := g4.no
  exact c_TideMore last hs step lv ms x f t (by
    have := hB _ (List.mem_cons_self ..)
    have := this (.lst 4 (rows mkD ms)) (by simp) 4 (rows mkD ms) rfl
    rw [rows_length] at this
    exact this) (wf_u8 w1) (wf_u8 w2) AW
end Go.Ev

namespace Go.Proofs.Ytpemagogcagipaa.tideMore
open Go.ChangeShapes Go.WideShapes Go.ChangeAt Go.RowKit
open Go.ChangeMaps (open_string shut_string)
set_option linter.unusedVariables false

theorem laid : laidOutB Try.prog = true := by kernel_rfl
theorem own : ownKnob Try.prog.godebug = none := by kernel_rfl

/-! ### the bulk bounds the lists -/
theorem bulk_one {H : Type} (d : DataW H) : 1 ≤ Rows.uptoBulk d := by
  cases d with
  | lit l => cases l <;> simp [Rows.uptoBulk]
  | _ => simp [Rows.uptoBulk]
theorem bulk_len {H : Type} : ∀ (l : List (DataW H)), l.length ≤ Rows.uptoBulkAll l
  | [] => Nat.zero_le _
  | x :: r => by
    have h1 := bulk_one x
    have h2 := bulk_len r
    simp only [Rows.uptoBulkAll, List.length_cons]
    omega
theorem bulk_mem {H : Type} {d : DataW H} : ∀ {l : List (DataW H)}, d ∈ l → Rows.uptoBulk d ≤ Rows.uptoBulkAll l
  | [], h => by cases h
  | x :: r, h => by
    simp only [Rows.uptoBulkAll]
    rcases List.mem_cons.1 h with rfl | h
    · omega
    · have := bulk_mem h; omega
theorem bulk_slice {H : Type} (elems spare : List (DataW H)) : elems.length ≤ Rows.uptoBulk (.slice elems spare) := by
  have := bulk_len elems
  simp only [Rows.uptoBulk]
  omega
theorem bulk_agg {H : Type} (parts : List (DataW H)) (d : DataW H) (h : d ∈ parts) : Rows.uptoBulk d ≤ Rows.uptoBulk (.agg parts) := by
  have := bulk_mem h
  simp only [Rows.uptoBulk]
  omega

/-! ### the walk -/
theorem walk {es : List Go.Ev.D} (fit : Go.Ev.FitP [(true, [.i .i64, .sl [.i .i64, .i .i64], .i .i64, .sl [.i .i64], .sl [.i .i64, .i .i64, .i .i64, .i .i64]]), (true, [.i .i64, .i .i64, .i .i64, .i .i64]), (false, [.i .u8]), (false, [.i .u8])] es) (hB : ∀ e ∈ es, Go.Ev.LstLe 1048576 e) {args : Array Value} {W : World} (ha : Go.Ev.DVL (Go.Ev.γH W) W es args.toList) :
    Calls Try.prog 14 args W fun e w' => e = .returned (.bool true) ∧ Grown W w' ∧ Below W.heap.size W w' :=
  Go.Ev.PureF.calls (Go.Ev.main_tideMore (fun ob nx lg => Go.Ev.closed_call Go.Ev.fp_ok Go.Ev.aw ob nx lg) fit hB) ha

set_option maxRecDepth 100000 in
theorem lifted (os : Os) (started : os.Started) (H : Type) (enc : TypeId × Value → H) (F : Stop.Interp) :
    ReturnsInHanded {} Try.checked os 14 .any ((Rows.OpenSpec.upto Rows.tideMoreSpec).pre6 enc Try.prog Try.f14 Rows.tideMoreUptoRow.domain false) (((Rows.OpenSpec.upto Rows.tideMoreSpec).at F).post enc Try.prog Try.f14 false true false false) := by
  refine returnsInHanded_of_cond (C := Try.checked) (s := Rows.OpenSpec.upto Rows.tideMoreSpec) (k := Rows.uptoSmall) rfl own started (by kernel_rfl) Try.func14
    (OpenSpec.witness (enc := enc) (C := Try.checked) (s := Rows.OpenSpec.upto Rows.tideMoreSpec) (k := Rows.uptoSmall) rfl false ⟨#[], #[.agg #[.int .i64 0, .slice none 0 0, .int .i64 0, .slice none 0 0, .slice none 0 0], .agg #[.int .i64 0, .int .i64 0, .int .i64 0, .int .i64 0], .int .u8 0, .int .u8 0], []⟩ 8 (by kernel_rfl) (by kernel_rfl) (by kernel_rfl)
      (x := ([.agg [.lit (.int .i64 0), .nil, .lit (.int .i64 0), .nil, .nil], .agg [.lit (.int .i64 0), .lit (.int .i64 0), .agg [.lit (.int .i64 0), .lit (.int .i64 0)]], .lit (.int .u8 0), .lit (.int .u8 0)], [], [])) (by kernel_rfl) rfl (by kernel_rfl)) ?_
  intro W base args ds gs before hval0 hW _ hk _
  have hval : ∀ (j : Nat) t v, Try.f14.params[j]? = some t → args[j]? = some v → Value.okWide Try.prog W .any base t v := hval0
  have hW' := hW
  obtain ⟨p, q, hA0, hV, rfl, hfz, hnd⟩ := hW
  have hA : DataW.TrodAll enc Try.prog W 0 (fun _ => true) true Try.f14.params.toList args.toList ds p := hA0
  rw [Try.params14] at hA hval
  obtain ⟨rfl, rfl⟩ := trodVars_none hV
  have hk1 : Rows.uptoBulkAll (ds ++ []) ≤ 1048576 := of_decide_eq_true hk
  rw [List.append_nil] at hk1
  obtain ⟨es, fit, dv, hB⟩ := Go.Ev.open_allB (B := Rows.uptoBulk) (n := 6) (N := 1048576) (pars := [(true, [.i .i64, .sl [.i .i64, .i .i64], .i .i64, .sl [.i .i64], .sl [.i .i64, .i .i64, .i .i64, .i .i64]]), (true, [.i .i64, .i .i64, .i .i64, .i .i64]), (false, [.i .u8]), (false, [.i .u8])]) bulk_slice bulk_agg (by kernel_rfl) hA (fun j t v h1 h2 => hval j t v (by simpa using h1) (by simpa using h2)) (fun d hd => Nat.le_trans (bulk_mem hd) hk1)
  obtain ⟨d0, d1, d2, d3, rfl⟩ := Go.Ev.len4 (Go.Ev.trod_len hA)
  clear hA0 hval0
  simp only [List.append_nil] at hW'
  have hlt : ∀ x ∈ p, x.block < W.heap.size := fun x hx => by simpa using hW'.lt x hx
  refine (walk fit hB dv).mono fun e W' ⟨he, hg, hb⟩ => ?_
  subst he
  exact ⟨_, rfl, post_of_same (pa := p) (pv := []) hW' (fun _ _ _ => (trodAll_cons_mk (shut_bool Try.underlying4 _) trodAll_mk0))
    (fun sp hs => Go.Ev.stays_all laid (Go.Ev.of_allT (by kernel_rfl)) hA (fun x hx => hb.same (hlt x hx)) (fun x hx => hs x hx))
    (fun _ _ => rfl) (List.append_nil _).symm
    (hg.frame _) hg.2.1 (ok_one (by kernel_rfl) rfl (okWide_bool_mk Try.underlying4 _))⟩

theorem over : Rows.tideMoreUptoRow.holds Try.pinned (Rows.OpenSpec.upto Rows.tideMoreSpec) :=
  OpenClaim.holds_of_cond 14 Try.f14 rfl rfl rfl rfl rfl rfl rfl ⟨rfl, rfl, rfl, rfl, rfl⟩ rfl rfl rfl rfl rfl (by kernel_rfl) Try.func14 (by kernel_rfl)
    (of_decide_eq_true (by kernel_rfl)) (by unfold Func.isWrapper; first | (rw [if_pos (by decide +kernel)]; kernel_rfl) | (rw [if_neg (by decide +kernel)]; exact ⟨rfl, rfl⟩))
    (fun os started H enc _ F => lifted os started H enc F)

/-- ████ THE STATEMENT ████ -/
theorem proved : Rows.TideMoreUptoSaid :=
  over
#print axioms proved
end Go.Proofs.Ytpemagogcagipaa.tideMore
