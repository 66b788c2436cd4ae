/-
  TideLevel: the law answers true for every table, every two hours and every level; the only conditions are those of the row itself.
-/
import Derived.Test.YtpemagogcagipaaRows
import Derived.WalkKit
import Derived.ProofKit
import Derived.OpenShut
import Derived.Test.YtpemagogcagipaaEvFt
import Derived.Test.YtpemagogcagipaaEvMH
import Derived.Test.YtpemagogcagipaaEvSy
import Derived.ShutString
import Derived.Test.YtpemagogcagipaaEvMQ
import Derived.Test.YtpemagogcagipaaEvML
set_option linter.all false
namespace Go.Ev
open Go.Proofs
set_option maxRecDepth 1000000
noncomputable def rc12 : RC := (.seq (.reg [(.u (.box p5 (.t p1))), (.u (.mv p9 (.k (.b false))))]) (.seq (.reg [(.u (.ldn p28 (.t p5) 5)), (.u (.new p10 [(.i .i64 0), .ns, (.i .i64 0), .ns, .ns])), (.u (.st (.t p10) (.t p28) 5))]) (.seq (.reg [(.u (.mv p29 (.t p2))), (.u (.cvi p30 .i64 (.t p29))), (.u (.fad p31 (.t p5) 1)), (.u (.ld1 p32 (.t p31))), (.u (.len p33 (.t p32))), (.u (.mx p34 (.k (.i .i64 1)) (.t p33))), (.u (.bin p35 .rem (.t p30) (.t p34))), (.u (.mv p11 (.t p35)))]) (.seq (.reg [(.u (.mv p36 (.t p4))), (.u (.cvi p37 .i64 (.t p36))), (.u (.bin p38 .rem (.t p37) (.k (.i .i64 100)))), (.u (.bsl p39 1 1 [(.i .i64 0)] [(0, (1, (.t p38)))])), (.u (.fad p40 (.t p10) 3)), (.u (.st (.t p40) (.t p39) 1))]) (.seq (.seq (.reg [(.u (.ldn p41 (.t p10) 5)), (.u (.cf (some p42) p52 [(.t p41)])), (.u (.un p43 .not (.t p42)))]) (.cond (.t p43) (.seq (.reg [(.u (.cf (some p44) p21 [])), (.u (.mv p9 (.t p44)))]) .ret) .skip)) (.seq (.reg [(.u (.fad p45 (.t p10) 0)), (.u (.ld1 p46 (.t p45))), (.u (.mv p47 (.t p11))), (.u (.mv p48 (.t p3))), (.u (.cvi p49 .i64 (.t p48))), (.u (.bin p50 .rem (.t p49) (.k (.i .i64 4)))), (.u (.bin p51 .add (.t p47) (.t p50))), (.u (.mn p52 (.t p46) (.t p51))), (.u (.mv p12 (.t p52)))]) (.seq (.reg [(.u (.ldn p54 (.t p10) 5)), (.u (.cf (some p55) p23 [(.t p54)])), (.u (.mv p56 (.t p11))), (.u (.mv p57 (.t p12))), (.u (.cf (some p58) p41 [(.t p55), (.t p56), (.t p57)])), (.u (.mv p53 (.t p58))), (.u (.ext p59 (.t p53) 0)), (.u (.ext p60 (.t p53) 1)), (.u (.mv p13 (.t p59))), (.u (.mv p14 (.t p60)))]) (.seq (.drw [(.u (.ldn p62 (.t p10) 5)), (.u (.cf (some p63) p23 [(.t p62)])), (.u (.mv p64 (.t p11))), (.u (.fad p65 (.t p10) 0)), (.u (.ld1 p66 (.t p65))), (.u (.mv p67 (.t p12))), (.u (.bin p68 .add (.t p67) (.k (.i .i64 1)))), (.u (.mn p69 (.t p66) (.t p68))), (.u (.cf (some p70) p41 [(.t p63), (.t p64), (.t p69)])), (.u (.mv p61 (.t p70))), (.u (.ext p71 (.t p61) 0)), (.u (.ext p72 (.t p61) 1)), (.u (.mv p15 (.t p71))), (.u (.mv p16 (.t p72)))] [0, 1, 0, 0, 8, 0, 32, 120, 255, 511, 1023, 1023, 2047, 8191]) (.seq (.reg [(.u (.ldn p74 (.t p10) 5)), (.u (.cf (some p75) p23 [(.t p74)])), (.u (.mv p76 (.t p11))), (.u (.mv p77 (.t p11))), (.u (.cf (some p78) p41 [(.t p75), (.t p76), (.t p77)])), (.u (.mv p73 (.t p78))), (.u (.ext p79 (.t p73) 0)), (.u (.ext p80 (.t p73) 1)), (.u (.mv p17 (.t p79))), (.u (.mv p18 (.t p80)))]) (.seq (.reg [(.u (.ldn p82 (.t p10) 5)), (.u (.cf (some p83) p23 [(.t p82)])), (.u (.mv p84 (.t p11))), (.u (.cf (some p85) p33 [(.t p83), (.k (.i .i64 0)), (.t p84)])), (.u (.mv p81 (.t p85))), (.u (.ext p86 (.t p81) 0)), (.u (.ext p87 (.t p81) 1)), (.u (.mv p19 (.t p86))), (.u (.mv p20 (.t p87)))]) (.seq (.seq (.reg [(.u (.mv p88 (.t p14))), (.u (.bin p89 .neq (.t p88) (.k (.i .i64 0))))]) (.cond (.t p89) (.seq (.reg [(.u (.mv p90 (.t p14))), (.u (.bin p91 .eql (.t p90) (.k (.i .i64 11)))), (.u (.mv p92 (.t p91))), (.g p92 true (some p93) (.mv p93 (.t p16))), (.g p92 true (some p94) (.mv p94 (.t p14))), (.g p92 true (some p95) (.bin p95 .eql (.t p93) (.t p94))), (.u (.pick p96 (.t p92) (.t p95) (.k (.b false)))), (.u (.mv p97 (.t p96))), (.g p97 true (some p98) (.mv p98 (.t p18))), (.g p97 true (some p99) (.mv p99 (.t p14))), (.g p97 true (some p100) (.bin p100 .eql (.t p98) (.t p99))), (.u (.pick p101 (.t p97) (.t p100) (.k (.b false)))), (.u (.mv p102 (.t p101))), (.g p102 true (some p103) (.mv p103 (.t p20))), (.g p102 true (some p104) (.mv p104 (.t p14))), (.g p102 true (some p105) (.bin p105 .eql (.t p103) (.t p104))), (.u (.pick p106 (.t p102) (.t p105) (.k (.b false)))), (.u (.mv p107 (.t p106))), (.g p107 true (some p108) (.cf (some p108) p21 [])), (.u (.pick p109 (.t p107) (.t p108) (.k (.b false)))), (.u (.mv p9 (.t p109)))]) .ret) .skip)) (.seq (.seq (.reg [(.u (.mv p110 (.t p16))), (.u (.bin p111 .neq (.t p110) (.k (.i .i64 0)))), (.u (.mv p112 (.t p111))), (.g p112 false (some p113) (.mv p113 (.t p18))), (.g p112 false (some p114) (.bin p114 .neq (.t p113) (.k (.i .i64 0)))), (.u (.pick p115 (.t p112) (.k (.b true)) (.t p114))), (.u (.mv p116 (.t p115))), (.g p116 false (some p117) (.mv p117 (.t p20))), (.g p116 false (some p118) (.bin p118 .neq (.t p117) (.k (.i .i64 0)))), (.u (.pick p119 (.t p116) (.k (.b true)) (.t p118))), (.u (.mv p120 (.t p119))), (.g p120 false (some p121) (.mv p121 (.t p15))), (.g p120 false (some p122) (.mv p122 (.t p13))), (.g p120 false (some p123) (.bin p123 .lss (.t p121) (.t p122))), (.u (.pick p124 (.t p120) (.k (.b true)) (.t p123))), (.u (.mv p125 (.t p124))), (.g p125 false (some p126) (.mv p126 (.t p17))), (.g p125 false (some p127) (.mv p127 (.t p13))), (.g p125 false (some p128) (.bin p128 .gtr (.t p126) (.t p127))), (.u (.pick p129 (.t p125) (.k (.b true)) (.t p128))), (.u (.mv p130 (.t p129))), (.g p130 false (some p131) (.mv p131 (.t p19))), (.g p130 false (some p132) (.bin p132 .eql (.t p131) (.k (.i .i64 2)))), (.g p130 false (some p133) (.mv p133 (.t p17))), (.g p130 false (some p134) (.fad p134 (.t p10) 3)), (.g p130 false (some p135) (.ld1 p135 (.t p134))), (.g p130 false (some p136) (.ixs p136 1 (.t p135) (.k (.i .i64 0)))), (.g p130 false (some p137) (.ld1 p137 (.t p136))), (.g p130 false (some p138) (.bin p138 .leq (.t p133) (.t p137))), (.g p130 false (some p139) (.eq p139 true 0 (.t p132) (.t p138))), (.u (.pick p140 (.t p130) (.k (.b true)) (.t p139))), (.u (.mv p141 (.t p140))), (.g p141 false (some p142) (.ldn p142 (.t p10) 5)), (.g p141 false (some p143) (.cf (some p143) p23 [(.t p142)])), (.g p141 false (some p144) (.mv p144 (.t p11))), (.g p141 false (some p145) (.mv p145 (.t p12))), (.g p141 false (some p146) (.mv p146 (.t p13))), (.g p141 false (some p147) (.cf (some p147) p42 [(.t p143), (.t p144), (.t p145), (.t p146)])), (.g p141 false (some p148) (.un p148 .not (.t p147))), (.u (.pick p149 (.t p141) (.k (.b true)) (.t p148))), (.u (.mv p150 (.t p149))), (.g p150 false (some p151) (.ldn p151 (.t p10) 5)), (.g p150 false (some p152) (.cf (some p152) p23 [(.t p151)])), (.g p150 false (some p153) (.mv p153 (.t p11))), (.g p150 false (some p154) (.mv p154 (.t p12))), (.g p150 false (some p155) (.mv p155 (.t p13))), (.g p150 false (some p156) (.bin p156 .sub (.t p155) (.k (.i .i64 1)))), (.g p150 false (some p157) (.cf (some p157) p42 [(.t p152), (.t p153), (.t p154), (.t p156)])), (.u (.pick p158 (.t p150) (.k (.b true)) (.t p157))), (.u (.mv p159 (.t p158))), (.g p159 false (some p160) (.mv p160 (.t p13))), (.g p159 false (some p161) (.cf (some p161) p35 [(.t p160), (.k (.i .i64 0)), (.k (.i .i64 99))])), (.g p159 false (some p162) (.un p162 .not (.t p161))), (.u (.pick p163 (.t p159) (.k (.b true)) (.t p162)))]) (.cond (.t p163) (.seq (.reg [(.u (.mv p9 (.k (.b false))))]) .ret) .skip)) (.seq (.reg [(.u (.ldn p164 (.t p10) 5)), (.u (.new p21 [(.i .i64 0), .ns, (.i .i64 0), .ns, .ns])), (.u (.st (.t p21) (.t p164) 5))]) (.seq (.reg [(.u (.mv p165 (.t p13))), (.u (.mv p166 (.t p13))), (.u (.bin p167 .sub (.t p166) (.k (.i .i64 1)))), (.u (.mx p168 (.k (.i .i64 0)) (.t p167))), (.u (.bsl p169 1 2 [(.i .i64 0), (.i .i64 0)] [(0, (1, (.t p165))), (1, (1, (.t p168)))])), (.u (.fad p170 (.t p21) 3)), (.u (.st (.t p170) (.t p169) 1))]) (.seq (.reg [(.u (.mv p22 (.k (.b false))))]) (.seq (.seq (.reg [(.u (.mv p171 (.t p11))), (.u (.mv p23 (.t p171)))]) (.blk 0 (.loop (.seq (.seq (.reg [(.u (.mv p172 (.t p23))), (.u (.mv p173 (.t p12))), (.u (.bin p174 .leq (.t p172) (.t p173)))]) (.cond (.t p174) .skip (.exit 0))) (.seq (.blk 1 (.seq (.reg [(.u (.ldn p178 (.t p21) 5)), (.u (.cf (some p179) p23 [(.t p178)])), (.u (.mv p180 (.t p23))), (.u (.cf (some p181) p33 [(.t p179), (.k (.i .i64 0)), (.t p180)])), (.u (.mv p177 (.t p181))), (.u (.ext p182 (.t p177) 0)), (.u (.ext p183 (.t p177) 1)), (.u (.mv p24 (.t p182))), (.u (.mv p25 (.t p183)))]) (.seq (.reg [(.u (.ldn p185 (.t p21) 5)), (.u (.cf (some p186) p23 [(.t p185)])), (.u (.mv p187 (.t p23))), (.u (.cf (some p188) p33 [(.t p186), (.k (.i .i64 1)), (.t p187)])), (.u (.mv p184 (.t p188))), (.u (.ext p189 (.t p184) 0)), (.u (.ext p190 (.t p184) 1)), (.u (.mv p26 (.t p189))), (.u (.mv p27 (.t p190)))]) (.seq (.seq (.reg [(.u (.mv p191 (.t p25))), (.u (.bin p192 .neq (.t p191) (.k (.i .i64 0)))), (.u (.mv p193 (.t p192))), (.g p193 false (some p194) (.mv p194 (.t p27))), (.g p193 false (some p195) (.bin p195 .neq (.t p194) (.k (.i .i64 0)))), (.u (.pick p196 (.t p193) (.k (.b true)) (.t p195))), (.u (.mv p197 (.t p196))), (.g p197 false (some p198) (.mv p198 (.t p24))), (.g p197 false (some p199) (.bin p199 .neq (.t p198) (.k (.i .i64 2)))), (.u (.pick p200 (.t p197) (.k (.b true)) (.t p199)))]) (.cond (.t p200) (.seq (.reg [(.u (.mv p9 (.k (.b false))))]) .ret) .skip)) (.reg [(.u (.mv p201 (.t p22))), (.u (.mv p202 (.t p201))), (.g p202 false (some p203) (.mv p203 (.t p26))), (.g p202 false (some p204) (.bin p204 .neq (.t p203) (.k (.i .i64 2)))), (.u (.pick p205 (.t p202) (.k (.b true)) (.t p204))), (.u (.mv p22 (.t p205)))]))))) (.reg [(.u (.mv p175 (.t p23))), (.u (.bin p176 .add (.t p175) (.k (.i .i64 1)))), (.u (.mv p23 (.t p176)))])))))) (.seq (.reg [(.u (.mv p206 (.t p22))), (.u (.mv p207 (.t p206))), (.g p207 false (some p208) (.mv p208 (.t p13))), (.g p207 false (some p209) (.bin p209 .eql (.t p208) (.k (.i .i64 0)))), (.u (.pick p210 (.t p207) (.k (.b true)) (.t p209))), (.u (.mv p211 (.t p210))), (.g p211 true (some p212) (.cf (some p212) p21 [])), (.u (.pick p213 (.t p211) (.t p212) (.k (.b false)))), (.u (.mv p9 (.t p213)))]) .ret)))))))))))))))))
def rs12 : List RR := [(.t p9)]
theorem fn12 : FnOk Try.prog p13.ix 213 rc12 rs12 := ⟨Try.f12, bodyC Try.f12, Try.func12, by kernel_rfl, by kernel_rfl, by kernel_rfl, by kernel_rfl, by kernel_rfl⟩
end Go.Ev
namespace Go.Ev
open Go.Proofs
set_option maxRecDepth 100000
/-! ### TideLevel -/
theorem WIx.i0 {a : Int} {r : List Int} {F : List D → Prop} (k : F [.i .i64 a]) : WIx (Go.Ev.ints (a :: r)) 0 F := by
  show WIx (Go.Ev.ints (a :: r)) ((0 : Nat) : Int) F
  exact WIx.at rfl k
theorem WB.eqF {t : Bool} {F : Bool → Prop} (h : t = false) (k : F false) : WB t F := by
  subst h
  exact WB.ff k
def leZ (last : Int) (hs : List Rg) (step : Int) (lv : List Int) (ms : List Mk) (long A P : Int) : X := ⟨(.n (.n .e none (.n (.n .e (some (.pt (.o .h) 0 0)) .e) none .e)) none (.n .e (some (.i .u8 long)) (.n (.n .e (some (.i .i64 A)) .e) none .e))), (.n (.n .e (some (tabC last hs step [P] ms)) .e) (some (tabC last hs step lv ms)) .e), .i .h, none⟩
def leY (last : Int) (hs : List Rg) (step : Int) (ms : List Mk) (z u : Nat) (n q : Int) : X := ⟨(.n (.n (.n .e none (.n .e (some (.i .i64 (u : Int))) .e)) none .e) none (.n (.n .e none (.n (.n .e (some (.pt (.i .h) 0 0)) .e) (some (.i .i64 n)) .e)) none (.n (.n .e (some (.i .i64 (z : Int))) .e) none .e))), (.n .e none (.n .e (some (tabC last hs step [n, q] ms)) .e)), .o (.o .h), none⟩
def wetJ (L : List (List Int)) (q : Int) (z j : Nat) : Bool := (List.range j).any fun i => !decide (verN L q (z + i) = 2)
theorem wetJ_succ (L : List (List Int)) (q : Int) (z j : Nat) : wetJ L q z (j + 1) = (wetJ L q z j || !decide (verN L q (z + j) = 2)) := by
  unfold wetJ
  rw [List.range_succ, List.any_append]
  simp
set_option maxHeartbeats 8000000 in
theorem c_TideLevel (last : Int) (hs : List Rg) (step : Int) (lv : List Int) (ms : List Mk) (from' long level : Int) (h1 : 0 ≤ from' ∧ from' ≤ 255) (h2 : 0 ≤ long ∧ long ≤ 255) (h3 : 0 ≤ level ∧ level ≤ 255) (AW : PureF Try.prog p21.ix [] (.b true)) : PureF Try.prog p13.ix [.ag [.i .i64 last, .lst 2 (rows rgD hs), .i .i64 step, .lst 1 (ints lv), .lst 4 (rows mkD ms)], .i .u8 from', .i .u8 long, .i .u8 level] (.b true) := by
  have e1 := rows_length rgD hs
  have m1 := Int.tmod_nonneg 100 h3.1
  have m2 := Int.tmod_lt_of_pos level (show (0 : Int) < 100 by omega)
  have m3 := Int.tmod_nonneg 4 h2.1
  have m4 := Int.tmod_lt_of_pos long (show (0 : Int) < 4 by omega)
  have m5 := Int.tmod_nonneg (max 1 ((rows rgD hs).length : Int)) h1.1
  have m6 := Int.tmod_lt_of_pos from' (show (0 : Int) < max 1 ((rows rgD hs).length : Int) by omega)
  refine PureF.run fn12 (by simp) (by simp [PuL, PuE, Pu, pu_ints, pu_rg, pu_mk]) ?_; conv => whnf
  refine Rn.seq ?_; conv => whnf
  refine Rn.reg ?_; conv => whnf
  refine Rn.seq ?_; conv => whnf
  refine Rn.reg ?_; conv => whnf
  refine Rn.seqB ?_; conv => whnf
  repeat' first | ((with_reducible apply WB.tt); conv => whnf) | ((with_reducible apply WB.ff); conv => whnf) | (refine Rn.seq ?_; conv => whnf) | (refine Rn.reg ?_; conv => whnf) | (refine Rn.drw ?_; conv => whnf) | (refine Rn.blk ?_; conv => whnf) | (refine Rn.skip ?_; conv => whnf) | (refine Rn.ret ?_; conv => whnf) | (refine Rn.exit ?_; conv => whnf) | (refine Rn.cond rfl ?_; conv => whnf) | (refine And.intro (InR.i64 (by omega) (by omega)) ?_; conv => whnf) | (refine And.intro (show _ ≠ (0 : Int) by omega) ?_; conv => whnf) | (refine WIx.intsN (by omega) ?_; conv => whnf) | (refine WIx.rowsN (by omega) ?_; conv => whnf)
  refine ⟨rfl, leZ last hs step lv ms long (from'.tmod (max 1 ((rows rgD hs).length : Int))) (level.tmod 100), (fun id => id.nat < 3), ?_, (fun id (h : id.nat < 3) => h), (fun id h => h), Nat.le_refl _, ?_⟩
  · refine ShrB.of ?_ ?_ rfl rfl
    · show Rel _ _ ((.n (.n .e none (.n (.n .e (some (.pt (.o .h) 0 0)) .e) none .e)) none (.n .e (some (.i .u8 long)) (.n (.n .e (some (.i .i64 (from'.tmod (max 1 ((rows rgD hs).length : Int))))) .e) none .e))) : T D) _
      (repeat' first | exact Rel.e | refine Rel.some ?_ ?_ ?_ | refine Rel.none ?_ ?_ | refine Rel.ee ?_ ?_)
      all_goals show Fz _ _ _ _
      all_goals first | exact .pu trivial | exact .kpt (show _ < 3 by simp [Pos.nat])
    · show Rel _ _ ((.n (.n .e (some (tabC last hs step [level.tmod 100] ms)) .e) (some (tabC last hs step lv ms)) .e) : T C) _
      (repeat' first | exact Rel.e | refine Rel.some ?_ ?_ ?_ | refine Rel.none ?_ ?_ | refine Rel.ee ?_ ?_)
      · refine ⟨show _ < 3 by simp [Pos.nat], tab_sh ?_⟩
        exact Fz.grown (ds := []) (r := [.i .i64 (level.tmod 100)]) (s1 := 0) (show ¬ 3 < 3 by omega) rfl rfl (Nat.le_refl _) rfl rfl (ints_one _) (pu_ints _)
      · exact ⟨show _ < 3 by simp [Pos.nat], tabC_sh last hs step lv ms⟩
  generalize level.tmod 100 = P at *
  generalize from'.tmod (max 1 ((rows rgD hs).length : Int)) = A at *
  have iR := c_ready last hs step [P] ms
  conv => whnf
  cases hR : readyB last hs step [P] ms with
  | false =>
    rw [hR] at iR
    repeat' first | ((with_reducible apply WB.tt); conv => whnf) | ((with_reducible apply WB.ff); conv => whnf) | (refine Rn.seq ?_; conv => whnf) | (refine Rn.reg ?_; conv => whnf) | (refine Rn.drw ?_; conv => whnf) | (refine Rn.blk ?_; conv => whnf) | (refine Rn.skip ?_; conv => whnf) | (refine Rn.ret ?_; conv => whnf) | (refine Rn.exit ?_; conv => whnf) | (refine Rn.cond rfl ?_; conv => whnf) | (refine And.intro (InR.i64 (by omega) (by omega)) ?_; conv => whnf) | (refine And.intro (show _ ≠ (0 : Int) by omega) ?_; conv => whnf) | (refine WIx.intsN (by omega) ?_; conv => whnf) | (refine WIx.rowsN (by omega) ?_; conv => whnf) | (refine WCall.pure (iR) ?_; conv => whnf) | (refine WCall.pure (AW) ?_; conv => whnf) | ((with_reducible refine WB.decT (by first | with_reducible rfl | assumption | omega | exact ⟨rfl, rfl⟩) ?_); conv => whnf) | ((with_reducible refine WB.decF (by first | assumption | omega) ?_); conv => whnf) | ((with_reducible refine WB.ndT (by first | with_reducible rfl | assumption | omega | exact ⟨rfl, rfl⟩) ?_); conv => whnf) | ((with_reducible refine WB.ndF (by first | assumption | omega) ?_); conv => whnf) | ((with_reducible refine WB.nt ?_); conv => whnf) | ((with_reducible refine WB.nf ?_); conv => whnf) | ((with_reducible refine WB.dec (fun h => ?_) (fun h => ?_)) <;> conv => whnf) | ((with_reducible refine WB.ndec (fun h => ?_) (fun h => ?_)) <;> conv => whnf) | (refine WB.mk (fun h => ?_) (fun h => ?_) <;> conv => whnf) | (refine WB.tt ?_; conv => whnf) | (refine WB.ff ?_; conv => whnf)
    exact Fin.b rfl rfl
  | true =>
    rw [hR] at iR
    have hR' := hR
    unfold readyB at hR'
    rw [Bool.and_eq_true, decide_eq_true_iff] at hR'
    obtain ⟨hT, hf⟩ := hR'
    obtain ⟨V, hm, hA⟩ := fault_zero hf
    have h5 := V.ms5
    have h10 := V.h10
    have hpos := V.h1
    have hn := V.n
    obtain ⟨z, rfl⟩ := Int.eq_ofNat_of_zero_le m5
    have hz : z < hs.length := by omega
    have hTl : (truthS hs step ms).length ≤ 1000 := Nat.le_trans (List.length_filter_le _ _) (Nat.le_trans (thin_exS hT hf) (by omega))
    have iT0 := c_Table last hs step [P] ms (by omega) (by simp) (by omega)
    have b1 : (z : Int) ≤ min last ((z : Int) + long.tmod 4) := by omega
    have b2 : min last ((z : Int) + long.tmod 4) ≤ last := by omega
    repeat' first | ((with_reducible apply WB.tt); conv => whnf) | ((with_reducible apply WB.ff); conv => whnf) | (refine Rn.seq ?_; conv => whnf) | (refine Rn.reg ?_; conv => whnf) | (refine Rn.drw ?_; conv => whnf) | (refine Rn.blk ?_; conv => whnf) | (refine Rn.skip ?_; conv => whnf) | (refine Rn.ret ?_; conv => whnf) | (refine Rn.exit ?_; conv => whnf) | (refine Rn.cond rfl ?_; conv => whnf) | (refine And.intro (InR.i64 (by omega) (by omega)) ?_; conv => whnf) | (refine And.intro (show _ ≠ (0 : Int) by omega) ?_; conv => whnf) | (refine WIx.intsN (by omega) ?_; conv => whnf) | (refine WIx.rowsN (by omega) ?_; conv => whnf) | (refine WCall.pure (iR) ?_; conv => whnf) | ((with_reducible refine WB.decT (by first | with_reducible rfl | assumption | omega | exact ⟨rfl, rfl⟩) ?_); conv => whnf) | ((with_reducible refine WB.decF (by first | assumption | omega) ?_); conv => whnf) | ((with_reducible refine WB.ndT (by first | with_reducible rfl | assumption | omega | exact ⟨rfl, rfl⟩) ?_); conv => whnf) | ((with_reducible refine WB.ndF (by first | assumption | omega) ?_); conv => whnf) | ((with_reducible refine WB.nt ?_); conv => whnf) | ((with_reducible refine WB.nf ?_); conv => whnf) | ((with_reducible refine WB.dec (fun h => ?_) (fun h => ?_)) <;> conv => whnf) | ((with_reducible refine WB.ndec (fun h => ?_) (fun h => ?_)) <;> conv => whnf) | (refine WB.mk (fun h => ?_) (fun h => ?_) <;> conv => whnf) | (refine WB.tt ?_; conv => whnf) | (refine WB.ff ?_; conv => whnf)
    generalize min last ((z : Int) + long.tmod 4) = B at *
    obtain ⟨u, rfl⟩ := Int.eq_ofNat_of_zero_le (show 0 ≤ B by omega)
    have hzu : z ≤ u := by omega
    have hu : u < hs.length := by omega
    have iD1 := c_Dry last hs step [P] ms (z : Int) (u : Int) fun _ => hTl
    have iD2 := c_Dry last hs step [P] ms (z : Int) (min last ((u : Int) + 1)) fun _ => hTl
    have iD3 := c_Dry last hs step [P] ms (z : Int) (z : Int) fun _ => hTl
    have iW := c_Wet last hs step [P] ms 0 (z : Int) (by simp) fun _ => hTl
    have s1 : spanB last (z : Int) (u : Int) = true := by unfold spanB; rw [inB_iff.2 (by omega), inB_iff.2 (by omega)]; rfl
    have s2 : spanB last (z : Int) (min last ((u : Int) + 1)) = true := by unfold spanB; rw [inB_iff.2 (by omega), inB_iff.2 (by omega)]; rfl
    have s3 : spanB last (z : Int) (z : Int) = true := by unfold spanB; rw [inB_iff.2 (by omega), inB_iff.2 (by omega)]; rfl
    have s4 : cellB last [P] 0 (z : Int) = true := by unfold cellB; rw [inB_iff.2 (show (0 : Int) ≤ (z : Int) ∧ (z : Int) ≤ last by omega), inB_iff.2 (show (0 : Int) ≤ 0 ∧ (0 : Int) ≤ (([P] : List Int).length : Int) - 1 by simp)]; rfl
    have hE : startE last hs step [P] ms true = if truthS hs step ms = [] then 11 else 0 := by unfold startE; rw [if_pos hf]; rfl
    have hd1 : dryE last hs step [P] ms (z : Int) (u : Int) = startE last hs step [P] ms true := by unfold dryE; rw [s1]
    have hd2 : dryE last hs step [P] ms (z : Int) (min last ((u : Int) + 1)) = startE last hs step [P] ms true := by unfold dryE; rw [s2]
    have hd3 : dryE last hs step [P] ms (z : Int) (z : Int) = startE last hs step [P] ms true := by unfold dryE; rw [s3]
    have hd4 : wetE last hs step [P] ms 0 (z : Int) = startE last hs step [P] ms true := by unfold wetE; rw [s4]
    by_cases hne : truthS hs step ms = []
    · rw [if_pos hne] at hE
      rw [hE] at hd1 hd2 hd3 hd4
      have r1 : dryR last hs step [P] ms (z : Int) (u : Int) = 0 := by unfold dryR; rw [hd1]; rfl
      have r2 : dryR last hs step [P] ms (z : Int) (min last ((u : Int) + 1)) = 0 := by unfold dryR; rw [hd2]; rfl
      have r3 : dryR last hs step [P] ms (z : Int) (z : Int) = 0 := by unfold dryR; rw [hd3]; rfl
      have r4 : wetV last hs step [P] ms 0 (z : Int) = 0 := by unfold wetV; rw [hd4]; rfl
      rw [hd1, r1] at iD1
      rw [hd2, r2] at iD2
      rw [hd3, r3] at iD3
      rw [hd4, r4] at iW
      repeat' first | ((with_reducible apply WB.tt); conv => whnf) | ((with_reducible apply WB.ff); conv => whnf) | (refine Rn.seq ?_; conv => whnf) | (refine Rn.reg ?_; conv => whnf) | (refine Rn.drw ?_; conv => whnf) | (refine Rn.blk ?_; conv => whnf) | (refine Rn.skip ?_; conv => whnf) | (refine Rn.ret ?_; conv => whnf) | (refine Rn.exit ?_; conv => whnf) | (refine Rn.cond rfl ?_; conv => whnf) | (refine And.intro (InR.i64 (by omega) (by omega)) ?_; conv => whnf) | (refine And.intro (show _ ≠ (0 : Int) by omega) ?_; conv => whnf) | (refine WIx.intsN (by omega) ?_; conv => whnf) | (refine WIx.rowsN (by omega) ?_; conv => whnf) | (refine WCall.pure (iT0) ?_; conv => whnf) | (refine WCall.pure (iD1) ?_; conv => whnf) | (refine WCall.pure (iD2) ?_; conv => whnf) | (refine WCall.pure (iD3) ?_; conv => whnf) | (refine WCall.pure (iW) ?_; conv => whnf) | (refine WCall.pure (AW) ?_; conv => whnf) | ((with_reducible refine WB.decT (by first | with_reducible rfl | assumption | omega | exact ⟨rfl, rfl⟩) ?_); conv => whnf) | ((with_reducible refine WB.decF (by first | assumption | omega) ?_); conv => whnf) | ((with_reducible refine WB.ndT (by first | with_reducible rfl | assumption | omega | exact ⟨rfl, rfl⟩) ?_); conv => whnf) | ((with_reducible refine WB.ndF (by first | assumption | omega) ?_); conv => whnf) | ((with_reducible refine WB.nt ?_); conv => whnf) | ((with_reducible refine WB.nf ?_); conv => whnf) | ((with_reducible refine WB.dec (fun h => ?_) (fun h => ?_)) <;> conv => whnf) | ((with_reducible refine WB.ndec (fun h => ?_) (fun h => ?_)) <;> conv => whnf) | (refine WB.mk (fun h => ?_) (fun h => ?_) <;> conv => whnf) | (refine WB.tt ?_; conv => whnf) | (refine WB.ff ?_; conv => whnf)
      all_goals first | exact Fin.b rfl rfl | (exfalso; omega) | exact absurd h (by decide)
    · rw [if_neg hne] at hE
      rw [hE] at hd1 hd2 hd3 hd4
      have hp : 0 < (truthS hs step ms).length := List.length_pos_iff.2 hne
      have hpR : 0 < (truthsR hs step ms).length := by
        cases hL : truthsR hs step ms with
        | nil => exact absurd ((truth_nil V hm).2 hL) hne
        | cons a s => simp
      have r1 : dryR last hs step [P] ms (z : Int) (u : Int) = dryT (truthS hs step ms) z (u + 1 - z) := by unfold dryR; rw [if_pos hd1]; congr 1; omega
      have r2 : dryR last hs step [P] ms (z : Int) (min last ((u : Int) + 1)) = dryT (truthS hs step ms) z (min last ((u : Int) + 1) + 1 - (z : Int)).toNat := by unfold dryR; rw [if_pos hd2]; rfl
      have r3 : dryR last hs step [P] ms (z : Int) (z : Int) = dryT (truthS hs step ms) z 1 := by unfold dryR; rw [if_pos hd3]; congr 1; omega
      have r4 : wetV last hs step [P] ms 0 (z : Int) = verN (truthsR hs step ms) P z := by
        unfold wetV
        rw [if_pos hd4]
        exact ver_same V hm hp hz P
      have iP1 := c_ProveDry last hs step [P] ms (z : Int) (u : Int) (dryT (truthS hs step ms) z (u + 1 - z)) fun _ => hTl
      have iP2 := c_ProveDry last hs step [P] ms (z : Int) (u : Int) (dryT (truthS hs step ms) z (u + 1 - z) - 1) fun _ => hTl
      have iI := c_In (dryT (truthS hs step ms) z (u + 1 - z)) 0 99
      rw [hd1, r1, decide_eq_true rfl, decide_eq_true (Int.le_refl _)] at iP1
      rw [hd1, r1, decide_eq_true rfl, decide_eq_false (by omega)] at iP2
      have iP1 : PureF Try.prog p42.ix [.ag [.i .i64 last, .lst 2 (rows rgD hs), .i .i64 step, .lst 1 (ints [P]), .lst 4 (rows mkD ms)], .i .i64 (z : Int), .i .i64 (u : Int), .i .i64 (dryT (truthS hs step ms) z (u + 1 - z))] (.b true) := iP1
      have iP2 : PureF Try.prog p42.ix [.ag [.i .i64 last, .lst 2 (rows rgD hs), .i .i64 step, .lst 1 (ints [P]), .lst 4 (rows mkD ms)], .i .i64 (z : Int), .i .i64 (u : Int), .i .i64 (dryT (truthS hs step ms) z (u + 1 - z) - 1)] (.b false) := iP2
      rw [hd1, r1] at iD1
      rw [hd2, r2] at iD2
      rw [hd3, r3] at iD3
      rw [hd4, r4] at iW
      have hnm : dryT (truthS hs step ms) z (u + 1 - z) ≤ dryT (truthS hs step ms) z (min last ((u : Int) + 1) + 1 - (z : Int)).toNat := dryT_mono _ _ (by omega)
      have hkn : dryT (truthS hs step ms) z 1 ≤ dryT (truthS hs step ms) z (u + 1 - z) := dryT_mono _ _ (by omega)
      have h99 := dry_99 V hm hp (f := z) (m := u + 1 - z) (by omega) (by omega)
      rw [inB_iff.2 h99] at iI
      have hk1 : dryT (truthS hs step ms) z 1 ≤ P ↔ verN (truthsR hs step ms) P z = 2 := by
        rw [dry_at V hm hp (by omega) (by omega), verN_two hpR]
        exact ⟨fun h t ht => h 0 (by omega) t ht, fun h k hk t ht => by rw [show k = 0 by omega]; exact h t ht⟩
      have hat := dry_at V hm hp (f := z) (m := u + 1 - z) (by omega) (by omega)
      have hv3 := verN_range (truthsR hs step ms) P z
      clear r1 r2 r3 r4 hd1 hd2 hd3 hd4 s1 s2 s3 s4 hE
      generalize dryT (truthS hs step ms) z (u + 1 - z) = n at *
      generalize dryT (truthS hs step ms) z (min last ((u : Int) + 1) + 1 - (z : Int)).toNat = m at *
      generalize dryT (truthS hs step ms) z 1 = k at *
      have hcmp : (verN (truthsR hs step ms) P z = 2 ∧ k ≤ P) ∨ (¬ verN (truthsR hs step ms) P z = 2 ∧ ¬ k ≤ P) := by
        by_cases h : k ≤ P
        · exact .inl ⟨hk1.1 h, h⟩
        · exact .inr ⟨fun e => h (hk1.2 e), h⟩
      have key : ∀ v : Int, ((v = 2 ∧ k ≤ P) ∨ (¬ v = 2 ∧ ¬ k ≤ P)) → (!(decide (v = 2) == decide (k ≤ P))) = false := fun v h => by
        rcases h with ⟨h1, h2⟩ | ⟨h1, h2⟩
        · rw [decide_eq_true h1, decide_eq_true h2]; rfl
        · rw [decide_eq_false h1, decide_eq_false h2]; rfl
      have hkey := key _ hcmp
      generalize verN (truthsR hs step ms) P z = v at *
      repeat' first | ((with_reducible apply WB.tt); conv => whnf) | ((with_reducible apply WB.ff); conv => whnf) | (refine Rn.seq ?_; conv => whnf) | (refine Rn.reg ?_; conv => whnf) | (refine Rn.drw ?_; conv => whnf) | (refine Rn.blk ?_; conv => whnf) | (refine Rn.skip ?_; conv => whnf) | (refine Rn.ret ?_; conv => whnf) | (refine Rn.exit ?_; conv => whnf) | (refine Rn.cond rfl ?_; conv => whnf) | (refine And.intro (InR.i64 (by omega) (by omega)) ?_; conv => whnf) | (refine And.intro (show _ ≠ (0 : Int) by omega) ?_; conv => whnf) | (refine WIx.intsN (by omega) ?_; conv => whnf) | (refine WIx.rowsN (by omega) ?_; conv => whnf) | (refine WCall.pure (iT0) ?_; conv => whnf) | (refine WCall.pure (iD1) ?_; conv => whnf) | (refine WCall.pure (iD2) ?_; conv => whnf) | (refine WCall.pure (iD3) ?_; conv => whnf) | (refine WCall.pure (iW) ?_; conv => whnf) | (refine WCall.pure (iP1) ?_; conv => whnf) | (refine WCall.pure (iP2) ?_; conv => whnf) | ((with_reducible refine WB.decT (by first | with_reducible rfl | assumption | omega | exact ⟨rfl, rfl⟩) ?_); conv => whnf) | ((with_reducible refine WB.decF (by first | assumption | omega) ?_); conv => whnf) | ((with_reducible refine WB.ndT (by first | with_reducible rfl | assumption | omega | exact ⟨rfl, rfl⟩) ?_); conv => whnf) | ((with_reducible refine WB.ndF (by first | assumption | omega) ?_); conv => whnf) | ((with_reducible refine WB.nt ?_); conv => whnf) | ((with_reducible refine WB.nf ?_); conv => whnf) | (refine WB.eqF hkey ?_; conv => whnf) | (refine WIx.i0 ?_; conv => whnf) | (refine WB.tt ?_; conv => whnf) | (refine WB.ff ?_; conv => whnf)
      refine WCall.pure iI ?_; conv => whnf
      repeat' first | (refine WB.tt ?_; conv => whnf) | (refine WB.ff ?_; conv => whnf) | (refine Rn.cond rfl ?_; conv => whnf) | (refine Rn.skip ?_; conv => whnf)
      refine Rn.seqB ?_; conv => whnf
      repeat' first | ((with_reducible apply WB.tt); conv => whnf) | ((with_reducible apply WB.ff); conv => whnf) | (refine Rn.seq ?_; conv => whnf) | (refine Rn.reg ?_; conv => whnf) | (refine Rn.drw ?_; conv => whnf) | (refine Rn.blk ?_; conv => whnf) | (refine Rn.skip ?_; conv => whnf) | (refine Rn.ret ?_; conv => whnf) | (refine Rn.exit ?_; conv => whnf) | (refine Rn.cond rfl ?_; conv => whnf) | (refine And.intro (InR.i64 (by omega) (by omega)) ?_; conv => whnf) | (refine And.intro (show _ ≠ (0 : Int) by omega) ?_; conv => whnf) | (refine WIx.intsN (by omega) ?_; conv => whnf) | (refine WIx.rowsN (by omega) ?_; conv => whnf)
      refine ⟨rfl, leY last hs step ms z u n (max 0 (n - 1)), (fun id => id.nat < 4), ?_, (fun id (h : id.nat < 3) => show id.nat < 4 by omega), (fun id h => h), (show 3 ≤ 4 by omega), ?_⟩
      · refine ShrB.of ?_ ?_ rfl rfl
        · show Rel _ _ ((.n (.n (.n .e none (.n .e (some (.i .i64 (u : Int))) .e)) none .e) none (.n (.n .e none (.n (.n .e (some (.pt (.i .h) 0 0)) .e) (some (.i .i64 n)) .e)) none (.n (.n .e (some (.i .i64 (z : Int))) .e) none .e))) : T D) _
          (repeat' first | exact Rel.e | refine Rel.some ?_ ?_ ?_ | refine Rel.none ?_ ?_ | refine Rel.ee ?_ ?_)
          all_goals show Fz _ _ _ _
          all_goals first | exact .pu trivial | exact .kpt (show _ < 4 by simp [Pos.nat])
        · show Rel _ _ ((.n .e none (.n .e (some (tabC last hs step [n, max 0 (n - 1)] ms)) .e)) : T C) _
          (repeat' first | exact Rel.e | refine Rel.some ?_ ?_ ?_ | refine Rel.none ?_ ?_ | refine Rel.ee ?_ ?_)
          refine ⟨show _ < 4 by simp [Pos.nat], tab_sh ?_⟩
          exact Fz.grown (ds := []) (r := [.i .i64 n, .i .i64 (max 0 (n - 1))]) (s1 := 0) (show ¬ 4 < 4 by omega) rfl rfl (Nat.le_refl _) rfl rfl (ints_one _) (pu_ints _)
      have hf2 : faultR last hs step [n, max 0 (n - 1)] ms = 0 := fault_lv hf _ (by simp) fun x hx => by
        rcases List.mem_cons.1 hx with rfl | hx
        · omega
        · rcases List.mem_cons.1 hx with rfl | hx
          · omega
          · cases hx
      have iTy := c_Table last hs step [n, max 0 (n - 1)] ms (by omega) (by simp) (by omega)
      have hE2 : startE last hs step [n, max 0 (n - 1)] ms true = 0 := by unfold startE; rw [if_pos hf2, cond_true, if_neg hne]
      have hat2 : ∀ h, z ≤ h → h ≤ u → verN (truthsR hs step ms) n h = 2 := fun h h1 h2 => (verN_two hpR).2 fun t ht => by
        have := (hat n).1 (Int.le_refl _) (h - z) (by omega) t ht
        rwa [show z + (h - z) = h by omega] at this
      have iW0 := fun (h : Nat) => c_Wet last hs step [n, max 0 (n - 1)] ms 0 (h : Int) (by simp) fun _ => hTl
      have iW1 := fun (h : Nat) => c_Wet last hs step [n, max 0 (n - 1)] ms 1 (h : Int) (by simp) fun _ => hTl
      have w0 : ∀ h : Nat, z ≤ h → h ≤ u → wetE last hs step [n, max 0 (n - 1)] ms 0 (h : Int) = 0 ∧ wetV last hs step [n, max 0 (n - 1)] ms 0 (h : Int) = 2 := fun h h1 h2 => by
        have hc : cellB last [n, max 0 (n - 1)] 0 (h : Int) = true := by unfold cellB; rw [inB_iff.2 (show (0 : Int) ≤ (h : Int) ∧ (h : Int) ≤ last by omega), inB_iff.2 (show (0 : Int) ≤ 0 ∧ (0 : Int) ≤ (([n, max 0 (n - 1)] : List Int).length : Int) - 1 by simp)]; rfl
        have he : wetE last hs step [n, max 0 (n - 1)] ms 0 (h : Int) = 0 := by unfold wetE; rw [hc]; exact hE2
        refine ⟨he, ?_⟩
        unfold wetV
        rw [if_pos he]
        exact (ver_same V hm hp (by omega) n).trans (hat2 h h1 h2)
      have w1 : ∀ h : Nat, z ≤ h → h ≤ u → wetE last hs step [n, max 0 (n - 1)] ms 1 (h : Int) = 0 ∧ wetV last hs step [n, max 0 (n - 1)] ms 1 (h : Int) = verN (truthsR hs step ms) (max 0 (n - 1)) h := fun h h1 h2 => by
        have hc : cellB last [n, max 0 (n - 1)] 1 (h : Int) = true := by unfold cellB; rw [inB_iff.2 (show (0 : Int) ≤ (h : Int) ∧ (h : Int) ≤ last by omega), inB_iff.2 (show (0 : Int) ≤ 1 ∧ (1 : Int) ≤ (([n, max 0 (n - 1)] : List Int).length : Int) - 1 by simp)]; rfl
        have he : wetE last hs step [n, max 0 (n - 1)] ms 1 (h : Int) = 0 := by unfold wetE; rw [hc]; exact hE2
        refine ⟨he, ?_⟩
        unfold wetV
        rw [if_pos he]
        exact ver_same V hm hp (by omega) _
      have hfin : wetJ (truthsR hs step ms) (max 0 (n - 1)) z (u + 1 - z) = true ∨ n = 0 := by
        by_cases h0 : n = 0
        · exact .inr h0
        · refine .inl ?_
          cases hw : wetJ (truthsR hs step ms) (max 0 (n - 1)) z (u + 1 - z) with
          | true => rfl
          | false =>
            exfalso
            have : n ≤ n - 1 := (hat (n - 1)).2 fun i hi t ht => by
              unfold wetJ at hw
              have h8 := List.any_eq_false.1 hw i (List.mem_range.2 hi)
              have h9 : verN (truthsR hs step ms) (max 0 (n - 1)) (z + i) = 2 := by simpa using h8
              have := (verN_two hpR).1 h9 t ht
              omega
            omega
      conv => whnf
      repeat' first | ((with_reducible apply WB.tt); conv => whnf) | ((with_reducible apply WB.ff); conv => whnf) | (refine Rn.seq ?_; conv => whnf) | (refine Rn.reg ?_; conv => whnf) | (refine Rn.drw ?_; conv => whnf) | (refine Rn.blk ?_; conv => whnf) | (refine Rn.skip ?_; conv => whnf) | (refine Rn.ret ?_; conv => whnf) | (refine Rn.exit ?_; conv => whnf) | (refine Rn.cond rfl ?_; conv => whnf) | (refine And.intro (InR.i64 (by omega) (by omega)) ?_; conv => whnf) | (refine And.intro (show _ ≠ (0 : Int) by omega) ?_; conv => whnf) | (refine WIx.intsN (by omega) ?_; conv => whnf) | (refine WIx.rowsN (by omega) ?_; conv => whnf)
      refine Rn.loop (fun j : Nat => ⟨(.n (.n (.n .e none (.n .e (some (.i .i64 (u : Int))) .e)) none (.n .e none (.n (.n .e (some (.b (wetJ (truthsR hs step ms) (max 0 (n - 1)) z j))) .e) none .e))) none (.n (.n .e none (.n (.n .e (some (.pt (.i .h) 0 0)) .e) (some (.i .i64 n)) .e)) none (.n .e none (.n (.n .e (some (.i .i64 ((z + j : Nat) : Int))) .e) none .e)))), (.n .e none (.n .e (some (tabC last hs step [n, max 0 (n - 1)] ms)) .e)), .o (.o .h), none⟩) (fun j => z + j ≤ u + 1) (fun j => u + 1 - j) 0 ?_ ?_ ?_
      · refine X.le.mk ?_ ?_ (Nat.le_refl _) rfl rfl
        · show T.le ((.n (.n (.n .e none (.n .e (some (.i .i64 (u : Int))) .e)) none (.n .e none (.n (.n .e (some (.b (false))) .e) none .e))) none (.n (.n .e none (.n (.n .e (some (.pt (.i .h) 0 0)) .e) (some (.i .i64 n)) .e)) none (.n .e none (.n (.n .e (some (.i .i64 ((z : Nat) : Int))) .e) none .e)))) : T D) _
          (repeat' first | exact T.le_e _ | refine T.le_some ?_ rfl ?_ | refine T.le_none ?_ ?_)
        · show T.le ((.n .e none (.n .e (some (tabC last hs step [n, max 0 (n - 1)] ms)) .e)) : T C) _
          (repeat' first | exact T.le_e _ | refine T.le_some ?_ rfl ?_ | refine T.le_none ?_ ?_ | refine T.le_ee ?_ ?_)
      · omega
      intro j hj
      have hj : z + j ≤ u + 1 := hj
      have hsc := wetJ_succ (truthsR hs step ms) (max 0 (n - 1)) z j
      have hej : ¬ z + j ≤ u → wetJ (truthsR hs step ms) (max 0 (n - 1)) z j = true ∨ n = 0 := fun h => by rw [show j = u + 1 - z by omega]; exact hfin
      conv => whnf
      repeat' first | ((with_reducible apply WB.tt); conv => whnf) | ((with_reducible apply WB.ff); conv => whnf) | (refine Rn.seq ?_; conv => whnf) | (refine Rn.reg ?_; conv => whnf) | (refine Rn.drw ?_; conv => whnf) | (refine Rn.blk ?_; conv => whnf) | (refine Rn.skip ?_; conv => whnf) | (refine Rn.ret ?_; conv => whnf) | (refine Rn.exit ?_; conv => whnf) | (refine Rn.cond rfl ?_; conv => whnf) | (refine And.intro (InR.i64 (by omega) (by omega)) ?_; conv => whnf) | (refine And.intro (show _ ≠ (0 : Int) by omega) ?_; conv => whnf) | (refine WIx.intsN (by omega) ?_; conv => whnf) | (refine WIx.rowsN (by omega) ?_; conv => whnf)
      refine WB.dec (fun h => ?_) (fun h => ?_) <;> conv => whnf
      · have hlt : z + j ≤ u := by omega
        have c0 := iW0 (z + j)
        have c1 := iW1 (z + j)
        rw [(w0 (z + j) (by omega) hlt).1, (w0 (z + j) (by omega) hlt).2] at c0
        rw [(w1 (z + j) (by omega) hlt).1, (w1 (z + j) (by omega) hlt).2] at c1
        generalize verN (truthsR hs step ms) (max 0 (n - 1)) (z + j) = vq at *
        generalize wetJ (truthsR hs step ms) (max 0 (n - 1)) z j = a at *
        cases a
        all_goals
          simp only [Bool.true_or, Bool.false_or] at hsc
          repeat' first | ((with_reducible apply WB.tt); conv => whnf) | ((with_reducible apply WB.ff); conv => whnf) | (refine Rn.seq ?_; conv => whnf) | (refine Rn.reg ?_; conv => whnf) | (refine Rn.drw ?_; conv => whnf) | (refine Rn.blk ?_; conv => whnf) | (refine Rn.skip ?_; conv => whnf) | (refine Rn.ret ?_; conv => whnf) | (refine Rn.exit ?_; conv => whnf) | (refine Rn.cond rfl ?_; conv => whnf) | (refine And.intro (InR.i64 (by omega) (by omega)) ?_; conv => whnf) | (refine And.intro (show _ ≠ (0 : Int) by omega) ?_; conv => whnf) | (refine WIx.intsN (by omega) ?_; conv => whnf) | (refine WIx.rowsN (by omega) ?_; conv => whnf) | (refine WCall.pure (iTy) ?_; conv => whnf) | (refine WCall.pure (c0) ?_; conv => whnf) | (refine WCall.pure (c1) ?_; conv => whnf) | ((with_reducible refine WB.decT (by first | with_reducible rfl | assumption | omega | exact ⟨rfl, rfl⟩) ?_); conv => whnf) | ((with_reducible refine WB.decF (by first | assumption | omega) ?_); conv => whnf) | ((with_reducible refine WB.ndT (by first | with_reducible rfl | assumption | omega | exact ⟨rfl, rfl⟩) ?_); conv => whnf) | ((with_reducible refine WB.ndF (by first | assumption | omega) ?_); conv => whnf) | ((with_reducible refine WB.nt ?_); conv => whnf) | ((with_reducible refine WB.nf ?_); conv => whnf) | (refine WB.tt ?_; conv => whnf) | (refine WB.ff ?_; conv => whnf)
          refine Again.to (j + 1) (by omega) (by omega) (Nat.le_refl _) ?_
          refine Shr.of ?_ ?_ rfl rfl
          · show Rel _ _ ((.n (.n (.n .e none (.n .e (some (.i .i64 (u : Int))) .e)) none (.n .e none (.n (.n .e (some (.b (wetJ (truthsR hs step ms) (max 0 (n - 1)) z (j + 1)))) .e) none .e))) none (.n (.n .e none (.n (.n .e (some (.pt (.i .h) 0 0)) .e) (some (.i .i64 n)) .e)) none (.n .e none (.n (.n .e (some (.i .i64 ((z + (j + 1) : Nat) : Int))) .e) none .e)))) : T D) _
            rw [hsc]
            (repeat' first | exact Rel.e | refine Rel.some ?_ ?_ ?_ | refine Rel.none ?_ ?_ | refine Rel.ee ?_ ?_)
            all_goals show Fz _ _ _ _
            all_goals first | exact .pu trivial | exact .kpt (show _ < 4 by simp [Pos.nat]) | (refine Fz.i ?_; omega)
          · show Rel _ _ ((.n .e none (.n .e (some (tabC last hs step [n, max 0 (n - 1)] ms)) .e)) : T C) _
            (repeat' first | exact Rel.e | refine Rel.some ?_ ?_ ?_ | refine Rel.none ?_ ?_ | refine Rel.ee ?_ ?_)
            exact RO'.of (show _ < 4 by simp [Pos.nat]) (tabC_sh last hs step [n, max 0 (n - 1)] ms)
      · have hf3 := hej (by omega)
        generalize wetJ (truthsR hs step ms) (max 0 (n - 1)) z j = a at *
        cases a with
        | true =>
          repeat' first | ((with_reducible apply WB.tt); conv => whnf) | ((with_reducible apply WB.ff); conv => whnf) | (refine Rn.seq ?_; conv => whnf) | (refine Rn.reg ?_; conv => whnf) | (refine Rn.drw ?_; conv => whnf) | (refine Rn.blk ?_; conv => whnf) | (refine Rn.skip ?_; conv => whnf) | (refine Rn.ret ?_; conv => whnf) | (refine Rn.exit ?_; conv => whnf) | (refine Rn.cond rfl ?_; conv => whnf) | (refine And.intro (InR.i64 (by omega) (by omega)) ?_; conv => whnf) | (refine And.intro (show _ ≠ (0 : Int) by omega) ?_; conv => whnf) | (refine WIx.intsN (by omega) ?_; conv => whnf) | (refine WIx.rowsN (by omega) ?_; conv => whnf) | (refine WCall.pure (AW) ?_; conv => whnf) | ((with_reducible refine WB.decT (by first | with_reducible rfl | assumption | omega | exact ⟨rfl, rfl⟩) ?_); conv => whnf) | ((with_reducible refine WB.decF (by first | assumption | omega) ?_); conv => whnf) | ((with_reducible refine WB.ndT (by first | with_reducible rfl | assumption | omega | exact ⟨rfl, rfl⟩) ?_); conv => whnf) | ((with_reducible refine WB.ndF (by first | assumption | omega) ?_); conv => whnf) | ((with_reducible refine WB.nt ?_); conv => whnf) | ((with_reducible refine WB.nf ?_); conv => whnf) | ((with_reducible refine WB.dec (fun h => ?_) (fun h => ?_)) <;> conv => whnf) | ((with_reducible refine WB.ndec (fun h => ?_) (fun h => ?_)) <;> conv => whnf) | (refine WB.mk (fun h => ?_) (fun h => ?_) <;> conv => whnf) | (refine WB.tt ?_; conv => whnf) | (refine WB.ff ?_; conv => whnf)
          exact Fin.b rfl rfl
        | false =>
          have h0 : n = 0 := by
            rcases hf3 with h | h
            · cases h
            · exact h
          repeat' first | ((with_reducible apply WB.tt); conv => whnf) | ((with_reducible apply WB.ff); conv => whnf) | (refine Rn.seq ?_; conv => whnf) | (refine Rn.reg ?_; conv => whnf) | (refine Rn.drw ?_; conv => whnf) | (refine Rn.blk ?_; conv => whnf) | (refine Rn.skip ?_; conv => whnf) | (refine Rn.ret ?_; conv => whnf) | (refine Rn.exit ?_; conv => whnf) | (refine Rn.cond rfl ?_; conv => whnf) | (refine And.intro (InR.i64 (by omega) (by omega)) ?_; conv => whnf) | (refine And.intro (show _ ≠ (0 : Int) by omega) ?_; conv => whnf) | (refine WIx.intsN (by omega) ?_; conv => whnf) | (refine WIx.rowsN (by omega) ?_; conv => whnf) | (refine WCall.pure (AW) ?_; conv => whnf) | ((with_reducible refine WB.decT (by first | with_reducible rfl | assumption | omega | exact ⟨rfl, rfl⟩) ?_); conv => whnf) | ((with_reducible refine WB.decF (by first | assumption | omega) ?_); conv => whnf) | ((with_reducible refine WB.ndT (by first | with_reducible rfl | assumption | omega | exact ⟨rfl, rfl⟩) ?_); conv => whnf) | ((with_reducible refine WB.ndF (by first | assumption | omega) ?_); conv => whnf) | ((with_reducible refine WB.nt ?_); conv => whnf) | ((with_reducible refine WB.nf ?_); conv => whnf) | ((with_reducible refine WB.dec (fun h => ?_) (fun h => ?_)) <;> conv => whnf) | ((with_reducible refine WB.ndec (fun h => ?_) (fun h => ?_)) <;> conv => whnf) | (refine WB.mk (fun h => ?_) (fun h => ?_) <;> conv => whnf) | (refine WB.tt ?_; conv => whnf) | (refine WB.ff ?_; conv => whnf)
          all_goals first | exact Fin.b rfl rfl | (exfalso; omega)
theorem main_tideLevel (AW : PureF Try.prog p21.ix [] (.b true)) {es : List D} (fit : FitP [(true, [.i .i64, .sl [.i .i64, .i .i64], .i .i64, .sl [.i .i64], .sl [.i .i64, .i .i64, .i .i64, .i .i64]]), (false, [.i .u8]), (false, [.i .u8]), (false, [.i .u8])] es) : PureF Try.prog 12 es (.b true) := by
  obtain ⟨last, hs, step, lv, ms, _, rfl, g1⟩ := fit.tab
  obtain ⟨f, _, rfl, w1, g2⟩ := g1.i
  obtain ⟨t, _, rfl, w2, g3⟩ := g2.i
  obtain ⟨u, _, rfl, w3, g4⟩ := g3.i
  obtain rfl := g4.no
  exact c_TideLevel last hs step lv ms f t u (wf_u8 w1) (wf_u8 w2) (wf_u8 w3) AW
end Go.Ev

namespace Go.Proofs.Ytpemagogcagipaa.tideLevel
open Go.ChangeShapes Go.WideShapes Go.ChangeAt Go.RowKit
open Go.ChangeMaps (open_string shut_string)
set_option linter.unusedVariables false

theorem laid : laidOutB Try.prog = true := by kernel_rfl
theorem own : ownKnob Try.prog.godebug = none := by kernel_rfl

/-! ### the walk -/
theorem walk {es : List Go.Ev.D} (fit : Go.Ev.FitP [(true, [.i .i64, .sl [.i .i64, .i .i64], .i .i64, .sl [.i .i64], .sl [.i .i64, .i .i64, .i .i64, .i .i64]]), (false, [.i .u8]), (false, [.i .u8]), (false, [.i .u8])] es) {args : Array Value} {W : World} (ha : Go.Ev.DVL (Go.Ev.γH W) W es args.toList) :
    Calls Try.prog 12 args W fun e w' => e = .returned (.bool true) ∧ Grown W w' ∧ Below W.heap.size W w' :=
  Go.Ev.PureF.calls (Go.Ev.main_tideLevel (fun ob nx lg => Go.Ev.closed_call Go.Ev.fp_ok Go.Ev.aw ob nx lg) fit) ha

set_option maxRecDepth 100000 in
theorem lifted (os : Os) (started : os.Started) (H : Type) (enc : TypeId × Value → H) :
    ReturnsInHanded {} Try.checked os 12 .any (Rows.tideLevelSpec.pre6 enc Try.prog Try.f12 Rows.tideLevelRow.domain false) (Rows.tideLevelSpec.post enc Try.prog Try.f12 false true false false) := by
  refine returnsInHanded_of_change (C := Try.checked) own started (by kernel_rfl) Try.func12
    (ChangeSpec.witness6 (enc := enc) (C := Try.checked) false ⟨#[], #[.agg #[.int .i64 0, .slice none 0 0, .int .i64 0, .slice none 0 0, .slice none 0 0], .int .u8 0, .int .u8 0, .int .u8 0], []⟩ 8 (by kernel_rfl) (by kernel_rfl) (by kernel_rfl) (by kernel_rfl)) ?_
  intro W base args ds gs before hval0 hW hcnd _
  have hval : ∀ (j : Nat) t v, Try.f12.params[j]? = some t → args[j]? = some v → Value.okWide Try.prog W .any base t v := hval0
  have hW' := hW
  obtain ⟨p, q, hA0, hV, rfl, hfz, hnd⟩ := hW
  have hA : DataW.TrodAll enc Try.prog W 0 (fun _ => true) true Try.f12.params.toList args.toList ds p := hA0
  rw [Try.params12] at hA hval
  obtain ⟨rfl, rfl⟩ := trodVars_none hV
  obtain ⟨d0, d1, d2, d3, rfl⟩ := Go.Ev.len4 (Go.Ev.trod_len hA)
  clear hA0 hval0
  simp only [List.append_nil] at hW'
  obtain ⟨es, fit, dv⟩ := Go.Ev.open_all (n := 6) (pars := [(true, [.i .i64, .sl [.i .i64, .i .i64], .i .i64, .sl [.i .i64], .sl [.i .i64, .i .i64, .i .i64, .i .i64]]), (false, [.i .u8]), (false, [.i .u8]), (false, [.i .u8])]) (by kernel_rfl) hA (fun j t v h1 h2 => hval j t v (by simpa using h1) (by simpa using h2))
  have hlt : ∀ x ∈ p, x.block < W.heap.size := fun x hx => by simpa using hW'.lt x hx
  refine (walk fit dv).mono fun e W' ⟨he, hg, hb⟩ => ?_
  subst he
  exact ⟨_, rfl, post_of_same (pa := p) (pv := []) hW' (fun _ _ _ => (trodAll_cons_mk (shut_bool Try.underlying4 _) trodAll_mk0))
    (fun sp hs => Go.Ev.stays_all laid (Go.Ev.of_allT (by kernel_rfl)) hA (fun x hx => hb.same (hlt x hx)) (fun x hx => hs x hx))
    (fun _ _ => rfl) (List.append_nil _).symm
    (hg.frame _) hg.2.1 (ok_one (by kernel_rfl) rfl (okWide_bool_mk Try.underlying4 _))⟩

theorem over : Rows.tideLevelRow.holds Try.pinned (OpenSpec.ofChange Rows.tideLevelSpec) :=
  OpenClaim.holds_of_wide 12 Try.f12 rfl rfl rfl rfl rfl rfl rfl ⟨rfl, rfl, rfl, rfl, rfl⟩ rfl rfl rfl rfl rfl (by kernel_rfl) Try.func12 (by kernel_rfl)
    (of_decide_eq_true (by kernel_rfl)) (by unfold Func.isWrapper; first | (rw [if_pos (by decide +kernel)]; kernel_rfl) | (rw [if_neg (by decide +kernel)]; exact ⟨rfl, rfl⟩))
    (fun os started H enc _ => lifted os started H enc)

/-- ████ THE STATEMENT ████ -/
theorem proved : Rows.TideLevelSaid :=
  over
#print axioms proved
end Go.Proofs.Ytpemagogcagipaa.tideLevel
