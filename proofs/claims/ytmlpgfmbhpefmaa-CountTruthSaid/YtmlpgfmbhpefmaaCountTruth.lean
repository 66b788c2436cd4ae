/-
  The law CountTruth answers true for every input (a row, a number, words and two numbers), and leaves memory as it was, whatever the state of the machine that it starts in. No conditions. (Its functions are taken one by one by what they answer on values; ranges over iterators by induction over what a consumer makes of the truths; awake, which it calls last, is closed and is run inside the kernel.)
-/
import Derived.Test.YtmlpgfmbhpefmaaRows
import Derived.WalkKit
import Derived.ProofKit
import Derived.OpenShut
import Derived.Test.YtmlpgfmbhpefmaaEvFt
import Derived.Test.YtmlpgfmbhpefmaaEvKw
import Derived.Test.YtmlpgfmbhpefmaaEvS1B
import Derived.ShutString
set_option linter.all false
namespace Go.Ev
open Go.Proofs
set_option maxRecDepth 1000000
noncomputable def rc9 : RC := (.seq (.reg [(.u (.box p6 (.t p1))), (.u (.mv p11 (.k (.b false))))]) (.seq (.seq (.reg [(.u (.ldn p29 (.t p6) 4)), (.u (.cf (some p30) p51 [(.t p29)])), (.u (.un p31 .not (.t p30)))]) (.cond (.t p31) (.seq (.reg [(.u (.cf (some p32) p20 [])), (.u (.mv p11 (.t p32)))]) .ret) .skip)) (.seq (.reg [(.u (.ldn p34 (.t p6) 4)), (.u (.mv p35 (.t p2))), (.u (.mv p36 (.t p3))), (.u (.cf (some p37) p52 [(.t p34), (.t p35), (.t p36)])), (.u (.mv p33 (.t p37))), (.u (.ext p38 (.t p33) 0)), (.u (.ext p39 (.t p33) 1)), (.u (.new p12 [.ns, .ns, (.i .i64 0), (.i .i64 0)])), (.u (.st (.t p12) (.t p38) 4)), (.u (.mv p13 (.t p39)))]) (.seq (.reg [(.u (.ldn p41 (.t p12) 4)), (.u (.mv p42 (.t p4))), (.u (.mv p43 (.t p5))), (.u (.cf (some p44) p53 [(.t p41), (.t p42), (.t p43)])), (.u (.mv p40 (.t p44))), (.u (.ext p45 (.t p40) 0)), (.u (.ext p46 (.t p40) 1)), (.u (.mv p14 (.t p45))), (.u (.mv p15 (.t p46)))]) (.seq (.reg [(.u (.ldn p48 (.t p12) 4)), (.u (.cf (some p49) p22 [(.t p48)])), (.u (.mv p50 (.t p13))), (.u (.cf (some p51) p23 [(.t p50)])), (.u (.cf (some p52) p21 [(.t p49), (.t p51)])), (.u (.mv p47 (.t p52))), (.u (.ext p53 (.t p47) 0)), (.u (.ext p54 (.t p47) 1)), (.u (.mv p16 (.t p53))), (.u (.mv p17 (.t p54)))]) (.seq (.reg [(.u (.ldn p56 (.t p12) 4)), (.u (.cf (some p57) p22 [(.t p56)])), (.u (.mv p58 (.t p14))), (.u (.mv p59 (.t p15))), (.u (.cf (some p60) p30 [(.t p57), (.t p58), (.t p59)])), (.u (.mv p55 (.t p60))), (.u (.ext p61 (.t p55) 0)), (.u (.ext p62 (.t p55) 1)), (.u (.new p18 [(.i .i64 0), (.i .i64 0)])), (.u (.st (.t p18) (.t p61) 2)), (.u (.mv p19 (.t p62)))]) (.seq (.reg [(.u (.ldn p64 (.t p12) 4)), (.u (.cf (some p65) p22 [(.t p64)])), (.u (.cf (some p66) p35 [(.t p65)])), (.u (.mv p63 (.t p66))), (.u (.ext p67 (.t p63) 0)), (.u (.ext p68 (.t p63) 1)), (.u (.mv p20 (.t p67))), (.u (.mv p21 (.t p68)))]) (.seq (.reg [(.u (.ldn p70 (.t p12) 4)), (.u (.cf (some p71) p22 [(.t p70)])), (.u (.cf (some p72) p36 [(.t p71)])), (.u (.mv p69 (.t p72))), (.u (.ext p73 (.t p69) 0)), (.u (.ext p74 (.t p69) 1)), (.u (.mv p22 (.t p73))), (.u (.mv p23 (.t p74)))]) (.seq (.reg [(.u (.ldn p76 (.t p12) 4)), (.u (.cf (some p77) p22 [(.t p76)])), (.u (.cf (some p78) p39 [(.t p77)])), (.u (.mv p75 (.t p78))), (.u (.ext p79 (.t p75) 0)), (.u (.ext p80 (.t p75) 1)), (.u (.mv p24 (.t p79))), (.u (.mv p25 (.t p80)))]) (.seq (.seq (.drw [(.u (.mv p81 (.t p17))), (.u (.bin p82 .neq (.t p81) (.k (.i .i64 0)))), (.u (.mv p83 (.t p82))), (.g p83 false (some p84) (.mv p84 (.t p19))), (.g p83 false (some p85) (.bin p85 .neq (.t p84) (.k (.i .i64 0)))), (.u (.pick p86 (.t p83) (.k (.b true)) (.t p85))), (.u (.mv p87 (.t p86))), (.g p87 false (some p88) (.mv p88 (.t p21))), (.g p87 false (some p89) (.bin p89 .neq (.t p88) (.k (.i .i64 0)))), (.u (.pick p90 (.t p87) (.k (.b true)) (.t p89))), (.u (.mv p91 (.t p90))), (.g p91 false (some p92) (.mv p92 (.t p23))), (.g p91 false (some p93) (.bin p93 .neq (.t p92) (.k (.i .i64 0)))), (.u (.pick p94 (.t p91) (.k (.b true)) (.t p93))), (.u (.mv p95 (.t p94))), (.g p95 false (some p96) (.mv p96 (.t p25))), (.g p95 false (some p97) (.bin p97 .neq (.t p96) (.k (.i .i64 0)))), (.u (.pick p98 (.t p95) (.k (.b true)) (.t p97))), (.u (.mv p99 (.t p98))), (.g p99 false (some p100) (.mv p100 (.t p16))), (.g p99 false (some p101) (.len p101 (.t p100))), (.g p99 false (some p102) (.fad p102 (.t p12) 1)), (.g p99 false (some p103) (.ld1 p103 (.t p102))), (.g p99 false (some p104) (.len p104 (.t p103))), (.g p99 false (some p105) (.bin p105 .neq (.t p101) (.t p104))), (.u (.pick p106 (.t p99) (.k (.b true)) (.t p105))), (.u (.mv p107 (.t p106))), (.g p107 false (some p108) (.mv p108 (.t p20))), (.g p107 false (some p109) (.len p109 (.t p108))), (.g p107 false (some p110) (.fad p110 (.t p12) 0)), (.g p107 false (some p111) (.ld1 p111 (.t p110))), (.g p107 false (some p112) (.len p112 (.t p111))), (.g p107 false (some p113) (.bin p113 .neq (.t p109) (.t p112))), (.u (.pick p114 (.t p107) (.k (.b true)) (.t p113))), (.u (.mv p115 (.t p114))), (.g p115 false (some p116) (.mv p116 (.t p22))), (.g p115 false (some p117) (.len p117 (.t p116))), (.g p115 false (some p118) (.mv p118 (.t p16))), (.g p115 false (some p119) (.len p119 (.t p118))), (.g p115 false (some p120) (.bin p120 .neq (.t p117) (.t p119))), (.u (.pick p121 (.t p115) (.k (.b true)) (.t p120))), (.u (.mv p122 (.t p121))), (.g p122 false (some p123) (.ldn p123 (.t p12) 4)), (.g p122 false (some p124) (.cf (some p124) p22 [(.t p123)])), (.g p122 false (some p125) (.mv p125 (.t p13))), (.g p122 false (some p126) (.cf (some p126) p23 [(.t p125)])), (.g p122 false (some p127) (.cf (some p127) p24 [(.t p124), (.t p126)])), (.g p122 false (some p128) (.un p128 .not (.t p127))), (.u (.pick p129 (.t p122) (.k (.b true)) (.t p128))), (.u (.mv p130 (.t p129))), (.g p130 false (some p131) (.mv p131 (.t p13))), (.g p130 false (some p132) (.mv p132 (.t p14))), (.g p130 false (some p133) (.mv p133 (.t p15))), (.g p130 false (some p134) (.cf (some p134) p55 [(.t p131), (.t p132), (.t p133)])), (.g p130 false (some p135) (.ldn p135 (.t p18) 2)), (.g p130 false (some p136) (.cf (some p136) p54 [(.t p134), (.t p135)])), (.g p130 false (some p137) (.un p137 .not (.t p136))), (.u (.pick p138 (.t p130) (.k (.b true)) (.t p137)))] [0, 1, 3, 7, 15, 31, 63, 127, 255, 511, 1023, 2047, 4095, 8191, 16383, 32767, 65535, 131071, 262143, 524287, 1048575, 524287, 2621439, 6815743, 16777215, 33554431, 67108863, 134217727, 268435455, 134217727, 671088639, 1744830463, 4294967295, 8589934591, 17179869183, 34359738367, 68719476735, 34359738367, 171798691839, 549755813887, 1099511627775, 2199023255551, 4398046511103, 8796093022207, 4398046511103, 35184372088831, 70368744177663, 140737488355327, 281474976710655, 562949953421311, 1125899906842623, 1125899906842623, 1125899906842623, 9007199254740991, 1125899906842623, 36028797018963967, 72057594037927935, 144115188075855871]) (.cond (.t p138) (.seq (.reg [(.u (.mv p11 (.k (.b false))))]) .ret) .skip)) (.seq (.reg [(.u (.mv p26 (.k (.i .i64 0))))]) (.seq (.seq (.reg [(.u (.mv p27 (.k (.i .i64 0))))]) (.blk 0 (.loop (.seq (.seq (.reg [(.u (.mv p139 (.t p27))), (.u (.mv p140 (.t p20))), (.u (.len p141 (.t p140))), (.u (.bin p142 .lss (.t p139) (.t p141)))]) (.cond (.t p142) .skip (.exit 0))) (.seq (.blk 1 (.seq (.drw [(.u (.mv p145 (.t p20))), (.u (.mv p146 (.t p27))), (.u (.ixs p147 1 (.t p145) (.t p146))), (.u (.ld1 p148 (.t p147))), (.u (.mv p149 (.t p13))), (.u (.mv p150 (.t p27))), (.u (.ixs p151 1 (.t p149) (.t p150))), (.u (.ld1 p152 (.t p151))), (.u (.bin p153 .eql (.t p152) (.k (.i .i64 1)))), (.u (.cf (some p154) p56 [(.t p148), (.t p153)])), (.u (.un p155 .not (.t p154)))] [0, 0, 3, 7, 0, 0, 48, 112, 240, 511, 1023]) (.cond (.t p155) (.seq (.reg [(.u (.mv p11 (.k (.b false))))]) .ret) .skip))) (.reg [(.u (.mv p143 (.t p27))), (.u (.bin p144 .add (.t p143) (.k (.i .i64 1)))), (.u (.mv p27 (.t p144)))])))))) (.seq (.seq (.reg [(.u (.mv p28 (.k (.i .i64 0))))]) (.blk 2 (.loop (.seq (.seq (.reg [(.u (.mv p156 (.t p28))), (.u (.mv p157 (.t p22))), (.u (.len p158 (.t p157))), (.u (.bin p159 .lss (.t p156) (.t p158)))]) (.cond (.t p159) .skip (.exit 2))) (.seq (.blk 3 (.seq (.seq (.drw [(.u (.mv p162 (.t p22))), (.u (.mv p163 (.t p28))), (.u (.ixs p164 1 (.t p162) (.t p163))), (.u (.ld1 p165 (.t p164))), (.u (.mv p166 (.t p16))), (.u (.mv p167 (.t p28))), (.u (.ixs p168 1 (.t p166) (.t p167))), (.u (.ld1 p169 (.t p168))), (.u (.bin p170 .eql (.t p169) (.k (.i .i64 0)))), (.u (.cf (some p171) p56 [(.t p165), (.t p170)])), (.u (.un p172 .not (.t p171)))] [0, 0, 3, 7, 0, 0, 48, 112, 240, 511, 1023]) (.cond (.t p172) (.seq (.reg [(.u (.mv p11 (.k (.b false))))]) .ret) .skip)) (.seq (.reg [(.u (.mv p173 (.t p16))), (.u (.mv p174 (.t p28))), (.u (.ixs p175 1 (.t p173) (.t p174))), (.u (.ld1 p176 (.t p175))), (.u (.bin p177 .gtr (.t p176) (.k (.i .i64 0))))]) (.cond (.t p177) (.reg [(.u (.mv p178 (.t p26))), (.u (.bin p179 .add (.t p178) (.k (.i .i64 1)))), (.u (.mv p26 (.t p179)))]) .skip)))) (.reg [(.u (.mv p160 (.t p28))), (.u (.bin p161 .add (.t p160) (.k (.i .i64 1)))), (.u (.mv p28 (.t p161)))])))))) (.seq (.reg [(.u (.mv p180 (.t p24))), (.u (.mv p181 (.t p26))), (.u (.bin p182 .leq (.t p180) (.t p181))), (.u (.mv p183 (.t p182))), (.g p183 true (some p184) (.mv p184 (.t p26))), (.g p183 true (some p185) (.fad p185 (.t p12) 2)), (.g p183 true (some p186) (.ld1 p186 (.t p185))), (.g p183 true (some p187) (.bin p187 .leq (.t p184) (.t p186))), (.u (.pick p188 (.t p183) (.t p187) (.k (.b false)))), (.u (.mv p189 (.t p188))), (.g p189 true (some p190) (.cf (some p190) p20 [])), (.u (.pick p191 (.t p189) (.t p190) (.k (.b false)))), (.u (.mv p11 (.t p191)))]) .ret))))))))))))))
def rs9 : List RR := [(.t p11)]
theorem fn9 : FnOk Try.prog p10.ix 191 rc9 rs9 := ⟨Try.f9, bodyC Try.f9, Try.func9, by kernel_rfl, by kernel_rfl, by kernel_rfl, by kernel_rfl, by kernel_rfl⟩
set_option maxHeartbeats 1000000 in
theorem c_CountTruth (l : List Int) (cs0 : List Cnt) (wr off : Int) (w0 : Int) (ws : List Int) (a b : Int) (hw0 : 0 ≤ w0 ∧ w0 ≤ 65535) (hws : ∀ n ∈ ws, 0 ≤ n ∧ n ≤ 65535) (ha : 0 ≤ a ∧ a ≤ 255) (hb : 0 ≤ b ∧ b ≤ 255) (AW : PureF Try.prog p20.ix [] (.b true)) :
    PureF Try.prog p10.ix [.ag [.lst 1 (ints l), .lst 3 (rows cntD cs0), .i .i64 wr, .i .i64 off], .i .u16 w0, .lst 1 (numsK .u16 ws), .i .u8 a, .i .u8 b] (.b true) := by
  have e1 := ints_length l
  refine PureF.run fn9 (by simp) (by simp [PuL, PuE, Pu, pu_ints, pu_cnts, pu_numsK]) ?_; conv => whnf
  repeat' first | ((with_reducible apply WB.tt); conv => whnf) | ((with_reducible apply WB.ff); conv => whnf) | (refine Rn.seq ?_; conv => whnf) | (refine Rn.reg ?_; conv => whnf) | (refine Rn.drw ?_; conv => whnf) | (refine Rn.blk ?_; conv => whnf) | (refine Rn.skip ?_; conv => whnf) | (refine Rn.ret ?_; conv => whnf) | (refine Rn.exit ?_; conv => whnf) | (refine Rn.cond rfl ?_; conv => whnf) | (refine And.intro (InR.i64 (by omega) (by omega)) ?_; conv => whnf) | (refine And.intro (show _ ≠ (0 : Int) by omega) ?_; conv => whnf) | (refine WIx.intsN (by omega) ?_; conv => whnf) | (refine WIx.rowsN (by omega) ?_; conv => whnf) | (refine WCall.pure (c_ready l cs0 wr off) ?_; conv => whnf) | (refine WCall.pure (AW) ?_; conv => whnf) | ((with_reducible refine WB.dec (fun h => ?_) (fun h => ?_)) <;> conv => whnf) | ((with_reducible refine WB.ndec (fun h => ?_) (fun h => ?_)) <;> conv => whnf) | (refine WB.mk (fun h => ?_) (fun h => ?_) <;> conv => whnf)
  · exact Fin.b rfl rfl
  have h1 : readyB l cs0 wr off = true := by
    have : (!readyB l cs0 wr off) = false := by assumption
    simpa using this
  obtain ⟨h1, hF0⟩ := ready_spec h1
  obtain ⟨f1, f2, _, _⟩ := fault0 hF0
  obtain ⟨f5, wr1, wr2, o1, o2⟩ := fault2 hF0
  clear h1
  obtain ⟨v, ⟨cs, t, left, rfl, htm, hI⟩, cK⟩ := c_Counted l cs0 wr off w0 ws hF0 hw0 hws
  have hlen : cs.length ≤ 6 := hI.six
  have hcnt := hI.cnt
  have hleft : 0 ≤ left := hI.left
  have hwrong : (cs.countP (fun c => decide (0 < ec t c)) : Int) + left ≤ wr := hI.wrong
  simp only at hcnt
  obtain ⟨g1, g2⟩ := truth_bits (allR_truth l t htm)
  have f4 : ∀ c ∈ cs, cntIn l.length c := fun c hc => by rw [← g1]; exact (hcnt c hc).1
  have hF : faultR l cs wr off = 0 := fault_ok f1 f2 hlen f5 f4 ⟨wr1, wr2⟩ ⟨o1, o2⟩
  have hW : wrongR cs off t = (cs.countP (fun c => decide (0 < ec t c)) : Nat) := by
    unfold wrongR
    rw [if_pos (by rw [List.all_eq_true]; exact fun c hc => decide_eq_true (hcnt c hc).2)]
  have hfit : fitR l cs wr off t = true := by
    unfold fitR inB
    rw [allR_truth l t htm, Bool.true_and, hW]
    exact decide_eq_true (by omega)
  have htR : t ∈ truR l cs wr off := List.mem_filter.2 ⟨htm, hfit⟩
  have hT : truR l cs wr off ≠ [] := fun h => by rw [h] at htR; cases htR
  obtain ⟨q1, q2, q3⟩ := parted_spec f1 ha.1 hb.1
  have cR := c_Row l cs wr off (by omega) (by omega)
  have cL := c_list t (by omega)
  have cP := c_parted l cs wr off a b f1 (by omega) ha hb
  generalize pA l.length a b = A at *
  generalize pB l.length a b = B at *
  have cPl := c_Play l cs wr off t (bits_wf g2)
  rw [show playR l cs wr off t = (errs t cs, 0) by unfold playR; rw [if_pos hF, if_pos (allR_truth l t htm)]] at cPl
  have cC := c_Chairs0 l cs wr off A B hF q1 q2 q3 hT
  have hbd := sum_bd (cs := cs) (wr := wr) (off := off) hF q1 (by omega : A ≤ B + 1) q3
  obtain ⟨k1, _, _⟩ := bnd_spec hT hbd
  have k1 := k1 t htR
  have cIn := c_in _ _ _ k1
  have cSu := c_SumT t A B g2 (by omega) q1 (by omega) (by omega)
  have cPT := c_ProveTruth l cs wr off t (bits_wf g2)
  rw [decide_eq_true hF, Bool.true_and, own_fits, show (isTruthR l t && inB (wrongR cs off t) 0 wr) = true from hfit] at cPT
  have hsE : sureE l cs wr off = 0 := by unfold sureE; rw [if_pos hF, if_neg hT]
  have cPc := c_Places l cs wr off (by omega)
  have cQ := c_Right l cs wr off (by omega)
  rw [hsE] at cPc cQ
  have cN := c_Least l cs wr off (by omega)
  have hlf : 0 ≤ leastF cs off (allR l) ∧ leastF cs off (allR l) ≤ (cs.countP (fun c => decide (0 < ec t c)) : Nat) := by
    obtain ⟨_, _, b3⟩ := best_spec cs off (allR l) (-1)
    have := b3 t htm (by rw [hW]; omega)
    rw [hW] at this
    exact this
  unfold leN leE at cN
  rw [if_pos hF, if_pos hF, if_neg (by omega), if_neg (by omega)] at cN
  have hp : plL l cs wr off = (List.range l.length).map fun i => verdR (yesP (truR l cs wr off) i) (truR l cs wr off).length := by unfold plL; rw [if_pos hsE]
  have hq : riL l cs wr off = (List.range cs.length).map fun i => verdR (yesR (truR l cs wr off) (cs.getD i default)) (truR l cs wr off).length := by unfold riL; rw [if_pos hsE]
  have hpl : (plL l cs wr off).length = l.length := by rw [hp]; simp
  have hql : (riL l cs wr off).length = cs.length := by rw [hq]; simp
  have hpg : ∀ i, i < l.length → PureF Try.prog p56.ix [.i .i64 ((plL l cs wr off).getD i 0), .b (decide (t.getD i 0 = 1))] (.b true) := fun i hi => by
    have hv : (plL l cs wr off).getD i 0 = verdR (yesP (truR l cs wr off) i) (truR l cs wr off).length := by rw [hp]; simp [List.getD, hi]
    have hs := verdR_spec (L := (truR l cs wr off).map fun x => x.getD i 0) (fun x hx => by
      obtain ⟨y, hy, rfl⟩ := List.mem_map.1 hx
      obtain ⟨r1, r2⟩ := truR_mem y hy
      exact r2 _ (getD_mem (by omega))) (List.mem_map.2 ⟨t, htR, rfl⟩)
    rw [List.length_map] at hs
    rw [hv]
    exact c_steady _ _ hs.1 (fun e => decide_eq_true (hs.2.1 e)) (fun e => decide_eq_false (by have := hs.2.2 e; omega))
  have hqg : ∀ i, i < cs.length → PureF Try.prog p56.ix [.i .i64 ((riL l cs wr off).getD i 0), .b (decide ((errs t cs).getD i 0 = 0))] (.b true) := fun i hi => by
    have hv : (riL l cs wr off).getD i 0 = verdR (yesR (truR l cs wr off) (cs.getD i default)) (truR l cs wr off).length := by rw [hq]; simp [List.getD, hi]
    have he : (errs t cs).getD i 0 = ec t (cs.getD i default) := by simp [errs, List.getD, hi]
    have hs := verdR_spec (L := (truR l cs wr off).map fun x => rAt x (cs.getD i default)) (fun x hx => by
      obtain ⟨y, hy, rfl⟩ := List.mem_map.1 hx
      exact rAt_bit _ _) (List.mem_map.2 ⟨t, htR, rfl⟩)
    rw [List.length_map] at hs
    rw [hv, he]
    have hr : rAt t (cs.getD i default) = 1 ↔ ec t (cs.getD i default) = 0 := by unfold rAt; split <;> simp_all
    exact c_steady _ _ hs.1 (fun e => decide_eq_true (hr.1 (hs.2.1 e))) (fun e => decide_eq_false (fun e0 => by have := hs.2.2 e; have := hr.2 e0; omega))
  have hee : ∀ i, i < cs.length → (errs t cs).getD i 0 = ec t (cs.getD i default) := fun i hi => by simp [errs, List.getD, hi]
  have hel : (errs t cs).length = cs.length := by simp [errs]
  have hcp : ∀ j, j < cs.length → (cs.take (j + 1)).countP (fun c => decide (0 < ec t c)) = (cs.take j).countP (fun c => decide (0 < ec t c)) + if decide (0 < ec t (cs.getD j default)) then 1 else 0 := fun j hj => countP_take_succ hj
  have hcl : ∀ j, (cs.take j).countP (fun c => decide (0 < ec t c)) ≤ 6 := fun j => Nat.le_trans List.countP_le_length (by rw [List.length_take]; omega)
  clear hp hq k1 hbd hI
  generalize loR A B (truR l cs wr off) = lo at *
  generalize hiR A B (truR l cs wr off) = hi at *
  generalize plL l cs wr off = P at *
  generalize riL l cs wr off = Q at *
  generalize errs t cs = E at *
  generalize leastF cs off (allR l) = lf at *
  have e2 := rows_length cntD cs
  have e3 := ints_length t
  have e4 := ints_length P
  have e5 := ints_length Q
  have e6 := ints_length E
  have n1 : ((ints E).length : Int) = (rows cntD cs).length := by omega
  have n2 : ((ints P).length : Int) = (ints l).length := by omega
  have n3 : ((ints Q).length : Int) = (ints E).length := by omega
  repeat' first | ((with_reducible apply WB.tt); conv => whnf) | ((with_reducible apply WB.ff); conv => whnf) | (refine Rn.seq ?_; conv => whnf) | (refine Rn.reg ?_; conv => whnf) | (refine Rn.drw ?_; conv => whnf) | (refine Rn.blk ?_; conv => whnf) | (refine Rn.skip ?_; conv => whnf) | (refine Rn.ret ?_; conv => whnf) | (refine Rn.exit ?_; conv => whnf) | (refine Rn.cond rfl ?_; conv => whnf) | (refine And.intro (InR.i64 (by omega) (by omega)) ?_; conv => whnf) | (refine And.intro (show _ ≠ (0 : Int) by omega) ?_; conv => whnf) | (refine WIx.intsN (by omega) ?_; conv => whnf) | (refine WIx.rowsN (by omega) ?_; conv => whnf) | (refine WCall.pure (cK) ?_; conv => whnf) | (refine WCall.pure (cR) ?_; conv => whnf) | (refine WCall.pure (cL) ?_; conv => whnf) | (refine WCall.pure (cP) ?_; conv => whnf) | (refine WCall.pure (cPl) ?_; conv => whnf) | (refine WCall.pure (cC) ?_; conv => whnf) | (refine WCall.pure (cPc) ?_; conv => whnf) | (refine WCall.pure (cQ) ?_; conv => whnf) | (refine WCall.pure (cN) ?_; conv => whnf) | (refine WCall.pure (cPT) ?_; conv => whnf) | (refine WCall.pure (cSu) ?_; conv => whnf) | (refine WCall.pure (cIn) ?_; conv => whnf) | ((with_reducible refine WB.decT (by first | with_reducible rfl | assumption | omega | exact ⟨rfl, rfl⟩) ?_); conv => whnf) | ((with_reducible refine WB.decF (by first | assumption | omega) ?_); conv => whnf) | ((with_reducible refine WB.ndT (by first | with_reducible rfl | assumption | omega | exact ⟨rfl, rfl⟩) ?_); conv => whnf) | ((with_reducible refine WB.ndF (by first | assumption | omega) ?_); conv => whnf) | ((with_reducible refine WB.nt ?_); conv => whnf) | ((with_reducible refine WB.nf ?_); conv => whnf) | ((with_reducible refine WB.dec (fun h => ?_) (fun h => ?_)) <;> conv => whnf) | ((with_reducible refine WB.ndec (fun h => ?_) (fun h => ?_)) <;> conv => whnf) | (refine WB.mk (fun h => ?_) (fun h => ?_) <;> conv => whnf)
  refine Rn.loop (fun j : Nat => ⟨(.n (.n (.n (.n (.n .e (some (.lst 1 (ints E))) .e) none (.n .e (some (.i .i64 lf)) .e)) none (.n (.n .e (some (.lst 1 (ints P))) .e) (some (.pt (.o .h) 0 0)) .e)) none (.n (.n .e none (.n .e (some (.i .i64 0)) .e)) none (.n (.n .e (some (.lst 1 (ints Q))) .e) none .e))) none (.n (.n .e none (.n .e (some (.lst 1 (ints t))) .e)) none (.n (.n .e none (.n .e (some (.i .i64 (j : Int))) .e)) none .e))), (.n (.n .e (some (rowC l cs wr off)) .e) none .e), .o (.o .h), none⟩) (fun j => j ≤ l.length) (fun j => l.length - j) 0 ?_ ?_ ?_
  · (first | (refine X.le.mk ?_ ?_ (Nat.le_refl _) rfl rfl) | skip) <;> (repeat' first | exact T.le_e _ | refine T.le_some ?_ ?_ ?_ | refine T.le_none ?_ ?_ | rfl)
  · omega
  intro j hj
  conv => whnf
  repeat' first | ((with_reducible apply WB.tt); conv => whnf) | ((with_reducible apply WB.ff); conv => whnf) | (refine Rn.seq ?_; conv => whnf) | (refine Rn.reg ?_; conv => whnf) | (refine Rn.drw ?_; conv => whnf) | (refine Rn.blk ?_; conv => whnf) | (refine Rn.skip ?_; conv => whnf) | (refine Rn.ret ?_; conv => whnf) | (refine Rn.exit ?_; conv => whnf) | (refine Rn.cond rfl ?_; conv => whnf) | (refine And.intro (InR.i64 (by omega) (by omega)) ?_; conv => whnf) | (refine And.intro (show _ ≠ (0 : Int) by omega) ?_; conv => whnf) | (refine WIx.intsN (by omega) ?_; conv => whnf) | (refine WIx.rowsN (by omega) ?_; conv => whnf)
  refine WB.dec (fun h => ?_) (fun h => ?_) <;> conv => whnf
  · have hlt : j < l.length := by omega
    have cSt := hpg j hlt
    repeat' first | ((with_reducible apply WB.tt); conv => whnf) | ((with_reducible apply WB.ff); conv => whnf) | (refine Rn.seq ?_; conv => whnf) | (refine Rn.reg ?_; conv => whnf) | (refine Rn.drw ?_; conv => whnf) | (refine Rn.blk ?_; conv => whnf) | (refine Rn.skip ?_; conv => whnf) | (refine Rn.ret ?_; conv => whnf) | (refine Rn.exit ?_; conv => whnf) | (refine Rn.cond rfl ?_; conv => whnf) | (refine And.intro (InR.i64 (by omega) (by omega)) ?_; conv => whnf) | (refine And.intro (show _ ≠ (0 : Int) by omega) ?_; conv => whnf) | (refine WIx.intsN (by omega) ?_; conv => whnf) | (refine WIx.rowsN (by omega) ?_; conv => whnf) | (refine WCall.pure (cSt) ?_; conv => whnf) | ((with_reducible refine WB.decT (by first | with_reducible rfl | assumption | omega | exact ⟨rfl, rfl⟩) ?_); conv => whnf) | ((with_reducible refine WB.decF (by first | assumption | omega) ?_); conv => whnf) | ((with_reducible refine WB.ndT (by first | with_reducible rfl | assumption | omega | exact ⟨rfl, rfl⟩) ?_); conv => whnf) | ((with_reducible refine WB.ndF (by first | assumption | omega) ?_); conv => whnf) | ((with_reducible refine WB.nt ?_); conv => whnf) | ((with_reducible refine WB.nf ?_); conv => whnf) | ((with_reducible refine WB.dec (fun h => ?_) (fun h => ?_)) <;> conv => whnf) | ((with_reducible refine WB.ndec (fun h => ?_) (fun h => ?_)) <;> conv => whnf) | (refine WB.mk (fun h => ?_) (fun h => ?_) <;> conv => whnf)
    refine Again.to (j + 1) (by omega) (by omega) (Nat.le_refl _) ?_
    (refine Shr.of ?_ ?_ rfl rfl) <;> (repeat' first | exact Rel.e | refine Rel.some ?_ ?_ ?_ | refine Rel.none ?_ ?_) <;> (try first | (show Fz _ _ _ _; first | exact Fz.pu trivial | (refine Fz.i ?_; first | rfl | omega) | (refine Fz.kpt ?_; (focus (show Pos.nat _ < Pos.nat _; simp [Pos.nat]; done))) | (refine Fz.ksl ?_; (focus (show Pos.nat _ < Pos.nat _; simp [Pos.nat]; done))) | (refine Fz.kmp ?_; (focus (show Pos.nat _ < Pos.nat _; simp [Pos.nat]; done))) | (refine Fz.pu ?_; simp [Cell.d, Pu, PuL, PuE, pu_ints, pu_cnts, pu_tR, pu_numsK]; done) | (refine Fz.pu ?_; simp only [Cell.d]; assumption)) | (refine RO'.of ?_ (ShC.same ?_); (focus (show Pos.nat _ < Pos.nat _; simp [Pos.nat]; done)); (repeat' first | exact ShC.nl | refine ShC.cn ?_ ?_) <;> first | exact Fz.pu trivial | (refine Fz.i ?_; first | rfl | omega) | (refine Fz.kpt ?_; (focus (show Pos.nat _ < Pos.nat _; simp [Pos.nat]; done))) | (refine Fz.ksl ?_; (focus (show Pos.nat _ < Pos.nat _; simp [Pos.nat]; done))) | (refine Fz.kmp ?_; (focus (show Pos.nat _ < Pos.nat _; simp [Pos.nat]; done))) | (refine Fz.pu ?_; simp [Cell.d, Pu, PuL, PuE, pu_ints, pu_cnts, pu_tR, pu_numsK]; done) | (refine Fz.pu ?_; simp only [Cell.d]; assumption)))
    all_goals exact RO'.of (by simp [Pos.nat]) (rowC_sh _ _ _ _)
  · repeat' first | ((with_reducible apply WB.tt); conv => whnf) | ((with_reducible apply WB.ff); conv => whnf) | (refine Rn.seq ?_; conv => whnf) | (refine Rn.reg ?_; conv => whnf) | (refine Rn.drw ?_; conv => whnf) | (refine Rn.blk ?_; conv => whnf) | (refine Rn.skip ?_; conv => whnf) | (refine Rn.ret ?_; conv => whnf) | (refine Rn.exit ?_; conv => whnf) | (refine Rn.cond rfl ?_; conv => whnf) | (refine And.intro (InR.i64 (by omega) (by omega)) ?_; conv => whnf) | (refine And.intro (show _ ≠ (0 : Int) by omega) ?_; conv => whnf) | (refine WIx.intsN (by omega) ?_; conv => whnf) | (refine WIx.rowsN (by omega) ?_; conv => whnf)
    refine Rn.loop (fun j : Nat => ⟨(.n (.n (.n (.n (.n .e (some (.lst 1 (ints E))) .e) none (.n .e (some (.i .i64 lf)) .e)) none (.n .e (some (.pt (.o .h) 0 0)) (.n .e (some (.i .i64 (j : Int))) .e))) none (.n (.n .e none (.n .e (some (.i .i64 ((cs.take j).countP (fun c => decide (0 < ec t c)) : Nat))) .e)) none (.n (.n .e (some (.lst 1 (ints Q))) .e) none .e))) none .e), (.n (.n .e (some (rowC l cs wr off)) .e) none .e), .o (.o .h), none⟩) (fun j => j ≤ cs.length) (fun j => cs.length - j) 0 ?_ ?_ ?_
    · (first | (refine X.le.mk ?_ ?_ (Nat.le_refl _) rfl rfl) | skip) <;> (repeat' first | exact T.le_e _ | refine T.le_some ?_ ?_ ?_ | refine T.le_none ?_ ?_ | rfl)
    · omega
    intro j hj
    have hcj := hcl j
    conv => whnf
    repeat' first | ((with_reducible apply WB.tt); conv => whnf) | ((with_reducible apply WB.ff); conv => whnf) | (refine Rn.seq ?_; conv => whnf) | (refine Rn.reg ?_; conv => whnf) | (refine Rn.drw ?_; conv => whnf) | (refine Rn.blk ?_; conv => whnf) | (refine Rn.skip ?_; conv => whnf) | (refine Rn.ret ?_; conv => whnf) | (refine Rn.exit ?_; conv => whnf) | (refine Rn.cond rfl ?_; conv => whnf) | (refine And.intro (InR.i64 (by omega) (by omega)) ?_; conv => whnf) | (refine And.intro (show _ ≠ (0 : Int) by omega) ?_; conv => whnf) | (refine WIx.intsN (by omega) ?_; conv => whnf) | (refine WIx.rowsN (by omega) ?_; conv => whnf)
    refine WB.dec (fun h => ?_) (fun h => ?_) <;> conv => whnf
    · have hlt : j < cs.length := by omega
      have cSt := hqg j hlt
      have hE := hee j hlt
      have hc1 := hcp j hlt
      repeat' first | ((with_reducible apply WB.tt); conv => whnf) | ((with_reducible apply WB.ff); conv => whnf) | (refine Rn.seq ?_; conv => whnf) | (refine Rn.reg ?_; conv => whnf) | (refine Rn.drw ?_; conv => whnf) | (refine Rn.blk ?_; conv => whnf) | (refine Rn.skip ?_; conv => whnf) | (refine Rn.ret ?_; conv => whnf) | (refine Rn.exit ?_; conv => whnf) | (refine Rn.cond rfl ?_; conv => whnf) | (refine And.intro (InR.i64 (by omega) (by omega)) ?_; conv => whnf) | (refine And.intro (show _ ≠ (0 : Int) by omega) ?_; conv => whnf) | (refine WIx.intsN (by omega) ?_; conv => whnf) | (refine WIx.rowsN (by omega) ?_; conv => whnf) | (refine WCall.pure (cSt) ?_; conv => whnf) | ((with_reducible refine WB.decT (by first | with_reducible rfl | assumption | omega | exact ⟨rfl, rfl⟩) ?_); conv => whnf) | ((with_reducible refine WB.decF (by first | assumption | omega) ?_); conv => whnf) | ((with_reducible refine WB.ndT (by first | with_reducible rfl | assumption | omega | exact ⟨rfl, rfl⟩) ?_); conv => whnf) | ((with_reducible refine WB.ndF (by first | assumption | omega) ?_); conv => whnf) | ((with_reducible refine WB.nt ?_); conv => whnf) | ((with_reducible refine WB.nf ?_); conv => whnf) | ((with_reducible refine WB.dec (fun h => ?_) (fun h => ?_)) <;> conv => whnf) | ((with_reducible refine WB.ndec (fun h => ?_) (fun h => ?_)) <;> conv => whnf) | (refine WB.mk (fun h => ?_) (fun h => ?_) <;> conv => whnf)
      · refine Again.to (j + 1) (by omega) (by omega) (Nat.le_refl _) ?_
        have hc2 : (cs.take (j + 1)).countP (fun c => decide (0 < ec t c)) = (cs.take j).countP (fun c => decide (0 < ec t c)) + 1 := by rw [hc1, if_pos (decide_eq_true (by omega))]
        (refine Shr.of ?_ ?_ rfl rfl) <;> (repeat' first | exact Rel.e | refine Rel.some ?_ ?_ ?_ | refine Rel.none ?_ ?_) <;> (try first | (show Fz _ _ _ _; first | exact Fz.pu trivial | (refine Fz.i ?_; first | rfl | omega) | (refine Fz.kpt ?_; (focus (show Pos.nat _ < Pos.nat _; simp [Pos.nat]; done))) | (refine Fz.ksl ?_; (focus (show Pos.nat _ < Pos.nat _; simp [Pos.nat]; done))) | (refine Fz.kmp ?_; (focus (show Pos.nat _ < Pos.nat _; simp [Pos.nat]; done))) | (refine Fz.pu ?_; simp [Cell.d, Pu, PuL, PuE, pu_ints, pu_cnts, pu_tR, pu_numsK]; done) | (refine Fz.pu ?_; simp only [Cell.d]; assumption)) | (refine RO'.of ?_ (ShC.same ?_); (focus (show Pos.nat _ < Pos.nat _; simp [Pos.nat]; done)); (repeat' first | exact ShC.nl | refine ShC.cn ?_ ?_) <;> first | exact Fz.pu trivial | (refine Fz.i ?_; first | rfl | omega) | (refine Fz.kpt ?_; (focus (show Pos.nat _ < Pos.nat _; simp [Pos.nat]; done))) | (refine Fz.ksl ?_; (focus (show Pos.nat _ < Pos.nat _; simp [Pos.nat]; done))) | (refine Fz.kmp ?_; (focus (show Pos.nat _ < Pos.nat _; simp [Pos.nat]; done))) | (refine Fz.pu ?_; simp [Cell.d, Pu, PuL, PuE, pu_ints, pu_cnts, pu_tR, pu_numsK]; done) | (refine Fz.pu ?_; simp only [Cell.d]; assumption)))
        all_goals first | exact RO'.of (by simp [Pos.nat]) (rowC_sh _ _ _ _) | (refine Fz.i ?_; rw [hc2]; omega)
      · refine Again.to (j + 1) (by omega) (by omega) (Nat.le_refl _) ?_
        have hc2 : (cs.take (j + 1)).countP (fun c => decide (0 < ec t c)) = (cs.take j).countP (fun c => decide (0 < ec t c)) := by
          rw [hc1, if_neg (by simp only [decide_eq_true_eq]; omega)]
          rfl
        (refine Shr.of ?_ ?_ rfl rfl) <;> (repeat' first | exact Rel.e | refine Rel.some ?_ ?_ ?_ | refine Rel.none ?_ ?_) <;> (try first | (show Fz _ _ _ _; first | exact Fz.pu trivial | (refine Fz.i ?_; first | rfl | omega) | (refine Fz.kpt ?_; (focus (show Pos.nat _ < Pos.nat _; simp [Pos.nat]; done))) | (refine Fz.ksl ?_; (focus (show Pos.nat _ < Pos.nat _; simp [Pos.nat]; done))) | (refine Fz.kmp ?_; (focus (show Pos.nat _ < Pos.nat _; simp [Pos.nat]; done))) | (refine Fz.pu ?_; simp [Cell.d, Pu, PuL, PuE, pu_ints, pu_cnts, pu_tR, pu_numsK]; done) | (refine Fz.pu ?_; simp only [Cell.d]; assumption)) | (refine RO'.of ?_ (ShC.same ?_); (focus (show Pos.nat _ < Pos.nat _; simp [Pos.nat]; done)); (repeat' first | exact ShC.nl | refine ShC.cn ?_ ?_) <;> first | exact Fz.pu trivial | (refine Fz.i ?_; first | rfl | omega) | (refine Fz.kpt ?_; (focus (show Pos.nat _ < Pos.nat _; simp [Pos.nat]; done))) | (refine Fz.ksl ?_; (focus (show Pos.nat _ < Pos.nat _; simp [Pos.nat]; done))) | (refine Fz.kmp ?_; (focus (show Pos.nat _ < Pos.nat _; simp [Pos.nat]; done))) | (refine Fz.pu ?_; simp [Cell.d, Pu, PuL, PuE, pu_ints, pu_cnts, pu_tR, pu_numsK]; done) | (refine Fz.pu ?_; simp only [Cell.d]; assumption)))
        all_goals first | exact RO'.of (by simp [Pos.nat]) (rowC_sh _ _ _ _) | (refine Fz.i ?_; rw [hc2])
    · have hj2 : cs.take j = cs := List.take_of_length_le (by omega)
      rw [hj2]
      repeat' first | ((with_reducible apply WB.tt); conv => whnf) | ((with_reducible apply WB.ff); conv => whnf) | (refine Rn.seq ?_; conv => whnf) | (refine Rn.reg ?_; conv => whnf) | (refine Rn.drw ?_; conv => whnf) | (refine Rn.blk ?_; conv => whnf) | (refine Rn.skip ?_; conv => whnf) | (refine Rn.ret ?_; conv => whnf) | (refine Rn.exit ?_; conv => whnf) | (refine Rn.cond rfl ?_; conv => whnf) | (refine And.intro (InR.i64 (by omega) (by omega)) ?_; conv => whnf) | (refine And.intro (show _ ≠ (0 : Int) by omega) ?_; conv => whnf) | (refine WIx.intsN (by omega) ?_; conv => whnf) | (refine WIx.rowsN (by omega) ?_; conv => whnf) | (refine WCall.pure (AW) ?_; conv => whnf) | ((with_reducible refine WB.decT (by first | with_reducible rfl | assumption | omega | exact ⟨rfl, rfl⟩) ?_); conv => whnf) | ((with_reducible refine WB.decF (by first | assumption | omega) ?_); conv => whnf) | ((with_reducible refine WB.ndT (by first | with_reducible rfl | assumption | omega | exact ⟨rfl, rfl⟩) ?_); conv => whnf) | ((with_reducible refine WB.ndF (by first | assumption | omega) ?_); conv => whnf) | ((with_reducible refine WB.nt ?_); conv => whnf) | ((with_reducible refine WB.nf ?_); conv => whnf) | ((with_reducible refine WB.dec (fun h => ?_) (fun h => ?_)) <;> conv => whnf) | ((with_reducible refine WB.ndec (fun h => ?_) (fun h => ?_)) <;> conv => whnf) | (refine WB.mk (fun h => ?_) (fun h => ?_) <;> conv => whnf)
      exact Fin.b rfl rfl
theorem main_countTruth (AW : PureF Try.prog p20.ix [] (.b true)) {es : List D} (fit : FitP [(true, [.sl [.i .i64], .sl [.b, .i .i64, .i .i64], .i .i64, .i .i64]), (false, [.i .u16]), (false, [.sl [.i .u16]]), (false, [.i .u8]), (false, [.i .u8])] es) : PureF Try.prog 9 es (.b true) := by
  obtain ⟨l, cs, wr, off, _, rfl, g1⟩ := fit.row
  obtain ⟨w, _, rfl, w1, g2⟩ := g1.i
  obtain ⟨ws, _, rfl, w2, g3⟩ := g2.nums
  obtain ⟨a, _, rfl, w3, g4⟩ := g3.i
  obtain ⟨b, _, rfl, w4, g5⟩ := g4.i
  obtain rfl := g5.no
  exact c_CountTruth l cs wr off w ws a b (wf_u16 w1) (fun n hn => wf_u16 (w2 n hn)) (wf_u8 w3) (wf_u8 w4) AW
end Go.Ev
namespace Go.Proofs.Ytmlpgfmbhpefmaa.countTruth
open Go.ChangeShapes Go.WideShapes Go.ChangeAt Go.RowKit
open Go.ChangeMaps (open_string shut_string)
set_option linter.unusedVariables false

theorem laid : laidOutB Try.prog = true := by kernel_rfl
theorem own : ownKnob Try.prog.godebug = none := by kernel_rfl

/-! ### the walk -/
theorem walk {es : List Go.Ev.D} (fit : Go.Ev.FitP [(true, [.sl [.i .i64], .sl [.b, .i .i64, .i .i64], .i .i64, .i .i64]), (false, [.i .u16]), (false, [.sl [.i .u16]]), (false, [.i .u8]), (false, [.i .u8])] es) {args : Array Value} {W : World} (ha : Go.Ev.DVL (Go.Ev.γH W) W es args.toList) :
    Calls Try.prog 9 args W fun e w' => e = .returned (.bool true) ∧ Grown W w' ∧ Below W.heap.size W w' :=
  Go.Ev.PureF.calls (Go.Ev.main_countTruth (fun ob nx lg => Go.Ev.awT.any ob nx lg) fit) ha

set_option maxRecDepth 100000 in
theorem lifted (os : Os) (started : os.Started) (H : Type) (enc : TypeId × Value → H) :
    ReturnsInHanded {} Try.checked os 9 .any (Rows.countTruthSpec.pre6 enc Try.prog Try.f9 Rows.countTruthRow.domain false) (Rows.countTruthSpec.post enc Try.prog Try.f9 false true false false) := by
  refine returnsInHanded_of_change (C := Try.checked) own started (by kernel_rfl) Try.func9
    (ChangeSpec.witness6 (enc := enc) (C := Try.checked) false ⟨#[], #[.agg #[.slice none 0 0, .slice none 0 0, .int .i64 0, .int .i64 0], .int .u16 0, .slice none 0 0, .int .u8 0, .int .u8 0], []⟩ 8 (by kernel_rfl) (by kernel_rfl) (by kernel_rfl) (by kernel_rfl)) ?_
  intro W base args ds gs before hval0 hW hcnd _
  have hval : ∀ (j : Nat) t v, Try.f9.params[j]? = some t → args[j]? = some v → Value.okWide Try.prog W .any base t v := hval0
  have hW' := hW
  obtain ⟨p, q, hA0, hV, rfl, hfz, hnd⟩ := hW
  have hA : DataW.TrodAll enc Try.prog W 0 (fun _ => true) true Try.f9.params.toList args.toList ds p := hA0
  rw [Try.params9] at hA hval
  obtain ⟨rfl, rfl⟩ := trodVars_none hV
  obtain ⟨d0, d1, d2, d3, d4, rfl⟩ := Go.Ev.len5 (Go.Ev.trod_len hA)
  clear hA0 hval0
  simp only [List.append_nil] at hW'
  obtain ⟨es, fit, dv⟩ := Go.Ev.open_all (n := 6) (pars := [(true, [.sl [.i .i64], .sl [.b, .i .i64, .i .i64], .i .i64, .i .i64]), (false, [.i .u16]), (false, [.sl [.i .u16]]), (false, [.i .u8]), (false, [.i .u8])]) (by kernel_rfl) hA (fun j t v h1 h2 => hval j t v (by simpa using h1) (by simpa using h2))
  have hlt : ∀ x ∈ p, x.block < W.heap.size := fun x hx => by simpa using hW'.lt x hx
  refine (walk fit dv).mono fun e W' ⟨he, hg, hb⟩ => ?_
  subst he
  exact ⟨_, rfl, post_of_same (pa := p) (pv := []) hW' (fun _ _ _ => (trodAll_cons_mk (shut_bool Try.underlying4 _) trodAll_mk0))
    (fun sp hs => Go.Ev.stays_all laid (Go.Ev.of_allT (by kernel_rfl)) hA (fun x hx => hb.same (hlt x hx)) (fun x hx => hs x hx))
    (fun _ _ => rfl) (List.append_nil _).symm
    (hg.frame _) hg.2.1 (ok_one (by kernel_rfl) rfl (okWide_bool_mk Try.underlying4 _))⟩

theorem over : Rows.countTruthRow.holds Try.pinned (OpenSpec.ofChange Rows.countTruthSpec) :=
  OpenClaim.holds_of_wide 9 Try.f9 rfl rfl rfl rfl rfl rfl rfl ⟨rfl, rfl, rfl, rfl, rfl⟩ rfl rfl rfl rfl rfl (by kernel_rfl) Try.func9 (by kernel_rfl)
    (of_decide_eq_true (by kernel_rfl)) (by unfold Func.isWrapper; first | (rw [if_pos (by decide +kernel)]; kernel_rfl) | (rw [if_neg (by decide +kernel)]; exact ⟨rfl, rfl⟩))
    (fun os started H enc _ => lifted os started H enc)

/-- ████ THE STATEMENT ████ -/
theorem proved : Rows.CountTruthSaid :=
  over
#print axioms proved
end Go.Proofs.Ytmlpgfmbhpefmaa.countTruth
