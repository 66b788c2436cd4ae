/-
  TideTruth: the law answers true for every table, number and words; the only conditions are those of the row itself.
-/
import Derived.Test.YtpemagogcagipaaRows
import Derived.WalkKit
import Derived.ProofKit
import Derived.OpenShut
import Derived.Test.YtpemagogcagipaaEvFt
import Derived.Test.YtpemagogcagipaaEvSy
import Derived.ShutString
import Derived.Test.YtpemagogcagipaaEvQH
import Derived.Test.YtpemagogcagipaaEvQG
import Derived.Test.YtpemagogcagipaaEvMN
import Derived.Test.YtpemagogcagipaaEvMH
set_option linter.all false
namespace Go.Ev
open Go.Proofs
set_option maxRecDepth 1000000
noncomputable def rc9 : RC := (.seq (.reg [(.u (.box p4 (.t p1))), (.u (.mv p7 (.k (.b false))))]) (.seq (.seq (.reg [(.u (.ldn p27 (.t p4) 5)), (.u (.cf (some p28) p52 [(.t p27)])), (.u (.un p29 .not (.t p28)))]) (.cond (.t p29) (.seq (.reg [(.u (.cf (some p30) p21 [])), (.u (.mv p7 (.t p30)))]) .ret) .skip)) (.seq (.reg [(.u (.ldn p32 (.t p4) 5)), (.u (.mv p33 (.t p2))), (.u (.mv p34 (.t p3))), (.u (.cf (some p35) p53 [(.t p32), (.t p33), (.t p34)])), (.u (.mv p31 (.t p35))), (.u (.ext p36 (.t p31) 0)), (.u (.ext p37 (.t p31) 1)), (.u (.new p8 [(.i .i64 0), .ns, (.i .i64 0), .ns, .ns])), (.u (.st (.t p8) (.t p36) 5)), (.u (.mv p9 (.t p37)))]) (.seq (.reg [(.u (.ldn p39 (.t p8) 5)), (.u (.cf (some p40) p23 [(.t p39)])), (.u (.mv p41 (.t p9))), (.u (.cf (some p42) p24 [(.t p41)])), (.u (.cf (some p43) p22 [(.t p40), (.t p42)])), (.u (.mv p38 (.t p43))), (.u (.ext p44 (.t p38) 0)), (.u (.ext p45 (.t p38) 1)), (.u (.mv p10 (.t p44))), (.u (.mv p11 (.t p45)))]) (.seq (.reg [(.u (.ldn p47 (.t p8) 5)), (.u (.cf (some p48) p23 [(.t p47)])), (.u (.cf (some p49) p32 [(.t p48)])), (.u (.mv p46 (.t p49))), (.u (.ext p50 (.t p46) 0)), (.u (.ext p51 (.t p46) 1)), (.u (.mv p12 (.t p50))), (.u (.mv p13 (.t p51)))]) (.seq (.reg [(.u (.ldn p53 (.t p8) 5)), (.u (.cf (some p54) p23 [(.t p53)])), (.u (.cf (some p55) p46 [(.t p54)])), (.u (.mv p52 (.t p55))), (.u (.ext p56 (.t p52) 0)), (.u (.ext p57 (.t p52) 1)), (.u (.mv p14 (.t p56))), (.u (.mv p15 (.t p57)))]) (.seq (.reg [(.u (.ldn p59 (.t p8) 5)), (.u (.cf (some p60) p23 [(.t p59)])), (.u (.cf (some p61) p45 [(.t p60)])), (.u (.mv p58 (.t p61))), (.u (.ext p62 (.t p58) 0)), (.u (.ext p63 (.t p58) 1)), (.u (.mv p16 (.t p62))), (.u (.mv p17 (.t p63)))]) (.seq (.seq (.reg [(.u (.mv p64 (.t p11))), (.u (.bin p65 .neq (.t p64) (.k (.i .i64 0)))), (.u (.mv p66 (.t p65))), (.g p66 false (some p67) (.mv p67 (.t p13))), (.g p66 false (some p68) (.bin p68 .neq (.t p67) (.k (.i .i64 0)))), (.u (.pick p69 (.t p66) (.k (.b true)) (.t p68))), (.u (.mv p70 (.t p69))), (.g p70 false (some p71) (.mv p71 (.t p15))), (.g p70 false (some p72) (.bin p72 .neq (.t p71) (.k (.i .i64 0)))), (.u (.pick p73 (.t p70) (.k (.b true)) (.t p72))), (.u (.mv p74 (.t p73))), (.g p74 false (some p75) (.mv p75 (.t p14))), (.g p74 false (some p76) (.len p76 (.t p75))), (.g p74 false (some p77) (.bin p77 .neq (.t p76) (.k (.i .i64 0)))), (.u (.pick p78 (.t p74) (.k (.b true)) (.t p77))), (.u (.mv p79 (.t p78))), (.g p79 false (some p80) (.mv p80 (.t p17))), (.g p79 false (some p81) (.bin p81 .neq (.t p80) (.k (.i .i64 7)))), (.u (.pick p82 (.t p79) (.k (.b true)) (.t p81))), (.u (.mv p83 (.t p82))), (.g p83 false (some p84) (.mv p84 (.t p10))), (.g p83 false (some p85) (.len p85 (.t p84))), (.g p83 false (some p86) (.fad p86 (.t p8) 3)), (.g p83 false (some p87) (.ld1 p87 (.t p86))), (.g p83 false (some p88) (.len p88 (.t p87))), (.g p83 false (some p89) (.bin p89 .neq (.t p85) (.t p88))), (.u (.pick p90 (.t p83) (.k (.b true)) (.t p89))), (.u (.mv p91 (.t p90))), (.g p91 false (some p92) (.mv p92 (.t p12))), (.g p91 false (some p93) (.len p93 (.t p92))), (.g p91 false (some p94) (.fad p94 (.t p8) 0)), (.g p91 false (some p95) (.ld1 p95 (.t p94))), (.g p91 false (some p96) (.bin p96 .add (.t p95) (.k (.i .i64 1)))), (.g p91 false (some p97) (.bin p97 .neq (.t p93) (.t p96))), (.u (.pick p98 (.t p91) (.k (.b true)) (.t p97))), (.u (.mv p99 (.t p98))), (.g p99 false (some p100) (.ldn p100 (.t p8) 5)), (.g p99 false (some p101) (.cf (some p101) p23 [(.t p100)])), (.g p99 false (some p102) (.mv p102 (.t p9))), (.g p99 false (some p103) (.cf (some p103) p24 [(.t p102)])), (.g p99 false (some p104) (.cf (some p104) p25 [(.t p101), (.t p103)])), (.g p99 false (some p105) (.un p105 .not (.t p104))), (.u (.pick p106 (.t p99) (.k (.b true)) (.t p105)))]) (.cond (.t p106) (.seq (.reg [(.u (.mv p7 (.k (.b false))))]) .ret) .skip)) (.seq (.seq (.reg [(.u (.mv p18 (.k (.i .i64 0))))]) (.blk 0 (.loop (.seq (.seq (.reg [(.u (.mv p107 (.t p18))), (.u (.mv p108 (.t p12))), (.u (.len p109 (.t p108))), (.u (.bin p110 .lss (.t p107) (.t p109)))]) (.cond (.t p110) .skip (.exit 0))) (.seq (.blk 1 (.seq (.drw [(.u (.mv p113 (.t p9))), (.u (.mv p114 (.t p18))), (.u (.ixs p115 1 (.t p113) (.t p114))), (.u (.ld1 p116 (.t p115))), (.u (.mv p117 (.t p12))), (.u (.mv p118 (.t p18))), (.u (.ixs p119 2 (.t p117) (.t p118))), (.u (.ldn p120 (.t p119) 2)), (.u (.cf (some p121) p54 [(.t p116), (.t p120)])), (.u (.un p122 .not (.t p121)))] [0, 0, 3, 7, 0, 0, 48, 112, 255, 511]) (.cond (.t p122) (.seq (.reg [(.u (.mv p7 (.k (.b false))))]) .ret) .skip))) (.reg [(.u (.mv p111 (.t p18))), (.u (.bin p112 .add (.t p111) (.k (.i .i64 1)))), (.u (.mv p18 (.t p112)))])))))) (.seq (.seq (.reg [(.u (.mv p19 (.k (.i .i64 0))))]) (.blk 2 (.loop (.seq (.seq (.reg [(.u (.mv p123 (.t p19))), (.u (.mv p124 (.t p10))), (.u (.len p125 (.t p124))), (.u (.bin p126 .lss (.t p123) (.t p125)))]) (.cond (.t p126) .skip (.exit 2))) (.seq (.blk 3 (.seq (.reg [(.u (.ldn p130 (.t p8) 5)), (.u (.cf (some p131) p23 [(.t p130)])), (.u (.mv p132 (.t p19))), (.u (.cf (some p133) p39 [(.t p131), (.t p132)])), (.u (.mv p129 (.t p133))), (.u (.ext p134 (.t p129) 0)), (.u (.ext p135 (.t p129) 1)), (.u (.new p20 [(.i .i64 0), (.i .i64 0)])), (.u (.st (.t p20) (.t p134) 2)), (.u (.mv p21 (.t p135)))]) (.seq (.reg [(.u (.fad p136 (.t p8) 0)), (.u (.ld1 p137 (.t p136))), (.u (.bin p138 .add (.t p137) (.k (.i .i64 1)))), (.u (.mv p22 (.t p138)))]) (.seq (.seq (.reg [(.u (.mv p139 (.t p10))), (.u (.mv p140 (.t p19))), (.u (.ixs p141 1 (.t p139) (.t p140))), (.u (.ld1 p142 (.t p141))), (.u (.len p143 (.t p142))), (.u (.bin p144 .gtr (.t p143) (.k (.i .i64 0))))]) (.cond (.t p144) (.reg [(.u (.mv p145 (.t p10))), (.u (.mv p146 (.t p19))), (.u (.ixs p147 1 (.t p145) (.t p146))), (.u (.ld1 p148 (.t p147))), (.u (.ixs p149 1 (.t p148) (.k (.i .i64 0)))), (.u (.ld1 p150 (.t p149))), (.u (.mv p22 (.t p150)))]) .skip)) (.seq (.seq (.reg [(.u (.mv p151 (.t p21))), (.u (.bin p152 .neq (.t p151) (.k (.i .i64 0)))), (.u (.mv p153 (.t p152))), (.g p153 false (some p154) (.mv p154 (.t p22))), (.g p153 false (some p155) (.ldn p155 (.t p20) 2)), (.g p153 false (some p156) (.cf (some p156) p54 [(.t p154), (.t p155)])), (.g p153 false (some p157) (.un p157 .not (.t p156))), (.u (.pick p158 (.t p153) (.k (.b true)) (.t p157)))]) (.cond (.t p158) (.seq (.reg [(.u (.mv p7 (.k (.b false))))]) .ret) .skip)) (.seq (.reg [(.u (.mv p23 (.k (.i .i64 0))))]) (.blk 4 (.loop (.seq (.seq (.reg [(.u (.mv p159 (.t p23))), (.u (.fad p160 (.t p8) 0)), (.u (.ld1 p161 (.t p160))), (.u (.bin p162 .leq (.t p159) (.t p161)))]) (.cond (.t p162) .skip (.exit 4))) (.seq (.blk 5 (.seq (.reg [(.u (.ldn p166 (.t p8) 5)), (.u (.cf (some p167) p23 [(.t p166)])), (.u (.mv p168 (.t p19))), (.u (.mv p169 (.t p23))), (.u (.cf (some p170) p33 [(.t p167), (.t p168), (.t p169)])), (.u (.mv p165 (.t p170))), (.u (.ext p171 (.t p165) 0)), (.u (.ext p172 (.t p165) 1)), (.u (.mv p24 (.t p171))), (.u (.mv p25 (.t p172)))]) (.seq (.drw [(.u (.mv p173 (.t p9))), (.u (.mv p174 (.t p23))), (.u (.ixs p175 1 (.t p173) (.t p174))), (.u (.ld1 p176 (.t p175))), (.u (.fad p177 (.t p8) 3)), (.u (.ld1 p178 (.t p177))), (.u (.mv p179 (.t p19))), (.u (.ixs p180 1 (.t p178) (.t p179))), (.u (.ld1 p181 (.t p180))), (.u (.bin p182 .gtr (.t p176) (.t p181))), (.u (.mv p26 (.t p182)))] [0, 0, 3, 7, 0, 16, 0, 112, 240, 511, 1023]) (.seq (.reg [(.u (.mv p183 (.t p25))), (.u (.bin p184 .neq (.t p183) (.k (.i .i64 0)))), (.u (.mv p185 (.t p184))), (.g p185 false (some p186) (.mv p186 (.t p24))), (.g p185 false (some p187) (.cf (some p187) p35 [(.t p186), (.k (.i .i64 1)), (.k (.i .i64 3))])), (.g p185 false (some p188) (.un p188 .not (.t p187))), (.u (.pick p189 (.t p185) (.k (.b true)) (.t p188))), (.u (.mv p190 (.t p189))), (.g p190 false (some p191) (.mv p191 (.t p24))), (.g p190 false (some p192) (.bin p192 .eql (.t p191) (.k (.i .i64 1)))), (.g p190 false (some p193) (.mv p193 (.t p192))), (.g p193 true (some p194) (.mv p194 (.t p26))), (.g p193 true (some p195) (.un p195 .not (.t p194))), (.g p190 false (some p196) (.pick p196 (.t p193) (.t p195) (.k (.b false)))), (.u (.pick p197 (.t p190) (.k (.b true)) (.t p196))), (.u (.mv p198 (.t p197))), (.g p198 false (some p199) (.mv p199 (.t p24))), (.g p198 false (some p200) (.bin p200 .eql (.t p199) (.k (.i .i64 2)))), (.g p198 false (some p201) (.mv p201 (.t p200))), (.g p201 true (some p202) (.mv p202 (.t p26))), (.g p198 false (some p203) (.pick p203 (.t p201) (.t p202) (.k (.b false)))), (.u (.pick p204 (.t p198) (.k (.b true)) (.t p203)))]) (.cond (.t p204) (.seq (.reg [(.u (.mv p7 (.k (.b false))))]) .ret) .skip))))) (.reg [(.u (.mv p163 (.t p23))), (.u (.bin p164 .add (.t p163) (.k (.i .i64 1)))), (.u (.mv p23 (.t p164)))]))))))))))) (.reg [(.u (.mv p127 (.t p19))), (.u (.bin p128 .add (.t p127) (.k (.i .i64 1)))), (.u (.mv p19 (.t p128)))])))))) (.seq (.reg [(.u (.cf (some p205) p21 [])), (.u (.mv p7 (.t p205)))]) .ret)))))))))))
def rs9 : List RR := [(.t p7)]
theorem fn9 : FnOk Try.prog p10.ix 205 rc9 rs9 := ⟨Try.f9, bodyC Try.f9, Try.func9, by kernel_rfl, by kernel_rfl, by kernel_rfl, by kernel_rfl, by kernel_rfl⟩
end Go.Ev
namespace Go.Ev
open Go.Proofs
set_option maxRecDepth 100000
/-! ### TideTruth -/
theorem fault_marks {last : Int} {hs : List Rg} {step : Int} {lv : List Int} {ms ms2 : List Mk} (hf : faultR last hs step lv ms = 0) (hl : ms2.length ≤ 5) (hv2 : ms2.all (mkB last) = true) : faultR last hs step lv ms2 = 0 := by
  obtain ⟨V, hm, hA⟩ := fault_zero hf
  have f1 : ¬ (9 < last ∨ 6 < lv.length ∨ 5 < ms.length) := by
    have := V.n; have := V.h10; have := V.lv6; have := V.ms5
    omega
  have f2 : ¬ (9 < last ∨ 6 < lv.length ∨ 5 < ms2.length) := by omega
  rw [fault_ok f1] at hf
  rw [fault_ok f2]
  have hv : validB last hs step lv ms = true := by
    by_cases h : validB last hs step lv ms = true
    · exact h
    · rw [if_neg h] at hf; exact absurd hf (by decide)
  have hv3 : validB last hs step lv ms2 = true := by
    unfold validB at hv ⊢
    simp only [Bool.and_eq_true] at hv ⊢
    exact ⟨hv.1, hv.2.1, hv.2.2.1, hv.2.2.2.1, hv.2.2.2.2.1, hv2⟩
  rw [if_pos hv] at hf
  rw [if_pos hv3]
  exact hf
theorem mkW_ok {last : Int} {s : List Int} {w : Int} (h0 : 0 ≤ last) (hl : (s.length : Int) = last + 1) (hts : Hts s) (hw : 0 ≤ w ∧ w ≤ 65535) : mkB last (mkW last s w) = true ∧ rightR s (mkW last s w) = true := by
  have f1 := Int.tmod_nonneg (last + 1) hw.1
  have f2 := Int.tmod_lt_of_pos w (show (0 : Int) < last + 1 by omega)
  have e1 := Int.tmod_nonneg 4 (Int.tdiv_nonneg hw.1 (show (0 : Int) ≤ 16 by omega))
  have e2 := Int.tmod_nonneg 3 (Int.tdiv_nonneg hw.1 (show (0 : Int) ≤ 64 by omega))
  have e3 := Int.tmod_nonneg 3 (Int.tdiv_nonneg hw.1 (show (0 : Int) ≤ 256 by omega))
  unfold mkB rightR rgB hgtB mkW
  obtain ⟨f, hf⟩ := Int.eq_ofNat_of_zero_le f1
  rw [hf] at f2 ⊢
  have htb := top_bd hts (f := f) (t := min last ((f : Int) + (w.tdiv 16).tmod 4)) (by omega)
  simp only [Bool.and_eq_true, inB_iff]
  omega
theorem mkJ_mem {last : Int} {s l : List Int} {n : Nat} {m : Mk} (h : m ∈ mkJ last s l n) : ∃ i, m = mkW last s (wordR l i) := by
  unfold mkJ at h
  obtain ⟨i, _, rfl⟩ := List.mem_map.1 h
  exact ⟨i + 1, rfl⟩
theorem WIx.i0a {a : Int} {r : List Int} {F : List D → Prop} (k : F [.i .i64 a]) : WIx (Go.Ev.ints (a :: r)) 0 F := by
  show WIx (Go.Ev.ints (a :: r)) ((0 : Nat) : Int) F
  exact WIx.at rfl k
set_option maxHeartbeats 8000000 in
theorem c_TideTruth (last : Int) (hs : List Rg) (step : Int) (lv : List Int) (ms : List Mk) (which : Int) (l : List Int) (hl : ∀ n ∈ l, 0 ≤ n ∧ n ≤ 65535) (w1 : 0 ≤ which ∧ which ≤ 65535) (AW : PureF Try.prog p21.ix [] (.b true)) : PureF Try.prog p10.ix [.ag [.i .i64 last, .lst 2 (rows rgD hs), .i .i64 step, .lst 1 (ints lv), .lst 4 (rows mkD ms)], .i .u16 which, .lst 1 (numsK .u16 l)] (.b true) := by
  have iR := c_ready last hs step lv ms
  refine PureF.run fn9 (by simp) (by simp [PuL, PuE, Pu, pu_ints, pu_rg, pu_mk, pu_nums]) ?_; conv => whnf
  cases hR : readyB last hs step lv ms with
  | false =>
    rw [hR] at iR
    repeat' first | ((first | (with_reducible first | apply WB.tt | apply WB.ff) | apply Rn.seq | apply Rn.reg | apply Rn.drw | apply Rn.blk | apply Rn.skip | apply Rn.ret | apply Rn.exit | apply Rn.cond rfl | refine i64_ (by omega) (by omega) ?_ | refine ne0_ (by omega) ?_ | refine WIx.intsN (by omega) ?_ | refine WIx.rowsN (by omega) ?_ | refine WCall.pure (iR) ?_) <;> conv => whnf)
    refine WB.tt ?_; conv => whnf
    repeat' first | ((first | (with_reducible first | apply WB.tt | apply WB.ff) | apply Rn.seq | apply Rn.reg | apply Rn.drw | apply Rn.blk | apply Rn.skip | apply Rn.ret | apply Rn.exit | apply Rn.cond rfl | refine i64_ (by omega) (by omega) ?_ | refine ne0_ (by omega) ?_ | refine WIx.intsN (by omega) ?_ | refine WIx.rowsN (by omega) ?_ | refine WCall.pure (AW) ?_) <;> conv => whnf)
    exact Fin.b rfl rfl
  | true =>
    rw [hR] at iR
    have hR' := hR
    unfold readyB at hR'
    rw [Bool.and_eq_true, decide_eq_true_iff] at hR'
    obtain ⟨hT, hf⟩ := hR'
    obtain ⟨V, hm, hA⟩ := fault_zero hf
    have h6 := V.lv6
    have h10 := V.h10
    have hpos := V.h1
    have hn := V.n
    have h150 := thin_many hT hf
    have hLs : 0 < (listsR hs step).length := by
      obtain ⟨t, ht1, ht2⟩ := List.any_eq_true.1 hA
      exact List.length_pos_of_mem (List.mem_filter.2 ⟨ht1, ht2⟩ : t ∈ listsR hs step)
    have m6 := Int.tmod_nonneg ((listsR hs step).length : Int) w1.1
    have m7 := Int.tmod_lt_of_pos which (show (0 : Int) < ((listsR hs step).length : Int) by omega)
    obtain ⟨q, hq2⟩ := Int.eq_ofNat_of_zero_le m6
    have hql : q < (listsR hs step).length := by omega
    have hmem : (listsR hs step).getD q default ∈ listsR hs step := getD_mem hql
    obtain ⟨s, hs'⟩ : ∃ s, (listsR hs step).getD q default = s := ⟨_, rfl⟩
    rw [hs'] at hmem
    have hlis := (mem_listsR V.hv hm).1 hmem
    have hsl : s.length = hs.length := listed_lenZ hlis
    have hts : Hts s := by
      have h2 := hlis
      unfold listedR at h2
      simp only [Bool.and_eq_true] at h2
      refine listed_hts V.hv hsl ?_
      rw [hsl]
      have := h2.1
      rw [hsl, Nat.min_self] at this
      exact this
    have iM := c_Marked last hs step lv ms which l hl w1 V.hv h10 hn hpos q hq2 hql s hs' hsl hts
    have hcw := cntW_le hl
    have hlen : (mkJ last s l (cntW l)).length ≤ 5 := by simp [mkJ]; exact hcw
    have hmk : ∀ m ∈ mkJ last s l (cntW l), mkB last m = true ∧ rightR s m = true := fun m hm => by
      obtain ⟨i, rfl⟩ := mkJ_mem hm
      exact mkW_ok (by omega) (by omega) hts (wordR_bd hl i)
    generalize mkJ last s l (cntW l) = mx at *
    have hfx : faultR last hs step lv mx = 0 := fault_marks hf hlen (List.all_eq_true.2 fun m h => (hmk m h).1)
    obtain ⟨Vx, _, _⟩ := fault_zero hfx
    have htr : truthR hs step mx s = true := by
      unfold truthR
      rw [hlis, Bool.true_and]
      exact List.all_eq_true.2 fun m h => (hmk m h).2
    have hsR : s ∈ truthsR hs step mx := by
      unfold truthsR
      exact List.mem_filter.2 ⟨hmem, htr⟩
    have hsS : wantS s ∈ truthS hs step mx := (mem_truthS Vx hm).2 ⟨s, hsR, rfl⟩
    have hne : truthS hs step mx ≠ [] := fun e => by rw [e] at hsS; cases hsS
    have hp0 := List.length_pos_iff.2 hne
    have hpR : 0 < (truthsR hs step mx).length := List.length_pos_of_mem hsR
    have iTx := c_Table last hs step lv mx (by omega) (by omega) (by omega)
    have iLi := c_list s (by omega)
    have hwf : ∀ i, wfB .i64 (s.getD i 0) = true := fun i => wf_small (by have := hts.at i; omega) (by have := hts.at i; omega)
    have iPl := c_Play last hs step lv mx s hwf
    have hpl : playR last hs step lv mx s = (wetsR lv (wantS s) last, 0) := by unfold playR; rw [if_pos hfx, if_pos hlis]
    rw [hpl] at iPl
    have iPl : PureF Try.prog p22.ix [.ag [.i .i64 last, .lst 2 (rows rgD hs), .i .i64 step, .lst 1 (ints lv), .lst 4 (rows mkD mx)], .lst 1 (ints s)] (.tp [.lst 1 (rows tD (wetsR lv (wantS s) last)), .i .i64 0]) := iPl
    have hTl : (truthS hs step mx).length ≤ 1000 := Nat.le_trans (List.length_filter_le _ _) (Nat.le_trans (exS_150 V.hv h150 step) (by omega))
    have iB := c_Bounds last hs step lv mx fun _ => hTl
    have hE0 : bndE last hs step lv mx = 0 := by unfold bndE startE; rw [if_pos hfx, cond_true, if_neg hne]
    have hB0 : bndL last hs step lv mx = bdsR (truthS hs step mx) hs.length := by unfold bndL; rw [if_pos hE0]
    rw [hE0, hB0] at iB
    have iLv := c_Leave last hs step lv mx
    rw [if_pos hfx, hfx, (lev_nil hfx).2 hne] at iLv
    have iLv : PureF Try.prog p46.ix [.ag [.i .i64 last, .lst 2 (rows rgD hs), .i .i64 step, .lst 1 (ints lv), .lst 4 (rows mkD mx)]] (.tp [.ns, .i .i64 0]) := iLv
    have iFs := c_First last hs step lv mx
    have hfr : firstR2 last hs step lv mx = (0, 7) := by
      unfold firstR2
      rw [if_pos hfx, List.find?_range_eq_none.2 fun i hi => ?_]
      have hS2 := hsS
      unfold truthS at hS2
      obtain ⟨j1, j2⟩ := List.mem_filter.1 hS2
      unfold wrongB
      rw [List.any_eq_true.2 ⟨wantS s, j1, ?_⟩]
      · rfl
      · unfold fitsR at j2 ⊢
        exact List.all_eq_true.2 fun m hm => List.all_eq_true.1 j2 m (List.mem_of_mem_take hm)
    rw [hfr] at iFs
    have iFs : PureF Try.prog p45.ix [.ag [.i .i64 last, .lst 2 (rows rgD hs), .i .i64 step, .lst 1 (ints lv), .lst 4 (rows mkD mx)]] (.tp [.i .i64 0, .i .i64 7]) := iFs
    have iPr := c_ProveTruth last hs step lv mx s hwf
    rw [show proveR last hs step lv mx s = true by unfold proveR; rw [decide_eq_true hfx, htr]; rfl] at iPr
    have iRe := fun (k : Nat) => c_Reach last hs step lv mx (k : Int) (by omega) fun _ => hTl
    have iWe := fun (k z : Nat) => c_Wet last hs step lv mx (k : Int) (z : Int) (by omega) fun _ => hTl
    have hRe : ∀ k, k < lv.length → reachE last hs step lv mx (k : Int) = 0 ∧ reachR last hs step lv mx (k : Int) = bdR ((truthS hs step mx).map fun c => firstR lv c k last) := fun k hk => by
      have hb : inB (k : Int) 0 ((lv.length : Int) - 1) = true := inB_iff.2 (by omega)
      have he : reachE last hs step lv mx (k : Int) = 0 := by unfold reachE; rw [hb]; exact hE0
      refine ⟨he, ?_⟩
      unfold reachR
      rw [if_pos he]
      rfl
    have hWe : ∀ k z, k < lv.length → z < hs.length → wetE last hs step lv mx (k : Int) (z : Int) = 0 ∧ wetV last hs step lv mx (k : Int) (z : Int) = verN (truthsR hs step mx) (lv.getD k 0) z := fun k z hk hz => by
      have hc : cellB last lv (k : Int) (z : Int) = true := by unfold cellB; rw [inB_iff.2 (by omega), inB_iff.2 (by omega)]; rfl
      have he : wetE last hs step lv mx (k : Int) (z : Int) = 0 := by unfold wetE; rw [hc]; exact hE0
      refine ⟨he, ?_⟩
      unfold wetV
      rw [if_pos he]
      exact ver_same Vx hm hp0 hz _
    have hbd : ∀ z, z < hs.length → ((bdsR (truthS hs step mx) hs.length).getD z default).lo ≤ s.getD z 0 ∧ s.getD z 0 ≤ ((bdsR (truthS hs step mx) hs.length).getD z default).hi := fun z hz => by
      rw [bdsR_at _ hz]
      exact bdG_in hsS z
    have hfi : ∀ k, k < lv.length → (bdR ((truthS hs step mx).map fun c => firstR lv c k last)).1 ≤ firstR lv (wantS s) k last ∧ firstR lv (wantS s) k last ≤ (bdR ((truthS hs step mx).map fun c => firstR lv c k last)).2 := fun k hk => bdR_in (List.mem_map_of_mem (f := fun c => firstR lv c k last) hsS)
    have hso : ∀ k, firstR lv (wantS s) k last = match wetR lv (wantS s) k last with
        | [] => last + 1
        | a :: _ => a := fun k => by
      unfold firstR
      rw [wet_same (by omega), show last + 1 = (s.length : Int) by omega, soon_first]
      rfl
    have hve : ∀ k z, z < hs.length → (verN (truthsR hs step mx) (lv.getD k 0) z = 1 → lv.getD k 0 < s.getD z 0) ∧ (verN (truthsR hs step mx) (lv.getD k 0) z = 2 → s.getD z 0 ≤ lv.getD k 0) := fun k z hz => ⟨fun h => verN_one.1 h s hsR, fun h => (verN_two hpR).1 h s hsR⟩
    have hbl := bdsR_len (truthS hs step mx) hs.length
    have hrl := rows_length rgD (bdsR (truthS hs step mx) hs.length)
    have hwl := wetsR_length lv (wantS s) last
    have hwt := rows_length tD (wetsR lv (wantS s) last)
    have el := ints_length lv
    have hwa := fun (k : Nat) (h : k < lv.length) => wetsR_at (lv := lv) (c := wantS s) (last := last) h
    have q0 : Int.ofNat 0 = 0 := rfl
    generalize bdsR (truthS hs step mx) hs.length = bl at *
    generalize wetsR lv (wantS s) last = pl at *
    repeat' first | ((first | (with_reducible first | apply WB.tt | apply WB.ff) | apply Rn.seq | apply Rn.reg | apply Rn.drw | apply Rn.blk | apply Rn.skip | apply Rn.ret | apply Rn.exit | apply Rn.cond rfl | refine i64_ (by omega) (by omega) ?_ | refine ne0_ (by omega) ?_ | refine WIx.intsN (by omega) ?_ | refine WIx.rowsN (by omega) ?_ | refine WCall.pure (iR) ?_ | refine WCall.pure (iM) ?_ | refine WCall.pure (iTx) ?_ | refine WCall.pure (iLi) ?_ | refine WCall.pure (iPl) ?_ | refine WCall.pure (iB) ?_ | refine WCall.pure (iLv) ?_ | refine WCall.pure (iFs) ?_ | refine WCall.pure (iPr) ?_ | (with_reducible first | refine WB.decT (by first | rfl | assumption | omega | exact ⟨rfl, rfl⟩) ?_ | refine WB.decF (by first | assumption | omega) ?_ | refine WB.ndT (by first | rfl | assumption | omega | exact ⟨rfl, rfl⟩) ?_ | refine WB.ndF (by first | assumption | omega) ?_ | apply WB.nt | apply WB.nf | refine WB.dec (fun h => ?_) (fun h => ?_) | refine WB.ndec (fun h => ?_) (fun h => ?_)) | refine WB.mk (fun h => ?_) (fun h => ?_)) <;> conv => whnf) | (refine WB.tt ?_; conv => whnf) | (refine WB.ff ?_; conv => whnf)
    -- the heights
    refine Rn.loop (fun j : Nat => ⟨(.n (.n (.n (.n .e (some (.pt (.o .h) 0 0)) .e) none (.n .e (some (.lst 2 (rows rgD bl))) .e)) none (.n (.n (.n .e (some (.i .i64 (j : Int))) .e) (some (.lst 1 (rows tD pl))) .e) none .e)) none (.n (.n (.n .e (some (.lst 1 (ints s))) .e) none .e) none .e)), (.n (.n .e (some (tabC last hs step lv mx)) .e) none .e), .i .h, none⟩) (fun j => j ≤ hs.length) (fun j => hs.length - j) 0 ?_ ?_ ?_
    · refine X.le.mk ?_ ?_ (Nat.le_refl _) rfl rfl
      · show T.le ((.n (.n (.n (.n .e (some (.pt (.o .h) 0 0)) .e) none (.n .e (some (.lst 2 (rows rgD bl))) .e)) none (.n (.n (.n .e (some (.i .i64 0)) .e) (some (.lst 1 (rows tD pl))) .e) none .e)) none (.n (.n (.n .e (some (.lst 1 (ints s))) .e) none .e) none .e)) : T D) _
        (repeat' first | exact T.le_e _ | refine T.le_some ?_ rfl ?_ | refine T.le_none ?_ ?_)
      · show T.le ((.n (.n .e (some (tabC last hs step lv mx)) .e) none .e) : T C) _
        (repeat' first | exact T.le_e _ | refine T.le_some ?_ rfl ?_ | refine T.le_none ?_ ?_ | refine T.le_ee ?_ ?_)
    · exact Nat.zero_le _
    intro j hj
    have hj : j ≤ hs.length := hj
    conv => whnf
    repeat' first | ((first | (with_reducible first | apply WB.tt | apply WB.ff) | apply Rn.seq | apply Rn.reg | apply Rn.drw | apply Rn.blk | apply Rn.skip | apply Rn.ret | apply Rn.exit | apply Rn.cond rfl | refine i64_ (by omega) (by omega) ?_ | refine ne0_ (by omega) ?_ | refine WIx.intsN (by omega) ?_ | refine WIx.rowsN (by omega) ?_) <;> conv => whnf)
    refine WB.dec (fun h => ?_) (fun h => ?_) <;> conv => whnf
    · have hlt : j < hs.length := by omega
      have cI := c_in (s.getD j 0) (bl.getD j default).lo (bl.getD j default).hi
      rw [inB_iff.2 (hbd j hlt)] at cI
      repeat' first | ((first | (with_reducible first | apply WB.tt | apply WB.ff) | apply Rn.seq | apply Rn.reg | apply Rn.drw | apply Rn.blk | apply Rn.skip | apply Rn.ret | apply Rn.exit | apply Rn.cond rfl | refine i64_ (by omega) (by omega) ?_ | refine ne0_ (by omega) ?_ | refine WIx.intsN (by omega) ?_ | refine WIx.rowsN (by omega) ?_ | refine WCall.pure (cI) ?_ | (with_reducible first | refine WB.decT (by first | rfl | assumption | omega | exact ⟨rfl, rfl⟩) ?_ | refine WB.decF (by first | assumption | omega) ?_ | refine WB.ndT (by first | rfl | assumption | omega | exact ⟨rfl, rfl⟩) ?_ | refine WB.ndF (by first | assumption | omega) ?_ | apply WB.nt | apply WB.nf | refine WB.dec (fun h => ?_) (fun h => ?_) | refine WB.ndec (fun h => ?_) (fun h => ?_)) | refine WB.mk (fun h => ?_) (fun h => ?_)) <;> conv => whnf) | (refine WB.tt ?_; conv => whnf) | (refine WB.ff ?_; conv => whnf)
      refine Again.to (j + 1) (by omega) (by omega) (Nat.le_refl _) ?_
      refine Shr.of ?_ ?_ rfl rfl
      · show Rel _ _ ((.n (.n (.n (.n .e (some (.pt (.o .h) 0 0)) .e) none (.n .e (some (.lst 2 (rows rgD bl))) .e)) none (.n (.n (.n .e (some (.i .i64 ((j + 1 : Nat) : Int))) .e) (some (.lst 1 (rows tD pl))) .e) none .e)) none (.n (.n (.n .e (some (.lst 1 (ints s))) .e) none .e) none .e)) : T D) _
        (repeat' first | exact Rel.e | refine Rel.some ?_ ?_ ?_ | refine Rel.none ?_ ?_ | refine Rel.ee ?_ ?_)
        all_goals show Fz _ _ _ _
        all_goals first | exact .pu trivial | exact .pu (pu_ints _) | exact .pu (pu_rg _) | exact .pu (pu_tR _) | exact .kpt (show _ < 3 by simp [Pos.nat])
      · show Rel _ _ ((.n (.n .e (some (tabC last hs step lv mx)) .e) none .e) : T C) _
        (repeat' first | exact Rel.e | refine Rel.some ?_ ?_ ?_ | refine Rel.none ?_ ?_ | refine Rel.ee ?_ ?_)
        exact RO'.of (show _ < 3 by simp [Pos.nat]) (tabC_sh last hs step lv mx)
    repeat' first | ((first | (with_reducible first | apply WB.tt | apply WB.ff) | apply Rn.seq | apply Rn.reg | apply Rn.drw | apply Rn.blk | apply Rn.skip | apply Rn.ret | apply Rn.exit | apply Rn.cond rfl | refine i64_ (by omega) (by omega) ?_ | refine ne0_ (by omega) ?_ | refine WIx.intsN (by omega) ?_ | refine WIx.rowsN (by omega) ?_) <;> conv => whnf)
    -- the rows
    refine Rn.loop (fun k : Nat => ⟨(.n (.n (.n (.n .e (some (.pt (.o .h) 0 0)) .e) none .e) none (.n (.n .e (some (.lst 1 (rows tD pl))) .e) none .e)) none (.n (.n (.n .e (some (.lst 1 (ints s))) .e) none .e) none (.n (.n (.n .e (some (.i .i64 (k : Int))) .e) none .e) none .e))), (.n (.n .e (some (tabC last hs step lv mx)) .e) none .e), .i .h, none⟩) (fun k => k ≤ lv.length) (fun k => lv.length - k) 0 ?_ ?_ ?_
    · refine X.le.mk ?_ ?_ (Nat.le_refl _) rfl rfl
      · show T.le ((.n (.n (.n (.n .e (some (.pt (.o .h) 0 0)) .e) none .e) none (.n (.n .e (some (.lst 1 (rows tD pl))) .e) none .e)) none (.n (.n (.n .e (some (.lst 1 (ints s))) .e) none .e) none (.n (.n (.n .e (some (.i .i64 0)) .e) none .e) none .e))) : T D) _
        (repeat' first | exact T.le_e _ | refine T.le_some ?_ rfl ?_ | refine T.le_none ?_ ?_)
      · show T.le ((.n (.n .e (some (tabC last hs step lv mx)) .e) none .e) : T C) _
        (repeat' first | exact T.le_e _ | refine T.le_some ?_ rfl ?_ | refine T.le_none ?_ ?_ | refine T.le_ee ?_ ?_)
    · exact Nat.zero_le _
    intro k hk
    have hk : k ≤ lv.length := hk
    conv => whnf
    repeat' first | ((first | (with_reducible first | apply WB.tt | apply WB.ff) | apply Rn.seq | apply Rn.reg | apply Rn.drw | apply Rn.blk | apply Rn.skip | apply Rn.ret | apply Rn.exit | apply Rn.cond rfl | refine i64_ (by omega) (by omega) ?_ | refine ne0_ (by omega) ?_ | refine WIx.intsN (by omega) ?_ | refine WIx.rowsN (by omega) ?_) <;> conv => whnf)
    refine WB.dec (fun h => ?_) (fun h => ?_) <;> conv => whnf
    · have hkl : k < lv.length := by omega
      have cR := iRe k
      rw [(hRe k hkl).1, (hRe k hkl).2] at cR
      have hfk := hfi k hkl
      have hsk := hso k
      have hwk := hwa k hkl
      generalize bdR ((truthS hs step mx).map fun c => firstR lv c k last) = g at *
      generalize wetR lv (wantS s) k last = wk at *
      have hwk2 : pl.getD k default = wk := hwk
      have hlk : (ints (pl.getD k default)).length = wk.length := by rw [ints_length, hwk2]
      cases wk with
      | nil =>
        have hlk : (ints (pl.getD k default)).length = 0 := hlk
        have hfv : firstR lv (wantS s) k last = last + 1 := hsk
        rw [hfv] at hfk
        have cI := c_in (last + 1) g.1 g.2
        rw [inB_iff.2 hfk] at cI
        repeat' first | ((first | (with_reducible first | apply WB.tt | apply WB.ff) | apply Rn.seq | apply Rn.reg | apply Rn.drw | apply Rn.blk | apply Rn.skip | apply Rn.ret | apply Rn.exit | apply Rn.cond rfl | refine i64_ (by omega) (by omega) ?_ | refine ne0_ (by omega) ?_ | refine WIx.intsN (by omega) ?_ | refine WIx.rowsN (by omega) ?_ | refine WCall.pure (iTx) ?_ | refine WCall.pure (cR) ?_ | refine WCall.pure (cI) ?_ | (with_reducible first | refine WB.decT (by first | rfl | assumption | omega | exact ⟨rfl, rfl⟩) ?_ | refine WB.decF (by first | assumption | omega) ?_ | refine WB.ndT (by first | rfl | assumption | omega | exact ⟨rfl, rfl⟩) ?_ | refine WB.ndF (by first | assumption | omega) ?_ | apply WB.nt | apply WB.nf | refine WB.dec (fun h => ?_) (fun h => ?_) | refine WB.ndec (fun h => ?_) (fun h => ?_)) | refine WB.mk (fun h => ?_) (fun h => ?_)) <;> conv => whnf) | (refine WB.tt ?_; conv => whnf) | (refine WB.ff ?_; conv => whnf)
        refine Rn.loop (fun z : Nat => ⟨(.n (.n (.n (.n .e (some (.pt (.o .h) 0 0)) .e) none .e) none (.n (.n .e (some (.lst 1 (rows tD pl))) .e) none .e)) none (.n (.n (.n .e (some (.lst 1 (ints s))) .e) none .e) none (.n (.n (.n .e (some (.i .i64 (k : Int))) .e) none .e) none (.n (.n .e (some (.i .i64 (z : Int))) .e) none .e)))), (.n (.n .e (some (tabC last hs step lv mx)) .e) none .e), .o (.o .h), none⟩) (fun z => z ≤ hs.length) (fun z => hs.length - z) 0 ?_ ?_ ?_
        · refine X.le.mk ?_ ?_ (Nat.le_refl _) rfl rfl
          · show T.le ((.n (.n (.n (.n .e (some (.pt (.o .h) 0 0)) .e) none .e) none (.n (.n .e (some (.lst 1 (rows tD pl))) .e) none .e)) none (.n (.n (.n .e (some (.lst 1 (ints s))) .e) none .e) none (.n (.n (.n .e (some (.i .i64 (k : Int))) .e) none .e) none (.n (.n .e (some (.i .i64 0)) .e) none .e)))) : T D) _
            (repeat' first | exact T.le_e _ | refine T.le_some ?_ rfl ?_ | refine T.le_none ?_ ?_)
          · show T.le ((.n (.n .e (some (tabC last hs step lv mx)) .e) none .e) : T C) _
            (repeat' first | exact T.le_e _ | refine T.le_some ?_ rfl ?_ | refine T.le_none ?_ ?_ | refine T.le_ee ?_ ?_)
        · exact Nat.zero_le _
        intro z hz
        have hz : z ≤ hs.length := hz
        conv => whnf
        repeat' first | ((first | (with_reducible first | apply WB.tt | apply WB.ff) | apply Rn.seq | apply Rn.reg | apply Rn.drw | apply Rn.blk | apply Rn.skip | apply Rn.ret | apply Rn.exit | apply Rn.cond rfl | refine i64_ (by omega) (by omega) ?_ | refine ne0_ (by omega) ?_ | refine WIx.intsN (by omega) ?_ | refine WIx.rowsN (by omega) ?_) <;> conv => whnf)
        refine WB.dec (fun h => ?_) (fun h => ?_) <;> conv => whnf
        · have hzl : z < hs.length := by omega
          have cW := iWe k z
          rw [(hWe k z hkl hzl).1, (hWe k z hkl hzl).2] at cW
          have cV := c_In (verN (truthsR hs step mx) (lv.getD k 0) z) 1 3
          have hr := verN_range (truthsR hs step mx) (lv.getD k 0) z
          rw [inB_iff.2 (by omega)] at cV
          have hv := hve k z hzl
          generalize verN (truthsR hs step mx) (lv.getD k 0) z = v at *
          have hD := hv.1
          have hE := hv.2
          repeat' first | ((first | (with_reducible first | apply WB.tt | apply WB.ff) | apply Rn.seq | apply Rn.reg | apply Rn.drw | apply Rn.blk | apply Rn.skip | apply Rn.ret | apply Rn.exit | apply Rn.cond rfl | refine i64_ (by omega) (by omega) ?_ | refine ne0_ (by omega) ?_ | refine WIx.intsN (by omega) ?_ | refine WIx.rowsN (by omega) ?_ | refine WCall.pure (iTx) ?_ | refine WCall.pure (cW) ?_ | refine WCall.pure (cV) ?_ | (with_reducible first | refine WB.decT (by first | rfl | assumption | omega | exact ⟨rfl, rfl⟩) ?_ | refine WB.decF (by first | assumption | omega) ?_ | refine WB.ndT (by first | rfl | assumption | omega | exact ⟨rfl, rfl⟩) ?_ | refine WB.ndF (by first | assumption | omega) ?_ | apply WB.nt | apply WB.nf | refine WB.dec (fun h => ?_) (fun h => ?_) | refine WB.ndec (fun h => ?_) (fun h => ?_)) | refine WB.mk (fun h => ?_) (fun h => ?_)) <;> conv => whnf) | (refine WB.tt ?_; conv => whnf) | (refine WB.ff ?_; conv => whnf)
          all_goals first
            | (exfalso; omega)
            | (refine Again.to (z + 1) (by omega) (by omega) (Nat.le_refl _) ?_
               refine Shr.of ?_ ?_ rfl rfl
               · show Rel _ _ ((.n (.n (.n (.n .e (some (.pt (.o .h) 0 0)) .e) none .e) none (.n (.n .e (some (.lst 1 (rows tD pl))) .e) none .e)) none (.n (.n (.n .e (some (.lst 1 (ints s))) .e) none .e) none (.n (.n (.n .e (some (.i .i64 (k : Int))) .e) none .e) none (.n (.n .e (some (.i .i64 ((z + 1 : Nat) : Int))) .e) none .e)))) : T D) _
                 (repeat' first | exact Rel.e | refine Rel.some ?_ ?_ ?_ | refine Rel.none ?_ ?_ | refine Rel.ee ?_ ?_)
                 all_goals show Fz _ _ _ _
                 all_goals first | exact .pu trivial | exact .pu (pu_ints _) | exact .pu (pu_rg _) | exact .pu (pu_tR _) | exact .kpt (show _ < 4 by simp [Pos.nat])
               · show Rel _ _ ((.n (.n .e (some (tabC last hs step lv mx)) .e) none .e) : T C) _
                 (repeat' first | exact Rel.e | refine Rel.some ?_ ?_ ?_ | refine Rel.none ?_ ?_ | refine Rel.ee ?_ ?_)
                 exact RO'.of (show _ < 4 by simp [Pos.nat]) (tabC_sh last hs step lv mx))
        · repeat' first | ((first | (with_reducible first | apply WB.tt | apply WB.ff) | apply Rn.seq | apply Rn.reg | apply Rn.drw | apply Rn.blk | apply Rn.skip | apply Rn.ret | apply Rn.exit | apply Rn.cond rfl | refine i64_ (by omega) (by omega) ?_ | refine ne0_ (by omega) ?_ | refine WIx.intsN (by omega) ?_ | refine WIx.rowsN (by omega) ?_) <;> conv => whnf)
          refine Again.to (k + 1) (by omega) (by omega) (Nat.le_refl _) ?_
          refine Shr.of ?_ ?_ rfl rfl
          · show Rel _ _ ((.n (.n (.n (.n .e (some (.pt (.o .h) 0 0)) .e) none .e) none (.n (.n .e (some (.lst 1 (rows tD pl))) .e) none .e)) none (.n (.n (.n .e (some (.lst 1 (ints s))) .e) none .e) none (.n (.n (.n .e (some (.i .i64 ((k + 1 : Nat) : Int))) .e) none .e) none .e))) : T D) _
            (repeat' first | exact Rel.e | refine Rel.some ?_ ?_ ?_ | refine Rel.none ?_ ?_ | refine Rel.ee ?_ ?_)
            all_goals show Fz _ _ _ _
            all_goals first | exact .pu trivial | exact .pu (pu_ints _) | exact .pu (pu_rg _) | exact .pu (pu_tR _) | exact .kpt (show _ < 3 by simp [Pos.nat])
          · show Rel _ _ ((.n (.n .e (some (tabC last hs step lv mx)) .e) none .e) : T C) _
            (repeat' first | exact Rel.e | refine Rel.some ?_ ?_ ?_ | refine Rel.none ?_ ?_ | refine Rel.ee ?_ ?_)
            exact RO'.of (show _ < 3 by simp [Pos.nat]) (tabC_sh last hs step lv mx)
      | cons a wk =>
        have hlk : (ints (pl.getD k default)).length = wk.length + 1 := hlk
        have hfv : firstR lv (wantS s) k last = a := hsk
        rw [hfv] at hfk
        have cI := c_in (a) g.1 g.2
        rw [inB_iff.2 hfk] at cI
        repeat' first | ((first | (with_reducible first | apply WB.tt | apply WB.ff) | apply Rn.seq | apply Rn.reg | apply Rn.drw | apply Rn.blk | apply Rn.skip | apply Rn.ret | apply Rn.exit | apply Rn.cond rfl | refine i64_ (by omega) (by omega) ?_ | refine ne0_ (by omega) ?_ | refine WIx.intsN (by omega) ?_ | refine WIx.rowsN (by omega) ?_ | refine WCall.pure (iTx) ?_ | refine WCall.pure (cR) ?_ | refine WCall.pure (cI) ?_ | (with_reducible first | refine WB.decT (by first | rfl | assumption | omega | exact ⟨rfl, rfl⟩) ?_ | refine WB.decF (by first | assumption | omega) ?_ | refine WB.ndT (by first | rfl | assumption | omega | exact ⟨rfl, rfl⟩) ?_ | refine WB.ndF (by first | assumption | omega) ?_ | apply WB.nt | apply WB.nf | refine WB.dec (fun h => ?_) (fun h => ?_) | refine WB.ndec (fun h => ?_) (fun h => ?_)) | refine WB.mk (fun h => ?_) (fun h => ?_)) <;> conv => whnf) | (refine WB.tt ?_; conv => whnf) | (refine WB.ff ?_; conv => whnf) | (rw [hwk2]; refine WIx.i0a ?_; conv => whnf)
        refine Rn.loop (fun z : Nat => ⟨(.n (.n (.n (.n .e (some (.pt (.o .h) 0 0)) .e) none .e) none (.n (.n .e (some (.lst 1 (rows tD pl))) .e) none .e)) none (.n (.n (.n .e (some (.lst 1 (ints s))) .e) none .e) none (.n (.n (.n .e (some (.i .i64 (k : Int))) .e) none .e) none (.n (.n .e (some (.i .i64 (z : Int))) .e) none .e)))), (.n (.n .e (some (tabC last hs step lv mx)) .e) none .e), .o (.o .h), none⟩) (fun z => z ≤ hs.length) (fun z => hs.length - z) 0 ?_ ?_ ?_
        · refine X.le.mk ?_ ?_ (Nat.le_refl _) rfl rfl
          · show T.le ((.n (.n (.n (.n .e (some (.pt (.o .h) 0 0)) .e) none .e) none (.n (.n .e (some (.lst 1 (rows tD pl))) .e) none .e)) none (.n (.n (.n .e (some (.lst 1 (ints s))) .e) none .e) none (.n (.n (.n .e (some (.i .i64 (k : Int))) .e) none .e) none (.n (.n .e (some (.i .i64 0)) .e) none .e)))) : T D) _
            (repeat' first | exact T.le_e _ | refine T.le_some ?_ rfl ?_ | refine T.le_none ?_ ?_)
          · show T.le ((.n (.n .e (some (tabC last hs step lv mx)) .e) none .e) : T C) _
            (repeat' first | exact T.le_e _ | refine T.le_some ?_ rfl ?_ | refine T.le_none ?_ ?_ | refine T.le_ee ?_ ?_)
        · exact Nat.zero_le _
        intro z hz
        have hz : z ≤ hs.length := hz
        conv => whnf
        repeat' first | ((first | (with_reducible first | apply WB.tt | apply WB.ff) | apply Rn.seq | apply Rn.reg | apply Rn.drw | apply Rn.blk | apply Rn.skip | apply Rn.ret | apply Rn.exit | apply Rn.cond rfl | refine i64_ (by omega) (by omega) ?_ | refine ne0_ (by omega) ?_ | refine WIx.intsN (by omega) ?_ | refine WIx.rowsN (by omega) ?_) <;> conv => whnf)
        refine WB.dec (fun h => ?_) (fun h => ?_) <;> conv => whnf
        · have hzl : z < hs.length := by omega
          have cW := iWe k z
          rw [(hWe k z hkl hzl).1, (hWe k z hkl hzl).2] at cW
          have cV := c_In (verN (truthsR hs step mx) (lv.getD k 0) z) 1 3
          have hr := verN_range (truthsR hs step mx) (lv.getD k 0) z
          rw [inB_iff.2 (by omega)] at cV
          have hv := hve k z hzl
          generalize verN (truthsR hs step mx) (lv.getD k 0) z = v at *
          have hD := hv.1
          have hE := hv.2
          repeat' first | ((first | (with_reducible first | apply WB.tt | apply WB.ff) | apply Rn.seq | apply Rn.reg | apply Rn.drw | apply Rn.blk | apply Rn.skip | apply Rn.ret | apply Rn.exit | apply Rn.cond rfl | refine i64_ (by omega) (by omega) ?_ | refine ne0_ (by omega) ?_ | refine WIx.intsN (by omega) ?_ | refine WIx.rowsN (by omega) ?_ | refine WCall.pure (iTx) ?_ | refine WCall.pure (cW) ?_ | refine WCall.pure (cV) ?_ | (with_reducible first | refine WB.decT (by first | rfl | assumption | omega | exact ⟨rfl, rfl⟩) ?_ | refine WB.decF (by first | assumption | omega) ?_ | refine WB.ndT (by first | rfl | assumption | omega | exact ⟨rfl, rfl⟩) ?_ | refine WB.ndF (by first | assumption | omega) ?_ | apply WB.nt | apply WB.nf | refine WB.dec (fun h => ?_) (fun h => ?_) | refine WB.ndec (fun h => ?_) (fun h => ?_)) | refine WB.mk (fun h => ?_) (fun h => ?_)) <;> conv => whnf) | (refine WB.tt ?_; conv => whnf) | (refine WB.ff ?_; conv => whnf)
          all_goals first
            | (exfalso; omega)
            | (refine Again.to (z + 1) (by omega) (by omega) (Nat.le_refl _) ?_
               refine Shr.of ?_ ?_ rfl rfl
               · show Rel _ _ ((.n (.n (.n (.n .e (some (.pt (.o .h) 0 0)) .e) none .e) none (.n (.n .e (some (.lst 1 (rows tD pl))) .e) none .e)) none (.n (.n (.n .e (some (.lst 1 (ints s))) .e) none .e) none (.n (.n (.n .e (some (.i .i64 (k : Int))) .e) none .e) none (.n (.n .e (some (.i .i64 ((z + 1 : Nat) : Int))) .e) none .e)))) : T D) _
                 (repeat' first | exact Rel.e | refine Rel.some ?_ ?_ ?_ | refine Rel.none ?_ ?_ | refine Rel.ee ?_ ?_)
                 all_goals show Fz _ _ _ _
                 all_goals first | exact .pu trivial | exact .pu (pu_ints _) | exact .pu (pu_rg _) | exact .pu (pu_tR _) | exact .kpt (show _ < 4 by simp [Pos.nat])
               · show Rel _ _ ((.n (.n .e (some (tabC last hs step lv mx)) .e) none .e) : T C) _
                 (repeat' first | exact Rel.e | refine Rel.some ?_ ?_ ?_ | refine Rel.none ?_ ?_ | refine Rel.ee ?_ ?_)
                 exact RO'.of (show _ < 4 by simp [Pos.nat]) (tabC_sh last hs step lv mx))
        · repeat' first | ((first | (with_reducible first | apply WB.tt | apply WB.ff) | apply Rn.seq | apply Rn.reg | apply Rn.drw | apply Rn.blk | apply Rn.skip | apply Rn.ret | apply Rn.exit | apply Rn.cond rfl | refine i64_ (by omega) (by omega) ?_ | refine ne0_ (by omega) ?_ | refine WIx.intsN (by omega) ?_ | refine WIx.rowsN (by omega) ?_) <;> conv => whnf)
          refine Again.to (k + 1) (by omega) (by omega) (Nat.le_refl _) ?_
          refine Shr.of ?_ ?_ rfl rfl
          · show Rel _ _ ((.n (.n (.n (.n .e (some (.pt (.o .h) 0 0)) .e) none .e) none (.n (.n .e (some (.lst 1 (rows tD pl))) .e) none .e)) none (.n (.n (.n .e (some (.lst 1 (ints s))) .e) none .e) none (.n (.n (.n .e (some (.i .i64 ((k + 1 : Nat) : Int))) .e) none .e) none .e))) : T D) _
            (repeat' first | exact Rel.e | refine Rel.some ?_ ?_ ?_ | refine Rel.none ?_ ?_ | refine Rel.ee ?_ ?_)
            all_goals show Fz _ _ _ _
            all_goals first | exact .pu trivial | exact .pu (pu_ints _) | exact .pu (pu_rg _) | exact .pu (pu_tR _) | exact .kpt (show _ < 3 by simp [Pos.nat])
          · show Rel _ _ ((.n (.n .e (some (tabC last hs step lv mx)) .e) none .e) : T C) _
            (repeat' first | exact Rel.e | refine Rel.some ?_ ?_ ?_ | refine Rel.none ?_ ?_ | refine Rel.ee ?_ ?_)
            exact RO'.of (show _ < 3 by simp [Pos.nat]) (tabC_sh last hs step lv mx)
    · repeat' first | ((first | (with_reducible first | apply WB.tt | apply WB.ff) | apply Rn.seq | apply Rn.reg | apply Rn.drw | apply Rn.blk | apply Rn.skip | apply Rn.ret | apply Rn.exit | apply Rn.cond rfl | refine i64_ (by omega) (by omega) ?_ | refine ne0_ (by omega) ?_ | refine WIx.intsN (by omega) ?_ | refine WIx.rowsN (by omega) ?_ | refine WCall.pure (AW) ?_ | (with_reducible first | refine WB.decT (by first | rfl | assumption | omega | exact ⟨rfl, rfl⟩) ?_ | refine WB.decF (by first | assumption | omega) ?_ | refine WB.ndT (by first | rfl | assumption | omega | exact ⟨rfl, rfl⟩) ?_ | refine WB.ndF (by first | assumption | omega) ?_ | apply WB.nt | apply WB.nf | refine WB.dec (fun h => ?_) (fun h => ?_) | refine WB.ndec (fun h => ?_) (fun h => ?_)) | refine WB.mk (fun h => ?_) (fun h => ?_)) <;> conv => whnf) | (refine WB.tt ?_; conv => whnf) | (refine WB.ff ?_; conv => whnf)
      exact Fin.b rfl rfl
theorem main_tideTruth (AW : PureF Try.prog p21.ix [] (.b true)) {es : List D} (fit : FitP [(true, [.i .i64, .sl [.i .i64, .i .i64], .i .i64, .sl [.i .i64], .sl [.i .i64, .i .i64, .i .i64, .i .i64]]), (false, [.i .u16]), (false, [.sl [.i .u16]])] es) : PureF Try.prog 9 es (.b true) := by
  obtain ⟨last, hs, step, lv, ms, _, rfl, g1⟩ := fit.tab
  obtain ⟨w, _, rfl, w1, g2⟩ := g1.i
  obtain ⟨l, _, rfl, hl, g3⟩ := g2.nums
  obtain rfl := g3.no
  exact c_TideTruth last hs step lv ms w l (fun n hn => wf_u16 (hl n hn)) (wf_u16 w1) AW
end Go.Ev

namespace Go.Proofs.Ytpemagogcagipaa.tideTruth
open Go.ChangeShapes Go.WideShapes Go.ChangeAt Go.RowKit
open Go.ChangeMaps (open_string shut_string)
set_option linter.unusedVariables false

theorem laid : laidOutB Try.prog = true := by kernel_rfl
theorem own : ownKnob Try.prog.godebug = none := by kernel_rfl

/-! ### the walk -/
theorem walk {es : List Go.Ev.D} (fit : Go.Ev.FitP [(true, [.i .i64, .sl [.i .i64, .i .i64], .i .i64, .sl [.i .i64], .sl [.i .i64, .i .i64, .i .i64, .i .i64]]), (false, [.i .u16]), (false, [.sl [.i .u16]])] es) {args : Array Value} {W : World} (ha : Go.Ev.DVL (Go.Ev.γH W) W es args.toList) :
    Calls Try.prog 9 args W fun e w' => e = .returned (.bool true) ∧ Grown W w' ∧ Below W.heap.size W w' :=
  Go.Ev.PureF.calls (Go.Ev.main_tideTruth (fun ob nx lg => Go.Ev.closed_call Go.Ev.fp_ok Go.Ev.aw ob nx lg) fit) ha

set_option maxRecDepth 100000 in
theorem lifted (os : Os) (started : os.Started) (H : Type) (enc : TypeId × Value → H) :
    ReturnsInHanded {} Try.checked os 9 .any (Rows.tideTruthSpec.pre6 enc Try.prog Try.f9 Rows.tideTruthRow.domain false) (Rows.tideTruthSpec.post enc Try.prog Try.f9 false true false false) := by
  refine returnsInHanded_of_change (C := Try.checked) own started (by kernel_rfl) Try.func9
    (ChangeSpec.witness6 (enc := enc) (C := Try.checked) false ⟨#[], #[.agg #[.int .i64 0, .slice none 0 0, .int .i64 0, .slice none 0 0, .slice none 0 0], .int .u16 0, .slice none 0 0], []⟩ 8 (by kernel_rfl) (by kernel_rfl) (by kernel_rfl) (by kernel_rfl)) ?_
  intro W base args ds gs before hval0 hW hcnd _
  have hval : ∀ (j : Nat) t v, Try.f9.params[j]? = some t → args[j]? = some v → Value.okWide Try.prog W .any base t v := hval0
  have hW' := hW
  obtain ⟨p, q, hA0, hV, rfl, hfz, hnd⟩ := hW
  have hA : DataW.TrodAll enc Try.prog W 0 (fun _ => true) true Try.f9.params.toList args.toList ds p := hA0
  rw [Try.params9] at hA hval
  obtain ⟨rfl, rfl⟩ := trodVars_none hV
  obtain ⟨d0, d1, d2, rfl⟩ := Go.Ev.len3 (Go.Ev.trod_len hA)
  clear hA0 hval0
  simp only [List.append_nil] at hW'
  obtain ⟨es, fit, dv⟩ := Go.Ev.open_all (n := 6) (pars := [(true, [.i .i64, .sl [.i .i64, .i .i64], .i .i64, .sl [.i .i64], .sl [.i .i64, .i .i64, .i .i64, .i .i64]]), (false, [.i .u16]), (false, [.sl [.i .u16]])]) (by kernel_rfl) hA (fun j t v h1 h2 => hval j t v (by simpa using h1) (by simpa using h2))
  have hlt : ∀ x ∈ p, x.block < W.heap.size := fun x hx => by simpa using hW'.lt x hx
  refine (walk fit dv).mono fun e W' ⟨he, hg, hb⟩ => ?_
  subst he
  exact ⟨_, rfl, post_of_same (pa := p) (pv := []) hW' (fun _ _ _ => (trodAll_cons_mk (shut_bool Try.underlying4 _) trodAll_mk0))
    (fun sp hs => Go.Ev.stays_all laid (Go.Ev.of_allT (by kernel_rfl)) hA (fun x hx => hb.same (hlt x hx)) (fun x hx => hs x hx))
    (fun _ _ => rfl) (List.append_nil _).symm
    (hg.frame _) hg.2.1 (ok_one (by kernel_rfl) rfl (okWide_bool_mk Try.underlying4 _))⟩

theorem over : Rows.tideTruthRow.holds Try.pinned (OpenSpec.ofChange Rows.tideTruthSpec) :=
  OpenClaim.holds_of_wide 9 Try.f9 rfl rfl rfl rfl rfl rfl rfl ⟨rfl, rfl, rfl, rfl, rfl⟩ rfl rfl rfl rfl rfl (by kernel_rfl) Try.func9 (by kernel_rfl)
    (of_decide_eq_true (by kernel_rfl)) (by unfold Func.isWrapper; first | (rw [if_pos (by decide +kernel)]; kernel_rfl) | (rw [if_neg (by decide +kernel)]; exact ⟨rfl, rfl⟩))
    (fun os started H enc _ => lifted os started H enc)

/-- ████ THE STATEMENT ████ -/
theorem proved : Rows.TideTruthSaid :=
  over
#print axioms proved
end Go.Proofs.Ytpemagogcagipaa.tideTruth
