/-
  TideWider: the law answers true for every table and numbers; the only conditions are those of the row itself.
-/
import Derived.Test.YtpemagogcagipaaRows
import Derived.WalkKit
import Derived.ProofKit
import Derived.OpenShut
import Derived.Test.YtpemagogcagipaaEvFt
import Derived.Test.YtpemagogcagipaaEvSy
import Derived.ShutString
import Derived.Test.YtpemagogcagipaaEvQH
import Derived.Test.YtpemagogcagipaaEvMN
import Derived.Test.YtpemagogcagipaaEvMH
set_option linter.all false
namespace Go.Ev
open Go.Proofs
set_option maxRecDepth 1000000
noncomputable def rc15 : RC := (.seq (.reg [(.u (.box p4 (.t p1))), (.u (.mv p7 (.k (.b false))))]) (.seq (.seq (.reg [(.u (.ldn p23 (.t p4) 5)), (.u (.cf (some p24) p52 [(.t p23)])), (.u (.un p25 .not (.t p24)))]) (.cond (.t p25) (.seq (.reg [(.u (.cf (some p26) p21 [])), (.u (.mv p7 (.t p26)))]) .ret) .skip)) (.seq (.reg [(.u (.ldn p27 (.t p4) 5)), (.u (.new p8 [(.i .i64 0), .ns, (.i .i64 0), .ns, .ns])), (.u (.st (.t p8) (.t p27) 5))]) (.seq (.drw [(.u (.bsl p28 2 0 [] [])), (.u (.fad p29 (.t p4) 1)), (.u (.ld1 p30 (.t p29))), (.u (.app p31 2 (.t p28) (.t p30))), (.u (.bsl p32 4 0 [] [])), (.u (.fad p33 (.t p4) 4)), (.u (.ld1 p34 (.t p33))), (.u (.app p35 4 (.t p32) (.t p34))), (.u (.fad p36 (.t p8) 1)), (.u (.st (.t p36) (.t p31) 1)), (.u (.fad p37 (.t p8) 4)), (.u (.st (.t p37) (.t p35) 1))] [0, 0, 2, 7, 0, 0, 32, 127, 15, 511, 1023, 2047]) (.seq (.reg [(.u (.mv p38 (.t p2))), (.u (.cvi p39 .i64 (.t p38))), (.u (.fad p40 (.t p8) 1)), (.u (.ld1 p41 (.t p40))), (.u (.len p42 (.t p41))), (.u (.fad p43 (.t p8) 4)), (.u (.ld1 p44 (.t p43))), (.u (.len p45 (.t p44))), (.u (.bin p46 .add (.t p42) (.t p45))), (.u (.bin p47 .rem (.t p39) (.t p46))), (.u (.mv p9 (.t p47)))]) (.seq (.reg [(.u (.bld p48 [(.i .i64 0), (.i .i64 0)] [])), (.u (.box p49 (.t p48))), (.u (.mv p10 (.t p49)))]) (.seq (.seq (.reg [(.u (.mv p50 (.t p9))), (.u (.fad p51 (.t p8) 1)), (.u (.ld1 p52 (.t p51))), (.u (.len p53 (.t p52))), (.u (.bin p54 .lss (.t p50) (.t p53)))]) (.cond (.t p54) (.reg [(.u (.fad p55 (.t p8) 1)), (.u (.ld1 p56 (.t p55))), (.u (.mv p57 (.t p9))), (.u (.ixs p58 2 (.t p56) (.t p57))), (.u (.mv p10 (.t p58)))]) (.reg [(.u (.fad p59 (.t p8) 4)), (.u (.ld1 p60 (.t p59))), (.u (.mv p61 (.t p9))), (.u (.fad p62 (.t p8) 1)), (.u (.ld1 p63 (.t p62))), (.u (.len p64 (.t p63))), (.u (.bin p65 .sub (.t p61) (.t p64))), (.u (.ixs p66 4 (.t p60) (.t p65))), (.u (.fad p67 (.t p66) 2)), (.u (.mv p10 (.t p67)))]))) (.seq (.drw [(.u (.mv p68 (.t p10))), (.u (.mv p69 (.t p10))), (.u (.mv p70 (.t p10))), (.u (.nilc p71 (.t p70))), (.u (.fad p72 (.t p71) 0)), (.u (.ld1 p73 (.t p72))), (.u (.mv p74 (.t p3))), (.u (.cvi p75 .i64 (.t p74))), (.u (.bin p76 .rem (.t p75) (.k (.i .i64 3)))), (.u (.bin p77 .sub (.t p73) (.t p76))), (.u (.mx p78 (.k (.i .i64 0)) (.t p77))), (.u (.mv p79 (.t p10))), (.u (.nilc p80 (.t p79))), (.u (.fad p81 (.t p80) 1)), (.u (.ld1 p82 (.t p81))), (.u (.mv p83 (.t p3))), (.u (.cvi p84 .i64 (.t p83))), (.u (.bin p85 .quo (.t p84) (.k (.i .i64 3)))), (.u (.bin p86 .rem (.t p85) (.k (.i .i64 3)))), (.u (.bin p87 .add (.t p82) (.t p86))), (.u (.mn p88 (.k (.i .i64 99)) (.t p87))), (.u (.nilc p89 (.t p68))), (.u (.fad p90 (.t p89) 0)), (.u (.st (.t p90) (.t p78) 1)), (.u (.nilc p91 (.t p69))), (.u (.fad p92 (.t p91) 1)), (.u (.st (.t p92) (.t p88) 1))] [0, 0, 0, 4, 12, 28, 0, 64, 192, 508, 1020, 0, 2048, 6144, 14336, 0, 32768, 98304, 229376, 522240, 1046528, 32765, 2129917, 6324221, 16777215, 33554431, 67108863]) (.seq (.seq (.reg [(.u (.ldn p93 (.t p8) 5)), (.u (.cf (some p94) p52 [(.t p93)])), (.u (.un p95 .not (.t p94)))]) (.cond (.t p95) (.seq (.reg [(.u (.cf (some p96) p21 [])), (.u (.mv p7 (.t p96)))]) .ret) .skip)) (.seq (.reg [(.u (.ldn p98 (.t p4) 5)), (.u (.cf (some p99) p23 [(.t p98)])), (.u (.cf (some p100) p46 [(.t p99)])), (.u (.mv p97 (.t p100))), (.u (.ext p101 (.t p97) 0)), (.u (.ext p102 (.t p97) 1)), (.u (.mv p11 (.t p101))), (.u (.mv p12 (.t p102)))]) (.seq (.reg [(.u (.ldn p104 (.t p8) 5)), (.u (.cf (some p105) p23 [(.t p104)])), (.u (.cf (some p106) p46 [(.t p105)])), (.u (.mv p103 (.t p106))), (.u (.ext p107 (.t p103) 0)), (.u (.ext p108 (.t p103) 1)), (.u (.mv p13 (.t p107))), (.u (.mv p14 (.t p108)))]) (.seq (.seq (.reg [(.u (.mv p109 (.t p12))), (.u (.bin p110 .neq (.t p109) (.k (.i .i64 0)))), (.u (.mv p111 (.t p110))), (.g p111 false (some p112) (.mv p112 (.t p14))), (.g p111 false (some p113) (.bin p113 .neq (.t p112) (.k (.i .i64 0)))), (.u (.pick p114 (.t p111) (.k (.b true)) (.t p113))), (.u (.mv p115 (.t p114))), (.g p115 false (some p116) (.mv p116 (.t p13))), (.g p115 false (some p117) (.len p117 (.t p116))), (.g p115 false (some p118) (.mv p118 (.t p11))), (.g p115 false (some p119) (.len p119 (.t p118))), (.g p115 false (some p120) (.bin p120 .gtr (.t p117) (.t p119))), (.u (.pick p121 (.t p115) (.k (.b true)) (.t p120)))]) (.cond (.t p121) (.seq (.reg [(.u (.mv p7 (.k (.b false))))]) .ret) .skip)) (.seq (.seq (.reg [(.u (.mv p122 (.t p11))), (.u (.len p123 (.t p122))), (.u (.bin p124 .gtr (.t p123) (.k (.i .i64 0))))]) (.cond (.t p124) (.seq (.reg [(.u (.cf (some p125) p21 [])), (.u (.mv p7 (.t p125)))]) .ret) .skip)) (.seq (.reg [(.u (.ldn p127 (.t p4) 5)), (.u (.cf (some p128) p23 [(.t p127)])), (.u (.cf (some p129) p32 [(.t p128)])), (.u (.mv p126 (.t p129))), (.u (.ext p130 (.t p126) 0)), (.u (.ext p131 (.t p126) 1)), (.u (.mv p15 (.t p130))), (.u (.mv p16 (.t p131)))]) (.seq (.reg [(.u (.ldn p133 (.t p8) 5)), (.u (.cf (some p134) p23 [(.t p133)])), (.u (.cf (some p135) p32 [(.t p134)])), (.u (.mv p132 (.t p135))), (.u (.ext p136 (.t p132) 0)), (.u (.ext p137 (.t p132) 1)), (.u (.mv p17 (.t p136))), (.u (.mv p18 (.t p137)))]) (.seq (.drw [(.u (.ldn p139 (.t p4) 5)), (.u (.cf (some p140) p23 [(.t p139)])), (.u (.fad p141 (.t p4) 0)), (.u (.ld1 p142 (.t p141))), (.u (.cf (some p143) p41 [(.t p140), (.k (.i .i64 0)), (.t p142)])), (.u (.mv p138 (.t p143))), (.u (.ext p144 (.t p138) 0)), (.u (.ext p145 (.t p138) 1)), (.u (.mv p19 (.t p144))), (.u (.mv p20 (.t p145)))] [0, 1, 0, 4, 15, 31, 63, 63, 127, 511]) (.seq (.drw [(.u (.ldn p147 (.t p8) 5)), (.u (.cf (some p148) p23 [(.t p147)])), (.u (.fad p149 (.t p4) 0)), (.u (.ld1 p150 (.t p149))), (.u (.cf (some p151) p41 [(.t p148), (.k (.i .i64 0)), (.t p150)])), (.u (.mv p146 (.t p151))), (.u (.ext p152 (.t p146) 0)), (.u (.ext p153 (.t p146) 1)), (.u (.mv p21 (.t p152))), (.u (.mv p22 (.t p153)))] [0, 1, 0, 4, 15, 31, 63, 63, 127, 511]) (.seq (.reg [(.u (.mv p154 (.t p16))), (.u (.bin p155 .eql (.t p154) (.k (.i .i64 0)))), (.u (.mv p156 (.t p155))), (.g p156 true (some p157) (.mv p157 (.t p18))), (.g p156 true (some p158) (.bin p158 .eql (.t p157) (.k (.i .i64 0)))), (.u (.pick p159 (.t p156) (.t p158) (.k (.b false)))), (.u (.mv p160 (.t p159))), (.g p160 true (some p161) (.mv p161 (.t p15))), (.g p160 true (some p162) (.mv p162 (.t p17))), (.g p160 true (some p163) (.cf (some p163) p58 [(.t p161), (.t p162)])), (.u (.pick p164 (.t p160) (.t p163) (.k (.b false)))), (.u (.mv p165 (.t p164))), (.g p165 true (some p166) (.mv p166 (.t p20))), (.g p165 true (some p167) (.bin p167 .eql (.t p166) (.k (.i .i64 0)))), (.u (.pick p168 (.t p165) (.t p167) (.k (.b false)))), (.u (.mv p169 (.t p168))), (.g p169 true (some p170) (.mv p170 (.t p22))), (.g p169 true (some p171) (.bin p171 .eql (.t p170) (.k (.i .i64 0)))), (.u (.pick p172 (.t p169) (.t p171) (.k (.b false)))), (.u (.mv p173 (.t p172))), (.g p173 true (some p174) (.mv p174 (.t p21))), (.g p173 true (some p175) (.mv p175 (.t p19))), (.g p173 true (some p176) (.bin p176 .geq (.t p174) (.t p175))), (.u (.pick p177 (.t p173) (.t p176) (.k (.b false)))), (.u (.mv p178 (.t p177))), (.g p178 true (some p179) (.cf (some p179) p21 [])), (.u (.pick p180 (.t p178) (.t p179) (.k (.b false)))), (.u (.mv p7 (.t p180)))]) .ret))))))))))))))))))
def rs15 : List RR := [(.t p7)]
theorem fn15 : FnOk Try.prog p16.ix 180 rc15 rs15 := ⟨Try.f15, bodyC Try.f15, Try.func15, by kernel_rfl, by kernel_rfl, by kernel_rfl, by kernel_rfl, by kernel_rfl⟩
end Go.Ev
namespace Go.Ev
open Go.Proofs
set_option maxRecDepth 100000
/-! ### TideWider: the two tables -/
def seqW : RC → RC
  | .seq _ b => b
  | c => c
noncomputable def rc15R : RC := seqW (seqW (seqW (seqW (seqW (seqW (seqW (seqW rc15)))))))
def wiZ (last : Int) (hs hs2 : List Rg) (step : Int) (lv : List Int) (ms ms2 : List Mk) : X := ⟨(.n (.n (.n (.n .e (some (.pt (.o .h) 0 0)) .e) (some (.pt .h 0 0)) .e) none .e) none .e), (.n (.n .e (some (tabC last hs2 step lv ms2)) .e) (some (tabC last hs step lv ms)) .e), .i .h, none⟩
set_option maxHeartbeats 8000000 in
theorem c_TideWiderR (last : Int) (hs hs2 : List Rg) (step : Int) (lv : List Int) (ms ms2 : List Mk) (W : WideT hs hs2 ms ms2) (hT : thinR last hs step lv ms = true) (hf : faultR last hs step lv ms = 0) (AW : PureF Try.prog p21.ix [] (.b true)) : Rn Try.prog 180 rc15R (wiZ last hs hs2 step lv ms ms2) (Fin rs15 (.b true)) := by
  have iR := c_ready last hs2 step lv ms2
  conv => whnf
  cases hR : readyB last hs2 step lv ms2 with
  | false =>
    rw [hR] at iR
    repeat' first | ((first | (with_reducible first | apply WB.tt | apply WB.ff) | apply Rn.seq | apply Rn.reg | apply Rn.drw | apply Rn.blk | apply Rn.skip | apply Rn.ret | apply Rn.exit | apply Rn.cond rfl | refine i64_ (by omega) (by omega) ?_ | refine ne0_ (by omega) ?_ | refine WIx.intsN (by omega) ?_ | refine WIx.rowsN (by omega) ?_ | refine WCall.pure (iR) ?_ | refine WCall.pure (AW) ?_ | (with_reducible first | refine WB.decT (by first | rfl | assumption | omega | exact ⟨rfl, rfl⟩) ?_ | refine WB.decF (by first | assumption | omega) ?_ | refine WB.ndT (by first | rfl | assumption | omega | exact ⟨rfl, rfl⟩) ?_ | refine WB.ndF (by first | assumption | omega) ?_ | apply WB.nt | apply WB.nf | refine WB.dec (fun h => ?_) (fun h => ?_) | refine WB.ndec (fun h => ?_) (fun h => ?_)) | refine WB.mk (fun h => ?_) (fun h => ?_)) <;> conv => whnf) | (refine WB.tt ?_; conv => whnf) | (refine WB.ff ?_; conv => whnf)
    all_goals first | exact Fin.b rfl rfl | (exfalso; omega) | exact absurd h (by decide)
  | true =>
    rw [hR] at iR
    have hR' := hR
    unfold readyB at hR'
    rw [Bool.and_eq_true, decide_eq_true_iff] at hR'
    obtain ⟨hTx, hfx⟩ := hR'
    obtain ⟨V, hm, _⟩ := fault_zero hf
    obtain ⟨Vx, hmx, _⟩ := fault_zero hfx
    have h5 := V.ms5
    have h5x := Vx.ms5
    have h6 := V.lv6
    have h10 := V.h10
    have h10x := Vx.h10
    have hpos := V.h1
    have hn := V.n
    have iT0 := c_Table last hs step lv ms (by omega) (by omega) (by omega)
    have iTx := c_Table last hs2 step lv ms2 (by omega) (by omega) (by omega)
    have iL0 := c_Leave last hs step lv ms
    have iLx := c_Leave last hs2 step lv ms2
    rw [if_pos hf, hf] at iL0
    rw [if_pos hfx, hfx] at iLx
    have hless := lev_less hf hfx W.ml (W.can V Vx hm hmx)
    have hnil := lev_nil hf
    have e1 := ints_length (levS hs step ms)
    have e2 := ints_length (levS hs2 step ms2)
    have q0 : Int.ofNat 0 = 0 := rfl
    cases hA1 : levS hs step ms with
    | cons a A =>
      rw [hA1] at iL0 e1 hless
      have iL0 : PureF Try.prog p46.ix [.ag [.i .i64 last, .lst 2 (rows rgD hs), .i .i64 step, .lst 1 (ints lv), .lst 4 (rows mkD ms)]] (.tp [.lst 1 (ints (a :: A)), .i .i64 0]) := iL0
      have e1' : (a :: A).length = A.length + 1 := rfl
      cases hB1 : levS hs2 step ms2 with
      | nil =>
        rw [hB1] at iLx
        have iLx : PureF Try.prog p46.ix [.ag [.i .i64 last, .lst 2 (rows rgD hs2), .i .i64 step, .lst 1 (ints lv), .lst 4 (rows mkD ms2)]] (.tp [.ns, .i .i64 0]) := iLx
        repeat' first | ((first | (with_reducible first | apply WB.tt | apply WB.ff) | apply Rn.seq | apply Rn.reg | apply Rn.drw | apply Rn.blk | apply Rn.skip | apply Rn.ret | apply Rn.exit | apply Rn.cond rfl | refine i64_ (by omega) (by omega) ?_ | refine ne0_ (by omega) ?_ | refine WIx.intsN (by omega) ?_ | refine WIx.rowsN (by omega) ?_ | refine WCall.pure (iR) ?_ | refine WCall.pure (iT0) ?_ | refine WCall.pure (iL0) ?_ | refine WCall.pure (iTx) ?_ | refine WCall.pure (iLx) ?_ | refine WCall.pure (AW) ?_ | (with_reducible first | refine WB.decT (by first | rfl | assumption | omega | exact ⟨rfl, rfl⟩) ?_ | refine WB.decF (by first | assumption | omega) ?_ | refine WB.ndT (by first | rfl | assumption | omega | exact ⟨rfl, rfl⟩) ?_ | refine WB.ndF (by first | assumption | omega) ?_ | apply WB.nt | apply WB.nf | refine WB.dec (fun h => ?_) (fun h => ?_) | refine WB.ndec (fun h => ?_) (fun h => ?_)) | refine WB.mk (fun h => ?_) (fun h => ?_)) <;> conv => whnf) | (refine WB.tt ?_; conv => whnf) | (refine WB.ff ?_; conv => whnf)
        all_goals first | exact Fin.b rfl rfl | (exfalso; omega) | exact absurd h (by decide)
      | cons b B =>
        rw [hB1] at iLx e2 hless
        have iLx : PureF Try.prog p46.ix [.ag [.i .i64 last, .lst 2 (rows rgD hs2), .i .i64 step, .lst 1 (ints lv), .lst 4 (rows mkD ms2)]] (.tp [.lst 1 (ints (b :: B)), .i .i64 0]) := iLx
        repeat' first | ((first | (with_reducible first | apply WB.tt | apply WB.ff) | apply Rn.seq | apply Rn.reg | apply Rn.drw | apply Rn.blk | apply Rn.skip | apply Rn.ret | apply Rn.exit | apply Rn.cond rfl | refine i64_ (by omega) (by omega) ?_ | refine ne0_ (by omega) ?_ | refine WIx.intsN (by omega) ?_ | refine WIx.rowsN (by omega) ?_ | refine WCall.pure (iR) ?_ | refine WCall.pure (iT0) ?_ | refine WCall.pure (iL0) ?_ | refine WCall.pure (iTx) ?_ | refine WCall.pure (iLx) ?_ | refine WCall.pure (AW) ?_ | (with_reducible first | refine WB.decT (by first | rfl | assumption | omega | exact ⟨rfl, rfl⟩) ?_ | refine WB.decF (by first | assumption | omega) ?_ | refine WB.ndT (by first | rfl | assumption | omega | exact ⟨rfl, rfl⟩) ?_ | refine WB.ndF (by first | assumption | omega) ?_ | apply WB.nt | apply WB.nf | refine WB.dec (fun h => ?_) (fun h => ?_) | refine WB.ndec (fun h => ?_) (fun h => ?_)) | refine WB.mk (fun h => ?_) (fun h => ?_)) <;> conv => whnf) | (refine WB.tt ?_; conv => whnf) | (refine WB.ff ?_; conv => whnf)
        all_goals first | exact Fin.b rfl rfl | (exfalso; omega) | exact absurd h (by decide)
    | nil =>
      rw [hA1] at iL0 hless
      have hB1 : levS hs2 step ms2 = [] := List.length_eq_zero_iff.1 (Nat.le_zero.1 hless)
      rw [hB1] at iLx
      have hne := hnil.1 hA1
      have hnex := (lev_nil hfx).1 hB1
      have iL0 : PureF Try.prog p46.ix [.ag [.i .i64 last, .lst 2 (rows rgD hs), .i .i64 step, .lst 1 (ints lv), .lst 4 (rows mkD ms)]] (.tp [.ns, .i .i64 0]) := iL0
      have iLx : PureF Try.prog p46.ix [.ag [.i .i64 last, .lst 2 (rows rgD hs2), .i .i64 step, .lst 1 (ints lv), .lst 4 (rows mkD ms2)]] (.tp [.ns, .i .i64 0]) := iLx
      have hTl : (truthS hs step ms).length ≤ 1000 := Nat.le_trans (List.length_filter_le _ _) (Nat.le_trans (thin_exS hT hf) (by omega))
      have hTlx : (truthS hs2 step ms2).length ≤ 1000 := Nat.le_trans (List.length_filter_le _ _) (Nat.le_trans (thin_exS hTx hfx) (by omega))
      have iB0 := c_Bounds last hs step lv ms fun _ => hTl
      have iBx := c_Bounds last hs2 step lv ms2 fun _ => hTlx
      have hE0 : bndE last hs step lv ms = 0 := by unfold bndE startE; rw [if_pos hf, cond_true, if_neg hne]
      have hEx : bndE last hs2 step lv ms2 = 0 := by unfold bndE startE; rw [if_pos hfx, cond_true, if_neg hnex]
      have hB0 : bndL last hs step lv ms = bdsR (truthS hs step ms) hs.length := by unfold bndL; rw [if_pos hE0]
      have hBx : bndL last hs2 step lv ms2 = bdsR (truthS hs2 step ms2) hs.length := by unfold bndL; rw [if_pos hEx, W.hl]
      have iIn := c_inside (bdsR (truthS hs step ms) hs.length) (bdsR (truthS hs2 step ms2) hs.length) (by rw [bdsR_len]; omega)
      rw [ins_sub hne (fun c h => W.truthS V Vx hm hmx h) hs.length] at iIn
      rw [hE0, hB0] at iB0
      rw [hEx, hBx] at iBx
      have iD0 := c_Dry last hs step lv ms 0 last fun _ => hTl
      have iDx := c_Dry last hs2 step lv ms2 0 last fun _ => hTlx
      have s1 : spanB last 0 last = true := by unfold spanB; rw [inB_iff.2 (by omega), inB_iff.2 (by omega)]; rfl
      have hd0 : dryE last hs step lv ms 0 last = 0 := by unfold dryE; rw [s1]; exact hE0
      have hdx : dryE last hs2 step lv ms2 0 last = 0 := by unfold dryE; rw [s1]; exact hEx
      have r0 : dryR last hs step lv ms 0 last = dryT (truthS hs step ms) 0 hs.length := by unfold dryR; rw [if_pos hd0]; congr 1; omega
      have rx : dryR last hs2 step lv ms2 0 last = dryT (truthS hs2 step ms2) 0 hs.length := by unfold dryR; rw [if_pos hdx]; congr 1; omega
      have hdl := W.dry V Vx hm hmx hne hnex (n := hs.length) (by omega) (Nat.le_refl _)
      rw [hd0, r0] at iD0
      rw [hdx, rx] at iDx
      generalize dryT (truthS hs step ms) 0 hs.length = dn at *
      generalize dryT (truthS hs2 step ms2) 0 hs.length = dx at *
      generalize bdsR (truthS hs step ms) hs.length = bl at *
      generalize bdsR (truthS hs2 step ms2) hs.length = bx at *
      repeat' first | ((first | (with_reducible first | apply WB.tt | apply WB.ff) | apply Rn.seq | apply Rn.reg | apply Rn.drw | apply Rn.blk | apply Rn.skip | apply Rn.ret | apply Rn.exit | apply Rn.cond rfl | refine i64_ (by omega) (by omega) ?_ | refine ne0_ (by omega) ?_ | refine WIx.intsN (by omega) ?_ | refine WIx.rowsN (by omega) ?_ | refine WCall.pure (iR) ?_ | refine WCall.pure (iT0) ?_ | refine WCall.pure (iL0) ?_ | refine WCall.pure (iTx) ?_ | refine WCall.pure (iLx) ?_ | refine WCall.pure (iB0) ?_ | refine WCall.pure (iBx) ?_ | refine WCall.pure (iIn) ?_ | refine WCall.pure (iD0) ?_ | refine WCall.pure (iDx) ?_ | refine WCall.pure (AW) ?_ | (with_reducible first | refine WB.decT (by first | rfl | assumption | omega | exact ⟨rfl, rfl⟩) ?_ | refine WB.decF (by first | assumption | omega) ?_ | refine WB.ndT (by first | rfl | assumption | omega | exact ⟨rfl, rfl⟩) ?_ | refine WB.ndF (by first | assumption | omega) ?_ | apply WB.nt | apply WB.nf | refine WB.dec (fun h => ?_) (fun h => ?_) | refine WB.ndec (fun h => ?_) (fun h => ?_)) | refine WB.mk (fun h => ?_) (fun h => ?_)) <;> conv => whnf) | (refine WB.tt ?_; conv => whnf) | (refine WB.ff ?_; conv => whnf)
      all_goals first | exact Fin.b rfl rfl | (exfalso; omega) | exact absurd h (by decide)
end Go.Ev

namespace Go.Ev
open Go.Proofs
set_option maxRecDepth 100000
/-! ### TideWider -/
theorem rgF_at (st : Nat) : ∀ (hs : List Rg) (k : Nat), k < hs.length → ((rows rgD hs).flatten.map fun d => Cell.o d st)[k * 2]? = some (.o (.i .i64 (hs.getD k default).lo) st) ∧ ((rows rgD hs).flatten.map fun d => Cell.o d st)[k * 2 + 1]? = some (.o (.i .i64 (hs.getD k default).hi) st)
  | [], k, h => absurd h (Nat.not_lt_zero _)
  | r :: hs, 0, _ => ⟨rfl, rfl⟩
  | r :: hs, k + 1, h => by
    have := rgF_at st hs k (by simpa using h)
    rw [show (k + 1) * 2 = k * 2 + 1 + 1 by omega]
    exact this
theorem rgF_set (st : Nat) (x : Rg) : ∀ (hs : List Rg) (k : Nat), k < hs.length → ((((rows rgD hs).flatten.map fun d => Cell.o d st).set (k * 2) (.o (.i .i64 x.lo) st)).set (k * 2 + 1) (.o (.i .i64 x.hi) st)) = (rows rgD (hs.set k x)).flatten.map fun d => Cell.o d st
  | [], k, h => absurd h (Nat.not_lt_zero _)
  | r :: hs, 0, _ => rfl
  | r :: hs, k + 1, h => by
    have := rgF_set st x hs k (by simpa using h)
    rw [show (k + 1) * 2 = k * 2 + 1 + 1 by omega]
    exact congrArg (fun l => Cell.o (.i .i64 r.lo) st :: Cell.o (.i .i64 r.hi) st :: l) this
theorem mkF_at (st : Nat) : ∀ (ms : List Mk) (k : Nat), k < ms.length → ((rows mkD ms).flatten.map fun d => Cell.o d st)[k * 4 + 2]? = some (.o (.i .i64 (ms.getD k default).lo) st) ∧ ((rows mkD ms).flatten.map fun d => Cell.o d st)[k * 4 + 2 + 1]? = some (.o (.i .i64 (ms.getD k default).hi) st)
  | [], k, h => absurd h (Nat.not_lt_zero _)
  | r :: ms, 0, _ => ⟨rfl, rfl⟩
  | r :: ms, k + 1, h => by
    have := mkF_at st ms k (by simpa using h)
    rw [show (k + 1) * 4 = k * 4 + 1 + 1 + 1 + 1 by omega]
    exact this
theorem mkF_set (st : Nat) (lo hi : Int) : ∀ (ms : List Mk) (k : Nat), k < ms.length → ((((rows mkD ms).flatten.map fun d => Cell.o d st).set (k * 4 + 2) (.o (.i .i64 lo) st)).set (k * 4 + 2 + 1) (.o (.i .i64 hi) st)) = (rows mkD (ms.set k ⟨(ms.getD k default).fr, (ms.getD k default).to, lo, hi⟩)).flatten.map fun d => Cell.o d st
  | [], k, h => absurd h (Nat.not_lt_zero _)
  | r :: ms, 0, _ => rfl
  | r :: ms, k + 1, h => by
    have := mkF_set st lo hi ms k (by simpa using h)
    rw [show (k + 1) * 4 = k * 4 + 1 + 1 + 1 + 1 by omega]
    exact congrArg (fun l => Cell.o (.i .i64 r.fr) st :: Cell.o (.i .i64 r.to) st :: Cell.o (.i .i64 r.lo) st :: Cell.o (.i .i64 r.hi) st :: l) this
theorem tab_sh2 {last step : Int} {hs : List Rg} {lv : List Int} {ms : List Mk} {d e : D} {B : Pos → Prop} {ob : T C} (hd : Fz B ob d (.lst 2 (rows rgD hs))) (he : Fz B ob e (.lst 4 (rows mkD ms))) : ShC B ob (.cells false [.o (.i .i64 last) 0, .o d 0, .o (.i .i64 step) 0, .o (.lst 1 (ints lv)) 0, .o e 0] 1) (tabC last hs step lv ms) := by
  refine .cells fun k c' hc => ?_
  match k, hc with
  | 0, hc => cases hc; exact ⟨_, rfl, fun _ h => h, .pu trivial⟩
  | 1, hc => cases hc; exact ⟨_, rfl, fun _ h => h, hd⟩
  | 2, hc => cases hc; exact ⟨_, rfl, fun _ h => h, .pu trivial⟩
  | 3, hc => cases hc; exact ⟨_, rfl, fun _ h => h, .pu (pu_ints _)⟩
  | 4, hc => cases hc; exact ⟨_, rfl, fun _ h => h, he⟩
  | k + 5, hc => cases hc
theorem marks_ok {last : Int} {hs : List Rg} {step : Int} {lv : List Int} {ms : List Mk} (hf : faultR last hs step lv ms = 0) : ∀ m ∈ ms, 0 ≤ m.lo ∧ m.lo ≤ m.hi ∧ m.hi ≤ 99 := by
  obtain ⟨V, hm, hA⟩ := fault_zero hf
  have f1 : ¬ (9 < last ∨ 6 < lv.length ∨ 5 < ms.length) := by
    have := V.n; have := V.h10; have := V.lv6; have := V.ms5
    omega
  rw [fault_ok f1] at hf
  have hv : validB last hs step lv ms = true := by
    by_cases h : validB last hs step lv ms = true
    · exact h
    · rw [if_neg h] at hf; exact absurd hf (by decide)
  unfold validB at hv
  simp only [Bool.and_eq_true] at hv
  intro m h
  have h2 := List.all_eq_true.1 hv.2.2.2.2.2 m h
  unfold mkB rgB hgtB at h2
  simp only [Bool.and_eq_true, inB_iff] at h2
  omega
set_option maxHeartbeats 8000000 in
theorem c_TideWider (last : Int) (hs : List Rg) (step : Int) (lv : List Int) (ms : List Mk) (which by' : Int) (w1 : 0 ≤ which ∧ which ≤ 255) (w2 : 0 ≤ by' ∧ by' ≤ 255) (AW : PureF Try.prog p21.ix [] (.b true)) : PureF Try.prog p16.ix [.ag [.i .i64 last, .lst 2 (rows rgD hs), .i .i64 step, .lst 1 (ints lv), .lst 4 (rows mkD ms)], .i .u8 which, .i .u8 by'] (.b true) := by
  have e1 := rows_length rgD hs
  have e3 := rows_length mkD ms
  have iR := c_ready last hs step lv ms
  refine PureF.run fn15 (by simp) (by simp [PuL, PuE, Pu, pu_ints, pu_rg, pu_mk]) ?_; conv => whnf
  refine Rn.seq ?_; conv => whnf
  refine Rn.reg ?_; conv => whnf
  cases hR : readyB last hs step lv ms with
  | false =>
    rw [hR] at iR
    repeat' first | ((first | (with_reducible first | apply WB.tt | apply WB.ff) | apply Rn.seq | apply Rn.reg | apply Rn.drw | apply Rn.blk | apply Rn.skip | apply Rn.ret | apply Rn.exit | apply Rn.cond rfl | refine i64_ (by omega) (by omega) ?_ | refine ne0_ (by omega) ?_ | refine WIx.intsN (by omega) ?_ | refine WIx.rowsN (by omega) ?_ | refine WCall.pure (iR) ?_ | refine WCall.pure (AW) ?_ | (with_reducible first | refine WB.decT (by first | rfl | assumption | omega | exact ⟨rfl, rfl⟩) ?_ | refine WB.decF (by first | assumption | omega) ?_ | refine WB.ndT (by first | rfl | assumption | omega | exact ⟨rfl, rfl⟩) ?_ | refine WB.ndF (by first | assumption | omega) ?_ | apply WB.nt | apply WB.nf | refine WB.dec (fun h => ?_) (fun h => ?_) | refine WB.ndec (fun h => ?_) (fun h => ?_)) | refine WB.mk (fun h => ?_) (fun h => ?_)) <;> conv => whnf) | (refine WB.tt ?_; conv => whnf) | (refine WB.ff ?_; conv => whnf)
    all_goals first | exact Fin.b rfl rfl | (exfalso; omega) | exact absurd h (by decide)
  | true =>
    rw [hR] at iR
    have hR' := hR
    unfold readyB at hR'
    rw [Bool.and_eq_true, decide_eq_true_iff] at hR'
    obtain ⟨hT, hf⟩ := hR'
    obtain ⟨V, hm, _⟩ := fault_zero hf
    have h5 := V.ms5
    have h10 := V.h10
    have hpos := V.h1
    refine Rn.seq ?_; conv => whnf
    refine Rn.seq ?_; conv => whnf
    refine Rn.reg ?_; conv => whnf
    refine WCall.pure iR ?_; conv => whnf
    refine Rn.cond rfl ?_; conv => whnf
    refine WB.ff ?_; conv => whnf
    refine Rn.skip ?_; conv => whnf
    refine Rn.far rfl ?_
    refine RnF.seq ?_; conv => whnf
    refine Rn.reg ?_; conv => whnf
    refine ⟨rfl, rfl, (show 2 ≤ 3 by omega), ?_⟩
    refine RnF.seq ?_; conv => whnf
    repeat' first | ((first | (with_reducible first | apply WB.tt | apply WB.ff) | apply Rn.seq | apply Rn.reg | apply Rn.drw | apply Rn.blk | apply Rn.skip | apply Rn.ret | apply Rn.exit | apply Rn.cond rfl | refine i64_ (by omega) (by omega) ?_ | refine ne0_ (by omega) ?_ | refine WIx.intsN (by omega) ?_ | refine WIx.rowsN (by omega) ?_) <;> conv => whnf)
    refine WSt.app_neE (es := rows rgD hs) (by rfl) (by rfl) (by rfl) (fun r hr => by
      obtain ⟨m, _, rfl⟩ := List.mem_map.1 hr
      rfl) (by omega) (by omega) ?_; conv => whnf
    repeat' first | ((first | (with_reducible first | apply WB.tt | apply WB.ff) | apply Rn.seq | apply Rn.reg | apply Rn.drw | apply Rn.blk | apply Rn.skip | apply Rn.ret | apply Rn.exit | apply Rn.cond rfl | refine i64_ (by omega) (by omega) ?_ | refine ne0_ (by omega) ?_ | refine WIx.intsN (by omega) ?_ | refine WIx.rowsN (by omega) ?_) <;> conv => whnf)
    refine WSt.app_empE (es := rows mkD ms) (by rfl) (by rfl) (by rfl) (fun r hr => by
      obtain ⟨m, _, rfl⟩ := List.mem_map.1 hr
      rfl) (by omega) (fun st w => ?_); conv => whnf
    have o1 : Int.ofNat (rows rgD hs).length = (hs.length : Int) := by rw [e1]; rfl
    have o2 : Int.ofNat (rows mkD ms).length = (ms.length : Int) := by rw [e3]; rfl
    have m1 := Int.tmod_nonneg (Int.ofNat (rows rgD hs).length + Int.ofNat (rows mkD ms).length) w1.1
    have m2 := Int.tmod_lt_of_pos which (show 0 < Int.ofNat (rows rgD hs).length + Int.ofNat (rows mkD ms).length by omega)
    obtain ⟨k, hk⟩ := Int.eq_ofNat_of_zero_le m1
    have b1 := Int.tmod_nonneg 3 w2.1
    have b2 := Int.tmod_lt_of_pos by' (show (0 : Int) < 3 by omega)
    have b3 := Int.tdiv_nonneg w2.1 (show (0 : Int) ≤ 3 by omega)
    have b4 := Int.tdiv_le_self 3 w2.1
    have b5 := Int.tmod_nonneg 3 b3
    have b6 := Int.tmod_lt_of_pos (by'.tdiv 3) (show (0 : Int) < 3 by omega)
    cases w
    all_goals
      repeat' first | ((first | (with_reducible first | apply WB.tt | apply WB.ff) | apply Rn.seq | apply Rn.reg | apply Rn.drw | apply Rn.blk | apply Rn.skip | apply Rn.ret | apply Rn.exit | apply Rn.cond rfl | refine i64_ (by omega) (by omega) ?_ | refine ne0_ (by omega) ?_ | refine WIx.intsN (by omega) ?_ | refine WIx.rowsN (by omega) ?_) <;> conv => whnf)
      refine ⟨rfl, rfl, (show 2 ≤ 5 by omega), ?_⟩
      refine RnF.seq ?_; conv => whnf
      repeat' first | ((first | (with_reducible first | apply WB.tt | apply WB.ff) | apply Rn.seq | apply Rn.reg | apply Rn.drw | apply Rn.blk | apply Rn.skip | apply Rn.ret | apply Rn.exit | apply Rn.cond rfl | refine i64_ (by omega) (by omega) ?_ | refine ne0_ (by omega) ?_ | refine WIx.intsN (by omega) ?_ | refine WIx.rowsN (by omega) ?_) <;> conv => whnf)
      rw [hk]
      refine ⟨rfl, rfl, (show 2 ≤ 5 by omega), ?_⟩
      refine RnF.seq ?_; conv => whnf
      repeat' first | ((first | (with_reducible first | apply WB.tt | apply WB.ff) | apply Rn.seq | apply Rn.reg | apply Rn.drw | apply Rn.blk | apply Rn.skip | apply Rn.ret | apply Rn.exit | apply Rn.cond rfl | refine i64_ (by omega) (by omega) ?_ | refine ne0_ (by omega) ?_ | refine WIx.intsN (by omega) ?_ | refine WIx.rowsN (by omega) ?_) <;> conv => whnf)
      refine ⟨rfl, rfl, (show 2 ≤ 6 by omega), ?_⟩
      refine RnF.seq ?_; conv => whnf
      repeat' first | ((first | (with_reducible first | apply WB.tt | apply WB.ff) | apply Rn.seq | apply Rn.reg | apply Rn.drw | apply Rn.blk | apply Rn.skip | apply Rn.ret | apply Rn.exit | apply Rn.cond rfl | refine i64_ (by omega) (by omega) ?_ | refine ne0_ (by omega) ?_ | refine WIx.intsN (by omega) ?_ | refine WIx.rowsN (by omega) ?_) <;> conv => whnf)
      refine WB.dec (fun h => ?_) (fun h => ?_) <;> conv => whnf
      · have hkl : k < hs.length := by omega
        have hr := V.hv (hs.getD k default) (getD_mem hkl)
        have hat := rgF_at 1 hs k hkl
        have hst := rgF_set 1 ⟨max 0 ((hs.getD k default).lo - by'.tmod 3), min 99 ((hs.getD k default).hi + (by'.tdiv 3).tmod 3)⟩ hs k hkl
        have hW : WideT hs (hs.set k ⟨max 0 ((hs.getD k default).lo - by'.tmod 3), min 99 ((hs.getD k default).hi + (by'.tdiv 3).tmod 3)⟩) ms ms := WideT.refl_h (by show max 0 _ ≤ _ ∧ _ ≤ min 99 _; omega)
        have hrest := c_TideWiderR last hs _ step lv ms ms hW hT hf AW
        generalize hx : (⟨max 0 ((hs.getD k default).lo - by'.tmod 3), min 99 ((hs.getD k default).hi + (by'.tdiv 3).tmod 3)⟩ : Rg) = x at *
        have hx1 : max 0 ((hs.getD k default).lo - by'.tmod 3) = x.lo := by rw [← hx]
        have hx2 : min 99 ((hs.getD k default).hi + (by'.tdiv 3).tmod 3) = x.hi := by rw [← hx]
        repeat' first | ((first | (with_reducible first | apply WB.tt | apply WB.ff) | apply Rn.seq | apply Rn.reg | apply Rn.drw | apply Rn.blk | apply Rn.skip | apply Rn.ret | apply Rn.exit | apply Rn.cond rfl | refine i64_ (by omega) (by omega) ?_ | refine ne0_ (by omega) ?_ | refine WIx.intsN (by omega) ?_ | refine WIx.rowsN (by omega) ?_) <;> conv => whnf)
        refine WSt.ixsY (m := k) (by rfl) (by rfl) (by omega) ?_; conv => whnf
        repeat' first | ((first | (with_reducible first | apply WB.tt | apply WB.ff) | apply Rn.seq | apply Rn.reg | apply Rn.drw | apply Rn.blk | apply Rn.skip | apply Rn.ret | apply Rn.exit | apply Rn.cond rfl | refine i64_ (by omega) (by omega) ?_ | refine ne0_ (by omega) ?_ | refine WIx.intsN (by omega) ?_ | refine WIx.rowsN (by omega) ?_) <;> conv => whnf)
        refine ⟨rfl, rfl, (show 2 ≤ 6 by omega), ?_⟩
        refine RnF.seq ?_; conv => whnf
        repeat' first | ((first | (with_reducible first | apply WB.tt | apply WB.ff) | apply Rn.seq | apply Rn.reg | apply Rn.drw | apply Rn.blk | apply Rn.skip | apply Rn.ret | apply Rn.exit | apply Rn.cond rfl | refine i64_ (by omega) (by omega) ?_ | refine ne0_ (by omega) ?_ | refine WIx.intsN (by omega) ?_ | refine WIx.rowsN (by omega) ?_) <;> conv => whnf)
        show wSt _ _
        refine wSt.fad (by rfl) ?_; conv => whnf
        repeat' first | ((first | (with_reducible first | apply WB.tt | apply WB.ff) | apply Rn.seq | apply Rn.reg | apply Rn.drw | apply Rn.blk | apply Rn.skip | apply Rn.ret | apply Rn.exit | apply Rn.cond rfl | refine i64_ (by omega) (by omega) ?_ | refine ne0_ (by omega) ?_ | refine WIx.intsN (by omega) ?_ | refine WIx.rowsN (by omega) ?_) <;> conv => whnf)
        refine wSt.ld1 (by rfl) (by rfl) (by rw [Nat.zero_add]; exact hat.1) (Nat.le_refl _) ?_; conv => whnf
        repeat' first | ((first | (with_reducible first | apply WB.tt | apply WB.ff) | apply Rn.seq | apply Rn.reg | apply Rn.drw | apply Rn.blk | apply Rn.skip | apply Rn.ret | apply Rn.exit | apply Rn.cond rfl | refine i64_ (by omega) (by omega) ?_ | refine ne0_ (by omega) ?_ | refine WIx.intsN (by omega) ?_ | refine WIx.rowsN (by omega) ?_) <;> conv => whnf)
        refine wSt.ld1 (by rfl) (by rfl) (by show _[0 + k * 2 + 1]? = _; rw [Nat.zero_add]; exact hat.2) (Nat.le_refl _) ?_; conv => whnf
        repeat' first | ((first | (with_reducible first | apply WB.tt | apply WB.ff) | apply Rn.seq | apply Rn.reg | apply Rn.drw | apply Rn.blk | apply Rn.skip | apply Rn.ret | apply Rn.exit | apply Rn.cond rfl | refine i64_ (by omega) (by omega) ?_ | refine ne0_ (by omega) ?_ | refine WIx.intsN (by omega) ?_ | refine WIx.rowsN (by omega) ?_) <;> conv => whnf)
        rw [hx1, hx2]
        show wSt _ _
        refine wSt.fad (by rfl) ?_; conv => whnf
        repeat' first | ((first | (with_reducible first | apply WB.tt | apply WB.ff) | apply Rn.seq | apply Rn.reg | apply Rn.drw | apply Rn.blk | apply Rn.skip | apply Rn.ret | apply Rn.exit | apply Rn.cond rfl | refine i64_ (by omega) (by omega) ?_ | refine ne0_ (by omega) ?_ | refine WIx.intsN (by omega) ?_ | refine WIx.rowsN (by omega) ?_) <;> conv => whnf)
        refine wSt.st1 (by rfl) (by rfl) (by rfl) (by rfl) (by rw [Nat.zero_add]; exact hat.1) (Nat.le_refl _) ?_; conv => whnf
        repeat' first | ((first | (with_reducible first | apply WB.tt | apply WB.ff) | apply Rn.seq | apply Rn.reg | apply Rn.drw | apply Rn.blk | apply Rn.skip | apply Rn.ret | apply Rn.exit | apply Rn.cond rfl | refine i64_ (by omega) (by omega) ?_ | refine ne0_ (by omega) ?_ | refine WIx.intsN (by omega) ?_ | refine WIx.rowsN (by omega) ?_) <;> conv => whnf)
        refine wSt.st1 (by rfl) (by rfl) (by rfl) (by rfl) (by
          show (List.set _ (0 + k * 2 + 0) _)[0 + k * 2 + 1]? = _
          rw [List.getElem?_set_ne (by omega), Nat.zero_add]
          exact hat.2) (Nat.le_refl _) ?_; conv => whnf
        repeat' first | ((first | (with_reducible first | apply WB.tt | apply WB.ff) | apply Rn.seq | apply Rn.reg | apply Rn.drw | apply Rn.blk | apply Rn.skip | apply Rn.ret | apply Rn.exit | apply Rn.cond rfl | refine i64_ (by omega) (by omega) ?_ | refine ne0_ (by omega) ?_ | refine WIx.intsN (by omega) ?_ | refine WIx.rowsN (by omega) ?_) <;> conv => whnf)
        refine ⟨rfl, rfl, (show 2 ≤ 6 by omega), RnF.turn (z' := wiZ last hs (hs.set k x) step lv ms ms) (B := fun id => id.nat < 3) ?_ (fun id (h : id.nat < 2) => show id.nat < 3 by omega) (fun id h => h) (show 2 ≤ 3 by omega) hrest⟩
        refine ShrB.of ?_ ?_ rfl rfl
        · show Rel _ _ ((.n (.n (.n (.n .e (some (.pt (.o .h) 0 0)) .e) (some (.pt .h 0 0)) .e) none .e) none .e) : T D) _
          (repeat' first | exact Rel.e | refine Rel.some ?_ ?_ ?_ | refine Rel.none ?_ ?_ | refine Rel.ee ?_ ?_)
          all_goals show Fz _ _ _ _
          all_goals first | exact .pu trivial | exact .kpt (show _ < 3 by simp [Pos.nat])
        · show Rel _ _ ((.n (.n .e (some (tabC last (hs.set k x) step lv ms)) .e) (some (tabC last hs step lv ms)) .e) : T C) _
          (repeat' first | exact Rel.e | refine Rel.some ?_ ?_ ?_ | refine Rel.none ?_ ?_ | refine Rel.ee ?_ ?_)
          · refine ⟨show _ < 3 by simp [Pos.nat], tab_sh2 ?_ ?_⟩
            · refine Fz.whole (show ¬ 3 < 3 by omega) (by rfl) (by rw [rows_length, rows_length, List.length_set]) (fun r hr => by
                obtain ⟨m, _, rfl⟩ := List.mem_map.1 hr
                rfl) ?_ (pu_rg _)
              rw [← hst]
              show List.set (List.set _ (0 + k * 2 + 0) _) (0 + k * 2 + 1) _ = _
              rw [Nat.zero_add]
              rfl
            · exact Fz.whole (show ¬ 4 < 3 by omega) (by rfl) rfl (fun r hr => by
                obtain ⟨m, _, rfl⟩ := List.mem_map.1 hr
                rfl) rfl (pu_mk _)
          · exact ⟨show _ < 3 by simp [Pos.nat], tabC_sh last hs step lv ms⟩
      · obtain ⟨j, hj⟩ : ∃ j : Nat, (k : Int) - Int.ofNat (rows rgD hs).length = (j : Int) := ⟨k - hs.length, by omega⟩
        have hjl : j < ms.length := by omega
        have hr := marks_ok hf (ms.getD j default) (getD_mem hjl)
        have hat := mkF_at st ms j hjl
        have hst := mkF_set st (max 0 ((ms.getD j default).lo - by'.tmod 3)) (min 99 ((ms.getD j default).hi + (by'.tdiv 3).tmod 3)) ms j hjl
        have hW : WideT hs hs ms (ms.set j ⟨(ms.getD j default).fr, (ms.getD j default).to, max 0 ((ms.getD j default).lo - by'.tmod 3), min 99 ((ms.getD j default).hi + (by'.tdiv 3).tmod 3)⟩) := WideT.refl_m ⟨rfl, rfl, (by show max 0 _ ≤ _; omega), (by show _ ≤ min 99 _; omega)⟩
        have hrest := c_TideWiderR last hs hs step lv ms _ hW hT hf AW
        repeat' first | ((first | (with_reducible first | apply WB.tt | apply WB.ff) | apply Rn.seq | apply Rn.reg | apply Rn.drw | apply Rn.blk | apply Rn.skip | apply Rn.ret | apply Rn.exit | apply Rn.cond rfl | refine i64_ (by omega) (by omega) ?_ | refine ne0_ (by omega) ?_ | refine WIx.intsN (by omega) ?_ | refine WIx.rowsN (by omega) ?_) <;> conv => whnf)
        rw [hj]
        refine WSt.ixsY (m := j) (by rfl) (by rfl) (by omega) ?_; conv => whnf
        repeat' first | ((first | (with_reducible first | apply WB.tt | apply WB.ff) | apply Rn.seq | apply Rn.reg | apply Rn.drw | apply Rn.blk | apply Rn.skip | apply Rn.ret | apply Rn.exit | apply Rn.cond rfl | refine i64_ (by omega) (by omega) ?_ | refine ne0_ (by omega) ?_ | refine WIx.intsN (by omega) ?_ | refine WIx.rowsN (by omega) ?_) <;> conv => whnf)
        refine ⟨rfl, rfl, (show 2 ≤ 6 by omega), ?_⟩
        refine RnF.seq ?_; conv => whnf
        repeat' first | ((first | (with_reducible first | apply WB.tt | apply WB.ff) | apply Rn.seq | apply Rn.reg | apply Rn.drw | apply Rn.blk | apply Rn.skip | apply Rn.ret | apply Rn.exit | apply Rn.cond rfl | refine i64_ (by omega) (by omega) ?_ | refine ne0_ (by omega) ?_ | refine WIx.intsN (by omega) ?_ | refine WIx.rowsN (by omega) ?_) <;> conv => whnf)
        refine wSt.ld1 (by rfl) (by rfl) (by show _[0 + j * 4 + 2]? = _; rw [Nat.zero_add]; exact hat.1) (Nat.le_refl _) ?_; conv => whnf
        repeat' first | ((first | (with_reducible first | apply WB.tt | apply WB.ff) | apply Rn.seq | apply Rn.reg | apply Rn.drw | apply Rn.blk | apply Rn.skip | apply Rn.ret | apply Rn.exit | apply Rn.cond rfl | refine i64_ (by omega) (by omega) ?_ | refine ne0_ (by omega) ?_ | refine WIx.intsN (by omega) ?_ | refine WIx.rowsN (by omega) ?_) <;> conv => whnf)
        refine wSt.ld1 (by rfl) (by rfl) (by show _[0 + j * 4 + 2 + 1]? = _; rw [Nat.zero_add]; exact hat.2) (Nat.le_refl _) ?_; conv => whnf
        repeat' first | ((first | (with_reducible first | apply WB.tt | apply WB.ff) | apply Rn.seq | apply Rn.reg | apply Rn.drw | apply Rn.blk | apply Rn.skip | apply Rn.ret | apply Rn.exit | apply Rn.cond rfl | refine i64_ (by omega) (by omega) ?_ | refine ne0_ (by omega) ?_ | refine WIx.intsN (by omega) ?_ | refine WIx.rowsN (by omega) ?_) <;> conv => whnf)
        refine wSt.st1 (by rfl) (by rfl) (by rfl) (by rfl) (by show _[0 + j * 4 + 2]? = _; rw [Nat.zero_add]; exact hat.1) (Nat.le_refl _) ?_; conv => whnf
        repeat' first | ((first | (with_reducible first | apply WB.tt | apply WB.ff) | apply Rn.seq | apply Rn.reg | apply Rn.drw | apply Rn.blk | apply Rn.skip | apply Rn.ret | apply Rn.exit | apply Rn.cond rfl | refine i64_ (by omega) (by omega) ?_ | refine ne0_ (by omega) ?_ | refine WIx.intsN (by omega) ?_ | refine WIx.rowsN (by omega) ?_) <;> conv => whnf)
        refine wSt.st1 (by rfl) (by rfl) (by rfl) (by rfl) (by
          show (List.set _ (0 + j * 4 + 2) _)[0 + j * 4 + 2 + 1]? = _
          rw [List.getElem?_set_ne (by omega), Nat.zero_add]
          exact hat.2) (Nat.le_refl _) ?_; conv => whnf
        repeat' first | ((first | (with_reducible first | apply WB.tt | apply WB.ff) | apply Rn.seq | apply Rn.reg | apply Rn.drw | apply Rn.blk | apply Rn.skip | apply Rn.ret | apply Rn.exit | apply Rn.cond rfl | refine i64_ (by omega) (by omega) ?_ | refine ne0_ (by omega) ?_ | refine WIx.intsN (by omega) ?_ | refine WIx.rowsN (by omega) ?_) <;> conv => whnf)
        refine ⟨rfl, rfl, (show 2 ≤ 6 by omega), RnF.turn (z' := wiZ last hs hs step lv ms (ms.set j ⟨(ms.getD j default).fr, (ms.getD j default).to, max 0 ((ms.getD j default).lo - by'.tmod 3), min 99 ((ms.getD j default).hi + (by'.tdiv 3).tmod 3)⟩)) (B := fun id => id.nat < 3) ?_ (fun id (h : id.nat < 2) => show id.nat < 3 by omega) (fun id h => h) (show 2 ≤ 3 by omega) hrest⟩
        refine ShrB.of ?_ ?_ rfl rfl
        · show Rel _ _ ((.n (.n (.n (.n .e (some (.pt (.o .h) 0 0)) .e) (some (.pt .h 0 0)) .e) none .e) none .e) : T D) _
          (repeat' first | exact Rel.e | refine Rel.some ?_ ?_ ?_ | refine Rel.none ?_ ?_ | refine Rel.ee ?_ ?_)
          all_goals show Fz _ _ _ _
          all_goals first | exact .pu trivial | exact .kpt (show _ < 3 by simp [Pos.nat])
        · show Rel _ _ ((.n (.n .e (some (tabC last hs step lv (ms.set j ⟨(ms.getD j default).fr, (ms.getD j default).to, max 0 ((ms.getD j default).lo - by'.tmod 3), min 99 ((ms.getD j default).hi + (by'.tdiv 3).tmod 3)⟩))) .e) (some (tabC last hs step lv ms)) .e) : T C) _
          (repeat' first | exact Rel.e | refine Rel.some ?_ ?_ ?_ | refine Rel.none ?_ ?_ | refine Rel.ee ?_ ?_)
          · refine ⟨show _ < 3 by simp [Pos.nat], tab_sh2 ?_ ?_⟩
            · exact Fz.whole (show ¬ 3 < 3 by omega) (by rfl) rfl (fun r hr => by
                obtain ⟨m, _, rfl⟩ := List.mem_map.1 hr
                rfl) rfl (pu_rg _)
            · refine Fz.whole (show ¬ 4 < 3 by omega) (by rfl) (by rw [rows_length, rows_length, List.length_set]) (fun r hr => by
                obtain ⟨m, _, rfl⟩ := List.mem_map.1 hr
                rfl) ?_ (pu_mk _)
              rw [← hst]
              show List.set (List.set _ (0 + j * 4 + 2) _) (0 + j * 4 + 2 + 1) _ = _
              rw [Nat.zero_add]
          · exact ⟨show _ < 3 by simp [Pos.nat], tabC_sh last hs step lv ms⟩
theorem main_tideWider (AW : PureF Try.prog p21.ix [] (.b true)) {es : List D} (fit : FitP [(true, [.i .i64, .sl [.i .i64, .i .i64], .i .i64, .sl [.i .i64], .sl [.i .i64, .i .i64, .i .i64, .i .i64]]), (false, [.i .u8]), (false, [.i .u8])] es) : PureF Try.prog 15 es (.b true) := by
  obtain ⟨last, hs, step, lv, ms, _, rfl, g1⟩ := fit.tab
  obtain ⟨f, _, rfl, w1, g2⟩ := g1.i
  obtain ⟨t, _, rfl, w2, g3⟩ := g2.i
  obtain rfl := g3.no
  exact c_TideWider last hs step lv ms f t (wf_u8 w1) (wf_u8 w2) AW
end Go.Ev

namespace Go.Proofs.Ytpemagogcagipaa.tideWider
open Go.ChangeShapes Go.WideShapes Go.ChangeAt Go.RowKit
open Go.ChangeMaps (open_string shut_string)
set_option linter.unusedVariables false

theorem laid : laidOutB Try.prog = true := by kernel_rfl
theorem own : ownKnob Try.prog.godebug = none := by kernel_rfl

/-! ### the walk -/
theorem walk {es : List Go.Ev.D} (fit : Go.Ev.FitP [(true, [.i .i64, .sl [.i .i64, .i .i64], .i .i64, .sl [.i .i64], .sl [.i .i64, .i .i64, .i .i64, .i .i64]]), (false, [.i .u8]), (false, [.i .u8])] es) {args : Array Value} {W : World} (ha : Go.Ev.DVL (Go.Ev.γH W) W es args.toList) :
    Calls Try.prog 15 args W fun e w' => e = .returned (.bool true) ∧ Grown W w' ∧ Below W.heap.size W w' :=
  Go.Ev.PureF.calls (Go.Ev.main_tideWider (fun ob nx lg => Go.Ev.closed_call Go.Ev.fp_ok Go.Ev.aw ob nx lg) fit) ha

set_option maxRecDepth 100000 in
theorem lifted (os : Os) (started : os.Started) (H : Type) (enc : TypeId × Value → H) :
    ReturnsInHanded {} Try.checked os 15 .any (Rows.tideWiderSpec.pre6 enc Try.prog Try.f15 Rows.tideWiderRow.domain false) (Rows.tideWiderSpec.post enc Try.prog Try.f15 false true false false) := by
  refine returnsInHanded_of_change (C := Try.checked) own started (by kernel_rfl) Try.func15
    (ChangeSpec.witness6 (enc := enc) (C := Try.checked) false ⟨#[], #[.agg #[.int .i64 0, .slice none 0 0, .int .i64 0, .slice none 0 0, .slice none 0 0], .int .u8 0, .int .u8 0], []⟩ 8 (by kernel_rfl) (by kernel_rfl) (by kernel_rfl) (by kernel_rfl)) ?_
  intro W base args ds gs before hval0 hW hcnd _
  have hval : ∀ (j : Nat) t v, Try.f15.params[j]? = some t → args[j]? = some v → Value.okWide Try.prog W .any base t v := hval0
  have hW' := hW
  obtain ⟨p, q, hA0, hV, rfl, hfz, hnd⟩ := hW
  have hA : DataW.TrodAll enc Try.prog W 0 (fun _ => true) true Try.f15.params.toList args.toList ds p := hA0
  rw [Try.params15] at hA hval
  obtain ⟨rfl, rfl⟩ := trodVars_none hV
  obtain ⟨d0, d1, d2, rfl⟩ := Go.Ev.len3 (Go.Ev.trod_len hA)
  clear hA0 hval0
  simp only [List.append_nil] at hW'
  obtain ⟨es, fit, dv⟩ := Go.Ev.open_all (n := 6) (pars := [(true, [.i .i64, .sl [.i .i64, .i .i64], .i .i64, .sl [.i .i64], .sl [.i .i64, .i .i64, .i .i64, .i .i64]]), (false, [.i .u8]), (false, [.i .u8])]) (by kernel_rfl) hA (fun j t v h1 h2 => hval j t v (by simpa using h1) (by simpa using h2))
  have hlt : ∀ x ∈ p, x.block < W.heap.size := fun x hx => by simpa using hW'.lt x hx
  refine (walk fit dv).mono fun e W' ⟨he, hg, hb⟩ => ?_
  subst he
  exact ⟨_, rfl, post_of_same (pa := p) (pv := []) hW' (fun _ _ _ => (trodAll_cons_mk (shut_bool Try.underlying4 _) trodAll_mk0))
    (fun sp hs => Go.Ev.stays_all laid (Go.Ev.of_allT (by kernel_rfl)) hA (fun x hx => hb.same (hlt x hx)) (fun x hx => hs x hx))
    (fun _ _ => rfl) (List.append_nil _).symm
    (hg.frame _) hg.2.1 (ok_one (by kernel_rfl) rfl (okWide_bool_mk Try.underlying4 _))⟩

theorem over : Rows.tideWiderRow.holds Try.pinned (OpenSpec.ofChange Rows.tideWiderSpec) :=
  OpenClaim.holds_of_wide 15 Try.f15 rfl rfl rfl rfl rfl rfl rfl ⟨rfl, rfl, rfl, rfl, rfl⟩ rfl rfl rfl rfl rfl (by kernel_rfl) Try.func15 (by kernel_rfl)
    (of_decide_eq_true (by kernel_rfl)) (by unfold Func.isWrapper; first | (rw [if_pos (by decide +kernel)]; kernel_rfl) | (rw [if_neg (by decide +kernel)]; exact ⟨rfl, rfl⟩))
    (fun os started H enc _ => lifted os started H enc)

/-- ████ THE STATEMENT ████ -/
theorem proved : Rows.TideWiderSaid :=
  over
#print axioms proved
end Go.Proofs.Ytpemagogcagipaa.tideWider
