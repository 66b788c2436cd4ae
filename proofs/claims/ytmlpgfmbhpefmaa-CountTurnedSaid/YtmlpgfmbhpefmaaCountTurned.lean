/-
  CountTurned is true: for each row and part, the row turned round has the same bounds of the turned part, wants as many looks, and has the same least number of wrong counts. No conditions but those of the statement itself.
-/
import Derived.Test.YtmlpgfmbhpefmaaRows
import Derived.WalkKit
import Derived.ProofKit
import Derived.OpenShut
import Derived.Test.YtmlpgfmbhpefmaaEvFt
import Derived.Test.YtmlpgfmbhpefmaaEvLg
import Derived.Test.YtmlpgfmbhpefmaaEvS1Y
import Derived.ShutString
set_option linter.all false
namespace Go.Ev
open Go.Proofs
set_option maxRecDepth 1000000
noncomputable def rc12 : RC := (.seq (.reg [(.u (.box p4 (.t p1))), (.u (.mv p7 (.k (.b false))))]) (.seq (.seq (.reg [(.u (.ldn p24 (.t p4) 4)), (.u (.cf (some p25) p51 [(.t p24)])), (.u (.un p26 .not (.t p25)))]) (.cond (.t p26) (.seq (.reg [(.u (.cf (some p27) p20 [])), (.u (.mv p7 (.t p27)))]) .ret) .skip)) (.seq (.reg [(.u (.ldn p28 (.t p4) 4)), (.u (.cf (some p29) p59 [(.t p28)])), (.u (.new p8 [.ns, .ns, (.i .i64 0), (.i .i64 0)])), (.u (.st (.t p8) (.t p29) 4))]) (.seq (.reg [(.u (.ldn p31 (.t p4) 4)), (.u (.mv p32 (.t p2))), (.u (.mv p33 (.t p3))), (.u (.cf (some p34) p53 [(.t p31), (.t p32), (.t p33)])), (.u (.mv p30 (.t p34))), (.u (.ext p35 (.t p30) 0)), (.u (.ext p36 (.t p30) 1)), (.u (.mv p9 (.t p35))), (.u (.mv p10 (.t p36)))]) (.seq (.reg [(.u (.fad p37 (.t p4) 0)), (.u (.ld1 p38 (.t p37))), (.u (.len p39 (.t p38))), (.u (.bin p40 .sub (.t p39) (.k (.i .i64 1)))), (.u (.mv p11 (.t p40)))]) (.seq (.reg [(.u (.ldn p42 (.t p4) 4)), (.u (.cf (some p43) p22 [(.t p42)])), (.u (.mv p44 (.t p9))), (.u (.mv p45 (.t p10))), (.u (.cf (some p46) p30 [(.t p43), (.t p44), (.t p45)])), (.u (.mv p41 (.t p46))), (.u (.ext p47 (.t p41) 0)), (.u (.ext p48 (.t p41) 1)), (.u (.new p12 [(.i .i64 0), (.i .i64 0)])), (.u (.st (.t p12) (.t p47) 2)), (.u (.mv p13 (.t p48)))]) (.seq (.reg [(.u (.ldn p50 (.t p8) 4)), (.u (.cf (some p51) p22 [(.t p50)])), (.u (.mv p52 (.t p11))), (.u (.mv p53 (.t p10))), (.u (.bin p54 .sub (.t p52) (.t p53))), (.u (.mv p55 (.t p11))), (.u (.mv p56 (.t p9))), (.u (.bin p57 .sub (.t p55) (.t p56))), (.u (.cf (some p58) p30 [(.t p51), (.t p54), (.t p57)])), (.u (.mv p49 (.t p58))), (.u (.ext p59 (.t p49) 0)), (.u (.ext p60 (.t p49) 1)), (.u (.new p14 [(.i .i64 0), (.i .i64 0)])), (.u (.st (.t p14) (.t p59) 2)), (.u (.mv p15 (.t p60)))]) (.seq (.reg [(.u (.ldn p62 (.t p4) 4)), (.u (.cf (some p63) p22 [(.t p62)])), (.u (.mv p64 (.t p9))), (.u (.mv p65 (.t p10))), (.u (.cf (some p66) p44 [(.t p63), (.t p64), (.t p65)])), (.u (.mv p61 (.t p66))), (.u (.ext p67 (.t p61) 0)), (.u (.ext p68 (.t p61) 1)), (.u (.mv p16 (.t p67))), (.u (.mv p17 (.t p68)))]) (.seq (.reg [(.u (.ldn p70 (.t p8) 4)), (.u (.cf (some p71) p22 [(.t p70)])), (.u (.mv p72 (.t p11))), (.u (.mv p73 (.t p10))), (.u (.bin p74 .sub (.t p72) (.t p73))), (.u (.mv p75 (.t p11))), (.u (.mv p76 (.t p9))), (.u (.bin p77 .sub (.t p75) (.t p76))), (.u (.cf (some p78) p44 [(.t p71), (.t p74), (.t p77)])), (.u (.mv p69 (.t p78))), (.u (.ext p79 (.t p69) 0)), (.u (.ext p80 (.t p69) 1)), (.u (.mv p18 (.t p79))), (.u (.mv p19 (.t p80)))]) (.seq (.reg [(.u (.ldn p82 (.t p4) 4)), (.u (.cf (some p83) p22 [(.t p82)])), (.u (.cf (some p84) p39 [(.t p83)])), (.u (.mv p81 (.t p84))), (.u (.ext p85 (.t p81) 0)), (.u (.ext p86 (.t p81) 1)), (.u (.mv p20 (.t p85))), (.u (.mv p21 (.t p86)))]) (.seq (.reg [(.u (.ldn p88 (.t p8) 4)), (.u (.cf (some p89) p22 [(.t p88)])), (.u (.cf (some p90) p39 [(.t p89)])), (.u (.mv p87 (.t p90))), (.u (.ext p91 (.t p87) 0)), (.u (.ext p92 (.t p87) 1)), (.u (.mv p22 (.t p91))), (.u (.mv p23 (.t p92)))]) (.seq (.seq (.reg [(.u (.mv p93 (.t p21))), (.u (.mv p94 (.t p23))), (.u (.bin p95 .neq (.t p93) (.t p94))), (.u (.mv p96 (.t p95))), (.g p96 false (some p97) (.mv p97 (.t p20))), (.g p96 false (some p98) (.mv p98 (.t p22))), (.g p96 false (some p99) (.bin p99 .neq (.t p97) (.t p98))), (.u (.pick p100 (.t p96) (.k (.b true)) (.t p99))), (.u (.mv p101 (.t p100))), (.g p101 false (some p102) (.mv p102 (.t p13))), (.g p101 false (some p103) (.mv p103 (.t p15))), (.g p101 false (some p104) (.bin p104 .neq (.t p102) (.t p103))), (.u (.pick p105 (.t p101) (.k (.b true)) (.t p104))), (.u (.mv p106 (.t p105))), (.g p106 false (some p107) (.mv p107 (.t p17))), (.g p106 false (some p108) (.mv p108 (.t p19))), (.g p106 false (some p109) (.bin p109 .neq (.t p107) (.t p108))), (.u (.pick p110 (.t p106) (.k (.b true)) (.t p109)))]) (.cond (.t p110) (.seq (.reg [(.u (.mv p7 (.k (.b false))))]) .ret) .skip)) (.seq (.reg [(.u (.mv p111 (.t p13))), (.u (.bin p112 .eql (.t p111) (.k (.i .i64 0)))), (.u (.mv p113 (.t p112))), (.g p113 true (some p114) (.mv p114 (.t p17))), (.g p113 true (some p115) (.bin p115 .eql (.t p114) (.k (.i .i64 0)))), (.u (.pick p116 (.t p113) (.t p115) (.k (.b false)))), (.u (.mv p117 (.t p116))), (.g p117 false (some p118) (.mv p118 (.t p13))), (.g p117 false (some p119) (.bin p119 .eql (.t p118) (.k (.i .i64 11)))), (.g p117 false (some p120) (.mv p120 (.t p119))), (.g p120 true (some p121) (.mv p121 (.t p17))), (.g p120 true (some p122) (.mv p122 (.t p13))), (.g p120 true (some p123) (.bin p123 .eql (.t p121) (.t p122))), (.g p117 false (some p124) (.pick p124 (.t p120) (.t p123) (.k (.b false)))), (.u (.pick p125 (.t p117) (.k (.b true)) (.t p124))), (.u (.mv p126 (.t p125))), (.g p126 true (some p127) (.ldn p127 (.t p12) 2)), (.g p126 true (some p128) (.ldn p128 (.t p14) 2)), (.g p126 true (some p129) (.eqr p129 false [(.i .i64), (.i .i64)] (.t p127) (.t p128))), (.u (.pick p130 (.t p126) (.t p129) (.k (.b false)))), (.u (.mv p131 (.t p130))), (.g p131 true (some p132) (.mv p132 (.t p16))), (.g p131 true (some p133) (.mv p133 (.t p18))), (.g p131 true (some p134) (.bin p134 .eql (.t p132) (.t p133))), (.u (.pick p135 (.t p131) (.t p134) (.k (.b false)))), (.u (.mv p136 (.t p135))), (.g p136 true (some p137) (.cf (some p137) p20 [])), (.u (.pick p138 (.t p136) (.t p137) (.k (.b false)))), (.u (.mv p7 (.t p138)))]) .ret)))))))))))))
def rs12 : List RR := [(.t p7)]
theorem fn12 : FnOk Try.prog p13.ix 138 rc12 rs12 := ⟨Try.f12, bodyC Try.f12, Try.func12, by kernel_rfl, by kernel_rfl, by kernel_rfl, by kernel_rfl, by kernel_rfl⟩
theorem c_CountTurned (l : List Int) (cs : List Cnt) (wr off : Int) (a b : Int) (ha : 0 ≤ a ∧ a ≤ 255) (hb : 0 ≤ b ∧ b ≤ 255) (AW : PureF Try.prog p20.ix [] (.b true)) :
    PureF Try.prog p13.ix [.ag [.lst 1 (ints l), .lst 3 (rows cntD cs), .i .i64 wr, .i .i64 off], .i .u8 a, .i .u8 b] (.b true) := by
  have e1 := ints_length l
  refine PureF.run fn12 (by simp) (by simp [PuL, PuE, Pu, pu_ints, pu_cnts]) ?_; conv => whnf
  repeat' first | ((first | with_reducible apply WB.tt | with_reducible apply WB.ff | refine Rn.seq ?_ | refine Rn.reg ?_ | refine Rn.drw ?_ | refine Rn.blk ?_ | refine Rn.skip ?_ | refine Rn.ret ?_ | refine Rn.exit ?_ | refine Rn.cond rfl ?_ | refine And.intro (InR.i64 (by omega) (by omega)) ?_ | refine And.intro (show _ ≠ (0 : Int) by omega) ?_ | refine WIx.intsN (by omega) ?_ | refine WIx.rowsN (by omega) ?_ | refine WCall.pure (c_ready l cs wr off) ?_ | refine WCall.pure (AW) ?_ | with_reducible refine WB.dec (fun h => ?_) (fun h => ?_) | with_reducible refine WB.ndec (fun h => ?_) (fun h => ?_) | refine WB.mk (fun h => ?_) (fun h => ?_)) <;> conv => whnf)
  · exact Fin.b rfl rfl
  have h1 : readyB l cs wr off = true := by
    have : (!readyB l cs wr off) = false := by assumption
    simpa using this
  obtain ⟨h1, hF⟩ := ready_spec h1
  obtain ⟨f1, f2, f3, f4⟩ := fault0 hF
  obtain ⟨g1, g2, g3⟩ := parted_spec f1 ha.1 hb.1
  have hu := thin_unk h1 hF
  have cR := c_Row l cs wr off (by omega) (by omega)
  have cP := c_parted l cs wr off a b f1 (by omega) ha hb
  have cV := c_turned l cs wr off f1 (by omega) (by omega)
  have cR' := c_Row l.reverse (cs.map flipC) wr off (by rw [List.length_reverse]; omega) (by rw [List.length_map]; omega)
  have cM := c_Least l cs wr off (by omega)
  have cM' := c_Least l.reverse (cs.map flipC) wr off (by rw [List.length_reverse]; omega)
  have hF' := fault_rev hF
  have hle : leN l.reverse (cs.map flipC) wr off = leN l cs wr off ∧ leE l.reverse (cs.map flipC) wr off = leE l cs wr off := by
    unfold leN leE
    rw [hF, hF', least_rev hF]
    exact ⟨rfl, rfl⟩
  rw [hle.1, hle.2] at cM'
  generalize leN l cs wr off = ln at *
  generalize leE l cs wr off = le at *
  generalize pA l.length a b = A at *
  generalize pB l.length a b = B at *
  clear h1
  have hlr : l.reverse.length = l.length := List.length_reverse
  have cN := c_Looks l cs wr off A B (fun _ => hu)
  have cN' := c_Looks l.reverse (cs.map flipC) wr off (((ints l).length : Int) - 1 - B) (((ints l).length : Int) - 1 - A) (fun _ => by rw [unk_rev]; exact hu)
  unfold looksN at cN cN'
  by_cases hT : truR l cs wr off = []
  · have hT' := (tru_nil_rev hF).2 hT
    have cC := c_Chairs11 l cs wr off A B hF g1 g2 g3 hT
    have cC' := c_Chairs11 l.reverse (cs.map flipC) wr off (((ints l).length : Int) - 1 - B) (((ints l).length : Int) - 1 - A) hF' (by omega) (by omega) (by omega) hT'
    rw [startE_in hF g1 g2 g3, if_pos hT, if_neg (by omega)] at cN
    rw [startE_in hF' (by omega) (by omega) (by omega), if_pos hT', if_neg (by omega)] at cN'
    repeat' first | ((first | with_reducible apply WB.tt | with_reducible apply WB.ff | refine Rn.seq ?_ | refine Rn.reg ?_ | refine Rn.drw ?_ | refine Rn.blk ?_ | refine Rn.skip ?_ | refine Rn.ret ?_ | refine Rn.exit ?_ | refine Rn.cond rfl ?_ | refine And.intro (InR.i64 (by omega) (by omega)) ?_ | refine And.intro (show _ ≠ (0 : Int) by omega) ?_ | refine WIx.intsN (by omega) ?_ | refine WIx.rowsN (by omega) ?_ | refine WCall.pure (cR) ?_ | refine WCall.pure (cV) ?_ | refine WCall.pure (cP) ?_ | refine WCall.pure (cR') ?_ | refine WCall.pure (cC) ?_ | refine WCall.pure (cC') ?_ | refine WCall.pure (cN) ?_ | refine WCall.pure (cN') ?_ | refine WCall.pure (cM) ?_ | refine WCall.pure (cM') ?_ | with_reducible refine WB.decT (by first | with_reducible rfl | assumption | omega | exact ⟨rfl, rfl⟩) ?_ | with_reducible refine WB.decF (by first | assumption | omega) ?_ | with_reducible refine WB.ndT (by first | with_reducible rfl | assumption | omega | exact ⟨rfl, rfl⟩) ?_ | with_reducible refine WB.ndF (by first | assumption | omega) ?_ | with_reducible refine WB.nt ?_ | with_reducible refine WB.nf ?_ | with_reducible refine WB.dec (fun h => ?_) (fun h => ?_) | with_reducible refine WB.ndec (fun h => ?_) (fun h => ?_) | refine WB.mk (fun h => ?_) (fun h => ?_)) <;> conv => whnf)
    refine WSt.eqr2 rfl rfl rfl rfl rfl rfl ?_; conv => whnf
    repeat' first | ((first | with_reducible apply WB.tt | with_reducible apply WB.ff | refine Rn.seq ?_ | refine Rn.reg ?_ | refine Rn.drw ?_ | refine Rn.blk ?_ | refine Rn.skip ?_ | refine Rn.ret ?_ | refine Rn.exit ?_ | refine Rn.cond rfl ?_ | refine And.intro (InR.i64 (by omega) (by omega)) ?_ | refine And.intro (show _ ≠ (0 : Int) by omega) ?_ | refine WIx.intsN (by omega) ?_ | refine WIx.rowsN (by omega) ?_ | refine WCall.pure (AW) ?_ | with_reducible refine WB.decT (by first | with_reducible rfl | assumption | omega | exact ⟨rfl, rfl⟩) ?_ | with_reducible refine WB.decF (by first | assumption | omega) ?_ | with_reducible refine WB.ndT (by first | with_reducible rfl | assumption | omega | exact ⟨rfl, rfl⟩) ?_ | with_reducible refine WB.ndF (by first | assumption | omega) ?_ | with_reducible refine WB.nt ?_ | with_reducible refine WB.nf ?_ | with_reducible refine WB.dec (fun h => ?_) (fun h => ?_) | with_reducible refine WB.ndec (fun h => ?_) (fun h => ?_) | refine WB.mk (fun h => ?_) (fun h => ?_)) <;> conv => whnf)
    exact Fin.b rfl rfl
  · have hT' : truR l.reverse (cs.map flipC) wr off ≠ [] := fun h => hT ((tru_nil_rev hF).1 h)
    have cC := c_Chairs0 l cs wr off A B hF g1 g2 g3 hT
    have cC' := c_Chairs0 l.reverse (cs.map flipC) wr off (((ints l).length : Int) - 1 - B) (((ints l).length : Int) - 1 - A) hF' (by omega) (by omega) (by omega) hT'
    rw [startE_in hF g1 g2 g3, if_neg hT, if_pos rfl] at cN
    rw [startE_in hF' (by omega) (by omega) (by omega), if_neg hT', if_pos rfl] at cN'
    have hbr := bnd_rev hF g1 g2 g3 hT
    have hlr2 := lk_rev hF g1 g2 g3 hT
    have hbd := ref_bd l cs wr off A B f2 g1 g2 g3
    rw [← e1] at hbr hlr2
    rw [e1] at hlr2
    have hlr3 : lkN (((ints l).length : Int) - 1 - B) (((ints l).length : Int) - 1 - A) l.reverse.length (truR l.reverse (cs.map flipC) wr off) = lkN A B l.length (truR l cs wr off) := by rw [e1]; exact hlr2
    rw [hbr.1, hbr.2] at cC'
    rw [hlr3] at cN'
    generalize loR A B (truR l cs wr off) = lo at *
    generalize hiR A B (truR l cs wr off) = hi at *
    generalize lkN A B l.length (truR l cs wr off) = N at *
    have w1 := wf_small (n := lo) (by omega) (by omega)
    have w2 := wf_small (n := hi) (by omega) (by omega)
    repeat' first | ((first | with_reducible apply WB.tt | with_reducible apply WB.ff | refine Rn.seq ?_ | refine Rn.reg ?_ | refine Rn.drw ?_ | refine Rn.blk ?_ | refine Rn.skip ?_ | refine Rn.ret ?_ | refine Rn.exit ?_ | refine Rn.cond rfl ?_ | refine And.intro (InR.i64 (by omega) (by omega)) ?_ | refine And.intro (show _ ≠ (0 : Int) by omega) ?_ | refine WIx.intsN (by omega) ?_ | refine WIx.rowsN (by omega) ?_ | refine WCall.pure (cR) ?_ | refine WCall.pure (cV) ?_ | refine WCall.pure (cP) ?_ | refine WCall.pure (cR') ?_ | refine WCall.pure (cC) ?_ | refine WCall.pure (cC') ?_ | refine WCall.pure (cN) ?_ | refine WCall.pure (cN') ?_ | refine WCall.pure (cM) ?_ | refine WCall.pure (cM') ?_ | with_reducible refine WB.decT (by first | with_reducible rfl | assumption | omega | exact ⟨rfl, rfl⟩) ?_ | with_reducible refine WB.decF (by first | assumption | omega) ?_ | with_reducible refine WB.ndT (by first | with_reducible rfl | assumption | omega | exact ⟨rfl, rfl⟩) ?_ | with_reducible refine WB.ndF (by first | assumption | omega) ?_ | with_reducible refine WB.nt ?_ | with_reducible refine WB.nf ?_ | with_reducible refine WB.dec (fun h => ?_) (fun h => ?_) | with_reducible refine WB.ndec (fun h => ?_) (fun h => ?_) | refine WB.mk (fun h => ?_) (fun h => ?_)) <;> conv => whnf)
    refine WSt.eqr2 (a := lo) (b := hi) (a' := lo) (b' := hi) ?_ ?_ w1 w2 w1 w2 ?_
    · rfl
    · rfl
    conv => whnf
    repeat' first | ((first | with_reducible apply WB.tt | with_reducible apply WB.ff | refine Rn.seq ?_ | refine Rn.reg ?_ | refine Rn.drw ?_ | refine Rn.blk ?_ | refine Rn.skip ?_ | refine Rn.ret ?_ | refine Rn.exit ?_ | refine Rn.cond rfl ?_ | refine And.intro (InR.i64 (by omega) (by omega)) ?_ | refine And.intro (show _ ≠ (0 : Int) by omega) ?_ | refine WIx.intsN (by omega) ?_ | refine WIx.rowsN (by omega) ?_ | refine WCall.pure (AW) ?_ | with_reducible refine WB.decT (by first | with_reducible rfl | assumption | omega | exact ⟨rfl, rfl⟩) ?_ | with_reducible refine WB.decF (by first | assumption | omega) ?_ | with_reducible refine WB.ndT (by first | with_reducible rfl | assumption | omega | exact ⟨rfl, rfl⟩) ?_ | with_reducible refine WB.ndF (by first | assumption | omega) ?_ | with_reducible refine WB.nt ?_ | with_reducible refine WB.nf ?_ | with_reducible refine WB.dec (fun h => ?_) (fun h => ?_) | with_reducible refine WB.ndec (fun h => ?_) (fun h => ?_) | refine WB.mk (fun h => ?_) (fun h => ?_)) <;> conv => whnf)
    exact Fin.b rfl rfl
theorem main_countTurned (AW : PureF Try.prog p20.ix [] (.b true)) {es : List D} (fit : FitP [(true, [.sl [.i .i64], .sl [.b, .i .i64, .i .i64], .i .i64, .i .i64]), (false, [.i .u8]), (false, [.i .u8])] es) : PureF Try.prog 12 es (.b true) := by
  obtain ⟨l, cs, wr, off, _, rfl, g1⟩ := fit.row
  obtain ⟨a, _, rfl, ha, g2⟩ := g1.i
  obtain ⟨b, _, rfl, hb, g3⟩ := g2.i
  obtain rfl := g3.no
  exact c_CountTurned l cs wr off a b (wf_u8 ha) (wf_u8 hb) AW
end Go.Ev
namespace Go.Proofs.Ytmlpgfmbhpefmaa.countTurned
open Go.ChangeShapes Go.WideShapes Go.ChangeAt Go.RowKit
open Go.ChangeMaps (open_string shut_string)
set_option linter.unusedVariables false

theorem laid : laidOutB Try.prog = true := by kernel_rfl
theorem own : ownKnob Try.prog.godebug = none := by kernel_rfl

/-! ### the walk -/
theorem walk {es : List Go.Ev.D} (fit : Go.Ev.FitP [(true, [.sl [.i .i64], .sl [.b, .i .i64, .i .i64], .i .i64, .i .i64]), (false, [.i .u8]), (false, [.i .u8])] es) {args : Array Value} {W : World} (ha : Go.Ev.DVL (Go.Ev.γH W) W es args.toList) :
    Calls Try.prog 12 args W fun e w' => e = .returned (.bool true) ∧ Grown W w' ∧ Below W.heap.size W w' :=
  Go.Ev.PureF.calls (Go.Ev.main_countTurned (fun ob nx lg => Go.Ev.awT.any ob nx lg) fit) ha

set_option maxRecDepth 100000 in
theorem lifted (os : Os) (started : os.Started) (H : Type) (enc : TypeId × Value → H) :
    ReturnsInHanded {} Try.checked os 12 .any (Rows.countTurnedSpec.pre6 enc Try.prog Try.f12 Rows.countTurnedRow.domain false) (Rows.countTurnedSpec.post enc Try.prog Try.f12 false true false false) := by
  refine returnsInHanded_of_change (C := Try.checked) own started (by kernel_rfl) Try.func12
    (ChangeSpec.witness6 (enc := enc) (C := Try.checked) false ⟨#[], #[.agg #[.slice none 0 0, .slice none 0 0, .int .i64 0, .int .i64 0], .int .u8 0, .int .u8 0], []⟩ 8 (by kernel_rfl) (by kernel_rfl) (by kernel_rfl) (by kernel_rfl)) ?_
  intro W base args ds gs before hval0 hW hcnd _
  have hval : ∀ (j : Nat) t v, Try.f12.params[j]? = some t → args[j]? = some v → Value.okWide Try.prog W .any base t v := hval0
  have hW' := hW
  obtain ⟨p, q, hA0, hV, rfl, hfz, hnd⟩ := hW
  have hA : DataW.TrodAll enc Try.prog W 0 (fun _ => true) true Try.f12.params.toList args.toList ds p := hA0
  rw [Try.params12] at hA hval
  obtain ⟨rfl, rfl⟩ := trodVars_none hV
  obtain ⟨d0, d1, d2, rfl⟩ := Go.Ev.len3 (Go.Ev.trod_len hA)
  clear hA0 hval0
  simp only [List.append_nil] at hW'
  obtain ⟨es, fit, dv⟩ := Go.Ev.open_all (n := 6) (pars := [(true, [.sl [.i .i64], .sl [.b, .i .i64, .i .i64], .i .i64, .i .i64]), (false, [.i .u8]), (false, [.i .u8])]) (by kernel_rfl) hA (fun j t v h1 h2 => hval j t v (by simpa using h1) (by simpa using h2))
  have hlt : ∀ x ∈ p, x.block < W.heap.size := fun x hx => by simpa using hW'.lt x hx
  refine (walk fit dv).mono fun e W' ⟨he, hg, hb⟩ => ?_
  subst he
  exact ⟨_, rfl, post_of_same (pa := p) (pv := []) hW' (fun _ _ _ => (trodAll_cons_mk (shut_bool Try.underlying4 _) trodAll_mk0))
    (fun sp hs => Go.Ev.stays_all laid (Go.Ev.of_allT (by kernel_rfl)) hA (fun x hx => hb.same (hlt x hx)) (fun x hx => hs x hx))
    (fun _ _ => rfl) (List.append_nil _).symm
    (hg.frame _) hg.2.1 (ok_one (by kernel_rfl) rfl (okWide_bool_mk Try.underlying4 _))⟩

theorem over : Rows.countTurnedRow.holds Try.pinned (OpenSpec.ofChange Rows.countTurnedSpec) :=
  OpenClaim.holds_of_wide 12 Try.f12 rfl rfl rfl rfl rfl rfl rfl ⟨rfl, rfl, rfl, rfl, rfl⟩ rfl rfl rfl rfl rfl (by kernel_rfl) Try.func12 (by kernel_rfl)
    (of_decide_eq_true (by kernel_rfl)) (by unfold Func.isWrapper; first | (rw [if_pos (by decide +kernel)]; kernel_rfl) | (rw [if_neg (by decide +kernel)]; exact ⟨rfl, rfl⟩))
    (fun os started H enc _ => lifted os started H enc)

/-- ████ THE STATEMENT ████ -/
theorem proved : Rows.CountTurnedSaid :=
  over
#print axioms proved
end Go.Proofs.Ytmlpgfmbhpefmaa.countTurned
