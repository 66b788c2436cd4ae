/-
  CountLooks is true: for each row, book of counts and part the look and the looks of the program are those of the reference, or the errors are. No conditions but those of the statement itself.
-/
import Derived.Test.YtmlpgfmbhpefmaaRows
import Derived.WalkKit
import Derived.ProofKit
import Derived.OpenShut
import Derived.Test.YtmlpgfmbhpefmaaEvFt
import Derived.Test.YtmlpgfmbhpefmaaEvLx
import Derived.Test.YtmlpgfmbhpefmaaEvS1Y
import Derived.ShutString
set_option linter.all false
namespace Go.Ev
open Go.Proofs
set_option maxRecDepth 1000000
noncomputable def rc7 : RC := (.seq (.reg [(.u (.box p4 (.t p1))), (.u (.mv p7 (.k (.b false))))]) (.seq (.seq (.reg [(.u (.ldn p18 (.t p4) 4)), (.u (.cf (some p19) p19 [(.t p18)])), (.u (.un p20 .not (.t p19)))]) (.cond (.t p20) (.seq (.reg [(.u (.cf (some p21) p20 [])), (.u (.mv p7 (.t p21)))]) .ret) .skip)) (.seq (.reg [(.u (.ldn p23 (.t p4) 4)), (.u (.cf (some p24) p22 [(.t p23)])), (.u (.cf (some p25) p43 [(.t p24)])), (.u (.mv p22 (.t p25))), (.u (.ext p26 (.t p22) 0)), (.u (.ext p27 (.t p22) 1)), (.u (.ext p28 (.t p22) 2)), (.u (.mv p8 (.t p26))), (.u (.mv p9 (.t p27))), (.u (.mv p10 (.t p28)))]) (.seq (.reg [(.u (.ldn p30 (.t p4) 4)), (.u (.cf (some p31) p22 [(.t p30)])), (.u (.mv p32 (.t p2))), (.u (.mv p33 (.t p3))), (.u (.cf (some p34) p44 [(.t p31), (.t p32), (.t p33)])), (.u (.mv p29 (.t p34))), (.u (.ext p35 (.t p29) 0)), (.u (.ext p36 (.t p29) 1)), (.u (.mv p11 (.t p35))), (.u (.mv p12 (.t p36)))]) (.seq (.reg [(.u (.ldn p38 (.t p4) 4)), (.u (.cf (some p39) p31 [(.t p38)])), (.u (.mv p37 (.t p39))), (.u (.ext p40 (.t p37) 0)), (.u (.ext p41 (.t p37) 1)), (.u (.mv p13 (.t p40))), (.u (.mv p14 (.t p41)))]) (.seq (.reg [(.u (.mv p42 (.t p14))), (.u (.mv p15 (.t p42)))]) (.seq (.seq (.reg [(.u (.ldn p43 (.t p4) 4)), (.u (.cf (some p44) p25 [(.t p43)])), (.u (.bin p45 .eql (.t p44) (.k (.i .i64 0)))), (.u (.mv p46 (.t p45))), (.g p46 true (some p47) (.ldn p47 (.t p4) 4)), (.g p46 true (some p48) (.mv p48 (.t p2))), (.g p46 true (some p49) (.mv p49 (.t p3))), (.g p46 true (some p50) (.cf (some p50) p32 [(.t p47), (.t p48), (.t p49)])), (.g p46 true (some p51) (.un p51 .not (.t p50))), (.u (.pick p52 (.t p46) (.t p51) (.k (.b false))))]) (.cond (.t p52) (.reg [(.u (.mv p15 (.k (.i .i64 2))))]) .skip)) (.seq (.seq (.reg [(.u (.mv p53 (.t p10))), (.u (.mv p54 (.t p14))), (.u (.bin p55 .neq (.t p53) (.t p54))), (.u (.mv p56 (.t p55))), (.g p56 false (some p57) (.mv p57 (.t p12))), (.g p56 false (some p58) (.mv p58 (.t p15))), (.g p56 false (some p59) (.bin p59 .neq (.t p57) (.t p58))), (.u (.pick p60 (.t p56) (.k (.b true)) (.t p59))), (.u (.mv p61 (.t p60))), (.g p61 false (some p62) (.mv p62 (.t p15))), (.g p61 false (some p63) (.bin p63 .neq (.t p62) (.k (.i .i64 0)))), (.g p61 false (some p64) (.mv p64 (.t p63))), (.g p64 true (some p65) (.mv p65 (.t p11))), (.g p64 true (some p66) (.bin p66 .neq (.t p65) (.k (.i .i64 0)))), (.g p61 false (some p67) (.pick p67 (.t p64) (.t p66) (.k (.b false)))), (.u (.pick p68 (.t p61) (.k (.b true)) (.t p67)))]) (.cond (.t p68) (.seq (.reg [(.u (.mv p7 (.k (.b false))))]) .ret) .skip)) (.seq (.seq (.reg [(.u (.mv p69 (.t p14))), (.u (.bin p70 .neq (.t p69) (.k (.i .i64 0))))]) (.cond (.t p70) (.seq (.reg [(.u (.mv p71 (.t p8))), (.u (.bin p72 .eql (.t p71) (.k (.i .i64 0)))), (.u (.mv p73 (.t p72))), (.g p73 true (some p74) (.mv p74 (.t p9))), (.g p73 true (some p75) (.bin p75 .eql (.t p74) (.k (.i .i64 0)))), (.u (.pick p76 (.t p73) (.t p75) (.k (.b false)))), (.u (.mv p77 (.t p76))), (.g p77 true (some p78) (.cf (some p78) p20 [])), (.u (.pick p79 (.t p77) (.t p78) (.k (.b false)))), (.u (.mv p7 (.t p79)))]) .ret) .skip)) (.seq (.reg [(.u (.mv p81 (.t p13))), (.u (.cf (some p82) p45 [(.t p81)])), (.u (.mv p80 (.t p82))), (.u (.ext p83 (.t p80) 0)), (.u (.ext p84 (.t p80) 1)), (.u (.mv p16 (.t p83))), (.u (.mv p17 (.t p84)))]) (.seq (.reg [(.u (.mv p85 (.t p8))), (.u (.mv p86 (.t p16))), (.u (.bin p87 .eql (.t p85) (.t p86))), (.u (.mv p88 (.t p87))), (.g p88 true (some p89) (.mv p89 (.t p9))), (.g p88 true (some p90) (.mv p90 (.t p17))), (.g p88 true (some p91) (.bin p91 .eql (.t p89) (.t p90))), (.u (.pick p92 (.t p88) (.t p91) (.k (.b false)))), (.u (.mv p93 (.t p92))), (.g p93 true (some p94) (.mv p94 (.t p15))), (.g p93 true (some p95) (.bin p95 .neq (.t p94) (.k (.i .i64 0)))), (.g p93 true (some p96) (.mv p96 (.t p95))), (.g p96 false (some p97) (.mv p97 (.t p11))), (.g p96 false (some p98) (.mv p98 (.t p13))), (.g p96 false (some p99) (.mv p99 (.t p2))), (.g p96 false (some p100) (.mv p100 (.t p3))), (.g p96 false (some p101) (.cf (some p101) p46 [(.t p98), (.t p99), (.t p100)])), (.g p96 false (some p102) (.bin p102 .eql (.t p97) (.t p101))), (.g p93 true (some p103) (.pick p103 (.t p96) (.k (.b true)) (.t p102))), (.u (.pick p104 (.t p93) (.t p103) (.k (.b false)))), (.u (.mv p105 (.t p104))), (.g p105 true (some p106) (.cf (some p106) p20 [])), (.u (.pick p107 (.t p105) (.t p106) (.k (.b false)))), (.u (.mv p7 (.t p107)))]) .ret)))))))))))
def rs7 : List RR := [(.t p7)]
theorem fn7 : FnOk Try.prog p8.ix 107 rc7 rs7 := ⟨Try.f7, bodyC Try.f7, Try.func7, by kernel_rfl, by kernel_rfl, by kernel_rfl, by kernel_rfl, by kernel_rfl⟩
theorem c_CountLooks (l : List Int) (cs : List Cnt) (wr off f t : Int) (AW : PureF Try.prog p20.ix [] (.b true)) :
    PureF Try.prog p8.ix [.ag [.lst 1 (ints l), .lst 3 (rows cntD cs), .i .i64 wr, .i .i64 off], .i .i64 f, .i .i64 t] (.b true) := by
  have e1 := ints_length l
  refine PureF.run fn7 (by simp) (by simp [PuL, PuE, Pu, pu_ints, pu_cnts]) ?_; conv => whnf
  repeat' first | ((first | with_reducible apply WB.tt | with_reducible apply WB.ff | refine Rn.seq ?_ | refine Rn.reg ?_ | refine Rn.drw ?_ | refine Rn.blk ?_ | refine Rn.skip ?_ | refine Rn.ret ?_ | refine Rn.exit ?_ | refine Rn.cond rfl ?_ | refine And.intro (InR.i64 (by omega) (by omega)) ?_ | refine And.intro (show _ ≠ (0 : Int) by omega) ?_ | refine WIx.intsN (by omega) ?_ | refine WIx.rowsN (by omega) ?_ | refine WCall.pure (c_Thin l cs wr off) ?_ | refine WCall.pure (AW) ?_ | with_reducible refine WB.dec (fun h => ?_) (fun h => ?_) | with_reducible refine WB.ndec (fun h => ?_) (fun h => ?_) | refine WB.mk (fun h => ?_) (fun h => ?_)) <;> conv => whnf)
  · exact Fin.b rfl rfl
  have h1 : thinB l cs wr off = true := by
    have : (!thinB l cs wr off) = false := by assumption
    simpa using this
  obtain ⟨h2, h3⟩ := thin_len h1
  have cR := c_Row l cs wr off (by omega) (by omega)
  have cF := c_fault l cs wr off
  have cK := c_Look l cs wr off (by omega)
  have cN := c_Looks l cs wr off f t (fun h => thin_unk h1 h)
  have cS := c_sure l cs wr off
  have cP := c_part l cs wr off f t (by omega)
  clear h1
  unfold lkP1 lkP2 at cK
  unfold looksN at cN
  by_cases hF : faultR l cs wr off = 0
  · obtain ⟨f1, f2, f3, f4⟩ := fault0 hF
    rw [hF] at cF
    have hsL : sureL l cs wr off = truR l cs wr off := by unfold sureL; rw [if_pos hF]
    have hsE : sureE l cs wr off = if truR l cs wr off = [] then 11 else 0 := by unfold sureE; rw [if_pos hF]
    have hsS : startE l cs wr off f t = if partB l.length f t = true then (if truR l cs wr off = [] then 11 else 0) else 2 := by
      unfold startE
      rw [if_pos hF, part_iff]
      simp only [truths_nil f2]
    have tl := truR_len l cs wr off f2
    rw [hsL] at cS
    by_cases hP : partB l.length f t = true
    · have hP2 := hP
      rw [part_iff, Bool.and_eq_true, decide_eq_true_iff] at hP2
      have hP3 : 0 ≤ f ∧ f ≤ t := by have := hP2.1; unfold inB at this; rwa [decide_eq_true_iff] at this
      rw [hP] at cP
      rw [if_pos hP] at hsS
      by_cases hT : truR l cs wr off = []
      · rw [if_pos hT] at hsS hsE
        rw [hsS, if_neg (by omega)] at cN
        rw [hsE, if_neg (by omega), if_neg (by omega)] at cK
        rw [hsE] at cS
        repeat' first | ((first | with_reducible apply WB.tt | with_reducible apply WB.ff | refine Rn.seq ?_ | refine Rn.reg ?_ | refine Rn.drw ?_ | refine Rn.blk ?_ | refine Rn.skip ?_ | refine Rn.ret ?_ | refine Rn.exit ?_ | refine Rn.cond rfl ?_ | refine And.intro (InR.i64 (by omega) (by omega)) ?_ | refine And.intro (show _ ≠ (0 : Int) by omega) ?_ | refine WIx.intsN (by omega) ?_ | refine WIx.rowsN (by omega) ?_ | refine WCall.pure (cR) ?_ | refine WCall.pure (cF) ?_ | refine WCall.pure (cK) ?_ | refine WCall.pure (cN) ?_ | refine WCall.pure (cS) ?_ | refine WCall.pure (cP) ?_ | refine WCall.pure (AW) ?_ | with_reducible refine WB.decT (by first | with_reducible rfl | assumption | omega | exact ⟨rfl, rfl⟩) ?_ | with_reducible refine WB.decF (by first | assumption | omega) ?_ | with_reducible refine WB.ndT (by first | with_reducible rfl | assumption | omega | exact ⟨rfl, rfl⟩) ?_ | with_reducible refine WB.ndF (by first | assumption | omega) ?_ | with_reducible refine WB.nt ?_ | with_reducible refine WB.nf ?_ | with_reducible refine WB.dec (fun h => ?_) (fun h => ?_) | with_reducible refine WB.ndec (fun h => ?_) (fun h => ?_) | refine WB.mk (fun h => ?_) (fun h => ?_)) <;> conv => whnf)
        all_goals first | exact Fin.b rfl rfl | skip
      · rw [if_neg hT] at hsS hsE
        have L := tru_lks (f := f) (t := t) hF hP3.1 hP3.2 hP2.2
        have cX := c_refLook (truR l cs wr off) l.length f2 hT (by omega) (fun x hx => (L x hx).1)
        have cY := c_refLooks (f := f) (t := t) (n := l.length) hP3.1 (by omega) hP2.2 f2 (truR l cs wr off).length (truR l cs wr off) (Nat.le_refl _) hT (by omega) L
        rw [hsS, if_pos rfl] at cN
        rw [hsE, if_pos rfl, if_pos rfl] at cK
        rw [hsE] at cS
        generalize lkN f t l.length (truR l cs wr off) = N at *
        generalize (lookS (truR l cs wr off) l.length).1 = a at *
        generalize (lookS (truR l cs wr off) l.length).2 = b at *
        repeat' first | ((first | with_reducible apply WB.tt | with_reducible apply WB.ff | refine Rn.seq ?_ | refine Rn.reg ?_ | refine Rn.drw ?_ | refine Rn.blk ?_ | refine Rn.skip ?_ | refine Rn.ret ?_ | refine Rn.exit ?_ | refine Rn.cond rfl ?_ | refine And.intro (InR.i64 (by omega) (by omega)) ?_ | refine And.intro (show _ ≠ (0 : Int) by omega) ?_ | refine WIx.intsN (by omega) ?_ | refine WIx.rowsN (by omega) ?_ | refine WCall.pure (cR) ?_ | refine WCall.pure (cF) ?_ | refine WCall.pure (cK) ?_ | refine WCall.pure (cN) ?_ | refine WCall.pure (cS) ?_ | refine WCall.pure (cP) ?_ | refine WCall.pure (cX) ?_ | refine WCall.pure (cY) ?_ | refine WCall.pure (AW) ?_ | with_reducible refine WB.decT (by first | with_reducible rfl | assumption | omega | exact ⟨rfl, rfl⟩) ?_ | with_reducible refine WB.decF (by first | assumption | omega) ?_ | with_reducible refine WB.ndT (by first | with_reducible rfl | assumption | omega | exact ⟨rfl, rfl⟩) ?_ | with_reducible refine WB.ndF (by first | assumption | omega) ?_ | with_reducible refine WB.nt ?_ | with_reducible refine WB.nf ?_ | with_reducible refine WB.dec (fun h => ?_) (fun h => ?_) | with_reducible refine WB.ndec (fun h => ?_) (fun h => ?_) | refine WB.mk (fun h => ?_) (fun h => ?_)) <;> conv => whnf)
        all_goals first | exact Fin.b rfl rfl | skip
    · have hP' : partB l.length f t = false := by simpa using hP
      rw [hP'] at cP
      rw [if_neg hP] at hsS
      rw [hsS, if_neg (by omega)] at cN
      by_cases hT : truR l cs wr off = []
      · rw [if_pos hT] at hsE
        rw [hsE, if_neg (by omega), if_neg (by omega)] at cK
        rw [hsE] at cS
        repeat' first | ((first | with_reducible apply WB.tt | with_reducible apply WB.ff | refine Rn.seq ?_ | refine Rn.reg ?_ | refine Rn.drw ?_ | refine Rn.blk ?_ | refine Rn.skip ?_ | refine Rn.ret ?_ | refine Rn.exit ?_ | refine Rn.cond rfl ?_ | refine And.intro (InR.i64 (by omega) (by omega)) ?_ | refine And.intro (show _ ≠ (0 : Int) by omega) ?_ | refine WIx.intsN (by omega) ?_ | refine WIx.rowsN (by omega) ?_ | refine WCall.pure (cR) ?_ | refine WCall.pure (cF) ?_ | refine WCall.pure (cK) ?_ | refine WCall.pure (cN) ?_ | refine WCall.pure (cS) ?_ | refine WCall.pure (cP) ?_ | refine WCall.pure (AW) ?_ | with_reducible refine WB.decT (by first | with_reducible rfl | assumption | omega | exact ⟨rfl, rfl⟩) ?_ | with_reducible refine WB.decF (by first | assumption | omega) ?_ | with_reducible refine WB.ndT (by first | with_reducible rfl | assumption | omega | exact ⟨rfl, rfl⟩) ?_ | with_reducible refine WB.ndF (by first | assumption | omega) ?_ | with_reducible refine WB.nt ?_ | with_reducible refine WB.nf ?_ | with_reducible refine WB.dec (fun h => ?_) (fun h => ?_) | with_reducible refine WB.ndec (fun h => ?_) (fun h => ?_) | refine WB.mk (fun h => ?_) (fun h => ?_)) <;> conv => whnf)
        all_goals first | exact Fin.b rfl rfl | skip
      · rw [if_neg hT] at hsE
        have cX := c_refLook (truR l cs wr off) l.length f2 hT (by omega) (fun x hx => (truR_mem x hx).1)
        rw [hsE, if_pos rfl, if_pos rfl] at cK
        rw [hsE] at cS
        generalize (lookS (truR l cs wr off) l.length).1 = a at *
        generalize (lookS (truR l cs wr off) l.length).2 = b at *
        repeat' first | ((first | with_reducible apply WB.tt | with_reducible apply WB.ff | refine Rn.seq ?_ | refine Rn.reg ?_ | refine Rn.drw ?_ | refine Rn.blk ?_ | refine Rn.skip ?_ | refine Rn.ret ?_ | refine Rn.exit ?_ | refine Rn.cond rfl ?_ | refine And.intro (InR.i64 (by omega) (by omega)) ?_ | refine And.intro (show _ ≠ (0 : Int) by omega) ?_ | refine WIx.intsN (by omega) ?_ | refine WIx.rowsN (by omega) ?_ | refine WCall.pure (cR) ?_ | refine WCall.pure (cF) ?_ | refine WCall.pure (cK) ?_ | refine WCall.pure (cN) ?_ | refine WCall.pure (cS) ?_ | refine WCall.pure (cP) ?_ | refine WCall.pure (cX) ?_ | refine WCall.pure (AW) ?_ | with_reducible refine WB.decT (by first | with_reducible rfl | assumption | omega | exact ⟨rfl, rfl⟩) ?_ | with_reducible refine WB.decF (by first | assumption | omega) ?_ | with_reducible refine WB.ndT (by first | with_reducible rfl | assumption | omega | exact ⟨rfl, rfl⟩) ?_ | with_reducible refine WB.ndF (by first | assumption | omega) ?_ | with_reducible refine WB.nt ?_ | with_reducible refine WB.nf ?_ | with_reducible refine WB.dec (fun h => ?_) (fun h => ?_) | with_reducible refine WB.ndec (fun h => ?_) (fun h => ?_) | refine WB.mk (fun h => ?_) (fun h => ?_)) <;> conv => whnf)
        all_goals first | exact Fin.b rfl rfl | skip
  · have hsE : sureE l cs wr off = faultR l cs wr off := by unfold sureE; rw [if_neg hF]
    have hsS : startE l cs wr off f t = faultR l cs wr off := by unfold startE; rw [if_neg hF]
    rw [hsS, if_neg hF] at cN
    rw [hsE, if_neg hF, if_neg hF] at cK
    rw [hsE] at cS
    generalize faultR l cs wr off = F at *
    repeat' first | ((first | with_reducible apply WB.tt | with_reducible apply WB.ff | refine Rn.seq ?_ | refine Rn.reg ?_ | refine Rn.drw ?_ | refine Rn.blk ?_ | refine Rn.skip ?_ | refine Rn.ret ?_ | refine Rn.exit ?_ | refine Rn.cond rfl ?_ | refine And.intro (InR.i64 (by omega) (by omega)) ?_ | refine And.intro (show _ ≠ (0 : Int) by omega) ?_ | refine WIx.intsN (by omega) ?_ | refine WIx.rowsN (by omega) ?_ | refine WCall.pure (cR) ?_ | refine WCall.pure (cF) ?_ | refine WCall.pure (cK) ?_ | refine WCall.pure (cN) ?_ | refine WCall.pure (cS) ?_ | refine WCall.pure (cP) ?_ | refine WCall.pure (AW) ?_ | with_reducible refine WB.decT (by first | with_reducible rfl | assumption | omega | exact ⟨rfl, rfl⟩) ?_ | with_reducible refine WB.decF (by first | assumption | omega) ?_ | with_reducible refine WB.ndT (by first | with_reducible rfl | assumption | omega | exact ⟨rfl, rfl⟩) ?_ | with_reducible refine WB.ndF (by first | assumption | omega) ?_ | with_reducible refine WB.nt ?_ | with_reducible refine WB.nf ?_ | with_reducible refine WB.dec (fun h => ?_) (fun h => ?_) | with_reducible refine WB.ndec (fun h => ?_) (fun h => ?_) | refine WB.mk (fun h => ?_) (fun h => ?_)) <;> conv => whnf)
    all_goals first | exact Fin.b rfl rfl | exact absurd rfl h | skip
theorem main_countLooks (AW : PureF Try.prog p20.ix [] (.b true)) {es : List D} (fit : FitP [(true, [.sl [.i .i64], .sl [.b, .i .i64, .i .i64], .i .i64, .i .i64]), (false, [.i .i64]), (false, [.i .i64])] es) : PureF Try.prog 7 es (.b true) := by
  obtain ⟨l, cs, wr, off, _, rfl, g1⟩ := fit.row
  obtain ⟨f, _, rfl, _, g2⟩ := g1.i
  obtain ⟨t, _, rfl, _, g3⟩ := g2.i
  obtain rfl := g3.no
  exact c_CountLooks l cs wr off f t AW
end Go.Ev
namespace Go.Proofs.Ytmlpgfmbhpefmaa.countLooks
open Go.ChangeShapes Go.WideShapes Go.ChangeAt Go.RowKit
open Go.ChangeMaps (open_string shut_string)
set_option linter.unusedVariables false

theorem laid : laidOutB Try.prog = true := by kernel_rfl
theorem own : ownKnob Try.prog.godebug = none := by kernel_rfl

/-! ### the walk -/
theorem walk {es : List Go.Ev.D} (fit : Go.Ev.FitP [(true, [.sl [.i .i64], .sl [.b, .i .i64, .i .i64], .i .i64, .i .i64]), (false, [.i .i64]), (false, [.i .i64])] es) {args : Array Value} {W : World} (ha : Go.Ev.DVL (Go.Ev.γH W) W es args.toList) :
    Calls Try.prog 7 args W fun e w' => e = .returned (.bool true) ∧ Grown W w' ∧ Below W.heap.size W w' :=
  Go.Ev.PureF.calls (Go.Ev.main_countLooks (fun ob nx lg => Go.Ev.awT.any ob nx lg) fit) ha

set_option maxRecDepth 100000 in
theorem lifted (os : Os) (started : os.Started) (H : Type) (enc : TypeId × Value → H) :
    ReturnsInHanded {} Try.checked os 7 .any (Rows.countLooksSpec.pre6 enc Try.prog Try.f7 Rows.countLooksRow.domain false) (Rows.countLooksSpec.post enc Try.prog Try.f7 false true false false) := by
  refine returnsInHanded_of_change (C := Try.checked) own started (by kernel_rfl) Try.func7
    (ChangeSpec.witness6 (enc := enc) (C := Try.checked) false ⟨#[], #[.agg #[.slice none 0 0, .slice none 0 0, .int .i64 0, .int .i64 0], .int .i64 0, .int .i64 0], []⟩ 8 (by kernel_rfl) (by kernel_rfl) (by kernel_rfl) (by kernel_rfl)) ?_
  intro W base args ds gs before hval0 hW hcnd _
  have hval : ∀ (j : Nat) t v, Try.f7.params[j]? = some t → args[j]? = some v → Value.okWide Try.prog W .any base t v := hval0
  have hW' := hW
  obtain ⟨p, q, hA0, hV, rfl, hfz, hnd⟩ := hW
  have hA : DataW.TrodAll enc Try.prog W 0 (fun _ => true) true Try.f7.params.toList args.toList ds p := hA0
  rw [Try.params7] at hA hval
  obtain ⟨rfl, rfl⟩ := trodVars_none hV
  obtain ⟨d0, d1, d2, rfl⟩ := Go.Ev.len3 (Go.Ev.trod_len hA)
  clear hA0 hval0
  simp only [List.append_nil] at hW'
  obtain ⟨es, fit, dv⟩ := Go.Ev.open_all (n := 6) (pars := [(true, [.sl [.i .i64], .sl [.b, .i .i64, .i .i64], .i .i64, .i .i64]), (false, [.i .i64]), (false, [.i .i64])]) (by kernel_rfl) hA (fun j t v h1 h2 => hval j t v (by simpa using h1) (by simpa using h2))
  have hlt : ∀ x ∈ p, x.block < W.heap.size := fun x hx => by simpa using hW'.lt x hx
  refine (walk fit dv).mono fun e W' ⟨he, hg, hb⟩ => ?_
  subst he
  exact ⟨_, rfl, post_of_same (pa := p) (pv := []) hW' (fun _ _ _ => (trodAll_cons_mk (shut_bool Try.underlying4 _) trodAll_mk0))
    (fun sp hs => Go.Ev.stays_all laid (Go.Ev.of_allT (by kernel_rfl)) hA (fun x hx => hb.same (hlt x hx)) (fun x hx => hs x hx))
    (fun _ _ => rfl) (List.append_nil _).symm
    (hg.frame _) hg.2.1 (ok_one (by kernel_rfl) rfl (okWide_bool_mk Try.underlying4 _))⟩

theorem over : Rows.countLooksRow.holds Try.pinned (OpenSpec.ofChange Rows.countLooksSpec) :=
  OpenClaim.holds_of_wide 7 Try.f7 rfl rfl rfl rfl rfl rfl rfl ⟨rfl, rfl, rfl, rfl, rfl⟩ rfl rfl rfl rfl rfl (by kernel_rfl) Try.func7 (by kernel_rfl)
    (of_decide_eq_true (by kernel_rfl)) (by unfold Func.isWrapper; first | (rw [if_pos (by decide +kernel)]; kernel_rfl) | (rw [if_neg (by decide +kernel)]; exact ⟨rfl, rfl⟩))
    (fun os started H enc _ => lifted os started H enc)

/-- ████ THE STATEMENT ████ -/
theorem proved : Rows.CountLooksSaid :=
  over
#print axioms proved
end Go.Proofs.Ytmlpgfmbhpefmaa.countLooks
