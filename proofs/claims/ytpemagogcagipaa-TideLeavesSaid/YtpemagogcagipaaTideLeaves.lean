/-
  TideLeaves: the law answers true for every table; the only conditions are those of the row itself.
-/
import Derived.Test.YtpemagogcagipaaRows
import Derived.WalkKit
import Derived.ProofKit
import Derived.OpenShut
import Derived.Test.YtpemagogcagipaaEvFt
import Derived.Test.YtpemagogcagipaaEvSy
import Derived.ShutString
import Derived.Test.YtpemagogcagipaaEvQG
set_option linter.all false
namespace Go.Ev
open Go.Proofs
set_option maxRecDepth 1000000
noncomputable def rc7 : RC := (.seq (.reg [(.u (.box p2 (.t p1))), (.u (.mv p3 (.k (.b false))))]) (.seq (.seq (.reg [(.u (.ldn p11 (.t p2) 5)), (.u (.cf (some p12) p20 [(.t p11)])), (.u (.un p13 .not (.t p12)))]) (.cond (.t p13) (.seq (.reg [(.u (.cf (some p14) p21 [])), (.u (.mv p3 (.t p14)))]) .ret) .skip)) (.seq (.reg [(.u (.ldn p16 (.t p2) 5)), (.u (.cf (some p17) p23 [(.t p16)])), (.u (.cf (some p18) p45 [(.t p17)])), (.u (.mv p15 (.t p18))), (.u (.ext p19 (.t p15) 0)), (.u (.ext p20 (.t p15) 1)), (.u (.mv p4 (.t p19))), (.u (.mv p5 (.t p20)))]) (.seq (.reg [(.u (.ldn p22 (.t p2) 5)), (.u (.cf (some p23) p23 [(.t p22)])), (.u (.cf (some p24) p46 [(.t p23)])), (.u (.mv p21 (.t p24))), (.u (.ext p25 (.t p21) 0)), (.u (.ext p26 (.t p21) 1)), (.u (.mv p6 (.t p25))), (.u (.mv p7 (.t p26)))]) (.seq (.seq (.reg [(.u (.ldn p27 (.t p2) 5)), (.u (.cf (some p28) p26 [(.t p27)])), (.u (.mv p8 (.t p28)))]) (.seq (.reg [(.u (.mv p29 (.t p8))), (.u (.bin p30 .neq (.t p29) (.k (.i .i64 0))))]) (.cond (.t p30) (.seq (.reg [(.u (.mv p31 (.t p5))), (.u (.mv p32 (.t p8))), (.u (.bin p33 .eql (.t p31) (.t p32))), (.u (.mv p34 (.t p33))), (.g p34 true (some p35) (.mv p35 (.t p4))), (.g p34 true (some p36) (.bin p36 .eql (.t p35) (.k (.i .i64 0)))), (.u (.pick p37 (.t p34) (.t p36) (.k (.b false)))), (.u (.mv p38 (.t p37))), (.g p38 true (some p39) (.mv p39 (.t p7))), (.g p38 true (some p40) (.mv p40 (.t p8))), (.g p38 true (some p41) (.bin p41 .eql (.t p39) (.t p40))), (.u (.pick p42 (.t p38) (.t p41) (.k (.b false)))), (.u (.mv p43 (.t p42))), (.g p43 true (some p44) (.mv p44 (.t p6))), (.g p43 true (some p45) (.len p45 (.t p44))), (.g p43 true (some p46) (.bin p46 .eql (.t p45) (.k (.i .i64 0)))), (.u (.pick p47 (.t p43) (.t p46) (.k (.b false)))), (.u (.mv p48 (.t p47))), (.g p48 true (some p49) (.cf (some p49) p21 [])), (.u (.pick p50 (.t p48) (.t p49) (.k (.b false)))), (.u (.mv p3 (.t p50)))]) .ret) .skip))) (.seq (.reg [(.u (.ldn p51 (.t p2) 5)), (.u (.cf (some p52) p47 [(.t p51)])), (.u (.mv p9 (.t p52)))]) (.seq (.seq (.reg [(.u (.mv p53 (.t p7))), (.u (.bin p54 .neq (.t p53) (.k (.i .i64 0)))), (.u (.mv p55 (.t p54))), (.g p55 false (some p56) (.mv p56 (.t p6))), (.g p55 false (some p57) (.ldn p57 (.t p2) 5)), (.g p55 false (some p58) (.mv p58 (.t p9))), (.g p55 false (some p59) (.cf (some p59) p48 [(.t p57), (.t p58)])), (.g p55 false (some p60) (.cf (some p60) p30 [(.t p56), (.t p59)])), (.g p55 false (some p61) (.un p61 .not (.t p60))), (.u (.pick p62 (.t p55) (.k (.b true)) (.t p61)))]) (.cond (.t p62) (.seq (.reg [(.u (.mv p3 (.k (.b false))))]) .ret) .skip)) (.seq (.reg [(.u (.ldn p63 (.t p2) 5)), (.u (.mv p64 (.t p9))), (.u (.cf (some p65) p49 [(.t p63), (.t p64)])), (.u (.mv p10 (.t p65)))]) (.seq (.seq (.reg [(.u (.mv p66 (.t p10))), (.u (.bin p67 .lss (.t p66) (.k (.i .i64 0))))]) (.cond (.t p67) (.seq (.reg [(.u (.mv p68 (.t p5))), (.u (.bin p69 .eql (.t p68) (.k (.i .i64 7)))), (.u (.mv p70 (.t p69))), (.g p70 true (some p71) (.mv p71 (.t p4))), (.g p70 true (some p72) (.bin p72 .eql (.t p71) (.k (.i .i64 0)))), (.u (.pick p73 (.t p70) (.t p72) (.k (.b false)))), (.u (.mv p74 (.t p73))), (.g p74 true (some p75) (.cf (some p75) p21 [])), (.u (.pick p76 (.t p74) (.t p75) (.k (.b false)))), (.u (.mv p3 (.t p76)))]) .ret) .skip)) (.seq (.reg [(.u (.mv p77 (.t p5))), (.u (.bin p78 .eql (.t p77) (.k (.i .i64 0)))), (.u (.mv p79 (.t p78))), (.g p79 true (some p80) (.mv p80 (.t p4))), (.g p79 true (some p81) (.mv p81 (.t p10))), (.g p79 true (some p82) (.bin p82 .eql (.t p80) (.t p81))), (.u (.pick p83 (.t p79) (.t p82) (.k (.b false)))), (.u (.mv p84 (.t p83))), (.g p84 true (some p85) (.cf (some p85) p21 [])), (.u (.pick p86 (.t p84) (.t p85) (.k (.b false)))), (.u (.mv p3 (.t p86)))]) .ret))))))))))
def rs7 : List RR := [(.t p3)]
theorem fn7 : FnOk Try.prog p8.ix 86 rc7 rs7 := ⟨Try.f7, bodyC Try.f7, Try.func7, by kernel_rfl, by kernel_rfl, by kernel_rfl, by kernel_rfl, by kernel_rfl⟩
end Go.Ev
namespace Go.Ev
open Go.Proofs
set_option maxRecDepth 100000
/-! ### TideLeaves -/
set_option maxHeartbeats 4000000 in
theorem c_TideLeaves (last : Int) (hs : List Rg) (step : Int) (lv : List Int) (ms : List Mk) (AW : PureF Try.prog p21.ix [] (.b true)) : PureF Try.prog p8.ix [.ag [.i .i64 last, .lst 2 (rows rgD hs), .i .i64 step, .lst 1 (ints lv), .lst 4 (rows mkD ms)]] (.b true) := by
  have iT := c_Thin last hs step lv ms
  refine PureF.run fn7 (by simp) (by simp [PuL, PuE, Pu, pu_ints, pu_rg, pu_mk]) ?_; conv => whnf
  cases hT : thinR last hs step lv ms with
  | false =>
    rw [hT] at iT
    repeat' first | ((with_reducible apply WB.tt); conv => whnf) | ((with_reducible apply WB.ff); conv => whnf) | (refine Rn.seq ?_; conv => whnf) | (refine Rn.reg ?_; conv => whnf) | (refine Rn.drw ?_; conv => whnf) | (refine Rn.blk ?_; conv => whnf) | (refine Rn.skip ?_; conv => whnf) | (refine Rn.ret ?_; conv => whnf) | (refine Rn.exit ?_; conv => whnf) | (refine Rn.cond rfl ?_; conv => whnf) | (refine And.intro (InR.i64 (by omega) (by omega)) ?_; conv => whnf) | (refine And.intro (show _ ≠ (0 : Int) by omega) ?_; conv => whnf) | (refine WIx.intsN (by omega) ?_; conv => whnf) | (refine WIx.rowsN (by omega) ?_; conv => whnf) | (refine WCall.pure (iT) ?_; conv => whnf)
    refine WB.tt ?_; conv => whnf
    repeat' first | ((with_reducible apply WB.tt); conv => whnf) | ((with_reducible apply WB.ff); conv => whnf) | (refine Rn.seq ?_; conv => whnf) | (refine Rn.reg ?_; conv => whnf) | (refine Rn.drw ?_; conv => whnf) | (refine Rn.blk ?_; conv => whnf) | (refine Rn.skip ?_; conv => whnf) | (refine Rn.ret ?_; conv => whnf) | (refine Rn.exit ?_; conv => whnf) | (refine Rn.cond rfl ?_; conv => whnf) | (refine And.intro (InR.i64 (by omega) (by omega)) ?_; conv => whnf) | (refine And.intro (show _ ≠ (0 : Int) by omega) ?_; conv => whnf) | (refine WIx.intsN (by omega) ?_; conv => whnf) | (refine WIx.rowsN (by omega) ?_; conv => whnf) | (refine WCall.pure (AW) ?_; conv => whnf)
    exact Fin.b rfl rfl
  | true =>
    rw [hT] at iT
    have hT' := hT
    unfold thinR at hT'
    rw [Bool.and_eq_true, decide_eq_true_iff] at hT'
    obtain ⟨hsz, _⟩ := hT'
    have iTb := c_Table last hs step lv ms (by omega) (by omega) (by omega)
    have iFs := c_First last hs step lv ms
    have iLv := c_Leave last hs step lv ms
    have iF := c_fault last hs step lv ms
    repeat' first | ((with_reducible apply WB.tt); conv => whnf) | ((with_reducible apply WB.ff); conv => whnf) | (refine Rn.seq ?_; conv => whnf) | (refine Rn.reg ?_; conv => whnf) | (refine Rn.drw ?_; conv => whnf) | (refine Rn.blk ?_; conv => whnf) | (refine Rn.skip ?_; conv => whnf) | (refine Rn.ret ?_; conv => whnf) | (refine Rn.exit ?_; conv => whnf) | (refine Rn.cond rfl ?_; conv => whnf) | (refine And.intro (InR.i64 (by omega) (by omega)) ?_; conv => whnf) | (refine And.intro (show _ ≠ (0 : Int) by omega) ?_; conv => whnf) | (refine WIx.intsN (by omega) ?_; conv => whnf) | (refine WIx.rowsN (by omega) ?_; conv => whnf) | (refine WCall.pure (iT) ?_; conv => whnf)
    refine WB.ff ?_; conv => whnf
    by_cases hf : faultR last hs step lv ms = 0
    · obtain ⟨V, hm, hA⟩ := fault_zero hf
      have h5 := V.ms5
      have h10 := V.h10
      have iAl := c_All last hs step lv ms V.hv V.h10 V.ms5 (fun m hm => by have := V.vt m hm; omega) (fun t ht => listed_lenZ ((mem_listsR V.hv hm).1 ht))
      have hAl : (allR hs step ms).length ≤ 3000 := by unfold allR; rw [List.length_map]; exact lists_len V.hv step
      have iLR := c_LeaveRef last hs step lv ms (allR hs step ms) h5 hAl (allR_lt h5)
      have iFR := c_FirstRef last hs step lv ms (allR hs step ms) h5 hAl (allR_lt h5)
      have hb : (levS hs step ms).length ≤ 1000 := by unfold levS; have := levJ_len (allR hs step ms) ms.length (2 ^ ms.length); unfold levR; omega
      have iSa := c_sameD (levS hs step ms) (levR (allR hs step ms) ms.length) hb
      rw [show decide (levS hs step ms = levR (allR hs step ms) ms.length) = true from decide_eq_true rfl] at iSa
      rw [if_pos hf, hf] at iLv
      rw [hf] at iF
      unfold firN at iFR
      rw [fir_find V hm] at iFR
      unfold firstR2 at iFs
      rw [if_pos hf] at iFs
      generalize setD (levS hs step ms) = sd at *
      cases hF : (List.range ms.length).find? (wrongB hs step ms) with
      | none =>
        rw [hF] at iFR iFs
        have iFs : PureF Try.prog p45.ix [.ag [.i .i64 last, .lst 2 (rows rgD hs), .i .i64 step, .lst 1 (ints lv), .lst 4 (rows mkD ms)]] (.tp [.i .i64 0, .i .i64 7]) := iFs
        have iFR : PureF Try.prog p49.ix [.ag [.i .i64 last, .lst 2 (rows rgD hs), .i .i64 step, .lst 1 (ints lv), .lst 4 (rows mkD ms)], .lst 1 (ints (natI (allR hs step ms)))] (.i .i64 (-1)) := iFR
        repeat' first | ((with_reducible apply WB.tt); conv => whnf) | ((with_reducible apply WB.ff); conv => whnf) | (refine Rn.seq ?_; conv => whnf) | (refine Rn.reg ?_; conv => whnf) | (refine Rn.drw ?_; conv => whnf) | (refine Rn.blk ?_; conv => whnf) | (refine Rn.skip ?_; conv => whnf) | (refine Rn.ret ?_; conv => whnf) | (refine Rn.exit ?_; conv => whnf) | (refine Rn.cond rfl ?_; conv => whnf) | (refine And.intro (InR.i64 (by omega) (by omega)) ?_; conv => whnf) | (refine And.intro (show _ ≠ (0 : Int) by omega) ?_; conv => whnf) | (refine WIx.intsN (by omega) ?_; conv => whnf) | (refine WIx.rowsN (by omega) ?_; conv => whnf) | (refine WCall.pure (iTb) ?_; conv => whnf) | (refine WCall.pure (iFs) ?_; conv => whnf) | (refine WCall.pure (iLv) ?_; conv => whnf) | (refine WCall.pure (iF) ?_; conv => whnf) | (refine WCall.pure (iAl) ?_; conv => whnf) | (refine WCall.pure (iLR) ?_; conv => whnf) | (refine WCall.pure (iSa) ?_; conv => whnf) | (refine WCall.pure (iFR) ?_; conv => whnf) | (refine WCall.pure (AW) ?_; conv => whnf) | ((with_reducible refine WB.decT (by first | with_reducible rfl | assumption | omega | exact ⟨rfl, rfl⟩) ?_); conv => whnf) | ((with_reducible refine WB.decF (by first | assumption | omega) ?_); conv => whnf) | ((with_reducible refine WB.ndT (by first | with_reducible rfl | assumption | omega | exact ⟨rfl, rfl⟩) ?_); conv => whnf) | ((with_reducible refine WB.ndF (by first | assumption | omega) ?_); conv => whnf) | ((with_reducible refine WB.nt ?_); conv => whnf) | ((with_reducible refine WB.nf ?_); conv => whnf) | ((with_reducible refine WB.dec (fun h => ?_) (fun h => ?_)) <;> conv => whnf) | ((with_reducible refine WB.ndec (fun h => ?_) (fun h => ?_)) <;> conv => whnf) | (refine WB.mk (fun h => ?_) (fun h => ?_) <;> conv => whnf) | (refine WB.tt ?_; conv => whnf) | (refine WB.ff ?_; conv => whnf)
        all_goals first | exact Fin.b rfl rfl | (exfalso; omega) | exact absurd h (by decide)
      | some n =>
        rw [hF] at iFR iFs
        have iFs : PureF Try.prog p45.ix [.ag [.i .i64 last, .lst 2 (rows rgD hs), .i .i64 step, .lst 1 (ints lv), .lst 4 (rows mkD ms)]] (.tp [.i .i64 (n : Int), .i .i64 0]) := iFs
        have iFR : PureF Try.prog p49.ix [.ag [.i .i64 last, .lst 2 (rows rgD hs), .i .i64 step, .lst 1 (ints lv), .lst 4 (rows mkD ms)], .lst 1 (ints (natI (allR hs step ms)))] (.i .i64 (n : Int)) := iFR
        repeat' first | ((with_reducible apply WB.tt); conv => whnf) | ((with_reducible apply WB.ff); conv => whnf) | (refine Rn.seq ?_; conv => whnf) | (refine Rn.reg ?_; conv => whnf) | (refine Rn.drw ?_; conv => whnf) | (refine Rn.blk ?_; conv => whnf) | (refine Rn.skip ?_; conv => whnf) | (refine Rn.ret ?_; conv => whnf) | (refine Rn.exit ?_; conv => whnf) | (refine Rn.cond rfl ?_; conv => whnf) | (refine And.intro (InR.i64 (by omega) (by omega)) ?_; conv => whnf) | (refine And.intro (show _ ≠ (0 : Int) by omega) ?_; conv => whnf) | (refine WIx.intsN (by omega) ?_; conv => whnf) | (refine WIx.rowsN (by omega) ?_; conv => whnf) | (refine WCall.pure (iTb) ?_; conv => whnf) | (refine WCall.pure (iFs) ?_; conv => whnf) | (refine WCall.pure (iLv) ?_; conv => whnf) | (refine WCall.pure (iF) ?_; conv => whnf) | (refine WCall.pure (iAl) ?_; conv => whnf) | (refine WCall.pure (iLR) ?_; conv => whnf) | (refine WCall.pure (iSa) ?_; conv => whnf) | (refine WCall.pure (iFR) ?_; conv => whnf) | (refine WCall.pure (AW) ?_; conv => whnf) | ((with_reducible refine WB.decT (by first | with_reducible rfl | assumption | omega | exact ⟨rfl, rfl⟩) ?_); conv => whnf) | ((with_reducible refine WB.decF (by first | assumption | omega) ?_); conv => whnf) | ((with_reducible refine WB.ndT (by first | with_reducible rfl | assumption | omega | exact ⟨rfl, rfl⟩) ?_); conv => whnf) | ((with_reducible refine WB.ndF (by first | assumption | omega) ?_); conv => whnf) | ((with_reducible refine WB.nt ?_); conv => whnf) | ((with_reducible refine WB.nf ?_); conv => whnf) | ((with_reducible refine WB.dec (fun h => ?_) (fun h => ?_)) <;> conv => whnf) | ((with_reducible refine WB.ndec (fun h => ?_) (fun h => ?_)) <;> conv => whnf) | (refine WB.mk (fun h => ?_) (fun h => ?_) <;> conv => whnf) | (refine WB.tt ?_; conv => whnf) | (refine WB.ff ?_; conv => whnf)
        all_goals first | exact Fin.b rfl rfl | (exfalso; omega) | exact absurd h (by decide)
    · rw [if_neg hf] at iLv
      unfold firstR2 at iFs
      rw [if_neg hf] at iFs
      have iFs : PureF Try.prog p45.ix [.ag [.i .i64 last, .lst 2 (rows rgD hs), .i .i64 step, .lst 1 (ints lv), .lst 4 (rows mkD ms)]] (.tp [.i .i64 0, .i .i64 (faultR last hs step lv ms)]) := iFs
      generalize faultR last hs step lv ms = e at *
      repeat' first | ((with_reducible apply WB.tt); conv => whnf) | ((with_reducible apply WB.ff); conv => whnf) | (refine Rn.seq ?_; conv => whnf) | (refine Rn.reg ?_; conv => whnf) | (refine Rn.drw ?_; conv => whnf) | (refine Rn.blk ?_; conv => whnf) | (refine Rn.skip ?_; conv => whnf) | (refine Rn.ret ?_; conv => whnf) | (refine Rn.exit ?_; conv => whnf) | (refine Rn.cond rfl ?_; conv => whnf) | (refine And.intro (InR.i64 (by omega) (by omega)) ?_; conv => whnf) | (refine And.intro (show _ ≠ (0 : Int) by omega) ?_; conv => whnf) | (refine WIx.intsN (by omega) ?_; conv => whnf) | (refine WIx.rowsN (by omega) ?_; conv => whnf) | (refine WCall.pure (iTb) ?_; conv => whnf) | (refine WCall.pure (iFs) ?_; conv => whnf) | (refine WCall.pure (iLv) ?_; conv => whnf) | (refine WCall.pure (iF) ?_; conv => whnf) | (refine WCall.pure (AW) ?_; conv => whnf) | ((with_reducible refine WB.decT (by first | with_reducible rfl | assumption | omega | exact ⟨rfl, rfl⟩) ?_); conv => whnf) | ((with_reducible refine WB.decF (by first | assumption | omega) ?_); conv => whnf) | ((with_reducible refine WB.ndT (by first | with_reducible rfl | assumption | omega | exact ⟨rfl, rfl⟩) ?_); conv => whnf) | ((with_reducible refine WB.ndF (by first | assumption | omega) ?_); conv => whnf) | ((with_reducible refine WB.nt ?_); conv => whnf) | ((with_reducible refine WB.nf ?_); conv => whnf) | ((with_reducible refine WB.dec (fun h => ?_) (fun h => ?_)) <;> conv => whnf) | ((with_reducible refine WB.ndec (fun h => ?_) (fun h => ?_)) <;> conv => whnf) | (refine WB.mk (fun h => ?_) (fun h => ?_) <;> conv => whnf) | (refine WB.tt ?_; conv => whnf) | (refine WB.ff ?_; conv => whnf)
      all_goals first | exact Fin.b rfl rfl | (exfalso; omega) | exact absurd h (by decide)
theorem main_tideLeaves (AW : PureF Try.prog p21.ix [] (.b true)) {es : List D} (fit : FitP [(true, [.i .i64, .sl [.i .i64, .i .i64], .i .i64, .sl [.i .i64], .sl [.i .i64, .i .i64, .i .i64, .i .i64]])] es) : PureF Try.prog 7 es (.b true) := by
  obtain ⟨last, hs, step, lv, ms, _, rfl, g1⟩ := fit.tab
  obtain rfl := g1.no
  exact c_TideLeaves last hs step lv ms AW
end Go.Ev

namespace Go.Proofs.Ytpemagogcagipaa.tideLeaves
open Go.ChangeShapes Go.WideShapes Go.ChangeAt Go.RowKit
open Go.ChangeMaps (open_string shut_string)
set_option linter.unusedVariables false

theorem laid : laidOutB Try.prog = true := by kernel_rfl
theorem own : ownKnob Try.prog.godebug = none := by kernel_rfl

/-! ### the walk -/
theorem walk {es : List Go.Ev.D} (fit : Go.Ev.FitP [(true, [.i .i64, .sl [.i .i64, .i .i64], .i .i64, .sl [.i .i64], .sl [.i .i64, .i .i64, .i .i64, .i .i64]])] es) {args : Array Value} {W : World} (ha : Go.Ev.DVL (Go.Ev.γH W) W es args.toList) :
    Calls Try.prog 7 args W fun e w' => e = .returned (.bool true) ∧ Grown W w' ∧ Below W.heap.size W w' :=
  Go.Ev.PureF.calls (Go.Ev.main_tideLeaves (fun ob nx lg => Go.Ev.closed_call Go.Ev.fp_ok Go.Ev.aw ob nx lg) fit) ha

set_option maxRecDepth 100000 in
theorem lifted (os : Os) (started : os.Started) (H : Type) (enc : TypeId × Value → H) :
    ReturnsInHanded {} Try.checked os 7 .any (Rows.tideLeavesSpec.pre6 enc Try.prog Try.f7 Rows.tideLeavesRow.domain false) (Rows.tideLeavesSpec.post enc Try.prog Try.f7 false true false false) := by
  refine returnsInHanded_of_change (C := Try.checked) own started (by kernel_rfl) Try.func7
    (ChangeSpec.witness6 (enc := enc) (C := Try.checked) false ⟨#[], #[.agg #[.int .i64 0, .slice none 0 0, .int .i64 0, .slice none 0 0, .slice none 0 0]], []⟩ 8 (by kernel_rfl) (by kernel_rfl) (by kernel_rfl) (by kernel_rfl)) ?_
  intro W base args ds gs before hval0 hW hcnd _
  have hval : ∀ (j : Nat) t v, Try.f7.params[j]? = some t → args[j]? = some v → Value.okWide Try.prog W .any base t v := hval0
  have hW' := hW
  obtain ⟨p, q, hA0, hV, rfl, hfz, hnd⟩ := hW
  have hA : DataW.TrodAll enc Try.prog W 0 (fun _ => true) true Try.f7.params.toList args.toList ds p := hA0
  rw [Try.params7] at hA hval
  obtain ⟨rfl, rfl⟩ := trodVars_none hV
  obtain ⟨d0, rfl⟩ := Go.Ev.len1 (Go.Ev.trod_len hA)
  clear hA0 hval0
  simp only [List.append_nil] at hW'
  obtain ⟨es, fit, dv⟩ := Go.Ev.open_all (n := 6) (pars := [(true, [.i .i64, .sl [.i .i64, .i .i64], .i .i64, .sl [.i .i64], .sl [.i .i64, .i .i64, .i .i64, .i .i64]])]) (by kernel_rfl) hA (fun j t v h1 h2 => hval j t v (by simpa using h1) (by simpa using h2))
  have hlt : ∀ x ∈ p, x.block < W.heap.size := fun x hx => by simpa using hW'.lt x hx
  refine (walk fit dv).mono fun e W' ⟨he, hg, hb⟩ => ?_
  subst he
  exact ⟨_, rfl, post_of_same (pa := p) (pv := []) hW' (fun _ _ _ => (trodAll_cons_mk (shut_bool Try.underlying4 _) trodAll_mk0))
    (fun sp hs => Go.Ev.stays_all laid (Go.Ev.of_allT (by kernel_rfl)) hA (fun x hx => hb.same (hlt x hx)) (fun x hx => hs x hx))
    (fun _ _ => rfl) (List.append_nil _).symm
    (hg.frame _) hg.2.1 (ok_one (by kernel_rfl) rfl (okWide_bool_mk Try.underlying4 _))⟩

theorem over : Rows.tideLeavesRow.holds Try.pinned (OpenSpec.ofChange Rows.tideLeavesSpec) :=
  OpenClaim.holds_of_wide 7 Try.f7 rfl rfl rfl rfl rfl rfl rfl ⟨rfl, rfl, rfl, rfl, rfl⟩ rfl rfl rfl rfl rfl (by kernel_rfl) Try.func7 (by kernel_rfl)
    (of_decide_eq_true (by kernel_rfl)) (by unfold Func.isWrapper; first | (rw [if_pos (by decide +kernel)]; kernel_rfl) | (rw [if_neg (by decide +kernel)]; exact ⟨rfl, rfl⟩))
    (fun os started H enc _ => lifted os started H enc)

/-- ████ THE STATEMENT ████ -/
theorem proved : Rows.TideLeavesSaid :=
  over
#print axioms proved
end Go.Proofs.Ytpemagogcagipaa.tideLeaves
