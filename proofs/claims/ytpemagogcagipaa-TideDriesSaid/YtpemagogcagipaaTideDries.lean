/-
  TideDries: the law answers true for every table, every two hours and every level; the only conditions are those of the row itself.
-/
import Derived.Test.YtpemagogcagipaaRows
import Derived.WalkKit
import Derived.ProofKit
import Derived.OpenShut
import Derived.Test.YtpemagogcagipaaEvFt
import Derived.Test.YtpemagogcagipaaEvSy
import Derived.ShutString
import Derived.Test.YtpemagogcagipaaEvML
import Derived.Test.YtpemagogcagipaaEvMH
set_option linter.all false
namespace Go.Ev
open Go.Proofs
set_option maxRecDepth 1000000
noncomputable def rc6 : RC := (.seq (.reg [(.u (.box p5 (.t p1))), (.u (.mv p9 (.k (.b false))))]) (.seq (.seq (.reg [(.u (.ldn p15 (.t p5) 5)), (.u (.cf (some p16) p20 [(.t p15)])), (.u (.un p17 .not (.t p16)))]) (.cond (.t p17) (.seq (.reg [(.u (.cf (some p18) p21 [])), (.u (.mv p9 (.t p18)))]) .ret) .skip)) (.seq (.reg [(.u (.ldn p20 (.t p5) 5)), (.u (.cf (some p21) p23 [(.t p20)])), (.u (.mv p22 (.t p2))), (.u (.mv p23 (.t p3))), (.u (.cf (some p24) p41 [(.t p21), (.t p22), (.t p23)])), (.u (.mv p19 (.t p24))), (.u (.ext p25 (.t p19) 0)), (.u (.ext p26 (.t p19) 1)), (.u (.mv p10 (.t p25))), (.u (.mv p11 (.t p26)))]) (.seq (.reg [(.u (.ldn p27 (.t p5) 5)), (.u (.cf (some p28) p23 [(.t p27)])), (.u (.mv p29 (.t p2))), (.u (.mv p30 (.t p3))), (.u (.mv p31 (.t p4))), (.u (.cf (some p32) p42 [(.t p28), (.t p29), (.t p30), (.t p31)])), (.u (.mv p12 (.t p32)))]) (.seq (.reg [(.u (.ldn p34 (.t p5) 5)), (.u (.cf (some p35) p34 [(.t p34)])), (.u (.mv p33 (.t p35))), (.u (.ext p36 (.t p33) 0)), (.u (.ext p37 (.t p33) 1)), (.u (.mv p13 (.t p36))), (.u (.mv p14 (.t p37)))]) (.seq (.seq (.reg [(.u (.ldn p38 (.t p5) 5)), (.u (.cf (some p39) p26 [(.t p38)])), (.u (.bin p40 .eql (.t p39) (.k (.i .i64 0)))), (.u (.mv p41 (.t p40))), (.g p41 true (some p42) (.mv p42 (.t p2))), (.g p41 true (some p43) (.fad p43 (.t p5) 0)), (.g p41 true (some p44) (.ld1 p44 (.t p43))), (.g p41 true (some p45) (.cf (some p45) p35 [(.t p42), (.k (.i .i64 0)), (.t p44)])), (.g p41 true (some p46) (.un p46 .not (.t p45))), (.g p41 true (some p47) (.mv p47 (.t p46))), (.g p47 false (some p48) (.mv p48 (.t p3))), (.g p47 false (some p49) (.fad p49 (.t p5) 0)), (.g p47 false (some p50) (.ld1 p50 (.t p49))), (.g p47 false (some p51) (.cf (some p51) p35 [(.t p48), (.k (.i .i64 0)), (.t p50)])), (.g p47 false (some p52) (.un p52 .not (.t p51))), (.g p41 true (some p53) (.pick p53 (.t p47) (.k (.b true)) (.t p52))), (.g p41 true (some p54) (.mv p54 (.t p53))), (.g p54 false (some p55) (.mv p55 (.t p2))), (.g p54 false (some p56) (.mv p56 (.t p3))), (.g p54 false (some p57) (.bin p57 .gtr (.t p55) (.t p56))), (.g p41 true (some p58) (.pick p58 (.t p54) (.k (.b true)) (.t p57))), (.u (.pick p59 (.t p41) (.t p58) (.k (.b false))))]) (.cond (.t p59) (.reg [(.u (.mv p14 (.k (.i .i64 2))))]) .skip)) (.seq (.seq (.reg [(.u (.mv p60 (.t p14))), (.u (.bin p61 .neq (.t p60) (.k (.i .i64 0))))]) (.cond (.t p61) (.seq (.reg [(.u (.mv p62 (.t p11))), (.u (.mv p63 (.t p14))), (.u (.bin p64 .eql (.t p62) (.t p63))), (.u (.mv p65 (.t p64))), (.g p65 true (some p66) (.mv p66 (.t p10))), (.g p65 true (some p67) (.bin p67 .eql (.t p66) (.k (.i .i64 0)))), (.u (.pick p68 (.t p65) (.t p67) (.k (.b false)))), (.u (.mv p69 (.t p68))), (.g p69 true (some p70) (.mv p70 (.t p12))), (.g p69 true (some p71) (.un p71 .not (.t p70))), (.u (.pick p72 (.t p69) (.t p71) (.k (.b false)))), (.u (.mv p73 (.t p72))), (.g p73 true (some p74) (.cf (some p74) p21 [])), (.u (.pick p75 (.t p73) (.t p74) (.k (.b false)))), (.u (.mv p9 (.t p75)))]) .ret) .skip)) (.seq (.reg [(.u (.mv p76 (.t p11))), (.u (.bin p77 .eql (.t p76) (.k (.i .i64 0)))), (.u (.mv p78 (.t p77))), (.g p78 true (some p79) (.mv p79 (.t p10))), (.g p78 true (some p80) (.mv p80 (.t p13))), (.g p78 true (some p81) (.mv p81 (.t p2))), (.g p78 true (some p82) (.mv p82 (.t p3))), (.g p78 true (some p83) (.cf (some p83) p43 [(.t p80), (.t p81), (.t p82)])), (.g p78 true (some p84) (.bin p84 .eql (.t p79) (.t p83))), (.u (.pick p85 (.t p78) (.t p84) (.k (.b false)))), (.u (.mv p86 (.t p85))), (.g p86 true (some p87) (.mv p87 (.t p12))), (.g p86 true (some p88) (.mv p88 (.t p13))), (.g p86 true (some p89) (.mv p89 (.t p2))), (.g p86 true (some p90) (.mv p90 (.t p3))), (.g p86 true (some p91) (.mv p91 (.t p4))), (.g p86 true (some p92) (.cf (some p92) p44 [(.t p88), (.t p89), (.t p90), (.t p91)])), (.g p86 true (some p93) (.eq p93 false 0 (.t p87) (.t p92))), (.u (.pick p94 (.t p86) (.t p93) (.k (.b false)))), (.u (.mv p95 (.t p94))), (.g p95 true (some p96) (.cf (some p96) p21 [])), (.u (.pick p97 (.t p95) (.t p96) (.k (.b false)))), (.u (.mv p9 (.t p97)))]) .ret))))))))
def rs6 : List RR := [(.t p9)]
theorem fn6 : FnOk Try.prog p7.ix 97 rc6 rs6 := ⟨Try.f6, bodyC Try.f6, Try.func6, by kernel_rfl, by kernel_rfl, by kernel_rfl, by kernel_rfl, by kernel_rfl⟩
end Go.Ev
namespace Go.Ev
open Go.Proofs
set_option maxRecDepth 100000
/-! ### TideDries -/
set_option maxHeartbeats 4000000 in
theorem c_TideDries (last : Int) (hs : List Rg) (step : Int) (lv : List Int) (ms : List Mk) (from' till level : Int) (AW : PureF Try.prog p21.ix [] (.b true)) : PureF Try.prog p7.ix [.ag [.i .i64 last, .lst 2 (rows rgD hs), .i .i64 step, .lst 1 (ints lv), .lst 4 (rows mkD ms)], .i .i64 from', .i .i64 till, .i .i64 level] (.b true) := by
  have iT := c_Thin last hs step lv ms
  refine PureF.run fn6 (by simp) (by simp [PuL, PuE, Pu, pu_ints, pu_rg, pu_mk]) ?_; conv => whnf
  cases hT : thinR last hs step lv ms with
  | false =>
    rw [hT] at iT
    repeat' first | ((with_reducible apply WB.tt); conv => whnf) | ((with_reducible apply WB.ff); conv => whnf) | (refine Rn.seq ?_; conv => whnf) | (refine Rn.reg ?_; conv => whnf) | (refine Rn.drw ?_; conv => whnf) | (refine Rn.blk ?_; conv => whnf) | (refine Rn.skip ?_; conv => whnf) | (refine Rn.ret ?_; conv => whnf) | (refine Rn.exit ?_; conv => whnf) | (refine Rn.cond rfl ?_; conv => whnf) | (refine And.intro (InR.i64 (by omega) (by omega)) ?_; conv => whnf) | (refine And.intro (show _ ≠ (0 : Int) by omega) ?_; conv => whnf) | (refine WIx.intsN (by omega) ?_; conv => whnf) | (refine WIx.rowsN (by omega) ?_; conv => whnf) | (refine WCall.pure (iT) ?_; conv => whnf)
    refine WB.tt ?_; conv => whnf
    repeat' first | ((with_reducible apply WB.tt); conv => whnf) | ((with_reducible apply WB.ff); conv => whnf) | (refine Rn.seq ?_; conv => whnf) | (refine Rn.reg ?_; conv => whnf) | (refine Rn.drw ?_; conv => whnf) | (refine Rn.blk ?_; conv => whnf) | (refine Rn.skip ?_; conv => whnf) | (refine Rn.ret ?_; conv => whnf) | (refine Rn.exit ?_; conv => whnf) | (refine Rn.cond rfl ?_; conv => whnf) | (refine And.intro (InR.i64 (by omega) (by omega)) ?_; conv => whnf) | (refine And.intro (show _ ≠ (0 : Int) by omega) ?_; conv => whnf) | (refine WIx.intsN (by omega) ?_; conv => whnf) | (refine WIx.rowsN (by omega) ?_; conv => whnf) | (refine WCall.pure (AW) ?_; conv => whnf)
    exact Fin.b rfl rfl
  | true =>
    rw [hT] at iT
    have hT' := hT
    unfold thinR at hT'
    rw [Bool.and_eq_true, decide_eq_true_iff] at hT'
    obtain ⟨hsz, _⟩ := hT'
    have iTb := c_Table last hs step lv ms (by omega) (by omega) (by omega)
    have hTl : faultR last hs step lv ms = 0 → (truthS hs step ms).length ≤ 1000 := fun hf => Nat.le_trans (thin_few hT hf) (by omega)
    have iD := c_Dry last hs step lv ms from' till hTl
    have iP := c_ProveDry last hs step lv ms from' till level hTl
    have iS := c_sure last hs step lv ms
    have iF := c_fault last hs step lv ms
    have iI := c_In from' 0 last
    have iJ := c_In till 0 last
    have hW := want_start last hs step lv ms (spanB last from' till)
    have hE0 : dryE last hs step lv ms from' till = startE last hs step lv ms (spanB last from' till) := rfl
    repeat' first | ((with_reducible apply WB.tt); conv => whnf) | ((with_reducible apply WB.ff); conv => whnf) | (refine Rn.seq ?_; conv => whnf) | (refine Rn.reg ?_; conv => whnf) | (refine Rn.drw ?_; conv => whnf) | (refine Rn.blk ?_; conv => whnf) | (refine Rn.skip ?_; conv => whnf) | (refine Rn.ret ?_; conv => whnf) | (refine Rn.exit ?_; conv => whnf) | (refine Rn.cond rfl ?_; conv => whnf) | (refine And.intro (InR.i64 (by omega) (by omega)) ?_; conv => whnf) | (refine And.intro (show _ ≠ (0 : Int) by omega) ?_; conv => whnf) | (refine WIx.intsN (by omega) ?_; conv => whnf) | (refine WIx.rowsN (by omega) ?_; conv => whnf) | (refine WCall.pure (iT) ?_; conv => whnf)
    refine WB.ff ?_; conv => whnf
    by_cases hE : dryE last hs step lv ms from' till = 0
    · have hE' := hE
      rw [hE0] at hE'
      obtain ⟨hf, hb, hp⟩ := start_zero hE'
      obtain ⟨V, hm, _⟩ := fault_zero hf
      have hb' := hb
      unfold spanB at hb'
      rw [Bool.and_eq_true] at hb'
      have b1 := inB_iff.1 hb'.1
      have b2 := inB_iff.1 hb'.2
      have hsE : sureE last hs step lv ms = 0 := by
        rw [hE', hb] at hW
        unfold wantE at hW
        rw [if_neg (by simp)] at hW
        exact hW
      have hsL : sureL last hs step lv ms = truthsR hs step ms := by unfold sureL; rw [if_pos hsE]
      have hi1 : inB from' 0 last = true := inB_iff.2 (by omega)
      rw [hi1] at iI
      rw [hb'.2] at iJ
      obtain ⟨f, rfl⟩ := Int.eq_ofNat_of_zero_le b1.1
      obtain ⟨u, rfl⟩ := Int.eq_ofNat_of_zero_le b2.1
      have hu : u < hs.length := by have := V.n; omega
      have hfu : f ≤ u := by omega
      have hR : dryR last hs step lv ms ((f : Nat) : Int) ((u : Nat) : Int) = dryT (truthS hs step ms) f (u + 1 - f) := by
        unfold dryR
        rw [if_pos hE]
        congr 1
        omega
      have hS := dry_same V hm hp hfu hu
      have hI := dry_iff V hm hp hfu hu level
      have hlen : ∀ t ∈ truthsR hs step ms, f < t.length ∧ ((u : Nat) : Int) < t.length ∧ t.length ≤ 1000 := fun t ht => by
        have := ((mem_truthsR V hm).1 ht).1
        have := V.h10
        omega
      have hTl : (truthsR hs step ms).length ≤ 3000 := Nat.le_trans (List.length_filter_le _ _) (lists_len V.hv step)
      have iDr := c_DryRef (truthsR hs step ms) f (u : Int) hTl hlen
      have iID := c_IsDry (truthsR hs step ms) f (u : Int) level hTl hlen
      have hB : decide (dryT (truthS hs step ms) f (u + 1 - f) ≤ level) = dryB (truthsR hs step ms) f (u : Int) level := by
        rw [Bool.eq_iff_iff, decide_eq_true_iff]
        exact hI
      rw [hR, hE] at iD iP
      rw [hB] at iP
      rw [hS] at iD
      rw [hsL, hsE] at iS
      rw [hf] at iF
      have iP : PureF Try.prog p42.ix [.ag [.i .i64 last, .lst 2 (rows rgD hs), .i .i64 step, .lst 1 (ints lv), .lst 4 (rows mkD ms)], .i .i64 (f : Int), .i .i64 (u : Int), .i .i64 level] (.b (dryB (truthsR hs step ms) f (u : Int) level)) := iP
      generalize dryN (truthsR hs step ms) f (u : Int) = N at *
      generalize dryB (truthsR hs step ms) f (u : Int) level = B at *
      cases B
      all_goals
        repeat' first | ((with_reducible apply WB.tt); conv => whnf) | ((with_reducible apply WB.ff); conv => whnf) | (refine Rn.seq ?_; conv => whnf) | (refine Rn.reg ?_; conv => whnf) | (refine Rn.drw ?_; conv => whnf) | (refine Rn.blk ?_; conv => whnf) | (refine Rn.skip ?_; conv => whnf) | (refine Rn.ret ?_; conv => whnf) | (refine Rn.exit ?_; conv => whnf) | (refine Rn.cond rfl ?_; conv => whnf) | (refine And.intro (InR.i64 (by omega) (by omega)) ?_; conv => whnf) | (refine And.intro (show _ ≠ (0 : Int) by omega) ?_; conv => whnf) | (refine WIx.intsN (by omega) ?_; conv => whnf) | (refine WIx.rowsN (by omega) ?_; conv => whnf) | (refine WCall.pure (iTb) ?_; conv => whnf) | (refine WCall.pure (iD) ?_; conv => whnf) | (refine WCall.pure (iP) ?_; conv => whnf) | (refine WCall.pure (iS) ?_; conv => whnf) | (refine WCall.pure (iF) ?_; conv => whnf) | (refine WCall.pure (iI) ?_; conv => whnf) | (refine WCall.pure (iJ) ?_; conv => whnf) | (refine WCall.pure (iDr) ?_; conv => whnf) | (refine WCall.pure (iID) ?_; conv => whnf) | (refine WCall.pure (AW) ?_; conv => whnf) | ((with_reducible refine WB.decT (by first | with_reducible rfl | assumption | omega | exact ⟨rfl, rfl⟩) ?_); conv => whnf) | ((with_reducible refine WB.decF (by first | assumption | omega) ?_); conv => whnf) | ((with_reducible refine WB.ndT (by first | with_reducible rfl | assumption | omega | exact ⟨rfl, rfl⟩) ?_); conv => whnf) | ((with_reducible refine WB.ndF (by first | assumption | omega) ?_); conv => whnf) | ((with_reducible refine WB.nt ?_); conv => whnf) | ((with_reducible refine WB.nf ?_); conv => whnf) | ((with_reducible refine WB.dec (fun h => ?_) (fun h => ?_)) <;> conv => whnf) | ((with_reducible refine WB.ndec (fun h => ?_) (fun h => ?_)) <;> conv => whnf) | (refine WB.mk (fun h => ?_) (fun h => ?_) <;> conv => whnf) | (refine WB.tt ?_; conv => whnf) | (refine WB.ff ?_; conv => whnf)
        all_goals first | exact Fin.b rfl rfl | (exfalso; omega) | exact absurd h (by decide)
    · have hR : dryR last hs step lv ms from' till = 0 := by unfold dryR; rw [if_neg hE]
      rw [hR, decide_eq_false hE] at iP
      rw [hR] at iD
      have iP : PureF Try.prog p42.ix [.ag [.i .i64 last, .lst 2 (rows rgD hs), .i .i64 step, .lst 1 (ints lv), .lst 4 (rows mkD ms)], .i .i64 from', .i .i64 till, .i .i64 level] (.b false) := iP
      rw [hE0] at hE iD
      clear hE0 hR
      have hSp : spanB last from' till = (inB from' 0 till && inB till 0 last) := rfl
      by_cases hf : faultR last hs step lv ms = 0
      · rw [hf] at iF
        cases hb : spanB last from' till with
        | false =>
          rw [hb] at iD hW
          have hS : startE last hs step lv ms false = 2 := by unfold startE; rw [if_pos hf]; rfl
          rw [hS] at iD
          have hno : ¬ ((0 ≤ from' ∧ from' ≤ last) ∧ (0 ≤ till ∧ till ≤ last) ∧ from' ≤ till) := fun h => by
            have : spanB last from' till = true := by rw [hSp, inB_iff.2 (by omega), inB_iff.2 (by omega)]; rfl
            rw [hb] at this
            cases this
          have d1 := @inB_iff from' 0 last
          have d2 := @inB_iff till 0 last
          cases h1 : inB from' 0 last
          all_goals
            rw [h1] at iI d1
            cases h2 : inB till 0 last
            all_goals
              rw [h2] at iJ d2
              by_cases h3 : till < from'
              all_goals
                try simp only [true_iff, false_iff, Bool.false_eq_true] at d1 d2
                first
                  | (exfalso; omega)
                  | (repeat' first | ((with_reducible apply WB.tt); conv => whnf) | ((with_reducible apply WB.ff); conv => whnf) | (refine Rn.seq ?_; conv => whnf) | (refine Rn.reg ?_; conv => whnf) | (refine Rn.drw ?_; conv => whnf) | (refine Rn.blk ?_; conv => whnf) | (refine Rn.skip ?_; conv => whnf) | (refine Rn.ret ?_; conv => whnf) | (refine Rn.exit ?_; conv => whnf) | (refine Rn.cond rfl ?_; conv => whnf) | (refine And.intro (InR.i64 (by omega) (by omega)) ?_; conv => whnf) | (refine And.intro (show _ ≠ (0 : Int) by omega) ?_; conv => whnf) | (refine WIx.intsN (by omega) ?_; conv => whnf) | (refine WIx.rowsN (by omega) ?_; conv => whnf) | (refine WCall.pure (iTb) ?_; conv => whnf) | (refine WCall.pure (iD) ?_; conv => whnf) | (refine WCall.pure (iP) ?_; conv => whnf) | (refine WCall.pure (iS) ?_; conv => whnf) | (refine WCall.pure (iF) ?_; conv => whnf) | (refine WCall.pure (iI) ?_; conv => whnf) | (refine WCall.pure (iJ) ?_; conv => whnf) | (refine WCall.pure (AW) ?_; conv => whnf) | ((with_reducible refine WB.decT (by first | with_reducible rfl | assumption | omega | exact ⟨rfl, rfl⟩) ?_); conv => whnf) | ((with_reducible refine WB.decF (by first | assumption | omega) ?_); conv => whnf) | ((with_reducible refine WB.ndT (by first | with_reducible rfl | assumption | omega | exact ⟨rfl, rfl⟩) ?_); conv => whnf) | ((with_reducible refine WB.ndF (by first | assumption | omega) ?_); conv => whnf) | ((with_reducible refine WB.nt ?_); conv => whnf) | ((with_reducible refine WB.nf ?_); conv => whnf) | ((with_reducible refine WB.dec (fun h => ?_) (fun h => ?_)) <;> conv => whnf) | ((with_reducible refine WB.ndec (fun h => ?_) (fun h => ?_)) <;> conv => whnf) | (refine WB.mk (fun h => ?_) (fun h => ?_) <;> conv => whnf) | (refine WB.tt ?_; conv => whnf) | (refine WB.ff ?_; conv => whnf)
                     exact Fin.b rfl rfl)
        | true =>
          rw [hb] at iD hW hE
          have hS : startE last hs step lv ms true = 11 := by
            unfold startE at hE ⊢
            rw [if_pos hf] at hE ⊢
            rw [cond_true] at hE ⊢
            by_cases hT : truthS hs step ms = []
            · rw [if_pos hT]
            · rw [if_neg hT] at hE; exact absurd rfl hE
          have hsE : sureE last hs step lv ms = 11 := by
            rw [hS] at hW
            unfold wantE at hW
            rw [if_neg (by simp)] at hW
            exact hW
          have hsL : sureL last hs step lv ms = [] := by unfold sureL; rw [hsE]; rfl
          rw [hS] at iD
          rw [hsE, hsL] at iS
          rw [hSp, Bool.and_eq_true] at hb
          have b1 := inB_iff.1 hb.1
          have b2 := inB_iff.1 hb.2
          have hi1 : inB from' 0 last = true := inB_iff.2 (by omega)
          rw [hi1] at iI
          rw [hb.2] at iJ
          repeat' first | ((with_reducible apply WB.tt); conv => whnf) | ((with_reducible apply WB.ff); conv => whnf) | (refine Rn.seq ?_; conv => whnf) | (refine Rn.reg ?_; conv => whnf) | (refine Rn.drw ?_; conv => whnf) | (refine Rn.blk ?_; conv => whnf) | (refine Rn.skip ?_; conv => whnf) | (refine Rn.ret ?_; conv => whnf) | (refine Rn.exit ?_; conv => whnf) | (refine Rn.cond rfl ?_; conv => whnf) | (refine And.intro (InR.i64 (by omega) (by omega)) ?_; conv => whnf) | (refine And.intro (show _ ≠ (0 : Int) by omega) ?_; conv => whnf) | (refine WIx.intsN (by omega) ?_; conv => whnf) | (refine WIx.rowsN (by omega) ?_; conv => whnf) | (refine WCall.pure (iTb) ?_; conv => whnf) | (refine WCall.pure (iD) ?_; conv => whnf) | (refine WCall.pure (iP) ?_; conv => whnf) | (refine WCall.pure (iS) ?_; conv => whnf) | (refine WCall.pure (iF) ?_; conv => whnf) | (refine WCall.pure (iI) ?_; conv => whnf) | (refine WCall.pure (iJ) ?_; conv => whnf) | (refine WCall.pure (AW) ?_; conv => whnf) | ((with_reducible refine WB.decT (by first | with_reducible rfl | assumption | omega | exact ⟨rfl, rfl⟩) ?_); conv => whnf) | ((with_reducible refine WB.decF (by first | assumption | omega) ?_); conv => whnf) | ((with_reducible refine WB.ndT (by first | with_reducible rfl | assumption | omega | exact ⟨rfl, rfl⟩) ?_); conv => whnf) | ((with_reducible refine WB.ndF (by first | assumption | omega) ?_); conv => whnf) | ((with_reducible refine WB.nt ?_); conv => whnf) | ((with_reducible refine WB.nf ?_); conv => whnf) | ((with_reducible refine WB.dec (fun h => ?_) (fun h => ?_)) <;> conv => whnf) | ((with_reducible refine WB.ndec (fun h => ?_) (fun h => ?_)) <;> conv => whnf) | (refine WB.mk (fun h => ?_) (fun h => ?_) <;> conv => whnf) | (refine WB.tt ?_; conv => whnf) | (refine WB.ff ?_; conv => whnf)
          exact Fin.b rfl rfl
      · have hS : startE last hs step lv ms (spanB last from' till) = faultR last hs step lv ms := by unfold startE; rw [if_neg hf]
        have hsE : sureE last hs step lv ms = faultR last hs step lv ms := by unfold sureE; rw [if_neg hf]
        have hsL : sureL last hs step lv ms = [] := by unfold sureL; rw [hsE, if_neg hf]
        rw [hS] at iD
        rw [hsE, hsL] at iS
        generalize faultR last hs step lv ms = e at *
        repeat' first | ((with_reducible apply WB.tt); conv => whnf) | ((with_reducible apply WB.ff); conv => whnf) | (refine Rn.seq ?_; conv => whnf) | (refine Rn.reg ?_; conv => whnf) | (refine Rn.drw ?_; conv => whnf) | (refine Rn.blk ?_; conv => whnf) | (refine Rn.skip ?_; conv => whnf) | (refine Rn.ret ?_; conv => whnf) | (refine Rn.exit ?_; conv => whnf) | (refine Rn.cond rfl ?_; conv => whnf) | (refine And.intro (InR.i64 (by omega) (by omega)) ?_; conv => whnf) | (refine And.intro (show _ ≠ (0 : Int) by omega) ?_; conv => whnf) | (refine WIx.intsN (by omega) ?_; conv => whnf) | (refine WIx.rowsN (by omega) ?_; conv => whnf) | (refine WCall.pure (iTb) ?_; conv => whnf) | (refine WCall.pure (iD) ?_; conv => whnf) | (refine WCall.pure (iP) ?_; conv => whnf) | (refine WCall.pure (iS) ?_; conv => whnf) | (refine WCall.pure (iF) ?_; conv => whnf) | (refine WCall.pure (iI) ?_; conv => whnf) | (refine WCall.pure (iJ) ?_; conv => whnf) | (refine WCall.pure (AW) ?_; conv => whnf) | ((with_reducible refine WB.decT (by first | with_reducible rfl | assumption | omega | exact ⟨rfl, rfl⟩) ?_); conv => whnf) | ((with_reducible refine WB.decF (by first | assumption | omega) ?_); conv => whnf) | ((with_reducible refine WB.ndT (by first | with_reducible rfl | assumption | omega | exact ⟨rfl, rfl⟩) ?_); conv => whnf) | ((with_reducible refine WB.ndF (by first | assumption | omega) ?_); conv => whnf) | ((with_reducible refine WB.nt ?_); conv => whnf) | ((with_reducible refine WB.nf ?_); conv => whnf) | ((with_reducible refine WB.dec (fun h => ?_) (fun h => ?_)) <;> conv => whnf) | ((with_reducible refine WB.ndec (fun h => ?_) (fun h => ?_)) <;> conv => whnf) | (refine WB.mk (fun h => ?_) (fun h => ?_) <;> conv => whnf) | (refine WB.tt ?_; conv => whnf) | (refine WB.ff ?_; conv => whnf)
        exact Fin.b rfl rfl
theorem main_tideDries (AW : PureF Try.prog p21.ix [] (.b true)) {es : List D} (fit : FitP [(true, [.i .i64, .sl [.i .i64, .i .i64], .i .i64, .sl [.i .i64], .sl [.i .i64, .i .i64, .i .i64, .i .i64]]), (false, [.i .i64]), (false, [.i .i64]), (false, [.i .i64])] es) : PureF Try.prog 6 es (.b true) := by
  obtain ⟨last, hs, step, lv, ms, _, rfl, g1⟩ := fit.tab
  obtain ⟨n, _, rfl, _, g2⟩ := g1.i
  obtain ⟨n2, _, rfl, _, g3⟩ := g2.i
  obtain ⟨n3, _, rfl, _, g4⟩ := g3.i
  obtain rfl := g4.no
  exact c_TideDries last hs step lv ms n n2 n3 AW
end Go.Ev

namespace Go.Proofs.Ytpemagogcagipaa.tideDries
open Go.ChangeShapes Go.WideShapes Go.ChangeAt Go.RowKit
open Go.ChangeMaps (open_string shut_string)
set_option linter.unusedVariables false

theorem laid : laidOutB Try.prog = true := by kernel_rfl
theorem own : ownKnob Try.prog.godebug = none := by kernel_rfl

/-! ### the walk -/
theorem walk {es : List Go.Ev.D} (fit : Go.Ev.FitP [(true, [.i .i64, .sl [.i .i64, .i .i64], .i .i64, .sl [.i .i64], .sl [.i .i64, .i .i64, .i .i64, .i .i64]]), (false, [.i .i64]), (false, [.i .i64]), (false, [.i .i64])] es) {args : Array Value} {W : World} (ha : Go.Ev.DVL (Go.Ev.γH W) W es args.toList) :
    Calls Try.prog 6 args W fun e w' => e = .returned (.bool true) ∧ Grown W w' ∧ Below W.heap.size W w' :=
  Go.Ev.PureF.calls (Go.Ev.main_tideDries (fun ob nx lg => Go.Ev.closed_call Go.Ev.fp_ok Go.Ev.aw ob nx lg) fit) ha

set_option maxRecDepth 100000 in
theorem lifted (os : Os) (started : os.Started) (H : Type) (enc : TypeId × Value → H) :
    ReturnsInHanded {} Try.checked os 6 .any (Rows.tideDriesSpec.pre6 enc Try.prog Try.f6 Rows.tideDriesRow.domain false) (Rows.tideDriesSpec.post enc Try.prog Try.f6 false true false false) := by
  refine returnsInHanded_of_change (C := Try.checked) own started (by kernel_rfl) Try.func6
    (ChangeSpec.witness6 (enc := enc) (C := Try.checked) false ⟨#[], #[.agg #[.int .i64 0, .slice none 0 0, .int .i64 0, .slice none 0 0, .slice none 0 0], .int .i64 0, .int .i64 0, .int .i64 0], []⟩ 8 (by kernel_rfl) (by kernel_rfl) (by kernel_rfl) (by kernel_rfl)) ?_
  intro W base args ds gs before hval0 hW hcnd _
  have hval : ∀ (j : Nat) t v, Try.f6.params[j]? = some t → args[j]? = some v → Value.okWide Try.prog W .any base t v := hval0
  have hW' := hW
  obtain ⟨p, q, hA0, hV, rfl, hfz, hnd⟩ := hW
  have hA : DataW.TrodAll enc Try.prog W 0 (fun _ => true) true Try.f6.params.toList args.toList ds p := hA0
  rw [Try.params6] at hA hval
  obtain ⟨rfl, rfl⟩ := trodVars_none hV
  obtain ⟨d0, d1, d2, d3, rfl⟩ := Go.Ev.len4 (Go.Ev.trod_len hA)
  clear hA0 hval0
  simp only [List.append_nil] at hW'
  obtain ⟨es, fit, dv⟩ := Go.Ev.open_all (n := 6) (pars := [(true, [.i .i64, .sl [.i .i64, .i .i64], .i .i64, .sl [.i .i64], .sl [.i .i64, .i .i64, .i .i64, .i .i64]]), (false, [.i .i64]), (false, [.i .i64]), (false, [.i .i64])]) (by kernel_rfl) hA (fun j t v h1 h2 => hval j t v (by simpa using h1) (by simpa using h2))
  have hlt : ∀ x ∈ p, x.block < W.heap.size := fun x hx => by simpa using hW'.lt x hx
  refine (walk fit dv).mono fun e W' ⟨he, hg, hb⟩ => ?_
  subst he
  exact ⟨_, rfl, post_of_same (pa := p) (pv := []) hW' (fun _ _ _ => (trodAll_cons_mk (shut_bool Try.underlying4 _) trodAll_mk0))
    (fun sp hs => Go.Ev.stays_all laid (Go.Ev.of_allT (by kernel_rfl)) hA (fun x hx => hb.same (hlt x hx)) (fun x hx => hs x hx))
    (fun _ _ => rfl) (List.append_nil _).symm
    (hg.frame _) hg.2.1 (ok_one (by kernel_rfl) rfl (okWide_bool_mk Try.underlying4 _))⟩

theorem over : Rows.tideDriesRow.holds Try.pinned (OpenSpec.ofChange Rows.tideDriesSpec) :=
  OpenClaim.holds_of_wide 6 Try.f6 rfl rfl rfl rfl rfl rfl rfl ⟨rfl, rfl, rfl, rfl, rfl⟩ rfl rfl rfl rfl rfl (by kernel_rfl) Try.func6 (by kernel_rfl)
    (of_decide_eq_true (by kernel_rfl)) (by unfold Func.isWrapper; first | (rw [if_pos (by decide +kernel)]; kernel_rfl) | (rw [if_neg (by decide +kernel)]; exact ⟨rfl, rfl⟩))
    (fun os started H enc _ => lifted os started H enc)

/-- ████ THE STATEMENT ████ -/
theorem proved : Rows.TideDriesSaid :=
  over
#print axioms proved
end Go.Proofs.Ytpemagogcagipaa.tideDries
