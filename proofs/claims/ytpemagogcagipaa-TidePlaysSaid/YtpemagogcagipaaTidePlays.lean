/-
  TidePlays: the law answers true for every table and every record of heights; the only conditions are those of the row itself.
-/
import Derived.Test.YtpemagogcagipaaRows
import Derived.WalkKit
import Derived.ProofKit
import Derived.OpenShut
import Derived.Test.YtpemagogcagipaaEvFt
import Derived.Test.YtpemagogcagipaaEvSy
import Derived.ShutString
import Derived.Test.YtpemagogcagipaaEvMH
set_option linter.all false
namespace Go.Ev
open Go.Proofs
set_option maxRecDepth 1000000
noncomputable def rc3 : RC := (.seq (.reg [(.u (.box p3 (.t p1))), (.u (.mv p5 (.k (.b false))))]) (.seq (.seq (.reg [(.u (.ldn p11 (.t p3) 5)), (.u (.cf (some p12) p20 [(.t p11)])), (.u (.un p13 .not (.t p12))), (.u (.mv p14 (.t p13))), (.g p14 false (some p15) (.mv p15 (.t p2))), (.g p14 false (some p16) (.len p16 (.t p15))), (.g p14 false (some p17) (.bin p17 .gtr (.t p16) (.k (.i .i64 14)))), (.u (.pick p18 (.t p14) (.k (.b true)) (.t p17)))]) (.cond (.t p18) (.seq (.reg [(.u (.cf (some p19) p21 [])), (.u (.mv p5 (.t p19)))]) .ret) .skip)) (.seq (.reg [(.u (.ldn p21 (.t p3) 5)), (.u (.cf (some p22) p23 [(.t p21)])), (.u (.mv p23 (.t p2))), (.u (.cf (some p24) p24 [(.t p23)])), (.u (.cf (some p25) p22 [(.t p22), (.t p24)])), (.u (.mv p20 (.t p25))), (.u (.ext p26 (.t p20) 0)), (.u (.ext p27 (.t p20) 1)), (.u (.mv p6 (.t p26))), (.u (.mv p7 (.t p27)))]) (.seq (.reg [(.u (.ldn p28 (.t p3) 5)), (.u (.cf (some p29) p23 [(.t p28)])), (.u (.mv p30 (.t p2))), (.u (.cf (some p31) p24 [(.t p30)])), (.u (.cf (some p32) p25 [(.t p29), (.t p31)])), (.u (.mv p8 (.t p32)))]) (.seq (.reg [(.u (.ldn p33 (.t p3) 5)), (.u (.cf (some p34) p26 [(.t p33)])), (.u (.mv p9 (.t p34)))]) (.seq (.seq (.reg [(.u (.ldn p35 (.t p3) 5)), (.u (.cf (some p36) p23 [(.t p35)])), (.u (.cf (some p37) p27 [(.t p36)])), (.u (.mv p38 (.t p9))), (.u (.bin p39 .neq (.t p37) (.t p38))), (.u (.mv p40 (.t p39))), (.g p40 false (some p41) (.mv p41 (.t p8))), (.g p40 false (some p42) (.mv p42 (.t p9))), (.g p40 false (some p43) (.bin p43 .eql (.t p42) (.k (.i .i64 0)))), (.g p40 false (some p44) (.mv p44 (.t p43))), (.g p44 true (some p45) (.ldn p45 (.t p3) 5)), (.g p44 true (some p46) (.mv p46 (.t p2))), (.g p44 true (some p47) (.cf (some p47) p28 [(.t p45), (.t p46)])), (.g p40 false (some p48) (.pick p48 (.t p44) (.t p47) (.k (.b false)))), (.g p40 false (some p49) (.eq p49 true 0 (.t p41) (.t p48))), (.u (.pick p50 (.t p40) (.k (.b true)) (.t p49)))]) (.cond (.t p50) (.seq (.reg [(.u (.mv p5 (.k (.b false))))]) .ret) .skip)) (.seq (.seq (.reg [(.u (.mv p51 (.t p9))), (.u (.bin p52 .eql (.t p51) (.k (.i .i64 0)))), (.u (.mv p53 (.t p52))), (.g p53 true (some p54) (.ldn p54 (.t p3) 5)), (.g p53 true (some p55) (.mv p55 (.t p2))), (.g p53 true (some p56) (.cf (some p56) p29 [(.t p54), (.t p55)])), (.g p53 true (some p57) (.un p57 .not (.t p56))), (.u (.pick p58 (.t p53) (.t p57) (.k (.b false))))]) (.cond (.t p58) (.reg [(.u (.mv p9 (.k (.i .i64 2))))]) .skip)) (.seq (.seq (.reg [(.u (.mv p59 (.t p9))), (.u (.bin p60 .neq (.t p59) (.k (.i .i64 0))))]) (.cond (.t p60) (.seq (.reg [(.u (.mv p61 (.t p7))), (.u (.mv p62 (.t p9))), (.u (.bin p63 .eql (.t p61) (.t p62))), (.u (.mv p64 (.t p63))), (.g p64 true (some p65) (.mv p65 (.t p6))), (.g p64 true (some p66) (.len p66 (.t p65))), (.g p64 true (some p67) (.bin p67 .eql (.t p66) (.k (.i .i64 0)))), (.u (.pick p68 (.t p64) (.t p67) (.k (.b false)))), (.u (.mv p69 (.t p68))), (.g p69 true (some p70) (.cf (some p70) p21 [])), (.u (.pick p71 (.t p69) (.t p70) (.k (.b false)))), (.u (.mv p5 (.t p71)))]) .ret) .skip)) (.seq (.seq (.reg [(.u (.mv p72 (.t p7))), (.u (.bin p73 .neq (.t p72) (.k (.i .i64 0)))), (.u (.mv p74 (.t p73))), (.g p74 false (some p75) (.mv p75 (.t p6))), (.g p74 false (some p76) (.len p76 (.t p75))), (.g p74 false (some p77) (.fad p77 (.t p3) 3)), (.g p74 false (some p78) (.ld1 p78 (.t p77))), (.g p74 false (some p79) (.len p79 (.t p78))), (.g p74 false (some p80) (.bin p80 .neq (.t p76) (.t p79))), (.u (.pick p81 (.t p74) (.k (.b true)) (.t p80)))]) (.cond (.t p81) (.seq (.reg [(.u (.mv p5 (.k (.b false))))]) .ret) .skip)) (.seq (.seq (.reg [(.u (.mv p10 (.k (.i .i64 0))))]) (.blk 0 (.loop (.seq (.seq (.reg [(.u (.mv p82 (.t p10))), (.u (.mv p83 (.t p6))), (.u (.len p84 (.t p83))), (.u (.bin p85 .lss (.t p82) (.t p84)))]) (.cond (.t p85) .skip (.exit 0))) (.seq (.blk 1 (.seq (.drw [(.u (.mv p88 (.t p6))), (.u (.mv p89 (.t p10))), (.u (.ixs p90 1 (.t p88) (.t p89))), (.u (.ld1 p91 (.t p90))), (.u (.mv p92 (.t p2))), (.u (.fad p93 (.t p3) 3)), (.u (.ld1 p94 (.t p93))), (.u (.mv p95 (.t p10))), (.u (.ixs p96 1 (.t p94) (.t p95))), (.u (.ld1 p97 (.t p96))), (.u (.cf (some p98) p31 [(.t p92), (.t p97)])), (.u (.cf (some p99) p30 [(.t p91), (.t p98)])), (.u (.un p100 .not (.t p99)))] [0, 0, 3, 7, 0, 0, 32, 0, 224, 480, 1008, 2047, 4095]) (.cond (.t p100) (.seq (.reg [(.u (.mv p5 (.k (.b false))))]) .ret) .skip))) (.reg [(.u (.mv p86 (.t p10))), (.u (.bin p87 .add (.t p86) (.k (.i .i64 1)))), (.u (.mv p10 (.t p87)))])))))) (.seq (.reg [(.u (.cf (some p101) p21 [])), (.u (.mv p5 (.t p101)))]) .ret)))))))))))
def rs3 : List RR := [(.t p5)]
theorem fn3 : FnOk Try.prog p4.ix 101 rc3 rs3 := ⟨Try.f3, bodyC Try.f3, Try.func3, by kernel_rfl, by kernel_rfl, by kernel_rfl, by kernel_rfl, by kernel_rfl⟩
end Go.Ev
namespace Go.Ev
open Go.Proofs
set_option maxRecDepth 100000
/-! ### TidePlays -/
set_option maxHeartbeats 4000000 in
theorem c_TidePlays (last : Int) (hs : List Rg) (step : Int) (lv : List Int) (ms : List Mk) (t : List Int) (ht : ∀ i, wfB .i64 (t.getD i 0) = true) (AW : PureF Try.prog p21.ix [] (.b true)) : PureF Try.prog p4.ix [.ag [.i .i64 last, .lst 2 (rows rgD hs), .i .i64 step, .lst 1 (ints lv), .lst 4 (rows mkD ms)], .lst 1 (ints t)] (.b true) := by
  have e1 := ints_length t
  have e2 := ints_length lv
  have iT := c_Thin last hs step lv ms
  refine PureF.run fn3 (by simp) (by simp [PuL, PuE, Pu, pu_ints, pu_rg, pu_mk]) ?_; conv => whnf
  cases hT : thinR last hs step lv ms with
  | false =>
    rw [hT] at iT
    repeat' first | ((with_reducible apply WB.tt); conv => whnf) | ((with_reducible apply WB.ff); conv => whnf) | (refine Rn.seq ?_; conv => whnf) | (refine Rn.reg ?_; conv => whnf) | (refine Rn.drw ?_; conv => whnf) | (refine Rn.blk ?_; conv => whnf) | (refine Rn.skip ?_; conv => whnf) | (refine Rn.ret ?_; conv => whnf) | (refine Rn.exit ?_; conv => whnf) | (refine Rn.cond rfl ?_; conv => whnf) | (refine And.intro (InR.i64 (by omega) (by omega)) ?_; conv => whnf) | (refine And.intro (show _ ≠ (0 : Int) by omega) ?_; conv => whnf) | (refine WIx.intsN (by omega) ?_; conv => whnf) | (refine WIx.rowsN (by omega) ?_; conv => whnf) | (refine WCall.pure (iT) ?_; conv => whnf)
    refine WB.tt ?_; conv => whnf
    repeat' first | ((with_reducible apply WB.tt); conv => whnf) | ((with_reducible apply WB.ff); conv => whnf) | (refine Rn.seq ?_; conv => whnf) | (refine Rn.reg ?_; conv => whnf) | (refine Rn.drw ?_; conv => whnf) | (refine Rn.blk ?_; conv => whnf) | (refine Rn.skip ?_; conv => whnf) | (refine Rn.ret ?_; conv => whnf) | (refine Rn.exit ?_; conv => whnf) | (refine Rn.cond rfl ?_; conv => whnf) | (refine And.intro (InR.i64 (by omega) (by omega)) ?_; conv => whnf) | (refine And.intro (show _ ≠ (0 : Int) by omega) ?_; conv => whnf) | (refine WIx.intsN (by omega) ?_; conv => whnf) | (refine WIx.rowsN (by omega) ?_; conv => whnf) | (refine WCall.pure (AW) ?_; conv => whnf)
    exact Fin.b rfl rfl
  | true =>
    rw [hT] at iT
    have hT' := hT
    unfold thinR at hT'
    rw [Bool.and_eq_true, decide_eq_true_iff] at hT'
    obtain ⟨hsz, _⟩ := hT'
    repeat' first | ((with_reducible apply WB.tt); conv => whnf) | ((with_reducible apply WB.ff); conv => whnf) | (refine Rn.seq ?_; conv => whnf) | (refine Rn.reg ?_; conv => whnf) | (refine Rn.drw ?_; conv => whnf) | (refine Rn.blk ?_; conv => whnf) | (refine Rn.skip ?_; conv => whnf) | (refine Rn.ret ?_; conv => whnf) | (refine Rn.exit ?_; conv => whnf) | (refine Rn.cond rfl ?_; conv => whnf) | (refine And.intro (InR.i64 (by omega) (by omega)) ?_; conv => whnf) | (refine And.intro (show _ ≠ (0 : Int) by omega) ?_; conv => whnf) | (refine WIx.intsN (by omega) ?_; conv => whnf) | (refine WIx.rowsN (by omega) ?_; conv => whnf) | (refine WCall.pure (iT) ?_; conv => whnf)
    refine WB.ff ?_; conv => whnf
    repeat' first | ((with_reducible apply WB.tt); conv => whnf) | ((with_reducible apply WB.ff); conv => whnf) | (refine Rn.seq ?_; conv => whnf) | (refine Rn.reg ?_; conv => whnf) | (refine Rn.drw ?_; conv => whnf) | (refine Rn.blk ?_; conv => whnf) | (refine Rn.skip ?_; conv => whnf) | (refine Rn.ret ?_; conv => whnf) | (refine Rn.exit ?_; conv => whnf) | (refine Rn.cond rfl ?_; conv => whnf) | (refine And.intro (InR.i64 (by omega) (by omega)) ?_; conv => whnf) | (refine And.intro (show _ ≠ (0 : Int) by omega) ?_; conv => whnf) | (refine WIx.intsN (by omega) ?_; conv => whnf) | (refine WIx.rowsN (by omega) ?_; conv => whnf) | (refine WCall.pure (iT) ?_; conv => whnf)
    refine WB.dec (fun h => ?_) (fun h => ?_) <;> conv => whnf
    · repeat' first | ((with_reducible apply WB.tt); conv => whnf) | ((with_reducible apply WB.ff); conv => whnf) | (refine Rn.seq ?_; conv => whnf) | (refine Rn.reg ?_; conv => whnf) | (refine Rn.drw ?_; conv => whnf) | (refine Rn.blk ?_; conv => whnf) | (refine Rn.skip ?_; conv => whnf) | (refine Rn.ret ?_; conv => whnf) | (refine Rn.exit ?_; conv => whnf) | (refine Rn.cond rfl ?_; conv => whnf) | (refine And.intro (InR.i64 (by omega) (by omega)) ?_; conv => whnf) | (refine And.intro (show _ ≠ (0 : Int) by omega) ?_; conv => whnf) | (refine WIx.intsN (by omega) ?_; conv => whnf) | (refine WIx.rowsN (by omega) ?_; conv => whnf) | (refine WCall.pure (AW) ?_; conv => whnf)
      exact Fin.b rfl rfl
    have h14 : t.length ≤ 14 := by omega
    have iTb := c_Table last hs step lv ms (by omega) (by omega) (by omega)
    have iLs := c_list t (by omega)
    have iP := c_Play last hs step lv ms t ht
    have iV := c_ProveTruth last hs step lv ms t ht
    have iF := c_fault last hs step lv ms
    have iC := c_CheckTable last hs step lv ms
    by_cases hF : faultR last hs step lv ms = 0
    · obtain ⟨V, hm, _⟩ := fault_zero hF
      have iR := c_IsTruth last hs step lv ms t V.hv (by omega) (fun m hmm => by have := V.vt m hmm; omega) (by omega)
      have iL := c_IsListed last hs step lv ms t V.hv (by omega)
      rw [hF] at iF iC
      have hpv : proveR last hs step lv ms t = truthR hs step ms t := by unfold proveR; rw [hF]; rfl
      rw [hpv] at iV
      cases hL : listedR hs step t with
      | false =>
        have hpl : playR last hs step lv ms t = ([], 2) := by unfold playR; rw [if_pos hF, if_neg (by rw [hL]; simp)]
        rw [hpl] at iP
        have htr : truthR hs step ms t = false := by unfold truthR; rw [hL]; rfl
        rw [htr] at iV iR
        rw [hL] at iL
        repeat' first | ((with_reducible apply WB.tt); conv => whnf) | ((with_reducible apply WB.ff); conv => whnf) | (refine Rn.seq ?_; conv => whnf) | (refine Rn.reg ?_; conv => whnf) | (refine Rn.drw ?_; conv => whnf) | (refine Rn.blk ?_; conv => whnf) | (refine Rn.skip ?_; conv => whnf) | (refine Rn.ret ?_; conv => whnf) | (refine Rn.exit ?_; conv => whnf) | (refine Rn.cond rfl ?_; conv => whnf) | (refine And.intro (InR.i64 (by omega) (by omega)) ?_; conv => whnf) | (refine And.intro (show _ ≠ (0 : Int) by omega) ?_; conv => whnf) | (refine WIx.intsN (by omega) ?_; conv => whnf) | (refine WIx.rowsN (by omega) ?_; conv => whnf) | (refine WCall.pure (iTb) ?_; conv => whnf) | (refine WCall.pure (iLs) ?_; conv => whnf) | (refine WCall.pure (iP) ?_; conv => whnf) | (refine WCall.pure (iV) ?_; conv => whnf) | (refine WCall.pure (iF) ?_; conv => whnf) | (refine WCall.pure (iC) ?_; conv => whnf) | (refine WCall.pure (iR) ?_; conv => whnf) | (refine WCall.pure (iL) ?_; conv => whnf) | (refine WCall.pure (AW) ?_; conv => whnf) | ((with_reducible refine WB.decT (by first | with_reducible rfl | assumption | omega | exact ⟨rfl, rfl⟩) ?_); conv => whnf) | ((with_reducible refine WB.decF (by first | assumption | omega) ?_); conv => whnf) | ((with_reducible refine WB.ndT (by first | with_reducible rfl | assumption | omega | exact ⟨rfl, rfl⟩) ?_); conv => whnf) | ((with_reducible refine WB.ndF (by first | assumption | omega) ?_); conv => whnf) | ((with_reducible refine WB.nt ?_); conv => whnf) | ((with_reducible refine WB.nf ?_); conv => whnf) | ((with_reducible refine WB.dec (fun h => ?_) (fun h => ?_)) <;> conv => whnf) | ((with_reducible refine WB.ndec (fun h => ?_) (fun h => ?_)) <;> conv => whnf) | (refine WB.mk (fun h => ?_) (fun h => ?_) <;> conv => whnf)
        all_goals first | exact Fin.b rfl rfl | (exfalso; clear iTb iLs iP iV iF iC AW iT iR iL; simp_all [rows]; done)
      | true =>
        have hl := listed_lenZ hL
        have hlast := V.n
        have hpl : playR last hs step lv ms t = (wetsR lv (wantS t) last, 0) := by unfold playR; rw [if_pos hF, if_pos hL]
        rw [hpl] at iP
        rw [hL] at iL
        have hwl := wetsR_length lv (wantS t) last
        have hrl := rows_length tD (wetsR lv (wantS t) last)
        have iP : PureF Try.prog p22.ix [.ag [.i .i64 last, .lst 2 (rows rgD hs), .i .i64 step, .lst 1 (ints lv), .lst 4 (rows mkD ms)], .lst 1 (ints t)] (.tp [.lst 1 (rows tD (wetsR lv (wantS t) last)), .i .i64 0]) := iP
        cases hb : truthR hs step ms t
        all_goals
          rw [hb] at iV iR
          repeat' first | ((with_reducible apply WB.tt); conv => whnf) | ((with_reducible apply WB.ff); conv => whnf) | (refine Rn.seq ?_; conv => whnf) | (refine Rn.reg ?_; conv => whnf) | (refine Rn.drw ?_; conv => whnf) | (refine Rn.blk ?_; conv => whnf) | (refine Rn.skip ?_; conv => whnf) | (refine Rn.ret ?_; conv => whnf) | (refine Rn.exit ?_; conv => whnf) | (refine Rn.cond rfl ?_; conv => whnf) | (refine And.intro (InR.i64 (by omega) (by omega)) ?_; conv => whnf) | (refine And.intro (show _ ≠ (0 : Int) by omega) ?_; conv => whnf) | (refine WIx.intsN (by omega) ?_; conv => whnf) | (refine WIx.rowsN (by omega) ?_; conv => whnf) | (refine WCall.pure (iTb) ?_; conv => whnf) | (refine WCall.pure (iLs) ?_; conv => whnf) | (refine WCall.pure (iP) ?_; conv => whnf) | (refine WCall.pure (iV) ?_; conv => whnf) | (refine WCall.pure (iF) ?_; conv => whnf) | (refine WCall.pure (iC) ?_; conv => whnf) | (refine WCall.pure (iR) ?_; conv => whnf) | (refine WCall.pure (iL) ?_; conv => whnf) | ((with_reducible refine WB.decT (by first | with_reducible rfl | assumption | omega | exact ⟨rfl, rfl⟩) ?_); conv => whnf) | ((with_reducible refine WB.decF (by first | assumption | omega) ?_); conv => whnf) | ((with_reducible refine WB.ndT (by first | with_reducible rfl | assumption | omega | exact ⟨rfl, rfl⟩) ?_); conv => whnf) | ((with_reducible refine WB.ndF (by first | assumption | omega) ?_); conv => whnf) | ((with_reducible refine WB.nt ?_); conv => whnf) | ((with_reducible refine WB.nf ?_); conv => whnf) | ((with_reducible refine WB.dec (fun h => ?_) (fun h => ?_)) <;> conv => whnf) | ((with_reducible refine WB.ndec (fun h => ?_) (fun h => ?_)) <;> conv => whnf) | (refine WB.mk (fun h => ?_) (fun h => ?_) <;> conv => whnf)
          all_goals first
            | (exfalso; omega)
            | exact absurd h (by decide)
            | (refine Rn.loop (fun j : Nat => ⟨(.n (.n .e (some (.lst 1 (ints t))) (.n (.n .e (some (.i .i64 (j : Int))) .e) (some (.lst 1 (rows tD (wetsR lv (wantS t) last)))) .e)) none (.n .e (some (.pt .h 0 0)) .e)), (.n .e (some (.cells false [.o (.i .i64 last) 0, .o (.lst 2 (rows rgD hs)) 0, .o (.i .i64 step) 0, .o (.lst 1 (ints lv)) 0, .o (.lst 4 (rows mkD ms)) 0] 1)) .e), .o .h, none⟩) (fun j => j ≤ lv.length) (fun j => lv.length - j) 0 ?_ ?_ ?_
               · (first | (refine X.le.mk ?_ ?_ (Nat.le_refl _) rfl rfl) | skip) <;> (repeat' first | exact T.le_e _ | refine T.le_some ?_ ?_ ?_ | refine T.le_none ?_ ?_ | rfl)
               · omega
               intro j hj
               conv => whnf
               repeat' first | ((with_reducible apply WB.tt); conv => whnf) | ((with_reducible apply WB.ff); conv => whnf) | (refine Rn.seq ?_; conv => whnf) | (refine Rn.reg ?_; conv => whnf) | (refine Rn.drw ?_; conv => whnf) | (refine Rn.blk ?_; conv => whnf) | (refine Rn.skip ?_; conv => whnf) | (refine Rn.ret ?_; conv => whnf) | (refine Rn.exit ?_; conv => whnf) | (refine Rn.cond rfl ?_; conv => whnf) | (refine And.intro (InR.i64 (by omega) (by omega)) ?_; conv => whnf) | (refine And.intro (show _ ≠ (0 : Int) by omega) ?_; conv => whnf) | (refine WIx.intsN (by omega) ?_; conv => whnf) | (refine WIx.rowsN (by omega) ?_; conv => whnf)
               refine WB.dec (fun h => ?_) (fun h => ?_) <;> conv => whnf
               · have hlt : j < lv.length := by omega
                 have cW := c_WetL t (lv.getD j 0) (by omega)
                 have hat : (wetsR lv (wantS t) last).getD j default = wetL t (lv.getD j 0) := (wetsR_at hlt).trans (wet_same (by omega))
                 have iS := c_same ((wetsR lv (wantS t) last).getD j default) (wetL t (lv.getD j 0)) (by rw [hat]; unfold wetL; exact Nat.le_trans (List.length_filter_le _ _) (by rw [idxL_length]; omega))
                 rw [decide_eq_true hat] at iS
                 repeat' first | ((with_reducible apply WB.tt); conv => whnf) | ((with_reducible apply WB.ff); conv => whnf) | (refine Rn.seq ?_; conv => whnf) | (refine Rn.reg ?_; conv => whnf) | (refine Rn.drw ?_; conv => whnf) | (refine Rn.blk ?_; conv => whnf) | (refine Rn.skip ?_; conv => whnf) | (refine Rn.ret ?_; conv => whnf) | (refine Rn.exit ?_; conv => whnf) | (refine Rn.cond rfl ?_; conv => whnf) | (refine And.intro (InR.i64 (by omega) (by omega)) ?_; conv => whnf) | (refine And.intro (show _ ≠ (0 : Int) by omega) ?_; conv => whnf) | (refine WIx.intsN (by omega) ?_; conv => whnf) | (refine WIx.rowsN (by omega) ?_; conv => whnf) | (refine WCall.pure (cW) ?_; conv => whnf) | (refine WCall.pure (iS) ?_; conv => whnf)
                 refine WB.ff ?_; conv => whnf
                 repeat' first | ((with_reducible apply WB.tt); conv => whnf) | ((with_reducible apply WB.ff); conv => whnf) | (refine Rn.seq ?_; conv => whnf) | (refine Rn.reg ?_; conv => whnf) | (refine Rn.drw ?_; conv => whnf) | (refine Rn.blk ?_; conv => whnf) | (refine Rn.skip ?_; conv => whnf) | (refine Rn.ret ?_; conv => whnf) | (refine Rn.exit ?_; conv => whnf) | (refine Rn.cond rfl ?_; conv => whnf) | (refine And.intro (InR.i64 (by omega) (by omega)) ?_; conv => whnf) | (refine And.intro (show _ ≠ (0 : Int) by omega) ?_; conv => whnf) | (refine WIx.intsN (by omega) ?_; conv => whnf) | (refine WIx.rowsN (by omega) ?_; conv => whnf)
                 refine Again.to (j + 1) (by omega) (by omega) (Nat.le_refl _) ?_
                 (refine Shr.of ?_ ?_ rfl rfl) <;> (repeat' first | exact Rel.e | refine Rel.some ?_ ?_ ?_ | refine Rel.none ?_ ?_) <;> (try first | (show Fz _ _ _ _; first | exact Fz.pu trivial | (refine Fz.i ?_; first | rfl | omega) | (refine Fz.kpt ?_; (focus (show Pos.nat _ < Pos.nat _; simp [Pos.nat]; done))) | (refine Fz.ksl ?_; (focus (show Pos.nat _ < Pos.nat _; simp [Pos.nat]; done))) | (refine Fz.kmp ?_; (focus (show Pos.nat _ < Pos.nat _; simp [Pos.nat]; done))) | (refine Fz.pu ?_; simp [Cell.d, Pu, PuL, PuE, pu_ints, pu_rg, pu_mk, pu_tR]; done) | (refine Fz.pu ?_; simp only [Cell.d]; assumption)) | (refine RO'.of ?_ (ShC.same ?_); (focus (show Pos.nat _ < Pos.nat _; simp [Pos.nat]; done)); (repeat' first | exact ShC.nl | refine ShC.cn ?_ ?_) <;> first | exact Fz.pu trivial | (refine Fz.i ?_; first | rfl | omega) | (refine Fz.kpt ?_; (focus (show Pos.nat _ < Pos.nat _; simp [Pos.nat]; done))) | (refine Fz.ksl ?_; (focus (show Pos.nat _ < Pos.nat _; simp [Pos.nat]; done))) | (refine Fz.kmp ?_; (focus (show Pos.nat _ < Pos.nat _; simp [Pos.nat]; done))) | (refine Fz.pu ?_; simp [Cell.d, Pu, PuL, PuE, pu_ints, pu_rg, pu_mk, pu_tR]; done) | (refine Fz.pu ?_; simp only [Cell.d]; assumption)))
                 all_goals first | (refine Fz.i ?_; omega) | (refine Fz.pu ?_; simp [Pu, pu_ints, pu_rg, pu_mk, pu_tR])
               · repeat' first | ((with_reducible apply WB.tt); conv => whnf) | ((with_reducible apply WB.ff); conv => whnf) | (refine Rn.seq ?_; conv => whnf) | (refine Rn.reg ?_; conv => whnf) | (refine Rn.drw ?_; conv => whnf) | (refine Rn.blk ?_; conv => whnf) | (refine Rn.skip ?_; conv => whnf) | (refine Rn.ret ?_; conv => whnf) | (refine Rn.exit ?_; conv => whnf) | (refine Rn.cond rfl ?_; conv => whnf) | (refine And.intro (InR.i64 (by omega) (by omega)) ?_; conv => whnf) | (refine And.intro (show _ ≠ (0 : Int) by omega) ?_; conv => whnf) | (refine WIx.intsN (by omega) ?_; conv => whnf) | (refine WIx.rowsN (by omega) ?_; conv => whnf) | (refine WCall.pure (AW) ?_; conv => whnf)
                 exact Fin.b rfl rfl)
    · have hpl : playR last hs step lv ms t = ([], faultR last hs step lv ms) := by unfold playR; rw [if_neg hF]
      have hpv : proveR last hs step lv ms t = false := by unfold proveR; rw [decide_eq_false hF]; rfl
      rw [hpl] at iP
      rw [hpv] at iV
      generalize faultR last hs step lv ms = F at *
      repeat' first | ((with_reducible apply WB.tt); conv => whnf) | ((with_reducible apply WB.ff); conv => whnf) | (refine Rn.seq ?_; conv => whnf) | (refine Rn.reg ?_; conv => whnf) | (refine Rn.drw ?_; conv => whnf) | (refine Rn.blk ?_; conv => whnf) | (refine Rn.skip ?_; conv => whnf) | (refine Rn.ret ?_; conv => whnf) | (refine Rn.exit ?_; conv => whnf) | (refine Rn.cond rfl ?_; conv => whnf) | (refine And.intro (InR.i64 (by omega) (by omega)) ?_; conv => whnf) | (refine And.intro (show _ ≠ (0 : Int) by omega) ?_; conv => whnf) | (refine WIx.intsN (by omega) ?_; conv => whnf) | (refine WIx.rowsN (by omega) ?_; conv => whnf) | (refine WCall.pure (iTb) ?_; conv => whnf) | (refine WCall.pure (iLs) ?_; conv => whnf) | (refine WCall.pure (iP) ?_; conv => whnf) | (refine WCall.pure (iV) ?_; conv => whnf) | (refine WCall.pure (iF) ?_; conv => whnf) | (refine WCall.pure (iC) ?_; conv => whnf) | (refine WCall.pure (AW) ?_; conv => whnf) | ((with_reducible refine WB.decT (by first | with_reducible rfl | assumption | omega | exact ⟨rfl, rfl⟩) ?_); conv => whnf) | ((with_reducible refine WB.decF (by first | assumption | omega) ?_); conv => whnf) | ((with_reducible refine WB.ndT (by first | with_reducible rfl | assumption | omega | exact ⟨rfl, rfl⟩) ?_); conv => whnf) | ((with_reducible refine WB.ndF (by first | assumption | omega) ?_); conv => whnf) | ((with_reducible refine WB.nt ?_); conv => whnf) | ((with_reducible refine WB.nf ?_); conv => whnf) | ((with_reducible refine WB.dec (fun h => ?_) (fun h => ?_)) <;> conv => whnf) | ((with_reducible refine WB.ndec (fun h => ?_) (fun h => ?_)) <;> conv => whnf) | (refine WB.mk (fun h => ?_) (fun h => ?_) <;> conv => whnf)
      all_goals first | exact Fin.b rfl rfl | (exfalso; clear iTb iLs iP iV iF iC AW iT; simp_all [rows]; done)
theorem main_tidePlays (AW : PureF Try.prog p21.ix [] (.b true)) {es : List D} (fit : FitP [(true, [.i .i64, .sl [.i .i64, .i .i64], .i .i64, .sl [.i .i64], .sl [.i .i64, .i .i64, .i .i64, .i .i64]]), (false, [.sl [.i .i64]])] es) : PureF Try.prog 3 es (.b true) := by
  obtain ⟨last, hs, step, lv, ms, _, rfl, g1⟩ := fit.tab
  obtain ⟨t, _, rfl, ht, g2⟩ := g1.list
  obtain rfl := g2.no
  exact c_TidePlays last hs step lv ms t (getD_wfZ ht) AW
end Go.Ev

namespace Go.Proofs.Ytpemagogcagipaa.tidePlays
open Go.ChangeShapes Go.WideShapes Go.ChangeAt Go.RowKit
open Go.ChangeMaps (open_string shut_string)
set_option linter.unusedVariables false

theorem laid : laidOutB Try.prog = true := by kernel_rfl
theorem own : ownKnob Try.prog.godebug = none := by kernel_rfl

/-! ### the walk -/
theorem walk {es : List Go.Ev.D} (fit : Go.Ev.FitP [(true, [.i .i64, .sl [.i .i64, .i .i64], .i .i64, .sl [.i .i64], .sl [.i .i64, .i .i64, .i .i64, .i .i64]]), (false, [.sl [.i .i64]])] es) {args : Array Value} {W : World} (ha : Go.Ev.DVL (Go.Ev.γH W) W es args.toList) :
    Calls Try.prog 3 args W fun e w' => e = .returned (.bool true) ∧ Grown W w' ∧ Below W.heap.size W w' :=
  Go.Ev.PureF.calls (Go.Ev.main_tidePlays (fun ob nx lg => Go.Ev.closed_call Go.Ev.fp_ok Go.Ev.aw ob nx lg) fit) ha

set_option maxRecDepth 100000 in
theorem lifted (os : Os) (started : os.Started) (H : Type) (enc : TypeId × Value → H) :
    ReturnsInHanded {} Try.checked os 3 .any (Rows.tidePlaysSpec.pre6 enc Try.prog Try.f3 Rows.tidePlaysRow.domain false) (Rows.tidePlaysSpec.post enc Try.prog Try.f3 false true false false) := by
  refine returnsInHanded_of_change (C := Try.checked) own started (by kernel_rfl) Try.func3
    (ChangeSpec.witness6 (enc := enc) (C := Try.checked) false ⟨#[], #[.agg #[.int .i64 0, .slice none 0 0, .int .i64 0, .slice none 0 0, .slice none 0 0], .slice none 0 0], []⟩ 8 (by kernel_rfl) (by kernel_rfl) (by kernel_rfl) (by kernel_rfl)) ?_
  intro W base args ds gs before hval0 hW hcnd _
  have hval : ∀ (j : Nat) t v, Try.f3.params[j]? = some t → args[j]? = some v → Value.okWide Try.prog W .any base t v := hval0
  have hW' := hW
  obtain ⟨p, q, hA0, hV, rfl, hfz, hnd⟩ := hW
  have hA : DataW.TrodAll enc Try.prog W 0 (fun _ => true) true Try.f3.params.toList args.toList ds p := hA0
  rw [Try.params3] at hA hval
  obtain ⟨rfl, rfl⟩ := trodVars_none hV
  obtain ⟨d0, d1, rfl⟩ := Go.Ev.len2 (Go.Ev.trod_len hA)
  clear hA0 hval0
  simp only [List.append_nil] at hW'
  obtain ⟨es, fit, dv⟩ := Go.Ev.open_all (n := 6) (pars := [(true, [.i .i64, .sl [.i .i64, .i .i64], .i .i64, .sl [.i .i64], .sl [.i .i64, .i .i64, .i .i64, .i .i64]]), (false, [.sl [.i .i64]])]) (by kernel_rfl) hA (fun j t v h1 h2 => hval j t v (by simpa using h1) (by simpa using h2))
  have hlt : ∀ x ∈ p, x.block < W.heap.size := fun x hx => by simpa using hW'.lt x hx
  refine (walk fit dv).mono fun e W' ⟨he, hg, hb⟩ => ?_
  subst he
  exact ⟨_, rfl, post_of_same (pa := p) (pv := []) hW' (fun _ _ _ => (trodAll_cons_mk (shut_bool Try.underlying4 _) trodAll_mk0))
    (fun sp hs => Go.Ev.stays_all laid (Go.Ev.of_allT (by kernel_rfl)) hA (fun x hx => hb.same (hlt x hx)) (fun x hx => hs x hx))
    (fun _ _ => rfl) (List.append_nil _).symm
    (hg.frame _) hg.2.1 (ok_one (by kernel_rfl) rfl (okWide_bool_mk Try.underlying4 _))⟩

theorem over : Rows.tidePlaysRow.holds Try.pinned (OpenSpec.ofChange Rows.tidePlaysSpec) :=
  OpenClaim.holds_of_wide 3 Try.f3 rfl rfl rfl rfl rfl rfl rfl ⟨rfl, rfl, rfl, rfl, rfl⟩ rfl rfl rfl rfl rfl (by kernel_rfl) Try.func3 (by kernel_rfl)
    (of_decide_eq_true (by kernel_rfl)) (by unfold Func.isWrapper; first | (rw [if_pos (by decide +kernel)]; kernel_rfl) | (rw [if_neg (by decide +kernel)]; exact ⟨rfl, rfl⟩))
    (fun os started H enc _ => lifted os started H enc)

/-- ████ THE STATEMENT ████ -/
theorem proved : Rows.TidePlaysSaid :=
  over
#print axioms proved
end Go.Proofs.Ytpemagogcagipaa.tidePlays
