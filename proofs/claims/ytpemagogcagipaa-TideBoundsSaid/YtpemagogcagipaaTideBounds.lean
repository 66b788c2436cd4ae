/-
  TideBounds: the law answers true for every table, every row and every hour; the only conditions are those of the row itself.
-/
import Derived.Test.YtpemagogcagipaaRows
import Derived.WalkKit
import Derived.ProofKit
import Derived.OpenShut
import Derived.Test.YtpemagogcagipaaEvFt
import Derived.Test.YtpemagogcagipaaEvSy
import Derived.ShutString
import Derived.Test.YtpemagogcagipaaEvMQ
import Derived.Test.YtpemagogcagipaaEvMH
set_option linter.all false
namespace Go.Ev
open Go.Proofs
set_option maxRecDepth 1000000
noncomputable def rc4 : RC := (.seq (.reg [(.u (.box p4 (.t p1))), (.u (.mv p7 (.k (.b false))))]) (.seq (.seq (.reg [(.u (.ldn p16 (.t p4) 5)), (.u (.cf (some p17) p20 [(.t p16)])), (.u (.un p18 .not (.t p17)))]) (.cond (.t p18) (.seq (.reg [(.u (.cf (some p19) p21 [])), (.u (.mv p7 (.t p19)))]) .ret) .skip)) (.seq (.reg [(.u (.ldn p21 (.t p4) 5)), (.u (.cf (some p22) p23 [(.t p21)])), (.u (.cf (some p23) p32 [(.t p22)])), (.u (.mv p20 (.t p23))), (.u (.ext p24 (.t p20) 0)), (.u (.ext p25 (.t p20) 1)), (.u (.mv p8 (.t p24))), (.u (.mv p9 (.t p25)))]) (.seq (.reg [(.u (.ldn p27 (.t p4) 5)), (.u (.cf (some p28) p23 [(.t p27)])), (.u (.mv p29 (.t p2))), (.u (.mv p30 (.t p3))), (.u (.cf (some p31) p33 [(.t p28), (.t p29), (.t p30)])), (.u (.mv p26 (.t p31))), (.u (.ext p32 (.t p26) 0)), (.u (.ext p33 (.t p26) 1)), (.u (.mv p10 (.t p32))), (.u (.mv p11 (.t p33)))]) (.seq (.reg [(.u (.ldn p35 (.t p4) 5)), (.u (.cf (some p36) p34 [(.t p35)])), (.u (.mv p34 (.t p36))), (.u (.ext p37 (.t p34) 0)), (.u (.ext p38 (.t p34) 1)), (.u (.mv p12 (.t p37))), (.u (.mv p13 (.t p38)))]) (.seq (.reg [(.u (.mv p39 (.t p13))), (.u (.mv p14 (.t p39)))]) (.seq (.seq (.reg [(.u (.ldn p40 (.t p4) 5)), (.u (.cf (some p41) p26 [(.t p40)])), (.u (.bin p42 .eql (.t p41) (.k (.i .i64 0)))), (.u (.mv p43 (.t p42))), (.g p43 true (some p44) (.mv p44 (.t p2))), (.g p43 true (some p45) (.fad p45 (.t p4) 3)), (.g p43 true (some p46) (.ld1 p46 (.t p45))), (.g p43 true (some p47) (.len p47 (.t p46))), (.g p43 true (some p48) (.bin p48 .sub (.t p47) (.k (.i .i64 1)))), (.g p43 true (some p49) (.cf (some p49) p35 [(.t p44), (.k (.i .i64 0)), (.t p48)])), (.g p43 true (some p50) (.un p50 .not (.t p49))), (.g p43 true (some p51) (.mv p51 (.t p50))), (.g p51 false (some p52) (.mv p52 (.t p3))), (.g p51 false (some p53) (.fad p53 (.t p4) 0)), (.g p51 false (some p54) (.ld1 p54 (.t p53))), (.g p51 false (some p55) (.cf (some p55) p35 [(.t p52), (.k (.i .i64 0)), (.t p54)])), (.g p51 false (some p56) (.un p56 .not (.t p55))), (.g p43 true (some p57) (.pick p57 (.t p51) (.k (.b true)) (.t p56))), (.u (.pick p58 (.t p43) (.t p57) (.k (.b false))))]) (.cond (.t p58) (.reg [(.u (.mv p14 (.k (.i .i64 2))))]) .skip)) (.seq (.seq (.reg [(.u (.mv p59 (.t p9))), (.u (.mv p60 (.t p13))), (.u (.bin p61 .neq (.t p59) (.t p60))), (.u (.mv p62 (.t p61))), (.g p62 false (some p63) (.mv p63 (.t p11))), (.g p62 false (some p64) (.mv p64 (.t p14))), (.g p62 false (some p65) (.bin p65 .neq (.t p63) (.t p64))), (.u (.pick p66 (.t p62) (.k (.b true)) (.t p65))), (.u (.mv p67 (.t p66))), (.g p67 false (some p68) (.mv p68 (.t p14))), (.g p67 false (some p69) (.bin p69 .neq (.t p68) (.k (.i .i64 0)))), (.g p67 false (some p70) (.mv p70 (.t p69))), (.g p70 true (some p71) (.mv p71 (.t p10))), (.g p70 true (some p72) (.bin p72 .neq (.t p71) (.k (.i .i64 0)))), (.g p67 false (some p73) (.pick p73 (.t p70) (.t p72) (.k (.b false)))), (.u (.pick p74 (.t p67) (.k (.b true)) (.t p73))), (.u (.mv p75 (.t p74))), (.g p75 false (some p76) (.mv p76 (.t p13))), (.g p75 false (some p77) (.bin p77 .neq (.t p76) (.k (.i .i64 0)))), (.g p75 false (some p78) (.mv p78 (.t p77))), (.g p78 true (some p79) (.mv p79 (.t p8))), (.g p78 true (some p80) (.len p80 (.t p79))), (.g p78 true (some p81) (.bin p81 .neq (.t p80) (.k (.i .i64 0)))), (.g p75 false (some p82) (.pick p82 (.t p78) (.t p81) (.k (.b false)))), (.u (.pick p83 (.t p75) (.k (.b true)) (.t p82)))]) (.cond (.t p83) (.seq (.reg [(.u (.mv p7 (.k (.b false))))]) .ret) .skip)) (.seq (.seq (.reg [(.u (.mv p84 (.t p13))), (.u (.bin p85 .neq (.t p84) (.k (.i .i64 0))))]) (.cond (.t p85) (.seq (.reg [(.u (.cf (some p86) p21 [])), (.u (.mv p7 (.t p86)))]) .ret) .skip)) (.seq (.seq (.reg [(.u (.mv p87 (.t p8))), (.u (.len p88 (.t p87))), (.u (.fad p89 (.t p4) 0)), (.u (.ld1 p90 (.t p89))), (.u (.bin p91 .add (.t p90) (.k (.i .i64 1)))), (.u (.bin p92 .neq (.t p88) (.t p91)))]) (.cond (.t p92) (.seq (.reg [(.u (.mv p7 (.k (.b false))))]) .ret) .skip)) (.seq (.seq (.reg [(.u (.mv p15 (.k (.i .i64 0))))]) (.blk 0 (.loop (.seq (.seq (.reg [(.u (.mv p93 (.t p15))), (.u (.mv p94 (.t p8))), (.u (.len p95 (.t p94))), (.u (.bin p96 .lss (.t p93) (.t p95)))]) (.cond (.t p96) .skip (.exit 0))) (.seq (.blk 1 (.seq (.drw [(.u (.mv p99 (.t p8))), (.u (.mv p100 (.t p15))), (.u (.ixs p101 2 (.t p99) (.t p100))), (.u (.ldn p102 (.t p101) 2)), (.u (.mv p103 (.t p12))), (.u (.mv p104 (.t p15))), (.u (.cf (some p105) p37 [(.t p103), (.t p104)])), (.u (.cf (some p106) p36 [(.t p105)])), (.u (.eqr p107 true [(.i .i64), (.i .i64)] (.t p102) (.t p106)))] [0, 0, 3, 7, 0, 0, 48, 112, 255]) (.cond (.t p107) (.seq (.reg [(.u (.mv p7 (.k (.b false))))]) .ret) .skip))) (.reg [(.u (.mv p97 (.t p15))), (.u (.bin p98 .add (.t p97) (.k (.i .i64 1)))), (.u (.mv p15 (.t p98)))])))))) (.seq (.reg [(.u (.mv p108 (.t p14))), (.u (.bin p109 .neq (.t p108) (.k (.i .i64 0)))), (.u (.mv p110 (.t p109))), (.g p110 false (some p111) (.mv p111 (.t p10))), (.g p110 false (some p112) (.mv p112 (.t p12))), (.g p110 false (some p113) (.fad p113 (.t p4) 3)), (.g p110 false (some p114) (.ld1 p114 (.t p113))), (.g p110 false (some p115) (.mv p115 (.t p2))), (.g p110 false (some p116) (.ixs p116 1 (.t p114) (.t p115))), (.g p110 false (some p117) (.ld1 p117 (.t p116))), (.g p110 false (some p118) (.mv p118 (.t p3))), (.g p110 false (some p119) (.cf (some p119) p38 [(.t p112), (.t p117), (.t p118)])), (.g p110 false (some p120) (.bin p120 .eql (.t p111) (.t p119))), (.u (.pick p121 (.t p110) (.k (.b true)) (.t p120))), (.u (.mv p122 (.t p121))), (.g p122 true (some p123) (.cf (some p123) p21 [])), (.u (.pick p124 (.t p122) (.t p123) (.k (.b false)))), (.u (.mv p7 (.t p124)))]) .ret))))))))))))
def rs4 : List RR := [(.t p7)]
theorem fn4 : FnOk Try.prog p5.ix 124 rc4 rs4 := ⟨Try.f4, bodyC Try.f4, Try.func4, by kernel_rfl, by kernel_rfl, by kernel_rfl, by kernel_rfl, by kernel_rfl⟩
end Go.Ev
namespace Go.Ev
open Go.Proofs
set_option maxRecDepth 100000
/-! ### TideBounds -/
set_option maxHeartbeats 8000000 in
theorem c_TideBounds (last : Int) (hs : List Rg) (step : Int) (lv : List Int) (ms : List Mk) (row hour : Int) (AW : PureF Try.prog p21.ix [] (.b true)) : PureF Try.prog p5.ix [.ag [.i .i64 last, .lst 2 (rows rgD hs), .i .i64 step, .lst 1 (ints lv), .lst 4 (rows mkD ms)], .i .i64 row, .i .i64 hour] (.b true) := by
  have e2 := ints_length lv
  have iT := c_Thin last hs step lv ms
  refine PureF.run fn4 (by simp) (by simp [PuL, PuE, Pu, pu_ints, pu_rg, pu_mk]) ?_; conv => whnf
  cases hT : thinR last hs step lv ms with
  | false =>
    rw [hT] at iT
    repeat' first | ((with_reducible apply WB.tt); conv => whnf) | ((with_reducible apply WB.ff); conv => whnf) | (refine Rn.seq ?_; conv => whnf) | (refine Rn.reg ?_; conv => whnf) | (refine Rn.drw ?_; conv => whnf) | (refine Rn.blk ?_; conv => whnf) | (refine Rn.skip ?_; conv => whnf) | (refine Rn.ret ?_; conv => whnf) | (refine Rn.exit ?_; conv => whnf) | (refine Rn.cond rfl ?_; conv => whnf) | (refine And.intro (InR.i64 (by omega) (by omega)) ?_; conv => whnf) | (refine And.intro (show _ ≠ (0 : Int) by omega) ?_; conv => whnf) | (refine WIx.intsN (by omega) ?_; conv => whnf) | (refine WIx.rowsN (by omega) ?_; conv => whnf) | (refine WCall.pure (iT) ?_; conv => whnf)
    refine WB.tt ?_; conv => whnf
    repeat' first | ((with_reducible apply WB.tt); conv => whnf) | ((with_reducible apply WB.ff); conv => whnf) | (refine Rn.seq ?_; conv => whnf) | (refine Rn.reg ?_; conv => whnf) | (refine Rn.drw ?_; conv => whnf) | (refine Rn.blk ?_; conv => whnf) | (refine Rn.skip ?_; conv => whnf) | (refine Rn.ret ?_; conv => whnf) | (refine Rn.exit ?_; conv => whnf) | (refine Rn.cond rfl ?_; conv => whnf) | (refine And.intro (InR.i64 (by omega) (by omega)) ?_; conv => whnf) | (refine And.intro (show _ ≠ (0 : Int) by omega) ?_; conv => whnf) | (refine WIx.intsN (by omega) ?_; conv => whnf) | (refine WIx.rowsN (by omega) ?_; conv => whnf) | (refine WCall.pure (AW) ?_; conv => whnf)
    exact Fin.b rfl rfl
  | true =>
    rw [hT] at iT
    have hT' := hT
    unfold thinR at hT'
    rw [Bool.and_eq_true, decide_eq_true_iff] at hT'
    obtain ⟨hsz, _⟩ := hT'
    have iTb := c_Table last hs step lv ms (by omega) (by omega) (by omega)
    have hTl : faultR last hs step lv ms = 0 → (truthS hs step ms).length ≤ 1000 := fun hf => Nat.le_trans (thin_few hT hf) (by omega)
    have iB := c_Bounds last hs step lv ms hTl
    have iW := c_Wet last hs step lv ms row hour (by omega) hTl
    have iS := c_sure last hs step lv ms
    have iF := c_fault last hs step lv ms
    have iI := c_In row 0 (((ints lv).length : Int) - 1)
    have hI : inB row 0 (((ints lv).length : Int) - 1) = inB row 0 ((lv.length : Int) - 1) := by rw [e2]
    rw [hI] at iI
    have iJ := c_In hour 0 last
    have hWB := want_start last hs step lv ms true
    have hsE : sureE last hs step lv ms = bndE last hs step lv ms := by
      unfold wantE at hWB
      rw [if_neg (by simp)] at hWB
      exact hWB
    have hC : cellB last lv row hour = (inB row 0 ((lv.length : Int) - 1) && inB hour 0 last) := rfl
    have hWe : wetE last hs step lv ms row hour = if faultR last hs step lv ms = 0 then (bif cellB last lv row hour then bndE last hs step lv ms else 2) else faultR last hs step lv ms := by
      unfold wetE bndE startE
      by_cases hf : faultR last hs step lv ms = 0
      · rw [if_pos hf, if_pos hf, if_pos hf]
        cases cellB last lv row hour <;> rfl
      · rw [if_neg hf, if_neg hf]
    have hBf : ¬ faultR last hs step lv ms = 0 → bndE last hs step lv ms = faultR last hs step lv ms := fun hf => by unfold bndE startE; rw [if_neg hf]
    rw [hsE] at iS
    repeat' first | ((with_reducible apply WB.tt); conv => whnf) | ((with_reducible apply WB.ff); conv => whnf) | (refine Rn.seq ?_; conv => whnf) | (refine Rn.reg ?_; conv => whnf) | (refine Rn.drw ?_; conv => whnf) | (refine Rn.blk ?_; conv => whnf) | (refine Rn.skip ?_; conv => whnf) | (refine Rn.ret ?_; conv => whnf) | (refine Rn.exit ?_; conv => whnf) | (refine Rn.cond rfl ?_; conv => whnf) | (refine And.intro (InR.i64 (by omega) (by omega)) ?_; conv => whnf) | (refine And.intro (show _ ≠ (0 : Int) by omega) ?_; conv => whnf) | (refine WIx.intsN (by omega) ?_; conv => whnf) | (refine WIx.rowsN (by omega) ?_; conv => whnf) | (refine WCall.pure (iT) ?_; conv => whnf)
    refine WB.ff ?_; conv => whnf
    by_cases hE : bndE last hs step lv ms = 0
    · have hE' : startE last hs step lv ms true = 0 := hE
      obtain ⟨hf, _, hp⟩ := start_zero hE'
      obtain ⟨V, hm, _⟩ := fault_zero hf
      have hn := V.n
      have h10 := V.h10
      have hsL : sureL last hs step lv ms = truthsR hs step ms := by unfold sureL; rw [if_pos (hsE.trans hE)]
      have hBL : bndL last hs step lv ms = bdsR (truthS hs step ms) hs.length := by unfold bndL; rw [if_pos hE]
      have hrl := rows_length rgD (bdsR (truthS hs step ms) hs.length)
      have hbl : (bdsR (truthS hs step ms) hs.length).length = hs.length := by simp [bdsR]
      have hat : ∀ j, j < hs.length → (bdsR (truthS hs step ms) hs.length).getD j default = ⟨(widR ((truthsR hs step ms).map fun t => t.getD j 0)).1, (widR ((truthsR hs step ms).map fun t => t.getD j 0)).2⟩ := fun j h => by
        have e : (bdsR (truthS hs step ms) hs.length).getD j default = bdG (truthS hs step ms) j := by simp [bdsR, List.getD, h]
        rw [e, ← bnd_same V hm hp h]
        rfl
      have hTl3 : (truthsR hs step ms).length ≤ 3000 := Nat.le_trans (List.length_filter_le _ _) (lists_len V.hv step)
      have hlen : ∀ t ∈ truthsR hs step ms, t.length = hs.length := fun t ht => ((mem_truthsR V hm).1 ht).1
      have hp2 : 0 < (truthsR hs step ms).length := by
        cases hL : truthsR hs step ms with
        | nil => rw [(truth_nil V hm).2 hL] at hp; cases hp
        | cons a s => simp
      have iRf := fun (j : Nat) (h : j < hs.length) => c_BoundsRef (truthsR hs step ms) j hTl3 fun t ht => by rw [hlen t ht]; exact h
      have hbd := fun (j : Nat) (h : j < hs.length) => wid_bd (B := (truthsR hs step ms).map fun t => t.getD j 0) (n := 99) (by rw [List.length_map]; exact hp2) (fun x hx => by
        obtain ⟨t, ht, rfl⟩ := List.mem_map.1 hx
        exact truth_hts V hm ht h) (by omega)
      have hcell : cellB last lv row hour = true → ∃ r h : Nat, row = (r : Int) ∧ hour = (h : Int) ∧ r < lv.length ∧ h < hs.length ∧ wetV last hs step lv ms row hour = verN (truthsR hs step ms) (lv.getD r 0) h := fun hc => by
        have hc' := hc
        rw [hC, Bool.and_eq_true] at hc'
        have b1 := inB_iff.1 hc'.1
        have b2 := inB_iff.1 hc'.2
        obtain ⟨r, rfl⟩ := Int.eq_ofNat_of_zero_le b1.1
        obtain ⟨h, rfl⟩ := Int.eq_ofNat_of_zero_le b2.1
        refine ⟨r, h, rfl, rfl, by omega, by omega, ?_⟩
        have hw : wetE last hs step lv ms ((r : Nat) : Int) ((h : Nat) : Int) = 0 := by rw [hWe, if_pos hf, hc, cond_true]; exact hE
        unfold wetV
        rw [if_pos hw]
        exact ver_same V hm hp (by omega) _
      rw [hf] at iF
      rw [hE, hBL] at iB
      rw [hE, hsL] at iS
      rw [if_pos hf, hE] at hWe
      clear hBL hsL hE hE' hsE hWB hBf
      generalize bdsR (truthS hs step ms) hs.length = bl at *
      cases h1 : inB row 0 ((lv.length : Int) - 1)
      · cases h2 : inB hour 0 last
        all_goals
          rw [h1] at iI hC
          rw [h2] at iJ hC
          rw [show cellB last lv row hour = false by rw [hC]; rfl, cond_false] at hWe
          have hV : wetV last hs step lv ms row hour = 0 := by unfold wetV; rw [hWe]; rfl
          rw [hWe, hV] at iW
          clear hcell hWe hV hC
          repeat' first | ((with_reducible apply WB.tt); conv => whnf) | ((with_reducible apply WB.ff); conv => whnf) | (refine Rn.seq ?_; conv => whnf) | (refine Rn.reg ?_; conv => whnf) | (refine Rn.drw ?_; conv => whnf) | (refine Rn.blk ?_; conv => whnf) | (refine Rn.skip ?_; conv => whnf) | (refine Rn.ret ?_; conv => whnf) | (refine Rn.exit ?_; conv => whnf) | (refine Rn.cond rfl ?_; conv => whnf) | (refine And.intro (InR.i64 (by omega) (by omega)) ?_; conv => whnf) | (refine And.intro (show _ ≠ (0 : Int) by omega) ?_; conv => whnf) | (refine WIx.intsN (by omega) ?_; conv => whnf) | (refine WIx.rowsN (by omega) ?_; conv => whnf) | (refine WCall.pure (iTb) ?_; conv => whnf) | (refine WCall.pure (iB) ?_; conv => whnf) | (refine WCall.pure (iW) ?_; conv => whnf) | (refine WCall.pure (iS) ?_; conv => whnf) | (refine WCall.pure (iF) ?_; conv => whnf) | (refine WCall.pure (iI) ?_; conv => whnf) | (refine WCall.pure (iJ) ?_; conv => whnf) | ((with_reducible refine WB.decT (by first | with_reducible rfl | assumption | omega | exact ⟨rfl, rfl⟩) ?_); conv => whnf) | ((with_reducible refine WB.decF (by first | assumption | omega) ?_); conv => whnf) | ((with_reducible refine WB.ndT (by first | with_reducible rfl | assumption | omega | exact ⟨rfl, rfl⟩) ?_); conv => whnf) | ((with_reducible refine WB.ndF (by first | assumption | omega) ?_); conv => whnf) | ((with_reducible refine WB.nt ?_); conv => whnf) | ((with_reducible refine WB.nf ?_); conv => whnf) | ((with_reducible refine WB.dec (fun h => ?_) (fun h => ?_)) <;> conv => whnf) | ((with_reducible refine WB.ndec (fun h => ?_) (fun h => ?_)) <;> conv => whnf) | (refine WB.mk (fun h => ?_) (fun h => ?_) <;> conv => whnf) | (refine WB.tt ?_; conv => whnf) | (refine WB.ff ?_; conv => whnf)
          all_goals first | (exfalso; omega) | exact absurd h (by decide) | skip
          refine Rn.loop (fun j : Nat => ⟨(.n (.n (.n (.n .e (some (.lst 2 (rows rgD bl))) .e) (some (.pt .h 0 0)) (.n .e (some (.lst 1 (rows tD (truthsR hs step ms)))) .e)) (some (.i .i64 row)) (.n (.n .e (some (.i .i64 0)) .e) none (.n .e (some (.i .i64 2)) .e))) none (.n .e (some (.i .i64 hour)) (.n .e none (.n .e (some (.i .i64 (j : Int))) .e)))), (.n .e (some (tabC last hs step lv ms)) .e), .o .h, none⟩) (fun j => j ≤ hs.length) (fun j => hs.length - j) 0 ?_ ?_ ?_
          · refine X.le.mk ?_ ?_ (Nat.le_refl _) rfl rfl
            · show T.le ((.n (.n (.n (.n .e (some (.lst 2 (rows rgD bl))) .e) (some (.pt .h 0 0)) (.n .e (some (.lst 1 (rows tD (truthsR hs step ms)))) .e)) (some (.i .i64 row)) (.n (.n .e (some (.i .i64 0)) .e) none (.n .e (some (.i .i64 2)) .e))) none (.n .e (some (.i .i64 hour)) (.n .e none (.n .e (some (.i .i64 ((0 : Nat) : Int))) .e)))) : T D) _
              (repeat' first | exact T.le_e _ | refine T.le_some ?_ rfl ?_ | refine T.le_none ?_ ?_)
            · show T.le ((.n .e (some (tabC last hs step lv ms)) .e) : T C) _
              (repeat' first | exact T.le_e _ | refine T.le_some ?_ rfl ?_ | refine T.le_none ?_ ?_ | refine T.le_ee ?_ ?_)
          · exact Nat.zero_le _
          intro j hj
          have hj : j ≤ hs.length := hj
          conv => whnf
          repeat' first | ((with_reducible apply WB.tt); conv => whnf) | ((with_reducible apply WB.ff); conv => whnf) | (refine Rn.seq ?_; conv => whnf) | (refine Rn.reg ?_; conv => whnf) | (refine Rn.drw ?_; conv => whnf) | (refine Rn.blk ?_; conv => whnf) | (refine Rn.skip ?_; conv => whnf) | (refine Rn.ret ?_; conv => whnf) | (refine Rn.exit ?_; conv => whnf) | (refine Rn.cond rfl ?_; conv => whnf) | (refine And.intro (InR.i64 (by omega) (by omega)) ?_; conv => whnf) | (refine And.intro (show _ ≠ (0 : Int) by omega) ?_; conv => whnf) | (refine WIx.intsN (by omega) ?_; conv => whnf) | (refine WIx.rowsN (by omega) ?_; conv => whnf)
          refine WB.dec (fun h => ?_) (fun h => ?_) <;> conv => whnf
          · have hlt : j < hs.length := by omega
            have hA := hat j hlt
            have hB := hbd j hlt
            have cR := iRf j hlt
            have cT := c_to (widR ((truthsR hs step ms).map fun t => t.getD j 0)).1 (widR ((truthsR hs step ms).map fun t => t.getD j 0)).2
            generalize widR ((truthsR hs step ms).map fun t => t.getD j 0) = w at *
            have ha : (bl.getD j default).lo = w.1 := by rw [hA]
            have hb : (bl.getD j default).hi = w.2 := by rw [hA]
            have hab : (bl.getD j default).lo = w.1 ∧ (bl.getD j default).hi = w.2 := ⟨ha, hb⟩
            have w1 := wf_small (n := w.1) (by omega) (by omega)
            have w2 := wf_small (n := w.2) (by omega) (by omega)
            repeat' first | ((with_reducible apply WB.tt); conv => whnf) | ((with_reducible apply WB.ff); conv => whnf) | (refine Rn.seq ?_; conv => whnf) | (refine Rn.reg ?_; conv => whnf) | (refine Rn.drw ?_; conv => whnf) | (refine Rn.blk ?_; conv => whnf) | (refine Rn.skip ?_; conv => whnf) | (refine Rn.ret ?_; conv => whnf) | (refine Rn.exit ?_; conv => whnf) | (refine Rn.cond rfl ?_; conv => whnf) | (refine And.intro (InR.i64 (by omega) (by omega)) ?_; conv => whnf) | (refine And.intro (show _ ≠ (0 : Int) by omega) ?_; conv => whnf) | (refine WIx.intsN (by omega) ?_; conv => whnf) | (refine WIx.rowsN (by omega) ?_; conv => whnf) | (refine WCall.pure (cR) ?_; conv => whnf) | (refine WCall.pure (cT) ?_; conv => whnf)
            refine WSt.eqr2n rfl rfl (by rw [ha]; exact w1) (by rw [hb]; exact w2) w1 w2 ?_; conv => whnf
            repeat' first | ((with_reducible apply WB.tt); conv => whnf) | ((with_reducible apply WB.ff); conv => whnf) | (refine Rn.seq ?_; conv => whnf) | (refine Rn.reg ?_; conv => whnf) | (refine Rn.drw ?_; conv => whnf) | (refine Rn.blk ?_; conv => whnf) | (refine Rn.skip ?_; conv => whnf) | (refine Rn.ret ?_; conv => whnf) | (refine Rn.exit ?_; conv => whnf) | (refine Rn.cond rfl ?_; conv => whnf) | (refine And.intro (InR.i64 (by omega) (by omega)) ?_; conv => whnf) | (refine And.intro (show _ ≠ (0 : Int) by omega) ?_; conv => whnf) | (refine WIx.intsN (by omega) ?_; conv => whnf) | (refine WIx.rowsN (by omega) ?_; conv => whnf) | (refine WCall.pure (cR) ?_; conv => whnf) | ((with_reducible refine WB.decT (by first | with_reducible rfl | assumption | omega | exact ⟨rfl, rfl⟩) ?_); conv => whnf) | ((with_reducible refine WB.decF (by first | assumption | omega) ?_); conv => whnf) | ((with_reducible refine WB.ndT (by first | with_reducible rfl | assumption | omega | exact ⟨rfl, rfl⟩) ?_); conv => whnf) | ((with_reducible refine WB.ndF (by first | assumption | omega) ?_); conv => whnf) | ((with_reducible refine WB.nt ?_); conv => whnf) | ((with_reducible refine WB.nf ?_); conv => whnf) | ((with_reducible refine WB.dec (fun h => ?_) (fun h => ?_)) <;> conv => whnf) | ((with_reducible refine WB.ndec (fun h => ?_) (fun h => ?_)) <;> conv => whnf) | (refine WB.mk (fun h => ?_) (fun h => ?_) <;> conv => whnf) | (refine WB.tt ?_; conv => whnf) | (refine WB.ff ?_; conv => whnf)
            refine Again.to (j + 1) (by omega) (by omega) (Nat.le_refl _) ?_
            refine Shr.of ?_ ?_ rfl rfl
            · show Rel _ _ ((.n (.n (.n (.n .e (some (.lst 2 (rows rgD bl))) .e) (some (.pt .h 0 0)) (.n .e (some (.lst 1 (rows tD (truthsR hs step ms)))) .e)) (some (.i .i64 row)) (.n (.n .e (some (.i .i64 0)) .e) none (.n .e (some (.i .i64 2)) .e))) none (.n .e (some (.i .i64 hour)) (.n .e none (.n .e (some (.i .i64 ((j + 1 : Nat) : Int))) .e)))) : T D) _
              (repeat' first | exact Rel.e | refine Rel.some ?_ ?_ ?_ | refine Rel.none ?_ ?_ | refine Rel.ee ?_ ?_)
              all_goals show Fz _ _ _ _
              all_goals first | exact .pu trivial | exact .pu (pu_rg _) | exact .pu (pu_tR _) | exact .kpt (show _ < 2 by simp [Pos.nat])
            · show Rel _ _ ((.n .e (some (tabC last hs step lv ms)) .e) : T C) _
              (repeat' first | exact Rel.e | refine Rel.some ?_ ?_ ?_ | refine Rel.none ?_ ?_ | refine Rel.ee ?_ ?_)
              exact RO'.of (show _ < 2 by simp [Pos.nat]) (tabC_sh last hs step lv ms)
          · repeat' first | ((with_reducible apply WB.tt); conv => whnf) | ((with_reducible apply WB.ff); conv => whnf) | (refine Rn.seq ?_; conv => whnf) | (refine Rn.reg ?_; conv => whnf) | (refine Rn.drw ?_; conv => whnf) | (refine Rn.blk ?_; conv => whnf) | (refine Rn.skip ?_; conv => whnf) | (refine Rn.ret ?_; conv => whnf) | (refine Rn.exit ?_; conv => whnf) | (refine Rn.cond rfl ?_; conv => whnf) | (refine And.intro (InR.i64 (by omega) (by omega)) ?_; conv => whnf) | (refine And.intro (show _ ≠ (0 : Int) by omega) ?_; conv => whnf) | (refine WIx.intsN (by omega) ?_; conv => whnf) | (refine WIx.rowsN (by omega) ?_; conv => whnf) | (refine WCall.pure (AW) ?_; conv => whnf) | ((with_reducible refine WB.decT (by first | with_reducible rfl | assumption | omega | exact ⟨rfl, rfl⟩) ?_); conv => whnf) | ((with_reducible refine WB.decF (by first | assumption | omega) ?_); conv => whnf) | ((with_reducible refine WB.ndT (by first | with_reducible rfl | assumption | omega | exact ⟨rfl, rfl⟩) ?_); conv => whnf) | ((with_reducible refine WB.ndF (by first | assumption | omega) ?_); conv => whnf) | ((with_reducible refine WB.nt ?_); conv => whnf) | ((with_reducible refine WB.nf ?_); conv => whnf) | ((with_reducible refine WB.dec (fun h => ?_) (fun h => ?_)) <;> conv => whnf) | ((with_reducible refine WB.ndec (fun h => ?_) (fun h => ?_)) <;> conv => whnf) | (refine WB.mk (fun h => ?_) (fun h => ?_) <;> conv => whnf) | (refine WB.tt ?_; conv => whnf) | (refine WB.ff ?_; conv => whnf)
            exact Fin.b rfl rfl
      · cases h2 : inB hour 0 last
        · rw [h1] at iI hC
          rw [h2] at iJ hC
          rw [show cellB last lv row hour = false by rw [hC]; rfl, cond_false] at hWe
          have hV : wetV last hs step lv ms row hour = 0 := by unfold wetV; rw [hWe]; rfl
          rw [hWe, hV] at iW
          clear hcell hWe hV hC
          repeat' first | ((with_reducible apply WB.tt); conv => whnf) | ((with_reducible apply WB.ff); conv => whnf) | (refine Rn.seq ?_; conv => whnf) | (refine Rn.reg ?_; conv => whnf) | (refine Rn.drw ?_; conv => whnf) | (refine Rn.blk ?_; conv => whnf) | (refine Rn.skip ?_; conv => whnf) | (refine Rn.ret ?_; conv => whnf) | (refine Rn.exit ?_; conv => whnf) | (refine Rn.cond rfl ?_; conv => whnf) | (refine And.intro (InR.i64 (by omega) (by omega)) ?_; conv => whnf) | (refine And.intro (show _ ≠ (0 : Int) by omega) ?_; conv => whnf) | (refine WIx.intsN (by omega) ?_; conv => whnf) | (refine WIx.rowsN (by omega) ?_; conv => whnf) | (refine WCall.pure (iTb) ?_; conv => whnf) | (refine WCall.pure (iB) ?_; conv => whnf) | (refine WCall.pure (iW) ?_; conv => whnf) | (refine WCall.pure (iS) ?_; conv => whnf) | (refine WCall.pure (iF) ?_; conv => whnf) | (refine WCall.pure (iI) ?_; conv => whnf) | (refine WCall.pure (iJ) ?_; conv => whnf) | ((with_reducible refine WB.decT (by first | with_reducible rfl | assumption | omega | exact ⟨rfl, rfl⟩) ?_); conv => whnf) | ((with_reducible refine WB.decF (by first | assumption | omega) ?_); conv => whnf) | ((with_reducible refine WB.ndT (by first | with_reducible rfl | assumption | omega | exact ⟨rfl, rfl⟩) ?_); conv => whnf) | ((with_reducible refine WB.ndF (by first | assumption | omega) ?_); conv => whnf) | ((with_reducible refine WB.nt ?_); conv => whnf) | ((with_reducible refine WB.nf ?_); conv => whnf) | ((with_reducible refine WB.dec (fun h => ?_) (fun h => ?_)) <;> conv => whnf) | ((with_reducible refine WB.ndec (fun h => ?_) (fun h => ?_)) <;> conv => whnf) | (refine WB.mk (fun h => ?_) (fun h => ?_) <;> conv => whnf) | (refine WB.tt ?_; conv => whnf) | (refine WB.ff ?_; conv => whnf)
          all_goals first | (exfalso; omega) | exact absurd h (by decide) | skip
          refine Rn.loop (fun j : Nat => ⟨(.n (.n (.n (.n .e (some (.lst 2 (rows rgD bl))) .e) (some (.pt .h 0 0)) (.n .e (some (.lst 1 (rows tD (truthsR hs step ms)))) .e)) (some (.i .i64 row)) (.n (.n .e (some (.i .i64 0)) .e) none (.n .e (some (.i .i64 2)) .e))) none (.n .e (some (.i .i64 hour)) (.n .e none (.n .e (some (.i .i64 (j : Int))) .e)))), (.n .e (some (tabC last hs step lv ms)) .e), .o .h, none⟩) (fun j => j ≤ hs.length) (fun j => hs.length - j) 0 ?_ ?_ ?_
          · refine X.le.mk ?_ ?_ (Nat.le_refl _) rfl rfl
            · show T.le ((.n (.n (.n (.n .e (some (.lst 2 (rows rgD bl))) .e) (some (.pt .h 0 0)) (.n .e (some (.lst 1 (rows tD (truthsR hs step ms)))) .e)) (some (.i .i64 row)) (.n (.n .e (some (.i .i64 0)) .e) none (.n .e (some (.i .i64 2)) .e))) none (.n .e (some (.i .i64 hour)) (.n .e none (.n .e (some (.i .i64 ((0 : Nat) : Int))) .e)))) : T D) _
              (repeat' first | exact T.le_e _ | refine T.le_some ?_ rfl ?_ | refine T.le_none ?_ ?_)
            · show T.le ((.n .e (some (tabC last hs step lv ms)) .e) : T C) _
              (repeat' first | exact T.le_e _ | refine T.le_some ?_ rfl ?_ | refine T.le_none ?_ ?_ | refine T.le_ee ?_ ?_)
          · exact Nat.zero_le _
          intro j hj
          have hj : j ≤ hs.length := hj
          conv => whnf
          repeat' first | ((with_reducible apply WB.tt); conv => whnf) | ((with_reducible apply WB.ff); conv => whnf) | (refine Rn.seq ?_; conv => whnf) | (refine Rn.reg ?_; conv => whnf) | (refine Rn.drw ?_; conv => whnf) | (refine Rn.blk ?_; conv => whnf) | (refine Rn.skip ?_; conv => whnf) | (refine Rn.ret ?_; conv => whnf) | (refine Rn.exit ?_; conv => whnf) | (refine Rn.cond rfl ?_; conv => whnf) | (refine And.intro (InR.i64 (by omega) (by omega)) ?_; conv => whnf) | (refine And.intro (show _ ≠ (0 : Int) by omega) ?_; conv => whnf) | (refine WIx.intsN (by omega) ?_; conv => whnf) | (refine WIx.rowsN (by omega) ?_; conv => whnf)
          refine WB.dec (fun h => ?_) (fun h => ?_) <;> conv => whnf
          · have hlt : j < hs.length := by omega
            have hA := hat j hlt
            have hB := hbd j hlt
            have cR := iRf j hlt
            have cT := c_to (widR ((truthsR hs step ms).map fun t => t.getD j 0)).1 (widR ((truthsR hs step ms).map fun t => t.getD j 0)).2
            generalize widR ((truthsR hs step ms).map fun t => t.getD j 0) = w at *
            have ha : (bl.getD j default).lo = w.1 := by rw [hA]
            have hb : (bl.getD j default).hi = w.2 := by rw [hA]
            have hab : (bl.getD j default).lo = w.1 ∧ (bl.getD j default).hi = w.2 := ⟨ha, hb⟩
            have w1 := wf_small (n := w.1) (by omega) (by omega)
            have w2 := wf_small (n := w.2) (by omega) (by omega)
            repeat' first | ((with_reducible apply WB.tt); conv => whnf) | ((with_reducible apply WB.ff); conv => whnf) | (refine Rn.seq ?_; conv => whnf) | (refine Rn.reg ?_; conv => whnf) | (refine Rn.drw ?_; conv => whnf) | (refine Rn.blk ?_; conv => whnf) | (refine Rn.skip ?_; conv => whnf) | (refine Rn.ret ?_; conv => whnf) | (refine Rn.exit ?_; conv => whnf) | (refine Rn.cond rfl ?_; conv => whnf) | (refine And.intro (InR.i64 (by omega) (by omega)) ?_; conv => whnf) | (refine And.intro (show _ ≠ (0 : Int) by omega) ?_; conv => whnf) | (refine WIx.intsN (by omega) ?_; conv => whnf) | (refine WIx.rowsN (by omega) ?_; conv => whnf) | (refine WCall.pure (cR) ?_; conv => whnf) | (refine WCall.pure (cT) ?_; conv => whnf)
            refine WSt.eqr2n rfl rfl (by rw [ha]; exact w1) (by rw [hb]; exact w2) w1 w2 ?_; conv => whnf
            repeat' first | ((with_reducible apply WB.tt); conv => whnf) | ((with_reducible apply WB.ff); conv => whnf) | (refine Rn.seq ?_; conv => whnf) | (refine Rn.reg ?_; conv => whnf) | (refine Rn.drw ?_; conv => whnf) | (refine Rn.blk ?_; conv => whnf) | (refine Rn.skip ?_; conv => whnf) | (refine Rn.ret ?_; conv => whnf) | (refine Rn.exit ?_; conv => whnf) | (refine Rn.cond rfl ?_; conv => whnf) | (refine And.intro (InR.i64 (by omega) (by omega)) ?_; conv => whnf) | (refine And.intro (show _ ≠ (0 : Int) by omega) ?_; conv => whnf) | (refine WIx.intsN (by omega) ?_; conv => whnf) | (refine WIx.rowsN (by omega) ?_; conv => whnf) | (refine WCall.pure (cR) ?_; conv => whnf) | ((with_reducible refine WB.decT (by first | with_reducible rfl | assumption | omega | exact ⟨rfl, rfl⟩) ?_); conv => whnf) | ((with_reducible refine WB.decF (by first | assumption | omega) ?_); conv => whnf) | ((with_reducible refine WB.ndT (by first | with_reducible rfl | assumption | omega | exact ⟨rfl, rfl⟩) ?_); conv => whnf) | ((with_reducible refine WB.ndF (by first | assumption | omega) ?_); conv => whnf) | ((with_reducible refine WB.nt ?_); conv => whnf) | ((with_reducible refine WB.nf ?_); conv => whnf) | ((with_reducible refine WB.dec (fun h => ?_) (fun h => ?_)) <;> conv => whnf) | ((with_reducible refine WB.ndec (fun h => ?_) (fun h => ?_)) <;> conv => whnf) | (refine WB.mk (fun h => ?_) (fun h => ?_) <;> conv => whnf) | (refine WB.tt ?_; conv => whnf) | (refine WB.ff ?_; conv => whnf)
            refine Again.to (j + 1) (by omega) (by omega) (Nat.le_refl _) ?_
            refine Shr.of ?_ ?_ rfl rfl
            · show Rel _ _ ((.n (.n (.n (.n .e (some (.lst 2 (rows rgD bl))) .e) (some (.pt .h 0 0)) (.n .e (some (.lst 1 (rows tD (truthsR hs step ms)))) .e)) (some (.i .i64 row)) (.n (.n .e (some (.i .i64 0)) .e) none (.n .e (some (.i .i64 2)) .e))) none (.n .e (some (.i .i64 hour)) (.n .e none (.n .e (some (.i .i64 ((j + 1 : Nat) : Int))) .e)))) : T D) _
              (repeat' first | exact Rel.e | refine Rel.some ?_ ?_ ?_ | refine Rel.none ?_ ?_ | refine Rel.ee ?_ ?_)
              all_goals show Fz _ _ _ _
              all_goals first | exact .pu trivial | exact .pu (pu_rg _) | exact .pu (pu_tR _) | exact .kpt (show _ < 2 by simp [Pos.nat])
            · show Rel _ _ ((.n .e (some (tabC last hs step lv ms)) .e) : T C) _
              (repeat' first | exact Rel.e | refine Rel.some ?_ ?_ ?_ | refine Rel.none ?_ ?_ | refine Rel.ee ?_ ?_)
              exact RO'.of (show _ < 2 by simp [Pos.nat]) (tabC_sh last hs step lv ms)
          · repeat' first | ((with_reducible apply WB.tt); conv => whnf) | ((with_reducible apply WB.ff); conv => whnf) | (refine Rn.seq ?_; conv => whnf) | (refine Rn.reg ?_; conv => whnf) | (refine Rn.drw ?_; conv => whnf) | (refine Rn.blk ?_; conv => whnf) | (refine Rn.skip ?_; conv => whnf) | (refine Rn.ret ?_; conv => whnf) | (refine Rn.exit ?_; conv => whnf) | (refine Rn.cond rfl ?_; conv => whnf) | (refine And.intro (InR.i64 (by omega) (by omega)) ?_; conv => whnf) | (refine And.intro (show _ ≠ (0 : Int) by omega) ?_; conv => whnf) | (refine WIx.intsN (by omega) ?_; conv => whnf) | (refine WIx.rowsN (by omega) ?_; conv => whnf) | (refine WCall.pure (AW) ?_; conv => whnf) | ((with_reducible refine WB.decT (by first | with_reducible rfl | assumption | omega | exact ⟨rfl, rfl⟩) ?_); conv => whnf) | ((with_reducible refine WB.decF (by first | assumption | omega) ?_); conv => whnf) | ((with_reducible refine WB.ndT (by first | with_reducible rfl | assumption | omega | exact ⟨rfl, rfl⟩) ?_); conv => whnf) | ((with_reducible refine WB.ndF (by first | assumption | omega) ?_); conv => whnf) | ((with_reducible refine WB.nt ?_); conv => whnf) | ((with_reducible refine WB.nf ?_); conv => whnf) | ((with_reducible refine WB.dec (fun h => ?_) (fun h => ?_)) <;> conv => whnf) | ((with_reducible refine WB.ndec (fun h => ?_) (fun h => ?_)) <;> conv => whnf) | (refine WB.mk (fun h => ?_) (fun h => ?_) <;> conv => whnf) | (refine WB.tt ?_; conv => whnf) | (refine WB.ff ?_; conv => whnf)
            exact Fin.b rfl rfl
        · rw [h1] at iI hC
          rw [h2] at iJ hC
          have hC : cellB last lv row hour = true := hC
          obtain ⟨r, z, rfl, rfl, hr, hz, hV⟩ := hcell hC
          rw [hC, cond_true] at hWe
          rw [hWe, hV] at iW
          have iVd := c_Verdict (truthsR hs step ms) (lv.getD r 0) z hTl3 fun t ht => by rw [hlen t ht]; exact hz
          clear hcell hWe hV hC
          generalize verN (truthsR hs step ms) (lv.getD r 0) z = vd at *
          repeat' first | ((with_reducible apply WB.tt); conv => whnf) | ((with_reducible apply WB.ff); conv => whnf) | (refine Rn.seq ?_; conv => whnf) | (refine Rn.reg ?_; conv => whnf) | (refine Rn.drw ?_; conv => whnf) | (refine Rn.blk ?_; conv => whnf) | (refine Rn.skip ?_; conv => whnf) | (refine Rn.ret ?_; conv => whnf) | (refine Rn.exit ?_; conv => whnf) | (refine Rn.cond rfl ?_; conv => whnf) | (refine And.intro (InR.i64 (by omega) (by omega)) ?_; conv => whnf) | (refine And.intro (show _ ≠ (0 : Int) by omega) ?_; conv => whnf) | (refine WIx.intsN (by omega) ?_; conv => whnf) | (refine WIx.rowsN (by omega) ?_; conv => whnf) | (refine WCall.pure (iTb) ?_; conv => whnf) | (refine WCall.pure (iB) ?_; conv => whnf) | (refine WCall.pure (iW) ?_; conv => whnf) | (refine WCall.pure (iS) ?_; conv => whnf) | (refine WCall.pure (iF) ?_; conv => whnf) | (refine WCall.pure (iI) ?_; conv => whnf) | (refine WCall.pure (iJ) ?_; conv => whnf) | ((with_reducible refine WB.decT (by first | with_reducible rfl | assumption | omega | exact ⟨rfl, rfl⟩) ?_); conv => whnf) | ((with_reducible refine WB.decF (by first | assumption | omega) ?_); conv => whnf) | ((with_reducible refine WB.ndT (by first | with_reducible rfl | assumption | omega | exact ⟨rfl, rfl⟩) ?_); conv => whnf) | ((with_reducible refine WB.ndF (by first | assumption | omega) ?_); conv => whnf) | ((with_reducible refine WB.nt ?_); conv => whnf) | ((with_reducible refine WB.nf ?_); conv => whnf) | ((with_reducible refine WB.dec (fun h => ?_) (fun h => ?_)) <;> conv => whnf) | ((with_reducible refine WB.ndec (fun h => ?_) (fun h => ?_)) <;> conv => whnf) | (refine WB.mk (fun h => ?_) (fun h => ?_) <;> conv => whnf) | (refine WB.tt ?_; conv => whnf) | (refine WB.ff ?_; conv => whnf)
          all_goals first | (exfalso; omega) | exact absurd h (by decide) | skip
          refine Rn.loop (fun j : Nat => ⟨(.n (.n (.n (.n .e (some (.lst 2 (rows rgD bl))) .e) (some (.pt .h 0 0)) (.n .e (some (.lst 1 (rows tD (truthsR hs step ms)))) .e)) (some (.i .i64 (r : Int))) (.n (.n .e (some (.i .i64 vd)) .e) none (.n .e (some (.i .i64 0)) .e))) none (.n .e (some (.i .i64 (z : Int))) (.n .e none (.n .e (some (.i .i64 (j : Int))) .e)))), (.n .e (some (tabC last hs step lv ms)) .e), .o .h, none⟩) (fun j => j ≤ hs.length) (fun j => hs.length - j) 0 ?_ ?_ ?_
          · refine X.le.mk ?_ ?_ (Nat.le_refl _) rfl rfl
            · show T.le ((.n (.n (.n (.n .e (some (.lst 2 (rows rgD bl))) .e) (some (.pt .h 0 0)) (.n .e (some (.lst 1 (rows tD (truthsR hs step ms)))) .e)) (some (.i .i64 (r : Int))) (.n (.n .e (some (.i .i64 vd)) .e) none (.n .e (some (.i .i64 0)) .e))) none (.n .e (some (.i .i64 (z : Int))) (.n .e none (.n .e (some (.i .i64 ((0 : Nat) : Int))) .e)))) : T D) _
              (repeat' first | exact T.le_e _ | refine T.le_some ?_ rfl ?_ | refine T.le_none ?_ ?_)
            · show T.le ((.n .e (some (tabC last hs step lv ms)) .e) : T C) _
              (repeat' first | exact T.le_e _ | refine T.le_some ?_ rfl ?_ | refine T.le_none ?_ ?_ | refine T.le_ee ?_ ?_)
          · exact Nat.zero_le _
          intro j hj
          have hj : j ≤ hs.length := hj
          conv => whnf
          repeat' first | ((with_reducible apply WB.tt); conv => whnf) | ((with_reducible apply WB.ff); conv => whnf) | (refine Rn.seq ?_; conv => whnf) | (refine Rn.reg ?_; conv => whnf) | (refine Rn.drw ?_; conv => whnf) | (refine Rn.blk ?_; conv => whnf) | (refine Rn.skip ?_; conv => whnf) | (refine Rn.ret ?_; conv => whnf) | (refine Rn.exit ?_; conv => whnf) | (refine Rn.cond rfl ?_; conv => whnf) | (refine And.intro (InR.i64 (by omega) (by omega)) ?_; conv => whnf) | (refine And.intro (show _ ≠ (0 : Int) by omega) ?_; conv => whnf) | (refine WIx.intsN (by omega) ?_; conv => whnf) | (refine WIx.rowsN (by omega) ?_; conv => whnf)
          refine WB.dec (fun h => ?_) (fun h => ?_) <;> conv => whnf
          · have hlt : j < hs.length := by omega
            have hA := hat j hlt
            have hB := hbd j hlt
            have cR := iRf j hlt
            have cT := c_to (widR ((truthsR hs step ms).map fun t => t.getD j 0)).1 (widR ((truthsR hs step ms).map fun t => t.getD j 0)).2
            generalize widR ((truthsR hs step ms).map fun t => t.getD j 0) = w at *
            have ha : (bl.getD j default).lo = w.1 := by rw [hA]
            have hb : (bl.getD j default).hi = w.2 := by rw [hA]
            have hab : (bl.getD j default).lo = w.1 ∧ (bl.getD j default).hi = w.2 := ⟨ha, hb⟩
            have w1 := wf_small (n := w.1) (by omega) (by omega)
            have w2 := wf_small (n := w.2) (by omega) (by omega)
            repeat' first | ((with_reducible apply WB.tt); conv => whnf) | ((with_reducible apply WB.ff); conv => whnf) | (refine Rn.seq ?_; conv => whnf) | (refine Rn.reg ?_; conv => whnf) | (refine Rn.drw ?_; conv => whnf) | (refine Rn.blk ?_; conv => whnf) | (refine Rn.skip ?_; conv => whnf) | (refine Rn.ret ?_; conv => whnf) | (refine Rn.exit ?_; conv => whnf) | (refine Rn.cond rfl ?_; conv => whnf) | (refine And.intro (InR.i64 (by omega) (by omega)) ?_; conv => whnf) | (refine And.intro (show _ ≠ (0 : Int) by omega) ?_; conv => whnf) | (refine WIx.intsN (by omega) ?_; conv => whnf) | (refine WIx.rowsN (by omega) ?_; conv => whnf) | (refine WCall.pure (cR) ?_; conv => whnf) | (refine WCall.pure (cT) ?_; conv => whnf)
            refine WSt.eqr2n rfl rfl (by rw [ha]; exact w1) (by rw [hb]; exact w2) w1 w2 ?_; conv => whnf
            repeat' first | ((with_reducible apply WB.tt); conv => whnf) | ((with_reducible apply WB.ff); conv => whnf) | (refine Rn.seq ?_; conv => whnf) | (refine Rn.reg ?_; conv => whnf) | (refine Rn.drw ?_; conv => whnf) | (refine Rn.blk ?_; conv => whnf) | (refine Rn.skip ?_; conv => whnf) | (refine Rn.ret ?_; conv => whnf) | (refine Rn.exit ?_; conv => whnf) | (refine Rn.cond rfl ?_; conv => whnf) | (refine And.intro (InR.i64 (by omega) (by omega)) ?_; conv => whnf) | (refine And.intro (show _ ≠ (0 : Int) by omega) ?_; conv => whnf) | (refine WIx.intsN (by omega) ?_; conv => whnf) | (refine WIx.rowsN (by omega) ?_; conv => whnf) | (refine WCall.pure (cR) ?_; conv => whnf) | ((with_reducible refine WB.decT (by first | with_reducible rfl | assumption | omega | exact ⟨rfl, rfl⟩) ?_); conv => whnf) | ((with_reducible refine WB.decF (by first | assumption | omega) ?_); conv => whnf) | ((with_reducible refine WB.ndT (by first | with_reducible rfl | assumption | omega | exact ⟨rfl, rfl⟩) ?_); conv => whnf) | ((with_reducible refine WB.ndF (by first | assumption | omega) ?_); conv => whnf) | ((with_reducible refine WB.nt ?_); conv => whnf) | ((with_reducible refine WB.nf ?_); conv => whnf) | ((with_reducible refine WB.dec (fun h => ?_) (fun h => ?_)) <;> conv => whnf) | ((with_reducible refine WB.ndec (fun h => ?_) (fun h => ?_)) <;> conv => whnf) | (refine WB.mk (fun h => ?_) (fun h => ?_) <;> conv => whnf) | (refine WB.tt ?_; conv => whnf) | (refine WB.ff ?_; conv => whnf)
            refine Again.to (j + 1) (by omega) (by omega) (Nat.le_refl _) ?_
            refine Shr.of ?_ ?_ rfl rfl
            · show Rel _ _ ((.n (.n (.n (.n .e (some (.lst 2 (rows rgD bl))) .e) (some (.pt .h 0 0)) (.n .e (some (.lst 1 (rows tD (truthsR hs step ms)))) .e)) (some (.i .i64 (r : Int))) (.n (.n .e (some (.i .i64 vd)) .e) none (.n .e (some (.i .i64 0)) .e))) none (.n .e (some (.i .i64 (z : Int))) (.n .e none (.n .e (some (.i .i64 ((j + 1 : Nat) : Int))) .e)))) : T D) _
              (repeat' first | exact Rel.e | refine Rel.some ?_ ?_ ?_ | refine Rel.none ?_ ?_ | refine Rel.ee ?_ ?_)
              all_goals show Fz _ _ _ _
              all_goals first | exact .pu trivial | exact .pu (pu_rg _) | exact .pu (pu_tR _) | exact .kpt (show _ < 2 by simp [Pos.nat])
            · show Rel _ _ ((.n .e (some (tabC last hs step lv ms)) .e) : T C) _
              (repeat' first | exact Rel.e | refine Rel.some ?_ ?_ ?_ | refine Rel.none ?_ ?_ | refine Rel.ee ?_ ?_)
              exact RO'.of (show _ < 2 by simp [Pos.nat]) (tabC_sh last hs step lv ms)
          · repeat' first | ((with_reducible apply WB.tt); conv => whnf) | ((with_reducible apply WB.ff); conv => whnf) | (refine Rn.seq ?_; conv => whnf) | (refine Rn.reg ?_; conv => whnf) | (refine Rn.drw ?_; conv => whnf) | (refine Rn.blk ?_; conv => whnf) | (refine Rn.skip ?_; conv => whnf) | (refine Rn.ret ?_; conv => whnf) | (refine Rn.exit ?_; conv => whnf) | (refine Rn.cond rfl ?_; conv => whnf) | (refine And.intro (InR.i64 (by omega) (by omega)) ?_; conv => whnf) | (refine And.intro (show _ ≠ (0 : Int) by omega) ?_; conv => whnf) | (refine WIx.intsN (by omega) ?_; conv => whnf) | (refine WIx.rowsN (by omega) ?_; conv => whnf) | (refine WCall.pure (iVd) ?_; conv => whnf) | (refine WCall.pure (AW) ?_; conv => whnf) | ((with_reducible refine WB.decT (by first | with_reducible rfl | assumption | omega | exact ⟨rfl, rfl⟩) ?_); conv => whnf) | ((with_reducible refine WB.decF (by first | assumption | omega) ?_); conv => whnf) | ((with_reducible refine WB.ndT (by first | with_reducible rfl | assumption | omega | exact ⟨rfl, rfl⟩) ?_); conv => whnf) | ((with_reducible refine WB.ndF (by first | assumption | omega) ?_); conv => whnf) | ((with_reducible refine WB.nt ?_); conv => whnf) | ((with_reducible refine WB.nf ?_); conv => whnf) | ((with_reducible refine WB.dec (fun h => ?_) (fun h => ?_)) <;> conv => whnf) | ((with_reducible refine WB.ndec (fun h => ?_) (fun h => ?_)) <;> conv => whnf) | (refine WB.mk (fun h => ?_) (fun h => ?_) <;> conv => whnf) | (refine WB.tt ?_; conv => whnf) | (refine WB.ff ?_; conv => whnf)
            exact Fin.b rfl rfl
    · have hBL : bndL last hs step lv ms = [] := by unfold bndL; rw [if_neg hE]
      have hsL : sureL last hs step lv ms = [] := by unfold sureL; rw [hsE, if_neg hE]
      rw [hBL] at iB
      rw [hsL] at iS
      have hWn : ¬ wetE last hs step lv ms row hour = 0 := by
        rw [hWe]
        by_cases hf : faultR last hs step lv ms = 0
        · rw [if_pos hf]
          cases cellB last lv row hour
          · rw [cond_false]; decide
          · rw [cond_true]; exact hE
        · rw [if_neg hf]; exact hf
      have hV : wetV last hs step lv ms row hour = 0 := by unfold wetV; rw [if_neg hWn]
      rw [hV] at iW
      by_cases hf : faultR last hs step lv ms = 0
      · rw [if_pos hf] at hWe
        rw [hf] at iF
        rw [hWe] at iW
        clear hWe hWn hV hBL hsL hsE hWB hBf
        generalize bndE last hs step lv ms = e at *
        cases h1 : inB row 0 ((lv.length : Int) - 1)
        all_goals
          cases h2 : inB hour 0 last
          all_goals
            rw [h1] at iI hC
            rw [h2] at iJ hC
            simp only [Bool.false_and, Bool.and_false, Bool.and_true] at hC
            rw [hC] at iW
            simp only [cond_false, cond_true] at iW
            repeat' first | ((with_reducible apply WB.tt); conv => whnf) | ((with_reducible apply WB.ff); conv => whnf) | (refine Rn.seq ?_; conv => whnf) | (refine Rn.reg ?_; conv => whnf) | (refine Rn.drw ?_; conv => whnf) | (refine Rn.blk ?_; conv => whnf) | (refine Rn.skip ?_; conv => whnf) | (refine Rn.ret ?_; conv => whnf) | (refine Rn.exit ?_; conv => whnf) | (refine Rn.cond rfl ?_; conv => whnf) | (refine And.intro (InR.i64 (by omega) (by omega)) ?_; conv => whnf) | (refine And.intro (show _ ≠ (0 : Int) by omega) ?_; conv => whnf) | (refine WIx.intsN (by omega) ?_; conv => whnf) | (refine WIx.rowsN (by omega) ?_; conv => whnf) | (refine WCall.pure (iTb) ?_; conv => whnf) | (refine WCall.pure (iB) ?_; conv => whnf) | (refine WCall.pure (iW) ?_; conv => whnf) | (refine WCall.pure (iS) ?_; conv => whnf) | (refine WCall.pure (iF) ?_; conv => whnf) | (refine WCall.pure (iI) ?_; conv => whnf) | (refine WCall.pure (iJ) ?_; conv => whnf) | (refine WCall.pure (AW) ?_; conv => whnf) | ((with_reducible refine WB.decT (by first | with_reducible rfl | assumption | omega | exact ⟨rfl, rfl⟩) ?_); conv => whnf) | ((with_reducible refine WB.decF (by first | assumption | omega) ?_); conv => whnf) | ((with_reducible refine WB.ndT (by first | with_reducible rfl | assumption | omega | exact ⟨rfl, rfl⟩) ?_); conv => whnf) | ((with_reducible refine WB.ndF (by first | assumption | omega) ?_); conv => whnf) | ((with_reducible refine WB.nt ?_); conv => whnf) | ((with_reducible refine WB.nf ?_); conv => whnf) | ((with_reducible refine WB.dec (fun h => ?_) (fun h => ?_)) <;> conv => whnf) | ((with_reducible refine WB.ndec (fun h => ?_) (fun h => ?_)) <;> conv => whnf) | (refine WB.mk (fun h => ?_) (fun h => ?_) <;> conv => whnf) | (refine WB.tt ?_; conv => whnf) | (refine WB.ff ?_; conv => whnf)
            all_goals first | exact Fin.b rfl rfl | (exfalso; omega) | exact absurd h (by decide)
      · have hB := hBf hf
        rw [if_neg hf] at hWe
        rw [hB] at iB iS hE
        rw [hWe] at iW
        clear hWe hWn hV hBL hsL hsE hWB hBf hB
        generalize faultR last hs step lv ms = e at *
        repeat' first | ((with_reducible apply WB.tt); conv => whnf) | ((with_reducible apply WB.ff); conv => whnf) | (refine Rn.seq ?_; conv => whnf) | (refine Rn.reg ?_; conv => whnf) | (refine Rn.drw ?_; conv => whnf) | (refine Rn.blk ?_; conv => whnf) | (refine Rn.skip ?_; conv => whnf) | (refine Rn.ret ?_; conv => whnf) | (refine Rn.exit ?_; conv => whnf) | (refine Rn.cond rfl ?_; conv => whnf) | (refine And.intro (InR.i64 (by omega) (by omega)) ?_; conv => whnf) | (refine And.intro (show _ ≠ (0 : Int) by omega) ?_; conv => whnf) | (refine WIx.intsN (by omega) ?_; conv => whnf) | (refine WIx.rowsN (by omega) ?_; conv => whnf) | (refine WCall.pure (iTb) ?_; conv => whnf) | (refine WCall.pure (iB) ?_; conv => whnf) | (refine WCall.pure (iW) ?_; conv => whnf) | (refine WCall.pure (iS) ?_; conv => whnf) | (refine WCall.pure (iF) ?_; conv => whnf) | (refine WCall.pure (iI) ?_; conv => whnf) | (refine WCall.pure (iJ) ?_; conv => whnf) | (refine WCall.pure (AW) ?_; conv => whnf) | ((with_reducible refine WB.decT (by first | with_reducible rfl | assumption | omega | exact ⟨rfl, rfl⟩) ?_); conv => whnf) | ((with_reducible refine WB.decF (by first | assumption | omega) ?_); conv => whnf) | ((with_reducible refine WB.ndT (by first | with_reducible rfl | assumption | omega | exact ⟨rfl, rfl⟩) ?_); conv => whnf) | ((with_reducible refine WB.ndF (by first | assumption | omega) ?_); conv => whnf) | ((with_reducible refine WB.nt ?_); conv => whnf) | ((with_reducible refine WB.nf ?_); conv => whnf) | ((with_reducible refine WB.dec (fun h => ?_) (fun h => ?_)) <;> conv => whnf) | ((with_reducible refine WB.ndec (fun h => ?_) (fun h => ?_)) <;> conv => whnf) | (refine WB.mk (fun h => ?_) (fun h => ?_) <;> conv => whnf) | (refine WB.tt ?_; conv => whnf) | (refine WB.ff ?_; conv => whnf)
        all_goals first | exact Fin.b rfl rfl | (exfalso; omega) | exact absurd h (by decide)
theorem main_tideBounds (AW : PureF Try.prog p21.ix [] (.b true)) {es : List D} (fit : FitP [(true, [.i .i64, .sl [.i .i64, .i .i64], .i .i64, .sl [.i .i64], .sl [.i .i64, .i .i64, .i .i64, .i .i64]]), (false, [.i .i64]), (false, [.i .i64])] es) : PureF Try.prog 4 es (.b true) := by
  obtain ⟨last, hs, step, lv, ms, _, rfl, g1⟩ := fit.tab
  obtain ⟨n, _, rfl, _, g2⟩ := g1.i
  obtain ⟨n2, _, rfl, _, g3⟩ := g2.i
  obtain rfl := g3.no
  exact c_TideBounds last hs step lv ms n n2 AW
end Go.Ev

namespace Go.Proofs.Ytpemagogcagipaa.tideBounds
open Go.ChangeShapes Go.WideShapes Go.ChangeAt Go.RowKit
open Go.ChangeMaps (open_string shut_string)
set_option linter.unusedVariables false

theorem laid : laidOutB Try.prog = true := by kernel_rfl
theorem own : ownKnob Try.prog.godebug = none := by kernel_rfl

/-! ### the walk -/
theorem walk {es : List Go.Ev.D} (fit : Go.Ev.FitP [(true, [.i .i64, .sl [.i .i64, .i .i64], .i .i64, .sl [.i .i64], .sl [.i .i64, .i .i64, .i .i64, .i .i64]]), (false, [.i .i64]), (false, [.i .i64])] es) {args : Array Value} {W : World} (ha : Go.Ev.DVL (Go.Ev.γH W) W es args.toList) :
    Calls Try.prog 4 args W fun e w' => e = .returned (.bool true) ∧ Grown W w' ∧ Below W.heap.size W w' :=
  Go.Ev.PureF.calls (Go.Ev.main_tideBounds (fun ob nx lg => Go.Ev.closed_call Go.Ev.fp_ok Go.Ev.aw ob nx lg) fit) ha

set_option maxRecDepth 100000 in
theorem lifted (os : Os) (started : os.Started) (H : Type) (enc : TypeId × Value → H) :
    ReturnsInHanded {} Try.checked os 4 .any (Rows.tideBoundsSpec.pre6 enc Try.prog Try.f4 Rows.tideBoundsRow.domain false) (Rows.tideBoundsSpec.post enc Try.prog Try.f4 false true false false) := by
  refine returnsInHanded_of_change (C := Try.checked) own started (by kernel_rfl) Try.func4
    (ChangeSpec.witness6 (enc := enc) (C := Try.checked) false ⟨#[], #[.agg #[.int .i64 0, .slice none 0 0, .int .i64 0, .slice none 0 0, .slice none 0 0], .int .i64 0, .int .i64 0], []⟩ 8 (by kernel_rfl) (by kernel_rfl) (by kernel_rfl) (by kernel_rfl)) ?_
  intro W base args ds gs before hval0 hW hcnd _
  have hval : ∀ (j : Nat) t v, Try.f4.params[j]? = some t → args[j]? = some v → Value.okWide Try.prog W .any base t v := hval0
  have hW' := hW
  obtain ⟨p, q, hA0, hV, rfl, hfz, hnd⟩ := hW
  have hA : DataW.TrodAll enc Try.prog W 0 (fun _ => true) true Try.f4.params.toList args.toList ds p := hA0
  rw [Try.params4] at hA hval
  obtain ⟨rfl, rfl⟩ := trodVars_none hV
  obtain ⟨d0, d1, d2, rfl⟩ := Go.Ev.len3 (Go.Ev.trod_len hA)
  clear hA0 hval0
  simp only [List.append_nil] at hW'
  obtain ⟨es, fit, dv⟩ := Go.Ev.open_all (n := 6) (pars := [(true, [.i .i64, .sl [.i .i64, .i .i64], .i .i64, .sl [.i .i64], .sl [.i .i64, .i .i64, .i .i64, .i .i64]]), (false, [.i .i64]), (false, [.i .i64])]) (by kernel_rfl) hA (fun j t v h1 h2 => hval j t v (by simpa using h1) (by simpa using h2))
  have hlt : ∀ x ∈ p, x.block < W.heap.size := fun x hx => by simpa using hW'.lt x hx
  refine (walk fit dv).mono fun e W' ⟨he, hg, hb⟩ => ?_
  subst he
  exact ⟨_, rfl, post_of_same (pa := p) (pv := []) hW' (fun _ _ _ => (trodAll_cons_mk (shut_bool Try.underlying4 _) trodAll_mk0))
    (fun sp hs => Go.Ev.stays_all laid (Go.Ev.of_allT (by kernel_rfl)) hA (fun x hx => hb.same (hlt x hx)) (fun x hx => hs x hx))
    (fun _ _ => rfl) (List.append_nil _).symm
    (hg.frame _) hg.2.1 (ok_one (by kernel_rfl) rfl (okWide_bool_mk Try.underlying4 _))⟩

theorem over : Rows.tideBoundsRow.holds Try.pinned (OpenSpec.ofChange Rows.tideBoundsSpec) :=
  OpenClaim.holds_of_wide 4 Try.f4 rfl rfl rfl rfl rfl rfl rfl ⟨rfl, rfl, rfl, rfl, rfl⟩ rfl rfl rfl rfl rfl (by kernel_rfl) Try.func4 (by kernel_rfl)
    (of_decide_eq_true (by kernel_rfl)) (by unfold Func.isWrapper; first | (rw [if_pos (by decide +kernel)]; kernel_rfl) | (rw [if_neg (by decide +kernel)]; exact ⟨rfl, rfl⟩))
    (fun os started H enc _ => lifted os started H enc)

/-- ████ THE STATEMENT ████ -/
theorem proved : Rows.TideBoundsSaid :=
  over
#print axioms proved
end Go.Proofs.Ytpemagogcagipaa.tideBounds
