/-
  TideReaches: the law answers true for every table and every row; the only conditions are those of the row itself.
-/
import Derived.Test.YtpemagogcagipaaRows
import Derived.WalkKit
import Derived.ProofKit
import Derived.OpenShut
import Derived.Test.YtpemagogcagipaaEvFt
import Derived.Test.YtpemagogcagipaaEvSy
import Derived.ShutString
import Derived.Test.YtpemagogcagipaaEvMK
import Derived.Test.YtpemagogcagipaaEvMH
set_option linter.all false
namespace Go.Ev
open Go.Proofs
set_option maxRecDepth 1000000
noncomputable def rc5 : RC := (.seq (.reg [(.u (.box p3 (.t p1))), (.u (.mv p5 (.k (.b false))))]) (.seq (.seq (.reg [(.u (.ldn p10 (.t p3) 5)), (.u (.cf (some p11) p20 [(.t p10)])), (.u (.un p12 .not (.t p11)))]) (.cond (.t p12) (.seq (.reg [(.u (.cf (some p13) p21 [])), (.u (.mv p5 (.t p13)))]) .ret) .skip)) (.seq (.reg [(.u (.ldn p15 (.t p3) 5)), (.u (.cf (some p16) p23 [(.t p15)])), (.u (.mv p17 (.t p2))), (.u (.cf (some p18) p39 [(.t p16), (.t p17)])), (.u (.mv p14 (.t p18))), (.u (.ext p19 (.t p14) 0)), (.u (.ext p20 (.t p14) 1)), (.u (.new p6 [(.i .i64 0), (.i .i64 0)])), (.u (.st (.t p6) (.t p19) 2)), (.u (.mv p7 (.t p20)))]) (.seq (.reg [(.u (.ldn p22 (.t p3) 5)), (.u (.cf (some p23) p34 [(.t p22)])), (.u (.mv p21 (.t p23))), (.u (.ext p24 (.t p21) 0)), (.u (.ext p25 (.t p21) 1)), (.u (.mv p8 (.t p24))), (.u (.mv p9 (.t p25)))]) (.seq (.seq (.reg [(.u (.ldn p26 (.t p3) 5)), (.u (.cf (some p27) p26 [(.t p26)])), (.u (.bin p28 .eql (.t p27) (.k (.i .i64 0)))), (.u (.mv p29 (.t p28))), (.g p29 true (some p30) (.mv p30 (.t p2))), (.g p29 true (some p31) (.fad p31 (.t p3) 3)), (.g p29 true (some p32) (.ld1 p32 (.t p31))), (.g p29 true (some p33) (.len p33 (.t p32))), (.g p29 true (some p34) (.bin p34 .sub (.t p33) (.k (.i .i64 1)))), (.g p29 true (some p35) (.cf (some p35) p35 [(.t p30), (.k (.i .i64 0)), (.t p34)])), (.g p29 true (some p36) (.un p36 .not (.t p35))), (.u (.pick p37 (.t p29) (.t p36) (.k (.b false))))]) (.cond (.t p37) (.reg [(.u (.mv p9 (.k (.i .i64 2))))]) .skip)) (.seq (.seq (.reg [(.u (.mv p38 (.t p9))), (.u (.bin p39 .neq (.t p38) (.k (.i .i64 0))))]) (.cond (.t p39) (.seq (.reg [(.u (.mv p40 (.t p7))), (.u (.mv p41 (.t p9))), (.u (.bin p42 .eql (.t p40) (.t p41))), (.u (.mv p43 (.t p42))), (.g p43 true (some p44) (.ldn p44 (.t p6) 2)), (.g p43 true (some p45) (.bld p45 [(.i .i64 0), (.i .i64 0)] [])), (.g p43 true (some p46) (.eqr p46 false [(.i .i64), (.i .i64)] (.t p44) (.t p45))), (.u (.pick p47 (.t p43) (.t p46) (.k (.b false)))), (.u (.mv p48 (.t p47))), (.g p48 true (some p49) (.cf (some p49) p21 [])), (.u (.pick p50 (.t p48) (.t p49) (.k (.b false)))), (.u (.mv p5 (.t p50)))]) .ret) .skip)) (.seq (.drw [(.u (.mv p51 (.t p7))), (.u (.bin p52 .eql (.t p51) (.k (.i .i64 0)))), (.u (.mv p53 (.t p52))), (.g p53 true (some p54) (.ldn p54 (.t p6) 2)), (.g p53 true (some p55) (.mv p55 (.t p8))), (.g p53 true (some p56) (.fad p56 (.t p3) 3)), (.g p53 true (some p57) (.ld1 p57 (.t p56))), (.g p53 true (some p58) (.mv p58 (.t p2))), (.g p53 true (some p59) (.ixs p59 1 (.t p57) (.t p58))), (.g p53 true (some p60) (.ld1 p60 (.t p59))), (.g p53 true (some p61) (.cf (some p61) p40 [(.t p55), (.t p60)])), (.g p53 true (some p62) (.cf (some p62) p36 [(.t p61)])), (.g p53 true (some p63) (.eqr p63 false [(.i .i64), (.i .i64)] (.t p54) (.t p62))), (.u (.pick p64 (.t p53) (.t p63) (.k (.b false)))), (.u (.mv p65 (.t p64))), (.g p65 true (some p66) (.cf (some p66) p21 [])), (.u (.pick p67 (.t p65) (.t p66) (.k (.b false)))), (.u (.mv p5 (.t p67)))] [0, 1, 3, 7, 7, 7, 39, 7, 231, 487, 1015, 2039, 4095, 8191, 16383, 32767, 65535, 131071]) .ret)))))))
def rs5 : List RR := [(.t p5)]
theorem fn5 : FnOk Try.prog p6.ix 67 rc5 rs5 := ⟨Try.f5, bodyC Try.f5, Try.func5, by kernel_rfl, by kernel_rfl, by kernel_rfl, by kernel_rfl, by kernel_rfl⟩
end Go.Ev
namespace Go.Ev
open Go.Proofs
set_option maxRecDepth 100000
/-! ### TideReaches -/
theorem c_TideReaches (last : Int) (hs : List Rg) (step : Int) (lv : List Int) (ms : List Mk) (row : Int) (AW : PureF Try.prog p21.ix [] (.b true)) : PureF Try.prog p6.ix [.ag [.i .i64 last, .lst 2 (rows rgD hs), .i .i64 step, .lst 1 (ints lv), .lst 4 (rows mkD ms)], .i .i64 row] (.b true) := by
  have e2 := ints_length lv
  have iT := c_Thin last hs step lv ms
  refine PureF.run fn5 (by simp) (by simp [PuL, PuE, Pu, pu_ints, pu_rg, pu_mk]) ?_; conv => whnf
  cases hT : thinR last hs step lv ms with
  | false =>
    rw [hT] at iT
    repeat' first | ((with_reducible apply WB.tt); conv => whnf) | ((with_reducible apply WB.ff); conv => whnf) | (refine Rn.seq ?_; conv => whnf) | (refine Rn.reg ?_; conv => whnf) | (refine Rn.drw ?_; conv => whnf) | (refine Rn.blk ?_; conv => whnf) | (refine Rn.skip ?_; conv => whnf) | (refine Rn.ret ?_; conv => whnf) | (refine Rn.exit ?_; conv => whnf) | (refine Rn.cond rfl ?_; conv => whnf) | (refine And.intro (InR.i64 (by omega) (by omega)) ?_; conv => whnf) | (refine And.intro (show _ ≠ (0 : Int) by omega) ?_; conv => whnf) | (refine WIx.intsN (by omega) ?_; conv => whnf) | (refine WIx.rowsN (by omega) ?_; conv => whnf) | (refine WCall.pure (iT) ?_; conv => whnf)
    refine WB.tt ?_; conv => whnf
    repeat' first | ((with_reducible apply WB.tt); conv => whnf) | ((with_reducible apply WB.ff); conv => whnf) | (refine Rn.seq ?_; conv => whnf) | (refine Rn.reg ?_; conv => whnf) | (refine Rn.drw ?_; conv => whnf) | (refine Rn.blk ?_; conv => whnf) | (refine Rn.skip ?_; conv => whnf) | (refine Rn.ret ?_; conv => whnf) | (refine Rn.exit ?_; conv => whnf) | (refine Rn.cond rfl ?_; conv => whnf) | (refine And.intro (InR.i64 (by omega) (by omega)) ?_; conv => whnf) | (refine And.intro (show _ ≠ (0 : Int) by omega) ?_; conv => whnf) | (refine WIx.intsN (by omega) ?_; conv => whnf) | (refine WIx.rowsN (by omega) ?_; conv => whnf) | (refine WCall.pure (AW) ?_; conv => whnf)
    exact Fin.b rfl rfl
  | true =>
    rw [hT] at iT
    have hT' := hT
    unfold thinR at hT'
    rw [Bool.and_eq_true, decide_eq_true_iff] at hT'
    obtain ⟨hsz, _⟩ := hT'
    have iTb := c_Table last hs step lv ms (by omega) (by omega) (by omega)
    have iR := c_Reach last hs step lv ms row (by omega) fun hf => Nat.le_trans (thin_few hT hf) (by omega)
    have iS := c_sure last hs step lv ms
    have iF := c_fault last hs step lv ms
    have iI := c_In row 0 (((ints lv).length : Int) - 1)
    have hI : inB row 0 (((ints lv).length : Int) - 1) = inB row 0 ((lv.length : Int) - 1) := by rw [e2]
    rw [hI] at iI
    have hW := want_start last hs step lv ms (inB row 0 ((lv.length : Int) - 1))
    have hE0 : reachE last hs step lv ms row = startE last hs step lv ms (inB row 0 ((lv.length : Int) - 1)) := rfl
    repeat' first | ((with_reducible apply WB.tt); conv => whnf) | ((with_reducible apply WB.ff); conv => whnf) | (refine Rn.seq ?_; conv => whnf) | (refine Rn.reg ?_; conv => whnf) | (refine Rn.drw ?_; conv => whnf) | (refine Rn.blk ?_; conv => whnf) | (refine Rn.skip ?_; conv => whnf) | (refine Rn.ret ?_; conv => whnf) | (refine Rn.exit ?_; conv => whnf) | (refine Rn.cond rfl ?_; conv => whnf) | (refine And.intro (InR.i64 (by omega) (by omega)) ?_; conv => whnf) | (refine And.intro (show _ ≠ (0 : Int) by omega) ?_; conv => whnf) | (refine WIx.intsN (by omega) ?_; conv => whnf) | (refine WIx.rowsN (by omega) ?_; conv => whnf) | (refine WCall.pure (iT) ?_; conv => whnf)
    refine WB.ff ?_; conv => whnf
    by_cases hE : reachE last hs step lv ms row = 0
    · have hE' := hE
      rw [hE0] at hE'
      obtain ⟨hf, hb, hp⟩ := start_zero hE'
      obtain ⟨V, hm, _⟩ := fault_zero hf
      have hbb := inB_iff.1 hb
      obtain ⟨r, rfl⟩ := Int.eq_ofNat_of_zero_le hbb.1
      have hr : r < lv.length := by omega
      have hsE : sureE last hs step lv ms = 0 := by
        rw [hE', hb] at hW
        unfold wantE at hW
        rw [if_neg (by simp)] at hW
        exact hW
      have hsL : sureL last hs step lv ms = truthsR hs step ms := by unfold sureL; rw [if_pos hsE]
      have hRR : reachR last hs step lv ms ((r : Nat) : Int) = widR ((truthsR hs step ms).map fun t => soonR t (lv.getD r 0)) := by
        unfold reachR
        rw [if_pos hE]
        exact reach_same V hm hp r
      have hlen : ∀ t ∈ truthsR hs step ms, t.length ≤ 10 := fun t ht => by
        have := ((mem_truthsR V hm).1 ht).1
        have := V.h10
        omega
      have hBd : (0 ≤ (widR ((truthsR hs step ms).map fun t => soonR t (lv.getD r 0))).1 ∧ (widR ((truthsR hs step ms).map fun t => soonR t (lv.getD r 0))).1 ≤ 10) ∧ (0 ≤ (widR ((truthsR hs step ms).map fun t => soonR t (lv.getD r 0))).2 ∧ (widR ((truthsR hs step ms).map fun t => soonR t (lv.getD r 0))).2 ≤ 10) := by
        refine wid_bd ?_ (fun x hx => ?_) (by omega)
        · rw [List.length_map]
          cases hL : truthsR hs step ms with
          | nil => rw [(truth_nil V hm).2 hL] at hp; cases hp
          | cons a s => simp
        · obtain ⟨t, ht, rfl⟩ := List.mem_map.1 hx
          have := soonR_bd t (lv.getD r 0)
          have := hlen t ht
          omega
      have hTl : (truthsR hs step ms).length ≤ 3000 := Nat.le_trans (List.length_filter_le _ _) (lists_len V.hv step)
      have iRf := c_ReachRef (truthsR hs step ms) (lv.getD r 0) hTl fun t ht => Nat.le_trans (hlen t ht) (by omega)
      rw [hRR, hE] at iR
      rw [hsL, hsE] at iS
      rw [hf] at iF
      rw [hb] at iI
      generalize widR ((truthsR hs step ms).map fun t => soonR t (lv.getD r 0)) = w at *
      have iTo := c_to w.1 w.2
      have w1 := wf_small (n := w.1) (by omega) (by omega)
      have w2 := wf_small (n := w.2) (by omega) (by omega)
      repeat' first | ((with_reducible apply WB.tt); conv => whnf) | ((with_reducible apply WB.ff); conv => whnf) | (refine Rn.seq ?_; conv => whnf) | (refine Rn.reg ?_; conv => whnf) | (refine Rn.drw ?_; conv => whnf) | (refine Rn.blk ?_; conv => whnf) | (refine Rn.skip ?_; conv => whnf) | (refine Rn.ret ?_; conv => whnf) | (refine Rn.exit ?_; conv => whnf) | (refine Rn.cond rfl ?_; conv => whnf) | (refine And.intro (InR.i64 (by omega) (by omega)) ?_; conv => whnf) | (refine And.intro (show _ ≠ (0 : Int) by omega) ?_; conv => whnf) | (refine WIx.intsN (by omega) ?_; conv => whnf) | (refine WIx.rowsN (by omega) ?_; conv => whnf) | (refine WCall.pure (iTb) ?_; conv => whnf) | (refine WCall.pure (iR) ?_; conv => whnf) | (refine WCall.pure (iS) ?_; conv => whnf) | (refine WCall.pure (iF) ?_; conv => whnf) | (refine WCall.pure (iI) ?_; conv => whnf) | (refine WCall.pure (iRf) ?_; conv => whnf) | (refine WCall.pure (iTo) ?_; conv => whnf) | (refine WCall.pure (AW) ?_; conv => whnf) | ((with_reducible refine WB.decT (by first | with_reducible rfl | assumption | omega | exact ⟨rfl, rfl⟩) ?_); conv => whnf) | ((with_reducible refine WB.decF (by first | assumption | omega) ?_); conv => whnf) | ((with_reducible refine WB.ndT (by first | with_reducible rfl | assumption | omega | exact ⟨rfl, rfl⟩) ?_); conv => whnf) | ((with_reducible refine WB.ndF (by first | assumption | omega) ?_); conv => whnf) | ((with_reducible refine WB.nt ?_); conv => whnf) | ((with_reducible refine WB.nf ?_); conv => whnf) | ((with_reducible refine WB.dec (fun h => ?_) (fun h => ?_)) <;> conv => whnf) | ((with_reducible refine WB.ndec (fun h => ?_) (fun h => ?_)) <;> conv => whnf) | (refine WB.mk (fun h => ?_) (fun h => ?_) <;> conv => whnf) | (refine WB.tt ?_; conv => whnf) | (refine WB.ff ?_; conv => whnf)
      refine WSt.eqr2 rfl rfl w1 w2 w1 w2 ?_; conv => whnf
      repeat' first | ((with_reducible apply WB.tt); conv => whnf) | ((with_reducible apply WB.ff); conv => whnf) | (refine Rn.seq ?_; conv => whnf) | (refine Rn.reg ?_; conv => whnf) | (refine Rn.drw ?_; conv => whnf) | (refine Rn.blk ?_; conv => whnf) | (refine Rn.skip ?_; conv => whnf) | (refine Rn.ret ?_; conv => whnf) | (refine Rn.exit ?_; conv => whnf) | (refine Rn.cond rfl ?_; conv => whnf) | (refine And.intro (InR.i64 (by omega) (by omega)) ?_; conv => whnf) | (refine And.intro (show _ ≠ (0 : Int) by omega) ?_; conv => whnf) | (refine WIx.intsN (by omega) ?_; conv => whnf) | (refine WIx.rowsN (by omega) ?_; conv => whnf) | (refine WCall.pure (iTb) ?_; conv => whnf) | (refine WCall.pure (iR) ?_; conv => whnf) | (refine WCall.pure (iS) ?_; conv => whnf) | (refine WCall.pure (iF) ?_; conv => whnf) | (refine WCall.pure (iI) ?_; conv => whnf) | (refine WCall.pure (iRf) ?_; conv => whnf) | (refine WCall.pure (iTo) ?_; conv => whnf) | (refine WCall.pure (AW) ?_; conv => whnf) | ((with_reducible refine WB.decT (by first | with_reducible rfl | assumption | omega | exact ⟨rfl, rfl⟩) ?_); conv => whnf) | ((with_reducible refine WB.decF (by first | assumption | omega) ?_); conv => whnf) | ((with_reducible refine WB.ndT (by first | with_reducible rfl | assumption | omega | exact ⟨rfl, rfl⟩) ?_); conv => whnf) | ((with_reducible refine WB.ndF (by first | assumption | omega) ?_); conv => whnf) | ((with_reducible refine WB.nt ?_); conv => whnf) | ((with_reducible refine WB.nf ?_); conv => whnf) | ((with_reducible refine WB.dec (fun h => ?_) (fun h => ?_)) <;> conv => whnf) | ((with_reducible refine WB.ndec (fun h => ?_) (fun h => ?_)) <;> conv => whnf) | (refine WB.mk (fun h => ?_) (fun h => ?_) <;> conv => whnf) | (refine WB.tt ?_; conv => whnf) | (refine WB.ff ?_; conv => whnf)
      exact Fin.b rfl rfl
    · have hRR : reachR last hs step lv ms row = (0, 0) := by unfold reachR; rw [if_neg hE]
      rw [hRR] at iR
      rw [hE0] at hE iR
      clear hE0 hRR
      have z0 : wfB .i64 (0 : Int) = true := rfl
      by_cases hf : faultR last hs step lv ms = 0
      · rw [hf] at iF
        cases hb : inB row 0 ((lv.length : Int) - 1) with
        | false =>
          rw [hb] at iI iR hW
          have hS : startE last hs step lv ms false = 2 := by unfold startE; rw [if_pos hf]; rfl
          rw [hS] at iR
          repeat' first | ((with_reducible apply WB.tt); conv => whnf) | ((with_reducible apply WB.ff); conv => whnf) | (refine Rn.seq ?_; conv => whnf) | (refine Rn.reg ?_; conv => whnf) | (refine Rn.drw ?_; conv => whnf) | (refine Rn.blk ?_; conv => whnf) | (refine Rn.skip ?_; conv => whnf) | (refine Rn.ret ?_; conv => whnf) | (refine Rn.exit ?_; conv => whnf) | (refine Rn.cond rfl ?_; conv => whnf) | (refine And.intro (InR.i64 (by omega) (by omega)) ?_; conv => whnf) | (refine And.intro (show _ ≠ (0 : Int) by omega) ?_; conv => whnf) | (refine WIx.intsN (by omega) ?_; conv => whnf) | (refine WIx.rowsN (by omega) ?_; conv => whnf) | (refine WCall.pure (iTb) ?_; conv => whnf) | (refine WCall.pure (iR) ?_; conv => whnf) | (refine WCall.pure (iS) ?_; conv => whnf) | (refine WCall.pure (iF) ?_; conv => whnf) | (refine WCall.pure (iI) ?_; conv => whnf) | (refine WCall.pure (AW) ?_; conv => whnf) | ((with_reducible refine WB.decT (by first | with_reducible rfl | assumption | omega | exact ⟨rfl, rfl⟩) ?_); conv => whnf) | ((with_reducible refine WB.decF (by first | assumption | omega) ?_); conv => whnf) | ((with_reducible refine WB.ndT (by first | with_reducible rfl | assumption | omega | exact ⟨rfl, rfl⟩) ?_); conv => whnf) | ((with_reducible refine WB.ndF (by first | assumption | omega) ?_); conv => whnf) | ((with_reducible refine WB.nt ?_); conv => whnf) | ((with_reducible refine WB.nf ?_); conv => whnf) | ((with_reducible refine WB.dec (fun h => ?_) (fun h => ?_)) <;> conv => whnf) | ((with_reducible refine WB.ndec (fun h => ?_) (fun h => ?_)) <;> conv => whnf) | (refine WB.mk (fun h => ?_) (fun h => ?_) <;> conv => whnf) | (refine WB.tt ?_; conv => whnf) | (refine WB.ff ?_; conv => whnf)
          refine WSt.eqr2 rfl rfl z0 z0 z0 z0 ?_; conv => whnf
          repeat' first | ((with_reducible apply WB.tt); conv => whnf) | ((with_reducible apply WB.ff); conv => whnf) | (refine Rn.seq ?_; conv => whnf) | (refine Rn.reg ?_; conv => whnf) | (refine Rn.drw ?_; conv => whnf) | (refine Rn.blk ?_; conv => whnf) | (refine Rn.skip ?_; conv => whnf) | (refine Rn.ret ?_; conv => whnf) | (refine Rn.exit ?_; conv => whnf) | (refine Rn.cond rfl ?_; conv => whnf) | (refine And.intro (InR.i64 (by omega) (by omega)) ?_; conv => whnf) | (refine And.intro (show _ ≠ (0 : Int) by omega) ?_; conv => whnf) | (refine WIx.intsN (by omega) ?_; conv => whnf) | (refine WIx.rowsN (by omega) ?_; conv => whnf) | (refine WCall.pure (iTb) ?_; conv => whnf) | (refine WCall.pure (iR) ?_; conv => whnf) | (refine WCall.pure (iS) ?_; conv => whnf) | (refine WCall.pure (iF) ?_; conv => whnf) | (refine WCall.pure (iI) ?_; conv => whnf) | (refine WCall.pure (AW) ?_; conv => whnf) | ((with_reducible refine WB.decT (by first | with_reducible rfl | assumption | omega | exact ⟨rfl, rfl⟩) ?_); conv => whnf) | ((with_reducible refine WB.decF (by first | assumption | omega) ?_); conv => whnf) | ((with_reducible refine WB.ndT (by first | with_reducible rfl | assumption | omega | exact ⟨rfl, rfl⟩) ?_); conv => whnf) | ((with_reducible refine WB.ndF (by first | assumption | omega) ?_); conv => whnf) | ((with_reducible refine WB.nt ?_); conv => whnf) | ((with_reducible refine WB.nf ?_); conv => whnf) | ((with_reducible refine WB.dec (fun h => ?_) (fun h => ?_)) <;> conv => whnf) | ((with_reducible refine WB.ndec (fun h => ?_) (fun h => ?_)) <;> conv => whnf) | (refine WB.mk (fun h => ?_) (fun h => ?_) <;> conv => whnf) | (refine WB.tt ?_; conv => whnf) | (refine WB.ff ?_; conv => whnf)
          exact Fin.b rfl rfl
        | true =>
          rw [hb] at iI iR hW hE
          have hS : startE last hs step lv ms true = 11 := by
            unfold startE at hE ⊢
            rw [if_pos hf] at hE ⊢
            rw [cond_true] at hE ⊢
            by_cases hT : truthS hs step ms = []
            · rw [if_pos hT]
            · rw [if_neg hT] at hE; exact absurd rfl hE
          have hsE : sureE last hs step lv ms = 11 := by
            rw [hS] at hW
            unfold wantE at hW
            rw [if_neg (by simp)] at hW
            exact hW
          have hsL : sureL last hs step lv ms = [] := by unfold sureL; rw [hsE]; rfl
          rw [hS] at iR
          rw [hsE, hsL] at iS
          repeat' first | ((with_reducible apply WB.tt); conv => whnf) | ((with_reducible apply WB.ff); conv => whnf) | (refine Rn.seq ?_; conv => whnf) | (refine Rn.reg ?_; conv => whnf) | (refine Rn.drw ?_; conv => whnf) | (refine Rn.blk ?_; conv => whnf) | (refine Rn.skip ?_; conv => whnf) | (refine Rn.ret ?_; conv => whnf) | (refine Rn.exit ?_; conv => whnf) | (refine Rn.cond rfl ?_; conv => whnf) | (refine And.intro (InR.i64 (by omega) (by omega)) ?_; conv => whnf) | (refine And.intro (show _ ≠ (0 : Int) by omega) ?_; conv => whnf) | (refine WIx.intsN (by omega) ?_; conv => whnf) | (refine WIx.rowsN (by omega) ?_; conv => whnf) | (refine WCall.pure (iTb) ?_; conv => whnf) | (refine WCall.pure (iR) ?_; conv => whnf) | (refine WCall.pure (iS) ?_; conv => whnf) | (refine WCall.pure (iF) ?_; conv => whnf) | (refine WCall.pure (iI) ?_; conv => whnf) | (refine WCall.pure (AW) ?_; conv => whnf) | ((with_reducible refine WB.decT (by first | with_reducible rfl | assumption | omega | exact ⟨rfl, rfl⟩) ?_); conv => whnf) | ((with_reducible refine WB.decF (by first | assumption | omega) ?_); conv => whnf) | ((with_reducible refine WB.ndT (by first | with_reducible rfl | assumption | omega | exact ⟨rfl, rfl⟩) ?_); conv => whnf) | ((with_reducible refine WB.ndF (by first | assumption | omega) ?_); conv => whnf) | ((with_reducible refine WB.nt ?_); conv => whnf) | ((with_reducible refine WB.nf ?_); conv => whnf) | ((with_reducible refine WB.dec (fun h => ?_) (fun h => ?_)) <;> conv => whnf) | ((with_reducible refine WB.ndec (fun h => ?_) (fun h => ?_)) <;> conv => whnf) | (refine WB.mk (fun h => ?_) (fun h => ?_) <;> conv => whnf) | (refine WB.tt ?_; conv => whnf) | (refine WB.ff ?_; conv => whnf)
          refine WSt.eqr2 rfl rfl z0 z0 z0 z0 ?_; conv => whnf
          repeat' first | ((with_reducible apply WB.tt); conv => whnf) | ((with_reducible apply WB.ff); conv => whnf) | (refine Rn.seq ?_; conv => whnf) | (refine Rn.reg ?_; conv => whnf) | (refine Rn.drw ?_; conv => whnf) | (refine Rn.blk ?_; conv => whnf) | (refine Rn.skip ?_; conv => whnf) | (refine Rn.ret ?_; conv => whnf) | (refine Rn.exit ?_; conv => whnf) | (refine Rn.cond rfl ?_; conv => whnf) | (refine And.intro (InR.i64 (by omega) (by omega)) ?_; conv => whnf) | (refine And.intro (show _ ≠ (0 : Int) by omega) ?_; conv => whnf) | (refine WIx.intsN (by omega) ?_; conv => whnf) | (refine WIx.rowsN (by omega) ?_; conv => whnf) | (refine WCall.pure (iTb) ?_; conv => whnf) | (refine WCall.pure (iR) ?_; conv => whnf) | (refine WCall.pure (iS) ?_; conv => whnf) | (refine WCall.pure (iF) ?_; conv => whnf) | (refine WCall.pure (iI) ?_; conv => whnf) | (refine WCall.pure (AW) ?_; conv => whnf) | ((with_reducible refine WB.decT (by first | with_reducible rfl | assumption | omega | exact ⟨rfl, rfl⟩) ?_); conv => whnf) | ((with_reducible refine WB.decF (by first | assumption | omega) ?_); conv => whnf) | ((with_reducible refine WB.ndT (by first | with_reducible rfl | assumption | omega | exact ⟨rfl, rfl⟩) ?_); conv => whnf) | ((with_reducible refine WB.ndF (by first | assumption | omega) ?_); conv => whnf) | ((with_reducible refine WB.nt ?_); conv => whnf) | ((with_reducible refine WB.nf ?_); conv => whnf) | ((with_reducible refine WB.dec (fun h => ?_) (fun h => ?_)) <;> conv => whnf) | ((with_reducible refine WB.ndec (fun h => ?_) (fun h => ?_)) <;> conv => whnf) | (refine WB.mk (fun h => ?_) (fun h => ?_) <;> conv => whnf) | (refine WB.tt ?_; conv => whnf) | (refine WB.ff ?_; conv => whnf)
          exact Fin.b rfl rfl
      · have hS : startE last hs step lv ms (inB row 0 ((lv.length : Int) - 1)) = faultR last hs step lv ms := by unfold startE; rw [if_neg hf]
        have hsE : sureE last hs step lv ms = faultR last hs step lv ms := by unfold sureE; rw [if_neg hf]
        have hsL : sureL last hs step lv ms = [] := by unfold sureL; rw [hsE, if_neg hf]
        rw [hS] at iR
        rw [hsE, hsL] at iS
        generalize faultR last hs step lv ms = e at *
        repeat' first | ((with_reducible apply WB.tt); conv => whnf) | ((with_reducible apply WB.ff); conv => whnf) | (refine Rn.seq ?_; conv => whnf) | (refine Rn.reg ?_; conv => whnf) | (refine Rn.drw ?_; conv => whnf) | (refine Rn.blk ?_; conv => whnf) | (refine Rn.skip ?_; conv => whnf) | (refine Rn.ret ?_; conv => whnf) | (refine Rn.exit ?_; conv => whnf) | (refine Rn.cond rfl ?_; conv => whnf) | (refine And.intro (InR.i64 (by omega) (by omega)) ?_; conv => whnf) | (refine And.intro (show _ ≠ (0 : Int) by omega) ?_; conv => whnf) | (refine WIx.intsN (by omega) ?_; conv => whnf) | (refine WIx.rowsN (by omega) ?_; conv => whnf) | (refine WCall.pure (iTb) ?_; conv => whnf) | (refine WCall.pure (iR) ?_; conv => whnf) | (refine WCall.pure (iS) ?_; conv => whnf) | (refine WCall.pure (iF) ?_; conv => whnf) | (refine WCall.pure (iI) ?_; conv => whnf) | (refine WCall.pure (AW) ?_; conv => whnf) | ((with_reducible refine WB.decT (by first | with_reducible rfl | assumption | omega | exact ⟨rfl, rfl⟩) ?_); conv => whnf) | ((with_reducible refine WB.decF (by first | assumption | omega) ?_); conv => whnf) | ((with_reducible refine WB.ndT (by first | with_reducible rfl | assumption | omega | exact ⟨rfl, rfl⟩) ?_); conv => whnf) | ((with_reducible refine WB.ndF (by first | assumption | omega) ?_); conv => whnf) | ((with_reducible refine WB.nt ?_); conv => whnf) | ((with_reducible refine WB.nf ?_); conv => whnf) | ((with_reducible refine WB.dec (fun h => ?_) (fun h => ?_)) <;> conv => whnf) | ((with_reducible refine WB.ndec (fun h => ?_) (fun h => ?_)) <;> conv => whnf) | (refine WB.mk (fun h => ?_) (fun h => ?_) <;> conv => whnf) | (refine WB.tt ?_; conv => whnf) | (refine WB.ff ?_; conv => whnf)
        refine WSt.eqr2 rfl rfl z0 z0 z0 z0 ?_; conv => whnf
        repeat' first | ((with_reducible apply WB.tt); conv => whnf) | ((with_reducible apply WB.ff); conv => whnf) | (refine Rn.seq ?_; conv => whnf) | (refine Rn.reg ?_; conv => whnf) | (refine Rn.drw ?_; conv => whnf) | (refine Rn.blk ?_; conv => whnf) | (refine Rn.skip ?_; conv => whnf) | (refine Rn.ret ?_; conv => whnf) | (refine Rn.exit ?_; conv => whnf) | (refine Rn.cond rfl ?_; conv => whnf) | (refine And.intro (InR.i64 (by omega) (by omega)) ?_; conv => whnf) | (refine And.intro (show _ ≠ (0 : Int) by omega) ?_; conv => whnf) | (refine WIx.intsN (by omega) ?_; conv => whnf) | (refine WIx.rowsN (by omega) ?_; conv => whnf) | (refine WCall.pure (iTb) ?_; conv => whnf) | (refine WCall.pure (iR) ?_; conv => whnf) | (refine WCall.pure (iS) ?_; conv => whnf) | (refine WCall.pure (iF) ?_; conv => whnf) | (refine WCall.pure (iI) ?_; conv => whnf) | (refine WCall.pure (AW) ?_; conv => whnf) | ((with_reducible refine WB.decT (by first | with_reducible rfl | assumption | omega | exact ⟨rfl, rfl⟩) ?_); conv => whnf) | ((with_reducible refine WB.decF (by first | assumption | omega) ?_); conv => whnf) | ((with_reducible refine WB.ndT (by first | with_reducible rfl | assumption | omega | exact ⟨rfl, rfl⟩) ?_); conv => whnf) | ((with_reducible refine WB.ndF (by first | assumption | omega) ?_); conv => whnf) | ((with_reducible refine WB.nt ?_); conv => whnf) | ((with_reducible refine WB.nf ?_); conv => whnf) | ((with_reducible refine WB.dec (fun h => ?_) (fun h => ?_)) <;> conv => whnf) | ((with_reducible refine WB.ndec (fun h => ?_) (fun h => ?_)) <;> conv => whnf) | (refine WB.mk (fun h => ?_) (fun h => ?_) <;> conv => whnf) | (refine WB.tt ?_; conv => whnf) | (refine WB.ff ?_; conv => whnf)
        exact Fin.b rfl rfl
theorem main_tideReaches (AW : PureF Try.prog p21.ix [] (.b true)) {es : List D} (fit : FitP [(true, [.i .i64, .sl [.i .i64, .i .i64], .i .i64, .sl [.i .i64], .sl [.i .i64, .i .i64, .i .i64, .i .i64]]), (false, [.i .i64])] es) : PureF Try.prog 5 es (.b true) := by
  obtain ⟨last, hs, step, lv, ms, _, rfl, g1⟩ := fit.tab
  obtain ⟨n, _, rfl, _, g2⟩ := g1.i
  obtain rfl := g2.no
  exact c_TideReaches last hs step lv ms n AW
end Go.Ev

namespace Go.Proofs.Ytpemagogcagipaa.tideReaches
open Go.ChangeShapes Go.WideShapes Go.ChangeAt Go.RowKit
open Go.ChangeMaps (open_string shut_string)
set_option linter.unusedVariables false

theorem laid : laidOutB Try.prog = true := by kernel_rfl
theorem own : ownKnob Try.prog.godebug = none := by kernel_rfl

/-! ### the walk -/
theorem walk {es : List Go.Ev.D} (fit : Go.Ev.FitP [(true, [.i .i64, .sl [.i .i64, .i .i64], .i .i64, .sl [.i .i64], .sl [.i .i64, .i .i64, .i .i64, .i .i64]]), (false, [.i .i64])] es) {args : Array Value} {W : World} (ha : Go.Ev.DVL (Go.Ev.γH W) W es args.toList) :
    Calls Try.prog 5 args W fun e w' => e = .returned (.bool true) ∧ Grown W w' ∧ Below W.heap.size W w' :=
  Go.Ev.PureF.calls (Go.Ev.main_tideReaches (fun ob nx lg => Go.Ev.closed_call Go.Ev.fp_ok Go.Ev.aw ob nx lg) fit) ha

set_option maxRecDepth 100000 in
theorem lifted (os : Os) (started : os.Started) (H : Type) (enc : TypeId × Value → H) :
    ReturnsInHanded {} Try.checked os 5 .any (Rows.tideReachesSpec.pre6 enc Try.prog Try.f5 Rows.tideReachesRow.domain false) (Rows.tideReachesSpec.post enc Try.prog Try.f5 false true false false) := by
  refine returnsInHanded_of_change (C := Try.checked) own started (by kernel_rfl) Try.func5
    (ChangeSpec.witness6 (enc := enc) (C := Try.checked) false ⟨#[], #[.agg #[.int .i64 0, .slice none 0 0, .int .i64 0, .slice none 0 0, .slice none 0 0], .int .i64 0], []⟩ 8 (by kernel_rfl) (by kernel_rfl) (by kernel_rfl) (by kernel_rfl)) ?_
  intro W base args ds gs before hval0 hW hcnd _
  have hval : ∀ (j : Nat) t v, Try.f5.params[j]? = some t → args[j]? = some v → Value.okWide Try.prog W .any base t v := hval0
  have hW' := hW
  obtain ⟨p, q, hA0, hV, rfl, hfz, hnd⟩ := hW
  have hA : DataW.TrodAll enc Try.prog W 0 (fun _ => true) true Try.f5.params.toList args.toList ds p := hA0
  rw [Try.params5] at hA hval
  obtain ⟨rfl, rfl⟩ := trodVars_none hV
  obtain ⟨d0, d1, rfl⟩ := Go.Ev.len2 (Go.Ev.trod_len hA)
  clear hA0 hval0
  simp only [List.append_nil] at hW'
  obtain ⟨es, fit, dv⟩ := Go.Ev.open_all (n := 6) (pars := [(true, [.i .i64, .sl [.i .i64, .i .i64], .i .i64, .sl [.i .i64], .sl [.i .i64, .i .i64, .i .i64, .i .i64]]), (false, [.i .i64])]) (by kernel_rfl) hA (fun j t v h1 h2 => hval j t v (by simpa using h1) (by simpa using h2))
  have hlt : ∀ x ∈ p, x.block < W.heap.size := fun x hx => by simpa using hW'.lt x hx
  refine (walk fit dv).mono fun e W' ⟨he, hg, hb⟩ => ?_
  subst he
  exact ⟨_, rfl, post_of_same (pa := p) (pv := []) hW' (fun _ _ _ => (trodAll_cons_mk (shut_bool Try.underlying4 _) trodAll_mk0))
    (fun sp hs => Go.Ev.stays_all laid (Go.Ev.of_allT (by kernel_rfl)) hA (fun x hx => hb.same (hlt x hx)) (fun x hx => hs x hx))
    (fun _ _ => rfl) (List.append_nil _).symm
    (hg.frame _) hg.2.1 (ok_one (by kernel_rfl) rfl (okWide_bool_mk Try.underlying4 _))⟩

theorem over : Rows.tideReachesRow.holds Try.pinned (OpenSpec.ofChange Rows.tideReachesSpec) :=
  OpenClaim.holds_of_wide 5 Try.f5 rfl rfl rfl rfl rfl rfl rfl ⟨rfl, rfl, rfl, rfl, rfl⟩ rfl rfl rfl rfl rfl (by kernel_rfl) Try.func5 (by kernel_rfl)
    (of_decide_eq_true (by kernel_rfl)) (by unfold Func.isWrapper; first | (rw [if_pos (by decide +kernel)]; kernel_rfl) | (rw [if_neg (by decide +kernel)]; exact ⟨rfl, rfl⟩))
    (fun os started H enc _ => lifted os started H enc)

/-- ████ THE STATEMENT ████ -/
theorem proved : Rows.TideReachesSaid :=
  over
#print axioms proved
end Go.Proofs.Ytpemagogcagipaa.tideReaches
