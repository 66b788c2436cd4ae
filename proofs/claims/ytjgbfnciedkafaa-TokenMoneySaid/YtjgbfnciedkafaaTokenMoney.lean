/-
  TokenMoney: the program's bounds of the money and of the mixed returns are those of the reference's truths.
-/
import Derived.Test.YtjgbfnciedkafaaEvUHc
import Derived.Test.YtjgbfnciedkafaaRows
import Derived.WalkKit
import Derived.ProofKit
import Derived.OpenShut
import Derived.Test.YtjgbfnciedkafaaEvUOc
import Derived.Test.YtjgbfnciedkafaaEvUS3T
import Derived.ShutString
import Derived.Test.YtjgbfnciedkafaaFaTokenMoney
set_option linter.all false
namespace Go.Ev
open Go.Proofs
set_option maxRecDepth 1000000
noncomputable def rc5 : RC := (.seq (.reg [(.u (.box p3 (.t p1))), (.u (.mv p5 (.k (.b false))))]) (.seq (.seq (.reg [(.u (.ldn p13 (.t p3) 5)), (.u (.cf (some p14) p21 [(.t p13)])), (.u (.un p15 .not (.t p14)))]) (.cond (.t p15) (.seq (.reg [(.u (.cf (some p16) p22 [])), (.u (.mv p5 (.t p16)))]) .ret) .skip)) (.seq (.reg [(.u (.ldn p18 (.t p3) 5)), (.u (.cf (some p19) p24 [(.t p18)])), (.u (.mv p20 (.t p2))), (.u (.cf (some p21) p39 [(.t p19), (.t p20)])), (.u (.mv p17 (.t p21))), (.u (.ext p22 (.t p17) 0)), (.u (.ext p23 (.t p17) 1)), (.u (.new p6 [(.i .i64 0), (.i .i64 0)])), (.u (.st (.t p6) (.t p22) 2)), (.u (.mv p7 (.t p23)))]) (.seq (.reg [(.u (.ldn p25 (.t p3) 5)), (.u (.cf (some p26) p24 [(.t p25)])), (.u (.cf (some p27) p40 [(.t p26)])), (.u (.mv p24 (.t p27))), (.u (.ext p28 (.t p24) 0)), (.u (.ext p29 (.t p24) 1)), (.u (.new p8 [(.i .i64 0), (.i .i64 0)])), (.u (.st (.t p8) (.t p28) 2)), (.u (.mv p9 (.t p29)))]) (.seq (.reg [(.u (.ldn p31 (.t p3) 5)), (.u (.cf (some p32) p35 [(.t p31)])), (.u (.mv p30 (.t p32))), (.u (.ext p33 (.t p30) 0)), (.u (.ext p34 (.t p30) 1)), (.u (.mv p10 (.t p33))), (.u (.mv p11 (.t p34)))]) (.seq (.reg [(.u (.mv p35 (.t p11))), (.u (.mv p12 (.t p35)))]) (.seq (.seq (.reg [(.u (.ldn p36 (.t p3) 5)), (.u (.cf (some p37) p27 [(.t p36)])), (.u (.bin p38 .eql (.t p37) (.k (.i .i64 0)))), (.u (.mv p39 (.t p38))), (.g p39 true (some p40) (.mv p40 (.t p2))), (.g p39 true (some p41) (.fad p41 (.t p3) 3)), (.g p39 true (some p42) (.ld1 p42 (.t p41))), (.g p39 true (some p43) (.len p43 (.t p42))), (.g p39 true (some p44) (.cf (some p44) p36 [(.t p40), (.k (.i .i64 0)), (.t p43)])), (.g p39 true (some p45) (.un p45 .not (.t p44))), (.u (.pick p46 (.t p39) (.t p45) (.k (.b false))))]) (.cond (.t p46) (.reg [(.u (.mv p12 (.k (.i .i64 2))))]) .skip)) (.seq (.seq (.reg [(.u (.mv p47 (.t p7))), (.u (.mv p48 (.t p12))), (.u (.bin p49 .neq (.t p47) (.t p48))), (.u (.mv p50 (.t p49))), (.g p50 false (some p51) (.mv p51 (.t p9))), (.g p50 false (some p52) (.mv p52 (.t p11))), (.g p50 false (some p53) (.bin p53 .neq (.t p51) (.t p52))), (.u (.pick p54 (.t p50) (.k (.b true)) (.t p53))), (.u (.mv p55 (.t p54))), (.g p55 false (some p56) (.mv p56 (.t p12))), (.g p55 false (some p57) (.bin p57 .neq (.t p56) (.k (.i .i64 0)))), (.g p55 false (some p58) (.mv p58 (.t p57))), (.g p58 true (some p59) (.ldn p59 (.t p6) 2)), (.g p58 true (some p60) (.bld p60 [(.i .i64 0), (.i .i64 0)] [])), (.g p58 true (some p61) (.eqr p61 true [(.i .i64), (.i .i64)] (.t p59) (.t p60))), (.g p55 false (some p62) (.pick p62 (.t p58) (.t p61) (.k (.b false)))), (.u (.pick p63 (.t p55) (.k (.b true)) (.t p62))), (.u (.mv p64 (.t p63))), (.g p64 false (some p65) (.mv p65 (.t p11))), (.g p64 false (some p66) (.bin p66 .neq (.t p65) (.k (.i .i64 0)))), (.g p64 false (some p67) (.mv p67 (.t p66))), (.g p67 true (some p68) (.ldn p68 (.t p8) 2)), (.g p67 true (some p69) (.bld p69 [(.i .i64 0), (.i .i64 0)] [])), (.g p67 true (some p70) (.eqr p70 true [(.i .i64), (.i .i64)] (.t p68) (.t p69))), (.g p64 false (some p71) (.pick p71 (.t p67) (.t p70) (.k (.b false)))), (.u (.pick p72 (.t p64) (.k (.b true)) (.t p71)))]) (.cond (.t p72) (.seq (.reg [(.u (.mv p5 (.k (.b false))))]) .ret) .skip)) (.seq (.drw [(.u (.mv p73 (.t p12))), (.u (.bin p74 .neq (.t p73) (.k (.i .i64 0)))), (.u (.mv p75 (.t p74))), (.g p75 false (some p76) (.ldn p76 (.t p6) 2)), (.g p75 false (some p77) (.ldn p77 (.t p3) 5)), (.g p75 false (some p78) (.mv p78 (.t p10))), (.g p75 false (some p79) (.mv p79 (.t p2))), (.g p75 false (some p80) (.cf (some p80) p42 [(.t p77), (.t p78), (.t p79)])), (.g p75 false (some p81) (.cf (some p81) p41 [(.t p80)])), (.g p75 false (some p82) (.eqr p82 false [(.i .i64), (.i .i64)] (.t p76) (.t p81))), (.u (.pick p83 (.t p75) (.k (.b true)) (.t p82))), (.u (.mv p84 (.t p83))), (.g p84 true (some p85) (.mv p85 (.t p11))), (.g p84 true (some p86) (.bin p86 .neq (.t p85) (.k (.i .i64 0)))), (.g p84 true (some p87) (.mv p87 (.t p86))), (.g p87 false (some p88) (.ldn p88 (.t p8) 2)), (.g p87 false (some p89) (.mv p89 (.t p10))), (.g p87 false (some p90) (.cf (some p90) p43 [(.t p89)])), (.g p87 false (some p91) (.cf (some p91) p41 [(.t p90)])), (.g p87 false (some p92) (.eqr p92 false [(.i .i64), (.i .i64)] (.t p88) (.t p91))), (.g p84 true (some p93) (.pick p93 (.t p87) (.k (.b true)) (.t p92))), (.u (.pick p94 (.t p84) (.t p93) (.k (.b false)))), (.u (.mv p95 (.t p94))), (.g p95 true (some p96) (.cf (some p96) p22 [])), (.u (.pick p97 (.t p95) (.t p96) (.k (.b false)))), (.u (.mv p5 (.t p97)))] [0, 1, 3, 7, 7, 7, 7, 119, 247, 511, 1023, 2047, 4095, 8191, 16383, 32767, 32767, 98303, 229375, 524287, 1048575, 2097151, 4194303, 8388607, 16777215, 33554431]) .ret)))))))))
def rs5 : List RR := [(.t p5)]
theorem fn5 : FnOk Try.prog p6.ix 97 rc5 rs5 := ⟨Try.f5, bodyC Try.f5, Try.func5, by kernel_rfl, by kernel_rfl, by kernel_rfl, by kernel_rfl, by kernel_rfl⟩

end Go.Ev

namespace Go.Ev
open Go.Proofs
set_option maxRecDepth 100000
/-! ### TokenMoney -/
theorem wid_wf {A B : List Int} (h0 : A ≠ []) (hs : ∀ x, x ∈ A ↔ x ∈ B) (hb : ∀ x ∈ B, -1099511627776 ≤ x ∧ x ≤ 1099511627776) : wfB .i64 (widR B).1 = true ∧ wfB .i64 (widR B).2 = true := by
  obtain ⟨e1, e2⟩ := bd_widJ h0 hs hb
  have hA := getD0_mem h0
  obtain ⟨a1, a2, a3⟩ := foldl_minJ A (A.getD 0 0)
  obtain ⟨c1, c2, c3⟩ := foldl_maxJ A (A.getD 0 0)
  have k0 := hb _ ((hs _).1 hA)
  have k1 : -1099511627776 ≤ A.foldl min (A.getD 0 0) ∧ A.foldl min (A.getD 0 0) ≤ 1099511627776 := by
    rcases a3 with h | h
    · rw [h]; exact k0
    · exact hb _ ((hs _).1 h)
  have k2 : -1099511627776 ≤ A.foldl max (A.getD 0 0) ∧ A.foldl max (A.getD 0 0) ≤ 1099511627776 := by
    rcases c3 with h | h
    · rw [h]; exact k0
    · exact hb _ ((hs _).1 h)
  rw [← e1, ← e2]
  exact ⟨wf_small (by omega) (by omega), wf_small (by omega) (by omega)⟩
theorem sE_bad {n coin box : Int} {ls : List Ln} {cs : List Ct} (h : faultT n coin box ls cs ≠ 0) (t : Bool) : sE n coin box ls cs t = faultT n coin box ls cs := by unfold sE; rw [if_pos h]
theorem sE_away {n coin box : Int} {ls : List Ln} {cs : List Ct} (h : faultT n coin box ls cs = 0) : sE n coin box ls cs false = 2 := by unfold sE; rw [if_neg (fun k => k h)]; rfl
theorem sE_false {n coin box : Int} {ls : List Ln} {cs : List Ct} (h : faultT n coin box ls cs = 0) (hb : hasB (B5 n coin box ls cs) = false) : sE n coin box ls cs true = 11 := by unfold sE; rw [if_neg (fun k => k h), hb]; rfl
theorem sE_true {n coin box : Int} {ls : List Ln} {cs : List Ct} (h : faultT n coin box ls cs = 0) (hb : hasB (B5 n coin box ls cs) = true) : sE n coin box ls cs true = 0 := by unfold sE; rw [if_neg (fun k => k h), hb]; rfl
set_option maxHeartbeats 4000000 in
theorem j_TokenMoney (n coin box : Int) (ls : List Ln) (cs : List Ct) (after : Int) (AW : PureF Try.prog p22.ix [] (.b true)) : PureF Try.prog p6.ix [.ag [.i .i64 n, .i .i64 coin, .i .i64 box, .lst 3 (rows lnD ls), .lst 3 (rows ctD cs)], .i .i64 after] (.b true) := by
  have e1 := rows_length lnD ls
  have iT := j_Thin n coin box ls cs
  unfold bk5 at iT
  refine PureF.run fn5 (by simp) (by simp [PuL, PuE, Pu, pu_ints, pu_ln, pu_ct, pu_tl]) ?_; conv => whnf
  cases hT : thinT n coin box ls cs with
  | false =>
    rw [hT] at iT
    repeat' first | ((first | with_reducible apply WB.tt | with_reducible apply WB.ff | refine Rn.seq ?_ | refine Rn.reg ?_ | refine Rn.drw ?_ | refine Rn.blk ?_ | refine Rn.skip ?_ | refine Rn.ret ?_ | refine Rn.exit ?_ | refine Rn.cond rfl ?_ | refine And.intro (InR.i64 (by omega) (by omega)) ?_ | refine And.intro (show _ ≠ (0 : Int) by omega) ?_ | refine WIx.intsN (by omega) ?_ | refine WIx.rowsN (by omega) ?_ | refine WCall.pure (iT) ?_) <;> conv => whnf)
    refine WB.tt ?_; conv => whnf
    repeat' first | ((first | with_reducible apply WB.tt | with_reducible apply WB.ff | refine Rn.seq ?_ | refine Rn.reg ?_ | refine Rn.drw ?_ | refine Rn.blk ?_ | refine Rn.skip ?_ | refine Rn.ret ?_ | refine Rn.exit ?_ | refine Rn.cond rfl ?_ | refine And.intro (InR.i64 (by omega) (by omega)) ?_ | refine And.intro (show _ ≠ (0 : Int) by omega) ?_ | refine WIx.intsN (by omega) ?_ | refine WIx.rowsN (by omega) ?_ | refine WCall.pure (AW) ?_) <;> conv => whnf)
    exact Fin.b rfl rfl
  | true =>
  rw [hT] at iT
  have hT' := hT
  unfold thinT at hT'
  rw [Bool.and_eq_true, Bool.and_eq_true, decide_eq_true_iff, decide_eq_true_iff] at hT'
  obtain ⟨t1, t2, _⟩ := hT'
  have iB := j_Book n coin box ls cs (by omega) (by omega)
  have iF := j_fault n coin box ls cs
  have iM := j_MoneyP n coin box ls cs after
  have iX := j_MixedP n coin box ls cs
  have iS := j_sure n coin box ls cs
  have iI := j_In after 0 (ls.length : Int)
  unfold bk5 at iF iS
  unfold monT at iM
  unfold mixT at iX
  unfold surD at iS
  rw [← e1] at iI
  have hz : (0 : Int) = 0 ∧ (0 : Int) = 0 := ⟨rfl, rfl⟩
  by_cases h0 : faultT n coin box ls cs ≠ 0
  · rw [sE_bad h0, if_neg h0] at iM iX iS
    generalize faultT n coin box ls cs = f at *
    repeat' first | ((first | with_reducible apply WB.tt | with_reducible apply WB.ff | refine Rn.seq ?_ | refine Rn.reg ?_ | refine Rn.drw ?_ | refine Rn.blk ?_ | refine Rn.skip ?_ | refine Rn.ret ?_ | refine Rn.exit ?_ | refine Rn.cond rfl ?_ | refine And.intro (InR.i64 (by omega) (by omega)) ?_ | refine And.intro (show _ ≠ (0 : Int) by omega) ?_ | refine WIx.intsN (by omega) ?_ | refine WIx.rowsN (by omega) ?_ | refine WCall.pure (iT) ?_ | refine WCall.pure (iB) ?_ | refine WCall.pure (iF) ?_ | refine WCall.pure (iM) ?_ | refine WCall.pure (iX) ?_ | refine WCall.pure (iS) ?_ | with_reducible refine WB.decT (by first | with_reducible rfl | assumption | omega | exact ⟨rfl, rfl⟩) ?_ | with_reducible refine WB.decF (by first | assumption | omega) ?_ | with_reducible refine WB.ndT (by first | with_reducible rfl | assumption | omega | exact ⟨rfl, rfl⟩) ?_ | with_reducible refine WB.ndF (by first | assumption | omega) ?_ | with_reducible refine WB.nt ?_ | with_reducible refine WB.nf ?_ | with_reducible refine WB.dec (fun h => ?_) (fun h => ?_) | with_reducible refine WB.ndec (fun h => ?_) (fun h => ?_) | refine WB.mk (fun h => ?_) (fun h => ?_)) <;> conv => whnf)
    refine WSt.eqr2n (a := 0) (b := 0) (a' := 0) (b' := 0) rfl rfl rfl rfl rfl rfl ?_; conv => whnf
    repeat' first | ((first | with_reducible apply WB.tt | with_reducible apply WB.ff | refine Rn.seq ?_ | refine Rn.reg ?_ | refine Rn.drw ?_ | refine Rn.blk ?_ | refine Rn.skip ?_ | refine Rn.ret ?_ | refine Rn.exit ?_ | refine Rn.cond rfl ?_ | refine And.intro (InR.i64 (by omega) (by omega)) ?_ | refine And.intro (show _ ≠ (0 : Int) by omega) ?_ | refine WIx.intsN (by omega) ?_ | refine WIx.rowsN (by omega) ?_ | refine WCall.pure (AW) ?_ | with_reducible refine WB.decT (by first | with_reducible rfl | assumption | omega | exact ⟨rfl, rfl⟩) ?_ | with_reducible refine WB.decF (by first | assumption | omega) ?_ | with_reducible refine WB.ndT (by first | with_reducible rfl | assumption | omega | exact ⟨rfl, rfl⟩) ?_ | with_reducible refine WB.ndF (by first | assumption | omega) ?_ | with_reducible refine WB.nt ?_ | with_reducible refine WB.nf ?_ | with_reducible refine WB.dec (fun h => ?_) (fun h => ?_) | with_reducible refine WB.ndec (fun h => ?_) (fun h => ?_) | refine WB.mk (fun h => ?_) (fun h => ?_)) <;> conv => whnf)
    refine WSt.eqr2n (a := 0) (b := 0) (a' := 0) (b' := 0) rfl rfl rfl rfl rfl rfl ?_; conv => whnf
    repeat' first | ((first | with_reducible apply WB.tt | with_reducible apply WB.ff | refine Rn.seq ?_ | refine Rn.reg ?_ | refine Rn.drw ?_ | refine Rn.blk ?_ | refine Rn.skip ?_ | refine Rn.ret ?_ | refine Rn.exit ?_ | refine Rn.cond rfl ?_ | refine And.intro (InR.i64 (by omega) (by omega)) ?_ | refine And.intro (show _ ≠ (0 : Int) by omega) ?_ | refine WIx.intsN (by omega) ?_ | refine WIx.rowsN (by omega) ?_ | refine WCall.pure (AW) ?_ | with_reducible refine WB.decT (by first | with_reducible rfl | assumption | omega | exact ⟨rfl, rfl⟩) ?_ | with_reducible refine WB.decF (by first | assumption | omega) ?_ | with_reducible refine WB.ndT (by first | with_reducible rfl | assumption | omega | exact ⟨rfl, rfl⟩) ?_ | with_reducible refine WB.ndF (by first | assumption | omega) ?_ | with_reducible refine WB.nt ?_ | with_reducible refine WB.nf ?_ | with_reducible refine WB.dec (fun h => ?_) (fun h => ?_) | with_reducible refine WB.ndec (fun h => ?_) (fun h => ?_) | refine WB.mk (fun h => ?_) (fun h => ?_)) <;> conv => whnf)
    exact Fin.b rfl rfl
  have h0 : faultT n coin box ls cs = 0 := by omega
  have V := VB.of h0
  have hlen := fun X (h : X ∈ refT (B5 n coin box ls cs)) => refT_len V h
  have hRl : (refT (B5 n coin box ls cs)).length ≤ 4096 := Nat.le_trans (List.length_filter_le _ _) (allN3_len V)
  rw [h0] at iF
  cases hb : hasB (B5 n coin box ls cs) with
  | false =>
    cases ht : inR after 0 (ls.length : Int) with
    | false =>
      rw [ht, sE_away h0, if_neg (by decide)] at iM
      rw [sE_false h0 hb, if_neg (by decide)] at iX iS
      rw [e1, ht] at iI
      rw [← e1] at iI
      repeat' first | ((first | with_reducible apply WB.tt | with_reducible apply WB.ff | refine Rn.seq ?_ | refine Rn.reg ?_ | refine Rn.drw ?_ | refine Rn.blk ?_ | refine Rn.skip ?_ | refine Rn.ret ?_ | refine Rn.exit ?_ | refine Rn.cond rfl ?_ | refine And.intro (InR.i64 (by omega) (by omega)) ?_ | refine And.intro (show _ ≠ (0 : Int) by omega) ?_ | refine WIx.intsN (by omega) ?_ | refine WIx.rowsN (by omega) ?_ | refine WCall.pure (iT) ?_ | refine WCall.pure (iB) ?_ | refine WCall.pure (iF) ?_ | refine WCall.pure (iM) ?_ | refine WCall.pure (iX) ?_ | refine WCall.pure (iS) ?_ | refine WCall.pure (iI) ?_ | with_reducible refine WB.decT (by first | with_reducible rfl | assumption | omega | exact ⟨rfl, rfl⟩) ?_ | with_reducible refine WB.decF (by first | assumption | omega) ?_ | with_reducible refine WB.ndT (by first | with_reducible rfl | assumption | omega | exact ⟨rfl, rfl⟩) ?_ | with_reducible refine WB.ndF (by first | assumption | omega) ?_ | with_reducible refine WB.nt ?_ | with_reducible refine WB.nf ?_ | with_reducible refine WB.dec (fun h => ?_) (fun h => ?_) | with_reducible refine WB.ndec (fun h => ?_) (fun h => ?_) | refine WB.mk (fun h => ?_) (fun h => ?_)) <;> conv => whnf)
      refine WSt.eqr2n (a := 0) (b := 0) (a' := 0) (b' := 0) rfl rfl rfl rfl rfl rfl ?_; conv => whnf
      repeat' first | ((first | with_reducible apply WB.tt | with_reducible apply WB.ff | refine Rn.seq ?_ | refine Rn.reg ?_ | refine Rn.drw ?_ | refine Rn.blk ?_ | refine Rn.skip ?_ | refine Rn.ret ?_ | refine Rn.exit ?_ | refine Rn.cond rfl ?_ | refine And.intro (InR.i64 (by omega) (by omega)) ?_ | refine And.intro (show _ ≠ (0 : Int) by omega) ?_ | refine WIx.intsN (by omega) ?_ | refine WIx.rowsN (by omega) ?_ | refine WCall.pure (AW) ?_ | with_reducible refine WB.decT (by first | with_reducible rfl | assumption | omega | exact ⟨rfl, rfl⟩) ?_ | with_reducible refine WB.decF (by first | assumption | omega) ?_ | with_reducible refine WB.ndT (by first | with_reducible rfl | assumption | omega | exact ⟨rfl, rfl⟩) ?_ | with_reducible refine WB.ndF (by first | assumption | omega) ?_ | with_reducible refine WB.nt ?_ | with_reducible refine WB.nf ?_ | with_reducible refine WB.dec (fun h => ?_) (fun h => ?_) | with_reducible refine WB.ndec (fun h => ?_) (fun h => ?_) | refine WB.mk (fun h => ?_) (fun h => ?_)) <;> conv => whnf)
      refine WSt.eqr2n (a := 0) (b := 0) (a' := 0) (b' := 0) rfl rfl rfl rfl rfl rfl ?_; conv => whnf
      repeat' first | ((first | with_reducible apply WB.tt | with_reducible apply WB.ff | refine Rn.seq ?_ | refine Rn.reg ?_ | refine Rn.drw ?_ | refine Rn.blk ?_ | refine Rn.skip ?_ | refine Rn.ret ?_ | refine Rn.exit ?_ | refine Rn.cond rfl ?_ | refine And.intro (InR.i64 (by omega) (by omega)) ?_ | refine And.intro (show _ ≠ (0 : Int) by omega) ?_ | refine WIx.intsN (by omega) ?_ | refine WIx.rowsN (by omega) ?_ | refine WCall.pure (AW) ?_ | with_reducible refine WB.decT (by first | with_reducible rfl | assumption | omega | exact ⟨rfl, rfl⟩) ?_ | with_reducible refine WB.decF (by first | assumption | omega) ?_ | with_reducible refine WB.ndT (by first | with_reducible rfl | assumption | omega | exact ⟨rfl, rfl⟩) ?_ | with_reducible refine WB.ndF (by first | assumption | omega) ?_ | with_reducible refine WB.nt ?_ | with_reducible refine WB.nf ?_ | with_reducible refine WB.dec (fun h => ?_) (fun h => ?_) | with_reducible refine WB.ndec (fun h => ?_) (fun h => ?_) | refine WB.mk (fun h => ?_) (fun h => ?_)) <;> conv => whnf)
      exact Fin.b rfl rfl
    | true =>
      rw [ht, sE_false h0 hb, if_neg (by decide)] at iM
      rw [sE_false h0 hb, if_neg (by decide)] at iX iS
      rw [e1, ht] at iI
      rw [← e1] at iI
      repeat' first | ((first | with_reducible apply WB.tt | with_reducible apply WB.ff | refine Rn.seq ?_ | refine Rn.reg ?_ | refine Rn.drw ?_ | refine Rn.blk ?_ | refine Rn.skip ?_ | refine Rn.ret ?_ | refine Rn.exit ?_ | refine Rn.cond rfl ?_ | refine And.intro (InR.i64 (by omega) (by omega)) ?_ | refine And.intro (show _ ≠ (0 : Int) by omega) ?_ | refine WIx.intsN (by omega) ?_ | refine WIx.rowsN (by omega) ?_ | refine WCall.pure (iT) ?_ | refine WCall.pure (iB) ?_ | refine WCall.pure (iF) ?_ | refine WCall.pure (iM) ?_ | refine WCall.pure (iX) ?_ | refine WCall.pure (iS) ?_ | refine WCall.pure (iI) ?_ | with_reducible refine WB.decT (by first | with_reducible rfl | assumption | omega | exact ⟨rfl, rfl⟩) ?_ | with_reducible refine WB.decF (by first | assumption | omega) ?_ | with_reducible refine WB.ndT (by first | with_reducible rfl | assumption | omega | exact ⟨rfl, rfl⟩) ?_ | with_reducible refine WB.ndF (by first | assumption | omega) ?_ | with_reducible refine WB.nt ?_ | with_reducible refine WB.nf ?_ | with_reducible refine WB.dec (fun h => ?_) (fun h => ?_) | with_reducible refine WB.ndec (fun h => ?_) (fun h => ?_) | refine WB.mk (fun h => ?_) (fun h => ?_)) <;> conv => whnf)
      refine WSt.eqr2n (a := 0) (b := 0) (a' := 0) (b' := 0) rfl rfl rfl rfl rfl rfl ?_; conv => whnf
      repeat' first | ((first | with_reducible apply WB.tt | with_reducible apply WB.ff | refine Rn.seq ?_ | refine Rn.reg ?_ | refine Rn.drw ?_ | refine Rn.blk ?_ | refine Rn.skip ?_ | refine Rn.ret ?_ | refine Rn.exit ?_ | refine Rn.cond rfl ?_ | refine And.intro (InR.i64 (by omega) (by omega)) ?_ | refine And.intro (show _ ≠ (0 : Int) by omega) ?_ | refine WIx.intsN (by omega) ?_ | refine WIx.rowsN (by omega) ?_ | refine WCall.pure (AW) ?_ | with_reducible refine WB.decT (by first | with_reducible rfl | assumption | omega | exact ⟨rfl, rfl⟩) ?_ | with_reducible refine WB.decF (by first | assumption | omega) ?_ | with_reducible refine WB.ndT (by first | with_reducible rfl | assumption | omega | exact ⟨rfl, rfl⟩) ?_ | with_reducible refine WB.ndF (by first | assumption | omega) ?_ | with_reducible refine WB.nt ?_ | with_reducible refine WB.nf ?_ | with_reducible refine WB.dec (fun h => ?_) (fun h => ?_) | with_reducible refine WB.ndec (fun h => ?_) (fun h => ?_) | refine WB.mk (fun h => ?_) (fun h => ?_)) <;> conv => whnf)
      refine WSt.eqr2n (a := 0) (b := 0) (a' := 0) (b' := 0) rfl rfl rfl rfl rfl rfl ?_; conv => whnf
      repeat' first | ((first | with_reducible apply WB.tt | with_reducible apply WB.ff | refine Rn.seq ?_ | refine Rn.reg ?_ | refine Rn.drw ?_ | refine Rn.blk ?_ | refine Rn.skip ?_ | refine Rn.ret ?_ | refine Rn.exit ?_ | refine Rn.cond rfl ?_ | refine And.intro (InR.i64 (by omega) (by omega)) ?_ | refine And.intro (show _ ≠ (0 : Int) by omega) ?_ | refine WIx.intsN (by omega) ?_ | refine WIx.rowsN (by omega) ?_ | refine WCall.pure (AW) ?_ | with_reducible refine WB.decT (by first | with_reducible rfl | assumption | omega | exact ⟨rfl, rfl⟩) ?_ | with_reducible refine WB.decF (by first | assumption | omega) ?_ | with_reducible refine WB.ndT (by first | with_reducible rfl | assumption | omega | exact ⟨rfl, rfl⟩) ?_ | with_reducible refine WB.ndF (by first | assumption | omega) ?_ | with_reducible refine WB.nt ?_ | with_reducible refine WB.nf ?_ | with_reducible refine WB.dec (fun h => ?_) (fun h => ?_) | with_reducible refine WB.ndec (fun h => ?_) (fun h => ?_) | refine WB.mk (fun h => ?_) (fun h => ?_)) <;> conv => whnf)
      exact Fin.b rfl rfl
  | true =>
    have hne : exT (B5 n coin box ls cs) ls.length [] ≠ [] := ex_ne (sE_true h0 hb)
    have hne : exT (B5 n coin box ls cs) (B5 n coin box ls cs).ls.length [] ≠ [] := hne
    have mS := mixed_same V hne
    have mS : lohi (ansL (B5 n coin box ls cs) ls.length Mo.mix) = _ := mS
    have mW : wfB .i64 (widR ((refT (B5 n coin box ls cs)).map fun t => mixR t t.length)).1 = true ∧ wfB .i64 (widR ((refT (B5 n coin box ls cs)).map fun t => mixR t t.length)).2 = true := wid_wf (ans_ne (aft := ls.length) (ak := Mo.mix) hne) (fun x => by
      have h1 := mem_ans V (aft := ls.length) (ak := Mo.mix) (g := fun t => mixR t ls.length) (fun X => rfl) x
      have : (refT (B5 n coin box ls cs)).map (fun t => mixR t ls.length) = (refT (B5 n coin box ls cs)).map fun t => mixR t t.length := List.map_congr_left fun X hX => by
        show mixR X ls.length = mixR X X.length
        rw [show X.length = ls.length from hlen X hX]
      rw [this] at h1
      exact h1) (fun x hx => by
      obtain ⟨X, hX, rfl⟩ := List.mem_map.1 hx
      have := mixR_bd (T := X) X.length
      have := refT_len V hX
      have := V.len
      show _ ≤ mixR X X.length ∧ mixR X X.length ≤ _
      omega)
    have iY := j_MixR (refT (B5 n coin box ls cs)) hRl (fun X h => by have := hlen X h; have h2 : X.length = ls.length := this; omega)
    rw [sE_true h0 hb, if_pos rfl, mS] at iX
    rw [sE_true h0 hb, if_pos rfl] at iS
    generalize hQ : widR ((refT (B5 n coin box ls cs)).map fun t => mixR t t.length) = q at *
    have iZ := j_to q.1 q.2
    have hq : q.1 = q.1 ∧ q.2 = q.2 := ⟨rfl, rfl⟩
    obtain ⟨mW1, mW2⟩ := mW
    cases ht : inR after 0 (ls.length : Int) with
    | false =>
      rw [ht, sE_away h0, if_neg (by decide)] at iM
      rw [e1, ht] at iI
      rw [← e1] at iI
      repeat' first | ((first | with_reducible apply WB.tt | with_reducible apply WB.ff | refine Rn.seq ?_ | refine Rn.reg ?_ | refine Rn.drw ?_ | refine Rn.blk ?_ | refine Rn.skip ?_ | refine Rn.ret ?_ | refine Rn.exit ?_ | refine Rn.cond rfl ?_ | refine And.intro (InR.i64 (by omega) (by omega)) ?_ | refine And.intro (show _ ≠ (0 : Int) by omega) ?_ | refine WIx.intsN (by omega) ?_ | refine WIx.rowsN (by omega) ?_ | refine WCall.pure (iT) ?_ | refine WCall.pure (iB) ?_ | refine WCall.pure (iF) ?_ | refine WCall.pure (iM) ?_ | refine WCall.pure (iX) ?_ | refine WCall.pure (iS) ?_ | refine WCall.pure (iI) ?_ | with_reducible refine WB.decT (by first | with_reducible rfl | assumption | omega | exact ⟨rfl, rfl⟩) ?_ | with_reducible refine WB.decF (by first | assumption | omega) ?_ | with_reducible refine WB.ndT (by first | with_reducible rfl | assumption | omega | exact ⟨rfl, rfl⟩) ?_ | with_reducible refine WB.ndF (by first | assumption | omega) ?_ | with_reducible refine WB.nt ?_ | with_reducible refine WB.nf ?_ | with_reducible refine WB.dec (fun h => ?_) (fun h => ?_) | with_reducible refine WB.ndec (fun h => ?_) (fun h => ?_) | refine WB.mk (fun h => ?_) (fun h => ?_)) <;> conv => whnf)
      refine WSt.eqr2n (a := 0) (b := 0) (a' := 0) (b' := 0) rfl rfl rfl rfl rfl rfl ?_; conv => whnf
      repeat' first | ((first | with_reducible apply WB.tt | with_reducible apply WB.ff | refine Rn.seq ?_ | refine Rn.reg ?_ | refine Rn.drw ?_ | refine Rn.blk ?_ | refine Rn.skip ?_ | refine Rn.ret ?_ | refine Rn.exit ?_ | refine Rn.cond rfl ?_ | refine And.intro (InR.i64 (by omega) (by omega)) ?_ | refine And.intro (show _ ≠ (0 : Int) by omega) ?_ | refine WIx.intsN (by omega) ?_ | refine WIx.rowsN (by omega) ?_ | refine WCall.pure (iY) ?_ | refine WCall.pure (iZ) ?_ | refine WCall.pure (AW) ?_ | with_reducible refine WB.decT (by first | with_reducible rfl | assumption | omega | exact ⟨rfl, rfl⟩) ?_ | with_reducible refine WB.decF (by first | assumption | omega) ?_ | with_reducible refine WB.ndT (by first | with_reducible rfl | assumption | omega | exact ⟨rfl, rfl⟩) ?_ | with_reducible refine WB.ndF (by first | assumption | omega) ?_ | with_reducible refine WB.nt ?_ | with_reducible refine WB.nf ?_ | with_reducible refine WB.dec (fun h => ?_) (fun h => ?_) | with_reducible refine WB.ndec (fun h => ?_) (fun h => ?_) | refine WB.mk (fun h => ?_) (fun h => ?_)) <;> conv => whnf)
      refine WSt.eqr2 (a := q.1) (b := q.2) (a' := q.1) (b' := q.2) rfl rfl mW1 mW2 mW1 mW2 ?_; conv => whnf
      repeat' first | ((first | with_reducible apply WB.tt | with_reducible apply WB.ff | refine Rn.seq ?_ | refine Rn.reg ?_ | refine Rn.drw ?_ | refine Rn.blk ?_ | refine Rn.skip ?_ | refine Rn.ret ?_ | refine Rn.exit ?_ | refine Rn.cond rfl ?_ | refine And.intro (InR.i64 (by omega) (by omega)) ?_ | refine And.intro (show _ ≠ (0 : Int) by omega) ?_ | refine WIx.intsN (by omega) ?_ | refine WIx.rowsN (by omega) ?_ | refine WCall.pure (AW) ?_ | with_reducible refine WB.decT (by first | with_reducible rfl | assumption | omega | exact ⟨rfl, rfl⟩) ?_ | with_reducible refine WB.decF (by first | assumption | omega) ?_ | with_reducible refine WB.ndT (by first | with_reducible rfl | assumption | omega | exact ⟨rfl, rfl⟩) ?_ | with_reducible refine WB.ndF (by first | assumption | omega) ?_ | with_reducible refine WB.nt ?_ | with_reducible refine WB.nf ?_ | with_reducible refine WB.dec (fun h => ?_) (fun h => ?_) | with_reducible refine WB.ndec (fun h => ?_) (fun h => ?_) | refine WB.mk (fun h => ?_) (fun h => ?_)) <;> conv => whnf)
      exact Fin.b rfl rfl
    | true =>
      have ha := inR_iff.1 ht
      obtain ⟨m, rfl⟩ : ∃ m : Nat, after = (m : Int) := ⟨after.toNat, by omega⟩
      have hm : m ≤ ls.length := by omega
      have nS := money_same V (aft := m) hm hne
      have nS : lohi (ansL (B5 n coin box ls cs) m Mo.box) = .ag [.i .i64 (widR ((refT (B5 n coin box ls cs)).map fun t => monR box coin t m)).1, .i .i64 (widR ((refT (B5 n coin box ls cs)).map fun t => monR box coin t m)).2] := nS
      obtain ⟨nW1, nW2⟩ := wid_wf (B := (refT (B5 n coin box ls cs)).map fun t => monR box coin t m) (ans_ne hne) (mem_ans V (aft := m) (ak := Mo.box) (g := fun t => monR box coin t m) fun X => rfl) (fun x hx => by
        obtain ⟨X, hX, rfl⟩ := List.mem_map.1 hx
        have h1 := monR_bd (T := X) V.box V.coin m
        have h1 : -99 * (m : Int) ≤ monR box coin X m ∧ monR box coin X m ≤ 999 + 99 * (m : Int) := h1
        show _ ≤ monR box coin X m ∧ monR box coin X m ≤ _
        omega)
      have iW := j_BoundsR n coin box ls cs (refT (B5 n coin box ls cs)) m V.box V.coin hRl (fun X h => by have := hlen X h; have h2 : X.length = ls.length := this; omega)
      unfold bk5 at iW
      rw [ht, sE_true h0 hb, if_pos rfl, Int.toNat_natCast, nS] at iM
      generalize widR ((refT (B5 n coin box ls cs)).map fun t => monR box coin t m) = r at *
      rw [e1, ht] at iI
      rw [← e1] at iI
      have iU := j_to r.1 r.2
      have hr : r.1 = r.1 ∧ r.2 = r.2 := ⟨rfl, rfl⟩
      repeat' first | ((first | with_reducible apply WB.tt | with_reducible apply WB.ff | refine Rn.seq ?_ | refine Rn.reg ?_ | refine Rn.drw ?_ | refine Rn.blk ?_ | refine Rn.skip ?_ | refine Rn.ret ?_ | refine Rn.exit ?_ | refine Rn.cond rfl ?_ | refine And.intro (InR.i64 (by omega) (by omega)) ?_ | refine And.intro (show _ ≠ (0 : Int) by omega) ?_ | refine WIx.intsN (by omega) ?_ | refine WIx.rowsN (by omega) ?_ | refine WCall.pure (iT) ?_ | refine WCall.pure (iB) ?_ | refine WCall.pure (iF) ?_ | refine WCall.pure (iM) ?_ | refine WCall.pure (iX) ?_ | refine WCall.pure (iS) ?_ | refine WCall.pure (iI) ?_ | refine WCall.pure (iW) ?_ | refine WCall.pure (iU) ?_ | with_reducible refine WB.decT (by first | with_reducible rfl | assumption | omega | exact ⟨rfl, rfl⟩) ?_ | with_reducible refine WB.decF (by first | assumption | omega) ?_ | with_reducible refine WB.ndT (by first | with_reducible rfl | assumption | omega | exact ⟨rfl, rfl⟩) ?_ | with_reducible refine WB.ndF (by first | assumption | omega) ?_ | with_reducible refine WB.nt ?_ | with_reducible refine WB.nf ?_ | with_reducible refine WB.dec (fun h => ?_) (fun h => ?_) | with_reducible refine WB.ndec (fun h => ?_) (fun h => ?_) | refine WB.mk (fun h => ?_) (fun h => ?_)) <;> conv => whnf)
      refine WSt.eqr2 (a := r.1) (b := r.2) (a' := r.1) (b' := r.2) rfl rfl nW1 nW2 nW1 nW2 ?_; conv => whnf
      repeat' first | ((first | with_reducible apply WB.tt | with_reducible apply WB.ff | refine Rn.seq ?_ | refine Rn.reg ?_ | refine Rn.drw ?_ | refine Rn.blk ?_ | refine Rn.skip ?_ | refine Rn.ret ?_ | refine Rn.exit ?_ | refine Rn.cond rfl ?_ | refine And.intro (InR.i64 (by omega) (by omega)) ?_ | refine And.intro (show _ ≠ (0 : Int) by omega) ?_ | refine WIx.intsN (by omega) ?_ | refine WIx.rowsN (by omega) ?_ | refine WCall.pure (iY) ?_ | refine WCall.pure (iZ) ?_ | refine WCall.pure (AW) ?_ | with_reducible refine WB.decT (by first | with_reducible rfl | assumption | omega | exact ⟨rfl, rfl⟩) ?_ | with_reducible refine WB.decF (by first | assumption | omega) ?_ | with_reducible refine WB.ndT (by first | with_reducible rfl | assumption | omega | exact ⟨rfl, rfl⟩) ?_ | with_reducible refine WB.ndF (by first | assumption | omega) ?_ | with_reducible refine WB.nt ?_ | with_reducible refine WB.nf ?_ | with_reducible refine WB.dec (fun h => ?_) (fun h => ?_) | with_reducible refine WB.ndec (fun h => ?_) (fun h => ?_) | refine WB.mk (fun h => ?_) (fun h => ?_)) <;> conv => whnf)
      refine WSt.eqr2 (a := q.1) (b := q.2) (a' := q.1) (b' := q.2) rfl rfl mW1 mW2 mW1 mW2 ?_; conv => whnf
      repeat' first | ((first | with_reducible apply WB.tt | with_reducible apply WB.ff | refine Rn.seq ?_ | refine Rn.reg ?_ | refine Rn.drw ?_ | refine Rn.blk ?_ | refine Rn.skip ?_ | refine Rn.ret ?_ | refine Rn.exit ?_ | refine Rn.cond rfl ?_ | refine And.intro (InR.i64 (by omega) (by omega)) ?_ | refine And.intro (show _ ≠ (0 : Int) by omega) ?_ | refine WIx.intsN (by omega) ?_ | refine WIx.rowsN (by omega) ?_ | refine WCall.pure (AW) ?_ | with_reducible refine WB.decT (by first | with_reducible rfl | assumption | omega | exact ⟨rfl, rfl⟩) ?_ | with_reducible refine WB.decF (by first | assumption | omega) ?_ | with_reducible refine WB.ndT (by first | with_reducible rfl | assumption | omega | exact ⟨rfl, rfl⟩) ?_ | with_reducible refine WB.ndF (by first | assumption | omega) ?_ | with_reducible refine WB.nt ?_ | with_reducible refine WB.nf ?_ | with_reducible refine WB.dec (fun h => ?_) (fun h => ?_) | with_reducible refine WB.ndec (fun h => ?_) (fun h => ?_) | refine WB.mk (fun h => ?_) (fun h => ?_)) <;> conv => whnf)
      exact Fin.b rfl rfl
end Go.Ev

namespace Go.Ev
open Go.Proofs
theorem main_tokenMoney (AW : PureF Try.prog p22.ix [] (.b true)) {es : List D} (fit : FitP [(true, [.i .i64, .i .i64, .i .i64, .sl [.i .i64, .i .i64, .i .i64], .sl [.i .i64, .i .i64, .i .i64]]), (false, [.i .i64])] es) : PureF Try.prog 5 es (.b true) := by
  obtain ⟨n, coin, box, ls, cs, _, rfl, g1⟩ := fit.book
  obtain ⟨k, _, rfl, _, g2⟩ := g1.i
  obtain rfl := g2.no
  exact j_TokenMoney n coin box ls cs k AW
end Go.Ev

namespace Go.Proofs.Ytjgbfnciedkafaa.tokenMoney
open Go.ChangeShapes Go.WideShapes Go.ChangeAt Go.RowKit
open Go.ChangeMaps (open_string shut_string)
set_option linter.unusedVariables false

theorem laid : laidOutB Try.prog = true := faP.laid
theorem own : ownKnob Try.prog.godebug = none := by kernel_rfl

/-! ### the walk -/
theorem walk {es : List Go.Ev.D} (fit : Go.Ev.FitP [(true, [.i .i64, .i .i64, .i .i64, .sl [.i .i64, .i .i64, .i .i64], .sl [.i .i64, .i .i64, .i .i64]]), (false, [.i .i64])] es) {args : Array Value} {W : World} (ha : Go.Ev.DVL (Go.Ev.γH W) W es args.toList) :
    Calls Try.prog 5 args W fun e w' => e = .returned (.bool true) ∧ Grown W w' ∧ Below W.heap.size W w' :=
  Go.Ev.PureF.calls (Go.Ev.main_tokenMoney (fun ob nx lg => Go.Ev.t21.any ob nx lg) fit) ha

set_option maxRecDepth 100000 in
theorem lifted (os : Os) (started : os.Started) (H : Type) (enc : TypeId × Value → H) :
    ReturnsInHanded {} Try.checked os 5 .any (Rows.tokenMoneySpec.pre6 enc Try.prog Try.f5 Rows.tokenMoneyRow.domain false) (Rows.tokenMoneySpec.post enc Try.prog Try.f5 false true false false) := by
  refine returnsInHanded_of_change (C := Try.checked) own started (by kernel_rfl) Try.func5
    (ChangeSpec.witness6 (enc := enc) (C := Try.checked) false ⟨#[], #[.agg #[.int .i64 0, .int .i64 0, .int .i64 0, .slice none 0 0, .slice none 0 0], .int .i64 0], []⟩ 8 (by kernel_rfl) (by kernel_rfl) (by kernel_rfl) (by kernel_rfl)) ?_
  intro W base args ds gs before hval0 hW hcnd _
  have hval : ∀ (j : Nat) t v, Try.f5.params[j]? = some t → args[j]? = some v → Value.okWide Try.prog W .any base t v := hval0
  have hW' := hW
  obtain ⟨p, q, hA0, hV, rfl, hfz, hnd⟩ := hW
  have hA : DataW.TrodAll enc Try.prog W 0 (fun _ => true) true Try.f5.params.toList args.toList ds p := hA0
  rw [Try.params5] at hA hval
  obtain ⟨rfl, rfl⟩ := trodVars_none hV
  obtain ⟨d0, d1, rfl⟩ := Go.Ev.len2 (Go.Ev.trod_len hA)
  clear hA0 hval0
  simp only [List.append_nil] at hW'
  obtain ⟨es, fit, dv⟩ := Go.Ev.open_all (n := 6) (pars := [(true, [.i .i64, .i .i64, .i .i64, .sl [.i .i64, .i .i64, .i .i64], .sl [.i .i64, .i .i64, .i .i64]]), (false, [.i .i64])]) (by kernel_rfl) hA (fun j t v h1 h2 => hval j t v (by simpa using h1) (by simpa using h2))
  have hlt : ∀ x ∈ p, x.block < W.heap.size := fun x hx => by simpa using hW'.lt x hx
  refine (walk fit dv).mono fun e W' ⟨he, hg, hb⟩ => ?_
  subst he
  exact ⟨_, rfl, post_of_same (pa := p) (pv := []) hW' (fun _ _ _ => (trodAll_cons_mk (shut_bool Try.underlying4 _) trodAll_mk0))
    (fun sp hs => Go.Ev.stays_all laid (Go.Ev.of_allT (by kernel_rfl)) hA (fun x hx => hb.same (hlt x hx)) (fun x hx => hs x hx))
    (fun _ _ => rfl) (List.append_nil _).symm
    (hg.frame _) hg.2.1 (ok_one (by kernel_rfl) rfl (okWide_bool_mk Try.underlying4 _))⟩

theorem over : Rows.tokenMoneyRow.holds Try.pinned (OpenSpec.ofChange Rows.tokenMoneySpec) :=
  OpenClaim.holds_of_wide 5 Try.f5 rfl rfl rfl rfl rfl rfl rfl ⟨rfl, rfl, rfl, rfl, rfl⟩ rfl rfl rfl rfl rfl (by kernel_rfl) Try.func5 faTokenMoney.all
    (of_decide_eq_true (by kernel_rfl)) (by unfold Func.isWrapper; first | (rw [if_pos (by decide +kernel)]; kernel_rfl) | (rw [if_neg (by decide +kernel)]; exact ⟨rfl, rfl⟩))
    (fun os started H enc _ => lifted os started H enc)

/-- ████ THE STATEMENT ████ -/
theorem proved : Rows.TokenMoneySaid :=
  over
#print axioms proved
end Go.Proofs.Ytjgbfnciedkafaa.tokenMoney
