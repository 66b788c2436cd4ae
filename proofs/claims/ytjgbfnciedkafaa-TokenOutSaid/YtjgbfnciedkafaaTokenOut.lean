/-
  TokenOut: which chairs and tokens are out, always, never or perhaps, as in the reference's truths.
-/
import Derived.Test.YtjgbfnciedkafaaEvUHc
import Derived.Test.YtjgbfnciedkafaaEvUGf
import Derived.Test.YtjgbfnciedkafaaRows
import Derived.WalkKit
import Derived.ProofKit
import Derived.OpenShut
import Derived.Test.YtjgbfnciedkafaaEvUOc
import Derived.Test.YtjgbfnciedkafaaEvUS3T
import Derived.ShutString
import Derived.Test.YtjgbfnciedkafaaFaTokenOut
set_option linter.all false
namespace Go.Ev
open Go.Proofs
set_option maxRecDepth 1000000
noncomputable def rc4 : RC := (.seq (.reg [(.u (.box p3 (.t p1))), (.u (.mv p5 (.k (.b false))))]) (.seq (.seq (.reg [(.u (.ldn p12 (.t p3) 5)), (.u (.cf (some p13) p21 [(.t p12)])), (.u (.un p14 .not (.t p13)))]) (.cond (.t p14) (.seq (.reg [(.u (.cf (some p15) p22 [])), (.u (.mv p5 (.t p15)))]) .ret) .skip)) (.seq (.reg [(.u (.ldn p17 (.t p3) 5)), (.u (.cf (some p18) p24 [(.t p17)])), (.u (.mv p19 (.t p2))), (.u (.cf (some p20) p34 [(.t p18), (.t p19)])), (.u (.mv p16 (.t p20))), (.u (.ext p21 (.t p16) 0)), (.u (.ext p22 (.t p16) 1)), (.u (.ext p23 (.t p16) 2)), (.u (.mv p6 (.t p21))), (.u (.mv p7 (.t p22))), (.u (.mv p8 (.t p23)))]) (.seq (.reg [(.u (.ldn p25 (.t p3) 5)), (.u (.cf (some p26) p35 [(.t p25)])), (.u (.mv p24 (.t p26))), (.u (.ext p27 (.t p24) 0)), (.u (.ext p28 (.t p24) 1)), (.u (.mv p9 (.t p27))), (.u (.mv p10 (.t p28)))]) (.seq (.seq (.reg [(.u (.ldn p29 (.t p3) 5)), (.u (.cf (some p30) p27 [(.t p29)])), (.u (.bin p31 .eql (.t p30) (.k (.i .i64 0)))), (.u (.mv p32 (.t p31))), (.g p32 true (some p33) (.mv p33 (.t p2))), (.g p32 true (some p34) (.fad p34 (.t p3) 3)), (.g p32 true (some p35) (.ld1 p35 (.t p34))), (.g p32 true (some p36) (.len p36 (.t p35))), (.g p32 true (some p37) (.cf (some p37) p36 [(.t p33), (.k (.i .i64 0)), (.t p36)])), (.g p32 true (some p38) (.un p38 .not (.t p37))), (.u (.pick p39 (.t p32) (.t p38) (.k (.b false))))]) (.cond (.t p39) (.reg [(.u (.mv p10 (.k (.i .i64 2))))]) .skip)) (.seq (.seq (.reg [(.u (.mv p40 (.t p10))), (.u (.bin p41 .neq (.t p40) (.k (.i .i64 0))))]) (.cond (.t p41) (.seq (.reg [(.u (.mv p42 (.t p8))), (.u (.mv p43 (.t p10))), (.u (.bin p44 .eql (.t p42) (.t p43))), (.u (.mv p45 (.t p44))), (.g p45 true (some p46) (.mv p46 (.t p6))), (.g p45 true (some p47) (.len p47 (.t p46))), (.g p45 true (some p48) (.mv p48 (.t p7))), (.g p45 true (some p49) (.len p49 (.t p48))), (.g p45 true (some p50) (.bin p50 .add (.t p47) (.t p49))), (.g p45 true (some p51) (.bin p51 .eql (.t p50) (.k (.i .i64 0)))), (.u (.pick p52 (.t p45) (.t p51) (.k (.b false)))), (.u (.mv p53 (.t p52))), (.g p53 true (some p54) (.cf (some p54) p22 [])), (.u (.pick p55 (.t p53) (.t p54) (.k (.b false)))), (.u (.mv p5 (.t p55)))]) .ret) .skip)) (.seq (.seq (.reg [(.u (.mv p56 (.t p8))), (.u (.bin p57 .neq (.t p56) (.k (.i .i64 0)))), (.u (.mv p58 (.t p57))), (.g p58 false (some p59) (.mv p59 (.t p6))), (.g p58 false (some p60) (.len p60 (.t p59))), (.g p58 false (some p61) (.fad p61 (.t p3) 0)), (.g p58 false (some p62) (.ld1 p62 (.t p61))), (.g p58 false (some p63) (.bin p63 .neq (.t p60) (.t p62))), (.u (.pick p64 (.t p58) (.k (.b true)) (.t p63))), (.u (.mv p65 (.t p64))), (.g p65 false (some p66) (.mv p66 (.t p7))), (.g p65 false (some p67) (.len p67 (.t p66))), (.g p65 false (some p68) (.fad p68 (.t p3) 0)), (.g p65 false (some p69) (.ld1 p69 (.t p68))), (.g p65 false (some p70) (.bin p70 .neq (.t p67) (.t p69))), (.u (.pick p71 (.t p65) (.k (.b true)) (.t p70)))]) (.cond (.t p71) (.seq (.reg [(.u (.mv p5 (.k (.b false))))]) .ret) .skip)) (.seq (.seq (.reg [(.u (.mv p11 (.k (.i .i64 0))))]) (.blk 0 (.loop (.seq (.seq (.reg [(.u (.mv p72 (.t p11))), (.u (.fad p73 (.t p3) 0)), (.u (.ld1 p74 (.t p73))), (.u (.bin p75 .lss (.t p72) (.t p74)))]) (.cond (.t p75) .skip (.exit 0))) (.seq (.blk 1 (.seq (.drw [(.u (.mv p78 (.t p6))), (.u (.mv p79 (.t p11))), (.u (.ixs p80 1 (.t p78) (.t p79))), (.u (.ld1 p81 (.t p80))), (.u (.mv p82 (.t p9))), (.u (.mv p83 (.t p2))), (.u (.mv p84 (.t p11))), (.u (.cf (some p85) p37 [(.t p82), (.t p83), (.t p84)])), (.u (.bin p86 .neq (.t p81) (.t p85))), (.u (.mv p87 (.t p86))), (.g p87 false (some p88) (.mv p88 (.t p7))), (.g p87 false (some p89) (.mv p89 (.t p11))), (.g p87 false (some p90) (.ixs p90 1 (.t p88) (.t p89))), (.g p87 false (some p91) (.ld1 p91 (.t p90))), (.g p87 false (some p92) (.mv p92 (.t p9))), (.g p87 false (some p93) (.mv p93 (.t p2))), (.g p87 false (some p94) (.mv p94 (.t p11))), (.g p87 false (some p95) (.cf (some p95) p38 [(.t p92), (.t p93), (.t p94)])), (.g p87 false (some p96) (.bin p96 .neq (.t p91) (.t p95))), (.u (.pick p97 (.t p87) (.k (.b true)) (.t p96)))] [0, 0, 3, 7, 0, 0, 0, 112, 255, 511, 1023, 1023, 4095, 8191, 1023, 1023, 1023, 115711, 262143, 524287]) (.cond (.t p97) (.seq (.reg [(.u (.mv p5 (.k (.b false))))]) .ret) .skip))) (.reg [(.u (.mv p76 (.t p11))), (.u (.bin p77 .add (.t p76) (.k (.i .i64 1)))), (.u (.mv p11 (.t p77)))])))))) (.seq (.reg [(.u (.cf (some p98) p22 [])), (.u (.mv p5 (.t p98)))]) .ret)))))))))
def rs4 : List RR := [(.t p5)]
theorem fn4 : FnOk Try.prog p5.ix 98 rc4 rs4 := ⟨Try.f4, bodyC Try.f4, Try.func4, by kernel_rfl, by kernel_rfl, by kernel_rfl, by kernel_rfl, by kernel_rfl⟩

end Go.Ev

namespace Go.Ev
open Go.Proofs
set_option maxRecDepth 100000
/-! ### TokenOut -/
set_option maxHeartbeats 4000000 in
theorem j_TokenOutL (n coin box : Int) (ls : List Ln) (cs : List Ct) (after : Int) (AW : PureF Try.prog p22.ix [] (.b true)) : PureF Try.prog p5.ix [.ag [.i .i64 n, .i .i64 coin, .i .i64 box, .lst 3 (rows lnD ls), .lst 3 (rows ctD cs)], .i .i64 after] (.b true) := by
  have e1 := rows_length lnD ls
  have iT := j_Thin n coin box ls cs
  unfold bk5 at iT
  refine PureF.run fn4 (by simp) (by simp [PuL, PuE, Pu, pu_ints, pu_ln, pu_ct, pu_tl]) ?_; conv => whnf
  cases hT : thinT n coin box ls cs with
  | false =>
    rw [hT] at iT
    repeat' first | ((first | with_reducible apply WB.tt | with_reducible apply WB.ff | refine Rn.seq ?_ | refine Rn.reg ?_ | refine Rn.drw ?_ | refine Rn.blk ?_ | refine Rn.skip ?_ | refine Rn.ret ?_ | refine Rn.exit ?_ | refine Rn.cond rfl ?_ | refine And.intro (InR.i64 (by omega) (by omega)) ?_ | refine And.intro (show _ ≠ (0 : Int) by omega) ?_ | refine WIx.intsN (by omega) ?_ | refine WIx.rowsN (by omega) ?_ | refine WCall.pure (iT) ?_) <;> conv => whnf)
    refine WB.tt ?_; conv => whnf
    repeat' first | ((first | with_reducible apply WB.tt | with_reducible apply WB.ff | refine Rn.seq ?_ | refine Rn.reg ?_ | refine Rn.drw ?_ | refine Rn.blk ?_ | refine Rn.skip ?_ | refine Rn.ret ?_ | refine Rn.exit ?_ | refine Rn.cond rfl ?_ | refine And.intro (InR.i64 (by omega) (by omega)) ?_ | refine And.intro (show _ ≠ (0 : Int) by omega) ?_ | refine WIx.intsN (by omega) ?_ | refine WIx.rowsN (by omega) ?_ | refine WCall.pure (AW) ?_) <;> conv => whnf)
    exact Fin.b rfl rfl
  | true =>
  rw [hT] at iT
  have hT' := hT
  unfold thinT at hT'
  rw [Bool.and_eq_true, Bool.and_eq_true, decide_eq_true_iff, decide_eq_true_iff] at hT'
  obtain ⟨t1, t2, _⟩ := hT'
  have iB := j_Book n coin box ls cs (by omega) (by omega)
  have iF := j_fault n coin box ls cs
  have iO := j_OutP n coin box ls cs after
  have iS := j_sure n coin box ls cs
  have iI := j_In after 0 (ls.length : Int)
  unfold bk5 at iF iS
  unfold outT at iO
  unfold surD at iS
  rw [← e1] at iI
  have hz : ((([] : List (List D)).length : Int) + (([] : List (List D)).length : Int)) = 0 := rfl
  by_cases h0 : faultT n coin box ls cs ≠ 0
  · rw [sE_bad h0, if_neg h0] at iO iS
    generalize faultT n coin box ls cs = f at *
    repeat' first | ((first | with_reducible apply WB.tt | with_reducible apply WB.ff | refine Rn.seq ?_ | refine Rn.reg ?_ | refine Rn.drw ?_ | refine Rn.blk ?_ | refine Rn.skip ?_ | refine Rn.ret ?_ | refine Rn.exit ?_ | refine Rn.cond rfl ?_ | refine And.intro (InR.i64 (by omega) (by omega)) ?_ | refine And.intro (show _ ≠ (0 : Int) by omega) ?_ | refine WIx.intsN (by omega) ?_ | refine WIx.rowsN (by omega) ?_ | refine WCall.pure (iT) ?_ | refine WCall.pure (iB) ?_ | refine WCall.pure (iF) ?_ | refine WCall.pure (iO) ?_ | refine WCall.pure (iS) ?_ | with_reducible refine WB.decT (by first | with_reducible rfl | assumption | omega | exact ⟨rfl, rfl⟩) ?_ | with_reducible refine WB.decF (by first | assumption | omega) ?_ | with_reducible refine WB.ndT (by first | with_reducible rfl | assumption | omega | exact ⟨rfl, rfl⟩) ?_ | with_reducible refine WB.ndF (by first | assumption | omega) ?_ | with_reducible refine WB.nt ?_ | with_reducible refine WB.nf ?_ | with_reducible refine WB.dec (fun h => ?_) (fun h => ?_) | with_reducible refine WB.ndec (fun h => ?_) (fun h => ?_) | refine WB.mk (fun h => ?_) (fun h => ?_)) <;> conv => whnf)
    repeat' first | ((first | with_reducible apply WB.tt | with_reducible apply WB.ff | refine Rn.seq ?_ | refine Rn.reg ?_ | refine Rn.drw ?_ | refine Rn.blk ?_ | refine Rn.skip ?_ | refine Rn.ret ?_ | refine Rn.exit ?_ | refine Rn.cond rfl ?_ | refine And.intro (InR.i64 (by omega) (by omega)) ?_ | refine And.intro (show _ ≠ (0 : Int) by omega) ?_ | refine WIx.intsN (by omega) ?_ | refine WIx.rowsN (by omega) ?_ | refine WCall.pure (AW) ?_ | with_reducible refine WB.decT (by first | with_reducible rfl | assumption | omega | exact ⟨rfl, rfl⟩) ?_ | with_reducible refine WB.decF (by first | assumption | omega) ?_ | with_reducible refine WB.ndT (by first | with_reducible rfl | assumption | omega | exact ⟨rfl, rfl⟩) ?_ | with_reducible refine WB.ndF (by first | assumption | omega) ?_ | with_reducible refine WB.nt ?_ | with_reducible refine WB.nf ?_ | with_reducible refine WB.dec (fun h => ?_) (fun h => ?_) | with_reducible refine WB.ndec (fun h => ?_) (fun h => ?_) | refine WB.mk (fun h => ?_) (fun h => ?_)) <;> conv => whnf)
    exact Fin.b rfl rfl
  have h0 : faultT n coin box ls cs = 0 := by omega
  have V := VB.of h0
  have hlen := fun X (h : X ∈ refT (B5 n coin box ls cs)) => refT_len V h
  have hRl : (refT (B5 n coin box ls cs)).length ≤ 4096 := Nat.le_trans (List.length_filter_le _ _) (allN3_len V)
  rw [h0] at iF
  cases ht : inR after 0 (ls.length : Int) with
  | false =>
    rw [ht, sE_away h0, if_neg (by decide)] at iO
    rw [e1, ht] at iI
    rw [← e1] at iI
    cases hb : hasB (B5 n coin box ls cs) with
    | false =>
      rw [sE_false h0 hb, if_neg (by decide)] at iS
      repeat' first | ((first | with_reducible apply WB.tt | with_reducible apply WB.ff | refine Rn.seq ?_ | refine Rn.reg ?_ | refine Rn.drw ?_ | refine Rn.blk ?_ | refine Rn.skip ?_ | refine Rn.ret ?_ | refine Rn.exit ?_ | refine Rn.cond rfl ?_ | refine And.intro (InR.i64 (by omega) (by omega)) ?_ | refine And.intro (show _ ≠ (0 : Int) by omega) ?_ | refine WIx.intsN (by omega) ?_ | refine WIx.rowsN (by omega) ?_ | refine WCall.pure (iT) ?_ | refine WCall.pure (iB) ?_ | refine WCall.pure (iF) ?_ | refine WCall.pure (iO) ?_ | refine WCall.pure (iS) ?_ | refine WCall.pure (iI) ?_ | with_reducible refine WB.decT (by first | with_reducible rfl | assumption | omega | exact ⟨rfl, rfl⟩) ?_ | with_reducible refine WB.decF (by first | assumption | omega) ?_ | with_reducible refine WB.ndT (by first | with_reducible rfl | assumption | omega | exact ⟨rfl, rfl⟩) ?_ | with_reducible refine WB.ndF (by first | assumption | omega) ?_ | with_reducible refine WB.nt ?_ | with_reducible refine WB.nf ?_ | with_reducible refine WB.dec (fun h => ?_) (fun h => ?_) | with_reducible refine WB.ndec (fun h => ?_) (fun h => ?_) | refine WB.mk (fun h => ?_) (fun h => ?_)) <;> conv => whnf)
      repeat' first | ((first | with_reducible apply WB.tt | with_reducible apply WB.ff | refine Rn.seq ?_ | refine Rn.reg ?_ | refine Rn.drw ?_ | refine Rn.blk ?_ | refine Rn.skip ?_ | refine Rn.ret ?_ | refine Rn.exit ?_ | refine Rn.cond rfl ?_ | refine And.intro (InR.i64 (by omega) (by omega)) ?_ | refine And.intro (show _ ≠ (0 : Int) by omega) ?_ | refine WIx.intsN (by omega) ?_ | refine WIx.rowsN (by omega) ?_ | refine WCall.pure (AW) ?_ | with_reducible refine WB.decT (by first | with_reducible rfl | assumption | omega | exact ⟨rfl, rfl⟩) ?_ | with_reducible refine WB.decF (by first | assumption | omega) ?_ | with_reducible refine WB.ndT (by first | with_reducible rfl | assumption | omega | exact ⟨rfl, rfl⟩) ?_ | with_reducible refine WB.ndF (by first | assumption | omega) ?_ | with_reducible refine WB.nt ?_ | with_reducible refine WB.nf ?_ | with_reducible refine WB.dec (fun h => ?_) (fun h => ?_) | with_reducible refine WB.ndec (fun h => ?_) (fun h => ?_) | refine WB.mk (fun h => ?_) (fun h => ?_)) <;> conv => whnf)
      exact Fin.b rfl rfl
    | true =>
      rw [sE_true h0 hb, if_pos rfl] at iS
      repeat' first | ((first | with_reducible apply WB.tt | with_reducible apply WB.ff | refine Rn.seq ?_ | refine Rn.reg ?_ | refine Rn.drw ?_ | refine Rn.blk ?_ | refine Rn.skip ?_ | refine Rn.ret ?_ | refine Rn.exit ?_ | refine Rn.cond rfl ?_ | refine And.intro (InR.i64 (by omega) (by omega)) ?_ | refine And.intro (show _ ≠ (0 : Int) by omega) ?_ | refine WIx.intsN (by omega) ?_ | refine WIx.rowsN (by omega) ?_ | refine WCall.pure (iT) ?_ | refine WCall.pure (iB) ?_ | refine WCall.pure (iF) ?_ | refine WCall.pure (iO) ?_ | refine WCall.pure (iS) ?_ | refine WCall.pure (iI) ?_ | with_reducible refine WB.decT (by first | with_reducible rfl | assumption | omega | exact ⟨rfl, rfl⟩) ?_ | with_reducible refine WB.decF (by first | assumption | omega) ?_ | with_reducible refine WB.ndT (by first | with_reducible rfl | assumption | omega | exact ⟨rfl, rfl⟩) ?_ | with_reducible refine WB.ndF (by first | assumption | omega) ?_ | with_reducible refine WB.nt ?_ | with_reducible refine WB.nf ?_ | with_reducible refine WB.dec (fun h => ?_) (fun h => ?_) | with_reducible refine WB.ndec (fun h => ?_) (fun h => ?_) | refine WB.mk (fun h => ?_) (fun h => ?_)) <;> conv => whnf)
      repeat' first | ((first | with_reducible apply WB.tt | with_reducible apply WB.ff | refine Rn.seq ?_ | refine Rn.reg ?_ | refine Rn.drw ?_ | refine Rn.blk ?_ | refine Rn.skip ?_ | refine Rn.ret ?_ | refine Rn.exit ?_ | refine Rn.cond rfl ?_ | refine And.intro (InR.i64 (by omega) (by omega)) ?_ | refine And.intro (show _ ≠ (0 : Int) by omega) ?_ | refine WIx.intsN (by omega) ?_ | refine WIx.rowsN (by omega) ?_ | refine WCall.pure (AW) ?_ | with_reducible refine WB.decT (by first | with_reducible rfl | assumption | omega | exact ⟨rfl, rfl⟩) ?_ | with_reducible refine WB.decF (by first | assumption | omega) ?_ | with_reducible refine WB.ndT (by first | with_reducible rfl | assumption | omega | exact ⟨rfl, rfl⟩) ?_ | with_reducible refine WB.ndF (by first | assumption | omega) ?_ | with_reducible refine WB.nt ?_ | with_reducible refine WB.nf ?_ | with_reducible refine WB.dec (fun h => ?_) (fun h => ?_) | with_reducible refine WB.ndec (fun h => ?_) (fun h => ?_) | refine WB.mk (fun h => ?_) (fun h => ?_)) <;> conv => whnf)
      exact Fin.b rfl rfl
  | true =>
  rw [ht] at iO
  rw [e1, ht] at iI
  rw [← e1] at iI
  cases hb : hasB (B5 n coin box ls cs) with
  | false =>
    rw [sE_false h0 hb, if_neg (by decide)] at iO iS
    repeat' first | ((first | with_reducible apply WB.tt | with_reducible apply WB.ff | refine Rn.seq ?_ | refine Rn.reg ?_ | refine Rn.drw ?_ | refine Rn.blk ?_ | refine Rn.skip ?_ | refine Rn.ret ?_ | refine Rn.exit ?_ | refine Rn.cond rfl ?_ | refine And.intro (InR.i64 (by omega) (by omega)) ?_ | refine And.intro (show _ ≠ (0 : Int) by omega) ?_ | refine WIx.intsN (by omega) ?_ | refine WIx.rowsN (by omega) ?_ | refine WCall.pure (iT) ?_ | refine WCall.pure (iB) ?_ | refine WCall.pure (iF) ?_ | refine WCall.pure (iO) ?_ | refine WCall.pure (iS) ?_ | refine WCall.pure (iI) ?_ | with_reducible refine WB.decT (by first | with_reducible rfl | assumption | omega | exact ⟨rfl, rfl⟩) ?_ | with_reducible refine WB.decF (by first | assumption | omega) ?_ | with_reducible refine WB.ndT (by first | with_reducible rfl | assumption | omega | exact ⟨rfl, rfl⟩) ?_ | with_reducible refine WB.ndF (by first | assumption | omega) ?_ | with_reducible refine WB.nt ?_ | with_reducible refine WB.nf ?_ | with_reducible refine WB.dec (fun h => ?_) (fun h => ?_) | with_reducible refine WB.ndec (fun h => ?_) (fun h => ?_) | refine WB.mk (fun h => ?_) (fun h => ?_)) <;> conv => whnf)
    repeat' first | ((first | with_reducible apply WB.tt | with_reducible apply WB.ff | refine Rn.seq ?_ | refine Rn.reg ?_ | refine Rn.drw ?_ | refine Rn.blk ?_ | refine Rn.skip ?_ | refine Rn.ret ?_ | refine Rn.exit ?_ | refine Rn.cond rfl ?_ | refine And.intro (InR.i64 (by omega) (by omega)) ?_ | refine And.intro (show _ ≠ (0 : Int) by omega) ?_ | refine WIx.intsN (by omega) ?_ | refine WIx.rowsN (by omega) ?_ | refine WCall.pure (AW) ?_ | with_reducible refine WB.decT (by first | with_reducible rfl | assumption | omega | exact ⟨rfl, rfl⟩) ?_ | with_reducible refine WB.decF (by first | assumption | omega) ?_ | with_reducible refine WB.ndT (by first | with_reducible rfl | assumption | omega | exact ⟨rfl, rfl⟩) ?_ | with_reducible refine WB.ndF (by first | assumption | omega) ?_ | with_reducible refine WB.nt ?_ | with_reducible refine WB.nf ?_ | with_reducible refine WB.dec (fun h => ?_) (fun h => ?_) | with_reducible refine WB.ndec (fun h => ?_) (fun h => ?_) | refine WB.mk (fun h => ?_) (fun h => ?_)) <;> conv => whnf)
    exact Fin.b rfl rfl
  | true =>
    have hne : exT (B5 n coin box ls cs) (B5 n coin box ls cs).ls.length [] ≠ [] := ex_ne (sE_true h0 hb)
    have ha := inR_iff.1 ht
    obtain ⟨m, rfl⟩ : ∃ m : Nat, after = (m : Int) := ⟨after.toNat, by omega⟩
    have hm : m ≤ ls.length := by omega
    have hn : 1 ≤ n ∧ n ≤ 4 := V.n
    rw [sE_true h0 hb, if_pos rfl, Int.toNat_natCast] at iO
    rw [sE_true h0 hb, if_pos rfl] at iS
    have hLt : ∀ t ∈ refT (B5 n coin box ls cs), t.length ≤ 1000 ∧ m ≤ t.length := fun X h => by
      have h1 : X.length = ls.length := hlen X h
      omega
    have cC : ∀ j, j < n.toNat → PureF Try.prog p37.ix [.lst 1 (rows tlD (refT (B5 n coin box ls cs))), .i .i64 (m : Int), .i .i64 (j : Int)] (.i .i64 ((vdL (B5 n coin box ls cs) m 0).getD j 0)) := fun j hj => by
      have h1 := j_ChairR (refT (B5 n coin box ls cs)) m (j : Int) hRl hLt
      have h2 : (vdL (B5 n coin box ls cs) m 0).getD j 0 = vdO (B5 n coin box ls cs) m (0 + j) := vdL_at hj
      have h3 := vd_ref V (aft := m) (x := 0 + j) (by omega) hne
      rw [if_pos (show 0 + j < 4 by omega), show ((0 + j : Nat) : Int) = (j : Int) by omega] at h3
      rw [h2, h3]
      exact h1
    have cT : ∀ j, j < n.toNat → PureF Try.prog p38.ix [.lst 1 (rows tlD (refT (B5 n coin box ls cs))), .i .i64 (m : Int), .i .i64 (j : Int)] (.i .i64 ((vdL (B5 n coin box ls cs) m 4).getD j 0)) := fun j hj => by
      have h1 := j_TokenR (refT (B5 n coin box ls cs)) m (j : Int) hRl hLt
      have h2 : (vdL (B5 n coin box ls cs) m 4).getD j 0 = vdO (B5 n coin box ls cs) m (4 + j) := vdL_at hj
      have h3 := vd_ref V (aft := m) (x := 4 + j) (by omega) hne
      rw [if_neg (show ¬ 4 + j < 4 by omega), show ((4 + j - 4 : Nat) : Int) = (j : Int) by omega] at h3
      rw [h2, h3]
      exact h1
    have vl0 : (ints (vdL (B5 n coin box ls cs) m 0)).length = n.toNat := by rw [ints_length]; exact vdL_len _ _ _
    have vl4 : (ints (vdL (B5 n coin box ls cs) m 4)).length = n.toNat := by rw [ints_length]; exact vdL_len _ _ _
    have wl0 : (vdL (B5 n coin box ls cs) m 0).length = n.toNat := vdL_len _ _ _
    have wl4 : (vdL (B5 n coin box ls cs) m 4).length = n.toNat := vdL_len _ _ _
    generalize vdL (B5 n coin box ls cs) m 0 = C0 at *
    generalize vdL (B5 n coin box ls cs) m 4 = C4 at *
    generalize refT (B5 n coin box ls cs) = L at *
    repeat' first | ((first | with_reducible apply WB.tt | with_reducible apply WB.ff | refine Rn.seq ?_ | refine Rn.reg ?_ | refine Rn.drw ?_ | refine Rn.blk ?_ | refine Rn.skip ?_ | refine Rn.ret ?_ | refine Rn.exit ?_ | refine Rn.cond rfl ?_ | refine And.intro (InR.i64 (by omega) (by omega)) ?_ | refine And.intro (show _ ≠ (0 : Int) by omega) ?_ | refine WIx.intsN (by omega) ?_ | refine WIx.rowsN (by omega) ?_ | refine WCall.pure (iT) ?_ | refine WCall.pure (iB) ?_ | refine WCall.pure (iF) ?_ | refine WCall.pure (iO) ?_ | refine WCall.pure (iS) ?_ | refine WCall.pure (iI) ?_ | with_reducible refine WB.decT (by first | with_reducible rfl | assumption | omega | exact ⟨rfl, rfl⟩) ?_ | with_reducible refine WB.decF (by first | assumption | omega) ?_ | with_reducible refine WB.ndT (by first | with_reducible rfl | assumption | omega | exact ⟨rfl, rfl⟩) ?_ | with_reducible refine WB.ndF (by first | assumption | omega) ?_ | with_reducible refine WB.nt ?_ | with_reducible refine WB.nf ?_ | with_reducible refine WB.dec (fun h => ?_) (fun h => ?_) | with_reducible refine WB.ndec (fun h => ?_) (fun h => ?_) | refine WB.mk (fun h => ?_) (fun h => ?_)) <;> conv => whnf)
    refine Rn.loop (fun j : Nat => ⟨(.n (.n .e (some (.i .i64 (m : Int))) (.n .e (some (.lst 1 (ints C0))) .e)) none (.n (.n (.n .e (some (.lst 1 (rows tlD L))) .e) none .e) (some (.pt .h 0 0)) (.n (.n .e (some (.i .i64 (j : Int))) .e) (some (.lst 1 (ints C4))) .e))), (.n .e (some (bkC n coin box ls cs)) .e), .o .h, none⟩) (fun j => j ≤ n.toNat) (fun j => n.toNat - j) 0 ?_ ?_ ?_
    · refine X.le.mk ?_ ?_ (Nat.le_refl _) rfl rfl
      · (repeat' first | exact T.le_e _ | refine T.le_some ?_ rfl ?_ | refine T.le_none ?_ ?_)
      · (repeat' first | exact T.le_e _ | refine T.le_some ?_ rfl ?_ | refine T.le_none ?_ ?_ | refine T.le_ee ?_ ?_)
    · exact Nat.zero_le _
    intro j hj
    have hj : j ≤ n.toNat := hj
    conv => whnf
    repeat' first | ((first | with_reducible apply WB.tt | with_reducible apply WB.ff | refine Rn.seq ?_ | refine Rn.reg ?_ | refine Rn.drw ?_ | refine Rn.blk ?_ | refine Rn.skip ?_ | refine Rn.ret ?_ | refine Rn.exit ?_ | refine Rn.cond rfl ?_ | refine And.intro (InR.i64 (by omega) (by omega)) ?_ | refine And.intro (show _ ≠ (0 : Int) by omega) ?_ | refine WIx.intsN (by omega) ?_ | refine WIx.rowsN (by omega) ?_) <;> conv => whnf)
    refine WB.dec (fun h => ?_) (fun h => ?_) <;> conv => whnf
    · have hlt : j < n.toNat := by omega
      have c1 := cC j hlt
      have c2 := cT j hlt
      repeat' first | ((first | with_reducible apply WB.tt | with_reducible apply WB.ff | refine Rn.seq ?_ | refine Rn.reg ?_ | refine Rn.drw ?_ | refine Rn.blk ?_ | refine Rn.skip ?_ | refine Rn.ret ?_ | refine Rn.exit ?_ | refine Rn.cond rfl ?_ | refine And.intro (InR.i64 (by omega) (by omega)) ?_ | refine And.intro (show _ ≠ (0 : Int) by omega) ?_ | refine WIx.intsN (by omega) ?_ | refine WIx.rowsN (by omega) ?_ | refine WCall.pure (c1) ?_ | refine WCall.pure (c2) ?_ | with_reducible refine WB.decT (by first | with_reducible rfl | assumption | omega | exact ⟨rfl, rfl⟩) ?_ | with_reducible refine WB.decF (by first | assumption | omega) ?_ | with_reducible refine WB.ndT (by first | with_reducible rfl | assumption | omega | exact ⟨rfl, rfl⟩) ?_ | with_reducible refine WB.ndF (by first | assumption | omega) ?_ | with_reducible refine WB.nt ?_ | with_reducible refine WB.nf ?_ | with_reducible refine WB.dec (fun h => ?_) (fun h => ?_) | with_reducible refine WB.ndec (fun h => ?_) (fun h => ?_) | refine WB.mk (fun h => ?_) (fun h => ?_)) <;> conv => whnf)
      refine Again.to (j + 1) (by omega) (by omega) (Nat.le_refl _) ?_
      refine Shr.of ?_ ?_ rfl rfl
      · (repeat' first | exact Rel.e | refine Rel.some ?_ ?_ ?_ | refine Rel.none ?_ ?_ | refine Rel.ee ?_ ?_)
        all_goals show Fz _ _ _ _
        all_goals first | exact .kpt (show _ < _ by simp [Pos.nat]) | exact .pu trivial | exact .pu (pu_ints _) | exact .pu (pu_tl _)
      · (repeat' first | exact Rel.e | refine Rel.some ?_ ?_ ?_ | refine Rel.none ?_ ?_ | refine Rel.ee ?_ ?_)
        all_goals exact RO'.of (show _ < _ by simp [Pos.nat]) (ShC.kp (bkC_kp _ _ _ _ _ _))
    · repeat' first | ((first | with_reducible apply WB.tt | with_reducible apply WB.ff | refine Rn.seq ?_ | refine Rn.reg ?_ | refine Rn.drw ?_ | refine Rn.blk ?_ | refine Rn.skip ?_ | refine Rn.ret ?_ | refine Rn.exit ?_ | refine Rn.cond rfl ?_ | refine And.intro (InR.i64 (by omega) (by omega)) ?_ | refine And.intro (show _ ≠ (0 : Int) by omega) ?_ | refine WIx.intsN (by omega) ?_ | refine WIx.rowsN (by omega) ?_ | refine WCall.pure (AW) ?_ | with_reducible refine WB.decT (by first | with_reducible rfl | assumption | omega | exact ⟨rfl, rfl⟩) ?_ | with_reducible refine WB.decF (by first | assumption | omega) ?_ | with_reducible refine WB.ndT (by first | with_reducible rfl | assumption | omega | exact ⟨rfl, rfl⟩) ?_ | with_reducible refine WB.ndF (by first | assumption | omega) ?_ | with_reducible refine WB.nt ?_ | with_reducible refine WB.nf ?_ | with_reducible refine WB.dec (fun h => ?_) (fun h => ?_) | with_reducible refine WB.ndec (fun h => ?_) (fun h => ?_) | refine WB.mk (fun h => ?_) (fun h => ?_)) <;> conv => whnf)
      exact Fin.b rfl rfl
theorem main_tokenOut (AW : PureF Try.prog p22.ix [] (.b true)) {es : List D} (fit : FitP [(true, [.i .i64, .i .i64, .i .i64, .sl [.i .i64, .i .i64, .i .i64], .sl [.i .i64, .i .i64, .i .i64]]), (false, [.i .i64])] es) : PureF Try.prog 4 es (.b true) := by
  obtain ⟨n, coin, box, ls, cs, _, rfl, g1⟩ := fit.book
  obtain ⟨k, _, rfl, _, g2⟩ := g1.i
  obtain rfl := g2.no
  exact j_TokenOutL n coin box ls cs k AW
end Go.Ev

namespace Go.Proofs.Ytjgbfnciedkafaa.tokenOut
open Go.ChangeShapes Go.WideShapes Go.ChangeAt Go.RowKit
open Go.ChangeMaps (open_string shut_string)
set_option linter.unusedVariables false

theorem laid : laidOutB Try.prog = true := faP.laid
theorem own : ownKnob Try.prog.godebug = none := by kernel_rfl

/-! ### the walk -/
theorem walk {es : List Go.Ev.D} (fit : Go.Ev.FitP [(true, [.i .i64, .i .i64, .i .i64, .sl [.i .i64, .i .i64, .i .i64], .sl [.i .i64, .i .i64, .i .i64]]), (false, [.i .i64])] es) {args : Array Value} {W : World} (ha : Go.Ev.DVL (Go.Ev.γH W) W es args.toList) :
    Calls Try.prog 4 args W fun e w' => e = .returned (.bool true) ∧ Grown W w' ∧ Below W.heap.size W w' :=
  Go.Ev.PureF.calls (Go.Ev.main_tokenOut (fun ob nx lg => Go.Ev.t21.any ob nx lg) fit) ha

set_option maxRecDepth 100000 in
theorem lifted (os : Os) (started : os.Started) (H : Type) (enc : TypeId × Value → H) :
    ReturnsInHanded {} Try.checked os 4 .any (Rows.tokenOutSpec.pre6 enc Try.prog Try.f4 Rows.tokenOutRow.domain false) (Rows.tokenOutSpec.post enc Try.prog Try.f4 false true false false) := by
  refine returnsInHanded_of_change (C := Try.checked) own started (by kernel_rfl) Try.func4
    (ChangeSpec.witness6 (enc := enc) (C := Try.checked) false ⟨#[], #[.agg #[.int .i64 0, .int .i64 0, .int .i64 0, .slice none 0 0, .slice none 0 0], .int .i64 0], []⟩ 8 (by kernel_rfl) (by kernel_rfl) (by kernel_rfl) (by kernel_rfl)) ?_
  intro W base args ds gs before hval0 hW hcnd _
  have hval : ∀ (j : Nat) t v, Try.f4.params[j]? = some t → args[j]? = some v → Value.okWide Try.prog W .any base t v := hval0
  have hW' := hW
  obtain ⟨p, q, hA0, hV, rfl, hfz, hnd⟩ := hW
  have hA : DataW.TrodAll enc Try.prog W 0 (fun _ => true) true Try.f4.params.toList args.toList ds p := hA0
  rw [Try.params4] at hA hval
  obtain ⟨rfl, rfl⟩ := trodVars_none hV
  obtain ⟨d0, d1, rfl⟩ := Go.Ev.len2 (Go.Ev.trod_len hA)
  clear hA0 hval0
  simp only [List.append_nil] at hW'
  obtain ⟨es, fit, dv⟩ := Go.Ev.open_all (n := 6) (pars := [(true, [.i .i64, .i .i64, .i .i64, .sl [.i .i64, .i .i64, .i .i64], .sl [.i .i64, .i .i64, .i .i64]]), (false, [.i .i64])]) (by kernel_rfl) hA (fun j t v h1 h2 => hval j t v (by simpa using h1) (by simpa using h2))
  have hlt : ∀ x ∈ p, x.block < W.heap.size := fun x hx => by simpa using hW'.lt x hx
  refine (walk fit dv).mono fun e W' ⟨he, hg, hb⟩ => ?_
  subst he
  exact ⟨_, rfl, post_of_same (pa := p) (pv := []) hW' (fun _ _ _ => (trodAll_cons_mk (shut_bool Try.underlying4 _) trodAll_mk0))
    (fun sp hs => Go.Ev.stays_all laid (Go.Ev.of_allT (by kernel_rfl)) hA (fun x hx => hb.same (hlt x hx)) (fun x hx => hs x hx))
    (fun _ _ => rfl) (List.append_nil _).symm
    (hg.frame _) hg.2.1 (ok_one (by kernel_rfl) rfl (okWide_bool_mk Try.underlying4 _))⟩

theorem over : Rows.tokenOutRow.holds Try.pinned (OpenSpec.ofChange Rows.tokenOutSpec) :=
  OpenClaim.holds_of_wide 4 Try.f4 rfl rfl rfl rfl rfl rfl rfl ⟨rfl, rfl, rfl, rfl, rfl⟩ rfl rfl rfl rfl rfl (by kernel_rfl) Try.func4 faTokenOut.all
    (of_decide_eq_true (by kernel_rfl)) (by unfold Func.isWrapper; first | (rw [if_pos (by decide +kernel)]; kernel_rfl) | (rw [if_neg (by decide +kernel)]; exact ⟨rfl, rfl⟩))
    (fun os started H enc _ => lifted os started H enc)

/-- ████ THE STATEMENT ████ -/
theorem proved : Rows.TokenOutSaid :=
  over
#print axioms proved
end Go.Proofs.Ytjgbfnciedkafaa.tokenOut
