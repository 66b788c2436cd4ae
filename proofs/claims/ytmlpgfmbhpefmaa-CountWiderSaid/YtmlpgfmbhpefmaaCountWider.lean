/-
  The law CountWider answers true for every input (a row and four numbers), and leaves memory as it was, whatever the state of the machine that it starts in. No conditions. (Its functions are taken one by one by what they answer on values; ranges over iterators by induction over what a consumer makes of the truths; awake, which it calls last, is closed and is run inside the kernel.)
-/
import Derived.Test.YtmlpgfmbhpefmaaRows
import Derived.WalkKit
import Derived.ProofKit
import Derived.OpenShut
import Derived.Test.YtmlpgfmbhpefmaaEvFt
import Derived.Test.YtmlpgfmbhpefmaaEvKy
import Derived.Test.YtmlpgfmbhpefmaaEvS1B
import Derived.ShutString
set_option linter.all false
namespace Go.Ev
open Go.Proofs
set_option maxRecDepth 1000000
noncomputable def rc14 : RC := (.seq (.reg [(.u (.box p6 (.t p1))), (.u (.mv p11 (.k (.b false))))]) (.seq (.seq (.reg [(.u (.ldn p21 (.t p6) 4)), (.u (.cf (some p22) p51 [(.t p21)])), (.u (.un p23 .not (.t p22)))]) (.cond (.t p23) (.seq (.reg [(.u (.cf (some p24) p20 [])), (.u (.mv p11 (.t p24)))]) .ret) .skip)) (.seq (.reg [(.u (.ldn p25 (.t p6) 4)), (.u (.new p12 [.ns, .ns, (.i .i64 0), (.i .i64 0)])), (.u (.st (.t p12) (.t p25) 4))]) (.seq (.reg [(.u (.fad p26 (.t p6) 0)), (.u (.ld1 p27 (.t p26))), (.u (.cf (some p28) p23 [(.t p27)])), (.u (.fad p29 (.t p12) 0)), (.u (.st (.t p29) (.t p28) 1))]) (.seq (.seq (.reg [(.u (.mv p30 (.t p2))), (.u (.bin p31 .rem (.t p30) (.k (.i .u8 3))))]) (.blk 0 (.seq (.reg [(.u (.bin p42 .eql (.t p31) (.k (.i .u8 0)))), (.u (.mv p41 (.t p42)))]) (.cond (.t p41) (.reg [(.u (.fad p43 (.t p6) 2)), (.u (.ld1 p44 (.t p43))), (.u (.mv p45 (.t p3))), (.u (.cvi p46 .i64 (.t p45))), (.u (.bin p47 .rem (.t p46) (.k (.i .i64 3)))), (.u (.bin p48 .add (.t p44) (.t p47))), (.u (.mn p49 (.k (.i .i64 6)) (.t p48))), (.u (.fad p50 (.t p12) 2)), (.u (.st (.t p50) (.t p49) 1))]) (.seq (.reg [(.u (.bin p52 .eql (.t p31) (.k (.i .u8 1)))), (.u (.mv p51 (.t p52)))]) (.cond (.t p51) (.reg [(.u (.fad p53 (.t p6) 3)), (.u (.ld1 p54 (.t p53))), (.u (.mv p55 (.t p3))), (.u (.cvi p56 .i64 (.t p55))), (.u (.bin p57 .rem (.t p56) (.k (.i .i64 3)))), (.u (.bin p58 .add (.t p54) (.t p57))), (.u (.mn p59 (.k (.i .i64 9)) (.t p58))), (.u (.fad p60 (.t p12) 3)), (.u (.st (.t p60) (.t p59) 1))]) (.drw [(.u (.fad p32 (.t p12) 0)), (.u (.ld1 p33 (.t p32))), (.u (.mv p34 (.t p3))), (.u (.cvi p35 .i64 (.t p34))), (.u (.fad p36 (.t p12) 0)), (.u (.ld1 p37 (.t p36))), (.u (.len p38 (.t p37))), (.u (.bin p39 .rem (.t p35) (.t p38))), (.u (.ixs p40 1 (.t p33) (.t p39))), (.u (.st (.t p40) (.k (.i .i64 2)) 1))] [0, 1, 0, 4, 0, 16, 48, 124, 255, 511]))))))) (.seq (.seq (.reg [(.u (.ldn p61 (.t p12) 4)), (.u (.cf (some p62) p51 [(.t p61)])), (.u (.un p63 .not (.t p62)))]) (.cond (.t p63) (.seq (.reg [(.u (.cf (some p64) p20 [])), (.u (.mv p11 (.t p64)))]) .ret) .skip)) (.seq (.reg [(.u (.ldn p66 (.t p6) 4)), (.u (.mv p67 (.t p4))), (.u (.mv p68 (.t p5))), (.u (.cf (some p69) p53 [(.t p66), (.t p67), (.t p68)])), (.u (.mv p65 (.t p69))), (.u (.ext p70 (.t p65) 0)), (.u (.ext p71 (.t p65) 1)), (.u (.mv p13 (.t p70))), (.u (.mv p14 (.t p71)))]) (.seq (.reg [(.u (.ldn p73 (.t p6) 4)), (.u (.cf (some p74) p22 [(.t p73)])), (.u (.mv p75 (.t p13))), (.u (.mv p76 (.t p14))), (.u (.cf (some p77) p30 [(.t p74), (.t p75), (.t p76)])), (.u (.mv p72 (.t p77))), (.u (.ext p78 (.t p72) 0)), (.u (.ext p79 (.t p72) 1)), (.u (.new p15 [(.i .i64 0), (.i .i64 0)])), (.u (.st (.t p15) (.t p78) 2)), (.u (.mv p16 (.t p79)))]) (.seq (.reg [(.u (.ldn p81 (.t p12) 4)), (.u (.cf (some p82) p22 [(.t p81)])), (.u (.mv p83 (.t p13))), (.u (.mv p84 (.t p14))), (.u (.cf (some p85) p30 [(.t p82), (.t p83), (.t p84)])), (.u (.mv p80 (.t p85))), (.u (.ext p86 (.t p80) 0)), (.u (.ext p87 (.t p80) 1)), (.u (.new p17 [(.i .i64 0), (.i .i64 0)])), (.u (.st (.t p17) (.t p86) 2)), (.u (.mv p18 (.t p87)))]) (.seq (.reg [(.u (.ldn p89 (.t p6) 4)), (.u (.cf (some p90) p22 [(.t p89)])), (.u (.cf (some p91) p39 [(.t p90)])), (.u (.mv p88 (.t p91))), (.u (.ext p92 (.t p88) 0)), (.u (.ext p93 (.t p88) 1)), (.u (.mv p19 (.t p92))), (.u (.mv p20 (.t p93)))]) (.seq (.seq (.reg [(.u (.mv p94 (.t p16))), (.u (.bin p95 .eql (.t p94) (.k (.i .i64 0)))), (.u (.mv p96 (.t p20))), (.u (.bin p97 .eql (.t p96) (.k (.i .i64 0)))), (.u (.mv p98 (.t p97))), (.g p98 true (some p99) (.mv p99 (.t p19))), (.g p98 true (some p100) (.fad p100 (.t p6) 2)), (.g p98 true (some p101) (.ld1 p101 (.t p100))), (.g p98 true (some p102) (.bin p102 .leq (.t p99) (.t p101))), (.u (.pick p103 (.t p98) (.t p102) (.k (.b false)))), (.u (.eq p104 true 0 (.t p95) (.t p103))), (.u (.mv p105 (.t p104))), (.g p105 false (some p106) (.mv p106 (.t p16))), (.g p105 false (some p107) (.bin p107 .neq (.t p106) (.k (.i .i64 0)))), (.g p105 false (some p108) (.mv p108 (.t p107))), (.g p108 true (some p109) (.mv p109 (.t p16))), (.g p108 true (some p110) (.bin p110 .neq (.t p109) (.k (.i .i64 11)))), (.g p105 false (some p111) (.pick p111 (.t p108) (.t p110) (.k (.b false)))), (.u (.pick p112 (.t p105) (.k (.b true)) (.t p111))), (.u (.mv p113 (.t p112))), (.g p113 false (some p114) (.mv p114 (.t p20))), (.g p113 false (some p115) (.bin p115 .neq (.t p114) (.k (.i .i64 0)))), (.g p113 false (some p116) (.mv p116 (.t p115))), (.g p116 true (some p117) (.mv p117 (.t p20))), (.g p116 true (some p118) (.bin p118 .neq (.t p117) (.k (.i .i64 10)))), (.g p113 false (some p119) (.pick p119 (.t p116) (.t p118) (.k (.b false)))), (.u (.pick p120 (.t p113) (.k (.b true)) (.t p119)))]) (.cond (.t p120) (.seq (.reg [(.u (.mv p11 (.k (.b false))))]) .ret) .skip)) (.seq (.reg [(.u (.mv p121 (.t p16))), (.u (.bin p122 .neq (.t p121) (.k (.i .i64 0)))), (.u (.mv p123 (.t p122))), (.g p123 false (some p124) (.mv p124 (.t p18))), (.g p123 false (some p125) (.bin p125 .eql (.t p124) (.k (.i .i64 0)))), (.g p123 false (some p126) (.mv p126 (.t p125))), (.g p126 true (some p127) (.ldn p127 (.t p15) 2)), (.g p126 true (some p128) (.ldn p128 (.t p17) 2)), (.g p126 true (some p129) (.cf (some p129) p58 [(.t p127), (.t p128)])), (.g p123 false (some p130) (.pick p130 (.t p126) (.t p129) (.k (.b false)))), (.u (.pick p131 (.t p123) (.k (.b true)) (.t p130))), (.u (.mv p132 (.t p131))), (.g p132 true (some p133) (.cf (some p133) p20 [])), (.u (.pick p134 (.t p132) (.t p133) (.k (.b false)))), (.u (.mv p11 (.t p134)))]) .ret))))))))))))
def rs14 : List RR := [(.t p11)]
theorem fn14 : FnOk Try.prog p15.ix 134 rc14 rs14 := ⟨Try.f14, bodyC Try.f14, Try.func14, by kernel_rfl, by kernel_rfl, by kernel_rfl, by kernel_rfl, by kernel_rfl⟩
noncomputable def rc14t : RC := match rc14 with
  | .seq _ (.seq _ (.seq _ (.seq _ (.seq _ t)))) => t
  | _ => .skip
set_option maxHeartbeats 2000000 in
theorem wider_rest (l : List Int) (cs : List Cnt) (wr off : Int) (a b : Int) (ha : 0 ≤ a ∧ a ≤ 255) (hb : 0 ≤ b ∧ b ≤ 255) (AW : PureF Try.prog p20.ix [] (.b true)) (hF : faultR l cs wr off = 0) (l' : List Int) (wr' off' : Int) (hW : Wid l wr off l' wr' off') : Rn Try.prog 134 rc14t (wdZ l cs wr off l' wr' off' a b) (Fin rs14 (.b true)) := by
  obtain ⟨f1, f2, f3, f4⟩ := fault0 hF
  obtain ⟨f5, wr1, wr2, o1, o2⟩ := fault2 hF
  obtain ⟨g1, g2, g3⟩ := parted_spec f1 ha.1 hb.1
  have hTl := truth_least hF
  have hl' := hW.len
  have cRd := c_ready l' cs wr' off'
  by_cases hr : readyB l' cs wr' off' = true
  · rw [hr] at cRd
    obtain ⟨_, hF'⟩ := ready_spec hr
    have cR := c_Row l cs wr off (by omega) (by omega)
    have cR2 := c_Row l' cs wr' off' (by omega) (by omega)
    have cP := c_parted l cs wr off a b f1 (by omega) ha hb
    have cN := c_Least l cs wr off (by omega)
    unfold leN leE at cN
    rw [if_pos hF, if_pos hF] at cN
    generalize pA l.length a b = A at *
    generalize pB l.length a b = B at *
    have hlb := leastF_bd cs off (allR l)
    by_cases hT : truR l cs wr off = []
    · have cC := c_Chairs11 l cs wr off A B hF g1 g2 g3 hT
      have hlf : ¬ (0 ≤ leastF cs off (allR l) ∧ leastF cs off (allR l) ≤ wr) := fun h => hTl.2 h hT
      generalize leastF cs off (allR l) = lf at *
      have hx : ∃ x y z, PureF Try.prog p30.ix [.ag [.lst 1 (ints l'), .lst 3 (rows cntD cs), .i .i64 wr', .i .i64 off'], .i .i64 A, .i .i64 B] (.tp [.ag [.i .i64 x, .i .i64 y], .i .i64 z]) := ⟨_, _, _, c_Chairs l' cs wr' off' A B⟩
      obtain ⟨x, y, z, cC2⟩ := hx
      by_cases hneg : lf < 0
      · rw [if_pos hneg, if_pos hneg] at cN
        repeat' first | ((with_reducible apply WB.tt); conv => whnf) | ((with_reducible apply WB.ff); conv => whnf) | (refine Rn.seq ?_; conv => whnf) | (refine Rn.reg ?_; conv => whnf) | (refine Rn.drw ?_; conv => whnf) | (refine Rn.blk ?_; conv => whnf) | (refine Rn.skip ?_; conv => whnf) | (refine Rn.ret ?_; conv => whnf) | (refine Rn.exit ?_; conv => whnf) | (refine Rn.cond rfl ?_; conv => whnf) | (refine And.intro (InR.i64 (by omega) (by omega)) ?_; conv => whnf) | (refine And.intro (show _ ≠ (0 : Int) by omega) ?_; conv => whnf) | (refine WIx.intsN (by omega) ?_; conv => whnf) | (refine WIx.rowsN (by omega) ?_; conv => whnf) | (refine WCall.pure (cRd) ?_; conv => whnf) | (refine WCall.pure (cR) ?_; conv => whnf) | (refine WCall.pure (cR2) ?_; conv => whnf) | (refine WCall.pure (cP) ?_; conv => whnf) | (refine WCall.pure (cC) ?_; conv => whnf) | (refine WCall.pure (cC2) ?_; conv => whnf) | (refine WCall.pure (cN) ?_; conv => whnf) | (refine WCall.pure (AW) ?_; conv => whnf) | ((with_reducible refine WB.decT (by first | with_reducible rfl | assumption | omega | exact ⟨rfl, rfl⟩) ?_); conv => whnf) | ((with_reducible refine WB.decF (by first | assumption | omega) ?_); conv => whnf) | ((with_reducible refine WB.ndT (by first | with_reducible rfl | assumption | omega | exact ⟨rfl, rfl⟩) ?_); conv => whnf) | ((with_reducible refine WB.ndF (by first | assumption | omega) ?_); conv => whnf) | ((with_reducible refine WB.nt ?_); conv => whnf) | ((with_reducible refine WB.nf ?_); conv => whnf) | ((with_reducible refine WB.dec (fun h => ?_) (fun h => ?_)) <;> conv => whnf) | ((with_reducible refine WB.ndec (fun h => ?_) (fun h => ?_)) <;> conv => whnf) | (refine WB.mk (fun h => ?_) (fun h => ?_) <;> conv => whnf)
        all_goals first | exact Fin.b rfl rfl | (exfalso; clear cRd cR cR2 cP cC cC2 cN AW; omega) | (exfalso; clear cRd cR cR2 cP cC cC2 cN AW; simp_all; omega) | (exfalso; clear cRd cR cR2 cP cC cC2 cN AW; simp_all; done)
      · rw [if_neg hneg, if_neg hneg] at cN
        have hgt : ¬ lf ≤ wr := by omega
        repeat' first | ((with_reducible apply WB.tt); conv => whnf) | ((with_reducible apply WB.ff); conv => whnf) | (refine Rn.seq ?_; conv => whnf) | (refine Rn.reg ?_; conv => whnf) | (refine Rn.drw ?_; conv => whnf) | (refine Rn.blk ?_; conv => whnf) | (refine Rn.skip ?_; conv => whnf) | (refine Rn.ret ?_; conv => whnf) | (refine Rn.exit ?_; conv => whnf) | (refine Rn.cond rfl ?_; conv => whnf) | (refine And.intro (InR.i64 (by omega) (by omega)) ?_; conv => whnf) | (refine And.intro (show _ ≠ (0 : Int) by omega) ?_; conv => whnf) | (refine WIx.intsN (by omega) ?_; conv => whnf) | (refine WIx.rowsN (by omega) ?_; conv => whnf) | (refine WCall.pure (cRd) ?_; conv => whnf) | (refine WCall.pure (cR) ?_; conv => whnf) | (refine WCall.pure (cR2) ?_; conv => whnf) | (refine WCall.pure (cP) ?_; conv => whnf) | (refine WCall.pure (cC) ?_; conv => whnf) | (refine WCall.pure (cC2) ?_; conv => whnf) | (refine WCall.pure (cN) ?_; conv => whnf) | (refine WCall.pure (AW) ?_; conv => whnf) | ((with_reducible refine WB.decT (by first | with_reducible rfl | assumption | omega | exact ⟨rfl, rfl⟩) ?_); conv => whnf) | ((with_reducible refine WB.decF (by first | assumption | omega) ?_); conv => whnf) | ((with_reducible refine WB.ndT (by first | with_reducible rfl | assumption | omega | exact ⟨rfl, rfl⟩) ?_); conv => whnf) | ((with_reducible refine WB.ndF (by first | assumption | omega) ?_); conv => whnf) | ((with_reducible refine WB.nt ?_); conv => whnf) | ((with_reducible refine WB.nf ?_); conv => whnf) | ((with_reducible refine WB.dec (fun h => ?_) (fun h => ?_)) <;> conv => whnf) | ((with_reducible refine WB.ndec (fun h => ?_) (fun h => ?_)) <;> conv => whnf) | (refine WB.mk (fun h => ?_) (fun h => ?_) <;> conv => whnf)
        all_goals first | exact Fin.b rfl rfl | (exfalso; clear cRd cR cR2 cP cC cC2 cN AW; omega) | (exfalso; clear cRd cR cR2 cP cC cC2 cN AW; simp_all; omega) | (exfalso; clear cRd cR cR2 cP cC cC2 cN AW; simp_all; done)
    · have cC := c_Chairs0 l cs wr off A B hF g1 g2 g3 hT
      obtain ⟨q1, q2⟩ := hTl.1 hT
      have hT' : truR l' cs wr' off' ≠ [] := fun h => by
        obtain ⟨t, ht⟩ := List.exists_mem_of_ne_nil _ hT
        have := hW.sub ht
        rw [h] at this
        cases this
      have cC2 := c_Chairs0 l' cs wr' off' A B hF' g1 g2 (by omega) hT'
      have b1 := sum_bd (cs := cs) (wr := wr) (off := off) hF g1 (by omega : A ≤ B + 1) g3
      have b2 := sum_bd (cs := cs) (wr := wr') (off := off') hF' g1 (by omega : A ≤ B + 1) (by omega)
      obtain ⟨_, ⟨x1, i1, i2⟩, x2, i3, i4⟩ := bnd_spec hT b1
      obtain ⟨s2, _, _⟩ := bnd_spec hT' b2
      have r1 := (s2 x1 (hW.sub i1)).1
      have r2 := (s2 x2 (hW.sub i3)).2
      rw [i2] at r1
      rw [i4] at r2
      have cI := c_inside _ _ _ _ r1 r2
      rw [if_neg (by omega), if_neg (by omega)] at cN
      clear b1 b2 s2 i2 i4 r1 r2
      generalize leastF cs off (allR l) = lf at *
      generalize loR A B (truR l cs wr off) = lo at *
      generalize hiR A B (truR l cs wr off) = hi at *
      generalize loR A B (truR l' cs wr' off') = lo2 at *
      generalize hiR A B (truR l' cs wr' off') = hi2 at *
      repeat' first | ((with_reducible apply WB.tt); conv => whnf) | ((with_reducible apply WB.ff); conv => whnf) | (refine Rn.seq ?_; conv => whnf) | (refine Rn.reg ?_; conv => whnf) | (refine Rn.drw ?_; conv => whnf) | (refine Rn.blk ?_; conv => whnf) | (refine Rn.skip ?_; conv => whnf) | (refine Rn.ret ?_; conv => whnf) | (refine Rn.exit ?_; conv => whnf) | (refine Rn.cond rfl ?_; conv => whnf) | (refine And.intro (InR.i64 (by omega) (by omega)) ?_; conv => whnf) | (refine And.intro (show _ ≠ (0 : Int) by omega) ?_; conv => whnf) | (refine WIx.intsN (by omega) ?_; conv => whnf) | (refine WIx.rowsN (by omega) ?_; conv => whnf) | (refine WCall.pure (cRd) ?_; conv => whnf) | (refine WCall.pure (cR) ?_; conv => whnf) | (refine WCall.pure (cR2) ?_; conv => whnf) | (refine WCall.pure (cP) ?_; conv => whnf) | (refine WCall.pure (cC) ?_; conv => whnf) | (refine WCall.pure (cC2) ?_; conv => whnf) | (refine WCall.pure (cN) ?_; conv => whnf) | (refine WCall.pure (cI) ?_; conv => whnf) | (refine WCall.pure (AW) ?_; conv => whnf) | ((with_reducible refine WB.decT (by first | with_reducible rfl | assumption | omega | exact ⟨rfl, rfl⟩) ?_); conv => whnf) | ((with_reducible refine WB.decF (by first | assumption | omega) ?_); conv => whnf) | ((with_reducible refine WB.ndT (by first | with_reducible rfl | assumption | omega | exact ⟨rfl, rfl⟩) ?_); conv => whnf) | ((with_reducible refine WB.ndF (by first | assumption | omega) ?_); conv => whnf) | ((with_reducible refine WB.nt ?_); conv => whnf) | ((with_reducible refine WB.nf ?_); conv => whnf) | ((with_reducible refine WB.dec (fun h => ?_) (fun h => ?_)) <;> conv => whnf) | ((with_reducible refine WB.ndec (fun h => ?_) (fun h => ?_)) <;> conv => whnf) | (refine WB.mk (fun h => ?_) (fun h => ?_) <;> conv => whnf)
      all_goals first | exact Fin.b rfl rfl | (exfalso; clear cRd cR cR2 cP cC cC2 cN AW cI; omega) | (exfalso; clear cRd cR cR2 cP cC cC2 cN AW cI; simp_all; done)
  · rw [show readyB l' cs wr' off' = false by simpa using hr] at cRd
    repeat' first | ((with_reducible apply WB.tt); conv => whnf) | ((with_reducible apply WB.ff); conv => whnf) | (refine Rn.seq ?_; conv => whnf) | (refine Rn.reg ?_; conv => whnf) | (refine Rn.drw ?_; conv => whnf) | (refine Rn.blk ?_; conv => whnf) | (refine Rn.skip ?_; conv => whnf) | (refine Rn.ret ?_; conv => whnf) | (refine Rn.exit ?_; conv => whnf) | (refine Rn.cond rfl ?_; conv => whnf) | (refine And.intro (InR.i64 (by omega) (by omega)) ?_; conv => whnf) | (refine And.intro (show _ ≠ (0 : Int) by omega) ?_; conv => whnf) | (refine WIx.intsN (by omega) ?_; conv => whnf) | (refine WIx.rowsN (by omega) ?_; conv => whnf) | (refine WCall.pure (cRd) ?_; conv => whnf) | (refine WCall.pure (AW) ?_; conv => whnf) | ((with_reducible refine WB.decT (by first | with_reducible rfl | assumption | omega | exact ⟨rfl, rfl⟩) ?_); conv => whnf) | ((with_reducible refine WB.decF (by first | assumption | omega) ?_); conv => whnf) | ((with_reducible refine WB.ndT (by first | with_reducible rfl | assumption | omega | exact ⟨rfl, rfl⟩) ?_); conv => whnf) | ((with_reducible refine WB.ndF (by first | assumption | omega) ?_); conv => whnf) | ((with_reducible refine WB.nt ?_); conv => whnf) | ((with_reducible refine WB.nf ?_); conv => whnf) | ((with_reducible refine WB.dec (fun h => ?_) (fun h => ?_)) <;> conv => whnf) | ((with_reducible refine WB.ndec (fun h => ?_) (fun h => ?_)) <;> conv => whnf) | (refine WB.mk (fun h => ?_) (fun h => ?_) <;> conv => whnf)
    exact Fin.b rfl rfl
set_option maxHeartbeats 2000000 in
theorem c_CountWider (l : List Int) (cs : List Cnt) (wr off : Int) (wh by' a b : Int) (hwh : 0 ≤ wh ∧ wh ≤ 255) (hby : 0 ≤ by' ∧ by' ≤ 255) (ha : 0 ≤ a ∧ a ≤ 255) (hb : 0 ≤ b ∧ b ≤ 255) (AW : PureF Try.prog p20.ix [] (.b true)) :
    PureF Try.prog p15.ix [.ag [.lst 1 (ints l), .lst 3 (rows cntD cs), .i .i64 wr, .i .i64 off], .i .u8 wh, .i .u8 by', .i .u8 a, .i .u8 b] (.b true) := by
  have e1 := ints_length l
  have cRd := c_ready l cs wr off
  refine PureF.run fn14 (by simp) (by simp [PuL, PuE, Pu, pu_ints, pu_cnts]) ?_; conv => whnf
  by_cases hr : readyB l cs wr off = true
  · rw [hr] at cRd
    obtain ⟨_, hF⟩ := ready_spec hr
    obtain ⟨f1, f2, f3, f4⟩ := fault0 hF
    obtain ⟨f5, wr1, wr2, o1, o2⟩ := fault2 hF
    have REST := wider_rest l cs wr off a b ha hb AW hF
    refine Rn.seq ?_; conv => whnf
    refine Rn.reg ?_; conv => whnf
    refine Rn.seq ?_; conv => whnf
    refine Rn.seq ?_; conv => whnf
    refine Rn.reg ?_; conv => whnf
    refine WCall.pure cRd ?_; conv => whnf
    refine Rn.cond rfl ?_; conv => whnf
    refine WB.nt ?_; conv => whnf
    refine Rn.skip ?_; conv => whnf
    refine Rn.seq ?_; conv => whnf
    refine Rn.reg ?_; conv => whnf
    refine Rn.seqB ?_; conv => whnf
    refine Rn.reg ?_; conv => whnf
    refine WCall.at (c_listO l cs wr off f1 (by omega)) ?_; conv => whnf
    have m1 := Int.tmod_nonneg (3 : Int) hby.1
    have m2 := Int.tmod_lt_of_pos by' (show (0 : Int) < 3 by omega)
    have m3 := Int.tmod_nonneg (((ints l).length : Nat) : Int) hby.1
    have m4 := Int.tmod_lt_of_pos by' (show (0 : Int) < ((ints l).length : Nat) by omega)
    obtain ⟨i, hi⟩ : ∃ i : Nat, by'.tmod (((ints l).length : Nat) : Int) = i := ⟨(by'.tmod (((ints l).length : Nat) : Int)).toNat, by omega⟩
    have hil : i < l.length := by omega
    repeat' first | ((with_reducible apply WB.tt); conv => whnf) | ((with_reducible apply WB.ff); conv => whnf) | (refine Rn.seq ?_; conv => whnf) | (refine Rn.reg ?_; conv => whnf) | (refine Rn.drw ?_; conv => whnf) | (refine Rn.blk ?_; conv => whnf) | (refine Rn.skip ?_; conv => whnf) | (refine Rn.ret ?_; conv => whnf) | (refine Rn.exit ?_; conv => whnf) | (refine Rn.cond rfl ?_; conv => whnf) | (refine And.intro (InR.i64 (by omega) (by omega)) ?_; conv => whnf) | (refine And.intro (show _ ≠ (0 : Int) by omega) ?_; conv => whnf) | (refine WIx.intsN (by omega) ?_; conv => whnf) | (refine WIx.rowsN (by omega) ?_; conv => whnf) | ((with_reducible refine WB.decT (by first | with_reducible rfl | assumption | omega | exact ⟨rfl, rfl⟩) ?_); conv => whnf) | ((with_reducible refine WB.decF (by first | assumption | omega) ?_); conv => whnf) | ((with_reducible refine WB.ndT (by first | with_reducible rfl | assumption | omega | exact ⟨rfl, rfl⟩) ?_); conv => whnf) | ((with_reducible refine WB.ndF (by first | assumption | omega) ?_); conv => whnf) | ((with_reducible refine WB.nt ?_); conv => whnf) | ((with_reducible refine WB.nf ?_); conv => whnf) | ((with_reducible refine WB.dec (fun h => ?_) (fun h => ?_)) <;> conv => whnf) | ((with_reducible refine WB.ndec (fun h => ?_) (fun h => ?_)) <;> conv => whnf) | (refine WB.mk (fun h => ?_) (fun h => ?_) <;> conv => whnf)
    · refine ⟨rfl, wdZ l cs wr off l (min 6 (wr + by'.tmod 3)) off a b, (fun id : Pos => id.nat < 3), shW (l' := l) ?_, fun id h => h, fun id h => h, Nat.le_refl _, ?_⟩
      · exact ⟨_, _, rfl, rfl, rfl, rfl, rfl, rfl, rfl, rfl, rfl⟩
      · exact REST _ _ _ (.inl ⟨rfl, rfl, by omega⟩)
    · refine ⟨rfl, wdZ l cs wr off l wr (min 9 (off + by'.tmod 3)) a b, (fun id : Pos => id.nat < 3), shW (l' := l) ?_, fun id h => h, fun id h => h, Nat.le_refl _, ?_⟩
      · exact ⟨_, _, rfl, rfl, rfl, rfl, rfl, rfl, rfl, rfl, rfl⟩
      · exact REST _ _ _ (.inr (.inl ⟨rfl, rfl, by omega⟩))
    · refine And.intro (show ((ints l).length : Int) ≠ 0 by omega) ?_; conv => whnf
      repeat' first | ((with_reducible apply WB.tt); conv => whnf) | ((with_reducible apply WB.ff); conv => whnf) | (refine Rn.seq ?_; conv => whnf) | (refine Rn.reg ?_; conv => whnf) | (refine Rn.drw ?_; conv => whnf) | (refine Rn.blk ?_; conv => whnf) | (refine Rn.skip ?_; conv => whnf) | (refine Rn.ret ?_; conv => whnf) | (refine Rn.exit ?_; conv => whnf) | (refine Rn.cond rfl ?_; conv => whnf) | (refine And.intro (InR.i64 (by omega) (by omega)) ?_; conv => whnf) | (refine And.intro (show _ ≠ (0 : Int) by omega) ?_; conv => whnf) | (refine WIx.intsN (by omega) ?_; conv => whnf) | (refine WIx.rowsN (by omega) ?_; conv => whnf)
      rcases nine (show i < 9 by omega) with rfl | rfl | rfl | rfl | rfl | rfl | rfl | rfl | rfl
      · obtain ⟨a0, r, rfl⟩ := pre0 hil
        refine WSt.ixsO (m := 0) rfl rfl ?_ ?_ ?_
        · exact hi
        · rw [e1]; exact hil
        conv => whnf
        repeat' first | ((with_reducible apply WB.tt); conv => whnf) | ((with_reducible apply WB.ff); conv => whnf) | (refine Rn.seq ?_; conv => whnf) | (refine Rn.reg ?_; conv => whnf) | (refine Rn.drw ?_; conv => whnf) | (refine Rn.blk ?_; conv => whnf) | (refine Rn.skip ?_; conv => whnf) | (refine Rn.ret ?_; conv => whnf) | (refine Rn.exit ?_; conv => whnf) | (refine Rn.cond rfl ?_; conv => whnf) | (refine And.intro (InR.i64 (by omega) (by omega)) ?_; conv => whnf) | (refine And.intro (show _ ≠ (0 : Int) by omega) ?_; conv => whnf) | (refine WIx.intsN (by omega) ?_; conv => whnf) | (refine WIx.rowsN (by omega) ?_; conv => whnf)
        refine ⟨rfl, wdZ (a0 :: r) cs wr off (2 :: r) wr off a b, (fun id : Pos => id.nat < 3), shW (l' := 2 :: r) ?_, fun id h => h, fun id h => h, Nat.le_refl _, ?_⟩
        · exact ⟨_, _, rfl, rfl, rfl, rfl, rfl, rfl, rfl, rfl, rfl⟩
        · exact REST _ _ _ (.inr (.inr ⟨rfl, rfl, 0, hil, rfl⟩))
      · obtain ⟨a0, a1, r, rfl⟩ := pre1 hil
        refine WSt.ixsO (m := 1) rfl rfl ?_ ?_ ?_
        · exact hi
        · rw [e1]; exact hil
        conv => whnf
        repeat' first | ((with_reducible apply WB.tt); conv => whnf) | ((with_reducible apply WB.ff); conv => whnf) | (refine Rn.seq ?_; conv => whnf) | (refine Rn.reg ?_; conv => whnf) | (refine Rn.drw ?_; conv => whnf) | (refine Rn.blk ?_; conv => whnf) | (refine Rn.skip ?_; conv => whnf) | (refine Rn.ret ?_; conv => whnf) | (refine Rn.exit ?_; conv => whnf) | (refine Rn.cond rfl ?_; conv => whnf) | (refine And.intro (InR.i64 (by omega) (by omega)) ?_; conv => whnf) | (refine And.intro (show _ ≠ (0 : Int) by omega) ?_; conv => whnf) | (refine WIx.intsN (by omega) ?_; conv => whnf) | (refine WIx.rowsN (by omega) ?_; conv => whnf)
        refine ⟨rfl, wdZ (a0 :: a1 :: r) cs wr off (a0 :: 2 :: r) wr off a b, (fun id : Pos => id.nat < 3), shW (l' := a0 :: 2 :: r) ?_, fun id h => h, fun id h => h, Nat.le_refl _, ?_⟩
        · exact ⟨_, _, rfl, rfl, rfl, rfl, rfl, rfl, rfl, rfl, rfl⟩
        · exact REST _ _ _ (.inr (.inr ⟨rfl, rfl, 1, hil, rfl⟩))
      · obtain ⟨a0, a1, a2, r, rfl⟩ := pre2 hil
        refine WSt.ixsO (m := 2) rfl rfl ?_ ?_ ?_
        · exact hi
        · rw [e1]; exact hil
        conv => whnf
        repeat' first | ((with_reducible apply WB.tt); conv => whnf) | ((with_reducible apply WB.ff); conv => whnf) | (refine Rn.seq ?_; conv => whnf) | (refine Rn.reg ?_; conv => whnf) | (refine Rn.drw ?_; conv => whnf) | (refine Rn.blk ?_; conv => whnf) | (refine Rn.skip ?_; conv => whnf) | (refine Rn.ret ?_; conv => whnf) | (refine Rn.exit ?_; conv => whnf) | (refine Rn.cond rfl ?_; conv => whnf) | (refine And.intro (InR.i64 (by omega) (by omega)) ?_; conv => whnf) | (refine And.intro (show _ ≠ (0 : Int) by omega) ?_; conv => whnf) | (refine WIx.intsN (by omega) ?_; conv => whnf) | (refine WIx.rowsN (by omega) ?_; conv => whnf)
        refine ⟨rfl, wdZ (a0 :: a1 :: a2 :: r) cs wr off (a0 :: a1 :: 2 :: r) wr off a b, (fun id : Pos => id.nat < 3), shW (l' := a0 :: a1 :: 2 :: r) ?_, fun id h => h, fun id h => h, Nat.le_refl _, ?_⟩
        · exact ⟨_, _, rfl, rfl, rfl, rfl, rfl, rfl, rfl, rfl, rfl⟩
        · exact REST _ _ _ (.inr (.inr ⟨rfl, rfl, 2, hil, rfl⟩))
      · obtain ⟨a0, a1, a2, a3, r, rfl⟩ := pre3 hil
        refine WSt.ixsO (m := 3) rfl rfl ?_ ?_ ?_
        · exact hi
        · rw [e1]; exact hil
        conv => whnf
        repeat' first | ((with_reducible apply WB.tt); conv => whnf) | ((with_reducible apply WB.ff); conv => whnf) | (refine Rn.seq ?_; conv => whnf) | (refine Rn.reg ?_; conv => whnf) | (refine Rn.drw ?_; conv => whnf) | (refine Rn.blk ?_; conv => whnf) | (refine Rn.skip ?_; conv => whnf) | (refine Rn.ret ?_; conv => whnf) | (refine Rn.exit ?_; conv => whnf) | (refine Rn.cond rfl ?_; conv => whnf) | (refine And.intro (InR.i64 (by omega) (by omega)) ?_; conv => whnf) | (refine And.intro (show _ ≠ (0 : Int) by omega) ?_; conv => whnf) | (refine WIx.intsN (by omega) ?_; conv => whnf) | (refine WIx.rowsN (by omega) ?_; conv => whnf)
        refine ⟨rfl, wdZ (a0 :: a1 :: a2 :: a3 :: r) cs wr off (a0 :: a1 :: a2 :: 2 :: r) wr off a b, (fun id : Pos => id.nat < 3), shW (l' := a0 :: a1 :: a2 :: 2 :: r) ?_, fun id h => h, fun id h => h, Nat.le_refl _, ?_⟩
        · exact ⟨_, _, rfl, rfl, rfl, rfl, rfl, rfl, rfl, rfl, rfl⟩
        · exact REST _ _ _ (.inr (.inr ⟨rfl, rfl, 3, hil, rfl⟩))
      · obtain ⟨a0, a1, a2, a3, a4, r, rfl⟩ := pre4 hil
        refine WSt.ixsO (m := 4) rfl rfl ?_ ?_ ?_
        · exact hi
        · rw [e1]; exact hil
        conv => whnf
        repeat' first | ((with_reducible apply WB.tt); conv => whnf) | ((with_reducible apply WB.ff); conv => whnf) | (refine Rn.seq ?_; conv => whnf) | (refine Rn.reg ?_; conv => whnf) | (refine Rn.drw ?_; conv => whnf) | (refine Rn.blk ?_; conv => whnf) | (refine Rn.skip ?_; conv => whnf) | (refine Rn.ret ?_; conv => whnf) | (refine Rn.exit ?_; conv => whnf) | (refine Rn.cond rfl ?_; conv => whnf) | (refine And.intro (InR.i64 (by omega) (by omega)) ?_; conv => whnf) | (refine And.intro (show _ ≠ (0 : Int) by omega) ?_; conv => whnf) | (refine WIx.intsN (by omega) ?_; conv => whnf) | (refine WIx.rowsN (by omega) ?_; conv => whnf)
        refine ⟨rfl, wdZ (a0 :: a1 :: a2 :: a3 :: a4 :: r) cs wr off (a0 :: a1 :: a2 :: a3 :: 2 :: r) wr off a b, (fun id : Pos => id.nat < 3), shW (l' := a0 :: a1 :: a2 :: a3 :: 2 :: r) ?_, fun id h => h, fun id h => h, Nat.le_refl _, ?_⟩
        · exact ⟨_, _, rfl, rfl, rfl, rfl, rfl, rfl, rfl, rfl, rfl⟩
        · exact REST _ _ _ (.inr (.inr ⟨rfl, rfl, 4, hil, rfl⟩))
      · obtain ⟨a0, a1, a2, a3, a4, a5, r, rfl⟩ := pre5 hil
        refine WSt.ixsO (m := 5) rfl rfl ?_ ?_ ?_
        · exact hi
        · rw [e1]; exact hil
        conv => whnf
        repeat' first | ((with_reducible apply WB.tt); conv => whnf) | ((with_reducible apply WB.ff); conv => whnf) | (refine Rn.seq ?_; conv => whnf) | (refine Rn.reg ?_; conv => whnf) | (refine Rn.drw ?_; conv => whnf) | (refine Rn.blk ?_; conv => whnf) | (refine Rn.skip ?_; conv => whnf) | (refine Rn.ret ?_; conv => whnf) | (refine Rn.exit ?_; conv => whnf) | (refine Rn.cond rfl ?_; conv => whnf) | (refine And.intro (InR.i64 (by omega) (by omega)) ?_; conv => whnf) | (refine And.intro (show _ ≠ (0 : Int) by omega) ?_; conv => whnf) | (refine WIx.intsN (by omega) ?_; conv => whnf) | (refine WIx.rowsN (by omega) ?_; conv => whnf)
        refine ⟨rfl, wdZ (a0 :: a1 :: a2 :: a3 :: a4 :: a5 :: r) cs wr off (a0 :: a1 :: a2 :: a3 :: a4 :: 2 :: r) wr off a b, (fun id : Pos => id.nat < 3), shW (l' := a0 :: a1 :: a2 :: a3 :: a4 :: 2 :: r) ?_, fun id h => h, fun id h => h, Nat.le_refl _, ?_⟩
        · exact ⟨_, _, rfl, rfl, rfl, rfl, rfl, rfl, rfl, rfl, rfl⟩
        · exact REST _ _ _ (.inr (.inr ⟨rfl, rfl, 5, hil, rfl⟩))
      · obtain ⟨a0, a1, a2, a3, a4, a5, a6, r, rfl⟩ := pre6 hil
        refine WSt.ixsO (m := 6) rfl rfl ?_ ?_ ?_
        · exact hi
        · rw [e1]; exact hil
        conv => whnf
        repeat' first | ((with_reducible apply WB.tt); conv => whnf) | ((with_reducible apply WB.ff); conv => whnf) | (refine Rn.seq ?_; conv => whnf) | (refine Rn.reg ?_; conv => whnf) | (refine Rn.drw ?_; conv => whnf) | (refine Rn.blk ?_; conv => whnf) | (refine Rn.skip ?_; conv => whnf) | (refine Rn.ret ?_; conv => whnf) | (refine Rn.exit ?_; conv => whnf) | (refine Rn.cond rfl ?_; conv => whnf) | (refine And.intro (InR.i64 (by omega) (by omega)) ?_; conv => whnf) | (refine And.intro (show _ ≠ (0 : Int) by omega) ?_; conv => whnf) | (refine WIx.intsN (by omega) ?_; conv => whnf) | (refine WIx.rowsN (by omega) ?_; conv => whnf)
        refine ⟨rfl, wdZ (a0 :: a1 :: a2 :: a3 :: a4 :: a5 :: a6 :: r) cs wr off (a0 :: a1 :: a2 :: a3 :: a4 :: a5 :: 2 :: r) wr off a b, (fun id : Pos => id.nat < 3), shW (l' := a0 :: a1 :: a2 :: a3 :: a4 :: a5 :: 2 :: r) ?_, fun id h => h, fun id h => h, Nat.le_refl _, ?_⟩
        · exact ⟨_, _, rfl, rfl, rfl, rfl, rfl, rfl, rfl, rfl, rfl⟩
        · exact REST _ _ _ (.inr (.inr ⟨rfl, rfl, 6, hil, rfl⟩))
      · obtain ⟨a0, a1, a2, a3, a4, a5, a6, a7, r, rfl⟩ := pre7 hil
        refine WSt.ixsO (m := 7) rfl rfl ?_ ?_ ?_
        · exact hi
        · rw [e1]; exact hil
        conv => whnf
        repeat' first | ((with_reducible apply WB.tt); conv => whnf) | ((with_reducible apply WB.ff); conv => whnf) | (refine Rn.seq ?_; conv => whnf) | (refine Rn.reg ?_; conv => whnf) | (refine Rn.drw ?_; conv => whnf) | (refine Rn.blk ?_; conv => whnf) | (refine Rn.skip ?_; conv => whnf) | (refine Rn.ret ?_; conv => whnf) | (refine Rn.exit ?_; conv => whnf) | (refine Rn.cond rfl ?_; conv => whnf) | (refine And.intro (InR.i64 (by omega) (by omega)) ?_; conv => whnf) | (refine And.intro (show _ ≠ (0 : Int) by omega) ?_; conv => whnf) | (refine WIx.intsN (by omega) ?_; conv => whnf) | (refine WIx.rowsN (by omega) ?_; conv => whnf)
        refine ⟨rfl, wdZ (a0 :: a1 :: a2 :: a3 :: a4 :: a5 :: a6 :: a7 :: r) cs wr off (a0 :: a1 :: a2 :: a3 :: a4 :: a5 :: a6 :: 2 :: r) wr off a b, (fun id : Pos => id.nat < 3), shW (l' := a0 :: a1 :: a2 :: a3 :: a4 :: a5 :: a6 :: 2 :: r) ?_, fun id h => h, fun id h => h, Nat.le_refl _, ?_⟩
        · exact ⟨_, _, rfl, rfl, rfl, rfl, rfl, rfl, rfl, rfl, rfl⟩
        · exact REST _ _ _ (.inr (.inr ⟨rfl, rfl, 7, hil, rfl⟩))
      · obtain ⟨a0, a1, a2, a3, a4, a5, a6, a7, a8, r, rfl⟩ := pre8 hil
        refine WSt.ixsO (m := 8) rfl rfl ?_ ?_ ?_
        · exact hi
        · rw [e1]; exact hil
        conv => whnf
        repeat' first | ((with_reducible apply WB.tt); conv => whnf) | ((with_reducible apply WB.ff); conv => whnf) | (refine Rn.seq ?_; conv => whnf) | (refine Rn.reg ?_; conv => whnf) | (refine Rn.drw ?_; conv => whnf) | (refine Rn.blk ?_; conv => whnf) | (refine Rn.skip ?_; conv => whnf) | (refine Rn.ret ?_; conv => whnf) | (refine Rn.exit ?_; conv => whnf) | (refine Rn.cond rfl ?_; conv => whnf) | (refine And.intro (InR.i64 (by omega) (by omega)) ?_; conv => whnf) | (refine And.intro (show _ ≠ (0 : Int) by omega) ?_; conv => whnf) | (refine WIx.intsN (by omega) ?_; conv => whnf) | (refine WIx.rowsN (by omega) ?_; conv => whnf)
        refine ⟨rfl, wdZ (a0 :: a1 :: a2 :: a3 :: a4 :: a5 :: a6 :: a7 :: a8 :: r) cs wr off (a0 :: a1 :: a2 :: a3 :: a4 :: a5 :: a6 :: a7 :: 2 :: r) wr off a b, (fun id : Pos => id.nat < 3), shW (l' := a0 :: a1 :: a2 :: a3 :: a4 :: a5 :: a6 :: a7 :: 2 :: r) ?_, fun id h => h, fun id h => h, Nat.le_refl _, ?_⟩
        · exact ⟨_, _, rfl, rfl, rfl, rfl, rfl, rfl, rfl, rfl, rfl⟩
        · exact REST _ _ _ (.inr (.inr ⟨rfl, rfl, 8, hil, rfl⟩))
  · rw [show readyB l cs wr off = false by simpa using hr] at cRd
    repeat' first | ((with_reducible apply WB.tt); conv => whnf) | ((with_reducible apply WB.ff); conv => whnf) | (refine Rn.seq ?_; conv => whnf) | (refine Rn.reg ?_; conv => whnf) | (refine Rn.drw ?_; conv => whnf) | (refine Rn.blk ?_; conv => whnf) | (refine Rn.skip ?_; conv => whnf) | (refine Rn.ret ?_; conv => whnf) | (refine Rn.exit ?_; conv => whnf) | (refine Rn.cond rfl ?_; conv => whnf) | (refine And.intro (InR.i64 (by omega) (by omega)) ?_; conv => whnf) | (refine And.intro (show _ ≠ (0 : Int) by omega) ?_; conv => whnf) | (refine WIx.intsN (by omega) ?_; conv => whnf) | (refine WIx.rowsN (by omega) ?_; conv => whnf) | (refine WCall.pure (cRd) ?_; conv => whnf) | (refine WCall.pure (AW) ?_; conv => whnf) | ((with_reducible refine WB.decT (by first | with_reducible rfl | assumption | omega | exact ⟨rfl, rfl⟩) ?_); conv => whnf) | ((with_reducible refine WB.decF (by first | assumption | omega) ?_); conv => whnf) | ((with_reducible refine WB.ndT (by first | with_reducible rfl | assumption | omega | exact ⟨rfl, rfl⟩) ?_); conv => whnf) | ((with_reducible refine WB.ndF (by first | assumption | omega) ?_); conv => whnf) | ((with_reducible refine WB.nt ?_); conv => whnf) | ((with_reducible refine WB.nf ?_); conv => whnf) | ((with_reducible refine WB.dec (fun h => ?_) (fun h => ?_)) <;> conv => whnf) | ((with_reducible refine WB.ndec (fun h => ?_) (fun h => ?_)) <;> conv => whnf) | (refine WB.mk (fun h => ?_) (fun h => ?_) <;> conv => whnf)
    exact Fin.b rfl rfl
theorem main_countWider (AW : PureF Try.prog p20.ix [] (.b true)) {es : List D} (fit : FitP [(true, [.sl [.i .i64], .sl [.b, .i .i64, .i .i64], .i .i64, .i .i64]), (false, [.i .u8]), (false, [.i .u8]), (false, [.i .u8]), (false, [.i .u8])] es) : PureF Try.prog 14 es (.b true) := by
  obtain ⟨l, cs, wr, off, _, rfl, g1⟩ := fit.row
  obtain ⟨wh, _, rfl, w1, g2⟩ := g1.i
  obtain ⟨k, _, rfl, w2, g3⟩ := g2.i
  obtain ⟨a, _, rfl, w3, g4⟩ := g3.i
  obtain ⟨b, _, rfl, w4, g5⟩ := g4.i
  obtain rfl := g5.no
  exact c_CountWider l cs wr off wh k a b (wf_u8 w1) (wf_u8 w2) (wf_u8 w3) (wf_u8 w4) AW
end Go.Ev
namespace Go.Proofs.Ytmlpgfmbhpefmaa.countWider
open Go.ChangeShapes Go.WideShapes Go.ChangeAt Go.RowKit
open Go.ChangeMaps (open_string shut_string)
set_option linter.unusedVariables false

theorem laid : laidOutB Try.prog = true := by kernel_rfl
theorem own : ownKnob Try.prog.godebug = none := by kernel_rfl

/-! ### the walk -/
theorem walk {es : List Go.Ev.D} (fit : Go.Ev.FitP [(true, [.sl [.i .i64], .sl [.b, .i .i64, .i .i64], .i .i64, .i .i64]), (false, [.i .u8]), (false, [.i .u8]), (false, [.i .u8]), (false, [.i .u8])] es) {args : Array Value} {W : World} (ha : Go.Ev.DVL (Go.Ev.γH W) W es args.toList) :
    Calls Try.prog 14 args W fun e w' => e = .returned (.bool true) ∧ Grown W w' ∧ Below W.heap.size W w' :=
  Go.Ev.PureF.calls (Go.Ev.main_countWider (fun ob nx lg => Go.Ev.awT.any ob nx lg) fit) ha

set_option maxRecDepth 100000 in
theorem lifted (os : Os) (started : os.Started) (H : Type) (enc : TypeId × Value → H) :
    ReturnsInHanded {} Try.checked os 14 .any (Rows.countWiderSpec.pre6 enc Try.prog Try.f14 Rows.countWiderRow.domain false) (Rows.countWiderSpec.post enc Try.prog Try.f14 false true false false) := by
  refine returnsInHanded_of_change (C := Try.checked) own started (by kernel_rfl) Try.func14
    (ChangeSpec.witness6 (enc := enc) (C := Try.checked) false ⟨#[], #[.agg #[.slice none 0 0, .slice none 0 0, .int .i64 0, .int .i64 0], .int .u8 0, .int .u8 0, .int .u8 0, .int .u8 0], []⟩ 8 (by kernel_rfl) (by kernel_rfl) (by kernel_rfl) (by kernel_rfl)) ?_
  intro W base args ds gs before hval0 hW hcnd _
  have hval : ∀ (j : Nat) t v, Try.f14.params[j]? = some t → args[j]? = some v → Value.okWide Try.prog W .any base t v := hval0
  have hW' := hW
  obtain ⟨p, q, hA0, hV, rfl, hfz, hnd⟩ := hW
  have hA : DataW.TrodAll enc Try.prog W 0 (fun _ => true) true Try.f14.params.toList args.toList ds p := hA0
  rw [Try.params14] at hA hval
  obtain ⟨rfl, rfl⟩ := trodVars_none hV
  obtain ⟨d0, d1, d2, d3, d4, rfl⟩ := Go.Ev.len5 (Go.Ev.trod_len hA)
  clear hA0 hval0
  simp only [List.append_nil] at hW'
  obtain ⟨es, fit, dv⟩ := Go.Ev.open_all (n := 6) (pars := [(true, [.sl [.i .i64], .sl [.b, .i .i64, .i .i64], .i .i64, .i .i64]), (false, [.i .u8]), (false, [.i .u8]), (false, [.i .u8]), (false, [.i .u8])]) (by kernel_rfl) hA (fun j t v h1 h2 => hval j t v (by simpa using h1) (by simpa using h2))
  have hlt : ∀ x ∈ p, x.block < W.heap.size := fun x hx => by simpa using hW'.lt x hx
  refine (walk fit dv).mono fun e W' ⟨he, hg, hb⟩ => ?_
  subst he
  exact ⟨_, rfl, post_of_same (pa := p) (pv := []) hW' (fun _ _ _ => (trodAll_cons_mk (shut_bool Try.underlying4 _) trodAll_mk0))
    (fun sp hs => Go.Ev.stays_all laid (Go.Ev.of_allT (by kernel_rfl)) hA (fun x hx => hb.same (hlt x hx)) (fun x hx => hs x hx))
    (fun _ _ => rfl) (List.append_nil _).symm
    (hg.frame _) hg.2.1 (ok_one (by kernel_rfl) rfl (okWide_bool_mk Try.underlying4 _))⟩

theorem over : Rows.countWiderRow.holds Try.pinned (OpenSpec.ofChange Rows.countWiderSpec) :=
  OpenClaim.holds_of_wide 14 Try.f14 rfl rfl rfl rfl rfl rfl rfl ⟨rfl, rfl, rfl, rfl, rfl⟩ rfl rfl rfl rfl rfl (by kernel_rfl) Try.func14 (by kernel_rfl)
    (of_decide_eq_true (by kernel_rfl)) (by unfold Func.isWrapper; first | (rw [if_pos (by decide +kernel)]; kernel_rfl) | (rw [if_neg (by decide +kernel)]; exact ⟨rfl, rfl⟩))
    (fun os started H enc _ => lifted os started H enc)

/-- ████ THE STATEMENT ████ -/
theorem proved : Rows.CountWiderSaid :=
  over
#print axioms proved
end Go.Proofs.Ytmlpgfmbhpefmaa.countWider
