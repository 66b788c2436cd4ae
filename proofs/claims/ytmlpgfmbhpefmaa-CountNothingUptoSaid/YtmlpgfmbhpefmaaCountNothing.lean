/-
  The law CountNothing answers true for every input (a row, a bool and two numbers) of bulk at most 1048576, and leaves memory as it was, whatever the state of the machine that it starts in. No other conditions: this is the second form, CountNothingUptoSaid. (Its functions are taken one by one by what they answer on values; the counts that the law appends are read as a value from then on; awake, which it calls last, is closed and is run inside the kernel.)
-/
import Derived.Test.YtmlpgfmbhpefmaaRows
import Derived.WalkKit
import Derived.ProofKit
import Derived.OpenShut
import Derived.JoinedCond
import Derived.Test.YtmlpgfmbhpefmaaEvBk
import Derived.Test.YtmlpgfmbhpefmaaEvKx
import Derived.Test.YtmlpgfmbhpefmaaEvS1B
import Derived.ShutString
set_option linter.all false
namespace Go.Ev
open Go.Proofs
set_option maxRecDepth 1000000
noncomputable def rc17 : RC := (.seq (.reg [(.u (.box p5 (.t p1))), (.u (.mv p9 (.k (.b false))))]) (.seq (.reg [(.u (.ldn p23 (.t p5) 4)), (.u (.new p10 [.ns, .ns, (.i .i64 0), (.i .i64 0)])), (.u (.st (.t p10) (.t p23) 4))]) (.seq (.reg [(.u (.bsl p24 3 0 [] [])), (.u (.fad p25 (.t p5) 1)), (.u (.ld1 p26 (.t p25))), (.u (.app p27 3 (.t p24) (.t p26))), (.u (.mv p28 (.t p2))), (.u (.bld p29 [(.b false), (.i .i64 0), (.i .i64 0)] [(0, (1, (.t p28)))])), (.u (.bsl p30 3 1 [(.b false), (.i .i64 0), (.i .i64 0)] [(0, (3, (.t p29)))])), (.u (.app p31 3 (.t p27) (.t p30))), (.u (.fad p32 (.t p10) 1)), (.u (.st (.t p32) (.t p31) 1))]) (.seq (.seq (.reg [(.u (.ldn p33 (.t p5) 4)), (.u (.cf (some p34) p51 [(.t p33)])), (.u (.un p35 .not (.t p34))), (.u (.mv p36 (.t p35))), (.g p36 false (some p37) (.ldn p37 (.t p10) 4)), (.g p36 false (some p38) (.cf (some p38) p51 [(.t p37)])), (.g p36 false (some p39) (.un p39 .not (.t p38))), (.u (.pick p40 (.t p36) (.k (.b true)) (.t p39)))]) (.cond (.t p40) (.seq (.reg [(.u (.cf (some p41) p20 [])), (.u (.mv p9 (.t p41)))]) .ret) .skip)) (.seq (.reg [(.u (.ldn p43 (.t p5) 4)), (.u (.mv p44 (.t p3))), (.u (.mv p45 (.t p4))), (.u (.cf (some p46) p53 [(.t p43), (.t p44), (.t p45)])), (.u (.mv p42 (.t p46))), (.u (.ext p47 (.t p42) 0)), (.u (.ext p48 (.t p42) 1)), (.u (.mv p11 (.t p47))), (.u (.mv p12 (.t p48)))]) (.seq (.reg [(.u (.ldn p50 (.t p5) 4)), (.u (.cf (some p51) p22 [(.t p50)])), (.u (.mv p52 (.t p11))), (.u (.mv p53 (.t p12))), (.u (.cf (some p54) p30 [(.t p51), (.t p52), (.t p53)])), (.u (.mv p49 (.t p54))), (.u (.ext p55 (.t p49) 0)), (.u (.ext p56 (.t p49) 1)), (.u (.new p13 [(.i .i64 0), (.i .i64 0)])), (.u (.st (.t p13) (.t p55) 2)), (.u (.mv p14 (.t p56)))]) (.seq (.reg [(.u (.ldn p58 (.t p10) 4)), (.u (.cf (some p59) p22 [(.t p58)])), (.u (.mv p60 (.t p11))), (.u (.mv p61 (.t p12))), (.u (.cf (some p62) p30 [(.t p59), (.t p60), (.t p61)])), (.u (.mv p57 (.t p62))), (.u (.ext p63 (.t p57) 0)), (.u (.ext p64 (.t p57) 1)), (.u (.new p15 [(.i .i64 0), (.i .i64 0)])), (.u (.st (.t p15) (.t p63) 2)), (.u (.mv p16 (.t p64)))]) (.seq (.reg [(.u (.ldn p66 (.t p10) 4)), (.u (.cf (some p67) p22 [(.t p66)])), (.u (.cf (some p68) p36 [(.t p67)])), (.u (.mv p65 (.t p68))), (.u (.ext p69 (.t p65) 0)), (.u (.ext p70 (.t p65) 1)), (.u (.mv p17 (.t p69))), (.u (.mv p18 (.t p70)))]) (.seq (.reg [(.u (.ldn p72 (.t p5) 4)), (.u (.cf (some p73) p22 [(.t p72)])), (.u (.cf (some p74) p39 [(.t p73)])), (.u (.mv p71 (.t p74))), (.u (.ext p75 (.t p71) 0)), (.u (.ext p76 (.t p71) 1)), (.u (.mv p19 (.t p75))), (.u (.mv p20 (.t p76)))]) (.seq (.reg [(.u (.ldn p78 (.t p10) 4)), (.u (.cf (some p79) p22 [(.t p78)])), (.u (.cf (some p80) p39 [(.t p79)])), (.u (.mv p77 (.t p80))), (.u (.ext p81 (.t p77) 0)), (.u (.ext p82 (.t p77) 1)), (.u (.mv p21 (.t p81))), (.u (.mv p22 (.t p82)))]) (.seq (.seq (.reg [(.u (.mv p83 (.t p14))), (.u (.mv p84 (.t p16))), (.u (.bin p85 .neq (.t p83) (.t p84))), (.u (.mv p86 (.t p85))), (.g p86 false (some p87) (.ldn p87 (.t p13) 2)), (.g p86 false (some p88) (.ldn p88 (.t p15) 2)), (.g p86 false (some p89) (.eqr p89 true [(.i .i64), (.i .i64)] (.t p87) (.t p88))), (.u (.pick p90 (.t p86) (.k (.b true)) (.t p89))), (.u (.mv p91 (.t p90))), (.g p91 false (some p92) (.mv p92 (.t p20))), (.g p91 false (some p93) (.mv p93 (.t p22))), (.g p91 false (some p94) (.bin p94 .neq (.t p92) (.t p93))), (.u (.pick p95 (.t p91) (.k (.b true)) (.t p94))), (.u (.mv p96 (.t p95))), (.g p96 false (some p97) (.mv p97 (.t p19))), (.g p96 false (some p98) (.mv p98 (.t p21))), (.g p96 false (some p99) (.bin p99 .neq (.t p97) (.t p98))), (.u (.pick p100 (.t p96) (.k (.b true)) (.t p99)))]) (.cond (.t p100) (.seq (.reg [(.u (.mv p9 (.k (.b false))))]) .ret) .skip)) (.seq (.seq (.reg [(.u (.mv p101 (.t p14))), (.u (.bin p102 .neq (.t p101) (.k (.i .i64 0))))]) (.cond (.t p102) (.seq (.reg [(.u (.mv p103 (.t p14))), (.u (.bin p104 .eql (.t p103) (.k (.i .i64 11)))), (.u (.mv p105 (.t p104))), (.g p105 true (some p106) (.mv p106 (.t p18))), (.g p105 true (some p107) (.mv p107 (.t p14))), (.g p105 true (some p108) (.bin p108 .eql (.t p106) (.t p107))), (.u (.pick p109 (.t p105) (.t p108) (.k (.b false)))), (.u (.mv p110 (.t p109))), (.g p110 true (some p111) (.cf (some p111) p20 [])), (.u (.pick p112 (.t p110) (.t p111) (.k (.b false)))), (.u (.mv p9 (.t p112)))]) .ret) .skip)) (.seq (.reg [(.u (.mv p113 (.t p18))), (.u (.bin p114 .eql (.t p113) (.k (.i .i64 0)))), (.u (.mv p115 (.t p114))), (.g p115 true (some p116) (.mv p116 (.t p17))), (.g p115 true (some p117) (.len p117 (.t p116))), (.g p115 true (some p118) (.fad p118 (.t p10) 1)), (.g p115 true (some p119) (.ld1 p119 (.t p118))), (.g p115 true (some p120) (.len p120 (.t p119))), (.g p115 true (some p121) (.bin p121 .eql (.t p117) (.t p120))), (.u (.pick p122 (.t p115) (.t p121) (.k (.b false)))), (.u (.mv p123 (.t p122))), (.g p123 true (some p124) (.mv p124 (.t p17))), (.g p123 true (some p125) (.mv p125 (.t p17))), (.g p123 true (some p126) (.len p126 (.t p125))), (.g p123 true (some p127) (.bin p127 .sub (.t p126) (.k (.i .i64 1)))), (.g p123 true (some p128) (.ixs p128 1 (.t p124) (.t p127))), (.g p123 true (some p129) (.ld1 p129 (.t p128))), (.g p123 true (some p130) (.bin p130 .eql (.t p129) (.k (.i .i64 1)))), (.u (.pick p131 (.t p123) (.t p130) (.k (.b false)))), (.u (.mv p132 (.t p131))), (.g p132 true (some p133) (.cf (some p133) p20 [])), (.u (.pick p134 (.t p132) (.t p133) (.k (.b false)))), (.u (.mv p9 (.t p134)))]) .ret)))))))))))))
def rs17 : List RR := [(.t p9)]
theorem fn17 : FnOk Try.prog p18.ix 134 rc17 rs17 := ⟨Try.f17, bodyC Try.f17, Try.func17, by kernel_rfl, by kernel_rfl, by kernel_rfl, by kernel_rfl, by kernel_rfl⟩
theorem c_CountNothing (l : List Int) (cs : List Cnt) (wr off : Int) (bk : Bool) (a b : Int) (ha : 0 ≤ a ∧ a ≤ 255) (hb : 0 ≤ b ∧ b ≤ 255) (hcn : cs.length ≤ 1048576) (AW : PureF Try.prog p20.ix [] (.b true)) :
    PureF Try.prog p18.ix [.ag [.lst 1 (ints l), .lst 3 (rows cntD cs), .i .i64 wr, .i .i64 off], .b bk, .i .u8 a, .i .u8 b] (.b true) := by
  have e1 := ints_length l
  have e2 := rows_length cntD cs
  have e3 := rows_length cntD (cs ++ [(⟨bk, 0, 0⟩ : Cnt)])
  have e4 : (cs ++ [(⟨bk, 0, 0⟩ : Cnt)]).length = cs.length + 1 := by simp
  refine PureF.run fn17 (by simp) (by simp [PuL, PuE, Pu, pu_ints, pu_cnts]) ?_; conv => whnf
  refine Rn.seq ?_; conv => whnf
  refine Rn.reg ?_; conv => whnf
  refine Rn.seq ?_; conv => whnf
  refine Rn.reg ?_; conv => whnf
  refine Rn.seq ?_; conv => whnf
  refine Rn.shrink ?_ (fun e z h => h)
  refine Rn.reg ?_; conv => whnf
  refine WSt.app_emp rfl rfl rfl (cnts_three _) (by rw [e2]; omega) (fun st => ?_); conv => whnf
  refine WSt.app_one (ds := (rows cntD cs).flatten) (r := cntD ⟨bk, 0, 0⟩) rfl rfl rfl rfl rfl rfl (by
    have := cells3_length cs (Nat.le_refl _)
    unfold cells3 at this
    rw [List.take_length] at this
    rw [this, e2]) rfl rfl (by rw [e2]; omega) rfl ?_; conv => whnf
  refine ⟨⟨((.n (.n (.n .e (some (.i .u8 b)) .e) none (.n (.n .e (some (.pt (.o .h) 0 0)) .e) none .e)) none (.n (.n .e (some (.pt .h 0 0)) .e) (some (.i .u8 a)) .e)) : T D), ((.n (.n .e (some (rowC l (cs ++ [(⟨bk, 0, 0⟩ : Cnt)]) wr off)) .e) (some (rowC l cs wr off)) .e) : T C), .i .h, none⟩, ?_, Nat.le_refl _, ?_⟩
  · refine Shr.of ?_ ?_ rfl rfl
    · show Rel _ _ ((.n (.n (.n .e (some (.i .u8 b)) .e) none (.n (.n .e (some (.pt (.o .h) 0 0)) .e) none .e)) none (.n (.n .e (some (.pt .h 0 0)) .e) (some (.i .u8 a)) .e)) : T D) _
      (repeat' first | exact Rel.e | refine Rel.some ?_ ?_ ?_ | refine Rel.none ?_ ?_ | refine Rel.ee ?_ ?_)
      all_goals show Fz _ _ _ _
      all_goals first | exact .pu trivial | exact .kpt (by simp [Pos.nat])
    · show Rel _ _ ((.n (.n .e (some (rowC l (cs ++ [(⟨bk, 0, 0⟩ : Cnt)]) wr off)) .e) (some (rowC l cs wr off)) .e) : T C) _
      (repeat' first | exact Rel.e | refine Rel.some ?_ ?_ ?_ | refine Rel.none ?_ ?_ | refine Rel.ee ?_ ?_)
      all_goals refine RO'.of (by simp [Pos.nat]) ?_
      · refine ShC.of (.cons ⟨fun st h => h, .pu (pu_ints _)⟩ (.cons ⟨fun st h => h, ?_⟩ (.cons ⟨fun st h => h, .pu trivial⟩ (.cons ⟨fun st h => h, .pu trivial⟩ .nil))))
        exact Fz.grown (s1 := st) (s2 := st + 1) (ds := (rows cntD cs).flatten) (r := cntD ⟨bk, 0, 0⟩) (by simp [Pos.nat]) rfl rfl (by omega) (rows_snoc _ _) (by rw [e2, e3, e4]) (cnts_three _) (pu_cnts _)
      · exact rowC_sh l cs wr off
  conv => whnf
  repeat' first | ((with_reducible apply WB.tt); conv => whnf) | ((with_reducible apply WB.ff); conv => whnf) | (refine Rn.seq ?_; conv => whnf) | (refine Rn.reg ?_; conv => whnf) | (refine Rn.drw ?_; conv => whnf) | (refine Rn.blk ?_; conv => whnf) | (refine Rn.skip ?_; conv => whnf) | (refine Rn.ret ?_; conv => whnf) | (refine Rn.exit ?_; conv => whnf) | (refine Rn.cond rfl ?_; conv => whnf) | (refine And.intro (InR.i64 (by omega) (by omega)) ?_; conv => whnf) | (refine And.intro (show _ ≠ (0 : Int) by omega) ?_; conv => whnf) | (refine WIx.intsN (by omega) ?_; conv => whnf) | (refine WIx.rowsN (by omega) ?_; conv => whnf) | (refine WCall.pure (c_ready l cs wr off) ?_; conv => whnf) | (refine WCall.pure (c_ready l (cs ++ [(⟨bk, 0, 0⟩ : Cnt)]) wr off) ?_; conv => whnf) | (refine WCall.pure (AW) ?_; conv => whnf) | ((with_reducible refine WB.dec (fun h => ?_) (fun h => ?_)) <;> conv => whnf) | ((with_reducible refine WB.ndec (fun h => ?_) (fun h => ?_)) <;> conv => whnf) | (refine WB.mk (fun h => ?_) (fun h => ?_) <;> conv => whnf)
  · exact Fin.b rfl rfl
  · exact Fin.b rfl rfl
  have h1 : readyB l cs wr off = true := by
    have : (!readyB l cs wr off) = false := by assumption
    simpa using this
  have h2 : readyB l (cs ++ [(⟨bk, 0, 0⟩ : Cnt)]) wr off = true := by
    have : (!readyB l (cs ++ [(⟨bk, 0, 0⟩ : Cnt)]) wr off) = false := by assumption
    simpa using this
  obtain ⟨h1, hF⟩ := ready_spec h1
  obtain ⟨h2, hF'⟩ := ready_spec h2
  obtain ⟨f1, f2, f3, f4⟩ := fault0 hF
  obtain ⟨f1', f2', f3', f4'⟩ := fault0 hF'
  obtain ⟨_, _, o1, o2⟩ := fault1 hF
  obtain ⟨g1, g2, g3⟩ := parted_spec f1 ha.1 hb.1
  have cR := c_Row l cs wr off (by omega) (by omega)
  have cR' := c_Row l (cs ++ [(⟨bk, 0, 0⟩ : Cnt)]) wr off (by omega) (by omega)
  have cP := c_parted l cs wr off a b f1 (by omega) ha hb
  have cQ := c_Right l (cs ++ [(⟨bk, 0, 0⟩ : Cnt)]) wr off (by omega)
  have cN := c_Least l cs wr off (by omega)
  have cN' := c_Least l (cs ++ [(⟨bk, 0, 0⟩ : Cnt)]) wr off (by omega)
  unfold leN leE at cN cN'
  rw [if_pos hF, if_pos hF] at cN
  rw [if_pos hF', if_pos hF', leastF_zero _ _ o1] at cN'
  have hlb := leastF_bd cs off (allR l)
  generalize leastF cs off (allR l) = lf at *
  generalize hLN : (if lf < 0 then 0 else lf) = ln at *
  generalize hLE : (if lf < 0 then (10 : Int) else 0) = le at *
  generalize pA l.length a b = A at *
  generalize pB l.length a b = B at *
  have hsE : sureE l (cs ++ [(⟨bk, 0, 0⟩ : Cnt)]) wr off = if truR l cs wr off = [] then 11 else 0 := by unfold sureE; rw [if_pos hF', truR_zero bk o1]
  clear h1 h2
  by_cases hT : truR l cs wr off = []
  · have cC := c_Chairs11 l cs wr off A B hF g1 g2 g3 hT
    have cC' := c_Chairs11 l (cs ++ [(⟨bk, 0, 0⟩ : Cnt)]) wr off A B hF' g1 g2 g3 (by rw [truR_zero bk o1]; exact hT)
    rw [hsE, if_pos hT] at cQ
    repeat' first | ((with_reducible apply WB.tt); conv => whnf) | ((with_reducible apply WB.ff); conv => whnf) | (refine Rn.seq ?_; conv => whnf) | (refine Rn.reg ?_; conv => whnf) | (refine Rn.drw ?_; conv => whnf) | (refine Rn.blk ?_; conv => whnf) | (refine Rn.skip ?_; conv => whnf) | (refine Rn.ret ?_; conv => whnf) | (refine Rn.exit ?_; conv => whnf) | (refine Rn.cond rfl ?_; conv => whnf) | (refine And.intro (InR.i64 (by omega) (by omega)) ?_; conv => whnf) | (refine And.intro (show _ ≠ (0 : Int) by omega) ?_; conv => whnf) | (refine WIx.intsN (by omega) ?_; conv => whnf) | (refine WIx.rowsN (by omega) ?_; conv => whnf) | (refine WCall.pure (cR) ?_; conv => whnf) | (refine WCall.pure (cR') ?_; conv => whnf) | (refine WCall.pure (cP) ?_; conv => whnf) | (refine WCall.pure (cC) ?_; conv => whnf) | (refine WCall.pure (cC') ?_; conv => whnf) | (refine WCall.pure (cQ) ?_; conv => whnf) | (refine WCall.pure (cN) ?_; conv => whnf) | (refine WCall.pure (cN') ?_; conv => whnf) | (refine WCall.pure (AW) ?_; conv => whnf) | ((with_reducible refine WB.decT (by first | with_reducible rfl | assumption | omega | exact ⟨rfl, rfl⟩) ?_); conv => whnf) | ((with_reducible refine WB.decF (by first | assumption | omega) ?_); conv => whnf) | ((with_reducible refine WB.ndT (by first | with_reducible rfl | assumption | omega | exact ⟨rfl, rfl⟩) ?_); conv => whnf) | ((with_reducible refine WB.ndF (by first | assumption | omega) ?_); conv => whnf) | ((with_reducible refine WB.nt ?_); conv => whnf) | ((with_reducible refine WB.nf ?_); conv => whnf) | ((with_reducible refine WB.dec (fun h => ?_) (fun h => ?_)) <;> conv => whnf) | ((with_reducible refine WB.ndec (fun h => ?_) (fun h => ?_)) <;> conv => whnf) | (refine WB.mk (fun h => ?_) (fun h => ?_) <;> conv => whnf)
    refine WSt.eqr2n rfl rfl rfl rfl rfl rfl ?_; conv => whnf
    repeat' first | ((with_reducible apply WB.tt); conv => whnf) | ((with_reducible apply WB.ff); conv => whnf) | (refine Rn.seq ?_; conv => whnf) | (refine Rn.reg ?_; conv => whnf) | (refine Rn.drw ?_; conv => whnf) | (refine Rn.blk ?_; conv => whnf) | (refine Rn.skip ?_; conv => whnf) | (refine Rn.ret ?_; conv => whnf) | (refine Rn.exit ?_; conv => whnf) | (refine Rn.cond rfl ?_; conv => whnf) | (refine And.intro (InR.i64 (by omega) (by omega)) ?_; conv => whnf) | (refine And.intro (show _ ≠ (0 : Int) by omega) ?_; conv => whnf) | (refine WIx.intsN (by omega) ?_; conv => whnf) | (refine WIx.rowsN (by omega) ?_; conv => whnf) | (refine WCall.pure (AW) ?_; conv => whnf) | ((with_reducible refine WB.decT (by first | with_reducible rfl | assumption | omega | exact ⟨rfl, rfl⟩) ?_); conv => whnf) | ((with_reducible refine WB.decF (by first | assumption | omega) ?_); conv => whnf) | ((with_reducible refine WB.ndT (by first | with_reducible rfl | assumption | omega | exact ⟨rfl, rfl⟩) ?_); conv => whnf) | ((with_reducible refine WB.ndF (by first | assumption | omega) ?_); conv => whnf) | ((with_reducible refine WB.nt ?_); conv => whnf) | ((with_reducible refine WB.nf ?_); conv => whnf) | ((with_reducible refine WB.dec (fun h => ?_) (fun h => ?_)) <;> conv => whnf) | ((with_reducible refine WB.ndec (fun h => ?_) (fun h => ?_)) <;> conv => whnf) | (refine WB.mk (fun h => ?_) (fun h => ?_) <;> conv => whnf)
    exact Fin.b rfl rfl
  · have cC := c_Chairs0 l cs wr off A B hF g1 g2 g3 hT
    have cC' := c_Chairs0 l (cs ++ [(⟨bk, 0, 0⟩ : Cnt)]) wr off A B hF' g1 g2 g3 (by rw [truR_zero bk o1]; exact hT)
    rw [truR_zero bk o1] at cC'
    rw [if_neg hT] at hsE
    have hq : riL l (cs ++ [(⟨bk, 0, 0⟩ : Cnt)]) wr off = (List.range (cs ++ [(⟨bk, 0, 0⟩ : Cnt)]).length).map fun i => verdR (yesR (truR l cs wr off) ((cs ++ [(⟨bk, 0, 0⟩ : Cnt)]).getD i default)) (truR l cs wr off).length := by
      unfold riL; rw [if_pos hsE, truR_zero bk o1]
    have hql : (riL l (cs ++ [(⟨bk, 0, 0⟩ : Cnt)]) wr off).length = cs.length + 1 := by rw [hq]; simp
    have hqg : (riL l (cs ++ [(⟨bk, 0, 0⟩ : Cnt)]) wr off).getD cs.length 0 = 1 := by
      have : (riL l (cs ++ [(⟨bk, 0, 0⟩ : Cnt)]) wr off).getD cs.length 0 = verdR (yesR (truR l cs wr off) ((cs ++ [(⟨bk, 0, 0⟩ : Cnt)]).getD cs.length default)) (truR l cs wr off).length := by rw [hq]; simp [List.getD]
      rw [this, show (cs ++ [(⟨bk, 0, 0⟩ : Cnt)]).getD cs.length default = ⟨bk, 0, 0⟩ by simp [List.getD], yesR_zero]
      unfold verdR
      rw [if_pos rfl]
    rw [hsE] at cQ
    have hbd := ref_bd l cs wr off A B f2 g1 g2 g3
    generalize riL l (cs ++ [(⟨bk, 0, 0⟩ : Cnt)]) wr off = Q at *
    generalize loR A B (truR l cs wr off) = lo at *
    generalize hiR A B (truR l cs wr off) = hi at *
    have w1 := wf_small (n := lo) (by omega) (by omega)
    have w2 := wf_small (n := hi) (by omega) (by omega)
    have e5 := ints_length Q
    have e6 : ((ints Q).length : Int) = (rows cntD (cs ++ [(⟨bk, 0, 0⟩ : Cnt)])).length := by omega
    repeat' first | ((with_reducible apply WB.tt); conv => whnf) | ((with_reducible apply WB.ff); conv => whnf) | (refine Rn.seq ?_; conv => whnf) | (refine Rn.reg ?_; conv => whnf) | (refine Rn.drw ?_; conv => whnf) | (refine Rn.blk ?_; conv => whnf) | (refine Rn.skip ?_; conv => whnf) | (refine Rn.ret ?_; conv => whnf) | (refine Rn.exit ?_; conv => whnf) | (refine Rn.cond rfl ?_; conv => whnf) | (refine And.intro (InR.i64 (by omega) (by omega)) ?_; conv => whnf) | (refine And.intro (show _ ≠ (0 : Int) by omega) ?_; conv => whnf) | (refine WIx.intsN (by omega) ?_; conv => whnf) | (refine WIx.rowsN (by omega) ?_; conv => whnf) | (refine WCall.pure (cR) ?_; conv => whnf) | (refine WCall.pure (cR') ?_; conv => whnf) | (refine WCall.pure (cP) ?_; conv => whnf) | (refine WCall.pure (cC) ?_; conv => whnf) | (refine WCall.pure (cC') ?_; conv => whnf) | (refine WCall.pure (cQ) ?_; conv => whnf) | (refine WCall.pure (cN) ?_; conv => whnf) | (refine WCall.pure (cN') ?_; conv => whnf) | (refine WCall.pure (AW) ?_; conv => whnf) | ((with_reducible refine WB.decT (by first | with_reducible rfl | assumption | omega | exact ⟨rfl, rfl⟩) ?_); conv => whnf) | ((with_reducible refine WB.decF (by first | assumption | omega) ?_); conv => whnf) | ((with_reducible refine WB.ndT (by first | with_reducible rfl | assumption | omega | exact ⟨rfl, rfl⟩) ?_); conv => whnf) | ((with_reducible refine WB.ndF (by first | assumption | omega) ?_); conv => whnf) | ((with_reducible refine WB.nt ?_); conv => whnf) | ((with_reducible refine WB.nf ?_); conv => whnf) | ((with_reducible refine WB.dec (fun h => ?_) (fun h => ?_)) <;> conv => whnf) | ((with_reducible refine WB.ndec (fun h => ?_) (fun h => ?_)) <;> conv => whnf) | (refine WB.mk (fun h => ?_) (fun h => ?_) <;> conv => whnf)
    refine WSt.eqr2n (a := lo) (b := hi) (a' := lo) (b' := hi) ?_ ?_ w1 w2 w1 w2 ?_
    · rfl
    · rfl
    conv => whnf
    repeat' first | ((with_reducible apply WB.tt); conv => whnf) | ((with_reducible apply WB.ff); conv => whnf) | (refine Rn.seq ?_; conv => whnf) | (refine Rn.reg ?_; conv => whnf) | (refine Rn.drw ?_; conv => whnf) | (refine Rn.blk ?_; conv => whnf) | (refine Rn.skip ?_; conv => whnf) | (refine Rn.ret ?_; conv => whnf) | (refine Rn.exit ?_; conv => whnf) | (refine Rn.cond rfl ?_; conv => whnf) | (refine And.intro (InR.i64 (by omega) (by omega)) ?_; conv => whnf) | (refine And.intro (show _ ≠ (0 : Int) by omega) ?_; conv => whnf) | (refine WIx.intsN (by omega) ?_; conv => whnf) | (refine WIx.rowsN (by omega) ?_; conv => whnf) | (refine WCall.pure (AW) ?_; conv => whnf) | ((with_reducible refine WB.decT (by first | with_reducible rfl | assumption | omega | exact ⟨rfl, rfl⟩) ?_); conv => whnf) | ((with_reducible refine WB.decF (by first | assumption | omega) ?_); conv => whnf) | ((with_reducible refine WB.ndT (by first | with_reducible rfl | assumption | omega | exact ⟨rfl, rfl⟩) ?_); conv => whnf) | ((with_reducible refine WB.ndF (by first | assumption | omega) ?_); conv => whnf) | ((with_reducible refine WB.nt ?_); conv => whnf) | ((with_reducible refine WB.nf ?_); conv => whnf) | ((with_reducible refine WB.dec (fun h => ?_) (fun h => ?_)) <;> conv => whnf) | ((with_reducible refine WB.ndec (fun h => ?_) (fun h => ?_)) <;> conv => whnf) | (refine WB.mk (fun h => ?_) (fun h => ?_) <;> conv => whnf)
    refine WIx.ints (by omega) (by omega) ?_; conv => whnf
    rw [show (((ints Q).length : Int) - 1).toNat = cs.length by omega, hqg]
    repeat' first | ((with_reducible apply WB.tt); conv => whnf) | ((with_reducible apply WB.ff); conv => whnf) | (refine Rn.seq ?_; conv => whnf) | (refine Rn.reg ?_; conv => whnf) | (refine Rn.drw ?_; conv => whnf) | (refine Rn.blk ?_; conv => whnf) | (refine Rn.skip ?_; conv => whnf) | (refine Rn.ret ?_; conv => whnf) | (refine Rn.exit ?_; conv => whnf) | (refine Rn.cond rfl ?_; conv => whnf) | (refine And.intro (InR.i64 (by omega) (by omega)) ?_; conv => whnf) | (refine And.intro (show _ ≠ (0 : Int) by omega) ?_; conv => whnf) | (refine WIx.intsN (by omega) ?_; conv => whnf) | (refine WIx.rowsN (by omega) ?_; conv => whnf) | (refine WCall.pure (AW) ?_; conv => whnf) | ((with_reducible refine WB.decT (by first | with_reducible rfl | assumption | omega | exact ⟨rfl, rfl⟩) ?_); conv => whnf) | ((with_reducible refine WB.decF (by first | assumption | omega) ?_); conv => whnf) | ((with_reducible refine WB.ndT (by first | with_reducible rfl | assumption | omega | exact ⟨rfl, rfl⟩) ?_); conv => whnf) | ((with_reducible refine WB.ndF (by first | assumption | omega) ?_); conv => whnf) | ((with_reducible refine WB.nt ?_); conv => whnf) | ((with_reducible refine WB.nf ?_); conv => whnf) | ((with_reducible refine WB.dec (fun h => ?_) (fun h => ?_)) <;> conv => whnf) | ((with_reducible refine WB.ndec (fun h => ?_) (fun h => ?_)) <;> conv => whnf) | (refine WB.mk (fun h => ?_) (fun h => ?_) <;> conv => whnf)
    exact Fin.b rfl rfl
theorem main_countNothing (AW : PureF Try.prog p20.ix [] (.b true)) {es : List D} (fit : FitP [(true, [.sl [.i .i64], .sl [.b, .i .i64, .i .i64], .i .i64, .i .i64]), (false, [.b]), (false, [.i .u8]), (false, [.i .u8])] es) (hB : ∀ e ∈ es, LstLe 1048576 e) : PureF Try.prog 17 es (.b true) := by
  obtain ⟨l, cs, wr, off, _, rfl, g1⟩ := fit.row
  obtain ⟨bk, _, rfl, g2⟩ := g1.b
  obtain ⟨a, _, rfl, w1, g3⟩ := g2.i
  obtain ⟨b, _, rfl, w2, g4⟩ := g3.i
  obtain rfl := g4.no
  have h0 : LstLe 1048576 (.ag [.lst 1 (ints l), .lst 3 (rows cntD cs), .i .i64 wr, .i .i64 off]) := hB _ (by simp)
  have h1 : (rows cntD cs).length ≤ 1048576 := h0 (.lst 3 (rows cntD cs)) (by simp) 3 _ rfl
  rw [rows_length] at h1
  exact c_CountNothing l cs wr off bk a b (wf_u8 w1) (wf_u8 w2) h1 AW
end Go.Ev
namespace Go.Proofs.Ytmlpgfmbhpefmaa.countNothing
open Go.ChangeShapes Go.WideShapes Go.ChangeAt Go.RowKit
open Go.ChangeMaps (open_string shut_string)
set_option linter.unusedVariables false

theorem laid : laidOutB Try.prog = true := by kernel_rfl
theorem own : ownKnob Try.prog.godebug = none := by kernel_rfl

/-! ### the bulk bounds the lists -/
theorem bulk_one {H : Type} (d : DataW H) : 1 ≤ Rows.uptoBulk d := by
  cases d with
  | lit l => cases l <;> simp [Rows.uptoBulk]
  | _ => simp [Rows.uptoBulk]
theorem bulk_len {H : Type} : ∀ (l : List (DataW H)), l.length ≤ Rows.uptoBulkAll l
  | [] => Nat.zero_le _
  | x :: r => by
    have h1 := bulk_one x
    have h2 := bulk_len r
    simp only [Rows.uptoBulkAll, List.length_cons]
    omega
theorem bulk_mem {H : Type} {d : DataW H} : ∀ {l : List (DataW H)}, d ∈ l → Rows.uptoBulk d ≤ Rows.uptoBulkAll l
  | [], h => by cases h
  | x :: r, h => by
    simp only [Rows.uptoBulkAll]
    rcases List.mem_cons.1 h with rfl | h
    · omega
    · have := bulk_mem h; omega
theorem bulk_slice {H : Type} (elems spare : List (DataW H)) : elems.length ≤ Rows.uptoBulk (.slice elems spare) := by
  have := bulk_len elems
  simp only [Rows.uptoBulk]
  omega
theorem bulk_agg {H : Type} (parts : List (DataW H)) (d : DataW H) (h : d ∈ parts) : Rows.uptoBulk d ≤ Rows.uptoBulk (.agg parts) := by
  have := bulk_mem h
  simp only [Rows.uptoBulk]
  omega

/-! ### the walk -/
theorem walk {es : List Go.Ev.D} (fit : Go.Ev.FitP [(true, [.sl [.i .i64], .sl [.b, .i .i64, .i .i64], .i .i64, .i .i64]), (false, [.b]), (false, [.i .u8]), (false, [.i .u8])] es) (hB : ∀ e ∈ es, Go.Ev.LstLe 1048576 e) {args : Array Value} {W : World} (ha : Go.Ev.DVL (Go.Ev.γH W) W es args.toList) :
    Calls Try.prog 17 args W fun e w' => e = .returned (.bool true) ∧ Grown W w' ∧ Below W.heap.size W w' :=
  Go.Ev.PureF.calls (Go.Ev.main_countNothing (fun ob nx lg => Go.Ev.awT.any ob nx lg) fit hB) ha

set_option maxRecDepth 100000 in
theorem lifted (os : Os) (started : os.Started) (H : Type) (enc : TypeId × Value → H) (F : Stop.Interp) :
    ReturnsInHanded {} Try.checked os 17 .any ((Rows.OpenSpec.upto Rows.countNothingSpec).pre6 enc Try.prog Try.f17 Rows.countNothingUptoRow.domain false) (((Rows.OpenSpec.upto Rows.countNothingSpec).at F).post enc Try.prog Try.f17 false true false false) := by
  refine returnsInHanded_of_cond (C := Try.checked) (s := Rows.OpenSpec.upto Rows.countNothingSpec) (k := Rows.uptoSmall) rfl own started (by kernel_rfl) Try.func17
    (OpenSpec.witness (enc := enc) (C := Try.checked) (s := Rows.OpenSpec.upto Rows.countNothingSpec) (k := Rows.uptoSmall) rfl false ⟨#[], #[.agg #[.slice none 0 0, .slice none 0 0, .int .i64 0, .int .i64 0], .bool false, .int .u8 0, .int .u8 0], []⟩ 8 (by kernel_rfl) (by kernel_rfl) (by kernel_rfl)
      (x := ([.agg [.nil, .nil, .lit (.int .i64 0), .lit (.int .i64 0)], .lit (.bool false), .lit (.int .u8 0), .lit (.int .u8 0)], [], [])) (by kernel_rfl) rfl (by kernel_rfl)) ?_
  intro W base args ds gs before hval0 hW _ hk _
  have hval : ∀ (j : Nat) t v, Try.f17.params[j]? = some t → args[j]? = some v → Value.okWide Try.prog W .any base t v := hval0
  have hW' := hW
  obtain ⟨p, q, hA0, hV, rfl, hfz, hnd⟩ := hW
  have hA : DataW.TrodAll enc Try.prog W 0 (fun _ => true) true Try.f17.params.toList args.toList ds p := hA0
  rw [Try.params17] at hA hval
  obtain ⟨rfl, rfl⟩ := trodVars_none hV
  have hk1 : Rows.uptoBulkAll (ds ++ []) ≤ 1048576 := of_decide_eq_true hk
  rw [List.append_nil] at hk1
  obtain ⟨es, fit, dv, hB⟩ := Go.Ev.open_allB (B := Rows.uptoBulk) (n := 6) (N := 1048576) (pars := [(true, [.sl [.i .i64], .sl [.b, .i .i64, .i .i64], .i .i64, .i .i64]), (false, [.b]), (false, [.i .u8]), (false, [.i .u8])]) bulk_slice bulk_agg (by kernel_rfl) hA (fun j t v h1 h2 => hval j t v (by simpa using h1) (by simpa using h2)) (fun d hd => Nat.le_trans (bulk_mem hd) hk1)
  obtain ⟨d0, d1, d2, d3, rfl⟩ := Go.Ev.len4 (Go.Ev.trod_len hA)
  clear hA0 hval0
  simp only [List.append_nil] at hW'
  have hlt : ∀ x ∈ p, x.block < W.heap.size := fun x hx => by simpa using hW'.lt x hx
  refine (walk fit hB dv).mono fun e W' ⟨he, hg, hb⟩ => ?_
  subst he
  exact ⟨_, rfl, post_of_same (pa := p) (pv := []) hW' (fun _ _ _ => (trodAll_cons_mk (shut_bool Try.underlying4 _) trodAll_mk0))
    (fun sp hs => Go.Ev.stays_all laid (Go.Ev.of_allT (by kernel_rfl)) hA (fun x hx => hb.same (hlt x hx)) (fun x hx => hs x hx))
    (fun _ _ => rfl) (List.append_nil _).symm
    (hg.frame _) hg.2.1 (ok_one (by kernel_rfl) rfl (okWide_bool_mk Try.underlying4 _))⟩

theorem over : Rows.countNothingUptoRow.holds Try.pinned (Rows.OpenSpec.upto Rows.countNothingSpec) :=
  OpenClaim.holds_of_cond 17 Try.f17 rfl rfl rfl rfl rfl rfl rfl ⟨rfl, rfl, rfl, rfl, rfl⟩ rfl rfl rfl rfl rfl (by kernel_rfl) Try.func17 (by kernel_rfl)
    (of_decide_eq_true (by kernel_rfl)) (by unfold Func.isWrapper; first | (rw [if_pos (by decide +kernel)]; kernel_rfl) | (rw [if_neg (by decide +kernel)]; exact ⟨rfl, rfl⟩))
    (fun os started H enc _ F => lifted os started H enc F)

/-- ████ THE STATEMENT ████ -/
theorem proved : Rows.CountNothingUptoSaid :=
  over
#print axioms proved
end Go.Proofs.Ytmlpgfmbhpefmaa.countNothing
