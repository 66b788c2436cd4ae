/-
  CountLooked is true: for each row, part and place, what is seen at the place of the look leaves as many truths as it says, and one look at any place lowers what is needed by at most one. No conditions but those of the statement itself.
-/
import Derived.Test.YtmlpgfmbhpefmaaRows
import Derived.WalkKit
import Derived.ProofKit
import Derived.OpenShut
import Derived.Test.YtmlpgfmbhpefmaaEvFt
import Derived.Test.YtmlpgfmbhpefmaaEvLf
import Derived.Test.YtmlpgfmbhpefmaaEvS1Y
import Derived.ShutString
set_option linter.all false
namespace Go.Ev
open Go.Proofs
set_option maxRecDepth 1000000
noncomputable def rc16 : RC := (.seq (.reg [(.u (.box p5 (.t p1))), (.u (.mv p9 (.k (.b false))))]) (.seq (.seq (.reg [(.u (.ldn p25 (.t p5) 4)), (.u (.cf (some p26) p51 [(.t p25)])), (.u (.un p27 .not (.t p26)))]) (.cond (.t p27) (.seq (.reg [(.u (.cf (some p28) p20 [])), (.u (.mv p9 (.t p28)))]) .ret) .skip)) (.seq (.reg [(.u (.ldn p30 (.t p5) 4)), (.u (.cf (some p31) p22 [(.t p30)])), (.u (.cf (some p32) p43 [(.t p31)])), (.u (.mv p29 (.t p32))), (.u (.ext p33 (.t p29) 0)), (.u (.ext p34 (.t p29) 1)), (.u (.ext p35 (.t p29) 2)), (.u (.mv p10 (.t p33))), (.u (.mv p11 (.t p34))), (.u (.mv p12 (.t p35)))]) (.seq (.reg [(.u (.ldn p36 (.t p5) 4)), (.u (.cf (some p37) p57 [(.t p36)])), (.u (.mv p13 (.t p37)))]) (.seq (.seq (.reg [(.u (.mv p38 (.t p12))), (.u (.bin p39 .neq (.t p38) (.k (.i .i64 0))))]) (.cond (.t p39) (.seq (.reg [(.u (.mv p40 (.t p12))), (.u (.bin p41 .eql (.t p40) (.k (.i .i64 11)))), (.u (.mv p42 (.t p41))), (.g p42 true (some p43) (.mv p43 (.t p13))), (.g p42 true (some p44) (.len p44 (.t p43))), (.g p42 true (some p45) (.bin p45 .eql (.t p44) (.k (.i .i64 0)))), (.u (.pick p46 (.t p42) (.t p45) (.k (.b false)))), (.u (.mv p47 (.t p46))), (.g p47 true (some p48) (.cf (some p48) p20 [])), (.u (.pick p49 (.t p47) (.t p48) (.k (.b false)))), (.u (.mv p9 (.t p49)))]) .ret) .skip)) (.seq (.seq (.reg [(.u (.mv p50 (.t p10))), (.u (.fad p51 (.t p5) 0)), (.u (.ld1 p52 (.t p51))), (.u (.len p53 (.t p52))), (.u (.bin p54 .sub (.t p53) (.k (.i .i64 1)))), (.u (.cf (some p55) p61 [(.t p50), (.k (.i .i64 0)), (.t p54)])), (.u (.un p56 .not (.t p55))), (.u (.mv p57 (.t p56))), (.g p57 false (some p58) (.mv p58 (.t p11))), (.g p57 false (some p59) (.mv p59 (.t p13))), (.g p57 false (some p60) (.mv p60 (.t p10))), (.g p57 false (some p61) (.cf (some p61) p62 [(.t p59), (.t p60), (.k (.i .i64 0))])), (.g p57 false (some p62) (.len p62 (.t p61))), (.g p57 false (some p63) (.mv p63 (.t p13))), (.g p57 false (some p64) (.mv p64 (.t p10))), (.g p57 false (some p65) (.cf (some p65) p62 [(.t p63), (.t p64), (.k (.i .i64 1))])), (.g p57 false (some p66) (.len p66 (.t p65))), (.g p57 false (some p67) (.mx p67 (.t p62) (.t p66))), (.g p57 false (some p68) (.bin p68 .neq (.t p58) (.t p67))), (.u (.pick p69 (.t p57) (.k (.b true)) (.t p68)))]) (.cond (.t p69) (.seq (.reg [(.u (.mv p9 (.k (.b false))))]) .ret) .skip)) (.seq (.reg [(.u (.ldn p71 (.t p5) 4)), (.u (.mv p72 (.t p2))), (.u (.mv p73 (.t p3))), (.u (.cf (some p74) p53 [(.t p71), (.t p72), (.t p73)])), (.u (.mv p70 (.t p74))), (.u (.ext p75 (.t p70) 0)), (.u (.ext p76 (.t p70) 1)), (.u (.mv p14 (.t p75))), (.u (.mv p15 (.t p76)))]) (.seq (.reg [(.u (.ldn p78 (.t p5) 4)), (.u (.cf (some p79) p22 [(.t p78)])), (.u (.mv p80 (.t p14))), (.u (.mv p81 (.t p15))), (.u (.cf (some p82) p30 [(.t p79), (.t p80), (.t p81)])), (.u (.mv p77 (.t p82))), (.u (.ext p83 (.t p77) 0)), (.u (.ext p84 (.t p77) 1)), (.u (.new p16 [(.i .i64 0), (.i .i64 0)])), (.u (.st (.t p16) (.t p83) 2)), (.u (.mv p17 (.t p84)))]) (.seq (.reg [(.u (.ldn p86 (.t p5) 4)), (.u (.cf (some p87) p22 [(.t p86)])), (.u (.mv p88 (.t p14))), (.u (.mv p89 (.t p15))), (.u (.cf (some p90) p44 [(.t p87), (.t p88), (.t p89)])), (.u (.mv p85 (.t p90))), (.u (.ext p91 (.t p85) 0)), (.u (.ext p92 (.t p85) 1)), (.u (.mv p18 (.t p91))), (.u (.mv p19 (.t p92)))]) (.seq (.seq (.reg [(.u (.mv p93 (.t p17))), (.u (.bin p94 .neq (.t p93) (.k (.i .i64 0)))), (.u (.mv p95 (.t p94))), (.g p95 false (some p96) (.mv p96 (.t p19))), (.g p95 false (some p97) (.bin p97 .neq (.t p96) (.k (.i .i64 0)))), (.u (.pick p98 (.t p95) (.k (.b true)) (.t p97))), (.u (.mv p99 (.t p98))), (.g p99 false (some p100) (.fad p100 (.t p16) 0)), (.g p99 false (some p101) (.ld1 p101 (.t p100))), (.g p99 false (some p102) (.fad p102 (.t p16) 1)), (.g p99 false (some p103) (.ld1 p103 (.t p102))), (.g p99 false (some p104) (.bin p104 .eql (.t p101) (.t p103))), (.g p99 false (some p105) (.mv p105 (.t p18))), (.g p99 false (some p106) (.bin p106 .eql (.t p105) (.k (.i .i64 0)))), (.g p99 false (some p107) (.eq p107 true 0 (.t p104) (.t p106))), (.u (.pick p108 (.t p99) (.k (.b true)) (.t p107))), (.u (.mv p109 (.t p108))), (.g p109 false (some p110) (.mv p110 (.t p18))), (.g p109 false (some p111) (.bin p111 .lss (.t p110) (.k (.i .i64 0)))), (.u (.pick p112 (.t p109) (.k (.b true)) (.t p111)))]) (.cond (.t p112) (.seq (.reg [(.u (.mv p9 (.k (.b false))))]) .ret) .skip)) (.seq (.reg [(.u (.mv p113 (.t p4))), (.u (.cvi p114 .i64 (.t p113))), (.u (.fad p115 (.t p5) 0)), (.u (.ld1 p116 (.t p115))), (.u (.len p117 (.t p116))), (.u (.bin p118 .rem (.t p114) (.t p117))), (.u (.mv p20 (.t p118)))]) (.seq (.reg [(.u (.mv p21 (.k (.i .i64 (-1)))))]) (.seq (.seq (.reg [(.u (.mv p22 (.k (.i .i64 0))))]) (.blk 0 (.loop (.seq (.seq (.reg [(.u (.mv p119 (.t p22))), (.u (.bin p120 .leq (.t p119) (.k (.i .i64 1))))]) (.cond (.t p120) .skip (.exit 0))) (.seq (.blk 1 (.seq (.seq (.reg [(.u (.mv p123 (.t p13))), (.u (.mv p124 (.t p20))), (.u (.mv p125 (.t p22))), (.u (.cf (some p126) p62 [(.t p123), (.t p124), (.t p125)])), (.u (.len p127 (.t p126))), (.u (.bin p128 .eql (.t p127) (.k (.i .i64 0))))]) (.cond (.t p128) (.exit 1) .skip)) (.seq (.reg [(.u (.ldn p130 (.t p5) 4)), (.u (.mv p131 (.t p20))), (.u (.mv p132 (.t p22))), (.u (.cf (some p133) p63 [(.t p130), (.t p131), (.t p132)])), (.u (.cf (some p134) p22 [(.t p133)])), (.u (.mv p135 (.t p14))), (.u (.mv p136 (.t p15))), (.u (.cf (some p137) p44 [(.t p134), (.t p135), (.t p136)])), (.u (.mv p129 (.t p137))), (.u (.ext p138 (.t p129) 0)), (.u (.ext p139 (.t p129) 1)), (.u (.mv p23 (.t p138))), (.u (.mv p24 (.t p139)))]) (.seq (.seq (.reg [(.u (.mv p140 (.t p24))), (.u (.bin p141 .neq (.t p140) (.k (.i .i64 0)))), (.u (.mv p142 (.t p141))), (.g p142 false (some p143) (.mv p143 (.t p23))), (.g p142 false (some p144) (.mv p144 (.t p18))), (.g p142 false (some p145) (.bin p145 .gtr (.t p143) (.t p144))), (.u (.pick p146 (.t p142) (.k (.b true)) (.t p145)))]) (.cond (.t p146) (.seq (.reg [(.u (.mv p9 (.k (.b false))))]) .ret) .skip)) (.reg [(.u (.mv p147 (.t p21))), (.u (.mv p148 (.t p23))), (.u (.mx p149 (.t p147) (.t p148))), (.u (.mv p21 (.t p149)))]))))) (.reg [(.u (.mv p121 (.t p22))), (.u (.bin p122 .add (.t p121) (.k (.i .i64 1)))), (.u (.mv p22 (.t p122)))])))))) (.seq (.reg [(.u (.mv p150 (.t p21))), (.u (.mv p151 (.t p18))), (.u (.bin p152 .sub (.t p151) (.k (.i .i64 1)))), (.u (.bin p153 .geq (.t p150) (.t p152))), (.u (.mv p154 (.t p153))), (.g p154 true (some p155) (.cf (some p155) p20 [])), (.u (.pick p156 (.t p154) (.t p155) (.k (.b false)))), (.u (.mv p9 (.t p156)))]) .ret))))))))))))))
def rs16 : List RR := [(.t p9)]
theorem fn16 : FnOk Try.prog p17.ix 156 rc16 rs16 := ⟨Try.f16, bodyC Try.f16, Try.func16, by kernel_rfl, by kernel_rfl, by kernel_rfl, by kernel_rfl, by kernel_rfl⟩
theorem c_CountLooked (l : List Int) (cs : List Cnt) (wr off : Int) (a b at' : Int) (ha : 0 ≤ a ∧ a ≤ 255) (hb : 0 ≤ b ∧ b ≤ 255) (hat : 0 ≤ at' ∧ at' ≤ 255) (AW : PureF Try.prog p20.ix [] (.b true)) :
    PureF Try.prog p17.ix [.ag [.lst 1 (ints l), .lst 3 (rows cntD cs), .i .i64 wr, .i .i64 off], .i .u8 a, .i .u8 b, .i .u8 at'] (.b true) := by
  have e1 := ints_length l
  refine PureF.run fn16 (by simp) (by simp [PuL, PuE, Pu, pu_ints, pu_cnts]) ?_; conv => whnf
  repeat' first | ((first | with_reducible apply WB.tt | with_reducible apply WB.ff | refine Rn.seq ?_ | refine Rn.reg ?_ | refine Rn.drw ?_ | refine Rn.blk ?_ | refine Rn.skip ?_ | refine Rn.ret ?_ | refine Rn.exit ?_ | refine Rn.cond rfl ?_ | refine And.intro (InR.i64 (by omega) (by omega)) ?_ | refine And.intro (show _ ≠ (0 : Int) by omega) ?_ | refine WIx.intsN (by omega) ?_ | refine WIx.rowsN (by omega) ?_ | refine WCall.pure (c_ready l cs wr off) ?_ | refine WCall.pure (AW) ?_ | with_reducible refine WB.dec (fun h => ?_) (fun h => ?_) | with_reducible refine WB.ndec (fun h => ?_) (fun h => ?_) | refine WB.mk (fun h => ?_) (fun h => ?_)) <;> conv => whnf)
  · exact Fin.b rfl rfl
  have h1 : readyB l cs wr off = true := by
    have : (!readyB l cs wr off) = false := by assumption
    simpa using this
  obtain ⟨h1, hF⟩ := ready_spec h1
  obtain ⟨f1, f2, f3, f4⟩ := fault0 hF
  obtain ⟨g1, g2, g3⟩ := parted_spec f1 ha.1 hb.1
  have hu := thin_unk h1 hF
  have cR := c_Row l cs wr off (by omega) (by omega)
  have cP := c_parted l cs wr off a b f1 (by omega) ha hb
  have cT := c_Truths l cs wr off f2 f4 (by omega)
  have cK := c_Look l cs wr off (by omega)
  generalize pA l.length a b = A at *
  generalize pB l.length a b = B at *
  clear h1
  have tl := truR_len l cs wr off f2
  have e2 := rows_length tD (truR l cs wr off)
  have hsE : sureE l cs wr off = if truR l cs wr off = [] then 11 else 0 := by unfold sureE; rw [if_pos hF]
  unfold lkP1 lkP2 at cK
  by_cases hT : truR l cs wr off = []
  · rw [if_pos hT] at hsE
    rw [hsE, if_neg (by omega), if_neg (by omega)] at cK
    have hl0 : (rows tD (truR l cs wr off)).length = 0 := by rw [e2, hT]; rfl
    repeat' first | ((first | with_reducible apply WB.tt | with_reducible apply WB.ff | refine Rn.seq ?_ | refine Rn.reg ?_ | refine Rn.drw ?_ | refine Rn.blk ?_ | refine Rn.skip ?_ | refine Rn.ret ?_ | refine Rn.exit ?_ | refine Rn.cond rfl ?_ | refine And.intro (InR.i64 (by omega) (by omega)) ?_ | refine And.intro (show _ ≠ (0 : Int) by omega) ?_ | refine WIx.intsN (by omega) ?_ | refine WIx.rowsN (by omega) ?_ | refine WCall.pure (cR) ?_ | refine WCall.pure (cK) ?_ | refine WCall.pure (cT) ?_ | refine WCall.pure (AW) ?_ | with_reducible refine WB.decT (by first | with_reducible rfl | assumption | omega | exact ⟨rfl, rfl⟩) ?_ | with_reducible refine WB.decF (by first | assumption | omega) ?_ | with_reducible refine WB.ndT (by first | with_reducible rfl | assumption | omega | exact ⟨rfl, rfl⟩) ?_ | with_reducible refine WB.ndF (by first | assumption | omega) ?_ | with_reducible refine WB.nt ?_ | with_reducible refine WB.nf ?_ | with_reducible refine WB.dec (fun h => ?_) (fun h => ?_) | with_reducible refine WB.ndec (fun h => ?_) (fun h => ?_) | refine WB.mk (fun h => ?_) (fun h => ?_)) <;> conv => whnf)
    all_goals first | exact Fin.b rfl rfl | skip
  · rw [if_neg hT] at hsE
    rw [hsE, if_pos rfl, if_pos rfl] at cK
    obtain ⟨k0, hk0, hkS, _, _⟩ := lookS_spec (truR l cs wr off) (by omega) l.length f1
    rw [hkS] at cK
    have hbl : ∀ x ∈ truR l cs wr off, x.length = l.length := fun x hx => (truR_mem x hx).1
    have cI : PureF Try.prog p61.ix [.i .i64 (k0 : Int), .i .i64 0, .i .i64 (((ints l).length : Int) - 1)] (.b true) := by
      have := c_In (k0 : Int) 0 (((ints l).length : Int) - 1)
      rwa [show inB (k0 : Int) 0 (((ints l).length : Int) - 1) = true by unfold inB; rw [decide_eq_true_iff]; omega] at this
    have cA := c_Seen (truR l cs wr off) k0 0 (by omega) (fun x hx => by rw [hbl x hx]; exact hk0)
    have cB := c_Seen (truR l cs wr off) k0 1 (by omega) (fun x hx => by rw [hbl x hx]; exact hk0)
    have ea := rows_length tD (seenR (truR l cs wr off) k0 0)
    have eb := rows_length tD (seenR (truR l cs wr off) k0 1)
    have hv : max ((rows tD (seenR (truR l cs wr off) k0 0)).length : Int) ((rows tD (seenR (truR l cs wr off) k0 1)).length : Int) = lfV (truR l cs wr off) k0 := by rw [ea, eb]; rfl
    have L := tru_lks (f := A) (t := B) hF g1 g2 g3
    have cC := c_Chairs0 l cs wr off A B hF g1 g2 g3 hT
    have cN := c_Looks l cs wr off A B (fun _ => hu)
    have hS0 : startE l cs wr off A B = 0 := by rw [startE_in hF g1 g2 g3, if_neg hT]
    unfold looksN at cN
    rw [hS0, if_pos rfl] at cN
    have hz := lk_zero (f := A) (t := B) (n := l.length) hT
    have hnn := lk_nn (f := A) (t := B) (n := l.length) (R := truR l cs wr off)
    have hnn2 := lk_100 (f := A) (t := B) (n := l.length) hT
    obtain ⟨kk, hkk⟩ : ∃ kk : Nat, at'.tmod ((ints l).length : Int) = (kk : Int) := ⟨(at'.tmod ((ints l).length : Int)).toNat, by
      have := Int.tmod_nonneg ((ints l).length : Int) hat.1
      omega⟩
    have hkn : kk < l.length := by
      have := Int.tmod_lt_of_pos at' (show (0 : Int) < ((ints l).length : Int) by omega)
      omega
    have hme := mstL_end hT L hkn
    have hmono : ∀ v : Int, seenR (truR l cs wr off) kk v ≠ [] → lkN A B l.length (seenR (truR l cs wr off) kk v) ≤ lkN A B l.length (truR l cs wr off) := fun v hs => lk_sub hs L fun x hx => (mem_seen.1 hx).1
    have hset := fun (v : Int) (hv : v = 0 ∨ v = 1) (hs : seenR (truR l cs wr off) kk v ≠ []) => lk_set (f := A) (t := B) hF hkn hv g1 g2 g3 hs
    unfold knB at hz
    obtain ⟨N, hN⟩ : ∃ N, N = lkN A B l.length (truR l cs wr off) := ⟨_, rfl⟩
    rw [← hN] at cN hz hnn hnn2 hme hmono
    obtain ⟨lo, hlo⟩ : ∃ x, x = loR A B (truR l cs wr off) := ⟨_, rfl⟩
    obtain ⟨hi, hhi⟩ : ∃ x, x = hiR A B (truR l cs wr off) := ⟨_, rfl⟩
    rw [← hlo, ← hhi] at cC hz
    have hiff : (!(decide (lo = hi) == decide (N = 0))) = false := by
      by_cases h0 : N = 0
      · rw [hz.1 h0, decide_eq_true h0]; rfl
      · have : decide (lo = hi) = false := by
          cases hd : decide (lo = hi) with
          | false => rfl
          | true => exact absurd (hz.2 hd) h0
        rw [this, decide_eq_false h0]; rfl
    repeat' first | ((first | with_reducible apply WB.tt | with_reducible apply WB.ff | refine Rn.seq ?_ | refine Rn.reg ?_ | refine Rn.drw ?_ | refine Rn.blk ?_ | refine Rn.skip ?_ | refine Rn.ret ?_ | refine Rn.exit ?_ | refine Rn.cond rfl ?_ | refine And.intro (InR.i64 (by omega) (by omega)) ?_ | refine And.intro (show _ ≠ (0 : Int) by omega) ?_ | refine WIx.intsN (by omega) ?_ | refine WIx.rowsN (by omega) ?_ | refine WCall.pure (cR) ?_ | refine WCall.pure (cK) ?_ | refine WCall.pure (cT) ?_ | refine WCall.pure (cI) ?_ | refine WCall.pure (cA) ?_ | refine WCall.pure (cB) ?_ | refine WCall.pure (cP) ?_ | refine WCall.pure (cC) ?_ | refine WCall.pure (cN) ?_ | with_reducible refine WB.decT (by first | with_reducible rfl | assumption | omega | exact ⟨rfl, rfl⟩) ?_ | with_reducible refine WB.decF (by first | assumption | omega) ?_ | with_reducible refine WB.ndT (by first | with_reducible rfl | assumption | omega | exact ⟨rfl, rfl⟩) ?_ | with_reducible refine WB.ndF (by first | assumption | omega) ?_ | with_reducible refine WB.nt ?_ | with_reducible refine WB.nf ?_) <;> conv => whnf)
    refine WB.fF hiff ?_; conv => whnf
    repeat' first | ((first | with_reducible apply WB.tt | with_reducible apply WB.ff | refine Rn.seq ?_ | refine Rn.reg ?_ | refine Rn.drw ?_ | refine Rn.blk ?_ | refine Rn.skip ?_ | refine Rn.ret ?_ | refine Rn.exit ?_ | refine Rn.cond rfl ?_ | refine And.intro (InR.i64 (by omega) (by omega)) ?_ | refine And.intro (show _ ≠ (0 : Int) by omega) ?_ | refine WIx.intsN (by omega) ?_ | refine WIx.rowsN (by omega) ?_ | refine WCall.pure (cR) ?_ | with_reducible refine WB.decT (by first | with_reducible rfl | assumption | omega | exact ⟨rfl, rfl⟩) ?_ | with_reducible refine WB.decF (by first | assumption | omega) ?_ | with_reducible refine WB.ndT (by first | with_reducible rfl | assumption | omega | exact ⟨rfl, rfl⟩) ?_ | with_reducible refine WB.ndF (by first | assumption | omega) ?_ | with_reducible refine WB.nt ?_ | with_reducible refine WB.nf ?_) <;> conv => whnf)
    refine Rn.loop (fun j : Nat => ⟨(.n (.n (.n .e none (.n (.n .e (some (.i .i64 (kk : Int))) .e) none .e)) none (.n (.n (.n .e (some (.i .i64 N)) .e) none .e) none (.n (.n .e (some (.i .i64 (j : Int))) .e) (some (.i .i64 A)) .e))) none (.n (.n .e (some (.pt .h 0 0)) (.n (.n .e (some (.i .i64 (mstL (truR l cs wr off) kk A B l.length j))) .e) (some (.lst 1 (rows tD (truR l cs wr off)))) .e)) none (.n .e none (.n .e (some (.i .i64 B)) .e)))), (.n .e (some (rowC l cs wr off)) .e), .i .h, none⟩) (fun j => j ≤ 2) (fun j => 2 - j) 0 ?_ ?_ ?_
    · refine X.le.mk ?_ ?_ (Nat.le_refl _) rfl rfl
      · show T.le ((.n (.n (.n .e none (.n (.n .e (some (.i .i64 (kk : Int))) .e) none .e)) none (.n (.n (.n .e (some (.i .i64 N)) .e) none .e) none (.n (.n .e (some (.i .i64 0)) .e) (some (.i .i64 A)) .e))) none (.n (.n .e (some (.pt .h 0 0)) (.n (.n .e (some (.i .i64 (-1))) .e) (some (.lst 1 (rows tD (truR l cs wr off)))) .e)) none (.n .e none (.n .e (some (.i .i64 B)) .e)))) : T D) _
        rw [← hkk]
        (repeat' first | exact T.le_e _ | refine T.le_some ?_ rfl ?_ | refine T.le_none ?_ ?_)
      · (repeat' first | exact T.le_e _ | refine T.le_some ?_ rfl ?_ | refine T.le_none ?_ ?_ | refine T.le_ee ?_ ?_)
    · exact Nat.zero_le _
    intro j hj
    have hj : j ≤ 2 := hj
    have hmb := mstL_bd (R := truR l cs wr off) (kk := kk) (f := A) (t := B) (n := l.length) j
    have hst : ∀ (v : Int) (sl : T D) (ob : T C) (nx : Pos), v = mstL (truR l cs wr off) kk A B l.length (j + 1) → T.le ((.n (.n (.n .e none (.n (.n .e (some (.i .i64 (kk : Int))) .e) none .e)) none (.n (.n (.n .e (some (.i .i64 N)) .e) none .e) none (.n (.n .e (some (.i .i64 ((j + 1 : Nat) : Int))) .e) (some (.i .i64 A)) .e))) none (.n (.n .e (some (.pt .h 0 0)) (.n (.n .e (some (.i .i64 v)) .e) (some (.lst 1 (rows tD (truR l cs wr off)))) .e)) none (.n .e none (.n .e (some (.i .i64 B)) .e)))) : T D) sl → T.le ((.n .e (some (rowC l cs wr off)) .e) : T C) ob → Shr ⟨sl, ob, nx, none⟩ ⟨(.n (.n (.n .e none (.n (.n .e (some (.i .i64 (kk : Int))) .e) none .e)) none (.n (.n (.n .e (some (.i .i64 N)) .e) none .e) none (.n (.n .e (some (.i .i64 ((j + 1 : Nat) : Int))) .e) (some (.i .i64 A)) .e))) none (.n (.n .e (some (.pt .h 0 0)) (.n (.n .e (some (.i .i64 (mstL (truR l cs wr off) kk A B l.length (j + 1)))) .e) (some (.lst 1 (rows tD (truR l cs wr off)))) .e)) none (.n .e none (.n .e (some (.i .i64 B)) .e)))), (.n .e (some (rowC l cs wr off)) .e), .i .h, none⟩ := fun v sl ob nx hv hs ho => by
      subst hv
      refine Shr.kp2 hs ?_ ho ?_
      · show TAll (fun _ d => Kp 3 d) _
        repeat' first | exact TAll.e | refine TAll.some ?_ ?_ ?_ | refine TAll.none ?_ ?_
        all_goals simp [Kp, Pu, pu_tR, Pos.nat]
      · show TAll (fun id c => id.nat < 3 ∧ KpC 3 c) _
        exact TAll.some TAll.e ⟨by simp [Pos.nat], rowC_kp l cs wr off _⟩ TAll.e
    conv => whnf
    repeat' first | ((first | with_reducible apply WB.tt | with_reducible apply WB.ff | refine Rn.seq ?_ | refine Rn.reg ?_ | refine Rn.drw ?_ | refine Rn.blk ?_ | refine Rn.skip ?_ | refine Rn.ret ?_ | refine Rn.exit ?_ | refine Rn.cond rfl ?_ | refine And.intro (InR.i64 (by omega) (by omega)) ?_ | refine And.intro (show _ ≠ (0 : Int) by omega) ?_ | refine WIx.intsN (by omega) ?_ | refine WIx.rowsN (by omega) ?_) <;> conv => whnf)
    refine WB.dec (fun h => ?_) (fun h => ?_) <;> conv => whnf
    · have hj2 : j < 2 := by omega
      have hv01 : (j : Int) = 0 ∨ (j : Int) = 1 := by omega
      have cS := c_Seen (truR l cs wr off) kk (j : Int) (by omega) (fun x hx => by rw [hbl x hx]; exact hkn)
      have es := rows_length tD (seenR (truR l cs wr off) kk (j : Int))
      have hs : mstL (truR l cs wr off) kk A B l.length (j + 1) = bif (seenR (truR l cs wr off) kk (j : Int)).isEmpty then mstL (truR l cs wr off) kk A B l.length j else max (mstL (truR l cs wr off) kk A B l.length j) (lkN A B l.length (seenR (truR l cs wr off) kk (j : Int))) := rfl
      by_cases he : seenR (truR l cs wr off) kk (j : Int) = []
      · have he0 : (seenR (truR l cs wr off) kk (j : Int)).length = 0 := by rw [he]; rfl
        rw [he, List.isEmpty_nil, cond_true] at hs
        repeat' first | ((first | with_reducible apply WB.tt | with_reducible apply WB.ff | refine Rn.seq ?_ | refine Rn.reg ?_ | refine Rn.drw ?_ | refine Rn.blk ?_ | refine Rn.skip ?_ | refine Rn.ret ?_ | refine Rn.exit ?_ | refine Rn.cond rfl ?_ | refine And.intro (InR.i64 (by omega) (by omega)) ?_ | refine And.intro (show _ ≠ (0 : Int) by omega) ?_ | refine WIx.intsN (by omega) ?_ | refine WIx.rowsN (by omega) ?_ | refine WCall.pure (cS) ?_ | with_reducible refine WB.decT (by first | with_reducible rfl | assumption | omega | exact ⟨rfl, rfl⟩) ?_ | with_reducible refine WB.decF (by first | assumption | omega) ?_ | with_reducible refine WB.ndT (by first | with_reducible rfl | assumption | omega | exact ⟨rfl, rfl⟩) ?_ | with_reducible refine WB.ndF (by first | assumption | omega) ?_ | with_reducible refine WB.nt ?_ | with_reducible refine WB.nf ?_ | with_reducible refine WB.dec (fun h => ?_) (fun h => ?_) | with_reducible refine WB.ndec (fun h => ?_) (fun h => ?_) | refine WB.mk (fun h => ?_) (fun h => ?_)) <;> conv => whnf)
        refine Again.to (j + 1) (by omega) (by omega) (Nat.le_refl _) (hst _ _ _ _ hs.symm ?_ ?_)
        · (repeat' first | exact T.le_e _ | refine T.le_some ?_ rfl ?_ | refine T.le_none ?_ ?_)
        · (repeat' first | exact T.le_e _ | refine T.le_some ?_ rfl ?_ | refine T.le_none ?_ ?_ | refine T.le_ee ?_ ?_)
      · have hep := List.length_pos_iff.2 he
        rw [show (seenR (truR l cs wr off) kk (j : Int)).isEmpty = false by cases hq : seenR (truR l cs wr off) kk (j : Int) with | nil => exact absurd hq he | cons a b => rfl, cond_false] at hs
        obtain ⟨hn1, hn2⟩ := hset (j : Int) hv01 he
        have hmo := hmono (j : Int) he
        have hF' := fault_set (k := kk) (v := (j : Int)) hF hv01
        have hle : (l.set kk (j : Int)).length = l.length := List.length_set
        have cX := c_looked l cs wr off kk (j : Int) hkn (by omega)
        have cR' := c_Row (l.set kk (j : Int)) cs wr off (by omega) (by omega)
        have cN' := c_Looks (l.set kk (j : Int)) cs wr off A B (fun _ => Nat.le_trans (unk_set hv01) hu)
        have hS' : startE (l.set kk (j : Int)) cs wr off A B = 0 := by rw [startE_in hF' g1 g2 (by rw [hle]; exact g3), if_neg hn1]
        unfold looksN at cN'
        rw [hS', if_pos rfl, hn2] at cN'
        obtain ⟨mm, hmm⟩ : ∃ mm, mm = lkN A B l.length (seenR (truR l cs wr off) kk (j : Int)) := ⟨_, rfl⟩
        rw [← hmm] at cN' hs hmo
        repeat' first | ((first | with_reducible apply WB.tt | with_reducible apply WB.ff | refine Rn.seq ?_ | refine Rn.reg ?_ | refine Rn.drw ?_ | refine Rn.blk ?_ | refine Rn.skip ?_ | refine Rn.ret ?_ | refine Rn.exit ?_ | refine Rn.cond rfl ?_ | refine And.intro (InR.i64 (by omega) (by omega)) ?_ | refine And.intro (show _ ≠ (0 : Int) by omega) ?_ | refine WIx.intsN (by omega) ?_ | refine WIx.rowsN (by omega) ?_ | refine WCall.pure (cS) ?_ | refine WCall.pure (cX) ?_ | refine WCall.pure (cR') ?_ | refine WCall.pure (cN') ?_ | with_reducible refine WB.decT (by first | with_reducible rfl | assumption | omega | exact ⟨rfl, rfl⟩) ?_ | with_reducible refine WB.decF (by first | assumption | omega) ?_ | with_reducible refine WB.ndT (by first | with_reducible rfl | assumption | omega | exact ⟨rfl, rfl⟩) ?_ | with_reducible refine WB.ndF (by first | assumption | omega) ?_ | with_reducible refine WB.nt ?_ | with_reducible refine WB.nf ?_ | with_reducible refine WB.dec (fun h => ?_) (fun h => ?_) | with_reducible refine WB.ndec (fun h => ?_) (fun h => ?_) | refine WB.mk (fun h => ?_) (fun h => ?_)) <;> conv => whnf)
        refine Again.to (j + 1) (by omega) (by omega) (Nat.le_refl _) (hst _ _ _ _ hs.symm ?_ ?_)
        · (repeat' first | exact T.le_e _ | refine T.le_some ?_ rfl ?_ | refine T.le_none ?_ ?_)
        · (repeat' first | exact T.le_e _ | refine T.le_some ?_ rfl ?_ | refine T.le_none ?_ ?_ | refine T.le_ee ?_ ?_)
    · have hj2 : j = 2 := by omega
      subst hj2
      repeat' first | ((first | with_reducible apply WB.tt | with_reducible apply WB.ff | refine Rn.seq ?_ | refine Rn.reg ?_ | refine Rn.drw ?_ | refine Rn.blk ?_ | refine Rn.skip ?_ | refine Rn.ret ?_ | refine Rn.exit ?_ | refine Rn.cond rfl ?_ | refine And.intro (InR.i64 (by omega) (by omega)) ?_ | refine And.intro (show _ ≠ (0 : Int) by omega) ?_ | refine WIx.intsN (by omega) ?_ | refine WIx.rowsN (by omega) ?_ | refine WCall.pure (AW) ?_ | with_reducible refine WB.decT (by first | with_reducible rfl | assumption | omega | exact ⟨rfl, rfl⟩) ?_ | with_reducible refine WB.decF (by first | assumption | omega) ?_ | with_reducible refine WB.ndT (by first | with_reducible rfl | assumption | omega | exact ⟨rfl, rfl⟩) ?_ | with_reducible refine WB.ndF (by first | assumption | omega) ?_ | with_reducible refine WB.nt ?_ | with_reducible refine WB.nf ?_ | with_reducible refine WB.dec (fun h => ?_) (fun h => ?_) | with_reducible refine WB.ndec (fun h => ?_) (fun h => ?_) | refine WB.mk (fun h => ?_) (fun h => ?_)) <;> conv => whnf)
      exact Fin.b rfl rfl
theorem main_countLooked (AW : PureF Try.prog p20.ix [] (.b true)) {es : List D} (fit : FitP [(true, [.sl [.i .i64], .sl [.b, .i .i64, .i .i64], .i .i64, .i .i64]), (false, [.i .u8]), (false, [.i .u8]), (false, [.i .u8])] es) : PureF Try.prog 16 es (.b true) := by
  obtain ⟨l, cs, wr, off, _, rfl, g1⟩ := fit.row
  obtain ⟨a, _, rfl, ha, g2⟩ := g1.i
  obtain ⟨b, _, rfl, hb, g3⟩ := g2.i
  obtain ⟨c, _, rfl, hc, g4⟩ := g3.i
  obtain rfl := g4.no
  exact c_CountLooked l cs wr off a b c (wf_u8 ha) (wf_u8 hb) (wf_u8 hc) AW
end Go.Ev
namespace Go.Proofs.Ytmlpgfmbhpefmaa.countLooked
open Go.ChangeShapes Go.WideShapes Go.ChangeAt Go.RowKit
open Go.ChangeMaps (open_string shut_string)
set_option linter.unusedVariables false

theorem laid : laidOutB Try.prog = true := by kernel_rfl
theorem own : ownKnob Try.prog.godebug = none := by kernel_rfl

/-! ### the walk -/
theorem walk {es : List Go.Ev.D} (fit : Go.Ev.FitP [(true, [.sl [.i .i64], .sl [.b, .i .i64, .i .i64], .i .i64, .i .i64]), (false, [.i .u8]), (false, [.i .u8]), (false, [.i .u8])] es) {args : Array Value} {W : World} (ha : Go.Ev.DVL (Go.Ev.γH W) W es args.toList) :
    Calls Try.prog 16 args W fun e w' => e = .returned (.bool true) ∧ Grown W w' ∧ Below W.heap.size W w' :=
  Go.Ev.PureF.calls (Go.Ev.main_countLooked (fun ob nx lg => Go.Ev.awT.any ob nx lg) fit) ha

set_option maxRecDepth 100000 in
theorem lifted (os : Os) (started : os.Started) (H : Type) (enc : TypeId × Value → H) :
    ReturnsInHanded {} Try.checked os 16 .any (Rows.countLookedSpec.pre6 enc Try.prog Try.f16 Rows.countLookedRow.domain false) (Rows.countLookedSpec.post enc Try.prog Try.f16 false true false false) := by
  refine returnsInHanded_of_change (C := Try.checked) own started (by kernel_rfl) Try.func16
    (ChangeSpec.witness6 (enc := enc) (C := Try.checked) false ⟨#[], #[.agg #[.slice none 0 0, .slice none 0 0, .int .i64 0, .int .i64 0], .int .u8 0, .int .u8 0, .int .u8 0], []⟩ 8 (by kernel_rfl) (by kernel_rfl) (by kernel_rfl) (by kernel_rfl)) ?_
  intro W base args ds gs before hval0 hW hcnd _
  have hval : ∀ (j : Nat) t v, Try.f16.params[j]? = some t → args[j]? = some v → Value.okWide Try.prog W .any base t v := hval0
  have hW' := hW
  obtain ⟨p, q, hA0, hV, rfl, hfz, hnd⟩ := hW
  have hA : DataW.TrodAll enc Try.prog W 0 (fun _ => true) true Try.f16.params.toList args.toList ds p := hA0
  rw [Try.params16] at hA hval
  obtain ⟨rfl, rfl⟩ := trodVars_none hV
  obtain ⟨d0, d1, d2, d3, rfl⟩ := Go.Ev.len4 (Go.Ev.trod_len hA)
  clear hA0 hval0
  simp only [List.append_nil] at hW'
  obtain ⟨es, fit, dv⟩ := Go.Ev.open_all (n := 6) (pars := [(true, [.sl [.i .i64], .sl [.b, .i .i64, .i .i64], .i .i64, .i .i64]), (false, [.i .u8]), (false, [.i .u8]), (false, [.i .u8])]) (by kernel_rfl) hA (fun j t v h1 h2 => hval j t v (by simpa using h1) (by simpa using h2))
  have hlt : ∀ x ∈ p, x.block < W.heap.size := fun x hx => by simpa using hW'.lt x hx
  refine (walk fit dv).mono fun e W' ⟨he, hg, hb⟩ => ?_
  subst he
  exact ⟨_, rfl, post_of_same (pa := p) (pv := []) hW' (fun _ _ _ => (trodAll_cons_mk (shut_bool Try.underlying4 _) trodAll_mk0))
    (fun sp hs => Go.Ev.stays_all laid (Go.Ev.of_allT (by kernel_rfl)) hA (fun x hx => hb.same (hlt x hx)) (fun x hx => hs x hx))
    (fun _ _ => rfl) (List.append_nil _).symm
    (hg.frame _) hg.2.1 (ok_one (by kernel_rfl) rfl (okWide_bool_mk Try.underlying4 _))⟩

theorem over : Rows.countLookedRow.holds Try.pinned (OpenSpec.ofChange Rows.countLookedSpec) :=
  OpenClaim.holds_of_wide 16 Try.f16 rfl rfl rfl rfl rfl rfl rfl ⟨rfl, rfl, rfl, rfl, rfl⟩ rfl rfl rfl rfl rfl (by kernel_rfl) Try.func16 (by kernel_rfl)
    (of_decide_eq_true (by kernel_rfl)) (by unfold Func.isWrapper; first | (rw [if_pos (by decide +kernel)]; kernel_rfl) | (rw [if_neg (by decide +kernel)]; exact ⟨rfl, rfl⟩))
    (fun os started H enc _ => lifted os started H enc)

/-- ████ THE STATEMENT ████ -/
theorem proved : Rows.CountLookedSaid :=
  over
#print axioms proved
end Go.Proofs.Ytmlpgfmbhpefmaa.countLooked
