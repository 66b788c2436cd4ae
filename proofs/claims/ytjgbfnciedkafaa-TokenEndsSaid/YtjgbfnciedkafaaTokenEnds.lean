/-
  TokenEnds: both ends of the bounds of the money and of the mixed returns are those of some truth.
-/
import Derived.Test.YtjgbfnciedkafaaEvUHc
import Derived.Test.YtjgbfnciedkafaaRows
import Derived.WalkKit
import Derived.ProofKit
import Derived.OpenShut
import Derived.Test.YtjgbfnciedkafaaEvUOc
import Derived.Test.YtjgbfnciedkafaaEvUS3T
import Derived.ShutString
import Derived.Test.YtjgbfnciedkafaaFaTokenEnds
set_option linter.all false
namespace Go.Ev
open Go.Proofs
set_option maxRecDepth 1000000
noncomputable def rc10 : RC := (.seq (.reg [(.u (.box p3 (.t p1))), (.u (.mv p5 (.k (.b false))))]) (.seq (.seq (.reg [(.u (.ldn p18 (.t p3) 5)), (.u (.cf (some p19) p55 [(.t p18)])), (.u (.un p20 .not (.t p19)))]) (.cond (.t p20) (.seq (.reg [(.u (.cf (some p21) p22 [])), (.u (.mv p5 (.t p21)))]) .ret) .skip)) (.seq (.reg [(.u (.mv p22 (.t p2))), (.u (.cvi p23 .i64 (.t p22))), (.u (.fad p24 (.t p3) 3)), (.u (.ld1 p25 (.t p24))), (.u (.len p26 (.t p25))), (.u (.bin p27 .add (.t p26) (.k (.i .i64 1)))), (.u (.bin p28 .rem (.t p23) (.t p27))), (.u (.mv p6 (.t p28)))]) (.seq (.reg [(.u (.ldn p30 (.t p3) 5)), (.u (.cf (some p31) p24 [(.t p30)])), (.u (.mv p32 (.t p6))), (.u (.cf (some p33) p39 [(.t p31), (.t p32)])), (.u (.mv p29 (.t p33))), (.u (.ext p34 (.t p29) 0)), (.u (.ext p35 (.t p29) 1)), (.u (.new p7 [(.i .i64 0), (.i .i64 0)])), (.u (.st (.t p7) (.t p34) 2)), (.u (.mv p8 (.t p35)))]) (.seq (.reg [(.u (.ldn p37 (.t p3) 5)), (.u (.cf (some p38) p24 [(.t p37)])), (.u (.cf (some p39) p40 [(.t p38)])), (.u (.mv p36 (.t p39))), (.u (.ext p40 (.t p36) 0)), (.u (.ext p41 (.t p36) 1)), (.u (.new p9 [(.i .i64 0), (.i .i64 0)])), (.u (.st (.t p9) (.t p40) 2)), (.u (.mv p10 (.t p41)))]) (.seq (.reg [(.u (.ldn p42 (.t p3) 5)), (.u (.cf (some p43) p61 [(.t p42)])), (.u (.mv p11 (.t p43)))]) (.seq (.seq (.reg [(.u (.mv p44 (.t p8))), (.u (.bin p45 .neq (.t p44) (.k (.i .i64 0))))]) (.cond (.t p45) (.seq (.reg [(.u (.mv p46 (.t p8))), (.u (.bin p47 .eql (.t p46) (.k (.i .i64 11)))), (.u (.mv p48 (.t p47))), (.g p48 true (some p49) (.mv p49 (.t p10))), (.g p48 true (some p50) (.mv p50 (.t p8))), (.g p48 true (some p51) (.bin p51 .eql (.t p49) (.t p50))), (.u (.pick p52 (.t p48) (.t p51) (.k (.b false)))), (.u (.mv p53 (.t p52))), (.g p53 true (some p54) (.mv p54 (.t p11))), (.g p53 true (some p55) (.len p55 (.t p54))), (.g p53 true (some p56) (.bin p56 .eql (.t p55) (.k (.i .i64 0)))), (.u (.pick p57 (.t p53) (.t p56) (.k (.b false)))), (.u (.mv p58 (.t p57))), (.g p58 true (some p59) (.cf (some p59) p22 [])), (.u (.pick p60 (.t p58) (.t p59) (.k (.b false)))), (.u (.mv p5 (.t p60)))]) .ret) .skip)) (.seq (.reg [(.u (.mv p12 (.k (.i .i64 0))))]) (.seq (.seq (.reg [(.u (.mv p13 (.k (.i .i64 0))))]) (.blk 0 (.loop (.seq (.seq (.reg [(.u (.mv p61 (.t p13))), (.u (.mv p62 (.t p11))), (.u (.len p63 (.t p62))), (.u (.bin p64 .lss (.t p61) (.t p63)))]) (.cond (.t p64) .skip (.exit 0))) (.seq (.blk 1 (.seq (.drw [(.u (.ldn p67 (.t p3) 5)), (.u (.mv p68 (.t p11))), (.u (.mv p69 (.t p13))), (.u (.ixs p70 1 (.t p68) (.t p69))), (.u (.ld1 p71 (.t p70))), (.u (.mv p72 (.t p6))), (.u (.cf (some p73) p33 [(.t p67), (.t p71), (.t p72)])), (.u (.mv p74 (.t p11))), (.u (.mv p75 (.t p13))), (.u (.ixs p76 1 (.t p74) (.t p75))), (.u (.ld1 p77 (.t p76))), (.u (.cf (some p78) p32 [(.t p77)])), (.u (.mv p14 (.t p73))), (.u (.mv p15 (.t p78)))] [0, 0, 0, 6, 14, 0, 63, 0, 0, 384, 896, 2047, 4095, 8191]) (.seq (.reg [(.u (.mv p79 (.t p14))), (.u (.fad p80 (.t p7) 0)), (.u (.ld1 p81 (.t p80))), (.u (.bin p82 .eql (.t p79) (.t p81))), (.u (.mv p83 (.t p14))), (.u (.fad p84 (.t p7) 1)), (.u (.ld1 p85 (.t p84))), (.u (.bin p86 .eql (.t p83) (.t p85))), (.u (.mv p87 (.t p15))), (.u (.fad p88 (.t p9) 0)), (.u (.ld1 p89 (.t p88))), (.u (.bin p90 .eql (.t p87) (.t p89))), (.u (.mv p91 (.t p15))), (.u (.fad p92 (.t p9) 1)), (.u (.ld1 p93 (.t p92))), (.u (.bin p94 .eql (.t p91) (.t p93))), (.u (.bld p95 [(.b false), (.b false), (.b false), (.b false)] [(0, (1, (.t p82))), (1, (1, (.t p86))), (2, (1, (.t p90))), (3, (1, (.t p94)))])), (.u (.new p16 [(.b false), (.b false), (.b false), (.b false)])), (.u (.st (.t p16) (.t p95) 4))]) (.seq (.reg [(.u (.mv p17 (.k (.i .i64 0))))]) (.blk 2 (.loop (.seq (.seq (.reg [(.u (.mv p96 (.t p17))), (.u (.bin p97 .lss (.t p96) (.k (.i .i64 4))))]) (.cond (.t p97) .skip (.exit 2))) (.seq (.blk 3 (.seq (.reg [(.u (.mv p100 (.t p17))), (.u (.ixa p101 4 1 (.t p16) (.t p100))), (.u (.ld1 p102 (.t p101)))]) (.cond (.t p102) (.reg [(.u (.mv p103 (.t p12))), (.u (.mv p104 (.t p17))), (.u (.cvi p105 .u64 (.t p104))), (.u (.bin p106 .shl (.k (.i .i64 1)) (.t p105))), (.u (.bin p107 .or (.t p103) (.t p106))), (.u (.mv p12 (.t p107)))]) .skip))) (.reg [(.u (.mv p98 (.t p17))), (.u (.bin p99 .add (.t p98) (.k (.i .i64 1)))), (.u (.mv p17 (.t p99)))]))))))))) (.reg [(.u (.mv p65 (.t p13))), (.u (.bin p66 .add (.t p65) (.k (.i .i64 1)))), (.u (.mv p13 (.t p66)))])))))) (.seq (.reg [(.u (.mv p108 (.t p10))), (.u (.bin p109 .eql (.t p108) (.k (.i .i64 0)))), (.u (.mv p110 (.t p109))), (.g p110 true (some p111) (.mv p111 (.t p12))), (.g p110 true (some p112) (.bin p112 .eql (.t p111) (.k (.i .i64 15)))), (.u (.pick p113 (.t p110) (.t p112) (.k (.b false)))), (.u (.mv p114 (.t p113))), (.g p114 true (some p115) (.cf (some p115) p22 [])), (.u (.pick p116 (.t p114) (.t p115) (.k (.b false)))), (.u (.mv p5 (.t p116)))]) .ret))))))))))
def rs10 : List RR := [(.t p5)]
theorem fn10 : FnOk Try.prog p11.ix 116 rc10 rs10 := ⟨Try.f10, bodyC Try.f10, Try.func10, by kernel_rfl, by kernel_rfl, by kernel_rfl, by kernel_rfl, by kernel_rfl⟩

end Go.Ev

namespace Go.Ev
open Go.Proofs
set_option maxRecDepth 100000
/-! ### TokenEnds -/
def cE (box coin : Int) (k : Nat) (r1 r2 q1 q2 : Int) : Nat → List Ln → Bool
  | 0, t => decide (monR box coin t k = r1)
  | 1, t => decide (monR box coin t k = r2)
  | 2, t => decide (mixR t t.length = q1)
  | _, t => decide (mixR t t.length = q2)
theorem any_takeL {L : List (List Ln)} {i : Nat} (h : i < L.length) (p : List Ln → Bool) : (L.take (i + 1)).any p = ((L.take i).any p || p (L.getD i default)) := by
  rw [take_succ_getD (d := default) h, List.any_append]
  simp
def c4 (c0 c1 c2 c3 : Bool) : Nat → Bool
  | 0 => c0
  | 1 => c1
  | 2 => c2
  | _ => c3
noncomputable def enS (n coin box : Int) (ls : List Ln) (cs : List Ct) (k : Nat) (r1 r2 q1 q2 : Int) (L : List (List Ln)) : Nat × Nat → X
  | (i, m) => ⟨(.n (.n (.n .e none (.n .e (some (.i .i64 (m : Int))) .e)) none (.n (.n .e (some (.i .i64 0)) .e) (some (.i .i64 (k : Int))) .e)) none (.n (.n (.n .e (some (.pt (.i .h) 0 0)) .e) none (.n .e (some (.i .i64 (i : Int))) .e)) (some (.pt .h 0 0)) (.n (.n .e (some (.lst 1 (rows tlD L))) .e) (some (.pt (.o .h) 0 0)) .e))), (.n (.n .e (some (.cells false [.o (.i .i64 r1) 0, .o (.i .i64 r2) 0] 1)) .e) (some (bkC n coin box ls cs)) (.n .e (some (.cells false [.o (.i .i64 q1) 0, .o (.i .i64 q2) 0] 1)) .e)), .o (.o .h), none⟩
noncomputable def enT (n coin box : Int) (ls : List Ln) (cs : List Ct) (k : Nat) (r1 r2 q1 q2 : Int) (L : List (List Ln)) (i : Nat) (c0 c1 c2 c3 : Bool) : Nat × Nat → X
  | (j, m) => ⟨(.n (.n (.n (.n (.n .e (some (.pt (.o (.o .h)) 0 0)) .e) none .e) none (.n .e (some (.i .i64 (m : Int))) .e)) none (.n (.n .e (some (.i .i64 0)) .e) (some (.i .i64 (k : Int))) .e)) none (.n (.n (.n (.n .e (some (.i .i64 (j : Int))) .e) (some (.pt (.i .h) 0 0)) .e) none (.n .e (some (.i .i64 (i : Int))) .e)) (some (.pt .h 0 0)) (.n (.n .e (some (.lst 1 (rows tlD L))) .e) (some (.pt (.o .h) 0 0)) .e))), (.n (.n (.n .e (some (.cells false [.o (.b c0) 0, .o (.b c1) 0, .o (.b c2) 0, .o (.b c3) 0] 1)) .e) (some (.cells false [.o (.i .i64 r1) 0, .o (.i .i64 r2) 0] 1)) .e) (some (bkC n coin box ls cs)) (.n .e (some (.cells false [.o (.i .i64 q1) 0, .o (.i .i64 q2) 0] 1)) .e)), .i (.o .h), none⟩
set_option maxHeartbeats 4000000 in
theorem j_TokenEnds (n coin box : Int) (ls : List Ln) (cs : List Ct) (after : Int) (hh : 0 ≤ after ∧ after ≤ 255) (AW : PureF Try.prog p22.ix [] (.b true)) : PureF Try.prog p11.ix [.ag [.i .i64 n, .i .i64 coin, .i .i64 box, .lst 3 (rows lnD ls), .lst 3 (rows ctD cs)], .i .u8 after] (.b true) := by
  have e1 := rows_length lnD ls
  have iR := j_ready n coin box ls cs
  unfold bk5 at iR
  refine PureF.run fn10 (by simp) (by simp [PuL, PuE, Pu, pu_ints, pu_ln, pu_ct, pu_tl]) ?_; conv => whnf
  cases hR : readyB n coin box ls cs with
  | false =>
    rw [hR] at iR
    repeat' first | ((first | with_reducible apply WB.tt | with_reducible apply WB.ff | refine Rn.seq ?_ | refine Rn.reg ?_ | refine Rn.drw ?_ | refine Rn.blk ?_ | refine Rn.skip ?_ | refine Rn.ret ?_ | refine Rn.exit ?_ | refine Rn.cond rfl ?_ | refine And.intro (InR.i64 (by omega) (by omega)) ?_ | refine And.intro (show _ ≠ (0 : Int) by omega) ?_ | refine WIx.intsN (by omega) ?_ | refine WIx.rowsN (by omega) ?_ | refine WCall.pure (iR) ?_ | refine WCall.pure (AW) ?_ | with_reducible refine WB.decT (by first | with_reducible rfl | assumption | omega | exact ⟨rfl, rfl⟩) ?_ | with_reducible refine WB.decF (by first | assumption | omega) ?_ | with_reducible refine WB.ndT (by first | with_reducible rfl | assumption | omega | exact ⟨rfl, rfl⟩) ?_ | with_reducible refine WB.ndF (by first | assumption | omega) ?_ | with_reducible refine WB.nt ?_ | with_reducible refine WB.nf ?_ | with_reducible refine WB.dec (fun h => ?_) (fun h => ?_) | with_reducible refine WB.ndec (fun h => ?_) (fun h => ?_) | refine WB.mk (fun h => ?_) (fun h => ?_)) <;> conv => whnf)
    exact Fin.b rfl rfl
  | true =>
  rw [hR] at iR
  obtain ⟨l8, l4, h0⟩ := ready_of hR
  have V := VB.of h0
  have iB := j_Book n coin box ls cs (by omega) (by omega)
  have iTr := j_Truths n coin box ls cs V
  have iX := j_MixedP n coin box ls cs
  have m1 := Int.tmod_nonneg (((rows lnD ls).length : Int) + 1) hh.1
  have m2 := Int.tmod_lt_of_pos after (show (0 : Int) < ((rows lnD ls).length : Int) + 1 by omega)
  obtain ⟨k, hk2⟩ := Int.eq_ofNat_of_zero_le m1
  have hk : k ≤ ls.length := by omega
  have iM := j_MoneyP n coin box ls cs (k : Int)
  have ht : inR (k : Int) 0 (ls.length : Int) = true := inR_iff.2 (by omega)
  unfold bk5 at iTr
  unfold monT at iM
  unfold mixT at iX
  rw [ht] at iM
  repeat' first | ((first | with_reducible apply WB.tt | with_reducible apply WB.ff | refine Rn.seq ?_ | refine Rn.reg ?_ | refine Rn.drw ?_ | refine Rn.blk ?_ | refine Rn.skip ?_ | refine Rn.ret ?_ | refine Rn.exit ?_ | refine Rn.cond rfl ?_ | refine And.intro (InR.i64 (by omega) (by omega)) ?_ | refine And.intro (show _ ≠ (0 : Int) by omega) ?_ | refine WIx.intsN (by omega) ?_ | refine WIx.rowsN (by omega) ?_ | refine WCall.pure (iR) ?_ | with_reducible refine WB.decT (by first | with_reducible rfl | assumption | omega | exact ⟨rfl, rfl⟩) ?_ | with_reducible refine WB.decF (by first | assumption | omega) ?_ | with_reducible refine WB.ndT (by first | with_reducible rfl | assumption | omega | exact ⟨rfl, rfl⟩) ?_ | with_reducible refine WB.ndF (by first | assumption | omega) ?_ | with_reducible refine WB.nt ?_ | with_reducible refine WB.nf ?_ | with_reducible refine WB.dec (fun h => ?_) (fun h => ?_) | with_reducible refine WB.ndec (fun h => ?_) (fun h => ?_) | refine WB.mk (fun h => ?_) (fun h => ?_)) <;> conv => whnf)
  rw [hk2]
  cases hb : hasB (B5 n coin box ls cs) with
  | false =>
    rw [sE_false h0 hb, if_neg (by decide)] at iM iX
    rw [hasB_false V hb] at iTr
    repeat' first | ((first | with_reducible apply WB.tt | with_reducible apply WB.ff | refine Rn.seq ?_ | refine Rn.reg ?_ | refine Rn.drw ?_ | refine Rn.blk ?_ | refine Rn.skip ?_ | refine Rn.ret ?_ | refine Rn.exit ?_ | refine Rn.cond rfl ?_ | refine And.intro (InR.i64 (by omega) (by omega)) ?_ | refine And.intro (show _ ≠ (0 : Int) by omega) ?_ | refine WIx.intsN (by omega) ?_ | refine WIx.rowsN (by omega) ?_ | refine WCall.pure (iB) ?_ | refine WCall.pure (iM) ?_ | refine WCall.pure (iX) ?_ | refine WCall.pure (iTr) ?_ | refine WCall.pure (AW) ?_ | with_reducible refine WB.decT (by first | with_reducible rfl | assumption | omega | exact ⟨rfl, rfl⟩) ?_ | with_reducible refine WB.decF (by first | assumption | omega) ?_ | with_reducible refine WB.ndT (by first | with_reducible rfl | assumption | omega | exact ⟨rfl, rfl⟩) ?_ | with_reducible refine WB.ndF (by first | assumption | omega) ?_ | with_reducible refine WB.nt ?_ | with_reducible refine WB.nf ?_ | with_reducible refine WB.dec (fun h => ?_) (fun h => ?_) | with_reducible refine WB.ndec (fun h => ?_) (fun h => ?_) | refine WB.mk (fun h => ?_) (fun h => ?_)) <;> conv => whnf)
    all_goals first | exact Fin.b rfl rfl | (exfalso; omega) | exact absurd h (by decide)
  | true =>
  have hne : exT (B5 n coin box ls cs) (B5 n coin box ls cs).ls.length [] ≠ [] := ex_ne (sE_true h0 hb)
  rw [sE_true h0 hb, if_pos rfl, Int.toNat_natCast] at iM
  rw [sE_true h0 hb, if_pos rfl] at iX
  have g1 := fold_mem (ans_ne (aft := k) (ak := Mo.box) hne)
  have g2 := fold_mem (ans_ne (aft := ls.length) (ak := Mo.mix) hne)
  have k1 := mem_ans V (aft := k) (ak := Mo.box) (g := fun t => monR box coin t k) fun X => rfl
  have k2 := mem_ans V (aft := ls.length) (ak := Mo.mix) (g := fun t => mixR t ls.length) fun X => rfl
  have hlen : ∀ X ∈ refT (B5 n coin box ls cs), X.length = ls.length := fun X h => refT_len V h
  have hRl : (refT (B5 n coin box ls cs)).length ≤ 4096 := Nat.le_trans (List.length_filter_le _ _) (allN3_len V)
  unfold lohi at iM iX
  generalize hr1 : (ansL (B5 n coin box ls cs) k Mo.box).foldl min ((ansL (B5 n coin box ls cs) k Mo.box).getD 0 0) = r1 at *
  generalize hr2 : (ansL (B5 n coin box ls cs) k Mo.box).foldl max ((ansL (B5 n coin box ls cs) k Mo.box).getD 0 0) = r2 at *
  generalize hq1 : (ansL (B5 n coin box ls cs) ls.length Mo.mix).foldl min ((ansL (B5 n coin box ls cs) ls.length Mo.mix).getD 0 0) = q1 at *
  generalize hq2 : (ansL (B5 n coin box ls cs) ls.length Mo.mix).foldl max ((ansL (B5 n coin box ls cs) ls.length Mo.mix).getD 0 0) = q2 at *
  have ends : ∀ q, q < 4 → (refT (B5 n coin box ls cs)).any (cE box coin k r1 r2 q1 q2 q) = true := fun q hq => by
    rw [List.any_eq_true]
    match q, hq with
    | 0, _ =>
      obtain ⟨t, ht, e⟩ := List.mem_map.1 ((k1 _).1 g1.1)
      exact ⟨t, ht, decide_eq_true e⟩
    | 1, _ =>
      obtain ⟨t, ht, e⟩ := List.mem_map.1 ((k1 _).1 g1.2)
      exact ⟨t, ht, decide_eq_true e⟩
    | 2, _ =>
      obtain ⟨t, ht, e⟩ := List.mem_map.1 ((k2 _).1 g2.1)
      exact ⟨t, ht, decide_eq_true (by rw [hlen t ht]; exact e)⟩
    | 3, _ =>
      obtain ⟨t, ht, e⟩ := List.mem_map.1 ((k2 _).1 g2.2)
      exact ⟨t, ht, decide_eq_true (by rw [hlen t ht]; exact e)⟩
  have e2 := rows_length tlD (refT (B5 n coin box ls cs))
  have hbx := V.box
  have hcn := V.coin
  have hbx : 0 ≤ box ∧ box ≤ 999 := hbx
  have hcn : 1 ≤ coin ∧ coin ≤ 99 := hcn
  clear g1 g2 k1 k2 hr1 hr2 hq1 hq2
  generalize refT (B5 n coin box ls cs) = L at *
  repeat' first | ((first | with_reducible apply WB.tt | with_reducible apply WB.ff | refine Rn.seq ?_ | refine Rn.reg ?_ | refine Rn.drw ?_ | refine Rn.blk ?_ | refine Rn.skip ?_ | refine Rn.ret ?_ | refine Rn.exit ?_ | refine Rn.cond rfl ?_ | refine And.intro (InR.i64 (by omega) (by omega)) ?_ | refine And.intro (show _ ≠ (0 : Int) by omega) ?_ | refine WIx.intsN (by omega) ?_ | refine WIx.rowsN (by omega) ?_ | refine WCall.pure (iB) ?_ | refine WCall.pure (iM) ?_ | refine WCall.pure (iX) ?_ | refine WCall.pure (iTr) ?_ | with_reducible refine WB.decT (by first | with_reducible rfl | assumption | omega | exact ⟨rfl, rfl⟩) ?_ | with_reducible refine WB.decF (by first | assumption | omega) ?_ | with_reducible refine WB.ndT (by first | with_reducible rfl | assumption | omega | exact ⟨rfl, rfl⟩) ?_ | with_reducible refine WB.ndF (by first | assumption | omega) ?_ | with_reducible refine WB.nt ?_ | with_reducible refine WB.nf ?_ | with_reducible refine WB.dec (fun h => ?_) (fun h => ?_) | with_reducible refine WB.ndec (fun h => ?_) (fun h => ?_) | refine WB.mk (fun h => ?_) (fun h => ?_)) <;> conv => whnf)
  all_goals first | (exfalso; omega) | skip
  refine Rn.loop (enS n coin box ls cs k r1 r2 q1 q2 L) (fun s => s.1 ≤ L.length ∧ s.2 < 16 ∧ ∀ q, q < 4 → s.2.testBit q = (L.take s.1).any (cE box coin k r1 r2 q1 q2 q)) (fun s => L.length - s.1) (0, 0) ?_ ?_ ?_
  · refine X.le.mk ?_ ?_ (Nat.le_refl _) rfl rfl
    · show T.le ((.n (.n (.n .e none (.n .e (some (.i .i64 0)) .e)) none (.n (.n .e (some (.i .i64 0)) .e) (some (.i .i64 (k : Int))) .e)) none (.n (.n (.n .e (some (.pt (.i .h) 0 0)) .e) none (.n .e (some (.i .i64 0)) .e)) (some (.pt .h 0 0)) (.n (.n .e (some (.lst 1 (rows tlD L))) .e) (some (.pt (.o .h) 0 0)) .e))) : T D) _
      (repeat' first | exact T.le_e _ | refine T.le_some ?_ rfl ?_ | refine T.le_none ?_ ?_ | refine T.le_ee ?_ ?_)
    · show T.le ((.n (.n .e (some (.cells false [.o (.i .i64 r1) 0, .o (.i .i64 r2) 0] 1)) .e) (some (bkC n coin box ls cs)) (.n .e (some (.cells false [.o (.i .i64 q1) 0, .o (.i .i64 q2) 0] 1)) .e)) : T C) _
      (repeat' first | exact T.le_e _ | refine T.le_some ?_ rfl ?_ | refine T.le_none ?_ ?_ | refine T.le_ee ?_ ?_)
  · exact ⟨Nat.zero_le _, by decide, fun q _ => by simp⟩
  rintro ⟨i, m⟩ ⟨hi, hm16, hbits⟩
  have hi : i ≤ L.length := hi
  have hm16 : m < 16 := hm16
  have hbits : ∀ q, q < 4 → m.testBit q = (L.take i).any (cE box coin k r1 r2 q1 q2 q) := hbits
  conv => whnf
  repeat' first | ((first | with_reducible apply WB.tt | with_reducible apply WB.ff | refine Rn.seq ?_ | refine Rn.reg ?_ | refine Rn.drw ?_ | refine Rn.blk ?_ | refine Rn.skip ?_ | refine Rn.ret ?_ | refine Rn.exit ?_ | refine Rn.cond rfl ?_ | refine And.intro (InR.i64 (by omega) (by omega)) ?_ | refine And.intro (show _ ≠ (0 : Int) by omega) ?_ | refine WIx.intsN (by omega) ?_ | refine WIx.rowsN (by omega) ?_) <;> conv => whnf)
  refine WB.dec (fun h => ?_) (fun h => ?_) <;> conv => whnf
  · have hlt : i < L.length := by omega
    have htl := hlen _ (getD_mem (d := default) hlt)
    have iMo := j_Money n coin box ls cs (L.getD i default) k hbx hcn (by omega) (by omega)
    have iMx := j_Mixed (L.getD i default) (by omega)
    have hnx := fun q => any_takeL hlt (cE box coin k r1 r2 q1 q2 q)
    unfold bk5 at iMo
    repeat' first | ((first | with_reducible apply WB.tt | with_reducible apply WB.ff | refine Rn.seq ?_ | refine Rn.reg ?_ | refine Rn.drw ?_ | refine Rn.blk ?_ | refine Rn.skip ?_ | refine Rn.ret ?_ | refine Rn.exit ?_ | refine Rn.cond rfl ?_ | refine And.intro (InR.i64 (by omega) (by omega)) ?_ | refine And.intro (show _ ≠ (0 : Int) by omega) ?_ | refine WIx.intsN (by omega) ?_ | refine WIx.rowsN (by omega) ?_ | refine WCall.pure (iMo) ?_ | refine WCall.pure (iMx) ?_) <;> conv => whnf)
    generalize hc0 : decide (monR box coin (L.getD i default) k = r1) = c0
    generalize hc1 : decide (monR box coin (L.getD i default) k = r2) = c1
    generalize hc2 : decide (mixR (L.getD i default) (L.getD i default).length = q1) = c2
    generalize hc3 : decide (mixR (L.getD i default) (L.getD i default).length = q2) = c3
    have hcq : ∀ q, q < 4 → cE box coin k r1 r2 q1 q2 q (L.getD i default) = c4 c0 c1 c2 c3 q := fun q hq => by
      match q, hq with
      | 0, _ => exact hc0
      | 1, _ => exact hc1
      | 2, _ => exact hc2
      | 3, _ => exact hc3
    refine Rn.loop (enT n coin box ls cs k r1 r2 q1 q2 L i c0 c1 c2 c3) (fun s => s.1 ≤ 4 ∧ s.2 < 16 ∧ ∀ q, q < 4 → s.2.testBit q = (m.testBit q || (decide (q < s.1) && c4 c0 c1 c2 c3 q))) (fun s => 4 - s.1) (0, m) ?_ ?_ ?_
    · refine X.le.mk ?_ ?_ (Nat.le_refl _) rfl rfl
      · show T.le ((.n (.n (.n (.n (.n .e (some (.pt (.o (.o .h)) 0 0)) .e) none .e) none (.n .e (some (.i .i64 (m : Int))) .e)) none (.n (.n .e (some (.i .i64 0)) .e) (some (.i .i64 (k : Int))) .e)) none (.n (.n (.n (.n .e (some (.i .i64 0)) .e) (some (.pt (.i .h) 0 0)) .e) none (.n .e (some (.i .i64 (i : Int))) .e)) (some (.pt .h 0 0)) (.n (.n .e (some (.lst 1 (rows tlD L))) .e) (some (.pt (.o .h) 0 0)) .e))) : T D) _
        (repeat' first | exact T.le_e _ | refine T.le_some ?_ rfl ?_ | refine T.le_none ?_ ?_ | refine T.le_ee ?_ ?_)
      · show T.le ((.n (.n (.n .e (some (.cells false [.o (.b c0) 0, .o (.b c1) 0, .o (.b c2) 0, .o (.b c3) 0] 1)) .e) (some (.cells false [.o (.i .i64 r1) 0, .o (.i .i64 r2) 0] 1)) .e) (some (bkC n coin box ls cs)) (.n .e (some (.cells false [.o (.i .i64 q1) 0, .o (.i .i64 q2) 0] 1)) .e)) : T C) _
        (repeat' first | exact T.le_e _ | refine T.le_some ?_ rfl ?_ | refine T.le_none ?_ ?_ | refine T.le_ee ?_ ?_)
    · exact ⟨Nat.zero_le _, hm16, fun q _ => by simp⟩
    rintro ⟨j, m2⟩ ⟨hj, h16, hb⟩
    have hj : j ≤ 4 := hj
    have h16 : m2 < 16 := h16
    have hb : ∀ q, q < 4 → m2.testBit q = (m.testBit q || (decide (q < j) && c4 c0 c1 c2 c3 q)) := hb
    conv => whnf
    repeat' first | ((first | with_reducible apply WB.tt | with_reducible apply WB.ff | refine Rn.seq ?_ | refine Rn.reg ?_ | refine Rn.drw ?_ | refine Rn.blk ?_ | refine Rn.skip ?_ | refine Rn.ret ?_ | refine Rn.exit ?_ | refine Rn.cond rfl ?_ | refine And.intro (InR.i64 (by omega) (by omega)) ?_ | refine And.intro (show _ ≠ (0 : Int) by omega) ?_ | refine WIx.intsN (by omega) ?_ | refine WIx.rowsN (by omega) ?_) <;> conv => whnf)
    refine WB.dec (fun h => ?_) (fun h => ?_) <;> conv => whnf
    · have hj4 : j < 4 := by omega
      have hj5 : j = 0 ∨ j = 1 ∨ j = 2 ∨ j = 3 := by omega
      have hstep : ∀ q, q < 4 → c4 c0 c1 c2 c3 j = true → (m2 ||| 1 * 2 ^ j).testBit q = (m.testBit q || (decide (q < j + 1) && c4 c0 c1 c2 c3 q)) := fun q hq hc => by
        rw [bits_or, hb q hq]
        by_cases e : j = q
        · subst e
          rw [hc, decide_eq_true (show j < j + 1 by omega)]
          simp
        · rw [decide_eq_false e, Bool.or_false]
          by_cases e2 : q < j
          · rw [decide_eq_true e2, decide_eq_true (show q < j + 1 by omega)]
          · rw [decide_eq_false e2, decide_eq_false (show ¬ q < j + 1 by omega)]
      have hskip : ∀ q, q < 4 → c4 c0 c1 c2 c3 j = false → m2.testBit q = (m.testBit q || (decide (q < j + 1) && c4 c0 c1 c2 c3 q)) := fun q hq hc => by
        rw [hb q hq]
        by_cases e : j = q
        · subst e
          rw [hc, decide_eq_true (show j < j + 1 by omega)]
          simp
        · by_cases e2 : q < j
          · rw [decide_eq_true e2, decide_eq_true (show q < j + 1 by omega)]
          · rw [decide_eq_false e2, decide_eq_false (show ¬ q < j + 1 by omega)]
      have hor : m2 ||| 1 * 2 ^ j < 16 := Nat.or_lt_two_pow (n := 4) (by omega) (by rw [Nat.one_mul]; rcases hj5 with rfl | rfl | rfl | rfl <;> decide)
      have hp : 1 * 2 ^ j < 16 := by rw [Nat.one_mul]; rcases hj5 with rfl | rfl | rfl | rfl <;> decide
      rcases hj5 with rfl | rfl | rfl | rfl
      · repeat' first | ((first | with_reducible apply WB.tt | with_reducible apply WB.ff | refine Rn.seq ?_ | refine Rn.reg ?_ | refine Rn.drw ?_ | refine Rn.blk ?_ | refine Rn.skip ?_ | refine Rn.ret ?_ | refine Rn.exit ?_ | refine Rn.cond rfl ?_ | refine And.intro (InR.i64 (by omega) (by omega)) ?_ | refine And.intro (show _ ≠ (0 : Int) by omega) ?_ | refine WIx.intsN (by omega) ?_ | refine WIx.rowsN (by omega) ?_) <;> conv => whnf)
        refine WSt.ixaN rfl rfl rfl (by omega) ?_; conv => whnf
        repeat' first | ((first | with_reducible apply WB.tt | with_reducible apply WB.ff | refine Rn.seq ?_ | refine Rn.reg ?_ | refine Rn.drw ?_ | refine Rn.blk ?_ | refine Rn.skip ?_ | refine Rn.ret ?_ | refine Rn.exit ?_ | refine Rn.cond rfl ?_ | refine And.intro (InR.i64 (by omega) (by omega)) ?_ | refine And.intro (show _ ≠ (0 : Int) by omega) ?_ | refine WIx.intsN (by omega) ?_ | refine WIx.rowsN (by omega) ?_) <;> conv => whnf)
        refine WB.mk (fun hc => ?_) (fun hc => ?_) <;> conv => whnf
        · repeat' first | ((first | with_reducible apply WB.tt | with_reducible apply WB.ff | refine Rn.seq ?_ | refine Rn.reg ?_ | refine Rn.drw ?_ | refine Rn.blk ?_ | refine Rn.skip ?_ | refine Rn.ret ?_ | refine Rn.exit ?_ | refine Rn.cond rfl ?_ | refine And.intro (InR.i64 (by omega) (by omega)) ?_ | refine And.intro (show _ ≠ (0 : Int) by omega) ?_ | refine WIx.intsN (by omega) ?_ | refine WIx.rowsN (by omega) ?_) <;> conv => whnf)
          refine And.intro (InR.u64 (by omega) (by omega)) ?_; conv => whnf
          repeat' first | ((first | with_reducible apply WB.tt | with_reducible apply WB.ff | refine Rn.seq ?_ | refine Rn.reg ?_ | refine Rn.drw ?_ | refine Rn.blk ?_ | refine Rn.skip ?_ | refine Rn.ret ?_ | refine Rn.exit ?_ | refine Rn.cond rfl ?_ | refine And.intro (InR.i64 (by omega) (by omega)) ?_ | refine And.intro (show _ ≠ (0 : Int) by omega) ?_ | refine WIx.intsN (by omega) ?_ | refine WIx.rowsN (by omega) ?_) <;> conv => whnf)
          refine WSt.shlN (a := 1) (by rfl) (by rfl) (by omega) (by omega) ?_; conv => whnf
          repeat' first | ((first | with_reducible apply WB.tt | with_reducible apply WB.ff | refine Rn.seq ?_ | refine Rn.reg ?_ | refine Rn.drw ?_ | refine Rn.blk ?_ | refine Rn.skip ?_ | refine Rn.ret ?_ | refine Rn.exit ?_ | refine Rn.cond rfl ?_ | refine And.intro (InR.i64 (by omega) (by omega)) ?_ | refine And.intro (show _ ≠ (0 : Int) by omega) ?_ | refine WIx.intsN (by omega) ?_ | refine WIx.rowsN (by omega) ?_) <;> conv => whnf)
          refine WSt.orN (by rfl) (by rfl) h16 hp ?_; conv => whnf
          repeat' first | ((first | with_reducible apply WB.tt | with_reducible apply WB.ff | refine Rn.seq ?_ | refine Rn.reg ?_ | refine Rn.drw ?_ | refine Rn.blk ?_ | refine Rn.skip ?_ | refine Rn.ret ?_ | refine Rn.exit ?_ | refine Rn.cond rfl ?_ | refine And.intro (InR.i64 (by omega) (by omega)) ?_ | refine And.intro (show _ ≠ (0 : Int) by omega) ?_ | refine WIx.intsN (by omega) ?_ | refine WIx.rowsN (by omega) ?_) <;> conv => whnf)
          refine Again.to (0 + 1, m2 ||| 1 * 2 ^ 0) (by dsimp only; omega) ⟨by dsimp only; omega, hor, fun q hq => hstep q hq hc⟩ (Nat.le_refl _) ?_
          refine Shr.of ?_ ?_ rfl rfl
          · show Rel _ _ ((.n (.n (.n (.n (.n .e (some (.pt (.o (.o .h)) 0 0)) .e) none .e) none (.n .e (some (.i .i64 ((m2 ||| 1 * 2 ^ 0 : Nat) : Int))) .e)) none (.n (.n .e (some (.i .i64 0)) .e) (some (.i .i64 (k : Int))) .e)) none (.n (.n (.n (.n .e (some (.i .i64 ((0 + 1 : Nat) : Int))) .e) (some (.pt (.i .h) 0 0)) .e) none (.n .e (some (.i .i64 (i : Int))) .e)) (some (.pt .h 0 0)) (.n (.n .e (some (.lst 1 (rows tlD L))) .e) (some (.pt (.o .h) 0 0)) .e))) : T D) _
            (repeat' first | exact Rel.e | refine Rel.some ?_ ?_ ?_ | refine Rel.none ?_ ?_ | refine Rel.ee ?_ ?_)
            all_goals show Fz _ _ _ _
            all_goals first | exact .pu trivial | exact .pu (pu_tl _) | exact .kpt (show _ < 5 by simp [Pos.nat])
          · show Rel _ _ ((.n (.n (.n .e (some (.cells false [.o (.b c0) 0, .o (.b c1) 0, .o (.b c2) 0, .o (.b c3) 0] 1)) .e) (some (.cells false [.o (.i .i64 r1) 0, .o (.i .i64 r2) 0] 1)) .e) (some (bkC n coin box ls cs)) (.n .e (some (.cells false [.o (.i .i64 q1) 0, .o (.i .i64 q2) 0] 1)) .e)) : T C) _
            (repeat' first | exact Rel.e | refine Rel.some ?_ ?_ ?_ | refine Rel.none ?_ ?_ | refine Rel.ee ?_ ?_)
            all_goals first
              | exact RO'.of (show _ < 5 by simp [Pos.nat]) (ShC.kp (bkC_kp _ _ _ _ _ _))
              | exact RO'.of (show _ < 5 by simp [Pos.nat]) (ShC.same (ShC.cn (.pu trivial) (ShC.cn (.pu trivial) ShC.nl)))
              | exact RO'.of (show _ < 5 by simp [Pos.nat]) (ShC.same (ShC.cn (.pu trivial) (ShC.cn (.pu trivial) (ShC.cn (.pu trivial) (ShC.cn (.pu trivial) ShC.nl)))))
        · repeat' first | ((first | with_reducible apply WB.tt | with_reducible apply WB.ff | refine Rn.seq ?_ | refine Rn.reg ?_ | refine Rn.drw ?_ | refine Rn.blk ?_ | refine Rn.skip ?_ | refine Rn.ret ?_ | refine Rn.exit ?_ | refine Rn.cond rfl ?_ | refine And.intro (InR.i64 (by omega) (by omega)) ?_ | refine And.intro (show _ ≠ (0 : Int) by omega) ?_ | refine WIx.intsN (by omega) ?_ | refine WIx.rowsN (by omega) ?_) <;> conv => whnf)
          refine Again.to (0 + 1, m2) (by dsimp only; omega) ⟨by dsimp only; omega, h16, fun q hq => hskip q hq hc⟩ (Nat.le_refl _) ?_
          refine Shr.of ?_ ?_ rfl rfl
          · show Rel _ _ ((.n (.n (.n (.n (.n .e (some (.pt (.o (.o .h)) 0 0)) .e) none .e) none (.n .e (some (.i .i64 (m2 : Int))) .e)) none (.n (.n .e (some (.i .i64 0)) .e) (some (.i .i64 (k : Int))) .e)) none (.n (.n (.n (.n .e (some (.i .i64 ((0 + 1 : Nat) : Int))) .e) (some (.pt (.i .h) 0 0)) .e) none (.n .e (some (.i .i64 (i : Int))) .e)) (some (.pt .h 0 0)) (.n (.n .e (some (.lst 1 (rows tlD L))) .e) (some (.pt (.o .h) 0 0)) .e))) : T D) _
            (repeat' first | exact Rel.e | refine Rel.some ?_ ?_ ?_ | refine Rel.none ?_ ?_ | refine Rel.ee ?_ ?_)
            all_goals show Fz _ _ _ _
            all_goals first | exact .pu trivial | exact .pu (pu_tl _) | exact .kpt (show _ < 5 by simp [Pos.nat])
          · show Rel _ _ ((.n (.n (.n .e (some (.cells false [.o (.b c0) 0, .o (.b c1) 0, .o (.b c2) 0, .o (.b c3) 0] 1)) .e) (some (.cells false [.o (.i .i64 r1) 0, .o (.i .i64 r2) 0] 1)) .e) (some (bkC n coin box ls cs)) (.n .e (some (.cells false [.o (.i .i64 q1) 0, .o (.i .i64 q2) 0] 1)) .e)) : T C) _
            (repeat' first | exact Rel.e | refine Rel.some ?_ ?_ ?_ | refine Rel.none ?_ ?_ | refine Rel.ee ?_ ?_)
            all_goals first
              | exact RO'.of (show _ < 5 by simp [Pos.nat]) (ShC.kp (bkC_kp _ _ _ _ _ _))
              | exact RO'.of (show _ < 5 by simp [Pos.nat]) (ShC.same (ShC.cn (.pu trivial) (ShC.cn (.pu trivial) ShC.nl)))
              | exact RO'.of (show _ < 5 by simp [Pos.nat]) (ShC.same (ShC.cn (.pu trivial) (ShC.cn (.pu trivial) (ShC.cn (.pu trivial) (ShC.cn (.pu trivial) ShC.nl)))))
      · repeat' first | ((first | with_reducible apply WB.tt | with_reducible apply WB.ff | refine Rn.seq ?_ | refine Rn.reg ?_ | refine Rn.drw ?_ | refine Rn.blk ?_ | refine Rn.skip ?_ | refine Rn.ret ?_ | refine Rn.exit ?_ | refine Rn.cond rfl ?_ | refine And.intro (InR.i64 (by omega) (by omega)) ?_ | refine And.intro (show _ ≠ (0 : Int) by omega) ?_ | refine WIx.intsN (by omega) ?_ | refine WIx.rowsN (by omega) ?_) <;> conv => whnf)
        refine WSt.ixaN rfl rfl rfl (by omega) ?_; conv => whnf
        repeat' first | ((first | with_reducible apply WB.tt | with_reducible apply WB.ff | refine Rn.seq ?_ | refine Rn.reg ?_ | refine Rn.drw ?_ | refine Rn.blk ?_ | refine Rn.skip ?_ | refine Rn.ret ?_ | refine Rn.exit ?_ | refine Rn.cond rfl ?_ | refine And.intro (InR.i64 (by omega) (by omega)) ?_ | refine And.intro (show _ ≠ (0 : Int) by omega) ?_ | refine WIx.intsN (by omega) ?_ | refine WIx.rowsN (by omega) ?_) <;> conv => whnf)
        refine WB.mk (fun hc => ?_) (fun hc => ?_) <;> conv => whnf
        · repeat' first | ((first | with_reducible apply WB.tt | with_reducible apply WB.ff | refine Rn.seq ?_ | refine Rn.reg ?_ | refine Rn.drw ?_ | refine Rn.blk ?_ | refine Rn.skip ?_ | refine Rn.ret ?_ | refine Rn.exit ?_ | refine Rn.cond rfl ?_ | refine And.intro (InR.i64 (by omega) (by omega)) ?_ | refine And.intro (show _ ≠ (0 : Int) by omega) ?_ | refine WIx.intsN (by omega) ?_ | refine WIx.rowsN (by omega) ?_) <;> conv => whnf)
          refine And.intro (InR.u64 (by omega) (by omega)) ?_; conv => whnf
          repeat' first | ((first | with_reducible apply WB.tt | with_reducible apply WB.ff | refine Rn.seq ?_ | refine Rn.reg ?_ | refine Rn.drw ?_ | refine Rn.blk ?_ | refine Rn.skip ?_ | refine Rn.ret ?_ | refine Rn.exit ?_ | refine Rn.cond rfl ?_ | refine And.intro (InR.i64 (by omega) (by omega)) ?_ | refine And.intro (show _ ≠ (0 : Int) by omega) ?_ | refine WIx.intsN (by omega) ?_ | refine WIx.rowsN (by omega) ?_) <;> conv => whnf)
          refine WSt.shlN (a := 1) (by rfl) (by rfl) (by omega) (by omega) ?_; conv => whnf
          repeat' first | ((first | with_reducible apply WB.tt | with_reducible apply WB.ff | refine Rn.seq ?_ | refine Rn.reg ?_ | refine Rn.drw ?_ | refine Rn.blk ?_ | refine Rn.skip ?_ | refine Rn.ret ?_ | refine Rn.exit ?_ | refine Rn.cond rfl ?_ | refine And.intro (InR.i64 (by omega) (by omega)) ?_ | refine And.intro (show _ ≠ (0 : Int) by omega) ?_ | refine WIx.intsN (by omega) ?_ | refine WIx.rowsN (by omega) ?_) <;> conv => whnf)
          refine WSt.orN (by rfl) (by rfl) h16 hp ?_; conv => whnf
          repeat' first | ((first | with_reducible apply WB.tt | with_reducible apply WB.ff | refine Rn.seq ?_ | refine Rn.reg ?_ | refine Rn.drw ?_ | refine Rn.blk ?_ | refine Rn.skip ?_ | refine Rn.ret ?_ | refine Rn.exit ?_ | refine Rn.cond rfl ?_ | refine And.intro (InR.i64 (by omega) (by omega)) ?_ | refine And.intro (show _ ≠ (0 : Int) by omega) ?_ | refine WIx.intsN (by omega) ?_ | refine WIx.rowsN (by omega) ?_) <;> conv => whnf)
          refine Again.to (1 + 1, m2 ||| 1 * 2 ^ 1) (by dsimp only; omega) ⟨by dsimp only; omega, hor, fun q hq => hstep q hq hc⟩ (Nat.le_refl _) ?_
          refine Shr.of ?_ ?_ rfl rfl
          · show Rel _ _ ((.n (.n (.n (.n (.n .e (some (.pt (.o (.o .h)) 0 0)) .e) none .e) none (.n .e (some (.i .i64 ((m2 ||| 1 * 2 ^ 1 : Nat) : Int))) .e)) none (.n (.n .e (some (.i .i64 0)) .e) (some (.i .i64 (k : Int))) .e)) none (.n (.n (.n (.n .e (some (.i .i64 ((1 + 1 : Nat) : Int))) .e) (some (.pt (.i .h) 0 0)) .e) none (.n .e (some (.i .i64 (i : Int))) .e)) (some (.pt .h 0 0)) (.n (.n .e (some (.lst 1 (rows tlD L))) .e) (some (.pt (.o .h) 0 0)) .e))) : T D) _
            (repeat' first | exact Rel.e | refine Rel.some ?_ ?_ ?_ | refine Rel.none ?_ ?_ | refine Rel.ee ?_ ?_)
            all_goals show Fz _ _ _ _
            all_goals first | exact .pu trivial | exact .pu (pu_tl _) | exact .kpt (show _ < 5 by simp [Pos.nat])
          · show Rel _ _ ((.n (.n (.n .e (some (.cells false [.o (.b c0) 0, .o (.b c1) 0, .o (.b c2) 0, .o (.b c3) 0] 1)) .e) (some (.cells false [.o (.i .i64 r1) 0, .o (.i .i64 r2) 0] 1)) .e) (some (bkC n coin box ls cs)) (.n .e (some (.cells false [.o (.i .i64 q1) 0, .o (.i .i64 q2) 0] 1)) .e)) : T C) _
            (repeat' first | exact Rel.e | refine Rel.some ?_ ?_ ?_ | refine Rel.none ?_ ?_ | refine Rel.ee ?_ ?_)
            all_goals first
              | exact RO'.of (show _ < 5 by simp [Pos.nat]) (ShC.kp (bkC_kp _ _ _ _ _ _))
              | exact RO'.of (show _ < 5 by simp [Pos.nat]) (ShC.same (ShC.cn (.pu trivial) (ShC.cn (.pu trivial) ShC.nl)))
              | exact RO'.of (show _ < 5 by simp [Pos.nat]) (ShC.same (ShC.cn (.pu trivial) (ShC.cn (.pu trivial) (ShC.cn (.pu trivial) (ShC.cn (.pu trivial) ShC.nl)))))
        · repeat' first | ((first | with_reducible apply WB.tt | with_reducible apply WB.ff | refine Rn.seq ?_ | refine Rn.reg ?_ | refine Rn.drw ?_ | refine Rn.blk ?_ | refine Rn.skip ?_ | refine Rn.ret ?_ | refine Rn.exit ?_ | refine Rn.cond rfl ?_ | refine And.intro (InR.i64 (by omega) (by omega)) ?_ | refine And.intro (show _ ≠ (0 : Int) by omega) ?_ | refine WIx.intsN (by omega) ?_ | refine WIx.rowsN (by omega) ?_) <;> conv => whnf)
          refine Again.to (1 + 1, m2) (by dsimp only; omega) ⟨by dsimp only; omega, h16, fun q hq => hskip q hq hc⟩ (Nat.le_refl _) ?_
          refine Shr.of ?_ ?_ rfl rfl
          · show Rel _ _ ((.n (.n (.n (.n (.n .e (some (.pt (.o (.o .h)) 0 0)) .e) none .e) none (.n .e (some (.i .i64 (m2 : Int))) .e)) none (.n (.n .e (some (.i .i64 0)) .e) (some (.i .i64 (k : Int))) .e)) none (.n (.n (.n (.n .e (some (.i .i64 ((1 + 1 : Nat) : Int))) .e) (some (.pt (.i .h) 0 0)) .e) none (.n .e (some (.i .i64 (i : Int))) .e)) (some (.pt .h 0 0)) (.n (.n .e (some (.lst 1 (rows tlD L))) .e) (some (.pt (.o .h) 0 0)) .e))) : T D) _
            (repeat' first | exact Rel.e | refine Rel.some ?_ ?_ ?_ | refine Rel.none ?_ ?_ | refine Rel.ee ?_ ?_)
            all_goals show Fz _ _ _ _
            all_goals first | exact .pu trivial | exact .pu (pu_tl _) | exact .kpt (show _ < 5 by simp [Pos.nat])
          · show Rel _ _ ((.n (.n (.n .e (some (.cells false [.o (.b c0) 0, .o (.b c1) 0, .o (.b c2) 0, .o (.b c3) 0] 1)) .e) (some (.cells false [.o (.i .i64 r1) 0, .o (.i .i64 r2) 0] 1)) .e) (some (bkC n coin box ls cs)) (.n .e (some (.cells false [.o (.i .i64 q1) 0, .o (.i .i64 q2) 0] 1)) .e)) : T C) _
            (repeat' first | exact Rel.e | refine Rel.some ?_ ?_ ?_ | refine Rel.none ?_ ?_ | refine Rel.ee ?_ ?_)
            all_goals first
              | exact RO'.of (show _ < 5 by simp [Pos.nat]) (ShC.kp (bkC_kp _ _ _ _ _ _))
              | exact RO'.of (show _ < 5 by simp [Pos.nat]) (ShC.same (ShC.cn (.pu trivial) (ShC.cn (.pu trivial) ShC.nl)))
              | exact RO'.of (show _ < 5 by simp [Pos.nat]) (ShC.same (ShC.cn (.pu trivial) (ShC.cn (.pu trivial) (ShC.cn (.pu trivial) (ShC.cn (.pu trivial) ShC.nl)))))
      · repeat' first | ((first | with_reducible apply WB.tt | with_reducible apply WB.ff | refine Rn.seq ?_ | refine Rn.reg ?_ | refine Rn.drw ?_ | refine Rn.blk ?_ | refine Rn.skip ?_ | refine Rn.ret ?_ | refine Rn.exit ?_ | refine Rn.cond rfl ?_ | refine And.intro (InR.i64 (by omega) (by omega)) ?_ | refine And.intro (show _ ≠ (0 : Int) by omega) ?_ | refine WIx.intsN (by omega) ?_ | refine WIx.rowsN (by omega) ?_) <;> conv => whnf)
        refine WSt.ixaN rfl rfl rfl (by omega) ?_; conv => whnf
        repeat' first | ((first | with_reducible apply WB.tt | with_reducible apply WB.ff | refine Rn.seq ?_ | refine Rn.reg ?_ | refine Rn.drw ?_ | refine Rn.blk ?_ | refine Rn.skip ?_ | refine Rn.ret ?_ | refine Rn.exit ?_ | refine Rn.cond rfl ?_ | refine And.intro (InR.i64 (by omega) (by omega)) ?_ | refine And.intro (show _ ≠ (0 : Int) by omega) ?_ | refine WIx.intsN (by omega) ?_ | refine WIx.rowsN (by omega) ?_) <;> conv => whnf)
        refine WB.mk (fun hc => ?_) (fun hc => ?_) <;> conv => whnf
        · repeat' first | ((first | with_reducible apply WB.tt | with_reducible apply WB.ff | refine Rn.seq ?_ | refine Rn.reg ?_ | refine Rn.drw ?_ | refine Rn.blk ?_ | refine Rn.skip ?_ | refine Rn.ret ?_ | refine Rn.exit ?_ | refine Rn.cond rfl ?_ | refine And.intro (InR.i64 (by omega) (by omega)) ?_ | refine And.intro (show _ ≠ (0 : Int) by omega) ?_ | refine WIx.intsN (by omega) ?_ | refine WIx.rowsN (by omega) ?_) <;> conv => whnf)
          refine And.intro (InR.u64 (by omega) (by omega)) ?_; conv => whnf
          repeat' first | ((first | with_reducible apply WB.tt | with_reducible apply WB.ff | refine Rn.seq ?_ | refine Rn.reg ?_ | refine Rn.drw ?_ | refine Rn.blk ?_ | refine Rn.skip ?_ | refine Rn.ret ?_ | refine Rn.exit ?_ | refine Rn.cond rfl ?_ | refine And.intro (InR.i64 (by omega) (by omega)) ?_ | refine And.intro (show _ ≠ (0 : Int) by omega) ?_ | refine WIx.intsN (by omega) ?_ | refine WIx.rowsN (by omega) ?_) <;> conv => whnf)
          refine WSt.shlN (a := 1) (by rfl) (by rfl) (by omega) (by omega) ?_; conv => whnf
          repeat' first | ((first | with_reducible apply WB.tt | with_reducible apply WB.ff | refine Rn.seq ?_ | refine Rn.reg ?_ | refine Rn.drw ?_ | refine Rn.blk ?_ | refine Rn.skip ?_ | refine Rn.ret ?_ | refine Rn.exit ?_ | refine Rn.cond rfl ?_ | refine And.intro (InR.i64 (by omega) (by omega)) ?_ | refine And.intro (show _ ≠ (0 : Int) by omega) ?_ | refine WIx.intsN (by omega) ?_ | refine WIx.rowsN (by omega) ?_) <;> conv => whnf)
          refine WSt.orN (by rfl) (by rfl) h16 hp ?_; conv => whnf
          repeat' first | ((first | with_reducible apply WB.tt | with_reducible apply WB.ff | refine Rn.seq ?_ | refine Rn.reg ?_ | refine Rn.drw ?_ | refine Rn.blk ?_ | refine Rn.skip ?_ | refine Rn.ret ?_ | refine Rn.exit ?_ | refine Rn.cond rfl ?_ | refine And.intro (InR.i64 (by omega) (by omega)) ?_ | refine And.intro (show _ ≠ (0 : Int) by omega) ?_ | refine WIx.intsN (by omega) ?_ | refine WIx.rowsN (by omega) ?_) <;> conv => whnf)
          refine Again.to (2 + 1, m2 ||| 1 * 2 ^ 2) (by dsimp only; omega) ⟨by dsimp only; omega, hor, fun q hq => hstep q hq hc⟩ (Nat.le_refl _) ?_
          refine Shr.of ?_ ?_ rfl rfl
          · show Rel _ _ ((.n (.n (.n (.n (.n .e (some (.pt (.o (.o .h)) 0 0)) .e) none .e) none (.n .e (some (.i .i64 ((m2 ||| 1 * 2 ^ 2 : Nat) : Int))) .e)) none (.n (.n .e (some (.i .i64 0)) .e) (some (.i .i64 (k : Int))) .e)) none (.n (.n (.n (.n .e (some (.i .i64 ((2 + 1 : Nat) : Int))) .e) (some (.pt (.i .h) 0 0)) .e) none (.n .e (some (.i .i64 (i : Int))) .e)) (some (.pt .h 0 0)) (.n (.n .e (some (.lst 1 (rows tlD L))) .e) (some (.pt (.o .h) 0 0)) .e))) : T D) _
            (repeat' first | exact Rel.e | refine Rel.some ?_ ?_ ?_ | refine Rel.none ?_ ?_ | refine Rel.ee ?_ ?_)
            all_goals show Fz _ _ _ _
            all_goals first | exact .pu trivial | exact .pu (pu_tl _) | exact .kpt (show _ < 5 by simp [Pos.nat])
          · show Rel _ _ ((.n (.n (.n .e (some (.cells false [.o (.b c0) 0, .o (.b c1) 0, .o (.b c2) 0, .o (.b c3) 0] 1)) .e) (some (.cells false [.o (.i .i64 r1) 0, .o (.i .i64 r2) 0] 1)) .e) (some (bkC n coin box ls cs)) (.n .e (some (.cells false [.o (.i .i64 q1) 0, .o (.i .i64 q2) 0] 1)) .e)) : T C) _
            (repeat' first | exact Rel.e | refine Rel.some ?_ ?_ ?_ | refine Rel.none ?_ ?_ | refine Rel.ee ?_ ?_)
            all_goals first
              | exact RO'.of (show _ < 5 by simp [Pos.nat]) (ShC.kp (bkC_kp _ _ _ _ _ _))
              | exact RO'.of (show _ < 5 by simp [Pos.nat]) (ShC.same (ShC.cn (.pu trivial) (ShC.cn (.pu trivial) ShC.nl)))
              | exact RO'.of (show _ < 5 by simp [Pos.nat]) (ShC.same (ShC.cn (.pu trivial) (ShC.cn (.pu trivial) (ShC.cn (.pu trivial) (ShC.cn (.pu trivial) ShC.nl)))))
        · repeat' first | ((first | with_reducible apply WB.tt | with_reducible apply WB.ff | refine Rn.seq ?_ | refine Rn.reg ?_ | refine Rn.drw ?_ | refine Rn.blk ?_ | refine Rn.skip ?_ | refine Rn.ret ?_ | refine Rn.exit ?_ | refine Rn.cond rfl ?_ | refine And.intro (InR.i64 (by omega) (by omega)) ?_ | refine And.intro (show _ ≠ (0 : Int) by omega) ?_ | refine WIx.intsN (by omega) ?_ | refine WIx.rowsN (by omega) ?_) <;> conv => whnf)
          refine Again.to (2 + 1, m2) (by dsimp only; omega) ⟨by dsimp only; omega, h16, fun q hq => hskip q hq hc⟩ (Nat.le_refl _) ?_
          refine Shr.of ?_ ?_ rfl rfl
          · show Rel _ _ ((.n (.n (.n (.n (.n .e (some (.pt (.o (.o .h)) 0 0)) .e) none .e) none (.n .e (some (.i .i64 (m2 : Int))) .e)) none (.n (.n .e (some (.i .i64 0)) .e) (some (.i .i64 (k : Int))) .e)) none (.n (.n (.n (.n .e (some (.i .i64 ((2 + 1 : Nat) : Int))) .e) (some (.pt (.i .h) 0 0)) .e) none (.n .e (some (.i .i64 (i : Int))) .e)) (some (.pt .h 0 0)) (.n (.n .e (some (.lst 1 (rows tlD L))) .e) (some (.pt (.o .h) 0 0)) .e))) : T D) _
            (repeat' first | exact Rel.e | refine Rel.some ?_ ?_ ?_ | refine Rel.none ?_ ?_ | refine Rel.ee ?_ ?_)
            all_goals show Fz _ _ _ _
            all_goals first | exact .pu trivial | exact .pu (pu_tl _) | exact .kpt (show _ < 5 by simp [Pos.nat])
          · show Rel _ _ ((.n (.n (.n .e (some (.cells false [.o (.b c0) 0, .o (.b c1) 0, .o (.b c2) 0, .o (.b c3) 0] 1)) .e) (some (.cells false [.o (.i .i64 r1) 0, .o (.i .i64 r2) 0] 1)) .e) (some (bkC n coin box ls cs)) (.n .e (some (.cells false [.o (.i .i64 q1) 0, .o (.i .i64 q2) 0] 1)) .e)) : T C) _
            (repeat' first | exact Rel.e | refine Rel.some ?_ ?_ ?_ | refine Rel.none ?_ ?_ | refine Rel.ee ?_ ?_)
            all_goals first
              | exact RO'.of (show _ < 5 by simp [Pos.nat]) (ShC.kp (bkC_kp _ _ _ _ _ _))
              | exact RO'.of (show _ < 5 by simp [Pos.nat]) (ShC.same (ShC.cn (.pu trivial) (ShC.cn (.pu trivial) ShC.nl)))
              | exact RO'.of (show _ < 5 by simp [Pos.nat]) (ShC.same (ShC.cn (.pu trivial) (ShC.cn (.pu trivial) (ShC.cn (.pu trivial) (ShC.cn (.pu trivial) ShC.nl)))))
      · repeat' first | ((first | with_reducible apply WB.tt | with_reducible apply WB.ff | refine Rn.seq ?_ | refine Rn.reg ?_ | refine Rn.drw ?_ | refine Rn.blk ?_ | refine Rn.skip ?_ | refine Rn.ret ?_ | refine Rn.exit ?_ | refine Rn.cond rfl ?_ | refine And.intro (InR.i64 (by omega) (by omega)) ?_ | refine And.intro (show _ ≠ (0 : Int) by omega) ?_ | refine WIx.intsN (by omega) ?_ | refine WIx.rowsN (by omega) ?_) <;> conv => whnf)
        refine WSt.ixaN rfl rfl rfl (by omega) ?_; conv => whnf
        repeat' first | ((first | with_reducible apply WB.tt | with_reducible apply WB.ff | refine Rn.seq ?_ | refine Rn.reg ?_ | refine Rn.drw ?_ | refine Rn.blk ?_ | refine Rn.skip ?_ | refine Rn.ret ?_ | refine Rn.exit ?_ | refine Rn.cond rfl ?_ | refine And.intro (InR.i64 (by omega) (by omega)) ?_ | refine And.intro (show _ ≠ (0 : Int) by omega) ?_ | refine WIx.intsN (by omega) ?_ | refine WIx.rowsN (by omega) ?_) <;> conv => whnf)
        refine WB.mk (fun hc => ?_) (fun hc => ?_) <;> conv => whnf
        · repeat' first | ((first | with_reducible apply WB.tt | with_reducible apply WB.ff | refine Rn.seq ?_ | refine Rn.reg ?_ | refine Rn.drw ?_ | refine Rn.blk ?_ | refine Rn.skip ?_ | refine Rn.ret ?_ | refine Rn.exit ?_ | refine Rn.cond rfl ?_ | refine And.intro (InR.i64 (by omega) (by omega)) ?_ | refine And.intro (show _ ≠ (0 : Int) by omega) ?_ | refine WIx.intsN (by omega) ?_ | refine WIx.rowsN (by omega) ?_) <;> conv => whnf)
          refine And.intro (InR.u64 (by omega) (by omega)) ?_; conv => whnf
          repeat' first | ((first | with_reducible apply WB.tt | with_reducible apply WB.ff | refine Rn.seq ?_ | refine Rn.reg ?_ | refine Rn.drw ?_ | refine Rn.blk ?_ | refine Rn.skip ?_ | refine Rn.ret ?_ | refine Rn.exit ?_ | refine Rn.cond rfl ?_ | refine And.intro (InR.i64 (by omega) (by omega)) ?_ | refine And.intro (show _ ≠ (0 : Int) by omega) ?_ | refine WIx.intsN (by omega) ?_ | refine WIx.rowsN (by omega) ?_) <;> conv => whnf)
          refine WSt.shlN (a := 1) (by rfl) (by rfl) (by omega) (by omega) ?_; conv => whnf
          repeat' first | ((first | with_reducible apply WB.tt | with_reducible apply WB.ff | refine Rn.seq ?_ | refine Rn.reg ?_ | refine Rn.drw ?_ | refine Rn.blk ?_ | refine Rn.skip ?_ | refine Rn.ret ?_ | refine Rn.exit ?_ | refine Rn.cond rfl ?_ | refine And.intro (InR.i64 (by omega) (by omega)) ?_ | refine And.intro (show _ ≠ (0 : Int) by omega) ?_ | refine WIx.intsN (by omega) ?_ | refine WIx.rowsN (by omega) ?_) <;> conv => whnf)
          refine WSt.orN (by rfl) (by rfl) h16 hp ?_; conv => whnf
          repeat' first | ((first | with_reducible apply WB.tt | with_reducible apply WB.ff | refine Rn.seq ?_ | refine Rn.reg ?_ | refine Rn.drw ?_ | refine Rn.blk ?_ | refine Rn.skip ?_ | refine Rn.ret ?_ | refine Rn.exit ?_ | refine Rn.cond rfl ?_ | refine And.intro (InR.i64 (by omega) (by omega)) ?_ | refine And.intro (show _ ≠ (0 : Int) by omega) ?_ | refine WIx.intsN (by omega) ?_ | refine WIx.rowsN (by omega) ?_) <;> conv => whnf)
          refine Again.to (3 + 1, m2 ||| 1 * 2 ^ 3) (by dsimp only; omega) ⟨by dsimp only; omega, hor, fun q hq => hstep q hq hc⟩ (Nat.le_refl _) ?_
          refine Shr.of ?_ ?_ rfl rfl
          · show Rel _ _ ((.n (.n (.n (.n (.n .e (some (.pt (.o (.o .h)) 0 0)) .e) none .e) none (.n .e (some (.i .i64 ((m2 ||| 1 * 2 ^ 3 : Nat) : Int))) .e)) none (.n (.n .e (some (.i .i64 0)) .e) (some (.i .i64 (k : Int))) .e)) none (.n (.n (.n (.n .e (some (.i .i64 ((3 + 1 : Nat) : Int))) .e) (some (.pt (.i .h) 0 0)) .e) none (.n .e (some (.i .i64 (i : Int))) .e)) (some (.pt .h 0 0)) (.n (.n .e (some (.lst 1 (rows tlD L))) .e) (some (.pt (.o .h) 0 0)) .e))) : T D) _
            (repeat' first | exact Rel.e | refine Rel.some ?_ ?_ ?_ | refine Rel.none ?_ ?_ | refine Rel.ee ?_ ?_)
            all_goals show Fz _ _ _ _
            all_goals first | exact .pu trivial | exact .pu (pu_tl _) | exact .kpt (show _ < 5 by simp [Pos.nat])
          · show Rel _ _ ((.n (.n (.n .e (some (.cells false [.o (.b c0) 0, .o (.b c1) 0, .o (.b c2) 0, .o (.b c3) 0] 1)) .e) (some (.cells false [.o (.i .i64 r1) 0, .o (.i .i64 r2) 0] 1)) .e) (some (bkC n coin box ls cs)) (.n .e (some (.cells false [.o (.i .i64 q1) 0, .o (.i .i64 q2) 0] 1)) .e)) : T C) _
            (repeat' first | exact Rel.e | refine Rel.some ?_ ?_ ?_ | refine Rel.none ?_ ?_ | refine Rel.ee ?_ ?_)
            all_goals first
              | exact RO'.of (show _ < 5 by simp [Pos.nat]) (ShC.kp (bkC_kp _ _ _ _ _ _))
              | exact RO'.of (show _ < 5 by simp [Pos.nat]) (ShC.same (ShC.cn (.pu trivial) (ShC.cn (.pu trivial) ShC.nl)))
              | exact RO'.of (show _ < 5 by simp [Pos.nat]) (ShC.same (ShC.cn (.pu trivial) (ShC.cn (.pu trivial) (ShC.cn (.pu trivial) (ShC.cn (.pu trivial) ShC.nl)))))
        · repeat' first | ((first | with_reducible apply WB.tt | with_reducible apply WB.ff | refine Rn.seq ?_ | refine Rn.reg ?_ | refine Rn.drw ?_ | refine Rn.blk ?_ | refine Rn.skip ?_ | refine Rn.ret ?_ | refine Rn.exit ?_ | refine Rn.cond rfl ?_ | refine And.intro (InR.i64 (by omega) (by omega)) ?_ | refine And.intro (show _ ≠ (0 : Int) by omega) ?_ | refine WIx.intsN (by omega) ?_ | refine WIx.rowsN (by omega) ?_) <;> conv => whnf)
          refine Again.to (3 + 1, m2) (by dsimp only; omega) ⟨by dsimp only; omega, h16, fun q hq => hskip q hq hc⟩ (Nat.le_refl _) ?_
          refine Shr.of ?_ ?_ rfl rfl
          · show Rel _ _ ((.n (.n (.n (.n (.n .e (some (.pt (.o (.o .h)) 0 0)) .e) none .e) none (.n .e (some (.i .i64 (m2 : Int))) .e)) none (.n (.n .e (some (.i .i64 0)) .e) (some (.i .i64 (k : Int))) .e)) none (.n (.n (.n (.n .e (some (.i .i64 ((3 + 1 : Nat) : Int))) .e) (some (.pt (.i .h) 0 0)) .e) none (.n .e (some (.i .i64 (i : Int))) .e)) (some (.pt .h 0 0)) (.n (.n .e (some (.lst 1 (rows tlD L))) .e) (some (.pt (.o .h) 0 0)) .e))) : T D) _
            (repeat' first | exact Rel.e | refine Rel.some ?_ ?_ ?_ | refine Rel.none ?_ ?_ | refine Rel.ee ?_ ?_)
            all_goals show Fz _ _ _ _
            all_goals first | exact .pu trivial | exact .pu (pu_tl _) | exact .kpt (show _ < 5 by simp [Pos.nat])
          · show Rel _ _ ((.n (.n (.n .e (some (.cells false [.o (.b c0) 0, .o (.b c1) 0, .o (.b c2) 0, .o (.b c3) 0] 1)) .e) (some (.cells false [.o (.i .i64 r1) 0, .o (.i .i64 r2) 0] 1)) .e) (some (bkC n coin box ls cs)) (.n .e (some (.cells false [.o (.i .i64 q1) 0, .o (.i .i64 q2) 0] 1)) .e)) : T C) _
            (repeat' first | exact Rel.e | refine Rel.some ?_ ?_ ?_ | refine Rel.none ?_ ?_ | refine Rel.ee ?_ ?_)
            all_goals first
              | exact RO'.of (show _ < 5 by simp [Pos.nat]) (ShC.kp (bkC_kp _ _ _ _ _ _))
              | exact RO'.of (show _ < 5 by simp [Pos.nat]) (ShC.same (ShC.cn (.pu trivial) (ShC.cn (.pu trivial) ShC.nl)))
              | exact RO'.of (show _ < 5 by simp [Pos.nat]) (ShC.same (ShC.cn (.pu trivial) (ShC.cn (.pu trivial) (ShC.cn (.pu trivial) (ShC.cn (.pu trivial) ShC.nl)))))
    · have hj4 : j = 4 := by omega
      subst hj4
      repeat' first | ((first | with_reducible apply WB.tt | with_reducible apply WB.ff | refine Rn.seq ?_ | refine Rn.reg ?_ | refine Rn.drw ?_ | refine Rn.blk ?_ | refine Rn.skip ?_ | refine Rn.ret ?_ | refine Rn.exit ?_ | refine Rn.cond rfl ?_ | refine And.intro (InR.i64 (by omega) (by omega)) ?_ | refine And.intro (show _ ≠ (0 : Int) by omega) ?_ | refine WIx.intsN (by omega) ?_ | refine WIx.rowsN (by omega) ?_) <;> conv => whnf)
      refine Again.to (i + 1, m2) (by dsimp only; omega) ⟨by dsimp only; omega, h16, fun q hq => ?_⟩ (Nat.le_of_ble_eq_true rfl) ?_
      · show m2.testBit q = _
        rw [hb q hq, hnx q, hcq q hq, hbits q hq, decide_eq_true hq, Bool.true_and]
      refine Shr.of ?_ ?_ rfl rfl
      · show Rel _ _ ((.n (.n (.n .e none (.n .e (some (.i .i64 (m2 : Int))) .e)) none (.n (.n .e (some (.i .i64 0)) .e) (some (.i .i64 (k : Int))) .e)) none (.n (.n (.n .e (some (.pt (.i .h) 0 0)) .e) none (.n .e (some (.i .i64 ((i + 1 : Nat) : Int))) .e)) (some (.pt .h 0 0)) (.n (.n .e (some (.lst 1 (rows tlD L))) .e) (some (.pt (.o .h) 0 0)) .e))) : T D) _
        (repeat' first | exact Rel.e | refine Rel.some ?_ ?_ ?_ | refine Rel.none ?_ ?_ | refine Rel.ee ?_ ?_)
        all_goals show Fz _ _ _ _
        all_goals first | exact .pu trivial | exact .pu (pu_tl _) | exact .kpt (show _ < 4 by simp [Pos.nat])
      · show Rel _ _ ((.n (.n .e (some (.cells false [.o (.i .i64 r1) 0, .o (.i .i64 r2) 0] 1)) .e) (some (bkC n coin box ls cs)) (.n .e (some (.cells false [.o (.i .i64 q1) 0, .o (.i .i64 q2) 0] 1)) .e)) : T C) _
        (repeat' first | exact Rel.e | refine Rel.some ?_ ?_ ?_ | refine Rel.none ?_ ?_ | refine Rel.ee ?_ ?_)
        all_goals first
          | exact RO'.of (show _ < 4 by simp [Pos.nat]) (ShC.kp (bkC_kp _ _ _ _ _ _))
          | exact RO'.of (show _ < 4 by simp [Pos.nat]) (ShC.same (ShC.cn (.pu trivial) (ShC.cn (.pu trivial) ShC.nl)))
          | exact RO'.of (show _ < 4 by simp [Pos.nat]) (ShC.same (ShC.cn (.pu trivial) (ShC.cn (.pu trivial) (ShC.cn (.pu trivial) (ShC.cn (.pu trivial) ShC.nl)))))
  · have hi2 : i = L.length := by omega
    have hall : ∀ q, q < 4 → m.testBit q = true := fun q hq => by rw [hbits q hq, hi2, List.take_length]; exact ends q hq
    have h15 := bits_all m hm16 (hall 0 (by omega)) (hall 1 (by omega)) (hall 2 (by omega)) (hall 3 (by omega))
    subst h15
    repeat' first | ((first | with_reducible apply WB.tt | with_reducible apply WB.ff | refine Rn.seq ?_ | refine Rn.reg ?_ | refine Rn.drw ?_ | refine Rn.blk ?_ | refine Rn.skip ?_ | refine Rn.ret ?_ | refine Rn.exit ?_ | refine Rn.cond rfl ?_ | refine And.intro (InR.i64 (by omega) (by omega)) ?_ | refine And.intro (show _ ≠ (0 : Int) by omega) ?_ | refine WIx.intsN (by omega) ?_ | refine WIx.rowsN (by omega) ?_ | refine WCall.pure (AW) ?_ | with_reducible refine WB.decT (by first | with_reducible rfl | assumption | omega | exact ⟨rfl, rfl⟩) ?_ | with_reducible refine WB.decF (by first | assumption | omega) ?_ | with_reducible refine WB.ndT (by first | with_reducible rfl | assumption | omega | exact ⟨rfl, rfl⟩) ?_ | with_reducible refine WB.ndF (by first | assumption | omega) ?_ | with_reducible refine WB.nt ?_ | with_reducible refine WB.nf ?_ | with_reducible refine WB.dec (fun h => ?_) (fun h => ?_) | with_reducible refine WB.ndec (fun h => ?_) (fun h => ?_) | refine WB.mk (fun h => ?_) (fun h => ?_)) <;> conv => whnf)
    exact Fin.b rfl rfl
theorem main_tokenEnds (AW : PureF Try.prog p22.ix [] (.b true)) {es : List D} (fit : FitP [(true, [.i .i64, .i .i64, .i .i64, .sl [.i .i64, .i .i64, .i .i64], .sl [.i .i64, .i .i64, .i .i64]]), (false, [.i .u8])] es) : PureF Try.prog 10 es (.b true) := by
  obtain ⟨n, coin, box, ls, cs, _, rfl, g1⟩ := fit.book
  obtain ⟨k, _, rfl, w1, g2⟩ := g1.i
  obtain rfl := g2.no
  exact j_TokenEnds n coin box ls cs k (wf_u8 w1) AW
end Go.Ev

namespace Go.Proofs.Ytjgbfnciedkafaa.tokenEnds
open Go.ChangeShapes Go.WideShapes Go.ChangeAt Go.RowKit
open Go.ChangeMaps (open_string shut_string)
set_option linter.unusedVariables false

theorem laid : laidOutB Try.prog = true := faP.laid
theorem own : ownKnob Try.prog.godebug = none := by kernel_rfl

/-! ### the walk -/
theorem walk {es : List Go.Ev.D} (fit : Go.Ev.FitP [(true, [.i .i64, .i .i64, .i .i64, .sl [.i .i64, .i .i64, .i .i64], .sl [.i .i64, .i .i64, .i .i64]]), (false, [.i .u8])] es) {args : Array Value} {W : World} (ha : Go.Ev.DVL (Go.Ev.γH W) W es args.toList) :
    Calls Try.prog 10 args W fun e w' => e = .returned (.bool true) ∧ Grown W w' ∧ Below W.heap.size W w' :=
  Go.Ev.PureF.calls (Go.Ev.main_tokenEnds (fun ob nx lg => Go.Ev.t21.any ob nx lg) fit) ha

set_option maxRecDepth 100000 in
theorem lifted (os : Os) (started : os.Started) (H : Type) (enc : TypeId × Value → H) :
    ReturnsInHanded {} Try.checked os 10 .any (Rows.tokenEndsSpec.pre6 enc Try.prog Try.f10 Rows.tokenEndsRow.domain false) (Rows.tokenEndsSpec.post enc Try.prog Try.f10 false true false false) := by
  refine returnsInHanded_of_change (C := Try.checked) own started (by kernel_rfl) Try.func10
    (ChangeSpec.witness6 (enc := enc) (C := Try.checked) false ⟨#[], #[.agg #[.int .i64 0, .int .i64 0, .int .i64 0, .slice none 0 0, .slice none 0 0], .int .u8 0], []⟩ 8 (by kernel_rfl) (by kernel_rfl) (by kernel_rfl) (by kernel_rfl)) ?_
  intro W base args ds gs before hval0 hW hcnd _
  have hval : ∀ (j : Nat) t v, Try.f10.params[j]? = some t → args[j]? = some v → Value.okWide Try.prog W .any base t v := hval0
  have hW' := hW
  obtain ⟨p, q, hA0, hV, rfl, hfz, hnd⟩ := hW
  have hA : DataW.TrodAll enc Try.prog W 0 (fun _ => true) true Try.f10.params.toList args.toList ds p := hA0
  rw [Try.params10] at hA hval
  obtain ⟨rfl, rfl⟩ := trodVars_none hV
  obtain ⟨d0, d1, rfl⟩ := Go.Ev.len2 (Go.Ev.trod_len hA)
  clear hA0 hval0
  simp only [List.append_nil] at hW'
  obtain ⟨es, fit, dv⟩ := Go.Ev.open_all (n := 6) (pars := [(true, [.i .i64, .i .i64, .i .i64, .sl [.i .i64, .i .i64, .i .i64], .sl [.i .i64, .i .i64, .i .i64]]), (false, [.i .u8])]) (by kernel_rfl) hA (fun j t v h1 h2 => hval j t v (by simpa using h1) (by simpa using h2))
  have hlt : ∀ x ∈ p, x.block < W.heap.size := fun x hx => by simpa using hW'.lt x hx
  refine (walk fit dv).mono fun e W' ⟨he, hg, hb⟩ => ?_
  subst he
  exact ⟨_, rfl, post_of_same (pa := p) (pv := []) hW' (fun _ _ _ => (trodAll_cons_mk (shut_bool Try.underlying4 _) trodAll_mk0))
    (fun sp hs => Go.Ev.stays_all laid (Go.Ev.of_allT (by kernel_rfl)) hA (fun x hx => hb.same (hlt x hx)) (fun x hx => hs x hx))
    (fun _ _ => rfl) (List.append_nil _).symm
    (hg.frame _) hg.2.1 (ok_one (by kernel_rfl) rfl (okWide_bool_mk Try.underlying4 _))⟩

theorem over : Rows.tokenEndsRow.holds Try.pinned (OpenSpec.ofChange Rows.tokenEndsSpec) :=
  OpenClaim.holds_of_wide 10 Try.f10 rfl rfl rfl rfl rfl rfl rfl ⟨rfl, rfl, rfl, rfl, rfl⟩ rfl rfl rfl rfl rfl (by kernel_rfl) Try.func10 faTokenEnds.all
    (of_decide_eq_true (by kernel_rfl)) (by unfold Func.isWrapper; first | (rw [if_pos (by decide +kernel)]; kernel_rfl) | (rw [if_neg (by decide +kernel)]; exact ⟨rfl, rfl⟩))
    (fun os started H enc _ => lifted os started H enc)

/-- ████ THE STATEMENT ████ -/
theorem proved : Rows.TokenEndsSaid :=
  over
#print axioms proved
end Go.Proofs.Ytjgbfnciedkafaa.tokenEnds
