/-
  TokenReadable: of a book of which all can be read, all is told for sure.
-/
import Derived.Test.YtjgbfnciedkafaaEvUGe
import Derived.Test.YtjgbfnciedkafaaRows
import Derived.WalkKit
import Derived.ProofKit
import Derived.OpenShut
import Derived.Test.YtjgbfnciedkafaaEvUOc
import Derived.Test.YtjgbfnciedkafaaEvUS3T
import Derived.ShutString
import Derived.Test.YtjgbfnciedkafaaFaTokenReadable
set_option linter.all false
namespace Go.Ev
open Go.Proofs
set_option maxRecDepth 1000000
noncomputable def rc12 : RC := (.seq (.reg [(.u (.box p4 (.t p1))), (.u (.mv p7 (.k (.b false))))]) (.seq (.seq (.reg [(.u (.ldn p19 (.t p4) 5)), (.u (.cf (some p20) p55 [(.t p19)])), (.u (.un p21 .not (.t p20)))]) (.cond (.t p21) (.seq (.reg [(.u (.cf (some p22) p22 [])), (.u (.mv p7 (.t p22)))]) .ret) .skip)) (.seq (.reg [(.u (.ldn p23 (.t p4) 5)), (.u (.new p8 [(.i .i64 0), (.i .i64 0), (.i .i64 0), .ns, .ns])), (.u (.st (.t p8) (.t p23) 5))]) (.seq (.drw [(.u (.ldn p24 (.t p4) 5)), (.u (.mv p25 (.t p2))), (.u (.cvi p26 .i64 (.t p25))), (.u (.ldn p27 (.t p4) 5)), (.u (.cf (some p28) p63 [(.t p27)])), (.u (.bin p29 .rem (.t p26) (.t p28))), (.u (.cf (some p30) p62 [(.t p24), (.t p29)])), (.u (.fad p31 (.t p8) 3)), (.u (.st (.t p31) (.t p30) 1))] [0, 0, 2, 0, 8, 30, 63, 127, 255]) (.seq (.reg [(.u (.mv p32 (.t p3))), (.u (.cvi p33 .i64 (.t p32))), (.u (.fad p34 (.t p8) 3)), (.u (.ld1 p35 (.t p34))), (.u (.len p36 (.t p35))), (.u (.bin p37 .add (.t p36) (.k (.i .i64 1)))), (.u (.bin p38 .rem (.t p33) (.t p37))), (.u (.mv p9 (.t p38)))]) (.seq (.reg [(.u (.ldn p40 (.t p8) 5)), (.u (.cf (some p41) p24 [(.t p40)])), (.u (.mv p42 (.t p9))), (.u (.cf (some p43) p34 [(.t p41), (.t p42)])), (.u (.mv p39 (.t p43))), (.u (.ext p44 (.t p39) 0)), (.u (.ext p45 (.t p39) 1)), (.u (.ext p46 (.t p39) 2)), (.u (.mv p10 (.t p44))), (.u (.mv p11 (.t p45))), (.u (.mv p12 (.t p46)))]) (.seq (.reg [(.u (.ldn p48 (.t p8) 5)), (.u (.cf (some p49) p24 [(.t p48)])), (.u (.mv p50 (.t p9))), (.u (.cf (some p51) p39 [(.t p49), (.t p50)])), (.u (.mv p47 (.t p51))), (.u (.ext p52 (.t p47) 0)), (.u (.ext p53 (.t p47) 1)), (.u (.new p13 [(.i .i64 0), (.i .i64 0)])), (.u (.st (.t p13) (.t p52) 2)), (.u (.mv p14 (.t p53)))]) (.seq (.reg [(.u (.ldn p55 (.t p8) 5)), (.u (.cf (some p56) p24 [(.t p55)])), (.u (.cf (some p57) p40 [(.t p56)])), (.u (.mv p54 (.t p57))), (.u (.ext p58 (.t p54) 0)), (.u (.ext p59 (.t p54) 1)), (.u (.new p15 [(.i .i64 0), (.i .i64 0)])), (.u (.st (.t p15) (.t p58) 2)), (.u (.mv p16 (.t p59)))]) (.seq (.drw [(.u (.ldn p60 (.t p8) 5)), (.u (.cf (some p61) p24 [(.t p60)])), (.u (.fad p62 (.t p8) 3)), (.u (.ld1 p63 (.t p62))), (.u (.cf (some p64) p25 [(.t p63)])), (.u (.cf (some p65) p26 [(.t p61), (.t p64)])), (.u (.mv p17 (.t p65)))] [0, 1, 0, 4, 15, 31, 63]) (.seq (.seq (.reg [(.u (.mv p66 (.t p12))), (.u (.bin p67 .neq (.t p66) (.k (.i .i64 0))))]) (.cond (.t p67) (.seq (.reg [(.u (.mv p68 (.t p12))), (.u (.bin p69 .eql (.t p68) (.k (.i .i64 11)))), (.u (.mv p70 (.t p69))), (.g p70 true (some p71) (.mv p71 (.t p14))), (.g p70 true (some p72) (.mv p72 (.t p12))), (.g p70 true (some p73) (.bin p73 .eql (.t p71) (.t p72))), (.u (.pick p74 (.t p70) (.t p73) (.k (.b false)))), (.u (.mv p75 (.t p74))), (.g p75 true (some p76) (.mv p76 (.t p16))), (.g p75 true (some p77) (.mv p77 (.t p12))), (.g p75 true (some p78) (.bin p78 .eql (.t p76) (.t p77))), (.u (.pick p79 (.t p75) (.t p78) (.k (.b false)))), (.u (.mv p80 (.t p79))), (.g p80 true (some p81) (.mv p81 (.t p17))), (.g p80 true (some p82) (.un p82 .not (.t p81))), (.u (.pick p83 (.t p80) (.t p82) (.k (.b false)))), (.u (.mv p84 (.t p83))), (.g p84 true (some p85) (.cf (some p85) p22 [])), (.u (.pick p86 (.t p84) (.t p85) (.k (.b false)))), (.u (.mv p7 (.t p86)))]) .ret) .skip)) (.seq (.seq (.reg [(.u (.mv p87 (.t p14))), (.u (.bin p88 .neq (.t p87) (.k (.i .i64 0)))), (.u (.mv p89 (.t p88))), (.g p89 false (some p90) (.mv p90 (.t p16))), (.g p89 false (some p91) (.bin p91 .neq (.t p90) (.k (.i .i64 0)))), (.u (.pick p92 (.t p89) (.k (.b true)) (.t p91))), (.u (.mv p93 (.t p92))), (.g p93 false (some p94) (.mv p94 (.t p17))), (.g p93 false (some p95) (.un p95 .not (.t p94))), (.u (.pick p96 (.t p93) (.k (.b true)) (.t p95))), (.u (.mv p97 (.t p96))), (.g p97 false (some p98) (.fad p98 (.t p13) 0)), (.g p97 false (some p99) (.ld1 p99 (.t p98))), (.g p97 false (some p100) (.fad p100 (.t p13) 1)), (.g p97 false (some p101) (.ld1 p101 (.t p100))), (.g p97 false (some p102) (.bin p102 .neq (.t p99) (.t p101))), (.u (.pick p103 (.t p97) (.k (.b true)) (.t p102))), (.u (.mv p104 (.t p103))), (.g p104 false (some p105) (.fad p105 (.t p15) 0)), (.g p104 false (some p106) (.ld1 p106 (.t p105))), (.g p104 false (some p107) (.fad p107 (.t p15) 1)), (.g p104 false (some p108) (.ld1 p108 (.t p107))), (.g p104 false (some p109) (.bin p109 .neq (.t p106) (.t p108))), (.u (.pick p110 (.t p104) (.k (.b true)) (.t p109))), (.u (.mv p111 (.t p110))), (.g p111 false (some p112) (.mv p112 (.t p10))), (.g p111 false (some p113) (.len p113 (.t p112))), (.g p111 false (some p114) (.fad p114 (.t p4) 0)), (.g p111 false (some p115) (.ld1 p115 (.t p114))), (.g p111 false (some p116) (.bin p116 .neq (.t p113) (.t p115))), (.u (.pick p117 (.t p111) (.k (.b true)) (.t p116))), (.u (.mv p118 (.t p117))), (.g p118 false (some p119) (.mv p119 (.t p11))), (.g p118 false (some p120) (.len p120 (.t p119))), (.g p118 false (some p121) (.fad p121 (.t p4) 0)), (.g p118 false (some p122) (.ld1 p122 (.t p121))), (.g p118 false (some p123) (.bin p123 .neq (.t p120) (.t p122))), (.u (.pick p124 (.t p118) (.k (.b true)) (.t p123)))]) (.cond (.t p124) (.seq (.reg [(.u (.mv p7 (.k (.b false))))]) .ret) .skip)) (.seq (.seq (.reg [(.u (.mv p18 (.k (.i .i64 0))))]) (.blk 0 (.loop (.seq (.seq (.reg [(.u (.mv p125 (.t p18))), (.u (.mv p126 (.t p10))), (.u (.len p127 (.t p126))), (.u (.bin p128 .lss (.t p125) (.t p127)))]) (.cond (.t p128) .skip (.exit 0))) (.seq (.blk 1 (.seq (.reg [(.u (.mv p131 (.t p10))), (.u (.mv p132 (.t p18))), (.u (.ixs p133 1 (.t p131) (.t p132))), (.u (.ld1 p134 (.t p133))), (.u (.bin p135 .eql (.t p134) (.k (.i .i64 3)))), (.u (.mv p136 (.t p135))), (.g p136 false (some p137) (.mv p137 (.t p11))), (.g p136 false (some p138) (.mv p138 (.t p18))), (.g p136 false (some p139) (.ixs p139 1 (.t p137) (.t p138))), (.g p136 false (some p140) (.ld1 p140 (.t p139))), (.g p136 false (some p141) (.bin p141 .eql (.t p140) (.k (.i .i64 3)))), (.u (.pick p142 (.t p136) (.k (.b true)) (.t p141)))]) (.cond (.t p142) (.seq (.reg [(.u (.mv p7 (.k (.b false))))]) .ret) .skip))) (.reg [(.u (.mv p129 (.t p18))), (.u (.bin p130 .add (.t p129) (.k (.i .i64 1)))), (.u (.mv p18 (.t p130)))])))))) (.seq (.reg [(.u (.cf (some p143) p22 [])), (.u (.mv p7 (.t p143)))]) .ret)))))))))))))
def rs12 : List RR := [(.t p7)]
theorem fn12 : FnOk Try.prog p13.ix 143 rc12 rs12 := ⟨Try.f12, bodyC Try.f12, Try.func12, by kernel_rfl, by kernel_rfl, by kernel_rfl, by kernel_rfl, by kernel_rfl⟩

end Go.Ev

namespace Go.Ev
open Go.Proofs
set_option maxRecDepth 100000
/-! ### TokenReadable: a book of which all can be read -/
theorem rd1_iff {n : Int} {l x : Ln} : rd1 n l x = true ↔ (1 ≤ x.k ∧ x.k ≤ 2) ∧ (0 ≤ x.c ∧ x.c ≤ n - 1) ∧ (0 ≤ x.t ∧ x.t ≤ n - 1) ∧ agB l x = true := by
  unfold rd1
  rw [Bool.and_eq_true, Bool.and_eq_true, Bool.and_eq_true, inR_iff, inR_iff, inR_iff]
theorem readB_iff {n : Int} {ls T : List Ln} : readB n ls T = true ↔ T.length = ls.length ∧ ∀ i, i < T.length → rd1 n (ls.getD i default) (T.getD i default) = true := by
  unfold readB
  rw [Bool.and_eq_true, decide_eq_true_iff, List.all_eq_true]
  constructor
  · rintro ⟨h1, h2⟩; exact ⟨h1, fun i hi => h2 i (List.mem_range.2 hi)⟩
  · rintro ⟨h1, h2⟩; exact ⟨h1, fun i hi => h2 i (List.mem_range.1 hi)⟩
theorem mem_getD {α : Type} {l : List α} {x d : α} (h : x ∈ l) : ∃ i, i < l.length ∧ l.getD i d = x := by
  obtain ⟨i, hi, e⟩ := List.getElem_of_mem h
  exact ⟨i, hi, by simp [List.getD, hi, e]⟩
theorem ext_getD {T T' : List Ln} (hl : T.length = T'.length) (h : ∀ i, i < T.length → T.getD i default = T'.getD i default) : T = T' := by
  refine List.ext_getElem hl fun i h1 h2 => ?_
  have := h i h1
  simpa [List.getD, h1, h2] using this
/-- A list of full lines. -/
def FullL (n : Int) (T : List Ln) : Prop := ∀ x ∈ T, (1 ≤ x.k ∧ x.k ≤ 2) ∧ (0 ≤ x.c ∧ x.c ≤ n - 1) ∧ (0 ≤ x.t ∧ x.t ≤ n - 1)
theorem full_of {n : Int} {ls T : List Ln} (h : readB n ls T = true) : FullL n T := fun x hx => by
  obtain ⟨i, hi, rfl⟩ := mem_getD (d := default) hx
  have := rd1_iff.1 ((readB_iff.1 h).2 i hi)
  exact ⟨this.1, this.2.1, this.2.2.1⟩
theorem full_prod {n : Int} : ∀ {T : List Ln}, FullL n T → ∀ p : Int, T.foldl (fun m l => m * rdN n l) p = p
  | [], _, p => rfl
  | x :: T, h, p => by
    have hx := h x List.mem_cons_self
    have h1 : rdN n x = 1 := by
      unfold rdN szK szC szT
      rw [if_neg (by omega), if_neg (by omega), if_neg (by omega)]; rfl
    show T.foldl (fun m l => m * rdN n l) (p * rdN n x) = p
    rw [h1, Int.mul_one]
    exact full_prod (fun y hy => h y (List.mem_cons_of_mem _ hy)) p
theorem full_fault {n coin box : Int} {ls X : List Ln} {cs : List Ct} (h : faultT n coin box ls cs = 0) (hX : readB n ls X = true) : faultT n coin box X cs = 0 := by
  obtain ⟨f1, f2, f3, f4⟩ := fault_okT h
  have hl := (readB_iff.1 hX).1
  have hF := full_of hX
  unfold vldT at f3
  simp only [Bool.and_eq_true] at f3
  obtain ⟨v1, v2, v3, v4, v5⟩ := f3
  have hn := inR_iff.1 v1
  have hv : vldT n coin box X cs = true := by
    unfold vldT
    simp only [Bool.and_eq_true]
    refine ⟨v1, v2, v3, ?_, by rw [hl]; exact v5⟩
    rw [List.all_eq_true]
    intro x hx
    have := hF x hx
    unfold lnOk
    rw [Bool.and_eq_true, Bool.and_eq_true, inR_iff, inR_iff, inR_iff]
    omega
  have hm : manyR n X ≤ 4096 := by
    have h1 := many_prod hn.1 hn.2 X
    have h2 : prodP n X = 1 := full_prod hF 1
    omega
  unfold faultT
  rw [if_neg (by omega), if_pos hv, if_neg (by omega)]
theorem full_only {n : Int} {X T : List Ln} (hF : FullL n X) (h : readB n X T = true) : T = X := by
  obtain ⟨hl, h2⟩ := readB_iff.1 h
  refine ext_getD hl fun i hi => ?_
  have hx := hF _ (getD_mem (d := default) (show i < X.length by omega))
  obtain ⟨_, _, _, ha⟩ := rd1_iff.1 (h2 i hi)
  unfold agB at ha
  rw [Bool.and_eq_true, Bool.and_eq_true, Bool.or_eq_true, Bool.or_eq_true, Bool.or_eq_true] at ha
  simp only [decide_eq_true_iff] at ha
  generalize X.getD i default = a at *
  generalize T.getD i default = b at *
  obtain ⟨a1, a2, a3⟩ := a
  obtain ⟨b1, b2, b3⟩ := b
  have e1 : b1 = a1 := by
    have h1 : a1 = 0 ∨ a1 = b1 := ha.1
    have h2 : 1 ≤ a1 := hx.1.1
    omega
  have e2 : b2 = a2 := by
    have h1 : a2 < 0 ∨ a2 = b2 := ha.2.1
    have h2 : 0 ≤ a2 := hx.2.1.1
    omega
  have e3 : b3 = a3 := by
    have h1 : a3 < 0 ∨ a3 = b3 := ha.2.2
    have h2 : 0 ≤ a3 := hx.2.2.1
    omega
  rw [e1, e2, e3]
theorem full_ref {B : Bk} (V : VB B) (hF : FullL B.n B.ls) : ∀ X ∈ refT B, X = B.ls := fun X h => by
  rw [mem_refT V] at h
  unfold fitsB at h
  rw [Bool.and_eq_true] at h
  exact full_only hF h.1
theorem full_has {B : Bk} (V : VB B) (hF : FullL B.n B.ls) : fitsB B.n B.coin B.box B.ls B.cs B.ls = hasB B := by
  have h1 := hasB_nil V
  have h2 := mem_refT V (X := B.ls)
  rw [Bool.eq_iff_iff, h1, ← h2]
  constructor
  · intro h e; rw [e] at h; cases h
  · intro h
    obtain ⟨X, s, hs⟩ := List.exists_cons_of_ne_nil h
    have : X ∈ refT B := by rw [hs]; exact List.mem_cons_self
    rw [full_ref V hF X this] at this
    exact this
theorem one_ans {B : Bk} (V : VB B) (hF : FullL B.n B.ls) (hne : exT B B.ls.length [] ≠ []) (aft : Nat) (ak : Mo → Int) : (ansL B aft ak).foldl min ((ansL B aft ak).getD 0 0) = ak (moR B.box B.coin B.ls aft) ∧ (ansL B aft ak).foldl max ((ansL B aft ak).getD 0 0) = ak (moR B.box B.coin B.ls aft) := by
  have g := fold_mem (ans_ne (aft := aft) (ak := ak) hne)
  have k := mem_ans V (aft := aft) (ak := ak) (g := fun t => ak (moR B.box B.coin t aft)) fun X => rfl
  constructor
  · obtain ⟨t, ht, e⟩ := List.mem_map.1 ((k _).1 g.1)
    rw [full_ref V hF t ht] at e
    exact e.symm
  · obtain ⟨t, ht, e⟩ := List.mem_map.1 ((k _).1 g.2)
    rw [full_ref V hF t ht] at e
    exact e.symm
theorem one_vd {B : Bk} (V : VB B) (hF : FullL B.n B.ls) (hne : exT B B.ls.length [] ≠ []) (aft x : Nat) : vdO B aft x ≠ 3 := by
  have h := one_ans V hF hne aft fun m => min (m.h x) 1
  unfold vdO outA
  rw [h.1, h.2]
  have hb : 0 ≤ (moR B.box B.coin B.ls aft).h x := by
    show 0 ≤ if x < 4 then cOut B.ls (x : Int) aft + 1 else tOut B.ls ((x - 4 : Nat) : Int) aft + 1
    have h1 := cOut_bd B.ls (x : Int) aft
    have h2 := tOut_bd B.ls ((x - 4 : Nat) : Int) aft
    split <;> omega
  generalize (moR B.box B.coin B.ls aft).h x = v at hb
  show vdT (min v 1) (min v 1) ≠ 3
  unfold vdT
  split
  · decide
  · split
    · decide
    · omega
theorem full_wf {n : Int} (hn : n ≤ 4) {T : List Ln} (hF : FullL n T) : ∀ r ∈ T, lnWf r := fun r hr => by
  have := hF r hr
  exact ⟨wf_small (by omega) (by omega), wf_small (by omega) (by omega), wf_small (by omega) (by omega)⟩
set_option maxHeartbeats 4000000 in
theorem j_TokenReadable (n coin box : Int) (ls : List Ln) (cs : List Ct) (which after : Int) (hw : 0 ≤ which ∧ which ≤ 65535) (hh : 0 ≤ after ∧ after ≤ 255) (AW : PureF Try.prog p22.ix [] (.b true)) : PureF Try.prog p13.ix [.ag [.i .i64 n, .i .i64 coin, .i .i64 box, .lst 3 (rows lnD ls), .lst 3 (rows ctD cs)], .i .u16 which, .i .u8 after] (.b true) := by
  have iR := j_ready n coin box ls cs
  unfold bk5 at iR
  refine PureF.run fn12 (by simp) (by simp [PuL, PuE, Pu, pu_ints, pu_ln, pu_ct, pu_tl]) ?_; conv => whnf
  cases hR : readyB n coin box ls cs with
  | false =>
    rw [hR] at iR
    repeat' first | ((first | with_reducible apply WB.tt | with_reducible apply WB.ff | refine Rn.seq ?_ | refine Rn.reg ?_ | refine Rn.drw ?_ | refine Rn.blk ?_ | refine Rn.skip ?_ | refine Rn.ret ?_ | refine Rn.exit ?_ | refine Rn.cond rfl ?_ | refine And.intro (InR.i64 (by omega) (by omega)) ?_ | refine And.intro (show _ ≠ (0 : Int) by omega) ?_ | refine WIx.intsN (by omega) ?_ | refine WIx.rowsN (by omega) ?_ | refine WCall.pure (iR) ?_ | refine WCall.pure (AW) ?_ | with_reducible refine WB.decT (by first | with_reducible rfl | assumption | omega | exact ⟨rfl, rfl⟩) ?_ | with_reducible refine WB.decF (by first | assumption | omega) ?_ | with_reducible refine WB.ndT (by first | with_reducible rfl | assumption | omega | exact ⟨rfl, rfl⟩) ?_ | with_reducible refine WB.ndF (by first | assumption | omega) ?_ | with_reducible refine WB.nt ?_ | with_reducible refine WB.nf ?_ | with_reducible refine WB.dec (fun h => ?_) (fun h => ?_) | with_reducible refine WB.ndec (fun h => ?_) (fun h => ?_) | refine WB.mk (fun h => ?_) (fun h => ?_)) <;> conv => whnf)
    exact Fin.b rfl rfl
  | true =>
  rw [hR] at iR
  obtain ⟨l8, l4, h0⟩ := ready_of hR
  have V := VB.of h0
  have hn : 1 ≤ n ∧ n ≤ 4 := V.n
  have hM1 : 1 ≤ manyR n ls ∧ manyR n ls ≤ 4096 := by
    have h1 := many_prod hn.1 hn.2 ls
    have h2 : manyR n ls ≤ 4096 := V.many
    omega
  have cM := j_Many n coin box ls cs hn (by omega) V.ls
  unfold bk5 at cM
  have a1 := Int.tmod_nonneg (manyR n ls) hw.1
  have a2 := Int.tmod_lt_of_pos which (show 0 < manyR n ls by omega)
  obtain ⟨m, hm2⟩ := Int.eq_ofNat_of_zero_le a1
  have cN := j_Nth n coin box ls cs m V (by omega)
  unfold bk5 at cN
  have hX := nth_read V m
  have hXl : (nthL n ls m).length = ls.length := nthF_len n ls m ls.length
  have hX : readB n ls (nthL n ls m) = true := hX
  repeat' first | ((first | with_reducible apply WB.tt | with_reducible apply WB.ff | refine Rn.seq ?_ | refine Rn.reg ?_ | refine Rn.drw ?_ | refine Rn.blk ?_ | refine Rn.skip ?_ | refine Rn.ret ?_ | refine Rn.exit ?_ | refine Rn.cond rfl ?_ | refine And.intro (InR.i64 (by omega) (by omega)) ?_ | refine And.intro (show _ ≠ (0 : Int) by omega) ?_ | refine WIx.intsN (by omega) ?_ | refine WIx.rowsN (by omega) ?_ | refine WCall.pure (iR) ?_ | refine WCall.pure (cM) ?_ | with_reducible refine WB.decT (by first | with_reducible rfl | assumption | omega | exact ⟨rfl, rfl⟩) ?_ | with_reducible refine WB.decF (by first | assumption | omega) ?_ | with_reducible refine WB.ndT (by first | with_reducible rfl | assumption | omega | exact ⟨rfl, rfl⟩) ?_ | with_reducible refine WB.ndF (by first | assumption | omega) ?_ | with_reducible refine WB.nt ?_ | with_reducible refine WB.nf ?_ | with_reducible refine WB.dec (fun h => ?_) (fun h => ?_) | with_reducible refine WB.ndec (fun h => ?_) (fun h => ?_) | refine WB.mk (fun h => ?_) (fun h => ?_)) <;> conv => whnf)
  rw [hm2]
  generalize nthL n ls m = X at *
  have hF := full_of hX
  have h0X := full_fault h0 hX
  have VX := VB.of h0X
  have eX := rows_length lnD X
  have iB := j_Book n coin box X cs (by omega) (by omega)
  have iTr := j_Truth X (by omega)
  have iP := j_Prove n coin box X cs X (by omega) (full_wf hn.2 hF)
  rw [prove_ref h0X, show fitsB n coin box X cs X = hasB (B5 n coin box X cs) from full_has VX hF] at iP
  have iX := j_MixedP n coin box X cs
  have m1 := Int.tmod_nonneg (((rows lnD X).length : Int) + 1) hh.1
  have m2 := Int.tmod_lt_of_pos after (show (0 : Int) < ((rows lnD X).length : Int) + 1 by omega)
  obtain ⟨k, hk2⟩ := Int.eq_ofNat_of_zero_le m1
  have hk : k ≤ X.length := by omega
  have iM := j_MoneyP n coin box X cs (k : Int)
  have iO := j_OutP n coin box X cs (k : Int)
  have ht : inR (k : Int) 0 (X.length : Int) = true := inR_iff.2 (by omega)
  unfold monT at iM
  unfold outT at iO
  unfold mixT at iX
  rw [ht] at iM iO
  repeat' first | ((first | with_reducible apply WB.tt | with_reducible apply WB.ff | refine Rn.seq ?_ | refine Rn.reg ?_ | refine Rn.drw ?_ | refine Rn.blk ?_ | refine Rn.skip ?_ | refine Rn.ret ?_ | refine Rn.exit ?_ | refine Rn.cond rfl ?_ | refine And.intro (InR.i64 (by omega) (by omega)) ?_ | refine And.intro (show _ ≠ (0 : Int) by omega) ?_ | refine WIx.intsN (by omega) ?_ | refine WIx.rowsN (by omega) ?_ | refine WCall.pure (cN) ?_ | with_reducible refine WB.decT (by first | with_reducible rfl | assumption | omega | exact ⟨rfl, rfl⟩) ?_ | with_reducible refine WB.decF (by first | assumption | omega) ?_ | with_reducible refine WB.ndT (by first | with_reducible rfl | assumption | omega | exact ⟨rfl, rfl⟩) ?_ | with_reducible refine WB.ndF (by first | assumption | omega) ?_ | with_reducible refine WB.nt ?_ | with_reducible refine WB.nf ?_ | with_reducible refine WB.dec (fun h => ?_) (fun h => ?_) | with_reducible refine WB.ndec (fun h => ?_) (fun h => ?_) | refine WB.mk (fun h => ?_) (fun h => ?_)) <;> conv => whnf)
  rw [hk2]
  cases hb : hasB (B5 n coin box X cs) with
  | false =>
    rw [sE_false h0X hb, if_neg (by decide)] at iM iX iO
    rw [hb] at iP
    repeat' first | ((first | with_reducible apply WB.tt | with_reducible apply WB.ff | refine Rn.seq ?_ | refine Rn.reg ?_ | refine Rn.drw ?_ | refine Rn.blk ?_ | refine Rn.skip ?_ | refine Rn.ret ?_ | refine Rn.exit ?_ | refine Rn.cond rfl ?_ | refine And.intro (InR.i64 (by omega) (by omega)) ?_ | refine And.intro (show _ ≠ (0 : Int) by omega) ?_ | refine WIx.intsN (by omega) ?_ | refine WIx.rowsN (by omega) ?_ | refine WCall.pure (iB) ?_ | refine WCall.pure (iM) ?_ | refine WCall.pure (iX) ?_ | refine WCall.pure (iO) ?_ | refine WCall.pure (iTr) ?_ | refine WCall.pure (iP) ?_ | refine WCall.pure (AW) ?_ | with_reducible refine WB.decT (by first | with_reducible rfl | assumption | omega | exact ⟨rfl, rfl⟩) ?_ | with_reducible refine WB.decF (by first | assumption | omega) ?_ | with_reducible refine WB.ndT (by first | with_reducible rfl | assumption | omega | exact ⟨rfl, rfl⟩) ?_ | with_reducible refine WB.ndF (by first | assumption | omega) ?_ | with_reducible refine WB.nt ?_ | with_reducible refine WB.nf ?_ | with_reducible refine WB.dec (fun h => ?_) (fun h => ?_) | with_reducible refine WB.ndec (fun h => ?_) (fun h => ?_) | refine WB.mk (fun h => ?_) (fun h => ?_)) <;> conv => whnf)
    all_goals first | exact Fin.b rfl rfl | (exfalso; omega) | exact absurd h (by decide)
  | true =>
  rw [hb] at iP
  have hne : exT (B5 n coin box X cs) (B5 n coin box X cs).ls.length [] ≠ [] := ex_ne (sE_true h0X hb)
  rw [sE_true h0X hb, if_pos rfl, Int.toNat_natCast] at iM iO
  rw [sE_true h0X hb, if_pos rfl] at iX
  have o1 := one_ans VX hF hne k Mo.box
  have o2 := one_ans VX hF hne X.length Mo.mix
  unfold lohi at iM iX
  rw [o1.1, o1.2] at iM
  rw [o2.1, o2.2] at iX
  generalize Mo.box (moR (B5 n coin box X cs).box (B5 n coin box X cs).coin (B5 n coin box X cs).ls k) = r1 at *
  generalize Mo.mix (moR (B5 n coin box X cs).box (B5 n coin box X cs).coin (B5 n coin box X cs).ls X.length) = q1 at *
  have w0 : ∀ j, j < n.toNat → (vdL (B5 n coin box X cs) k 0).getD j 0 ≠ 3 := fun j hj => by
    have h2 : (vdL (B5 n coin box X cs) k 0).getD j 0 = vdO (B5 n coin box X cs) k (0 + j) := vdL_at hj
    rw [h2]; exact one_vd VX hF hne _ _
  have w4 : ∀ j, j < n.toNat → (vdL (B5 n coin box X cs) k 4).getD j 0 ≠ 3 := fun j hj => by
    have h2 : (vdL (B5 n coin box X cs) k 4).getD j 0 = vdO (B5 n coin box X cs) k (4 + j) := vdL_at hj
    rw [h2]; exact one_vd VX hF hne _ _
  have vl0 : (ints (vdL (B5 n coin box X cs) k 0)).length = n.toNat := by rw [ints_length]; exact vdL_len _ _ _
  have vl4 : (ints (vdL (B5 n coin box X cs) k 4)).length = n.toNat := by rw [ints_length]; exact vdL_len _ _ _
  have wl0 : (vdL (B5 n coin box X cs) k 0).length = n.toNat := vdL_len _ _ _
  have wl4 : (vdL (B5 n coin box X cs) k 4).length = n.toNat := vdL_len _ _ _
  generalize vdL (B5 n coin box X cs) k 0 = C0 at *
  generalize vdL (B5 n coin box X cs) k 4 = C4 at *
  repeat' first | ((first | with_reducible apply WB.tt | with_reducible apply WB.ff | refine Rn.seq ?_ | refine Rn.reg ?_ | refine Rn.drw ?_ | refine Rn.blk ?_ | refine Rn.skip ?_ | refine Rn.ret ?_ | refine Rn.exit ?_ | refine Rn.cond rfl ?_ | refine And.intro (InR.i64 (by omega) (by omega)) ?_ | refine And.intro (show _ ≠ (0 : Int) by omega) ?_ | refine WIx.intsN (by omega) ?_ | refine WIx.rowsN (by omega) ?_ | refine WCall.pure (iB) ?_ | refine WCall.pure (iM) ?_ | refine WCall.pure (iX) ?_ | refine WCall.pure (iO) ?_ | refine WCall.pure (iTr) ?_ | refine WCall.pure (iP) ?_ | with_reducible refine WB.decT (by first | with_reducible rfl | assumption | omega | exact ⟨rfl, rfl⟩) ?_ | with_reducible refine WB.decF (by first | assumption | omega) ?_ | with_reducible refine WB.ndT (by first | with_reducible rfl | assumption | omega | exact ⟨rfl, rfl⟩) ?_ | with_reducible refine WB.ndF (by first | assumption | omega) ?_ | with_reducible refine WB.nt ?_ | with_reducible refine WB.nf ?_ | with_reducible refine WB.dec (fun h => ?_) (fun h => ?_) | with_reducible refine WB.ndec (fun h => ?_) (fun h => ?_) | refine WB.mk (fun h => ?_) (fun h => ?_)) <;> conv => whnf)
  all_goals first | (exfalso; omega) | skip
  refine Rn.loop (fun j : Nat => ⟨(.n (.n .e none (.n (.n (.n .e (some (.i .i64 (j : Int))) .e) (some (.lst 1 (ints C0))) .e) none .e)) none (.n .e none (.n (.n .e (some (.lst 1 (ints C4))) .e) none .e))), .e, .i (.o .h), none⟩) (fun j => j ≤ n.toNat) (fun j => n.toNat - j) 0 ?_ ?_ ?_
  · refine Go.Ev.X.le.mk ?_ (T.le_e _) (Nat.le_refl _) rfl rfl
    (repeat' first | exact T.le_e _ | refine T.le_some ?_ rfl ?_ | refine T.le_none ?_ ?_)
  · exact Nat.zero_le _
  intro j hj
  have hj : j ≤ n.toNat := hj
  conv => whnf
  repeat' first | ((first | with_reducible apply WB.tt | with_reducible apply WB.ff | refine Rn.seq ?_ | refine Rn.reg ?_ | refine Rn.drw ?_ | refine Rn.blk ?_ | refine Rn.skip ?_ | refine Rn.ret ?_ | refine Rn.exit ?_ | refine Rn.cond rfl ?_ | refine And.intro (InR.i64 (by omega) (by omega)) ?_ | refine And.intro (show _ ≠ (0 : Int) by omega) ?_ | refine WIx.intsN (by omega) ?_ | refine WIx.rowsN (by omega) ?_) <;> conv => whnf)
  refine WB.dec (fun h => ?_) (fun h => ?_) <;> conv => whnf
  · have hlt : j < n.toNat := by omega
    have c1 := w0 j hlt
    have c2 := w4 j hlt
    repeat' first | ((first | with_reducible apply WB.tt | with_reducible apply WB.ff | refine Rn.seq ?_ | refine Rn.reg ?_ | refine Rn.drw ?_ | refine Rn.blk ?_ | refine Rn.skip ?_ | refine Rn.ret ?_ | refine Rn.exit ?_ | refine Rn.cond rfl ?_ | refine And.intro (InR.i64 (by omega) (by omega)) ?_ | refine And.intro (show _ ≠ (0 : Int) by omega) ?_ | refine WIx.intsN (by omega) ?_ | refine WIx.rowsN (by omega) ?_ | with_reducible refine WB.decT (by first | with_reducible rfl | assumption | omega | exact ⟨rfl, rfl⟩) ?_ | with_reducible refine WB.decF (by first | assumption | omega) ?_ | with_reducible refine WB.ndT (by first | with_reducible rfl | assumption | omega | exact ⟨rfl, rfl⟩) ?_ | with_reducible refine WB.ndF (by first | assumption | omega) ?_ | with_reducible refine WB.nt ?_ | with_reducible refine WB.nf ?_ | with_reducible refine WB.dec (fun h => ?_) (fun h => ?_) | with_reducible refine WB.ndec (fun h => ?_) (fun h => ?_) | refine WB.mk (fun h => ?_) (fun h => ?_)) <;> conv => whnf)
    refine Again.to (j + 1) (by omega) (by omega) (Nat.le_refl _) ?_
    (refine Shr.of ?_ ?_ rfl rfl) <;> (repeat' first | exact Rel.e | refine Rel.some ?_ ?_ ?_ | refine Rel.none ?_ ?_) <;> (try first | (show Fz _ _ _ _; first | exact Fz.pu trivial | (refine Fz.i ?_; first | rfl | omega) | (refine Fz.kpt ?_; (focus (show Pos.nat _ < Pos.nat _; simp [Pos.nat]; done))) | (refine Fz.ksl ?_; (focus (show Pos.nat _ < Pos.nat _; simp [Pos.nat]; done))) | (refine Fz.kmp ?_; (focus (show Pos.nat _ < Pos.nat _; simp [Pos.nat]; done))) | (refine Fz.pu ?_; simp [Cell.d, Pu, PuL, PuE, pu_ints, pu_ln, pu_ct, pu_tl]; done) | (refine Fz.pu ?_; simp only [Cell.d]; assumption)) | (refine RO'.of ?_ (ShC.same ?_); (focus (show Pos.nat _ < Pos.nat _; simp [Pos.nat]; done)); (repeat' first | exact ShC.nl | refine ShC.cn ?_ ?_) <;> first | exact Fz.pu trivial | (refine Fz.i ?_; first | rfl | omega) | (refine Fz.kpt ?_; (focus (show Pos.nat _ < Pos.nat _; simp [Pos.nat]; done))) | (refine Fz.ksl ?_; (focus (show Pos.nat _ < Pos.nat _; simp [Pos.nat]; done))) | (refine Fz.kmp ?_; (focus (show Pos.nat _ < Pos.nat _; simp [Pos.nat]; done))) | (refine Fz.pu ?_; simp [Cell.d, Pu, PuL, PuE, pu_ints, pu_ln, pu_ct, pu_tl]; done) | (refine Fz.pu ?_; simp only [Cell.d]; assumption)))
    all_goals first | exact Fz.pu (pu_ints _) | skip
  · repeat' first | ((first | with_reducible apply WB.tt | with_reducible apply WB.ff | refine Rn.seq ?_ | refine Rn.reg ?_ | refine Rn.drw ?_ | refine Rn.blk ?_ | refine Rn.skip ?_ | refine Rn.ret ?_ | refine Rn.exit ?_ | refine Rn.cond rfl ?_ | refine And.intro (InR.i64 (by omega) (by omega)) ?_ | refine And.intro (show _ ≠ (0 : Int) by omega) ?_ | refine WIx.intsN (by omega) ?_ | refine WIx.rowsN (by omega) ?_ | refine WCall.pure (AW) ?_ | with_reducible refine WB.decT (by first | with_reducible rfl | assumption | omega | exact ⟨rfl, rfl⟩) ?_ | with_reducible refine WB.decF (by first | assumption | omega) ?_ | with_reducible refine WB.ndT (by first | with_reducible rfl | assumption | omega | exact ⟨rfl, rfl⟩) ?_ | with_reducible refine WB.ndF (by first | assumption | omega) ?_ | with_reducible refine WB.nt ?_ | with_reducible refine WB.nf ?_ | with_reducible refine WB.dec (fun h => ?_) (fun h => ?_) | with_reducible refine WB.ndec (fun h => ?_) (fun h => ?_) | refine WB.mk (fun h => ?_) (fun h => ?_)) <;> conv => whnf)
    exact Fin.b rfl rfl
theorem main_tokenReadable (AW : PureF Try.prog p22.ix [] (.b true)) {es : List D} (fit : FitP [(true, [.i .i64, .i .i64, .i .i64, .sl [.i .i64, .i .i64, .i .i64], .sl [.i .i64, .i .i64, .i .i64]]), (false, [.i .u16]), (false, [.i .u8])] es) : PureF Try.prog 12 es (.b true) := by
  obtain ⟨n, coin, box, ls, cs, _, rfl, g1⟩ := fit.book
  obtain ⟨w, _, rfl, w0, g2⟩ := g1.i
  obtain ⟨k, _, rfl, w1, g3⟩ := g2.i
  obtain rfl := g3.no
  exact j_TokenReadable n coin box ls cs w k (wf_u16 w0) (wf_u8 w1) AW
end Go.Ev

namespace Go.Proofs.Ytjgbfnciedkafaa.tokenReadable
open Go.ChangeShapes Go.WideShapes Go.ChangeAt Go.RowKit
open Go.ChangeMaps (open_string shut_string)
set_option linter.unusedVariables false

theorem laid : laidOutB Try.prog = true := faP.laid
theorem own : ownKnob Try.prog.godebug = none := by kernel_rfl

/-! ### the walk -/
theorem walk {es : List Go.Ev.D} (fit : Go.Ev.FitP [(true, [.i .i64, .i .i64, .i .i64, .sl [.i .i64, .i .i64, .i .i64], .sl [.i .i64, .i .i64, .i .i64]]), (false, [.i .u16]), (false, [.i .u8])] es) {args : Array Value} {W : World} (ha : Go.Ev.DVL (Go.Ev.γH W) W es args.toList) :
    Calls Try.prog 12 args W fun e w' => e = .returned (.bool true) ∧ Grown W w' ∧ Below W.heap.size W w' :=
  Go.Ev.PureF.calls (Go.Ev.main_tokenReadable (fun ob nx lg => Go.Ev.t21.any ob nx lg) fit) ha

set_option maxRecDepth 100000 in
theorem lifted (os : Os) (started : os.Started) (H : Type) (enc : TypeId × Value → H) :
    ReturnsInHanded {} Try.checked os 12 .any (Rows.tokenReadableSpec.pre6 enc Try.prog Try.f12 Rows.tokenReadableRow.domain false) (Rows.tokenReadableSpec.post enc Try.prog Try.f12 false true false false) := by
  refine returnsInHanded_of_change (C := Try.checked) own started (by kernel_rfl) Try.func12
    (ChangeSpec.witness6 (enc := enc) (C := Try.checked) false ⟨#[], #[.agg #[.int .i64 0, .int .i64 0, .int .i64 0, .slice none 0 0, .slice none 0 0], .int .u16 0, .int .u8 0], []⟩ 8 (by kernel_rfl) (by kernel_rfl) (by kernel_rfl) (by kernel_rfl)) ?_
  intro W base args ds gs before hval0 hW hcnd _
  have hval : ∀ (j : Nat) t v, Try.f12.params[j]? = some t → args[j]? = some v → Value.okWide Try.prog W .any base t v := hval0
  have hW' := hW
  obtain ⟨p, q, hA0, hV, rfl, hfz, hnd⟩ := hW
  have hA : DataW.TrodAll enc Try.prog W 0 (fun _ => true) true Try.f12.params.toList args.toList ds p := hA0
  rw [Try.params12] at hA hval
  obtain ⟨rfl, rfl⟩ := trodVars_none hV
  obtain ⟨d0, d1, d2, rfl⟩ := Go.Ev.len3 (Go.Ev.trod_len hA)
  clear hA0 hval0
  simp only [List.append_nil] at hW'
  obtain ⟨es, fit, dv⟩ := Go.Ev.open_all (n := 6) (pars := [(true, [.i .i64, .i .i64, .i .i64, .sl [.i .i64, .i .i64, .i .i64], .sl [.i .i64, .i .i64, .i .i64]]), (false, [.i .u16]), (false, [.i .u8])]) (by kernel_rfl) hA (fun j t v h1 h2 => hval j t v (by simpa using h1) (by simpa using h2))
  have hlt : ∀ x ∈ p, x.block < W.heap.size := fun x hx => by simpa using hW'.lt x hx
  refine (walk fit dv).mono fun e W' ⟨he, hg, hb⟩ => ?_
  subst he
  exact ⟨_, rfl, post_of_same (pa := p) (pv := []) hW' (fun _ _ _ => (trodAll_cons_mk (shut_bool Try.underlying4 _) trodAll_mk0))
    (fun sp hs => Go.Ev.stays_all laid (Go.Ev.of_allT (by kernel_rfl)) hA (fun x hx => hb.same (hlt x hx)) (fun x hx => hs x hx))
    (fun _ _ => rfl) (List.append_nil _).symm
    (hg.frame _) hg.2.1 (ok_one (by kernel_rfl) rfl (okWide_bool_mk Try.underlying4 _))⟩

theorem over : Rows.tokenReadableRow.holds Try.pinned (OpenSpec.ofChange Rows.tokenReadableSpec) :=
  OpenClaim.holds_of_wide 12 Try.f12 rfl rfl rfl rfl rfl rfl rfl ⟨rfl, rfl, rfl, rfl, rfl⟩ rfl rfl rfl rfl rfl (by kernel_rfl) Try.func12 faTokenReadable.all
    (of_decide_eq_true (by kernel_rfl)) (by unfold Func.isWrapper; first | (rw [if_pos (by decide +kernel)]; kernel_rfl) | (rw [if_neg (by decide +kernel)]; exact ⟨rfl, rfl⟩))
    (fun os started H enc _ => lifted os started H enc)

/-- ████ THE STATEMENT ████ -/
theorem proved : Rows.TokenReadableSaid :=
  over
#print axioms proved
end Go.Proofs.Ytjgbfnciedkafaa.tokenReadable
