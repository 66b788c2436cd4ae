/-
  TideEnds: the law answers true for every table, every hour and every row; the only conditions are those of the row itself.
-/
import Derived.Test.YtpemagogcagipaaRows
import Derived.WalkKit
import Derived.ProofKit
import Derived.OpenShut
import Derived.Test.YtpemagogcagipaaEvFt
import Derived.Test.YtpemagogcagipaaEvSy
import Derived.ShutString
import Derived.Test.YtpemagogcagipaaEvMN
set_option linter.all false
namespace Go.Ev
open Go.Proofs
set_option maxRecDepth 1000000
noncomputable def rc10 : RC := (.seq (.reg [(.u (.box p4 (.t p1))), (.u (.mv p7 (.k (.b false))))]) (.seq (.seq (.reg [(.u (.ldn p20 (.t p4) 5)), (.u (.cf (some p21) p52 [(.t p20)])), (.u (.un p22 .not (.t p21))), (.u (.mv p23 (.t p22))), (.g p23 false (some p24) (.fad p24 (.t p4) 3)), (.g p23 false (some p25) (.ld1 p25 (.t p24))), (.g p23 false (some p26) (.len p26 (.t p25))), (.g p23 false (some p27) (.bin p27 .eql (.t p26) (.k (.i .i64 0)))), (.u (.pick p28 (.t p23) (.k (.b true)) (.t p27)))]) (.cond (.t p28) (.seq (.reg [(.u (.cf (some p29) p21 [])), (.u (.mv p7 (.t p29)))]) .ret) .skip)) (.seq (.drw [(.u (.mv p30 (.t p2))), (.u (.cvi p31 .i64 (.t p30))), (.u (.fad p32 (.t p4) 0)), (.u (.ld1 p33 (.t p32))), (.u (.bin p34 .add (.t p33) (.k (.i .i64 1)))), (.u (.bin p35 .rem (.t p31) (.t p34))), (.u (.mv p36 (.t p3))), (.u (.cvi p37 .i64 (.t p36))), (.u (.fad p38 (.t p4) 3)), (.u (.ld1 p39 (.t p38))), (.u (.len p40 (.t p39))), (.u (.bin p41 .rem (.t p37) (.t p40))), (.u (.mv p8 (.t p35))), (.u (.mv p9 (.t p41)))] [0, 1, 0, 4, 12, 31, 0, 64, 0, 256, 768, 1984, 63, 8191]) (.seq (.reg [(.u (.ldn p43 (.t p4) 5)), (.u (.cf (some p44) p23 [(.t p43)])), (.u (.cf (some p45) p32 [(.t p44)])), (.u (.mv p42 (.t p45))), (.u (.ext p46 (.t p42) 0)), (.u (.ext p47 (.t p42) 1)), (.u (.mv p10 (.t p46))), (.u (.mv p11 (.t p47)))]) (.seq (.reg [(.u (.ldn p49 (.t p4) 5)), (.u (.cf (some p50) p23 [(.t p49)])), (.u (.mv p51 (.t p9))), (.u (.cf (some p52) p39 [(.t p50), (.t p51)])), (.u (.mv p48 (.t p52))), (.u (.ext p53 (.t p48) 0)), (.u (.ext p54 (.t p48) 1)), (.u (.new p12 [(.i .i64 0), (.i .i64 0)])), (.u (.st (.t p12) (.t p53) 2)), (.u (.mv p13 (.t p54)))]) (.seq (.reg [(.u (.ldn p55 (.t p4) 5)), (.u (.cf (some p56) p55 [(.t p55)])), (.u (.mv p14 (.t p56)))]) (.seq (.seq (.reg [(.u (.mv p57 (.t p14))), (.u (.len p58 (.t p57))), (.u (.bin p59 .eql (.t p58) (.k (.i .i64 0))))]) (.cond (.t p59) (.seq (.reg [(.u (.mv p60 (.t p11))), (.u (.bin p61 .eql (.t p60) (.k (.i .i64 11)))), (.u (.mv p62 (.t p61))), (.g p62 true (some p63) (.mv p63 (.t p13))), (.g p62 true (some p64) (.mv p64 (.t p11))), (.g p62 true (some p65) (.bin p65 .eql (.t p63) (.t p64))), (.u (.pick p66 (.t p62) (.t p65) (.k (.b false)))), (.u (.mv p67 (.t p66))), (.g p67 true (some p68) (.cf (some p68) p21 [])), (.u (.pick p69 (.t p67) (.t p68) (.k (.b false)))), (.u (.mv p7 (.t p69)))]) .ret) .skip)) (.seq (.seq (.reg [(.u (.mv p70 (.t p11))), (.u (.bin p71 .neq (.t p70) (.k (.i .i64 0)))), (.u (.mv p72 (.t p71))), (.g p72 false (some p73) (.mv p73 (.t p13))), (.g p72 false (some p74) (.bin p74 .neq (.t p73) (.k (.i .i64 0)))), (.u (.pick p75 (.t p72) (.k (.b true)) (.t p74))), (.u (.mv p76 (.t p75))), (.g p76 false (some p77) (.mv p77 (.t p10))), (.g p76 false (some p78) (.len p78 (.t p77))), (.g p76 false (some p79) (.fad p79 (.t p4) 0)), (.g p76 false (some p80) (.ld1 p80 (.t p79))), (.g p76 false (some p81) (.bin p81 .add (.t p80) (.k (.i .i64 1)))), (.g p76 false (some p82) (.bin p82 .neq (.t p78) (.t p81))), (.u (.pick p83 (.t p76) (.k (.b true)) (.t p82)))]) (.cond (.t p83) (.seq (.reg [(.u (.mv p7 (.k (.b false))))]) .ret) .skip)) (.seq (.reg [(.u (.mv p15 (.k (.i .i64 0))))]) (.seq (.seq (.reg [(.u (.mv p16 (.k (.i .i64 0))))]) (.blk 0 (.loop (.seq (.seq (.reg [(.u (.mv p84 (.t p16))), (.u (.mv p85 (.t p14))), (.u (.len p86 (.t p85))), (.u (.bin p87 .lss (.t p84) (.t p86)))]) (.cond (.t p87) .skip (.exit 0))) (.seq (.blk 1 (.seq (.drw [(.u (.mv p90 (.t p14))), (.u (.mv p91 (.t p16))), (.u (.ixs p92 1 (.t p90) (.t p91))), (.u (.ld1 p93 (.t p92))), (.u (.fad p94 (.t p4) 3)), (.u (.ld1 p95 (.t p94))), (.u (.mv p96 (.t p9))), (.u (.ixs p97 1 (.t p95) (.t p96))), (.u (.ld1 p98 (.t p97))), (.u (.cf (some p99) p56 [(.t p93), (.t p98)])), (.u (.mv p17 (.t p99)))] [0, 0, 3, 7, 0, 16, 0, 112, 240, 511, 1023]) (.seq (.drw [(.u (.mv p100 (.t p14))), (.u (.mv p101 (.t p16))), (.u (.ixs p102 1 (.t p100) (.t p101))), (.u (.ld1 p103 (.t p102))), (.u (.mv p104 (.t p8))), (.u (.ixs p105 1 (.t p103) (.t p104))), (.u (.ld1 p106 (.t p105))), (.u (.mv p107 (.t p10))), (.u (.mv p108 (.t p8))), (.u (.ixs p109 2 (.t p107) (.t p108))), (.u (.fad p110 (.t p109) 0)), (.u (.ld1 p111 (.t p110))), (.u (.bin p112 .eql (.t p106) (.t p111))), (.u (.mv p113 (.t p14))), (.u (.mv p114 (.t p16))), (.u (.ixs p115 1 (.t p113) (.t p114))), (.u (.ld1 p116 (.t p115))), (.u (.mv p117 (.t p8))), (.u (.ixs p118 1 (.t p116) (.t p117))), (.u (.ld1 p119 (.t p118))), (.u (.mv p120 (.t p10))), (.u (.mv p121 (.t p8))), (.u (.ixs p122 2 (.t p120) (.t p121))), (.u (.fad p123 (.t p122) 1)), (.u (.ld1 p124 (.t p123))), (.u (.bin p125 .eql (.t p119) (.t p124))), (.u (.mv p126 (.t p17))), (.u (.fad p127 (.t p12) 0)), (.u (.ld1 p128 (.t p127))), (.u (.bin p129 .eql (.t p126) (.t p128))), (.u (.mv p130 (.t p17))), (.u (.fad p131 (.t p12) 1)), (.u (.ld1 p132 (.t p131))), (.u (.bin p133 .eql (.t p130) (.t p132))), (.u (.bld p134 [(.b false), (.b false), (.b false), (.b false)] [(0, (1, (.t p112))), (1, (1, (.t p125))), (2, (1, (.t p129))), (3, (1, (.t p133)))])), (.u (.new p18 [(.b false), (.b false), (.b false), (.b false)])), (.u (.st (.t p18) (.t p134) 4))] [0, 0, 3, 7, 0, 31, 63, 0, 0, 384, 896, 1920, 4095, 0, 0, 24576, 57344, 0, 253952, 516096, 0, 0, 3145728, 7340032, 15728640, 33546240, 0, 0, 134217728, 469762048, 0, 0, 2147483648, 7516192768, 17179869183, 0, 68719476735]) (.seq (.reg [(.u (.mv p19 (.k (.i .i64 0))))]) (.blk 2 (.loop (.seq (.seq (.reg [(.u (.mv p135 (.t p19))), (.u (.bin p136 .lss (.t p135) (.k (.i .i64 4))))]) (.cond (.t p136) .skip (.exit 2))) (.seq (.blk 3 (.seq (.reg [(.u (.mv p139 (.t p19))), (.u (.ixa p140 4 1 (.t p18) (.t p139))), (.u (.ld1 p141 (.t p140)))]) (.cond (.t p141) (.reg [(.u (.mv p142 (.t p15))), (.u (.mv p143 (.t p19))), (.u (.cvi p144 .u64 (.t p143))), (.u (.bin p145 .shl (.k (.i .i64 1)) (.t p144))), (.u (.bin p146 .or (.t p142) (.t p145))), (.u (.mv p15 (.t p146)))]) .skip))) (.reg [(.u (.mv p137 (.t p19))), (.u (.bin p138 .add (.t p137) (.k (.i .i64 1)))), (.u (.mv p19 (.t p138)))]))))))))) (.reg [(.u (.mv p88 (.t p16))), (.u (.bin p89 .add (.t p88) (.k (.i .i64 1)))), (.u (.mv p16 (.t p89)))])))))) (.seq (.reg [(.u (.mv p147 (.t p15))), (.u (.bin p148 .eql (.t p147) (.k (.i .i64 15)))), (.u (.mv p149 (.t p148))), (.g p149 true (some p150) (.cf (some p150) p21 [])), (.u (.pick p151 (.t p149) (.t p150) (.k (.b false)))), (.u (.mv p7 (.t p151)))]) .ret)))))))))))
def rs10 : List RR := [(.t p7)]
theorem fn10 : FnOk Try.prog p11.ix 151 rc10 rs10 := ⟨Try.f10, bodyC Try.f10, Try.func10, by kernel_rfl, by kernel_rfl, by kernel_rfl, by kernel_rfl, by kernel_rfl⟩
end Go.Ev
namespace Go.Ev
open Go.Proofs
set_option maxRecDepth 100000
/-! ### TideEnds -/
def cE (h : Nat) (g : Rg) (w : Int × Int) (level : Int) : Nat → List Int → Bool
  | 0, t => decide (t.getD h 0 = g.lo)
  | 1, t => decide (t.getD h 0 = g.hi)
  | 2, t => decide (soonR t level = w.1)
  | _, t => decide (soonR t level = w.2)
theorem any_takeL {L : List (List Int)} {i : Nat} (h : i < L.length) (p : List Int → Bool) : (L.take (i + 1)).any p = ((L.take i).any p || p (L.getD i default)) := by
  rw [take_succ_getD (d := default) h, List.any_append]
  simp
theorem mem_bdR {A : List Int} (h0 : 0 < A.length) : (bdR A).1 ∈ A ∧ (bdR A).2 ∈ A := by
  obtain ⟨a, s, rfl⟩ : ∃ a s, A = a :: s := by
    cases A with
    | nil => cases h0
    | cons a s => exact ⟨a, s, rfl⟩
  unfold bdR
  rw [maxN_all]
  obtain ⟨p1, p2, p3⟩ := foldl_minS (a :: s) a
  obtain ⟨u1, u2, u3⟩ := foldl_maxS (a :: s) a
  have em : minL ((a :: s).getD 0 0) (a :: s) = (a :: s).foldl min a := rfl
  rw [em]
  refine ⟨?_, ?_⟩
  · rcases p3 with h | h
    · show (a :: s).foldl min a ∈ _
      rw [h]; simp
    · exact h
  · rcases u3 with h | h
    · show (a :: s).foldl max a ∈ _
      rw [h]; simp
    · exact h
def enS (last : Int) (hs : List Rg) (step : Int) (lv : List Int) (ms : List Mk) (h k : Nat) (bl : List Rg) (w : Int × Int) (L : List (List Int)) : Nat × Nat → X
  | (i, m) => ⟨(.n (.n (.n (.n (.n .e (some (.i .i64 (i : Int))) .e) (some (.i .i64 (h : Int))) .e) (some (.pt .h 0 0)) (.n .e (some (.pt (.o .h) 0 0)) .e)) none (.n (.n .e (some (.lst 2 (rows rgD bl))) .e) none (.n .e (some (.lst 1 (rows tD L))) .e))) none (.n (.n (.n .e (some (.i .i64 (k : Int))) .e) none .e) none (.n .e none (.n .e (some (.i .i64 (m : Int))) .e)))), (.n (.n .e (some (.cells false [.o (.i .i64 w.1) 0, .o (.i .i64 w.2) 0] 1)) .e) (some (tabC last hs step lv ms)) .e), .i .h, none⟩
def enT (last : Int) (hs : List Rg) (step : Int) (lv : List Int) (ms : List Mk) (h k : Nat) (bl : List Rg) (w : Int × Int) (L : List (List Int)) (i : Nat) (c0 c1 c2 c3 : Bool) : Nat × Nat → X
  | (j, m) => ⟨(.n (.n (.n (.n (.n .e (some (.i .i64 (i : Int))) .e) (some (.i .i64 (h : Int))) .e) (some (.pt .h 0 0)) (.n .e (some (.pt (.o .h) 0 0)) .e)) none (.n (.n (.n .e (some (.pt (.i .h) 0 0)) .e) (some (.lst 2 (rows rgD bl))) .e) none (.n .e (some (.lst 1 (rows tD L))) .e))) none (.n (.n (.n .e (some (.i .i64 (k : Int))) .e) none .e) none (.n (.n (.n .e (some (.i .i64 (j : Int))) .e) none .e) none (.n .e (some (.i .i64 (m : Int))) .e)))), (.n (.n .e (some (.cells false [.o (.i .i64 w.1) 0, .o (.i .i64 w.2) 0] 1)) .e) (some (tabC last hs step lv ms)) (.n .e (some (.cells false [.o (.b c0) 0, .o (.b c1) 0, .o (.b c2) 0, .o (.b c3) 0] 1)) .e)), .o (.o .h), none⟩
def c4 (c0 c1 c2 c3 : Bool) : Nat → Bool
  | 0 => c0
  | 1 => c1
  | 2 => c2
  | _ => c3
set_option maxHeartbeats 4000000 in
theorem c_TideEnds (last : Int) (hs : List Rg) (step : Int) (lv : List Int) (ms : List Mk) (hour row : Int) (hh : 0 ≤ hour ∧ hour ≤ 255) (hr : 0 ≤ row ∧ row ≤ 255) (AW : PureF Try.prog p21.ix [] (.b true)) : PureF Try.prog p11.ix [.ag [.i .i64 last, .lst 2 (rows rgD hs), .i .i64 step, .lst 1 (ints lv), .lst 4 (rows mkD ms)], .i .u8 hour, .i .u8 row] (.b true) := by
  have e2 := ints_length lv
  have iR := c_ready last hs step lv ms
  refine PureF.run fn10 (by simp) (by simp [PuL, PuE, Pu, pu_ints, pu_rg, pu_mk]) ?_; conv => whnf
  cases hR : readyB last hs step lv ms with
  | false =>
    rw [hR] at iR
    repeat' first | ((with_reducible apply WB.tt); conv => whnf) | ((with_reducible apply WB.ff); conv => whnf) | (refine Rn.seq ?_; conv => whnf) | (refine Rn.reg ?_; conv => whnf) | (refine Rn.drw ?_; conv => whnf) | (refine Rn.blk ?_; conv => whnf) | (refine Rn.skip ?_; conv => whnf) | (refine Rn.ret ?_; conv => whnf) | (refine Rn.exit ?_; conv => whnf) | (refine Rn.cond rfl ?_; conv => whnf) | (refine And.intro (InR.i64 (by omega) (by omega)) ?_; conv => whnf) | (refine And.intro (show _ ≠ (0 : Int) by omega) ?_; conv => whnf) | (refine WIx.intsN (by omega) ?_; conv => whnf) | (refine WIx.rowsN (by omega) ?_; conv => whnf) | (refine WCall.pure (iR) ?_; conv => whnf) | (refine WCall.pure (AW) ?_; conv => whnf) | ((with_reducible refine WB.decT (by first | with_reducible rfl | assumption | omega | exact ⟨rfl, rfl⟩) ?_); conv => whnf) | ((with_reducible refine WB.decF (by first | assumption | omega) ?_); conv => whnf) | ((with_reducible refine WB.ndT (by first | with_reducible rfl | assumption | omega | exact ⟨rfl, rfl⟩) ?_); conv => whnf) | ((with_reducible refine WB.ndF (by first | assumption | omega) ?_); conv => whnf) | ((with_reducible refine WB.nt ?_); conv => whnf) | ((with_reducible refine WB.nf ?_); conv => whnf) | ((with_reducible refine WB.dec (fun h => ?_) (fun h => ?_)) <;> conv => whnf) | ((with_reducible refine WB.ndec (fun h => ?_) (fun h => ?_)) <;> conv => whnf) | (refine WB.mk (fun h => ?_) (fun h => ?_) <;> conv => whnf) | (refine WB.tt ?_; conv => whnf) | (refine WB.ff ?_; conv => whnf)
    exact Fin.b rfl rfl
  | true =>
    rw [hR] at iR
    have hR' := hR
    unfold readyB at hR'
    rw [Bool.and_eq_true, decide_eq_true_iff] at hR'
    obtain ⟨hT, hf⟩ := hR'
    obtain ⟨V, hm, hA⟩ := fault_zero hf
    have h5 := V.ms5
    have h6 := V.lv6
    have h10 := V.h10
    have h1 := V.h1
    have hn := V.n
    by_cases hl : lv.length = 0
    · repeat' first | ((with_reducible apply WB.tt); conv => whnf) | ((with_reducible apply WB.ff); conv => whnf) | (refine Rn.seq ?_; conv => whnf) | (refine Rn.reg ?_; conv => whnf) | (refine Rn.drw ?_; conv => whnf) | (refine Rn.blk ?_; conv => whnf) | (refine Rn.skip ?_; conv => whnf) | (refine Rn.ret ?_; conv => whnf) | (refine Rn.exit ?_; conv => whnf) | (refine Rn.cond rfl ?_; conv => whnf) | (refine And.intro (InR.i64 (by omega) (by omega)) ?_; conv => whnf) | (refine And.intro (show _ ≠ (0 : Int) by omega) ?_; conv => whnf) | (refine WIx.intsN (by omega) ?_; conv => whnf) | (refine WIx.rowsN (by omega) ?_; conv => whnf) | (refine WCall.pure (iR) ?_; conv => whnf) | (refine WCall.pure (AW) ?_; conv => whnf) | ((with_reducible refine WB.decT (by first | with_reducible rfl | assumption | omega | exact ⟨rfl, rfl⟩) ?_); conv => whnf) | ((with_reducible refine WB.decF (by first | assumption | omega) ?_); conv => whnf) | ((with_reducible refine WB.ndT (by first | with_reducible rfl | assumption | omega | exact ⟨rfl, rfl⟩) ?_); conv => whnf) | ((with_reducible refine WB.ndF (by first | assumption | omega) ?_); conv => whnf) | ((with_reducible refine WB.nt ?_); conv => whnf) | ((with_reducible refine WB.nf ?_); conv => whnf) | ((with_reducible refine WB.dec (fun h => ?_) (fun h => ?_)) <;> conv => whnf) | ((with_reducible refine WB.ndec (fun h => ?_) (fun h => ?_)) <;> conv => whnf) | (refine WB.mk (fun h => ?_) (fun h => ?_) <;> conv => whnf) | (refine WB.tt ?_; conv => whnf) | (refine WB.ff ?_; conv => whnf)
      all_goals first | exact Fin.b rfl rfl | (exfalso; omega)
    have iT0 := c_Table last hs step lv ms (by omega) (by omega) (by omega)
    have hTl : (truthS hs step ms).length ≤ 1000 := Nat.le_trans (List.length_filter_le _ _) (Nat.le_trans (thin_exS hT hf) (by omega))
    have iB := c_Bounds last hs step lv ms fun _ => hTl
    have iTr := c_Truths last hs step lv ms V.hv (by omega) (fun m hm => by have := V.vt m hm; omega) (by omega)
    have m1 := Int.tmod_nonneg (last + 1) hh.1
    have m2 := Int.tmod_lt_of_pos hour (show 0 < last + 1 by omega)
    have m3 := Int.tmod_nonneg ((ints lv).length : Int) hr.1
    have m4 := Int.tmod_lt_of_pos row (show (0 : Int) < ((ints lv).length : Int) by omega)
    obtain ⟨z, hh2⟩ := Int.eq_ofNat_of_zero_le m1
    obtain ⟨k, hk2⟩ := Int.eq_ofNat_of_zero_le m3
    have hk : k < lv.length := by omega
    have iRe := c_Reach last hs step lv ms (k : Int) (by omega) fun _ => hTl
    have hb : inB (k : Int) 0 ((lv.length : Int) - 1) = true := inB_iff.2 (by omega)
    have hBE : bndE last hs step lv ms = if truthS hs step ms = [] then 11 else 0 := by unfold bndE startE; rw [if_pos hf]; rfl
    have hRE : reachE last hs step lv ms (k : Int) = if truthS hs step ms = [] then 11 else 0 := by unfold reachE startE; rw [if_pos hf, hb]; rfl
    have hmem := fun x => mem_truthS (x := x) V hm
    have hnil := truth_nil V hm
    repeat' first | ((with_reducible apply WB.tt); conv => whnf) | ((with_reducible apply WB.ff); conv => whnf) | (refine Rn.seq ?_; conv => whnf) | (refine Rn.reg ?_; conv => whnf) | (refine Rn.drw ?_; conv => whnf) | (refine Rn.blk ?_; conv => whnf) | (refine Rn.skip ?_; conv => whnf) | (refine Rn.ret ?_; conv => whnf) | (refine Rn.exit ?_; conv => whnf) | (refine Rn.cond rfl ?_; conv => whnf) | (refine And.intro (InR.i64 (by omega) (by omega)) ?_; conv => whnf) | (refine And.intro (show _ ≠ (0 : Int) by omega) ?_; conv => whnf) | (refine WIx.intsN (by omega) ?_; conv => whnf) | (refine WIx.rowsN (by omega) ?_; conv => whnf) | (refine WCall.pure (iR) ?_; conv => whnf) | ((with_reducible refine WB.decT (by first | with_reducible rfl | assumption | omega | exact ⟨rfl, rfl⟩) ?_); conv => whnf) | ((with_reducible refine WB.decF (by first | assumption | omega) ?_); conv => whnf) | ((with_reducible refine WB.ndT (by first | with_reducible rfl | assumption | omega | exact ⟨rfl, rfl⟩) ?_); conv => whnf) | ((with_reducible refine WB.ndF (by first | assumption | omega) ?_); conv => whnf) | ((with_reducible refine WB.nt ?_); conv => whnf) | ((with_reducible refine WB.nf ?_); conv => whnf) | ((with_reducible refine WB.dec (fun h => ?_) (fun h => ?_)) <;> conv => whnf) | ((with_reducible refine WB.ndec (fun h => ?_) (fun h => ?_)) <;> conv => whnf) | (refine WB.mk (fun h => ?_) (fun h => ?_) <;> conv => whnf) | (refine WB.tt ?_; conv => whnf) | (refine WB.ff ?_; conv => whnf)
    rw [hh2, hk2]
    cases hL : truthsR hs step ms with
    | nil =>
      rw [hnil.2 hL, if_pos rfl] at hBE hRE
      have hRR : reachR last hs step lv ms (k : Int) = (0, 0) := by unfold reachR; rw [hRE]; rfl
      have hBL : bndL last hs step lv ms = [] := by unfold bndL; rw [hBE]; rfl
      rw [hBE, hBL] at iB
      rw [hRE, hRR] at iRe
      rw [hL] at iTr
      repeat' first | ((with_reducible apply WB.tt); conv => whnf) | ((with_reducible apply WB.ff); conv => whnf) | (refine Rn.seq ?_; conv => whnf) | (refine Rn.reg ?_; conv => whnf) | (refine Rn.drw ?_; conv => whnf) | (refine Rn.blk ?_; conv => whnf) | (refine Rn.skip ?_; conv => whnf) | (refine Rn.ret ?_; conv => whnf) | (refine Rn.exit ?_; conv => whnf) | (refine Rn.cond rfl ?_; conv => whnf) | (refine And.intro (InR.i64 (by omega) (by omega)) ?_; conv => whnf) | (refine And.intro (show _ ≠ (0 : Int) by omega) ?_; conv => whnf) | (refine WIx.intsN (by omega) ?_; conv => whnf) | (refine WIx.rowsN (by omega) ?_; conv => whnf) | (refine WCall.pure (iT0) ?_; conv => whnf) | (refine WCall.pure (iB) ?_; conv => whnf) | (refine WCall.pure (iRe) ?_; conv => whnf) | (refine WCall.pure (iTr) ?_; conv => whnf) | (refine WCall.pure (AW) ?_; conv => whnf) | ((with_reducible refine WB.decT (by first | with_reducible rfl | assumption | omega | exact ⟨rfl, rfl⟩) ?_); conv => whnf) | ((with_reducible refine WB.decF (by first | assumption | omega) ?_); conv => whnf) | ((with_reducible refine WB.ndT (by first | with_reducible rfl | assumption | omega | exact ⟨rfl, rfl⟩) ?_); conv => whnf) | ((with_reducible refine WB.ndF (by first | assumption | omega) ?_); conv => whnf) | ((with_reducible refine WB.nt ?_); conv => whnf) | ((with_reducible refine WB.nf ?_); conv => whnf) | ((with_reducible refine WB.dec (fun h => ?_) (fun h => ?_)) <;> conv => whnf) | ((with_reducible refine WB.ndec (fun h => ?_) (fun h => ?_)) <;> conv => whnf) | (refine WB.mk (fun h => ?_) (fun h => ?_) <;> conv => whnf) | (refine WB.tt ?_; conv => whnf) | (refine WB.ff ?_; conv => whnf)
      all_goals first | exact Fin.b rfl rfl | (exfalso; omega) | exact absurd h (by decide)
    | cons a0 s0 =>
      have hne : ¬ truthS hs step ms = [] := fun e => by rw [hnil.1 e] at hL; cases hL
      have hp : 0 < (truthS hs step ms).length := List.length_pos_iff.2 hne
      rw [if_neg hne] at hBE hRE
      have hRR : reachR last hs step lv ms (k : Int) = bdR ((truthS hs step ms).map fun c => firstR lv c k last) := by unfold reachR; rw [if_pos hRE]; rfl
      have hRW := reach_same V hm hp k
      have hBL : bndL last hs step lv ms = bdsR (truthS hs step ms) hs.length := by unfold bndL; rw [if_pos hBE]
      have hgh : (bndL last hs step lv ms).getD z default = bdG (truthS hs step ms) z := by rw [hBL]; simp [bdsR, List.getD, show z < hs.length by omega]
      have hbl : (bndL last hs step lv ms).length = hs.length := by rw [hBL]; simp [bdsR]
      have hrl := rows_length rgD (bndL last hs step lv ms)
      have hLl : (truthsR hs step ms).length ≤ 3000 := Nat.le_trans (List.length_filter_le _ _) (lists_len V.hv step)
      have hlen : ∀ t ∈ truthsR hs step ms, t.length = hs.length := fun t ht => ((mem_truthsR V hm).1 ht).1
      -- the ends are reached
      have ends : ∀ q, q < 4 → (truthsR hs step ms).any (cE z (bdG (truthS hs step ms) z) (reachR last hs step lv ms (k : Int)) (lv.getD k 0) q) = true := by
        have key1 : ∀ x, x ∈ (truthS hs step ms).map (fun c => c z) → ∃ t, t ∈ truthsR hs step ms ∧ t.getD z 0 = x := fun x hx => by
          obtain ⟨c, hc, e⟩ := List.mem_map.1 hx
          obtain ⟨t, ht, e2⟩ := (hmem c).1 hc
          refine ⟨t, ht, ?_⟩
          rw [← e, ← e2]
          rfl
        have key2 : ∀ x, x ∈ (truthsR hs step ms).map (fun t => soonR t (lv.getD k 0)) → ∃ t, t ∈ truthsR hs step ms ∧ soonR t (lv.getD k 0) = x := fun x hx => by
          obtain ⟨t, ht, e⟩ := List.mem_map.1 hx
          exact ⟨t, ht, e⟩
        have g := mem_bdR (A := (truthS hs step ms).map fun c => c z) (by rw [List.length_map]; exact hp)
        have w' := mem_bdR (A := (truthS hs step ms).map fun c => firstR lv c k last) (by rw [List.length_map]; exact hp)
        have wB : ∀ x, x ∈ (truthS hs step ms).map (fun c => firstR lv c k last) → ∃ t, t ∈ truthsR hs step ms ∧ soonR t (lv.getD k 0) = x := fun x hx => by
          obtain ⟨c, hc, e⟩ := List.mem_map.1 hx
          obtain ⟨t, ht, e2⟩ := (hmem c).1 hc
          refine ⟨t, ht, ?_⟩
          have hl2 := hlen t ht
          rw [← e, ← e2]
          unfold firstR
          rw [wet_same (by omega), show last + 1 = (t.length : Int) by omega]
          exact (soon_first t _).symm
        intro q hq
        rw [List.any_eq_true]
        rw [hRR]
        match q, hq with
        | 0, _ =>
          obtain ⟨t, ht, e⟩ := key1 _ g.1
          exact ⟨t, ht, decide_eq_true e⟩
        | 1, _ =>
          obtain ⟨t, ht, e⟩ := key1 _ g.2
          exact ⟨t, ht, decide_eq_true e⟩
        | 2, _ =>
          obtain ⟨t, ht, e⟩ := wB _ w'.1
          exact ⟨t, ht, decide_eq_true e⟩
        | 3, _ =>
          obtain ⟨t, ht, e⟩ := wB _ w'.2
          exact ⟨t, ht, decide_eq_true e⟩
      rw [← hgh] at ends
      rw [hBE] at iB
      rw [hRE] at iRe
      have e1 := rows_length tD (truthsR hs step ms)
      have hLp : 0 < (truthsR hs step ms).length := by rw [hL]; simp
      clear hmem hnil hL hne hp hRR hRW hBL hgh hBE hRE
      generalize truthsR hs step ms = L at *
      generalize bndL last hs step lv ms = bl at *
      generalize reachR last hs step lv ms (k : Int) = w at *
      repeat' first | ((with_reducible apply WB.tt); conv => whnf) | ((with_reducible apply WB.ff); conv => whnf) | (refine Rn.seq ?_; conv => whnf) | (refine Rn.reg ?_; conv => whnf) | (refine Rn.drw ?_; conv => whnf) | (refine Rn.blk ?_; conv => whnf) | (refine Rn.skip ?_; conv => whnf) | (refine Rn.ret ?_; conv => whnf) | (refine Rn.exit ?_; conv => whnf) | (refine Rn.cond rfl ?_; conv => whnf) | (refine And.intro (InR.i64 (by omega) (by omega)) ?_; conv => whnf) | (refine And.intro (show _ ≠ (0 : Int) by omega) ?_; conv => whnf) | (refine WIx.intsN (by omega) ?_; conv => whnf) | (refine WIx.rowsN (by omega) ?_; conv => whnf) | (refine WCall.pure (iT0) ?_; conv => whnf) | (refine WCall.pure (iB) ?_; conv => whnf) | (refine WCall.pure (iRe) ?_; conv => whnf) | (refine WCall.pure (iTr) ?_; conv => whnf) | ((with_reducible refine WB.decT (by first | with_reducible rfl | assumption | omega | exact ⟨rfl, rfl⟩) ?_); conv => whnf) | ((with_reducible refine WB.decF (by first | assumption | omega) ?_); conv => whnf) | ((with_reducible refine WB.ndT (by first | with_reducible rfl | assumption | omega | exact ⟨rfl, rfl⟩) ?_); conv => whnf) | ((with_reducible refine WB.ndF (by first | assumption | omega) ?_); conv => whnf) | ((with_reducible refine WB.nt ?_); conv => whnf) | ((with_reducible refine WB.nf ?_); conv => whnf) | ((with_reducible refine WB.dec (fun h => ?_) (fun h => ?_)) <;> conv => whnf) | ((with_reducible refine WB.ndec (fun h => ?_) (fun h => ?_)) <;> conv => whnf) | (refine WB.mk (fun h => ?_) (fun h => ?_) <;> conv => whnf) | (refine WB.tt ?_; conv => whnf) | (refine WB.ff ?_; conv => whnf)
      all_goals first | (exfalso; omega) | skip
      refine Rn.loop (enS last hs step lv ms z k bl w L) (fun s => s.1 ≤ L.length ∧ s.2 < 16 ∧ ∀ q, q < 4 → s.2.testBit q = (L.take s.1).any (cE z (bl.getD z default) w (lv.getD k 0) q)) (fun s => L.length - s.1) (0, 0) ?_ ?_ ?_
      · refine X.le.mk ?_ ?_ (Nat.le_refl _) rfl rfl
        · show T.le ((.n (.n (.n (.n (.n .e (some (.i .i64 0)) .e) (some (.i .i64 (z : Int))) .e) (some (.pt .h 0 0)) (.n .e (some (.pt (.o .h) 0 0)) .e)) none (.n (.n .e (some (.lst 2 (rows rgD bl))) .e) none (.n .e (some (.lst 1 (rows tD L))) .e))) none (.n (.n (.n .e (some (.i .i64 (k : Int))) .e) none .e) none (.n .e none (.n .e (some (.i .i64 0)) .e)))) : T D) _
          (repeat' first | exact T.le_e _ | refine T.le_some ?_ rfl ?_ | refine T.le_none ?_ ?_)
        · show T.le ((.n (.n .e (some (.cells false [.o (.i .i64 w.1) 0, .o (.i .i64 w.2) 0] 1)) .e) (some (tabC last hs step lv ms)) .e) : T C) _
          (repeat' first | exact T.le_e _ | refine T.le_some ?_ rfl ?_ | refine T.le_none ?_ ?_ | refine T.le_ee ?_ ?_)
      · exact ⟨Nat.zero_le _, by decide, fun q _ => by simp⟩
      rintro ⟨i, m⟩ ⟨hi, hm16, hbits⟩
      have hi : i ≤ L.length := hi
      have hm16 : m < 16 := hm16
      have hbits : ∀ q, q < 4 → m.testBit q = (L.take i).any (cE z (bl.getD z default) w (lv.getD k 0) q) := hbits
      conv => whnf
      repeat' first | ((with_reducible apply WB.tt); conv => whnf) | ((with_reducible apply WB.ff); conv => whnf) | (refine Rn.seq ?_; conv => whnf) | (refine Rn.reg ?_; conv => whnf) | (refine Rn.drw ?_; conv => whnf) | (refine Rn.blk ?_; conv => whnf) | (refine Rn.skip ?_; conv => whnf) | (refine Rn.ret ?_; conv => whnf) | (refine Rn.exit ?_; conv => whnf) | (refine Rn.cond rfl ?_; conv => whnf) | (refine And.intro (InR.i64 (by omega) (by omega)) ?_; conv => whnf) | (refine And.intro (show _ ≠ (0 : Int) by omega) ?_; conv => whnf) | (refine WIx.intsN (by omega) ?_; conv => whnf) | (refine WIx.rowsN (by omega) ?_; conv => whnf)
      refine WB.dec (fun h => ?_) (fun h => ?_) <;> conv => whnf
      · have hlt : i < L.length := by omega
        have htl := hlen _ (getD_mem (d := default) hlt)
        have iSo := c_Soonest (L.getD i default) (lv.getD k 0) (by omega)
        have hnx := fun q => any_takeL hlt (cE z (bl.getD z default) w (lv.getD k 0) q)
        repeat' first | ((with_reducible apply WB.tt); conv => whnf) | ((with_reducible apply WB.ff); conv => whnf) | (refine Rn.seq ?_; conv => whnf) | (refine Rn.reg ?_; conv => whnf) | (refine Rn.drw ?_; conv => whnf) | (refine Rn.blk ?_; conv => whnf) | (refine Rn.skip ?_; conv => whnf) | (refine Rn.ret ?_; conv => whnf) | (refine Rn.exit ?_; conv => whnf) | (refine Rn.cond rfl ?_; conv => whnf) | (refine And.intro (InR.i64 (by omega) (by omega)) ?_; conv => whnf) | (refine And.intro (show _ ≠ (0 : Int) by omega) ?_; conv => whnf) | (refine WIx.intsN (by omega) ?_; conv => whnf) | (refine WIx.rowsN (by omega) ?_; conv => whnf)
        have hz : z < (L.getD i default).length := by omega
        have hzb : z < bl.length := by omega
        repeat' first | ((with_reducible apply WB.tt); conv => whnf) | ((with_reducible apply WB.ff); conv => whnf) | (refine Rn.seq ?_; conv => whnf) | (refine Rn.reg ?_; conv => whnf) | (refine Rn.drw ?_; conv => whnf) | (refine Rn.blk ?_; conv => whnf) | (refine Rn.skip ?_; conv => whnf) | (refine Rn.ret ?_; conv => whnf) | (refine Rn.exit ?_; conv => whnf) | (refine Rn.cond rfl ?_; conv => whnf) | (refine And.intro (InR.i64 (by omega) (by omega)) ?_; conv => whnf) | (refine And.intro (show _ ≠ (0 : Int) by omega) ?_; conv => whnf) | (refine WIx.intsN (by omega) ?_; conv => whnf) | (refine WIx.rowsN (by omega) ?_; conv => whnf) | (refine WCall.pure (iSo) ?_; conv => whnf)
        generalize hc0 : decide ((L.getD i default).getD z 0 = (bl.getD z default).lo) = c0
        generalize hc1 : decide ((L.getD i default).getD z 0 = (bl.getD z default).hi) = c1
        generalize hc2 : decide (soonR (L.getD i default) (lv.getD k 0) = w.1) = c2
        generalize hc3 : decide (soonR (L.getD i default) (lv.getD k 0) = w.2) = c3
        have hcq : ∀ q, q < 4 → cE z (bl.getD z default) w (lv.getD k 0) q (L.getD i default) = c4 c0 c1 c2 c3 q := fun q hq => by
          match q, hq with
          | 0, _ => exact hc0
          | 1, _ => exact hc1
          | 2, _ => exact hc2
          | 3, _ => exact hc3
        refine Rn.loop (enT last hs step lv ms z k bl w L i c0 c1 c2 c3) (fun s => s.1 ≤ 4 ∧ s.2 < 16 ∧ ∀ q, q < 4 → s.2.testBit q = (m.testBit q || (decide (q < s.1) && c4 c0 c1 c2 c3 q))) (fun s => 4 - s.1) (0, m) ?_ ?_ ?_
        · refine X.le.mk ?_ ?_ (Nat.le_refl _) rfl rfl
          · show T.le ((.n (.n (.n (.n (.n .e (some (.i .i64 (i : Int))) .e) (some (.i .i64 (z : Int))) .e) (some (.pt .h 0 0)) (.n .e (some (.pt (.o .h) 0 0)) .e)) none (.n (.n (.n .e (some (.pt (.i .h) 0 0)) .e) (some (.lst 2 (rows rgD bl))) .e) none (.n .e (some (.lst 1 (rows tD L))) .e))) none (.n (.n (.n .e (some (.i .i64 (k : Int))) .e) none .e) none (.n (.n (.n .e (some (.i .i64 0)) .e) none .e) none (.n .e (some (.i .i64 (m : Int))) .e)))) : T D) _
            (repeat' first | exact T.le_e _ | refine T.le_some ?_ rfl ?_ | refine T.le_none ?_ ?_)
          · show T.le ((.n (.n .e (some (.cells false [.o (.i .i64 w.1) 0, .o (.i .i64 w.2) 0] 1)) .e) (some (tabC last hs step lv ms)) (.n .e (some (.cells false [.o (.b c0) 0, .o (.b c1) 0, .o (.b c2) 0, .o (.b c3) 0] 1)) .e)) : T C) _
            (repeat' first | exact T.le_e _ | refine T.le_some ?_ rfl ?_ | refine T.le_none ?_ ?_ | refine T.le_ee ?_ ?_)
        · exact ⟨Nat.zero_le _, hm16, fun q _ => by simp⟩
        rintro ⟨j, m2⟩ ⟨hj, h16, hb⟩
        have hj : j ≤ 4 := hj
        have h16 : m2 < 16 := h16
        have hb : ∀ q, q < 4 → m2.testBit q = (m.testBit q || (decide (q < j) && c4 c0 c1 c2 c3 q)) := hb
        conv => whnf
        repeat' first | ((with_reducible apply WB.tt); conv => whnf) | ((with_reducible apply WB.ff); conv => whnf) | (refine Rn.seq ?_; conv => whnf) | (refine Rn.reg ?_; conv => whnf) | (refine Rn.drw ?_; conv => whnf) | (refine Rn.blk ?_; conv => whnf) | (refine Rn.skip ?_; conv => whnf) | (refine Rn.ret ?_; conv => whnf) | (refine Rn.exit ?_; conv => whnf) | (refine Rn.cond rfl ?_; conv => whnf) | (refine And.intro (InR.i64 (by omega) (by omega)) ?_; conv => whnf) | (refine And.intro (show _ ≠ (0 : Int) by omega) ?_; conv => whnf) | (refine WIx.intsN (by omega) ?_; conv => whnf) | (refine WIx.rowsN (by omega) ?_; conv => whnf)
        refine WB.dec (fun h => ?_) (fun h => ?_) <;> conv => whnf
        · have hj4 : j < 4 := by omega
          have hj5 : j = 0 ∨ j = 1 ∨ j = 2 ∨ j = 3 := by omega
          have hstep : ∀ q, q < 4 → c4 c0 c1 c2 c3 j = true → (m2 ||| 1 * 2 ^ j).testBit q = (m.testBit q || (decide (q < j + 1) && c4 c0 c1 c2 c3 q)) := fun q hq hc => by
            rw [bits_or, hb q hq]
            by_cases e : j = q
            · subst e
              rw [hc, decide_eq_true (show j < j + 1 by omega)]
              simp
            · rw [decide_eq_false e, Bool.or_false]
              by_cases e2 : q < j
              · rw [decide_eq_true e2, decide_eq_true (show q < j + 1 by omega)]
              · rw [decide_eq_false e2, decide_eq_false (show ¬ q < j + 1 by omega)]
          have hskip : ∀ q, q < 4 → c4 c0 c1 c2 c3 j = false → m2.testBit q = (m.testBit q || (decide (q < j + 1) && c4 c0 c1 c2 c3 q)) := fun q hq hc => by
            rw [hb q hq]
            by_cases e : j = q
            · subst e
              rw [hc, decide_eq_true (show j < j + 1 by omega)]
              simp
            · by_cases e2 : q < j
              · rw [decide_eq_true e2, decide_eq_true (show q < j + 1 by omega)]
              · rw [decide_eq_false e2, decide_eq_false (show ¬ q < j + 1 by omega)]
          have hor : m2 ||| 1 * 2 ^ j < 16 := Nat.or_lt_two_pow (n := 4) (by omega) (by rw [Nat.one_mul]; rcases hj5 with rfl | rfl | rfl | rfl <;> decide)
          have hp : 1 * 2 ^ j < 16 := by rw [Nat.one_mul]; rcases hj5 with rfl | rfl | rfl | rfl <;> decide
          rcases hj5 with rfl | rfl | rfl | rfl
          · repeat' first | ((with_reducible apply WB.tt); conv => whnf) | ((with_reducible apply WB.ff); conv => whnf) | (refine Rn.seq ?_; conv => whnf) | (refine Rn.reg ?_; conv => whnf) | (refine Rn.drw ?_; conv => whnf) | (refine Rn.blk ?_; conv => whnf) | (refine Rn.skip ?_; conv => whnf) | (refine Rn.ret ?_; conv => whnf) | (refine Rn.exit ?_; conv => whnf) | (refine Rn.cond rfl ?_; conv => whnf) | (refine And.intro (InR.i64 (by omega) (by omega)) ?_; conv => whnf) | (refine And.intro (show _ ≠ (0 : Int) by omega) ?_; conv => whnf) | (refine WIx.intsN (by omega) ?_; conv => whnf) | (refine WIx.rowsN (by omega) ?_; conv => whnf)
            refine WSt.ixaN rfl rfl rfl (by omega) ?_; conv => whnf
            repeat' first | ((with_reducible apply WB.tt); conv => whnf) | ((with_reducible apply WB.ff); conv => whnf) | (refine Rn.seq ?_; conv => whnf) | (refine Rn.reg ?_; conv => whnf) | (refine Rn.drw ?_; conv => whnf) | (refine Rn.blk ?_; conv => whnf) | (refine Rn.skip ?_; conv => whnf) | (refine Rn.ret ?_; conv => whnf) | (refine Rn.exit ?_; conv => whnf) | (refine Rn.cond rfl ?_; conv => whnf) | (refine And.intro (InR.i64 (by omega) (by omega)) ?_; conv => whnf) | (refine And.intro (show _ ≠ (0 : Int) by omega) ?_; conv => whnf) | (refine WIx.intsN (by omega) ?_; conv => whnf) | (refine WIx.rowsN (by omega) ?_; conv => whnf)
            refine WB.mk (fun hc => ?_) (fun hc => ?_) <;> conv => whnf
            · repeat' first | ((with_reducible apply WB.tt); conv => whnf) | ((with_reducible apply WB.ff); conv => whnf) | (refine Rn.seq ?_; conv => whnf) | (refine Rn.reg ?_; conv => whnf) | (refine Rn.drw ?_; conv => whnf) | (refine Rn.blk ?_; conv => whnf) | (refine Rn.skip ?_; conv => whnf) | (refine Rn.ret ?_; conv => whnf) | (refine Rn.exit ?_; conv => whnf) | (refine Rn.cond rfl ?_; conv => whnf) | (refine And.intro (InR.i64 (by omega) (by omega)) ?_; conv => whnf) | (refine And.intro (show _ ≠ (0 : Int) by omega) ?_; conv => whnf) | (refine WIx.intsN (by omega) ?_; conv => whnf) | (refine WIx.rowsN (by omega) ?_; conv => whnf)
              refine And.intro (InR.u64 (by omega) (by omega)) ?_; conv => whnf
              repeat' first | ((with_reducible apply WB.tt); conv => whnf) | ((with_reducible apply WB.ff); conv => whnf) | (refine Rn.seq ?_; conv => whnf) | (refine Rn.reg ?_; conv => whnf) | (refine Rn.drw ?_; conv => whnf) | (refine Rn.blk ?_; conv => whnf) | (refine Rn.skip ?_; conv => whnf) | (refine Rn.ret ?_; conv => whnf) | (refine Rn.exit ?_; conv => whnf) | (refine Rn.cond rfl ?_; conv => whnf) | (refine And.intro (InR.i64 (by omega) (by omega)) ?_; conv => whnf) | (refine And.intro (show _ ≠ (0 : Int) by omega) ?_; conv => whnf) | (refine WIx.intsN (by omega) ?_; conv => whnf) | (refine WIx.rowsN (by omega) ?_; conv => whnf)
              refine WSt.shlN (a := 1) (by rfl) (by rfl) (by omega) (by omega) ?_; conv => whnf
              repeat' first | ((with_reducible apply WB.tt); conv => whnf) | ((with_reducible apply WB.ff); conv => whnf) | (refine Rn.seq ?_; conv => whnf) | (refine Rn.reg ?_; conv => whnf) | (refine Rn.drw ?_; conv => whnf) | (refine Rn.blk ?_; conv => whnf) | (refine Rn.skip ?_; conv => whnf) | (refine Rn.ret ?_; conv => whnf) | (refine Rn.exit ?_; conv => whnf) | (refine Rn.cond rfl ?_; conv => whnf) | (refine And.intro (InR.i64 (by omega) (by omega)) ?_; conv => whnf) | (refine And.intro (show _ ≠ (0 : Int) by omega) ?_; conv => whnf) | (refine WIx.intsN (by omega) ?_; conv => whnf) | (refine WIx.rowsN (by omega) ?_; conv => whnf)
              refine WSt.orN (by rfl) (by rfl) h16 hp ?_; conv => whnf
              repeat' first | ((with_reducible apply WB.tt); conv => whnf) | ((with_reducible apply WB.ff); conv => whnf) | (refine Rn.seq ?_; conv => whnf) | (refine Rn.reg ?_; conv => whnf) | (refine Rn.drw ?_; conv => whnf) | (refine Rn.blk ?_; conv => whnf) | (refine Rn.skip ?_; conv => whnf) | (refine Rn.ret ?_; conv => whnf) | (refine Rn.exit ?_; conv => whnf) | (refine Rn.cond rfl ?_; conv => whnf) | (refine And.intro (InR.i64 (by omega) (by omega)) ?_; conv => whnf) | (refine And.intro (show _ ≠ (0 : Int) by omega) ?_; conv => whnf) | (refine WIx.intsN (by omega) ?_; conv => whnf) | (refine WIx.rowsN (by omega) ?_; conv => whnf)
              refine Again.to (0 + 1, m2 ||| 1 * 2 ^ 0) (by dsimp only; omega) ⟨by dsimp only; omega, hor, fun q hq => hstep q hq hc⟩ (Nat.le_refl _) ?_
              refine Shr.of ?_ ?_ rfl rfl
              · show Rel _ _ ((.n (.n (.n (.n (.n .e (some (.i .i64 (i : Int))) .e) (some (.i .i64 (z : Int))) .e) (some (.pt .h 0 0)) (.n .e (some (.pt (.o .h) 0 0)) .e)) none (.n (.n (.n .e (some (.pt (.i .h) 0 0)) .e) (some (.lst 2 (rows rgD bl))) .e) none (.n .e (some (.lst 1 (rows tD L))) .e))) none (.n (.n (.n .e (some (.i .i64 (k : Int))) .e) none .e) none (.n (.n (.n .e (some (.i .i64 ((0 + 1 : Nat) : Int))) .e) none .e) none (.n .e (some (.i .i64 ((m2 ||| 1 * 2 ^ 0 : Nat) : Int))) .e)))) : T D) _
                (repeat' first | exact Rel.e | refine Rel.some ?_ ?_ ?_ | refine Rel.none ?_ ?_ | refine Rel.ee ?_ ?_)
                all_goals show Fz _ _ _ _
                all_goals first | exact .pu trivial | exact .pu (pu_rg _) | exact .pu (pu_tR _) | exact .kpt (show _ < 4 by simp [Pos.nat])
              · show Rel _ _ ((.n (.n .e (some (.cells false [.o (.i .i64 w.1) 0, .o (.i .i64 w.2) 0] 1)) .e) (some (tabC last hs step lv ms)) (.n .e (some (.cells false [.o (.b c0) 0, .o (.b c1) 0, .o (.b c2) 0, .o (.b c3) 0] 1)) .e)) : T C) _
                (repeat' first | exact Rel.e | refine Rel.some ?_ ?_ ?_ | refine Rel.none ?_ ?_ | refine Rel.ee ?_ ?_)
                all_goals first
                  | exact RO'.of (show _ < 4 by simp [Pos.nat]) (tabC_sh last hs step lv ms)
                  | exact RO'.of (show _ < 4 by simp [Pos.nat]) (ShC.same (ShC.cn (.pu trivial) (ShC.cn (.pu trivial) ShC.nl)))
                  | exact RO'.of (show _ < 4 by simp [Pos.nat]) (ShC.same (ShC.cn (.pu trivial) (ShC.cn (.pu trivial) (ShC.cn (.pu trivial) (ShC.cn (.pu trivial) ShC.nl)))))
            · repeat' first | ((with_reducible apply WB.tt); conv => whnf) | ((with_reducible apply WB.ff); conv => whnf) | (refine Rn.seq ?_; conv => whnf) | (refine Rn.reg ?_; conv => whnf) | (refine Rn.drw ?_; conv => whnf) | (refine Rn.blk ?_; conv => whnf) | (refine Rn.skip ?_; conv => whnf) | (refine Rn.ret ?_; conv => whnf) | (refine Rn.exit ?_; conv => whnf) | (refine Rn.cond rfl ?_; conv => whnf) | (refine And.intro (InR.i64 (by omega) (by omega)) ?_; conv => whnf) | (refine And.intro (show _ ≠ (0 : Int) by omega) ?_; conv => whnf) | (refine WIx.intsN (by omega) ?_; conv => whnf) | (refine WIx.rowsN (by omega) ?_; conv => whnf)
              refine Again.to (0 + 1, m2) (by dsimp only; omega) ⟨by dsimp only; omega, h16, fun q hq => hskip q hq hc⟩ (Nat.le_refl _) ?_
              refine Shr.of ?_ ?_ rfl rfl
              · show Rel _ _ ((.n (.n (.n (.n (.n .e (some (.i .i64 (i : Int))) .e) (some (.i .i64 (z : Int))) .e) (some (.pt .h 0 0)) (.n .e (some (.pt (.o .h) 0 0)) .e)) none (.n (.n (.n .e (some (.pt (.i .h) 0 0)) .e) (some (.lst 2 (rows rgD bl))) .e) none (.n .e (some (.lst 1 (rows tD L))) .e))) none (.n (.n (.n .e (some (.i .i64 (k : Int))) .e) none .e) none (.n (.n (.n .e (some (.i .i64 ((0 + 1 : Nat) : Int))) .e) none .e) none (.n .e (some (.i .i64 (m2 : Int))) .e)))) : T D) _
                (repeat' first | exact Rel.e | refine Rel.some ?_ ?_ ?_ | refine Rel.none ?_ ?_ | refine Rel.ee ?_ ?_)
                all_goals show Fz _ _ _ _
                all_goals first | exact .pu trivial | exact .pu (pu_rg _) | exact .pu (pu_tR _) | exact .kpt (show _ < 4 by simp [Pos.nat])
              · show Rel _ _ ((.n (.n .e (some (.cells false [.o (.i .i64 w.1) 0, .o (.i .i64 w.2) 0] 1)) .e) (some (tabC last hs step lv ms)) (.n .e (some (.cells false [.o (.b c0) 0, .o (.b c1) 0, .o (.b c2) 0, .o (.b c3) 0] 1)) .e)) : T C) _
                (repeat' first | exact Rel.e | refine Rel.some ?_ ?_ ?_ | refine Rel.none ?_ ?_ | refine Rel.ee ?_ ?_)
                all_goals first
                  | exact RO'.of (show _ < 4 by simp [Pos.nat]) (tabC_sh last hs step lv ms)
                  | exact RO'.of (show _ < 4 by simp [Pos.nat]) (ShC.same (ShC.cn (.pu trivial) (ShC.cn (.pu trivial) ShC.nl)))
                  | exact RO'.of (show _ < 4 by simp [Pos.nat]) (ShC.same (ShC.cn (.pu trivial) (ShC.cn (.pu trivial) (ShC.cn (.pu trivial) (ShC.cn (.pu trivial) ShC.nl)))))
          · repeat' first | ((with_reducible apply WB.tt); conv => whnf) | ((with_reducible apply WB.ff); conv => whnf) | (refine Rn.seq ?_; conv => whnf) | (refine Rn.reg ?_; conv => whnf) | (refine Rn.drw ?_; conv => whnf) | (refine Rn.blk ?_; conv => whnf) | (refine Rn.skip ?_; conv => whnf) | (refine Rn.ret ?_; conv => whnf) | (refine Rn.exit ?_; conv => whnf) | (refine Rn.cond rfl ?_; conv => whnf) | (refine And.intro (InR.i64 (by omega) (by omega)) ?_; conv => whnf) | (refine And.intro (show _ ≠ (0 : Int) by omega) ?_; conv => whnf) | (refine WIx.intsN (by omega) ?_; conv => whnf) | (refine WIx.rowsN (by omega) ?_; conv => whnf)
            refine WSt.ixaN rfl rfl rfl (by omega) ?_; conv => whnf
            repeat' first | ((with_reducible apply WB.tt); conv => whnf) | ((with_reducible apply WB.ff); conv => whnf) | (refine Rn.seq ?_; conv => whnf) | (refine Rn.reg ?_; conv => whnf) | (refine Rn.drw ?_; conv => whnf) | (refine Rn.blk ?_; conv => whnf) | (refine Rn.skip ?_; conv => whnf) | (refine Rn.ret ?_; conv => whnf) | (refine Rn.exit ?_; conv => whnf) | (refine Rn.cond rfl ?_; conv => whnf) | (refine And.intro (InR.i64 (by omega) (by omega)) ?_; conv => whnf) | (refine And.intro (show _ ≠ (0 : Int) by omega) ?_; conv => whnf) | (refine WIx.intsN (by omega) ?_; conv => whnf) | (refine WIx.rowsN (by omega) ?_; conv => whnf)
            refine WB.mk (fun hc => ?_) (fun hc => ?_) <;> conv => whnf
            · repeat' first | ((with_reducible apply WB.tt); conv => whnf) | ((with_reducible apply WB.ff); conv => whnf) | (refine Rn.seq ?_; conv => whnf) | (refine Rn.reg ?_; conv => whnf) | (refine Rn.drw ?_; conv => whnf) | (refine Rn.blk ?_; conv => whnf) | (refine Rn.skip ?_; conv => whnf) | (refine Rn.ret ?_; conv => whnf) | (refine Rn.exit ?_; conv => whnf) | (refine Rn.cond rfl ?_; conv => whnf) | (refine And.intro (InR.i64 (by omega) (by omega)) ?_; conv => whnf) | (refine And.intro (show _ ≠ (0 : Int) by omega) ?_; conv => whnf) | (refine WIx.intsN (by omega) ?_; conv => whnf) | (refine WIx.rowsN (by omega) ?_; conv => whnf)
              refine And.intro (InR.u64 (by omega) (by omega)) ?_; conv => whnf
              repeat' first | ((with_reducible apply WB.tt); conv => whnf) | ((with_reducible apply WB.ff); conv => whnf) | (refine Rn.seq ?_; conv => whnf) | (refine Rn.reg ?_; conv => whnf) | (refine Rn.drw ?_; conv => whnf) | (refine Rn.blk ?_; conv => whnf) | (refine Rn.skip ?_; conv => whnf) | (refine Rn.ret ?_; conv => whnf) | (refine Rn.exit ?_; conv => whnf) | (refine Rn.cond rfl ?_; conv => whnf) | (refine And.intro (InR.i64 (by omega) (by omega)) ?_; conv => whnf) | (refine And.intro (show _ ≠ (0 : Int) by omega) ?_; conv => whnf) | (refine WIx.intsN (by omega) ?_; conv => whnf) | (refine WIx.rowsN (by omega) ?_; conv => whnf)
              refine WSt.shlN (a := 1) (by rfl) (by rfl) (by omega) (by omega) ?_; conv => whnf
              repeat' first | ((with_reducible apply WB.tt); conv => whnf) | ((with_reducible apply WB.ff); conv => whnf) | (refine Rn.seq ?_; conv => whnf) | (refine Rn.reg ?_; conv => whnf) | (refine Rn.drw ?_; conv => whnf) | (refine Rn.blk ?_; conv => whnf) | (refine Rn.skip ?_; conv => whnf) | (refine Rn.ret ?_; conv => whnf) | (refine Rn.exit ?_; conv => whnf) | (refine Rn.cond rfl ?_; conv => whnf) | (refine And.intro (InR.i64 (by omega) (by omega)) ?_; conv => whnf) | (refine And.intro (show _ ≠ (0 : Int) by omega) ?_; conv => whnf) | (refine WIx.intsN (by omega) ?_; conv => whnf) | (refine WIx.rowsN (by omega) ?_; conv => whnf)
              refine WSt.orN (by rfl) (by rfl) h16 hp ?_; conv => whnf
              repeat' first | ((with_reducible apply WB.tt); conv => whnf) | ((with_reducible apply WB.ff); conv => whnf) | (refine Rn.seq ?_; conv => whnf) | (refine Rn.reg ?_; conv => whnf) | (refine Rn.drw ?_; conv => whnf) | (refine Rn.blk ?_; conv => whnf) | (refine Rn.skip ?_; conv => whnf) | (refine Rn.ret ?_; conv => whnf) | (refine Rn.exit ?_; conv => whnf) | (refine Rn.cond rfl ?_; conv => whnf) | (refine And.intro (InR.i64 (by omega) (by omega)) ?_; conv => whnf) | (refine And.intro (show _ ≠ (0 : Int) by omega) ?_; conv => whnf) | (refine WIx.intsN (by omega) ?_; conv => whnf) | (refine WIx.rowsN (by omega) ?_; conv => whnf)
              refine Again.to (1 + 1, m2 ||| 1 * 2 ^ 1) (by dsimp only; omega) ⟨by dsimp only; omega, hor, fun q hq => hstep q hq hc⟩ (Nat.le_refl _) ?_
              refine Shr.of ?_ ?_ rfl rfl
              · show Rel _ _ ((.n (.n (.n (.n (.n .e (some (.i .i64 (i : Int))) .e) (some (.i .i64 (z : Int))) .e) (some (.pt .h 0 0)) (.n .e (some (.pt (.o .h) 0 0)) .e)) none (.n (.n (.n .e (some (.pt (.i .h) 0 0)) .e) (some (.lst 2 (rows rgD bl))) .e) none (.n .e (some (.lst 1 (rows tD L))) .e))) none (.n (.n (.n .e (some (.i .i64 (k : Int))) .e) none .e) none (.n (.n (.n .e (some (.i .i64 ((1 + 1 : Nat) : Int))) .e) none .e) none (.n .e (some (.i .i64 ((m2 ||| 1 * 2 ^ 1 : Nat) : Int))) .e)))) : T D) _
                (repeat' first | exact Rel.e | refine Rel.some ?_ ?_ ?_ | refine Rel.none ?_ ?_ | refine Rel.ee ?_ ?_)
                all_goals show Fz _ _ _ _
                all_goals first | exact .pu trivial | exact .pu (pu_rg _) | exact .pu (pu_tR _) | exact .kpt (show _ < 4 by simp [Pos.nat])
              · show Rel _ _ ((.n (.n .e (some (.cells false [.o (.i .i64 w.1) 0, .o (.i .i64 w.2) 0] 1)) .e) (some (tabC last hs step lv ms)) (.n .e (some (.cells false [.o (.b c0) 0, .o (.b c1) 0, .o (.b c2) 0, .o (.b c3) 0] 1)) .e)) : T C) _
                (repeat' first | exact Rel.e | refine Rel.some ?_ ?_ ?_ | refine Rel.none ?_ ?_ | refine Rel.ee ?_ ?_)
                all_goals first
                  | exact RO'.of (show _ < 4 by simp [Pos.nat]) (tabC_sh last hs step lv ms)
                  | exact RO'.of (show _ < 4 by simp [Pos.nat]) (ShC.same (ShC.cn (.pu trivial) (ShC.cn (.pu trivial) ShC.nl)))
                  | exact RO'.of (show _ < 4 by simp [Pos.nat]) (ShC.same (ShC.cn (.pu trivial) (ShC.cn (.pu trivial) (ShC.cn (.pu trivial) (ShC.cn (.pu trivial) ShC.nl)))))
            · repeat' first | ((with_reducible apply WB.tt); conv => whnf) | ((with_reducible apply WB.ff); conv => whnf) | (refine Rn.seq ?_; conv => whnf) | (refine Rn.reg ?_; conv => whnf) | (refine Rn.drw ?_; conv => whnf) | (refine Rn.blk ?_; conv => whnf) | (refine Rn.skip ?_; conv => whnf) | (refine Rn.ret ?_; conv => whnf) | (refine Rn.exit ?_; conv => whnf) | (refine Rn.cond rfl ?_; conv => whnf) | (refine And.intro (InR.i64 (by omega) (by omega)) ?_; conv => whnf) | (refine And.intro (show _ ≠ (0 : Int) by omega) ?_; conv => whnf) | (refine WIx.intsN (by omega) ?_; conv => whnf) | (refine WIx.rowsN (by omega) ?_; conv => whnf)
              refine Again.to (1 + 1, m2) (by dsimp only; omega) ⟨by dsimp only; omega, h16, fun q hq => hskip q hq hc⟩ (Nat.le_refl _) ?_
              refine Shr.of ?_ ?_ rfl rfl
              · show Rel _ _ ((.n (.n (.n (.n (.n .e (some (.i .i64 (i : Int))) .e) (some (.i .i64 (z : Int))) .e) (some (.pt .h 0 0)) (.n .e (some (.pt (.o .h) 0 0)) .e)) none (.n (.n (.n .e (some (.pt (.i .h) 0 0)) .e) (some (.lst 2 (rows rgD bl))) .e) none (.n .e (some (.lst 1 (rows tD L))) .e))) none (.n (.n (.n .e (some (.i .i64 (k : Int))) .e) none .e) none (.n (.n (.n .e (some (.i .i64 ((1 + 1 : Nat) : Int))) .e) none .e) none (.n .e (some (.i .i64 (m2 : Int))) .e)))) : T D) _
                (repeat' first | exact Rel.e | refine Rel.some ?_ ?_ ?_ | refine Rel.none ?_ ?_ | refine Rel.ee ?_ ?_)
                all_goals show Fz _ _ _ _
                all_goals first | exact .pu trivial | exact .pu (pu_rg _) | exact .pu (pu_tR _) | exact .kpt (show _ < 4 by simp [Pos.nat])
              · show Rel _ _ ((.n (.n .e (some (.cells false [.o (.i .i64 w.1) 0, .o (.i .i64 w.2) 0] 1)) .e) (some (tabC last hs step lv ms)) (.n .e (some (.cells false [.o (.b c0) 0, .o (.b c1) 0, .o (.b c2) 0, .o (.b c3) 0] 1)) .e)) : T C) _
                (repeat' first | exact Rel.e | refine Rel.some ?_ ?_ ?_ | refine Rel.none ?_ ?_ | refine Rel.ee ?_ ?_)
                all_goals first
                  | exact RO'.of (show _ < 4 by simp [Pos.nat]) (tabC_sh last hs step lv ms)
                  | exact RO'.of (show _ < 4 by simp [Pos.nat]) (ShC.same (ShC.cn (.pu trivial) (ShC.cn (.pu trivial) ShC.nl)))
                  | exact RO'.of (show _ < 4 by simp [Pos.nat]) (ShC.same (ShC.cn (.pu trivial) (ShC.cn (.pu trivial) (ShC.cn (.pu trivial) (ShC.cn (.pu trivial) ShC.nl)))))
          · repeat' first | ((with_reducible apply WB.tt); conv => whnf) | ((with_reducible apply WB.ff); conv => whnf) | (refine Rn.seq ?_; conv => whnf) | (refine Rn.reg ?_; conv => whnf) | (refine Rn.drw ?_; conv => whnf) | (refine Rn.blk ?_; conv => whnf) | (refine Rn.skip ?_; conv => whnf) | (refine Rn.ret ?_; conv => whnf) | (refine Rn.exit ?_; conv => whnf) | (refine Rn.cond rfl ?_; conv => whnf) | (refine And.intro (InR.i64 (by omega) (by omega)) ?_; conv => whnf) | (refine And.intro (show _ ≠ (0 : Int) by omega) ?_; conv => whnf) | (refine WIx.intsN (by omega) ?_; conv => whnf) | (refine WIx.rowsN (by omega) ?_; conv => whnf)
            refine WSt.ixaN rfl rfl rfl (by omega) ?_; conv => whnf
            repeat' first | ((with_reducible apply WB.tt); conv => whnf) | ((with_reducible apply WB.ff); conv => whnf) | (refine Rn.seq ?_; conv => whnf) | (refine Rn.reg ?_; conv => whnf) | (refine Rn.drw ?_; conv => whnf) | (refine Rn.blk ?_; conv => whnf) | (refine Rn.skip ?_; conv => whnf) | (refine Rn.ret ?_; conv => whnf) | (refine Rn.exit ?_; conv => whnf) | (refine Rn.cond rfl ?_; conv => whnf) | (refine And.intro (InR.i64 (by omega) (by omega)) ?_; conv => whnf) | (refine And.intro (show _ ≠ (0 : Int) by omega) ?_; conv => whnf) | (refine WIx.intsN (by omega) ?_; conv => whnf) | (refine WIx.rowsN (by omega) ?_; conv => whnf)
            refine WB.mk (fun hc => ?_) (fun hc => ?_) <;> conv => whnf
            · repeat' first | ((with_reducible apply WB.tt); conv => whnf) | ((with_reducible apply WB.ff); conv => whnf) | (refine Rn.seq ?_; conv => whnf) | (refine Rn.reg ?_; conv => whnf) | (refine Rn.drw ?_; conv => whnf) | (refine Rn.blk ?_; conv => whnf) | (refine Rn.skip ?_; conv => whnf) | (refine Rn.ret ?_; conv => whnf) | (refine Rn.exit ?_; conv => whnf) | (refine Rn.cond rfl ?_; conv => whnf) | (refine And.intro (InR.i64 (by omega) (by omega)) ?_; conv => whnf) | (refine And.intro (show _ ≠ (0 : Int) by omega) ?_; conv => whnf) | (refine WIx.intsN (by omega) ?_; conv => whnf) | (refine WIx.rowsN (by omega) ?_; conv => whnf)
              refine And.intro (InR.u64 (by omega) (by omega)) ?_; conv => whnf
              repeat' first | ((with_reducible apply WB.tt); conv => whnf) | ((with_reducible apply WB.ff); conv => whnf) | (refine Rn.seq ?_; conv => whnf) | (refine Rn.reg ?_; conv => whnf) | (refine Rn.drw ?_; conv => whnf) | (refine Rn.blk ?_; conv => whnf) | (refine Rn.skip ?_; conv => whnf) | (refine Rn.ret ?_; conv => whnf) | (refine Rn.exit ?_; conv => whnf) | (refine Rn.cond rfl ?_; conv => whnf) | (refine And.intro (InR.i64 (by omega) (by omega)) ?_; conv => whnf) | (refine And.intro (show _ ≠ (0 : Int) by omega) ?_; conv => whnf) | (refine WIx.intsN (by omega) ?_; conv => whnf) | (refine WIx.rowsN (by omega) ?_; conv => whnf)
              refine WSt.shlN (a := 1) (by rfl) (by rfl) (by omega) (by omega) ?_; conv => whnf
              repeat' first | ((with_reducible apply WB.tt); conv => whnf) | ((with_reducible apply WB.ff); conv => whnf) | (refine Rn.seq ?_; conv => whnf) | (refine Rn.reg ?_; conv => whnf) | (refine Rn.drw ?_; conv => whnf) | (refine Rn.blk ?_; conv => whnf) | (refine Rn.skip ?_; conv => whnf) | (refine Rn.ret ?_; conv => whnf) | (refine Rn.exit ?_; conv => whnf) | (refine Rn.cond rfl ?_; conv => whnf) | (refine And.intro (InR.i64 (by omega) (by omega)) ?_; conv => whnf) | (refine And.intro (show _ ≠ (0 : Int) by omega) ?_; conv => whnf) | (refine WIx.intsN (by omega) ?_; conv => whnf) | (refine WIx.rowsN (by omega) ?_; conv => whnf)
              refine WSt.orN (by rfl) (by rfl) h16 hp ?_; conv => whnf
              repeat' first | ((with_reducible apply WB.tt); conv => whnf) | ((with_reducible apply WB.ff); conv => whnf) | (refine Rn.seq ?_; conv => whnf) | (refine Rn.reg ?_; conv => whnf) | (refine Rn.drw ?_; conv => whnf) | (refine Rn.blk ?_; conv => whnf) | (refine Rn.skip ?_; conv => whnf) | (refine Rn.ret ?_; conv => whnf) | (refine Rn.exit ?_; conv => whnf) | (refine Rn.cond rfl ?_; conv => whnf) | (refine And.intro (InR.i64 (by omega) (by omega)) ?_; conv => whnf) | (refine And.intro (show _ ≠ (0 : Int) by omega) ?_; conv => whnf) | (refine WIx.intsN (by omega) ?_; conv => whnf) | (refine WIx.rowsN (by omega) ?_; conv => whnf)
              refine Again.to (2 + 1, m2 ||| 1 * 2 ^ 2) (by dsimp only; omega) ⟨by dsimp only; omega, hor, fun q hq => hstep q hq hc⟩ (Nat.le_refl _) ?_
              refine Shr.of ?_ ?_ rfl rfl
              · show Rel _ _ ((.n (.n (.n (.n (.n .e (some (.i .i64 (i : Int))) .e) (some (.i .i64 (z : Int))) .e) (some (.pt .h 0 0)) (.n .e (some (.pt (.o .h) 0 0)) .e)) none (.n (.n (.n .e (some (.pt (.i .h) 0 0)) .e) (some (.lst 2 (rows rgD bl))) .e) none (.n .e (some (.lst 1 (rows tD L))) .e))) none (.n (.n (.n .e (some (.i .i64 (k : Int))) .e) none .e) none (.n (.n (.n .e (some (.i .i64 ((2 + 1 : Nat) : Int))) .e) none .e) none (.n .e (some (.i .i64 ((m2 ||| 1 * 2 ^ 2 : Nat) : Int))) .e)))) : T D) _
                (repeat' first | exact Rel.e | refine Rel.some ?_ ?_ ?_ | refine Rel.none ?_ ?_ | refine Rel.ee ?_ ?_)
                all_goals show Fz _ _ _ _
                all_goals first | exact .pu trivial | exact .pu (pu_rg _) | exact .pu (pu_tR _) | exact .kpt (show _ < 4 by simp [Pos.nat])
              · show Rel _ _ ((.n (.n .e (some (.cells false [.o (.i .i64 w.1) 0, .o (.i .i64 w.2) 0] 1)) .e) (some (tabC last hs step lv ms)) (.n .e (some (.cells false [.o (.b c0) 0, .o (.b c1) 0, .o (.b c2) 0, .o (.b c3) 0] 1)) .e)) : T C) _
                (repeat' first | exact Rel.e | refine Rel.some ?_ ?_ ?_ | refine Rel.none ?_ ?_ | refine Rel.ee ?_ ?_)
                all_goals first
                  | exact RO'.of (show _ < 4 by simp [Pos.nat]) (tabC_sh last hs step lv ms)
                  | exact RO'.of (show _ < 4 by simp [Pos.nat]) (ShC.same (ShC.cn (.pu trivial) (ShC.cn (.pu trivial) ShC.nl)))
                  | exact RO'.of (show _ < 4 by simp [Pos.nat]) (ShC.same (ShC.cn (.pu trivial) (ShC.cn (.pu trivial) (ShC.cn (.pu trivial) (ShC.cn (.pu trivial) ShC.nl)))))
            · repeat' first | ((with_reducible apply WB.tt); conv => whnf) | ((with_reducible apply WB.ff); conv => whnf) | (refine Rn.seq ?_; conv => whnf) | (refine Rn.reg ?_; conv => whnf) | (refine Rn.drw ?_; conv => whnf) | (refine Rn.blk ?_; conv => whnf) | (refine Rn.skip ?_; conv => whnf) | (refine Rn.ret ?_; conv => whnf) | (refine Rn.exit ?_; conv => whnf) | (refine Rn.cond rfl ?_; conv => whnf) | (refine And.intro (InR.i64 (by omega) (by omega)) ?_; conv => whnf) | (refine And.intro (show _ ≠ (0 : Int) by omega) ?_; conv => whnf) | (refine WIx.intsN (by omega) ?_; conv => whnf) | (refine WIx.rowsN (by omega) ?_; conv => whnf)
              refine Again.to (2 + 1, m2) (by dsimp only; omega) ⟨by dsimp only; omega, h16, fun q hq => hskip q hq hc⟩ (Nat.le_refl _) ?_
              refine Shr.of ?_ ?_ rfl rfl
              · show Rel _ _ ((.n (.n (.n (.n (.n .e (some (.i .i64 (i : Int))) .e) (some (.i .i64 (z : Int))) .e) (some (.pt .h 0 0)) (.n .e (some (.pt (.o .h) 0 0)) .e)) none (.n (.n (.n .e (some (.pt (.i .h) 0 0)) .e) (some (.lst 2 (rows rgD bl))) .e) none (.n .e (some (.lst 1 (rows tD L))) .e))) none (.n (.n (.n .e (some (.i .i64 (k : Int))) .e) none .e) none (.n (.n (.n .e (some (.i .i64 ((2 + 1 : Nat) : Int))) .e) none .e) none (.n .e (some (.i .i64 (m2 : Int))) .e)))) : T D) _
                (repeat' first | exact Rel.e | refine Rel.some ?_ ?_ ?_ | refine Rel.none ?_ ?_ | refine Rel.ee ?_ ?_)
                all_goals show Fz _ _ _ _
                all_goals first | exact .pu trivial | exact .pu (pu_rg _) | exact .pu (pu_tR _) | exact .kpt (show _ < 4 by simp [Pos.nat])
              · show Rel _ _ ((.n (.n .e (some (.cells false [.o (.i .i64 w.1) 0, .o (.i .i64 w.2) 0] 1)) .e) (some (tabC last hs step lv ms)) (.n .e (some (.cells false [.o (.b c0) 0, .o (.b c1) 0, .o (.b c2) 0, .o (.b c3) 0] 1)) .e)) : T C) _
                (repeat' first | exact Rel.e | refine Rel.some ?_ ?_ ?_ | refine Rel.none ?_ ?_ | refine Rel.ee ?_ ?_)
                all_goals first
                  | exact RO'.of (show _ < 4 by simp [Pos.nat]) (tabC_sh last hs step lv ms)
                  | exact RO'.of (show _ < 4 by simp [Pos.nat]) (ShC.same (ShC.cn (.pu trivial) (ShC.cn (.pu trivial) ShC.nl)))
                  | exact RO'.of (show _ < 4 by simp [Pos.nat]) (ShC.same (ShC.cn (.pu trivial) (ShC.cn (.pu trivial) (ShC.cn (.pu trivial) (ShC.cn (.pu trivial) ShC.nl)))))
          · repeat' first | ((with_reducible apply WB.tt); conv => whnf) | ((with_reducible apply WB.ff); conv => whnf) | (refine Rn.seq ?_; conv => whnf) | (refine Rn.reg ?_; conv => whnf) | (refine Rn.drw ?_; conv => whnf) | (refine Rn.blk ?_; conv => whnf) | (refine Rn.skip ?_; conv => whnf) | (refine Rn.ret ?_; conv => whnf) | (refine Rn.exit ?_; conv => whnf) | (refine Rn.cond rfl ?_; conv => whnf) | (refine And.intro (InR.i64 (by omega) (by omega)) ?_; conv => whnf) | (refine And.intro (show _ ≠ (0 : Int) by omega) ?_; conv => whnf) | (refine WIx.intsN (by omega) ?_; conv => whnf) | (refine WIx.rowsN (by omega) ?_; conv => whnf)
            refine WSt.ixaN rfl rfl rfl (by omega) ?_; conv => whnf
            repeat' first | ((with_reducible apply WB.tt); conv => whnf) | ((with_reducible apply WB.ff); conv => whnf) | (refine Rn.seq ?_; conv => whnf) | (refine Rn.reg ?_; conv => whnf) | (refine Rn.drw ?_; conv => whnf) | (refine Rn.blk ?_; conv => whnf) | (refine Rn.skip ?_; conv => whnf) | (refine Rn.ret ?_; conv => whnf) | (refine Rn.exit ?_; conv => whnf) | (refine Rn.cond rfl ?_; conv => whnf) | (refine And.intro (InR.i64 (by omega) (by omega)) ?_; conv => whnf) | (refine And.intro (show _ ≠ (0 : Int) by omega) ?_; conv => whnf) | (refine WIx.intsN (by omega) ?_; conv => whnf) | (refine WIx.rowsN (by omega) ?_; conv => whnf)
            refine WB.mk (fun hc => ?_) (fun hc => ?_) <;> conv => whnf
            · repeat' first | ((with_reducible apply WB.tt); conv => whnf) | ((with_reducible apply WB.ff); conv => whnf) | (refine Rn.seq ?_; conv => whnf) | (refine Rn.reg ?_; conv => whnf) | (refine Rn.drw ?_; conv => whnf) | (refine Rn.blk ?_; conv => whnf) | (refine Rn.skip ?_; conv => whnf) | (refine Rn.ret ?_; conv => whnf) | (refine Rn.exit ?_; conv => whnf) | (refine Rn.cond rfl ?_; conv => whnf) | (refine And.intro (InR.i64 (by omega) (by omega)) ?_; conv => whnf) | (refine And.intro (show _ ≠ (0 : Int) by omega) ?_; conv => whnf) | (refine WIx.intsN (by omega) ?_; conv => whnf) | (refine WIx.rowsN (by omega) ?_; conv => whnf)
              refine And.intro (InR.u64 (by omega) (by omega)) ?_; conv => whnf
              repeat' first | ((with_reducible apply WB.tt); conv => whnf) | ((with_reducible apply WB.ff); conv => whnf) | (refine Rn.seq ?_; conv => whnf) | (refine Rn.reg ?_; conv => whnf) | (refine Rn.drw ?_; conv => whnf) | (refine Rn.blk ?_; conv => whnf) | (refine Rn.skip ?_; conv => whnf) | (refine Rn.ret ?_; conv => whnf) | (refine Rn.exit ?_; conv => whnf) | (refine Rn.cond rfl ?_; conv => whnf) | (refine And.intro (InR.i64 (by omega) (by omega)) ?_; conv => whnf) | (refine And.intro (show _ ≠ (0 : Int) by omega) ?_; conv => whnf) | (refine WIx.intsN (by omega) ?_; conv => whnf) | (refine WIx.rowsN (by omega) ?_; conv => whnf)
              refine WSt.shlN (a := 1) (by rfl) (by rfl) (by omega) (by omega) ?_; conv => whnf
              repeat' first | ((with_reducible apply WB.tt); conv => whnf) | ((with_reducible apply WB.ff); conv => whnf) | (refine Rn.seq ?_; conv => whnf) | (refine Rn.reg ?_; conv => whnf) | (refine Rn.drw ?_; conv => whnf) | (refine Rn.blk ?_; conv => whnf) | (refine Rn.skip ?_; conv => whnf) | (refine Rn.ret ?_; conv => whnf) | (refine Rn.exit ?_; conv => whnf) | (refine Rn.cond rfl ?_; conv => whnf) | (refine And.intro (InR.i64 (by omega) (by omega)) ?_; conv => whnf) | (refine And.intro (show _ ≠ (0 : Int) by omega) ?_; conv => whnf) | (refine WIx.intsN (by omega) ?_; conv => whnf) | (refine WIx.rowsN (by omega) ?_; conv => whnf)
              refine WSt.orN (by rfl) (by rfl) h16 hp ?_; conv => whnf
              repeat' first | ((with_reducible apply WB.tt); conv => whnf) | ((with_reducible apply WB.ff); conv => whnf) | (refine Rn.seq ?_; conv => whnf) | (refine Rn.reg ?_; conv => whnf) | (refine Rn.drw ?_; conv => whnf) | (refine Rn.blk ?_; conv => whnf) | (refine Rn.skip ?_; conv => whnf) | (refine Rn.ret ?_; conv => whnf) | (refine Rn.exit ?_; conv => whnf) | (refine Rn.cond rfl ?_; conv => whnf) | (refine And.intro (InR.i64 (by omega) (by omega)) ?_; conv => whnf) | (refine And.intro (show _ ≠ (0 : Int) by omega) ?_; conv => whnf) | (refine WIx.intsN (by omega) ?_; conv => whnf) | (refine WIx.rowsN (by omega) ?_; conv => whnf)
              refine Again.to (3 + 1, m2 ||| 1 * 2 ^ 3) (by dsimp only; omega) ⟨by dsimp only; omega, hor, fun q hq => hstep q hq hc⟩ (Nat.le_refl _) ?_
              refine Shr.of ?_ ?_ rfl rfl
              · show Rel _ _ ((.n (.n (.n (.n (.n .e (some (.i .i64 (i : Int))) .e) (some (.i .i64 (z : Int))) .e) (some (.pt .h 0 0)) (.n .e (some (.pt (.o .h) 0 0)) .e)) none (.n (.n (.n .e (some (.pt (.i .h) 0 0)) .e) (some (.lst 2 (rows rgD bl))) .e) none (.n .e (some (.lst 1 (rows tD L))) .e))) none (.n (.n (.n .e (some (.i .i64 (k : Int))) .e) none .e) none (.n (.n (.n .e (some (.i .i64 ((3 + 1 : Nat) : Int))) .e) none .e) none (.n .e (some (.i .i64 ((m2 ||| 1 * 2 ^ 3 : Nat) : Int))) .e)))) : T D) _
                (repeat' first | exact Rel.e | refine Rel.some ?_ ?_ ?_ | refine Rel.none ?_ ?_ | refine Rel.ee ?_ ?_)
                all_goals show Fz _ _ _ _
                all_goals first | exact .pu trivial | exact .pu (pu_rg _) | exact .pu (pu_tR _) | exact .kpt (show _ < 4 by simp [Pos.nat])
              · show Rel _ _ ((.n (.n .e (some (.cells false [.o (.i .i64 w.1) 0, .o (.i .i64 w.2) 0] 1)) .e) (some (tabC last hs step lv ms)) (.n .e (some (.cells false [.o (.b c0) 0, .o (.b c1) 0, .o (.b c2) 0, .o (.b c3) 0] 1)) .e)) : T C) _
                (repeat' first | exact Rel.e | refine Rel.some ?_ ?_ ?_ | refine Rel.none ?_ ?_ | refine Rel.ee ?_ ?_)
                all_goals first
                  | exact RO'.of (show _ < 4 by simp [Pos.nat]) (tabC_sh last hs step lv ms)
                  | exact RO'.of (show _ < 4 by simp [Pos.nat]) (ShC.same (ShC.cn (.pu trivial) (ShC.cn (.pu trivial) ShC.nl)))
                  | exact RO'.of (show _ < 4 by simp [Pos.nat]) (ShC.same (ShC.cn (.pu trivial) (ShC.cn (.pu trivial) (ShC.cn (.pu trivial) (ShC.cn (.pu trivial) ShC.nl)))))
            · repeat' first | ((with_reducible apply WB.tt); conv => whnf) | ((with_reducible apply WB.ff); conv => whnf) | (refine Rn.seq ?_; conv => whnf) | (refine Rn.reg ?_; conv => whnf) | (refine Rn.drw ?_; conv => whnf) | (refine Rn.blk ?_; conv => whnf) | (refine Rn.skip ?_; conv => whnf) | (refine Rn.ret ?_; conv => whnf) | (refine Rn.exit ?_; conv => whnf) | (refine Rn.cond rfl ?_; conv => whnf) | (refine And.intro (InR.i64 (by omega) (by omega)) ?_; conv => whnf) | (refine And.intro (show _ ≠ (0 : Int) by omega) ?_; conv => whnf) | (refine WIx.intsN (by omega) ?_; conv => whnf) | (refine WIx.rowsN (by omega) ?_; conv => whnf)
              refine Again.to (3 + 1, m2) (by dsimp only; omega) ⟨by dsimp only; omega, h16, fun q hq => hskip q hq hc⟩ (Nat.le_refl _) ?_
              refine Shr.of ?_ ?_ rfl rfl
              · show Rel _ _ ((.n (.n (.n (.n (.n .e (some (.i .i64 (i : Int))) .e) (some (.i .i64 (z : Int))) .e) (some (.pt .h 0 0)) (.n .e (some (.pt (.o .h) 0 0)) .e)) none (.n (.n (.n .e (some (.pt (.i .h) 0 0)) .e) (some (.lst 2 (rows rgD bl))) .e) none (.n .e (some (.lst 1 (rows tD L))) .e))) none (.n (.n (.n .e (some (.i .i64 (k : Int))) .e) none .e) none (.n (.n (.n .e (some (.i .i64 ((3 + 1 : Nat) : Int))) .e) none .e) none (.n .e (some (.i .i64 (m2 : Int))) .e)))) : T D) _
                (repeat' first | exact Rel.e | refine Rel.some ?_ ?_ ?_ | refine Rel.none ?_ ?_ | refine Rel.ee ?_ ?_)
                all_goals show Fz _ _ _ _
                all_goals first | exact .pu trivial | exact .pu (pu_rg _) | exact .pu (pu_tR _) | exact .kpt (show _ < 4 by simp [Pos.nat])
              · show Rel _ _ ((.n (.n .e (some (.cells false [.o (.i .i64 w.1) 0, .o (.i .i64 w.2) 0] 1)) .e) (some (tabC last hs step lv ms)) (.n .e (some (.cells false [.o (.b c0) 0, .o (.b c1) 0, .o (.b c2) 0, .o (.b c3) 0] 1)) .e)) : T C) _
                (repeat' first | exact Rel.e | refine Rel.some ?_ ?_ ?_ | refine Rel.none ?_ ?_ | refine Rel.ee ?_ ?_)
                all_goals first
                  | exact RO'.of (show _ < 4 by simp [Pos.nat]) (tabC_sh last hs step lv ms)
                  | exact RO'.of (show _ < 4 by simp [Pos.nat]) (ShC.same (ShC.cn (.pu trivial) (ShC.cn (.pu trivial) ShC.nl)))
                  | exact RO'.of (show _ < 4 by simp [Pos.nat]) (ShC.same (ShC.cn (.pu trivial) (ShC.cn (.pu trivial) (ShC.cn (.pu trivial) (ShC.cn (.pu trivial) ShC.nl)))))
        · have hj4 : j = 4 := by omega
          subst hj4
          repeat' first | ((with_reducible apply WB.tt); conv => whnf) | ((with_reducible apply WB.ff); conv => whnf) | (refine Rn.seq ?_; conv => whnf) | (refine Rn.reg ?_; conv => whnf) | (refine Rn.drw ?_; conv => whnf) | (refine Rn.blk ?_; conv => whnf) | (refine Rn.skip ?_; conv => whnf) | (refine Rn.ret ?_; conv => whnf) | (refine Rn.exit ?_; conv => whnf) | (refine Rn.cond rfl ?_; conv => whnf) | (refine And.intro (InR.i64 (by omega) (by omega)) ?_; conv => whnf) | (refine And.intro (show _ ≠ (0 : Int) by omega) ?_; conv => whnf) | (refine WIx.intsN (by omega) ?_; conv => whnf) | (refine WIx.rowsN (by omega) ?_; conv => whnf)
          refine Again.to (i + 1, m2) (by dsimp only; omega) ⟨by dsimp only; omega, h16, fun q hq => ?_⟩ (Nat.le_of_ble_eq_true rfl) ?_
          · show m2.testBit q = _
            rw [hb q hq, hnx q, hcq q hq, hbits q hq, decide_eq_true hq, Bool.true_and]
          refine Shr.of ?_ ?_ rfl rfl
          · show Rel _ _ ((.n (.n (.n (.n (.n .e (some (.i .i64 ((i + 1 : Nat) : Int))) .e) (some (.i .i64 (z : Int))) .e) (some (.pt .h 0 0)) (.n .e (some (.pt (.o .h) 0 0)) .e)) none (.n (.n .e (some (.lst 2 (rows rgD bl))) .e) none (.n .e (some (.lst 1 (rows tD L))) .e))) none (.n (.n (.n .e (some (.i .i64 (k : Int))) .e) none .e) none (.n .e none (.n .e (some (.i .i64 (m2 : Int))) .e)))) : T D) _
            (repeat' first | exact Rel.e | refine Rel.some ?_ ?_ ?_ | refine Rel.none ?_ ?_ | refine Rel.ee ?_ ?_)
            all_goals show Fz _ _ _ _
            all_goals first | exact .pu trivial | exact .pu (pu_rg _) | exact .pu (pu_tR _) | exact .kpt (show _ < 3 by simp [Pos.nat])
          · show Rel _ _ ((.n (.n .e (some (.cells false [.o (.i .i64 w.1) 0, .o (.i .i64 w.2) 0] 1)) .e) (some (tabC last hs step lv ms)) .e) : T C) _
            (repeat' first | exact Rel.e | refine Rel.some ?_ ?_ ?_ | refine Rel.none ?_ ?_ | refine Rel.ee ?_ ?_)
            all_goals first
              | exact RO'.of (show _ < 3 by simp [Pos.nat]) (tabC_sh last hs step lv ms)
              | exact RO'.of (show _ < 3 by simp [Pos.nat]) (ShC.same (ShC.cn (.pu trivial) (ShC.cn (.pu trivial) ShC.nl)))
              | exact RO'.of (show _ < 3 by simp [Pos.nat]) (ShC.same (ShC.cn (.pu trivial) (ShC.cn (.pu trivial) (ShC.cn (.pu trivial) (ShC.cn (.pu trivial) ShC.nl)))))
      · have hi2 : i = L.length := by omega
        have hall : ∀ q, q < 4 → m.testBit q = true := fun q hq => by rw [hbits q hq, hi2, List.take_length]; exact ends q hq
        have h15 := bits_all m hm16 (hall 0 (by omega)) (hall 1 (by omega)) (hall 2 (by omega)) (hall 3 (by omega))
        subst h15
        repeat' first | ((with_reducible apply WB.tt); conv => whnf) | ((with_reducible apply WB.ff); conv => whnf) | (refine Rn.seq ?_; conv => whnf) | (refine Rn.reg ?_; conv => whnf) | (refine Rn.drw ?_; conv => whnf) | (refine Rn.blk ?_; conv => whnf) | (refine Rn.skip ?_; conv => whnf) | (refine Rn.ret ?_; conv => whnf) | (refine Rn.exit ?_; conv => whnf) | (refine Rn.cond rfl ?_; conv => whnf) | (refine And.intro (InR.i64 (by omega) (by omega)) ?_; conv => whnf) | (refine And.intro (show _ ≠ (0 : Int) by omega) ?_; conv => whnf) | (refine WIx.intsN (by omega) ?_; conv => whnf) | (refine WIx.rowsN (by omega) ?_; conv => whnf) | (refine WCall.pure (AW) ?_; conv => whnf) | ((with_reducible refine WB.decT (by first | with_reducible rfl | assumption | omega | exact ⟨rfl, rfl⟩) ?_); conv => whnf) | ((with_reducible refine WB.decF (by first | assumption | omega) ?_); conv => whnf) | ((with_reducible refine WB.ndT (by first | with_reducible rfl | assumption | omega | exact ⟨rfl, rfl⟩) ?_); conv => whnf) | ((with_reducible refine WB.ndF (by first | assumption | omega) ?_); conv => whnf) | ((with_reducible refine WB.nt ?_); conv => whnf) | ((with_reducible refine WB.nf ?_); conv => whnf) | ((with_reducible refine WB.dec (fun h => ?_) (fun h => ?_)) <;> conv => whnf) | ((with_reducible refine WB.ndec (fun h => ?_) (fun h => ?_)) <;> conv => whnf) | (refine WB.mk (fun h => ?_) (fun h => ?_) <;> conv => whnf) | (refine WB.tt ?_; conv => whnf) | (refine WB.ff ?_; conv => whnf)
        exact Fin.b rfl rfl
theorem main_tideEnds (AW : PureF Try.prog p21.ix [] (.b true)) {es : List D} (fit : FitP [(true, [.i .i64, .sl [.i .i64, .i .i64], .i .i64, .sl [.i .i64], .sl [.i .i64, .i .i64, .i .i64, .i .i64]]), (false, [.i .u8]), (false, [.i .u8])] es) : PureF Try.prog 10 es (.b true) := by
  obtain ⟨last, hs, step, lv, ms, _, rfl, g1⟩ := fit.tab
  obtain ⟨f, _, rfl, w1, g2⟩ := g1.i
  obtain ⟨t, _, rfl, w2, g3⟩ := g2.i
  obtain rfl := g3.no
  exact c_TideEnds last hs step lv ms f t (wf_u8 w1) (wf_u8 w2) AW
end Go.Ev

namespace Go.Proofs.Ytpemagogcagipaa.tideEnds
open Go.ChangeShapes Go.WideShapes Go.ChangeAt Go.RowKit
open Go.ChangeMaps (open_string shut_string)
set_option linter.unusedVariables false

theorem laid : laidOutB Try.prog = true := by kernel_rfl
theorem own : ownKnob Try.prog.godebug = none := by kernel_rfl

/-! ### the walk -/
theorem walk {es : List Go.Ev.D} (fit : Go.Ev.FitP [(true, [.i .i64, .sl [.i .i64, .i .i64], .i .i64, .sl [.i .i64], .sl [.i .i64, .i .i64, .i .i64, .i .i64]]), (false, [.i .u8]), (false, [.i .u8])] es) {args : Array Value} {W : World} (ha : Go.Ev.DVL (Go.Ev.γH W) W es args.toList) :
    Calls Try.prog 10 args W fun e w' => e = .returned (.bool true) ∧ Grown W w' ∧ Below W.heap.size W w' :=
  Go.Ev.PureF.calls (Go.Ev.main_tideEnds (fun ob nx lg => Go.Ev.closed_call Go.Ev.fp_ok Go.Ev.aw ob nx lg) fit) ha

set_option maxRecDepth 100000 in
theorem lifted (os : Os) (started : os.Started) (H : Type) (enc : TypeId × Value → H) :
    ReturnsInHanded {} Try.checked os 10 .any (Rows.tideEndsSpec.pre6 enc Try.prog Try.f10 Rows.tideEndsRow.domain false) (Rows.tideEndsSpec.post enc Try.prog Try.f10 false true false false) := by
  refine returnsInHanded_of_change (C := Try.checked) own started (by kernel_rfl) Try.func10
    (ChangeSpec.witness6 (enc := enc) (C := Try.checked) false ⟨#[], #[.agg #[.int .i64 0, .slice none 0 0, .int .i64 0, .slice none 0 0, .slice none 0 0], .int .u8 0, .int .u8 0], []⟩ 8 (by kernel_rfl) (by kernel_rfl) (by kernel_rfl) (by kernel_rfl)) ?_
  intro W base args ds gs before hval0 hW hcnd _
  have hval : ∀ (j : Nat) t v, Try.f10.params[j]? = some t → args[j]? = some v → Value.okWide Try.prog W .any base t v := hval0
  have hW' := hW
  obtain ⟨p, q, hA0, hV, rfl, hfz, hnd⟩ := hW
  have hA : DataW.TrodAll enc Try.prog W 0 (fun _ => true) true Try.f10.params.toList args.toList ds p := hA0
  rw [Try.params10] at hA hval
  obtain ⟨rfl, rfl⟩ := trodVars_none hV
  obtain ⟨d0, d1, d2, rfl⟩ := Go.Ev.len3 (Go.Ev.trod_len hA)
  clear hA0 hval0
  simp only [List.append_nil] at hW'
  obtain ⟨es, fit, dv⟩ := Go.Ev.open_all (n := 6) (pars := [(true, [.i .i64, .sl [.i .i64, .i .i64], .i .i64, .sl [.i .i64], .sl [.i .i64, .i .i64, .i .i64, .i .i64]]), (false, [.i .u8]), (false, [.i .u8])]) (by kernel_rfl) hA (fun j t v h1 h2 => hval j t v (by simpa using h1) (by simpa using h2))
  have hlt : ∀ x ∈ p, x.block < W.heap.size := fun x hx => by simpa using hW'.lt x hx
  refine (walk fit dv).mono fun e W' ⟨he, hg, hb⟩ => ?_
  subst he
  exact ⟨_, rfl, post_of_same (pa := p) (pv := []) hW' (fun _ _ _ => (trodAll_cons_mk (shut_bool Try.underlying4 _) trodAll_mk0))
    (fun sp hs => Go.Ev.stays_all laid (Go.Ev.of_allT (by kernel_rfl)) hA (fun x hx => hb.same (hlt x hx)) (fun x hx => hs x hx))
    (fun _ _ => rfl) (List.append_nil _).symm
    (hg.frame _) hg.2.1 (ok_one (by kernel_rfl) rfl (okWide_bool_mk Try.underlying4 _))⟩

theorem over : Rows.tideEndsRow.holds Try.pinned (OpenSpec.ofChange Rows.tideEndsSpec) :=
  OpenClaim.holds_of_wide 10 Try.f10 rfl rfl rfl rfl rfl rfl rfl ⟨rfl, rfl, rfl, rfl, rfl⟩ rfl rfl rfl rfl rfl (by kernel_rfl) Try.func10 (by kernel_rfl)
    (of_decide_eq_true (by kernel_rfl)) (by unfold Func.isWrapper; first | (rw [if_pos (by decide +kernel)]; kernel_rfl) | (rw [if_neg (by decide +kernel)]; exact ⟨rfl, rfl⟩))
    (fun os started H enc _ => lifted os started H enc)

/-- ████ THE STATEMENT ████ -/
theorem proved : Rows.TideEndsSaid :=
  over
#print axioms proved
end Go.Proofs.Ytpemagogcagipaa.tideEnds
