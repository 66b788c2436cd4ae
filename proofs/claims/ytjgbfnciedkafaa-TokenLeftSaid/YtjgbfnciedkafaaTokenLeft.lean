/-
  the statement TokenLeft of the layer token is true for all inputs: without the smallest set there is a truth; without any shorter list, or one that is as long and lexicographically before it, there is none; a book without counts has one
-/
import Derived.Test.YtjgbfnciedkafaaEvUN6
import Derived.Test.YtjgbfnciedkafaaEvUNa
import Derived.Test.YtjgbfnciedkafaaRows
import Derived.WalkKit
import Derived.ProofKit
import Derived.OpenShut
import Derived.Test.YtjgbfnciedkafaaEvUPl
import Derived.Test.YtjgbfnciedkafaaEvUS3T
import Derived.ShutString
import Derived.Test.YtjgbfnciedkafaaFaTokenLeft
set_option linter.all false
namespace Go.Ev
open Go.Proofs
set_option maxRecDepth 1000000
noncomputable def rc17 : RC := (.seq (.reg [(.u (.box p3 (.t p1))), (.u (.mv p5 (.k (.b false))))]) (.seq (.seq (.reg [(.u (.ldn p15 (.t p3) 5)), (.u (.cf (some p16) p55 [(.t p15)])), (.u (.un p17 .not (.t p16)))]) (.cond (.t p17) (.seq (.reg [(.u (.cf (some p18) p22 [])), (.u (.mv p5 (.t p18)))]) .ret) .skip)) (.seq (.reg [(.u (.ldn p20 (.t p3) 5)), (.u (.cf (some p21) p24 [(.t p20)])), (.u (.cf (some p22) p48 [(.t p21)])), (.u (.mv p19 (.t p22))), (.u (.ext p23 (.t p19) 0)), (.u (.ext p24 (.t p19) 1)), (.u (.mv p6 (.t p23))), (.u (.mv p7 (.t p24)))]) (.seq (.reg [(.u (.mv p25 (.t p2))), (.u (.cvi p26 .i64 (.t p25))), (.u (.ldn p27 (.t p3) 5)), (.u (.cf (some p28) p66 [(.t p27)])), (.u (.bin p29 .and (.t p26) (.t p28))), (.u (.mv p8 (.t p29)))]) (.seq (.drw [(.u (.ldn p31 (.t p3) 5)), (.u (.ldn p32 (.t p3) 5)), (.u (.cf (some p33) p66 [(.t p32)])), (.u (.mv p34 (.t p8))), (.u (.bin p35 .andNot (.t p33) (.t p34))), (.u (.cf (some p36) p65 [(.t p31), (.t p35)])), (.u (.cf (some p37) p24 [(.t p36)])), (.u (.cf (some p38) p40 [(.t p37)])), (.u (.mv p30 (.t p38))), (.u (.ext p39 (.t p30) 0)), (.u (.ext p40 (.t p30) 1)), (.u (.new p9 [(.i .i64 0), (.i .i64 0)])), (.u (.st (.t p9) (.t p39) 2)), (.u (.mv p10 (.t p40)))] [0, 0, 2, 0, 14, 31, 63, 127, 255, 511, 511, 0, 3071, 8191]) (.seq (.seq (.reg [(.u (.mv p41 (.t p7))), (.u (.bin p42 .neq (.t p41) (.k (.i .i64 0))))]) (.cond (.t p42) (.seq (.reg [(.u (.mv p43 (.t p7))), (.u (.bin p44 .eql (.t p43) (.k (.i .i64 10)))), (.u (.mv p45 (.t p44))), (.g p45 true (some p46) (.fad p46 (.t p3) 4)), (.g p45 true (some p47) (.ld1 p47 (.t p46))), (.g p45 true (some p48) (.len p48 (.t p47))), (.g p45 true (some p49) (.bin p49 .gtr (.t p48) (.k (.i .i64 0)))), (.u (.pick p50 (.t p45) (.t p49) (.k (.b false)))), (.u (.mv p51 (.t p50))), (.g p51 true (some p52) (.mv p52 (.t p10))), (.g p51 true (some p53) (.bin p53 .eql (.t p52) (.k (.i .i64 11)))), (.u (.pick p54 (.t p51) (.t p53) (.k (.b false)))), (.u (.mv p55 (.t p54))), (.g p55 true (some p56) (.cf (some p56) p22 [])), (.u (.pick p57 (.t p55) (.t p56) (.k (.b false)))), (.u (.mv p5 (.t p57)))]) .ret) .skip)) (.seq (.reg [(.u (.mv p11 (.k (.i .i64 0))))]) (.seq (.seq (.reg [(.u (.mv p12 (.k (.i .i64 0))))]) (.blk 0 (.loop (.seq (.seq (.reg [(.u (.mv p58 (.t p12))), (.u (.mv p59 (.t p6))), (.u (.len p60 (.t p59))), (.u (.bin p61 .lss (.t p58) (.t p60)))]) (.cond (.t p61) .skip (.exit 0))) (.seq (.blk 1 (.seq (.seq (.drw [(.u (.mv p64 (.t p6))), (.u (.mv p65 (.t p12))), (.u (.ixs p66 1 (.t p64) (.t p65))), (.u (.ld1 p67 (.t p66))), (.u (.bin p68 .lss (.t p67) (.k (.i .i64 0)))), (.u (.mv p69 (.t p68))), (.g p69 false (some p70) (.mv p70 (.t p6))), (.g p69 false (some p71) (.mv p71 (.t p12))), (.g p69 false (some p72) (.ixs p72 1 (.t p70) (.t p71))), (.g p69 false (some p73) (.ld1 p73 (.t p72))), (.g p69 false (some p74) (.fad p74 (.t p3) 3)), (.g p69 false (some p75) (.ld1 p75 (.t p74))), (.g p69 false (some p76) (.len p76 (.t p75))), (.g p69 false (some p77) (.bin p77 .geq (.t p73) (.t p76))), (.u (.pick p78 (.t p69) (.k (.b true)) (.t p77))), (.u (.mv p79 (.t p78))), (.g p79 false (some p80) (.mv p80 (.t p12))), (.g p79 false (some p81) (.bin p81 .gtr (.t p80) (.k (.i .i64 0)))), (.g p79 false (some p82) (.mv p82 (.t p81))), (.g p82 true (some p83) (.mv p83 (.t p6))), (.g p82 true (some p84) (.mv p84 (.t p12))), (.g p82 true (some p85) (.ixs p85 1 (.t p83) (.t p84))), (.g p82 true (some p86) (.ld1 p86 (.t p85))), (.g p82 true (some p87) (.mv p87 (.t p6))), (.g p82 true (some p88) (.mv p88 (.t p12))), (.g p82 true (some p89) (.bin p89 .sub (.t p88) (.k (.i .i64 1)))), (.g p82 true (some p90) (.ixs p90 1 (.t p87) (.t p89))), (.g p82 true (some p91) (.ld1 p91 (.t p90))), (.g p82 true (some p92) (.bin p92 .leq (.t p86) (.t p91))), (.g p79 false (some p93) (.pick p93 (.t p82) (.t p92) (.k (.b false)))), (.u (.pick p94 (.t p79) (.k (.b true)) (.t p93)))] [0, 0, 3, 7, 15, 31, 63, 63, 255, 511, 63, 1087, 3135, 8191, 16383, 32767, 65535, 131071, 262143, 524287, 524287, 2097151, 4194303, 524287, 524287, 17301503, 59244543, 126353407, 268435455, 536870911, 1073741823]) (.cond (.t p94) (.seq (.reg [(.u (.mv p5 (.k (.b false))))]) .ret) .skip)) (.reg [(.u (.mv p95 (.t p11))), (.u (.mv p96 (.t p6))), (.u (.mv p97 (.t p12))), (.u (.ixs p98 1 (.t p96) (.t p97))), (.u (.ld1 p99 (.t p98))), (.u (.cvi p100 .u64 (.t p99))), (.u (.bin p101 .shl (.k (.i .i64 1)) (.t p100))), (.u (.bin p102 .or (.t p95) (.t p101))), (.u (.mv p11 (.t p102)))]))) (.reg [(.u (.mv p62 (.t p12))), (.u (.bin p63 .add (.t p62) (.k (.i .i64 1)))), (.u (.mv p12 (.t p63)))])))))) (.seq (.drw [(.u (.ldn p104 (.t p3) 5)), (.u (.ldn p105 (.t p3) 5)), (.u (.cf (some p106) p66 [(.t p105)])), (.u (.mv p107 (.t p11))), (.u (.bin p108 .andNot (.t p106) (.t p107))), (.u (.cf (some p109) p65 [(.t p104), (.t p108)])), (.u (.cf (some p110) p24 [(.t p109)])), (.u (.cf (some p111) p40 [(.t p110)])), (.u (.mv p103 (.t p111))), (.u (.ext p112 (.t p103) 0)), (.u (.ext p113 (.t p103) 1)), (.u (.new p13 [(.i .i64 0), (.i .i64 0)])), (.u (.st (.t p13) (.t p112) 2)), (.u (.mv p14 (.t p113)))] [0, 0, 2, 0, 14, 31, 63, 127, 255, 511, 511, 0, 3071, 8191]) (.seq (.reg [(.u (.mv p114 (.t p14))), (.u (.bin p115 .eql (.t p114) (.k (.i .i64 0)))), (.u (.mv p116 (.t p115))), (.g p116 true (some p117) (.mv p117 (.t p10))), (.g p116 true (some p118) (.bin p118 .eql (.t p117) (.k (.i .i64 11)))), (.g p116 true (some p119) (.mv p119 (.t p118))), (.g p119 false (some p120) (.mv p120 (.t p10))), (.g p119 false (some p121) (.bin p121 .eql (.t p120) (.k (.i .i64 0)))), (.g p119 false (some p122) (.mv p122 (.t p121))), (.g p122 true (some p123) (.mv p123 (.t p8))), (.g p122 true (some p124) (.cf (some p124) p68 [(.t p123)])), (.g p122 true (some p125) (.mv p125 (.t p6))), (.g p122 true (some p126) (.cf (some p126) p67 [(.t p124), (.t p125)])), (.g p122 true (some p127) (.un p127 .not (.t p126))), (.g p119 false (some p128) (.pick p128 (.t p122) (.t p127) (.k (.b false)))), (.g p116 true (some p129) (.pick p129 (.t p119) (.k (.b true)) (.t p128))), (.u (.pick p130 (.t p116) (.t p129) (.k (.b false)))), (.u (.mv p131 (.t p130))), (.g p131 true (some p132) (.cf (some p132) p22 [])), (.u (.pick p133 (.t p131) (.t p132) (.k (.b false)))), (.u (.mv p5 (.t p133)))]) .ret))))))))))
def rs17 : List RR := [(.t p5)]
theorem fn17 : FnOk Try.prog p18.ix 133 rc17 rs17 := ⟨Try.f17, bodyC Try.f17, Try.func17, by kernel_rfl, by kernel_rfl, by kernel_rfl, by kernel_rfl, by kernel_rfl⟩
end Go.Ev
namespace Go.Ev
open Go.Proofs
set_option maxRecDepth 100000
theorem fault_keep {n coin box : Int} {ls : List Ln} {cs : List Ct} (q : Nat → Bool) (h : faultT n coin box ls cs = 0) : faultT n coin box (keepL q ls) (cs.map (keepC q)) = 0 := by
  have V := VB.of h
  have K := V.keep q
  obtain ⟨f1, f2, f3, f4⟩ := fault_okT h
  unfold vldT at f3
  simp only [Bool.and_eq_true] at f3
  obtain ⟨v1, v2, v3, v4, v5⟩ := f3
  have hv : vldT n coin box (keepL q ls) (cs.map (keepC q)) = true := by
    unfold vldT
    rw [v1, v2, v3, show (keepL q ls).all (lnOk n) = true from K.ls, Bool.true_and, Bool.true_and, Bool.true_and, Bool.true_and, List.all_eq_true]
    intro c hc
    have hca := K.cs c hc
    obtain ⟨d, hd, rfl⟩ := List.mem_map.1 hc
    have h5 := List.all_eq_true.1 v5 d hd
    unfold ctOk at h5 ⊢
    rw [Bool.and_eq_true] at h5 ⊢
    exact ⟨inR_iff.2 hca, h5.2⟩
  have k1 : (keepL q ls).length ≤ 8 := K.len
  have k2 : (cs.map (keepC q)).length ≤ 4 := K.clen
  have k3 : manyR n (keepL q ls) ≤ 4096 := K.many
  unfold faultT
  rw [if_neg (by omega), if_pos hv, if_neg (by omega)]
def wJ (S : List Int) (i : Nat) : Nat := (S.take i).foldl (fun w x => w ||| 1 * 2 ^ x.toNat) 0
theorem wJ_succ {S : List Int} {i : Nat} (h : i < S.length) : wJ S (i + 1) = wJ S i ||| 1 * 2 ^ (S.getD i 0).toNat := by
  unfold wJ
  rw [take_succ_getD (d := 0) h, List.foldl_append]
  rfl
def wOk (e c : Nat) : Bool := decide (wJ (numL c e) (numL c e).length = revB e c)
theorem w_all : ∀ e : _root_.Fin 9, (List.range (2 ^ e.1)).all (wOk e.1) = true := by decide +kernel
theorem w_rev {e c : Nat} (he : e ≤ 8) (hc : c < 2 ^ e) : wJ (numL c e) (numL c e).length = revB e c := by
  have h := List.all_eq_true.1 (w_all ⟨e, by omega⟩) c (List.mem_range.2 hc)
  unfold wOk at h
  simpa using h
theorem wJ_lt {S : List Int} (h : ∀ x ∈ S, 0 ≤ x ∧ x ≤ 7) : ∀ i, wJ S i < 2 ^ 8
  | 0 => by unfold wJ; simp
  | i + 1 => by
    by_cases hi : i < S.length
    · rw [wJ_succ hi]
      have hx := h _ (getD_mem (d := 0) hi)
      refine Nat.or_lt_two_pow (wJ_lt h i) ?_
      rw [Nat.one_mul]
      exact Nat.pow_lt_pow_right (by omega) (by omega)
    · have : wJ S (i + 1) = wJ S i := by
        unfold wJ
        rw [List.take_of_length_le (by omega), List.take_of_length_le (by omega)]
      rw [this]
      exact wJ_lt h i
theorem numL_bd {c e : Nat} : ∀ x ∈ numL c e, 0 ≤ x ∧ x < (e : Int) := fun x hx => by
  unfold numL numJ at hx
  obtain ⟨k, hk, rfl⟩ := List.mem_map.1 hx
  have := List.mem_range.1 (List.mem_filter.1 hk).1
  omega
theorem lv_full {n coin box : Int} {ls : List Ln} (V : VB (B5 n coin box ls [])) : lvQ (B5 n coin box ls []) (2 ^ ls.length - 1) = true := by
  unfold lvQ
  have h : keepB (fun i => (2 ^ ls.length - 1).testBit i) (B5 n coin box ls []) = B5 n coin box [] [] := by
    unfold keepB keepL
    show (⟨n, coin, box, ((List.range ls.length).filter _).map _, _⟩ : Bk) = _
    rw [List.filter_eq_nil_iff.2 fun i hi => by
      show ¬ (!(2 ^ ls.length - 1).testBit i) = true
      rw [Nat.testBit_two_pow_sub_one, decide_eq_true (List.mem_range.1 hi)]
      decide]
    rfl
  rw [h]
  have V0 : VB (B5 n coin box [] []) := by rw [← h]; exact V.keep _
  rw [hasB_nil V0]
  intro h0
  have hm : ([] : List Ln) ∈ refT (B5 n coin box [] []) := (mem_refT V0).2 rfl
  rw [h0] at hm
  cases hm
noncomputable def rc17R : RC := seqW (seqW (seqW (seqW rc17)))
noncomputable def tfZ (n coin box : Int) (ls : List Ln) (cs : List Ct) (S : List Int) (N : Nat) : X := ⟨(.n (.n (.n (.n .e (some (.i .i64 (N : Int))) .e) none .e) none (.n .e (some (.lst 1 (ints S))) .e)) none (.n .e (some (.pt .h 0 0)) (.n .e (some (.i .i64 0)) .e))), (.n .e (some (bk5D n coin box ls cs)) .e), .o .h, none⟩
theorem mix_keep {n coin box : Int} {ls : List Ln} {cs : List Ct} (h0 : faultT n coin box ls cs = 0) {N : Nat} (hN : N < 2 ^ ls.length) : ∃ d1 d2 : Int, PureF Try.prog p40.ix [.ag [.i .i64 n, .i .i64 coin, .i .i64 box, .lst 3 (rows lnD (keepL (qS (2 ^ ls.length - 1 - N)) ls)), .lst 3 (rows ctD (cs.map (keepC (qS (2 ^ ls.length - 1 - N)))))]] (.tp [.ag [.i .i64 d1, .i .i64 d2], .i .i64 (if lvQ (B5 n coin box ls cs) N = true then 0 else 11)]) := by
  have V := VB.of h0
  have iX := j_MixedP n coin box (keepL (qS (2 ^ ls.length - 1 - N)) ls) (cs.map (keepC (qS (2 ^ ls.length - 1 - N))))
  have hK : hasB (B5 n coin box (keepL (qS (2 ^ ls.length - 1 - N)) ls) (cs.map (keepC (qS (2 ^ ls.length - 1 - N))))) = lvQ (B5 n coin box ls cs) N := by
    unfold lvQ
    rw [← keep_not V hN]
    rfl
  have hf := fault_keep (qS (2 ^ ls.length - 1 - N)) h0
  unfold mixT lohi at iX
  cases hq : lvQ (B5 n coin box ls cs) N with
  | true =>
    rw [hq] at hK
    rw [sE_true hf hK, if_pos rfl] at iX
    exact ⟨_, _, iX⟩
  | false =>
    rw [hq] at hK
    rw [sE_false hf hK, if_neg (by decide)] at iX
    exact ⟨0, 0, iX⟩
set_option maxHeartbeats 4000000 in
theorem j_TokenLeftR (n coin box : Int) (ls : List Ln) (cs : List Ct) (h0 : faultT n coin box ls cs = 0) (S : List Int) (b0 N : Nat) (hS : ∀ x ∈ S, 0 ≤ x ∧ x < (ls.length : Int)) (hpw : S.Pairwise (· < ·)) (hw : wJ S S.length = b0) (hb0 : b0 < 2 ^ ls.length) (hN : N < 2 ^ ls.length) (hq : lvQ (B5 n coin box ls cs) b0 = true) (hmin : lvQ (B5 n coin box ls cs) N = true → shoR (bitL N) S = false) (AW : PureF Try.prog p22.ix [] (.b true)) : Rn Try.prog 133 rc17R (tfZ n coin box ls cs S N) (Fin rs17 (.b true)) := by
  have V := VB.of h0
  have e2 := rows_length lnD ls
  have h8 : ls.length ≤ 8 := V.len
  have h4 : cs.length ≤ 4 := V.clen
  have hca : ∀ c ∈ cs, 0 ≤ c.a ∧ c.a ≤ (ls.length : Int) := V.cs
  have hpow : 2 ^ ls.length ≤ 256 := show 2 ^ ls.length ≤ 2 ^ 8 from Nat.pow_le_pow_right (by omega) h8
  have hSl : S.length ≤ 1000 := by
    have h1 : ∀ i, i < S.length → (i : Int) ≤ S.getD i 0 := fun i => by
      induction i with
      | zero => intro h; exact (hS _ (getD_mem (d := 0) h)).1
      | succ i ih =>
        intro h
        have := ih (by omega)
        have := pw_at hpw (show i < i + 1 by omega) h
        omega
    rcases Nat.lt_or_ge 1000 S.length with h | h
    · have k1 := h1 1000 h
      have k2 := hS _ (getD_mem (d := 0) h)
      omega
    · exact h
  have iF := j_Full n coin box ls cs h8
  have iS := fun (N : Nat) (hN : N < 2 ^ ls.length) => j_Some n coin box ls cs (2 ^ ls.length - 1 - N) (by omega) h8 (by omega) (fun c hc => by have := hca c hc; omega)
  have iB := fun (N : Nat) (hN : N < 2 ^ ls.length) => j_Book n coin box (keepL (qS (2 ^ ls.length - 1 - N)) ls) (cs.map (keepC (qS (2 ^ ls.length - 1 - N)))) (by have := keepL_le (qS (2 ^ ls.length - 1 - N)) ls; omega) (by rw [List.length_map]; omega)
  obtain ⟨d1, d2, iX⟩ := mix_keep h0 hN
  obtain ⟨d3, d4, iY⟩ := mix_keep h0 hb0
  rw [hq, if_pos rfl] at iY
  have iSN := iS N hN
  have iBN := iB N hN
  have iS0 := iS b0 hb0
  have iB0 := iB b0 hb0
  clear iS iB
  generalize keepL (qS (2 ^ ls.length - 1 - N)) ls = lN at *
  generalize cs.map (keepC (qS (2 ^ ls.length - 1 - N))) = cN at *
  generalize keepL (qS (2 ^ ls.length - 1 - b0)) ls = l0 at *
  generalize cs.map (keepC (qS (2 ^ ls.length - 1 - b0))) = c0 at *
  generalize hg : (if lvQ (B5 n coin box ls cs) N = true then (0 : Int) else 11) = g at *
  conv => whnf
  repeat' first | ((first | with_reducible (first | apply Qt | apply Qu) | refine Qa rfl ?_ | refine Qk rfl ?_ | refine Qb ?_ | refine Qc ?_ | refine Qi ?_ | refine Qj ?_ | refine Qf (iF) ?_ | with_reducible (first | refine Qm ?_ | refine Qn ?_ | refine Qo ?_ | refine Qp ?_ | refine WB.nt ?_ | refine WB.nf ?_)) <;> conv => whnf) | (refine WB.tt ?_; conv => whnf) | (refine WB.ff ?_; conv => whnf)
  refine WSt.notB (m := ls.length) (b := N) (by rfl) (by rfl) h8 hN ?_; conv => whnf
  repeat' first | ((first | with_reducible (first | apply Qt | apply Qu) | refine Qa rfl ?_ | refine Qk rfl ?_ | refine Qb ?_ | refine Qc ?_ | refine Qi ?_ | refine Qj ?_ | refine Qf (iSN) ?_ | refine Qf (iBN) ?_ | refine Qf (iX) ?_ | with_reducible (first | refine Qm ?_ | refine Qn ?_ | refine Qo ?_ | refine Qp ?_ | refine WB.nt ?_ | refine WB.nf ?_)) <;> conv => whnf) | (refine WB.tt ?_; conv => whnf) | (refine WB.ff ?_; conv => whnf)
  refine Rn.loop (fun i : Nat => ⟨(.n (.n (.n (.n .e (some (.i .i64 (N : Int))) .e) none (.n .e (some (.i .i64 (i : Int))) .e)) none (.n (.n .e (some (.i .i64 g)) .e) (some (.lst 1 (ints S))) .e)) none (.n .e (some (.pt .h 0 0)) (.n (.n .e (some (.i .i64 (wJ S i : Int))) .e) none .e))), (.n .e (some (bk5D n coin box ls cs)) .e), .i .h, none⟩) (fun i => i ≤ S.length) (fun i => S.length - i) 0 ?_ ?_ ?_
  · refine X.le.mk ?_ ?_ (Nat.le_refl _) rfl rfl
    all_goals (repeat' first | exact T.le_e _ | refine T.le_some ?_ rfl ?_ | refine T.le_none ?_ ?_)
  · exact Nat.zero_le _
  intro i hi
  have hi : i ≤ S.length := hi
  have e3 := ints_length S
  conv => whnf
  repeat' first | ((first | with_reducible (first | apply Qt | apply Qu) | refine Qa rfl ?_ | refine Qk rfl ?_ | refine Qb ?_ | refine Qc ?_ | refine Qi ?_ | refine Qj ?_) <;> conv => whnf)
  refine WB.dec (fun h => ?_) (fun h => ?_) <;> conv => whnf
  · have hlt : i < S.length := by omega
    have hx := hS _ (getD_mem (d := 0) hlt)
    have hws := wJ_succ hlt
    have hwl : wJ S i < 2 ^ 8 := wJ_lt (fun x hx => by have := hS x hx; omega) i
    obtain ⟨x, hxe⟩ : ∃ x : Nat, S.getD i 0 = (x : Int) := ⟨(S.getD i 0).toNat, by omega⟩
    have hx7 : x ≤ 7 := by omega
    have hp7 : 2 ^ x ≤ 128 := show 2 ^ x ≤ 2 ^ 7 from Nat.pow_le_pow_right (by omega) hx7
    rw [hxe, Int.toNat_natCast] at hws
    have hagain : ∀ {Z : X}, Shr Z ⟨(.n (.n (.n (.n .e (some (.i .i64 (N : Int))) .e) none (.n .e (some (.i .i64 ((i + 1 : Nat) : Int))) .e)) none (.n (.n .e (some (.i .i64 g)) .e) (some (.lst 1 (ints S))) .e)) none (.n .e (some (.pt .h 0 0)) (.n (.n .e (some (.i .i64 ((wJ S i ||| 1 * 2 ^ x : Nat) : Int))) .e) none .e))), (.n .e (some (bk5D n coin box ls cs)) .e), .i .h, none⟩ → Again (fun i : Nat => (⟨(.n (.n (.n (.n .e (some (.i .i64 (N : Int))) .e) none (.n .e (some (.i .i64 (i : Int))) .e)) none (.n (.n .e (some (.i .i64 g)) .e) (some (.lst 1 (ints S))) .e)) none (.n .e (some (.pt .h 0 0)) (.n (.n .e (some (.i .i64 (wJ S i : Int))) .e) none .e))), (.n .e (some (bk5D n coin box ls cs)) .e), .i .h, none⟩ : X)) (fun i => i ≤ S.length) (fun i => S.length - i) i Z := fun hs => Again.to (i + 1) (by omega) (by omega) (Nat.le_refl _) (by
      show Shr _ (⟨(.n (.n (.n (.n .e (some (.i .i64 (N : Int))) .e) none (.n .e (some (.i .i64 ((i + 1 : Nat) : Int))) .e)) none (.n (.n .e (some (.i .i64 g)) .e) (some (.lst 1 (ints S))) .e)) none (.n .e (some (.pt .h 0 0)) (.n (.n .e (some (.i .i64 (wJ S (i + 1) : Int))) .e) none .e))), (.n .e (some (bk5D n coin box ls cs)) .e), .i .h, none⟩ : X)
      rw [hws]; exact hs)
    generalize wJ S i = w at *
    cases i with
    | zero =>
      repeat' first | ((first | with_reducible (first | apply Qt | apply Qu) | refine Qa rfl ?_ | refine Qk rfl ?_ | refine Qb ?_ | refine Qc ?_ | refine Qi ?_ | refine Qj ?_ | refine Qf (e3) ?_ | with_reducible (first | refine Qm ?_ | refine Qn ?_ | refine Qo ?_ | refine Qp ?_ | refine WB.nt ?_ | refine WB.nf ?_)) <;> conv => whnf) | (refine WB.tt ?_; conv => whnf) | (refine WB.ff ?_; conv => whnf)
      rw [hxe]
      refine And.intro (InR.u64 (by omega) (by omega)) ?_; conv => whnf
      refine WSt.shlU (a := 1) (j := x) (by rfl) (by rfl) (by omega) (by omega) ?_; conv => whnf
      refine WSt.orB (by rfl) (by rfl) (by omega) (by omega) ?_; conv => whnf
      repeat' first | ((first | with_reducible (first | apply Qt | apply Qu) | refine Qa rfl ?_ | refine Qk rfl ?_ | refine Qb ?_ | refine Qc ?_ | refine Qi ?_ | refine Qj ?_) <;> conv => whnf)
      refine hagain ?_
      refine Shr.of ?_ ?_ rfl rfl
      all_goals (repeat' first | exact Rel.e | refine Rel.some ?_ ?_ ?_ | refine Rel.none ?_ ?_ | refine Rel.ee ?_ ?_)
      all_goals first
        | exact RO'.of (show _ < 3 by simp [Pos.nat]) bk5D_sh
        | (show Fz _ _ _ _; first | exact .kpt (show _ < 3 by simp [Pos.nat]) | exact .pu trivial | exact .pu (pu_ints _))
    | succ k =>
      have hk1 : ((k + 1 : Nat) : Int) - 1 = (k : Int) := by omega
      have hinc := pw_at hpw (show k < k + 1 by omega) hlt
      repeat' first | ((first | with_reducible (first | apply Qt | apply Qu) | refine Qa rfl ?_ | refine Qk rfl ?_ | refine Qb ?_ | refine Qc ?_ | refine Qi ?_ | refine Qj ?_ | refine Qf (e3) ?_ | with_reducible (first | refine Qm ?_ | refine Qn ?_ | refine Qo ?_ | refine Qp ?_ | refine WB.nt ?_ | refine WB.nf ?_)) <;> conv => whnf) | (refine WB.tt ?_; conv => whnf) | (refine WB.ff ?_; conv => whnf)
      rw [hk1]
      repeat' first | ((first | with_reducible (first | apply Qt | apply Qu) | refine Qa rfl ?_ | refine Qk rfl ?_ | refine Qb ?_ | refine Qc ?_ | refine Qi ?_ | refine Qj ?_ | refine Qf (e3) ?_ | with_reducible (first | refine Qm ?_ | refine Qn ?_ | refine Qo ?_ | refine Qp ?_ | refine WB.nt ?_ | refine WB.nf ?_)) <;> conv => whnf) | (refine WB.tt ?_; conv => whnf) | (refine WB.ff ?_; conv => whnf)
      rw [hxe]
      refine And.intro (InR.u64 (by omega) (by omega)) ?_; conv => whnf
      refine WSt.shlU (a := 1) (j := x) (by rfl) (by rfl) (by omega) (by omega) ?_; conv => whnf
      refine WSt.orB (by rfl) (by rfl) (by omega) (by omega) ?_; conv => whnf
      repeat' first | ((first | with_reducible (first | apply Qt | apply Qu) | refine Qa rfl ?_ | refine Qk rfl ?_ | refine Qb ?_ | refine Qc ?_ | refine Qi ?_ | refine Qj ?_) <;> conv => whnf)
      refine hagain ?_
      refine Shr.of ?_ ?_ rfl rfl
      all_goals (repeat' first | exact Rel.e | refine Rel.some ?_ ?_ ?_ | refine Rel.none ?_ ?_ | refine Rel.ee ?_ ?_)
      all_goals first
        | exact RO'.of (show _ < 3 by simp [Pos.nat]) bk5D_sh
        | (show Fz _ _ _ _; first | exact .kpt (show _ < 3 by simp [Pos.nat]) | exact .pu trivial | exact .pu (pu_ints _))
  · have hie : i = S.length := by omega
    subst hie
    rw [hw]
    repeat' first | ((first | with_reducible (first | apply Qt | apply Qu) | refine Qa rfl ?_ | refine Qk rfl ?_ | refine Qb ?_ | refine Qc ?_ | refine Qi ?_ | refine Qj ?_ | refine Qf (iF) ?_ | with_reducible (first | refine Qm ?_ | refine Qn ?_ | refine Qo ?_ | refine Qp ?_ | refine WB.nt ?_ | refine WB.nf ?_)) <;> conv => whnf) | (refine WB.tt ?_; conv => whnf) | (refine WB.ff ?_; conv => whnf)
    refine WSt.notB (m := ls.length) (b := b0) (by rfl) (by rfl) h8 hb0 ?_; conv => whnf
    repeat' first | ((first | with_reducible (first | apply Qt | apply Qu) | refine Qa rfl ?_ | refine Qk rfl ?_ | refine Qb ?_ | refine Qc ?_ | refine Qi ?_ | refine Qj ?_ | refine Qf (iS0) ?_ | refine Qf (iB0) ?_ | refine Qf (iY) ?_ | with_reducible (first | refine Qm ?_ | refine Qn ?_ | refine Qo ?_ | refine Qp ?_ | refine WB.nt ?_ | refine WB.nf ?_)) <;> conv => whnf) | (refine WB.tt ?_; conv => whnf) | (refine WB.ff ?_; conv => whnf)
    cases hqN : lvQ (B5 n coin box ls cs) N with
    | false =>
      rw [hqN, if_neg (by decide)] at hg
      subst hg
      repeat' first | ((first | with_reducible (first | apply Qt | apply Qu) | refine Qa rfl ?_ | refine Qk rfl ?_ | refine Qb ?_ | refine Qc ?_ | refine Qi ?_ | refine Qj ?_ | refine Qf (AW) ?_ | with_reducible (first | refine Qm ?_ | refine Qn ?_ | refine Qo ?_ | refine Qp ?_ | refine WB.nt ?_ | refine WB.nf ?_)) <;> conv => whnf) | (refine WB.tt ?_; conv => whnf) | (refine WB.ff ?_; conv => whnf)
      exact Fin.b rfl rfl
    | true =>
      rw [hqN, if_pos rfl] at hg
      have hm := hmin hqN
      have iBt := j_Bits N (by omega)
      have iSh := j_Shorter (bitL N) S (by have := bitL_len N; omega) (by omega)
      rw [hm] at iSh
      subst hg
      repeat' first | ((first | with_reducible (first | apply Qt | apply Qu) | refine Qa rfl ?_ | refine Qk rfl ?_ | refine Qb ?_ | refine Qc ?_ | refine Qi ?_ | refine Qj ?_ | refine Qf (iBt) ?_ | refine Qf (iSh) ?_ | refine Qf (AW) ?_ | with_reducible (first | refine Qm ?_ | refine Qn ?_ | refine Qo ?_ | refine Qp ?_ | refine WB.nt ?_ | refine WB.nf ?_)) <;> conv => whnf) | (refine WB.tt ?_; conv => whnf) | (refine WB.ff ?_; conv => whnf)
      exact Fin.b rfl rfl
end Go.Ev
namespace Go.Ev
open Go.Proofs
set_option maxRecDepth 100000
set_option maxHeartbeats 4000000 in
theorem j_TokenLeft (n coin box : Int) (ls : List Ln) (cs : List Ct) (tried : Int) (w1 : 0 ≤ tried ∧ tried ≤ 255) (AW : PureF Try.prog p22.ix [] (.b true)) : PureF Try.prog p18.ix [.ag [.i .i64 n, .i .i64 coin, .i .i64 box, .lst 3 (rows lnD ls), .lst 3 (rows ctD cs)], .i .u8 tried] (.b true) := by
  have iR := j_ready n coin box ls cs
  unfold bk5 at iR
  refine PureF.run fn17 (by simp) (by simp [PuL, PuE, Pu, pu_ln, pu_ct]) ?_; conv => whnf
  cases hR : readyB n coin box ls cs with
  | false =>
    rw [hR] at iR
    repeat' first | ((first | with_reducible (first | apply Qt | apply Qu) | refine Qa rfl ?_ | refine Qk rfl ?_ | refine Qb ?_ | refine Qc ?_ | refine Qi ?_ | refine Qj ?_ | refine Qf (iR) ?_ | refine Qf (AW) ?_ | with_reducible (first | refine Qm ?_ | refine Qn ?_ | refine Qo ?_ | refine Qp ?_ | refine WB.nt ?_ | refine WB.nf ?_)) <;> conv => whnf) | (refine WB.tt ?_; conv => whnf) | (refine WB.ff ?_; conv => whnf)
    exact Fin.b rfl rfl
  | true =>
  rw [hR] at iR
  obtain ⟨l8, l4, h0⟩ := ready_of hR
  have V := VB.of h0
  have e3 := rows_length ctD cs
  have iB := j_Book n coin box ls cs (by omega) (by omega)
  have iL := j_LeaveP n coin box ls cs
  unfold levT at iL
  rw [if_pos h0] at iL
  have iF := j_Full n coin box ls cs l8
  have hpow : 2 ^ ls.length ≤ 256 := show 2 ^ ls.length ≤ 2 ^ 8 from Nat.pow_le_pow_right (by omega) l8
  have hpos : 0 < 2 ^ ls.length := Nat.two_pow_pos _
  obtain ⟨t, rfl⟩ : ∃ t : Nat, tried = (t : Int) := ⟨tried.toNat, by omega⟩
  have hNl : t &&& (2 ^ ls.length - 1) < 2 ^ ls.length := Nat.and_lt_two_pow _ (by omega)
  rcases lev_same V with ⟨l1, l2⟩ | ⟨c, b, l1, l2, l3, l4', l5⟩
  · have l2 : rlJ (B5 n coin box ls cs) (2 ^ ls.length) = none := l2
    rw [l1] at iL
    have hno := (rlJ_ok (B5 n coin box ls cs) (2 ^ ls.length)).1 l2
    have hcs : 0 < cs.length := by
      rcases Nat.eq_zero_or_pos cs.length with h | h
      · have : cs = [] := List.length_eq_zero_iff.1 h
        subst this
        have h1 := lv_full V
        rw [hno _ (by omega)] at h1
        cases h1
      · exact h
    have iS := j_Some n coin box ls cs (2 ^ ls.length - 1 - (t &&& (2 ^ ls.length - 1))) (by omega) l8 (by omega) (fun c hc => by have := V.cs c hc; have h : (B5 n coin box ls cs).ls.length = ls.length := rfl; omega)
    have iBN := j_Book n coin box (keepL (qS (2 ^ ls.length - 1 - (t &&& (2 ^ ls.length - 1)))) ls) (cs.map (keepC (qS (2 ^ ls.length - 1 - (t &&& (2 ^ ls.length - 1)))))) (by have := keepL_le (qS (2 ^ ls.length - 1 - (t &&& (2 ^ ls.length - 1)))) ls; omega) (by rw [List.length_map]; omega)
    obtain ⟨d1, d2, iX⟩ := mix_keep h0 hNl
    rw [hno _ hNl, if_neg (by decide)] at iX
    repeat' first | ((first | with_reducible (first | apply Qt | apply Qu) | refine Qa rfl ?_ | refine Qk rfl ?_ | refine Qb ?_ | refine Qc ?_ | refine Qi ?_ | refine Qj ?_ | refine Qf (iR) ?_ | refine Qf (iB) ?_ | refine Qf (iL) ?_ | refine Qf (iF) ?_ | with_reducible (first | refine Qm ?_ | refine Qn ?_ | refine Qo ?_ | refine Qp ?_ | refine WB.nt ?_ | refine WB.nf ?_)) <;> conv => whnf) | (refine WB.tt ?_; conv => whnf) | (refine WB.ff ?_; conv => whnf)
    refine WSt.andB (b := 2 ^ ls.length - 1) (by rfl) (by rfl) (by omega) (by omega) ?_; conv => whnf
    repeat' first | ((first | with_reducible (first | apply Qt | apply Qu) | refine Qa rfl ?_ | refine Qk rfl ?_ | refine Qb ?_ | refine Qc ?_ | refine Qi ?_ | refine Qj ?_ | refine Qf (iF) ?_ | with_reducible (first | refine Qm ?_ | refine Qn ?_ | refine Qo ?_ | refine Qp ?_ | refine WB.nt ?_ | refine WB.nf ?_)) <;> conv => whnf) | (refine WB.tt ?_; conv => whnf) | (refine WB.ff ?_; conv => whnf)
    refine WSt.notB (m := ls.length) (by rfl) (by rfl) l8 hNl ?_; conv => whnf
    repeat' first | ((first | with_reducible (first | apply Qt | apply Qu) | refine Qa rfl ?_ | refine Qk rfl ?_ | refine Qb ?_ | refine Qc ?_ | refine Qi ?_ | refine Qj ?_ | refine Qf (iS) ?_ | refine Qf (iBN) ?_ | refine Qf (iX) ?_ | refine Qf (AW) ?_ | with_reducible (first | refine Qm ?_ | refine Qn ?_ | refine Qo ?_ | refine Qp ?_ | refine WB.nt ?_ | refine WB.nf ?_)) <;> conv => whnf) | (refine WB.tt ?_; conv => whnf) | (refine WB.ff ?_; conv => whnf)
    exact Fin.b rfl rfl
  · have l2 : rlJ (B5 n coin box ls cs) (2 ^ ls.length) = some b := l2
    have l3 : bitL b = numL c ls.length := l3
    have l4' : c < 2 ^ ls.length := l4'
    have l5 : b = revB ls.length c := l5
    rw [l1] at iL
    have iL : PureF Try.prog p48.ix [.ag [.i .i64 n, .i .i64 coin, .i .i64 box, .lst 3 (rows lnD ls), .lst 3 (rows ctD cs)]] (.tp [setD (numL c ls.length), .i .i64 0]) := iL
    obtain ⟨k1, k2, k3⟩ := (rlJ_ok (B5 n coin box ls cs) (2 ^ ls.length)).2 b l2
    have hrest := j_TokenLeftR n coin box ls cs h0 (numL c ls.length) b (t &&& (2 ^ ls.length - 1)) numL_bd (numL_pw _ _) (by rw [w_rev l8 l4', l5]) k1 hNl k2 (fun h => by rw [← l3]; exact k3 _ hNl h) AW
    have hfz : ∀ {B : Pos → Prop} {ob : T C}, Fz B ob (setD (numL c ls.length)) (.lst 1 (ints (numL c ls.length))) := fun {B ob} => by
      cases numL c ls.length with
      | nil => exact .ns
      | cons a l => exact .pu (pu_ints _)
    generalize numL c ls.length = S at *
    refine Rn.seq ?_; conv => whnf
    refine Rn.reg ?_; conv => whnf
    refine Rn.seq ?_; conv => whnf
    refine Rn.seq ?_; conv => whnf
    refine Rn.reg ?_; conv => whnf
    refine WCall.pure iR ?_; conv => whnf
    refine Rn.cond rfl ?_; conv => whnf
    refine WB.ff ?_; conv => whnf
    refine Rn.skip ?_; conv => whnf
    refine Rn.seqB ?_; conv => whnf
    repeat' first | ((first | with_reducible (first | apply Qt | apply Qu) | refine Qa rfl ?_ | refine Qk rfl ?_ | refine Qb ?_ | refine Qc ?_ | refine Qi ?_ | refine Qj ?_ | refine Qf (iB) ?_ | refine Qf (iL) ?_ | with_reducible (first | refine Qm ?_ | refine Qn ?_ | refine Qo ?_ | refine Qp ?_ | refine WB.nt ?_ | refine WB.nf ?_)) <;> conv => whnf) | (refine WB.tt ?_; conv => whnf) | (refine WB.ff ?_; conv => whnf)
    repeat' first | ((first | with_reducible (first | apply Qt | apply Qu) | refine Qa rfl ?_ | refine Qk rfl ?_ | refine Qb ?_ | refine Qc ?_ | refine Qi ?_ | refine Qj ?_ | refine Qf (iF) ?_ | with_reducible (first | refine Qm ?_ | refine Qn ?_ | refine Qo ?_ | refine Qp ?_ | refine WB.nt ?_ | refine WB.nf ?_)) <;> conv => whnf) | (refine WB.tt ?_; conv => whnf) | (refine WB.ff ?_; conv => whnf)
    refine WSt.andB (b := 2 ^ ls.length - 1) (by rfl) (by rfl) (by omega) (by omega) ?_; conv => whnf
    repeat' first | ((first | with_reducible (first | apply Qt | apply Qu) | refine Qa rfl ?_ | refine Qk rfl ?_ | refine Qb ?_ | refine Qc ?_ | refine Qi ?_ | refine Qj ?_) <;> conv => whnf)
    refine ⟨rfl, tfZ n coin box ls cs S (t &&& (2 ^ ls.length - 1)), (fun id => id.nat < 2), ?_, (fun id (h : id.nat < 2) => h), (fun id h => h), Nat.le_refl _, ?_⟩
    · refine ShrB.of ?_ ?_ rfl rfl
      · show Rel _ _ ((.n (.n (.n (.n .e (some (.i .i64 ((t &&& (2 ^ ls.length - 1) : Nat) : Int))) .e) none .e) none (.n .e (some (.lst 1 (ints S))) .e)) none (.n .e (some (.pt .h 0 0)) (.n .e (some (.i .i64 0)) .e))) : T D) _
        (repeat' first | exact Rel.e | refine Rel.some ?_ ?_ ?_ | refine Rel.none ?_ ?_ | refine Rel.ee ?_ ?_)
        all_goals show Fz _ _ _ _
        all_goals first | exact .pu trivial | exact .kpt (show _ < 2 by simp [Pos.nat]) | exact hfz
      · show Rel _ _ ((.n .e (some (bk5D n coin box ls cs)) .e) : T C) _
        (repeat' first | exact Rel.e | refine Rel.some ?_ ?_ ?_ | refine Rel.none ?_ ?_ | refine Rel.ee ?_ ?_)
        exact ⟨show _ < 2 by simp [Pos.nat], bk5D_sh⟩
    exact hrest
theorem main_tokenLeft (AW : PureF Try.prog p22.ix [] (.b true)) {es : List D} (fit : FitP [(true, [.i .i64, .i .i64, .i .i64, .sl [.i .i64, .i .i64, .i .i64], .sl [.i .i64, .i .i64, .i .i64]]), (false, [.i .u8])] es) : PureF Try.prog 17 es (.b true) := by
  obtain ⟨n, coin, box, ls, cs, _, rfl, g1⟩ := fit.book
  obtain ⟨a, _, rfl, w1, g2⟩ := g1.i
  obtain rfl := g2.no
  exact j_TokenLeft n coin box ls cs a (wf_u8 w1) AW
end Go.Ev
namespace Go.Proofs.Ytjgbfnciedkafaa.tokenLeft
open Go.ChangeShapes Go.WideShapes Go.ChangeAt Go.RowKit
open Go.ChangeMaps (open_string shut_string)
set_option linter.unusedVariables false
theorem laid : laidOutB Try.prog = true := faP.laid
theorem own : ownKnob Try.prog.godebug = none := by kernel_rfl
theorem walk {es : List Go.Ev.D} (fit : Go.Ev.FitP [(true, [.i .i64, .i .i64, .i .i64, .sl [.i .i64, .i .i64, .i .i64], .sl [.i .i64, .i .i64, .i .i64]]), (false, [.i .u8])] es) {args : Array Value} {W : World} (ha : Go.Ev.DVL (Go.Ev.γH W) W es args.toList) :
    Calls Try.prog 17 args W fun e w' => e = .returned (.bool true) ∧ Grown W w' ∧ Below W.heap.size W w' :=
  Go.Ev.PureF.calls (Go.Ev.main_tokenLeft (fun ob nx lg => Go.Ev.t21.any ob nx lg) fit) ha
set_option maxRecDepth 100000 in
theorem lifted (os : Os) (started : os.Started) (H : Type) (enc : TypeId × Value → H) :
    ReturnsInHanded {} Try.checked os 17 .any (Rows.tokenLeftSpec.pre6 enc Try.prog Try.f17 Rows.tokenLeftRow.domain false) (Rows.tokenLeftSpec.post enc Try.prog Try.f17 false true false false) := by
  refine returnsInHanded_of_change (C := Try.checked) own started (by kernel_rfl) Try.func17
    (ChangeSpec.witness6 (enc := enc) (C := Try.checked) false ⟨#[], #[.agg #[.int .i64 0, .int .i64 0, .int .i64 0, .slice none 0 0, .slice none 0 0], .int .u8 0], []⟩ 8 (by kernel_rfl) (by kernel_rfl) (by kernel_rfl) (by kernel_rfl)) ?_
  intro W base args ds gs before hval0 hW hcnd _
  have hval : ∀ (j : Nat) t v, Try.f17.params[j]? = some t → args[j]? = some v → Value.okWide Try.prog W .any base t v := hval0
  have hW' := hW
  obtain ⟨p, q, hA0, hV, rfl, hfz, hnd⟩ := hW
  have hA : DataW.TrodAll enc Try.prog W 0 (fun _ => true) true Try.f17.params.toList args.toList ds p := hA0
  rw [Try.params17] at hA hval
  obtain ⟨rfl, rfl⟩ := trodVars_none hV
  obtain ⟨d0, d1, rfl⟩ := Go.Ev.len2 (Go.Ev.trod_len hA)
  clear hA0 hval0
  simp only [List.append_nil] at hW'
  obtain ⟨es, fit, dv⟩ := Go.Ev.open_all (n := 6) (pars := [(true, [.i .i64, .i .i64, .i .i64, .sl [.i .i64, .i .i64, .i .i64], .sl [.i .i64, .i .i64, .i .i64]]), (false, [.i .u8])]) (by kernel_rfl) hA (fun j t v h1 h2 => hval j t v (by simpa using h1) (by simpa using h2))
  have hlt : ∀ x ∈ p, x.block < W.heap.size := fun x hx => by simpa using hW'.lt x hx
  refine (walk fit dv).mono fun e W' ⟨he, hg, hb⟩ => ?_
  subst he
  exact ⟨_, rfl, post_of_same (pa := p) (pv := []) hW' (fun _ _ _ => (trodAll_cons_mk (shut_bool Try.underlying4 _) trodAll_mk0))
    (fun sp hs => Go.Ev.stays_all laid (Go.Ev.of_allT (by kernel_rfl)) hA (fun x hx => hb.same (hlt x hx)) (fun x hx => hs x hx))
    (fun _ _ => rfl) (List.append_nil _).symm
    (hg.frame _) hg.2.1 (ok_one (by kernel_rfl) rfl (okWide_bool_mk Try.underlying4 _))⟩
theorem over : Rows.tokenLeftRow.holds Try.pinned (OpenSpec.ofChange Rows.tokenLeftSpec) :=
  OpenClaim.holds_of_wide 17 Try.f17 rfl rfl rfl rfl rfl rfl rfl ⟨rfl, rfl, rfl, rfl, rfl⟩ rfl rfl rfl rfl rfl (by kernel_rfl) Try.func17 faTokenLeft.all
    (of_decide_eq_true (by kernel_rfl)) (by unfold Func.isWrapper; first | (rw [if_pos (by decide +kernel)]; kernel_rfl) | (rw [if_neg (by decide +kernel)]; exact ⟨rfl, rfl⟩))
    (fun os started H enc _ => lifted os started H enc)
theorem proved : Rows.TokenLeftSaid :=
  over
#print axioms proved
end Go.Proofs.Ytjgbfnciedkafaa.tokenLeft