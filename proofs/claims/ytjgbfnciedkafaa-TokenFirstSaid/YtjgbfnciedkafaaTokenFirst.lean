/-
  TokenFirst: the first line that cannot be true with those before it, without the counts.
-/
import Derived.Test.YtjgbfnciedkafaaEvUGj
import Derived.Test.YtjgbfnciedkafaaRows
import Derived.WalkKit
import Derived.ProofKit
import Derived.OpenShut
import Derived.Test.YtjgbfnciedkafaaEvUOc
import Derived.Test.YtjgbfnciedkafaaEvUS3T
import Derived.ShutString
import Derived.Test.YtjgbfnciedkafaaFaTokenFirst
set_option linter.all false
namespace Go.Ev
open Go.Proofs
set_option maxRecDepth 1000000
noncomputable def rc16 : RC := (.seq (.reg [(.u (.box p2 (.t p1))), (.u (.mv p3 (.k (.b false))))]) (.seq (.reg [(.u (.ldn p13 (.t p2) 5)), (.u (.new p4 [(.i .i64 0), (.i .i64 0), (.i .i64 0), .ns, .ns])), (.u (.st (.t p4) (.t p13) 5))]) (.seq (.reg [(.u (.fad p14 (.t p4) 4)), (.u (.st (.t p14) (.k .ns) 1))]) (.seq (.seq (.reg [(.u (.ldn p15 (.t p2) 5)), (.u (.cf (some p16) p55 [(.t p15)])), (.u (.un p17 .not (.t p16))), (.u (.mv p18 (.t p17))), (.g p18 false (some p19) (.ldn p19 (.t p4) 5)), (.g p18 false (some p20) (.cf (some p20) p55 [(.t p19)])), (.g p18 false (some p21) (.un p21 .not (.t p20))), (.u (.pick p22 (.t p18) (.k (.b true)) (.t p21)))]) (.cond (.t p22) (.seq (.reg [(.u (.cf (some p23) p22 [])), (.u (.mv p3 (.t p23)))]) .ret) .skip)) (.seq (.reg [(.u (.ldn p25 (.t p2) 5)), (.u (.cf (some p26) p24 [(.t p25)])), (.u (.cf (some p27) p47 [(.t p26)])), (.u (.mv p24 (.t p27))), (.u (.ext p28 (.t p24) 0)), (.u (.ext p29 (.t p24) 1)), (.u (.mv p5 (.t p28))), (.u (.mv p6 (.t p29)))]) (.seq (.seq (.reg [(.u (.mv p30 (.t p6))), (.u (.bin p31 .neq (.t p30) (.k (.i .i64 0))))]) (.cond (.t p31) (.seq (.reg [(.u (.ldn p33 (.t p4) 5)), (.u (.cf (some p34) p24 [(.t p33)])), (.u (.cf (some p35) p40 [(.t p34)])), (.u (.mv p32 (.t p35))), (.u (.ext p36 (.t p32) 0)), (.u (.ext p37 (.t p32) 1)), (.u (.new p7 [(.i .i64 0), (.i .i64 0)])), (.u (.st (.t p7) (.t p36) 2)), (.u (.mv p8 (.t p37)))]) (.seq (.reg [(.u (.mv p38 (.t p6))), (.u (.bin p39 .eql (.t p38) (.k (.i .i64 7)))), (.u (.mv p40 (.t p39))), (.g p40 true (some p41) (.mv p41 (.t p8))), (.g p40 true (some p42) (.bin p42 .eql (.t p41) (.k (.i .i64 0)))), (.u (.pick p43 (.t p40) (.t p42) (.k (.b false)))), (.u (.mv p44 (.t p43))), (.g p44 true (some p45) (.cf (some p45) p22 [])), (.u (.pick p46 (.t p44) (.t p45) (.k (.b false)))), (.u (.mv p3 (.t p46)))]) .ret)) .skip)) (.seq (.seq (.reg [(.u (.mv p47 (.t p5))), (.u (.fad p48 (.t p2) 3)), (.u (.ld1 p49 (.t p48))), (.u (.len p50 (.t p49))), (.u (.bin p51 .sub (.t p50) (.k (.i .i64 1)))), (.u (.cf (some p52) p36 [(.t p47), (.k (.i .i64 0)), (.t p51)])), (.u (.un p53 .not (.t p52)))]) (.cond (.t p53) (.seq (.reg [(.u (.mv p3 (.k (.b false))))]) .ret) .skip)) (.seq (.reg [(.u (.ldn p55 (.t p4) 5)), (.u (.mv p56 (.t p5))), (.u (.cvi p57 .u64 (.t p56))), (.u (.bin p58 .shl (.k (.i .i64 1)) (.t p57))), (.u (.bin p59 .sub (.t p58) (.k (.i .i64 1)))), (.u (.cf (some p60) p65 [(.t p55), (.t p59)])), (.u (.cf (some p61) p24 [(.t p60)])), (.u (.cf (some p62) p40 [(.t p61)])), (.u (.mv p54 (.t p62))), (.u (.ext p63 (.t p54) 0)), (.u (.ext p64 (.t p54) 1)), (.u (.new p9 [(.i .i64 0), (.i .i64 0)])), (.u (.st (.t p9) (.t p63) 2)), (.u (.mv p10 (.t p64)))]) (.seq (.reg [(.u (.ldn p66 (.t p4) 5)), (.u (.mv p67 (.t p5))), (.u (.cvi p68 .u64 (.t p67))), (.u (.bin p69 .shl (.k (.i .i64 2)) (.t p68))), (.u (.bin p70 .sub (.t p69) (.k (.i .i64 1)))), (.u (.cf (some p71) p65 [(.t p66), (.t p70)])), (.u (.cf (some p72) p24 [(.t p71)])), (.u (.cf (some p73) p40 [(.t p72)])), (.u (.mv p65 (.t p73))), (.u (.ext p74 (.t p65) 0)), (.u (.ext p75 (.t p65) 1)), (.u (.new p11 [(.i .i64 0), (.i .i64 0)])), (.u (.st (.t p11) (.t p74) 2)), (.u (.mv p12 (.t p75)))]) (.seq (.reg [(.u (.mv p76 (.t p10))), (.u (.bin p77 .eql (.t p76) (.k (.i .i64 0)))), (.u (.mv p78 (.t p77))), (.g p78 true (some p79) (.mv p79 (.t p12))), (.g p78 true (some p80) (.bin p80 .eql (.t p79) (.k (.i .i64 11)))), (.u (.pick p81 (.t p78) (.t p80) (.k (.b false)))), (.u (.mv p82 (.t p81))), (.g p82 true (some p83) (.cf (some p83) p22 [])), (.u (.pick p84 (.t p82) (.t p83) (.k (.b false)))), (.u (.mv p3 (.t p84)))]) .ret))))))))))
def rs16 : List RR := [(.t p3)]
theorem fn16 : FnOk Try.prog p17.ix 84 rc16 rs16 := ⟨Try.f16, bodyC Try.f16, Try.func16, by kernel_rfl, by kernel_rfl, by kernel_rfl, by kernel_rfl, by kernel_rfl⟩

end Go.Ev

namespace Go.Ev
open Go.Proofs
set_option maxRecDepth 100000
/-! ### TokenFirst -/
theorem hasB_empty (n coin box : Int) : hasB (B5 n coin box [] []) = true := rfl
theorem fault_pre {n coin box : Int} {ls : List Ln} {cs : List Ct} (h : faultT n coin box ls cs = 0) (k : Nat) : faultT n coin box (ls.take k) [] = 0 := by
  have V := VB.of h
  have V2 := V.pre k
  obtain ⟨f1, f2, f3, f4⟩ := fault_okT h
  unfold vldT at f3
  simp only [Bool.and_eq_true] at f3
  obtain ⟨v1, v2, v3, v4, v5⟩ := f3
  have h8 : (ls.take k).length ≤ 8 := V2.len
  have hm : manyR n (ls.take k) ≤ 4096 := V2.many
  have hv : vldT n coin box (ls.take k) [] = true := by
    unfold vldT
    simp only [Bool.and_eq_true]
    exact ⟨v1, v2, v3, V2.ls, rfl⟩
  unfold faultT
  rw [if_neg (show ¬ (8 < (ls.take k).length ∨ 4 < ([] : List Ct).length) from fun h => by
    rcases h with h | h
    · omega
    · exact absurd h (by decide)), if_pos hv, if_neg (by omega)]
theorem cvn1 {n coin box : Int} {ls : List Ln} : ∀ γ w, CvL γ γ w [.ag [.i .i64 n, .i .i64 coin, .i .i64 box, .lst 3 (rows lnD ls), .ns]] [.ag [.i .i64 n, .i .i64 coin, .i .i64 box, .lst 3 (rows lnD ls), .lst 3 (rows ctD [])]] := fun γ w => .cons (.ag (.cons (.pu (fun _ h => h) trivial) (.cons (.pu (fun _ h => h) trivial) (.cons (.pu (fun _ h => h) trivial) (.cons (.pu (fun _ h => h) (pu_ln _)) (.cons .ns .nil)))))) .nil
theorem cvn2 {n coin box m : Int} {ls : List Ln} : ∀ γ w, CvL γ γ w [.ag [.i .i64 n, .i .i64 coin, .i .i64 box, .lst 3 (rows lnD ls), .ns], .i .i64 m] [.ag [.i .i64 n, .i .i64 coin, .i .i64 box, .lst 3 (rows lnD ls), .lst 3 (rows ctD [])], .i .i64 m] := fun γ w => .cons (.ag (.cons (.pu (fun _ h => h) trivial) (.cons (.pu (fun _ h => h) trivial) (.cons (.pu (fun _ h => h) trivial) (.cons (.pu (fun _ h => h) (pu_ln _)) (.cons .ns .nil)))))) (.cons (.pu (fun _ h => h) trivial) .nil)
theorem fst_none {n coin box : Int} {ls : List Ln} (h : fstN n coin box ls = none) : hasB (B5 n coin box ls []) = true := by
  have h1 := List.find?_range_eq_none.1 h
  cases hl : ls.length with
  | zero =>
    rw [List.length_eq_zero_iff.1 hl]
    exact hasB_empty n coin box
  | succ k =>
    have h2 := h1 k (by omega)
    have h3 : (!badN n coin box ls k) = true := h2
    unfold badN at h3
    rw [Bool.not_not, List.take_of_length_le (by omega)] at h3
    exact h3
theorem fst_some {n coin box : Int} {ls : List Ln} {k : Nat} (h : fstN n coin box ls = some k) : k < ls.length ∧ hasB (B5 n coin box (ls.take k) []) = true ∧ hasB (B5 n coin box (ls.take (k + 1)) []) = false := by
  obtain ⟨h1, h2, h3⟩ := List.find?_range_eq_some.1 h
  refine ⟨List.mem_range.1 h2, ?_, ?_⟩
  · cases k with
    | zero => exact hasB_empty n coin box
    | succ k =>
      have h4 : (!badN n coin box ls k) = true := h3 k (by omega)
      unfold badN at h4
      rw [Bool.not_not] at h4
      exact h4
  · unfold badN at h1
    cases hb : hasB (B5 n coin box (ls.take (k + 1)) []) with
    | false => rfl
    | true => rw [hb] at h1; cases h1
theorem pow_sub1 (k : Nat) : ((1 * 2 ^ k : Nat) : Int) - 1 = ((2 ^ k - 1 : Nat) : Int) := by
  have := Nat.one_le_two_pow (n := k)
  omega
theorem pow_sub2 (k : Nat) : ((2 * 2 ^ k : Nat) : Int) - 1 = ((2 ^ (k + 1) - 1 : Nat) : Int) := by
  have := Nat.one_le_two_pow (n := k)
  have h : 2 ^ (k + 1) = 2 * 2 ^ k := by rw [Nat.pow_succ, Nat.mul_comm]
  omega
set_option maxHeartbeats 4000000 in
theorem j_TokenFirst (n coin box : Int) (ls : List Ln) (cs : List Ct) (AW : PureF Try.prog p22.ix [] (.b true)) : PureF Try.prog p17.ix [.ag [.i .i64 n, .i .i64 coin, .i .i64 box, .lst 3 (rows lnD ls), .lst 3 (rows ctD cs)]] (.b true) := by
  have e1 := rows_length lnD ls
  have iR := j_ready n coin box ls cs
  have iRx := (j_ready n coin box ls []).sub cvn1
  unfold bk5 at iR
  refine PureF.run fn16 (by simp) (by simp [PuL, PuE, Pu, pu_ints, pu_ln, pu_ct, pu_tl]) ?_; conv => whnf
  cases hR : readyB n coin box ls cs with
  | false =>
    rw [hR] at iR
    repeat' first | ((first | with_reducible apply WB.tt | with_reducible apply WB.ff | refine Rn.seq ?_ | refine Rn.reg ?_ | refine Rn.drw ?_ | refine Rn.blk ?_ | refine Rn.skip ?_ | refine Rn.ret ?_ | refine Rn.exit ?_ | refine Rn.cond rfl ?_ | refine And.intro (InR.i64 (by omega) (by omega)) ?_ | refine And.intro (show _ ≠ (0 : Int) by omega) ?_ | refine WIx.intsN (by omega) ?_ | refine WIx.rowsN (by omega) ?_ | refine WCall.pure (iR) ?_ | refine WCall.pure (AW) ?_ | with_reducible refine WB.decT (by first | with_reducible rfl | assumption | omega | exact ⟨rfl, rfl⟩) ?_ | with_reducible refine WB.decF (by first | assumption | omega) ?_ | with_reducible refine WB.ndT (by first | with_reducible rfl | assumption | omega | exact ⟨rfl, rfl⟩) ?_ | with_reducible refine WB.ndF (by first | assumption | omega) ?_ | with_reducible refine WB.nt ?_ | with_reducible refine WB.nf ?_ | with_reducible refine WB.dec (fun h => ?_) (fun h => ?_) | with_reducible refine WB.ndec (fun h => ?_) (fun h => ?_) | refine WB.mk (fun h => ?_) (fun h => ?_)) <;> conv => whnf)
    exact Fin.b rfl rfl
  | true =>
  rw [hR] at iR
  cases hRx : readyB n coin box ls [] with
  | false =>
    rw [hRx] at iRx
    repeat' first | ((first | with_reducible apply WB.tt | with_reducible apply WB.ff | refine Rn.seq ?_ | refine Rn.reg ?_ | refine Rn.drw ?_ | refine Rn.blk ?_ | refine Rn.skip ?_ | refine Rn.ret ?_ | refine Rn.exit ?_ | refine Rn.cond rfl ?_ | refine And.intro (InR.i64 (by omega) (by omega)) ?_ | refine And.intro (show _ ≠ (0 : Int) by omega) ?_ | refine WIx.intsN (by omega) ?_ | refine WIx.rowsN (by omega) ?_ | refine WCall.pure (iR) ?_ | refine WCall.pure (iRx) ?_ | refine WCall.pure (AW) ?_ | with_reducible refine WB.decT (by first | with_reducible rfl | assumption | omega | exact ⟨rfl, rfl⟩) ?_ | with_reducible refine WB.decF (by first | assumption | omega) ?_ | with_reducible refine WB.ndT (by first | with_reducible rfl | assumption | omega | exact ⟨rfl, rfl⟩) ?_ | with_reducible refine WB.ndF (by first | assumption | omega) ?_ | with_reducible refine WB.nt ?_ | with_reducible refine WB.nf ?_ | with_reducible refine WB.dec (fun h => ?_) (fun h => ?_) | with_reducible refine WB.ndec (fun h => ?_) (fun h => ?_) | refine WB.mk (fun h => ?_) (fun h => ?_)) <;> conv => whnf)
    exact Fin.b rfl rfl
  | true =>
  rw [hRx] at iRx
  obtain ⟨l8, l4, h0⟩ := ready_of hR
  obtain ⟨_, _, h0x⟩ := ready_of hRx
  have iB := j_Book n coin box ls cs (by omega) (by omega)
  have iF := j_FirstP n coin box ls cs
  unfold fstT at iF
  rw [if_pos h0] at iF
  cases hN : fstN n coin box ls with
  | none =>
    rw [hN] at iF
    dsimp only at iF
    have iBx := (j_Book n coin box ls [] (by omega) (by simp)).sub cvn1
    have iX := j_MixedP n coin box ls []
    unfold mixT lohi at iX
    rw [sE_true h0x (fst_none hN), if_pos rfl] at iX
    repeat' first | ((first | with_reducible apply WB.tt | with_reducible apply WB.ff | refine Rn.seq ?_ | refine Rn.reg ?_ | refine Rn.drw ?_ | refine Rn.blk ?_ | refine Rn.skip ?_ | refine Rn.ret ?_ | refine Rn.exit ?_ | refine Rn.cond rfl ?_ | refine And.intro (InR.i64 (by omega) (by omega)) ?_ | refine And.intro (show _ ≠ (0 : Int) by omega) ?_ | refine WIx.intsN (by omega) ?_ | refine WIx.rowsN (by omega) ?_ | refine WCall.pure (iR) ?_ | refine WCall.pure (iRx) ?_ | refine WCall.pure (iB) ?_ | refine WCall.pure (iF) ?_ | refine WCall.pure (iBx) ?_ | refine WCall.pure (iX) ?_ | refine WCall.pure (AW) ?_ | with_reducible refine WB.decT (by first | with_reducible rfl | assumption | omega | exact ⟨rfl, rfl⟩) ?_ | with_reducible refine WB.decF (by first | assumption | omega) ?_ | with_reducible refine WB.ndT (by first | with_reducible rfl | assumption | omega | exact ⟨rfl, rfl⟩) ?_ | with_reducible refine WB.ndF (by first | assumption | omega) ?_ | with_reducible refine WB.nt ?_ | with_reducible refine WB.nf ?_ | with_reducible refine WB.dec (fun h => ?_) (fun h => ?_) | with_reducible refine WB.ndec (fun h => ?_) (fun h => ?_) | refine WB.mk (fun h => ?_) (fun h => ?_)) <;> conv => whnf)
    exact Fin.b rfl rfl
  | some k =>
    rw [hN] at iF
    dsimp only at iF
    obtain ⟨hk, hb1, hb2⟩ := fst_some hN
    have iI := j_In (k : Int) 0 (((rows lnD ls).length : Int) - 1)
    rw [show inR (k : Int) 0 (((rows lnD ls).length : Int) - 1) = true from inR_iff.2 (by omega)] at iI
    have iP1 := (j_pick n coin box ls k (by omega) l8).sub cvn2
    have iP2 := (j_pick n coin box ls (k + 1) (by omega) l8).sub cvn2
    have ht1 : (ls.take k).length ≤ 8 := by rw [List.length_take]; omega
    have ht2 : (ls.take (k + 1)).length ≤ 8 := by rw [List.length_take]; omega
    have iB1 := j_Book n coin box (ls.take k) [] (by omega) (by simp)
    have iB2 := j_Book n coin box (ls.take (k + 1)) [] (by omega) (by simp)
    have iX1 := j_MixedP n coin box (ls.take k) []
    have iX2 := j_MixedP n coin box (ls.take (k + 1)) []
    unfold mixT lohi at iX1 iX2
    rw [sE_true (fault_pre h0 k) hb1, if_pos rfl] at iX1
    rw [sE_false (fault_pre h0 (k + 1)) hb2, if_neg (by decide)] at iX2
    have hlow := low_le (b := k) (by omega)
    have hone := Nat.one_le_two_pow (n := k)
    have s1 := pow_sub1 k
    have s2 := pow_sub2 k
    have hP1 : 1 * 2 ^ k ≤ 256 := by omega
    have hP2 : 2 * 2 ^ k ≤ 512 := by omega
    repeat' first | ((first | with_reducible apply WB.tt | with_reducible apply WB.ff | refine Rn.seq ?_ | refine Rn.reg ?_ | refine Rn.drw ?_ | refine Rn.blk ?_ | refine Rn.skip ?_ | refine Rn.ret ?_ | refine Rn.exit ?_ | refine Rn.cond rfl ?_ | refine And.intro (InR.i64 (by omega) (by omega)) ?_ | refine And.intro (show _ ≠ (0 : Int) by omega) ?_ | refine WIx.intsN (by omega) ?_ | refine WIx.rowsN (by omega) ?_ | refine WCall.pure (iR) ?_ | refine WCall.pure (iRx) ?_ | refine WCall.pure (iB) ?_ | refine WCall.pure (iF) ?_ | refine WCall.pure (iI) ?_ | with_reducible refine WB.decT (by first | with_reducible rfl | assumption | omega | exact ⟨rfl, rfl⟩) ?_ | with_reducible refine WB.decF (by first | assumption | omega) ?_ | with_reducible refine WB.ndT (by first | with_reducible rfl | assumption | omega | exact ⟨rfl, rfl⟩) ?_ | with_reducible refine WB.ndF (by first | assumption | omega) ?_ | with_reducible refine WB.nt ?_ | with_reducible refine WB.nf ?_ | with_reducible refine WB.dec (fun h => ?_) (fun h => ?_) | with_reducible refine WB.ndec (fun h => ?_) (fun h => ?_) | refine WB.mk (fun h => ?_) (fun h => ?_)) <;> conv => whnf)
    refine And.intro (InR.u64 (by omega) (by omega)) ?_; conv => whnf
    repeat' first | ((first | with_reducible apply WB.tt | with_reducible apply WB.ff | refine Rn.seq ?_ | refine Rn.reg ?_ | refine Rn.drw ?_ | refine Rn.blk ?_ | refine Rn.skip ?_ | refine Rn.ret ?_ | refine Rn.exit ?_ | refine Rn.cond rfl ?_ | refine And.intro (InR.i64 (by omega) (by omega)) ?_ | refine And.intro (show _ ≠ (0 : Int) by omega) ?_ | refine WIx.intsN (by omega) ?_ | refine WIx.rowsN (by omega) ?_ | with_reducible refine WB.decT (by first | with_reducible rfl | assumption | omega | exact ⟨rfl, rfl⟩) ?_ | with_reducible refine WB.decF (by first | assumption | omega) ?_ | with_reducible refine WB.ndT (by first | with_reducible rfl | assumption | omega | exact ⟨rfl, rfl⟩) ?_ | with_reducible refine WB.ndF (by first | assumption | omega) ?_ | with_reducible refine WB.nt ?_ | with_reducible refine WB.nf ?_ | with_reducible refine WB.dec (fun h => ?_) (fun h => ?_) | with_reducible refine WB.ndec (fun h => ?_) (fun h => ?_) | refine WB.mk (fun h => ?_) (fun h => ?_)) <;> conv => whnf)
    refine WSt.shlN (a := 1) (by rfl) (by rfl) (by omega) (by omega) ?_; conv => whnf
    repeat' first | ((first | with_reducible apply WB.tt | with_reducible apply WB.ff | refine Rn.seq ?_ | refine Rn.reg ?_ | refine Rn.drw ?_ | refine Rn.blk ?_ | refine Rn.skip ?_ | refine Rn.ret ?_ | refine Rn.exit ?_ | refine Rn.cond rfl ?_ | refine And.intro (InR.i64 (by omega) (by omega)) ?_ | refine And.intro (show _ ≠ (0 : Int) by omega) ?_ | refine WIx.intsN (by omega) ?_ | refine WIx.rowsN (by omega) ?_ | with_reducible refine WB.decT (by first | with_reducible rfl | assumption | omega | exact ⟨rfl, rfl⟩) ?_ | with_reducible refine WB.decF (by first | assumption | omega) ?_ | with_reducible refine WB.ndT (by first | with_reducible rfl | assumption | omega | exact ⟨rfl, rfl⟩) ?_ | with_reducible refine WB.ndF (by first | assumption | omega) ?_ | with_reducible refine WB.nt ?_ | with_reducible refine WB.nf ?_ | with_reducible refine WB.dec (fun h => ?_) (fun h => ?_) | with_reducible refine WB.ndec (fun h => ?_) (fun h => ?_) | refine WB.mk (fun h => ?_) (fun h => ?_)) <;> conv => whnf)
    rw [s1]
    repeat' first | ((first | with_reducible apply WB.tt | with_reducible apply WB.ff | refine Rn.seq ?_ | refine Rn.reg ?_ | refine Rn.drw ?_ | refine Rn.blk ?_ | refine Rn.skip ?_ | refine Rn.ret ?_ | refine Rn.exit ?_ | refine Rn.cond rfl ?_ | refine And.intro (InR.i64 (by omega) (by omega)) ?_ | refine And.intro (show _ ≠ (0 : Int) by omega) ?_ | refine WIx.intsN (by omega) ?_ | refine WIx.rowsN (by omega) ?_ | refine WCall.pure (iP1) ?_ | refine WCall.pure (iB1) ?_ | refine WCall.pure (iX1) ?_ | with_reducible refine WB.decT (by first | with_reducible rfl | assumption | omega | exact ⟨rfl, rfl⟩) ?_ | with_reducible refine WB.decF (by first | assumption | omega) ?_ | with_reducible refine WB.ndT (by first | with_reducible rfl | assumption | omega | exact ⟨rfl, rfl⟩) ?_ | with_reducible refine WB.ndF (by first | assumption | omega) ?_ | with_reducible refine WB.nt ?_ | with_reducible refine WB.nf ?_ | with_reducible refine WB.dec (fun h => ?_) (fun h => ?_) | with_reducible refine WB.ndec (fun h => ?_) (fun h => ?_) | refine WB.mk (fun h => ?_) (fun h => ?_)) <;> conv => whnf)
    refine And.intro (InR.u64 (by omega) (by omega)) ?_; conv => whnf
    repeat' first | ((first | with_reducible apply WB.tt | with_reducible apply WB.ff | refine Rn.seq ?_ | refine Rn.reg ?_ | refine Rn.drw ?_ | refine Rn.blk ?_ | refine Rn.skip ?_ | refine Rn.ret ?_ | refine Rn.exit ?_ | refine Rn.cond rfl ?_ | refine And.intro (InR.i64 (by omega) (by omega)) ?_ | refine And.intro (show _ ≠ (0 : Int) by omega) ?_ | refine WIx.intsN (by omega) ?_ | refine WIx.rowsN (by omega) ?_ | with_reducible refine WB.decT (by first | with_reducible rfl | assumption | omega | exact ⟨rfl, rfl⟩) ?_ | with_reducible refine WB.decF (by first | assumption | omega) ?_ | with_reducible refine WB.ndT (by first | with_reducible rfl | assumption | omega | exact ⟨rfl, rfl⟩) ?_ | with_reducible refine WB.ndF (by first | assumption | omega) ?_ | with_reducible refine WB.nt ?_ | with_reducible refine WB.nf ?_ | with_reducible refine WB.dec (fun h => ?_) (fun h => ?_) | with_reducible refine WB.ndec (fun h => ?_) (fun h => ?_) | refine WB.mk (fun h => ?_) (fun h => ?_)) <;> conv => whnf)
    refine WSt.shlN (a := 2) (by rfl) (by rfl) (by omega) (by omega) ?_; conv => whnf
    repeat' first | ((first | with_reducible apply WB.tt | with_reducible apply WB.ff | refine Rn.seq ?_ | refine Rn.reg ?_ | refine Rn.drw ?_ | refine Rn.blk ?_ | refine Rn.skip ?_ | refine Rn.ret ?_ | refine Rn.exit ?_ | refine Rn.cond rfl ?_ | refine And.intro (InR.i64 (by omega) (by omega)) ?_ | refine And.intro (show _ ≠ (0 : Int) by omega) ?_ | refine WIx.intsN (by omega) ?_ | refine WIx.rowsN (by omega) ?_ | with_reducible refine WB.decT (by first | with_reducible rfl | assumption | omega | exact ⟨rfl, rfl⟩) ?_ | with_reducible refine WB.decF (by first | assumption | omega) ?_ | with_reducible refine WB.ndT (by first | with_reducible rfl | assumption | omega | exact ⟨rfl, rfl⟩) ?_ | with_reducible refine WB.ndF (by first | assumption | omega) ?_ | with_reducible refine WB.nt ?_ | with_reducible refine WB.nf ?_ | with_reducible refine WB.dec (fun h => ?_) (fun h => ?_) | with_reducible refine WB.ndec (fun h => ?_) (fun h => ?_) | refine WB.mk (fun h => ?_) (fun h => ?_)) <;> conv => whnf)
    rw [s2]
    repeat' first | ((first | with_reducible apply WB.tt | with_reducible apply WB.ff | refine Rn.seq ?_ | refine Rn.reg ?_ | refine Rn.drw ?_ | refine Rn.blk ?_ | refine Rn.skip ?_ | refine Rn.ret ?_ | refine Rn.exit ?_ | refine Rn.cond rfl ?_ | refine And.intro (InR.i64 (by omega) (by omega)) ?_ | refine And.intro (show _ ≠ (0 : Int) by omega) ?_ | refine WIx.intsN (by omega) ?_ | refine WIx.rowsN (by omega) ?_ | refine WCall.pure (iP2) ?_ | refine WCall.pure (iB2) ?_ | refine WCall.pure (iX2) ?_ | refine WCall.pure (AW) ?_ | with_reducible refine WB.decT (by first | with_reducible rfl | assumption | omega | exact ⟨rfl, rfl⟩) ?_ | with_reducible refine WB.decF (by first | assumption | omega) ?_ | with_reducible refine WB.ndT (by first | with_reducible rfl | assumption | omega | exact ⟨rfl, rfl⟩) ?_ | with_reducible refine WB.ndF (by first | assumption | omega) ?_ | with_reducible refine WB.nt ?_ | with_reducible refine WB.nf ?_ | with_reducible refine WB.dec (fun h => ?_) (fun h => ?_) | with_reducible refine WB.ndec (fun h => ?_) (fun h => ?_) | refine WB.mk (fun h => ?_) (fun h => ?_)) <;> conv => whnf)
    exact Fin.b rfl rfl
theorem main_tokenFirst (AW : PureF Try.prog p22.ix [] (.b true)) {es : List D} (fit : FitP [(true, [.i .i64, .i .i64, .i .i64, .sl [.i .i64, .i .i64, .i .i64], .sl [.i .i64, .i .i64, .i .i64]])] es) : PureF Try.prog 16 es (.b true) := by
  obtain ⟨n, coin, box, ls, cs, _, rfl, g1⟩ := fit.book
  obtain rfl := g1.no
  exact j_TokenFirst n coin box ls cs AW
end Go.Ev

namespace Go.Proofs.Ytjgbfnciedkafaa.tokenFirst
open Go.ChangeShapes Go.WideShapes Go.ChangeAt Go.RowKit
open Go.ChangeMaps (open_string shut_string)
set_option linter.unusedVariables false

theorem laid : laidOutB Try.prog = true := faP.laid
theorem own : ownKnob Try.prog.godebug = none := by kernel_rfl

/-! ### the walk -/
theorem walk {es : List Go.Ev.D} (fit : Go.Ev.FitP [(true, [.i .i64, .i .i64, .i .i64, .sl [.i .i64, .i .i64, .i .i64], .sl [.i .i64, .i .i64, .i .i64]])] es) {args : Array Value} {W : World} (ha : Go.Ev.DVL (Go.Ev.γH W) W es args.toList) :
    Calls Try.prog 16 args W fun e w' => e = .returned (.bool true) ∧ Grown W w' ∧ Below W.heap.size W w' :=
  Go.Ev.PureF.calls (Go.Ev.main_tokenFirst (fun ob nx lg => Go.Ev.t21.any ob nx lg) fit) ha

set_option maxRecDepth 100000 in
theorem lifted (os : Os) (started : os.Started) (H : Type) (enc : TypeId × Value → H) :
    ReturnsInHanded {} Try.checked os 16 .any (Rows.tokenFirstSpec.pre6 enc Try.prog Try.f16 Rows.tokenFirstRow.domain false) (Rows.tokenFirstSpec.post enc Try.prog Try.f16 false true false false) := by
  refine returnsInHanded_of_change (C := Try.checked) own started (by kernel_rfl) Try.func16
    (ChangeSpec.witness6 (enc := enc) (C := Try.checked) false ⟨#[], #[.agg #[.int .i64 0, .int .i64 0, .int .i64 0, .slice none 0 0, .slice none 0 0]], []⟩ 8 (by kernel_rfl) (by kernel_rfl) (by kernel_rfl) (by kernel_rfl)) ?_
  intro W base args ds gs before hval0 hW hcnd _
  have hval : ∀ (j : Nat) t v, Try.f16.params[j]? = some t → args[j]? = some v → Value.okWide Try.prog W .any base t v := hval0
  have hW' := hW
  obtain ⟨p, q, hA0, hV, rfl, hfz, hnd⟩ := hW
  have hA : DataW.TrodAll enc Try.prog W 0 (fun _ => true) true Try.f16.params.toList args.toList ds p := hA0
  rw [Try.params16] at hA hval
  obtain ⟨rfl, rfl⟩ := trodVars_none hV
  obtain ⟨d0, rfl⟩ := Go.Ev.len1 (Go.Ev.trod_len hA)
  clear hA0 hval0
  simp only [List.append_nil] at hW'
  obtain ⟨es, fit, dv⟩ := Go.Ev.open_all (n := 6) (pars := [(true, [.i .i64, .i .i64, .i .i64, .sl [.i .i64, .i .i64, .i .i64], .sl [.i .i64, .i .i64, .i .i64]])]) (by kernel_rfl) hA (fun j t v h1 h2 => hval j t v (by simpa using h1) (by simpa using h2))
  have hlt : ∀ x ∈ p, x.block < W.heap.size := fun x hx => by simpa using hW'.lt x hx
  refine (walk fit dv).mono fun e W' ⟨he, hg, hb⟩ => ?_
  subst he
  exact ⟨_, rfl, post_of_same (pa := p) (pv := []) hW' (fun _ _ _ => (trodAll_cons_mk (shut_bool Try.underlying4 _) trodAll_mk0))
    (fun sp hs => Go.Ev.stays_all laid (Go.Ev.of_allT (by kernel_rfl)) hA (fun x hx => hb.same (hlt x hx)) (fun x hx => hs x hx))
    (fun _ _ => rfl) (List.append_nil _).symm
    (hg.frame _) hg.2.1 (ok_one (by kernel_rfl) rfl (okWide_bool_mk Try.underlying4 _))⟩

theorem over : Rows.tokenFirstRow.holds Try.pinned (OpenSpec.ofChange Rows.tokenFirstSpec) :=
  OpenClaim.holds_of_wide 16 Try.f16 rfl rfl rfl rfl rfl rfl rfl ⟨rfl, rfl, rfl, rfl, rfl⟩ rfl rfl rfl rfl rfl (by kernel_rfl) Try.func16 faTokenFirst.all
    (of_decide_eq_true (by kernel_rfl)) (by unfold Func.isWrapper; first | (rw [if_pos (by decide +kernel)]; kernel_rfl) | (rw [if_neg (by decide +kernel)]; exact ⟨rfl, rfl⟩))
    (fun os started H enc _ => lifted os started H enc)

/-- ████ THE STATEMENT ████ -/
theorem proved : Rows.TokenFirstSaid :=
  over
#print axioms proved
end Go.Proofs.Ytjgbfnciedkafaa.tokenFirst
