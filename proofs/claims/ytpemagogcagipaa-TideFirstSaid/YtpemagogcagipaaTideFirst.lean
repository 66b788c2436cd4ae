/-
  TideFirst: the law answers true for every table; the only conditions are those of the row itself.
-/
import Derived.Test.YtpemagogcagipaaRows
import Derived.WalkKit
import Derived.ProofKit
import Derived.OpenShut
import Derived.Test.YtpemagogcagipaaEvFt
import Derived.Test.YtpemagogcagipaaEvSy
import Derived.ShutString
import Derived.Test.YtpemagogcagipaaEvMN
import Derived.Test.YtpemagogcagipaaEvMH
set_option linter.all false
namespace Go.Ev
open Go.Proofs
set_option maxRecDepth 1000000
noncomputable def rc17 : RC := (.seq (.reg [(.u (.box p2 (.t p1))), (.u (.mv p3 (.k (.b false))))]) (.seq (.seq (.reg [(.u (.ldn p12 (.t p2) 5)), (.u (.cf (some p13) p52 [(.t p12)])), (.u (.un p14 .not (.t p13)))]) (.cond (.t p14) (.seq (.reg [(.u (.cf (some p15) p21 [])), (.u (.mv p3 (.t p15)))]) .ret) .skip)) (.seq (.reg [(.u (.ldn p17 (.t p2) 5)), (.u (.cf (some p18) p23 [(.t p17)])), (.u (.cf (some p19) p45 [(.t p18)])), (.u (.mv p16 (.t p19))), (.u (.ext p20 (.t p16) 0)), (.u (.ext p21 (.t p16) 1)), (.u (.mv p4 (.t p20))), (.u (.mv p5 (.t p21)))]) (.seq (.seq (.reg [(.u (.mv p22 (.t p5))), (.u (.bin p23 .neq (.t p22) (.k (.i .i64 0))))]) (.cond (.t p23) (.seq (.reg [(.u (.ldn p25 (.t p2) 5)), (.u (.cf (some p26) p23 [(.t p25)])), (.u (.cf (some p27) p32 [(.t p26)])), (.u (.mv p24 (.t p27))), (.u (.ext p28 (.t p24) 0)), (.u (.ext p29 (.t p24) 1)), (.u (.mv p6 (.t p28))), (.u (.mv p7 (.t p29)))]) (.seq (.reg [(.u (.mv p30 (.t p5))), (.u (.bin p31 .eql (.t p30) (.k (.i .i64 7)))), (.u (.mv p32 (.t p31))), (.g p32 true (some p33) (.mv p33 (.t p7))), (.g p32 true (some p34) (.bin p34 .eql (.t p33) (.k (.i .i64 0)))), (.u (.pick p35 (.t p32) (.t p34) (.k (.b false)))), (.u (.mv p36 (.t p35))), (.g p36 true (some p37) (.cf (some p37) p21 [])), (.u (.pick p38 (.t p36) (.t p37) (.k (.b false)))), (.u (.mv p3 (.t p38)))]) .ret)) .skip)) (.seq (.seq (.reg [(.u (.mv p39 (.t p4))), (.u (.fad p40 (.t p2) 4)), (.u (.ld1 p41 (.t p40))), (.u (.len p42 (.t p41))), (.u (.bin p43 .sub (.t p42) (.k (.i .i64 1)))), (.u (.cf (some p44) p35 [(.t p39), (.k (.i .i64 0)), (.t p43)])), (.u (.un p45 .not (.t p44)))]) (.cond (.t p45) (.seq (.reg [(.u (.mv p3 (.k (.b false))))]) .ret) .skip)) (.seq (.reg [(.u (.ldn p47 (.t p2) 5)), (.u (.mv p48 (.t p4))), (.u (.cvi p49 .u64 (.t p48))), (.u (.bin p50 .shl (.k (.i .i64 1)) (.t p49))), (.u (.bin p51 .sub (.t p50) (.k (.i .i64 1)))), (.u (.cf (some p52) p59 [(.t p47), (.t p51)])), (.u (.cf (some p53) p23 [(.t p52)])), (.u (.cf (some p54) p32 [(.t p53)])), (.u (.mv p46 (.t p54))), (.u (.ext p55 (.t p46) 0)), (.u (.ext p56 (.t p46) 1)), (.u (.mv p8 (.t p55))), (.u (.mv p9 (.t p56)))]) (.seq (.reg [(.u (.ldn p58 (.t p2) 5)), (.u (.mv p59 (.t p4))), (.u (.cvi p60 .u64 (.t p59))), (.u (.bin p61 .shl (.k (.i .i64 2)) (.t p60))), (.u (.bin p62 .sub (.t p61) (.k (.i .i64 1)))), (.u (.cf (some p63) p59 [(.t p58), (.t p62)])), (.u (.cf (some p64) p23 [(.t p63)])), (.u (.cf (some p65) p32 [(.t p64)])), (.u (.mv p57 (.t p65))), (.u (.ext p66 (.t p57) 0)), (.u (.ext p67 (.t p57) 1)), (.u (.mv p10 (.t p66))), (.u (.mv p11 (.t p67)))]) (.seq (.reg [(.u (.mv p68 (.t p9))), (.u (.bin p69 .eql (.t p68) (.k (.i .i64 0)))), (.u (.mv p70 (.t p69))), (.g p70 true (some p71) (.mv p71 (.t p11))), (.g p70 true (some p72) (.bin p72 .eql (.t p71) (.k (.i .i64 11)))), (.u (.pick p73 (.t p70) (.t p72) (.k (.b false)))), (.u (.mv p74 (.t p73))), (.g p74 true (some p75) (.cf (some p75) p21 [])), (.u (.pick p76 (.t p74) (.t p75) (.k (.b false)))), (.u (.mv p3 (.t p76)))]) .ret))))))))
def rs17 : List RR := [(.t p3)]
theorem fn17 : FnOk Try.prog p18.ix 76 rc17 rs17 := ⟨Try.f17, bodyC Try.f17, Try.func17, by kernel_rfl, by kernel_rfl, by kernel_rfl, by kernel_rfl, by kernel_rfl⟩
end Go.Ev
namespace Go.Ev
open Go.Proofs
set_option maxRecDepth 100000
/-! ### ready, TideFirst -/
theorem WSt.shlN {sl : T D} {ob : T C} {nx : Pos} {lg : Option (T Bool)} {K : X → Prop} {d : Pos} {a j : Nat} {x y : RX} (hx : opd sl x = some (.i .i64 (a : Int))) (hy : opd sl y = some (.i .u64 (j : Int))) (ha : a * 2 ^ j ≤ 1000) (hj : j ≤ 63) (k : wOut sl ob nx lg d K (.i .i64 ((a * 2 ^ j : Nat) : Int))) : WSt (.bin d .shl x y) ⟨sl, ob, nx, lg⟩ K := by
  obtain ⟨k2, k3⟩ := wOut_ok k
  refine ⟨_, ?_, k3⟩
  show s_bin d .shl x y sl ob nx lg = _
  unfold s_bin
  rw [hx, hy]
  have hm : minN j 64 = j := by
    unfold minN
    rw [Nat.ble_eq_true_of_le (show j ≤ 64 by omega)]
    rfl
  have hs : ishl ((a : Nat) : Int) j = ((a * 2 ^ j : Nat) : Int) := rfl
  show wrapK .i64 (ishl ((a : Nat) : Int) (minN j 64)) _ = _
  rw [hm, hs, wrapK_eq]
  have hw : IntKind.i64.wrap ((a * 2 ^ j : Nat) : Int) = ((a * 2 ^ j : Nat) : Int) := InR.i64 (by omega) (by omega)
  rw [hw]
  exact k2
def readyB (last : Int) (hs : List Rg) (step : Int) (lv : List Int) (ms : List Mk) : Bool := thinR last hs step lv ms && decide (faultR last hs step lv ms = 0)
theorem c_ready (last : Int) (hs : List Rg) (step : Int) (lv : List Int) (ms : List Mk) : PureF Try.prog p52.ix [.ag [.i .i64 last, .lst 2 (rows rgD hs), .i .i64 step, .lst 1 (ints lv), .lst 4 (rows mkD ms)]] (.b (readyB last hs step lv ms)) := by
  have iT := c_Thin last hs step lv ms
  have iF := c_fault last hs step lv ms
  unfold readyB
  refine PureF.run fn51 (by simp) (by simp [PuL, PuE, Pu, pu_ints, pu_rg, pu_mk]) ?_; conv => whnf
  cases hT : thinR last hs step lv ms with
  | false =>
    rw [hT] at iT
    repeat' first | ((with_reducible apply WB.tt); conv => whnf) | ((with_reducible apply WB.ff); conv => whnf) | (refine Rn.seq ?_; conv => whnf) | (refine Rn.reg ?_; conv => whnf) | (refine Rn.drw ?_; conv => whnf) | (refine Rn.blk ?_; conv => whnf) | (refine Rn.skip ?_; conv => whnf) | (refine Rn.ret ?_; conv => whnf) | (refine Rn.exit ?_; conv => whnf) | (refine Rn.cond rfl ?_; conv => whnf) | (refine And.intro (InR.i64 (by omega) (by omega)) ?_; conv => whnf) | (refine And.intro (show _ ≠ (0 : Int) by omega) ?_; conv => whnf) | (refine WIx.intsN (by omega) ?_; conv => whnf) | (refine WIx.rowsN (by omega) ?_; conv => whnf) | (refine WCall.pure (iT) ?_; conv => whnf) | (refine WCall.pure (iF) ?_; conv => whnf)
    exact Fin.b rfl rfl
  | true =>
    rw [hT] at iT
    repeat' first | ((with_reducible apply WB.tt); conv => whnf) | ((with_reducible apply WB.ff); conv => whnf) | (refine Rn.seq ?_; conv => whnf) | (refine Rn.reg ?_; conv => whnf) | (refine Rn.drw ?_; conv => whnf) | (refine Rn.blk ?_; conv => whnf) | (refine Rn.skip ?_; conv => whnf) | (refine Rn.ret ?_; conv => whnf) | (refine Rn.exit ?_; conv => whnf) | (refine Rn.cond rfl ?_; conv => whnf) | (refine And.intro (InR.i64 (by omega) (by omega)) ?_; conv => whnf) | (refine And.intro (show _ ≠ (0 : Int) by omega) ?_; conv => whnf) | (refine WIx.intsN (by omega) ?_; conv => whnf) | (refine WIx.rowsN (by omega) ?_; conv => whnf) | (refine WCall.pure (iT) ?_; conv => whnf) | (refine WCall.pure (iF) ?_; conv => whnf)
    exact Fin.b rfl rfl
theorem thin_exS {last : Int} {hs : List Rg} {step : Int} {lv : List Int} {ms : List Mk} (hT : thinR last hs step lv ms = true) (hf : faultR last hs step lv ms = 0) : (exS hs step hs.length 0 zeroS).length ≤ 150 := by
  obtain ⟨V, hm, _⟩ := fault_zero hf
  unfold thinR at hT
  rw [Bool.and_eq_true, Bool.or_eq_true, decide_eq_true_iff, decide_eq_true_iff, decide_eq_true_iff] at hT
  have h1 := exS_len hs step hs.length 0 zeroS (by omega)
  rw [List.drop_zero] at h1
  have h2 := szs_eq V.hv
  have h3 := manyR_eq V.hv
  omega
theorem fault_take {last : Int} {hs : List Rg} {step : Int} {lv : List Int} {ms : List Mk} (hf : faultR last hs step lv ms = 0) (k : Nat) : faultR last hs step lv (ms.take k) = 0 := by
  obtain ⟨V, hm, hA⟩ := fault_zero hf
  have f1 : ¬ (9 < last ∨ 6 < lv.length ∨ 5 < ms.length) := by
    have := V.n; have := V.h10; have := V.lv6; have := V.ms5
    omega
  have f2 : ¬ (9 < last ∨ 6 < lv.length ∨ 5 < (ms.take k).length) := by rw [List.length_take]; omega
  rw [fault_ok f1] at hf
  rw [fault_ok f2]
  have hv : validB last hs step lv ms = true := by
    by_cases h : validB last hs step lv ms = true
    · exact h
    · rw [if_neg h] at hf; exact absurd hf (by decide)
  have hv2 : validB last hs step lv (ms.take k) = true := by
    unfold validB at hv ⊢
    simp only [Bool.and_eq_true] at hv ⊢
    refine ⟨hv.1, hv.2.1, hv.2.2.1, hv.2.2.2.1, hv.2.2.2.2.1, ?_⟩
    exact List.all_eq_true.2 fun m h => List.all_eq_true.1 hv.2.2.2.2.2 m (List.mem_of_mem_take h)
  rw [if_pos hv] at hf
  rw [if_pos hv2]
  exact hf
theorem bnd_take {last : Int} {hs : List Rg} {step : Int} {lv : List Int} {ms : List Mk} (hf : faultR last hs step lv ms = 0) (k : Nat) : bndE last hs step lv (ms.take k) = bif (exS hs step hs.length 0 zeroS).any (fun c => fitsR c (ms.take k)) then 0 else 11 := by
  unfold bndE startE
  rw [if_pos (fault_take hf k), cond_true]
  by_cases hT : truthS hs step (ms.take k) = []
  · rw [if_pos hT]
    unfold truthS at hT
    have : (exS hs step hs.length 0 zeroS).any (fun c => fitsR c (ms.take k)) = false := by
      rw [Bool.eq_false_iff]
      intro h
      obtain ⟨c, h1, h2⟩ := List.any_eq_true.1 h
      have : c ∈ (exS hs step hs.length 0 zeroS).filter fun c => fitsR c (ms.take k) := List.mem_filter.2 ⟨h1, h2⟩
      rw [hT] at this
      cases this
    rw [this]
    rfl
  · rw [if_neg hT]
    obtain ⟨c, hc⟩ := List.exists_mem_of_ne_nil _ hT
    unfold truthS at hc
    obtain ⟨h1, h2⟩ := List.mem_filter.1 hc
    rw [List.any_eq_true.2 ⟨c, h1, h2⟩]
    rfl
set_option maxHeartbeats 4000000 in
theorem c_TideFirst (last : Int) (hs : List Rg) (step : Int) (lv : List Int) (ms : List Mk) (AW : PureF Try.prog p21.ix [] (.b true)) : PureF Try.prog p18.ix [.ag [.i .i64 last, .lst 2 (rows rgD hs), .i .i64 step, .lst 1 (ints lv), .lst 4 (rows mkD ms)]] (.b true) := by
  have e3 := rows_length mkD ms
  have iR := c_ready last hs step lv ms
  refine PureF.run fn17 (by simp) (by simp [PuL, PuE, Pu, pu_ints, pu_rg, pu_mk]) ?_; conv => whnf
  cases hR : readyB last hs step lv ms with
  | false =>
    rw [hR] at iR
    repeat' first | ((with_reducible apply WB.tt); conv => whnf) | ((with_reducible apply WB.ff); conv => whnf) | (refine Rn.seq ?_; conv => whnf) | (refine Rn.reg ?_; conv => whnf) | (refine Rn.drw ?_; conv => whnf) | (refine Rn.blk ?_; conv => whnf) | (refine Rn.skip ?_; conv => whnf) | (refine Rn.ret ?_; conv => whnf) | (refine Rn.exit ?_; conv => whnf) | (refine Rn.cond rfl ?_; conv => whnf) | (refine And.intro (InR.i64 (by omega) (by omega)) ?_; conv => whnf) | (refine And.intro (show _ ≠ (0 : Int) by omega) ?_; conv => whnf) | (refine WIx.intsN (by omega) ?_; conv => whnf) | (refine WIx.rowsN (by omega) ?_; conv => whnf) | (refine WCall.pure (iR) ?_; conv => whnf)
    refine WB.tt ?_; conv => whnf
    repeat' first | ((with_reducible apply WB.tt); conv => whnf) | ((with_reducible apply WB.ff); conv => whnf) | (refine Rn.seq ?_; conv => whnf) | (refine Rn.reg ?_; conv => whnf) | (refine Rn.drw ?_; conv => whnf) | (refine Rn.blk ?_; conv => whnf) | (refine Rn.skip ?_; conv => whnf) | (refine Rn.ret ?_; conv => whnf) | (refine Rn.exit ?_; conv => whnf) | (refine Rn.cond rfl ?_; conv => whnf) | (refine And.intro (InR.i64 (by omega) (by omega)) ?_; conv => whnf) | (refine And.intro (show _ ≠ (0 : Int) by omega) ?_; conv => whnf) | (refine WIx.intsN (by omega) ?_; conv => whnf) | (refine WIx.rowsN (by omega) ?_; conv => whnf) | (refine WCall.pure (AW) ?_; conv => whnf)
    exact Fin.b rfl rfl
  | true =>
    rw [hR] at iR
    have hR' := hR
    unfold readyB at hR'
    rw [Bool.and_eq_true, decide_eq_true_iff] at hR'
    obtain ⟨hT, hf⟩ := hR'
    obtain ⟨V, hm, hA⟩ := fault_zero hf
    have h5 := V.ms5
    have h6 := V.lv6
    have h10 := V.h10
    have iTb := fun k => c_Table last hs step lv (ms.take k) (by omega) (by omega) (by rw [List.length_take]; omega)
    have iT0 := c_Table last hs step lv ms (by omega) (by omega) (by omega)
    have iFs := c_First last hs step lv ms
    have iB := fun k => c_Bounds last hs step lv (ms.take k) fun _ => Nat.le_trans (List.length_filter_le _ _) (Nat.le_trans (thin_exS hT hf) (by omega))
    have hB := bnd_take hf
    have iP := fun k (hk : k ≤ 5) => c_pick last hs step lv ms k hk h5
    repeat' first | ((with_reducible apply WB.tt); conv => whnf) | ((with_reducible apply WB.ff); conv => whnf) | (refine Rn.seq ?_; conv => whnf) | (refine Rn.reg ?_; conv => whnf) | (refine Rn.drw ?_; conv => whnf) | (refine Rn.blk ?_; conv => whnf) | (refine Rn.skip ?_; conv => whnf) | (refine Rn.ret ?_; conv => whnf) | (refine Rn.exit ?_; conv => whnf) | (refine Rn.cond rfl ?_; conv => whnf) | (refine And.intro (InR.i64 (by omega) (by omega)) ?_; conv => whnf) | (refine And.intro (show _ ≠ (0 : Int) by omega) ?_; conv => whnf) | (refine WIx.intsN (by omega) ?_; conv => whnf) | (refine WIx.rowsN (by omega) ?_; conv => whnf) | (refine WCall.pure (iR) ?_; conv => whnf)
    refine WB.ff ?_; conv => whnf
    have hz : ((exS hs step hs.length 0 zeroS).any fun c => fitsR c (ms.take 0)) = true := (fits_nil V.hv hm).trans hA
    cases hF : (List.range ms.length).find? (wrongB hs step ms) with
    | none =>
      have hn := List.find?_range_eq_none.1 hF
      rw [show firstR2 last hs step lv ms = (0, 7) by unfold firstR2; rw [if_pos hf, hF]] at iFs
      have hall : ((exS hs step hs.length 0 zeroS).any fun c => fitsR c (ms.take ms.length)) = true := by
        cases hl : ms.length with
        | zero => exact hz
        | succ q =>
          have h := hn q (by omega)
          unfold wrongB at h
          simpa using h
      have iB0 := iB ms.length
      rw [hB ms.length, hall, List.take_length] at iB0
      have iFs : PureF Try.prog p45.ix [.ag [.i .i64 last, .lst 2 (rows rgD hs), .i .i64 step, .lst 1 (ints lv), .lst 4 (rows mkD ms)]] (.tp [.i .i64 0, .i .i64 7]) := iFs
      have iB0 : PureF Try.prog p32.ix [.ag [.i .i64 last, .lst 2 (rows rgD hs), .i .i64 step, .lst 1 (ints lv), .lst 4 (rows mkD ms)]] (.tp [.lst 2 (rows rgD (bndL last hs step lv ms)), .i .i64 0]) := iB0
      generalize bndL last hs step lv ms = bl at *
      repeat' first | ((with_reducible apply WB.tt); conv => whnf) | ((with_reducible apply WB.ff); conv => whnf) | (refine Rn.seq ?_; conv => whnf) | (refine Rn.reg ?_; conv => whnf) | (refine Rn.drw ?_; conv => whnf) | (refine Rn.blk ?_; conv => whnf) | (refine Rn.skip ?_; conv => whnf) | (refine Rn.ret ?_; conv => whnf) | (refine Rn.exit ?_; conv => whnf) | (refine Rn.cond rfl ?_; conv => whnf) | (refine And.intro (InR.i64 (by omega) (by omega)) ?_; conv => whnf) | (refine And.intro (show _ ≠ (0 : Int) by omega) ?_; conv => whnf) | (refine WIx.intsN (by omega) ?_; conv => whnf) | (refine WIx.rowsN (by omega) ?_; conv => whnf) | (refine WCall.pure (iT0) ?_; conv => whnf) | (refine WCall.pure (iFs) ?_; conv => whnf) | (refine WCall.pure (iB0) ?_; conv => whnf) | (refine WCall.pure (AW) ?_; conv => whnf) | ((with_reducible refine WB.decT (by first | with_reducible rfl | assumption | omega | exact ⟨rfl, rfl⟩) ?_); conv => whnf) | ((with_reducible refine WB.decF (by first | assumption | omega) ?_); conv => whnf) | ((with_reducible refine WB.ndT (by first | with_reducible rfl | assumption | omega | exact ⟨rfl, rfl⟩) ?_); conv => whnf) | ((with_reducible refine WB.ndF (by first | assumption | omega) ?_); conv => whnf) | ((with_reducible refine WB.nt ?_); conv => whnf) | ((with_reducible refine WB.nf ?_); conv => whnf) | ((with_reducible refine WB.dec (fun h => ?_) (fun h => ?_)) <;> conv => whnf) | ((with_reducible refine WB.ndec (fun h => ?_) (fun h => ?_)) <;> conv => whnf) | (refine WB.mk (fun h => ?_) (fun h => ?_) <;> conv => whnf) | (refine WB.tt ?_; conv => whnf) | (refine WB.ff ?_; conv => whnf)
      exact Fin.b rfl rfl
    | some n =>
      obtain ⟨hw, hmem, hno⟩ := List.find?_range_eq_some.1 hF
      have hn : n < ms.length := List.mem_range.1 hmem
      rw [show firstR2 last hs step lv ms = ((n : Int), 0) by unfold firstR2; rw [if_pos hf, hF]] at iFs
      have iFs : PureF Try.prog p45.ix [.ag [.i .i64 last, .lst 2 (rows rgD hs), .i .i64 step, .lst 1 (ints lv), .lst 4 (rows mkD ms)]] (.tp [.i .i64 (n : Int), .i .i64 0]) := iFs
      have hok : ((exS hs step hs.length 0 zeroS).any fun c => fitsR c (ms.take n)) = true := by
        cases hl : n with
        | zero => exact hz
        | succ q =>
          have h := hno q (by omega)
          unfold wrongB at h
          simpa using h
      have hbad : ((exS hs step hs.length 0 zeroS).any fun c => fitsR c (ms.take (n + 1))) = false := by
        unfold wrongB at hw
        simpa using hw
      have iB0 := iB n
      have iB1 := iB (n + 1)
      rw [hB n, hok, cond_true] at iB0
      rw [hB (n + 1), hbad, cond_false] at iB1
      have iI := c_In (n : Int) 0 (((rows mkD ms).length : Int) - 1)
      have hI : inB (n : Int) 0 (((rows mkD ms).length : Int) - 1) = true := inB_iff.2 (by rw [e3]; omega)
      rw [hI] at iI
      have p0 := iP n (by omega)
      have p1 := iP (n + 1) (by omega)
      have hp := low_le (n := n) (by omega)
      have hp1 := low_le (n := n + 1) (by omega)
      have hq := Nat.one_le_two_pow (n := n)
      have hq1 := Nat.one_le_two_pow (n := n + 1)
      have hd : 2 * 2 ^ n = 2 ^ (n + 1) := by rw [Nat.pow_succ]; omega
      have b0 : ((2 ^ n - 1 : Nat) : Int) = ((1 * 2 ^ n : Nat) : Int) - 1 := by omega
      have b1 : ((2 ^ (n + 1) - 1 : Nat) : Int) = ((2 * 2 ^ n : Nat) : Int) - 1 := by omega
      rw [b0] at p0
      rw [b1] at p1
      have t0 := iTb n
      have t1 := iTb (n + 1)
      generalize bndL last hs step lv (ms.take n) = bl0 at *
      generalize bndL last hs step lv (ms.take (n + 1)) = bl1 at *
      repeat' first | ((with_reducible apply WB.tt); conv => whnf) | ((with_reducible apply WB.ff); conv => whnf) | (refine Rn.seq ?_; conv => whnf) | (refine Rn.reg ?_; conv => whnf) | (refine Rn.drw ?_; conv => whnf) | (refine Rn.blk ?_; conv => whnf) | (refine Rn.skip ?_; conv => whnf) | (refine Rn.ret ?_; conv => whnf) | (refine Rn.exit ?_; conv => whnf) | (refine Rn.cond rfl ?_; conv => whnf) | (refine And.intro (InR.i64 (by omega) (by omega)) ?_; conv => whnf) | (refine And.intro (show _ ≠ (0 : Int) by omega) ?_; conv => whnf) | (refine WIx.intsN (by omega) ?_; conv => whnf) | (refine WIx.rowsN (by omega) ?_; conv => whnf) | (refine WCall.pure (iT0) ?_; conv => whnf) | (refine WCall.pure (iFs) ?_; conv => whnf) | (refine WCall.pure (iI) ?_; conv => whnf) | (refine WCall.pure (AW) ?_; conv => whnf) | ((with_reducible refine WB.decT (by first | with_reducible rfl | assumption | omega | exact ⟨rfl, rfl⟩) ?_); conv => whnf) | ((with_reducible refine WB.decF (by first | assumption | omega) ?_); conv => whnf) | ((with_reducible refine WB.ndT (by first | with_reducible rfl | assumption | omega | exact ⟨rfl, rfl⟩) ?_); conv => whnf) | ((with_reducible refine WB.ndF (by first | assumption | omega) ?_); conv => whnf) | ((with_reducible refine WB.nt ?_); conv => whnf) | ((with_reducible refine WB.nf ?_); conv => whnf) | ((with_reducible refine WB.dec (fun h => ?_) (fun h => ?_)) <;> conv => whnf) | ((with_reducible refine WB.ndec (fun h => ?_) (fun h => ?_)) <;> conv => whnf) | (refine WB.mk (fun h => ?_) (fun h => ?_) <;> conv => whnf) | (refine WB.tt ?_; conv => whnf) | (refine WB.ff ?_; conv => whnf)
      refine And.intro (InR.u64 (by omega) (by omega)) ?_; conv => whnf
      repeat' first | ((with_reducible apply WB.tt); conv => whnf) | ((with_reducible apply WB.ff); conv => whnf) | (refine Rn.seq ?_; conv => whnf) | (refine Rn.reg ?_; conv => whnf) | (refine Rn.drw ?_; conv => whnf) | (refine Rn.blk ?_; conv => whnf) | (refine Rn.skip ?_; conv => whnf) | (refine Rn.ret ?_; conv => whnf) | (refine Rn.exit ?_; conv => whnf) | (refine Rn.cond rfl ?_; conv => whnf) | (refine And.intro (InR.i64 (by omega) (by omega)) ?_; conv => whnf) | (refine And.intro (show _ ≠ (0 : Int) by omega) ?_; conv => whnf) | (refine WIx.intsN (by omega) ?_; conv => whnf) | (refine WIx.rowsN (by omega) ?_; conv => whnf) | (refine WCall.pure (AW) ?_; conv => whnf) | ((with_reducible refine WB.decT (by first | with_reducible rfl | assumption | omega | exact ⟨rfl, rfl⟩) ?_); conv => whnf) | ((with_reducible refine WB.decF (by first | assumption | omega) ?_); conv => whnf) | ((with_reducible refine WB.ndT (by first | with_reducible rfl | assumption | omega | exact ⟨rfl, rfl⟩) ?_); conv => whnf) | ((with_reducible refine WB.ndF (by first | assumption | omega) ?_); conv => whnf) | ((with_reducible refine WB.nt ?_); conv => whnf) | ((with_reducible refine WB.nf ?_); conv => whnf) | ((with_reducible refine WB.dec (fun h => ?_) (fun h => ?_)) <;> conv => whnf) | ((with_reducible refine WB.ndec (fun h => ?_) (fun h => ?_)) <;> conv => whnf) | (refine WB.mk (fun h => ?_) (fun h => ?_) <;> conv => whnf) | (refine WB.tt ?_; conv => whnf) | (refine WB.ff ?_; conv => whnf)
      refine WSt.shlN (a := 1) (by rfl) (by rfl) (by omega) (by omega) ?_; conv => whnf
      repeat' first | ((with_reducible apply WB.tt); conv => whnf) | ((with_reducible apply WB.ff); conv => whnf) | (refine Rn.seq ?_; conv => whnf) | (refine Rn.reg ?_; conv => whnf) | (refine Rn.drw ?_; conv => whnf) | (refine Rn.blk ?_; conv => whnf) | (refine Rn.skip ?_; conv => whnf) | (refine Rn.ret ?_; conv => whnf) | (refine Rn.exit ?_; conv => whnf) | (refine Rn.cond rfl ?_; conv => whnf) | (refine And.intro (InR.i64 (by omega) (by omega)) ?_; conv => whnf) | (refine And.intro (show _ ≠ (0 : Int) by omega) ?_; conv => whnf) | (refine WIx.intsN (by omega) ?_; conv => whnf) | (refine WIx.rowsN (by omega) ?_; conv => whnf) | (refine WCall.pure (p0) ?_; conv => whnf) | (refine WCall.pure (t0) ?_; conv => whnf) | (refine WCall.pure (iB0) ?_; conv => whnf) | (refine WCall.pure (AW) ?_; conv => whnf) | ((with_reducible refine WB.decT (by first | with_reducible rfl | assumption | omega | exact ⟨rfl, rfl⟩) ?_); conv => whnf) | ((with_reducible refine WB.decF (by first | assumption | omega) ?_); conv => whnf) | ((with_reducible refine WB.ndT (by first | with_reducible rfl | assumption | omega | exact ⟨rfl, rfl⟩) ?_); conv => whnf) | ((with_reducible refine WB.ndF (by first | assumption | omega) ?_); conv => whnf) | ((with_reducible refine WB.nt ?_); conv => whnf) | ((with_reducible refine WB.nf ?_); conv => whnf) | ((with_reducible refine WB.dec (fun h => ?_) (fun h => ?_)) <;> conv => whnf) | ((with_reducible refine WB.ndec (fun h => ?_) (fun h => ?_)) <;> conv => whnf) | (refine WB.mk (fun h => ?_) (fun h => ?_) <;> conv => whnf) | (refine WB.tt ?_; conv => whnf) | (refine WB.ff ?_; conv => whnf)
      refine And.intro (InR.u64 (by omega) (by omega)) ?_; conv => whnf
      repeat' first | ((with_reducible apply WB.tt); conv => whnf) | ((with_reducible apply WB.ff); conv => whnf) | (refine Rn.seq ?_; conv => whnf) | (refine Rn.reg ?_; conv => whnf) | (refine Rn.drw ?_; conv => whnf) | (refine Rn.blk ?_; conv => whnf) | (refine Rn.skip ?_; conv => whnf) | (refine Rn.ret ?_; conv => whnf) | (refine Rn.exit ?_; conv => whnf) | (refine Rn.cond rfl ?_; conv => whnf) | (refine And.intro (InR.i64 (by omega) (by omega)) ?_; conv => whnf) | (refine And.intro (show _ ≠ (0 : Int) by omega) ?_; conv => whnf) | (refine WIx.intsN (by omega) ?_; conv => whnf) | (refine WIx.rowsN (by omega) ?_; conv => whnf) | (refine WCall.pure (AW) ?_; conv => whnf) | ((with_reducible refine WB.decT (by first | with_reducible rfl | assumption | omega | exact ⟨rfl, rfl⟩) ?_); conv => whnf) | ((with_reducible refine WB.decF (by first | assumption | omega) ?_); conv => whnf) | ((with_reducible refine WB.ndT (by first | with_reducible rfl | assumption | omega | exact ⟨rfl, rfl⟩) ?_); conv => whnf) | ((with_reducible refine WB.ndF (by first | assumption | omega) ?_); conv => whnf) | ((with_reducible refine WB.nt ?_); conv => whnf) | ((with_reducible refine WB.nf ?_); conv => whnf) | ((with_reducible refine WB.dec (fun h => ?_) (fun h => ?_)) <;> conv => whnf) | ((with_reducible refine WB.ndec (fun h => ?_) (fun h => ?_)) <;> conv => whnf) | (refine WB.mk (fun h => ?_) (fun h => ?_) <;> conv => whnf) | (refine WB.tt ?_; conv => whnf) | (refine WB.ff ?_; conv => whnf)
      refine WSt.shlN (a := 2) (by rfl) (by rfl) (by omega) (by omega) ?_; conv => whnf
      repeat' first | ((with_reducible apply WB.tt); conv => whnf) | ((with_reducible apply WB.ff); conv => whnf) | (refine Rn.seq ?_; conv => whnf) | (refine Rn.reg ?_; conv => whnf) | (refine Rn.drw ?_; conv => whnf) | (refine Rn.blk ?_; conv => whnf) | (refine Rn.skip ?_; conv => whnf) | (refine Rn.ret ?_; conv => whnf) | (refine Rn.exit ?_; conv => whnf) | (refine Rn.cond rfl ?_; conv => whnf) | (refine And.intro (InR.i64 (by omega) (by omega)) ?_; conv => whnf) | (refine And.intro (show _ ≠ (0 : Int) by omega) ?_; conv => whnf) | (refine WIx.intsN (by omega) ?_; conv => whnf) | (refine WIx.rowsN (by omega) ?_; conv => whnf) | (refine WCall.pure (p1) ?_; conv => whnf) | (refine WCall.pure (t1) ?_; conv => whnf) | (refine WCall.pure (iB1) ?_; conv => whnf) | (refine WCall.pure (AW) ?_; conv => whnf) | ((with_reducible refine WB.decT (by first | with_reducible rfl | assumption | omega | exact ⟨rfl, rfl⟩) ?_); conv => whnf) | ((with_reducible refine WB.decF (by first | assumption | omega) ?_); conv => whnf) | ((with_reducible refine WB.ndT (by first | with_reducible rfl | assumption | omega | exact ⟨rfl, rfl⟩) ?_); conv => whnf) | ((with_reducible refine WB.ndF (by first | assumption | omega) ?_); conv => whnf) | ((with_reducible refine WB.nt ?_); conv => whnf) | ((with_reducible refine WB.nf ?_); conv => whnf) | ((with_reducible refine WB.dec (fun h => ?_) (fun h => ?_)) <;> conv => whnf) | ((with_reducible refine WB.ndec (fun h => ?_) (fun h => ?_)) <;> conv => whnf) | (refine WB.mk (fun h => ?_) (fun h => ?_) <;> conv => whnf) | (refine WB.tt ?_; conv => whnf) | (refine WB.ff ?_; conv => whnf)
      exact Fin.b rfl rfl
theorem main_tideFirst (AW : PureF Try.prog p21.ix [] (.b true)) {es : List D} (fit : FitP [(true, [.i .i64, .sl [.i .i64, .i .i64], .i .i64, .sl [.i .i64], .sl [.i .i64, .i .i64, .i .i64, .i .i64]])] es) : PureF Try.prog 17 es (.b true) := by
  obtain ⟨last, hs, step, lv, ms, _, rfl, g1⟩ := fit.tab
  obtain rfl := g1.no
  exact c_TideFirst last hs step lv ms AW
end Go.Ev

namespace Go.Proofs.Ytpemagogcagipaa.tideFirst
open Go.ChangeShapes Go.WideShapes Go.ChangeAt Go.RowKit
open Go.ChangeMaps (open_string shut_string)
set_option linter.unusedVariables false

theorem laid : laidOutB Try.prog = true := by kernel_rfl
theorem own : ownKnob Try.prog.godebug = none := by kernel_rfl

/-! ### the walk -/
theorem walk {es : List Go.Ev.D} (fit : Go.Ev.FitP [(true, [.i .i64, .sl [.i .i64, .i .i64], .i .i64, .sl [.i .i64], .sl [.i .i64, .i .i64, .i .i64, .i .i64]])] es) {args : Array Value} {W : World} (ha : Go.Ev.DVL (Go.Ev.γH W) W es args.toList) :
    Calls Try.prog 17 args W fun e w' => e = .returned (.bool true) ∧ Grown W w' ∧ Below W.heap.size W w' :=
  Go.Ev.PureF.calls (Go.Ev.main_tideFirst (fun ob nx lg => Go.Ev.closed_call Go.Ev.fp_ok Go.Ev.aw ob nx lg) fit) ha

set_option maxRecDepth 100000 in
theorem lifted (os : Os) (started : os.Started) (H : Type) (enc : TypeId × Value → H) :
    ReturnsInHanded {} Try.checked os 17 .any (Rows.tideFirstSpec.pre6 enc Try.prog Try.f17 Rows.tideFirstRow.domain false) (Rows.tideFirstSpec.post enc Try.prog Try.f17 false true false false) := by
  refine returnsInHanded_of_change (C := Try.checked) own started (by kernel_rfl) Try.func17
    (ChangeSpec.witness6 (enc := enc) (C := Try.checked) false ⟨#[], #[.agg #[.int .i64 0, .slice none 0 0, .int .i64 0, .slice none 0 0, .slice none 0 0]], []⟩ 8 (by kernel_rfl) (by kernel_rfl) (by kernel_rfl) (by kernel_rfl)) ?_
  intro W base args ds gs before hval0 hW hcnd _
  have hval : ∀ (j : Nat) t v, Try.f17.params[j]? = some t → args[j]? = some v → Value.okWide Try.prog W .any base t v := hval0
  have hW' := hW
  obtain ⟨p, q, hA0, hV, rfl, hfz, hnd⟩ := hW
  have hA : DataW.TrodAll enc Try.prog W 0 (fun _ => true) true Try.f17.params.toList args.toList ds p := hA0
  rw [Try.params17] at hA hval
  obtain ⟨rfl, rfl⟩ := trodVars_none hV
  obtain ⟨d0, rfl⟩ := Go.Ev.len1 (Go.Ev.trod_len hA)
  clear hA0 hval0
  simp only [List.append_nil] at hW'
  obtain ⟨es, fit, dv⟩ := Go.Ev.open_all (n := 6) (pars := [(true, [.i .i64, .sl [.i .i64, .i .i64], .i .i64, .sl [.i .i64], .sl [.i .i64, .i .i64, .i .i64, .i .i64]])]) (by kernel_rfl) hA (fun j t v h1 h2 => hval j t v (by simpa using h1) (by simpa using h2))
  have hlt : ∀ x ∈ p, x.block < W.heap.size := fun x hx => by simpa using hW'.lt x hx
  refine (walk fit dv).mono fun e W' ⟨he, hg, hb⟩ => ?_
  subst he
  exact ⟨_, rfl, post_of_same (pa := p) (pv := []) hW' (fun _ _ _ => (trodAll_cons_mk (shut_bool Try.underlying4 _) trodAll_mk0))
    (fun sp hs => Go.Ev.stays_all laid (Go.Ev.of_allT (by kernel_rfl)) hA (fun x hx => hb.same (hlt x hx)) (fun x hx => hs x hx))
    (fun _ _ => rfl) (List.append_nil _).symm
    (hg.frame _) hg.2.1 (ok_one (by kernel_rfl) rfl (okWide_bool_mk Try.underlying4 _))⟩

theorem over : Rows.tideFirstRow.holds Try.pinned (OpenSpec.ofChange Rows.tideFirstSpec) :=
  OpenClaim.holds_of_wide 17 Try.f17 rfl rfl rfl rfl rfl rfl rfl ⟨rfl, rfl, rfl, rfl, rfl⟩ rfl rfl rfl rfl rfl (by kernel_rfl) Try.func17 (by kernel_rfl)
    (of_decide_eq_true (by kernel_rfl)) (by unfold Func.isWrapper; first | (rw [if_pos (by decide +kernel)]; kernel_rfl) | (rw [if_neg (by decide +kernel)]; exact ⟨rfl, rfl⟩))
    (fun os started H enc _ => lifted os started H enc)

/-- ████ THE STATEMENT ████ -/
theorem proved : Rows.TideFirstSaid :=
  over
#print axioms proved
end Go.Proofs.Ytpemagogcagipaa.tideFirst
