import Derived.Test.YtpemagogcagipaaEvML
import Derived.Test.YtpemagogcagipaaEvMH
set_option linter.all false
namespace Go.Ev
open Go.Proofs
set_option maxRecDepth 100000
end Go.Ev

namespace Go.Ev
open Go.Proofs
set_option maxRecDepth 100000
end Go.Ev

namespace Go.Ev
open Go.Proofs
set_option maxRecDepth 100000
end Go.Ev

namespace Go.Ev
open Go.Proofs
set_option maxRecDepth 100000
def readyB (last : Int) (hs : List Rg) (step : Int) (lv : List Int) (ms : List Mk) : Bool := thinR last hs step lv ms && decide (faultR last hs step lv ms = 0)
theorem c_ready (last : Int) (hs : List Rg) (step : Int) (lv : List Int) (ms : List Mk) : PureF Try.prog p52.ix [.ag [.i .i64 last, .lst 2 (rows rgD hs), .i .i64 step, .lst 1 (ints lv), .lst 4 (rows mkD ms)]] (.b (readyB last hs step lv ms)) := by
  have iT := c_Thin last hs step lv ms
  have iF := c_fault last hs step lv ms
  unfold readyB
  refine PureF.run fn51 (by simp) (by simp [PuL, PuE, Pu, pu_ints, pu_rg, pu_mk]) ?_; conv => whnf
  cases hT : thinR last hs step lv ms with
  | false =>
    rw [hT] at iT
    repeat' first | ((with_reducible apply WB.tt); conv => whnf) | ((with_reducible apply WB.ff); conv => whnf) | (refine Rn.seq ?_; conv => whnf) | (refine Rn.reg ?_; conv => whnf) | (refine Rn.drw ?_; conv => whnf) | (refine Rn.blk ?_; conv => whnf) | (refine Rn.skip ?_; conv => whnf) | (refine Rn.ret ?_; conv => whnf) | (refine Rn.exit ?_; conv => whnf) | (refine Rn.cond rfl ?_; conv => whnf) | (refine And.intro (InR.i64 (by omega) (by omega)) ?_; conv => whnf) | (refine And.intro (show _ ≠ (0 : Int) by omega) ?_; conv => whnf) | (refine WIx.intsN (by omega) ?_; conv => whnf) | (refine WIx.rowsN (by omega) ?_; conv => whnf) | (refine WCall.pure (iT) ?_; conv => whnf) | (refine WCall.pure (iF) ?_; conv => whnf)
    exact Fin.b rfl rfl
  | true =>
    rw [hT] at iT
    repeat' first | ((with_reducible apply WB.tt); conv => whnf) | ((with_reducible apply WB.ff); conv => whnf) | (refine Rn.seq ?_; conv => whnf) | (refine Rn.reg ?_; conv => whnf) | (refine Rn.drw ?_; conv => whnf) | (refine Rn.blk ?_; conv => whnf) | (refine Rn.skip ?_; conv => whnf) | (refine Rn.ret ?_; conv => whnf) | (refine Rn.exit ?_; conv => whnf) | (refine Rn.cond rfl ?_; conv => whnf) | (refine And.intro (InR.i64 (by omega) (by omega)) ?_; conv => whnf) | (refine And.intro (show _ ≠ (0 : Int) by omega) ?_; conv => whnf) | (refine WIx.intsN (by omega) ?_; conv => whnf) | (refine WIx.rowsN (by omega) ?_; conv => whnf) | (refine WCall.pure (iT) ?_; conv => whnf) | (refine WCall.pure (iF) ?_; conv => whnf)
    exact Fin.b rfl rfl
theorem thin_exS {last : Int} {hs : List Rg} {step : Int} {lv : List Int} {ms : List Mk} (hT : thinR last hs step lv ms = true) (hf : faultR last hs step lv ms = 0) : (exS hs step hs.length 0 zeroS).length ≤ 150 := by
  obtain ⟨V, hm, _⟩ := fault_zero hf
  unfold thinR at hT
  rw [Bool.and_eq_true, Bool.or_eq_true, decide_eq_true_iff, decide_eq_true_iff, decide_eq_true_iff] at hT
  have h1 := exS_len hs step hs.length 0 zeroS (by omega)
  rw [List.drop_zero] at h1
  have h2 := szs_eq V.hv
  have h3 := manyR_eq V.hv
  omega
end Go.Ev

namespace Go.Ev
open Go.Proofs
theorem tab_sh {last step : Int} {hs : List Rg} {lv : List Int} {ms : List Mk} {d : D} {B : Pos → Prop} {ob : T C} (hd : Fz B ob d (.lst 1 (ints lv))) : ShC B ob (.cells false [.o (.i .i64 last) 0, .o (.lst 2 (rows rgD hs)) 0, .o (.i .i64 step) 0, .o d 0, .o (.lst 4 (rows mkD ms)) 0] 1) (tabC last hs step lv ms) := by
  refine .cells fun k c' hc => ?_
  match k, hc with
  | 0, hc => cases hc; exact ⟨_, rfl, fun _ h => h, .pu trivial⟩
  | 1, hc => cases hc; exact ⟨_, rfl, fun _ h => h, .pu (pu_rg _)⟩
  | 2, hc => cases hc; exact ⟨_, rfl, fun _ h => h, .pu trivial⟩
  | 3, hc => cases hc; exact ⟨_, rfl, fun _ h => h, hd⟩
  | 4, hc => cases hc; exact ⟨_, rfl, fun _ h => h, .pu (pu_mk _)⟩
  | k + 5, hc => cases hc
end Go.Ev
