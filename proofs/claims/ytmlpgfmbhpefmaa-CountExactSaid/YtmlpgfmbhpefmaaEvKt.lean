import Derived.Test.YtmlpgfmbhpefmaaEvKs
import Derived.Test.YtmlpgfmbhpefmaaEvKr
import Derived.Test.YtmlpgfmbhpefmaaEvFt
set_option linter.all false
namespace Go.Ev
open Go.Proofs
set_option maxRecDepth 100000
theorem thin_len {l : List Int} {cs : List Cnt} {wr off : Int} (h1 : thinB l cs wr off = true) : l.length ≤ 11 ∧ cs.length ≤ 8 := by
  unfold thinB at h1
  rw [Bool.and_eq_true, Bool.and_eq_true, decide_eq_true_iff, decide_eq_true_iff] at h1
  exact ⟨h1.1, h1.2.1⟩
theorem part_iff {n : Nat} {f t : Int} : partB n f t = (inB f 0 t && decide (t < n)) := by
  unfold partB inB
  rw [← Bool.decide_and, ← Bool.decide_and]
  congr 1
  apply propext
  omega
theorem truths_nil {l : List Int} {cs : List Cnt} {wr off : Int} (hl : l.length ≤ 9) : truR l cs wr off = [] ↔ truthsF l cs wr off = [] := by
  rw [truR_eq l cs wr off hl, List.map_eq_nil_iff]
theorem c_CountChairs (l : List Int) (cs : List Cnt) (wr off f t : Int) (AW : PureF Try.prog p20.ix [] (.b true)) :
    PureF Try.prog p5.ix [.ag [.lst 1 (ints l), .lst 3 (rows cntD cs), .i .i64 wr, .i .i64 off], .i .i64 f, .i .i64 t] (.b true) := by
  have e1 := ints_length l
  refine PureF.run fn4 (by simp) (by simp [PuL, PuE, Pu, pu_ints, pu_cnts]) ?_; conv => whnf
  repeat' first | ((with_reducible apply WB.tt); conv => whnf) | ((with_reducible apply WB.ff); conv => whnf) | (refine Rn.seq ?_; conv => whnf) | (refine Rn.reg ?_; conv => whnf) | (refine Rn.drw ?_; conv => whnf) | (refine Rn.blk ?_; conv => whnf) | (refine Rn.skip ?_; conv => whnf) | (refine Rn.ret ?_; conv => whnf) | (refine Rn.exit ?_; conv => whnf) | (refine Rn.cond rfl ?_; conv => whnf) | (refine And.intro (InR.i64 (by omega) (by omega)) ?_; conv => whnf) | (refine And.intro (show _ ≠ (0 : Int) by omega) ?_; conv => whnf) | (refine WIx.intsN (by omega) ?_; conv => whnf) | (refine WIx.rowsN (by omega) ?_; conv => whnf) | (refine WCall.pure (c_Thin l cs wr off) ?_; conv => whnf) | (refine WCall.pure (AW) ?_; conv => whnf) | ((with_reducible refine WB.dec (fun h => ?_) (fun h => ?_)) <;> conv => whnf) | ((with_reducible refine WB.ndec (fun h => ?_) (fun h => ?_)) <;> conv => whnf) | (refine WB.mk (fun h => ?_) (fun h => ?_) <;> conv => whnf)
  · exact Fin.b rfl rfl
  have h1 : thinB l cs wr off = true := by
    have : (!thinB l cs wr off) = false := by assumption
    simpa using this
  obtain ⟨h2, h3⟩ := thin_len h1
  have cR := c_Row l cs wr off (by omega) (by omega)
  have cF := c_fault l cs wr off
  have cC := c_Chairs l cs wr off f t
  have cS := c_sure l cs wr off
  have cP := c_part l cs wr off f t (by omega)
  clear h1
  by_cases hF : faultR l cs wr off = 0
  · obtain ⟨f1, f2, f3, f4⟩ := fault0 hF
    rw [hF] at cF
    have hsL : sureL l cs wr off = truR l cs wr off := by unfold sureL; rw [if_pos hF]
    have hsE : sureE l cs wr off = if truR l cs wr off = [] then 11 else 0 := by unfold sureE; rw [if_pos hF]
    have hsS : startE l cs wr off f t = if partB l.length f t = true then (if truR l cs wr off = [] then 11 else 0) else 2 := by
      unfold startE
      rw [if_pos hF, part_iff]
      simp only [truths_nil f2]
    rw [hsL] at cS
    by_cases hP : partB l.length f t = true
    · rw [hP] at cP
      rw [if_pos hP] at hsS
      by_cases hT : truR l cs wr off = []
      · rw [if_pos hT] at hsS hsE
        unfold chLo chHi at cC
        rw [hsS, if_neg (by omega), if_neg (by omega)] at cC
        rw [hsE] at cS
        repeat' first | ((with_reducible apply WB.tt); conv => whnf) | ((with_reducible apply WB.ff); conv => whnf) | (refine Rn.seq ?_; conv => whnf) | (refine Rn.reg ?_; conv => whnf) | (refine Rn.drw ?_; conv => whnf) | (refine Rn.blk ?_; conv => whnf) | (refine Rn.skip ?_; conv => whnf) | (refine Rn.ret ?_; conv => whnf) | (refine Rn.exit ?_; conv => whnf) | (refine Rn.cond rfl ?_; conv => whnf) | (refine And.intro (InR.i64 (by omega) (by omega)) ?_; conv => whnf) | (refine And.intro (show _ ≠ (0 : Int) by omega) ?_; conv => whnf) | (refine WIx.intsN (by omega) ?_; conv => whnf) | (refine WIx.rowsN (by omega) ?_; conv => whnf) | (refine WCall.pure (cR) ?_; conv => whnf) | (refine WCall.pure (cF) ?_; conv => whnf) | (refine WCall.pure (cC) ?_; conv => whnf) | (refine WCall.pure (cS) ?_; conv => whnf) | (refine WCall.pure (cP) ?_; conv => whnf) | (refine WCall.pure (AW) ?_; conv => whnf) | ((with_reducible refine WB.decT (by first | with_reducible rfl | assumption | omega | exact ⟨rfl, rfl⟩) ?_); conv => whnf) | ((with_reducible refine WB.decF (by first | assumption | omega) ?_); conv => whnf) | ((with_reducible refine WB.ndT (by first | with_reducible rfl | assumption | omega | exact ⟨rfl, rfl⟩) ?_); conv => whnf) | ((with_reducible refine WB.ndF (by first | assumption | omega) ?_); conv => whnf) | ((with_reducible refine WB.nt ?_); conv => whnf) | ((with_reducible refine WB.nf ?_); conv => whnf) | ((with_reducible refine WB.dec (fun h => ?_) (fun h => ?_)) <;> conv => whnf) | ((with_reducible refine WB.ndec (fun h => ?_) (fun h => ?_)) <;> conv => whnf) | (refine WB.mk (fun h => ?_) (fun h => ?_) <;> conv => whnf)
        refine WSt.eqr2 rfl rfl rfl rfl rfl rfl ?_; conv => whnf
        repeat' first | ((with_reducible apply WB.tt); conv => whnf) | ((with_reducible apply WB.ff); conv => whnf) | (refine Rn.seq ?_; conv => whnf) | (refine Rn.reg ?_; conv => whnf) | (refine Rn.drw ?_; conv => whnf) | (refine Rn.blk ?_; conv => whnf) | (refine Rn.skip ?_; conv => whnf) | (refine Rn.ret ?_; conv => whnf) | (refine Rn.exit ?_; conv => whnf) | (refine Rn.cond rfl ?_; conv => whnf) | (refine And.intro (InR.i64 (by omega) (by omega)) ?_; conv => whnf) | (refine And.intro (show _ ≠ (0 : Int) by omega) ?_; conv => whnf) | (refine WIx.intsN (by omega) ?_; conv => whnf) | (refine WIx.rowsN (by omega) ?_; conv => whnf) | (refine WCall.pure (AW) ?_; conv => whnf) | ((with_reducible refine WB.decT (by first | with_reducible rfl | assumption | omega | exact ⟨rfl, rfl⟩) ?_); conv => whnf) | ((with_reducible refine WB.decF (by first | assumption | omega) ?_); conv => whnf) | ((with_reducible refine WB.ndT (by first | with_reducible rfl | assumption | omega | exact ⟨rfl, rfl⟩) ?_); conv => whnf) | ((with_reducible refine WB.ndF (by first | assumption | omega) ?_); conv => whnf) | ((with_reducible refine WB.nt ?_); conv => whnf) | ((with_reducible refine WB.nf ?_); conv => whnf) | ((with_reducible refine WB.dec (fun h => ?_) (fun h => ?_)) <;> conv => whnf) | ((with_reducible refine WB.ndec (fun h => ?_) (fun h => ?_)) <;> conv => whnf) | (refine WB.mk (fun h => ?_) (fun h => ?_) <;> conv => whnf)
        exact Fin.b rfl rfl
      · rw [if_neg hT] at hsS hsE
        obtain ⟨q1, q2⟩ := ch_ref l cs wr off f t hsS
        obtain ⟨_, g1, g2, g3, _⟩ := startE0 hsS
        have hbd := ref_bd l cs wr off f t f2 g1 g2 g3
        have cX := c_refChairs (truR l cs wr off) l.length f t (by have := truR_len l cs wr off f2; omega) f2 (fun x hx => truR_mem x hx) g1 (by omega) g3
        rw [q1, q2, hsS] at cC
        rw [hsE] at cS
        generalize loR f t (truR l cs wr off) = lo at *
        generalize hiR f t (truR l cs wr off) = hi at *
        have w1 := wf_small (n := lo) (by omega) (by omega)
        have w2 := wf_small (n := hi) (by omega) (by omega)
        repeat' first | ((with_reducible apply WB.tt); conv => whnf) | ((with_reducible apply WB.ff); conv => whnf) | (refine Rn.seq ?_; conv => whnf) | (refine Rn.reg ?_; conv => whnf) | (refine Rn.drw ?_; conv => whnf) | (refine Rn.blk ?_; conv => whnf) | (refine Rn.skip ?_; conv => whnf) | (refine Rn.ret ?_; conv => whnf) | (refine Rn.exit ?_; conv => whnf) | (refine Rn.cond rfl ?_; conv => whnf) | (refine And.intro (InR.i64 (by omega) (by omega)) ?_; conv => whnf) | (refine And.intro (show _ ≠ (0 : Int) by omega) ?_; conv => whnf) | (refine WIx.intsN (by omega) ?_; conv => whnf) | (refine WIx.rowsN (by omega) ?_; conv => whnf) | (refine WCall.pure (cR) ?_; conv => whnf) | (refine WCall.pure (cF) ?_; conv => whnf) | (refine WCall.pure (cC) ?_; conv => whnf) | (refine WCall.pure (cS) ?_; conv => whnf) | (refine WCall.pure (cP) ?_; conv => whnf) | (refine WCall.pure (cX) ?_; conv => whnf) | (refine WCall.pure (c_to _ _) ?_; conv => whnf) | (refine WCall.pure (AW) ?_; conv => whnf) | ((with_reducible refine WB.decT (by first | with_reducible rfl | assumption | omega | exact ⟨rfl, rfl⟩) ?_); conv => whnf) | ((with_reducible refine WB.decF (by first | assumption | omega) ?_); conv => whnf) | ((with_reducible refine WB.ndT (by first | with_reducible rfl | assumption | omega | exact ⟨rfl, rfl⟩) ?_); conv => whnf) | ((with_reducible refine WB.ndF (by first | assumption | omega) ?_); conv => whnf) | ((with_reducible refine WB.nt ?_); conv => whnf) | ((with_reducible refine WB.nf ?_); conv => whnf) | ((with_reducible refine WB.dec (fun h => ?_) (fun h => ?_)) <;> conv => whnf) | ((with_reducible refine WB.ndec (fun h => ?_) (fun h => ?_)) <;> conv => whnf) | (refine WB.mk (fun h => ?_) (fun h => ?_) <;> conv => whnf)
        refine WSt.eqr2 (a := lo) (b := hi) (a' := lo) (b' := hi) ?_ ?_ w1 w2 w1 w2 ?_
        · rfl
        · rfl
        conv => whnf
        repeat' first | ((with_reducible apply WB.tt); conv => whnf) | ((with_reducible apply WB.ff); conv => whnf) | (refine Rn.seq ?_; conv => whnf) | (refine Rn.reg ?_; conv => whnf) | (refine Rn.drw ?_; conv => whnf) | (refine Rn.blk ?_; conv => whnf) | (refine Rn.skip ?_; conv => whnf) | (refine Rn.ret ?_; conv => whnf) | (refine Rn.exit ?_; conv => whnf) | (refine Rn.cond rfl ?_; conv => whnf) | (refine And.intro (InR.i64 (by omega) (by omega)) ?_; conv => whnf) | (refine And.intro (show _ ≠ (0 : Int) by omega) ?_; conv => whnf) | (refine WIx.intsN (by omega) ?_; conv => whnf) | (refine WIx.rowsN (by omega) ?_; conv => whnf) | (refine WCall.pure (AW) ?_; conv => whnf) | ((with_reducible refine WB.decT (by first | with_reducible rfl | assumption | omega | exact ⟨rfl, rfl⟩) ?_); conv => whnf) | ((with_reducible refine WB.decF (by first | assumption | omega) ?_); conv => whnf) | ((with_reducible refine WB.ndT (by first | with_reducible rfl | assumption | omega | exact ⟨rfl, rfl⟩) ?_); conv => whnf) | ((with_reducible refine WB.ndF (by first | assumption | omega) ?_); conv => whnf) | ((with_reducible refine WB.nt ?_); conv => whnf) | ((with_reducible refine WB.nf ?_); conv => whnf) | ((with_reducible refine WB.dec (fun h => ?_) (fun h => ?_)) <;> conv => whnf) | ((with_reducible refine WB.ndec (fun h => ?_) (fun h => ?_)) <;> conv => whnf) | (refine WB.mk (fun h => ?_) (fun h => ?_) <;> conv => whnf)
        exact Fin.b rfl rfl
    · have hP' : partB l.length f t = false := by simpa using hP
      rw [hP'] at cP
      rw [if_neg hP] at hsS
      unfold chLo chHi at cC
      rw [hsS, if_neg (by omega), if_neg (by omega)] at cC
      repeat' first | ((with_reducible apply WB.tt); conv => whnf) | ((with_reducible apply WB.ff); conv => whnf) | (refine Rn.seq ?_; conv => whnf) | (refine Rn.reg ?_; conv => whnf) | (refine Rn.drw ?_; conv => whnf) | (refine Rn.blk ?_; conv => whnf) | (refine Rn.skip ?_; conv => whnf) | (refine Rn.ret ?_; conv => whnf) | (refine Rn.exit ?_; conv => whnf) | (refine Rn.cond rfl ?_; conv => whnf) | (refine And.intro (InR.i64 (by omega) (by omega)) ?_; conv => whnf) | (refine And.intro (show _ ≠ (0 : Int) by omega) ?_; conv => whnf) | (refine WIx.intsN (by omega) ?_; conv => whnf) | (refine WIx.rowsN (by omega) ?_; conv => whnf) | (refine WCall.pure (cR) ?_; conv => whnf) | (refine WCall.pure (cF) ?_; conv => whnf) | (refine WCall.pure (cC) ?_; conv => whnf) | (refine WCall.pure (cS) ?_; conv => whnf) | (refine WCall.pure (cP) ?_; conv => whnf) | (refine WCall.pure (AW) ?_; conv => whnf) | ((with_reducible refine WB.decT (by first | with_reducible rfl | assumption | omega | exact ⟨rfl, rfl⟩) ?_); conv => whnf) | ((with_reducible refine WB.decF (by first | assumption | omega) ?_); conv => whnf) | ((with_reducible refine WB.ndT (by first | with_reducible rfl | assumption | omega | exact ⟨rfl, rfl⟩) ?_); conv => whnf) | ((with_reducible refine WB.ndF (by first | assumption | omega) ?_); conv => whnf) | ((with_reducible refine WB.nt ?_); conv => whnf) | ((with_reducible refine WB.nf ?_); conv => whnf) | ((with_reducible refine WB.dec (fun h => ?_) (fun h => ?_)) <;> conv => whnf) | ((with_reducible refine WB.ndec (fun h => ?_) (fun h => ?_)) <;> conv => whnf) | (refine WB.mk (fun h => ?_) (fun h => ?_) <;> conv => whnf)
      refine WSt.eqr2 rfl rfl rfl rfl rfl rfl ?_; conv => whnf
      repeat' first | ((with_reducible apply WB.tt); conv => whnf) | ((with_reducible apply WB.ff); conv => whnf) | (refine Rn.seq ?_; conv => whnf) | (refine Rn.reg ?_; conv => whnf) | (refine Rn.drw ?_; conv => whnf) | (refine Rn.blk ?_; conv => whnf) | (refine Rn.skip ?_; conv => whnf) | (refine Rn.ret ?_; conv => whnf) | (refine Rn.exit ?_; conv => whnf) | (refine Rn.cond rfl ?_; conv => whnf) | (refine And.intro (InR.i64 (by omega) (by omega)) ?_; conv => whnf) | (refine And.intro (show _ ≠ (0 : Int) by omega) ?_; conv => whnf) | (refine WIx.intsN (by omega) ?_; conv => whnf) | (refine WIx.rowsN (by omega) ?_; conv => whnf) | (refine WCall.pure (AW) ?_; conv => whnf) | ((with_reducible refine WB.decT (by first | with_reducible rfl | assumption | omega | exact ⟨rfl, rfl⟩) ?_); conv => whnf) | ((with_reducible refine WB.decF (by first | assumption | omega) ?_); conv => whnf) | ((with_reducible refine WB.ndT (by first | with_reducible rfl | assumption | omega | exact ⟨rfl, rfl⟩) ?_); conv => whnf) | ((with_reducible refine WB.ndF (by first | assumption | omega) ?_); conv => whnf) | ((with_reducible refine WB.nt ?_); conv => whnf) | ((with_reducible refine WB.nf ?_); conv => whnf) | ((with_reducible refine WB.dec (fun h => ?_) (fun h => ?_)) <;> conv => whnf) | ((with_reducible refine WB.ndec (fun h => ?_) (fun h => ?_)) <;> conv => whnf) | (refine WB.mk (fun h => ?_) (fun h => ?_) <;> conv => whnf)
      exact Fin.b rfl rfl
  · have hsE : sureE l cs wr off = faultR l cs wr off := by unfold sureE; rw [if_neg hF]
    have hsS : startE l cs wr off f t = faultR l cs wr off := by unfold startE; rw [if_neg hF]
    unfold chLo chHi at cC
    rw [hsS, if_neg hF, if_neg hF] at cC
    rw [hsE] at cS
    generalize faultR l cs wr off = F at *
    repeat' first | ((with_reducible apply WB.tt); conv => whnf) | ((with_reducible apply WB.ff); conv => whnf) | (refine Rn.seq ?_; conv => whnf) | (refine Rn.reg ?_; conv => whnf) | (refine Rn.drw ?_; conv => whnf) | (refine Rn.blk ?_; conv => whnf) | (refine Rn.skip ?_; conv => whnf) | (refine Rn.ret ?_; conv => whnf) | (refine Rn.exit ?_; conv => whnf) | (refine Rn.cond rfl ?_; conv => whnf) | (refine And.intro (InR.i64 (by omega) (by omega)) ?_; conv => whnf) | (refine And.intro (show _ ≠ (0 : Int) by omega) ?_; conv => whnf) | (refine WIx.intsN (by omega) ?_; conv => whnf) | (refine WIx.rowsN (by omega) ?_; conv => whnf) | (refine WCall.pure (cR) ?_; conv => whnf) | (refine WCall.pure (cF) ?_; conv => whnf) | (refine WCall.pure (cC) ?_; conv => whnf) | (refine WCall.pure (cS) ?_; conv => whnf) | (refine WCall.pure (cP) ?_; conv => whnf) | (refine WCall.pure (AW) ?_; conv => whnf) | ((with_reducible refine WB.decT (by first | with_reducible rfl | assumption | omega | exact ⟨rfl, rfl⟩) ?_); conv => whnf) | ((with_reducible refine WB.decF (by first | assumption | omega) ?_); conv => whnf) | ((with_reducible refine WB.ndT (by first | with_reducible rfl | assumption | omega | exact ⟨rfl, rfl⟩) ?_); conv => whnf) | ((with_reducible refine WB.ndF (by first | assumption | omega) ?_); conv => whnf) | ((with_reducible refine WB.nt ?_); conv => whnf) | ((with_reducible refine WB.nf ?_); conv => whnf) | ((with_reducible refine WB.dec (fun h => ?_) (fun h => ?_)) <;> conv => whnf) | ((with_reducible refine WB.ndec (fun h => ?_) (fun h => ?_)) <;> conv => whnf) | (refine WB.mk (fun h => ?_) (fun h => ?_) <;> conv => whnf)
    all_goals try (refine WSt.eqr2 rfl rfl rfl rfl rfl rfl ?_; conv => whnf)
    all_goals try repeat' first | ((with_reducible apply WB.tt); conv => whnf) | ((with_reducible apply WB.ff); conv => whnf) | (refine Rn.seq ?_; conv => whnf) | (refine Rn.reg ?_; conv => whnf) | (refine Rn.drw ?_; conv => whnf) | (refine Rn.blk ?_; conv => whnf) | (refine Rn.skip ?_; conv => whnf) | (refine Rn.ret ?_; conv => whnf) | (refine Rn.exit ?_; conv => whnf) | (refine Rn.cond rfl ?_; conv => whnf) | (refine And.intro (InR.i64 (by omega) (by omega)) ?_; conv => whnf) | (refine And.intro (show _ ≠ (0 : Int) by omega) ?_; conv => whnf) | (refine WIx.intsN (by omega) ?_; conv => whnf) | (refine WIx.rowsN (by omega) ?_; conv => whnf) | (refine WCall.pure (AW) ?_; conv => whnf) | ((with_reducible refine WB.decT (by first | with_reducible rfl | assumption | omega | exact ⟨rfl, rfl⟩) ?_); conv => whnf) | ((with_reducible refine WB.decF (by first | assumption | omega) ?_); conv => whnf) | ((with_reducible refine WB.ndT (by first | with_reducible rfl | assumption | omega | exact ⟨rfl, rfl⟩) ?_); conv => whnf) | ((with_reducible refine WB.ndF (by first | assumption | omega) ?_); conv => whnf) | ((with_reducible refine WB.nt ?_); conv => whnf) | ((with_reducible refine WB.nf ?_); conv => whnf) | ((with_reducible refine WB.dec (fun h => ?_) (fun h => ?_)) <;> conv => whnf) | ((with_reducible refine WB.ndec (fun h => ?_) (fun h => ?_)) <;> conv => whnf) | (refine WB.mk (fun h => ?_) (fun h => ?_) <;> conv => whnf)
    all_goals first | exact Fin.b rfl rfl | exact absurd rfl h | skip
theorem main_countChairs (AW : PureF Try.prog p20.ix [] (.b true)) {es : List D} (fit : FitP [(true, [.sl [.i .i64], .sl [.b, .i .i64, .i .i64], .i .i64, .i .i64]), (false, [.i .i64]), (false, [.i .i64])] es) : PureF Try.prog 4 es (.b true) := by
  obtain ⟨l, cs, wr, off, _, rfl, g1⟩ := fit.row
  obtain ⟨f, _, rfl, _, g2⟩ := g1.i
  obtain ⟨t, _, rfl, _, g3⟩ := g2.i
  obtain rfl := g3.no
  exact c_CountChairs l cs wr off f t AW
end Go.Ev

namespace Go.Ev
open Go.Proofs
set_option maxRecDepth 100000
/-! ### ready, parted -/
def readyB (l : List Int) (cs : List Cnt) (wr off : Int) : Bool := thinB l cs wr off && decide (faultR l cs wr off = 0)
theorem c_ready (l : List Int) (cs : List Cnt) (wr off : Int) : PureF Try.prog p51.ix [.ag [.lst 1 (ints l), .lst 3 (rows cntD cs), .i .i64 wr, .i .i64 off]] (.b (readyB l cs wr off)) := by
  refine PureF.run fn50 (by simp) (by simp [PuL, PuE, Pu, pu_ints, pu_cnts]) ?_; conv => whnf
  repeat' first | ((with_reducible apply WB.tt); conv => whnf) | ((with_reducible apply WB.ff); conv => whnf) | (refine Rn.seq ?_; conv => whnf) | (refine Rn.reg ?_; conv => whnf) | (refine Rn.drw ?_; conv => whnf) | (refine Rn.blk ?_; conv => whnf) | (refine Rn.skip ?_; conv => whnf) | (refine Rn.ret ?_; conv => whnf) | (refine Rn.exit ?_; conv => whnf) | (refine Rn.cond rfl ?_; conv => whnf) | (refine And.intro (InR.i64 (by omega) (by omega)) ?_; conv => whnf) | (refine And.intro (show _ ≠ (0 : Int) by omega) ?_; conv => whnf) | (refine WIx.intsN (by omega) ?_; conv => whnf) | (refine WIx.rowsN (by omega) ?_; conv => whnf) | (refine WCall.pure (c_Thin l cs wr off) ?_; conv => whnf) | (refine WCall.pure (c_Fault l cs wr off) ?_; conv => whnf)
  refine WB.mk (fun h => ?_) (fun h => ?_) <;> conv => whnf
  · repeat' first | ((with_reducible apply WB.tt); conv => whnf) | ((with_reducible apply WB.ff); conv => whnf) | (refine Rn.seq ?_; conv => whnf) | (refine Rn.reg ?_; conv => whnf) | (refine Rn.drw ?_; conv => whnf) | (refine Rn.blk ?_; conv => whnf) | (refine Rn.skip ?_; conv => whnf) | (refine Rn.ret ?_; conv => whnf) | (refine Rn.exit ?_; conv => whnf) | (refine Rn.cond rfl ?_; conv => whnf) | (refine And.intro (InR.i64 (by omega) (by omega)) ?_; conv => whnf) | (refine And.intro (show _ ≠ (0 : Int) by omega) ?_; conv => whnf) | (refine WIx.intsN (by omega) ?_; conv => whnf) | (refine WIx.rowsN (by omega) ?_; conv => whnf) | (refine WCall.pure (c_Thin l cs wr off) ?_; conv => whnf) | (refine WCall.pure (c_Fault l cs wr off) ?_; conv => whnf)
    exact Fin.b rfl (by unfold readyB; rw [h]; rfl)
  · repeat' first | ((with_reducible apply WB.tt); conv => whnf) | ((with_reducible apply WB.ff); conv => whnf) | (refine Rn.seq ?_; conv => whnf) | (refine Rn.reg ?_; conv => whnf) | (refine Rn.drw ?_; conv => whnf) | (refine Rn.blk ?_; conv => whnf) | (refine Rn.skip ?_; conv => whnf) | (refine Rn.ret ?_; conv => whnf) | (refine Rn.exit ?_; conv => whnf) | (refine Rn.cond rfl ?_; conv => whnf) | (refine And.intro (InR.i64 (by omega) (by omega)) ?_; conv => whnf) | (refine And.intro (show _ ≠ (0 : Int) by omega) ?_; conv => whnf) | (refine WIx.intsN (by omega) ?_; conv => whnf) | (refine WIx.rowsN (by omega) ?_; conv => whnf)
    exact Fin.b rfl (by unfold readyB; rw [h]; rfl)
theorem ready_spec {l : List Int} {cs : List Cnt} {wr off : Int} (h : readyB l cs wr off = true) : thinB l cs wr off = true ∧ faultR l cs wr off = 0 := by
  unfold readyB at h
  rw [Bool.and_eq_true, decide_eq_true_iff] at h
  exact h
def pA (n : Nat) (a b : Int) : Int := min (a.tmod n) (b.tmod n)
def pB (n : Nat) (a b : Int) : Int := max (a.tmod n) (b.tmod n)
theorem parted_spec {n : Nat} {a b : Int} (hn : 0 < n) (ha : 0 ≤ a) (hb : 0 ≤ b) : 0 ≤ pA n a b ∧ pA n a b ≤ pB n a b ∧ pB n a b < n := by
  have h1 := Int.tmod_nonneg (n : Int) ha
  have h2 := Int.tmod_nonneg (n : Int) hb
  have h3 := Int.tmod_lt_of_pos a (show (0 : Int) < n by omega)
  have h4 := Int.tmod_lt_of_pos b (show (0 : Int) < n by omega)
  unfold pA pB
  omega
theorem c_parted (l : List Int) (cs : List Cnt) (wr off a b : Int) (h0 : 0 < l.length) (hl : l.length ≤ 1000) (ha : 0 ≤ a ∧ a ≤ 255) (hb : 0 ≤ b ∧ b ≤ 255) : PureF Try.prog p53.ix [.ag [.lst 1 (ints l), .lst 3 (rows cntD cs), .i .i64 wr, .i .i64 off], .i .u8 a, .i .u8 b] (.tp [.i .i64 (pA l.length a b), .i .i64 (pB l.length a b)]) := by
  have e1 := ints_length l
  refine PureF.run fn52 (by simp) (by simp [PuL, PuE, Pu, pu_ints, pu_cnts]) ?_; conv => whnf
  repeat' first | ((with_reducible apply WB.tt); conv => whnf) | ((with_reducible apply WB.ff); conv => whnf) | (refine Rn.seq ?_; conv => whnf) | (refine Rn.reg ?_; conv => whnf) | (refine Rn.drw ?_; conv => whnf) | (refine Rn.blk ?_; conv => whnf) | (refine Rn.skip ?_; conv => whnf) | (refine Rn.ret ?_; conv => whnf) | (refine Rn.exit ?_; conv => whnf) | (refine Rn.cond rfl ?_; conv => whnf) | (refine And.intro (InR.i64 (by omega) (by omega)) ?_; conv => whnf) | (refine And.intro (show _ ≠ (0 : Int) by omega) ?_; conv => whnf) | (refine WIx.intsN (by omega) ?_; conv => whnf) | (refine WIx.rowsN (by omega) ?_; conv => whnf)
  unfold pA pB
  rw [← e1]
  exact Fin.two (.inr rfl) rfl rfl (.pu trivial) (.pu trivial)
/-! ### bounds -/
theorem foldmin_le : ∀ (L : List Int) (a : Int), L.foldl min a ≤ a ∧ ∀ x ∈ L, L.foldl min a ≤ x
  | [], a => ⟨Int.le_refl _, fun x h => by cases h⟩
  | b :: L, a => by
    obtain ⟨h1, h2⟩ := foldmin_le L (min a b)
    refine ⟨by show List.foldl min (min a b) L ≤ a; omega, fun x hx => ?_⟩
    show List.foldl min (min a b) L ≤ x
    rcases List.mem_cons.1 hx with rfl | hx
    · omega
    · exact h2 x hx
theorem foldmax_le : ∀ (L : List Int) (a : Int), a ≤ L.foldl max a ∧ ∀ x ∈ L, x ≤ L.foldl max a
  | [], a => ⟨Int.le_refl _, fun x h => by cases h⟩
  | b :: L, a => by
    obtain ⟨h1, h2⟩ := foldmax_le L (max a b)
    refine ⟨by show a ≤ List.foldl max (max a b) L; omega, fun x hx => ?_⟩
    show x ≤ List.foldl max (max a b) L
    rcases List.mem_cons.1 hx with rfl | hx
    · omega
    · exact h2 x hx
/-- What the bounds of a part are: reached, and never left. -/
theorem bnd_spec {R : List (List Int)} {f t : Int} (hne : R ≠ []) (hb : ∀ x ∈ R, 0 ≤ sumT f t x ∧ sumT f t x ≤ 9) :
    (∀ x ∈ R, loR f t R ≤ sumT f t x ∧ sumT f t x ≤ hiR f t R) ∧ (∃ x ∈ R, sumT f t x = loR f t R) ∧ (∃ x ∈ R, sumT f t x = hiR f t R) := by
  have e1 : loR f t R = (R.map (sumT f t)).foldl min 1099511627776 := by rw [List.foldl_map]; rfl
  have e2 : hiR f t R = (R.map (sumT f t)).foldl max (-1) := by rw [List.foldl_map]; rfl
  have h1 : ∀ x ∈ R, loR f t R ≤ sumT f t x ∧ sumT f t x ≤ hiR f t R := fun x hx => by
    rw [e1, e2]
    exact ⟨(foldmin_le _ _).2 _ (List.mem_map.2 ⟨x, hx, rfl⟩), (foldmax_le _ _).2 _ (List.mem_map.2 ⟨x, hx, rfl⟩)⟩
  obtain ⟨y, hy⟩ := List.exists_mem_of_ne_nil _ hne
  refine ⟨h1, ?_, ?_⟩
  · rcases foldmin_mem (L := R.map (sumT f t)) (a := 1099511627776) with h | h
    · have := (h1 y hy).1; have := (hb y hy).2; omega
    · obtain ⟨x, hx, he⟩ := List.mem_map.1 h
      exact ⟨x, hx, by rw [he, e1]⟩
  · rcases foldmax_mem (L := R.map (sumT f t)) (a := -1) with h | h
    · have := (h1 y hy).2; have := (hb y hy).1; omega
    · obtain ⟨x, hx, he⟩ := List.mem_map.1 h
      exact ⟨x, hx, by rw [he, e2]⟩
section
variable {l : List Int} {cs : List Cnt} {wr off f t : Int}
theorem startE_in (hF : faultR l cs wr off = 0) (h0 : 0 ≤ f) (h1 : f ≤ t) (h2 : t < l.length) : startE l cs wr off f t = if truR l cs wr off = [] then 11 else 0 := by
  obtain ⟨f1, f2, f3, f4⟩ := fault0 hF
  unfold startE
  rw [if_pos hF, if_pos (by unfold inB; rw [decide_eq_true (by omega), decide_eq_true h2]; rfl)]
  simp only [truths_nil f2]
theorem sum_bd (hF : faultR l cs wr off = 0) (h0 : 0 ≤ f) (h1 : f ≤ t + 1) (h2 : t < l.length) : ∀ x ∈ truR l cs wr off, 0 ≤ sumT f t x ∧ sumT f t x ≤ 9 := fun x hx => by
  obtain ⟨f1, f2, f3, f4⟩ := fault0 hF
  obtain ⟨q1, q2⟩ := truR_mem x hx
  have := sumP_bd q2 f.toNat (t + 1 - f).toNat (by omega)
  unfold sumT
  omega
end
theorem c_Chairs11 (l : List Int) (cs : List Cnt) (wr off f t : Int) (hF : faultR l cs wr off = 0) (h0 : 0 ≤ f) (h1 : f ≤ t) (h2 : t < l.length) (hT : truR l cs wr off = []) : PureF Try.prog p30.ix [.ag [.lst 1 (ints l), .lst 3 (rows cntD cs), .i .i64 wr, .i .i64 off], .i .i64 f, .i .i64 t] (.tp [.ag [.i .i64 0, .i .i64 0], .i .i64 11]) := by
  have cC := c_Chairs l cs wr off f t
  unfold chLo chHi at cC
  rwa [startE_in hF h0 h1 h2, if_pos hT, if_neg (by omega), if_neg (by omega)] at cC
theorem c_Chairs0 (l : List Int) (cs : List Cnt) (wr off f t : Int) (hF : faultR l cs wr off = 0) (h0 : 0 ≤ f) (h1 : f ≤ t) (h2 : t < l.length) (hT : ¬ truR l cs wr off = []) : PureF Try.prog p30.ix [.ag [.lst 1 (ints l), .lst 3 (rows cntD cs), .i .i64 wr, .i .i64 off], .i .i64 f, .i .i64 t] (.tp [.ag [.i .i64 (loR f t (truR l cs wr off)), .i .i64 (hiR f t (truR l cs wr off))], .i .i64 0]) := by
  have cC := c_Chairs l cs wr off f t
  have hE : startE l cs wr off f t = 0 := by rw [startE_in hF h0 h1 h2, if_neg hT]
  obtain ⟨q1, q2⟩ := ch_ref l cs wr off f t hE
  rwa [q1, q2, hE] at cC
/-! ### Ends -/
theorem any_take_succ {α : Type} {l : List α} {p : α → Bool} {i : Nat} {d : α} (h : i < l.length) : (l.take (i + 1)).any p = ((l.take i).any p || p (l.getD i d)) := by
  rw [take_succ_getD (d := d) h, List.any_append]
  simp
theorem c_CountEnds (l : List Int) (cs : List Cnt) (wr off a b : Int) (ha : 0 ≤ a ∧ a ≤ 255) (hb : 0 ≤ b ∧ b ≤ 255) (AW : PureF Try.prog p20.ix [] (.b true)) :
    PureF Try.prog p11.ix [.ag [.lst 1 (ints l), .lst 3 (rows cntD cs), .i .i64 wr, .i .i64 off], .i .u8 a, .i .u8 b] (.b true) := by
  have e1 := ints_length l
  refine PureF.run fn10 (by simp) (by simp [PuL, PuE, Pu, pu_ints, pu_cnts]) ?_; conv => whnf
  repeat' first | ((with_reducible apply WB.tt); conv => whnf) | ((with_reducible apply WB.ff); conv => whnf) | (refine Rn.seq ?_; conv => whnf) | (refine Rn.reg ?_; conv => whnf) | (refine Rn.drw ?_; conv => whnf) | (refine Rn.blk ?_; conv => whnf) | (refine Rn.skip ?_; conv => whnf) | (refine Rn.ret ?_; conv => whnf) | (refine Rn.exit ?_; conv => whnf) | (refine Rn.cond rfl ?_; conv => whnf) | (refine And.intro (InR.i64 (by omega) (by omega)) ?_; conv => whnf) | (refine And.intro (show _ ≠ (0 : Int) by omega) ?_; conv => whnf) | (refine WIx.intsN (by omega) ?_; conv => whnf) | (refine WIx.rowsN (by omega) ?_; conv => whnf) | (refine WCall.pure (c_ready l cs wr off) ?_; conv => whnf) | (refine WCall.pure (AW) ?_; conv => whnf) | ((with_reducible refine WB.dec (fun h => ?_) (fun h => ?_)) <;> conv => whnf) | ((with_reducible refine WB.ndec (fun h => ?_) (fun h => ?_)) <;> conv => whnf) | (refine WB.mk (fun h => ?_) (fun h => ?_) <;> conv => whnf)
  · exact Fin.b rfl rfl
  have h1 : readyB l cs wr off = true := by
    have : (!readyB l cs wr off) = false := by assumption
    simpa using this
  obtain ⟨h1, hF⟩ := ready_spec h1
  obtain ⟨f1, f2, f3, f4⟩ := fault0 hF
  obtain ⟨g1, g2, g3⟩ := parted_spec f1 ha.1 hb.1
  have cR := c_Row l cs wr off (by omega) (by omega)
  have cP := c_parted l cs wr off a b f1 (by omega) ha hb
  have cT := c_Truths l cs wr off f2 f4 (by omega)
  generalize pA l.length a b = A at *
  generalize pB l.length a b = B at *
  clear h1
  by_cases hT : truR l cs wr off = []
  · have cC := c_Chairs11 l cs wr off A B hF g1 g2 g3 hT
    rw [hT] at cT
    have e0 : (rows tD []).length = 0 := rfl
    repeat' first | ((with_reducible apply WB.tt); conv => whnf) | ((with_reducible apply WB.ff); conv => whnf) | (refine Rn.seq ?_; conv => whnf) | (refine Rn.reg ?_; conv => whnf) | (refine Rn.drw ?_; conv => whnf) | (refine Rn.blk ?_; conv => whnf) | (refine Rn.skip ?_; conv => whnf) | (refine Rn.ret ?_; conv => whnf) | (refine Rn.exit ?_; conv => whnf) | (refine Rn.cond rfl ?_; conv => whnf) | (refine And.intro (InR.i64 (by omega) (by omega)) ?_; conv => whnf) | (refine And.intro (show _ ≠ (0 : Int) by omega) ?_; conv => whnf) | (refine WIx.intsN (by omega) ?_; conv => whnf) | (refine WIx.rowsN (by omega) ?_; conv => whnf) | (refine WCall.pure (cR) ?_; conv => whnf) | (refine WCall.pure (cP) ?_; conv => whnf) | (refine WCall.pure (cC) ?_; conv => whnf) | (refine WCall.pure (cT) ?_; conv => whnf) | (refine WCall.pure (AW) ?_; conv => whnf) | ((with_reducible refine WB.decT (by first | with_reducible rfl | assumption | omega | exact ⟨rfl, rfl⟩) ?_); conv => whnf) | ((with_reducible refine WB.decF (by first | assumption | omega) ?_); conv => whnf) | ((with_reducible refine WB.ndT (by first | with_reducible rfl | assumption | omega | exact ⟨rfl, rfl⟩) ?_); conv => whnf) | ((with_reducible refine WB.ndF (by first | assumption | omega) ?_); conv => whnf) | ((with_reducible refine WB.nt ?_); conv => whnf) | ((with_reducible refine WB.nf ?_); conv => whnf) | ((with_reducible refine WB.dec (fun h => ?_) (fun h => ?_)) <;> conv => whnf) | ((with_reducible refine WB.ndec (fun h => ?_) (fun h => ?_)) <;> conv => whnf) | (refine WB.mk (fun h => ?_) (fun h => ?_) <;> conv => whnf)
    exact Fin.b rfl rfl
  · have cC := c_Chairs0 l cs wr off A B hF g1 g2 g3 hT
    have hbd := sum_bd (cs := cs) (wr := wr) (off := off) hF g1 (by omega : A ≤ B + 1) g3
    obtain ⟨k1, ⟨x1, k2, k3⟩, ⟨x2, k4, k5⟩⟩ := bnd_spec hT hbd
    have hR := truR_len l cs wr off f2
    have hx : ∀ x ∈ truR l cs wr off, x.length = l.length ∧ Bits x := fun x hx => truR_mem x hx
    generalize truR l cs wr off = R at *
    generalize loR A B R = lo at *
    generalize hiR A B R = hi at *
    have e2 := rows_length tD R
    repeat' first | ((with_reducible apply WB.tt); conv => whnf) | ((with_reducible apply WB.ff); conv => whnf) | (refine Rn.seq ?_; conv => whnf) | (refine Rn.reg ?_; conv => whnf) | (refine Rn.drw ?_; conv => whnf) | (refine Rn.blk ?_; conv => whnf) | (refine Rn.skip ?_; conv => whnf) | (refine Rn.ret ?_; conv => whnf) | (refine Rn.exit ?_; conv => whnf) | (refine Rn.cond rfl ?_; conv => whnf) | (refine And.intro (InR.i64 (by omega) (by omega)) ?_; conv => whnf) | (refine And.intro (show _ ≠ (0 : Int) by omega) ?_; conv => whnf) | (refine WIx.intsN (by omega) ?_; conv => whnf) | (refine WIx.rowsN (by omega) ?_; conv => whnf) | (refine WCall.pure (cR) ?_; conv => whnf) | (refine WCall.pure (cP) ?_; conv => whnf) | (refine WCall.pure (cC) ?_; conv => whnf) | (refine WCall.pure (cT) ?_; conv => whnf) | (refine WCall.pure (AW) ?_; conv => whnf) | ((with_reducible refine WB.decT (by first | with_reducible rfl | assumption | omega | exact ⟨rfl, rfl⟩) ?_); conv => whnf) | ((with_reducible refine WB.decF (by first | assumption | omega) ?_); conv => whnf) | ((with_reducible refine WB.ndT (by first | with_reducible rfl | assumption | omega | exact ⟨rfl, rfl⟩) ?_); conv => whnf) | ((with_reducible refine WB.ndF (by first | assumption | omega) ?_); conv => whnf) | ((with_reducible refine WB.nt ?_); conv => whnf) | ((with_reducible refine WB.nf ?_); conv => whnf) | ((with_reducible refine WB.dec (fun h => ?_) (fun h => ?_)) <;> conv => whnf) | ((with_reducible refine WB.ndec (fun h => ?_) (fun h => ?_)) <;> conv => whnf) | (refine WB.mk (fun h => ?_) (fun h => ?_) <;> conv => whnf)
    refine Rn.loop (fun s : Nat × Bool × Bool => ⟨(.n (.n (.n (.n .e (some (.i .i64 A)) .e) none (.n .e (some (.lst 1 (rows tD R))) .e)) none (.n (.n .e (some (.pt (.o .h) 0 0)) .e) none (.n .e (some (.b s.2.2)) .e))) none (.n (.n (.n .e (some (.i .i64 B)) .e) none (.n .e (some (.b s.2.1)) .e)) none (.n .e none (.n .e (some (.i .i64 (s.1 : Int))) .e)))), (.n (.n .e (some (.cells false [.o (.i .i64 lo) 0, .o (.i .i64 hi) 0] 1)) .e) none .e), .i .h, none⟩) (fun s => s.1 ≤ R.length ∧ s.2.1 = (R.take s.1).any (fun x => decide (sumT A B x = lo)) ∧ s.2.2 = (R.take s.1).any (fun x => decide (sumT A B x = hi))) (fun s => R.length - s.1) (0, false, false) ?_ ?_ ?_
    · (first | (refine X.le.mk ?_ ?_ (Nat.le_refl _) rfl rfl) | skip) <;> (repeat' first | exact T.le_e _ | refine T.le_some ?_ ?_ ?_ | refine T.le_none ?_ ?_ | rfl)
    · exact ⟨by simp, by simp, by simp⟩
    rintro ⟨j, u, v⟩ ⟨hj, hu, hv⟩
    have hj : j ≤ R.length := hj
    have hu : u = (R.take j).any (fun x => decide (sumT A B x = lo)) := hu
    have hv : v = (R.take j).any (fun x => decide (sumT A B x = hi)) := hv
    conv => whnf
    repeat' first | ((with_reducible apply WB.tt); conv => whnf) | ((with_reducible apply WB.ff); conv => whnf) | (refine Rn.seq ?_; conv => whnf) | (refine Rn.reg ?_; conv => whnf) | (refine Rn.drw ?_; conv => whnf) | (refine Rn.blk ?_; conv => whnf) | (refine Rn.skip ?_; conv => whnf) | (refine Rn.ret ?_; conv => whnf) | (refine Rn.exit ?_; conv => whnf) | (refine Rn.cond rfl ?_; conv => whnf) | (refine And.intro (InR.i64 (by omega) (by omega)) ?_; conv => whnf) | (refine And.intro (show _ ≠ (0 : Int) by omega) ?_; conv => whnf) | (refine WIx.intsN (by omega) ?_; conv => whnf) | (refine WIx.rowsN (by omega) ?_; conv => whnf)
    refine WB.dec (fun h => ?_) (fun h => ?_) <;> conv => whnf
    · have hlt : j < R.length := by omega
      obtain ⟨q1, q2⟩ := hx _ (getD_mem (d := default) hlt)
      have hu2 : (u || decide (sumT A B (R.getD j default) = lo)) = (R.take (j + 1)).any (fun x => decide (sumT A B x = lo)) := by
        rw [any_take_succ (d := default) hlt, hu]
      have hv2 : (v || decide (sumT A B (R.getD j default) = hi)) = (R.take (j + 1)).any (fun x => decide (sumT A B x = hi)) := by
        rw [any_take_succ (d := default) hlt, hv]
      clear hu hv
      repeat' first | ((with_reducible apply WB.tt); conv => whnf) | ((with_reducible apply WB.ff); conv => whnf) | (refine Rn.seq ?_; conv => whnf) | (refine Rn.reg ?_; conv => whnf) | (refine Rn.drw ?_; conv => whnf) | (refine Rn.blk ?_; conv => whnf) | (refine Rn.skip ?_; conv => whnf) | (refine Rn.ret ?_; conv => whnf) | (refine Rn.exit ?_; conv => whnf) | (refine Rn.cond rfl ?_; conv => whnf) | (refine And.intro (InR.i64 (by omega) (by omega)) ?_; conv => whnf) | (refine And.intro (show _ ≠ (0 : Int) by omega) ?_; conv => whnf) | (refine WIx.intsN (by omega) ?_; conv => whnf) | (refine WIx.rowsN (by omega) ?_; conv => whnf) | (refine WCall.pure (c_SumT (R.getD j default) A B q2 (by omega) g1 (by omega) (by omega)) ?_; conv => whnf)
      cases u <;> cases v
      all_goals
        repeat' first | ((with_reducible apply WB.tt); conv => whnf) | ((with_reducible apply WB.ff); conv => whnf) | (refine Rn.seq ?_; conv => whnf) | (refine Rn.reg ?_; conv => whnf) | (refine Rn.drw ?_; conv => whnf) | (refine Rn.blk ?_; conv => whnf) | (refine Rn.skip ?_; conv => whnf) | (refine Rn.ret ?_; conv => whnf) | (refine Rn.exit ?_; conv => whnf) | (refine Rn.cond rfl ?_; conv => whnf) | (refine And.intro (InR.i64 (by omega) (by omega)) ?_; conv => whnf) | (refine And.intro (show _ ≠ (0 : Int) by omega) ?_; conv => whnf) | (refine WIx.intsN (by omega) ?_; conv => whnf) | (refine WIx.rowsN (by omega) ?_; conv => whnf)
        refine Again.to (j + 1, _, _) (show R.length - (j + 1) < R.length - j by omega) ⟨show j + 1 ≤ R.length by omega, hu2, hv2⟩ (Nat.le_refl _) ?_
        (refine Shr.of ?_ ?_ rfl rfl) <;> (repeat' first | exact Rel.e | refine Rel.some ?_ ?_ ?_ | refine Rel.none ?_ ?_) <;> (try first | (show Fz _ _ _ _; first | exact Fz.pu trivial | (refine Fz.i ?_; first | rfl | omega) | (refine Fz.kpt ?_; (focus (show Pos.nat _ < Pos.nat _; simp [Pos.nat]; done))) | (refine Fz.ksl ?_; (focus (show Pos.nat _ < Pos.nat _; simp [Pos.nat]; done))) | (refine Fz.kmp ?_; (focus (show Pos.nat _ < Pos.nat _; simp [Pos.nat]; done))) | (refine Fz.pu ?_; simp [Cell.d, Pu, PuL, PuE, pu_ints, pu_cnts, pu_tR]; done) | (refine Fz.pu ?_; simp only [Cell.d]; assumption)) | (refine RO'.of ?_ (ShC.same ?_); (focus (show Pos.nat _ < Pos.nat _; simp [Pos.nat]; done)); (repeat' first | exact ShC.nl | refine ShC.cn ?_ ?_) <;> first | exact Fz.pu trivial | (refine Fz.i ?_; first | rfl | omega) | (refine Fz.kpt ?_; (focus (show Pos.nat _ < Pos.nat _; simp [Pos.nat]; done))) | (refine Fz.ksl ?_; (focus (show Pos.nat _ < Pos.nat _; simp [Pos.nat]; done))) | (refine Fz.kmp ?_; (focus (show Pos.nat _ < Pos.nat _; simp [Pos.nat]; done))) | (refine Fz.pu ?_; simp [Cell.d, Pu, PuL, PuE, pu_ints, pu_cnts, pu_tR]; done) | (refine Fz.pu ?_; simp only [Cell.d]; assumption)))
        all_goals first | exact Fz.pu (pu_tR _) | skip
    · have hj2 : j = R.length := by omega
      have hu3 : u = true := by
        rw [hu, hj2, List.take_length, List.any_eq_true]
        exact ⟨x1, k2, decide_eq_true k3⟩
      have hv3 : v = true := by
        rw [hv, hj2, List.take_length, List.any_eq_true]
        exact ⟨x2, k4, decide_eq_true k5⟩
      subst hu3 hv3
      repeat' first | ((with_reducible apply WB.tt); conv => whnf) | ((with_reducible apply WB.ff); conv => whnf) | (refine Rn.seq ?_; conv => whnf) | (refine Rn.reg ?_; conv => whnf) | (refine Rn.drw ?_; conv => whnf) | (refine Rn.blk ?_; conv => whnf) | (refine Rn.skip ?_; conv => whnf) | (refine Rn.ret ?_; conv => whnf) | (refine Rn.exit ?_; conv => whnf) | (refine Rn.cond rfl ?_; conv => whnf) | (refine And.intro (InR.i64 (by omega) (by omega)) ?_; conv => whnf) | (refine And.intro (show _ ≠ (0 : Int) by omega) ?_; conv => whnf) | (refine WIx.intsN (by omega) ?_; conv => whnf) | (refine WIx.rowsN (by omega) ?_; conv => whnf) | (refine WCall.pure (AW) ?_; conv => whnf)
      exact Fin.b rfl rfl
theorem main_countEnds (AW : PureF Try.prog p20.ix [] (.b true)) {es : List D} (fit : FitP [(true, [.sl [.i .i64], .sl [.b, .i .i64, .i .i64], .i .i64, .i .i64]), (false, [.i .u8]), (false, [.i .u8])] es) : PureF Try.prog 10 es (.b true) := by
  obtain ⟨l, cs, wr, off, _, rfl, g1⟩ := fit.row
  obtain ⟨f, _, rfl, w1, g2⟩ := g1.i
  obtain ⟨t, _, rfl, w2, g3⟩ := g2.i
  obtain rfl := g3.no
  exact c_CountEnds l cs wr off f t (wf_u8 w1) (wf_u8 w2) AW
/-! ### Parts -/
theorem sumP_add (l : List Int) (f m n : Nat) : sumP l f (m + n) = sumP l f m + sumP l (f + m) n := by
  unfold sumP
  rw [List.take_add, List.sum_append, List.drop_drop]
theorem sumT_add (x : List Int) {a k b : Int} (h0 : 0 ≤ a) (h1 : a ≤ k + 1) (h2 : k ≤ b) : sumT a b x = sumT a k x + sumT (k + 1) b x := by
  unfold sumT
  rw [show (b + 1 - a).toNat = (k + 1 - a).toNat + (b + 1 - (k + 1)).toNat by omega, sumP_add, show a.toNat + (k + 1 - a).toNat = (k + 1).toNat by omega]
theorem c_CountParts (l : List Int) (cs : List Cnt) (wr off a b at' : Int) (ha : 0 ≤ a ∧ a ≤ 255) (hb : 0 ≤ b ∧ b ≤ 255) (hc : 0 ≤ at' ∧ at' ≤ 255) (AW : PureF Try.prog p20.ix [] (.b true)) :
    PureF Try.prog p14.ix [.ag [.lst 1 (ints l), .lst 3 (rows cntD cs), .i .i64 wr, .i .i64 off], .i .u8 a, .i .u8 b, .i .u8 at'] (.b true) := by
  have e1 := ints_length l
  refine PureF.run fn13 (by simp) (by simp [PuL, PuE, Pu, pu_ints, pu_cnts]) ?_; conv => whnf
  repeat' first | ((with_reducible apply WB.tt); conv => whnf) | ((with_reducible apply WB.ff); conv => whnf) | (refine Rn.seq ?_; conv => whnf) | (refine Rn.reg ?_; conv => whnf) | (refine Rn.drw ?_; conv => whnf) | (refine Rn.blk ?_; conv => whnf) | (refine Rn.skip ?_; conv => whnf) | (refine Rn.ret ?_; conv => whnf) | (refine Rn.exit ?_; conv => whnf) | (refine Rn.cond rfl ?_; conv => whnf) | (refine And.intro (InR.i64 (by omega) (by omega)) ?_; conv => whnf) | (refine And.intro (show _ ≠ (0 : Int) by omega) ?_; conv => whnf) | (refine WIx.intsN (by omega) ?_; conv => whnf) | (refine WIx.rowsN (by omega) ?_; conv => whnf) | (refine WCall.pure (c_ready l cs wr off) ?_; conv => whnf) | (refine WCall.pure (AW) ?_; conv => whnf) | ((with_reducible refine WB.dec (fun h => ?_) (fun h => ?_)) <;> conv => whnf) | ((with_reducible refine WB.ndec (fun h => ?_) (fun h => ?_)) <;> conv => whnf) | (refine WB.mk (fun h => ?_) (fun h => ?_) <;> conv => whnf)
  · exact Fin.b rfl rfl
  have h1 : readyB l cs wr off = true := by
    have : (!readyB l cs wr off) = false := by assumption
    simpa using this
  obtain ⟨h1, hF⟩ := ready_spec h1
  obtain ⟨f1, f2, f3, f4⟩ := fault0 hF
  obtain ⟨g1, g2, g3⟩ := parted_spec f1 ha.1 hb.1
  have cR := c_Row l cs wr off (by omega) (by omega)
  have cP := c_parted l cs wr off a b f1 (by omega) ha hb
  generalize pA l.length a b = A at *
  generalize pB l.length a b = B at *
  clear h1
  repeat' first | ((with_reducible apply WB.tt); conv => whnf) | ((with_reducible apply WB.ff); conv => whnf) | (refine Rn.seq ?_; conv => whnf) | (refine Rn.reg ?_; conv => whnf) | (refine Rn.drw ?_; conv => whnf) | (refine Rn.blk ?_; conv => whnf) | (refine Rn.skip ?_; conv => whnf) | (refine Rn.ret ?_; conv => whnf) | (refine Rn.exit ?_; conv => whnf) | (refine Rn.cond rfl ?_; conv => whnf) | (refine And.intro (InR.i64 (by omega) (by omega)) ?_; conv => whnf) | (refine And.intro (show _ ≠ (0 : Int) by omega) ?_; conv => whnf) | (refine WIx.intsN (by omega) ?_; conv => whnf) | (refine WIx.rowsN (by omega) ?_; conv => whnf) | (refine WCall.pure (cP) ?_; conv => whnf) | (refine WCall.pure (AW) ?_; conv => whnf) | ((with_reducible refine WB.decT (by first | with_reducible rfl | assumption | omega | exact ⟨rfl, rfl⟩) ?_); conv => whnf) | ((with_reducible refine WB.decF (by first | assumption | omega) ?_); conv => whnf) | ((with_reducible refine WB.ndT (by first | with_reducible rfl | assumption | omega | exact ⟨rfl, rfl⟩) ?_); conv => whnf) | ((with_reducible refine WB.ndF (by first | assumption | omega) ?_); conv => whnf) | ((with_reducible refine WB.nt ?_); conv => whnf) | ((with_reducible refine WB.nf ?_); conv => whnf) | ((with_reducible refine WB.dec (fun h => ?_) (fun h => ?_)) <;> conv => whnf) | ((with_reducible refine WB.ndec (fun h => ?_) (fun h => ?_)) <;> conv => whnf) | (refine WB.mk (fun h => ?_) (fun h => ?_) <;> conv => whnf)
  · exact Fin.b rfl rfl
  have hAB : A < B := by omega
  have m1 := Int.tmod_nonneg (B - A) hc.1
  have m2 := Int.tmod_lt_of_pos at' (show 0 < B - A by omega)
  generalize at'.tmod (B - A) = m at *
  by_cases hT : truR l cs wr off = []
  · have c1 := c_Chairs11 l cs wr off A (A + m) hF g1 (by omega) (by omega) hT
    have c2 := c_Chairs11 l cs wr off (A + m + 1) B hF (by omega) (by omega) (by omega) hT
    have c3 := c_Chairs11 l cs wr off A B hF g1 g2 g3 hT
    repeat' first | ((with_reducible apply WB.tt); conv => whnf) | ((with_reducible apply WB.ff); conv => whnf) | (refine Rn.seq ?_; conv => whnf) | (refine Rn.reg ?_; conv => whnf) | (refine Rn.drw ?_; conv => whnf) | (refine Rn.blk ?_; conv => whnf) | (refine Rn.skip ?_; conv => whnf) | (refine Rn.ret ?_; conv => whnf) | (refine Rn.exit ?_; conv => whnf) | (refine Rn.cond rfl ?_; conv => whnf) | (refine And.intro (InR.i64 (by omega) (by omega)) ?_; conv => whnf) | (refine And.intro (show _ ≠ (0 : Int) by omega) ?_; conv => whnf) | (refine WIx.intsN (by omega) ?_; conv => whnf) | (refine WIx.rowsN (by omega) ?_; conv => whnf) | (refine WCall.pure (cR) ?_; conv => whnf) | (refine WCall.pure (c1) ?_; conv => whnf) | (refine WCall.pure (c2) ?_; conv => whnf) | (refine WCall.pure (c3) ?_; conv => whnf) | (refine WCall.pure (AW) ?_; conv => whnf) | ((with_reducible refine WB.decT (by first | with_reducible rfl | assumption | omega | exact ⟨rfl, rfl⟩) ?_); conv => whnf) | ((with_reducible refine WB.decF (by first | assumption | omega) ?_); conv => whnf) | ((with_reducible refine WB.ndT (by first | with_reducible rfl | assumption | omega | exact ⟨rfl, rfl⟩) ?_); conv => whnf) | ((with_reducible refine WB.ndF (by first | assumption | omega) ?_); conv => whnf) | ((with_reducible refine WB.nt ?_); conv => whnf) | ((with_reducible refine WB.nf ?_); conv => whnf) | ((with_reducible refine WB.dec (fun h => ?_) (fun h => ?_)) <;> conv => whnf) | ((with_reducible refine WB.ndec (fun h => ?_) (fun h => ?_)) <;> conv => whnf) | (refine WB.mk (fun h => ?_) (fun h => ?_) <;> conv => whnf)
    exact Fin.b rfl rfl
  · have c1 := c_Chairs0 l cs wr off A (A + m) hF g1 (by omega) (by omega) hT
    have c2 := c_Chairs0 l cs wr off (A + m + 1) B hF (by omega) (by omega) (by omega) hT
    have c3 := c_Chairs0 l cs wr off A B hF g1 g2 g3 hT
    have hs : ∀ x, sumT A B x = sumT A (A + m) x + sumT (A + m + 1) B x := fun x => sumT_add x g1 (by omega) (by omega)
    have b1 := sum_bd (cs := cs) (wr := wr) (off := off) hF g1 (by omega : A ≤ (A + m) + 1) (by omega)
    have b2 := sum_bd (cs := cs) (wr := wr) (off := off) hF (by omega : 0 ≤ A + m + 1) (by omega : A + m + 1 ≤ B + 1) g3
    have b3 := sum_bd (cs := cs) (wr := wr) (off := off) hF g1 (by omega : A ≤ B + 1) g3
    obtain ⟨s1, ⟨_, i1, i2⟩, _, i3, i4⟩ := bnd_spec hT b1
    obtain ⟨s2, ⟨_, i5, i6⟩, _, i7, i8⟩ := bnd_spec hT b2
    obtain ⟨s3, ⟨x, k1, k2⟩, y, k3, k4⟩ := bnd_spec hT b3
    have q1 := s1 x k1
    have q2 := s2 x k1
    have q3 := hs x
    have q4 := s1 y k3
    have q5 := s2 y k3
    have q6 := hs y
    have v1 := b1 _ i1
    have v2 := b1 _ i3
    have v3 := b2 _ i5
    have v4 := b2 _ i7
    generalize loR A (A + m) (truR l cs wr off) = lo1 at *
    generalize hiR A (A + m) (truR l cs wr off) = hi1 at *
    generalize loR (A + m + 1) B (truR l cs wr off) = lo2 at *
    generalize hiR (A + m + 1) B (truR l cs wr off) = hi2 at *
    generalize loR A B (truR l cs wr off) = lo3 at *
    generalize hiR A B (truR l cs wr off) = hi3 at *
    have r1 : lo1 + lo2 ≤ lo3 := by omega
    have r2 : hi3 ≤ hi1 + hi2 := by omega
    have r3 : 0 ≤ lo1 ∧ lo1 ≤ 9 ∧ 0 ≤ hi1 ∧ hi1 ≤ 9 ∧ 0 ≤ lo2 ∧ lo2 ≤ 9 ∧ 0 ≤ hi2 ∧ hi2 ≤ 9 := by omega
    clear s1 s2 s3 q1 q2 q3 q4 q5 q6 v1 v2 v3 v4 b1 b2 b3 hs k2 k4 i2 i4 i6 i8
    repeat' first | ((with_reducible apply WB.tt); conv => whnf) | ((with_reducible apply WB.ff); conv => whnf) | (refine Rn.seq ?_; conv => whnf) | (refine Rn.reg ?_; conv => whnf) | (refine Rn.drw ?_; conv => whnf) | (refine Rn.blk ?_; conv => whnf) | (refine Rn.skip ?_; conv => whnf) | (refine Rn.ret ?_; conv => whnf) | (refine Rn.exit ?_; conv => whnf) | (refine Rn.cond rfl ?_; conv => whnf) | (refine And.intro (InR.i64 (by omega) (by omega)) ?_; conv => whnf) | (refine And.intro (show _ ≠ (0 : Int) by omega) ?_; conv => whnf) | (refine WIx.intsN (by omega) ?_; conv => whnf) | (refine WIx.rowsN (by omega) ?_; conv => whnf) | (refine WCall.pure (cR) ?_; conv => whnf) | (refine WCall.pure (c1) ?_; conv => whnf) | (refine WCall.pure (c2) ?_; conv => whnf) | (refine WCall.pure (c3) ?_; conv => whnf) | (refine WCall.pure (AW) ?_; conv => whnf) | ((with_reducible refine WB.decT (by first | with_reducible rfl | assumption | omega | exact ⟨rfl, rfl⟩) ?_); conv => whnf) | ((with_reducible refine WB.decF (by first | assumption | omega) ?_); conv => whnf) | ((with_reducible refine WB.ndT (by first | with_reducible rfl | assumption | omega | exact ⟨rfl, rfl⟩) ?_); conv => whnf) | ((with_reducible refine WB.ndF (by first | assumption | omega) ?_); conv => whnf) | ((with_reducible refine WB.nt ?_); conv => whnf) | ((with_reducible refine WB.nf ?_); conv => whnf) | ((with_reducible refine WB.dec (fun h => ?_) (fun h => ?_)) <;> conv => whnf) | ((with_reducible refine WB.ndec (fun h => ?_) (fun h => ?_)) <;> conv => whnf) | (refine WB.mk (fun h => ?_) (fun h => ?_) <;> conv => whnf)
    exact Fin.b rfl rfl
theorem main_countParts (AW : PureF Try.prog p20.ix [] (.b true)) {es : List D} (fit : FitP [(true, [.sl [.i .i64], .sl [.b, .i .i64, .i .i64], .i .i64, .i .i64]), (false, [.i .u8]), (false, [.i .u8]), (false, [.i .u8])] es) : PureF Try.prog 13 es (.b true) := by
  obtain ⟨l, cs, wr, off, _, rfl, g1⟩ := fit.row
  obtain ⟨f, _, rfl, w1, g2⟩ := g1.i
  obtain ⟨t, _, rfl, w2, g3⟩ := g2.i
  obtain ⟨k, _, rfl, w3, g4⟩ := g3.i
  obtain rfl := g4.no
  exact c_CountParts l cs wr off f t k (wf_u8 w1) (wf_u8 w2) (wf_u8 w3) AW
end Go.Ev
