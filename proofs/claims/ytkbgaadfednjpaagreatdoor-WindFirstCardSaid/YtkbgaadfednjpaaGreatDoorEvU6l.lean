import Derived.Test.YtkbgaadfednjpaaGreatDoorEvUS4T
set_option linter.all false
set_option maxHeartbeats 8000000
noncomputable section
namespace Go.Ev
open Go.Proofs
set_option maxRecDepth 100000
theorem Eh {b : Bh} (V : VW b) {n : Nat} (h : wP b = some n) : n < b.nts.length ∧ dJ (rH b n) = true ∧ dJ (rH b (n + 1)) = false := by
  obtain ⟨h1, h2, h3⟩ := vQ h
  refine ⟨h1, ?_, by simpa using h2⟩
  cases n with
  | zero => exact yU V
  | succ i => simpa using h3 i (Nat.lt_succ_self i)
theorem FQ {b : Bh} (V : VW b) (h : wP b = none) : dJ b = true := by
  cases hl : b.nts.length with
  | zero => have := yU V; rwa [show rH b 0 = b by have := CV b; rwa [hl] at this] at this
  | succ i =>
    have h1 := List.find?_eq_none.1 h i (List.mem_range.2 (by omega))
    have e : rH b (i + 1) = b := by have := CV b; rwa [hl] at this
    rw [e] at h1
    simpa using h1
theorem ThF.tk {b : Bh} (F : ThF b) (n : Nat) : ThF (rH b n) := ⟨F.l1, F.l2, F.l3, F.l4, by show (b.nts.take n).length ≤ 1000; rw [List.length_take]; have := F.l5; omega, F.l6⟩
theorem Dw {b : Bh} (hf : aR b = 0) (n : Nat) : aR (rH b n) = 0 := by
  have Z := dM hf
  exact BH (Z.v.tk n) Z.l4 (by show (b.nts.take n).length ≤ 5; rw [List.length_take]; have := Z.l5; omega)
set_option maxHeartbeats 8000000 in
theorem vT (b : Bh) (AW : PureF Tryz.prog p22.ix [] (.b true)) : PureF Tryz.prog p18.ix [.ag (dR b)] (.b true) := by
  have cR := Eo b
  have e1 := aK bC b.nts
  refine PureF.run NF (by simp) (by simp [aO, cZ, Pu, aM]) ?_; conv => whnf
  cases hR : (kK b && decide (aR b = 0)) with
  | false =>
    rw [hR] at cR
    repeat' first | ((first | refine Qz ?_ | refine Qf (cR) ?_ | refine Qf (AW) ?_ | with_reducible (first | refine Qm ?_ | refine Qn ?_ | refine Qo ?_ | refine Qp ?_ | refine WB.nt ?_ | refine WB.nf ?_ | refine WB.dec (fun h => ?_) (fun h => ?_) | refine WB.ndec (fun h => ?_) (fun h => ?_)) | refine WB.mk (fun h => ?_) (fun h => ?_)) <;> conv => whnf) | (refine WB.tt ?_; conv => whnf) | (refine WB.ff ?_; conv => whnf)
    exact Fin.b rfl rfl
  | true =>
  rw [hR] at cR
  obtain ⟨hTh, hf⟩ : kK b = true ∧ aR b = 0 := by simpa using hR
  have F := (Bv hTh).f
  have cB := zP b F.l1 F.l2 F.l3 F.l4 F.l5 F.l6
  have cI := ES b F.l1 F.l2 F.l3 F.l6
  have Z := dM hf
  have V := Z.v
  have h5 := Z.l5
  unfold EW Eg at cI
  rw [if_pos hf, if_pos hf] at cI
  cases hE : wP b with
  | none =>
    have cT := lG b F hf
    rw [FQ V hE, if_pos rfl] at cT
    rw [hE] at cI
    have cI : PureF Tryz.prog p53.ix [.ag (dR b)] (.tp [.i .i64 0, .i .i64 7]) := cI
    repeat' first | ((first | refine Qz ?_ | refine Qf (cR) ?_ | refine Qf (cB) ?_ | refine Qf (cI) ?_ | refine Qf (cT) ?_ | refine Qf (AW) ?_ | with_reducible (first | refine Qm ?_ | refine Qn ?_ | refine Qo ?_ | refine Qp ?_ | refine WB.nt ?_ | refine WB.nf ?_ | refine WB.dec (fun h => ?_) (fun h => ?_) | refine WB.ndec (fun h => ?_) (fun h => ?_)) | refine WB.mk (fun h => ?_) (fun h => ?_)) <;> conv => whnf) | (refine WB.tt ?_; conv => whnf) | (refine WB.ff ?_; conv => whnf)
    all_goals first | exact Fin.b rfl rfl | exact absurd h (by decide)
  | some n =>
    obtain ⟨hn, t1, t2⟩ := Eh V hE
    rw [hE] at cI
    have cI : PureF Tryz.prog p53.ix [.ag (dR b)] (.tp [.i .i64 (n : Int), .i .i64 0]) := cI
    have hp := Nat.two_pow_pos n
    have hq := Ey (show n ≤ 5 by omega)
    have cN := yD (n : Int) 0 (((aD bC b.nts).length : Int) - 1)
    rw [show iH (n : Int) 0 (((aD bC b.nts).length : Int) - 1) = true from by unfold iH; exact decide_eq_true (by omega)] at cN
    have s1 := yX b (2 ^ n - 1) (by omega) (by omega)
    have s2 := yX b (2 ^ (n + 1) - 1) (by rw [Nat.pow_succ]; omega) (by omega)
    rw [En] at s1 s2
    have k1 := lG (rH b n) (F.tk n) (Dw hf n)
    have k2 := lG (rH b (n + 1)) (F.tk _) (Dw hf _)
    rw [t1, if_pos rfl] at k1
    rw [t2, if_neg (by decide)] at k2
    have e3 : ((1 * 2 ^ n : Nat) : Int) - 1 = ((2 ^ n - 1 : Nat) : Int) := by omega
    have e4 : ((2 * 2 ^ n : Nat) : Int) - 1 = ((2 ^ (n + 1) - 1 : Nat) : Int) := by rw [Nat.pow_succ]; omega
    repeat' first | ((first | refine Qz ?_ | refine Qf (cR) ?_ | refine Qf (cB) ?_ | refine Qf (cI) ?_ | refine Qf (cN) ?_ | refine And.intro (InR.u64 (by omega) (by omega)) ?_ | with_reducible (first | refine Qm ?_ | refine Qn ?_ | refine Qo ?_ | refine Qp ?_ | refine WB.nt ?_ | refine WB.nf ?_ | refine WB.dec (fun h => ?_) (fun h => ?_) | refine WB.ndec (fun h => ?_) (fun h => ?_)) | refine WB.mk (fun h => ?_) (fun h => ?_)) <;> conv => whnf) | (refine WB.tt ?_; conv => whnf) | (refine WB.ff ?_; conv => whnf)
    refine WSt.shlU (kk := .u64) (a := 1) (j := n) (by rfl) (by rfl) (by omega) (by omega) ?_; conv => whnf
    refine And.intro (InR.i64 (by omega) (by omega)) ?_; conv => whnf
    rw [e3]
    repeat' first | ((first | refine Qz ?_ | refine Qf (s1) ?_ | refine Qf (k1) ?_ | refine And.intro (InR.u64 (by omega) (by omega)) ?_ | with_reducible (first | refine Qm ?_ | refine Qn ?_ | refine Qo ?_ | refine Qp ?_ | refine WB.nt ?_ | refine WB.nf ?_ | refine WB.dec (fun h => ?_) (fun h => ?_) | refine WB.ndec (fun h => ?_) (fun h => ?_)) | refine WB.mk (fun h => ?_) (fun h => ?_)) <;> conv => whnf) | (refine WB.tt ?_; conv => whnf) | (refine WB.ff ?_; conv => whnf)
    refine WSt.shlU (kk := .u64) (a := 2) (j := n) (by rfl) (by rfl) (by omega) (by omega) ?_; conv => whnf
    repeat' first | ((first | refine Qz ?_ | with_reducible (first | refine Qm ?_ | refine Qn ?_ | refine Qo ?_ | refine Qp ?_ | refine WB.nt ?_ | refine WB.nf ?_ | refine WB.dec (fun h => ?_) (fun h => ?_) | refine WB.ndec (fun h => ?_) (fun h => ?_)) | refine WB.mk (fun h => ?_) (fun h => ?_)) <;> conv => whnf) | (refine WB.tt ?_; conv => whnf) | (refine WB.ff ?_; conv => whnf)
    rw [e4]
    repeat' first | ((first | refine Qz ?_ | refine Qf (s2) ?_ | refine Qf (k2) ?_ | refine Qf (AW) ?_ | with_reducible (first | refine Qm ?_ | refine Qn ?_ | refine Qo ?_ | refine Qp ?_ | refine WB.nt ?_ | refine WB.nf ?_ | refine WB.dec (fun h => ?_) (fun h => ?_) | refine WB.ndec (fun h => ?_) (fun h => ?_)) | refine WB.mk (fun h => ?_) (fun h => ?_)) <;> conv => whnf) | (refine WB.tt ?_; conv => whnf) | (refine WB.ff ?_; conv => whnf)
    exact Fin.b rfl rfl
theorem main_windFirst (AW : PureF Tryz.prog p22.ix [] (.b true)) {es : List D} (fit : FitP [(true, [.i .i64, .i .i64, .i .i64, .i .i64, .sl [.i .i64], .sl [.i .i64], .sl [.sl [.i .i64]], .sl [.i .i64, .i .i64], .sl [.i .i64, .i .i64]])] es) : PureF Tryz.prog 17 es (.b true) := by
  obtain ⟨b, _, rfl, hb, g1⟩ := fit.beachW
  obtain rfl := g1.no
  exact vT b AW
end Go.Ev
end
