/-
  The law TokenPlays answers true, whatever the book and the list of lines, and leaves memory as it was. Conditions: none.
-/
import Derived.Test.YtjgbfnciedkafaaEvJf
import Derived.Test.YtjgbfnciedkafaaEvFt
import Derived.Test.YtjgbfnciedkafaaRows
import Derived.WalkKit
import Derived.ProofKit
import Derived.OpenShut
import Derived.Test.YtjgbfnciedkafaaEvSc
import Derived.ShutString
import Derived.Test.YtjgbfnciedkafaaFaTokenPlays
set_option linter.all false
namespace Go.Ev
open Go.Proofs
set_option maxRecDepth 100000
/-! ### TokenPlays -/
theorem play_ref {n coin box : Int} {ls : List Ln} {cs : List Ct} {T : List Ln} (h0 : faultT n coin box ls cs = 0) (hF : followB n ls T = true) : playT n coin box ls cs T = ((List.range (T.length + 1)).map (monR box coin T), mixR T T.length, 0) := by
  have hl : T.length = ls.length := by
    unfold followB at hF
    rw [Bool.and_eq_true] at hF
    exact of_decide_eq_true hF.1
  have hfo : folF box coin n ls T = moF box coin T T.length := by unfold folF; rw [hF]; rfl
  unfold playT
  rw [if_pos h0, if_pos hF, hfo, ← hl, moF_le (Nat.le_refl _)]
  congr 1
  refine List.map_congr_left fun q hq => ?_
  have hq := List.mem_range.1 hq
  rw [moF_le (by omega)]
  rfl
set_option maxHeartbeats 4000000 in
theorem j_TokenPlays (n coin box : Int) (ls : List Ln) (cs : List Ct) (Tr : List Ln) (hw : ∀ r ∈ Tr, lnWf r) (AW : PureF Try.prog p22.ix [] (.b true)) : PureF Try.prog p4.ix [.ag [.i .i64 n, .i .i64 coin, .i .i64 box, .lst 3 (rows lnD ls), .lst 3 (rows ctD cs)], .lst 3 (rows lnD Tr)] (.b true) := by
  have e1 := rows_length lnD ls
  have e2 := rows_length lnD Tr
  have iT := j_Thin n coin box ls cs
  unfold bk5 at iT
  refine PureF.run fn3 (by simp) (by simp [PuL, PuE, Pu, pu_ints, pu_ln, pu_ct]) ?_; conv => whnf
  cases hT : thinT n coin box ls cs with
  | false =>
    rw [hT] at iT
    repeat' first | ((first | with_reducible apply WB.tt | with_reducible apply WB.ff | refine Rn.seq ?_ | refine Rn.reg ?_ | refine Rn.drw ?_ | refine Rn.blk ?_ | refine Rn.skip ?_ | refine Rn.ret ?_ | refine Rn.exit ?_ | refine Rn.cond rfl ?_ | refine And.intro (InR.i64 (by omega) (by omega)) ?_ | refine And.intro (show _ ≠ (0 : Int) by omega) ?_ | refine WIx.intsN (by omega) ?_ | refine WIx.rowsN (by omega) ?_ | refine WCall.pure (iT) ?_) <;> conv => whnf)
    refine WB.tt ?_; conv => whnf
    repeat' first | ((first | with_reducible apply WB.tt | with_reducible apply WB.ff | refine Rn.seq ?_ | refine Rn.reg ?_ | refine Rn.drw ?_ | refine Rn.blk ?_ | refine Rn.skip ?_ | refine Rn.ret ?_ | refine Rn.exit ?_ | refine Rn.cond rfl ?_ | refine And.intro (InR.i64 (by omega) (by omega)) ?_ | refine And.intro (show _ ≠ (0 : Int) by omega) ?_ | refine WIx.intsN (by omega) ?_ | refine WIx.rowsN (by omega) ?_ | refine WCall.pure (AW) ?_) <;> conv => whnf)
    exact Fin.b rfl rfl
  | true =>
    rw [hT] at iT
    have hT' := hT
    unfold thinT at hT'
    rw [Bool.and_eq_true, Bool.and_eq_true, decide_eq_true_iff, decide_eq_true_iff] at hT'
    obtain ⟨t1, t2, _⟩ := hT'
    repeat' first | ((first | with_reducible apply WB.tt | with_reducible apply WB.ff | refine Rn.seq ?_ | refine Rn.reg ?_ | refine Rn.drw ?_ | refine Rn.blk ?_ | refine Rn.skip ?_ | refine Rn.ret ?_ | refine Rn.exit ?_ | refine Rn.cond rfl ?_ | refine And.intro (InR.i64 (by omega) (by omega)) ?_ | refine And.intro (show _ ≠ (0 : Int) by omega) ?_ | refine WIx.intsN (by omega) ?_ | refine WIx.rowsN (by omega) ?_ | refine WCall.pure (iT) ?_) <;> conv => whnf)
    refine WB.ff ?_; conv => whnf
    repeat' first | ((first | with_reducible apply WB.tt | with_reducible apply WB.ff | refine Rn.seq ?_ | refine Rn.reg ?_ | refine Rn.drw ?_ | refine Rn.blk ?_ | refine Rn.skip ?_ | refine Rn.ret ?_ | refine Rn.exit ?_ | refine Rn.cond rfl ?_ | refine And.intro (InR.i64 (by omega) (by omega)) ?_ | refine And.intro (show _ ≠ (0 : Int) by omega) ?_ | refine WIx.intsN (by omega) ?_ | refine WIx.rowsN (by omega) ?_ | refine WCall.pure (iT) ?_) <;> conv => whnf)
    refine WB.dec (fun h => ?_) (fun h => ?_) <;> conv => whnf
    · repeat' first | ((first | with_reducible apply WB.tt | with_reducible apply WB.ff | refine Rn.seq ?_ | refine Rn.reg ?_ | refine Rn.drw ?_ | refine Rn.blk ?_ | refine Rn.skip ?_ | refine Rn.ret ?_ | refine Rn.exit ?_ | refine Rn.cond rfl ?_ | refine And.intro (InR.i64 (by omega) (by omega)) ?_ | refine And.intro (show _ ≠ (0 : Int) by omega) ?_ | refine WIx.intsN (by omega) ?_ | refine WIx.rowsN (by omega) ?_ | refine WCall.pure (AW) ?_) <;> conv => whnf)
      exact Fin.b rfl rfl
    have hT11 : Tr.length ≤ 11 := by omega
    have iB := j_Book n coin box ls cs (by omega) (by omega)
    have iTr := j_Truth Tr (by omega)
    have iP := j_Play n coin box ls cs Tr (by omega) hw
    have iV := j_Prove n coin box ls cs Tr (by omega) hw
    have iF := j_fault n coin box ls cs
    have iC := j_CheckBook n coin box ls cs
    unfold bk5 at iF
    by_cases h0 : faultT n coin box ls cs = 0
    · obtain ⟨f1, f2, f3, f4⟩ := fault_okT h0
      unfold vldT at f3
      simp only [Bool.and_eq_true] at f3
      obtain ⟨v1, v2, v3, v4, v5⟩ := f3
      have hn : 1 ≤ n ∧ n ≤ 4 := inR_iff.1 v1
      have hcn := inR_iff.1 v2
      have hbx := inR_iff.1 v3
      have hok : ∀ c ∈ cs, 0 ≤ c.a ∧ c.a ≤ ls.length := fun c hc => by
        have := List.all_eq_true.1 v5 c hc
        unfold ctOk at this
        rw [Bool.and_eq_true] at this
        exact inR_iff.1 this.1
      have hfr := follow_ref (T := Tr) hn v4
      rw [prove_ref h0] at iV
      have iR := j_IsRead n coin box ls cs Tr hn (by omega) (by omega)
      have iPo := j_IsPossible Tr (by omega)
      have iFi := j_Fits n coin box ls cs Tr hn hbx hcn (by omega) (by omega) (by omega) hok
      have iMx := j_Mixed Tr (by omega)
      unfold bk5 at iR iFi
      rw [h0] at iF iC
      cases hF : followB n ls Tr with
      | false =>
        have hp : playT n coin box ls cs Tr = ([], 0, 2) := by unfold playT; rw [if_pos h0, if_neg (by rw [hF]; simp)]
        have hfi : fitsB n coin box ls cs Tr = false := by
          unfold fitsB
          rw [← Bool.and_assoc, ← hfr, hF]; rfl
        rw [hp] at iP
        rw [hfi] at iV iFi
        rw [hF] at hfr
        generalize readB n ls Tr = R at *
        generalize possB Tr = Q at *
        cases R <;> cases Q
        · repeat' first | ((first | with_reducible apply WB.tt | with_reducible apply WB.ff | refine Rn.seq ?_ | refine Rn.reg ?_ | refine Rn.drw ?_ | refine Rn.blk ?_ | refine Rn.skip ?_ | refine Rn.ret ?_ | refine Rn.exit ?_ | refine Rn.cond rfl ?_ | refine And.intro (InR.i64 (by omega) (by omega)) ?_ | refine And.intro (show _ ≠ (0 : Int) by omega) ?_ | refine WIx.intsN (by omega) ?_ | refine WIx.rowsN (by omega) ?_ | refine WCall.pure (iB) ?_ | refine WCall.pure (iTr) ?_ | refine WCall.pure (iP) ?_ | refine WCall.pure (iV) ?_ | refine WCall.pure (iF) ?_ | refine WCall.pure (iC) ?_ | refine WCall.pure (iR) ?_ | refine WCall.pure (iPo) ?_ | refine WCall.pure (iFi) ?_ | refine WCall.pure (AW) ?_ | with_reducible refine WB.decT (by first | with_reducible rfl | assumption | omega | exact ⟨rfl, rfl⟩) ?_ | with_reducible refine WB.decF (by first | assumption | omega) ?_ | with_reducible refine WB.ndT (by first | with_reducible rfl | assumption | omega | exact ⟨rfl, rfl⟩) ?_ | with_reducible refine WB.ndF (by first | assumption | omega) ?_ | with_reducible refine WB.nt ?_ | with_reducible refine WB.nf ?_ | with_reducible refine WB.dec (fun h => ?_) (fun h => ?_) | with_reducible refine WB.ndec (fun h => ?_) (fun h => ?_) | refine WB.mk (fun h => ?_) (fun h => ?_)) <;> conv => whnf)
          all_goals first | exact Fin.b rfl rfl | (exfalso; simp [ints] at h; done) | (exfalso; clear iB iTr iP iV iF iC iR iPo iFi iMx AW iT; simp_all [rows]; done)
        · repeat' first | ((first | with_reducible apply WB.tt | with_reducible apply WB.ff | refine Rn.seq ?_ | refine Rn.reg ?_ | refine Rn.drw ?_ | refine Rn.blk ?_ | refine Rn.skip ?_ | refine Rn.ret ?_ | refine Rn.exit ?_ | refine Rn.cond rfl ?_ | refine And.intro (InR.i64 (by omega) (by omega)) ?_ | refine And.intro (show _ ≠ (0 : Int) by omega) ?_ | refine WIx.intsN (by omega) ?_ | refine WIx.rowsN (by omega) ?_ | refine WCall.pure (iB) ?_ | refine WCall.pure (iTr) ?_ | refine WCall.pure (iP) ?_ | refine WCall.pure (iV) ?_ | refine WCall.pure (iF) ?_ | refine WCall.pure (iC) ?_ | refine WCall.pure (iR) ?_ | refine WCall.pure (iPo) ?_ | refine WCall.pure (iFi) ?_ | refine WCall.pure (AW) ?_ | with_reducible refine WB.decT (by first | with_reducible rfl | assumption | omega | exact ⟨rfl, rfl⟩) ?_ | with_reducible refine WB.decF (by first | assumption | omega) ?_ | with_reducible refine WB.ndT (by first | with_reducible rfl | assumption | omega | exact ⟨rfl, rfl⟩) ?_ | with_reducible refine WB.ndF (by first | assumption | omega) ?_ | with_reducible refine WB.nt ?_ | with_reducible refine WB.nf ?_ | with_reducible refine WB.dec (fun h => ?_) (fun h => ?_) | with_reducible refine WB.ndec (fun h => ?_) (fun h => ?_) | refine WB.mk (fun h => ?_) (fun h => ?_)) <;> conv => whnf)
          all_goals first | exact Fin.b rfl rfl | (exfalso; simp [ints] at h; done) | (exfalso; clear iB iTr iP iV iF iC iR iPo iFi iMx AW iT; simp_all [rows]; done)
        · repeat' first | ((first | with_reducible apply WB.tt | with_reducible apply WB.ff | refine Rn.seq ?_ | refine Rn.reg ?_ | refine Rn.drw ?_ | refine Rn.blk ?_ | refine Rn.skip ?_ | refine Rn.ret ?_ | refine Rn.exit ?_ | refine Rn.cond rfl ?_ | refine And.intro (InR.i64 (by omega) (by omega)) ?_ | refine And.intro (show _ ≠ (0 : Int) by omega) ?_ | refine WIx.intsN (by omega) ?_ | refine WIx.rowsN (by omega) ?_ | refine WCall.pure (iB) ?_ | refine WCall.pure (iTr) ?_ | refine WCall.pure (iP) ?_ | refine WCall.pure (iV) ?_ | refine WCall.pure (iF) ?_ | refine WCall.pure (iC) ?_ | refine WCall.pure (iR) ?_ | refine WCall.pure (iPo) ?_ | refine WCall.pure (iFi) ?_ | refine WCall.pure (AW) ?_ | with_reducible refine WB.decT (by first | with_reducible rfl | assumption | omega | exact ⟨rfl, rfl⟩) ?_ | with_reducible refine WB.decF (by first | assumption | omega) ?_ | with_reducible refine WB.ndT (by first | with_reducible rfl | assumption | omega | exact ⟨rfl, rfl⟩) ?_ | with_reducible refine WB.ndF (by first | assumption | omega) ?_ | with_reducible refine WB.nt ?_ | with_reducible refine WB.nf ?_ | with_reducible refine WB.dec (fun h => ?_) (fun h => ?_) | with_reducible refine WB.ndec (fun h => ?_) (fun h => ?_) | refine WB.mk (fun h => ?_) (fun h => ?_)) <;> conv => whnf)
          all_goals first | exact Fin.b rfl rfl | (exfalso; simp [ints] at h; done) | (exfalso; clear iB iTr iP iV iF iC iR iPo iFi iMx AW iT; simp_all [rows]; done)
        · cases hfr
      | true =>
        have hl : Tr.length = ls.length := by
          have hF' := hF
          unfold followB at hF'
          rw [Bool.and_eq_true] at hF'
          exact of_decide_eq_true hF'.1
        rw [play_ref h0 hF] at iP
        rw [hF] at hfr
        have hRQ : readB n ls Tr = true ∧ possB Tr = true := by
          rw [← Bool.and_eq_true]; exact hfr.symm
        rw [hRQ.1] at iR
        rw [hRQ.2] at iPo
        have hEl : ((List.range (Tr.length + 1)).map (monR box coin Tr)).length = Tr.length + 1 := by simp
        have hEg : ∀ j, j < Tr.length + 1 → ((List.range (Tr.length + 1)).map (monR box coin Tr)).getD j 0 = monR box coin Tr j := fun j hj => by simp [List.getD, hj]
        generalize ((List.range (Tr.length + 1)).map (monR box coin Tr)) = E at *
        have iP : PureF Try.prog p23.ix [.ag [.i .i64 n, .i .i64 coin, .i .i64 box, .lst 3 (rows lnD ls), .lst 3 (rows ctD cs)], .lst 3 (rows lnD Tr)] (.tp [.lst 1 (ints E), .i .i64 (mixR Tr Tr.length), .i .i64 0]) := iP
        have e3 := ints_length E
        cases hb : fitsB n coin box ls cs Tr
        all_goals
          rw [hb] at iV iFi
          repeat' first | ((first | with_reducible apply WB.tt | with_reducible apply WB.ff | refine Rn.seq ?_ | refine Rn.reg ?_ | refine Rn.drw ?_ | refine Rn.blk ?_ | refine Rn.skip ?_ | refine Rn.ret ?_ | refine Rn.exit ?_ | refine Rn.cond rfl ?_ | refine And.intro (InR.i64 (by omega) (by omega)) ?_ | refine And.intro (show _ ≠ (0 : Int) by omega) ?_ | refine WIx.intsN (by omega) ?_ | refine WIx.rowsN (by omega) ?_ | refine WCall.pure (iB) ?_ | refine WCall.pure (iTr) ?_ | refine WCall.pure (iP) ?_ | refine WCall.pure (iV) ?_ | refine WCall.pure (iF) ?_ | refine WCall.pure (iC) ?_ | refine WCall.pure (iR) ?_ | refine WCall.pure (iPo) ?_ | refine WCall.pure (iFi) ?_ | refine WCall.pure (iMx) ?_ | with_reducible refine WB.decT (by first | with_reducible rfl | assumption | omega | exact ⟨rfl, rfl⟩) ?_ | with_reducible refine WB.decF (by first | assumption | omega) ?_ | with_reducible refine WB.ndT (by first | with_reducible rfl | assumption | omega | exact ⟨rfl, rfl⟩) ?_ | with_reducible refine WB.ndF (by first | assumption | omega) ?_ | with_reducible refine WB.nt ?_ | with_reducible refine WB.nf ?_ | with_reducible refine WB.dec (fun h => ?_) (fun h => ?_) | with_reducible refine WB.ndec (fun h => ?_) (fun h => ?_) | refine WB.mk (fun h => ?_) (fun h => ?_)) <;> conv => whnf)
          all_goals first
            | (exfalso; omega)
            | exact absurd h (by decide)
            | (refine Rn.loop (fun j : Nat => ⟨(.n (.n .e (some (.lst 3 (rows lnD Tr))) (.n .e (some (.lst 1 (ints E))) .e)) none (.n .e (some (.pt .h 0 0)) (.n (.n .e (some (.i .i64 (j : Int))) .e) none .e))), (.n .e (some (.cells false [.o (.i .i64 n) 0, .o (.i .i64 coin) 0, .o (.i .i64 box) 0, .o (.lst 3 (rows lnD ls)) 0, .o (.lst 3 (rows ctD cs)) 0] 1)) .e), .o .h, none⟩) (fun j => j ≤ Tr.length + 1) (fun j => Tr.length + 1 - j) 0 ?_ ?_ ?_
               · (first | (refine X.le.mk ?_ ?_ (Nat.le_refl _) rfl rfl) | skip) <;> (repeat' first | exact T.le_e _ | refine T.le_some ?_ ?_ ?_ | refine T.le_none ?_ ?_ | rfl)
               · exact Nat.zero_le _
               intro j hj
               have hj : j ≤ Tr.length + 1 := hj
               conv => whnf
               repeat' first | ((first | with_reducible apply WB.tt | with_reducible apply WB.ff | refine Rn.seq ?_ | refine Rn.reg ?_ | refine Rn.drw ?_ | refine Rn.blk ?_ | refine Rn.skip ?_ | refine Rn.ret ?_ | refine Rn.exit ?_ | refine Rn.cond rfl ?_ | refine And.intro (InR.i64 (by omega) (by omega)) ?_ | refine And.intro (show _ ≠ (0 : Int) by omega) ?_ | refine WIx.intsN (by omega) ?_ | refine WIx.rowsN (by omega) ?_) <;> conv => whnf)
               refine WB.dec (fun h => ?_) (fun h => ?_) <;> conv => whnf
               · have hlt : j < Tr.length + 1 := by omega
                 have cM := j_Money n coin box ls cs Tr j hbx hcn (by omega) (by omega)
                 unfold bk5 at cM
                 have hat := hEg j hlt
                 repeat' first | ((first | with_reducible apply WB.tt | with_reducible apply WB.ff | refine Rn.seq ?_ | refine Rn.reg ?_ | refine Rn.drw ?_ | refine Rn.blk ?_ | refine Rn.skip ?_ | refine Rn.ret ?_ | refine Rn.exit ?_ | refine Rn.cond rfl ?_ | refine And.intro (InR.i64 (by omega) (by omega)) ?_ | refine And.intro (show _ ≠ (0 : Int) by omega) ?_ | refine WIx.intsN (by omega) ?_ | refine WIx.rowsN (by omega) ?_ | refine WCall.pure (cM) ?_) <;> conv => whnf)
                 rw [hat]
                 refine WB.fF (by simp) ?_; conv => whnf
                 repeat' first | ((first | with_reducible apply WB.tt | with_reducible apply WB.ff | refine Rn.seq ?_ | refine Rn.reg ?_ | refine Rn.drw ?_ | refine Rn.blk ?_ | refine Rn.skip ?_ | refine Rn.ret ?_ | refine Rn.exit ?_ | refine Rn.cond rfl ?_ | refine And.intro (InR.i64 (by omega) (by omega)) ?_ | refine And.intro (show _ ≠ (0 : Int) by omega) ?_ | refine WIx.intsN (by omega) ?_ | refine WIx.rowsN (by omega) ?_) <;> conv => whnf)
                 refine Again.to (j + 1) (by omega) (by omega) (Nat.le_refl _) ?_
                 (refine Shr.of ?_ ?_ rfl rfl) <;> (repeat' first | exact Rel.e | refine Rel.some ?_ ?_ ?_ | refine Rel.none ?_ ?_) <;> (try first | (show Fz _ _ _ _; first | exact Fz.pu trivial | (refine Fz.i ?_; first | rfl | omega) | (refine Fz.kpt ?_; (focus (show Pos.nat _ < Pos.nat _; simp [Pos.nat]; done))) | (refine Fz.ksl ?_; (focus (show Pos.nat _ < Pos.nat _; simp [Pos.nat]; done))) | (refine Fz.kmp ?_; (focus (show Pos.nat _ < Pos.nat _; simp [Pos.nat]; done))) | (refine Fz.pu ?_; simp [Cell.d, Pu, PuL, PuE, pu_ints, pu_ln, pu_ct]; done) | (refine Fz.pu ?_; simp only [Cell.d]; assumption)) | (refine RO'.of ?_ (ShC.same ?_); (focus (show Pos.nat _ < Pos.nat _; simp [Pos.nat]; done)); (repeat' first | exact ShC.nl | refine ShC.cn ?_ ?_) <;> first | exact Fz.pu trivial | (refine Fz.i ?_; first | rfl | omega) | (refine Fz.kpt ?_; (focus (show Pos.nat _ < Pos.nat _; simp [Pos.nat]; done))) | (refine Fz.ksl ?_; (focus (show Pos.nat _ < Pos.nat _; simp [Pos.nat]; done))) | (refine Fz.kmp ?_; (focus (show Pos.nat _ < Pos.nat _; simp [Pos.nat]; done))) | (refine Fz.pu ?_; simp [Cell.d, Pu, PuL, PuE, pu_ints, pu_ln, pu_ct]; done) | (refine Fz.pu ?_; simp only [Cell.d]; assumption)))
               · repeat' first | ((first | with_reducible apply WB.tt | with_reducible apply WB.ff | refine Rn.seq ?_ | refine Rn.reg ?_ | refine Rn.drw ?_ | refine Rn.blk ?_ | refine Rn.skip ?_ | refine Rn.ret ?_ | refine Rn.exit ?_ | refine Rn.cond rfl ?_ | refine And.intro (InR.i64 (by omega) (by omega)) ?_ | refine And.intro (show _ ≠ (0 : Int) by omega) ?_ | refine WIx.intsN (by omega) ?_ | refine WIx.rowsN (by omega) ?_ | refine WCall.pure (AW) ?_) <;> conv => whnf)
                 exact Fin.b rfl rfl)
    · have hp : playT n coin box ls cs Tr = ([], 0, faultT n coin box ls cs) := by unfold playT; rw [if_neg h0]
      have hv : proveB n coin box ls cs Tr = false := by unfold proveB; rw [decide_eq_false h0]; rfl
      rw [hp] at iP
      rw [hv] at iV
      generalize faultT n coin box ls cs = F at *
      repeat' first | ((first | with_reducible apply WB.tt | with_reducible apply WB.ff | refine Rn.seq ?_ | refine Rn.reg ?_ | refine Rn.drw ?_ | refine Rn.blk ?_ | refine Rn.skip ?_ | refine Rn.ret ?_ | refine Rn.exit ?_ | refine Rn.cond rfl ?_ | refine And.intro (InR.i64 (by omega) (by omega)) ?_ | refine And.intro (show _ ≠ (0 : Int) by omega) ?_ | refine WIx.intsN (by omega) ?_ | refine WIx.rowsN (by omega) ?_ | refine WCall.pure (iB) ?_ | refine WCall.pure (iTr) ?_ | refine WCall.pure (iP) ?_ | refine WCall.pure (iV) ?_ | refine WCall.pure (iF) ?_ | refine WCall.pure (iC) ?_ | refine WCall.pure (AW) ?_ | with_reducible refine WB.decT (by first | with_reducible rfl | assumption | omega | exact ⟨rfl, rfl⟩) ?_ | with_reducible refine WB.decF (by first | assumption | omega) ?_ | with_reducible refine WB.ndT (by first | with_reducible rfl | assumption | omega | exact ⟨rfl, rfl⟩) ?_ | with_reducible refine WB.ndF (by first | assumption | omega) ?_ | with_reducible refine WB.nt ?_ | with_reducible refine WB.nf ?_ | with_reducible refine WB.dec (fun h => ?_) (fun h => ?_) | with_reducible refine WB.ndec (fun h => ?_) (fun h => ?_) | refine WB.mk (fun h => ?_) (fun h => ?_)) <;> conv => whnf)
      all_goals first | exact Fin.b rfl rfl | (exfalso; simp [ints] at h; done) | (exfalso; clear iB iTr iP iV iF iC AW iT; simp_all [rows]; done)
end Go.Ev

namespace Go.Ev
open Go.Proofs
/-! ### the law's parameters as they came in -/
theorem fit_lines : ∀ {es : List (List D)}, (∀ x ∈ es, FitL [.i .i64, .i .i64, .i .i64] x) → ∃ l : List Ln, es = rows lnD l ∧ ∀ r ∈ l, lnWf r
  | [], _ => ⟨[], rfl, fun r h => by cases h⟩
  | x :: es, h => by
    obtain ⟨l, rfl, hl⟩ := fit_lines (es := es) fun y hy => h y (by simp [hy])
    have h1 := h x (by simp)
    simp only [FitL, FitC] at h1
    obtain ⟨d, ds, rfl, ⟨n1, rfl, w1⟩, d2, ds2, rfl, ⟨n2, rfl, w2⟩, d3, ds3, rfl, ⟨n3, rfl, w3⟩, rfl⟩ := h1
    refine ⟨⟨n1, n2, n3⟩ :: l, rfl, fun r hr => ?_⟩
    rcases List.mem_cons.1 hr with rfl | hr
    · exact ⟨wfB_of w1, wfB_of w2, wfB_of w3⟩
    · exact hl r hr
theorem fit_counts : ∀ {es : List (List D)}, (∀ x ∈ es, FitL [.i .i64, .i .i64, .i .i64] x) → ∃ l : List Ct, es = rows ctD l
  | [], _ => ⟨[], rfl⟩
  | x :: es, h => by
    obtain ⟨l, rfl⟩ := fit_counts (es := es) fun y hy => h y (by simp [hy])
    have h1 := h x (by simp)
    simp only [FitL, FitC] at h1
    obtain ⟨d, ds, rfl, ⟨n1, rfl, w1⟩, d2, ds2, rfl, ⟨n2, rfl, w2⟩, d3, ds3, rfl, ⟨n3, rfl, w3⟩, rfl⟩ := h1
    exact ⟨⟨n1, n2, n3⟩ :: l, rfl⟩
theorem FitP.book {ps : List (Bool × List CK)} {ds : List D} (h : FitP ((true, [.i .i64, .i .i64, .i .i64, .sl [.i .i64, .i .i64, .i .i64], .sl [.i .i64, .i .i64, .i .i64]]) :: ps) ds) : ∃ n coin box ls cs ds', ds = .ag [.i .i64 n, .i .i64 coin, .i .i64 box, .lst 3 (rows lnD ls), .lst 3 (rows ctD cs)] :: ds' ∧ FitP ps ds' := by
  unfold FitP at h
  obtain ⟨es, ds', rfl, h1, h2⟩ := h
  simp only [FitL, FitC] at h1
  obtain ⟨d, ds, rfl, ⟨n1, rfl, _⟩, d2, ds2, rfl, ⟨n2, rfl, _⟩, d3, ds3, rfl, ⟨n3, rfl, _⟩, d4, ds4, rfl, ⟨e4, rfl, k4⟩, d5, ds5, rfl, ⟨e5, rfl, k5⟩, rfl⟩ := h1
  obtain ⟨ls, rfl, _⟩ := fit_lines fun x hx => by have := k4 x hx; simpa only [FitL, FitC] using this
  obtain ⟨cs, rfl⟩ := fit_counts fun x hx => by have := k5 x hx; simpa only [FitL, FitC] using this
  exact ⟨n1, n2, n3, ls, cs, ds', rfl, h2⟩
theorem FitP.lines {ps : List (Bool × List CK)} {ds : List D} (h : FitP ((false, [.sl [.i .i64, .i .i64, .i .i64]]) :: ps) ds) : ∃ (t : List Ln) (ds' : List D), ds = .lst 3 (rows lnD t) :: ds' ∧ (∀ r ∈ t, lnWf r) ∧ FitP ps ds' := by
  unfold FitP at h
  obtain ⟨d, ds', rfl, h1, h2⟩ := h
  simp only [FitL, FitC] at h1
  obtain ⟨d, ds, e, ⟨es, rfl, h1⟩, rfl⟩ := h1
  cases e
  obtain ⟨l, rfl, hl⟩ := fit_lines fun x hx => by have := h1 x hx; simpa only [FitL, FitC] using this
  exact ⟨l, ds', rfl, hl, h2⟩
theorem main_tokenPlays (AW : PureF Try.prog p22.ix [] (.b true)) {es : List D} (fit : FitP [(true, [.i .i64, .i .i64, .i .i64, .sl [.i .i64, .i .i64, .i .i64], .sl [.i .i64, .i .i64, .i .i64]]), (false, [.sl [.i .i64, .i .i64, .i .i64]])] es) : PureF Try.prog 3 es (.b true) := by
  obtain ⟨n, coin, box, ls, cs, _, rfl, g1⟩ := fit.book
  obtain ⟨t, _, rfl, ht, g2⟩ := g1.lines
  obtain rfl := g2.no
  exact j_TokenPlays n coin box ls cs t ht AW
end Go.Ev

namespace Go.Proofs.Ytjgbfnciedkafaa.tokenPlays
open Go.ChangeShapes Go.WideShapes Go.ChangeAt Go.RowKit
open Go.ChangeMaps (open_string shut_string)
set_option linter.unusedVariables false

theorem laid : laidOutB Try.prog = true := faP.laid
theorem own : ownKnob Try.prog.godebug = none := by kernel_rfl

/-! ### the walk -/
theorem walk {es : List Go.Ev.D} (fit : Go.Ev.FitP [(true, [.i .i64, .i .i64, .i .i64, .sl [.i .i64, .i .i64, .i .i64], .sl [.i .i64, .i .i64, .i .i64]]), (false, [.sl [.i .i64, .i .i64, .i .i64]])] es) {args : Array Value} {W : World} (ha : Go.Ev.DVL (Go.Ev.γH W) W es args.toList) :
    Calls Try.prog 3 args W fun e w' => e = .returned (.bool true) ∧ Grown W w' ∧ Below W.heap.size W w' :=
  Go.Ev.PureF.calls (Go.Ev.main_tokenPlays (fun ob nx lg => Go.Ev.t21.any ob nx lg) fit) ha

set_option maxRecDepth 100000 in
theorem lifted (os : Os) (started : os.Started) (H : Type) (enc : TypeId × Value → H) :
    ReturnsInHanded {} Try.checked os 3 .any (Rows.tokenPlaysSpec.pre6 enc Try.prog Try.f3 Rows.tokenPlaysRow.domain false) (Rows.tokenPlaysSpec.post enc Try.prog Try.f3 false true false false) := by
  refine returnsInHanded_of_change (C := Try.checked) own started (by kernel_rfl) Try.func3
    (ChangeSpec.witness6 (enc := enc) (C := Try.checked) false ⟨#[], #[.agg #[.int .i64 0, .int .i64 0, .int .i64 0, .slice none 0 0, .slice none 0 0], .slice none 0 0], []⟩ 8 (by kernel_rfl) (by kernel_rfl) (by kernel_rfl) (by kernel_rfl)) ?_
  intro W base args ds gs before hval0 hW hcnd _
  have hval : ∀ (j : Nat) t v, Try.f3.params[j]? = some t → args[j]? = some v → Value.okWide Try.prog W .any base t v := hval0
  have hW' := hW
  obtain ⟨p, q, hA0, hV, rfl, hfz, hnd⟩ := hW
  have hA : DataW.TrodAll enc Try.prog W 0 (fun _ => true) true Try.f3.params.toList args.toList ds p := hA0
  rw [Try.params3] at hA hval
  obtain ⟨rfl, rfl⟩ := trodVars_none hV
  obtain ⟨d0, d1, rfl⟩ := Go.Ev.len2 (Go.Ev.trod_len hA)
  clear hA0 hval0
  simp only [List.append_nil] at hW'
  obtain ⟨es, fit, dv⟩ := Go.Ev.open_all (n := 6) (pars := [(true, [.i .i64, .i .i64, .i .i64, .sl [.i .i64, .i .i64, .i .i64], .sl [.i .i64, .i .i64, .i .i64]]), (false, [.sl [.i .i64, .i .i64, .i .i64]])]) (by kernel_rfl) hA (fun j t v h1 h2 => hval j t v (by simpa using h1) (by simpa using h2))
  have hlt : ∀ x ∈ p, x.block < W.heap.size := fun x hx => by simpa using hW'.lt x hx
  refine (walk fit dv).mono fun e W' ⟨he, hg, hb⟩ => ?_
  subst he
  exact ⟨_, rfl, post_of_same (pa := p) (pv := []) hW' (fun _ _ _ => (trodAll_cons_mk (shut_bool Try.underlying4 _) trodAll_mk0))
    (fun sp hs => Go.Ev.stays_all laid (Go.Ev.of_allT (by kernel_rfl)) hA (fun x hx => hb.same (hlt x hx)) (fun x hx => hs x hx))
    (fun _ _ => rfl) (List.append_nil _).symm
    (hg.frame _) hg.2.1 (ok_one (by kernel_rfl) rfl (okWide_bool_mk Try.underlying4 _))⟩

theorem over : Rows.tokenPlaysRow.holds Try.pinned (OpenSpec.ofChange Rows.tokenPlaysSpec) :=
  OpenClaim.holds_of_wide 3 Try.f3 rfl rfl rfl rfl rfl rfl rfl ⟨rfl, rfl, rfl, rfl, rfl⟩ rfl rfl rfl rfl rfl (by kernel_rfl) Try.func3 faTokenPlays.all
    (of_decide_eq_true (by kernel_rfl)) (by unfold Func.isWrapper; first | (rw [if_pos (by decide +kernel)]; kernel_rfl) | (rw [if_neg (by decide +kernel)]; exact ⟨rfl, rfl⟩))
    (fun os started H enc _ => lifted os started H enc)

/-- ████ THE STATEMENT ████ -/
theorem proved : Rows.TokenPlaysSaid :=
  over
#print axioms proved
end Go.Proofs.Ytjgbfnciedkafaa.tokenPlays
