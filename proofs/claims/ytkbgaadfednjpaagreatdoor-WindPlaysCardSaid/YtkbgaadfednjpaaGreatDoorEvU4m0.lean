import Derived.Test.YtkbgaadfednjpaaGreatDoorEvU4l
set_option linter.all false
set_option maxHeartbeats 8000000
noncomputable section
namespace Go.Ev
open Go.Proofs
set_option maxRecDepth 100000
def xJ (b : Bh) (p : Int × Int) (face d : Int) : Bool := decide (face = qT d) || iU b p d b.rch.toNat
theorem Mk (p : Int × Int) (j : Nat) : aW p 0 (j + 1) = ((aW p 0 j).1 - 1, (aW p 0 j).2) := by
  show ((aW p 0 j).1 + -1, (aW p 0 j).2 + 0) = _
  rw [Int.add_zero]; rfl
theorem Ml (p : Int × Int) (j : Nat) : aW p 1 (j + 1) = ((aW p 1 j).1, (aW p 1 j).2 + 1) := by
  show ((aW p 1 j).1 + 0, (aW p 1 j).2 + 1) = _
  rw [Int.add_zero]
theorem Mg (p : Int × Int) (j : Nat) : aW p 2 (j + 1) = ((aW p 2 j).1 + 1, (aW p 2 j).2) := by
  show ((aW p 2 j).1 + 1, (aW p 2 j).2 + 0) = _
  rw [Int.add_zero]
theorem Mj (p : Int × Int) (j : Nat) : aW p 3 (j + 1) = ((aW p 3 j).1, (aW p 3 j).2 - 1) := by
  show ((aW p 3 j).1 + 0, (aW p 3 j).2 + -1) = _
  rw [Int.add_zero]; rfl
theorem dZ {l : List (Int × Int)} {p : Int × Int} : rD l p = l.any fun q => decide (q.1 = p.1 ∧ q.2 = p.2) := by
  unfold rD
  congr 1
  funext q
  simp only [eq_comm]
set_option maxHeartbeats 4000000 in
theorem gK (b : Bh) (V : VW b) (p : Int × Int) (hp : dR b p = true) (face d : Int) (hf : 0 ≤ face ∧ face ≤ 3) (hd : 0 ≤ d ∧ d ≤ 3) (l4 : b.brk.length ≤ 1000) : PureF Tryz.prog p90.ix [.ag (eA b), .ag (bL p), .i .i64 face, .i .i64 d] (.b (xJ b p face d)) := by
  have hr := V.rch
  have h4 := V.rws
  have h5 := V.pls
  have e1 := aK bL b.brk
  have hp2 := hp
  unfold dR at hp2
  rw [Bool.and_eq_true] at hp2
  have hpa := bC hp2.1
  have hpb := bC hp2.2
  have ho := Bn hf
  unfold qT at ho
  refine PureF.run LY (by simp) (by simp [aT, Pu, aX, bL]) ?_; conv => whnf
  unfold xJ
  by_cases k0 : Int.tmod (face + 2) 4 = d
  · rw [decide_eq_true ((yX hd hf).1 k0), Bool.true_or]
    repeat' first | ((first | with_reducible apply WB.tt | with_reducible apply WB.ff | refine Rn.seq ?_ | refine Rn.reg ?_ | refine Rn.drw ?_ | refine Rn.blk ?_ | refine Rn.skip ?_ | refine Rn.ret ?_ | refine Rn.exit ?_ | refine Rn.cond rfl ?_ | refine And.intro (InR.i64 (by omega) (by omega)) ?_ | refine And.intro (show _ ≠ (0 : Int) by omega) ?_ | refine WIx.intsN (by omega) ?_ | refine WIx.rowsN (by omega) ?_ | with_reducible refine WB.decT (by first | with_reducible rfl | assumption | omega | exact ⟨rfl, rfl⟩) ?_ | with_reducible refine WB.decF (by first | assumption | omega) ?_ | with_reducible refine WB.ndT (by first | with_reducible rfl | assumption | omega | exact ⟨rfl, rfl⟩) ?_ | with_reducible refine WB.ndF (by first | assumption | omega) ?_ | with_reducible refine WB.nt ?_ | with_reducible refine WB.nf ?_ | with_reducible refine WB.dec (fun h => ?_) (fun h => ?_) | with_reducible refine WB.ndec (fun h => ?_) (fun h => ?_) | refine WB.mk (fun h => ?_) (fun h => ?_)) <;> conv => whnf) | (refine WB.tt ?_; conv => whnf) | (refine WB.ff ?_; conv => whnf)
    exact Fin.b rfl rfl
  rw [decide_eq_false fun e => k0 ((yX hd hf).2 e), Bool.false_or]
  repeat' first | ((first | with_reducible apply WB.tt | with_reducible apply WB.ff | refine Rn.seq ?_ | refine Rn.reg ?_ | refine Rn.drw ?_ | refine Rn.blk ?_ | refine Rn.skip ?_ | refine Rn.ret ?_ | refine Rn.exit ?_ | refine Rn.cond rfl ?_ | refine And.intro (InR.i64 (by omega) (by omega)) ?_ | refine And.intro (show _ ≠ (0 : Int) by omega) ?_ | refine WIx.intsN (by omega) ?_ | refine WIx.rowsN (by omega) ?_ | with_reducible refine WB.decT (by first | with_reducible rfl | assumption | omega | exact ⟨rfl, rfl⟩) ?_ | with_reducible refine WB.decF (by first | assumption | omega) ?_ | with_reducible refine WB.ndT (by first | with_reducible rfl | assumption | omega | exact ⟨rfl, rfl⟩) ?_ | with_reducible refine WB.ndF (by first | assumption | omega) ?_ | with_reducible refine WB.nt ?_ | with_reducible refine WB.nf ?_ | with_reducible refine WB.dec (fun h => ?_) (fun h => ?_) | with_reducible refine WB.ndec (fun h => ?_) (fun h => ?_) | refine WB.mk (fun h => ?_) (fun h => ?_)) <;> conv => whnf) | (refine WB.tt ?_; conv => whnf) | (refine WB.ff ?_; conv => whnf)
  refine Rn.loop (fun j : Nat => ⟨(.n (.n (.n .e (some (.i .i64 d)) .e) none (.n (.n .e (some (.pt (.i .h) 0 0)) .e) (some (.pt (.o .h) 0 0)) .e)) none (.n (.n .e (some (.pt .h 0 0)) .e) none (.n (.n .e (some (.i .i64 (j : Int))) .e) none .e))), .n (.n .e (some (.cells false ((bL p).map fun d => Cell.o d 0) 1)) .e) (some (bX b)) (.n .e (some (.cells false ((bL (aW p d j)).map fun d => Cell.o d 0) 1)) .e), .o (.o .h), none⟩) (fun j => j ≤ b.rch.toNat ∧ iU b p d j = false) (fun j => b.rch.toNat - j) 0 ?_ ⟨Nat.zero_le _, rfl⟩ ?_
  · refine X.le.mk ?_ ?_ (Nat.le_refl _) rfl rfl
    all_goals (repeat' first | exact T.le_e _ | exact T.le_refl _ | refine T.le_some ?_ rfl ?_ | refine T.le_none ?_ ?_ | refine T.le_ee ?_ ?_)
  rintro j ⟨hj, ha⟩
  conv => whnf
  repeat' first | ((first | with_reducible apply WB.tt | with_reducible apply WB.ff | refine Rn.seq ?_ | refine Rn.reg ?_ | refine Rn.drw ?_ | refine Rn.blk ?_ | refine Rn.skip ?_ | refine Rn.ret ?_ | refine Rn.exit ?_ | refine Rn.cond rfl ?_ | refine And.intro (InR.i64 (by omega) (by omega)) ?_ | refine And.intro (show _ ≠ (0 : Int) by omega) ?_ | refine WIx.intsN (by omega) ?_ | refine WIx.rowsN (by omega) ?_ | with_reducible refine WB.decT (by first | with_reducible rfl | assumption | omega | exact ⟨rfl, rfl⟩) ?_ | with_reducible refine WB.decF (by first | assumption | omega) ?_ | with_reducible refine WB.ndT (by first | with_reducible rfl | assumption | omega | exact ⟨rfl, rfl⟩) ?_ | with_reducible refine WB.ndF (by first | assumption | omega) ?_ | with_reducible refine WB.nt ?_ | with_reducible refine WB.nf ?_) <;> conv => whnf) | (refine WB.tt ?_; conv => whnf) | (refine WB.ff ?_; conv => whnf)
  refine WB.dec (fun h => ?_) (fun h => ?_) <;> conv => whnf
  · have hlt : j < b.rch.toNat := by omega
    have hbd := mG p d j
    have hbd1 := mG p d (j + 1)
    have hyes := fun hm => pZ (b := b) (p := p) (d := d) (j := j) hm b.rch.toNat (by omega)
    have hno : rD b.brk (aW p d (j + 1)) = false → iU b p d (j + 1) = false := fun hm => by unfold iU; rw [ha, hm]; rfl
    have hd4 : d = 0 ∨ d = 1 ∨ d = 2 ∨ d = 3 := by omega
    rcases hd4 with rfl | rfl | rfl | rfl
    · repeat' first | ((first | with_reducible apply WB.tt | with_reducible apply WB.ff | refine Rn.seq ?_ | refine Rn.reg ?_ | refine Rn.drw ?_ | refine Rn.blk ?_ | refine Rn.skip ?_ | refine Rn.ret ?_ | refine Rn.exit ?_ | refine Rn.cond rfl ?_ | refine And.intro (InR.i64 (by omega) (by omega)) ?_ | refine And.intro (show _ ≠ (0 : Int) by omega) ?_ | refine WIx.intsN (by omega) ?_ | refine WIx.rowsN (by omega) ?_ | with_reducible refine WB.decT (by first | with_reducible rfl | assumption | omega | exact ⟨rfl, rfl⟩) ?_ | with_reducible refine WB.decF (by first | assumption | omega) ?_ | with_reducible refine WB.ndT (by first | with_reducible rfl | assumption | omega | exact ⟨rfl, rfl⟩) ?_ | with_reducible refine WB.ndF (by first | assumption | omega) ?_ | with_reducible refine WB.nt ?_ | with_reducible refine WB.nf ?_) <;> conv => whnf) | (refine WB.tt ?_; conv => whnf) | (refine WB.ff ?_; conv => whnf)
      refine Rn.loop (fun k : Nat => ⟨(.n (.n (.n .e (some (.i .i64 0)) (.n .e (some (.i .i64 (k : Int))) .e)) none (.n (.n .e (some (.pt (.i .h) 0 0)) .e) (some (.pt (.o .h) 0 0)) .e)) none (.n (.n .e (some (.pt .h 0 0)) .e) none (.n (.n .e (some (.i .i64 (j : Int))) .e) none .e))), .n (.n .e (some (.cells false ((bL p).map fun d => Cell.o d 0) 1)) .e) (some (bX b)) (.n .e (some (.cells false ((bL (aW p 0 (j + 1))).map fun d => Cell.o d 0) 1)) .e), .o (.o .h), none⟩) (fun k => k ≤ b.brk.length ∧ (b.brk.take k).any (fun q => decide (q.1 = (aW p 0 (j + 1)).1 ∧ q.2 = (aW p 0 (j + 1)).2)) = false) (fun k => b.brk.length - k) 0 ?_ ⟨Nat.zero_le _, by simp⟩ ?_
      · refine X.le.mk ?_ ?_ (Nat.le_refl _) rfl rfl
        · (repeat' first | exact T.le_e _ | exact T.le_refl _ | refine T.le_some ?_ rfl ?_ | refine T.le_none ?_ ?_ | refine T.le_ee ?_ ?_)
        · show T.le (.n (.n .e (some (.cells false ((bL p).map fun d => Cell.o d 0) 1)) .e) (some (bX b)) (.n .e (some (.cells false ((bL (aW p 0 (j + 1))).map fun d => Cell.o d 0) 1)) .e) : T C) _
          rw [Mk p j]
          (repeat' first | exact T.le_e _ | exact T.le_refl _ | refine T.le_some ?_ rfl ?_ | refine T.le_none ?_ ?_ | refine T.le_ee ?_ ?_)
      rintro k ⟨hk, hb⟩
      conv => whnf
      repeat' first | ((first | with_reducible apply WB.tt | with_reducible apply WB.ff | refine Rn.seq ?_ | refine Rn.reg ?_ | refine Rn.drw ?_ | refine Rn.blk ?_ | refine Rn.skip ?_ | refine Rn.ret ?_ | refine Rn.exit ?_ | refine Rn.cond rfl ?_ | refine And.intro (InR.i64 (by omega) (by omega)) ?_ | refine And.intro (show _ ≠ (0 : Int) by omega) ?_ | refine WIx.intsN (by omega) ?_ | refine WIx.rowsN (by omega) ?_ | with_reducible refine WB.decT (by first | with_reducible rfl | assumption | omega | exact ⟨rfl, rfl⟩) ?_ | with_reducible refine WB.decF (by first | assumption | omega) ?_ | with_reducible refine WB.ndT (by first | with_reducible rfl | assumption | omega | exact ⟨rfl, rfl⟩) ?_ | with_reducible refine WB.ndF (by first | assumption | omega) ?_ | with_reducible refine WB.nt ?_ | with_reducible refine WB.nf ?_) <;> conv => whnf) | (refine WB.tt ?_; conv => whnf) | (refine WB.ff ?_; conv => whnf)
      refine WB.dec (fun h3 => ?_) (fun h3 => ?_) <;> conv => whnf
      · have hlt2 : k < b.brk.length := by omega
        have hq := V.spot64 (aR (d := default) hlt2)
        repeat' first | ((first | with_reducible apply WB.tt | with_reducible apply WB.ff | refine Rn.seq ?_ | refine Rn.reg ?_ | refine Rn.drw ?_ | refine Rn.blk ?_ | refine Rn.skip ?_ | refine Rn.ret ?_ | refine Rn.exit ?_ | refine Rn.cond rfl ?_ | refine And.intro (InR.i64 (by omega) (by omega)) ?_ | refine And.intro (show _ ≠ (0 : Int) by omega) ?_ | refine WIx.intsN (by omega) ?_ | refine WIx.rowsN (by omega) ?_ | with_reducible refine WB.decT (by first | with_reducible rfl | assumption | omega | exact ⟨rfl, rfl⟩) ?_ | with_reducible refine WB.decF (by first | assumption | omega) ?_ | with_reducible refine WB.ndT (by first | with_reducible rfl | assumption | omega | exact ⟨rfl, rfl⟩) ?_ | with_reducible refine WB.ndF (by first | assumption | omega) ?_ | with_reducible refine WB.nt ?_ | with_reducible refine WB.nf ?_) <;> conv => whnf) | (refine WB.tt ?_; conv => whnf) | (refine WB.ff ?_; conv => whnf)
        refine WSt.eqr2 (a := (b.brk.getD k default).1) (b := (b.brk.getD k default).2) (a' := (aW p 0 (j + 1)).1) (b' := (aW p 0 (j + 1)).2) rfl rfl (fV hq.1) (fV hq.2) (fV ⟨by omega, by omega⟩) (fV ⟨by omega, by omega⟩) ?_; conv => whnf
        repeat' first | ((first | with_reducible apply WB.tt | with_reducible apply WB.ff | refine Rn.seq ?_ | refine Rn.reg ?_ | refine Rn.drw ?_ | refine Rn.blk ?_ | refine Rn.skip ?_ | refine Rn.ret ?_ | refine Rn.exit ?_ | refine Rn.cond rfl ?_ | refine And.intro (InR.i64 (by omega) (by omega)) ?_ | refine And.intro (show _ ≠ (0 : Int) by omega) ?_ | refine WIx.intsN (by omega) ?_ | refine WIx.rowsN (by omega) ?_ | with_reducible refine WB.decT (by first | with_reducible rfl | assumption | omega | exact ⟨rfl, rfl⟩) ?_ | with_reducible refine WB.decF (by first | assumption | omega) ?_ | with_reducible refine WB.ndT (by first | with_reducible rfl | assumption | omega | exact ⟨rfl, rfl⟩) ?_ | with_reducible refine WB.ndF (by first | assumption | omega) ?_ | with_reducible refine WB.nt ?_ | with_reducible refine WB.nf ?_) <;> conv => whnf) | (refine WB.tt ?_; conv => whnf) | (refine WB.ff ?_; conv => whnf)
        refine WB.dec (fun h4 => ?_) (fun h4 => ?_) <;> conv => whnf
        · repeat' first | ((first | with_reducible apply WB.tt | with_reducible apply WB.ff | refine Rn.seq ?_ | refine Rn.reg ?_ | refine Rn.drw ?_ | refine Rn.blk ?_ | refine Rn.skip ?_ | refine Rn.ret ?_ | refine Rn.exit ?_ | refine Rn.cond rfl ?_ | refine And.intro (InR.i64 (by omega) (by omega)) ?_ | refine And.intro (show _ ≠ (0 : Int) by omega) ?_ | refine WIx.intsN (by omega) ?_ | refine WIx.rowsN (by omega) ?_ | with_reducible refine WB.decT (by first | with_reducible rfl | assumption | omega | exact ⟨rfl, rfl⟩) ?_ | with_reducible refine WB.decF (by first | assumption | omega) ?_ | with_reducible refine WB.ndT (by first | with_reducible rfl | assumption | omega | exact ⟨rfl, rfl⟩) ?_ | with_reducible refine WB.ndF (by first | assumption | omega) ?_ | with_reducible refine WB.nt ?_ | with_reducible refine WB.nf ?_) <;> conv => whnf) | (refine WB.tt ?_; conv => whnf) | (refine WB.ff ?_; conv => whnf)
          rw [hyes (by rw [dZ]; exact iD (d := default) hlt2 (decide_eq_true h4))]
          exact Fin.b rfl rfl
        · repeat' first | ((first | with_reducible apply WB.tt | with_reducible apply WB.ff | refine Rn.seq ?_ | refine Rn.reg ?_ | refine Rn.drw ?_ | refine Rn.blk ?_ | refine Rn.skip ?_ | refine Rn.ret ?_ | refine Rn.exit ?_ | refine Rn.cond rfl ?_ | refine And.intro (InR.i64 (by omega) (by omega)) ?_ | refine And.intro (show _ ≠ (0 : Int) by omega) ?_ | refine WIx.intsN (by omega) ?_ | refine WIx.rowsN (by omega) ?_ | with_reducible refine WB.decT (by first | with_reducible rfl | assumption | omega | exact ⟨rfl, rfl⟩) ?_ | with_reducible refine WB.decF (by first | assumption | omega) ?_ | with_reducible refine WB.ndT (by first | with_reducible rfl | assumption | omega | exact ⟨rfl, rfl⟩) ?_ | with_reducible refine WB.ndF (by first | assumption | omega) ?_ | with_reducible refine WB.nt ?_ | with_reducible refine WB.nf ?_) <;> conv => whnf) | (refine WB.tt ?_; conv => whnf) | (refine WB.ff ?_; conv => whnf)
          refine Again.to (k + 1) (by omega) ⟨by omega, by rw [dG (d := default) hlt2, hb, decide_eq_false h4]; rfl⟩ (Nat.le_refl _) ?_
          refine Shr.of ?_ ?_ rfl rfl
          · show Rel _ _ ((.n (.n (.n .e (some (.i .i64 0)) (.n .e (some (.i .i64 ((k + 1 : Nat) : Int))) .e)) none (.n (.n .e (some (.pt (.i .h) 0 0)) .e) (some (.pt (.o .h) 0 0)) .e)) none (.n (.n .e (some (.pt .h 0 0)) .e) none (.n (.n .e (some (.i .i64 (j : Int))) .e) none .e))) : T D) _
            skip
            (repeat' first | exact Rel.e | refine Rel.some ?_ ?_ ?_ | refine Rel.none ?_ ?_ | refine Rel.ee ?_ ?_)
            all_goals show Fz _ _ _ _
            all_goals first | exact .pu trivial | exact .pu (aB _) | exact .pu (aN _) | exact .kpt (show _ < 4 by simp [Pos.nat])
          · show Rel _ _ (.n (.n .e (some (.cells false ((bL p).map fun d => Cell.o d 0) 1)) .e) (some (bX b)) (.n .e (some (.cells false ((bL (aW p 0 (j + 1))).map fun d => Cell.o d 0) 1)) .e) : T C) _
            (repeat' first | exact Rel.e | refine Rel.some ?_ ?_ ?_ | refine Rel.none ?_ ?_ | refine Rel.ee ?_ ?_)
            all_goals first
              | exact RO'.of (show _ < 4 by simp [Pos.nat]) (aJ b)
              | (refine RO'.of (show _ < 4 by simp [Pos.nat]) (ShC.same ?_); (repeat' first | exact ShC.nl | refine ShC.cn ?_ ?_) <;> exact .pu trivial)
      · obtain rfl : k = b.brk.length := by omega
        have hm := hno (by rw [dZ]; exact fX hb)
        repeat' first | ((first | with_reducible apply WB.tt | with_reducible apply WB.ff | refine Rn.seq ?_ | refine Rn.reg ?_ | refine Rn.drw ?_ | refine Rn.blk ?_ | refine Rn.skip ?_ | refine Rn.ret ?_ | refine Rn.exit ?_ | refine Rn.cond rfl ?_ | refine And.intro (InR.i64 (by omega) (by omega)) ?_ | refine And.intro (show _ ≠ (0 : Int) by omega) ?_ | refine WIx.intsN (by omega) ?_ | refine WIx.rowsN (by omega) ?_ | with_reducible refine WB.decT (by first | with_reducible rfl | assumption | omega | exact ⟨rfl, rfl⟩) ?_ | with_reducible refine WB.decF (by first | assumption | omega) ?_ | with_reducible refine WB.ndT (by first | with_reducible rfl | assumption | omega | exact ⟨rfl, rfl⟩) ?_ | with_reducible refine WB.ndF (by first | assumption | omega) ?_ | with_reducible refine WB.nt ?_ | with_reducible refine WB.nf ?_) <;> conv => whnf) | (refine WB.tt ?_; conv => whnf) | (refine WB.ff ?_; conv => whnf)
        refine Again.to (j + 1) (by omega) ⟨by omega, hm⟩ (Nat.le_refl _) ?_
        refine Shr.of ?_ ?_ rfl rfl
        · show Rel _ _ ((.n (.n (.n .e (some (.i .i64 0)) .e) none (.n (.n .e (some (.pt (.i .h) 0 0)) .e) (some (.pt (.o .h) 0 0)) .e)) none (.n (.n .e (some (.pt .h 0 0)) .e) none (.n (.n .e (some (.i .i64 ((j + 1 : Nat) : Int))) .e) none .e))) : T D) _
          skip
          (repeat' first | exact Rel.e | refine Rel.some ?_ ?_ ?_ | refine Rel.none ?_ ?_ | refine Rel.ee ?_ ?_)
          all_goals show Fz _ _ _ _
          all_goals first | exact .pu trivial | exact .pu (aB _) | exact .pu (aN _) | exact .kpt (show _ < 4 by simp [Pos.nat])
        · show Rel _ _ (.n (.n .e (some (.cells false ((bL p).map fun d => Cell.o d 0) 1)) .e) (some (bX b)) (.n .e (some (.cells false ((bL (aW p 0 (j + 1))).map fun d => Cell.o d 0) 1)) .e) : T C) _
          (repeat' first | exact Rel.e | refine Rel.some ?_ ?_ ?_ | refine Rel.none ?_ ?_ | refine Rel.ee ?_ ?_)
          all_goals first
            | exact RO'.of (show _ < 4 by simp [Pos.nat]) (aJ b)
            | (refine RO'.of (show _ < 4 by simp [Pos.nat]) (ShC.same ?_); (repeat' first | exact ShC.nl | refine ShC.cn ?_ ?_) <;> exact .pu trivial)
    · repeat' first | ((first | with_reducible apply WB.tt | with_reducible apply WB.ff | refine Rn.seq ?_ | refine Rn.reg ?_ | refine Rn.drw ?_ | refine Rn.blk ?_ | refine Rn.skip ?_ | refine Rn.ret ?_ | refine Rn.exit ?_ | refine Rn.cond rfl ?_ | refine And.intro (InR.i64 (by omega) (by omega)) ?_ | refine And.intro (show _ ≠ (0 : Int) by omega) ?_ | refine WIx.intsN (by omega) ?_ | refine WIx.rowsN (by omega) ?_ | with_reducible refine WB.decT (by first | with_reducible rfl | assumption | omega | exact ⟨rfl, rfl⟩) ?_ | with_reducible refine WB.decF (by first | assumption | omega) ?_ | with_reducible refine WB.ndT (by first | with_reducible rfl | assumption | omega | exact ⟨rfl, rfl⟩) ?_ | with_reducible refine WB.ndF (by first | assumption | omega) ?_ | with_reducible refine WB.nt ?_ | with_reducible refine WB.nf ?_) <;> conv => whnf) | (refine WB.tt ?_; conv => whnf) | (refine WB.ff ?_; conv => whnf)
      refine Rn.loop (fun k : Nat => ⟨(.n (.n (.n .e (some (.i .i64 1)) (.n .e (some (.i .i64 (k : Int))) .e)) none (.n (.n .e (some (.pt (.i .h) 0 0)) .e) (some (.pt (.o .h) 0 0)) .e)) none (.n (.n .e (some (.pt .h 0 0)) .e) none (.n (.n .e (some (.i .i64 (j : Int))) .e) none .e))), .n (.n .e (some (.cells false ((bL p).map fun d => Cell.o d 0) 1)) .e) (some (bX b)) (.n .e (some (.cells false ((bL (aW p 1 (j + 1))).map fun d => Cell.o d 0) 1)) .e), .o (.o .h), none⟩) (fun k => k ≤ b.brk.length ∧ (b.brk.take k).any (fun q => decide (q.1 = (aW p 1 (j + 1)).1 ∧ q.2 = (aW p 1 (j + 1)).2)) = false) (fun k => b.brk.length - k) 0 ?_ ⟨Nat.zero_le _, by simp⟩ ?_
      · refine X.le.mk ?_ ?_ (Nat.le_refl _) rfl rfl
        · (repeat' first | exact T.le_e _ | exact T.le_refl _ | refine T.le_some ?_ rfl ?_ | refine T.le_none ?_ ?_ | refine T.le_ee ?_ ?_)
        · show T.le (.n (.n .e (some (.cells false ((bL p).map fun d => Cell.o d 0) 1)) .e) (some (bX b)) (.n .e (some (.cells false ((bL (aW p 1 (j + 1))).map fun d => Cell.o d 0) 1)) .e) : T C) _
          rw [Ml p j]
          (repeat' first | exact T.le_e _ | exact T.le_refl _ | refine T.le_some ?_ rfl ?_ | refine T.le_none ?_ ?_ | refine T.le_ee ?_ ?_)
      rintro k ⟨hk, hb⟩
      conv => whnf
      repeat' first | ((first | with_reducible apply WB.tt | with_reducible apply WB.ff | refine Rn.seq ?_ | refine Rn.reg ?_ | refine Rn.drw ?_ | refine Rn.blk ?_ | refine Rn.skip ?_ | refine Rn.ret ?_ | refine Rn.exit ?_ | refine Rn.cond rfl ?_ | refine And.intro (InR.i64 (by omega) (by omega)) ?_ | refine And.intro (show _ ≠ (0 : Int) by omega) ?_ | refine WIx.intsN (by omega) ?_ | refine WIx.rowsN (by omega) ?_ | with_reducible refine WB.decT (by first | with_reducible rfl | assumption | omega | exact ⟨rfl, rfl⟩) ?_ | with_reducible refine WB.decF (by first | assumption | omega) ?_ | with_reducible refine WB.ndT (by first | with_reducible rfl | assumption | omega | exact ⟨rfl, rfl⟩) ?_ | with_reducible refine WB.ndF (by first | assumption | omega) ?_ | with_reducible refine WB.nt ?_ | with_reducible refine WB.nf ?_) <;> conv => whnf) | (refine WB.tt ?_; conv => whnf) | (refine WB.ff ?_; conv => whnf)
      refine WB.dec (fun h3 => ?_) (fun h3 => ?_) <;> conv => whnf
      · have hlt2 : k < b.brk.length := by omega
        have hq := V.spot64 (aR (d := default) hlt2)
        repeat' first | ((first | with_reducible apply WB.tt | with_reducible apply WB.ff | refine Rn.seq ?_ | refine Rn.reg ?_ | refine Rn.drw ?_ | refine Rn.blk ?_ | refine Rn.skip ?_ | refine Rn.ret ?_ | refine Rn.exit ?_ | refine Rn.cond rfl ?_ | refine And.intro (InR.i64 (by omega) (by omega)) ?_ | refine And.intro (show _ ≠ (0 : Int) by omega) ?_ | refine WIx.intsN (by omega) ?_ | refine WIx.rowsN (by omega) ?_ | with_reducible refine WB.decT (by first | with_reducible rfl | assumption | omega | exact ⟨rfl, rfl⟩) ?_ | with_reducible refine WB.decF (by first | assumption | omega) ?_ | with_reducible refine WB.ndT (by first | with_reducible rfl | assumption | omega | exact ⟨rfl, rfl⟩) ?_ | with_reducible refine WB.ndF (by first | assumption | omega) ?_ | with_reducible refine WB.nt ?_ | with_reducible refine WB.nf ?_) <;> conv => whnf) | (refine WB.tt ?_; conv => whnf) | (refine WB.ff ?_; conv => whnf)
        refine WSt.eqr2 (a := (b.brk.getD k default).1) (b := (b.brk.getD k default).2) (a' := (aW p 1 (j + 1)).1) (b' := (aW p 1 (j + 1)).2) rfl rfl (fV hq.1) (fV hq.2) (fV ⟨by omega, by omega⟩) (fV ⟨by omega, by omega⟩) ?_; conv => whnf
        repeat' first | ((first | with_reducible apply WB.tt | with_reducible apply WB.ff | refine Rn.seq ?_ | refine Rn.reg ?_ | refine Rn.drw ?_ | refine Rn.blk ?_ | refine Rn.skip ?_ | refine Rn.ret ?_ | refine Rn.exit ?_ | refine Rn.cond rfl ?_ | refine And.intro (InR.i64 (by omega) (by omega)) ?_ | refine And.intro (show _ ≠ (0 : Int) by omega) ?_ | refine WIx.intsN (by omega) ?_ | refine WIx.rowsN (by omega) ?_ | with_reducible refine WB.decT (by first | with_reducible rfl | assumption | omega | exact ⟨rfl, rfl⟩) ?_ | with_reducible refine WB.decF (by first | assumption | omega) ?_ | with_reducible refine WB.ndT (by first | with_reducible rfl | assumption | omega | exact ⟨rfl, rfl⟩) ?_ | with_reducible refine WB.ndF (by first | assumption | omega) ?_ | with_reducible refine WB.nt ?_ | with_reducible refine WB.nf ?_) <;> conv => whnf) | (refine WB.tt ?_; conv => whnf) | (refine WB.ff ?_; conv => whnf)
        refine WB.dec (fun h4 => ?_) (fun h4 => ?_) <;> conv => whnf
        · repeat' first | ((first | with_reducible apply WB.tt | with_reducible apply WB.ff | refine Rn.seq ?_ | refine Rn.reg ?_ | refine Rn.drw ?_ | refine Rn.blk ?_ | refine Rn.skip ?_ | refine Rn.ret ?_ | refine Rn.exit ?_ | refine Rn.cond rfl ?_ | refine And.intro (InR.i64 (by omega) (by omega)) ?_ | refine And.intro (show _ ≠ (0 : Int) by omega) ?_ | refine WIx.intsN (by omega) ?_ | refine WIx.rowsN (by omega) ?_ | with_reducible refine WB.decT (by first | with_reducible rfl | assumption | omega | exact ⟨rfl, rfl⟩) ?_ | with_reducible refine WB.decF (by first | assumption | omega) ?_ | with_reducible refine WB.ndT (by first | with_reducible rfl | assumption | omega | exact ⟨rfl, rfl⟩) ?_ | with_reducible refine WB.ndF (by first | assumption | omega) ?_ | with_reducible refine WB.nt ?_ | with_reducible refine WB.nf ?_) <;> conv => whnf) | (refine WB.tt ?_; conv => whnf) | (refine WB.ff ?_; conv => whnf)
          rw [hyes (by rw [dZ]; exact iD (d := default) hlt2 (decide_eq_true h4))]
          exact Fin.b rfl rfl
        · repeat' first | ((first | with_reducible apply WB.tt | with_reducible apply WB.ff | refine Rn.seq ?_ | refine Rn.reg ?_ | refine Rn.drw ?_ | refine Rn.blk ?_ | refine Rn.skip ?_ | refine Rn.ret ?_ | refine Rn.exit ?_ | refine Rn.cond rfl ?_ | refine And.intro (InR.i64 (by omega) (by omega)) ?_ | refine And.intro (show _ ≠ (0 : Int) by omega) ?_ | refine WIx.intsN (by omega) ?_ | refine WIx.rowsN (by omega) ?_ | with_reducible refine WB.decT (by first | with_reducible rfl | assumption | omega | exact ⟨rfl, rfl⟩) ?_ | with_reducible refine WB.decF (by first | assumption | omega) ?_ | with_reducible refine WB.ndT (by first | with_reducible rfl | assumption | omega | exact ⟨rfl, rfl⟩) ?_ | with_reducible refine WB.ndF (by first | assumption | omega) ?_ | with_reducible refine WB.nt ?_ | with_reducible refine WB.nf ?_) <;> conv => whnf) | (refine WB.tt ?_; conv => whnf) | (refine WB.ff ?_; conv => whnf)
          refine Again.to (k + 1) (by omega) ⟨by omega, by rw [dG (d := default) hlt2, hb, decide_eq_false h4]; rfl⟩ (Nat.le_refl _) ?_
          refine Shr.of ?_ ?_ rfl rfl
          · show Rel _ _ ((.n (.n (.n .e (some (.i .i64 1)) (.n .e (some (.i .i64 ((k + 1 : Nat) : Int))) .e)) none (.n (.n .e (some (.pt (.i .h) 0 0)) .e) (some (.pt (.o .h) 0 0)) .e)) none (.n (.n .e (some (.pt .h 0 0)) .e) none (.n (.n .e (some (.i .i64 (j : Int))) .e) none .e))) : T D) _
            skip
            (repeat' first | exact Rel.e | refine Rel.some ?_ ?_ ?_ | refine Rel.none ?_ ?_ | refine Rel.ee ?_ ?_)
            all_goals show Fz _ _ _ _
            all_goals first | exact .pu trivial | exact .pu (aB _) | exact .pu (aN _) | exact .kpt (show _ < 4 by simp [Pos.nat])
          · show Rel _ _ (.n (.n .e (some (.cells false ((bL p).map fun d => Cell.o d 0) 1)) .e) (some (bX b)) (.n .e (some (.cells false ((bL (aW p 1 (j + 1))).map fun d => Cell.o d 0) 1)) .e) : T C) _
            (repeat' first | exact Rel.e | refine Rel.some ?_ ?_ ?_ | refine Rel.none ?_ ?_ | refine Rel.ee ?_ ?_)
            all_goals first
              | exact RO'.of (show _ < 4 by simp [Pos.nat]) (aJ b)
              | (refine RO'.of (show _ < 4 by simp [Pos.nat]) (ShC.same ?_); (repeat' first | exact ShC.nl | refine ShC.cn ?_ ?_) <;> exact .pu trivial)
      · obtain rfl : k = b.brk.length := by omega
        have hm := hno (by rw [dZ]; exact fX hb)
        repeat' first | ((first | with_reducible apply WB.tt | with_reducible apply WB.ff | refine Rn.seq ?_ | refine Rn.reg ?_ | refine Rn.drw ?_ | refine Rn.blk ?_ | refine Rn.skip ?_ | refine Rn.ret ?_ | refine Rn.exit ?_ | refine Rn.cond rfl ?_ | refine And.intro (InR.i64 (by omega) (by omega)) ?_ | refine And.intro (show _ ≠ (0 : Int) by omega) ?_ | refine WIx.intsN (by omega) ?_ | refine WIx.rowsN (by omega) ?_ | with_reducible refine WB.decT (by first | with_reducible rfl | assumption | omega | exact ⟨rfl, rfl⟩) ?_ | with_reducible refine WB.decF (by first | assumption | omega) ?_ | with_reducible refine WB.ndT (by first | with_reducible rfl | assumption | omega | exact ⟨rfl, rfl⟩) ?_ | with_reducible refine WB.ndF (by first | assumption | omega) ?_ | with_reducible refine WB.nt ?_ | with_reducible refine WB.nf ?_) <;> conv => whnf) | (refine WB.tt ?_; conv => whnf) | (refine WB.ff ?_; conv => whnf)
        refine Again.to (j + 1) (by omega) ⟨by omega, hm⟩ (Nat.le_refl _) ?_
        refine Shr.of ?_ ?_ rfl rfl
        · show Rel _ _ ((.n (.n (.n .e (some (.i .i64 1)) .e) none (.n (.n .e (some (.pt (.i .h) 0 0)) .e) (some (.pt (.o .h) 0 0)) .e)) none (.n (.n .e (some (.pt .h 0 0)) .e) none (.n (.n .e (some (.i .i64 ((j + 1 : Nat) : Int))) .e) none .e))) : T D) _
          skip
          (repeat' first | exact Rel.e | refine Rel.some ?_ ?_ ?_ | refine Rel.none ?_ ?_ | refine Rel.ee ?_ ?_)
          all_goals show Fz _ _ _ _
          all_goals first | exact .pu trivial | exact .pu (aB _) | exact .pu (aN _) | exact .kpt (show _ < 4 by simp [Pos.nat])
        · show Rel _ _ (.n (.n .e (some (.cells false ((bL p).map fun d => Cell.o d 0) 1)) .e) (some (bX b)) (.n .e (some (.cells false ((bL (aW p 1 (j + 1))).map fun d => Cell.o d 0) 1)) .e) : T C) _
          (repeat' first | exact Rel.e | refine Rel.some ?_ ?_ ?_ | refine Rel.none ?_ ?_ | refine Rel.ee ?_ ?_)
          all_goals first
            | exact RO'.of (show _ < 4 by simp [Pos.nat]) (aJ b)
            | (refine RO'.of (show _ < 4 by simp [Pos.nat]) (ShC.same ?_); (repeat' first | exact ShC.nl | refine ShC.cn ?_ ?_) <;> exact .pu trivial)
    · repeat' first | ((first | with_reducible apply WB.tt | with_reducible apply WB.ff | refine Rn.seq ?_ | refine Rn.reg ?_ | refine Rn.drw ?_ | refine Rn.blk ?_ | refine Rn.skip ?_ | refine Rn.ret ?_ | refine Rn.exit ?_ | refine Rn.cond rfl ?_ | refine And.intro (InR.i64 (by omega) (by omega)) ?_ | refine And.intro (show _ ≠ (0 : Int) by omega) ?_ | refine WIx.intsN (by omega) ?_ | refine WIx.rowsN (by omega) ?_ | with_reducible refine WB.decT (by first | with_reducible rfl | assumption | omega | exact ⟨rfl, rfl⟩) ?_ | with_reducible refine WB.decF (by first | assumption | omega) ?_ | with_reducible refine WB.ndT (by first | with_reducible rfl | assumption | omega | exact ⟨rfl, rfl⟩) ?_ | with_reducible refine WB.ndF (by first | assumption | omega) ?_ | with_reducible refine WB.nt ?_ | with_reducible refine WB.nf ?_) <;> conv => whnf) | (refine WB.tt ?_; conv => whnf) | (refine WB.ff ?_; conv => whnf)
      refine Rn.loop (fun k : Nat => ⟨(.n (.n (.n .e (some (.i .i64 2)) (.n .e (some (.i .i64 (k : Int))) .e)) none (.n (.n .e (some (.pt (.i .h) 0 0)) .e) (some (.pt (.o .h) 0 0)) .e)) none (.n (.n .e (some (.pt .h 0 0)) .e) none (.n (.n .e (some (.i .i64 (j : Int))) .e) none .e))), .n (.n .e (some (.cells false ((bL p).map fun d => Cell.o d 0) 1)) .e) (some (bX b)) (.n .e (some (.cells false ((bL (aW p 2 (j + 1))).map fun d => Cell.o d 0) 1)) .e), .o (.o .h), none⟩) (fun k => k ≤ b.brk.length ∧ (b.brk.take k).any (fun q => decide (q.1 = (aW p 2 (j + 1)).1 ∧ q.2 = (aW p 2 (j + 1)).2)) = false) (fun k => b.brk.length - k) 0 ?_ ⟨Nat.zero_le _, by simp⟩ ?_
      · refine X.le.mk ?_ ?_ (Nat.le_refl _) rfl rfl
        · (repeat' first | exact T.le_e _ | exact T.le_refl _ | refine T.le_some ?_ rfl ?_ | refine T.le_none ?_ ?_ | refine T.le_ee ?_ ?_)
        · show T.le (.n (.n .e (some (.cells false ((bL p).map fun d => Cell.o d 0) 1)) .e) (some (bX b)) (.n .e (some (.cells false ((bL (aW p 2 (j + 1))).map fun d => Cell.o d 0) 1)) .e) : T C) _
          rw [Mg p j]
          (repeat' first | exact T.le_e _ | exact T.le_refl _ | refine T.le_some ?_ rfl ?_ | refine T.le_none ?_ ?_ | refine T.le_ee ?_ ?_)
      rintro k ⟨hk, hb⟩
      conv => whnf
      repeat' first | ((first | with_reducible apply WB.tt | with_reducible apply WB.ff | refine Rn.seq ?_ | refine Rn.reg ?_ | refine Rn.drw ?_ | refine Rn.blk ?_ | refine Rn.skip ?_ | refine Rn.ret ?_ | refine Rn.exit ?_ | refine Rn.cond rfl ?_ | refine And.intro (InR.i64 (by omega) (by omega)) ?_ | refine And.intro (show _ ≠ (0 : Int) by omega) ?_ | refine WIx.intsN (by omega) ?_ | refine WIx.rowsN (by omega) ?_ | with_reducible refine WB.decT (by first | with_reducible rfl | assumption | omega | exact ⟨rfl, rfl⟩) ?_ | with_reducible refine WB.decF (by first | assumption | omega) ?_ | with_reducible refine WB.ndT (by first | with_reducible rfl | assumption | omega | exact ⟨rfl, rfl⟩) ?_ | with_reducible refine WB.ndF (by first | assumption | omega) ?_ | with_reducible refine WB.nt ?_ | with_reducible refine WB.nf ?_) <;> conv => whnf) | (refine WB.tt ?_; conv => whnf) | (refine WB.ff ?_; conv => whnf)
      refine WB.dec (fun h3 => ?_) (fun h3 => ?_) <;> conv => whnf
      · have hlt2 : k < b.brk.length := by omega
        have hq := V.spot64 (aR (d := default) hlt2)
        repeat' first | ((first | with_reducible apply WB.tt | with_reducible apply WB.ff | refine Rn.seq ?_ | refine Rn.reg ?_ | refine Rn.drw ?_ | refine Rn.blk ?_ | refine Rn.skip ?_ | refine Rn.ret ?_ | refine Rn.exit ?_ | refine Rn.cond rfl ?_ | refine And.intro (InR.i64 (by omega) (by omega)) ?_ | refine And.intro (show _ ≠ (0 : Int) by omega) ?_ | refine WIx.intsN (by omega) ?_ | refine WIx.rowsN (by omega) ?_ | with_reducible refine WB.decT (by first | with_reducible rfl | assumption | omega | exact ⟨rfl, rfl⟩) ?_ | with_reducible refine WB.decF (by first | assumption | omega) ?_ | with_reducible refine WB.ndT (by first | with_reducible rfl | assumption | omega | exact ⟨rfl, rfl⟩) ?_ | with_reducible refine WB.ndF (by first | assumption | omega) ?_ | with_reducible refine WB.nt ?_ | with_reducible refine WB.nf ?_) <;> conv => whnf) | (refine WB.tt ?_; conv => whnf) | (refine WB.ff ?_; conv => whnf)
        refine WSt.eqr2 (a := (b.brk.getD k default).1) (b := (b.brk.getD k default).2) (a' := (aW p 2 (j + 1)).1) (b' := (aW p 2 (j + 1)).2) rfl rfl (fV hq.1) (fV hq.2) (fV ⟨by omega, by omega⟩) (fV ⟨by omega, by omega⟩) ?_; conv => whnf
        repeat' first | ((first | with_reducible apply WB.tt | with_reducible apply WB.ff | refine Rn.seq ?_ | refine Rn.reg ?_ | refine Rn.drw ?_ | refine Rn.blk ?_ | refine Rn.skip ?_ | refine Rn.ret ?_ | refine Rn.exit ?_ | refine Rn.cond rfl ?_ | refine And.intro (InR.i64 (by omega) (by omega)) ?_ | refine And.intro (show _ ≠ (0 : Int) by omega) ?_ | refine WIx.intsN (by omega) ?_ | refine WIx.rowsN (by omega) ?_ | with_reducible refine WB.decT (by first | with_reducible rfl | assumption | omega | exact ⟨rfl, rfl⟩) ?_ | with_reducible refine WB.decF (by first | assumption | omega) ?_ | with_reducible refine WB.ndT (by first | with_reducible rfl | assumption | omega | exact ⟨rfl, rfl⟩) ?_ | with_reducible refine WB.ndF (by first | assumption | omega) ?_ | with_reducible refine WB.nt ?_ | with_reducible refine WB.nf ?_) <;> conv => whnf) | (refine WB.tt ?_; conv => whnf) | (refine WB.ff ?_; conv => whnf)
        refine WB.dec (fun h4 => ?_) (fun h4 => ?_) <;> conv => whnf
        · repeat' first | ((first | with_reducible apply WB.tt | with_reducible apply WB.ff | refine Rn.seq ?_ | refine Rn.reg ?_ | refine Rn.drw ?_ | refine Rn.blk ?_ | refine Rn.skip ?_ | refine Rn.ret ?_ | refine Rn.exit ?_ | refine Rn.cond rfl ?_ | refine And.intro (InR.i64 (by omega) (by omega)) ?_ | refine And.intro (show _ ≠ (0 : Int) by omega) ?_ | refine WIx.intsN (by omega) ?_ | refine WIx.rowsN (by omega) ?_ | with_reducible refine WB.decT (by first | with_reducible rfl | assumption | omega | exact ⟨rfl, rfl⟩) ?_ | with_reducible refine WB.decF (by first | assumption | omega) ?_ | with_reducible refine WB.ndT (by first | with_reducible rfl | assumption | omega | exact ⟨rfl, rfl⟩) ?_ | with_reducible refine WB.ndF (by first | assumption | omega) ?_ | with_reducible refine WB.nt ?_ | with_reducible refine WB.nf ?_) <;> conv => whnf) | (refine WB.tt ?_; conv => whnf) | (refine WB.ff ?_; conv => whnf)
          rw [hyes (by rw [dZ]; exact iD (d := default) hlt2 (decide_eq_true h4))]
          exact Fin.b rfl rfl
        · repeat' first | ((first | with_reducible apply WB.tt | with_reducible apply WB.ff | refine Rn.seq ?_ | refine Rn.reg ?_ | refine Rn.drw ?_ | refine Rn.blk ?_ | refine Rn.skip ?_ | refine Rn.ret ?_ | refine Rn.exit ?_ | refine Rn.cond rfl ?_ | refine And.intro (InR.i64 (by omega) (by omega)) ?_ | refine And.intro (show _ ≠ (0 : Int) by omega) ?_ | refine WIx.intsN (by omega) ?_ | refine WIx.rowsN (by omega) ?_ | with_reducible refine WB.decT (by first | with_reducible rfl | assumption | omega | exact ⟨rfl, rfl⟩) ?_ | with_reducible refine WB.decF (by first | assumption | omega) ?_ | with_reducible refine WB.ndT (by first | with_reducible rfl | assumption | omega | exact ⟨rfl, rfl⟩) ?_ | with_reducible refine WB.ndF (by first | assumption | omega) ?_ | with_reducible refine WB.nt ?_ | with_reducible refine WB.nf ?_) <;> conv => whnf) | (refine WB.tt ?_; conv => whnf) | (refine WB.ff ?_; conv => whnf)
          refine Again.to (k + 1) (by omega) ⟨by omega, by rw [dG (d := default) hlt2, hb, decide_eq_false h4]; rfl⟩ (Nat.le_refl _) ?_
          refine Shr.of ?_ ?_ rfl rfl
          · show Rel _ _ ((.n (.n (.n .e (some (.i .i64 2)) (.n .e (some (.i .i64 ((k + 1 : Nat) : Int))) .e)) none (.n (.n .e (some (.pt (.i .h) 0 0)) .e) (some (.pt (.o .h) 0 0)) .e)) none (.n (.n .e (some (.pt .h 0 0)) .e) none (.n (.n .e (some (.i .i64 (j : Int))) .e) none .e))) : T D) _
            skip
            (repeat' first | exact Rel.e | refine Rel.some ?_ ?_ ?_ | refine Rel.none ?_ ?_ | refine Rel.ee ?_ ?_)
            all_goals show Fz _ _ _ _
            all_goals first | exact .pu trivial | exact .pu (aB _) | exact .pu (aN _) | exact .kpt (show _ < 4 by simp [Pos.nat])
          · show Rel _ _ (.n (.n .e (some (.cells false ((bL p).map fun d => Cell.o d 0) 1)) .e) (some (bX b)) (.n .e (some (.cells false ((bL (aW p 2 (j + 1))).map fun d => Cell.o d 0) 1)) .e) : T C) _
            (repeat' first | exact Rel.e | refine Rel.some ?_ ?_ ?_ | refine Rel.none ?_ ?_ | refine Rel.ee ?_ ?_)
            all_goals first
              | exact RO'.of (show _ < 4 by simp [Pos.nat]) (aJ b)
              | (refine RO'.of (show _ < 4 by simp [Pos.nat]) (ShC.same ?_); (repeat' first | exact ShC.nl | refine ShC.cn ?_ ?_) <;> exact .pu trivial)
      · obtain rfl : k = b.brk.length := by omega
        have hm := hno (by rw [dZ]; exact fX hb)
        repeat' first | ((first | with_reducible apply WB.tt | with_reducible apply WB.ff | refine Rn.seq ?_ | refine Rn.reg ?_ | refine Rn.drw ?_ | refine Rn.blk ?_ | refine Rn.skip ?_ | refine Rn.ret ?_ | refine Rn.exit ?_ | refine Rn.cond rfl ?_ | refine And.intro (InR.i64 (by omega) (by omega)) ?_ | refine And.intro (show _ ≠ (0 : Int) by omega) ?_ | refine WIx.intsN (by omega) ?_ | refine WIx.rowsN (by omega) ?_ | with_reducible refine WB.decT (by first | with_reducible rfl | assumption | omega | exact ⟨rfl, rfl⟩) ?_ | with_reducible refine WB.decF (by first | assumption | omega) ?_ | with_reducible refine WB.ndT (by first | with_reducible rfl | assumption | omega | exact ⟨rfl, rfl⟩) ?_ | with_reducible refine WB.ndF (by first | assumption | omega) ?_ | with_reducible refine WB.nt ?_ | with_reducible refine WB.nf ?_) <;> conv => whnf) | (refine WB.tt ?_; conv => whnf) | (refine WB.ff ?_; conv => whnf)
        refine Again.to (j + 1) (by omega) ⟨by omega, hm⟩ (Nat.le_refl _) ?_
        refine Shr.of ?_ ?_ rfl rfl
        · show Rel _ _ ((.n (.n (.n .e (some (.i .i64 2)) .e) none (.n (.n .e (some (.pt (.i .h) 0 0)) .e) (some (.pt (.o .h) 0 0)) .e)) none (.n (.n .e (some (.pt .h 0 0)) .e) none (.n (.n .e (some (.i .i64 ((j + 1 : Nat) : Int))) .e) none .e))) : T D) _
          skip
          (repeat' first | exact Rel.e | refine Rel.some ?_ ?_ ?_ | refine Rel.none ?_ ?_ | refine Rel.ee ?_ ?_)
          all_goals show Fz _ _ _ _
          all_goals first | exact .pu trivial | exact .pu (aB _) | exact .pu (aN _) | exact .kpt (show _ < 4 by simp [Pos.nat])
        · show Rel _ _ (.n (.n .e (some (.cells false ((bL p).map fun d => Cell.o d 0) 1)) .e) (some (bX b)) (.n .e (some (.cells false ((bL (aW p 2 (j + 1))).map fun d => Cell.o d 0) 1)) .e) : T C) _
          (repeat' first | exact Rel.e | refine Rel.some ?_ ?_ ?_ | refine Rel.none ?_ ?_ | refine Rel.ee ?_ ?_)
          all_goals first
            | exact RO'.of (show _ < 4 by simp [Pos.nat]) (aJ b)
            | (refine RO'.of (show _ < 4 by simp [Pos.nat]) (ShC.same ?_); (repeat' first | exact ShC.nl | refine ShC.cn ?_ ?_) <;> exact .pu trivial)
    · repeat' first | ((first | with_reducible apply WB.tt | with_reducible apply WB.ff | refine Rn.seq ?_ | refine Rn.reg ?_ | refine Rn.drw ?_ | refine Rn.blk ?_ | refine Rn.skip ?_ | refine Rn.ret ?_ | refine Rn.exit ?_ | refine Rn.cond rfl ?_ | refine And.intro (InR.i64 (by omega) (by omega)) ?_ | refine And.intro (show _ ≠ (0 : Int) by omega) ?_ | refine WIx.intsN (by omega) ?_ | refine WIx.rowsN (by omega) ?_ | with_reducible refine WB.decT (by first | with_reducible rfl | assumption | omega | exact ⟨rfl, rfl⟩) ?_ | with_reducible refine WB.decF (by first | assumption | omega) ?_ | with_reducible refine WB.ndT (by first | with_reducible rfl | assumption | omega | exact ⟨rfl, rfl⟩) ?_ | with_reducible refine WB.ndF (by first | assumption | omega) ?_ | with_reducible refine WB.nt ?_ | with_reducible refine WB.nf ?_) <;> conv => whnf) | (refine WB.tt ?_; conv => whnf) | (refine WB.ff ?_; conv => whnf)
      refine Rn.loop (fun k : Nat => ⟨(.n (.n (.n .e (some (.i .i64 3)) (.n .e (some (.i .i64 (k : Int))) .e)) none (.n (.n .e (some (.pt (.i .h) 0 0)) .e) (some (.pt (.o .h) 0 0)) .e)) none (.n (.n .e (some (.pt .h 0 0)) .e) none (.n (.n .e (some (.i .i64 (j : Int))) .e) none .e))), .n (.n .e (some (.cells false ((bL p).map fun d => Cell.o d 0) 1)) .e) (some (bX b)) (.n .e (some (.cells false ((bL (aW p 3 (j + 1))).map fun d => Cell.o d 0) 1)) .e), .o (.o .h), none⟩) (fun k => k ≤ b.brk.length ∧ (b.brk.take k).any (fun q => decide (q.1 = (aW p 3 (j + 1)).1 ∧ q.2 = (aW p 3 (j + 1)).2)) = false) (fun k => b.brk.length - k) 0 ?_ ⟨Nat.zero_le _, by simp⟩ ?_
      · refine X.le.mk ?_ ?_ (Nat.le_refl _) rfl rfl
        · (repeat' first | exact T.le_e _ | exact T.le_refl _ | refine T.le_some ?_ rfl ?_ | refine T.le_none ?_ ?_ | refine T.le_ee ?_ ?_)
        · show T.le (.n (.n .e (some (.cells false ((bL p).map fun d => Cell.o d 0) 1)) .e) (some (bX b)) (.n .e (some (.cells false ((bL (aW p 3 (j + 1))).map fun d => Cell.o d 0) 1)) .e) : T C) _
          rw [Mj p j]
          (repeat' first | exact T.le_e _ | exact T.le_refl _ | refine T.le_some ?_ rfl ?_ | refine T.le_none ?_ ?_ | refine T.le_ee ?_ ?_)
      rintro k ⟨hk, hb⟩
      conv => whnf
      repeat' first | ((first | with_reducible apply WB.tt | with_reducible apply WB.ff | refine Rn.seq ?_ | refine Rn.reg ?_ | refine Rn.drw ?_ | refine Rn.blk ?_ | refine Rn.skip ?_ | refine Rn.ret ?_ | refine Rn.exit ?_ | refine Rn.cond rfl ?_ | refine And.intro (InR.i64 (by omega) (by omega)) ?_ | refine And.intro (show _ ≠ (0 : Int) by omega) ?_ | refine WIx.intsN (by omega) ?_ | refine WIx.rowsN (by omega) ?_ | with_reducible refine WB.decT (by first | with_reducible rfl | assumption | omega | exact ⟨rfl, rfl⟩) ?_ | with_reducible refine WB.decF (by first | assumption | omega) ?_ | with_reducible refine WB.ndT (by first | with_reducible rfl | assumption | omega | exact ⟨rfl, rfl⟩) ?_ | with_reducible refine WB.ndF (by first | assumption | omega) ?_ | with_reducible refine WB.nt ?_ | with_reducible refine WB.nf ?_) <;> conv => whnf) | (refine WB.tt ?_; conv => whnf) | (refine WB.ff ?_; conv => whnf)
      refine WB.dec (fun h3 => ?_) (fun h3 => ?_) <;> conv => whnf
      · have hlt2 : k < b.brk.length := by omega
        have hq := V.spot64 (aR (d := default) hlt2)
        repeat' first | ((first | with_reducible apply WB.tt | with_reducible apply WB.ff | refine Rn.seq ?_ | refine Rn.reg ?_ | refine Rn.drw ?_ | refine Rn.blk ?_ | refine Rn.skip ?_ | refine Rn.ret ?_ | refine Rn.exit ?_ | refine Rn.cond rfl ?_ | refine And.intro (InR.i64 (by omega) (by omega)) ?_ | refine And.intro (show _ ≠ (0 : Int) by omega) ?_ | refine WIx.intsN (by omega) ?_ | refine WIx.rowsN (by omega) ?_ | with_reducible refine WB.decT (by first | with_reducible rfl | assumption | omega | exact ⟨rfl, rfl⟩) ?_ | with_reducible refine WB.decF (by first | assumption | omega) ?_ | with_reducible refine WB.ndT (by first | with_reducible rfl | assumption | omega | exact ⟨rfl, rfl⟩) ?_ | with_reducible refine WB.ndF (by first | assumption | omega) ?_ | with_reducible refine WB.nt ?_ | with_reducible refine WB.nf ?_) <;> conv => whnf) | (refine WB.tt ?_; conv => whnf) | (refine WB.ff ?_; conv => whnf)
        refine WSt.eqr2 (a := (b.brk.getD k default).1) (b := (b.brk.getD k default).2) (a' := (aW p 3 (j + 1)).1) (b' := (aW p 3 (j + 1)).2) rfl rfl (fV hq.1) (fV hq.2) (fV ⟨by omega, by omega⟩) (fV ⟨by omega, by omega⟩) ?_; conv => whnf
        repeat' first | ((first | with_reducible apply WB.tt | with_reducible apply WB.ff | refine Rn.seq ?_ | refine Rn.reg ?_ | refine Rn.drw ?_ | refine Rn.blk ?_ | refine Rn.skip ?_ | refine Rn.ret ?_ | refine Rn.exit ?_ | refine Rn.cond rfl ?_ | refine And.intro (InR.i64 (by omega) (by omega)) ?_ | refine And.intro (show _ ≠ (0 : Int) by omega) ?_ | refine WIx.intsN (by omega) ?_ | refine WIx.rowsN (by omega) ?_ | with_reducible refine WB.decT (by first | with_reducible rfl | assumption | omega | exact ⟨rfl, rfl⟩) ?_ | with_reducible refine WB.decF (by first | assumption | omega) ?_ | with_reducible refine WB.ndT (by first | with_reducible rfl | assumption | omega | exact ⟨rfl, rfl⟩) ?_ | with_reducible refine WB.ndF (by first | assumption | omega) ?_ | with_reducible refine WB.nt ?_ | with_reducible refine WB.nf ?_) <;> conv => whnf) | (refine WB.tt ?_; conv => whnf) | (refine WB.ff ?_; conv => whnf)
        refine WB.dec (fun h4 => ?_) (fun h4 => ?_) <;> conv => whnf
        · repeat' first | ((first | with_reducible apply WB.tt | with_reducible apply WB.ff | refine Rn.seq ?_ | refine Rn.reg ?_ | refine Rn.drw ?_ | refine Rn.blk ?_ | refine Rn.skip ?_ | refine Rn.ret ?_ | refine Rn.exit ?_ | refine Rn.cond rfl ?_ | refine And.intro (InR.i64 (by omega) (by omega)) ?_ | refine And.intro (show _ ≠ (0 : Int) by omega) ?_ | refine WIx.intsN (by omega) ?_ | refine WIx.rowsN (by omega) ?_ | with_reducible refine WB.decT (by first | with_reducible rfl | assumption | omega | exact ⟨rfl, rfl⟩) ?_ | with_reducible refine WB.decF (by first | assumption | omega) ?_ | with_reducible refine WB.ndT (by first | with_reducible rfl | assumption | omega | exact ⟨rfl, rfl⟩) ?_ | with_reducible refine WB.ndF (by first | assumption | omega) ?_ | with_reducible refine WB.nt ?_ | with_reducible refine WB.nf ?_) <;> conv => whnf) | (refine WB.tt ?_; conv => whnf) | (refine WB.ff ?_; conv => whnf)
          rw [hyes (by rw [dZ]; exact iD (d := default) hlt2 (decide_eq_true h4))]
          exact Fin.b rfl rfl
        · repeat' first | ((first | with_reducible apply WB.tt | with_reducible apply WB.ff | refine Rn.seq ?_ | refine Rn.reg ?_ | refine Rn.drw ?_ | refine Rn.blk ?_ | refine Rn.skip ?_ | refine Rn.ret ?_ | refine Rn.exit ?_ | refine Rn.cond rfl ?_ | refine And.intro (InR.i64 (by omega) (by omega)) ?_ | refine And.intro (show _ ≠ (0 : Int) by omega) ?_ | refine WIx.intsN (by omega) ?_ | refine WIx.rowsN (by omega) ?_ | with_reducible refine WB.decT (by first | with_reducible rfl | assumption | omega | exact ⟨rfl, rfl⟩) ?_ | with_reducible refine WB.decF (by first | assumption | omega) ?_ | with_reducible refine WB.ndT (by first | with_reducible rfl | assumption | omega | exact ⟨rfl, rfl⟩) ?_ | with_reducible refine WB.ndF (by first | assumption | omega) ?_ | with_reducible refine WB.nt ?_ | with_reducible refine WB.nf ?_) <;> conv => whnf) | (refine WB.tt ?_; conv => whnf) | (refine WB.ff ?_; conv => whnf)
          refine Again.to (k + 1) (by omega) ⟨by omega, by rw [dG (d := default) hlt2, hb, decide_eq_false h4]; rfl⟩ (Nat.le_refl _) ?_
          refine Shr.of ?_ ?_ rfl rfl
          · show Rel _ _ ((.n (.n (.n .e (some (.i .i64 3)) (.n .e (some (.i .i64 ((k + 1 : Nat) : Int))) .e)) none (.n (.n .e (some (.pt (.i .h) 0 0)) .e) (some (.pt (.o .h) 0 0)) .e)) none (.n (.n .e (some (.pt .h 0 0)) .e) none (.n (.n .e (some (.i .i64 (j : Int))) .e) none .e))) : T D) _
            skip
            (repeat' first | exact Rel.e | refine Rel.some ?_ ?_ ?_ | refine Rel.none ?_ ?_ | refine Rel.ee ?_ ?_)
            all_goals show Fz _ _ _ _
            all_goals first | exact .pu trivial | exact .pu (aB _) | exact .pu (aN _) | exact .kpt (show _ < 4 by simp [Pos.nat])
          · show Rel _ _ (.n (.n .e (some (.cells false ((bL p).map fun d => Cell.o d 0) 1)) .e) (some (bX b)) (.n .e (some (.cells false ((bL (aW p 3 (j + 1))).map fun d => Cell.o d 0) 1)) .e) : T C) _
            (repeat' first | exact Rel.e | refine Rel.some ?_ ?_ ?_ | refine Rel.none ?_ ?_ | refine Rel.ee ?_ ?_)
            all_goals first
              | exact RO'.of (show _ < 4 by simp [Pos.nat]) (aJ b)
              | (refine RO'.of (show _ < 4 by simp [Pos.nat]) (ShC.same ?_); (repeat' first | exact ShC.nl | refine ShC.cn ?_ ?_) <;> exact .pu trivial)
      · obtain rfl : k = b.brk.length := by omega
        have hm := hno (by rw [dZ]; exact fX hb)
        repeat' first | ((first | with_reducible apply WB.tt | with_reducible apply WB.ff | refine Rn.seq ?_ | refine Rn.reg ?_ | refine Rn.drw ?_ | refine Rn.blk ?_ | refine Rn.skip ?_ | refine Rn.ret ?_ | refine Rn.exit ?_ | refine Rn.cond rfl ?_ | refine And.intro (InR.i64 (by omega) (by omega)) ?_ | refine And.intro (show _ ≠ (0 : Int) by omega) ?_ | refine WIx.intsN (by omega) ?_ | refine WIx.rowsN (by omega) ?_ | with_reducible refine WB.decT (by first | with_reducible rfl | assumption | omega | exact ⟨rfl, rfl⟩) ?_ | with_reducible refine WB.decF (by first | assumption | omega) ?_ | with_reducible refine WB.ndT (by first | with_reducible rfl | assumption | omega | exact ⟨rfl, rfl⟩) ?_ | with_reducible refine WB.ndF (by first | assumption | omega) ?_ | with_reducible refine WB.nt ?_ | with_reducible refine WB.nf ?_) <;> conv => whnf) | (refine WB.tt ?_; conv => whnf) | (refine WB.ff ?_; conv => whnf)
        refine Again.to (j + 1) (by omega) ⟨by omega, hm⟩ (Nat.le_refl _) ?_
        refine Shr.of ?_ ?_ rfl rfl
        · show Rel _ _ ((.n (.n (.n .e (some (.i .i64 3)) .e) none (.n (.n .e (some (.pt (.i .h) 0 0)) .e) (some (.pt (.o .h) 0 0)) .e)) none (.n (.n .e (some (.pt .h 0 0)) .e) none (.n (.n .e (some (.i .i64 ((j + 1 : Nat) : Int))) .e) none .e))) : T D) _
          skip
          (repeat' first | exact Rel.e | refine Rel.some ?_ ?_ ?_ | refine Rel.none ?_ ?_ | refine Rel.ee ?_ ?_)
          all_goals show Fz _ _ _ _
          all_goals first | exact .pu trivial | exact .pu (aB _) | exact .pu (aN _) | exact .kpt (show _ < 4 by simp [Pos.nat])
        · show Rel _ _ (.n (.n .e (some (.cells false ((bL p).map fun d => Cell.o d 0) 1)) .e) (some (bX b)) (.n .e (some (.cells false ((bL (aW p 3 (j + 1))).map fun d => Cell.o d 0) 1)) .e) : T C) _
          (repeat' first | exact Rel.e | refine Rel.some ?_ ?_ ?_ | refine Rel.none ?_ ?_ | refine Rel.ee ?_ ?_)
          all_goals first
            | exact RO'.of (show _ < 4 by simp [Pos.nat]) (aJ b)
            | (refine RO'.of (show _ < 4 by simp [Pos.nat]) (ShC.same ?_); (repeat' first | exact ShC.nl | refine ShC.cn ?_ ?_) <;> exact .pu trivial)
  · obtain rfl : j = b.rch.toNat := by omega
    repeat' first | ((first | with_reducible apply WB.tt | with_reducible apply WB.ff | refine Rn.seq ?_ | refine Rn.reg ?_ | refine Rn.drw ?_ | refine Rn.blk ?_ | refine Rn.skip ?_ | refine Rn.ret ?_ | refine Rn.exit ?_ | refine Rn.cond rfl ?_ | refine And.intro (InR.i64 (by omega) (by omega)) ?_ | refine And.intro (show _ ≠ (0 : Int) by omega) ?_ | refine WIx.intsN (by omega) ?_ | refine WIx.rowsN (by omega) ?_ | with_reducible refine WB.decT (by first | with_reducible rfl | assumption | omega | exact ⟨rfl, rfl⟩) ?_ | with_reducible refine WB.decF (by first | assumption | omega) ?_ | with_reducible refine WB.ndT (by first | with_reducible rfl | assumption | omega | exact ⟨rfl, rfl⟩) ?_ | with_reducible refine WB.ndF (by first | assumption | omega) ?_ | with_reducible refine WB.nt ?_ | with_reducible refine WB.nf ?_) <;> conv => whnf) | (refine WB.tt ?_; conv => whnf) | (refine WB.ff ?_; conv => whnf)
    exact Fin.b rfl ha.symm
def pF (t : Bool) : Int := if t = true then 1 else 0
structure Hr where
  sun : Int
  calm : Int
  good : Int
def dX (x : Hr) : List D := [.i .i64 x.sun, .i .i64 x.calm, .i .i64 x.good]
def kF (b : Bh) (p : Int × Int) (face : Int) (h : Nat) (d : Int) : Hr := ⟨pF (decide (face = b.sun.getD h 0)), pF (xJ b p face d), pF (decide (face = b.sun.getD h 0)) * pF (xJ b p face d)⟩
def oS (x y : Hr) : Hr := ⟨x.sun + y.sun, x.calm + y.calm, x.good + y.good⟩
def Me (h : Nat) (F : Nat → Int) (d : Int) : List D := [.i .i64 (h : Int), .i .i64 (F 0), .i .i64 (F 1), .i .i64 (F 2), .i .i64 d]
theorem Fs {h : Nat} (k : h < 3) : h = 0 ∨ h = 1 ∨ h = 2 := by omega
set_option maxHeartbeats 4000000 in
theorem DH (b : Bh) (V : VW b) (p : Int × Int) (hp : dR b p = true) (F : Nat → Int) (h : Nat) (hh : h < b.sun.length) (d : Int) (hd : 0 ≤ d ∧ d ≤ 3) (l4 : b.brk.length ≤ 1000) : PureF Tryz.prog p123.ix [.ag (eA b), .ag (Me h F d), .ag (bL p)] (.ag (dX (kF b p (F p.1.toNat) h d))) := by
  have hsun := aL b.sun
  have h4 := V.rws
  have hp2 := hp
  unfold dR at hp2
  rw [Bool.and_eq_true] at hp2
  have hpa := bC hp2.1
  have cO := xL d hd
  have cB := xM b V p hp d hd l4
  obtain ⟨r, hr⟩ := Int.eq_ofNat_of_zero_le hpa.1
  have hr3 : r < 3 := by omega
  have hpr : p.1.toNat = r := by rw [hr]; rfl
  rw [hpr]
  unfold kF xJ
  refine PureF.run Gr (by simp) (by simp [aT, Pu, aX, bL, Me]) ?_; conv => whnf
  cases hB : iU b p d b.rch.toNat
  all_goals
    rw [hB] at cB
    by_cases k1 : F r = b.sun.getD h 0
    all_goals
      by_cases k2 : F r = qT d
      all_goals
        first | rw [decide_eq_true k1] | rw [decide_eq_false k1]
        first | rw [decide_eq_true k2] | rw [decide_eq_false k2]
        rcases Fs hr3 with rfl | rfl | rfl
        all_goals
          repeat' first | ((first | with_reducible apply WB.tt | with_reducible apply WB.ff | refine Rn.seq ?_ | refine Rn.reg ?_ | refine Rn.drw ?_ | refine Rn.blk ?_ | refine Rn.skip ?_ | refine Rn.ret ?_ | refine Rn.exit ?_ | refine Rn.cond rfl ?_ | refine And.intro (InR.i64 (by omega) (by omega)) ?_ | refine And.intro (show _ ≠ (0 : Int) by omega) ?_ | refine WIx.intsN (by omega) ?_ | refine WIx.rowsN (by omega) ?_ | with_reducible refine WB.decT (by first | with_reducible rfl | assumption | omega | exact ⟨rfl, rfl⟩) ?_ | with_reducible refine WB.decF (by first | assumption | omega) ?_ | with_reducible refine WB.ndT (by first | with_reducible rfl | assumption | omega | exact ⟨rfl, rfl⟩) ?_ | with_reducible refine WB.ndF (by first | assumption | omega) ?_ | with_reducible refine WB.nt ?_ | with_reducible refine WB.nf ?_) <;> conv => whnf) | (refine WB.tt ?_; conv => whnf) | (refine WB.ff ?_; conv => whnf)
          refine WSt.ixaN (m := _) rfl rfl hr (by decide) ?_; conv => whnf
          repeat' first | ((first | with_reducible apply WB.tt | with_reducible apply WB.ff | refine Rn.seq ?_ | refine Rn.reg ?_ | refine Rn.drw ?_ | refine Rn.blk ?_ | refine Rn.skip ?_ | refine Rn.ret ?_ | refine Rn.exit ?_ | refine Rn.cond rfl ?_ | refine And.intro (InR.i64 (by omega) (by omega)) ?_ | refine And.intro (show _ ≠ (0 : Int) by omega) ?_ | refine WIx.intsN (by omega) ?_ | refine WIx.rowsN (by omega) ?_ | refine WCall.pure (cO) ?_ | refine WCall.pure (cB) ?_ | refine WIx.intsN hh ?_ | with_reducible refine WB.decT (by first | with_reducible rfl | assumption | omega | exact ⟨rfl, rfl⟩) ?_ | with_reducible refine WB.decF (by first | assumption | omega) ?_ | with_reducible refine WB.ndT (by first | with_reducible rfl | assumption | omega | exact ⟨rfl, rfl⟩) ?_ | with_reducible refine WB.ndF (by first | assumption | omega) ?_ | with_reducible refine WB.nt ?_ | with_reducible refine WB.nf ?_) <;> conv => whnf) | (refine WB.tt ?_; conv => whnf) | (refine WB.ff ?_; conv => whnf)
          exact ⟨.inr rfl, _, rfl, .pu (by simp [one, Pu, aT, dX])⟩
theorem Fj (x y : Hr) (h1 : (-100 ≤ x.sun ∧ x.sun ≤ 100) ∧ (-100 ≤ x.calm ∧ x.calm ≤ 100) ∧ (-100 ≤ x.good ∧ x.good ≤ 100)) (h2 : (-100 ≤ y.sun ∧ y.sun ≤ 100) ∧ (-100 ≤ y.calm ∧ y.calm ≤ 100) ∧ (-100 ≤ y.good ∧ y.good ≤ 100)) : PureF Tryz.prog p122.ix [.ag (dX x), .ag (dX y)] (.ag (dX (oS x y))) := by
  refine PureF.run He (by simp) (by simp [aT, Pu, dX]) ?_; conv => whnf
  repeat' first | ((first | with_reducible apply WB.tt | with_reducible apply WB.ff | refine Rn.seq ?_ | refine Rn.reg ?_ | refine Rn.drw ?_ | refine Rn.blk ?_ | refine Rn.skip ?_ | refine Rn.ret ?_ | refine Rn.exit ?_ | refine Rn.cond rfl ?_ | refine And.intro (InR.i64 (by omega) (by omega)) ?_ | refine And.intro (show _ ≠ (0 : Int) by omega) ?_ | refine WIx.intsN (by omega) ?_ | refine WIx.rowsN (by omega) ?_ | with_reducible refine WB.decT (by first | with_reducible rfl | assumption | omega | exact ⟨rfl, rfl⟩) ?_ | with_reducible refine WB.decF (by first | assumption | omega) ?_ | with_reducible refine WB.ndT (by first | with_reducible rfl | assumption | omega | exact ⟨rfl, rfl⟩) ?_ | with_reducible refine WB.ndF (by first | assumption | omega) ?_ | with_reducible refine WB.nt ?_ | with_reducible refine WB.nf ?_) <;> conv => whnf) | (refine WB.tt ?_; conv => whnf) | (refine WB.ff ?_; conv => whnf)
  exact ⟨.inr rfl, _, rfl, .pu (by simp [one, Pu, aT, dX])⟩
end Go.Ev
end
