import Derived.Test.YtkbgaadfednjpaaGreatDoorEvU4m0
import Derived.Test.YtkbgaadfednjpaaGreatDoorEvUIt
set_option linter.all false
set_option maxHeartbeats 8000000
noncomputable section
namespace Go.Ev
open Go.Proofs
set_option maxRecDepth 100000
def gN (S : Nat → Nat → Int) : List D := [.i .i64 (S 0 0), .i .i64 (S 0 1), .i .i64 (S 0 2), .i .i64 (S 1 0), .i .i64 (S 1 1), .i .i64 (S 1 2), .i .i64 (S 2 0), .i .i64 (S 2 1), .i .i64 (S 2 2), .i .i64 (S 3 0), .i .i64 (S 3 1), .i .i64 (S 3 2), .i .i64 (S 4 0), .i .i64 (S 4 1), .i .i64 (S 4 2)]
theorem tS (S : Nat → Nat → Int) : aT (gN S) := by simp [gN, aT, Pu]
def bY (b : Bh) (S : Nat → Nat → Int) (p : Int × Int) (t : List Int) : Nat → Hr
  | 0 => ⟨0, 0, 0⟩
  | j + 1 => oS (bY b S p t j) (kF b p (S j p.1.toNat) j (t.getD j 0))
theorem Bl (t : Bool) : 0 ≤ pF t ∧ pF t ≤ 1 := by unfold pF; split <;> omega
theorem Br (b : Bh) (p : Int × Int) (f : Int) (h : Nat) (d : Int) : (0 ≤ (kF b p f h d).sun ∧ (kF b p f h d).sun ≤ 1) ∧ (0 ≤ (kF b p f h d).calm ∧ (kF b p f h d).calm ≤ 1) ∧ (0 ≤ (kF b p f h d).good ∧ (kF b p f h d).good ≤ 1) := by
  unfold kF
  have h1 := Bl (decide (f = b.sun.getD h 0))
  have h2 := Bl (xJ b p f d)
  refine ⟨h1, h2, Int.mul_nonneg h1.1 h2.1, ?_⟩
  have := Int.mul_le_mul h1.2 h2.2 h2.1 (by omega)
  simpa using this
theorem kZ (b : Bh) (S : Nat → Nat → Int) (p : Int × Int) (t : List Int) : ∀ j : Nat, (0 ≤ (bY b S p t j).sun ∧ (bY b S p t j).sun ≤ j) ∧ (0 ≤ (bY b S p t j).calm ∧ (bY b S p t j).calm ≤ j) ∧ (0 ≤ (bY b S p t j).good ∧ (bY b S p t j).good ≤ j)
  | 0 => by simp [bY]
  | j + 1 => by
    have h := kZ b S p t j
    have k := Br b p (S j p.1.toNat) j (t.getD j 0)
    show (0 ≤ (bY b S p t j).sun + _ ∧ (bY b S p t j).sun + _ ≤ _) ∧ (0 ≤ (bY b S p t j).calm + _ ∧ (bY b S p t j).calm + _ ≤ _) ∧ (0 ≤ (bY b S p t j).good + _ ∧ (bY b S p t j).good + _ ≤ _)
    omega
set_option maxHeartbeats 4000000 in
theorem BL (b : Bh) (V : VW b) (S : Nat → Nat → Int) (p : Int × Int) (hp : dR b p = true) (t : List Int) (ht : t.length ≤ b.sun.length) (hd : ∀ d ∈ t, 0 ≤ d ∧ d ≤ 3) (l4 : b.brk.length ≤ 1000) : PureF Tryz.prog p87.ix [.ag (eA b), .ag (gN S), .lst 1 (ints t), .ag (bL p)] (.ag (dX (bY b S p t t.length))) := by
  have e1 := aL t
  have hv := V.last
  have hs := V.sunl
  refine PureF.run Kx (by simp) (by simp [aT, dU, Pu, aX, bL, tS, aB]) ?_; conv => whnf
  repeat' first | ((first | with_reducible apply WB.tt | with_reducible apply WB.ff | refine Rn.seq ?_ | refine Rn.reg ?_ | refine Rn.drw ?_ | refine Rn.blk ?_ | refine Rn.skip ?_ | refine Rn.ret ?_ | refine Rn.exit ?_ | refine Rn.cond rfl ?_ | refine And.intro (InR.i64 (by omega) (by omega)) ?_ | refine And.intro (show _ ≠ (0 : Int) by omega) ?_ | refine WIx.intsN (by omega) ?_ | refine WIx.rowsN (by omega) ?_ | with_reducible refine WB.decT (by first | with_reducible rfl | assumption | omega | exact ⟨rfl, rfl⟩) ?_ | with_reducible refine WB.decF (by first | assumption | omega) ?_ | with_reducible refine WB.ndT (by first | with_reducible rfl | assumption | omega | exact ⟨rfl, rfl⟩) ?_ | with_reducible refine WB.ndF (by first | assumption | omega) ?_ | with_reducible refine WB.nt ?_ | with_reducible refine WB.nf ?_) <;> conv => whnf) | (refine WB.tt ?_; conv => whnf) | (refine WB.ff ?_; conv => whnf)
  refine Rn.loop (fun j : Nat => ⟨(.n (.n (.n (.n .e (some (.pt (.i .h) 0 0)) .e) none .e) none (.n (.n .e (some (.pt (.i (.o .h)) 0 0)) .e) (some (.pt (.o .h) 0 0)) (.n .e (some (.i .i64 (t.length : Int))) .e))) none (.n (.n (.n .e (some (.pt (.o (.o .h)) 0 0)) .e) (some (.pt .h 0 0)) (.n .e (some (.lst 1 (ints t))) .e)) none (.n .e none (.n .e (some (.i .i64 (j : Int))) .e)))), .n (.n (.n .e (some (.cells false ((dX ⟨0, 0, 0⟩).map fun d => Cell.o d 0) 1)) .e) (some (.cells false ((gN S).map fun d => Cell.o d 0) 1)) .e) (some (bX b)) (.n (.n .e (some (.cells false ((dX (bY b S p t j)).map fun d => Cell.o d 0) 1)) .e) (some (.cells false ((bL p).map fun d => Cell.o d 0) 1)) .e), .o (.i .h), none⟩) (fun j => j ≤ t.length) (fun j => t.length - j) 0 ?_ (Nat.zero_le _) ?_
  · refine X.le.mk ?_ ?_ (Nat.le_refl _) rfl rfl
    all_goals (try rw [← e1])
    all_goals (repeat' first | exact T.le_e _ | exact T.le_refl _ | refine T.le_some ?_ rfl ?_ | refine T.le_none ?_ ?_ | refine T.le_ee ?_ ?_)
  intro j hj
  have hj : j ≤ t.length := hj
  conv => whnf
  repeat' first | ((first | with_reducible apply WB.tt | with_reducible apply WB.ff | refine Rn.seq ?_ | refine Rn.reg ?_ | refine Rn.drw ?_ | refine Rn.blk ?_ | refine Rn.skip ?_ | refine Rn.ret ?_ | refine Rn.exit ?_ | refine Rn.cond rfl ?_ | refine And.intro (InR.i64 (by omega) (by omega)) ?_ | refine And.intro (show _ ≠ (0 : Int) by omega) ?_ | refine WIx.intsN (by omega) ?_ | refine WIx.rowsN (by omega) ?_ | with_reducible refine WB.decT (by first | with_reducible rfl | assumption | omega | exact ⟨rfl, rfl⟩) ?_ | with_reducible refine WB.decF (by first | assumption | omega) ?_ | with_reducible refine WB.ndT (by first | with_reducible rfl | assumption | omega | exact ⟨rfl, rfl⟩) ?_ | with_reducible refine WB.ndF (by first | assumption | omega) ?_ | with_reducible refine WB.nt ?_ | with_reducible refine WB.nf ?_) <;> conv => whnf) | (refine WB.tt ?_; conv => whnf) | (refine WB.ff ?_; conv => whnf)
  refine WB.dec (fun h => ?_) (fun h => ?_) <;> conv => whnf
  · have hlt : j < t.length := by omega
    have h5 : j < 5 := by omega
    have hdj := hd _ (aR (d := 0) hlt)
    have cH := DH b V p hp (S j) j (by omega) (t.getD j 0) hdj l4
    have bd1 := kZ b S p t j
    have bd2 := Br b p (S j p.1.toNat) j (t.getD j 0)
    have cP := Fj (bY b S p t j) (kF b p (S j p.1.toNat) j (t.getD j 0)) (by omega) (by omega)
    rcases vT h5 with rfl | rfl | rfl | rfl | rfl
    · repeat' first | ((first | with_reducible apply WB.tt | with_reducible apply WB.ff | refine Rn.seq ?_ | refine Rn.reg ?_ | refine Rn.drw ?_ | refine Rn.blk ?_ | refine Rn.skip ?_ | refine Rn.ret ?_ | refine Rn.exit ?_ | refine Rn.cond rfl ?_ | refine And.intro (InR.i64 (by omega) (by omega)) ?_ | refine And.intro (show _ ≠ (0 : Int) by omega) ?_ | refine WIx.intsN (by omega) ?_ | refine WIx.rowsN (by omega) ?_ | refine WIx.intsN hlt ?_ | with_reducible refine WB.decT (by first | with_reducible rfl | assumption | omega | exact ⟨rfl, rfl⟩) ?_ | with_reducible refine WB.decF (by first | assumption | omega) ?_ | with_reducible refine WB.ndT (by first | with_reducible rfl | assumption | omega | exact ⟨rfl, rfl⟩) ?_ | with_reducible refine WB.ndF (by first | assumption | omega) ?_ | with_reducible refine WB.nt ?_ | with_reducible refine WB.nf ?_) <;> conv => whnf) | (refine WB.tt ?_; conv => whnf) | (refine WB.ff ?_; conv => whnf)
      refine WSt.ixaN (m := 0) rfl rfl rfl (by decide) ?_; conv => whnf
      repeat' first | ((first | with_reducible apply WB.tt | with_reducible apply WB.ff | refine Rn.seq ?_ | refine Rn.reg ?_ | refine Rn.drw ?_ | refine Rn.blk ?_ | refine Rn.skip ?_ | refine Rn.ret ?_ | refine Rn.exit ?_ | refine Rn.cond rfl ?_ | refine And.intro (InR.i64 (by omega) (by omega)) ?_ | refine And.intro (show _ ≠ (0 : Int) by omega) ?_ | refine WIx.intsN (by omega) ?_ | refine WIx.rowsN (by omega) ?_ | refine WCall.pure (cH) ?_ | refine WCall.pure (cP) ?_ | with_reducible refine WB.decT (by first | with_reducible rfl | assumption | omega | exact ⟨rfl, rfl⟩) ?_ | with_reducible refine WB.decF (by first | assumption | omega) ?_ | with_reducible refine WB.ndT (by first | with_reducible rfl | assumption | omega | exact ⟨rfl, rfl⟩) ?_ | with_reducible refine WB.ndF (by first | assumption | omega) ?_ | with_reducible refine WB.nt ?_ | with_reducible refine WB.nf ?_) <;> conv => whnf) | (refine WB.tt ?_; conv => whnf) | (refine WB.ff ?_; conv => whnf)
      refine Again.to (0 + 1) (by omega) (show 0 + 1 ≤ t.length by omega) (Nat.le_refl _) ?_
      refine Shr.of ?_ ?_ rfl rfl
      · show Rel _ _ ((.n (.n (.n (.n .e (some (.pt (.i .h) 0 0)) .e) none .e) none (.n (.n .e (some (.pt (.i (.o .h)) 0 0)) .e) (some (.pt (.o .h) 0 0)) (.n .e (some (.i .i64 (t.length : Int))) .e))) none (.n (.n (.n .e (some (.pt (.o (.o .h)) 0 0)) .e) (some (.pt .h 0 0)) (.n .e (some (.lst 1 (ints t))) .e)) none (.n .e none (.n .e (some (.i .i64 ((0 + 1 : Nat) : Int))) .e)))) : T D) _
        (repeat' first | exact Rel.e | refine Rel.some ?_ ?_ ?_ | refine Rel.none ?_ ?_ | refine Rel.ee ?_ ?_)
        all_goals show Fz _ _ _ _
        all_goals first | exact .pu trivial | exact .pu (aB _) | exact .pu (aG _) | exact .kpt (show _ < 6 by simp [Pos.nat])
      · show Rel _ _ (.n (.n (.n .e (some (.cells false ((dX ⟨0, 0, 0⟩).map fun d => Cell.o d 0) 1)) .e) (some (.cells false ((gN S).map fun d => Cell.o d 0) 1)) .e) (some (bX b)) (.n (.n .e (some (.cells false ((dX (bY b S p t (0 + 1))).map fun d => Cell.o d 0) 1)) .e) (some (.cells false ((bL p).map fun d => Cell.o d 0) 1)) .e) : T C) _
        (repeat' first | exact Rel.e | refine Rel.some ?_ ?_ ?_ | refine Rel.none ?_ ?_ | refine Rel.ee ?_ ?_)
        all_goals first
          | exact RO'.of (show _ < 6 by simp [Pos.nat]) (aJ b)
          | (refine RO'.of (show _ < 6 by simp [Pos.nat]) (ShC.same ?_); (repeat' first | exact ShC.nl | refine ShC.cn ?_ ?_) <;> exact .pu trivial)
    · repeat' first | ((first | with_reducible apply WB.tt | with_reducible apply WB.ff | refine Rn.seq ?_ | refine Rn.reg ?_ | refine Rn.drw ?_ | refine Rn.blk ?_ | refine Rn.skip ?_ | refine Rn.ret ?_ | refine Rn.exit ?_ | refine Rn.cond rfl ?_ | refine And.intro (InR.i64 (by omega) (by omega)) ?_ | refine And.intro (show _ ≠ (0 : Int) by omega) ?_ | refine WIx.intsN (by omega) ?_ | refine WIx.rowsN (by omega) ?_ | refine WIx.intsN hlt ?_ | with_reducible refine WB.decT (by first | with_reducible rfl | assumption | omega | exact ⟨rfl, rfl⟩) ?_ | with_reducible refine WB.decF (by first | assumption | omega) ?_ | with_reducible refine WB.ndT (by first | with_reducible rfl | assumption | omega | exact ⟨rfl, rfl⟩) ?_ | with_reducible refine WB.ndF (by first | assumption | omega) ?_ | with_reducible refine WB.nt ?_ | with_reducible refine WB.nf ?_) <;> conv => whnf) | (refine WB.tt ?_; conv => whnf) | (refine WB.ff ?_; conv => whnf)
      refine WSt.ixaN (m := 1) rfl rfl rfl (by decide) ?_; conv => whnf
      repeat' first | ((first | with_reducible apply WB.tt | with_reducible apply WB.ff | refine Rn.seq ?_ | refine Rn.reg ?_ | refine Rn.drw ?_ | refine Rn.blk ?_ | refine Rn.skip ?_ | refine Rn.ret ?_ | refine Rn.exit ?_ | refine Rn.cond rfl ?_ | refine And.intro (InR.i64 (by omega) (by omega)) ?_ | refine And.intro (show _ ≠ (0 : Int) by omega) ?_ | refine WIx.intsN (by omega) ?_ | refine WIx.rowsN (by omega) ?_ | refine WCall.pure (cH) ?_ | refine WCall.pure (cP) ?_ | with_reducible refine WB.decT (by first | with_reducible rfl | assumption | omega | exact ⟨rfl, rfl⟩) ?_ | with_reducible refine WB.decF (by first | assumption | omega) ?_ | with_reducible refine WB.ndT (by first | with_reducible rfl | assumption | omega | exact ⟨rfl, rfl⟩) ?_ | with_reducible refine WB.ndF (by first | assumption | omega) ?_ | with_reducible refine WB.nt ?_ | with_reducible refine WB.nf ?_) <;> conv => whnf) | (refine WB.tt ?_; conv => whnf) | (refine WB.ff ?_; conv => whnf)
      refine Again.to (1 + 1) (by omega) (show 1 + 1 ≤ t.length by omega) (Nat.le_refl _) ?_
      refine Shr.of ?_ ?_ rfl rfl
      · show Rel _ _ ((.n (.n (.n (.n .e (some (.pt (.i .h) 0 0)) .e) none .e) none (.n (.n .e (some (.pt (.i (.o .h)) 0 0)) .e) (some (.pt (.o .h) 0 0)) (.n .e (some (.i .i64 (t.length : Int))) .e))) none (.n (.n (.n .e (some (.pt (.o (.o .h)) 0 0)) .e) (some (.pt .h 0 0)) (.n .e (some (.lst 1 (ints t))) .e)) none (.n .e none (.n .e (some (.i .i64 ((1 + 1 : Nat) : Int))) .e)))) : T D) _
        (repeat' first | exact Rel.e | refine Rel.some ?_ ?_ ?_ | refine Rel.none ?_ ?_ | refine Rel.ee ?_ ?_)
        all_goals show Fz _ _ _ _
        all_goals first | exact .pu trivial | exact .pu (aB _) | exact .pu (aG _) | exact .kpt (show _ < 6 by simp [Pos.nat])
      · show Rel _ _ (.n (.n (.n .e (some (.cells false ((dX ⟨0, 0, 0⟩).map fun d => Cell.o d 0) 1)) .e) (some (.cells false ((gN S).map fun d => Cell.o d 0) 1)) .e) (some (bX b)) (.n (.n .e (some (.cells false ((dX (bY b S p t (1 + 1))).map fun d => Cell.o d 0) 1)) .e) (some (.cells false ((bL p).map fun d => Cell.o d 0) 1)) .e) : T C) _
        (repeat' first | exact Rel.e | refine Rel.some ?_ ?_ ?_ | refine Rel.none ?_ ?_ | refine Rel.ee ?_ ?_)
        all_goals first
          | exact RO'.of (show _ < 6 by simp [Pos.nat]) (aJ b)
          | (refine RO'.of (show _ < 6 by simp [Pos.nat]) (ShC.same ?_); (repeat' first | exact ShC.nl | refine ShC.cn ?_ ?_) <;> exact .pu trivial)
    · repeat' first | ((first | with_reducible apply WB.tt | with_reducible apply WB.ff | refine Rn.seq ?_ | refine Rn.reg ?_ | refine Rn.drw ?_ | refine Rn.blk ?_ | refine Rn.skip ?_ | refine Rn.ret ?_ | refine Rn.exit ?_ | refine Rn.cond rfl ?_ | refine And.intro (InR.i64 (by omega) (by omega)) ?_ | refine And.intro (show _ ≠ (0 : Int) by omega) ?_ | refine WIx.intsN (by omega) ?_ | refine WIx.rowsN (by omega) ?_ | refine WIx.intsN hlt ?_ | with_reducible refine WB.decT (by first | with_reducible rfl | assumption | omega | exact ⟨rfl, rfl⟩) ?_ | with_reducible refine WB.decF (by first | assumption | omega) ?_ | with_reducible refine WB.ndT (by first | with_reducible rfl | assumption | omega | exact ⟨rfl, rfl⟩) ?_ | with_reducible refine WB.ndF (by first | assumption | omega) ?_ | with_reducible refine WB.nt ?_ | with_reducible refine WB.nf ?_) <;> conv => whnf) | (refine WB.tt ?_; conv => whnf) | (refine WB.ff ?_; conv => whnf)
      refine WSt.ixaN (m := 2) rfl rfl rfl (by decide) ?_; conv => whnf
      repeat' first | ((first | with_reducible apply WB.tt | with_reducible apply WB.ff | refine Rn.seq ?_ | refine Rn.reg ?_ | refine Rn.drw ?_ | refine Rn.blk ?_ | refine Rn.skip ?_ | refine Rn.ret ?_ | refine Rn.exit ?_ | refine Rn.cond rfl ?_ | refine And.intro (InR.i64 (by omega) (by omega)) ?_ | refine And.intro (show _ ≠ (0 : Int) by omega) ?_ | refine WIx.intsN (by omega) ?_ | refine WIx.rowsN (by omega) ?_ | refine WCall.pure (cH) ?_ | refine WCall.pure (cP) ?_ | with_reducible refine WB.decT (by first | with_reducible rfl | assumption | omega | exact ⟨rfl, rfl⟩) ?_ | with_reducible refine WB.decF (by first | assumption | omega) ?_ | with_reducible refine WB.ndT (by first | with_reducible rfl | assumption | omega | exact ⟨rfl, rfl⟩) ?_ | with_reducible refine WB.ndF (by first | assumption | omega) ?_ | with_reducible refine WB.nt ?_ | with_reducible refine WB.nf ?_) <;> conv => whnf) | (refine WB.tt ?_; conv => whnf) | (refine WB.ff ?_; conv => whnf)
      refine Again.to (2 + 1) (by omega) (show 2 + 1 ≤ t.length by omega) (Nat.le_refl _) ?_
      refine Shr.of ?_ ?_ rfl rfl
      · show Rel _ _ ((.n (.n (.n (.n .e (some (.pt (.i .h) 0 0)) .e) none .e) none (.n (.n .e (some (.pt (.i (.o .h)) 0 0)) .e) (some (.pt (.o .h) 0 0)) (.n .e (some (.i .i64 (t.length : Int))) .e))) none (.n (.n (.n .e (some (.pt (.o (.o .h)) 0 0)) .e) (some (.pt .h 0 0)) (.n .e (some (.lst 1 (ints t))) .e)) none (.n .e none (.n .e (some (.i .i64 ((2 + 1 : Nat) : Int))) .e)))) : T D) _
        (repeat' first | exact Rel.e | refine Rel.some ?_ ?_ ?_ | refine Rel.none ?_ ?_ | refine Rel.ee ?_ ?_)
        all_goals show Fz _ _ _ _
        all_goals first | exact .pu trivial | exact .pu (aB _) | exact .pu (aG _) | exact .kpt (show _ < 6 by simp [Pos.nat])
      · show Rel _ _ (.n (.n (.n .e (some (.cells false ((dX ⟨0, 0, 0⟩).map fun d => Cell.o d 0) 1)) .e) (some (.cells false ((gN S).map fun d => Cell.o d 0) 1)) .e) (some (bX b)) (.n (.n .e (some (.cells false ((dX (bY b S p t (2 + 1))).map fun d => Cell.o d 0) 1)) .e) (some (.cells false ((bL p).map fun d => Cell.o d 0) 1)) .e) : T C) _
        (repeat' first | exact Rel.e | refine Rel.some ?_ ?_ ?_ | refine Rel.none ?_ ?_ | refine Rel.ee ?_ ?_)
        all_goals first
          | exact RO'.of (show _ < 6 by simp [Pos.nat]) (aJ b)
          | (refine RO'.of (show _ < 6 by simp [Pos.nat]) (ShC.same ?_); (repeat' first | exact ShC.nl | refine ShC.cn ?_ ?_) <;> exact .pu trivial)
    · repeat' first | ((first | with_reducible apply WB.tt | with_reducible apply WB.ff | refine Rn.seq ?_ | refine Rn.reg ?_ | refine Rn.drw ?_ | refine Rn.blk ?_ | refine Rn.skip ?_ | refine Rn.ret ?_ | refine Rn.exit ?_ | refine Rn.cond rfl ?_ | refine And.intro (InR.i64 (by omega) (by omega)) ?_ | refine And.intro (show _ ≠ (0 : Int) by omega) ?_ | refine WIx.intsN (by omega) ?_ | refine WIx.rowsN (by omega) ?_ | refine WIx.intsN hlt ?_ | with_reducible refine WB.decT (by first | with_reducible rfl | assumption | omega | exact ⟨rfl, rfl⟩) ?_ | with_reducible refine WB.decF (by first | assumption | omega) ?_ | with_reducible refine WB.ndT (by first | with_reducible rfl | assumption | omega | exact ⟨rfl, rfl⟩) ?_ | with_reducible refine WB.ndF (by first | assumption | omega) ?_ | with_reducible refine WB.nt ?_ | with_reducible refine WB.nf ?_) <;> conv => whnf) | (refine WB.tt ?_; conv => whnf) | (refine WB.ff ?_; conv => whnf)
      refine WSt.ixaN (m := 3) rfl rfl rfl (by decide) ?_; conv => whnf
      repeat' first | ((first | with_reducible apply WB.tt | with_reducible apply WB.ff | refine Rn.seq ?_ | refine Rn.reg ?_ | refine Rn.drw ?_ | refine Rn.blk ?_ | refine Rn.skip ?_ | refine Rn.ret ?_ | refine Rn.exit ?_ | refine Rn.cond rfl ?_ | refine And.intro (InR.i64 (by omega) (by omega)) ?_ | refine And.intro (show _ ≠ (0 : Int) by omega) ?_ | refine WIx.intsN (by omega) ?_ | refine WIx.rowsN (by omega) ?_ | refine WCall.pure (cH) ?_ | refine WCall.pure (cP) ?_ | with_reducible refine WB.decT (by first | with_reducible rfl | assumption | omega | exact ⟨rfl, rfl⟩) ?_ | with_reducible refine WB.decF (by first | assumption | omega) ?_ | with_reducible refine WB.ndT (by first | with_reducible rfl | assumption | omega | exact ⟨rfl, rfl⟩) ?_ | with_reducible refine WB.ndF (by first | assumption | omega) ?_ | with_reducible refine WB.nt ?_ | with_reducible refine WB.nf ?_) <;> conv => whnf) | (refine WB.tt ?_; conv => whnf) | (refine WB.ff ?_; conv => whnf)
      refine Again.to (3 + 1) (by omega) (show 3 + 1 ≤ t.length by omega) (Nat.le_refl _) ?_
      refine Shr.of ?_ ?_ rfl rfl
      · show Rel _ _ ((.n (.n (.n (.n .e (some (.pt (.i .h) 0 0)) .e) none .e) none (.n (.n .e (some (.pt (.i (.o .h)) 0 0)) .e) (some (.pt (.o .h) 0 0)) (.n .e (some (.i .i64 (t.length : Int))) .e))) none (.n (.n (.n .e (some (.pt (.o (.o .h)) 0 0)) .e) (some (.pt .h 0 0)) (.n .e (some (.lst 1 (ints t))) .e)) none (.n .e none (.n .e (some (.i .i64 ((3 + 1 : Nat) : Int))) .e)))) : T D) _
        (repeat' first | exact Rel.e | refine Rel.some ?_ ?_ ?_ | refine Rel.none ?_ ?_ | refine Rel.ee ?_ ?_)
        all_goals show Fz _ _ _ _
        all_goals first | exact .pu trivial | exact .pu (aB _) | exact .pu (aG _) | exact .kpt (show _ < 6 by simp [Pos.nat])
      · show Rel _ _ (.n (.n (.n .e (some (.cells false ((dX ⟨0, 0, 0⟩).map fun d => Cell.o d 0) 1)) .e) (some (.cells false ((gN S).map fun d => Cell.o d 0) 1)) .e) (some (bX b)) (.n (.n .e (some (.cells false ((dX (bY b S p t (3 + 1))).map fun d => Cell.o d 0) 1)) .e) (some (.cells false ((bL p).map fun d => Cell.o d 0) 1)) .e) : T C) _
        (repeat' first | exact Rel.e | refine Rel.some ?_ ?_ ?_ | refine Rel.none ?_ ?_ | refine Rel.ee ?_ ?_)
        all_goals first
          | exact RO'.of (show _ < 6 by simp [Pos.nat]) (aJ b)
          | (refine RO'.of (show _ < 6 by simp [Pos.nat]) (ShC.same ?_); (repeat' first | exact ShC.nl | refine ShC.cn ?_ ?_) <;> exact .pu trivial)
    · repeat' first | ((first | with_reducible apply WB.tt | with_reducible apply WB.ff | refine Rn.seq ?_ | refine Rn.reg ?_ | refine Rn.drw ?_ | refine Rn.blk ?_ | refine Rn.skip ?_ | refine Rn.ret ?_ | refine Rn.exit ?_ | refine Rn.cond rfl ?_ | refine And.intro (InR.i64 (by omega) (by omega)) ?_ | refine And.intro (show _ ≠ (0 : Int) by omega) ?_ | refine WIx.intsN (by omega) ?_ | refine WIx.rowsN (by omega) ?_ | refine WIx.intsN hlt ?_ | with_reducible refine WB.decT (by first | with_reducible rfl | assumption | omega | exact ⟨rfl, rfl⟩) ?_ | with_reducible refine WB.decF (by first | assumption | omega) ?_ | with_reducible refine WB.ndT (by first | with_reducible rfl | assumption | omega | exact ⟨rfl, rfl⟩) ?_ | with_reducible refine WB.ndF (by first | assumption | omega) ?_ | with_reducible refine WB.nt ?_ | with_reducible refine WB.nf ?_) <;> conv => whnf) | (refine WB.tt ?_; conv => whnf) | (refine WB.ff ?_; conv => whnf)
      refine WSt.ixaN (m := 4) rfl rfl rfl (by decide) ?_; conv => whnf
      repeat' first | ((first | with_reducible apply WB.tt | with_reducible apply WB.ff | refine Rn.seq ?_ | refine Rn.reg ?_ | refine Rn.drw ?_ | refine Rn.blk ?_ | refine Rn.skip ?_ | refine Rn.ret ?_ | refine Rn.exit ?_ | refine Rn.cond rfl ?_ | refine And.intro (InR.i64 (by omega) (by omega)) ?_ | refine And.intro (show _ ≠ (0 : Int) by omega) ?_ | refine WIx.intsN (by omega) ?_ | refine WIx.rowsN (by omega) ?_ | refine WCall.pure (cH) ?_ | refine WCall.pure (cP) ?_ | with_reducible refine WB.decT (by first | with_reducible rfl | assumption | omega | exact ⟨rfl, rfl⟩) ?_ | with_reducible refine WB.decF (by first | assumption | omega) ?_ | with_reducible refine WB.ndT (by first | with_reducible rfl | assumption | omega | exact ⟨rfl, rfl⟩) ?_ | with_reducible refine WB.ndF (by first | assumption | omega) ?_ | with_reducible refine WB.nt ?_ | with_reducible refine WB.nf ?_) <;> conv => whnf) | (refine WB.tt ?_; conv => whnf) | (refine WB.ff ?_; conv => whnf)
      refine Again.to (4 + 1) (by omega) (show 4 + 1 ≤ t.length by omega) (Nat.le_refl _) ?_
      refine Shr.of ?_ ?_ rfl rfl
      · show Rel _ _ ((.n (.n (.n (.n .e (some (.pt (.i .h) 0 0)) .e) none .e) none (.n (.n .e (some (.pt (.i (.o .h)) 0 0)) .e) (some (.pt (.o .h) 0 0)) (.n .e (some (.i .i64 (t.length : Int))) .e))) none (.n (.n (.n .e (some (.pt (.o (.o .h)) 0 0)) .e) (some (.pt .h 0 0)) (.n .e (some (.lst 1 (ints t))) .e)) none (.n .e none (.n .e (some (.i .i64 ((4 + 1 : Nat) : Int))) .e)))) : T D) _
        (repeat' first | exact Rel.e | refine Rel.some ?_ ?_ ?_ | refine Rel.none ?_ ?_ | refine Rel.ee ?_ ?_)
        all_goals show Fz _ _ _ _
        all_goals first | exact .pu trivial | exact .pu (aB _) | exact .pu (aG _) | exact .kpt (show _ < 6 by simp [Pos.nat])
      · show Rel _ _ (.n (.n (.n .e (some (.cells false ((dX ⟨0, 0, 0⟩).map fun d => Cell.o d 0) 1)) .e) (some (.cells false ((gN S).map fun d => Cell.o d 0) 1)) .e) (some (bX b)) (.n (.n .e (some (.cells false ((dX (bY b S p t (4 + 1))).map fun d => Cell.o d 0) 1)) .e) (some (.cells false ((bL p).map fun d => Cell.o d 0) 1)) .e) : T C) _
        (repeat' first | exact Rel.e | refine Rel.some ?_ ?_ ?_ | refine Rel.none ?_ ?_ | refine Rel.ee ?_ ?_)
        all_goals first
          | exact RO'.of (show _ < 6 by simp [Pos.nat]) (aJ b)
          | (refine RO'.of (show _ < 6 by simp [Pos.nat]) (ShC.same ?_); (repeat' first | exact ShC.nl | refine ShC.cn ?_ ?_) <;> exact .pu trivial)
  · obtain rfl : j = t.length := by omega
    repeat' first | ((first | with_reducible apply WB.tt | with_reducible apply WB.ff | refine Rn.seq ?_ | refine Rn.reg ?_ | refine Rn.drw ?_ | refine Rn.blk ?_ | refine Rn.skip ?_ | refine Rn.ret ?_ | refine Rn.exit ?_ | refine Rn.cond rfl ?_ | refine And.intro (InR.i64 (by omega) (by omega)) ?_ | refine And.intro (show _ ≠ (0 : Int) by omega) ?_ | refine WIx.intsN (by omega) ?_ | refine WIx.rowsN (by omega) ?_ | with_reducible refine WB.decT (by first | with_reducible rfl | assumption | omega | exact ⟨rfl, rfl⟩) ?_ | with_reducible refine WB.decF (by first | assumption | omega) ?_ | with_reducible refine WB.ndT (by first | with_reducible rfl | assumption | omega | exact ⟨rfl, rfl⟩) ?_ | with_reducible refine WB.ndF (by first | assumption | omega) ?_ | with_reducible refine WB.nt ?_ | with_reducible refine WB.nf ?_) <;> conv => whnf) | (refine WB.tt ?_; conv => whnf) | (refine WB.ff ?_; conv => whnf)
    exact ⟨.inr rfl, _, rfl, .pu (by simp [one, Pu, aT, dX])⟩
theorem Ly {l : List Int} (h : l.length ≤ 3) : l = [] ∨ (∃ a, l = [a]) ∨ (∃ a b, l = [a, b]) ∨ ∃ a b c, l = [a, b, c] := by
  match l, h with
  | [], _ => exact .inl rfl
  | [a], _ => exact .inr (.inl ⟨a, rfl⟩)
  | [a, b], _ => exact .inr (.inr (.inl ⟨a, b, rfl⟩))
  | [a, b, c], _ => exact .inr (.inr (.inr ⟨a, b, c, rfl⟩))
  | _ :: _ :: _ :: _ :: _, h => exact absurd h (by simp)
def Mq (F : Nat → Int) : List D := [.i .i64 (F 0), .i .i64 (F 1), .i .i64 (F 2)]
theorem Dg (l : List Int) (h1 : 1 ≤ l.length) (h : l.length ≤ 3) : PureF Tryz.prog p107.ix [.lst 1 (ints l)] (.ag (Mq fun r => l.getD r 0)) := by
  refine PureF.run HT (by simp) (by simp [aT, dU, Pu, aB]) ?_; conv => whnf
  rcases Ly h with rfl | ⟨a, rfl⟩ | ⟨a, b, rfl⟩ | ⟨a, b, c, rfl⟩
  · exact absurd h1 (by decide)
  all_goals
    repeat' first | ((first | with_reducible apply WB.tt | with_reducible apply WB.ff | refine Rn.seq ?_ | refine Rn.reg ?_ | refine Rn.drw ?_ | refine Rn.blk ?_ | refine Rn.skip ?_ | refine Rn.ret ?_ | refine Rn.exit ?_ | refine Rn.cond rfl ?_ | refine And.intro (InR.i64 (by omega) (by omega)) ?_ | refine And.intro (show _ ≠ (0 : Int) by omega) ?_ | refine WIx.intsN (by omega) ?_ | refine WIx.rowsN (by omega) ?_ | with_reducible refine WB.decT (by first | with_reducible rfl | assumption | omega | exact ⟨rfl, rfl⟩) ?_ | with_reducible refine WB.decF (by first | assumption | omega) ?_ | with_reducible refine WB.ndT (by first | with_reducible rfl | assumption | omega | exact ⟨rfl, rfl⟩) ?_ | with_reducible refine WB.ndF (by first | assumption | omega) ?_ | with_reducible refine WB.nt ?_ | with_reducible refine WB.nf ?_) <;> conv => whnf) | (refine WB.tt ?_; conv => whnf) | (refine WB.ff ?_; conv => whnf)
    refine ⟨_, rfl, ?_⟩; conv => whnf
    repeat' first | ((first | with_reducible apply WB.tt | with_reducible apply WB.ff | refine Rn.seq ?_ | refine Rn.reg ?_ | refine Rn.drw ?_ | refine Rn.blk ?_ | refine Rn.skip ?_ | refine Rn.ret ?_ | refine Rn.exit ?_ | refine Rn.cond rfl ?_ | refine And.intro (InR.i64 (by omega) (by omega)) ?_ | refine And.intro (show _ ≠ (0 : Int) by omega) ?_ | refine WIx.intsN (by omega) ?_ | refine WIx.rowsN (by omega) ?_ | with_reducible refine WB.decT (by first | with_reducible rfl | assumption | omega | exact ⟨rfl, rfl⟩) ?_ | with_reducible refine WB.decF (by first | assumption | omega) ?_ | with_reducible refine WB.ndT (by first | with_reducible rfl | assumption | omega | exact ⟨rfl, rfl⟩) ?_ | with_reducible refine WB.ndF (by first | assumption | omega) ?_ | with_reducible refine WB.nt ?_ | with_reducible refine WB.nf ?_) <;> conv => whnf) | (refine WB.tt ?_; conv => whnf) | (refine WB.ff ?_; conv => whnf)
    refine ⟨_, rfl, ?_⟩; conv => whnf
    repeat' first | ((first | with_reducible apply WB.tt | with_reducible apply WB.ff | refine Rn.seq ?_ | refine Rn.reg ?_ | refine Rn.drw ?_ | refine Rn.blk ?_ | refine Rn.skip ?_ | refine Rn.ret ?_ | refine Rn.exit ?_ | refine Rn.cond rfl ?_ | refine And.intro (InR.i64 (by omega) (by omega)) ?_ | refine And.intro (show _ ≠ (0 : Int) by omega) ?_ | refine WIx.intsN (by omega) ?_ | refine WIx.rowsN (by omega) ?_ | with_reducible refine WB.decT (by first | with_reducible rfl | assumption | omega | exact ⟨rfl, rfl⟩) ?_ | with_reducible refine WB.decF (by first | assumption | omega) ?_ | with_reducible refine WB.ndT (by first | with_reducible rfl | assumption | omega | exact ⟨rfl, rfl⟩) ?_ | with_reducible refine WB.ndF (by first | assumption | omega) ?_ | with_reducible refine WB.nt ?_ | with_reducible refine WB.nf ?_) <;> conv => whnf) | (refine WB.tt ?_; conv => whnf) | (refine WB.ff ?_; conv => whnf)
    exact ⟨.inr rfl, _, rfl, .pu (by simp [one, Pu, aT])⟩
def Jr (L : List (List Int)) (j h r : Nat) : Int := bif Nat.blt h j then (L.getD h default).getD r 0 else 0
def dA (L : List (List Int)) (h r : Nat) : Int := (L.getD h default).getD r 0
theorem DN (L : List (List Int)) (h r : Nat) : Jr L L.length h r = dA L h r := by
 unfold Jr dA
 cases hb : Nat.blt h L.length with
 | true => rfl
 | false =>
   have : ¬ h < L.length := fun k => by rw [show Nat.blt h L.length = true from Nat.ble_eq_true_of_le k] at hb; cases hb
   have e : L.getD h default = [] := by simp [List.getD, this]; rfl
   rw [e]; rfl
theorem uT (L : List (List Int)) (h5 : L.length <= 5) (h3 : ∀ w ∈ L, 1 <= w.length /\ w.length <= 3) : PureF Tryz.prog p84.ix [.lst 1 (aD cJ L)] (.ag (gN (dA L))) := by
 have e1 := aK cJ L
 have he : gN (dA L) = gN (Jr L L.length) := by simp only [gN, DN]
 rw [he]
 refine PureF.run KQ (by simp) (by simp [aT, dU, Pu, aG]) ?_; conv => whnf
 repeat' ((first | refine Qw ?_ | refine Qv ?_) <;> conv => whnf)
 refine Rn.loop (fun j : Nat => ⟨(.n (.n (.n (.n .e (some (.i .i64 (L.length : Int))) .e) (some (.pt (.o .h) 0 0)) .e) none .e) none (.n (.n (.n .e (some (.i .i64 (j : Int))) .e) none .e) (some (.pt .h 0 0)) (.n .e (some (.lst 1 (aD cJ L))) .e))), .n (.n .e (some (.cells false ((gN (Jr L j)).map fun d => Cell.o d 0) 1)) .e) (some (.cells false ((gN fun _ _ => 0).map fun d => Cell.o d 0) 1)) .e, .i .h, none⟩) (fun j => j <= L.length) (fun j => L.length - j) 0 ?_ (Nat.zero_le _) ?_
 ·refine X.le.mk ?_ ?_ (Nat.le_refl _) rfl rfl
  all_goals (try rw [<- e1])
  all_goals (repeat' first | exact T.le_e _ | exact T.le_refl _ | refine T.le_some ?_ rfl ?_ | refine T.le_none ?_ ?_ | refine T.le_ee ?_ ?_)
 intro j hj
 have hj : j <= L.length := hj
 conv => whnf
 repeat' ((first | refine Qw ?_ | refine Qv ?_) <;> conv => whnf)
 refine WB.dec (fun h => ?_) (fun h => ?_) <;> conv => whnf
 ·have hlt : j < L.length := by omega
  have hj5 : j < 5 := by omega
  have cF := Dg (L.getD j default) (h3 _ (aR hlt)).1 (h3 _ (aR hlt)).2
  rcases vT hj5 with rfl | rfl | rfl | rfl | rfl
  ·repeat' ((first | refine Qz ?_ | refine Qf cF ?_ | refine WIx.rowsN hlt ?_ | refine Qy ?_ | refine Qv ?_) <;> conv => whnf)
   refine WSt.ixaN (m := 0) rfl rfl rfl (by decide) ?_; conv => whnf
   repeat' ((first | refine Qw ?_ | refine Qv ?_) <;> conv => whnf)
   refine Again.to (0 + 1) (by omega) (show 0 + 1 <= L.length by omega) (Nat.le_refl _) ?_
   refine Shr.of ?_ ?_ rfl rfl
   ·(repeat' first | exact Rel.e | refine Rel.some ?_ ?_ ?_ | refine Rel.none ?_ ?_ | refine Rel.ee ?_ ?_)
    all_goals show Fz _ _ _ _
    all_goals first | exact .pu trivial | exact .pu (aB _) | exact .pu (aG _) | exact .kpt (Ql rfl)
   ·(repeat' first | exact Rel.e | refine Rel.some ?_ ?_ ?_ | refine Rel.none ?_ ?_ | refine Rel.ee ?_ ?_)
    all_goals first
     | exact Ro (aJ b)
     | (refine Ro (ShC.same ?_); (repeat' first | exact ShC.nl | refine ShC.cn ?_ ?_) <;> exact .pu trivial)
  ·repeat' ((first | refine Qz ?_ | refine Qf cF ?_ | refine WIx.rowsN hlt ?_ | refine Qy ?_ | refine Qv ?_) <;> conv => whnf)
   refine WSt.ixaN (m := 1) rfl rfl rfl (by decide) ?_; conv => whnf
   repeat' ((first | refine Qw ?_ | refine Qv ?_) <;> conv => whnf)
   refine Again.to (1 + 1) (by omega) (show 1 + 1 <= L.length by omega) (Nat.le_refl _) ?_
   refine Shr.of ?_ ?_ rfl rfl
   ·(repeat' first | exact Rel.e | refine Rel.some ?_ ?_ ?_ | refine Rel.none ?_ ?_ | refine Rel.ee ?_ ?_)
    all_goals show Fz _ _ _ _
    all_goals first | exact .pu trivial | exact .pu (aB _) | exact .pu (aG _) | exact .kpt (Ql rfl)
   ·(repeat' first | exact Rel.e | refine Rel.some ?_ ?_ ?_ | refine Rel.none ?_ ?_ | refine Rel.ee ?_ ?_)
    all_goals first
     | exact Ro (aJ b)
     | (refine Ro (ShC.same ?_); (repeat' first | exact ShC.nl | refine ShC.cn ?_ ?_) <;> exact .pu trivial)
  ·repeat' ((first | refine Qz ?_ | refine Qf cF ?_ | refine WIx.rowsN hlt ?_ | refine Qy ?_ | refine Qv ?_) <;> conv => whnf)
   refine WSt.ixaN (m := 2) rfl rfl rfl (by decide) ?_; conv => whnf
   repeat' ((first | refine Qw ?_ | refine Qv ?_) <;> conv => whnf)
   refine Again.to (2 + 1) (by omega) (show 2 + 1 <= L.length by omega) (Nat.le_refl _) ?_
   refine Shr.of ?_ ?_ rfl rfl
   ·(repeat' first | exact Rel.e | refine Rel.some ?_ ?_ ?_ | refine Rel.none ?_ ?_ | refine Rel.ee ?_ ?_)
    all_goals show Fz _ _ _ _
    all_goals first | exact .pu trivial | exact .pu (aB _) | exact .pu (aG _) | exact .kpt (Ql rfl)
   ·(repeat' first | exact Rel.e | refine Rel.some ?_ ?_ ?_ | refine Rel.none ?_ ?_ | refine Rel.ee ?_ ?_)
    all_goals first
     | exact Ro (aJ b)
     | (refine Ro (ShC.same ?_); (repeat' first | exact ShC.nl | refine ShC.cn ?_ ?_) <;> exact .pu trivial)
  ·repeat' ((first | refine Qz ?_ | refine Qf cF ?_ | refine WIx.rowsN hlt ?_ | refine Qy ?_ | refine Qv ?_) <;> conv => whnf)
   refine WSt.ixaN (m := 3) rfl rfl rfl (by decide) ?_; conv => whnf
   repeat' ((first | refine Qw ?_ | refine Qv ?_) <;> conv => whnf)
   refine Again.to (3 + 1) (by omega) (show 3 + 1 <= L.length by omega) (Nat.le_refl _) ?_
   refine Shr.of ?_ ?_ rfl rfl
   ·(repeat' first | exact Rel.e | refine Rel.some ?_ ?_ ?_ | refine Rel.none ?_ ?_ | refine Rel.ee ?_ ?_)
    all_goals show Fz _ _ _ _
    all_goals first | exact .pu trivial | exact .pu (aB _) | exact .pu (aG _) | exact .kpt (Ql rfl)
   ·(repeat' first | exact Rel.e | refine Rel.some ?_ ?_ ?_ | refine Rel.none ?_ ?_ | refine Rel.ee ?_ ?_)
    all_goals first
     | exact Ro (aJ b)
     | (refine Ro (ShC.same ?_); (repeat' first | exact ShC.nl | refine ShC.cn ?_ ?_) <;> exact .pu trivial)
  ·repeat' ((first | refine Qz ?_ | refine Qf cF ?_ | refine WIx.rowsN hlt ?_ | refine Qy ?_ | refine Qv ?_) <;> conv => whnf)
   refine WSt.ixaN (m := 4) rfl rfl rfl (by decide) ?_; conv => whnf
   repeat' ((first | refine Qw ?_ | refine Qv ?_) <;> conv => whnf)
   refine Again.to (4 + 1) (by omega) (show 4 + 1 <= L.length by omega) (Nat.le_refl _) ?_
   refine Shr.of ?_ ?_ rfl rfl
   ·(repeat' first | exact Rel.e | refine Rel.some ?_ ?_ ?_ | refine Rel.none ?_ ?_ | refine Rel.ee ?_ ?_)
    all_goals show Fz _ _ _ _
    all_goals first | exact .pu trivial | exact .pu (aB _) | exact .pu (aG _) | exact .kpt (Ql rfl)
   ·(repeat' first | exact Rel.e | refine Rel.some ?_ ?_ ?_ | refine Rel.none ?_ ?_ | refine Rel.ee ?_ ?_)
    all_goals first
     | exact Ro (aJ b)
     | (refine Ro (ShC.same ?_); (repeat' first | exact ShC.nl | refine ShC.cn ?_ ?_) <;> exact .pu trivial)
 ·obtain rfl : j = L.length := by omega
  repeat' ((first | refine Qw ?_ | refine Qv ?_) <;> conv => whnf)
  exact ⟨.inr rfl, _, rfl, .pu (by simp [one, Pu, aT, gN])⟩
def jF (b : Bh) (L : List (List Int)) : Bool := decide ((L.length : Int) = b.last + 1) && L.all (nJ b)
theorem uW (b : Bh) (L : List (List Int)) (h0 : -9223372036854775808 <= b.last + 1 /\ b.last + 1 <= 9223372036854775807) (h1 : L.length <= 1000) (h2 : ∀ w ∈ L, w.length <= 1000) : PureF Tryz.prog p82.ix [.ag (eA b), .lst 1 (aD cJ L)] (.b (jF b L)) := by
 have e1 := aK cJ L
 have cA := Cx L p117 [.ag (eA b)] [] (nJ b) (by simp [aT, Pu, aX]) trivial h1 (fun w hw => uS b w (h2 w hw))
 refine PureF.run KL (by simp) (by simp [aT, Pu, aX, aG]) ?_; conv => whnf
 unfold jF
 by_cases k : (L.length : Int) = b.last + 1
 rotate_left
 ·rw [decide_eq_false k]
  repeat' first | ((first | refine Qw ?_ | refine Qd (fun h => ?_) (fun h => ?_)) <;> conv => whnf) | (refine WB.tt ?_; conv => whnf) | (refine WB.ff ?_; conv => whnf)
  exact Fin.b rfl rfl
 rw [decide_eq_true k]
 repeat' first | ((first | refine Qw ?_ | refine Qf cA ?_ | refine Qd (fun h => ?_) (fun h => ?_)) <;> conv => whnf) | (refine WB.tt ?_; conv => whnf) | (refine WB.ff ?_; conv => whnf)
 exact Fin.b rfl rfl
theorem BX (b : Bh) (L : List (List Int)) (h0 : -9223372036854775808 <= b.last + 1 /\ b.last + 1 <= 9223372036854775807) (h1 : L.length <= 1000) (h2 : ∀ w ∈ L, w.length <= 1000) : PureF Tryz.prog p31.ix [.ag (eA b), .lst 1 (aD cJ L)] (.b (jF b L)) := by
 have e1 := aK cJ L
 refine PureF.run KK (by simp) (by simp [aT, Pu, aX, aG]) ?_; conv => whnf
 repeat' ((first | refine Qw ?_ | refine Qv ?_) <;> conv => whnf)
 refine Rn.loop (fun j : Nat => ⟨(.n (.n .e (some (.lst 1 (aD cJ L))) (.n .e (some (.i .i64 (j : Int))) .e)) none (.n .e (some (.pt .h 0 0)) .e)), .n .e (some (bX b)) .e, .o .h, none⟩) (fun j => j <= L.length /\ (L.take j).all (nJ b) = true) (fun j => L.length - j) 0 ?_ ⟨Nat.zero_le _, by simp⟩ ?_
 ·refine X.le.mk ?_ ?_ (Nat.le_refl _) rfl rfl
  all_goals (repeat' first | exact T.le_e _ | exact T.le_refl _ | refine T.le_some ?_ rfl ?_ | refine T.le_none ?_ ?_ | refine T.le_ee ?_ ?_)
 rintro j ⟨hj, ha⟩
 conv => whnf
 repeat' ((first | refine Qw ?_ | refine Qv ?_) <;> conv => whnf)
 refine WB.dec (fun h => ?_) (fun h => ?_) <;> conv => whnf
 ·have hlt : j < L.length := by omega
  have cD := fP (L.getD j default) 0 (h2 _ (aR hlt))
  have ew := aL (L.getD j default)
  have bad : nJ b (L.getD j default) = false -> jF b L = false := fun h => by unfold jF; rw [eB (d := default) hlt h, Bool.and_false]
  by_cases k1 : ((L.getD j default).length : Int) = b.rws
  rotate_left
  ·rw [bad (by unfold nJ; rw [decide_eq_false k1]; rfl)]
   repeat' first | ((first | refine Qw ?_ | refine Qd (fun h => ?_) (fun h => ?_)) <;> conv => whnf) | (refine WB.tt ?_; conv => whnf) | (refine WB.ff ?_; conv => whnf)
   exact Fin.b rfl rfl
  cases k2 : (L.getD j default).all (fun n => iJ n 0 3) with
  | false =>
    rw [bad (by unfold nJ; rw [show (L.getD j default).all gO = false from k2, Bool.and_false])]
    rw [k2] at cD
    repeat' first | ((first | refine Qw ?_ | refine Qf cD ?_ | refine Qd (fun h => ?_) (fun h => ?_)) <;> conv => whnf) | (refine WB.tt ?_; conv => whnf) | (refine WB.ff ?_; conv => whnf)
    exact Fin.b rfl rfl
  | true =>
    rw [k2] at cD
    repeat' first | ((first | refine Qw ?_ | refine Qf cD ?_ | refine Qd (fun h => ?_) (fun h => ?_)) <;> conv => whnf) | (refine WB.tt ?_; conv => whnf) | (refine WB.ff ?_; conv => whnf)
    refine Again.to (j + 1) (by omega) ⟨by omega, bI (d := default) hlt ha (by unfold nJ; rw [decide_eq_true k1, show (L.getD j default).all gO = true from k2]; rfl)⟩ (Nat.le_refl _) ?_
    refine Shr.of ?_ ?_ rfl rfl
    ·(repeat' first | exact Rel.e | refine Rel.some ?_ ?_ ?_ | refine Rel.none ?_ ?_ | refine Rel.ee ?_ ?_)
     all_goals show Fz _ _ _ _
     all_goals first | exact .pu trivial | exact .pu (aB _) | exact .pu (aG _) | exact .kpt (Ql rfl)
    ·(repeat' first | exact Rel.e | refine Rel.some ?_ ?_ ?_ | refine Rel.none ?_ ?_ | refine Rel.ee ?_ ?_)
     all_goals first
      | exact Ro (aJ b)
      | (refine Ro (ShC.same ?_); (repeat' first | exact ShC.nl | refine ShC.cn ?_ ?_) <;> exact .pu trivial)
 ·have hB := fA (by omega) ha
  unfold jF
  rw [hB, Bool.and_true]
  by_cases k : (L.length : Int) = b.last + 1
  ·rw [decide_eq_true k]
   repeat' first | ((first | refine Qw ?_ | refine Qd (fun h => ?_) (fun h => ?_)) <;> conv => whnf) | (refine WB.tt ?_; conv => whnf) | (refine WB.ff ?_; conv => whnf)
   exact Fin.b rfl (by first | rfl | (refine decide_eq_true ?_; omega))
  ·rw [decide_eq_false k]
   repeat' first | ((first | refine Qw ?_ | refine Qd (fun h => ?_) (fun h => ?_)) <;> conv => whnf) | (refine WB.tt ?_; conv => whnf) | (refine WB.ff ?_; conv => whnf)
   exact Fin.b rfl (by first | rfl | (refine decide_eq_false ?_; omega))
def iW {τ : Type} (H : Nat -> Nat -> τ) (n m : Nat) : List (List τ) := (List.range n).map fun r => (List.range m).map (H r)
theorem vI {τ : Type} (H : Nat -> Nat -> τ) (n m : Nat) : iW H (n + 1) m = iW H n m ++ [(List.range m).map (H n)] := by
 unfold iW; rw [List.range_succ, List.map_append]; rfl
theorem tJ {τ : Type} (H : Nat -> Nat -> τ) (n m : Nat) : (iW H n m).length = n := by simp [iW]
theorem vG (a : Hr) : (dX a).length = 3 := rfl
theorem fJ (a : Hr) : aT (dX a) := by simp [dX, aT, Pu]
def aF (xs : List Hr) : List D := [.lst 3 (aD dX xs)]
theorem gI (xs : List Hr) : (aF xs).length = 1 := rfl
theorem aP (xs : List Hr) : aT (aF xs) := by
 simp only [aF, aT, Pu, and_true]
 exact fS fJ xs
def qM (b : Bh) (g : Pos) (first caps : List D) (i : Nat) (A : List Hr) (j : Nat) : X := ⟨(.n (.n (.n (.n .e (some (rA (.i .h) 3 A)) .e) none (.n .e (some (.i .i64 b.rws)) .e)) (some (.fn g first caps)) (.n (.n (.n .e (some (.i .i64 b.pls)) .e) none .e) (some (.ns)) .e)) none (.n (.n .e none (.n .e (some (.i .i64 (i : Int))) .e)) (some (.pt .h 0 0)) (.n (.n (.n .e (some (.i .i64 (j : Int))) .e) none .e) (some (.i .i64 (i : Int))) .e))), (.n .e (some (bX b)) (.n .e (rY dX A) .e)), fC (.o .h) (.o (.o .h)) A, none⟩
def pM (b : Bh) (g : Pos) (first caps : List D) (i : Nat) (a0 : List Hr) (s0 : List (List Hr)) (A : List Hr) (j : Nat) : X := ⟨(.n (.n (.n (.n .e (some (rA (.i (.i .h)) 3 A)) .e) none (.n .e (some (.i .i64 b.rws)) .e)) (some (.fn g first caps)) (.n (.n (.n .e (some (.i .i64 b.pls)) .e) none .e) (some (.sl (.i (.o .h)) 0 (s0.length + 1) s0.length 1)) .e)) none (.n (.n .e none (.n .e (some (.i .i64 (i : Int))) .e)) (some (.pt .h 0 0)) (.n (.n (.n .e (some (.i .i64 (j : Int))) .e) none .e) (some (.i .i64 (i : Int))) .e))), (.n .e (some (bX b)) (.n (.n .e (some (.cells false ((aD aF (a0 :: s0)).flatten.map fun d => Cell.o d s0.length) (s0.length + 1))) .e) none (.n .e (rY dX A) .e))), fC (.o (.i .h)) (.o (.o (.o .h))) A, none⟩
def qL (b : Bh) (g : Pos) (first caps : List D) (A : List (List Hr)) (i : Nat) : X := ⟨(.n (.n (.n .e none (.n .e (some (.i .i64 b.rws)) .e)) (some (.fn g first caps)) (.n .e (some (rA (.i (.o .h)) 1 A)) .e)) none (.n (.n .e none (.n .e (some (.i .i64 (i : Int))) .e)) (some (.pt .h 0 0)) .e)), .n .e (some (bX b)) (.n (.n .e (rY aF A) .e) none .e), fC (.o .h) (.o (.i .h)) A, none⟩
theorem Ic (b : Bh) (V : VW b) (g : Pos) (first caps : List D) (H : Nat -> Nat -> Hr) (h1 : aT first) (h2 : aT caps) (hg : ∀ r p : Nat, r < b.rws.toNat -> p < b.pls.toNat -> PureF Tryz.prog g.ix (first ++ ([.ag [.i .i64 (r : Int), .i .i64 (p : Int)]] ++ caps)) (.ag (dX (H r p)))) : PureF Tryz.prog p85.ix [.ag (eA b), .fn g first caps] (.lst 1 (aD aF (iW H b.rws.toNat b.pls.toNat))) := by
 have q1 := V.rws
 have q2 := V.pls
 refine PureF.run Kw (by simp) (by simp [aT, dU, Pu, aX, h1, h2]) ?_; conv => whnf
 repeat' ((first | refine Qw ?_ | refine Qv ?_) <;> conv => whnf)
 refine Rn.loopB (fun i : Nat => qL b g first caps (iW H i b.pls.toNat) i) (fun i => i <= b.rws.toNat) (fun i => b.rws.toNat - i) 0 ?_ (Nat.zero_le _) ?_
 ·refine X.le.mk ?_ ?_ (Nat.le_refl _) rfl rfl
  ·exact Lw
  ·exact Lw
 intro i hi
 have hi : i <= b.rws.toNat := hi
 have osc := vI H i b.pls.toNat
 have olen := tJ H i b.pls.toNat
 have oend : i = b.rws.toNat -> iW H i b.pls.toNat = iW H b.rws.toNat b.pls.toNat := fun h => by rw [h]
 generalize hO : iW H i b.pls.toNat = O at *
 cases O with
 | nil =>
   conv => whnf
   repeat' ((first | refine Qw ?_ | refine Qv ?_) <;> conv => whnf)
   refine WB.dec (fun hd => ?_) (fun hd => ?_) <;> conv => whnf
   ·have hlt : i < b.rws.toNat := by omega
    repeat' ((first | refine Qw ?_ | refine Qv ?_) <;> conv => whnf)
    refine Rn.loop (fun j : Nat => qM b g first caps i ((List.range j).map (H i)) j) (fun j => j <= b.pls.toNat /\ True) (fun j => b.pls.toNat - j) 0 ?_ ?_ ?_
    ·refine X.le.mk ?_ ?_ (Nat.le_refl _) rfl rfl
     ·show T.le ((.n (.n (.n (.n .e (some (.ns)) .e) none (.n .e (some (.i .i64 b.rws)) .e)) (some (.fn g first caps)) (.n (.n (.n .e (some (.i .i64 b.pls)) .e) none .e) (some (.ns)) .e)) none (.n (.n .e none (.n .e (some (.i .i64 (i : Int))) .e)) (some (.pt .h 0 0)) (.n (.n (.n .e (some (.i .i64 0)) .e) none .e) (some (.i .i64 (i : Int))) .e))) : Ev.T D) _
      exact Lw
     ·exact Lw
    ·exact ⟨Nat.zero_le _, trivial⟩
    rintro j ⟨hj, _⟩
    have hsc0 : (List.range (j + 1)).map (H i) = (List.range j).map (H i) ++ [H i j] := by rw [List.range_succ, List.map_append]; rfl
    have hAl : ((List.range j).map (H i)).length <= j := by simp
    have hend : j = b.pls.toNat -> (List.range j).map (H i) = (List.range b.pls.toNat).map (H i) := fun h => by rw [h]
    have hne : 0 < j -> (List.range j).map (H i) ≠ [] := fun h e => by have := congrArg List.length e; simp at this; omega
    generalize hA : (List.range j).map (H i) = A at *
    conv => whnf
    repeat' ((first | refine Qw ?_ | refine Qv ?_) <;> conv => whnf)
    refine WB.dec (fun hd2 => ?_) (fun hd2 => ?_) <;> conv => whnf
    ·have hlt2 : j < b.pls.toNat := by omega
     have hsc := hsc0
     have cG := hg i j hlt hlt2
     cases A with
     | nil =>
       repeat' ((first | refine Qw ?_ | refine Qf cG ?_ | refine Qv ?_) <;> conv => whnf)
       refine WSt.app_first (r := dX (H i j)) (by rfl) (.inl rfl) (by rfl) (by rfl) (by rfl) (by rfl) ?_; conv => whnf
       repeat' ((first | refine Qw ?_ | refine Qv ?_) <;> conv => whnf)
       refine Again.to (j + 1) (by omega) ⟨by omega, trivial⟩ (by show (fC (.o .h) (.o (.o .h)) ((List.range j).map (H i))).nat <= (fC (.o .h) (.o (.o .h)) ((List.range (j + 1)).map (H i))).nat; rw [hA, hsc]; exact (show 2 <= 4 by omega)) ?_
       show Shr _ (qM b g first caps i ((List.range (j + 1)).map (H i)) (j + 1))
       rw [hsc]
       refine Shr.of ?_ ?_ rfl rfl
       ·(repeat' first | exact Rel.e | refine Rel.some ?_ ?_ ?_ | refine Rel.none ?_ ?_ | refine Rel.ee ?_ ?_)
        all_goals show Fz _ _ _ _
        all_goals first | exact Fy | exact .pu (by simp [Pu, h1, h2])
       ·(repeat' first | exact Rel.e | refine Rel.some ?_ ?_ ?_ | refine Rel.none ?_ ?_ | refine Rel.ee ?_ ?_)
        all_goals first
         | exact Ro (aJ b)
         | (refine Ro (ShC.same fun c hc => ?_); obtain ⟨d, hd, rfl⟩ := List.mem_map.1 hc; exact .pu (aQ.1 (fJ _) d hd))
     | cons a s =>
       have hs5 : s.length + 1 <= 1000 := Nat.le_trans hAl (by omega)
       repeat' ((first | refine Qw ?_ | refine Qf cG ?_ | refine Qv ?_) <;> conv => whnf)
       refine WSt.app_one (id := (.i .h)) (ds := (aD dX (a :: s)).flatten) (r := dX (H i j)) (by rfl) (by rfl) (by rfl) (by rfl) (by rfl) (by rfl) (by rw [dH (z := 3) vG]; rfl) (by rfl) (by rfl) (by omega) (by rfl) ?_; conv => whnf
       repeat' ((first | refine Qw ?_ | refine Qv ?_) <;> conv => whnf)
       refine Again.to (j + 1) (by omega) ⟨by omega, trivial⟩ (by show (fC (.o .h) (.o (.o .h)) ((List.range j).map (H i))).nat <= (fC (.o .h) (.o (.o .h)) ((List.range (j + 1)).map (H i))).nat; rw [hA, hsc, List.cons_append]; exact (show 4 <= 4 by omega)) ?_
       show Shr _ (qM b g first caps i ((List.range (j + 1)).map (H i)) (j + 1))
       rw [hsc, List.cons_append]
       refine Shr.of ?_ ?_ rfl rfl
       ·show Rel _ _ ((.n (.n (.n (.n .e (some ((rA (.i .h) 3 (a :: (s ++ [(H i j)]))))) .e) none (.n .e (some (.i .i64 b.rws)) .e)) (some (.fn g first caps)) (.n (.n (.n .e (some (.i .i64 b.pls)) .e) none .e) (some (.ns)) .e)) none (.n (.n .e none (.n .e (some (.i .i64 (i : Int))) .e)) (some (.pt .h 0 0)) (.n (.n (.n .e (some (.i .i64 ((j + 1 : Nat) : Int))) .e) none .e) (some (.i .i64 (i : Int))) .e))) : Ev.T D) _
        rw [eM]
        (repeat' first | exact Rel.e | refine Rel.some ?_ ?_ ?_ | refine Rel.none ?_ ?_ | refine Rel.ee ?_ ?_)
        all_goals show Fz _ _ _ _
        all_goals first | exact Fy | exact .pu (by simp [Pu, h1, h2])
       ·show Rel _ _ ((.n .e (some (bX b)) (.n .e (rY dX (a :: (s ++ [(H i j)]))) .e)) : Ev.T Ev.C) _
        rw [eO]
        (repeat' first | exact Rel.e | refine Rel.some ?_ ?_ ?_ | refine Rel.none ?_ ?_ | refine Rel.ee ?_ ?_)
        all_goals first
         | exact Ro (aJ b)
         | (refine Ro (ShC.grown (by omega) (aQ.2 fun d hd => ?_)); rcases List.mem_append.1 hd with hd | hd <;> first | exact aQ.1 (dN fJ _) d hd | exact aQ.1 (fJ _) d hd)
    ·obtain rfl : j = b.pls.toNat := by omega
     have hn := hne (by omega)
     cases A with
     | nil => exact absurd rfl hn
     | cons a s =>
     repeat' ((first | refine Qw ?_ | refine Qv ?_) <;> conv => whnf)
     refine WSt.app_first (r := [.sl (.i .h) 0 (s.length + 1) s.length 3]) (by rfl) (.inl rfl) (by rfl) (by rfl) (by rfl) (by rfl) ?_; conv => whnf
     repeat' ((first | refine Qw ?_ | refine Qv ?_) <;> conv => whnf)
     rw [hA] at osc
     refine AgainB.to (i + 1) (fun id => id.nat < 2 \/ id.nat = 5) (by omega) (show i + 1 <= b.rws.toNat by omega) ?_ ?_ ?_ ?_
     ·show (fC (.o .h) (.o (.i .h)) (iW H i b.pls.toNat)).nat <= (fC (.o .h) (.o (.i .h)) (iW H (i + 1) b.pls.toNat)).nat
      rw [hO, osc]; exact (show 2 <= 6 by omega)
     ·show ∀ id : Pos, id.nat < (fC (.o .h) (.o (.i .h)) (iW H i b.pls.toNat)).nat -> _
      rw [hO]; exact fun id h => .inl h
     ·show ∀ id : Pos, _ -> id.nat < (fC (.o .h) (.o (.i .h)) (iW H (i + 1) b.pls.toNat)).nat
      rw [osc]; exact fun id h => by show id.nat < 6; omega
     ·show ShrB _ _ (qL b g first caps (iW H (i + 1) b.pls.toNat) (i + 1))
      rw [osc]
      refine ShrB.of ?_ ?_ rfl rfl
      ·(repeat' first | exact Rel.e | refine Rel.some ?_ ?_ ?_ | refine Rel.none ?_ ?_ | refine Rel.ee ?_ ?_)
       all_goals show Fz _ _ _ _
       all_goals first | exact .pu trivial | exact .kpt (.inl (by simp [Pos.nat])) | exact .ksl (.inr rfl) | exact .pu (by simp [Pu, h1, h2])
      ·(repeat' first | exact Rel.e | refine Rel.some ?_ ?_ ?_ | refine Rel.none ?_ ?_ | refine Rel.ee ?_ ?_)
       all_goals first
        | exact ⟨.inl (by simp [Pos.nat]), aJ b⟩
        | (refine ⟨.inr (by simp [Pos.nat]), ?_⟩; refine ShC.grownF (ds := []) (st := 0) (Nat.le_refl _) trivial ?_; exact Fz.G (a :: s) (by simp [Pos.nat]) (fun c h => h) vG fJ)
   ·repeat' ((first | refine Qw ?_ | refine Qv ?_) <;> conv => whnf)
    rw [<- oend (by omega)]
    exact Fin.t (.inr rfl) rfl .ns
 | cons a0 s0 =>
   have hs5 : s0.length + 1 <= 1000 := by have := olen; simp at this; omega
   conv => whnf
   repeat' ((first | refine Qw ?_ | refine Qv ?_) <;> conv => whnf)
   refine WB.dec (fun hd => ?_) (fun hd => ?_) <;> conv => whnf
   ·have hlt : i < b.rws.toNat := by omega
    repeat' ((first | refine Qw ?_ | refine Qv ?_) <;> conv => whnf)
    refine Rn.loop (fun j : Nat => pM b g first caps i a0 s0 ((List.range j).map (H i)) j) (fun j => j <= b.pls.toNat /\ True) (fun j => b.pls.toNat - j) 0 ?_ ?_ ?_
    ·refine X.le.mk ?_ ?_ (Nat.le_refl _) rfl rfl
     ·show T.le ((.n (.n (.n (.n .e (some (.ns)) .e) none (.n .e (some (.i .i64 b.rws)) .e)) (some (.fn g first caps)) (.n (.n (.n .e (some (.i .i64 b.pls)) .e) none .e) (some (.sl (.i (.o .h)) 0 (s0.length + 1) s0.length 1)) .e)) none (.n (.n .e none (.n .e (some (.i .i64 (i : Int))) .e)) (some (.pt .h 0 0)) (.n (.n (.n .e (some (.i .i64 0)) .e) none .e) (some (.i .i64 (i : Int))) .e))) : Ev.T D) _
      exact Lw
     ·exact Lw
    ·exact ⟨Nat.zero_le _, trivial⟩
    rintro j ⟨hj, _⟩
    have hsc0 : (List.range (j + 1)).map (H i) = (List.range j).map (H i) ++ [H i j] := by rw [List.range_succ, List.map_append]; rfl
    have hAl : ((List.range j).map (H i)).length <= j := by simp
    have hne : 0 < j -> (List.range j).map (H i) ≠ [] := fun h e => by have := congrArg List.length e; simp at this; omega
    generalize hA : (List.range j).map (H i) = A at *
    conv => whnf
    repeat' ((first | refine Qw ?_ | refine Qv ?_) <;> conv => whnf)
    refine WB.dec (fun hd2 => ?_) (fun hd2 => ?_) <;> conv => whnf
    ·have hlt2 : j < b.pls.toNat := by omega
     have hsc := hsc0
     have cG := hg i j hlt hlt2
     cases A with
     | nil =>
       repeat' ((first | refine Qw ?_ | refine Qf cG ?_ | refine Qv ?_) <;> conv => whnf)
       refine WSt.app_first (r := dX (H i j)) (by rfl) (.inl rfl) (by rfl) (by rfl) (by rfl) (by rfl) ?_; conv => whnf
       repeat' ((first | refine Qw ?_ | refine Qv ?_) <;> conv => whnf)
       refine Again.to (j + 1) (by omega) ⟨by omega, trivial⟩ (by show (fC (.o (.i .h)) (.o (.o (.o .h))) ((List.range j).map (H i))).nat <= (fC (.o (.i .h)) (.o (.o (.o .h))) ((List.range (j + 1)).map (H i))).nat; rw [hA, hsc]; exact (show 6 <= 8 by omega)) ?_
       show Shr _ (pM b g first caps i a0 s0 ((List.range (j + 1)).map (H i)) (j + 1))
       rw [hsc]
       refine Shr.of ?_ ?_ rfl rfl
       ·(repeat' first | exact Rel.e | refine Rel.some ?_ ?_ ?_ | refine Rel.none ?_ ?_ | refine Rel.ee ?_ ?_)
        all_goals show Fz _ _ _ _
        all_goals first | exact Fy | exact .pu (by simp [Pu, h1, h2])
       ·(repeat' first | exact Rel.e | refine Rel.some ?_ ?_ ?_ | refine Rel.none ?_ ?_ | refine Rel.ee ?_ ?_)
        all_goals first
         | exact Ro (aJ b)
         | exact Ro (ShC.G aP a0 s0)
         | (refine Ro (ShC.same fun c hc => ?_); obtain ⟨d, hd, rfl⟩ := List.mem_map.1 hc; exact .pu (aQ.1 (fJ _) d hd))
     | cons a s =>
       have hs6 : s.length + 1 <= 1000 := Nat.le_trans hAl (by omega)
       repeat' ((first | refine Qw ?_ | refine Qf cG ?_ | refine Qv ?_) <;> conv => whnf)
       refine WSt.app_one (id := (.i (.i .h))) (ds := (aD dX (a :: s)).flatten) (r := dX (H i j)) (by rfl) (by rfl) (by rfl) (by rfl) (by rfl) (by rfl) (by rw [dH (z := 3) vG]; rfl) (by rfl) (by rfl) (by omega) (by rfl) ?_; conv => whnf
       repeat' ((first | refine Qw ?_ | refine Qv ?_) <;> conv => whnf)
       refine Again.to (j + 1) (by omega) ⟨by omega, trivial⟩ (by show (fC (.o (.i .h)) (.o (.o (.o .h))) ((List.range j).map (H i))).nat <= (fC (.o (.i .h)) (.o (.o (.o .h))) ((List.range (j + 1)).map (H i))).nat; rw [hA, hsc, List.cons_append]; exact (show 8 <= 8 by omega)) ?_
       show Shr _ (pM b g first caps i a0 s0 ((List.range (j + 1)).map (H i)) (j + 1))
       rw [hsc, List.cons_append]
       refine Shr.of ?_ ?_ rfl rfl
       ·show Rel _ _ ((.n (.n (.n (.n .e (some ((rA (.i (.i .h)) 3 (a :: (s ++ [(H i j)]))))) .e) none (.n .e (some (.i .i64 b.rws)) .e)) (some (.fn g first caps)) (.n (.n (.n .e (some (.i .i64 b.pls)) .e) none .e) (some (.sl (.i (.o .h)) 0 (s0.length + 1) s0.length 1)) .e)) none (.n (.n .e none (.n .e (some (.i .i64 (i : Int))) .e)) (some (.pt .h 0 0)) (.n (.n (.n .e (some (.i .i64 ((j + 1 : Nat) : Int))) .e) none .e) (some (.i .i64 (i : Int))) .e))) : Ev.T D) _
        rw [eM]
        (repeat' first | exact Rel.e | refine Rel.some ?_ ?_ ?_ | refine Rel.none ?_ ?_ | refine Rel.ee ?_ ?_)
        all_goals show Fz _ _ _ _
        all_goals first | exact Fy | exact .pu (by simp [Pu, h1, h2])
       ·show Rel _ _ ((.n .e (some (bX b)) (.n (.n .e (some (.cells false ((aD aF (a0 :: s0)).flatten.map fun d => Cell.o d s0.length) (s0.length + 1))) .e) none (.n .e (rY dX (a :: (s ++ [(H i j)]))) .e))) : Ev.T Ev.C) _
        rw [eO]
        (repeat' first | exact Rel.e | refine Rel.some ?_ ?_ ?_ | refine Rel.none ?_ ?_ | refine Rel.ee ?_ ?_)
        all_goals first
         | exact Ro (aJ b)
         | exact Ro (ShC.G aP a0 s0)
         | (refine Ro (ShC.grown (by omega) (aQ.2 fun d hd => ?_)); rcases List.mem_append.1 hd with hd | hd <;> first | exact aQ.1 (dN fJ _) d hd | exact aQ.1 (fJ _) d hd)
    ·obtain rfl : j = b.pls.toNat := by omega
     have hn := hne (by omega)
     cases A with
     | nil => exact absurd rfl hn
     | cons a s =>
     repeat' ((first | refine Qw ?_ | refine Qv ?_) <;> conv => whnf)
     refine WSt.app_one (id := (.i (.o .h))) (ds := (aD aF (a0 :: s0)).flatten) (r := [.sl (.i (.i .h)) 0 (s.length + 1) s.length 3]) (by rfl) (by rfl) (by rfl) (by rfl) (by rfl) (by rfl) (by rw [dH (z := 1) gI]; rfl) (by rfl) (by rfl) (by omega) (by rfl) ?_; conv => whnf
     repeat' ((first | refine Qw ?_ | refine Qv ?_) <;> conv => whnf)
     rw [hA] at osc
     rw [List.cons_append] at osc
     refine AgainB.sh (i + 1) (by omega) (show i + 1 <= b.rws.toNat by omega) ?_ ?_
     ·show (fC (.o .h) (.o (.i .h)) (iW H i b.pls.toNat)).nat <= (fC (.o .h) (.o (.i .h)) (iW H (i + 1) b.pls.toNat)).nat
      rw [hO, osc]; exact (show 6 <= 6 by omega)
     ·show Shr _ (qL b g first caps (iW H (i + 1) b.pls.toNat) (i + 1))
      rw [osc]
      refine Shr.of ?_ ?_ rfl rfl
      ·show Rel _ _ ((.n (.n (.n .e none (.n .e (some (.i .i64 b.rws)) .e)) (some (.fn g first caps)) (.n .e (some (rA (.i (.o .h)) 1 (a0 :: (s0 ++ [a :: s])))) .e)) none (.n (.n .e none (.n .e (some (.i .i64 ((i + 1 : Nat) : Int))) .e)) (some (.pt .h 0 0)) .e)) : T D) _
       rw [eM]
       (repeat' first | exact Rel.e | refine Rel.some ?_ ?_ ?_ | refine Rel.none ?_ ?_ | refine Rel.ee ?_ ?_)
       all_goals show Fz _ _ _ _
       all_goals first | exact Fy | exact .pu (by simp [Pu, h1, h2])
      ·show Rel _ _ (.n .e (some (bX b)) (.n (.n .e (rY aF (a0 :: (s0 ++ [a :: s]))) .e) none .e) : T C) _
       rw [eO]
       (repeat' first | exact Rel.e | refine Rel.some ?_ ?_ ?_ | refine Rel.none ?_ ?_ | refine Rel.ee ?_ ?_)
       all_goals first
        | exact Ro (aJ b)
        | exact Ro (ShC.grownF (by omega) (dN aP (a0 :: s0)) (Fz.G (a :: s) (fun h => absurd (show 7 < 6 from h) (by decide)) (fun c h => h) vG fJ))
   ·repeat' ((first | refine Qw ?_ | refine Qv ?_) <;> conv => whnf)
    rw [<- oend (by omega)]
    exact Fin.t (.inr rfl) rfl (Fz.G (a0 :: s0) (fun h => h) (fun c h => h) gI aP)
end Go.Ev
end
