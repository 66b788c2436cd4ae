import Derived.Test.YtjgbfnciedkafaaEvUJi
import Derived.Test.YtjgbfnciedkafaaEvUJs
import Derived.Test.YtjgbfnciedkafaaEvUJe
import Derived.Test.YtjgbfnciedkafaaEvUFg
set_option linter.all false
namespace Go.Ev
open Go.Proofs
set_option maxRecDepth 100000
theorem WIx.rowsM {α : Type} [Inhabited α] {f : α → List D} {l : List α} {j : Nat} {z : Int} {F : List D → Prop} (h : j < l.length) (e : z = (j : Int)) (k : F (f (l.getD j default))) : WIx (rows f l) z F := by
  subst e
  exact WIx.rowsN h k
theorem tmodN (d l : Nat) : Int.tmod (d : Int) (l : Int) = ((d % l : Nat) : Int) := by
  rw [Int.tmod_eq_emod_of_nonneg (by omega), Int.natCast_emod]
theorem tdivN (d l : Nat) : Int.tdiv (d : Int) (l : Int) = ((d / l : Nat) : Int) := by
  rw [Int.tdiv_eq_ediv_of_nonneg (by omega), Int.natCast_ediv]
theorem divF_le (n : Int) (ls : List Ln) (m i : Nat) : divF n ls m i ≤ m := by
  rw [divF_eq]; exact Nat.div_le_self _ _
theorem lnF_nth (n : Int) (ls : List Ln) (m j : Nat) : lnF (nthF n ls m (j + 1)) = lnF (nthF n ls m j) ++ lnD ((rdK n ls j).getD (divF n ls m j % (rdK n ls j).length) default) := lnF_snoc _ _
set_option maxHeartbeats 2000000 in
theorem j_Nth (n coin box : Int) (ls : List Ln) (cs : List Ct) (m : Nat) (V : VB (B5 n coin box ls cs)) (hm : m ≤ 100000) : PureF Try.prog p62.ix [.ag (bk5 n coin box ls cs), .i .i64 (m : Int)] (.lst 3 (rows lnD (nthL n ls m))) := by
  have e1 := rows_length lnD ls
  have hl8 : ls.length ≤ 8 := V.len
  have eL : (nthL n ls m).length = ls.length := nthF_len n ls m ls.length
  have hn : 1 ≤ n ∧ n ≤ 4 := V.n
  have cR := fun l => j_Readings n coin box ls cs l (by omega)
  refine PureF.run fn61 (by simp) (by simp [PuL, PuE, Pu, bk5, pu_ln, pu_ct]) ?_; conv => whnf
  repeat' first | ((first | with_reducible apply WB.tt | with_reducible apply WB.ff | refine Rn.seq ?_ | refine Rn.reg ?_ | refine Rn.drw ?_ | refine Rn.blk ?_ | refine Rn.skip ?_ | refine Rn.ret ?_ | refine Rn.exit ?_ | refine Rn.cond rfl ?_ | refine And.intro (InR.i64 (by omega) (by omega)) ?_ | refine And.intro (show _ ≠ (0 : Int) by omega) ?_ | refine WIx.intsN (by omega) ?_ | refine WIx.rowsN (by omega) ?_) <;> conv => whnf)
  refine Rn.loop (fun j : Nat => match j with
    | 0 => ⟨(.n (.n .e (some (.i .i64 (m : Int))) (.n .e (some (.ns)) .e)) none (.n .e (some (.pt .h 0 0)) (.n .e (some (.i .i64 0)) .e))), (.n .e (some (bkC n coin box ls cs)) .e), .o .h, none⟩
    | j + 1 => ⟨(.n (.n .e (some (.i .i64 ((divF n ls m (j + 1) : Nat) : Int))) (.n .e (some (.sl (.i .h) 0 (j + 1) j 3)) .e)) none (.n .e (some (.pt .h 0 0)) (.n .e (some (.i .i64 ((j + 1 : Nat) : Int))) .e))), (.n .e (some (bkC n coin box ls cs)) (.n .e (some (.cells false ((lnF (nthF n ls m (j + 1))).map fun d => Cell.o d j) (j + 1))) .e)), .o (.o .h), none⟩) (fun j => j ≤ ls.length) (fun j => ls.length - j) 0 ?_ ?_ ?_
  · refine X.le.mk ?_ ?_ (Nat.le_refl _) rfl rfl
    · (repeat' first | exact T.le_e _ | refine T.le_some ?_ rfl ?_ | refine T.le_none ?_ ?_)
    · (repeat' first | exact T.le_e _ | refine T.le_some ?_ rfl ?_ | refine T.le_none ?_ ?_ | refine T.le_ee ?_ ?_)
  · omega
  rintro (_ | j) hj
  · conv => whnf
    repeat' first | ((first | with_reducible apply WB.tt | with_reducible apply WB.ff | refine Rn.seq ?_ | refine Rn.reg ?_ | refine Rn.drw ?_ | refine Rn.blk ?_ | refine Rn.skip ?_ | refine Rn.ret ?_ | refine Rn.exit ?_ | refine Rn.cond rfl ?_ | refine And.intro (InR.i64 (by omega) (by omega)) ?_ | refine And.intro (show _ ≠ (0 : Int) by omega) ?_ | refine WIx.intsN (by omega) ?_ | refine WIx.rowsN (by omega) ?_) <;> conv => whnf)
    refine WB.dec (fun h => ?_) (fun h => ?_) <;> conv => whnf
    · have hlt : 0 < ls.length := by omega
      obtain ⟨r0, r1, r2⟩ := rdK_len V (i := 0) hlt
      have r1 : 1 ≤ (readL n (ls.getD 0 default)).length := r1
      have r2 : (readL n (ls.getD 0 default)).length ≤ 32 := r2
      have er := rows_length lnD (readL n (ls.getD 0 default))
      have hmod : m % (readL n (ls.getD 0 default)).length < (readL n (ls.getD 0 default)).length := Nat.mod_lt _ r1
      have cR := cR (ls.getD 0 default)
      have hdl : divF n ls m 1 ≤ m := divF_le _ _ _ _
      have hq : Int.tdiv (m : Int) ((rows lnD (readL n (ls.getD 0 default))).length : Int) = ((divF n ls m 1 : Nat) : Int) := by rw [er, tdivN]; rfl
      have hf := lnF_nth n ls m 0
      repeat' first | ((first | with_reducible apply WB.tt | with_reducible apply WB.ff | refine Rn.seq ?_ | refine Rn.reg ?_ | refine Rn.drw ?_ | refine Rn.blk ?_ | refine Rn.skip ?_ | refine Rn.ret ?_ | refine Rn.exit ?_ | refine Rn.cond rfl ?_ | refine And.intro (InR.i64 (by omega) (by omega)) ?_ | refine And.intro (show _ ≠ (0 : Int) by omega) ?_ | refine WIx.intsN (by omega) ?_ | refine WIx.rowsN (by omega) ?_ | refine WCall.pure (cR) ?_ | with_reducible refine WB.decT (by first | with_reducible rfl | assumption | omega | exact ⟨rfl, rfl⟩) ?_ | with_reducible refine WB.decF (by first | assumption | omega) ?_ | with_reducible refine WB.ndT (by first | with_reducible rfl | assumption | omega | exact ⟨rfl, rfl⟩) ?_ | with_reducible refine WB.ndF (by first | assumption | omega) ?_ | with_reducible refine WB.nt ?_ | with_reducible refine WB.nf ?_ | with_reducible refine WB.dec (fun h => ?_) (fun h => ?_) | with_reducible refine WB.ndec (fun h => ?_) (fun h => ?_) | refine WB.mk (fun h => ?_) (fun h => ?_)) <;> conv => whnf)
      refine WIx.rowsM (j := m % (readL n (ls.getD 0 default)).length) hmod (by rw [er, tmodN]) ?_; conv => whnf
      repeat' first | ((first | with_reducible apply WB.tt | with_reducible apply WB.ff | refine Rn.seq ?_ | refine Rn.reg ?_ | refine Rn.drw ?_ | refine Rn.blk ?_ | refine Rn.skip ?_ | refine Rn.ret ?_ | refine Rn.exit ?_ | refine Rn.cond rfl ?_ | refine And.intro (InR.i64 (by omega) (by omega)) ?_ | refine And.intro (show _ ≠ (0 : Int) by omega) ?_ | refine WIx.intsN (by omega) ?_ | refine WIx.rowsN (by omega) ?_ | refine WCall.pure (cR) ?_ | with_reducible refine WB.decT (by first | with_reducible rfl | assumption | omega | exact ⟨rfl, rfl⟩) ?_ | with_reducible refine WB.decF (by first | assumption | omega) ?_ | with_reducible refine WB.ndT (by first | with_reducible rfl | assumption | omega | exact ⟨rfl, rfl⟩) ?_ | with_reducible refine WB.ndF (by first | assumption | omega) ?_ | with_reducible refine WB.nt ?_ | with_reducible refine WB.nf ?_ | with_reducible refine WB.dec (fun h => ?_) (fun h => ?_) | with_reducible refine WB.ndec (fun h => ?_) (fun h => ?_) | refine WB.mk (fun h => ?_) (fun h => ?_)) <;> conv => whnf)
      refine WSt.app_firstL (r := lnD ((readL n (ls.getD 0 default)).getD (m % (readL n (ls.getD 0 default)).length) default)) rfl (.inl rfl) rfl rfl rfl rfl ?_; conv => whnf
      repeat' first | ((first | with_reducible apply WB.tt | with_reducible apply WB.ff | refine Rn.seq ?_ | refine Rn.reg ?_ | refine Rn.drw ?_ | refine Rn.blk ?_ | refine Rn.skip ?_ | refine Rn.ret ?_ | refine Rn.exit ?_ | refine Rn.cond rfl ?_ | refine And.intro (InR.i64 (by omega) (by omega)) ?_ | refine And.intro (show _ ≠ (0 : Int) by omega) ?_ | refine WIx.intsN (by omega) ?_ | refine WIx.rowsN (by omega) ?_ | refine WCall.pure (cR) ?_ | with_reducible refine WB.decT (by first | with_reducible rfl | assumption | omega | exact ⟨rfl, rfl⟩) ?_ | with_reducible refine WB.decF (by first | assumption | omega) ?_ | with_reducible refine WB.ndT (by first | with_reducible rfl | assumption | omega | exact ⟨rfl, rfl⟩) ?_ | with_reducible refine WB.ndF (by first | assumption | omega) ?_ | with_reducible refine WB.nt ?_ | with_reducible refine WB.nf ?_ | with_reducible refine WB.dec (fun h => ?_) (fun h => ?_) | with_reducible refine WB.ndec (fun h => ?_) (fun h => ?_) | refine WB.mk (fun h => ?_) (fun h => ?_)) <;> conv => whnf)
      refine Again.to 1 (by show ls.length - 1 < ls.length - 0; omega) (by show 1 ≤ ls.length; omega) (Nat.le_of_ble_eq_true rfl) ?_
      refine Shr.of ?_ ?_ rfl rfl
      · (repeat' first | exact Rel.e | refine Rel.some ?_ ?_ ?_ | refine Rel.none ?_ ?_ | refine Rel.ee ?_ ?_)
        all_goals show Fz _ _ _ _
        all_goals first | exact .kpt (show _ < _ by simp [Pos.nat]) | exact .ksl (show _ < _ by simp [Pos.nat]) | exact .pu trivial | exact Fz.i hq
      · (repeat' first | exact Rel.e | refine Rel.some ?_ ?_ ?_ | refine Rel.none ?_ ?_ | refine Rel.ee ?_ ?_)
        all_goals first
          | exact RO'.of (show _ < _ by simp [Pos.nat]) (ShC.kp (bkC_kp _ _ _ _ _ _))
          | (refine RO'.of (show Pos.nat _ < Pos.nat _ by simp [Pos.nat]) ?_
             show ShC _ _ _ (.cells false ((lnF (nthF n ls m (0 + 1))).map fun d => Cell.o d 0) 1)
             rw [hf]
             exact ShC.same (ShC.cn (.pu trivial) (ShC.cn (.pu trivial) (ShC.cn (.pu trivial) ShC.nl))))
    · repeat' first | ((first | with_reducible apply WB.tt | with_reducible apply WB.ff | refine Rn.seq ?_ | refine Rn.reg ?_ | refine Rn.drw ?_ | refine Rn.blk ?_ | refine Rn.skip ?_ | refine Rn.ret ?_ | refine Rn.exit ?_ | refine Rn.cond rfl ?_ | refine And.intro (InR.i64 (by omega) (by omega)) ?_ | refine And.intro (show _ ≠ (0 : Int) by omega) ?_ | refine WIx.intsN (by omega) ?_ | refine WIx.rowsN (by omega) ?_) <;> conv => whnf)
      refine Fin.t (.inr rfl) rfl ?_
      rw [show nthL n ls m = [] from List.length_eq_zero_iff.1 (by omega)]
      exact Fz.ns
  · have hj : j + 1 ≤ ls.length := hj
    conv => whnf
    repeat' first | ((first | with_reducible apply WB.tt | with_reducible apply WB.ff | refine Rn.seq ?_ | refine Rn.reg ?_ | refine Rn.drw ?_ | refine Rn.blk ?_ | refine Rn.skip ?_ | refine Rn.ret ?_ | refine Rn.exit ?_ | refine Rn.cond rfl ?_ | refine And.intro (InR.i64 (by omega) (by omega)) ?_ | refine And.intro (show _ ≠ (0 : Int) by omega) ?_ | refine WIx.intsN (by omega) ?_ | refine WIx.rowsN (by omega) ?_) <;> conv => whnf)
    refine WB.dec (fun h => ?_) (fun h => ?_) <;> conv => whnf
    · have hlt : j + 1 < ls.length := by omega
      obtain ⟨r0, r1, r2⟩ := rdK_len V (i := j + 1) hlt
      have r1 : 1 ≤ (readL n (ls.getD (j + 1) default)).length := r1
      have r2 : (readL n (ls.getD (j + 1) default)).length ≤ 32 := r2
      have er := rows_length lnD (readL n (ls.getD (j + 1) default))
      have hmod : divF n ls m (j + 1) % (readL n (ls.getD (j + 1) default)).length < (readL n (ls.getD (j + 1) default)).length := Nat.mod_lt _ r1
      have cR := cR (ls.getD (j + 1) default)
      have hdl : divF n ls m (j + 2) ≤ m := divF_le _ _ _ _
      have hdl2 : divF n ls m (j + 1) ≤ m := divF_le _ _ _ _
      have hq : Int.tdiv ((divF n ls m (j + 1) : Nat) : Int) ((rows lnD (readL n (ls.getD (j + 1) default))).length : Int) = ((divF n ls m (j + 2) : Nat) : Int) := by rw [er, tdivN]; rfl
      have hf := lnF_nth n ls m (j + 1)
      have hfl : (lnF (nthF n ls m (j + 1))).length = (j + 1) * 3 := by rw [lnF_len, nthF_len]
      repeat' first | ((first | with_reducible apply WB.tt | with_reducible apply WB.ff | refine Rn.seq ?_ | refine Rn.reg ?_ | refine Rn.drw ?_ | refine Rn.blk ?_ | refine Rn.skip ?_ | refine Rn.ret ?_ | refine Rn.exit ?_ | refine Rn.cond rfl ?_ | refine And.intro (InR.i64 (by omega) (by omega)) ?_ | refine And.intro (show _ ≠ (0 : Int) by omega) ?_ | refine WIx.intsN (by omega) ?_ | refine WIx.rowsN (by omega) ?_ | refine WCall.pure (cR) ?_ | with_reducible refine WB.decT (by first | with_reducible rfl | assumption | omega | exact ⟨rfl, rfl⟩) ?_ | with_reducible refine WB.decF (by first | assumption | omega) ?_ | with_reducible refine WB.ndT (by first | with_reducible rfl | assumption | omega | exact ⟨rfl, rfl⟩) ?_ | with_reducible refine WB.ndF (by first | assumption | omega) ?_ | with_reducible refine WB.nt ?_ | with_reducible refine WB.nf ?_ | with_reducible refine WB.dec (fun h => ?_) (fun h => ?_) | with_reducible refine WB.ndec (fun h => ?_) (fun h => ?_) | refine WB.mk (fun h => ?_) (fun h => ?_)) <;> conv => whnf)
      refine WIx.rowsM (j := divF n ls m (j + 1) % (readL n (ls.getD (j + 1) default)).length) hmod (by rw [er, tmodN]) ?_; conv => whnf
      repeat' first | ((first | with_reducible apply WB.tt | with_reducible apply WB.ff | refine Rn.seq ?_ | refine Rn.reg ?_ | refine Rn.drw ?_ | refine Rn.blk ?_ | refine Rn.skip ?_ | refine Rn.ret ?_ | refine Rn.exit ?_ | refine Rn.cond rfl ?_ | refine And.intro (InR.i64 (by omega) (by omega)) ?_ | refine And.intro (show _ ≠ (0 : Int) by omega) ?_ | refine WIx.intsN (by omega) ?_ | refine WIx.rowsN (by omega) ?_ | refine WCall.pure (cR) ?_ | with_reducible refine WB.decT (by first | with_reducible rfl | assumption | omega | exact ⟨rfl, rfl⟩) ?_ | with_reducible refine WB.decF (by first | assumption | omega) ?_ | with_reducible refine WB.ndT (by first | with_reducible rfl | assumption | omega | exact ⟨rfl, rfl⟩) ?_ | with_reducible refine WB.ndF (by first | assumption | omega) ?_ | with_reducible refine WB.nt ?_ | with_reducible refine WB.nf ?_ | with_reducible refine WB.dec (fun h => ?_) (fun h => ?_) | with_reducible refine WB.ndec (fun h => ?_) (fun h => ?_) | refine WB.mk (fun h => ?_) (fun h => ?_)) <;> conv => whnf)
      refine WSt.app_oneL (ds := lnF (nthF n ls m (j + 1))) (r := lnD ((readL n (ls.getD (j + 1) default)).getD (divF n ls m (j + 1) % (readL n (ls.getD (j + 1) default)).length) default)) rfl rfl rfl rfl rfl rfl hfl rfl rfl (by omega) rfl ?_; conv => whnf
      repeat' first | ((first | with_reducible apply WB.tt | with_reducible apply WB.ff | refine Rn.seq ?_ | refine Rn.reg ?_ | refine Rn.drw ?_ | refine Rn.blk ?_ | refine Rn.skip ?_ | refine Rn.ret ?_ | refine Rn.exit ?_ | refine Rn.cond rfl ?_ | refine And.intro (InR.i64 (by omega) (by omega)) ?_ | refine And.intro (show _ ≠ (0 : Int) by omega) ?_ | refine WIx.intsN (by omega) ?_ | refine WIx.rowsN (by omega) ?_ | refine WCall.pure (cR) ?_ | with_reducible refine WB.decT (by first | with_reducible rfl | assumption | omega | exact ⟨rfl, rfl⟩) ?_ | with_reducible refine WB.decF (by first | assumption | omega) ?_ | with_reducible refine WB.ndT (by first | with_reducible rfl | assumption | omega | exact ⟨rfl, rfl⟩) ?_ | with_reducible refine WB.ndF (by first | assumption | omega) ?_ | with_reducible refine WB.nt ?_ | with_reducible refine WB.nf ?_ | with_reducible refine WB.dec (fun h => ?_) (fun h => ?_) | with_reducible refine WB.ndec (fun h => ?_) (fun h => ?_) | refine WB.mk (fun h => ?_) (fun h => ?_)) <;> conv => whnf)
      refine Again.to (j + 2) (by show ls.length - (j + 2) < ls.length - (j + 1); omega) (by show j + 2 ≤ ls.length; omega) (Nat.le_of_ble_eq_true rfl) ?_
      refine Shr.of ?_ ?_ rfl rfl
      · (repeat' first | exact Rel.e | refine Rel.some ?_ ?_ ?_ | refine Rel.none ?_ ?_ | refine Rel.ee ?_ ?_)
        all_goals show Fz _ _ _ _
        all_goals first | exact .kpt (show _ < _ by simp [Pos.nat]) | exact .ksl (show _ < _ by simp [Pos.nat]) | exact .pu trivial | exact Fz.i hq
      · (repeat' first | exact Rel.e | refine Rel.some ?_ ?_ ?_ | refine Rel.none ?_ ?_ | refine Rel.ee ?_ ?_)
        all_goals first
          | exact RO'.of (show _ < _ by simp [Pos.nat]) (ShC.kp (bkC_kp _ _ _ _ _ _))
          | (refine RO'.of (show Pos.nat _ < Pos.nat _ by simp [Pos.nat]) ?_
             show ShC _ _ (.cells false (((lnF (nthF n ls m (j + 1))).map fun d => Cell.o d j) ++ (lnD ((rdK n ls (j + 1)).getD (divF n ls m (j + 1) % (rdK n ls (j + 1)).length) default)).map fun d => Cell.o d (j + 1)) (j + 1 + 1)) (.cells false ((lnF (nthF n ls m (j + 1 + 1))).map fun d => Cell.o d (j + 1)) (j + 1 + 1))
             rw [hf]
             exact ShC.grown (by omega) (PuL_iff.2 fun d hd => (List.mem_append.1 hd).elim (fun hd => PuL_iff.1 (lnF_pu _) d hd) (fun hd => PuL_iff.1 (pl_ln _) d hd)))
    · repeat' first | ((first | with_reducible apply WB.tt | with_reducible apply WB.ff | refine Rn.seq ?_ | refine Rn.reg ?_ | refine Rn.drw ?_ | refine Rn.blk ?_ | refine Rn.skip ?_ | refine Rn.ret ?_ | refine Rn.exit ?_ | refine Rn.cond rfl ?_ | refine And.intro (InR.i64 (by omega) (by omega)) ?_ | refine And.intro (show _ ≠ (0 : Int) by omega) ?_ | refine WIx.intsN (by omega) ?_ | refine WIx.rowsN (by omega) ?_) <;> conv => whnf)
      refine Fin.t (.inr rfl) rfl ?_
      exact Frz.whole (cs := (lnF (nthF n ls m (j + 1))).map fun d => Cell.o d j) (cur := j + 1) rfl (by rw [rows_length]; omega) (ln_three _) (by rw [show j + 1 = ls.length by omega]; rfl) (pu_ln _)
end Go.Ev

namespace Go.Ev
open Go.RowKit (Below Grown)
def Cv (γ γ' : Gh) (w : World) (d d' : D) : Prop := ∀ v, DV γ w d v → DV γ' w d' v
def CvL (γ γ' : Gh) (w : World) (ds ds' : List D) : Prop := ∀ vs, DVL γ w ds vs → DVL γ' w ds' vs
section
variable {γ γ' : Gh} {w : World}
theorem CvL.nil : CvL γ γ' w [] [] := fun vs h => by unfold DVL at h ⊢; exact h
theorem CvL.cons {d d' : D} {ds ds' : List D} (h : Cv γ γ' w d d') (k : CvL γ γ' w ds ds') : CvL γ γ' w (d :: ds) (d' :: ds') := fun vs H => by
  unfold DVL at H ⊢
  obtain ⟨v, r, h1, h2, h3⟩ := H
  exact ⟨v, r, h1, h v h2, k r h3⟩
theorem CvL.app {a a' b b' : List D} (h : CvL γ γ' w a a') (hl : a.length = a'.length) (k : CvL γ γ' w b b') : CvL γ γ' w (a ++ b) (a' ++ b') := fun vs H => by
  obtain ⟨l1, e1⟩ := DVL_iff.1 H
  have hv : vs = vs.take a.length ++ vs.drop a.length := (List.take_append_drop _ _).symm
  have t1 := H.take a.length
  have t2 := H.drop a.length
  rw [List.take_left'] at t1 <;> try rfl
  rw [List.drop_left'] at t2 <;> try rfl
  rw [hv]
  exact DVL.append (h _ t1) (k _ t2)
theorem Cv.pu (him : ∀ b, γ.im b → γ'.im b) {d : D} (h : Pu d) : Cv γ γ' w d d := fun v H => DV.pu him d v h H
theorem CvL.pu (him : ∀ b, γ.im b → γ'.im b) {ds : List D} (h : PuL ds) : CvL γ γ' w ds ds := fun v H => DVL.pu him ds v h H
theorem Cv.any {d : D} : Cv γ γ' w d .any := fun v _ => by unfold DV; trivial
theorem Cv.ag {ds ds' : List D} (h : CvL γ γ' w ds ds') : Cv γ γ' w (.ag ds) (.ag ds') := fun v H => by
  unfold DV at H ⊢
  obtain ⟨vs, h1, h2, h3⟩ := H
  exact ⟨vs, h1, h _ h2, h3⟩
theorem Cv.tp {ds ds' : List D} (h : CvL γ γ' w ds ds') : Cv γ γ' w (.tp ds) (.tp ds') := fun v H => by
  unfold DV at H ⊢
  obtain ⟨vs, h1, h2⟩ := H
  exact ⟨vs, h1, h _ h2⟩
theorem Cv.fn {f : Pos} {x x' y y' : List D} (h : CvL γ γ' w x x') (k : CvL γ γ' w y y') : Cv γ γ' w (.fn f x y) (.fn f x' y') := fun v H => by
  unfold DV at H ⊢
  obtain ⟨vx, vy, h1, h2, h3⟩ := H
  exact ⟨vx, vy, h1, h _ h2, k _ h3⟩
end
theorem CallOk.sub {P : Program} {f : Nat} {ds ds' : List D} {ob ob' : T C} {nx nx' : Pos} {lg lg' : Option (T Bool)} {v : D} (h : CallOk P f ds' ob nx lg v ob' nx' lg') (k : ∀ γ w, CvL γ γ w ds ds') : CallOk P f ds ob nx lg v ob' nx' lg' :=
  ⟨h.hl, h.hx, h.hk, fun so hs γ args w gh ha ho hn => h.ok so hs γ args w gh (k γ w _ ha) ho hn⟩
theorem PureF.sub {P : Program} {f : Nat} {ds ds' : List D} {v : D} (h : PureF P f ds' v) (k : ∀ γ w, CvL γ γ w ds ds') : PureF P f ds v := fun ob nx lg => (h ob nx lg).sub k
noncomputable def pul1 (id : Pos) (γ : Gh) : Gh := pull (.o .h) (fun _ => id) γ
noncomputable def psh1 (id : Pos) (γ γ' : Gh) : Gh := psh (tau1 id) γ γ'
theorem Cv.mpI {γ : Gh} {w : World} {id : Pos} : Cv γ (pul1 id γ) w (.mp id) (.mp .h) := fun u h => dv_mp h
theorem Cv.mpO {γ γ' : Gh} {w : World} {id : Pos} : Cv γ' (psh1 id γ γ') w (.mp .h) (.mp id) := fun u h => by
  unfold DV at h ⊢
  show 0 < (psh (tau1 id) γ γ').cur id ∧ u = .map (some ((psh (tau1 id) γ γ').β id 0).1)
  rw [psh_cur (tau1_eq id), psh_be (tau1_eq id)]
  exact h
theorem pul1_im {id : Pos} {γ : Gh} : ∀ b, γ.im b → (pul1 id γ).im b := fun _ h => h
theorem psh1_im {id : Pos} {γ γ' : Gh} : ∀ b, γ'.im b → (psh1 id γ γ').im b := fun _ h => h
theorem CallOk.oneG {P : Program} {f : Nat} {es es' : List (D × D)} {ds ds' : List D} {v v' : D} {ob' : T C} (h : CallOk P f ds (.n .e (some (.map es)) .e) (.o .h) none v ob' (.o .h) none) (hob' : ob'.get .h = some (.map es')) (hp : ∀ e ∈ es, Pu e.1 ∧ Pu e.2) (hp' : ∀ e ∈ es', Pu e.1 ∧ Pu e.2)
    {id : Pos} {ob : T C} {nx : Pos} {lg : Option (T Bool)} (hid : ob.get id = some (.map es)) (hlt : id.nat < nx.nat) (hd : ∀ γ w, CvL γ (pul1 id γ) w ds' ds) (hv : ∀ γ γ' w, Cv γ' (psh1 id γ γ') w v v') : CallOk P f ds' ob nx lg v' (T.set id (.map es') ob) nx (lgW lg id) := by
  have hw := lgW_w lg id
  refine ⟨lgW_le lg id, Nat.le_refl _, fun j hn => ?_, fun so hs γ args w gh hargs hob hnx => ?_⟩
  · by_cases e : j = id
    · subst e; exact absurd hw hn
    · exact T.get_set_ne e _ _
  have hso : so id := hs id hw.tchd
  have h1 : Pos.h.nat < (Pos.o .h).nat := by decide
  have R := Ren.one id
  have him := pull_im (nx := .o .h) (ρ := fun _ => id) (γ := γ)
  obtain ⟨c1, c2⟩ := h.ok (fun _ => True) (fun _ _ => trivial) (pull (.o .h) (fun _ => id) γ) args w (pull_gh R gh) (hd γ w _ hargs) (fun j c _ hc => by
    cases j with
    | h =>
      rw [T.get_h] at hc
      cases hc
      obtain ⟨q1, en, cl, q2, q3, q4⟩ := hob id _ hso hid
      refine ⟨(pull_cur h1).trans q1, en, cl, q2, q3, fun i e f he hf => ?_⟩
      obtain ⟨k1, k2⟩ := hp e (List.mem_of_getElem? he)
      exact ⟨DV.pu him _ _ k1 (q4 i e f he hf).1, DV.pu him _ _ k2 (q4 i e f he hf).2⟩
    | o p => rw [T.get_o, T.get_e] at hc; cases hc
    | i p => rw [T.get_i, T.get_e] at hc; cases hc) (fun j _ hj => pull_cur0 (Nat.not_lt.2 hj))
  refine ⟨c1, fun ro m Q' hQ' => c2 ro m Q' fun γ' w' u gh' F hu ho hn => ?_⟩
  have hWid : ∀ i j, tau1 id i = some j → wrtn (lgW lg id) i := fun i j h => by
    by_cases e : i = id
    · subst e; exact hw
    · rw [tau1_ne e] at h; cases h
  have him' := psh_im (τ := tau1 id) (γ := γ) (γ' := γ')
  refine hQ' (psh (tau1 id) γ γ') w' u (psh_gh R gh gh' F) (psh_fr R hWid F) (hv γ γ' w' u hu) (fun i c hi hc => ?_) (fun i hi hle => ?_)
  · by_cases e : i = id
    · subst e
      rw [T.get_set_same] at hc
      cases hc
      obtain ⟨q1, en, cl, q2, q3, q4⟩ := ho .h _ trivial hob'
      refine ⟨(psh_cur (tau1_eq i)).trans q1, en, cl, by rw [psh_be (tau1_eq i)]; exact q2, q3, fun j e f he hf => ?_⟩
      obtain ⟨k1, k2⟩ := hp' e (List.mem_of_getElem? he)
      exact ⟨DV.pu him' _ _ k1 (q4 j e f he hf).1, DV.pu him' _ _ k2 (q4 j e f he hf).2⟩
    · rw [T.get_set_ne e _ _] at hc
      exact psh_keep R gh F (tau1_ne e) (hob i c hi hc)
  · have e : i ≠ id := fun e => by subst e; omega
    rw [psh_cur0 (tau1_ne e)]
    exact hnx i hi hle
theorem CallOk.newG {P : Program} {f : Nat} {es' : List (D × D)} {ds : List D} {v v' : D} {ob' : T C} (h : CallOk P f ds .e .h none v ob' (.o .h) none) (hob' : ob'.get .h = some (.map es')) (hp' : ∀ e ∈ es', Pu e.1 ∧ Pu e.2) (hds : PuL ds)
    {ob : T C} {nx : Pos} {lg : Option (T Bool)} (hv : ∀ γ γ' w, Cv γ' (psh1 nx γ γ') w v v') : CallOk P f ds ob nx lg v' (T.set nx (.map es') ob) nx.succ (lgW lg nx) := by
  have hw := lgW_w lg nx
  refine ⟨lgW_le lg nx, by rw [Pos.succ_nat]; omega, fun j hn => ?_, fun so hs γ args w gh hargs hob hnx => ?_⟩
  · by_cases e : j = nx
    · subst e; exact absurd hw hn
    · exact T.get_set_ne e _ _
  have hso : so nx := hs nx hw.tchd
  have h1 : Pos.h.nat < (Pos.o .h).nat := by decide
  have R := Ren.one nx
  have him := pull_im (nx := .o .h) (ρ := fun _ => nx) (γ := γ)
  obtain ⟨c1, c2⟩ := h.ok (fun _ => True) (fun _ _ => trivial) (pull (.o .h) (fun _ => nx) γ) args w (pull_gh R gh) (DVL.pu him _ _ hds hargs) (fun j c _ hc => by rw [T.get_e] at hc; cases hc) (fun j _ hj => by
    by_cases hj1 : j.nat < (Pos.o .h).nat
    · rw [pull_cur hj1]; exact hnx nx hso (Nat.le_refl _)
    · exact pull_cur0 hj1)
  refine ⟨c1, fun ro m Q' hQ' => c2 ro m Q' fun γ' w' u gh' F hu ho hn => ?_⟩
  have hWid : ∀ i j, tau1 nx i = some j → wrtn (lgW lg nx) i := fun i j h => by
    by_cases e : i = nx
    · subst e; exact hw
    · rw [tau1_ne e] at h; cases h
  have him' := psh_im (τ := tau1 nx) (γ := γ) (γ' := γ')
  refine hQ' (psh (tau1 nx) γ γ') w' u (psh_gh R gh gh' F) (psh_fr R hWid F) (hv γ γ' w' u hu) (fun i c hi hc => ?_) (fun i hi hle => ?_)
  · by_cases e : i = nx
    · subst e
      rw [T.get_set_same] at hc
      cases hc
      obtain ⟨q1, en, cl, q2, q3, q4⟩ := ho .h _ trivial hob'
      refine ⟨(psh_cur (tau1_eq i)).trans q1, en, cl, by rw [psh_be (tau1_eq i)]; exact q2, q3, fun j e f he hf => ?_⟩
      obtain ⟨k1, k2⟩ := hp' e (List.mem_of_getElem? he)
      exact ⟨DV.pu him' _ _ k1 (q4 j e f he hf).1, DV.pu him' _ _ k2 (q4 j e f he hf).2⟩
    · rw [T.get_set_ne e _ _] at hc
      exact psh_keep R gh F (tau1_ne e) (hob i c hi hc)
  · have e : i ≠ nx := fun e => by subst e; rw [Pos.succ_nat] at hle; omega
    rw [psh_cur0 (tau1_ne e)]
    exact hnx i hi (by rw [Pos.succ_nat] at hle; omega)
theorem WCall.of {P : Program} {f : Nat} {ds : List D} {d : Option Pos} {sl : T D} {ob ob2 : T C} {nx nx2 : Pos} {lg lg2 : Option (T Bool)} {K : X → Prop} {v : D} (h : CallOk P f ds ob nx lg v ob2 nx2 lg2) (k : wDst sl ob2 nx2 lg2 d K v) : WCall P f ds d ⟨sl, ob, nx, lg⟩ K := by
  cases d with
  | none => exact ⟨v, _, _, _, _, h, rfl, k⟩
  | some d =>
    obtain ⟨h1, h2⟩ := wOut_ok k
    exact ⟨v, _, _, _, _, h, h1, h2⟩
mutual
theorem Kp.up {n m : Nat} (h : n ≤ m) : ∀ d : D, Kp n d → Kp m d
  | .pt _ _ _, k => by unfold Kp at k ⊢; omega
  | .yl _, k => by unfold Kp at k ⊢; omega
  | .sl _ _ _ _ _, k => by unfold Kp at k ⊢; omega
  | .mp _, k => by unfold Kp at k ⊢; omega
  | .fn _ x y, k => by unfold Kp at k ⊢; exact ⟨KpL.up h x k.1, KpL.up h y k.2⟩
  | .ag cs, k => by unfold Kp at k ⊢; exact KpL.up h cs k
  | .tp cs, k => by unfold Kp at k ⊢; exact KpL.up h cs k
  | .any, k => by unfold Kp at k ⊢; exact k
  | .b _, k => by unfold Kp at k ⊢; exact k
  | .i _ _, k => by unfold Kp at k ⊢; exact k
  | .s _, k => by unfold Kp at k ⊢; exact k
  | .np, k => by unfold Kp at k ⊢; exact k
  | .nf, k => by unfold Kp at k ⊢; exact k
  | .ni, k => by unfold Kp at k ⊢; exact k
  | .nm, k => by unfold Kp at k ⊢; exact k
  | .ns, k => by unfold Kp at k ⊢; exact k
  | .em, k => by unfold Kp at k ⊢; exact k
  | .ifc _ _, k => by unfold Kp at k ⊢; exact k
  | .lst _ _, k => by unfold Kp at k ⊢; exact k
  | .pl _ _, k => by unfold Kp at k ⊢; exact k
theorem KpL.up {n m : Nat} (h : n ≤ m) : ∀ ds : List D, KpL n ds → KpL m ds
  | [], k => by unfold KpL at k ⊢; exact k
  | d :: ds, k => by unfold KpL at k ⊢; exact ⟨Kp.up h d k.1, KpL.up h ds k.2⟩
end
theorem KpC.up {n m : Nat} (h : n ≤ m) : ∀ {c : C}, KpC n c → KpC m c
  | .cells _ _ _, k => fun c hc => Kp.up h _ (k c hc)
  | .lp _ _ _ _ _ _ _, k => fun s d hd => Kp.up h _ (k s d hd)
  | .map _, k => fun e he => ⟨Kp.up h _ (k e he).1, Kp.up h _ (k e he).2⟩
  | .hole, _ => trivial
theorem KpO.up {n m : Nat} (h : n ≤ m) {ob : T C} (k : KpO n ob) : KpO m ob := fun id c hc => ⟨Nat.lt_of_lt_of_le (k id c hc).1 h, (k id c hc).2.up h⟩
mutual
theorem Kp.pu {n : Nat} : ∀ d : D, Pu d → Kp n d
  | .pt _ _ _, h => by unfold Pu at h; exact h.elim
  | .yl _, h => by unfold Pu at h; exact h.elim
  | .sl _ _ _ _ _, h => by unfold Pu at h; exact h.elim
  | .mp _, h => by unfold Pu at h; exact h.elim
  | .fn _ x y, h => by unfold Pu at h; unfold Kp; exact ⟨KpL.pu x h.1, KpL.pu y h.2⟩
  | .ag cs, h => by unfold Pu at h; unfold Kp; exact KpL.pu cs h
  | .tp cs, h => by unfold Pu at h; unfold Kp; exact KpL.pu cs h
  | .any, h => by unfold Kp; exact h
  | .b _, h => by unfold Kp; exact h
  | .i _ _, h => by unfold Kp; exact h
  | .s _, h => by unfold Kp; exact h
  | .np, h => by unfold Kp; exact h
  | .nf, h => by unfold Kp; exact h
  | .ni, h => by unfold Kp; exact h
  | .nm, h => by unfold Kp; exact h
  | .ns, h => by unfold Kp; exact h
  | .em, h => by unfold Kp; exact h
  | .ifc _ _, h => by unfold Kp; exact h
  | .lst _ _, h => by unfold Kp; exact h
  | .pl _ _, h => by unfold Kp; exact h
theorem KpL.pu {n : Nat} : ∀ ds : List D, PuL ds → KpL n ds
  | [], _ => by unfold KpL; trivial
  | d :: ds, h => by unfold PuL at h; unfold KpL; exact ⟨Kp.pu d h.1, KpL.pu ds h.2⟩
end
inductive Fld {α σ : Type} (R : σ → α → σ → Bool → Prop) : List α → σ → σ → Bool → Prop where
  | nil {s : σ} : Fld R [] s s true
  | stop {a : α} {l : List α} {s s' : σ} (h : R s a s' false) : Fld R (a :: l) s s' false
  | go {a : α} {l : List α} {s s' s2 : σ} {g : Bool} (h : R s a s' true) (k : Fld R l s' s2 g) : Fld R (a :: l) s s2 g
theorem Fld.app {α σ : Type} {R : σ → α → σ → Bool → Prop} : ∀ {a b : List α} {s s1 s2 : σ} {g : Bool}, Fld R a s s1 true → Fld R b s1 s2 g → Fld R (a ++ b) s s2 g
  | [], _, _, _, _, _, h, k => by cases h; exact k
  | _ :: _, _, _, _, _, _, h, k => by
    cases h with
    | go h1 h2 => exact .go h1 (h2.app k)
theorem Fld.cut {α σ : Type} {R : σ → α → σ → Bool → Prop} : ∀ {a : List α} (b : List α) {s s1 : σ}, Fld R a s s1 false → Fld R (a ++ b) s s1 false
  | [], _, _, _, h => by cases h
  | _ :: _, b, _, _, h => by
    cases h with
    | stop h1 => exact .stop h1
    | go h1 h2 => exact .go h1 (h2.cut b)
theorem Fld.inv {α σ : Type} {R : σ → α → σ → Bool → Prop} {I : List α → σ → Prop} {W : List α} (hI : ∀ h s a s', h ++ [a] <+: W → I h s → R s a s' true → I (h ++ [a]) s') : ∀ {l h : List α} {s s' : σ}, h ++ l <+: W → I h s → Fld R l s s' true → I (h ++ l) s'
  | [], h, s, s', _, i, k => by cases k; rw [List.append_nil]; exact i
  | a :: l, h, s, s', hp, i, k => by
    cases k with
    | go h1 h2 =>
      have hp' : h ++ [a] ++ l <+: W := by rw [List.append_assoc]; exact hp
      have := Fld.inv hI hp' (hI _ _ _ _ ((List.prefix_append _ _).trans hp') i h1) h2
      rw [List.append_assoc] at this
      exact this
theorem map_next {α β : Type} {f : α → β} {L0 L : List α} {a : β} (h0 : L0 <+: L) (h : L0.map f ++ [a] <+: L.map f) : ∃ x, L0 ++ [x] <+: L ∧ a = f x := by
  obtain ⟨r, rfl⟩ := h0
  rw [List.map_append] at h
  have h := (List.prefix_append_right_inj _).1 h
  cases r with
  | nil => simp at h
  | cons x r =>
    rw [List.map_cons] at h
    refine ⟨x, (List.prefix_append_right_inj _).2 ⟨r, rfl⟩, ?_⟩
    obtain ⟨t, ht⟩ := h
    simp at ht
    exact ht.1
end Go.Ev

namespace Go.Ev
open Go.Proofs
set_option maxRecDepth 100000
def nz (n : Int) : Bool := !decide (n = 0)
def ptD (m : Mo) : List D := [.i .i64 m.n, .b (nz (m.h 0)), .b (nz (m.h 1)), .b (nz (m.h 2)), .b (nz (m.h 3)), .b (nz (m.h 4)), .b (nz (m.h 5)), .b (nz (m.h 6)), .b (nz (m.h 7))]
theorem pu_moD (m : Mo) : PuL (moD m) := by simp [moD, PuL, Pu]
theorem WSt.ixaZ {sl : T D} {ob : T C} {nx : Pos} {lg : Option (T Bool)} {K : X → Prop} {d id : Pos} {len z off st : Nat} {k : IntKind} {x i : RX} {n : Int} (hx : opd sl x = some (.pt id off st)) (hi : opd sl i = some (.i k n)) (h0 : 0 ≤ n) (hm : n.toNat < len) (h : wOut sl ob nx lg d K (.pt id (off + n.toNat * z) st)) : WSt (.ixa d len z x i) ⟨sl, ob, nx, lg⟩ K :=
  WSt.ixaN (m := n.toNat) hx hi (by omega) hm h
set_option maxHeartbeats 1000000 in
theorem j_point (m : Mo) : PureF Try.prog p139.ix [.ag (moD m)] (.ag (ptD m)) := by
  unfold moD
  refine PureF.run fn138 (by simp) (by simp [PuL, PuE, Pu, pu_ints, pu_ln, pu_ct]) ?_; conv => whnf
  repeat' first | ((first | with_reducible apply WB.tt | with_reducible apply WB.ff | refine Rn.seq ?_ | refine Rn.reg ?_ | refine Rn.drw ?_ | refine Rn.blk ?_ | refine Rn.skip ?_ | refine Rn.ret ?_ | refine Rn.exit ?_ | refine Rn.cond rfl ?_ | refine And.intro (InR.i64 (by omega) (by omega)) ?_ | refine And.intro (show _ ≠ (0 : Int) by omega) ?_ | refine WIx.intsN (by omega) ?_ | refine WIx.rowsN (by omega) ?_) <;> conv => whnf)
  refine Rn.rounds ?_
  iterate 8
    refine RnR.more ?_; conv => whnf
    repeat' first | ((first | with_reducible apply WB.tt | with_reducible apply WB.ff | refine Rn.seq ?_ | refine Rn.reg ?_ | refine Rn.drw ?_ | refine Rn.blk ?_ | refine Rn.skip ?_ | refine Rn.ret ?_ | refine Rn.exit ?_ | refine Rn.cond rfl ?_ | refine And.intro (InR.i64 (by omega) (by omega)) ?_ | refine And.intro (show _ ≠ (0 : Int) by omega) ?_ | refine WIx.intsN (by omega) ?_ | refine WIx.rowsN (by omega) ?_ | with_reducible refine WB.decT (by first | with_reducible rfl | assumption | omega | exact ⟨rfl, rfl⟩) ?_ | with_reducible refine WB.decF (by first | assumption | omega) ?_ | with_reducible refine WB.ndT (by first | with_reducible rfl | assumption | omega | exact ⟨rfl, rfl⟩) ?_ | with_reducible refine WB.ndF (by first | assumption | omega) ?_ | with_reducible refine WB.nt ?_ | with_reducible refine WB.nf ?_ | with_reducible refine WB.dec (fun h => ?_) (fun h => ?_) | with_reducible refine WB.ndec (fun h => ?_) (fun h => ?_) | refine WB.mk (fun h => ?_) (fun h => ?_)) <;> conv => whnf)
    refine WSt.ixaZ rfl rfl (by omega) (by decide) ?_; conv => whnf
    repeat' first | ((first | with_reducible apply WB.tt | with_reducible apply WB.ff | refine Rn.seq ?_ | refine Rn.reg ?_ | refine Rn.drw ?_ | refine Rn.blk ?_ | refine Rn.skip ?_ | refine Rn.ret ?_ | refine Rn.exit ?_ | refine Rn.cond rfl ?_ | refine And.intro (InR.i64 (by omega) (by omega)) ?_ | refine And.intro (show _ ≠ (0 : Int) by omega) ?_ | refine WIx.intsN (by omega) ?_ | refine WIx.rowsN (by omega) ?_ | with_reducible refine WB.decT (by first | with_reducible rfl | assumption | omega | exact ⟨rfl, rfl⟩) ?_ | with_reducible refine WB.decF (by first | assumption | omega) ?_ | with_reducible refine WB.ndT (by first | with_reducible rfl | assumption | omega | exact ⟨rfl, rfl⟩) ?_ | with_reducible refine WB.ndF (by first | assumption | omega) ?_ | with_reducible refine WB.nt ?_ | with_reducible refine WB.nf ?_ | with_reducible refine WB.dec (fun h => ?_) (fun h => ?_) | with_reducible refine WB.ndec (fun h => ?_) (fun h => ?_) | refine WB.mk (fun h => ?_) (fun h => ?_)) <;> conv => whnf)
  refine RnR.more ?_; conv => whnf
  repeat' first | ((first | with_reducible apply WB.tt | with_reducible apply WB.ff | refine Rn.seq ?_ | refine Rn.reg ?_ | refine Rn.drw ?_ | refine Rn.blk ?_ | refine Rn.skip ?_ | refine Rn.ret ?_ | refine Rn.exit ?_ | refine Rn.cond rfl ?_ | refine And.intro (InR.i64 (by omega) (by omega)) ?_ | refine And.intro (show _ ≠ (0 : Int) by omega) ?_ | refine WIx.intsN (by omega) ?_ | refine WIx.rowsN (by omega) ?_ | with_reducible refine WB.decT (by first | with_reducible rfl | assumption | omega | exact ⟨rfl, rfl⟩) ?_ | with_reducible refine WB.decF (by first | assumption | omega) ?_ | with_reducible refine WB.ndT (by first | with_reducible rfl | assumption | omega | exact ⟨rfl, rfl⟩) ?_ | with_reducible refine WB.ndF (by first | assumption | omega) ?_ | with_reducible refine WB.nt ?_ | with_reducible refine WB.nf ?_ | with_reducible refine WB.dec (fun h => ?_) (fun h => ?_) | with_reducible refine WB.ndec (fun h => ?_) (fun h => ?_) | refine WB.mk (fun h => ?_) (fun h => ?_)) <;> conv => whnf)
  refine ⟨.inr rfl, _, rfl, .ag ?_⟩
  unfold ptD nz
  repeat' first | exact FzL.nil | refine FzL.cons ?_ ?_
  all_goals exact .pu trivial
theorem j_nexts (n coin box : Int) (ls : List Ln) (cs : List Ct) (m : Mo) : PureF Try.prog p138.ix [.ag [.i .i64 n, .i .i64 coin, .i .i64 box, .lst 3 (rows lnD ls), .lst 3 (rows ctD cs), .any], .ag (moD m)] (.fn p156 [] [.pl (wk6 n coin box ls cs) 0, .pl (moD m) 0]) := by
  unfold moD
  refine PureF.run fn137 (by simp) (by simp [PuL, PuE, Pu, pu_ints, pu_ln, pu_ct]) ?_; conv => whnf
  repeat' first | ((first | with_reducible apply WB.tt | with_reducible apply WB.ff | refine Rn.seq ?_ | refine Rn.reg ?_ | refine Rn.drw ?_ | refine Rn.blk ?_ | refine Rn.skip ?_ | refine Rn.ret ?_ | refine Rn.exit ?_ | refine Rn.cond rfl ?_ | refine And.intro (InR.i64 (by omega) (by omega)) ?_ | refine And.intro (show _ ≠ (0 : Int) by omega) ?_ | refine WIx.intsN (by omega) ?_ | refine WIx.rowsN (by omega) ?_) <;> conv => whnf)
  refine Fin.t (.inr rfl) rfl (.fn .nil (.cons (Frz.ptr rfl rfl (by simp [wk6]) (by simp [wk6, PuL, Pu, pu_ln, pu_ct])) (.cons (Frz.ptr (r := moD m) rfl rfl (by simp [moD]) (by simp [moD, PuL, Pu])) .nil)))
end Go.Ev
