import Derived.Test.YtjgbfnciedkafaaEvUGl
import Derived.Test.YtjgbfnciedkafaaEvUJs
import Derived.Test.YtjgbfnciedkafaaEvUJb
import Derived.Test.YtjgbfnciedkafaaEvUGc
set_option linter.all false
namespace Go.Ev
open Go.Proofs
set_option maxRecDepth 100000
theorem WIx.rowsM {α : Type} [Inhabited α] {f : α → List D} {l : List α} {j : Nat} {z : Int} {F : List D → Prop} (h : j < l.length) (e : z = (j : Int)) (k : F (f (l.getD j default))) : WIx (rows f l) z F := by
  subst e
  exact WIx.rowsN h k
theorem tmodN (d l : Nat) : Int.tmod (d : Int) (l : Int) = ((d % l : Nat) : Int) := by
  rw [Int.tmod_eq_emod_of_nonneg (by omega), Int.natCast_emod]
theorem tdivN (d l : Nat) : Int.tdiv (d : Int) (l : Int) = ((d / l : Nat) : Int) := by
  rw [Int.tdiv_eq_ediv_of_nonneg (by omega), Int.natCast_ediv]
theorem divF_le (n : Int) (ls : List Ln) (m i : Nat) : divF n ls m i ≤ m := by
  rw [divF_eq]; exact Nat.div_le_self _ _
theorem lnF_nth (n : Int) (ls : List Ln) (m j : Nat) : lnF (nthF n ls m (j + 1)) = lnF (nthF n ls m j) ++ lnD ((rdK n ls j).getD (divF n ls m j % (rdK n ls j).length) default) := lnF_snoc _ _
set_option maxHeartbeats 2000000 in
theorem j_Nth (n coin box : Int) (ls : List Ln) (cs : List Ct) (m : Nat) (V : VB (B5 n coin box ls cs)) (hm : m ≤ 100000) : PureF Try.prog p62.ix [.ag (bk5 n coin box ls cs), .i .i64 (m : Int)] (.lst 3 (rows lnD (nthL n ls m))) := by
  have e1 := rows_length lnD ls
  have hl8 : ls.length ≤ 8 := V.len
  have eL : (nthL n ls m).length = ls.length := nthF_len n ls m ls.length
  have hn : 1 ≤ n ∧ n ≤ 4 := V.n
  have cR := fun l => j_Readings n coin box ls cs l (by omega)
  refine PureF.run fn61 (by simp) (by simp [PuL, PuE, Pu, bk5, pu_ln, pu_ct]) ?_; conv => whnf
  repeat' first | ((first | with_reducible apply WB.tt | with_reducible apply WB.ff | refine Rn.seq ?_ | refine Rn.reg ?_ | refine Rn.drw ?_ | refine Rn.blk ?_ | refine Rn.skip ?_ | refine Rn.ret ?_ | refine Rn.exit ?_ | refine Rn.cond rfl ?_ | refine And.intro (InR.i64 (by omega) (by omega)) ?_ | refine And.intro (show _ ≠ (0 : Int) by omega) ?_ | refine WIx.intsN (by omega) ?_ | refine WIx.rowsN (by omega) ?_) <;> conv => whnf)
  refine Rn.loop (fun j : Nat => match j with
    | 0 => ⟨(.n (.n .e (some (.i .i64 (m : Int))) (.n .e (some (.ns)) .e)) none (.n .e (some (.pt .h 0 0)) (.n .e (some (.i .i64 0)) .e))), (.n .e (some (bkC n coin box ls cs)) .e), .o .h, none⟩
    | j + 1 => ⟨(.n (.n .e (some (.i .i64 ((divF n ls m (j + 1) : Nat) : Int))) (.n .e (some (.sl (.i .h) 0 (j + 1) j 3)) .e)) none (.n .e (some (.pt .h 0 0)) (.n .e (some (.i .i64 ((j + 1 : Nat) : Int))) .e))), (.n .e (some (bkC n coin box ls cs)) (.n .e (some (.cells false ((lnF (nthF n ls m (j + 1))).map fun d => Cell.o d j) (j + 1))) .e)), .o (.o .h), none⟩) (fun j => j ≤ ls.length) (fun j => ls.length - j) 0 ?_ ?_ ?_
  · refine X.le.mk ?_ ?_ (Nat.le_refl _) rfl rfl
    · (repeat' first | exact T.le_e _ | refine T.le_some ?_ rfl ?_ | refine T.le_none ?_ ?_)
    · (repeat' first | exact T.le_e _ | refine T.le_some ?_ rfl ?_ | refine T.le_none ?_ ?_ | refine T.le_ee ?_ ?_)
  · omega
  rintro (_ | j) hj
  · conv => whnf
    repeat' first | ((first | with_reducible apply WB.tt | with_reducible apply WB.ff | refine Rn.seq ?_ | refine Rn.reg ?_ | refine Rn.drw ?_ | refine Rn.blk ?_ | refine Rn.skip ?_ | refine Rn.ret ?_ | refine Rn.exit ?_ | refine Rn.cond rfl ?_ | refine And.intro (InR.i64 (by omega) (by omega)) ?_ | refine And.intro (show _ ≠ (0 : Int) by omega) ?_ | refine WIx.intsN (by omega) ?_ | refine WIx.rowsN (by omega) ?_) <;> conv => whnf)
    refine WB.dec (fun h => ?_) (fun h => ?_) <;> conv => whnf
    · have hlt : 0 < ls.length := by omega
      obtain ⟨r0, r1, r2⟩ := rdK_len V (i := 0) hlt
      have r1 : 1 ≤ (readL n (ls.getD 0 default)).length := r1
      have r2 : (readL n (ls.getD 0 default)).length ≤ 32 := r2
      have er := rows_length lnD (readL n (ls.getD 0 default))
      have hmod : m % (readL n (ls.getD 0 default)).length < (readL n (ls.getD 0 default)).length := Nat.mod_lt _ r1
      have cR := cR (ls.getD 0 default)
      have hdl : divF n ls m 1 ≤ m := divF_le _ _ _ _
      have hq : Int.tdiv (m : Int) ((rows lnD (readL n (ls.getD 0 default))).length : Int) = ((divF n ls m 1 : Nat) : Int) := by rw [er, tdivN]; rfl
      have hf := lnF_nth n ls m 0
      repeat' first | ((first | with_reducible apply WB.tt | with_reducible apply WB.ff | refine Rn.seq ?_ | refine Rn.reg ?_ | refine Rn.drw ?_ | refine Rn.blk ?_ | refine Rn.skip ?_ | refine Rn.ret ?_ | refine Rn.exit ?_ | refine Rn.cond rfl ?_ | refine And.intro (InR.i64 (by omega) (by omega)) ?_ | refine And.intro (show _ ≠ (0 : Int) by omega) ?_ | refine WIx.intsN (by omega) ?_ | refine WIx.rowsN (by omega) ?_ | refine WCall.pure (cR) ?_ | with_reducible refine WB.decT (by first | with_reducible rfl | assumption | omega | exact ⟨rfl, rfl⟩) ?_ | with_reducible refine WB.decF (by first | assumption | omega) ?_ | with_reducible refine WB.ndT (by first | with_reducible rfl | assumption | omega | exact ⟨rfl, rfl⟩) ?_ | with_reducible refine WB.ndF (by first | assumption | omega) ?_ | with_reducible refine WB.nt ?_ | with_reducible refine WB.nf ?_ | with_reducible refine WB.dec (fun h => ?_) (fun h => ?_) | with_reducible refine WB.ndec (fun h => ?_) (fun h => ?_) | refine WB.mk (fun h => ?_) (fun h => ?_)) <;> conv => whnf)
      refine WIx.rowsM (j := m % (readL n (ls.getD 0 default)).length) hmod (by rw [er, tmodN]) ?_; conv => whnf
      repeat' first | ((first | with_reducible apply WB.tt | with_reducible apply WB.ff | refine Rn.seq ?_ | refine Rn.reg ?_ | refine Rn.drw ?_ | refine Rn.blk ?_ | refine Rn.skip ?_ | refine Rn.ret ?_ | refine Rn.exit ?_ | refine Rn.cond rfl ?_ | refine And.intro (InR.i64 (by omega) (by omega)) ?_ | refine And.intro (show _ ≠ (0 : Int) by omega) ?_ | refine WIx.intsN (by omega) ?_ | refine WIx.rowsN (by omega) ?_ | refine WCall.pure (cR) ?_ | with_reducible refine WB.decT (by first | with_reducible rfl | assumption | omega | exact ⟨rfl, rfl⟩) ?_ | with_reducible refine WB.decF (by first | assumption | omega) ?_ | with_reducible refine WB.ndT (by first | with_reducible rfl | assumption | omega | exact ⟨rfl, rfl⟩) ?_ | with_reducible refine WB.ndF (by first | assumption | omega) ?_ | with_reducible refine WB.nt ?_ | with_reducible refine WB.nf ?_ | with_reducible refine WB.dec (fun h => ?_) (fun h => ?_) | with_reducible refine WB.ndec (fun h => ?_) (fun h => ?_) | refine WB.mk (fun h => ?_) (fun h => ?_)) <;> conv => whnf)
      refine WSt.app_firstL (r := lnD ((readL n (ls.getD 0 default)).getD (m % (readL n (ls.getD 0 default)).length) default)) rfl (.inl rfl) rfl rfl rfl rfl ?_; conv => whnf
      repeat' first | ((first | with_reducible apply WB.tt | with_reducible apply WB.ff | refine Rn.seq ?_ | refine Rn.reg ?_ | refine Rn.drw ?_ | refine Rn.blk ?_ | refine Rn.skip ?_ | refine Rn.ret ?_ | refine Rn.exit ?_ | refine Rn.cond rfl ?_ | refine And.intro (InR.i64 (by omega) (by omega)) ?_ | refine And.intro (show _ ≠ (0 : Int) by omega) ?_ | refine WIx.intsN (by omega) ?_ | refine WIx.rowsN (by omega) ?_ | refine WCall.pure (cR) ?_ | with_reducible refine WB.decT (by first | with_reducible rfl | assumption | omega | exact ⟨rfl, rfl⟩) ?_ | with_reducible refine WB.decF (by first | assumption | omega) ?_ | with_reducible refine WB.ndT (by first | with_reducible rfl | assumption | omega | exact ⟨rfl, rfl⟩) ?_ | with_reducible refine WB.ndF (by first | assumption | omega) ?_ | with_reducible refine WB.nt ?_ | with_reducible refine WB.nf ?_ | with_reducible refine WB.dec (fun h => ?_) (fun h => ?_) | with_reducible refine WB.ndec (fun h => ?_) (fun h => ?_) | refine WB.mk (fun h => ?_) (fun h => ?_)) <;> conv => whnf)
      refine Again.to 1 (by show ls.length - 1 < ls.length - 0; omega) (by show 1 ≤ ls.length; omega) (Nat.le_of_ble_eq_true rfl) ?_
      refine Shr.of ?_ ?_ rfl rfl
      · (repeat' first | exact Rel.e | refine Rel.some ?_ ?_ ?_ | refine Rel.none ?_ ?_ | refine Rel.ee ?_ ?_)
        all_goals show Fz _ _ _ _
        all_goals first | exact .kpt (show _ < _ by simp [Pos.nat]) | exact .ksl (show _ < _ by simp [Pos.nat]) | exact .pu trivial | exact Fz.i hq
      · (repeat' first | exact Rel.e | refine Rel.some ?_ ?_ ?_ | refine Rel.none ?_ ?_ | refine Rel.ee ?_ ?_)
        all_goals first
          | exact RO'.of (show _ < _ by simp [Pos.nat]) (ShC.kp (bkC_kp _ _ _ _ _ _))
          | (refine RO'.of (show Pos.nat _ < Pos.nat _ by simp [Pos.nat]) ?_
             show ShC _ _ _ (.cells false ((lnF (nthF n ls m (0 + 1))).map fun d => Cell.o d 0) 1)
             rw [hf]
             exact ShC.same (ShC.cn (.pu trivial) (ShC.cn (.pu trivial) (ShC.cn (.pu trivial) ShC.nl))))
    · repeat' first | ((first | with_reducible apply WB.tt | with_reducible apply WB.ff | refine Rn.seq ?_ | refine Rn.reg ?_ | refine Rn.drw ?_ | refine Rn.blk ?_ | refine Rn.skip ?_ | refine Rn.ret ?_ | refine Rn.exit ?_ | refine Rn.cond rfl ?_ | refine And.intro (InR.i64 (by omega) (by omega)) ?_ | refine And.intro (show _ ≠ (0 : Int) by omega) ?_ | refine WIx.intsN (by omega) ?_ | refine WIx.rowsN (by omega) ?_) <;> conv => whnf)
      refine Fin.t (.inr rfl) rfl ?_
      rw [show nthL n ls m = [] from List.length_eq_zero_iff.1 (by omega)]
      exact Fz.ns
  · have hj : j + 1 ≤ ls.length := hj
    conv => whnf
    repeat' first | ((first | with_reducible apply WB.tt | with_reducible apply WB.ff | refine Rn.seq ?_ | refine Rn.reg ?_ | refine Rn.drw ?_ | refine Rn.blk ?_ | refine Rn.skip ?_ | refine Rn.ret ?_ | refine Rn.exit ?_ | refine Rn.cond rfl ?_ | refine And.intro (InR.i64 (by omega) (by omega)) ?_ | refine And.intro (show _ ≠ (0 : Int) by omega) ?_ | refine WIx.intsN (by omega) ?_ | refine WIx.rowsN (by omega) ?_) <;> conv => whnf)
    refine WB.dec (fun h => ?_) (fun h => ?_) <;> conv => whnf
    · have hlt : j + 1 < ls.length := by omega
      obtain ⟨r0, r1, r2⟩ := rdK_len V (i := j + 1) hlt
      have r1 : 1 ≤ (readL n (ls.getD (j + 1) default)).length := r1
      have r2 : (readL n (ls.getD (j + 1) default)).length ≤ 32 := r2
      have er := rows_length lnD (readL n (ls.getD (j + 1) default))
      have hmod : divF n ls m (j + 1) % (readL n (ls.getD (j + 1) default)).length < (readL n (ls.getD (j + 1) default)).length := Nat.mod_lt _ r1
      have cR := cR (ls.getD (j + 1) default)
      have hdl : divF n ls m (j + 2) ≤ m := divF_le _ _ _ _
      have hdl2 : divF n ls m (j + 1) ≤ m := divF_le _ _ _ _
      have hq : Int.tdiv ((divF n ls m (j + 1) : Nat) : Int) ((rows lnD (readL n (ls.getD (j + 1) default))).length : Int) = ((divF n ls m (j + 2) : Nat) : Int) := by rw [er, tdivN]; rfl
      have hf := lnF_nth n ls m (j + 1)
      have hfl : (lnF (nthF n ls m (j + 1))).length = (j + 1) * 3 := by rw [lnF_len, nthF_len]
      repeat' first | ((first | with_reducible apply WB.tt | with_reducible apply WB.ff | refine Rn.seq ?_ | refine Rn.reg ?_ | refine Rn.drw ?_ | refine Rn.blk ?_ | refine Rn.skip ?_ | refine Rn.ret ?_ | refine Rn.exit ?_ | refine Rn.cond rfl ?_ | refine And.intro (InR.i64 (by omega) (by omega)) ?_ | refine And.intro (show _ ≠ (0 : Int) by omega) ?_ | refine WIx.intsN (by omega) ?_ | refine WIx.rowsN (by omega) ?_ | refine WCall.pure (cR) ?_ | with_reducible refine WB.decT (by first | with_reducible rfl | assumption | omega | exact ⟨rfl, rfl⟩) ?_ | with_reducible refine WB.decF (by first | assumption | omega) ?_ | with_reducible refine WB.ndT (by first | with_reducible rfl | assumption | omega | exact ⟨rfl, rfl⟩) ?_ | with_reducible refine WB.ndF (by first | assumption | omega) ?_ | with_reducible refine WB.nt ?_ | with_reducible refine WB.nf ?_ | with_reducible refine WB.dec (fun h => ?_) (fun h => ?_) | with_reducible refine WB.ndec (fun h => ?_) (fun h => ?_) | refine WB.mk (fun h => ?_) (fun h => ?_)) <;> conv => whnf)
      refine WIx.rowsM (j := divF n ls m (j + 1) % (readL n (ls.getD (j + 1) default)).length) hmod (by rw [er, tmodN]) ?_; conv => whnf
      repeat' first | ((first | with_reducible apply WB.tt | with_reducible apply WB.ff | refine Rn.seq ?_ | refine Rn.reg ?_ | refine Rn.drw ?_ | refine Rn.blk ?_ | refine Rn.skip ?_ | refine Rn.ret ?_ | refine Rn.exit ?_ | refine Rn.cond rfl ?_ | refine And.intro (InR.i64 (by omega) (by omega)) ?_ | refine And.intro (show _ ≠ (0 : Int) by omega) ?_ | refine WIx.intsN (by omega) ?_ | refine WIx.rowsN (by omega) ?_ | refine WCall.pure (cR) ?_ | with_reducible refine WB.decT (by first | with_reducible rfl | assumption | omega | exact ⟨rfl, rfl⟩) ?_ | with_reducible refine WB.decF (by first | assumption | omega) ?_ | with_reducible refine WB.ndT (by first | with_reducible rfl | assumption | omega | exact ⟨rfl, rfl⟩) ?_ | with_reducible refine WB.ndF (by first | assumption | omega) ?_ | with_reducible refine WB.nt ?_ | with_reducible refine WB.nf ?_ | with_reducible refine WB.dec (fun h => ?_) (fun h => ?_) | with_reducible refine WB.ndec (fun h => ?_) (fun h => ?_) | refine WB.mk (fun h => ?_) (fun h => ?_)) <;> conv => whnf)
      refine WSt.app_oneL (ds := lnF (nthF n ls m (j + 1))) (r := lnD ((readL n (ls.getD (j + 1) default)).getD (divF n ls m (j + 1) % (readL n (ls.getD (j + 1) default)).length) default)) rfl rfl rfl rfl rfl rfl hfl rfl rfl (by omega) rfl ?_; conv => whnf
      repeat' first | ((first | with_reducible apply WB.tt | with_reducible apply WB.ff | refine Rn.seq ?_ | refine Rn.reg ?_ | refine Rn.drw ?_ | refine Rn.blk ?_ | refine Rn.skip ?_ | refine Rn.ret ?_ | refine Rn.exit ?_ | refine Rn.cond rfl ?_ | refine And.intro (InR.i64 (by omega) (by omega)) ?_ | refine And.intro (show _ ≠ (0 : Int) by omega) ?_ | refine WIx.intsN (by omega) ?_ | refine WIx.rowsN (by omega) ?_ | refine WCall.pure (cR) ?_ | with_reducible refine WB.decT (by first | with_reducible rfl | assumption | omega | exact ⟨rfl, rfl⟩) ?_ | with_reducible refine WB.decF (by first | assumption | omega) ?_ | with_reducible refine WB.ndT (by first | with_reducible rfl | assumption | omega | exact ⟨rfl, rfl⟩) ?_ | with_reducible refine WB.ndF (by first | assumption | omega) ?_ | with_reducible refine WB.nt ?_ | with_reducible refine WB.nf ?_ | with_reducible refine WB.dec (fun h => ?_) (fun h => ?_) | with_reducible refine WB.ndec (fun h => ?_) (fun h => ?_) | refine WB.mk (fun h => ?_) (fun h => ?_)) <;> conv => whnf)
      refine Again.to (j + 2) (by show ls.length - (j + 2) < ls.length - (j + 1); omega) (by show j + 2 ≤ ls.length; omega) (Nat.le_of_ble_eq_true rfl) ?_
      refine Shr.of ?_ ?_ rfl rfl
      · (repeat' first | exact Rel.e | refine Rel.some ?_ ?_ ?_ | refine Rel.none ?_ ?_ | refine Rel.ee ?_ ?_)
        all_goals show Fz _ _ _ _
        all_goals first | exact .kpt (show _ < _ by simp [Pos.nat]) | exact .ksl (show _ < _ by simp [Pos.nat]) | exact .pu trivial | exact Fz.i hq
      · (repeat' first | exact Rel.e | refine Rel.some ?_ ?_ ?_ | refine Rel.none ?_ ?_ | refine Rel.ee ?_ ?_)
        all_goals first
          | exact RO'.of (show _ < _ by simp [Pos.nat]) (ShC.kp (bkC_kp _ _ _ _ _ _))
          | (refine RO'.of (show Pos.nat _ < Pos.nat _ by simp [Pos.nat]) ?_
             show ShC _ _ (.cells false (((lnF (nthF n ls m (j + 1))).map fun d => Cell.o d j) ++ (lnD ((rdK n ls (j + 1)).getD (divF n ls m (j + 1) % (rdK n ls (j + 1)).length) default)).map fun d => Cell.o d (j + 1)) (j + 1 + 1)) (.cells false ((lnF (nthF n ls m (j + 1 + 1))).map fun d => Cell.o d (j + 1)) (j + 1 + 1))
             rw [hf]
             exact ShC.grown (by omega) (PuL_iff.2 fun d hd => (List.mem_append.1 hd).elim (fun hd => PuL_iff.1 (lnF_pu _) d hd) (fun hd => PuL_iff.1 (pl_ln _) d hd)))
    · repeat' first | ((first | with_reducible apply WB.tt | with_reducible apply WB.ff | refine Rn.seq ?_ | refine Rn.reg ?_ | refine Rn.drw ?_ | refine Rn.blk ?_ | refine Rn.skip ?_ | refine Rn.ret ?_ | refine Rn.exit ?_ | refine Rn.cond rfl ?_ | refine And.intro (InR.i64 (by omega) (by omega)) ?_ | refine And.intro (show _ ≠ (0 : Int) by omega) ?_ | refine WIx.intsN (by omega) ?_ | refine WIx.rowsN (by omega) ?_) <;> conv => whnf)
      refine Fin.t (.inr rfl) rfl ?_
      exact Frz.whole (cs := (lnF (nthF n ls m (j + 1))).map fun d => Cell.o d j) (cur := j + 1) rfl (by rw [rows_length]; omega) (ln_three _) (by rw [show j + 1 = ls.length by omega]; rfl) (pu_ln _)
end Go.Ev

namespace Go.Ev
open Go.Proofs
set_option maxRecDepth 100000
def tlD (X : List Ln) : List D := [.lst 3 (rows lnD X)]
def tlDs (L : List (List Ln)) : List D := L.map fun x => D.lst 3 (rows lnD x)
theorem pu_tl (L : List (List Ln)) : PuE (rows tlD L) := pu_rows (fun x => by simp [tlD, PuL, Pu, pu_ln]) L
theorem pu_tlDs (L : List (List Ln)) : PuL (tlDs L) := PuL_iff.2 fun d hd => by
  obtain ⟨x, _, rfl⟩ := List.mem_map.1 hd
  exact pu_ln x
theorem tl_one (L : List (List Ln)) : ∀ r ∈ rows tlD L, r.length = 1 := fun r hr => by
  obtain ⟨x, _, rfl⟩ := List.mem_map.1 hr; rfl
theorem tl_flat (L : List (List Ln)) : (rows tlD L).flatten = tlDs L := by
  induction L with
  | nil => rfl
  | cons a L ih => simp only [rows, tlDs, List.map_cons, List.flatten_cons] at *; rw [ih]; rfl
def slT3 : List (List Ln) → D
  | [] => .ns
  | _ :: s => .sl (.i .h) 0 (s.length + 1) s.length 1
def blT3 : List (List Ln) → Option C
  | [] => none
  | a :: s => some (.cells false ((tlDs (a :: s)).map fun d => Cell.o d s.length) (s.length + 1))
def nxT3 : List (List Ln) → Pos
  | [] => .o .h
  | _ :: _ => .o (.o .h)
theorem slT3_kp (A : List (List Ln)) : Kp (nxT3 A).nat (slT3 A) := by
  cases A <;> simp [slT3, nxT3, Kp, Pos.nat, Pu]
theorem nxT3_two (A : List (List Ln)) : 2 ≤ (nxT3 A).nat := by cases A <;> simp [nxT3, Pos.nat]
theorem nxT3_up (A A' : List (List Ln)) : (nxT3 A).nat ≤ (nxT3 (A ++ A')).nat := by
  cases A with
  | nil => cases A' <;> simp [nxT3, Pos.nat]
  | cons a A => simp [nxT3]
theorem tlDs_kp (n st : Nat) (L : List (List Ln)) : ∀ c ∈ (tlDs L).map (fun d => Cell.o d st), Kp n c.d := fun c hc => by
  obtain ⟨d, hd, rfl⟩ := List.mem_map.1 hc
  obtain ⟨x, _, rfl⟩ := List.mem_map.1 hd
  simp [Kp, Pu, Cell.d, pu_ln]
theorem blT3_snoc (a : List Ln) (s : List (List Ln)) (x : List Ln) : blT3 (a :: (s ++ [x])) = some (.cells false ((tlDs (a :: s) ++ [D.lst 3 (rows lnD x)]).map fun d => Cell.o d (s.length + 1)) (s.length + 1 + 1)) := by
  simp [blT3, tlDs]
theorem slT3_snoc (a : List Ln) (s : List (List Ln)) (x : List Ln) : slT3 (a :: (s ++ [x])) = .sl (.i .h) 0 (s.length + 1 + 1) (s.length + 1) 1 := by
  simp [slT3]
theorem allN3_at {n : Int} {ls : List Ln} {j : Nat} (h : j < (manyR n ls).toNat) : (allN3 n ls).getD j [] = nthL n ls j := by
  simp [allN3, List.getD, h]
section
variable (n coin box : Int) (ls : List Ln) (cs : List Ct)
noncomputable def ttS (A : List (List Ln)) (j : Nat) : X := ⟨(.n (.n (.n .e (some (slT3 A)) .e) (some (.pt .h 0 0)) .e) none (.n (.n .e (some (.i .i64 (j : Int))) .e) none .e)), .n .e (some (bkC n coin box ls cs)) (.n .e (blT3 A) .e), nxT3 A, none⟩
theorem ttS_kp (A : List (List Ln)) (j : Nat) : ∀ s d, (ttS n coin box ls cs A j).sl.get s = some d → Kp (nxT3 A).nat d := by
  have h2 := nxT3_two A
  show TAll (fun _ d => Kp (nxT3 A).nat d) _
  unfold ttS
  repeat' first | exact TAll.e | refine TAll.some ?_ ?_ ?_ | refine TAll.none ?_ ?_
  all_goals first | exact slT3_kp A | (simp [Kp, Pu, Pos.nat]; done) | (simp [Kp, Pos.nat]; omega)
theorem ttO_kp (A : List (List Ln)) (j : Nat) : KpO (nxT3 A).nat (ttS n coin box ls cs A j).ob := by
  cases A with
  | nil =>
    show TAll (fun id c => id.nat < 2 ∧ KpC 2 c) _
    unfold ttS blT3
    exact TAll.some TAll.e ⟨by simp [Pos.nat], bkC_kp _ _ _ _ _ _⟩ (TAll.none TAll.e TAll.e)
  | cons a s =>
    show TAll (fun id c => id.nat < 4 ∧ KpC 4 c) _
    unfold ttS blT3
    refine TAll.some TAll.e ⟨by simp [Pos.nat], bkC_kp _ _ _ _ _ _⟩ (TAll.some TAll.e ⟨by simp [Pos.nat], tlDs_kp _ _ _⟩ TAll.e)
end
set_option maxHeartbeats 2000000 in
theorem j_Truths (n coin box : Int) (ls : List Ln) (cs : List Ct) (V : VB (B5 n coin box ls cs)) : PureF Try.prog p61.ix [.ag (bk5 n coin box ls cs)] (.lst 1 (rows tlD (refT (B5 n coin box ls cs)))) := by
  have hal : (allN3 n ls).length ≤ 4096 := allN3_len V
  have hl8 : ls.length ≤ 8 := V.len
  have hMl : (allN3 n ls).length = (manyR n ls).toNat := by unfold allN3; rw [List.length_map, List.length_range]
  have hn : 1 ≤ n ∧ n ≤ 4 := V.n
  have hM0 : 0 ≤ manyR n ls := by
    have := many_prod hn.1 hn.2 ls
    omega
  have hM4 : manyR n ls ≤ 4096 := V.many
  have cM := j_Many n coin box ls cs hn (by omega) V.ls
  refine PureF.run fn60 (by simp) (by simp [PuL, PuE, Pu, bk5, pu_ln, pu_ct]) ?_; conv => whnf
  repeat' first | ((first | with_reducible apply WB.tt | with_reducible apply WB.ff | refine Rn.seq ?_ | refine Rn.reg ?_ | refine Rn.drw ?_ | refine Rn.blk ?_ | refine Rn.skip ?_ | refine Rn.ret ?_ | refine Rn.exit ?_ | refine Rn.cond rfl ?_ | refine And.intro (InR.i64 (by omega) (by omega)) ?_ | refine And.intro (show _ ≠ (0 : Int) by omega) ?_ | refine WIx.intsN (by omega) ?_ | refine WIx.rowsN (by omega) ?_) <;> conv => whnf)
  refine Rn.loop (fun j : Nat => ttS n coin box ls cs (((allN3 n ls).take j).filter (tBad box coin cs)) j) (fun j => j ≤ (allN3 n ls).length) (fun j => (allN3 n ls).length - j) 0 ?_ ?_ ?_
  · refine X.le.mk ?_ (T.le_some (T.le_e _) rfl (T.le_ee (T.le_e _) (T.le_e _))) (Nat.le_refl _) rfl rfl
    show T.le ((.n (.n (.n .e (some (.ns)) .e) (some (.pt .h 0 0)) .e) none (.n (.n .e (some (.i .i64 (0 : Int))) .e) none .e)) : T D) _
    (repeat' first | exact T.le_e _ | refine T.le_some ?_ rfl ?_ | refine T.le_none ?_ ?_)
  · exact Nat.zero_le _
  intro j hj
  have hj : j ≤ (allN3 n ls).length := hj
  have hAl : (((allN3 n ls).take j).filter (tBad box coin cs)).length ≤ 4096 := by
    have h1 := List.length_filter_le (tBad box coin cs) ((allN3 n ls).take j)
    rw [List.length_take] at h1
    omega
  have hend : j = (allN3 n ls).length → ((allN3 n ls).take j).filter (tBad box coin cs) = refT (B5 n coin box ls cs) := fun e => by rw [e, List.take_length]; rfl
  have hnext := fun h => filter_take_succ (p := tBad box coin cs) (l := allN3 n ls) (j := j) (d := []) h
  generalize hA : ((allN3 n ls).take j).filter (tBad box coin cs) = A at *
  conv => whnf
  repeat' first | ((first | with_reducible apply WB.tt | with_reducible apply WB.ff | refine Rn.seq ?_ | refine Rn.reg ?_ | refine Rn.drw ?_ | refine Rn.blk ?_ | refine Rn.skip ?_ | refine Rn.ret ?_ | refine Rn.exit ?_ | refine Rn.cond rfl ?_ | refine And.intro (InR.i64 (by omega) (by omega)) ?_ | refine And.intro (show _ ≠ (0 : Int) by omega) ?_ | refine WIx.intsN (by omega) ?_ | refine WIx.rowsN (by omega) ?_ | refine WCall.pure (cM) ?_) <;> conv => whnf)
  refine WB.dec (fun h => ?_) (fun h => ?_) <;> conv => whnf
  · have hlt : j < (allN3 n ls).length := by omega
    have hnext := hnext (by omega)
    have hup := nxT3_up A
    have cN := j_Nth n coin box ls cs j V (by omega)
    have hxl := nthF_len n ls j ls.length
    rw [allN3_at (by omega)] at hnext
    have hx : nthL n ls j = nthF n ls j ls.length := rfl
    rw [← hx] at hxl
    generalize nthL n ls j = x at *
    have cP := j_IsPossible x (by omega)
    have cC := j_Counted n coin box ls cs x V.box V.coin (by omega) (by have : cs.length ≤ 4 := V.clen; omega) (fun c h => by rw [hxl]; exact V.cs c h)
    have hbad : tBad box coin cs x = (possB x && cntB box coin cs x) := rfl
    have hno : tBad box coin cs x = false → ((allN3 n ls).take (j + 1)).filter (tBad box coin cs) = A := fun hf => by rw [hnext, hf, cond_false, List.append_nil]
    repeat' first | ((first | with_reducible apply WB.tt | with_reducible apply WB.ff | refine Rn.seq ?_ | refine Rn.reg ?_ | refine Rn.drw ?_ | refine Rn.blk ?_ | refine Rn.skip ?_ | refine Rn.ret ?_ | refine Rn.exit ?_ | refine Rn.cond rfl ?_ | refine And.intro (InR.i64 (by omega) (by omega)) ?_ | refine And.intro (show _ ≠ (0 : Int) by omega) ?_ | refine WIx.intsN (by omega) ?_ | refine WIx.rowsN (by omega) ?_ | refine WCall.pure (cN) ?_) <;> conv => whnf)
    cases hp : possB x with
    | false =>
      rw [hp] at cP
      have hno := hno (by rw [hbad, hp]; rfl)
      repeat' first | ((first | with_reducible apply WB.tt | with_reducible apply WB.ff | refine Rn.seq ?_ | refine Rn.reg ?_ | refine Rn.drw ?_ | refine Rn.blk ?_ | refine Rn.skip ?_ | refine Rn.ret ?_ | refine Rn.exit ?_ | refine Rn.cond rfl ?_ | refine And.intro (InR.i64 (by omega) (by omega)) ?_ | refine And.intro (show _ ≠ (0 : Int) by omega) ?_ | refine WIx.intsN (by omega) ?_ | refine WIx.rowsN (by omega) ?_ | refine WCall.pure (cP) ?_) <;> conv => whnf)
      refine Again.to (j + 1) (by omega) (by omega) ?_ ?_
      · show (nxT3 (((allN3 n ls).take j).filter (tBad box coin cs))).nat ≤ (nxT3 (((allN3 n ls).take (j + 1)).filter (tBad box coin cs))).nat
        rw [hA, hno]; exact Nat.le_refl _
      · show Shr _ (ttS n coin box ls cs (((allN3 n ls).take (j + 1)).filter (tBad box coin cs)) (j + 1))
        rw [hno]
        refine Shr.kp2 ?_ (ttS_kp n coin box ls cs _ _) (T.le_refl _) (ttO_kp n coin box ls cs A (j + 1))
        show T.le ((.n (.n (.n .e (some (slT3 A)) .e) (some (.pt .h 0 0)) .e) none (.n (.n .e (some (.i .i64 ((j + 1 : Nat) : Int))) .e) none .e)) : T D) _
        (repeat' first | exact T.le_e _ | refine T.le_some ?_ rfl ?_ | refine T.le_none ?_ ?_)
    | true =>
    rw [hp] at cP
    cases hc : cntB box coin cs x with
    | false =>
      rw [hc] at cC
      have hno := hno (by rw [hbad, hp, hc]; rfl)
      repeat' first | ((first | with_reducible apply WB.tt | with_reducible apply WB.ff | refine Rn.seq ?_ | refine Rn.reg ?_ | refine Rn.drw ?_ | refine Rn.blk ?_ | refine Rn.skip ?_ | refine Rn.ret ?_ | refine Rn.exit ?_ | refine Rn.cond rfl ?_ | refine And.intro (InR.i64 (by omega) (by omega)) ?_ | refine And.intro (show _ ≠ (0 : Int) by omega) ?_ | refine WIx.intsN (by omega) ?_ | refine WIx.rowsN (by omega) ?_ | refine WCall.pure (cP) ?_ | refine WCall.pure (cC) ?_) <;> conv => whnf)
      refine Again.to (j + 1) (by omega) (by omega) ?_ ?_
      · show (nxT3 (((allN3 n ls).take j).filter (tBad box coin cs))).nat ≤ (nxT3 (((allN3 n ls).take (j + 1)).filter (tBad box coin cs))).nat
        rw [hA, hno]; exact Nat.le_refl _
      · show Shr _ (ttS n coin box ls cs (((allN3 n ls).take (j + 1)).filter (tBad box coin cs)) (j + 1))
        rw [hno]
        refine Shr.kp2 ?_ (ttS_kp n coin box ls cs _ _) (T.le_refl _) (ttO_kp n coin box ls cs A (j + 1))
        show T.le ((.n (.n (.n .e (some (slT3 A)) .e) (some (.pt .h 0 0)) .e) none (.n (.n .e (some (.i .i64 ((j + 1 : Nat) : Int))) .e) none .e)) : T D) _
        (repeat' first | exact T.le_e _ | refine T.le_some ?_ rfl ?_ | refine T.le_none ?_ ?_)
    | true =>
    rw [hc] at cC
    have hf : tBad box coin cs x = true := by rw [hbad, hp, hc]; rfl
    rw [hf, cond_true] at hnext
    cases A with
    | nil =>
      repeat' first | ((first | with_reducible apply WB.tt | with_reducible apply WB.ff | refine Rn.seq ?_ | refine Rn.reg ?_ | refine Rn.drw ?_ | refine Rn.blk ?_ | refine Rn.skip ?_ | refine Rn.ret ?_ | refine Rn.exit ?_ | refine Rn.cond rfl ?_ | refine And.intro (InR.i64 (by omega) (by omega)) ?_ | refine And.intro (show _ ≠ (0 : Int) by omega) ?_ | refine WIx.intsN (by omega) ?_ | refine WIx.rowsN (by omega) ?_ | refine WCall.pure (cP) ?_ | refine WCall.pure (cC) ?_) <;> conv => whnf)
      refine WSt.app_first (r := [_]) rfl (.inl rfl) rfl rfl rfl rfl ?_; conv => whnf
      repeat' first | ((first | with_reducible apply WB.tt | with_reducible apply WB.ff | refine Rn.seq ?_ | refine Rn.reg ?_ | refine Rn.drw ?_ | refine Rn.blk ?_ | refine Rn.skip ?_ | refine Rn.ret ?_ | refine Rn.exit ?_ | refine Rn.cond rfl ?_ | refine And.intro (InR.i64 (by omega) (by omega)) ?_ | refine And.intro (show _ ≠ (0 : Int) by omega) ?_ | refine WIx.intsN (by omega) ?_ | refine WIx.rowsN (by omega) ?_) <;> conv => whnf)
      refine Again.to (j + 1) (by omega) (by omega) ?_ ?_
      · show (nxT3 (((allN3 n ls).take j).filter (tBad box coin cs))).nat ≤ (nxT3 (((allN3 n ls).take (j + 1)).filter (tBad box coin cs))).nat
        rw [hA, hnext]; exact hup _
      · show Shr _ (ttS n coin box ls cs (((allN3 n ls).take (j + 1)).filter (tBad box coin cs)) (j + 1))
        rw [hnext]
        refine Shr.kp2 ?_ (ttS_kp n coin box ls cs _ _) ?_ (ttO_kp n coin box ls cs [x] (j + 1))
        · show T.le ((.n (.n (.n .e (some (.sl (.i .h) 0 1 0 1)) .e) (some (.pt .h 0 0)) .e) none (.n (.n .e (some (.i .i64 ((j + 1 : Nat) : Int))) .e) none .e)) : T D) _
          (repeat' first | exact T.le_e _ | refine T.le_some ?_ rfl ?_ | refine T.le_none ?_ ?_)
        · show T.le (T.n .e (some (bkC n coin box ls cs)) (.n .e (some (.cells false [.o (.lst 3 (rows lnD x)) 0] 1)) .e)) _
          (repeat' first | exact T.le_e _ | refine T.le_some ?_ rfl ?_ | refine T.le_none ?_ ?_)
    | cons a s =>
      repeat' first | ((first | with_reducible apply WB.tt | with_reducible apply WB.ff | refine Rn.seq ?_ | refine Rn.reg ?_ | refine Rn.drw ?_ | refine Rn.blk ?_ | refine Rn.skip ?_ | refine Rn.ret ?_ | refine Rn.exit ?_ | refine Rn.cond rfl ?_ | refine And.intro (InR.i64 (by omega) (by omega)) ?_ | refine And.intro (show _ ≠ (0 : Int) by omega) ?_ | refine WIx.intsN (by omega) ?_ | refine WIx.rowsN (by omega) ?_ | refine WCall.pure (cP) ?_ | refine WCall.pure (cC) ?_) <;> conv => whnf)
      refine WSt.app_one (ds := tlDs (a :: s)) (r := [_]) rfl rfl rfl rfl rfl rfl (by simp [tlDs]) rfl rfl (by simp at hAl; omega) rfl ?_; conv => whnf
      repeat' first | ((first | with_reducible apply WB.tt | with_reducible apply WB.ff | refine Rn.seq ?_ | refine Rn.reg ?_ | refine Rn.drw ?_ | refine Rn.blk ?_ | refine Rn.skip ?_ | refine Rn.ret ?_ | refine Rn.exit ?_ | refine Rn.cond rfl ?_ | refine And.intro (InR.i64 (by omega) (by omega)) ?_ | refine And.intro (show _ ≠ (0 : Int) by omega) ?_ | refine WIx.intsN (by omega) ?_ | refine WIx.rowsN (by omega) ?_) <;> conv => whnf)
      refine Again.to (j + 1) (by omega) (by omega) ?_ ?_
      · show (nxT3 (((allN3 n ls).take j).filter (tBad box coin cs))).nat ≤ (nxT3 (((allN3 n ls).take (j + 1)).filter (tBad box coin cs))).nat
        rw [hA, hnext]; exact hup _
      · show Shr _ (ttS n coin box ls cs (((allN3 n ls).take (j + 1)).filter (tBad box coin cs)) (j + 1))
        rw [hnext, List.cons_append]
        refine Shr.of ?_ ?_ rfl rfl
        · show Rel _ _ ((.n (.n (.n .e (some (slT3 (a :: (s ++ [x])))) .e) (some (.pt .h 0 0)) .e) none (.n (.n .e (some (.i .i64 ((j + 1 : Nat) : Int))) .e) none .e)) : T D) _
          rw [slT3_snoc]
          (repeat' first | exact Rel.e | refine Rel.some ?_ ?_ ?_ | refine Rel.none ?_ ?_)
          all_goals show Fz _ _ _ _
          all_goals first | exact .pu trivial | exact .ksl (show _ < 4 by simp [Pos.nat]) | exact .kpt (show _ < 4 by simp [Pos.nat])
        · show Rel _ _ (T.n .e (some (bkC n coin box ls cs)) (.n .e (blT3 (a :: (s ++ [x]))) .e)) _
          rw [blT3_snoc]
          (repeat' first | exact Rel.e | refine Rel.some ?_ ?_ ?_ | refine Rel.none ?_ ?_)
          · exact RO'.of (show _ < 4 by simp [Pos.nat]) (ShC.kp (bkC_kp _ _ _ _ _ _))
          · refine RO'.of (show _ < 4 by simp [Pos.nat]) ?_
            exact ShC.grownF (by omega) (pu_tlDs _) (.pu (pu_ln _))
  · repeat' first | ((first | with_reducible apply WB.tt | with_reducible apply WB.ff | refine Rn.seq ?_ | refine Rn.reg ?_ | refine Rn.drw ?_ | refine Rn.blk ?_ | refine Rn.skip ?_ | refine Rn.ret ?_ | refine Rn.exit ?_ | refine Rn.cond rfl ?_ | refine And.intro (InR.i64 (by omega) (by omega)) ?_ | refine And.intro (show _ ≠ (0 : Int) by omega) ?_ | refine WIx.intsN (by omega) ?_ | refine WIx.rowsN (by omega) ?_) <;> conv => whnf)
    have he := hend (by omega)
    subst he
    refine Fin.t (.inr rfl) rfl ?_
    cases hT : refT (B5 n coin box ls cs) with
    | nil => exact .ns
    | cons a s =>
      exact Frz.whole (cs := (tlDs (a :: s)).map fun d => Cell.o d s.length) (cur := s.length + 1) rfl (by simp [rows]) (tl_one _) (by rw [tl_flat]) (pu_tl _)
theorem hasB_nil {B : Bk} (V : VB B) : hasB B = true ↔ refT B ≠ [] := by
  unfold hasB
  rw [can_iff]
  constructor
  · rintro ⟨X, h⟩ he
    have := (refT_ext V).2 (mem_exT.2 h)
    rw [he] at this; cases this
  · intro h
    obtain ⟨X, s, hs⟩ := List.exists_cons_of_ne_nil h
    have : X ∈ refT B := by rw [hs]; exact List.mem_cons_self
    exact ⟨X, mem_exT.1 ((refT_ext V).1 this)⟩
def surD (n coin box : Int) (ls : List Ln) (cs : List Ct) : D := if sE n coin box ls cs true = 0 then .tp [.lst 1 (rows tlD (refT (B5 n coin box ls cs))), .i .i64 0] else .tp [.lst 1 [], .i .i64 (sE n coin box ls cs true)]
theorem j_sure (n coin box : Int) (ls : List Ln) (cs : List Ct) : PureF Try.prog p35.ix [.ag (bk5 n coin box ls cs)] (surD n coin box ls cs) := by
  have cF := j_Fault n coin box ls cs
  have cf : PureF Try.prog p27.ix [.ag (bk5 n coin box ls cs)] (.i .i64 (faultT n coin box ls cs)) := by
    refine PureF.run fn26 (by simp) (by simp [PuL, Pu, bk5, pu_ln, pu_ct]) ?_; conv => whnf
    repeat' first | ((first | with_reducible apply WB.tt | with_reducible apply WB.ff | refine Rn.seq ?_ | refine Rn.reg ?_ | refine Rn.drw ?_ | refine Rn.blk ?_ | refine Rn.skip ?_ | refine Rn.ret ?_ | refine Rn.exit ?_ | refine Rn.cond rfl ?_ | refine And.intro (InR.i64 (by omega) (by omega)) ?_ | refine And.intro (show _ ≠ (0 : Int) by omega) ?_ | refine WIx.intsN (by omega) ?_ | refine WIx.rowsN (by omega) ?_ | refine WCall.pure (cF) ?_) <;> conv => whnf)
    exact Fin.i rfl rfl
  by_cases hf : faultT n coin box ls cs ≠ 0
  · have hs : sE n coin box ls cs true = faultT n coin box ls cs := by unfold sE; rw [if_pos hf]
    unfold surD
    rw [hs, if_neg hf]
    generalize faultT n coin box ls cs = f at *
    refine PureF.run fn34 (by simp) (by simp [PuL, Pu, bk5, pu_ln, pu_ct]) ?_; conv => whnf
    repeat' first | ((first | with_reducible apply WB.tt | with_reducible apply WB.ff | refine Rn.seq ?_ | refine Rn.reg ?_ | refine Rn.drw ?_ | refine Rn.blk ?_ | refine Rn.skip ?_ | refine Rn.ret ?_ | refine Rn.exit ?_ | refine Rn.cond rfl ?_ | refine And.intro (InR.i64 (by omega) (by omega)) ?_ | refine And.intro (show _ ≠ (0 : Int) by omega) ?_ | refine WIx.intsN (by omega) ?_ | refine WIx.rowsN (by omega) ?_ | refine WCall.pure (cf) ?_ | with_reducible refine WB.decT (by first | with_reducible rfl | assumption | omega | exact ⟨rfl, rfl⟩) ?_ | with_reducible refine WB.decF (by first | assumption | omega) ?_ | with_reducible refine WB.ndT (by first | with_reducible rfl | assumption | omega | exact ⟨rfl, rfl⟩) ?_ | with_reducible refine WB.ndF (by first | assumption | omega) ?_ | with_reducible refine WB.nt ?_ | with_reducible refine WB.nf ?_ | with_reducible refine WB.dec (fun h => ?_) (fun h => ?_) | with_reducible refine WB.ndec (fun h => ?_) (fun h => ?_) | refine WB.mk (fun h => ?_) (fun h => ?_)) <;> conv => whnf)
    all_goals first | (exfalso; omega) | exact ⟨.inr rfl, _, rfl, .tp (.cons .ns (.cons (.pu trivial) .nil))⟩
  · have hf : faultT n coin box ls cs = 0 := by omega
    have V := VB.of hf
    have cT := j_Truths n coin box ls cs V
    have hh := hasB_nil V
    have hs : sE n coin box ls cs true = bif !hasB (B5 n coin box ls cs) then 11 else 0 := by unfold sE; rw [if_neg (fun h => h hf)]; rfl
    rw [hf] at cf
    unfold surD
    rw [hs]
    cases hT : refT (B5 n coin box ls cs) with
    | nil =>
      have hb : hasB (B5 n coin box ls cs) = false := by
        cases hb : hasB (B5 n coin box ls cs) with
        | false => rfl
        | true => exact absurd hT (hh.1 hb)
      rw [hT] at cT
      rw [hb]
      refine PureF.run fn34 (by simp) (by simp [PuL, Pu, bk5, pu_ln, pu_ct]) ?_; conv => whnf
      repeat' first | ((first | with_reducible apply WB.tt | with_reducible apply WB.ff | refine Rn.seq ?_ | refine Rn.reg ?_ | refine Rn.drw ?_ | refine Rn.blk ?_ | refine Rn.skip ?_ | refine Rn.ret ?_ | refine Rn.exit ?_ | refine Rn.cond rfl ?_ | refine And.intro (InR.i64 (by omega) (by omega)) ?_ | refine And.intro (show _ ≠ (0 : Int) by omega) ?_ | refine WIx.intsN (by omega) ?_ | refine WIx.rowsN (by omega) ?_ | refine WCall.pure (cf) ?_ | refine WCall.pure (cT) ?_ | with_reducible refine WB.decT (by first | with_reducible rfl | assumption | omega | exact ⟨rfl, rfl⟩) ?_ | with_reducible refine WB.decF (by first | assumption | omega) ?_ | with_reducible refine WB.ndT (by first | with_reducible rfl | assumption | omega | exact ⟨rfl, rfl⟩) ?_ | with_reducible refine WB.ndF (by first | assumption | omega) ?_ | with_reducible refine WB.nt ?_ | with_reducible refine WB.nf ?_ | with_reducible refine WB.dec (fun h => ?_) (fun h => ?_) | with_reducible refine WB.ndec (fun h => ?_) (fun h => ?_) | refine WB.mk (fun h => ?_) (fun h => ?_)) <;> conv => whnf)
      all_goals first | (exfalso; omega) | exact ⟨.inr rfl, _, rfl, .tp (.cons .ns (.cons (.pu trivial) .nil))⟩ | skip
      exact absurd rfl (by assumption)
    | cons a s =>
      have hb : hasB (B5 n coin box ls cs) = true := hh.2 (by rw [hT]; exact List.cons_ne_nil _ _)
      rw [hT] at cT
      rw [hb]
      have e3 : (rows tlD (a :: s)).length = s.length + 1 := rows_length tlD (a :: s)
      refine PureF.run fn34 (by simp) (by simp [PuL, Pu, bk5, pu_ln, pu_ct]) ?_; conv => whnf
      repeat' first | ((first | with_reducible apply WB.tt | with_reducible apply WB.ff | refine Rn.seq ?_ | refine Rn.reg ?_ | refine Rn.drw ?_ | refine Rn.blk ?_ | refine Rn.skip ?_ | refine Rn.ret ?_ | refine Rn.exit ?_ | refine Rn.cond rfl ?_ | refine And.intro (InR.i64 (by omega) (by omega)) ?_ | refine And.intro (show _ ≠ (0 : Int) by omega) ?_ | refine WIx.intsN (by omega) ?_ | refine WIx.rowsN (by omega) ?_ | refine WCall.pure (cf) ?_ | refine WCall.pure (cT) ?_ | with_reducible refine WB.decT (by first | with_reducible rfl | assumption | omega | exact ⟨rfl, rfl⟩) ?_ | with_reducible refine WB.decF (by first | assumption | omega) ?_ | with_reducible refine WB.ndT (by first | with_reducible rfl | assumption | omega | exact ⟨rfl, rfl⟩) ?_ | with_reducible refine WB.ndF (by first | assumption | omega) ?_ | with_reducible refine WB.nt ?_ | with_reducible refine WB.nf ?_ | with_reducible refine WB.dec (fun h => ?_) (fun h => ?_) | with_reducible refine WB.ndec (fun h => ?_) (fun h => ?_) | refine WB.mk (fun h => ?_) (fun h => ?_)) <;> conv => whnf)
      all_goals first | (exfalso; omega) | exact ⟨.inr rfl, _, rfl, .tp (.cons (.pu (pu_tl _)) (.cons (.pu trivial) .nil))⟩ | skip
end Go.Ev

namespace Go.Ev
open Go.Proofs
set_option maxRecDepth 100000
end Go.Ev

namespace Go.Ev
open Go.Proofs
set_option maxRecDepth 100000
def cP (m : Nat) (c : Int) (t : List Ln) : Bool := decide (0 ≤ cOut t c m)
theorem sE_bad {n coin box : Int} {ls : List Ln} {cs : List Ct} (h : faultT n coin box ls cs ≠ 0) (t : Bool) : sE n coin box ls cs t = faultT n coin box ls cs := by unfold sE; rw [if_pos h]
theorem sE_away {n coin box : Int} {ls : List Ln} {cs : List Ct} (h : faultT n coin box ls cs = 0) : sE n coin box ls cs false = 2 := by unfold sE; rw [if_neg (fun k => k h)]; rfl
theorem sE_false {n coin box : Int} {ls : List Ln} {cs : List Ct} (h : faultT n coin box ls cs = 0) (hb : hasB (B5 n coin box ls cs) = false) : sE n coin box ls cs true = 11 := by unfold sE; rw [if_neg (fun k => k h), hb]; rfl
theorem sE_true {n coin box : Int} {ls : List Ln} {cs : List Ct} (h : faultT n coin box ls cs = 0) (hb : hasB (B5 n coin box ls cs) = true) : sE n coin box ls cs true = 0 := by unfold sE; rw [if_neg (fun k => k h), hb]; rfl
end Go.Ev
