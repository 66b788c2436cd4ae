import Derived.Test.YtjgbfnciedkafaaEvUGn
set_option linter.all false
namespace Go.Ev
open Go.Proofs
set_option maxRecDepth 100000
theorem foldl_takeJ {α : Type} {β : Type} (g : β → α → β) (b : β) {l : List α} {j : Nat} {d : α} (h : j < l.length) : (l.take (j + 1)).foldl g b = g ((l.take j).foldl g b) (l.getD j d) := by
  rw [take_succ_getD (d := d) h, List.foldl_append]; rfl
theorem j_Many (n coin box : Int) (ls : List Ln) (cs : List Ct) (hn : 1 ≤ n ∧ n ≤ 4) (hl : ls.length ≤ 1000) (hok : ls.all (lnOk n) = true) : PureF Try.prog p63.ix [.ag (bk5 n coin box ls cs)] (.i .i64 (manyR n ls)) := by
  have e1 := rows_length lnD ls
  refine PureF.run fn62 (by simp) (by simp [PuL, PuE, Pu, bk5, pu_ln, pu_ct]) ?_; conv => whnf
  repeat' first | ((first | with_reducible (first | apply Qt | apply Qu) | refine Qa rfl ?_ | refine Qk rfl ?_ | refine Qb ?_ | refine Qc ?_ | refine Qi ?_ | refine Qj ?_) <;> conv => whnf)
  refine Rn.loop (fun j : Nat => ⟨(.n (.n (.n .e (some (.i .i64 (manyR n (ls.take j)))) .e) (some (.pt .h 0 0)) .e) none (.n (.n .e (some (.i .i64 (j : Int))) .e) none .e)), (.n .e (some (bkC n coin box ls cs)) .e), .o .h, none⟩) (fun j => j ≤ ls.length) (fun j => ls.length - j) 0 ?_ ?_ ?_
  · refine X.le.mk ?_ ?_ (Nat.le_refl _) rfl rfl
    · (repeat' first | exact T.le_e _ | refine T.le_some ?_ rfl ?_ | refine T.le_none ?_ ?_)
    · (repeat' first | exact T.le_e _ | refine T.le_some ?_ rfl ?_ | refine T.le_none ?_ ?_ | refine T.le_ee ?_ ?_)
  · exact Nat.zero_le _
  intro j hj
  have hj : j ≤ ls.length := hj
  have hmp := many_prod hn.1 hn.2 (ls.take j)
  conv => whnf
  repeat' first | ((first | with_reducible (first | apply Qt | apply Qu) | refine Qa rfl ?_ | refine Qk rfl ?_ | refine Qb ?_ | refine Qc ?_ | refine Qi ?_ | refine Qj ?_) <;> conv => whnf)
  refine WB.dec (fun h => ?_) (fun h => ?_) <;> conv => whnf
  · have hlt : j < ls.length := by omega
    have hs : manyR n (ls.take (j + 1)) = min 5000 (manyR n (ls.take j) * rdN n (ls.getD j default)) := foldl_takeJ _ _ hlt
    have hlo := List.all_eq_true.1 hok _ (getD_mem (d := default) hlt)
    have hrl := read_len hn hlo
    have hrb := rdN_bd hn.1 hn.2 (ls.getD j default)
    have er := rows_length lnD (readL n (ls.getD j default))
    have cR := j_Readings n coin box ls cs (ls.getD j default) (by omega)
    have hm1 : 1 ≤ manyR n (ls.take j) ∧ manyR n (ls.take j) ≤ 5000 := by omega
    have hmul : 1 ≤ manyR n (ls.take j) * rdN n (ls.getD j default) ∧ manyR n (ls.take j) * rdN n (ls.getD j default) ≤ 160000 := by
      have a1 := Int.mul_le_mul hm1.1 hrb.1 (by omega) (by omega)
      have a2 := Int.mul_le_mul hm1.2 hrb.2 (by omega) (by omega)
      omega
    have hmul2 : manyR n (ls.take j) * ((rows lnD (readL n (ls.getD j default))).length : Int) = manyR n (ls.take j) * rdN n (ls.getD j default) := by rw [er, hrl]
    repeat' first | ((first | with_reducible (first | apply Qt | apply Qu) | refine Qa rfl ?_ | refine Qk rfl ?_ | refine Qb ?_ | refine Qc ?_ | refine Qi ?_ | refine Qj ?_ | refine Qf (cR) ?_) <;> conv => whnf)
    refine Again.to (j + 1) (by omega) (by omega) (Nat.le_refl _) ?_
    rw [hs]
    refine Shr.of ?_ ?_ rfl rfl
    · (repeat' first | exact Rel.e | refine Rel.some ?_ ?_ ?_ | refine Rel.none ?_ ?_ | refine Rel.ee ?_ ?_)
      all_goals show Fz _ _ _ _
      all_goals first | exact .pu trivial | exact .kpt (show _ < 2 by simp [Pos.nat]) | (refine Fz.i ?_; rw [hmul2])
    · (repeat' first | exact Rel.e | refine Rel.some ?_ ?_ ?_ | refine Rel.none ?_ ?_ | refine Rel.ee ?_ ?_)
      exact RO'.of (show _ < 2 by simp [Pos.nat]) (ShC.kp (bkC_kp _ _ _ _ _ _))
  · repeat' first | ((first | with_reducible (first | apply Qt | apply Qu) | refine Qa rfl ?_ | refine Qk rfl ?_ | refine Qb ?_ | refine Qc ?_ | refine Qi ?_ | refine Qj ?_) <;> conv => whnf)
    exact Fin.i rfl (by rw [List.take_of_length_le (by omega)])
theorem fault_one {n coin box : Int} {ls : List Ln} {cs : List Ct} (hlim : ¬ (8 < ls.length ∨ 4 < cs.length)) (hv : vldT n coin box ls cs = false) : faultT n coin box ls cs = 1 := by
  unfold faultT
  rw [if_neg hlim, hv]; rfl
theorem vld_ln {n coin box : Int} {ls : List Ln} {cs : List Ct} {j : Nat} (hj : j < ls.length) (h : lnOk n (ls.getD j default) = false) : vldT n coin box ls cs = false := by
  have : ls.all (lnOk n) = false := by
    rw [List.all_eq_false]
    exact ⟨_, getD_mem (d := default) hj, by rw [h]; simp⟩
  unfold vldT
  rw [this]; simp
theorem vld_ct {n coin box : Int} {ls : List Ln} {cs : List Ct} {j : Nat} (hj : j < cs.length) (h : ctOk ls.length (cs.getD j default) = false) : vldT n coin box ls cs = false := by
  have : cs.all (ctOk ls.length) = false := by
    rw [List.all_eq_false]
    exact ⟨_, getD_mem (d := default) hj, by rw [h]; simp⟩
  unfold vldT
  rw [this]; simp
theorem j_Fault (n coin box : Int) (ls : List Ln) (cs : List Ct) : PureF Try.prog p70.ix [.ag (bk5 n coin box ls cs)] (.i .i64 (faultT n coin box ls cs)) := by
  have e1 := rows_length lnD ls
  have e2 := rows_length ctD cs
  have kpB := bkC_kp n coin box ls cs
  refine PureF.run fn69 (by simp) (by simp [PuL, PuE, Pu, bk5, pu_ln, pu_ct]) ?_; conv => whnf
  by_cases hlim : 8 < ls.length ∨ 4 < cs.length
  · have hf : faultT n coin box ls cs = 3 := by unfold faultT; rw [if_pos hlim]
    rw [hf]
    rcases hlim with hlim | hlim
    · repeat' first | ((first | with_reducible (first | apply Qt | apply Qu) | refine Qa rfl ?_ | refine Qk rfl ?_ | refine Qb ?_ | refine Qc ?_ | refine Qi ?_ | refine Qj ?_ | with_reducible (first | refine Qm ?_ | refine Qn ?_ | refine Qo ?_ | refine Qp ?_ | refine WB.nt ?_ | refine WB.nf ?_ | refine WB.dec (fun h => ?_) (fun h => ?_) | refine WB.ndec (fun h => ?_) (fun h => ?_)) | refine WB.mk (fun h => ?_) (fun h => ?_)) <;> conv => whnf)
      all_goals first | exact Fin.i rfl rfl | (exfalso; omega)
    · by_cases h8 : 8 < ls.length
      · repeat' first | ((first | with_reducible (first | apply Qt | apply Qu) | refine Qa rfl ?_ | refine Qk rfl ?_ | refine Qb ?_ | refine Qc ?_ | refine Qi ?_ | refine Qj ?_ | with_reducible (first | refine Qm ?_ | refine Qn ?_ | refine Qo ?_ | refine Qp ?_ | refine WB.nt ?_ | refine WB.nf ?_ | refine WB.dec (fun h => ?_) (fun h => ?_) | refine WB.ndec (fun h => ?_) (fun h => ?_)) | refine WB.mk (fun h => ?_) (fun h => ?_)) <;> conv => whnf)
        all_goals first | exact Fin.i rfl rfl | (exfalso; omega)
      · repeat' first | ((first | with_reducible (first | apply Qt | apply Qu) | refine Qa rfl ?_ | refine Qk rfl ?_ | refine Qb ?_ | refine Qc ?_ | refine Qi ?_ | refine Qj ?_ | with_reducible (first | refine Qm ?_ | refine Qn ?_ | refine Qo ?_ | refine Qp ?_ | refine WB.nt ?_ | refine WB.nf ?_ | refine WB.dec (fun h => ?_) (fun h => ?_) | refine WB.ndec (fun h => ?_) (fun h => ?_)) | refine WB.mk (fun h => ?_) (fun h => ?_)) <;> conv => whnf)
        all_goals first | exact Fin.i rfl rfl | (exfalso; omega)
  have h8 : ¬ 8 < ls.length := fun h => hlim (.inl h)
  have h4 : ¬ 4 < cs.length := fun h => hlim (.inr h)
  cases b1 : inR n 1 4 with
  | false =>
    have c1 := j_In n 1 4
    rw [b1] at c1
    have hf := fault_one (n := n) (coin := coin) (box := box) hlim (by unfold vldT; rw [b1]; rfl)
    repeat' first | ((first | with_reducible (first | apply Qt | apply Qu) | refine Qa rfl ?_ | refine Qk rfl ?_ | refine Qb ?_ | refine Qc ?_ | refine Qi ?_ | refine Qj ?_ | refine Qf (c1) ?_ | with_reducible (first | refine Qm ?_ | refine Qn ?_ | refine Qo ?_ | refine Qp ?_ | refine WB.nt ?_ | refine WB.nf ?_ | refine WB.dec (fun h => ?_) (fun h => ?_) | refine WB.ndec (fun h => ?_) (fun h => ?_)) | refine WB.mk (fun h => ?_) (fun h => ?_)) <;> conv => whnf)
    all_goals first | exact Fin.i rfl hf.symm | (exfalso; omega)
  | true =>
  cases b2 : inR coin 1 99 with
  | false =>
    have c1 := j_In n 1 4
    have c2 := j_In coin 1 99
    rw [b1] at c1
    rw [b2] at c2
    have hf := fault_one (n := n) (coin := coin) (box := box) hlim (by unfold vldT; rw [b1, b2]; rfl)
    repeat' first | ((first | with_reducible (first | apply Qt | apply Qu) | refine Qa rfl ?_ | refine Qk rfl ?_ | refine Qb ?_ | refine Qc ?_ | refine Qi ?_ | refine Qj ?_ | refine Qf (c1) ?_ | refine Qf (c2) ?_ | with_reducible (first | refine Qm ?_ | refine Qn ?_ | refine Qo ?_ | refine Qp ?_ | refine WB.nt ?_ | refine WB.nf ?_ | refine WB.dec (fun h => ?_) (fun h => ?_) | refine WB.ndec (fun h => ?_) (fun h => ?_)) | refine WB.mk (fun h => ?_) (fun h => ?_)) <;> conv => whnf)
    all_goals first | exact Fin.i rfl hf.symm | (exfalso; omega)
  | true =>
  cases b3 : inR box 0 999 with
  | false =>
    have c1 := j_In n 1 4
    have c2 := j_In coin 1 99
    have c3 := j_In box 0 999
    rw [b1] at c1
    rw [b2] at c2
    rw [b3] at c3
    have hf := fault_one (n := n) (coin := coin) (box := box) hlim (by unfold vldT; rw [b1, b2, b3]; rfl)
    repeat' first | ((first | with_reducible (first | apply Qt | apply Qu) | refine Qa rfl ?_ | refine Qk rfl ?_ | refine Qb ?_ | refine Qc ?_ | refine Qi ?_ | refine Qj ?_ | refine Qf (c1) ?_ | refine Qf (c2) ?_ | refine Qf (c3) ?_ | with_reducible (first | refine Qm ?_ | refine Qn ?_ | refine Qo ?_ | refine Qp ?_ | refine WB.nt ?_ | refine WB.nf ?_ | refine WB.dec (fun h => ?_) (fun h => ?_) | refine WB.ndec (fun h => ?_) (fun h => ?_)) | refine WB.mk (fun h => ?_) (fun h => ?_)) <;> conv => whnf)
    all_goals first | exact Fin.i rfl hf.symm | (exfalso; omega)
  | true =>
  have c1 := j_In n 1 4
  have c2 := j_In coin 1 99
  have c3 := j_In box 0 999
  rw [b1] at c1
  rw [b2] at c2
  rw [b3] at c3
  have hn := inR_iff.1 b1
  repeat' first | ((first | with_reducible (first | apply Qt | apply Qu) | refine Qa rfl ?_ | refine Qk rfl ?_ | refine Qb ?_ | refine Qc ?_ | refine Qi ?_ | refine Qj ?_ | refine Qf (c1) ?_ | refine Qf (c2) ?_ | refine Qf (c3) ?_ | with_reducible (first | refine Qm ?_ | refine Qn ?_ | refine Qo ?_ | refine Qp ?_ | refine WB.nt ?_ | refine WB.nf ?_ | refine WB.dec (fun h => ?_) (fun h => ?_) | refine WB.ndec (fun h => ?_) (fun h => ?_)) | refine WB.mk (fun h => ?_) (fun h => ?_)) <;> conv => whnf)
  refine Rn.loop (fun j : Nat => ⟨(.n (.n (.n .e (some (.i .i64 (j : Int))) .e) (some (.pt .h 0 0)) .e) none .e), (.n .e (some (bkC n coin box ls cs)) .e), .o .h, none⟩) (fun j => j ≤ ls.length ∧ (ls.take j).all (lnOk n) = true) (fun j => ls.length - j) 0 ?_ ?_ ?_
  · refine X.le.mk ?_ ?_ (Nat.le_refl _) rfl rfl
    · (repeat' first | exact T.le_e _ | refine T.le_some ?_ rfl ?_ | refine T.le_none ?_ ?_)
    · (repeat' first | exact T.le_e _ | refine T.le_some ?_ rfl ?_ | refine T.le_none ?_ ?_ | refine T.le_ee ?_ ?_)
  · exact ⟨Nat.zero_le _, rfl⟩
  rintro j ⟨hj, ha⟩
  conv => whnf
  repeat' first | ((first | with_reducible (first | apply Qt | apply Qu) | refine Qa rfl ?_ | refine Qk rfl ?_ | refine Qb ?_ | refine Qc ?_ | refine Qi ?_ | refine Qj ?_) <;> conv => whnf)
  refine WB.dec (fun h => ?_) (fun h => ?_) <;> conv => whnf
  · have hlt : j < ls.length := by omega
    obtain ⟨x, hx⟩ : ∃ x, x = ls.getD j default := ⟨_, rfl⟩
    have d1 := j_In x.k 0 2
    have d2 := j_In x.c (-1) (n - 1)
    have d3 := j_In x.t (-1) (n - 1)
    have hbad : lnOk n x = false → faultT n coin box ls cs = 1 := fun h => fault_one hlim (vld_ln hlt (by rw [← hx]; exact h))
    have hgood : lnOk n x = true → (ls.take (j + 1)).all (lnOk n) = true := fun h => by
      rw [take_succ_getD (d := default) hlt, List.all_append, ha, ← hx]
      simp [h]
    have hok : lnOk n x = (inR x.k 0 2 && (inR x.c (-1) (n - 1) && inR x.t (-1) (n - 1))) := rfl
    have hst : ∀ (sl : T D) (ob : T C) (nx : Pos), T.le ((.n (.n (.n .e (some (.i .i64 ((j + 1 : Nat) : Int))) .e) (some (.pt .h 0 0)) .e) none .e) : T D) sl → T.le ((.n .e (some (bkC n coin box ls cs)) .e) : T C) ob → Shr ⟨sl, ob, nx, none⟩ ⟨(.n (.n (.n .e (some (.i .i64 ((j + 1 : Nat) : Int))) .e) (some (.pt .h 0 0)) .e) none .e), (.n .e (some (bkC n coin box ls cs)) .e), .o .h, none⟩ := fun sl ob nx hs ho => by
      refine Shr.kp2 hs ?_ ho ?_
      · show TAll (fun _ d => Kp 2 d) _
        repeat' first | exact TAll.e | refine TAll.some ?_ ?_ ?_ | refine TAll.none ?_ ?_
        all_goals simp [Kp, Pu, Pos.nat]
      · show TAll (fun id c => id.nat < 2 ∧ KpC 2 c) _
        exact TAll.some TAll.e ⟨by simp [Pos.nat], kpB _⟩ TAll.e
    rw [hx] at d1 d2 d3
    cases q1 : inR (ls.getD j default).k 0 2 with
    | false =>
      rw [q1] at d1
      have hf := hbad (by rw [hok, hx, q1]; rfl)
      repeat' first | ((first | with_reducible (first | apply Qt | apply Qu) | refine Qa rfl ?_ | refine Qk rfl ?_ | refine Qb ?_ | refine Qc ?_ | refine Qi ?_ | refine Qj ?_ | refine Qf (d1) ?_ | with_reducible (first | refine Qm ?_ | refine Qn ?_ | refine Qo ?_ | refine Qp ?_ | refine WB.nt ?_ | refine WB.nf ?_ | refine WB.dec (fun h => ?_) (fun h => ?_) | refine WB.ndec (fun h => ?_) (fun h => ?_)) | refine WB.mk (fun h => ?_) (fun h => ?_)) <;> conv => whnf)
      exact Fin.i rfl hf.symm
    | true =>
    cases q2 : inR (ls.getD j default).c (-1) (n - 1) with
    | false =>
      rw [q1] at d1
      rw [q2] at d2
      have hf := hbad (by rw [hok, hx, q1, q2]; rfl)
      repeat' first | ((first | with_reducible (first | apply Qt | apply Qu) | refine Qa rfl ?_ | refine Qk rfl ?_ | refine Qb ?_ | refine Qc ?_ | refine Qi ?_ | refine Qj ?_ | refine Qf (d1) ?_ | refine Qf (d2) ?_ | with_reducible (first | refine Qm ?_ | refine Qn ?_ | refine Qo ?_ | refine Qp ?_ | refine WB.nt ?_ | refine WB.nf ?_ | refine WB.dec (fun h => ?_) (fun h => ?_) | refine WB.ndec (fun h => ?_) (fun h => ?_)) | refine WB.mk (fun h => ?_) (fun h => ?_)) <;> conv => whnf)
      exact Fin.i rfl hf.symm
    | true =>
    cases q3 : inR (ls.getD j default).t (-1) (n - 1) with
    | false =>
      rw [q1] at d1
      rw [q2] at d2
      rw [q3] at d3
      have hf := hbad (by rw [hok, hx, q1, q2, q3]; rfl)
      repeat' first | ((first | with_reducible (first | apply Qt | apply Qu) | refine Qa rfl ?_ | refine Qk rfl ?_ | refine Qb ?_ | refine Qc ?_ | refine Qi ?_ | refine Qj ?_ | refine Qf (d1) ?_ | refine Qf (d2) ?_ | refine Qf (d3) ?_ | with_reducible (first | refine Qm ?_ | refine Qn ?_ | refine Qo ?_ | refine Qp ?_ | refine WB.nt ?_ | refine WB.nf ?_ | refine WB.dec (fun h => ?_) (fun h => ?_) | refine WB.ndec (fun h => ?_) (fun h => ?_)) | refine WB.mk (fun h => ?_) (fun h => ?_)) <;> conv => whnf)
      exact Fin.i rfl hf.symm
    | true =>
      rw [q1] at d1
      rw [q2] at d2
      rw [q3] at d3
      have hg := hgood (by rw [hok, hx, q1, q2, q3]; rfl)
      repeat' first | ((first | with_reducible (first | apply Qt | apply Qu) | refine Qa rfl ?_ | refine Qk rfl ?_ | refine Qb ?_ | refine Qc ?_ | refine Qi ?_ | refine Qj ?_ | refine Qf (d1) ?_ | refine Qf (d2) ?_ | refine Qf (d3) ?_ | with_reducible (first | refine Qm ?_ | refine Qn ?_ | refine Qo ?_ | refine Qp ?_ | refine WB.nt ?_ | refine WB.nf ?_ | refine WB.dec (fun h => ?_) (fun h => ?_) | refine WB.ndec (fun h => ?_) (fun h => ?_)) | refine WB.mk (fun h => ?_) (fun h => ?_)) <;> conv => whnf)
      refine Again.to (j + 1) (by omega) ⟨by omega, hg⟩ (Nat.le_refl _) (hst _ _ _ ?_ ?_)
      · (repeat' first | exact T.le_e _ | refine T.le_some ?_ rfl ?_ | refine T.le_none ?_ ?_)
      · (repeat' first | exact T.le_e _ | refine T.le_some ?_ rfl ?_ | refine T.le_none ?_ ?_ | refine T.le_ee ?_ ?_)
  have hall : ls.all (lnOk n) = true := by rwa [List.take_of_length_le (by omega)] at ha
  repeat' first | ((first | with_reducible (first | apply Qt | apply Qu) | refine Qa rfl ?_ | refine Qk rfl ?_ | refine Qb ?_ | refine Qc ?_ | refine Qi ?_ | refine Qj ?_) <;> conv => whnf)
  refine Rn.loop (fun j : Nat => ⟨(.n (.n .e (some (.pt .h 0 0)) (.n .e (some (.i .i64 (j : Int))) .e)) none .e), (.n .e (some (bkC n coin box ls cs)) .e), .o .h, none⟩) (fun j => j ≤ cs.length ∧ (cs.take j).all (ctOk ls.length) = true) (fun j => cs.length - j) 0 ?_ ?_ ?_
  · refine X.le.mk ?_ ?_ (Nat.le_refl _) rfl rfl
    · (repeat' first | exact T.le_e _ | refine T.le_some ?_ rfl ?_ | refine T.le_none ?_ ?_)
    · (repeat' first | exact T.le_e _ | refine T.le_some ?_ rfl ?_ | refine T.le_none ?_ ?_ | refine T.le_ee ?_ ?_)
  · exact ⟨Nat.zero_le _, rfl⟩
  rintro q ⟨hq, hb⟩
  conv => whnf
  repeat' first | ((first | with_reducible (first | apply Qt | apply Qu) | refine Qa rfl ?_ | refine Qk rfl ?_ | refine Qb ?_ | refine Qc ?_ | refine Qi ?_ | refine Qj ?_) <;> conv => whnf)
  refine WB.dec (fun h => ?_) (fun h => ?_) <;> conv => whnf
  · have hlt : q < cs.length := by omega
    have d1 := j_In (cs.getD q default).a 0 ((rows lnD ls).length : Int)
    have hbad : ctOk ls.length (cs.getD q default) = false → faultT n coin box ls cs = 1 := fun h => fault_one hlim (vld_ct hlt h)
    have hgood : ctOk ls.length (cs.getD q default) = true → (cs.take (q + 1)).all (ctOk ls.length) = true := fun h => by
      rw [take_succ_getD (d := default) hlt, List.all_append, hb, Bool.true_and, List.all_cons, List.all_nil, Bool.and_true]
      exact h
    have hok : ctOk ls.length (cs.getD q default) = (inR (cs.getD q default).a 0 ((rows lnD ls).length : Int) && (decide (0 ≤ (cs.getD q default).lo) && (decide ((cs.getD q default).lo ≤ (cs.getD q default).hi) && decide ((cs.getD q default).hi ≤ 2000)))) := by rw [e1]; rfl
    have hst : ∀ (sl : T D) (ob : T C) (nx : Pos), T.le ((.n (.n .e (some (.pt .h 0 0)) (.n .e (some (.i .i64 ((q + 1 : Nat) : Int))) .e)) none .e) : T D) sl → T.le ((.n .e (some (bkC n coin box ls cs)) .e) : T C) ob → Shr ⟨sl, ob, nx, none⟩ ⟨(.n (.n .e (some (.pt .h 0 0)) (.n .e (some (.i .i64 ((q + 1 : Nat) : Int))) .e)) none .e), (.n .e (some (bkC n coin box ls cs)) .e), .o .h, none⟩ := fun sl ob nx hs ho => by
      refine Shr.kp2 hs ?_ ho ?_
      · show TAll (fun _ d => Kp 2 d) _
        repeat' first | exact TAll.e | refine TAll.some ?_ ?_ ?_ | refine TAll.none ?_ ?_
        all_goals simp [Kp, Pu, Pos.nat]
      · show TAll (fun id c => id.nat < 2 ∧ KpC 2 c) _
        exact TAll.some TAll.e ⟨by simp [Pos.nat], kpB _⟩ TAll.e
    cases q1 : inR (cs.getD q default).a 0 ((rows lnD ls).length : Int) with
    | false =>
      rw [q1] at d1
      have hf := hbad (by rw [hok, q1]; rfl)
      repeat' first | ((first | with_reducible (first | apply Qt | apply Qu) | refine Qa rfl ?_ | refine Qk rfl ?_ | refine Qb ?_ | refine Qc ?_ | refine Qi ?_ | refine Qj ?_ | refine Qf (d1) ?_ | with_reducible (first | refine Qm ?_ | refine Qn ?_ | refine Qo ?_ | refine Qp ?_ | refine WB.nt ?_ | refine WB.nf ?_ | refine WB.dec (fun h => ?_) (fun h => ?_) | refine WB.ndec (fun h => ?_) (fun h => ?_)) | refine WB.mk (fun h => ?_) (fun h => ?_)) <;> conv => whnf)
      exact Fin.i rfl hf.symm
    | true =>
    rw [q1] at d1
    rw [q1, Bool.true_and] at hok
    by_cases k1 : 0 ≤ (cs.getD q default).lo
    · by_cases k2 : (cs.getD q default).lo ≤ (cs.getD q default).hi
      · by_cases k3 : (cs.getD q default).hi ≤ 2000
        · have hg := hgood (by rw [hok, decide_eq_true k1, decide_eq_true k2, decide_eq_true k3]; rfl)
          repeat' first | ((first | with_reducible (first | apply Qt | apply Qu) | refine Qa rfl ?_ | refine Qk rfl ?_ | refine Qb ?_ | refine Qc ?_ | refine Qi ?_ | refine Qj ?_ | refine Qf (d1) ?_ | with_reducible (first | refine Qm ?_ | refine Qn ?_ | refine Qo ?_ | refine Qp ?_ | refine WB.nt ?_ | refine WB.nf ?_ | refine WB.dec (fun h => ?_) (fun h => ?_) | refine WB.ndec (fun h => ?_) (fun h => ?_)) | refine WB.mk (fun h => ?_) (fun h => ?_)) <;> conv => whnf)
          refine Again.to (q + 1) (by omega) ⟨by omega, hg⟩ (Nat.le_refl _) (hst _ _ _ ?_ ?_)
          · (repeat' first | exact T.le_e _ | refine T.le_some ?_ rfl ?_ | refine T.le_none ?_ ?_)
          · (repeat' first | exact T.le_e _ | refine T.le_some ?_ rfl ?_ | refine T.le_none ?_ ?_ | refine T.le_ee ?_ ?_)
        · have hf := hbad (by rw [hok, decide_eq_true k1, decide_eq_true k2, decide_eq_false k3]; rfl)
          repeat' first | ((first | with_reducible (first | apply Qt | apply Qu) | refine Qa rfl ?_ | refine Qk rfl ?_ | refine Qb ?_ | refine Qc ?_ | refine Qi ?_ | refine Qj ?_ | refine Qf (d1) ?_ | with_reducible (first | refine Qm ?_ | refine Qn ?_ | refine Qo ?_ | refine Qp ?_ | refine WB.nt ?_ | refine WB.nf ?_ | refine WB.dec (fun h => ?_) (fun h => ?_) | refine WB.ndec (fun h => ?_) (fun h => ?_)) | refine WB.mk (fun h => ?_) (fun h => ?_)) <;> conv => whnf)
          all_goals exact Fin.i rfl hf.symm
      · have hf := hbad (by rw [hok, decide_eq_true k1, decide_eq_false k2]; rfl)
        repeat' first | ((first | with_reducible (first | apply Qt | apply Qu) | refine Qa rfl ?_ | refine Qk rfl ?_ | refine Qb ?_ | refine Qc ?_ | refine Qi ?_ | refine Qj ?_ | refine Qf (d1) ?_ | with_reducible (first | refine Qm ?_ | refine Qn ?_ | refine Qo ?_ | refine Qp ?_ | refine WB.nt ?_ | refine WB.nf ?_ | refine WB.dec (fun h => ?_) (fun h => ?_) | refine WB.ndec (fun h => ?_) (fun h => ?_)) | refine WB.mk (fun h => ?_) (fun h => ?_)) <;> conv => whnf)
        all_goals exact Fin.i rfl hf.symm
    · have hf := hbad (by rw [hok, decide_eq_false k1]; rfl)
      repeat' first | ((first | with_reducible (first | apply Qt | apply Qu) | refine Qa rfl ?_ | refine Qk rfl ?_ | refine Qb ?_ | refine Qc ?_ | refine Qi ?_ | refine Qj ?_ | refine Qf (d1) ?_ | with_reducible (first | refine Qm ?_ | refine Qn ?_ | refine Qo ?_ | refine Qp ?_ | refine WB.nt ?_ | refine WB.nf ?_ | refine WB.dec (fun h => ?_) (fun h => ?_) | refine WB.ndec (fun h => ?_) (fun h => ?_)) | refine WB.mk (fun h => ?_) (fun h => ?_)) <;> conv => whnf)
      all_goals exact Fin.i rfl hf.symm
  have hallc : cs.all (ctOk ls.length) = true := by rwa [List.take_of_length_le (by omega)] at hb
  have cM := j_Many n coin box ls cs hn (by omega) hall
  have hf : faultT n coin box ls cs = if 4096 < manyR n ls then 3 else 0 := by
    unfold faultT
    rw [if_neg hlim, if_pos (by unfold vldT; rw [b1, b2, b3, hall, hallc]; rfl)]
  by_cases hm : 4096 < manyR n ls
  · rw [if_pos hm] at hf
    repeat' first | ((first | with_reducible (first | apply Qt | apply Qu) | refine Qa rfl ?_ | refine Qk rfl ?_ | refine Qb ?_ | refine Qc ?_ | refine Qi ?_ | refine Qj ?_ | refine Qf (cM) ?_ | with_reducible (first | refine Qm ?_ | refine Qn ?_ | refine Qo ?_ | refine Qp ?_ | refine WB.nt ?_ | refine WB.nf ?_ | refine WB.dec (fun h => ?_) (fun h => ?_) | refine WB.ndec (fun h => ?_) (fun h => ?_)) | refine WB.mk (fun h => ?_) (fun h => ?_)) <;> conv => whnf)
    all_goals exact Fin.i rfl hf.symm
  · rw [if_neg hm] at hf
    repeat' first | ((first | with_reducible (first | apply Qt | apply Qu) | refine Qa rfl ?_ | refine Qk rfl ?_ | refine Qb ?_ | refine Qc ?_ | refine Qi ?_ | refine Qj ?_ | refine Qf (cM) ?_ | with_reducible (first | refine Qm ?_ | refine Qn ?_ | refine Qo ?_ | refine Qp ?_ | refine WB.nt ?_ | refine WB.nf ?_ | refine WB.dec (fun h => ?_) (fun h => ?_) | refine WB.ndec (fun h => ?_) (fun h => ?_)) | refine WB.mk (fun h => ?_) (fun h => ?_)) <;> conv => whnf)
    all_goals exact Fin.i rfl hf.symm
theorem j_fault (n coin box : Int) (ls : List Ln) (cs : List Ct) : PureF Try.prog p27.ix [.ag (bk5 n coin box ls cs)] (.i .i64 (faultT n coin box ls cs)) := by
  refine PureF.run fn26 (by simp) (by simp [PuL, PuE, Pu, bk5, pu_ln, pu_ct]) ?_; conv => whnf
  repeat' first | ((first | with_reducible (first | apply Qt | apply Qu) | refine Qa rfl ?_ | refine Qk rfl ?_ | refine Qb ?_ | refine Qc ?_ | refine Qi ?_ | refine Qj ?_ | refine Qf (j_Fault n coin box ls cs) ?_) <;> conv => whnf)
  exact Fin.i rfl rfl
def thinT (n coin box : Int) (ls : List Ln) (cs : List Ct) : Bool := decide (ls.length ≤ 10) && (decide (cs.length ≤ 6) && (!decide (faultT n coin box ls cs = 0) || decide (manyR n ls ≤ 100)))
theorem j_Thin (n coin box : Int) (ls : List Ln) (cs : List Ct) : PureF Try.prog p21.ix [.ag (bk5 n coin box ls cs)] (.b (thinT n coin box ls cs)) := by
  have e1 := rows_length lnD ls
  have e2 := rows_length ctD cs
  have cF := j_Fault n coin box ls cs
  have ht : thinT n coin box ls cs = (decide (ls.length ≤ 10) && (decide (cs.length ≤ 6) && (!decide (faultT n coin box ls cs = 0) || decide (manyR n ls ≤ 100)))) := rfl
  refine PureF.run fn20 (by simp) (by simp [PuL, PuE, Pu, bk5, pu_ln, pu_ct]) ?_; conv => whnf
  by_cases h1 : ls.length ≤ 10
  · by_cases h2 : cs.length ≤ 6
    · rw [decide_eq_true h1, decide_eq_true h2, Bool.true_and, Bool.true_and] at ht
      rw [ht]
      by_cases hf : faultT n coin box ls cs = 0
      · obtain ⟨f1, f2, f3, f4⟩ := fault_okT hf
        have f3' := f3
        unfold vldT at f3'
        simp only [Bool.and_eq_true] at f3'
        have cM := j_Many n coin box ls cs (inR_iff.1 f3'.1) (by omega) f3'.2.2.2.1
        rw [hf] at cF ⊢
        by_cases hm : manyR n ls ≤ 100
        · repeat' first | ((first | with_reducible (first | apply Qt | apply Qu) | refine Qa rfl ?_ | refine Qk rfl ?_ | refine Qb ?_ | refine Qc ?_ | refine Qi ?_ | refine Qj ?_ | refine Qf (cF) ?_ | refine Qf (cM) ?_ | with_reducible (first | refine Qm ?_ | refine Qn ?_ | refine Qo ?_ | refine Qp ?_ | refine WB.nt ?_ | refine WB.nf ?_ | refine WB.dec (fun h => ?_) (fun h => ?_) | refine WB.ndec (fun h => ?_) (fun h => ?_)) | refine WB.mk (fun h => ?_) (fun h => ?_)) <;> conv => whnf)
          all_goals exact Fin.b rfl (by simp [hm])
        · repeat' first | ((first | with_reducible (first | apply Qt | apply Qu) | refine Qa rfl ?_ | refine Qk rfl ?_ | refine Qb ?_ | refine Qc ?_ | refine Qi ?_ | refine Qj ?_ | refine Qf (cF) ?_ | refine Qf (cM) ?_ | with_reducible (first | refine Qm ?_ | refine Qn ?_ | refine Qo ?_ | refine Qp ?_ | refine WB.nt ?_ | refine WB.nf ?_ | refine WB.dec (fun h => ?_) (fun h => ?_) | refine WB.ndec (fun h => ?_) (fun h => ?_)) | refine WB.mk (fun h => ?_) (fun h => ?_)) <;> conv => whnf)
          all_goals exact Fin.b rfl (by simp [hm])
      · repeat' first | ((first | with_reducible (first | apply Qt | apply Qu) | refine Qa rfl ?_ | refine Qk rfl ?_ | refine Qb ?_ | refine Qc ?_ | refine Qi ?_ | refine Qj ?_ | refine Qf (cF) ?_ | with_reducible (first | refine Qm ?_ | refine Qn ?_ | refine Qo ?_ | refine Qp ?_ | refine WB.nt ?_ | refine WB.nf ?_ | refine WB.dec (fun h => ?_) (fun h => ?_) | refine WB.ndec (fun h => ?_) (fun h => ?_)) | refine WB.mk (fun h => ?_) (fun h => ?_)) <;> conv => whnf)
        all_goals exact Fin.b rfl (by simp [hf])
    · rw [decide_eq_false h2, Bool.false_and, Bool.and_false] at ht
      rw [ht]
      repeat' first | ((first | with_reducible (first | apply Qt | apply Qu) | refine Qa rfl ?_ | refine Qk rfl ?_ | refine Qb ?_ | refine Qc ?_ | refine Qi ?_ | refine Qj ?_ | refine Qf (cF) ?_ | with_reducible (first | refine Qm ?_ | refine Qn ?_ | refine Qo ?_ | refine Qp ?_ | refine WB.nt ?_ | refine WB.nf ?_ | refine WB.dec (fun h => ?_) (fun h => ?_) | refine WB.ndec (fun h => ?_) (fun h => ?_)) | refine WB.mk (fun h => ?_) (fun h => ?_)) <;> conv => whnf)
      all_goals exact Fin.b rfl (by first | rfl | (exact decide_eq_false (by omega)))
  · rw [decide_eq_false h1, Bool.false_and] at ht
    rw [ht]
    repeat' first | ((first | with_reducible (first | apply Qt | apply Qu) | refine Qa rfl ?_ | refine Qk rfl ?_ | refine Qb ?_ | refine Qc ?_ | refine Qi ?_ | refine Qj ?_ | refine Qf (cF) ?_ | with_reducible (first | refine Qm ?_ | refine Qn ?_ | refine Qo ?_ | refine Qp ?_ | refine WB.nt ?_ | refine WB.nf ?_ | refine WB.dec (fun h => ?_) (fun h => ?_) | refine WB.ndec (fun h => ?_) (fun h => ?_)) | refine WB.mk (fun h => ?_) (fun h => ?_)) <;> conv => whnf)
    all_goals exact Fin.b rfl (by first | rfl | (exact decide_eq_false (by omega)))
end Go.Ev
namespace Go.Ev
open Go.Proofs
set_option maxRecDepth 100000
theorem WB.fF {t : Bool} {F : Bool → Prop} (h : t = false) (k : F false) : WB t F := ⟨fun e => (by rw [h] at e; cases e), fun _ => k⟩
theorem WB.fT {t : Bool} {F : Bool → Prop} (h : t = true) (k : F true) : WB t F := ⟨fun _ => k, fun e => (by rw [h] at e; cases e)⟩
theorem j_ChairOut (Tr : List Ln) (m : Nat) (c : Int) (hT : Tr.length ≤ 1000) (hm : m ≤ Tr.length) : PureF Try.prog p57.ix [.lst 3 (rows lnD Tr), .i .i64 (m : Int), .i .i64 c] (.i .i64 (cOut Tr c m)) := by
  have e1 := rows_length lnD Tr
  refine PureF.run fn56 (by simp) (by simp [PuL, PuE, Pu, pu_ln]) ?_; conv => whnf
  repeat' first | ((first | with_reducible (first | apply Qt | apply Qu) | refine Qa rfl ?_ | refine Qk rfl ?_ | refine Qb ?_ | refine Qc ?_ | refine Qi ?_ | refine Qj ?_) <;> conv => whnf)
  refine Rn.loop (fun j : Nat => ⟨(.n (.n (.n (.n .e (some (.i .i64 (cOut Tr c j))) .e) none .e) (some (.i .i64 (m : Int))) .e) (some (.lst 3 (rows lnD Tr))) (.n (.n (.n .e (some (.i .i64 (j : Int))) .e) none .e) (some (.i .i64 c)) .e)), .e, .h, none⟩) (fun j => j ≤ m) (fun j => m - j) 0 ?_ ?_ ?_
  · (first | (refine X.le.mk ?_ ?_ (Nat.le_refl _) rfl rfl) | skip) <;> (repeat' first | exact T.le_e _ | refine T.le_some ?_ ?_ ?_ | refine T.le_none ?_ ?_ | rfl)
  · exact Nat.zero_le _
  intro j hj
  have hj : j ≤ m := hj
  have hs : cOut Tr c (j + 1) = if (Tr.getD j default).c = c then (if (Tr.getD j default).k = 1 then (j : Int) else -1) else cOut Tr c j := rfl
  conv => whnf
  repeat' first | ((first | with_reducible (first | apply Qt | apply Qu) | refine Qa rfl ?_ | refine Qk rfl ?_ | refine Qb ?_ | refine Qc ?_ | refine Qi ?_ | refine Qj ?_) <;> conv => whnf)
  refine WB.dec (fun h => ?_) (fun h => ?_) <;> conv => whnf
  · have hlt : j < Tr.length := by omega
    by_cases h1 : (Tr.getD j default).c = c
    · rw [if_pos h1] at hs
      by_cases h2 : (Tr.getD j default).k = 1
      · rw [if_pos h2] at hs
        repeat' first | ((first | with_reducible (first | apply Qt | apply Qu) | refine Qa rfl ?_ | refine Qk rfl ?_ | refine Qb ?_ | refine Qc ?_ | refine Qi ?_ | refine Qj ?_ | with_reducible (first | refine Qm ?_ | refine Qn ?_ | refine Qo ?_ | refine Qp ?_ | refine WB.nt ?_ | refine WB.nf ?_ | refine WB.dec (fun h => ?_) (fun h => ?_) | refine WB.ndec (fun h => ?_) (fun h => ?_)) | refine WB.mk (fun h => ?_) (fun h => ?_)) <;> conv => whnf)
        refine Again.to (j + 1) (by omega) (by omega) (Nat.le_refl _) ?_
        rw [hs]
        (refine Shr.of ?_ ?_ rfl rfl) <;> (repeat' first | exact Rel.e | refine Rel.some ?_ ?_ ?_ | refine Rel.none ?_ ?_) <;> (try first | (show Fz _ _ _ _; first | exact Fz.pu trivial | (refine Fz.i ?_; first | rfl | omega) | (refine Fz.kpt ?_; (focus (show Pos.nat _ < Pos.nat _; simp [Pos.nat]; done))) | (refine Fz.ksl ?_; (focus (show Pos.nat _ < Pos.nat _; simp [Pos.nat]; done))) | (refine Fz.kmp ?_; (focus (show Pos.nat _ < Pos.nat _; simp [Pos.nat]; done))) | (refine Fz.pu ?_; simp [Cell.d, Pu, PuL, PuE, pu_ints, pu_ln, pu_ct]; done) | (refine Fz.pu ?_; simp only [Cell.d]; assumption)) | (refine RO'.of ?_ (ShC.same ?_); (focus (show Pos.nat _ < Pos.nat _; simp [Pos.nat]; done)); (repeat' first | exact ShC.nl | refine ShC.cn ?_ ?_) <;> first | exact Fz.pu trivial | (refine Fz.i ?_; first | rfl | omega) | (refine Fz.kpt ?_; (focus (show Pos.nat _ < Pos.nat _; simp [Pos.nat]; done))) | (refine Fz.ksl ?_; (focus (show Pos.nat _ < Pos.nat _; simp [Pos.nat]; done))) | (refine Fz.kmp ?_; (focus (show Pos.nat _ < Pos.nat _; simp [Pos.nat]; done))) | (refine Fz.pu ?_; simp [Cell.d, Pu, PuL, PuE, pu_ints, pu_ln, pu_ct]; done) | (refine Fz.pu ?_; simp only [Cell.d]; assumption)))
        all_goals exact Fz.pu (pu_ln _)
      · rw [if_neg h2] at hs
        repeat' first | ((first | with_reducible (first | apply Qt | apply Qu) | refine Qa rfl ?_ | refine Qk rfl ?_ | refine Qb ?_ | refine Qc ?_ | refine Qi ?_ | refine Qj ?_ | with_reducible (first | refine Qm ?_ | refine Qn ?_ | refine Qo ?_ | refine Qp ?_ | refine WB.nt ?_ | refine WB.nf ?_ | refine WB.dec (fun h => ?_) (fun h => ?_) | refine WB.ndec (fun h => ?_) (fun h => ?_)) | refine WB.mk (fun h => ?_) (fun h => ?_)) <;> conv => whnf)
        refine Again.to (j + 1) (by omega) (by omega) (Nat.le_refl _) ?_
        rw [hs]
        (refine Shr.of ?_ ?_ rfl rfl) <;> (repeat' first | exact Rel.e | refine Rel.some ?_ ?_ ?_ | refine Rel.none ?_ ?_) <;> (try first | (show Fz _ _ _ _; first | exact Fz.pu trivial | (refine Fz.i ?_; first | rfl | omega) | (refine Fz.kpt ?_; (focus (show Pos.nat _ < Pos.nat _; simp [Pos.nat]; done))) | (refine Fz.ksl ?_; (focus (show Pos.nat _ < Pos.nat _; simp [Pos.nat]; done))) | (refine Fz.kmp ?_; (focus (show Pos.nat _ < Pos.nat _; simp [Pos.nat]; done))) | (refine Fz.pu ?_; simp [Cell.d, Pu, PuL, PuE, pu_ints, pu_ln, pu_ct]; done) | (refine Fz.pu ?_; simp only [Cell.d]; assumption)) | (refine RO'.of ?_ (ShC.same ?_); (focus (show Pos.nat _ < Pos.nat _; simp [Pos.nat]; done)); (repeat' first | exact ShC.nl | refine ShC.cn ?_ ?_) <;> first | exact Fz.pu trivial | (refine Fz.i ?_; first | rfl | omega) | (refine Fz.kpt ?_; (focus (show Pos.nat _ < Pos.nat _; simp [Pos.nat]; done))) | (refine Fz.ksl ?_; (focus (show Pos.nat _ < Pos.nat _; simp [Pos.nat]; done))) | (refine Fz.kmp ?_; (focus (show Pos.nat _ < Pos.nat _; simp [Pos.nat]; done))) | (refine Fz.pu ?_; simp [Cell.d, Pu, PuL, PuE, pu_ints, pu_ln, pu_ct]; done) | (refine Fz.pu ?_; simp only [Cell.d]; assumption)))
        all_goals exact Fz.pu (pu_ln _)
    · rw [if_neg h1] at hs
      repeat' first | ((first | with_reducible (first | apply Qt | apply Qu) | refine Qa rfl ?_ | refine Qk rfl ?_ | refine Qb ?_ | refine Qc ?_ | refine Qi ?_ | refine Qj ?_ | with_reducible (first | refine Qm ?_ | refine Qn ?_ | refine Qo ?_ | refine Qp ?_ | refine WB.nt ?_ | refine WB.nf ?_ | refine WB.dec (fun h => ?_) (fun h => ?_) | refine WB.ndec (fun h => ?_) (fun h => ?_)) | refine WB.mk (fun h => ?_) (fun h => ?_)) <;> conv => whnf)
      refine Again.to (j + 1) (by omega) (by omega) (Nat.le_refl _) ?_
      rw [hs]
      (refine Shr.of ?_ ?_ rfl rfl) <;> (repeat' first | exact Rel.e | refine Rel.some ?_ ?_ ?_ | refine Rel.none ?_ ?_) <;> (try first | (show Fz _ _ _ _; first | exact Fz.pu trivial | (refine Fz.i ?_; first | rfl | omega) | (refine Fz.kpt ?_; (focus (show Pos.nat _ < Pos.nat _; simp [Pos.nat]; done))) | (refine Fz.ksl ?_; (focus (show Pos.nat _ < Pos.nat _; simp [Pos.nat]; done))) | (refine Fz.kmp ?_; (focus (show Pos.nat _ < Pos.nat _; simp [Pos.nat]; done))) | (refine Fz.pu ?_; simp [Cell.d, Pu, PuL, PuE, pu_ints, pu_ln, pu_ct]; done) | (refine Fz.pu ?_; simp only [Cell.d]; assumption)) | (refine RO'.of ?_ (ShC.same ?_); (focus (show Pos.nat _ < Pos.nat _; simp [Pos.nat]; done)); (repeat' first | exact ShC.nl | refine ShC.cn ?_ ?_) <;> first | exact Fz.pu trivial | (refine Fz.i ?_; first | rfl | omega) | (refine Fz.kpt ?_; (focus (show Pos.nat _ < Pos.nat _; simp [Pos.nat]; done))) | (refine Fz.ksl ?_; (focus (show Pos.nat _ < Pos.nat _; simp [Pos.nat]; done))) | (refine Fz.kmp ?_; (focus (show Pos.nat _ < Pos.nat _; simp [Pos.nat]; done))) | (refine Fz.pu ?_; simp [Cell.d, Pu, PuL, PuE, pu_ints, pu_ln, pu_ct]; done) | (refine Fz.pu ?_; simp only [Cell.d]; assumption)))
      all_goals exact Fz.pu (pu_ln _)
  · repeat' first | ((first | with_reducible (first | apply Qt | apply Qu) | refine Qa rfl ?_ | refine Qk rfl ?_ | refine Qb ?_ | refine Qc ?_ | refine Qi ?_ | refine Qj ?_) <;> conv => whnf)
    exact Fin.i rfl (by rw [show m = j by omega])
theorem j_TokenOut (Tr : List Ln) (m : Nat) (c : Int) (hT : Tr.length ≤ 1000) (hm : m ≤ Tr.length) : PureF Try.prog p58.ix [.lst 3 (rows lnD Tr), .i .i64 (m : Int), .i .i64 c] (.i .i64 (tOut Tr c m)) := by
  have e1 := rows_length lnD Tr
  refine PureF.run fn57 (by simp) (by simp [PuL, PuE, Pu, pu_ln]) ?_; conv => whnf
  repeat' first | ((first | with_reducible (first | apply Qt | apply Qu) | refine Qa rfl ?_ | refine Qk rfl ?_ | refine Qb ?_ | refine Qc ?_ | refine Qi ?_ | refine Qj ?_) <;> conv => whnf)
  refine Rn.loop (fun j : Nat => ⟨(.n (.n (.n (.n .e (some (.i .i64 (tOut Tr c j))) .e) none .e) (some (.i .i64 (m : Int))) .e) (some (.lst 3 (rows lnD Tr))) (.n (.n (.n .e (some (.i .i64 (j : Int))) .e) none .e) (some (.i .i64 c)) .e)), .e, .h, none⟩) (fun j => j ≤ m) (fun j => m - j) 0 ?_ ?_ ?_
  · (first | (refine X.le.mk ?_ ?_ (Nat.le_refl _) rfl rfl) | skip) <;> (repeat' first | exact T.le_e _ | refine T.le_some ?_ ?_ ?_ | refine T.le_none ?_ ?_ | rfl)
  · exact Nat.zero_le _
  intro j hj
  have hj : j ≤ m := hj
  have hs : tOut Tr c (j + 1) = if (Tr.getD j default).t = c then (if (Tr.getD j default).k = 1 then (j : Int) else -1) else tOut Tr c j := rfl
  conv => whnf
  repeat' first | ((first | with_reducible (first | apply Qt | apply Qu) | refine Qa rfl ?_ | refine Qk rfl ?_ | refine Qb ?_ | refine Qc ?_ | refine Qi ?_ | refine Qj ?_) <;> conv => whnf)
  refine WB.dec (fun h => ?_) (fun h => ?_) <;> conv => whnf
  · have hlt : j < Tr.length := by omega
    by_cases h1 : (Tr.getD j default).t = c
    · rw [if_pos h1] at hs
      by_cases h2 : (Tr.getD j default).k = 1
      · rw [if_pos h2] at hs
        repeat' first | ((first | with_reducible (first | apply Qt | apply Qu) | refine Qa rfl ?_ | refine Qk rfl ?_ | refine Qb ?_ | refine Qc ?_ | refine Qi ?_ | refine Qj ?_ | with_reducible (first | refine Qm ?_ | refine Qn ?_ | refine Qo ?_ | refine Qp ?_ | refine WB.nt ?_ | refine WB.nf ?_ | refine WB.dec (fun h => ?_) (fun h => ?_) | refine WB.ndec (fun h => ?_) (fun h => ?_)) | refine WB.mk (fun h => ?_) (fun h => ?_)) <;> conv => whnf)
        refine Again.to (j + 1) (by omega) (by omega) (Nat.le_refl _) ?_
        rw [hs]
        (refine Shr.of ?_ ?_ rfl rfl) <;> (repeat' first | exact Rel.e | refine Rel.some ?_ ?_ ?_ | refine Rel.none ?_ ?_) <;> (try first | (show Fz _ _ _ _; first | exact Fz.pu trivial | (refine Fz.i ?_; first | rfl | omega) | (refine Fz.kpt ?_; (focus (show Pos.nat _ < Pos.nat _; simp [Pos.nat]; done))) | (refine Fz.ksl ?_; (focus (show Pos.nat _ < Pos.nat _; simp [Pos.nat]; done))) | (refine Fz.kmp ?_; (focus (show Pos.nat _ < Pos.nat _; simp [Pos.nat]; done))) | (refine Fz.pu ?_; simp [Cell.d, Pu, PuL, PuE, pu_ints, pu_ln, pu_ct]; done) | (refine Fz.pu ?_; simp only [Cell.d]; assumption)) | (refine RO'.of ?_ (ShC.same ?_); (focus (show Pos.nat _ < Pos.nat _; simp [Pos.nat]; done)); (repeat' first | exact ShC.nl | refine ShC.cn ?_ ?_) <;> first | exact Fz.pu trivial | (refine Fz.i ?_; first | rfl | omega) | (refine Fz.kpt ?_; (focus (show Pos.nat _ < Pos.nat _; simp [Pos.nat]; done))) | (refine Fz.ksl ?_; (focus (show Pos.nat _ < Pos.nat _; simp [Pos.nat]; done))) | (refine Fz.kmp ?_; (focus (show Pos.nat _ < Pos.nat _; simp [Pos.nat]; done))) | (refine Fz.pu ?_; simp [Cell.d, Pu, PuL, PuE, pu_ints, pu_ln, pu_ct]; done) | (refine Fz.pu ?_; simp only [Cell.d]; assumption)))
        all_goals exact Fz.pu (pu_ln _)
      · rw [if_neg h2] at hs
        repeat' first | ((first | with_reducible (first | apply Qt | apply Qu) | refine Qa rfl ?_ | refine Qk rfl ?_ | refine Qb ?_ | refine Qc ?_ | refine Qi ?_ | refine Qj ?_ | with_reducible (first | refine Qm ?_ | refine Qn ?_ | refine Qo ?_ | refine Qp ?_ | refine WB.nt ?_ | refine WB.nf ?_ | refine WB.dec (fun h => ?_) (fun h => ?_) | refine WB.ndec (fun h => ?_) (fun h => ?_)) | refine WB.mk (fun h => ?_) (fun h => ?_)) <;> conv => whnf)
        refine Again.to (j + 1) (by omega) (by omega) (Nat.le_refl _) ?_
        rw [hs]
        (refine Shr.of ?_ ?_ rfl rfl) <;> (repeat' first | exact Rel.e | refine Rel.some ?_ ?_ ?_ | refine Rel.none ?_ ?_) <;> (try first | (show Fz _ _ _ _; first | exact Fz.pu trivial | (refine Fz.i ?_; first | rfl | omega) | (refine Fz.kpt ?_; (focus (show Pos.nat _ < Pos.nat _; simp [Pos.nat]; done))) | (refine Fz.ksl ?_; (focus (show Pos.nat _ < Pos.nat _; simp [Pos.nat]; done))) | (refine Fz.kmp ?_; (focus (show Pos.nat _ < Pos.nat _; simp [Pos.nat]; done))) | (refine Fz.pu ?_; simp [Cell.d, Pu, PuL, PuE, pu_ints, pu_ln, pu_ct]; done) | (refine Fz.pu ?_; simp only [Cell.d]; assumption)) | (refine RO'.of ?_ (ShC.same ?_); (focus (show Pos.nat _ < Pos.nat _; simp [Pos.nat]; done)); (repeat' first | exact ShC.nl | refine ShC.cn ?_ ?_) <;> first | exact Fz.pu trivial | (refine Fz.i ?_; first | rfl | omega) | (refine Fz.kpt ?_; (focus (show Pos.nat _ < Pos.nat _; simp [Pos.nat]; done))) | (refine Fz.ksl ?_; (focus (show Pos.nat _ < Pos.nat _; simp [Pos.nat]; done))) | (refine Fz.kmp ?_; (focus (show Pos.nat _ < Pos.nat _; simp [Pos.nat]; done))) | (refine Fz.pu ?_; simp [Cell.d, Pu, PuL, PuE, pu_ints, pu_ln, pu_ct]; done) | (refine Fz.pu ?_; simp only [Cell.d]; assumption)))
        all_goals exact Fz.pu (pu_ln _)
    · rw [if_neg h1] at hs
      repeat' first | ((first | with_reducible (first | apply Qt | apply Qu) | refine Qa rfl ?_ | refine Qk rfl ?_ | refine Qb ?_ | refine Qc ?_ | refine Qi ?_ | refine Qj ?_ | with_reducible (first | refine Qm ?_ | refine Qn ?_ | refine Qo ?_ | refine Qp ?_ | refine WB.nt ?_ | refine WB.nf ?_ | refine WB.dec (fun h => ?_) (fun h => ?_) | refine WB.ndec (fun h => ?_) (fun h => ?_)) | refine WB.mk (fun h => ?_) (fun h => ?_)) <;> conv => whnf)
      refine Again.to (j + 1) (by omega) (by omega) (Nat.le_refl _) ?_
      rw [hs]
      (refine Shr.of ?_ ?_ rfl rfl) <;> (repeat' first | exact Rel.e | refine Rel.some ?_ ?_ ?_ | refine Rel.none ?_ ?_) <;> (try first | (show Fz _ _ _ _; first | exact Fz.pu trivial | (refine Fz.i ?_; first | rfl | omega) | (refine Fz.kpt ?_; (focus (show Pos.nat _ < Pos.nat _; simp [Pos.nat]; done))) | (refine Fz.ksl ?_; (focus (show Pos.nat _ < Pos.nat _; simp [Pos.nat]; done))) | (refine Fz.kmp ?_; (focus (show Pos.nat _ < Pos.nat _; simp [Pos.nat]; done))) | (refine Fz.pu ?_; simp [Cell.d, Pu, PuL, PuE, pu_ints, pu_ln, pu_ct]; done) | (refine Fz.pu ?_; simp only [Cell.d]; assumption)) | (refine RO'.of ?_ (ShC.same ?_); (focus (show Pos.nat _ < Pos.nat _; simp [Pos.nat]; done)); (repeat' first | exact ShC.nl | refine ShC.cn ?_ ?_) <;> first | exact Fz.pu trivial | (refine Fz.i ?_; first | rfl | omega) | (refine Fz.kpt ?_; (focus (show Pos.nat _ < Pos.nat _; simp [Pos.nat]; done))) | (refine Fz.ksl ?_; (focus (show Pos.nat _ < Pos.nat _; simp [Pos.nat]; done))) | (refine Fz.kmp ?_; (focus (show Pos.nat _ < Pos.nat _; simp [Pos.nat]; done))) | (refine Fz.pu ?_; simp [Cell.d, Pu, PuL, PuE, pu_ints, pu_ln, pu_ct]; done) | (refine Fz.pu ?_; simp only [Cell.d]; assumption)))
      all_goals exact Fz.pu (pu_ln _)
  · repeat' first | ((first | with_reducible (first | apply Qt | apply Qu) | refine Qa rfl ?_ | refine Qk rfl ?_ | refine Qb ?_ | refine Qc ?_ | refine Qi ?_ | refine Qj ?_) <;> conv => whnf)
    exact Fin.i rfl (by rw [show m = j by omega])
theorem j_IsPossible (Tr : List Ln) (hT : Tr.length ≤ 1000) : PureF Try.prog p31.ix [.lst 3 (rows lnD Tr)] (.b (possB Tr)) := by
  have e1 := rows_length lnD Tr
  refine PureF.run fn30 (by simp) (by simp [PuL, PuE, Pu, pu_ln]) ?_; conv => whnf
  repeat' first | ((first | with_reducible (first | apply Qt | apply Qu) | refine Qa rfl ?_ | refine Qk rfl ?_ | refine Qb ?_ | refine Qc ?_ | refine Qi ?_ | refine Qj ?_) <;> conv => whnf)
  refine Rn.loop (fun j : Nat => ⟨(.n (.n (.n .e (some (.i .i64 (j : Int))) .e) none .e) (some (.lst 3 (rows lnD Tr))) .e), .e, .h, none⟩) (fun j => j ≤ Tr.length ∧ (List.range j).all (pos1 Tr) = true) (fun j => Tr.length - j) 0 ?_ ?_ ?_
  · (first | (refine X.le.mk ?_ ?_ (Nat.le_refl _) rfl rfl) | skip) <;> (repeat' first | exact T.le_e _ | refine T.le_some ?_ ?_ ?_ | refine T.le_none ?_ ?_ | rfl)
  · exact ⟨Nat.zero_le _, rfl⟩
  rintro j ⟨hj, ha⟩
  conv => whnf
  repeat' first | ((first | with_reducible (first | apply Qt | apply Qu) | refine Qa rfl ?_ | refine Qk rfl ?_ | refine Qb ?_ | refine Qc ?_ | refine Qi ?_ | refine Qj ?_) <;> conv => whnf)
  refine WB.dec (fun h => ?_) (fun h => ?_) <;> conv => whnf
  · have hlt : j < Tr.length := by omega
    have c1 := j_ChairOut Tr j (Tr.getD j default).c hT hj
    have c2 := j_TokenOut Tr j (Tr.getD j default).t hT hj
    have hbad : pos1 Tr j = false → possB Tr = false := fun h => range_all_false hlt h
    have hok : pos1 Tr j = ((decide (0 ≤ cOut Tr (Tr.getD j default).c j) == decide ((Tr.getD j default).k = 2)) && (decide (0 ≤ tOut Tr (Tr.getD j default).t j) == decide ((Tr.getD j default).k = 2))) := rfl
    repeat' first | ((first | with_reducible (first | apply Qt | apply Qu) | refine Qa rfl ?_ | refine Qk rfl ?_ | refine Qb ?_ | refine Qc ?_ | refine Qi ?_ | refine Qj ?_ | refine Qf (c1) ?_ | refine Qf (c2) ?_ | with_reducible (first | refine Qm ?_ | refine Qn ?_ | refine Qo ?_ | refine Qp ?_ | refine WB.nt ?_ | refine WB.nf ?_)) <;> conv => whnf)
    cases hA : (decide (0 ≤ cOut Tr (Tr.getD j default).c j) == decide ((Tr.getD j default).k = 2)) with
    | false =>
      refine WB.fT rfl ?_; conv => whnf
      repeat' first | ((first | with_reducible (first | apply Qt | apply Qu) | refine Qa rfl ?_ | refine Qk rfl ?_ | refine Qb ?_ | refine Qc ?_ | refine Qi ?_ | refine Qj ?_ | with_reducible (first | refine Qm ?_ | refine Qn ?_ | refine Qo ?_ | refine Qp ?_ | refine WB.nt ?_ | refine WB.nf ?_)) <;> conv => whnf)
      exact Fin.b rfl (by rw [hbad (by rw [hok, hA]; rfl)])
    | true =>
    refine WB.fF rfl ?_; conv => whnf
    repeat' first | ((first | with_reducible (first | apply Qt | apply Qu) | refine Qa rfl ?_ | refine Qk rfl ?_ | refine Qb ?_ | refine Qc ?_ | refine Qi ?_ | refine Qj ?_ | with_reducible (first | refine Qm ?_ | refine Qn ?_ | refine Qo ?_ | refine Qp ?_ | refine WB.nt ?_ | refine WB.nf ?_)) <;> conv => whnf)
    cases hB : (decide (0 ≤ tOut Tr (Tr.getD j default).t j) == decide ((Tr.getD j default).k = 2)) with
    | false =>
      refine WB.fT rfl ?_; conv => whnf
      repeat' first | ((first | with_reducible (first | apply Qt | apply Qu) | refine Qa rfl ?_ | refine Qk rfl ?_ | refine Qb ?_ | refine Qc ?_ | refine Qi ?_ | refine Qj ?_ | with_reducible (first | refine Qm ?_ | refine Qn ?_ | refine Qo ?_ | refine Qp ?_ | refine WB.nt ?_ | refine WB.nf ?_)) <;> conv => whnf)
      exact Fin.b rfl (by rw [hbad (by rw [hok, hA, hB]; rfl)])
    | true =>
    refine WB.fF rfl ?_; conv => whnf
    repeat' first | ((first | with_reducible (first | apply Qt | apply Qu) | refine Qa rfl ?_ | refine Qk rfl ?_ | refine Qb ?_ | refine Qc ?_ | refine Qi ?_ | refine Qj ?_ | with_reducible (first | refine Qm ?_ | refine Qn ?_ | refine Qo ?_ | refine Qp ?_ | refine WB.nt ?_ | refine WB.nf ?_)) <;> conv => whnf)
    refine Again.to (j + 1) (by omega) ⟨by omega, range_succ_all ha (by rw [hok, hA, hB]; rfl)⟩ (Nat.le_refl _) ?_
    (refine Shr.of ?_ ?_ rfl rfl) <;> (repeat' first | exact Rel.e | refine Rel.some ?_ ?_ ?_ | refine Rel.none ?_ ?_) <;> (try first | (show Fz _ _ _ _; first | exact Fz.pu trivial | (refine Fz.i ?_; first | rfl | omega) | (refine Fz.kpt ?_; (focus (show Pos.nat _ < Pos.nat _; simp [Pos.nat]; done))) | (refine Fz.ksl ?_; (focus (show Pos.nat _ < Pos.nat _; simp [Pos.nat]; done))) | (refine Fz.kmp ?_; (focus (show Pos.nat _ < Pos.nat _; simp [Pos.nat]; done))) | (refine Fz.pu ?_; simp [Cell.d, Pu, PuL, PuE, pu_ints, pu_ln, pu_ct]; done) | (refine Fz.pu ?_; simp only [Cell.d]; assumption)) | (refine RO'.of ?_ (ShC.same ?_); (focus (show Pos.nat _ < Pos.nat _; simp [Pos.nat]; done)); (repeat' first | exact ShC.nl | refine ShC.cn ?_ ?_) <;> first | exact Fz.pu trivial | (refine Fz.i ?_; first | rfl | omega) | (refine Fz.kpt ?_; (focus (show Pos.nat _ < Pos.nat _; simp [Pos.nat]; done))) | (refine Fz.ksl ?_; (focus (show Pos.nat _ < Pos.nat _; simp [Pos.nat]; done))) | (refine Fz.kmp ?_; (focus (show Pos.nat _ < Pos.nat _; simp [Pos.nat]; done))) | (refine Fz.pu ?_; simp [Cell.d, Pu, PuL, PuE, pu_ints, pu_ln, pu_ct]; done) | (refine Fz.pu ?_; simp only [Cell.d]; assumption)))
    all_goals exact Fz.pu (pu_ln _)
  · repeat' first | ((first | with_reducible (first | apply Qt | apply Qu) | refine Qa rfl ?_ | refine Qk rfl ?_ | refine Qb ?_ | refine Qc ?_ | refine Qi ?_ | refine Qj ?_) <;> conv => whnf)
    exact Fin.b rfl (by unfold possB; rw [show Tr.length = j by omega, ha])
theorem j_Money (n coin box : Int) (ls : List Ln) (cs : List Ct) (Tr : List Ln) (m : Nat) (hb : 0 ≤ box ∧ box ≤ 999) (hc : 1 ≤ coin ∧ coin ≤ 99) (hT : Tr.length ≤ 1000) (hm : m ≤ Tr.length) : PureF Try.prog p33.ix [.ag (bk5 n coin box ls cs), .lst 3 (rows lnD Tr), .i .i64 (m : Int)] (.i .i64 (monR box coin Tr m)) := by
  have e1 := rows_length lnD Tr
  refine PureF.run fn32 (by simp) (by simp [PuL, PuE, Pu, bk5, pu_ln, pu_ct]) ?_; conv => whnf
  repeat' first | ((first | with_reducible (first | apply Qt | apply Qu) | refine Qa rfl ?_ | refine Qk rfl ?_ | refine Qb ?_ | refine Qc ?_ | refine Qi ?_ | refine Qj ?_) <;> conv => whnf)
  refine Rn.loop (fun j : Nat => ⟨(.n (.n (.n (.n .e (some (.i .i64 (monR box coin Tr j))) .e) (some (.pt .h 0 0)) .e) (some (.lst 3 (rows lnD Tr))) .e) none (.n (.n (.n .e (some (.i .i64 (j : Int))) .e) none .e) (some (.i .i64 (m : Int))) .e)), (.n .e (some (bkC n coin box ls cs)) .e), .o .h, none⟩) (fun j => j ≤ m) (fun j => m - j) 0 ?_ ?_ ?_
  · refine X.le.mk ?_ ?_ (Nat.le_refl _) rfl rfl
    · (repeat' first | exact T.le_e _ | refine T.le_some ?_ rfl ?_ | refine T.le_none ?_ ?_)
    · (repeat' first | exact T.le_e _ | refine T.le_some ?_ rfl ?_ | refine T.le_none ?_ ?_ | refine T.le_ee ?_ ?_)
  · exact Nat.zero_le _
  intro j hj
  have hj : j ≤ m := hj
  have hs : monR box coin Tr (j + 1) = if (Tr.getD j default).k = 1 then monR box coin Tr j + coin else monR box coin Tr j - coin := rfl
  have hbd := monR_bd (T := Tr) hb hc j
  have hst : ∀ (v : Int) (sl : T D) (ob : T C) (nx : Pos), v = monR box coin Tr (j + 1) → T.le ((.n (.n (.n (.n .e (some (.i .i64 v)) .e) (some (.pt .h 0 0)) .e) (some (.lst 3 (rows lnD Tr))) .e) none (.n (.n (.n .e (some (.i .i64 ((j + 1 : Nat) : Int))) .e) none .e) (some (.i .i64 (m : Int))) .e)) : T D) sl → T.le ((.n .e (some (bkC n coin box ls cs)) .e) : T C) ob → Shr ⟨sl, ob, nx, none⟩ ⟨(.n (.n (.n (.n .e (some (.i .i64 (monR box coin Tr (j + 1)))) .e) (some (.pt .h 0 0)) .e) (some (.lst 3 (rows lnD Tr))) .e) none (.n (.n (.n .e (some (.i .i64 ((j + 1 : Nat) : Int))) .e) none .e) (some (.i .i64 (m : Int))) .e)), (.n .e (some (bkC n coin box ls cs)) .e), .o .h, none⟩ := fun v sl ob nx hv hs ho => by
    subst hv
    refine Shr.kp2 hs ?_ ho ?_
    · show TAll (fun _ d => Kp 2 d) _
      repeat' first | exact TAll.e | refine TAll.some ?_ ?_ ?_ | refine TAll.none ?_ ?_
      all_goals simp [Kp, Pu, pu_ln, Pos.nat]
    · show TAll (fun id c => id.nat < 2 ∧ KpC 2 c) _
      exact TAll.some TAll.e ⟨by simp [Pos.nat], bkC_kp _ _ _ _ _ _⟩ TAll.e
  conv => whnf
  repeat' first | ((first | with_reducible (first | apply Qt | apply Qu) | refine Qa rfl ?_ | refine Qk rfl ?_ | refine Qb ?_ | refine Qc ?_ | refine Qi ?_ | refine Qj ?_) <;> conv => whnf)
  refine WB.dec (fun h => ?_) (fun h => ?_) <;> conv => whnf
  · have hlt : j < Tr.length := by omega
    by_cases h1 : (Tr.getD j default).k = 1
    · rw [if_pos h1] at hs
      repeat' first | ((first | with_reducible (first | apply Qt | apply Qu) | refine Qa rfl ?_ | refine Qk rfl ?_ | refine Qb ?_ | refine Qc ?_ | refine Qi ?_ | refine Qj ?_ | with_reducible (first | refine Qm ?_ | refine Qn ?_ | refine Qo ?_ | refine Qp ?_ | refine WB.nt ?_ | refine WB.nf ?_ | refine WB.dec (fun h => ?_) (fun h => ?_) | refine WB.ndec (fun h => ?_) (fun h => ?_)) | refine WB.mk (fun h => ?_) (fun h => ?_)) <;> conv => whnf)
      refine Again.to (j + 1) (by omega) (by omega) (Nat.le_refl _) (hst _ _ _ _ hs.symm ?_ ?_)
      · (repeat' first | exact T.le_e _ | refine T.le_some ?_ rfl ?_ | refine T.le_none ?_ ?_)
      · (repeat' first | exact T.le_e _ | refine T.le_some ?_ rfl ?_ | refine T.le_none ?_ ?_ | refine T.le_ee ?_ ?_)
    · rw [if_neg h1] at hs
      repeat' first | ((first | with_reducible (first | apply Qt | apply Qu) | refine Qa rfl ?_ | refine Qk rfl ?_ | refine Qb ?_ | refine Qc ?_ | refine Qi ?_ | refine Qj ?_ | with_reducible (first | refine Qm ?_ | refine Qn ?_ | refine Qo ?_ | refine Qp ?_ | refine WB.nt ?_ | refine WB.nf ?_ | refine WB.dec (fun h => ?_) (fun h => ?_) | refine WB.ndec (fun h => ?_) (fun h => ?_)) | refine WB.mk (fun h => ?_) (fun h => ?_)) <;> conv => whnf)
      refine Again.to (j + 1) (by omega) (by omega) (Nat.le_refl _) (hst _ _ _ _ hs.symm ?_ ?_)
      · (repeat' first | exact T.le_e _ | refine T.le_some ?_ rfl ?_ | refine T.le_none ?_ ?_)
      · (repeat' first | exact T.le_e _ | refine T.le_some ?_ rfl ?_ | refine T.le_none ?_ ?_ | refine T.le_ee ?_ ?_)
  · repeat' first | ((first | with_reducible (first | apply Qt | apply Qu) | refine Qa rfl ?_ | refine Qk rfl ?_ | refine Qb ?_ | refine Qc ?_ | refine Qi ?_ | refine Qj ?_) <;> conv => whnf)
    exact Fin.i rfl (by rw [show m = j by omega])
end Go.Ev
namespace Go.Ev
open Go.Proofs
set_option maxRecDepth 100000
theorem j_Counted (n coin box : Int) (ls : List Ln) (cs : List Ct) (Tr : List Ln) (hb : 0 ≤ box ∧ box ≤ 999) (hc : 1 ≤ coin ∧ coin ≤ 99) (hT : Tr.length ≤ 1000) (hcl : cs.length ≤ 1000) (hok : ∀ c ∈ cs, 0 ≤ c.a ∧ c.a ≤ Tr.length) : PureF Try.prog p83.ix [.ag (bk5 n coin box ls cs), .lst 3 (rows lnD Tr)] (.b (cntB box coin cs Tr)) := by
  have e1 := rows_length lnD Tr
  have e2 := rows_length ctD cs
  refine PureF.run fn82 (by simp) (by simp [PuL, PuE, Pu, bk5, pu_ln, pu_ct]) ?_; conv => whnf
  repeat' first | ((first | with_reducible (first | apply Qt | apply Qu) | refine Qa rfl ?_ | refine Qk rfl ?_ | refine Qb ?_ | refine Qc ?_ | refine Qi ?_ | refine Qj ?_) <;> conv => whnf)
  refine Rn.loop (fun j : Nat => ⟨(.n (.n .e (some (.lst 3 (rows lnD Tr))) (.n .e (some (.i .i64 (j : Int))) .e)) none (.n .e (some (.pt .h 0 0)) .e)), (.n .e (some (bkC n coin box ls cs)) .e), .o .h, none⟩) (fun j => j ≤ cs.length ∧ (cs.take j).all (fun c => inR (monR box coin Tr c.a.toNat) c.lo c.hi) = true) (fun j => cs.length - j) 0 ?_ ?_ ?_
  · refine X.le.mk ?_ ?_ (Nat.le_refl _) rfl rfl
    · (repeat' first | exact T.le_e _ | refine T.le_some ?_ rfl ?_ | refine T.le_none ?_ ?_)
    · (repeat' first | exact T.le_e _ | refine T.le_some ?_ rfl ?_ | refine T.le_none ?_ ?_ | refine T.le_ee ?_ ?_)
  · exact ⟨Nat.zero_le _, rfl⟩
  rintro j ⟨hj, ha⟩
  conv => whnf
  repeat' first | ((first | with_reducible (first | apply Qt | apply Qu) | refine Qa rfl ?_ | refine Qk rfl ?_ | refine Qb ?_ | refine Qc ?_ | refine Qi ?_ | refine Qj ?_) <;> conv => whnf)
  refine WB.dec (fun h => ?_) (fun h => ?_) <;> conv => whnf
  · have hlt : j < cs.length := by omega
    obtain ⟨o1, o2⟩ := hok _ (getD_mem (d := default) hlt)
    have hN : (((cs.getD j default).a.toNat : Nat) : Int) = (cs.getD j default).a := by omega
    have cM := j_Money n coin box ls cs Tr (cs.getD j default).a.toNat hb hc hT (by omega)
    rw [hN] at cM
    have cI := j_In (monR box coin Tr (cs.getD j default).a.toNat) (cs.getD j default).lo (cs.getD j default).hi
    cases hq : inR (monR box coin Tr (cs.getD j default).a.toNat) (cs.getD j default).lo (cs.getD j default).hi with
    | false =>
      rw [hq] at cI
      repeat' first | ((first | with_reducible (first | apply Qt | apply Qu) | refine Qa rfl ?_ | refine Qk rfl ?_ | refine Qb ?_ | refine Qc ?_ | refine Qi ?_ | refine Qj ?_ | refine Qf (cM) ?_ | refine Qf (cI) ?_ | with_reducible (first | refine Qm ?_ | refine Qn ?_ | refine Qo ?_ | refine Qp ?_ | refine WB.nt ?_ | refine WB.nf ?_ | refine WB.dec (fun h => ?_) (fun h => ?_) | refine WB.ndec (fun h => ?_) (fun h => ?_)) | refine WB.mk (fun h => ?_) (fun h => ?_)) <;> conv => whnf)
      exact Fin.b rfl (by
        unfold cntB
        symm
        rw [List.all_eq_false]
        exact ⟨_, getD_mem (d := default) hlt, by rw [hq]; simp⟩)
    | true =>
      rw [hq] at cI
      repeat' first | ((first | with_reducible (first | apply Qt | apply Qu) | refine Qa rfl ?_ | refine Qk rfl ?_ | refine Qb ?_ | refine Qc ?_ | refine Qi ?_ | refine Qj ?_ | refine Qf (cM) ?_ | refine Qf (cI) ?_ | with_reducible (first | refine Qm ?_ | refine Qn ?_ | refine Qo ?_ | refine Qp ?_ | refine WB.nt ?_ | refine WB.nf ?_ | refine WB.dec (fun h => ?_) (fun h => ?_) | refine WB.ndec (fun h => ?_) (fun h => ?_)) | refine WB.mk (fun h => ?_) (fun h => ?_)) <;> conv => whnf)
      refine Again.to (j + 1) (by omega) ⟨by omega, ?_⟩ (Nat.le_refl _) ?_
      · rw [take_succ_getD (d := default) hlt, List.all_append, ha, Bool.true_and, List.all_cons, List.all_nil, Bool.and_true]
        exact hq
      · refine Shr.kp2 ?_ ?_ ?_ ?_
        · (repeat' first | exact T.le_e _ | refine T.le_some ?_ rfl ?_ | refine T.le_none ?_ ?_)
        · show TAll (fun _ d => Kp 2 d) _
          repeat' first | exact TAll.e | refine TAll.some ?_ ?_ ?_ | refine TAll.none ?_ ?_
          all_goals simp [Kp, Pu, pu_ln, Pos.nat]
        · (repeat' first | exact T.le_e _ | refine T.le_some ?_ rfl ?_ | refine T.le_none ?_ ?_ | refine T.le_ee ?_ ?_)
        · show TAll (fun id c => id.nat < 2 ∧ KpC 2 c) _
          exact TAll.some TAll.e ⟨by simp [Pos.nat], bkC_kp _ _ _ _ _ _⟩ TAll.e
  · repeat' first | ((first | with_reducible (first | apply Qt | apply Qu) | refine Qa rfl ?_ | refine Qk rfl ?_ | refine Qb ?_ | refine Qc ?_ | refine Qi ?_ | refine Qj ?_) <;> conv => whnf)
    exact Fin.b rfl (by unfold cntB; rw [← ha, List.take_of_length_le (by omega)])
def fitsB (n coin box : Int) (ls : List Ln) (cs : List Ct) (Tr : List Ln) : Bool := readB n ls Tr && (possB Tr && cntB box coin cs Tr)
end Go.Ev