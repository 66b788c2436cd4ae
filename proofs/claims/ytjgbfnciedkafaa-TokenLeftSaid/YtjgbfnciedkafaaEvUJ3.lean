import Derived.Test.YtjgbfnciedkafaaEvUGn
set_option linter.all false
namespace Go.Ev
open Go.Proofs
set_option maxRecDepth 100000
theorem foldl_takeJ {α : Type} {β : Type} (g : β → α → β) (b : β) {l : List α} {j : Nat} {d : α} (h : j < l.length) : (l.take (j + 1)).foldl g b = g ((l.take j).foldl g b) (l.getD j d) := by
  rw [take_succ_getD (d := d) h, List.foldl_append]; rfl
theorem j_Many (n coin box : Int) (ls : List Ln) (cs : List Ct) (hn : 1 ≤ n ∧ n ≤ 4) (hl : ls.length ≤ 1000) (hok : ls.all (lnOk n) = true) : PureF Try.prog p63.ix [.ag (bk5 n coin box ls cs)] (.i .i64 (manyR n ls)) := by
  have e1 := rows_length lnD ls
  refine PureF.run fn62 (by simp) (by simp [PuL, PuE, Pu, bk5, pu_ln, pu_ct]) ?_; conv => whnf
  repeat' first | ((first | with_reducible (first | apply Qt | apply Qu) | refine Qa rfl ?_ | refine Qk rfl ?_ | refine Qb ?_ | refine Qc ?_ | refine Qi ?_ | refine Qj ?_) <;> conv => whnf)
  refine Rn.loop (fun j : Nat => ⟨(.n (.n (.n .e (some (.i .i64 (manyR n (ls.take j)))) .e) (some (.pt .h 0 0)) .e) none (.n (.n .e (some (.i .i64 (j : Int))) .e) none .e)), (.n .e (some (bkC n coin box ls cs)) .e), .o .h, none⟩) (fun j => j ≤ ls.length) (fun j => ls.length - j) 0 ?_ ?_ ?_
  · refine X.le.mk ?_ ?_ (Nat.le_refl _) rfl rfl
    · (repeat' first | exact T.le_e _ | refine T.le_some ?_ rfl ?_ | refine T.le_none ?_ ?_)
    · (repeat' first | exact T.le_e _ | refine T.le_some ?_ rfl ?_ | refine T.le_none ?_ ?_ | refine T.le_ee ?_ ?_)
  · exact Nat.zero_le _
  intro j hj
  have hj : j ≤ ls.length := hj
  have hmp := many_prod hn.1 hn.2 (ls.take j)
  conv => whnf
  repeat' first | ((first | with_reducible (first | apply Qt | apply Qu) | refine Qa rfl ?_ | refine Qk rfl ?_ | refine Qb ?_ | refine Qc ?_ | refine Qi ?_ | refine Qj ?_) <;> conv => whnf)
  refine WB.dec (fun h => ?_) (fun h => ?_) <;> conv => whnf
  · have hlt : j < ls.length := by omega
    have hs : manyR n (ls.take (j + 1)) = min 5000 (manyR n (ls.take j) * rdN n (ls.getD j default)) := foldl_takeJ _ _ hlt
    have hlo := List.all_eq_true.1 hok _ (getD_mem (d := default) hlt)
    have hrl := read_len hn hlo
    have hrb := rdN_bd hn.1 hn.2 (ls.getD j default)
    have er := rows_length lnD (readL n (ls.getD j default))
    have cR := j_Readings n coin box ls cs (ls.getD j default) (by omega)
    have hm1 : 1 ≤ manyR n (ls.take j) ∧ manyR n (ls.take j) ≤ 5000 := by omega
    have hmul : 1 ≤ manyR n (ls.take j) * rdN n (ls.getD j default) ∧ manyR n (ls.take j) * rdN n (ls.getD j default) ≤ 160000 := by
      have a1 := Int.mul_le_mul hm1.1 hrb.1 (by omega) (by omega)
      have a2 := Int.mul_le_mul hm1.2 hrb.2 (by omega) (by omega)
      omega
    have hmul2 : manyR n (ls.take j) * ((rows lnD (readL n (ls.getD j default))).length : Int) = manyR n (ls.take j) * rdN n (ls.getD j default) := by rw [er, hrl]
    repeat' first | ((first | with_reducible (first | apply Qt | apply Qu) | refine Qa rfl ?_ | refine Qk rfl ?_ | refine Qb ?_ | refine Qc ?_ | refine Qi ?_ | refine Qj ?_ | refine Qf (cR) ?_) <;> conv => whnf)
    refine Again.to (j + 1) (by omega) (by omega) (Nat.le_refl _) ?_
    rw [hs]
    refine Shr.of ?_ ?_ rfl rfl
    · (repeat' first | exact Rel.e | refine Rel.some ?_ ?_ ?_ | refine Rel.none ?_ ?_ | refine Rel.ee ?_ ?_)
      all_goals show Fz _ _ _ _
      all_goals first | exact .pu trivial | exact .kpt (show _ < 2 by simp [Pos.nat]) | (refine Fz.i ?_; rw [hmul2])
    · (repeat' first | exact Rel.e | refine Rel.some ?_ ?_ ?_ | refine Rel.none ?_ ?_ | refine Rel.ee ?_ ?_)
      exact RO'.of (show _ < 2 by simp [Pos.nat]) (ShC.kp (bkC_kp _ _ _ _ _ _))
  · repeat' first | ((first | with_reducible (first | apply Qt | apply Qu) | refine Qa rfl ?_ | refine Qk rfl ?_ | refine Qb ?_ | refine Qc ?_ | refine Qi ?_ | refine Qj ?_) <;> conv => whnf)
    exact Fin.i rfl (by rw [List.take_of_length_le (by omega)])
theorem fault_one {n coin box : Int} {ls : List Ln} {cs : List Ct} (hlim : ¬ (8 < ls.length ∨ 4 < cs.length)) (hv : vldT n coin box ls cs = false) : faultT n coin box ls cs = 1 := by
  unfold faultT
  rw [if_neg hlim, hv]; rfl
theorem vld_ln {n coin box : Int} {ls : List Ln} {cs : List Ct} {j : Nat} (hj : j < ls.length) (h : lnOk n (ls.getD j default) = false) : vldT n coin box ls cs = false := by
  have : ls.all (lnOk n) = false := by
    rw [List.all_eq_false]
    exact ⟨_, getD_mem (d := default) hj, by rw [h]; simp⟩
  unfold vldT
  rw [this]; simp
theorem vld_ct {n coin box : Int} {ls : List Ln} {cs : List Ct} {j : Nat} (hj : j < cs.length) (h : ctOk ls.length (cs.getD j default) = false) : vldT n coin box ls cs = false := by
  have : cs.all (ctOk ls.length) = false := by
    rw [List.all_eq_false]
    exact ⟨_, getD_mem (d := default) hj, by rw [h]; simp⟩
  unfold vldT
  rw [this]; simp
theorem j_Fault (n coin box : Int) (ls : List Ln) (cs : List Ct) : PureF Try.prog p70.ix [.ag (bk5 n coin box ls cs)] (.i .i64 (faultT n coin box ls cs)) := by
  have e1 := rows_length lnD ls
  have e2 := rows_length ctD cs
  have kpB := bkC_kp n coin box ls cs
  refine PureF.run fn69 (by simp) (by simp [PuL, PuE, Pu, bk5, pu_ln, pu_ct]) ?_; conv => whnf
  by_cases hlim : 8 < ls.length ∨ 4 < cs.length
  · have hf : faultT n coin box ls cs = 3 := by unfold faultT; rw [if_pos hlim]
    rw [hf]
    rcases hlim with hlim | hlim
    · repeat' first | ((first | with_reducible (first | apply Qt | apply Qu) | refine Qa rfl ?_ | refine Qk rfl ?_ | refine Qb ?_ | refine Qc ?_ | refine Qi ?_ | refine Qj ?_ | with_reducible (first | refine Qm ?_ | refine Qn ?_ | refine Qo ?_ | refine Qp ?_ | refine WB.nt ?_ | refine WB.nf ?_ | refine WB.dec (fun h => ?_) (fun h => ?_) | refine WB.ndec (fun h => ?_) (fun h => ?_)) | refine WB.mk (fun h => ?_) (fun h => ?_)) <;> conv => whnf)
      all_goals first | exact Fin.i rfl rfl | (exfalso; omega)
    · by_cases h8 : 8 < ls.length
      · repeat' first | ((first | with_reducible (first | apply Qt | apply Qu) | refine Qa rfl ?_ | refine Qk rfl ?_ | refine Qb ?_ | refine Qc ?_ | refine Qi ?_ | refine Qj ?_ | with_reducible (first | refine Qm ?_ | refine Qn ?_ | refine Qo ?_ | refine Qp ?_ | refine WB.nt ?_ | refine WB.nf ?_ | refine WB.dec (fun h => ?_) (fun h => ?_) | refine WB.ndec (fun h => ?_) (fun h => ?_)) | refine WB.mk (fun h => ?_) (fun h => ?_)) <;> conv => whnf)
        all_goals first | exact Fin.i rfl rfl | (exfalso; omega)
      · repeat' first | ((first | with_reducible (first | apply Qt | apply Qu) | refine Qa rfl ?_ | refine Qk rfl ?_ | refine Qb ?_ | refine Qc ?_ | refine Qi ?_ | refine Qj ?_ | with_reducible (first | refine Qm ?_ | refine Qn ?_ | refine Qo ?_ | refine Qp ?_ | refine WB.nt ?_ | refine WB.nf ?_ | refine WB.dec (fun h => ?_) (fun h => ?_) | refine WB.ndec (fun h => ?_) (fun h => ?_)) | refine WB.mk (fun h => ?_) (fun h => ?_)) <;> conv => whnf)
        all_goals first | exact Fin.i rfl rfl | (exfalso; omega)
  have h8 : ¬ 8 < ls.length := fun h => hlim (.inl h)
  have h4 : ¬ 4 < cs.length := fun h => hlim (.inr h)
  cases b1 : inR n 1 4 with
  | false =>
    have c1 := j_In n 1 4
    rw [b1] at c1
    have hf := fault_one (n := n) (coin := coin) (box := box) hlim (by unfold vldT; rw [b1]; rfl)
    repeat' first | ((first | with_reducible (first | apply Qt | apply Qu) | refine Qa rfl ?_ | refine Qk rfl ?_ | refine Qb ?_ | refine Qc ?_ | refine Qi ?_ | refine Qj ?_ | refine Qf (c1) ?_ | with_reducible (first | refine Qm ?_ | refine Qn ?_ | refine Qo ?_ | refine Qp ?_ | refine WB.nt ?_ | refine WB.nf ?_ | refine WB.dec (fun h => ?_) (fun h => ?_) | refine WB.ndec (fun h => ?_) (fun h => ?_)) | refine WB.mk (fun h => ?_) (fun h => ?_)) <;> conv => whnf)
    all_goals first | exact Fin.i rfl hf.symm | (exfalso; omega)
  | true =>
  cases b2 : inR coin 1 99 with
  | false =>
    have c1 := j_In n 1 4
    have c2 := j_In coin 1 99
    rw [b1] at c1
    rw [b2] at c2
    have hf := fault_one (n := n) (coin := coin) (box := box) hlim (by unfold vldT; rw [b1, b2]; rfl)
    repeat' first | ((first | with_reducible (first | apply Qt | apply Qu) | refine Qa rfl ?_ | refine Qk rfl ?_ | refine Qb ?_ | refine Qc ?_ | refine Qi ?_ | refine Qj ?_ | refine Qf (c1) ?_ | refine Qf (c2) ?_ | with_reducible (first | refine Qm ?_ | refine Qn ?_ | refine Qo ?_ | refine Qp ?_ | refine WB.nt ?_ | refine WB.nf ?_ | refine WB.dec (fun h => ?_) (fun h => ?_) | refine WB.ndec (fun h => ?_) (fun h => ?_)) | refine WB.mk (fun h => ?_) (fun h => ?_)) <;> conv => whnf)
    all_goals first | exact Fin.i rfl hf.symm | (exfalso; omega)
  | true =>
  cases b3 : inR box 0 999 with
  | false =>
    have c1 := j_In n 1 4
    have c2 := j_In coin 1 99
    have c3 := j_In box 0 999
    rw [b1] at c1
    rw [b2] at c2
    rw [b3] at c3
    have hf := fault_one (n := n) (coin := coin) (box := box) hlim (by unfold vldT; rw [b1, b2, b3]; rfl)
    repeat' first | ((first | with_reducible (first | apply Qt | apply Qu) | refine Qa rfl ?_ | refine Qk rfl ?_ | refine Qb ?_ | refine Qc ?_ | refine Qi ?_ | refine Qj ?_ | refine Qf (c1) ?_ | refine Qf (c2) ?_ | refine Qf (c3) ?_ | with_reducible (first | refine Qm ?_ | refine Qn ?_ | refine Qo ?_ | refine Qp ?_ | refine WB.nt ?_ | refine WB.nf ?_ | refine WB.dec (fun h => ?_) (fun h => ?_) | refine WB.ndec (fun h => ?_) (fun h => ?_)) | refine WB.mk (fun h => ?_) (fun h => ?_)) <;> conv => whnf)
    all_goals first | exact Fin.i rfl hf.symm | (exfalso; omega)
  | true =>
  have c1 := j_In n 1 4
  have c2 := j_In coin 1 99
  have c3 := j_In box 0 999
  rw [b1] at c1
  rw [b2] at c2
  rw [b3] at c3
  have hn := inR_iff.1 b1
  repeat' first | ((first | with_reducible (first | apply Qt | apply Qu) | refine Qa rfl ?_ | refine Qk rfl ?_ | refine Qb ?_ | refine Qc ?_ | refine Qi ?_ | refine Qj ?_ | refine Qf (c1) ?_ | refine Qf (c2) ?_ | refine Qf (c3) ?_ | with_reducible (first | refine Qm ?_ | refine Qn ?_ | refine Qo ?_ | refine Qp ?_ | refine WB.nt ?_ | refine WB.nf ?_ | refine WB.dec (fun h => ?_) (fun h => ?_) | refine WB.ndec (fun h => ?_) (fun h => ?_)) | refine WB.mk (fun h => ?_) (fun h => ?_)) <;> conv => whnf)
  refine Rn.loop (fun j : Nat => ⟨(.n (.n (.n .e (some (.i .i64 (j : Int))) .e) (some (.pt .h 0 0)) .e) none .e), (.n .e (some (bkC n coin box ls cs)) .e), .o .h, none⟩) (fun j => j ≤ ls.length ∧ (ls.take j).all (lnOk n) = true) (fun j => ls.length - j) 0 ?_ ?_ ?_
  · refine X.le.mk ?_ ?_ (Nat.le_refl _) rfl rfl
    · (repeat' first | exact T.le_e _ | refine T.le_some ?_ rfl ?_ | refine T.le_none ?_ ?_)
    · (repeat' first | exact T.le_e _ | refine T.le_some ?_ rfl ?_ | refine T.le_none ?_ ?_ | refine T.le_ee ?_ ?_)
  · exact ⟨Nat.zero_le _, rfl⟩
  rintro j ⟨hj, ha⟩
  conv => whnf
  repeat' first | ((first | with_reducible (first | apply Qt | apply Qu) | refine Qa rfl ?_ | refine Qk rfl ?_ | refine Qb ?_ | refine Qc ?_ | refine Qi ?_ | refine Qj ?_) <;> conv => whnf)
  refine WB.dec (fun h => ?_) (fun h => ?_) <;> conv => whnf
  · have hlt : j < ls.length := by omega
    obtain ⟨x, hx⟩ : ∃ x, x = ls.getD j default := ⟨_, rfl⟩
    have d1 := j_In x.k 0 2
    have d2 := j_In x.c (-1) (n - 1)
    have d3 := j_In x.t (-1) (n - 1)
    have hbad : lnOk n x = false → faultT n coin box ls cs = 1 := fun h => fault_one hlim (vld_ln hlt (by rw [← hx]; exact h))
    have hgood : lnOk n x = true → (ls.take (j + 1)).all (lnOk n) = true := fun h => by
      rw [take_succ_getD (d := default) hlt, List.all_append, ha, ← hx]
      simp [h]
    have hok : lnOk n x = (inR x.k 0 2 && (inR x.c (-1) (n - 1) && inR x.t (-1) (n - 1))) := rfl
    have hst : ∀ (sl : T D) (ob : T C) (nx : Pos), T.le ((.n (.n (.n .e (some (.i .i64 ((j + 1 : Nat) : Int))) .e) (some (.pt .h 0 0)) .e) none .e) : T D) sl → T.le ((.n .e (some (bkC n coin box ls cs)) .e) : T C) ob → Shr ⟨sl, ob, nx, none⟩ ⟨(.n (.n (.n .e (some (.i .i64 ((j + 1 : Nat) : Int))) .e) (some (.pt .h 0 0)) .e) none .e), (.n .e (some (bkC n coin box ls cs)) .e), .o .h, none⟩ := fun sl ob nx hs ho => by
      refine Shr.kp2 hs ?_ ho ?_
      · show TAll (fun _ d => Kp 2 d) _
        repeat' first | exact TAll.e | refine TAll.some ?_ ?_ ?_ | refine TAll.none ?_ ?_
        all_goals simp [Kp, Pu, Pos.nat]
      · show TAll (fun id c => id.nat < 2 ∧ KpC 2 c) _
        exact TAll.some TAll.e ⟨by simp [Pos.nat], kpB _⟩ TAll.e
    rw [hx] at d1 d2 d3
    cases q1 : inR (ls.getD j default).k 0 2 with
    | false =>
      rw [q1] at d1
      have hf := hbad (by rw [hok, hx, q1]; rfl)
      repeat' first | ((first | with_reducible (first | apply Qt | apply Qu) | refine Qa rfl ?_ | refine Qk rfl ?_ | refine Qb ?_ | refine Qc ?_ | refine Qi ?_ | refine Qj ?_ | refine Qf (d1) ?_ | with_reducible (first | refine Qm ?_ | refine Qn ?_ | refine Qo ?_ | refine Qp ?_ | refine WB.nt ?_ | refine WB.nf ?_ | refine WB.dec (fun h => ?_) (fun h => ?_) | refine WB.ndec (fun h => ?_) (fun h => ?_)) | refine WB.mk (fun h => ?_) (fun h => ?_)) <;> conv => whnf)
      exact Fin.i rfl hf.symm
    | true =>
    cases q2 : inR (ls.getD j default).c (-1) (n - 1) with
    | false =>
      rw [q1] at d1
      rw [q2] at d2
      have hf := hbad (by rw [hok, hx, q1, q2]; rfl)
      repeat' first | ((first | with_reducible (first | apply Qt | apply Qu) | refine Qa rfl ?_ | refine Qk rfl ?_ | refine Qb ?_ | refine Qc ?_ | refine Qi ?_ | refine Qj ?_ | refine Qf (d1) ?_ | refine Qf (d2) ?_ | with_reducible (first | refine Qm ?_ | refine Qn ?_ | refine Qo ?_ | refine Qp ?_ | refine WB.nt ?_ | refine WB.nf ?_ | refine WB.dec (fun h => ?_) (fun h => ?_) | refine WB.ndec (fun h => ?_) (fun h => ?_)) | refine WB.mk (fun h => ?_) (fun h => ?_)) <;> conv => whnf)
      exact Fin.i rfl hf.symm
    | true =>
    cases q3 : inR (ls.getD j default).t (-1) (n - 1) with
    | false =>
      rw [q1] at d1
      rw [q2] at d2
      rw [q3] at d3
      have hf := hbad (by rw [hok, hx, q1, q2, q3]; rfl)
      repeat' first | ((first | with_reducible (first | apply Qt | apply Qu) | refine Qa rfl ?_ | refine Qk rfl ?_ | refine Qb ?_ | refine Qc ?_ | refine Qi ?_ | refine Qj ?_ | refine Qf (d1) ?_ | refine Qf (d2) ?_ | refine Qf (d3) ?_ | with_reducible (first | refine Qm ?_ | refine Qn ?_ | refine Qo ?_ | refine Qp ?_ | refine WB.nt ?_ | refine WB.nf ?_ | refine WB.dec (fun h => ?_) (fun h => ?_) | refine WB.ndec (fun h => ?_) (fun h => ?_)) | refine WB.mk (fun h => ?_) (fun h => ?_)) <;> conv => whnf)
      exact Fin.i rfl hf.symm
    | true =>
      rw [q1] at d1
      rw [q2] at d2
      rw [q3] at d3
      have hg := hgood (by rw [hok, hx, q1, q2, q3]; rfl)
      repeat' first | ((first | with_reducible (first | apply Qt | apply Qu) | refine Qa rfl ?_ | refine Qk rfl ?_ | refine Qb ?_ | refine Qc ?_ | refine Qi ?_ | refine Qj ?_ | refine Qf (d1) ?_ | refine Qf (d2) ?_ | refine Qf (d3) ?_ | with_reducible (first | refine Qm ?_ | refine Qn ?_ | refine Qo ?_ | refine Qp ?_ | refine WB.nt ?_ | refine WB.nf ?_ | refine WB.dec (fun h => ?_) (fun h => ?_) | refine WB.ndec (fun h => ?_) (fun h => ?_)) | refine WB.mk (fun h => ?_) (fun h => ?_)) <;> conv => whnf)
      refine Again.to (j + 1) (by omega) ⟨by omega, hg⟩ (Nat.le_refl _) (hst _ _ _ ?_ ?_)
      · (repeat' first | exact T.le_e _ | refine T.le_some ?_ rfl ?_ | refine T.le_none ?_ ?_)
      · (repeat' first | exact T.le_e _ | refine T.le_some ?_ rfl ?_ | refine T.le_none ?_ ?_ | refine T.le_ee ?_ ?_)
  have hall : ls.all (lnOk n) = true := by rwa [List.take_of_length_le (by omega)] at ha
  repeat' first | ((first | with_reducible (first | apply Qt | apply Qu) | refine Qa rfl ?_ | refine Qk rfl ?_ | refine Qb ?_ | refine Qc ?_ | refine Qi ?_ | refine Qj ?_) <;> conv => whnf)
  refine Rn.loop (fun j : Nat => ⟨(.n (.n .e (some (.pt .h 0 0)) (.n .e (some (.i .i64 (j : Int))) .e)) none .e), (.n .e (some (bkC n coin box ls cs)) .e), .o .h, none⟩) (fun j => j ≤ cs.length ∧ (cs.take j).all (ctOk ls.length) = true) (fun j => cs.length - j) 0 ?_ ?_ ?_
  · refine X.le.mk ?_ ?_ (Nat.le_refl _) rfl rfl
    · (repeat' first | exact T.le_e _ | refine T.le_some ?_ rfl ?_ | refine T.le_none ?_ ?_)
    · (repeat' first | exact T.le_e _ | refine T.le_some ?_ rfl ?_ | refine T.le_none ?_ ?_ | refine T.le_ee ?_ ?_)
  · exact ⟨Nat.zero_le _, rfl⟩
  rintro q ⟨hq, hb⟩
  conv => whnf
  repeat' first | ((first | with_reducible (first | apply Qt | apply Qu) | refine Qa rfl ?_ | refine Qk rfl ?_ | refine Qb ?_ | refine Qc ?_ | refine Qi ?_ | refine Qj ?_) <;> conv => whnf)
  refine WB.dec (fun h => ?_) (fun h => ?_) <;> conv => whnf
  · have hlt : q < cs.length := by omega
    have d1 := j_In (cs.getD q default).a 0 ((rows lnD ls).length : Int)
    have hbad : ctOk ls.length (cs.getD q default) = false → faultT n coin box ls cs = 1 := fun h => fault_one hlim (vld_ct hlt h)
    have hgood : ctOk ls.length (cs.getD q default) = true → (cs.take (q + 1)).all (ctOk ls.length) = true := fun h => by
      rw [take_succ_getD (d := default) hlt, List.all_append, hb, Bool.true_and, List.all_cons, List.all_nil, Bool.and_true]
      exact h
    have hok : ctOk ls.length (cs.getD q default) = (inR (cs.getD q default).a 0 ((rows lnD ls).length : Int) && (decide (0 ≤ (cs.getD q default).lo) && (decide ((cs.getD q default).lo ≤ (cs.getD q default).hi) && decide ((cs.getD q default).hi ≤ 2000)))) := by rw [e1]; rfl
    have hst : ∀ (sl : T D) (ob : T C) (nx : Pos), T.le ((.n (.n .e (some (.pt .h 0 0)) (.n .e (some (.i .i64 ((q + 1 : Nat) : Int))) .e)) none .e) : T D) sl → T.le ((.n .e (some (bkC n coin box ls cs)) .e) : T C) ob → Shr ⟨sl, ob, nx, none⟩ ⟨(.n (.n .e (some (.pt .h 0 0)) (.n .e (some (.i .i64 ((q + 1 : Nat) : Int))) .e)) none .e), (.n .e (some (bkC n coin box ls cs)) .e), .o .h, none⟩ := fun sl ob nx hs ho => by
      refine Shr.kp2 hs ?_ ho ?_
      · show TAll (fun _ d => Kp 2 d) _
        repeat' first | exact TAll.e | refine TAll.some ?_ ?_ ?_ | refine TAll.none ?_ ?_
        all_goals simp [Kp, Pu, Pos.nat]
      · show TAll (fun id c => id.nat < 2 ∧ KpC 2 c) _
        exact TAll.some TAll.e ⟨by simp [Pos.nat], kpB _⟩ TAll.e
    cases q1 : inR (cs.getD q default).a 0 ((rows lnD ls).length : Int) with
    | false =>
      rw [q1] at d1
      have hf := hbad (by rw [hok, q1]; rfl)
      repeat' first | ((first | with_reducible (first | apply Qt | apply Qu) | refine Qa rfl ?_ | refine Qk rfl ?_ | refine Qb ?_ | refine Qc ?_ | refine Qi ?_ | refine Qj ?_ | refine Qf (d1) ?_ | with_reducible (first | refine Qm ?_ | refine Qn ?_ | refine Qo ?_ | refine Qp ?_ | refine WB.nt ?_ | refine WB.nf ?_ | refine WB.dec (fun h => ?_) (fun h => ?_) | refine WB.ndec (fun h => ?_) (fun h => ?_)) | refine WB.mk (fun h => ?_) (fun h => ?_)) <;> conv => whnf)
      exact Fin.i rfl hf.symm
    | true =>
    rw [q1] at d1
    rw [q1, Bool.true_and] at hok
    by_cases k1 : 0 ≤ (cs.getD q default).lo
    · by_cases k2 : (cs.getD q default).lo ≤ (cs.getD q default).hi
      · by_cases k3 : (cs.getD q default).hi ≤ 2000
        · have hg := hgood (by rw [hok, decide_eq_true k1, decide_eq_true k2, decide_eq_true k3]; rfl)
          repeat' first | ((first | with_reducible (first | apply Qt | apply Qu) | refine Qa rfl ?_ | refine Qk rfl ?_ | refine Qb ?_ | refine Qc ?_ | refine Qi ?_ | refine Qj ?_ | refine Qf (d1) ?_ | with_reducible (first | refine Qm ?_ | refine Qn ?_ | refine Qo ?_ | refine Qp ?_ | refine WB.nt ?_ | refine WB.nf ?_ | refine WB.dec (fun h => ?_) (fun h => ?_) | refine WB.ndec (fun h => ?_) (fun h => ?_)) | refine WB.mk (fun h => ?_) (fun h => ?_)) <;> conv => whnf)
          refine Again.to (q + 1) (by omega) ⟨by omega, hg⟩ (Nat.le_refl _) (hst _ _ _ ?_ ?_)
          · (repeat' first | exact T.le_e _ | refine T.le_some ?_ rfl ?_ | refine T.le_none ?_ ?_)
          · (repeat' first | exact T.le_e _ | refine T.le_some ?_ rfl ?_ | refine T.le_none ?_ ?_ | refine T.le_ee ?_ ?_)
        · have hf := hbad (by rw [hok, decide_eq_true k1, decide_eq_true k2, decide_eq_false k3]; rfl)
          repeat' first | ((first | with_reducible (first | apply Qt | apply Qu) | refine Qa rfl ?_ | refine Qk rfl ?_ | refine Qb ?_ | refine Qc ?_ | refine Qi ?_ | refine Qj ?_ | refine Qf (d1) ?_ | with_reducible (first | refine Qm ?_ | refine Qn ?_ | refine Qo ?_ | refine Qp ?_ | refine WB.nt ?_ | refine WB.nf ?_ | refine WB.dec (fun h => ?_) (fun h => ?_) | refine WB.ndec (fun h => ?_) (fun h => ?_)) | refine WB.mk (fun h => ?_) (fun h => ?_)) <;> conv => whnf)
          all_goals exact Fin.i rfl hf.symm
      · have hf := hbad (by rw [hok, decide_eq_true k1, decide_eq_false k2]; rfl)
        repeat' first | ((first | with_reducible (first | apply Qt | apply Qu) | refine Qa rfl ?_ | refine Qk rfl ?_ | refine Qb ?_ | refine Qc ?_ | refine Qi ?_ | refine Qj ?_ | refine Qf (d1) ?_ | with_reducible (first | refine Qm ?_ | refine Qn ?_ | refine Qo ?_ | refine Qp ?_ | refine WB.nt ?_ | refine WB.nf ?_ | refine WB.dec (fun h => ?_) (fun h => ?_) | refine WB.ndec (fun h => ?_) (fun h => ?_)) | refine WB.mk (fun h => ?_) (fun h => ?_)) <;> conv => whnf)
        all_goals exact Fin.i rfl hf.symm
    · have hf := hbad (by rw [hok, decide_eq_false k1]; rfl)
      repeat' first | ((first | with_reducible (first | apply Qt | apply Qu) | refine Qa rfl ?_ | refine Qk rfl ?_ | refine Qb ?_ | refine Qc ?_ | refine Qi ?_ | refine Qj ?_ | refine Qf (d1) ?_ | with_reducible (first | refine Qm ?_ | refine Qn ?_ | refine Qo ?_ | refine Qp ?_ | refine WB.nt ?_ | refine WB.nf ?_ | refine WB.dec (fun h => ?_) (fun h => ?_) | refine WB.ndec (fun h => ?_) (fun h => ?_)) | refine WB.mk (fun h => ?_) (fun h => ?_)) <;> conv => whnf)
      all_goals exact Fin.i rfl hf.symm
  have hallc : cs.all (ctOk ls.length) = true := by rwa [List.take_of_length_le (by omega)] at hb
  have cM := j_Many n coin box ls cs hn (by omega) hall
  have hf : faultT n coin box ls cs = if 4096 < manyR n ls then 3 else 0 := by
    unfold faultT
    rw [if_neg hlim, if_pos (by unfold vldT; rw [b1, b2, b3, hall, hallc]; rfl)]
  by_cases hm : 4096 < manyR n ls
  · rw [if_pos hm] at hf
    repeat' first | ((first | with_reducible (first | apply Qt | apply Qu) | refine Qa rfl ?_ | refine Qk rfl ?_ | refine Qb ?_ | refine Qc ?_ | refine Qi ?_ | refine Qj ?_ | refine Qf (cM) ?_ | with_reducible (first | refine Qm ?_ | refine Qn ?_ | refine Qo ?_ | refine Qp ?_ | refine WB.nt ?_ | refine WB.nf ?_ | refine WB.dec (fun h => ?_) (fun h => ?_) | refine WB.ndec (fun h => ?_) (fun h => ?_)) | refine WB.mk (fun h => ?_) (fun h => ?_)) <;> conv => whnf)
    all_goals exact Fin.i rfl hf.symm
  · rw [if_neg hm] at hf
    repeat' first | ((first | with_reducible (first | apply Qt | apply Qu) | refine Qa rfl ?_ | refine Qk rfl ?_ | refine Qb ?_ | refine Qc ?_ | refine Qi ?_ | refine Qj ?_ | refine Qf (cM) ?_ | with_reducible (first | refine Qm ?_ | refine Qn ?_ | refine Qo ?_ | refine Qp ?_ | refine WB.nt ?_ | refine WB.nf ?_ | refine WB.dec (fun h => ?_) (fun h => ?_) | refine WB.ndec (fun h => ?_) (fun h => ?_)) | refine WB.mk (fun h => ?_) (fun h => ?_)) <;> conv => whnf)
    all_goals exact Fin.i rfl hf.symm
def thinT (n coin box : Int) (ls : List Ln) (cs : List Ct) : Bool := decide (ls.length ≤ 10) && (decide (cs.length ≤ 6) && (!decide (faultT n coin box ls cs = 0) || decide (manyR n ls ≤ 100)))
theorem j_Thin (n coin box : Int) (ls : List Ln) (cs : List Ct) : PureF Try.prog p21.ix [.ag (bk5 n coin box ls cs)] (.b (thinT n coin box ls cs)) := by
  have e1 := rows_length lnD ls
  have e2 := rows_length ctD cs
  have cF := j_Fault n coin box ls cs
  have ht : thinT n coin box ls cs = (decide (ls.length ≤ 10) && (decide (cs.length ≤ 6) && (!decide (faultT n coin box ls cs = 0) || decide (manyR n ls ≤ 100)))) := rfl
  refine PureF.run fn20 (by simp) (by simp [PuL, PuE, Pu, bk5, pu_ln, pu_ct]) ?_; conv => whnf
  by_cases h1 : ls.length ≤ 10
  · by_cases h2 : cs.length ≤ 6
    · rw [decide_eq_true h1, decide_eq_true h2, Bool.true_and, Bool.true_and] at ht
      rw [ht]
      by_cases hf : faultT n coin box ls cs = 0
      · obtain ⟨f1, f2, f3, f4⟩ := fault_okT hf
        have f3' := f3
        unfold vldT at f3'
        simp only [Bool.and_eq_true] at f3'
        have cM := j_Many n coin box ls cs (inR_iff.1 f3'.1) (by omega) f3'.2.2.2.1
        rw [hf] at cF ⊢
        by_cases hm : manyR n ls ≤ 100
        · repeat' first | ((first | with_reducible (first | apply Qt | apply Qu) | refine Qa rfl ?_ | refine Qk rfl ?_ | refine Qb ?_ | refine Qc ?_ | refine Qi ?_ | refine Qj ?_ | refine Qf (cF) ?_ | refine Qf (cM) ?_ | with_reducible (first | refine Qm ?_ | refine Qn ?_ | refine Qo ?_ | refine Qp ?_ | refine WB.nt ?_ | refine WB.nf ?_ | refine WB.dec (fun h => ?_) (fun h => ?_) | refine WB.ndec (fun h => ?_) (fun h => ?_)) | refine WB.mk (fun h => ?_) (fun h => ?_)) <;> conv => whnf)
          all_goals exact Fin.b rfl (by simp [hm])
        · repeat' first | ((first | with_reducible (first | apply Qt | apply Qu) | refine Qa rfl ?_ | refine Qk rfl ?_ | refine Qb ?_ | refine Qc ?_ | refine Qi ?_ | refine Qj ?_ | refine Qf (cF) ?_ | refine Qf (cM) ?_ | with_reducible (first | refine Qm ?_ | refine Qn ?_ | refine Qo ?_ | refine Qp ?_ | refine WB.nt ?_ | refine WB.nf ?_ | refine WB.dec (fun h => ?_) (fun h => ?_) | refine WB.ndec (fun h => ?_) (fun h => ?_)) | refine WB.mk (fun h => ?_) (fun h => ?_)) <;> conv => whnf)
          all_goals exact Fin.b rfl (by simp [hm])
      · repeat' first | ((first | with_reducible (first | apply Qt | apply Qu) | refine Qa rfl ?_ | refine Qk rfl ?_ | refine Qb ?_ | refine Qc ?_ | refine Qi ?_ | refine Qj ?_ | refine Qf (cF) ?_ | with_reducible (first | refine Qm ?_ | refine Qn ?_ | refine Qo ?_ | refine Qp ?_ | refine WB.nt ?_ | refine WB.nf ?_ | refine WB.dec (fun h => ?_) (fun h => ?_) | refine WB.ndec (fun h => ?_) (fun h => ?_)) | refine WB.mk (fun h => ?_) (fun h => ?_)) <;> conv => whnf)
        all_goals exact Fin.b rfl (by simp [hf])
    · rw [decide_eq_false h2, Bool.false_and, Bool.and_false] at ht
      rw [ht]
      repeat' first | ((first | with_reducible (first | apply Qt | apply Qu) | refine Qa rfl ?_ | refine Qk rfl ?_ | refine Qb ?_ | refine Qc ?_ | refine Qi ?_ | refine Qj ?_ | refine Qf (cF) ?_ | with_reducible (first | refine Qm ?_ | refine Qn ?_ | refine Qo ?_ | refine Qp ?_ | refine WB.nt ?_ | refine WB.nf ?_ | refine WB.dec (fun h => ?_) (fun h => ?_) | refine WB.ndec (fun h => ?_) (fun h => ?_)) | refine WB.mk (fun h => ?_) (fun h => ?_)) <;> conv => whnf)
      all_goals exact Fin.b rfl (by first | rfl | (exact decide_eq_false (by omega)))
  · rw [decide_eq_false h1, Bool.false_and] at ht
    rw [ht]
    repeat' first | ((first | with_reducible (first | apply Qt | apply Qu) | refine Qa rfl ?_ | refine Qk rfl ?_ | refine Qb ?_ | refine Qc ?_ | refine Qi ?_ | refine Qj ?_ | refine Qf (cF) ?_ | with_reducible (first | refine Qm ?_ | refine Qn ?_ | refine Qo ?_ | refine Qp ?_ | refine WB.nt ?_ | refine WB.nf ?_ | refine WB.dec (fun h => ?_) (fun h => ?_) | refine WB.ndec (fun h => ?_) (fun h => ?_)) | refine WB.mk (fun h => ?_) (fun h => ?_)) <;> conv => whnf)
    all_goals exact Fin.b rfl (by first | rfl | (exact decide_eq_false (by omega)))
end Go.Ev
namespace Go.Ev
open Go.Proofs
set_option maxRecDepth 100000
end Go.Ev
namespace Go.Ev
open Go.Proofs
set_option maxRecDepth 100000
def fitsB (n coin box : Int) (ls : List Ln) (cs : List Ct) (Tr : List Ln) : Bool := readB n ls Tr && (possB Tr && cntB box coin cs Tr)
end Go.Ev
namespace Go.Ev
open Go.Proofs
set_option maxRecDepth 100000
theorem j_has (a b x : Int) : PureF Try.prog p112.ix [.ag [.i .i64 a, .i .i64 b], .i .i64 x] (.b (inR x a b)) := by
  refine PureF.run fn111 (by simp) (by simp [PuL, PuE, Pu, pu_ints, pu_ln, pu_ct]) ?_; conv => whnf
  repeat' first | ((first | with_reducible (first | apply Qt | apply Qu) | refine Qa rfl ?_ | refine Qk rfl ?_ | refine Qb ?_ | refine Qc ?_ | refine Qi ?_ | refine Qj ?_ | with_reducible (first | refine Qm ?_ | refine Qn ?_ | refine Qo ?_ | refine Qp ?_ | refine WB.nt ?_ | refine WB.nf ?_ | refine WB.dec (fun h => ?_) (fun h => ?_) | refine WB.ndec (fun h => ?_) (fun h => ?_)) | refine WB.mk (fun h => ?_) (fun h => ?_)) <;> conv => whnf)
  all_goals exact Fin.b rfl (by unfold inR; first | rfl | (symm; apply decide_eq_true; omega) | (symm; apply decide_eq_false; omega) | (simp_all; done) | (simp_all; omega))
theorem j_upTo (x m : Int) : PureF Try.prog p86.ix [.i .i64 x, .i .i64 m] (.b (inR x 0 m)) := by
  refine PureF.run fn85 (by simp) (by simp [PuL, PuE, Pu, pu_ints, pu_ln, pu_ct]) ?_; conv => whnf
  repeat' first | ((first | with_reducible (first | apply Qt | apply Qu) | refine Qa rfl ?_ | refine Qk rfl ?_ | refine Qb ?_ | refine Qc ?_ | refine Qi ?_ | refine Qj ?_ | refine Qf (j_has _ _ _) ?_) <;> conv => whnf)
  exact Fin.b rfl rfl
theorem j_allLn (l : List Ln) (f : Pos) (first caps : List D) (p : Ln → Bool) (h1 : PuL first) (h2 : PuL caps) (hl : l.length ≤ 1000) (hf : ∀ c ∈ l, PureF Try.prog f.ix (first ++ ([.ag [.i .i64 c.k, .i .i64 c.c, .i .i64 c.t]] ++ caps)) (.b (p c))) : PureF Try.prog p113.ix [.lst 3 (rows lnD l), .fn f first caps] (.b (l.all p)) := by
  have e1 := rows_length lnD l
  refine PureF.run fn112 (by simp) (by simp [PuL, PuE, Pu, pu_ints, pu_ln, h1, h2]) ?_; conv => whnf
  repeat' first | ((first | with_reducible (first | apply Qt | apply Qu) | refine Qa rfl ?_ | refine Qk rfl ?_ | refine Qb ?_ | refine Qc ?_ | refine Qi ?_ | refine Qj ?_) <;> conv => whnf)
  refine Rn.loop (fun j : Nat => ⟨(.n (.n (.n (.n .e (some (.lst 3 (rows lnD l))) .e) none .e) (some (.fn f first caps)) (.n (.n .e (some (.i .i64 (j : Int))) .e) none .e)) none (.n (.n (.n .e (some (.i .i64 ((rows lnD l).length : Int))) .e) none .e) none .e)), .e, .h, none⟩) (fun j => j ≤ l.length ∧ (l.take j).all p = true) (fun j => l.length - j) 0 ?_ ?_ ?_
  · (first | (refine X.le.mk ?_ ?_ (Nat.le_refl _) rfl rfl) | skip) <;> (repeat' first | exact T.le_e _ | refine T.le_some ?_ ?_ ?_ | refine T.le_none ?_ ?_ | rfl)
  · exact ⟨by omega, by simp⟩
  rintro j ⟨hj, ha⟩
  conv => whnf
  repeat' first | ((first | with_reducible (first | apply Qt | apply Qu) | refine Qa rfl ?_ | refine Qk rfl ?_ | refine Qb ?_ | refine Qc ?_ | refine Qi ?_ | refine Qj ?_) <;> conv => whnf)
  refine WB.dec (fun h => ?_) (fun h => ?_) <;> conv => whnf
  · have hlt : j < l.length := by omega
    repeat' first | ((first | with_reducible (first | apply Qt | apply Qu) | refine Qa rfl ?_ | refine Qk rfl ?_ | refine Qb ?_ | refine Qc ?_ | refine Qi ?_ | refine Qj ?_ | refine Qf (hf _ (getD_mem hlt)) ?_) <;> conv => whnf)
    refine WB.mk (fun h => ?_) (fun h => ?_) <;> conv => whnf
    · repeat' first | ((first | with_reducible (first | apply Qt | apply Qu) | refine Qa rfl ?_ | refine Qk rfl ?_ | refine Qb ?_ | refine Qc ?_ | refine Qi ?_ | refine Qj ?_) <;> conv => whnf)
      exact Fin.b rfl (by rw [all_false (d := default) hlt (by simpa using h)])
    · repeat' first | ((first | with_reducible (first | apply Qt | apply Qu) | refine Qa rfl ?_ | refine Qk rfl ?_ | refine Qb ?_ | refine Qc ?_ | refine Qi ?_ | refine Qj ?_) <;> conv => whnf)
      refine Again.to (j + 1) (by omega) ⟨by omega, all_take_succ (d := default) hlt ha (by simpa using h)⟩ (Nat.le_refl _) ?_
      (refine Shr.of ?_ ?_ rfl rfl) <;> (repeat' first | exact Rel.e | refine Rel.some ?_ ?_ ?_ | refine Rel.none ?_ ?_) <;> (try first | (show Fz _ _ _ _; first | exact Fz.pu trivial | (refine Fz.i ?_; first | rfl | omega) | (refine Fz.kpt ?_; (focus (show Pos.nat _ < Pos.nat _; simp [Pos.nat]; done))) | (refine Fz.ksl ?_; (focus (show Pos.nat _ < Pos.nat _; simp [Pos.nat]; done))) | (refine Fz.kmp ?_; (focus (show Pos.nat _ < Pos.nat _; simp [Pos.nat]; done))) | (refine Fz.pu ?_; simp [Cell.d, Pu, PuL, PuE, pu_ints, pu_ln, pu_ct]; done) | (refine Fz.pu ?_; simp only [Cell.d]; assumption)) | (refine RO'.of ?_ (ShC.same ?_); (focus (show Pos.nat _ < Pos.nat _; simp [Pos.nat]; done)); (repeat' first | exact ShC.nl | refine ShC.cn ?_ ?_) <;> first | exact Fz.pu trivial | (refine Fz.i ?_; first | rfl | omega) | (refine Fz.kpt ?_; (focus (show Pos.nat _ < Pos.nat _; simp [Pos.nat]; done))) | (refine Fz.ksl ?_; (focus (show Pos.nat _ < Pos.nat _; simp [Pos.nat]; done))) | (refine Fz.kmp ?_; (focus (show Pos.nat _ < Pos.nat _; simp [Pos.nat]; done))) | (refine Fz.pu ?_; simp [Cell.d, Pu, PuL, PuE, pu_ints, pu_ln, pu_ct]; done) | (refine Fz.pu ?_; simp only [Cell.d]; assumption)))
      all_goals (refine Fz.pu ?_; simp [Pu, h1, h2])
  · repeat' first | ((first | with_reducible (first | apply Qt | apply Qu) | refine Qa rfl ?_ | refine Qk rfl ?_ | refine Qb ?_ | refine Qc ?_ | refine Qi ?_ | refine Qj ?_) <;> conv => whnf)
    exact Fin.b rfl (by rw [all_end (by omega) ha])
theorem j_allCt (l : List Ct) (f : Pos) (first caps : List D) (p : Ct → Bool) (h1 : PuL first) (h2 : PuL caps) (hl : l.length ≤ 1000) (hf : ∀ c ∈ l, PureF Try.prog f.ix (first ++ ([.ag [.i .i64 c.a, .i .i64 c.lo, .i .i64 c.hi]] ++ caps)) (.b (p c))) : PureF Try.prog p110.ix [.lst 3 (rows ctD l), .fn f first caps] (.b (l.all p)) := by
  have e1 := rows_length ctD l
  refine PureF.run fn109 (by simp) (by simp [PuL, PuE, Pu, pu_ints, pu_ct, h1, h2]) ?_; conv => whnf
  repeat' first | ((first | with_reducible (first | apply Qt | apply Qu) | refine Qa rfl ?_ | refine Qk rfl ?_ | refine Qb ?_ | refine Qc ?_ | refine Qi ?_ | refine Qj ?_) <;> conv => whnf)
  refine Rn.loop (fun j : Nat => ⟨(.n (.n (.n (.n .e (some (.lst 3 (rows ctD l))) .e) none .e) (some (.fn f first caps)) (.n (.n .e (some (.i .i64 (j : Int))) .e) none .e)) none (.n (.n (.n .e (some (.i .i64 ((rows ctD l).length : Int))) .e) none .e) none .e)), .e, .h, none⟩) (fun j => j ≤ l.length ∧ (l.take j).all p = true) (fun j => l.length - j) 0 ?_ ?_ ?_
  · (first | (refine X.le.mk ?_ ?_ (Nat.le_refl _) rfl rfl) | skip) <;> (repeat' first | exact T.le_e _ | refine T.le_some ?_ ?_ ?_ | refine T.le_none ?_ ?_ | rfl)
  · exact ⟨by omega, by simp⟩
  rintro j ⟨hj, ha⟩
  conv => whnf
  repeat' first | ((first | with_reducible (first | apply Qt | apply Qu) | refine Qa rfl ?_ | refine Qk rfl ?_ | refine Qb ?_ | refine Qc ?_ | refine Qi ?_ | refine Qj ?_) <;> conv => whnf)
  refine WB.dec (fun h => ?_) (fun h => ?_) <;> conv => whnf
  · have hlt : j < l.length := by omega
    repeat' first | ((first | with_reducible (first | apply Qt | apply Qu) | refine Qa rfl ?_ | refine Qk rfl ?_ | refine Qb ?_ | refine Qc ?_ | refine Qi ?_ | refine Qj ?_ | refine Qf (hf _ (getD_mem hlt)) ?_) <;> conv => whnf)
    refine WB.mk (fun h => ?_) (fun h => ?_) <;> conv => whnf
    · repeat' first | ((first | with_reducible (first | apply Qt | apply Qu) | refine Qa rfl ?_ | refine Qk rfl ?_ | refine Qb ?_ | refine Qc ?_ | refine Qi ?_ | refine Qj ?_) <;> conv => whnf)
      exact Fin.b rfl (by rw [all_false (d := default) hlt (by simpa using h)])
    · repeat' first | ((first | with_reducible (first | apply Qt | apply Qu) | refine Qa rfl ?_ | refine Qk rfl ?_ | refine Qb ?_ | refine Qc ?_ | refine Qi ?_ | refine Qj ?_) <;> conv => whnf)
      refine Again.to (j + 1) (by omega) ⟨by omega, all_take_succ (d := default) hlt ha (by simpa using h)⟩ (Nat.le_refl _) ?_
      (refine Shr.of ?_ ?_ rfl rfl) <;> (repeat' first | exact Rel.e | refine Rel.some ?_ ?_ ?_ | refine Rel.none ?_ ?_) <;> (try first | (show Fz _ _ _ _; first | exact Fz.pu trivial | (refine Fz.i ?_; first | rfl | omega) | (refine Fz.kpt ?_; (focus (show Pos.nat _ < Pos.nat _; simp [Pos.nat]; done))) | (refine Fz.ksl ?_; (focus (show Pos.nat _ < Pos.nat _; simp [Pos.nat]; done))) | (refine Fz.kmp ?_; (focus (show Pos.nat _ < Pos.nat _; simp [Pos.nat]; done))) | (refine Fz.pu ?_; simp [Cell.d, Pu, PuL, PuE, pu_ints, pu_ln, pu_ct]; done) | (refine Fz.pu ?_; simp only [Cell.d]; assumption)) | (refine RO'.of ?_ (ShC.same ?_); (focus (show Pos.nat _ < Pos.nat _; simp [Pos.nat]; done)); (repeat' first | exact ShC.nl | refine ShC.cn ?_ ?_) <;> first | exact Fz.pu trivial | (refine Fz.i ?_; first | rfl | omega) | (refine Fz.kpt ?_; (focus (show Pos.nat _ < Pos.nat _; simp [Pos.nat]; done))) | (refine Fz.ksl ?_; (focus (show Pos.nat _ < Pos.nat _; simp [Pos.nat]; done))) | (refine Fz.kmp ?_; (focus (show Pos.nat _ < Pos.nat _; simp [Pos.nat]; done))) | (refine Fz.pu ?_; simp [Cell.d, Pu, PuL, PuE, pu_ints, pu_ln, pu_ct]; done) | (refine Fz.pu ?_; simp only [Cell.d]; assumption)))
      all_goals (refine Fz.pu ?_; simp [Pu, h1, h2])
  · repeat' first | ((first | with_reducible (first | apply Qt | apply Qu) | refine Qa rfl ?_ | refine Qk rfl ?_ | refine Qb ?_ | refine Qc ?_ | refine Qi ?_ | refine Qj ?_) <;> conv => whnf)
    exact Fin.b rfl (by rw [all_end (by omega) ha])
def wk6 (n coin box : Int) (ls : List Ln) (cs : List Ct) : List D := [.i .i64 n, .i .i64 coin, .i .i64 box, .lst 3 (rows lnD ls), .lst 3 (rows ctD cs), .any]
theorem pu_wk6 (n coin box : Int) (ls : List Ln) (cs : List Ct) : PuL (wk6 n coin box ls cs) := by simp [wk6, PuL, Pu, pu_ln, pu_ct]
theorem j_begin (n coin box : Int) (ls : List Ln) (cs : List Ct) : PureF Try.prog p75.ix [.ag [.i .i64 n, .i .i64 coin, .i .i64 box, .lst 3 (rows lnD ls), .lst 3 (rows ctD cs)]] (.ag [.i .i64 n, .i .i64 coin, .i .i64 box, .lst 3 (rows lnD ls), .lst 3 (rows ctD cs), .any]) := by
  refine PureF.run fn74 (by simp) (by simp [PuL, PuE, Pu, pu_ints, pu_ln, pu_ct]) ?_; conv => whnf
  repeat' first | ((first | with_reducible (first | apply Qt | apply Qu) | refine Qa rfl ?_ | refine Qk rfl ?_ | refine Qb ?_ | refine Qc ?_ | refine Qi ?_ | refine Qj ?_) <;> conv => whnf)
  exact ⟨.inr rfl, _, rfl, .ag (.cons (.pu trivial) (.cons (.pu trivial) (.cons (.pu trivial) (.cons (.pu (pu_ln _)) (.cons (.pu (pu_ct _)) (.cons .any .nil))))))⟩
theorem j_validLine (n coin box : Int) (ls : List Ln) (cs : List Ct) (hn : 1 ≤ n ∧ n ≤ 4) (l : Ln) : PureF Try.prog p114.ix [.ag [.i .i64 n, .i .i64 coin, .i .i64 box, .lst 3 (rows lnD ls), .lst 3 (rows ctD cs), .any], .ag [.i .i64 l.k, .i .i64 l.c, .i .i64 l.t]] (.b (lnOk n l)) := by
  refine PureF.run fn113 (by simp) (by simp [PuL, PuE, Pu, pu_ints, pu_ln, pu_ct]) ?_; conv => whnf
  repeat' first | ((first | with_reducible (first | apply Qt | apply Qu) | refine Qa rfl ?_ | refine Qk rfl ?_ | refine Qb ?_ | refine Qc ?_ | refine Qi ?_ | refine Qj ?_ | refine Qf (j_has _ _ _) ?_ | with_reducible refine WB.dec (fun h => ?_) (fun h => ?_) | with_reducible refine WB.ndec (fun h => ?_) (fun h => ?_) | refine WB.mk (fun h => ?_) (fun h => ?_)) <;> conv => whnf)
  all_goals exact Fin.b rfl (by unfold lnOk; simp_all)
theorem j_validCount (n coin box : Int) (ls : List Ln) (cs : List Ct) (c : Ct) : PureF Try.prog p115.ix [.ag [.i .i64 n, .i .i64 coin, .i .i64 box, .lst 3 (rows lnD ls), .lst 3 (rows ctD cs), .any], .ag [.i .i64 c.a, .i .i64 c.lo, .i .i64 c.hi]] (.b (ctOk ls.length c)) := by
  have e1 := rows_length lnD ls
  refine PureF.run fn114 (by simp) (by simp [PuL, PuE, Pu, pu_ints, pu_ln, pu_ct]) ?_; conv => whnf
  repeat' first | ((first | with_reducible (first | apply Qt | apply Qu) | refine Qa rfl ?_ | refine Qk rfl ?_ | refine Qb ?_ | refine Qc ?_ | refine Qi ?_ | refine Qj ?_ | refine Qf (j_upTo _ _) ?_ | with_reducible refine WB.dec (fun h => ?_) (fun h => ?_) | with_reducible refine WB.ndec (fun h => ?_) (fun h => ?_) | refine WB.mk (fun h => ?_) (fun h => ?_)) <;> conv => whnf)
  all_goals exact Fin.b rfl (by
    rw [e1] at *
    unfold ctOk
    first | (simp_all [inR]; done) | (simp_all [inR]; omega) | (simp_all [inR]; intros; omega))
theorem j_isValid (n coin box : Int) (ls : List Ln) (cs : List Ct) (hl : ls.length ≤ 1000) (hc : cs.length ≤ 1000) : PureF Try.prog p81.ix [.ag [.i .i64 n, .i .i64 coin, .i .i64 box, .lst 3 (rows lnD ls), .lst 3 (rows ctD cs), .any]] (.b (vldT n coin box ls cs)) := by
  refine PureF.run fn80 (by simp) (by simp [PuL, PuE, Pu, pu_ints, pu_ln, pu_ct]) ?_; conv => whnf
  repeat' first | ((first | with_reducible (first | apply Qt | apply Qu) | refine Qa rfl ?_ | refine Qk rfl ?_ | refine Qb ?_ | refine Qc ?_ | refine Qi ?_ | refine Qj ?_ | refine Qf (j_has _ _ _) ?_ | refine Qf (j_upTo _ _) ?_ | refine Qf (j_allLn ls p114 [.ag [.i .i64 n, .i .i64 coin, .i .i64 box, .lst 3 (rows lnD ls), .lst 3 (rows ctD cs), .any]] [] (lnOk n) (by simp [PuL, Pu, pu_ln, pu_ct]) trivial hl (fun c _ => j_validLine n coin box ls cs (inR_iff.1 (by assumption)) c)) ?_ | refine Qf (j_allCt cs p115 [.ag [.i .i64 n, .i .i64 coin, .i .i64 box, .lst 3 (rows lnD ls), .lst 3 (rows ctD cs), .any]] [] (ctOk ls.length) (by simp [PuL, Pu, pu_ln, pu_ct]) trivial hc (fun c _ => j_validCount n coin box ls cs c)) ?_ | with_reducible refine WB.dec (fun h => ?_) (fun h => ?_) | with_reducible refine WB.ndec (fun h => ?_) (fun h => ?_) | refine WB.mk (fun h => ?_) (fun h => ?_)) <;> conv => whnf)
  all_goals exact Fin.b rfl (by unfold vldT; first | (simp_all; done) | (simp_all; intro hf; obtain ⟨x, hx, hn⟩ := h; rw [hf x hx] at hn; cases hn))
end Go.Ev
namespace Go.Ev
open Go.Proofs
set_option maxRecDepth 100000
theorem j_size (a b : Int) (h1 : -10 ≤ b - a) (h2 : b - a ≤ 10) : PureF Try.prog p117.ix [.ag [.i .i64 a, .i .i64 b]] (.i .i64 (b - a + 1)) := by
  refine PureF.run fn116 (by simp) (by simp [PuL, PuE, Pu, pu_ints, pu_ln, pu_ct]) ?_; conv => whnf
  repeat' first | ((first | with_reducible (first | apply Qt | apply Qu) | refine Qa rfl ?_ | refine Qk rfl ?_ | refine Qb ?_ | refine Qc ?_ | refine Qi ?_ | refine Qj ?_) <;> conv => whnf)
  exact Fin.i rfl rfl
def kLo (l : Ln) : Int := if l.k = 0 then 1 else l.k
def kHi (l : Ln) : Int := if l.k = 0 then 2 else l.k
def cLo (l : Ln) : Int := if l.c = -1 then 0 else l.c
def cHi (n : Int) (l : Ln) : Int := if l.c = -1 then n - 1 else l.c
def tLo (l : Ln) : Int := if l.t = -1 then 0 else l.t
def tHi (n : Int) (l : Ln) : Int := if l.t = -1 then n - 1 else l.t
theorem k_size (l : Ln) : kHi l - kLo l + 1 = szK l := by unfold kHi kLo szK; split <;> omega
theorem c_size (n : Int) (l : Ln) : cHi n l - cLo l + 1 = szC n l := by unfold cHi cLo szC; split <;> omega
theorem t_size (n : Int) (l : Ln) : tHi n l - tLo l + 1 = szT n l := by unfold tHi tLo szT; split <;> omega
theorem sz_bd {n : Int} (hn : 1 ≤ n ∧ n ≤ 4) (l : Ln) : (1 ≤ szK l ∧ szK l ≤ 2) ∧ (1 ≤ szC n l ∧ szC n l ≤ 4) ∧ (1 ≤ szT n l ∧ szT n l ≤ 4) := by
  unfold szK szC szT
  refine ⟨?_, ?_, ?_⟩ <;> split <;> omega
theorem j_signs (n coin box : Int) (ls : List Ln) (cs : List Ct) (hn : 1 ≤ n ∧ n ≤ 4) (l : Ln) : PureF Try.prog p116.ix [.ag [.i .i64 n, .i .i64 coin, .i .i64 box, .lst 3 (rows lnD ls), .lst 3 (rows ctD cs), .any], .ag [.i .i64 l.k, .i .i64 l.c, .i .i64 l.t]] (.tp [.ag [.i .i64 (kLo l), .i .i64 (kHi l)], .ag [.i .i64 (cLo l), .i .i64 (cHi n l)], .ag [.i .i64 (tLo l), .i .i64 (tHi n l)]]) := by
  refine PureF.run fn115 (by simp) (by simp [PuL, PuE, Pu, pu_ints, pu_ln, pu_ct]) ?_; conv => whnf
  unfold kLo kHi cLo cHi tLo tHi
  by_cases h1 : l.k = 0 <;> by_cases h2 : l.c = -1 <;> by_cases h3 : l.t = -1
  all_goals
    repeat' first | ((first | with_reducible (first | apply Qt | apply Qu) | refine Qa rfl ?_ | refine Qk rfl ?_ | refine Qb ?_ | refine Qc ?_ | refine Qi ?_ | refine Qj ?_ | with_reducible (first | refine Qm ?_ | refine Qn ?_ | refine Qo ?_ | refine Qp ?_ | refine WB.nt ?_ | refine WB.nf ?_ | refine WB.dec (fun h => ?_) (fun h => ?_) | refine WB.ndec (fun h => ?_) (fun h => ?_)) | refine WB.mk (fun h => ?_) (fun h => ?_)) <;> conv => whnf)
    refine ⟨.inr rfl, _, rfl, ?_⟩
    simp only [h1, h2, h3, if_true, if_false]
    refine .tp (.cons (.ag (.cons ?_ (.cons ?_ .nil))) (.cons (.ag (.cons ?_ (.cons ?_ .nil))) (.cons (.ag (.cons ?_ (.cons ?_ .nil))) .nil)))
    all_goals exact .pu trivial
theorem j_allReadings (n coin box : Int) (ls : List Ln) (cs : List Ct) (hn : 1 ≤ n ∧ n ≤ 4) (hl : ls.length ≤ 8) : PureF Try.prog p82.ix [.ag [.i .i64 n, .i .i64 coin, .i .i64 box, .lst 3 (rows lnD ls), .lst 3 (rows ctD cs), .any]] (.i .i64 (prodP n ls)) := by
  have e1 := rows_length lnD ls
  refine PureF.run fn81 (by simp) (by simp [PuL, PuE, Pu, pu_ints, pu_ln, pu_ct]) ?_; conv => whnf
  repeat' first | ((first | with_reducible (first | apply Qt | apply Qu) | refine Qa rfl ?_ | refine Qk rfl ?_ | refine Qb ?_ | refine Qc ?_ | refine Qi ?_ | refine Qj ?_) <;> conv => whnf)
  refine Rn.loop (fun j : Nat => ⟨(.n (.n (.n .e (some (.i .i64 (prodP n (ls.take j)))) (.n .e (some (.lst 3 (rows lnD ls))) .e)) (some (.pt .h 0 0)) (.n .e none (.n .e (some (.i .i64 (j : Int))) .e))) none (.n (.n .e none (.n .e (some (.i .i64 ((rows lnD ls).length : Int))) .e)) none .e)), (.n .e (some (.cells false [.o (.i .i64 n) 0, .o (.i .i64 coin) 0, .o (.i .i64 box) 0, .o (.lst 3 (rows lnD ls)) 0, .o (.lst 3 (rows ctD cs)) 0, .o .any 0] 1)) .e), .o .h, none⟩) (fun j => j ≤ ls.length) (fun j => ls.length - j) 0 ?_ ?_ ?_
  · (first | (refine X.le.mk ?_ ?_ (Nat.le_refl _) rfl rfl) | skip) <;> (repeat' first | exact T.le_e _ | refine T.le_some ?_ ?_ ?_ | refine T.le_none ?_ ?_ | rfl)
  · exact Nat.zero_le _
  intro j hj
  have hj : j ≤ ls.length := hj
  conv => whnf
  repeat' first | ((first | with_reducible (first | apply Qt | apply Qu) | refine Qa rfl ?_ | refine Qk rfl ?_ | refine Qb ?_ | refine Qc ?_ | refine Qi ?_ | refine Qj ?_) <;> conv => whnf)
  refine WB.dec (fun h => ?_) (fun h => ?_) <;> conv => whnf
  · have hlt : j < ls.length := by omega
    have hp := (many_prod hn.1 hn.2 (ls.take j)).2
    have hb : prodP n (ls.take j) ≤ 1 * 32 ^ (ls.take j).length := prod_bdG hn.1 hn.2 (ls.take j) 1 1 (by omega) (by omega)
    have hpw : (1 : Int) * 32 ^ (ls.take j).length ≤ 32 ^ 8 := by
      rw [List.length_take, Nat.min_eq_left hj, Int.one_mul]
      exact_mod_cast Nat.pow_le_pow_right (show 0 < 32 by decide) (show j ≤ 8 by omega)
    have hb : prodP n (ls.take j) ≤ 1099511627776 := by
      have : (32 : Int) ^ 8 = 1099511627776 := by decide
      omega
    obtain ⟨s1, s2, s3⟩ := sz_bd hn (ls.getD j default)
    have z1 := k_size (ls.getD j default)
    have z2 := c_size n (ls.getD j default)
    have z3 := t_size n (ls.getD j default)
    have hs : prodP n (ls.take (j + 1)) = prodP n (ls.take j) * (szK (ls.getD j default) * szC n (ls.getD j default) * szT n (ls.getD j default)) := by
      rw [take_succ_getD (d := default) hlt]
      unfold prodP
      rw [List.foldl_append]
      rfl
    have m1 : 1 ≤ szK (ls.getD j default) * szC n (ls.getD j default) ∧ szK (ls.getD j default) * szC n (ls.getD j default) ≤ 8 := by
      constructor
      · exact Int.le_trans (by omega) (Int.mul_le_mul s1.1 s2.1 (by omega) (by omega))
      · exact Int.le_trans (Int.mul_le_mul s1.2 s2.2 (by omega) (by omega)) (by omega)
    have m2 := rdN_bd hn.1 hn.2 (ls.getD j default)
    unfold rdN at m2
    have m3 : 1 ≤ prodP n (ls.take j) * (szK (ls.getD j default) * szC n (ls.getD j default) * szT n (ls.getD j default)) ∧ prodP n (ls.take j) * (szK (ls.getD j default) * szC n (ls.getD j default) * szT n (ls.getD j default)) ≤ 1099511627776 * 32 := by
      constructor
      · exact Int.le_trans (by omega) (Int.mul_le_mul hp m2.1 (by omega) (by omega))
      · exact Int.mul_le_mul hb m2.2 (by omega) (by omega)
    repeat' first | ((first | with_reducible (first | apply Qt | apply Qu) | refine Qa rfl ?_ | refine Qk rfl ?_ | refine Qb ?_ | refine Qc ?_ | refine Qi ?_ | refine Qj ?_ | refine Qf (j_signs n coin box ls cs hn (ls.getD j default)) ?_ | refine Qf (j_size _ _ (by omega) (by omega)) ?_) <;> conv => whnf)
    simp only [z1, z2, z3]
    repeat' first | ((first | with_reducible (first | apply Qt | apply Qu) | refine Qa rfl ?_ | refine Qk rfl ?_ | refine Qb ?_ | refine Qc ?_ | refine Qi ?_ | refine Qj ?_ | refine Qf (j_signs n coin box ls cs hn (ls.getD j default)) ?_ | refine Qf (j_size _ _ (by omega) (by omega)) ?_) <;> conv => whnf)
    simp only [z3]
    repeat' first | ((first | with_reducible (first | apply Qt | apply Qu) | refine Qa rfl ?_ | refine Qk rfl ?_ | refine Qb ?_ | refine Qc ?_ | refine Qi ?_ | refine Qj ?_ | refine Qf (j_signs n coin box ls cs hn (ls.getD j default)) ?_ | refine Qf (j_size _ _ (by omega) (by omega)) ?_) <;> conv => whnf)
    refine Again.to (j + 1) (by omega) (by omega) (Nat.le_refl _) ?_
    rw [hs]
    (refine Shr.of ?_ ?_ rfl rfl) <;> (repeat' first | exact Rel.e | refine Rel.some ?_ ?_ ?_ | refine Rel.none ?_ ?_) <;> (try first | (show Fz _ _ _ _; first | exact Fz.pu trivial | (refine Fz.i ?_; first | rfl | omega) | (refine Fz.kpt ?_; (focus (show Pos.nat _ < Pos.nat _; simp [Pos.nat]; done))) | (refine Fz.ksl ?_; (focus (show Pos.nat _ < Pos.nat _; simp [Pos.nat]; done))) | (refine Fz.kmp ?_; (focus (show Pos.nat _ < Pos.nat _; simp [Pos.nat]; done))) | (refine Fz.pu ?_; simp [Cell.d, Pu, PuL, PuE, pu_ints, pu_ln, pu_ct]; done) | (refine Fz.pu ?_; simp only [Cell.d]; assumption)) | (refine RO'.of ?_ (ShC.same ?_); (focus (show Pos.nat _ < Pos.nat _; simp [Pos.nat]; done)); (repeat' first | exact ShC.nl | refine ShC.cn ?_ ?_) <;> first | exact Fz.pu trivial | (refine Fz.i ?_; first | rfl | omega) | (refine Fz.kpt ?_; (focus (show Pos.nat _ < Pos.nat _; simp [Pos.nat]; done))) | (refine Fz.ksl ?_; (focus (show Pos.nat _ < Pos.nat _; simp [Pos.nat]; done))) | (refine Fz.kmp ?_; (focus (show Pos.nat _ < Pos.nat _; simp [Pos.nat]; done))) | (refine Fz.pu ?_; simp [Cell.d, Pu, PuL, PuE, pu_ints, pu_ln, pu_ct]; done) | (refine Fz.pu ?_; simp only [Cell.d]; assumption)))
  · repeat' first | ((first | with_reducible (first | apply Qt | apply Qu) | refine Qa rfl ?_ | refine Qk rfl ?_ | refine Qb ?_ | refine Qc ?_ | refine Qi ?_ | refine Qj ?_) <;> conv => whnf)
    exact Fin.i rfl (by rw [List.take_of_length_le (by omega)])
theorem j_CheckBook (n coin box : Int) (ls : List Ln) (cs : List Ct) : PureF Try.prog p28.ix [.ag [.i .i64 n, .i .i64 coin, .i .i64 box, .lst 3 (rows lnD ls), .lst 3 (rows ctD cs)]] (.i .i64 (faultT n coin box ls cs)) := by
  have e1 := rows_length lnD ls
  have e2 := rows_length ctD cs
  refine PureF.run fn27 (by simp) (by simp [PuL, PuE, Pu, pu_ints, pu_ln, pu_ct]) ?_; conv => whnf
  by_cases hL : 8 < ls.length ∨ 4 < cs.length
  · repeat' first | ((first | with_reducible (first | apply Qt | apply Qu) | refine Qa rfl ?_ | refine Qk rfl ?_ | refine Qb ?_ | refine Qc ?_ | refine Qi ?_ | refine Qj ?_ | refine Qf (j_begin n coin box ls cs) ?_ | with_reducible (first | refine Qm ?_ | refine Qn ?_ | refine Qo ?_ | refine Qp ?_ | refine WB.nt ?_ | refine WB.nf ?_ | refine WB.dec (fun h => ?_) (fun h => ?_) | refine WB.ndec (fun h => ?_) (fun h => ?_)) | refine WB.mk (fun h => ?_) (fun h => ?_)) <;> conv => whnf)
    all_goals first
      | (exfalso; omega)
      | exact Fin.i rfl (by unfold faultT; rw [if_pos hL])
  · by_cases hv : vldT n coin box ls cs = true
    · have hn : 1 ≤ n ∧ n ≤ 4 := by
        unfold vldT at hv
        simp only [Bool.and_eq_true] at hv
        exact inR_iff.1 hv.1
      have c1 := j_isValid n coin box ls cs (by omega) (by omega)
      rw [hv] at c1
      have c2 := j_allReadings n coin box ls cs hn (by omega)
      have hm := (many_prod hn.1 hn.2 ls).1
      repeat' first | ((first | with_reducible (first | apply Qt | apply Qu) | refine Qa rfl ?_ | refine Qk rfl ?_ | refine Qb ?_ | refine Qc ?_ | refine Qi ?_ | refine Qj ?_ | refine Qf (j_begin n coin box ls cs) ?_ | refine Qf (c1) ?_ | refine Qf (c2) ?_ | with_reducible (first | refine Qm ?_ | refine Qn ?_ | refine Qo ?_ | refine Qp ?_ | refine WB.nt ?_ | refine WB.nf ?_ | refine WB.dec (fun h => ?_) (fun h => ?_) | refine WB.ndec (fun h => ?_) (fun h => ?_)) | refine WB.mk (fun h => ?_) (fun h => ?_)) <;> conv => whnf)
      all_goals first
        | (exfalso; omega)
        | exact Fin.i rfl (by unfold faultT; rw [if_neg hL, if_pos hv]; first | rw [if_pos (by omega)] | rw [if_neg (by omega)])
    · have hv' : vldT n coin box ls cs = false := by simpa using hv
      have c1 := j_isValid n coin box ls cs (by omega) (by omega)
      rw [hv'] at c1
      repeat' first | ((first | with_reducible (first | apply Qt | apply Qu) | refine Qa rfl ?_ | refine Qk rfl ?_ | refine Qb ?_ | refine Qc ?_ | refine Qi ?_ | refine Qj ?_ | refine Qf (j_begin n coin box ls cs) ?_ | refine Qf (c1) ?_ | with_reducible (first | refine Qm ?_ | refine Qn ?_ | refine Qo ?_ | refine Qp ?_ | refine WB.nt ?_ | refine WB.nf ?_ | refine WB.dec (fun h => ?_) (fun h => ?_) | refine WB.ndec (fun h => ?_) (fun h => ?_)) | refine WB.mk (fun h => ?_) (fun h => ?_)) <;> conv => whnf)
      all_goals first
        | (exfalso; omega)
        | exact Fin.i rfl (by unfold faultT; rw [if_neg hL, if_neg hv])
theorem j_agr (m : Mo) (c : Ct) : PureF Try.prog p111.ix [.ag (moD m), .ag [.i .i64 c.a, .i .i64 c.lo, .i .i64 c.hi]] (.b (!decide (c.a = m.n) || inR m.box c.lo c.hi)) := by
  unfold moD
  refine PureF.run fn110 (by simp) (by simp [PuL, PuE, Pu, pu_ints, pu_ln, pu_ct]) ?_; conv => whnf
  by_cases h : c.a = m.n
  · repeat' first | ((first | with_reducible (first | apply Qt | apply Qu) | refine Qa rfl ?_ | refine Qk rfl ?_ | refine Qb ?_ | refine Qc ?_ | refine Qi ?_ | refine Qj ?_ | refine Qf (j_has _ _ _) ?_ | with_reducible (first | refine Qm ?_ | refine Qn ?_ | refine Qo ?_ | refine Qp ?_ | refine WB.nt ?_ | refine WB.nf ?_ | refine WB.dec (fun h => ?_) (fun h => ?_) | refine WB.ndec (fun h => ?_) (fun h => ?_)) | refine WB.mk (fun h => ?_) (fun h => ?_)) <;> conv => whnf)
    all_goals exact Fin.b rfl (by simp [h])
  · repeat' first | ((first | with_reducible (first | apply Qt | apply Qu) | refine Qa rfl ?_ | refine Qk rfl ?_ | refine Qb ?_ | refine Qc ?_ | refine Qi ?_ | refine Qj ?_ | refine Qf (j_has _ _ _) ?_ | with_reducible (first | refine Qm ?_ | refine Qn ?_ | refine Qo ?_ | refine Qp ?_ | refine WB.nt ?_ | refine WB.nf ?_ | refine WB.dec (fun h => ?_) (fun h => ?_) | refine WB.ndec (fun h => ?_) (fun h => ?_)) | refine WB.mk (fun h => ?_) (fun h => ?_)) <;> conv => whnf)
    all_goals exact Fin.b rfl (by simp [h])
theorem j_mixed (m : Mo) : PureF Try.prog p78.ix [.ag (moD m)] (.i .i64 m.mix) := by
  unfold moD
  refine PureF.run fn77 (by simp) (by simp [PuL, PuE, Pu, pu_ints, pu_ln, pu_ct]) ?_; conv => whnf
  repeat' first | ((first | with_reducible (first | apply Qt | apply Qu) | refine Qa rfl ?_ | refine Qk rfl ?_ | refine Qb ?_ | refine Qc ?_ | refine Qi ?_ | refine Qj ?_) <;> conv => whnf)
  exact Fin.i rfl rfl
theorem j_opening (n coin box : Int) (ls : List Ln) (cs : List Ct) (T : List Ln) : PureF Try.prog p105.ix [.ag [.i .i64 n, .i .i64 coin, .i .i64 box, .lst 3 (rows lnD ls), .lst 3 (rows ctD cs), .any]] (.ag (moD (moR box coin T 0))) := by
  refine PureF.run fn104 (by simp) (by simp [PuL, PuE, Pu, pu_ints, pu_ln, pu_ct]) ?_; conv => whnf
  repeat' first | ((first | with_reducible (first | apply Qt | apply Qu) | refine Qa rfl ?_ | refine Qk rfl ?_ | refine Qb ?_ | refine Qc ?_ | refine Qi ?_ | refine Qj ?_) <;> conv => whnf)
  refine ⟨.inr rfl, _, rfl, .ag ?_⟩
  unfold moD
  repeat' first | exact FzL.nil | refine FzL.cons ?_ ?_
  all_goals exact Fz.i rfl
end Go.Ev