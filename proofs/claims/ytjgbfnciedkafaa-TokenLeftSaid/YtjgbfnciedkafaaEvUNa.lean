import Derived.Test.YtjgbfnciedkafaaEvUN6
set_option linter.all false
namespace Go.Ev
open Go.Proofs
set_option maxRecDepth 100000
theorem befR_drop {A B : List Int} : ∀ j, j < A.length → j < B.length → befR (A.drop j) (B.drop j) = if A.getD j 0 = B.getD j 0 then befR (A.drop (j + 1)) (B.drop (j + 1)) else decide (A.getD j 0 < B.getD j 0) := fun j h1 h2 => by
  rw [List.drop_eq_getElem_cons h1, List.drop_eq_getElem_cons h2]
  simp [befR, List.getD, h1, h2]
theorem befR_end {A B : List Int} {j : Nat} (h : ¬ (j < A.length ∧ j < B.length)) (hA : j ≤ A.length) (hB : j ≤ B.length) : befR (A.drop j) (B.drop j) = decide (A.length < B.length) := by
  by_cases h1 : j < A.length
  · have h2 : ¬ j < B.length := fun k => h ⟨h1, k⟩
    rw [List.drop_eq_getElem_cons h1, List.drop_eq_nil_of_le (show B.length ≤ j by omega), decide_eq_false (by omega)]
    rfl
  · rw [List.drop_eq_nil_of_le (show A.length ≤ j by omega)]
    by_cases h2 : j < B.length
    · rw [List.drop_eq_getElem_cons h2, decide_eq_true (by omega)]
      rfl
    · rw [List.drop_eq_nil_of_le (show B.length ≤ j by omega), decide_eq_false (by omega)]
      rfl
theorem j_Before (A B : List Int) (hA : A.length ≤ 1000) (hB : B.length ≤ 1000) : PureF Try.prog p99.ix [.lst 1 (ints A), .lst 1 (ints B)] (.b (befR A B)) := by
  have e1 := ints_length A
  have e2 := ints_length B
  refine PureF.run fn98 (by simp) (by simp [PuL, PuE, Pu, pu_ints]) ?_; conv => whnf
  repeat' first | ((first | with_reducible (first | apply Qt | apply Qu) | refine Qa rfl ?_ | refine Qk rfl ?_ | refine Qb ?_ | refine Qc ?_ | refine Qi ?_ | refine Qj ?_) <;> conv => whnf)
  refine Rn.loop (fun j : Nat => ⟨(.n (.n .e (some (.lst 1 (ints B))) (.n .e (some (.i .i64 (j : Int))) .e)) (some (.lst 1 (ints A))) .e), .e, .h, none⟩) (fun j => j ≤ A.length ∧ j ≤ B.length ∧ befR (A.drop j) (B.drop j) = befR A B) (fun j => A.length - j) 0 ?_ ?_ ?_
  · (first | (refine X.le.mk ?_ ?_ (Nat.le_refl _) rfl rfl) | skip) <;> (repeat' first | exact T.le_e _ | refine T.le_some ?_ ?_ ?_ | refine T.le_none ?_ ?_ | rfl)
  · exact ⟨Nat.zero_le _, Nat.zero_le _, rfl⟩
  rintro j ⟨hj, hk, ha⟩
  have hj : j ≤ A.length := hj
  have hk : j ≤ B.length := hk
  conv => whnf
  by_cases hlt : j < A.length ∧ j < B.length
  · obtain ⟨h1, h2⟩ := hlt
    have hd := befR_drop (A := A) (B := B) j h1 h2
    by_cases hx : A.getD j 0 = B.getD j 0
    · rw [if_pos hx] at hd
      repeat' first | ((first | with_reducible (first | apply Qt | apply Qu) | refine Qa rfl ?_ | refine Qk rfl ?_ | refine Qb ?_ | refine Qc ?_ | refine Qi ?_ | refine Qj ?_ | refine Qf (e1) ?_ | with_reducible (first | refine Qm ?_ | refine Qn ?_ | refine Qo ?_ | refine Qp ?_ | refine WB.nt ?_ | refine WB.nf ?_ | refine WB.dec (fun h => ?_) (fun h => ?_) | refine WB.ndec (fun h => ?_) (fun h => ?_)) | refine WB.mk (fun h => ?_) (fun h => ?_)) <;> conv => whnf) | (refine WB.tt ?_; conv => whnf) | (refine WB.ff ?_; conv => whnf)
      refine Again.to (j + 1) (by omega) ⟨by omega, by omega, by rw [← hd]; exact ha⟩ (Nat.le_refl _) ?_
      (refine Shr.of ?_ ?_ rfl rfl) <;> (repeat' first | exact Rel.e | refine Rel.some ?_ ?_ ?_ | refine Rel.none ?_ ?_) <;> (try first | (show Fz _ _ _ _; first | exact Fz.pu trivial | (refine Fz.i ?_; first | rfl | omega) | (refine Fz.kpt ?_; (focus (show Pos.nat _ < Pos.nat _; simp [Pos.nat]; done))) | (refine Fz.ksl ?_; (focus (show Pos.nat _ < Pos.nat _; simp [Pos.nat]; done))) | (refine Fz.kmp ?_; (focus (show Pos.nat _ < Pos.nat _; simp [Pos.nat]; done))) | (refine Fz.pu ?_; simp [Cell.d, Pu, PuL, PuE, pu_ints, pu_ln, pu_ct]; done) | (refine Fz.pu ?_; simp only [Cell.d]; assumption)) | (refine RO'.of ?_ (ShC.same ?_); (focus (show Pos.nat _ < Pos.nat _; simp [Pos.nat]; done)); (repeat' first | exact ShC.nl | refine ShC.cn ?_ ?_) <;> first | exact Fz.pu trivial | (refine Fz.i ?_; first | rfl | omega) | (refine Fz.kpt ?_; (focus (show Pos.nat _ < Pos.nat _; simp [Pos.nat]; done))) | (refine Fz.ksl ?_; (focus (show Pos.nat _ < Pos.nat _; simp [Pos.nat]; done))) | (refine Fz.kmp ?_; (focus (show Pos.nat _ < Pos.nat _; simp [Pos.nat]; done))) | (refine Fz.pu ?_; simp [Cell.d, Pu, PuL, PuE, pu_ints, pu_ln, pu_ct]; done) | (refine Fz.pu ?_; simp only [Cell.d]; assumption)))
      all_goals first | (refine Fz.i ?_; omega) | (refine Fz.pu ?_; simp [Pu, pu_ints])
    · rw [if_neg hx] at hd
      repeat' first | ((first | with_reducible (first | apply Qt | apply Qu) | refine Qa rfl ?_ | refine Qk rfl ?_ | refine Qb ?_ | refine Qc ?_ | refine Qi ?_ | refine Qj ?_ | refine Qf (e1) ?_ | with_reducible (first | refine Qm ?_ | refine Qn ?_ | refine Qo ?_ | refine Qp ?_ | refine WB.nt ?_ | refine WB.nf ?_ | refine WB.dec (fun h => ?_) (fun h => ?_) | refine WB.ndec (fun h => ?_) (fun h => ?_)) | refine WB.mk (fun h => ?_) (fun h => ?_)) <;> conv => whnf) | (refine WB.tt ?_; conv => whnf) | (refine WB.ff ?_; conv => whnf)
      exact Fin.b rfl (hd.symm.trans ha)
  · have hd := befR_end hlt hj hk
    rw [← ha, hd]
    by_cases h1 : j < A.length
    · have h2 : ¬ j < B.length := fun k => hlt ⟨h1, k⟩
      repeat' first | ((first | with_reducible (first | apply Qt | apply Qu) | refine Qa rfl ?_ | refine Qk rfl ?_ | refine Qb ?_ | refine Qc ?_ | refine Qi ?_ | refine Qj ?_ | refine Qf (e1) ?_ | with_reducible (first | refine Qm ?_ | refine Qn ?_ | refine Qo ?_ | refine Qp ?_ | refine WB.nt ?_ | refine WB.nf ?_ | refine WB.dec (fun h => ?_) (fun h => ?_) | refine WB.ndec (fun h => ?_) (fun h => ?_)) | refine WB.mk (fun h => ?_) (fun h => ?_)) <;> conv => whnf) | (refine WB.tt ?_; conv => whnf) | (refine WB.ff ?_; conv => whnf)
      exact Fin.b rfl (by congr 1; apply propext; omega)
    · repeat' first | ((first | with_reducible (first | apply Qt | apply Qu) | refine Qa rfl ?_ | refine Qk rfl ?_ | refine Qb ?_ | refine Qc ?_ | refine Qi ?_ | refine Qj ?_ | refine Qf (e1) ?_ | with_reducible (first | refine Qm ?_ | refine Qn ?_ | refine Qo ?_ | refine Qp ?_ | refine WB.nt ?_ | refine WB.nf ?_ | refine WB.dec (fun h => ?_) (fun h => ?_) | refine WB.ndec (fun h => ?_) (fun h => ?_)) | refine WB.mk (fun h => ?_) (fun h => ?_)) <;> conv => whnf) | (refine WB.tt ?_; conv => whnf) | (refine WB.ff ?_; conv => whnf)
      exact Fin.b rfl (by congr 1; apply propext; omega)
theorem j_Shorter (A B : List Int) (hA : A.length ≤ 1000) (hB : B.length ≤ 1000) : PureF Try.prog p67.ix [.lst 1 (ints A), .lst 1 (ints B)] (.b (shoR A B)) := by
  have e1 := ints_length A
  have e2 := ints_length B
  have cB := j_Before A B hA hB
  unfold shoR
  refine PureF.run fn66 (by simp) (by simp [PuL, PuE, Pu, pu_ints]) ?_; conv => whnf
  by_cases h1 : A.length < B.length
  · rw [decide_eq_true h1, Bool.true_or]
    repeat' first | ((first | with_reducible (first | apply Qt | apply Qu) | refine Qa rfl ?_ | refine Qk rfl ?_ | refine Qb ?_ | refine Qc ?_ | refine Qi ?_ | refine Qj ?_ | refine Qf (cB) ?_ | with_reducible (first | refine Qm ?_ | refine Qn ?_ | refine Qo ?_ | refine Qp ?_ | refine WB.nt ?_ | refine WB.nf ?_ | refine WB.dec (fun h => ?_) (fun h => ?_) | refine WB.ndec (fun h => ?_) (fun h => ?_)) | refine WB.mk (fun h => ?_) (fun h => ?_)) <;> conv => whnf) | (refine WB.tt ?_; conv => whnf) | (refine WB.ff ?_; conv => whnf)
    exact Fin.b rfl rfl
  · rw [decide_eq_false h1, Bool.false_or]
    by_cases h2 : A.length = B.length
    · rw [decide_eq_true h2, Bool.true_and]
      repeat' first | ((first | with_reducible (first | apply Qt | apply Qu) | refine Qa rfl ?_ | refine Qk rfl ?_ | refine Qb ?_ | refine Qc ?_ | refine Qi ?_ | refine Qj ?_ | refine Qf (cB) ?_ | with_reducible (first | refine Qm ?_ | refine Qn ?_ | refine Qo ?_ | refine Qp ?_ | refine WB.nt ?_ | refine WB.nf ?_ | refine WB.dec (fun h => ?_) (fun h => ?_) | refine WB.ndec (fun h => ?_) (fun h => ?_)) | refine WB.mk (fun h => ?_) (fun h => ?_)) <;> conv => whnf) | (refine WB.tt ?_; conv => whnf) | (refine WB.ff ?_; conv => whnf)
      exact Fin.b rfl rfl
    · rw [decide_eq_false h2, Bool.false_and]
      repeat' first | ((first | with_reducible (first | apply Qt | apply Qu) | refine Qa rfl ?_ | refine Qk rfl ?_ | refine Qb ?_ | refine Qc ?_ | refine Qi ?_ | refine Qj ?_ | refine Qf (cB) ?_ | with_reducible (first | refine Qm ?_ | refine Qn ?_ | refine Qo ?_ | refine Qp ?_ | refine WB.nt ?_ | refine WB.nf ?_ | refine WB.dec (fun h => ?_) (fun h => ?_) | refine WB.ndec (fun h => ?_) (fun h => ?_)) | refine WB.mk (fun h => ?_) (fun h => ?_)) <;> conv => whnf) | (refine WB.tt ?_; conv => whnf) | (refine WB.ff ?_; conv => whnf)
      exact Fin.b rfl rfl
theorem bitJ_succ (b j : Nat) : bitJ b (j + 1) = if b / 2 ^ j % 2 = 1 then bitJ b j ++ [(j : Int)] else bitJ b j := by
  unfold bitJ
  rw [List.range_succ, List.filter_append, List.map_append]
  have e : b.testBit j = decide (b / 2 ^ j % 2 = 1) := Nat.testBit_eq_decide_div_mod_eq
  by_cases h : b / 2 ^ j % 2 = 1
  · rw [if_pos h]
    simp [e, h]
  · rw [if_neg h]
    simp [e, h]
theorem bitJ_end {b j : Nat} (hj : j ≤ 8) (h : b / 2 ^ j = 0) : bitJ b j = bitL b := by
  have hb : b < 2 ^ j := by
    have := Nat.div_eq_zero_iff.1 h
    rcases this with h | h
    · exact absurd h (by have := Nat.one_le_two_pow (n := j); omega)
    · exact h
  unfold bitL
  have key : ∀ d, j + d ≤ 8 → bitJ b (j + d) = bitJ b j := fun d => by
    induction d with
    | zero => exact fun _ => rfl
    | succ d ih =>
      intro hd
      rw [← Nat.add_assoc, bitJ_succ, ih (by omega)]
      have hz : b / 2 ^ (j + d) = 0 := Nat.div_eq_of_lt (Nat.lt_of_lt_of_le hb (Nat.pow_le_pow_right (by omega) (by omega)))
      rw [hz, if_neg (by decide)]
  have := key (8 - j) (by omega)
  rw [show j + (8 - j) = 8 by omega] at this
  exact this.symm
theorem bitJ_len (b j : Nat) : (bitJ b j).length ≤ j := by
  unfold bitJ
  rw [List.length_map]
  have := List.length_filter_le (fun p => b.testBit p) (List.range j)
  rw [List.length_range] at this
  exact this
def biS (b : Nat) (A : List Int) (j : Nat) : X := ⟨(.n (.n (.n .e (some (slE A)) .e) none .e) (some (.i .i64 (b : Int))) (.n (.n .e (some (.i .i64 (j : Int))) .e) none .e)), .n (.n .e (blE A) .e) none .e, nxE A, none⟩
theorem j_Bits (b : Nat) (hb : b ≤ 255) : PureF Try.prog p68.ix [.i .i64 (b : Int)] (.lst 1 (ints (bitL b))) := by
  refine PureF.run fn67 (by simp) (by simp [PuL, PuE, Pu]) ?_; conv => whnf
  repeat' first | ((first | with_reducible (first | apply Qt | apply Qu) | refine Qa rfl ?_ | refine Qk rfl ?_ | refine Qb ?_ | refine Qc ?_ | refine Qi ?_ | refine Qj ?_) <;> conv => whnf)
  refine Rn.loop (fun j : Nat => biS b (bitJ b j) j) (fun j => j ≤ 8 ∧ True) (fun j => 8 - j) 0 ?_ ?_ ?_
  · refine X.le.mk ?_ ?_ (Nat.le_refl _) rfl rfl
    · show T.le ((.n (.n (.n .e (some (.ns)) .e) none .e) (some (.i .i64 (b : Int))) (.n (.n .e (some (.i .i64 ((0 : Nat) : Int))) .e) none .e)) : T D) _
      (repeat' first | exact T.le_e _ | refine T.le_some ?_ rfl ?_ | refine T.le_none ?_ ?_)
    · show T.le (.n (.n .e none .e) none .e) _
      (repeat' first | exact T.le_e _ | refine T.le_some ?_ rfl ?_ | refine T.le_none ?_ ?_ | refine T.le_ee ?_ ?_)
  · exact ⟨Nat.zero_le _, trivial⟩
  rintro j ⟨hj, _⟩
  have hsc := bitJ_succ b j
  have hAl := bitJ_len b j
  have hdl : b / 2 ^ j ≤ 255 := Nat.le_trans (Nat.div_le_self _ _) hb
  have hend : b / 2 ^ j = 0 → bitJ b j = bitL b := fun h => bitJ_end hj h
  have h10 : 0 < b / 2 ^ j → j < 8 := fun h => by
    rcases Nat.lt_or_ge j 8 with h2 | h2
    · exact h2
    · have e : j = 8 := by omega
      subst e
      rw [Nat.div_eq_of_lt (show b < 2 ^ 8 by omega)] at h
      omega
  generalize hA : bitJ b j = A at *
  conv => whnf
  repeat' first | ((first | with_reducible (first | apply Qt | apply Qu) | refine Qa rfl ?_ | refine Qk rfl ?_ | refine Qb ?_ | refine Qc ?_ | refine Qi ?_ | refine Qj ?_) <;> conv => whnf)
  refine And.intro (InR.u64 (by omega) (by omega)) ?_; conv => whnf
  repeat' first | ((first | with_reducible (first | apply Qt | apply Qu) | refine Qa rfl ?_ | refine Qk rfl ?_ | refine Qb ?_ | refine Qc ?_ | refine Qi ?_ | refine Qj ?_) <;> conv => whnf)
  refine WSt.shrN (a := b) (by rfl) (by rfl) (by omega) (by omega) ?_; conv => whnf
  repeat' first | ((first | with_reducible (first | apply Qt | apply Qu) | refine Qa rfl ?_ | refine Qk rfl ?_ | refine Qb ?_ | refine Qc ?_ | refine Qi ?_ | refine Qj ?_) <;> conv => whnf)
  refine WB.dec (fun h => ?_) (fun h => ?_) <;> conv => whnf
  · have hpos : 0 < b / 2 ^ j := by omega
    have hlt := h10 hpos
    repeat' first | ((first | with_reducible (first | apply Qt | apply Qu) | refine Qa rfl ?_ | refine Qk rfl ?_ | refine Qb ?_ | refine Qc ?_ | refine Qi ?_ | refine Qj ?_) <;> conv => whnf)
    refine And.intro (InR.u64 (by omega) (by omega)) ?_; conv => whnf
    repeat' first | ((first | with_reducible (first | apply Qt | apply Qu) | refine Qa rfl ?_ | refine Qk rfl ?_ | refine Qb ?_ | refine Qc ?_ | refine Qi ?_ | refine Qj ?_) <;> conv => whnf)
    refine WSt.shrN (a := b) (by rfl) (by rfl) (by omega) (by omega) ?_; conv => whnf
    have hrem : ((b / 2 ^ j : Nat) : Int).tmod 2 = ((b / 2 ^ j % 2 : Nat) : Int) := by
      rw [Int.tmod_eq_emod_of_nonneg (by omega)]
      rfl
    repeat' first | ((first | with_reducible (first | apply Qt | apply Qu) | refine Qa rfl ?_ | refine Qk rfl ?_ | refine Qb ?_ | refine Qc ?_ | refine Qi ?_ | refine Qj ?_) <;> conv => whnf)
    rw [hrem]
    by_cases hx : b / 2 ^ j % 2 = 1
    · rw [if_pos hx] at hsc
      refine WB.decT (by omega) ?_; conv => whnf
      cases A with
      | nil =>
        repeat' first | ((first | with_reducible (first | apply Qt | apply Qu) | refine Qa rfl ?_ | refine Qk rfl ?_ | refine Qb ?_ | refine Qc ?_ | refine Qi ?_ | refine Qj ?_) <;> conv => whnf)
        refine WSt.app_first (r := [_]) rfl (.inl rfl) rfl rfl rfl rfl ?_; conv => whnf
        repeat' first | ((first | with_reducible (first | apply Qt | apply Qu) | refine Qa rfl ?_ | refine Qk rfl ?_ | refine Qb ?_ | refine Qc ?_ | refine Qi ?_ | refine Qj ?_) <;> conv => whnf)
        refine Again.to (j + 1) (by omega) ⟨by omega, trivial⟩ (by show (nxE (bitJ b j)).nat ≤ (nxE (bitJ b (j + 1))).nat; rw [hA, hsc]; exact (show 1 ≤ 3 by omega)) ?_
        show Shr _ (biS b (bitJ b (j + 1)) (j + 1))
        rw [hsc]
        refine Shr.of ?_ ?_ rfl rfl
        · show Rel _ _ ((.n (.n (.n .e (some ((.sl (.o .h) 0 1 0 1))) .e) none .e) (some (.i .i64 (b : Int))) (.n (.n .e (some (.i .i64 ((j + 1 : Nat) : Int))) .e) none .e)) : T D) _
          skip
          (repeat' first | exact Rel.e | refine Rel.some ?_ ?_ ?_ | refine Rel.none ?_ ?_ | refine Rel.ee ?_ ?_)
          all_goals show Fz _ _ _ _
          all_goals first | exact .pu trivial | exact .ksl (show _ < 3 by simp [Pos.nat])
        · show Rel _ _ (.n (.n .e (some (C.cells false ((nD [(j : Int)]).map fun d => Cell.o d 0) 1)) .e) none .e) _
          skip
          (repeat' first | exact Rel.e | refine Rel.some ?_ ?_ ?_ | refine Rel.none ?_ ?_ | refine Rel.ee ?_ ?_)
          exact RO'.of (show _ < 3 by simp [Pos.nat]) (ShC.same (ShC.cn (.pu trivial) ShC.nl))
      | cons a s =>
        have hs5 : s.length + 1 ≤ 8 := Nat.le_trans hAl hj
        repeat' first | ((first | with_reducible (first | apply Qt | apply Qu) | refine Qa rfl ?_ | refine Qk rfl ?_ | refine Qb ?_ | refine Qc ?_ | refine Qi ?_ | refine Qj ?_) <;> conv => whnf)
        refine WSt.app_one (ds := nD (a :: s)) (r := [_]) rfl rfl rfl rfl rfl rfl (by simp [nD]) rfl rfl (by omega) rfl ?_; conv => whnf
        repeat' first | ((first | with_reducible (first | apply Qt | apply Qu) | refine Qa rfl ?_ | refine Qk rfl ?_ | refine Qb ?_ | refine Qc ?_ | refine Qi ?_ | refine Qj ?_) <;> conv => whnf)
        refine Again.to (j + 1) (by omega) ⟨by omega, trivial⟩ (by show (nxE (bitJ b j)).nat ≤ (nxE (bitJ b (j + 1))).nat; rw [hA, hsc, List.cons_append]; exact (show 3 ≤ 3 by omega)) ?_
        show Shr _ (biS b (bitJ b (j + 1)) (j + 1))
        rw [hsc, List.cons_append]
        refine Shr.of ?_ ?_ rfl rfl
        · show Rel _ _ ((.n (.n (.n .e (some ((slE (a :: (s ++ [(j : Int)]))))) .e) none .e) (some (.i .i64 (b : Int))) (.n (.n .e (some (.i .i64 ((j + 1 : Nat) : Int))) .e) none .e)) : T D) _
          rw [slE_snoc]
          (repeat' first | exact Rel.e | refine Rel.some ?_ ?_ ?_ | refine Rel.none ?_ ?_ | refine Rel.ee ?_ ?_)
          all_goals show Fz _ _ _ _
          all_goals first | exact .pu trivial | exact .ksl (show _ < 3 by simp [Pos.nat])
        · show Rel _ _ (.n (.n .e (blE (a :: (s ++ [(j : Int)]))) .e) none .e) _
          rw [blE_snoc]
          (repeat' first | exact Rel.e | refine Rel.some ?_ ?_ ?_ | refine Rel.none ?_ ?_ | refine Rel.ee ?_ ?_)
          exact RO'.of (show _ < 3 by simp [Pos.nat]) (ShC.grown (by omega) (PuL_iff.2 fun d hd => by
            rcases List.mem_append.1 hd with hd | hd
            · exact PuL_iff.1 (pu_nD _) d hd
            · simp at hd; subst hd; exact trivial))
    · rw [if_neg hx] at hsc
      refine WB.decF (by omega) ?_; conv => whnf
      cases A with
      | nil =>
        repeat' first | ((first | with_reducible (first | apply Qt | apply Qu) | refine Qa rfl ?_ | refine Qk rfl ?_ | refine Qb ?_ | refine Qc ?_ | refine Qi ?_ | refine Qj ?_) <;> conv => whnf)
        refine Again.to (j + 1) (by omega) ⟨by omega, trivial⟩ (by show (nxE (bitJ b j)).nat ≤ (nxE (bitJ b (j + 1))).nat; rw [hA, hsc]; exact (show 1 ≤ 1 by omega)) ?_
        show Shr _ (biS b (bitJ b (j + 1)) (j + 1))
        rw [hsc]
        refine Shr.of ?_ ?_ rfl rfl
        · show Rel _ _ ((.n (.n (.n .e (some (.ns)) .e) none .e) (some (.i .i64 (b : Int))) (.n (.n .e (some (.i .i64 ((j + 1 : Nat) : Int))) .e) none .e)) : T D) _
          skip
          (repeat' first | exact Rel.e | refine Rel.some ?_ ?_ ?_ | refine Rel.none ?_ ?_ | refine Rel.ee ?_ ?_)
          all_goals show Fz _ _ _ _
          all_goals first | exact .pu trivial | exact .ksl (show _ < 3 by simp [Pos.nat])
        · show Rel _ _ (.n (.n .e none .e) none .e) _
          skip
          (repeat' first | exact Rel.e | refine Rel.some ?_ ?_ ?_ | refine Rel.none ?_ ?_ | refine Rel.ee ?_ ?_)
          skip
      | cons a s =>
        repeat' first | ((first | with_reducible (first | apply Qt | apply Qu) | refine Qa rfl ?_ | refine Qk rfl ?_ | refine Qb ?_ | refine Qc ?_ | refine Qi ?_ | refine Qj ?_) <;> conv => whnf)
        refine Again.to (j + 1) (by omega) ⟨by omega, trivial⟩ (by show (nxE (bitJ b j)).nat ≤ (nxE (bitJ b (j + 1))).nat; rw [hA, hsc]; exact (show 3 ≤ 3 by omega)) ?_
        show Shr _ (biS b (bitJ b (j + 1)) (j + 1))
        rw [hsc]
        refine Shr.of ?_ ?_ rfl rfl
        · show Rel _ _ ((.n (.n (.n .e (some ((.sl (.o .h) 0 (s.length + 1) s.length 1))) .e) none .e) (some (.i .i64 (b : Int))) (.n (.n .e (some (.i .i64 ((j + 1 : Nat) : Int))) .e) none .e)) : T D) _
          skip
          (repeat' first | exact Rel.e | refine Rel.some ?_ ?_ ?_ | refine Rel.none ?_ ?_ | refine Rel.ee ?_ ?_)
          all_goals show Fz _ _ _ _
          all_goals first | exact .pu trivial | exact .ksl (show _ < 3 by simp [Pos.nat])
        · show Rel _ _ (.n (.n .e (some (C.cells false ((nD (a :: s)).map fun d => Cell.o d s.length) (s.length + 1))) .e) none .e) _
          skip
          (repeat' first | exact Rel.e | refine Rel.some ?_ ?_ ?_ | refine Rel.none ?_ ?_ | refine Rel.ee ?_ ?_)
          exact RO'.of (show _ < 3 by simp [Pos.nat]) (ShC.same fun c hc => by
            obtain ⟨d, hd, rfl⟩ := List.mem_map.1 hc
            exact .pu (PuL_iff.1 (pu_nD _) d hd))
  · have hq : b / 2 ^ j = 0 := by
      have h2 : ¬ ((0 : Int) < ((b / 2 ^ j : Nat) : Int)) := h
      revert h2
      generalize b / 2 ^ j = q
      intro h2
      omega
    have he := hend hq
    rw [← he]
    cases A with
    | nil =>
      repeat' first | ((first | with_reducible (first | apply Qt | apply Qu) | refine Qa rfl ?_ | refine Qk rfl ?_ | refine Qb ?_ | refine Qc ?_ | refine Qi ?_ | refine Qj ?_) <;> conv => whnf)
      exact Fin.t (.inr rfl) rfl .ns
    | cons a s =>
      repeat' first | ((first | with_reducible (first | apply Qt | apply Qu) | refine Qa rfl ?_ | refine Qk rfl ?_ | refine Qb ?_ | refine Qc ?_ | refine Qi ?_ | refine Qj ?_) <;> conv => whnf)
      exact Fin.t (.inr rfl) rfl (Frz.whole (cs := (nD (a :: s)).map fun d => Cell.o d s.length) (cur := s.length + 1) rfl (by rw [ints_length]; rfl) (ints_one _) (by rw [ints_flatten]; rfl) (pu_ints _))
theorem j_Full (n coin box : Int) (ls : List Ln) (cs : List Ct) (hl : ls.length ≤ 8) : PureF Try.prog p66.ix [.ag [.i .i64 n, .i .i64 coin, .i .i64 box, .lst 3 (rows lnD ls), .lst 3 (rows ctD cs)]] (.i .i64 ((2 ^ ls.length - 1 : Nat) : Int)) := by
  have e2 := rows_length lnD ls
  have hpow : 2 ^ ls.length ≤ 256 := show 2 ^ ls.length ≤ 2 ^ 8 from Nat.pow_le_pow_right (by omega) hl
  have hpos : 0 < 2 ^ ls.length := Nat.two_pow_pos _
  refine PureF.run fn65 (by simp) (by simp [PuL, PuE, Pu, pu_ints, pu_ln, pu_ct]) ?_; conv => whnf
  repeat' first | ((first | with_reducible (first | apply Qt | apply Qu) | refine Qa rfl ?_ | refine Qk rfl ?_ | refine Qb ?_ | refine Qc ?_ | refine Qi ?_ | refine Qj ?_) <;> conv => whnf)
  refine And.intro (InR.u64 (by omega) (by omega)) ?_; conv => whnf
  refine WSt.shlU (a := 1) (j := (rows lnD ls).length) (by rfl) (by rfl) (by rw [e2]; omega) (by omega) ?_; conv => whnf
  repeat' first | ((first | with_reducible (first | apply Qt | apply Qu) | refine Qa rfl ?_ | refine Qk rfl ?_ | refine Qb ?_ | refine Qc ?_ | refine Qi ?_ | refine Qj ?_) <;> conv => whnf)
  rw [e2, Nat.one_mul]
  repeat' first | ((first | with_reducible (first | apply Qt | apply Qu) | refine Qa rfl ?_ | refine Qk rfl ?_ | refine Qb ?_ | refine Qc ?_ | refine Qi ?_ | refine Qj ?_ | with_reducible (first | refine Qm ?_ | refine Qn ?_ | refine Qo ?_ | refine Qp ?_ | refine WB.nt ?_ | refine WB.nf ?_ | refine WB.dec (fun h => ?_) (fun h => ?_) | refine WB.ndec (fun h => ?_) (fun h => ?_)) | refine WB.mk (fun h => ?_) (fun h => ?_)) <;> conv => whnf)
  exact Fin.i rfl (by omega)
end Go.Ev
namespace Go.Ev
open Go.Proofs
set_option maxRecDepth 100000
def qS (b i : Nat) : Bool := !b.testBit i
def kpJ (q : Nat → Bool) (ls : List Ln) (j : Nat) : List Ln := ((List.range j).filter fun i => !q i).map fun i => ls.getD i default
theorem kpJ_succ (q : Nat → Bool) (ls : List Ln) (j : Nat) : kpJ q ls (j + 1) = if q j = true then kpJ q ls j else kpJ q ls j ++ [ls.getD j default] := by
  unfold kpJ
  rw [List.range_succ, List.filter_append, List.map_append]
  cases h : q j with
  | true => rw [if_pos rfl]; simp [h]
  | false => rw [if_neg (by decide)]; simp [h]
theorem kpJ_len (q : Nat → Bool) (ls : List Ln) (j : Nat) : (kpJ q ls j).length ≤ j := by
  unfold kpJ
  rw [List.length_map]
  have := List.length_filter_le (fun i : Nat => !q i) (List.range j)
  rw [List.length_range] at this
  exact this
theorem bits_below {b a : Nat} (ha : a ≤ 8) : (bitL (b &&& (2 ^ a - 1))).length = ((List.range a).filter fun i => !qS b i).length := by
  unfold bitL bitJ
  rw [List.length_map, ← filter_below (fun i => !qS b i) ha]
  congr 1
  apply List.filter_congr
  intro i _
  rw [Nat.testBit_and, Nat.testBit_two_pow_sub_one]
  unfold qS
  rw [Bool.not_not]
def bk5D (n coin box : Int) (ls : List Ln) (cs : List Ct) : C := .cells false [.o (.i .i64 n) 0, .o (.i .i64 coin) 0, .o (.i .i64 box) 0, .o (.lst 3 (rows lnD ls)) 0, .o (.lst 3 (rows ctD cs)) 0] 1
theorem bk5D_sh {n coin box : Int} {ls : List Ln} {cs : List Ct} {B : Pos → Prop} {ob : T C} : ShC B ob (bk5D n coin box ls cs) (bk5D n coin box ls cs) := ShC.same (ShC.cn (.pu trivial) (ShC.cn (.pu trivial) (ShC.cn (.pu trivial) (ShC.cn (.pu (pu_ln _)) (ShC.cn (.pu (pu_ct _)) ShC.nl)))))
noncomputable def smS2 (n coin box : Int) (ls : List Ln) (cs : List Ct) (b : Nat) (L : List Ln) (A : List Ct) (j : Nat) : X := ⟨(.n (.n (.n (.n .e (some (.i .i64 (j : Int))) .e) none .e) (some (.i .i64 (b : Int))) (.n .e (some (.pt (.i .h) 0 0)) .e)) none (.n (.n .e (some (.pt (.o .h) 0 0)) .e) (some (.pt .h 0 0)) .e)), (.n (.n .e (some (zr5C)) (.n .e (blG ctD A) .e)) (some (bk5D n coin box ls cs)) (.n .e (some (ou5C n coin box (.lst 3 (rows lnD L)) (slG (.o (.i .h)) 3 A))) .e)), nxG (.o (.o .h)) (.i (.i .h)) A, none⟩
noncomputable def smS1 (n coin box : Int) (ls : List Ln) (cs : List Ct) (b : Nat) (A : List Ln) (j : Nat) : X := ⟨(.n (.n .e (some (.i .i64 (b : Int))) (.n .e (some (.pt (.i .h) 0 0)) .e)) none (.n (.n .e (some (.pt (.o .h) 0 0)) .e) (some (.pt .h 0 0)) (.n .e (some (.i .i64 (j : Int))) .e))), (.n (.n .e (some (zr5C)) .e) (some (bk5D n coin box ls cs)) (.n (.n .e (blG lnD A) .e) (some (ou5C n coin box (slG (.i (.o .h)) 3 A) .ns)) .e)), nxG (.o (.o .h)) (.o (.i .h)) A, none⟩
noncomputable def rc64R : RC := seqW (seqW (seqW (seqW rc64)))
noncomputable def smZ (n coin box : Int) (ls : List Ln) (cs : List Ct) (b : Nat) (L : List Ln) : X := ⟨(.n (.n .e (some (.i .i64 (b : Int))) (.n .e (some (.pt (.i .h) 0 0)) .e)) none (.n (.n .e (some (.pt (.o .h) 0 0)) .e) (some (.pt .h 0 0)) .e)), (.n (.n .e (some (zr5C)) .e) (some (bk5D n coin box ls cs)) (.n .e (some (ou5C n coin box (.lst 3 (rows lnD L)) .ns)) .e)), .o (.o .h), none⟩
set_option maxHeartbeats 2000000 in
theorem j_SomeR (n coin box : Int) (ls : List Ln) (cs : List Ct) (b : Nat) (hb : b ≤ 255) (L : List Ln) (hc : cs.length ≤ 100) (ha : ∀ c ∈ cs, 0 ≤ c.a ∧ c.a ≤ 8) : Rn Try.prog 64 rc64R (smZ n coin box ls cs b L) (Fin rs64 (.ag [.i .i64 n, .i .i64 coin, .i .i64 box, .lst 3 (rows lnD L), .lst 3 (rows ctD (cs.map (keepC (qS b))))])) := by
  have e3 := rows_length ctD cs
  conv => whnf
  repeat' first | ((first | with_reducible (first | apply Qt | apply Qu) | refine Qa rfl ?_ | refine Qk rfl ?_ | refine Qb ?_ | refine Qc ?_ | refine Qi ?_ | refine Qj ?_) <;> conv => whnf)
  refine Rn.loop (fun j : Nat => smS2 n coin box ls cs b L ((cs.take j).map (keepC (qS b))) j) (fun j => j ≤ cs.length ∧ True) (fun j => cs.length - j) 0 ?_ ?_ ?_
  · refine X.le.mk ?_ ?_ (Nat.le_refl _) rfl rfl
    · show T.le ((.n (.n (.n (.n .e (some (.i .i64 0)) .e) none .e) (some (.i .i64 (b : Int))) (.n .e (some (.pt (.i .h) 0 0)) .e)) none (.n (.n .e (some (.pt (.o .h) 0 0)) .e) (some (.pt .h 0 0)) .e)) : T D) _
      skip
      (repeat' first | exact T.le_e _ | refine T.le_some ?_ rfl ?_ | refine T.le_none ?_ ?_ | refine T.le_ee ?_ ?_)
    · show T.le ((.n (.n .e (some (zr5C)) (.n .e none .e)) (some (bk5D n coin box ls cs)) (.n .e (some (ou5C n coin box (.lst 3 (rows lnD L)) .ns)) .e)) : T C) _
      (repeat' first | exact T.le_e _ | refine T.le_some ?_ rfl ?_ | refine T.le_none ?_ ?_ | refine T.le_ee ?_ ?_)
  · exact ⟨Nat.zero_le _, trivial⟩
  rintro j ⟨hj, _⟩
  have hsc : j < cs.length → (cs.take (j + 1)).map (keepC (qS b)) = (cs.take j).map (keepC (qS b)) ++ [keepC (qS b) (cs.getD j default)] := fun h => by
    rw [take_succ_getD (d := default) h, List.map_append]; rfl
  have hAl : ((cs.take j).map (keepC (qS b))).length ≤ j := by rw [List.length_map, List.length_take]; omega
  have hend : j = cs.length → (cs.take j).map (keepC (qS b)) = cs.map (keepC (qS b)) := fun h => by rw [List.take_of_length_le (by omega)]
  generalize hA : (cs.take j).map (keepC (qS b)) = A at *
  conv => whnf
  repeat' first | ((first | with_reducible (first | apply Qt | apply Qu) | refine Qa rfl ?_ | refine Qk rfl ?_ | refine Qb ?_ | refine Qc ?_ | refine Qi ?_ | refine Qj ?_) <;> conv => whnf)
  refine WB.dec (fun h => ?_) (fun h => ?_) <;> conv => whnf
  · have hlt : j < cs.length := by omega
    have hsc := hsc hlt
    have hca := ha _ (getD_mem (d := default) hlt)
    obtain ⟨a', ha'⟩ : ∃ a' : Nat, (cs.getD j default).a = (a' : Int) := ⟨(cs.getD j default).a.toNat, by omega⟩
    have ha8 : a' ≤ 8 := by omega
    have hp8 : 2 ^ a' ≤ 256 := show 2 ^ a' ≤ 2 ^ 8 from Nat.pow_le_pow_right (by omega) ha8
    have hp0 : 0 < 2 ^ a' := Nat.two_pow_pos _
    have hm : ((1 * 2 ^ a' : Nat) : Int) - 1 = ((2 ^ a' - 1 : Nat) : Int) := by omega
    have hand : b &&& (2 ^ a' - 1) ≤ b := Nat.and_le_left
    have iB := j_Bits (b &&& (2 ^ a' - 1)) (by omega)
    have hlen : ((ints (bitL (b &&& (2 ^ a' - 1)))).length : Int) = (keepC (qS b) (cs.getD j default)).a := by
      rw [ints_length, bits_below ha8]
      unfold keepC
      rw [ha', Int.toNat_natCast]
    have hkl : (keepC (qS b) (cs.getD j default)).lo = (cs.getD j default).lo := rfl
    have hkh : (keepC (qS b) (cs.getD j default)).hi = (cs.getD j default).hi := rfl
    have hrow : ctD (keepC (qS b) (cs.getD j default)) = [.i .i64 ((ints (bitL (b &&& (2 ^ a' - 1)))).length : Int), .i .i64 (cs.getD j default).lo, .i .i64 (cs.getD j default).hi] := by rw [hlen]; rfl
    generalize keepC (qS b) (cs.getD j default) = kc at *
    cases A with
    | nil =>
      repeat' first | ((first | with_reducible (first | apply Qt | apply Qu) | refine Qa rfl ?_ | refine Qk rfl ?_ | refine Qb ?_ | refine Qc ?_ | refine Qi ?_ | refine Qj ?_) <;> conv => whnf)
      rw [ha']
      refine And.intro (InR.u64 (by omega) (by omega)) ?_; conv => whnf
      refine WSt.shlU (a := 1) (j := a') (by rfl) (by rfl) (by omega) (by omega) ?_; conv => whnf
      repeat' first | ((first | with_reducible (first | apply Qt | apply Qu) | refine Qa rfl ?_ | refine Qk rfl ?_ | refine Qb ?_ | refine Qc ?_ | refine Qi ?_ | refine Qj ?_) <;> conv => whnf)
      rw [hm]
      refine WSt.andB (by rfl) (by rfl) (by omega) (by omega) ?_; conv => whnf
      repeat' first | ((first | with_reducible (first | apply Qt | apply Qu) | refine Qa rfl ?_ | refine Qk rfl ?_ | refine Qb ?_ | refine Qc ?_ | refine Qi ?_ | refine Qj ?_ | refine Qf (iB) ?_) <;> conv => whnf)
      refine WSt.app_first (r := ctD kc) (by rfl) (.inl rfl) (by rfl) (by rfl) (by rw [hrow]; rfl) (by rfl) ?_; conv => whnf
      repeat' first | ((first | with_reducible (first | apply Qt | apply Qu) | refine Qa rfl ?_ | refine Qk rfl ?_ | refine Qb ?_ | refine Qc ?_ | refine Qi ?_ | refine Qj ?_) <;> conv => whnf)
      refine Again.to (j + 1) (by omega) ⟨by omega, trivial⟩ (by show (nxG (.o (.o .h)) (.i (.i .h)) ((cs.take j).map (keepC (qS b)))).nat ≤ (nxG (.o (.o .h)) (.i (.i .h)) ((cs.take (j + 1)).map (keepC (qS b)))).nat; rw [hA, hsc]; exact (show 4 ≤ 7 by omega)) ?_
      show Shr _ (smS2 n coin box ls cs b L ((cs.take (j + 1)).map (keepC (qS b))) (j + 1))
      rw [hsc]
      refine Shr.of ?_ ?_ rfl rfl
      · show Rel _ _ ((.n (.n (.n (.n .e (some (.i .i64 ((j + 1 : Nat) : Int))) .e) none .e) (some (.i .i64 (b : Int))) (.n .e (some (.pt (.i .h) 0 0)) .e)) none (.n (.n .e (some (.pt (.o .h) 0 0)) .e) (some (.pt .h 0 0)) .e)) : T D) _
        skip
        (repeat' first | exact Rel.e | refine Rel.some ?_ ?_ ?_ | refine Rel.none ?_ ?_ | refine Rel.ee ?_ ?_)
        all_goals show Fz _ _ _ _
        all_goals first | exact .pu trivial | exact .kpt (show _ < 7 by simp [Pos.nat]) | exact .ksl (show _ < 7 by simp [Pos.nat]) | exact .kmp (show _ < 7 by simp [Pos.nat])
      · show Rel _ _ ((.n (.n .e (some (zr5C)) (.n .e (some (.cells false ((ctD kc).map fun d => Cell.o d 0) 1)) .e)) (some (bk5D n coin box ls cs)) (.n .e (some (ou5C n coin box (.lst 3 (rows lnD L)) (.sl (.o (.i .h)) 0 1 0 3))) .e)) : T C) _
        skip
        (repeat' first | exact Rel.e | refine Rel.some ?_ ?_ ?_ | refine Rel.none ?_ ?_ | refine Rel.ee ?_ ?_)
        all_goals first
          | exact RO'.of (show _ < 7 by simp [Pos.nat]) bk5D_sh
          | exact RO'.of (show _ < 7 by simp [Pos.nat]) zr5C_sh
          | exact RO'.of (show _ < 7 by simp [Pos.nat]) (ou5C_sh (.pu (pu_ln _)) (.pu trivial))
          | exact RO'.of (show _ < 7 by simp [Pos.nat]) (ou5C_sh (.pu (pu_ln _)) (.ksl (show _ < 7 by simp [Pos.nat])))
          | (refine RO'.of (show _ < 7 by simp [Pos.nat]) (ShC.same fun c hc => ?_); obtain ⟨d, hd, rfl⟩ := List.mem_map.1 hc; exact .pu (PuL_iff.1 (ctDp _) d hd))
    | cons a s =>
      have hs5 : s.length + 1 ≤ 1000 := Nat.le_trans hAl (by omega)
      repeat' first | ((first | with_reducible (first | apply Qt | apply Qu) | refine Qa rfl ?_ | refine Qk rfl ?_ | refine Qb ?_ | refine Qc ?_ | refine Qi ?_ | refine Qj ?_) <;> conv => whnf)
      rw [ha']
      refine And.intro (InR.u64 (by omega) (by omega)) ?_; conv => whnf
      refine WSt.shlU (a := 1) (j := a') (by rfl) (by rfl) (by omega) (by omega) ?_; conv => whnf
      repeat' first | ((first | with_reducible (first | apply Qt | apply Qu) | refine Qa rfl ?_ | refine Qk rfl ?_ | refine Qb ?_ | refine Qc ?_ | refine Qi ?_ | refine Qj ?_) <;> conv => whnf)
      rw [hm]
      refine WSt.andB (by rfl) (by rfl) (by omega) (by omega) ?_; conv => whnf
      repeat' first | ((first | with_reducible (first | apply Qt | apply Qu) | refine Qa rfl ?_ | refine Qk rfl ?_ | refine Qb ?_ | refine Qc ?_ | refine Qi ?_ | refine Qj ?_ | refine Qf (iB) ?_) <;> conv => whnf)
      refine WSt.app_one (id := (.o (.i .h))) (ds := (rows ctD (a :: s)).flatten) (r := ctD kc) (by rfl) (by rfl) (by rfl) (by rw [hrow]; rfl) (by rfl) (by rfl) (by rw [rowsF_len (z := 3) ctD3]; rfl) (by rfl) (by rfl) (by omega) (by rfl) ?_; conv => whnf
      repeat' first | ((first | with_reducible (first | apply Qt | apply Qu) | refine Qa rfl ?_ | refine Qk rfl ?_ | refine Qb ?_ | refine Qc ?_ | refine Qi ?_ | refine Qj ?_) <;> conv => whnf)
      refine Again.to (j + 1) (by omega) ⟨by omega, trivial⟩ (by show (nxG (.o (.o .h)) (.i (.i .h)) ((cs.take j).map (keepC (qS b)))).nat ≤ (nxG (.o (.o .h)) (.i (.i .h)) ((cs.take (j + 1)).map (keepC (qS b)))).nat; rw [hA, hsc, List.cons_append]; exact (show 7 ≤ 7 by omega)) ?_
      show Shr _ (smS2 n coin box ls cs b L ((cs.take (j + 1)).map (keepC (qS b))) (j + 1))
      rw [hsc, List.cons_append]
      refine Shr.of ?_ ?_ rfl rfl
      · show Rel _ _ ((.n (.n (.n (.n .e (some (.i .i64 ((j + 1 : Nat) : Int))) .e) none .e) (some (.i .i64 (b : Int))) (.n .e (some (.pt (.i .h) 0 0)) .e)) none (.n (.n .e (some (.pt (.o .h) 0 0)) .e) (some (.pt .h 0 0)) .e)) : T D) _
        skip
        (repeat' first | exact Rel.e | refine Rel.some ?_ ?_ ?_ | refine Rel.none ?_ ?_ | refine Rel.ee ?_ ?_)
        all_goals show Fz _ _ _ _
        all_goals first | exact .pu trivial | exact .kpt (show _ < 7 by simp [Pos.nat]) | exact .ksl (show _ < 7 by simp [Pos.nat]) | exact .kmp (show _ < 7 by simp [Pos.nat])
      · show Rel _ _ ((.n (.n .e (some (zr5C)) (.n .e (blG ctD (a :: (s ++ [kc]))) .e)) (some (bk5D n coin box ls cs)) (.n .e (some (ou5C n coin box (.lst 3 (rows lnD L)) (slG (.o (.i .h)) 3 (a :: (s ++ [kc]))))) .e)) : T C) _
        rw [slG_snoc, blG_snoc]
        (repeat' first | exact Rel.e | refine Rel.some ?_ ?_ ?_ | refine Rel.none ?_ ?_ | refine Rel.ee ?_ ?_)
        all_goals first
          | exact RO'.of (show _ < 7 by simp [Pos.nat]) bk5D_sh
          | exact RO'.of (show _ < 7 by simp [Pos.nat]) zr5C_sh
          | exact RO'.of (show _ < 7 by simp [Pos.nat]) (ou5C_sh (.pu (pu_ln _)) (.pu trivial))
          | exact RO'.of (show _ < 7 by simp [Pos.nat]) (ou5C_sh (.pu (pu_ln _)) (.ksl (show _ < 7 by simp [Pos.nat])))
          | (refine RO'.of (show _ < 7 by simp [Pos.nat]) (ShC.grown (by omega) (PuL_iff.2 fun d hd => ?_)); rcases List.mem_append.1 hd with hd | hd <;> first | exact PuL_iff.1 (rowsF_pu ctDp _) d hd | exact PuL_iff.1 (ctDp _) d hd)
  · have he := hend (by omega)
    rw [← he]
    repeat' first | ((first | with_reducible (first | apply Qt | apply Qu) | refine Qa rfl ?_ | refine Qk rfl ?_ | refine Qb ?_ | refine Qc ?_ | refine Qi ?_ | refine Qj ?_) <;> conv => whnf)
    exact ⟨.inr rfl, _, rfl, .ag (.cons (.pu trivial) (.cons (.pu trivial) (.cons (.pu trivial) (.cons (.pu (pu_ln _)) (.cons (Fz.G A (fun h => h) (fun c h => h) ctD3 ctDp) .nil)))))⟩
set_option maxHeartbeats 2000000 in
theorem j_Some (n coin box : Int) (ls : List Ln) (cs : List Ct) (b : Nat) (hb : b ≤ 255) (hl : ls.length ≤ 8) (hc : cs.length ≤ 100) (ha : ∀ c ∈ cs, 0 ≤ c.a ∧ c.a ≤ 8) : PureF Try.prog p65.ix [.ag [.i .i64 n, .i .i64 coin, .i .i64 box, .lst 3 (rows lnD ls), .lst 3 (rows ctD cs)], .i .i64 (b : Int)] (.ag [.i .i64 n, .i .i64 coin, .i .i64 box, .lst 3 (rows lnD (keepL (qS b) ls)), .lst 3 (rows ctD (cs.map (keepC (qS b))))]) := by
  have e2 := rows_length lnD ls
  have hrest := j_SomeR n coin box ls cs b hb (keepL (qS b) ls) hc ha
  refine PureF.run fn64 (by simp) (by simp [PuL, PuE, Pu, pu_ln, pu_ct]) ?_; conv => whnf
  refine Rn.seq ?_; conv => whnf
  refine Rn.reg ?_; conv => whnf
  refine Rn.far rfl ?_
  refine RnF.seq ?_; conv => whnf
  repeat' first | ((first | with_reducible (first | apply Qt | apply Qu) | refine Qa rfl ?_ | refine Qk rfl ?_ | refine Qb ?_ | refine Qc ?_ | refine Qi ?_ | refine Qj ?_) <;> conv => whnf)
  refine ⟨rfl, rfl, (show 3 ≤ 4 by omega), ?_⟩
  refine RnF.seq ?_; conv => whnf
  repeat' first | ((first | with_reducible (first | apply Qt | apply Qu) | refine Qa rfl ?_ | refine Qk rfl ?_ | refine Qb ?_ | refine Qc ?_ | refine Qi ?_ | refine Qj ?_) <;> conv => whnf)
  refine ⟨rfl, rfl, (show 3 ≤ 4 by omega), ?_⟩
  refine RnF.seq ?_; conv => whnf
  repeat' first | ((first | with_reducible (first | apply Qt | apply Qu) | refine Qa rfl ?_ | refine Qk rfl ?_ | refine Qb ?_ | refine Qc ?_ | refine Qi ?_ | refine Qj ?_) <;> conv => whnf)
  refine Rn.loop (fun j : Nat => smS1 n coin box ls cs b (kpJ (qS b) ls j) j) (fun j => j ≤ ls.length ∧ True) (fun j => ls.length - j) 0 ?_ ?_ ?_
  · refine X.le.mk ?_ ?_ (Nat.le_refl _) rfl rfl
    · show T.le ((.n (.n .e (some (.i .i64 (b : Int))) (.n .e (some (.pt (.i .h) 0 0)) .e)) none (.n (.n .e (some (.pt (.o .h) 0 0)) .e) (some (.pt .h 0 0)) (.n .e (some (.i .i64 0)) .e))) : T D) _
      skip
      (repeat' first | exact T.le_e _ | refine T.le_some ?_ rfl ?_ | refine T.le_none ?_ ?_ | refine T.le_ee ?_ ?_)
    · show T.le ((.n (.n .e (some (zr5C)) .e) (some (bk5D n coin box ls cs)) (.n (.n .e none .e) (some (ou5C n coin box .ns .ns)) .e)) : T C) _
      (repeat' first | exact T.le_e _ | refine T.le_some ?_ rfl ?_ | refine T.le_none ?_ ?_ | refine T.le_ee ?_ ?_)
  · exact ⟨Nat.zero_le _, trivial⟩
  rintro j ⟨hj, _⟩
  have hsc := kpJ_succ (qS b) ls j
  have hAl := kpJ_len (qS b) ls j
  have hend : j = ls.length → kpJ (qS b) ls j = keepL (qS b) ls := fun h => by rw [h]; rfl
  generalize hA : kpJ (qS b) ls j = A at *
  conv => whnf
  repeat' first | ((first | with_reducible (first | apply Qt | apply Qu) | refine Qa rfl ?_ | refine Qk rfl ?_ | refine Qb ?_ | refine Qc ?_ | refine Qi ?_ | refine Qj ?_) <;> conv => whnf)
  refine WB.dec (fun h => ?_) (fun h => ?_) <;> conv => whnf
  · have hlt : j < ls.length := by omega
    have hq2 : qS b j = !decide (b / 2 ^ j % 2 = 1) := by unfold qS; rw [Nat.testBit_eq_decide_div_mod_eq]
    repeat' first | ((first | with_reducible (first | apply Qt | apply Qu) | refine Qa rfl ?_ | refine Qk rfl ?_ | refine Qb ?_ | refine Qc ?_ | refine Qi ?_ | refine Qj ?_) <;> conv => whnf)
    refine And.intro (InR.u64 (by omega) (by omega)) ?_; conv => whnf
    refine WSt.shrU (a := b) (j := j) (by rfl) (by rfl) rfl (by omega) (fun r h1 b1 => ?_); conv => whnf
    rw [← h1] at hq2
    have hrem : (r : Int).tmod 2 = ((r % 2 : Nat) : Int) := by
      rw [Int.tmod_eq_emod_of_nonneg (by omega)]; rfl
    repeat' first | ((first | with_reducible (first | apply Qt | apply Qu) | refine Qa rfl ?_ | refine Qk rfl ?_ | refine Qb ?_ | refine Qc ?_ | refine Qi ?_ | refine Qj ?_) <;> conv => whnf)
    rw [hrem]
    by_cases hx : r % 2 = 1
    · rw [hq2, decide_eq_true hx, if_neg (by decide)] at hsc
      refine WB.decT (by omega) ?_; conv => whnf
      cases A with
      | nil =>
        repeat' first | ((first | with_reducible (first | apply Qt | apply Qu) | refine Qa rfl ?_ | refine Qk rfl ?_ | refine Qb ?_ | refine Qc ?_ | refine Qi ?_ | refine Qj ?_) <;> conv => whnf)
        refine WSt.app_firstL (r := lnD (ls.getD j default)) (by rfl) (.inl rfl) (by rfl) (by rfl) (by rfl) (by rfl) ?_; conv => whnf
        repeat' first | ((first | with_reducible (first | apply Qt | apply Qu) | refine Qa rfl ?_ | refine Qk rfl ?_ | refine Qb ?_ | refine Qc ?_ | refine Qi ?_ | refine Qj ?_) <;> conv => whnf)
        refine Again.to (j + 1) (by omega) ⟨by omega, trivial⟩ (by show (nxG (.o (.o .h)) (.o (.i .h)) (kpJ (qS b) ls j)).nat ≤ (nxG (.o (.o .h)) (.o (.i .h)) (kpJ (qS b) ls (j + 1))).nat; rw [hA, hsc]; exact (show 4 ≤ 6 by omega)) ?_
        show Shr _ (smS1 n coin box ls cs b (kpJ (qS b) ls (j + 1)) (j + 1))
        rw [hsc]
        refine Shr.of ?_ ?_ rfl rfl
        · show Rel _ _ ((.n (.n .e (some (.i .i64 (b : Int))) (.n .e (some (.pt (.i .h) 0 0)) .e)) none (.n (.n .e (some (.pt (.o .h) 0 0)) .e) (some (.pt .h 0 0)) (.n .e (some (.i .i64 ((j + 1 : Nat) : Int))) .e))) : T D) _
          skip
          (repeat' first | exact Rel.e | refine Rel.some ?_ ?_ ?_ | refine Rel.none ?_ ?_ | refine Rel.ee ?_ ?_)
          all_goals show Fz _ _ _ _
          all_goals first | exact .pu trivial | exact .kpt (show _ < 6 by simp [Pos.nat]) | exact .ksl (show _ < 6 by simp [Pos.nat]) | exact .kmp (show _ < 6 by simp [Pos.nat])
        · show Rel _ _ ((.n (.n .e (some (zr5C)) .e) (some (bk5D n coin box ls cs)) (.n (.n .e (some (.cells false ((lnD (ls.getD j default)).map fun d => Cell.o d 0) 1)) .e) (some (ou5C n coin box (.sl (.i (.o .h)) 0 1 0 3) .ns)) .e)) : T C) _
          skip
          (repeat' first | exact Rel.e | refine Rel.some ?_ ?_ ?_ | refine Rel.none ?_ ?_ | refine Rel.ee ?_ ?_)
          all_goals first
            | exact RO'.of (show _ < 6 by simp [Pos.nat]) bk5D_sh
            | exact RO'.of (show _ < 6 by simp [Pos.nat]) zr5C_sh
            | exact RO'.of (show _ < 6 by simp [Pos.nat]) (ou5C_sh (.pu trivial) (.pu trivial))
            | exact RO'.of (show _ < 6 by simp [Pos.nat]) (ou5C_sh (.ksl (show _ < 6 by simp [Pos.nat])) (.pu trivial))
            | (refine RO'.of (show _ < 6 by simp [Pos.nat]) (ShC.same fun c hc => ?_); obtain ⟨d, hd, rfl⟩ := List.mem_map.1 hc; exact .pu (PuL_iff.1 (lnDp _) d hd))
      | cons a s =>
        have hs5 : s.length + 1 ≤ 1000 := Nat.le_trans hAl (by omega)
        repeat' first | ((first | with_reducible (first | apply Qt | apply Qu) | refine Qa rfl ?_ | refine Qk rfl ?_ | refine Qb ?_ | refine Qc ?_ | refine Qi ?_ | refine Qj ?_) <;> conv => whnf)
        refine WSt.app_oneL (id := (.i (.o .h))) (ds := (rows lnD (a :: s)).flatten) (r := lnD (ls.getD j default)) (by rfl) (by rfl) (by rfl) (by rfl) (by rfl) (by rfl) (by rw [rowsF_len (z := 3) lnD3]; rfl) (by rfl) (by rfl) (by omega) (by rfl) ?_; conv => whnf
        repeat' first | ((first | with_reducible (first | apply Qt | apply Qu) | refine Qa rfl ?_ | refine Qk rfl ?_ | refine Qb ?_ | refine Qc ?_ | refine Qi ?_ | refine Qj ?_) <;> conv => whnf)
        refine Again.to (j + 1) (by omega) ⟨by omega, trivial⟩ (by show (nxG (.o (.o .h)) (.o (.i .h)) (kpJ (qS b) ls j)).nat ≤ (nxG (.o (.o .h)) (.o (.i .h)) (kpJ (qS b) ls (j + 1))).nat; rw [hA, hsc, List.cons_append]; exact (show 6 ≤ 6 by omega)) ?_
        show Shr _ (smS1 n coin box ls cs b (kpJ (qS b) ls (j + 1)) (j + 1))
        rw [hsc, List.cons_append]
        refine Shr.of ?_ ?_ rfl rfl
        · show Rel _ _ ((.n (.n .e (some (.i .i64 (b : Int))) (.n .e (some (.pt (.i .h) 0 0)) .e)) none (.n (.n .e (some (.pt (.o .h) 0 0)) .e) (some (.pt .h 0 0)) (.n .e (some (.i .i64 ((j + 1 : Nat) : Int))) .e))) : T D) _
          skip
          (repeat' first | exact Rel.e | refine Rel.some ?_ ?_ ?_ | refine Rel.none ?_ ?_ | refine Rel.ee ?_ ?_)
          all_goals show Fz _ _ _ _
          all_goals first | exact .pu trivial | exact .kpt (show _ < 6 by simp [Pos.nat]) | exact .ksl (show _ < 6 by simp [Pos.nat]) | exact .kmp (show _ < 6 by simp [Pos.nat])
        · show Rel _ _ ((.n (.n .e (some (zr5C)) .e) (some (bk5D n coin box ls cs)) (.n (.n .e (blG lnD (a :: (s ++ [(ls.getD j default)]))) .e) (some (ou5C n coin box (slG (.i (.o .h)) 3 (a :: (s ++ [(ls.getD j default)]))) .ns)) .e)) : T C) _
          rw [slG_snoc, blG_snoc]
          (repeat' first | exact Rel.e | refine Rel.some ?_ ?_ ?_ | refine Rel.none ?_ ?_ | refine Rel.ee ?_ ?_)
          all_goals first
            | exact RO'.of (show _ < 6 by simp [Pos.nat]) bk5D_sh
            | exact RO'.of (show _ < 6 by simp [Pos.nat]) zr5C_sh
            | exact RO'.of (show _ < 6 by simp [Pos.nat]) (ou5C_sh (.pu trivial) (.pu trivial))
            | exact RO'.of (show _ < 6 by simp [Pos.nat]) (ou5C_sh (.ksl (show _ < 6 by simp [Pos.nat])) (.pu trivial))
            | (refine RO'.of (show _ < 6 by simp [Pos.nat]) (ShC.grown (by omega) (PuL_iff.2 fun d hd => ?_)); rcases List.mem_append.1 hd with hd | hd <;> first | exact PuL_iff.1 (rowsF_pu lnDp _) d hd | exact PuL_iff.1 (lnDp _) d hd)
    · rw [hq2, decide_eq_false hx, if_pos (show (!false) = true from rfl)] at hsc
      refine WB.decF (by omega) ?_; conv => whnf
      cases A with
      | nil =>
        repeat' first | ((first | with_reducible (first | apply Qt | apply Qu) | refine Qa rfl ?_ | refine Qk rfl ?_ | refine Qb ?_ | refine Qc ?_ | refine Qi ?_ | refine Qj ?_) <;> conv => whnf)
        refine Again.to (j + 1) (by omega) ⟨by omega, trivial⟩ (by show (nxG (.o (.o .h)) (.o (.i .h)) (kpJ (qS b) ls j)).nat ≤ (nxG (.o (.o .h)) (.o (.i .h)) (kpJ (qS b) ls (j + 1))).nat; rw [hA, hsc]; exact (show 4 ≤ 4 by omega)) ?_
        show Shr _ (smS1 n coin box ls cs b (kpJ (qS b) ls (j + 1)) (j + 1))
        rw [hsc]
        refine Shr.of ?_ ?_ rfl rfl
        · show Rel _ _ ((.n (.n .e (some (.i .i64 (b : Int))) (.n .e (some (.pt (.i .h) 0 0)) .e)) none (.n (.n .e (some (.pt (.o .h) 0 0)) .e) (some (.pt .h 0 0)) (.n .e (some (.i .i64 ((j + 1 : Nat) : Int))) .e))) : T D) _
          skip
          (repeat' first | exact Rel.e | refine Rel.some ?_ ?_ ?_ | refine Rel.none ?_ ?_ | refine Rel.ee ?_ ?_)
          all_goals show Fz _ _ _ _
          all_goals first | exact .pu trivial | exact .kpt (show _ < 4 by simp [Pos.nat]) | exact .ksl (show _ < 4 by simp [Pos.nat]) | exact .kmp (show _ < 4 by simp [Pos.nat])
        · show Rel _ _ ((.n (.n .e (some (zr5C)) .e) (some (bk5D n coin box ls cs)) (.n (.n .e none .e) (some (ou5C n coin box .ns .ns)) .e)) : T C) _
          skip
          (repeat' first | exact Rel.e | refine Rel.some ?_ ?_ ?_ | refine Rel.none ?_ ?_ | refine Rel.ee ?_ ?_)
          all_goals first
            | exact RO'.of (show _ < 4 by simp [Pos.nat]) bk5D_sh
            | exact RO'.of (show _ < 4 by simp [Pos.nat]) zr5C_sh
            | exact RO'.of (show _ < 4 by simp [Pos.nat]) (ou5C_sh (.pu trivial) (.pu trivial))
            | exact RO'.of (show _ < 4 by simp [Pos.nat]) (ou5C_sh (.ksl (show _ < 4 by simp [Pos.nat])) (.pu trivial))
      | cons a s =>
        repeat' first | ((first | with_reducible (first | apply Qt | apply Qu) | refine Qa rfl ?_ | refine Qk rfl ?_ | refine Qb ?_ | refine Qc ?_ | refine Qi ?_ | refine Qj ?_) <;> conv => whnf)
        refine Again.to (j + 1) (by omega) ⟨by omega, trivial⟩ (by show (nxG (.o (.o .h)) (.o (.i .h)) (kpJ (qS b) ls j)).nat ≤ (nxG (.o (.o .h)) (.o (.i .h)) (kpJ (qS b) ls (j + 1))).nat; rw [hA, hsc]; exact (show 6 ≤ 6 by omega)) ?_
        show Shr _ (smS1 n coin box ls cs b (kpJ (qS b) ls (j + 1)) (j + 1))
        rw [hsc]
        refine Shr.of ?_ ?_ rfl rfl
        · show Rel _ _ ((.n (.n .e (some (.i .i64 (b : Int))) (.n .e (some (.pt (.i .h) 0 0)) .e)) none (.n (.n .e (some (.pt (.o .h) 0 0)) .e) (some (.pt .h 0 0)) (.n .e (some (.i .i64 ((j + 1 : Nat) : Int))) .e))) : T D) _
          skip
          (repeat' first | exact Rel.e | refine Rel.some ?_ ?_ ?_ | refine Rel.none ?_ ?_ | refine Rel.ee ?_ ?_)
          all_goals show Fz _ _ _ _
          all_goals first | exact .pu trivial | exact .kpt (show _ < 6 by simp [Pos.nat]) | exact .ksl (show _ < 6 by simp [Pos.nat]) | exact .kmp (show _ < 6 by simp [Pos.nat])
        · show Rel _ _ ((.n (.n .e (some (zr5C)) .e) (some (bk5D n coin box ls cs)) (.n (.n .e (some (.cells false ((rows lnD (a :: s)).flatten.map fun d => Cell.o d s.length) (s.length + 1))) .e) (some (ou5C n coin box (.sl (.i (.o .h)) 0 (s.length + 1) s.length 3) .ns)) .e)) : T C) _
          skip
          (repeat' first | exact Rel.e | refine Rel.some ?_ ?_ ?_ | refine Rel.none ?_ ?_ | refine Rel.ee ?_ ?_)
          all_goals first
            | exact RO'.of (show _ < 6 by simp [Pos.nat]) bk5D_sh
            | exact RO'.of (show _ < 6 by simp [Pos.nat]) zr5C_sh
            | exact RO'.of (show _ < 6 by simp [Pos.nat]) (ou5C_sh (.pu trivial) (.pu trivial))
            | exact RO'.of (show _ < 6 by simp [Pos.nat]) (ou5C_sh (.ksl (show _ < 6 by simp [Pos.nat])) (.pu trivial))
            | exact RO'.of (show _ < 6 by simp [Pos.nat]) (ShC.G lnDp a s)
  · have he := hend (by omega)
    rw [← he] at hrest ⊢
    repeat' first | ((first | with_reducible (first | apply Qt | apply Qu) | refine Qa rfl ?_ | refine Qk rfl ?_ | refine Qb ?_ | refine Qc ?_ | refine Qi ?_ | refine Qj ?_) <;> conv => whnf)
    refine ⟨rfl, rfl, (show 3 ≤ (nxG (.o (.o .h)) (.o (.i .h)) A).nat by cases A <;> simp [nxG, Pos.nat]), RnF.turn (z' := smZ n coin box ls cs b A) (B := fun id => id.nat < 4) ?_ (fun id (h : id.nat < 3) => show id.nat < 4 by omega) (fun id h => h) (show 3 ≤ 4 by omega) hrest⟩
    refine ShrB.of ?_ ?_ rfl rfl
    · show Rel _ _ ((.n (.n .e (some (.i .i64 (b : Int))) (.n .e (some (.pt (.i .h) 0 0)) .e)) none (.n (.n .e (some (.pt (.o .h) 0 0)) .e) (some (.pt .h 0 0)) .e)) : T D) _
      (repeat' first | exact Rel.e | refine Rel.some ?_ ?_ ?_ | refine Rel.none ?_ ?_ | refine Rel.ee ?_ ?_)
      all_goals show Fz _ _ _ _
      all_goals first | exact .pu trivial | exact .kpt (show _ < 4 by simp [Pos.nat])
    · show Rel _ _ ((.n (.n .e (some (zr5C)) .e) (some (bk5D n coin box ls cs)) (.n .e (some (ou5C n coin box (.lst 3 (rows lnD A)) .ns)) .e)) : T C) _
      (repeat' first | exact Rel.e | refine Rel.some ?_ ?_ ?_ | refine Rel.none ?_ ?_ | refine Rel.ee ?_ ?_)
      all_goals first
        | exact ⟨show _ < 4 by simp [Pos.nat], bk5D_sh⟩
        | exact ⟨show _ < 4 by simp [Pos.nat], zr5C_sh⟩
        | exact ⟨show _ < 4 by simp [Pos.nat], ou5C_sh (Fz.G A (show ¬ (5 : Nat) < 4 by omega) (fun c h => h) lnD3 lnDp) (.pu trivial)⟩
end Go.Ev
namespace Go.Ev
open Go.Proofs
set_option maxRecDepth 100000
def ordOk (e c : Nat) : Bool := (List.range c).all fun d => !(Nat.beq (cntN c) (cntN d)) || befR (numL c e) (numL d e)
theorem ord_all : ∀ e : _root_.Fin 9, (List.range (2 ^ e.1)).all (ordOk e.1) = true := by decide +kernel
theorem rev_ok {e c : Nat} (he : e ≤ 8) (hc : c < 2 ^ e) : revB e c < 2 ^ e ∧ revB e (revB e c) = c ∧ cntN c ≤ e ∧ bitL (revB e c) = numL c e ∧ (numL c e).length = cntN c ∧ ∀ i, i < e → (revB e c).testBit i = c.testBit (e - 1 - i) := by
  have h := List.all_eq_true.1 (rev_all ⟨e, by omega⟩) c (List.mem_range.2 hc)
  unfold revOk at h
  simp only [Bool.and_eq_true, decide_eq_true_iff] at h
  obtain ⟨h1, h2, h3, h4, h5, h6⟩ := h
  refine ⟨h1, h2, h3, h4, h5, fun i hi => ?_⟩
  have := List.all_eq_true.1 h6 i (List.mem_range.2 hi)
  simpa using this
theorem ord_sho {e c d : Nat} (he : e ≤ 8) (hc : c < 2 ^ e) (hd : d < 2 ^ e) (h : cntN c < cntN d ∨ (cntN c = cntN d ∧ d < c)) : shoR (numL c e) (numL d e) = true := by
  have l1 := (rev_ok he hc).2.2.2.2.1
  have l2 := (rev_ok he hd).2.2.2.2.1
  unfold shoR
  rcases h with h | ⟨h, k⟩
  · rw [l1, l2, decide_eq_true h, Bool.true_or]
  · have hb := List.all_eq_true.1 (ord_all ⟨e, by omega⟩) c (List.mem_range.2 hc)
    unfold ordOk at hb
    have hb := List.all_eq_true.1 hb d (List.mem_range.2 k)
    rw [show Nat.beq (cntN c) (cntN d) = true by rw [h]; exact Nat.beq_refl _] at hb
    have hb : befR (numL c e) (numL d e) = true := by simpa using hb
    rw [l1, l2, decide_eq_true h, hb, Bool.and_self, Bool.or_true]
def lvQ (B : Bk) (b : Nat) : Bool := hasB (keepB (fun i => b.testBit i) B)
def rlT (m : Nat) : Option Nat → Bool
  | none => true
  | some c => shoR (bitL m) (bitL c)
def rlJ (B : Bk) : Nat → Option Nat
  | 0 => none
  | m + 1 => if (rlT m (rlJ B m) && lvQ B m) = true then some m else rlJ B m
theorem rlJ_ok (B : Bk) : ∀ m, (rlJ B m = none → ∀ b, b < m → lvQ B b = false) ∧ ∀ b0, rlJ B m = some b0 → b0 < m ∧ lvQ B b0 = true ∧ ∀ b, b < m → lvQ B b = true → shoR (bitL b) (bitL b0) = false
  | 0 => ⟨fun _ b h => absurd h (Nat.not_lt_zero _), fun b0 h => by cases h⟩
  | m + 1 => by
    obtain ⟨h1, h2⟩ := rlJ_ok B m
    unfold rlJ
    cases ho : rlJ B m with
    | none =>
      have h1 := h1 ho
      cases hq : lvQ B m with
      | false =>
        rw [show (rlT m none && false) = false from rfl, if_neg (by decide)]
        refine ⟨fun _ b hb => ?_, (fun b0 h => by cases h)⟩
        by_cases e : b = m
        · rw [e]; exact hq
        · exact h1 b (by omega)
      | true =>
        rw [show (rlT m none && true) = true from rfl, if_pos rfl]
        refine ⟨(fun h => by cases h), fun b0 h => ?_⟩
        cases h
        refine ⟨by omega, hq, fun b hb hbq => ?_⟩
        by_cases e : b = m
        · rw [e]; exact shoR_irr _
        · rw [h1 b (by omega)] at hbq; cases hbq
    | some c =>
      obtain ⟨k1, k2, k3⟩ := h2 c ho
      cases hs : shoR (bitL m) (bitL c) with
      | false =>
        rw [show (rlT m (some c) && lvQ B m) = false by show (shoR (bitL m) (bitL c) && _) = _; rw [hs]; rfl, if_neg (by decide)]
        refine ⟨(fun h => by cases h), fun b0 h => ?_⟩
        cases h
        refine ⟨by omega, k2, fun b hb hbq => ?_⟩
        by_cases e : b = m
        · rw [e]; exact hs
        · exact k3 b (by omega) hbq
      | true =>
        cases hq : lvQ B m with
        | false =>
          rw [show (rlT m (some c) && false) = false by rw [Bool.and_false], if_neg (by decide)]
          refine ⟨(fun h => by cases h), fun b0 h => ?_⟩
          cases h
          refine ⟨by omega, k2, fun b hb hbq => ?_⟩
          by_cases e : b = m
          · rw [e, hq] at hbq; cases hbq
          · exact k3 b (by omega) hbq
        | true =>
          rw [show (rlT m (some c) && true) = true by show (shoR (bitL m) (bitL c) && _) = _; rw [hs]; rfl, if_pos rfl]
          refine ⟨(fun h => by cases h), fun b0 h => ?_⟩
          cases h
          refine ⟨by omega, hq, fun b hb hbq => ?_⟩
          by_cases e : b = m
          · rw [e]; exact shoR_irr _
          · cases hx : shoR (bitL b) (bitL m) with
            | false => rfl
            | true =>
              have := k3 b (by omega) hbq
              rw [shoR_trans hx hs] at this
              cases this
theorem lvP_rev {B : Bk} (V : VB B) {c : Nat} (hc : c < 2 ^ B.ls.length) : lvP B c = lvQ B (revB B.ls.length c) := by
  unfold lvP lvQ
  rw [keep_congr V.cs (q := qP B.ls.length c) (q' := fun i => (revB B.ls.length c).testBit i) fun i hi => ((rev_ok V.len hc).2.2.2.2.2 i hi).symm]
theorem lev_same {B : Bk} (V : VB B) : (levO B = none ∧ rlJ B (2 ^ B.ls.length) = none) ∨ ∃ c b, levO B = some c ∧ rlJ B (2 ^ B.ls.length) = some b ∧ bitL b = numL c B.ls.length ∧ c < 2 ^ B.ls.length ∧ b = revB B.ls.length c := by
  have h8 : B.ls.length ≤ 8 := V.len
  obtain ⟨r1, r2⟩ := rlJ_ok B (2 ^ B.ls.length)
  cases hL : levO B with
  | none =>
    left
    refine ⟨rfl, ?_⟩
    cases hr : rlJ B (2 ^ B.ls.length) with
    | none => rfl
    | some b0 =>
      obtain ⟨k1, k2, _⟩ := r2 b0 hr
      obtain ⟨v1, v2, v3, _⟩ := rev_ok h8 k1
      have := smA_none hL (revB B.ls.length b0) v1 (rev_ok h8 v1).2.2.1
      rw [lvP_rev V v1, v2, k2] at this
      cases this
  | some c =>
    right
    obtain ⟨p1, p2, p3⟩ := smA_some hL
    obtain ⟨c1, c2, c3, c4, c5, c6⟩ := rev_ok h8 p2
    rw [lvP_rev V p2] at p1
    cases hr : rlJ B (2 ^ B.ls.length) with
    | none =>
      rw [r1 hr _ c1] at p1
      cases p1
    | some b0 =>
      obtain ⟨k1, k2, k3⟩ := r2 b0 hr
      obtain ⟨v1, v2, v3, v4, _⟩ := rev_ok h8 k1
      have hmin := p3 (revB B.ls.length b0) v1 (by rw [lvP_rev V v1, v2]; exact k2) (rev_ok h8 v1).2.2.1
      have hno := k3 _ c1 p1
      have hb0 : bitL b0 = numL (revB B.ls.length b0) B.ls.length := by
        have := (rev_ok h8 v1).2.2.2.1
        rw [v2] at this
        exact this
      rw [c4, hb0] at hno
      have heq : revB B.ls.length b0 = c := by
        by_cases e : revB B.ls.length b0 = c
        · exact e
        · have := ord_sho h8 p2 v1 (by
            rcases hmin with h | ⟨h, k⟩
            · exact .inl h
            · exact .inr ⟨h, by omega⟩)
          rw [this] at hno
          cases hno
      refine ⟨c, b0, rfl, rfl, ?_, p2, ?_⟩
      · rw [hb0, heq]
      · rw [← heq, v2]
end Go.Ev
namespace Go.Ev
open Go.Proofs
set_option maxRecDepth 1000000
end Go.Ev
namespace Go.Ev
open Go.Proofs
set_option maxRecDepth 100000
end Go.Ev
namespace Go.Ev
open Go.Proofs
set_option maxRecDepth 100000
theorem binK_not (a b : Int) (f : D → Option X) : binK .andNot (.i .i64 a) (.i .i64 b) f = wrapK .i64 (inot .i64 a b) f := rfl
theorem and_low : ∀ m : _root_.Fin 9, (List.range (2 ^ m.1)).all (fun b => Nat.beq (Nat.land (2 ^ m.1 - 1) (Nat.sub 18446744073709551615 b)) (2 ^ m.1 - 1 - b)) = true := by decide +kernel
theorem WSt.notB {sl : T D} {ob : T C} {nx : Pos} {lg : Option (T Bool)} {K : X → Prop} {d : Pos} {m b : Nat} {x y : RX} (hx : opd sl x = some (.i .i64 ((2 ^ m - 1 : Nat) : Int))) (hy : opd sl y = some (.i .i64 (b : Int))) (hm : m ≤ 8) (hb : b < 2 ^ m) (k : wOut sl ob nx lg d K (.i .i64 ((2 ^ m - 1 - b : Nat) : Int))) : WSt (.bin d .andNot x y) ⟨sl, ob, nx, lg⟩ K := by
  obtain ⟨k2, k3⟩ := wOut_ok k
  have h32 : (2 : Nat) ^ m ≤ 2 ^ 8 := Nat.pow_le_pow_right (by omega) hm
  refine ⟨_, ?_, k3⟩
  show s_bin d .andNot x y sl ob nx lg = _
  unfold s_bin
  rw [hx, hy]
  have hs : inot .i64 ((2 ^ m - 1 : Nat) : Int) ((b : Nat) : Int) = ((2 ^ m - 1 - b : Nat) : Int) := by
    have h1 : inot .i64 ((2 ^ m - 1 : Nat) : Int) ((b : Nat) : Int) = .ofNat (Nat.land (2 ^ m - 1) (Nat.sub (ubits .i64) b)) := ibit_nat slowNot (fun k m n => Nat.land m (Nat.sub (ubits k) n)) .i64 (2 ^ m - 1) b (ub_le (by omega)) (ub_le (by omega))
    have h2 := Nat.eq_of_beq_eq_true (List.all_eq_true.1 (and_low ⟨m, by omega⟩) b (List.mem_range.2 hb))
    rw [h1, show ubits .i64 = 18446744073709551615 from rfl, h2]
    rfl
  show binK .andNot (.i .i64 ((2 ^ m - 1 : Nat) : Int)) (.i .i64 ((b : Nat) : Int)) _ = _
  rw [binK_not, hs, wrapK_eq]
  have hw : IntKind.i64.wrap ((2 ^ m - 1 - b : Nat) : Int) = ((2 ^ m - 1 - b : Nat) : Int) := InR.i64 (by omega) (by omega)
  rw [hw]
  exact k2
theorem keep_not {B : Bk} (V : VB B) {b : Nat} (hb : b < 2 ^ B.ls.length) : keepB (qS (2 ^ B.ls.length - 1 - b)) B = keepB (fun i => b.testBit i) B :=
  keep_congr V.cs fun i hi => by
    have h : (2 ^ B.ls.length - (b + 1)).testBit i = (decide (i < B.ls.length) && !b.testBit i) := Nat.testBit_two_pow_sub_succ hb i
    unfold qS
    rw [show 2 ^ B.ls.length - 1 - b = 2 ^ B.ls.length - (b + 1) by omega, h, decide_eq_true hi, Bool.true_and, Bool.not_not]
theorem bitL_len (b : Nat) : (bitL b).length ≤ 8 := bitJ_len b 8
end Go.Ev