import Derived.Test.YtjgbfnciedkafaaEvUJs
import Derived.Test.YtjgbfnciedkafaaEvUGc
set_option linter.all false
namespace Go.Ev
open Go.Proofs
set_option maxRecDepth 100000
def idxR (A : List Int) (x : Int) : Int :=
  match (List.range A.length).find? fun i : Nat => decide (x = A.getD i 0) with
  | some n => (n : Int)
  | none => -1
theorem j_Index (A : List Int) (x : Int) (hl : A.length ≤ 1000) : PureF Try.prog p159.ix [.lst 1 (ints A), .i .i64 x] (.i .i64 (idxR A x)) := by
  have e1 := ints_length A
  refine PureF.run fn158 (by simp) (by simp [PuL, PuE, Pu, pu_ints]) ?_; conv => whnf
  repeat' first | ((first | with_reducible (first | apply Qt | apply Qu) | refine Qa rfl ?_ | refine Qk rfl ?_ | refine Qb ?_ | refine Qc ?_ | refine Qi ?_ | refine Qj ?_) <;> conv => whnf)
  refine Rn.loop (fun j : Nat => ⟨(.n (.n (.n (.n .e (some (.i .i64 (A.length : Int))) .e) none .e) (some (.i .i64 x)) .e) (some (.lst 1 (ints A))) (.n (.n (.n .e (some (.i .i64 (j : Int))) .e) none .e) none .e)), .e, .h, none⟩) (fun j => j ≤ A.length ∧ ∀ i, i < j → decide (x = A.getD i 0) = false) (fun j => A.length - j) 0 ?_ ?_ ?_
  · refine X.le.mk ?_ (T.le_e _) (Nat.le_refl _) rfl rfl
    show T.le ((.n (.n (.n (.n .e (some (.i .i64 (A.length : Int))) .e) none .e) (some (.i .i64 x)) .e) (some (.lst 1 (ints A))) (.n (.n (.n .e (some (.i .i64 0)) .e) none .e) none .e)) : T D) _
    rw [← e1]
    (repeat' first | exact T.le_e _ | refine T.le_some ?_ rfl ?_ | refine T.le_none ?_ ?_)
  · exact ⟨Nat.zero_le _, fun i h => by omega⟩
  rintro j ⟨hj, ha⟩
  conv => whnf
  repeat' first | ((first | with_reducible (first | apply Qt | apply Qu) | refine Qa rfl ?_ | refine Qk rfl ?_ | refine Qb ?_ | refine Qc ?_ | refine Qi ?_ | refine Qj ?_) <;> conv => whnf)
  refine WB.dec (fun h => ?_) (fun h => ?_) <;> conv => whnf
  · have hlt : j < A.length := by omega
    repeat' first | ((first | with_reducible (first | apply Qt | apply Qu) | refine Qa rfl ?_ | refine Qk rfl ?_ | refine Qb ?_ | refine Qc ?_ | refine Qi ?_ | refine Qj ?_) <;> conv => whnf)
    refine WB.dec (fun h => ?_) (fun h => ?_) <;> conv => whnf
    · have hx : x = A.getD j 0 := h
      repeat' first | ((first | with_reducible (first | apply Qt | apply Qu) | refine Qa rfl ?_ | refine Qk rfl ?_ | refine Qb ?_ | refine Qc ?_ | refine Qi ?_ | refine Qj ?_) <;> conv => whnf)
      refine Fin.i rfl ?_
      unfold idxR
      rw [List.find?_range_eq_some.2 ⟨decide_eq_true hx, List.mem_range.2 hlt, fun i hi => by rw [ha i hi]; rfl⟩]
    · have hx : ¬ x = A.getD j 0 := h
      repeat' first | ((first | with_reducible (first | apply Qt | apply Qu) | refine Qa rfl ?_ | refine Qk rfl ?_ | refine Qb ?_ | refine Qc ?_ | refine Qi ?_ | refine Qj ?_) <;> conv => whnf)
      refine Again.to (j + 1) (by omega) ⟨by omega, fun i hi => ?_⟩ (Nat.le_refl _) ?_
      · by_cases e : i = j
        · subst e; exact decide_eq_false hx
        · exact ha i (by omega)
      (refine Shr.of ?_ ?_ rfl rfl) <;> (repeat' first | exact Rel.e | refine Rel.some ?_ ?_ ?_ | refine Rel.none ?_ ?_) <;> (try first | (show Fz _ _ _ _; first | exact Fz.pu trivial | (refine Fz.i ?_; first | rfl | omega) | (refine Fz.kpt ?_; (focus (show Pos.nat _ < Pos.nat _; simp [Pos.nat]; done))) | (refine Fz.ksl ?_; (focus (show Pos.nat _ < Pos.nat _; simp [Pos.nat]; done))) | (refine Fz.kmp ?_; (focus (show Pos.nat _ < Pos.nat _; simp [Pos.nat]; done))) | (refine Fz.pu ?_; simp [Cell.d, Pu, PuL, PuE, pu_ints, pu_ln, pu_ct]; done) | (refine Fz.pu ?_; simp only [Cell.d]; assumption)) | (refine RO'.of ?_ (ShC.same ?_); (focus (show Pos.nat _ < Pos.nat _; simp [Pos.nat]; done)); (repeat' first | exact ShC.nl | refine ShC.cn ?_ ?_) <;> first | exact Fz.pu trivial | (refine Fz.i ?_; first | rfl | omega) | (refine Fz.kpt ?_; (focus (show Pos.nat _ < Pos.nat _; simp [Pos.nat]; done))) | (refine Fz.ksl ?_; (focus (show Pos.nat _ < Pos.nat _; simp [Pos.nat]; done))) | (refine Fz.kmp ?_; (focus (show Pos.nat _ < Pos.nat _; simp [Pos.nat]; done))) | (refine Fz.pu ?_; simp [Cell.d, Pu, PuL, PuE, pu_ints, pu_ln, pu_ct]; done) | (refine Fz.pu ?_; simp only [Cell.d]; assumption)))
      all_goals first | (refine Fz.i ?_; omega) | (refine Fz.pu ?_; simp [Pu, pu_ints])
  · repeat' first | ((first | with_reducible (first | apply Qt | apply Qu) | refine Qa rfl ?_ | refine Qk rfl ?_ | refine Qb ?_ | refine Qc ?_ | refine Qi ?_ | refine Qj ?_) <;> conv => whnf)
    refine Fin.i rfl ?_
    unfold idxR
    rw [List.find?_range_eq_none.2 fun i hi => by rw [ha i (by omega)]; rfl]
def conR (A : List Int) (x : Int) : Bool := decide (0 ≤ idxR A x)
theorem j_Contains (A : List Int) (x : Int) (hl : A.length ≤ 1000) : PureF Try.prog p144.ix [.lst 1 (ints A), .i .i64 x] (.b (conR A x)) := by
  have iI := j_Index A x hl
  refine PureF.run fn143 (by simp) (by simp [PuL, PuE, Pu, pu_ints]) ?_; conv => whnf
  repeat' first | ((first | with_reducible (first | apply Qt | apply Qu) | refine Qa rfl ?_ | refine Qk rfl ?_ | refine Qb ?_ | refine Qc ?_ | refine Qi ?_ | refine Qj ?_ | refine Qf (iI) ?_) <;> conv => whnf)
  exact Fin.b rfl rfl
theorem j_IndexN (x : Int) : PureF Try.prog p159.ix [.ns, .i .i64 x] (.i .i64 (-1)) := by
  refine PureF.run fn158 (by simp) (by simp [PuL, PuE, Pu]) ?_; conv => whnf
  repeat' first | ((first | with_reducible (first | apply Qt | apply Qu) | refine Qa rfl ?_ | refine Qk rfl ?_ | refine Qb ?_ | refine Qc ?_ | refine Qi ?_ | refine Qj ?_) <;> conv => whnf)
  refine Rn.loop (fun _ : Nat => ⟨(.n (.n (.n (.n .e (some (.i .i64 0)) .e) none .e) (some (.i .i64 x)) .e) (some (.ns)) (.n (.n (.n .e (some (.i .i64 0)) .e) none .e) none .e)), .e, .h, none⟩) (fun _ => True) (fun _ => 0) 0 ?_ ?_ ?_
  · (first | (refine X.le.mk ?_ ?_ (Nat.le_refl _) rfl rfl) | skip) <;> (repeat' first | exact T.le_e _ | refine T.le_some ?_ ?_ ?_ | refine T.le_none ?_ ?_ | rfl)
  · trivial
  intro j _
  conv => whnf
  repeat' first | ((first | with_reducible (first | apply Qt | apply Qu) | refine Qa rfl ?_ | refine Qk rfl ?_ | refine Qb ?_ | refine Qc ?_ | refine Qi ?_ | refine Qj ?_) <;> conv => whnf)
  refine WB.ff ?_; conv => whnf
  repeat' first | ((first | with_reducible (first | apply Qt | apply Qu) | refine Qa rfl ?_ | refine Qk rfl ?_ | refine Qb ?_ | refine Qc ?_ | refine Qi ?_ | refine Qj ?_) <;> conv => whnf)
  exact Fin.i rfl rfl
theorem j_ContainsN (x : Int) : PureF Try.prog p144.ix [.ns, .i .i64 x] (.b (conR [] x)) := by
  have iI := j_IndexN x
  refine PureF.run fn143 (by simp) (by simp [PuL, PuE, Pu]) ?_; conv => whnf
  repeat' first | ((first | with_reducible (first | apply Qt | apply Qu) | refine Qa rfl ?_ | refine Qk rfl ?_ | refine Qb ?_ | refine Qc ?_ | refine Qi ?_ | refine Qj ?_ | refine Qf (iI) ?_) <;> conv => whnf)
  exact Fin.b rfl rfl
theorem conR_iff {A : List Int} {x : Int} : conR A x = true ↔ x ∈ A := by
  unfold conR idxR
  rw [decide_eq_true_iff]
  cases hF : (List.range A.length).find? fun i : Nat => decide (x = A.getD i 0) with
  | some n =>
    obtain ⟨h1, h2, _⟩ := List.find?_range_eq_some.1 hF
    have h1 : x = A.getD n 0 := by simpa using h1
    refine ⟨fun _ => ?_, fun _ => Int.natCast_nonneg n⟩
    rw [h1]
    exact getD_mem (List.mem_range.1 h2)
  | none =>
    have h3 := List.find?_range_eq_none.1 hF
    refine ⟨fun h => absurd h (by decide), fun h => ?_⟩
    obtain ⟨k, hk, e⟩ := List.mem_iff_getElem.1 h
    have h4 := h3 k hk
    have h5 : x = A.getD k 0 := by simp [List.getD, hk, e]
    rw [decide_eq_true h5] at h4
    cases h4
theorem j_ContainsS (S : List Int) (x : Int) (hl : S.length ≤ 1000) : PureF Try.prog p144.ix [setD S, .i .i64 x] (.b (conR S x)) := by
  cases S with
  | nil => exact j_ContainsN x
  | cons a l => exact j_Contains (a :: l) x hl
theorem j_nan (x : Int) : PureF Try.prog p161.ix [.i .i64 x] (.b false) := by
  refine PureF.run fn160 (by simp) (by simp [PuL, PuE, Pu]) ?_; conv => whnf
  repeat' first | ((first | with_reducible (first | apply Qt | apply Qu) | refine Qa rfl ?_ | refine Qk rfl ?_ | refine Qb ?_ | refine Qc ?_ | refine Qi ?_ | refine Qj ?_ | with_reducible (first | refine Qm ?_ | refine Qn ?_ | refine Qo ?_ | refine Qp ?_ | refine WB.nt ?_ | refine WB.nf ?_ | refine WB.dec (fun h => ?_) (fun h => ?_) | refine WB.ndec (fun h => ?_) (fun h => ?_)) | refine WB.mk (fun h => ?_) (fun h => ?_)) <;> conv => whnf)
  all_goals first | exact Fin.b rfl rfl | exact Fin.b rfl (by simp) | trace_state
theorem j_cnan (x : Int) : PureF Try.prog p165.ix [.i .i64 x] (.b false) := by
  refine PureF.run fn164 (by simp) (by simp [PuL, PuE, Pu]) ?_; conv => whnf
  repeat' first | ((first | with_reducible (first | apply Qt | apply Qu) | refine Qa rfl ?_ | refine Qk rfl ?_ | refine Qb ?_ | refine Qc ?_ | refine Qi ?_ | refine Qj ?_ | with_reducible (first | refine Qm ?_ | refine Qn ?_ | refine Qo ?_ | refine Qp ?_ | refine WB.nt ?_ | refine WB.nf ?_ | refine WB.dec (fun h => ?_) (fun h => ?_) | refine WB.ndec (fun h => ?_) (fun h => ?_)) | refine WB.mk (fun h => ?_) (fun h => ?_)) <;> conv => whnf)
  all_goals first | exact Fin.b rfl rfl | exact Fin.b rfl (by simp) | trace_state
theorem j_less (a b : Int) : PureF Try.prog p160.ix [.i .i64 a, .i .i64 b] (.b (decide (a < b))) := by
  have h1 := j_cnan a
  refine PureF.run fn159 (by simp) (by simp [PuL, PuE, Pu]) ?_; conv => whnf
  repeat' first | ((first | with_reducible (first | apply Qt | apply Qu) | refine Qa rfl ?_ | refine Qk rfl ?_ | refine Qb ?_ | refine Qc ?_ | refine Qi ?_ | refine Qj ?_ | refine Qf (h1) ?_) <;> conv => whnf)
  repeat' first | ((first | with_reducible (first | apply Qt | apply Qu) | refine WB.ff ?_ | refine WB.tt ?_) <;> conv => whnf)
  all_goals exact Fin.b rfl rfl
def ltN (S : List Int) (t : Int) : Nat := (S.filter fun x => decide (x < t)).length
theorem ltN_le (S : List Int) (t : Int) : ltN S t ≤ S.length := List.length_filter_le _ _
theorem ltN_at {S : List Int} (hs : S.Pairwise (· < ·)) {t : Int} {i : Nat} (hi : i ≤ S.length) (h1 : ∀ k, k < i → S.getD k 0 < t) (h2 : ∀ k, i ≤ k → k < S.length → ¬ S.getD k 0 < t) : ltN S t = i := by
  have e : S = S.take i ++ S.drop i := (List.take_append_drop i S).symm
  unfold ltN
  rw [e, List.filter_append, List.length_append]
  have a1 : (S.take i).filter (fun x => decide (x < t)) = S.take i := by
    rw [List.filter_eq_self]
    intro x hx
    obtain ⟨k, hk, rfl⟩ := List.mem_iff_getElem.1 hx
    rw [List.length_take] at hk
    have := h1 k (by omega)
    rw [decide_eq_true_iff]
    simpa [List.getD, show k < S.length by omega] using this
  have a2 : (S.drop i).filter (fun x => decide (x < t)) = [] := by
    rw [List.filter_eq_nil_iff]
    intro x hx
    obtain ⟨k, hk, rfl⟩ := List.mem_iff_getElem.1 hx
    rw [List.length_drop] at hk
    have := h2 (i + k) (by omega) (by omega)
    rw [decide_eq_true_iff]
    simpa [List.getD, show i + k < S.length by omega] using this
  rw [a1, a2, List.length_take, List.length_nil]
  omega
theorem pw_at {S : List Int} (hs : S.Pairwise (· < ·)) {i k : Nat} (h : i < k) (hk : k < S.length) : S.getD i 0 < S.getD k 0 := by
  rw [show S.getD i 0 = S[i] by simp [List.getD, show i < S.length by omega], show S.getD k 0 = S[k] by simp [List.getD, hk]]
  exact List.pairwise_iff_getElem.1 hs i k (by omega) hk h
def bsF (S : List Int) (t : Int) : Bool := decide (ltN S t < S.length) && decide (S.getD (ltN S t) 0 = t)
set_option maxHeartbeats 1000000 in
theorem j_bs (S : List Int) (hs : S.Pairwise (· < ·)) (hl : S.length ≤ 1000) (t : Int) : PureF Try.prog p145.ix [.lst 1 (ints S), .i .i64 t] (.tp [.i .i64 (ltN S t : Int), .b (bsF S t)]) := by
  have e1 := ints_length S
  refine PureF.run fn144 (by simp) (by simp [PuL, PuE, Pu, pu_ints]) ?_; conv => whnf
  repeat' first | ((first | with_reducible (first | apply Qt | apply Qu) | refine Qa rfl ?_ | refine Qk rfl ?_ | refine Qb ?_ | refine Qc ?_ | refine Qi ?_ | refine Qj ?_) <;> conv => whnf)
  refine Rn.loop (fun s : Nat × Nat => ⟨(.n (.n (.n (.n .e (some (.i .i64 (s.1 : Int))) .e) none .e) (some (.i .i64 t)) .e) (some (.lst 1 (ints S))) (.n (.n (.n .e (some (.i .i64 (s.2 : Int))) .e) none .e) none (.n .e (some (.i .i64 (S.length : Int))) .e))), .e, .h, none⟩) (fun s => s.1 ≤ s.2 ∧ s.2 ≤ S.length ∧ (∀ k, k < s.1 → S.getD k 0 < t) ∧ ∀ k, s.2 ≤ k → k < S.length → ¬ S.getD k 0 < t) (fun s => s.2 - s.1) (0, S.length) ?_ ?_ ?_
  · refine X.le.mk ?_ (T.le_e _) (Nat.le_refl _) rfl rfl
    show T.le ((.n (.n (.n (.n .e (some (.i .i64 0)) .e) none .e) (some (.i .i64 t)) .e) (some (.lst 1 (ints S))) (.n (.n (.n .e (some (.i .i64 (S.length : Int))) .e) none .e) none (.n .e (some (.i .i64 (S.length : Int))) .e))) : T D) _
    rw [← e1]
    (repeat' first | exact T.le_e _ | refine T.le_some ?_ rfl ?_ | refine T.le_none ?_ ?_)
  · exact ⟨Nat.zero_le _, Nat.le_refl _, fun k h => absurd h (Nat.not_lt_zero _), fun k h1 h2 => by omega⟩
  rintro ⟨i, j⟩ ⟨hij, hj, hlo, hhi⟩
  have hij : i ≤ j := hij
  have hj : j ≤ S.length := hj
  have hlo : ∀ k, k < i → S.getD k 0 < t := hlo
  have hhi : ∀ k, j ≤ k → k < S.length → ¬ S.getD k 0 < t := hhi
  conv => whnf
  repeat' first | ((first | with_reducible (first | apply Qt | apply Qu) | refine Qa rfl ?_ | refine Qk rfl ?_ | refine Qb ?_ | refine Qc ?_ | refine Qi ?_ | refine Qj ?_) <;> conv => whnf)
  refine WB.dec (fun h => ?_) (fun h => ?_) <;> conv => whnf
  · have hlt : i < j := by omega
    obtain ⟨m, hm⟩ : ∃ m : Nat, (i + j) / 2 = m := ⟨_, rfl⟩
    repeat' first | ((first | with_reducible (first | apply Qt | apply Qu) | refine Qa rfl ?_ | refine Qk rfl ?_ | refine Qb ?_ | refine Qc ?_ | refine Qi ?_ | refine Qj ?_) <;> conv => whnf)
    try (refine And.intro (InR.u64 (by omega) (by omega)) ?_; conv => whnf)
    repeat' first | ((first | with_reducible (first | apply Qt | apply Qu) | refine Qa rfl ?_ | refine Qk rfl ?_ | refine Qb ?_ | refine Qc ?_ | refine Qi ?_ | refine Qj ?_) <;> conv => whnf)
    refine WSt.shrU (a := i + j) (j := 1) (by rfl) (by rfl) rfl (by omega) (fun r h1 b1 => ?_); conv => whnf
    have hr : r = m := by omega
    subst hr
    have hmj : r < j := by omega
    have hmi : i ≤ r := by omega
    have iL := j_less (S.getD r 0) t
    repeat' first | ((first | with_reducible (first | apply Qt | apply Qu) | refine Qa rfl ?_ | refine Qk rfl ?_ | refine Qb ?_ | refine Qc ?_ | refine Qi ?_ | refine Qj ?_) <;> conv => whnf)
    repeat' first | ((first | with_reducible (first | apply Qt | apply Qu) | refine Qa rfl ?_ | refine Qk rfl ?_ | refine Qb ?_ | refine Qc ?_ | refine Qi ?_ | refine Qj ?_ | refine Qf (iL) ?_) <;> conv => whnf)
    by_cases hc : S.getD r 0 < t
    · rw [decide_eq_true hc]
      refine WB.tt ?_; conv => whnf
      repeat' first | ((first | with_reducible (first | apply Qt | apply Qu) | refine Qa rfl ?_ | refine Qk rfl ?_ | refine Qb ?_ | refine Qc ?_ | refine Qi ?_ | refine Qj ?_) <;> conv => whnf)
      refine Again.to (r + 1, j) (show j - (r + 1) < j - i by omega) ⟨by show r + 1 ≤ j; omega, hj, fun k hk => ?_, hhi⟩ (Nat.le_refl _) ?_
      · rcases Nat.lt_or_ge k r with h | h
        · exact Int.lt_trans (pw_at hs h (by omega)) hc
        · have : k = r := by have hk : k < r + 1 := hk; omega
          rw [this]; exact hc
      (refine Shr.of ?_ ?_ rfl rfl) <;> (repeat' first | exact Rel.e | refine Rel.some ?_ ?_ ?_ | refine Rel.none ?_ ?_) <;> (try first | (show Fz _ _ _ _; first | exact Fz.pu trivial | (refine Fz.i ?_; first | rfl | omega) | (refine Fz.kpt ?_; (focus (show Pos.nat _ < Pos.nat _; simp [Pos.nat]; done))) | (refine Fz.ksl ?_; (focus (show Pos.nat _ < Pos.nat _; simp [Pos.nat]; done))) | (refine Fz.kmp ?_; (focus (show Pos.nat _ < Pos.nat _; simp [Pos.nat]; done))) | (refine Fz.pu ?_; simp [Cell.d, Pu, PuL, PuE, pu_ints, pu_ln, pu_ct]; done) | (refine Fz.pu ?_; simp only [Cell.d]; assumption)) | (refine RO'.of ?_ (ShC.same ?_); (focus (show Pos.nat _ < Pos.nat _; simp [Pos.nat]; done)); (repeat' first | exact ShC.nl | refine ShC.cn ?_ ?_) <;> first | exact Fz.pu trivial | (refine Fz.i ?_; first | rfl | omega) | (refine Fz.kpt ?_; (focus (show Pos.nat _ < Pos.nat _; simp [Pos.nat]; done))) | (refine Fz.ksl ?_; (focus (show Pos.nat _ < Pos.nat _; simp [Pos.nat]; done))) | (refine Fz.kmp ?_; (focus (show Pos.nat _ < Pos.nat _; simp [Pos.nat]; done))) | (refine Fz.pu ?_; simp [Cell.d, Pu, PuL, PuE, pu_ints, pu_ln, pu_ct]; done) | (refine Fz.pu ?_; simp only [Cell.d]; assumption)))
      all_goals first | exact Fz.pu (pu_ints _) | exact Fz.pu trivial
    · rw [decide_eq_false hc]
      refine WB.ff ?_; conv => whnf
      repeat' first | ((first | with_reducible (first | apply Qt | apply Qu) | refine Qa rfl ?_ | refine Qk rfl ?_ | refine Qb ?_ | refine Qc ?_ | refine Qi ?_ | refine Qj ?_) <;> conv => whnf)
      refine Again.to (i, r) (show r - i < j - i by omega) ⟨hmi, by show r ≤ S.length; omega, hlo, fun k h1 h2 => ?_⟩ (Nat.le_refl _) ?_
      · have h1 : r ≤ k := h1
        rcases Nat.lt_or_ge r k with h | h
        · have := pw_at hs h h2
          omega
        · have : k = r := by omega
          rw [this]; exact hc
      (refine Shr.of ?_ ?_ rfl rfl) <;> (repeat' first | exact Rel.e | refine Rel.some ?_ ?_ ?_ | refine Rel.none ?_ ?_) <;> (try first | (show Fz _ _ _ _; first | exact Fz.pu trivial | (refine Fz.i ?_; first | rfl | omega) | (refine Fz.kpt ?_; (focus (show Pos.nat _ < Pos.nat _; simp [Pos.nat]; done))) | (refine Fz.ksl ?_; (focus (show Pos.nat _ < Pos.nat _; simp [Pos.nat]; done))) | (refine Fz.kmp ?_; (focus (show Pos.nat _ < Pos.nat _; simp [Pos.nat]; done))) | (refine Fz.pu ?_; simp [Cell.d, Pu, PuL, PuE, pu_ints, pu_ln, pu_ct]; done) | (refine Fz.pu ?_; simp only [Cell.d]; assumption)) | (refine RO'.of ?_ (ShC.same ?_); (focus (show Pos.nat _ < Pos.nat _; simp [Pos.nat]; done)); (repeat' first | exact ShC.nl | refine ShC.cn ?_ ?_) <;> first | exact Fz.pu trivial | (refine Fz.i ?_; first | rfl | omega) | (refine Fz.kpt ?_; (focus (show Pos.nat _ < Pos.nat _; simp [Pos.nat]; done))) | (refine Fz.ksl ?_; (focus (show Pos.nat _ < Pos.nat _; simp [Pos.nat]; done))) | (refine Fz.kmp ?_; (focus (show Pos.nat _ < Pos.nat _; simp [Pos.nat]; done))) | (refine Fz.pu ?_; simp [Cell.d, Pu, PuL, PuE, pu_ints, pu_ln, pu_ct]; done) | (refine Fz.pu ?_; simp only [Cell.d]; assumption)))
      all_goals first | exact Fz.pu (pu_ints _) | exact Fz.pu trivial
  · have he : i = j := by omega
    subst he
    have hN : ltN S t = i := ltN_at hs hj hlo hhi
    have hB : bsF S t = (decide (i < S.length) && decide (S.getD i 0 = t)) := by unfold bsF; rw [hN]
    rw [hN, hB]
    by_cases h1 : i < S.length
    · by_cases h2 : S.getD i 0 = t
      · rw [decide_eq_true h1, decide_eq_true h2]
        repeat' first | ((first | with_reducible (first | apply Qt | apply Qu) | refine Qa rfl ?_ | refine Qk rfl ?_ | refine Qb ?_ | refine Qc ?_ | refine Qi ?_ | refine Qj ?_ | with_reducible (first | refine Qm ?_ | refine Qn ?_ | refine Qo ?_ | refine Qp ?_ | refine WB.nt ?_ | refine WB.nf ?_ | refine WB.dec (fun h => ?_) (fun h => ?_) | refine WB.ndec (fun h => ?_) (fun h => ?_)) | refine WB.mk (fun h => ?_) (fun h => ?_)) <;> conv => whnf)
        all_goals exact Fin.two (.inr rfl) rfl rfl (.pu trivial) (.pu trivial)
      · have iN := j_nan (S.getD i 0)
        rw [decide_eq_true h1, decide_eq_false h2]
        repeat' first | ((first | with_reducible (first | apply Qt | apply Qu) | refine Qa rfl ?_ | refine Qk rfl ?_ | refine Qb ?_ | refine Qc ?_ | refine Qi ?_ | refine Qj ?_ | refine Qf (iN) ?_ | with_reducible (first | refine Qm ?_ | refine Qn ?_ | refine Qo ?_ | refine Qp ?_ | refine WB.nt ?_ | refine WB.nf ?_ | refine WB.dec (fun h => ?_) (fun h => ?_) | refine WB.ndec (fun h => ?_) (fun h => ?_)) | refine WB.mk (fun h => ?_) (fun h => ?_)) <;> conv => whnf)
        repeat' first | ((first | with_reducible (first | apply Qt | apply Qu) | refine WB.ff ?_ | refine WB.tt ?_) <;> conv => whnf)
        all_goals exact Fin.two (.inr rfl) rfl rfl (.pu trivial) (.pu trivial)
    · rw [decide_eq_false h1]
      repeat' first | ((first | with_reducible (first | apply Qt | apply Qu) | refine Qa rfl ?_ | refine Qk rfl ?_ | refine Qb ?_ | refine Qc ?_ | refine Qi ?_ | refine Qj ?_ | with_reducible (first | refine Qm ?_ | refine Qn ?_ | refine Qo ?_ | refine Qp ?_ | refine WB.nt ?_ | refine WB.nf ?_ | refine WB.dec (fun h => ?_) (fun h => ?_) | refine WB.ndec (fun h => ?_) (fun h => ?_)) | refine WB.mk (fun h => ?_) (fun h => ?_)) <;> conv => whnf)
      all_goals exact Fin.two (.inr rfl) rfl rfl (.pu trivial) (.pu trivial)
theorem j_bsN (t : Int) : PureF Try.prog p145.ix [.ns, .i .i64 t] (.tp [.i .i64 (ltN [] t : Int), .b (bsF [] t)]) :=
  (j_bs [] .nil (Nat.zero_le _) t).sub fun γ w => .cons .ns (.cons (.pu (fun _ h => h) trivial) .nil)
theorem j_bsS (S : List Int) (hs : S.Pairwise (· < ·)) (hl : S.length ≤ 1000) (t : Int) : PureF Try.prog p145.ix [setD S, .i .i64 t] (.tp [.i .i64 (ltN S t : Int), .b (bsF S t)]) := by
  cases S with
  | nil => exact j_bsN t
  | cons a l => exact j_bs (a :: l) hs hl t
end Go.Ev
namespace Go.Ev
open Go.Proofs
set_option maxRecDepth 100000
theorem lnD3 (a : Ln) : (lnD a).length = 3 := rfl
theorem ctD3 (a : Ct) : (ctD a).length = 3 := rfl
theorem lnDp (a : Ln) : PuL (lnD a) := by simp [lnD, PuL, Pu]
theorem ctDp (a : Ct) : PuL (ctD a) := by simp [ctD, PuL, Pu]
def woL (S : List Int) (ls : List Ln) (j : Nat) : List Ln := ((List.range j).filter fun i : Nat => !conR S (i : Int)).map fun i => ls.getD i default
def woF (S : List Int) (ls : List Ln) : List Ln := woL S ls ls.length
theorem woL_succ (S : List Int) (ls : List Ln) (j : Nat) : woL S ls (j + 1) = if conR S (j : Int) = true then woL S ls j else woL S ls j ++ [ls.getD j default] := by
  unfold woL
  rw [List.range_succ, List.filter_append, List.map_append]
  cases h : conR S (j : Int) with
  | true => rw [if_pos rfl]; simp [h]
  | false => rw [if_neg (by decide)]; simp [h]
theorem woL_len (S : List Int) (ls : List Ln) (j : Nat) : (woL S ls j).length ≤ j := by
  unfold woL
  rw [List.length_map]
  have := List.length_filter_le (fun i : Nat => !conR S (i : Int)) (List.range j)
  rw [List.length_range] at this
  exact this
def ctW (S : List Int) (c : Ct) : Ct := ⟨c.a - (ltN S c.a : Int), c.lo, c.hi⟩
def bk6C (n coin box : Int) (ls : List Ln) (cs : List Ct) : C := .cells false [.o (.i .i64 n) 0, .o (.i .i64 coin) 0, .o (.i .i64 box) 0, .o (.lst 3 (rows lnD ls)) 0, .o (.lst 3 (rows ctD cs)) 0, .o .any 0] 1
def zr5C : C := .cells false [.o (.i .i64 0) 0, .o (.i .i64 0) 0, .o (.i .i64 0) 0, .o .ns 0, .o .ns 0] 1
def ou5C (n coin box : Int) (d e : D) : C := .cells false [.o (.i .i64 n) 0, .o (.i .i64 coin) 0, .o (.i .i64 box) 0, .o d 0, .o e 0] 1
theorem bk6C_sh {n coin box : Int} {ls : List Ln} {cs : List Ct} {B : Pos → Prop} {ob : T C} : ShC B ob (bk6C n coin box ls cs) (bk6C n coin box ls cs) := ShC.same (ShC.cn (.pu trivial) (ShC.cn (.pu trivial) (ShC.cn (.pu trivial) (ShC.cn (.pu (pu_ln _)) (ShC.cn (.pu (pu_ct _)) (ShC.cn (.pu trivial) ShC.nl))))))
theorem zr5C_sh {B : Pos → Prop} {ob : T C} : ShC B ob zr5C zr5C := ShC.same (ShC.cn (.pu trivial) (ShC.cn (.pu trivial) (ShC.cn (.pu trivial) (ShC.cn (.pu trivial) (ShC.cn (.pu trivial) ShC.nl)))))
theorem ou5C_sh {n coin box : Int} {d d' e e' : D} {B : Pos → Prop} {ob : T C} (hd : Fz B ob d d') (he : Fz B ob e e') : ShC B ob (ou5C n coin box d e) (ou5C n coin box d' e') := by
  refine .cells fun k c' hc => ?_
  match k, hc with
  | 0, hc => cases hc; exact ⟨_, rfl, fun _ h => h, .pu trivial⟩
  | 1, hc => cases hc; exact ⟨_, rfl, fun _ h => h, .pu trivial⟩
  | 2, hc => cases hc; exact ⟨_, rfl, fun _ h => h, .pu trivial⟩
  | 3, hc => cases hc; exact ⟨_, rfl, fun _ h => h, hd⟩
  | 4, hc => cases hc; exact ⟨_, rfl, fun _ h => h, he⟩
  | k + 5, hc => cases hc
noncomputable def woS2 (n coin box : Int) (ls : List Ln) (cs : List Ct) (S : List Int) (L : List Ln) (A : List Ct) (j : Nat) : X := ⟨(.n (.n (.n (.n .e none (.n (.n .e (some (.i .i64 (cs.length : Int))) .e) none .e)) none .e) (some (setD S)) (.n .e (some (.pt (.i .h) 0 0)) .e)) none (.n (.n (.n .e none (.n (.n .e (some (.i .i64 (j : Int))) .e) none .e)) (some (.pt (.o .h) 0 0)) .e) (some (.pt .h 0 0)) (.n .e none (.n (.n (.n .e (some (.lst 3 (rows ctD cs))) .e) none .e) none .e)))), (.n (.n .e (some (zr5C)) (.n .e (blG ctD A) .e)) (some (bk6C n coin box ls cs)) (.n .e (some (ou5C n coin box (.lst 3 (rows lnD L)) (slG (.o (.i .h)) 3 A))) .e)), nxG (.o (.o .h)) (.i (.i .h)) A, none⟩
noncomputable def woS1 (n coin box : Int) (ls : List Ln) (cs : List Ct) (S : List Int) (A : List Ln) (j : Nat) : X := ⟨(.n (.n (.n .e none (.n (.n .e (some (.i .i64 (ls.length : Int))) .e) none .e)) (some (setD S)) (.n .e (some (.pt (.i .h) 0 0)) .e)) none (.n (.n .e (some (.pt (.o .h) 0 0)) (.n (.n .e (some (.i .i64 (j : Int))) .e) none .e)) (some (.pt .h 0 0)) (.n (.n (.n .e (some (.lst 3 (rows lnD ls))) .e) none .e) none .e))), (.n (.n .e (some (zr5C)) (.n .e (blG lnD A) .e)) (some (bk6C n coin box ls cs)) (.n .e (some (ou5C n coin box (slG (.o (.i .h)) 3 A) .ns)) .e)), nxG (.o (.o .h)) (.i (.i .h)) A, none⟩
def seqW : RC → RC
  | .seq _ b => b
  | c => c
noncomputable def rc124R : RC := seqW (seqW (seqW (seqW rc124)))
noncomputable def woZ (n coin box : Int) (ls : List Ln) (cs : List Ct) (S : List Int) (L : List Ln) : X := ⟨(.n (.n .e (some (setD S)) (.n .e (some (.pt (.i .h) 0 0)) .e)) none (.n (.n .e (some (.pt (.o .h) 0 0)) .e) (some (.pt .h 0 0)) .e)), (.n (.n .e (some (zr5C)) .e) (some (bk6C n coin box ls cs)) (.n .e (some (ou5C n coin box (.lst 3 (rows lnD L)) .ns)) .e)), .o (.o .h), none⟩
set_option maxHeartbeats 2000000 in
theorem j_withoutR (n coin box : Int) (ls : List Ln) (cs : List Ct) (S : List Int) (hS : S.length ≤ 1000) (hp : S.Pairwise (· < ·)) (L : List Ln) (hc : cs.length ≤ 100) (ha : ∀ c ∈ cs, 0 ≤ c.a ∧ c.a ≤ 1000) : Rn Try.prog 64 rc124R (woZ n coin box ls cs S L) (Fin rs124 (.ag [.i .i64 n, .i .i64 coin, .i .i64 box, .lst 3 (rows lnD L), .lst 3 (rows ctD (cs.map (ctW S)))])) := by
  have e3 := rows_length ctD cs
  conv => whnf
  repeat' first | ((first | with_reducible (first | apply Qt | apply Qu) | refine Qa rfl ?_ | refine Qk rfl ?_ | refine Qb ?_ | refine Qc ?_ | refine Qi ?_ | refine Qj ?_) <;> conv => whnf)
  refine Rn.loop (fun j : Nat => woS2 n coin box ls cs S L ((cs.take j).map (ctW S)) j) (fun j => j ≤ cs.length ∧ True) (fun j => cs.length - j) 0 ?_ ?_ ?_
  · refine X.le.mk ?_ ?_ (Nat.le_refl _) rfl rfl
    · show T.le ((.n (.n (.n (.n .e none (.n (.n .e (some (.i .i64 (cs.length : Int))) .e) none .e)) none .e) (some (setD S)) (.n .e (some (.pt (.i .h) 0 0)) .e)) none (.n (.n (.n .e none (.n (.n .e (some (.i .i64 0)) .e) none .e)) (some (.pt (.o .h) 0 0)) .e) (some (.pt .h 0 0)) (.n .e none (.n (.n (.n .e (some (.lst 3 (rows ctD cs))) .e) none .e) none .e)))) : T D) _
      rw [← e3]
      (repeat' first | exact T.le_e _ | refine T.le_some ?_ rfl ?_ | refine T.le_none ?_ ?_ | refine T.le_ee ?_ ?_)
    · show T.le ((.n (.n .e (some (zr5C)) (.n .e none .e)) (some (bk6C n coin box ls cs)) (.n .e (some (ou5C n coin box (.lst 3 (rows lnD L)) .ns)) .e)) : T C) _
      (repeat' first | exact T.le_e _ | refine T.le_some ?_ rfl ?_ | refine T.le_none ?_ ?_ | refine T.le_ee ?_ ?_)
  · exact ⟨Nat.zero_le _, trivial⟩
  rintro j ⟨hj, _⟩
  have hsc : j < cs.length → (cs.take (j + 1)).map (ctW S) = (cs.take j).map (ctW S) ++ [ctW S (cs.getD j default)] := fun h => by
    rw [take_succ_getD (d := default) h, List.map_append]; rfl
  have hAl : ((cs.take j).map (ctW S)).length ≤ j := by rw [List.length_map, List.length_take]; omega
  have hend : j = cs.length → (cs.take j).map (ctW S) = cs.map (ctW S) := fun h => by rw [List.take_of_length_le (by omega)]
  generalize hA : (cs.take j).map (ctW S) = A at *
  conv => whnf
  repeat' first | ((first | with_reducible (first | apply Qt | apply Qu) | refine Qa rfl ?_ | refine Qk rfl ?_ | refine Qb ?_ | refine Qc ?_ | refine Qi ?_ | refine Qj ?_) <;> conv => whnf)
  refine WB.dec (fun h => ?_) (fun h => ?_) <;> conv => whnf
  · have hlt : j < cs.length := by omega
    have hsc := hsc hlt
    have hca := ha _ (getD_mem (d := default) hlt)
    have iB := j_bsS S hp hS (cs.getD j default).a
    have hle := ltN_le S (cs.getD j default).a
    cases A with
    | nil =>
      repeat' first | ((first | with_reducible (first | apply Qt | apply Qu) | refine Qa rfl ?_ | refine Qk rfl ?_ | refine Qb ?_ | refine Qc ?_ | refine Qi ?_ | refine Qj ?_ | refine Qf (iB) ?_) <;> conv => whnf)
      refine WSt.app_first (r := ctD (ctW S (cs.getD j default))) (by rfl) (.inl rfl) (by rfl) (by rfl) (by rfl) (by rfl) ?_; conv => whnf
      repeat' first | ((first | with_reducible (first | apply Qt | apply Qu) | refine Qa rfl ?_ | refine Qk rfl ?_ | refine Qb ?_ | refine Qc ?_ | refine Qi ?_ | refine Qj ?_) <;> conv => whnf)
      refine Again.to (j + 1) (by omega) ⟨by omega, trivial⟩ (by show (nxG (.o (.o .h)) (.i (.i .h)) ((cs.take j).map (ctW S))).nat ≤ (nxG (.o (.o .h)) (.i (.i .h)) ((cs.take (j + 1)).map (ctW S))).nat; rw [hA, hsc]; exact (show 4 ≤ 7 by omega)) ?_
      show Shr _ (woS2 n coin box ls cs S L ((cs.take (j + 1)).map (ctW S)) (j + 1))
      rw [hsc]
      refine Shr.of ?_ ?_ rfl rfl
      · show Rel _ _ ((.n (.n (.n (.n .e none (.n (.n .e (some (.i .i64 (cs.length : Int))) .e) none .e)) none .e) (some (setD S)) (.n .e (some (.pt (.i .h) 0 0)) .e)) none (.n (.n (.n .e none (.n (.n .e (some (.i .i64 ((j + 1 : Nat) : Int))) .e) none .e)) (some (.pt (.o .h) 0 0)) .e) (some (.pt .h 0 0)) (.n .e none (.n (.n (.n .e (some (.lst 3 (rows ctD cs))) .e) none .e) none .e)))) : T D) _
        skip
        (repeat' first | exact Rel.e | refine Rel.some ?_ ?_ ?_ | refine Rel.none ?_ ?_ | refine Rel.ee ?_ ?_)
        all_goals show Fz _ _ _ _
        all_goals first | exact .pu trivial | exact .kpt (show _ < 7 by simp [Pos.nat]) | exact .ksl (show _ < 7 by simp [Pos.nat]) | exact .kmp (show _ < 7 by simp [Pos.nat]) | exact .pu (setD_pu _) | exact .pu (pu_ct _) | exact .pu (pu_ln _)
      · show Rel _ _ ((.n (.n .e (some (zr5C)) (.n .e (some (.cells false ((ctD (ctW S (cs.getD j default))).map fun d => Cell.o d 0) 1)) .e)) (some (bk6C n coin box ls cs)) (.n .e (some (ou5C n coin box (.lst 3 (rows lnD L)) (.sl (.o (.i .h)) 0 1 0 3))) .e)) : T C) _
        skip
        (repeat' first | exact Rel.e | refine Rel.some ?_ ?_ ?_ | refine Rel.none ?_ ?_ | refine Rel.ee ?_ ?_)
        all_goals first
          | exact RO'.of (show _ < 7 by simp [Pos.nat]) bk6C_sh
          | exact RO'.of (show _ < 7 by simp [Pos.nat]) zr5C_sh
          | exact RO'.of (show _ < 7 by simp [Pos.nat]) (ou5C_sh (.pu (pu_ln _)) (.pu trivial))
          | exact RO'.of (show _ < 7 by simp [Pos.nat]) (ou5C_sh (.pu (pu_ln _)) (.ksl (show _ < 7 by simp [Pos.nat])))
          | (refine RO'.of (show _ < 7 by simp [Pos.nat]) (ShC.same fun c hc => ?_); obtain ⟨d, hd, rfl⟩ := List.mem_map.1 hc; exact .pu (PuL_iff.1 (ctDp _) d hd))
    | cons a s =>
      have hs5 : s.length + 1 ≤ 1000 := Nat.le_trans hAl (by omega)
      repeat' first | ((first | with_reducible (first | apply Qt | apply Qu) | refine Qa rfl ?_ | refine Qk rfl ?_ | refine Qb ?_ | refine Qc ?_ | refine Qi ?_ | refine Qj ?_ | refine Qf (iB) ?_) <;> conv => whnf)
      refine WSt.app_one (id := (.o (.i .h))) (ds := (rows ctD (a :: s)).flatten) (r := ctD (ctW S (cs.getD j default))) (by rfl) (by rfl) (by rfl) (by rfl) (by rfl) (by rfl) (by rw [rowsF_len (z := 3) ctD3]; rfl) (by rfl) (by rfl) (by omega) (by rfl) ?_; conv => whnf
      repeat' first | ((first | with_reducible (first | apply Qt | apply Qu) | refine Qa rfl ?_ | refine Qk rfl ?_ | refine Qb ?_ | refine Qc ?_ | refine Qi ?_ | refine Qj ?_) <;> conv => whnf)
      refine Again.to (j + 1) (by omega) ⟨by omega, trivial⟩ (by show (nxG (.o (.o .h)) (.i (.i .h)) ((cs.take j).map (ctW S))).nat ≤ (nxG (.o (.o .h)) (.i (.i .h)) ((cs.take (j + 1)).map (ctW S))).nat; rw [hA, hsc, List.cons_append]; exact (show 7 ≤ 7 by omega)) ?_
      show Shr _ (woS2 n coin box ls cs S L ((cs.take (j + 1)).map (ctW S)) (j + 1))
      rw [hsc, List.cons_append]
      refine Shr.of ?_ ?_ rfl rfl
      · show Rel _ _ ((.n (.n (.n (.n .e none (.n (.n .e (some (.i .i64 (cs.length : Int))) .e) none .e)) none .e) (some (setD S)) (.n .e (some (.pt (.i .h) 0 0)) .e)) none (.n (.n (.n .e none (.n (.n .e (some (.i .i64 ((j + 1 : Nat) : Int))) .e) none .e)) (some (.pt (.o .h) 0 0)) .e) (some (.pt .h 0 0)) (.n .e none (.n (.n (.n .e (some (.lst 3 (rows ctD cs))) .e) none .e) none .e)))) : T D) _
        skip
        (repeat' first | exact Rel.e | refine Rel.some ?_ ?_ ?_ | refine Rel.none ?_ ?_ | refine Rel.ee ?_ ?_)
        all_goals show Fz _ _ _ _
        all_goals first | exact .pu trivial | exact .kpt (show _ < 7 by simp [Pos.nat]) | exact .ksl (show _ < 7 by simp [Pos.nat]) | exact .kmp (show _ < 7 by simp [Pos.nat]) | exact .pu (setD_pu _) | exact .pu (pu_ct _) | exact .pu (pu_ln _)
      · show Rel _ _ ((.n (.n .e (some (zr5C)) (.n .e (blG ctD (a :: (s ++ [(ctW S (cs.getD j default))]))) .e)) (some (bk6C n coin box ls cs)) (.n .e (some (ou5C n coin box (.lst 3 (rows lnD L)) (slG (.o (.i .h)) 3 (a :: (s ++ [(ctW S (cs.getD j default))]))))) .e)) : T C) _
        rw [slG_snoc, blG_snoc]
        (repeat' first | exact Rel.e | refine Rel.some ?_ ?_ ?_ | refine Rel.none ?_ ?_ | refine Rel.ee ?_ ?_)
        all_goals first
          | exact RO'.of (show _ < 7 by simp [Pos.nat]) bk6C_sh
          | exact RO'.of (show _ < 7 by simp [Pos.nat]) zr5C_sh
          | exact RO'.of (show _ < 7 by simp [Pos.nat]) (ou5C_sh (.pu (pu_ln _)) (.pu trivial))
          | exact RO'.of (show _ < 7 by simp [Pos.nat]) (ou5C_sh (.pu (pu_ln _)) (.ksl (show _ < 7 by simp [Pos.nat])))
          | (refine RO'.of (show _ < 7 by simp [Pos.nat]) (ShC.grown (by omega) (PuL_iff.2 fun d hd => ?_)); rcases List.mem_append.1 hd with hd | hd <;> first | exact PuL_iff.1 (rowsF_pu ctDp _) d hd | exact PuL_iff.1 (ctDp _) d hd)
  · have he := hend (by omega)
    rw [← he]
    repeat' first | ((first | with_reducible (first | apply Qt | apply Qu) | refine Qa rfl ?_ | refine Qk rfl ?_ | refine Qb ?_ | refine Qc ?_ | refine Qi ?_ | refine Qj ?_) <;> conv => whnf)
    exact ⟨.inr rfl, _, rfl, .ag (.cons (.pu trivial) (.cons (.pu trivial) (.cons (.pu trivial) (.cons (.pu (pu_ln _)) (.cons (Fz.G A (fun h => h) (fun c h => h) ctD3 ctDp) .nil)))))⟩
set_option maxHeartbeats 2000000 in
theorem j_without (n coin box : Int) (ls : List Ln) (cs : List Ct) (S : List Int) (hS : S.length ≤ 1000) (hp : S.Pairwise (· < ·)) (hl : ls.length ≤ 100) (hc : cs.length ≤ 100) (ha : ∀ c ∈ cs, 0 ≤ c.a ∧ c.a ≤ 1000) : PureF Try.prog p125.ix [.ag [.i .i64 n, .i .i64 coin, .i .i64 box, .lst 3 (rows lnD ls), .lst 3 (rows ctD cs), .any], setD S] (.ag [.i .i64 n, .i .i64 coin, .i .i64 box, .lst 3 (rows lnD (woF S ls)), .lst 3 (rows ctD (cs.map (ctW S)))]) := by
  have e2 := rows_length lnD ls
  have hrest := j_withoutR n coin box ls cs S hS hp (woF S ls) hc ha
  have hsd := setD_pu S
  refine PureF.run fn124 (by simp) (by simp [PuL, PuE, Pu, pu_ln, pu_ct, hsd]) ?_; conv => whnf
  refine Rn.seq ?_; conv => whnf
  refine Rn.reg ?_; conv => whnf
  refine Rn.far rfl ?_
  refine RnF.seq ?_; conv => whnf
  repeat' first | ((first | with_reducible (first | apply Qt | apply Qu) | refine Qa rfl ?_ | refine Qk rfl ?_ | refine Qb ?_ | refine Qc ?_ | refine Qi ?_ | refine Qj ?_) <;> conv => whnf)
  refine ⟨rfl, rfl, (show 3 ≤ 4 by omega), ?_⟩
  refine RnF.seq ?_; conv => whnf
  repeat' first | ((first | with_reducible (first | apply Qt | apply Qu) | refine Qa rfl ?_ | refine Qk rfl ?_ | refine Qb ?_ | refine Qc ?_ | refine Qi ?_ | refine Qj ?_) <;> conv => whnf)
  refine ⟨rfl, rfl, (show 3 ≤ 4 by omega), ?_⟩
  refine RnF.seq ?_; conv => whnf
  repeat' first | ((first | with_reducible (first | apply Qt | apply Qu) | refine Qa rfl ?_ | refine Qk rfl ?_ | refine Qb ?_ | refine Qc ?_ | refine Qi ?_ | refine Qj ?_) <;> conv => whnf)
  refine Rn.loop (fun j : Nat => woS1 n coin box ls cs S (woL S ls j) j) (fun j => j ≤ ls.length ∧ True) (fun j => ls.length - j) 0 ?_ ?_ ?_
  · refine X.le.mk ?_ ?_ (Nat.le_refl _) rfl rfl
    · show T.le ((.n (.n (.n .e none (.n (.n .e (some (.i .i64 (ls.length : Int))) .e) none .e)) (some (setD S)) (.n .e (some (.pt (.i .h) 0 0)) .e)) none (.n (.n .e (some (.pt (.o .h) 0 0)) (.n (.n .e (some (.i .i64 0)) .e) none .e)) (some (.pt .h 0 0)) (.n (.n (.n .e (some (.lst 3 (rows lnD ls))) .e) none .e) none .e))) : T D) _
      rw [← e2]
      (repeat' first | exact T.le_e _ | refine T.le_some ?_ rfl ?_ | refine T.le_none ?_ ?_ | refine T.le_ee ?_ ?_)
    · show T.le ((.n (.n .e (some (zr5C)) (.n .e none .e)) (some (bk6C n coin box ls cs)) (.n .e (some (ou5C n coin box .ns .ns)) .e)) : T C) _
      (repeat' first | exact T.le_e _ | refine T.le_some ?_ rfl ?_ | refine T.le_none ?_ ?_ | refine T.le_ee ?_ ?_)
  · exact ⟨Nat.zero_le _, trivial⟩
  rintro j ⟨hj, _⟩
  have hsc := woL_succ S ls j
  have hAl := woL_len S ls j
  have hend : j = ls.length → woL S ls j = woF S ls := fun h => by rw [h]; rfl
  generalize hA : woL S ls j = A at *
  conv => whnf
  repeat' first | ((first | with_reducible (first | apply Qt | apply Qu) | refine Qa rfl ?_ | refine Qk rfl ?_ | refine Qb ?_ | refine Qc ?_ | refine Qi ?_ | refine Qj ?_) <;> conv => whnf)
  refine WB.dec (fun h => ?_) (fun h => ?_) <;> conv => whnf
  · have hlt : j < ls.length := by omega
    have iC := j_ContainsS S (j : Int) hS
    cases hc : conR S (j : Int) with
    | true =>
      rw [hc] at iC
      rw [hc, if_pos rfl] at hsc
      cases A with
      | nil =>
        repeat' first | ((first | with_reducible (first | apply Qt | apply Qu) | refine Qa rfl ?_ | refine Qk rfl ?_ | refine Qb ?_ | refine Qc ?_ | refine Qi ?_ | refine Qj ?_ | refine Qf (iC) ?_) <;> conv => whnf)
        refine WB.ff ?_; conv => whnf
        repeat' first | ((first | with_reducible (first | apply Qt | apply Qu) | refine Qa rfl ?_ | refine Qk rfl ?_ | refine Qb ?_ | refine Qc ?_ | refine Qi ?_ | refine Qj ?_) <;> conv => whnf)
        refine Again.to (j + 1) (by omega) ⟨by omega, trivial⟩ (by show (nxG (.o (.o .h)) (.i (.i .h)) (woL S ls j)).nat ≤ (nxG (.o (.o .h)) (.i (.i .h)) (woL S ls (j + 1))).nat; rw [hA, hsc]; exact (show 4 ≤ 4 by omega)) ?_
        show Shr _ (woS1 n coin box ls cs S (woL S ls (j + 1)) (j + 1))
        rw [hsc]
        refine Shr.of ?_ ?_ rfl rfl
        · show Rel _ _ ((.n (.n (.n .e none (.n (.n .e (some (.i .i64 (ls.length : Int))) .e) none .e)) (some (setD S)) (.n .e (some (.pt (.i .h) 0 0)) .e)) none (.n (.n .e (some (.pt (.o .h) 0 0)) (.n (.n .e (some (.i .i64 ((j + 1 : Nat) : Int))) .e) none .e)) (some (.pt .h 0 0)) (.n (.n (.n .e (some (.lst 3 (rows lnD ls))) .e) none .e) none .e))) : T D) _
          skip
          (repeat' first | exact Rel.e | refine Rel.some ?_ ?_ ?_ | refine Rel.none ?_ ?_ | refine Rel.ee ?_ ?_)
          all_goals show Fz _ _ _ _
          all_goals first | exact .pu trivial | exact .kpt (show _ < 4 by simp [Pos.nat]) | exact .ksl (show _ < 4 by simp [Pos.nat]) | exact .kmp (show _ < 4 by simp [Pos.nat]) | exact .pu (setD_pu _) | exact .pu (pu_ct _) | exact .pu (pu_ln _)
        · show Rel _ _ ((.n (.n .e (some (zr5C)) (.n .e none .e)) (some (bk6C n coin box ls cs)) (.n .e (some (ou5C n coin box .ns .ns)) .e)) : T C) _
          skip
          (repeat' first | exact Rel.e | refine Rel.some ?_ ?_ ?_ | refine Rel.none ?_ ?_ | refine Rel.ee ?_ ?_)
          all_goals first
            | exact RO'.of (show _ < 4 by simp [Pos.nat]) bk6C_sh
            | exact RO'.of (show _ < 4 by simp [Pos.nat]) zr5C_sh
            | exact RO'.of (show _ < 4 by simp [Pos.nat]) (ou5C_sh (.pu trivial) (.pu trivial))
            | exact RO'.of (show _ < 4 by simp [Pos.nat]) (ou5C_sh (.ksl (show _ < 4 by simp [Pos.nat])) (.pu trivial))
      | cons a s =>
        repeat' first | ((first | with_reducible (first | apply Qt | apply Qu) | refine Qa rfl ?_ | refine Qk rfl ?_ | refine Qb ?_ | refine Qc ?_ | refine Qi ?_ | refine Qj ?_ | refine Qf (iC) ?_) <;> conv => whnf)
        refine WB.ff ?_; conv => whnf
        repeat' first | ((first | with_reducible (first | apply Qt | apply Qu) | refine Qa rfl ?_ | refine Qk rfl ?_ | refine Qb ?_ | refine Qc ?_ | refine Qi ?_ | refine Qj ?_) <;> conv => whnf)
        refine Again.to (j + 1) (by omega) ⟨by omega, trivial⟩ (by show (nxG (.o (.o .h)) (.i (.i .h)) (woL S ls j)).nat ≤ (nxG (.o (.o .h)) (.i (.i .h)) (woL S ls (j + 1))).nat; rw [hA, hsc]; exact (show 7 ≤ 7 by omega)) ?_
        show Shr _ (woS1 n coin box ls cs S (woL S ls (j + 1)) (j + 1))
        rw [hsc]
        refine Shr.of ?_ ?_ rfl rfl
        · show Rel _ _ ((.n (.n (.n .e none (.n (.n .e (some (.i .i64 (ls.length : Int))) .e) none .e)) (some (setD S)) (.n .e (some (.pt (.i .h) 0 0)) .e)) none (.n (.n .e (some (.pt (.o .h) 0 0)) (.n (.n .e (some (.i .i64 ((j + 1 : Nat) : Int))) .e) none .e)) (some (.pt .h 0 0)) (.n (.n (.n .e (some (.lst 3 (rows lnD ls))) .e) none .e) none .e))) : T D) _
          skip
          (repeat' first | exact Rel.e | refine Rel.some ?_ ?_ ?_ | refine Rel.none ?_ ?_ | refine Rel.ee ?_ ?_)
          all_goals show Fz _ _ _ _
          all_goals first | exact .pu trivial | exact .kpt (show _ < 7 by simp [Pos.nat]) | exact .ksl (show _ < 7 by simp [Pos.nat]) | exact .kmp (show _ < 7 by simp [Pos.nat]) | exact .pu (setD_pu _) | exact .pu (pu_ct _) | exact .pu (pu_ln _)
        · show Rel _ _ ((.n (.n .e (some (zr5C)) (.n .e (some (.cells false ((rows lnD (a :: s)).flatten.map fun d => Cell.o d s.length) (s.length + 1))) .e)) (some (bk6C n coin box ls cs)) (.n .e (some (ou5C n coin box (.sl (.o (.i .h)) 0 (s.length + 1) s.length 3) .ns)) .e)) : T C) _
          skip
          (repeat' first | exact Rel.e | refine Rel.some ?_ ?_ ?_ | refine Rel.none ?_ ?_ | refine Rel.ee ?_ ?_)
          all_goals first
            | exact RO'.of (show _ < 7 by simp [Pos.nat]) bk6C_sh
            | exact RO'.of (show _ < 7 by simp [Pos.nat]) zr5C_sh
            | exact RO'.of (show _ < 7 by simp [Pos.nat]) (ou5C_sh (.pu trivial) (.pu trivial))
            | exact RO'.of (show _ < 7 by simp [Pos.nat]) (ou5C_sh (.ksl (show _ < 7 by simp [Pos.nat])) (.pu trivial))
            | exact RO'.of (show _ < 7 by simp [Pos.nat]) (ShC.G lnDp a s)
    | false =>
      rw [hc] at iC
      rw [hc, if_neg (by decide)] at hsc
      cases A with
      | nil =>
        repeat' first | ((first | with_reducible (first | apply Qt | apply Qu) | refine Qa rfl ?_ | refine Qk rfl ?_ | refine Qb ?_ | refine Qc ?_ | refine Qi ?_ | refine Qj ?_ | refine Qf (iC) ?_) <;> conv => whnf)
        refine WB.tt ?_; conv => whnf
        repeat' first | ((first | with_reducible (first | apply Qt | apply Qu) | refine Qa rfl ?_ | refine Qk rfl ?_ | refine Qb ?_ | refine Qc ?_ | refine Qi ?_ | refine Qj ?_) <;> conv => whnf)
        refine WSt.app_first (r := lnD (ls.getD j default)) (by rfl) (.inl rfl) (by rfl) (by rfl) (by rfl) (by rfl) ?_; conv => whnf
        repeat' first | ((first | with_reducible (first | apply Qt | apply Qu) | refine Qa rfl ?_ | refine Qk rfl ?_ | refine Qb ?_ | refine Qc ?_ | refine Qi ?_ | refine Qj ?_) <;> conv => whnf)
        refine Again.to (j + 1) (by omega) ⟨by omega, trivial⟩ (by show (nxG (.o (.o .h)) (.i (.i .h)) (woL S ls j)).nat ≤ (nxG (.o (.o .h)) (.i (.i .h)) (woL S ls (j + 1))).nat; rw [hA, hsc]; exact (show 4 ≤ 7 by omega)) ?_
        show Shr _ (woS1 n coin box ls cs S (woL S ls (j + 1)) (j + 1))
        rw [hsc]
        refine Shr.of ?_ ?_ rfl rfl
        · show Rel _ _ ((.n (.n (.n .e none (.n (.n .e (some (.i .i64 (ls.length : Int))) .e) none .e)) (some (setD S)) (.n .e (some (.pt (.i .h) 0 0)) .e)) none (.n (.n .e (some (.pt (.o .h) 0 0)) (.n (.n .e (some (.i .i64 ((j + 1 : Nat) : Int))) .e) none .e)) (some (.pt .h 0 0)) (.n (.n (.n .e (some (.lst 3 (rows lnD ls))) .e) none .e) none .e))) : T D) _
          skip
          (repeat' first | exact Rel.e | refine Rel.some ?_ ?_ ?_ | refine Rel.none ?_ ?_ | refine Rel.ee ?_ ?_)
          all_goals show Fz _ _ _ _
          all_goals first | exact .pu trivial | exact .kpt (show _ < 7 by simp [Pos.nat]) | exact .ksl (show _ < 7 by simp [Pos.nat]) | exact .kmp (show _ < 7 by simp [Pos.nat]) | exact .pu (setD_pu _) | exact .pu (pu_ct _) | exact .pu (pu_ln _)
        · show Rel _ _ ((.n (.n .e (some (zr5C)) (.n .e (some (.cells false ((lnD (ls.getD j default)).map fun d => Cell.o d 0) 1)) .e)) (some (bk6C n coin box ls cs)) (.n .e (some (ou5C n coin box (.sl (.o (.i .h)) 0 1 0 3) .ns)) .e)) : T C) _
          skip
          (repeat' first | exact Rel.e | refine Rel.some ?_ ?_ ?_ | refine Rel.none ?_ ?_ | refine Rel.ee ?_ ?_)
          all_goals first
            | exact RO'.of (show _ < 7 by simp [Pos.nat]) bk6C_sh
            | exact RO'.of (show _ < 7 by simp [Pos.nat]) zr5C_sh
            | exact RO'.of (show _ < 7 by simp [Pos.nat]) (ou5C_sh (.pu trivial) (.pu trivial))
            | exact RO'.of (show _ < 7 by simp [Pos.nat]) (ou5C_sh (.ksl (show _ < 7 by simp [Pos.nat])) (.pu trivial))
            | (refine RO'.of (show _ < 7 by simp [Pos.nat]) (ShC.same fun c hc => ?_); obtain ⟨d, hd, rfl⟩ := List.mem_map.1 hc; exact .pu (PuL_iff.1 (lnDp _) d hd))
      | cons a s =>
        have hs5 : s.length + 1 ≤ 1000 := Nat.le_trans hAl (by omega)
        repeat' first | ((first | with_reducible (first | apply Qt | apply Qu) | refine Qa rfl ?_ | refine Qk rfl ?_ | refine Qb ?_ | refine Qc ?_ | refine Qi ?_ | refine Qj ?_ | refine Qf (iC) ?_) <;> conv => whnf)
        refine WB.tt ?_; conv => whnf
        repeat' first | ((first | with_reducible (first | apply Qt | apply Qu) | refine Qa rfl ?_ | refine Qk rfl ?_ | refine Qb ?_ | refine Qc ?_ | refine Qi ?_ | refine Qj ?_) <;> conv => whnf)
        refine WSt.app_one (id := (.o (.i .h))) (ds := (rows lnD (a :: s)).flatten) (r := lnD (ls.getD j default)) (by rfl) (by rfl) (by rfl) (by rfl) (by rfl) (by rfl) (by rw [rowsF_len (z := 3) lnD3]; rfl) (by rfl) (by rfl) (by omega) (by rfl) ?_; conv => whnf
        repeat' first | ((first | with_reducible (first | apply Qt | apply Qu) | refine Qa rfl ?_ | refine Qk rfl ?_ | refine Qb ?_ | refine Qc ?_ | refine Qi ?_ | refine Qj ?_) <;> conv => whnf)
        refine Again.to (j + 1) (by omega) ⟨by omega, trivial⟩ (by show (nxG (.o (.o .h)) (.i (.i .h)) (woL S ls j)).nat ≤ (nxG (.o (.o .h)) (.i (.i .h)) (woL S ls (j + 1))).nat; rw [hA, hsc, List.cons_append]; exact (show 7 ≤ 7 by omega)) ?_
        show Shr _ (woS1 n coin box ls cs S (woL S ls (j + 1)) (j + 1))
        rw [hsc, List.cons_append]
        refine Shr.of ?_ ?_ rfl rfl
        · show Rel _ _ ((.n (.n (.n .e none (.n (.n .e (some (.i .i64 (ls.length : Int))) .e) none .e)) (some (setD S)) (.n .e (some (.pt (.i .h) 0 0)) .e)) none (.n (.n .e (some (.pt (.o .h) 0 0)) (.n (.n .e (some (.i .i64 ((j + 1 : Nat) : Int))) .e) none .e)) (some (.pt .h 0 0)) (.n (.n (.n .e (some (.lst 3 (rows lnD ls))) .e) none .e) none .e))) : T D) _
          skip
          (repeat' first | exact Rel.e | refine Rel.some ?_ ?_ ?_ | refine Rel.none ?_ ?_ | refine Rel.ee ?_ ?_)
          all_goals show Fz _ _ _ _
          all_goals first | exact .pu trivial | exact .kpt (show _ < 7 by simp [Pos.nat]) | exact .ksl (show _ < 7 by simp [Pos.nat]) | exact .kmp (show _ < 7 by simp [Pos.nat]) | exact .pu (setD_pu _) | exact .pu (pu_ct _) | exact .pu (pu_ln _)
        · show Rel _ _ ((.n (.n .e (some (zr5C)) (.n .e (blG lnD (a :: (s ++ [(ls.getD j default)]))) .e)) (some (bk6C n coin box ls cs)) (.n .e (some (ou5C n coin box (slG (.o (.i .h)) 3 (a :: (s ++ [(ls.getD j default)]))) .ns)) .e)) : T C) _
          rw [slG_snoc, blG_snoc]
          (repeat' first | exact Rel.e | refine Rel.some ?_ ?_ ?_ | refine Rel.none ?_ ?_ | refine Rel.ee ?_ ?_)
          all_goals first
            | exact RO'.of (show _ < 7 by simp [Pos.nat]) bk6C_sh
            | exact RO'.of (show _ < 7 by simp [Pos.nat]) zr5C_sh
            | exact RO'.of (show _ < 7 by simp [Pos.nat]) (ou5C_sh (.pu trivial) (.pu trivial))
            | exact RO'.of (show _ < 7 by simp [Pos.nat]) (ou5C_sh (.ksl (show _ < 7 by simp [Pos.nat])) (.pu trivial))
            | (refine RO'.of (show _ < 7 by simp [Pos.nat]) (ShC.grown (by omega) (PuL_iff.2 fun d hd => ?_)); rcases List.mem_append.1 hd with hd | hd <;> first | exact PuL_iff.1 (rowsF_pu lnDp _) d hd | exact PuL_iff.1 (lnDp _) d hd)
  · have he := hend (by omega)
    rw [← he] at hrest ⊢
    repeat' first | ((first | with_reducible (first | apply Qt | apply Qu) | refine Qa rfl ?_ | refine Qk rfl ?_ | refine Qb ?_ | refine Qc ?_ | refine Qi ?_ | refine Qj ?_) <;> conv => whnf)
    refine ⟨rfl, rfl, (show 3 ≤ (nxG (.o (.o .h)) (.i (.i .h)) A).nat by cases A <;> simp [nxG, Pos.nat]), RnF.turn (z' := woZ n coin box ls cs S A) (B := fun id => id.nat < 4) ?_ (fun id (h : id.nat < 3) => show id.nat < 4 by omega) (fun id h => h) (show 3 ≤ 4 by omega) hrest⟩
    refine ShrB.of ?_ ?_ rfl rfl
    · show Rel _ _ ((.n (.n .e (some (setD S)) (.n .e (some (.pt (.i .h) 0 0)) .e)) none (.n (.n .e (some (.pt (.o .h) 0 0)) .e) (some (.pt .h 0 0)) .e)) : T D) _
      (repeat' first | exact Rel.e | refine Rel.some ?_ ?_ ?_ | refine Rel.none ?_ ?_ | refine Rel.ee ?_ ?_)
      all_goals show Fz _ _ _ _
      all_goals first | exact .pu trivial | exact .pu hsd | exact .kpt (show _ < 4 by simp [Pos.nat])
    · show Rel _ _ ((.n (.n .e (some (zr5C)) .e) (some (bk6C n coin box ls cs)) (.n .e (some (ou5C n coin box (.lst 3 (rows lnD A)) .ns)) .e)) : T C) _
      (repeat' first | exact Rel.e | refine Rel.some ?_ ?_ ?_ | refine Rel.none ?_ ?_ | refine Rel.ee ?_ ?_)
      all_goals first
        | exact ⟨show _ < 4 by simp [Pos.nat], bk6C_sh⟩
        | exact ⟨show _ < 4 by simp [Pos.nat], zr5C_sh⟩
        | exact ⟨show _ < 4 by simp [Pos.nat], ou5C_sh (Fz.G A (show ¬ 6 < 4 by omega) (fun c h => h) lnD3 lnDp) (.pu trivial)⟩
end Go.Ev
namespace Go.Ev
set_option maxRecDepth 100000
def befR : List Int → List Int → Bool
  | [], [] => false
  | [], _ :: _ => true
  | _ :: _, [] => false
  | a :: A, b :: B => if a = b then befR A B else decide (a < b)
def shoR (A B : List Int) : Bool := decide (A.length < B.length) || (decide (A.length = B.length) && befR A B)
theorem befR_trans : ∀ {A B C : List Int}, befR A B = true → befR B C = true → befR A C = true
  | [], [], _, h, _ => by cases h
  | [], b :: B, [], _, h => by cases h
  | [], b :: B, c :: C, _, _ => rfl
  | a :: A, [], _, h, _ => by cases h
  | a :: A, b :: B, [], _, h => by cases h
  | a :: A, b :: B, c :: C, h1, h2 => by
    unfold befR at h1 h2 ⊢
    by_cases e1 : a = b
    · rw [if_pos e1] at h1
      by_cases e2 : b = c
      · rw [if_pos e2] at h2
        rw [if_pos (e1.trans e2)]
        exact befR_trans h1 h2
      · rw [if_neg e2, decide_eq_true_iff] at h2
        rw [if_neg (by omega), decide_eq_true_iff]
        omega
    · rw [if_neg e1, decide_eq_true_iff] at h1
      by_cases e2 : b = c
      · rw [if_neg (by omega), decide_eq_true_iff]
        omega
      · rw [if_neg e2, decide_eq_true_iff] at h2
        rw [if_neg (by omega), decide_eq_true_iff]
        omega
theorem befR_irr : ∀ A : List Int, befR A A = false
  | [] => rfl
  | a :: A => by
    unfold befR
    rw [if_pos rfl]
    exact befR_irr A
theorem shoR_irr (A : List Int) : shoR A A = false := by
  unfold shoR
  rw [befR_irr, decide_eq_false (Nat.lt_irrefl _), Bool.and_false]
  rfl
theorem shoR_trans {A B C : List Int} (h1 : shoR A B = true) (h2 : shoR B C = true) : shoR A C = true := by
  unfold shoR at *
  rw [Bool.or_eq_true, Bool.and_eq_true, decide_eq_true_iff, decide_eq_true_iff] at *
  rcases h1 with h1 | ⟨h1, k1⟩
  · rcases h2 with h2 | ⟨h2, k2⟩
    · exact .inl (by omega)
    · exact .inl (by omega)
  · rcases h2 with h2 | ⟨h2, k2⟩
    · exact .inl (by omega)
    · exact .inr ⟨by omega, befR_trans k1 k2⟩
def bitJ (b j : Nat) : List Int := ((List.range j).filter fun p => b.testBit p).map fun p : Nat => (p : Int)
def bitL (b : Nat) : List Int := bitJ b 8
def revB (e c : Nat) : Nat := (List.range e).foldl (fun w i => if c.testBit (e - 1 - i) then w + 2 ^ i else w) 0
def fndD (Q : Nat → Bool) : Nat → Option Nat
  | 0 => none
  | c + 1 => if Q c = true then some c else fndD Q c
def smQ (P : Nat → Bool) (m : Nat) (c : Nat) : Bool := decide (cntN c = m) && P c
def smA (e : Nat) (P : Nat → Bool) : Option Nat := (List.range (e + 1)).findSome? fun m => fndD (smQ P m) (2 ^ e)
theorem fndD_none {Q : Nat → Bool} : ∀ {n : Nat}, fndD Q n = none → ∀ c, c < n → Q c = false
  | 0, _, c, h => absurd h (Nat.not_lt_zero _)
  | n + 1, h, c, hc => by
    unfold fndD at h
    split at h
    · cases h
    · rename_i hq
      rcases Nat.lt_or_ge c n with h1 | h1
      · exact fndD_none h c h1
      · have : c = n := by omega
        subst this
        simpa using hq
theorem fndD_some {Q : Nat → Bool} : ∀ {n : Nat} {c : Nat}, fndD Q n = some c → Q c = true ∧ c < n ∧ ∀ d, c < d → d < n → Q d = false
  | 0, c, h => by cases h
  | n + 1, c, h => by
    unfold fndD at h
    split at h
    · cases h
      rename_i hq
      exact ⟨hq, by omega, fun d h1 h2 => by omega⟩
    · rename_i hq
      obtain ⟨h1, h2, h3⟩ := fndD_some h
      refine ⟨h1, by omega, fun d k1 k2 => ?_⟩
      rcases Nat.lt_or_ge d n with h4 | h4
      · exact h3 d k1 h4
      · have : d = n := by omega
        subst this
        simpa using hq
theorem smA_some {e : Nat} {P : Nat → Bool} {c : Nat} (h : smA e P = some c) : P c = true ∧ c < 2 ^ e ∧ ∀ d, d < 2 ^ e → P d = true → cntN d ≤ e → cntN c < cntN d ∨ (cntN c = cntN d ∧ d ≤ c) := by
  have key : ∀ n, (List.range n).findSome? (fun m => fndD (smQ P m) (2 ^ e)) = some c → P c = true ∧ c < 2 ^ e ∧ ∀ d, d < 2 ^ e → P d = true → cntN d < n → cntN c < cntN d ∨ (cntN c = cntN d ∧ d ≤ c) := fun n => by
    induction n with
    | zero => intro h; cases h
    | succ n ih =>
      intro h
      rw [List.range_succ, List.findSome?_append] at h
      cases h0 : (List.range n).findSome? (fun m => fndD (smQ P m) (2 ^ e)) with
      | some c0 =>
        rw [h0] at h
        have : c0 = c := by simpa using h
        subst this
        obtain ⟨h1, h2, h3⟩ := ih h0
        refine ⟨h1, h2, fun d k1 k2 k3 => ?_⟩
        rcases Nat.lt_or_ge (cntN d) n with h4 | h4
        · exact h3 d k1 k2 h4
        · have hcn : cntN c0 < n := by
            obtain ⟨m, hm, hf⟩ := List.exists_of_findSome?_eq_some h0
            have := (fndD_some hf).1
            unfold smQ at this
            rw [Bool.and_eq_true, decide_eq_true_iff] at this
            have := List.mem_range.1 hm
            omega
          exact .inl (by omega)
      | none =>
        rw [h0] at h
        have h : fndD (smQ P n) (2 ^ e) = some c := by simpa using h
        obtain ⟨h1, h2, h3⟩ := fndD_some h
        unfold smQ at h1
        rw [Bool.and_eq_true, decide_eq_true_iff] at h1
        refine ⟨h1.2, h2, fun d k1 k2 k3 => ?_⟩
        rcases Nat.lt_or_ge (cntN d) n with h4 | h4
        · have h5 := List.findSome?_eq_none_iff.1 h0 (cntN d) (List.mem_range.2 h4)
          have h6 := fndD_none h5 d k1
          unfold smQ at h6
          rw [k2] at h6
          simp at h6
        · have h5 : cntN d = n := by omega
          refine .inr ⟨by omega, ?_⟩
          rcases Nat.lt_or_ge c d with h6 | h6
          · have := h3 d h6 k1
            unfold smQ at this
            rw [k2, h5] at this
            simp at this
          · exact h6
  obtain ⟨h1, h2, h3⟩ := key (e + 1) h
  exact ⟨h1, h2, fun d k1 k2 k3 => h3 d k1 k2 (by omega)⟩
theorem smA_none {e : Nat} {P : Nat → Bool} (h : smA e P = none) : ∀ d, d < 2 ^ e → cntN d ≤ e → P d = false := fun d hd hc => by
  have h5 := List.findSome?_eq_none_iff.1 h (cntN d) (List.mem_range.2 (by omega))
  have h6 := fndD_none h5 d hd
  unfold smQ at h6
  simpa using h6
def revOk (e c : Nat) : Bool := decide (revB e c < 2 ^ e) && (decide (revB e (revB e c) = c) && (decide (cntN c ≤ e) && (decide (bitL (revB e c) = numL c e) && (decide ((numL c e).length = cntN c) && (List.range e).all fun i => (revB e c).testBit i == c.testBit (e - 1 - i)))))
theorem rev_all : ∀ e : _root_.Fin 9, (List.range (2 ^ e.1)).all (revOk e.1) = true := by decide +kernel
end Go.Ev