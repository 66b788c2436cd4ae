import Derived.Test.YtjgbfnciedkafaaEvUJ3
import Derived.Test.YtjgbfnciedkafaaEvUPl
import Derived.Test.YtjgbfnciedkafaaEvUJr
set_option linter.all false
namespace Go.Ev
open Go.Proofs
set_option maxRecDepth 100000
theorem j_has (a b x : Int) : PureF Try.prog p112.ix [.ag [.i .i64 a, .i .i64 b], .i .i64 x] (.b (inR x a b)) := by
  refine PureF.run fn111 (by simp) (by simp [PuL, PuE, Pu, pu_ints, pu_ln, pu_ct]) ?_; conv => whnf
  repeat' first | ((first | with_reducible (first | apply Qt | apply Qu) | refine Qa rfl ?_ | refine Qk rfl ?_ | refine Qb ?_ | refine Qc ?_ | refine Qi ?_ | refine Qj ?_ | with_reducible (first | refine Qm ?_ | refine Qn ?_ | refine Qo ?_ | refine Qp ?_ | refine WB.nt ?_ | refine WB.nf ?_ | refine WB.dec (fun h => ?_) (fun h => ?_) | refine WB.ndec (fun h => ?_) (fun h => ?_)) | refine WB.mk (fun h => ?_) (fun h => ?_)) <;> conv => whnf)
  all_goals exact Fin.b rfl (by unfold inR; first | rfl | (symm; apply decide_eq_true; omega) | (symm; apply decide_eq_false; omega) | (simp_all; done) | (simp_all; omega))
theorem j_upTo (x m : Int) : PureF Try.prog p86.ix [.i .i64 x, .i .i64 m] (.b (inR x 0 m)) := by
  refine PureF.run fn85 (by simp) (by simp [PuL, PuE, Pu, pu_ints, pu_ln, pu_ct]) ?_; conv => whnf
  repeat' first | ((first | with_reducible (first | apply Qt | apply Qu) | refine Qa rfl ?_ | refine Qk rfl ?_ | refine Qb ?_ | refine Qc ?_ | refine Qi ?_ | refine Qj ?_ | refine Qf (j_has _ _ _) ?_) <;> conv => whnf)
  exact Fin.b rfl rfl
theorem j_allLn (l : List Ln) (f : Pos) (first caps : List D) (p : Ln → Bool) (h1 : PuL first) (h2 : PuL caps) (hl : l.length ≤ 1000) (hf : ∀ c ∈ l, PureF Try.prog f.ix (first ++ ([.ag [.i .i64 c.k, .i .i64 c.c, .i .i64 c.t]] ++ caps)) (.b (p c))) : PureF Try.prog p113.ix [.lst 3 (rows lnD l), .fn f first caps] (.b (l.all p)) := by
  have e1 := rows_length lnD l
  refine PureF.run fn112 (by simp) (by simp [PuL, PuE, Pu, pu_ints, pu_ln, h1, h2]) ?_; conv => whnf
  repeat' first | ((first | with_reducible (first | apply Qt | apply Qu) | refine Qa rfl ?_ | refine Qk rfl ?_ | refine Qb ?_ | refine Qc ?_ | refine Qi ?_ | refine Qj ?_) <;> conv => whnf)
  refine Rn.loop (fun j : Nat => ⟨(.n (.n (.n (.n .e (some (.lst 3 (rows lnD l))) .e) none .e) (some (.fn f first caps)) (.n (.n .e (some (.i .i64 (j : Int))) .e) none .e)) none (.n (.n (.n .e (some (.i .i64 ((rows lnD l).length : Int))) .e) none .e) none .e)), .e, .h, none⟩) (fun j => j ≤ l.length ∧ (l.take j).all p = true) (fun j => l.length - j) 0 ?_ ?_ ?_
  · (first | (refine X.le.mk ?_ ?_ (Nat.le_refl _) rfl rfl) | skip) <;> (repeat' first | exact T.le_e _ | refine T.le_some ?_ ?_ ?_ | refine T.le_none ?_ ?_ | rfl)
  · exact ⟨by omega, by simp⟩
  rintro j ⟨hj, ha⟩
  conv => whnf
  repeat' first | ((first | with_reducible (first | apply Qt | apply Qu) | refine Qa rfl ?_ | refine Qk rfl ?_ | refine Qb ?_ | refine Qc ?_ | refine Qi ?_ | refine Qj ?_) <;> conv => whnf)
  refine WB.dec (fun h => ?_) (fun h => ?_) <;> conv => whnf
  · have hlt : j < l.length := by omega
    repeat' first | ((first | with_reducible (first | apply Qt | apply Qu) | refine Qa rfl ?_ | refine Qk rfl ?_ | refine Qb ?_ | refine Qc ?_ | refine Qi ?_ | refine Qj ?_ | refine Qf (hf _ (getD_mem hlt)) ?_) <;> conv => whnf)
    refine WB.mk (fun h => ?_) (fun h => ?_) <;> conv => whnf
    · repeat' first | ((first | with_reducible (first | apply Qt | apply Qu) | refine Qa rfl ?_ | refine Qk rfl ?_ | refine Qb ?_ | refine Qc ?_ | refine Qi ?_ | refine Qj ?_) <;> conv => whnf)
      exact Fin.b rfl (by rw [all_false (d := default) hlt (by simpa using h)])
    · repeat' first | ((first | with_reducible (first | apply Qt | apply Qu) | refine Qa rfl ?_ | refine Qk rfl ?_ | refine Qb ?_ | refine Qc ?_ | refine Qi ?_ | refine Qj ?_) <;> conv => whnf)
      refine Again.to (j + 1) (by omega) ⟨by omega, all_take_succ (d := default) hlt ha (by simpa using h)⟩ (Nat.le_refl _) ?_
      (refine Shr.of ?_ ?_ rfl rfl) <;> (repeat' first | exact Rel.e | refine Rel.some ?_ ?_ ?_ | refine Rel.none ?_ ?_) <;> (try first | (show Fz _ _ _ _; first | exact Fz.pu trivial | (refine Fz.i ?_; first | rfl | omega) | (refine Fz.kpt ?_; (focus (show Pos.nat _ < Pos.nat _; simp [Pos.nat]; done))) | (refine Fz.ksl ?_; (focus (show Pos.nat _ < Pos.nat _; simp [Pos.nat]; done))) | (refine Fz.kmp ?_; (focus (show Pos.nat _ < Pos.nat _; simp [Pos.nat]; done))) | (refine Fz.pu ?_; simp [Cell.d, Pu, PuL, PuE, pu_ints, pu_ln, pu_ct]; done) | (refine Fz.pu ?_; simp only [Cell.d]; assumption)) | (refine RO'.of ?_ (ShC.same ?_); (focus (show Pos.nat _ < Pos.nat _; simp [Pos.nat]; done)); (repeat' first | exact ShC.nl | refine ShC.cn ?_ ?_) <;> first | exact Fz.pu trivial | (refine Fz.i ?_; first | rfl | omega) | (refine Fz.kpt ?_; (focus (show Pos.nat _ < Pos.nat _; simp [Pos.nat]; done))) | (refine Fz.ksl ?_; (focus (show Pos.nat _ < Pos.nat _; simp [Pos.nat]; done))) | (refine Fz.kmp ?_; (focus (show Pos.nat _ < Pos.nat _; simp [Pos.nat]; done))) | (refine Fz.pu ?_; simp [Cell.d, Pu, PuL, PuE, pu_ints, pu_ln, pu_ct]; done) | (refine Fz.pu ?_; simp only [Cell.d]; assumption)))
      all_goals (refine Fz.pu ?_; simp [Pu, h1, h2])
  · repeat' first | ((first | with_reducible (first | apply Qt | apply Qu) | refine Qa rfl ?_ | refine Qk rfl ?_ | refine Qb ?_ | refine Qc ?_ | refine Qi ?_ | refine Qj ?_) <;> conv => whnf)
    exact Fin.b rfl (by rw [all_end (by omega) ha])
theorem j_allCt (l : List Ct) (f : Pos) (first caps : List D) (p : Ct → Bool) (h1 : PuL first) (h2 : PuL caps) (hl : l.length ≤ 1000) (hf : ∀ c ∈ l, PureF Try.prog f.ix (first ++ ([.ag [.i .i64 c.a, .i .i64 c.lo, .i .i64 c.hi]] ++ caps)) (.b (p c))) : PureF Try.prog p110.ix [.lst 3 (rows ctD l), .fn f first caps] (.b (l.all p)) := by
  have e1 := rows_length ctD l
  refine PureF.run fn109 (by simp) (by simp [PuL, PuE, Pu, pu_ints, pu_ct, h1, h2]) ?_; conv => whnf
  repeat' first | ((first | with_reducible (first | apply Qt | apply Qu) | refine Qa rfl ?_ | refine Qk rfl ?_ | refine Qb ?_ | refine Qc ?_ | refine Qi ?_ | refine Qj ?_) <;> conv => whnf)
  refine Rn.loop (fun j : Nat => ⟨(.n (.n (.n (.n .e (some (.lst 3 (rows ctD l))) .e) none .e) (some (.fn f first caps)) (.n (.n .e (some (.i .i64 (j : Int))) .e) none .e)) none (.n (.n (.n .e (some (.i .i64 ((rows ctD l).length : Int))) .e) none .e) none .e)), .e, .h, none⟩) (fun j => j ≤ l.length ∧ (l.take j).all p = true) (fun j => l.length - j) 0 ?_ ?_ ?_
  · (first | (refine X.le.mk ?_ ?_ (Nat.le_refl _) rfl rfl) | skip) <;> (repeat' first | exact T.le_e _ | refine T.le_some ?_ ?_ ?_ | refine T.le_none ?_ ?_ | rfl)
  · exact ⟨by omega, by simp⟩
  rintro j ⟨hj, ha⟩
  conv => whnf
  repeat' first | ((first | with_reducible (first | apply Qt | apply Qu) | refine Qa rfl ?_ | refine Qk rfl ?_ | refine Qb ?_ | refine Qc ?_ | refine Qi ?_ | refine Qj ?_) <;> conv => whnf)
  refine WB.dec (fun h => ?_) (fun h => ?_) <;> conv => whnf
  · have hlt : j < l.length := by omega
    repeat' first | ((first | with_reducible (first | apply Qt | apply Qu) | refine Qa rfl ?_ | refine Qk rfl ?_ | refine Qb ?_ | refine Qc ?_ | refine Qi ?_ | refine Qj ?_ | refine Qf (hf _ (getD_mem hlt)) ?_) <;> conv => whnf)
    refine WB.mk (fun h => ?_) (fun h => ?_) <;> conv => whnf
    · repeat' first | ((first | with_reducible (first | apply Qt | apply Qu) | refine Qa rfl ?_ | refine Qk rfl ?_ | refine Qb ?_ | refine Qc ?_ | refine Qi ?_ | refine Qj ?_) <;> conv => whnf)
      exact Fin.b rfl (by rw [all_false (d := default) hlt (by simpa using h)])
    · repeat' first | ((first | with_reducible (first | apply Qt | apply Qu) | refine Qa rfl ?_ | refine Qk rfl ?_ | refine Qb ?_ | refine Qc ?_ | refine Qi ?_ | refine Qj ?_) <;> conv => whnf)
      refine Again.to (j + 1) (by omega) ⟨by omega, all_take_succ (d := default) hlt ha (by simpa using h)⟩ (Nat.le_refl _) ?_
      (refine Shr.of ?_ ?_ rfl rfl) <;> (repeat' first | exact Rel.e | refine Rel.some ?_ ?_ ?_ | refine Rel.none ?_ ?_) <;> (try first | (show Fz _ _ _ _; first | exact Fz.pu trivial | (refine Fz.i ?_; first | rfl | omega) | (refine Fz.kpt ?_; (focus (show Pos.nat _ < Pos.nat _; simp [Pos.nat]; done))) | (refine Fz.ksl ?_; (focus (show Pos.nat _ < Pos.nat _; simp [Pos.nat]; done))) | (refine Fz.kmp ?_; (focus (show Pos.nat _ < Pos.nat _; simp [Pos.nat]; done))) | (refine Fz.pu ?_; simp [Cell.d, Pu, PuL, PuE, pu_ints, pu_ln, pu_ct]; done) | (refine Fz.pu ?_; simp only [Cell.d]; assumption)) | (refine RO'.of ?_ (ShC.same ?_); (focus (show Pos.nat _ < Pos.nat _; simp [Pos.nat]; done)); (repeat' first | exact ShC.nl | refine ShC.cn ?_ ?_) <;> first | exact Fz.pu trivial | (refine Fz.i ?_; first | rfl | omega) | (refine Fz.kpt ?_; (focus (show Pos.nat _ < Pos.nat _; simp [Pos.nat]; done))) | (refine Fz.ksl ?_; (focus (show Pos.nat _ < Pos.nat _; simp [Pos.nat]; done))) | (refine Fz.kmp ?_; (focus (show Pos.nat _ < Pos.nat _; simp [Pos.nat]; done))) | (refine Fz.pu ?_; simp [Cell.d, Pu, PuL, PuE, pu_ints, pu_ln, pu_ct]; done) | (refine Fz.pu ?_; simp only [Cell.d]; assumption)))
      all_goals (refine Fz.pu ?_; simp [Pu, h1, h2])
  · repeat' first | ((first | with_reducible (first | apply Qt | apply Qu) | refine Qa rfl ?_ | refine Qk rfl ?_ | refine Qb ?_ | refine Qc ?_ | refine Qi ?_ | refine Qj ?_) <;> conv => whnf)
    exact Fin.b rfl (by rw [all_end (by omega) ha])
def wk6 (n coin box : Int) (ls : List Ln) (cs : List Ct) : List D := [.i .i64 n, .i .i64 coin, .i .i64 box, .lst 3 (rows lnD ls), .lst 3 (rows ctD cs), .any]
theorem pu_wk6 (n coin box : Int) (ls : List Ln) (cs : List Ct) : PuL (wk6 n coin box ls cs) := by simp [wk6, PuL, Pu, pu_ln, pu_ct]
theorem j_begin (n coin box : Int) (ls : List Ln) (cs : List Ct) : PureF Try.prog p75.ix [.ag [.i .i64 n, .i .i64 coin, .i .i64 box, .lst 3 (rows lnD ls), .lst 3 (rows ctD cs)]] (.ag [.i .i64 n, .i .i64 coin, .i .i64 box, .lst 3 (rows lnD ls), .lst 3 (rows ctD cs), .any]) := by
  refine PureF.run fn74 (by simp) (by simp [PuL, PuE, Pu, pu_ints, pu_ln, pu_ct]) ?_; conv => whnf
  repeat' first | ((first | with_reducible (first | apply Qt | apply Qu) | refine Qa rfl ?_ | refine Qk rfl ?_ | refine Qb ?_ | refine Qc ?_ | refine Qi ?_ | refine Qj ?_) <;> conv => whnf)
  exact ⟨.inr rfl, _, rfl, .ag (.cons (.pu trivial) (.cons (.pu trivial) (.cons (.pu trivial) (.cons (.pu (pu_ln _)) (.cons (.pu (pu_ct _)) (.cons .any .nil))))))⟩
theorem j_validLine (n coin box : Int) (ls : List Ln) (cs : List Ct) (hn : 1 ≤ n ∧ n ≤ 4) (l : Ln) : PureF Try.prog p114.ix [.ag [.i .i64 n, .i .i64 coin, .i .i64 box, .lst 3 (rows lnD ls), .lst 3 (rows ctD cs), .any], .ag [.i .i64 l.k, .i .i64 l.c, .i .i64 l.t]] (.b (lnOk n l)) := by
  refine PureF.run fn113 (by simp) (by simp [PuL, PuE, Pu, pu_ints, pu_ln, pu_ct]) ?_; conv => whnf
  repeat' first | ((first | with_reducible (first | apply Qt | apply Qu) | refine Qa rfl ?_ | refine Qk rfl ?_ | refine Qb ?_ | refine Qc ?_ | refine Qi ?_ | refine Qj ?_ | refine Qf (j_has _ _ _) ?_ | with_reducible refine WB.dec (fun h => ?_) (fun h => ?_) | with_reducible refine WB.ndec (fun h => ?_) (fun h => ?_) | refine WB.mk (fun h => ?_) (fun h => ?_)) <;> conv => whnf)
  all_goals exact Fin.b rfl (by unfold lnOk; simp_all)
theorem j_validCount (n coin box : Int) (ls : List Ln) (cs : List Ct) (c : Ct) : PureF Try.prog p115.ix [.ag [.i .i64 n, .i .i64 coin, .i .i64 box, .lst 3 (rows lnD ls), .lst 3 (rows ctD cs), .any], .ag [.i .i64 c.a, .i .i64 c.lo, .i .i64 c.hi]] (.b (ctOk ls.length c)) := by
  have e1 := rows_length lnD ls
  refine PureF.run fn114 (by simp) (by simp [PuL, PuE, Pu, pu_ints, pu_ln, pu_ct]) ?_; conv => whnf
  repeat' first | ((first | with_reducible (first | apply Qt | apply Qu) | refine Qa rfl ?_ | refine Qk rfl ?_ | refine Qb ?_ | refine Qc ?_ | refine Qi ?_ | refine Qj ?_ | refine Qf (j_upTo _ _) ?_ | with_reducible refine WB.dec (fun h => ?_) (fun h => ?_) | with_reducible refine WB.ndec (fun h => ?_) (fun h => ?_) | refine WB.mk (fun h => ?_) (fun h => ?_)) <;> conv => whnf)
  all_goals exact Fin.b rfl (by
    rw [e1] at *
    unfold ctOk
    first | (simp_all [inR]; done) | (simp_all [inR]; omega) | (simp_all [inR]; intros; omega))
theorem j_isValid (n coin box : Int) (ls : List Ln) (cs : List Ct) (hl : ls.length ≤ 1000) (hc : cs.length ≤ 1000) : PureF Try.prog p81.ix [.ag [.i .i64 n, .i .i64 coin, .i .i64 box, .lst 3 (rows lnD ls), .lst 3 (rows ctD cs), .any]] (.b (vldT n coin box ls cs)) := by
  refine PureF.run fn80 (by simp) (by simp [PuL, PuE, Pu, pu_ints, pu_ln, pu_ct]) ?_; conv => whnf
  repeat' first | ((first | with_reducible (first | apply Qt | apply Qu) | refine Qa rfl ?_ | refine Qk rfl ?_ | refine Qb ?_ | refine Qc ?_ | refine Qi ?_ | refine Qj ?_ | refine Qf (j_has _ _ _) ?_ | refine Qf (j_upTo _ _) ?_ | refine Qf (j_allLn ls p114 [.ag [.i .i64 n, .i .i64 coin, .i .i64 box, .lst 3 (rows lnD ls), .lst 3 (rows ctD cs), .any]] [] (lnOk n) (by simp [PuL, Pu, pu_ln, pu_ct]) trivial hl (fun c _ => j_validLine n coin box ls cs (inR_iff.1 (by assumption)) c)) ?_ | refine Qf (j_allCt cs p115 [.ag [.i .i64 n, .i .i64 coin, .i .i64 box, .lst 3 (rows lnD ls), .lst 3 (rows ctD cs), .any]] [] (ctOk ls.length) (by simp [PuL, Pu, pu_ln, pu_ct]) trivial hc (fun c _ => j_validCount n coin box ls cs c)) ?_ | with_reducible refine WB.dec (fun h => ?_) (fun h => ?_) | with_reducible refine WB.ndec (fun h => ?_) (fun h => ?_) | refine WB.mk (fun h => ?_) (fun h => ?_)) <;> conv => whnf)
  all_goals exact Fin.b rfl (by unfold vldT; first | (simp_all; done) | (simp_all; intro hf; obtain ⟨x, hx, hn⟩ := h; rw [hf x hx] at hn; cases hn))
end Go.Ev
namespace Go.Ev
open Go.Proofs
set_option maxRecDepth 100000
theorem j_size (a b : Int) (h1 : -10 ≤ b - a) (h2 : b - a ≤ 10) : PureF Try.prog p117.ix [.ag [.i .i64 a, .i .i64 b]] (.i .i64 (b - a + 1)) := by
  refine PureF.run fn116 (by simp) (by simp [PuL, PuE, Pu, pu_ints, pu_ln, pu_ct]) ?_; conv => whnf
  repeat' first | ((first | with_reducible (first | apply Qt | apply Qu) | refine Qa rfl ?_ | refine Qk rfl ?_ | refine Qb ?_ | refine Qc ?_ | refine Qi ?_ | refine Qj ?_) <;> conv => whnf)
  exact Fin.i rfl rfl
def kLo (l : Ln) : Int := if l.k = 0 then 1 else l.k
def kHi (l : Ln) : Int := if l.k = 0 then 2 else l.k
def cLo (l : Ln) : Int := if l.c = -1 then 0 else l.c
def cHi (n : Int) (l : Ln) : Int := if l.c = -1 then n - 1 else l.c
def tLo (l : Ln) : Int := if l.t = -1 then 0 else l.t
def tHi (n : Int) (l : Ln) : Int := if l.t = -1 then n - 1 else l.t
theorem k_size (l : Ln) : kHi l - kLo l + 1 = szK l := by unfold kHi kLo szK; split <;> omega
theorem c_size (n : Int) (l : Ln) : cHi n l - cLo l + 1 = szC n l := by unfold cHi cLo szC; split <;> omega
theorem t_size (n : Int) (l : Ln) : tHi n l - tLo l + 1 = szT n l := by unfold tHi tLo szT; split <;> omega
theorem sz_bd {n : Int} (hn : 1 ≤ n ∧ n ≤ 4) (l : Ln) : (1 ≤ szK l ∧ szK l ≤ 2) ∧ (1 ≤ szC n l ∧ szC n l ≤ 4) ∧ (1 ≤ szT n l ∧ szT n l ≤ 4) := by
  unfold szK szC szT
  refine ⟨?_, ?_, ?_⟩ <;> split <;> omega
theorem j_signs (n coin box : Int) (ls : List Ln) (cs : List Ct) (hn : 1 ≤ n ∧ n ≤ 4) (l : Ln) : PureF Try.prog p116.ix [.ag [.i .i64 n, .i .i64 coin, .i .i64 box, .lst 3 (rows lnD ls), .lst 3 (rows ctD cs), .any], .ag [.i .i64 l.k, .i .i64 l.c, .i .i64 l.t]] (.tp [.ag [.i .i64 (kLo l), .i .i64 (kHi l)], .ag [.i .i64 (cLo l), .i .i64 (cHi n l)], .ag [.i .i64 (tLo l), .i .i64 (tHi n l)]]) := by
  refine PureF.run fn115 (by simp) (by simp [PuL, PuE, Pu, pu_ints, pu_ln, pu_ct]) ?_; conv => whnf
  unfold kLo kHi cLo cHi tLo tHi
  by_cases h1 : l.k = 0 <;> by_cases h2 : l.c = -1 <;> by_cases h3 : l.t = -1
  all_goals
    repeat' first | ((first | with_reducible (first | apply Qt | apply Qu) | refine Qa rfl ?_ | refine Qk rfl ?_ | refine Qb ?_ | refine Qc ?_ | refine Qi ?_ | refine Qj ?_ | with_reducible (first | refine Qm ?_ | refine Qn ?_ | refine Qo ?_ | refine Qp ?_ | refine WB.nt ?_ | refine WB.nf ?_ | refine WB.dec (fun h => ?_) (fun h => ?_) | refine WB.ndec (fun h => ?_) (fun h => ?_)) | refine WB.mk (fun h => ?_) (fun h => ?_)) <;> conv => whnf)
    refine ⟨.inr rfl, _, rfl, ?_⟩
    simp only [h1, h2, h3, if_true, if_false]
    refine .tp (.cons (.ag (.cons ?_ (.cons ?_ .nil))) (.cons (.ag (.cons ?_ (.cons ?_ .nil))) (.cons (.ag (.cons ?_ (.cons ?_ .nil))) .nil)))
    all_goals exact .pu trivial
theorem j_allReadings (n coin box : Int) (ls : List Ln) (cs : List Ct) (hn : 1 ≤ n ∧ n ≤ 4) (hl : ls.length ≤ 8) : PureF Try.prog p82.ix [.ag [.i .i64 n, .i .i64 coin, .i .i64 box, .lst 3 (rows lnD ls), .lst 3 (rows ctD cs), .any]] (.i .i64 (prodP n ls)) := by
  have e1 := rows_length lnD ls
  refine PureF.run fn81 (by simp) (by simp [PuL, PuE, Pu, pu_ints, pu_ln, pu_ct]) ?_; conv => whnf
  repeat' first | ((first | with_reducible (first | apply Qt | apply Qu) | refine Qa rfl ?_ | refine Qk rfl ?_ | refine Qb ?_ | refine Qc ?_ | refine Qi ?_ | refine Qj ?_) <;> conv => whnf)
  refine Rn.loop (fun j : Nat => ⟨(.n (.n (.n .e (some (.i .i64 (prodP n (ls.take j)))) (.n .e (some (.lst 3 (rows lnD ls))) .e)) (some (.pt .h 0 0)) (.n .e none (.n .e (some (.i .i64 (j : Int))) .e))) none (.n (.n .e none (.n .e (some (.i .i64 ((rows lnD ls).length : Int))) .e)) none .e)), (.n .e (some (.cells false [.o (.i .i64 n) 0, .o (.i .i64 coin) 0, .o (.i .i64 box) 0, .o (.lst 3 (rows lnD ls)) 0, .o (.lst 3 (rows ctD cs)) 0, .o .any 0] 1)) .e), .o .h, none⟩) (fun j => j ≤ ls.length) (fun j => ls.length - j) 0 ?_ ?_ ?_
  · (first | (refine X.le.mk ?_ ?_ (Nat.le_refl _) rfl rfl) | skip) <;> (repeat' first | exact T.le_e _ | refine T.le_some ?_ ?_ ?_ | refine T.le_none ?_ ?_ | rfl)
  · exact Nat.zero_le _
  intro j hj
  have hj : j ≤ ls.length := hj
  conv => whnf
  repeat' first | ((first | with_reducible (first | apply Qt | apply Qu) | refine Qa rfl ?_ | refine Qk rfl ?_ | refine Qb ?_ | refine Qc ?_ | refine Qi ?_ | refine Qj ?_) <;> conv => whnf)
  refine WB.dec (fun h => ?_) (fun h => ?_) <;> conv => whnf
  · have hlt : j < ls.length := by omega
    have hp := (many_prod hn.1 hn.2 (ls.take j)).2
    have hb : prodP n (ls.take j) ≤ 1 * 32 ^ (ls.take j).length := prod_bdG hn.1 hn.2 (ls.take j) 1 1 (by omega) (by omega)
    have hpw : (1 : Int) * 32 ^ (ls.take j).length ≤ 32 ^ 8 := by
      rw [List.length_take, Nat.min_eq_left hj, Int.one_mul]
      exact_mod_cast Nat.pow_le_pow_right (show 0 < 32 by decide) (show j ≤ 8 by omega)
    have hb : prodP n (ls.take j) ≤ 1099511627776 := by
      have : (32 : Int) ^ 8 = 1099511627776 := by decide
      omega
    obtain ⟨s1, s2, s3⟩ := sz_bd hn (ls.getD j default)
    have z1 := k_size (ls.getD j default)
    have z2 := c_size n (ls.getD j default)
    have z3 := t_size n (ls.getD j default)
    have hs : prodP n (ls.take (j + 1)) = prodP n (ls.take j) * (szK (ls.getD j default) * szC n (ls.getD j default) * szT n (ls.getD j default)) := by
      rw [take_succ_getD (d := default) hlt]
      unfold prodP
      rw [List.foldl_append]
      rfl
    have m1 : 1 ≤ szK (ls.getD j default) * szC n (ls.getD j default) ∧ szK (ls.getD j default) * szC n (ls.getD j default) ≤ 8 := by
      constructor
      · exact Int.le_trans (by omega) (Int.mul_le_mul s1.1 s2.1 (by omega) (by omega))
      · exact Int.le_trans (Int.mul_le_mul s1.2 s2.2 (by omega) (by omega)) (by omega)
    have m2 := rdN_bd hn.1 hn.2 (ls.getD j default)
    unfold rdN at m2
    have m3 : 1 ≤ prodP n (ls.take j) * (szK (ls.getD j default) * szC n (ls.getD j default) * szT n (ls.getD j default)) ∧ prodP n (ls.take j) * (szK (ls.getD j default) * szC n (ls.getD j default) * szT n (ls.getD j default)) ≤ 1099511627776 * 32 := by
      constructor
      · exact Int.le_trans (by omega) (Int.mul_le_mul hp m2.1 (by omega) (by omega))
      · exact Int.mul_le_mul hb m2.2 (by omega) (by omega)
    repeat' first | ((first | with_reducible (first | apply Qt | apply Qu) | refine Qa rfl ?_ | refine Qk rfl ?_ | refine Qb ?_ | refine Qc ?_ | refine Qi ?_ | refine Qj ?_ | refine Qf (j_signs n coin box ls cs hn (ls.getD j default)) ?_ | refine Qf (j_size _ _ (by omega) (by omega)) ?_) <;> conv => whnf)
    simp only [z1, z2, z3]
    repeat' first | ((first | with_reducible (first | apply Qt | apply Qu) | refine Qa rfl ?_ | refine Qk rfl ?_ | refine Qb ?_ | refine Qc ?_ | refine Qi ?_ | refine Qj ?_ | refine Qf (j_signs n coin box ls cs hn (ls.getD j default)) ?_ | refine Qf (j_size _ _ (by omega) (by omega)) ?_) <;> conv => whnf)
    simp only [z3]
    repeat' first | ((first | with_reducible (first | apply Qt | apply Qu) | refine Qa rfl ?_ | refine Qk rfl ?_ | refine Qb ?_ | refine Qc ?_ | refine Qi ?_ | refine Qj ?_ | refine Qf (j_signs n coin box ls cs hn (ls.getD j default)) ?_ | refine Qf (j_size _ _ (by omega) (by omega)) ?_) <;> conv => whnf)
    refine Again.to (j + 1) (by omega) (by omega) (Nat.le_refl _) ?_
    rw [hs]
    (refine Shr.of ?_ ?_ rfl rfl) <;> (repeat' first | exact Rel.e | refine Rel.some ?_ ?_ ?_ | refine Rel.none ?_ ?_) <;> (try first | (show Fz _ _ _ _; first | exact Fz.pu trivial | (refine Fz.i ?_; first | rfl | omega) | (refine Fz.kpt ?_; (focus (show Pos.nat _ < Pos.nat _; simp [Pos.nat]; done))) | (refine Fz.ksl ?_; (focus (show Pos.nat _ < Pos.nat _; simp [Pos.nat]; done))) | (refine Fz.kmp ?_; (focus (show Pos.nat _ < Pos.nat _; simp [Pos.nat]; done))) | (refine Fz.pu ?_; simp [Cell.d, Pu, PuL, PuE, pu_ints, pu_ln, pu_ct]; done) | (refine Fz.pu ?_; simp only [Cell.d]; assumption)) | (refine RO'.of ?_ (ShC.same ?_); (focus (show Pos.nat _ < Pos.nat _; simp [Pos.nat]; done)); (repeat' first | exact ShC.nl | refine ShC.cn ?_ ?_) <;> first | exact Fz.pu trivial | (refine Fz.i ?_; first | rfl | omega) | (refine Fz.kpt ?_; (focus (show Pos.nat _ < Pos.nat _; simp [Pos.nat]; done))) | (refine Fz.ksl ?_; (focus (show Pos.nat _ < Pos.nat _; simp [Pos.nat]; done))) | (refine Fz.kmp ?_; (focus (show Pos.nat _ < Pos.nat _; simp [Pos.nat]; done))) | (refine Fz.pu ?_; simp [Cell.d, Pu, PuL, PuE, pu_ints, pu_ln, pu_ct]; done) | (refine Fz.pu ?_; simp only [Cell.d]; assumption)))
  · repeat' first | ((first | with_reducible (first | apply Qt | apply Qu) | refine Qa rfl ?_ | refine Qk rfl ?_ | refine Qb ?_ | refine Qc ?_ | refine Qi ?_ | refine Qj ?_) <;> conv => whnf)
    exact Fin.i rfl (by rw [List.take_of_length_le (by omega)])
theorem j_CheckBook (n coin box : Int) (ls : List Ln) (cs : List Ct) : PureF Try.prog p28.ix [.ag [.i .i64 n, .i .i64 coin, .i .i64 box, .lst 3 (rows lnD ls), .lst 3 (rows ctD cs)]] (.i .i64 (faultT n coin box ls cs)) := by
  have e1 := rows_length lnD ls
  have e2 := rows_length ctD cs
  refine PureF.run fn27 (by simp) (by simp [PuL, PuE, Pu, pu_ints, pu_ln, pu_ct]) ?_; conv => whnf
  by_cases hL : 8 < ls.length ∨ 4 < cs.length
  · repeat' first | ((first | with_reducible (first | apply Qt | apply Qu) | refine Qa rfl ?_ | refine Qk rfl ?_ | refine Qb ?_ | refine Qc ?_ | refine Qi ?_ | refine Qj ?_ | refine Qf (j_begin n coin box ls cs) ?_ | with_reducible (first | refine Qm ?_ | refine Qn ?_ | refine Qo ?_ | refine Qp ?_ | refine WB.nt ?_ | refine WB.nf ?_ | refine WB.dec (fun h => ?_) (fun h => ?_) | refine WB.ndec (fun h => ?_) (fun h => ?_)) | refine WB.mk (fun h => ?_) (fun h => ?_)) <;> conv => whnf)
    all_goals first
      | (exfalso; omega)
      | exact Fin.i rfl (by unfold faultT; rw [if_pos hL])
  · by_cases hv : vldT n coin box ls cs = true
    · have hn : 1 ≤ n ∧ n ≤ 4 := by
        unfold vldT at hv
        simp only [Bool.and_eq_true] at hv
        exact inR_iff.1 hv.1
      have c1 := j_isValid n coin box ls cs (by omega) (by omega)
      rw [hv] at c1
      have c2 := j_allReadings n coin box ls cs hn (by omega)
      have hm := (many_prod hn.1 hn.2 ls).1
      repeat' first | ((first | with_reducible (first | apply Qt | apply Qu) | refine Qa rfl ?_ | refine Qk rfl ?_ | refine Qb ?_ | refine Qc ?_ | refine Qi ?_ | refine Qj ?_ | refine Qf (j_begin n coin box ls cs) ?_ | refine Qf (c1) ?_ | refine Qf (c2) ?_ | with_reducible (first | refine Qm ?_ | refine Qn ?_ | refine Qo ?_ | refine Qp ?_ | refine WB.nt ?_ | refine WB.nf ?_ | refine WB.dec (fun h => ?_) (fun h => ?_) | refine WB.ndec (fun h => ?_) (fun h => ?_)) | refine WB.mk (fun h => ?_) (fun h => ?_)) <;> conv => whnf)
      all_goals first
        | (exfalso; omega)
        | exact Fin.i rfl (by unfold faultT; rw [if_neg hL, if_pos hv]; first | rw [if_pos (by omega)] | rw [if_neg (by omega)])
    · have hv' : vldT n coin box ls cs = false := by simpa using hv
      have c1 := j_isValid n coin box ls cs (by omega) (by omega)
      rw [hv'] at c1
      repeat' first | ((first | with_reducible (first | apply Qt | apply Qu) | refine Qa rfl ?_ | refine Qk rfl ?_ | refine Qb ?_ | refine Qc ?_ | refine Qi ?_ | refine Qj ?_ | refine Qf (j_begin n coin box ls cs) ?_ | refine Qf (c1) ?_ | with_reducible (first | refine Qm ?_ | refine Qn ?_ | refine Qo ?_ | refine Qp ?_ | refine WB.nt ?_ | refine WB.nf ?_ | refine WB.dec (fun h => ?_) (fun h => ?_) | refine WB.ndec (fun h => ?_) (fun h => ?_)) | refine WB.mk (fun h => ?_) (fun h => ?_)) <;> conv => whnf)
      all_goals first
        | (exfalso; omega)
        | exact Fin.i rfl (by unfold faultT; rw [if_neg hL, if_neg hv])
theorem j_agr (m : Mo) (c : Ct) : PureF Try.prog p111.ix [.ag (moD m), .ag [.i .i64 c.a, .i .i64 c.lo, .i .i64 c.hi]] (.b (!decide (c.a = m.n) || inR m.box c.lo c.hi)) := by
  unfold moD
  refine PureF.run fn110 (by simp) (by simp [PuL, PuE, Pu, pu_ints, pu_ln, pu_ct]) ?_; conv => whnf
  by_cases h : c.a = m.n
  · repeat' first | ((first | with_reducible (first | apply Qt | apply Qu) | refine Qa rfl ?_ | refine Qk rfl ?_ | refine Qb ?_ | refine Qc ?_ | refine Qi ?_ | refine Qj ?_ | refine Qf (j_has _ _ _) ?_ | with_reducible (first | refine Qm ?_ | refine Qn ?_ | refine Qo ?_ | refine Qp ?_ | refine WB.nt ?_ | refine WB.nf ?_ | refine WB.dec (fun h => ?_) (fun h => ?_) | refine WB.ndec (fun h => ?_) (fun h => ?_)) | refine WB.mk (fun h => ?_) (fun h => ?_)) <;> conv => whnf)
    all_goals exact Fin.b rfl (by simp [h])
  · repeat' first | ((first | with_reducible (first | apply Qt | apply Qu) | refine Qa rfl ?_ | refine Qk rfl ?_ | refine Qb ?_ | refine Qc ?_ | refine Qi ?_ | refine Qj ?_ | refine Qf (j_has _ _ _) ?_ | with_reducible (first | refine Qm ?_ | refine Qn ?_ | refine Qo ?_ | refine Qp ?_ | refine WB.nt ?_ | refine WB.nf ?_ | refine WB.dec (fun h => ?_) (fun h => ?_) | refine WB.ndec (fun h => ?_) (fun h => ?_)) | refine WB.mk (fun h => ?_) (fun h => ?_)) <;> conv => whnf)
    all_goals exact Fin.b rfl (by simp [h])
theorem j_opening (n coin box : Int) (ls : List Ln) (cs : List Ct) (T : List Ln) : PureF Try.prog p105.ix [.ag [.i .i64 n, .i .i64 coin, .i .i64 box, .lst 3 (rows lnD ls), .lst 3 (rows ctD cs), .any]] (.ag (moD (moR box coin T 0))) := by
  refine PureF.run fn104 (by simp) (by simp [PuL, PuE, Pu, pu_ints, pu_ln, pu_ct]) ?_; conv => whnf
  repeat' first | ((first | with_reducible (first | apply Qt | apply Qu) | refine Qa rfl ?_ | refine Qk rfl ?_ | refine Qb ?_ | refine Qc ?_ | refine Qi ?_ | refine Qj ?_) <;> conv => whnf)
  refine ⟨.inr rfl, _, rfl, .ag ?_⟩
  unfold moD
  repeat' first | exact FzL.nil | refine FzL.cons ?_ ?_
  all_goals exact Fz.i rfl
end Go.Ev
namespace Go.Ev
open Go.RowKit (Below Grown)
open Classical in
noncomputable def pull (nx : Pos) (ρ : Pos → Pos) (γ : Gh) : Gh := ⟨fun j => if j.nat < nx.nat then γ.cur (ρ j) else 0, fun j => γ.β (ρ j), γ.im⟩
def psh (τ : Pos → Option Pos) (γ γ' : Gh) : Gh := ⟨fun id => match τ id with | some j => γ'.cur j | none => γ.cur id, fun id => match τ id with | some j => γ'.β j | none => γ.β id, γ'.im⟩
structure Ren (nx : Pos) (ρ : Pos → Pos) (τ : Pos → Option Pos) : Prop where
  a : ∀ j : Pos, j.nat < nx.nat → τ (ρ j) = some j
  b : ∀ id j : Pos, τ id = some j → j.nat < nx.nat ∧ ρ j = id
section
variable {nx : Pos} {ρ : Pos → Pos} {τ : Pos → Option Pos} {γ γ' : Gh} {w w' : World}
theorem pull_cur {j : Pos} (h : j.nat < nx.nat) : (pull nx ρ γ).cur j = γ.cur (ρ j) := by show (if _ then _ else _) = _; rw [if_pos h]
theorem pull_cur0 {j : Pos} (h : ¬ j.nat < nx.nat) : (pull nx ρ γ).cur j = 0 := by show (if _ then _ else _) = _; rw [if_neg h]
theorem pull_lt {j : Pos} {st : Nat} (h : st < (pull nx ρ γ).cur j) : j.nat < nx.nat ∧ st < γ.cur (ρ j) := by
  by_cases hj : j.nat < nx.nat
  · rw [pull_cur hj] at h; exact ⟨hj, h⟩
  · rw [pull_cur0 hj] at h; exact absurd h (Nat.not_lt_zero _)
theorem pull_im : ∀ b, γ.im b → (pull nx ρ γ).im b := fun _ h => h
theorem psh_im : ∀ b, γ'.im b → (psh τ γ γ').im b := fun _ h => h
theorem psh_cur {id j : Pos} (h : τ id = some j) : (psh τ γ γ').cur id = γ'.cur j := by show (match τ id with | some j => _ | none => _) = _; rw [h]
theorem psh_cur0 {id : Pos} (h : τ id = none) : (psh τ γ γ').cur id = γ.cur id := by show (match τ id with | some j => _ | none => _) = _; rw [h]
theorem psh_be {id j : Pos} (h : τ id = some j) : (psh τ γ γ').β id = γ'.β j := by show (match τ id with | some j => _ | none => _) = _; rw [h]
theorem psh_be0 {id : Pos} (h : τ id = none) : (psh τ γ γ').β id = γ.β id := by show (match τ id with | some j => _ | none => _) = _; rw [h]
theorem Ren.inj (R : Ren nx ρ τ) {i j : Pos} (hi : i.nat < nx.nat) (hj : j.nat < nx.nat) (h : ρ i = ρ j) : i = j := by
  have h1 := R.a i hi
  rw [h, R.a j hj] at h1
  exact (Option.some.inj h1).symm
theorem pull_gh (R : Ren nx ρ τ) (gh : GH γ w) : GH (pull nx ρ γ) w :=
  ⟨fun id st hst => gh.ob _ st (pull_lt hst).2, fun id st id' st' hst hst' he => by
    obtain ⟨h1, h2⟩ := gh.inj _ st _ st' (pull_lt hst).2 (pull_lt hst').2 he
    exact ⟨R.inj (pull_lt hst).1 (pull_lt hst').1 h1, h2⟩, fun b hb => ⟨(gh.im b hb).1, fun id st hst => (gh.im b hb).2 _ st (pull_lt hst).2⟩, gh.gl.im fun _ h => h⟩
theorem psh_blk (R : Ren nx ρ τ) {S : Pos → Prop} (gh : GH γ w) (F : Fr S (pull nx ρ γ) γ' w w') {j : Pos} {st : Nat} (hj : j.nat < nx.nat) (hst : st < γ'.cur j) : w.heap.size ≤ (γ'.β j st).1 ∨ ∃ st0, st0 < γ.cur (ρ j) ∧ (γ'.β j st).1 = (γ.β (ρ j) st0).1 := by
  by_cases h : st < (pull nx ρ γ).cur j
  · rw [F.up.β j st h]
    exact .inr ⟨st, (pull_lt h).2, rfl⟩
  · rcases F.new j st (Nat.not_lt.1 h) hst with h1 | ⟨st0, h1, h2⟩
    · exact .inl h1
    · exact .inr ⟨st0, (pull_lt h1).2, h2⟩
theorem psh_gh (R : Ren nx ρ τ) {S : Pos → Prop} (gh : GH γ w) (gh' : GH γ' w') (F : Fr S (pull nx ρ γ) γ' w w') : GH (psh τ γ γ') w' := by
  have mix : ∀ id j st id' st', τ id = some j → τ id' = none → st < γ'.cur j → st' < γ.cur id' → (γ'.β j st).1 ≠ (γ.β id' st').1 := fun id j st id' st' h1 h2 h3 h4 e => by
    obtain ⟨hj, hr⟩ := R.b id j h1
    rcases psh_blk R gh F hj h3 with h5 | ⟨st0, h5, h6⟩
    · have := gh.ob id' st' h4; omega
    · obtain ⟨h7, _⟩ := gh.inj _ st0 id' st' h5 h4 (h6.symm.trans e)
      rw [← h7, hr, h1] at h2
      cases h2
  refine ⟨fun id st hst => ?_, fun id st id' st' hst hst' he => ?_, fun b hb => ?_, gh'.gl.im fun _ h => h⟩
  · cases ht : τ id with
    | some j => rw [psh_cur ht] at hst; rw [psh_be ht]; exact gh'.ob j st hst
    | none => rw [psh_cur0 ht] at hst; rw [psh_be0 ht]; exact Nat.lt_of_lt_of_le (gh.ob id st hst) F.size
  · cases ht : τ id with
    | some j =>
      rw [psh_cur ht] at hst
      rw [psh_be ht] at he ⊢
      cases ht' : τ id' with
      | some j' =>
        rw [psh_cur ht'] at hst'
        rw [psh_be ht'] at he ⊢
        obtain ⟨h1, h2⟩ := gh'.inj j st j' st' hst hst' he
        exact ⟨by rw [← (R.b id j ht).2, ← (R.b id' j' ht').2, h1], h2⟩
      | none =>
        rw [psh_cur0 ht'] at hst'
        rw [psh_be0 ht'] at he
        exact absurd he (mix id j st id' st' ht ht' hst hst')
    | none =>
      rw [psh_cur0 ht] at hst
      rw [psh_be0 ht] at he ⊢
      cases ht' : τ id' with
      | some j' =>
        rw [psh_cur ht'] at hst'
        rw [psh_be ht'] at he
        exact absurd he.symm (mix id' j' st' id st ht' ht hst' hst)
      | none =>
        rw [psh_cur0 ht'] at hst'
        rw [psh_be0 ht'] at he ⊢
        exact gh.inj id st id' st' hst hst' he
  · refine ⟨(gh'.im b hb).1, fun id st hst => ?_⟩
    cases ht : τ id with
    | some j => rw [psh_cur ht] at hst; rw [psh_be ht]; exact (gh'.im b hb).2 j st hst
    | none =>
      rw [psh_cur0 ht] at hst; rw [psh_be0 ht]
      intro e
      have hlt := gh.ob id st hst
      rw [e] at hlt
      exact (gh.im b (F.imn b hb hlt)).2 id st hst e
theorem psh_up (R : Ren nx ρ τ) {S : Pos → Prop} (F : Fr S (pull nx ρ γ) γ' w w') : Up γ (psh τ γ γ') w w' := by
  refine ⟨fun id => ?_, fun id st hst => ?_, F.up.sh, F.up.im⟩
  · cases ht : τ id with
    | some j =>
      obtain ⟨hj, hr⟩ := R.b id j ht
      have := F.up.cur j
      rw [pull_cur hj, hr] at this
      rw [psh_cur ht]; exact this
    | none => rw [psh_cur0 ht]; exact Nat.le_refl _
  · cases ht : τ id with
    | some j =>
      obtain ⟨hj, hr⟩ := R.b id j ht
      have := F.up.β j st (by rw [pull_cur hj, hr]; exact hst)
      rw [psh_be ht, this]
      show γ.β (ρ j) st = _
      rw [hr]
    | none => rw [psh_be0 ht]
theorem psh_fr (R : Ren nx ρ τ) {S W : Pos → Prop} (hW : ∀ id j, τ id = some j → W id) (F : Fr S (pull nx ρ γ) γ' w w') : Fr W γ (psh τ γ γ') w w' := by
  refine ⟨psh_up R F, fun id hn => ?_, fun b hb hn => F.blk b hb fun j st _ hst e => ?_, fun id st h1 h2 => ?_, F.imn, F.lp, F.size, F.os, F.tape, F.output, F.fz⟩
  · cases ht : τ id with
    | some j => exact absurd (hW id j ht) hn
    | none => exact psh_cur0 ht
  · obtain ⟨hj, hst⟩ := pull_lt hst
    exact hn (ρ j) st (hW _ j (R.a j hj)) hst e
  · cases ht : τ id with
    | some j =>
      obtain ⟨hj, hr⟩ := R.b id j ht
      rw [psh_cur ht] at h2
      rw [psh_be ht]
      rcases F.new j st (by rw [pull_cur hj, hr]; exact h1) h2 with h3 | ⟨st0, h3, h4⟩
      · exact .inl h3
      · have h3 := (pull_lt h3).2
        rw [hr] at h3
        refine .inr ⟨st0, h3, ?_⟩
        rw [h4]
        show (γ.β (ρ j) st0).1 = _
        rw [hr]
    | none => rw [psh_cur0 ht] at h2; omega
theorem psh_keep (R : Ren nx ρ τ) {P : Program} {S : Pos → Prop} (gh : GH γ w) (F : Fr S (pull nx ρ γ) γ' w w') {id : Pos} {c : C} (ht : τ id = none) (H : HoldsO P γ w id c) : HoldsO P (psh τ γ γ') w' id c :=
  HoldsO.mono (psh_up R F) (psh_cur0 ht) (fun st hst => F.blk _ (gh.ob id st hst) fun j st' _ hst' e => by
    obtain ⟨hj, hst'⟩ := pull_lt hst'
    obtain ⟨h1, _⟩ := gh.inj _ st' id st hst' hst e
    rw [← h1, R.a j hj] at ht
    cases ht) H
end
section
variable {γ γ' : Gh} {w : World} {n : Nat}
mutual
theorem DV.kp (him : ∀ b, γ.im b → γ'.im b) (hc : ∀ id : Pos, id.nat < n → γ'.cur id = γ.cur id ∧ γ'.β id = γ.β id) : ∀ (d : D) (v : Value), Kp n d → DV γ w d v → DV γ' w d v
  | .pt id off st, v, p, H => by
    unfold Kp at p
    obtain ⟨h1, h2⟩ := hc id p
    unfold DV at *
    rw [h1, h2]; exact H
  | .sl id off len st z, v, p, H => by
    unfold Kp at p
    obtain ⟨h1, h2⟩ := hc id p
    unfold DV at *
    rw [h1, h2]; exact H
  | .mp id, v, p, H => by
    unfold Kp at p
    obtain ⟨h1, h2⟩ := hc id p
    unfold DV at *
    rw [h1, h2]; exact H
  | .yl id, v, p, H => by
    unfold Kp at p
    obtain ⟨h1, h2⟩ := hc id p
    unfold DV at *
    rw [h1, h2]; exact H
  | .ag cs, _, p, H => by
    unfold Kp at p
    unfold DV at *
    obtain ⟨vs, h1, h2, h3⟩ := H
    exact ⟨vs, h1, DVL.kp him hc cs _ p h2, h3⟩
  | .tp cs, _, p, H => by
    unfold Kp at p
    unfold DV at *
    obtain ⟨vs, h1, h2⟩ := H
    exact ⟨vs, h1, DVL.kp him hc cs _ p h2⟩
  | .fn _ x y, _, p, H => by
    unfold Kp at p
    unfold DV at *
    obtain ⟨vx, vy, h1, h2, h3⟩ := H
    exact ⟨vx, vy, h1, DVL.kp him hc x _ p.1 h2, DVL.kp him hc y _ p.2 h3⟩
  | .any, _, p, H => by unfold Kp at p; exact DV.pu him _ _ p H
  | .b _, _, p, H => by unfold Kp at p; exact DV.pu him _ _ p H
  | .i _ _, _, p, H => by unfold Kp at p; exact DV.pu him _ _ p H
  | .s _, _, p, H => by unfold Kp at p; exact DV.pu him _ _ p H
  | .np, _, p, H => by unfold Kp at p; exact DV.pu him _ _ p H
  | .nf, _, p, H => by unfold Kp at p; exact DV.pu him _ _ p H
  | .ni, _, p, H => by unfold Kp at p; exact DV.pu him _ _ p H
  | .nm, _, p, H => by unfold Kp at p; exact DV.pu him _ _ p H
  | .ns, _, p, H => by unfold Kp at p; exact DV.pu him _ _ p H
  | .em, _, p, H => by unfold Kp at p; exact DV.pu him _ _ p H
  | .ifc _ _, _, p, H => by unfold Kp at p; exact DV.pu him _ _ p H
  | .lst _ _, _, p, H => by unfold Kp at p; exact DV.pu him _ _ p H
  | .pl _ _, _, p, H => by unfold Kp at p; exact DV.pu him _ _ p H
theorem DVL.kp (him : ∀ b, γ.im b → γ'.im b) (hc : ∀ id : Pos, id.nat < n → γ'.cur id = γ.cur id ∧ γ'.β id = γ.β id) : ∀ (ds : List D) (vs : List Value), KpL n ds → DVL γ w ds vs → DVL γ' w ds vs
  | [], _, _, H => by unfold DVL at *; exact H
  | d :: ds, _, p, H => by
    unfold KpL at p
    unfold DVL at *
    obtain ⟨v, r, h1, h2, h3⟩ := H
    exact ⟨v, r, h1, DV.kp him hc d v p.1 h2, DVL.kp him hc ds r p.2 h3⟩
end
theorem HoldsO.kp {P : Program} (him : ∀ b, γ.im b → γ'.im b) (hc : ∀ id : Pos, id.nat < n → γ'.cur id = γ.cur id ∧ γ'.β id = γ.β id) {id : Pos} (hid : id.nat < n) : ∀ {c : C}, KpC n c → HoldsO P γ w id c → HoldsO P γ' w id c
  | .cells ro cs cur, k, H => by
    obtain ⟨h0, h1, h2⟩ := H
    obtain ⟨e1, e2⟩ := hc id hid
    refine ⟨h0, e1.trans h1, fun st hst => ?_⟩
    obtain ⟨vs, e, fr, h3, h4, h5⟩ := h2 st hst
    rw [e2]
    exact ⟨vs, e, fr, h3, h4, fun p c hp hh hd => by
      obtain ⟨u, h6, h7, h8⟩ := h5 p c hp hh hd
      exact ⟨u, h6, DV.kp him hc _ _ (k c (List.mem_of_getElem? hp)) h7, h8⟩⟩
  | .map es, k, H => by
    obtain ⟨h1, en, cl, h2, h3, h4⟩ := H
    obtain ⟨e1, e2⟩ := hc id hid
    refine ⟨e1.trans h1, en, cl, by rw [e2]; exact h2, h3, fun i e f he hf => ?_⟩
    obtain ⟨k1, k2⟩ := k e (List.mem_of_getElem? he)
    exact ⟨DV.kp him hc _ _ k1 (h4 i e f he hf).1, DV.kp him hc _ _ k2 (h4 i e f he hf).2⟩
  | .lp sl ps nt asg body st jump, k, H => by
    obtain ⟨h1, l, h2, h3, h4, h5, h6⟩ := H
    obtain ⟨e1, e2⟩ := hc id hid
    refine ⟨e1.trans h1, l, by rw [e2]; exact h2, h3, h4, fun s d hs => ⟨(h5 s d hs).1, DV.kp him hc _ _ (k s d hs) (h5 s d hs).2⟩, h6⟩
  | .hole, _, H => (hc id hid).1.trans H
end
open Classical in
noncomputable def tauI (nx : Pos) (id : Pos) : Option Pos := if id.nat < nx.nat then some id else none
theorem tauI_lt {nx id : Pos} (h : id.nat < nx.nat) : tauI nx id = some id := by unfold tauI; rw [if_pos h]
theorem tauI_ge {nx id : Pos} (h : ¬ id.nat < nx.nat) : tauI nx id = none := by unfold tauI; rw [if_neg h]
theorem Ren.id (nx : Pos) : Ren nx (fun j => j) (tauI nx) := ⟨fun j h => tauI_lt h, fun id j h => by
  by_cases hid : id.nat < nx.nat
  · rw [tauI_lt hid] at h; cases h; exact ⟨hid, rfl⟩
  · rw [tauI_ge hid] at h; cases h⟩
structure Beside (nx : Pos) (ob' obR obR' : T C) : Prop where
  lo : ∀ id c, id.nat < nx.nat → obR'.get id = some c → ob'.get id = some c
  hi : ∀ id : Pos, nx.nat ≤ id.nat → obR'.get id = obR.get id
theorem psh_ups {nx : Pos} {γ γ' : Gh} {w : World} (hz : ∀ id : Pos, nx.nat ≤ id.nat → γ'.cur id = 0) : Up γ' (psh (tauI nx) γ γ') w w := by
  refine ⟨fun id => ?_, fun id st hst => ?_, fun _ _ h => h, fun b hb => ⟨hb, fun _ h => h⟩⟩
  · by_cases hid : id.nat < nx.nat
    · rw [psh_cur (tauI_lt hid)]; exact Nat.le_refl _
    · rw [hz id (Nat.not_lt.1 hid)]; exact Nat.zero_le _
  · by_cases hid : id.nat < nx.nat
    · rw [psh_be (tauI_lt hid)]
    · rw [hz id (Nat.not_lt.1 hid)] at hst; exact absurd hst (Nat.not_lt_zero _)
section
variable {P : Program} {nx nx2 : Pos} {ob ob' obR obR' : T C} {lg lg' : Option (T Bool)} {ds : List D} {v : D}
theorem frame_end {so : Pos → Prop} {γ γ' : Gh} {w w' : World} (hx : nx.nat ≤ nx2.nat) (hb : Beside nx ob' obR obR') (hw : ∀ id : Pos, id.nat < nx.nat → wrtn lg' id) (gh : GH γ w) (hob : ∀ id c, so id → obR.get id = some c → HoldsO P γ w id c) (hnx : ∀ id : Pos, so id → nx2.nat ≤ id.nat → γ.cur id = 0)
    {S : Pos → Prop} (gh' : GH γ' w') (F : Fr S (pull nx (fun j => j) γ) γ' w w') (ho : ∀ id c, ob'.get id = some c → HoldsO P γ' w' id c) (hn : ∀ id : Pos, nx.nat ≤ id.nat → γ'.cur id = 0) :
    GH (psh (tauI nx) γ γ') w' ∧ Fr (wrtn lg') γ (psh (tauI nx) γ γ') w w' ∧ (∀ d u, DV γ' w' d u → DV (psh (tauI nx) γ γ') w' d u) ∧ (∀ id c, so id → obR'.get id = some c → HoldsO P (psh (tauI nx) γ γ') w' id c) ∧ ∀ id : Pos, so id → nx2.nat ≤ id.nat → (psh (tauI nx) γ γ').cur id = 0 := by
  have R := Ren.id nx
  have U := psh_ups (γ := γ) (w := w') hn
  refine ⟨psh_gh R gh gh' F, psh_fr R (fun id j h => hw id (by obtain ⟨h1, h2⟩ := R.b id j h; exact h2 ▸ h1)) F, fun d u h => DV.mono U d u h, fun id c hid hc => ?_, fun id hid hle => ?_⟩
  · by_cases h : id.nat < nx.nat
    · exact HoldsO.mono U (psh_cur (tauI_lt h)) (fun _ _ => rfl) (ho id c (hb.lo id c h hc))
    · rw [hb.hi id (Nat.not_lt.1 h)] at hc
      exact psh_keep R gh F (tauI_ge h) (hob id c hid hc)
  · have h : ¬ id.nat < nx.nat := by omega
    rw [psh_cur0 (tauI_ge h)]
    exact hnx id hid hle
theorem pull_same {γ : Gh} (id : Pos) (h : id.nat < nx.nat) : (pull nx (fun j => j) γ).cur id = γ.cur id ∧ (pull nx (fun j => j) γ).β id = γ.β id := ⟨pull_cur h, rfl⟩
theorem CallOk.frame {f : FuncId} (h : CallOk P f ds ob nx none v ob' nx none) (hle : T.le ob obR) (hk : KpO nx.nat ob) (hd : KpL nx.nat ds) (hb : Beside nx ob' obR obR') (hx : nx.nat ≤ nx2.nat) (hl : LgLe lg lg') (hw : ∀ id : Pos, id.nat < nx.nat → wrtn lg' id) : CallOk P f ds obR nx2 lg v obR' nx2 lg' := by
  refine ⟨hl, Nat.le_refl _, fun id hn => hb.hi id (Nat.not_lt.1 fun h => hn (hw id h)), fun so hs γ args w gh hargs hob hnx => ?_⟩
  have hso : ∀ id : Pos, id.nat < nx.nat → so id := fun id h => hs id (hw id h).tchd
  obtain ⟨c1, c2⟩ := h.ok (fun _ => True) (fun _ _ => trivial) (pull nx (fun j => j) γ) args w (pull_gh (Ren.id nx) gh) (DVL.kp (pull_im (nx := nx) (ρ := fun j => j) (γ := γ)) pull_same _ _ hd hargs) (fun id c _ hc => HoldsO.kp (pull_im (nx := nx) (ρ := fun j => j) (γ := γ)) pull_same (hk id c hc).1 (hk id c hc).2 (hob id c (hso id (hk id c hc).1) (hle id c hc))) (fun id _ hid => pull_cur0 (Nat.not_lt.2 hid))
  refine ⟨c1, fun ro n Q hQ => c2 ro n Q fun γ' w' u gh' F hu ho hn => ?_⟩
  obtain ⟨k1, k2, k3, k4, k5⟩ := frame_end (so := so) (ob' := ob') hx hb hw gh hob hnx gh' F (fun id c hc => ho id c trivial hc) (fun id hid => hn id trivial hid)
  exact hQ _ w' u k1 k2 (k3 _ _ hu) k4 k5
theorem RndOk.frame {id : Pos} (h : RndOk P id ds ob nx none v ob' nx none) (hid : id.nat < nx.nat) (hle : T.le ob obR) (hk : KpO nx.nat ob) (hd : KpL nx.nat ds) (hb : Beside nx ob' obR obR') (hx : nx.nat ≤ nx2.nat) (hl : LgLe lg lg') (hw : ∀ id : Pos, id.nat < nx.nat → wrtn lg' id) : RndOk P id ds obR nx2 lg v obR' nx2 lg' := by
  refine ⟨hl, Nat.le_refl _, fun id hn => hb.hi id (Nat.not_lt.1 fun h => hn (hw id h)), fun so hs γ args w gh hargs hob hnx hcur => ?_⟩
  have hso : ∀ id : Pos, id.nat < nx.nat → so id := fun id h => hs id (hw id h).tchd
  obtain ⟨fn, tmps, asg, body, c1, c2⟩ := h.ok (fun _ => True) (fun _ _ => trivial) (pull nx (fun j => j) γ) args w (pull_gh (Ren.id nx) gh) (DVL.kp (pull_im (nx := nx) (ρ := fun j => j) (γ := γ)) pull_same _ _ hd hargs) (fun id c _ hc => HoldsO.kp (pull_im (nx := nx) (ρ := fun j => j) (γ := γ)) pull_same (hk id c hc).1 (hk id c hc).2 (hob id c (hso id (hk id c hc).1) (hle id c hc))) (fun id _ hid => pull_cur0 (Nat.not_lt.2 hid)) (by rw [pull_cur hid]; exact hcur)
  refine ⟨fn, tmps, asg, body, c1, fun ro n Q hQ => c2 ro n Q fun γ' w' u gh' F hu ho hn => ?_⟩
  obtain ⟨k1, k2, k3, k4, k5⟩ := frame_end (so := so) (ob' := ob') hx hb hw gh hob hnx gh' F (fun id c hc => ho id c trivial hc) (fun id hid => hn id trivial hid)
  exact hQ _ w' u k1 k2 (k3 _ _ hu) k4 k5
theorem WCall.fr {f : Nat} {d : Option Pos} {sl : T D} {K : X → Prop} (h : CallOk P f ds ob nx none v ob' nx none) (hle : T.le ob obR) (hk : KpO nx.nat ob) (hd : KpL nx.nat ds) (hb : Beside nx ob' obR obR') (hx : nx.nat ≤ nx2.nat) (hl : LgLe lg lg') (hw : ∀ id : Pos, id.nat < nx.nat → wrtn lg' id) (k : wDst sl obR' nx2 lg' d K v) : WCall P f ds d ⟨sl, obR, nx2, lg⟩ K := by
  have C := h.frame hle hk hd hb hx hl hw
  cases d with
  | none => exact ⟨v, _, _, _, _, C, rfl, k⟩
  | some d =>
    obtain ⟨h1, h2⟩ := wOut_ok k
    exact ⟨v, _, _, _, _, C, h1, h2⟩
theorem WRnd.fr {id : Pos} {d : Option Pos} {sl : T D} {K : X → Prop} (h : RndOk P id ds ob nx none v ob' nx none) (hid : id.nat < nx.nat) (hle : T.le ob obR) (hk : KpO nx.nat ob) (hd : KpL nx.nat ds) (hb : Beside nx ob' obR obR') (hx : nx.nat ≤ nx2.nat) (hl : LgLe lg lg') (hw : ∀ id : Pos, id.nat < nx.nat → wrtn lg' id) (k : wDst sl obR' nx2 lg' d K v) : WRnd P id ds d ⟨sl, obR, nx2, lg⟩ K := by
  have C := h.frame hid hle hk hd hb hx hl hw
  cases d with
  | none => exact ⟨v, _, _, _, _, C, rfl, k⟩
  | some d =>
    obtain ⟨h1, h2⟩ := wOut_ok k
    exact ⟨v, _, _, _, _, C, h1, h2⟩
end
noncomputable def tau1 (id j : Pos) : Option Pos := bif Pos.beq j id then some .h else none
theorem tau1_eq (id : Pos) : tau1 id id = some .h := by unfold tau1; rw [Pos.beq_self]; rfl
theorem tau1_ne {id j : Pos} (h : j ≠ id) : tau1 id j = none := by
  unfold tau1
  cases e : Pos.beq j id with
  | false => rfl
  | true => exact absurd (Pos.beq_iff.1 e) h
theorem Ren.one (id : Pos) : Ren (.o .h) (fun _ => id) (tau1 id) := by
  refine ⟨fun j hj => ?_, fun i j h => ?_⟩
  · have : j = .h := by
      cases j with
      | h => rfl
      | o p => have := Pos.nat_pos p; have hj : 2 * p.nat < 2 := hj; omega
      | i p => have := Pos.nat_pos p; have hj : 2 * p.nat + 1 < 2 := hj; omega
    subst this
    exact tau1_eq id
  · by_cases e : i = id
    · subst e
      rw [tau1_eq] at h
      cases h
      exact ⟨by decide, rfl⟩
    · rw [tau1_ne e] at h; cases h
theorem CallOk.one {P : Program} {f : FuncId} {n st z cur : Nat} {cs : List Cell} {v : D} {ob' : T C} (h : CallOk P f [.sl .h 0 n st z] (.n .e (some (.cells false cs cur)) .e) (.o .h) none v ob' (.o .h) none) (hob' : ob'.get .h = some (.cells false cs cur)) (hp : ∀ c ∈ cs, Pu c.d) (hv : Pu v)
    {id : Pos} {ob : T C} {nx : Pos} {lg lg' : Option (T Bool)} (hid : ob.get id = some (.cells false cs cur)) (hlt : id.nat < nx.nat) (hl : LgLe lg lg') (hw : wrtn lg' id) : CallOk P f [.sl id 0 n st z] ob nx lg v ob nx lg' := by
  refine ⟨hl, Nat.le_refl _, Keeps.refl _ _, fun so hs γ args w gh hargs hob hnx => ?_⟩
  have hso : so id := hs id hw.tchd
  have h1 : Pos.h.nat < (Pos.o .h).nat := by decide
  have R := Ren.one id
  have hargs' : DVL (pull (.o .h) (fun _ => id) γ) w [.sl .h 0 n st z] args.toList := by
    unfold DVL at hargs ⊢
    obtain ⟨u, r, e1, e2, e3⟩ := hargs
    refine ⟨u, r, e1, ?_, e3⟩
    unfold DV at e2 ⊢
    rw [pull_cur h1]
    exact e2
  obtain ⟨c1, c2⟩ := h.ok (fun _ => True) (fun _ _ => trivial) (pull (.o .h) (fun _ => id) γ) args w (pull_gh R gh) hargs' (fun j c _ hc => by
    cases j with
    | h =>
      rw [T.get_h] at hc
      cases hc
      obtain ⟨q0, q1, q2⟩ := hob id _ hso hid
      refine ⟨q0, (pull_cur h1).trans q1, fun s hs => ?_⟩
      obtain ⟨vs, e, fr, q3, q4, q5⟩ := q2 s hs
      refine ⟨vs, e, fr, q3, q4, fun p c hpc hh hd => ?_⟩
      obtain ⟨u, q6, q7, q8⟩ := q5 p c hpc hh hd
      exact ⟨u, q6, DV.pu (pull_im (nx := .o .h) (ρ := fun _ => id) (γ := γ)) _ _ (hp c (List.mem_of_getElem? hpc)) q7, q8⟩
    | o p => rw [T.get_o, T.get_e] at hc; cases hc
    | i p => rw [T.get_i, T.get_e] at hc; cases hc) (fun j _ hj => pull_cur0 (Nat.not_lt.2 hj))
  refine ⟨c1, fun ro m Q hQ => c2 ro m Q fun γ' w' u gh' F hu ho hn => ?_⟩
  have hWid : ∀ i j, tau1 id i = some j → wrtn lg' i := fun i j h => by
    by_cases e : i = id
    · subst e; exact hw
    · rw [tau1_ne e] at h; cases h
  refine hQ (psh (tau1 id) γ γ') w' u (psh_gh R gh gh' F) (psh_fr R hWid F) (DV.pu (psh_im (τ := tau1 id) (γ := γ) (γ' := γ')) _ _ hv hu) (fun i c hi hc => ?_) (fun i hi hle => ?_)
  · by_cases e : i = id
    · subst e
      rw [hid] at hc
      cases hc
      obtain ⟨q0, q1, q2⟩ := ho .h _ trivial hob'
      refine ⟨q0, (psh_cur (tau1_eq i)).trans q1, fun s hs => ?_⟩
      obtain ⟨vs, e, fr, q3, q4, q5⟩ := q2 s hs
      rw [psh_be (tau1_eq i)]
      refine ⟨vs, e, fr, q3, q4, fun p c hpc hh hd => ?_⟩
      obtain ⟨u, q6, q7, q8⟩ := q5 p c hpc hh hd
      exact ⟨u, q6, DV.pu (psh_im (τ := tau1 i) (γ := γ) (γ' := γ')) _ _ (hp c (List.mem_of_getElem? hpc)) q7, q8⟩
    · exact psh_keep R gh F (tau1_ne e) (hob i c hi hc)
  · have e : i ≠ id := fun e => by subst e; omega
    rw [psh_cur0 (tau1_ne e)]
    exact hnx i hi hle
theorem WCall.one {P : Program} {f : Nat} {n st z cur : Nat} {cs : List Cell} {v : D} {ob' : T C} (h : CallOk P f [.sl .h 0 n st z] (.n .e (some (.cells false cs cur)) .e) (.o .h) none v ob' (.o .h) none) (hob' : ob'.get .h = some (.cells false cs cur)) (hp : ∀ c ∈ cs, Pu c.d) (hv : Pu v)
    {id : Pos} {ob : T C} {nx : Pos} {lg lg' : Option (T Bool)} {sl : T D} {d : Option Pos} {K : X → Prop} (hid : ob.get id = some (.cells false cs cur)) (hlt : id.nat < nx.nat) (hl : LgLe lg lg') (hw : wrtn lg' id) (k : wDst sl ob nx lg' d K v) : WCall P f [.sl id 0 n st z] d ⟨sl, ob, nx, lg⟩ K := by
  have C := h.one hob' hp hv hid hlt hl hw
  cases d with
  | none => exact ⟨v, _, _, _, _, C, rfl, k⟩
  | some d =>
    obtain ⟨h1, h2⟩ := wOut_ok k
    exact ⟨v, _, _, _, _, C, h1, h2⟩
end Go.Ev
namespace Go.Ev
open Go.RowKit (Below Grown)
noncomputable def lgW (lg : Option (T Bool)) (id : Pos) : Option (T Bool) := match lg with
  | none => none
  | some L => some (T.set id true L)
theorem lgW_le (lg : Option (T Bool)) (id : Pos) : LgLe lg (lgW lg id) := by
  cases lg with
  | none => exact LgLe.refl _
  | some L =>
    refine ⟨⟨fun h => (by cases h), fun h => (by cases h)⟩, fun j h => ?_, fun j h => ?_⟩
    · obtain ⟨b, hb⟩ := h
      by_cases e : j = id
      · subst e; exact ⟨true, T.get_set_same _ _ _⟩
      · exact ⟨b, by rw [T.get_set_ne e _ _]; exact hb⟩
    · by_cases e : j = id
      · subst e; exact T.get_set_same _ _ _
      · show (T.set id true L).get j = some true
        rw [T.get_set_ne e _ _]; exact h
theorem lgW_w (lg : Option (T Bool)) (id : Pos) : wrtn (lgW lg id) id := by
  cases lg with
  | none => trivial
  | some L => exact T.get_set_same _ _ _
section
variable {γ : Gh} {w : World} {id : Pos}
theorem dv_mp {u : Value} (h : DV γ w (.mp id) u) : DV (pull (.o .h) (fun _ => id) γ) w (.mp .h) u := by
  have h1 : Pos.h.nat < (Pos.o .h).nat := by decide
  unfold DV at h ⊢
  rw [pull_cur h1]
  exact h
end
end Go.Ev
namespace Go.Ev
open Go.RowKit (Below Grown)
structure RnF (P : Program) (nt : Nat) (x0 : X) (rc : RC) (y : X) (K : Ex → X → Prop) : Prop where
  ok : x0.lg = none → y.lg = none → x0.nx.nat ≤ y.nx.nat → ∀ c : Code, comp P nt c = rc → ∃ e Z, Z.lg = none ∧ x0.nx.nat ≤ Z.nx.nat ∧ K e Z ∧
    ∀ (ro : Option Nat) (γ : Gh) (a : Act) (w : World), a.tmps.size = nt → G ro γ a w → Rep P (allS fun _ => True) γ a w x0 → ∀ (γ1 : Gh) (a1 : Act) (w1 : World), CSt ro none γ a w γ1 a1 w1 → Rep P (allS fun _ => True) γ1 a1 w1 y →
      ∀ (n : Nat) (Q : Exit → Act → World → Prop), (∀ γ' a' w', CSt ro none γ a w γ' a' w' → Rep P (allS fun _ => True) γ' a' w' Z → Q e.to a' w') → c.wpIn (FW ro) n P Q a1 w1
section
variable {P : Program} {nt : Nat} {x0 : X} {rc : RC} {y : X} {K : Ex → X → Prop}
theorem Rep.all {so : Pos → Prop} {γ : Gh} {a : Act} {w : World} {x : X} (h : ∀ id, so id) (R : Rep P (allS so) γ a w x) : Rep P (allS fun _ => True) γ a w x :=
  ⟨fun s d _ hd => R.sl s d trivial hd, fun id c _ hc => R.ob id c (h id) hc, fun id _ hle => R.nx id (h id) hle, R.gl⟩
theorem Rep.any {so : Pos → Prop} {γ : Gh} {a : Act} {w : World} {x : X} (R : Rep P (allS fun _ => True) γ a w x) : Rep P (allS so) γ a w x :=
  ⟨fun s d _ hd => R.sl s d trivial hd, fun id c _ hc => R.ob id c trivial hc, fun id _ hle => R.nx id trivial hle, R.gl⟩
theorem Rn.far {x : X} (hl : x.lg = none) (h : RnF P nt x rc x K) : Rn P nt rc x K :=
  ⟨fun c hc => by
    obtain ⟨e, Z, h1, h2, h3, h4⟩ := h.ok hl hl (Nat.le_refl _) c hc
    refine ⟨e, Z, ⟨by rw [hl, h1]; exact LgLe.refl _, h2, fun id hn => by rw [h1] at hn; exact absurd trivial hn, fun so hs ro γ a w hn g R n Q hQ => ?_⟩, h3⟩
    have hall : ∀ id, so id := fun id => hs id (by rw [h1]; trivial)
    refine h4 ro γ a w hn g (R.all hall) γ a w (CSt.refl g) (R.all hall) n Q fun γ' a' w' s' R' => hQ γ' a' w' (by rw [h1]; exact s') R'.any⟩
structure FarK (P : Program) (nt : Nat) (x0 : X) (b : RC) (K : Ex → X → Prop) (e : Ex) (z : X) : Prop where
  ok : e = .normal ∧ z.lg = none ∧ x0.nx.nat ≤ z.nx.nat ∧ RnF P nt x0 b z K
theorem RnF.seq {a b : RC} (h : Rn P nt a y (FarK P nt x0 b K)) : RnF P nt x0 (.seq a b) y K :=
  ⟨fun hl0 hly hx c hc => by
    obtain ⟨c1, k1, k2, k3⟩ := bareW (P := P) (nt := nt) c
    have hc1 := k1.trans hc
    refine other hc1 k2 (fun e => by cases e) (fun _ e => by cases e) (fun j _ e => by cases e) (fun i ops _ e => by cases e) (fun i ops _ e => by cases e) (fun a' b' e e' => ?_) (fun _ _ _ _ _ _ e => by cases e) (fun _ _ _ e => by cases e) (fun _ _ e => by cases e) (fun _ _ _ _ _ _ _ _ _ e => by cases e) (fun e => by cases e)
    simp only [RC.seq.injEq] at e'
    obtain ⟨e1, e2⟩ := e'
    subst e
    obtain ⟨e, z, h1, h2⟩ := h.ok a' e1.symm
    obtain ⟨rfl, hlz, hxz, h3⟩ := h2.ok
    obtain ⟨e, Z, j1, j2, j3, j4⟩ := h3.ok hl0 hlz hxz b' e2.symm
    refine ⟨e, Z, j1, j2, j3, fun ro γ A w hn g R γ1 a1 w1 s1 R1 n Q hQ => ?_⟩
    obtain ⟨Q', q1, q2⟩ := k3 (F := FW ro) (n := n) (Q := Q) (a := a1) (w := w1)
    refine q2 (wpIn_seq (h1.ok (fun _ => True) (fun _ _ => trivial) ro γ1 a1 w1 (s1.sz.trans hn) s1.g R1 n _ fun γ2 a2 w2 s2 R2 => ?_))
    have s2 : CSt ro none γ1 a1 w1 γ2 a2 w2 := by rw [hlz] at s2; exact s2
    exact j4 ro γ A w hn g R γ2 a2 w2 (CSt.trans (LgLe.refl _) s1 s2) R2 n Q' fun γ' a' w' s' R' => q1 _ _ _ (hQ γ' a' w' s' R')⟩
theorem RnF.turn {z' : X} {B : Pos → Prop} (S : ShrB B y z') (hx : ∀ id : Pos, id.nat < x0.nx.nat → B id) (hz : ∀ id : Pos, B id → id.nat < z'.nx.nat) (hn0 : x0.nx.nat ≤ z'.nx.nat) (h : Rn P nt rc z' K) : RnF P nt x0 rc y K :=
  ⟨fun hl0 hly hxy c hc => by
    obtain ⟨e, Z, h1, h2⟩ := h.ok c hc
    have hZ : Z.lg = none := h1.lg.none.1 S.l'
    refine ⟨e, Z, hZ, Nat.le_trans hn0 h1.nx, h2, fun ro γ A w hn g R γ1 a1 w1 s1 R1 n Q hQ => ?_⟩
    obtain ⟨γ2, s2, R2⟩ := shrinkB_at S hx hz (fun _ => trivial) R (by rw [hly]; exact s1) R1
    have s2 : CSt ro none γ A w γ2 a1 w1 := by rw [S.l'] at s2; exact s2
    refine h1.ok (fun _ => True) (fun _ _ => trivial) ro γ2 a1 w1 (s2.sz.trans hn) s2.g R2 n Q fun γ3 a3 w3 s3 R3 => ?_
    have s3 : CSt ro none γ2 a1 w1 γ3 a3 w3 := by rw [hZ] at s3; exact s3
    exact hQ γ3 a3 w3 (CSt.trans (LgLe.refl _) s2 s3) R3⟩
end
end Go.Ev