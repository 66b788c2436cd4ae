import Derived.Test.YtkbgaadfednjpaaGreatDoorEvULk
import Derived.Test.YtkbgaadfednjpaaGreatDoorEvU4b
set_option linter.all false
set_option maxHeartbeats 8000000
noncomputable section
namespace Go.Ev
open Go.Proofs
set_option maxRecDepth 100000
theorem EJ (lo hi n : Int) : PureF Tryz.prog p124.ix [.ag [.i .i64 lo, .i .i64 hi], .i .i64 n] (.b (iR n lo hi)) := by
  refine PureF.run IQ (by simp) (by simp [aN, dE, Pu]) ?_; conv => whnf
  repeat' first | ((first | refine Qz ?_ | with_reducible refine WB.dec (fun h => ?_) (fun h => ?_) | with_reducible refine WB.ndec (fun h => ?_) (fun h => ?_) | refine WB.mk (fun h => ?_) (fun h => ?_)) <;> conv => whnf)
  all_goals
    refine Fin.b rfl ?_
    unfold iR
    first
      | exact (decide_eq_false (by omega)).symm
      | (congr 1; apply propext; constructor <;> intro hh <;> omega)
theorem BI (n a b : Int) : PureF Tryz.prog p45.ix [.i .i64 n, .i .i64 a, .i .i64 b] (.b (iR n a b)) := by
  refine PureF.run Mg (by simp) (by simp [aN, dE, Pu]) ?_; conv => whnf
  repeat' first | ((first | refine Qz ?_ | with_reducible refine WB.dec (fun h => ?_) (fun h => ?_) | with_reducible refine WB.ndec (fun h => ?_) (fun h => ?_) | refine WB.mk (fun h => ?_) (fun h => ?_)) <;> conv => whnf)
  all_goals
    refine Fin.b rfl ?_
    unfold iR
    first
      | exact (decide_eq_false (by omega)).symm
      | (congr 1; apply propext; constructor <;> intro hh <;> omega)
theorem mW (n m : Int) : PureF Tryz.prog p100.ix [.i .i64 n, .i .i64 m] (.b (iR n 0 m)) := by
  refine PureF.run Lq (by simp) (by simp [aN, dE, Pu]) ?_; conv => whnf
  repeat' first | ((first | refine Qz ?_ | refine Qf (EJ _ _ _) ?_) <;> conv => whnf)
  exact Fin.b rfl rfl
theorem Ak (n : Int) : PureF Tryz.prog p146.ix [.i .i64 n] (.b (hY n)) := by
  refine PureF.run JE (by simp) (by simp [aN, dE, Pu]) ?_; conv => whnf
  repeat' first | ((first | refine Qz ?_ | refine Qf (mW _ _) ?_) <;> conv => whnf)
  exact Fin.b rfl rfl
theorem qM (n : Int) : tA n = true ↔ n = -1 ∨ hY n = true := by
  unfold tA hY iR
  rw [decide_eq_true_iff, decide_eq_true_iff]; omega
theorem Ir (n : Int) : PureF Tryz.prog p126.ix [.i .i64 n] (.b (tA n)) := by
  refine PureF.run KF (by simp) (by simp [aN, dE, Pu]) ?_; conv => whnf
  repeat' first | ((first | refine Qz ?_ | refine Qf (Ak _) ?_ | with_reducible refine WB.dec (fun h => ?_) (fun h => ?_) | with_reducible refine WB.ndec (fun h => ?_) (fun h => ?_) | refine WB.mk (fun h => ?_) (fun h => ?_)) <;> conv => whnf)
  · exact Fin.b rfl ((qM n).2 (.inl (by omega))).symm
  · exact Fin.b rfl (by cases hd : hY n with
      | true => exact ((qM n).2 (.inr hd)).symm
      | false =>
        cases hs : tA n with
        | false => rfl
        | true => rcases (qM n).1 hs with e | e
                  · exact absurd e (by omega)
                  · rw [hd] at e; cases e)
theorem xG (l : List Int) (f : Pos) (first caps : List D) (p : Int → Bool) (h1 : aN first) (h2 : aN caps) (hl : l.length ≤ 1000) (hf : ∀ c ∈ l, PureF Tryz.prog f.ix (first ++ ([.i .i64 c] ++ caps)) (.b (p c))) : PureF Tryz.prog p125.ix [.lst 1 (ints l), .fn f first caps] (.b (l.all p)) := by
  have e1 : (ints l).length = l.length := by simp [aJ, ints]
  refine PureF.run KA (by simp) (by simp [aN, dE, Pu, aB, h1, h2]) ?_; conv => whnf
  repeat' first | ((first | refine Qz ?_) <;> conv => whnf)
  refine Rn.loop (fun j : Nat => ⟨(.n (.n (.n (.n .e (some (.lst 1 (ints l))) .e) none .e) (some (.fn f first caps)) (.n (.n .e (some (.i .i64 (j : Int))) .e) none .e)) none (.n (.n (.n .e (some (.i .i64 ((ints l).length : Int))) .e) none .e) none .e)), .e, .h, none⟩) (fun j => j ≤ l.length ∧ (l.take j).all p = true) (fun j => l.length - j) 0 ?_ ?_ ?_
  · (first | (refine X.le.mk ?_ ?_ (Nat.le_refl _) rfl rfl) | skip) <;> (repeat' first | exact T.le_e _ | refine T.le_some ?_ ?_ ?_ | refine T.le_none ?_ ?_ | rfl)
  · exact ⟨by omega, by simp⟩
  rintro j ⟨hj, ha⟩
  conv => whnf
  repeat' first | ((first | refine Qz ?_) <;> conv => whnf)
  refine WB.dec (fun h => ?_) (fun h => ?_) <;> conv => whnf
  · have hlt : j < l.length := by omega
    repeat' first | ((first | refine Qz ?_ | refine Qf (hf _ (aR hlt)) ?_) <;> conv => whnf)
    refine WB.mk (fun h => ?_) (fun h => ?_) <;> conv => whnf
    · repeat' first | ((first | refine Qz ?_) <;> conv => whnf)
      exact Fin.b rfl (by rw [fP (d := 0) hlt (by simpa using h)])
    · repeat' first | ((first | refine Qz ?_) <;> conv => whnf)
      refine Again.to (j + 1) (by omega) ⟨by omega, bO (d := 0) hlt ha (by simpa using h)⟩ (Nat.le_refl _) ?_
      (refine Shr.of ?_ ?_ rfl rfl) <;> (repeat' first | exact Rel.e | refine Rel.some ?_ ?_ ?_ | refine Rel.none ?_ ?_) <;> (try first | (show Fz _ _ _ _; first | exact Fz.pu trivial | (refine Fz.i ?_; first | rfl | omega) | (refine Fz.kpt ?_; (focus (show Pos.nat _ < Pos.nat _; simp [Pos.nat]; done))) | (refine Fz.ksl ?_; (focus (show Pos.nat _ < Pos.nat _; simp [Pos.nat]; done))) | (refine Fz.kmp ?_; (focus (show Pos.nat _ < Pos.nat _; simp [Pos.nat]; done))) | (refine Fz.pu ?_; simp [Cell.d, Pu, aN, dE, aB, aH, aF]; done) | (refine Fz.pu ?_; simp only [Cell.d]; assumption)) | (refine RO'.of ?_ (ShC.same ?_); (focus (show Pos.nat _ < Pos.nat _; simp [Pos.nat]; done)); (repeat' first | exact ShC.nl | refine ShC.cn ?_ ?_) <;> first | exact Fz.pu trivial | (refine Fz.i ?_; first | rfl | omega) | (refine Fz.kpt ?_; (focus (show Pos.nat _ < Pos.nat _; simp [Pos.nat]; done))) | (refine Fz.ksl ?_; (focus (show Pos.nat _ < Pos.nat _; simp [Pos.nat]; done))) | (refine Fz.kmp ?_; (focus (show Pos.nat _ < Pos.nat _; simp [Pos.nat]; done))) | (refine Fz.pu ?_; simp [Cell.d, Pu, aN, dE, aB, aH, aF]; done) | (refine Fz.pu ?_; simp only [Cell.d]; assumption)))
      all_goals (refine Fz.pu ?_; simp [Pu, h1, h2, aB])
  · repeat' first | ((first | refine Qz ?_) <;> conv => whnf)
    exact Fin.b rfl (by rw [gC (by omega) ha])
theorem Ek (l : List (List Int)) (f : Pos) (first caps : List D) (p : (List Int) → Bool) (h1 : aN first) (h2 : aN caps) (hl : l.length ≤ 1000) (hf : ∀ c ∈ l, PureF Tryz.prog f.ix (first ++ ([.lst 1 (ints c)] ++ caps)) (.b (p c))) : PureF Tryz.prog p116.ix [.lst 1 (aJ fI l), .fn f first caps] (.b (l.all p)) := by
  have e1 : (aJ fI l).length = l.length := by simp [aJ, ints]
  refine PureF.run JN (by simp) (by simp [aN, dE, Pu, aB, aF, h1, h2]) ?_; conv => whnf
  repeat' first | ((first | refine Qz ?_) <;> conv => whnf)
  refine Rn.loop (fun j : Nat => ⟨(.n (.n (.n (.n .e (some (.lst 1 (aJ fI l))) .e) none .e) (some (.fn f first caps)) (.n (.n .e (some (.i .i64 (j : Int))) .e) none .e)) none (.n (.n (.n .e (some (.i .i64 ((aJ fI l).length : Int))) .e) none .e) none .e)), .e, .h, none⟩) (fun j => j ≤ l.length ∧ (l.take j).all p = true) (fun j => l.length - j) 0 ?_ ?_ ?_
  · (first | (refine X.le.mk ?_ ?_ (Nat.le_refl _) rfl rfl) | skip) <;> (repeat' first | exact T.le_e _ | refine T.le_some ?_ ?_ ?_ | refine T.le_none ?_ ?_ | rfl)
  · exact ⟨by omega, by simp⟩
  rintro j ⟨hj, ha⟩
  conv => whnf
  repeat' first | ((first | refine Qz ?_) <;> conv => whnf)
  refine WB.dec (fun h => ?_) (fun h => ?_) <;> conv => whnf
  · have hlt : j < l.length := by omega
    repeat' first | ((first | refine Qz ?_ | refine Qf (hf _ (aR hlt)) ?_) <;> conv => whnf)
    refine WB.mk (fun h => ?_) (fun h => ?_) <;> conv => whnf
    · repeat' first | ((first | refine Qz ?_) <;> conv => whnf)
      exact Fin.b rfl (by rw [fP (d := default) hlt (by simpa using h)])
    · repeat' first | ((first | refine Qz ?_) <;> conv => whnf)
      refine Again.to (j + 1) (by omega) ⟨by omega, bO (d := default) hlt ha (by simpa using h)⟩ (Nat.le_refl _) ?_
      (refine Shr.of ?_ ?_ rfl rfl) <;> (repeat' first | exact Rel.e | refine Rel.some ?_ ?_ ?_ | refine Rel.none ?_ ?_) <;> (try first | (show Fz _ _ _ _; first | exact Fz.pu trivial | (refine Fz.i ?_; first | rfl | omega) | (refine Fz.kpt ?_; (focus (show Pos.nat _ < Pos.nat _; simp [Pos.nat]; done))) | (refine Fz.ksl ?_; (focus (show Pos.nat _ < Pos.nat _; simp [Pos.nat]; done))) | (refine Fz.kmp ?_; (focus (show Pos.nat _ < Pos.nat _; simp [Pos.nat]; done))) | (refine Fz.pu ?_; simp [Cell.d, Pu, aN, dE, aB, aH, aF]; done) | (refine Fz.pu ?_; simp only [Cell.d]; assumption)) | (refine RO'.of ?_ (ShC.same ?_); (focus (show Pos.nat _ < Pos.nat _; simp [Pos.nat]; done)); (repeat' first | exact ShC.nl | refine ShC.cn ?_ ?_) <;> first | exact Fz.pu trivial | (refine Fz.i ?_; first | rfl | omega) | (refine Fz.kpt ?_; (focus (show Pos.nat _ < Pos.nat _; simp [Pos.nat]; done))) | (refine Fz.ksl ?_; (focus (show Pos.nat _ < Pos.nat _; simp [Pos.nat]; done))) | (refine Fz.kmp ?_; (focus (show Pos.nat _ < Pos.nat _; simp [Pos.nat]; done))) | (refine Fz.pu ?_; simp [Cell.d, Pu, aN, dE, aB, aH, aF]; done) | (refine Fz.pu ?_; simp only [Cell.d]; assumption)))
      all_goals (refine Fz.pu ?_; simp [Pu, h1, h2, aB, aF])
  · repeat' first | ((first | refine Qz ?_) <;> conv => whnf)
    exact Fin.b rfl (by rw [gC (by omega) ha])
theorem GB (l : List (Int × Int)) (f : Pos) (first caps : List D) (p : (Int × Int) → Bool) (h1 : aN first) (h2 : aN caps) (hl : l.length ≤ 1000) (hf : ∀ c ∈ l, PureF Tryz.prog f.ix (first ++ ([.ag (cV c)] ++ caps)) (.b (p c))) : PureF Tryz.prog p128.ix [.lst 2 (aJ cV l), .fn f first caps] (.b (l.all p)) := by
  have e1 : (aJ cV l).length = l.length := by simp [aJ, ints]
  refine PureF.run Iz (by simp) (by simp [aN, dE, Pu, aH, h1, h2]) ?_; conv => whnf
  repeat' first | ((first | refine Qz ?_) <;> conv => whnf)
  refine Rn.loop (fun j : Nat => ⟨(.n (.n (.n (.n .e (some (.lst 2 (aJ cV l))) .e) none .e) (some (.fn f first caps)) (.n (.n .e (some (.i .i64 (j : Int))) .e) none .e)) none (.n (.n (.n .e (some (.i .i64 ((aJ cV l).length : Int))) .e) none .e) none .e)), .e, .h, none⟩) (fun j => j ≤ l.length ∧ (l.take j).all p = true) (fun j => l.length - j) 0 ?_ ?_ ?_
  · (first | (refine X.le.mk ?_ ?_ (Nat.le_refl _) rfl rfl) | skip) <;> (repeat' first | exact T.le_e _ | refine T.le_some ?_ ?_ ?_ | refine T.le_none ?_ ?_ | rfl)
  · exact ⟨by omega, by simp⟩
  rintro j ⟨hj, ha⟩
  conv => whnf
  repeat' first | ((first | refine Qz ?_) <;> conv => whnf)
  refine WB.dec (fun h => ?_) (fun h => ?_) <;> conv => whnf
  · have hlt : j < l.length := by omega
    repeat' first | ((first | refine Qz ?_ | refine Qf (hf _ (aR hlt)) ?_) <;> conv => whnf)
    refine WB.mk (fun h => ?_) (fun h => ?_) <;> conv => whnf
    · repeat' first | ((first | refine Qz ?_) <;> conv => whnf)
      exact Fin.b rfl (by rw [fP (d := default) hlt (by simpa using h)])
    · repeat' first | ((first | refine Qz ?_) <;> conv => whnf)
      refine Again.to (j + 1) (by omega) ⟨by omega, bO (d := default) hlt ha (by simpa using h)⟩ (Nat.le_refl _) ?_
      (refine Shr.of ?_ ?_ rfl rfl) <;> (repeat' first | exact Rel.e | refine Rel.some ?_ ?_ ?_ | refine Rel.none ?_ ?_) <;> (try first | (show Fz _ _ _ _; first | exact Fz.pu trivial | (refine Fz.i ?_; first | rfl | omega) | (refine Fz.kpt ?_; (focus (show Pos.nat _ < Pos.nat _; simp [Pos.nat]; done))) | (refine Fz.ksl ?_; (focus (show Pos.nat _ < Pos.nat _; simp [Pos.nat]; done))) | (refine Fz.kmp ?_; (focus (show Pos.nat _ < Pos.nat _; simp [Pos.nat]; done))) | (refine Fz.pu ?_; simp [Cell.d, Pu, aN, dE, aB, aH, aF]; done) | (refine Fz.pu ?_; simp only [Cell.d]; assumption)) | (refine RO'.of ?_ (ShC.same ?_); (focus (show Pos.nat _ < Pos.nat _; simp [Pos.nat]; done)); (repeat' first | exact ShC.nl | refine ShC.cn ?_ ?_) <;> first | exact Fz.pu trivial | (refine Fz.i ?_; first | rfl | omega) | (refine Fz.kpt ?_; (focus (show Pos.nat _ < Pos.nat _; simp [Pos.nat]; done))) | (refine Fz.ksl ?_; (focus (show Pos.nat _ < Pos.nat _; simp [Pos.nat]; done))) | (refine Fz.kmp ?_; (focus (show Pos.nat _ < Pos.nat _; simp [Pos.nat]; done))) | (refine Fz.pu ?_; simp [Cell.d, Pu, aN, dE, aB, aH, aF]; done) | (refine Fz.pu ?_; simp only [Cell.d]; assumption)))
      all_goals (refine Fz.pu ?_; simp [Pu, h1, h2, aH])
  · repeat' first | ((first | refine Qz ?_) <;> conv => whnf)
    exact Fin.b rfl (by rw [gC (by omega) ha])
theorem Cp (l : List (Int × Int)) (f : Pos) (first caps : List D) (p : (Int × Int) → Bool) (h1 : aN first) (h2 : aN caps) (hl : l.length ≤ 1000) (hf : ∀ c ∈ l, PureF Tryz.prog f.ix (first ++ ([.ag (cV c)] ++ caps)) (.b (p c))) : PureF Tryz.prog p129.ix [.lst 2 (aJ cV l), .fn f first caps] (.b (l.all p)) := by
  have e1 : (aJ cV l).length = l.length := by simp [aJ, ints]
  refine PureF.run Iy (by simp) (by simp [aN, dE, Pu, aH, h1, h2]) ?_; conv => whnf
  repeat' first | ((first | refine Qz ?_) <;> conv => whnf)
  refine Rn.loop (fun j : Nat => ⟨(.n (.n (.n (.n .e (some (.lst 2 (aJ cV l))) .e) none .e) (some (.fn f first caps)) (.n (.n .e (some (.i .i64 (j : Int))) .e) none .e)) none (.n (.n (.n .e (some (.i .i64 ((aJ cV l).length : Int))) .e) none .e) none .e)), .e, .h, none⟩) (fun j => j ≤ l.length ∧ (l.take j).all p = true) (fun j => l.length - j) 0 ?_ ?_ ?_
  · (first | (refine X.le.mk ?_ ?_ (Nat.le_refl _) rfl rfl) | skip) <;> (repeat' first | exact T.le_e _ | refine T.le_some ?_ ?_ ?_ | refine T.le_none ?_ ?_ | rfl)
  · exact ⟨by omega, by simp⟩
  rintro j ⟨hj, ha⟩
  conv => whnf
  repeat' first | ((first | refine Qz ?_) <;> conv => whnf)
  refine WB.dec (fun h => ?_) (fun h => ?_) <;> conv => whnf
  · have hlt : j < l.length := by omega
    repeat' first | ((first | refine Qz ?_ | refine Qf (hf _ (aR hlt)) ?_) <;> conv => whnf)
    refine WB.mk (fun h => ?_) (fun h => ?_) <;> conv => whnf
    · repeat' first | ((first | refine Qz ?_) <;> conv => whnf)
      exact Fin.b rfl (by rw [fP (d := default) hlt (by simpa using h)])
    · repeat' first | ((first | refine Qz ?_) <;> conv => whnf)
      refine Again.to (j + 1) (by omega) ⟨by omega, bO (d := default) hlt ha (by simpa using h)⟩ (Nat.le_refl _) ?_
      (refine Shr.of ?_ ?_ rfl rfl) <;> (repeat' first | exact Rel.e | refine Rel.some ?_ ?_ ?_ | refine Rel.none ?_ ?_) <;> (try first | (show Fz _ _ _ _; first | exact Fz.pu trivial | (refine Fz.i ?_; first | rfl | omega) | (refine Fz.kpt ?_; (focus (show Pos.nat _ < Pos.nat _; simp [Pos.nat]; done))) | (refine Fz.ksl ?_; (focus (show Pos.nat _ < Pos.nat _; simp [Pos.nat]; done))) | (refine Fz.kmp ?_; (focus (show Pos.nat _ < Pos.nat _; simp [Pos.nat]; done))) | (refine Fz.pu ?_; simp [Cell.d, Pu, aN, dE, aB, aH, aF]; done) | (refine Fz.pu ?_; simp only [Cell.d]; assumption)) | (refine RO'.of ?_ (ShC.same ?_); (focus (show Pos.nat _ < Pos.nat _; simp [Pos.nat]; done)); (repeat' first | exact ShC.nl | refine ShC.cn ?_ ?_) <;> first | exact Fz.pu trivial | (refine Fz.i ?_; first | rfl | omega) | (refine Fz.kpt ?_; (focus (show Pos.nat _ < Pos.nat _; simp [Pos.nat]; done))) | (refine Fz.ksl ?_; (focus (show Pos.nat _ < Pos.nat _; simp [Pos.nat]; done))) | (refine Fz.kmp ?_; (focus (show Pos.nat _ < Pos.nat _; simp [Pos.nat]; done))) | (refine Fz.pu ?_; simp [Cell.d, Pu, aN, dE, aB, aH, aF]; done) | (refine Fz.pu ?_; simp only [Cell.d]; assumption)))
      all_goals (refine Fz.pu ?_; simp [Pu, h1, h2, aH])
  · repeat' first | ((first | refine Qz ?_) <;> conv => whnf)
    exact Fin.b rfl (by rw [gC (by omega) ha])
theorem WIx.intsE {l : List Int} {n : Int} {j : Nat} {F : List D → Prop} (hn : n = (j : Int)) (h : j < l.length) (k : F [D.i .i64 (l.getD j 0)]) : WIx (Go.Ev.ints l) n F := by
  subst hn; exact WIx.intsN h k
theorem lP {w : List Int} : wY w = true ↔ ∀ i, i < w.length → 1 ≤ i → w.getD (i - 1) 0 < w.getD i 0 := by unfold wY; rw [decide_eq_true_iff]
theorem Gc {w : List Int} {i : Nat} (h : i < w.length) (h1 : 1 ≤ i) (k : w.getD i 0 ≤ w.getD (i - 1) 0) : wY w = false := by
  cases hb : wY w with
  | false => rfl
  | true => have := lP.1 hb i h h1; omega
theorem Eq (w : List Int) (hl : w.length ≤ 1000) : PureF Tryz.prog p127.ix [.lst 1 (ints w)] (.b (kU w)) := by
  have e1 := aL w
  have cA := xG w p146 [] [] hY trivial trivial hl (fun n _ => Ak n)
  refine PureF.run Is (by simp) (by simp [aN, dE, Pu, aB]) ?_; conv => whnf
  repeat' first | ((first | refine Qz ?_) <;> conv => whnf)
  refine Rn.loop (fun j : Nat => ⟨(.n (.n (.n .e (some (.i .i64 ((j : Int) + 1))) .e) none .e) (some (.lst 1 (ints w))) .e), .e, .h, none⟩) (fun j => j ≤ w.length ∧ ∀ i, 1 ≤ i → i < j + 1 → i < w.length → w.getD (i - 1) 0 < w.getD i 0) (fun j => w.length - j) 0 ?_ ?_ ?_
  · (first | (refine X.le.mk ?_ ?_ (Nat.le_refl _) rfl rfl) | skip) <;> (repeat' first | exact T.le_e _ | refine T.le_some ?_ ?_ ?_ | refine T.le_none ?_ ?_ | rfl)
  · exact ⟨by omega, fun i h1 h2 => by omega⟩
  rintro j ⟨hj, ha⟩
  conv => whnf
  repeat' first | ((first | refine Qz ?_) <;> conv => whnf)
  refine WB.dec (fun h => ?_) (fun h => ?_) <;> conv => whnf
  · have hlt : j + 1 < w.length := by omega
    repeat' first | ((first | refine Qz ?_ | refine Qy ?_) <;> conv => whnf) | (refine WB.tt ?_; conv => whnf) | (refine WB.ff ?_; conv => whnf)
    refine WIx.intsE (j := j) (by omega) (by omega) ?_; conv => whnf
    repeat' first | ((first | refine Qz ?_ | refine Qy ?_) <;> conv => whnf) | (refine WB.tt ?_; conv => whnf) | (refine WB.ff ?_; conv => whnf)
    refine WB.dec (fun h2 => ?_) (fun h2 => ?_) <;> conv => whnf
    · repeat' first | ((first | refine Qz ?_) <;> conv => whnf)
      exact Fin.b rfl (by unfold kU; rw [Gc (i := j + 1) hlt (by omega) h2]; rfl)
    · repeat' first | ((first | refine Qz ?_) <;> conv => whnf)
      refine Again.to (j + 1) (by omega) ⟨by omega, fun i h1 h3 h4 => ?_⟩ (Nat.le_refl _) ?_
      · by_cases e : i = j + 1
        · subst e; exact Int.not_le.1 h2
        · exact ha i h1 (by omega) h4
      · (refine Shr.of ?_ ?_ rfl rfl) <;> (repeat' first | exact Rel.e | refine Rel.some ?_ ?_ ?_ | refine Rel.none ?_ ?_) <;> (try first | (show Fz _ _ _ _; first | exact Fz.pu trivial | (refine Fz.i ?_; first | rfl | omega) | (refine Fz.kpt ?_; (focus (show Pos.nat _ < Pos.nat _; simp [Pos.nat]; done))) | (refine Fz.ksl ?_; (focus (show Pos.nat _ < Pos.nat _; simp [Pos.nat]; done))) | (refine Fz.kmp ?_; (focus (show Pos.nat _ < Pos.nat _; simp [Pos.nat]; done))) | (refine Fz.pu ?_; simp [Cell.d, Pu, aN, dE, aB, aH, aF]; done) | (refine Fz.pu ?_; simp only [Cell.d]; assumption)) | (refine RO'.of ?_ (ShC.same ?_); (focus (show Pos.nat _ < Pos.nat _; simp [Pos.nat]; done)); (repeat' first | exact ShC.nl | refine ShC.cn ?_ ?_) <;> first | exact Fz.pu trivial | (refine Fz.i ?_; first | rfl | omega) | (refine Fz.kpt ?_; (focus (show Pos.nat _ < Pos.nat _; simp [Pos.nat]; done))) | (refine Fz.ksl ?_; (focus (show Pos.nat _ < Pos.nat _; simp [Pos.nat]; done))) | (refine Fz.kmp ?_; (focus (show Pos.nat _ < Pos.nat _; simp [Pos.nat]; done))) | (refine Fz.pu ?_; simp [Cell.d, Pu, aN, dE, aB, aH, aF]; done) | (refine Fz.pu ?_; simp only [Cell.d]; assumption)))
        all_goals (refine Fz.pu ?_; simp [Pu, aB])
  · have hB : wY w = true := lP.2 fun i hi h1 => ha i h1 (by omega) hi
    unfold kU
    rw [hB, Bool.true_and]
    by_cases k1 : 0 < w.length
    rotate_left
    · rw [decide_eq_false k1]
      repeat' first | ((first | refine Qz ?_ | with_reducible (first | refine Qm ?_ | refine Qn ?_ | refine Qo ?_ | refine Qp ?_ | refine WB.nt ?_ | refine WB.nf ?_ | refine WB.dec (fun h => ?_) (fun h => ?_) | refine WB.ndec (fun h => ?_) (fun h => ?_)) | refine WB.mk (fun h => ?_) (fun h => ?_)) <;> conv => whnf) | (refine WB.tt ?_; conv => whnf) | (refine WB.ff ?_; conv => whnf)
      exact Fin.b rfl rfl
    rw [decide_eq_true k1]
    repeat' first | ((first | refine Qz ?_ | refine Qf (cA) ?_ | with_reducible (first | refine Qm ?_ | refine Qn ?_ | refine Qo ?_ | refine Qp ?_ | refine WB.nt ?_ | refine WB.nf ?_ | refine WB.dec (fun h => ?_) (fun h => ?_) | refine WB.ndec (fun h => ?_) (fun h => ?_)) | refine WB.mk (fun h => ?_) (fun h => ?_)) <;> conv => whnf) | (refine WB.tt ?_; conv => whnf) | (refine WB.ff ?_; conv => whnf)
    exact Fin.b rfl rfl
theorem Hv (b : Bh) (p : Int × Int) (h1 : -9223372036854775807 ≤ b.rws ∧ b.rws ≤ 9223372036854775807) (h2 : -9223372036854775807 ≤ b.pls ∧ b.pls ≤ 9223372036854775807) : PureF Tryz.prog p99.ix [.ag (dV b), .ag (cV p)] (.b (eK b p)) := by
  have c1 := mW p.1 (b.rws - 1)
  have c2 := mW p.2 (b.pls - 1)
  refine PureF.run MA (by simp) (by simp [aN, Pu, aO, cV]) ?_; conv => whnf
  unfold eK
  cases k0 : iR p.1 0 (b.rws - 1) with
  | false =>
    rw [k0] at c1
    repeat' first | ((first | refine Qz ?_ | refine Qf (c1) ?_ | with_reducible (first | refine Qm ?_ | refine Qn ?_ | refine Qo ?_ | refine Qp ?_ | refine WB.nt ?_ | refine WB.nf ?_ | refine WB.dec (fun h => ?_) (fun h => ?_) | refine WB.ndec (fun h => ?_) (fun h => ?_)) | refine WB.mk (fun h => ?_) (fun h => ?_)) <;> conv => whnf) | (refine WB.tt ?_; conv => whnf) | (refine WB.ff ?_; conv => whnf)
    exact Fin.b rfl rfl
  | true =>
  rw [k0] at c1
  cases k1 : iR p.2 0 (b.pls - 1) with
  | false =>
    rw [k1] at c2
    repeat' first | ((first | refine Qz ?_ | refine Qf (c1) ?_ | refine Qf (c2) ?_ | with_reducible (first | refine Qm ?_ | refine Qn ?_ | refine Qo ?_ | refine Qp ?_ | refine WB.nt ?_ | refine WB.nf ?_ | refine WB.dec (fun h => ?_) (fun h => ?_) | refine WB.ndec (fun h => ?_) (fun h => ?_)) | refine WB.mk (fun h => ?_) (fun h => ?_)) <;> conv => whnf) | (refine WB.tt ?_; conv => whnf) | (refine WB.ff ?_; conv => whnf)
    exact Fin.b rfl rfl
  | true =>
  rw [k1] at c2
  repeat' first | ((first | refine Qz ?_ | refine Qf (c1) ?_ | refine Qf (c2) ?_ | with_reducible (first | refine Qm ?_ | refine Qn ?_ | refine Qo ?_ | refine Qp ?_ | refine WB.nt ?_ | refine WB.nf ?_ | refine WB.dec (fun h => ?_) (fun h => ?_) | refine WB.ndec (fun h => ?_) (fun h => ?_)) | refine WB.mk (fun h => ?_) (fun h => ?_)) <;> conv => whnf) | (refine WB.tt ?_; conv => whnf) | (refine WB.ff ?_; conv => whnf)
  exact Fin.b rfl rfl
theorem Db (b : Bh) (p : Int × Int) (h1 : -9223372036854775807 ≤ b.rws ∧ b.rws ≤ 9223372036854775807) (h2 : -9223372036854775807 ≤ b.pls ∧ b.pls ≤ 9223372036854775807) : PureF Tryz.prog p44.ix [.ag (dV b), .ag (cV p)] (.b (eK b p)) := by
  have c1 := BI p.1 0 (b.rws - 1)
  have c2 := BI p.2 0 (b.pls - 1)
  refine PureF.run LF (by simp) (by simp [aN, Pu, aO, cV]) ?_; conv => whnf
  unfold eK
  cases k0 : iR p.1 0 (b.rws - 1) with
  | false =>
    rw [k0] at c1
    repeat' first | ((first | refine Qz ?_ | refine Qf (c1) ?_ | with_reducible (first | refine Qm ?_ | refine Qn ?_ | refine Qo ?_ | refine Qp ?_ | refine WB.nt ?_ | refine WB.nf ?_ | refine WB.dec (fun h => ?_) (fun h => ?_) | refine WB.ndec (fun h => ?_) (fun h => ?_)) | refine WB.mk (fun h => ?_) (fun h => ?_)) <;> conv => whnf) | (refine WB.tt ?_; conv => whnf) | (refine WB.ff ?_; conv => whnf)
    exact Fin.b rfl rfl
  | true =>
  rw [k0] at c1
  cases k1 : iR p.2 0 (b.pls - 1) with
  | false =>
    rw [k1] at c2
    repeat' first | ((first | refine Qz ?_ | refine Qf (c1) ?_ | refine Qf (c2) ?_ | with_reducible (first | refine Qm ?_ | refine Qn ?_ | refine Qo ?_ | refine Qp ?_ | refine WB.nt ?_ | refine WB.nf ?_ | refine WB.dec (fun h => ?_) (fun h => ?_) | refine WB.ndec (fun h => ?_) (fun h => ?_)) | refine WB.mk (fun h => ?_) (fun h => ?_)) <;> conv => whnf) | (refine WB.tt ?_; conv => whnf) | (refine WB.ff ?_; conv => whnf)
    exact Fin.b rfl rfl
  | true =>
  rw [k1] at c2
  repeat' first | ((first | refine Qz ?_ | refine Qf (c1) ?_ | refine Qf (c2) ?_ | with_reducible (first | refine Qm ?_ | refine Qn ?_ | refine Qo ?_ | refine Qp ?_ | refine WB.nt ?_ | refine WB.nf ?_ | refine WB.dec (fun h => ?_) (fun h => ?_) | refine WB.ndec (fun h => ?_) (fun h => ?_)) | refine WB.mk (fun h => ?_) (fun h => ?_)) <;> conv => whnf) | (refine WB.tt ?_; conv => whnf) | (refine WB.ff ?_; conv => whnf)
  exact Fin.b rfl rfl
theorem Hd (b : Bh) (p : Int × Int) : PureF Tryz.prog p130.ix [.ag (dV b), .ag (cV p)] (.b (gO b p)) := by
  have c1 := mW p.1 b.last
  have c2 := Ak p.2
  refine PureF.run Jo (by simp) (by simp [aN, Pu, aO, cV]) ?_; conv => whnf
  unfold gO
  cases k0 : iR p.1 0 b.last with
  | false =>
    rw [k0] at c1
    repeat' first | ((first | refine Qz ?_ | refine Qf (c1) ?_ | with_reducible (first | refine Qm ?_ | refine Qn ?_ | refine Qo ?_ | refine Qp ?_ | refine WB.nt ?_ | refine WB.nf ?_ | refine WB.dec (fun h => ?_) (fun h => ?_) | refine WB.ndec (fun h => ?_) (fun h => ?_)) | refine WB.mk (fun h => ?_) (fun h => ?_)) <;> conv => whnf) | (refine WB.tt ?_; conv => whnf) | (refine WB.ff ?_; conv => whnf)
    exact Fin.b rfl rfl
  | true =>
  rw [k0] at c1
  cases k1 : hY p.2 with
  | false =>
    rw [k1] at c2
    repeat' first | ((first | refine Qz ?_ | refine Qf (c1) ?_ | refine Qf (c2) ?_ | with_reducible (first | refine Qm ?_ | refine Qn ?_ | refine Qo ?_ | refine Qp ?_ | refine WB.nt ?_ | refine WB.nf ?_ | refine WB.dec (fun h => ?_) (fun h => ?_) | refine WB.ndec (fun h => ?_) (fun h => ?_)) | refine WB.mk (fun h => ?_) (fun h => ?_)) <;> conv => whnf) | (refine WB.tt ?_; conv => whnf) | (refine WB.ff ?_; conv => whnf)
    exact Fin.b rfl rfl
  | true =>
  rw [k1] at c2
  repeat' first | ((first | refine Qz ?_ | refine Qf (c1) ?_ | refine Qf (c2) ?_ | with_reducible (first | refine Qm ?_ | refine Qn ?_ | refine Qo ?_ | refine Qp ?_ | refine WB.nt ?_ | refine WB.nf ?_ | refine WB.dec (fun h => ?_) (fun h => ?_) | refine WB.ndec (fun h => ?_) (fun h => ?_)) | refine WB.mk (fun h => ?_) (fun h => ?_)) <;> conv => whnf) | (refine WB.tt ?_; conv => whnf) | (refine WB.ff ?_; conv => whnf)
  exact Fin.b rfl rfl
theorem uL (b : Bh) (l : List Int) (hl : l.length ≤ 1000) : PureF Tryz.prog p117.ix [.ag (dV b), .lst 1 (ints l)] (.b (vK b l)) := by
  have e1 := aL l
  have cA := xG l p146 [] [] hY trivial trivial hl (fun n _ => Ak n)
  refine PureF.run Kj (by simp) (by simp [aN, Pu, aO, aB]) ?_; conv => whnf
  unfold vK
  by_cases k0 : (l.length : Int) = b.rws
  rotate_left
  · rw [decide_eq_false k0]
    have k0' : ¬ ((ints l).length : Int) = b.rws := by omega
    repeat' first | ((first | refine Qz ?_ | with_reducible (first | refine Qm ?_ | refine Qn ?_ | refine Qo ?_ | refine Qp ?_ | refine WB.nt ?_ | refine WB.nf ?_ | refine WB.dec (fun h => ?_) (fun h => ?_) | refine WB.ndec (fun h => ?_) (fun h => ?_)) | refine WB.mk (fun h => ?_) (fun h => ?_)) <;> conv => whnf) | (refine WB.tt ?_; conv => whnf) | (refine WB.ff ?_; conv => whnf)
    exact Fin.b rfl rfl
  rw [decide_eq_true k0]
  have k0' : ((ints l).length : Int) = b.rws := by omega
  cases k1 : l.all hY with
  | false =>
    rw [k1] at cA
    repeat' first | ((first | refine Qz ?_ | refine Qf (cA) ?_ | with_reducible (first | refine Qm ?_ | refine Qn ?_ | refine Qo ?_ | refine Qp ?_ | refine WB.nt ?_ | refine WB.nf ?_ | refine WB.dec (fun h => ?_) (fun h => ?_) | refine WB.ndec (fun h => ?_) (fun h => ?_)) | refine WB.mk (fun h => ?_) (fun h => ?_)) <;> conv => whnf) | (refine WB.tt ?_; conv => whnf) | (refine WB.ff ?_; conv => whnf)
    exact Fin.b rfl rfl
  | true =>
  rw [k1] at cA
  repeat' first | ((first | refine Qz ?_ | refine Qf (cA) ?_ | with_reducible (first | refine Qm ?_ | refine Qn ?_ | refine Qo ?_ | refine Qp ?_ | refine WB.nt ?_ | refine WB.nf ?_ | refine WB.dec (fun h => ?_) (fun h => ?_) | refine WB.ndec (fun h => ?_) (fun h => ?_)) | refine WB.mk (fun h => ?_) (fun h => ?_)) <;> conv => whnf) | (refine WB.tt ?_; conv => whnf) | (refine WB.ff ?_; conv => whnf)
  exact Fin.b rfl rfl
theorem hU (l : List Int) (a : Int) (hl : l.length ≤ 1000) : PureF Tryz.prog p89.ix [.lst 1 (ints l), .i .i64 a] (.b (l.all fun n => iR n a 3)) := by
  have e1 := aL l
  refine PureF.run LH (by simp) (by simp [aN, dE, Pu, aB]) ?_; conv => whnf
  repeat' first | ((first | refine Qz ?_) <;> conv => whnf)
  refine Rn.loop (fun j : Nat => ⟨(.n (.n .e (some (.i .i64 a)) (.n .e (some (.i .i64 (j : Int))) .e)) (some (.lst 1 (ints l))) .e), .e, .h, none⟩) (fun j => j ≤ l.length ∧ (l.take j).all (fun n => iR n a 3) = true) (fun j => l.length - j) 0 ?_ ?_ ?_
  · (first | (refine X.le.mk ?_ ?_ (Nat.le_refl _) rfl rfl) | skip) <;> (repeat' first | exact T.le_e _ | refine T.le_some ?_ ?_ ?_ | refine T.le_none ?_ ?_ | rfl)
  · exact ⟨by omega, by simp⟩
  rintro j ⟨hj, ha⟩
  conv => whnf
  repeat' first | ((first | refine Qz ?_) <;> conv => whnf)
  refine WB.dec (fun h => ?_) (fun h => ?_) <;> conv => whnf
  · have hlt : j < l.length := by omega
    have cI := BI (l.getD j 0) a 3
    cases hI : iR (l.getD j 0) a 3 with
    | false =>
      rw [hI] at cI
      repeat' first | ((first | refine Qz ?_ | refine Qf (cI) ?_ | refine Qy ?_) <;> conv => whnf) | (refine WB.tt ?_; conv => whnf) | (refine WB.ff ?_; conv => whnf)
      exact Fin.b rfl (fP (d := 0) hlt hI).symm
    | true =>
      rw [hI] at cI
      repeat' first | ((first | refine Qz ?_ | refine Qf (cI) ?_ | refine Qy ?_) <;> conv => whnf) | (refine WB.tt ?_; conv => whnf) | (refine WB.ff ?_; conv => whnf)
      refine Again.to (j + 1) (by omega) ⟨by omega, bO (d := 0) hlt ha hI⟩ (Nat.le_refl _) ?_
      (refine Shr.of ?_ ?_ rfl rfl) <;> (repeat' first | exact Rel.e | refine Rel.some ?_ ?_ ?_ | refine Rel.none ?_ ?_) <;> (try first | (show Fz _ _ _ _; first | exact Fz.pu trivial | (refine Fz.i ?_; first | rfl | omega) | (refine Fz.kpt ?_; (focus (show Pos.nat _ < Pos.nat _; simp [Pos.nat]; done))) | (refine Fz.ksl ?_; (focus (show Pos.nat _ < Pos.nat _; simp [Pos.nat]; done))) | (refine Fz.kmp ?_; (focus (show Pos.nat _ < Pos.nat _; simp [Pos.nat]; done))) | (refine Fz.pu ?_; simp [Cell.d, Pu, aN, dE, aB, aH, aF]; done) | (refine Fz.pu ?_; simp only [Cell.d]; assumption)) | (refine RO'.of ?_ (ShC.same ?_); (focus (show Pos.nat _ < Pos.nat _; simp [Pos.nat]; done)); (repeat' first | exact ShC.nl | refine ShC.cn ?_ ?_) <;> first | exact Fz.pu trivial | (refine Fz.i ?_; first | rfl | omega) | (refine Fz.kpt ?_; (focus (show Pos.nat _ < Pos.nat _; simp [Pos.nat]; done))) | (refine Fz.ksl ?_; (focus (show Pos.nat _ < Pos.nat _; simp [Pos.nat]; done))) | (refine Fz.kmp ?_; (focus (show Pos.nat _ < Pos.nat _; simp [Pos.nat]; done))) | (refine Fz.pu ?_; simp [Cell.d, Pu, aN, dE, aB, aH, aF]; done) | (refine Fz.pu ?_; simp only [Cell.d]; assumption)))
      all_goals (refine Fz.pu ?_; simp [Pu, aB])
  · repeat' first | ((first | refine Qz ?_) <;> conv => whnf)
    exact Fin.b rfl (gC (by omega) ha).symm
theorem AK (b : Bh) (l1 : b.face.length ≤ 1000) (l2 : b.sun.length ≤ 1000) (l3 : b.winds.length ≤ 1000) (l4 : b.brk.length ≤ 1000) (l5 : b.nts.length ≤ 1000) (l6 : ∀ w ∈ b.winds, w.length ≤ 1000) : PureF Tryz.prog p88.ix [.ag (dV b)] (.b (fV b)) := by
  have e1 := aL b.sun
  have e2 := aK fI b.winds
  have c1 := mW b.last 4
  have c2 := EJ 1 3 b.rws
  have c3 := EJ 1 5 b.pls
  have c4 := mW b.rch 4
  have c5 := uL b b.face l1
  have c6 := xG b.sun p126 [] [] tA trivial trivial l2 (fun n _ => Ir n)
  have c7 := Ek b.winds p127 [] [] kU trivial trivial l3 (fun w hw => Eq w (l6 w hw))
  have c8 := fun h1 h2 => GB b.brk p99 [.ag (dV b)] [] (eK b) (by simp [aN, Pu, aO]) trivial l4 (fun p _ => Hv b p h1 h2)
  have c9 := Cp b.nts p130 [.ag (dV b)] [] (gO b) (by simp [aN, Pu, aO]) trivial l5 (fun p _ => Hd b p)
  refine PureF.run LJ (by simp) (by simp [aN, Pu, aO]) ?_; conv => whnf
  unfold fV
  cases k0 : iR b.last 0 4 with
  | false =>
    rw [k0] at c1
    repeat' first | ((first | refine Qz ?_ | refine Qf (c1) ?_ | with_reducible (first | refine Qm ?_ | refine Qn ?_ | refine Qo ?_ | refine Qp ?_ | refine WB.nt ?_ | refine WB.nf ?_ | refine WB.dec (fun h => ?_) (fun h => ?_) | refine WB.ndec (fun h => ?_) (fun h => ?_)) | refine WB.mk (fun h => ?_) (fun h => ?_)) <;> conv => whnf) | (refine WB.tt ?_; conv => whnf) | (refine WB.ff ?_; conv => whnf)
    exact Fin.b rfl rfl
  | true =>
  rw [k0] at c1
  have q0 := bF k0
  cases k1 : iR b.rws 1 3 with
  | false =>
    rw [k1] at c2
    repeat' first | ((first | refine Qz ?_ | refine Qf (c1) ?_ | refine Qf (c2) ?_ | with_reducible (first | refine Qm ?_ | refine Qn ?_ | refine Qo ?_ | refine Qp ?_ | refine WB.nt ?_ | refine WB.nf ?_ | refine WB.dec (fun h => ?_) (fun h => ?_) | refine WB.ndec (fun h => ?_) (fun h => ?_)) | refine WB.mk (fun h => ?_) (fun h => ?_)) <;> conv => whnf) | (refine WB.tt ?_; conv => whnf) | (refine WB.ff ?_; conv => whnf)
    exact Fin.b rfl rfl
  | true =>
  rw [k1] at c2
  have q1 := bF k1
  cases k2 : iR b.pls 1 5 with
  | false =>
    rw [k2] at c3
    repeat' first | ((first | refine Qz ?_ | refine Qf (c1) ?_ | refine Qf (c2) ?_ | refine Qf (c3) ?_ | with_reducible (first | refine Qm ?_ | refine Qn ?_ | refine Qo ?_ | refine Qp ?_ | refine WB.nt ?_ | refine WB.nf ?_ | refine WB.dec (fun h => ?_) (fun h => ?_) | refine WB.ndec (fun h => ?_) (fun h => ?_)) | refine WB.mk (fun h => ?_) (fun h => ?_)) <;> conv => whnf) | (refine WB.tt ?_; conv => whnf) | (refine WB.ff ?_; conv => whnf)
    exact Fin.b rfl rfl
  | true =>
  rw [k2] at c3
  have q2 := bF k2
  have c8 := c8 ⟨by omega, by omega⟩ ⟨by omega, by omega⟩
  cases k3 : iR b.rch 0 4 with
  | false =>
    rw [k3] at c4
    repeat' first | ((first | refine Qz ?_ | refine Qf (c1) ?_ | refine Qf (c2) ?_ | refine Qf (c3) ?_ | refine Qf (c4) ?_ | with_reducible (first | refine Qm ?_ | refine Qn ?_ | refine Qo ?_ | refine Qp ?_ | refine WB.nt ?_ | refine WB.nf ?_ | refine WB.dec (fun h => ?_) (fun h => ?_) | refine WB.ndec (fun h => ?_) (fun h => ?_)) | refine WB.mk (fun h => ?_) (fun h => ?_)) <;> conv => whnf) | (refine WB.tt ?_; conv => whnf) | (refine WB.ff ?_; conv => whnf)
    exact Fin.b rfl rfl
  | true =>
  rw [k3] at c4
  cases k4 : vK b b.face with
  | false =>
    rw [k4] at c5
    repeat' first | ((first | refine Qz ?_ | refine Qf (c1) ?_ | refine Qf (c2) ?_ | refine Qf (c3) ?_ | refine Qf (c4) ?_ | refine Qf (c5) ?_ | with_reducible (first | refine Qm ?_ | refine Qn ?_ | refine Qo ?_ | refine Qp ?_ | refine WB.nt ?_ | refine WB.nf ?_ | refine WB.dec (fun h => ?_) (fun h => ?_) | refine WB.ndec (fun h => ?_) (fun h => ?_)) | refine WB.mk (fun h => ?_) (fun h => ?_)) <;> conv => whnf) | (refine WB.tt ?_; conv => whnf) | (refine WB.ff ?_; conv => whnf)
    exact Fin.b rfl rfl
  | true =>
  rw [k4] at c5
  by_cases k5 : (b.sun.length : Int) = b.last + 1
  rotate_left
  · rw [decide_eq_false k5]
    have k5' : ¬ ((ints b.sun).length : Int) = b.last + 1 := by omega
    repeat' first | ((first | refine Qz ?_ | refine Qf (c1) ?_ | refine Qf (c2) ?_ | refine Qf (c3) ?_ | refine Qf (c4) ?_ | refine Qf (c5) ?_ | with_reducible (first | refine Qm ?_ | refine Qn ?_ | refine Qo ?_ | refine Qp ?_ | refine WB.nt ?_ | refine WB.nf ?_ | refine WB.dec (fun h => ?_) (fun h => ?_) | refine WB.ndec (fun h => ?_) (fun h => ?_)) | refine WB.mk (fun h => ?_) (fun h => ?_)) <;> conv => whnf) | (refine WB.tt ?_; conv => whnf) | (refine WB.ff ?_; conv => whnf)
    exact Fin.b rfl rfl
  rw [decide_eq_true k5]
  have k5' : ((ints b.sun).length : Int) = b.last + 1 := by omega
  cases k6 : b.sun.all tA with
  | false =>
    rw [k6] at c6
    repeat' first | ((first | refine Qz ?_ | refine Qf (c1) ?_ | refine Qf (c2) ?_ | refine Qf (c3) ?_ | refine Qf (c4) ?_ | refine Qf (c5) ?_ | refine Qf (c6) ?_ | with_reducible (first | refine Qm ?_ | refine Qn ?_ | refine Qo ?_ | refine Qp ?_ | refine WB.nt ?_ | refine WB.nf ?_ | refine WB.dec (fun h => ?_) (fun h => ?_) | refine WB.ndec (fun h => ?_) (fun h => ?_)) | refine WB.mk (fun h => ?_) (fun h => ?_)) <;> conv => whnf) | (refine WB.tt ?_; conv => whnf) | (refine WB.ff ?_; conv => whnf)
    exact Fin.b rfl rfl
  | true =>
  rw [k6] at c6
  by_cases k7 : (b.winds.length : Int) = b.last + 1
  rotate_left
  · rw [decide_eq_false k7]
    have k7' : ¬ ((aJ fI b.winds).length : Int) = b.last + 1 := by omega
    repeat' first | ((first | refine Qz ?_ | refine Qf (c1) ?_ | refine Qf (c2) ?_ | refine Qf (c3) ?_ | refine Qf (c4) ?_ | refine Qf (c5) ?_ | refine Qf (c6) ?_ | with_reducible (first | refine Qm ?_ | refine Qn ?_ | refine Qo ?_ | refine Qp ?_ | refine WB.nt ?_ | refine WB.nf ?_ | refine WB.dec (fun h => ?_) (fun h => ?_) | refine WB.ndec (fun h => ?_) (fun h => ?_)) | refine WB.mk (fun h => ?_) (fun h => ?_)) <;> conv => whnf) | (refine WB.tt ?_; conv => whnf) | (refine WB.ff ?_; conv => whnf)
    exact Fin.b rfl rfl
  rw [decide_eq_true k7]
  have k7' : ((aJ fI b.winds).length : Int) = b.last + 1 := by omega
  cases k8 : b.winds.all kU with
  | false =>
    rw [k8] at c7
    repeat' first | ((first | refine Qz ?_ | refine Qf (c1) ?_ | refine Qf (c2) ?_ | refine Qf (c3) ?_ | refine Qf (c4) ?_ | refine Qf (c5) ?_ | refine Qf (c6) ?_ | refine Qf (c7) ?_ | with_reducible (first | refine Qm ?_ | refine Qn ?_ | refine Qo ?_ | refine Qp ?_ | refine WB.nt ?_ | refine WB.nf ?_ | refine WB.dec (fun h => ?_) (fun h => ?_) | refine WB.ndec (fun h => ?_) (fun h => ?_)) | refine WB.mk (fun h => ?_) (fun h => ?_)) <;> conv => whnf) | (refine WB.tt ?_; conv => whnf) | (refine WB.ff ?_; conv => whnf)
    exact Fin.b rfl rfl
  | true =>
  rw [k8] at c7
  cases k9 : b.brk.all (eK b) with
  | false =>
    rw [k9] at c8
    repeat' first | ((first | refine Qz ?_ | refine Qf (c1) ?_ | refine Qf (c2) ?_ | refine Qf (c3) ?_ | refine Qf (c4) ?_ | refine Qf (c5) ?_ | refine Qf (c6) ?_ | refine Qf (c7) ?_ | refine Qf (c8) ?_ | with_reducible (first | refine Qm ?_ | refine Qn ?_ | refine Qo ?_ | refine Qp ?_ | refine WB.nt ?_ | refine WB.nf ?_ | refine WB.dec (fun h => ?_) (fun h => ?_) | refine WB.ndec (fun h => ?_) (fun h => ?_)) | refine WB.mk (fun h => ?_) (fun h => ?_)) <;> conv => whnf) | (refine WB.tt ?_; conv => whnf) | (refine WB.ff ?_; conv => whnf)
    exact Fin.b rfl rfl
  | true =>
  rw [k9] at c8
  cases k10 : b.nts.all (gO b) with
  | false =>
    rw [k10] at c9
    repeat' first | ((first | refine Qz ?_ | refine Qf (c1) ?_ | refine Qf (c2) ?_ | refine Qf (c3) ?_ | refine Qf (c4) ?_ | refine Qf (c5) ?_ | refine Qf (c6) ?_ | refine Qf (c7) ?_ | refine Qf (c8) ?_ | refine Qf (c9) ?_ | with_reducible (first | refine Qm ?_ | refine Qn ?_ | refine Qo ?_ | refine Qp ?_ | refine WB.nt ?_ | refine WB.nf ?_ | refine WB.dec (fun h => ?_) (fun h => ?_) | refine WB.ndec (fun h => ?_) (fun h => ?_)) | refine WB.mk (fun h => ?_) (fun h => ?_)) <;> conv => whnf) | (refine WB.tt ?_; conv => whnf) | (refine WB.ff ?_; conv => whnf)
    exact Fin.b rfl rfl
  | true =>
  rw [k10] at c9
  repeat' first | ((first | refine Qz ?_ | refine Qf (c1) ?_ | refine Qf (c2) ?_ | refine Qf (c3) ?_ | refine Qf (c4) ?_ | refine Qf (c5) ?_ | refine Qf (c6) ?_ | refine Qf (c7) ?_ | refine Qf (c8) ?_ | refine Qf (c9) ?_ | with_reducible (first | refine Qm ?_ | refine Qn ?_ | refine Qo ?_ | refine Qp ?_ | refine WB.nt ?_ | refine WB.nf ?_ | refine WB.dec (fun h => ?_) (fun h => ?_) | refine WB.ndec (fun h => ?_) (fun h => ?_)) | refine WB.mk (fun h => ?_) (fun h => ?_)) <;> conv => whnf) | (refine WB.tt ?_; conv => whnf) | (refine WB.ff ?_; conv => whnf)
  exact Fin.b rfl rfl
theorem fW {b : Bh} : AP b = true ↔ 4 < b.last ∨ 3 < b.rws ∨ 5 < b.pls ∨ 4 < b.brk.length ∨ 5 < b.nts.length := by unfold AP; rw [decide_eq_true_iff]
theorem FF (b : Bh) (l1 : b.face.length ≤ 1000) (l2 : b.sun.length ≤ 1000) (l3 : b.winds.length ≤ 1000) (l6 : ∀ w ∈ b.winds, w.length ≤ 1000) : PureF Tryz.prog p29.ix [.ag (dV b)] (.i .i64 (bG b)) := by
  have e1 := aK cV b.brk
  have e2 := aK cV b.nts
  refine PureF.run MI (by simp) (by simp [aN, Pu, aO]) ?_; conv => whnf
  by_cases hB : 4 < b.last ∨ 3 < b.rws ∨ 5 < b.pls ∨ 4 < b.brk.length ∨ 5 < b.nts.length
  · have hf : bG b = 3 := by unfold bG; rw [if_pos (fW.2 hB)]
    rw [hf]
    repeat' first | ((first | refine Qz ?_ | with_reducible refine WB.dec (fun h => ?_) (fun h => ?_) | with_reducible refine WB.ndec (fun h => ?_) (fun h => ?_) | refine WB.mk (fun h => ?_) (fun h => ?_)) <;> conv => whnf)
    all_goals first | exact Fin.i rfl rfl | (exfalso; omega)
  · have hv := AK b l1 l2 l3 (by omega) (by omega) l6
    have hf : bG b = if fV b = true then 0 else 1 := by unfold bG; rw [if_neg fun h => hB (fW.1 h)]
    rw [hf]
    cases k : fV b with
    | true =>
      rw [k] at hv
      repeat' first | ((first | refine Qz ?_ | refine Qf (hv) ?_ | with_reducible (first | refine Qm ?_ | refine Qn ?_ | refine Qo ?_ | refine Qp ?_ | refine WB.nt ?_ | refine WB.nf ?_ | refine WB.dec (fun h => ?_) (fun h => ?_) | refine WB.ndec (fun h => ?_) (fun h => ?_)) | refine WB.mk (fun h => ?_) (fun h => ?_)) <;> conv => whnf) | (refine WB.tt ?_; conv => whnf) | (refine WB.ff ?_; conv => whnf)
      exact Fin.i rfl rfl
    | false =>
      rw [k] at hv
      repeat' first | ((first | refine Qz ?_ | refine Qf (hv) ?_ | with_reducible (first | refine Qm ?_ | refine Qn ?_ | refine Qo ?_ | refine Qp ?_ | refine WB.nt ?_ | refine WB.nf ?_ | refine WB.dec (fun h => ?_) (fun h => ?_) | refine WB.ndec (fun h => ?_) (fun h => ?_)) | refine WB.mk (fun h => ?_) (fun h => ?_)) <;> conv => whnf) | (refine WB.tt ?_; conv => whnf) | (refine WB.ff ?_; conv => whnf)
      exact Fin.i rfl rfl
end Go.Ev
end
