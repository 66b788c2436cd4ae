import Derived.Test.YtkbgaadfednjpaaGreatDoorEvUFi
import Derived.Test.YtkbgaadfednjpaaGreatDoorEvU4b
set_option linter.all false
set_option maxHeartbeats 8000000
noncomputable section
namespace Go.Ev
open Go.Proofs
set_option maxRecDepth 100000
theorem DZ (lo hi n : Int) : PureF Tryz.prog p124.ix [.ag [.i .i64 lo, .i .i64 hi], .i .i64 n] (.b (iU n lo hi)) := by
  refine PureF.run IK (by simp) (by simp [aQ, dG, Pu]) ?_; conv => whnf
  repeat' first | ((first | refine Qz ?_ | with_reducible refine WB.dec (fun h => ?_) (fun h => ?_) | with_reducible refine WB.ndec (fun h => ?_) (fun h => ?_) | refine WB.mk (fun h => ?_) (fun h => ?_)) <;> conv => whnf)
  all_goals
    refine Fin.b rfl ?_
    unfold iU
    first
      | exact (decide_eq_false (by omega)).symm
      | (congr 1; apply propext; constructor <;> intro hh <;> omega)
theorem BA (n a b : Int) : PureF Tryz.prog p45.ix [.i .i64 n, .i .i64 a, .i .i64 b] (.b (iU n a b)) := by
  refine PureF.run MN (by simp) (by simp [aQ, dG, Pu]) ?_; conv => whnf
  repeat' first | ((first | refine Qz ?_ | with_reducible refine WB.dec (fun h => ?_) (fun h => ?_) | with_reducible refine WB.ndec (fun h => ?_) (fun h => ?_) | refine WB.mk (fun h => ?_) (fun h => ?_)) <;> conv => whnf)
  all_goals
    refine Fin.b rfl ?_
    unfold iU
    first
      | exact (decide_eq_false (by omega)).symm
      | (congr 1; apply propext; constructor <;> intro hh <;> omega)
theorem nE (n m : Int) : PureF Tryz.prog p100.ix [.i .i64 n, .i .i64 m] (.b (iU n 0 m)) := by
  refine PureF.run Mh (by simp) (by simp [aQ, dG, Pu]) ?_; conv => whnf
  repeat' first | ((first | refine Qz ?_ | refine Qf (DZ _ _ _) ?_) <;> conv => whnf)
  exact Fin.b rfl rfl
theorem AC (n : Int) : PureF Tryz.prog p146.ix [.i .i64 n] (.b (iT n)) := by
  refine PureF.run JO (by simp) (by simp [aQ, dG, Pu]) ?_; conv => whnf
  repeat' first | ((first | refine Qz ?_ | refine Qf (nE _ _) ?_) <;> conv => whnf)
  exact Fin.b rfl rfl
theorem rF (n : Int) : rO n = true ↔ n = -1 ∨ iT n = true := by
  unfold rO iT iU
  rw [decide_eq_true_iff, decide_eq_true_iff]; omega
theorem Ic (n : Int) : PureF Tryz.prog p126.ix [.i .i64 n] (.b (rO n)) := by
  refine PureF.run Lj (by simp) (by simp [aQ, dG, Pu]) ?_; conv => whnf
  repeat' first | ((first | refine Qz ?_ | refine Qf (AC _) ?_ | with_reducible refine WB.dec (fun h => ?_) (fun h => ?_) | with_reducible refine WB.ndec (fun h => ?_) (fun h => ?_) | refine WB.mk (fun h => ?_) (fun h => ?_)) <;> conv => whnf)
  · exact Fin.b rfl ((rF n).2 (.inl (by omega))).symm
  · exact Fin.b rfl (by cases hd : iT n with
      | true => exact ((rF n).2 (.inr hd)).symm
      | false =>
        cases hs : rO n with
        | false => rfl
        | true => rcases (rF n).1 hs with e | e
                  · exact absurd e (by omega)
                  · rw [hd] at e; cases e)
theorem xO (l : List Int) (f : Pos) (first caps : List D) (p : Int → Bool) (h1 : aQ first) (h2 : aQ caps) (hl : l.length ≤ 1000) (hf : ∀ c ∈ l, PureF Tryz.prog f.ix (first ++ ([.i .i64 c] ++ caps)) (.b (p c))) : PureF Tryz.prog p125.ix [.lst 1 (ints l), .fn f first caps] (.b (l.all p)) := by
  have e1 : (ints l).length = l.length := by simp [aD, ints]
  refine PureF.run Le (by simp) (by simp [aQ, dG, Pu, aC, h1, h2]) ?_; conv => whnf
  repeat' first | ((first | refine Qz ?_) <;> conv => whnf)
  refine Rn.loop (fun j : Nat => ⟨(.n (.n (.n (.n .e (some (.lst 1 (ints l))) .e) none .e) (some (.fn f first caps)) (.n (.n .e (some (.i .i64 (j : Int))) .e) none .e)) none (.n (.n (.n .e (some (.i .i64 ((ints l).length : Int))) .e) none .e) none .e)), .e, .h, none⟩) (fun j => j ≤ l.length ∧ (l.take j).all p = true) (fun j => l.length - j) 0 ?_ ?_ ?_
  · (first | (refine X.le.mk ?_ ?_ (Nat.le_refl _) rfl rfl) | skip) <;> (repeat' first | exact T.le_e _ | refine T.le_some ?_ ?_ ?_ | refine T.le_none ?_ ?_ | rfl)
  · exact ⟨by omega, by simp⟩
  rintro j ⟨hj, ha⟩
  conv => whnf
  repeat' first | ((first | refine Qz ?_) <;> conv => whnf)
  refine WB.dec (fun h => ?_) (fun h => ?_) <;> conv => whnf
  · have hlt : j < l.length := by omega
    repeat' first | ((first | refine Qz ?_ | refine Qf (hf _ (aL hlt)) ?_) <;> conv => whnf)
    refine WB.mk (fun h => ?_) (fun h => ?_) <;> conv => whnf
    · repeat' first | ((first | refine Qz ?_) <;> conv => whnf)
      exact Fin.b rfl (by rw [fO (d := 0) hlt (by simpa using h)])
    · repeat' first | ((first | refine Qz ?_) <;> conv => whnf)
      refine Again.to (j + 1) (by omega) ⟨by omega, bP (d := 0) hlt ha (by simpa using h)⟩ (Nat.le_refl _) ?_
      (refine Shr.of ?_ ?_ rfl rfl) <;> (repeat' first | exact Rel.e | refine Rel.some ?_ ?_ ?_ | refine Rel.none ?_ ?_) <;> (try first | (show Fz _ _ _ _; first | exact Fz.pu trivial | (refine Fz.i ?_; first | rfl | omega) | (refine Fz.kpt ?_; (focus (show Pos.nat _ < Pos.nat _; simp [Pos.nat]; done))) | (refine Fz.ksl ?_; (focus (show Pos.nat _ < Pos.nat _; simp [Pos.nat]; done))) | (refine Fz.kmp ?_; (focus (show Pos.nat _ < Pos.nat _; simp [Pos.nat]; done))) | (refine Fz.pu ?_; simp [Cell.d, Pu, aQ, dG, aC, aG, aJ]; done) | (refine Fz.pu ?_; simp only [Cell.d]; assumption)) | (refine RO'.of ?_ (ShC.same ?_); (focus (show Pos.nat _ < Pos.nat _; simp [Pos.nat]; done)); (repeat' first | exact ShC.nl | refine ShC.cn ?_ ?_) <;> first | exact Fz.pu trivial | (refine Fz.i ?_; first | rfl | omega) | (refine Fz.kpt ?_; (focus (show Pos.nat _ < Pos.nat _; simp [Pos.nat]; done))) | (refine Fz.ksl ?_; (focus (show Pos.nat _ < Pos.nat _; simp [Pos.nat]; done))) | (refine Fz.kmp ?_; (focus (show Pos.nat _ < Pos.nat _; simp [Pos.nat]; done))) | (refine Fz.pu ?_; simp [Cell.d, Pu, aQ, dG, aC, aG, aJ]; done) | (refine Fz.pu ?_; simp only [Cell.d]; assumption)))
      all_goals (refine Fz.pu ?_; simp [Pu, h1, h2, aC])
  · repeat' first | ((first | refine Qz ?_) <;> conv => whnf)
    exact Fin.b rfl (by rw [gG (by omega) ha])
theorem DD (l : List (List Int)) (f : Pos) (first caps : List D) (p : (List Int) → Bool) (h1 : aQ first) (h2 : aQ caps) (hl : l.length ≤ 1000) (hf : ∀ c ∈ l, PureF Tryz.prog f.ix (first ++ ([.lst 1 (ints c)] ++ caps)) (.b (p c))) : PureF Tryz.prog p116.ix [.lst 1 (aD eQ l), .fn f first caps] (.b (l.all p)) := by
  have e1 : (aD eQ l).length = l.length := by simp [aD, ints]
  refine PureF.run JY (by simp) (by simp [aQ, dG, Pu, aC, aJ, h1, h2]) ?_; conv => whnf
  repeat' first | ((first | refine Qz ?_) <;> conv => whnf)
  refine Rn.loop (fun j : Nat => ⟨(.n (.n (.n (.n .e (some (.lst 1 (aD eQ l))) .e) none .e) (some (.fn f first caps)) (.n (.n .e (some (.i .i64 (j : Int))) .e) none .e)) none (.n (.n (.n .e (some (.i .i64 ((aD eQ l).length : Int))) .e) none .e) none .e)), .e, .h, none⟩) (fun j => j ≤ l.length ∧ (l.take j).all p = true) (fun j => l.length - j) 0 ?_ ?_ ?_
  · (first | (refine X.le.mk ?_ ?_ (Nat.le_refl _) rfl rfl) | skip) <;> (repeat' first | exact T.le_e _ | refine T.le_some ?_ ?_ ?_ | refine T.le_none ?_ ?_ | rfl)
  · exact ⟨by omega, by simp⟩
  rintro j ⟨hj, ha⟩
  conv => whnf
  repeat' first | ((first | refine Qz ?_) <;> conv => whnf)
  refine WB.dec (fun h => ?_) (fun h => ?_) <;> conv => whnf
  · have hlt : j < l.length := by omega
    repeat' first | ((first | refine Qz ?_ | refine Qf (hf _ (aL hlt)) ?_) <;> conv => whnf)
    refine WB.mk (fun h => ?_) (fun h => ?_) <;> conv => whnf
    · repeat' first | ((first | refine Qz ?_) <;> conv => whnf)
      exact Fin.b rfl (by rw [fO (d := default) hlt (by simpa using h)])
    · repeat' first | ((first | refine Qz ?_) <;> conv => whnf)
      refine Again.to (j + 1) (by omega) ⟨by omega, bP (d := default) hlt ha (by simpa using h)⟩ (Nat.le_refl _) ?_
      (refine Shr.of ?_ ?_ rfl rfl) <;> (repeat' first | exact Rel.e | refine Rel.some ?_ ?_ ?_ | refine Rel.none ?_ ?_) <;> (try first | (show Fz _ _ _ _; first | exact Fz.pu trivial | (refine Fz.i ?_; first | rfl | omega) | (refine Fz.kpt ?_; (focus (show Pos.nat _ < Pos.nat _; simp [Pos.nat]; done))) | (refine Fz.ksl ?_; (focus (show Pos.nat _ < Pos.nat _; simp [Pos.nat]; done))) | (refine Fz.kmp ?_; (focus (show Pos.nat _ < Pos.nat _; simp [Pos.nat]; done))) | (refine Fz.pu ?_; simp [Cell.d, Pu, aQ, dG, aC, aG, aJ]; done) | (refine Fz.pu ?_; simp only [Cell.d]; assumption)) | (refine RO'.of ?_ (ShC.same ?_); (focus (show Pos.nat _ < Pos.nat _; simp [Pos.nat]; done)); (repeat' first | exact ShC.nl | refine ShC.cn ?_ ?_) <;> first | exact Fz.pu trivial | (refine Fz.i ?_; first | rfl | omega) | (refine Fz.kpt ?_; (focus (show Pos.nat _ < Pos.nat _; simp [Pos.nat]; done))) | (refine Fz.ksl ?_; (focus (show Pos.nat _ < Pos.nat _; simp [Pos.nat]; done))) | (refine Fz.kmp ?_; (focus (show Pos.nat _ < Pos.nat _; simp [Pos.nat]; done))) | (refine Fz.pu ?_; simp [Cell.d, Pu, aQ, dG, aC, aG, aJ]; done) | (refine Fz.pu ?_; simp only [Cell.d]; assumption)))
      all_goals (refine Fz.pu ?_; simp [Pu, h1, h2, aC, aJ])
  · repeat' first | ((first | refine Qz ?_) <;> conv => whnf)
    exact Fin.b rfl (by rw [gG (by omega) ha])
theorem FL (l : List (Int × Int)) (f : Pos) (first caps : List D) (p : (Int × Int) → Bool) (h1 : aQ first) (h2 : aQ caps) (hl : l.length ≤ 1000) (hf : ∀ c ∈ l, PureF Tryz.prog f.ix (first ++ ([.ag (bD c)] ++ caps)) (.b (p c))) : PureF Tryz.prog p128.ix [.lst 2 (aD bD l), .fn f first caps] (.b (l.all p)) := by
  have e1 : (aD bD l).length = l.length := by simp [aD, ints]
  refine PureF.run Iq (by simp) (by simp [aQ, dG, Pu, aG, h1, h2]) ?_; conv => whnf
  repeat' first | ((first | refine Qz ?_) <;> conv => whnf)
  refine Rn.loop (fun j : Nat => ⟨(.n (.n (.n (.n .e (some (.lst 2 (aD bD l))) .e) none .e) (some (.fn f first caps)) (.n (.n .e (some (.i .i64 (j : Int))) .e) none .e)) none (.n (.n (.n .e (some (.i .i64 ((aD bD l).length : Int))) .e) none .e) none .e)), .e, .h, none⟩) (fun j => j ≤ l.length ∧ (l.take j).all p = true) (fun j => l.length - j) 0 ?_ ?_ ?_
  · (first | (refine X.le.mk ?_ ?_ (Nat.le_refl _) rfl rfl) | skip) <;> (repeat' first | exact T.le_e _ | refine T.le_some ?_ ?_ ?_ | refine T.le_none ?_ ?_ | rfl)
  · exact ⟨by omega, by simp⟩
  rintro j ⟨hj, ha⟩
  conv => whnf
  repeat' first | ((first | refine Qz ?_) <;> conv => whnf)
  refine WB.dec (fun h => ?_) (fun h => ?_) <;> conv => whnf
  · have hlt : j < l.length := by omega
    repeat' first | ((first | refine Qz ?_ | refine Qf (hf _ (aL hlt)) ?_) <;> conv => whnf)
    refine WB.mk (fun h => ?_) (fun h => ?_) <;> conv => whnf
    · repeat' first | ((first | refine Qz ?_) <;> conv => whnf)
      exact Fin.b rfl (by rw [fO (d := default) hlt (by simpa using h)])
    · repeat' first | ((first | refine Qz ?_) <;> conv => whnf)
      refine Again.to (j + 1) (by omega) ⟨by omega, bP (d := default) hlt ha (by simpa using h)⟩ (Nat.le_refl _) ?_
      (refine Shr.of ?_ ?_ rfl rfl) <;> (repeat' first | exact Rel.e | refine Rel.some ?_ ?_ ?_ | refine Rel.none ?_ ?_) <;> (try first | (show Fz _ _ _ _; first | exact Fz.pu trivial | (refine Fz.i ?_; first | rfl | omega) | (refine Fz.kpt ?_; (focus (show Pos.nat _ < Pos.nat _; simp [Pos.nat]; done))) | (refine Fz.ksl ?_; (focus (show Pos.nat _ < Pos.nat _; simp [Pos.nat]; done))) | (refine Fz.kmp ?_; (focus (show Pos.nat _ < Pos.nat _; simp [Pos.nat]; done))) | (refine Fz.pu ?_; simp [Cell.d, Pu, aQ, dG, aC, aG, aJ]; done) | (refine Fz.pu ?_; simp only [Cell.d]; assumption)) | (refine RO'.of ?_ (ShC.same ?_); (focus (show Pos.nat _ < Pos.nat _; simp [Pos.nat]; done)); (repeat' first | exact ShC.nl | refine ShC.cn ?_ ?_) <;> first | exact Fz.pu trivial | (refine Fz.i ?_; first | rfl | omega) | (refine Fz.kpt ?_; (focus (show Pos.nat _ < Pos.nat _; simp [Pos.nat]; done))) | (refine Fz.ksl ?_; (focus (show Pos.nat _ < Pos.nat _; simp [Pos.nat]; done))) | (refine Fz.kmp ?_; (focus (show Pos.nat _ < Pos.nat _; simp [Pos.nat]; done))) | (refine Fz.pu ?_; simp [Cell.d, Pu, aQ, dG, aC, aG, aJ]; done) | (refine Fz.pu ?_; simp only [Cell.d]; assumption)))
      all_goals (refine Fz.pu ?_; simp [Pu, h1, h2, aG])
  · repeat' first | ((first | refine Qz ?_) <;> conv => whnf)
    exact Fin.b rfl (by rw [gG (by omega) ha])
theorem BR (l : List (Int × Int)) (f : Pos) (first caps : List D) (p : (Int × Int) → Bool) (h1 : aQ first) (h2 : aQ caps) (hl : l.length ≤ 1000) (hf : ∀ c ∈ l, PureF Tryz.prog f.ix (first ++ ([.ag (bD c)] ++ caps)) (.b (p c))) : PureF Tryz.prog p129.ix [.lst 2 (aD bD l), .fn f first caps] (.b (l.all p)) := by
  have e1 : (aD bD l).length = l.length := by simp [aD, ints]
  refine PureF.run Ip (by simp) (by simp [aQ, dG, Pu, aG, h1, h2]) ?_; conv => whnf
  repeat' first | ((first | refine Qz ?_) <;> conv => whnf)
  refine Rn.loop (fun j : Nat => ⟨(.n (.n (.n (.n .e (some (.lst 2 (aD bD l))) .e) none .e) (some (.fn f first caps)) (.n (.n .e (some (.i .i64 (j : Int))) .e) none .e)) none (.n (.n (.n .e (some (.i .i64 ((aD bD l).length : Int))) .e) none .e) none .e)), .e, .h, none⟩) (fun j => j ≤ l.length ∧ (l.take j).all p = true) (fun j => l.length - j) 0 ?_ ?_ ?_
  · (first | (refine X.le.mk ?_ ?_ (Nat.le_refl _) rfl rfl) | skip) <;> (repeat' first | exact T.le_e _ | refine T.le_some ?_ ?_ ?_ | refine T.le_none ?_ ?_ | rfl)
  · exact ⟨by omega, by simp⟩
  rintro j ⟨hj, ha⟩
  conv => whnf
  repeat' first | ((first | refine Qz ?_) <;> conv => whnf)
  refine WB.dec (fun h => ?_) (fun h => ?_) <;> conv => whnf
  · have hlt : j < l.length := by omega
    repeat' first | ((first | refine Qz ?_ | refine Qf (hf _ (aL hlt)) ?_) <;> conv => whnf)
    refine WB.mk (fun h => ?_) (fun h => ?_) <;> conv => whnf
    · repeat' first | ((first | refine Qz ?_) <;> conv => whnf)
      exact Fin.b rfl (by rw [fO (d := default) hlt (by simpa using h)])
    · repeat' first | ((first | refine Qz ?_) <;> conv => whnf)
      refine Again.to (j + 1) (by omega) ⟨by omega, bP (d := default) hlt ha (by simpa using h)⟩ (Nat.le_refl _) ?_
      (refine Shr.of ?_ ?_ rfl rfl) <;> (repeat' first | exact Rel.e | refine Rel.some ?_ ?_ ?_ | refine Rel.none ?_ ?_) <;> (try first | (show Fz _ _ _ _; first | exact Fz.pu trivial | (refine Fz.i ?_; first | rfl | omega) | (refine Fz.kpt ?_; (focus (show Pos.nat _ < Pos.nat _; simp [Pos.nat]; done))) | (refine Fz.ksl ?_; (focus (show Pos.nat _ < Pos.nat _; simp [Pos.nat]; done))) | (refine Fz.kmp ?_; (focus (show Pos.nat _ < Pos.nat _; simp [Pos.nat]; done))) | (refine Fz.pu ?_; simp [Cell.d, Pu, aQ, dG, aC, aG, aJ]; done) | (refine Fz.pu ?_; simp only [Cell.d]; assumption)) | (refine RO'.of ?_ (ShC.same ?_); (focus (show Pos.nat _ < Pos.nat _; simp [Pos.nat]; done)); (repeat' first | exact ShC.nl | refine ShC.cn ?_ ?_) <;> first | exact Fz.pu trivial | (refine Fz.i ?_; first | rfl | omega) | (refine Fz.kpt ?_; (focus (show Pos.nat _ < Pos.nat _; simp [Pos.nat]; done))) | (refine Fz.ksl ?_; (focus (show Pos.nat _ < Pos.nat _; simp [Pos.nat]; done))) | (refine Fz.kmp ?_; (focus (show Pos.nat _ < Pos.nat _; simp [Pos.nat]; done))) | (refine Fz.pu ?_; simp [Cell.d, Pu, aQ, dG, aC, aG, aJ]; done) | (refine Fz.pu ?_; simp only [Cell.d]; assumption)))
      all_goals (refine Fz.pu ?_; simp [Pu, h1, h2, aG])
  · repeat' first | ((first | refine Qz ?_) <;> conv => whnf)
    exact Fin.b rfl (by rw [gG (by omega) ha])
theorem WIx.intsE {l : List Int} {n : Int} {j : Nat} {F : List D → Prop} (hn : n = (j : Int)) (h : j < l.length) (k : F [D.i .i64 (l.getD j 0)]) : WIx (Go.Ev.ints l) n F := by
  subst hn; exact WIx.intsN h k
theorem lX {w : List Int} : xF w = true ↔ ∀ i, i < w.length → 1 ≤ i → w.getD (i - 1) 0 < w.getD i 0 := by unfold xF; rw [decide_eq_true_iff]
theorem Fb {w : List Int} {i : Nat} (h : i < w.length) (h1 : 1 ≤ i) (k : w.getD i 0 ≤ w.getD (i - 1) 0) : xF w = false := by
  cases hb : xF w with
  | false => rfl
  | true => have := lX.1 hb i h h1; omega
theorem DJ (w : List Int) (hl : w.length ≤ 1000) : PureF Tryz.prog p127.ix [.lst 1 (ints w)] (.b (kM w)) := by
  have e1 := aO w
  have cA := xO w p146 [] [] iT trivial trivial hl (fun n _ => AC n)
  refine PureF.run Ie (by simp) (by simp [aQ, dG, Pu, aC]) ?_; conv => whnf
  repeat' first | ((first | refine Qz ?_) <;> conv => whnf)
  refine Rn.loop (fun j : Nat => ⟨(.n (.n (.n .e (some (.i .i64 ((j : Int) + 1))) .e) none .e) (some (.lst 1 (ints w))) .e), .e, .h, none⟩) (fun j => j ≤ w.length ∧ ∀ i, 1 ≤ i → i < j + 1 → i < w.length → w.getD (i - 1) 0 < w.getD i 0) (fun j => w.length - j) 0 ?_ ?_ ?_
  · (first | (refine X.le.mk ?_ ?_ (Nat.le_refl _) rfl rfl) | skip) <;> (repeat' first | exact T.le_e _ | refine T.le_some ?_ ?_ ?_ | refine T.le_none ?_ ?_ | rfl)
  · exact ⟨by omega, fun i h1 h2 => by omega⟩
  rintro j ⟨hj, ha⟩
  conv => whnf
  repeat' first | ((first | refine Qz ?_) <;> conv => whnf)
  refine WB.dec (fun h => ?_) (fun h => ?_) <;> conv => whnf
  · have hlt : j + 1 < w.length := by omega
    repeat' first | ((first | refine Qz ?_ | refine Qy ?_) <;> conv => whnf) | (refine WB.tt ?_; conv => whnf) | (refine WB.ff ?_; conv => whnf)
    refine WIx.intsE (j := j) (by omega) (by omega) ?_; conv => whnf
    repeat' first | ((first | refine Qz ?_ | refine Qy ?_) <;> conv => whnf) | (refine WB.tt ?_; conv => whnf) | (refine WB.ff ?_; conv => whnf)
    refine WB.dec (fun h2 => ?_) (fun h2 => ?_) <;> conv => whnf
    · repeat' first | ((first | refine Qz ?_) <;> conv => whnf)
      exact Fin.b rfl (by unfold kM; rw [Fb (i := j + 1) hlt (by omega) h2]; rfl)
    · repeat' first | ((first | refine Qz ?_) <;> conv => whnf)
      refine Again.to (j + 1) (by omega) ⟨by omega, fun i h1 h3 h4 => ?_⟩ (Nat.le_refl _) ?_
      · by_cases e : i = j + 1
        · subst e; exact Int.not_le.1 h2
        · exact ha i h1 (by omega) h4
      · (refine Shr.of ?_ ?_ rfl rfl) <;> (repeat' first | exact Rel.e | refine Rel.some ?_ ?_ ?_ | refine Rel.none ?_ ?_) <;> (try first | (show Fz _ _ _ _; first | exact Fz.pu trivial | (refine Fz.i ?_; first | rfl | omega) | (refine Fz.kpt ?_; (focus (show Pos.nat _ < Pos.nat _; simp [Pos.nat]; done))) | (refine Fz.ksl ?_; (focus (show Pos.nat _ < Pos.nat _; simp [Pos.nat]; done))) | (refine Fz.kmp ?_; (focus (show Pos.nat _ < Pos.nat _; simp [Pos.nat]; done))) | (refine Fz.pu ?_; simp [Cell.d, Pu, aQ, dG, aC, aG, aJ]; done) | (refine Fz.pu ?_; simp only [Cell.d]; assumption)) | (refine RO'.of ?_ (ShC.same ?_); (focus (show Pos.nat _ < Pos.nat _; simp [Pos.nat]; done)); (repeat' first | exact ShC.nl | refine ShC.cn ?_ ?_) <;> first | exact Fz.pu trivial | (refine Fz.i ?_; first | rfl | omega) | (refine Fz.kpt ?_; (focus (show Pos.nat _ < Pos.nat _; simp [Pos.nat]; done))) | (refine Fz.ksl ?_; (focus (show Pos.nat _ < Pos.nat _; simp [Pos.nat]; done))) | (refine Fz.kmp ?_; (focus (show Pos.nat _ < Pos.nat _; simp [Pos.nat]; done))) | (refine Fz.pu ?_; simp [Cell.d, Pu, aQ, dG, aC, aG, aJ]; done) | (refine Fz.pu ?_; simp only [Cell.d]; assumption)))
        all_goals (refine Fz.pu ?_; simp [Pu, aC])
  · have hB : xF w = true := lX.2 fun i hi h1 => ha i h1 (by omega) hi
    unfold kM
    rw [hB, Bool.true_and]
    by_cases k1 : 0 < w.length
    rotate_left
    · rw [decide_eq_false k1]
      repeat' first | ((first | refine Qz ?_ | with_reducible (first | refine Qm ?_ | refine Qn ?_ | refine Qo ?_ | refine Qp ?_ | refine WB.nt ?_ | refine WB.nf ?_ | refine WB.dec (fun h => ?_) (fun h => ?_) | refine WB.ndec (fun h => ?_) (fun h => ?_)) | refine WB.mk (fun h => ?_) (fun h => ?_)) <;> conv => whnf) | (refine WB.tt ?_; conv => whnf) | (refine WB.ff ?_; conv => whnf)
      exact Fin.b rfl rfl
    rw [decide_eq_true k1]
    repeat' first | ((first | refine Qz ?_ | refine Qf (cA) ?_ | with_reducible (first | refine Qm ?_ | refine Qn ?_ | refine Qo ?_ | refine Qp ?_ | refine WB.nt ?_ | refine WB.nf ?_ | refine WB.dec (fun h => ?_) (fun h => ?_) | refine WB.ndec (fun h => ?_) (fun h => ?_)) | refine WB.mk (fun h => ?_) (fun h => ?_)) <;> conv => whnf) | (refine WB.tt ?_; conv => whnf) | (refine WB.ff ?_; conv => whnf)
    exact Fin.b rfl rfl
theorem GP (b : Bh) (p : Int × Int) (h1 : -9223372036854775807 ≤ b.rws ∧ b.rws ≤ 9223372036854775807) (h2 : -9223372036854775807 ≤ b.pls ∧ b.pls ≤ 9223372036854775807) : PureF Tryz.prog p99.ix [.ag (eF b), .ag (bD p)] (.b (dN b p)) := by
  have c1 := nE p.1 (b.rws - 1)
  have c2 := nE p.2 (b.pls - 1)
  refine PureF.run Nb (by simp) (by simp [aQ, Pu, aS, bD]) ?_; conv => whnf
  unfold dN
  cases k0 : iU p.1 0 (b.rws - 1) with
  | false =>
    rw [k0] at c1
    repeat' first | ((first | refine Qz ?_ | refine Qf (c1) ?_ | with_reducible (first | refine Qm ?_ | refine Qn ?_ | refine Qo ?_ | refine Qp ?_ | refine WB.nt ?_ | refine WB.nf ?_ | refine WB.dec (fun h => ?_) (fun h => ?_) | refine WB.ndec (fun h => ?_) (fun h => ?_)) | refine WB.mk (fun h => ?_) (fun h => ?_)) <;> conv => whnf) | (refine WB.tt ?_; conv => whnf) | (refine WB.ff ?_; conv => whnf)
    exact Fin.b rfl rfl
  | true =>
  rw [k0] at c1
  cases k1 : iU p.2 0 (b.pls - 1) with
  | false =>
    rw [k1] at c2
    repeat' first | ((first | refine Qz ?_ | refine Qf (c1) ?_ | refine Qf (c2) ?_ | with_reducible (first | refine Qm ?_ | refine Qn ?_ | refine Qo ?_ | refine Qp ?_ | refine WB.nt ?_ | refine WB.nf ?_ | refine WB.dec (fun h => ?_) (fun h => ?_) | refine WB.ndec (fun h => ?_) (fun h => ?_)) | refine WB.mk (fun h => ?_) (fun h => ?_)) <;> conv => whnf) | (refine WB.tt ?_; conv => whnf) | (refine WB.ff ?_; conv => whnf)
    exact Fin.b rfl rfl
  | true =>
  rw [k1] at c2
  repeat' first | ((first | refine Qz ?_ | refine Qf (c1) ?_ | refine Qf (c2) ?_ | with_reducible (first | refine Qm ?_ | refine Qn ?_ | refine Qo ?_ | refine Qp ?_ | refine WB.nt ?_ | refine WB.nf ?_ | refine WB.dec (fun h => ?_) (fun h => ?_) | refine WB.ndec (fun h => ?_) (fun h => ?_)) | refine WB.mk (fun h => ?_) (fun h => ?_)) <;> conv => whnf) | (refine WB.tt ?_; conv => whnf) | (refine WB.ff ?_; conv => whnf)
  exact Fin.b rfl rfl
theorem Ct (b : Bh) (p : Int × Int) (h1 : -9223372036854775807 ≤ b.rws ∧ b.rws ≤ 9223372036854775807) (h2 : -9223372036854775807 ≤ b.pls ∧ b.pls ≤ 9223372036854775807) : PureF Tryz.prog p44.ix [.ag (eF b), .ag (bD p)] (.b (dN b p)) := by
  have c1 := BA p.1 0 (b.rws - 1)
  have c2 := BA p.2 0 (b.pls - 1)
  refine PureF.run Ms (by simp) (by simp [aQ, Pu, aS, bD]) ?_; conv => whnf
  unfold dN
  cases k0 : iU p.1 0 (b.rws - 1) with
  | false =>
    rw [k0] at c1
    repeat' first | ((first | refine Qz ?_ | refine Qf (c1) ?_ | with_reducible (first | refine Qm ?_ | refine Qn ?_ | refine Qo ?_ | refine Qp ?_ | refine WB.nt ?_ | refine WB.nf ?_ | refine WB.dec (fun h => ?_) (fun h => ?_) | refine WB.ndec (fun h => ?_) (fun h => ?_)) | refine WB.mk (fun h => ?_) (fun h => ?_)) <;> conv => whnf) | (refine WB.tt ?_; conv => whnf) | (refine WB.ff ?_; conv => whnf)
    exact Fin.b rfl rfl
  | true =>
  rw [k0] at c1
  cases k1 : iU p.2 0 (b.pls - 1) with
  | false =>
    rw [k1] at c2
    repeat' first | ((first | refine Qz ?_ | refine Qf (c1) ?_ | refine Qf (c2) ?_ | with_reducible (first | refine Qm ?_ | refine Qn ?_ | refine Qo ?_ | refine Qp ?_ | refine WB.nt ?_ | refine WB.nf ?_ | refine WB.dec (fun h => ?_) (fun h => ?_) | refine WB.ndec (fun h => ?_) (fun h => ?_)) | refine WB.mk (fun h => ?_) (fun h => ?_)) <;> conv => whnf) | (refine WB.tt ?_; conv => whnf) | (refine WB.ff ?_; conv => whnf)
    exact Fin.b rfl rfl
  | true =>
  rw [k1] at c2
  repeat' first | ((first | refine Qz ?_ | refine Qf (c1) ?_ | refine Qf (c2) ?_ | with_reducible (first | refine Qm ?_ | refine Qn ?_ | refine Qo ?_ | refine Qp ?_ | refine WB.nt ?_ | refine WB.nf ?_ | refine WB.dec (fun h => ?_) (fun h => ?_) | refine WB.ndec (fun h => ?_) (fun h => ?_)) | refine WB.mk (fun h => ?_) (fun h => ?_)) <;> conv => whnf) | (refine WB.tt ?_; conv => whnf) | (refine WB.ff ?_; conv => whnf)
  exact Fin.b rfl rfl
theorem Gv (b : Bh) (p : Int × Int) : PureF Tryz.prog p130.ix [.ag (eF b), .ag (bD p)] (.b (gI b p)) := by
  have c1 := nE p.1 b.last
  have c2 := AC p.2
  refine PureF.run Jo (by simp) (by simp [aQ, Pu, aS, bD]) ?_; conv => whnf
  unfold gI
  cases k0 : iU p.1 0 b.last with
  | false =>
    rw [k0] at c1
    repeat' first | ((first | refine Qz ?_ | refine Qf (c1) ?_ | with_reducible (first | refine Qm ?_ | refine Qn ?_ | refine Qo ?_ | refine Qp ?_ | refine WB.nt ?_ | refine WB.nf ?_ | refine WB.dec (fun h => ?_) (fun h => ?_) | refine WB.ndec (fun h => ?_) (fun h => ?_)) | refine WB.mk (fun h => ?_) (fun h => ?_)) <;> conv => whnf) | (refine WB.tt ?_; conv => whnf) | (refine WB.ff ?_; conv => whnf)
    exact Fin.b rfl rfl
  | true =>
  rw [k0] at c1
  cases k1 : iT p.2 with
  | false =>
    rw [k1] at c2
    repeat' first | ((first | refine Qz ?_ | refine Qf (c1) ?_ | refine Qf (c2) ?_ | with_reducible (first | refine Qm ?_ | refine Qn ?_ | refine Qo ?_ | refine Qp ?_ | refine WB.nt ?_ | refine WB.nf ?_ | refine WB.dec (fun h => ?_) (fun h => ?_) | refine WB.ndec (fun h => ?_) (fun h => ?_)) | refine WB.mk (fun h => ?_) (fun h => ?_)) <;> conv => whnf) | (refine WB.tt ?_; conv => whnf) | (refine WB.ff ?_; conv => whnf)
    exact Fin.b rfl rfl
  | true =>
  rw [k1] at c2
  repeat' first | ((first | refine Qz ?_ | refine Qf (c1) ?_ | refine Qf (c2) ?_ | with_reducible (first | refine Qm ?_ | refine Qn ?_ | refine Qo ?_ | refine Qp ?_ | refine WB.nt ?_ | refine WB.nf ?_ | refine WB.dec (fun h => ?_) (fun h => ?_) | refine WB.ndec (fun h => ?_) (fun h => ?_)) | refine WB.mk (fun h => ?_) (fun h => ?_)) <;> conv => whnf) | (refine WB.tt ?_; conv => whnf) | (refine WB.ff ?_; conv => whnf)
  exact Fin.b rfl rfl
theorem vC (b : Bh) (l : List Int) (hl : l.length ≤ 1000) : PureF Tryz.prog p117.ix [.ag (eF b), .lst 1 (ints l)] (.b (vX b l)) := by
  have e1 := aO l
  have cA := xO l p146 [] [] iT trivial trivial hl (fun n _ => AC n)
  refine PureF.run KL (by simp) (by simp [aQ, Pu, aS, aC]) ?_; conv => whnf
  unfold vX
  by_cases k0 : (l.length : Int) = b.rws
  rotate_left
  · rw [decide_eq_false k0]
    have k0' : ¬ ((ints l).length : Int) = b.rws := by omega
    repeat' first | ((first | refine Qz ?_ | with_reducible (first | refine Qm ?_ | refine Qn ?_ | refine Qo ?_ | refine Qp ?_ | refine WB.nt ?_ | refine WB.nf ?_ | refine WB.dec (fun h => ?_) (fun h => ?_) | refine WB.ndec (fun h => ?_) (fun h => ?_)) | refine WB.mk (fun h => ?_) (fun h => ?_)) <;> conv => whnf) | (refine WB.tt ?_; conv => whnf) | (refine WB.ff ?_; conv => whnf)
    exact Fin.b rfl rfl
  rw [decide_eq_true k0]
  have k0' : ((ints l).length : Int) = b.rws := by omega
  cases k1 : l.all iT with
  | false =>
    rw [k1] at cA
    repeat' first | ((first | refine Qz ?_ | refine Qf (cA) ?_ | with_reducible (first | refine Qm ?_ | refine Qn ?_ | refine Qo ?_ | refine Qp ?_ | refine WB.nt ?_ | refine WB.nf ?_ | refine WB.dec (fun h => ?_) (fun h => ?_) | refine WB.ndec (fun h => ?_) (fun h => ?_)) | refine WB.mk (fun h => ?_) (fun h => ?_)) <;> conv => whnf) | (refine WB.tt ?_; conv => whnf) | (refine WB.ff ?_; conv => whnf)
    exact Fin.b rfl rfl
  | true =>
  rw [k1] at cA
  repeat' first | ((first | refine Qz ?_ | refine Qf (cA) ?_ | with_reducible (first | refine Qm ?_ | refine Qn ?_ | refine Qo ?_ | refine Qp ?_ | refine WB.nt ?_ | refine WB.nf ?_ | refine WB.dec (fun h => ?_) (fun h => ?_) | refine WB.ndec (fun h => ?_) (fun h => ?_)) | refine WB.mk (fun h => ?_) (fun h => ?_)) <;> conv => whnf) | (refine WB.tt ?_; conv => whnf) | (refine WB.ff ?_; conv => whnf)
  exact Fin.b rfl rfl
theorem iE (l : List Int) (a : Int) (hl : l.length ≤ 1000) : PureF Tryz.prog p89.ix [.lst 1 (ints l), .i .i64 a] (.b (l.all fun n => iU n a 3)) := by
  have e1 := aO l
  refine PureF.run Mw (by simp) (by simp [aQ, dG, Pu, aC]) ?_; conv => whnf
  repeat' first | ((first | refine Qz ?_) <;> conv => whnf)
  refine Rn.loop (fun j : Nat => ⟨(.n (.n .e (some (.i .i64 a)) (.n .e (some (.i .i64 (j : Int))) .e)) (some (.lst 1 (ints l))) .e), .e, .h, none⟩) (fun j => j ≤ l.length ∧ (l.take j).all (fun n => iU n a 3) = true) (fun j => l.length - j) 0 ?_ ?_ ?_
  · (first | (refine X.le.mk ?_ ?_ (Nat.le_refl _) rfl rfl) | skip) <;> (repeat' first | exact T.le_e _ | refine T.le_some ?_ ?_ ?_ | refine T.le_none ?_ ?_ | rfl)
  · exact ⟨by omega, by simp⟩
  rintro j ⟨hj, ha⟩
  conv => whnf
  repeat' first | ((first | refine Qz ?_) <;> conv => whnf)
  refine WB.dec (fun h => ?_) (fun h => ?_) <;> conv => whnf
  · have hlt : j < l.length := by omega
    have cI := BA (l.getD j 0) a 3
    cases hI : iU (l.getD j 0) a 3 with
    | false =>
      rw [hI] at cI
      repeat' first | ((first | refine Qz ?_ | refine Qf (cI) ?_ | refine Qy ?_) <;> conv => whnf) | (refine WB.tt ?_; conv => whnf) | (refine WB.ff ?_; conv => whnf)
      exact Fin.b rfl (fO (d := 0) hlt hI).symm
    | true =>
      rw [hI] at cI
      repeat' first | ((first | refine Qz ?_ | refine Qf (cI) ?_ | refine Qy ?_) <;> conv => whnf) | (refine WB.tt ?_; conv => whnf) | (refine WB.ff ?_; conv => whnf)
      refine Again.to (j + 1) (by omega) ⟨by omega, bP (d := 0) hlt ha hI⟩ (Nat.le_refl _) ?_
      (refine Shr.of ?_ ?_ rfl rfl) <;> (repeat' first | exact Rel.e | refine Rel.some ?_ ?_ ?_ | refine Rel.none ?_ ?_) <;> (try first | (show Fz _ _ _ _; first | exact Fz.pu trivial | (refine Fz.i ?_; first | rfl | omega) | (refine Fz.kpt ?_; (focus (show Pos.nat _ < Pos.nat _; simp [Pos.nat]; done))) | (refine Fz.ksl ?_; (focus (show Pos.nat _ < Pos.nat _; simp [Pos.nat]; done))) | (refine Fz.kmp ?_; (focus (show Pos.nat _ < Pos.nat _; simp [Pos.nat]; done))) | (refine Fz.pu ?_; simp [Cell.d, Pu, aQ, dG, aC, aG, aJ]; done) | (refine Fz.pu ?_; simp only [Cell.d]; assumption)) | (refine RO'.of ?_ (ShC.same ?_); (focus (show Pos.nat _ < Pos.nat _; simp [Pos.nat]; done)); (repeat' first | exact ShC.nl | refine ShC.cn ?_ ?_) <;> first | exact Fz.pu trivial | (refine Fz.i ?_; first | rfl | omega) | (refine Fz.kpt ?_; (focus (show Pos.nat _ < Pos.nat _; simp [Pos.nat]; done))) | (refine Fz.ksl ?_; (focus (show Pos.nat _ < Pos.nat _; simp [Pos.nat]; done))) | (refine Fz.kmp ?_; (focus (show Pos.nat _ < Pos.nat _; simp [Pos.nat]; done))) | (refine Fz.pu ?_; simp [Cell.d, Pu, aQ, dG, aC, aG, aJ]; done) | (refine Fz.pu ?_; simp only [Cell.d]; assumption)))
      all_goals (refine Fz.pu ?_; simp [Pu, aC])
  · repeat' first | ((first | refine Qz ?_) <;> conv => whnf)
    exact Fin.b rfl (gG (by omega) ha).symm
theorem AY (b : Bh) (l1 : b.face.length ≤ 1000) (l2 : b.sun.length ≤ 1000) (l3 : b.winds.length ≤ 1000) (l4 : b.brk.length ≤ 1000) (l5 : b.nts.length ≤ 1000) (l6 : ∀ w ∈ b.winds, w.length ≤ 1000) : PureF Tryz.prog p88.ix [.ag (eF b)] (.b (fU b)) := by
  have e1 := aO b.sun
  have e2 := aM eQ b.winds
  have c1 := nE b.last 4
  have c2 := DZ 1 3 b.rws
  have c3 := DZ 1 5 b.pls
  have c4 := nE b.rch 4
  have c5 := vC b b.face l1
  have c6 := xO b.sun p126 [] [] rO trivial trivial l2 (fun n _ => Ic n)
  have c7 := DD b.winds p127 [] [] kM trivial trivial l3 (fun w hw => DJ w (l6 w hw))
  have c8 := fun h1 h2 => FL b.brk p99 [.ag (eF b)] [] (dN b) (by simp [aQ, Pu, aS]) trivial l4 (fun p _ => GP b p h1 h2)
  have c9 := BR b.nts p130 [.ag (eF b)] [] (gI b) (by simp [aQ, Pu, aS]) trivial l5 (fun p _ => Gv b p)
  refine PureF.run My (by simp) (by simp [aQ, Pu, aS]) ?_; conv => whnf
  unfold fU
  cases k0 : iU b.last 0 4 with
  | false =>
    rw [k0] at c1
    repeat' first | ((first | refine Qz ?_ | refine Qf (c1) ?_ | with_reducible (first | refine Qm ?_ | refine Qn ?_ | refine Qo ?_ | refine Qp ?_ | refine WB.nt ?_ | refine WB.nf ?_ | refine WB.dec (fun h => ?_) (fun h => ?_) | refine WB.ndec (fun h => ?_) (fun h => ?_)) | refine WB.mk (fun h => ?_) (fun h => ?_)) <;> conv => whnf) | (refine WB.tt ?_; conv => whnf) | (refine WB.ff ?_; conv => whnf)
    exact Fin.b rfl rfl
  | true =>
  rw [k0] at c1
  have q0 := bJ k0
  cases k1 : iU b.rws 1 3 with
  | false =>
    rw [k1] at c2
    repeat' first | ((first | refine Qz ?_ | refine Qf (c1) ?_ | refine Qf (c2) ?_ | with_reducible (first | refine Qm ?_ | refine Qn ?_ | refine Qo ?_ | refine Qp ?_ | refine WB.nt ?_ | refine WB.nf ?_ | refine WB.dec (fun h => ?_) (fun h => ?_) | refine WB.ndec (fun h => ?_) (fun h => ?_)) | refine WB.mk (fun h => ?_) (fun h => ?_)) <;> conv => whnf) | (refine WB.tt ?_; conv => whnf) | (refine WB.ff ?_; conv => whnf)
    exact Fin.b rfl rfl
  | true =>
  rw [k1] at c2
  have q1 := bJ k1
  cases k2 : iU b.pls 1 5 with
  | false =>
    rw [k2] at c3
    repeat' first | ((first | refine Qz ?_ | refine Qf (c1) ?_ | refine Qf (c2) ?_ | refine Qf (c3) ?_ | with_reducible (first | refine Qm ?_ | refine Qn ?_ | refine Qo ?_ | refine Qp ?_ | refine WB.nt ?_ | refine WB.nf ?_ | refine WB.dec (fun h => ?_) (fun h => ?_) | refine WB.ndec (fun h => ?_) (fun h => ?_)) | refine WB.mk (fun h => ?_) (fun h => ?_)) <;> conv => whnf) | (refine WB.tt ?_; conv => whnf) | (refine WB.ff ?_; conv => whnf)
    exact Fin.b rfl rfl
  | true =>
  rw [k2] at c3
  have q2 := bJ k2
  have c8 := c8 ⟨by omega, by omega⟩ ⟨by omega, by omega⟩
  cases k3 : iU b.rch 0 4 with
  | false =>
    rw [k3] at c4
    repeat' first | ((first | refine Qz ?_ | refine Qf (c1) ?_ | refine Qf (c2) ?_ | refine Qf (c3) ?_ | refine Qf (c4) ?_ | with_reducible (first | refine Qm ?_ | refine Qn ?_ | refine Qo ?_ | refine Qp ?_ | refine WB.nt ?_ | refine WB.nf ?_ | refine WB.dec (fun h => ?_) (fun h => ?_) | refine WB.ndec (fun h => ?_) (fun h => ?_)) | refine WB.mk (fun h => ?_) (fun h => ?_)) <;> conv => whnf) | (refine WB.tt ?_; conv => whnf) | (refine WB.ff ?_; conv => whnf)
    exact Fin.b rfl rfl
  | true =>
  rw [k3] at c4
  cases k4 : vX b b.face with
  | false =>
    rw [k4] at c5
    repeat' first | ((first | refine Qz ?_ | refine Qf (c1) ?_ | refine Qf (c2) ?_ | refine Qf (c3) ?_ | refine Qf (c4) ?_ | refine Qf (c5) ?_ | with_reducible (first | refine Qm ?_ | refine Qn ?_ | refine Qo ?_ | refine Qp ?_ | refine WB.nt ?_ | refine WB.nf ?_ | refine WB.dec (fun h => ?_) (fun h => ?_) | refine WB.ndec (fun h => ?_) (fun h => ?_)) | refine WB.mk (fun h => ?_) (fun h => ?_)) <;> conv => whnf) | (refine WB.tt ?_; conv => whnf) | (refine WB.ff ?_; conv => whnf)
    exact Fin.b rfl rfl
  | true =>
  rw [k4] at c5
  by_cases k5 : (b.sun.length : Int) = b.last + 1
  rotate_left
  · rw [decide_eq_false k5]
    have k5' : ¬ ((ints b.sun).length : Int) = b.last + 1 := by omega
    repeat' first | ((first | refine Qz ?_ | refine Qf (c1) ?_ | refine Qf (c2) ?_ | refine Qf (c3) ?_ | refine Qf (c4) ?_ | refine Qf (c5) ?_ | with_reducible (first | refine Qm ?_ | refine Qn ?_ | refine Qo ?_ | refine Qp ?_ | refine WB.nt ?_ | refine WB.nf ?_ | refine WB.dec (fun h => ?_) (fun h => ?_) | refine WB.ndec (fun h => ?_) (fun h => ?_)) | refine WB.mk (fun h => ?_) (fun h => ?_)) <;> conv => whnf) | (refine WB.tt ?_; conv => whnf) | (refine WB.ff ?_; conv => whnf)
    exact Fin.b rfl rfl
  rw [decide_eq_true k5]
  have k5' : ((ints b.sun).length : Int) = b.last + 1 := by omega
  cases k6 : b.sun.all rO with
  | false =>
    rw [k6] at c6
    repeat' first | ((first | refine Qz ?_ | refine Qf (c1) ?_ | refine Qf (c2) ?_ | refine Qf (c3) ?_ | refine Qf (c4) ?_ | refine Qf (c5) ?_ | refine Qf (c6) ?_ | with_reducible (first | refine Qm ?_ | refine Qn ?_ | refine Qo ?_ | refine Qp ?_ | refine WB.nt ?_ | refine WB.nf ?_ | refine WB.dec (fun h => ?_) (fun h => ?_) | refine WB.ndec (fun h => ?_) (fun h => ?_)) | refine WB.mk (fun h => ?_) (fun h => ?_)) <;> conv => whnf) | (refine WB.tt ?_; conv => whnf) | (refine WB.ff ?_; conv => whnf)
    exact Fin.b rfl rfl
  | true =>
  rw [k6] at c6
  by_cases k7 : (b.winds.length : Int) = b.last + 1
  rotate_left
  · rw [decide_eq_false k7]
    have k7' : ¬ ((aD eQ b.winds).length : Int) = b.last + 1 := by omega
    repeat' first | ((first | refine Qz ?_ | refine Qf (c1) ?_ | refine Qf (c2) ?_ | refine Qf (c3) ?_ | refine Qf (c4) ?_ | refine Qf (c5) ?_ | refine Qf (c6) ?_ | with_reducible (first | refine Qm ?_ | refine Qn ?_ | refine Qo ?_ | refine Qp ?_ | refine WB.nt ?_ | refine WB.nf ?_ | refine WB.dec (fun h => ?_) (fun h => ?_) | refine WB.ndec (fun h => ?_) (fun h => ?_)) | refine WB.mk (fun h => ?_) (fun h => ?_)) <;> conv => whnf) | (refine WB.tt ?_; conv => whnf) | (refine WB.ff ?_; conv => whnf)
    exact Fin.b rfl rfl
  rw [decide_eq_true k7]
  have k7' : ((aD eQ b.winds).length : Int) = b.last + 1 := by omega
  cases k8 : b.winds.all kM with
  | false =>
    rw [k8] at c7
    repeat' first | ((first | refine Qz ?_ | refine Qf (c1) ?_ | refine Qf (c2) ?_ | refine Qf (c3) ?_ | refine Qf (c4) ?_ | refine Qf (c5) ?_ | refine Qf (c6) ?_ | refine Qf (c7) ?_ | with_reducible (first | refine Qm ?_ | refine Qn ?_ | refine Qo ?_ | refine Qp ?_ | refine WB.nt ?_ | refine WB.nf ?_ | refine WB.dec (fun h => ?_) (fun h => ?_) | refine WB.ndec (fun h => ?_) (fun h => ?_)) | refine WB.mk (fun h => ?_) (fun h => ?_)) <;> conv => whnf) | (refine WB.tt ?_; conv => whnf) | (refine WB.ff ?_; conv => whnf)
    exact Fin.b rfl rfl
  | true =>
  rw [k8] at c7
  cases k9 : b.brk.all (dN b) with
  | false =>
    rw [k9] at c8
    repeat' first | ((first | refine Qz ?_ | refine Qf (c1) ?_ | refine Qf (c2) ?_ | refine Qf (c3) ?_ | refine Qf (c4) ?_ | refine Qf (c5) ?_ | refine Qf (c6) ?_ | refine Qf (c7) ?_ | refine Qf (c8) ?_ | with_reducible (first | refine Qm ?_ | refine Qn ?_ | refine Qo ?_ | refine Qp ?_ | refine WB.nt ?_ | refine WB.nf ?_ | refine WB.dec (fun h => ?_) (fun h => ?_) | refine WB.ndec (fun h => ?_) (fun h => ?_)) | refine WB.mk (fun h => ?_) (fun h => ?_)) <;> conv => whnf) | (refine WB.tt ?_; conv => whnf) | (refine WB.ff ?_; conv => whnf)
    exact Fin.b rfl rfl
  | true =>
  rw [k9] at c8
  cases k10 : b.nts.all (gI b) with
  | false =>
    rw [k10] at c9
    repeat' first | ((first | refine Qz ?_ | refine Qf (c1) ?_ | refine Qf (c2) ?_ | refine Qf (c3) ?_ | refine Qf (c4) ?_ | refine Qf (c5) ?_ | refine Qf (c6) ?_ | refine Qf (c7) ?_ | refine Qf (c8) ?_ | refine Qf (c9) ?_ | with_reducible (first | refine Qm ?_ | refine Qn ?_ | refine Qo ?_ | refine Qp ?_ | refine WB.nt ?_ | refine WB.nf ?_ | refine WB.dec (fun h => ?_) (fun h => ?_) | refine WB.ndec (fun h => ?_) (fun h => ?_)) | refine WB.mk (fun h => ?_) (fun h => ?_)) <;> conv => whnf) | (refine WB.tt ?_; conv => whnf) | (refine WB.ff ?_; conv => whnf)
    exact Fin.b rfl rfl
  | true =>
  rw [k10] at c9
  repeat' first | ((first | refine Qz ?_ | refine Qf (c1) ?_ | refine Qf (c2) ?_ | refine Qf (c3) ?_ | refine Qf (c4) ?_ | refine Qf (c5) ?_ | refine Qf (c6) ?_ | refine Qf (c7) ?_ | refine Qf (c8) ?_ | refine Qf (c9) ?_ | with_reducible (first | refine Qm ?_ | refine Qn ?_ | refine Qo ?_ | refine Qp ?_ | refine WB.nt ?_ | refine WB.nf ?_ | refine WB.dec (fun h => ?_) (fun h => ?_) | refine WB.ndec (fun h => ?_) (fun h => ?_)) | refine WB.mk (fun h => ?_) (fun h => ?_)) <;> conv => whnf) | (refine WB.tt ?_; conv => whnf) | (refine WB.ff ?_; conv => whnf)
  exact Fin.b rfl rfl
theorem fV {b : Bh} : Bb b = true ↔ 4 < b.last ∨ 3 < b.rws ∨ 5 < b.pls ∨ 4 < b.brk.length ∨ 5 < b.nts.length := by unfold Bb; rw [decide_eq_true_iff]
theorem EK (b : Bh) (l1 : b.face.length ≤ 1000) (l2 : b.sun.length ≤ 1000) (l3 : b.winds.length ≤ 1000) (l6 : ∀ w ∈ b.winds, w.length ≤ 1000) : PureF Tryz.prog p29.ix [.ag (eF b)] (.i .i64 (bB b)) := by
  have e1 := aM bD b.brk
  have e2 := aM bD b.nts
  refine PureF.run Nk (by simp) (by simp [aQ, Pu, aS]) ?_; conv => whnf
  by_cases hB : 4 < b.last ∨ 3 < b.rws ∨ 5 < b.pls ∨ 4 < b.brk.length ∨ 5 < b.nts.length
  · have hf : bB b = 3 := by unfold bB; rw [if_pos (fV.2 hB)]
    rw [hf]
    repeat' first | ((first | refine Qz ?_ | with_reducible refine WB.dec (fun h => ?_) (fun h => ?_) | with_reducible refine WB.ndec (fun h => ?_) (fun h => ?_) | refine WB.mk (fun h => ?_) (fun h => ?_)) <;> conv => whnf)
    all_goals first | exact Fin.i rfl rfl | (exfalso; omega)
  · have hv := AY b l1 l2 l3 (by omega) (by omega) l6
    have hf : bB b = if fU b = true then 0 else 1 := by unfold bB; rw [if_neg fun h => hB (fV.1 h)]
    rw [hf]
    cases k : fU b with
    | true =>
      rw [k] at hv
      repeat' first | ((first | refine Qz ?_ | refine Qf (hv) ?_ | with_reducible (first | refine Qm ?_ | refine Qn ?_ | refine Qo ?_ | refine Qp ?_ | refine WB.nt ?_ | refine WB.nf ?_ | refine WB.dec (fun h => ?_) (fun h => ?_) | refine WB.ndec (fun h => ?_) (fun h => ?_)) | refine WB.mk (fun h => ?_) (fun h => ?_)) <;> conv => whnf) | (refine WB.tt ?_; conv => whnf) | (refine WB.ff ?_; conv => whnf)
      exact Fin.i rfl rfl
    | false =>
      rw [k] at hv
      repeat' first | ((first | refine Qz ?_ | refine Qf (hv) ?_ | with_reducible (first | refine Qm ?_ | refine Qn ?_ | refine Qo ?_ | refine Qp ?_ | refine WB.nt ?_ | refine WB.nf ?_ | refine WB.dec (fun h => ?_) (fun h => ?_) | refine WB.ndec (fun h => ?_) (fun h => ?_)) | refine WB.mk (fun h => ?_) (fun h => ?_)) <;> conv => whnf) | (refine WB.tt ?_; conv => whnf) | (refine WB.ff ?_; conv => whnf)
      exact Fin.i rfl rfl
end Go.Ev
end
