import Derived.Test.YtkbgaadfednjpaaGreatDoorEvULk
import Derived.Test.YtkbgaadfednjpaaGreatDoorEvU4b
set_option linter.all false
set_option maxHeartbeats 8000000
noncomputable section
namespace Go.Ev
open Go.Proofs
set_option maxRecDepth 100000
theorem DI (lo hi n : Int) : PureF Tryz.prog p124.ix [.ag [.i .i64 lo, .i .i64 hi], .i .i64 n] (.b (iH n lo hi)) := by
  refine PureF.run ID (by simp) (by simp [aO, cZ, Pu]) ?_; conv => whnf
  repeat' first | ((first | refine Qz ?_ | with_reducible refine WB.dec (fun h => ?_) (fun h => ?_) | with_reducible refine WB.ndec (fun h => ?_) (fun h => ?_) | refine WB.mk (fun h => ?_) (fun h => ?_)) <;> conv => whnf)
  all_goals
    refine Fin.b rfl ?_
    unfold iH
    first
      | exact (decide_eq_false (by omega)).symm
      | (congr 1; apply propext; constructor <;> intro hh <;> omega)
theorem yD (n a b : Int) : PureF Tryz.prog p45.ix [.i .i64 n, .i .i64 a, .i .i64 b] (.b (iH n a b)) := by
  refine PureF.run ME (by simp) (by simp [aO, cZ, Pu]) ?_; conv => whnf
  repeat' first | ((first | refine Qz ?_ | with_reducible refine WB.dec (fun h => ?_) (fun h => ?_) | with_reducible refine WB.ndec (fun h => ?_) (fun h => ?_) | refine WB.mk (fun h => ?_) (fun h => ?_)) <;> conv => whnf)
  all_goals
    refine Fin.b rfl ?_
    unfold iH
    first
      | exact (decide_eq_false (by omega)).symm
      | (congr 1; apply propext; constructor <;> intro hh <;> omega)
theorem nA (n m : Int) : PureF Tryz.prog p100.ix [.i .i64 n, .i .i64 m] (.b (iH n 0 m)) := by
  refine PureF.run LZ (by simp) (by simp [aO, cZ, Pu]) ?_; conv => whnf
  repeat' first | ((first | refine Qz ?_ | refine Qf (DI _ _ _) ?_) <;> conv => whnf)
  exact Fin.b rfl rfl
theorem Aj (n : Int) : PureF Tryz.prog p146.ix [.i .i64 n] (.b (iR n)) := by
  refine PureF.run JI (by simp) (by simp [aO, cZ, Pu]) ?_; conv => whnf
  repeat' first | ((first | refine Qz ?_ | refine Qf (nA _ _) ?_) <;> conv => whnf)
  exact Fin.b rfl rfl
theorem qV (n : Int) : tC n = true ↔ n = -1 ∨ iR n = true := by
  unfold tC iR iH
  rw [decide_eq_true_iff, decide_eq_true_iff]; omega
theorem HT (n : Int) : PureF Tryz.prog p126.ix [.i .i64 n] (.b (tC n)) := by
  refine PureF.run Lc (by simp) (by simp [aO, cZ, Pu]) ?_; conv => whnf
  repeat' first | ((first | refine Qz ?_ | refine Qf (Aj _) ?_ | with_reducible refine WB.dec (fun h => ?_) (fun h => ?_) | with_reducible refine WB.ndec (fun h => ?_) (fun h => ?_) | refine WB.mk (fun h => ?_) (fun h => ?_)) <;> conv => whnf)
  · exact Fin.b rfl ((qV n).2 (.inl (by omega))).symm
  · exact Fin.b rfl (by cases hd : iR n with
      | true => exact ((qV n).2 (.inr hd)).symm
      | false =>
        cases hs : tC n with
        | false => rfl
        | true => rcases (qV n).1 hs with e | e
                  · exact absurd e (by omega)
                  · rw [hd] at e; cases e)
theorem xA (l : List Int) (f : Pos) (first caps : List D) (p : Int → Bool) (h1 : aO first) (h2 : aO caps) (hl : l.length ≤ 1000) (hf : ∀ c ∈ l, PureF Tryz.prog f.ix (first ++ ([.i .i64 c] ++ caps)) (.b (p c))) : PureF Tryz.prog p125.ix [.lst 1 (ints l), .fn f first caps] (.b (l.all p)) := by
  have e1 : (ints l).length = l.length := by simp [aD, ints]
  refine PureF.run KY (by simp) (by simp [aO, cZ, Pu, aC, h1, h2]) ?_; conv => whnf
  repeat' first | ((first | refine Qz ?_) <;> conv => whnf)
  refine Rn.loop (fun j : Nat => ⟨(.n (.n (.n (.n .e (some (.lst 1 (ints l))) .e) none .e) (some (.fn f first caps)) (.n (.n .e (some (.i .i64 (j : Int))) .e) none .e)) none (.n (.n (.n .e (some (.i .i64 ((ints l).length : Int))) .e) none .e) none .e)), .e, .h, none⟩) (fun j => j ≤ l.length ∧ (l.take j).all p = true) (fun j => l.length - j) 0 ?_ ?_ ?_
  · (first | (refine X.le.mk ?_ ?_ (Nat.le_refl _) rfl rfl) | skip) <;> (repeat' first | exact T.le_e _ | refine T.le_some ?_ ?_ ?_ | refine T.le_none ?_ ?_ | rfl)
  · exact ⟨by omega, by simp⟩
  rintro j ⟨hj, ha⟩
  conv => whnf
  repeat' first | ((first | refine Qz ?_) <;> conv => whnf)
  refine WB.dec (fun h => ?_) (fun h => ?_) <;> conv => whnf
  · have hlt : j < l.length := by omega
    repeat' first | ((first | refine Qz ?_ | refine Qf (hf _ (aU hlt)) ?_) <;> conv => whnf)
    refine WB.mk (fun h => ?_) (fun h => ?_) <;> conv => whnf
    · repeat' first | ((first | refine Qz ?_) <;> conv => whnf)
      exact Fin.b rfl (by rw [fN (d := 0) hlt (by simpa using h)])
    · repeat' first | ((first | refine Qz ?_) <;> conv => whnf)
      refine Again.to (j + 1) (by omega) ⟨by omega, bO (d := 0) hlt ha (by simpa using h)⟩ (Nat.le_refl _) ?_
      (refine Shr.of ?_ ?_ rfl rfl) <;> (repeat' first | exact Rel.e | refine Rel.some ?_ ?_ ?_ | refine Rel.none ?_ ?_) <;> (try first | (show Fz _ _ _ _; first | exact Fz.pu trivial | (refine Fz.i ?_; first | rfl | omega) | (refine Fz.kpt ?_; (focus (show Pos.nat _ < Pos.nat _; simp [Pos.nat]; done))) | (refine Fz.ksl ?_; (focus (show Pos.nat _ < Pos.nat _; simp [Pos.nat]; done))) | (refine Fz.kmp ?_; (focus (show Pos.nat _ < Pos.nat _; simp [Pos.nat]; done))) | (refine Fz.pu ?_; simp [Cell.d, Pu, aO, cZ, aC, aE, aG]; done) | (refine Fz.pu ?_; simp only [Cell.d]; assumption)) | (refine RO'.of ?_ (ShC.same ?_); (focus (show Pos.nat _ < Pos.nat _; simp [Pos.nat]; done)); (repeat' first | exact ShC.nl | refine ShC.cn ?_ ?_) <;> first | exact Fz.pu trivial | (refine Fz.i ?_; first | rfl | omega) | (refine Fz.kpt ?_; (focus (show Pos.nat _ < Pos.nat _; simp [Pos.nat]; done))) | (refine Fz.ksl ?_; (focus (show Pos.nat _ < Pos.nat _; simp [Pos.nat]; done))) | (refine Fz.kmp ?_; (focus (show Pos.nat _ < Pos.nat _; simp [Pos.nat]; done))) | (refine Fz.pu ?_; simp [Cell.d, Pu, aO, cZ, aC, aE, aG]; done) | (refine Fz.pu ?_; simp only [Cell.d]; assumption)))
      all_goals (refine Fz.pu ?_; simp [Pu, h1, h2, aC])
  · repeat' first | ((first | refine Qz ?_) <;> conv => whnf)
    exact Fin.b rfl (by rw [gF (by omega) ha])
theorem Dn (l : List (List Int)) (f : Pos) (first caps : List D) (p : (List Int) → Bool) (h1 : aO first) (h2 : aO caps) (hl : l.length ≤ 1000) (hf : ∀ c ∈ l, PureF Tryz.prog f.ix (first ++ ([.lst 1 (ints c)] ++ caps)) (.b (p c))) : PureF Tryz.prog p116.ix [.lst 1 (aD eO l), .fn f first caps] (.b (l.all p)) := by
  have e1 : (aD eO l).length = l.length := by simp [aD, ints]
  refine PureF.run JS (by simp) (by simp [aO, cZ, Pu, aC, aG, h1, h2]) ?_; conv => whnf
  repeat' first | ((first | refine Qz ?_) <;> conv => whnf)
  refine Rn.loop (fun j : Nat => ⟨(.n (.n (.n (.n .e (some (.lst 1 (aD eO l))) .e) none .e) (some (.fn f first caps)) (.n (.n .e (some (.i .i64 (j : Int))) .e) none .e)) none (.n (.n (.n .e (some (.i .i64 ((aD eO l).length : Int))) .e) none .e) none .e)), .e, .h, none⟩) (fun j => j ≤ l.length ∧ (l.take j).all p = true) (fun j => l.length - j) 0 ?_ ?_ ?_
  · (first | (refine X.le.mk ?_ ?_ (Nat.le_refl _) rfl rfl) | skip) <;> (repeat' first | exact T.le_e _ | refine T.le_some ?_ ?_ ?_ | refine T.le_none ?_ ?_ | rfl)
  · exact ⟨by omega, by simp⟩
  rintro j ⟨hj, ha⟩
  conv => whnf
  repeat' first | ((first | refine Qz ?_) <;> conv => whnf)
  refine WB.dec (fun h => ?_) (fun h => ?_) <;> conv => whnf
  · have hlt : j < l.length := by omega
    repeat' first | ((first | refine Qz ?_ | refine Qf (hf _ (aU hlt)) ?_) <;> conv => whnf)
    refine WB.mk (fun h => ?_) (fun h => ?_) <;> conv => whnf
    · repeat' first | ((first | refine Qz ?_) <;> conv => whnf)
      exact Fin.b rfl (by rw [fN (d := default) hlt (by simpa using h)])
    · repeat' first | ((first | refine Qz ?_) <;> conv => whnf)
      refine Again.to (j + 1) (by omega) ⟨by omega, bO (d := default) hlt ha (by simpa using h)⟩ (Nat.le_refl _) ?_
      (refine Shr.of ?_ ?_ rfl rfl) <;> (repeat' first | exact Rel.e | refine Rel.some ?_ ?_ ?_ | refine Rel.none ?_ ?_) <;> (try first | (show Fz _ _ _ _; first | exact Fz.pu trivial | (refine Fz.i ?_; first | rfl | omega) | (refine Fz.kpt ?_; (focus (show Pos.nat _ < Pos.nat _; simp [Pos.nat]; done))) | (refine Fz.ksl ?_; (focus (show Pos.nat _ < Pos.nat _; simp [Pos.nat]; done))) | (refine Fz.kmp ?_; (focus (show Pos.nat _ < Pos.nat _; simp [Pos.nat]; done))) | (refine Fz.pu ?_; simp [Cell.d, Pu, aO, cZ, aC, aE, aG]; done) | (refine Fz.pu ?_; simp only [Cell.d]; assumption)) | (refine RO'.of ?_ (ShC.same ?_); (focus (show Pos.nat _ < Pos.nat _; simp [Pos.nat]; done)); (repeat' first | exact ShC.nl | refine ShC.cn ?_ ?_) <;> first | exact Fz.pu trivial | (refine Fz.i ?_; first | rfl | omega) | (refine Fz.kpt ?_; (focus (show Pos.nat _ < Pos.nat _; simp [Pos.nat]; done))) | (refine Fz.ksl ?_; (focus (show Pos.nat _ < Pos.nat _; simp [Pos.nat]; done))) | (refine Fz.kmp ?_; (focus (show Pos.nat _ < Pos.nat _; simp [Pos.nat]; done))) | (refine Fz.pu ?_; simp [Cell.d, Pu, aO, cZ, aC, aE, aG]; done) | (refine Fz.pu ?_; simp only [Cell.d]; assumption)))
      all_goals (refine Fz.pu ?_; simp [Pu, h1, h2, aC, aG])
  · repeat' first | ((first | refine Qz ?_) <;> conv => whnf)
    exact Fin.b rfl (by rw [gF (by omega) ha])
theorem FB (l : List (Int × Int)) (f : Pos) (first caps : List D) (p : (Int × Int) → Bool) (h1 : aO first) (h2 : aO caps) (hl : l.length ≤ 1000) (hf : ∀ c ∈ l, PureF Tryz.prog f.ix (first ++ ([.ag (bC c)] ++ caps)) (.b (p c))) : PureF Tryz.prog p128.ix [.lst 2 (aD bC l), .fn f first caps] (.b (l.all p)) := by
  have e1 : (aD bC l).length = l.length := by simp [aD, ints]
  refine PureF.run Ih (by simp) (by simp [aO, cZ, Pu, aE, h1, h2]) ?_; conv => whnf
  repeat' first | ((first | refine Qz ?_) <;> conv => whnf)
  refine Rn.loop (fun j : Nat => ⟨(.n (.n (.n (.n .e (some (.lst 2 (aD bC l))) .e) none .e) (some (.fn f first caps)) (.n (.n .e (some (.i .i64 (j : Int))) .e) none .e)) none (.n (.n (.n .e (some (.i .i64 ((aD bC l).length : Int))) .e) none .e) none .e)), .e, .h, none⟩) (fun j => j ≤ l.length ∧ (l.take j).all p = true) (fun j => l.length - j) 0 ?_ ?_ ?_
  · (first | (refine X.le.mk ?_ ?_ (Nat.le_refl _) rfl rfl) | skip) <;> (repeat' first | exact T.le_e _ | refine T.le_some ?_ ?_ ?_ | refine T.le_none ?_ ?_ | rfl)
  · exact ⟨by omega, by simp⟩
  rintro j ⟨hj, ha⟩
  conv => whnf
  repeat' first | ((first | refine Qz ?_) <;> conv => whnf)
  refine WB.dec (fun h => ?_) (fun h => ?_) <;> conv => whnf
  · have hlt : j < l.length := by omega
    repeat' first | ((first | refine Qz ?_ | refine Qf (hf _ (aU hlt)) ?_) <;> conv => whnf)
    refine WB.mk (fun h => ?_) (fun h => ?_) <;> conv => whnf
    · repeat' first | ((first | refine Qz ?_) <;> conv => whnf)
      exact Fin.b rfl (by rw [fN (d := default) hlt (by simpa using h)])
    · repeat' first | ((first | refine Qz ?_) <;> conv => whnf)
      refine Again.to (j + 1) (by omega) ⟨by omega, bO (d := default) hlt ha (by simpa using h)⟩ (Nat.le_refl _) ?_
      (refine Shr.of ?_ ?_ rfl rfl) <;> (repeat' first | exact Rel.e | refine Rel.some ?_ ?_ ?_ | refine Rel.none ?_ ?_) <;> (try first | (show Fz _ _ _ _; first | exact Fz.pu trivial | (refine Fz.i ?_; first | rfl | omega) | (refine Fz.kpt ?_; (focus (show Pos.nat _ < Pos.nat _; simp [Pos.nat]; done))) | (refine Fz.ksl ?_; (focus (show Pos.nat _ < Pos.nat _; simp [Pos.nat]; done))) | (refine Fz.kmp ?_; (focus (show Pos.nat _ < Pos.nat _; simp [Pos.nat]; done))) | (refine Fz.pu ?_; simp [Cell.d, Pu, aO, cZ, aC, aE, aG]; done) | (refine Fz.pu ?_; simp only [Cell.d]; assumption)) | (refine RO'.of ?_ (ShC.same ?_); (focus (show Pos.nat _ < Pos.nat _; simp [Pos.nat]; done)); (repeat' first | exact ShC.nl | refine ShC.cn ?_ ?_) <;> first | exact Fz.pu trivial | (refine Fz.i ?_; first | rfl | omega) | (refine Fz.kpt ?_; (focus (show Pos.nat _ < Pos.nat _; simp [Pos.nat]; done))) | (refine Fz.ksl ?_; (focus (show Pos.nat _ < Pos.nat _; simp [Pos.nat]; done))) | (refine Fz.kmp ?_; (focus (show Pos.nat _ < Pos.nat _; simp [Pos.nat]; done))) | (refine Fz.pu ?_; simp [Cell.d, Pu, aO, cZ, aC, aE, aG]; done) | (refine Fz.pu ?_; simp only [Cell.d]; assumption)))
      all_goals (refine Fz.pu ?_; simp [Pu, h1, h2, aE])
  · repeat' first | ((first | refine Qz ?_) <;> conv => whnf)
    exact Fin.b rfl (by rw [gF (by omega) ha])
theorem Bz (l : List (Int × Int)) (f : Pos) (first caps : List D) (p : (Int × Int) → Bool) (h1 : aO first) (h2 : aO caps) (hl : l.length ≤ 1000) (hf : ∀ c ∈ l, PureF Tryz.prog f.ix (first ++ ([.ag (bC c)] ++ caps)) (.b (p c))) : PureF Tryz.prog p129.ix [.lst 2 (aD bC l), .fn f first caps] (.b (l.all p)) := by
  have e1 : (aD bC l).length = l.length := by simp [aD, ints]
  refine PureF.run Ig (by simp) (by simp [aO, cZ, Pu, aE, h1, h2]) ?_; conv => whnf
  repeat' first | ((first | refine Qz ?_) <;> conv => whnf)
  refine Rn.loop (fun j : Nat => ⟨(.n (.n (.n (.n .e (some (.lst 2 (aD bC l))) .e) none .e) (some (.fn f first caps)) (.n (.n .e (some (.i .i64 (j : Int))) .e) none .e)) none (.n (.n (.n .e (some (.i .i64 ((aD bC l).length : Int))) .e) none .e) none .e)), .e, .h, none⟩) (fun j => j ≤ l.length ∧ (l.take j).all p = true) (fun j => l.length - j) 0 ?_ ?_ ?_
  · (first | (refine X.le.mk ?_ ?_ (Nat.le_refl _) rfl rfl) | skip) <;> (repeat' first | exact T.le_e _ | refine T.le_some ?_ ?_ ?_ | refine T.le_none ?_ ?_ | rfl)
  · exact ⟨by omega, by simp⟩
  rintro j ⟨hj, ha⟩
  conv => whnf
  repeat' first | ((first | refine Qz ?_) <;> conv => whnf)
  refine WB.dec (fun h => ?_) (fun h => ?_) <;> conv => whnf
  · have hlt : j < l.length := by omega
    repeat' first | ((first | refine Qz ?_ | refine Qf (hf _ (aU hlt)) ?_) <;> conv => whnf)
    refine WB.mk (fun h => ?_) (fun h => ?_) <;> conv => whnf
    · repeat' first | ((first | refine Qz ?_) <;> conv => whnf)
      exact Fin.b rfl (by rw [fN (d := default) hlt (by simpa using h)])
    · repeat' first | ((first | refine Qz ?_) <;> conv => whnf)
      refine Again.to (j + 1) (by omega) ⟨by omega, bO (d := default) hlt ha (by simpa using h)⟩ (Nat.le_refl _) ?_
      (refine Shr.of ?_ ?_ rfl rfl) <;> (repeat' first | exact Rel.e | refine Rel.some ?_ ?_ ?_ | refine Rel.none ?_ ?_) <;> (try first | (show Fz _ _ _ _; first | exact Fz.pu trivial | (refine Fz.i ?_; first | rfl | omega) | (refine Fz.kpt ?_; (focus (show Pos.nat _ < Pos.nat _; simp [Pos.nat]; done))) | (refine Fz.ksl ?_; (focus (show Pos.nat _ < Pos.nat _; simp [Pos.nat]; done))) | (refine Fz.kmp ?_; (focus (show Pos.nat _ < Pos.nat _; simp [Pos.nat]; done))) | (refine Fz.pu ?_; simp [Cell.d, Pu, aO, cZ, aC, aE, aG]; done) | (refine Fz.pu ?_; simp only [Cell.d]; assumption)) | (refine RO'.of ?_ (ShC.same ?_); (focus (show Pos.nat _ < Pos.nat _; simp [Pos.nat]; done)); (repeat' first | exact ShC.nl | refine ShC.cn ?_ ?_) <;> first | exact Fz.pu trivial | (refine Fz.i ?_; first | rfl | omega) | (refine Fz.kpt ?_; (focus (show Pos.nat _ < Pos.nat _; simp [Pos.nat]; done))) | (refine Fz.ksl ?_; (focus (show Pos.nat _ < Pos.nat _; simp [Pos.nat]; done))) | (refine Fz.kmp ?_; (focus (show Pos.nat _ < Pos.nat _; simp [Pos.nat]; done))) | (refine Fz.pu ?_; simp [Cell.d, Pu, aO, cZ, aC, aE, aG]; done) | (refine Fz.pu ?_; simp only [Cell.d]; assumption)))
      all_goals (refine Fz.pu ?_; simp [Pu, h1, h2, aE])
  · repeat' first | ((first | refine Qz ?_) <;> conv => whnf)
    exact Fin.b rfl (by rw [gF (by omega) ha])
theorem WIx.intsE {l : List Int} {n : Int} {j : Nat} {F : List D → Prop} (hn : n = (j : Int)) (h : j < l.length) (k : F [D.i .i64 (l.getD j 0)]) : WIx (Go.Ev.ints l) n F := by
  subst hn; exact WIx.intsN h k
theorem lR {w : List Int} : wS w = true ↔ ∀ i, i < w.length → 1 ≤ i → w.getD (i - 1) 0 < w.getD i 0 := by unfold wS; rw [decide_eq_true_iff]
theorem EM {w : List Int} {i : Nat} (h : i < w.length) (h1 : 1 ≤ i) (k : w.getD i 0 ≤ w.getD (i - 1) 0) : wS w = false := by
  cases hb : wS w with
  | false => rfl
  | true => have := lR.1 hb i h h1; omega
theorem Dt (w : List Int) (hl : w.length ≤ 1000) : PureF Tryz.prog p127.ix [.lst 1 (ints w)] (.b (kT w)) := by
  have e1 := aP w
  have cA := xA w p146 [] [] iR trivial trivial hl (fun n _ => Aj n)
  refine PureF.run HV (by simp) (by simp [aO, cZ, Pu, aC]) ?_; conv => whnf
  repeat' first | ((first | refine Qz ?_) <;> conv => whnf)
  refine Rn.loop (fun j : Nat => ⟨(.n (.n (.n .e (some (.i .i64 ((j : Int) + 1))) .e) none .e) (some (.lst 1 (ints w))) .e), .e, .h, none⟩) (fun j => j ≤ w.length ∧ ∀ i, 1 ≤ i → i < j + 1 → i < w.length → w.getD (i - 1) 0 < w.getD i 0) (fun j => w.length - j) 0 ?_ ?_ ?_
  · (first | (refine X.le.mk ?_ ?_ (Nat.le_refl _) rfl rfl) | skip) <;> (repeat' first | exact T.le_e _ | refine T.le_some ?_ ?_ ?_ | refine T.le_none ?_ ?_ | rfl)
  · exact ⟨by omega, fun i h1 h2 => by omega⟩
  rintro j ⟨hj, ha⟩
  conv => whnf
  repeat' first | ((first | refine Qz ?_) <;> conv => whnf)
  refine WB.dec (fun h => ?_) (fun h => ?_) <;> conv => whnf
  · have hlt : j + 1 < w.length := by omega
    repeat' first | ((first | refine Qz ?_ | refine Qy ?_) <;> conv => whnf) | (refine WB.tt ?_; conv => whnf) | (refine WB.ff ?_; conv => whnf)
    refine WIx.intsE (j := j) (by omega) (by omega) ?_; conv => whnf
    repeat' first | ((first | refine Qz ?_ | refine Qy ?_) <;> conv => whnf) | (refine WB.tt ?_; conv => whnf) | (refine WB.ff ?_; conv => whnf)
    refine WB.dec (fun h2 => ?_) (fun h2 => ?_) <;> conv => whnf
    · repeat' first | ((first | refine Qz ?_) <;> conv => whnf)
      exact Fin.b rfl (by unfold kT; rw [EM (i := j + 1) hlt (by omega) h2]; rfl)
    · repeat' first | ((first | refine Qz ?_) <;> conv => whnf)
      refine Again.to (j + 1) (by omega) ⟨by omega, fun i h1 h3 h4 => ?_⟩ (Nat.le_refl _) ?_
      · by_cases e : i = j + 1
        · subst e; exact Int.not_le.1 h2
        · exact ha i h1 (by omega) h4
      · (refine Shr.of ?_ ?_ rfl rfl) <;> (repeat' first | exact Rel.e | refine Rel.some ?_ ?_ ?_ | refine Rel.none ?_ ?_) <;> (try first | (show Fz _ _ _ _; first | exact Fz.pu trivial | (refine Fz.i ?_; first | rfl | omega) | (refine Fz.kpt ?_; (focus (show Pos.nat _ < Pos.nat _; simp [Pos.nat]; done))) | (refine Fz.ksl ?_; (focus (show Pos.nat _ < Pos.nat _; simp [Pos.nat]; done))) | (refine Fz.kmp ?_; (focus (show Pos.nat _ < Pos.nat _; simp [Pos.nat]; done))) | (refine Fz.pu ?_; simp [Cell.d, Pu, aO, cZ, aC, aE, aG]; done) | (refine Fz.pu ?_; simp only [Cell.d]; assumption)) | (refine RO'.of ?_ (ShC.same ?_); (focus (show Pos.nat _ < Pos.nat _; simp [Pos.nat]; done)); (repeat' first | exact ShC.nl | refine ShC.cn ?_ ?_) <;> first | exact Fz.pu trivial | (refine Fz.i ?_; first | rfl | omega) | (refine Fz.kpt ?_; (focus (show Pos.nat _ < Pos.nat _; simp [Pos.nat]; done))) | (refine Fz.ksl ?_; (focus (show Pos.nat _ < Pos.nat _; simp [Pos.nat]; done))) | (refine Fz.kmp ?_; (focus (show Pos.nat _ < Pos.nat _; simp [Pos.nat]; done))) | (refine Fz.pu ?_; simp [Cell.d, Pu, aO, cZ, aC, aE, aG]; done) | (refine Fz.pu ?_; simp only [Cell.d]; assumption)))
        all_goals (refine Fz.pu ?_; simp [Pu, aC])
  · have hB : wS w = true := lR.2 fun i hi h1 => ha i h1 (by omega) hi
    unfold kT
    rw [hB, Bool.true_and]
    by_cases k1 : 0 < w.length
    rotate_left
    · rw [decide_eq_false k1]
      repeat' first | ((first | refine Qz ?_ | with_reducible (first | refine Qm ?_ | refine Qn ?_ | refine Qo ?_ | refine Qp ?_ | refine WB.nt ?_ | refine WB.nf ?_ | refine WB.dec (fun h => ?_) (fun h => ?_) | refine WB.ndec (fun h => ?_) (fun h => ?_)) | refine WB.mk (fun h => ?_) (fun h => ?_)) <;> conv => whnf) | (refine WB.tt ?_; conv => whnf) | (refine WB.ff ?_; conv => whnf)
      exact Fin.b rfl rfl
    rw [decide_eq_true k1]
    repeat' first | ((first | refine Qz ?_ | refine Qf (cA) ?_ | with_reducible (first | refine Qm ?_ | refine Qn ?_ | refine Qo ?_ | refine Qp ?_ | refine WB.nt ?_ | refine WB.nf ?_ | refine WB.dec (fun h => ?_) (fun h => ?_) | refine WB.ndec (fun h => ?_) (fun h => ?_)) | refine WB.mk (fun h => ?_) (fun h => ?_)) <;> conv => whnf) | (refine WB.tt ?_; conv => whnf) | (refine WB.ff ?_; conv => whnf)
    exact Fin.b rfl rfl
theorem GF (b : Bh) (p : Int × Int) (h1 : -9223372036854775807 ≤ b.rws ∧ b.rws ≤ 9223372036854775807) (h2 : -9223372036854775807 ≤ b.pls ∧ b.pls ≤ 9223372036854775807) : PureF Tryz.prog p99.ix [.ag (dR b), .ag (bC p)] (.b (dL b p)) := by
  have c1 := nA p.1 (b.rws - 1)
  have c2 := nA p.2 (b.pls - 1)
  refine PureF.run MU (by simp) (by simp [aO, Pu, aM, bC]) ?_; conv => whnf
  unfold dL
  cases k0 : iH p.1 0 (b.rws - 1) with
  | false =>
    rw [k0] at c1
    repeat' first | ((first | refine Qz ?_ | refine Qf (c1) ?_ | with_reducible (first | refine Qm ?_ | refine Qn ?_ | refine Qo ?_ | refine Qp ?_ | refine WB.nt ?_ | refine WB.nf ?_ | refine WB.dec (fun h => ?_) (fun h => ?_) | refine WB.ndec (fun h => ?_) (fun h => ?_)) | refine WB.mk (fun h => ?_) (fun h => ?_)) <;> conv => whnf) | (refine WB.tt ?_; conv => whnf) | (refine WB.ff ?_; conv => whnf)
    exact Fin.b rfl rfl
  | true =>
  rw [k0] at c1
  cases k1 : iH p.2 0 (b.pls - 1) with
  | false =>
    rw [k1] at c2
    repeat' first | ((first | refine Qz ?_ | refine Qf (c1) ?_ | refine Qf (c2) ?_ | with_reducible (first | refine Qm ?_ | refine Qn ?_ | refine Qo ?_ | refine Qp ?_ | refine WB.nt ?_ | refine WB.nf ?_ | refine WB.dec (fun h => ?_) (fun h => ?_) | refine WB.ndec (fun h => ?_) (fun h => ?_)) | refine WB.mk (fun h => ?_) (fun h => ?_)) <;> conv => whnf) | (refine WB.tt ?_; conv => whnf) | (refine WB.ff ?_; conv => whnf)
    exact Fin.b rfl rfl
  | true =>
  rw [k1] at c2
  repeat' first | ((first | refine Qz ?_ | refine Qf (c1) ?_ | refine Qf (c2) ?_ | with_reducible (first | refine Qm ?_ | refine Qn ?_ | refine Qo ?_ | refine Qp ?_ | refine WB.nt ?_ | refine WB.nf ?_ | refine WB.dec (fun h => ?_) (fun h => ?_) | refine WB.ndec (fun h => ?_) (fun h => ?_)) | refine WB.mk (fun h => ?_) (fun h => ?_)) <;> conv => whnf) | (refine WB.tt ?_; conv => whnf) | (refine WB.ff ?_; conv => whnf)
  exact Fin.b rfl rfl
theorem Cd (b : Bh) (p : Int × Int) (h1 : -9223372036854775807 ≤ b.rws ∧ b.rws ≤ 9223372036854775807) (h2 : -9223372036854775807 ≤ b.pls ∧ b.pls ≤ 9223372036854775807) : PureF Tryz.prog p44.ix [.ag (dR b), .ag (bC p)] (.b (dL b p)) := by
  have c1 := yD p.1 0 (b.rws - 1)
  have c2 := yD p.2 0 (b.pls - 1)
  refine PureF.run Mk (by simp) (by simp [aO, Pu, aM, bC]) ?_; conv => whnf
  unfold dL
  cases k0 : iH p.1 0 (b.rws - 1) with
  | false =>
    rw [k0] at c1
    repeat' first | ((first | refine Qz ?_ | refine Qf (c1) ?_ | with_reducible (first | refine Qm ?_ | refine Qn ?_ | refine Qo ?_ | refine Qp ?_ | refine WB.nt ?_ | refine WB.nf ?_ | refine WB.dec (fun h => ?_) (fun h => ?_) | refine WB.ndec (fun h => ?_) (fun h => ?_)) | refine WB.mk (fun h => ?_) (fun h => ?_)) <;> conv => whnf) | (refine WB.tt ?_; conv => whnf) | (refine WB.ff ?_; conv => whnf)
    exact Fin.b rfl rfl
  | true =>
  rw [k0] at c1
  cases k1 : iH p.2 0 (b.pls - 1) with
  | false =>
    rw [k1] at c2
    repeat' first | ((first | refine Qz ?_ | refine Qf (c1) ?_ | refine Qf (c2) ?_ | with_reducible (first | refine Qm ?_ | refine Qn ?_ | refine Qo ?_ | refine Qp ?_ | refine WB.nt ?_ | refine WB.nf ?_ | refine WB.dec (fun h => ?_) (fun h => ?_) | refine WB.ndec (fun h => ?_) (fun h => ?_)) | refine WB.mk (fun h => ?_) (fun h => ?_)) <;> conv => whnf) | (refine WB.tt ?_; conv => whnf) | (refine WB.ff ?_; conv => whnf)
    exact Fin.b rfl rfl
  | true =>
  rw [k1] at c2
  repeat' first | ((first | refine Qz ?_ | refine Qf (c1) ?_ | refine Qf (c2) ?_ | with_reducible (first | refine Qm ?_ | refine Qn ?_ | refine Qo ?_ | refine Qp ?_ | refine WB.nt ?_ | refine WB.nf ?_ | refine WB.dec (fun h => ?_) (fun h => ?_) | refine WB.ndec (fun h => ?_) (fun h => ?_)) | refine WB.mk (fun h => ?_) (fun h => ?_)) <;> conv => whnf) | (refine WB.tt ?_; conv => whnf) | (refine WB.ff ?_; conv => whnf)
  exact Fin.b rfl rfl
theorem Gm (b : Bh) (p : Int × Int) : PureF Tryz.prog p130.ix [.ag (dR b), .ag (bC p)] (.b (fS b p)) := by
  have c1 := nA p.1 b.last
  have c2 := Aj p.2
  refine PureF.run Jk (by simp) (by simp [aO, Pu, aM, bC]) ?_; conv => whnf
  unfold fS
  cases k0 : iH p.1 0 b.last with
  | false =>
    rw [k0] at c1
    repeat' first | ((first | refine Qz ?_ | refine Qf (c1) ?_ | with_reducible (first | refine Qm ?_ | refine Qn ?_ | refine Qo ?_ | refine Qp ?_ | refine WB.nt ?_ | refine WB.nf ?_ | refine WB.dec (fun h => ?_) (fun h => ?_) | refine WB.ndec (fun h => ?_) (fun h => ?_)) | refine WB.mk (fun h => ?_) (fun h => ?_)) <;> conv => whnf) | (refine WB.tt ?_; conv => whnf) | (refine WB.ff ?_; conv => whnf)
    exact Fin.b rfl rfl
  | true =>
  rw [k0] at c1
  cases k1 : iR p.2 with
  | false =>
    rw [k1] at c2
    repeat' first | ((first | refine Qz ?_ | refine Qf (c1) ?_ | refine Qf (c2) ?_ | with_reducible (first | refine Qm ?_ | refine Qn ?_ | refine Qo ?_ | refine Qp ?_ | refine WB.nt ?_ | refine WB.nf ?_ | refine WB.dec (fun h => ?_) (fun h => ?_) | refine WB.ndec (fun h => ?_) (fun h => ?_)) | refine WB.mk (fun h => ?_) (fun h => ?_)) <;> conv => whnf) | (refine WB.tt ?_; conv => whnf) | (refine WB.ff ?_; conv => whnf)
    exact Fin.b rfl rfl
  | true =>
  rw [k1] at c2
  repeat' first | ((first | refine Qz ?_ | refine Qf (c1) ?_ | refine Qf (c2) ?_ | with_reducible (first | refine Qm ?_ | refine Qn ?_ | refine Qo ?_ | refine Qp ?_ | refine WB.nt ?_ | refine WB.nf ?_ | refine WB.dec (fun h => ?_) (fun h => ?_) | refine WB.ndec (fun h => ?_) (fun h => ?_)) | refine WB.mk (fun h => ?_) (fun h => ?_)) <;> conv => whnf) | (refine WB.tt ?_; conv => whnf) | (refine WB.ff ?_; conv => whnf)
  exact Fin.b rfl rfl
theorem uN (b : Bh) (l : List Int) (hl : l.length ≤ 1000) : PureF Tryz.prog p117.ix [.ag (dR b), .lst 1 (ints l)] (.b (vH b l)) := by
  have e1 := aP l
  have cA := xA l p146 [] [] iR trivial trivial hl (fun n _ => Aj n)
  refine PureF.run KF (by simp) (by simp [aO, Pu, aM, aC]) ?_; conv => whnf
  unfold vH
  by_cases k0 : (l.length : Int) = b.rws
  rotate_left
  · rw [decide_eq_false k0]
    have k0' : ¬ ((ints l).length : Int) = b.rws := by omega
    repeat' first | ((first | refine Qz ?_ | with_reducible (first | refine Qm ?_ | refine Qn ?_ | refine Qo ?_ | refine Qp ?_ | refine WB.nt ?_ | refine WB.nf ?_ | refine WB.dec (fun h => ?_) (fun h => ?_) | refine WB.ndec (fun h => ?_) (fun h => ?_)) | refine WB.mk (fun h => ?_) (fun h => ?_)) <;> conv => whnf) | (refine WB.tt ?_; conv => whnf) | (refine WB.ff ?_; conv => whnf)
    exact Fin.b rfl rfl
  rw [decide_eq_true k0]
  have k0' : ((ints l).length : Int) = b.rws := by omega
  cases k1 : l.all iR with
  | false =>
    rw [k1] at cA
    repeat' first | ((first | refine Qz ?_ | refine Qf (cA) ?_ | with_reducible (first | refine Qm ?_ | refine Qn ?_ | refine Qo ?_ | refine Qp ?_ | refine WB.nt ?_ | refine WB.nf ?_ | refine WB.dec (fun h => ?_) (fun h => ?_) | refine WB.ndec (fun h => ?_) (fun h => ?_)) | refine WB.mk (fun h => ?_) (fun h => ?_)) <;> conv => whnf) | (refine WB.tt ?_; conv => whnf) | (refine WB.ff ?_; conv => whnf)
    exact Fin.b rfl rfl
  | true =>
  rw [k1] at cA
  repeat' first | ((first | refine Qz ?_ | refine Qf (cA) ?_ | with_reducible (first | refine Qm ?_ | refine Qn ?_ | refine Qo ?_ | refine Qp ?_ | refine WB.nt ?_ | refine WB.nf ?_ | refine WB.dec (fun h => ?_) (fun h => ?_) | refine WB.ndec (fun h => ?_) (fun h => ?_)) | refine WB.mk (fun h => ?_) (fun h => ?_)) <;> conv => whnf) | (refine WB.tt ?_; conv => whnf) | (refine WB.ff ?_; conv => whnf)
  exact Fin.b rfl rfl
theorem iE (l : List Int) (a : Int) (hl : l.length ≤ 1000) : PureF Tryz.prog p89.ix [.lst 1 (ints l), .i .i64 a] (.b (l.all fun n => iH n a 3)) := by
  have e1 := aP l
  refine PureF.run Mm (by simp) (by simp [aO, cZ, Pu, aC]) ?_; conv => whnf
  repeat' first | ((first | refine Qz ?_) <;> conv => whnf)
  refine Rn.loop (fun j : Nat => ⟨(.n (.n .e (some (.i .i64 a)) (.n .e (some (.i .i64 (j : Int))) .e)) (some (.lst 1 (ints l))) .e), .e, .h, none⟩) (fun j => j ≤ l.length ∧ (l.take j).all (fun n => iH n a 3) = true) (fun j => l.length - j) 0 ?_ ?_ ?_
  · (first | (refine X.le.mk ?_ ?_ (Nat.le_refl _) rfl rfl) | skip) <;> (repeat' first | exact T.le_e _ | refine T.le_some ?_ ?_ ?_ | refine T.le_none ?_ ?_ | rfl)
  · exact ⟨by omega, by simp⟩
  rintro j ⟨hj, ha⟩
  conv => whnf
  repeat' first | ((first | refine Qz ?_) <;> conv => whnf)
  refine WB.dec (fun h => ?_) (fun h => ?_) <;> conv => whnf
  · have hlt : j < l.length := by omega
    have cI := yD (l.getD j 0) a 3
    cases hI : iH (l.getD j 0) a 3 with
    | false =>
      rw [hI] at cI
      repeat' first | ((first | refine Qz ?_ | refine Qf (cI) ?_ | refine Qy ?_) <;> conv => whnf) | (refine WB.tt ?_; conv => whnf) | (refine WB.ff ?_; conv => whnf)
      exact Fin.b rfl (fN (d := 0) hlt hI).symm
    | true =>
      rw [hI] at cI
      repeat' first | ((first | refine Qz ?_ | refine Qf (cI) ?_ | refine Qy ?_) <;> conv => whnf) | (refine WB.tt ?_; conv => whnf) | (refine WB.ff ?_; conv => whnf)
      refine Again.to (j + 1) (by omega) ⟨by omega, bO (d := 0) hlt ha hI⟩ (Nat.le_refl _) ?_
      (refine Shr.of ?_ ?_ rfl rfl) <;> (repeat' first | exact Rel.e | refine Rel.some ?_ ?_ ?_ | refine Rel.none ?_ ?_) <;> (try first | (show Fz _ _ _ _; first | exact Fz.pu trivial | (refine Fz.i ?_; first | rfl | omega) | (refine Fz.kpt ?_; (focus (show Pos.nat _ < Pos.nat _; simp [Pos.nat]; done))) | (refine Fz.ksl ?_; (focus (show Pos.nat _ < Pos.nat _; simp [Pos.nat]; done))) | (refine Fz.kmp ?_; (focus (show Pos.nat _ < Pos.nat _; simp [Pos.nat]; done))) | (refine Fz.pu ?_; simp [Cell.d, Pu, aO, cZ, aC, aE, aG]; done) | (refine Fz.pu ?_; simp only [Cell.d]; assumption)) | (refine RO'.of ?_ (ShC.same ?_); (focus (show Pos.nat _ < Pos.nat _; simp [Pos.nat]; done)); (repeat' first | exact ShC.nl | refine ShC.cn ?_ ?_) <;> first | exact Fz.pu trivial | (refine Fz.i ?_; first | rfl | omega) | (refine Fz.kpt ?_; (focus (show Pos.nat _ < Pos.nat _; simp [Pos.nat]; done))) | (refine Fz.ksl ?_; (focus (show Pos.nat _ < Pos.nat _; simp [Pos.nat]; done))) | (refine Fz.kmp ?_; (focus (show Pos.nat _ < Pos.nat _; simp [Pos.nat]; done))) | (refine Fz.pu ?_; simp [Cell.d, Pu, aO, cZ, aC, aE, aG]; done) | (refine Fz.pu ?_; simp only [Cell.d]; assumption)))
      all_goals (refine Fz.pu ?_; simp [Pu, aC])
  · repeat' first | ((first | refine Qz ?_) <;> conv => whnf)
    exact Fin.b rfl (gF (by omega) ha).symm
theorem AD (b : Bh) (l1 : b.face.length ≤ 1000) (l2 : b.sun.length ≤ 1000) (l3 : b.winds.length ≤ 1000) (l4 : b.brk.length ≤ 1000) (l5 : b.nts.length ≤ 1000) (l6 : ∀ w ∈ b.winds, w.length ≤ 1000) : PureF Tryz.prog p88.ix [.ag (dR b)] (.b (fV b)) := by
  have e1 := aP b.sun
  have e2 := aK eO b.winds
  have c1 := nA b.last 4
  have c2 := DI 1 3 b.rws
  have c3 := DI 1 5 b.pls
  have c4 := nA b.rch 4
  have c5 := uN b b.face l1
  have c6 := xA b.sun p126 [] [] tC trivial trivial l2 (fun n _ => HT n)
  have c7 := Dn b.winds p127 [] [] kT trivial trivial l3 (fun w hw => Dt w (l6 w hw))
  have c8 := fun h1 h2 => FB b.brk p99 [.ag (dR b)] [] (dL b) (by simp [aO, Pu, aM]) trivial l4 (fun p _ => GF b p h1 h2)
  have c9 := Bz b.nts p130 [.ag (dR b)] [] (fS b) (by simp [aO, Pu, aM]) trivial l5 (fun p _ => Gm b p)
  refine PureF.run Mo (by simp) (by simp [aO, Pu, aM]) ?_; conv => whnf
  unfold fV
  cases k0 : iH b.last 0 4 with
  | false =>
    rw [k0] at c1
    repeat' first | ((first | refine Qz ?_ | refine Qf (c1) ?_ | with_reducible (first | refine Qm ?_ | refine Qn ?_ | refine Qo ?_ | refine Qp ?_ | refine WB.nt ?_ | refine WB.nf ?_ | refine WB.dec (fun h => ?_) (fun h => ?_) | refine WB.ndec (fun h => ?_) (fun h => ?_)) | refine WB.mk (fun h => ?_) (fun h => ?_)) <;> conv => whnf) | (refine WB.tt ?_; conv => whnf) | (refine WB.ff ?_; conv => whnf)
    exact Fin.b rfl rfl
  | true =>
  rw [k0] at c1
  have q0 := bI k0
  cases k1 : iH b.rws 1 3 with
  | false =>
    rw [k1] at c2
    repeat' first | ((first | refine Qz ?_ | refine Qf (c1) ?_ | refine Qf (c2) ?_ | with_reducible (first | refine Qm ?_ | refine Qn ?_ | refine Qo ?_ | refine Qp ?_ | refine WB.nt ?_ | refine WB.nf ?_ | refine WB.dec (fun h => ?_) (fun h => ?_) | refine WB.ndec (fun h => ?_) (fun h => ?_)) | refine WB.mk (fun h => ?_) (fun h => ?_)) <;> conv => whnf) | (refine WB.tt ?_; conv => whnf) | (refine WB.ff ?_; conv => whnf)
    exact Fin.b rfl rfl
  | true =>
  rw [k1] at c2
  have q1 := bI k1
  cases k2 : iH b.pls 1 5 with
  | false =>
    rw [k2] at c3
    repeat' first | ((first | refine Qz ?_ | refine Qf (c1) ?_ | refine Qf (c2) ?_ | refine Qf (c3) ?_ | with_reducible (first | refine Qm ?_ | refine Qn ?_ | refine Qo ?_ | refine Qp ?_ | refine WB.nt ?_ | refine WB.nf ?_ | refine WB.dec (fun h => ?_) (fun h => ?_) | refine WB.ndec (fun h => ?_) (fun h => ?_)) | refine WB.mk (fun h => ?_) (fun h => ?_)) <;> conv => whnf) | (refine WB.tt ?_; conv => whnf) | (refine WB.ff ?_; conv => whnf)
    exact Fin.b rfl rfl
  | true =>
  rw [k2] at c3
  have q2 := bI k2
  have c8 := c8 ⟨by omega, by omega⟩ ⟨by omega, by omega⟩
  cases k3 : iH b.rch 0 4 with
  | false =>
    rw [k3] at c4
    repeat' first | ((first | refine Qz ?_ | refine Qf (c1) ?_ | refine Qf (c2) ?_ | refine Qf (c3) ?_ | refine Qf (c4) ?_ | with_reducible (first | refine Qm ?_ | refine Qn ?_ | refine Qo ?_ | refine Qp ?_ | refine WB.nt ?_ | refine WB.nf ?_ | refine WB.dec (fun h => ?_) (fun h => ?_) | refine WB.ndec (fun h => ?_) (fun h => ?_)) | refine WB.mk (fun h => ?_) (fun h => ?_)) <;> conv => whnf) | (refine WB.tt ?_; conv => whnf) | (refine WB.ff ?_; conv => whnf)
    exact Fin.b rfl rfl
  | true =>
  rw [k3] at c4
  cases k4 : vH b b.face with
  | false =>
    rw [k4] at c5
    repeat' first | ((first | refine Qz ?_ | refine Qf (c1) ?_ | refine Qf (c2) ?_ | refine Qf (c3) ?_ | refine Qf (c4) ?_ | refine Qf (c5) ?_ | with_reducible (first | refine Qm ?_ | refine Qn ?_ | refine Qo ?_ | refine Qp ?_ | refine WB.nt ?_ | refine WB.nf ?_ | refine WB.dec (fun h => ?_) (fun h => ?_) | refine WB.ndec (fun h => ?_) (fun h => ?_)) | refine WB.mk (fun h => ?_) (fun h => ?_)) <;> conv => whnf) | (refine WB.tt ?_; conv => whnf) | (refine WB.ff ?_; conv => whnf)
    exact Fin.b rfl rfl
  | true =>
  rw [k4] at c5
  by_cases k5 : (b.sun.length : Int) = b.last + 1
  rotate_left
  · rw [decide_eq_false k5]
    have k5' : ¬ ((ints b.sun).length : Int) = b.last + 1 := by omega
    repeat' first | ((first | refine Qz ?_ | refine Qf (c1) ?_ | refine Qf (c2) ?_ | refine Qf (c3) ?_ | refine Qf (c4) ?_ | refine Qf (c5) ?_ | with_reducible (first | refine Qm ?_ | refine Qn ?_ | refine Qo ?_ | refine Qp ?_ | refine WB.nt ?_ | refine WB.nf ?_ | refine WB.dec (fun h => ?_) (fun h => ?_) | refine WB.ndec (fun h => ?_) (fun h => ?_)) | refine WB.mk (fun h => ?_) (fun h => ?_)) <;> conv => whnf) | (refine WB.tt ?_; conv => whnf) | (refine WB.ff ?_; conv => whnf)
    exact Fin.b rfl rfl
  rw [decide_eq_true k5]
  have k5' : ((ints b.sun).length : Int) = b.last + 1 := by omega
  cases k6 : b.sun.all tC with
  | false =>
    rw [k6] at c6
    repeat' first | ((first | refine Qz ?_ | refine Qf (c1) ?_ | refine Qf (c2) ?_ | refine Qf (c3) ?_ | refine Qf (c4) ?_ | refine Qf (c5) ?_ | refine Qf (c6) ?_ | with_reducible (first | refine Qm ?_ | refine Qn ?_ | refine Qo ?_ | refine Qp ?_ | refine WB.nt ?_ | refine WB.nf ?_ | refine WB.dec (fun h => ?_) (fun h => ?_) | refine WB.ndec (fun h => ?_) (fun h => ?_)) | refine WB.mk (fun h => ?_) (fun h => ?_)) <;> conv => whnf) | (refine WB.tt ?_; conv => whnf) | (refine WB.ff ?_; conv => whnf)
    exact Fin.b rfl rfl
  | true =>
  rw [k6] at c6
  by_cases k7 : (b.winds.length : Int) = b.last + 1
  rotate_left
  · rw [decide_eq_false k7]
    have k7' : ¬ ((aD eO b.winds).length : Int) = b.last + 1 := by omega
    repeat' first | ((first | refine Qz ?_ | refine Qf (c1) ?_ | refine Qf (c2) ?_ | refine Qf (c3) ?_ | refine Qf (c4) ?_ | refine Qf (c5) ?_ | refine Qf (c6) ?_ | with_reducible (first | refine Qm ?_ | refine Qn ?_ | refine Qo ?_ | refine Qp ?_ | refine WB.nt ?_ | refine WB.nf ?_ | refine WB.dec (fun h => ?_) (fun h => ?_) | refine WB.ndec (fun h => ?_) (fun h => ?_)) | refine WB.mk (fun h => ?_) (fun h => ?_)) <;> conv => whnf) | (refine WB.tt ?_; conv => whnf) | (refine WB.ff ?_; conv => whnf)
    exact Fin.b rfl rfl
  rw [decide_eq_true k7]
  have k7' : ((aD eO b.winds).length : Int) = b.last + 1 := by omega
  cases k8 : b.winds.all kT with
  | false =>
    rw [k8] at c7
    repeat' first | ((first | refine Qz ?_ | refine Qf (c1) ?_ | refine Qf (c2) ?_ | refine Qf (c3) ?_ | refine Qf (c4) ?_ | refine Qf (c5) ?_ | refine Qf (c6) ?_ | refine Qf (c7) ?_ | with_reducible (first | refine Qm ?_ | refine Qn ?_ | refine Qo ?_ | refine Qp ?_ | refine WB.nt ?_ | refine WB.nf ?_ | refine WB.dec (fun h => ?_) (fun h => ?_) | refine WB.ndec (fun h => ?_) (fun h => ?_)) | refine WB.mk (fun h => ?_) (fun h => ?_)) <;> conv => whnf) | (refine WB.tt ?_; conv => whnf) | (refine WB.ff ?_; conv => whnf)
    exact Fin.b rfl rfl
  | true =>
  rw [k8] at c7
  cases k9 : b.brk.all (dL b) with
  | false =>
    rw [k9] at c8
    repeat' first | ((first | refine Qz ?_ | refine Qf (c1) ?_ | refine Qf (c2) ?_ | refine Qf (c3) ?_ | refine Qf (c4) ?_ | refine Qf (c5) ?_ | refine Qf (c6) ?_ | refine Qf (c7) ?_ | refine Qf (c8) ?_ | with_reducible (first | refine Qm ?_ | refine Qn ?_ | refine Qo ?_ | refine Qp ?_ | refine WB.nt ?_ | refine WB.nf ?_ | refine WB.dec (fun h => ?_) (fun h => ?_) | refine WB.ndec (fun h => ?_) (fun h => ?_)) | refine WB.mk (fun h => ?_) (fun h => ?_)) <;> conv => whnf) | (refine WB.tt ?_; conv => whnf) | (refine WB.ff ?_; conv => whnf)
    exact Fin.b rfl rfl
  | true =>
  rw [k9] at c8
  cases k10 : b.nts.all (fS b) with
  | false =>
    rw [k10] at c9
    repeat' first | ((first | refine Qz ?_ | refine Qf (c1) ?_ | refine Qf (c2) ?_ | refine Qf (c3) ?_ | refine Qf (c4) ?_ | refine Qf (c5) ?_ | refine Qf (c6) ?_ | refine Qf (c7) ?_ | refine Qf (c8) ?_ | refine Qf (c9) ?_ | with_reducible (first | refine Qm ?_ | refine Qn ?_ | refine Qo ?_ | refine Qp ?_ | refine WB.nt ?_ | refine WB.nf ?_ | refine WB.dec (fun h => ?_) (fun h => ?_) | refine WB.ndec (fun h => ?_) (fun h => ?_)) | refine WB.mk (fun h => ?_) (fun h => ?_)) <;> conv => whnf) | (refine WB.tt ?_; conv => whnf) | (refine WB.ff ?_; conv => whnf)
    exact Fin.b rfl rfl
  | true =>
  rw [k10] at c9
  repeat' first | ((first | refine Qz ?_ | refine Qf (c1) ?_ | refine Qf (c2) ?_ | refine Qf (c3) ?_ | refine Qf (c4) ?_ | refine Qf (c5) ?_ | refine Qf (c6) ?_ | refine Qf (c7) ?_ | refine Qf (c8) ?_ | refine Qf (c9) ?_ | with_reducible (first | refine Qm ?_ | refine Qn ?_ | refine Qo ?_ | refine Qp ?_ | refine WB.nt ?_ | refine WB.nf ?_ | refine WB.dec (fun h => ?_) (fun h => ?_) | refine WB.ndec (fun h => ?_) (fun h => ?_)) | refine WB.mk (fun h => ?_) (fun h => ?_)) <;> conv => whnf) | (refine WB.tt ?_; conv => whnf) | (refine WB.ff ?_; conv => whnf)
  exact Fin.b rfl rfl
theorem fW {b : Bh} : AH b = true ↔ 4 < b.last ∨ 3 < b.rws ∨ 5 < b.pls ∨ 4 < b.brk.length ∨ 5 < b.nts.length := by unfold AH; rw [decide_eq_true_iff]
theorem zE (b : Bh) (l1 : b.face.length ≤ 1000) (l2 : b.sun.length ≤ 1000) (l3 : b.winds.length ≤ 1000) (l6 : ∀ w ∈ b.winds, w.length ≤ 1000) : PureF Tryz.prog p29.ix [.ag (dR b)] (.i .i64 (aR b)) := by
  have e1 := aK bC b.brk
  have e2 := aK bC b.nts
  refine PureF.run Ne (by simp) (by simp [aO, Pu, aM]) ?_; conv => whnf
  by_cases hB : 4 < b.last ∨ 3 < b.rws ∨ 5 < b.pls ∨ 4 < b.brk.length ∨ 5 < b.nts.length
  · have hf : aR b = 3 := by unfold aR; rw [if_pos (fW.2 hB)]
    rw [hf]
    repeat' first | ((first | refine Qz ?_ | with_reducible refine WB.dec (fun h => ?_) (fun h => ?_) | with_reducible refine WB.ndec (fun h => ?_) (fun h => ?_) | refine WB.mk (fun h => ?_) (fun h => ?_)) <;> conv => whnf)
    all_goals first | exact Fin.i rfl rfl | (exfalso; omega)
  · have hv := AD b l1 l2 l3 (by omega) (by omega) l6
    have hf : aR b = if fV b = true then 0 else 1 := by unfold aR; rw [if_neg fun h => hB (fW.1 h)]
    rw [hf]
    cases k : fV b with
    | true =>
      rw [k] at hv
      repeat' first | ((first | refine Qz ?_ | refine Qf (hv) ?_ | with_reducible (first | refine Qm ?_ | refine Qn ?_ | refine Qo ?_ | refine Qp ?_ | refine WB.nt ?_ | refine WB.nf ?_ | refine WB.dec (fun h => ?_) (fun h => ?_) | refine WB.ndec (fun h => ?_) (fun h => ?_)) | refine WB.mk (fun h => ?_) (fun h => ?_)) <;> conv => whnf) | (refine WB.tt ?_; conv => whnf) | (refine WB.ff ?_; conv => whnf)
      exact Fin.i rfl rfl
    | false =>
      rw [k] at hv
      repeat' first | ((first | refine Qz ?_ | refine Qf (hv) ?_ | with_reducible (first | refine Qm ?_ | refine Qn ?_ | refine Qo ?_ | refine Qp ?_ | refine WB.nt ?_ | refine WB.nf ?_ | refine WB.dec (fun h => ?_) (fun h => ?_) | refine WB.ndec (fun h => ?_) (fun h => ?_)) | refine WB.mk (fun h => ?_) (fun h => ?_)) <;> conv => whnf) | (refine WB.tt ?_; conv => whnf) | (refine WB.ff ?_; conv => whnf)
      exact Fin.i rfl rfl
end Go.Ev
end
