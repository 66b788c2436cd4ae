import Derived.Test.YtkbgaadfednjpaaGreatDoorEvU4a
import Derived.Test.YtkbgaadfednjpaaGreatDoorEvU4b
set_option linter.all false
set_option maxHeartbeats 8000000
noncomputable section
namespace Go.Ev
open Go.Proofs
set_option maxRecDepth 100000
theorem EM (lo hi n : Int) : PureF Tryz.prog p124.ix [.ag [.i .i64 lo, .i .i64 hi], .i .i64 n] (.b (jA n lo hi)) := by
  refine PureF.run JQ (by simp) (by simp [aN, cG, Pu]) ?_; conv => whnf
  repeat' first | ((first | refine Qz ?_ | with_reducible refine WB.dec (fun h => ?_) (fun h => ?_) | with_reducible refine WB.ndec (fun h => ?_) (fun h => ?_) | refine WB.mk (fun h => ?_) (fun h => ?_)) <;> conv => whnf)
  all_goals
    refine Fin.b rfl ?_
    unfold jA
    first
      | exact (decide_eq_false (by omega)).symm
      | (congr 1; apply propext; constructor <;> intro hh <;> omega)
theorem BL (n a b : Int) : PureF Tryz.prog p45.ix [.i .i64 n, .i .i64 a, .i .i64 b] (.b (jA n a b)) := by
  refine PureF.run Nx (by simp) (by simp [aN, cG, Pu]) ?_; conv => whnf
  repeat' first | ((first | refine Qz ?_ | with_reducible refine WB.dec (fun h => ?_) (fun h => ?_) | with_reducible refine WB.ndec (fun h => ?_) (fun h => ?_) | refine WB.mk (fun h => ?_) (fun h => ?_)) <;> conv => whnf)
  all_goals
    refine Fin.b rfl ?_
    unfold jA
    first
      | exact (decide_eq_false (by omega)).symm
      | (congr 1; apply propext; constructor <;> intro hh <;> omega)
theorem nQ (n m : Int) : PureF Tryz.prog p100.ix [.i .i64 n, .i .i64 m] (.b (jA n 0 m)) := by
  refine PureF.run MU (by simp) (by simp [aN, cG, Pu]) ?_; conv => whnf
  repeat' first | ((first | refine Qz ?_ | refine Qf (EM _ _ _) ?_) <;> conv => whnf)
  exact Fin.b rfl rfl
theorem AN (n : Int) : PureF Tryz.prog p146.ix [.i .i64 n] (.b (jD n)) := by
  refine PureF.run KM (by simp) (by simp [aN, cG, Pu]) ?_; conv => whnf
  repeat' first | ((first | refine Qz ?_ | refine Qf (nQ _ _) ?_) <;> conv => whnf)
  exact Fin.b rfl rfl
theorem sB (n : Int) : uP n = true ↔ n = -1 ∨ jD n = true := by
  unfold uP jD jA
  rw [decide_eq_true_iff, decide_eq_true_iff]; omega
theorem Jm (n : Int) : PureF Tryz.prog p126.ix [.i .i64 n] (.b (uP n)) := by
  refine PureF.run Md (by simp) (by simp [aN, cG, Pu]) ?_; conv => whnf
  repeat' first | ((first | refine Qz ?_ | refine Qf (AN _) ?_ | with_reducible refine WB.dec (fun h => ?_) (fun h => ?_) | with_reducible refine WB.ndec (fun h => ?_) (fun h => ?_) | refine WB.mk (fun h => ?_) (fun h => ?_)) <;> conv => whnf)
  · exact Fin.b rfl ((sB n).2 (.inl (by omega))).symm
  · exact Fin.b rfl (by cases hd : jD n with
      | true => exact ((sB n).2 (.inr hd)).symm
      | false =>
        cases hs : uP n with
        | false => rfl
        | true => rcases (sB n).1 hs with e | e
                  · exact absurd e (by omega)
                  · rw [hd] at e; cases e)
theorem yK (l : List Int) (f : Pos) (first caps : List D) (p : Int → Bool) (h1 : aN first) (h2 : aN caps) (hl : l.length ≤ 1000) (hf : ∀ c ∈ l, PureF Tryz.prog f.ix (first ++ ([.i .i64 c] ++ caps)) (.b (p c))) : PureF Tryz.prog p125.ix [.lst 1 (ints l), .fn f first caps] (.b (l.all p)) := by
  have e1 : (ints l).length = l.length := by simp [aO, ints]
  refine PureF.run LZ (by simp) (by simp [aN, cG, Pu, aC, h1, h2]) ?_; conv => whnf
  repeat' first | ((first | refine Qz ?_) <;> conv => whnf)
  refine Rn.loop (fun j : Nat => ⟨(.n (.n (.n (.n .e (some (.lst 1 (ints l))) .e) none .e) (some (.fn f first caps)) (.n (.n .e (some (.i .i64 (j : Int))) .e) none .e)) none (.n (.n (.n .e (some (.i .i64 ((ints l).length : Int))) .e) none .e) none .e)), .e, .h, none⟩) (fun j => j ≤ l.length ∧ (l.take j).all p = true) (fun j => l.length - j) 0 ?_ ?_ ?_
  · (first | (refine X.le.mk ?_ ?_ (Nat.le_refl _) rfl rfl) | skip) <;> (repeat' first | exact T.le_e _ | refine T.le_some ?_ ?_ ?_ | refine T.le_none ?_ ?_ | rfl)
  · exact ⟨by omega, by simp⟩
  rintro j ⟨hj, ha⟩
  conv => whnf
  repeat' first | ((first | refine Qz ?_) <;> conv => whnf)
  refine WB.dec (fun h => ?_) (fun h => ?_) <;> conv => whnf
  · have hlt : j < l.length := by omega
    repeat' first | ((first | refine Qz ?_ | refine Qf (hf _ (bA hlt)) ?_) <;> conv => whnf)
    refine WB.mk (fun h => ?_) (fun h => ?_) <;> conv => whnf
    · repeat' first | ((first | refine Qz ?_) <;> conv => whnf)
      exact Fin.b rfl (by rw [fS (d := 0) hlt (by simpa using h)])
    · repeat' first | ((first | refine Qz ?_) <;> conv => whnf)
      refine Again.to (j + 1) (by omega) ⟨by omega, bP (d := 0) hlt ha (by simpa using h)⟩ (Nat.le_refl _) ?_
      (refine Shr.of ?_ ?_ rfl rfl) <;> (repeat' first | exact Rel.e | refine Rel.some ?_ ?_ ?_ | refine Rel.none ?_ ?_) <;> (try first | (show Fz _ _ _ _; first | exact Fz.pu trivial | (refine Fz.i ?_; first | rfl | omega) | (refine Fz.kpt ?_; (focus (show Pos.nat _ < Pos.nat _; simp [Pos.nat]; done))) | (refine Fz.ksl ?_; (focus (show Pos.nat _ < Pos.nat _; simp [Pos.nat]; done))) | (refine Fz.kmp ?_; (focus (show Pos.nat _ < Pos.nat _; simp [Pos.nat]; done))) | (refine Fz.pu ?_; simp [Cell.d, Pu, aN, cG, aC, aF, aG]; done) | (refine Fz.pu ?_; simp only [Cell.d]; assumption)) | (refine RO'.of ?_ (ShC.same ?_); (focus (show Pos.nat _ < Pos.nat _; simp [Pos.nat]; done)); (repeat' first | exact ShC.nl | refine ShC.cn ?_ ?_) <;> first | exact Fz.pu trivial | (refine Fz.i ?_; first | rfl | omega) | (refine Fz.kpt ?_; (focus (show Pos.nat _ < Pos.nat _; simp [Pos.nat]; done))) | (refine Fz.ksl ?_; (focus (show Pos.nat _ < Pos.nat _; simp [Pos.nat]; done))) | (refine Fz.kmp ?_; (focus (show Pos.nat _ < Pos.nat _; simp [Pos.nat]; done))) | (refine Fz.pu ?_; simp [Cell.d, Pu, aN, cG, aC, aF, aG]; done) | (refine Fz.pu ?_; simp only [Cell.d]; assumption)))
      all_goals (refine Fz.pu ?_; simp [Pu, h1, h2, aC])
  · repeat' first | ((first | refine Qz ?_) <;> conv => whnf)
    exact Fin.b rfl (by rw [gC (by omega) ha])
theorem Ii (l : List (List Int)) (f : Pos) (first caps : List D) (p : (List Int) → Bool) (h1 : aN first) (h2 : aN caps) (hl : l.length ≤ 1000) (hf : ∀ c ∈ l, PureF Tryz.prog f.ix (first ++ ([.lst 1 (ints c)] ++ caps)) (.b (p c))) : PureF Tryz.prog p116.ix [.lst 1 (aO iP l), .fn f first caps] (.b (l.all p)) := by
  have e1 : (aO iP l).length = l.length := by simp [aO, ints]
  refine PureF.run KZ (by simp) (by simp [aN, cG, Pu, aC, aG, h1, h2]) ?_; conv => whnf
  repeat' first | ((first | refine Qz ?_) <;> conv => whnf)
  refine Rn.loop (fun j : Nat => ⟨(.n (.n (.n (.n .e (some (.lst 1 (aO iP l))) .e) none .e) (some (.fn f first caps)) (.n (.n .e (some (.i .i64 (j : Int))) .e) none .e)) none (.n (.n (.n .e (some (.i .i64 ((aO iP l).length : Int))) .e) none .e) none .e)), .e, .h, none⟩) (fun j => j ≤ l.length ∧ (l.take j).all p = true) (fun j => l.length - j) 0 ?_ ?_ ?_
  · (first | (refine X.le.mk ?_ ?_ (Nat.le_refl _) rfl rfl) | skip) <;> (repeat' first | exact T.le_e _ | refine T.le_some ?_ ?_ ?_ | refine T.le_none ?_ ?_ | rfl)
  · exact ⟨by omega, by simp⟩
  rintro j ⟨hj, ha⟩
  conv => whnf
  repeat' first | ((first | refine Qz ?_) <;> conv => whnf)
  refine WB.dec (fun h => ?_) (fun h => ?_) <;> conv => whnf
  · have hlt : j < l.length := by omega
    repeat' first | ((first | refine Qz ?_ | refine Qf (hf _ (bA hlt)) ?_) <;> conv => whnf)
    refine WB.mk (fun h => ?_) (fun h => ?_) <;> conv => whnf
    · repeat' first | ((first | refine Qz ?_) <;> conv => whnf)
      exact Fin.b rfl (by rw [fS (d := default) hlt (by simpa using h)])
    · repeat' first | ((first | refine Qz ?_) <;> conv => whnf)
      refine Again.to (j + 1) (by omega) ⟨by omega, bP (d := default) hlt ha (by simpa using h)⟩ (Nat.le_refl _) ?_
      (refine Shr.of ?_ ?_ rfl rfl) <;> (repeat' first | exact Rel.e | refine Rel.some ?_ ?_ ?_ | refine Rel.none ?_ ?_) <;> (try first | (show Fz _ _ _ _; first | exact Fz.pu trivial | (refine Fz.i ?_; first | rfl | omega) | (refine Fz.kpt ?_; (focus (show Pos.nat _ < Pos.nat _; simp [Pos.nat]; done))) | (refine Fz.ksl ?_; (focus (show Pos.nat _ < Pos.nat _; simp [Pos.nat]; done))) | (refine Fz.kmp ?_; (focus (show Pos.nat _ < Pos.nat _; simp [Pos.nat]; done))) | (refine Fz.pu ?_; simp [Cell.d, Pu, aN, cG, aC, aF, aG]; done) | (refine Fz.pu ?_; simp only [Cell.d]; assumption)) | (refine RO'.of ?_ (ShC.same ?_); (focus (show Pos.nat _ < Pos.nat _; simp [Pos.nat]; done)); (repeat' first | exact ShC.nl | refine ShC.cn ?_ ?_) <;> first | exact Fz.pu trivial | (refine Fz.i ?_; first | rfl | omega) | (refine Fz.kpt ?_; (focus (show Pos.nat _ < Pos.nat _; simp [Pos.nat]; done))) | (refine Fz.ksl ?_; (focus (show Pos.nat _ < Pos.nat _; simp [Pos.nat]; done))) | (refine Fz.kmp ?_; (focus (show Pos.nat _ < Pos.nat _; simp [Pos.nat]; done))) | (refine Fz.pu ?_; simp [Cell.d, Pu, aN, cG, aC, aF, aG]; done) | (refine Fz.pu ?_; simp only [Cell.d]; assumption)))
      all_goals (refine Fz.pu ?_; simp [Pu, h1, h2, aC, aG])
  · repeat' first | ((first | refine Qz ?_) <;> conv => whnf)
    exact Fin.b rfl (by rw [gC (by omega) ha])
theorem GV (l : List (Int × Int)) (f : Pos) (first caps : List D) (p : (Int × Int) → Bool) (h1 : aN first) (h2 : aN caps) (hl : l.length ≤ 1000) (hf : ∀ c ∈ l, PureF Tryz.prog f.ix (first ++ ([.ag (cX c)] ++ caps)) (.b (p c))) : PureF Tryz.prog p128.ix [.lst 2 (aO cX l), .fn f first caps] (.b (l.all p)) := by
  have e1 : (aO cX l).length = l.length := by simp [aO, ints]
  refine PureF.run Jz (by simp) (by simp [aN, cG, Pu, aF, h1, h2]) ?_; conv => whnf
  repeat' first | ((first | refine Qz ?_) <;> conv => whnf)
  refine Rn.loop (fun j : Nat => ⟨(.n (.n (.n (.n .e (some (.lst 2 (aO cX l))) .e) none .e) (some (.fn f first caps)) (.n (.n .e (some (.i .i64 (j : Int))) .e) none .e)) none (.n (.n (.n .e (some (.i .i64 ((aO cX l).length : Int))) .e) none .e) none .e)), .e, .h, none⟩) (fun j => j ≤ l.length ∧ (l.take j).all p = true) (fun j => l.length - j) 0 ?_ ?_ ?_
  · (first | (refine X.le.mk ?_ ?_ (Nat.le_refl _) rfl rfl) | skip) <;> (repeat' first | exact T.le_e _ | refine T.le_some ?_ ?_ ?_ | refine T.le_none ?_ ?_ | rfl)
  · exact ⟨by omega, by simp⟩
  rintro j ⟨hj, ha⟩
  conv => whnf
  repeat' first | ((first | refine Qz ?_) <;> conv => whnf)
  refine WB.dec (fun h => ?_) (fun h => ?_) <;> conv => whnf
  · have hlt : j < l.length := by omega
    repeat' first | ((first | refine Qz ?_ | refine Qf (hf _ (bA hlt)) ?_) <;> conv => whnf)
    refine WB.mk (fun h => ?_) (fun h => ?_) <;> conv => whnf
    · repeat' first | ((first | refine Qz ?_) <;> conv => whnf)
      exact Fin.b rfl (by rw [fS (d := default) hlt (by simpa using h)])
    · repeat' first | ((first | refine Qz ?_) <;> conv => whnf)
      refine Again.to (j + 1) (by omega) ⟨by omega, bP (d := default) hlt ha (by simpa using h)⟩ (Nat.le_refl _) ?_
      (refine Shr.of ?_ ?_ rfl rfl) <;> (repeat' first | exact Rel.e | refine Rel.some ?_ ?_ ?_ | refine Rel.none ?_ ?_) <;> (try first | (show Fz _ _ _ _; first | exact Fz.pu trivial | (refine Fz.i ?_; first | rfl | omega) | (refine Fz.kpt ?_; (focus (show Pos.nat _ < Pos.nat _; simp [Pos.nat]; done))) | (refine Fz.ksl ?_; (focus (show Pos.nat _ < Pos.nat _; simp [Pos.nat]; done))) | (refine Fz.kmp ?_; (focus (show Pos.nat _ < Pos.nat _; simp [Pos.nat]; done))) | (refine Fz.pu ?_; simp [Cell.d, Pu, aN, cG, aC, aF, aG]; done) | (refine Fz.pu ?_; simp only [Cell.d]; assumption)) | (refine RO'.of ?_ (ShC.same ?_); (focus (show Pos.nat _ < Pos.nat _; simp [Pos.nat]; done)); (repeat' first | exact ShC.nl | refine ShC.cn ?_ ?_) <;> first | exact Fz.pu trivial | (refine Fz.i ?_; first | rfl | omega) | (refine Fz.kpt ?_; (focus (show Pos.nat _ < Pos.nat _; simp [Pos.nat]; done))) | (refine Fz.ksl ?_; (focus (show Pos.nat _ < Pos.nat _; simp [Pos.nat]; done))) | (refine Fz.kmp ?_; (focus (show Pos.nat _ < Pos.nat _; simp [Pos.nat]; done))) | (refine Fz.pu ?_; simp [Cell.d, Pu, aN, cG, aC, aF, aG]; done) | (refine Fz.pu ?_; simp only [Cell.d]; assumption)))
      all_goals (refine Fz.pu ?_; simp [Pu, h1, h2, aF])
  · repeat' first | ((first | refine Qz ?_) <;> conv => whnf)
    exact Fin.b rfl (by rw [gC (by omega) ha])
theorem Cl (l : List (Int × Int)) (f : Pos) (first caps : List D) (p : (Int × Int) → Bool) (h1 : aN first) (h2 : aN caps) (hl : l.length ≤ 1000) (hf : ∀ c ∈ l, PureF Tryz.prog f.ix (first ++ ([.ag (cX c)] ++ caps)) (.b (p c))) : PureF Tryz.prog p129.ix [.lst 2 (aO cX l), .fn f first caps] (.b (l.all p)) := by
  have e1 : (aO cX l).length = l.length := by simp [aO, ints]
  refine PureF.run Jy (by simp) (by simp [aN, cG, Pu, aF, h1, h2]) ?_; conv => whnf
  repeat' first | ((first | refine Qz ?_) <;> conv => whnf)
  refine Rn.loop (fun j : Nat => ⟨(.n (.n (.n (.n .e (some (.lst 2 (aO cX l))) .e) none .e) (some (.fn f first caps)) (.n (.n .e (some (.i .i64 (j : Int))) .e) none .e)) none (.n (.n (.n .e (some (.i .i64 ((aO cX l).length : Int))) .e) none .e) none .e)), .e, .h, none⟩) (fun j => j ≤ l.length ∧ (l.take j).all p = true) (fun j => l.length - j) 0 ?_ ?_ ?_
  · (first | (refine X.le.mk ?_ ?_ (Nat.le_refl _) rfl rfl) | skip) <;> (repeat' first | exact T.le_e _ | refine T.le_some ?_ ?_ ?_ | refine T.le_none ?_ ?_ | rfl)
  · exact ⟨by omega, by simp⟩
  rintro j ⟨hj, ha⟩
  conv => whnf
  repeat' first | ((first | refine Qz ?_) <;> conv => whnf)
  refine WB.dec (fun h => ?_) (fun h => ?_) <;> conv => whnf
  · have hlt : j < l.length := by omega
    repeat' first | ((first | refine Qz ?_ | refine Qf (hf _ (bA hlt)) ?_) <;> conv => whnf)
    refine WB.mk (fun h => ?_) (fun h => ?_) <;> conv => whnf
    · repeat' first | ((first | refine Qz ?_) <;> conv => whnf)
      exact Fin.b rfl (by rw [fS (d := default) hlt (by simpa using h)])
    · repeat' first | ((first | refine Qz ?_) <;> conv => whnf)
      refine Again.to (j + 1) (by omega) ⟨by omega, bP (d := default) hlt ha (by simpa using h)⟩ (Nat.le_refl _) ?_
      (refine Shr.of ?_ ?_ rfl rfl) <;> (repeat' first | exact Rel.e | refine Rel.some ?_ ?_ ?_ | refine Rel.none ?_ ?_) <;> (try first | (show Fz _ _ _ _; first | exact Fz.pu trivial | (refine Fz.i ?_; first | rfl | omega) | (refine Fz.kpt ?_; (focus (show Pos.nat _ < Pos.nat _; simp [Pos.nat]; done))) | (refine Fz.ksl ?_; (focus (show Pos.nat _ < Pos.nat _; simp [Pos.nat]; done))) | (refine Fz.kmp ?_; (focus (show Pos.nat _ < Pos.nat _; simp [Pos.nat]; done))) | (refine Fz.pu ?_; simp [Cell.d, Pu, aN, cG, aC, aF, aG]; done) | (refine Fz.pu ?_; simp only [Cell.d]; assumption)) | (refine RO'.of ?_ (ShC.same ?_); (focus (show Pos.nat _ < Pos.nat _; simp [Pos.nat]; done)); (repeat' first | exact ShC.nl | refine ShC.cn ?_ ?_) <;> first | exact Fz.pu trivial | (refine Fz.i ?_; first | rfl | omega) | (refine Fz.kpt ?_; (focus (show Pos.nat _ < Pos.nat _; simp [Pos.nat]; done))) | (refine Fz.ksl ?_; (focus (show Pos.nat _ < Pos.nat _; simp [Pos.nat]; done))) | (refine Fz.kmp ?_; (focus (show Pos.nat _ < Pos.nat _; simp [Pos.nat]; done))) | (refine Fz.pu ?_; simp [Cell.d, Pu, aN, cG, aC, aF, aG]; done) | (refine Fz.pu ?_; simp only [Cell.d]; assumption)))
      all_goals (refine Fz.pu ?_; simp [Pu, h1, h2, aF])
  · repeat' first | ((first | refine Qz ?_) <;> conv => whnf)
    exact Fin.b rfl (by rw [gC (by omega) ha])
theorem WIx.intsE {l : List Int} {n : Int} {j : Nat} {F : List D → Prop} (hn : n = (j : Int)) (h : j < l.length) (k : F [D.i .i64 (l.getD j 0)]) : WIx (Go.Ev.ints l) n F := by
  subst hn; exact WIx.intsN h k
theorem lY {w : List Int} : yC w = true ↔ ∀ i, i < w.length → 1 ≤ i → w.getD (i - 1) 0 < w.getD i 0 := by unfold yC; rw [decide_eq_true_iff]
theorem Gb {w : List Int} {i : Nat} (h : i < w.length) (h1 : 1 ≤ i) (k : w.getD i 0 ≤ w.getD (i - 1) 0) : yC w = false := by
  cases hb : yC w with
  | false => rfl
  | true => have := lY.1 hb i h h1; omega
theorem Eu (w : List Int) (hl : w.length ≤ 1000) : PureF Tryz.prog p127.ix [.lst 1 (ints w)] (.b (kZ w)) := by
  have e1 := aI w
  have cA := yK w p146 [] [] jD trivial trivial hl (fun n _ => AN n)
  refine PureF.run Jp (by simp) (by simp [aN, cG, Pu, aC]) ?_; conv => whnf
  repeat' first | ((first | refine Qz ?_) <;> conv => whnf)
  refine Rn.loop (fun j : Nat => ⟨(.n (.n (.n .e (some (.i .i64 ((j : Int) + 1))) .e) none .e) (some (.lst 1 (ints w))) .e), .e, .h, none⟩) (fun j => j ≤ w.length ∧ ∀ i, 1 ≤ i → i < j + 1 → i < w.length → w.getD (i - 1) 0 < w.getD i 0) (fun j => w.length - j) 0 ?_ ?_ ?_
  · (first | (refine X.le.mk ?_ ?_ (Nat.le_refl _) rfl rfl) | skip) <;> (repeat' first | exact T.le_e _ | refine T.le_some ?_ ?_ ?_ | refine T.le_none ?_ ?_ | rfl)
  · exact ⟨by omega, fun i h1 h2 => by omega⟩
  rintro j ⟨hj, ha⟩
  conv => whnf
  repeat' first | ((first | refine Qz ?_) <;> conv => whnf)
  refine WB.dec (fun h => ?_) (fun h => ?_) <;> conv => whnf
  · have hlt : j + 1 < w.length := by omega
    repeat' first | ((first | refine Qz ?_ | refine Qy ?_) <;> conv => whnf) | (refine WB.tt ?_; conv => whnf) | (refine WB.ff ?_; conv => whnf)
    refine WIx.intsE (j := j) (by omega) (by omega) ?_; conv => whnf
    repeat' first | ((first | refine Qz ?_ | refine Qy ?_) <;> conv => whnf) | (refine WB.tt ?_; conv => whnf) | (refine WB.ff ?_; conv => whnf)
    refine WB.dec (fun h2 => ?_) (fun h2 => ?_) <;> conv => whnf
    · repeat' first | ((first | refine Qz ?_) <;> conv => whnf)
      exact Fin.b rfl (by unfold kZ; rw [Gb (i := j + 1) hlt (by omega) h2]; rfl)
    · repeat' first | ((first | refine Qz ?_) <;> conv => whnf)
      refine Again.to (j + 1) (by omega) ⟨by omega, fun i h1 h3 h4 => ?_⟩ (Nat.le_refl _) ?_
      · by_cases e : i = j + 1
        · subst e; exact Int.not_le.1 h2
        · exact ha i h1 (by omega) h4
      · (refine Shr.of ?_ ?_ rfl rfl) <;> (repeat' first | exact Rel.e | refine Rel.some ?_ ?_ ?_ | refine Rel.none ?_ ?_) <;> (try first | (show Fz _ _ _ _; first | exact Fz.pu trivial | (refine Fz.i ?_; first | rfl | omega) | (refine Fz.kpt ?_; (focus (show Pos.nat _ < Pos.nat _; simp [Pos.nat]; done))) | (refine Fz.ksl ?_; (focus (show Pos.nat _ < Pos.nat _; simp [Pos.nat]; done))) | (refine Fz.kmp ?_; (focus (show Pos.nat _ < Pos.nat _; simp [Pos.nat]; done))) | (refine Fz.pu ?_; simp [Cell.d, Pu, aN, cG, aC, aF, aG]; done) | (refine Fz.pu ?_; simp only [Cell.d]; assumption)) | (refine RO'.of ?_ (ShC.same ?_); (focus (show Pos.nat _ < Pos.nat _; simp [Pos.nat]; done)); (repeat' first | exact ShC.nl | refine ShC.cn ?_ ?_) <;> first | exact Fz.pu trivial | (refine Fz.i ?_; first | rfl | omega) | (refine Fz.kpt ?_; (focus (show Pos.nat _ < Pos.nat _; simp [Pos.nat]; done))) | (refine Fz.ksl ?_; (focus (show Pos.nat _ < Pos.nat _; simp [Pos.nat]; done))) | (refine Fz.kmp ?_; (focus (show Pos.nat _ < Pos.nat _; simp [Pos.nat]; done))) | (refine Fz.pu ?_; simp [Cell.d, Pu, aN, cG, aC, aF, aG]; done) | (refine Fz.pu ?_; simp only [Cell.d]; assumption)))
        all_goals (refine Fz.pu ?_; simp [Pu, aC])
  · have hB : yC w = true := lY.2 fun i hi h1 => ha i h1 (by omega) hi
    unfold kZ
    rw [hB, Bool.true_and]
    by_cases k1 : 0 < w.length
    rotate_left
    · rw [decide_eq_false k1]
      repeat' first | ((first | refine Qz ?_ | with_reducible (first | refine Qm ?_ | refine Qn ?_ | refine Qo ?_ | refine Qp ?_ | refine WB.nt ?_ | refine WB.nf ?_ | refine WB.dec (fun h => ?_) (fun h => ?_) | refine WB.ndec (fun h => ?_) (fun h => ?_)) | refine WB.mk (fun h => ?_) (fun h => ?_)) <;> conv => whnf) | (refine WB.tt ?_; conv => whnf) | (refine WB.ff ?_; conv => whnf)
      exact Fin.b rfl rfl
    rw [decide_eq_true k1]
    repeat' first | ((first | refine Qz ?_ | refine Qf (cA) ?_ | with_reducible (first | refine Qm ?_ | refine Qn ?_ | refine Qo ?_ | refine Qp ?_ | refine WB.nt ?_ | refine WB.nf ?_ | refine WB.dec (fun h => ?_) (fun h => ?_) | refine WB.ndec (fun h => ?_) (fun h => ?_)) | refine WB.mk (fun h => ?_) (fun h => ?_)) <;> conv => whnf) | (refine WB.tt ?_; conv => whnf) | (refine WB.ff ?_; conv => whnf)
    exact Fin.b rfl rfl
theorem HU (b : Bh) (p : Int × Int) (h1 : -9223372036854775807 ≤ b.rws ∧ b.rws ≤ 9223372036854775807) (h2 : -9223372036854775807 ≤ b.pls ∧ b.pls ≤ 9223372036854775807) : PureF Tryz.prog p99.ix [.ag (eY b), .ag (cX p)] (.b (kS b p)) := by
  have c1 := nQ p.1 (b.rws - 1)
  have c2 := nQ p.2 (b.pls - 1)
  refine PureF.run NL (by simp) (by simp [aN, Pu, aM, cX]) ?_; conv => whnf
  unfold kS
  cases k0 : jA p.1 0 (b.rws - 1) with
  | false =>
    rw [k0] at c1
    repeat' first | ((first | refine Qz ?_ | refine Qf (c1) ?_ | with_reducible (first | refine Qm ?_ | refine Qn ?_ | refine Qo ?_ | refine Qp ?_ | refine WB.nt ?_ | refine WB.nf ?_ | refine WB.dec (fun h => ?_) (fun h => ?_) | refine WB.ndec (fun h => ?_) (fun h => ?_)) | refine WB.mk (fun h => ?_) (fun h => ?_)) <;> conv => whnf) | (refine WB.tt ?_; conv => whnf) | (refine WB.ff ?_; conv => whnf)
    exact Fin.b rfl rfl
  | true =>
  rw [k0] at c1
  cases k1 : jA p.2 0 (b.pls - 1) with
  | false =>
    rw [k1] at c2
    repeat' first | ((first | refine Qz ?_ | refine Qf (c1) ?_ | refine Qf (c2) ?_ | with_reducible (first | refine Qm ?_ | refine Qn ?_ | refine Qo ?_ | refine Qp ?_ | refine WB.nt ?_ | refine WB.nf ?_ | refine WB.dec (fun h => ?_) (fun h => ?_) | refine WB.ndec (fun h => ?_) (fun h => ?_)) | refine WB.mk (fun h => ?_) (fun h => ?_)) <;> conv => whnf) | (refine WB.tt ?_; conv => whnf) | (refine WB.ff ?_; conv => whnf)
    exact Fin.b rfl rfl
  | true =>
  rw [k1] at c2
  repeat' first | ((first | refine Qz ?_ | refine Qf (c1) ?_ | refine Qf (c2) ?_ | with_reducible (first | refine Qm ?_ | refine Qn ?_ | refine Qo ?_ | refine Qp ?_ | refine WB.nt ?_ | refine WB.nf ?_ | refine WB.dec (fun h => ?_) (fun h => ?_) | refine WB.ndec (fun h => ?_) (fun h => ?_)) | refine WB.mk (fun h => ?_) (fun h => ?_)) <;> conv => whnf) | (refine WB.tt ?_; conv => whnf) | (refine WB.ff ?_; conv => whnf)
  exact Fin.b rfl rfl
theorem CS (b : Bh) (p : Int × Int) (h1 : -9223372036854775807 ≤ b.rws ∧ b.rws ≤ 9223372036854775807) (h2 : -9223372036854775807 ≤ b.pls ∧ b.pls ≤ 9223372036854775807) : PureF Tryz.prog p44.ix [.ag (eY b), .ag (cX p)] (.b (kS b p)) := by
  have c1 := BL p.1 0 (b.rws - 1)
  have c2 := BL p.2 0 (b.pls - 1)
  refine PureF.run Nd (by simp) (by simp [aN, Pu, aM, cX]) ?_; conv => whnf
  unfold kS
  cases k0 : jA p.1 0 (b.rws - 1) with
  | false =>
    rw [k0] at c1
    repeat' first | ((first | refine Qz ?_ | refine Qf (c1) ?_ | with_reducible (first | refine Qm ?_ | refine Qn ?_ | refine Qo ?_ | refine Qp ?_ | refine WB.nt ?_ | refine WB.nf ?_ | refine WB.dec (fun h => ?_) (fun h => ?_) | refine WB.ndec (fun h => ?_) (fun h => ?_)) | refine WB.mk (fun h => ?_) (fun h => ?_)) <;> conv => whnf) | (refine WB.tt ?_; conv => whnf) | (refine WB.ff ?_; conv => whnf)
    exact Fin.b rfl rfl
  | true =>
  rw [k0] at c1
  cases k1 : jA p.2 0 (b.pls - 1) with
  | false =>
    rw [k1] at c2
    repeat' first | ((first | refine Qz ?_ | refine Qf (c1) ?_ | refine Qf (c2) ?_ | with_reducible (first | refine Qm ?_ | refine Qn ?_ | refine Qo ?_ | refine Qp ?_ | refine WB.nt ?_ | refine WB.nf ?_ | refine WB.dec (fun h => ?_) (fun h => ?_) | refine WB.ndec (fun h => ?_) (fun h => ?_)) | refine WB.mk (fun h => ?_) (fun h => ?_)) <;> conv => whnf) | (refine WB.tt ?_; conv => whnf) | (refine WB.ff ?_; conv => whnf)
    exact Fin.b rfl rfl
  | true =>
  rw [k1] at c2
  repeat' first | ((first | refine Qz ?_ | refine Qf (c1) ?_ | refine Qf (c2) ?_ | with_reducible (first | refine Qm ?_ | refine Qn ?_ | refine Qo ?_ | refine Qp ?_ | refine WB.nt ?_ | refine WB.nf ?_ | refine WB.dec (fun h => ?_) (fun h => ?_) | refine WB.ndec (fun h => ?_) (fun h => ?_)) | refine WB.mk (fun h => ?_) (fun h => ?_)) <;> conv => whnf) | (refine WB.tt ?_; conv => whnf) | (refine WB.ff ?_; conv => whnf)
  exact Fin.b rfl rfl
theorem HC (b : Bh) (p : Int × Int) : PureF Tryz.prog p130.ix [.ag (eY b), .ag (cX p)] (.b (fJ b p)) := by
  have c1 := nQ p.1 b.last
  have c2 := AN p.2
  refine PureF.run Kr (by simp) (by simp [aN, Pu, aM, cX]) ?_; conv => whnf
  unfold fJ
  cases k0 : jA p.1 0 b.last with
  | false =>
    rw [k0] at c1
    repeat' first | ((first | refine Qz ?_ | refine Qf (c1) ?_ | with_reducible (first | refine Qm ?_ | refine Qn ?_ | refine Qo ?_ | refine Qp ?_ | refine WB.nt ?_ | refine WB.nf ?_ | refine WB.dec (fun h => ?_) (fun h => ?_) | refine WB.ndec (fun h => ?_) (fun h => ?_)) | refine WB.mk (fun h => ?_) (fun h => ?_)) <;> conv => whnf) | (refine WB.tt ?_; conv => whnf) | (refine WB.ff ?_; conv => whnf)
    exact Fin.b rfl rfl
  | true =>
  rw [k0] at c1
  cases k1 : jD p.2 with
  | false =>
    rw [k1] at c2
    repeat' first | ((first | refine Qz ?_ | refine Qf (c1) ?_ | refine Qf (c2) ?_ | with_reducible (first | refine Qm ?_ | refine Qn ?_ | refine Qo ?_ | refine Qp ?_ | refine WB.nt ?_ | refine WB.nf ?_ | refine WB.dec (fun h => ?_) (fun h => ?_) | refine WB.ndec (fun h => ?_) (fun h => ?_)) | refine WB.mk (fun h => ?_) (fun h => ?_)) <;> conv => whnf) | (refine WB.tt ?_; conv => whnf) | (refine WB.ff ?_; conv => whnf)
    exact Fin.b rfl rfl
  | true =>
  rw [k1] at c2
  repeat' first | ((first | refine Qz ?_ | refine Qf (c1) ?_ | refine Qf (c2) ?_ | with_reducible (first | refine Qm ?_ | refine Qn ?_ | refine Qo ?_ | refine Qp ?_ | refine WB.nt ?_ | refine WB.nf ?_ | refine WB.dec (fun h => ?_) (fun h => ?_) | refine WB.ndec (fun h => ?_) (fun h => ?_)) | refine WB.mk (fun h => ?_) (fun h => ?_)) <;> conv => whnf) | (refine WB.tt ?_; conv => whnf) | (refine WB.ff ?_; conv => whnf)
  exact Fin.b rfl rfl
theorem CO (b : Bh) (l : List Int) (hl : l.length ≤ 1000) : PureF Tryz.prog p117.ix [.ag (eY b), .lst 1 (ints l)] (.b (DL b l)) := by
  have e1 := aI l
  have cA := yK l p146 [] [] jD trivial trivial hl (fun n _ => AN n)
  refine PureF.run LM (by simp) (by simp [aN, Pu, aM, aC]) ?_; conv => whnf
  unfold DL
  by_cases k0 : (l.length : Int) = b.rws
  rotate_left
  · rw [decide_eq_false k0]
    have k0' : ¬ ((ints l).length : Int) = b.rws := by omega
    repeat' first | ((first | refine Qz ?_ | with_reducible (first | refine Qm ?_ | refine Qn ?_ | refine Qo ?_ | refine Qp ?_ | refine WB.nt ?_ | refine WB.nf ?_ | refine WB.dec (fun h => ?_) (fun h => ?_) | refine WB.ndec (fun h => ?_) (fun h => ?_)) | refine WB.mk (fun h => ?_) (fun h => ?_)) <;> conv => whnf) | (refine WB.tt ?_; conv => whnf) | (refine WB.ff ?_; conv => whnf)
    exact Fin.b rfl rfl
  rw [decide_eq_true k0]
  have k0' : ((ints l).length : Int) = b.rws := by omega
  cases k1 : l.all jD with
  | false =>
    rw [k1] at cA
    repeat' first | ((first | refine Qz ?_ | refine Qf (cA) ?_ | with_reducible (first | refine Qm ?_ | refine Qn ?_ | refine Qo ?_ | refine Qp ?_ | refine WB.nt ?_ | refine WB.nf ?_ | refine WB.dec (fun h => ?_) (fun h => ?_) | refine WB.ndec (fun h => ?_) (fun h => ?_)) | refine WB.mk (fun h => ?_) (fun h => ?_)) <;> conv => whnf) | (refine WB.tt ?_; conv => whnf) | (refine WB.ff ?_; conv => whnf)
    exact Fin.b rfl rfl
  | true =>
  rw [k1] at cA
  repeat' first | ((first | refine Qz ?_ | refine Qf (cA) ?_ | with_reducible (first | refine Qm ?_ | refine Qn ?_ | refine Qo ?_ | refine Qp ?_ | refine WB.nt ?_ | refine WB.nf ?_ | refine WB.dec (fun h => ?_) (fun h => ?_) | refine WB.ndec (fun h => ?_) (fun h => ?_)) | refine WB.mk (fun h => ?_) (fun h => ?_)) <;> conv => whnf) | (refine WB.tt ?_; conv => whnf) | (refine WB.ff ?_; conv => whnf)
  exact Fin.b rfl rfl
theorem iG (l : List Int) (a : Int) (hl : l.length ≤ 1000) : PureF Tryz.prog p89.ix [.lst 1 (ints l), .i .i64 a] (.b (l.all fun n => jA n a 3)) := by
  have e1 := aI l
  refine PureF.run Ng (by simp) (by simp [aN, cG, Pu, aC]) ?_; conv => whnf
  repeat' first | ((first | refine Qz ?_) <;> conv => whnf)
  refine Rn.loop (fun j : Nat => ⟨(.n (.n .e (some (.i .i64 a)) (.n .e (some (.i .i64 (j : Int))) .e)) (some (.lst 1 (ints l))) .e), .e, .h, none⟩) (fun j => j ≤ l.length ∧ (l.take j).all (fun n => jA n a 3) = true) (fun j => l.length - j) 0 ?_ ?_ ?_
  · (first | (refine X.le.mk ?_ ?_ (Nat.le_refl _) rfl rfl) | skip) <;> (repeat' first | exact T.le_e _ | refine T.le_some ?_ ?_ ?_ | refine T.le_none ?_ ?_ | rfl)
  · exact ⟨by omega, by simp⟩
  rintro j ⟨hj, ha⟩
  conv => whnf
  repeat' first | ((first | refine Qz ?_) <;> conv => whnf)
  refine WB.dec (fun h => ?_) (fun h => ?_) <;> conv => whnf
  · have hlt : j < l.length := by omega
    have cI := BL (l.getD j 0) a 3
    cases hI : jA (l.getD j 0) a 3 with
    | false =>
      rw [hI] at cI
      repeat' first | ((first | refine Qz ?_ | refine Qf (cI) ?_ | refine Qy ?_) <;> conv => whnf) | (refine WB.tt ?_; conv => whnf) | (refine WB.ff ?_; conv => whnf)
      exact Fin.b rfl (fS (d := 0) hlt hI).symm
    | true =>
      rw [hI] at cI
      repeat' first | ((first | refine Qz ?_ | refine Qf (cI) ?_ | refine Qy ?_) <;> conv => whnf) | (refine WB.tt ?_; conv => whnf) | (refine WB.ff ?_; conv => whnf)
      refine Again.to (j + 1) (by omega) ⟨by omega, bP (d := 0) hlt ha hI⟩ (Nat.le_refl _) ?_
      (refine Shr.of ?_ ?_ rfl rfl) <;> (repeat' first | exact Rel.e | refine Rel.some ?_ ?_ ?_ | refine Rel.none ?_ ?_) <;> (try first | (show Fz _ _ _ _; first | exact Fz.pu trivial | (refine Fz.i ?_; first | rfl | omega) | (refine Fz.kpt ?_; (focus (show Pos.nat _ < Pos.nat _; simp [Pos.nat]; done))) | (refine Fz.ksl ?_; (focus (show Pos.nat _ < Pos.nat _; simp [Pos.nat]; done))) | (refine Fz.kmp ?_; (focus (show Pos.nat _ < Pos.nat _; simp [Pos.nat]; done))) | (refine Fz.pu ?_; simp [Cell.d, Pu, aN, cG, aC, aF, aG]; done) | (refine Fz.pu ?_; simp only [Cell.d]; assumption)) | (refine RO'.of ?_ (ShC.same ?_); (focus (show Pos.nat _ < Pos.nat _; simp [Pos.nat]; done)); (repeat' first | exact ShC.nl | refine ShC.cn ?_ ?_) <;> first | exact Fz.pu trivial | (refine Fz.i ?_; first | rfl | omega) | (refine Fz.kpt ?_; (focus (show Pos.nat _ < Pos.nat _; simp [Pos.nat]; done))) | (refine Fz.ksl ?_; (focus (show Pos.nat _ < Pos.nat _; simp [Pos.nat]; done))) | (refine Fz.kmp ?_; (focus (show Pos.nat _ < Pos.nat _; simp [Pos.nat]; done))) | (refine Fz.pu ?_; simp [Cell.d, Pu, aN, cG, aC, aF, aG]; done) | (refine Fz.pu ?_; simp only [Cell.d]; assumption)))
      all_goals (refine Fz.pu ?_; simp [Pu, aC])
  · repeat' first | ((first | refine Qz ?_) <;> conv => whnf)
    exact Fin.b rfl (gC (by omega) ha).symm
theorem Bn (b : Bh) (l1 : b.face.length ≤ 1000) (l2 : b.sun.length ≤ 1000) (l3 : b.winds.length ≤ 1000) (l4 : b.brk.length ≤ 1000) (l5 : b.nts.length ≤ 1000) (l6 : ∀ w ∈ b.winds, w.length ≤ 1000) : PureF Tryz.prog p88.ix [.ag (eY b)] (.b (fW b)) := by
  have e1 := aI b.sun
  have e2 := aL iP b.winds
  have c1 := nQ b.last 4
  have c2 := EM 1 3 b.rws
  have c3 := EM 1 5 b.pls
  have c4 := nQ b.rch 4
  have c5 := CO b b.face l1
  have c6 := yK b.sun p126 [] [] uP trivial trivial l2 (fun n _ => Jm n)
  have c7 := Ii b.winds p127 [] [] kZ trivial trivial l3 (fun w hw => Eu w (l6 w hw))
  have c8 := fun h1 h2 => GV b.brk p99 [.ag (eY b)] [] (kS b) (by simp [aN, Pu, aM]) trivial l4 (fun p _ => HU b p h1 h2)
  have c9 := Cl b.nts p130 [.ag (eY b)] [] (fJ b) (by simp [aN, Pu, aM]) trivial l5 (fun p _ => HC b p)
  refine PureF.run Nj (by simp) (by simp [aN, Pu, aM]) ?_; conv => whnf
  unfold fW
  cases k0 : jA b.last 0 4 with
  | false =>
    rw [k0] at c1
    repeat' first | ((first | refine Qz ?_ | refine Qf (c1) ?_ | with_reducible (first | refine Qm ?_ | refine Qn ?_ | refine Qo ?_ | refine Qp ?_ | refine WB.nt ?_ | refine WB.nf ?_ | refine WB.dec (fun h => ?_) (fun h => ?_) | refine WB.ndec (fun h => ?_) (fun h => ?_)) | refine WB.mk (fun h => ?_) (fun h => ?_)) <;> conv => whnf) | (refine WB.tt ?_; conv => whnf) | (refine WB.ff ?_; conv => whnf)
    exact Fin.b rfl rfl
  | true =>
  rw [k0] at c1
  have q0 := bW k0
  cases k1 : jA b.rws 1 3 with
  | false =>
    rw [k1] at c2
    repeat' first | ((first | refine Qz ?_ | refine Qf (c1) ?_ | refine Qf (c2) ?_ | with_reducible (first | refine Qm ?_ | refine Qn ?_ | refine Qo ?_ | refine Qp ?_ | refine WB.nt ?_ | refine WB.nf ?_ | refine WB.dec (fun h => ?_) (fun h => ?_) | refine WB.ndec (fun h => ?_) (fun h => ?_)) | refine WB.mk (fun h => ?_) (fun h => ?_)) <;> conv => whnf) | (refine WB.tt ?_; conv => whnf) | (refine WB.ff ?_; conv => whnf)
    exact Fin.b rfl rfl
  | true =>
  rw [k1] at c2
  have q1 := bW k1
  cases k2 : jA b.pls 1 5 with
  | false =>
    rw [k2] at c3
    repeat' first | ((first | refine Qz ?_ | refine Qf (c1) ?_ | refine Qf (c2) ?_ | refine Qf (c3) ?_ | with_reducible (first | refine Qm ?_ | refine Qn ?_ | refine Qo ?_ | refine Qp ?_ | refine WB.nt ?_ | refine WB.nf ?_ | refine WB.dec (fun h => ?_) (fun h => ?_) | refine WB.ndec (fun h => ?_) (fun h => ?_)) | refine WB.mk (fun h => ?_) (fun h => ?_)) <;> conv => whnf) | (refine WB.tt ?_; conv => whnf) | (refine WB.ff ?_; conv => whnf)
    exact Fin.b rfl rfl
  | true =>
  rw [k2] at c3
  have q2 := bW k2
  have c8 := c8 ⟨by omega, by omega⟩ ⟨by omega, by omega⟩
  cases k3 : jA b.rch 0 4 with
  | false =>
    rw [k3] at c4
    repeat' first | ((first | refine Qz ?_ | refine Qf (c1) ?_ | refine Qf (c2) ?_ | refine Qf (c3) ?_ | refine Qf (c4) ?_ | with_reducible (first | refine Qm ?_ | refine Qn ?_ | refine Qo ?_ | refine Qp ?_ | refine WB.nt ?_ | refine WB.nf ?_ | refine WB.dec (fun h => ?_) (fun h => ?_) | refine WB.ndec (fun h => ?_) (fun h => ?_)) | refine WB.mk (fun h => ?_) (fun h => ?_)) <;> conv => whnf) | (refine WB.tt ?_; conv => whnf) | (refine WB.ff ?_; conv => whnf)
    exact Fin.b rfl rfl
  | true =>
  rw [k3] at c4
  cases k4 : DL b b.face with
  | false =>
    rw [k4] at c5
    repeat' first | ((first | refine Qz ?_ | refine Qf (c1) ?_ | refine Qf (c2) ?_ | refine Qf (c3) ?_ | refine Qf (c4) ?_ | refine Qf (c5) ?_ | with_reducible (first | refine Qm ?_ | refine Qn ?_ | refine Qo ?_ | refine Qp ?_ | refine WB.nt ?_ | refine WB.nf ?_ | refine WB.dec (fun h => ?_) (fun h => ?_) | refine WB.ndec (fun h => ?_) (fun h => ?_)) | refine WB.mk (fun h => ?_) (fun h => ?_)) <;> conv => whnf) | (refine WB.tt ?_; conv => whnf) | (refine WB.ff ?_; conv => whnf)
    exact Fin.b rfl rfl
  | true =>
  rw [k4] at c5
  by_cases k5 : (b.sun.length : Int) = b.last + 1
  rotate_left
  · rw [decide_eq_false k5]
    have k5' : ¬ ((ints b.sun).length : Int) = b.last + 1 := by omega
    repeat' first | ((first | refine Qz ?_ | refine Qf (c1) ?_ | refine Qf (c2) ?_ | refine Qf (c3) ?_ | refine Qf (c4) ?_ | refine Qf (c5) ?_ | with_reducible (first | refine Qm ?_ | refine Qn ?_ | refine Qo ?_ | refine Qp ?_ | refine WB.nt ?_ | refine WB.nf ?_ | refine WB.dec (fun h => ?_) (fun h => ?_) | refine WB.ndec (fun h => ?_) (fun h => ?_)) | refine WB.mk (fun h => ?_) (fun h => ?_)) <;> conv => whnf) | (refine WB.tt ?_; conv => whnf) | (refine WB.ff ?_; conv => whnf)
    exact Fin.b rfl rfl
  rw [decide_eq_true k5]
  have k5' : ((ints b.sun).length : Int) = b.last + 1 := by omega
  cases k6 : b.sun.all uP with
  | false =>
    rw [k6] at c6
    repeat' first | ((first | refine Qz ?_ | refine Qf (c1) ?_ | refine Qf (c2) ?_ | refine Qf (c3) ?_ | refine Qf (c4) ?_ | refine Qf (c5) ?_ | refine Qf (c6) ?_ | with_reducible (first | refine Qm ?_ | refine Qn ?_ | refine Qo ?_ | refine Qp ?_ | refine WB.nt ?_ | refine WB.nf ?_ | refine WB.dec (fun h => ?_) (fun h => ?_) | refine WB.ndec (fun h => ?_) (fun h => ?_)) | refine WB.mk (fun h => ?_) (fun h => ?_)) <;> conv => whnf) | (refine WB.tt ?_; conv => whnf) | (refine WB.ff ?_; conv => whnf)
    exact Fin.b rfl rfl
  | true =>
  rw [k6] at c6
  by_cases k7 : (b.winds.length : Int) = b.last + 1
  rotate_left
  · rw [decide_eq_false k7]
    have k7' : ¬ ((aO iP b.winds).length : Int) = b.last + 1 := by omega
    repeat' first | ((first | refine Qz ?_ | refine Qf (c1) ?_ | refine Qf (c2) ?_ | refine Qf (c3) ?_ | refine Qf (c4) ?_ | refine Qf (c5) ?_ | refine Qf (c6) ?_ | with_reducible (first | refine Qm ?_ | refine Qn ?_ | refine Qo ?_ | refine Qp ?_ | refine WB.nt ?_ | refine WB.nf ?_ | refine WB.dec (fun h => ?_) (fun h => ?_) | refine WB.ndec (fun h => ?_) (fun h => ?_)) | refine WB.mk (fun h => ?_) (fun h => ?_)) <;> conv => whnf) | (refine WB.tt ?_; conv => whnf) | (refine WB.ff ?_; conv => whnf)
    exact Fin.b rfl rfl
  rw [decide_eq_true k7]
  have k7' : ((aO iP b.winds).length : Int) = b.last + 1 := by omega
  cases k8 : b.winds.all kZ with
  | false =>
    rw [k8] at c7
    repeat' first | ((first | refine Qz ?_ | refine Qf (c1) ?_ | refine Qf (c2) ?_ | refine Qf (c3) ?_ | refine Qf (c4) ?_ | refine Qf (c5) ?_ | refine Qf (c6) ?_ | refine Qf (c7) ?_ | with_reducible (first | refine Qm ?_ | refine Qn ?_ | refine Qo ?_ | refine Qp ?_ | refine WB.nt ?_ | refine WB.nf ?_ | refine WB.dec (fun h => ?_) (fun h => ?_) | refine WB.ndec (fun h => ?_) (fun h => ?_)) | refine WB.mk (fun h => ?_) (fun h => ?_)) <;> conv => whnf) | (refine WB.tt ?_; conv => whnf) | (refine WB.ff ?_; conv => whnf)
    exact Fin.b rfl rfl
  | true =>
  rw [k8] at c7
  cases k9 : b.brk.all (kS b) with
  | false =>
    rw [k9] at c8
    repeat' first | ((first | refine Qz ?_ | refine Qf (c1) ?_ | refine Qf (c2) ?_ | refine Qf (c3) ?_ | refine Qf (c4) ?_ | refine Qf (c5) ?_ | refine Qf (c6) ?_ | refine Qf (c7) ?_ | refine Qf (c8) ?_ | with_reducible (first | refine Qm ?_ | refine Qn ?_ | refine Qo ?_ | refine Qp ?_ | refine WB.nt ?_ | refine WB.nf ?_ | refine WB.dec (fun h => ?_) (fun h => ?_) | refine WB.ndec (fun h => ?_) (fun h => ?_)) | refine WB.mk (fun h => ?_) (fun h => ?_)) <;> conv => whnf) | (refine WB.tt ?_; conv => whnf) | (refine WB.ff ?_; conv => whnf)
    exact Fin.b rfl rfl
  | true =>
  rw [k9] at c8
  cases k10 : b.nts.all (fJ b) with
  | false =>
    rw [k10] at c9
    repeat' first | ((first | refine Qz ?_ | refine Qf (c1) ?_ | refine Qf (c2) ?_ | refine Qf (c3) ?_ | refine Qf (c4) ?_ | refine Qf (c5) ?_ | refine Qf (c6) ?_ | refine Qf (c7) ?_ | refine Qf (c8) ?_ | refine Qf (c9) ?_ | with_reducible (first | refine Qm ?_ | refine Qn ?_ | refine Qo ?_ | refine Qp ?_ | refine WB.nt ?_ | refine WB.nf ?_ | refine WB.dec (fun h => ?_) (fun h => ?_) | refine WB.ndec (fun h => ?_) (fun h => ?_)) | refine WB.mk (fun h => ?_) (fun h => ?_)) <;> conv => whnf) | (refine WB.tt ?_; conv => whnf) | (refine WB.ff ?_; conv => whnf)
    exact Fin.b rfl rfl
  | true =>
  rw [k10] at c9
  repeat' first | ((first | refine Qz ?_ | refine Qf (c1) ?_ | refine Qf (c2) ?_ | refine Qf (c3) ?_ | refine Qf (c4) ?_ | refine Qf (c5) ?_ | refine Qf (c6) ?_ | refine Qf (c7) ?_ | refine Qf (c8) ?_ | refine Qf (c9) ?_ | with_reducible (first | refine Qm ?_ | refine Qn ?_ | refine Qo ?_ | refine Qp ?_ | refine WB.nt ?_ | refine WB.nf ?_ | refine WB.dec (fun h => ?_) (fun h => ?_) | refine WB.ndec (fun h => ?_) (fun h => ?_)) | refine WB.mk (fun h => ?_) (fun h => ?_)) <;> conv => whnf) | (refine WB.tt ?_; conv => whnf) | (refine WB.ff ?_; conv => whnf)
  exact Fin.b rfl rfl
theorem gW {b : Bh} : Fw b = true ↔ 4 < b.last ∨ 3 < b.rws ∨ 5 < b.pls ∨ 4 < b.brk.length ∨ 5 < b.nts.length := by unfold Fw; rw [decide_eq_true_iff]
theorem Ah (b : Bh) (l1 : b.face.length ≤ 1000) (l2 : b.sun.length ≤ 1000) (l3 : b.winds.length ≤ 1000) (l6 : ∀ w ∈ b.winds, w.length ≤ 1000) : PureF Tryz.prog p29.ix [.ag (eY b)] (.i .i64 (bD b)) := by
  have e1 := aL cX b.brk
  have e2 := aL cX b.nts
  refine PureF.run NW (by simp) (by simp [aN, Pu, aM]) ?_; conv => whnf
  by_cases hB : 4 < b.last ∨ 3 < b.rws ∨ 5 < b.pls ∨ 4 < b.brk.length ∨ 5 < b.nts.length
  · have hf : bD b = 3 := by unfold bD; rw [if_pos (gW.2 hB)]
    rw [hf]
    repeat' first | ((first | refine Qz ?_ | with_reducible refine WB.dec (fun h => ?_) (fun h => ?_) | with_reducible refine WB.ndec (fun h => ?_) (fun h => ?_) | refine WB.mk (fun h => ?_) (fun h => ?_)) <;> conv => whnf)
    all_goals first | exact Fin.i rfl rfl | (exfalso; omega)
  · have hv := Bn b l1 l2 l3 (by omega) (by omega) l6
    have hf : bD b = if fW b = true then 0 else 1 := by unfold bD; rw [if_neg fun h => hB (gW.1 h)]
    rw [hf]
    cases k : fW b with
    | true =>
      rw [k] at hv
      repeat' first | ((first | refine Qz ?_ | refine Qf (hv) ?_ | with_reducible (first | refine Qm ?_ | refine Qn ?_ | refine Qo ?_ | refine Qp ?_ | refine WB.nt ?_ | refine WB.nf ?_ | refine WB.dec (fun h => ?_) (fun h => ?_) | refine WB.ndec (fun h => ?_) (fun h => ?_)) | refine WB.mk (fun h => ?_) (fun h => ?_)) <;> conv => whnf) | (refine WB.tt ?_; conv => whnf) | (refine WB.ff ?_; conv => whnf)
      exact Fin.i rfl rfl
    | false =>
      rw [k] at hv
      repeat' first | ((first | refine Qz ?_ | refine Qf (hv) ?_ | with_reducible (first | refine Qm ?_ | refine Qn ?_ | refine Qo ?_ | refine Qp ?_ | refine WB.nt ?_ | refine WB.nf ?_ | refine WB.dec (fun h => ?_) (fun h => ?_) | refine WB.ndec (fun h => ?_) (fun h => ?_)) | refine WB.mk (fun h => ?_) (fun h => ?_)) <;> conv => whnf) | (refine WB.tt ?_; conv => whnf) | (refine WB.ff ?_; conv => whnf)
      exact Fin.i rfl rfl
end Go.Ev
end
