import Derived.Test.YtpemagogcagipaaEvGs
import Derived.Test.YtpemagogcagipaaEvC2
set_option linter.all false
namespace Go.Ev
open Go.Proofs
set_option maxRecDepth 100000
structure Rg where
  lo : Int
  hi : Int
deriving Inhabited
structure Mk where
  fr : Int
  to : Int
  lo : Int
  hi : Int
deriving Inhabited
def rgD (r : Rg) : List D := [.i .i64 r.lo, .i .i64 r.hi]
def mkD (m : Mk) : List D := [.i .i64 m.fr, .i .i64 m.to, .i .i64 m.lo, .i .i64 m.hi]
theorem pu_rg (l : List Rg) : PuE (rows rgD l) := pu_rows (fun _ => by simp [rgD, PuL, Pu]) l
theorem pu_mk (l : List Mk) : PuE (rows mkD l) := pu_rows (fun _ => by simp [mkD, PuL, Pu]) l
theorem c_upTo (n m : Int) : PureF Try.prog p78.ix [.i .i64 n, .i .i64 m] (.b (inB n 0 m)) := by
  refine PureF.run fn77 (by simp) (by simp [PuL, PuE, Pu]) ?_; conv => whnf
  repeat' first | ((first | (with_reducible first | apply WB.tt | apply WB.ff) | apply Rn.seq | apply Rn.reg | apply Rn.drw | apply Rn.blk | apply Rn.skip | apply Rn.ret | apply Rn.exit | apply Rn.cond rfl | refine i64_ (by omega) (by omega) ?_ | refine ne0_ (by omega) ?_ | refine WIx.intsN (by omega) ?_ | refine WIx.rowsN (by omega) ?_ | (with_reducible first | refine WB.dec (fun h => ?_) (fun h => ?_) | refine WB.ndec (fun h => ?_) (fun h => ?_)) | refine WB.mk (fun h => ?_) (fun h => ?_)) <;> conv => whnf)
  all_goals
    refine Fin.b rfl ?_
    unfold inB
    first
      | exact (decide_eq_false (by omega)).symm
      | (congr 1; apply propext; constructor <;> intro hh <;> omega)
theorem c_In (n a b : Int) : PureF Try.prog p35.ix [.i .i64 n, .i .i64 a, .i .i64 b] (.b (inB n a b)) := by
  refine PureF.run fn34 (by simp) (by simp [PuL, PuE, Pu]) ?_; conv => whnf
  repeat' first | ((first | (with_reducible first | apply WB.tt | apply WB.ff) | apply Rn.seq | apply Rn.reg | apply Rn.drw | apply Rn.blk | apply Rn.skip | apply Rn.ret | apply Rn.exit | apply Rn.cond rfl | refine i64_ (by omega) (by omega) ?_ | refine ne0_ (by omega) ?_ | refine WIx.intsN (by omega) ?_ | refine WIx.rowsN (by omega) ?_ | (with_reducible first | refine WB.dec (fun h => ?_) (fun h => ?_) | refine WB.ndec (fun h => ?_) (fun h => ?_)) | refine WB.mk (fun h => ?_) (fun h => ?_)) <;> conv => whnf)
  all_goals
    refine Fin.b rfl ?_
    unfold inB
    first
      | exact (decide_eq_false (by omega)).symm
      | (congr 1; apply propext; constructor <;> intro hh <;> omega)
def hgtB (n : Int) : Bool := inB n 0 99
theorem c_validHeight (n : Int) : PureF Try.prog p98.ix [.i .i64 n] (.b (hgtB n)) := by
  refine PureF.run fn97 (by simp) (by simp [PuL, PuE, Pu]) ?_; conv => whnf
  repeat' first | ((first | (with_reducible first | apply WB.tt | apply WB.ff) | apply Rn.seq | apply Rn.reg | apply Rn.drw | apply Rn.blk | apply Rn.skip | apply Rn.ret | apply Rn.exit | apply Rn.cond rfl | refine i64_ (by omega) (by omega) ?_ | refine ne0_ (by omega) ?_ | refine WIx.intsN (by omega) ?_ | refine WIx.rowsN (by omega) ?_ | refine WCall.pure (c_upTo _ _) ?_) <;> conv => whnf)
  exact Fin.b rfl rfl
def rgB (lo hi : Int) : Bool := inB lo 0 hi && hgtB hi
theorem c_validRange (lo hi : Int) : PureF Try.prog p97.ix [.ag [.i .i64 lo, .i .i64 hi]] (.b (rgB lo hi)) := by
  refine PureF.run fn96 (by simp) (by simp [PuL, PuE, Pu]) ?_; conv => whnf
  repeat' first | ((first | (with_reducible first | apply WB.tt | apply WB.ff) | apply Rn.seq | apply Rn.reg | apply Rn.drw | apply Rn.blk | apply Rn.skip | apply Rn.ret | apply Rn.exit | apply Rn.cond rfl | refine i64_ (by omega) (by omega) ?_ | refine ne0_ (by omega) ?_ | refine WIx.intsN (by omega) ?_ | refine WIx.rowsN (by omega) ?_ | refine WCall.pure (c_upTo _ _) ?_ | refine WCall.pure (c_validHeight _) ?_) <;> conv => whnf)
  refine WB.mk (fun h => ?_) (fun h => ?_) <;> conv => whnf
  · repeat' first | ((first | (with_reducible first | apply WB.tt | apply WB.ff) | apply Rn.seq | apply Rn.reg | apply Rn.drw | apply Rn.blk | apply Rn.skip | apply Rn.ret | apply Rn.exit | apply Rn.cond rfl | refine i64_ (by omega) (by omega) ?_ | refine ne0_ (by omega) ?_ | refine WIx.intsN (by omega) ?_ | refine WIx.rowsN (by omega) ?_ | refine WCall.pure (c_upTo _ _) ?_ | refine WCall.pure (c_validHeight _) ?_) <;> conv => whnf)
    exact Fin.b rfl (by unfold rgB; rw [h, Bool.true_and])
  · repeat' first | ((first | (with_reducible first | apply WB.tt | apply WB.ff) | apply Rn.seq | apply Rn.reg | apply Rn.drw | apply Rn.blk | apply Rn.skip | apply Rn.ret | apply Rn.exit | apply Rn.cond rfl | refine i64_ (by omega) (by omega) ?_ | refine ne0_ (by omega) ?_ | refine WIx.intsN (by omega) ?_ | refine WIx.rowsN (by omega) ?_) <;> conv => whnf)
    exact Fin.b rfl (by unfold rgB; rw [h, Bool.false_and])
theorem rgB_iff {lo hi : Int} : rgB lo hi = true ↔ 0 ≤ lo ∧ lo ≤ hi ∧ hi ≤ 99 := by
  unfold rgB hgtB inB
  rw [Bool.and_eq_true, decide_eq_true_iff, decide_eq_true_iff]
  omega
theorem c_IsHeights (lo hi : Int) : PureF Try.prog p89.ix [.ag [.i .i64 lo, .i .i64 hi]] (.b (rgB lo hi)) := by
  refine PureF.run fn88 (by simp) (by simp [PuL, PuE, Pu]) ?_; conv => whnf
  repeat' first | ((first | (with_reducible first | apply WB.tt | apply WB.ff) | apply Rn.seq | apply Rn.reg | apply Rn.drw | apply Rn.blk | apply Rn.skip | apply Rn.ret | apply Rn.exit | apply Rn.cond rfl | refine i64_ (by omega) (by omega) ?_ | refine ne0_ (by omega) ?_ | refine WIx.intsN (by omega) ?_ | refine WIx.rowsN (by omega) ?_ | (with_reducible first | refine WB.dec (fun h => ?_) (fun h => ?_) | refine WB.ndec (fun h => ?_) (fun h => ?_)) | refine WB.mk (fun h => ?_) (fun h => ?_)) <;> conv => whnf)
  all_goals
    refine Fin.b rfl ?_
    have hd : rgB lo hi = decide (0 ≤ lo ∧ lo ≤ hi ∧ hi ≤ 99) := by
      by_cases h : 0 ≤ lo ∧ lo ≤ hi ∧ hi ≤ 99
      · rw [decide_eq_true h]; exact rgB_iff.2 h
      · rw [decide_eq_false h]
        cases hr : rgB lo hi
        · rfl
        · exact absurd (rgB_iff.1 hr) h
    rw [hd]
    first
      | exact (decide_eq_false (by omega)).symm
      | (congr 1; apply propext; constructor <;> intro hh <;> omega)
def mkB (last : Int) (m : Mk) : Bool := inB m.fr 0 m.to && (inB m.to 0 last && rgB m.lo m.hi)
theorem c_validMark (last : Int) (hs : List Rg) (step : Int) (lv : List Int) (ms : List Mk) (tr : D) (htr : Pu tr) (m : Mk) : PureF Try.prog p100.ix [.ag [.i .i64 last, .lst 2 (rows rgD hs), .i .i64 step, .lst 1 (ints lv), .lst 4 (rows mkD ms), tr], .ag [.i .i64 m.fr, .i .i64 m.to, .i .i64 m.lo, .i .i64 m.hi]] (.b (mkB last m)) := by
  refine PureF.run fn99 (by simp) (by simp [PuL, PuE, Pu, pu_ints, pu_rg, pu_mk, htr]) ?_; conv => whnf
  repeat' first | ((first | (with_reducible first | apply WB.tt | apply WB.ff) | apply Rn.seq | apply Rn.reg | apply Rn.drw | apply Rn.blk | apply Rn.skip | apply Rn.ret | apply Rn.exit | apply Rn.cond rfl | refine i64_ (by omega) (by omega) ?_ | refine ne0_ (by omega) ?_ | refine WIx.intsN (by omega) ?_ | refine WIx.rowsN (by omega) ?_ | refine WCall.pure (c_upTo _ _) ?_ | refine WCall.pure (c_validRange _ _) ?_) <;> conv => whnf)
  refine WB.mk (fun h => ?_) (fun h => ?_) <;> conv => whnf
  · repeat' first | ((first | (with_reducible first | apply WB.tt | apply WB.ff) | apply Rn.seq | apply Rn.reg | apply Rn.drw | apply Rn.blk | apply Rn.skip | apply Rn.ret | apply Rn.exit | apply Rn.cond rfl | refine i64_ (by omega) (by omega) ?_ | refine ne0_ (by omega) ?_ | refine WIx.intsN (by omega) ?_ | refine WIx.rowsN (by omega) ?_ | refine WCall.pure (c_upTo _ _) ?_ | refine WCall.pure (c_validRange _ _) ?_) <;> conv => whnf)
    refine WB.mk (fun h2 => ?_) (fun h2 => ?_) <;> conv => whnf
    · repeat' first | ((first | (with_reducible first | apply WB.tt | apply WB.ff) | apply Rn.seq | apply Rn.reg | apply Rn.drw | apply Rn.blk | apply Rn.skip | apply Rn.ret | apply Rn.exit | apply Rn.cond rfl | refine i64_ (by omega) (by omega) ?_ | refine ne0_ (by omega) ?_ | refine WIx.intsN (by omega) ?_ | refine WIx.rowsN (by omega) ?_ | refine WCall.pure (c_upTo _ _) ?_ | refine WCall.pure (c_validRange _ _) ?_) <;> conv => whnf)
      exact Fin.b rfl (by unfold mkB; rw [h, h2, Bool.true_and, Bool.true_and])
    · repeat' first | ((first | (with_reducible first | apply WB.tt | apply WB.ff) | apply Rn.seq | apply Rn.reg | apply Rn.drw | apply Rn.blk | apply Rn.skip | apply Rn.ret | apply Rn.exit | apply Rn.cond rfl | refine i64_ (by omega) (by omega) ?_ | refine ne0_ (by omega) ?_ | refine WIx.intsN (by omega) ?_ | refine WIx.rowsN (by omega) ?_) <;> conv => whnf)
      exact Fin.b rfl (by unfold mkB; rw [h, h2, Bool.true_and, Bool.false_and])
  · repeat' first | ((first | (with_reducible first | apply WB.tt | apply WB.ff) | apply Rn.seq | apply Rn.reg | apply Rn.drw | apply Rn.blk | apply Rn.skip | apply Rn.ret | apply Rn.exit | apply Rn.cond rfl | refine i64_ (by omega) (by omega) ?_ | refine ne0_ (by omega) ?_ | refine WIx.intsN (by omega) ?_ | refine WIx.rowsN (by omega) ?_) <;> conv => whnf)
    exact Fin.b rfl (by unfold mkB; rw [h, Bool.false_and])
theorem c_allRg (l : List Rg) (f : Pos) (first caps : List D) (p : Rg → Bool) (h1 : PuL first) (h2 : PuL caps) (hl : l.length ≤ 1000) (hf : ∀ c ∈ l, PureF Try.prog f.ix (first ++ ([.ag (rgD c)] ++ caps)) (.b (p c))) : PureF Try.prog p96.ix [.lst 2 (rows rgD l), .fn f first caps] (.b (l.all p)) := by
  have e1 := rows_length rgD l
  refine PureF.run fn95 (by simp) (by simp [PuL, PuE, Pu, pu_ints, pu_rg, pu_mk, h1, h2]) ?_; conv => whnf
  repeat' first | ((first | (with_reducible first | apply WB.tt | apply WB.ff) | apply Rn.seq | apply Rn.reg | apply Rn.drw | apply Rn.blk | apply Rn.skip | apply Rn.ret | apply Rn.exit | apply Rn.cond rfl | refine i64_ (by omega) (by omega) ?_ | refine ne0_ (by omega) ?_ | refine WIx.intsN (by omega) ?_ | refine WIx.rowsN (by omega) ?_) <;> conv => whnf)
  refine Rn.loop (fun j : Nat => ⟨(.n (.n (.n (.n .e (some (.lst 2 (rows rgD l))) .e) none .e) (some (.fn f first caps)) (.n (.n .e (some (.i .i64 (j : Int))) .e) none .e)) none (.n (.n (.n .e (some (.i .i64 ((rows rgD l).length : Int))) .e) none .e) none .e)), .e, .h, none⟩) (fun j => j ≤ l.length ∧ (l.take j).all p = true) (fun j => l.length - j) 0 ?_ ?_ ?_
  · (first | (refine X.le.mk ?_ ?_ (Nat.le_refl _) rfl rfl) | skip) <;> (repeat' first | exact T.le_e _ | refine T.le_some ?_ ?_ ?_ | refine T.le_none ?_ ?_ | rfl)
  · exact ⟨by omega, by simp⟩
  rintro j ⟨hj, ha⟩
  conv => whnf
  repeat' first | ((first | (with_reducible first | apply WB.tt | apply WB.ff) | apply Rn.seq | apply Rn.reg | apply Rn.drw | apply Rn.blk | apply Rn.skip | apply Rn.ret | apply Rn.exit | apply Rn.cond rfl | refine i64_ (by omega) (by omega) ?_ | refine ne0_ (by omega) ?_ | refine WIx.intsN (by omega) ?_ | refine WIx.rowsN (by omega) ?_) <;> conv => whnf)
  refine WB.dec (fun h => ?_) (fun h => ?_) <;> conv => whnf
  · have hlt : j < l.length := by omega
    repeat' first | ((first | (with_reducible first | apply WB.tt | apply WB.ff) | apply Rn.seq | apply Rn.reg | apply Rn.drw | apply Rn.blk | apply Rn.skip | apply Rn.ret | apply Rn.exit | apply Rn.cond rfl | refine i64_ (by omega) (by omega) ?_ | refine ne0_ (by omega) ?_ | refine WIx.intsN (by omega) ?_ | refine WIx.rowsN (by omega) ?_ | refine WCall.pure (hf _ (getD_mem hlt)) ?_) <;> conv => whnf)
    refine WB.mk (fun h => ?_) (fun h => ?_) <;> conv => whnf
    · repeat' first | ((first | (with_reducible first | apply WB.tt | apply WB.ff) | apply Rn.seq | apply Rn.reg | apply Rn.drw | apply Rn.blk | apply Rn.skip | apply Rn.ret | apply Rn.exit | apply Rn.cond rfl | refine i64_ (by omega) (by omega) ?_ | refine ne0_ (by omega) ?_ | refine WIx.intsN (by omega) ?_ | refine WIx.rowsN (by omega) ?_) <;> conv => whnf)
      exact Fin.b rfl (by rw [all_false (d := default) hlt (by simpa using h)])
    · repeat' first | ((first | (with_reducible first | apply WB.tt | apply WB.ff) | apply Rn.seq | apply Rn.reg | apply Rn.drw | apply Rn.blk | apply Rn.skip | apply Rn.ret | apply Rn.exit | apply Rn.cond rfl | refine i64_ (by omega) (by omega) ?_ | refine ne0_ (by omega) ?_ | refine WIx.intsN (by omega) ?_ | refine WIx.rowsN (by omega) ?_) <;> conv => whnf)
      refine Again.to (j + 1) (by omega) ⟨by omega, all_take_succ (d := default) hlt ha (by simpa using h)⟩ (Nat.le_refl _) ?_
      (refine Shr.of ?_ ?_ rfl rfl) <;> (repeat' first | exact Rel.e | refine Rel.some ?_ ?_ ?_ | refine Rel.none ?_ ?_) <;> (try first | (show Fz _ _ _ _; first | exact Fz.pu trivial | (refine Fz.i ?_; first | rfl | omega) | (refine Fz.kpt ?_; (focus (show Pos.nat _ < Pos.nat _; simp [Pos.nat]; done))) | (refine Fz.ksl ?_; (focus (show Pos.nat _ < Pos.nat _; simp [Pos.nat]; done))) | (refine Fz.kmp ?_; (focus (show Pos.nat _ < Pos.nat _; simp [Pos.nat]; done))) | (refine Fz.pu ?_; simp [Cell.d, Pu, PuL, PuE, pu_ints, pu_rg, pu_mk]; done) | (refine Fz.pu ?_; simp only [Cell.d]; assumption)) | (refine RO'.of ?_ (ShC.same ?_); (focus (show Pos.nat _ < Pos.nat _; simp [Pos.nat]; done)); (repeat' first | exact ShC.nl | refine ShC.cn ?_ ?_) <;> first | exact Fz.pu trivial | (refine Fz.i ?_; first | rfl | omega) | (refine Fz.kpt ?_; (focus (show Pos.nat _ < Pos.nat _; simp [Pos.nat]; done))) | (refine Fz.ksl ?_; (focus (show Pos.nat _ < Pos.nat _; simp [Pos.nat]; done))) | (refine Fz.kmp ?_; (focus (show Pos.nat _ < Pos.nat _; simp [Pos.nat]; done))) | (refine Fz.pu ?_; simp [Cell.d, Pu, PuL, PuE, pu_ints, pu_rg, pu_mk]; done) | (refine Fz.pu ?_; simp only [Cell.d]; assumption)))
      all_goals (refine Fz.pu ?_; simp [Pu, h1, h2, pu_rg, pu_mk])
  · repeat' first | ((first | (with_reducible first | apply WB.tt | apply WB.ff) | apply Rn.seq | apply Rn.reg | apply Rn.drw | apply Rn.blk | apply Rn.skip | apply Rn.ret | apply Rn.exit | apply Rn.cond rfl | refine i64_ (by omega) (by omega) ?_ | refine ne0_ (by omega) ?_ | refine WIx.intsN (by omega) ?_ | refine WIx.rowsN (by omega) ?_) <;> conv => whnf)
    exact Fin.b rfl (by rw [all_end (by omega) ha])
theorem c_allMk (l : List Mk) (f : Pos) (first caps : List D) (p : Mk → Bool) (h1 : PuL first) (h2 : PuL caps) (hl : l.length ≤ 1000) (hf : ∀ c ∈ l, PureF Try.prog f.ix (first ++ ([.ag (mkD c)] ++ caps)) (.b (p c))) : PureF Try.prog p67.ix [.lst 4 (rows mkD l), .fn f first caps] (.b (l.all p)) := by
  have e1 := rows_length mkD l
  refine PureF.run fn66 (by simp) (by simp [PuL, PuE, Pu, pu_ints, pu_rg, pu_mk, h1, h2]) ?_; conv => whnf
  repeat' first | ((first | (with_reducible first | apply WB.tt | apply WB.ff) | apply Rn.seq | apply Rn.reg | apply Rn.drw | apply Rn.blk | apply Rn.skip | apply Rn.ret | apply Rn.exit | apply Rn.cond rfl | refine i64_ (by omega) (by omega) ?_ | refine ne0_ (by omega) ?_ | refine WIx.intsN (by omega) ?_ | refine WIx.rowsN (by omega) ?_) <;> conv => whnf)
  refine Rn.loop (fun j : Nat => ⟨(.n (.n (.n (.n .e (some (.lst 4 (rows mkD l))) .e) none .e) (some (.fn f first caps)) (.n (.n .e (some (.i .i64 (j : Int))) .e) none .e)) none (.n (.n (.n .e (some (.i .i64 ((rows mkD l).length : Int))) .e) none .e) none .e)), .e, .h, none⟩) (fun j => j ≤ l.length ∧ (l.take j).all p = true) (fun j => l.length - j) 0 ?_ ?_ ?_
  · (first | (refine X.le.mk ?_ ?_ (Nat.le_refl _) rfl rfl) | skip) <;> (repeat' first | exact T.le_e _ | refine T.le_some ?_ ?_ ?_ | refine T.le_none ?_ ?_ | rfl)
  · exact ⟨by omega, by simp⟩
  rintro j ⟨hj, ha⟩
  conv => whnf
  repeat' first | ((first | (with_reducible first | apply WB.tt | apply WB.ff) | apply Rn.seq | apply Rn.reg | apply Rn.drw | apply Rn.blk | apply Rn.skip | apply Rn.ret | apply Rn.exit | apply Rn.cond rfl | refine i64_ (by omega) (by omega) ?_ | refine ne0_ (by omega) ?_ | refine WIx.intsN (by omega) ?_ | refine WIx.rowsN (by omega) ?_) <;> conv => whnf)
  refine WB.dec (fun h => ?_) (fun h => ?_) <;> conv => whnf
  · have hlt : j < l.length := by omega
    repeat' first | ((first | (with_reducible first | apply WB.tt | apply WB.ff) | apply Rn.seq | apply Rn.reg | apply Rn.drw | apply Rn.blk | apply Rn.skip | apply Rn.ret | apply Rn.exit | apply Rn.cond rfl | refine i64_ (by omega) (by omega) ?_ | refine ne0_ (by omega) ?_ | refine WIx.intsN (by omega) ?_ | refine WIx.rowsN (by omega) ?_ | refine WCall.pure (hf _ (getD_mem hlt)) ?_) <;> conv => whnf)
    refine WB.mk (fun h => ?_) (fun h => ?_) <;> conv => whnf
    · repeat' first | ((first | (with_reducible first | apply WB.tt | apply WB.ff) | apply Rn.seq | apply Rn.reg | apply Rn.drw | apply Rn.blk | apply Rn.skip | apply Rn.ret | apply Rn.exit | apply Rn.cond rfl | refine i64_ (by omega) (by omega) ?_ | refine ne0_ (by omega) ?_ | refine WIx.intsN (by omega) ?_ | refine WIx.rowsN (by omega) ?_) <;> conv => whnf)
      exact Fin.b rfl (by rw [all_false (d := default) hlt (by simpa using h)])
    · repeat' first | ((first | (with_reducible first | apply WB.tt | apply WB.ff) | apply Rn.seq | apply Rn.reg | apply Rn.drw | apply Rn.blk | apply Rn.skip | apply Rn.ret | apply Rn.exit | apply Rn.cond rfl | refine i64_ (by omega) (by omega) ?_ | refine ne0_ (by omega) ?_ | refine WIx.intsN (by omega) ?_ | refine WIx.rowsN (by omega) ?_) <;> conv => whnf)
      refine Again.to (j + 1) (by omega) ⟨by omega, all_take_succ (d := default) hlt ha (by simpa using h)⟩ (Nat.le_refl _) ?_
      (refine Shr.of ?_ ?_ rfl rfl) <;> (repeat' first | exact Rel.e | refine Rel.some ?_ ?_ ?_ | refine Rel.none ?_ ?_) <;> (try first | (show Fz _ _ _ _; first | exact Fz.pu trivial | (refine Fz.i ?_; first | rfl | omega) | (refine Fz.kpt ?_; (focus (show Pos.nat _ < Pos.nat _; simp [Pos.nat]; done))) | (refine Fz.ksl ?_; (focus (show Pos.nat _ < Pos.nat _; simp [Pos.nat]; done))) | (refine Fz.kmp ?_; (focus (show Pos.nat _ < Pos.nat _; simp [Pos.nat]; done))) | (refine Fz.pu ?_; simp [Cell.d, Pu, PuL, PuE, pu_ints, pu_rg, pu_mk]; done) | (refine Fz.pu ?_; simp only [Cell.d]; assumption)) | (refine RO'.of ?_ (ShC.same ?_); (focus (show Pos.nat _ < Pos.nat _; simp [Pos.nat]; done)); (repeat' first | exact ShC.nl | refine ShC.cn ?_ ?_) <;> first | exact Fz.pu trivial | (refine Fz.i ?_; first | rfl | omega) | (refine Fz.kpt ?_; (focus (show Pos.nat _ < Pos.nat _; simp [Pos.nat]; done))) | (refine Fz.ksl ?_; (focus (show Pos.nat _ < Pos.nat _; simp [Pos.nat]; done))) | (refine Fz.kmp ?_; (focus (show Pos.nat _ < Pos.nat _; simp [Pos.nat]; done))) | (refine Fz.pu ?_; simp [Cell.d, Pu, PuL, PuE, pu_ints, pu_rg, pu_mk]; done) | (refine Fz.pu ?_; simp only [Cell.d]; assumption)))
      all_goals (refine Fz.pu ?_; simp [Pu, h1, h2, pu_rg, pu_mk])
  · repeat' first | ((first | (with_reducible first | apply WB.tt | apply WB.ff) | apply Rn.seq | apply Rn.reg | apply Rn.drw | apply Rn.blk | apply Rn.skip | apply Rn.ret | apply Rn.exit | apply Rn.cond rfl | refine i64_ (by omega) (by omega) ?_ | refine ne0_ (by omega) ?_ | refine WIx.intsN (by omega) ?_ | refine WIx.rowsN (by omega) ?_) <;> conv => whnf)
    exact Fin.b rfl (by rw [all_end (by omega) ha])
theorem c_allInt (l : List Int) (f : Pos) (first caps : List D) (p : Int → Bool) (h1 : PuL first) (h2 : PuL caps) (hl : l.length ≤ 1000) (hf : ∀ n ∈ l, PureF Try.prog f.ix (first ++ ([.i .i64 n] ++ caps)) (.b (p n))) : PureF Try.prog p99.ix [.lst 1 (ints l), .fn f first caps] (.b (l.all p)) := by
  have e1 := ints_length l
  refine PureF.run fn98 (by simp) (by simp [PuL, PuE, Pu, pu_ints, h1, h2]) ?_; conv => whnf
  repeat' first | ((first | (with_reducible first | apply WB.tt | apply WB.ff) | apply Rn.seq | apply Rn.reg | apply Rn.drw | apply Rn.blk | apply Rn.skip | apply Rn.ret | apply Rn.exit | apply Rn.cond rfl | refine i64_ (by omega) (by omega) ?_ | refine ne0_ (by omega) ?_ | refine WIx.intsN (by omega) ?_ | refine WIx.rowsN (by omega) ?_) <;> conv => whnf)
  refine Rn.loop (fun j : Nat => ⟨(.n (.n (.n (.n .e (some (.lst 1 (ints l))) .e) none .e) (some (.fn f first caps)) (.n (.n .e (some (.i .i64 (j : Int))) .e) none .e)) none (.n (.n (.n .e (some (.i .i64 ((ints l).length : Int))) .e) none .e) none .e)), .e, .h, none⟩) (fun j => j ≤ l.length ∧ (l.take j).all p = true) (fun j => l.length - j) 0 ?_ ?_ ?_
  · (first | (refine X.le.mk ?_ ?_ (Nat.le_refl _) rfl rfl) | skip) <;> (repeat' first | exact T.le_e _ | refine T.le_some ?_ ?_ ?_ | refine T.le_none ?_ ?_ | rfl)
  · exact ⟨by omega, by simp⟩
  rintro j ⟨hj, ha⟩
  conv => whnf
  repeat' first | ((first | (with_reducible first | apply WB.tt | apply WB.ff) | apply Rn.seq | apply Rn.reg | apply Rn.drw | apply Rn.blk | apply Rn.skip | apply Rn.ret | apply Rn.exit | apply Rn.cond rfl | refine i64_ (by omega) (by omega) ?_ | refine ne0_ (by omega) ?_ | refine WIx.intsN (by omega) ?_ | refine WIx.rowsN (by omega) ?_) <;> conv => whnf)
  refine WB.dec (fun h => ?_) (fun h => ?_) <;> conv => whnf
  · have hlt : j < l.length := by omega
    repeat' first | ((first | (with_reducible first | apply WB.tt | apply WB.ff) | apply Rn.seq | apply Rn.reg | apply Rn.drw | apply Rn.blk | apply Rn.skip | apply Rn.ret | apply Rn.exit | apply Rn.cond rfl | refine i64_ (by omega) (by omega) ?_ | refine ne0_ (by omega) ?_ | refine WIx.intsN (by omega) ?_ | refine WIx.rowsN (by omega) ?_ | refine WCall.pure (hf _ (getD_mem hlt)) ?_) <;> conv => whnf)
    refine WB.mk (fun h => ?_) (fun h => ?_) <;> conv => whnf
    · repeat' first | ((first | (with_reducible first | apply WB.tt | apply WB.ff) | apply Rn.seq | apply Rn.reg | apply Rn.drw | apply Rn.blk | apply Rn.skip | apply Rn.ret | apply Rn.exit | apply Rn.cond rfl | refine i64_ (by omega) (by omega) ?_ | refine ne0_ (by omega) ?_ | refine WIx.intsN (by omega) ?_ | refine WIx.rowsN (by omega) ?_) <;> conv => whnf)
      exact Fin.b rfl (by rw [all_false (d := 0) hlt (by simpa using h)])
    · repeat' first | ((first | (with_reducible first | apply WB.tt | apply WB.ff) | apply Rn.seq | apply Rn.reg | apply Rn.drw | apply Rn.blk | apply Rn.skip | apply Rn.ret | apply Rn.exit | apply Rn.cond rfl | refine i64_ (by omega) (by omega) ?_ | refine ne0_ (by omega) ?_ | refine WIx.intsN (by omega) ?_ | refine WIx.rowsN (by omega) ?_) <;> conv => whnf)
      refine Again.to (j + 1) (by omega) ⟨by omega, all_take_succ (d := 0) hlt ha (by simpa using h)⟩ (Nat.le_refl _) ?_
      (refine Shr.of ?_ ?_ rfl rfl) <;> (repeat' first | exact Rel.e | refine Rel.some ?_ ?_ ?_ | refine Rel.none ?_ ?_) <;> (try first | (show Fz _ _ _ _; first | exact Fz.pu trivial | (refine Fz.i ?_; first | rfl | omega) | (refine Fz.kpt ?_; (focus (show Pos.nat _ < Pos.nat _; simp [Pos.nat]; done))) | (refine Fz.ksl ?_; (focus (show Pos.nat _ < Pos.nat _; simp [Pos.nat]; done))) | (refine Fz.kmp ?_; (focus (show Pos.nat _ < Pos.nat _; simp [Pos.nat]; done))) | (refine Fz.pu ?_; simp [Cell.d, Pu, PuL, PuE, pu_ints, pu_rg, pu_mk]; done) | (refine Fz.pu ?_; simp only [Cell.d]; assumption)) | (refine RO'.of ?_ (ShC.same ?_); (focus (show Pos.nat _ < Pos.nat _; simp [Pos.nat]; done)); (repeat' first | exact ShC.nl | refine ShC.cn ?_ ?_) <;> first | exact Fz.pu trivial | (refine Fz.i ?_; first | rfl | omega) | (refine Fz.kpt ?_; (focus (show Pos.nat _ < Pos.nat _; simp [Pos.nat]; done))) | (refine Fz.ksl ?_; (focus (show Pos.nat _ < Pos.nat _; simp [Pos.nat]; done))) | (refine Fz.kmp ?_; (focus (show Pos.nat _ < Pos.nat _; simp [Pos.nat]; done))) | (refine Fz.pu ?_; simp [Cell.d, Pu, PuL, PuE, pu_ints, pu_rg, pu_mk]; done) | (refine Fz.pu ?_; simp only [Cell.d]; assumption)))
      all_goals (refine Fz.pu ?_; simp [Pu, h1, h2])
  · repeat' first | ((first | (with_reducible first | apply WB.tt | apply WB.ff) | apply Rn.seq | apply Rn.reg | apply Rn.drw | apply Rn.blk | apply Rn.skip | apply Rn.ret | apply Rn.exit | apply Rn.cond rfl | refine i64_ (by omega) (by omega) ?_ | refine ne0_ (by omega) ?_ | refine WIx.intsN (by omega) ?_ | refine WIx.rowsN (by omega) ?_) <;> conv => whnf)
    exact Fin.b rfl (by rw [all_end (by omega) ha])
def validB (last : Int) (hs : List Rg) (step : Int) (lv : List Int) (ms : List Mk) : Bool := inB last 0 9 && (decide ((hs.length : Int) = last + 1) && (hs.all (fun r => rgB r.lo r.hi) && (hgtB step && (lv.all hgtB && ms.all (mkB last)))))
theorem c_isValid (last : Int) (hs : List Rg) (step : Int) (lv : List Int) (ms : List Mk) (tr : D) (htr : Pu tr) (hl : lv.length ≤ 1000) (hm : ms.length ≤ 1000) : PureF Try.prog p69.ix [.ag [.i .i64 last, .lst 2 (rows rgD hs), .i .i64 step, .lst 1 (ints lv), .lst 4 (rows mkD ms), tr]] (.b (validB last hs step lv ms)) := by
  have e1 := rows_length rgD hs
  have e2 := ints_length lv
  have e3 := rows_length mkD ms
  have cU := c_upTo last 9
  have cR := fun h => c_allRg hs p97 [] [] (fun r => rgB r.lo r.hi) trivial trivial h (fun c _ => c_validRange c.lo c.hi)
  have cH := c_validHeight step
  have cL := c_allInt lv p98 [] [] hgtB trivial trivial hl (fun n _ => c_validHeight n)
  have cM := c_allMk ms p100 [.ag [.i .i64 last, .lst 2 (rows rgD hs), .i .i64 step, .lst 1 (ints lv), .lst 4 (rows mkD ms), tr]] [] (mkB last) (by simp [PuL, Pu, pu_ints, pu_rg, pu_mk, htr]) trivial hm (fun m _ => c_validMark last hs step lv ms tr htr m)
  refine PureF.run fn68 (by simp) (by simp [PuL, PuE, Pu, pu_ints, pu_rg, pu_mk, htr]) ?_; conv => whnf
  unfold validB
  cases h1 : inB last 0 9 with
  | false =>
    rw [h1] at cU
    repeat' first | ((first | (with_reducible first | apply WB.tt | apply WB.ff) | apply Rn.seq | apply Rn.reg | apply Rn.drw | apply Rn.blk | apply Rn.skip | apply Rn.ret | apply Rn.exit | apply Rn.cond rfl | refine i64_ (by omega) (by omega) ?_ | refine ne0_ (by omega) ?_ | refine WIx.intsN (by omega) ?_ | refine WIx.rowsN (by omega) ?_ | refine WCall.pure (cU) ?_ | (with_reducible first | refine WB.decT (by first | rfl | assumption | omega | exact ⟨rfl, rfl⟩) ?_ | refine WB.decF (by first | assumption | omega) ?_ | refine WB.ndT (by first | rfl | assumption | omega | exact ⟨rfl, rfl⟩) ?_ | refine WB.ndF (by first | assumption | omega) ?_ | apply WB.nt | apply WB.nf | refine WB.dec (fun h => ?_) (fun h => ?_) | refine WB.ndec (fun h => ?_) (fun h => ?_)) | refine WB.mk (fun h => ?_) (fun h => ?_)) <;> conv => whnf)
    exact Fin.b rfl rfl
  | true =>
    have q := inB_spec h1
    rw [h1] at cU
    by_cases h2 : (hs.length : Int) = last + 1
    · have h2' : ((rows rgD hs).length : Int) = last + 1 := by omega
      have cR := cR (by omega)
      rw [decide_eq_true h2]
      cases h3 : hs.all (fun r => rgB r.lo r.hi) with
      | false =>
        rw [h3] at cR
        repeat' first | ((first | (with_reducible first | apply WB.tt | apply WB.ff) | apply Rn.seq | apply Rn.reg | apply Rn.drw | apply Rn.blk | apply Rn.skip | apply Rn.ret | apply Rn.exit | apply Rn.cond rfl | refine i64_ (by omega) (by omega) ?_ | refine ne0_ (by omega) ?_ | refine WIx.intsN (by omega) ?_ | refine WIx.rowsN (by omega) ?_ | refine WCall.pure (cU) ?_ | refine WCall.pure (cR) ?_ | (with_reducible first | refine WB.decT (by first | rfl | assumption | omega | exact ⟨rfl, rfl⟩) ?_ | refine WB.decF (by first | assumption | omega) ?_ | refine WB.ndT (by first | rfl | assumption | omega | exact ⟨rfl, rfl⟩) ?_ | refine WB.ndF (by first | assumption | omega) ?_ | apply WB.nt | apply WB.nf | refine WB.dec (fun h => ?_) (fun h => ?_) | refine WB.ndec (fun h => ?_) (fun h => ?_)) | refine WB.mk (fun h => ?_) (fun h => ?_)) <;> conv => whnf)
        exact Fin.b rfl rfl
      | true =>
        rw [h3] at cR
        cases h4 : hgtB step with
        | false =>
          rw [h4] at cH
          repeat' first | ((first | (with_reducible first | apply WB.tt | apply WB.ff) | apply Rn.seq | apply Rn.reg | apply Rn.drw | apply Rn.blk | apply Rn.skip | apply Rn.ret | apply Rn.exit | apply Rn.cond rfl | refine i64_ (by omega) (by omega) ?_ | refine ne0_ (by omega) ?_ | refine WIx.intsN (by omega) ?_ | refine WIx.rowsN (by omega) ?_ | refine WCall.pure (cU) ?_ | refine WCall.pure (cR) ?_ | refine WCall.pure (cH) ?_ | (with_reducible first | refine WB.decT (by first | rfl | assumption | omega | exact ⟨rfl, rfl⟩) ?_ | refine WB.decF (by first | assumption | omega) ?_ | refine WB.ndT (by first | rfl | assumption | omega | exact ⟨rfl, rfl⟩) ?_ | refine WB.ndF (by first | assumption | omega) ?_ | apply WB.nt | apply WB.nf | refine WB.dec (fun h => ?_) (fun h => ?_) | refine WB.ndec (fun h => ?_) (fun h => ?_)) | refine WB.mk (fun h => ?_) (fun h => ?_)) <;> conv => whnf)
          exact Fin.b rfl rfl
        | true =>
          rw [h4] at cH
          cases h5 : lv.all hgtB with
          | false =>
            rw [h5] at cL
            repeat' first | ((first | (with_reducible first | apply WB.tt | apply WB.ff) | apply Rn.seq | apply Rn.reg | apply Rn.drw | apply Rn.blk | apply Rn.skip | apply Rn.ret | apply Rn.exit | apply Rn.cond rfl | refine i64_ (by omega) (by omega) ?_ | refine ne0_ (by omega) ?_ | refine WIx.intsN (by omega) ?_ | refine WIx.rowsN (by omega) ?_ | refine WCall.pure (cU) ?_ | refine WCall.pure (cR) ?_ | refine WCall.pure (cH) ?_ | refine WCall.pure (cL) ?_ | (with_reducible first | refine WB.decT (by first | rfl | assumption | omega | exact ⟨rfl, rfl⟩) ?_ | refine WB.decF (by first | assumption | omega) ?_ | refine WB.ndT (by first | rfl | assumption | omega | exact ⟨rfl, rfl⟩) ?_ | refine WB.ndF (by first | assumption | omega) ?_ | apply WB.nt | apply WB.nf | refine WB.dec (fun h => ?_) (fun h => ?_) | refine WB.ndec (fun h => ?_) (fun h => ?_)) | refine WB.mk (fun h => ?_) (fun h => ?_)) <;> conv => whnf)
            exact Fin.b rfl rfl
          | true =>
            rw [h5] at cL
            repeat' first | ((first | (with_reducible first | apply WB.tt | apply WB.ff) | apply Rn.seq | apply Rn.reg | apply Rn.drw | apply Rn.blk | apply Rn.skip | apply Rn.ret | apply Rn.exit | apply Rn.cond rfl | refine i64_ (by omega) (by omega) ?_ | refine ne0_ (by omega) ?_ | refine WIx.intsN (by omega) ?_ | refine WIx.rowsN (by omega) ?_ | refine WCall.pure (cU) ?_ | refine WCall.pure (cR) ?_ | refine WCall.pure (cH) ?_ | refine WCall.pure (cL) ?_ | refine WCall.pure (cM) ?_ | (with_reducible first | refine WB.decT (by first | rfl | assumption | omega | exact ⟨rfl, rfl⟩) ?_ | refine WB.decF (by first | assumption | omega) ?_ | refine WB.ndT (by first | rfl | assumption | omega | exact ⟨rfl, rfl⟩) ?_ | refine WB.ndF (by first | assumption | omega) ?_ | apply WB.nt | apply WB.nf | refine WB.dec (fun h => ?_) (fun h => ?_) | refine WB.ndec (fun h => ?_) (fun h => ?_)) | refine WB.mk (fun h => ?_) (fun h => ?_)) <;> conv => whnf)
            exact Fin.b rfl rfl
    · have h2' : ¬ ((rows rgD hs).length : Int) = last + 1 := by omega
      rw [decide_eq_false h2]
      repeat' first | ((first | (with_reducible first | apply WB.tt | apply WB.ff) | apply Rn.seq | apply Rn.reg | apply Rn.drw | apply Rn.blk | apply Rn.skip | apply Rn.ret | apply Rn.exit | apply Rn.cond rfl | refine i64_ (by omega) (by omega) ?_ | refine ne0_ (by omega) ?_ | refine WIx.intsN (by omega) ?_ | refine WIx.rowsN (by omega) ?_ | refine WCall.pure (cU) ?_ | (with_reducible first | refine WB.decT (by first | rfl | assumption | omega | exact ⟨rfl, rfl⟩) ?_ | refine WB.decF (by first | assumption | omega) ?_ | refine WB.ndT (by first | rfl | assumption | omega | exact ⟨rfl, rfl⟩) ?_ | refine WB.ndF (by first | assumption | omega) ?_ | apply WB.nt | apply WB.nf | refine WB.dec (fun h => ?_) (fun h => ?_) | refine WB.ndec (fun h => ?_) (fun h => ?_)) | refine WB.mk (fun h => ?_) (fun h => ?_)) <;> conv => whnf)
      exact Fin.b rfl rfl
end Go.Ev

namespace Go.Ev
open Go.Proofs
set_option maxRecDepth 100000
theorem foldl_take_at {α β : Type} {h : β → α → β} {b : β} {L : List α} {j : Nat} {d : α} (hj : j < L.length) : (L.take (j + 1)).foldl h b = h ((L.take j).foldl h b) (L.getD j d) := by
  rw [take_succ_getD (d := d) hj, List.foldl_append]; rfl
def szR (r : Rg) : Int := r.hi - r.lo + 1
def Vr (hs : List Rg) : Prop := ∀ r ∈ hs, 0 ≤ r.lo ∧ r.lo ≤ r.hi ∧ r.hi ≤ 99
theorem Vr.sz {hs : List Rg} (h : Vr hs) {r : Rg} (hr : r ∈ hs) : 1 ≤ szR r ∧ szR r ≤ 100 := by
  have := h r hr
  unfold szR
  omega
theorem c_Size (r : Rg) (h : 0 ≤ r.lo ∧ r.lo ≤ r.hi ∧ r.hi ≤ 99) : PureF Try.prog p90.ix [.ag [.i .i64 r.lo, .i .i64 r.hi]] (.i .i64 (szR r)) := by
  refine PureF.run fn89 (by simp) (by simp [PuL, PuE, Pu]) ?_; conv => whnf
  repeat' first | ((first | (with_reducible first | apply WB.tt | apply WB.ff) | apply Rn.seq | apply Rn.reg | apply Rn.drw | apply Rn.blk | apply Rn.skip | apply Rn.ret | apply Rn.exit | apply Rn.cond rfl | refine i64_ (by omega) (by omega) ?_ | refine ne0_ (by omega) ?_ | refine WIx.intsN (by omega) ?_ | refine WIx.rowsN (by omega) ?_) <;> conv => whnf)
  exact Fin.i rfl rfl
theorem mul_bd {n s N : Int} (h1 : 1 ≤ n) (h2 : n ≤ N) (h3 : 1 ≤ s) (h4 : s ≤ 100) : n ≤ n * s ∧ n * s ≤ N * 100 := by
  constructor
  · have := Int.mul_le_mul_of_nonneg_left h3 (show 0 ≤ n by omega)
    omega
  · exact Int.mul_le_mul h2 h4 (by omega) (by omega)
def manyR (hs : List Rg) : Int := hs.foldl (fun n r => min 3000 (n * szR r)) 1
theorem many_bd : ∀ (hs : List Rg) (n : Int), Vr hs → 1 ≤ n → n ≤ 3000 → 1 ≤ hs.foldl (fun n r => min 3000 (n * szR r)) n ∧ hs.foldl (fun n r => min 3000 (n * szR r)) n ≤ 3000
  | [], n, _, h1, h2 => ⟨h1, h2⟩
  | r :: hs, n, h, h1, h2 => by
    have hz := h.sz (r := r) (by simp)
    have hm := mul_bd h1 h2 hz.1 hz.2
    exact many_bd hs (min 3000 (n * szR r)) (fun x hx => h x (by simp [hx])) (by omega) (by omega)
theorem c_Many (last : Int) (hs : List Rg) (step : Int) (lv : List Int) (ms : List Mk) (hv : Vr hs) (hl : hs.length ≤ 1000) : PureF Try.prog p64.ix [.ag [.i .i64 last, .lst 2 (rows rgD hs), .i .i64 step, .lst 1 (ints lv), .lst 4 (rows mkD ms)]] (.i .i64 (manyR hs)) := by
  have e1 := rows_length rgD hs
  refine PureF.run fn63 (by simp) (by simp [PuL, PuE, Pu, pu_ints, pu_rg, pu_mk]) ?_; conv => whnf
  repeat' first | ((first | (with_reducible first | apply WB.tt | apply WB.ff) | apply Rn.seq | apply Rn.reg | apply Rn.drw | apply Rn.blk | apply Rn.skip | apply Rn.ret | apply Rn.exit | apply Rn.cond rfl | refine i64_ (by omega) (by omega) ?_ | refine ne0_ (by omega) ?_ | refine WIx.intsN (by omega) ?_ | refine WIx.rowsN (by omega) ?_) <;> conv => whnf)
  refine Rn.loop (fun j : Nat => ⟨(.n (.n (.n .e (some (.i .i64 (manyR (hs.take j)))) .e) (some (.pt .h 0 0)) .e) none (.n (.n .e (some (.i .i64 (j : Int))) .e) none .e)), (.n .e (some (.cells false [.o (.i .i64 last) 0, .o (.lst 2 (rows rgD hs)) 0, .o (.i .i64 step) 0, .o (.lst 1 (ints lv)) 0, .o (.lst 4 (rows mkD ms)) 0] 1)) .e), .o .h, none⟩) (fun j => j ≤ hs.length) (fun j => hs.length - j) 0 ?_ ?_ ?_
  · (first | (refine X.le.mk ?_ ?_ (Nat.le_refl _) rfl rfl) | skip) <;> (repeat' first | exact T.le_e _ | refine T.le_some ?_ ?_ ?_ | refine T.le_none ?_ ?_ | rfl)
  · omega
  intro j hj
  have hb := many_bd (hs.take j) 1 (fun x hx => hv x (List.mem_of_mem_take hx)) (by omega) (by omega)
  have hb : 1 ≤ manyR (hs.take j) ∧ manyR (hs.take j) ≤ 3000 := hb
  conv => whnf
  repeat' first | ((first | (with_reducible first | apply WB.tt | apply WB.ff) | apply Rn.seq | apply Rn.reg | apply Rn.drw | apply Rn.blk | apply Rn.skip | apply Rn.ret | apply Rn.exit | apply Rn.cond rfl | refine i64_ (by omega) (by omega) ?_ | refine ne0_ (by omega) ?_ | refine WIx.intsN (by omega) ?_ | refine WIx.rowsN (by omega) ?_) <;> conv => whnf)
  refine WB.dec (fun h => ?_) (fun h => ?_) <;> conv => whnf
  · have hlt : j < hs.length := by omega
    have hr : hs.getD j default ∈ hs := getD_mem hlt
    have hz := hv.sz hr
    have hm := mul_bd hb.1 hb.2 hz.1 hz.2
    have hn : manyR (hs.take (j + 1)) = min 3000 (manyR (hs.take j) * szR (hs.getD j default)) := foldl_take_at hlt
    repeat' first | ((first | (with_reducible first | apply WB.tt | apply WB.ff) | apply Rn.seq | apply Rn.reg | apply Rn.drw | apply Rn.blk | apply Rn.skip | apply Rn.ret | apply Rn.exit | apply Rn.cond rfl | refine i64_ (by omega) (by omega) ?_ | refine ne0_ (by omega) ?_ | refine WIx.intsN (by omega) ?_ | refine WIx.rowsN (by omega) ?_ | refine WCall.pure (c_Size (hs.getD j default) (hv _ hr)) ?_) <;> conv => whnf)
    refine Again.to (j + 1) (by omega) (by omega) (Nat.le_refl _) ?_
    (refine Shr.of ?_ ?_ rfl rfl) <;> (repeat' first | exact Rel.e | refine Rel.some ?_ ?_ ?_ | refine Rel.none ?_ ?_) <;> (try first | (show Fz _ _ _ _; first | exact Fz.pu trivial | (refine Fz.i ?_; first | rfl | omega) | (refine Fz.kpt ?_; (focus (show Pos.nat _ < Pos.nat _; simp [Pos.nat]; done))) | (refine Fz.ksl ?_; (focus (show Pos.nat _ < Pos.nat _; simp [Pos.nat]; done))) | (refine Fz.kmp ?_; (focus (show Pos.nat _ < Pos.nat _; simp [Pos.nat]; done))) | (refine Fz.pu ?_; simp [Cell.d, Pu, PuL, PuE, pu_ints, pu_rg, pu_mk]; done) | (refine Fz.pu ?_; simp only [Cell.d]; assumption)) | (refine RO'.of ?_ (ShC.same ?_); (focus (show Pos.nat _ < Pos.nat _; simp [Pos.nat]; done)); (repeat' first | exact ShC.nl | refine ShC.cn ?_ ?_) <;> first | exact Fz.pu trivial | (refine Fz.i ?_; first | rfl | omega) | (refine Fz.kpt ?_; (focus (show Pos.nat _ < Pos.nat _; simp [Pos.nat]; done))) | (refine Fz.ksl ?_; (focus (show Pos.nat _ < Pos.nat _; simp [Pos.nat]; done))) | (refine Fz.kmp ?_; (focus (show Pos.nat _ < Pos.nat _; simp [Pos.nat]; done))) | (refine Fz.pu ?_; simp [Cell.d, Pu, PuL, PuE, pu_ints, pu_rg, pu_mk]; done) | (refine Fz.pu ?_; simp only [Cell.d]; assumption)))
    all_goals first | (refine Fz.i ?_; exact hn.symm) | (refine Fz.pu ?_; simp [Pu, pu_rg, pu_mk])
  · repeat' first | ((first | (with_reducible first | apply WB.tt | apply WB.ff) | apply Rn.seq | apply Rn.reg | apply Rn.drw | apply Rn.blk | apply Rn.skip | apply Rn.ret | apply Rn.exit | apply Rn.cond rfl | refine i64_ (by omega) (by omega) ?_ | refine ne0_ (by omega) ?_ | refine WIx.intsN (by omega) ?_ | refine WIx.rowsN (by omega) ?_) <;> conv => whnf)
    exact Fin.i rfl (by rw [List.take_of_length_le (by omega)])
def prodR (hs : List Rg) : Int := hs.foldl (fun n r => n * szR r) 1
theorem prod_up : ∀ (hs : List Rg) (n : Int), Vr hs → 1 ≤ n → n ≤ hs.foldl (fun n r => n * szR r) n
  | [], n, _, _ => Int.le_refl _
  | r :: hs, n, h, h1 => by
    have hz := h.sz (r := r) (by simp)
    have hm := mul_bd h1 (Int.le_refl n) hz.1 hz.2
    exact Int.le_trans hm.1 (prod_up hs (n * szR r) (fun x hx => h x (by simp [hx])) (by omega))
theorem prod_take {hs : List Rg} (h : Vr hs) (j : Nat) : 1 ≤ prodR (hs.take j) ∧ prodR (hs.take j) ≤ prodR hs := by
  have h1 : Vr (hs.take j) := fun x hx => h x (List.mem_of_mem_take hx)
  have h2 : Vr (hs.drop j) := fun x hx => h x (List.mem_of_mem_drop hx)
  have q1 := prod_up (hs.take j) 1 h1 (by omega)
  have q2 := prod_up (hs.drop j) (prodR (hs.take j)) h2 q1
  refine ⟨q1, ?_⟩
  unfold prodR at q2 ⊢
  rwa [← List.foldl_append, List.take_append_drop] at q2
theorem many_prod : ∀ (hs : List Rg) (n : Int), Vr hs → 1 ≤ n → n ≤ 3000 → hs.foldl (fun n r => min 3000 (n * szR r)) n = min 3000 (hs.foldl (fun n r => n * szR r) n)
  | [], n, _, _, h2 => by show n = min 3000 n; omega
  | r :: hs, n, h, h1, h2 => by
    have hz := h.sz (r := r) (by simp)
    have hm := mul_bd h1 h2 hz.1 hz.2
    have hv : Vr hs := fun x hx => h x (by simp [hx])
    show hs.foldl (fun n r => min 3000 (n * szR r)) (min 3000 (n * szR r)) = min 3000 (hs.foldl (fun n r => n * szR r) (n * szR r))
    by_cases hle : n * szR r ≤ 3000
    · rw [show min 3000 (n * szR r) = n * szR r by omega]
      exact many_prod hs _ hv (by omega) hle
    · rw [show min 3000 (n * szR r) = 3000 by omega, many_prod hs 3000 hv (by omega) (by omega)]
      have a1 := prod_up hs 3000 hv (by omega)
      have a2 := prod_up hs (n * szR r) hv (by omega)
      omega
theorem manyR_eq {hs : List Rg} (h : Vr hs) : manyR hs = min 3000 (prodR hs) := many_prod hs 1 h (by omega) (by omega)
theorem c_isTooWide (last : Int) (hs : List Rg) (step : Int) (lv : List Int) (ms : List Mk) (tr : D) (htr : Pu tr) (hv : Vr hs) (hl : hs.length ≤ 1000) : PureF Try.prog p70.ix [.ag [.i .i64 last, .lst 2 (rows rgD hs), .i .i64 step, .lst 1 (ints lv), .lst 4 (rows mkD ms), tr]] (.b (decide (2000 < prodR hs))) := by
  have e1 := rows_length rgD hs
  refine PureF.run fn69 (by simp) (by simp [PuL, PuE, Pu, pu_ints, pu_rg, pu_mk, htr]) ?_; conv => whnf
  repeat' first | ((first | (with_reducible first | apply WB.tt | apply WB.ff) | apply Rn.seq | apply Rn.reg | apply Rn.drw | apply Rn.blk | apply Rn.skip | apply Rn.ret | apply Rn.exit | apply Rn.cond rfl | refine i64_ (by omega) (by omega) ?_ | refine ne0_ (by omega) ?_ | refine WIx.intsN (by omega) ?_ | refine WIx.rowsN (by omega) ?_) <;> conv => whnf)
  refine Rn.loop (fun j : Nat => ⟨(.n (.n (.n .e (some (.i .i64 (prodR (hs.take j)))) .e) none (.n (.n .e (some (.i .i64 ((rows rgD hs).length : Int))) .e) none .e)) none (.n (.n (.n .e (some (.lst 2 (rows rgD hs))) .e) none .e) none (.n (.n .e (some (.i .i64 (j : Int))) .e) none .e))), .e, .o .h, none⟩) (fun j => j ≤ hs.length ∧ prodR (hs.take j) ≤ 2000) (fun j => hs.length - j) 0 ?_ ?_ ?_
  · (first | (refine X.le.mk ?_ ?_ (Nat.le_refl _) rfl rfl) | skip) <;> (repeat' first | exact T.le_e _ | refine T.le_some ?_ ?_ ?_ | refine T.le_none ?_ ?_ | rfl)
  · exact ⟨by omega, by simp [prodR]⟩
  rintro j ⟨hj, hp⟩
  obtain ⟨hb1, hb2⟩ := prod_take hv j
  conv => whnf
  repeat' first | ((first | (with_reducible first | apply WB.tt | apply WB.ff) | apply Rn.seq | apply Rn.reg | apply Rn.drw | apply Rn.blk | apply Rn.skip | apply Rn.ret | apply Rn.exit | apply Rn.cond rfl | refine i64_ (by omega) (by omega) ?_ | refine ne0_ (by omega) ?_ | refine WIx.intsN (by omega) ?_ | refine WIx.rowsN (by omega) ?_) <;> conv => whnf)
  refine WB.dec (fun h => ?_) (fun h => ?_) <;> conv => whnf
  · have hlt : j < hs.length := by omega
    have hr : hs.getD j default ∈ hs := getD_mem hlt
    have hz := hv.sz hr
    have hvr := hv _ hr
    have hm := mul_bd hb1 hp hz.1 hz.2
    have hn : prodR (hs.take (j + 1)) = prodR (hs.take j) * szR (hs.getD j default) := foldl_take_at hlt
    have hup := (prod_take hv (j + 1)).2
    rw [hn] at hup
    have hsz : szR (hs.getD j default) = (hs.getD j default).hi - (hs.getD j default).lo + 1 := rfl
    rw [hsz] at hm hn hup
    repeat' first | ((first | (with_reducible first | apply WB.tt | apply WB.ff) | apply Rn.seq | apply Rn.reg | apply Rn.drw | apply Rn.blk | apply Rn.skip | apply Rn.ret | apply Rn.exit | apply Rn.cond rfl | refine i64_ (by omega) (by omega) ?_ | refine ne0_ (by omega) ?_ | refine WIx.intsN (by omega) ?_ | refine WIx.rowsN (by omega) ?_ | (with_reducible first | refine WB.decT (by first | rfl | assumption | omega | exact ⟨rfl, rfl⟩) ?_ | refine WB.decF (by first | assumption | omega) ?_ | refine WB.ndT (by first | rfl | assumption | omega | exact ⟨rfl, rfl⟩) ?_ | refine WB.ndF (by first | assumption | omega) ?_ | apply WB.nt | apply WB.nf | refine WB.dec (fun h => ?_) (fun h => ?_) | refine WB.ndec (fun h => ?_) (fun h => ?_)) | refine WB.mk (fun h => ?_) (fun h => ?_)) <;> conv => whnf)
    · exact Fin.b rfl (decide_eq_true (by omega)).symm
    · refine Again.to (j + 1) (by omega) ⟨by omega, by rw [hn]; omega⟩ (Nat.le_refl _) ?_
      (refine Shr.of ?_ ?_ rfl rfl) <;> (repeat' first | exact Rel.e | refine Rel.some ?_ ?_ ?_ | refine Rel.none ?_ ?_) <;> (try first | (show Fz _ _ _ _; first | exact Fz.pu trivial | (refine Fz.i ?_; first | rfl | omega) | (refine Fz.kpt ?_; (focus (show Pos.nat _ < Pos.nat _; simp [Pos.nat]; done))) | (refine Fz.ksl ?_; (focus (show Pos.nat _ < Pos.nat _; simp [Pos.nat]; done))) | (refine Fz.kmp ?_; (focus (show Pos.nat _ < Pos.nat _; simp [Pos.nat]; done))) | (refine Fz.pu ?_; simp [Cell.d, Pu, PuL, PuE, pu_ints, pu_rg, pu_mk]; done) | (refine Fz.pu ?_; simp only [Cell.d]; assumption)) | (refine RO'.of ?_ (ShC.same ?_); (focus (show Pos.nat _ < Pos.nat _; simp [Pos.nat]; done)); (repeat' first | exact ShC.nl | refine ShC.cn ?_ ?_) <;> first | exact Fz.pu trivial | (refine Fz.i ?_; first | rfl | omega) | (refine Fz.kpt ?_; (focus (show Pos.nat _ < Pos.nat _; simp [Pos.nat]; done))) | (refine Fz.ksl ?_; (focus (show Pos.nat _ < Pos.nat _; simp [Pos.nat]; done))) | (refine Fz.kmp ?_; (focus (show Pos.nat _ < Pos.nat _; simp [Pos.nat]; done))) | (refine Fz.pu ?_; simp [Cell.d, Pu, PuL, PuE, pu_ints, pu_rg, pu_mk]; done) | (refine Fz.pu ?_; simp only [Cell.d]; assumption)))
      all_goals first | (refine Fz.i ?_; exact hn.symm) | (refine Fz.pu ?_; simp [Pu, pu_rg, pu_mk])
  · repeat' first | ((first | (with_reducible first | apply WB.tt | apply WB.ff) | apply Rn.seq | apply Rn.reg | apply Rn.drw | apply Rn.blk | apply Rn.skip | apply Rn.ret | apply Rn.exit | apply Rn.cond rfl | refine i64_ (by omega) (by omega) ?_ | refine ne0_ (by omega) ?_ | refine WIx.intsN (by omega) ?_ | refine WIx.rowsN (by omega) ?_) <;> conv => whnf)
    have : prodR (hs.take j) = prodR hs := by rw [List.take_of_length_le (by omega)]
    exact Fin.b rfl (decide_eq_false (by omega)).symm
end Go.Ev

namespace Go.Ev
open Go.Proofs
set_option maxRecDepth 100000
section
variable {sl : T D} {ob : T C} {nx : Pos} {lg : Option (T Bool)} {K : X → Prop}
noncomputable def lRK (lg : Option (T Bool)) (id : Pos) (k : Option (T Bool) → Prop) : Prop :=
  Option.casesOn lg (k none) fun L => Option.casesOn (L.get id) (T.setK id false L fun L => k (some L)) fun _ => k (some L)
noncomputable def lWK (lg : Option (T Bool)) (id : Pos) (k : Option (T Bool) → Prop) : Prop :=
  Option.casesOn lg (k none) fun L => T.setK id true L fun L => k (some L)
theorem lRK_ex {id : Pos} {k : Option (T Bool) → Prop} (h : lRK lg id k) : ∃ l, (logR lg id = fun j => j l) ∧ k l := by
  cases lg with
  | none => exact ⟨none, rfl, h⟩
  | some L =>
    change Option.rec _ _ (L.get id) at h
    cases hg : L.get id with
    | none =>
      rw [hg] at h
      change T.setK id false L _ at h
      rw [T.setK_eq] at h
      exact ⟨some (T.set id false L), funext fun j => by simp only [logR, hg, T.setK_eq], h⟩
    | some b => rw [hg] at h; exact ⟨some L, funext fun j => by simp only [logR, hg], h⟩
theorem lWK_ex {id : Pos} {k : Option (T Bool) → Prop} (h : lWK lg id k) : ∃ l, (logW lg id = fun j => j l) ∧ k l := by
  cases lg with
  | none => exact ⟨none, rfl, h⟩
  | some L =>
    change T.setK id true L _ at h
    rw [T.setK_eq] at h
    exact ⟨_, funext fun j => by show T.setK id true L _ = _; rw [T.setK_eq], h⟩
theorem WSt.app_firstL {d idy : Pos} {z curY : Nat} {roY : Bool} {x y : RX} {a : D} {r : List D} {csY : List Cell} (hx : opd sl x = some a) (ha : a = .ns ∨ a = .em) (hy : opd sl y = some (.sl idy 0 1 0 z)) (hoy : ob.get idy = some (.cells roY csY curY)) (hcy : csY = r.map fun d => Cell.o d 0) (hr : r.length = z)
    (h : lRK lg idy fun lg => lWK lg nx fun lg => T.setK nx (.cells false (r.map fun d => Cell.o d 0) 1) ob fun ob => Pos.succK nx fun nx' => wOut sl ob nx' lg d K (.sl nx 0 1 0 z)) : WSt (.app d z x y) ⟨sl, ob, nx, lg⟩ K := by
  obtain ⟨l1, e1, h⟩ := lRK_ex h
  obtain ⟨l2, e2, h⟩ := lWK_ex h
  rw [T.setK_eq, Pos.succK_eq] at h
  obtain ⟨h2, h3⟩ := wOut_ok h
  refine ⟨_, ?_, h3⟩
  show s_app d z x y sl ob nx lg = _
  unfold s_app
  rw [hx, hy]
  subst hcy hr
  have hb : Nat.beq r.length r.length = true := Nat.beq_refl _
  have hrd : readK (β := X) 0 (Nat.mul 1 r.length) (dropC 0 (r.map fun d => Cell.o d 0)) = fun k => k r := by
    rw [dropC_eq, List.drop_zero, show Nat.mul 1 r.length = r.length from Nat.one_mul _]
    have key : ∀ (l : List D) (k : List D → Option X), readK 0 l.length (l.map fun d => Cell.o d 0) k = k l := by
      intro l
      induction l with
      | nil => exact fun k => rfl
      | cons a l ih => exact fun k => ih fun ds => k (a :: ds)
    exact funext fun k => key r k
  simp only [srcK, hb, cond_true, hoy, hrd, logO, e1]
  have hle : Nat.ble (Nat.succ 0) 2147483648 = true := rfl
  rcases ha with rfl | rfl <;> simp only [hle, cond_true, openK_eq, freshK, e2, T.setK_eq, Pos.succK_eq] <;> exact h2
theorem WSt.app_oneL {d id idy : Pos} {z st len len' cur curY : Nat} {roY : Bool} {x y : RX} {ds r : List D} {csY : List Cell} {ob2 : T C} (hx : opd sl x = some (.sl id 0 len st z)) (hy : opd sl y = some (.sl idy 0 1 0 z)) (hoy : ob.get idy = some (.cells roY csY curY)) (hcy : csY = r.map fun d => Cell.o d 0) (hr : r.length = z) (hox : ob.get id = some (.cells false (ds.map fun d => Cell.o d st) cur)) (hds : ds.length = len * z) (hcur : cur = st + 1) (hlen : len' = len + 1) (hmax : len < 2147483648)
    (hob2 : T.set id (.cells false ((ds.map fun d => Cell.o d st) ++ r.map fun d => Cell.o d cur) (cur + 1)) ob = ob2) (h : lRK lg idy fun lg => lWK lg id fun lg => wOut sl ob2 nx lg d K (.sl id 0 len' cur z)) : WSt (.app d z x y) ⟨sl, ob, nx, lg⟩ K := by
  obtain ⟨l1, e1, h⟩ := lRK_ex h
  obtain ⟨l2, e2, h⟩ := lWK_ex h
  obtain ⟨h2, h3⟩ := wOut_ok h
  refine ⟨_, ?_, h3⟩
  show s_app d z x y sl ob nx lg = _
  unfold s_app
  rw [hx, hy]
  subst hcy hr hlen hob2
  have hb : Nat.beq r.length r.length = true := Nat.beq_refl _
  have hrd : readK (β := X) 0 (Nat.mul 1 r.length) (dropC 0 (r.map fun d => Cell.o d 0)) = fun k => k r := by
    rw [dropC_eq, List.drop_zero, show Nat.mul 1 r.length = r.length from Nat.one_mul _]
    have key : ∀ (l : List D) (k : List D → Option X), readK 0 l.length (l.map fun d => Cell.o d 0) k = k l := by
      intro l
      induction l with
      | nil => exact fun k => rfl
      | cons a l ih => exact fun k => ih fun ds => k (a :: ds)
    exact funext fun k => key r k
  simp only [srcK, hb, cond_true, hoy, hrd, logO, e1]
  simp only [hox]
  have hidx : Nat.add 0 (Nat.mul len r.length) = ds.length := by rw [hds]; exact Nat.zero_add _
  rw [hidx, growK_map ds cur _ hcur]
  simp only [List.append_nil, natK_eq, objOutK, e2, T.setK_eq]
  have e3 : Nat.add len (Nat.succ 0) = len + 1 := rfl
  rw [e3, Nat.ble_eq_true_of_le (show len + 1 ≤ 2147483648 from hmax)]
  exact h2
end
def near1 (step : Int) (t : List Int) (i : Nat) : Bool := decide (t.getD (i + 1) 0 - t.getD i 0 ≤ step ∧ t.getD i 0 - t.getD (i + 1) 0 ≤ step)
def nearB (step : Int) (t : List Int) : Bool := (List.range (t.length - 1)).all (near1 step t)
def Hts (t : List Int) : Prop := ∀ x ∈ t, 0 ≤ x ∧ x ≤ 99
theorem Hts.at {t : List Int} (h : Hts t) (i : Nat) : 0 ≤ t.getD i 0 ∧ t.getD i 0 ≤ 99 := by
  by_cases hi : i < t.length
  · exact h _ (getD_mem hi)
  · rw [List.getD_eq_getElem?_getD, List.getElem?_eq_none (by omega)]; exact ⟨by decide, by decide⟩
theorem c_Near (last : Int) (hs : List Rg) (step : Int) (lv : List Int) (ms : List Mk) (t : List Int) (ht : Hts t) (hl : t.length ≤ 1000) : PureF Try.prog p73.ix [.ag [.i .i64 last, .lst 2 (rows rgD hs), .i .i64 step, .lst 1 (ints lv), .lst 4 (rows mkD ms)], .lst 1 (ints t)] (.b (nearB step t)) := by
  have e1 := ints_length t
  refine PureF.run fn72 (by simp) (by simp [PuL, PuE, Pu, pu_ints, pu_rg, pu_mk]) ?_; conv => whnf
  repeat' first | ((first | (with_reducible first | apply WB.tt | apply WB.ff) | apply Rn.seq | apply Rn.reg | apply Rn.drw | apply Rn.blk | apply Rn.skip | apply Rn.ret | apply Rn.exit | apply Rn.cond rfl | refine i64_ (by omega) (by omega) ?_ | refine ne0_ (by omega) ?_ | refine WIx.intsN (by omega) ?_ | refine WIx.rowsN (by omega) ?_) <;> conv => whnf)
  refine Rn.loop (fun j : Nat => ⟨(.n (.n .e (some (.lst 1 (ints t))) (.n .e (some (.i .i64 ((j : Int) + 1))) .e)) none (.n .e (some (.pt .h 0 0)) .e)), (.n .e (some (.cells false [.o (.i .i64 last) 0, .o (.lst 2 (rows rgD hs)) 0, .o (.i .i64 step) 0, .o (.lst 1 (ints lv)) 0, .o (.lst 4 (rows mkD ms)) 0] 1)) .e), .o .h, none⟩) (fun j => (j = 0 ∨ j + 1 ≤ t.length) ∧ (List.range j).all (near1 step t) = true) (fun j => t.length - j) 0 ?_ ?_ ?_
  · (first | (refine X.le.mk ?_ ?_ (Nat.le_refl _) rfl rfl) | skip) <;> (repeat' first | exact T.le_e _ | refine T.le_some ?_ ?_ ?_ | refine T.le_none ?_ ?_ | rfl)
  · exact ⟨.inl rfl, by simp⟩
  rintro j ⟨hj, ha⟩
  conv => whnf
  repeat' first | ((first | (with_reducible first | apply WB.tt | apply WB.ff) | apply Rn.seq | apply Rn.reg | apply Rn.drw | apply Rn.blk | apply Rn.skip | apply Rn.ret | apply Rn.exit | apply Rn.cond rfl | refine i64_ (by omega) (by omega) ?_ | refine ne0_ (by omega) ?_ | refine WIx.intsN (by omega) ?_ | refine WIx.rowsN (by omega) ?_) <;> conv => whnf)
  refine WB.dec (fun h => ?_) (fun h => ?_) <;> conv => whnf
  · have hlt : j + 1 < t.length := by omega
    have i1 : ((j : Int) + 1).toNat = j + 1 := by omega
    have i2 : ((j : Int) + 1 - 1).toNat = j := by omega
    have b1 := ht.at (j + 1)
    have b2 := ht.at j
    repeat' first | ((first | (with_reducible first | apply WB.tt | apply WB.ff) | apply Rn.seq | apply Rn.reg | apply Rn.drw | apply Rn.blk | apply Rn.skip | apply Rn.ret | apply Rn.exit | apply Rn.cond rfl | refine i64_ (by omega) (by omega) ?_ | refine ne0_ (by omega) ?_ | refine WIx.intsN (by omega) ?_ | refine WIx.rowsN (by omega) ?_) <;> conv => whnf)
    refine WIx.ints (by omega) (by omega) ?_; conv => whnf
    rw [i2]
    refine And.intro (show InR .i64 (t.getD (j + 1) 0 - t.getD j 0) from InR.i64 (by omega) (by omega)) ?_; conv => whnf
    repeat' first | ((first | (with_reducible first | apply WB.tt | apply WB.ff) | apply Rn.seq | apply Rn.reg | apply Rn.drw | apply Rn.blk | apply Rn.skip | apply Rn.ret | apply Rn.exit | apply Rn.cond rfl | refine i64_ (by omega) (by omega) ?_ | refine ne0_ (by omega) ?_ | refine WIx.intsN (by omega) ?_ | refine WIx.rowsN (by omega) ?_) <;> conv => whnf)
    refine WB.dec (fun h => ?_) (fun h => ?_) <;> conv => whnf
    · have h1 : step < t.getD (j + 1) 0 - t.getD j 0 := h
      have hn : near1 step t j = false := decide_eq_false (by omega)
      repeat' first | ((first | (with_reducible first | apply WB.tt | apply WB.ff) | apply Rn.seq | apply Rn.reg | apply Rn.drw | apply Rn.blk | apply Rn.skip | apply Rn.ret | apply Rn.exit | apply Rn.cond rfl | refine i64_ (by omega) (by omega) ?_ | refine ne0_ (by omega) ?_ | refine WIx.intsN (by omega) ?_ | refine WIx.rowsN (by omega) ?_ | (with_reducible first | refine WB.decT (by first | rfl | assumption | omega | exact ⟨rfl, rfl⟩) ?_ | refine WB.decF (by first | assumption | omega) ?_ | refine WB.ndT (by first | rfl | assumption | omega | exact ⟨rfl, rfl⟩) ?_ | refine WB.ndF (by first | assumption | omega) ?_ | apply WB.nt | apply WB.nf | refine WB.dec (fun h => ?_) (fun h => ?_) | refine WB.ndec (fun h => ?_) (fun h => ?_)) | refine WB.mk (fun h => ?_) (fun h => ?_)) <;> conv => whnf)
      exact Fin.b rfl (range_all_false (by omega) hn).symm
    · have h1 : ¬ step < t.getD (j + 1) 0 - t.getD j 0 := h
      repeat' first | ((first | (with_reducible first | apply WB.tt | apply WB.ff) | apply Rn.seq | apply Rn.reg | apply Rn.drw | apply Rn.blk | apply Rn.skip | apply Rn.ret | apply Rn.exit | apply Rn.cond rfl | refine i64_ (by omega) (by omega) ?_ | refine ne0_ (by omega) ?_ | refine WIx.intsN (by omega) ?_ | refine WIx.rowsN (by omega) ?_) <;> conv => whnf)
      refine WIx.ints (by omega) (by omega) ?_; conv => whnf
      rw [i2]
      repeat' first | ((first | (with_reducible first | apply WB.tt | apply WB.ff) | apply Rn.seq | apply Rn.reg | apply Rn.drw | apply Rn.blk | apply Rn.skip | apply Rn.ret | apply Rn.exit | apply Rn.cond rfl | refine i64_ (by omega) (by omega) ?_ | refine ne0_ (by omega) ?_ | refine WIx.intsN (by omega) ?_ | refine WIx.rowsN (by omega) ?_) <;> conv => whnf)
      refine And.intro (show InR .i64 (t.getD j 0 - t.getD (j + 1) 0) from InR.i64 (by omega) (by omega)) ?_; conv => whnf
      repeat' first | ((first | (with_reducible first | apply WB.tt | apply WB.ff) | apply Rn.seq | apply Rn.reg | apply Rn.drw | apply Rn.blk | apply Rn.skip | apply Rn.ret | apply Rn.exit | apply Rn.cond rfl | refine i64_ (by omega) (by omega) ?_ | refine ne0_ (by omega) ?_ | refine WIx.intsN (by omega) ?_ | refine WIx.rowsN (by omega) ?_) <;> conv => whnf)
      refine WB.dec (fun h => ?_) (fun h => ?_) <;> conv => whnf
      · have h2 : step < t.getD j 0 - t.getD (j + 1) 0 := h
        have hn : near1 step t j = false := decide_eq_false (by omega)
        repeat' first | ((first | (with_reducible first | apply WB.tt | apply WB.ff) | apply Rn.seq | apply Rn.reg | apply Rn.drw | apply Rn.blk | apply Rn.skip | apply Rn.ret | apply Rn.exit | apply Rn.cond rfl | refine i64_ (by omega) (by omega) ?_ | refine ne0_ (by omega) ?_ | refine WIx.intsN (by omega) ?_ | refine WIx.rowsN (by omega) ?_ | (with_reducible first | refine WB.decT (by first | rfl | assumption | omega | exact ⟨rfl, rfl⟩) ?_ | refine WB.decF (by first | assumption | omega) ?_ | refine WB.ndT (by first | rfl | assumption | omega | exact ⟨rfl, rfl⟩) ?_ | refine WB.ndF (by first | assumption | omega) ?_ | apply WB.nt | apply WB.nf | refine WB.dec (fun h => ?_) (fun h => ?_) | refine WB.ndec (fun h => ?_) (fun h => ?_)) | refine WB.mk (fun h => ?_) (fun h => ?_)) <;> conv => whnf)
        exact Fin.b rfl (range_all_false (by omega) hn).symm
      · have h2 : ¬ step < t.getD j 0 - t.getD (j + 1) 0 := h
        have hn : near1 step t j = true := decide_eq_true (by omega)
        repeat' first | ((first | (with_reducible first | apply WB.tt | apply WB.ff) | apply Rn.seq | apply Rn.reg | apply Rn.drw | apply Rn.blk | apply Rn.skip | apply Rn.ret | apply Rn.exit | apply Rn.cond rfl | refine i64_ (by omega) (by omega) ?_ | refine ne0_ (by omega) ?_ | refine WIx.intsN (by omega) ?_ | refine WIx.rowsN (by omega) ?_ | (with_reducible first | refine WB.decT (by first | rfl | assumption | omega | exact ⟨rfl, rfl⟩) ?_ | refine WB.decF (by first | assumption | omega) ?_ | refine WB.ndT (by first | rfl | assumption | omega | exact ⟨rfl, rfl⟩) ?_ | refine WB.ndF (by first | assumption | omega) ?_ | apply WB.nt | apply WB.nf | refine WB.dec (fun h => ?_) (fun h => ?_) | refine WB.ndec (fun h => ?_) (fun h => ?_)) | refine WB.mk (fun h => ?_) (fun h => ?_)) <;> conv => whnf)
        refine Again.to (j + 1) (by omega) ⟨.inr (by omega), range_succ_all ha hn⟩ (Nat.le_refl _) ?_
        (refine Shr.of ?_ ?_ rfl rfl) <;> (repeat' first | exact Rel.e | refine Rel.some ?_ ?_ ?_ | refine Rel.none ?_ ?_) <;> (try first | (show Fz _ _ _ _; first | exact Fz.pu trivial | (refine Fz.i ?_; first | rfl | omega) | (refine Fz.kpt ?_; (focus (show Pos.nat _ < Pos.nat _; simp [Pos.nat]; done))) | (refine Fz.ksl ?_; (focus (show Pos.nat _ < Pos.nat _; simp [Pos.nat]; done))) | (refine Fz.kmp ?_; (focus (show Pos.nat _ < Pos.nat _; simp [Pos.nat]; done))) | (refine Fz.pu ?_; simp [Cell.d, Pu, PuL, PuE, pu_ints, pu_rg, pu_mk]; done) | (refine Fz.pu ?_; simp only [Cell.d]; assumption)) | (refine RO'.of ?_ (ShC.same ?_); (focus (show Pos.nat _ < Pos.nat _; simp [Pos.nat]; done)); (repeat' first | exact ShC.nl | refine ShC.cn ?_ ?_) <;> first | exact Fz.pu trivial | (refine Fz.i ?_; first | rfl | omega) | (refine Fz.kpt ?_; (focus (show Pos.nat _ < Pos.nat _; simp [Pos.nat]; done))) | (refine Fz.ksl ?_; (focus (show Pos.nat _ < Pos.nat _; simp [Pos.nat]; done))) | (refine Fz.kmp ?_; (focus (show Pos.nat _ < Pos.nat _; simp [Pos.nat]; done))) | (refine Fz.pu ?_; simp [Cell.d, Pu, PuL, PuE, pu_ints, pu_rg, pu_mk]; done) | (refine Fz.pu ?_; simp only [Cell.d]; assumption)))
        all_goals first | (refine Fz.i ?_; omega) | (refine Fz.pu ?_; simp [Pu, pu_ints, pu_rg, pu_mk])
  · repeat' first | ((first | (with_reducible first | apply WB.tt | apply WB.ff) | apply Rn.seq | apply Rn.reg | apply Rn.drw | apply Rn.blk | apply Rn.skip | apply Rn.ret | apply Rn.exit | apply Rn.cond rfl | refine i64_ (by omega) (by omega) ?_ | refine ne0_ (by omega) ?_ | refine WIx.intsN (by omega) ?_ | refine WIx.rowsN (by omega) ?_) <;> conv => whnf)
    refine Fin.b rfl ?_
    unfold nearB
    rw [show t.length - 1 = j by omega] at *
    exact ha.symm
def nthR : List Rg → Int → List Int
  | [], _ => []
  | r :: hs, n => (r.lo + n.tmod (szR r)) :: nthR hs (n.tdiv (szR r))
def quoR : List Rg → Int → Int
  | [], n => n
  | r :: hs, n => quoR hs (n.tdiv (szR r))
theorem nthR_length : ∀ (hs : List Rg) (n : Int), (nthR hs n).length = hs.length
  | [], _ => rfl
  | r :: hs, n => by show (nthR hs _).length + 1 = hs.length + 1; rw [nthR_length hs]
theorem quoR_take : ∀ (hs : List Rg) (n : Int) (j : Nat), j < hs.length → quoR (hs.take (j + 1)) n = (quoR (hs.take j) n).tdiv (szR (hs.getD j default))
  | [], _, j, h => by cases h
  | r :: hs, n, 0, _ => rfl
  | r :: hs, n, j + 1, h => quoR_take hs (n.tdiv (szR r)) j (by simpa using h)
theorem nthR_at : ∀ (hs : List Rg) (n : Int) (j : Nat), j < hs.length → (nthR hs n).getD j 0 = (hs.getD j default).lo + (quoR (hs.take j) n).tmod (szR (hs.getD j default))
  | [], _, j, h => by cases h
  | r :: hs, n, 0, _ => rfl
  | r :: hs, n, j + 1, h => nthR_at hs (n.tdiv (szR r)) j (by simpa using h)
theorem quo_le {w k : Int} {N : Int} (h0 : 0 ≤ w) (h1 : w ≤ N) (hk : 0 < k) : 0 ≤ w.tdiv k ∧ w.tdiv k ≤ N := by
  rw [Int.tdiv_eq_ediv_of_nonneg h0]
  exact ⟨Int.ediv_nonneg h0 (by omega), Int.le_trans (Int.ediv_le_self _ h0) h1⟩
theorem quoR_bd {N : Int} : ∀ (hs : List Rg) (n : Int), Vr hs → 0 ≤ n → n ≤ N → 0 ≤ quoR hs n ∧ quoR hs n ≤ N
  | [], n, _, h0, h1 => ⟨h0, h1⟩
  | r :: hs, n, hv, h0, h1 => by
    have hz := hv.sz (r := r) (by simp)
    have hq := quo_le h0 h1 (show 0 < szR r by omega)
    exact quoR_bd hs _ (fun x hx => hv x (by simp [hx])) hq.1 hq.2
theorem c_Nth (last : Int) (hs : List Rg) (step : Int) (lv : List Int) (ms : List Mk) (n : Int) (hv : Vr hs) (hl : hs.length ≤ 1000) (h0 : 0 ≤ n) (h1 : n ≤ 3000) : PureF Try.prog p87.ix [.ag [.i .i64 last, .lst 2 (rows rgD hs), .i .i64 step, .lst 1 (ints lv), .lst 4 (rows mkD ms)], .i .i64 n] (.lst 1 (ints (nthR hs n))) := by
  have e1 := rows_length rgD hs
  have eL := nthR_length hs n
  generalize hE : nthR hs n = E at *
  refine PureF.run fn86 (by simp) (by simp [PuL, PuE, Pu, pu_ints, pu_rg, pu_mk]) ?_; conv => whnf
  repeat' first | ((first | (with_reducible first | apply WB.tt | apply WB.ff) | apply Rn.seq | apply Rn.reg | apply Rn.drw | apply Rn.blk | apply Rn.skip | apply Rn.ret | apply Rn.exit | apply Rn.cond rfl | refine i64_ (by omega) (by omega) ?_ | refine ne0_ (by omega) ?_ | refine WIx.intsN (by omega) ?_ | refine WIx.rowsN (by omega) ?_) <;> conv => whnf)
  refine Rn.loop (fun j : Nat => match j with
    | 0 => ⟨(.n (.n .e (some (.i .i64 n)) (.n .e (some (.ns)) .e)) none (.n .e (some (.pt .h 0 0)) (.n .e (some (.i .i64 0)) .e))), (.n .e (some (.cells false [.o (.i .i64 last) 0, .o (.lst 2 (rows rgD hs)) 0, .o (.i .i64 step) 0, .o (.lst 1 (ints lv)) 0, .o (.lst 4 (rows mkD ms)) 0] 1)) .e), .o .h, none⟩
    | j + 1 => ⟨(.n (.n .e (some (.i .i64 (quoR (hs.take (j + 1)) n))) (.n .e (some (.sl (.o (.o .h)) 0 (j + 1) j 1)) .e)) none (.n .e (some (.pt .h 0 0)) (.n .e (some (.i .i64 ((j + 1 : Nat) : Int))) .e))), (.n (.n (.n .e (some (.cells false (((E.take (j + 1)).map fun n => D.i .i64 n).map fun d => Cell.o d j) (j + 1))) .e) none .e) (some (.cells false [.o (.i .i64 last) 0, .o (.lst 2 (rows rgD hs)) 0, .o (.i .i64 step) 0, .o (.lst 1 (ints lv)) 0, .o (.lst 4 (rows mkD ms)) 0] 1)) .e), .i (.o .h), none⟩) (fun j => j ≤ hs.length) (fun j => hs.length - j) 0 ?_ ?_ ?_
  · (first | (refine X.le.mk ?_ ?_ (Nat.le_refl _) rfl rfl) | skip) <;> (repeat' first | exact T.le_e _ | refine T.le_some ?_ ?_ ?_ | refine T.le_none ?_ ?_ | rfl)
  · omega
  rintro (_ | j) hj
  · conv => whnf
    repeat' first | ((first | (with_reducible first | apply WB.tt | apply WB.ff) | apply Rn.seq | apply Rn.reg | apply Rn.drw | apply Rn.blk | apply Rn.skip | apply Rn.ret | apply Rn.exit | apply Rn.cond rfl | refine i64_ (by omega) (by omega) ?_ | refine ne0_ (by omega) ?_ | refine WIx.intsN (by omega) ?_ | refine WIx.rowsN (by omega) ?_) <;> conv => whnf)
    refine WB.dec (fun h => ?_) (fun h => ?_) <;> conv => whnf
    · have hlt : 0 < hs.length := by omega
      have hr : hs.getD 0 default ∈ hs := getD_mem hlt
      have hz := hv.sz hr
      have hvr := hv _ hr
      have m1 := Int.tmod_nonneg (szR (hs.getD 0 default)) h0
      have m2 := Int.tmod_lt_of_pos n (show 0 < szR (hs.getD 0 default) by omega)
      have q1 := quo_le h0 h1 (show 0 < szR (hs.getD 0 default) by omega)
      have hat := nthR_at hs n 0 hlt
      rw [hE] at hat
      repeat' first | ((first | (with_reducible first | apply WB.tt | apply WB.ff) | apply Rn.seq | apply Rn.reg | apply Rn.drw | apply Rn.blk | apply Rn.skip | apply Rn.ret | apply Rn.exit | apply Rn.cond rfl | refine i64_ (by omega) (by omega) ?_ | refine ne0_ (by omega) ?_ | refine WIx.intsN (by omega) ?_ | refine WIx.rowsN (by omega) ?_ | refine WCall.pure (c_Size (hs.getD 0 default) hvr) ?_ | (with_reducible first | refine WB.decT (by first | rfl | assumption | omega | exact ⟨rfl, rfl⟩) ?_ | refine WB.decF (by first | assumption | omega) ?_ | refine WB.ndT (by first | rfl | assumption | omega | exact ⟨rfl, rfl⟩) ?_ | refine WB.ndF (by first | assumption | omega) ?_ | apply WB.nt | apply WB.nf | refine WB.dec (fun h => ?_) (fun h => ?_) | refine WB.ndec (fun h => ?_) (fun h => ?_)) | refine WB.mk (fun h => ?_) (fun h => ?_)) <;> conv => whnf)
      refine And.intro (show InR .i64 ((hs.getD 0 default).lo + n.tmod (szR (hs.getD 0 default))) from InR.i64 (by omega) (by omega)) ?_; conv => whnf
      repeat' first | ((first | (with_reducible first | apply WB.tt | apply WB.ff) | apply Rn.seq | apply Rn.reg | apply Rn.drw | apply Rn.blk | apply Rn.skip | apply Rn.ret | apply Rn.exit | apply Rn.cond rfl | refine i64_ (by omega) (by omega) ?_ | refine ne0_ (by omega) ?_ | refine WIx.intsN (by omega) ?_ | refine WIx.rowsN (by omega) ?_ | refine WCall.pure (c_Size (hs.getD 0 default) hvr) ?_ | (with_reducible first | refine WB.decT (by first | rfl | assumption | omega | exact ⟨rfl, rfl⟩) ?_ | refine WB.decF (by first | assumption | omega) ?_ | refine WB.ndT (by first | rfl | assumption | omega | exact ⟨rfl, rfl⟩) ?_ | refine WB.ndF (by first | assumption | omega) ?_ | apply WB.nt | apply WB.nf | refine WB.dec (fun h => ?_) (fun h => ?_) | refine WB.ndec (fun h => ?_) (fun h => ?_)) | refine WB.mk (fun h => ?_) (fun h => ?_)) <;> conv => whnf)
      refine WSt.app_firstL (r := [_]) rfl (.inl rfl) rfl rfl rfl rfl ?_; conv => whnf
      repeat' first | ((first | (with_reducible first | apply WB.tt | apply WB.ff) | apply Rn.seq | apply Rn.reg | apply Rn.drw | apply Rn.blk | apply Rn.skip | apply Rn.ret | apply Rn.exit | apply Rn.cond rfl | refine i64_ (by omega) (by omega) ?_ | refine ne0_ (by omega) ?_ | refine WIx.intsN (by omega) ?_ | refine WIx.rowsN (by omega) ?_ | refine WCall.pure (c_Size (hs.getD 0 default) hvr) ?_ | (with_reducible first | refine WB.decT (by first | rfl | assumption | omega | exact ⟨rfl, rfl⟩) ?_ | refine WB.decF (by first | assumption | omega) ?_ | refine WB.ndT (by first | rfl | assumption | omega | exact ⟨rfl, rfl⟩) ?_ | refine WB.ndF (by first | assumption | omega) ?_ | apply WB.nt | apply WB.nf | refine WB.dec (fun h => ?_) (fun h => ?_) | refine WB.ndec (fun h => ?_) (fun h => ?_)) | refine WB.mk (fun h => ?_) (fun h => ?_)) <;> conv => whnf)
      refine Again.to 1 (by omega) (by omega) (Nat.le_of_ble_eq_true rfl) ?_
      (refine Shr.of ?_ ?_ rfl rfl) <;> (repeat' first | exact Rel.e | refine Rel.some ?_ ?_ ?_ | refine Rel.none ?_ ?_) <;> (try first | (show Fz _ _ _ _; first | exact Fz.pu trivial | (refine Fz.i ?_; first | rfl | omega) | (refine Fz.kpt ?_; (focus (show Pos.nat _ < Pos.nat _; simp [Pos.nat]; done))) | (refine Fz.ksl ?_; (focus (show Pos.nat _ < Pos.nat _; simp [Pos.nat]; done))) | (refine Fz.kmp ?_; (focus (show Pos.nat _ < Pos.nat _; simp [Pos.nat]; done))) | (refine Fz.pu ?_; simp [Cell.d, Pu, PuL, PuE, pu_ints, pu_rg, pu_mk]; done) | (refine Fz.pu ?_; simp only [Cell.d]; assumption)) | (refine RO'.of ?_ (ShC.same ?_); (focus (show Pos.nat _ < Pos.nat _; simp [Pos.nat]; done)); (repeat' first | exact ShC.nl | refine ShC.cn ?_ ?_) <;> first | exact Fz.pu trivial | (refine Fz.i ?_; first | rfl | omega) | (refine Fz.kpt ?_; (focus (show Pos.nat _ < Pos.nat _; simp [Pos.nat]; done))) | (refine Fz.ksl ?_; (focus (show Pos.nat _ < Pos.nat _; simp [Pos.nat]; done))) | (refine Fz.kmp ?_; (focus (show Pos.nat _ < Pos.nat _; simp [Pos.nat]; done))) | (refine Fz.pu ?_; simp [Cell.d, Pu, PuL, PuE, pu_ints, pu_rg, pu_mk]; done) | (refine Fz.pu ?_; simp only [Cell.d]; assumption)))
      all_goals first | (refine Fz.pu ?_; simp [Cell.d, Pu, PuL, pu_ints, pu_rg, pu_mk]; done) | skip
      · rw [quoR_take hs n 0 hlt]; exact Fz.i rfl
      refine RO'.of (show Pos.nat _ < Pos.nat _ by simp [Pos.nat]) ?_
      have ht : E.take 1 = [E.getD 0 0] := by rw [take_succ_getD (j := 0) (d := 0) (by omega)]; simp
      show ShC _ _ _ (.cells false (((E.take 1).map fun n => D.i .i64 n).map fun d => Cell.o d 0) 1)
      rw [ht, hat]
      exact ShC.same (ShC.cn (.pu trivial) ShC.nl)
    · repeat' first | ((first | (with_reducible first | apply WB.tt | apply WB.ff) | apply Rn.seq | apply Rn.reg | apply Rn.drw | apply Rn.blk | apply Rn.skip | apply Rn.ret | apply Rn.exit | apply Rn.cond rfl | refine i64_ (by omega) (by omega) ?_ | refine ne0_ (by omega) ?_ | refine WIx.intsN (by omega) ?_ | refine WIx.rowsN (by omega) ?_) <;> conv => whnf)
      refine Fin.t (.inr rfl) rfl ?_
      rw [show E = [] from List.length_eq_zero_iff.1 (by omega)]
      exact Fz.ns
  · conv => whnf
    repeat' first | ((first | (with_reducible first | apply WB.tt | apply WB.ff) | apply Rn.seq | apply Rn.reg | apply Rn.drw | apply Rn.blk | apply Rn.skip | apply Rn.ret | apply Rn.exit | apply Rn.cond rfl | refine i64_ (by omega) (by omega) ?_ | refine ne0_ (by omega) ?_ | refine WIx.intsN (by omega) ?_ | refine WIx.rowsN (by omega) ?_) <;> conv => whnf)
    refine WB.dec (fun h => ?_) (fun h => ?_) <;> conv => whnf
    · have hlt : j + 1 < hs.length := by omega
      have hr : hs.getD (j + 1) default ∈ hs := getD_mem hlt
      have hz := hv.sz hr
      have hvr := hv _ hr
      have hqb := quoR_bd (N := 3000) (hs.take (j + 1)) n (fun x hx => hv x (List.mem_of_mem_take hx)) h0 h1
      have hqt := quoR_take hs n (j + 1) hlt
      have hat := nthR_at hs n (j + 1) hlt
      rw [hE] at hat
      generalize quoR (hs.take (j + 1)) n = q at *
      have m1 := Int.tmod_nonneg (szR (hs.getD (j + 1) default)) hqb.1
      have m2 := Int.tmod_lt_of_pos q (show 0 < szR (hs.getD (j + 1) default) by omega)
      have q1 := quo_le hqb.1 hqb.2 (show 0 < szR (hs.getD (j + 1) default) by omega)
      repeat' first | ((first | (with_reducible first | apply WB.tt | apply WB.ff) | apply Rn.seq | apply Rn.reg | apply Rn.drw | apply Rn.blk | apply Rn.skip | apply Rn.ret | apply Rn.exit | apply Rn.cond rfl | refine i64_ (by omega) (by omega) ?_ | refine ne0_ (by omega) ?_ | refine WIx.intsN (by omega) ?_ | refine WIx.rowsN (by omega) ?_ | refine WCall.pure (c_Size (hs.getD (j + 1) default) hvr) ?_ | (with_reducible first | refine WB.decT (by first | rfl | assumption | omega | exact ⟨rfl, rfl⟩) ?_ | refine WB.decF (by first | assumption | omega) ?_ | refine WB.ndT (by first | rfl | assumption | omega | exact ⟨rfl, rfl⟩) ?_ | refine WB.ndF (by first | assumption | omega) ?_ | apply WB.nt | apply WB.nf | refine WB.dec (fun h => ?_) (fun h => ?_) | refine WB.ndec (fun h => ?_) (fun h => ?_)) | refine WB.mk (fun h => ?_) (fun h => ?_)) <;> conv => whnf)
      refine WSt.app_oneL (ds := (E.take (j + 1)).map fun n => D.i .i64 n) (r := [_]) rfl rfl rfl rfl rfl rfl (by rw [List.length_map, List.length_take]; omega) rfl rfl (by omega) rfl ?_; conv => whnf
      repeat' first | ((first | (with_reducible first | apply WB.tt | apply WB.ff) | apply Rn.seq | apply Rn.reg | apply Rn.drw | apply Rn.blk | apply Rn.skip | apply Rn.ret | apply Rn.exit | apply Rn.cond rfl | refine i64_ (by omega) (by omega) ?_ | refine ne0_ (by omega) ?_ | refine WIx.intsN (by omega) ?_ | refine WIx.rowsN (by omega) ?_ | refine WCall.pure (c_Size (hs.getD (j + 1) default) hvr) ?_ | (with_reducible first | refine WB.decT (by first | rfl | assumption | omega | exact ⟨rfl, rfl⟩) ?_ | refine WB.decF (by first | assumption | omega) ?_ | refine WB.ndT (by first | rfl | assumption | omega | exact ⟨rfl, rfl⟩) ?_ | refine WB.ndF (by first | assumption | omega) ?_ | apply WB.nt | apply WB.nf | refine WB.dec (fun h => ?_) (fun h => ?_) | refine WB.ndec (fun h => ?_) (fun h => ?_)) | refine WB.mk (fun h => ?_) (fun h => ?_)) <;> conv => whnf)
      refine Again.to (j + 2) (by omega) (by omega) (Nat.le_of_ble_eq_true rfl) ?_
      (refine Shr.of ?_ ?_ rfl rfl) <;> (repeat' first | exact Rel.e | refine Rel.some ?_ ?_ ?_ | refine Rel.none ?_ ?_) <;> (try first | (show Fz _ _ _ _; first | exact Fz.pu trivial | (refine Fz.i ?_; first | rfl | omega) | (refine Fz.kpt ?_; (focus (show Pos.nat _ < Pos.nat _; simp [Pos.nat]; done))) | (refine Fz.ksl ?_; (focus (show Pos.nat _ < Pos.nat _; simp [Pos.nat]; done))) | (refine Fz.kmp ?_; (focus (show Pos.nat _ < Pos.nat _; simp [Pos.nat]; done))) | (refine Fz.pu ?_; simp [Cell.d, Pu, PuL, PuE, pu_ints, pu_rg, pu_mk]; done) | (refine Fz.pu ?_; simp only [Cell.d]; assumption)) | (refine RO'.of ?_ (ShC.same ?_); (focus (show Pos.nat _ < Pos.nat _; simp [Pos.nat]; done)); (repeat' first | exact ShC.nl | refine ShC.cn ?_ ?_) <;> first | exact Fz.pu trivial | (refine Fz.i ?_; first | rfl | omega) | (refine Fz.kpt ?_; (focus (show Pos.nat _ < Pos.nat _; simp [Pos.nat]; done))) | (refine Fz.ksl ?_; (focus (show Pos.nat _ < Pos.nat _; simp [Pos.nat]; done))) | (refine Fz.kmp ?_; (focus (show Pos.nat _ < Pos.nat _; simp [Pos.nat]; done))) | (refine Fz.pu ?_; simp [Cell.d, Pu, PuL, PuE, pu_ints, pu_rg, pu_mk]; done) | (refine Fz.pu ?_; simp only [Cell.d]; assumption)))
      all_goals first | (refine Fz.pu ?_; simp [Cell.d, Pu, PuL, pu_ints, pu_rg, pu_mk]; done) | skip
      refine RO'.of (show Pos.nat _ < Pos.nat _ by simp [Pos.nat]) ?_
      show ShC _ _ (.cells false ((((E.take (j + 1)).map fun n => D.i .i64 n).map fun d => Cell.o d j) ++ [_].map fun d => Cell.o d (j + 1)) (j + 1 + 1)) (.cells false (((E.take (j + 1 + 1)).map fun n => D.i .i64 n).map fun d => Cell.o d (j + 1)) (j + 1 + 1))
      rw [take_succ_getD (j := j + 1) (d := 0) (by omega), List.map_append, hat]
      exact ShC.grown (by omega) (PuL_iff.2 fun d hd => by
        rcases List.mem_append.1 hd with hd | hd
        · exact PuL_iff.1 (puL_map_i _) d hd
        · simp at hd; subst hd; exact trivial)
    · repeat' first | ((first | (with_reducible first | apply WB.tt | apply WB.ff) | apply Rn.seq | apply Rn.reg | apply Rn.drw | apply Rn.blk | apply Rn.skip | apply Rn.ret | apply Rn.exit | apply Rn.cond rfl | refine i64_ (by omega) (by omega) ?_ | refine ne0_ (by omega) ?_ | refine WIx.intsN (by omega) ?_ | refine WIx.rowsN (by omega) ?_) <;> conv => whnf)
      refine Fin.t (.inr rfl) rfl ?_
      refine Frz.whole (cs := ((E.take (j + 1)).map fun n => D.i .i64 n).map fun d => Cell.o d j) (cur := j + 1) rfl (by rw [ints_length]; omega) (ints_one _) (by rw [ints_flatten, List.take_of_length_le (by omega)]) (pu_ints _)
end Go.Ev
