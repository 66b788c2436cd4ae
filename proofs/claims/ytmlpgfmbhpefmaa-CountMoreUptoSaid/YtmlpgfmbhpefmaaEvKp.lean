import Derived.Test.YtmlpgfmbhpefmaaEvC1
import Derived.Test.YtmlpgfmbhpefmaaEvTc
import Derived.Test.YtmlpgfmbhpefmaaEvIt
set_option linter.all false
namespace Go.Ev
open Go.Proofs
set_option maxRecDepth 100000
structure Cnt where
  back : Bool
  many : Int
  number : Int
instance : Inhabited Cnt := ⟨⟨false, 0, 0⟩⟩
structure Rw where
  places : List Int
  counts : List Cnt
  wrong : Int
  off : Int
def cntD (c : Cnt) : List D := [.b c.back, .i .i64 c.many, .i .i64 c.number]
theorem pu_cnts (l : List Cnt) : PuE (rows cntD l) := pu_rows (fun _ => by simp [cntD, PuL, Pu]) l
def inB (n a b : Int) : Bool := decide (a ≤ n ∧ n ≤ b)
theorem c_In (n a b : Int) : PureF Try.prog p61.ix [.i .i64 n, .i .i64 a, .i .i64 b] (.b (inB n a b)) := by
  refine PureF.run fn60 (by simp) (by simp [PuL, PuE, Pu, pu_ints, pu_cnts]) ?_; conv => whnf
  repeat' first | ((with_reducible apply WB.tt); conv => whnf) | ((with_reducible apply WB.ff); conv => whnf) | (refine Rn.seq ?_; conv => whnf) | (refine Rn.reg ?_; conv => whnf) | (refine Rn.drw ?_; conv => whnf) | (refine Rn.blk ?_; conv => whnf) | (refine Rn.skip ?_; conv => whnf) | (refine Rn.ret ?_; conv => whnf) | (refine Rn.exit ?_; conv => whnf) | (refine Rn.cond rfl ?_; conv => whnf) | (refine And.intro (InR.i64 (by omega) (by omega)) ?_; conv => whnf) | (refine WIx.intsN (by omega) ?_; conv => whnf) | (refine WIx.rowsN (by omega) ?_; conv => whnf)
  refine WB.dec (fun h => ?_) (fun h => ?_) <;> conv => whnf
  all_goals repeat' first | ((with_reducible apply WB.tt); conv => whnf) | ((with_reducible apply WB.ff); conv => whnf) | (refine Rn.seq ?_; conv => whnf) | (refine Rn.reg ?_; conv => whnf) | (refine Rn.drw ?_; conv => whnf) | (refine Rn.blk ?_; conv => whnf) | (refine Rn.skip ?_; conv => whnf) | (refine Rn.ret ?_; conv => whnf) | (refine Rn.exit ?_; conv => whnf) | (refine Rn.cond rfl ?_; conv => whnf) | (refine And.intro (InR.i64 (by omega) (by omega)) ?_; conv => whnf) | (refine WIx.intsN (by omega) ?_; conv => whnf) | (refine WIx.rowsN (by omega) ?_; conv => whnf)
  all_goals exact Fin.b rfl (by simp [h, inB])
theorem c_upTo (n m : Int) : PureF Try.prog p73.ix [.i .i64 n, .i .i64 m] (.b (inB n 0 m)) := by
  refine PureF.run fn72 (by simp) (by simp [PuL, PuE, Pu, pu_ints, pu_cnts]) ?_; conv => whnf
  repeat' first | ((with_reducible apply WB.tt); conv => whnf) | ((with_reducible apply WB.ff); conv => whnf) | (refine Rn.seq ?_; conv => whnf) | (refine Rn.reg ?_; conv => whnf) | (refine Rn.drw ?_; conv => whnf) | (refine Rn.blk ?_; conv => whnf) | (refine Rn.skip ?_; conv => whnf) | (refine Rn.ret ?_; conv => whnf) | (refine Rn.exit ?_; conv => whnf) | (refine Rn.cond rfl ?_; conv => whnf) | (refine And.intro (InR.i64 (by omega) (by omega)) ?_; conv => whnf) | (refine WIx.intsN (by omega) ?_; conv => whnf) | (refine WIx.rowsN (by omega) ?_; conv => whnf)
  refine WB.dec (fun h => ?_) (fun h => ?_) <;> conv => whnf
  all_goals repeat' first | ((with_reducible apply WB.tt); conv => whnf) | ((with_reducible apply WB.ff); conv => whnf) | (refine Rn.seq ?_; conv => whnf) | (refine Rn.reg ?_; conv => whnf) | (refine Rn.drw ?_; conv => whnf) | (refine Rn.blk ?_; conv => whnf) | (refine Rn.skip ?_; conv => whnf) | (refine Rn.ret ?_; conv => whnf) | (refine Rn.exit ?_; conv => whnf) | (refine Rn.cond rfl ?_; conv => whnf) | (refine And.intro (InR.i64 (by omega) (by omega)) ?_; conv => whnf) | (refine WIx.intsN (by omega) ?_; conv => whnf) | (refine WIx.rowsN (by omega) ?_; conv => whnf)
  all_goals exact Fin.b rfl (by simp [h, inB])
theorem c_validPlace (n : Int) : PureF Try.prog p70.ix [.i .i64 n] (.b (inB n 0 2)) := by
  refine PureF.run fn69 (by simp) (by simp [PuL, PuE, Pu, pu_ints, pu_cnts]) ?_; conv => whnf
  repeat' first | ((with_reducible apply WB.tt); conv => whnf) | ((with_reducible apply WB.ff); conv => whnf) | (refine Rn.seq ?_; conv => whnf) | (refine Rn.reg ?_; conv => whnf) | (refine Rn.drw ?_; conv => whnf) | (refine Rn.blk ?_; conv => whnf) | (refine Rn.skip ?_; conv => whnf) | (refine Rn.ret ?_; conv => whnf) | (refine Rn.exit ?_; conv => whnf) | (refine Rn.cond rfl ?_; conv => whnf) | (refine And.intro (InR.i64 (by omega) (by omega)) ?_; conv => whnf) | (refine WIx.intsN (by omega) ?_; conv => whnf) | (refine WIx.rowsN (by omega) ?_; conv => whnf) | (refine WCall.pure (c_upTo _ _) ?_; conv => whnf)
  all_goals exact Fin.b rfl rfl

def cntOk (n : Int) (c : Cnt) : Bool := inB c.many 0 n && inB c.number 0 9
def faultR (l : List Int) (cs : List Cnt) (wr off : Int) : Int :=
  if 9 < l.length ∨ 6 < cs.length then 3
  else if l.length = 0 ∨ inB wr 0 6 = false ∨ inB off 0 9 = false then 1
  else if l.all (inB · 0 2) = true then if cs.all (cntOk l.length) = true then 0 else 1 else 1
theorem c_Fault (l : List Int) (cs : List Cnt) (wr off : Int) : PureF Try.prog p64.ix [.ag [.lst 1 (ints l), .lst 3 (rows cntD cs), .i .i64 wr, .i .i64 off]] (.i .i64 (faultR l cs wr off)) := by
  have e1 := ints_length l
  have e2 := rows_length cntD cs
  refine PureF.run fn63 (by simp) (by simp [PuL, PuE, Pu, pu_ints, pu_cnts]) ?_; conv => whnf
  repeat' first | ((with_reducible apply WB.tt); conv => whnf) | ((with_reducible apply WB.ff); conv => whnf) | (refine Rn.seq ?_; conv => whnf) | (refine Rn.reg ?_; conv => whnf) | (refine Rn.drw ?_; conv => whnf) | (refine Rn.blk ?_; conv => whnf) | (refine Rn.skip ?_; conv => whnf) | (refine Rn.ret ?_; conv => whnf) | (refine Rn.exit ?_; conv => whnf) | (refine Rn.cond rfl ?_; conv => whnf) | (refine And.intro (InR.i64 (by omega) (by omega)) ?_; conv => whnf) | (refine WIx.intsN (by omega) ?_; conv => whnf) | (refine WIx.rowsN (by omega) ?_; conv => whnf) | (refine WCall.pure (c_In _ _ _) ?_; conv => whnf) | ((with_reducible refine WB.dec (fun h => ?_) (fun h => ?_)) <;> conv => whnf) | ((with_reducible refine WB.ndec (fun h => ?_) (fun h => ?_)) <;> conv => whnf) | (refine WB.mk (fun h => ?_) (fun h => ?_) <;> conv => whnf)
  all_goals try (exact Fin.i rfl (by unfold faultR; first | (rw [if_pos (by omega)]; done) | (rw [if_neg (by omega), if_pos (by simp_all)]; done) | (rw [if_neg (by omega), if_pos (by left; omega)]; done)))
  rename_i h2 h3 h4 h5
  have h6 := h
  have hw : inB wr 0 6 = true := by simpa using h5
  have ho : inB off 0 9 = true := by simpa using h6
  have f1 : faultR l cs wr off = if l.all (inB · 0 2) = true then if cs.all (cntOk l.length) = true then 0 else 1 else 1 := by
    unfold faultR
    rw [if_neg (by omega), if_neg (by rintro (h | h | h); omega; rw [hw] at h; cases h; rw [ho] at h; cases h)]
  clear h5 h6
  rw [f1]
  refine Rn.loop (fun j : Nat => ⟨(.n (.n (.n .e (some (.i .i64 ((ints l).length : Int))) .e) (some (.pt .h 0 0)) .e) none (.n (.n .e (some (.i .i64 (j : Int))) .e) none .e)), (.n .e (some (.cells false [.o (.lst 1 (ints l)) 0, .o (.lst 3 (rows cntD cs)) 0, .o (.i .i64 wr) 0, .o (.i .i64 off) 0] 1)) .e), .o .h, none⟩) (fun j => j ≤ l.length ∧ (l.take j).all (inB · 0 2) = true) (fun j => l.length - j) 0 ?_ ?_ ?_
  · (first | (refine X.le.mk ?_ ?_ (Nat.le_refl _) rfl rfl) | skip) <;> (repeat' first | exact T.le_e _ | refine T.le_some ?_ ?_ ?_ | refine T.le_none ?_ ?_ | rfl)
  · exact ⟨by omega, by simp⟩
  rintro j ⟨hj, ha⟩
  conv => whnf
  repeat' first | ((with_reducible apply WB.tt); conv => whnf) | ((with_reducible apply WB.ff); conv => whnf) | (refine Rn.seq ?_; conv => whnf) | (refine Rn.reg ?_; conv => whnf) | (refine Rn.drw ?_; conv => whnf) | (refine Rn.blk ?_; conv => whnf) | (refine Rn.skip ?_; conv => whnf) | (refine Rn.ret ?_; conv => whnf) | (refine Rn.exit ?_; conv => whnf) | (refine Rn.cond rfl ?_; conv => whnf) | (refine And.intro (InR.i64 (by omega) (by omega)) ?_; conv => whnf) | (refine WIx.intsN (by omega) ?_; conv => whnf) | (refine WIx.rowsN (by omega) ?_; conv => whnf) | (refine WCall.pure (c_In _ _ _) ?_; conv => whnf) | ((with_reducible refine WB.dec (fun h => ?_) (fun h => ?_)) <;> conv => whnf) | ((with_reducible refine WB.ndec (fun h => ?_) (fun h => ?_)) <;> conv => whnf) | (refine WB.mk (fun h => ?_) (fun h => ?_) <;> conv => whnf)
  · exact Fin.i rfl (by rw [if_neg (by rw [all_false (d := 0) (i := j) (by omega) (by simpa using h)]; simp)])
  · refine Again.to (j + 1) (by omega) ⟨by omega, all_take_succ (d := 0) (by omega) ha (by simpa using h)⟩ (Nat.le_refl _) ?_
    (refine Shr.of ?_ ?_ rfl rfl) <;> (repeat' first | exact Rel.e | refine Rel.some ?_ ?_ ?_ | refine Rel.none ?_ ?_) <;> (try first | (show Fz _ _ _ _; first | exact Fz.pu trivial | (refine Fz.i ?_; first | rfl | omega) | (refine Fz.kpt ?_; (focus (show Pos.nat _ < Pos.nat _; simp [Pos.nat]; done))) | (refine Fz.ksl ?_; (focus (show Pos.nat _ < Pos.nat _; simp [Pos.nat]; done))) | (refine Fz.kmp ?_; (focus (show Pos.nat _ < Pos.nat _; simp [Pos.nat]; done))) | (refine Fz.pu ?_; simp [Cell.d, Pu, PuL, PuE, pu_ints, pu_cnts]; done)) | (refine RO'.of ?_ (ShC.same ?_); (focus (show Pos.nat _ < Pos.nat _; simp [Pos.nat]; done)); (repeat' first | exact ShC.nl | refine ShC.cn ?_ ?_) <;> first | exact Fz.pu trivial | (refine Fz.i ?_; first | rfl | omega) | (refine Fz.kpt ?_; (focus (show Pos.nat _ < Pos.nat _; simp [Pos.nat]; done))) | (refine Fz.ksl ?_; (focus (show Pos.nat _ < Pos.nat _; simp [Pos.nat]; done))) | (refine Fz.kmp ?_; (focus (show Pos.nat _ < Pos.nat _; simp [Pos.nat]; done))) | (refine Fz.pu ?_; simp [Cell.d, Pu, PuL, PuE, pu_ints, pu_cnts]; done)))
  rw [if_pos (all_end (by omega) ha)]
  refine Rn.loop (fun j : Nat => ⟨(.n (.n (.n .e (some (.i .i64 ((ints l).length : Int))) .e) (some (.pt .h 0 0)) (.n .e (some (.i .i64 (j : Int))) .e)) none .e), (.n .e (some (.cells false [.o (.lst 1 (ints l)) 0, .o (.lst 3 (rows cntD cs)) 0, .o (.i .i64 wr) 0, .o (.i .i64 off) 0] 1)) .e), .o .h, none⟩) (fun j => j ≤ cs.length ∧ (cs.take j).all (cntOk l.length) = true) (fun j => cs.length - j) 0 ?_ ?_ ?_
  · (first | (refine X.le.mk ?_ ?_ (Nat.le_refl _) rfl rfl) | skip) <;> (repeat' first | exact T.le_e _ | refine T.le_some ?_ ?_ ?_ | refine T.le_none ?_ ?_ | rfl)
  · exact ⟨by omega, by simp⟩
  rintro k ⟨hk, hb⟩
  conv => whnf
  repeat' first | ((with_reducible apply WB.tt); conv => whnf) | ((with_reducible apply WB.ff); conv => whnf) | (refine Rn.seq ?_; conv => whnf) | (refine Rn.reg ?_; conv => whnf) | (refine Rn.drw ?_; conv => whnf) | (refine Rn.blk ?_; conv => whnf) | (refine Rn.skip ?_; conv => whnf) | (refine Rn.ret ?_; conv => whnf) | (refine Rn.exit ?_; conv => whnf) | (refine Rn.cond rfl ?_; conv => whnf) | (refine And.intro (InR.i64 (by omega) (by omega)) ?_; conv => whnf) | (refine WIx.intsN (by omega) ?_; conv => whnf) | (refine WIx.rowsN (by omega) ?_; conv => whnf) | (refine WCall.pure (c_In _ _ _) ?_; conv => whnf) | ((with_reducible refine WB.dec (fun h => ?_) (fun h => ?_)) <;> conv => whnf) | ((with_reducible refine WB.ndec (fun h => ?_) (fun h => ?_)) <;> conv => whnf) | (refine WB.mk (fun h => ?_) (fun h => ?_) <;> conv => whnf)
  · exact Fin.i rfl (by rw [if_neg (by rw [all_false (d := default) (i := k) (by omega) (by rw [e1] at h; simp only [Bool.not_eq_true'] at h; simp only [cntOk, h, Bool.false_and])]; simp)])
  · exact Fin.i rfl (by rw [if_neg (by rw [all_false (d := default) (i := k) (by omega) (by simp only [Bool.not_eq_true'] at h; simp only [cntOk, h, Bool.and_false])]; simp)])
  · rename_i q1 q2
    refine Again.to (k + 1) (by omega) ⟨by omega, all_take_succ (d := default) (by omega) hb (by rw [e1] at q2; simp only [Bool.not_eq_false'] at q2 h; simp only [cntOk, q2, h, Bool.and_true])⟩ (Nat.le_refl _) ?_
    (refine Shr.of ?_ ?_ rfl rfl) <;> (repeat' first | exact Rel.e | refine Rel.some ?_ ?_ ?_ | refine Rel.none ?_ ?_) <;> (try first | (show Fz _ _ _ _; first | exact Fz.pu trivial | (refine Fz.i ?_; first | rfl | omega) | (refine Fz.kpt ?_; (focus (show Pos.nat _ < Pos.nat _; simp [Pos.nat]; done))) | (refine Fz.ksl ?_; (focus (show Pos.nat _ < Pos.nat _; simp [Pos.nat]; done))) | (refine Fz.kmp ?_; (focus (show Pos.nat _ < Pos.nat _; simp [Pos.nat]; done))) | (refine Fz.pu ?_; simp [Cell.d, Pu, PuL, PuE, pu_ints, pu_cnts]; done)) | (refine RO'.of ?_ (ShC.same ?_); (focus (show Pos.nat _ < Pos.nat _; simp [Pos.nat]; done)); (repeat' first | exact ShC.nl | refine ShC.cn ?_ ?_) <;> first | exact Fz.pu trivial | (refine Fz.i ?_; first | rfl | omega) | (refine Fz.kpt ?_; (focus (show Pos.nat _ < Pos.nat _; simp [Pos.nat]; done))) | (refine Fz.ksl ?_; (focus (show Pos.nat _ < Pos.nat _; simp [Pos.nat]; done))) | (refine Fz.kmp ?_; (focus (show Pos.nat _ < Pos.nat _; simp [Pos.nat]; done))) | (refine Fz.pu ?_; simp [Cell.d, Pu, PuL, PuE, pu_ints, pu_cnts]; done)))
  · exact Fin.i rfl (by rw [if_pos (all_end (by omega) hb)])
end Go.Ev

namespace Go.Ev
open Go.Proofs
set_option maxRecDepth 100000
def unk (l : List Int) : Nat := l.countP (· == 2)
theorem countP_take_succ {α : Type} {l : List α} {p : α → Bool} {i : Nat} {d : α} (h : i < l.length) : (l.take (i + 1)).countP p = (l.take i).countP p + if p (l.getD i d) then 1 else 0 := by
  rw [List.take_succ_eq_append_getElem h, List.countP_append]
  simp [List.countP_cons, List.getD, h]
theorem countP_take_le {α : Type} {l : List α} {p : α → Bool} (i : Nat) : (l.take i).countP p ≤ i := Nat.le_trans List.countP_le_length (by simp; omega)
theorem c_Unknown (l : List Int) (cs : List Cnt) (wr off : Int) (hl : l.length ≤ 1000) : PureF Try.prog p65.ix [.ag [.lst 1 (ints l), .lst 3 (rows cntD cs), .i .i64 wr, .i .i64 off]] (.i .i64 (unk l)) := by
  have e1 := ints_length l
  refine PureF.run fn64 (by simp) (by simp [PuL, PuE, Pu, pu_ints, pu_cnts]) ?_; conv => whnf
  repeat' first | ((with_reducible apply WB.tt); conv => whnf) | ((with_reducible apply WB.ff); conv => whnf) | (refine Rn.seq ?_; conv => whnf) | (refine Rn.reg ?_; conv => whnf) | (refine Rn.drw ?_; conv => whnf) | (refine Rn.blk ?_; conv => whnf) | (refine Rn.skip ?_; conv => whnf) | (refine Rn.ret ?_; conv => whnf) | (refine Rn.exit ?_; conv => whnf) | (refine Rn.cond rfl ?_; conv => whnf) | (refine And.intro (InR.i64 (by omega) (by omega)) ?_; conv => whnf) | (refine WIx.intsN (by omega) ?_; conv => whnf) | (refine WIx.rowsN (by omega) ?_; conv => whnf)
  refine Rn.loop (fun j : Nat => ⟨(.n (.n (.n .e (some (.i .i64 (((l.take j).countP (· == 2) : Nat) : Int))) .e) (some (.pt .h 0 0)) .e) none (.n (.n .e (some (.i .i64 (j : Int))) .e) none .e)), (.n .e (some (.cells false [.o (.lst 1 (ints l)) 0, .o (.lst 3 (rows cntD cs)) 0, .o (.i .i64 wr) 0, .o (.i .i64 off) 0] 1)) .e), .o .h, none⟩) (fun j => j ≤ l.length) (fun j => l.length - j) 0 ?_ ?_ ?_
  · (first | (refine X.le.mk ?_ ?_ (Nat.le_refl _) rfl rfl) | skip) <;> (repeat' first | exact T.le_e _ | refine T.le_some ?_ ?_ ?_ | refine T.le_none ?_ ?_ | rfl)
  · omega
  intro j hj
  have hc := countP_take_le (l := l) (p := (· == 2)) j
  conv => whnf
  repeat' first | ((with_reducible apply WB.tt); conv => whnf) | ((with_reducible apply WB.ff); conv => whnf) | (refine Rn.seq ?_; conv => whnf) | (refine Rn.reg ?_; conv => whnf) | (refine Rn.drw ?_; conv => whnf) | (refine Rn.blk ?_; conv => whnf) | (refine Rn.skip ?_; conv => whnf) | (refine Rn.ret ?_; conv => whnf) | (refine Rn.exit ?_; conv => whnf) | (refine Rn.cond rfl ?_; conv => whnf) | (refine And.intro (InR.i64 (by omega) (by omega)) ?_; conv => whnf) | (refine WIx.intsN (by omega) ?_; conv => whnf) | (refine WIx.rowsN (by omega) ?_; conv => whnf) | ((with_reducible refine WB.dec (fun h => ?_) (fun h => ?_)) <;> conv => whnf) | ((with_reducible refine WB.ndec (fun h => ?_) (fun h => ?_)) <;> conv => whnf) | (refine WB.mk (fun h => ?_) (fun h => ?_) <;> conv => whnf)
  · refine Again.to (j + 1) (by omega) (by omega) (Nat.le_refl _) ?_
    (refine Shr.of ?_ ?_ rfl rfl) <;> (repeat' first | exact Rel.e | refine Rel.some ?_ ?_ ?_ | refine Rel.none ?_ ?_) <;> (try first | (show Fz _ _ _ _; first | exact Fz.pu trivial | (refine Fz.i ?_; first | rfl | omega) | (refine Fz.kpt ?_; (focus (show Pos.nat _ < Pos.nat _; simp [Pos.nat]; done))) | (refine Fz.ksl ?_; (focus (show Pos.nat _ < Pos.nat _; simp [Pos.nat]; done))) | (refine Fz.kmp ?_; (focus (show Pos.nat _ < Pos.nat _; simp [Pos.nat]; done))) | (refine Fz.pu ?_; simp [Cell.d, Pu, PuL, PuE, pu_ints, pu_cnts]; done)) | (refine RO'.of ?_ (ShC.same ?_); (focus (show Pos.nat _ < Pos.nat _; simp [Pos.nat]; done)); (repeat' first | exact ShC.nl | refine ShC.cn ?_ ?_) <;> first | exact Fz.pu trivial | (refine Fz.i ?_; first | rfl | omega) | (refine Fz.kpt ?_; (focus (show Pos.nat _ < Pos.nat _; simp [Pos.nat]; done))) | (refine Fz.ksl ?_; (focus (show Pos.nat _ < Pos.nat _; simp [Pos.nat]; done))) | (refine Fz.kmp ?_; (focus (show Pos.nat _ < Pos.nat _; simp [Pos.nat]; done))) | (refine Fz.pu ?_; simp [Cell.d, Pu, PuL, PuE, pu_ints, pu_cnts]; done)))
    show Fz _ _ (.i .i64 (((l.take j).countP (· == 2) : Nat) + 1)) _
    rw [countP_take_succ (d := 0) (by omega), h]
    exact Fz.pu trivial
  · refine Again.to (j + 1) (by omega) (by omega) (Nat.le_refl _) ?_
    (refine Shr.of ?_ ?_ rfl rfl) <;> (repeat' first | exact Rel.e | refine Rel.some ?_ ?_ ?_ | refine Rel.none ?_ ?_) <;> (try first | (show Fz _ _ _ _; first | exact Fz.pu trivial | (refine Fz.i ?_; first | rfl | omega) | (refine Fz.kpt ?_; (focus (show Pos.nat _ < Pos.nat _; simp [Pos.nat]; done))) | (refine Fz.ksl ?_; (focus (show Pos.nat _ < Pos.nat _; simp [Pos.nat]; done))) | (refine Fz.kmp ?_; (focus (show Pos.nat _ < Pos.nat _; simp [Pos.nat]; done))) | (refine Fz.pu ?_; simp [Cell.d, Pu, PuL, PuE, pu_ints, pu_cnts]; done)) | (refine RO'.of ?_ (ShC.same ?_); (focus (show Pos.nat _ < Pos.nat _; simp [Pos.nat]; done)); (repeat' first | exact ShC.nl | refine ShC.cn ?_ ?_) <;> first | exact Fz.pu trivial | (refine Fz.i ?_; first | rfl | omega) | (refine Fz.kpt ?_; (focus (show Pos.nat _ < Pos.nat _; simp [Pos.nat]; done))) | (refine Fz.ksl ?_; (focus (show Pos.nat _ < Pos.nat _; simp [Pos.nat]; done))) | (refine Fz.kmp ?_; (focus (show Pos.nat _ < Pos.nat _; simp [Pos.nat]; done))) | (refine Fz.pu ?_; simp [Cell.d, Pu, PuL, PuE, pu_ints, pu_cnts]; done)))
    show Fz _ _ (.i .i64 (((l.take j).countP (· == 2) : Nat) : Int)) _
    rw [countP_take_succ (d := 0) (by omega), if_neg (by simpa using h)]
    exact Fz.pu trivial
  · exact Fin.i rfl (by rw [List.take_of_length_le (by omega)]; rfl)
def thinB (l : List Int) (cs : List Cnt) (wr off : Int) : Bool := decide (l.length ≤ 11) && (decide (cs.length ≤ 8) && (!decide (faultR l cs wr off = 0) || decide (unk l ≤ 6)))
theorem c_Thin (l : List Int) (cs : List Cnt) (wr off : Int) : PureF Try.prog p19.ix [.ag [.lst 1 (ints l), .lst 3 (rows cntD cs), .i .i64 wr, .i .i64 off]] (.b (thinB l cs wr off)) := by
  have e1 := ints_length l
  have e2 := rows_length cntD cs
  refine PureF.run fn18 (by simp) (by simp [PuL, PuE, Pu, pu_ints, pu_cnts]) ?_; conv => whnf
  repeat' first | ((with_reducible apply WB.tt); conv => whnf) | ((with_reducible apply WB.ff); conv => whnf) | (refine Rn.seq ?_; conv => whnf) | (refine Rn.reg ?_; conv => whnf) | (refine Rn.drw ?_; conv => whnf) | (refine Rn.blk ?_; conv => whnf) | (refine Rn.skip ?_; conv => whnf) | (refine Rn.ret ?_; conv => whnf) | (refine Rn.exit ?_; conv => whnf) | (refine Rn.cond rfl ?_; conv => whnf) | (refine And.intro (InR.i64 (by omega) (by omega)) ?_; conv => whnf) | (refine WIx.intsN (by omega) ?_; conv => whnf) | (refine WIx.rowsN (by omega) ?_; conv => whnf) | (refine WCall.pure (c_Fault _ _ _ _) ?_; conv => whnf) | (refine WCall.pure (c_Unknown _ _ _ _ (by omega)) ?_; conv => whnf) | ((with_reducible refine WB.dec (fun h => ?_) (fun h => ?_)) <;> conv => whnf) | ((with_reducible refine WB.ndec (fun h => ?_) (fun h => ?_)) <;> conv => whnf) | (refine WB.mk (fun h => ?_) (fun h => ?_) <;> conv => whnf)
  all_goals rw [e1] at *
  all_goals try rw [e2] at *
  · rename_i h1 h2
    exact Fin.b rfl (by simp only [thinB, show l.length ≤ 11 by omega, show cs.length ≤ 8 by omega, h]; simp)
  · rename_i h1 h2
    exact Fin.b rfl (by simp only [thinB, show l.length ≤ 11 by omega, show cs.length ≤ 8 by omega, h]; simp; omega)
  · rename_i h1
    exact Fin.b rfl (by simp only [thinB, show l.length ≤ 11 by omega, show ¬ cs.length ≤ 8 by omega]; simp)
  · exact Fin.b rfl (by simp only [thinB, show ¬ l.length ≤ 11 by omega]; simp)
def fitB (l t : List Int) (i : Nat) : Bool := inB (t.getD i 0) 0 1 && (decide (l.getD i 0 = 2) || decide (t.getD i 0 = l.getD i 0))
def isTruthR (l t : List Int) : Bool := decide (t.length = l.length) && (List.range t.length).all (fitB l t)
def sumP (l : List Int) (f k : Nat) : Int := ((l.drop f).take k).sum
theorem sumP_succ {l : List Int} {f k : Nat} (h : f + k < l.length) : sumP l f (k + 1) = sumP l f k + l.getD (f + k) 0 := by
  unfold sumP
  rw [List.take_succ_eq_append_getElem (by simp; omega), List.sum_append]
  simp [List.getD, h]
def Bits (l : List Int) : Prop := ∀ x ∈ l, x = 0 ∨ x = 1
theorem sumP_bd {l : List Int} (hb : Bits l) (f : Nat) : ∀ k, f + k ≤ l.length → 0 ≤ sumP l f k ∧ sumP l f k ≤ k := by
  intro k
  induction k with
  | zero => intro _; simp [sumP]
  | succ k ih =>
    intro h
    rw [sumP_succ (by omega)]
    have := ih (by omega)
    have := hb (l.getD (f + k) 0) (getD_mem (by omega))
    omega
def errN (t : List Int) (bk : Bool) (many : Int) : Int := if bk then sumP t (t.length - many.toNat) many.toNat else sumP t 0 many.toNat
def errR (t : List Int) (bk : Bool) (many number : Int) : Int := max (errN t bk many - number) (number - errN t bk many)
def cntIn (n : Nat) (c : Cnt) : Prop := 0 ≤ c.many ∧ c.many ≤ n ∧ 0 ≤ c.number ∧ c.number ≤ 9
def ec (t : List Int) (c : Cnt) : Int := errR t c.back c.many c.number
def wrongR (cs : List Cnt) (off : Int) (t : List Int) : Int := if cs.all (fun c => decide (ec t c ≤ off)) = true then (cs.countP (fun c => decide (0 < ec t c)) : Nat) else -1
end Go.Ev

namespace Go.Ev
open Go.Proofs
set_option maxRecDepth 100000
theorem ints_one (l : List Int) : ∀ r ∈ ints l, r.length = 1 := fun r hr => by
  obtain ⟨n, _, rfl⟩ := List.mem_map.1 hr
  rfl
theorem cnts_three (l : List Cnt) : ∀ r ∈ rows cntD l, r.length = 3 := fun r hr => by
  obtain ⟨n, _, rfl⟩ := List.mem_map.1 hr
  rfl
theorem c_list (l : List Int) (hl : l.length ≤ 65536) : PureF Try.prog p23.ix [.lst 1 (ints l)] (.lst 1 (ints l)) := by
  have e1 := ints_length l
  refine PureF.run fn22 (by simp) (by simp [PuL, PuE, Pu, pu_ints, pu_cnts]) ?_; conv => whnf
  repeat' first | ((with_reducible apply WB.tt); conv => whnf) | ((with_reducible apply WB.ff); conv => whnf) | (refine Rn.seq ?_; conv => whnf) | (refine Rn.reg ?_; conv => whnf) | (refine Rn.drw ?_; conv => whnf) | (refine Rn.blk ?_; conv => whnf) | (refine Rn.skip ?_; conv => whnf) | (refine Rn.ret ?_; conv => whnf) | (refine Rn.exit ?_; conv => whnf) | (refine Rn.cond rfl ?_; conv => whnf) | (refine And.intro (InR.i64 (by omega) (by omega)) ?_; conv => whnf) | (refine WIx.intsN (by omega) ?_; conv => whnf) | (refine WIx.rowsN (by omega) ?_; conv => whnf)
  refine WSt.app_nil rfl (.inl rfl) rfl (ints_one l) (by omega) (fun h => ?_) (fun h => ?_) <;> conv => whnf
  · repeat' first | ((with_reducible apply WB.tt); conv => whnf) | ((with_reducible apply WB.ff); conv => whnf) | (refine Rn.seq ?_; conv => whnf) | (refine Rn.reg ?_; conv => whnf) | (refine Rn.drw ?_; conv => whnf) | (refine Rn.blk ?_; conv => whnf) | (refine Rn.skip ?_; conv => whnf) | (refine Rn.ret ?_; conv => whnf) | (refine Rn.exit ?_; conv => whnf) | (refine Rn.cond rfl ?_; conv => whnf) | (refine And.intro (InR.i64 (by omega) (by omega)) ?_; conv => whnf) | (refine WIx.intsN (by omega) ?_; conv => whnf) | (refine WIx.rowsN (by omega) ?_; conv => whnf)
    refine Fin.t (.inr rfl) rfl ?_
    rw [h]
    exact Fz.ns
  · repeat' first | ((with_reducible apply WB.tt); conv => whnf) | ((with_reducible apply WB.ff); conv => whnf) | (refine Rn.seq ?_; conv => whnf) | (refine Rn.reg ?_; conv => whnf) | (refine Rn.drw ?_; conv => whnf) | (refine Rn.blk ?_; conv => whnf) | (refine Rn.skip ?_; conv => whnf) | (refine Rn.ret ?_; conv => whnf) | (refine Rn.exit ?_; conv => whnf) | (refine Rn.cond rfl ?_; conv => whnf) | (refine And.intro (InR.i64 (by omega) (by omega)) ?_; conv => whnf) | (refine WIx.intsN (by omega) ?_; conv => whnf) | (refine WIx.rowsN (by omega) ?_; conv => whnf)
    refine Fin.t (.inr rfl) rfl (Frz.whole (cur := 1) rfl rfl (ints_one l) rfl (pu_ints l))
theorem c_allInt (l : List Int) (f : Pos) (first caps : List D) (p : Int → Bool) (h1 : PuL first) (h2 : PuL caps) (hl : l.length ≤ 1000) (hf : ∀ n ∈ l, PureF Try.prog f.ix (first ++ ([.i .i64 n] ++ caps)) (.b (p n))) : PureF Try.prog p69.ix [.lst 1 (ints l), .fn f first caps] (.b (l.all p)) := by
  have e1 := ints_length l
  refine PureF.run fn68 (by simp) (by simp [PuL, PuE, Pu, pu_ints, pu_cnts, h1, h2]) ?_; conv => whnf
  repeat' first | ((with_reducible apply WB.tt); conv => whnf) | ((with_reducible apply WB.ff); conv => whnf) | (refine Rn.seq ?_; conv => whnf) | (refine Rn.reg ?_; conv => whnf) | (refine Rn.drw ?_; conv => whnf) | (refine Rn.blk ?_; conv => whnf) | (refine Rn.skip ?_; conv => whnf) | (refine Rn.ret ?_; conv => whnf) | (refine Rn.exit ?_; conv => whnf) | (refine Rn.cond rfl ?_; conv => whnf) | (refine And.intro (InR.i64 (by omega) (by omega)) ?_; conv => whnf) | (refine WIx.intsN (by omega) ?_; conv => whnf) | (refine WIx.rowsN (by omega) ?_; conv => whnf)
  refine Rn.loop (fun j : Nat => ⟨(.n (.n (.n (.n .e (some (.lst 1 (ints l))) .e) none .e) (some (.fn f first caps)) (.n (.n .e (some (.i .i64 (j : Int))) .e) none .e)) none (.n (.n (.n .e (some (.i .i64 ((ints l).length : Int))) .e) none .e) none .e)), .e, .h, none⟩) (fun j => j ≤ l.length ∧ (l.take j).all p = true) (fun j => l.length - j) 0 ?_ ?_ ?_
  · (first | (refine X.le.mk ?_ ?_ (Nat.le_refl _) rfl rfl) | skip) <;> (repeat' first | exact T.le_e _ | refine T.le_some ?_ ?_ ?_ | refine T.le_none ?_ ?_ | rfl)
  · exact ⟨by omega, by simp⟩
  rintro j ⟨hj, ha⟩
  conv => whnf
  repeat' first | ((with_reducible apply WB.tt); conv => whnf) | ((with_reducible apply WB.ff); conv => whnf) | (refine Rn.seq ?_; conv => whnf) | (refine Rn.reg ?_; conv => whnf) | (refine Rn.drw ?_; conv => whnf) | (refine Rn.blk ?_; conv => whnf) | (refine Rn.skip ?_; conv => whnf) | (refine Rn.ret ?_; conv => whnf) | (refine Rn.exit ?_; conv => whnf) | (refine Rn.cond rfl ?_; conv => whnf) | (refine And.intro (InR.i64 (by omega) (by omega)) ?_; conv => whnf) | (refine WIx.intsN (by omega) ?_; conv => whnf) | (refine WIx.rowsN (by omega) ?_; conv => whnf)
  refine WB.dec (fun h => ?_) (fun h => ?_) <;> conv => whnf
  · have hlt : j < l.length := by omega
    repeat' first | ((with_reducible apply WB.tt); conv => whnf) | ((with_reducible apply WB.ff); conv => whnf) | (refine Rn.seq ?_; conv => whnf) | (refine Rn.reg ?_; conv => whnf) | (refine Rn.drw ?_; conv => whnf) | (refine Rn.blk ?_; conv => whnf) | (refine Rn.skip ?_; conv => whnf) | (refine Rn.ret ?_; conv => whnf) | (refine Rn.exit ?_; conv => whnf) | (refine Rn.cond rfl ?_; conv => whnf) | (refine And.intro (InR.i64 (by omega) (by omega)) ?_; conv => whnf) | (refine WIx.intsN (by omega) ?_; conv => whnf) | (refine WIx.rowsN (by omega) ?_; conv => whnf) | (refine WCall.pure (hf _ (getD_mem hlt)) ?_; conv => whnf)
    refine WB.mk (fun h => ?_) (fun h => ?_) <;> conv => whnf
    · repeat' first | ((with_reducible apply WB.tt); conv => whnf) | ((with_reducible apply WB.ff); conv => whnf) | (refine Rn.seq ?_; conv => whnf) | (refine Rn.reg ?_; conv => whnf) | (refine Rn.drw ?_; conv => whnf) | (refine Rn.blk ?_; conv => whnf) | (refine Rn.skip ?_; conv => whnf) | (refine Rn.ret ?_; conv => whnf) | (refine Rn.exit ?_; conv => whnf) | (refine Rn.cond rfl ?_; conv => whnf) | (refine And.intro (InR.i64 (by omega) (by omega)) ?_; conv => whnf) | (refine WIx.intsN (by omega) ?_; conv => whnf) | (refine WIx.rowsN (by omega) ?_; conv => whnf)
      exact Fin.b rfl (by rw [all_false (d := 0) hlt (by simpa using h)])
    · repeat' first | ((with_reducible apply WB.tt); conv => whnf) | ((with_reducible apply WB.ff); conv => whnf) | (refine Rn.seq ?_; conv => whnf) | (refine Rn.reg ?_; conv => whnf) | (refine Rn.drw ?_; conv => whnf) | (refine Rn.blk ?_; conv => whnf) | (refine Rn.skip ?_; conv => whnf) | (refine Rn.ret ?_; conv => whnf) | (refine Rn.exit ?_; conv => whnf) | (refine Rn.cond rfl ?_; conv => whnf) | (refine And.intro (InR.i64 (by omega) (by omega)) ?_; conv => whnf) | (refine WIx.intsN (by omega) ?_; conv => whnf) | (refine WIx.rowsN (by omega) ?_; conv => whnf)
      refine Again.to (j + 1) (by omega) ⟨by omega, all_take_succ (d := 0) hlt ha (by simpa using h)⟩ (Nat.le_refl _) ?_
      (refine Shr.of ?_ ?_ rfl rfl) <;> (repeat' first | exact Rel.e | refine Rel.some ?_ ?_ ?_ | refine Rel.none ?_ ?_) <;> (try first | (show Fz _ _ _ _; first | exact Fz.pu trivial | (refine Fz.i ?_; first | rfl | omega) | (refine Fz.kpt ?_; (focus (show Pos.nat _ < Pos.nat _; simp [Pos.nat]; done))) | (refine Fz.ksl ?_; (focus (show Pos.nat _ < Pos.nat _; simp [Pos.nat]; done))) | (refine Fz.kmp ?_; (focus (show Pos.nat _ < Pos.nat _; simp [Pos.nat]; done))) | (refine Fz.pu ?_; simp [Cell.d, Pu, PuL, PuE, pu_ints, pu_cnts]; done) | (refine Fz.pu ?_; simp only [Cell.d]; assumption)) | (refine RO'.of ?_ (ShC.same ?_); (focus (show Pos.nat _ < Pos.nat _; simp [Pos.nat]; done)); (repeat' first | exact ShC.nl | refine ShC.cn ?_ ?_) <;> first | exact Fz.pu trivial | (refine Fz.i ?_; first | rfl | omega) | (refine Fz.kpt ?_; (focus (show Pos.nat _ < Pos.nat _; simp [Pos.nat]; done))) | (refine Fz.ksl ?_; (focus (show Pos.nat _ < Pos.nat _; simp [Pos.nat]; done))) | (refine Fz.kmp ?_; (focus (show Pos.nat _ < Pos.nat _; simp [Pos.nat]; done))) | (refine Fz.pu ?_; simp [Cell.d, Pu, PuL, PuE, pu_ints, pu_cnts]; done) | (refine Fz.pu ?_; simp only [Cell.d]; assumption)))
      all_goals (refine Fz.pu ?_; simp [Pu, h1, h2])
  · repeat' first | ((with_reducible apply WB.tt); conv => whnf) | ((with_reducible apply WB.ff); conv => whnf) | (refine Rn.seq ?_; conv => whnf) | (refine Rn.reg ?_; conv => whnf) | (refine Rn.drw ?_; conv => whnf) | (refine Rn.blk ?_; conv => whnf) | (refine Rn.skip ?_; conv => whnf) | (refine Rn.ret ?_; conv => whnf) | (refine Rn.exit ?_; conv => whnf) | (refine Rn.cond rfl ?_; conv => whnf) | (refine And.intro (InR.i64 (by omega) (by omega)) ?_; conv => whnf) | (refine WIx.intsN (by omega) ?_; conv => whnf) | (refine WIx.rowsN (by omega) ?_; conv => whnf)
    exact Fin.b rfl (by rw [all_end (by omega) ha])
theorem c_allCnt (l : List Cnt) (f : Pos) (first caps : List D) (p : Cnt → Bool) (h1 : PuL first) (h2 : PuL caps) (hl : l.length ≤ 1000) (hf : ∀ c ∈ l, PureF Try.prog f.ix (first ++ ([.ag [.b c.back, .i .i64 c.many, .i .i64 c.number]] ++ caps)) (.b (p c))) : PureF Try.prog p71.ix [.lst 3 (rows cntD l), .fn f first caps] (.b (l.all p)) := by
  have e1 := rows_length cntD l
  refine PureF.run fn70 (by simp) (by simp [PuL, PuE, Pu, pu_ints, pu_cnts, h1, h2]) ?_; conv => whnf
  repeat' first | ((with_reducible apply WB.tt); conv => whnf) | ((with_reducible apply WB.ff); conv => whnf) | (refine Rn.seq ?_; conv => whnf) | (refine Rn.reg ?_; conv => whnf) | (refine Rn.drw ?_; conv => whnf) | (refine Rn.blk ?_; conv => whnf) | (refine Rn.skip ?_; conv => whnf) | (refine Rn.ret ?_; conv => whnf) | (refine Rn.exit ?_; conv => whnf) | (refine Rn.cond rfl ?_; conv => whnf) | (refine And.intro (InR.i64 (by omega) (by omega)) ?_; conv => whnf) | (refine WIx.intsN (by omega) ?_; conv => whnf) | (refine WIx.rowsN (by omega) ?_; conv => whnf)
  refine Rn.loop (fun j : Nat => ⟨(.n (.n (.n (.n .e (some (.lst 3 (rows cntD l))) .e) none .e) (some (.fn f first caps)) (.n (.n .e (some (.i .i64 (j : Int))) .e) none .e)) none (.n (.n (.n .e (some (.i .i64 ((rows cntD l).length : Int))) .e) none .e) none .e)), .e, .h, none⟩) (fun j => j ≤ l.length ∧ (l.take j).all p = true) (fun j => l.length - j) 0 ?_ ?_ ?_
  · (first | (refine X.le.mk ?_ ?_ (Nat.le_refl _) rfl rfl) | skip) <;> (repeat' first | exact T.le_e _ | refine T.le_some ?_ ?_ ?_ | refine T.le_none ?_ ?_ | rfl)
  · exact ⟨by omega, by simp⟩
  rintro j ⟨hj, ha⟩
  conv => whnf
  repeat' first | ((with_reducible apply WB.tt); conv => whnf) | ((with_reducible apply WB.ff); conv => whnf) | (refine Rn.seq ?_; conv => whnf) | (refine Rn.reg ?_; conv => whnf) | (refine Rn.drw ?_; conv => whnf) | (refine Rn.blk ?_; conv => whnf) | (refine Rn.skip ?_; conv => whnf) | (refine Rn.ret ?_; conv => whnf) | (refine Rn.exit ?_; conv => whnf) | (refine Rn.cond rfl ?_; conv => whnf) | (refine And.intro (InR.i64 (by omega) (by omega)) ?_; conv => whnf) | (refine WIx.intsN (by omega) ?_; conv => whnf) | (refine WIx.rowsN (by omega) ?_; conv => whnf)
  refine WB.dec (fun h => ?_) (fun h => ?_) <;> conv => whnf
  · have hlt : j < l.length := by omega
    repeat' first | ((with_reducible apply WB.tt); conv => whnf) | ((with_reducible apply WB.ff); conv => whnf) | (refine Rn.seq ?_; conv => whnf) | (refine Rn.reg ?_; conv => whnf) | (refine Rn.drw ?_; conv => whnf) | (refine Rn.blk ?_; conv => whnf) | (refine Rn.skip ?_; conv => whnf) | (refine Rn.ret ?_; conv => whnf) | (refine Rn.exit ?_; conv => whnf) | (refine Rn.cond rfl ?_; conv => whnf) | (refine And.intro (InR.i64 (by omega) (by omega)) ?_; conv => whnf) | (refine WIx.intsN (by omega) ?_; conv => whnf) | (refine WIx.rowsN (by omega) ?_; conv => whnf) | (refine WCall.pure (hf _ (getD_mem hlt)) ?_; conv => whnf)
    refine WB.mk (fun h => ?_) (fun h => ?_) <;> conv => whnf
    · repeat' first | ((with_reducible apply WB.tt); conv => whnf) | ((with_reducible apply WB.ff); conv => whnf) | (refine Rn.seq ?_; conv => whnf) | (refine Rn.reg ?_; conv => whnf) | (refine Rn.drw ?_; conv => whnf) | (refine Rn.blk ?_; conv => whnf) | (refine Rn.skip ?_; conv => whnf) | (refine Rn.ret ?_; conv => whnf) | (refine Rn.exit ?_; conv => whnf) | (refine Rn.cond rfl ?_; conv => whnf) | (refine And.intro (InR.i64 (by omega) (by omega)) ?_; conv => whnf) | (refine WIx.intsN (by omega) ?_; conv => whnf) | (refine WIx.rowsN (by omega) ?_; conv => whnf)
      exact Fin.b rfl (by rw [all_false (d := default) hlt (by simpa using h)])
    · repeat' first | ((with_reducible apply WB.tt); conv => whnf) | ((with_reducible apply WB.ff); conv => whnf) | (refine Rn.seq ?_; conv => whnf) | (refine Rn.reg ?_; conv => whnf) | (refine Rn.drw ?_; conv => whnf) | (refine Rn.blk ?_; conv => whnf) | (refine Rn.skip ?_; conv => whnf) | (refine Rn.ret ?_; conv => whnf) | (refine Rn.exit ?_; conv => whnf) | (refine Rn.cond rfl ?_; conv => whnf) | (refine And.intro (InR.i64 (by omega) (by omega)) ?_; conv => whnf) | (refine WIx.intsN (by omega) ?_; conv => whnf) | (refine WIx.rowsN (by omega) ?_; conv => whnf)
      refine Again.to (j + 1) (by omega) ⟨by omega, all_take_succ (d := default) hlt ha (by simpa using h)⟩ (Nat.le_refl _) ?_
      (refine Shr.of ?_ ?_ rfl rfl) <;> (repeat' first | exact Rel.e | refine Rel.some ?_ ?_ ?_ | refine Rel.none ?_ ?_) <;> (try first | (show Fz _ _ _ _; first | exact Fz.pu trivial | (refine Fz.i ?_; first | rfl | omega) | (refine Fz.kpt ?_; (focus (show Pos.nat _ < Pos.nat _; simp [Pos.nat]; done))) | (refine Fz.ksl ?_; (focus (show Pos.nat _ < Pos.nat _; simp [Pos.nat]; done))) | (refine Fz.kmp ?_; (focus (show Pos.nat _ < Pos.nat _; simp [Pos.nat]; done))) | (refine Fz.pu ?_; simp [Cell.d, Pu, PuL, PuE, pu_ints, pu_cnts]; done) | (refine Fz.pu ?_; simp only [Cell.d]; assumption)) | (refine RO'.of ?_ (ShC.same ?_); (focus (show Pos.nat _ < Pos.nat _; simp [Pos.nat]; done)); (repeat' first | exact ShC.nl | refine ShC.cn ?_ ?_) <;> first | exact Fz.pu trivial | (refine Fz.i ?_; first | rfl | omega) | (refine Fz.kpt ?_; (focus (show Pos.nat _ < Pos.nat _; simp [Pos.nat]; done))) | (refine Fz.ksl ?_; (focus (show Pos.nat _ < Pos.nat _; simp [Pos.nat]; done))) | (refine Fz.kmp ?_; (focus (show Pos.nat _ < Pos.nat _; simp [Pos.nat]; done))) | (refine Fz.pu ?_; simp [Cell.d, Pu, PuL, PuE, pu_ints, pu_cnts]; done) | (refine Fz.pu ?_; simp only [Cell.d]; assumption)))
      all_goals (refine Fz.pu ?_; simp [Pu, h1, h2])
  · repeat' first | ((with_reducible apply WB.tt); conv => whnf) | ((with_reducible apply WB.ff); conv => whnf) | (refine Rn.seq ?_; conv => whnf) | (refine Rn.reg ?_; conv => whnf) | (refine Rn.drw ?_; conv => whnf) | (refine Rn.blk ?_; conv => whnf) | (refine Rn.skip ?_; conv => whnf) | (refine Rn.ret ?_; conv => whnf) | (refine Rn.exit ?_; conv => whnf) | (refine Rn.cond rfl ?_; conv => whnf) | (refine And.intro (InR.i64 (by omega) (by omega)) ?_; conv => whnf) | (refine WIx.intsN (by omega) ?_; conv => whnf) | (refine WIx.rowsN (by omega) ?_; conv => whnf)
    exact Fin.b rfl (by rw [all_end (by omega) ha])
theorem c_validCount (l : List Int) (cs : List Cnt) (wr off : Int) (tr : D) (ht : Pu tr) (bk : Bool) (many number : Int) : PureF Try.prog p72.ix [.ag [.lst 1 (ints l), .lst 3 (rows cntD cs), .i .i64 wr, .i .i64 off, tr], .ag [.b bk, .i .i64 many, .i .i64 number]] (.b (inB many 0 l.length && inB number 0 9)) := by
  have e1 := ints_length l
  refine PureF.run fn71 (by simp) (by simp [PuL, PuE, Pu, pu_ints, pu_cnts, ht]) ?_; conv => whnf
  repeat' first | ((with_reducible apply WB.tt); conv => whnf) | ((with_reducible apply WB.ff); conv => whnf) | (refine Rn.seq ?_; conv => whnf) | (refine Rn.reg ?_; conv => whnf) | (refine Rn.drw ?_; conv => whnf) | (refine Rn.blk ?_; conv => whnf) | (refine Rn.skip ?_; conv => whnf) | (refine Rn.ret ?_; conv => whnf) | (refine Rn.exit ?_; conv => whnf) | (refine Rn.cond rfl ?_; conv => whnf) | (refine And.intro (InR.i64 (by omega) (by omega)) ?_; conv => whnf) | (refine WIx.intsN (by omega) ?_; conv => whnf) | (refine WIx.rowsN (by omega) ?_; conv => whnf) | (refine WCall.pure (c_upTo _ _) ?_; conv => whnf) | ((with_reducible refine WB.dec (fun h => ?_) (fun h => ?_)) <;> conv => whnf) | ((with_reducible refine WB.ndec (fun h => ?_) (fun h => ?_)) <;> conv => whnf) | (refine WB.mk (fun h => ?_) (fun h => ?_) <;> conv => whnf)
  · exact Fin.b rfl (by rw [e1] at h; rw [h, Bool.true_and])
  · exact Fin.b rfl (by rw [e1] at h; rw [h, Bool.false_and])
theorem faultR_eq {l : List Int} {cs : List Cnt} {wr off : Int} (h1 : l.length ≤ 9) (h2 : cs.length ≤ 6) : faultR l cs wr off = if (decide (0 < l.length) && (l.all (inB · 0 2) && (cs.all (cntOk l.length) && (inB wr 0 6 && inB off 0 9)))) = true then 0 else 1 := by
  unfold faultR
  rw [if_neg (by omega)]
  by_cases h3 : l.length = 0
  · simp [h3]
  · rw [show decide (0 < l.length) = true from decide_eq_true (by omega)]
    cases inB wr 0 6 <;> cases inB off 0 9 <;> cases l.all (inB · 0 2) <;> cases cs.all (cntOk l.length) <;> simp [h3]
theorem c_CheckRow (l : List Int) (cs : List Cnt) (wr off : Int) : PureF Try.prog p26.ix [.ag [.lst 1 (ints l), .lst 3 (rows cntD cs), .i .i64 wr, .i .i64 off]] (.i .i64 (faultR l cs wr off)) := by
  have e1 := ints_length l
  have e2 := rows_length cntD cs
  refine PureF.run fn25 (by simp) (by simp [PuL, PuE, Pu, pu_ints, pu_cnts]) ?_; conv => whnf
  repeat' first | ((with_reducible apply WB.tt); conv => whnf) | ((with_reducible apply WB.ff); conv => whnf) | (refine Rn.seq ?_; conv => whnf) | (refine Rn.reg ?_; conv => whnf) | (refine Rn.drw ?_; conv => whnf) | (refine Rn.blk ?_; conv => whnf) | (refine Rn.skip ?_; conv => whnf) | (refine Rn.ret ?_; conv => whnf) | (refine Rn.exit ?_; conv => whnf) | (refine Rn.cond rfl ?_; conv => whnf) | (refine And.intro (InR.i64 (by omega) (by omega)) ?_; conv => whnf) | (refine WIx.intsN (by omega) ?_; conv => whnf) | (refine WIx.rowsN (by omega) ?_; conv => whnf) | (refine WCall.pure (c_upTo _ _) ?_; conv => whnf) | (refine WCall.pure (c_allInt l p70 [] [] (inB · 0 2) trivial trivial (by omega) (fun n _ => c_validPlace n)) ?_; conv => whnf) | (refine WCall.pure (c_allCnt cs p72 [.ag [.lst 1 (ints l), .lst 3 (rows cntD cs), .i .i64 wr, .i .i64 off, .ns]] [] (cntOk l.length) (by simp [PuL, Pu, pu_ints, pu_cnts]) trivial (by omega) (fun c _ => c_validCount l cs wr off .ns trivial _ _ _)) ?_; conv => whnf) | ((with_reducible refine WB.dec (fun h => ?_) (fun h => ?_)) <;> conv => whnf) | ((with_reducible refine WB.ndec (fun h => ?_) (fun h => ?_)) <;> conv => whnf) | (refine WB.mk (fun h => ?_) (fun h => ?_) <;> conv => whnf)
  all_goals refine Fin.i rfl ?_
  all_goals first
    | (unfold faultR; rw [if_pos (by omega)]; done)
    | (rw [faultR_eq (by omega) (by omega)]; simp_all [inB]; done)
    | (rw [faultR_eq (by omega) (by omega)]; simp_all [inB]; intros; omega)
    | (rw [faultR_eq (by omega) (by omega)]; simp_all [inB]; obtain ⟨x, hx, hn⟩ := h; intro hf; have := hf x hx; first | (rw [this] at hn; cases hn; done) | omega)
theorem WSt.ixaN {sl : T D} {ob : T C} {nx : Pos} {lg : Option (T Bool)} {K : X → Prop} {d id : Pos} {len z off st m : Nat} {k : IntKind} {x i : RX} {n : Int} (hx : opd sl x = some (.pt id off st)) (hi : opd sl i = some (.i k n)) (hn : n = (m : Int)) (hm : m < len) (h : wOut sl ob nx lg d K (.pt id (off + m * z) st)) : WSt (.ixa d len z x i) ⟨sl, ob, nx, lg⟩ K := by
  obtain ⟨h2, h3⟩ := wOut_ok h
  refine ⟨_, ?_, h3⟩
  show s_ixa d len z x i sl ob nx lg = _
  unfold s_ixa
  rw [hx, hi, hn]
  have e : idx (m : Int) len = some m := by
    show (bif Nat.blt m len then some m else none) = _
    rw [show Nat.blt m len = true from Nat.ble_eq_true_of_le hm]
    rfl
  simp only [e, natK_eq]
  exact h2
theorem nine {m : Nat} (h : m < 9) : m = 0 ∨ m = 1 ∨ m = 2 ∨ m = 3 ∨ m = 4 ∨ m = 5 ∨ m = 6 ∨ m = 7 ∨ m = 8 := by omega
theorem c_chairsIn (l : List Int) (cs : List Cnt) (wr off : Int) (tr : D) (htr : Pu tr) (a0 a1 a2 a3 a4 a5 a6 a7 a8 : Int) (f : Nat) (a t : Int) (ha : a = f) (hb : Bits [a0, a1, a2, a3, a4, a5, a6, a7, a8]) (hf : f ≤ 9) (ht : t < 9) (k : Nat) (hk : (k : Int) = max 0 (t + 1 - f)) :
    PureF Try.prog p76.ix [.ag [.lst 1 (ints l), .lst 3 (rows cntD cs), .i .i64 wr, .i .i64 off, tr], .ag [.i .i64 a0, .i .i64 a1, .i .i64 a2, .i .i64 a3, .i .i64 a4, .i .i64 a5, .i .i64 a6, .i .i64 a7, .i .i64 a8], .ag [.i .i64 a, .i .i64 t]] (.i .i64 (sumP [a0, a1, a2, a3, a4, a5, a6, a7, a8] f k)) := by
  subst ha
  refine PureF.run fn75 (by simp) (by simp [PuL, PuE, Pu, pu_ints, pu_cnts, htr]) ?_; conv => whnf
  repeat' first | ((with_reducible apply WB.tt); conv => whnf) | ((with_reducible apply WB.ff); conv => whnf) | (refine Rn.seq ?_; conv => whnf) | (refine Rn.reg ?_; conv => whnf) | (refine Rn.drw ?_; conv => whnf) | (refine Rn.blk ?_; conv => whnf) | (refine Rn.skip ?_; conv => whnf) | (refine Rn.ret ?_; conv => whnf) | (refine Rn.exit ?_; conv => whnf) | (refine Rn.cond rfl ?_; conv => whnf) | (refine And.intro (InR.i64 (by omega) (by omega)) ?_; conv => whnf) | (refine WIx.intsN (by omega) ?_; conv => whnf) | (refine WIx.rowsN (by omega) ?_; conv => whnf)
  refine Rn.loop (fun j : Nat => ⟨(.n (.n (.n (.n .e (some (.i .i64 (sumP [a0, a1, a2, a3, a4, a5, a6, a7, a8] f j))) .e) (some (.pt .h 0 0)) .e) none (.n .e (some (.pt (.i .h) 0 0)) .e)) none (.n (.n (.n .e (some (.i .i64 ((f + j : Nat) : Int))) .e) (some (.pt (.o .h) 0 0)) .e) none .e)), (.n (.n .e (some (.cells false [.o (.i .i64 a0) 0, .o (.i .i64 a1) 0, .o (.i .i64 a2) 0, .o (.i .i64 a3) 0, .o (.i .i64 a4) 0, .o (.i .i64 a5) 0, .o (.i .i64 a6) 0, .o (.i .i64 a7) 0, .o (.i .i64 a8) 0] 1)) .e) (some (.cells false [.o (.lst 1 (ints l)) 0, .o (.lst 3 (rows cntD cs)) 0, .o (.i .i64 wr) 0, .o (.i .i64 off) 0, .o tr 0] 1)) (.n .e (some (.cells false [.o (.i .i64 (f : Int)) 0, .o (.i .i64 t) 0] 1)) .e)), .o (.o .h), none⟩) (fun j => j ≤ k) (fun j => k - j) 0 ?_ ?_ ?_
  · (first | (refine X.le.mk ?_ ?_ (Nat.le_refl _) rfl rfl) | skip) <;> (repeat' first | exact T.le_e _ | refine T.le_some ?_ ?_ ?_ | refine T.le_none ?_ ?_ | rfl)
  · omega
  intro j hj
  conv => whnf
  repeat' first | ((with_reducible apply WB.tt); conv => whnf) | ((with_reducible apply WB.ff); conv => whnf) | (refine Rn.seq ?_; conv => whnf) | (refine Rn.reg ?_; conv => whnf) | (refine Rn.drw ?_; conv => whnf) | (refine Rn.blk ?_; conv => whnf) | (refine Rn.skip ?_; conv => whnf) | (refine Rn.ret ?_; conv => whnf) | (refine Rn.exit ?_; conv => whnf) | (refine Rn.cond rfl ?_; conv => whnf) | (refine And.intro (InR.i64 (by omega) (by omega)) ?_; conv => whnf) | (refine WIx.intsN (by omega) ?_; conv => whnf) | (refine WIx.rowsN (by omega) ?_; conv => whnf)
  refine WB.dec (fun h => ?_) (fun h => ?_) <;> conv => whnf
  · have hlt : f + j < 9 := by omega
    have hx := hb ([a0, a1, a2, a3, a4, a5, a6, a7, a8].getD (f + j) 0) (getD_mem hlt)
    have hs := sumP_bd hb f j (by simp; omega)
    have hsu := sumP_succ (l := [a0, a1, a2, a3, a4, a5, a6, a7, a8]) (f := f) (k := j) hlt
    have hadd : f + (j + 1) = (f + j) + 1 := by omega
    generalize f + j = m at *
    rcases nine hlt with rfl | rfl | rfl | rfl | rfl | rfl | rfl | rfl | rfl
    all_goals
      repeat' first | ((with_reducible apply WB.tt); conv => whnf) | ((with_reducible apply WB.ff); conv => whnf) | (refine Rn.seq ?_; conv => whnf) | (refine Rn.reg ?_; conv => whnf) | (refine Rn.drw ?_; conv => whnf) | (refine Rn.blk ?_; conv => whnf) | (refine Rn.skip ?_; conv => whnf) | (refine Rn.ret ?_; conv => whnf) | (refine Rn.exit ?_; conv => whnf) | (refine Rn.cond rfl ?_; conv => whnf) | (refine And.intro (InR.i64 (by omega) (by omega)) ?_; conv => whnf) | (refine WIx.intsN (by omega) ?_; conv => whnf) | (refine WIx.rowsN (by omega) ?_; conv => whnf)
      refine WSt.ixaN rfl rfl rfl (by omega) ?_; conv => whnf
      simp only [List.getD, List.getElem?_cons_zero, List.getElem?_cons_succ, Option.getD_some] at hx hsu
      repeat' first | ((with_reducible apply WB.tt); conv => whnf) | ((with_reducible apply WB.ff); conv => whnf) | (refine Rn.seq ?_; conv => whnf) | (refine Rn.reg ?_; conv => whnf) | (refine Rn.drw ?_; conv => whnf) | (refine Rn.blk ?_; conv => whnf) | (refine Rn.skip ?_; conv => whnf) | (refine Rn.ret ?_; conv => whnf) | (refine Rn.exit ?_; conv => whnf) | (refine Rn.cond rfl ?_; conv => whnf) | (refine And.intro (InR.i64 (by omega) (by omega)) ?_; conv => whnf) | (refine WIx.intsN (by omega) ?_; conv => whnf) | (refine WIx.rowsN (by omega) ?_; conv => whnf)
      refine Again.to (j + 1) (by omega) (by omega) (Nat.le_refl _) ?_
      (refine Shr.of ?_ ?_ rfl rfl) <;> (repeat' first | exact Rel.e | refine Rel.some ?_ ?_ ?_ | refine Rel.none ?_ ?_) <;> (try first | (show Fz _ _ _ _; first | exact Fz.pu trivial | (refine Fz.i ?_; first | rfl | omega) | (refine Fz.kpt ?_; (focus (show Pos.nat _ < Pos.nat _; simp [Pos.nat]; done))) | (refine Fz.ksl ?_; (focus (show Pos.nat _ < Pos.nat _; simp [Pos.nat]; done))) | (refine Fz.kmp ?_; (focus (show Pos.nat _ < Pos.nat _; simp [Pos.nat]; done))) | (refine Fz.pu ?_; simp [Cell.d, Pu, PuL, PuE, pu_ints, pu_cnts]; done) | (refine Fz.pu ?_; simp only [Cell.d]; assumption)) | (refine RO'.of ?_ (ShC.same ?_); (focus (show Pos.nat _ < Pos.nat _; simp [Pos.nat]; done)); (repeat' first | exact ShC.nl | refine ShC.cn ?_ ?_) <;> first | exact Fz.pu trivial | (refine Fz.i ?_; first | rfl | omega) | (refine Fz.kpt ?_; (focus (show Pos.nat _ < Pos.nat _; simp [Pos.nat]; done))) | (refine Fz.ksl ?_; (focus (show Pos.nat _ < Pos.nat _; simp [Pos.nat]; done))) | (refine Fz.kmp ?_; (focus (show Pos.nat _ < Pos.nat _; simp [Pos.nat]; done))) | (refine Fz.pu ?_; simp [Cell.d, Pu, PuL, PuE, pu_ints, pu_cnts]; done) | (refine Fz.pu ?_; simp only [Cell.d]; assumption)))
      all_goals first | (refine Fz.i ?_; rw [hsu]; done) | (refine Fz.i ?_; rw [hadd]; rfl) | (refine Fz.pu ?_; simp [Cell.d, htr]; done)
  · repeat' first | ((with_reducible apply WB.tt); conv => whnf) | ((with_reducible apply WB.ff); conv => whnf) | (refine Rn.seq ?_; conv => whnf) | (refine Rn.reg ?_; conv => whnf) | (refine Rn.drw ?_; conv => whnf) | (refine Rn.blk ?_; conv => whnf) | (refine Rn.skip ?_; conv => whnf) | (refine Rn.ret ?_; conv => whnf) | (refine Rn.exit ?_; conv => whnf) | (refine Rn.cond rfl ?_; conv => whnf) | (refine And.intro (InR.i64 (by omega) (by omega)) ?_; conv => whnf) | (refine WIx.intsN (by omega) ?_; conv => whnf) | (refine WIx.rowsN (by omega) ?_; conv => whnf)
    exact Fin.i rfl (by rw [show j = k by omega])
end Go.Ev

namespace Go.Ev
open Go.Proofs
set_option maxRecDepth 100000
theorem sumP_take {A : List Int} {n f k : Nat} (h : f + k ≤ n) : sumP (A.take n) f k = sumP A f k := by
  unfold sumP
  rw [List.drop_take, List.take_take, Nat.min_eq_left (by omega)]
theorem errR_take {A : List Int} {n : Nat} (bk : Bool) {many number : Int} (hn : n ≤ A.length) (h1 : 0 ≤ many) (h2 : many ≤ n) : errR (A.take n) bk many number = max ((if bk then sumP A (n - many.toNat) many.toNat else sumP A 0 many.toNat) - number) (number - (if bk then sumP A (n - many.toNat) many.toNat else sumP A 0 many.toNat)) := by
  have e : errN (A.take n) bk many = if bk then sumP A (n - many.toNat) many.toNat else sumP A 0 many.toNat := by
    unfold errN
    rw [List.length_take, Nat.min_eq_left hn, sumP_take (by omega), sumP_take (by omega)]
  unfold errR
  rw [e]
theorem c_mistake (l : List Int) (cs : List Cnt) (wr off : Int) (tr : D) (htr : Pu tr) (a0 a1 a2 a3 a4 a5 a6 a7 a8 : Int) (bk : Bool) (many number : Int) (hb : Bits [a0, a1, a2, a3, a4, a5, a6, a7, a8]) (hl : l.length ≤ 9) (h1 : 0 ≤ many) (h2 : many ≤ l.length) (h3 : 0 ≤ number) (h4 : number ≤ 9) :
    PureF Try.prog p90.ix [.ag [.lst 1 (ints l), .lst 3 (rows cntD cs), .i .i64 wr, .i .i64 off, tr], .ag [.i .i64 a0, .i .i64 a1, .i .i64 a2, .i .i64 a3, .i .i64 a4, .i .i64 a5, .i .i64 a6, .i .i64 a7, .i .i64 a8], .ag [.b bk, .i .i64 many, .i .i64 number]] (.i .i64 (errR ([a0, a1, a2, a3, a4, a5, a6, a7, a8].take l.length) bk many number)) := by
  have e1 := ints_length l
  have b0 := sumP_bd hb 0 many.toNat (by simp; omega)
  have b1 := sumP_bd hb (l.length - many.toNat) many.toNat (by simp; omega)
  rw [errR_take bk (by simp; omega) h1 h2]
  refine PureF.run fn89 (by simp) (by simp [PuL, PuE, Pu, pu_ints, pu_cnts, htr]) ?_; conv => whnf
  repeat' first | ((with_reducible apply WB.tt); conv => whnf) | ((with_reducible apply WB.ff); conv => whnf) | (refine Rn.seq ?_; conv => whnf) | (refine Rn.reg ?_; conv => whnf) | (refine Rn.drw ?_; conv => whnf) | (refine Rn.blk ?_; conv => whnf) | (refine Rn.skip ?_; conv => whnf) | (refine Rn.ret ?_; conv => whnf) | (refine Rn.exit ?_; conv => whnf) | (refine Rn.cond rfl ?_; conv => whnf) | (refine And.intro (InR.i64 (by omega) (by omega)) ?_; conv => whnf) | (refine WIx.intsN (by omega) ?_; conv => whnf) | (refine WIx.rowsN (by omega) ?_; conv => whnf) | (refine WCall.pure (c_chairsIn l cs wr off tr htr _ _ _ _ _ _ _ _ _ 0 _ _ rfl hb (by omega) (by omega) many.toNat (by omega)) ?_; conv => whnf) | (refine WCall.pure (c_chairsIn l cs wr off tr htr _ _ _ _ _ _ _ _ _ (l.length - many.toNat) _ _ (by omega) hb (by omega) (by omega) many.toNat (by omega)) ?_; conv => whnf) | ((with_reducible refine WB.dec (fun h => ?_) (fun h => ?_)) <;> conv => whnf) | ((with_reducible refine WB.ndec (fun h => ?_) (fun h => ?_)) <;> conv => whnf) | (refine WB.mk (fun h => ?_) (fun h => ?_) <;> conv => whnf)
  all_goals refine Fin.i rfl ?_
  · rw [h]; simp only [if_true]; omega
  · rw [h]; simp only [Bool.false_eq_true, if_false]; omega
def errs (t : List Int) (cs : List Cnt) : List Int := cs.map (ec t)
theorem c_mistakes (l : List Int) (cs : List Cnt) (wr off : Int) (tr : D) (htr : Pu tr) (a0 a1 a2 a3 a4 a5 a6 a7 a8 : Int) (hb : Bits [a0, a1, a2, a3, a4, a5, a6, a7, a8]) (hl : l.length ≤ 9) (hc : ∀ c ∈ cs, cntIn l.length c) (hn : cs.length ≤ 1000) :
    PureF Try.prog p67.ix [.ag [.lst 1 (ints l), .lst 3 (rows cntD cs), .i .i64 wr, .i .i64 off, tr], .ag [.i .i64 a0, .i .i64 a1, .i .i64 a2, .i .i64 a3, .i .i64 a4, .i .i64 a5, .i .i64 a6, .i .i64 a7, .i .i64 a8]] (.lst 1 (ints (errs ([a0, a1, a2, a3, a4, a5, a6, a7, a8].take l.length) cs))) := by
  have e2 := rows_length cntD cs
  generalize hE : errs ([a0, a1, a2, a3, a4, a5, a6, a7, a8].take l.length) cs = E
  have hEl : E.length = cs.length := by rw [← hE]; simp [errs]
  have hEg : ∀ j, j < cs.length → errR ([a0, a1, a2, a3, a4, a5, a6, a7, a8].take l.length) (cs.getD j default).back (cs.getD j default).many (cs.getD j default).number = E.getD j 0 := fun j hj => by
    rw [← hE]; simp [errs, ec, List.getD, hj]
  refine PureF.run fn66 (by simp) (by simp [PuL, PuE, Pu, pu_ints, pu_cnts, htr]) ?_; conv => whnf
  repeat' first | ((with_reducible apply WB.tt); conv => whnf) | ((with_reducible apply WB.ff); conv => whnf) | (refine Rn.seq ?_; conv => whnf) | (refine Rn.reg ?_; conv => whnf) | (refine Rn.drw ?_; conv => whnf) | (refine Rn.blk ?_; conv => whnf) | (refine Rn.skip ?_; conv => whnf) | (refine Rn.ret ?_; conv => whnf) | (refine Rn.exit ?_; conv => whnf) | (refine Rn.cond rfl ?_; conv => whnf) | (refine And.intro (InR.i64 (by omega) (by omega)) ?_; conv => whnf) | (refine WIx.intsN (by omega) ?_; conv => whnf) | (refine WIx.rowsN (by omega) ?_; conv => whnf)
  refine Rn.loop (fun j : Nat => match j with
    | 0 => ⟨(.n (.n (.n .e (some (.pt (.o .h) 0 0)) (.n .e (some (.i .i64 ((rows cntD cs).length : Int))) .e)) none (.n .e (some (.ns)) .e)) none (.n (.n .e none (.n .e (some (.i .i64 0)) .e)) (some (.pt .h 0 0)) (.n (.n .e (some (.lst 3 (rows cntD cs))) .e) none .e))), (.n (.n .e (some (.cells false [.o (.i .i64 a0) 0, .o (.i .i64 a1) 0, .o (.i .i64 a2) 0, .o (.i .i64 a3) 0, .o (.i .i64 a4) 0, .o (.i .i64 a5) 0, .o (.i .i64 a6) 0, .o (.i .i64 a7) 0, .o (.i .i64 a8) 0] 1)) .e) (some (.cells false [.o (.lst 1 (ints l)) 0, .o (.lst 3 (rows cntD cs)) 0, .o (.i .i64 wr) 0, .o (.i .i64 off) 0, .o tr 0] 1)) .e), .i .h, none⟩
    | j + 1 => ⟨(.n (.n (.n .e (some (.pt (.o .h) 0 0)) (.n .e (some (.i .i64 ((rows cntD cs).length : Int))) .e)) none (.n .e (some (.sl (.i (.o .h)) 0 (j + 1) j 1)) .e)) none (.n (.n .e none (.n .e (some (.i .i64 ((j + 1 : Nat) : Int))) .e)) (some (.pt .h 0 0)) (.n (.n .e (some (.lst 3 (rows cntD cs))) .e) none .e))), (.n (.n .e (some (.cells false [.o (.i .i64 a0) 0, .o (.i .i64 a1) 0, .o (.i .i64 a2) 0, .o (.i .i64 a3) 0, .o (.i .i64 a4) 0, .o (.i .i64 a5) 0, .o (.i .i64 a6) 0, .o (.i .i64 a7) 0, .o (.i .i64 a8) 0] 1)) .e) (some (.cells false [.o (.lst 1 (ints l)) 0, .o (.lst 3 (rows cntD cs)) 0, .o (.i .i64 wr) 0, .o (.i .i64 off) 0, .o tr 0] 1)) (.n (.n .e (some (.cells false (((E.take (j + 1)).map fun n => D.i .i64 n).map fun d => Cell.o d j) (j + 1))) .e) none .e)), .o (.i .h), none⟩) (fun j => j ≤ cs.length) (fun j => cs.length - j) 0 ?_ ?_ ?_
  · (first | (refine X.le.mk ?_ ?_ (Nat.le_refl _) rfl rfl) | skip) <;> (repeat' first | exact T.le_e _ | refine T.le_some ?_ ?_ ?_ | refine T.le_none ?_ ?_ | rfl)
  · omega
  rintro (_ | j) hj
  · conv => whnf
    repeat' first | ((with_reducible apply WB.tt); conv => whnf) | ((with_reducible apply WB.ff); conv => whnf) | (refine Rn.seq ?_; conv => whnf) | (refine Rn.reg ?_; conv => whnf) | (refine Rn.drw ?_; conv => whnf) | (refine Rn.blk ?_; conv => whnf) | (refine Rn.skip ?_; conv => whnf) | (refine Rn.ret ?_; conv => whnf) | (refine Rn.exit ?_; conv => whnf) | (refine Rn.cond rfl ?_; conv => whnf) | (refine And.intro (InR.i64 (by omega) (by omega)) ?_; conv => whnf) | (refine WIx.intsN (by omega) ?_; conv => whnf) | (refine WIx.rowsN (by omega) ?_; conv => whnf)
    refine WB.dec (fun h => ?_) (fun h => ?_) <;> conv => whnf
    · have hlt : 0 < cs.length := by omega
      obtain ⟨k1, k2, k3, k4⟩ := hc (cs.getD 0 default) (getD_mem hlt)
      repeat' first | ((with_reducible apply WB.tt); conv => whnf) | ((with_reducible apply WB.ff); conv => whnf) | (refine Rn.seq ?_; conv => whnf) | (refine Rn.reg ?_; conv => whnf) | (refine Rn.drw ?_; conv => whnf) | (refine Rn.blk ?_; conv => whnf) | (refine Rn.skip ?_; conv => whnf) | (refine Rn.ret ?_; conv => whnf) | (refine Rn.exit ?_; conv => whnf) | (refine Rn.cond rfl ?_; conv => whnf) | (refine And.intro (InR.i64 (by omega) (by omega)) ?_; conv => whnf) | (refine WIx.intsN (by omega) ?_; conv => whnf) | (refine WIx.rowsN (by omega) ?_; conv => whnf) | (refine WCall.pure (c_mistake l cs wr off tr htr _ _ _ _ _ _ _ _ _ _ _ _ hb hl k1 k2 k3 k4) ?_; conv => whnf)
      refine WSt.app_first (r := [_]) rfl (.inl rfl) rfl rfl rfl rfl ?_; conv => whnf
      repeat' first | ((with_reducible apply WB.tt); conv => whnf) | ((with_reducible apply WB.ff); conv => whnf) | (refine Rn.seq ?_; conv => whnf) | (refine Rn.reg ?_; conv => whnf) | (refine Rn.drw ?_; conv => whnf) | (refine Rn.blk ?_; conv => whnf) | (refine Rn.skip ?_; conv => whnf) | (refine Rn.ret ?_; conv => whnf) | (refine Rn.exit ?_; conv => whnf) | (refine Rn.cond rfl ?_; conv => whnf) | (refine And.intro (InR.i64 (by omega) (by omega)) ?_; conv => whnf) | (refine WIx.intsN (by omega) ?_; conv => whnf) | (refine WIx.rowsN (by omega) ?_; conv => whnf)
      refine Again.to 1 (by omega) (by omega) (Nat.le_of_ble_eq_true rfl) ?_
      (refine Shr.of ?_ ?_ rfl rfl) <;> (repeat' first | exact Rel.e | refine Rel.some ?_ ?_ ?_ | refine Rel.none ?_ ?_) <;> (try first | (show Fz _ _ _ _; first | exact Fz.pu trivial | (refine Fz.i ?_; first | rfl | omega) | (refine Fz.kpt ?_; (focus (show Pos.nat _ < Pos.nat _; simp [Pos.nat]; done))) | (refine Fz.ksl ?_; (focus (show Pos.nat _ < Pos.nat _; simp [Pos.nat]; done))) | (refine Fz.kmp ?_; (focus (show Pos.nat _ < Pos.nat _; simp [Pos.nat]; done))) | (refine Fz.pu ?_; simp [Cell.d, Pu, PuL, PuE, pu_ints, pu_cnts]; done) | (refine Fz.pu ?_; simp only [Cell.d]; assumption)) | (refine RO'.of ?_ (ShC.same ?_); (focus (show Pos.nat _ < Pos.nat _; simp [Pos.nat]; done)); (repeat' first | exact ShC.nl | refine ShC.cn ?_ ?_) <;> first | exact Fz.pu trivial | (refine Fz.i ?_; first | rfl | omega) | (refine Fz.kpt ?_; (focus (show Pos.nat _ < Pos.nat _; simp [Pos.nat]; done))) | (refine Fz.ksl ?_; (focus (show Pos.nat _ < Pos.nat _; simp [Pos.nat]; done))) | (refine Fz.kmp ?_; (focus (show Pos.nat _ < Pos.nat _; simp [Pos.nat]; done))) | (refine Fz.pu ?_; simp [Cell.d, Pu, PuL, PuE, pu_ints, pu_cnts]; done) | (refine Fz.pu ?_; simp only [Cell.d]; assumption)))
      refine RO'.of (show Pos.nat _ < Pos.nat _ by simp [Pos.nat]) ?_
      have ht : E.take 1 = [E.getD 0 0] := by rw [take_succ_getD (j := 0) (d := 0) (by omega)]; simp
      show ShC _ _ _ (.cells false (((E.take 1).map fun n => D.i .i64 n).map fun d => Cell.o d 0) 1)
      rw [ht, ← hEg 0 hlt]
      exact ShC.same (ShC.cn (.pu trivial) ShC.nl)
    · repeat' first | ((with_reducible apply WB.tt); conv => whnf) | ((with_reducible apply WB.ff); conv => whnf) | (refine Rn.seq ?_; conv => whnf) | (refine Rn.reg ?_; conv => whnf) | (refine Rn.drw ?_; conv => whnf) | (refine Rn.blk ?_; conv => whnf) | (refine Rn.skip ?_; conv => whnf) | (refine Rn.ret ?_; conv => whnf) | (refine Rn.exit ?_; conv => whnf) | (refine Rn.cond rfl ?_; conv => whnf) | (refine And.intro (InR.i64 (by omega) (by omega)) ?_; conv => whnf) | (refine WIx.intsN (by omega) ?_; conv => whnf) | (refine WIx.rowsN (by omega) ?_; conv => whnf)
      refine Fin.t (.inr rfl) rfl ?_
      rw [show E = [] from List.length_eq_zero_iff.1 (by omega)]
      exact Fz.ns
  · conv => whnf
    repeat' first | ((with_reducible apply WB.tt); conv => whnf) | ((with_reducible apply WB.ff); conv => whnf) | (refine Rn.seq ?_; conv => whnf) | (refine Rn.reg ?_; conv => whnf) | (refine Rn.drw ?_; conv => whnf) | (refine Rn.blk ?_; conv => whnf) | (refine Rn.skip ?_; conv => whnf) | (refine Rn.ret ?_; conv => whnf) | (refine Rn.exit ?_; conv => whnf) | (refine Rn.cond rfl ?_; conv => whnf) | (refine And.intro (InR.i64 (by omega) (by omega)) ?_; conv => whnf) | (refine WIx.intsN (by omega) ?_; conv => whnf) | (refine WIx.rowsN (by omega) ?_; conv => whnf)
    refine WB.dec (fun h => ?_) (fun h => ?_) <;> conv => whnf
    · have hlt : j + 1 < cs.length := by omega
      obtain ⟨k1, k2, k3, k4⟩ := hc (cs.getD (j + 1) default) (getD_mem hlt)
      repeat' first | ((with_reducible apply WB.tt); conv => whnf) | ((with_reducible apply WB.ff); conv => whnf) | (refine Rn.seq ?_; conv => whnf) | (refine Rn.reg ?_; conv => whnf) | (refine Rn.drw ?_; conv => whnf) | (refine Rn.blk ?_; conv => whnf) | (refine Rn.skip ?_; conv => whnf) | (refine Rn.ret ?_; conv => whnf) | (refine Rn.exit ?_; conv => whnf) | (refine Rn.cond rfl ?_; conv => whnf) | (refine And.intro (InR.i64 (by omega) (by omega)) ?_; conv => whnf) | (refine WIx.intsN (by omega) ?_; conv => whnf) | (refine WIx.rowsN (by omega) ?_; conv => whnf) | (refine WCall.pure (c_mistake l cs wr off tr htr _ _ _ _ _ _ _ _ _ _ _ _ hb hl k1 k2 k3 k4) ?_; conv => whnf)
      refine WSt.app_one (ds := (E.take (j + 1)).map fun n => D.i .i64 n) (r := [_]) rfl rfl rfl rfl rfl rfl (by simp; omega) rfl rfl (by omega) rfl ?_; conv => whnf
      repeat' first | ((with_reducible apply WB.tt); conv => whnf) | ((with_reducible apply WB.ff); conv => whnf) | (refine Rn.seq ?_; conv => whnf) | (refine Rn.reg ?_; conv => whnf) | (refine Rn.drw ?_; conv => whnf) | (refine Rn.blk ?_; conv => whnf) | (refine Rn.skip ?_; conv => whnf) | (refine Rn.ret ?_; conv => whnf) | (refine Rn.exit ?_; conv => whnf) | (refine Rn.cond rfl ?_; conv => whnf) | (refine And.intro (InR.i64 (by omega) (by omega)) ?_; conv => whnf) | (refine WIx.intsN (by omega) ?_; conv => whnf) | (refine WIx.rowsN (by omega) ?_; conv => whnf)
      refine Again.to (j + 2) (by omega) (by omega) (Nat.le_of_ble_eq_true rfl) ?_
      (refine Shr.of ?_ ?_ rfl rfl) <;> (repeat' first | exact Rel.e | refine Rel.some ?_ ?_ ?_ | refine Rel.none ?_ ?_) <;> (try first | (show Fz _ _ _ _; first | exact Fz.pu trivial | (refine Fz.i ?_; first | rfl | omega) | (refine Fz.kpt ?_; (focus (show Pos.nat _ < Pos.nat _; simp [Pos.nat]; done))) | (refine Fz.ksl ?_; (focus (show Pos.nat _ < Pos.nat _; simp [Pos.nat]; done))) | (refine Fz.kmp ?_; (focus (show Pos.nat _ < Pos.nat _; simp [Pos.nat]; done))) | (refine Fz.pu ?_; simp [Cell.d, Pu, PuL, PuE, pu_ints, pu_cnts]; done) | (refine Fz.pu ?_; simp only [Cell.d]; assumption)) | (refine RO'.of ?_ (ShC.same ?_); (focus (show Pos.nat _ < Pos.nat _; simp [Pos.nat]; done)); (repeat' first | exact ShC.nl | refine ShC.cn ?_ ?_) <;> first | exact Fz.pu trivial | (refine Fz.i ?_; first | rfl | omega) | (refine Fz.kpt ?_; (focus (show Pos.nat _ < Pos.nat _; simp [Pos.nat]; done))) | (refine Fz.ksl ?_; (focus (show Pos.nat _ < Pos.nat _; simp [Pos.nat]; done))) | (refine Fz.kmp ?_; (focus (show Pos.nat _ < Pos.nat _; simp [Pos.nat]; done))) | (refine Fz.pu ?_; simp [Cell.d, Pu, PuL, PuE, pu_ints, pu_cnts]; done) | (refine Fz.pu ?_; simp only [Cell.d]; assumption)))
      refine RO'.of (show Pos.nat _ < Pos.nat _ by simp [Pos.nat]) ?_
      show ShC _ _ (.cells false ((((E.take (j + 1)).map fun n => D.i .i64 n).map fun d => Cell.o d j) ++ [_].map fun d => Cell.o d (j + 1)) (j + 1 + 1)) (.cells false (((E.take (j + 1 + 1)).map fun n => D.i .i64 n).map fun d => Cell.o d (j + 1)) (j + 1 + 1))
      rw [take_succ_getD (j := j + 1) (d := 0) (by omega), List.map_append, ← hEg _ hlt]
      exact ShC.grown (by omega) (PuL_iff.2 fun d hd => by
        rcases List.mem_append.1 hd with hd | hd
        · exact PuL_iff.1 (puL_map_i _) d hd
        · simp at hd; subst hd; exact trivial)
    · repeat' first | ((with_reducible apply WB.tt); conv => whnf) | ((with_reducible apply WB.ff); conv => whnf) | (refine Rn.seq ?_; conv => whnf) | (refine Rn.reg ?_; conv => whnf) | (refine Rn.drw ?_; conv => whnf) | (refine Rn.blk ?_; conv => whnf) | (refine Rn.skip ?_; conv => whnf) | (refine Rn.ret ?_; conv => whnf) | (refine Rn.exit ?_; conv => whnf) | (refine Rn.cond rfl ?_; conv => whnf) | (refine And.intro (InR.i64 (by omega) (by omega)) ?_; conv => whnf) | (refine WIx.intsN (by omega) ?_; conv => whnf) | (refine WIx.rowsN (by omega) ?_; conv => whnf)
      refine Fin.t (.inr rfl) rfl ?_
      refine Frz.whole (cs := ((E.take (j + 1)).map fun n => D.i .i64 n).map fun d => Cell.o d j) (cur := j + 1) rfl (by rw [ints_length]; omega) (ints_one _) (by rw [ints_flatten, List.take_of_length_le (by omega)]) (pu_ints _)
end Go.Ev

namespace Go.Ev
open Go.Proofs
set_option maxRecDepth 100000
def nR (t : List Int) (cs : List Cnt) : Nat → Int
  | 0 => 0
  | j + 1 => nR t cs j + if ec t (cs.getD j default) = 0 then 1 else 0
theorem nR_bd (t : List Int) (cs : List Cnt) : ∀ j : Nat, 0 ≤ nR t cs j ∧ nR t cs j ≤ j
  | 0 => by simp [nR]
  | j + 1 => by
    have h := nR_bd t cs j
    unfold nR
    split <;> omega
theorem c_rightIn (l : List Int) (cs : List Cnt) (wr off : Int) (tr : D) (htr : Pu tr) (a0 a1 a2 a3 a4 a5 a6 a7 a8 : Int) (hb : Bits [a0, a1, a2, a3, a4, a5, a6, a7, a8]) (hl : l.length ≤ 9) (hc : ∀ c ∈ cs, cntIn l.length c) (hn : cs.length ≤ 1000) (n : Int) (hn' : n = (cs.length : Int) - 1) :
    PureF Try.prog p81.ix [.ag [.lst 1 (ints l), .lst 3 (rows cntD cs), .i .i64 wr, .i .i64 off, tr], .ag [.i .i64 a0, .i .i64 a1, .i .i64 a2, .i .i64 a3, .i .i64 a4, .i .i64 a5, .i .i64 a6, .i .i64 a7, .i .i64 a8], .ag [.i .i64 0, .i .i64 n]] (.i .i64 (nR ([a0, a1, a2, a3, a4, a5, a6, a7, a8].take l.length) cs cs.length)) := by
  have e2 := rows_length cntD cs
  refine PureF.run fn80 (by simp) (by simp [PuL, PuE, Pu, pu_ints, pu_cnts, htr]) ?_; conv => whnf
  repeat' first | ((with_reducible apply WB.tt); conv => whnf) | ((with_reducible apply WB.ff); conv => whnf) | (refine Rn.seq ?_; conv => whnf) | (refine Rn.reg ?_; conv => whnf) | (refine Rn.drw ?_; conv => whnf) | (refine Rn.blk ?_; conv => whnf) | (refine Rn.skip ?_; conv => whnf) | (refine Rn.ret ?_; conv => whnf) | (refine Rn.exit ?_; conv => whnf) | (refine Rn.cond rfl ?_; conv => whnf) | (refine And.intro (InR.i64 (by omega) (by omega)) ?_; conv => whnf) | (refine WIx.intsN (by omega) ?_; conv => whnf) | (refine WIx.rowsN (by omega) ?_; conv => whnf)
  refine Rn.loop (fun j : Nat => ⟨(.n (.n (.n (.n .e (some (.i .i64 (nR ([a0, a1, a2, a3, a4, a5, a6, a7, a8].take l.length) cs j))) .e) (some (.pt .h 0 0)) .e) none (.n .e (some (.pt (.i .h) 0 0)) .e)) none (.n (.n (.n .e (some (.i .i64 (j : Int))) .e) (some (.pt (.o .h) 0 0)) .e) none .e)), (.n (.n .e (some (.cells false [.o (.i .i64 a0) 0, .o (.i .i64 a1) 0, .o (.i .i64 a2) 0, .o (.i .i64 a3) 0, .o (.i .i64 a4) 0, .o (.i .i64 a5) 0, .o (.i .i64 a6) 0, .o (.i .i64 a7) 0, .o (.i .i64 a8) 0] 1)) .e) (some (.cells false [.o (.lst 1 (ints l)) 0, .o (.lst 3 (rows cntD cs)) 0, .o (.i .i64 wr) 0, .o (.i .i64 off) 0, .o tr 0] 1)) (.n .e (some (.cells false [.o (.i .i64 0) 0, .o (.i .i64 n) 0] 1)) .e)), .o (.o .h), none⟩) (fun j => j ≤ cs.length) (fun j => cs.length - j) 0 ?_ ?_ ?_
  · (first | (refine X.le.mk ?_ ?_ (Nat.le_refl _) rfl rfl) | skip) <;> (repeat' first | exact T.le_e _ | refine T.le_some ?_ ?_ ?_ | refine T.le_none ?_ ?_ | rfl)
  · omega
  intro j hj
  have hb' := nR_bd ([a0, a1, a2, a3, a4, a5, a6, a7, a8].take l.length) cs j
  conv => whnf
  repeat' first | ((with_reducible apply WB.tt); conv => whnf) | ((with_reducible apply WB.ff); conv => whnf) | (refine Rn.seq ?_; conv => whnf) | (refine Rn.reg ?_; conv => whnf) | (refine Rn.drw ?_; conv => whnf) | (refine Rn.blk ?_; conv => whnf) | (refine Rn.skip ?_; conv => whnf) | (refine Rn.ret ?_; conv => whnf) | (refine Rn.exit ?_; conv => whnf) | (refine Rn.cond rfl ?_; conv => whnf) | (refine And.intro (InR.i64 (by omega) (by omega)) ?_; conv => whnf) | (refine WIx.intsN (by omega) ?_; conv => whnf) | (refine WIx.rowsN (by omega) ?_; conv => whnf)
  refine WB.dec (fun h => ?_) (fun h => ?_) <;> conv => whnf
  · have hlt : j < cs.length := by omega
    obtain ⟨k1, k2, k3, k4⟩ := hc (cs.getD j default) (getD_mem hlt)
    repeat' first | ((with_reducible apply WB.tt); conv => whnf) | ((with_reducible apply WB.ff); conv => whnf) | (refine Rn.seq ?_; conv => whnf) | (refine Rn.reg ?_; conv => whnf) | (refine Rn.drw ?_; conv => whnf) | (refine Rn.blk ?_; conv => whnf) | (refine Rn.skip ?_; conv => whnf) | (refine Rn.ret ?_; conv => whnf) | (refine Rn.exit ?_; conv => whnf) | (refine Rn.cond rfl ?_; conv => whnf) | (refine And.intro (InR.i64 (by omega) (by omega)) ?_; conv => whnf) | (refine WIx.intsN (by omega) ?_; conv => whnf) | (refine WIx.rowsN (by omega) ?_; conv => whnf) | (refine WCall.pure (c_mistake l cs wr off tr htr _ _ _ _ _ _ _ _ _ _ _ _ hb hl k1 k2 k3 k4) ?_; conv => whnf) | ((with_reducible refine WB.dec (fun h => ?_) (fun h => ?_)) <;> conv => whnf) | ((with_reducible refine WB.ndec (fun h => ?_) (fun h => ?_)) <;> conv => whnf) | (refine WB.mk (fun h => ?_) (fun h => ?_) <;> conv => whnf)
    · refine Again.to (j + 1) (by omega) (by omega) (Nat.le_refl _) ?_
      (refine Shr.of ?_ ?_ rfl rfl) <;> (repeat' first | exact Rel.e | refine Rel.some ?_ ?_ ?_ | refine Rel.none ?_ ?_) <;> (try first | (show Fz _ _ _ _; first | exact Fz.pu trivial | (refine Fz.i ?_; first | rfl | omega) | (refine Fz.kpt ?_; (focus (show Pos.nat _ < Pos.nat _; simp [Pos.nat]; done))) | (refine Fz.ksl ?_; (focus (show Pos.nat _ < Pos.nat _; simp [Pos.nat]; done))) | (refine Fz.kmp ?_; (focus (show Pos.nat _ < Pos.nat _; simp [Pos.nat]; done))) | (refine Fz.pu ?_; simp [Cell.d, Pu, PuL, PuE, pu_ints, pu_cnts]; done) | (refine Fz.pu ?_; simp only [Cell.d]; assumption)) | (refine RO'.of ?_ (ShC.same ?_); (focus (show Pos.nat _ < Pos.nat _; simp [Pos.nat]; done)); (repeat' first | exact ShC.nl | refine ShC.cn ?_ ?_) <;> first | exact Fz.pu trivial | (refine Fz.i ?_; first | rfl | omega) | (refine Fz.kpt ?_; (focus (show Pos.nat _ < Pos.nat _; simp [Pos.nat]; done))) | (refine Fz.ksl ?_; (focus (show Pos.nat _ < Pos.nat _; simp [Pos.nat]; done))) | (refine Fz.kmp ?_; (focus (show Pos.nat _ < Pos.nat _; simp [Pos.nat]; done))) | (refine Fz.pu ?_; simp [Cell.d, Pu, PuL, PuE, pu_ints, pu_cnts]; done) | (refine Fz.pu ?_; simp only [Cell.d]; assumption)))
      show Fz _ _ (.i .i64 (nR ([a0, a1, a2, a3, a4, a5, a6, a7, a8].take l.length) cs j + 1)) (.i .i64 (nR ([a0, a1, a2, a3, a4, a5, a6, a7, a8].take l.length) cs (j + 1)))
      refine Fz.i ?_
      rw [nR, if_pos (show ec _ _ = 0 from h)]
    · refine Again.to (j + 1) (by omega) (by omega) (Nat.le_refl _) ?_
      (refine Shr.of ?_ ?_ rfl rfl) <;> (repeat' first | exact Rel.e | refine Rel.some ?_ ?_ ?_ | refine Rel.none ?_ ?_) <;> (try first | (show Fz _ _ _ _; first | exact Fz.pu trivial | (refine Fz.i ?_; first | rfl | omega) | (refine Fz.kpt ?_; (focus (show Pos.nat _ < Pos.nat _; simp [Pos.nat]; done))) | (refine Fz.ksl ?_; (focus (show Pos.nat _ < Pos.nat _; simp [Pos.nat]; done))) | (refine Fz.kmp ?_; (focus (show Pos.nat _ < Pos.nat _; simp [Pos.nat]; done))) | (refine Fz.pu ?_; simp [Cell.d, Pu, PuL, PuE, pu_ints, pu_cnts]; done) | (refine Fz.pu ?_; simp only [Cell.d]; assumption)) | (refine RO'.of ?_ (ShC.same ?_); (focus (show Pos.nat _ < Pos.nat _; simp [Pos.nat]; done)); (repeat' first | exact ShC.nl | refine ShC.cn ?_ ?_) <;> first | exact Fz.pu trivial | (refine Fz.i ?_; first | rfl | omega) | (refine Fz.kpt ?_; (focus (show Pos.nat _ < Pos.nat _; simp [Pos.nat]; done))) | (refine Fz.ksl ?_; (focus (show Pos.nat _ < Pos.nat _; simp [Pos.nat]; done))) | (refine Fz.kmp ?_; (focus (show Pos.nat _ < Pos.nat _; simp [Pos.nat]; done))) | (refine Fz.pu ?_; simp [Cell.d, Pu, PuL, PuE, pu_ints, pu_cnts]; done) | (refine Fz.pu ?_; simp only [Cell.d]; assumption)))
      show Fz _ _ (.i .i64 (nR ([a0, a1, a2, a3, a4, a5, a6, a7, a8].take l.length) cs j)) (.i .i64 (nR ([a0, a1, a2, a3, a4, a5, a6, a7, a8].take l.length) cs (j + 1)))
      refine Fz.i ?_
      rw [nR, if_neg (show ¬ ec _ _ = 0 from h), Int.add_zero]
  · repeat' first | ((with_reducible apply WB.tt); conv => whnf) | ((with_reducible apply WB.ff); conv => whnf) | (refine Rn.seq ?_; conv => whnf) | (refine Rn.reg ?_; conv => whnf) | (refine Rn.drw ?_; conv => whnf) | (refine Rn.blk ?_; conv => whnf) | (refine Rn.skip ?_; conv => whnf) | (refine Rn.ret ?_; conv => whnf) | (refine Rn.exit ?_; conv => whnf) | (refine Rn.cond rfl ?_; conv => whnf) | (refine And.intro (InR.i64 (by omega) (by omega)) ?_; conv => whnf) | (refine WIx.intsN (by omega) ?_; conv => whnf) | (refine WIx.rowsN (by omega) ?_; conv => whnf)
    exact Fin.i rfl (by rw [show j = cs.length by omega])
theorem Frz.ptr {ob : T C} {id : Pos} {st : Nat} {cs : List Cell} {cur : Nat} {r : List D} (h : ob.get id = some (.cells false cs cur)) (hc : cs = r.map fun d => Cell.o d st) (h0 : 0 < r.length) (hp : PuL r) : Frz ob (.pt id 0 st) (.pl r 0) := by
  subst hc
  refine .pt (fun h => h) h h0 (fun k d hk => ⟨.o d st, ?_, ?_, rfl⟩) (FzL.of hp)
  · rw [List.drop_zero, List.getElem?_map, hk]; rfl
  · show Nat.ble st st = true
    exact Nat.ble_eq_true_of_le (Nat.le_refl _)
theorem c_isOwn1 (l : List Int) (cs : List Cnt) (wr off : Int) (tr : D) (htr : Pu tr) (n : Int) : PureF Try.prog p101.ix [.i .i64 n, .pl [.lst 1 (ints l), .lst 3 (rows cntD cs), .i .i64 wr, .i .i64 off, tr] 0] (.b (decide (n ≤ off))) := by
  refine PureF.run fn100 (by simp) (by simp [PuL, PuE, Pu, pu_ints, pu_cnts, htr]) ?_; conv => whnf
  repeat' first | ((with_reducible apply WB.tt); conv => whnf) | ((with_reducible apply WB.ff); conv => whnf) | (refine Rn.seq ?_; conv => whnf) | (refine Rn.reg ?_; conv => whnf) | (refine Rn.drw ?_; conv => whnf) | (refine Rn.blk ?_; conv => whnf) | (refine Rn.skip ?_; conv => whnf) | (refine Rn.ret ?_; conv => whnf) | (refine Rn.exit ?_; conv => whnf) | (refine Rn.cond rfl ?_; conv => whnf) | (refine And.intro (InR.i64 (by omega) (by omega)) ?_; conv => whnf) | (refine WIx.intsN (by omega) ?_; conv => whnf) | (refine WIx.rowsN (by omega) ?_; conv => whnf) | ((with_reducible refine WB.dec (fun h => ?_) (fun h => ?_)) <;> conv => whnf) | ((with_reducible refine WB.ndec (fun h => ?_) (fun h => ?_)) <;> conv => whnf) | (refine WB.mk (fun h => ?_) (fun h => ?_) <;> conv => whnf)
  exact Fin.b rfl rfl
theorem c_isOwn (l : List Int) (cs : List Cnt) (wr off : Int) (tr : D) (htr : Pu tr) (a0 a1 a2 a3 a4 a5 a6 a7 a8 : Int) (hb : Bits [a0, a1, a2, a3, a4, a5, a6, a7, a8]) (hl : l.length ≤ 9) (hc : ∀ c ∈ cs, cntIn l.length c) (hn : cs.length ≤ 1000) :
    PureF Try.prog p91.ix [.ag [.lst 1 (ints l), .lst 3 (rows cntD cs), .i .i64 wr, .i .i64 off, tr], .ag [.i .i64 a0, .i .i64 a1, .i .i64 a2, .i .i64 a3, .i .i64 a4, .i .i64 a5, .i .i64 a6, .i .i64 a7, .i .i64 a8]] (.b ((errs ([a0, a1, a2, a3, a4, a5, a6, a7, a8].take l.length) cs).all (fun n => decide (n ≤ off)) && decide ((cs.length : Int) - nR ([a0, a1, a2, a3, a4, a5, a6, a7, a8].take l.length) cs cs.length ≤ wr))) := by
  have e2 := rows_length cntD cs
  have hb' := nR_bd ([a0, a1, a2, a3, a4, a5, a6, a7, a8].take l.length) cs cs.length
  refine PureF.run fn90 (by simp) (by simp [PuL, PuE, Pu, pu_ints, pu_cnts, htr]) ?_; conv => whnf
  repeat' first | ((with_reducible apply WB.tt); conv => whnf) | ((with_reducible apply WB.ff); conv => whnf) | (refine Rn.seq ?_; conv => whnf) | (refine Rn.reg ?_; conv => whnf) | (refine Rn.drw ?_; conv => whnf) | (refine Rn.blk ?_; conv => whnf) | (refine Rn.skip ?_; conv => whnf) | (refine Rn.ret ?_; conv => whnf) | (refine Rn.exit ?_; conv => whnf) | (refine Rn.cond rfl ?_; conv => whnf) | (refine And.intro (InR.i64 (by omega) (by omega)) ?_; conv => whnf) | (refine WIx.intsN (by omega) ?_; conv => whnf) | (refine WIx.rowsN (by omega) ?_; conv => whnf) | (refine WCall.pure (c_mistakes l cs wr off tr htr _ _ _ _ _ _ _ _ _ hb hl hc hn) ?_; conv => whnf) | (refine WCall.pure (c_rightIn l cs wr off tr htr _ _ _ _ _ _ _ _ _ hb hl hc hn _ (by omega)) ?_; conv => whnf)
  refine WCall.borrow (c_allInt (errs ([a0, a1, a2, a3, a4, a5, a6, a7, a8].take l.length) cs) p101 [] [.pl [.lst 1 (ints l), .lst 3 (rows cntD cs), .i .i64 wr, .i .i64 off, tr] 0] (fun n => decide (n ≤ off)) trivial (by simp [PuL, Pu, pu_ints, pu_cnts, htr]) (by simp [errs]; omega) (fun n _ => c_isOwn1 l cs wr off tr htr n)) (.cons (.pu (pu_ints _)) (.cons (.fn .nil (.cons (Frz.ptr rfl rfl (by simp) (by simp [PuL, Pu, pu_ints, pu_cnts, htr])) .nil)) .nil)) trivial ?_; conv => whnf
  repeat' first | ((with_reducible apply WB.tt); conv => whnf) | ((with_reducible apply WB.ff); conv => whnf) | (refine Rn.seq ?_; conv => whnf) | (refine Rn.reg ?_; conv => whnf) | (refine Rn.drw ?_; conv => whnf) | (refine Rn.blk ?_; conv => whnf) | (refine Rn.skip ?_; conv => whnf) | (refine Rn.ret ?_; conv => whnf) | (refine Rn.exit ?_; conv => whnf) | (refine Rn.cond rfl ?_; conv => whnf) | (refine And.intro (InR.i64 (by omega) (by omega)) ?_; conv => whnf) | (refine WIx.intsN (by omega) ?_; conv => whnf) | (refine WIx.rowsN (by omega) ?_; conv => whnf) | (refine WCall.pure (c_rightIn l cs wr off tr htr _ _ _ _ _ _ _ _ _ hb hl hc hn _ (by omega)) ?_; conv => whnf) | ((with_reducible refine WB.dec (fun h => ?_) (fun h => ?_)) <;> conv => whnf) | ((with_reducible refine WB.ndec (fun h => ?_) (fun h => ?_)) <;> conv => whnf) | (refine WB.mk (fun h => ?_) (fun h => ?_) <;> conv => whnf)
  · exact Fin.b rfl (by rw [h, e2, Bool.true_and])
  · exact Fin.b rfl (by rw [h, Bool.false_and])
end Go.Ev

namespace Go.Ev
open Go.Proofs
set_option maxRecDepth 100000
def nums (c : Nat → Int) : List D := [.i .i64 (c 0), .i .i64 (c 1), .i .i64 (c 2), .i .i64 (c 3), .i .i64 (c 4), .i .i64 (c 5), .i .i64 (c 6), .i .i64 (c 7), .i .i64 (c 8)]
def ncel (c : Nat → Int) : List Cell := [.o (.i .i64 (c 0)) 0, .o (.i .i64 (c 1)) 0, .o (.i .i64 (c 2)) 0, .o (.i .i64 (c 3)) 0, .o (.i .i64 (c 4)) 0, .o (.i .i64 (c 5)) 0, .o (.i .i64 (c 6)) 0, .o (.i .i64 (c 7)) 0, .o (.i .i64 (c 8)) 0]
def upd (c : Nat → Int) (k : Nat) (v : Int) (i : Nat) : Int := bif Nat.beq i k then v else c i
theorem upd_eq (c : Nat → Int) (k : Nat) (v : Int) : upd c k v k = v := by simp [upd]
theorem upd_ne (c : Nat → Int) {k i : Nat} (v : Int) (h : i ≠ k) : upd c k v i = c i := by
  unfold upd
  rw [show Nat.beq i k = false from by
    cases e : Nat.beq i k with
    | false => rfl
    | true => exact absurd (Nat.eq_of_beq_eq_true e) h]
  rfl
section
variable {sl : T D} {ob : T C} {nx : Pos} {K : X → Prop}
end
def row5 (l : List Int) (cs : List Cnt) (wr off : Int) (tr : D) : List D := [.lst 1 (ints l), .lst 3 (rows cntD cs), .i .i64 wr, .i .i64 off, tr]
theorem c_agreeing (l : List Int) (cs : List Cnt) (wr off : Int) (tr : D) (htr : Pu tr) : PureF Try.prog p89.ix [.ag [.lst 1 (ints l), .lst 3 (rows cntD cs), .i .i64 wr, .i .i64 off, tr]] (.fn p99 [] [.pl (row5 l cs wr off tr) 0]) := by
  refine PureF.run fn88 (by simp) (by simp [PuL, PuE, Pu, pu_ints, pu_cnts, htr]) ?_; conv => whnf
  repeat' first | ((with_reducible apply WB.tt); conv => whnf) | ((with_reducible apply WB.ff); conv => whnf) | (refine Rn.seq ?_; conv => whnf) | (refine Rn.reg ?_; conv => whnf) | (refine Rn.drw ?_; conv => whnf) | (refine Rn.blk ?_; conv => whnf) | (refine Rn.skip ?_; conv => whnf) | (refine Rn.ret ?_; conv => whnf) | (refine Rn.exit ?_; conv => whnf) | (refine Rn.cond rfl ?_; conv => whnf) | (refine And.intro (InR.i64 (by omega) (by omega)) ?_; conv => whnf) | (refine WIx.intsN (by omega) ?_; conv => whnf) | (refine WIx.rowsN (by omega) ?_; conv => whnf)
  refine Fin.t (.inr rfl) rfl (.fn .nil (.cons (Frz.ptr rfl rfl (by simp [row5]) (by simp [row5, PuL, Pu, pu_ints, pu_cnts, htr])) .nil))
def chA (row : List D) (p : Int) : List D := [.i .i64 p, .pl row 0, .pt (.o (.i .h)) 0 0, .pt (.i (.i .h)) 0 0, .pt (.o (.o (.o .h))) 0 0]
def nine9 : Pos := .i (.o (.o .h))
def zero9 : Nat → Int := fun _ => 0
def bit2 (c : Nat → Int) : Prop := ∀ i, c i = 0 ∨ c i = 1
theorem bit2.wf {c : Nat → Int} (h : bit2 c) (i : Nat) : wfB .i64 (c i) = true := by
  rcases h i with e | e <;> rw [e] <;> rfl
def ahead (l : List Int) (w c : Nat → Int) (p : Nat) : Prop := (∀ i, i < 9 → (i < p ∨ l.length ≤ i) → c i = w i) ∧ ∀ i, p ≤ i → i < l.length → (w i = 0 ∨ w i = 1) ∧ (l.getD i 0 = 2 ∨ l.getD i 0 = w i)
end Go.Ev

namespace Go.Ev
open Go.Proofs
set_option maxRecDepth 100000
theorem upd_bit {c : Nat → Int} {p : Nat} {k : Int} (h : bit2 c) (hk : k = 0 ∨ k = 1) : bit2 (upd c p k) := fun i => by
  by_cases e : i = p
  · subst e; rw [upd_eq]; exact hk
  · rw [upd_ne _ _ e]; exact h i
theorem pu_row5 {l : List Int} {cs : List Cnt} {wr off : Int} {tr : D} (h : Pu tr) : PuL (row5 l cs wr off tr) := by simp [row5, PuL, Pu, pu_ints, pu_cnts, h]
def chS (row : List D) (p k : Int) : T D := (.n (.n (.n .e (some (.pt (.i (.i .h)) 0 0)) .e) (some (.pl row 0)) (.n (.n (.n .e (some (.i .i64 k)) .e) none .e) none .e)) (some (.i .i64 p)) (.n (.n .e (some (.pt (.o (.o (.o .h))) 0 0)) .e) (some (.pt (.o (.i .h)) 0 0)) .e))
end Go.Ev

namespace Go.Ev
open Go.Proofs
set_option maxRecDepth 100000
def six6 : Pos := .o (.i .h)
end Go.Ev

namespace Go.Ev
open Go.Proofs
set_option maxRecDepth 100000
theorem fault0 {l : List Int} {cs : List Cnt} {wr off : Int} (h : faultR l cs wr off = 0) : 0 < l.length ∧ l.length ≤ 9 ∧ cs.length ≤ 6 ∧ ∀ c ∈ cs, cntIn l.length c := by
  unfold faultR at h
  split at h
  · cases h
  · split at h
    · cases h
    · split at h
      · split at h
        · rename_i h1 h2 h3 h4
          refine ⟨by omega, by omega, by omega, fun c hc => ?_⟩
          have := List.all_eq_true.1 h4 c hc
          unfold cntOk inB at this
          rw [Bool.and_eq_true, decide_eq_true_iff, decide_eq_true_iff] at this
          exact ⟨this.1.1, this.1.2, this.2.1, this.2.2⟩
        · cases h
      · cases h
theorem truth_bits {l t : List Int} (h : isTruthR l t = true) : t.length = l.length ∧ Bits t := by
  unfold isTruthR at h
  rw [Bool.and_eq_true, decide_eq_true_iff, List.all_eq_true] at h
  refine ⟨h.1, fun x hx => ?_⟩
  obtain ⟨i, hi, rfl⟩ := List.getElem_of_mem hx
  have := h.2 i (List.mem_range.2 hi)
  unfold fitB inB at this
  rw [Bool.and_eq_true, decide_eq_true_iff] at this
  have e : t.getD i 0 = t[i] := by simp [List.getD, hi]
  rw [e] at this
  omega
def ownR (t : List Int) (cs : List Cnt) (wr off : Int) : Bool := (errs t cs).all (fun n => decide (n ≤ off)) && decide ((cs.length : Int) - nR t cs cs.length ≤ wr)
end Go.Ev

namespace Go.Ev
open Go.Proofs
set_option maxRecDepth 100000
def cells3 (cs : List Cnt) (n : Nat) : List D := (rows cntD (cs.take n)).flatten
theorem cells3_length (cs : List Cnt) {n : Nat} (h : n ≤ cs.length) : (cells3 cs n).length = n * 3 := by
  induction n with
  | zero => simp [cells3, rows]
  | succ n ih =>
    have := ih (by omega)
    unfold cells3 at *
    rw [List.take_succ_eq_append_getElem (by omega), rows, List.map_append, List.flatten_append, List.length_append]
    simp only [rows] at this
    rw [this]
    simp [cntD]
    omega
theorem cells3_succ (cs : List Cnt) {n : Nat} (h : n < cs.length) : cells3 cs (n + 1) = cells3 cs n ++ cntD (cs.getD n default) := by
  unfold cells3
  rw [List.take_succ_eq_append_getElem h, rows, List.map_append, List.flatten_append]
  simp [rows, List.getD, h]
theorem pu_cells3 (cs : List Cnt) (n : Nat) : PuL (cells3 cs n) := by
  unfold cells3
  exact PuL_iff.2 fun d hd => by
    obtain ⟨r, hr, hd⟩ := List.mem_flatten.1 hd
    exact PuL_iff.1 (PuE_iff.1 (pu_cnts _) r hr) d hd
theorem c_Row (l : List Int) (cs : List Cnt) (wr off : Int) (hl : l.length ≤ 65536) (hn : cs.length ≤ 1000) :
    PureF Try.prog p22.ix [.ag [.lst 1 (ints l), .lst 3 (rows cntD cs), .i .i64 wr, .i .i64 off]] (.ag [.lst 1 (ints l), .lst 3 (rows cntD cs), .i .i64 wr, .i .i64 off]) := by
  have e1 := ints_length l
  have e2 := rows_length cntD cs
  refine PureF.run fn21 (by simp) (by simp [PuL, PuE, Pu, pu_ints, pu_cnts]) ?_; conv => whnf
  repeat' first | ((with_reducible apply WB.tt); conv => whnf) | ((with_reducible apply WB.ff); conv => whnf) | (refine Rn.seq ?_; conv => whnf) | (refine Rn.reg ?_; conv => whnf) | (refine Rn.drw ?_; conv => whnf) | (refine Rn.blk ?_; conv => whnf) | (refine Rn.skip ?_; conv => whnf) | (refine Rn.ret ?_; conv => whnf) | (refine Rn.exit ?_; conv => whnf) | (refine Rn.cond rfl ?_; conv => whnf) | (refine And.intro (InR.i64 (by omega) (by omega)) ?_; conv => whnf) | (refine WIx.intsN (by omega) ?_; conv => whnf) | (refine WIx.rowsN (by omega) ?_; conv => whnf) | (refine WCall.pure (c_list l hl) ?_; conv => whnf)
  refine Rn.loop (fun j : Nat => match j with
    | 0 => ⟨(.n (.n (.n .e (some (.pt (.i .h) 0 0)) .e) (some (.pt .h 0 0)) .e) none (.n (.n .e (some (.i .i64 0)) .e) (some (.pt (.o .h) 0 0)) .e)), (.n (.n .e (some (.cells false [.o .ns 0, .o .ns 0, .o (.i .i64 0) 0, .o (.i .i64 0) 0] 1)) .e) (some (.cells false [.o (.lst 1 (ints l)) 0, .o (.lst 3 (rows cntD cs)) 0, .o (.i .i64 wr) 0, .o (.i .i64 off) 0] 1)) (.n .e (some (.cells false [.o (.lst 1 (ints l)) 0, .o .ns 0, .o (.i .i64 wr) 0, .o (.i .i64 off) 0] 1)) .e)), .o (.o .h), none⟩
    | j + 1 => ⟨(.n (.n (.n .e (some (.pt (.i .h) 0 0)) .e) (some (.pt .h 0 0)) .e) none (.n (.n .e (some (.i .i64 ((j + 1 : Nat) : Int))) .e) (some (.pt (.o .h) 0 0)) .e)), (.n (.n .e (some (.cells false [.o .ns 0, .o .ns 0, .o (.i .i64 0) 0, .o (.i .i64 0) 0] 1)) (.n .e (some (.cells false ((cells3 cs (j + 1)).map fun d => Cell.o d j) (j + 1))) .e)) (some (.cells false [.o (.lst 1 (ints l)) 0, .o (.lst 3 (rows cntD cs)) 0, .o (.i .i64 wr) 0, .o (.i .i64 off) 0] 1)) (.n .e (some (.cells false [.o (.lst 1 (ints l)) 0, .o (.sl (.o (.i .h)) 0 (j + 1) j 3) 0, .o (.i .i64 wr) 0, .o (.i .i64 off) 0] 1)) .e)), .i (.i .h), none⟩) (fun j => j ≤ cs.length) (fun j => cs.length - j) 0 ?_ ?_ ?_
  · (first | (refine X.le.mk ?_ ?_ (Nat.le_refl _) rfl rfl) | skip) <;> (repeat' first | exact T.le_e _ | refine T.le_some ?_ ?_ ?_ | refine T.le_none ?_ ?_ | rfl)
  · omega
  rintro (_ | j) hj
  · conv => whnf
    repeat' first | ((with_reducible apply WB.tt); conv => whnf) | ((with_reducible apply WB.ff); conv => whnf) | (refine Rn.seq ?_; conv => whnf) | (refine Rn.reg ?_; conv => whnf) | (refine Rn.drw ?_; conv => whnf) | (refine Rn.blk ?_; conv => whnf) | (refine Rn.skip ?_; conv => whnf) | (refine Rn.ret ?_; conv => whnf) | (refine Rn.exit ?_; conv => whnf) | (refine Rn.cond rfl ?_; conv => whnf) | (refine And.intro (InR.i64 (by omega) (by omega)) ?_; conv => whnf) | (refine WIx.intsN (by omega) ?_; conv => whnf) | (refine WIx.rowsN (by omega) ?_; conv => whnf)
    refine WB.dec (fun h => ?_) (fun h => ?_) <;> conv => whnf
    · have hlt : 0 < cs.length := by omega
      repeat' first | ((with_reducible apply WB.tt); conv => whnf) | ((with_reducible apply WB.ff); conv => whnf) | (refine Rn.seq ?_; conv => whnf) | (refine Rn.reg ?_; conv => whnf) | (refine Rn.drw ?_; conv => whnf) | (refine Rn.blk ?_; conv => whnf) | (refine Rn.skip ?_; conv => whnf) | (refine Rn.ret ?_; conv => whnf) | (refine Rn.exit ?_; conv => whnf) | (refine Rn.cond rfl ?_; conv => whnf) | (refine And.intro (InR.i64 (by omega) (by omega)) ?_; conv => whnf) | (refine WIx.intsN (by omega) ?_; conv => whnf) | (refine WIx.rowsN (by omega) ?_; conv => whnf)
      refine WSt.app_first (r := cntD (cs.getD 0 default)) rfl (.inl rfl) rfl rfl rfl rfl ?_; conv => whnf
      repeat' first | ((with_reducible apply WB.tt); conv => whnf) | ((with_reducible apply WB.ff); conv => whnf) | (refine Rn.seq ?_; conv => whnf) | (refine Rn.reg ?_; conv => whnf) | (refine Rn.drw ?_; conv => whnf) | (refine Rn.blk ?_; conv => whnf) | (refine Rn.skip ?_; conv => whnf) | (refine Rn.ret ?_; conv => whnf) | (refine Rn.exit ?_; conv => whnf) | (refine Rn.cond rfl ?_; conv => whnf) | (refine And.intro (InR.i64 (by omega) (by omega)) ?_; conv => whnf) | (refine WIx.intsN (by omega) ?_; conv => whnf) | (refine WIx.rowsN (by omega) ?_; conv => whnf)
      refine Again.to 1 (by omega) (by omega) (Nat.le_of_ble_eq_true rfl) ?_
      (refine Shr.of ?_ ?_ rfl rfl) <;> (repeat' first | exact Rel.e | refine Rel.some ?_ ?_ ?_ | refine Rel.none ?_ ?_) <;> (try first | (show Fz _ _ _ _; first | exact Fz.pu trivial | (refine Fz.i ?_; first | rfl | omega) | (refine Fz.kpt ?_; (focus (show Pos.nat _ < Pos.nat _; simp [Pos.nat]; done))) | (refine Fz.ksl ?_; (focus (show Pos.nat _ < Pos.nat _; simp [Pos.nat]; done))) | (refine Fz.kmp ?_; (focus (show Pos.nat _ < Pos.nat _; simp [Pos.nat]; done))) | (refine Fz.pu ?_; simp [Cell.d, Pu, PuL, PuE, pu_ints, pu_cnts]; done) | (refine Fz.pu ?_; simp only [Cell.d]; assumption)) | (refine RO'.of ?_ (ShC.same ?_); (focus (show Pos.nat _ < Pos.nat _; simp [Pos.nat]; done)); (repeat' first | exact ShC.nl | refine ShC.cn ?_ ?_) <;> first | exact Fz.pu trivial | (refine Fz.i ?_; first | rfl | omega) | (refine Fz.kpt ?_; (focus (show Pos.nat _ < Pos.nat _; simp [Pos.nat]; done))) | (refine Fz.ksl ?_; (focus (show Pos.nat _ < Pos.nat _; simp [Pos.nat]; done))) | (refine Fz.kmp ?_; (focus (show Pos.nat _ < Pos.nat _; simp [Pos.nat]; done))) | (refine Fz.pu ?_; simp [Cell.d, Pu, PuL, PuE, pu_ints, pu_cnts]; done) | (refine Fz.pu ?_; simp only [Cell.d]; assumption)))
      · refine RO'.of (show Pos.nat _ < Pos.nat _ by simp [Pos.nat]) ?_
        have ht : cells3 cs 1 = cntD (cs.getD 0 default) := by rw [cells3_succ cs hlt]; simp [cells3, rows]
        show ShC _ _ (.cells false ((cntD (cs.getD 0 default)).map fun d => Cell.o d 0) 1) (.cells false ((cells3 cs 1).map fun d => Cell.o d 0) 1)
        rw [ht]
        exact ShC.same (ShC.cn (.pu trivial) (ShC.cn (.pu trivial) (ShC.cn (.pu trivial) ShC.nl)))
    · repeat' first | ((with_reducible apply WB.tt); conv => whnf) | ((with_reducible apply WB.ff); conv => whnf) | (refine Rn.seq ?_; conv => whnf) | (refine Rn.reg ?_; conv => whnf) | (refine Rn.drw ?_; conv => whnf) | (refine Rn.blk ?_; conv => whnf) | (refine Rn.skip ?_; conv => whnf) | (refine Rn.ret ?_; conv => whnf) | (refine Rn.exit ?_; conv => whnf) | (refine Rn.cond rfl ?_; conv => whnf) | (refine And.intro (InR.i64 (by omega) (by omega)) ?_; conv => whnf) | (refine WIx.intsN (by omega) ?_; conv => whnf) | (refine WIx.rowsN (by omega) ?_; conv => whnf)
      refine ⟨.inr rfl, _, rfl, ?_⟩
      rw [show cs = [] from List.length_eq_zero_iff.1 (by omega)]
      exact .ag (.cons (.pu (pu_ints _)) (.cons .ns (.cons (.pu trivial) (.cons (.pu trivial) .nil))))
  · conv => whnf
    repeat' first | ((with_reducible apply WB.tt); conv => whnf) | ((with_reducible apply WB.ff); conv => whnf) | (refine Rn.seq ?_; conv => whnf) | (refine Rn.reg ?_; conv => whnf) | (refine Rn.drw ?_; conv => whnf) | (refine Rn.blk ?_; conv => whnf) | (refine Rn.skip ?_; conv => whnf) | (refine Rn.ret ?_; conv => whnf) | (refine Rn.exit ?_; conv => whnf) | (refine Rn.cond rfl ?_; conv => whnf) | (refine And.intro (InR.i64 (by omega) (by omega)) ?_; conv => whnf) | (refine WIx.intsN (by omega) ?_; conv => whnf) | (refine WIx.rowsN (by omega) ?_; conv => whnf)
    refine WB.dec (fun h => ?_) (fun h => ?_) <;> conv => whnf
    · have hlt : j + 1 < cs.length := by omega
      repeat' first | ((with_reducible apply WB.tt); conv => whnf) | ((with_reducible apply WB.ff); conv => whnf) | (refine Rn.seq ?_; conv => whnf) | (refine Rn.reg ?_; conv => whnf) | (refine Rn.drw ?_; conv => whnf) | (refine Rn.blk ?_; conv => whnf) | (refine Rn.skip ?_; conv => whnf) | (refine Rn.ret ?_; conv => whnf) | (refine Rn.exit ?_; conv => whnf) | (refine Rn.cond rfl ?_; conv => whnf) | (refine And.intro (InR.i64 (by omega) (by omega)) ?_; conv => whnf) | (refine WIx.intsN (by omega) ?_; conv => whnf) | (refine WIx.rowsN (by omega) ?_; conv => whnf)
      refine WSt.app_one (ds := cells3 cs (j + 1)) (r := cntD (cs.getD (j + 1) default)) rfl rfl rfl rfl rfl rfl (cells3_length cs (by omega)) rfl rfl (by omega) rfl ?_; conv => whnf
      repeat' first | ((with_reducible apply WB.tt); conv => whnf) | ((with_reducible apply WB.ff); conv => whnf) | (refine Rn.seq ?_; conv => whnf) | (refine Rn.reg ?_; conv => whnf) | (refine Rn.drw ?_; conv => whnf) | (refine Rn.blk ?_; conv => whnf) | (refine Rn.skip ?_; conv => whnf) | (refine Rn.ret ?_; conv => whnf) | (refine Rn.exit ?_; conv => whnf) | (refine Rn.cond rfl ?_; conv => whnf) | (refine And.intro (InR.i64 (by omega) (by omega)) ?_; conv => whnf) | (refine WIx.intsN (by omega) ?_; conv => whnf) | (refine WIx.rowsN (by omega) ?_; conv => whnf)
      refine Again.to (j + 2) (by omega) (by omega) (Nat.le_of_ble_eq_true rfl) ?_
      (refine Shr.of ?_ ?_ rfl rfl) <;> (repeat' first | exact Rel.e | refine Rel.some ?_ ?_ ?_ | refine Rel.none ?_ ?_) <;> (try first | (show Fz _ _ _ _; first | exact Fz.pu trivial | (refine Fz.i ?_; first | rfl | omega) | (refine Fz.kpt ?_; (focus (show Pos.nat _ < Pos.nat _; simp [Pos.nat]; done))) | (refine Fz.ksl ?_; (focus (show Pos.nat _ < Pos.nat _; simp [Pos.nat]; done))) | (refine Fz.kmp ?_; (focus (show Pos.nat _ < Pos.nat _; simp [Pos.nat]; done))) | (refine Fz.pu ?_; simp [Cell.d, Pu, PuL, PuE, pu_ints, pu_cnts]; done) | (refine Fz.pu ?_; simp only [Cell.d]; assumption)) | (refine RO'.of ?_ (ShC.same ?_); (focus (show Pos.nat _ < Pos.nat _; simp [Pos.nat]; done)); (repeat' first | exact ShC.nl | refine ShC.cn ?_ ?_) <;> first | exact Fz.pu trivial | (refine Fz.i ?_; first | rfl | omega) | (refine Fz.kpt ?_; (focus (show Pos.nat _ < Pos.nat _; simp [Pos.nat]; done))) | (refine Fz.ksl ?_; (focus (show Pos.nat _ < Pos.nat _; simp [Pos.nat]; done))) | (refine Fz.kmp ?_; (focus (show Pos.nat _ < Pos.nat _; simp [Pos.nat]; done))) | (refine Fz.pu ?_; simp [Cell.d, Pu, PuL, PuE, pu_ints, pu_cnts]; done) | (refine Fz.pu ?_; simp only [Cell.d]; assumption)))
      · refine RO'.of (show Pos.nat _ < Pos.nat _ by simp [Pos.nat]) ?_
        show ShC _ _ (.cells false (((cells3 cs (j + 1)).map fun d => Cell.o d j) ++ (cntD (cs.getD (j + 1) default)).map fun d => Cell.o d (j + 1)) (j + 1 + 1)) (.cells false ((cells3 cs (j + 1 + 1)).map fun d => Cell.o d (j + 1)) (j + 1 + 1))
        rw [cells3_succ cs hlt]
        refine ShC.grown (by omega) (PuL_iff.2 fun d hd => ?_)
        rcases List.mem_append.1 hd with hd | hd
        · exact PuL_iff.1 (pu_cells3 cs _) d hd
        · simp only [cntD, List.mem_cons, List.mem_nil_iff, or_false] at hd
          rcases hd with rfl | rfl | rfl <;> exact trivial
    · repeat' first | ((with_reducible apply WB.tt); conv => whnf) | ((with_reducible apply WB.ff); conv => whnf) | (refine Rn.seq ?_; conv => whnf) | (refine Rn.reg ?_; conv => whnf) | (refine Rn.drw ?_; conv => whnf) | (refine Rn.blk ?_; conv => whnf) | (refine Rn.skip ?_; conv => whnf) | (refine Rn.ret ?_; conv => whnf) | (refine Rn.exit ?_; conv => whnf) | (refine Rn.cond rfl ?_; conv => whnf) | (refine And.intro (InR.i64 (by omega) (by omega)) ?_; conv => whnf) | (refine WIx.intsN (by omega) ?_; conv => whnf) | (refine WIx.rowsN (by omega) ?_; conv => whnf)
      have hj2 : j + 1 = cs.length := by omega
      refine ⟨.inr rfl, _, rfl, ?_⟩
      refine .ag (.cons (.pu (pu_ints _)) (.cons ?_ (.cons (.pu trivial) (.cons (.pu trivial) .nil))))
      exact Frz.whole (cs := (cells3 cs (j + 1)).map fun d => Cell.o d j) (cur := j + 1) rfl (by rw [rows_length]; omega) (cnts_three _) (by unfold cells3; rw [List.take_of_length_le (by omega)]) (pu_cnts _)
end Go.Ev

namespace Go.Ev
open Go.Proofs
set_option maxRecDepth 100000
theorem errR_nonneg (t : List Int) (bk : Bool) (many number : Int) : 0 ≤ errR t bk many number := by unfold errR; omega
theorem nR_count (t : List Int) (cs : List Cnt) : ∀ j : Nat, j ≤ cs.length → (j : Int) - nR t cs j = (cs.take j).countP (fun c => decide (0 < ec t c))
  | 0, _ => by simp [nR]
  | j + 1, h => by
    have ih := nR_count t cs j (by omega)
    have h0 : 0 ≤ ec t (cs.getD j default) := errR_nonneg _ _ _ _
    rw [countP_take_succ (d := default) (by omega), nR]
    by_cases e : ec t (cs.getD j default) = 0
    · rw [if_pos e, e]
      simp
      omega
    · rw [if_neg e, if_pos (decide_eq_true (by omega))]
      push_cast
      omega
theorem own_fits (t : List Int) (cs : List Cnt) (wr off : Int) : ownR t cs wr off = inB (wrongR cs off t) 0 wr := by
  have h := nR_count t cs cs.length (Nat.le_refl _)
  rw [List.take_length] at h
  unfold ownR wrongR inB
  rw [h]
  have e : (errs t cs).all (fun n => decide (n ≤ off)) = cs.all (fun c => decide (ec t c ≤ off)) := by
    unfold errs
    rw [List.all_map]
    rfl
  rw [e]
  cases cs.all (fun c => decide (ec t c ≤ off)) with
  | true =>
    rw [if_pos rfl, Bool.true_and]
    congr 1
    apply propext
    omega
  | false =>
    rw [if_neg (by simp), Bool.false_and]
    exact (decide_eq_false (by omega)).symm
end Go.Ev
