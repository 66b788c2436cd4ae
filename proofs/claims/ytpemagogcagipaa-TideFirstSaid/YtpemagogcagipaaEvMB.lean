import Derived.Test.YtpemagogcagipaaEvMA
set_option linter.all false
namespace Go.Ev
open Go.Proofs
set_option maxRecDepth 100000
def th3 : Pos := .i .h
def sl3 : List (List Int) → D
  | [] => .ns
  | _ :: s => .sl th3 0 (s.length + 1) s.length 1
def nx3 : List (List Int) → Pos
  | [] => .o .h
  | _ :: _ => .o (.o .h)
def allN (hs : List Rg) : List (List Int) := (List.range (manyR hs).toNat).map fun n : Nat => nthR hs (n : Int)
def listsR (hs : List Rg) (step : Int) : List (List Int) := (allN hs).filter (nearB step)
theorem allN_length (hs : List Rg) : (allN hs).length = (manyR hs).toNat := by simp [allN]
theorem allN_at {hs : List Rg} {j : Nat} (h : j < (manyR hs).toNat) : (allN hs).getD j [] = nthR hs (j : Int) := by
  simp [allN, List.getD, h]
theorem nthR_hts : ∀ (hs : List Rg) (n : Int), Vr hs → 0 ≤ n → Hts (nthR hs n)
  | [], n, _, _ => fun x h => by simp [nthR] at h
  | r :: hs, n, hv, h0 => fun x h => by
    have hz := hv.sz (r := r) (by simp)
    have hr := hv r (by simp)
    have m1 := Int.tmod_nonneg (szR r) h0
    have m2 := Int.tmod_lt_of_pos n (show 0 < szR r by omega)
    rcases List.mem_cons.1 h with h | h
    · subst h; unfold szR at *; omega
    · exact nthR_hts hs _ (fun y hy => hv y (by simp [hy])) (quo_le h0 (Int.le_refl _) (show 0 < szR r by omega)).1 x h
section
variable (last : Int) (hs : List Rg) (step : Int) (lv : List Int) (ms : List Mk)
def tabC : C := .cells false [.o (.i .i64 last) 0, .o (.lst 2 (rows rgD hs)) 0, .o (.i .i64 step) 0, .o (.lst 1 (ints lv)) 0, .o (.lst 4 (rows mkD ms)) 0] 1
theorem tabC_kp (n : Nat) : KpC n (tabC last hs step lv ms) := by
  refine KpL.all ?_
  simp [tabC, KpL, Kp, Cell.d, Pu, pu_ints, pu_rg, pu_mk]
theorem tabC_sh {B : Pos → Prop} {ob : T C} : ShC B ob (tabC last hs step lv ms) (tabC last hs step lv ms) := ShC.same (ShC.cn (.pu trivial) (ShC.cn (.pu (pu_rg _)) (ShC.cn (.pu trivial) (ShC.cn (.pu (pu_ints _)) (ShC.cn (.pu (pu_mk _)) ShC.nl)))))
end
end Go.Ev

namespace Go.Ev
open Go.Proofs
set_option maxRecDepth 100000
def topR (l : List Int) (fr to : Int) : Int := ((l.drop fr.toNat).take (to + 1 - fr).toNat).foldl max (l.getD fr.toNat 0)
def topN (l : List Int) (f j : Nat) : Int := ((l.drop f).take j).foldl max (l.getD f 0)
theorem topN_succ {l : List Int} {f j : Nat} (h : f + j < l.length) : topN l f (j + 1) = max (topN l f j) (l.getD (f + j) 0) := by
  unfold topN
  rw [foldl_take_succ _ _ (by rw [List.length_drop]; omega)]
  congr 1
  simp [List.getD, List.getElem?_drop]
theorem c_Top (l : List Int) (f : Nat) (to : Int) (hf : f < l.length) (h1 : to < l.length) (hl : l.length ≤ 1000) : PureF Try.prog p83.ix [.lst 1 (ints l), .i .i64 (f : Int), .i .i64 to] (.i .i64 (topR l (f : Int) to)) := by
  have e1 := ints_length l
  refine PureF.run fn82 (by simp) (by simp [PuL, PuE, Pu, pu_ints, pu_rg, pu_mk]) ?_; conv => whnf
  repeat' first | ((with_reducible apply WB.tt); conv => whnf) | ((with_reducible apply WB.ff); conv => whnf) | (refine Rn.seq ?_; conv => whnf) | (refine Rn.reg ?_; conv => whnf) | (refine Rn.drw ?_; conv => whnf) | (refine Rn.blk ?_; conv => whnf) | (refine Rn.skip ?_; conv => whnf) | (refine Rn.ret ?_; conv => whnf) | (refine Rn.exit ?_; conv => whnf) | (refine Rn.cond rfl ?_; conv => whnf) | (refine And.intro (InR.i64 (by omega) (by omega)) ?_; conv => whnf) | (refine And.intro (show _ ≠ (0 : Int) by omega) ?_; conv => whnf) | (refine WIx.intsN (by omega) ?_; conv => whnf) | (refine WIx.rowsN (by omega) ?_; conv => whnf)
  refine Rn.loop (fun j : Nat => ⟨(.n (.n (.n (.n .e (some (.i .i64 (topN l f j))) .e) none .e) none .e) (some (.lst 1 (ints l))) (.n (.n (.n .e (some (.i .i64 ((f + j : Nat) : Int))) .e) none .e) (some (.i .i64 to)) .e)), .e, .h, none⟩) (fun j => j = 0 ∨ (f + j : Int) ≤ to + 1) (fun j => (to + 1 - f - j).toNat) 0 ?_ ?_ ?_
  · (first | (refine X.le.mk ?_ ?_ (Nat.le_refl _) rfl rfl) | skip) <;> (repeat' first | exact T.le_e _ | refine T.le_some ?_ ?_ ?_ | refine T.le_none ?_ ?_ | rfl)
  · exact .inl rfl
  rintro j hj
  conv => whnf
  repeat' first | ((with_reducible apply WB.tt); conv => whnf) | ((with_reducible apply WB.ff); conv => whnf) | (refine Rn.seq ?_; conv => whnf) | (refine Rn.reg ?_; conv => whnf) | (refine Rn.drw ?_; conv => whnf) | (refine Rn.blk ?_; conv => whnf) | (refine Rn.skip ?_; conv => whnf) | (refine Rn.ret ?_; conv => whnf) | (refine Rn.exit ?_; conv => whnf) | (refine Rn.cond rfl ?_; conv => whnf) | (refine And.intro (InR.i64 (by omega) (by omega)) ?_; conv => whnf) | (refine And.intro (show _ ≠ (0 : Int) by omega) ?_; conv => whnf) | (refine WIx.intsN (by omega) ?_; conv => whnf) | (refine WIx.rowsN (by omega) ?_; conv => whnf)
  refine WB.dec (fun h => ?_) (fun h => ?_) <;> conv => whnf
  · have hlt : f + j < l.length := by omega
    have hs := topN_succ hlt
    repeat' first | ((with_reducible apply WB.tt); conv => whnf) | ((with_reducible apply WB.ff); conv => whnf) | (refine Rn.seq ?_; conv => whnf) | (refine Rn.reg ?_; conv => whnf) | (refine Rn.drw ?_; conv => whnf) | (refine Rn.blk ?_; conv => whnf) | (refine Rn.skip ?_; conv => whnf) | (refine Rn.ret ?_; conv => whnf) | (refine Rn.exit ?_; conv => whnf) | (refine Rn.cond rfl ?_; conv => whnf) | (refine And.intro (InR.i64 (by omega) (by omega)) ?_; conv => whnf) | (refine And.intro (show _ ≠ (0 : Int) by omega) ?_; conv => whnf) | (refine WIx.intsN (by omega) ?_; conv => whnf) | (refine WIx.rowsN (by omega) ?_; conv => whnf)
    refine Again.to (j + 1) (by omega) (.inr (by omega)) (Nat.le_refl _) ?_
    (refine Shr.of ?_ ?_ rfl rfl) <;> (repeat' first | exact Rel.e | refine Rel.some ?_ ?_ ?_ | refine Rel.none ?_ ?_) <;> (try first | (show Fz _ _ _ _; first | exact Fz.pu trivial | (refine Fz.i ?_; first | rfl | omega) | (refine Fz.kpt ?_; (focus (show Pos.nat _ < Pos.nat _; simp [Pos.nat]; done))) | (refine Fz.ksl ?_; (focus (show Pos.nat _ < Pos.nat _; simp [Pos.nat]; done))) | (refine Fz.kmp ?_; (focus (show Pos.nat _ < Pos.nat _; simp [Pos.nat]; done))) | (refine Fz.pu ?_; simp [Cell.d, Pu, PuL, PuE, pu_ints, pu_rg, pu_mk]; done) | (refine Fz.pu ?_; simp only [Cell.d]; assumption)) | (refine RO'.of ?_ (ShC.same ?_); (focus (show Pos.nat _ < Pos.nat _; simp [Pos.nat]; done)); (repeat' first | exact ShC.nl | refine ShC.cn ?_ ?_) <;> first | exact Fz.pu trivial | (refine Fz.i ?_; first | rfl | omega) | (refine Fz.kpt ?_; (focus (show Pos.nat _ < Pos.nat _; simp [Pos.nat]; done))) | (refine Fz.ksl ?_; (focus (show Pos.nat _ < Pos.nat _; simp [Pos.nat]; done))) | (refine Fz.kmp ?_; (focus (show Pos.nat _ < Pos.nat _; simp [Pos.nat]; done))) | (refine Fz.pu ?_; simp [Cell.d, Pu, PuL, PuE, pu_ints, pu_rg, pu_mk]; done) | (refine Fz.pu ?_; simp only [Cell.d]; assumption)))
    all_goals first | (rw [hs]; exact Fz.i rfl) | (refine Fz.i ?_; omega) | (refine Fz.pu ?_; simp [Pu, pu_ints, pu_rg, pu_mk])
  · repeat' first | ((with_reducible apply WB.tt); conv => whnf) | ((with_reducible apply WB.ff); conv => whnf) | (refine Rn.seq ?_; conv => whnf) | (refine Rn.reg ?_; conv => whnf) | (refine Rn.drw ?_; conv => whnf) | (refine Rn.blk ?_; conv => whnf) | (refine Rn.skip ?_; conv => whnf) | (refine Rn.ret ?_; conv => whnf) | (refine Rn.exit ?_; conv => whnf) | (refine Rn.cond rfl ?_; conv => whnf) | (refine And.intro (InR.i64 (by omega) (by omega)) ?_; conv => whnf) | (refine And.intro (show _ ≠ (0 : Int) by omega) ?_; conv => whnf) | (refine WIx.intsN (by omega) ?_; conv => whnf) | (refine WIx.rowsN (by omega) ?_; conv => whnf)
    refine Fin.i rfl ?_
    unfold topR
    rw [Int.toNat_natCast]
    rcases hj with rfl | hj
    · rw [show (to + 1 - (f : Int)).toNat = 0 by omega]; rfl
    · rw [show (to + 1 - (f : Int)).toNat = j by omega]; rfl
def rightR (t : List Int) (m : Mk) : Bool := inB (topR t m.fr m.to) m.lo m.hi
def inAt (hs : List Rg) (t : List Int) (i : Nat) : Bool := inB (t.getD i 0) (hs.getD i default).lo (hs.getD i default).hi
def listedR (hs : List Rg) (step : Int) (t : List Int) : Bool := (List.range (min t.length hs.length)).all (inAt hs t) && (decide (t.length = hs.length) && nearB step t)
def truthR (hs : List Rg) (step : Int) (ms : List Mk) (t : List Int) : Bool := listedR hs step t && ms.all (rightR t)
end Go.Ev

namespace Go.Ev
open Go.Proofs
set_option maxRecDepth 100000
def truthsR (hs : List Rg) (step : Int) (ms : List Mk) : List (List Int) := (listsR hs step).filter (truthR hs step ms)
section
variable (last : Int) (hs : List Rg) (step : Int) (lv : List Int) (ms : List Mk)
end
end Go.Ev
