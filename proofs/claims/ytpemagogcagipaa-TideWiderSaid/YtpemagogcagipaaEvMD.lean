import Derived.Test.YtpemagogcagipaaEvMC
set_option linter.all false
namespace Go.Ev
open Go.Proofs
set_option maxRecDepth 100000
def nD (A : List Int) : List D := A.map fun n => D.i .i64 n
theorem pu_nD (L : List Int) : PuL (nD L) := puL_map_i L
def hrs (last : Int) : List Int := (List.range (last + 1).toNat).map fun n : Nat => (n : Int)
section
variable (last : Int) (hs : List Rg) (step : Int) (lv : List Int) (ms : List Mk) (tr : D) (c : Nat → Int) (row : Nat)
def wkC : C := .cells false [.o (.i .i64 last) 0, .o (.lst 2 (rows rgD hs)) 0, .o (.i .i64 step) 0, .o (.lst 1 (ints lv)) 0, .o (.lst 4 (rows mkD ms)) 0, .o tr 0] 1
def seC : C := .cells false [.o (.i .i64 (c 0)) 0, .o (.i .i64 (c 1)) 0, .o (.i .i64 (c 2)) 0, .o (.i .i64 (c 3)) 0, .o (.i .i64 (c 4)) 0, .o (.i .i64 (c 5)) 0, .o (.i .i64 (c 6)) 0, .o (.i .i64 (c 7)) 0, .o (.i .i64 (c 8)) 0, .o (.i .i64 (c 9)) 0] 1
theorem wkC_kp (hk : ∀ n, Kp n tr) (n : Nat) : KpC n (wkC last hs step lv ms tr) := by
  refine KpL.all ?_
  simp [wkC, KpL, Cell.d, hk]
  simp [Kp, Pu, pu_ints, pu_rg, pu_mk]
theorem seC_kp (n : Nat) : KpC n (seC c) := by
  refine KpL.all ?_
  simp [seC, KpL, Kp, Cell.d, Pu]
theorem wkC_sh (htr : Pu tr) {B : Pos → Prop} {ob : T C} : ShC B ob (wkC last hs step lv ms tr) (wkC last hs step lv ms tr) := ShC.same (ShC.cn (.pu trivial) (ShC.cn (.pu (pu_rg _)) (ShC.cn (.pu trivial) (ShC.cn (.pu (pu_ints _)) (ShC.cn (.pu (pu_mk _)) (ShC.cn (.pu htr) ShC.nl))))))
end
theorem ten {j : Nat} (h : j < 10) : j = 0 ∨ j = 1 ∨ j = 2 ∨ j = 3 ∨ j = 4 ∨ j = 5 ∨ j = 6 ∨ j = 7 ∨ j = 8 ∨ j = 9 := by omega
end Go.Ev

namespace Go.Ev
open Go.Proofs
set_option maxRecDepth 100000
def agreesM (c : Nat → Int) (m : Mk) : Bool := agreesR c m.fr.toNat m.to.toNat m.lo m.hi
theorem c_agreesM (c : Nat → Int) (m : Mk) (h0 : 0 ≤ m.fr) (h1 : m.fr ≤ m.to) (h2 : m.to ≤ 9) : PureF Try.prog p68.ix [.ag (seaD c), .ag (mkD m)] (.b (agreesM c m)) := by
  obtain ⟨fr, to, lo, hi⟩ := m
  obtain ⟨f, rfl⟩ := Int.eq_ofNat_of_zero_le h0
  obtain ⟨t, rfl⟩ := Int.eq_ofNat_of_zero_le (Int.le_trans h0 h1)
  have h1 : (f : Int) ≤ t := h1
  have h2 : (t : Int) ≤ 9 := h2
  exact c_agrees c f t lo hi (by omega) (by omega)
def fitsR (c : Nat → Int) (ms : List Mk) : Bool := ms.all (agreesM c)
def Vt (ms : List Mk) : Prop := ∀ m ∈ ms, 0 ≤ m.fr ∧ m.fr ≤ m.to ∧ m.to ≤ 9
theorem c_fits1 (c : Nat → Int) (ms : List Mk) (hm : Vt ms) (hl : ms.length ≤ 1000) : PureF Try.prog p101.ix [.ag (seaD c), .pl [.lst 4 (rows mkD ms)] 0] (.b (fitsR c ms)) := by
  have hA := c_allMk ms p68 [.ag (seaD c)] [] (agreesM c) (by simp [PuL, Pu, seaD]) trivial hl (fun m hmm => c_agreesM c m (hm m hmm).1 (hm m hmm).2.1 (hm m hmm).2.2)
  refine PureF.run fn100 (by simp) (by simp [PuL, PuE, Pu, pu_ints, pu_rg, pu_mk, seaD]) ?_; conv => whnf
  repeat' first | ((first | (with_reducible first | apply WB.tt | apply WB.ff) | apply Rn.seq | apply Rn.reg | apply Rn.drw | apply Rn.blk | apply Rn.skip | apply Rn.ret | apply Rn.exit | apply Rn.cond rfl | refine i64_ (by omega) (by omega) ?_ | refine ne0_ (by omega) ?_ | refine WIx.intsN (by omega) ?_ | refine WIx.rowsN (by omega) ?_ | refine WCall.pure (hA) ?_) <;> conv => whnf)
  exact Fin.b rfl rfl
end Go.Ev

namespace Go.Ev
open Go.Proofs
set_option maxRecDepth 100000
theorem c_list (l : List Int) (hl : l.length ≤ 65536) : PureF Try.prog p24.ix [.lst 1 (ints l)] (.lst 1 (ints l)) := by
  have e1 := ints_length l
  refine PureF.run fn23 (by simp) (by simp [PuL, PuE, Pu, pu_ints]) ?_; conv => whnf
  repeat' first | ((first | (with_reducible first | apply WB.tt | apply WB.ff) | apply Rn.seq | apply Rn.reg | apply Rn.drw | apply Rn.blk | apply Rn.skip | apply Rn.ret | apply Rn.exit | apply Rn.cond rfl | refine i64_ (by omega) (by omega) ?_ | refine ne0_ (by omega) ?_ | refine WIx.intsN (by omega) ?_ | refine WIx.rowsN (by omega) ?_) <;> conv => whnf)
  refine WSt.app_emp rfl rfl rfl (ints_one l) (by omega) (fun st => ?_); conv => whnf
  repeat' first | ((first | (with_reducible first | apply WB.tt | apply WB.ff) | apply Rn.seq | apply Rn.reg | apply Rn.drw | apply Rn.blk | apply Rn.skip | apply Rn.ret | apply Rn.exit | apply Rn.cond rfl | refine i64_ (by omega) (by omega) ?_ | refine ne0_ (by omega) ?_ | refine WIx.intsN (by omega) ?_ | refine WIx.rowsN (by omega) ?_) <;> conv => whnf)
  exact Fin.t (.inr rfl) rfl (Frz.whole (cur := st + 1) rfl rfl (ints_one l) rfl (pu_ints l))
theorem c_height (last : Int) (hs : List Rg) (step : Int) (lv : List Int) (ms : List Mk) (tr : D) (htr : Pu tr) (c : Nat → Int) (h : Nat) (hh : h < 10) : PureF Try.prog p76.ix [.ag [.i .i64 last, .lst 2 (rows rgD hs), .i .i64 step, .lst 1 (ints lv), .lst 4 (rows mkD ms), tr], .ag (seaD c), .i .i64 (h : Int)] (.i .i64 (c h)) := by
  refine PureF.run fn75 (by simp) (by simp [PuL, PuE, Pu, pu_ints, pu_rg, pu_mk, htr, seaD]) ?_; conv => whnf
  rcases ten hh with rfl | rfl | rfl | rfl | rfl | rfl | rfl | rfl | rfl | rfl
  all_goals
    repeat' first | ((first | (with_reducible first | apply WB.tt | apply WB.ff) | apply Rn.seq | apply Rn.reg | apply Rn.drw | apply Rn.blk | apply Rn.skip | apply Rn.ret | apply Rn.exit | apply Rn.cond rfl | refine i64_ (by omega) (by omega) ?_ | refine ne0_ (by omega) ?_ | refine WIx.intsN (by omega) ?_ | refine WIx.rowsN (by omega) ?_) <;> conv => whnf)
    refine WSt.ixaN rfl rfl rfl (by omega) ?_; conv => whnf
    repeat' first | ((first | (with_reducible first | apply WB.tt | apply WB.ff) | apply Rn.seq | apply Rn.reg | apply Rn.drw | apply Rn.blk | apply Rn.skip | apply Rn.ret | apply Rn.exit | apply Rn.cond rfl | refine i64_ (by omega) (by omega) ?_ | refine ne0_ (by omega) ?_ | refine WIx.intsN (by omega) ?_ | refine WIx.rowsN (by omega) ?_) <;> conv => whnf)
    exact Fin.i rfl rfl
end Go.Ev
