import Derived.Test.YtpemagogcagipaaEvMC
set_option linter.all false
namespace Go.Ev
open Go.Proofs
set_option maxRecDepth 100000
def nD (A : List Int) : List D := A.map fun n => D.i .i64 n
theorem pu_nD (L : List Int) : PuL (nD L) := puL_map_i L
def hrs (last : Int) : List Int := (List.range (last + 1).toNat).map fun n : Nat => (n : Int)
section
variable (last : Int) (hs : List Rg) (step : Int) (lv : List Int) (ms : List Mk) (tr : D) (c : Nat → Int) (row : Nat)
def wkC : C := .cells false [.o (.i .i64 last) 0, .o (.lst 2 (rows rgD hs)) 0, .o (.i .i64 step) 0, .o (.lst 1 (ints lv)) 0, .o (.lst 4 (rows mkD ms)) 0, .o tr 0] 1
def seC : C := .cells false [.o (.i .i64 (c 0)) 0, .o (.i .i64 (c 1)) 0, .o (.i .i64 (c 2)) 0, .o (.i .i64 (c 3)) 0, .o (.i .i64 (c 4)) 0, .o (.i .i64 (c 5)) 0, .o (.i .i64 (c 6)) 0, .o (.i .i64 (c 7)) 0, .o (.i .i64 (c 8)) 0, .o (.i .i64 (c 9)) 0] 1
theorem wkC_kp (hk : ∀ n, Kp n tr) (n : Nat) : KpC n (wkC last hs step lv ms tr) := by
  refine KpL.all ?_
  simp [wkC, KpL, Cell.d, hk]
  simp [Kp, Pu, pu_ints, pu_rg, pu_mk]
theorem seC_kp (n : Nat) : KpC n (seC c) := by
  refine KpL.all ?_
  simp [seC, KpL, Kp, Cell.d, Pu]
theorem wkC_sh (htr : Pu tr) {B : Pos → Prop} {ob : T C} : ShC B ob (wkC last hs step lv ms tr) (wkC last hs step lv ms tr) := ShC.same (ShC.cn (.pu trivial) (ShC.cn (.pu (pu_rg _)) (ShC.cn (.pu trivial) (ShC.cn (.pu (pu_ints _)) (ShC.cn (.pu (pu_mk _)) (ShC.cn (.pu htr) ShC.nl))))))
end
theorem ten {j : Nat} (h : j < 10) : j = 0 ∨ j = 1 ∨ j = 2 ∨ j = 3 ∨ j = 4 ∨ j = 5 ∨ j = 6 ∨ j = 7 ∨ j = 8 ∨ j = 9 := by omega
end Go.Ev

namespace Go.Ev
open Go.Proofs
set_option maxRecDepth 100000
def agreesM (c : Nat → Int) (m : Mk) : Bool := agreesR c m.fr.toNat m.to.toNat m.lo m.hi
theorem c_agreesM (c : Nat → Int) (m : Mk) (h0 : 0 ≤ m.fr) (h1 : m.fr ≤ m.to) (h2 : m.to ≤ 9) : PureF Try.prog p68.ix [.ag (seaD c), .ag (mkD m)] (.b (agreesM c m)) := by
  obtain ⟨fr, to, lo, hi⟩ := m
  obtain ⟨f, rfl⟩ := Int.eq_ofNat_of_zero_le h0
  obtain ⟨t, rfl⟩ := Int.eq_ofNat_of_zero_le (Int.le_trans h0 h1)
  have h1 : (f : Int) ≤ t := h1
  have h2 : (t : Int) ≤ 9 := h2
  exact c_agrees c f t lo hi (by omega) (by omega)
def fitsR (c : Nat → Int) (ms : List Mk) : Bool := ms.all (agreesM c)
def Vt (ms : List Mk) : Prop := ∀ m ∈ ms, 0 ≤ m.fr ∧ m.fr ≤ m.to ∧ m.to ≤ 9
theorem c_fits1 (c : Nat → Int) (ms : List Mk) (hm : Vt ms) (hl : ms.length ≤ 1000) : PureF Try.prog p101.ix [.ag (seaD c), .pl [.lst 4 (rows mkD ms)] 0] (.b (fitsR c ms)) := by
  have hA := c_allMk ms p68 [.ag (seaD c)] [] (agreesM c) (by simp [PuL, Pu, seaD]) trivial hl (fun m hmm => c_agreesM c m (hm m hmm).1 (hm m hmm).2.1 (hm m hmm).2.2)
  refine PureF.run fn100 (by simp) (by simp [PuL, PuE, Pu, pu_ints, pu_rg, pu_mk, seaD]) ?_; conv => whnf
  repeat' first | ((with_reducible apply WB.tt); conv => whnf) | ((with_reducible apply WB.ff); conv => whnf) | (refine Rn.seq ?_; conv => whnf) | (refine Rn.reg ?_; conv => whnf) | (refine Rn.drw ?_; conv => whnf) | (refine Rn.blk ?_; conv => whnf) | (refine Rn.skip ?_; conv => whnf) | (refine Rn.ret ?_; conv => whnf) | (refine Rn.exit ?_; conv => whnf) | (refine Rn.cond rfl ?_; conv => whnf) | (refine And.intro (InR.i64 (by omega) (by omega)) ?_; conv => whnf) | (refine And.intro (show _ ≠ (0 : Int) by omega) ?_; conv => whnf) | (refine WIx.intsN (by omega) ?_; conv => whnf) | (refine WIx.rowsN (by omega) ?_; conv => whnf) | (refine WCall.pure (hA) ?_; conv => whnf)
  exact Fin.b rfl rfl
def eqAt (a b : List Int) (i : Nat) : Bool := decide (a.getD i 0 = b.getD i 0)
theorem eq_of_at : ∀ {a b : List Int}, a.length = b.length → (List.range a.length).all (eqAt a b) = true → a = b := fun {a b} hl h => by
  apply List.ext_getElem hl
  intro i h1 h2
  have h3 := of_decide_eq_true (List.all_eq_true.1 h i (List.mem_range.2 h1))
  simpa [List.getD, h1, h2] using h3
theorem c_same (a b : List Int) (hl : a.length ≤ 1000) : PureF Try.prog p30.ix [.lst 1 (ints a), .lst 1 (ints b)] (.b (decide (a = b))) := by
  have e1 := ints_length a
  have e2 := ints_length b
  refine PureF.run fn29 (by simp) (by simp [PuL, PuE, Pu, pu_ints]) ?_; conv => whnf
  repeat' first | ((with_reducible apply WB.tt); conv => whnf) | ((with_reducible apply WB.ff); conv => whnf) | (refine Rn.seq ?_; conv => whnf) | (refine Rn.reg ?_; conv => whnf) | (refine Rn.drw ?_; conv => whnf) | (refine Rn.blk ?_; conv => whnf) | (refine Rn.skip ?_; conv => whnf) | (refine Rn.ret ?_; conv => whnf) | (refine Rn.exit ?_; conv => whnf) | (refine Rn.cond rfl ?_; conv => whnf) | (refine And.intro (InR.i64 (by omega) (by omega)) ?_; conv => whnf) | (refine And.intro (show _ ≠ (0 : Int) by omega) ?_; conv => whnf) | (refine WIx.intsN (by omega) ?_; conv => whnf) | (refine WIx.rowsN (by omega) ?_; conv => whnf)
  refine WB.mk (fun h => ?_) (fun h => ?_) <;> conv => whnf
  · have hq : ¬ (((ints a).length : Nat) : Int) = ((ints b).length : Nat) := by simpa using h
    repeat' first | ((with_reducible apply WB.tt); conv => whnf) | ((with_reducible apply WB.ff); conv => whnf) | (refine Rn.seq ?_; conv => whnf) | (refine Rn.reg ?_; conv => whnf) | (refine Rn.drw ?_; conv => whnf) | (refine Rn.blk ?_; conv => whnf) | (refine Rn.skip ?_; conv => whnf) | (refine Rn.ret ?_; conv => whnf) | (refine Rn.exit ?_; conv => whnf) | (refine Rn.cond rfl ?_; conv => whnf) | (refine And.intro (InR.i64 (by omega) (by omega)) ?_; conv => whnf) | (refine And.intro (show _ ≠ (0 : Int) by omega) ?_; conv => whnf) | (refine WIx.intsN (by omega) ?_; conv => whnf) | (refine WIx.rowsN (by omega) ?_; conv => whnf)
    exact Fin.b rfl (decide_eq_false (fun he => hq (by rw [he]))).symm
  have hq : (((ints a).length : Nat) : Int) = ((ints b).length : Nat) := by simpa using h
  have hlen : a.length = b.length := by omega
  repeat' first | ((with_reducible apply WB.tt); conv => whnf) | ((with_reducible apply WB.ff); conv => whnf) | (refine Rn.seq ?_; conv => whnf) | (refine Rn.reg ?_; conv => whnf) | (refine Rn.drw ?_; conv => whnf) | (refine Rn.blk ?_; conv => whnf) | (refine Rn.skip ?_; conv => whnf) | (refine Rn.ret ?_; conv => whnf) | (refine Rn.exit ?_; conv => whnf) | (refine Rn.cond rfl ?_; conv => whnf) | (refine And.intro (InR.i64 (by omega) (by omega)) ?_; conv => whnf) | (refine And.intro (show _ ≠ (0 : Int) by omega) ?_; conv => whnf) | (refine WIx.intsN (by omega) ?_; conv => whnf) | (refine WIx.rowsN (by omega) ?_; conv => whnf)
  refine Rn.loop (fun j : Nat => ⟨(.n (.n .e (some (.lst 1 (ints b))) (.n .e (some (.i .i64 (j : Int))) .e)) (some (.lst 1 (ints a))) .e), .e, .h, none⟩) (fun j => j ≤ a.length ∧ (List.range j).all (eqAt a b) = true) (fun j => a.length - j) 0 ?_ ?_ ?_
  · (first | (refine X.le.mk ?_ ?_ (Nat.le_refl _) rfl rfl) | skip) <;> (repeat' first | exact T.le_e _ | refine T.le_some ?_ ?_ ?_ | refine T.le_none ?_ ?_ | rfl)
  · exact ⟨by omega, by simp⟩
  rintro j ⟨hj, ha⟩
  conv => whnf
  repeat' first | ((with_reducible apply WB.tt); conv => whnf) | ((with_reducible apply WB.ff); conv => whnf) | (refine Rn.seq ?_; conv => whnf) | (refine Rn.reg ?_; conv => whnf) | (refine Rn.drw ?_; conv => whnf) | (refine Rn.blk ?_; conv => whnf) | (refine Rn.skip ?_; conv => whnf) | (refine Rn.ret ?_; conv => whnf) | (refine Rn.exit ?_; conv => whnf) | (refine Rn.cond rfl ?_; conv => whnf) | (refine And.intro (InR.i64 (by omega) (by omega)) ?_; conv => whnf) | (refine And.intro (show _ ≠ (0 : Int) by omega) ?_; conv => whnf) | (refine WIx.intsN (by omega) ?_; conv => whnf) | (refine WIx.rowsN (by omega) ?_; conv => whnf)
  refine WB.dec (fun h => ?_) (fun h => ?_) <;> conv => whnf
  · have hlt : j < a.length := by omega
    have hltb : j < b.length := by omega
    repeat' first | ((with_reducible apply WB.tt); conv => whnf) | ((with_reducible apply WB.ff); conv => whnf) | (refine Rn.seq ?_; conv => whnf) | (refine Rn.reg ?_; conv => whnf) | (refine Rn.drw ?_; conv => whnf) | (refine Rn.blk ?_; conv => whnf) | (refine Rn.skip ?_; conv => whnf) | (refine Rn.ret ?_; conv => whnf) | (refine Rn.exit ?_; conv => whnf) | (refine Rn.cond rfl ?_; conv => whnf) | (refine And.intro (InR.i64 (by omega) (by omega)) ?_; conv => whnf) | (refine And.intro (show _ ≠ (0 : Int) by omega) ?_; conv => whnf) | (refine WIx.intsN (by omega) ?_; conv => whnf) | (refine WIx.rowsN (by omega) ?_; conv => whnf)
    refine WB.mk (fun h => ?_) (fun h => ?_) <;> conv => whnf
    · have hn : ¬ a.getD j 0 = b.getD j 0 := by simpa using h
      repeat' first | ((with_reducible apply WB.tt); conv => whnf) | ((with_reducible apply WB.ff); conv => whnf) | (refine Rn.seq ?_; conv => whnf) | (refine Rn.reg ?_; conv => whnf) | (refine Rn.drw ?_; conv => whnf) | (refine Rn.blk ?_; conv => whnf) | (refine Rn.skip ?_; conv => whnf) | (refine Rn.ret ?_; conv => whnf) | (refine Rn.exit ?_; conv => whnf) | (refine Rn.cond rfl ?_; conv => whnf) | (refine And.intro (InR.i64 (by omega) (by omega)) ?_; conv => whnf) | (refine And.intro (show _ ≠ (0 : Int) by omega) ?_; conv => whnf) | (refine WIx.intsN (by omega) ?_; conv => whnf) | (refine WIx.rowsN (by omega) ?_; conv => whnf)
      exact Fin.b rfl (decide_eq_false (fun he => hn (by rw [he]))).symm
    · have hn : a.getD j 0 = b.getD j 0 := by simpa using h
      repeat' first | ((with_reducible apply WB.tt); conv => whnf) | ((with_reducible apply WB.ff); conv => whnf) | (refine Rn.seq ?_; conv => whnf) | (refine Rn.reg ?_; conv => whnf) | (refine Rn.drw ?_; conv => whnf) | (refine Rn.blk ?_; conv => whnf) | (refine Rn.skip ?_; conv => whnf) | (refine Rn.ret ?_; conv => whnf) | (refine Rn.exit ?_; conv => whnf) | (refine Rn.cond rfl ?_; conv => whnf) | (refine And.intro (InR.i64 (by omega) (by omega)) ?_; conv => whnf) | (refine And.intro (show _ ≠ (0 : Int) by omega) ?_; conv => whnf) | (refine WIx.intsN (by omega) ?_; conv => whnf) | (refine WIx.rowsN (by omega) ?_; conv => whnf)
      refine Again.to (j + 1) (by omega) ⟨by omega, range_succ_all ha (decide_eq_true hn)⟩ (Nat.le_refl _) ?_
      (refine Shr.of ?_ ?_ rfl rfl) <;> (repeat' first | exact Rel.e | refine Rel.some ?_ ?_ ?_ | refine Rel.none ?_ ?_) <;> (try first | (show Fz _ _ _ _; first | exact Fz.pu trivial | (refine Fz.i ?_; first | rfl | omega) | (refine Fz.kpt ?_; (focus (show Pos.nat _ < Pos.nat _; simp [Pos.nat]; done))) | (refine Fz.ksl ?_; (focus (show Pos.nat _ < Pos.nat _; simp [Pos.nat]; done))) | (refine Fz.kmp ?_; (focus (show Pos.nat _ < Pos.nat _; simp [Pos.nat]; done))) | (refine Fz.pu ?_; simp [Cell.d, Pu, PuL, PuE, pu_ints, pu_rg, pu_mk]; done) | (refine Fz.pu ?_; simp only [Cell.d]; assumption)) | (refine RO'.of ?_ (ShC.same ?_); (focus (show Pos.nat _ < Pos.nat _; simp [Pos.nat]; done)); (repeat' first | exact ShC.nl | refine ShC.cn ?_ ?_) <;> first | exact Fz.pu trivial | (refine Fz.i ?_; first | rfl | omega) | (refine Fz.kpt ?_; (focus (show Pos.nat _ < Pos.nat _; simp [Pos.nat]; done))) | (refine Fz.ksl ?_; (focus (show Pos.nat _ < Pos.nat _; simp [Pos.nat]; done))) | (refine Fz.kmp ?_; (focus (show Pos.nat _ < Pos.nat _; simp [Pos.nat]; done))) | (refine Fz.pu ?_; simp [Cell.d, Pu, PuL, PuE, pu_ints, pu_rg, pu_mk]; done) | (refine Fz.pu ?_; simp only [Cell.d]; assumption)))
      all_goals first | (refine Fz.i ?_; omega) | (refine Fz.pu ?_; simp [Pu, pu_ints])
  · repeat' first | ((with_reducible apply WB.tt); conv => whnf) | ((with_reducible apply WB.ff); conv => whnf) | (refine Rn.seq ?_; conv => whnf) | (refine Rn.reg ?_; conv => whnf) | (refine Rn.drw ?_; conv => whnf) | (refine Rn.blk ?_; conv => whnf) | (refine Rn.skip ?_; conv => whnf) | (refine Rn.ret ?_; conv => whnf) | (refine Rn.exit ?_; conv => whnf) | (refine Rn.cond rfl ?_; conv => whnf) | (refine And.intro (InR.i64 (by omega) (by omega)) ?_; conv => whnf) | (refine And.intro (show _ ≠ (0 : Int) by omega) ?_; conv => whnf) | (refine WIx.intsN (by omega) ?_; conv => whnf) | (refine WIx.rowsN (by omega) ?_; conv => whnf)
    exact Fin.b rfl (decide_eq_true (eq_of_at hlen (by rw [show a.length = j by omega]; exact ha))).symm
end Go.Ev

namespace Go.Ev
open Go.Proofs
set_option maxRecDepth 100000
theorem c_list (l : List Int) (hl : l.length ≤ 65536) : PureF Try.prog p24.ix [.lst 1 (ints l)] (.lst 1 (ints l)) := by
  have e1 := ints_length l
  refine PureF.run fn23 (by simp) (by simp [PuL, PuE, Pu, pu_ints]) ?_; conv => whnf
  repeat' first | ((with_reducible apply WB.tt); conv => whnf) | ((with_reducible apply WB.ff); conv => whnf) | (refine Rn.seq ?_; conv => whnf) | (refine Rn.reg ?_; conv => whnf) | (refine Rn.drw ?_; conv => whnf) | (refine Rn.blk ?_; conv => whnf) | (refine Rn.skip ?_; conv => whnf) | (refine Rn.ret ?_; conv => whnf) | (refine Rn.exit ?_; conv => whnf) | (refine Rn.cond rfl ?_; conv => whnf) | (refine And.intro (InR.i64 (by omega) (by omega)) ?_; conv => whnf) | (refine And.intro (show _ ≠ (0 : Int) by omega) ?_; conv => whnf) | (refine WIx.intsN (by omega) ?_; conv => whnf) | (refine WIx.rowsN (by omega) ?_; conv => whnf)
  refine WSt.app_emp rfl rfl rfl (ints_one l) (by omega) (fun st => ?_); conv => whnf
  repeat' first | ((with_reducible apply WB.tt); conv => whnf) | ((with_reducible apply WB.ff); conv => whnf) | (refine Rn.seq ?_; conv => whnf) | (refine Rn.reg ?_; conv => whnf) | (refine Rn.drw ?_; conv => whnf) | (refine Rn.blk ?_; conv => whnf) | (refine Rn.skip ?_; conv => whnf) | (refine Rn.ret ?_; conv => whnf) | (refine Rn.exit ?_; conv => whnf) | (refine Rn.cond rfl ?_; conv => whnf) | (refine And.intro (InR.i64 (by omega) (by omega)) ?_; conv => whnf) | (refine And.intro (show _ ≠ (0 : Int) by omega) ?_; conv => whnf) | (refine WIx.intsN (by omega) ?_; conv => whnf) | (refine WIx.rowsN (by omega) ?_; conv => whnf)
  exact Fin.t (.inr rfl) rfl (Frz.whole (cur := st + 1) rfl rfl (ints_one l) rfl (pu_ints l))
end Go.Ev
