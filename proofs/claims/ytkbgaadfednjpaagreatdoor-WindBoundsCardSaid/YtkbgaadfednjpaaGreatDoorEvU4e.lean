import Derived.Test.YtkbgaadfednjpaaGreatDoorEvU4c
set_option linter.all false
set_option maxHeartbeats 8000000
noncomputable section
namespace Go.Ev
open Go.Proofs
set_option maxRecDepth 100000
def bN (b : Bh) : C := .cells false ((dS b).map fun d => Cell.o d 0) 1
theorem aE {B : Pos → Prop} {ob : T C} (b : Bh) : ShC B ob (bN b) (bN b) := by
  refine ShC.same ?_
  have h := aQ b
  unfold dS aR at h
  simp only [dS, List.map_cons, List.map_nil]
  (repeat' first | exact ShC.nl | refine ShC.cn ?_ ?_) <;> first | exact .pu trivial | exact .pu (aB _) | exact .pu (aF _) | exact .pu (aG _)
structure VW (b : Bh) : Prop where
  last : 0 ≤ b.last ∧ b.last ≤ 4
  rws : 1 ≤ b.rws ∧ b.rws ≤ 3
  pls : 1 ≤ b.pls ∧ b.pls ≤ 5
  rch : 0 ≤ b.rch ∧ b.rch ≤ 4
  facl : (b.face.length : Int) = b.rws
  face : b.face.all hJ = true
  sunl : (b.sun.length : Int) = b.last + 1
  sun : b.sun.all vW = true
  winl : (b.winds.length : Int) = b.last + 1
  wins : b.winds.all mF = true
  brk : b.brk.all (eG b) = true
  nts : b.nts.all (hU b) = true
theorem VW.iff {b : Bh} : iA b = true ↔ VW b := by
  unfold iA pD
  simp only [Bool.and_eq_true, decide_eq_true_iff]
  constructor
  · rintro ⟨a1, a2, a3, a4, ⟨a5, a6⟩, a7, a8, a9, a10, a11, a12⟩
    exact ⟨bA a1, bA a2, bA a3, bA a4, a5, a6, a7, a8, a9, a10, a11, a12⟩
  · rintro ⟨a1, a2, a3, a4, a5, a6, a7, a8, a9, a10, a11, a12⟩
    exact ⟨decide_eq_true a1, decide_eq_true a2, decide_eq_true a3, decide_eq_true a4, ⟨a5, a6⟩, a7, a8, a9, a10, a11, a12⟩
theorem Dv {b : Bh} (h : VW b → False) : iA b = false := by
  cases hv : iA b with
  | false => rfl
  | true => exact (h (VW.iff.1 hv)).elim
theorem iP {w : List Int} : mF w = true ↔ zX w = true ∧ 0 < w.length ∧ w.all hJ = true := by
  unfold mF; simp only [Bool.and_eq_true, decide_eq_true_iff]
theorem vP {α : Type} {l : List α} {x : α} {d : α} (h : x ∈ l) : ∃ i, i < l.length ∧ l.getD i d = x := by
  obtain ⟨i, hi, e⟩ := List.mem_iff_getElem.1 h
  exact ⟨i, hi, by simp [List.getD, hi, e]⟩
theorem gB {α : Type} {l : List α} {p : α → Bool} (h : l.all p = true) {j : Nat} {d : α} (hj : j < l.length) : p (l.getD j d) = true := List.all_eq_true.1 h _ (aN hj)
def MG (_ : Bh) (j : Nat) : T D := (.n (.n (.n .e (some (.i .i64 (j : Int))) .e) (some (.pt .h 0 0)) .e) none .e)
def MM (_ : Bh) (j i : Nat) : T D := (.n (.n (.n .e (some (.i .i64 (j : Int))) .e) (some (.pt .h 0 0)) .e) none (.n (.n .e (some (.i .i64 ((i : Int) + 1))) .e) none .e))
def MJ (_ : Bh) (j : Nat) : T D := (.n (.n .e (some (.pt .h 0 0)) (.n .e (some (.i .i64 (j : Int))) .e)) none .e)
def ML (_ : Bh) (j : Nat) : T D := (.n (.n .e (some (.pt .h 0 0)) .e) none (.n .e none (.n .e (some (.i .i64 (j : Int))) .e)))
set_option maxHeartbeats 4000000 in
theorem Ck (b : Bh) (l1 : b.face.length ≤ 1000) (l2 : b.sun.length ≤ 1000) (l3 : b.winds.length ≤ 1000) (l6 : ∀ w ∈ b.winds, w.length ≤ 1000) : PureF Tryz.prog p78.ix [.ag (dS b)] (.i .i64 (aV b)) := by
  have e1 := aI bB b.brk
  have e2 := aI bB b.nts
  have e3 := aO b.face
  have e4 := aO b.sun
  have e5 := aI bZ b.winds
  refine PureF.run Nh (by simp) (by simp [aR, Pu, aQ]) ?_; conv => whnf
  by_cases hB : 4 < b.last ∨ 3 < b.rws ∨ 5 < b.pls ∨ 4 < b.brk.length ∨ 5 < b.nts.length
  · have hf : aV b = 3 := by unfold aV; rw [if_pos (jE.2 hB)]
    rw [hf]
    repeat' first | ((first | refine Qz ?_ | with_reducible refine WB.dec (fun h => ?_) (fun h => ?_) | with_reducible refine WB.ndec (fun h => ?_) (fun h => ?_) | refine WB.mk (fun h => ?_) (fun h => ?_)) <;> conv => whnf)
    all_goals first | exact Fin.i rfl rfl | (exfalso; omega)
  have f1 : iA b = false → aV b = 1 := fun h => by unfold aV; rw [if_neg fun h => hB (jE.1 h), if_neg (by rw [h]; decide)]
  have f0 : VW b → aV b = 0 := fun h => by unfold aV; rw [if_neg fun h => hB (jE.1 h), if_pos (VW.iff.2 h)]
  have c4 := Dr b.rch 0 4
  have c5 := gR b.face 0 l1
  have c6 := gR b.sun (-1) l2
  by_cases k0 : b.last < 0
  · have hv := f1 (Dv fun q => by have := q.last; have := q.rws; have := q.pls; omega)
    rw [hv]
    repeat' first | ((first | refine Qz ?_ | with_reducible (first | refine Qm ?_ | refine Qn ?_ | refine Qo ?_ | refine Qp ?_ | refine WB.nt ?_ | refine WB.nf ?_ | refine WB.dec (fun h => ?_) (fun h => ?_) | refine WB.ndec (fun h => ?_) (fun h => ?_)) | refine WB.mk (fun h => ?_) (fun h => ?_)) <;> conv => whnf) | (refine WB.tt ?_; conv => whnf) | (refine WB.ff ?_; conv => whnf)
    exact Fin.i rfl rfl
  by_cases k1 : b.rws < 1
  · have hv := f1 (Dv fun q => by have := q.last; have := q.rws; have := q.pls; omega)
    rw [hv]
    repeat' first | ((first | refine Qz ?_ | with_reducible (first | refine Qm ?_ | refine Qn ?_ | refine Qo ?_ | refine Qp ?_ | refine WB.nt ?_ | refine WB.nf ?_ | refine WB.dec (fun h => ?_) (fun h => ?_) | refine WB.ndec (fun h => ?_) (fun h => ?_)) | refine WB.mk (fun h => ?_) (fun h => ?_)) <;> conv => whnf) | (refine WB.tt ?_; conv => whnf) | (refine WB.ff ?_; conv => whnf)
    exact Fin.i rfl rfl
  by_cases k2 : b.pls < 1
  · have hv := f1 (Dv fun q => by have := q.last; have := q.rws; have := q.pls; omega)
    rw [hv]
    repeat' first | ((first | refine Qz ?_ | with_reducible (first | refine Qm ?_ | refine Qn ?_ | refine Qo ?_ | refine Qp ?_ | refine WB.nt ?_ | refine WB.nf ?_ | refine WB.dec (fun h => ?_) (fun h => ?_) | refine WB.ndec (fun h => ?_) (fun h => ?_)) | refine WB.mk (fun h => ?_) (fun h => ?_)) <;> conv => whnf) | (refine WB.tt ?_; conv => whnf) | (refine WB.ff ?_; conv => whnf)
    exact Fin.i rfl rfl
  cases k3 : kB b.rch 0 4 with
  | false =>
    have hv := f1 (Dv fun q => by have := q.rch; unfold kB at k3; have := of_decide_eq_false k3; omega)
    rw [hv]; rw [k3] at c4
    repeat' first | ((first | refine Qz ?_ | refine Qf (c4) ?_ | with_reducible (first | refine Qm ?_ | refine Qn ?_ | refine Qo ?_ | refine Qp ?_ | refine WB.nt ?_ | refine WB.nf ?_ | refine WB.dec (fun h => ?_) (fun h => ?_) | refine WB.ndec (fun h => ?_) (fun h => ?_)) | refine WB.mk (fun h => ?_) (fun h => ?_)) <;> conv => whnf) | (refine WB.tt ?_; conv => whnf) | (refine WB.ff ?_; conv => whnf)
    exact Fin.i rfl rfl
  | true =>
  rw [k3] at c4
  by_cases k4 : (b.face.length : Int) = b.rws
  rotate_left
  · have hv := f1 (Dv fun q => k4 q.facl)
    rw [hv]
    have k' : ¬ ((ints b.face).length : Int) = b.rws := by omega
    repeat' first | ((first | refine Qz ?_ | refine Qf (c4) ?_ | with_reducible (first | refine Qm ?_ | refine Qn ?_ | refine Qo ?_ | refine Qp ?_ | refine WB.nt ?_ | refine WB.nf ?_ | refine WB.dec (fun h => ?_) (fun h => ?_) | refine WB.ndec (fun h => ?_) (fun h => ?_)) | refine WB.mk (fun h => ?_) (fun h => ?_)) <;> conv => whnf) | (refine WB.tt ?_; conv => whnf) | (refine WB.ff ?_; conv => whnf)
    exact Fin.i rfl rfl
  by_cases k5 : (b.sun.length : Int) = b.last + 1
  rotate_left
  · have hv := f1 (Dv fun q => k5 q.sunl)
    rw [hv]
    have k' : ¬ ((ints b.sun).length : Int) = b.last + 1 := by omega
    repeat' first | ((first | refine Qz ?_ | refine Qf (c4) ?_ | with_reducible (first | refine Qm ?_ | refine Qn ?_ | refine Qo ?_ | refine Qp ?_ | refine WB.nt ?_ | refine WB.nf ?_ | refine WB.dec (fun h => ?_) (fun h => ?_) | refine WB.ndec (fun h => ?_) (fun h => ?_)) | refine WB.mk (fun h => ?_) (fun h => ?_)) <;> conv => whnf) | (refine WB.tt ?_; conv => whnf) | (refine WB.ff ?_; conv => whnf)
    exact Fin.i rfl rfl
  by_cases k6 : (b.winds.length : Int) = b.last + 1
  rotate_left
  · have hv := f1 (Dv fun q => k6 q.winl)
    rw [hv]
    have k' : ¬ ((aC bZ b.winds).length : Int) = b.last + 1 := by omega
    repeat' first | ((first | refine Qz ?_ | refine Qf (c4) ?_ | with_reducible (first | refine Qm ?_ | refine Qn ?_ | refine Qo ?_ | refine Qp ?_ | refine WB.nt ?_ | refine WB.nf ?_ | refine WB.dec (fun h => ?_) (fun h => ?_) | refine WB.ndec (fun h => ?_) (fun h => ?_)) | refine WB.mk (fun h => ?_) (fun h => ?_)) <;> conv => whnf) | (refine WB.tt ?_; conv => whnf) | (refine WB.ff ?_; conv => whnf)
    exact Fin.i rfl rfl
  cases k7 : b.face.all (fun n => kB n 0 3) with
  | false =>
    have hv := f1 (Dv fun q => by have h := q.face; rw [show b.face.all hJ = false from k7] at h; cases h)
    rw [hv]; rw [k7] at c5
    repeat' first | ((first | refine Qz ?_ | refine Qf (c4) ?_ | refine Qf (c5) ?_ | with_reducible (first | refine Qm ?_ | refine Qn ?_ | refine Qo ?_ | refine Qp ?_ | refine WB.nt ?_ | refine WB.nf ?_ | refine WB.dec (fun h => ?_) (fun h => ?_) | refine WB.ndec (fun h => ?_) (fun h => ?_)) | refine WB.mk (fun h => ?_) (fun h => ?_)) <;> conv => whnf) | (refine WB.tt ?_; conv => whnf) | (refine WB.ff ?_; conv => whnf)
    exact Fin.i rfl rfl
  | true =>
  rw [k7] at c5
  cases k8 : b.sun.all (fun n => kB n (-1) 3) with
  | false =>
    have hv := f1 (Dv fun q => by have h := q.sun; rw [show b.sun.all vW = false from k8] at h; cases h)
    rw [hv]; rw [k8] at c6
    repeat' first | ((first | refine Qz ?_ | refine Qf (c4) ?_ | refine Qf (c5) ?_ | refine Qf (c6) ?_ | with_reducible (first | refine Qm ?_ | refine Qn ?_ | refine Qo ?_ | refine Qp ?_ | refine WB.nt ?_ | refine WB.nf ?_ | refine WB.dec (fun h => ?_) (fun h => ?_) | refine WB.ndec (fun h => ?_) (fun h => ?_)) | refine WB.mk (fun h => ?_) (fun h => ?_)) <;> conv => whnf) | (refine WB.tt ?_; conv => whnf) | (refine WB.ff ?_; conv => whnf)
    exact Fin.i rfl rfl
  | true =>
  rw [k8] at c6
  repeat' first | ((first | refine Qz ?_ | refine Qf (c4) ?_ | refine Qf (c5) ?_ | refine Qf (c6) ?_ | with_reducible (first | refine Qm ?_ | refine Qn ?_ | refine Qo ?_ | refine Qp ?_ | refine WB.nt ?_ | refine WB.nf ?_ | refine WB.dec (fun h => ?_) (fun h => ?_) | refine WB.ndec (fun h => ?_) (fun h => ?_)) | refine WB.mk (fun h => ?_) (fun h => ?_)) <;> conv => whnf) | (refine WB.tt ?_; conv => whnf) | (refine WB.ff ?_; conv => whnf)
  refine Rn.loop (fun j : Nat => ⟨MG b j, .n .e (some (bN b)) .e, .o .h, none⟩) (fun j => j ≤ b.winds.length ∧ ∀ h, h < j → mF (b.winds.getD h default) = true) (fun j => b.winds.length - j) 0 ?_ ⟨by omega, fun h hh => by omega⟩ ?_
  · refine X.le.mk ?_ ?_ (Nat.le_refl _) rfl rfl
    all_goals (first | unfold MG | skip)
    all_goals (repeat' first | exact T.le_e _ | exact T.le_refl _ | refine T.le_some ?_ rfl ?_ | refine T.le_none ?_ ?_ | refine T.le_ee ?_ ?_)
  rintro j ⟨hj, ha⟩
  conv => whnf
  repeat' first | ((first | refine Qz ?_ | refine Qy ?_) <;> conv => whnf) | (refine WB.tt ?_; conv => whnf) | (refine WB.ff ?_; conv => whnf)
  refine WB.dec (fun h => ?_) (fun h => ?_) <;> conv => whnf
  · have hlt : j < b.winds.length := by omega
    have hm := aN (d := (default : List Int)) hlt
    have lw := l6 _ hm
    have cD := gR (b.winds.getD j default) 0 lw
    have ew := aO (b.winds.getD j default)
    have bad : mF (b.winds.getD j default) = false → aV b = 1 := fun h => f1 (Dv fun q => by
      have := gB (d := default) q.wins hlt
      rw [h] at this; cases this)
    by_cases m1 : (b.winds.getD j default).length = 0
    · rw [bad (by cases hc : mF (b.winds.getD j default) with
        | false => rfl
        | true => exact absurd (iP.1 hc).2.1 (by omega))]
      repeat' first | ((first | refine Qz ?_ | refine Qy ?_) <;> conv => whnf) | (refine WB.tt ?_; conv => whnf) | (refine WB.ff ?_; conv => whnf)
      exact Fin.i rfl rfl
    cases m2 : (b.winds.getD j default).all (fun n => kB n 0 3) with
    | false =>
      rw [bad (by cases hc : mF (b.winds.getD j default) with
        | false => rfl
        | true => have := (iP.1 hc).2.2; rw [show (b.winds.getD j default).all hJ = false from m2] at this; cases this)]
      rw [m2] at cD
      repeat' first | ((first | refine Qz ?_ | refine Qf (cD) ?_ | refine Qy ?_) <;> conv => whnf) | (refine WB.tt ?_; conv => whnf) | (refine WB.ff ?_; conv => whnf)
      exact Fin.i rfl rfl
    | true =>
    rw [m2] at cD
    repeat' first | ((first | refine Qz ?_ | refine Qf (cD) ?_ | refine Qy ?_) <;> conv => whnf) | (refine WB.tt ?_; conv => whnf) | (refine WB.ff ?_; conv => whnf)
    refine Rn.loop (fun i : Nat => ⟨MM b j i, .n .e (some (bN b)) .e, .o .h, none⟩) (fun i => i ≤ (b.winds.getD j default).length ∧ ∀ h, 1 ≤ h → h < i + 1 → h < (b.winds.getD j default).length → (b.winds.getD j default).getD (h - 1) 0 < (b.winds.getD j default).getD h 0) (fun i => (b.winds.getD j default).length - i) 0 ?_ ⟨by omega, fun h h1 h2 => by omega⟩ ?_
    · refine X.le.mk ?_ ?_ (Nat.le_refl _) rfl rfl
      all_goals (first | unfold MM | skip)
      all_goals (repeat' first | exact T.le_e _ | exact T.le_refl _ | refine T.le_some ?_ rfl ?_ | refine T.le_none ?_ ?_ | refine T.le_ee ?_ ?_)
    rintro i ⟨hi, hb⟩
    conv => whnf
    repeat' first | ((first | refine Qz ?_ | refine Qy ?_) <;> conv => whnf) | (refine WB.tt ?_; conv => whnf) | (refine WB.ff ?_; conv => whnf)
    refine WB.dec (fun h3 => ?_) (fun h3 => ?_) <;> conv => whnf
    · have hlt2 : i + 1 < (b.winds.getD j default).length := by omega
      repeat' first | ((first | refine Qz ?_ | refine Qy ?_) <;> conv => whnf) | (refine WB.tt ?_; conv => whnf) | (refine WB.ff ?_; conv => whnf)
      refine WIx.intsE (j := i) (by omega) (by omega) ?_; conv => whnf
      repeat' first | ((first | refine Qz ?_ | refine Qy ?_) <;> conv => whnf) | (refine WB.tt ?_; conv => whnf) | (refine WB.ff ?_; conv => whnf)
      refine WB.dec (fun h4 => ?_) (fun h4 => ?_) <;> conv => whnf
      · rw [bad (by cases hc : mF (b.winds.getD j default) with
        | false => rfl
        | true =>
          have h5 := nB.1 (iP.1 hc).1 (i + 1) hlt2 (by omega)
          exact absurd h4 (Int.not_le.2 h5))]
        repeat' first | ((first | refine Qz ?_ | refine Qy ?_) <;> conv => whnf) | (refine WB.tt ?_; conv => whnf) | (refine WB.ff ?_; conv => whnf)
        exact Fin.i rfl rfl
      · repeat' first | ((first | refine Qz ?_ | refine Qy ?_) <;> conv => whnf) | (refine WB.tt ?_; conv => whnf) | (refine WB.ff ?_; conv => whnf)
        refine Again.to (i + 1) (by omega) ⟨by omega, fun h h1 h5 h6 => ?_⟩ (Nat.le_refl _) ?_
        · by_cases e : h = i + 1
          · subst e; exact Int.not_le.1 h4
          · exact hb h h1 (by omega) h6
        · refine Shr.of ?_ ?_ rfl rfl
          · show Rel _ _ (MM b j (i + 1)) _
            unfold MM
            (repeat' first | exact Rel.e | refine Rel.some ?_ ?_ ?_ | refine Rel.none ?_ ?_ | refine Rel.ee ?_ ?_)
            all_goals show Fz _ _ _ _
            all_goals first | exact .pu trivial | exact .kpt (show _ < 2 by simp [Pos.nat])
          · show Rel _ _ (.n .e (some (bN b)) .e : T C) _
            (repeat' first | exact Rel.e | refine Rel.some ?_ ?_ ?_ | refine Rel.none ?_ ?_ | refine Rel.ee ?_ ?_)
            all_goals exact RO'.of (show _ < 2 by simp [Pos.nat]) (aE b)
    · repeat' first | ((first | refine Qz ?_ | refine Qy ?_) <;> conv => whnf) | (refine WB.tt ?_; conv => whnf) | (refine WB.ff ?_; conv => whnf)
      refine Again.to (j + 1) (by omega) ⟨by omega, fun h h1 => ?_⟩ (Nat.le_refl _) ?_
      · by_cases e : h = j
        · subst e
          exact iP.2 ⟨nB.2 fun q hq h7 => hb q h7 (by omega) hq, by omega, m2⟩
        · exact ha h (by omega)
      · refine Shr.of ?_ ?_ rfl rfl
        · show Rel _ _ (MG b (j + 1)) _
          unfold MG
          (repeat' first | exact Rel.e | refine Rel.some ?_ ?_ ?_ | refine Rel.none ?_ ?_ | refine Rel.ee ?_ ?_)
          all_goals show Fz _ _ _ _
          all_goals first | exact .pu trivial | exact .kpt (show _ < 2 by simp [Pos.nat])
        · show Rel _ _ (.n .e (some (bN b)) .e : T C) _
          (repeat' first | exact Rel.e | refine Rel.some ?_ ?_ ?_ | refine Rel.none ?_ ?_ | refine Rel.ee ?_ ?_)
          all_goals exact RO'.of (show _ < 2 by simp [Pos.nat]) (aE b)
  have hw : b.winds.all mF = true := List.all_eq_true.2 fun w hw => by
    obtain ⟨i, hi, e⟩ := vP (d := (default : List Int)) hw
    rw [← e]; exact ha i (by omega)
  repeat' first | ((first | refine Qz ?_ | refine Qy ?_) <;> conv => whnf) | (refine WB.tt ?_; conv => whnf) | (refine WB.ff ?_; conv => whnf)
  refine Rn.loop (fun j : Nat => ⟨MJ b j, .n .e (some (bN b)) .e, .o .h, none⟩) (fun j => j ≤ b.brk.length ∧ (b.brk.take j).all (eG b) = true) (fun j => b.brk.length - j) 0 ?_ ⟨by omega, by simp⟩ ?_
  · refine X.le.mk ?_ ?_ (Nat.le_refl _) rfl rfl
    all_goals (first | unfold MJ | skip)
    all_goals (repeat' first | exact T.le_e _ | exact T.le_refl _ | refine T.le_some ?_ rfl ?_ | refine T.le_none ?_ ?_ | refine T.le_ee ?_ ?_)
  rintro j ⟨hj, hs⟩
  conv => whnf
  repeat' first | ((first | refine Qz ?_ | refine Qy ?_) <;> conv => whnf) | (refine WB.tt ?_; conv => whnf) | (refine WB.ff ?_; conv => whnf)
  refine WB.dec (fun h => ?_) (fun h => ?_) <;> conv => whnf
  · have hlt : j < b.brk.length := by omega
    have cS := Ep b (b.brk.getD j default) ⟨by omega, by omega⟩ ⟨by omega, by omega⟩
    cases m1 : eG b (b.brk.getD j default) with
    | false =>
      rw [f1 (Dv fun q => by
        have := gB (d := default) q.brk hlt
        rw [m1] at this; cases this)]
      rw [m1] at cS
      repeat' first | ((first | refine Qz ?_ | refine Qf (cS) ?_ | refine Qy ?_) <;> conv => whnf) | (refine WB.tt ?_; conv => whnf) | (refine WB.ff ?_; conv => whnf)
      exact Fin.i rfl rfl
    | true =>
      rw [m1] at cS
      repeat' first | ((first | refine Qz ?_ | refine Qf (cS) ?_ | refine Qy ?_) <;> conv => whnf) | (refine WB.tt ?_; conv => whnf) | (refine WB.ff ?_; conv => whnf)
      refine Again.to (j + 1) (by omega) ⟨by omega, bQ (d := default) hlt hs m1⟩ (Nat.le_refl _) ?_
      refine Shr.of ?_ ?_ rfl rfl
      · show Rel _ _ (MJ b (j + 1)) _
        unfold MJ
        (repeat' first | exact Rel.e | refine Rel.some ?_ ?_ ?_ | refine Rel.none ?_ ?_ | refine Rel.ee ?_ ?_)
        all_goals show Fz _ _ _ _
        all_goals first | exact .pu trivial | exact .kpt (show _ < 2 by simp [Pos.nat])
      · show Rel _ _ (.n .e (some (bN b)) .e : T C) _
        (repeat' first | exact Rel.e | refine Rel.some ?_ ?_ ?_ | refine Rel.none ?_ ?_ | refine Rel.ee ?_ ?_)
        all_goals exact RO'.of (show _ < 2 by simp [Pos.nat]) (aE b)
  have hs := fX (by omega) hs
  repeat' first | ((first | refine Qz ?_ | refine Qy ?_) <;> conv => whnf) | (refine WB.tt ?_; conv => whnf) | (refine WB.ff ?_; conv => whnf)
  refine Rn.loop (fun j : Nat => ⟨ML b j, .n .e (some (bN b)) .e, .o .h, none⟩) (fun j => j ≤ b.nts.length ∧ (b.nts.take j).all (hU b) = true) (fun j => b.nts.length - j) 0 ?_ ⟨by omega, by simp⟩ ?_
  · refine X.le.mk ?_ ?_ (Nat.le_refl _) rfl rfl
    all_goals (first | unfold ML | skip)
    all_goals (repeat' first | exact T.le_e _ | exact T.le_refl _ | refine T.le_some ?_ rfl ?_ | refine T.le_none ?_ ?_ | refine T.le_ee ?_ ?_)
  rintro j ⟨hj, ht⟩
  conv => whnf
  repeat' first | ((first | refine Qz ?_ | refine Qy ?_) <;> conv => whnf) | (refine WB.tt ?_; conv => whnf) | (refine WB.ff ?_; conv => whnf)
  refine WB.dec (fun h => ?_) (fun h => ?_) <;> conv => whnf
  · have hlt : j < b.nts.length := by omega
    have cA := Dr (b.nts.getD j default).1 0 b.last
    have cB := Dr (b.nts.getD j default).2 0 3
    have bad : hU b (b.nts.getD j default) = false → aV b = 1 := fun h => f1 (Dv fun q => by
      have := gB (d := default) q.nts hlt
      rw [h] at this; cases this)
    cases m1 : kB (b.nts.getD j default).1 0 b.last with
    | false =>
      rw [bad (by unfold hU; rw [m1]; rfl)]
      rw [m1] at cA
      repeat' first | ((first | refine Qz ?_ | refine Qf (cA) ?_ | refine Qy ?_) <;> conv => whnf) | (refine WB.tt ?_; conv => whnf) | (refine WB.ff ?_; conv => whnf)
      exact Fin.i rfl rfl
    | true =>
    rw [m1] at cA
    cases m2 : kB (b.nts.getD j default).2 0 3 with
    | false =>
      rw [bad (by unfold hU; rw [m1, show hJ (b.nts.getD j default).2 = false from m2]; rfl)]
      rw [m2] at cB
      repeat' first | ((first | refine Qz ?_ | refine Qf (cA) ?_ | refine Qf (cB) ?_ | refine Qy ?_) <;> conv => whnf) | (refine WB.tt ?_; conv => whnf) | (refine WB.ff ?_; conv => whnf)
      exact Fin.i rfl rfl
    | true =>
      rw [m2] at cB
      repeat' first | ((first | refine Qz ?_ | refine Qf (cA) ?_ | refine Qf (cB) ?_ | refine Qy ?_) <;> conv => whnf) | (refine WB.tt ?_; conv => whnf) | (refine WB.ff ?_; conv => whnf)
      refine Again.to (j + 1) (by omega) ⟨by omega, bQ (d := default) hlt ht (by unfold hU; rw [m1, show hJ (b.nts.getD j default).2 = true from m2]; rfl)⟩ (Nat.le_refl _) ?_
      refine Shr.of ?_ ?_ rfl rfl
      · show Rel _ _ (ML b (j + 1)) _
        unfold ML
        (repeat' first | exact Rel.e | refine Rel.some ?_ ?_ ?_ | refine Rel.none ?_ ?_ | refine Rel.ee ?_ ?_)
        all_goals show Fz _ _ _ _
        all_goals first | exact .pu trivial | exact .kpt (show _ < 2 by simp [Pos.nat])
      · show Rel _ _ (.n .e (some (bN b)) .e : T C) _
        (repeat' first | exact Rel.e | refine Rel.some ?_ ?_ ?_ | refine Rel.none ?_ ?_ | refine Rel.ee ?_ ?_)
        all_goals exact RO'.of (show _ < 2 by simp [Pos.nat]) (aE b)
  have ht := fX (by omega) ht
  have q3 := bA k3
  rw [f0 ⟨⟨by omega, by omega⟩, ⟨by omega, by omega⟩, ⟨by omega, by omega⟩, q3, k4, k7, k5, k8, k6, hw, hs, ht⟩]
  repeat' first | ((first | refine Qz ?_ | refine Qy ?_) <;> conv => whnf) | (refine WB.tt ?_; conv => whnf) | (refine WB.ff ?_; conv => whnf)
  exact Fin.i rfl rfl
def DN (l : List Int) (n : Int) : Bool := l.any fun x => decide (x = n)
theorem gY {α : Type} {l : List α} {p : α → Bool} (h : (l.take l.length).any p = false) : l.any p = false := by rwa [List.take_length] at h
theorem jM {α : Type} {l : List α} {p : α → Bool} {i : Nat} {d : α} (h : i < l.length) (k : p (l.getD i d) = true) : l.any p = true := List.any_eq_true.2 ⟨_, aN h, k⟩
theorem Jb (l : List Int) (n : Int) (hl : l.length ≤ 1000) : PureF Tryz.prog p70.ix [.lst 1 (ints l), .i .i64 n] (.b (DN l n)) := by
  have e1 := aO l
  refine PureF.run OC (by simp) (by simp [aR, dP, Pu, aB]) ?_; conv => whnf
  repeat' first | ((first | refine Qz ?_) <;> conv => whnf)
  refine Rn.loop (fun j : Nat => ⟨(.n (.n .e (some (.i .i64 n)) (.n .e (some (.i .i64 (j : Int))) .e)) (some (.lst 1 (ints l))) .e), .e, .h, none⟩) (fun j => j ≤ l.length ∧ (l.take j).any (fun x => decide (x = n)) = false) (fun j => l.length - j) 0 ?_ ?_ ?_
  · (first | (refine X.le.mk ?_ ?_ (Nat.le_refl _) rfl rfl) | skip) <;> (repeat' first | exact T.le_e _ | refine T.le_some ?_ ?_ ?_ | refine T.le_none ?_ ?_ | rfl)
  · exact ⟨by omega, by simp⟩
  rintro j ⟨hj, ha⟩
  conv => whnf
  repeat' first | ((first | refine Qz ?_) <;> conv => whnf)
  refine WB.dec (fun h => ?_) (fun h => ?_) <;> conv => whnf
  · have hlt : j < l.length := by omega
    repeat' first | ((first | refine Qz ?_) <;> conv => whnf)
    refine WB.dec (fun h2 => ?_) (fun h2 => ?_) <;> conv => whnf
    · repeat' first | ((first | refine Qz ?_) <;> conv => whnf)
      exact Fin.b rfl (jM (d := 0) hlt (decide_eq_true h2)).symm
    · repeat' first | ((first | refine Qz ?_) <;> conv => whnf)
      refine Again.to (j + 1) (by omega) ⟨by omega, by rw [eA (d := 0) hlt, ha, decide_eq_false h2]; rfl⟩ (Nat.le_refl _) ?_
      (refine Shr.of ?_ ?_ rfl rfl) <;> (repeat' first | exact Rel.e | refine Rel.some ?_ ?_ ?_ | refine Rel.none ?_ ?_) <;> (try first | (show Fz _ _ _ _; first | exact Fz.pu trivial | (refine Fz.i ?_; first | rfl | omega) | (refine Fz.kpt ?_; (focus (show Pos.nat _ < Pos.nat _; simp [Pos.nat]; done))) | (refine Fz.ksl ?_; (focus (show Pos.nat _ < Pos.nat _; simp [Pos.nat]; done))) | (refine Fz.kmp ?_; (focus (show Pos.nat _ < Pos.nat _; simp [Pos.nat]; done))) | (refine Fz.pu ?_; simp [Cell.d, Pu, aR, dP, aB, aG, aF]; done) | (refine Fz.pu ?_; simp only [Cell.d]; assumption)) | (refine RO'.of ?_ (ShC.same ?_); (focus (show Pos.nat _ < Pos.nat _; simp [Pos.nat]; done)); (repeat' first | exact ShC.nl | refine ShC.cn ?_ ?_) <;> first | exact Fz.pu trivial | (refine Fz.i ?_; first | rfl | omega) | (refine Fz.kpt ?_; (focus (show Pos.nat _ < Pos.nat _; simp [Pos.nat]; done))) | (refine Fz.ksl ?_; (focus (show Pos.nat _ < Pos.nat _; simp [Pos.nat]; done))) | (refine Fz.kmp ?_; (focus (show Pos.nat _ < Pos.nat _; simp [Pos.nat]; done))) | (refine Fz.pu ?_; simp [Cell.d, Pu, aR, dP, aB, aG, aF]; done) | (refine Fz.pu ?_; simp only [Cell.d]; assumption)))
      all_goals (refine Fz.pu ?_; simp [Pu, aB])
  · obtain rfl : j = l.length := by omega
    repeat' first | ((first | refine Qz ?_) <;> conv => whnf)
    exact Fin.b rfl (gY ha).symm
def vN (L : List (List Int)) : Bool := decide (L.length ≤ 7) && L.all fun w => decide (w.length ≤ 5)
theorem BH (L : List (List Int)) : PureF Tryz.prog p21.ix [.lst 1 (aC bZ L)] (.b (vN L)) := by
  have e1 := aI bZ L
  refine PureF.run Pn (by simp) (by simp [aR, dP, Pu, aF]) ?_; conv => whnf
  repeat' first | ((first | refine Qz ?_) <;> conv => whnf)
  refine Rn.loop (fun j : Nat => ⟨(.n (.n (.n .e (some (.i .i64 (j : Int))) .e) none .e) (some (.lst 1 (aC bZ L))) .e), .e, .h, none⟩) (fun j => j ≤ L.length ∧ j ≤ 8 ∧ (L.take j).all (fun w => decide (w.length ≤ 5)) = true) (fun j => L.length - j) 0 ?_ ?_ ?_
  · (first | (refine X.le.mk ?_ ?_ (Nat.le_refl _) rfl rfl) | skip) <;> (repeat' first | exact T.le_e _ | refine T.le_some ?_ ?_ ?_ | refine T.le_none ?_ ?_ | rfl)
  · exact ⟨by omega, by omega, by simp⟩
  rintro j ⟨hj, h8, ha⟩
  conv => whnf
  repeat' first | ((first | refine Qz ?_) <;> conv => whnf)
  refine WB.dec (fun h => ?_) (fun h => ?_) <;> conv => whnf
  · have hlt : j < L.length := by omega
    repeat' first | ((first | refine Qz ?_ | refine Qy ?_) <;> conv => whnf) | (refine WB.tt ?_; conv => whnf) | (refine WB.ff ?_; conv => whnf)
    refine WB.dec (fun h3 => ?_) (fun h3 => ?_) <;> conv => whnf
    · have ew := aO (L.getD j default)
      repeat' first | ((first | refine Qz ?_ | refine Qy ?_) <;> conv => whnf) | (refine WB.tt ?_; conv => whnf) | (refine WB.ff ?_; conv => whnf)
      refine WB.dec (fun h2 => ?_) (fun h2 => ?_) <;> conv => whnf
      · repeat' first | ((first | refine Qz ?_) <;> conv => whnf)
        exact Fin.b rfl (by unfold vN; rw [eY (d := (default : List Int)) hlt (decide_eq_false (by omega)), Bool.and_false])
      · repeat' first | ((first | refine Qz ?_) <;> conv => whnf)
        refine Again.to (j + 1) (by omega) ⟨by omega, by omega, bQ (d := (default : List Int)) hlt ha (decide_eq_true (by omega))⟩ (Nat.le_refl _) ?_
        (refine Shr.of ?_ ?_ rfl rfl) <;> (repeat' first | exact Rel.e | refine Rel.some ?_ ?_ ?_ | refine Rel.none ?_ ?_) <;> (try first | (show Fz _ _ _ _; first | exact Fz.pu trivial | (refine Fz.i ?_; first | rfl | omega) | (refine Fz.kpt ?_; (focus (show Pos.nat _ < Pos.nat _; simp [Pos.nat]; done))) | (refine Fz.ksl ?_; (focus (show Pos.nat _ < Pos.nat _; simp [Pos.nat]; done))) | (refine Fz.kmp ?_; (focus (show Pos.nat _ < Pos.nat _; simp [Pos.nat]; done))) | (refine Fz.pu ?_; simp [Cell.d, Pu, aR, dP, aB, aG, aF]; done) | (refine Fz.pu ?_; simp only [Cell.d]; assumption)) | (refine RO'.of ?_ (ShC.same ?_); (focus (show Pos.nat _ < Pos.nat _; simp [Pos.nat]; done)); (repeat' first | exact ShC.nl | refine ShC.cn ?_ ?_) <;> first | exact Fz.pu trivial | (refine Fz.i ?_; first | rfl | omega) | (refine Fz.kpt ?_; (focus (show Pos.nat _ < Pos.nat _; simp [Pos.nat]; done))) | (refine Fz.ksl ?_; (focus (show Pos.nat _ < Pos.nat _; simp [Pos.nat]; done))) | (refine Fz.kmp ?_; (focus (show Pos.nat _ < Pos.nat _; simp [Pos.nat]; done))) | (refine Fz.pu ?_; simp [Cell.d, Pu, aR, dP, aB, aG, aF]; done) | (refine Fz.pu ?_; simp only [Cell.d]; assumption)))
        all_goals (refine Fz.pu ?_; simp [Pu, aF])
    · have h7 : ¬ L.length ≤ 7 := by omega
      repeat' first | ((first | refine Qz ?_ | with_reducible (first | refine Qm ?_ | refine Qn ?_ | refine Qo ?_ | refine Qp ?_ | refine WB.nt ?_ | refine WB.nf ?_ | refine WB.dec (fun h => ?_) (fun h => ?_) | refine WB.ndec (fun h => ?_) (fun h => ?_)) | refine WB.mk (fun h => ?_) (fun h => ?_)) <;> conv => whnf) | (refine WB.tt ?_; conv => whnf) | (refine WB.ff ?_; conv => whnf)
      exact Fin.b rfl (by unfold vN; rw [decide_eq_false h7]; exact decide_eq_false (by omega))
  · have hB := fX (by omega) ha
    unfold vN
    rw [hB, Bool.and_true]
    by_cases k1 : L.length ≤ 7
    · rw [decide_eq_true k1]
      repeat' first | ((first | refine Qz ?_ | with_reducible (first | refine Qm ?_ | refine Qn ?_ | refine Qo ?_ | refine Qp ?_ | refine WB.nt ?_ | refine WB.nf ?_ | refine WB.dec (fun h => ?_) (fun h => ?_) | refine WB.ndec (fun h => ?_) (fun h => ?_)) | refine WB.mk (fun h => ?_) (fun h => ?_)) <;> conv => whnf) | (refine WB.tt ?_; conv => whnf) | (refine WB.ff ?_; conv => whnf)
      exact Fin.b rfl (by first | rfl | (refine decide_eq_true ?_; omega))
    · rw [decide_eq_false k1]
      repeat' first | ((first | refine Qz ?_ | with_reducible (first | refine Qm ?_ | refine Qn ?_ | refine Qo ?_ | refine Qp ?_ | refine WB.nt ?_ | refine WB.nf ?_ | refine WB.dec (fun h => ?_) (fun h => ?_) | refine WB.ndec (fun h => ?_) (fun h => ?_)) | refine WB.mk (fun h => ?_) (fun h => ?_)) <;> conv => whnf) | (refine WB.tt ?_; conv => whnf) | (refine WB.ff ?_; conv => whnf)
      exact Fin.b rfl (by first | rfl | (refine decide_eq_false ?_; omega))
def iC (L : List (List Int)) : Nat → Int
  | 0 => 1
  | j + 1 => iC L j * ((L.getD j default).length : Int)
def Gn : Nat → Int
  | 0 => 1
  | n + 1 => Gn n * 5
theorem vK {L : List (List Int)} (h : ∀ w ∈ L, w.length ≤ 5) : ∀ j, j ≤ L.length → 0 ≤ iC L j ∧ iC L j ≤ Gn j
  | 0, _ => by show (0 : Int) ≤ 1 ∧ (1 : Int) ≤ 1; omega
  | j + 1, hj => by
    obtain ⟨a, b⟩ := vK h j (by omega)
    have hw := h _ (aN (d := (default : List Int)) (show j < L.length by omega))
    have hn : (0 : Int) ≤ ((L.getD j default).length : Int) := by omega
    show 0 ≤ iC L j * _ ∧ iC L j * _ ≤ Gn j * 5
    exact ⟨Int.mul_nonneg a hn, Int.le_trans (Int.mul_le_mul_of_nonneg_right b hn) (Int.mul_le_mul_of_nonneg_left (by omega) (by omega))⟩
theorem In : ∀ j, j ≤ 7 → Gn j ≤ 78125 := by
  intro j hj
  have : j = 0 ∨ j = 1 ∨ j = 2 ∨ j = 3 ∨ j = 4 ∨ j = 5 ∨ j = 6 ∨ j = 7 := by omega
  rcases this with rfl | rfl | rfl | rfl | rfl | rfl | rfl | rfl <;> decide
theorem DI (b : Bh) (h7 : b.winds.length ≤ 7) (h5 : ∀ w ∈ b.winds, w.length ≤ 5) : PureF Tryz.prog p49.ix [.ag (dS b)] (.i .i64 (iC b.winds b.winds.length)) := by
  have e1 := aI bZ b.winds
  refine PureF.run NJ (by simp) (by simp [aR, Pu, aQ]) ?_; conv => whnf
  repeat' first | ((first | refine Qz ?_) <;> conv => whnf)
  refine Rn.loop (fun j : Nat => ⟨(.n (.n (.n .e (some (.i .i64 (iC b.winds j))) .e) (some (.pt .h 0 0)) .e) none (.n (.n .e (some (.i .i64 (j : Int))) .e) none .e)), .n .e (some (bN b)) .e, .o .h, none⟩) (fun j => j ≤ b.winds.length) (fun j => b.winds.length - j) 0 ?_ (Nat.zero_le _) ?_
  · refine X.le.mk ?_ ?_ (Nat.le_refl _) rfl rfl
    all_goals (repeat' first | exact T.le_e _ | exact T.le_refl _ | refine T.le_some ?_ rfl ?_ | refine T.le_none ?_ ?_ | refine T.le_ee ?_ ?_)
  intro j hj
  have hj : j ≤ b.winds.length := hj
  conv => whnf
  repeat' first | ((first | refine Qz ?_ | refine Qy ?_) <;> conv => whnf) | (refine WB.tt ?_; conv => whnf) | (refine WB.ff ?_; conv => whnf)
  refine WB.dec (fun h => ?_) (fun h => ?_) <;> conv => whnf
  · have hlt : j < b.winds.length := by omega
    have ew := aO (b.winds.getD j default)
    have e2 : iC b.winds (j + 1) = iC b.winds j * ((ints (b.winds.getD j default)).length : Int) := by rw [ew]; rfl
    have hb := vK h5 (j + 1) (by omega)
    have hp := In (j + 1) (by omega)
    rw [e2] at hb
    repeat' first | ((first | refine Qz ?_ | refine Qy ?_) <;> conv => whnf) | (refine WB.tt ?_; conv => whnf) | (refine WB.ff ?_; conv => whnf)
    rw [← e2]
    refine Again.to (j + 1) (by omega) (show j + 1 ≤ b.winds.length by omega) (Nat.le_refl _) ?_
    refine Shr.of ?_ ?_ rfl rfl
    · show Rel _ _ ((.n (.n (.n .e (some (.i .i64 (iC b.winds (j + 1)))) .e) (some (.pt .h 0 0)) .e) none (.n (.n .e (some (.i .i64 ((j + 1 : Nat) : Int))) .e) none .e)) : T D) _
      (repeat' first | exact Rel.e | refine Rel.some ?_ ?_ ?_ | refine Rel.none ?_ ?_ | refine Rel.ee ?_ ?_)
      all_goals show Fz _ _ _ _
      all_goals first | exact .pu trivial | exact .kpt (show _ < 2 by simp [Pos.nat])
    · show Rel _ _ (.n .e (some (bN b)) .e : T C) _
      (repeat' first | exact Rel.e | refine Rel.some ?_ ?_ ?_ | refine Rel.none ?_ ?_ | refine Rel.ee ?_ ?_)
      all_goals exact RO'.of (show _ < 2 by simp [Pos.nat]) (aE b)
  · obtain rfl : j = b.winds.length := by omega
    repeat' first | ((first | refine Qz ?_ | refine Qy ?_) <;> conv => whnf) | (refine WB.tt ?_; conv => whnf) | (refine WB.ff ?_; conv => whnf)
    exact Fin.i rfl rfl
def rG (b : Bh) : Bool := decide (b.face.length ≤ 5) && (decide (b.sun.length ≤ 7) && (vN b.winds && (decide (b.brk.length ≤ 6) && (decide (b.nts.length ≤ 7) && (decide (aV b ≠ 0) || decide (iC b.winds b.winds.length ≤ 80))))))
theorem qU {L : List (List Int)} (h : vN L = true) : L.length ≤ 7 ∧ ∀ w ∈ L, w.length ≤ 5 := by
  unfold vN at h
  simp only [Bool.and_eq_true, decide_eq_true_iff, List.all_eq_true] at h
  exact h
theorem IL (b : Bh) : PureF Tryz.prog p20.ix [.ag (dS b)] (.b (rG b)) := by
  have e1 := aI bB b.brk
  have e2 := aI bB b.nts
  have e3 := aO b.face
  have e4 := aO b.sun
  have cB := BH b.winds
  refine PureF.run Nb (by simp) (by simp [aR, Pu, aQ]) ?_; conv => whnf
  unfold rG
  by_cases k0 : b.face.length ≤ 5
  rotate_left
  · rw [decide_eq_false k0]
    repeat' first | ((first | refine Qz ?_ | with_reducible (first | refine Qm ?_ | refine Qn ?_ | refine Qo ?_ | refine Qp ?_ | refine WB.nt ?_ | refine WB.nf ?_ | refine WB.dec (fun h => ?_) (fun h => ?_) | refine WB.ndec (fun h => ?_) (fun h => ?_)) | refine WB.mk (fun h => ?_) (fun h => ?_)) <;> conv => whnf) | (refine WB.tt ?_; conv => whnf) | (refine WB.ff ?_; conv => whnf)
    exact Fin.b rfl rfl
  rw [decide_eq_true k0]
  by_cases k1 : b.sun.length ≤ 7
  rotate_left
  · rw [decide_eq_false k1]
    repeat' first | ((first | refine Qz ?_ | with_reducible (first | refine Qm ?_ | refine Qn ?_ | refine Qo ?_ | refine Qp ?_ | refine WB.nt ?_ | refine WB.nf ?_ | refine WB.dec (fun h => ?_) (fun h => ?_) | refine WB.ndec (fun h => ?_) (fun h => ?_)) | refine WB.mk (fun h => ?_) (fun h => ?_)) <;> conv => whnf) | (refine WB.tt ?_; conv => whnf) | (refine WB.ff ?_; conv => whnf)
    exact Fin.b rfl rfl
  rw [decide_eq_true k1]
  cases k2 : vN b.winds with
  | false =>
    rw [k2] at cB
    repeat' first | ((first | refine Qz ?_ | refine Qf (cB) ?_ | with_reducible (first | refine Qm ?_ | refine Qn ?_ | refine Qo ?_ | refine Qp ?_ | refine WB.nt ?_ | refine WB.nf ?_ | refine WB.dec (fun h => ?_) (fun h => ?_) | refine WB.ndec (fun h => ?_) (fun h => ?_)) | refine WB.mk (fun h => ?_) (fun h => ?_)) <;> conv => whnf) | (refine WB.tt ?_; conv => whnf) | (refine WB.ff ?_; conv => whnf)
    exact Fin.b rfl rfl
  | true =>
  rw [k2] at cB
  by_cases k3 : b.brk.length ≤ 6
  rotate_left
  · rw [decide_eq_false k3]
    repeat' first | ((first | refine Qz ?_ | refine Qf (cB) ?_ | with_reducible (first | refine Qm ?_ | refine Qn ?_ | refine Qo ?_ | refine Qp ?_ | refine WB.nt ?_ | refine WB.nf ?_ | refine WB.dec (fun h => ?_) (fun h => ?_) | refine WB.ndec (fun h => ?_) (fun h => ?_)) | refine WB.mk (fun h => ?_) (fun h => ?_)) <;> conv => whnf) | (refine WB.tt ?_; conv => whnf) | (refine WB.ff ?_; conv => whnf)
    exact Fin.b rfl rfl
  rw [decide_eq_true k3]
  by_cases k4 : b.nts.length ≤ 7
  rotate_left
  · rw [decide_eq_false k4]
    repeat' first | ((first | refine Qz ?_ | refine Qf (cB) ?_ | with_reducible (first | refine Qm ?_ | refine Qn ?_ | refine Qo ?_ | refine Qp ?_ | refine WB.nt ?_ | refine WB.nf ?_ | refine WB.dec (fun h => ?_) (fun h => ?_) | refine WB.ndec (fun h => ?_) (fun h => ?_)) | refine WB.mk (fun h => ?_) (fun h => ?_)) <;> conv => whnf) | (refine WB.tt ?_; conv => whnf) | (refine WB.ff ?_; conv => whnf)
    exact Fin.b rfl rfl
  rw [decide_eq_true k4]
  obtain ⟨q1, q2⟩ := qU k2
  have cF := Ck b (by omega) (by omega) (by omega) (fun w hw => by have := q2 w hw; omega)
  have cM := DI b q1 q2
  generalize aV b = f at *
  generalize iC b.winds b.winds.length = m at *
  by_cases k5 : f ≠ 0
  · rw [decide_eq_true k5]
    repeat' first | ((first | refine Qz ?_ | refine Qf (cB) ?_ | refine Qf (cF) ?_ | with_reducible (first | refine Qm ?_ | refine Qn ?_ | refine Qo ?_ | refine Qp ?_ | refine WB.nt ?_ | refine WB.nf ?_ | refine WB.dec (fun h => ?_) (fun h => ?_) | refine WB.ndec (fun h => ?_) (fun h => ?_)) | refine WB.mk (fun h => ?_) (fun h => ?_)) <;> conv => whnf) | (refine WB.tt ?_; conv => whnf) | (refine WB.ff ?_; conv => whnf)
    exact Fin.b rfl rfl
  rw [decide_eq_false k5, Bool.false_or]
  have k5 : f = 0 := by omega
  subst k5
  by_cases k6 : m ≤ 80
  · rw [decide_eq_true k6]
    repeat' first | ((first | refine Qz ?_ | refine Qf (cB) ?_ | refine Qf (cF) ?_ | refine Qf (cM) ?_ | with_reducible (first | refine Qm ?_ | refine Qn ?_ | refine Qo ?_ | refine Qp ?_ | refine WB.nt ?_ | refine WB.nf ?_ | refine WB.dec (fun h => ?_) (fun h => ?_) | refine WB.ndec (fun h => ?_) (fun h => ?_)) | refine WB.mk (fun h => ?_) (fun h => ?_)) <;> conv => whnf) | (refine WB.tt ?_; conv => whnf) | (refine WB.ff ?_; conv => whnf)
    exact Fin.b rfl (by first | rfl | exact decide_eq_true k6)
  · rw [decide_eq_false k6]
    repeat' first | ((first | refine Qz ?_ | refine Qf (cB) ?_ | refine Qf (cF) ?_ | refine Qf (cM) ?_ | with_reducible (first | refine Qm ?_ | refine Qn ?_ | refine Qo ?_ | refine Qp ?_ | refine WB.nt ?_ | refine WB.nf ?_ | refine WB.dec (fun h => ?_) (fun h => ?_) | refine WB.ndec (fun h => ?_) (fun h => ?_)) | refine WB.mk (fun h => ?_) (fun h => ?_)) <;> conv => whnf) | (refine WB.tt ?_; conv => whnf) | (refine WB.ff ?_; conv => whnf)
    exact Fin.b rfl (by first | rfl | exact decide_eq_false k6)
theorem gI {n : Int} (h : -9223372036854775808 ≤ n ∧ n ≤ 9223372036854775807) : wX .i64 n = true := by
  obtain ⟨h1, h2⟩ := h
  cases n with
  | ofNat m =>
    have h2 : (m : Int) ≤ 9223372036854775807 := h2
    exact Nat.ble_eq_true_of_le (by simp only [gM]; omega)
  | negSucc m =>
    have h1 : -9223372036854775808 ≤ Int.negSucc m := h1
    show (IntKind.signed .i64 && Nat.ble m (gM .i64)) = true
    rw [show IntKind.signed .i64 = true from rfl, Bool.true_and]
    exact Nat.ble_eq_true_of_le (by simp only [gM]; omega)
def Bb (n : Int) : List D := [.i .i64 n]
theorem Gv (a : Int) : (Bb a).length = 1 := rfl
theorem zD (a : Int) : aR (Bb a) := by simp [Bb, aR, Pu]
theorem Gy (a : Int × Int) : (bB a).length = 2 := rfl
theorem tL (a : Int × Int) : aR (bB a) := by simp [bB, aR, Pu]
def i64 (n : Int) : Prop := -9223372036854775808 ≤ n ∧ n ≤ 9223372036854775807
theorem DD (h f : Int) (n : Int × Int) (h1 : i64 h) (h2 : i64 f) (h3 : i64 n.1) (h4 : i64 n.2) : PureF Tryz.prog p152.ix [.ag (bB (h, f)), .ag (bB n)] (.b (Ge h f n)) := by
  refine PureF.run JC (by simp) (by simp [aR, Pu, bB]) ?_; conv => whnf
  unfold Ge
  by_cases k : h = n.1
  · repeat' first | ((first | refine Qz ?_ | with_reducible (first | refine Qm ?_ | refine Qn ?_ | refine Qo ?_ | refine Qp ?_ | refine WB.nt ?_ | refine WB.nf ?_ | refine WB.dec (fun h => ?_) (fun h => ?_) | refine WB.ndec (fun h => ?_) (fun h => ?_)) | refine WB.mk (fun h => ?_) (fun h => ?_)) <;> conv => whnf) | (refine WB.tt ?_; conv => whnf) | (refine WB.ff ?_; conv => whnf)
    refine WSt.eqr2 (a := h) (b := f) (a' := n.1) (b' := n.2) rfl rfl (gI h1) (gI h2) (gI h3) (gI h4) ?_; conv => whnf
    by_cases k2 : f = n.2
    · rw [show decide (h = n.1 ∧ f = n.2) = true from decide_eq_true ⟨k, k2⟩]
      repeat' first | ((first | refine Qz ?_ | with_reducible (first | refine Qm ?_ | refine Qn ?_ | refine Qo ?_ | refine Qp ?_ | refine WB.nt ?_ | refine WB.nf ?_ | refine WB.dec (fun h => ?_) (fun h => ?_) | refine WB.ndec (fun h => ?_) (fun h => ?_)) | refine WB.mk (fun h => ?_) (fun h => ?_)) <;> conv => whnf) | (refine WB.tt ?_; conv => whnf) | (refine WB.ff ?_; conv => whnf)
      exact Fin.b rfl (decide_eq_true (.inr k2.symm)).symm
    · rw [show decide (h = n.1 ∧ f = n.2) = false from decide_eq_false fun q => k2 q.2]
      repeat' first | ((first | refine Qz ?_ | with_reducible (first | refine Qm ?_ | refine Qn ?_ | refine Qo ?_ | refine Qp ?_ | refine WB.nt ?_ | refine WB.nf ?_ | refine WB.dec (fun h => ?_) (fun h => ?_) | refine WB.ndec (fun h => ?_) (fun h => ?_)) | refine WB.mk (fun h => ?_) (fun h => ?_)) <;> conv => whnf) | (refine WB.tt ?_; conv => whnf) | (refine WB.ff ?_; conv => whnf)
      exact Fin.b rfl (decide_eq_false (by intro q; rcases q with q | q <;> omega)).symm
  · repeat' first | ((first | refine Qz ?_ | with_reducible (first | refine Qm ?_ | refine Qn ?_ | refine Qo ?_ | refine Qp ?_ | refine WB.nt ?_ | refine WB.nf ?_ | refine WB.dec (fun h => ?_) (fun h => ?_) | refine WB.ndec (fun h => ?_) (fun h => ?_)) | refine WB.mk (fun h => ?_) (fun h => ?_)) <;> conv => whnf) | (refine WB.tt ?_; conv => whnf) | (refine WB.ff ?_; conv => whnf)
    exact Fin.b rfl (decide_eq_true (.inl fun e => k e.symm)).symm
def tE (b : Bh) (h : Nat) (f : Int) : Bool := b.nts.all (Ge (h : Int) f)
def gJ (p : Int → Bool) (W : List Int) (j : Nat) : List Int := (W.take j).filter p
theorem Do (p : Int → Bool) (W : List Int) (j : Nat) (hj : j < W.length) : gJ p W (j + 1) = if p (W.getD j 0) = true then gJ p W j ++ [W.getD j 0] else gJ p W j := by
  unfold gJ
  rw [fL (d := 0) hj, List.filter_append]
  cases h : p (W.getD j 0) with
  | true => rw [if_pos rfl]; simp only [List.filter_cons, h, List.filter_nil, if_true]
  | false => rw [if_neg (by decide), List.filter_cons_of_neg (by rw [h]; decide), List.filter_nil, List.append_nil]
theorem FD (p : Int → Bool) (W : List Int) (j : Nat) : (gJ p W j).length ≤ j := by
  unfold gJ
  have := List.length_filter_le p (W.take j)
  rw [List.length_take] at this
  omega
theorem FS (p : Int → Bool) (W : List Int) : gJ p W W.length = W.filter p := by unfold gJ; rw [List.take_length]
def EY (b : Bh) (W : List Int) (h : Nat) (A : List Int) (j : Nat) : X := ⟨(.n (.n (.n (.n (.n .e (some (.i .i64 (j : Int))) .e) none .e) none .e) (some (.i .i64 (h : Int))) (.n .e (some (tB (.i .h) 1 A)) (.n .e (some (.lst 1 (ints W))) .e))) none (.n .e (some (.pt .h 0 0)) (.n .e none (.n .e (some (.i .i64 (W.length : Int))) .e)))), (.n .e (some (bN b)) (.n .e (tM Bb A) .e)), eQ (.o .h) (.o (.o .h)) A, none⟩
theorem xG {b : Bh} (hb : 0 ≤ b.last ∧ b.last ≤ 4) {n : Int × Int} (h : hU b n = true) : (0 ≤ n.1 ∧ n.1 ≤ 4) ∧ (0 ≤ n.2 ∧ n.2 ≤ 3) := by
  unfold hU at h
  rw [Bool.and_eq_true] at h
  have := bA h.1; have := bA h.2
  omega
theorem VW.dir {b : Bh} (V : VW b) {h : Nat} (hh : h < b.winds.length) {f : Int} (hf : f ∈ b.winds.getD h default) : 0 ≤ f ∧ f ≤ 3 := by
  have := (iP.1 (gB (d := default) V.wins hh)).2.2
  exact bA (List.all_eq_true.1 this f hf)
set_option maxHeartbeats 2000000 in
theorem BO (b : Bh) (V : VW b) (h : Nat) (hh : h < b.winds.length) (l1 : (b.winds.getD h default).length ≤ 1000) (l2 : b.nts.length ≤ 1000) : PureF Tryz.prog p134.ix [.ag (dS b), .i .i64 (h : Int)] (.lst 1 (ints (aK b h))) := by
  have e1 := aI bZ b.winds
  have hw4 := V.last
  have hwl := V.winl
  obtain ⟨W, hW⟩ : ∃ W, W = b.winds.getD h default := ⟨_, rfl⟩
  have hres : aK b h = gJ (tE b h) W W.length := by rw [FS, hW]; rfl
  have hdir := fun f hf => V.dir hh (f := f) hf
  rw [hres]
  rw [← hW] at l1 hdir
  have e2 := aO W
  have cA : ∀ j, j < W.length → PureF Tryz.prog p129.ix [.lst 2 (aC bB b.nts), .fn p152 [.ag [.i .i64 (h : Int), .i .i64 (W.getD j 0)]] []] (.b (tE b h (W.getD j 0))) := fun j hj => by
    have hd := hdir _ (aN (d := 0) hj)
    exact DH b.nts p152 [.ag (bB ((h : Int), W.getD j 0))] [] (Ge (h : Int) (W.getD j 0)) (by simp [aR, Pu, bB]) trivial l2 (fun n hn => by
      have hn := xG hw4 (List.all_eq_true.1 V.nts n hn)
      exact DD _ _ n ⟨by omega, by omega⟩ ⟨by omega, by omega⟩ ⟨by omega, by omega⟩ ⟨by omega, by omega⟩)
  refine PureF.run Lu (by simp) (by simp [aR, Pu, aQ]) ?_; conv => whnf
  repeat' first | ((first | refine Qz ?_ | refine Qy ?_) <;> conv => whnf) | (refine WB.tt ?_; conv => whnf) | (refine WB.ff ?_; conv => whnf)
  rw [← hW]
  refine Rn.loop (fun j : Nat => EY b W h (gJ (tE b h) W j) j) (fun j => j ≤ W.length ∧ True) (fun j => W.length - j) 0 ?_ ?_ ?_
  · refine X.le.mk ?_ ?_ (Nat.le_refl _) rfl rfl
    · show T.le ((.n (.n (.n (.n (.n .e (some (.i .i64 0)) .e) none .e) none .e) (some (.i .i64 (h : Int))) (.n .e (some (.ns)) (.n .e (some (.lst 1 (ints W))) .e))) none (.n .e (some (.pt .h 0 0)) (.n .e none (.n .e (some (.i .i64 (W.length : Int))) .e)))) : Ev.T D) _
      rw [← e2]
      (repeat' first | exact T.le_e _ | refine T.le_some ?_ rfl ?_ | refine T.le_none ?_ ?_ | refine T.le_ee ?_ ?_)
    · show T.le ((.n .e (some (bN b)) (.n .e none .e)) : Ev.T Ev.C) _
      (repeat' first | exact T.le_e _ | refine T.le_some ?_ rfl ?_ | refine T.le_none ?_ ?_ | refine T.le_ee ?_ ?_)
  · exact ⟨Nat.zero_le _, trivial⟩
  rintro j ⟨hj, _⟩
  have hsc0 := Do (tE b h) W j
  have hAl := FD (tE b h) W j
  have hend : j = W.length → gJ (tE b h) W j = gJ (tE b h) W W.length := fun h => by rw [h]
  generalize hA : gJ (tE b h) W j = A at *
  conv => whnf
  repeat' first | ((first | refine Qz ?_ | refine Qy ?_) <;> conv => whnf) | (refine WB.tt ?_; conv => whnf) | (refine WB.ff ?_; conv => whnf)
  refine WB.dec (fun hd' => ?_) (fun hd' => ?_) <;> conv => whnf
  · have hlt : j < W.length := by omega
    have cA := cA j hlt
    have hsc := hsc0 hlt
    cases hp : tE b h (W.getD j 0) with
    | true =>
      rw [hp] at cA hsc
      rw [if_pos rfl] at hsc
      cases A with
      | nil =>
        repeat' first | ((first | refine Qz ?_ | refine Qf (cA) ?_ | refine Qy ?_) <;> conv => whnf) | (refine WB.tt ?_; conv => whnf) | (refine WB.ff ?_; conv => whnf)
        refine WSt.app_first (r := Bb (W.getD j 0)) (by rfl) (.inl rfl) (by rfl) (by rfl) (by rfl) (by rfl) ?_; conv => whnf
        repeat' first | ((first | refine Qz ?_ | refine Qy ?_) <;> conv => whnf) | (refine WB.tt ?_; conv => whnf) | (refine WB.ff ?_; conv => whnf)
        refine Again.to (j + 1) (by omega) ⟨by omega, trivial⟩ (by show (eQ (.o .h) (.o (.o .h)) (gJ (tE b h) W j)).nat ≤ (eQ (.o .h) (.o (.o .h)) (gJ (tE b h) W (j + 1))).nat; rw [hA, hsc]; exact (show 2 ≤ 4 by omega)) ?_
        show Shr _ (EY b W h (gJ (tE b h) W (j + 1)) (j + 1))
        rw [hsc]
        refine Shr.of ?_ ?_ rfl rfl
        · show Rel _ _ ((.n (.n (.n (.n (.n .e (some (.i .i64 ((j + 1 : Nat) : Int))) .e) none .e) none .e) (some (.i .i64 (h : Int))) (.n .e (some ((.sl (.i .h) 0 1 0 1))) (.n .e (some (.lst 1 (ints W))) .e))) none (.n .e (some (.pt .h 0 0)) (.n .e none (.n .e (some (.i .i64 (W.length : Int))) .e)))) : Ev.T D) _
          skip
          (repeat' first | exact Rel.e | refine Rel.some ?_ ?_ ?_ | refine Rel.none ?_ ?_ | refine Rel.ee ?_ ?_)
          all_goals show Fz _ _ _ _
          all_goals first | exact .pu trivial | exact .kpt (show _ < 4 by simp [Pos.nat]) | exact .ksl (show _ < 4 by simp [Pos.nat]) | exact .kmp (show _ < 4 by simp [Pos.nat]) | exact .pu (aB _)
        · show Rel _ _ ((.n .e (some (bN b)) (.n .e (some (.cells false ((Bb (W.getD j 0)).map fun d => Cell.o d 0) 1)) .e)) : Ev.T Ev.C) _
          skip
          (repeat' first | exact Rel.e | refine Rel.some ?_ ?_ ?_ | refine Rel.none ?_ ?_ | refine Rel.ee ?_ ?_)
          all_goals first
            | exact RO'.of (show _ < 4 by simp [Pos.nat]) (aE b)
            | (refine RO'.of (show _ < 4 by simp [Pos.nat]) (ShC.same fun c hc => ?_); obtain ⟨d, hd, rfl⟩ := List.mem_map.1 hc; exact .pu (aS.1 (zD _) d hd))
      | cons a s =>
        have hs5 : s.length + 1 ≤ 1000 := Nat.le_trans hAl (by omega)
        repeat' first | ((first | refine Qz ?_ | refine Qf (cA) ?_ | refine Qy ?_) <;> conv => whnf) | (refine WB.tt ?_; conv => whnf) | (refine WB.ff ?_; conv => whnf)
        refine WSt.app_one (id := (.i .h)) (ds := (aC Bb (a :: s)).flatten) (r := Bb (W.getD j 0)) (by rfl) (by rfl) (by rfl) (by rfl) (by rfl) (by rfl) (by rw [dC (z := 1) Gv]; rfl) (by rfl) (by rfl) (by omega) (by rfl) ?_; conv => whnf
        repeat' first | ((first | refine Qz ?_ | refine Qy ?_) <;> conv => whnf) | (refine WB.tt ?_; conv => whnf) | (refine WB.ff ?_; conv => whnf)
        refine Again.to (j + 1) (by omega) ⟨by omega, trivial⟩ (by show (eQ (.o .h) (.o (.o .h)) (gJ (tE b h) W j)).nat ≤ (eQ (.o .h) (.o (.o .h)) (gJ (tE b h) W (j + 1))).nat; rw [hA, hsc, List.cons_append]; exact (show 4 ≤ 4 by omega)) ?_
        show Shr _ (EY b W h (gJ (tE b h) W (j + 1)) (j + 1))
        rw [hsc, List.cons_append]
        refine Shr.of ?_ ?_ rfl rfl
        · show Rel _ _ ((.n (.n (.n (.n (.n .e (some (.i .i64 ((j + 1 : Nat) : Int))) .e) none .e) none .e) (some (.i .i64 (h : Int))) (.n .e (some ((tB (.i .h) 1 (a :: (s ++ [(W.getD j 0)]))))) (.n .e (some (.lst 1 (ints W))) .e))) none (.n .e (some (.pt .h 0 0)) (.n .e none (.n .e (some (.i .i64 (W.length : Int))) .e)))) : Ev.T D) _
          rw [dX]
          (repeat' first | exact Rel.e | refine Rel.some ?_ ?_ ?_ | refine Rel.none ?_ ?_ | refine Rel.ee ?_ ?_)
          all_goals show Fz _ _ _ _
          all_goals first | exact .pu trivial | exact .kpt (show _ < 4 by simp [Pos.nat]) | exact .ksl (show _ < 4 by simp [Pos.nat]) | exact .kmp (show _ < 4 by simp [Pos.nat]) | exact .pu (aB _)
        · show Rel _ _ ((.n .e (some (bN b)) (.n .e (tM Bb (a :: (s ++ [(W.getD j 0)]))) .e)) : Ev.T Ev.C) _
          rw [dZ]
          (repeat' first | exact Rel.e | refine Rel.some ?_ ?_ ?_ | refine Rel.none ?_ ?_ | refine Rel.ee ?_ ?_)
          all_goals first
            | exact RO'.of (show _ < 4 by simp [Pos.nat]) (aE b)
            | (refine RO'.of (show _ < 4 by simp [Pos.nat]) (ShC.grown (by omega) (aS.2 fun d hd => ?_)); rcases List.mem_append.1 hd with hd | hd <;> first | exact aS.1 (eJ zD _) d hd | exact aS.1 (zD _) d hd)
    | false =>
      rw [hp] at cA hsc
      rw [if_neg (by decide)] at hsc
      cases A with
      | nil =>
        repeat' first | ((first | refine Qz ?_ | refine Qf (cA) ?_ | refine Qy ?_) <;> conv => whnf) | (refine WB.tt ?_; conv => whnf) | (refine WB.ff ?_; conv => whnf)
        refine Again.to (j + 1) (by omega) ⟨by omega, trivial⟩ (by show (eQ (.o .h) (.o (.o .h)) (gJ (tE b h) W j)).nat ≤ (eQ (.o .h) (.o (.o .h)) (gJ (tE b h) W (j + 1))).nat; rw [hA, hsc]; exact (show 2 ≤ 2 by omega)) ?_
        show Shr _ (EY b W h (gJ (tE b h) W (j + 1)) (j + 1))
        rw [hsc]
        refine Shr.of ?_ ?_ rfl rfl
        · show Rel _ _ ((.n (.n (.n (.n (.n .e (some (.i .i64 ((j + 1 : Nat) : Int))) .e) none .e) none .e) (some (.i .i64 (h : Int))) (.n .e (some (.ns)) (.n .e (some (.lst 1 (ints W))) .e))) none (.n .e (some (.pt .h 0 0)) (.n .e none (.n .e (some (.i .i64 (W.length : Int))) .e)))) : Ev.T D) _
          skip
          (repeat' first | exact Rel.e | refine Rel.some ?_ ?_ ?_ | refine Rel.none ?_ ?_ | refine Rel.ee ?_ ?_)
          all_goals show Fz _ _ _ _
          all_goals first | exact .pu trivial | exact .kpt (show _ < 2 by simp [Pos.nat]) | exact .ksl (show _ < 2 by simp [Pos.nat]) | exact .kmp (show _ < 2 by simp [Pos.nat]) | exact .pu (aB _)
        · show Rel _ _ ((.n .e (some (bN b)) (.n .e none .e)) : Ev.T Ev.C) _
          skip
          (repeat' first | exact Rel.e | refine Rel.some ?_ ?_ ?_ | refine Rel.none ?_ ?_ | refine Rel.ee ?_ ?_)
          all_goals first
            | exact RO'.of (show _ < 2 by simp [Pos.nat]) (aE b)
      | cons a s =>
        repeat' first | ((first | refine Qz ?_ | refine Qf (cA) ?_ | refine Qy ?_) <;> conv => whnf) | (refine WB.tt ?_; conv => whnf) | (refine WB.ff ?_; conv => whnf)
        refine Again.to (j + 1) (by omega) ⟨by omega, trivial⟩ (by show (eQ (.o .h) (.o (.o .h)) (gJ (tE b h) W j)).nat ≤ (eQ (.o .h) (.o (.o .h)) (gJ (tE b h) W (j + 1))).nat; rw [hA, hsc]; exact (show 4 ≤ 4 by omega)) ?_
        show Shr _ (EY b W h (gJ (tE b h) W (j + 1)) (j + 1))
        rw [hsc]
        refine Shr.of ?_ ?_ rfl rfl
        · show Rel _ _ ((.n (.n (.n (.n (.n .e (some (.i .i64 ((j + 1 : Nat) : Int))) .e) none .e) none .e) (some (.i .i64 (h : Int))) (.n .e (some ((.sl (.i .h) 0 (s.length + 1) s.length 1))) (.n .e (some (.lst 1 (ints W))) .e))) none (.n .e (some (.pt .h 0 0)) (.n .e none (.n .e (some (.i .i64 (W.length : Int))) .e)))) : Ev.T D) _
          skip
          (repeat' first | exact Rel.e | refine Rel.some ?_ ?_ ?_ | refine Rel.none ?_ ?_ | refine Rel.ee ?_ ?_)
          all_goals show Fz _ _ _ _
          all_goals first | exact .pu trivial | exact .kpt (show _ < 4 by simp [Pos.nat]) | exact .ksl (show _ < 4 by simp [Pos.nat]) | exact .kmp (show _ < 4 by simp [Pos.nat]) | exact .pu (aB _)
        · show Rel _ _ ((.n .e (some (bN b)) (.n .e (some (.cells false ((aC Bb (a :: s)).flatten.map fun d => Cell.o d s.length) (s.length + 1))) .e)) : Ev.T Ev.C) _
          skip
          (repeat' first | exact Rel.e | refine Rel.some ?_ ?_ ?_ | refine Rel.none ?_ ?_ | refine Rel.ee ?_ ?_)
          all_goals first
            | exact RO'.of (show _ < 4 by simp [Pos.nat]) (aE b)
            | exact RO'.of (show _ < 4 by simp [Pos.nat]) (ShC.G zD a s)
  · have he := hend (by omega)
    rw [← he]
    repeat' first | ((first | refine Qz ?_ | refine Qy ?_) <;> conv => whnf) | (refine WB.tt ?_; conv => whnf) | (refine WB.ff ?_; conv => whnf)
    exact Fin.t (.inr rfl) rfl (Fz.G A (fun h => h) (fun c h => h) Gv zD)
end Go.Ev
end
