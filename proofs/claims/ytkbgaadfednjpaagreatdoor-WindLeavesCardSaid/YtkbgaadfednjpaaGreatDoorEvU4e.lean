import Derived.Test.YtkbgaadfednjpaaGreatDoorEvU4c
import Derived.Test.YtkbgaadfednjpaaGreatDoorEvUSq
set_option linter.all false
set_option maxHeartbeats 8000000
noncomputable section
namespace Go.Ev
open Go.Proofs
set_option maxRecDepth 100000
def gN (b : Bh) : C := .cells false ((eY b).map fun d => Cell.o d 0) 1
theorem dL {B : Pos → Prop} {ob : T C} (b : Bh) : ShC B ob (gN b) (gN b) := by
  refine ShC.same ?_
  have h := aM b
  unfold eY aN at h
  simp only [eY, List.map_cons, List.map_nil]
  (repeat' first | exact ShC.nl | refine ShC.cn ?_ ?_) <;> first | exact .pu trivial | exact .pu (aC _) | exact .pu (aG _) | exact .pu (aF _)
structure VW (b : Bh) : Prop where
  last : 0 ≤ b.last ∧ b.last ≤ 4
  rws : 1 ≤ b.rws ∧ b.rws ≤ 3
  pls : 1 ≤ b.pls ∧ b.pls ≤ 5
  rch : 0 ≤ b.rch ∧ b.rch ≤ 4
  facl : (b.face.length : Int) = b.rws
  face : b.face.all jD = true
  sunl : (b.sun.length : Int) = b.last + 1
  sun : b.sun.all uP = true
  winl : (b.winds.length : Int) = b.last + 1
  wins : b.winds.all kZ = true
  brk : b.brk.all (kS b) = true
  nts : b.nts.all (fJ b) = true
theorem VW.iff {b : Bh} : fW b = true ↔ VW b := by
  unfold fW DL
  simp only [Bool.and_eq_true, decide_eq_true_iff]
  constructor
  · rintro ⟨a1, a2, a3, a4, ⟨a5, a6⟩, a7, a8, a9, a10, a11, a12⟩
    exact ⟨bW a1, bW a2, bW a3, bW a4, a5, a6, a7, a8, a9, a10, a11, a12⟩
  · rintro ⟨a1, a2, a3, a4, a5, a6, a7, a8, a9, a10, a11, a12⟩
    exact ⟨decide_eq_true a1, decide_eq_true a2, decide_eq_true a3, decide_eq_true a4, ⟨a5, a6⟩, a7, a8, a9, a10, a11, a12⟩
theorem BO {b : Bh} (h : VW b → False) : fW b = false := by
  cases hv : fW b with
  | false => rfl
  | true => exact (h (VW.iff.1 hv)).elim
theorem iR {w : List Int} : kZ w = true ↔ yC w = true ∧ 0 < w.length ∧ w.all jD = true := by
  unfold kZ; simp only [Bool.and_eq_true, decide_eq_true_iff]
theorem uL {α : Type} {l : List α} {x : α} {d : α} (h : x ∈ l) : ∃ i, i < l.length ∧ l.getD i d = x := by
  obtain ⟨i, hi, e⟩ := List.mem_iff_getElem.1 h
  exact ⟨i, hi, by simp [List.getD, hi, e]⟩
theorem mZ {α : Type} {l : List α} {p : α → Bool} (h : l.all p = true) {j : Nat} {d : α} (hj : j < l.length) : p (l.getD j d) = true := List.all_eq_true.1 h _ (bA hj)
def Mp (_ : Bh) (j : Nat) : T D := (.n (.n (.n .e (some (.i .i64 (j : Int))) .e) (some (.pt .h 0 0)) .e) none .e)
def Mz (_ : Bh) (j i : Nat) : T D := (.n (.n (.n .e (some (.i .i64 (j : Int))) .e) (some (.pt .h 0 0)) .e) none (.n (.n .e (some (.i .i64 ((i : Int) + 1))) .e) none .e))
def Mu (_ : Bh) (j : Nat) : T D := (.n (.n .e (some (.pt .h 0 0)) (.n .e (some (.i .i64 (j : Int))) .e)) none .e)
def Mx (_ : Bh) (j : Nat) : T D := (.n (.n .e (some (.pt .h 0 0)) .e) none (.n .e none (.n .e (some (.i .i64 (j : Int))) .e)))
set_option maxHeartbeats 4000000 in
theorem AT (b : Bh) (l1 : b.face.length ≤ 1000) (l2 : b.sun.length ≤ 1000) (l3 : b.winds.length ≤ 1000) (l6 : ∀ w ∈ b.winds, w.length ≤ 1000) : PureF Tryz.prog p78.ix [.ag (eY b)] (.i .i64 (bD b)) := by
  have e1 := aL cX b.brk
  have e2 := aL cX b.nts
  have e3 := aI b.face
  have e4 := aI b.sun
  have e5 := aL iP b.winds
  refine PureF.run MO (by simp) (by simp [aN, Pu, aM]) ?_; conv => whnf
  by_cases hB : 4 < b.last ∨ 3 < b.rws ∨ 5 < b.pls ∨ 4 < b.brk.length ∨ 5 < b.nts.length
  · have hf : bD b = 3 := by unfold bD; rw [if_pos (gW.2 hB)]
    rw [hf]
    repeat' first | ((first | refine Qz ?_ | with_reducible refine WB.dec (fun h => ?_) (fun h => ?_) | with_reducible refine WB.ndec (fun h => ?_) (fun h => ?_) | refine WB.mk (fun h => ?_) (fun h => ?_)) <;> conv => whnf)
    all_goals first | exact Fin.i rfl rfl | (exfalso; omega)
  have f1 : fW b = false → bD b = 1 := fun h => by unfold bD; rw [if_neg fun h => hB (gW.1 h), if_neg (by rw [h]; decide)]
  have f0 : VW b → bD b = 0 := fun h => by unfold bD; rw [if_neg fun h => hB (gW.1 h), if_pos (VW.iff.2 h)]
  have c4 := BL b.rch 0 4
  have c5 := iG b.face 0 l1
  have c6 := iG b.sun (-1) l2
  by_cases k0 : b.last < 0
  · have hv := f1 (BO fun q => by have := q.last; have := q.rws; have := q.pls; omega)
    rw [hv]
    repeat' first | ((first | refine Qz ?_ | with_reducible (first | refine Qm ?_ | refine Qn ?_ | refine Qo ?_ | refine Qp ?_ | refine WB.nt ?_ | refine WB.nf ?_ | refine WB.dec (fun h => ?_) (fun h => ?_) | refine WB.ndec (fun h => ?_) (fun h => ?_)) | refine WB.mk (fun h => ?_) (fun h => ?_)) <;> conv => whnf) | (refine WB.tt ?_; conv => whnf) | (refine WB.ff ?_; conv => whnf)
    exact Fin.i rfl rfl
  by_cases k1 : b.rws < 1
  · have hv := f1 (BO fun q => by have := q.last; have := q.rws; have := q.pls; omega)
    rw [hv]
    repeat' first | ((first | refine Qz ?_ | with_reducible (first | refine Qm ?_ | refine Qn ?_ | refine Qo ?_ | refine Qp ?_ | refine WB.nt ?_ | refine WB.nf ?_ | refine WB.dec (fun h => ?_) (fun h => ?_) | refine WB.ndec (fun h => ?_) (fun h => ?_)) | refine WB.mk (fun h => ?_) (fun h => ?_)) <;> conv => whnf) | (refine WB.tt ?_; conv => whnf) | (refine WB.ff ?_; conv => whnf)
    exact Fin.i rfl rfl
  by_cases k2 : b.pls < 1
  · have hv := f1 (BO fun q => by have := q.last; have := q.rws; have := q.pls; omega)
    rw [hv]
    repeat' first | ((first | refine Qz ?_ | with_reducible (first | refine Qm ?_ | refine Qn ?_ | refine Qo ?_ | refine Qp ?_ | refine WB.nt ?_ | refine WB.nf ?_ | refine WB.dec (fun h => ?_) (fun h => ?_) | refine WB.ndec (fun h => ?_) (fun h => ?_)) | refine WB.mk (fun h => ?_) (fun h => ?_)) <;> conv => whnf) | (refine WB.tt ?_; conv => whnf) | (refine WB.ff ?_; conv => whnf)
    exact Fin.i rfl rfl
  cases k3 : jA b.rch 0 4 with
  | false =>
    have hv := f1 (BO fun q => by have := q.rch; unfold jA at k3; have := of_decide_eq_false k3; omega)
    rw [hv]; rw [k3] at c4
    repeat' first | ((first | refine Qz ?_ | refine Qf (c4) ?_ | with_reducible (first | refine Qm ?_ | refine Qn ?_ | refine Qo ?_ | refine Qp ?_ | refine WB.nt ?_ | refine WB.nf ?_ | refine WB.dec (fun h => ?_) (fun h => ?_) | refine WB.ndec (fun h => ?_) (fun h => ?_)) | refine WB.mk (fun h => ?_) (fun h => ?_)) <;> conv => whnf) | (refine WB.tt ?_; conv => whnf) | (refine WB.ff ?_; conv => whnf)
    exact Fin.i rfl rfl
  | true =>
  rw [k3] at c4
  by_cases k4 : (b.face.length : Int) = b.rws
  rotate_left
  · have hv := f1 (BO fun q => k4 q.facl)
    rw [hv]
    have k' : ¬ ((ints b.face).length : Int) = b.rws := by omega
    repeat' first | ((first | refine Qz ?_ | refine Qf (c4) ?_ | with_reducible (first | refine Qm ?_ | refine Qn ?_ | refine Qo ?_ | refine Qp ?_ | refine WB.nt ?_ | refine WB.nf ?_ | refine WB.dec (fun h => ?_) (fun h => ?_) | refine WB.ndec (fun h => ?_) (fun h => ?_)) | refine WB.mk (fun h => ?_) (fun h => ?_)) <;> conv => whnf) | (refine WB.tt ?_; conv => whnf) | (refine WB.ff ?_; conv => whnf)
    exact Fin.i rfl rfl
  by_cases k5 : (b.sun.length : Int) = b.last + 1
  rotate_left
  · have hv := f1 (BO fun q => k5 q.sunl)
    rw [hv]
    have k' : ¬ ((ints b.sun).length : Int) = b.last + 1 := by omega
    repeat' first | ((first | refine Qz ?_ | refine Qf (c4) ?_ | with_reducible (first | refine Qm ?_ | refine Qn ?_ | refine Qo ?_ | refine Qp ?_ | refine WB.nt ?_ | refine WB.nf ?_ | refine WB.dec (fun h => ?_) (fun h => ?_) | refine WB.ndec (fun h => ?_) (fun h => ?_)) | refine WB.mk (fun h => ?_) (fun h => ?_)) <;> conv => whnf) | (refine WB.tt ?_; conv => whnf) | (refine WB.ff ?_; conv => whnf)
    exact Fin.i rfl rfl
  by_cases k6 : (b.winds.length : Int) = b.last + 1
  rotate_left
  · have hv := f1 (BO fun q => k6 q.winl)
    rw [hv]
    have k' : ¬ ((aO iP b.winds).length : Int) = b.last + 1 := by omega
    repeat' first | ((first | refine Qz ?_ | refine Qf (c4) ?_ | with_reducible (first | refine Qm ?_ | refine Qn ?_ | refine Qo ?_ | refine Qp ?_ | refine WB.nt ?_ | refine WB.nf ?_ | refine WB.dec (fun h => ?_) (fun h => ?_) | refine WB.ndec (fun h => ?_) (fun h => ?_)) | refine WB.mk (fun h => ?_) (fun h => ?_)) <;> conv => whnf) | (refine WB.tt ?_; conv => whnf) | (refine WB.ff ?_; conv => whnf)
    exact Fin.i rfl rfl
  cases k7 : b.face.all (fun n => jA n 0 3) with
  | false =>
    have hv := f1 (BO fun q => by have h := q.face; rw [show b.face.all jD = false from k7] at h; cases h)
    rw [hv]; rw [k7] at c5
    repeat' first | ((first | refine Qz ?_ | refine Qf (c4) ?_ | refine Qf (c5) ?_ | with_reducible (first | refine Qm ?_ | refine Qn ?_ | refine Qo ?_ | refine Qp ?_ | refine WB.nt ?_ | refine WB.nf ?_ | refine WB.dec (fun h => ?_) (fun h => ?_) | refine WB.ndec (fun h => ?_) (fun h => ?_)) | refine WB.mk (fun h => ?_) (fun h => ?_)) <;> conv => whnf) | (refine WB.tt ?_; conv => whnf) | (refine WB.ff ?_; conv => whnf)
    exact Fin.i rfl rfl
  | true =>
  rw [k7] at c5
  cases k8 : b.sun.all (fun n => jA n (-1) 3) with
  | false =>
    have hv := f1 (BO fun q => by have h := q.sun; rw [show b.sun.all uP = false from k8] at h; cases h)
    rw [hv]; rw [k8] at c6
    repeat' first | ((first | refine Qz ?_ | refine Qf (c4) ?_ | refine Qf (c5) ?_ | refine Qf (c6) ?_ | with_reducible (first | refine Qm ?_ | refine Qn ?_ | refine Qo ?_ | refine Qp ?_ | refine WB.nt ?_ | refine WB.nf ?_ | refine WB.dec (fun h => ?_) (fun h => ?_) | refine WB.ndec (fun h => ?_) (fun h => ?_)) | refine WB.mk (fun h => ?_) (fun h => ?_)) <;> conv => whnf) | (refine WB.tt ?_; conv => whnf) | (refine WB.ff ?_; conv => whnf)
    exact Fin.i rfl rfl
  | true =>
  rw [k8] at c6
  repeat' first | ((first | refine Qz ?_ | refine Qf (c4) ?_ | refine Qf (c5) ?_ | refine Qf (c6) ?_ | with_reducible (first | refine Qm ?_ | refine Qn ?_ | refine Qo ?_ | refine Qp ?_ | refine WB.nt ?_ | refine WB.nf ?_ | refine WB.dec (fun h => ?_) (fun h => ?_) | refine WB.ndec (fun h => ?_) (fun h => ?_)) | refine WB.mk (fun h => ?_) (fun h => ?_)) <;> conv => whnf) | (refine WB.tt ?_; conv => whnf) | (refine WB.ff ?_; conv => whnf)
  refine Rn.loop (fun j : Nat => ⟨Mp b j, .n .e (some (gN b)) .e, .o .h, none⟩) (fun j => j ≤ b.winds.length ∧ ∀ h, h < j → kZ (b.winds.getD h default) = true) (fun j => b.winds.length - j) 0 ?_ ⟨by omega, fun h hh => by omega⟩ ?_
  · refine X.le.mk ?_ ?_ (Nat.le_refl _) rfl rfl
    all_goals (first | unfold Mp | skip)
    all_goals (repeat' first | exact T.le_e _ | exact T.le_refl _ | refine T.le_some ?_ rfl ?_ | refine T.le_none ?_ ?_ | refine T.le_ee ?_ ?_)
  rintro j ⟨hj, ha⟩
  conv => whnf
  repeat' first | ((first | refine Qz ?_ | refine Qy ?_) <;> conv => whnf) | (refine WB.tt ?_; conv => whnf) | (refine WB.ff ?_; conv => whnf)
  refine WB.dec (fun h => ?_) (fun h => ?_) <;> conv => whnf
  · have hlt : j < b.winds.length := by omega
    have hm := bA (d := (default : List Int)) hlt
    have lw := l6 _ hm
    have cD := iG (b.winds.getD j default) 0 lw
    have ew := aI (b.winds.getD j default)
    have bad : kZ (b.winds.getD j default) = false → bD b = 1 := fun h => f1 (BO fun q => by
      have := mZ (d := default) q.wins hlt
      rw [h] at this; cases this)
    by_cases m1 : (b.winds.getD j default).length = 0
    · rw [bad (by cases hc : kZ (b.winds.getD j default) with
        | false => rfl
        | true => exact absurd (iR.1 hc).2.1 (by omega))]
      repeat' first | ((first | refine Qz ?_ | refine Qy ?_) <;> conv => whnf) | (refine WB.tt ?_; conv => whnf) | (refine WB.ff ?_; conv => whnf)
      exact Fin.i rfl rfl
    cases m2 : (b.winds.getD j default).all (fun n => jA n 0 3) with
    | false =>
      rw [bad (by cases hc : kZ (b.winds.getD j default) with
        | false => rfl
        | true => have := (iR.1 hc).2.2; rw [show (b.winds.getD j default).all jD = false from m2] at this; cases this)]
      rw [m2] at cD
      repeat' first | ((first | refine Qz ?_ | refine Qf (cD) ?_ | refine Qy ?_) <;> conv => whnf) | (refine WB.tt ?_; conv => whnf) | (refine WB.ff ?_; conv => whnf)
      exact Fin.i rfl rfl
    | true =>
    rw [m2] at cD
    repeat' first | ((first | refine Qz ?_ | refine Qf (cD) ?_ | refine Qy ?_) <;> conv => whnf) | (refine WB.tt ?_; conv => whnf) | (refine WB.ff ?_; conv => whnf)
    refine Rn.loop (fun i : Nat => ⟨Mz b j i, .n .e (some (gN b)) .e, .o .h, none⟩) (fun i => i ≤ (b.winds.getD j default).length ∧ ∀ h, 1 ≤ h → h < i + 1 → h < (b.winds.getD j default).length → (b.winds.getD j default).getD (h - 1) 0 < (b.winds.getD j default).getD h 0) (fun i => (b.winds.getD j default).length - i) 0 ?_ ⟨by omega, fun h h1 h2 => by omega⟩ ?_
    · refine X.le.mk ?_ ?_ (Nat.le_refl _) rfl rfl
      all_goals (first | unfold Mz | skip)
      all_goals (repeat' first | exact T.le_e _ | exact T.le_refl _ | refine T.le_some ?_ rfl ?_ | refine T.le_none ?_ ?_ | refine T.le_ee ?_ ?_)
    rintro i ⟨hi, hb⟩
    conv => whnf
    repeat' first | ((first | refine Qz ?_ | refine Qy ?_) <;> conv => whnf) | (refine WB.tt ?_; conv => whnf) | (refine WB.ff ?_; conv => whnf)
    refine WB.dec (fun h3 => ?_) (fun h3 => ?_) <;> conv => whnf
    · have hlt2 : i + 1 < (b.winds.getD j default).length := by omega
      repeat' first | ((first | refine Qz ?_ | refine Qy ?_) <;> conv => whnf) | (refine WB.tt ?_; conv => whnf) | (refine WB.ff ?_; conv => whnf)
      refine WIx.intsE (j := i) (by omega) (by omega) ?_; conv => whnf
      repeat' first | ((first | refine Qz ?_ | refine Qy ?_) <;> conv => whnf) | (refine WB.tt ?_; conv => whnf) | (refine WB.ff ?_; conv => whnf)
      refine WB.dec (fun h4 => ?_) (fun h4 => ?_) <;> conv => whnf
      · rw [bad (by cases hc : kZ (b.winds.getD j default) with
        | false => rfl
        | true =>
          have h5 := lY.1 (iR.1 hc).1 (i + 1) hlt2 (by omega)
          exact absurd h4 (Int.not_le.2 h5))]
        repeat' first | ((first | refine Qz ?_ | refine Qy ?_) <;> conv => whnf) | (refine WB.tt ?_; conv => whnf) | (refine WB.ff ?_; conv => whnf)
        exact Fin.i rfl rfl
      · repeat' first | ((first | refine Qz ?_ | refine Qy ?_) <;> conv => whnf) | (refine WB.tt ?_; conv => whnf) | (refine WB.ff ?_; conv => whnf)
        refine Again.to (i + 1) (by omega) ⟨by omega, fun h h1 h5 h6 => ?_⟩ (Nat.le_refl _) ?_
        · by_cases e : h = i + 1
          · subst e; exact Int.not_le.1 h4
          · exact hb h h1 (by omega) h6
        · refine Shr.of ?_ ?_ rfl rfl
          · show Rel _ _ (Mz b j (i + 1)) _
            unfold Mz
            (repeat' first | exact Rel.e | refine Rel.some ?_ ?_ ?_ | refine Rel.none ?_ ?_ | refine Rel.ee ?_ ?_)
            all_goals show Fz _ _ _ _
            all_goals first | exact .pu trivial | exact .kpt (show _ < 2 by simp [Pos.nat])
          · show Rel _ _ (.n .e (some (gN b)) .e : T C) _
            (repeat' first | exact Rel.e | refine Rel.some ?_ ?_ ?_ | refine Rel.none ?_ ?_ | refine Rel.ee ?_ ?_)
            all_goals exact RO'.of (show _ < 2 by simp [Pos.nat]) (dL b)
    · repeat' first | ((first | refine Qz ?_ | refine Qy ?_) <;> conv => whnf) | (refine WB.tt ?_; conv => whnf) | (refine WB.ff ?_; conv => whnf)
      refine Again.to (j + 1) (by omega) ⟨by omega, fun h h1 => ?_⟩ (Nat.le_refl _) ?_
      · by_cases e : h = j
        · subst e
          exact iR.2 ⟨lY.2 fun q hq h7 => hb q h7 (by omega) hq, by omega, m2⟩
        · exact ha h (by omega)
      · refine Shr.of ?_ ?_ rfl rfl
        · show Rel _ _ (Mp b (j + 1)) _
          unfold Mp
          (repeat' first | exact Rel.e | refine Rel.some ?_ ?_ ?_ | refine Rel.none ?_ ?_ | refine Rel.ee ?_ ?_)
          all_goals show Fz _ _ _ _
          all_goals first | exact .pu trivial | exact .kpt (show _ < 2 by simp [Pos.nat])
        · show Rel _ _ (.n .e (some (gN b)) .e : T C) _
          (repeat' first | exact Rel.e | refine Rel.some ?_ ?_ ?_ | refine Rel.none ?_ ?_ | refine Rel.ee ?_ ?_)
          all_goals exact RO'.of (show _ < 2 by simp [Pos.nat]) (dL b)
  have hw : b.winds.all kZ = true := List.all_eq_true.2 fun w hw => by
    obtain ⟨i, hi, e⟩ := uL (d := (default : List Int)) hw
    rw [← e]; exact ha i (by omega)
  repeat' first | ((first | refine Qz ?_ | refine Qy ?_) <;> conv => whnf) | (refine WB.tt ?_; conv => whnf) | (refine WB.ff ?_; conv => whnf)
  refine Rn.loop (fun j : Nat => ⟨Mu b j, .n .e (some (gN b)) .e, .o .h, none⟩) (fun j => j ≤ b.brk.length ∧ (b.brk.take j).all (kS b) = true) (fun j => b.brk.length - j) 0 ?_ ⟨by omega, by simp⟩ ?_
  · refine X.le.mk ?_ ?_ (Nat.le_refl _) rfl rfl
    all_goals (first | unfold Mu | skip)
    all_goals (repeat' first | exact T.le_e _ | exact T.le_refl _ | refine T.le_some ?_ rfl ?_ | refine T.le_none ?_ ?_ | refine T.le_ee ?_ ?_)
  rintro j ⟨hj, hs⟩
  conv => whnf
  repeat' first | ((first | refine Qz ?_ | refine Qy ?_) <;> conv => whnf) | (refine WB.tt ?_; conv => whnf) | (refine WB.ff ?_; conv => whnf)
  refine WB.dec (fun h => ?_) (fun h => ?_) <;> conv => whnf
  · have hlt : j < b.brk.length := by omega
    have cS := CS b (b.brk.getD j default) ⟨by omega, by omega⟩ ⟨by omega, by omega⟩
    cases m1 : kS b (b.brk.getD j default) with
    | false =>
      rw [f1 (BO fun q => by
        have := mZ (d := default) q.brk hlt
        rw [m1] at this; cases this)]
      rw [m1] at cS
      repeat' first | ((first | refine Qz ?_ | refine Qf (cS) ?_ | refine Qy ?_) <;> conv => whnf) | (refine WB.tt ?_; conv => whnf) | (refine WB.ff ?_; conv => whnf)
      exact Fin.i rfl rfl
    | true =>
      rw [m1] at cS
      repeat' first | ((first | refine Qz ?_ | refine Qf (cS) ?_ | refine Qy ?_) <;> conv => whnf) | (refine WB.tt ?_; conv => whnf) | (refine WB.ff ?_; conv => whnf)
      refine Again.to (j + 1) (by omega) ⟨by omega, bP (d := default) hlt hs m1⟩ (Nat.le_refl _) ?_
      refine Shr.of ?_ ?_ rfl rfl
      · show Rel _ _ (Mu b (j + 1)) _
        unfold Mu
        (repeat' first | exact Rel.e | refine Rel.some ?_ ?_ ?_ | refine Rel.none ?_ ?_ | refine Rel.ee ?_ ?_)
        all_goals show Fz _ _ _ _
        all_goals first | exact .pu trivial | exact .kpt (show _ < 2 by simp [Pos.nat])
      · show Rel _ _ (.n .e (some (gN b)) .e : T C) _
        (repeat' first | exact Rel.e | refine Rel.some ?_ ?_ ?_ | refine Rel.none ?_ ?_ | refine Rel.ee ?_ ?_)
        all_goals exact RO'.of (show _ < 2 by simp [Pos.nat]) (dL b)
  have hs := gC (by omega) hs
  repeat' first | ((first | refine Qz ?_ | refine Qy ?_) <;> conv => whnf) | (refine WB.tt ?_; conv => whnf) | (refine WB.ff ?_; conv => whnf)
  refine Rn.loop (fun j : Nat => ⟨Mx b j, .n .e (some (gN b)) .e, .o .h, none⟩) (fun j => j ≤ b.nts.length ∧ (b.nts.take j).all (fJ b) = true) (fun j => b.nts.length - j) 0 ?_ ⟨by omega, by simp⟩ ?_
  · refine X.le.mk ?_ ?_ (Nat.le_refl _) rfl rfl
    all_goals (first | unfold Mx | skip)
    all_goals (repeat' first | exact T.le_e _ | exact T.le_refl _ | refine T.le_some ?_ rfl ?_ | refine T.le_none ?_ ?_ | refine T.le_ee ?_ ?_)
  rintro j ⟨hj, ht⟩
  conv => whnf
  repeat' first | ((first | refine Qz ?_ | refine Qy ?_) <;> conv => whnf) | (refine WB.tt ?_; conv => whnf) | (refine WB.ff ?_; conv => whnf)
  refine WB.dec (fun h => ?_) (fun h => ?_) <;> conv => whnf
  · have hlt : j < b.nts.length := by omega
    have cA := BL (b.nts.getD j default).1 0 b.last
    have cB := BL (b.nts.getD j default).2 0 3
    have bad : fJ b (b.nts.getD j default) = false → bD b = 1 := fun h => f1 (BO fun q => by
      have := mZ (d := default) q.nts hlt
      rw [h] at this; cases this)
    cases m1 : jA (b.nts.getD j default).1 0 b.last with
    | false =>
      rw [bad (by unfold fJ; rw [m1]; rfl)]
      rw [m1] at cA
      repeat' first | ((first | refine Qz ?_ | refine Qf (cA) ?_ | refine Qy ?_) <;> conv => whnf) | (refine WB.tt ?_; conv => whnf) | (refine WB.ff ?_; conv => whnf)
      exact Fin.i rfl rfl
    | true =>
    rw [m1] at cA
    cases m2 : jA (b.nts.getD j default).2 0 3 with
    | false =>
      rw [bad (by unfold fJ; rw [m1, show jD (b.nts.getD j default).2 = false from m2]; rfl)]
      rw [m2] at cB
      repeat' first | ((first | refine Qz ?_ | refine Qf (cA) ?_ | refine Qf (cB) ?_ | refine Qy ?_) <;> conv => whnf) | (refine WB.tt ?_; conv => whnf) | (refine WB.ff ?_; conv => whnf)
      exact Fin.i rfl rfl
    | true =>
      rw [m2] at cB
      repeat' first | ((first | refine Qz ?_ | refine Qf (cA) ?_ | refine Qf (cB) ?_ | refine Qy ?_) <;> conv => whnf) | (refine WB.tt ?_; conv => whnf) | (refine WB.ff ?_; conv => whnf)
      refine Again.to (j + 1) (by omega) ⟨by omega, bP (d := default) hlt ht (by unfold fJ; rw [m1, show jD (b.nts.getD j default).2 = true from m2]; rfl)⟩ (Nat.le_refl _) ?_
      refine Shr.of ?_ ?_ rfl rfl
      · show Rel _ _ (Mx b (j + 1)) _
        unfold Mx
        (repeat' first | exact Rel.e | refine Rel.some ?_ ?_ ?_ | refine Rel.none ?_ ?_ | refine Rel.ee ?_ ?_)
        all_goals show Fz _ _ _ _
        all_goals first | exact .pu trivial | exact .kpt (show _ < 2 by simp [Pos.nat])
      · show Rel _ _ (.n .e (some (gN b)) .e : T C) _
        (repeat' first | exact Rel.e | refine Rel.some ?_ ?_ ?_ | refine Rel.none ?_ ?_ | refine Rel.ee ?_ ?_)
        all_goals exact RO'.of (show _ < 2 by simp [Pos.nat]) (dL b)
  have ht := gC (by omega) ht
  have q3 := bW k3
  rw [f0 ⟨⟨by omega, by omega⟩, ⟨by omega, by omega⟩, ⟨by omega, by omega⟩, q3, k4, k7, k5, k8, k6, hw, hs, ht⟩]
  repeat' first | ((first | refine Qz ?_ | refine Qy ?_) <;> conv => whnf) | (refine WB.tt ?_; conv => whnf) | (refine WB.ff ?_; conv => whnf)
  exact Fin.i rfl rfl
def Hg (l : List Int) (n : Int) : Bool := l.any fun x => decide (x = n)
def wP (L : List (List Int)) : Bool := decide (L.length ≤ 7) && L.all fun w => decide (w.length ≤ 5)
theorem FT (L : List (List Int)) : PureF Tryz.prog p21.ix [.lst 1 (aO iP L)] (.b (wP L)) := by
  have e1 := aL iP L
  refine PureF.run Oq (by simp) (by simp [aN, cG, Pu, aG]) ?_; conv => whnf
  repeat' first | ((first | refine Qz ?_) <;> conv => whnf)
  refine Rn.loop (fun j : Nat => ⟨(.n (.n (.n .e (some (.i .i64 (j : Int))) .e) none .e) (some (.lst 1 (aO iP L))) .e), .e, .h, none⟩) (fun j => j ≤ L.length ∧ j ≤ 8 ∧ (L.take j).all (fun w => decide (w.length ≤ 5)) = true) (fun j => L.length - j) 0 ?_ ?_ ?_
  · (first | (refine X.le.mk ?_ ?_ (Nat.le_refl _) rfl rfl) | skip) <;> (repeat' first | exact T.le_e _ | refine T.le_some ?_ ?_ ?_ | refine T.le_none ?_ ?_ | rfl)
  · exact ⟨by omega, by omega, by simp⟩
  rintro j ⟨hj, h8, ha⟩
  conv => whnf
  repeat' first | ((first | refine Qz ?_) <;> conv => whnf)
  refine WB.dec (fun h => ?_) (fun h => ?_) <;> conv => whnf
  · have hlt : j < L.length := by omega
    repeat' first | ((first | refine Qz ?_ | refine Qy ?_) <;> conv => whnf) | (refine WB.tt ?_; conv => whnf) | (refine WB.ff ?_; conv => whnf)
    refine WB.dec (fun h3 => ?_) (fun h3 => ?_) <;> conv => whnf
    · have ew := aI (L.getD j default)
      repeat' first | ((first | refine Qz ?_ | refine Qy ?_) <;> conv => whnf) | (refine WB.tt ?_; conv => whnf) | (refine WB.ff ?_; conv => whnf)
      refine WB.dec (fun h2 => ?_) (fun h2 => ?_) <;> conv => whnf
      · repeat' first | ((first | refine Qz ?_) <;> conv => whnf)
        exact Fin.b rfl (by unfold wP; rw [fS (d := (default : List Int)) hlt (decide_eq_false (by omega)), Bool.and_false])
      · repeat' first | ((first | refine Qz ?_) <;> conv => whnf)
        refine Again.to (j + 1) (by omega) ⟨by omega, by omega, bP (d := (default : List Int)) hlt ha (decide_eq_true (by omega))⟩ (Nat.le_refl _) ?_
        (refine Shr.of ?_ ?_ rfl rfl) <;> (repeat' first | exact Rel.e | refine Rel.some ?_ ?_ ?_ | refine Rel.none ?_ ?_) <;> (try first | (show Fz _ _ _ _; first | exact Fz.pu trivial | (refine Fz.i ?_; first | rfl | omega) | (refine Fz.kpt ?_; (focus (show Pos.nat _ < Pos.nat _; simp [Pos.nat]; done))) | (refine Fz.ksl ?_; (focus (show Pos.nat _ < Pos.nat _; simp [Pos.nat]; done))) | (refine Fz.kmp ?_; (focus (show Pos.nat _ < Pos.nat _; simp [Pos.nat]; done))) | (refine Fz.pu ?_; simp [Cell.d, Pu, aN, cG, aC, aF, aG]; done) | (refine Fz.pu ?_; simp only [Cell.d]; assumption)) | (refine RO'.of ?_ (ShC.same ?_); (focus (show Pos.nat _ < Pos.nat _; simp [Pos.nat]; done)); (repeat' first | exact ShC.nl | refine ShC.cn ?_ ?_) <;> first | exact Fz.pu trivial | (refine Fz.i ?_; first | rfl | omega) | (refine Fz.kpt ?_; (focus (show Pos.nat _ < Pos.nat _; simp [Pos.nat]; done))) | (refine Fz.ksl ?_; (focus (show Pos.nat _ < Pos.nat _; simp [Pos.nat]; done))) | (refine Fz.kmp ?_; (focus (show Pos.nat _ < Pos.nat _; simp [Pos.nat]; done))) | (refine Fz.pu ?_; simp [Cell.d, Pu, aN, cG, aC, aF, aG]; done) | (refine Fz.pu ?_; simp only [Cell.d]; assumption)))
        all_goals (refine Fz.pu ?_; simp [Pu, aG])
    · have h7 : ¬ L.length ≤ 7 := by omega
      repeat' first | ((first | refine Qz ?_ | with_reducible (first | refine Qm ?_ | refine Qn ?_ | refine Qo ?_ | refine Qp ?_ | refine WB.nt ?_ | refine WB.nf ?_ | refine WB.dec (fun h => ?_) (fun h => ?_) | refine WB.ndec (fun h => ?_) (fun h => ?_)) | refine WB.mk (fun h => ?_) (fun h => ?_)) <;> conv => whnf) | (refine WB.tt ?_; conv => whnf) | (refine WB.ff ?_; conv => whnf)
      exact Fin.b rfl (by unfold wP; rw [decide_eq_false h7]; exact decide_eq_false (by omega))
  · have hB := gC (by omega) ha
    unfold wP
    rw [hB, Bool.and_true]
    by_cases k1 : L.length ≤ 7
    · rw [decide_eq_true k1]
      repeat' first | ((first | refine Qz ?_ | with_reducible (first | refine Qm ?_ | refine Qn ?_ | refine Qo ?_ | refine Qp ?_ | refine WB.nt ?_ | refine WB.nf ?_ | refine WB.dec (fun h => ?_) (fun h => ?_) | refine WB.ndec (fun h => ?_) (fun h => ?_)) | refine WB.mk (fun h => ?_) (fun h => ?_)) <;> conv => whnf) | (refine WB.tt ?_; conv => whnf) | (refine WB.ff ?_; conv => whnf)
      exact Fin.b rfl (by first | rfl | (refine decide_eq_true ?_; omega))
    · rw [decide_eq_false k1]
      repeat' first | ((first | refine Qz ?_ | with_reducible (first | refine Qm ?_ | refine Qn ?_ | refine Qo ?_ | refine Qp ?_ | refine WB.nt ?_ | refine WB.nf ?_ | refine WB.dec (fun h => ?_) (fun h => ?_) | refine WB.ndec (fun h => ?_) (fun h => ?_)) | refine WB.mk (fun h => ?_) (fun h => ?_)) <;> conv => whnf) | (refine WB.tt ?_; conv => whnf) | (refine WB.ff ?_; conv => whnf)
      exact Fin.b rfl (by first | rfl | (refine decide_eq_false ?_; omega))
def gA (L : List (List Int)) : Nat → Int
  | 0 => 1
  | j + 1 => gA L j * ((L.getD j default).length : Int)
def Fh : Nat → Int
  | 0 => 1
  | n + 1 => Fh n * 5
theorem uG {L : List (List Int)} (h : ∀ w ∈ L, w.length ≤ 5) : ∀ j, j ≤ L.length → 0 ≤ gA L j ∧ gA L j ≤ Fh j
  | 0, _ => by show (0 : Int) ≤ 1 ∧ (1 : Int) ≤ 1; omega
  | j + 1, hj => by
    obtain ⟨a, b⟩ := uG h j (by omega)
    have hw := h _ (bA (d := (default : List Int)) (show j < L.length by omega))
    have hn : (0 : Int) ≤ ((L.getD j default).length : Int) := by omega
    show 0 ≤ gA L j * _ ∧ gA L j * _ ≤ Fh j * 5
    exact ⟨Int.mul_nonneg a hn, Int.le_trans (Int.mul_le_mul_of_nonneg_right b hn) (Int.mul_le_mul_of_nonneg_left (by omega) (by omega))⟩
theorem HM : ∀ j, j ≤ 7 → Fh j ≤ 78125 := by
  intro j hj
  have : j = 0 ∨ j = 1 ∨ j = 2 ∨ j = 3 ∨ j = 4 ∨ j = 5 ∨ j = 6 ∨ j = 7 := by omega
  rcases this with rfl | rfl | rfl | rfl | rfl | rfl | rfl | rfl <;> decide
theorem Cn (b : Bh) (h7 : b.winds.length ≤ 7) (h5 : ∀ w ∈ b.winds, w.length ≤ 5) : PureF Tryz.prog p49.ix [.ag (eY b)] (.i .i64 (gA b.winds b.winds.length)) := by
  have e1 := aL iP b.winds
  refine PureF.run Nh (by simp) (by simp [aN, Pu, aM]) ?_; conv => whnf
  repeat' first | ((first | refine Qz ?_) <;> conv => whnf)
  refine Rn.loop (fun j : Nat => ⟨(.n (.n (.n .e (some (.i .i64 (gA b.winds j))) .e) (some (.pt .h 0 0)) .e) none (.n (.n .e (some (.i .i64 (j : Int))) .e) none .e)), .n .e (some (gN b)) .e, .o .h, none⟩) (fun j => j ≤ b.winds.length) (fun j => b.winds.length - j) 0 ?_ (Nat.zero_le _) ?_
  · refine X.le.mk ?_ ?_ (Nat.le_refl _) rfl rfl
    all_goals (repeat' first | exact T.le_e _ | exact T.le_refl _ | refine T.le_some ?_ rfl ?_ | refine T.le_none ?_ ?_ | refine T.le_ee ?_ ?_)
  intro j hj
  have hj : j ≤ b.winds.length := hj
  conv => whnf
  repeat' first | ((first | refine Qz ?_ | refine Qy ?_) <;> conv => whnf) | (refine WB.tt ?_; conv => whnf) | (refine WB.ff ?_; conv => whnf)
  refine WB.dec (fun h => ?_) (fun h => ?_) <;> conv => whnf
  · have hlt : j < b.winds.length := by omega
    have ew := aI (b.winds.getD j default)
    have e2 : gA b.winds (j + 1) = gA b.winds j * ((ints (b.winds.getD j default)).length : Int) := by rw [ew]; rfl
    have hb := uG h5 (j + 1) (by omega)
    have hp := HM (j + 1) (by omega)
    rw [e2] at hb
    repeat' first | ((first | refine Qz ?_ | refine Qy ?_) <;> conv => whnf) | (refine WB.tt ?_; conv => whnf) | (refine WB.ff ?_; conv => whnf)
    rw [← e2]
    refine Again.to (j + 1) (by omega) (show j + 1 ≤ b.winds.length by omega) (Nat.le_refl _) ?_
    refine Shr.of ?_ ?_ rfl rfl
    · show Rel _ _ ((.n (.n (.n .e (some (.i .i64 (gA b.winds (j + 1)))) .e) (some (.pt .h 0 0)) .e) none (.n (.n .e (some (.i .i64 ((j + 1 : Nat) : Int))) .e) none .e)) : T D) _
      (repeat' first | exact Rel.e | refine Rel.some ?_ ?_ ?_ | refine Rel.none ?_ ?_ | refine Rel.ee ?_ ?_)
      all_goals show Fz _ _ _ _
      all_goals first | exact .pu trivial | exact .kpt (show _ < 2 by simp [Pos.nat])
    · show Rel _ _ (.n .e (some (gN b)) .e : T C) _
      (repeat' first | exact Rel.e | refine Rel.some ?_ ?_ ?_ | refine Rel.none ?_ ?_ | refine Rel.ee ?_ ?_)
      all_goals exact RO'.of (show _ < 2 by simp [Pos.nat]) (dL b)
  · obtain rfl : j = b.winds.length := by omega
    repeat' first | ((first | refine Qz ?_ | refine Qy ?_) <;> conv => whnf) | (refine WB.tt ?_; conv => whnf) | (refine WB.ff ?_; conv => whnf)
    exact Fin.i rfl rfl
def qG (b : Bh) : Bool := decide (b.face.length ≤ 5) && (decide (b.sun.length ≤ 7) && (wP b.winds && (decide (b.brk.length ≤ 6) && (decide (b.nts.length ≤ 7) && (decide (bD b ≠ 0) || decide (gA b.winds b.winds.length ≤ 80))))))
theorem uC {L : List (List Int)} (h : wP L = true) : L.length ≤ 7 ∧ ∀ w ∈ L, w.length ≤ 5 := by
  unfold wP at h
  simp only [Bool.and_eq_true, decide_eq_true_iff, List.all_eq_true] at h
  exact h
theorem In (b : Bh) : PureF Tryz.prog p20.ix [.ag (eY b)] (.b (qG b)) := by
  have e1 := aL cX b.brk
  have e2 := aL cX b.nts
  have e3 := aI b.face
  have e4 := aI b.sun
  have cB := FT b.winds
  refine PureF.run MJ (by simp) (by simp [aN, Pu, aM]) ?_; conv => whnf
  unfold qG
  by_cases k0 : b.face.length ≤ 5
  rotate_left
  · rw [decide_eq_false k0]
    repeat' first | ((first | refine Qz ?_ | with_reducible (first | refine Qm ?_ | refine Qn ?_ | refine Qo ?_ | refine Qp ?_ | refine WB.nt ?_ | refine WB.nf ?_ | refine WB.dec (fun h => ?_) (fun h => ?_) | refine WB.ndec (fun h => ?_) (fun h => ?_)) | refine WB.mk (fun h => ?_) (fun h => ?_)) <;> conv => whnf) | (refine WB.tt ?_; conv => whnf) | (refine WB.ff ?_; conv => whnf)
    exact Fin.b rfl rfl
  rw [decide_eq_true k0]
  by_cases k1 : b.sun.length ≤ 7
  rotate_left
  · rw [decide_eq_false k1]
    repeat' first | ((first | refine Qz ?_ | with_reducible (first | refine Qm ?_ | refine Qn ?_ | refine Qo ?_ | refine Qp ?_ | refine WB.nt ?_ | refine WB.nf ?_ | refine WB.dec (fun h => ?_) (fun h => ?_) | refine WB.ndec (fun h => ?_) (fun h => ?_)) | refine WB.mk (fun h => ?_) (fun h => ?_)) <;> conv => whnf) | (refine WB.tt ?_; conv => whnf) | (refine WB.ff ?_; conv => whnf)
    exact Fin.b rfl rfl
  rw [decide_eq_true k1]
  cases k2 : wP b.winds with
  | false =>
    rw [k2] at cB
    repeat' first | ((first | refine Qz ?_ | refine Qf (cB) ?_ | with_reducible (first | refine Qm ?_ | refine Qn ?_ | refine Qo ?_ | refine Qp ?_ | refine WB.nt ?_ | refine WB.nf ?_ | refine WB.dec (fun h => ?_) (fun h => ?_) | refine WB.ndec (fun h => ?_) (fun h => ?_)) | refine WB.mk (fun h => ?_) (fun h => ?_)) <;> conv => whnf) | (refine WB.tt ?_; conv => whnf) | (refine WB.ff ?_; conv => whnf)
    exact Fin.b rfl rfl
  | true =>
  rw [k2] at cB
  by_cases k3 : b.brk.length ≤ 6
  rotate_left
  · rw [decide_eq_false k3]
    repeat' first | ((first | refine Qz ?_ | refine Qf (cB) ?_ | with_reducible (first | refine Qm ?_ | refine Qn ?_ | refine Qo ?_ | refine Qp ?_ | refine WB.nt ?_ | refine WB.nf ?_ | refine WB.dec (fun h => ?_) (fun h => ?_) | refine WB.ndec (fun h => ?_) (fun h => ?_)) | refine WB.mk (fun h => ?_) (fun h => ?_)) <;> conv => whnf) | (refine WB.tt ?_; conv => whnf) | (refine WB.ff ?_; conv => whnf)
    exact Fin.b rfl rfl
  rw [decide_eq_true k3]
  by_cases k4 : b.nts.length ≤ 7
  rotate_left
  · rw [decide_eq_false k4]
    repeat' first | ((first | refine Qz ?_ | refine Qf (cB) ?_ | with_reducible (first | refine Qm ?_ | refine Qn ?_ | refine Qo ?_ | refine Qp ?_ | refine WB.nt ?_ | refine WB.nf ?_ | refine WB.dec (fun h => ?_) (fun h => ?_) | refine WB.ndec (fun h => ?_) (fun h => ?_)) | refine WB.mk (fun h => ?_) (fun h => ?_)) <;> conv => whnf) | (refine WB.tt ?_; conv => whnf) | (refine WB.ff ?_; conv => whnf)
    exact Fin.b rfl rfl
  rw [decide_eq_true k4]
  obtain ⟨q1, q2⟩ := uC k2
  have cF := AT b (by omega) (by omega) (by omega) (fun w hw => by have := q2 w hw; omega)
  have cM := Cn b q1 q2
  generalize bD b = f at *
  generalize gA b.winds b.winds.length = m at *
  by_cases k5 : f ≠ 0
  · rw [decide_eq_true k5]
    repeat' first | ((first | refine Qz ?_ | refine Qf (cB) ?_ | refine Qf (cF) ?_ | with_reducible (first | refine Qm ?_ | refine Qn ?_ | refine Qo ?_ | refine Qp ?_ | refine WB.nt ?_ | refine WB.nf ?_ | refine WB.dec (fun h => ?_) (fun h => ?_) | refine WB.ndec (fun h => ?_) (fun h => ?_)) | refine WB.mk (fun h => ?_) (fun h => ?_)) <;> conv => whnf) | (refine WB.tt ?_; conv => whnf) | (refine WB.ff ?_; conv => whnf)
    exact Fin.b rfl rfl
  rw [decide_eq_false k5, Bool.false_or]
  have k5 : f = 0 := by omega
  subst k5
  by_cases k6 : m ≤ 80
  · rw [decide_eq_true k6]
    repeat' first | ((first | refine Qz ?_ | refine Qf (cB) ?_ | refine Qf (cF) ?_ | refine Qf (cM) ?_ | with_reducible (first | refine Qm ?_ | refine Qn ?_ | refine Qo ?_ | refine Qp ?_ | refine WB.nt ?_ | refine WB.nf ?_ | refine WB.dec (fun h => ?_) (fun h => ?_) | refine WB.ndec (fun h => ?_) (fun h => ?_)) | refine WB.mk (fun h => ?_) (fun h => ?_)) <;> conv => whnf) | (refine WB.tt ?_; conv => whnf) | (refine WB.ff ?_; conv => whnf)
    exact Fin.b rfl (by first | rfl | exact decide_eq_true k6)
  · rw [decide_eq_false k6]
    repeat' first | ((first | refine Qz ?_ | refine Qf (cB) ?_ | refine Qf (cF) ?_ | refine Qf (cM) ?_ | with_reducible (first | refine Qm ?_ | refine Qn ?_ | refine Qo ?_ | refine Qp ?_ | refine WB.nt ?_ | refine WB.nf ?_ | refine WB.dec (fun h => ?_) (fun h => ?_) | refine WB.ndec (fun h => ?_) (fun h => ?_)) | refine WB.mk (fun h => ?_) (fun h => ?_)) <;> conv => whnf) | (refine WB.tt ?_; conv => whnf) | (refine WB.ff ?_; conv => whnf)
    exact Fin.b rfl (by first | rfl | exact decide_eq_false k6)
theorem Gm {n : Int} (h : -9223372036854775808 ≤ n ∧ n ≤ 9223372036854775807) : AU .i64 n = true := by
  obtain ⟨h1, h2⟩ := h
  cases n with
  | ofNat m =>
    have h2 : (m : Int) ≤ 9223372036854775807 := h2
    exact Nat.ble_eq_true_of_le (by simp only [fF]; omega)
  | negSucc m =>
    have h1 : -9223372036854775808 ≤ Int.negSucc m := h1
    show (IntKind.signed .i64 && Nat.ble m (fF .i64)) = true
    rw [show IntKind.signed .i64 = true from rfl, Bool.true_and]
    exact Nat.ble_eq_true_of_le (by simp only [fF]; omega)
def vI (n : Int) : List D := [.i .i64 n]
theorem Bj (a : Int) : (vI a).length = 1 := rfl
theorem oO (a : Int) : aN (vI a) := by simp [vI, aN, Pu]
theorem Bo (a : Int × Int) : (cX a).length = 2 := rfl
theorem gB (a : Int × Int) : aN (cX a) := by simp [cX, aN, Pu]
def i64 (n : Int) : Prop := -9223372036854775808 ≤ n ∧ n ≤ 9223372036854775807
theorem Cg (h f : Int) (n : Int × Int) (h1 : i64 h) (h2 : i64 f) (h3 : i64 n.1) (h4 : i64 n.2) : PureF Tryz.prog p152.ix [.ag (cX (h, f)), .ag (cX n)] (.b (EV h f n)) := by
  refine PureF.run Jk (by simp) (by simp [aN, Pu, cX]) ?_; conv => whnf
  unfold EV
  by_cases k : h = n.1
  · repeat' first | ((first | refine Qz ?_ | with_reducible (first | refine Qm ?_ | refine Qn ?_ | refine Qo ?_ | refine Qp ?_ | refine WB.nt ?_ | refine WB.nf ?_ | refine WB.dec (fun h => ?_) (fun h => ?_) | refine WB.ndec (fun h => ?_) (fun h => ?_)) | refine WB.mk (fun h => ?_) (fun h => ?_)) <;> conv => whnf) | (refine WB.tt ?_; conv => whnf) | (refine WB.ff ?_; conv => whnf)
    refine WSt.eqr2 (a := h) (b := f) (a' := n.1) (b' := n.2) rfl rfl (Gm h1) (Gm h2) (Gm h3) (Gm h4) ?_; conv => whnf
    by_cases k2 : f = n.2
    · rw [show decide (h = n.1 ∧ f = n.2) = true from decide_eq_true ⟨k, k2⟩]
      repeat' first | ((first | refine Qz ?_ | with_reducible (first | refine Qm ?_ | refine Qn ?_ | refine Qo ?_ | refine Qp ?_ | refine WB.nt ?_ | refine WB.nf ?_ | refine WB.dec (fun h => ?_) (fun h => ?_) | refine WB.ndec (fun h => ?_) (fun h => ?_)) | refine WB.mk (fun h => ?_) (fun h => ?_)) <;> conv => whnf) | (refine WB.tt ?_; conv => whnf) | (refine WB.ff ?_; conv => whnf)
      exact Fin.b rfl (decide_eq_true (.inr k2.symm)).symm
    · rw [show decide (h = n.1 ∧ f = n.2) = false from decide_eq_false fun q => k2 q.2]
      repeat' first | ((first | refine Qz ?_ | with_reducible (first | refine Qm ?_ | refine Qn ?_ | refine Qo ?_ | refine Qp ?_ | refine WB.nt ?_ | refine WB.nf ?_ | refine WB.dec (fun h => ?_) (fun h => ?_) | refine WB.ndec (fun h => ?_) (fun h => ?_)) | refine WB.mk (fun h => ?_) (fun h => ?_)) <;> conv => whnf) | (refine WB.tt ?_; conv => whnf) | (refine WB.ff ?_; conv => whnf)
      exact Fin.b rfl (decide_eq_false (by intro q; rcases q with q | q <;> omega)).symm
  · repeat' first | ((first | refine Qz ?_ | with_reducible (first | refine Qm ?_ | refine Qn ?_ | refine Qo ?_ | refine Qp ?_ | refine WB.nt ?_ | refine WB.nf ?_ | refine WB.dec (fun h => ?_) (fun h => ?_) | refine WB.ndec (fun h => ?_) (fun h => ?_)) | refine WB.mk (fun h => ?_) (fun h => ?_)) <;> conv => whnf) | (refine WB.tt ?_; conv => whnf) | (refine WB.ff ?_; conv => whnf)
    exact Fin.b rfl (decide_eq_true (.inl fun e => k e.symm)).symm
def sH (b : Bh) (h : Nat) (f : Int) : Bool := b.nts.all (EV (h : Int) f)
def fB (p : Int → Bool) (W : List Int) (j : Nat) : List Int := (W.take j).filter p
theorem BJ (p : Int → Bool) (W : List Int) (j : Nat) (hj : j < W.length) : fB p W (j + 1) = if p (W.getD j 0) = true then fB p W j ++ [W.getD j 0] else fB p W j := by
  unfold fB
  rw [rS (d := 0) hj, List.filter_append]
  cases h : p (W.getD j 0) with
  | true => rw [if_pos rfl]; simp only [List.filter_cons, h, List.filter_nil, if_true]
  | false => rw [if_neg (by decide), List.filter_cons_of_neg (by rw [h]; decide), List.filter_nil, List.append_nil]
theorem Et (p : Int → Bool) (W : List Int) (j : Nat) : (fB p W j).length ≤ j := by
  unfold fB
  have := List.length_filter_le p (W.take j)
  rw [List.length_take] at this
  omega
theorem EJ (p : Int → Bool) (W : List Int) : fB p W W.length = W.filter p := by unfold fB; rw [List.take_length]
def DO (b : Bh) (W : List Int) (h : Nat) (A : List Int) (j : Nat) : X := ⟨(.n (.n (.n (.n (.n .e (some (.i .i64 (j : Int))) .e) none .e) none .e) (some (.i .i64 (h : Int))) (.n .e (some (BS (.i .h) 1 A)) (.n .e (some (.lst 1 (ints W))) .e))) none (.n .e (some (.pt .h 0 0)) (.n .e none (.n .e (some (.i .i64 (W.length : Int))) .e)))), (.n .e (some (gN b)) (.n .e (Ez vI A) .e)), kE (.o .h) (.o (.o .h)) A, none⟩
theorem lZ {b : Bh} (hb : 0 ≤ b.last ∧ b.last ≤ 4) {n : Int × Int} (h : fJ b n = true) : (0 ≤ n.1 ∧ n.1 ≤ 4) ∧ (0 ≤ n.2 ∧ n.2 ≤ 3) := by
  unfold fJ at h
  rw [Bool.and_eq_true] at h
  have := bW h.1; have := bW h.2
  omega
theorem VW.dir {b : Bh} (V : VW b) {h : Nat} (hh : h < b.winds.length) {f : Int} (hf : f ∈ b.winds.getD h default) : 0 ≤ f ∧ f ≤ 3 := by
  have := (iR.1 (mZ (d := default) V.wins hh)).2.2
  exact bW (List.all_eq_true.1 this f hf)
set_option maxHeartbeats 2000000 in
theorem FZ (b : Bh) (V : VW b) (h : Nat) (hh : h < b.winds.length) (l1 : (b.winds.getD h default).length ≤ 1000) (l2 : b.nts.length ≤ 1000) : PureF Tryz.prog p134.ix [.ag (eY b), .i .i64 (h : Int)] (.lst 1 (ints (oA b h))) := by
  have e1 := aL iP b.winds
  have hw4 := V.last
  have hwl := V.winl
  obtain ⟨W, hW⟩ : ∃ W, W = b.winds.getD h default := ⟨_, rfl⟩
  have hres : oA b h = fB (sH b h) W W.length := by rw [EJ, hW]; rfl
  have hdir := fun f hf => V.dir hh (f := f) hf
  rw [hres]
  rw [← hW] at l1 hdir
  have e2 := aI W
  have cA : ∀ j, j < W.length → PureF Tryz.prog p129.ix [.lst 2 (aO cX b.nts), .fn p152 [.ag [.i .i64 (h : Int), .i .i64 (W.getD j 0)]] []] (.b (sH b h (W.getD j 0))) := fun j hj => by
    have hd := hdir _ (bA (d := 0) hj)
    exact Cl b.nts p152 [.ag (cX ((h : Int), W.getD j 0))] [] (EV (h : Int) (W.getD j 0)) (by simp [aN, Pu, cX]) trivial l2 (fun n hn => by
      have hn := lZ hw4 (List.all_eq_true.1 V.nts n hn)
      exact Cg _ _ n ⟨by omega, by omega⟩ ⟨by omega, by omega⟩ ⟨by omega, by omega⟩ ⟨by omega, by omega⟩)
  refine PureF.run Li (by simp) (by simp [aN, Pu, aM]) ?_; conv => whnf
  repeat' first | ((first | refine Qz ?_ | refine Qy ?_) <;> conv => whnf) | (refine WB.tt ?_; conv => whnf) | (refine WB.ff ?_; conv => whnf)
  rw [← hW]
  refine Rn.loop (fun j : Nat => DO b W h (fB (sH b h) W j) j) (fun j => j ≤ W.length ∧ True) (fun j => W.length - j) 0 ?_ ?_ ?_
  · refine X.le.mk ?_ ?_ (Nat.le_refl _) rfl rfl
    · show T.le ((.n (.n (.n (.n (.n .e (some (.i .i64 0)) .e) none .e) none .e) (some (.i .i64 (h : Int))) (.n .e (some (.ns)) (.n .e (some (.lst 1 (ints W))) .e))) none (.n .e (some (.pt .h 0 0)) (.n .e none (.n .e (some (.i .i64 (W.length : Int))) .e)))) : Ev.T D) _
      rw [← e2]
      (repeat' first | exact T.le_e _ | refine T.le_some ?_ rfl ?_ | refine T.le_none ?_ ?_ | refine T.le_ee ?_ ?_)
    · show T.le ((.n .e (some (gN b)) (.n .e none .e)) : Ev.T Ev.C) _
      (repeat' first | exact T.le_e _ | refine T.le_some ?_ rfl ?_ | refine T.le_none ?_ ?_ | refine T.le_ee ?_ ?_)
  · exact ⟨Nat.zero_le _, trivial⟩
  rintro j ⟨hj, _⟩
  have hsc0 := BJ (sH b h) W j
  have hAl := Et (sH b h) W j
  have hend : j = W.length → fB (sH b h) W j = fB (sH b h) W W.length := fun h => by rw [h]
  generalize hA : fB (sH b h) W j = A at *
  conv => whnf
  repeat' first | ((first | refine Qz ?_ | refine Qy ?_) <;> conv => whnf) | (refine WB.tt ?_; conv => whnf) | (refine WB.ff ?_; conv => whnf)
  refine WB.dec (fun hd' => ?_) (fun hd' => ?_) <;> conv => whnf
  · have hlt : j < W.length := by omega
    have cA := cA j hlt
    have hsc := hsc0 hlt
    cases hp : sH b h (W.getD j 0) with
    | true =>
      rw [hp] at cA hsc
      rw [if_pos rfl] at hsc
      cases A with
      | nil =>
        repeat' first | ((first | refine Qz ?_ | refine Qf (cA) ?_ | refine Qy ?_) <;> conv => whnf) | (refine WB.tt ?_; conv => whnf) | (refine WB.ff ?_; conv => whnf)
        refine WSt.app_first (r := vI (W.getD j 0)) (by rfl) (.inl rfl) (by rfl) (by rfl) (by rfl) (by rfl) ?_; conv => whnf
        repeat' first | ((first | refine Qz ?_ | refine Qy ?_) <;> conv => whnf) | (refine WB.tt ?_; conv => whnf) | (refine WB.ff ?_; conv => whnf)
        refine Again.to (j + 1) (by omega) ⟨by omega, trivial⟩ (by show (kE (.o .h) (.o (.o .h)) (fB (sH b h) W j)).nat ≤ (kE (.o .h) (.o (.o .h)) (fB (sH b h) W (j + 1))).nat; rw [hA, hsc]; exact (show 2 ≤ 4 by omega)) ?_
        show Shr _ (DO b W h (fB (sH b h) W (j + 1)) (j + 1))
        rw [hsc]
        refine Shr.of ?_ ?_ rfl rfl
        · show Rel _ _ ((.n (.n (.n (.n (.n .e (some (.i .i64 ((j + 1 : Nat) : Int))) .e) none .e) none .e) (some (.i .i64 (h : Int))) (.n .e (some ((.sl (.i .h) 0 1 0 1))) (.n .e (some (.lst 1 (ints W))) .e))) none (.n .e (some (.pt .h 0 0)) (.n .e none (.n .e (some (.i .i64 (W.length : Int))) .e)))) : Ev.T D) _
          skip
          (repeat' first | exact Rel.e | refine Rel.some ?_ ?_ ?_ | refine Rel.none ?_ ?_ | refine Rel.ee ?_ ?_)
          all_goals show Fz _ _ _ _
          all_goals first | exact .pu trivial | exact .kpt (show _ < 4 by simp [Pos.nat]) | exact .ksl (show _ < 4 by simp [Pos.nat]) | exact .kmp (show _ < 4 by simp [Pos.nat]) | exact .pu (aC _)
        · show Rel _ _ ((.n .e (some (gN b)) (.n .e (some (.cells false ((vI (W.getD j 0)).map fun d => Cell.o d 0) 1)) .e)) : Ev.T Ev.C) _
          skip
          (repeat' first | exact Rel.e | refine Rel.some ?_ ?_ ?_ | refine Rel.none ?_ ?_ | refine Rel.ee ?_ ?_)
          all_goals first
            | exact RO'.of (show _ < 4 by simp [Pos.nat]) (dL b)
            | (refine RO'.of (show _ < 4 by simp [Pos.nat]) (ShC.same fun c hc => ?_); obtain ⟨d, hd, rfl⟩ := List.mem_map.1 hc; exact .pu (aS.1 (oO _) d hd))
      | cons a s =>
        have hs5 : s.length + 1 ≤ 1000 := Nat.le_trans hAl (by omega)
        repeat' first | ((first | refine Qz ?_ | refine Qf (cA) ?_ | refine Qy ?_) <;> conv => whnf) | (refine WB.tt ?_; conv => whnf) | (refine WB.ff ?_; conv => whnf)
        refine WSt.app_one (id := (.i .h)) (ds := (aO vI (a :: s)).flatten) (r := vI (W.getD j 0)) (by rfl) (by rfl) (by rfl) (by rfl) (by rfl) (by rfl) (by rw [eI (z := 1) Bj]; rfl) (by rfl) (by rfl) (by omega) (by rfl) ?_; conv => whnf
        repeat' first | ((first | refine Qz ?_ | refine Qy ?_) <;> conv => whnf) | (refine WB.tt ?_; conv => whnf) | (refine WB.ff ?_; conv => whnf)
        refine Again.to (j + 1) (by omega) ⟨by omega, trivial⟩ (by show (kE (.o .h) (.o (.o .h)) (fB (sH b h) W j)).nat ≤ (kE (.o .h) (.o (.o .h)) (fB (sH b h) W (j + 1))).nat; rw [hA, hsc, List.cons_append]; exact (show 4 ≤ 4 by omega)) ?_
        show Shr _ (DO b W h (fB (sH b h) W (j + 1)) (j + 1))
        rw [hsc, List.cons_append]
        refine Shr.of ?_ ?_ rfl rfl
        · show Rel _ _ ((.n (.n (.n (.n (.n .e (some (.i .i64 ((j + 1 : Nat) : Int))) .e) none .e) none .e) (some (.i .i64 (h : Int))) (.n .e (some ((BS (.i .h) 1 (a :: (s ++ [(W.getD j 0)]))))) (.n .e (some (.lst 1 (ints W))) .e))) none (.n .e (some (.pt .h 0 0)) (.n .e none (.n .e (some (.i .i64 (W.length : Int))) .e)))) : Ev.T D) _
          rw [gV]
          (repeat' first | exact Rel.e | refine Rel.some ?_ ?_ ?_ | refine Rel.none ?_ ?_ | refine Rel.ee ?_ ?_)
          all_goals show Fz _ _ _ _
          all_goals first | exact .pu trivial | exact .kpt (show _ < 4 by simp [Pos.nat]) | exact .ksl (show _ < 4 by simp [Pos.nat]) | exact .kmp (show _ < 4 by simp [Pos.nat]) | exact .pu (aC _)
        · show Rel _ _ ((.n .e (some (gN b)) (.n .e (Ez vI (a :: (s ++ [(W.getD j 0)]))) .e)) : Ev.T Ev.C) _
          rw [hH]
          (repeat' first | exact Rel.e | refine Rel.some ?_ ?_ ?_ | refine Rel.none ?_ ?_ | refine Rel.ee ?_ ?_)
          all_goals first
            | exact RO'.of (show _ < 4 by simp [Pos.nat]) (dL b)
            | (refine RO'.of (show _ < 4 by simp [Pos.nat]) (ShC.grown (by omega) (aS.2 fun d hd => ?_)); rcases List.mem_append.1 hd with hd | hd <;> first | exact aS.1 (hY oO _) d hd | exact aS.1 (oO _) d hd)
    | false =>
      rw [hp] at cA hsc
      rw [if_neg (by decide)] at hsc
      cases A with
      | nil =>
        repeat' first | ((first | refine Qz ?_ | refine Qf (cA) ?_ | refine Qy ?_) <;> conv => whnf) | (refine WB.tt ?_; conv => whnf) | (refine WB.ff ?_; conv => whnf)
        refine Again.to (j + 1) (by omega) ⟨by omega, trivial⟩ (by show (kE (.o .h) (.o (.o .h)) (fB (sH b h) W j)).nat ≤ (kE (.o .h) (.o (.o .h)) (fB (sH b h) W (j + 1))).nat; rw [hA, hsc]; exact (show 2 ≤ 2 by omega)) ?_
        show Shr _ (DO b W h (fB (sH b h) W (j + 1)) (j + 1))
        rw [hsc]
        refine Shr.of ?_ ?_ rfl rfl
        · show Rel _ _ ((.n (.n (.n (.n (.n .e (some (.i .i64 ((j + 1 : Nat) : Int))) .e) none .e) none .e) (some (.i .i64 (h : Int))) (.n .e (some (.ns)) (.n .e (some (.lst 1 (ints W))) .e))) none (.n .e (some (.pt .h 0 0)) (.n .e none (.n .e (some (.i .i64 (W.length : Int))) .e)))) : Ev.T D) _
          skip
          (repeat' first | exact Rel.e | refine Rel.some ?_ ?_ ?_ | refine Rel.none ?_ ?_ | refine Rel.ee ?_ ?_)
          all_goals show Fz _ _ _ _
          all_goals first | exact .pu trivial | exact .kpt (show _ < 2 by simp [Pos.nat]) | exact .ksl (show _ < 2 by simp [Pos.nat]) | exact .kmp (show _ < 2 by simp [Pos.nat]) | exact .pu (aC _)
        · show Rel _ _ ((.n .e (some (gN b)) (.n .e none .e)) : Ev.T Ev.C) _
          skip
          (repeat' first | exact Rel.e | refine Rel.some ?_ ?_ ?_ | refine Rel.none ?_ ?_ | refine Rel.ee ?_ ?_)
          all_goals first
            | exact RO'.of (show _ < 2 by simp [Pos.nat]) (dL b)
      | cons a s =>
        repeat' first | ((first | refine Qz ?_ | refine Qf (cA) ?_ | refine Qy ?_) <;> conv => whnf) | (refine WB.tt ?_; conv => whnf) | (refine WB.ff ?_; conv => whnf)
        refine Again.to (j + 1) (by omega) ⟨by omega, trivial⟩ (by show (kE (.o .h) (.o (.o .h)) (fB (sH b h) W j)).nat ≤ (kE (.o .h) (.o (.o .h)) (fB (sH b h) W (j + 1))).nat; rw [hA, hsc]; exact (show 4 ≤ 4 by omega)) ?_
        show Shr _ (DO b W h (fB (sH b h) W (j + 1)) (j + 1))
        rw [hsc]
        refine Shr.of ?_ ?_ rfl rfl
        · show Rel _ _ ((.n (.n (.n (.n (.n .e (some (.i .i64 ((j + 1 : Nat) : Int))) .e) none .e) none .e) (some (.i .i64 (h : Int))) (.n .e (some ((.sl (.i .h) 0 (s.length + 1) s.length 1))) (.n .e (some (.lst 1 (ints W))) .e))) none (.n .e (some (.pt .h 0 0)) (.n .e none (.n .e (some (.i .i64 (W.length : Int))) .e)))) : Ev.T D) _
          skip
          (repeat' first | exact Rel.e | refine Rel.some ?_ ?_ ?_ | refine Rel.none ?_ ?_ | refine Rel.ee ?_ ?_)
          all_goals show Fz _ _ _ _
          all_goals first | exact .pu trivial | exact .kpt (show _ < 4 by simp [Pos.nat]) | exact .ksl (show _ < 4 by simp [Pos.nat]) | exact .kmp (show _ < 4 by simp [Pos.nat]) | exact .pu (aC _)
        · show Rel _ _ ((.n .e (some (gN b)) (.n .e (some (.cells false ((aO vI (a :: s)).flatten.map fun d => Cell.o d s.length) (s.length + 1))) .e)) : Ev.T Ev.C) _
          skip
          (repeat' first | exact Rel.e | refine Rel.some ?_ ?_ ?_ | refine Rel.none ?_ ?_ | refine Rel.ee ?_ ?_)
          all_goals first
            | exact RO'.of (show _ < 4 by simp [Pos.nat]) (dL b)
            | exact RO'.of (show _ < 4 by simp [Pos.nat]) (ShC.G oO a s)
  · have he := hend (by omega)
    rw [← he]
    repeat' first | ((first | refine Qz ?_ | refine Qy ?_) <;> conv => whnf) | (refine WB.tt ?_; conv => whnf) | (refine WB.ff ?_; conv => whnf)
    exact Fin.t (.inr rfl) rfl (Fz.G A (fun h => h) (fun c h => h) Bj oO)
open Go.RowKit (Below Grown)
def Cv (γ γ' : Gh) (w : World) (d d' : D) : Prop := ∀ v, DV γ w d v -> DV γ' w d' v
def CvL (γ γ' : Gh) (w : World) (ds ds' : List D) : Prop := ∀ vs, DVL γ w ds vs -> DVL γ' w ds' vs
section
variable {γ γ' : Gh} {w : World}
theorem CvL.nil : CvL γ γ' w [] [] := fun vs h => by unfold DVL at h ⊢; exact h
theorem CvL.cons {d d' : D} {ds ds' : List D} (h : Cv γ γ' w d d') (k : CvL γ γ' w ds ds') : CvL γ γ' w (d :: ds) (d' :: ds') := fun vs H => by
 unfold DVL at H ⊢
 obtain ⟨v, r, h1, h2, h3⟩ := H
 exact ⟨v, r, h1, h v h2, k r h3⟩
theorem CvL.app {a a' b b' : List D} (h : CvL γ γ' w a a') (hl : a.length = a'.length) (k : CvL γ γ' w b b') : CvL γ γ' w (a ++ b) (a' ++ b') := fun vs H => by
 obtain ⟨l1, e1⟩ := aK.1 H
 have hv : vs = vs.take a.length ++ vs.drop a.length := (List.take_append_drop _ _).symm
 have t1 := H.take a.length
 have t2 := H.drop a.length
 rw [List.take_left'] at t1 <;> try rfl
 rw [List.drop_left'] at t2 <;> try rfl
 rw [hv]
 exact DVL.append (h _ t1) (k _ t2)
theorem Cv.pu (him : ∀ b, γ.im b -> γ'.im b) {d : D} (h : Pu d) : Cv γ γ' w d d := fun v H => DV.pu him d v h H
theorem CvL.pu (him : ∀ b, γ.im b -> γ'.im b) {ds : List D} (h : aN ds) : CvL γ γ' w ds ds := fun v H => DVL.pu him ds v h H
theorem Cv.any {d : D} : Cv γ γ' w d .any := fun v _ => by unfold DV; trivial
theorem Cv.ag {ds ds' : List D} (h : CvL γ γ' w ds ds') : Cv γ γ' w (.ag ds) (.ag ds') := fun v H => by
 unfold DV at H ⊢
 obtain ⟨vs, h1, h2, h3⟩ := H
 exact ⟨vs, h1, h _ h2, h3⟩
theorem Cv.tp {ds ds' : List D} (h : CvL γ γ' w ds ds') : Cv γ γ' w (.tp ds) (.tp ds') := fun v H => by
 unfold DV at H ⊢
 obtain ⟨vs, h1, h2⟩ := H
 exact ⟨vs, h1, h _ h2⟩
theorem Cv.fn {f : Pos} {x x' y y' : List D} (h : CvL γ γ' w x x') (k : CvL γ γ' w y y') : Cv γ γ' w (.fn f x y) (.fn f x' y') := fun v H => by
 unfold DV at H ⊢
 obtain ⟨vx, vy, h1, h2, h3⟩ := H
 exact ⟨vx, vy, h1, h _ h2, k _ h3⟩
end
theorem CallOk.sub {P : Program} {f : Nat} {ds ds' : List D} {ob ob' : T C} {nx nx' : Pos} {lg lg' : Option (T Bool)} {v : D} (h : CallOk P f ds' ob nx lg v ob' nx' lg') (k : ∀ γ w, CvL γ γ w ds ds') : CallOk P f ds ob nx lg v ob' nx' lg' :=
 ⟨h.hl, h.hx, h.hk, fun so hs γ args w gh ha ho hn => h.ok so hs γ args w gh (k γ w _ ha) ho hn⟩
theorem PureF.sub {P : Program} {f : Nat} {ds ds' : List D} {v : D} (h : PureF P f ds' v) (k : ∀ γ w, CvL γ γ w ds ds') : PureF P f ds v := fun ob nx lg => (h ob nx lg).sub k
def MM (id : Pos) (γ γ' : Gh) : Gh := uH (pJ id) γ γ'
theorem Cv.mpO {γ γ' : Gh} {w : World} {id : Pos} : Cv γ' (MM id γ γ') w (.mp .h) (.mp id) := fun u h => by
 unfold DV at h ⊢
 show 0 < (uH (pJ id) γ γ').cur id /\ u = .map (some ((uH (pJ id) γ γ').β id 0).1)
 rw [dX (kK id), gM (kK id)]
 exact h
theorem WCall.of {P : Program} {f : Nat} {ds : List D} {d : Option Pos} {sl : T D} {ob ob2 : T C} {nx nx2 : Pos} {lg lg2 : Option (T Bool)} {K : X -> Prop} {v : D} (h : CallOk P f ds ob nx lg v ob2 nx2 lg2) (k : nL sl ob2 nx2 lg2 d K v) : WCall P f ds d ⟨sl, ob, nx, lg⟩ K := by
 cases d with
 | none => exact ⟨v, _, _, _, _, h, rfl, k⟩
 | some d =>
   obtain ⟨h1, h2⟩ := aT k
   exact ⟨v, _, _, _, _, h, h1, h2⟩
mutual
theorem Kp.up {n m : Nat} (h : n <= m) : ∀ d : D, Kp n d -> Kp m d
 | .pt _ _ _, k => by unfold Kp at k ⊢; omega
 | .yl _, k => by unfold Kp at k ⊢; omega
 | .sl _ _ _ _ _, k => by unfold Kp at k ⊢; omega
 | .mp _, k => by unfold Kp at k ⊢; omega
 | .fn _ x y, k => by unfold Kp at k ⊢; exact ⟨KpL.up h x k.1, KpL.up h y k.2⟩
 | .ag cs, k => by unfold Kp at k ⊢; exact KpL.up h cs k
 | .tp cs, k => by unfold Kp at k ⊢; exact KpL.up h cs k
 | .any, k => by unfold Kp at k ⊢; exact k
 | .b _, k => by unfold Kp at k ⊢; exact k
 | .i _ _, k => by unfold Kp at k ⊢; exact k
 | .s _, k => by unfold Kp at k ⊢; exact k
 | .np, k => by unfold Kp at k ⊢; exact k
 | .nf, k => by unfold Kp at k ⊢; exact k
 | .ni, k => by unfold Kp at k ⊢; exact k
 | .nm, k => by unfold Kp at k ⊢; exact k
 | .ns, k => by unfold Kp at k ⊢; exact k
 | .em, k => by unfold Kp at k ⊢; exact k
 | .ifc _ _, k => by unfold Kp at k ⊢; exact k
 | .lst _ _, k => by unfold Kp at k ⊢; exact k
 | .pl _ _, k => by unfold Kp at k ⊢; exact k
theorem KpL.up {n m : Nat} (h : n <= m) : ∀ ds : List D, KpL n ds -> KpL m ds
 | [], k => by unfold KpL at k ⊢; exact k
 | d :: ds, k => by unfold KpL at k ⊢; exact ⟨Kp.up h d k.1, KpL.up h ds k.2⟩
end
theorem KpC.up {n m : Nat} (h : n <= m) : ∀ {c : C}, KpC n c -> KpC m c
 | .cells _ _ _, k => fun c hc => Kp.up h _ (k c hc)
 | .lp _ _ _ _ _ _ _, k => fun s d hd => Kp.up h _ (k s d hd)
 | .map _, k => fun e he => ⟨Kp.up h _ (k e he).1, Kp.up h _ (k e he).2⟩
 | .hole, _ => trivial
theorem KpO.up {n m : Nat} (h : n <= m) {ob : T C} (k : KpO n ob) : KpO m ob := fun id c hc => ⟨Nat.lt_of_lt_of_le (k id c hc).1 h, (k id c hc).2.up h⟩
mutual
theorem Kp.pu {n : Nat} : ∀ d : D, Pu d -> Kp n d
 | .pt _ _ _, h => by unfold Pu at h; exact h.elim
 | .yl _, h => by unfold Pu at h; exact h.elim
 | .sl _ _ _ _ _, h => by unfold Pu at h; exact h.elim
 | .mp _, h => by unfold Pu at h; exact h.elim
 | .fn _ x y, h => by unfold Pu at h; unfold Kp; exact ⟨KpL.pu x h.1, KpL.pu y h.2⟩
 | .ag cs, h => by unfold Pu at h; unfold Kp; exact KpL.pu cs h
 | .tp cs, h => by unfold Pu at h; unfold Kp; exact KpL.pu cs h
 | .any, h => by unfold Kp; exact h
 | .b _, h => by unfold Kp; exact h
 | .i _ _, h => by unfold Kp; exact h
 | .s _, h => by unfold Kp; exact h
 | .np, h => by unfold Kp; exact h
 | .nf, h => by unfold Kp; exact h
 | .ni, h => by unfold Kp; exact h
 | .nm, h => by unfold Kp; exact h
 | .ns, h => by unfold Kp; exact h
 | .em, h => by unfold Kp; exact h
 | .ifc _ _, h => by unfold Kp; exact h
 | .lst _ _, h => by unfold Kp; exact h
 | .pl _ _, h => by unfold Kp; exact h
theorem KpL.pu {n : Nat} : ∀ ds : List D, aN ds -> KpL n ds
 | [], _ => by unfold KpL; trivial
 | d :: ds, h => by unfold aN at h; unfold KpL; exact ⟨Kp.pu d h.1, KpL.pu ds h.2⟩
end
inductive Fld {α σ : Type} (R : σ -> α -> σ -> Bool -> Prop) : List α -> σ -> σ -> Bool -> Prop where
 | nil {s : σ} : Fld R [] s s true
 | stop {a : α} {l : List α} {s s' : σ} (h : R s a s' false) : Fld R (a :: l) s s' false
 | go {a : α} {l : List α} {s s' s2 : σ} {g : Bool} (h : R s a s' true) (k : Fld R l s' s2 g) : Fld R (a :: l) s s2 g
theorem Fld.app {α σ : Type} {R : σ -> α -> σ -> Bool -> Prop} : ∀ {a b : List α} {s s1 s2 : σ} {g : Bool}, Fld R a s s1 true -> Fld R b s1 s2 g -> Fld R (a ++ b) s s2 g
 | [], _, _, _, _, _, h, k => by cases h; exact k
 | _ :: _, _, _, _, _, _, h, k => by
   cases h with
   | go h1 h2 => exact .go h1 (h2.app k)
theorem Fld.inv {α σ : Type} {R : σ -> α -> σ -> Bool -> Prop} {I : List α -> σ -> Prop} {W : List α} (hI : ∀ h s a s', h ++ [a] <+: W -> I h s -> R s a s' true -> I (h ++ [a]) s') : ∀ {l h : List α} {s s' : σ}, h ++ l <+: W -> I h s -> Fld R l s s' true -> I (h ++ l) s'
 | [], h, s, s', _, i, k => by cases k; rw [List.append_nil]; exact i
 | a :: l, h, s, s', hp, i, k => by
   cases k with
   | go h1 h2 =>
     have hp' : h ++ [a] ++ l <+: W := by rw [List.append_assoc]; exact hp
     have := Fld.inv hI hp' (hI _ _ _ _ ((List.prefix_append _ _).trans hp') i h1) h2
     rw [List.append_assoc] at this
     exact this
end Go.Ev
end
