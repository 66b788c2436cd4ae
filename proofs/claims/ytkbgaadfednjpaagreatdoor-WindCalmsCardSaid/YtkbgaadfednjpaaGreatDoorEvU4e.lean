import Derived.Test.YtkbgaadfednjpaaGreatDoorEvU4c
set_option linter.all false
set_option maxHeartbeats 8000000
noncomputable section
namespace Go.Ev
open Go.Proofs
set_option maxRecDepth 100000
def bZ (b : Bh) : C := .cells false ((dW b).map fun d => Cell.o d 0) 1
theorem aL {B : Pos → Prop} {ob : T C} (b : Bh) : ShC B ob (bZ b) (bZ b) := by
  refine ShC.same ?_
  have h := aQ b
  unfold dW aR at h
  simp only [dW, List.map_cons, List.map_nil]
  (repeat' first | exact ShC.nl | refine ShC.cn ?_ ?_) <;> first | exact .pu trivial | exact .pu (aB _) | exact .pu (aE _) | exact .pu (aF _)
structure VW (b : Bh) : Prop where
  last : 0 ≤ b.last ∧ b.last ≤ 4
  rws : 1 ≤ b.rws ∧ b.rws ≤ 3
  pls : 1 ≤ b.pls ∧ b.pls ≤ 5
  rch : 0 ≤ b.rch ∧ b.rch ≤ 4
  facl : (b.face.length : Int) = b.rws
  face : b.face.all iC = true
  sunl : (b.sun.length : Int) = b.last + 1
  sun : b.sun.all vR = true
  winl : (b.winds.length : Int) = b.last + 1
  wins : b.winds.all mE = true
  brk : b.brk.all (cJ b) = true
  nts : b.nts.all (gY b) = true
theorem VW.iff {b : Bh} : hF b = true ↔ VW b := by
  unfold hF pF
  simp only [Bool.and_eq_true, decide_eq_true_iff]
  constructor
  · rintro ⟨a1, a2, a3, a4, ⟨a5, a6⟩, a7, a8, a9, a10, a11, a12⟩
    exact ⟨aX a1, aX a2, aX a3, aX a4, a5, a6, a7, a8, a9, a10, a11, a12⟩
  · rintro ⟨a1, a2, a3, a4, a5, a6, a7, a8, a9, a10, a11, a12⟩
    exact ⟨decide_eq_true a1, decide_eq_true a2, decide_eq_true a3, decide_eq_true a4, ⟨a5, a6⟩, a7, a8, a9, a10, a11, a12⟩
theorem Di {b : Bh} (h : VW b → False) : hF b = false := by
  cases hv : hF b with
  | false => rfl
  | true => exact (h (VW.iff.1 hv)).elim
theorem iI {w : List Int} : mE w = true ↔ zW w = true ∧ 0 < w.length ∧ w.all iC = true := by
  unfold mE; simp only [Bool.and_eq_true, decide_eq_true_iff]
theorem sI {α : Type} {l : List α} {x : α} {d : α} (h : x ∈ l) : ∃ i, i < l.length ∧ l.getD i d = x := by
  obtain ⟨i, hi, e⟩ := List.mem_iff_getElem.1 h
  exact ⟨i, hi, by simp [List.getD, hi, e]⟩
theorem hG {α : Type} {l : List α} {p : α → Bool} (h : l.all p = true) {j : Nat} {d : α} (hj : j < l.length) : p (l.getD j d) = true := List.all_eq_true.1 h _ (aM hj)
def Nr (_ : Bh) (j : Nat) : T D := (.n (.n (.n .e (some (.i .i64 (j : Int))) .e) (some (.pt .h 0 0)) .e) none .e)
def Nx (_ : Bh) (j i : Nat) : T D := (.n (.n (.n .e (some (.i .i64 (j : Int))) .e) (some (.pt .h 0 0)) .e) none (.n (.n .e (some (.i .i64 ((i : Int) + 1))) .e) none .e))
def Nu (_ : Bh) (j : Nat) : T D := (.n (.n .e (some (.pt .h 0 0)) (.n .e (some (.i .i64 (j : Int))) .e)) none .e)
def Nw (_ : Bh) (j : Nat) : T D := (.n (.n .e (some (.pt .h 0 0)) .e) none (.n .e none (.n .e (some (.i .i64 (j : Int))) .e)))
set_option maxHeartbeats 4000000 in
theorem Cq (b : Bh) (l1 : b.face.length ≤ 1000) (l2 : b.sun.length ≤ 1000) (l3 : b.winds.length ≤ 1000) (l6 : ∀ w ∈ b.winds, w.length ≤ 1000) : PureF Tryz.prog p78.ix [.ag (dW b)] (.i .i64 (aZ b)) := by
  have e1 := aH aV b.brk
  have e2 := aH aV b.nts
  have e3 := aN b.face
  have e4 := aN b.sun
  have e5 := aH bY b.winds
  refine PureF.run NR (by simp) (by simp [aR, Pu, aQ]) ?_; conv => whnf
  by_cases hB : 4 < b.last ∨ 3 < b.rws ∨ 5 < b.pls ∨ 4 < b.brk.length ∨ 5 < b.nts.length
  · have hf : aZ b = 3 := by unfold aZ; rw [if_pos (jC.2 hB)]
    rw [hf]
    repeat' first | ((first | refine Qz ?_ | with_reducible refine WB.dec (fun h => ?_) (fun h => ?_) | with_reducible refine WB.ndec (fun h => ?_) (fun h => ?_) | refine WB.mk (fun h => ?_) (fun h => ?_)) <;> conv => whnf)
    all_goals first | exact Fin.i rfl rfl | (exfalso; omega)
  have f1 : hF b = false → aZ b = 1 := fun h => by unfold aZ; rw [if_neg fun h => hB (jC.1 h), if_neg (by rw [h]; decide)]
  have f0 : VW b → aZ b = 0 := fun h => by unfold aZ; rw [if_neg fun h => hB (jC.1 h), if_pos (VW.iff.2 h)]
  have c4 := AG b.rch 0 4
  have c5 := gO b.face 0 l1
  have c6 := gO b.sun (-1) l2
  by_cases k0 : b.last < 0
  · have hv := f1 (Di fun q => by have := q.last; have := q.rws; have := q.pls; omega)
    rw [hv]
    repeat' first | ((first | refine Qz ?_ | with_reducible (first | refine Qm ?_ | refine Qn ?_ | refine Qo ?_ | refine Qp ?_ | refine WB.nt ?_ | refine WB.nf ?_ | refine WB.dec (fun h => ?_) (fun h => ?_) | refine WB.ndec (fun h => ?_) (fun h => ?_)) | refine WB.mk (fun h => ?_) (fun h => ?_)) <;> conv => whnf) | (refine WB.tt ?_; conv => whnf) | (refine WB.ff ?_; conv => whnf)
    exact Fin.i rfl rfl
  by_cases k1 : b.rws < 1
  · have hv := f1 (Di fun q => by have := q.last; have := q.rws; have := q.pls; omega)
    rw [hv]
    repeat' first | ((first | refine Qz ?_ | with_reducible (first | refine Qm ?_ | refine Qn ?_ | refine Qo ?_ | refine Qp ?_ | refine WB.nt ?_ | refine WB.nf ?_ | refine WB.dec (fun h => ?_) (fun h => ?_) | refine WB.ndec (fun h => ?_) (fun h => ?_)) | refine WB.mk (fun h => ?_) (fun h => ?_)) <;> conv => whnf) | (refine WB.tt ?_; conv => whnf) | (refine WB.ff ?_; conv => whnf)
    exact Fin.i rfl rfl
  by_cases k2 : b.pls < 1
  · have hv := f1 (Di fun q => by have := q.last; have := q.rws; have := q.pls; omega)
    rw [hv]
    repeat' first | ((first | refine Qz ?_ | with_reducible (first | refine Qm ?_ | refine Qn ?_ | refine Qo ?_ | refine Qp ?_ | refine WB.nt ?_ | refine WB.nf ?_ | refine WB.dec (fun h => ?_) (fun h => ?_) | refine WB.ndec (fun h => ?_) (fun h => ?_)) | refine WB.mk (fun h => ?_) (fun h => ?_)) <;> conv => whnf) | (refine WB.tt ?_; conv => whnf) | (refine WB.ff ?_; conv => whnf)
    exact Fin.i rfl rfl
  cases k3 : gQ b.rch 0 4 with
  | false =>
    have hv := f1 (Di fun q => by have := q.rch; unfold gQ at k3; have := of_decide_eq_false k3; omega)
    rw [hv]; rw [k3] at c4
    repeat' first | ((first | refine Qz ?_ | refine Qf (c4) ?_ | with_reducible (first | refine Qm ?_ | refine Qn ?_ | refine Qo ?_ | refine Qp ?_ | refine WB.nt ?_ | refine WB.nf ?_ | refine WB.dec (fun h => ?_) (fun h => ?_) | refine WB.ndec (fun h => ?_) (fun h => ?_)) | refine WB.mk (fun h => ?_) (fun h => ?_)) <;> conv => whnf) | (refine WB.tt ?_; conv => whnf) | (refine WB.ff ?_; conv => whnf)
    exact Fin.i rfl rfl
  | true =>
  rw [k3] at c4
  by_cases k4 : (b.face.length : Int) = b.rws
  rotate_left
  · have hv := f1 (Di fun q => k4 q.facl)
    rw [hv]
    have k' : ¬ ((ints b.face).length : Int) = b.rws := by omega
    repeat' first | ((first | refine Qz ?_ | refine Qf (c4) ?_ | with_reducible (first | refine Qm ?_ | refine Qn ?_ | refine Qo ?_ | refine Qp ?_ | refine WB.nt ?_ | refine WB.nf ?_ | refine WB.dec (fun h => ?_) (fun h => ?_) | refine WB.ndec (fun h => ?_) (fun h => ?_)) | refine WB.mk (fun h => ?_) (fun h => ?_)) <;> conv => whnf) | (refine WB.tt ?_; conv => whnf) | (refine WB.ff ?_; conv => whnf)
    exact Fin.i rfl rfl
  by_cases k5 : (b.sun.length : Int) = b.last + 1
  rotate_left
  · have hv := f1 (Di fun q => k5 q.sunl)
    rw [hv]
    have k' : ¬ ((ints b.sun).length : Int) = b.last + 1 := by omega
    repeat' first | ((first | refine Qz ?_ | refine Qf (c4) ?_ | with_reducible (first | refine Qm ?_ | refine Qn ?_ | refine Qo ?_ | refine Qp ?_ | refine WB.nt ?_ | refine WB.nf ?_ | refine WB.dec (fun h => ?_) (fun h => ?_) | refine WB.ndec (fun h => ?_) (fun h => ?_)) | refine WB.mk (fun h => ?_) (fun h => ?_)) <;> conv => whnf) | (refine WB.tt ?_; conv => whnf) | (refine WB.ff ?_; conv => whnf)
    exact Fin.i rfl rfl
  by_cases k6 : (b.winds.length : Int) = b.last + 1
  rotate_left
  · have hv := f1 (Di fun q => k6 q.winl)
    rw [hv]
    have k' : ¬ ((aC bY b.winds).length : Int) = b.last + 1 := by omega
    repeat' first | ((first | refine Qz ?_ | refine Qf (c4) ?_ | with_reducible (first | refine Qm ?_ | refine Qn ?_ | refine Qo ?_ | refine Qp ?_ | refine WB.nt ?_ | refine WB.nf ?_ | refine WB.dec (fun h => ?_) (fun h => ?_) | refine WB.ndec (fun h => ?_) (fun h => ?_)) | refine WB.mk (fun h => ?_) (fun h => ?_)) <;> conv => whnf) | (refine WB.tt ?_; conv => whnf) | (refine WB.ff ?_; conv => whnf)
    exact Fin.i rfl rfl
  cases k7 : b.face.all (fun n => gQ n 0 3) with
  | false =>
    have hv := f1 (Di fun q => by have h := q.face; rw [show b.face.all iC = false from k7] at h; cases h)
    rw [hv]; rw [k7] at c5
    repeat' first | ((first | refine Qz ?_ | refine Qf (c4) ?_ | refine Qf (c5) ?_ | with_reducible (first | refine Qm ?_ | refine Qn ?_ | refine Qo ?_ | refine Qp ?_ | refine WB.nt ?_ | refine WB.nf ?_ | refine WB.dec (fun h => ?_) (fun h => ?_) | refine WB.ndec (fun h => ?_) (fun h => ?_)) | refine WB.mk (fun h => ?_) (fun h => ?_)) <;> conv => whnf) | (refine WB.tt ?_; conv => whnf) | (refine WB.ff ?_; conv => whnf)
    exact Fin.i rfl rfl
  | true =>
  rw [k7] at c5
  cases k8 : b.sun.all (fun n => gQ n (-1) 3) with
  | false =>
    have hv := f1 (Di fun q => by have h := q.sun; rw [show b.sun.all vR = false from k8] at h; cases h)
    rw [hv]; rw [k8] at c6
    repeat' first | ((first | refine Qz ?_ | refine Qf (c4) ?_ | refine Qf (c5) ?_ | refine Qf (c6) ?_ | with_reducible (first | refine Qm ?_ | refine Qn ?_ | refine Qo ?_ | refine Qp ?_ | refine WB.nt ?_ | refine WB.nf ?_ | refine WB.dec (fun h => ?_) (fun h => ?_) | refine WB.ndec (fun h => ?_) (fun h => ?_)) | refine WB.mk (fun h => ?_) (fun h => ?_)) <;> conv => whnf) | (refine WB.tt ?_; conv => whnf) | (refine WB.ff ?_; conv => whnf)
    exact Fin.i rfl rfl
  | true =>
  rw [k8] at c6
  repeat' first | ((first | refine Qz ?_ | refine Qf (c4) ?_ | refine Qf (c5) ?_ | refine Qf (c6) ?_ | with_reducible (first | refine Qm ?_ | refine Qn ?_ | refine Qo ?_ | refine Qp ?_ | refine WB.nt ?_ | refine WB.nf ?_ | refine WB.dec (fun h => ?_) (fun h => ?_) | refine WB.ndec (fun h => ?_) (fun h => ?_)) | refine WB.mk (fun h => ?_) (fun h => ?_)) <;> conv => whnf) | (refine WB.tt ?_; conv => whnf) | (refine WB.ff ?_; conv => whnf)
  refine Rn.loop (fun j : Nat => ⟨Nr b j, .n .e (some (bZ b)) .e, .o .h, none⟩) (fun j => j ≤ b.winds.length ∧ ∀ h, h < j → mE (b.winds.getD h default) = true) (fun j => b.winds.length - j) 0 ?_ ⟨by omega, fun h hh => by omega⟩ ?_
  · refine X.le.mk ?_ ?_ (Nat.le_refl _) rfl rfl
    all_goals (first | unfold Nr | skip)
    all_goals (repeat' first | exact T.le_e _ | exact T.le_refl _ | refine T.le_some ?_ rfl ?_ | refine T.le_none ?_ ?_ | refine T.le_ee ?_ ?_)
  rintro j ⟨hj, ha⟩
  conv => whnf
  repeat' first | ((first | refine Qz ?_ | refine Qy ?_) <;> conv => whnf) | (refine WB.tt ?_; conv => whnf) | (refine WB.ff ?_; conv => whnf)
  refine WB.dec (fun h => ?_) (fun h => ?_) <;> conv => whnf
  · have hlt : j < b.winds.length := by omega
    have hm := aM (d := (default : List Int)) hlt
    have lw := l6 _ hm
    have cD := gO (b.winds.getD j default) 0 lw
    have ew := aN (b.winds.getD j default)
    have bad : mE (b.winds.getD j default) = false → aZ b = 1 := fun h => f1 (Di fun q => by
      have := hG (d := default) q.wins hlt
      rw [h] at this; cases this)
    by_cases m1 : (b.winds.getD j default).length = 0
    · rw [bad (by cases hc : mE (b.winds.getD j default) with
        | false => rfl
        | true => exact absurd (iI.1 hc).2.1 (by omega))]
      repeat' first | ((first | refine Qz ?_ | refine Qy ?_) <;> conv => whnf) | (refine WB.tt ?_; conv => whnf) | (refine WB.ff ?_; conv => whnf)
      exact Fin.i rfl rfl
    cases m2 : (b.winds.getD j default).all (fun n => gQ n 0 3) with
    | false =>
      rw [bad (by cases hc : mE (b.winds.getD j default) with
        | false => rfl
        | true => have := (iI.1 hc).2.2; rw [show (b.winds.getD j default).all iC = false from m2] at this; cases this)]
      rw [m2] at cD
      repeat' first | ((first | refine Qz ?_ | refine Qf (cD) ?_ | refine Qy ?_) <;> conv => whnf) | (refine WB.tt ?_; conv => whnf) | (refine WB.ff ?_; conv => whnf)
      exact Fin.i rfl rfl
    | true =>
    rw [m2] at cD
    repeat' first | ((first | refine Qz ?_ | refine Qf (cD) ?_ | refine Qy ?_) <;> conv => whnf) | (refine WB.tt ?_; conv => whnf) | (refine WB.ff ?_; conv => whnf)
    refine Rn.loop (fun i : Nat => ⟨Nx b j i, .n .e (some (bZ b)) .e, .o .h, none⟩) (fun i => i ≤ (b.winds.getD j default).length ∧ ∀ h, 1 ≤ h → h < i + 1 → h < (b.winds.getD j default).length → (b.winds.getD j default).getD (h - 1) 0 < (b.winds.getD j default).getD h 0) (fun i => (b.winds.getD j default).length - i) 0 ?_ ⟨by omega, fun h h1 h2 => by omega⟩ ?_
    · refine X.le.mk ?_ ?_ (Nat.le_refl _) rfl rfl
      all_goals (first | unfold Nx | skip)
      all_goals (repeat' first | exact T.le_e _ | exact T.le_refl _ | refine T.le_some ?_ rfl ?_ | refine T.le_none ?_ ?_ | refine T.le_ee ?_ ?_)
    rintro i ⟨hi, hb⟩
    conv => whnf
    repeat' first | ((first | refine Qz ?_ | refine Qy ?_) <;> conv => whnf) | (refine WB.tt ?_; conv => whnf) | (refine WB.ff ?_; conv => whnf)
    refine WB.dec (fun h3 => ?_) (fun h3 => ?_) <;> conv => whnf
    · have hlt2 : i + 1 < (b.winds.getD j default).length := by omega
      repeat' first | ((first | refine Qz ?_ | refine Qy ?_) <;> conv => whnf) | (refine WB.tt ?_; conv => whnf) | (refine WB.ff ?_; conv => whnf)
      refine WIx.intsE (j := i) (by omega) (by omega) ?_; conv => whnf
      repeat' first | ((first | refine Qz ?_ | refine Qy ?_) <;> conv => whnf) | (refine WB.tt ?_; conv => whnf) | (refine WB.ff ?_; conv => whnf)
      refine WB.dec (fun h4 => ?_) (fun h4 => ?_) <;> conv => whnf
      · rw [bad (by cases hc : mE (b.winds.getD j default) with
        | false => rfl
        | true =>
          have h5 := nD.1 (iI.1 hc).1 (i + 1) hlt2 (by omega)
          exact absurd h4 (Int.not_le.2 h5))]
        repeat' first | ((first | refine Qz ?_ | refine Qy ?_) <;> conv => whnf) | (refine WB.tt ?_; conv => whnf) | (refine WB.ff ?_; conv => whnf)
        exact Fin.i rfl rfl
      · repeat' first | ((first | refine Qz ?_ | refine Qy ?_) <;> conv => whnf) | (refine WB.tt ?_; conv => whnf) | (refine WB.ff ?_; conv => whnf)
        refine Again.to (i + 1) (by omega) ⟨by omega, fun h h1 h5 h6 => ?_⟩ (Nat.le_refl _) ?_
        · by_cases e : h = i + 1
          · subst e; exact Int.not_le.1 h4
          · exact hb h h1 (by omega) h6
        · refine Shr.of ?_ ?_ rfl rfl
          · show Rel _ _ (Nx b j (i + 1)) _
            unfold Nx
            (repeat' first | exact Rel.e | refine Rel.some ?_ ?_ ?_ | refine Rel.none ?_ ?_ | refine Rel.ee ?_ ?_)
            all_goals show Fz _ _ _ _
            all_goals first | exact .pu trivial | exact .kpt (show _ < 2 by simp [Pos.nat])
          · show Rel _ _ (.n .e (some (bZ b)) .e : T C) _
            (repeat' first | exact Rel.e | refine Rel.some ?_ ?_ ?_ | refine Rel.none ?_ ?_ | refine Rel.ee ?_ ?_)
            all_goals exact RO'.of (show _ < 2 by simp [Pos.nat]) (aL b)
    · repeat' first | ((first | refine Qz ?_ | refine Qy ?_) <;> conv => whnf) | (refine WB.tt ?_; conv => whnf) | (refine WB.ff ?_; conv => whnf)
      refine Again.to (j + 1) (by omega) ⟨by omega, fun h h1 => ?_⟩ (Nat.le_refl _) ?_
      · by_cases e : h = j
        · subst e
          exact iI.2 ⟨nD.2 fun q hq h7 => hb q h7 (by omega) hq, by omega, m2⟩
        · exact ha h (by omega)
      · refine Shr.of ?_ ?_ rfl rfl
        · show Rel _ _ (Nr b (j + 1)) _
          unfold Nr
          (repeat' first | exact Rel.e | refine Rel.some ?_ ?_ ?_ | refine Rel.none ?_ ?_ | refine Rel.ee ?_ ?_)
          all_goals show Fz _ _ _ _
          all_goals first | exact .pu trivial | exact .kpt (show _ < 2 by simp [Pos.nat])
        · show Rel _ _ (.n .e (some (bZ b)) .e : T C) _
          (repeat' first | exact Rel.e | refine Rel.some ?_ ?_ ?_ | refine Rel.none ?_ ?_ | refine Rel.ee ?_ ?_)
          all_goals exact RO'.of (show _ < 2 by simp [Pos.nat]) (aL b)
  have hw : b.winds.all mE = true := List.all_eq_true.2 fun w hw => by
    obtain ⟨i, hi, e⟩ := sI (d := (default : List Int)) hw
    rw [← e]; exact ha i (by omega)
  repeat' first | ((first | refine Qz ?_ | refine Qy ?_) <;> conv => whnf) | (refine WB.tt ?_; conv => whnf) | (refine WB.ff ?_; conv => whnf)
  refine Rn.loop (fun j : Nat => ⟨Nu b j, .n .e (some (bZ b)) .e, .o .h, none⟩) (fun j => j ≤ b.brk.length ∧ (b.brk.take j).all (cJ b) = true) (fun j => b.brk.length - j) 0 ?_ ⟨by omega, by simp⟩ ?_
  · refine X.le.mk ?_ ?_ (Nat.le_refl _) rfl rfl
    all_goals (first | unfold Nu | skip)
    all_goals (repeat' first | exact T.le_e _ | exact T.le_refl _ | refine T.le_some ?_ rfl ?_ | refine T.le_none ?_ ?_ | refine T.le_ee ?_ ?_)
  rintro j ⟨hj, hs⟩
  conv => whnf
  repeat' first | ((first | refine Qz ?_ | refine Qy ?_) <;> conv => whnf) | (refine WB.tt ?_; conv => whnf) | (refine WB.ff ?_; conv => whnf)
  refine WB.dec (fun h => ?_) (fun h => ?_) <;> conv => whnf
  · have hlt : j < b.brk.length := by omega
    have cS := xS b (b.brk.getD j default) ⟨by omega, by omega⟩ ⟨by omega, by omega⟩
    cases m1 : cJ b (b.brk.getD j default) with
    | false =>
      rw [f1 (Di fun q => by
        have := hG (d := default) q.brk hlt
        rw [m1] at this; cases this)]
      rw [m1] at cS
      repeat' first | ((first | refine Qz ?_ | refine Qf (cS) ?_ | refine Qy ?_) <;> conv => whnf) | (refine WB.tt ?_; conv => whnf) | (refine WB.ff ?_; conv => whnf)
      exact Fin.i rfl rfl
    | true =>
      rw [m1] at cS
      repeat' first | ((first | refine Qz ?_ | refine Qf (cS) ?_ | refine Qy ?_) <;> conv => whnf) | (refine WB.tt ?_; conv => whnf) | (refine WB.ff ?_; conv => whnf)
      refine Again.to (j + 1) (by omega) ⟨by omega, bQ (d := default) hlt hs m1⟩ (Nat.le_refl _) ?_
      refine Shr.of ?_ ?_ rfl rfl
      · show Rel _ _ (Nu b (j + 1)) _
        unfold Nu
        (repeat' first | exact Rel.e | refine Rel.some ?_ ?_ ?_ | refine Rel.none ?_ ?_ | refine Rel.ee ?_ ?_)
        all_goals show Fz _ _ _ _
        all_goals first | exact .pu trivial | exact .kpt (show _ < 2 by simp [Pos.nat])
      · show Rel _ _ (.n .e (some (bZ b)) .e : T C) _
        (repeat' first | exact Rel.e | refine Rel.some ?_ ?_ ?_ | refine Rel.none ?_ ?_ | refine Rel.ee ?_ ?_)
        all_goals exact RO'.of (show _ < 2 by simp [Pos.nat]) (aL b)
  have hs := fS (by omega) hs
  repeat' first | ((first | refine Qz ?_ | refine Qy ?_) <;> conv => whnf) | (refine WB.tt ?_; conv => whnf) | (refine WB.ff ?_; conv => whnf)
  refine Rn.loop (fun j : Nat => ⟨Nw b j, .n .e (some (bZ b)) .e, .o .h, none⟩) (fun j => j ≤ b.nts.length ∧ (b.nts.take j).all (gY b) = true) (fun j => b.nts.length - j) 0 ?_ ⟨by omega, by simp⟩ ?_
  · refine X.le.mk ?_ ?_ (Nat.le_refl _) rfl rfl
    all_goals (first | unfold Nw | skip)
    all_goals (repeat' first | exact T.le_e _ | exact T.le_refl _ | refine T.le_some ?_ rfl ?_ | refine T.le_none ?_ ?_ | refine T.le_ee ?_ ?_)
  rintro j ⟨hj, ht⟩
  conv => whnf
  repeat' first | ((first | refine Qz ?_ | refine Qy ?_) <;> conv => whnf) | (refine WB.tt ?_; conv => whnf) | (refine WB.ff ?_; conv => whnf)
  refine WB.dec (fun h => ?_) (fun h => ?_) <;> conv => whnf
  · have hlt : j < b.nts.length := by omega
    have cA := AG (b.nts.getD j default).1 0 b.last
    have cB := AG (b.nts.getD j default).2 0 3
    have bad : gY b (b.nts.getD j default) = false → aZ b = 1 := fun h => f1 (Di fun q => by
      have := hG (d := default) q.nts hlt
      rw [h] at this; cases this)
    cases m1 : gQ (b.nts.getD j default).1 0 b.last with
    | false =>
      rw [bad (by unfold gY; rw [m1]; rfl)]
      rw [m1] at cA
      repeat' first | ((first | refine Qz ?_ | refine Qf (cA) ?_ | refine Qy ?_) <;> conv => whnf) | (refine WB.tt ?_; conv => whnf) | (refine WB.ff ?_; conv => whnf)
      exact Fin.i rfl rfl
    | true =>
    rw [m1] at cA
    cases m2 : gQ (b.nts.getD j default).2 0 3 with
    | false =>
      rw [bad (by unfold gY; rw [m1, show iC (b.nts.getD j default).2 = false from m2]; rfl)]
      rw [m2] at cB
      repeat' first | ((first | refine Qz ?_ | refine Qf (cA) ?_ | refine Qf (cB) ?_ | refine Qy ?_) <;> conv => whnf) | (refine WB.tt ?_; conv => whnf) | (refine WB.ff ?_; conv => whnf)
      exact Fin.i rfl rfl
    | true =>
      rw [m2] at cB
      repeat' first | ((first | refine Qz ?_ | refine Qf (cA) ?_ | refine Qf (cB) ?_ | refine Qy ?_) <;> conv => whnf) | (refine WB.tt ?_; conv => whnf) | (refine WB.ff ?_; conv => whnf)
      refine Again.to (j + 1) (by omega) ⟨by omega, bQ (d := default) hlt ht (by unfold gY; rw [m1, show iC (b.nts.getD j default).2 = true from m2]; rfl)⟩ (Nat.le_refl _) ?_
      refine Shr.of ?_ ?_ rfl rfl
      · show Rel _ _ (Nw b (j + 1)) _
        unfold Nw
        (repeat' first | exact Rel.e | refine Rel.some ?_ ?_ ?_ | refine Rel.none ?_ ?_ | refine Rel.ee ?_ ?_)
        all_goals show Fz _ _ _ _
        all_goals first | exact .pu trivial | exact .kpt (show _ < 2 by simp [Pos.nat])
      · show Rel _ _ (.n .e (some (bZ b)) .e : T C) _
        (repeat' first | exact Rel.e | refine Rel.some ?_ ?_ ?_ | refine Rel.none ?_ ?_ | refine Rel.ee ?_ ?_)
        all_goals exact RO'.of (show _ < 2 by simp [Pos.nat]) (aL b)
  have ht := fS (by omega) ht
  have q3 := aX k3
  rw [f0 ⟨⟨by omega, by omega⟩, ⟨by omega, by omega⟩, ⟨by omega, by omega⟩, q3, k4, k7, k5, k8, k6, hw, hs, ht⟩]
  repeat' first | ((first | refine Qz ?_ | refine Qy ?_) <;> conv => whnf) | (refine WB.tt ?_; conv => whnf) | (refine WB.ff ?_; conv => whnf)
  exact Fin.i rfl rfl
def DE (l : List Int) (n : Int) : Bool := l.any fun x => decide (x = n)
theorem gV {α : Type} {l : List α} {p : α → Bool} (h : (l.take l.length).any p = false) : l.any p = false := by rwa [List.take_length] at h
theorem jL {α : Type} {l : List α} {p : α → Bool} {i : Nat} {d : α} (h : i < l.length) (k : p (l.getD i d) = true) : l.any p = true := List.any_eq_true.2 ⟨_, aM h, k⟩
theorem Jh (l : List Int) (n : Int) (hl : l.length ≤ 1000) : PureF Tryz.prog p70.ix [.lst 1 (ints l), .i .i64 n] (.b (DE l n)) := by
  have e1 := aN l
  refine PureF.run Pk (by simp) (by simp [aR, dL, Pu, aB]) ?_; conv => whnf
  repeat' first | ((first | refine Qz ?_) <;> conv => whnf)
  refine Rn.loop (fun j : Nat => ⟨(.n (.n .e (some (.i .i64 n)) (.n .e (some (.i .i64 (j : Int))) .e)) (some (.lst 1 (ints l))) .e), .e, .h, none⟩) (fun j => j ≤ l.length ∧ (l.take j).any (fun x => decide (x = n)) = false) (fun j => l.length - j) 0 ?_ ?_ ?_
  · (first | (refine X.le.mk ?_ ?_ (Nat.le_refl _) rfl rfl) | skip) <;> (repeat' first | exact T.le_e _ | refine T.le_some ?_ ?_ ?_ | refine T.le_none ?_ ?_ | rfl)
  · exact ⟨by omega, by simp⟩
  rintro j ⟨hj, ha⟩
  conv => whnf
  repeat' first | ((first | refine Qz ?_) <;> conv => whnf)
  refine WB.dec (fun h => ?_) (fun h => ?_) <;> conv => whnf
  · have hlt : j < l.length := by omega
    repeat' first | ((first | refine Qz ?_) <;> conv => whnf)
    refine WB.dec (fun h2 => ?_) (fun h2 => ?_) <;> conv => whnf
    · repeat' first | ((first | refine Qz ?_) <;> conv => whnf)
      exact Fin.b rfl (jL (d := 0) hlt (decide_eq_true h2)).symm
    · repeat' first | ((first | refine Qz ?_) <;> conv => whnf)
      refine Again.to (j + 1) (by omega) ⟨by omega, by rw [dS (d := 0) hlt, ha, decide_eq_false h2]; rfl⟩ (Nat.le_refl _) ?_
      (refine Shr.of ?_ ?_ rfl rfl) <;> (repeat' first | exact Rel.e | refine Rel.some ?_ ?_ ?_ | refine Rel.none ?_ ?_) <;> (try first | (show Fz _ _ _ _; first | exact Fz.pu trivial | (refine Fz.i ?_; first | rfl | omega) | (refine Fz.kpt ?_; (focus (show Pos.nat _ < Pos.nat _; simp [Pos.nat]; done))) | (refine Fz.ksl ?_; (focus (show Pos.nat _ < Pos.nat _; simp [Pos.nat]; done))) | (refine Fz.kmp ?_; (focus (show Pos.nat _ < Pos.nat _; simp [Pos.nat]; done))) | (refine Fz.pu ?_; simp [Cell.d, Pu, aR, dL, aB, aF, aE]; done) | (refine Fz.pu ?_; simp only [Cell.d]; assumption)) | (refine RO'.of ?_ (ShC.same ?_); (focus (show Pos.nat _ < Pos.nat _; simp [Pos.nat]; done)); (repeat' first | exact ShC.nl | refine ShC.cn ?_ ?_) <;> first | exact Fz.pu trivial | (refine Fz.i ?_; first | rfl | omega) | (refine Fz.kpt ?_; (focus (show Pos.nat _ < Pos.nat _; simp [Pos.nat]; done))) | (refine Fz.ksl ?_; (focus (show Pos.nat _ < Pos.nat _; simp [Pos.nat]; done))) | (refine Fz.kmp ?_; (focus (show Pos.nat _ < Pos.nat _; simp [Pos.nat]; done))) | (refine Fz.pu ?_; simp [Cell.d, Pu, aR, dL, aB, aF, aE]; done) | (refine Fz.pu ?_; simp only [Cell.d]; assumption)))
      all_goals (refine Fz.pu ?_; simp [Pu, aB])
  · obtain rfl : j = l.length := by omega
    repeat' first | ((first | refine Qz ?_) <;> conv => whnf)
    exact Fin.b rfl (gV ha).symm
def vK (L : List (List Int)) : Bool := decide (L.length ≤ 7) && L.all fun w => decide (w.length ≤ 5)
theorem BL (L : List (List Int)) : PureF Tryz.prog p21.ix [.lst 1 (aC bY L)] (.b (vK L)) := by
  have e1 := aH bY L
  refine PureF.run PT (by simp) (by simp [aR, dL, Pu, aE]) ?_; conv => whnf
  repeat' first | ((first | refine Qz ?_) <;> conv => whnf)
  refine Rn.loop (fun j : Nat => ⟨(.n (.n (.n .e (some (.i .i64 (j : Int))) .e) none .e) (some (.lst 1 (aC bY L))) .e), .e, .h, none⟩) (fun j => j ≤ L.length ∧ j ≤ 8 ∧ (L.take j).all (fun w => decide (w.length ≤ 5)) = true) (fun j => L.length - j) 0 ?_ ?_ ?_
  · (first | (refine X.le.mk ?_ ?_ (Nat.le_refl _) rfl rfl) | skip) <;> (repeat' first | exact T.le_e _ | refine T.le_some ?_ ?_ ?_ | refine T.le_none ?_ ?_ | rfl)
  · exact ⟨by omega, by omega, by simp⟩
  rintro j ⟨hj, h8, ha⟩
  conv => whnf
  repeat' first | ((first | refine Qz ?_) <;> conv => whnf)
  refine WB.dec (fun h => ?_) (fun h => ?_) <;> conv => whnf
  · have hlt : j < L.length := by omega
    repeat' first | ((first | refine Qz ?_ | refine Qy ?_) <;> conv => whnf) | (refine WB.tt ?_; conv => whnf) | (refine WB.ff ?_; conv => whnf)
    refine WB.dec (fun h3 => ?_) (fun h3 => ?_) <;> conv => whnf
    · have ew := aN (L.getD j default)
      repeat' first | ((first | refine Qz ?_ | refine Qy ?_) <;> conv => whnf) | (refine WB.tt ?_; conv => whnf) | (refine WB.ff ?_; conv => whnf)
      refine WB.dec (fun h2 => ?_) (fun h2 => ?_) <;> conv => whnf
      · repeat' first | ((first | refine Qz ?_) <;> conv => whnf)
        exact Fin.b rfl (by unfold vK; rw [eO (d := (default : List Int)) hlt (decide_eq_false (by omega)), Bool.and_false])
      · repeat' first | ((first | refine Qz ?_) <;> conv => whnf)
        refine Again.to (j + 1) (by omega) ⟨by omega, by omega, bQ (d := (default : List Int)) hlt ha (decide_eq_true (by omega))⟩ (Nat.le_refl _) ?_
        (refine Shr.of ?_ ?_ rfl rfl) <;> (repeat' first | exact Rel.e | refine Rel.some ?_ ?_ ?_ | refine Rel.none ?_ ?_) <;> (try first | (show Fz _ _ _ _; first | exact Fz.pu trivial | (refine Fz.i ?_; first | rfl | omega) | (refine Fz.kpt ?_; (focus (show Pos.nat _ < Pos.nat _; simp [Pos.nat]; done))) | (refine Fz.ksl ?_; (focus (show Pos.nat _ < Pos.nat _; simp [Pos.nat]; done))) | (refine Fz.kmp ?_; (focus (show Pos.nat _ < Pos.nat _; simp [Pos.nat]; done))) | (refine Fz.pu ?_; simp [Cell.d, Pu, aR, dL, aB, aF, aE]; done) | (refine Fz.pu ?_; simp only [Cell.d]; assumption)) | (refine RO'.of ?_ (ShC.same ?_); (focus (show Pos.nat _ < Pos.nat _; simp [Pos.nat]; done)); (repeat' first | exact ShC.nl | refine ShC.cn ?_ ?_) <;> first | exact Fz.pu trivial | (refine Fz.i ?_; first | rfl | omega) | (refine Fz.kpt ?_; (focus (show Pos.nat _ < Pos.nat _; simp [Pos.nat]; done))) | (refine Fz.ksl ?_; (focus (show Pos.nat _ < Pos.nat _; simp [Pos.nat]; done))) | (refine Fz.kmp ?_; (focus (show Pos.nat _ < Pos.nat _; simp [Pos.nat]; done))) | (refine Fz.pu ?_; simp [Cell.d, Pu, aR, dL, aB, aF, aE]; done) | (refine Fz.pu ?_; simp only [Cell.d]; assumption)))
        all_goals (refine Fz.pu ?_; simp [Pu, aE])
    · have h7 : ¬ L.length ≤ 7 := by omega
      repeat' first | ((first | refine Qz ?_ | with_reducible (first | refine Qm ?_ | refine Qn ?_ | refine Qo ?_ | refine Qp ?_ | refine WB.nt ?_ | refine WB.nf ?_ | refine WB.dec (fun h => ?_) (fun h => ?_) | refine WB.ndec (fun h => ?_) (fun h => ?_)) | refine WB.mk (fun h => ?_) (fun h => ?_)) <;> conv => whnf) | (refine WB.tt ?_; conv => whnf) | (refine WB.ff ?_; conv => whnf)
      exact Fin.b rfl (by unfold vK; rw [decide_eq_false h7]; exact decide_eq_false (by omega))
  · have hB := fS (by omega) ha
    unfold vK
    rw [hB, Bool.and_true]
    by_cases k1 : L.length ≤ 7
    · rw [decide_eq_true k1]
      repeat' first | ((first | refine Qz ?_ | with_reducible (first | refine Qm ?_ | refine Qn ?_ | refine Qo ?_ | refine Qp ?_ | refine WB.nt ?_ | refine WB.nf ?_ | refine WB.dec (fun h => ?_) (fun h => ?_) | refine WB.ndec (fun h => ?_) (fun h => ?_)) | refine WB.mk (fun h => ?_) (fun h => ?_)) <;> conv => whnf) | (refine WB.tt ?_; conv => whnf) | (refine WB.ff ?_; conv => whnf)
      exact Fin.b rfl (by first | rfl | (refine decide_eq_true ?_; omega))
    · rw [decide_eq_false k1]
      repeat' first | ((first | refine Qz ?_ | with_reducible (first | refine Qm ?_ | refine Qn ?_ | refine Qo ?_ | refine Qp ?_ | refine WB.nt ?_ | refine WB.nf ?_ | refine WB.dec (fun h => ?_) (fun h => ?_) | refine WB.ndec (fun h => ?_) (fun h => ?_)) | refine WB.mk (fun h => ?_) (fun h => ?_)) <;> conv => whnf) | (refine WB.tt ?_; conv => whnf) | (refine WB.ff ?_; conv => whnf)
      exact Fin.b rfl (by first | rfl | (refine decide_eq_false ?_; omega))
def hJ (L : List (List Int)) : Nat → Int
  | 0 => 1
  | j + 1 => hJ L j * ((L.getD j default).length : Int)
def Gu : Nat → Int
  | 0 => 1
  | n + 1 => Gu n * 5
theorem vH {L : List (List Int)} (h : ∀ w ∈ L, w.length ≤ 5) : ∀ j, j ≤ L.length → 0 ≤ hJ L j ∧ hJ L j ≤ Gu j
  | 0, _ => by show (0 : Int) ≤ 1 ∧ (1 : Int) ≤ 1; omega
  | j + 1, hj => by
    obtain ⟨a, b⟩ := vH h j (by omega)
    have hw := h _ (aM (d := (default : List Int)) (show j < L.length by omega))
    have hn : (0 : Int) ≤ ((L.getD j default).length : Int) := by omega
    show 0 ≤ hJ L j * _ ∧ hJ L j * _ ≤ Gu j * 5
    exact ⟨Int.mul_nonneg a hn, Int.le_trans (Int.mul_le_mul_of_nonneg_right b hn) (Int.mul_le_mul_of_nonneg_left (by omega) (by omega))⟩
theorem Ir : ∀ j, j ≤ 7 → Gu j ≤ 78125 := by
  intro j hj
  have : j = 0 ∨ j = 1 ∨ j = 2 ∨ j = 3 ∨ j = 4 ∨ j = 5 ∨ j = 6 ∨ j = 7 := by omega
  rcases this with rfl | rfl | rfl | rfl | rfl | rfl | rfl | rfl <;> decide
theorem Dy (b : Bh) (h7 : b.winds.length ≤ 7) (h5 : ∀ w ∈ b.winds, w.length ≤ 5) : PureF Tryz.prog p49.ix [.ag (dW b)] (.i .i64 (hJ b.winds b.winds.length)) := by
  have e1 := aH bY b.winds
  refine PureF.run Ot (by simp) (by simp [aR, Pu, aQ]) ?_; conv => whnf
  repeat' first | ((first | refine Qz ?_) <;> conv => whnf)
  refine Rn.loop (fun j : Nat => ⟨(.n (.n (.n .e (some (.i .i64 (hJ b.winds j))) .e) (some (.pt .h 0 0)) .e) none (.n (.n .e (some (.i .i64 (j : Int))) .e) none .e)), .n .e (some (bZ b)) .e, .o .h, none⟩) (fun j => j ≤ b.winds.length) (fun j => b.winds.length - j) 0 ?_ (Nat.zero_le _) ?_
  · refine X.le.mk ?_ ?_ (Nat.le_refl _) rfl rfl
    all_goals (repeat' first | exact T.le_e _ | exact T.le_refl _ | refine T.le_some ?_ rfl ?_ | refine T.le_none ?_ ?_ | refine T.le_ee ?_ ?_)
  intro j hj
  have hj : j ≤ b.winds.length := hj
  conv => whnf
  repeat' first | ((first | refine Qz ?_ | refine Qy ?_) <;> conv => whnf) | (refine WB.tt ?_; conv => whnf) | (refine WB.ff ?_; conv => whnf)
  refine WB.dec (fun h => ?_) (fun h => ?_) <;> conv => whnf
  · have hlt : j < b.winds.length := by omega
    have ew := aN (b.winds.getD j default)
    have e2 : hJ b.winds (j + 1) = hJ b.winds j * ((ints (b.winds.getD j default)).length : Int) := by rw [ew]; rfl
    have hb := vH h5 (j + 1) (by omega)
    have hp := Ir (j + 1) (by omega)
    rw [e2] at hb
    repeat' first | ((first | refine Qz ?_ | refine Qy ?_) <;> conv => whnf) | (refine WB.tt ?_; conv => whnf) | (refine WB.ff ?_; conv => whnf)
    rw [← e2]
    refine Again.to (j + 1) (by omega) (show j + 1 ≤ b.winds.length by omega) (Nat.le_refl _) ?_
    refine Shr.of ?_ ?_ rfl rfl
    · show Rel _ _ ((.n (.n (.n .e (some (.i .i64 (hJ b.winds (j + 1)))) .e) (some (.pt .h 0 0)) .e) none (.n (.n .e (some (.i .i64 ((j + 1 : Nat) : Int))) .e) none .e)) : T D) _
      (repeat' first | exact Rel.e | refine Rel.some ?_ ?_ ?_ | refine Rel.none ?_ ?_ | refine Rel.ee ?_ ?_)
      all_goals show Fz _ _ _ _
      all_goals first | exact .pu trivial | exact .kpt (show _ < 2 by simp [Pos.nat])
    · show Rel _ _ (.n .e (some (bZ b)) .e : T C) _
      (repeat' first | exact Rel.e | refine Rel.some ?_ ?_ ?_ | refine Rel.none ?_ ?_ | refine Rel.ee ?_ ?_)
      all_goals exact RO'.of (show _ < 2 by simp [Pos.nat]) (aL b)
  · obtain rfl : j = b.winds.length := by omega
    repeat' first | ((first | refine Qz ?_ | refine Qy ?_) <;> conv => whnf) | (refine WB.tt ?_; conv => whnf) | (refine WB.ff ?_; conv => whnf)
    exact Fin.i rfl rfl
def rI (b : Bh) : Bool := decide (b.face.length ≤ 5) && (decide (b.sun.length ≤ 7) && (vK b.winds && (decide (b.brk.length ≤ 6) && (decide (b.nts.length ≤ 7) && (decide (aZ b ≠ 0) || decide (hJ b.winds b.winds.length ≤ 80))))))
theorem qX {L : List (List Int)} (h : vK L = true) : L.length ≤ 7 ∧ ∀ w ∈ L, w.length ≤ 5 := by
  unfold vK at h
  simp only [Bool.and_eq_true, decide_eq_true_iff, List.all_eq_true] at h
  exact h
theorem IS (b : Bh) : PureF Tryz.prog p20.ix [.ag (dW b)] (.b (rI b)) := by
  have e1 := aH aV b.brk
  have e2 := aH aV b.nts
  have e3 := aN b.face
  have e4 := aN b.sun
  have cB := BL b.winds
  refine PureF.run NK (by simp) (by simp [aR, Pu, aQ]) ?_; conv => whnf
  unfold rI
  by_cases k0 : b.face.length ≤ 5
  rotate_left
  · rw [decide_eq_false k0]
    repeat' first | ((first | refine Qz ?_ | with_reducible (first | refine Qm ?_ | refine Qn ?_ | refine Qo ?_ | refine Qp ?_ | refine WB.nt ?_ | refine WB.nf ?_ | refine WB.dec (fun h => ?_) (fun h => ?_) | refine WB.ndec (fun h => ?_) (fun h => ?_)) | refine WB.mk (fun h => ?_) (fun h => ?_)) <;> conv => whnf) | (refine WB.tt ?_; conv => whnf) | (refine WB.ff ?_; conv => whnf)
    exact Fin.b rfl rfl
  rw [decide_eq_true k0]
  by_cases k1 : b.sun.length ≤ 7
  rotate_left
  · rw [decide_eq_false k1]
    repeat' first | ((first | refine Qz ?_ | with_reducible (first | refine Qm ?_ | refine Qn ?_ | refine Qo ?_ | refine Qp ?_ | refine WB.nt ?_ | refine WB.nf ?_ | refine WB.dec (fun h => ?_) (fun h => ?_) | refine WB.ndec (fun h => ?_) (fun h => ?_)) | refine WB.mk (fun h => ?_) (fun h => ?_)) <;> conv => whnf) | (refine WB.tt ?_; conv => whnf) | (refine WB.ff ?_; conv => whnf)
    exact Fin.b rfl rfl
  rw [decide_eq_true k1]
  cases k2 : vK b.winds with
  | false =>
    rw [k2] at cB
    repeat' first | ((first | refine Qz ?_ | refine Qf (cB) ?_ | with_reducible (first | refine Qm ?_ | refine Qn ?_ | refine Qo ?_ | refine Qp ?_ | refine WB.nt ?_ | refine WB.nf ?_ | refine WB.dec (fun h => ?_) (fun h => ?_) | refine WB.ndec (fun h => ?_) (fun h => ?_)) | refine WB.mk (fun h => ?_) (fun h => ?_)) <;> conv => whnf) | (refine WB.tt ?_; conv => whnf) | (refine WB.ff ?_; conv => whnf)
    exact Fin.b rfl rfl
  | true =>
  rw [k2] at cB
  by_cases k3 : b.brk.length ≤ 6
  rotate_left
  · rw [decide_eq_false k3]
    repeat' first | ((first | refine Qz ?_ | refine Qf (cB) ?_ | with_reducible (first | refine Qm ?_ | refine Qn ?_ | refine Qo ?_ | refine Qp ?_ | refine WB.nt ?_ | refine WB.nf ?_ | refine WB.dec (fun h => ?_) (fun h => ?_) | refine WB.ndec (fun h => ?_) (fun h => ?_)) | refine WB.mk (fun h => ?_) (fun h => ?_)) <;> conv => whnf) | (refine WB.tt ?_; conv => whnf) | (refine WB.ff ?_; conv => whnf)
    exact Fin.b rfl rfl
  rw [decide_eq_true k3]
  by_cases k4 : b.nts.length ≤ 7
  rotate_left
  · rw [decide_eq_false k4]
    repeat' first | ((first | refine Qz ?_ | refine Qf (cB) ?_ | with_reducible (first | refine Qm ?_ | refine Qn ?_ | refine Qo ?_ | refine Qp ?_ | refine WB.nt ?_ | refine WB.nf ?_ | refine WB.dec (fun h => ?_) (fun h => ?_) | refine WB.ndec (fun h => ?_) (fun h => ?_)) | refine WB.mk (fun h => ?_) (fun h => ?_)) <;> conv => whnf) | (refine WB.tt ?_; conv => whnf) | (refine WB.ff ?_; conv => whnf)
    exact Fin.b rfl rfl
  rw [decide_eq_true k4]
  obtain ⟨q1, q2⟩ := qX k2
  have cF := Cq b (by omega) (by omega) (by omega) (fun w hw => by have := q2 w hw; omega)
  have cM := Dy b q1 q2
  generalize aZ b = f at *
  generalize hJ b.winds b.winds.length = m at *
  by_cases k5 : f ≠ 0
  · rw [decide_eq_true k5]
    repeat' first | ((first | refine Qz ?_ | refine Qf (cB) ?_ | refine Qf (cF) ?_ | with_reducible (first | refine Qm ?_ | refine Qn ?_ | refine Qo ?_ | refine Qp ?_ | refine WB.nt ?_ | refine WB.nf ?_ | refine WB.dec (fun h => ?_) (fun h => ?_) | refine WB.ndec (fun h => ?_) (fun h => ?_)) | refine WB.mk (fun h => ?_) (fun h => ?_)) <;> conv => whnf) | (refine WB.tt ?_; conv => whnf) | (refine WB.ff ?_; conv => whnf)
    exact Fin.b rfl rfl
  rw [decide_eq_false k5, Bool.false_or]
  have k5 : f = 0 := by omega
  subst k5
  by_cases k6 : m ≤ 80
  · rw [decide_eq_true k6]
    repeat' first | ((first | refine Qz ?_ | refine Qf (cB) ?_ | refine Qf (cF) ?_ | refine Qf (cM) ?_ | with_reducible (first | refine Qm ?_ | refine Qn ?_ | refine Qo ?_ | refine Qp ?_ | refine WB.nt ?_ | refine WB.nf ?_ | refine WB.dec (fun h => ?_) (fun h => ?_) | refine WB.ndec (fun h => ?_) (fun h => ?_)) | refine WB.mk (fun h => ?_) (fun h => ?_)) <;> conv => whnf) | (refine WB.tt ?_; conv => whnf) | (refine WB.ff ?_; conv => whnf)
    exact Fin.b rfl (by first | rfl | exact decide_eq_true k6)
  · rw [decide_eq_false k6]
    repeat' first | ((first | refine Qz ?_ | refine Qf (cB) ?_ | refine Qf (cF) ?_ | refine Qf (cM) ?_ | with_reducible (first | refine Qm ?_ | refine Qn ?_ | refine Qo ?_ | refine Qp ?_ | refine WB.nt ?_ | refine WB.nf ?_ | refine WB.dec (fun h => ?_) (fun h => ?_) | refine WB.ndec (fun h => ?_) (fun h => ?_)) | refine WB.mk (fun h => ?_) (fun h => ?_)) <;> conv => whnf) | (refine WB.tt ?_; conv => whnf) | (refine WB.ff ?_; conv => whnf)
    exact Fin.b rfl (by first | rfl | exact decide_eq_false k6)
theorem gD {n : Int} (h : -9223372036854775808 ≤ n ∧ n ≤ 9223372036854775807) : tC .i64 n = true := by
  obtain ⟨h1, h2⟩ := h
  cases n with
  | ofNat m =>
    have h2 : (m : Int) ≤ 9223372036854775807 := h2
    exact Nat.ble_eq_true_of_le (by simp only [gI]; omega)
  | negSucc m =>
    have h1 : -9223372036854775808 ≤ Int.negSucc m := h1
    show (IntKind.signed .i64 && Nat.ble m (gI .i64)) = true
    rw [show IntKind.signed .i64 = true from rfl, Bool.true_and]
    exact Nat.ble_eq_true_of_le (by simp only [gI]; omega)
def Bi (n : Int) : List D := [.i .i64 n]
theorem GA (a : Int) : (Bi a).length = 1 := rfl
theorem zB (a : Int) : aR (Bi a) := by simp [Bi, aR, Pu]
theorem GC (a : Int × Int) : (aV a).length = 2 := rfl
theorem tN (a : Int × Int) : aR (aV a) := by simp [aV, aR, Pu]
def i64 (n : Int) : Prop := -9223372036854775808 ≤ n ∧ n ≤ 9223372036854775807
theorem Dq (h f : Int) (n : Int × Int) (h1 : i64 h) (h2 : i64 f) (h3 : i64 n.1) (h4 : i64 n.2) : PureF Tryz.prog p152.ix [.ag (aV (h, f)), .ag (aV n)] (.b (Gi h f n)) := by
  refine PureF.run JL (by simp) (by simp [aR, Pu, aV]) ?_; conv => whnf
  unfold Gi
  by_cases k : h = n.1
  · repeat' first | ((first | refine Qz ?_ | with_reducible (first | refine Qm ?_ | refine Qn ?_ | refine Qo ?_ | refine Qp ?_ | refine WB.nt ?_ | refine WB.nf ?_ | refine WB.dec (fun h => ?_) (fun h => ?_) | refine WB.ndec (fun h => ?_) (fun h => ?_)) | refine WB.mk (fun h => ?_) (fun h => ?_)) <;> conv => whnf) | (refine WB.tt ?_; conv => whnf) | (refine WB.ff ?_; conv => whnf)
    refine WSt.eqr2 (a := h) (b := f) (a' := n.1) (b' := n.2) rfl rfl (gD h1) (gD h2) (gD h3) (gD h4) ?_; conv => whnf
    by_cases k2 : f = n.2
    · rw [show decide (h = n.1 ∧ f = n.2) = true from decide_eq_true ⟨k, k2⟩]
      repeat' first | ((first | refine Qz ?_ | with_reducible (first | refine Qm ?_ | refine Qn ?_ | refine Qo ?_ | refine Qp ?_ | refine WB.nt ?_ | refine WB.nf ?_ | refine WB.dec (fun h => ?_) (fun h => ?_) | refine WB.ndec (fun h => ?_) (fun h => ?_)) | refine WB.mk (fun h => ?_) (fun h => ?_)) <;> conv => whnf) | (refine WB.tt ?_; conv => whnf) | (refine WB.ff ?_; conv => whnf)
      exact Fin.b rfl (decide_eq_true (.inr k2.symm)).symm
    · rw [show decide (h = n.1 ∧ f = n.2) = false from decide_eq_false fun q => k2 q.2]
      repeat' first | ((first | refine Qz ?_ | with_reducible (first | refine Qm ?_ | refine Qn ?_ | refine Qo ?_ | refine Qp ?_ | refine WB.nt ?_ | refine WB.nf ?_ | refine WB.dec (fun h => ?_) (fun h => ?_) | refine WB.ndec (fun h => ?_) (fun h => ?_)) | refine WB.mk (fun h => ?_) (fun h => ?_)) <;> conv => whnf) | (refine WB.tt ?_; conv => whnf) | (refine WB.ff ?_; conv => whnf)
      exact Fin.b rfl (decide_eq_false (by intro q; rcases q with q | q <;> omega)).symm
  · repeat' first | ((first | refine Qz ?_ | with_reducible (first | refine Qm ?_ | refine Qn ?_ | refine Qo ?_ | refine Qp ?_ | refine WB.nt ?_ | refine WB.nf ?_ | refine WB.dec (fun h => ?_) (fun h => ?_) | refine WB.ndec (fun h => ?_) (fun h => ?_)) | refine WB.mk (fun h => ?_) (fun h => ?_)) <;> conv => whnf) | (refine WB.tt ?_; conv => whnf) | (refine WB.ff ?_; conv => whnf)
    exact Fin.b rfl (decide_eq_true (.inl fun e => k e.symm)).symm
def tE (b : Bh) (h : Nat) (f : Int) : Bool := b.nts.all (Gi (h : Int) f)
def gF (p : Int → Bool) (W : List Int) (j : Nat) : List Int := (W.take j).filter p
theorem Db (p : Int → Bool) (W : List Int) (j : Nat) (hj : j < W.length) : gF p W (j + 1) = if p (W.getD j 0) = true then gF p W j ++ [W.getD j 0] else gF p W j := by
  unfold gF
  rw [fG (d := 0) hj, List.filter_append]
  cases h : p (W.getD j 0) with
  | true => rw [if_pos rfl]; simp only [List.filter_cons, h, List.filter_nil, if_true]
  | false => rw [if_neg (by decide), List.filter_cons_of_neg (by rw [h]; decide), List.filter_nil, List.append_nil]
theorem FG (p : Int → Bool) (W : List Int) (j : Nat) : (gF p W j).length ≤ j := by
  unfold gF
  have := List.length_filter_le p (W.take j)
  rw [List.length_take] at this
  omega
theorem FV (p : Int → Bool) (W : List Int) : gF p W W.length = W.filter p := by unfold gF; rw [List.take_length]
def Fa (b : Bh) (W : List Int) (h : Nat) (A : List Int) (j : Nat) : X := ⟨(.n (.n (.n (.n (.n .e (some (.i .i64 (j : Int))) .e) none .e) none .e) (some (.i .i64 (h : Int))) (.n .e (some (vX (.i .h) 1 A)) (.n .e (some (.lst 1 (ints W))) .e))) none (.n .e (some (.pt .h 0 0)) (.n .e none (.n .e (some (.i .i64 (W.length : Int))) .e)))), (.n .e (some (bZ b)) (.n .e (wU Bi A) .e)), fX (.o .h) (.o (.o .h)) A, none⟩
theorem xE {b : Bh} (hb : 0 ≤ b.last ∧ b.last ≤ 4) {n : Int × Int} (h : gY b n = true) : (0 ≤ n.1 ∧ n.1 ≤ 4) ∧ (0 ≤ n.2 ∧ n.2 ≤ 3) := by
  unfold gY at h
  rw [Bool.and_eq_true] at h
  have := aX h.1; have := aX h.2
  omega
theorem VW.dir {b : Bh} (V : VW b) {h : Nat} (hh : h < b.winds.length) {f : Int} (hf : f ∈ b.winds.getD h default) : 0 ≤ f ∧ f ≤ 3 := by
  have := (iI.1 (hG (d := default) V.wins hh)).2.2
  exact aX (List.all_eq_true.1 this f hf)
set_option maxHeartbeats 2000000 in
theorem BT (b : Bh) (V : VW b) (h : Nat) (hh : h < b.winds.length) (l1 : (b.winds.getD h default).length ≤ 1000) (l2 : b.nts.length ≤ 1000) : PureF Tryz.prog p134.ix [.ag (dW b), .i .i64 (h : Int)] (.lst 1 (ints (aJ b h))) := by
  have e1 := aH bY b.winds
  have hw4 := V.last
  have hwl := V.winl
  obtain ⟨W, hW⟩ : ∃ W, W = b.winds.getD h default := ⟨_, rfl⟩
  have hres : aJ b h = gF (tE b h) W W.length := by rw [FV, hW]; rfl
  have hdir := fun f hf => V.dir hh (f := f) hf
  rw [hres]
  rw [← hW] at l1 hdir
  have e2 := aN W
  have cA : ∀ j, j < W.length → PureF Tryz.prog p129.ix [.lst 2 (aC aV b.nts), .fn p152 [.ag [.i .i64 (h : Int), .i .i64 (W.getD j 0)]] []] (.b (tE b h (W.getD j 0))) := fun j hj => by
    have hd := hdir _ (aM (d := 0) hj)
    exact Dx b.nts p152 [.ag (aV ((h : Int), W.getD j 0))] [] (Gi (h : Int) (W.getD j 0)) (by simp [aR, Pu, aV]) trivial l2 (fun n hn => by
      have hn := xE hw4 (List.all_eq_true.1 V.nts n hn)
      exact Dq _ _ n ⟨by omega, by omega⟩ ⟨by omega, by omega⟩ ⟨by omega, by omega⟩ ⟨by omega, by omega⟩)
  refine PureF.run Mb (by simp) (by simp [aR, Pu, aQ]) ?_; conv => whnf
  repeat' first | ((first | refine Qz ?_ | refine Qy ?_) <;> conv => whnf) | (refine WB.tt ?_; conv => whnf) | (refine WB.ff ?_; conv => whnf)
  rw [← hW]
  refine Rn.loop (fun j : Nat => Fa b W h (gF (tE b h) W j) j) (fun j => j ≤ W.length ∧ True) (fun j => W.length - j) 0 ?_ ?_ ?_
  · refine X.le.mk ?_ ?_ (Nat.le_refl _) rfl rfl
    · show T.le ((.n (.n (.n (.n (.n .e (some (.i .i64 0)) .e) none .e) none .e) (some (.i .i64 (h : Int))) (.n .e (some (.ns)) (.n .e (some (.lst 1 (ints W))) .e))) none (.n .e (some (.pt .h 0 0)) (.n .e none (.n .e (some (.i .i64 (W.length : Int))) .e)))) : Ev.T D) _
      rw [← e2]
      (repeat' first | exact T.le_e _ | refine T.le_some ?_ rfl ?_ | refine T.le_none ?_ ?_ | refine T.le_ee ?_ ?_)
    · show T.le ((.n .e (some (bZ b)) (.n .e none .e)) : Ev.T Ev.C) _
      (repeat' first | exact T.le_e _ | refine T.le_some ?_ rfl ?_ | refine T.le_none ?_ ?_ | refine T.le_ee ?_ ?_)
  · exact ⟨Nat.zero_le _, trivial⟩
  rintro j ⟨hj, _⟩
  have hsc0 := Db (tE b h) W j
  have hAl := FG (tE b h) W j
  have hend : j = W.length → gF (tE b h) W j = gF (tE b h) W W.length := fun h => by rw [h]
  generalize hA : gF (tE b h) W j = A at *
  conv => whnf
  repeat' first | ((first | refine Qz ?_ | refine Qy ?_) <;> conv => whnf) | (refine WB.tt ?_; conv => whnf) | (refine WB.ff ?_; conv => whnf)
  refine WB.dec (fun hd' => ?_) (fun hd' => ?_) <;> conv => whnf
  · have hlt : j < W.length := by omega
    have cA := cA j hlt
    have hsc := hsc0 hlt
    cases hp : tE b h (W.getD j 0) with
    | true =>
      rw [hp] at cA hsc
      rw [if_pos rfl] at hsc
      cases A with
      | nil =>
        repeat' first | ((first | refine Qz ?_ | refine Qf (cA) ?_ | refine Qy ?_) <;> conv => whnf) | (refine WB.tt ?_; conv => whnf) | (refine WB.ff ?_; conv => whnf)
        refine WSt.app_first (r := Bi (W.getD j 0)) (by rfl) (.inl rfl) (by rfl) (by rfl) (by rfl) (by rfl) ?_; conv => whnf
        repeat' first | ((first | refine Qz ?_ | refine Qy ?_) <;> conv => whnf) | (refine WB.tt ?_; conv => whnf) | (refine WB.ff ?_; conv => whnf)
        refine Again.to (j + 1) (by omega) ⟨by omega, trivial⟩ (by show (fX (.o .h) (.o (.o .h)) (gF (tE b h) W j)).nat ≤ (fX (.o .h) (.o (.o .h)) (gF (tE b h) W (j + 1))).nat; rw [hA, hsc]; exact (show 2 ≤ 4 by omega)) ?_
        show Shr _ (Fa b W h (gF (tE b h) W (j + 1)) (j + 1))
        rw [hsc]
        refine Shr.of ?_ ?_ rfl rfl
        · show Rel _ _ ((.n (.n (.n (.n (.n .e (some (.i .i64 ((j + 1 : Nat) : Int))) .e) none .e) none .e) (some (.i .i64 (h : Int))) (.n .e (some ((.sl (.i .h) 0 1 0 1))) (.n .e (some (.lst 1 (ints W))) .e))) none (.n .e (some (.pt .h 0 0)) (.n .e none (.n .e (some (.i .i64 (W.length : Int))) .e)))) : Ev.T D) _
          skip
          (repeat' first | exact Rel.e | refine Rel.some ?_ ?_ ?_ | refine Rel.none ?_ ?_ | refine Rel.ee ?_ ?_)
          all_goals show Fz _ _ _ _
          all_goals first | exact .pu trivial | exact .kpt (show _ < 4 by simp [Pos.nat]) | exact .ksl (show _ < 4 by simp [Pos.nat]) | exact .kmp (show _ < 4 by simp [Pos.nat]) | exact .pu (aB _)
        · show Rel _ _ ((.n .e (some (bZ b)) (.n .e (some (.cells false ((Bi (W.getD j 0)).map fun d => Cell.o d 0) 1)) .e)) : Ev.T Ev.C) _
          skip
          (repeat' first | exact Rel.e | refine Rel.some ?_ ?_ ?_ | refine Rel.none ?_ ?_ | refine Rel.ee ?_ ?_)
          all_goals first
            | exact RO'.of (show _ < 4 by simp [Pos.nat]) (aL b)
            | (refine RO'.of (show _ < 4 by simp [Pos.nat]) (ShC.same fun c hc => ?_); obtain ⟨d, hd, rfl⟩ := List.mem_map.1 hc; exact .pu (aT.1 (zB _) d hd))
      | cons a s =>
        have hs5 : s.length + 1 ≤ 1000 := Nat.le_trans hAl (by omega)
        repeat' first | ((first | refine Qz ?_ | refine Qf (cA) ?_ | refine Qy ?_) <;> conv => whnf) | (refine WB.tt ?_; conv => whnf) | (refine WB.ff ?_; conv => whnf)
        refine WSt.app_one (id := (.i .h)) (ds := (aC Bi (a :: s)).flatten) (r := Bi (W.getD j 0)) (by rfl) (by rfl) (by rfl) (by rfl) (by rfl) (by rfl) (by rw [dT (z := 1) GA]; rfl) (by rfl) (by rfl) (by omega) (by rfl) ?_; conv => whnf
        repeat' first | ((first | refine Qz ?_ | refine Qy ?_) <;> conv => whnf) | (refine WB.tt ?_; conv => whnf) | (refine WB.ff ?_; conv => whnf)
        refine Again.to (j + 1) (by omega) ⟨by omega, trivial⟩ (by show (fX (.o .h) (.o (.o .h)) (gF (tE b h) W j)).nat ≤ (fX (.o .h) (.o (.o .h)) (gF (tE b h) W (j + 1))).nat; rw [hA, hsc, List.cons_append]; exact (show 4 ≤ 4 by omega)) ?_
        show Shr _ (Fa b W h (gF (tE b h) W (j + 1)) (j + 1))
        rw [hsc, List.cons_append]
        refine Shr.of ?_ ?_ rfl rfl
        · show Rel _ _ ((.n (.n (.n (.n (.n .e (some (.i .i64 ((j + 1 : Nat) : Int))) .e) none .e) none .e) (some (.i .i64 (h : Int))) (.n .e (some ((vX (.i .h) 1 (a :: (s ++ [(W.getD j 0)]))))) (.n .e (some (.lst 1 (ints W))) .e))) none (.n .e (some (.pt .h 0 0)) (.n .e none (.n .e (some (.i .i64 (W.length : Int))) .e)))) : Ev.T D) _
          rw [fD]
          (repeat' first | exact Rel.e | refine Rel.some ?_ ?_ ?_ | refine Rel.none ?_ ?_ | refine Rel.ee ?_ ?_)
          all_goals show Fz _ _ _ _
          all_goals first | exact .pu trivial | exact .kpt (show _ < 4 by simp [Pos.nat]) | exact .ksl (show _ < 4 by simp [Pos.nat]) | exact .kmp (show _ < 4 by simp [Pos.nat]) | exact .pu (aB _)
        · show Rel _ _ ((.n .e (some (bZ b)) (.n .e (wU Bi (a :: (s ++ [(W.getD j 0)]))) .e)) : Ev.T Ev.C) _
          rw [fF]
          (repeat' first | exact Rel.e | refine Rel.some ?_ ?_ ?_ | refine Rel.none ?_ ?_ | refine Rel.ee ?_ ?_)
          all_goals first
            | exact RO'.of (show _ < 4 by simp [Pos.nat]) (aL b)
            | (refine RO'.of (show _ < 4 by simp [Pos.nat]) (ShC.grown (by omega) (aT.2 fun d hd => ?_)); rcases List.mem_append.1 hd with hd | hd <;> first | exact aT.1 (eI zB _) d hd | exact aT.1 (zB _) d hd)
    | false =>
      rw [hp] at cA hsc
      rw [if_neg (by decide)] at hsc
      cases A with
      | nil =>
        repeat' first | ((first | refine Qz ?_ | refine Qf (cA) ?_ | refine Qy ?_) <;> conv => whnf) | (refine WB.tt ?_; conv => whnf) | (refine WB.ff ?_; conv => whnf)
        refine Again.to (j + 1) (by omega) ⟨by omega, trivial⟩ (by show (fX (.o .h) (.o (.o .h)) (gF (tE b h) W j)).nat ≤ (fX (.o .h) (.o (.o .h)) (gF (tE b h) W (j + 1))).nat; rw [hA, hsc]; exact (show 2 ≤ 2 by omega)) ?_
        show Shr _ (Fa b W h (gF (tE b h) W (j + 1)) (j + 1))
        rw [hsc]
        refine Shr.of ?_ ?_ rfl rfl
        · show Rel _ _ ((.n (.n (.n (.n (.n .e (some (.i .i64 ((j + 1 : Nat) : Int))) .e) none .e) none .e) (some (.i .i64 (h : Int))) (.n .e (some (.ns)) (.n .e (some (.lst 1 (ints W))) .e))) none (.n .e (some (.pt .h 0 0)) (.n .e none (.n .e (some (.i .i64 (W.length : Int))) .e)))) : Ev.T D) _
          skip
          (repeat' first | exact Rel.e | refine Rel.some ?_ ?_ ?_ | refine Rel.none ?_ ?_ | refine Rel.ee ?_ ?_)
          all_goals show Fz _ _ _ _
          all_goals first | exact .pu trivial | exact .kpt (show _ < 2 by simp [Pos.nat]) | exact .ksl (show _ < 2 by simp [Pos.nat]) | exact .kmp (show _ < 2 by simp [Pos.nat]) | exact .pu (aB _)
        · show Rel _ _ ((.n .e (some (bZ b)) (.n .e none .e)) : Ev.T Ev.C) _
          skip
          (repeat' first | exact Rel.e | refine Rel.some ?_ ?_ ?_ | refine Rel.none ?_ ?_ | refine Rel.ee ?_ ?_)
          all_goals first
            | exact RO'.of (show _ < 2 by simp [Pos.nat]) (aL b)
      | cons a s =>
        repeat' first | ((first | refine Qz ?_ | refine Qf (cA) ?_ | refine Qy ?_) <;> conv => whnf) | (refine WB.tt ?_; conv => whnf) | (refine WB.ff ?_; conv => whnf)
        refine Again.to (j + 1) (by omega) ⟨by omega, trivial⟩ (by show (fX (.o .h) (.o (.o .h)) (gF (tE b h) W j)).nat ≤ (fX (.o .h) (.o (.o .h)) (gF (tE b h) W (j + 1))).nat; rw [hA, hsc]; exact (show 4 ≤ 4 by omega)) ?_
        show Shr _ (Fa b W h (gF (tE b h) W (j + 1)) (j + 1))
        rw [hsc]
        refine Shr.of ?_ ?_ rfl rfl
        · show Rel _ _ ((.n (.n (.n (.n (.n .e (some (.i .i64 ((j + 1 : Nat) : Int))) .e) none .e) none .e) (some (.i .i64 (h : Int))) (.n .e (some ((.sl (.i .h) 0 (s.length + 1) s.length 1))) (.n .e (some (.lst 1 (ints W))) .e))) none (.n .e (some (.pt .h 0 0)) (.n .e none (.n .e (some (.i .i64 (W.length : Int))) .e)))) : Ev.T D) _
          skip
          (repeat' first | exact Rel.e | refine Rel.some ?_ ?_ ?_ | refine Rel.none ?_ ?_ | refine Rel.ee ?_ ?_)
          all_goals show Fz _ _ _ _
          all_goals first | exact .pu trivial | exact .kpt (show _ < 4 by simp [Pos.nat]) | exact .ksl (show _ < 4 by simp [Pos.nat]) | exact .kmp (show _ < 4 by simp [Pos.nat]) | exact .pu (aB _)
        · show Rel _ _ ((.n .e (some (bZ b)) (.n .e (some (.cells false ((aC Bi (a :: s)).flatten.map fun d => Cell.o d s.length) (s.length + 1))) .e)) : Ev.T Ev.C) _
          skip
          (repeat' first | exact Rel.e | refine Rel.some ?_ ?_ ?_ | refine Rel.none ?_ ?_ | refine Rel.ee ?_ ?_)
          all_goals first
            | exact RO'.of (show _ < 4 by simp [Pos.nat]) (aL b)
            | exact RO'.of (show _ < 4 by simp [Pos.nat]) (ShC.G zB a s)
  · have he := hend (by omega)
    rw [← he]
    repeat' first | ((first | refine Qz ?_ | refine Qy ?_) <;> conv => whnf) | (refine WB.tt ?_; conv => whnf) | (refine WB.ff ?_; conv => whnf)
    exact Fin.t (.inr rfl) rfl (Fz.G A (fun h => h) (fun c h => h) GA zB)
end Go.Ev
end
