import Derived.Test.YtkbgaadfednjpaaGreatDoorEvU5f
import Derived.Test.YtkbgaadfednjpaaGreatDoorEvUUp
import Derived.Test.YtkbgaadfednjpaaGreatDoorEvU4v0
import Derived.Test.YtkbgaadfednjpaaGreatDoorEvUIt
import Derived.Test.YtkbgaadfednjpaaGreatDoorEvU4b
import Derived.Test.YtkbgaadfednjpaaGreatDoorEvUFn
import Derived.Test.YtkbgaadfednjpaaGreatDoorEvURn
set_option linter.all false
set_option maxHeartbeats 8000000
noncomputable section
namespace Go.Ev
open Go.Proofs
set_option maxRecDepth 100000
theorem uB (b : Bh) (L : List (List Int)) (hb : i64 b.last) (h1 : L.length ≤ 1000) (h2 : ∀ w ∈ L, w.length ≤ 1000) : PureF Tryz.prog p82.ix [.ag (dW b), .lst 1 (aC bY L)] (.b (gS b L)) := by
  have hb1 := hb.1
  have hb2 := hb.2
  by_cases h : b.last + 1 ≤ 9223372036854775807
  · exact rW b L ⟨by omega, h⟩ h1 h2
  have hl : b.last = 9223372036854775807 := by omega
  have hp : gS b L = false := by
    unfold gS
    rw [decide_eq_false (by omega)]; rfl
  have e1 := aH bY L
  rw [hp]
  refine PureF.run KV (by simp) (by simp [aR, Pu, aQ, aE]) ?_; conv => whnf
  refine Rn.seq ?_; conv => whnf
  refine Rn.reg ?_; conv => whnf
  refine Rn.seq ?_; conv => whnf
  refine Rn.regN 5 ?_; conv => whnf
  refine WReg.cons (GR.add (m := b.last) (n := 1) (v := -9223372036854775808) (by rfl) (by rfl) (by rw [hl]; rfl)) ?_
  refine WReg.at ?_; conv => whnf
  repeat' first | ((first | refine Qz ?_ | with_reducible (first | refine Qm ?_ | refine Qn ?_ | refine Qo ?_ | refine Qp ?_ | refine WB.nt ?_ | refine WB.nf ?_ | refine WB.dec (fun h => ?_) (fun h => ?_) | refine WB.ndec (fun h => ?_) (fun h => ?_)) | refine WB.mk (fun h => ?_) (fun h => ?_)) <;> conv => whnf) | (refine WB.tt ?_; conv => whnf) | (refine WB.ff ?_; conv => whnf)
  exact Fin.b rfl rfl
theorem nZ {b : Bh} (h : gN b = true) : ∀ i, i < (b.last + 1).toNat → aJ b i ≠ [] := fun i hi => by
  obtain ⟨c, hc, _⟩ := List.any_eq_true.1 h
  have h1 := (nG.1 hc).1 i (Nat.zero_le _) (by unfold hrs; omega)
  intro e
  rw [e] at h1
  cases h1
theorem Gz {B : Pos → Prop} {ob : T C} {d : D} (h : Pu d := by simp [Cell.d, Pu, aR, dL, aB, aF, aE, aQ]; done) : Fz B ob d d := .pu h
theorem Jy (d l : Nat) : Int.tmod (d : Int) (l : Int) = ((d % l : Nat) : Int) := by
  rw [Int.tmod_eq_emod_of_nonneg (by omega), Int.natCast_emod]
theorem LB (d l : Nat) : Int.tdiv (d : Int) (l : Int) = ((d / l : Nat) : Int) := by
  rw [Int.tdiv_eq_ediv_of_nonneg (by omega), Int.natCast_ediv]
def AX (ws : List (List Int)) (m : Nat) : Nat → Nat
  | 0 => m
  | j + 1 => AX ws m j / (ws.getD j default).length
theorem Am (ws : List (List Int)) (m : Nat) : ∀ j, AX ws m j ≤ m
  | 0 => Nat.le_refl _
  | j + 1 => Nat.le_trans (Nat.div_le_self _ _) (Am ws m j)
def vD (ws : List (List Int)) (m : Nat) (j : Nat) : List Int := (List.range j).map fun i => (ws.getD i default).getD (AX ws m i % (ws.getD i default).length) 0
theorem FR (ws : List (List Int)) (m j : Nat) : vD ws m (j + 1) = vD ws m j ++ [(ws.getD j default).getD (AX ws m j % (ws.getD j default).length) 0] := by
  unfold vD; rw [List.range_succ, List.map_append]; rfl
theorem Hj (ws : List (List Int)) (m j : Nat) : (vD ws m j).length = j := by simp [vD]
set_option maxHeartbeats 2000000 in
theorem KB (b : Bh) (m : Nat) (hm : m ≤ 100000) (h3 : b.winds.length ≤ 1000) (hw : ∀ w ∈ b.winds, 0 < w.length ∧ w.length ≤ 1000) : PureF Tryz.prog p68.ix [.ag (dW b), .i .i64 (m : Int)] (.lst 1 (ints (vD b.winds m b.winds.length))) := by
  have e1 := aH bY b.winds
  refine PureF.run PC (by simp) (by simp [aR, dL, Pu, aQ]) ?_; conv => whnf
  repeat' first | ((first | refine Qz ?_ | refine Qy ?_) <;> conv => whnf) | (refine WB.tt ?_; conv => whnf) | (refine WB.ff ?_; conv => whnf)
  refine Rn.loopV [(p2, none), (p6, none), (p7, none), (p8, none), (p9, none), (bA, none), (bL, none), (bJ, none), (bH, none), (bO, none), (bP, none), (bV, none), (cG, none), (cY, none), (dH, none), (p20, none), (p21, none), (p22, none), (dU, none), (p24, none), (p25, none), (p26, none), (eS, none), (p28, none), (p29, none), (p30, none), (p31, none), (p32, none), (iT, none), (p34, none)] (fun j : Nat => [(p2, some (.i .i64 (AX b.winds m j : Int))), (p6, some (vX (.i .h) 1 (vD b.winds m j))), (p7, some (.i .i64 (j : Int)))]) (fun j : Nat => [((.i .h), wU Bi (vD b.winds m j))]) (fun j : Nat => fX (.o .h) (.o (.o .h)) (vD b.winds m j)) (fun j : Nat => j ≤ b.winds.length) (fun j : Nat => b.winds.length - j) 0 ?_ ?_ ?_
  · conv => whnf
    (refine X.le.mk ?_ ?_ (Nat.le_refl _) rfl rfl) <;> (repeat' first | exact T.le_e _ | refine T.le_some ?_ rfl ?_ | refine T.le_none ?_ ?_ | refine T.le_ee ?_ ?_)
  rotate_left
  intro xl1 hxl1
  rotate_right
  · exact Nat.zero_le _
  intro j hj
  have hj : j ≤ b.winds.length := hj
  have hsc0 := FR b.winds m j
  have hAl : (vD b.winds m j).length ≤ j := by rw [Hj]; exact Nat.le_refl _
  have hd := Am b.winds m j
  have hz : AX b.winds m (j + 1) = AX b.winds m j / (b.winds.getD j default).length := rfl
  have hend : j = b.winds.length → vD b.winds m j = vD b.winds m b.winds.length := fun h => by rw [← h]
  generalize hA : vD b.winds m j = A at *
  generalize hQ : AX b.winds m j = q at *
  conv => whnf
  repeat' first | ((first | refine Qz ?_ | refine Qy ?_) <;> conv => whnf) | (refine WB.tt ?_; conv => whnf) | (refine WB.ff ?_; conv => whnf)
  refine WB.dec (fun hd2 => ?_) (fun hd2 => ?_) <;> conv => whnf
  · have hlt : j < b.winds.length := by omega
    have hsc := hsc0
    obtain ⟨w1, w2⟩ := hw _ (aM (d := default) hlt)
    have e2 := aN (b.winds.getD j default)
    have hq1 : Int.tdiv (q : Int) ((ints (b.winds.getD j default)).length : Int) = ((AX b.winds m (j + 1) : Nat) : Int) := by rw [e2, LB, hz]
    have hq2 := Am b.winds m (j + 1)
    have hm2 : q % (b.winds.getD j default).length < (b.winds.getD j default).length := Nat.mod_lt _ w1
    have hq3 : Int.tmod (q : Int) ((ints (b.winds.getD j default)).length : Int) = ((q % (b.winds.getD j default).length : Nat) : Int) := by rw [e2, Jy]
    cases A with
    | nil =>
      repeat' first | ((first | refine Qz ?_ | refine WIx.intsE hq3 hm2 ?_ | refine Qy ?_) <;> conv => whnf) | (refine WB.tt ?_; conv => whnf) | (refine WB.ff ?_; conv => whnf)
      refine WSt.app_firstL (r := Bi ((b.winds.getD j default).getD (q % (b.winds.getD j default).length) 0)) (by rfl) (.inl rfl) (by rfl) (by rfl) (by rfl) (by rfl) ?_; conv => whnf
      repeat' first | ((first | refine Qz ?_ | refine And.intro (show InR _ _ by rw [hq1]; exact InR.i64 (by omega) (by omega)) ?_ | refine Qy ?_) <;> conv => whnf) | (refine WB.tt ?_; conv => whnf) | (refine WB.ff ?_; conv => whnf)
      refine AgainB.v (j + 1) (by omega) (show j + 1 ≤ b.winds.length by omega) (by show Pos.nat _ ≤ Pos.nat _; simp only [hA, hsc, fX, List.cons_append, List.nil_append] <;> decide) (by assumption) ?_
      rw [hsc]
      conv => whnf
      refine Shr.of ?_ ?_ rfl rfl
      · (repeat' first | exact Rel.e | refine Rel.some ?_ ?_ ?_ | refine Rel.none ?_ ?_ | refine Rel.ee ?_ ?_)
        all_goals show Fz _ _ _ _
        all_goals first | exact Fq | exact Fz.i hq1 | exact Gz
      · (repeat' first | exact Rel.e | refine Rel.some ?_ ?_ ?_ | refine Rel.none ?_ ?_ | refine Rel.ee ?_ ?_)
        all_goals refine FD ?_
        all_goals first | exact ShC.na zB _ | exact Sq | (refine ShC.same ?_; (repeat' first | exact ShC.nl | refine ShC.cn ?_ ?_) <;> first | exact Fq | exact Fz.i hq1 | exact Gz)
    | cons a s =>
      have hs5 : s.length + 1 ≤ 1000 := Nat.le_trans hAl (by omega)
      repeat' first | ((first | refine Qz ?_ | refine WIx.intsE hq3 hm2 ?_ | refine Qy ?_) <;> conv => whnf) | (refine WB.tt ?_; conv => whnf) | (refine WB.ff ?_; conv => whnf)
      refine WSt.app_oneL (id := (.i .h)) (ds := (aC Bi (a :: s)).flatten) (r := Bi ((b.winds.getD j default).getD (q % (b.winds.getD j default).length) 0)) (by rfl) (by rfl) (by rfl) (by rfl) (by rfl) (by rfl) (by rw [dT (z := 1) GA]; rfl) (by rfl) (by rfl) (by omega) (by rfl) ?_; conv => whnf
      repeat' first | ((first | refine Qz ?_ | refine And.intro (show InR _ _ by rw [hq1]; exact InR.i64 (by omega) (by omega)) ?_ | refine Qy ?_) <;> conv => whnf) | (refine WB.tt ?_; conv => whnf) | (refine WB.ff ?_; conv => whnf)
      refine AgainB.v (j + 1) (by omega) (show j + 1 ≤ b.winds.length by omega) (by show Pos.nat _ ≤ Pos.nat _; simp only [hA, hsc, fX, List.cons_append, List.nil_append] <;> decide) (by assumption) ?_
      rw [hsc, List.cons_append]
      conv => whnf
      (try rw [fD])
      (try rw [fF])
      refine Shr.of ?_ ?_ rfl rfl
      · (repeat' first | exact Rel.e | refine Rel.some ?_ ?_ ?_ | refine Rel.none ?_ ?_ | refine Rel.ee ?_ ?_)
        all_goals show Fz _ _ _ _
        all_goals first | exact Fq | exact Fz.i hq1 | exact Gz
      · (repeat' first | exact Rel.e | refine Rel.some ?_ ?_ ?_ | refine Rel.none ?_ ?_ | refine Rel.ee ?_ ?_)
        all_goals refine FD ?_
        all_goals first | exact ShC.ca zB _ _ | exact Sq | (refine ShC.same ?_; (repeat' first | exact ShC.nl | refine ShC.cn ?_ ?_) <;> first | exact Fq | exact Fz.i hq1 | exact Gz)
  · repeat' first | ((first | refine Qz ?_ | refine Qy ?_) <;> conv => whnf) | (refine WB.tt ?_; conv => whnf) | (refine WB.ff ?_; conv => whnf)
    rw [← hend (by omega)]
    exact Fin.t (.inr rfl) rfl (Fz.G A (fun h => h) (fun c h => h) GA zB)
theorem xF {B : Pos → Prop} {ob : T C} {d : D} (h : Pu d := by simp [Cell.d, Pu, aR, dL, aB, aF, aE, aQ]; done) : Fz B ob d d := .pu h
def Gm (b : Bh) (m : Nat) : List Int := vD b.winds m b.winds.length
def mC (b : Bh) (j : Nat) : List (List Int) := ((List.range j).map (Gm b)).filter (yD b)
theorem Dd (b : Bh) (j : Nat) : mC b (j + 1) = if yD b (Gm b j) = true then mC b j ++ [Gm b j] else mC b j := by
  unfold mC
  rw [List.range_succ, List.map_append, List.filter_append]
  cases h : yD b (Gm b j) <;> simp [h]
theorem xD (b : Bh) (j : Nat) : (mC b j).length ≤ j := by
  unfold mC
  exact Nat.le_trans (List.length_filter_le _ _) (by simp)
def jU (b : Bh) : Nat := (hJ b.winds b.winds.length).toNat
def bC (b : Bh) : List (List Int) := mC b (jU b)
theorem VW.win {b : Bh} (V : VW b) (l6 : ∀ w ∈ b.winds, w.length ≤ 1000) : ∀ w ∈ b.winds, 0 < w.length ∧ w.length ≤ 1000 := fun w hw => ⟨(iI.1 (List.all_eq_true.1 V.wins _ hw)).2.1, l6 w hw⟩
structure Thn (b : Bh) : Prop where
  f : ThF b
  m : aZ b = 0 → 0 ≤ hJ b.winds b.winds.length ∧ hJ b.winds b.winds.length ≤ 80
  w7 : b.winds.length ≤ 7
  w5 : ∀ w ∈ b.winds, w.length ≤ 5
theorem HJ {b : Bh} (h : rI b = true) : Thn b := by
  have F := IQ h
  unfold rI at h
  simp only [Bool.and_eq_true, Bool.or_eq_true, decide_eq_true_iff] at h
  obtain ⟨a1, a2, a3, a4, a5, a6⟩ := h
  obtain ⟨b1, b2⟩ := qX a3
  refine ⟨F, fun hf => ?_, b1, b2⟩
  rcases a6 with a6 | a6
  · exact absurd hf a6
  · exact ⟨(vH b2 _ (Nat.le_refl _)).1, a6⟩
set_option maxHeartbeats 2000000 in
theorem yO (b : Bh) (N : Thn b) (hf : aZ b = 0) : PureF Tryz.prog p65.ix [.ag (dW b)] (.lst 1 (aC bY (bC b))) := by
  have V := (fW hf).v
  obtain ⟨m1, m2⟩ := N.m hf
  have l6 := N.f.l6
  have cM := Dy b N.w7 N.w5
  have eM : ((jU b : Nat) : Int) = hJ b.winds b.winds.length := by unfold jU; omega
  rw [← eM] at cM
  have hM : jU b ≤ 80 := by omega
  refine PureF.run PF (by simp) (by simp [aR, dL, Pu, aQ]) ?_; conv => whnf
  repeat' first | ((first | refine Qz ?_ | refine Qy ?_) <;> conv => whnf) | (refine WB.tt ?_; conv => whnf) | (refine WB.ff ?_; conv => whnf)
  refine Rn.loopV [(p4, none), (p5, none), (p6, none), (p7, none), (p8, none), (p9, none), (bA, none), (bL, none), (bJ, none), (bH, none), (bO, none), (bP, none), (bV, none), (cG, none), (cY, none), (dH, none), (p20, none), (p21, none), (p22, none)] (fun j : Nat => [(p4, some (vX (.i .h) 1 (mC b j))), (p5, some (.i .i64 (j : Int)))]) (fun j : Nat => [((.i .h), wU bY (mC b j))]) (fun j : Nat => fX (.o .h) (.o (.o .h)) (mC b j)) (fun j : Nat => j ≤ jU b) (fun j : Nat => jU b - j) 0 ?_ ?_ ?_
  · conv => whnf
    (refine X.le.mk ?_ ?_ (Nat.le_refl _) rfl rfl) <;> (repeat' first | exact T.le_e _ | refine T.le_some ?_ rfl ?_ | refine T.le_none ?_ ?_ | refine T.le_ee ?_ ?_)
  rotate_left
  intro xl1 hxl1
  rotate_right
  · exact Nat.zero_le _
  intro j hj
  have hj : j ≤ jU b := hj
  have hsc0 := Dd b j
  have hAl := xD b j
  have hend : j = jU b → mC b j = bC b := fun h => by rw [h]; rfl
  generalize hA : mC b j = A at *
  conv => whnf
  repeat' first | ((first | refine Qz ?_ | refine Qf (cM) ?_ | refine Qy ?_) <;> conv => whnf) | (refine WB.tt ?_; conv => whnf) | (refine WB.ff ?_; conv => whnf)
  refine WB.dec (fun hd2 => ?_) (fun hd2 => ?_) <;> conv => whnf
  · have hlt : j < jU b := by omega
    have cN := KB b j (by omega) N.f.l3 (V.win l6)
    have cT := CS b V (Gm b j) l6 N.f.l5
    have cN : PureF Tryz.prog p68.ix [.ag (dW b), .i .i64 (j : Int)] (.lst 1 (ints (Gm b j))) := cN
    have pn := aB (Gm b j)
    cases ht : yD b (Gm b j) with
    | true =>
      rw [ht] at cT
      have hsc : mC b (j + 1) = A ++ [Gm b j] := by rw [hsc0, if_pos ht]
      generalize Gm b j = t at *
      cases A with
      | nil =>
        repeat' first | ((first | refine Qz ?_ | refine Qf (cN) ?_ | refine Qf (cT) ?_ | refine Qy ?_) <;> conv => whnf) | (refine WB.tt ?_; conv => whnf) | (refine WB.ff ?_; conv => whnf)
        refine WSt.app_first (r := bY t) (by rfl) (.inl rfl) (by rfl) (by rfl) (by rfl) (by rfl) ?_; conv => whnf
        repeat' first | ((first | refine Qz ?_ | refine Qy ?_) <;> conv => whnf) | (refine WB.tt ?_; conv => whnf) | (refine WB.ff ?_; conv => whnf)
        refine AgainB.v (j + 1) (by omega) (show j + 1 ≤ jU b by omega) (by show Pos.nat _ ≤ Pos.nat _; simp only [hA, hsc, fX, List.cons_append, List.nil_append] <;> decide) (by assumption) ?_
        rw [hsc]
        conv => whnf
        refine Shr.of ?_ ?_ rfl rfl
        · (repeat' first | exact Rel.e | refine Rel.some ?_ ?_ ?_ | refine Rel.none ?_ ?_ | refine Rel.ee ?_ ?_)
          all_goals show Fz _ _ _ _
          all_goals first | exact Fq | exact xF
        · (repeat' first | exact Rel.e | refine Rel.some ?_ ?_ ?_ | refine Rel.none ?_ ?_ | refine Rel.ee ?_ ?_)
          all_goals refine FD ?_
          all_goals first | exact ShC.na CW _ | exact Sq | (refine ShC.same ?_; (repeat' first | exact ShC.nl | refine ShC.cn ?_ ?_) <;> first | exact Fq | exact xF)
      | cons a s =>
        have hs5 : s.length + 1 ≤ 1000 := Nat.le_trans hAl (by omega)
        repeat' first | ((first | refine Qz ?_ | refine Qf (cN) ?_ | refine Qf (cT) ?_ | refine Qy ?_) <;> conv => whnf) | (refine WB.tt ?_; conv => whnf) | (refine WB.ff ?_; conv => whnf)
        refine WSt.app_one (id := (.i .h)) (ds := (aC bY (a :: s)).flatten) (r := bY t) (by rfl) (by rfl) (by rfl) (by rfl) (by rfl) (by rfl) (by rw [dT (z := 1) Is]; rfl) (by rfl) (by rfl) (by omega) (by rfl) ?_; conv => whnf
        repeat' first | ((first | refine Qz ?_ | refine Qy ?_) <;> conv => whnf) | (refine WB.tt ?_; conv => whnf) | (refine WB.ff ?_; conv => whnf)
        refine AgainB.v (j + 1) (by omega) (show j + 1 ≤ jU b by omega) (by show Pos.nat _ ≤ Pos.nat _; simp only [hA, hsc, fX, List.cons_append, List.nil_append] <;> decide) (by assumption) ?_
        rw [hsc, List.cons_append]
        conv => whnf
        (try rw [fD])
        (try rw [fF])
        refine Shr.of ?_ ?_ rfl rfl
        · (repeat' first | exact Rel.e | refine Rel.some ?_ ?_ ?_ | refine Rel.none ?_ ?_ | refine Rel.ee ?_ ?_)
          all_goals show Fz _ _ _ _
          all_goals first | exact Fq | exact xF
        · (repeat' first | exact Rel.e | refine Rel.some ?_ ?_ ?_ | refine Rel.none ?_ ?_ | refine Rel.ee ?_ ?_)
          all_goals refine FD ?_
          all_goals first | exact ShC.ca CW _ _ | exact Sq | (refine ShC.same ?_; (repeat' first | exact ShC.nl | refine ShC.cn ?_ ?_) <;> first | exact Fq | exact xF)
    | false =>
      rw [ht] at cT
      have hsc : mC b (j + 1) = A := by rw [hsc0, if_neg (by rw [ht]; decide)]
      cases A with
      | nil =>
        repeat' first | ((first | refine Qz ?_ | refine Qf (cN) ?_ | refine Qf (cT) ?_ | refine Qy ?_) <;> conv => whnf) | (refine WB.tt ?_; conv => whnf) | (refine WB.ff ?_; conv => whnf)
        refine AgainB.v (j + 1) (by omega) (show j + 1 ≤ jU b by omega) (by show Pos.nat _ ≤ Pos.nat _; simp only [hA, hsc, fX, List.cons_append, List.nil_append] <;> decide) (by assumption) ?_
        rw [hsc]
        conv => whnf
        refine Shr.of ?_ ?_ rfl rfl
        · (repeat' first | exact Rel.e | refine Rel.some ?_ ?_ ?_ | refine Rel.none ?_ ?_ | refine Rel.ee ?_ ?_)
          all_goals show Fz _ _ _ _
          all_goals first | exact Fq | exact xF
        · (repeat' first | exact Rel.e | refine Rel.some ?_ ?_ ?_ | refine Rel.none ?_ ?_ | refine Rel.ee ?_ ?_)
          all_goals refine FD ?_
          all_goals first | exact Sq | (refine ShC.same ?_; (repeat' first | exact ShC.nl | refine ShC.cn ?_ ?_) <;> first | exact Fq | exact xF)
      | cons a s =>
        repeat' first | ((first | refine Qz ?_ | refine Qf (cN) ?_ | refine Qf (cT) ?_ | refine Qy ?_) <;> conv => whnf) | (refine WB.tt ?_; conv => whnf) | (refine WB.ff ?_; conv => whnf)
        refine AgainB.v (j + 1) (by omega) (show j + 1 ≤ jU b by omega) (by show Pos.nat _ ≤ Pos.nat _; simp only [hA, hsc, fX, List.cons_append, List.nil_append] <;> decide) (by assumption) ?_
        rw [hsc]
        conv => whnf
        refine Shr.of ?_ ?_ rfl rfl
        · (repeat' first | exact Rel.e | refine Rel.some ?_ ?_ ?_ | refine Rel.none ?_ ?_ | refine Rel.ee ?_ ?_)
          all_goals show Fz _ _ _ _
          all_goals first | exact Fq | exact xF
        · (repeat' first | exact Rel.e | refine Rel.some ?_ ?_ ?_ | refine Rel.none ?_ ?_ | refine Rel.ee ?_ ?_)
          all_goals refine FD ?_
          all_goals first | exact ShC.G CW a s | exact Sq | (refine ShC.same ?_; (repeat' first | exact ShC.nl | refine ShC.cn ?_ ?_) <;> first | exact Fq | exact xF)
  · repeat' first | ((first | refine Qz ?_ | refine Qy ?_) <;> conv => whnf) | (refine WB.tt ?_; conv => whnf) | (refine WB.ff ?_; conv => whnf)
    rw [← hend (by omega)]
    exact Fin.t (.inr rfl) rfl (Fz.G A (fun h => h) (fun c h => h) Is CW)
theorem He (b : Bh) (N : Thn b) (hf : aZ b ≠ 0) : PureF Tryz.prog p37.ix [.ag (dW b)] (.tp [.lst 1 [], .i .i64 (aZ b)]) := by
  have cF := qY b N.f.l1 N.f.l2 N.f.l3 N.f.l6
  refine PureF.run IA (by simp) (by simp [aR, dL, Pu, aQ]) ?_; conv => whnf
  repeat' first | ((first | refine Qz ?_ | refine Qf (cF) ?_ | with_reducible (first | refine Qm ?_ | refine Qn ?_ | refine Qo ?_ | refine Qp ?_ | refine WB.nt ?_ | refine WB.nf ?_ | refine WB.dec (fun h => ?_) (fun h => ?_) | refine WB.ndec (fun h => ?_) (fun h => ?_)) | refine WB.mk (fun h => ?_) (fun h => ?_)) <;> conv => whnf) | (refine WB.tt ?_; conv => whnf) | (refine WB.ff ?_; conv => whnf)
  exact Fin.two (.inr rfl) rfl rfl .ns (.pu trivial)
theorem BB (b : Bh) (N : Thn b) (hf : aZ b = 0) (hn : bC b = []) : PureF Tryz.prog p37.ix [.ag (dW b)] (.tp [.lst 1 [], .i .i64 11]) := by
  have cF := qY b N.f.l1 N.f.l2 N.f.l3 N.f.l6
  have cT := yO b N hf
  rw [hf] at cF
  rw [hn] at cT
  have e0 : ((aC bY []).length : Int) = 0 := rfl
  refine PureF.run IA (by simp) (by simp [aR, dL, Pu, aQ]) ?_; conv => whnf
  repeat' first | ((first | refine Qz ?_ | refine Qf (cF) ?_ | refine Qf (cT) ?_ | with_reducible (first | refine Qm ?_ | refine Qn ?_ | refine Qo ?_ | refine Qp ?_ | refine WB.nt ?_ | refine WB.nf ?_ | refine WB.dec (fun h => ?_) (fun h => ?_) | refine WB.ndec (fun h => ?_) (fun h => ?_)) | refine WB.mk (fun h => ?_) (fun h => ?_)) <;> conv => whnf) | (refine WB.tt ?_; conv => whnf) | (refine WB.ff ?_; conv => whnf)
  exact Fin.two (.inr rfl) rfl rfl .ns (.pu trivial)
theorem AU (b : Bh) (N : Thn b) (hf : aZ b = 0) (hn : bC b ≠ []) : PureF Tryz.prog p37.ix [.ag (dW b)] (.tp [.lst 1 (aC bY (bC b)), .i .i64 0]) := by
  have cF := qY b N.f.l1 N.f.l2 N.f.l3 N.f.l6
  have cT := yO b N hf
  have e1 := aH bY (bC b)
  have hp := List.length_pos_iff.2 hn
  rw [hf] at cF
  refine PureF.run IA (by simp) (by simp [aR, dL, Pu, aQ]) ?_; conv => whnf
  repeat' first | ((first | refine Qz ?_ | refine Qf (cF) ?_ | refine Qf (cT) ?_ | with_reducible (first | refine Qm ?_ | refine Qn ?_ | refine Qo ?_ | refine Qp ?_ | refine WB.nt ?_ | refine WB.nf ?_ | refine WB.dec (fun h => ?_) (fun h => ?_) | refine WB.ndec (fun h => ?_) (fun h => ?_)) | refine WB.mk (fun h => ?_) (fun h => ?_)) <;> conv => whnf) | (refine WB.tt ?_; conv => whnf) | (refine WB.ff ?_; conv => whnf)
  exact Fin.two (.inr rfl) rfl rfl (.pu (aE _)) (.pu trivial)
def wS (lo hi : Int) : List D := [.i .i64 lo, .i .i64 hi]
theorem rN (lo hi : Int) : aR (wS lo hi) := ⟨trivial, trivial, trivial⟩
theorem Hg : PureF Tryz.prog p97.ix [] (.ag (wS 1099511627776 (-1))) := by
  refine PureF.run Ph (by simp) (by simp [aR]) ?_; conv => whnf
  repeat' first | ((first | refine Qz ?_ | refine Qy ?_) <;> conv => whnf) | (refine WB.tt ?_; conv => whnf) | (refine WB.ff ?_; conv => whnf)
  exact ⟨.inr rfl, _, rfl, .pu ⟨trivial, trivial, trivial⟩⟩
theorem GF (lo hi n : Int) : PureF Tryz.prog p98.ix [.ag (wS lo hi), .i .i64 n] (.ag (wS (min lo n) (max hi n))) := by
  refine PureF.run NQ (by simp) (by simp [aR, Pu, wS]) ?_; conv => whnf
  repeat' first | ((first | refine Qz ?_ | refine Qy ?_) <;> conv => whnf) | (refine WB.tt ?_; conv => whnf) | (refine WB.ff ?_; conv => whnf)
  exact ⟨.inr rfl, _, rfl, .pu ⟨trivial, trivial, trivial⟩⟩
theorem NL (lo hi : Int) : PureF Tryz.prog p40.ix [.ag (wS lo hi)] (.ag (wS lo hi)) := by
  refine PureF.run NG (by simp) (by simp [aR, Pu, wS]) ?_; conv => whnf
  repeat' first | ((first | refine Qz ?_ | refine Qy ?_) <;> conv => whnf) | (refine WB.tt ?_; conv => whnf) | (refine WB.ff ?_; conv => whnf)
  exact ⟨.inr rfl, _, rfl, .pu ⟨trivial, trivial, trivial⟩⟩
def zM (f : List Int → Int) (Ts : List (List Int)) (j : Nat) : Int := ((Ts.take j).map f).foldl min 1099511627776
def zI (f : List Int → Int) (Ts : List (List Int)) (j : Nat) : Int := ((Ts.take j).map f).foldl max (-1)
theorem EM {f : List Int → Int} {Ts : List (List Int)} {j : Nat} (h : j < Ts.length) : zM f Ts (j + 1) = min (zM f Ts j) (f (Ts.getD j default)) := by
  unfold zM; rw [nS (d := default) h, List.map_append, List.foldl_append]; rfl
theorem Gb {f : List Int → Int} {Ts : List (List Int)} {j : Nat} (h : j < Ts.length) : zI f Ts (j + 1) = max (zI f Ts j) (f (Ts.getD j default)) := by
  unfold zI; rw [nS (d := default) h, List.map_append, List.foldl_append]; rfl
def Ob (lo hi : Int) : C := .cells false [.o (.i .i64 lo) 0, .o (.i .i64 hi) 0] 1
theorem Mz {B : Pos → Prop} {ob : T C} {lo hi : Int} : ShC B ob (Ob lo hi) (Ob lo hi) := by
  refine ShC.same ?_
  (repeat' first | exact ShC.nl | refine ShC.cn ?_ ?_) <;> exact .pu trivial
theorem GW {τ : Type} (H : Nat → Nat → τ) {n m r : Nat} (hr : r < n) : (oZ H n m).getD r default = (List.range m).map (H r) := by simp [oZ, List.getD, hr]
instance : Inhabited Hr := ⟨⟨0, 0, 0⟩⟩
def cR (f : Nat → Int) : Nat → Int
  | 0 => 0
  | j + 1 => cR f j + f j
theorem dP {f g : Nat → Int} : ∀ {n : Nat}, (∀ i, i < n → f i = g i) → cR f n = cR g n
  | 0, _ => rfl
  | n + 1, h => by
    show cR f n + f n = cR g n + g n
    rw [dP fun i hi => h i (by omega), h n (by omega)]
theorem lL (f : Nat → Int) : ∀ n, cR f (n + 1) = f 0 + cR (fun i => f (i + 1)) n
  | 0 => by simp [cR]
  | n + 1 => by
    have h1 : cR f (n + 1 + 1) = cR f (n + 1) + f (n + 1) := rfl
    have h2 : cR (fun i => f (i + 1)) (n + 1) = cR (fun i => f (i + 1)) n + f (n + 1) := rfl
    rw [h1, lL f n, h2]; omega
theorem uU (f : Nat → Int) : ∀ n, jY f 0 n = cR f n
  | 0 => rfl
  | n + 1 => by
    show (if 0 ≤ n then jY f 0 n + f n else 0) = _
    rw [if_pos (Nat.zero_le _), uU f n]; rfl
theorem rJ (F : Nat → Int → Int) : ∀ (t : List Int) (h : Nat), mK F h t = cR (fun i => F (h + i) (t.getD i 0)) t.length
  | [], h => rfl
  | a :: t, h => by
    show F h a + mK F (h + 1) t = cR _ (t.length + 1)
    rw [lL, rJ F t (h + 1)]
    congr 1
    refine dP fun i _ => ?_
    show F (h + 1 + i) (t.getD i 0) = F (h + (i + 1)) (t.getD i 0)
    rw [show h + 1 + i = h + (i + 1) by omega]
theorem sY (g : Nat → Int) : ∀ (n h : Nat), oT g h n = cR (fun i => g (h + i)) n
  | 0, h => rfl
  | n + 1, h => by
    show g h + oT g (h + 1) n = cR _ (n + 1)
    rw [lL, sY g n (h + 1)]
    congr 1
    refine dP fun i _ => ?_
    rw [show h + 1 + i = h + (i + 1) by omega]
theorem uX : ∀ (L : List Int) (a : Int), IsMn (a :: L) (L.foldl min a)
  | [], a => ⟨by simp, fun x hx => by rw [List.mem_singleton.1 hx]; exact Int.le_refl _⟩
  | c :: L, a => by
    have h := uX L (min a c)
    rw [List.foldl_cons]
    refine ⟨?_, fun x hx => ?_⟩
    · rcases List.mem_cons.1 h.1 with e | e
      · rw [e]; rcases DF a c with k | k <;> rw [k] <;> simp
      · exact List.mem_cons_of_mem _ (List.mem_cons_of_mem _ e)
    · have h0 := h.2 (min a c) (by simp)
      rcases List.mem_cons.1 hx with rfl | hx
      · omega
      rcases List.mem_cons.1 hx with rfl | hx
      · omega
      exact h.2 x (List.mem_cons_of_mem _ hx)
theorem wE : ∀ (L : List Int) (a : Int), IsMx (a :: L) (L.foldl max a)
  | [], a => ⟨by simp, fun x hx => by rw [List.mem_singleton.1 hx]; exact Int.le_refl _⟩
  | c :: L, a => by
    have h := wE L (max a c)
    rw [List.foldl_cons]
    refine ⟨?_, fun x hx => ?_⟩
    · rcases List.mem_cons.1 h.1 with e | e
      · rw [e]; rcases Gd a c with k | k <;> rw [k] <;> simp
      · exact List.mem_cons_of_mem _ (List.mem_cons_of_mem _ e)
    · have h0 := h.2 (max a c) (by simp)
      rcases List.mem_cons.1 hx with rfl | hx
      · omega
      rcases List.mem_cons.1 hx with rfl | hx
      · omega
      exact h.2 x (List.mem_cons_of_mem _ hx)
theorem Ch {L : List Int} (h : L ≠ []) : IsMn L (L.foldl min (L.getD 0 0)) := by
  cases L with
  | nil => exact absurd rfl h
  | cons a L =>
    have k := uX L a
    have e : (a :: L).foldl min ((a :: L).getD 0 0) = L.foldl min a := by
      show (a :: L).foldl min a = _
      rw [List.foldl_cons]; congr 1; omega
    rw [e]; exact k
theorem Cc {L : List Int} (h : L ≠ []) : IsMx L (L.foldl max (L.getD 0 0)) := by
  cases L with
  | nil => exact absurd rfl h
  | cons a L =>
    have k := wE L a
    have e : (a :: L).foldl max ((a :: L).getD 0 0) = L.foldl max a := by
      show (a :: L).foldl max a = _
      rw [List.foldl_cons]; congr 1; omega
    rw [e]; exact k
theorem Cd {L : List Int} {c : Int} (h : L ≠ []) (k : ∀ x ∈ L, x ≤ c) : IsMn L (L.foldl min c) := by
  cases L with
  | nil => exact absurd rfl h
  | cons a L =>
    rw [List.foldl_cons, show min c a = a by have := k a (by simp); omega]
    exact uX L a
theorem Cn {L : List Int} {c : Int} (h : L ≠ []) (k : ∀ x ∈ L, c ≤ x) : IsMx L (L.foldl max c) := by
  cases L with
  | nil => exact absurd rfl h
  | cons a L =>
    rw [List.foldl_cons, show max c a = a by have := k a (by simp); omega]
    exact wE L a
theorem IsMn.congr {l m : List Int} {a : Int} (h : IsMn l a) (k : ∀ x, x ∈ l ↔ x ∈ m) : IsMn m a := ⟨(k a).1 h.1, fun x hx => h.2 x ((k x).2 hx)⟩
theorem IsMx.congr {l m : List Int} {a : Int} (h : IsMx l a) (k : ∀ x, x ∈ l ↔ x ∈ m) : IsMx m a := ⟨(k a).1 h.1, fun x hx => h.2 x ((k x).2 hx)⟩
theorem yL (w : List Int) (ws : List (List Int)) (m : Nat) : ∀ j, AX (w :: ws) m (j + 1) = AX ws (m / w.length) j
  | 0 => rfl
  | j + 1 => by
    show AX (w :: ws) m (j + 1) / ((w :: ws).getD (j + 1) default).length = AX ws (m / w.length) j / (ws.getD j default).length
    rw [yL w ws m j]; rfl
theorem Dl (w : List Int) (ws : List (List Int)) (m j : Nat) : vD (w :: ws) m (j + 1) = w.getD (m % w.length) 0 :: vD ws (m / w.length) j := by
  unfold vD
  rw [List.range_succ_eq_map, List.map_cons, List.map_map]
  congr 1
  refine List.map_congr_left fun i _ => ?_
  show ((w :: ws).getD (i + 1) default).getD (AX (w :: ws) m (i + 1) % ((w :: ws).getD (i + 1) default).length) 0 = _
  rw [yL]; rfl
def Gf : List (List Int) → Nat
  | [] => 1
  | w :: ws => w.length * Gf ws
theorem uL (w : List Int) (ws : List (List Int)) : ∀ j, hJ (w :: ws) (j + 1) = (w.length : Int) * hJ ws j
  | 0 => by
    show (1 : Int) * ((w :: ws).getD 0 default).length = (w.length : Int) * 1
    simp
  | j + 1 => by
    show hJ (w :: ws) (j + 1) * (((w :: ws).getD (j + 1) default).length : Int) = (w.length : Int) * (hJ ws j * ((ws.getD j default).length : Int))
    rw [uL w ws j, Int.mul_assoc]; rfl
theorem yK : ∀ ws : List (List Int), hJ ws ws.length = (Gf ws : Int)
  | [] => rfl
  | w :: ws => by
    show hJ (w :: ws) (ws.length + 1) = _
    rw [uL, yK ws]
    exact (Int.natCast_mul _ _).symm
theorem FM (b : Bh) : jU b = Gf b.winds := by unfold jU; rw [yK]; exact Int.toNat_natCast _
theorem Ed : ∀ (ws : List (List Int)) (t : List Int), t.length = ws.length → (∀ i, i < ws.length → t.getD i 0 ∈ ws.getD i default) → ∃ n, n < Gf ws ∧ vD ws n ws.length = t
  | [], t, h, _ => ⟨0, by decide, by cases t with | nil => rfl | cons _ _ => simp at h⟩
  | w :: ws, [], h, _ => by simp at h
  | w :: ws, a :: t, h, k => by
    obtain ⟨n, h1, h2⟩ := Ed ws t (by simpa using h) fun i hi => k (i + 1) (by simpa using hi)
    obtain ⟨i, hi, ei⟩ := sI (d := (0 : Int)) (k 0 (by simp))
    have hi : i < w.length := hi
    have ei : w.getD i 0 = a := ei
    have hw : 0 < w.length := by omega
    have e1 : (i + w.length * n) % w.length = i := by rw [Nat.add_mul_mod_self_left, Nat.mod_eq_of_lt hi]
    have e2 : (i + w.length * n) / w.length = n := by rw [Nat.add_mul_div_left _ _ hw, Nat.div_eq_of_lt hi]; omega
    refine ⟨i + w.length * n, ?_, ?_⟩
    · show i + w.length * n < w.length * Gf ws
      have := Nat.mul_le_mul_left w.length h1
      rw [Nat.succ_eq_add_one, Nat.mul_add] at this
      omega
    · show vD (w :: ws) _ (ws.length + 1) = _
      rw [Dl, e1, e2, h2, ei]
theorem cZ {b : Bh} (V : VW b) {t : List Int} : t ∈ bC b ↔ TruP b t := by
  unfold bC mC
  rw [List.mem_filter, List.mem_map]
  constructor
  · rintro ⟨_, h⟩
    exact (yN V).1 h
  · intro h
    refine ⟨?_, (yN V).2 h⟩
    have hl := h.len
    rw [V.hrs] at hl
    obtain ⟨n, h1, h2⟩ := Ed b.winds t hl fun i hi => (jK.1 (h.mem i (by rw [V.hrs]; exact hi))).1
    exact ⟨n, List.mem_range.2 (by rw [FM]; exact h1), h2⟩
theorem kT {b : Bh} (V : VW b) : bC b ≠ [] ↔ gN b = true := by
  constructor
  · intro h
    cases hb : bC b with
    | nil => exact absurd hb h
    | cons t ts =>
      have h1 := (Ca V).2 ((cZ V).1 (by rw [hb]; simp : t ∈ bC b))
      unfold Nq at h1
      obtain ⟨c, hc, _⟩ := List.any_eq_true.1 h1
      exact List.any_eq_true.2 ⟨c, hc, rfl⟩
  · intro h e
    obtain ⟨c, hc, _⟩ := List.any_eq_true.1 h
    have h1 : Nq b ((MP c).take (hrs b)) = true := List.any_eq_true.2 ⟨c, hc, by simp⟩
    have h2 := (cZ V).2 ((Ca V).1 h1)
    rw [e] at h2
    cases h2
theorem oB {b : Bh} {t : List Int} : t ∈ Gy b ↔ TruP b t := by
  unfold Gy
  rw [wP]
  have e : (hU b).length = hrs b := by simp [hU, hrs]
  have g : ∀ i, i < hrs b → (hU b).getD i [] = aJ b i := fun i hi => by
    have hi : i < (b.last + 1).toNat := hi
    simp [hU, List.getD, hi]
  rw [e]
  constructor
  · rintro ⟨h1, h2⟩
    exact ⟨h1, fun i hi => by rw [← g i hi]; exact h2 i hi⟩
  · rintro ⟨h1, h2⟩
    exact ⟨h1, fun i hi => by rw [g i hi]; exact h2 i hi⟩
section
variable {b : Bh} {S : Nat → Nat → Int} {P : List (Int × Int)} {κ : Hr → Int} {f : List Int → Int}
theorem EC (V : VW b) (hT : bC b ≠ []) (hf : ∀ t, TruP b t → f t = cR (fun h => kq b S P κ h (t.getD h 0)) (hrs b)) (hb : ∀ t, TruP b t → f t ≤ 1099511627776) : jY (oQ b S P κ) 0 (0 + (b.last + 1).toNat) = zM f (bC b) (bC b).length := by
  have hne := nZ ((kT V).1 hT)
  have e : (hU b).length = hrs b := by simp [hU, hrs]
  have h1 : IsMn ((Gy b).map (mK (fun h d => kq b S P κ h d) 0)) (oT (oQ b S P κ) 0 (hU b).length) := Bq _ _ _ 0 fun i hi => by
    have hi : i < (b.last + 1).toNat := by rw [e] at hi; exact hi
    rw [Nat.zero_add]
    have g : (hU b).getD i [] = aJ b i := by simp [hU, List.getD, hi]
    rw [g]
    exact Ch (L := kV b S P κ i) fun k => hne i hi (List.map_eq_nil_iff.1 k)
  rw [sY, e] at h1
  have h2 : jY (oQ b S P κ) 0 (0 + (b.last + 1).toNat) = cR (fun i => oQ b S P κ (0 + i)) (hrs b) := by
    rw [Nat.zero_add, uU]
    exact dP fun i _ => by rw [Nat.zero_add]
  rw [h2]
  refine h1.uniq (IsMn.congr (l := (bC b).map f) ?_ ?_)
  · have h3 := Cd (L := (bC b).map f) (c := 1099511627776) (fun k => hT (List.map_eq_nil_iff.1 k)) (fun x hx => by
      obtain ⟨t, ht, rfl⟩ := List.mem_map.1 hx
      exact hb t ((cZ V).1 ht))
    unfold zM
    rw [List.take_length]
    exact h3
  · intro x
    have key : ∀ t, TruP b t → mK (fun h d => kq b S P κ h d) 0 t = f t := fun t ht => by
      rw [rJ, hf t ht, ht.len]
      exact dP fun i _ => by rw [Nat.zero_add]
    rw [List.mem_map, List.mem_map]
    constructor
    · rintro ⟨t, ht, rfl⟩
      have tp := (cZ V).1 ht
      exact ⟨t, oB.2 tp, key t tp⟩
    · rintro ⟨t, ht, rfl⟩
      have tp := oB.1 ht
      exact ⟨t, (cZ V).2 tp, (key t tp).symm⟩
theorem EY (V : VW b) (hT : bC b ≠ []) (hf : ∀ t, TruP b t → f t = cR (fun h => kq b S P κ h (t.getD h 0)) (hrs b)) (hb : ∀ t, TruP b t → -1 ≤ f t) : jY (oO b S P κ) 0 (0 + (b.last + 1).toNat) = zI f (bC b) (bC b).length := by
  have hne := nZ ((kT V).1 hT)
  have e : (hU b).length = hrs b := by simp [hU, hrs]
  have h1 : IsMx ((Gy b).map (mK (fun h d => kq b S P κ h d) 0)) (oT (oO b S P κ) 0 (hU b).length) := AK _ _ _ 0 fun i hi => by
    have hi : i < (b.last + 1).toNat := by rw [e] at hi; exact hi
    rw [Nat.zero_add]
    have g : (hU b).getD i [] = aJ b i := by simp [hU, List.getD, hi]
    rw [g]
    exact Cc (L := kV b S P κ i) fun k => hne i hi (List.map_eq_nil_iff.1 k)
  rw [sY, e] at h1
  have h2 : jY (oO b S P κ) 0 (0 + (b.last + 1).toNat) = cR (fun i => oO b S P κ (0 + i)) (hrs b) := by
    rw [Nat.zero_add, uU]
    exact dP fun i _ => by rw [Nat.zero_add]
  rw [h2]
  refine h1.uniq (IsMx.congr (l := (bC b).map f) ?_ ?_)
  · have h3 := Cn (L := (bC b).map f) (c := -1) (fun k => hT (List.map_eq_nil_iff.1 k)) (fun x hx => by
      obtain ⟨t, ht, rfl⟩ := List.mem_map.1 hx
      exact hb t ((cZ V).1 ht))
    unfold zI
    rw [List.take_length]
    exact h3
  · intro x
    have key : ∀ t, TruP b t → mK (fun h d => kq b S P κ h d) 0 t = f t := fun t ht => by
      rw [rJ, hf t ht, ht.len]
      exact dP fun i _ => by rw [Nat.zero_add]
    rw [List.mem_map, List.mem_map]
    constructor
    · rintro ⟨t, ht, rfl⟩
      have tp := (cZ V).1 ht
      exact ⟨t, oB.2 tp, key t tp⟩
    · rintro ⟨t, ht, rfl⟩
      have tp := oB.1 ht
      exact ⟨t, (cZ V).2 tp, (key t tp).symm⟩
end
structure Kap (κ : Hr → Int) : Prop where
  z : κ ⟨0, 0, 0⟩ = 0
  a : ∀ x y, κ (mN x y) = κ x + κ y
  b : ∀ (x : Hr) (n : Int), (0 ≤ x.sun ∧ x.sun ≤ n) ∧ (0 ≤ x.calm ∧ x.calm ≤ n) ∧ (0 ≤ x.good ∧ x.good ≤ n) → 0 ≤ κ x ∧ κ x ≤ n
theorem Kap.sun : Kap fun x => x.sun := ⟨rfl, fun _ _ => rfl, fun _ _ h => h.1⟩
theorem Kap.calm : Kap fun x => x.calm := ⟨rfl, fun _ _ => rfl, fun _ _ h => h.2.1⟩
theorem Kap.good : Kap fun x => x.good := ⟨rfl, fun _ _ => rfl, fun _ _ h => h.2.2⟩
theorem Ck {κ : Hr → Int} (K : Kap κ) (b : Bh) (S : Nat → Nat → Int) (p : Int × Int) (t : List Int) : ∀ j, κ (dJ b S p t j) = cR (fun h => κ (iS b p (S h p.1.toNat) h (t.getD h 0))) j
  | 0 => K.z
  | j + 1 => by
    show κ (mN (dJ b S p t j) _) = cR _ j + _
    rw [K.a, Ck K b S p t j]
theorem HW {κ : Hr → Int} (K : Kap κ) (b : Bh) (S : Nat → Nat → Int) (p : Int × Int) (h : Nat) (d : Int) : kq b S [p] κ h d = κ (iS b p (S h p.1.toNat) h d) := by
  show κ (mN ⟨0, 0, 0⟩ (iS b p (S h p.1.toNat) h d)) = _
  rw [K.a, K.z, Int.zero_add]
theorem lH : ∀ {es : List (List D)}, (∀ x ∈ es, FitL [.i .i64] x) → ∃ l : List Int, es = ints l
  | [], _ => ⟨[], rfl⟩
  | x :: es, h => by
    obtain ⟨l, rfl⟩ := lH (es := es) fun y hy => h y (by simp [hy])
    have h1 := h x (by simp)
    simp only [FitL, gH] at h1
    obtain ⟨d, ds, rfl, ⟨n1, rfl, w1⟩, rfl⟩ := h1
    exact ⟨n1 :: l, rfl⟩
theorem rS : ∀ {es : List (List D)}, (∀ x ∈ es, FitL [.sl [.i .i64]] x) → ∃ l : List (List Int), es = aC bY l
  | [], _ => ⟨[], rfl⟩
  | x :: es, h => by
    obtain ⟨l, rfl⟩ := rS (es := es) fun y hy => h y (by simp [hy])
    have h1 := h x (by simp)
    simp only [FitL, gH] at h1
    obtain ⟨d, ds, rfl, ⟨e1, rfl, k1⟩, rfl⟩ := h1
    obtain ⟨w, rfl⟩ := lH fun x hx => by have := k1 x hx; simpa only [FitL, gH] using this
    exact ⟨w :: l, rfl⟩
theorem vN : ∀ {es : List (List D)}, (∀ x ∈ es, FitL [.i .i64, .i .i64] x) → ∃ l : List (Int × Int), es = aC aV l
  | [], _ => ⟨[], rfl⟩
  | x :: es, h => by
    obtain ⟨l, rfl⟩ := vN (es := es) fun y hy => h y (by simp [hy])
    have h1 := h x (by simp)
    simp only [FitL, gH] at h1
    obtain ⟨d, ds, rfl, ⟨n1, rfl, w1⟩, d2, ds2, rfl, ⟨n2, rfl, w2⟩, rfl⟩ := h1
    exact ⟨(n1, n2) :: l, rfl⟩
theorem FitP.wins {ps : List (Bool × List CK)} {ds : List D} (h : FitP ((false, [.sl [.sl [.i .i64]]]) :: ps) ds) : ∃ (t : List (List Int)) (ds' : List D), ds = .lst 1 (aC bY t) :: ds' ∧ FitP ps ds' := by
  unfold FitP at h
  obtain ⟨d, ds', rfl, h1, h2⟩ := h
  simp only [FitL, gH] at h1
  obtain ⟨d, ds, e, ⟨es, rfl, h1⟩, rfl⟩ := h1
  cases e
  obtain ⟨l, rfl⟩ := rS fun x hx => by have := h1 x hx; simpa only [FitL, gH] using this
  exact ⟨l, ds', rfl, h2⟩
theorem sS {n : Int} (h : (Lit.int .i64 n).wf = true) : i64 n := by
  simp only [Lit.wf, Bool.and_eq_true, decide_eq_true_eq] at h
  exact ⟨h.1, h.2⟩
theorem FitP.beachW {ps : List (Bool × List CK)} {ds : List D} (h : FitP ((true, [.i .i64, .i .i64, .i .i64, .i .i64, .sl [.i .i64], .sl [.i .i64], .sl [.sl [.i .i64]], .sl [.i .i64, .i .i64], .sl [.i .i64, .i .i64]]) :: ps) ds) : ∃ (b : Bh) (ds' : List D), ds = .ag (dW b) :: ds' ∧ (i64 b.last ∧ i64 b.rws ∧ i64 b.pls) ∧ FitP ps ds' := by
  unfold FitP at h
  obtain ⟨es, ds', rfl, h1, h2⟩ := h
  simp only [FitL, gH] at h1
  obtain ⟨d, ds, rfl, ⟨n1, rfl, w1⟩, d2, ds2, rfl, ⟨n2, rfl, w2⟩, d3, ds3, rfl, ⟨n3, rfl, w3⟩, d4, ds4, rfl, ⟨n4, rfl, _⟩, d5, ds5, rfl, ⟨e5, rfl, k5⟩, d6, ds6, rfl, ⟨e6, rfl, k6⟩, d7, ds7, rfl, ⟨e7, rfl, k7⟩, d8, ds8, rfl, ⟨e8, rfl, k8⟩, d9, ds9, rfl, ⟨e9, rfl, k9⟩, rfl⟩ := h1
  obtain ⟨l5, rfl⟩ := lH fun x hx => by have := k5 x hx; simpa only [FitL, gH] using this
  obtain ⟨l6, rfl⟩ := lH fun x hx => by have := k6 x hx; simpa only [FitL, gH] using this
  obtain ⟨l7, rfl⟩ := rS fun x hx => by have := k7 x hx; simpa only [FitL, gH] using this
  obtain ⟨l8, rfl⟩ := vN fun x hx => by have := k8 x hx; simpa only [FitL, gH] using this
  obtain ⟨l9, rfl⟩ := vN fun x hx => by have := k9 x hx; simpa only [FitL, gH] using this
  exact ⟨⟨n1, n2, n3, n4, l5, l6, l7, l8, l9⟩, ds', rfl, ⟨sS w1, sS w2, sS w3⟩, h2⟩
set_option maxRecDepth 1000000
set_option maxRecDepth 100000
theorem HM (l : List (List Bnd)) : dL (aC pH l) := gR pU l
theorem HX (l : List Bnd) : dL (aC ND l) := gR Kf l
instance : Inhabited Bnd := ⟨⟨0, 0, 0, 0, 0⟩⟩
theorem Dr {b : Bh} {t u : Bool} (h : aZ b ≠ 0) : lU b t u = aZ b := if_neg h
theorem lZ {b : Bh} {u : Bool} (h : aZ b = 0) : lU b false u = 2 := if_pos h
theorem BF {b : Bh} (h : aZ b = 0) : lU b true false = 11 := if_pos h
theorem Hp {b : Bh} (h : aZ b = 0) : lU b true true = 0 := if_pos h
open Go.RowKit (Below Grown)
theorem PureF.memO {P : Program} {f : FuncId} {es ds : List D} {v v' : D} {ob' : T C} {nx' : Pos} {lg' : Option (T Bool)} (K : CallOk P f es .e .h none v ob' nx' lg') (hz : GE ob' 12 v = some v') (hds : FzL (fun _ => False) .e ds es) : PureF P f ds v' := by
 intro ob nx lg
 refine ⟨LgLe.refl _, Nat.le_refl _, Keeps.refl _ _, fun so hs γ args w gh hargs hob hnx => ?_⟩
 let γs : Gh := ⟨fun _ => 0, fun _ _ => (0, 0), fun b => γ.im b \/ ((∃ id st, st < γ.cur id /\ (γ.β id st).1 = b) /\ ∃ vs e fr, w.heap[b]? = some (.cells vs e fr))⟩
 have hargs' : DVL γs w es args.toList := by
  have h1 : DV γ w (.tp ds) (.tuple args) := by unfold DV; exact ⟨args, rfl, hargs⟩
  have h2 := Fz.ok (P := P) (γ := γ) (γ' := γs) (B := fun _ => False) (fun b hb => .inl hb) (ob := .e) (fun id c hc => by rw [T.get_e] at hc; cases hc) (fun _ h => h.elim) (fun id st vs e fr _ hst hc => .inr ⟨⟨id, st, hst, rfl⟩, vs, e, fr, hc⟩) (.tp hds) _ h1
  obtain ⟨vs, e, h3⟩ := sJ h2
  cases e
  exact h3
 obtain ⟨c1, c2⟩ := K.ok (fun _ => True) (fun _ _ => trivial) γs args w ⟨fun _ st h => absurd h (Nat.not_lt_zero st), fun _ st _ _ h => absurd h (Nat.not_lt_zero st), fun b hb => ⟨by
  rcases hb with hb | hb
  ·exact (gh.im b hb).1
  ·exact hb.2, fun _ st h => absurd h (Nat.not_lt_zero st)⟩, gh.gl.im fun _ h => .inl h⟩ hargs' (fun id c _ hc => by rw [T.get_e] at hc; cases hc) (fun _ _ _ => rfl)
 refine ⟨c1, fun ro m R hR => c2 ro m R fun γ' w' u gh' F hu hob' _ => ?_⟩
 have hb : ∀ b, b < w.heap.size -> w'.heap[b]? = w.heap[b]? := fun b hb => F.blk b hb fun id st _ hst => absurd hst (Nat.not_lt_zero st)
 have hnew : ∀ id st, st < γ'.cur id -> w.heap.size <= (γ'.β id st).1 := fun id st hst => by
  rcases F.new id st (Nat.zero_le _) hst with h | ⟨iA, h, _⟩
  ·exact h
  ·exact absurd h (Nat.not_lt_zero iA)
 let γ2 : Gh := ⟨γ.cur, γ.β, fun b => γ.im b \/ ((∃ id st, st < γ'.cur id /\ (γ'.β id st).1 = b) /\ ∃ vs e fr, w'.heap[b]? = some (.cells vs e fr))⟩
 have U : Up γ γ2 w w' := ⟨fun _ => Nat.le_refl _, fun _ _ _ => rfl, F.up.3, fun b hm => ⟨.inl hm, fun o ho => by rw [hb b (Array.getElem?_eq_some_iff.1 ho).1]; exact ho⟩⟩
 have U0 : Up γ γ w w' := ⟨fun _ => Nat.le_refl _, fun _ _ _ => rfl, F.up.3, fun b hm => ⟨hm, fun o ho => by rw [hb b (Array.getElem?_eq_some_iff.1 ho).1]; exact ho⟩⟩
 refine hR γ2 w' u ⟨fun id st hst => Nat.lt_of_lt_of_le (gh.ob id st hst) F.size, gh.inj, fun b hm => ?_, (gh.gl.up U0).im fun _ h => .inl h⟩ ⟨U, fun _ _ => rfl, fun b h1 _ => hb b h1, fun _ _ h1 h2 => absurd h2 (by show ¬ _ < γ.cur _; omega), fun b hm hlt => ?_, F.lp, F.size, F.os, F.tape, F.output, F.fz⟩
  (Ah (γ := γ') (γ' := γ2) (fun id c hc => hob' id c trivial hc) (fun id st vs e fr hst hc => .inr ⟨⟨id, st, hst, rfl⟩, vs, e, fr, hc⟩) hz u hu)
  (fun id c hid hc => HoldsO.mono U rfl (fun st hst => hb _ (gh.ob id st hst)) (hob id c hid hc)) hnx
 ·rcases hm with hm | ⟨⟨id', st', h1, h2⟩, h3⟩
  ·refine ⟨let ⟨⟨vs, e, fr, k1⟩, _⟩ := gh.im b hm; ⟨vs, e, fr, (U0.im b hm).2 _ k1⟩, (gh.im b hm).2⟩
  ·refine ⟨h3, fun id st hst e => ?_⟩
   have hlt := gh.ob id st hst
   have e : (γ.β id st).1 = b := e
   have := hnew id' st' h1
   omega
 ·rcases hm with hm | ⟨⟨id', st', h1, h2⟩, h3⟩
  ·exact hm
  ·have := hnew id' st' h1
   omega
theorem PureF.mem {P : Program} {FP : T RF} (hFP : FPok P FP) {n : Nat} {f : Pos} {es ds : List D} {v : D} (h : eZ P FP n f es = some v) (hds : FzL (fun _ => False) .e ds es) : PureF P f.ix ds v := by
 unfold eZ at h
 split at h
 ·rename_i y hy
  obtain ⟨v', ob', nx', lg', h1, C⟩ := jF hFP (qS hFP n).1 hy
  split at h1
  ·rename_i d hd
   cases h1
   rw [T.get_set_same] at h
   cases h
   exact PureF.memO C hd hds
  ·cases h1
 ·cases h
end Go.Ev
end
