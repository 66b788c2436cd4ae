import Derived.Test.YtkbgaadfednjpaaGreatDoorEvUS4T
import Derived.Test.YtkbgaadfednjpaaGreatDoorEvU6c
import Derived.Test.YtkbgaadfednjpaaGreatDoorEvU4b
set_option linter.all false
set_option maxHeartbeats 8000000
noncomputable section
namespace Go.Ev
open Go.Proofs
set_option maxRecDepth 100000
def xB (b : Bh) : Bh := ⟨b.last, b.rws, b.pls, b.rch, b.face, b.sun, b.winds, [], b.nts⟩
def yB (b : Bh) : Bh := ⟨b.last, b.rws, b.pls, 0, b.face, b.sun, b.winds, b.brk, b.nts⟩
theorem VW.x {b : Bh} (V : VW b) : VW (xB b) := { V with brk := rfl }
theorem VW.y {b : Bh} (V : VW b) : VW (yB b) := { V with rch := (by show (0 : Int) ≤ 0 ∧ (0 : Int) ≤ 4; omega) }
theorem Fe {b : Bh} (V : VW b) (m : Nat) (hw : ∀ w ∈ b.winds, 0 < w.length) : Gt (IC b) (sD b.winds m b.winds.length) = true := by
  rw [← zO V, qC]
  refine ⟨uX _ _ _, fun i hi => ?_⟩
  have e : (sD b.winds m b.winds.length).getD i 0 = (b.winds.getD i default).getD (xX b.winds m i % (b.winds.getD i default).length) 0 := by simp [sD, List.getD, hi]
  rw [e]
  exact bA (Nat.mod_lt _ (hw _ (bA hi)))
theorem vQ {b : Bh} (V : VW b) : kY b = true ↔ ∃ t, TruP b t := by
  rw [← Ed V]
  constructor
  · intro h
    cases hb : BB b with
    | nil => exact absurd hb h
    | cons t ts => exact ⟨t, (mU V).1 (by rw [hb]; simp)⟩
  · rintro ⟨t, h⟩ e
    have := (mU V).2 h
    rw [e] at this; cases this
def nJ (b : Bh) (t : List Int) (k : Nat) : Bool := decide (t.getD (b.nts.getD k default).1.toNat 0 = (b.nts.getD k default).2)
def eZ (b : Bh) (t : List Int) (j : Nat) : Nat := qP (nJ b t) j
def gI (b : Bh) : List Nat := (List.range (fE b)).map fun n => eZ b (gL b n) b.nts.length
theorem uZ {b : Bh} (V : VW b) (n : Nat) : rH b (gL b n) = true := by
  rw [zO V]
  exact Fe V n fun w hw => (iR.1 (List.all_eq_true.1 V.wins _ hw)).2.1
theorem yD {b : Bh} {t : List Int} (h : rH b t = true) : ∃ n, n < fE b ∧ gL b n = t := by
  obtain ⟨h1, h2⟩ := qC.1 h
  obtain ⟨n, k1, k2⟩ := yJ b.winds t h1 h2
  exact ⟨n, by rw [xJ]; exact k1, k2⟩
theorem rZ {b : Bh} {w : Nat} (hw : w < 2 ^ b.nts.length) : eU (gI b) w = true ↔ ∃ n, n < fE b ∧ ∀ k, k < b.nts.length → w.testBit k = true → nJ b (gL b n) k = true := by
  unfold gI
  rw [show (List.range (fE b)).map (fun n => eZ b (gL b n) b.nts.length) = (List.range (fE b)).map (fun n => eZ b (gL b n) b.nts.length) from rfl]
  unfold eU
  rw [List.any_eq_true]
  have key : ∀ n, eZ b (gL b n) b.nts.length &&& w = w ↔ ∀ k, k < b.nts.length → w.testBit k = true → nJ b (gL b n) k = true := fun n => by
    rw [En hw]
    constructor
    · intro h k hk hb
      have := h k hk hb
      unfold eZ at this
      rw [lD, Bool.and_eq_true] at this
      exact this.2
    · intro h k hk hb
      unfold eZ
      rw [lD, Bool.and_eq_true]
      exact ⟨decide_eq_true hk, h k hk hb⟩
  have gd : ∀ n, n < fE b → ((List.range (fE b)).map fun n => eZ b (gL b n) b.nts.length).getD n 0 = eZ b (gL b n) b.nts.length := fun n hn => by simp [List.getD, hn]
  constructor
  · rintro ⟨n, hn, h⟩
    have hn : n < fE b := by simpa using List.mem_range.1 hn
    rw [gd n hn] at h
    exact ⟨n, hn, (key n).1 (of_decide_eq_true h)⟩
  · rintro ⟨n, hn, h⟩
    refine ⟨n, List.mem_range.2 (by simpa using hn), ?_⟩
    rw [gd n hn]
    exact decide_eq_true ((key n).2 h)
theorem Gl {b : Bh} (V : VW b) (h5 : b.nts.length ≤ 5) {S : List Int} (hS : S ∈ dE b.nts.length) : eU (gI b) (2 ^ b.nts.length - 1 - dK S) = kY (EW b S) := by
  have hb := List.all_eq_true.1 (BG ⟨b.nts.length, by omega⟩) S hS
  have hb : ∀ k, k < b.nts.length → (2 ^ b.nts.length - 1 - dK S).testBit k = !pO S (k : Int) := fun k hk => by
    have := List.all_eq_true.1 hb k (List.mem_range.2 hk)
    simpa using this
  have hw : 2 ^ b.nts.length - 1 - dK S < 2 ^ b.nts.length := by have := Nat.two_pow_pos b.nts.length; omega
  rw [Bool.eq_iff_iff, rZ hw, vQ (V.wo S)]
  have tr : ∀ t, TruP (EW b S) t ↔ rH b t = true ∧ ∀ k, k < b.nts.length → pO S (k : Int) = false → nJ b t k = true := fun t => by
    rw [← nA (V.wo S)]
    unfold Dv
    rw [Bool.and_eq_true]
    constructor
    · rintro ⟨h1, h2⟩
      exact ⟨h1, zW.1 h2⟩
    · rintro ⟨h1, h2⟩
      exact ⟨h1, zW.2 h2⟩
  constructor
  · rintro ⟨n, hn, h⟩
    exact ⟨gL b n, (tr _).2 ⟨uZ V n, fun k hk hc => h k hk (by rw [hb k hk, hc]; rfl)⟩⟩
  · rintro ⟨t, ht⟩
    obtain ⟨h1, h2⟩ := (tr t).1 ht
    obtain ⟨n, hn, rfl⟩ := yD h1
    exact ⟨n, hn, fun k hk hbit => h2 k hk (by rw [hb k hk] at hbit; simpa using hbit)⟩
def Dp (b : Bh) : List Int := Bx (gI b) b.nts.length
theorem Fi {b : Bh} (V : VW b) : 0 < fE b := by
  have h := uZ V 0
  obtain ⟨n, hn, _⟩ := yD h
  omega
theorem Bq {b : Bh} (V : VW b) (h5 : b.nts.length ≤ 5) : (dE b.nts.length).find? (fun S => kY (EW b S)) = some (Dp b) := by
  rw [← kW (p := fun S => eU (gI b) (2 ^ b.nts.length - 1 - dK S)) fun S hS => Gl V h5 hS]
  refine BI h5 ?_
  rw [rZ (Nat.two_pow_pos _)]
  exact ⟨0, Fi V, fun k _ h => by simp at h⟩
theorem Gc (b : Bh) (l1 : b.face.length ≤ 1000) (l2 : b.sun.length ≤ 1000) (l3 : b.winds.length ≤ 1000) (l6 : ∀ w ∈ b.winds, w.length ≤ 1000) : PureF Tryz.prog p54.ix [.ag (eY b)] (.tp [if bD b = 0 then xL (Dp b) else .ns, .i .i64 (bD b)]) := by
  have cC := Ah b l1 l2 l3 l6
  refine PureF.run Ow (by simp) (by simp [aN, cG, Pu, aM]) ?_; conv => whnf
  by_cases hf : bD b = 0
  · have Z := gD hf
    have cS := yP b Z.v l6 Z.l5 _ fun S => rfl
    rw [Bq Z.v Z.l5] at cS
    rw [hf] at cC
    rw [if_pos hf, hf]
    repeat' first | ((first | refine Qz ?_ | refine Qf (cC) ?_ | refine Qf (cS) ?_ | with_reducible (first | refine Qm ?_ | refine Qn ?_ | refine Qo ?_ | refine Qp ?_ | refine WB.nt ?_ | refine WB.nf ?_ | refine WB.dec (fun h => ?_) (fun h => ?_) | refine WB.ndec (fun h => ?_) (fun h => ?_)) | refine WB.mk (fun h => ?_) (fun h => ?_)) <;> conv => whnf) | (refine WB.tt ?_; conv => whnf) | (refine WB.ff ?_; conv => whnf)
    exact ⟨.inr rfl, _, rfl, .tp (.cons (.pu (pZ _)) (.cons (.pu trivial) .nil))⟩
  · rw [if_neg hf]
    repeat' first | ((first | refine Qz ?_ | refine Qf (cC) ?_ | with_reducible (first | refine Qm ?_ | refine Qn ?_ | refine Qo ?_ | refine Qp ?_ | refine WB.nt ?_ | refine WB.nf ?_ | refine WB.dec (fun h => ?_) (fun h => ?_) | refine WB.ndec (fun h => ?_) (fun h => ?_)) | refine WB.mk (fun h => ?_) (fun h => ?_)) <;> conv => whnf) | (refine WB.tt ?_; conv => whnf) | (refine WB.ff ?_; conv => whnf)
    exact ⟨.inr rfl, _, rfl, .tp (.cons (.pu trivial) (.cons (.pu trivial) .nil))⟩
theorem pE {B : Pos → Prop} {ob : T C} {d : D} (h : Pu d := by simp [Cell.d, Pu, aN, cG, aC, aF, aG, aM, gB]; done) : Fz B ob d d := .pu h
theorem kF {n : Nat} (h : n ≤ 5) : 2 ^ n ≤ 32 := Nat.pow_le_pow_right (show 0 < 2 by decide) h
theorem HS (b : Bh) (h5 : b.nts.length ≤ 5) : PureF Tryz.prog p75.ix [.ag (eY b)] (.i .i64 ((2 ^ b.nts.length - 1 : Nat) : Int)) := by
  have e1 := aL cX b.nts
  have hp := Nat.two_pow_pos b.nts.length
  have hq := kF h5
  refine PureF.run Ni (by simp) (by simp [aN, cG, Pu, aM]) ?_; conv => whnf
  repeat' first | ((first | refine Qz ?_ | refine And.intro (InR.u64 (by omega) (by omega)) ?_ | refine Qy ?_) <;> conv => whnf) | (refine WB.tt ?_; conv => whnf) | (refine WB.ff ?_; conv => whnf)
  refine WSt.shlU (kk := .u64) (a := 1) (j := (aO cX b.nts).length) (by rfl) (by rfl) (by rw [e1]; omega) (by omega) ?_; conv => whnf
  rw [e1]
  repeat' first | ((first | refine Qz ?_ | refine Qy ?_) <;> conv => whnf) | (refine WB.tt ?_; conv => whnf) | (refine WB.ff ?_; conv => whnf)
  exact Fin.i rfl (by omega)
def Br (b : Bh) (j : Nat) : List Int := (List.range j).map fun n => ((eZ b (gL b n) b.nts.length : Nat) : Int)
theorem Dh (b : Bh) (j : Nat) : Br b (j + 1) = Br b j ++ [((eZ b (gL b j) b.nts.length : Nat) : Int)] := by
  unfold Br; rw [List.range_succ, List.map_append]; rfl
theorem Fv (b : Bh) (j : Nat) : (Br b j).length = j := by simp [Br]
theorem FK (b : Bh) : Br b (fE b) = jM (gI b) := by
  unfold Br jM gI
  rw [List.map_map]; rfl
theorem uD {b : Bh} (h5 : b.nts.length ≤ 5) (t : List Int) {j : Nat} (hj : j ≤ b.nts.length) : eZ b t j < 32 :=
  Nat.lt_of_lt_of_le (wW (nJ b t) j) (kF (by omega))
theorem Ar {b : Bh} (h5 : b.nts.length ≤ 5) : ∀ a ∈ gI b, a < 1024 := fun a ha => by
  obtain ⟨n, _, rfl⟩ := List.mem_map.1 ha
  have := uD h5 (gL b n) (Nat.le_refl _)
  omega
theorem xF (b : Bh) : (gI b).length = fE b := by simp [gI]
set_option maxHeartbeats 4000000 in
theorem JZ (b : Bh) (N : Thn b) (hf : bD b = 0) : PureF Tryz.prog p55.ix [.ag (eY b)] (.lst 1 (ints (jM (gI b)))) := by
  have Z := gD hf
  have V := Z.v
  have h5 := Z.l5
  have hv := V.last
  have q5 := V.winl
  obtain ⟨m1, m2⟩ := N.m hf
  have l6 := N.f.l6
  have cM := Cn b N.w7 N.w5
  have eM : ((fE b : Nat) : Int) = gA b.winds b.winds.length := by unfold fE; omega
  rw [← eM] at cM
  have e1 := aL cX b.nts
  refine PureF.run Oo (by simp) (by simp [aN, cG, Pu, aM]) ?_; conv => whnf
  repeat' first | ((first | refine Qz ?_ | refine Qy ?_) <;> conv => whnf) | (refine WB.tt ?_; conv => whnf) | (refine WB.ff ?_; conv => whnf)
  refine Rn.loopV [(p4, none), (p5, none), (p6, none), (p7, none), (p8, none), (p9, none), (bI, none), (bH, none), (bM, none), (bF, none), (bO, none), (bQ, none), (bZ, none), (bY, none), (cJ, none), (cV, none), (p20, none), (p21, none), (p22, none), (dH, none), (p24, none), (p25, none), (p26, none), (fM, none), (p28, none), (p29, none), (gU, none), (jG, none), (kP, none), (lI, none), (oU, none), (iZ, none), (oQ, none), (sE, none), (pM, none), (sC, none), (vD, none), (sF, none), (p42, none), (tP, none), (p44, none), (p45, none), (sG, none), (yW, none), (xS, none), (p49, none)] (fun j : Nat => [(p4, some (BS (.i .h) 1 (Br b j))), (p5, some (.i .i64 (j : Int)))]) (fun j : Nat => [((.i .h), Ez vI (Br b j))]) (fun j : Nat => kE (.o .h) (.o (.o .h)) (Br b j)) (fun j : Nat => j ≤ fE b) (fun j : Nat => fE b - j) 0 ?_ ?_ ?_
  · conv => whnf
    (refine X.le.mk ?_ ?_ (Nat.le_refl _) rfl rfl) <;> (repeat' first | exact T.le_e _ | refine T.le_some ?_ rfl ?_ | refine T.le_none ?_ ?_ | refine T.le_ee ?_ ?_)
  rotate_left
  intro xl1 hxl1
  rotate_right
  · exact Nat.zero_le _
  intro j hj
  have hj : j ≤ fE b := hj
  have hsc := Dh b j
  have hAl : (Br b j).length ≤ j := by rw [Fv]; exact Nat.le_refl _
  have hend : j = fE b → Br b j = jM (gI b) := fun h => by rw [h, FK]
  generalize hA : Br b j = A at *
  conv => whnf
  repeat' first | ((first | refine Qz ?_ | refine Qf (cM) ?_ | refine Qy ?_) <;> conv => whnf) | (refine WB.tt ?_; conv => whnf) | (refine WB.ff ?_; conv => whnf)
  refine WB.dec (fun hd2 => ?_) (fun hd2 => ?_) <;> conv => whnf
  rotate_left
  · repeat' first | ((first | refine Qz ?_ | refine Qy ?_) <;> conv => whnf) | (refine WB.tt ?_; conv => whnf) | (refine WB.ff ?_; conv => whnf)
    rw [← hend (by omega)]
    exact Fin.t (.inr rfl) rfl (Fz.G A (fun h => h) (fun c h => h) Bj oO)
  have hlt : j < fE b := by omega
  have cN := JT b j (by omega) N.f.l3 (V.win l6)
  have cN : PureF Tryz.prog p68.ix [.ag (eY b), .i .i64 (j : Int)] (.lst 1 (ints (gL b j))) := cN
  have tl : (gL b j).length = b.winds.length := uX _ _ _
  have e2 := aI (gL b j)
  repeat' first | ((first | refine Qz ?_ | refine Qf (cN) ?_ | refine Qy ?_) <;> conv => whnf) | (refine WB.tt ?_; conv => whnf) | (refine WB.ff ?_; conv => whnf)
  cases A with
  | nil =>
    refine Rn.loopV [(p7, none), (p8, none), (cJ, none), (cV, none), (p20, none), (p21, none), (p22, none), (dH, none), (p24, none), (p25, none), (p26, none), (fM, none), (p28, none), (p29, none), (gU, none), (jG, none), (kP, none), (lI, none), (oU, none), (iZ, none), (oQ, none), (sE, none), (pM, none), (sC, none), (vD, none), (sF, none), (p42, none), (tP, none), (p44, none), (p45, none)] (fun i : Nat => [(p7, some (.i .i64 (eZ b (gL b j) i : Int))), (p8, some (.i .i64 (i : Int)))]) (fun i : Nat => []) (fun i : Nat => (.o .h)) (fun i : Nat => i ≤ b.nts.length) (fun i : Nat => b.nts.length - i) 0 ?_ ?_ ?_
    · conv => whnf
      (refine X.le.mk ?_ ?_ (Nat.le_refl _) rfl rfl) <;> (repeat' first | exact T.le_e _ | refine T.le_some ?_ rfl ?_ | refine T.le_none ?_ ?_ | refine T.le_ee ?_ ?_)
    rotate_left
    intro xl2 hxl2
    rotate_right
    · exact Nat.zero_le _
    intro i hi
    have hi : i ≤ b.nts.length := hi
    have hs : eZ b (gL b j) (i + 1) = if nJ b (gL b j) i = true then eZ b (gL b j) i ||| 1 * 2 ^ i else eZ b (gL b j) i := iQ _ _
    have hl := uD h5 (gL b j) hi
    have hze : i = b.nts.length → eZ b (gL b j) b.nts.length = eZ b (gL b j) i := fun h => by rw [h]
    generalize eZ b (gL b j) i = c at *
    conv => whnf
    repeat' first | ((first | refine Qz ?_ | refine Qy ?_) <;> conv => whnf) | (refine WB.tt ?_; conv => whnf) | (refine WB.ff ?_; conv => whnf)
    refine WB.dec (fun hd3 => ?_) (fun hd3 => ?_) <;> conv => whnf
    · have hlt3 : i < b.nts.length := by omega
      have hno := lZ hv (List.all_eq_true.1 V.nts _ (bA (d := default) hlt3))
      have hno2 : 0 ≤ (b.nts.getD i default).1 ∧ (b.nts.getD i default).1 ≤ b.last := by
        have := List.all_eq_true.1 V.nts _ (bA (d := default) hlt3)
        unfold fJ at this
        rw [Bool.and_eq_true] at this
        exact bW this.1
      have hp5 := kF (show i ≤ 5 by omega)
      by_cases k : (gL b j).getD (b.nts.getD i default).1.toNat 0 = (b.nts.getD i default).2
      · rw [if_pos (show nJ b (gL b j) i = true from decide_eq_true k)] at hs
        repeat' first | ((first | refine Qz ?_ | refine WIx.intsE (j := (b.nts.getD i default).1.toNat) (by omega) (by omega) ?_ | refine And.intro (InR.u64 (by omega) (by omega)) ?_ | with_reducible (first | refine Qm ?_ | refine Qn ?_ | refine Qo ?_ | refine Qp ?_ | refine WB.nt ?_ | refine WB.nf ?_ | refine WB.dec (fun h => ?_) (fun h => ?_) | refine WB.ndec (fun h => ?_) (fun h => ?_)) | refine WB.mk (fun h => ?_) (fun h => ?_)) <;> conv => whnf) | (refine WB.tt ?_; conv => whnf) | (refine WB.ff ?_; conv => whnf)
        refine WSt.shlU (kk := .u64) (a := 1) (j := i) (by rfl) (by rfl) (by omega) (by omega) ?_; conv => whnf
        refine WSt.orB (a := c) (b := 1 * 2 ^ i) (by rfl) (by rfl) (by omega) (by omega) ?_; conv => whnf
        repeat' first | ((first | refine Qz ?_ | refine Qy ?_) <;> conv => whnf) | (refine WB.tt ?_; conv => whnf) | (refine WB.ff ?_; conv => whnf)
        refine AgainB.v (i + 1) (by omega) (show i + 1 ≤ b.nts.length by omega) (Nat.le_refl _) (by assumption) ?_
        rw [hs]
        conv => whnf
        refine Shr.of ?_ ?_ rfl rfl
        · (repeat' first | exact Rel.e | refine Rel.some ?_ ?_ ?_ | refine Rel.none ?_ ?_ | refine Rel.ee ?_ ?_)
          all_goals show Fz _ _ _ _
          all_goals first | exact Fq | exact pE
        · (repeat' first | exact Rel.e | refine Rel.some ?_ ?_ ?_ | refine Rel.none ?_ ?_ | refine Rel.ee ?_ ?_)
          all_goals refine xH ?_
          all_goals first | exact Sq | (refine ShC.same ?_; (repeat' first | exact ShC.nl | refine ShC.cn ?_ ?_) <;> first | exact Fq | exact pE)
      · rw [if_neg (show ¬ nJ b (gL b j) i = true from fun h => k (of_decide_eq_true h))] at hs
        repeat' first | ((first | refine Qz ?_ | refine WIx.intsE (j := (b.nts.getD i default).1.toNat) (by omega) (by omega) ?_ | with_reducible (first | refine Qm ?_ | refine Qn ?_ | refine Qo ?_ | refine Qp ?_ | refine WB.nt ?_ | refine WB.nf ?_ | refine WB.dec (fun h => ?_) (fun h => ?_) | refine WB.ndec (fun h => ?_) (fun h => ?_)) | refine WB.mk (fun h => ?_) (fun h => ?_)) <;> conv => whnf) | (refine WB.tt ?_; conv => whnf) | (refine WB.ff ?_; conv => whnf)
        refine AgainB.v (i + 1) (by omega) (show i + 1 ≤ b.nts.length by omega) (Nat.le_refl _) (by assumption) ?_
        rw [hs]
        conv => whnf
        refine Shr.of ?_ ?_ rfl rfl
        · (repeat' first | exact Rel.e | refine Rel.some ?_ ?_ ?_ | refine Rel.none ?_ ?_ | refine Rel.ee ?_ ?_)
          all_goals show Fz _ _ _ _
          all_goals first | exact Fq | exact pE
        · (repeat' first | exact Rel.e | refine Rel.some ?_ ?_ ?_ | refine Rel.none ?_ ?_ | refine Rel.ee ?_ ?_)
          all_goals refine xH ?_
          all_goals first | exact Sq | (refine ShC.same ?_; (repeat' first | exact ShC.nl | refine ShC.cn ?_ ?_) <;> first | exact Fq | exact pE)
    have hze := hze (by omega)
    repeat' first | ((first | refine Qz ?_ | refine Qy ?_) <;> conv => whnf) | (refine WB.tt ?_; conv => whnf) | (refine WB.ff ?_; conv => whnf)
    refine WSt.app_first (r := vI ((c : Nat) : Int)) (by rfl) (.inl rfl) (by rfl) (by rfl) (by rfl) (by rfl) ?_; conv => whnf
    repeat' first | ((first | refine Qz ?_ | refine Qy ?_) <;> conv => whnf) | (refine WB.tt ?_; conv => whnf) | (refine WB.ff ?_; conv => whnf)
    rw [hze] at hsc
    refine AgainB.v (j + 1) (by omega) (show j + 1 ≤ fE b by omega) (by show Pos.nat _ ≤ Pos.nat _; simp only [hA, hsc, kE, List.cons_append, List.nil_append] <;> decide) (by assumption) ?_
    rw [hsc]
    conv => whnf
    refine Shr.of ?_ ?_ rfl rfl
    · (repeat' first | exact Rel.e | refine Rel.some ?_ ?_ ?_ | refine Rel.none ?_ ?_ | refine Rel.ee ?_ ?_)
      all_goals show Fz _ _ _ _
      all_goals first | exact Fq | exact pE
    · (repeat' first | exact Rel.e | refine Rel.some ?_ ?_ ?_ | refine Rel.none ?_ ?_ | refine Rel.ee ?_ ?_)
      all_goals refine xH ?_
      all_goals first | exact ShC.na oO _ | exact Sq | (refine ShC.same ?_; (repeat' first | exact ShC.nl | refine ShC.cn ?_ ?_) <;> first | exact Fq | exact pE)
  | cons a s =>
    have hs5 : s.length + 1 ≤ 1000 := Nat.le_trans hAl (by omega)
    refine Rn.loopV [(p7, none), (p8, none), (cJ, none), (cV, none), (p20, none), (p21, none), (p22, none), (dH, none), (p24, none), (p25, none), (p26, none), (fM, none), (p28, none), (p29, none), (gU, none), (jG, none), (kP, none), (lI, none), (oU, none), (iZ, none), (oQ, none), (sE, none), (pM, none), (sC, none), (vD, none), (sF, none), (p42, none), (tP, none), (p44, none), (p45, none)] (fun i : Nat => [(p7, some (.i .i64 (eZ b (gL b j) i : Int))), (p8, some (.i .i64 (i : Int)))]) (fun i : Nat => []) (fun i : Nat => (.o (.o .h))) (fun i : Nat => i ≤ b.nts.length) (fun i : Nat => b.nts.length - i) 0 ?_ ?_ ?_
    · conv => whnf
      (refine X.le.mk ?_ ?_ (Nat.le_refl _) rfl rfl) <;> (repeat' first | exact T.le_e _ | refine T.le_some ?_ rfl ?_ | refine T.le_none ?_ ?_ | refine T.le_ee ?_ ?_)
    rotate_left
    intro xl3 hxl3
    rotate_right
    · exact Nat.zero_le _
    intro i hi
    have hi : i ≤ b.nts.length := hi
    have hs : eZ b (gL b j) (i + 1) = if nJ b (gL b j) i = true then eZ b (gL b j) i ||| 1 * 2 ^ i else eZ b (gL b j) i := iQ _ _
    have hl := uD h5 (gL b j) hi
    have hze : i = b.nts.length → eZ b (gL b j) b.nts.length = eZ b (gL b j) i := fun h => by rw [h]
    generalize eZ b (gL b j) i = c at *
    conv => whnf
    repeat' first | ((first | refine Qz ?_ | refine Qy ?_) <;> conv => whnf) | (refine WB.tt ?_; conv => whnf) | (refine WB.ff ?_; conv => whnf)
    refine WB.dec (fun hd3 => ?_) (fun hd3 => ?_) <;> conv => whnf
    · have hlt3 : i < b.nts.length := by omega
      have hno := lZ hv (List.all_eq_true.1 V.nts _ (bA (d := default) hlt3))
      have hno2 : 0 ≤ (b.nts.getD i default).1 ∧ (b.nts.getD i default).1 ≤ b.last := by
        have := List.all_eq_true.1 V.nts _ (bA (d := default) hlt3)
        unfold fJ at this
        rw [Bool.and_eq_true] at this
        exact bW this.1
      have hp5 := kF (show i ≤ 5 by omega)
      by_cases k : (gL b j).getD (b.nts.getD i default).1.toNat 0 = (b.nts.getD i default).2
      · rw [if_pos (show nJ b (gL b j) i = true from decide_eq_true k)] at hs
        repeat' first | ((first | refine Qz ?_ | refine WIx.intsE (j := (b.nts.getD i default).1.toNat) (by omega) (by omega) ?_ | refine And.intro (InR.u64 (by omega) (by omega)) ?_ | with_reducible (first | refine Qm ?_ | refine Qn ?_ | refine Qo ?_ | refine Qp ?_ | refine WB.nt ?_ | refine WB.nf ?_ | refine WB.dec (fun h => ?_) (fun h => ?_) | refine WB.ndec (fun h => ?_) (fun h => ?_)) | refine WB.mk (fun h => ?_) (fun h => ?_)) <;> conv => whnf) | (refine WB.tt ?_; conv => whnf) | (refine WB.ff ?_; conv => whnf)
        refine WSt.shlU (kk := .u64) (a := 1) (j := i) (by rfl) (by rfl) (by omega) (by omega) ?_; conv => whnf
        refine WSt.orB (a := c) (b := 1 * 2 ^ i) (by rfl) (by rfl) (by omega) (by omega) ?_; conv => whnf
        repeat' first | ((first | refine Qz ?_ | refine Qy ?_) <;> conv => whnf) | (refine WB.tt ?_; conv => whnf) | (refine WB.ff ?_; conv => whnf)
        refine AgainB.v (i + 1) (by omega) (show i + 1 ≤ b.nts.length by omega) (Nat.le_refl _) (by assumption) ?_
        rw [hs]
        conv => whnf
        refine Shr.of ?_ ?_ rfl rfl
        · (repeat' first | exact Rel.e | refine Rel.some ?_ ?_ ?_ | refine Rel.none ?_ ?_ | refine Rel.ee ?_ ?_)
          all_goals show Fz _ _ _ _
          all_goals first | exact Fq | exact pE
        · (repeat' first | exact Rel.e | refine Rel.some ?_ ?_ ?_ | refine Rel.none ?_ ?_ | refine Rel.ee ?_ ?_)
          all_goals refine xH ?_
          all_goals first | exact ShC.G oO a s | exact Sq | (refine ShC.same ?_; (repeat' first | exact ShC.nl | refine ShC.cn ?_ ?_) <;> first | exact Fq | exact pE)
      · rw [if_neg (show ¬ nJ b (gL b j) i = true from fun h => k (of_decide_eq_true h))] at hs
        repeat' first | ((first | refine Qz ?_ | refine WIx.intsE (j := (b.nts.getD i default).1.toNat) (by omega) (by omega) ?_ | with_reducible (first | refine Qm ?_ | refine Qn ?_ | refine Qo ?_ | refine Qp ?_ | refine WB.nt ?_ | refine WB.nf ?_ | refine WB.dec (fun h => ?_) (fun h => ?_) | refine WB.ndec (fun h => ?_) (fun h => ?_)) | refine WB.mk (fun h => ?_) (fun h => ?_)) <;> conv => whnf) | (refine WB.tt ?_; conv => whnf) | (refine WB.ff ?_; conv => whnf)
        refine AgainB.v (i + 1) (by omega) (show i + 1 ≤ b.nts.length by omega) (Nat.le_refl _) (by assumption) ?_
        rw [hs]
        conv => whnf
        refine Shr.of ?_ ?_ rfl rfl
        · (repeat' first | exact Rel.e | refine Rel.some ?_ ?_ ?_ | refine Rel.none ?_ ?_ | refine Rel.ee ?_ ?_)
          all_goals show Fz _ _ _ _
          all_goals first | exact Fq | exact pE
        · (repeat' first | exact Rel.e | refine Rel.some ?_ ?_ ?_ | refine Rel.none ?_ ?_ | refine Rel.ee ?_ ?_)
          all_goals refine xH ?_
          all_goals first | exact ShC.G oO a s | exact Sq | (refine ShC.same ?_; (repeat' first | exact ShC.nl | refine ShC.cn ?_ ?_) <;> first | exact Fq | exact pE)
    have hze := hze (by omega)
    repeat' first | ((first | refine Qz ?_ | refine Qy ?_) <;> conv => whnf) | (refine WB.tt ?_; conv => whnf) | (refine WB.ff ?_; conv => whnf)
    refine WSt.app_one (id := (.i .h)) (ds := (aO vI (a :: s)).flatten) (r := vI ((c : Nat) : Int)) (by rfl) (by rfl) (by rfl) (by rfl) (by rfl) (by rfl) (by rw [eI (z := 1) Bj]; rfl) (by rfl) (by rfl) (by omega) (by rfl) ?_; conv => whnf
    repeat' first | ((first | refine Qz ?_ | refine Qy ?_) <;> conv => whnf) | (refine WB.tt ?_; conv => whnf) | (refine WB.ff ?_; conv => whnf)
    rw [hze] at hsc
    refine AgainB.v (j + 1) (by omega) (show j + 1 ≤ fE b by omega) (by show Pos.nat _ ≤ Pos.nat _; simp only [hA, hsc, kE, List.cons_append, List.nil_append] <;> decide) (by assumption) ?_
    rw [hsc, List.cons_append]
    conv => whnf
    (try rw [gV])
    (try rw [hH])
    refine Shr.of ?_ ?_ rfl rfl
    · (repeat' first | exact Rel.e | refine Rel.some ?_ ?_ ?_ | refine Rel.none ?_ ?_ | refine Rel.ee ?_ ?_)
      all_goals show Fz _ _ _ _
      all_goals first | exact Fq | exact pE
    · (repeat' first | exact Rel.e | refine Rel.some ?_ ?_ ?_ | refine Rel.none ?_ ?_ | refine Rel.ee ?_ ?_)
      all_goals refine xH ?_
      all_goals first | exact ShC.ca oO _ _ | exact Sq | (refine ShC.same ?_; (repeat' first | exact ShC.nl | refine ShC.cn ?_ ?_) <;> first | exact Fq | exact pE)
set_option maxRecDepth 1000000
def OZ : RC := (.seq (.reg [(.u (.box p2 (.t p1))), (.u (.mv p3 (.k (.b false))))]) (.seq (.seq (.reg [(jX bH p2 9), (.u (.cf (some bM) p20 [(.t bH)])), (.u (.un bF .not (.t bM)))]) (.cond (.t bF) (.seq (.reg [(.u (.cf (some bO) p22 [])), (Mv p3 bO)]) .ret) .skip)) (.seq (.reg [(jX bZ p2 9), (.u (.cf (some bY) p24 [(.t bZ)])), (.u (.cf (some cJ) p53 [(.t bY)])), (Mv bQ cJ), (.u (.ext cV (.t bQ) 0)), (.u (.ext p20 (.t bQ) 1)), (Mv p4 cV), (Mv p5 p20)]) (.seq (.reg [(jX p22 p2 9), (.u (.cf (some dH) p24 [(.t p22)])), (.u (.cf (some p24) p54 [(.t dH)])), (Mv p21 p24), (.u (.ext p25 (.t p21) 0)), (.u (.ext p26 (.t p21) 1)), (Mv p6 p25), (Mv p7 p26)]) (.seq (.seq (.reg [(jX fM p2 9), (.u (.cf (some p28) p28 [(.t fM)])), (Mv p8 p28)]) (.seq (.reg [(Mv p29 p8), (dN gU .neq p29 0)]) (.cond (.t gU) (.seq (.reg [(Mv jG p5), (Mv kP p8), (eJ lI .eql jG kP), (Mv oU lI), (.g oU true (some iZ) (.mv iZ (.t p4))), (.g oU true (some oQ) (.bin oQ .eql (.t iZ) (.k (.i .i64 0)))), (.u (.pick sE (.t oU) (.t oQ) (.k (.b false)))), (Mv pM sE), (.g pM true (some sC) (.mv sC (.t p7))), (.g pM true (some vD) (.mv vD (.t p8))), (.g pM true (some sF) (.bin sF .eql (.t sC) (.t vD))), (.u (.pick p42 (.t pM) (.t sF) (.k (.b false)))), (Mv tP p42), (.g tP true (some p44) (.mv p44 (.t p6))), (.g tP true (some p45) (.len p45 (.t p44))), (.g tP true (some sG) (.bin sG .eql (.t p45) (.k (.i .i64 0)))), (.u (.pick yW (.t tP) (.t sG) (.k (.b false)))), (Mv xS yW), (.g xS true (some p49) (.cf (some p49) p22 [])), (.u (.pick AQ (.t xS) (.t p49) (.k (.b false)))), (Mv p3 AQ)]) .ret) .skip))) (.seq (.reg [(jX Fa p2 9), (.u (.cf (some pF) p55 [(.t Fa)])), (Mv p9 pF)]) (.seq (.seq (.reg [(Mv p53 p7), (dN p54 .neq p53 0), (Mv p55 p54), (.g p55 false (some p56) (.mv p56 (.t p6))), (.g p55 false (some p57) (.ldn p57 (.t p2) 9)), (.g p55 false (some p58) (.mv p58 (.t p9))), (.g p55 false (some BT) (.cf (some BT) p57 [(.t p57), (.t p58)])), (.g p55 false (some uW) (.cf (some uW) p56 [(.t p56), (.t BT)])), (.g p55 false (some Ba) (.un Ba .not (.t uW))), (.u (.pick Dg (.t p55) (.k (.b true)) (.t Ba)))]) (.cond (.t Dg) (.seq (.reg [(.u (.mv p3 (.k (.b false))))]) .ret) .skip)) (.seq (.reg [(jX yZ p2 9), (Mv BN p9), (.u (.cf (some BU) p58 [(.t yZ), (.t BN)])), (Mv bI BU)]) (.seq (.seq (.reg [(Mv BV bI), (dN BM .lss BV 0)]) (.cond (.t BM) (.seq (.reg [(Mv p68 p5), (dN sM .eql p68 7), (Mv BQ sM), (.g BQ true (some Dc) (.mv Dc (.t p4))), (.g BQ true (some Cd) (.bin Cd .eql (.t Dc) (.k (.i .i64 0)))), (.u (.pick EY (.t BQ) (.t Cd) (.k (.b false)))), (Mv EB EY), (.g EB true (some p75) (.cf (some p75) p22 [])), (.u (.pick p76 (.t EB) (.t p75) (.k (.b false)))), (Mv p3 p76)]) .ret) .skip)) (.seq (.reg [(Mv p77 p5), (dN p78 .eql p77 0), (Mv Bl p78), (.g Bl true (some Ec) (.mv Ec (.t p4))), (.g Bl true (some EU) (.mv EU (.t bI))), (.g Bl true (some Ds) (.bin Ds .eql (.t Ec) (.t EU))), (.u (.pick FC (.t Bl) (.t Ds) (.k (.b false)))), (Mv Bi FC), (.g Bi true (some GL) (.cf (some GL) p22 [])), (.u (.pick HY (.t Bi) (.t GL) (.k (.b false)))), (Mv p3 HY)]) .ret))))))))))
def Pb : List RR := [(.t p3)]
theorem Pc : FnOk Tryz.prog p8.ix 86 OZ Pb := ⟨Tryz.f7, aJ Tryz.f7, Tryz.func7, by kernel_rfl, by kernel_rfl, by kernel_rfl, by kernel_rfl, by kernel_rfl⟩
set_option maxRecDepth 100000
theorem xG {B : Pos → Prop} {ob : T C} {d : D} (h : Pu d := by simp [Cell.d, Pu, aN, cG, aC, aF, aG, aM, gB]; done) : Fz B ob d d := .pu h
def ID (p : Nat → Bool) (n : Nat) : Option Nat := (List.range n).find? p
theorem rI {p : Nat → Bool} {n : Nat} (h : ∀ i, i < n → p i = false) : ID p n = none := List.find?_eq_none.2 fun x hx => by rw [h x (List.mem_range.1 hx)]; simp
theorem vV {p : Nat → Bool} {n j : Nat} (h : ∀ i, i < j → p i = false) (hj : j < n) (k : p j = true) : ID p n = some j := by
  unfold ID
  obtain ⟨m, hm⟩ : ∃ m, n = (j + 1) + m := ⟨n - (j + 1), by omega⟩
  rw [hm, List.range_add, List.find?_append, List.range_succ, List.find?_append]
  have h1 : (List.range j).find? p = none := rI h
  rw [h1, List.find?_cons_of_pos k]; rfl
def NJ (o : Option Nat) : Int := match o with
  | none => -1
  | some n => (n : Int)
theorem GE {p : Nat → Bool} {j : Nat} (h : ∀ i, i < j → p i = false) (k : p j = false) : ∀ i, i < j + 1 → p i = false := fun i hi => by
  by_cases e : i = j
  · subst e; exact k
  · exact h i (by omega)
set_option maxHeartbeats 2000000 in
theorem Du (b : Bh) (h5 : b.nts.length ≤ 5) (A : List Nat) (hl : A.length ≤ 3000) (hA : ∀ a ∈ A, a < 1024) : PureF Tryz.prog p58.ix [.ag (eY b), .lst 1 (ints (jM A))] (.i .i64 (NJ (ID (fun n => !eU A (2 * 2 ^ n - 1)) b.nts.length))) := by
  have e1 := aL cX b.nts
  have e2 := aI (jM A)
  refine PureF.run NP (by simp) (by simp [aN, cG, Pu, aM, aC]) ?_; conv => whnf
  repeat' first | ((first | refine Qz ?_ | refine Qy ?_) <;> conv => whnf) | (refine WB.tt ?_; conv => whnf) | (refine WB.ff ?_; conv => whnf)
  refine Rn.loopV [(p5, none), (p6, none), (p7, none), (p8, none), (p9, none), (bI, none), (bH, none), (bM, none), (bF, none), (bO, none), (bQ, none), (bZ, none), (bY, none), (cJ, none), (cV, none), (p20, none), (p21, none)] (fun j : Nat => [(p6, some (.i .i64 (j : Int)))]) (fun j : Nat => []) (fun j : Nat => (.o .h)) (fun j : Nat => j ≤ b.nts.length ∧ ∀ i, i < j → (!eU A (2 * 2 ^ i - 1)) = false) (fun j : Nat => b.nts.length - j) 0 ?_ ?_ ?_
  · conv => whnf
    (refine X.le.mk ?_ ?_ (Nat.le_refl _) rfl rfl) <;> (repeat' first | exact T.le_e _ | refine T.le_some ?_ rfl ?_ | refine T.le_none ?_ ?_ | refine T.le_ee ?_ ?_)
  rotate_left
  intro xl1 hxl1
  rotate_right
  · exact ⟨Nat.zero_le _, fun i hi => absurd hi (Nat.not_lt_zero _)⟩
  rintro j ⟨hj, hno⟩
  conv => whnf
  repeat' first | ((first | refine Qz ?_ | refine Qy ?_) <;> conv => whnf) | (refine WB.tt ?_; conv => whnf) | (refine WB.ff ?_; conv => whnf)
  refine WB.dec (fun hd2 => ?_) (fun hd2 => ?_) <;> conv => whnf
  · have hlt : j < b.nts.length := by omega
    have hp := Nat.two_pow_pos j
    have hq := kF (show j ≤ 5 by omega)
    have cC := Gv A (2 * 2 ^ j - 1) hl hA (by omega)
    have e3 : ((2 * 2 ^ j : Nat) : Int) - 1 = ((2 * 2 ^ j - 1 : Nat) : Int) := by omega
    repeat' first | ((first | refine Qz ?_ | refine And.intro (InR.u64 (by omega) (by omega)) ?_ | refine Qy ?_) <;> conv => whnf) | (refine WB.tt ?_; conv => whnf) | (refine WB.ff ?_; conv => whnf)
    refine WSt.shlU (kk := .u64) (a := 2) (j := j) (by rfl) (by rfl) (by omega) (by omega) ?_; conv => whnf
    refine And.intro (InR.i64 (by omega) (by omega)) ?_; conv => whnf
    rw [e3]
    cases k : eU A (2 * 2 ^ j - 1) with
    | true =>
      rw [k] at cC
      repeat' first | ((first | refine Qz ?_ | refine Qf (cC) ?_ | with_reducible (first | refine Qm ?_ | refine Qn ?_ | refine Qo ?_ | refine Qp ?_ | refine WB.nt ?_ | refine WB.nf ?_ | refine WB.dec (fun h => ?_) (fun h => ?_) | refine WB.ndec (fun h => ?_) (fun h => ?_)) | refine WB.mk (fun h => ?_) (fun h => ?_)) <;> conv => whnf) | (refine WB.tt ?_; conv => whnf) | (refine WB.ff ?_; conv => whnf)
      refine AgainB.v (j + 1) (by omega) ⟨by omega, GE hno (by rw [k]; rfl)⟩ (Nat.le_refl _) (by assumption) ?_
      conv => whnf
      refine Shr.of ?_ ?_ rfl rfl
      · (repeat' first | exact Rel.e | refine Rel.some ?_ ?_ ?_ | refine Rel.none ?_ ?_ | refine Rel.ee ?_ ?_)
        all_goals show Fz _ _ _ _
        all_goals first | exact Fq | exact xG
      · (repeat' first | exact Rel.e | refine Rel.some ?_ ?_ ?_ | refine Rel.none ?_ ?_ | refine Rel.ee ?_ ?_)
        all_goals refine xH ?_
        all_goals first | exact Sq | (refine ShC.same ?_; (repeat' first | exact ShC.nl | refine ShC.cn ?_ ?_) <;> first | exact Fq | exact xG)
    | false =>
      rw [k] at cC
      rw [vV (p := fun n => !eU A (2 * 2 ^ n - 1)) hno hlt (by show (!eU A (2 * 2 ^ j - 1)) = true; rw [k]; rfl)]
      repeat' first | ((first | refine Qz ?_ | refine Qf (cC) ?_ | with_reducible (first | refine Qm ?_ | refine Qn ?_ | refine Qo ?_ | refine Qp ?_ | refine WB.nt ?_ | refine WB.nf ?_ | refine WB.dec (fun h => ?_) (fun h => ?_) | refine WB.ndec (fun h => ?_) (fun h => ?_)) | refine WB.mk (fun h => ?_) (fun h => ?_)) <;> conv => whnf) | (refine WB.tt ?_; conv => whnf) | (refine WB.ff ?_; conv => whnf)
      exact Fin.i rfl rfl
  · obtain rfl : j = b.nts.length := by omega
    rw [rI (p := fun n => !eU A (2 * 2 ^ n - 1)) hno]
    repeat' first | ((first | refine Qz ?_ | refine Qy ?_) <;> conv => whnf) | (refine WB.tt ?_; conv => whnf) | (refine WB.ff ?_; conv => whnf)
    exact Fin.i rfl rfl
set_option maxHeartbeats 2000000 in
theorem Ei (b : Bh) (h5 : b.nts.length ≤ 5) (A : List Nat) (hl : A.length ≤ 3000) (hA : ∀ a ∈ A, a < 1024) : PureF Tryz.prog p57.ix [.ag (eY b), .lst 1 (ints (jM A))] (.lst 1 (ints (Bx A b.nts.length))) := by
  have iF := HS b h5
  have hp := Nat.one_le_two_pow (n := b.nts.length)
  have hp2 := kF h5
  have iB := fun (c : Nat) (h : c ≤ 1000) => Hw c h
  refine PureF.run MT (by simp) (by simp [aN, cG, Pu, aM, aC]) ?_; conv => whnf
  have iB0 := iB (2 ^ b.nts.length - 1) (by omega)
  repeat' first | ((first | refine Qz ?_ | refine Qf (iF) ?_ | refine Qf (iB0) ?_ | refine Qy ?_) <;> conv => whnf) | (refine WB.tt ?_; conv => whnf) | (refine WB.ff ?_; conv => whnf)
  refine Rn.loopV [(p6, none), (p7, none), (p8, none), (bM, none), (bF, none), (bO, none), (bQ, none), (bZ, none), (bY, none), (cJ, none), (cV, none), (p20, none), (p21, none), (p22, none), (dH, none), (p24, none), (p25, none), (p26, none), (fM, none), (p28, none), (p29, none), (gU, none), (jG, none)] (fun j : Nat => [(p6, some (.lst 1 (ints (oM A b.nts.length j)))), (p7, some (.i .i64 (j : Int)))]) (fun j : Nat => []) (fun j : Nat => (.o .h)) (fun j : Nat => j ≤ 2 ^ b.nts.length) (fun j : Nat => 2 ^ b.nts.length - j) 0 ?_ ?_ ?_
  · conv => whnf
    (refine X.le.mk ?_ ?_ (Nat.le_refl _) rfl rfl) <;> (repeat' first | exact T.le_e _ | refine T.le_some ?_ rfl ?_ | refine T.le_none ?_ ?_ | refine T.le_ee ?_ ?_)
  rotate_left
  intro xl2 hxl2
  rotate_right
  · exact Nat.zero_le _
  intro j hj
  have hj : j ≤ 2 ^ b.nts.length := hj
  have hlv := oL A b.nts.length j
  have hln := rF A b.nts.length j
  have hend : j = 2 ^ b.nts.length → oM A b.nts.length j = Bx A b.nts.length := fun e => by rw [e]; rfl
  unfold CM at hlv
  generalize oM A b.nts.length j = best at *
  have iBj := iB j (by omega)
  have hbl : (fL j).length ≤ 1000 := Nat.le_trans (lV _ _) (by omega)
  have iS := Bu (fL j) best hbl (by omega)
  conv => whnf
  repeat' first | ((first | refine Qz ?_ | refine Qf (iF) ?_ | refine Qy ?_) <;> conv => whnf) | (refine WB.tt ?_; conv => whnf) | (refine WB.ff ?_; conv => whnf)
  refine WB.dec (fun hd2 => ?_) (fun hd2 => ?_) <;> conv => whnf
  rotate_left
  · repeat' first | ((first | refine Qz ?_ | refine Qy ?_) <;> conv => whnf) | (refine WB.tt ?_; conv => whnf) | (refine WB.ff ?_; conv => whnf)
    rw [← hend (by omega)]
    exact Fin.t (.inr rfl) rfl (.pu (aC _))
  have hlt : j < 2 ^ b.nts.length := by omega
  have iC := Gv A (2 ^ b.nts.length - 1 - j) hl hA (by omega)
  cases hS : hU (fL j) best with
  | false =>
    rw [hS] at iS hlv
    rw [Bool.false_and, if_neg (by decide)] at hlv
    repeat' first | ((first | refine Qz ?_ | refine Qf (iBj) ?_ | refine Qf (iS) ?_ | refine Qf (iF) ?_ | refine Qf (iC) ?_ | with_reducible (first | refine Qm ?_ | refine Qn ?_ | refine Qo ?_ | refine Qp ?_ | refine WB.nt ?_ | refine WB.nf ?_ | refine WB.dec (fun h => ?_) (fun h => ?_) | refine WB.ndec (fun h => ?_) (fun h => ?_)) | refine WB.mk (fun h => ?_) (fun h => ?_)) <;> conv => whnf) | (refine WB.tt ?_; conv => whnf) | (refine WB.ff ?_; conv => whnf)
    refine AgainB.v (j + 1) (by omega) (show j + 1 ≤ 2 ^ b.nts.length by omega) (Nat.le_refl _) (by assumption) ?_
    rw [hlv]
    conv => whnf
    refine Shr.of ?_ ?_ rfl rfl
    · (repeat' first | exact Rel.e | refine Rel.some ?_ ?_ ?_ | refine Rel.none ?_ ?_ | refine Rel.ee ?_ ?_)
      all_goals show Fz _ _ _ _
      all_goals first | exact Fq | exact xG
    · (repeat' first | exact Rel.e | refine Rel.some ?_ ?_ ?_ | refine Rel.none ?_ ?_ | refine Rel.ee ?_ ?_)
      all_goals refine xH ?_
      all_goals first | exact Sq | (refine ShC.same ?_; (repeat' first | exact ShC.nl | refine ShC.cn ?_ ?_) <;> first | exact Fq | exact xG)
  | true =>
    rw [hS] at iS hlv
    rw [Bool.true_and] at hlv
    cases hC : eU A (2 ^ b.nts.length - 1 - j)
    all_goals
      rw [hC] at iC hlv
      first | rw [if_pos rfl] at hlv | rw [if_neg (by decide)] at hlv
      repeat' first | ((first | refine Qz ?_ | refine Qf (iBj) ?_ | refine Qf (iS) ?_ | refine Qf (iF) ?_ | refine Qf (iC) ?_ | (refine WSt.notB (m := b.nts.length) (b := j) (by rfl) (by rfl) h5 hlt ?_) | with_reducible (first | refine Qm ?_ | refine Qn ?_ | refine Qo ?_ | refine Qp ?_ | refine WB.nt ?_ | refine WB.nf ?_ | refine WB.dec (fun h => ?_) (fun h => ?_) | refine WB.ndec (fun h => ?_) (fun h => ?_)) | refine WB.mk (fun h => ?_) (fun h => ?_)) <;> conv => whnf) | (refine WB.tt ?_; conv => whnf) | (refine WB.ff ?_; conv => whnf)
      refine AgainB.v (j + 1) (by omega) (show j + 1 ≤ 2 ^ b.nts.length by omega) (Nat.le_refl _) (by assumption) ?_
      rw [hlv]
      conv => whnf
      refine Shr.of ?_ ?_ rfl rfl
      · (repeat' first | exact Rel.e | refine Rel.some ?_ ?_ ?_ | refine Rel.none ?_ ?_ | refine Rel.ee ?_ ?_)
        all_goals show Fz _ _ _ _
        all_goals first | exact Fq | exact xG
      · (repeat' first | exact Rel.e | refine Rel.some ?_ ?_ ?_ | refine Rel.none ?_ ?_ | refine Rel.ee ?_ ?_)
        all_goals refine xH ?_
        all_goals first | exact Sq | (refine ShC.same ?_; (repeat' first | exact ShC.nl | refine ShC.cn ?_ ?_) <;> first | exact Fq | exact xG)
set_option maxHeartbeats 2000000 in
theorem Dr (x : List Int) (hx : x.length ≤ 1000) : PureF Tryz.prog p56.ix [.lst 1 (ints x), .lst 1 (ints x)] (.b true) := by
  have e1 := aI x
  refine PureF.run NQ (by simp) (by simp [aN, cG, Pu, aC]) ?_; conv => whnf
  repeat' first | ((first | refine Qz ?_ | with_reducible (first | refine Qm ?_ | refine Qn ?_ | refine Qo ?_ | refine Qp ?_ | refine WB.nt ?_ | refine WB.nf ?_ | refine WB.dec (fun h => ?_) (fun h => ?_) | refine WB.ndec (fun h => ?_) (fun h => ?_)) | refine WB.mk (fun h => ?_) (fun h => ?_)) <;> conv => whnf) | (refine WB.tt ?_; conv => whnf) | (refine WB.ff ?_; conv => whnf)
  refine Rn.loopV [(p5, none), (p6, none), (bM, none), (bF, none), (bO, none), (bQ, none), (bZ, none), (bY, none), (cJ, none), (cV, none), (p20, none), (p21, none), (p22, none), (dH, none), (p24, none), (p25, none), (p26, none)] (fun j : Nat => [(p6, some (.i .i64 (j : Int)))]) (fun j : Nat => []) (fun j : Nat => .h) (fun j : Nat => j ≤ x.length) (fun j : Nat => x.length - j) 0 ?_ ?_ ?_
  · conv => whnf
    (refine X.le.mk ?_ ?_ (Nat.le_refl _) rfl rfl) <;> (repeat' first | exact T.le_e _ | refine T.le_some ?_ rfl ?_ | refine T.le_none ?_ ?_ | refine T.le_ee ?_ ?_)
  rotate_left
  intro xl3 hxl3
  rotate_right
  · exact Nat.zero_le _
  intro j hj
  have hj : j ≤ x.length := hj
  conv => whnf
  repeat' first | ((first | refine Qz ?_ | refine Qy ?_) <;> conv => whnf) | (refine WB.tt ?_; conv => whnf) | (refine WB.ff ?_; conv => whnf)
  refine WB.dec (fun hd2 => ?_) (fun hd2 => ?_) <;> conv => whnf
  · have hlt : j < x.length := by omega
    repeat' first | ((first | refine Qz ?_ | with_reducible (first | refine Qm ?_ | refine Qn ?_ | refine Qo ?_ | refine Qp ?_ | refine WB.nt ?_ | refine WB.nf ?_ | refine WB.dec (fun h => ?_) (fun h => ?_) | refine WB.ndec (fun h => ?_) (fun h => ?_)) | refine WB.mk (fun h => ?_) (fun h => ?_)) <;> conv => whnf) | (refine WB.tt ?_; conv => whnf) | (refine WB.ff ?_; conv => whnf)
    refine AgainB.v (j + 1) (by omega) (show j + 1 ≤ x.length by omega) (Nat.le_refl _) (by assumption) ?_
    conv => whnf
    refine Shr.of ?_ ?_ rfl rfl
    · (repeat' first | exact Rel.e | refine Rel.some ?_ ?_ ?_ | refine Rel.none ?_ ?_ | refine Rel.ee ?_ ?_)
      all_goals show Fz _ _ _ _
      all_goals first | exact Fq | exact xG
    · (repeat' first | exact Rel.e | refine Rel.some ?_ ?_ ?_ | refine Rel.none ?_ ?_ | refine Rel.ee ?_ ?_)
      all_goals refine xH ?_
      all_goals first | exact Sq | (refine ShC.same ?_; (repeat' first | exact ShC.nl | refine ShC.cn ?_ ?_) <;> first | exact Fq | exact xG)
  · repeat' first | ((first | refine Qz ?_ | refine Qy ?_) <;> conv => whnf) | (refine WB.tt ?_; conv => whnf) | (refine WB.ff ?_; conv => whnf)
    exact Fin.b rfl rfl
theorem Fs (x : List Int) (hx : x.length ≤ 1000) : PureF Tryz.prog p56.ix [xL x, .lst 1 (ints x)] (.b true) := by
  cases x with
  | cons a s => exact Dr (a :: s) hx
  | nil => exact (Dr [] hx).sub fun γ w => .cons Cv.ns (.cons (.pu (fun _ h => h) (aC [])) .nil)
theorem Mj {B : Pos → Prop} {ob : T C} {d : D} (h : Pu d := by simp [Cell.d, Pu, aN, cG, aC, aF, aG, aM, gB]; done) : Fz B ob d d := .pu h
theorem WSt.slcT {sl : T D} {ob : T C} {nx : Pos} {lg : Option (T Bool)} {K : X → Prop} {d : Pos} {z h : Nat} {x xh : RX} {es : List (List D)} (hx : bC sl x = some (.lst z es)) (hhi : bC sl xh = some (.i .i64 (h : Int))) (h2 : h ≤ es.length) (k : dG sl ob nx lg d K (.lst z (es.take h))) : WSt (.slc d z x none (some xh) none) ⟨sl, ob, nx, lg⟩ K := by
  obtain ⟨k2, k3⟩ := aT k
  refine ⟨_, ?_, k3⟩
  show sO d z x none (some xh) none sl ob nx lg = _
  unfold sO
  rw [hx]
  have hhi' : ((h : Nat) : Int) = Int.ofNat h := rfl
  have b1 : Nat.ble 0 h = true := Nat.ble_eq_true_of_le (Nat.zero_le _)
  have b2 : Nat.ble h es.length = true := Nat.ble_eq_true_of_le h2
  simp only [vJ, hhi, hhi', Nat.beq_refl, cond_true, b1, b2, Bool.and_self, List.drop_zero]
  exact k2
def BK (b : Bh) (n : Nat) : Bh := ⟨b.last, b.rws, b.pls, b.rch, b.face, b.sun, b.winds, b.brk, b.nts.take n⟩
theorem VW.tk {b : Bh} (V : VW b) (n : Nat) : VW (BK b n) := { V with nts := List.all_eq_true.2 fun x hx => List.all_eq_true.1 V.nts x (List.mem_of_mem_take hx) }
def OW (b : Bh) : Nat → List (Int × Int)
  | 0 => b.nts
  | j + 1 => b.nts.take (j + 1)
def Bg (b : Bh) : Option Nat := ID (fun n => !kY (BK b (n + 1))) b.nts.length
def EL (b : Bh) : Int := if bD b = 0 then (match Bg b with | none => 0 | some n => (n : Int)) else 0
def Ci (b : Bh) : Int := if bD b = 0 then (match Bg b with | none => 7 | some _ => 0) else bD b
set_option maxHeartbeats 2000000 in
theorem Gg (b : Bh) (l1 : b.face.length ≤ 1000) (l2 : b.sun.length ≤ 1000) (l3 : b.winds.length ≤ 1000) (l6 : ∀ w ∈ b.winds, w.length ≤ 1000) : PureF Tryz.prog p53.ix [.ag (eY b)] (.tp [.i .i64 (EL b), .i .i64 (Ci b)]) := by
  have cC := Ah b l1 l2 l3 l6
  have e1 := aL cX b.nts
  refine PureF.run Oj (by simp) (by simp [aN, cG, Pu, aM]) ?_; conv => whnf
  by_cases hf : bD b = 0
  rotate_left
  · unfold EL Ci
    rw [if_neg hf, if_neg hf]
    repeat' first | ((first | refine Qz ?_ | refine Qf (cC) ?_ | with_reducible (first | refine Qm ?_ | refine Qn ?_ | refine Qo ?_ | refine Qp ?_ | refine WB.nt ?_ | refine WB.nf ?_ | refine WB.dec (fun h => ?_) (fun h => ?_) | refine WB.ndec (fun h => ?_) (fun h => ?_)) | refine WB.mk (fun h => ?_) (fun h => ?_)) <;> conv => whnf) | (refine WB.tt ?_; conv => whnf) | (refine WB.ff ?_; conv => whnf)
    exact Fin.two (.inr rfl) rfl rfl (.pu trivial) (.pu trivial)
  have Z := gD hf
  have V := Z.v
  have h5 := Z.l5
  unfold EL Ci
  rw [if_pos hf, if_pos hf]
  rw [hf] at cC
  repeat' first | ((first | refine Qz ?_ | refine Qf (cC) ?_ | with_reducible (first | refine Qm ?_ | refine Qn ?_ | refine Qo ?_ | refine Qp ?_ | refine WB.nt ?_ | refine WB.nf ?_ | refine WB.dec (fun h => ?_) (fun h => ?_) | refine WB.ndec (fun h => ?_) (fun h => ?_)) | refine WB.mk (fun h => ?_) (fun h => ?_)) <;> conv => whnf) | (refine WB.tt ?_; conv => whnf) | (refine WB.ff ?_; conv => whnf)
  refine Rn.loopV [(p3, none), (p4, none), (p7, none), (bY, none), (cJ, none), (cV, none), (p20, none), (p21, none), (p22, none), (dH, none), (p24, none), (p25, none), (p26, none), (fM, none), (p28, none), (p29, none), (gU, none)] (fun j : Nat => [(bY, some (.i .i64 (j : Int)))]) (fun j : Nat => [(.h, some (.cells false [.o (.i .i64 b.last) 0, .o (.i .i64 b.rws) 0, .o (.i .i64 b.pls) 0, .o (.i .i64 b.rch) 0, .o (.lst 1 (ints b.face)) 0, .o (.lst 1 (ints b.sun)) 0, .o (.lst 1 (aO iP b.winds)) 0, .o (.lst 2 (aO cX b.brk)) 0, .o (.lst 2 (aO cX (OW b j))) 0] 1))]) (fun j : Nat => (.o .h)) (fun j : Nat => j ≤ b.nts.length ∧ ∀ i, i < j → (!kY (BK b (i + 1))) = false) (fun j : Nat => b.nts.length - j) 0 ?_ ?_ ?_
  · conv => whnf
    (refine X.le.mk ?_ ?_ (Nat.le_refl _) rfl rfl) <;> (repeat' first | exact T.le_e _ | refine T.le_some ?_ rfl ?_ | refine T.le_none ?_ ?_ | refine T.le_ee ?_ ?_)
  rotate_left
  intro xl1 hxl1
  rotate_right
  · exact ⟨Nat.zero_le _, fun i hi => absurd hi (Nat.not_lt_zero _)⟩
  rintro j ⟨hj, hno⟩
  conv => whnf
  repeat' first | ((first | refine Qz ?_ | refine Qy ?_) <;> conv => whnf) | (refine WB.tt ?_; conv => whnf) | (refine WB.ff ?_; conv => whnf)
  refine WB.dec (fun hd2 => ?_) (fun hd2 => ?_) <;> conv => whnf
  · have hlt : j < b.nts.length := by omega
    have cH := sA (BK b (j + 1)) (V.tk _) l6 (by show (b.nts.take (j + 1)).length ≤ 1000; rw [List.length_take]; omega)
    have eT : (aO cX b.nts).take (j + 1) = aO cX (b.nts.take (j + 1)) := List.map_take.symm
    repeat' first | ((first | refine Qz ?_ | refine Qy ?_) <;> conv => whnf) | (refine WB.tt ?_; conv => whnf) | (refine WB.ff ?_; conv => whnf)
    refine WSt.slcT (h := j + 1) (es := aO cX b.nts) (by rfl) (by rfl) (by omega) ?_; conv => whnf
    rw [eT]
    cases k : kY (BK b (j + 1)) with
    | true =>
      rw [k] at cH
      repeat' first | ((first | refine Qz ?_ | refine Qf (cH) ?_ | with_reducible (first | refine Qm ?_ | refine Qn ?_ | refine Qo ?_ | refine Qp ?_ | refine WB.nt ?_ | refine WB.nf ?_ | refine WB.dec (fun h => ?_) (fun h => ?_) | refine WB.ndec (fun h => ?_) (fun h => ?_)) | refine WB.mk (fun h => ?_) (fun h => ?_)) <;> conv => whnf) | (refine WB.tt ?_; conv => whnf) | (refine WB.ff ?_; conv => whnf)
      refine AgainB.v (j + 1) (by omega) ⟨by omega, GE hno (by rw [k]; rfl)⟩ (Nat.le_refl _) (by assumption) ?_
      conv => whnf
      refine Shr.of ?_ ?_ rfl rfl
      · (repeat' first | exact Rel.e | refine Rel.some ?_ ?_ ?_ | refine Rel.none ?_ ?_ | refine Rel.ee ?_ ?_)
        all_goals show Fz _ _ _ _
        all_goals first | exact Fq | exact Mj
      · (repeat' first | exact Rel.e | refine Rel.some ?_ ?_ ?_ | refine Rel.none ?_ ?_ | refine Rel.ee ?_ ?_)
        all_goals refine xH ?_
        all_goals first | exact Sq | (refine ShC.same ?_; (repeat' first | exact ShC.nl | refine ShC.cn ?_ ?_) <;> first | exact Fq | exact Mj)
    | false =>
      rw [k] at cH
      have e := vV (p := fun n => !kY (BK b (n + 1))) hno hlt (by show (!kY (BK b (j + 1))) = true; rw [k]; rfl)
      have e : Bg b = some j := e
      rw [e]
      repeat' first | ((first | refine Qz ?_ | refine Qf (cH) ?_ | with_reducible (first | refine Qm ?_ | refine Qn ?_ | refine Qo ?_ | refine Qp ?_ | refine WB.nt ?_ | refine WB.nf ?_ | refine WB.dec (fun h => ?_) (fun h => ?_) | refine WB.ndec (fun h => ?_) (fun h => ?_)) | refine WB.mk (fun h => ?_) (fun h => ?_)) <;> conv => whnf) | (refine WB.tt ?_; conv => whnf) | (refine WB.ff ?_; conv => whnf)
      exact Fin.two (.inr rfl) rfl rfl (.pu trivial) (.pu trivial)
  · obtain rfl : j = b.nts.length := by omega
    have e := rI (p := fun n => !kY (BK b (n + 1))) hno
    have e : Bg b = none := e
    rw [e]
    repeat' first | ((first | refine Qz ?_ | refine Qy ?_) <;> conv => whnf) | (refine WB.tt ?_; conv => whnf) | (refine WB.ff ?_; conv => whnf)
    exact Fin.two (.inr rfl) rfl rfl (.pu trivial) (.pu trivial)
theorem DH {b : Bh} (V : VW b) {n : Nat} (hn : n < b.nts.length) : eU (gI b) (2 * 2 ^ n - 1) = kY (BK b (n + 1)) := by
  have e : 2 * 2 ^ n - 1 = 2 ^ (n + 1) - 1 := by rw [Nat.pow_succ, Nat.mul_comm]
  have hle : 2 ^ (n + 1) ≤ 2 ^ b.nts.length := Nat.pow_le_pow_right (show 0 < 2 by decide) hn
  have hp := Nat.two_pow_pos (n + 1)
  rw [e, Bool.eq_iff_iff, rZ (by omega), vQ (V.tk _)]
  have tr : ∀ t, TruP (BK b (n + 1)) t ↔ rH b t = true ∧ ∀ k, k < n + 1 → nJ b t k = true := fun t => by
    rw [← nA (V.tk _)]
    unfold Dv
    rw [Bool.and_eq_true]
    have g : ∀ k, k < n + 1 → (BK b (n + 1)).nts.getD k default = b.nts.getD k default := fun k hk => by
      show (b.nts.take (n + 1)).getD k default = _
      simp [List.getD, List.getElem?_take, hk]
    constructor
    · rintro ⟨h1, h2⟩
      refine ⟨h1, fun k hk => ?_⟩
      have h3 := List.all_eq_true.1 h2 _ (bA (d := default) (show k < (BK b (n + 1)).nts.length by show k < (b.nts.take (n + 1)).length; rw [List.length_take]; omega))
      unfold nJ
      rw [← g k hk]
      exact h3
    · rintro ⟨h1, h2⟩
      refine ⟨h1, List.all_eq_true.2 fun x hx => ?_⟩
      obtain ⟨k, hk, ek⟩ := uL (d := default) hx
      have hk : k < n + 1 := by
        have hk : k < (b.nts.take (n + 1)).length := hk
        rw [List.length_take] at hk; omega
      have h3 := h2 k hk
      unfold nJ at h3
      rw [← g k hk] at h3
      rw [← ek]
      exact h3
  constructor
  · rintro ⟨m, hm, h⟩
    exact ⟨gL b m, (tr _).2 ⟨uZ V m, fun k hk => h k (by omega) (by rw [Nat.testBit_two_pow_sub_one]; exact decide_eq_true hk)⟩⟩
  · rintro ⟨t, ht⟩
    obtain ⟨h1, h2⟩ := (tr t).1 ht
    obtain ⟨m, hm, rfl⟩ := yD h1
    exact ⟨m, hm, fun k _ hbit => h2 k (by rw [Nat.testBit_two_pow_sub_one] at hbit; exact of_decide_eq_true hbit)⟩
theorem CZ {b : Bh} (V : VW b) : ID (fun n => !eU (gI b) (2 * 2 ^ n - 1)) b.nts.length = Bg b :=
  kW fun n hn => by show (!eU (gI b) (2 * 2 ^ n - 1)) = !kY (BK b (n + 1)); rw [DH V (List.mem_range.1 hn)]
set_option maxHeartbeats 8000000 in
theorem uJ (b : Bh) (AW : PureF Tryz.prog p22.ix [] (.b true)) : PureF Tryz.prog p8.ix [.ag (eY b)] (.b true) := by
  have cTh := In b
  refine PureF.run Pc (by simp) (by simp [aN, cG, Pu, aM]) ?_; conv => whnf
  cases hTh : qG b with
  | false =>
    rw [hTh] at cTh
    repeat' first | ((first | refine Qz ?_ | refine Qf (cTh) ?_ | refine Qf (AW) ?_ | with_reducible (first | refine Qm ?_ | refine Qn ?_ | refine Qo ?_ | refine Qp ?_ | refine WB.nt ?_ | refine WB.nf ?_ | refine WB.dec (fun h => ?_) (fun h => ?_) | refine WB.ndec (fun h => ?_) (fun h => ?_)) | refine WB.mk (fun h => ?_) (fun h => ?_)) <;> conv => whnf) | (refine WB.tt ?_; conv => whnf) | (refine WB.ff ?_; conv => whnf)
    exact Fin.b rfl rfl
  | true =>
  rw [hTh] at cTh
  have N := GW hTh
  have F := N.f
  have cB := FO b F.l1 F.l2 F.l3 F.l4 F.l5 F.l6
  have cF := FI b F.l1 F.l2 F.l3 F.l6
  have cI := Gg b F.l1 F.l2 F.l3 F.l6
  have cL := Gc b F.l1 F.l2 F.l3 F.l6
  by_cases hf : bD b = 0
  rotate_left
  · unfold EL Ci at cI
    rw [if_neg hf, if_neg hf] at cI
    rw [if_neg hf] at cL
    repeat' first | ((first | refine Qz ?_ | refine Qf (cTh) ?_ | refine Qf (cB) ?_ | refine Qf (cF) ?_ | refine Qf (cI) ?_ | refine Qf (cL) ?_ | refine Qf (AW) ?_ | with_reducible (first | refine Qm ?_ | refine Qn ?_ | refine Qo ?_ | refine Qp ?_ | refine WB.nt ?_ | refine WB.nf ?_ | refine WB.dec (fun h => ?_) (fun h => ?_) | refine WB.ndec (fun h => ?_) (fun h => ?_)) | refine WB.mk (fun h => ?_) (fun h => ?_)) <;> conv => whnf) | (refine WB.tt ?_; conv => whnf) | (refine WB.ff ?_; conv => whnf)
    all_goals first | exact Fin.b rfl rfl | exact absurd h (by decide)
  have Z := gD hf
  have V := Z.v
  have h5 := Z.l5
  obtain ⟨m1, m2⟩ := N.m hf
  have cA := JZ b N hf
  have hM : fE b ≤ 80 := by unfold fE; omega
  have cR := Ei b h5 (gI b) (by rw [xF]; omega) (Ar h5)
  have cS := Du b h5 (gI b) (by rw [xF]; omega) (Ar h5)
  rw [CZ V] at cS
  have hl := rF (gI b) b.nts.length (2 ^ b.nts.length)
  have cD := Fs (Dp b) (by show (oM _ _ _).length ≤ 1000; omega)
  have cR : PureF Tryz.prog p57.ix [.ag (eY b), .lst 1 (ints (jM (gI b)))] (.lst 1 (ints (Dp b))) := cR
  unfold EL Ci at cI
  rw [if_pos hf, if_pos hf] at cI
  rw [if_pos hf] at cL
  rw [hf] at cF cL
  generalize Dp b = lv at *
  cases hE : Bg b with
  | none =>
    rw [hE] at cI cS
    have cI : PureF Tryz.prog p53.ix [.ag (eY b)] (.tp [.i .i64 0, .i .i64 7]) := cI
    have cS : PureF Tryz.prog p58.ix [.ag (eY b), .lst 1 (ints (jM (gI b)))] (.i .i64 (-1)) := cS
    repeat' first | ((first | refine Qz ?_ | refine Qf (cTh) ?_ | refine Qf (cB) ?_ | refine Qf (cF) ?_ | refine Qf (cI) ?_ | refine Qf (cL) ?_ | refine Qf (cA) ?_ | refine Qf (cR) ?_ | refine Qf (cS) ?_ | refine Qf (cD) ?_ | refine Qf (AW) ?_ | with_reducible (first | refine Qm ?_ | refine Qn ?_ | refine Qo ?_ | refine Qp ?_ | refine WB.nt ?_ | refine WB.nf ?_ | refine WB.dec (fun h => ?_) (fun h => ?_) | refine WB.ndec (fun h => ?_) (fun h => ?_)) | refine WB.mk (fun h => ?_) (fun h => ?_)) <;> conv => whnf) | (refine WB.tt ?_; conv => whnf) | (refine WB.ff ?_; conv => whnf)
    all_goals first | exact Fin.b rfl rfl | exact absurd h (by decide)
  | some n =>
    rw [hE] at cI cS
    have cI : PureF Tryz.prog p53.ix [.ag (eY b)] (.tp [.i .i64 (n : Int), .i .i64 0]) := cI
    have cS : PureF Tryz.prog p58.ix [.ag (eY b), .lst 1 (ints (jM (gI b)))] (.i .i64 (n : Int)) := cS
    repeat' first | ((first | refine Qz ?_ | refine Qf (cTh) ?_ | refine Qf (cB) ?_ | refine Qf (cF) ?_ | refine Qf (cI) ?_ | refine Qf (cL) ?_ | refine Qf (cA) ?_ | refine Qf (cR) ?_ | refine Qf (cS) ?_ | refine Qf (cD) ?_ | refine Qf (AW) ?_ | with_reducible (first | refine Qm ?_ | refine Qn ?_ | refine Qo ?_ | refine Qp ?_ | refine WB.nt ?_ | refine WB.nf ?_ | refine WB.dec (fun h => ?_) (fun h => ?_) | refine WB.ndec (fun h => ?_) (fun h => ?_)) | refine WB.mk (fun h => ?_) (fun h => ?_)) <;> conv => whnf) | (refine WB.tt ?_; conv => whnf) | (refine WB.ff ?_; conv => whnf)
    all_goals first | exact Fin.b rfl rfl | exact absurd h (by decide)
theorem main_windLeaves (AW : PureF Tryz.prog p22.ix [] (.b true)) {es : List D} (fit : FitP [(true, [.i .i64, .i .i64, .i .i64, .i .i64, .sl [.i .i64], .sl [.i .i64], .sl [.sl [.i .i64]], .sl [.i .i64, .i .i64], .sl [.i .i64, .i .i64]])] es) : PureF Tryz.prog 7 es (.b true) := by
  obtain ⟨b, _, rfl, hb, g1⟩ := fit.beachW
  obtain rfl := g1.no
  exact uJ b AW
end Go.Ev
end
