import Derived.Test.YtkbgaadfednjpaaGreatDoorEvU6c
import Derived.Test.YtkbgaadfednjpaaGreatDoorEvU4b
set_option linter.all false
set_option maxHeartbeats 8000000
noncomputable section
namespace Go.Ev
open Go.Proofs
set_option maxRecDepth 100000
theorem vQ {b : Bh} (V : VW b) : kY b = true ↔ ∃ t, TruP b t := by
 rw [<- Ee V]
 constructor
 ·intro h
  cases hb : BC b with
  | nil => exact absurd hb h
  | cons t ts => exact ⟨t, (mU V).1 (by rw [hb]; simp)⟩
 ·rintro ⟨t, h⟩ e
  have := (mU V).2 h
  rw [e] at this; cases this
def nJ (b : Bh) (t : List Int) (k : Nat) : Bool := decide (t.getD (b.nts.getD k default).1.toNat 0 = (b.nts.getD k default).2)
def eZ (b : Bh) (t : List Int) (j : Nat) : Nat := qP (nJ b t) j
def gI (b : Bh) : List Nat := (List.range (fE b)).map fun n => eZ b (gL b n) b.nts.length
theorem uZ {b : Bh} (V : VW b) (n : Nat) : rH b (gL b n) = true := by
 rw [zP V]
 exact Ff V n fun w hw => (iR.1 (List.all_eq_true.1 V.wins _ hw)).2.1
theorem yE {b : Bh} {t : List Int} (h : rH b t = true) : ∃ n, n < fE b /\ gL b n = t := by
 obtain ⟨h1, h2⟩ := qC.1 h
 obtain ⟨n, k1, k2⟩ := yK b.winds t h1 h2
 exact ⟨n, by rw [xJ]; exact k1, k2⟩
theorem rZ {b : Bh} {w : Nat} (hw : w < 2 ^ b.nts.length) : eU (gI b) w = true ↔ ∃ n, n < fE b /\ ∀ k, k < b.nts.length -> w.testBit k = true -> nJ b (gL b n) k = true := by
 unfold gI
 rw [show (List.range (fE b)).map (fun n => eZ b (gL b n) b.nts.length) = (List.range (fE b)).map (fun n => eZ b (gL b n) b.nts.length) from rfl]
 unfold eU
 rw [List.any_eq_true]
 have key : ∀ n, eZ b (gL b n) b.nts.length &&& w = w ↔ ∀ k, k < b.nts.length -> w.testBit k = true -> nJ b (gL b n) k = true := fun n => by
  rw [Eo hw]
  constructor
  ·intro h k hk hb
   have := h k hk hb
   unfold eZ at this
   rw [lD, Bool.and_eq_true] at this
   exact this.2
  ·intro h k hk hb
   unfold eZ
   rw [lD, Bool.and_eq_true]
   exact ⟨decide_eq_true hk, h k hk hb⟩
 have gd : ∀ n, n < fE b -> ((List.range (fE b)).map fun n => eZ b (gL b n) b.nts.length).getD n 0 = eZ b (gL b n) b.nts.length := fun n hn => by simp [List.getD, hn]
 constructor
 ·rintro ⟨n, hn, h⟩
  have hn : n < fE b := by simpa using List.mem_range.1 hn
  rw [gd n hn] at h
  exact ⟨n, hn, (key n).1 (of_decide_eq_true h)⟩
 ·rintro ⟨n, hn, h⟩
  refine ⟨n, List.mem_range.2 (by simpa using hn), ?_⟩
  rw [gd n hn]
  exact decide_eq_true ((key n).2 h)
theorem Gm {b : Bh} (V : VW b) (h5 : b.nts.length <= 5) {S : List Int} (hS : S ∈ dE b.nts.length) : eU (gI b) (2 ^ b.nts.length - 1 - dK S) = kY (EX b S) := by
 have hb := List.all_eq_true.1 (BH ⟨b.nts.length, by omega⟩) S hS
 have hb : ∀ k, k < b.nts.length -> (2 ^ b.nts.length - 1 - dK S).testBit k = !pO S (k : Int) := fun k hk => by
  have := List.all_eq_true.1 hb k (List.mem_range.2 hk)
  simpa using this
 have hw : 2 ^ b.nts.length - 1 - dK S < 2 ^ b.nts.length := by have := Nat.two_pow_pos b.nts.length; omega
 rw [Bool.eq_iff_iff, rZ hw, vQ (V.wo S)]
 have tr : ∀ t, TruP (EX b S) t ↔ rH b t = true /\ ∀ k, k < b.nts.length -> pO S (k : Int) = false -> nJ b t k = true := fun t => by
  rw [<- nA (V.wo S)]
  unfold Dw
  rw [Bool.and_eq_true]
  constructor
  ·rintro ⟨h1, h2⟩
   exact ⟨h1, zX.1 h2⟩
  ·rintro ⟨h1, h2⟩
   exact ⟨h1, zX.2 h2⟩
 constructor
 ·rintro ⟨n, hn, h⟩
  exact ⟨gL b n, (tr _).2 ⟨uZ V n, fun k hk hc => h k hk (by rw [hb k hk, hc]; rfl)⟩⟩
 ·rintro ⟨t, ht⟩
  obtain ⟨h1, h2⟩ := (tr t).1 ht
  obtain ⟨n, hn, rfl⟩ := yE h1
  exact ⟨n, hn, fun k hk hbit => h2 k hk (by rw [hb k hk] at hbit; simpa using hbit)⟩
def Dq (b : Bh) : List Int := By (gI b) b.nts.length
theorem Fj {b : Bh} (V : VW b) : 0 < fE b := by
 have h := uZ V 0
 obtain ⟨n, hn, _⟩ := yE h
 omega
theorem Br {b : Bh} (V : VW b) (h5 : b.nts.length <= 5) : (dE b.nts.length).find? (fun S => kY (EX b S)) = some (Dq b) := by
 rw [<- kW (p := fun S => eU (gI b) (2 ^ b.nts.length - 1 - dK S)) fun S hS => Gm V h5 hS]
 refine BJ h5 ?_
 rw [rZ (Nat.two_pow_pos _)]
 exact ⟨0, Fj V, fun k _ h => by simp at h⟩
theorem Gd (b : Bh) (l1 : b.face.length <= 1000) (l2 : b.sun.length <= 1000) (l3 : b.winds.length <= 1000) (l6 : ∀ w ∈ b.winds, w.length <= 1000) : PureF Tryz.prog p54.ix [.ag (eY b)] (.tp [if bD b = 0 then xL (Dq b) else .ns, .i .i64 (bD b)]) := by
 have cC := Ai b l1 l2 l3 l6
 refine PureF.run Ow (by simp) (by simp [aN, cG, Pu, aM]) ?_; conv => whnf
 by_cases hf : bD b = 0
 ·have Z := gD hf
  have cS := yQ b Z.v l6 Z.l5 _ fun S => rfl
  rw [Br Z.v Z.l5] at cS
  rw [hf] at cC
  rw [if_pos hf, hf]
  repeat' first | ((first | refine Qw ?_ | refine Qf cC ?_ | refine Qf cS ?_ | refine Qd (fun h => ?_) (fun h => ?_)) <;> conv => whnf) | (refine WB.tt ?_; conv => whnf) | (refine WB.ff ?_; conv => whnf)
  exact ⟨.inr rfl, _, rfl, .tp (.cons (.pu (pZ _)) (.cons (.pu trivial) .nil))⟩
 ·rw [if_neg hf]
  repeat' first | ((first | refine Qw ?_ | refine Qf cC ?_ | refine Qd (fun h => ?_) (fun h => ?_)) <;> conv => whnf) | (refine WB.tt ?_; conv => whnf) | (refine WB.ff ?_; conv => whnf)
  exact ⟨.inr rfl, _, rfl, .tp (.cons (.pu trivial) (.cons (.pu trivial) .nil))⟩
theorem pE {B : Pos -> Prop} {ob : T C} {d : D} (h : Pu d := by simp [Cell.d, Pu, aN, cG, aC, aF, aG, aM, gB]; done) : Fz B ob d d := .pu h
theorem kF {n : Nat} (h : n <= 5) : 2 ^ n <= 32 := Nat.pow_le_pow_right (show 0 < 2 by decide) h
theorem HT (b : Bh) (h5 : b.nts.length <= 5) : PureF Tryz.prog p75.ix [.ag (eY b)] (.i .i64 ((2 ^ b.nts.length - 1 : Nat) : Int)) := by
 have e1 := aL cX b.nts
 have hp := Nat.two_pow_pos b.nts.length
 have hq := kF h5
 refine PureF.run Ni (by simp) (by simp [aN, cG, Pu, aM]) ?_; conv => whnf
 repeat' ((first | refine Qz ?_ | refine And.intro (InR.u64 (by omega) (by omega)) ?_ | refine Qy ?_ | refine Qv ?_) <;> conv => whnf)
 refine WSt.shlU (kk := .u64) (a := 1) (j := (aO cX b.nts).length) (by rfl) (by rfl) (by rw [e1]; omega) (by omega) ?_; conv => whnf
 rw [e1]
 repeat' ((first | refine Qw ?_ | refine Qv ?_) <;> conv => whnf)
 exact Fin.i rfl (by omega)
def Bs (b : Bh) (j : Nat) : List Int := (List.range j).map fun n => ((eZ b (gL b n) b.nts.length : Nat) : Int)
theorem Di (b : Bh) (j : Nat) : Bs b (j + 1) = Bs b j ++ [((eZ b (gL b j) b.nts.length : Nat) : Int)] := by
 unfold Bs; rw [List.range_succ, List.map_append]; rfl
theorem Fw (b : Bh) (j : Nat) : (Bs b j).length = j := by simp [Bs]
theorem FL (b : Bh) : Bs b (fE b) = jM (gI b) := by
 unfold Bs jM gI
 rw [List.map_map]; rfl
theorem uD {b : Bh} (h5 : b.nts.length <= 5) (t : List Int) {j : Nat} (hj : j <= b.nts.length) : eZ b t j < 32 :=
 Nat.lt_of_lt_of_le (wW (nJ b t) j) (kF (by omega))
theorem As {b : Bh} (h5 : b.nts.length <= 5) : ∀ a ∈ gI b, a < 1024 := fun a ha => by
 obtain ⟨n, _, rfl⟩ := List.mem_map.1 ha
 have := uD h5 (gL b n) (Nat.le_refl _)
 omega
theorem xF (b : Bh) : (gI b).length = fE b := by simp [gI]
theorem JZ (b : Bh) (N : Thn b) (hf : bD b = 0) : PureF Tryz.prog p55.ix [.ag (eY b)] (.lst 1 (ints (jM (gI b)))) := by
 have Z := gD hf
 have V := Z.v
 have h5 := Z.l5
 have hv := V.last
 have q5 := V.winl
 obtain ⟨m1, m2⟩ := N.m hf
 have l6 := N.f.l6
 have cM := Co b N.w7 N.w5
 have eM : ((fE b : Nat) : Int) = gA b.winds b.winds.length := by unfold fE; omega
 rw [<- eM] at cM
 have e1 := aL cX b.nts
 refine PureF.run Oo (by simp) (by simp [aN, cG, Pu, aM]) ?_; conv => whnf
 repeat' ((first | refine Qw ?_ | refine Qv ?_) <;> conv => whnf)
 refine Rn.loopV [(p4, none), (p5, none), (p6, none), (p7, none), (p8, none), (p9, none), (bI, none), (bH, none), (bM, none), (bF, none), (bO, none), (bQ, none), (bZ, none), (bY, none), (cJ, none), (cV, none), (p20, none), (p21, none), (p22, none), (dH, none), (p24, none), (p25, none), (p26, none), (fM, none), (p28, none), (p29, none), (gU, none), (jG, none), (kP, none), (lI, none), (oU, none), (iZ, none), (oQ, none), (sE, none), (pM, none), (sC, none), (vD, none), (sF, none), (p42, none), (tP, none), (p44, none), (p45, none), (sG, none), (yX, none), (xT, none), (p49, none)] (fun j : Nat => [(p4, some (BT (.i .h) 1 (Bs b j))), (p5, some (.i .i64 (j : Int)))]) (fun j : Nat => [((.i .h), EA vI (Bs b j))]) (fun j : Nat => kE (.o .h) (.o (.o .h)) (Bs b j)) (fun j : Nat => j <= fE b) (fun j : Nat => fE b - j) 0 ?_ ?_ ?_
 ·conv => whnf
  (refine X.le.mk ?_ ?_ (Nat.le_refl _) rfl rfl) <;> exact Lw
 rotate_left
 intro xl1 hxl1
 rotate_right
 ·exact Nat.zero_le _
 intro j hj
 have hj : j <= fE b := hj
 have hsc := Di b j
 have hAl : (Bs b j).length <= j := by rw [Fw]; exact Nat.le_refl _
 have hend : j = fE b -> Bs b j = jM (gI b) := fun h => by rw [h, FL]
 generalize hA : Bs b j = A at *
 conv => whnf
 repeat' ((first | refine Qw ?_ | refine Qf cM ?_ | refine Qv ?_) <;> conv => whnf)
 refine WB.dec (fun hd2 => ?_) (fun hd2 => ?_) <;> conv => whnf
 rotate_left
 ·repeat' ((first | refine Qw ?_ | refine Qv ?_) <;> conv => whnf)
  rw [<- hend (by omega)]
  exact Fin.t (.inr rfl) rfl (Fz.G A (fun h => h) (fun c h => h) Bk oO)
 have hlt : j < fE b := by omega
 have cN := JT b j (by omega) N.f.l3 (V.win l6)
 have cN : PureF Tryz.prog p68.ix [.ag (eY b), .i .i64 (j : Int)] (.lst 1 (ints (gL b j))) := cN
 have tl : (gL b j).length = b.winds.length := uX _ _ _
 have e2 := aI (gL b j)
 repeat' ((first | refine Qw ?_ | refine Qf cN ?_ | refine Qv ?_) <;> conv => whnf)
 cases A with
 | nil =>
   refine Rn.loopV [(p7, none), (p8, none), (cJ, none), (cV, none), (p20, none), (p21, none), (p22, none), (dH, none), (p24, none), (p25, none), (p26, none), (fM, none), (p28, none), (p29, none), (gU, none), (jG, none), (kP, none), (lI, none), (oU, none), (iZ, none), (oQ, none), (sE, none), (pM, none), (sC, none), (vD, none), (sF, none), (p42, none), (tP, none), (p44, none), (p45, none)] (fun i : Nat => [(p7, some (.i .i64 (eZ b (gL b j) i : Int))), (p8, some (.i .i64 (i : Int)))]) (fun i : Nat => []) (fun i : Nat => (.o .h)) (fun i : Nat => i <= b.nts.length) (fun i : Nat => b.nts.length - i) 0 ?_ ?_ ?_
   ·conv => whnf
    (refine X.le.mk ?_ ?_ (Nat.le_refl _) rfl rfl) <;> exact Lw
   rotate_left
   intro xl2 hxl2
   rotate_right
   ·exact Nat.zero_le _
   intro i hi
   have hi : i <= b.nts.length := hi
   have hs : eZ b (gL b j) (i + 1) = if nJ b (gL b j) i = true then eZ b (gL b j) i ||| 1 * 2 ^ i else eZ b (gL b j) i := iQ _ _
   have hl := uD h5 (gL b j) hi
   have hze : i = b.nts.length -> eZ b (gL b j) b.nts.length = eZ b (gL b j) i := fun h => by rw [h]
   generalize eZ b (gL b j) i = c at *
   conv => whnf
   repeat' ((first | refine Qw ?_ | refine Qv ?_) <;> conv => whnf)
   refine WB.dec (fun hd3 => ?_) (fun hd3 => ?_) <;> conv => whnf
   ·have hlt3 : i < b.nts.length := by omega
    have hno := lZ hv (List.all_eq_true.1 V.nts _ (bA (d := default) hlt3))
    have hno2 : 0 <= (b.nts.getD i default).1 /\ (b.nts.getD i default).1 <= b.last := by
     have := List.all_eq_true.1 V.nts _ (bA (d := default) hlt3)
     unfold fJ at this
     rw [Bool.and_eq_true] at this
     exact bW this.1
    have hp5 := kF (show i <= 5 by omega)
    by_cases k : (gL b j).getD (b.nts.getD i default).1.toNat 0 = (b.nts.getD i default).2
    ·rw [if_pos (show nJ b (gL b j) i = true from decide_eq_true k)] at hs
     repeat' first | ((first | refine Qz ?_ | refine WIx.intsE (j := (b.nts.getD i default).1.toNat) (by omega) (by omega) ?_ | refine And.intro (InR.u64 (by omega) (by omega)) ?_ | refine Qy ?_ | refine Qd (fun h => ?_) (fun h => ?_)) <;> conv => whnf) | (refine WB.tt ?_; conv => whnf) | (refine WB.ff ?_; conv => whnf)
     refine WSt.shlU (kk := .u64) (a := 1) (j := i) (by rfl) (by rfl) (by omega) (by omega) ?_; conv => whnf
     refine WSt.orB (a := c) (b := 1 * 2 ^ i) (by rfl) (by rfl) (by omega) (by omega) ?_; conv => whnf
     repeat' ((first | refine Qw ?_ | refine Qv ?_) <;> conv => whnf)
     refine AgainB.v (i + 1) (by omega) (show i + 1 <= b.nts.length by omega) (Nat.le_refl _) (by assumption) ?_
     rw [hs]
     conv => whnf
     refine Shr.of ?_ ?_ rfl rfl
     ·(repeat' first | exact Rel.e | refine Rel.some ?_ ?_ ?_ | refine Rel.none ?_ ?_ | refine Rel.ee ?_ ?_)
      all_goals show Fz _ _ _ _
      all_goals first | exact Fq | exact pE
     ·(repeat' first | exact Rel.e | refine Rel.some ?_ ?_ ?_ | refine Rel.none ?_ ?_ | refine Rel.ee ?_ ?_)
      all_goals refine xH ?_
      all_goals first | exact Sq | (refine ShC.same ?_; (repeat' first | exact ShC.nl | refine ShC.cn ?_ ?_) <;> first | exact Fq | exact pE)
    ·rw [if_neg (show ¬ nJ b (gL b j) i = true from fun h => k (of_decide_eq_true h))] at hs
     repeat' first | ((first | refine Qz ?_ | refine WIx.intsE (j := (b.nts.getD i default).1.toNat) (by omega) (by omega) ?_ | refine Qy ?_ | refine Qd (fun h => ?_) (fun h => ?_)) <;> conv => whnf) | (refine WB.tt ?_; conv => whnf) | (refine WB.ff ?_; conv => whnf)
     refine AgainB.v (i + 1) (by omega) (show i + 1 <= b.nts.length by omega) (Nat.le_refl _) (by assumption) ?_
     rw [hs]
     conv => whnf
     refine Shr.of ?_ ?_ rfl rfl
     ·(repeat' first | exact Rel.e | refine Rel.some ?_ ?_ ?_ | refine Rel.none ?_ ?_ | refine Rel.ee ?_ ?_)
      all_goals show Fz _ _ _ _
      all_goals first | exact Fq | exact pE
     ·(repeat' first | exact Rel.e | refine Rel.some ?_ ?_ ?_ | refine Rel.none ?_ ?_ | refine Rel.ee ?_ ?_)
      all_goals refine xH ?_
      all_goals first | exact Sq | (refine ShC.same ?_; (repeat' first | exact ShC.nl | refine ShC.cn ?_ ?_) <;> first | exact Fq | exact pE)
   have hze := hze (by omega)
   repeat' ((first | refine Qw ?_ | refine Qv ?_) <;> conv => whnf)
   refine WSt.app_first (r := vI ((c : Nat) : Int)) (by rfl) (.inl rfl) (by rfl) (by rfl) (by rfl) (by rfl) ?_; conv => whnf
   repeat' ((first | refine Qw ?_ | refine Qv ?_) <;> conv => whnf)
   rw [hze] at hsc
   refine AgainB.v (j + 1) (by omega) (show j + 1 <= fE b by omega) (by show Pos.nat _ <= Pos.nat _; simp only [hA, hsc, kE, List.cons_append, List.nil_append] <;> decide) (by assumption) ?_
   rw [hsc]
   conv => whnf
   refine Shr.of ?_ ?_ rfl rfl
   ·(repeat' first | exact Rel.e | refine Rel.some ?_ ?_ ?_ | refine Rel.none ?_ ?_ | refine Rel.ee ?_ ?_)
    all_goals show Fz _ _ _ _
    all_goals first | exact Fq | exact pE
   ·(repeat' first | exact Rel.e | refine Rel.some ?_ ?_ ?_ | refine Rel.none ?_ ?_ | refine Rel.ee ?_ ?_)
    all_goals refine xH ?_
    all_goals first | exact ShC.na oO _ | exact Sq | (refine ShC.same ?_; (repeat' first | exact ShC.nl | refine ShC.cn ?_ ?_) <;> first | exact Fq | exact pE)
 | cons a s =>
   have hs5 : s.length + 1 <= 1000 := Nat.le_trans hAl (by omega)
   refine Rn.loopV [(p7, none), (p8, none), (cJ, none), (cV, none), (p20, none), (p21, none), (p22, none), (dH, none), (p24, none), (p25, none), (p26, none), (fM, none), (p28, none), (p29, none), (gU, none), (jG, none), (kP, none), (lI, none), (oU, none), (iZ, none), (oQ, none), (sE, none), (pM, none), (sC, none), (vD, none), (sF, none), (p42, none), (tP, none), (p44, none), (p45, none)] (fun i : Nat => [(p7, some (.i .i64 (eZ b (gL b j) i : Int))), (p8, some (.i .i64 (i : Int)))]) (fun i : Nat => []) (fun i : Nat => (.o (.o .h))) (fun i : Nat => i <= b.nts.length) (fun i : Nat => b.nts.length - i) 0 ?_ ?_ ?_
   ·conv => whnf
    (refine X.le.mk ?_ ?_ (Nat.le_refl _) rfl rfl) <;> exact Lw
   rotate_left
   intro xl3 hxl3
   rotate_right
   ·exact Nat.zero_le _
   intro i hi
   have hi : i <= b.nts.length := hi
   have hs : eZ b (gL b j) (i + 1) = if nJ b (gL b j) i = true then eZ b (gL b j) i ||| 1 * 2 ^ i else eZ b (gL b j) i := iQ _ _
   have hl := uD h5 (gL b j) hi
   have hze : i = b.nts.length -> eZ b (gL b j) b.nts.length = eZ b (gL b j) i := fun h => by rw [h]
   generalize eZ b (gL b j) i = c at *
   conv => whnf
   repeat' ((first | refine Qw ?_ | refine Qv ?_) <;> conv => whnf)
   refine WB.dec (fun hd3 => ?_) (fun hd3 => ?_) <;> conv => whnf
   ·have hlt3 : i < b.nts.length := by omega
    have hno := lZ hv (List.all_eq_true.1 V.nts _ (bA (d := default) hlt3))
    have hno2 : 0 <= (b.nts.getD i default).1 /\ (b.nts.getD i default).1 <= b.last := by
     have := List.all_eq_true.1 V.nts _ (bA (d := default) hlt3)
     unfold fJ at this
     rw [Bool.and_eq_true] at this
     exact bW this.1
    have hp5 := kF (show i <= 5 by omega)
    by_cases k : (gL b j).getD (b.nts.getD i default).1.toNat 0 = (b.nts.getD i default).2
    ·rw [if_pos (show nJ b (gL b j) i = true from decide_eq_true k)] at hs
     repeat' first | ((first | refine Qz ?_ | refine WIx.intsE (j := (b.nts.getD i default).1.toNat) (by omega) (by omega) ?_ | refine And.intro (InR.u64 (by omega) (by omega)) ?_ | refine Qy ?_ | refine Qd (fun h => ?_) (fun h => ?_)) <;> conv => whnf) | (refine WB.tt ?_; conv => whnf) | (refine WB.ff ?_; conv => whnf)
     refine WSt.shlU (kk := .u64) (a := 1) (j := i) (by rfl) (by rfl) (by omega) (by omega) ?_; conv => whnf
     refine WSt.orB (a := c) (b := 1 * 2 ^ i) (by rfl) (by rfl) (by omega) (by omega) ?_; conv => whnf
     repeat' ((first | refine Qw ?_ | refine Qv ?_) <;> conv => whnf)
     refine AgainB.v (i + 1) (by omega) (show i + 1 <= b.nts.length by omega) (Nat.le_refl _) (by assumption) ?_
     rw [hs]
     conv => whnf
     refine Shr.of ?_ ?_ rfl rfl
     ·(repeat' first | exact Rel.e | refine Rel.some ?_ ?_ ?_ | refine Rel.none ?_ ?_ | refine Rel.ee ?_ ?_)
      all_goals show Fz _ _ _ _
      all_goals first | exact Fq | exact pE
     ·(repeat' first | exact Rel.e | refine Rel.some ?_ ?_ ?_ | refine Rel.none ?_ ?_ | refine Rel.ee ?_ ?_)
      all_goals refine xH ?_
      all_goals first | exact ShC.G oO a s | exact Sq | (refine ShC.same ?_; (repeat' first | exact ShC.nl | refine ShC.cn ?_ ?_) <;> first | exact Fq | exact pE)
    ·rw [if_neg (show ¬ nJ b (gL b j) i = true from fun h => k (of_decide_eq_true h))] at hs
     repeat' first | ((first | refine Qz ?_ | refine WIx.intsE (j := (b.nts.getD i default).1.toNat) (by omega) (by omega) ?_ | refine Qy ?_ | refine Qd (fun h => ?_) (fun h => ?_)) <;> conv => whnf) | (refine WB.tt ?_; conv => whnf) | (refine WB.ff ?_; conv => whnf)
     refine AgainB.v (i + 1) (by omega) (show i + 1 <= b.nts.length by omega) (Nat.le_refl _) (by assumption) ?_
     rw [hs]
     conv => whnf
     refine Shr.of ?_ ?_ rfl rfl
     ·(repeat' first | exact Rel.e | refine Rel.some ?_ ?_ ?_ | refine Rel.none ?_ ?_ | refine Rel.ee ?_ ?_)
      all_goals show Fz _ _ _ _
      all_goals first | exact Fq | exact pE
     ·(repeat' first | exact Rel.e | refine Rel.some ?_ ?_ ?_ | refine Rel.none ?_ ?_ | refine Rel.ee ?_ ?_)
      all_goals refine xH ?_
      all_goals first | exact ShC.G oO a s | exact Sq | (refine ShC.same ?_; (repeat' first | exact ShC.nl | refine ShC.cn ?_ ?_) <;> first | exact Fq | exact pE)
   have hze := hze (by omega)
   repeat' ((first | refine Qw ?_ | refine Qv ?_) <;> conv => whnf)
   refine WSt.app_one (id := (.i .h)) (ds := (aO vI (a :: s)).flatten) (r := vI ((c : Nat) : Int)) (by rfl) (by rfl) (by rfl) (by rfl) (by rfl) (by rfl) (by rw [eI (z := 1) Bk]; rfl) (by rfl) (by rfl) (by omega) (by rfl) ?_; conv => whnf
   repeat' ((first | refine Qw ?_ | refine Qv ?_) <;> conv => whnf)
   rw [hze] at hsc
   refine AgainB.v (j + 1) (by omega) (show j + 1 <= fE b by omega) (by show Pos.nat _ <= Pos.nat _; simp only [hA, hsc, kE, List.cons_append, List.nil_append] <;> decide) (by assumption) ?_
   rw [hsc, List.cons_append]
   conv => whnf
   (try rw [gV])
   (try rw [hH])
   refine Shr.of ?_ ?_ rfl rfl
   ·(repeat' first | exact Rel.e | refine Rel.some ?_ ?_ ?_ | refine Rel.none ?_ ?_ | refine Rel.ee ?_ ?_)
    all_goals show Fz _ _ _ _
    all_goals first | exact Fq | exact pE
   ·(repeat' first | exact Rel.e | refine Rel.some ?_ ?_ ?_ | refine Rel.none ?_ ?_ | refine Rel.ee ?_ ?_)
    all_goals refine xH ?_
    all_goals first | exact ShC.ca oO _ _ | exact Sq | (refine ShC.same ?_; (repeat' first | exact ShC.nl | refine ShC.cn ?_ ?_) <;> first | exact Fq | exact pE)
set_option maxRecDepth 1000000
def OZ : RC := (.seq (.reg [(.u (.box p2 (.t p1))), (.u (.mv p3 (.k (.b false))))]) (.seq (.seq (.reg [(jX bH p2 9), (.u (.cf (some bM) p20 [(.t bH)])), (.u (.un bF .not (.t bM)))]) (.cond (.t bF) (.seq (.reg [(.u (.cf (some bO) p22 [])), (Mv p3 bO)]) .ret) .skip)) (.seq (.reg [(jX bZ p2 9), (.u (.cf (some bY) p24 [(.t bZ)])), (.u (.cf (some cJ) p53 [(.t bY)])), (Mv bQ cJ), (.u (.ext cV (.t bQ) 0)), (.u (.ext p20 (.t bQ) 1)), (Mv p4 cV), (Mv p5 p20)]) (.seq (.reg [(jX p22 p2 9), (.u (.cf (some dH) p24 [(.t p22)])), (.u (.cf (some p24) p54 [(.t dH)])), (Mv p21 p24), (.u (.ext p25 (.t p21) 0)), (.u (.ext p26 (.t p21) 1)), (Mv p6 p25), (Mv p7 p26)]) (.seq (.seq (.reg [(jX fM p2 9), (.u (.cf (some p28) p28 [(.t fM)])), (Mv p8 p28)]) (.seq (.reg [(Mv p29 p8), (dN gU .neq p29 0)]) (.cond (.t gU) (.seq (.reg [(Mv jG p5), (Mv kP p8), (eJ lI .eql jG kP), (Mv oU lI), (.g oU true (some iZ) (.mv iZ (.t p4))), (.g oU true (some oQ) (.bin oQ .eql (.t iZ) (.k (.i .i64 0)))), (.u (.pick sE (.t oU) (.t oQ) (.k (.b false)))), (Mv pM sE), (.g pM true (some sC) (.mv sC (.t p7))), (.g pM true (some vD) (.mv vD (.t p8))), (.g pM true (some sF) (.bin sF .eql (.t sC) (.t vD))), (.u (.pick p42 (.t pM) (.t sF) (.k (.b false)))), (Mv tP p42), (.g tP true (some p44) (.mv p44 (.t p6))), (.g tP true (some p45) (.len p45 (.t p44))), (.g tP true (some sG) (.bin sG .eql (.t p45) (.k (.i .i64 0)))), (.u (.pick yX (.t tP) (.t sG) (.k (.b false)))), (Mv xT yX), (.g xT true (some p49) (.cf (some p49) p22 [])), (.u (.pick AR (.t xT) (.t p49) (.k (.b false)))), (Mv p3 AR)]) .ret) .skip))) (.seq (.reg [(jX Fb p2 9), (.u (.cf (some pF) p55 [(.t Fb)])), (Mv p9 pF)]) (.seq (.seq (.reg [(Mv p53 p7), (dN p54 .neq p53 0), (Mv p55 p54), (.g p55 false (some p56) (.mv p56 (.t p6))), (.g p55 false (some p57) (.ldn p57 (.t p2) 9)), (.g p55 false (some p58) (.mv p58 (.t p9))), (.g p55 false (some BU) (.cf (some BU) p57 [(.t p57), (.t p58)])), (.g p55 false (some uW) (.cf (some uW) p56 [(.t p56), (.t BU)])), (.g p55 false (some Bb) (.un Bb .not (.t uW))), (.u (.pick Dh (.t p55) (.k (.b true)) (.t Bb)))]) (.cond (.t Dh) (.seq (.reg [(.u (.mv p3 (.k (.b false))))]) .ret) .skip)) (.seq (.reg [(jX zA p2 9), (Mv BO p9), (.u (.cf (some BV) p58 [(.t zA), (.t BO)])), (Mv bI BV)]) (.seq (.seq (.reg [(Mv BW bI), (dN BN .lss BW 0)]) (.cond (.t BN) (.seq (.reg [(Mv p68 p5), (dN sM .eql p68 7), (Mv BR sM), (.g BR true (some Dd) (.mv Dd (.t p4))), (.g BR true (some Ce) (.bin Ce .eql (.t Dd) (.k (.i .i64 0)))), (.u (.pick EZ (.t BR) (.t Ce) (.k (.b false)))), (Mv EC EZ), (.g EC true (some p75) (.cf (some p75) p22 [])), (.u (.pick p76 (.t EC) (.t p75) (.k (.b false)))), (Mv p3 p76)]) .ret) .skip)) (.seq (.reg [(Mv p77 p5), (dN p78 .eql p77 0), (Mv Bm p78), (.g Bm true (some Ed) (.mv Ed (.t p4))), (.g Bm true (some EV) (.mv EV (.t bI))), (.g Bm true (some Dt) (.bin Dt .eql (.t Ed) (.t EV))), (.u (.pick FD (.t Bm) (.t Dt) (.k (.b false)))), (Mv Bj FD), (.g Bj true (some GM) (.cf (some GM) p22 [])), (.u (.pick HZ (.t Bj) (.t GM) (.k (.b false)))), (Mv p3 HZ)]) .ret))))))))))
def Pb : List RR := [(.t p3)]
theorem Pc : FnOk Tryz.prog p8.ix 86 OZ Pb := ⟨Tryz.f7, aJ Tryz.f7, Tryz.func7, by kernel_rfl, by kernel_rfl, by kernel_rfl, by kernel_rfl, by kernel_rfl⟩
set_option maxRecDepth 100000
theorem xG {B : Pos -> Prop} {ob : T C} {d : D} (h : Pu d := by simp [Cell.d, Pu, aN, cG, aC, aF, aG, aM, gB]; done) : Fz B ob d d := .pu h
def ID (p : Nat -> Bool) (n : Nat) : Option Nat := (List.range n).find? p
theorem rI {p : Nat -> Bool} {n : Nat} (h : ∀ i, i < n -> p i = false) : ID p n = none := List.find?_eq_none.2 fun x hx => by rw [h x (List.mem_range.1 hx)]; simp
theorem vV {p : Nat -> Bool} {n j : Nat} (h : ∀ i, i < j -> p i = false) (hj : j < n) (k : p j = true) : ID p n = some j := by
 unfold ID
 obtain ⟨m, hm⟩ : ∃ m, n = (j + 1) + m := ⟨n - (j + 1), by omega⟩
 rw [hm, List.range_add, List.find?_append, List.range_succ, List.find?_append]
 have h1 : (List.range j).find? p = none := rI h
 rw [h1, List.find?_cons_of_pos k]; rfl
def NJ (o : Option Nat) : Int := match o with
 | none => -1
 | some n => (n : Int)
theorem GF {p : Nat -> Bool} {j : Nat} (h : ∀ i, i < j -> p i = false) (k : p j = false) : ∀ i, i < j + 1 -> p i = false := fun i hi => by
 by_cases e : i = j
 ·subst e; exact k
 ·exact h i (by omega)
theorem Dv (b : Bh) (h5 : b.nts.length <= 5) (A : List Nat) (hl : A.length <= 3000) (hA : ∀ a ∈ A, a < 1024) : PureF Tryz.prog p58.ix [.ag (eY b), .lst 1 (ints (jM A))] (.i .i64 (NJ (ID (fun n => !eU A (2 * 2 ^ n - 1)) b.nts.length))) := by
 have e1 := aL cX b.nts
 have e2 := aI (jM A)
 refine PureF.run NP (by simp) (by simp [aN, cG, Pu, aM, aC]) ?_; conv => whnf
 repeat' ((first | refine Qw ?_ | refine Qv ?_) <;> conv => whnf)
 refine Rn.loopV [(p5, none), (p6, none), (p7, none), (p8, none), (p9, none), (bI, none), (bH, none), (bM, none), (bF, none), (bO, none), (bQ, none), (bZ, none), (bY, none), (cJ, none), (cV, none), (p20, none), (p21, none)] (fun j : Nat => [(p6, some (.i .i64 (j : Int)))]) (fun j : Nat => []) (fun j : Nat => (.o .h)) (fun j : Nat => j <= b.nts.length /\ ∀ i, i < j -> (!eU A (2 * 2 ^ i - 1)) = false) (fun j : Nat => b.nts.length - j) 0 ?_ ?_ ?_
 ·conv => whnf
  (refine X.le.mk ?_ ?_ (Nat.le_refl _) rfl rfl) <;> exact Lw
 rotate_left
 intro xl1 hxl1
 rotate_right
 ·exact ⟨Nat.zero_le _, fun i hi => absurd hi (Nat.not_lt_zero _)⟩
 rintro j ⟨hj, hno⟩
 conv => whnf
 repeat' ((first | refine Qw ?_ | refine Qv ?_) <;> conv => whnf)
 refine WB.dec (fun hd2 => ?_) (fun hd2 => ?_) <;> conv => whnf
 ·have hlt : j < b.nts.length := by omega
  have hp := Nat.two_pow_pos j
  have hq := kF (show j <= 5 by omega)
  have cC := Gw A (2 * 2 ^ j - 1) hl hA (by omega)
  have e3 : ((2 * 2 ^ j : Nat) : Int) - 1 = ((2 * 2 ^ j - 1 : Nat) : Int) := by omega
  repeat' ((first | refine Qz ?_ | refine And.intro (InR.u64 (by omega) (by omega)) ?_ | refine Qy ?_ | refine Qv ?_) <;> conv => whnf)
  refine WSt.shlU (kk := .u64) (a := 2) (j := j) (by rfl) (by rfl) (by omega) (by omega) ?_; conv => whnf
  refine And.intro (InR.i64 (by omega) (by omega)) ?_; conv => whnf
  rw [e3]
  cases k : eU A (2 * 2 ^ j - 1) with
  | true =>
    rw [k] at cC
    repeat' first | ((first | refine Qw ?_ | refine Qf cC ?_ | refine Qd (fun h => ?_) (fun h => ?_)) <;> conv => whnf) | (refine WB.tt ?_; conv => whnf) | (refine WB.ff ?_; conv => whnf)
    refine AgainB.v (j + 1) (by omega) ⟨by omega, GF hno (by rw [k]; rfl)⟩ (Nat.le_refl _) (by assumption) ?_
    conv => whnf
    refine Shr.of ?_ ?_ rfl rfl
    ·(repeat' first | exact Rel.e | refine Rel.some ?_ ?_ ?_ | refine Rel.none ?_ ?_ | refine Rel.ee ?_ ?_)
     all_goals show Fz _ _ _ _
     all_goals first | exact Fq | exact xG
    ·(repeat' first | exact Rel.e | refine Rel.some ?_ ?_ ?_ | refine Rel.none ?_ ?_ | refine Rel.ee ?_ ?_)
     all_goals refine xH ?_
     all_goals first | exact Sq | (refine ShC.same ?_; (repeat' first | exact ShC.nl | refine ShC.cn ?_ ?_) <;> first | exact Fq | exact xG)
  | false =>
    rw [k] at cC
    rw [vV (p := fun n => !eU A (2 * 2 ^ n - 1)) hno hlt (by show (!eU A (2 * 2 ^ j - 1)) = true; rw [k]; rfl)]
    repeat' first | ((first | refine Qw ?_ | refine Qf cC ?_ | refine Qd (fun h => ?_) (fun h => ?_)) <;> conv => whnf) | (refine WB.tt ?_; conv => whnf) | (refine WB.ff ?_; conv => whnf)
    exact Fin.i rfl rfl
 ·obtain rfl : j = b.nts.length := by omega
  rw [rI (p := fun n => !eU A (2 * 2 ^ n - 1)) hno]
  repeat' ((first | refine Qw ?_ | refine Qv ?_) <;> conv => whnf)
  exact Fin.i rfl rfl
theorem Ej (b : Bh) (h5 : b.nts.length <= 5) (A : List Nat) (hl : A.length <= 3000) (hA : ∀ a ∈ A, a < 1024) : PureF Tryz.prog p57.ix [.ag (eY b), .lst 1 (ints (jM A))] (.lst 1 (ints (By A b.nts.length))) := by
 have iF := HT b h5
 have hp := Nat.one_le_two_pow (n := b.nts.length)
 have hp2 := kF h5
 have iB := fun (c : Nat) (h : c <= 1000) => Hx c h
 refine PureF.run MT (by simp) (by simp [aN, cG, Pu, aM, aC]) ?_; conv => whnf
 have iB0 := iB (2 ^ b.nts.length - 1) (by omega)
 repeat' ((first | refine Qw ?_ | refine Qf iF ?_ | refine Qf iB0 ?_ | refine Qv ?_) <;> conv => whnf)
 refine Rn.loopV [(p6, none), (p7, none), (p8, none), (bM, none), (bF, none), (bO, none), (bQ, none), (bZ, none), (bY, none), (cJ, none), (cV, none), (p20, none), (p21, none), (p22, none), (dH, none), (p24, none), (p25, none), (p26, none), (fM, none), (p28, none), (p29, none), (gU, none), (jG, none)] (fun j : Nat => [(p6, some (.lst 1 (ints (oM A b.nts.length j)))), (p7, some (.i .i64 (j : Int)))]) (fun j : Nat => []) (fun j : Nat => (.o .h)) (fun j : Nat => j <= 2 ^ b.nts.length) (fun j : Nat => 2 ^ b.nts.length - j) 0 ?_ ?_ ?_
 ·conv => whnf
  (refine X.le.mk ?_ ?_ (Nat.le_refl _) rfl rfl) <;> exact Lw
 rotate_left
 intro xl2 hxl2
 rotate_right
 ·exact Nat.zero_le _
 intro j hj
 have hj : j <= 2 ^ b.nts.length := hj
 have hlv := oL A b.nts.length j
 have hln := rF A b.nts.length j
 have hend : j = 2 ^ b.nts.length -> oM A b.nts.length j = By A b.nts.length := fun e => by rw [e]; rfl
 unfold CN at hlv
 generalize oM A b.nts.length j = best at *
 have iBj := iB j (by omega)
 have hbl : (fL j).length <= 1000 := Nat.le_trans (lV _ _) (by omega)
 have iS := Bv (fL j) best hbl (by omega)
 conv => whnf
 repeat' ((first | refine Qw ?_ | refine Qf iF ?_ | refine Qv ?_) <;> conv => whnf)
 refine WB.dec (fun hd2 => ?_) (fun hd2 => ?_) <;> conv => whnf
 rotate_left
 ·repeat' ((first | refine Qw ?_ | refine Qv ?_) <;> conv => whnf)
  rw [<- hend (by omega)]
  exact Fin.t (.inr rfl) rfl (.pu (aC _))
 have hlt : j < 2 ^ b.nts.length := by omega
 have iC := Gw A (2 ^ b.nts.length - 1 - j) hl hA (by omega)
 cases hS : hU (fL j) best with
 | false =>
   rw [hS] at iS hlv
   rw [Bool.false_and, if_neg (by decide)] at hlv
   repeat' first | ((first | refine Qw ?_ | refine Qf iBj ?_ | refine Qf iS ?_ | refine Qf iF ?_ | refine Qf iC ?_ | refine Qd (fun h => ?_) (fun h => ?_)) <;> conv => whnf) | (refine WB.tt ?_; conv => whnf) | (refine WB.ff ?_; conv => whnf)
   refine AgainB.v (j + 1) (by omega) (show j + 1 <= 2 ^ b.nts.length by omega) (Nat.le_refl _) (by assumption) ?_
   rw [hlv]
   conv => whnf
   refine Shr.of ?_ ?_ rfl rfl
   ·(repeat' first | exact Rel.e | refine Rel.some ?_ ?_ ?_ | refine Rel.none ?_ ?_ | refine Rel.ee ?_ ?_)
    all_goals show Fz _ _ _ _
    all_goals first | exact Fq | exact xG
   ·(repeat' first | exact Rel.e | refine Rel.some ?_ ?_ ?_ | refine Rel.none ?_ ?_ | refine Rel.ee ?_ ?_)
    all_goals refine xH ?_
    all_goals first | exact Sq | (refine ShC.same ?_; (repeat' first | exact ShC.nl | refine ShC.cn ?_ ?_) <;> first | exact Fq | exact xG)
 | true =>
   rw [hS] at iS hlv
   rw [Bool.true_and] at hlv
   cases hC : eU A (2 ^ b.nts.length - 1 - j)
   all_goals
    rw [hC] at iC hlv
    first | rw [if_pos rfl] at hlv | rw [if_neg (by decide)] at hlv
    repeat' first | ((first | refine Qz ?_ | refine Qf iBj ?_ | refine Qf iS ?_ | refine Qf iF ?_ | refine Qf iC ?_ | (refine WSt.notB (m := b.nts.length) (b := j) (by rfl) (by rfl) h5 hlt ?_) | refine Qy ?_ | refine Qd (fun h => ?_) (fun h => ?_)) <;> conv => whnf) | (refine WB.tt ?_; conv => whnf) | (refine WB.ff ?_; conv => whnf)
    refine AgainB.v (j + 1) (by omega) (show j + 1 <= 2 ^ b.nts.length by omega) (Nat.le_refl _) (by assumption) ?_
    rw [hlv]
    conv => whnf
    refine Shr.of ?_ ?_ rfl rfl
    ·(repeat' first | exact Rel.e | refine Rel.some ?_ ?_ ?_ | refine Rel.none ?_ ?_ | refine Rel.ee ?_ ?_)
     all_goals show Fz _ _ _ _
     all_goals first | exact Fq | exact xG
    ·(repeat' first | exact Rel.e | refine Rel.some ?_ ?_ ?_ | refine Rel.none ?_ ?_ | refine Rel.ee ?_ ?_)
     all_goals refine xH ?_
     all_goals first | exact Sq | (refine ShC.same ?_; (repeat' first | exact ShC.nl | refine ShC.cn ?_ ?_) <;> first | exact Fq | exact xG)
theorem Ds (x : List Int) (hx : x.length <= 1000) : PureF Tryz.prog p56.ix [.lst 1 (ints x), .lst 1 (ints x)] (.b true) := by
 have e1 := aI x
 refine PureF.run NQ (by simp) (by simp [aN, cG, Pu, aC]) ?_; conv => whnf
 repeat' first | ((first | refine Qw ?_ | refine Qd (fun h => ?_) (fun h => ?_)) <;> conv => whnf) | (refine WB.tt ?_; conv => whnf) | (refine WB.ff ?_; conv => whnf)
 refine Rn.loopV [(p5, none), (p6, none), (bM, none), (bF, none), (bO, none), (bQ, none), (bZ, none), (bY, none), (cJ, none), (cV, none), (p20, none), (p21, none), (p22, none), (dH, none), (p24, none), (p25, none), (p26, none)] (fun j : Nat => [(p6, some (.i .i64 (j : Int)))]) (fun j : Nat => []) (fun j : Nat => .h) (fun j : Nat => j <= x.length) (fun j : Nat => x.length - j) 0 ?_ ?_ ?_
 ·conv => whnf
  (refine X.le.mk ?_ ?_ (Nat.le_refl _) rfl rfl) <;> exact Lw
 rotate_left
 intro xl3 hxl3
 rotate_right
 ·exact Nat.zero_le _
 intro j hj
 have hj : j <= x.length := hj
 conv => whnf
 repeat' ((first | refine Qw ?_ | refine Qv ?_) <;> conv => whnf)
 refine WB.dec (fun hd2 => ?_) (fun hd2 => ?_) <;> conv => whnf
 ·have hlt : j < x.length := by omega
  repeat' first | ((first | refine Qw ?_ | refine Qd (fun h => ?_) (fun h => ?_)) <;> conv => whnf) | (refine WB.tt ?_; conv => whnf) | (refine WB.ff ?_; conv => whnf)
  refine AgainB.v (j + 1) (by omega) (show j + 1 <= x.length by omega) (Nat.le_refl _) (by assumption) ?_
  conv => whnf
  refine Shr.of ?_ ?_ rfl rfl
  ·(repeat' first | exact Rel.e | refine Rel.some ?_ ?_ ?_ | refine Rel.none ?_ ?_ | refine Rel.ee ?_ ?_)
   all_goals show Fz _ _ _ _
   all_goals first | exact Fq | exact xG
  ·(repeat' first | exact Rel.e | refine Rel.some ?_ ?_ ?_ | refine Rel.none ?_ ?_ | refine Rel.ee ?_ ?_)
   all_goals refine xH ?_
   all_goals first | exact Sq | (refine ShC.same ?_; (repeat' first | exact ShC.nl | refine ShC.cn ?_ ?_) <;> first | exact Fq | exact xG)
 ·repeat' ((first | refine Qw ?_ | refine Qv ?_) <;> conv => whnf)
  exact Fin.b rfl rfl
theorem Ft (x : List Int) (hx : x.length <= 1000) : PureF Tryz.prog p56.ix [xL x, .lst 1 (ints x)] (.b true) := by
 cases x with
 | cons a s => exact Ds (a :: s) hx
 | nil => exact (Ds [] hx).sub fun γ w => .cons Cv.ns (.cons (.pu (fun _ h => h) (aC [])) .nil)
theorem Mj {B : Pos -> Prop} {ob : T C} {d : D} (h : Pu d := by simp [Cell.d, Pu, aN, cG, aC, aF, aG, aM, gB]; done) : Fz B ob d d := .pu h
theorem WSt.slcT {sl : T D} {ob : T C} {nx : Pos} {lg : Option (T Bool)} {K : X -> Prop} {d : Pos} {z h : Nat} {x xh : RX} {es : List (List D)} (hx : bC sl x = some (.lst z es)) (hhi : bC sl xh = some (.i .i64 (h : Int))) (h2 : h <= es.length) (k : dG sl ob nx lg d K (.lst z (es.take h))) : WSt (.slc d z x none (some xh) none) ⟨sl, ob, nx, lg⟩ K := by
 obtain ⟨k2, k3⟩ := aT k
 refine ⟨_, ?_, k3⟩
 show sO d z x none (some xh) none sl ob nx lg = _
 unfold sO
 rw [hx]
 have hhi' : ((h : Nat) : Int) = Int.ofNat h := rfl
 have b1 : Nat.ble 0 h = true := Nat.ble_eq_true_of_le (Nat.zero_le _)
 have b2 : Nat.ble h es.length = true := Nat.ble_eq_true_of_le h2
 simp only [vJ, hhi, hhi', Nat.beq_refl, cond_true, b1, b2, Bool.and_self, List.drop_zero]
 exact k2
def BL (b : Bh) (n : Nat) : Bh := ⟨b.last, b.rws, b.pls, b.rch, b.face, b.sun, b.winds, b.brk, b.nts.take n⟩
theorem VW.tk {b : Bh} (V : VW b) (n : Nat) : VW (BL b n) := { V with nts := List.all_eq_true.2 fun x hx => List.all_eq_true.1 V.nts x (List.mem_of_mem_take hx) }
def OW (b : Bh) : Nat -> List (Int × Int)
 | 0 => b.nts
 | j + 1 => b.nts.take (j + 1)
def Bi (b : Bh) : Option Nat := ID (fun n => !kY (BL b (n + 1))) b.nts.length
def EM (b : Bh) : Int := if bD b = 0 then (match Bi b with | none => 0 | some n => (n : Int)) else 0
def Cj (b : Bh) : Int := if bD b = 0 then (match Bi b with | none => 7 | some _ => 0) else bD b
theorem Gi (b : Bh) (l1 : b.face.length <= 1000) (l2 : b.sun.length <= 1000) (l3 : b.winds.length <= 1000) (l6 : ∀ w ∈ b.winds, w.length <= 1000) : PureF Tryz.prog p53.ix [.ag (eY b)] (.tp [.i .i64 (EM b), .i .i64 (Cj b)]) := by
 have cC := Ai b l1 l2 l3 l6
 have e1 := aL cX b.nts
 refine PureF.run Oj (by simp) (by simp [aN, cG, Pu, aM]) ?_; conv => whnf
 by_cases hf : bD b = 0
 rotate_left
 ·unfold EM Cj
  rw [if_neg hf, if_neg hf]
  repeat' first | ((first | refine Qw ?_ | refine Qf cC ?_ | refine Qd (fun h => ?_) (fun h => ?_)) <;> conv => whnf) | (refine WB.tt ?_; conv => whnf) | (refine WB.ff ?_; conv => whnf)
  exact Fin.two (.inr rfl) rfl rfl (.pu trivial) (.pu trivial)
 have Z := gD hf
 have V := Z.v
 have h5 := Z.l5
 unfold EM Cj
 rw [if_pos hf, if_pos hf]
 rw [hf] at cC
 repeat' first | ((first | refine Qw ?_ | refine Qf cC ?_ | refine Qd (fun h => ?_) (fun h => ?_)) <;> conv => whnf) | (refine WB.tt ?_; conv => whnf) | (refine WB.ff ?_; conv => whnf)
 refine Rn.loopV [(p3, none), (p4, none), (p7, none), (bY, none), (cJ, none), (cV, none), (p20, none), (p21, none), (p22, none), (dH, none), (p24, none), (p25, none), (p26, none), (fM, none), (p28, none), (p29, none), (gU, none)] (fun j : Nat => [(bY, some (.i .i64 (j : Int)))]) (fun j : Nat => [(.h, some (.cells false [.o (.i .i64 b.last) 0, .o (.i .i64 b.rws) 0, .o (.i .i64 b.pls) 0, .o (.i .i64 b.rch) 0, .o (.lst 1 (ints b.face)) 0, .o (.lst 1 (ints b.sun)) 0, .o (.lst 1 (aO iP b.winds)) 0, .o (.lst 2 (aO cX b.brk)) 0, .o (.lst 2 (aO cX (OW b j))) 0] 1))]) (fun j : Nat => (.o .h)) (fun j : Nat => j <= b.nts.length /\ ∀ i, i < j -> (!kY (BL b (i + 1))) = false) (fun j : Nat => b.nts.length - j) 0 ?_ ?_ ?_
 ·conv => whnf
  (refine X.le.mk ?_ ?_ (Nat.le_refl _) rfl rfl) <;> exact Lw
 rotate_left
 intro xl1 hxl1
 rotate_right
 ·exact ⟨Nat.zero_le _, fun i hi => absurd hi (Nat.not_lt_zero _)⟩
 rintro j ⟨hj, hno⟩
 conv => whnf
 repeat' ((first | refine Qw ?_ | refine Qv ?_) <;> conv => whnf)
 refine WB.dec (fun hd2 => ?_) (fun hd2 => ?_) <;> conv => whnf
 ·have hlt : j < b.nts.length := by omega
  have cH := sA (BL b (j + 1)) (V.tk _) l6 (by show (b.nts.take (j + 1)).length <= 1000; rw [List.length_take]; omega)
  have eT : (aO cX b.nts).take (j + 1) = aO cX (b.nts.take (j + 1)) := List.map_take.symm
  repeat' ((first | refine Qw ?_ | refine Qv ?_) <;> conv => whnf)
  refine WSt.slcT (h := j + 1) (es := aO cX b.nts) (by rfl) (by rfl) (by omega) ?_; conv => whnf
  rw [eT]
  cases k : kY (BL b (j + 1)) with
  | true =>
    rw [k] at cH
    repeat' first | ((first | refine Qw ?_ | refine Qf cH ?_ | refine Qd (fun h => ?_) (fun h => ?_)) <;> conv => whnf) | (refine WB.tt ?_; conv => whnf) | (refine WB.ff ?_; conv => whnf)
    refine AgainB.v (j + 1) (by omega) ⟨by omega, GF hno (by rw [k]; rfl)⟩ (Nat.le_refl _) (by assumption) ?_
    conv => whnf
    refine Shr.of ?_ ?_ rfl rfl
    ·(repeat' first | exact Rel.e | refine Rel.some ?_ ?_ ?_ | refine Rel.none ?_ ?_ | refine Rel.ee ?_ ?_)
     all_goals show Fz _ _ _ _
     all_goals first | exact Fq | exact Mj
    ·(repeat' first | exact Rel.e | refine Rel.some ?_ ?_ ?_ | refine Rel.none ?_ ?_ | refine Rel.ee ?_ ?_)
     all_goals refine xH ?_
     all_goals first | exact Sq | (refine ShC.same ?_; (repeat' first | exact ShC.nl | refine ShC.cn ?_ ?_) <;> first | exact Fq | exact Mj)
  | false =>
    rw [k] at cH
    have e := vV (p := fun n => !kY (BL b (n + 1))) hno hlt (by show (!kY (BL b (j + 1))) = true; rw [k]; rfl)
    have e : Bi b = some j := e
    rw [e]
    repeat' first | ((first | refine Qw ?_ | refine Qf cH ?_ | refine Qd (fun h => ?_) (fun h => ?_)) <;> conv => whnf) | (refine WB.tt ?_; conv => whnf) | (refine WB.ff ?_; conv => whnf)
    exact Fin.two (.inr rfl) rfl rfl (.pu trivial) (.pu trivial)
 ·obtain rfl : j = b.nts.length := by omega
  have e := rI (p := fun n => !kY (BL b (n + 1))) hno
  have e : Bi b = none := e
  rw [e]
  repeat' ((first | refine Qw ?_ | refine Qv ?_) <;> conv => whnf)
  exact Fin.two (.inr rfl) rfl rfl (.pu trivial) (.pu trivial)
theorem DI {b : Bh} (V : VW b) {n : Nat} (hn : n < b.nts.length) : eU (gI b) (2 * 2 ^ n - 1) = kY (BL b (n + 1)) := by
 have e : 2 * 2 ^ n - 1 = 2 ^ (n + 1) - 1 := by rw [Nat.pow_succ, Nat.mul_comm]
 have hle : 2 ^ (n + 1) <= 2 ^ b.nts.length := Nat.pow_le_pow_right (show 0 < 2 by decide) hn
 have hp := Nat.two_pow_pos (n + 1)
 rw [e, Bool.eq_iff_iff, rZ (by omega), vQ (V.tk _)]
 have tr : ∀ t, TruP (BL b (n + 1)) t ↔ rH b t = true /\ ∀ k, k < n + 1 -> nJ b t k = true := fun t => by
  rw [<- nA (V.tk _)]
  unfold Dw
  rw [Bool.and_eq_true]
  have g : ∀ k, k < n + 1 -> (BL b (n + 1)).nts.getD k default = b.nts.getD k default := fun k hk => by
   show (b.nts.take (n + 1)).getD k default = _
   simp [List.getD, List.getElem?_take, hk]
  constructor
  ·rintro ⟨h1, h2⟩
   refine ⟨h1, fun k hk => ?_⟩
   have h3 := List.all_eq_true.1 h2 _ (bA (d := default) (show k < (BL b (n + 1)).nts.length by show k < (b.nts.take (n + 1)).length; rw [List.length_take]; omega))
   unfold nJ
   rw [<- g k hk]
   exact h3
  ·rintro ⟨h1, h2⟩
   refine ⟨h1, List.all_eq_true.2 fun x hx => ?_⟩
   obtain ⟨k, hk, ek⟩ := uL (d := default) hx
   have hk : k < n + 1 := by
    have hk : k < (b.nts.take (n + 1)).length := hk
    rw [List.length_take] at hk; omega
   have h3 := h2 k hk
   unfold nJ at h3
   rw [<- g k hk] at h3
   rw [<- ek]
   exact h3
 constructor
 ·rintro ⟨m, hm, h⟩
  exact ⟨gL b m, (tr _).2 ⟨uZ V m, fun k hk => h k (by omega) (by rw [Nat.testBit_two_pow_sub_one]; exact decide_eq_true hk)⟩⟩
 ·rintro ⟨t, ht⟩
  obtain ⟨h1, h2⟩ := (tr t).1 ht
  obtain ⟨m, hm, rfl⟩ := yE h1
  exact ⟨m, hm, fun k _ hbit => h2 k (by rw [Nat.testBit_two_pow_sub_one] at hbit; exact of_decide_eq_true hbit)⟩
theorem Da {b : Bh} (V : VW b) : ID (fun n => !eU (gI b) (2 * 2 ^ n - 1)) b.nts.length = Bi b :=
 kW fun n hn => by show (!eU (gI b) (2 * 2 ^ n - 1)) = !kY (BL b (n + 1)); rw [DI V (List.mem_range.1 hn)]
theorem uJ (b : Bh) (AW : PureF Tryz.prog p22.ix [] (.b true)) : PureF Tryz.prog p8.ix [.ag (eY b)] (.b true) := by
 have cTh := Io b
 refine PureF.run Pc (by simp) (by simp [aN, cG, Pu, aM]) ?_; conv => whnf
 cases hTh : qG b with
 | false =>
   rw [hTh] at cTh
   repeat' first | ((first | refine Qw ?_ | refine Qf cTh ?_ | refine Qf AW ?_ | refine Qd (fun h => ?_) (fun h => ?_)) <;> conv => whnf) | (refine WB.tt ?_; conv => whnf) | (refine WB.ff ?_; conv => whnf)
   exact Fin.b rfl rfl
 | true =>
 rw [hTh] at cTh
 have N := GX hTh
 have F := N.f
 have cB := FQ b F.l1 F.l2 F.l3 F.l4 F.l5 F.l6
 have cF := FJ b F.l1 F.l2 F.l3 F.l6
 have cI := Gi b F.l1 F.l2 F.l3 F.l6
 have cL := Gd b F.l1 F.l2 F.l3 F.l6
 by_cases hf : bD b = 0
 rotate_left
 ·unfold EM Cj at cI
  rw [if_neg hf, if_neg hf] at cI
  rw [if_neg hf] at cL
  repeat' first | ((first | refine Qw ?_ | refine Qf cTh ?_ | refine Qf cB ?_ | refine Qf cF ?_ | refine Qf cI ?_ | refine Qf cL ?_ | refine Qf AW ?_ | refine Qd (fun h => ?_) (fun h => ?_)) <;> conv => whnf) | (refine WB.tt ?_; conv => whnf) | (refine WB.ff ?_; conv => whnf)
  all_goals first | exact Fin.b rfl rfl | exact absurd h (by decide)
 have Z := gD hf
 have V := Z.v
 have h5 := Z.l5
 obtain ⟨m1, m2⟩ := N.m hf
 have cA := JZ b N hf
 have hM : fE b <= 80 := by unfold fE; omega
 have cR := Ej b h5 (gI b) (by rw [xF]; omega) (As h5)
 have cS := Dv b h5 (gI b) (by rw [xF]; omega) (As h5)
 rw [Da V] at cS
 have hl := rF (gI b) b.nts.length (2 ^ b.nts.length)
 have cD := Ft (Dq b) (by show (oM _ _ _).length <= 1000; omega)
 have cR : PureF Tryz.prog p57.ix [.ag (eY b), .lst 1 (ints (jM (gI b)))] (.lst 1 (ints (Dq b))) := cR
 unfold EM Cj at cI
 rw [if_pos hf, if_pos hf] at cI
 rw [if_pos hf] at cL
 rw [hf] at cF cL
 generalize Dq b = lv at *
 cases hE : Bi b with
 | none =>
   rw [hE] at cI cS
   have cI : PureF Tryz.prog p53.ix [.ag (eY b)] (.tp [.i .i64 0, .i .i64 7]) := cI
   have cS : PureF Tryz.prog p58.ix [.ag (eY b), .lst 1 (ints (jM (gI b)))] (.i .i64 (-1)) := cS
   repeat' first | ((first | refine Qw ?_ | refine Qf cTh ?_ | refine Qf cB ?_ | refine Qf cF ?_ | refine Qf cI ?_ | refine Qf cL ?_ | refine Qf cA ?_ | refine Qf cR ?_ | refine Qf cS ?_ | refine Qf cD ?_ | refine Qf AW ?_ | refine Qd (fun h => ?_) (fun h => ?_)) <;> conv => whnf) | (refine WB.tt ?_; conv => whnf) | (refine WB.ff ?_; conv => whnf)
   all_goals first | exact Fin.b rfl rfl | exact absurd h (by decide)
 | some n =>
   rw [hE] at cI cS
   have cI : PureF Tryz.prog p53.ix [.ag (eY b)] (.tp [.i .i64 (n : Int), .i .i64 0]) := cI
   have cS : PureF Tryz.prog p58.ix [.ag (eY b), .lst 1 (ints (jM (gI b)))] (.i .i64 (n : Int)) := cS
   repeat' first | ((first | refine Qw ?_ | refine Qf cTh ?_ | refine Qf cB ?_ | refine Qf cF ?_ | refine Qf cI ?_ | refine Qf cL ?_ | refine Qf cA ?_ | refine Qf cR ?_ | refine Qf cS ?_ | refine Qf cD ?_ | refine Qf AW ?_ | refine Qd (fun h => ?_) (fun h => ?_)) <;> conv => whnf) | (refine WB.tt ?_; conv => whnf) | (refine WB.ff ?_; conv => whnf)
   all_goals first | exact Fin.b rfl rfl | exact absurd h (by decide)
theorem main_windLeaves (AW : PureF Tryz.prog p22.ix [] (.b true)) {es : List D} (fit : FitP [(true, [.i .i64, .i .i64, .i .i64, .i .i64, .sl [.i .i64], .sl [.i .i64], .sl [.sl [.i .i64]], .sl [.i .i64, .i .i64], .sl [.i .i64, .i .i64]])] es) : PureF Tryz.prog 7 es (.b true) := by
 obtain ⟨b, _, rfl, hb, g1⟩ := fit.beachW
 obtain rfl := g1.no
 exact uJ b AW
end Go.Ev
end
