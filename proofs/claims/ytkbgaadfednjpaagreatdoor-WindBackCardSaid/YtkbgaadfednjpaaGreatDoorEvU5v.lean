import Derived.Test.YtkbgaadfednjpaaGreatDoorEvUS4T
set_option linter.all false
set_option maxHeartbeats 8000000
noncomputable section
namespace Go.Ev
open Go.Proofs
set_option maxRecDepth 100000
theorem vO {B : Pos → Prop} {ob : T C} {d : D} (h : Pu d := by simp [Cell.d, Pu, aN, dE, aB, aH, aF, aO, eS, lV, bW, sD, wR, bX, vV, qW]; done) : Fz B ob d d := .pu h
def Fx (b : Bh) : Bool := kL b && decide (bG b = 0)
theorem Cu (b : Bh) : PureF Tryz.prog p59.ix [.ag (dV b)] (.b (Fx b)) := Fv b
theorem Ft {b : Bh} (h : Fx b = true) : kL b = true ∧ bG b = 0 := by
  unfold Fx at h
  simpa using h
set_option maxHeartbeats 2000000 in
theorem Dn (b : Bh) (A : List (List Hr)) (h1 : (A.length : Int) = b.rws) (h2 : ∀ w ∈ A, (w.length : Int) = b.pls) (h3 : A.length ≤ 1000) : PureF Tryz.prog p62.ix [.ag (dV b), .lst 1 (aJ bS A)] (.b true) := by
  have e1 := aK bS A
  refine PureF.run Ne (by simp) (by simp [aN, dE, Pu, aO, sD]) ?_; conv => whnf
  repeat' first | ((first | refine Qz ?_ | refine Qy ?_) <;> conv => whnf) | (refine WB.tt ?_; conv => whnf) | (refine WB.ff ?_; conv => whnf)
  refine Rn.loopV [(p5, none), (p6, none), (p7, none), (p8, none), (p9, none), (bB, none), (bK, none), (bN, none), (bI, none), (p14, none), (bP, none), (cJ, none), (dC, none), (cK, none), (cU, none), (p20, none)] (fun i : Nat => [(p6, some (.i .i64 (i : Int)))]) (fun i : Nat => []) (fun i : Nat => (.o .h)) (fun i : Nat => i ≤ A.length) (fun i : Nat => A.length - i) 0 ?_ ?_ ?_
  · conv => whnf
    (refine X.le.mk ?_ ?_ (Nat.le_refl _) rfl rfl) <;> (repeat' first | exact T.le_e _ | refine T.le_some ?_ rfl ?_ | refine T.le_none ?_ ?_ | refine T.le_ee ?_ ?_)
  rotate_left
  intro xl1 hxl1
  rotate_right
  · exact Nat.zero_le _
  intro i hi
  have hi : i ≤ A.length := hi
  conv => whnf
  repeat' first | ((first | refine Qz ?_ | refine Qy ?_) <;> conv => whnf) | (refine WB.tt ?_; conv => whnf) | (refine WB.ff ?_; conv => whnf)
  refine WB.dec (fun hd => ?_) (fun hd => ?_) <;> conv => whnf
  · have hlt : i < A.length := by omega
    have e2 := aK fZ (A.getD i default)
    have e3 := h2 _ (aR (d := default) hlt)
    repeat' first | ((first | refine Qz ?_ | with_reducible (first | refine Qm ?_ | refine Qn ?_ | refine Qo ?_ | refine Qp ?_ | refine WB.nt ?_ | refine WB.nf ?_ | refine WB.dec (fun h => ?_) (fun h => ?_) | refine WB.ndec (fun h => ?_) (fun h => ?_)) | refine WB.mk (fun h => ?_) (fun h => ?_)) <;> conv => whnf) | (refine WB.tt ?_; conv => whnf) | (refine WB.ff ?_; conv => whnf)
    refine AgainB.v (i + 1) (by omega) (show i + 1 ≤ A.length by omega) (Nat.le_refl _) (by assumption) ?_
    conv => whnf
    refine Shr.of ?_ ?_ rfl rfl
    · (repeat' first | exact Rel.e | refine Rel.some ?_ ?_ ?_ | refine Rel.none ?_ ?_ | refine Rel.ee ?_ ?_)
      all_goals show Fz _ _ _ _
      all_goals first | exact Fq | exact vO
    · (repeat' first | exact Rel.e | refine Rel.some ?_ ?_ ?_ | refine Rel.none ?_ ?_ | refine Rel.ee ?_ ?_)
      all_goals refine wI ?_
      all_goals first | exact Sq | (refine ShC.same ?_; (repeat' first | exact ShC.nl | refine ShC.cn ?_ ?_) <;> first | exact Fq | exact vO)
  · repeat' first | ((first | refine Qz ?_ | with_reducible (first | refine Qm ?_ | refine Qn ?_ | refine Qo ?_ | refine Qp ?_ | refine WB.nt ?_ | refine WB.nf ?_ | refine WB.dec (fun h => ?_) (fun h => ?_) | refine WB.ndec (fun h => ?_) (fun h => ?_)) | refine WB.mk (fun h => ?_) (fun h => ?_)) <;> conv => whnf) | (refine WB.tt ?_; conv => whnf) | (refine WB.ff ?_; conv => whnf)
    exact Fin.b rfl (decide_eq_true (by omega))
def xB (b : Bh) : Bh := ⟨b.last, b.rws, b.pls, b.rch, b.face, b.sun, b.winds, [], b.nts⟩
def yB (b : Bh) : Bh := ⟨b.last, b.rws, b.pls, 0, b.face, b.sun, b.winds, b.brk, b.nts⟩
theorem VW.x {b : Bh} (V : VW b) : VW (xB b) := { V with brk := rfl }
theorem VW.y {b : Bh} (V : VW b) : VW (yB b) := { V with rch := (by show (0 : Int) ≤ 0 ∧ (0 : Int) ≤ 4; omega) }
theorem uE {b : Bh} (V : VW b) (h4 : b.brk.length ≤ 4) (h5 : b.nts.length ≤ 5) : bG b = 0 := by
  have a1 := V.last
  have a2 := V.rws
  have a3 := V.pls
  have hb : AP b = false := by
    cases h : AP b with
    | false => rfl
    | true => have := fW.1 h; omega
  unfold bG
  rw [hb, if_neg (by decide), if_pos (VW.iff.2 V)]
def Nw (b : Bh) : List D := [.i .i64 b.last, .i .i64 b.rws, .i .i64 b.pls, .i .i64 b.rch, .lst 1 (ints b.face), .lst 1 (ints b.sun), .lst 1 (aJ fI b.winds), .ns, .lst 2 (aJ cV b.nts)]
theorem Nz {γ : Gh} {w : World} (b : Bh) : CvL γ γ w (Nw b) (dV (xB b)) := by
  refine .cons (.pu (fun _ h => h) trivial) (.cons (.pu (fun _ h => h) trivial) (.cons (.pu (fun _ h => h) trivial) (.cons (.pu (fun _ h => h) trivial) (.cons (.pu (fun _ h => h) (aB _)) (.cons (.pu (fun _ h => h) (aB _)) (.cons (.pu (fun _ h => h) (aF _)) (.cons Cv.ns (.cons (.pu (fun _ h => h) (aH _)) .nil))))))))
theorem Dt (b : Bh) (p : Int × Int) (d : Int) : ∀ k, iH (xB b) p d k = false
  | 0 => rfl
  | k + 1 => by
    show (iH (xB b) p d k || wA [] _) = false
    rw [Dt b p d k]; rfl
theorem EC (b : Bh) (p : Int × Int) (f : Int) (h : Nat) (d : Int) : qY (xB b) p f h d = ⟨sF (decide (f = b.sun.getD h 0)), sF (decide (f = iY d)), sF (decide (f = b.sun.getD h 0)) * sF (decide (f = iY d))⟩ := by
  unfold qY HC
  rw [Dt, Bool.or_false]; rfl
theorem MY (b : Bh) (p : Int × Int) (f : Int) (h : Nat) (d : Int) : qY (yB b) p f h d = ⟨sF (decide (f = b.sun.getD h 0)), sF (decide (f = iY d)), sF (decide (f = b.sun.getD h 0)) * sF (decide (f = iY d))⟩ := by
  unfold qY HC
  rw [show iH (yB b) p d (yB b).rch.toNat = false from rfl, Bool.or_false]; rfl
theorem IL (b : Bh) (S : Nat → Nat → Int) (r : Int) (q : Int) (t : List Int) : ∀ j, gB (xB b) S (r, q) t j = gB (xB b) S (r, 0) t j
  | 0 => rfl
  | j + 1 => by
    show Dr _ _ = Dr _ _
    rw [IL b S r q t j, EC, EC]
theorem Jm (b : Bh) (S : Nat → Nat → Int) (r : Int) (q : Int) (t : List Int) : ∀ j, gB (yB b) S (r, q) t j = gB (xB b) S (r, 0) t j
  | 0 => rfl
  | j + 1 => by
    show Dr _ _ = Dr _ _
    rw [Jm b S r q t j, EC, MY]
theorem Hp (a c : Bool) : sF a ≤ sF (a || c) := by cases a <;> cases c <;> decide
theorem Gv (b : Bh) (S : Nat → Nat → Int) (r : Int) (q : Int) (t : List Int) : ∀ j, (gB (xB b) S (r, 0) t j).calm ≤ (gB b S (r, q) t j).calm
  | 0 => Int.le_refl _
  | j + 1 => by
    have ih := Gv b S r q t j
    show (gB (xB b) S (r, 0) t j).calm + (qY (xB b) (r, 0) (S j r.toNat) j (t.getD j 0)).calm ≤ (gB b S (r, q) t j).calm + (qY b (r, q) (S j r.toNat) j (t.getD j 0)).calm
    rw [EC]
    have h := Hp (decide (S j r.toNat = iY (t.getD j 0))) (iH b (r, q) (t.getD j 0) b.rch.toNat)
    exact Int.add_le_add ih h
theorem yJ {b : Bh} (V : VW b) (m : Nat) (hw : ∀ w ∈ b.winds, 0 < w.length) : Fk (lJ b) (qP b.winds m b.winds.length) = true := by
  rw [← Fg V, Ca]
  refine ⟨Ah _ _ _, fun i hi => ?_⟩
  have e : (qP b.winds m b.winds.length).getD i 0 = (b.winds.getD i default).getD (wQ b.winds m i % (b.winds.getD i default).length) 0 := by simp [qP, List.getD, hi]
  rw [e]
  exact aR (Nat.mod_lt _ (hw _ (aR hi)))
set_option maxHeartbeats 16000000 in
theorem xN (b : Bh) (wh : Int) (hwh : 0 ≤ wh ∧ wh ≤ 65535) (ws : List Int) (hu : KP ws) (AW : PureF Tryz.prog p22.ix [] (.b true)) : PureF Tryz.prog p14.ix [.ag (dV b), .i .u16 wh, .lst 1 (kO .u16 ws)] (.b true) := by
  have cR := Cu b
  refine PureF.run Md (by simp) (by simp [aN, dE, Pu, aO, bW]) ?_; conv => whnf
  cases hR : Fx b with
  | false =>
    rw [hR] at cR
    repeat' first | ((first | refine Qz ?_ | refine Qf (cR) ?_ | refine Qf (AW) ?_ | with_reducible (first | refine Qm ?_ | refine Qn ?_ | refine Qo ?_ | refine Qp ?_ | refine WB.nt ?_ | refine WB.nf ?_ | refine WB.dec (fun h => ?_) (fun h => ?_) | refine WB.ndec (fun h => ?_) (fun h => ?_)) | refine WB.mk (fun h => ?_) (fun h => ?_)) <;> conv => whnf) | (refine WB.tt ?_; conv => whnf) | (refine WB.ff ?_; conv => whnf)
    exact Fin.b rfl rfl
  | true =>
  rw [hR] at cR
  obtain ⟨hTh, hf⟩ := Ft hR
  have N := Cm hTh
  have F := N.f
  have Z := nX hf
  have V := Z.v
  have hv := V.last
  have q1 := V.rws
  have q2 := V.pls
  have q4 := V.sunl
  have q5 := V.winl
  have cB := sT b F.l1 F.l2 F.l3 F.l4 F.l5 F.l6
  have cBx := (sT (xB b) F.l1 F.l2 F.l3 (Nat.zero_le _) F.l5 F.l6).sub fun γ w => .cons (.ag (Nz b)) .nil
  have cBy := sT (yB b) F.l1 F.l2 F.l3 F.l4 F.l5 F.l6
  have cP := HI b V ws hu
  have hp := GV V ws
  obtain ⟨b1, b3⟩ := Fl V ws
  generalize Gw b ws = L at *
  have e1 := aK fI L
  obtain ⟨p1, p2⟩ := pI.1 hp
  have cL := zF L (by omega) (fun w hw => Nat.le_trans (b3 w hw) (by decide))
  have cM := Cq b N.w7 N.w5
  obtain ⟨m1, m2⟩ := N.m hf
  have eM : ((qU b : Nat) : Int) = gA b.winds b.winds.length := by unfold qU; omega
  have hM0 : 0 < qU b := by
    have hne : ∃ t, Fk (lJ b) t = true := ⟨_, yJ V 0 fun w hw => (V.win F.l6 w hw).1⟩
    obtain ⟨t, ht⟩ := hne
    have tp := (kG V.nt).1 ht
    have hl := tp.len
    obtain ⟨n, h1, _⟩ := CW b.winds t (by have hl : t.length = (b.last + 1).toNat := hl; omega) (fun i hi => (mN.1 (tp.mem i (by show i < (b.last + 1).toNat; omega))).1)
    rw [Eu]; omega
  rw [← eM] at cM
  have hw0 : Int.tmod wh (qU b : Int) = ((wh.toNat % qU b : Nat) : Int) := by
    rw [← yQ]; congr 1; omega
  have hwl := Nat.mod_lt wh.toNat hM0
  have cN := IU b (wh.toNat % qU b) (by omega) F.l3 (V.win F.l6)
  rw [← hw0] at cN
  have hW := yJ V (wh.toNat % qU b) fun w hw => (V.win F.l6 w hw).1
  generalize qP b.winds (wh.toNat % qU b) b.winds.length = t at *
  have tp := (kG V.nt).1 hW
  have tl : t.length = (b.last + 1).toNat := tp.len
  have hD := IE V.nt tp
  have e2 := aL t
  have e3 := aL b.sun
  have cl := tF t (by omega)
  have cY := tQ b L t F.l1 F.l2 F.l3 F.l6 b1 b3 hf hp hW
  rw [yC] at cY
  have cYx := tQ (xB b) L t F.l1 F.l2 F.l3 F.l6 b1 b3 (uE V.x (Nat.zero_le _) Z.l5) hp ((kG V.x.nt).2 ⟨tp.len, tp.mem⟩)
  rw [yC] at cYx
  have cYy := tQ (yB b) L t F.l1 F.l2 F.l3 F.l6 b1 b3 (uE V.y Z.l4 Z.l5) hp ((kG V.y.nt).2 ⟨tp.len, tp.mem⟩)
  rw [yC] at cYy
  have sh : ∀ c : Bh, c.rws = b.rws → c.pls = b.pls → PureF Tryz.prog p62.ix [.ag (dV b), .lst 1 (aJ bS (jA (zZ c L t) b.rws.toNat b.pls.toNat))] (.b true) := fun c _ _ => Dn b _ (by rw [iJ]; omega) (fun w hw => by rw [(oZ hw).1]; omega) (by rw [iJ]; omega)
  have s1 := sh b rfl rfl
  have s2 := sh (xB b) rfl rfl
  have s3 := sh (yB b) rfl rfl
  repeat' first | ((first | refine Qz ?_ | refine Qf (cR) ?_ | refine Qf (cB) ?_ | refine Qf (cBx) ?_ | refine Qf (cBy) ?_ | refine Qf (cP) ?_ | refine Qf (cL) ?_ | refine Qf (cM) ?_ | refine Qf (cN) ?_ | refine Qf (cl) ?_ | refine Qf (cY) ?_ | refine Qf (cYx) ?_ | refine Qf (cYy) ?_ | refine Qf (s1) ?_ | refine Qf (s2) ?_ | refine Qf (s3) ?_ | with_reducible (first | refine Qm ?_ | refine Qn ?_ | refine Qo ?_ | refine Qp ?_ | refine WB.nt ?_ | refine WB.nf ?_ | refine WB.dec (fun h => ?_) (fun h => ?_) | refine WB.ndec (fun h => ?_) (fun h => ?_)) | refine WB.mk (fun h => ?_) (fun h => ?_)) <;> conv => whnf) | (refine WB.tt ?_; conv => whnf) | (refine WB.ff ?_; conv => whnf)
  refine Rn.loopV [(p7, none), (cK, none), (cU, none), (p20, none), (p21, none), (p22, none), (p23, none), (p100, none), (EK, none), (Cc, none), (p103, none), (Bg, none), (p105, none), (AV, none), (p107, none), (yG, none), (wT, none), (wM, none), (Av, none), (Bq, none), (Bt, none), (p114, none), (AS, none), (p116, none), (p117, none), (p118, none), (p119, none), (p120, none), (p121, none), (p122, none), (p123, none), (p124, none), (p125, none), (p126, none), (p127, none), (p128, none), (p129, none), (p130, none), (Ax, none), (Bf, none), (p133, none), (p134, none), (Bd, none), (AO, none), (At, none), (Bb, none), (Bj, none), (AF, none), (Be, none), (Bx, none), (AI, none), (Bl, none), (Br, none), (p146, none), (p147, none), (p148, none), (p149, none), (p150, none), (xT, none), (p152, none), (AM, none), (AE, none), (Bu, none), (As, none), (AR, none), (Bz, none), (BG, none), (p160, none), (Ba, none), (p162, none), (Bn, none), (AQ, none), (Bk, none), (BH, none), (Bw, none), (By, none), (AZ, none), (Bv, none), (AH, none), (mM, none), (kJ, none), (uT, none), (vW, none), (vD, none), (uD, none), (vA, none), (vZ, none), (uV, none), (wS, none), (DL, none), (FZ, none), (kX, none), (CY, none), (DC, none), (CJ, none), (CZ, none), (Cb, none), (Ef, none), (EM, none), (DN, none), (Cd, none), (CN, none), (CS, none), (FG, none)] (fun r : Nat => [(cK, some (.i .i64 (r : Int)))]) (fun r : Nat => []) (fun r : Nat => (.o (.o .h))) (fun r : Nat => r ≤ b.rws.toNat) (fun r : Nat => b.rws.toNat - r) 0 ?_ ?_ ?_
  · conv => whnf
    (refine X.le.mk ?_ ?_ (Nat.le_refl _) rfl rfl) <;> (repeat' first | exact T.le_e _ | refine T.le_some ?_ rfl ?_ | refine T.le_none ?_ ?_ | refine T.le_ee ?_ ?_)
  rotate_left
  intro xl2 hxl2
  rotate_right
  · exact Nat.zero_le _
  intro r hr
  have hr : r ≤ b.rws.toNat := hr
  conv => whnf
  repeat' first | ((first | refine Qz ?_ | refine Qy ?_) <;> conv => whnf) | (refine WB.tt ?_; conv => whnf) | (refine WB.ff ?_; conv => whnf)
  refine WB.dec (fun hd => ?_) (fun hd => ?_) <;> conv => whnf
  rotate_left
  · repeat' first | ((first | refine Qz ?_ | refine Qf (AW) ?_ | refine Qy ?_) <;> conv => whnf) | (refine WB.tt ?_; conv => whnf) | (refine WB.ff ?_; conv => whnf)
    exact Fin.b rfl rfl
  have hlt : r < b.rws.toNat := by omega
  repeat' first | ((first | refine Qz ?_ | refine Qy ?_) <;> conv => whnf) | (refine WB.tt ?_; conv => whnf) | (refine WB.ff ?_; conv => whnf)
  refine Rn.loopV [(p20, none), (p21, none), (p22, none), (p107, none), (yG, none), (wT, none), (wM, none), (Av, none), (Bq, none), (Bt, none), (p114, none), (AS, none), (p116, none), (p117, none), (p118, none), (p119, none), (p120, none), (p121, none), (p122, none), (p123, none), (p124, none), (p125, none), (p126, none), (p127, none), (p128, none), (p129, none), (p130, none), (Ax, none), (Bf, none), (p133, none), (p134, none), (Bd, none), (AO, none), (At, none), (Bb, none), (Bj, none), (AF, none), (Be, none), (Bx, none), (AI, none), (Bl, none), (Br, none), (p146, none), (p147, none), (p148, none), (p149, none), (p150, none), (xT, none), (p152, none), (AM, none), (AE, none), (Bu, none), (As, none), (AR, none)] (fun k : Nat => [(p20, some (.i .i64 (k : Int)))]) (fun k : Nat => [((.o (.o .h)), some (.cells false [.o (.i .i64 (gB (xB b) (qN L) ((r : Int), 0) t k).sun) 0, .o (.i .i64 (gB (xB b) (qN L) ((r : Int), 0) t k).calm) 0, .o (.i .i64 (gB (xB b) (qN L) ((r : Int), 0) t k).good) 0] 1))]) (fun k : Nat => (.i (.o .h))) (fun k : Nat => k ≤ t.length) (fun k : Nat => t.length - k) 0 ?_ ?_ ?_
  · conv => whnf
    (refine X.le.mk ?_ ?_ (Nat.le_refl _) rfl rfl) <;> (repeat' first | exact T.le_e _ | refine T.le_some ?_ rfl ?_ | refine T.le_none ?_ ?_ | refine T.le_ee ?_ ?_)
  rotate_left
  intro xl3 hxl3
  rotate_right
  · exact Nat.zero_le _
  intro k hk
  have hk : k ≤ t.length := hk
  have hbd := wZ (xB b) (qN L) ((r : Int), 0) t k
  have hN2 : gB (xB b) (qN L) ((r : Int), 0) t (k + 1) = Dr (gB (xB b) (qN L) ((r : Int), 0) t k) (qY (xB b) ((r : Int), 0) ((L.getD k default).getD r 0) k (t.getD k 0)) := rfl
  rw [EC] at hN2
  have hXe : k = t.length → gB (xB b) (qN L) ((r : Int), 0) t t.length = gB (xB b) (qN L) ((r : Int), 0) t k := fun h => by rw [h]
  generalize gB (xB b) (qN L) ((r : Int), 0) t k = x at *
  conv => whnf
  repeat' first | ((first | refine Qz ?_ | refine Qy ?_) <;> conv => whnf) | (refine WB.tt ?_; conv => whnf) | (refine WB.ff ?_; conv => whnf)
  refine WB.dec (fun hd3 => ?_) (fun hd3 => ?_) <;> conv => whnf
  · have hk2 : k < t.length := by omega
    have hw := p2 _ (aR (d := default) (show k < L.length by omega))
    have hrl : r < (L.getD k default).length := by have := hw.1; omega
    have hfd := bF (jE (p := hY) (d := 0) hw.2 hrl)
    have hdk := hD _ (aR (d := 0) hk2)
    have hop := FM hdk hfd
    have e4 := aL (L.getD k default)
    unfold iY at hop
    by_cases k1 : (L.getD k default).getD r 0 = b.sun.getD k 0 <;> by_cases k2 : Int.tmod ((L.getD k default).getD r 0 + 2) 4 = t.getD k 0
    all_goals
      first | rw [decide_eq_true k1] at hN2 | rw [decide_eq_false k1] at hN2
      first | rw [decide_eq_true (show (L.getD k default).getD r 0 = iY (t.getD k 0) from hop.1 k2)] at hN2 | rw [decide_eq_false (show ¬ (L.getD k default).getD r 0 = iY (t.getD k 0) from fun h => k2 (hop.2 h))] at hN2
      simp only [IT, JI, Dr, Int.add_zero, Int.mul_zero, Int.zero_mul, Int.mul_one] at hN2
      repeat' first | ((first | refine Qz ?_ | with_reducible (first | refine Qm ?_ | refine Qn ?_ | refine Qo ?_ | refine Qp ?_ | refine WB.nt ?_ | refine WB.nf ?_ | refine WB.dec (fun h => ?_) (fun h => ?_) | refine WB.ndec (fun h => ?_) (fun h => ?_)) | refine WB.mk (fun h => ?_) (fun h => ?_)) <;> conv => whnf) | (refine WB.tt ?_; conv => whnf) | (refine WB.ff ?_; conv => whnf)
      refine AgainB.v (k + 1) (by omega) (show k + 1 ≤ t.length by omega) (Nat.le_refl _) (by assumption) ?_
      rw [hN2]
      conv => whnf
      refine Shr.of ?_ ?_ rfl rfl
      · (repeat' first | exact Rel.e | refine Rel.some ?_ ?_ ?_ | refine Rel.none ?_ ?_ | refine Rel.ee ?_ ?_)
        all_goals show Fz _ _ _ _
        all_goals first | exact Fq | exact vO
      · (repeat' first | exact Rel.e | refine Rel.some ?_ ?_ ?_ | refine Rel.none ?_ ?_ | refine Rel.ee ?_ ?_)
        all_goals refine wI ?_
        all_goals first | exact Sq | (refine ShC.same ?_; (repeat' first | exact ShC.nl | refine ShC.cn ?_ ?_) <;> first | exact Fq | exact vO)
  obtain rfl : k = t.length := by omega
  have hXe := hXe rfl
  have hb5 : ∀ n ∈ [x.sun, x.calm, x.good], tR .i64 n = true := fun n hn => tM (by
    simp only [List.mem_cons, List.not_mem_nil, or_false] at hn
    rcases hn with rfl | rfl | rfl <;> omega)
  repeat' first | ((first | refine Qz ?_ | refine Qy ?_) <;> conv => whnf) | (refine WB.tt ?_; conv => whnf) | (refine WB.ff ?_; conv => whnf)
  refine Rn.loopV [(p7, none), (p23, none), (Bz, none), (BG, none), (p160, none), (Ba, none), (p162, none), (Bn, none), (AQ, none), (Bk, none), (BH, none), (Bw, none), (By, none), (AZ, none), (Bv, none), (AH, none), (mM, none), (kJ, none), (uT, none), (vW, none), (vD, none), (uD, none), (vA, none), (vZ, none), (uV, none), (wS, none), (DL, none), (FZ, none), (kX, none), (CY, none), (DC, none), (CJ, none), (CZ, none), (Cb, none), (Ef, none), (EM, none), (DN, none), (Cd, none), (CN, none), (CS, none), (FG, none)] (fun q : Nat => [(p23, some (.i .i64 (q : Int)))]) (fun q : Nat => []) (fun q : Nat => (.i (.o .h))) (fun q : Nat => q ≤ b.pls.toNat) (fun q : Nat => b.pls.toNat - q) 0 ?_ ?_ ?_
  · conv => whnf
    (refine X.le.mk ?_ ?_ (Nat.le_refl _) rfl rfl) <;> (repeat' first | exact T.le_e _ | refine T.le_some ?_ rfl ?_ | refine T.le_none ?_ ?_ | refine T.le_ee ?_ ?_)
  rotate_left
  intro xl4 hxl4
  rotate_right
  · exact Nat.zero_le _
  intro q hq
  have hq : q ≤ b.pls.toNat := hq
  conv => whnf
  repeat' first | ((first | refine Qz ?_ | refine Qy ?_) <;> conv => whnf) | (refine WB.tt ?_; conv => whnf) | (refine WB.ff ?_; conv => whnf)
  refine WB.dec (fun hd2 => ?_) (fun hd2 => ?_) <;> conv => whnf
  rotate_left
  · repeat' first | ((first | refine Qz ?_ | refine Qy ?_) <;> conv => whnf) | (refine WB.tt ?_; conv => whnf) | (refine WB.ff ?_; conv => whnf)
    refine AgainB.v (r + 1) (by omega) (show r + 1 ≤ b.rws.toNat by omega) (Nat.le_refl _) (by assumption) ?_
    conv => whnf
    refine Shr.of ?_ ?_ rfl rfl
    · (repeat' first | exact Rel.e | refine Rel.some ?_ ?_ ?_ | refine Rel.none ?_ ?_ | refine Rel.ee ?_ ?_)
      all_goals show Fz _ _ _ _
      all_goals first | exact Fq | exact vO
    · (repeat' first | exact Rel.e | refine Rel.some ?_ ?_ ?_ | refine Rel.none ?_ ?_ | refine Rel.ee ?_ ?_)
      all_goals refine wI ?_
      all_goals first | exact Sq | (refine ShC.same ?_; (repeat' first | exact ShC.nl | refine ShC.cn ?_ ?_) <;> first | exact Fq | exact vO)
  have hlq : q < b.pls.toNat := by omega
  have x1 : zZ (xB b) L t r q = x := (IL b (qN L) r q t t.length).trans hXe
  have x2 : zZ (yB b) L t r q = x := (Jm b (qN L) r q t t.length).trans hXe
  have x3 : x.calm ≤ (zZ b L t r q).calm := by
    have := Gv b (qN L) r q t t.length
    rw [hXe] at this
    exact this
  have g1 : ∀ c : Bh, r < (jA (zZ c L t) b.rws.toNat b.pls.toNat).length := fun c => by rw [iJ]; exact hlt
  have g2 : ∀ c : Bh, q < ((jA (zZ c L t) b.rws.toNat b.pls.toNat).getD r default).length := fun c => by rw [FR _ hlt]; simpa using hlq
  repeat' first | ((first | refine Qz ?_ | refine WIx.rowsM (g1 _) rfl ?_ | refine WIx.rowsM (g2 _) rfl ?_ | refine Qy ?_) <;> conv => whnf) | (refine WB.tt ?_; conv => whnf) | (refine WB.ff ?_; conv => whnf)
  rw [tG (zZ (xB b) L t) (n := (xB b).rws.toNat) (m := (xB b).pls.toNat) hlt hlq, x1]
  refine WSt.eqrN (neg := true) (r := false) [x.sun, x.calm, x.good] [x.sun, x.calm, x.good] rfl rfl rfl rfl hb5 hb5 (by simp) ?_; conv => whnf
  repeat' first | ((first | refine Qz ?_ | refine WIx.rowsM (g1 _) rfl ?_ | refine WIx.rowsM (g2 _) rfl ?_ | refine Qy ?_) <;> conv => whnf) | (refine WB.tt ?_; conv => whnf) | (refine WB.ff ?_; conv => whnf)
  rw [tG (zZ (yB b) L t) (n := (yB b).rws.toNat) (m := (yB b).pls.toNat) hlt hlq, x2]
  refine WSt.eqrN (neg := true) (r := false) [x.sun, x.calm, x.good] [x.sun, x.calm, x.good] rfl rfl rfl rfl hb5 hb5 (by simp) ?_; conv => whnf
  repeat' first | ((first | refine Qz ?_ | refine WIx.rowsM (g1 _) rfl ?_ | refine WIx.rowsM (g2 _) rfl ?_ | refine Qy ?_) <;> conv => whnf) | (refine WB.tt ?_; conv => whnf) | (refine WB.ff ?_; conv => whnf)
  rw [tG (zZ b L t) hlt hlq]
  repeat' first | ((first | refine Qz ?_ | with_reducible (first | refine Qm ?_ | refine Qn ?_ | refine Qo ?_ | refine Qp ?_ | refine WB.nt ?_ | refine WB.nf ?_ | refine WB.dec (fun h => ?_) (fun h => ?_) | refine WB.ndec (fun h => ?_) (fun h => ?_)) | refine WB.mk (fun h => ?_) (fun h => ?_)) <;> conv => whnf) | (refine WB.tt ?_; conv => whnf) | (refine WB.ff ?_; conv => whnf)
  refine AgainB.v (q + 1) (by omega) (show q + 1 ≤ b.pls.toNat by omega) (Nat.le_refl _) (by assumption) ?_
  conv => whnf
  refine Shr.of ?_ ?_ rfl rfl
  · (repeat' first | exact Rel.e | refine Rel.some ?_ ?_ ?_ | refine Rel.none ?_ ?_ | refine Rel.ee ?_ ?_)
    all_goals show Fz _ _ _ _
    all_goals first | exact Fq | exact vO
  · (repeat' first | exact Rel.e | refine Rel.some ?_ ?_ ?_ | refine Rel.none ?_ ?_ | refine Rel.ee ?_ ?_)
    all_goals refine wI ?_
    all_goals first | exact Sq | (refine ShC.same ?_; (repeat' first | exact ShC.nl | refine ShC.cn ?_ ?_) <;> first | exact Fq | exact vO)
theorem main_windBack (AW : PureF Tryz.prog p22.ix [] (.b true)) {es : List D} (fit : FitP [(true, [.i .i64, .i .i64, .i .i64, .i .i64, .sl [.i .i64], .sl [.i .i64], .sl [.sl [.i .i64]], .sl [.i .i64, .i .i64], .sl [.i .i64, .i .i64]]), (false, [.i .u16]), (false, [.sl [.i .u16]])] es) : PureF Tryz.prog 13 es (.b true) := by
  obtain ⟨b, _, rfl, hb, g1⟩ := fit.beachW
  obtain ⟨w, _, rfl, hw, g2⟩ := g1.i
  obtain ⟨ws, _, rfl, hu, g3⟩ := g2.nums
  obtain rfl := g3.no
  exact xN b w (EI hw) ws (fun n hn => EI (hu n hn)) AW
end Go.Ev
end
