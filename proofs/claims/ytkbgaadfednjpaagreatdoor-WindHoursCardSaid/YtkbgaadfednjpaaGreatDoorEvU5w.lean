import Derived.Test.YtkbgaadfednjpaaGreatDoorEvUS4T
set_option linter.all false
set_option maxHeartbeats 8000000
noncomputable section
namespace Go.Ev
open Go.Proofs
set_option maxRecDepth 100000
theorem ER {B : Pos → Prop} {ob : T C} {d : D} (h : Pu d := by simp [Cell.d, Pu, aQ, dG, aC, aG, aJ, aS, fY, kS, bS, sV, sU, eT, tX, CQ]; done) : Fz B ob d d := .pu h
def gT (b : Bh) (h : Nat) : Bh := ⟨0, b.rws, b.pls, b.rch, b.face, [b.sun.getD h 0], [b.winds.getD h default], b.brk, []⟩
def NS (b : Bh) (h : Nat) : List D := [.i .i64 0, .i .i64 b.rws, .i .i64 b.pls, .i .i64 b.rch, .lst 1 (ints b.face), .lst 1 (ints [b.sun.getD h 0]), .lst 1 (aD eQ [b.winds.getD h default]), .lst 2 (aD bD b.brk), .ns]
theorem Om {γ : Gh} {w : World} (b : Bh) (h : Nat) : CvL γ γ w (NS b h) (eF (gT b h)) := by
  refine .cons (.pu (fun _ h => h) trivial) (.cons (.pu (fun _ h => h) trivial) (.cons (.pu (fun _ h => h) trivial) (.cons (.pu (fun _ h => h) trivial) (.cons (.pu (fun _ h => h) (aC _)) (.cons (.pu (fun _ h => h) (aC _)) (.cons (.pu (fun _ h => h) (aJ _)) (.cons (.pu (fun _ h => h) (aG _)) (.cons Cv.ns .nil))))))))
theorem VW.one {b : Bh} (V : VW b) {h : Nat} (hh : h < b.winds.length) : VW (gT b h) where
  last := (by show (0 : Int) ≤ 0 ∧ (0 : Int) ≤ 4; omega)
  rws := V.rws
  pls := V.pls
  rch := V.rch
  facl := V.facl
  face := V.face
  sunl := rfl
  sun := by
    have h2 := V.sunl
    have h3 := V.winl
    have := List.all_eq_true.1 V.sun _ (aL (d := (0 : Int)) (show h < b.sun.length by omega))
    show (rO (b.sun.getD h 0) && true) = true
    rw [this]; rfl
  winl := rfl
  wins := by
    have := List.all_eq_true.1 V.wins _ (aL (d := default) hh)
    show (kM (b.winds.getD h default) && true) = true
    rw [this]; rfl
  brk := V.brk
  nts := rfl
theorem zN (b : Bh) (h : Nat) : aH (gT b h) 0 = aH (lQ b) h := rfl
theorem FM (b : Bh) (h : Nat) : aH (lQ b) h = b.winds.getD h default := by
  show (b.winds.getD h []).filter (fun _ => true) = _
  rw [List.filter_eq_self.2 fun _ _ => rfl]; rfl
theorem CL {b : Bh} (V : VW b) (t : List Int) (h : TruP b t) : kL b = true := (Dv V).1 fun e => by
  have := (qD V).2 h
  rw [e] at this
  cases this
theorem El {b : Bh} (V : VW b) (l6 : ∀ w ∈ b.winds, w.length ≤ 1000) : kL (lQ b) = true :=
  CL V.nt _ ((pL V.nt).1 (En V 0 fun w hw => (V.win l6 w hw).1))
theorem AG {b c : Bh} (h : b.brk = c.brk) (p : Int × Int) (d : Int) : ∀ k, nR b p d k = nR c p d k
  | 0 => rfl
  | k + 1 => by
    show (nR b p d k || yT b.brk _) = (nR c p d k || yT c.brk _)
    rw [AG h p d k, h]
theorem GK (b : Bh) (p : Int × Int) (f : Int) (h : Nat) (d : Int) : tP (gT b h) p f 0 d = tP (lQ b) p f h d := by
  unfold tP Ky
  rw [AG (b := gT b h) (c := lQ b) rfl]; rfl
theorem EB (b : Bh) (L : List (List Int)) (P : List (Int × Int)) (κ : Hr → Int) (h : Nat) (d : Int) : kq (gT b h) (lS [L.getD h default]) P κ 0 d = kq (lQ b) (lS L) P κ h d := by
  have e : ∀ j, qN (gT b h) (lS [L.getD h default]) P 0 d j = qN (lQ b) (lS L) P h d j := fun j => by
    induction j with
    | zero => rfl
    | succ j ih =>
      show EL _ _ = EL _ _
      rw [ih, GK]; rfl
  unfold kq
  rw [e]
theorem Eu {b : Bh} (L : List (List Int)) (h : Nat) : EI (gT b h) (lS [L.getD h default]) = FD (pB (lQ b) (lS L) (cU b.rws.toNat b.pls.toNat) (fun x => x.good) h) (oV (lQ b) (lS L) (cU b.rws.toNat b.pls.toNat) (fun x => x.good) h) := by
  have g : ∀ f : Nat → Int, gD f 0 (0 + ((gT b h).last + 1).toNat) = f 0 := fun f => by
    show (if 0 ≤ 0 then (0 : Int) + f 0 else 0) = _
    rw [if_pos (Nat.le_refl _), Int.zero_add]
  have k : kV (gT b h) (lS [L.getD h default]) (cU b.rws.toNat b.pls.toNat) (fun x => x.good) 0 = kV (lQ b) (lS L) (cU b.rws.toNat b.pls.toNat) (fun x => x.good) h := by
    unfold kV
    rw [zN]
    exact List.map_congr_left fun d _ => EB b L _ _ h d
  unfold EI Nu FD
  rw [g, g]
  show [D.i .i64 (pB (gT b h) (lS [L.getD h default]) (cU b.rws.toNat b.pls.toNat) (fun x => x.good) 0), D.i .i64 (oV (gT b h) (lS [L.getD h default]) (cU b.rws.toNat b.pls.toNat) (fun x => x.good) 0)] = _
  unfold pB oV
  rw [k]
theorem Fz.whole {B : Pos → Prop} {ob : T C} {id : Pos} {z st : Nat} {cs : List Cell} {cur : Nat} {es : List (List D)} {n : Nat} (hB : ¬ B id) (h : ob.get id = some (.cells false cs cur)) (hn : n = es.length) (hz : ∀ r ∈ es, r.length = z) (hc : cs = es.flatten.map fun d => Cell.o d st) (hp : dG es) : Fz B ob (.sl id 0 n st z) (.lst z es) := by
  subst hc
  refine .sl hB h hn.symm hz (fun k d hk => ⟨.o d st, ?_, ?_, rfl⟩) (FzE.of hp)
  · rw [List.drop_zero, List.getElem?_map, hk]; rfl
  · show Nat.ble st st = true
    exact Nat.ble_eq_true_of_le (Nat.le_refl _)
theorem Bt (a c : Int) : PureF Tryz.prog p67.ix [.i .i64 a, .i .i64 c] (.ag (FD a c)) := by
  refine PureF.run LT (by simp) (by simp [aQ, Pu]) ?_; conv => whnf
  repeat' first | ((first | refine Qz ?_ | refine Qy ?_) <;> conv => whnf) | (refine WB.tt ?_; conv => whnf) | (refine WB.ff ?_; conv => whnf)
  exact ⟨.inr rfl, _, rfl, .pu ⟨trivial, trivial, trivial⟩⟩
set_option maxHeartbeats 16000000 in
theorem uY (b : Bh) (ws : List Int) (hu : LC ws) (AW : PureF Tryz.prog p22.ix [] (.b true)) : PureF Tryz.prog p11.ix [.ag (eF b), .lst 1 (kU .u16 ws)] (.b true) := by
  have cR := BU b
  refine PureF.run Mk (by simp) (by simp [aQ, dG, Pu, aS, bS]) ?_; conv => whnf
  cases hR : EE b with
  | false =>
    rw [hR] at cR
    repeat' first | ((first | refine Qz ?_ | refine Qf (cR) ?_ | refine Qf (AW) ?_ | with_reducible (first | refine Qm ?_ | refine Qn ?_ | refine Qo ?_ | refine Qp ?_ | refine WB.nt ?_ | refine WB.nf ?_ | refine WB.dec (fun h => ?_) (fun h => ?_) | refine WB.ndec (fun h => ?_) (fun h => ?_)) | refine WB.mk (fun h => ?_) (fun h => ?_)) <;> conv => whnf) | (refine WB.tt ?_; conv => whnf) | (refine WB.ff ?_; conv => whnf)
    exact Fin.b rfl rfl
  | true =>
  rw [hR] at cR
  obtain ⟨hTh, hf⟩ := Ez hR
  have N := BN hTh
  have F := N.f
  have Z := jC hf
  have V := Z.v
  have hv := V.last
  have q1 := V.rws
  have q2 := V.pls
  have q4 := V.sunl
  have q5 := V.winl
  have cBx := (Ag (lQ b) F.l1 F.l2 F.l3 F.l4 (Nat.zero_le _) F.l6).sub fun γ w => .cons (.ag (Oj b)) .nil
  have cP := Hd b V ws hu
  have hp := Gi V ws
  obtain ⟨b1, b3⟩ := Es V ws
  generalize FF b ws = L at *
  have e1 := aM eQ L
  have e3 := aO b.sun
  have e4 := aM eQ b.winds
  obtain ⟨p1, p2⟩ := lV.1 hp
  have cL := zU L (by omega) (fun w hw => Nat.le_trans (b3 w hw) (by decide))
  have fx := uT V.nt Z.l4 (Nat.zero_le _)
  have hW := El V F.l6
  have cX := vS (lQ b) L F.l1 F.l2 F.l3 F.l6 b1 b3 fx hp hW
  have mb : ∀ h, 0 ≤ pB (lQ b) (lS L) (cU b.rws.toNat b.pls.toNat) (fun x => x.good) h ∧ pB (lQ b) (lS L) (cU b.rws.toNat b.pls.toNat) (fun x => x.good) h ≤ 50 := fun h => CM KOk.good _ _ _ (qK V) h
  have xb : ∀ h, 0 ≤ oV (lQ b) (lS L) (cU b.rws.toNat b.pls.toNat) (fun x => x.good) h ∧ oV (lQ b) (lS L) (cU b.rws.toNat b.pls.toNat) (fun x => x.good) h ≤ 50 := fun h => BM KOk.good _ _ _ (qK V) h
  have cX : PureF Tryz.prog p43.ix [.ag (eF (lQ b)), .lst 1 (aD eQ L)] (.tp [.ag (FD (gD (pB (lQ b) (lS L) (cU b.rws.toNat b.pls.toNat) (fun x => x.good)) 0 (0 + (b.last + 1).toNat)) (gD (oV (lQ b) (lS L) (cU b.rws.toNat b.pls.toNat) (fun x => x.good)) 0 (0 + (b.last + 1).toNat))), .i .i64 0]) := cX
  have hone : ∀ h, h < b.winds.length → PureF Tryz.prog p43.ix [.ag (eF (gT b h)), .lst 1 (aD eQ [L.getD h default])] (.tp [.ag (FD (pB (lQ b) (lS L) (cU b.rws.toNat b.pls.toNat) (fun x => x.good) h) (oV (lQ b) (lS L) (cU b.rws.toNat b.pls.toNat) (fun x => x.good) h)), .i .i64 0]) := fun h hh => by
    have Vy := V.one hh
    have g1 := p2 _ (aL (d := default) (show h < L.length by omega))
    have hn : (b.winds.getD h default).length ≤ 1000 := F.l6 _ (aL hh)
    have hy : kL (gT b h) = true := by
      obtain ⟨t, ht⟩ : ∃ d, d ∈ aH (gT b h) 0 := by
        rw [zN, FM]
        have hp0 := (V.win F.l6 _ (aL (d := default) hh)).1
        exact ⟨_, aL (d := 0) hp0⟩
      exact CL Vy [t] ⟨rfl, fun i hi => by
        have hi : i < 1 := hi
        obtain rfl : i = 0 := by omega
        exact ht⟩
    have := vS (gT b h) [L.getD h default] F.l1 (by simp [gT]) (by simp [gT]) (fun w hw => by rw [List.mem_singleton.1 hw]; exact hn) (by simp) (fun w hw => by rw [List.mem_singleton.1 hw]; exact b3 _ (aL (by omega))) (uT Vy Z.l4 (Nat.zero_le _)) (lV.2 ⟨rfl, fun w hw => by rw [List.mem_singleton.1 hw]; exact g1⟩) hy
    rwa [Eu] at this
  generalize hmn : pB (lQ b) (lS L) (cU b.rws.toNat b.pls.toNat) (fun x => x.good) = mn at *
  generalize hmx : oV (lQ b) (lS L) (cU b.rws.toNat b.pls.toNat) (fun x => x.good) = mx2 at *
  repeat' first | ((first | refine Qz ?_ | refine Qf (cR) ?_ | refine Qf (cBx) ?_ | refine Qf (cP) ?_ | refine Qf (cL) ?_ | refine Qf (cX) ?_ | with_reducible (first | refine Qm ?_ | refine Qn ?_ | refine Qo ?_ | refine Qp ?_ | refine WB.nt ?_ | refine WB.nf ?_ | refine WB.dec (fun h => ?_) (fun h => ?_) | refine WB.ndec (fun h => ?_) (fun h => ?_)) | refine WB.mk (fun h => ?_) (fun h => ?_)) <;> conv => whnf) | (refine WB.tt ?_; conv => whnf) | (refine WB.ff ?_; conv => whnf)
  refine Rn.loopV [(p5, none), (bI, none), (p11, none), (bO, none), (bM, none), (bT, none), (bV, none), (kY, none), (nM, none), (iX, none), (oA, none), (oK, none), (qY, none), (rH, none), (wU, none), (tM, none), (p42, none), (p43, none), (p44, none), (p45, none), (rQ, none), (xY, none), (yO, none), (p49, none), (yR, none), (Bo, none), (nD, none), (xD, none), (xZ, none), (wZ, none), (wT, none), (yQ, none), (yD, none), (p59, none), (rS, none), (p61, none), (zX, none), (uK, none), (xJ, none), (yK, none), (yM, none), (p67, none), (Bq, none), (pO, none), (Bn, none), (Bg, none), (AO, none), (Bl, none), (Bw, none), (Bp, none), (BE, none), (xC, none)] (fun h : Nat => [(bI, some (.i .i64 (gD mn 0 h))), (p11, some (.i .i64 (gD mx2 0 h))), (bO, some (.i .i64 (h : Int)))]) (fun h : Nat => []) (fun h : Nat => (.o (.o .h))) (fun h : Nat => h ≤ (b.last + 1).toNat) (fun h : Nat => (b.last + 1).toNat - h) 0 ?_ ?_ ?_
  · conv => whnf
    (refine X.le.mk ?_ ?_ (Nat.le_refl _) rfl rfl) <;> (repeat' first | exact T.le_e _ | refine T.le_some ?_ rfl ?_ | refine T.le_none ?_ ?_ | refine T.le_ee ?_ ?_)
  rotate_left
  intro xl1 hxl1
  rotate_right
  · exact Nat.zero_le _
  intro h hh
  have hh : h ≤ (b.last + 1).toNat := hh
  have l1 := pX mb 0 h
  have l2 := pX xb 0 h
  have z1 : gD mn 0 (h + 1) = gD mn 0 h + mn h := if_pos (Nat.zero_le _)
  have z2 : gD mx2 0 (h + 1) = gD mx2 0 h + mx2 h := if_pos (Nat.zero_le _)
  have hend : h = (b.last + 1).toNat → gD mn 0 (0 + (b.last + 1).toNat) = gD mn 0 h ∧ gD mx2 0 (0 + (b.last + 1).toNat) = gD mx2 0 h := fun e => by rw [e, Nat.zero_add]; exact ⟨rfl, rfl⟩
  generalize gD mn 0 h = a1 at *
  generalize gD mx2 0 h = a2 at *
  conv => whnf
  repeat' first | ((first | refine Qz ?_ | refine Qy ?_) <;> conv => whnf) | (refine WB.tt ?_; conv => whnf) | (refine WB.ff ?_; conv => whnf)
  refine WB.dec (fun hd => ?_) (fun hd => ?_) <;> conv => whnf
  rotate_left
  · obtain ⟨g1, g2⟩ := hend (by omega)
    rw [g1, g2]
    repeat' first | ((first | refine Qz ?_ | refine Qf (Bt a1 a2) ?_ | refine Qf (AW) ?_ | refine GU a1 a2 rfl rfl (rT (by omega)) (rT (by omega)) ?_ | with_reducible (first | refine Qm ?_ | refine Qn ?_ | refine Qo ?_ | refine Qp ?_ | refine WB.nt ?_ | refine WB.nf ?_ | refine WB.dec (fun h => ?_) (fun h => ?_) | refine WB.ndec (fun h => ?_) (fun h => ?_)) | refine WB.mk (fun h => ?_) (fun h => ?_)) <;> conv => whnf) | (refine WB.tt ?_; conv => whnf) | (refine WB.ff ?_; conv => whnf)
    exact Fin.b rfl rfl
  have hlt : h < b.winds.length := by omega
  have m1 := mb h
  have m2 := xb h
  have cT := hone h hlt
  have hn : (b.winds.getD h default).length ≤ 1000 := F.l6 _ (aL hlt)
  have cl1 := qW (b.winds.getD h default) (by omega)
  have cl2 := qW (L.getD h default) (by have := b3 _ (aL (d := default) (show h < L.length by omega)); omega)
  have cBy := (Ag (gT b h) F.l1 (by simp [gT]) (by simp [gT]) F.l4 (Nat.zero_le _) (fun w hw => by rw [List.mem_singleton.1 hw]; exact hn)).sub fun γ w => .cons (.ag (Om b h)) .nil
  refine Rn.skip ?_; conv => whnf
  refine Rn.seq ?_; conv => whnf
  refine Rn.blk ?_; conv => whnf
  refine Rn.seqB ?_; conv => whnf
  repeat' first | ((first | refine Qz ?_ | refine Qf (cl1) ?_ | refine Qy ?_) <;> conv => whnf) | (refine WB.tt ?_; conv => whnf) | (refine WB.ff ?_; conv => whnf)
  refine SeqZ.u [(bM, some (.pl (NS b h) 0))] ?_ ?_
  · conv => whnf
    refine ShrB.of ?_ ?_ rfl rfl
    · (repeat' first | exact Rel.e | refine Rel.some ?_ ?_ ?_ | refine Rel.none ?_ ?_ | refine Rel.ee ?_ ?_)
      all_goals show Fz _ _ _ _
      all_goals first | exact Fq | exact ER | (refine .pt (r := [.i .i64 0, .i .i64 b.rws, .i .i64 b.pls, .i .i64 b.rch, .lst 1 (ints b.face), .sl (.i (.o .h)) 0 1 0 1, .sl (.o (.i .h)) 0 1 0 1, .lst 2 (aD bD b.brk), .ns]) (fun h => absurd (show (4 : Nat) < 4 from h) (by decide)) rfl (by simp) (KZ _ 0) ?_; exact .cons (.pu trivial) (.cons (.pu trivial) (.cons (.pu trivial) (.cons (.pu trivial) (.cons (.pu (aC _)) (.cons (Fz.whole (es := ints [b.sun.getD h 0]) (cur := 1) (fun h => absurd (show (5 : Nat) < 4 from h) (by decide)) rfl rfl (fun r hr => by obtain ⟨m, _, rfl⟩ := List.mem_map.1 hr; rfl) rfl (aC _)) (.cons (Fz.whole (es := aD eQ [b.winds.getD h default]) (cur := 1) (fun h => absurd (show (6 : Nat) < 4 from h) (by decide)) rfl rfl (fun r hr => by obtain ⟨m, _, rfl⟩ := List.mem_map.1 hr; rfl) rfl (aJ _)) (.cons (.pu (aG _)) (.cons (.pu trivial) .nil)))))))))
    · (repeat' first | exact Rel.e | refine Rel.some ?_ ?_ ?_ | refine Rel.none ?_ ?_ | refine Rel.ee ?_ ?_)
      all_goals refine ⟨?_, ?_⟩
      all_goals first | (focus (show Pos.nat _ < 4; simp [Pos.nat]; done)) | exact KG | exact Sq | (refine ShC.same ?_; (repeat' first | exact ShC.nl | refine ShC.cn ?_ ?_) <;> first | exact Fq | exact ER)
  conv => whnf
  repeat' first | ((first | refine Qz ?_ | refine Qf (cBy) ?_ | refine Qf (cl2) ?_ | refine WIx.rowsM (show h < L.length by omega) rfl ?_ | refine Qy ?_) <;> conv => whnf) | (refine WB.tt ?_; conv => whnf) | (refine WB.ff ?_; conv => whnf)
  refine WCall.borrow1 cT (.o (.o .h)) (.cells false [.o (.lst 1 (ints (L.getD h default))) 0] 1) (.cons (.pu (aS _)) (.cons (Frz.whole (cur := 1) (es := aD eQ [L.getD h default]) rfl rfl (fun r hr => by obtain ⟨m, _, rfl⟩ := List.mem_map.1 hr; rfl) rfl (aJ _)) .nil)) ⟨⟨trivial, trivial, trivial⟩, trivial, trivial⟩ rfl rfl ?_
  conv => whnf
  repeat' first | ((first | refine Qz ?_ | with_reducible (first | refine Qm ?_ | refine Qn ?_ | refine Qo ?_ | refine Qp ?_ | refine WB.nt ?_ | refine WB.nf ?_ | refine WB.dec (fun h => ?_) (fun h => ?_) | refine WB.ndec (fun h => ?_) (fun h => ?_)) | refine WB.mk (fun h => ?_) (fun h => ?_)) <;> conv => whnf) | (refine WB.tt ?_; conv => whnf) | (refine WB.ff ?_; conv => whnf)
  refine AgainB.v (h + 1) (by omega) (show h + 1 ≤ (b.last + 1).toNat by omega) (Nat.le_refl _) (by assumption) ?_
  rw [z1, z2]
  conv => whnf
  refine Shr.of ?_ ?_ rfl rfl
  · (repeat' first | exact Rel.e | refine Rel.some ?_ ?_ ?_ | refine Rel.none ?_ ?_ | refine Rel.ee ?_ ?_)
    all_goals show Fz _ _ _ _
    all_goals first | exact Fq | exact ER
  · (repeat' first | exact Rel.e | refine Rel.some ?_ ?_ ?_ | refine Rel.none ?_ ?_ | refine Rel.ee ?_ ?_)
    all_goals refine Hx ?_
    all_goals first | exact Sq | (refine ShC.same ?_; (repeat' first | exact ShC.nl | refine ShC.cn ?_ ?_) <;> first | exact Fq | exact ER)
theorem main_windHours (AW : PureF Tryz.prog p22.ix [] (.b true)) {es : List D} (fit : FitP [(true, [.i .i64, .i .i64, .i .i64, .i .i64, .sl [.i .i64], .sl [.i .i64], .sl [.sl [.i .i64]], .sl [.i .i64, .i .i64], .sl [.i .i64, .i .i64]]), (false, [.sl [.i .u16]])] es) : PureF Tryz.prog 10 es (.b true) := by
  obtain ⟨b, _, rfl, hb, g1⟩ := fit.beachW
  obtain ⟨ws, _, rfl, hu, g3⟩ := g1.nums
  obtain rfl := g3.no
  exact uY b ws (fun n hn => Hj (hu n hn)) AW
end Go.Ev
end
