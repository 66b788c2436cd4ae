import Derived.Test.YtkbgaadfednjpaaGreatDoorEvU5f
import Derived.Test.YtkbgaadfednjpaaGreatDoorEvUUp
import Derived.Test.YtkbgaadfednjpaaGreatDoorEvU4v0
import Derived.Test.YtkbgaadfednjpaaGreatDoorEvUIt
set_option linter.all false
set_option maxHeartbeats 8000000
noncomputable section
namespace Go.Ev
open Go.Proofs
set_option maxRecDepth 100000
theorem wQ (g : Int → Int → Int) (hg : ∀ x y, g x y = x ∨ g x y = y) {lo hi : Int} : ∀ (L : List Int) (a : Int), lo ≤ a ∧ a ≤ hi → (∀ x ∈ L, lo ≤ x ∧ x ≤ hi) → lo ≤ L.foldl g a ∧ L.foldl g a ≤ hi
  | [], _, ha, _ => ha
  | x :: L, a, ha, h => by
    rw [List.foldl_cons]
    refine wQ g hg L (g a x) ?_ fun y hy => h y (by simp [hy])
    rcases hg a x with e | e <;> rw [e]
    · exact ha
    · exact h x (by simp)
theorem DO (x y : Int) : min x y = x ∨ min x y = y := by omega
theorem Ga (x y : Int) : max x y = x ∨ max x y = y := by omega
theorem uX {f : Nat → Int} (hf : ∀ h, 0 ≤ f h ∧ f h ≤ 50) (l : Nat) : ∀ h : Nat, 0 ≤ iM f l h ∧ iM f l h ≤ 50 * h
  | 0 => by simp [iM]
  | h + 1 => by
    have h1 := uX hf l h
    have h2 := hf h
    unfold iM
    split <;> omega
structure KOk (kf : Pos) (κ : Hr → Int) : Prop where
  c : ∀ x, PureF Tryz.prog kf.ix [.ag (iN x)] (.i .i64 (κ x))
  bd : ∀ (x : Hr) (n : Int), (0 ≤ x.sun ∧ x.sun ≤ n) ∧ (0 ≤ x.calm ∧ x.calm ≤ n) ∧ (0 ≤ x.good ∧ x.good ≤ n) → 0 ≤ κ x ∧ κ x ≤ n
theorem KOk.sun : KOk p133 (fun x => x.sun) := ⟨IQ, fun _ _ h => h.1⟩
theorem KOk.calm : KOk p103 (fun x => x.calm) := ⟨GC, fun _ _ h => h.2.1⟩
theorem KOk.good : KOk p105 (fun x => x.good) := ⟨Gr, fun _ _ h => h.2.2⟩
theorem Ci {kf : Pos} {κ : Hr → Int} (K : KOk kf κ) (b : Bh) (S : Nat → Nat → Int) (P : List (Int × Int)) (hP : P.length ≤ 50) (h : Nat) : ∀ x ∈ kV b S P κ h, 0 ≤ x ∧ x ≤ 50 := fun x hx => by
  obtain ⟨d, _, rfl⟩ := List.mem_map.1 hx
  have h1 := K.bd _ _ (Bp b S P h d P.length)
  show 0 ≤ κ (qN b S P h d P.length) ∧ κ (qN b S P h d P.length) ≤ 50
  omega
theorem EO {L : List Int} (h : ∀ x ∈ L, 0 ≤ x ∧ x ≤ 50) : 0 ≤ L.getD 0 0 ∧ L.getD 0 0 ≤ 50 := by
  cases L with
  | nil => decide
  | cons a L => exact h a (by simp)
theorem vE {kf : Pos} {κ : Hr → Int} (K : KOk kf κ) (b : Bh) (S : Nat → Nat → Int) (P : List (Int × Int)) (hP : P.length ≤ 50) (h : Nat) : 0 ≤ qD b S P κ h ∧ qD b S P κ h ≤ 50 :=
  wQ min DO _ _ (EO (Ci K b S P hP h)) (Ci K b S P hP h)
theorem zS {kf : Pos} {κ : Hr → Int} (K : KOk kf κ) (b : Bh) (S : Nat → Nat → Int) (P : List (Int × Int)) (hP : P.length ≤ 50) (h : Nat) : 0 ≤ sB b S P κ h ∧ sB b S P κ h ≤ 50 :=
  wQ max Ga _ _ (EO (Ci K b S P hP h)) (Ci K b S P hP h)
def PN (b : Bh) (S : Nat → Nat → Int) (P : List (Int × Int)) (κ : Hr → Int) (l m : Nat) : List D := [.i .i64 (iM (qD b S P κ) l (l + m)), .i .i64 (iM (sB b S P κ) l (l + m))]
theorem LE (b : Bh) (V : VW b) (S : Nat → Nat → Int) {kf : Pos} {κ : Hr → Int} (K : KOk kf κ) (P : List (Int × Int)) (hP : ∀ p ∈ P, eG b p = true) (l4 : b.brk.length ≤ 1000) (hPl : P.length ≤ 50) (l m : Nat) (hi : Int) (hhi : hi = ((l + m : Nat) : Int) - 1) (hm : l + m ≤ (b.last + 1).toNat) (l6 : ∀ w ∈ b.winds, w.length ≤ 1000) (l5 : b.nts.length ≤ 1000) (hne : ∀ h, h < (b.last + 1).toNat → aK b h ≠ []) : PureF Tryz.prog p102.ix [.ag (dS b), .ag (cV S), .ag (Gp kf P l hi)] (.ag (PN b S P κ l m)) := by
  have q := V.last
  exact Ew b V S kf κ K.c P hP l4 hPl l m hi hhi hm l6 l5 hne (fun h hh => by have := uX (vE K b S P hPl) l h; omega) (fun h hh => by have := uX (zS K b S P hPl) l h; omega)
theorem rW (b : Bh) (V : VW b) (S : Nat → Nat → Int) {kf : Pos} {κ : Hr → Int} (K : KOk kf κ) (p : Int × Int) (hp : eG b p = true) (l4 : b.brk.length ≤ 1000) (l6 : ∀ w ∈ b.winds, w.length ≤ 1000) (l5 : b.nts.length ≤ 1000) (hne : ∀ h, h < (b.last + 1).toNat → aK b h ≠ []) : PureF Tryz.prog p132.ix [.fn kf [] [], .pl (dS b) 0, .pl (cV S) 0, .pl (bB p) 0] (.ag (PN b S [p] κ 0 (b.last + 1).toNat)) := by
  have q := V.last
  have cB := LE b V S K [p] (fun x hx => by rw [List.mem_singleton.1 hx]; exact hp) l4 (by simp) 0 (b.last + 1).toNat b.last (by omega) (by omega) l6 l5 hne
  refine PureF.run LA (by simp) (by simp [aR, Pu, aQ, fO, bB]) ?_; conv => whnf
  repeat' first | ((first | refine Qz ?_ | refine Qy ?_) <;> conv => whnf) | (refine WB.tt ?_; conv => whnf) | (refine WB.ff ?_; conv => whnf)
  refine WCall.borrow cB (.cons ?_ (.cons ?_ (.cons ?_ .nil))) ⟨trivial, trivial, trivial⟩ ?_
  · exact .pu (aQ b)
  · exact .pu (fO S)
  · exact .ag (.cons (Frz.whole (cur := 1) (es := aC bB [p]) rfl rfl (fun r hr => by obtain ⟨m, _, rfl⟩ := List.mem_map.1 hr; rfl) rfl (aG _)) (.cons (.pu trivial) (.cons (.pu trivial) (.cons (.pu ⟨trivial, trivial⟩) .nil))))
  conv => whnf
  repeat' first | ((first | refine Qz ?_ | refine Qy ?_) <;> conv => whnf) | (refine WB.tt ?_; conv => whnf) | (refine WB.ff ?_; conv => whnf)
  exact ⟨.inr rfl, _, rfl, .pu ⟨trivial, trivial, trivial⟩⟩
theorem HS {B : Pos → Prop} {ob : T C} {d : D} (h : Pu d := by simp [Cell.d, Pu, aR, dP, aB, aG, aF, aQ, fO]; done) : Fz B ob d d := .pu h
def sY (b : Bh) (S : Nat → Nat → Int) (p : Int × Int) : Bnd := ⟨iM (qD b S [p] (fun x => x.sun)) 0 (0 + (b.last + 1).toNat), iM (qD b S [p] (fun x => x.calm)) 0 (0 + (b.last + 1).toNat), iM (sB b S [p] (fun x => x.calm)) 0 (0 + (b.last + 1).toNat), iM (qD b S [p] (fun x => x.good)) 0 (0 + (b.last + 1).toNat), iM (sB b S [p] (fun x => x.good)) 0 (0 + (b.last + 1).toNat)⟩
theorem GT (b : Bh) (V : VW b) (S : Nat → Nat → Int) (p : Int × Int) (hp : eG b p = true) (l4 : b.brk.length ≤ 1000) (l6 : ∀ w ∈ b.winds, w.length ≤ 1000) (l5 : b.nts.length ≤ 1000) (hne : ∀ h, h < (b.last + 1).toNat → aK b h ≠ []) : PureF Tryz.prog p95.ix [.ag (dS b), .ag (cV S), .ag (bB p)] (.ag (yY (sY b S p))) := by
  have c1 := rW b V S KOk.sun p hp l4 l6 l5 hne
  have c2 := rW b V S KOk.calm p hp l4 l6 l5 hne
  have c3 := rW b V S KOk.good p hp l4 l6 l5 hne
  refine PureF.run Og (by simp) (by simp [aR, Pu, aQ, fO, bB]) ?_; conv => whnf
  refine Rn.far rfl ?_
  refine RnF.seq ?_; conv => whnf
  repeat' first | ((first | refine Qz ?_ | refine Qy ?_) <;> conv => whnf) | (refine WB.tt ?_; conv => whnf) | (refine WB.ff ?_; conv => whnf)
  refine ⟨rfl, rfl, (by exact (show (1:Nat) ≤ _ from Nat.le_of_ble_eq_true rfl)), ?_⟩
  refine RnF.turnW (fun id => id = (.o (.o .h))) [(p4, some (.pl (dS b) 0)), (p5, some (.pl (cV S) 0)), (p6, some (.pl (bB p) 0)), (p7, some (.pt (.o (.o .h)) 0 0))] [((.o (.o .h)), some (.cells false [.o (.i .i64 0) 0, .o (.i .i64 0) 0, .o (.i .i64 0) 0, .o (.i .i64 0) 0, .o (.i .i64 0) 0] 1))] (.i (.o .h)) rfl ?_ ?_ ?_
  · intro id h
    have h : id = (.o (.o .h)) := h
    subst h <;> (show Pos.nat _ < Pos.nat _; decide)
  · conv => whnf
    refine ShrB.of ?_ ?_ rfl rfl
    · (repeat' first | exact Rel.e | refine Rel.some ?_ ?_ ?_ | refine Rel.none ?_ ?_ | refine Rel.ee ?_ ?_)
      all_goals show Fz _ _ _ _
      all_goals first | exact Fq | exact Fz.ptr (r := dS b) (fun h => by cases h) rfl rfl (by simp [dS]) (aQ b) | exact Fz.ptr (r := cV S) (fun h => by cases h) rfl rfl (by simp [cV]) (fO S) | exact Fz.ptr (r := bB p) (fun h => by cases h) rfl rfl (by simp [bB]) (tL p) | exact HS
    · (repeat' first | exact Rel.e | refine Rel.some ?_ ?_ ?_ | refine Rel.none ?_ ?_ | refine Rel.ee ?_ ?_)
      all_goals refine ⟨?_, ?_⟩
      all_goals first | (focus (first | rfl | (simp [Pos.nat]; done))) | exact Sq | (refine ShC.same ?_; (repeat' first | exact ShC.nl | refine ShC.cn ?_ ?_) <;> first | exact Fq | exact Fz.ptr (r := dS b) (fun h => by cases h) rfl rfl (by simp [dS]) (aQ b) | exact Fz.ptr (r := cV S) (fun h => by cases h) rfl rfl (by simp [cV]) (fO S) | exact Fz.ptr (r := bB p) (fun h => by cases h) rfl rfl (by simp [bB]) (tL p) | exact HS)
  conv => whnf
  repeat' first | ((first | refine Qz ?_ | refine Qf (c1) ?_ | refine Qf (c2) ?_ | refine Qf (c3) ?_ | refine Qy ?_) <;> conv => whnf) | (refine WB.tt ?_; conv => whnf) | (refine WB.ff ?_; conv => whnf)
  exact ⟨.inr rfl, _, rfl, .pu ⟨trivial, trivial, trivial, trivial, trivial, trivial⟩⟩
theorem Cw (b : Bh) (V : VW b) (S : Nat → Nat → Int) (r p : Nat) (hr : r < b.rws.toNat) (hp : p < b.pls.toNat) (l4 : b.brk.length ≤ 1000) (l6 : ∀ w ∈ b.winds, w.length ≤ 1000) (l5 : b.nts.length ≤ 1000) (hne : ∀ h, h < (b.last + 1).toNat → aK b h ≠ []) : PureF Tryz.prog p94.ix [.ag [.i .i64 (r : Int), .i .i64 (p : Int)], .pl (dS b) 0, .pl (cV S) 0] (.ag (yY (sY b S ((r : Int), (p : Int))))) := by
  have cP := GT b V S ((r : Int), (p : Int)) (xQ hr hp) l4 l6 l5 hne
  refine PureF.run NH (by simp) (by simp [aR, Pu, aQ, fO]) ?_; conv => whnf
  repeat' first | ((first | refine Qz ?_ | refine Qf (cP) ?_ | refine Qy ?_) <;> conv => whnf) | (refine WB.tt ?_; conv => whnf) | (refine WB.ff ?_; conv => whnf)
  exact ⟨.inr rfl, _, rfl, .pu ⟨trivial, trivial, trivial, trivial, trivial, trivial⟩⟩
theorem CZ (b : Bh) (L : List (List Int)) (hb : i64 b.last) (h1 : L.length ≤ 1000) (h2 : ∀ w ∈ L, w.length ≤ 1000) : PureF Tryz.prog p82.ix [.ag (dS b), .lst 1 (aC bZ L)] (.b (gU b L)) := by
  have hb1 := hb.1
  have hb2 := hb.2
  by_cases h : b.last + 1 ≤ 9223372036854775807
  · exact rU b L ⟨by omega, h⟩ h1 h2
  have hl : b.last = 9223372036854775807 := by omega
  have hp : gU b L = false := by
    unfold gU
    rw [decide_eq_false (by omega)]; rfl
  have e1 := aI bZ L
  rw [hp]
  refine PureF.run KE (by simp) (by simp [aR, Pu, aQ, aF]) ?_; conv => whnf
  refine Rn.seq ?_; conv => whnf
  refine Rn.reg ?_; conv => whnf
  refine Rn.seq ?_; conv => whnf
  refine Rn.regN 5 ?_; conv => whnf
  refine WReg.cons (GR.add (m := b.last) (n := 1) (v := -9223372036854775808) (by rfl) (by rfl) (by rw [hl]; rfl)) ?_
  refine WReg.at ?_; conv => whnf
  repeat' first | ((first | refine Qz ?_ | with_reducible (first | refine Qm ?_ | refine Qn ?_ | refine Qo ?_ | refine Qp ?_ | refine WB.nt ?_ | refine WB.nf ?_ | refine WB.dec (fun h => ?_) (fun h => ?_) | refine WB.ndec (fun h => ?_) (fun h => ?_)) | refine WB.mk (fun h => ?_) (fun h => ?_)) <;> conv => whnf) | (refine WB.tt ?_; conv => whnf) | (refine WB.ff ?_; conv => whnf)
  exact Fin.b rfl rfl
theorem qW {b : Bh} (h : kE b = true) : ∀ i, i < (b.last + 1).toNat → aK b i ≠ [] := fun i hi => by
  obtain ⟨c, hc, _⟩ := List.any_eq_true.1 h
  have h1 := (nE.1 hc).1 i (Nat.zero_le _) (by unfold hrs; omega)
  intro e
  rw [e] at h1
  cases h1
theorem oV (b : Bh) (L : List (List Int)) (l1 : b.face.length ≤ 1000) (l2 : b.sun.length ≤ 1000) (l3 : b.winds.length ≤ 1000) (l6 : ∀ w ∈ b.winds, w.length ≤ 1000) (h1 : L.length ≤ 1000) (h2 : ∀ w ∈ L, w.length ≤ 1000) (hb : i64 b.last) (he : pI b (gU b L) (kE b) ≠ 0) : PureF Tryz.prog p36.ix [.ag (dS b), .lst 1 (aC bZ L)] (.tp [.lst 1 [], .i .i64 (pI b (gU b L) (kE b))]) := by
  have cP := CZ b L hb h1 h2
  have cS := Cm b (gU b L) l1 l2 l3 l6
  have e1 : sE b (gU b L) (kE b) = HW := if_neg he
  rw [e1] at cS
  refine PureF.run Kg (by simp) (by simp [aR, dP, Pu, aQ, aF]) ?_; conv => whnf
  repeat' first | ((first | refine Qz ?_ | refine Qf (cP) ?_ | refine Qf (cS) ?_ | with_reducible (first | refine Qm ?_ | refine Qn ?_ | refine Qo ?_ | refine Qp ?_ | refine WB.nt ?_ | refine WB.nf ?_ | refine WB.dec (fun h => ?_) (fun h => ?_) | refine WB.ndec (fun h => ?_) (fun h => ?_)) | refine WB.mk (fun h => ?_) (fun h => ?_)) <;> conv => whnf) | (refine WB.tt ?_; conv => whnf) | (refine WB.ff ?_; conv => whnf)
  exact Fin.two (.inr rfl) rfl rfl .ns (.pu trivial)
theorem Di (b : Bh) (L : List (List Int)) (l1 : b.face.length ≤ 1000) (l2 : b.sun.length ≤ 1000) (l3 : b.winds.length ≤ 1000) (l6 : ∀ w ∈ b.winds, w.length ≤ 1000) (h1 : L.length ≤ 1000) (h2 : ∀ w ∈ L, w.length ≤ 1000) (hf : aV b = 0) (hp : gU b L = true) (hh : kE b = true) : PureF Tryz.prog p36.ix [.ag (dS b), .lst 1 (aC bZ L)] (.tp [.lst 1 (aC eB (jT (fun r p => sY b (bY L) ((r : Int), (p : Int))) b.rws.toNat b.pls.toNat)), .i .i64 0]) := by
  have Z := gA hf
  have V := Z.v
  have hv := V.last
  have hr := V.rws
  have cP := rU b L (by omega) h1 h2
  have cS := Cm b true l1 l2 l3 l6
  have e2 : pI b true (kE b) = 0 := by unfold pI; rw [if_pos hf, hh]; rfl
  have e1 : sE b true (kE b) = dS b := if_pos e2
  rw [e1, e2] at cS
  rw [hp] at cP
  obtain ⟨p1, p2⟩ := kJ.1 hp
  have cC := pS L (by omega) (fun w hw => by have := (p2 w hw).1; omega)
  have hne := qW hh
  have cB := Jh b V p94 [] [.pl (dS b) 0, .pl (cV (bY L)) 0] (fun r p => sY b (bY L) ((r : Int), (p : Int))) trivial (by simp [aR, Pu, aQ, fO]) (fun r p hr hp => Cw b V (bY L) r p hr hp (by have := Z.l4; omega) l6 (by have := Z.l5; omega) hne)
  have cB : PureF Tryz.prog p93.ix [.ag (dS b), .fn p94 [] [.pl (dS b) 0, .pl (cV (bY L)) 0]] (.lst 1 (aC eB (jT (fun r p => sY b (bY L) ((r : Int), (p : Int))) b.rws.toNat b.pls.toNat))) := cB
  refine PureF.run Kg (by simp) (by simp [aR, dP, Pu, aQ, aF]) ?_; conv => whnf
  refine Rn.far rfl ?_
  refine RnF.seq ?_; conv => whnf
  repeat' first | ((first | refine Qz ?_ | refine Qy ?_) <;> conv => whnf) | (refine WB.tt ?_; conv => whnf) | (refine WB.ff ?_; conv => whnf)
  refine ⟨rfl, rfl, (by exact (show (1:Nat) ≤ _ from Nat.le_of_ble_eq_true rfl)), ?_⟩
  refine RnF.seq ?_; conv => whnf
  repeat' first | ((first | refine Qz ?_ | refine Qf (cP) ?_ | refine Qf (cS) ?_ | refine Qy ?_) <;> conv => whnf) | (refine WB.tt ?_; conv => whnf) | (refine WB.ff ?_; conv => whnf)
  refine ⟨rfl, rfl, (by exact (show (1:Nat) ≤ _ from Nat.le_of_ble_eq_true rfl)), ?_⟩
  refine RnF.seq ?_; conv => whnf
  repeat' first | ((first | refine Qz ?_ | with_reducible (first | refine Qm ?_ | refine Qn ?_ | refine Qo ?_ | refine Qp ?_ | refine WB.nt ?_ | refine WB.nf ?_ | refine WB.dec (fun h => ?_) (fun h => ?_) | refine WB.ndec (fun h => ?_) (fun h => ?_)) | refine WB.mk (fun h => ?_) (fun h => ?_)) <;> conv => whnf) | (refine WB.tt ?_; conv => whnf) | (refine WB.ff ?_; conv => whnf)
  refine ⟨rfl, rfl, (by exact (show (1:Nat) ≤ _ from Nat.le_of_ble_eq_true rfl)), ?_⟩
  refine RnF.seq ?_; conv => whnf
  repeat' first | ((first | refine Qz ?_ | refine Qf (cC) ?_ | refine Qy ?_) <;> conv => whnf) | (refine WB.tt ?_; conv => whnf) | (refine WB.ff ?_; conv => whnf)
  refine ⟨rfl, rfl, (by exact (show (1:Nat) ≤ _ from Nat.le_of_ble_eq_true rfl)), ?_⟩
  refine RnF.turnV [(p7, some (.pl (dS b) 0)), (p9, some (.pl (cV (bY L)) 0))] rfl ?_ ?_
  · conv => whnf
    refine ShrB.of ?_ ?_ rfl rfl
    · (repeat' first | exact Rel.e | refine Rel.some ?_ ?_ ?_ | refine Rel.none ?_ ?_ | refine Rel.ee ?_ ?_)
      all_goals show Fz _ _ _ _
      all_goals first | exact Fq | exact Frz.ptr (r := dS b) rfl rfl (by simp [dS]) (aQ b) | exact Frz.ptr (r := cV (bY L)) rfl rfl (by simp [cV]) (fO _) | exact HS
    · (repeat' first | exact Rel.e | refine Rel.some ?_ ?_ ?_ | refine Rel.none ?_ ?_ | refine Rel.ee ?_ ?_)
  conv => whnf
  repeat' first | ((first | refine Qz ?_ | refine Qf (cB) ?_ | refine Qy ?_) <;> conv => whnf) | (refine WB.tt ?_; conv => whnf) | (refine WB.ff ?_; conv => whnf)
  exact ⟨.inr rfl, _, rfl, .pu ⟨iI dR _, trivial, trivial⟩⟩
theorem Gu {B : Pos → Prop} {ob : T C} {d : D} (h : Pu d := by simp [Cell.d, Pu, aR, dP, aB, aG, aF, aQ]; done) : Fz B ob d d := .pu h
theorem Jr (d l : Nat) : Int.tmod (d : Int) (l : Int) = ((d % l : Nat) : Int) := by
  rw [Int.tmod_eq_emod_of_nonneg (by omega), Int.natCast_emod]
theorem Lb (d l : Nat) : Int.tdiv (d : Int) (l : Int) = ((d / l : Nat) : Int) := by
  rw [Int.tdiv_eq_ediv_of_nonneg (by omega), Int.natCast_ediv]
def AR (ws : List (List Int)) (m : Nat) : Nat → Nat
  | 0 => m
  | j + 1 => AR ws m j / (ws.getD j default).length
theorem An (ws : List (List Int)) (m : Nat) : ∀ j, AR ws m j ≤ m
  | 0 => Nat.le_refl _
  | j + 1 => Nat.le_trans (Nat.div_le_self _ _) (An ws m j)
def vD (ws : List (List Int)) (m : Nat) (j : Nat) : List Int := (List.range j).map fun i => (ws.getD i default).getD (AR ws m i % (ws.getD i default).length) 0
theorem FN (ws : List (List Int)) (m j : Nat) : vD ws m (j + 1) = vD ws m j ++ [(ws.getD j default).getD (AR ws m j % (ws.getD j default).length) 0] := by
  unfold vD; rw [List.range_succ, List.map_append]; rfl
theorem He (ws : List (List Int)) (m j : Nat) : (vD ws m j).length = j := by simp [vD]
set_option maxHeartbeats 2000000 in
theorem Kk (b : Bh) (m : Nat) (hm : m ≤ 100000) (h3 : b.winds.length ≤ 1000) (hw : ∀ w ∈ b.winds, 0 < w.length ∧ w.length ≤ 1000) : PureF Tryz.prog p68.ix [.ag (dS b), .i .i64 (m : Int)] (.lst 1 (ints (vD b.winds m b.winds.length))) := by
  have e1 := aI bZ b.winds
  refine PureF.run OV (by simp) (by simp [aR, dP, Pu, aQ]) ?_; conv => whnf
  repeat' first | ((first | refine Qz ?_ | refine Qy ?_) <;> conv => whnf) | (refine WB.tt ?_; conv => whnf) | (refine WB.ff ?_; conv => whnf)
  refine Rn.loopV [(p2, none), (p6, none), (p7, none), (p8, none), (p9, none), (aY, none), (bJ, none), (bC, none), (aW, none), (bH, none), (bO, none), (bU, none), (cU, none), (dA, none), (dK, none), (p20, none), (p21, none), (p22, none), (eC, none), (p24, none), (p25, none), (p26, none), (fF, none), (p28, none), (p29, none), (p30, none), (p31, none), (p32, none), (iB, none), (p34, none)] (fun j : Nat => [(p2, some (.i .i64 (AR b.winds m j : Int))), (p6, some (tB (.i .h) 1 (vD b.winds m j))), (p7, some (.i .i64 (j : Int)))]) (fun j : Nat => [((.i .h), tM Bb (vD b.winds m j))]) (fun j : Nat => eQ (.o .h) (.o (.o .h)) (vD b.winds m j)) (fun j : Nat => j ≤ b.winds.length) (fun j : Nat => b.winds.length - j) 0 ?_ ?_ ?_
  · conv => whnf
    (refine X.le.mk ?_ ?_ (Nat.le_refl _) rfl rfl) <;> (repeat' first | exact T.le_e _ | refine T.le_some ?_ rfl ?_ | refine T.le_none ?_ ?_ | refine T.le_ee ?_ ?_)
  rotate_left
  intro xl1 hxl1
  rotate_right
  · exact Nat.zero_le _
  intro j hj
  have hj : j ≤ b.winds.length := hj
  have hsc0 := FN b.winds m j
  have hAl : (vD b.winds m j).length ≤ j := by rw [He]; exact Nat.le_refl _
  have hd := An b.winds m j
  have hz : AR b.winds m (j + 1) = AR b.winds m j / (b.winds.getD j default).length := rfl
  have hend : j = b.winds.length → vD b.winds m j = vD b.winds m b.winds.length := fun h => by rw [← h]
  generalize hA : vD b.winds m j = A at *
  generalize hQ : AR b.winds m j = q at *
  conv => whnf
  repeat' first | ((first | refine Qz ?_ | refine Qy ?_) <;> conv => whnf) | (refine WB.tt ?_; conv => whnf) | (refine WB.ff ?_; conv => whnf)
  refine WB.dec (fun hd2 => ?_) (fun hd2 => ?_) <;> conv => whnf
  · have hlt : j < b.winds.length := by omega
    have hsc := hsc0
    obtain ⟨w1, w2⟩ := hw _ (aN (d := default) hlt)
    have e2 := aO (b.winds.getD j default)
    have hq1 : Int.tdiv (q : Int) ((ints (b.winds.getD j default)).length : Int) = ((AR b.winds m (j + 1) : Nat) : Int) := by rw [e2, Lb, hz]
    have hq2 := An b.winds m (j + 1)
    have hm2 : q % (b.winds.getD j default).length < (b.winds.getD j default).length := Nat.mod_lt _ w1
    have hq3 : Int.tmod (q : Int) ((ints (b.winds.getD j default)).length : Int) = ((q % (b.winds.getD j default).length : Nat) : Int) := by rw [e2, Jr]
    cases A with
    | nil =>
      repeat' first | ((first | refine Qz ?_ | refine WIx.intsE hq3 hm2 ?_ | refine Qy ?_) <;> conv => whnf) | (refine WB.tt ?_; conv => whnf) | (refine WB.ff ?_; conv => whnf)
      refine WSt.app_firstL (r := Bb ((b.winds.getD j default).getD (q % (b.winds.getD j default).length) 0)) (by rfl) (.inl rfl) (by rfl) (by rfl) (by rfl) (by rfl) ?_; conv => whnf
      repeat' first | ((first | refine Qz ?_ | refine And.intro (show InR _ _ by rw [hq1]; exact InR.i64 (by omega) (by omega)) ?_ | refine Qy ?_) <;> conv => whnf) | (refine WB.tt ?_; conv => whnf) | (refine WB.ff ?_; conv => whnf)
      refine AgainB.v (j + 1) (by omega) (show j + 1 ≤ b.winds.length by omega) (by show Pos.nat _ ≤ Pos.nat _; simp only [hA, hsc, eQ, List.cons_append, List.nil_append] <;> decide) (by assumption) ?_
      rw [hsc]
      conv => whnf
      refine Shr.of ?_ ?_ rfl rfl
      · (repeat' first | exact Rel.e | refine Rel.some ?_ ?_ ?_ | refine Rel.none ?_ ?_ | refine Rel.ee ?_ ?_)
        all_goals show Fz _ _ _ _
        all_goals first | exact Fq | exact Fz.i hq1 | exact Gu
      · (repeat' first | exact Rel.e | refine Rel.some ?_ ?_ ?_ | refine Rel.none ?_ ?_ | refine Rel.ee ?_ ?_)
        all_goals refine BZ ?_
        all_goals first | exact ShC.na zD _ | exact Sq | (refine ShC.same ?_; (repeat' first | exact ShC.nl | refine ShC.cn ?_ ?_) <;> first | exact Fq | exact Fz.i hq1 | exact Gu)
    | cons a s =>
      have hs5 : s.length + 1 ≤ 1000 := Nat.le_trans hAl (by omega)
      repeat' first | ((first | refine Qz ?_ | refine WIx.intsE hq3 hm2 ?_ | refine Qy ?_) <;> conv => whnf) | (refine WB.tt ?_; conv => whnf) | (refine WB.ff ?_; conv => whnf)
      refine WSt.app_oneL (id := (.i .h)) (ds := (aC Bb (a :: s)).flatten) (r := Bb ((b.winds.getD j default).getD (q % (b.winds.getD j default).length) 0)) (by rfl) (by rfl) (by rfl) (by rfl) (by rfl) (by rfl) (by rw [dC (z := 1) Gv]; rfl) (by rfl) (by rfl) (by omega) (by rfl) ?_; conv => whnf
      repeat' first | ((first | refine Qz ?_ | refine And.intro (show InR _ _ by rw [hq1]; exact InR.i64 (by omega) (by omega)) ?_ | refine Qy ?_) <;> conv => whnf) | (refine WB.tt ?_; conv => whnf) | (refine WB.ff ?_; conv => whnf)
      refine AgainB.v (j + 1) (by omega) (show j + 1 ≤ b.winds.length by omega) (by show Pos.nat _ ≤ Pos.nat _; simp only [hA, hsc, eQ, List.cons_append, List.nil_append] <;> decide) (by assumption) ?_
      rw [hsc, List.cons_append]
      conv => whnf
      (try rw [dX])
      (try rw [dZ])
      refine Shr.of ?_ ?_ rfl rfl
      · (repeat' first | exact Rel.e | refine Rel.some ?_ ?_ ?_ | refine Rel.none ?_ ?_ | refine Rel.ee ?_ ?_)
        all_goals show Fz _ _ _ _
        all_goals first | exact Fq | exact Fz.i hq1 | exact Gu
      · (repeat' first | exact Rel.e | refine Rel.some ?_ ?_ ?_ | refine Rel.none ?_ ?_ | refine Rel.ee ?_ ?_)
        all_goals refine BZ ?_
        all_goals first | exact ShC.ca zD _ _ | exact Sq | (refine ShC.same ?_; (repeat' first | exact ShC.nl | refine ShC.cn ?_ ?_) <;> first | exact Fq | exact Fz.i hq1 | exact Gu)
  · repeat' first | ((first | refine Qz ?_ | refine Qy ?_) <;> conv => whnf) | (refine WB.tt ?_; conv => whnf) | (refine WB.ff ?_; conv => whnf)
    rw [← hend (by omega)]
    exact Fin.t (.inr rfl) rfl (Fz.G A (fun h => h) (fun c h => h) Gv zD)
theorem xH {B : Pos → Prop} {ob : T C} {d : D} (h : Pu d := by simp [Cell.d, Pu, aR, dP, aB, aG, aF, aQ]; done) : Fz B ob d d := .pu h
def Gi (b : Bh) (m : Nat) : List Int := vD b.winds m b.winds.length
def mD (b : Bh) (j : Nat) : List (List Int) := ((List.range j).map (Gi b)).filter (yC b)
theorem Dq (b : Bh) (j : Nat) : mD b (j + 1) = if yC b (Gi b j) = true then mD b j ++ [Gi b j] else mD b j := by
  unfold mD
  rw [List.range_succ, List.map_append, List.filter_append]
  cases h : yC b (Gi b j) <;> simp [h]
theorem xF (b : Bh) (j : Nat) : (mD b j).length ≤ j := by
  unfold mD
  exact Nat.le_trans (List.length_filter_le _ _) (by simp)
def jX (b : Bh) : Nat := (iC b.winds b.winds.length).toNat
def dB (b : Bh) : List (List Int) := mD b (jX b)
theorem VW.win {b : Bh} (V : VW b) (l6 : ∀ w ∈ b.winds, w.length ≤ 1000) : ∀ w ∈ b.winds, 0 < w.length ∧ w.length ≤ 1000 := fun w hw => ⟨(iP.1 (List.all_eq_true.1 V.wins _ hw)).2.1, l6 w hw⟩
structure Thn (b : Bh) : Prop where
  f : ThF b
  m : aV b = 0 → 0 ≤ iC b.winds b.winds.length ∧ iC b.winds b.winds.length ≤ 80
  w7 : b.winds.length ≤ 7
  w5 : ∀ w ∈ b.winds, w.length ≤ 5
theorem HG {b : Bh} (h : rG b = true) : Thn b := by
  have F := II h
  unfold rG at h
  simp only [Bool.and_eq_true, Bool.or_eq_true, decide_eq_true_iff] at h
  obtain ⟨a1, a2, a3, a4, a5, a6⟩ := h
  obtain ⟨b1, b2⟩ := qU a3
  refine ⟨F, fun hf => ?_, b1, b2⟩
  rcases a6 with a6 | a6
  · exact absurd hf a6
  · exact ⟨(vK b2 _ (Nat.le_refl _)).1, a6⟩
set_option maxHeartbeats 2000000 in
theorem yO (b : Bh) (N : Thn b) (hf : aV b = 0) : PureF Tryz.prog p65.ix [.ag (dS b)] (.lst 1 (aC bZ (dB b))) := by
  have V := (gA hf).v
  obtain ⟨m1, m2⟩ := N.m hf
  have l6 := N.f.l6
  have cM := DI b N.w7 N.w5
  have eM : ((jX b : Nat) : Int) = iC b.winds b.winds.length := by unfold jX; omega
  rw [← eM] at cM
  have hM : jX b ≤ 80 := by omega
  refine PureF.run OY (by simp) (by simp [aR, dP, Pu, aQ]) ?_; conv => whnf
  repeat' first | ((first | refine Qz ?_ | refine Qy ?_) <;> conv => whnf) | (refine WB.tt ?_; conv => whnf) | (refine WB.ff ?_; conv => whnf)
  refine Rn.loopV [(p4, none), (p5, none), (p6, none), (p7, none), (p8, none), (p9, none), (aY, none), (bJ, none), (bC, none), (aW, none), (bH, none), (bO, none), (bU, none), (cU, none), (dA, none), (dK, none), (p20, none), (p21, none), (p22, none)] (fun j : Nat => [(p4, some (tB (.i .h) 1 (mD b j))), (p5, some (.i .i64 (j : Int)))]) (fun j : Nat => [((.i .h), tM bZ (mD b j))]) (fun j : Nat => eQ (.o .h) (.o (.o .h)) (mD b j)) (fun j : Nat => j ≤ jX b) (fun j : Nat => jX b - j) 0 ?_ ?_ ?_
  · conv => whnf
    (refine X.le.mk ?_ ?_ (Nat.le_refl _) rfl rfl) <;> (repeat' first | exact T.le_e _ | refine T.le_some ?_ rfl ?_ | refine T.le_none ?_ ?_ | refine T.le_ee ?_ ?_)
  rotate_left
  intro xl1 hxl1
  rotate_right
  · exact Nat.zero_le _
  intro j hj
  have hj : j ≤ jX b := hj
  have hsc0 := Dq b j
  have hAl := xF b j
  have hend : j = jX b → mD b j = dB b := fun h => by rw [h]; rfl
  generalize hA : mD b j = A at *
  conv => whnf
  repeat' first | ((first | refine Qz ?_ | refine Qf (cM) ?_ | refine Qy ?_) <;> conv => whnf) | (refine WB.tt ?_; conv => whnf) | (refine WB.ff ?_; conv => whnf)
  refine WB.dec (fun hd2 => ?_) (fun hd2 => ?_) <;> conv => whnf
  · have hlt : j < jX b := by omega
    have cN := Kk b j (by omega) N.f.l3 (V.win l6)
    have cT := Da b V (Gi b j) l6 N.f.l5
    have cN : PureF Tryz.prog p68.ix [.ag (dS b), .i .i64 (j : Int)] (.lst 1 (ints (Gi b j))) := cN
    have pn := aB (Gi b j)
    cases ht : yC b (Gi b j) with
    | true =>
      rw [ht] at cT
      have hsc : mD b (j + 1) = A ++ [Gi b j] := by rw [hsc0, if_pos ht]
      generalize Gi b j = t at *
      cases A with
      | nil =>
        repeat' first | ((first | refine Qz ?_ | refine Qf (cN) ?_ | refine Qf (cT) ?_ | refine Qy ?_) <;> conv => whnf) | (refine WB.tt ?_; conv => whnf) | (refine WB.ff ?_; conv => whnf)
        refine WSt.app_first (r := bZ t) (by rfl) (.inl rfl) (by rfl) (by rfl) (by rfl) (by rfl) ?_; conv => whnf
        repeat' first | ((first | refine Qz ?_ | refine Qy ?_) <;> conv => whnf) | (refine WB.tt ?_; conv => whnf) | (refine WB.ff ?_; conv => whnf)
        refine AgainB.v (j + 1) (by omega) (show j + 1 ≤ jX b by omega) (by show Pos.nat _ ≤ Pos.nat _; simp only [hA, hsc, eQ, List.cons_append, List.nil_append] <;> decide) (by assumption) ?_
        rw [hsc]
        conv => whnf
        refine Shr.of ?_ ?_ rfl rfl
        · (repeat' first | exact Rel.e | refine Rel.some ?_ ?_ ?_ | refine Rel.none ?_ ?_ | refine Rel.ee ?_ ?_)
          all_goals show Fz _ _ _ _
          all_goals first | exact Fq | exact xH
        · (repeat' first | exact Rel.e | refine Rel.some ?_ ?_ ?_ | refine Rel.none ?_ ?_ | refine Rel.ee ?_ ?_)
          all_goals refine BZ ?_
          all_goals first | exact ShC.na Dk _ | exact Sq | (refine ShC.same ?_; (repeat' first | exact ShC.nl | refine ShC.cn ?_ ?_) <;> first | exact Fq | exact xH)
      | cons a s =>
        have hs5 : s.length + 1 ≤ 1000 := Nat.le_trans hAl (by omega)
        repeat' first | ((first | refine Qz ?_ | refine Qf (cN) ?_ | refine Qf (cT) ?_ | refine Qy ?_) <;> conv => whnf) | (refine WB.tt ?_; conv => whnf) | (refine WB.ff ?_; conv => whnf)
        refine WSt.app_one (id := (.i .h)) (ds := (aC bZ (a :: s)).flatten) (r := bZ t) (by rfl) (by rfl) (by rfl) (by rfl) (by rfl) (by rfl) (by rw [dC (z := 1) Io]; rfl) (by rfl) (by rfl) (by omega) (by rfl) ?_; conv => whnf
        repeat' first | ((first | refine Qz ?_ | refine Qy ?_) <;> conv => whnf) | (refine WB.tt ?_; conv => whnf) | (refine WB.ff ?_; conv => whnf)
        refine AgainB.v (j + 1) (by omega) (show j + 1 ≤ jX b by omega) (by show Pos.nat _ ≤ Pos.nat _; simp only [hA, hsc, eQ, List.cons_append, List.nil_append] <;> decide) (by assumption) ?_
        rw [hsc, List.cons_append]
        conv => whnf
        (try rw [dX])
        (try rw [dZ])
        refine Shr.of ?_ ?_ rfl rfl
        · (repeat' first | exact Rel.e | refine Rel.some ?_ ?_ ?_ | refine Rel.none ?_ ?_ | refine Rel.ee ?_ ?_)
          all_goals show Fz _ _ _ _
          all_goals first | exact Fq | exact xH
        · (repeat' first | exact Rel.e | refine Rel.some ?_ ?_ ?_ | refine Rel.none ?_ ?_ | refine Rel.ee ?_ ?_)
          all_goals refine BZ ?_
          all_goals first | exact ShC.ca Dk _ _ | exact Sq | (refine ShC.same ?_; (repeat' first | exact ShC.nl | refine ShC.cn ?_ ?_) <;> first | exact Fq | exact xH)
    | false =>
      rw [ht] at cT
      have hsc : mD b (j + 1) = A := by rw [hsc0, if_neg (by rw [ht]; decide)]
      cases A with
      | nil =>
        repeat' first | ((first | refine Qz ?_ | refine Qf (cN) ?_ | refine Qf (cT) ?_ | refine Qy ?_) <;> conv => whnf) | (refine WB.tt ?_; conv => whnf) | (refine WB.ff ?_; conv => whnf)
        refine AgainB.v (j + 1) (by omega) (show j + 1 ≤ jX b by omega) (by show Pos.nat _ ≤ Pos.nat _; simp only [hA, hsc, eQ, List.cons_append, List.nil_append] <;> decide) (by assumption) ?_
        rw [hsc]
        conv => whnf
        refine Shr.of ?_ ?_ rfl rfl
        · (repeat' first | exact Rel.e | refine Rel.some ?_ ?_ ?_ | refine Rel.none ?_ ?_ | refine Rel.ee ?_ ?_)
          all_goals show Fz _ _ _ _
          all_goals first | exact Fq | exact xH
        · (repeat' first | exact Rel.e | refine Rel.some ?_ ?_ ?_ | refine Rel.none ?_ ?_ | refine Rel.ee ?_ ?_)
          all_goals refine BZ ?_
          all_goals first | exact Sq | (refine ShC.same ?_; (repeat' first | exact ShC.nl | refine ShC.cn ?_ ?_) <;> first | exact Fq | exact xH)
      | cons a s =>
        repeat' first | ((first | refine Qz ?_ | refine Qf (cN) ?_ | refine Qf (cT) ?_ | refine Qy ?_) <;> conv => whnf) | (refine WB.tt ?_; conv => whnf) | (refine WB.ff ?_; conv => whnf)
        refine AgainB.v (j + 1) (by omega) (show j + 1 ≤ jX b by omega) (by show Pos.nat _ ≤ Pos.nat _; simp only [hA, hsc, eQ, List.cons_append, List.nil_append] <;> decide) (by assumption) ?_
        rw [hsc]
        conv => whnf
        refine Shr.of ?_ ?_ rfl rfl
        · (repeat' first | exact Rel.e | refine Rel.some ?_ ?_ ?_ | refine Rel.none ?_ ?_ | refine Rel.ee ?_ ?_)
          all_goals show Fz _ _ _ _
          all_goals first | exact Fq | exact xH
        · (repeat' first | exact Rel.e | refine Rel.some ?_ ?_ ?_ | refine Rel.none ?_ ?_ | refine Rel.ee ?_ ?_)
          all_goals refine BZ ?_
          all_goals first | exact ShC.G Dk a s | exact Sq | (refine ShC.same ?_; (repeat' first | exact ShC.nl | refine ShC.cn ?_ ?_) <;> first | exact Fq | exact xH)
  · repeat' first | ((first | refine Qz ?_ | refine Qy ?_) <;> conv => whnf) | (refine WB.tt ?_; conv => whnf) | (refine WB.ff ?_; conv => whnf)
    rw [← hend (by omega)]
    exact Fin.t (.inr rfl) rfl (Fz.G A (fun h => h) (fun c h => h) Io Dk)
theorem GX (b : Bh) (N : Thn b) (hf : aV b ≠ 0) : PureF Tryz.prog p37.ix [.ag (dS b)] (.tp [.lst 1 [], .i .i64 (aV b)]) := by
  have cF := qV b N.f.l1 N.f.l2 N.f.l3 N.f.l6
  refine PureF.run Iw (by simp) (by simp [aR, dP, Pu, aQ]) ?_; conv => whnf
  repeat' first | ((first | refine Qz ?_ | refine Qf (cF) ?_ | with_reducible (first | refine Qm ?_ | refine Qn ?_ | refine Qo ?_ | refine Qp ?_ | refine WB.nt ?_ | refine WB.nf ?_ | refine WB.dec (fun h => ?_) (fun h => ?_) | refine WB.ndec (fun h => ?_) (fun h => ?_)) | refine WB.mk (fun h => ?_) (fun h => ?_)) <;> conv => whnf) | (refine WB.tt ?_; conv => whnf) | (refine WB.ff ?_; conv => whnf)
  exact Fin.two (.inr rfl) rfl rfl .ns (.pu trivial)
theorem Bw (b : Bh) (N : Thn b) (hf : aV b = 0) (hn : dB b = []) : PureF Tryz.prog p37.ix [.ag (dS b)] (.tp [.lst 1 [], .i .i64 11]) := by
  have cF := qV b N.f.l1 N.f.l2 N.f.l3 N.f.l6
  have cT := yO b N hf
  rw [hf] at cF
  rw [hn] at cT
  have e0 : ((aC bZ []).length : Int) = 0 := rfl
  refine PureF.run Iw (by simp) (by simp [aR, dP, Pu, aQ]) ?_; conv => whnf
  repeat' first | ((first | refine Qz ?_ | refine Qf (cF) ?_ | refine Qf (cT) ?_ | with_reducible (first | refine Qm ?_ | refine Qn ?_ | refine Qo ?_ | refine Qp ?_ | refine WB.nt ?_ | refine WB.nf ?_ | refine WB.dec (fun h => ?_) (fun h => ?_) | refine WB.ndec (fun h => ?_) (fun h => ?_)) | refine WB.mk (fun h => ?_) (fun h => ?_)) <;> conv => whnf) | (refine WB.tt ?_; conv => whnf) | (refine WB.ff ?_; conv => whnf)
  exact Fin.two (.inr rfl) rfl rfl .ns (.pu trivial)
theorem AP (b : Bh) (N : Thn b) (hf : aV b = 0) (hn : dB b ≠ []) : PureF Tryz.prog p37.ix [.ag (dS b)] (.tp [.lst 1 (aC bZ (dB b)), .i .i64 0]) := by
  have cF := qV b N.f.l1 N.f.l2 N.f.l3 N.f.l6
  have cT := yO b N hf
  have e1 := aI bZ (dB b)
  have hp := List.length_pos_iff.2 hn
  rw [hf] at cF
  refine PureF.run Iw (by simp) (by simp [aR, dP, Pu, aQ]) ?_; conv => whnf
  repeat' first | ((first | refine Qz ?_ | refine Qf (cF) ?_ | refine Qf (cT) ?_ | with_reducible (first | refine Qm ?_ | refine Qn ?_ | refine Qo ?_ | refine Qp ?_ | refine WB.nt ?_ | refine WB.nf ?_ | refine WB.dec (fun h => ?_) (fun h => ?_) | refine WB.ndec (fun h => ?_) (fun h => ?_)) | refine WB.mk (fun h => ?_) (fun h => ?_)) <;> conv => whnf) | (refine WB.tt ?_; conv => whnf) | (refine WB.ff ?_; conv => whnf)
  exact Fin.two (.inr rfl) rfl rfl (.pu (aF _)) (.pu trivial)
def Gg (lo hi : Int) : List D := [.i .i64 lo, .i .i64 hi]
theorem AY (lo hi : Int) : aR (Gg lo hi) := ⟨trivial, trivial, trivial⟩
theorem Kj {B : Pos → Prop} {ob : T C} {d : D} (h : Pu d := by simp [Cell.d, Pu, aR, dP, aB, aG, aF, aQ, AY]; done) : Fz B ob d d := .pu h
theorem Ha : PureF Tryz.prog p97.ix [] (.ag (Gg 1099511627776 (-1))) := by
  refine PureF.run Oz (by simp) (by simp [aR]) ?_; conv => whnf
  repeat' first | ((first | refine Qz ?_ | refine Qy ?_) <;> conv => whnf) | (refine WB.tt ?_; conv => whnf) | (refine WB.ff ?_; conv => whnf)
  exact ⟨.inr rfl, _, rfl, .pu ⟨trivial, trivial, trivial⟩⟩
theorem Be (lo hi n : Int) : PureF Tryz.prog p98.ix [.ag (Gg lo hi), .i .i64 n] (.ag (Gg (min lo n) (max hi n))) := by
  refine PureF.run Ng (by simp) (by simp [aR, Pu, Gg]) ?_; conv => whnf
  repeat' first | ((first | refine Qz ?_ | refine Qy ?_) <;> conv => whnf) | (refine WB.tt ?_; conv => whnf) | (refine WB.ff ?_; conv => whnf)
  exact ⟨.inr rfl, _, rfl, .pu ⟨trivial, trivial, trivial⟩⟩
theorem Jk (lo hi : Int) : PureF Tryz.prog p40.ix [.ag (Gg lo hi)] (.ag (Gg lo hi)) := by
  refine PureF.run MU (by simp) (by simp [aR, Pu, Gg]) ?_; conv => whnf
  repeat' first | ((first | refine Qz ?_ | refine Qy ?_) <;> conv => whnf) | (refine WB.tt ?_; conv => whnf) | (refine WB.ff ?_; conv => whnf)
  exact ⟨.inr rfl, _, rfl, .pu ⟨trivial, trivial, trivial⟩⟩
def wR (f : List Int → Int) (Ts : List (List Int)) (j : Nat) : Int := ((Ts.take j).map f).foldl min 1099511627776
def vG (f : List Int → Int) (Ts : List (List Int)) (j : Nat) : Int := ((Ts.take j).map f).foldl max (-1)
theorem yI {f : List Int → Int} {Ts : List (List Int)} {j : Nat} (h : j < Ts.length) : wR f Ts (j + 1) = min (wR f Ts j) (f (Ts.getD j default)) := by
  unfold wR; rw [nR (d := default) h, List.map_append, List.foldl_append]; rfl
theorem zF {f : List Int → Int} {Ts : List (List Int)} {j : Nat} (h : j < Ts.length) : vG f Ts (j + 1) = max (vG f Ts j) (f (Ts.getD j default)) := by
  unfold vG; rw [nR (d := default) h, List.map_append, List.foldl_append]; rfl
def MH (lo hi : Int) : C := .cells false [.o (.i .i64 lo) 0, .o (.i .i64 hi) 0] 1
theorem LQ {B : Pos → Prop} {ob : T C} {lo hi : Int} : ShC B ob (MH lo hi) (MH lo hi) := by
  refine ShC.same ?_
  (repeat' first | exact ShC.nl | refine ShC.cn ?_ ?_) <;> exact .pu trivial
theorem wB {τ : Type} [Inhabited τ] (H : Nat → Nat → τ) {n m r p : Nat} (hr : r < n) (hp : p < m) : ((jT H n m).getD r default).getD p default = H r p := by
  have e : (jT H n m).getD r default = (List.range m).map (H r) := by simp [jT, List.getD, hr]
  rw [e]; simp [List.getD, hp]
theorem qY {τ : Type} (H : Nat → Nat → τ) {n m r : Nat} (hr : r < n) : (jT H n m).getD r default = (List.range m).map (H r) := by simp [jT, List.getD, hr]
instance : Inhabited Hr := ⟨⟨0, 0, 0⟩⟩
set_option maxHeartbeats 4000000 in
theorem Dm (b : Bh) (V : VW b) (L : List (List Int)) (hp : gU b L = true) (Ts : List (List Int)) (hT : ∀ t ∈ Ts, TruP b t) (hTl : Ts.length ≤ 1000) (l4 : b.brk.length ≤ 1000) (r p : Nat) (hr : r < b.rws.toNat) (hq : p < b.pls.toNat) :
    PureF Tryz.prog p39.ix [.ag (dS b), .lst 1 (aC bZ Ts), .lst 1 (aC bZ L), .ag [.i .i64 (r : Int), .i .i64 (p : Int)]] (.tp [.ag (Gg (wR (fun t => (jZ b L t r p).calm) Ts Ts.length) (vG (fun t => (jZ b L t r p).calm) Ts Ts.length)), .ag (Gg (wR (fun t => (jZ b L t r p).good) Ts Ts.length) (vG (fun t => (jZ b L t r p).good) Ts Ts.length))]) := by
  have e1 := aI bZ Ts
  refine PureF.run MY (by simp) (by simp [aR, dP, Pu, aQ, aF]) ?_; conv => whnf
  repeat' first | ((first | refine Qz ?_ | refine Qf (Ha) ?_ | refine Qy ?_) <;> conv => whnf) | (refine WB.tt ?_; conv => whnf) | (refine WB.ff ?_; conv => whnf)
  refine Rn.loopV [(aW, none), (bH, none), (cU, none), (dA, none), (dK, none), (p20, none), (p21, none), (p22, none), (eC, none), (p24, none), (p25, none), (p26, none), (fF, none), (p28, none), (p29, none), (p30, none), (p31, none), (p32, none), (iB, none), (p34, none), (p35, none), (p36, none), (p37, none), (p38, none), (p39, none), (p40, none), (nZ, none), (p42, none), (oM, none), (p44, none), (p45, none)] (fun j : Nat => [(aW, some (.i .i64 (j : Int)))]) (fun j : Nat => [((.i (.o .h)), some (MH (wR (fun t => (jZ b L t r p).calm) Ts j) (vG (fun t => (jZ b L t r p).calm) Ts j))), ((.o (.i .h)), some (MH (wR (fun t => (jZ b L t r p).good) Ts j) (vG (fun t => (jZ b L t r p).good) Ts j)))]) (fun j : Nat => (.i (.i .h))) (fun j : Nat => j ≤ Ts.length) (fun j : Nat => Ts.length - j) 0 ?_ ?_ ?_
  · conv => whnf
    (refine X.le.mk ?_ ?_ (Nat.le_refl _) rfl rfl) <;> (repeat' first | exact T.le_e _ | refine T.le_some ?_ rfl ?_ | refine T.le_none ?_ ?_ | refine T.le_ee ?_ ?_)
  rotate_left
  intro xl1 hxl1
  rotate_right
  · exact Nat.zero_le _
  intro j hj
  have hj : j ≤ Ts.length := hj
  have s1 : j < Ts.length → _ := fun h => yI (f := fun t => (jZ b L t r p).calm) h
  have s2 : j < Ts.length → _ := fun h => zF (f := fun t => (jZ b L t r p).calm) h
  have s3 : j < Ts.length → _ := fun h => yI (f := fun t => (jZ b L t r p).good) h
  have s4 : j < Ts.length → _ := fun h => zF (f := fun t => (jZ b L t r p).good) h
  have hend : j = Ts.length → wR (fun t => (jZ b L t r p).calm) Ts Ts.length = wR (fun t => (jZ b L t r p).calm) Ts j ∧ vG (fun t => (jZ b L t r p).calm) Ts Ts.length = vG (fun t => (jZ b L t r p).calm) Ts j ∧ wR (fun t => (jZ b L t r p).good) Ts Ts.length = wR (fun t => (jZ b L t r p).good) Ts j ∧ vG (fun t => (jZ b L t r p).good) Ts Ts.length = vG (fun t => (jZ b L t r p).good) Ts j := fun h => by subst h; exact ⟨rfl, rfl, rfl, rfl⟩
  generalize wR (fun t => (jZ b L t r p).calm) Ts j = a1 at *
  generalize vG (fun t => (jZ b L t r p).calm) Ts j = a2 at *
  generalize wR (fun t => (jZ b L t r p).good) Ts j = a3 at *
  generalize vG (fun t => (jZ b L t r p).good) Ts j = a4 at *
  conv => whnf
  repeat' first | ((first | refine Qz ?_ | refine Qy ?_) <;> conv => whnf) | (refine WB.tt ?_; conv => whnf) | (refine WB.ff ?_; conv => whnf)
  refine WB.dec (fun hd2 => ?_) (fun hd2 => ?_) <;> conv => whnf
  · have hlt : j < Ts.length := by omega
    have s1 := s1 hlt
    have s2 := s2 hlt
    have s3 := s3 hlt
    have s4 := s4 hlt
    have tp := hT _ (aN (d := default) hlt)
    have cP := BC b V L (Ts.getD j default) hp tp.len (JT V tp) l4
    have g1 := qY (jZ b L (Ts.getD j default)) (m := b.pls.toNat) hr
    have g3 : r < (jT (jZ b L (Ts.getD j default)) b.rws.toNat b.pls.toNat).length := by rw [lV]; exact hr
    have g4 : p < ((List.range b.pls.toNat).map (jZ b L (Ts.getD j default) r)).length := by simpa using hq
    repeat' first | ((first | refine Qz ?_ | refine Qf (cP) ?_ | refine WIx.rowsM (by rw [g1]; exact g4) rfl ?_ | refine Qy ?_) <;> conv => whnf) | (refine WB.tt ?_; conv => whnf) | (refine WB.ff ?_; conv => whnf)
    rw [wB (jZ b L (Ts.getD j default)) hr hq]
    generalize jZ b L (Ts.getD j default) r p = x at *
    repeat' first | ((first | refine Qz ?_ | refine Qf (Be a1 a2 x.calm) ?_ | refine Qf (Be a3 a4 x.good) ?_ | refine Qy ?_) <;> conv => whnf) | (refine WB.tt ?_; conv => whnf) | (refine WB.ff ?_; conv => whnf)
    refine AgainB.v (j + 1) (by omega) (show j + 1 ≤ Ts.length by omega) (Nat.le_refl _) (by assumption) ?_
    rw [s1, s2, s3, s4]
    conv => whnf
    refine Shr.of ?_ ?_ rfl rfl
    · (repeat' first | exact Rel.e | refine Rel.some ?_ ?_ ?_ | refine Rel.none ?_ ?_ | refine Rel.ee ?_ ?_)
      all_goals show Fz _ _ _ _
      all_goals first | exact Fq | exact Kj
    · (repeat' first | exact Rel.e | refine Rel.some ?_ ?_ ?_ | refine Rel.none ?_ ?_ | refine Rel.ee ?_ ?_)
      all_goals refine BZ ?_
      all_goals first | exact LQ | exact Sq | (refine ShC.same ?_; (repeat' first | exact ShC.nl | refine ShC.cn ?_ ?_) <;> first | exact Fq | exact Kj)
  · obtain ⟨e1, e2, e3, e4⟩ := hend (by omega)
    rw [e1, e2, e3, e4]
    repeat' first | ((first | refine Qz ?_ | refine Qy ?_) <;> conv => whnf) | (refine WB.tt ?_; conv => whnf) | (refine WB.ff ?_; conv => whnf)
    exact ⟨.inr rfl, _, rfl, .pu ⟨⟨trivial, trivial, trivial⟩, ⟨trivial, trivial, trivial⟩, trivial⟩⟩
def gK (f : Nat → Int) : Nat → Int
  | 0 => 0
  | j + 1 => gK f j + f j
theorem dU {f g : Nat → Int} : ∀ {n : Nat}, (∀ i, i < n → f i = g i) → gK f n = gK g n
  | 0, _ => rfl
  | n + 1, h => by
    show gK f n + f n = gK g n + g n
    rw [dU fun i hi => h i (by omega), h n (by omega)]
theorem pB (f : Nat → Int) : ∀ n, gK f (n + 1) = f 0 + gK (fun i => f (i + 1)) n
  | 0 => by simp [gK]
  | n + 1 => by
    have h1 : gK f (n + 1 + 1) = gK f (n + 1) + f (n + 1) := rfl
    have h2 : gK (fun i => f (i + 1)) (n + 1) = gK (fun i => f (i + 1)) n + f (n + 1) := rfl
    rw [h1, pB f n, h2]; omega
theorem qQ (f : Nat → Int) : ∀ n, iM f 0 n = gK f n
  | 0 => rfl
  | n + 1 => by
    show (if 0 ≤ n then iM f 0 n + f n else 0) = _
    rw [if_pos (Nat.zero_le _), qQ f n]; rfl
theorem rH (F : Nat → Int → Int) : ∀ (t : List Int) (h : Nat), mJ F h t = gK (fun i => F (h + i) (t.getD i 0)) t.length
  | [], h => rfl
  | a :: t, h => by
    show F h a + mJ F (h + 1) t = gK _ (t.length + 1)
    rw [pB, rH F t (h + 1)]
    congr 1
    refine dU fun i _ => ?_
    show F (h + 1 + i) (t.getD i 0) = F (h + (i + 1)) (t.getD i 0)
    rw [show h + 1 + i = h + (i + 1) by omega]
theorem sU (g : Nat → Int) : ∀ (n h : Nat), oR g h n = gK (fun i => g (h + i)) n
  | 0, h => rfl
  | n + 1, h => by
    show g h + oR g (h + 1) n = gK _ (n + 1)
    rw [pB, sU g n (h + 1)]
    congr 1
    refine dU fun i _ => ?_
    rw [show h + 1 + i = h + (i + 1) by omega]
theorem uW : ∀ (L : List Int) (a : Int), IsMn (a :: L) (L.foldl min a)
  | [], a => ⟨by simp, fun x hx => by rw [List.mem_singleton.1 hx]; exact Int.le_refl _⟩
  | c :: L, a => by
    have h := uW L (min a c)
    rw [List.foldl_cons]
    refine ⟨?_, fun x hx => ?_⟩
    · rcases List.mem_cons.1 h.1 with e | e
      · rw [e]; rcases DO a c with k | k <;> rw [k] <;> simp
      · exact List.mem_cons_of_mem _ (List.mem_cons_of_mem _ e)
    · have h0 := h.2 (min a c) (by simp)
      rcases List.mem_cons.1 hx with rfl | hx
      · omega
      rcases List.mem_cons.1 hx with rfl | hx
      · omega
      exact h.2 x (List.mem_cons_of_mem _ hx)
theorem wJ : ∀ (L : List Int) (a : Int), IsMx (a :: L) (L.foldl max a)
  | [], a => ⟨by simp, fun x hx => by rw [List.mem_singleton.1 hx]; exact Int.le_refl _⟩
  | c :: L, a => by
    have h := wJ L (max a c)
    rw [List.foldl_cons]
    refine ⟨?_, fun x hx => ?_⟩
    · rcases List.mem_cons.1 h.1 with e | e
      · rw [e]; rcases Ga a c with k | k <;> rw [k] <;> simp
      · exact List.mem_cons_of_mem _ (List.mem_cons_of_mem _ e)
    · have h0 := h.2 (max a c) (by simp)
      rcases List.mem_cons.1 hx with rfl | hx
      · omega
      rcases List.mem_cons.1 hx with rfl | hx
      · omega
      exact h.2 x (List.mem_cons_of_mem _ hx)
theorem Cb {L : List Int} (h : L ≠ []) : IsMn L (L.foldl min (L.getD 0 0)) := by
  cases L with
  | nil => exact absurd rfl h
  | cons a L =>
    have k := uW L a
    have e : (a :: L).foldl min ((a :: L).getD 0 0) = L.foldl min a := by
      show (a :: L).foldl min a = _
      rw [List.foldl_cons]; congr 1; omega
    rw [e]; exact k
theorem Hb {L : List Int} (h : L ≠ []) : IsMx L (L.foldl max (L.getD 0 0)) := by
  cases L with
  | nil => exact absurd rfl h
  | cons a L =>
    have k := wJ L a
    have e : (a :: L).foldl max ((a :: L).getD 0 0) = L.foldl max a := by
      show (a :: L).foldl max a = _
      rw [List.foldl_cons]; congr 1; omega
    rw [e]; exact k
theorem Hd {L : List Int} {c : Int} (h : L ≠ []) (k : ∀ x ∈ L, x ≤ c) : IsMn L (L.foldl min c) := by
  cases L with
  | nil => exact absurd rfl h
  | cons a L =>
    rw [List.foldl_cons, show min c a = a by have := k a (by simp); omega]
    exact uW L a
theorem Hj {L : List Int} {c : Int} (h : L ≠ []) (k : ∀ x ∈ L, c ≤ x) : IsMx L (L.foldl max c) := by
  cases L with
  | nil => exact absurd rfl h
  | cons a L =>
    rw [List.foldl_cons, show max c a = a by have := k a (by simp); omega]
    exact wJ L a
theorem IsMn.congr {l m : List Int} {a : Int} (h : IsMn l a) (k : ∀ x, x ∈ l ↔ x ∈ m) : IsMn m a := ⟨(k a).1 h.1, fun x hx => h.2 x ((k x).2 hx)⟩
theorem IsMx.congr {l m : List Int} {a : Int} (h : IsMx l a) (k : ∀ x, x ∈ l ↔ x ∈ m) : IsMx m a := ⟨(k a).1 h.1, fun x hx => h.2 x ((k x).2 hx)⟩
theorem yK (w : List Int) (ws : List (List Int)) (m : Nat) : ∀ j, AR (w :: ws) m (j + 1) = AR ws (m / w.length) j
  | 0 => rfl
  | j + 1 => by
    show AR (w :: ws) m (j + 1) / ((w :: ws).getD (j + 1) default).length = AR ws (m / w.length) j / (ws.getD j default).length
    rw [yK w ws m j]; rfl
theorem Dz (w : List Int) (ws : List (List Int)) (m j : Nat) : vD (w :: ws) m (j + 1) = w.getD (m % w.length) 0 :: vD ws (m / w.length) j := by
  unfold vD
  rw [List.range_succ_eq_map, List.map_cons, List.map_map]
  congr 1
  refine List.map_congr_left fun i _ => ?_
  show ((w :: ws).getD (i + 1) default).getD (AR (w :: ws) m (i + 1) % ((w :: ws).getD (i + 1) default).length) 0 = _
  rw [yK]; rfl
def Gc : List (List Int) → Nat
  | [] => 1
  | w :: ws => w.length * Gc ws
theorem uH (w : List Int) (ws : List (List Int)) : ∀ j, iC (w :: ws) (j + 1) = (w.length : Int) * iC ws j
  | 0 => by
    show (1 : Int) * ((w :: ws).getD 0 default).length = (w.length : Int) * 1
    simp
  | j + 1 => by
    show iC (w :: ws) (j + 1) * (((w :: ws).getD (j + 1) default).length : Int) = (w.length : Int) * (iC ws j * ((ws.getD j default).length : Int))
    rw [uH w ws j, Int.mul_assoc]; rfl
theorem yJ : ∀ ws : List (List Int), iC ws ws.length = (Gc ws : Int)
  | [] => rfl
  | w :: ws => by
    show iC (w :: ws) (ws.length + 1) = _
    rw [uH, yJ ws]
    exact (Int.natCast_mul _ _).symm
theorem FJ (b : Bh) : jX b = Gc b.winds := by unfold jX; rw [yJ]; exact Int.toNat_natCast _
theorem Em : ∀ (ws : List (List Int)) (t : List Int), t.length = ws.length → (∀ i, i < ws.length → t.getD i 0 ∈ ws.getD i default) → ∃ n, n < Gc ws ∧ vD ws n ws.length = t
  | [], t, h, _ => ⟨0, by decide, by cases t with | nil => rfl | cons _ _ => simp at h⟩
  | w :: ws, [], h, _ => by simp at h
  | w :: ws, a :: t, h, k => by
    obtain ⟨n, h1, h2⟩ := Em ws t (by simpa using h) fun i hi => k (i + 1) (by simpa using hi)
    obtain ⟨i, hi, ei⟩ := vP (d := (0 : Int)) (k 0 (by simp))
    have hi : i < w.length := hi
    have ei : w.getD i 0 = a := ei
    have hw : 0 < w.length := by omega
    have e1 : (i + w.length * n) % w.length = i := by rw [Nat.add_mul_mod_self_left, Nat.mod_eq_of_lt hi]
    have e2 : (i + w.length * n) / w.length = n := by rw [Nat.add_mul_div_left _ _ hw, Nat.div_eq_of_lt hi]; omega
    refine ⟨i + w.length * n, ?_, ?_⟩
    · show i + w.length * n < w.length * Gc ws
      have := Nat.mul_le_mul_left w.length h1
      rw [Nat.succ_eq_add_one, Nat.mul_add] at this
      omega
    · show vD (w :: ws) _ (ws.length + 1) = _
      rw [Dz, e1, e2, h2, ei]
theorem fJ {b : Bh} (V : VW b) {t : List Int} : t ∈ dB b ↔ TruP b t := by
  unfold dB mD
  rw [List.mem_filter, List.mem_map]
  constructor
  · rintro ⟨_, h⟩
    exact (yN V).1 h
  · intro h
    refine ⟨?_, (yN V).2 h⟩
    have hl := h.len
    rw [V.hrs] at hl
    obtain ⟨n, h1, h2⟩ := Em b.winds t hl fun i hi => (jL.1 (h.mem i (by rw [V.hrs]; exact hi))).1
    exact ⟨n, List.mem_range.2 (by rw [FJ]; exact h1), h2⟩
theorem lB {b : Bh} (V : VW b) : dB b ≠ [] ↔ kE b = true := by
  constructor
  · intro h
    cases hb : dB b with
    | nil => exact absurd hb h
    | cons t ts =>
      have h1 := (BW V).2 ((fJ V).1 (by rw [hb]; simp : t ∈ dB b))
      unfold MF at h1
      obtain ⟨c, hc, _⟩ := List.any_eq_true.1 h1
      exact List.any_eq_true.2 ⟨c, hc, rfl⟩
  · intro h e
    obtain ⟨c, hc, _⟩ := List.any_eq_true.1 h
    have h1 : MF b ((Mg c).take (hrs b)) = true := List.any_eq_true.2 ⟨c, hc, by simp⟩
    have h2 := (fJ V).2 ((BW V).1 h1)
    rw [e] at h2
    cases h2
theorem oA {b : Bh} {t : List Int} : t ∈ Gt b ↔ TruP b t := by
  unfold Gt
  rw [wS]
  have e : (iD b).length = hrs b := by simp [iD, hrs]
  have g : ∀ i, i < hrs b → (iD b).getD i [] = aK b i := fun i hi => by
    have hi : i < (b.last + 1).toNat := hi
    simp [iD, List.getD, hi]
  rw [e]
  constructor
  · rintro ⟨h1, h2⟩
    exact ⟨h1, fun i hi => by rw [← g i hi]; exact h2 i hi⟩
  · rintro ⟨h1, h2⟩
    exact ⟨h1, fun i hi => by rw [g i hi]; exact h2 i hi⟩
section
variable {b : Bh} {S : Nat → Nat → Int} {P : List (Int × Int)} {κ : Hr → Int} {f : List Int → Int}
theorem yE (V : VW b) (hT : dB b ≠ []) (hf : ∀ t, TruP b t → f t = gK (fun h => kq b S P κ h (t.getD h 0)) (hrs b)) (hb : ∀ t, TruP b t → f t ≤ 1099511627776) : iM (qD b S P κ) 0 (0 + (b.last + 1).toNat) = wR f (dB b) (dB b).length := by
  have hne := qW ((lB V).1 hT)
  have e : (iD b).length = hrs b := by simp [iD, hrs]
  have h1 : IsMn ((Gt b).map (mJ (fun h d => kq b S P κ h d) 0)) (oR (qD b S P κ) 0 (iD b).length) := Bk _ _ _ 0 fun i hi => by
    have hi : i < (b.last + 1).toNat := by rw [e] at hi; exact hi
    rw [Nat.zero_add]
    have g : (iD b).getD i [] = aK b i := by simp [iD, List.getD, hi]
    rw [g]
    exact Cb (L := kV b S P κ i) fun k => hne i hi (List.map_eq_nil_iff.1 k)
  rw [sU, e] at h1
  have h2 : iM (qD b S P κ) 0 (0 + (b.last + 1).toNat) = gK (fun i => qD b S P κ (0 + i)) (hrs b) := by
    rw [Nat.zero_add, qQ]
    exact dU fun i _ => by rw [Nat.zero_add]
  rw [h2]
  refine h1.uniq (IsMn.congr (l := (dB b).map f) ?_ ?_)
  · have h3 := Hd (L := (dB b).map f) (c := 1099511627776) (fun k => hT (List.map_eq_nil_iff.1 k)) (fun x hx => by
      obtain ⟨t, ht, rfl⟩ := List.mem_map.1 hx
      exact hb t ((fJ V).1 ht))
    unfold wR
    rw [List.take_length]
    exact h3
  · intro x
    have key : ∀ t, TruP b t → mJ (fun h d => kq b S P κ h d) 0 t = f t := fun t ht => by
      rw [rH, hf t ht, ht.len]
      exact dU fun i _ => by rw [Nat.zero_add]
    rw [List.mem_map, List.mem_map]
    constructor
    · rintro ⟨t, ht, rfl⟩
      have tp := (fJ V).1 ht
      exact ⟨t, oA.2 tp, key t tp⟩
    · rintro ⟨t, ht, rfl⟩
      have tp := oA.1 ht
      exact ⟨t, (fJ V).2 tp, (key t tp).symm⟩
theorem yP (V : VW b) (hT : dB b ≠ []) (hf : ∀ t, TruP b t → f t = gK (fun h => kq b S P κ h (t.getD h 0)) (hrs b)) (hb : ∀ t, TruP b t → -1 ≤ f t) : iM (sB b S P κ) 0 (0 + (b.last + 1).toNat) = vG f (dB b) (dB b).length := by
  have hne := qW ((lB V).1 hT)
  have e : (iD b).length = hrs b := by simp [iD, hrs]
  have h1 : IsMx ((Gt b).map (mJ (fun h d => kq b S P κ h d) 0)) (oR (sB b S P κ) 0 (iD b).length) := AH _ _ _ 0 fun i hi => by
    have hi : i < (b.last + 1).toNat := by rw [e] at hi; exact hi
    rw [Nat.zero_add]
    have g : (iD b).getD i [] = aK b i := by simp [iD, List.getD, hi]
    rw [g]
    exact Hb (L := kV b S P κ i) fun k => hne i hi (List.map_eq_nil_iff.1 k)
  rw [sU, e] at h1
  have h2 : iM (sB b S P κ) 0 (0 + (b.last + 1).toNat) = gK (fun i => sB b S P κ (0 + i)) (hrs b) := by
    rw [Nat.zero_add, qQ]
    exact dU fun i _ => by rw [Nat.zero_add]
  rw [h2]
  refine h1.uniq (IsMx.congr (l := (dB b).map f) ?_ ?_)
  · have h3 := Hj (L := (dB b).map f) (c := -1) (fun k => hT (List.map_eq_nil_iff.1 k)) (fun x hx => by
      obtain ⟨t, ht, rfl⟩ := List.mem_map.1 hx
      exact hb t ((fJ V).1 ht))
    unfold vG
    rw [List.take_length]
    exact h3
  · intro x
    have key : ∀ t, TruP b t → mJ (fun h d => kq b S P κ h d) 0 t = f t := fun t ht => by
      rw [rH, hf t ht, ht.len]
      exact dU fun i _ => by rw [Nat.zero_add]
    rw [List.mem_map, List.mem_map]
    constructor
    · rintro ⟨t, ht, rfl⟩
      have tp := (fJ V).1 ht
      exact ⟨t, oA.2 tp, key t tp⟩
    · rintro ⟨t, ht, rfl⟩
      have tp := oA.1 ht
      exact ⟨t, (fJ V).2 tp, (key t tp).symm⟩
end
structure Kap (κ : Hr → Int) : Prop where
  z : κ ⟨0, 0, 0⟩ = 0
  a : ∀ x y, κ (mV x y) = κ x + κ y
  b : ∀ (x : Hr) (n : Int), (0 ≤ x.sun ∧ x.sun ≤ n) ∧ (0 ≤ x.calm ∧ x.calm ≤ n) ∧ (0 ≤ x.good ∧ x.good ≤ n) → 0 ≤ κ x ∧ κ x ≤ n
theorem Kap.sun : Kap fun x => x.sun := ⟨rfl, fun _ _ => rfl, fun _ _ h => h.1⟩
theorem Kap.calm : Kap fun x => x.calm := ⟨rfl, fun _ _ => rfl, fun _ _ h => h.2.1⟩
theorem Kap.good : Kap fun x => x.good := ⟨rfl, fun _ _ => rfl, fun _ _ h => h.2.2⟩
theorem Ce {κ : Hr → Int} (K : Kap κ) (b : Bh) (S : Nat → Nat → Int) (p : Int × Int) (t : List Int) : ∀ j, κ (dM b S p t j) = gK (fun h => κ (jN b p (S h p.1.toNat) h (t.getD h 0))) j
  | 0 => K.z
  | j + 1 => by
    show κ (mV (dM b S p t j) _) = gK _ j + _
    rw [K.a, Ce K b S p t j]
theorem Aa {κ : Hr → Int} (K : Kap κ) (b : Bh) (S : Nat → Nat → Int) (p : Int × Int) (h : Nat) (d : Int) : kq b S [p] κ h d = κ (jN b p (S h p.1.toNat) h d) := by
  show κ (mV ⟨0, 0, 0⟩ (jN b p (S h p.1.toNat) h d)) = _
  rw [K.a, K.z, Int.zero_add]
theorem yU {κ : Hr → Int} (K : Kap κ) {b : Bh} (S : Nat → Nat → Int) (p : Int × Int) {t : List Int} (ht : TruP b t) : κ (dM b S p t t.length) = gK (fun h => kq b S [p] κ h (t.getD h 0)) (hrs b) := by
  rw [Ce K, ht.len]
  exact dU fun i _ => (Aa K b S p i _).symm
theorem Bd {κ : Hr → Int} (K : Kap κ) {b : Bh} (V : VW b) (S : Nat → Nat → Int) (p : Int × Int) {t : List Int} (ht : TruP b t) : 0 ≤ κ (dM b S p t t.length) ∧ κ (dM b S p t t.length) ≤ 5 := by
  have h := K.b _ _ (oU b S p t t.length)
  have hl := ht.len
  have hv := V.last
  unfold hrs at hl
  omega
theorem Es {b : Bh} (V : VW b) (S : Nat → Nat → Int) (p : Int × Int) (hT : dB b ≠ []) {t : List Int} (ht : TruP b t) : iM (qD b S [p] (fun x => x.sun)) 0 (0 + (b.last + 1).toNat) = (dM b S p t t.length).sun := by
  have hne := qW ((lB V).1 hT)
  rw [Nat.zero_add, qQ]
  have h1 := yU Kap.sun S p ht
  have h1 : (dM b S p t t.length).sun = gK (fun h => kq b S [p] (fun x => x.sun) h (t.getD h 0)) (hrs b) := h1
  rw [h1]
  refine dU fun i hi => ?_
  have h2 := (Cb (L := kV b S [p] (fun x => x.sun) i) fun k => hne i hi (List.map_eq_nil_iff.1 k)).1
  obtain ⟨d, _, e⟩ := List.mem_map.1 h2
  have e : kq b S [p] (fun x => x.sun) i d = qD b S [p] (fun x => x.sun) i := e
  rw [← e, Aa Kap.sun, Aa Kap.sun]; rfl
theorem Fk {b : Bh} (V : VW b) (S : Nat → Nat → Int) (p : Int × Int) (hT : dB b ≠ []) {t : List Int} (ht : TruP b t) : sY b S p = ⟨(dM b S p t t.length).sun, wR (fun t => (dM b S p t t.length).calm) (dB b) (dB b).length, vG (fun t => (dM b S p t t.length).calm) (dB b) (dB b).length, wR (fun t => (dM b S p t t.length).good) (dB b) (dB b).length, vG (fun t => (dM b S p t t.length).good) (dB b) (dB b).length⟩ := by
  unfold sY
  rw [Es V S p hT ht,
    yE V hT (fun t ht => yU Kap.calm S p ht) (fun t ht => by have := (Bd Kap.calm V S p ht).2; omega),
    yP V hT (fun t ht => yU Kap.calm S p ht) (fun t ht => by have := (Bd Kap.calm V S p ht).1; omega),
    yE V hT (fun t ht => yU Kap.good S p ht) (fun t ht => by have := (Bd Kap.good V S p ht).2; omega),
    yP V hT (fun t ht => yU Kap.good S p ht) (fun t ht => by have := (Bd Kap.good V S p ht).1; omega)]
theorem lM : ∀ {es : List (List D)}, (∀ x ∈ es, FitL [.i .i64] x) → ∃ l : List Int, es = ints l
  | [], _ => ⟨[], rfl⟩
  | x :: es, h => by
    obtain ⟨l, rfl⟩ := lM (es := es) fun y hy => h y (by simp [hy])
    have h1 := h x (by simp)
    simp only [FitL, gT] at h1
    obtain ⟨d, ds, rfl, ⟨n1, rfl, w1⟩, rfl⟩ := h1
    exact ⟨n1 :: l, rfl⟩
theorem rR : ∀ {es : List (List D)}, (∀ x ∈ es, FitL [.sl [.i .i64]] x) → ∃ l : List (List Int), es = aC bZ l
  | [], _ => ⟨[], rfl⟩
  | x :: es, h => by
    obtain ⟨l, rfl⟩ := rR (es := es) fun y hy => h y (by simp [hy])
    have h1 := h x (by simp)
    simp only [FitL, gT] at h1
    obtain ⟨d, ds, rfl, ⟨e1, rfl, k1⟩, rfl⟩ := h1
    obtain ⟨w, rfl⟩ := lM fun x hx => by have := k1 x hx; simpa only [FitL, gT] using this
    exact ⟨w :: l, rfl⟩
theorem vR : ∀ {es : List (List D)}, (∀ x ∈ es, FitL [.i .i64, .i .i64] x) → ∃ l : List (Int × Int), es = aC bB l
  | [], _ => ⟨[], rfl⟩
  | x :: es, h => by
    obtain ⟨l, rfl⟩ := vR (es := es) fun y hy => h y (by simp [hy])
    have h1 := h x (by simp)
    simp only [FitL, gT] at h1
    obtain ⟨d, ds, rfl, ⟨n1, rfl, w1⟩, d2, ds2, rfl, ⟨n2, rfl, w2⟩, rfl⟩ := h1
    exact ⟨(n1, n2) :: l, rfl⟩
theorem FitP.wins {ps : List (Bool × List CK)} {ds : List D} (h : FitP ((false, [.sl [.sl [.i .i64]]]) :: ps) ds) : ∃ (t : List (List Int)) (ds' : List D), ds = .lst 1 (aC bZ t) :: ds' ∧ FitP ps ds' := by
  unfold FitP at h
  obtain ⟨d, ds', rfl, h1, h2⟩ := h
  simp only [FitL, gT] at h1
  obtain ⟨d, ds, e, ⟨es, rfl, h1⟩, rfl⟩ := h1
  cases e
  obtain ⟨l, rfl⟩ := rR fun x hx => by have := h1 x hx; simpa only [FitL, gT] using this
  exact ⟨l, ds', rfl, h2⟩
end Go.Ev
end
