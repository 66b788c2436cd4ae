import Derived.Test.YtkbgaadfednjpaaGreatDoorEvU4o
import Derived.Test.YtkbgaadfednjpaaGreatDoorEvUFn
import Derived.Test.YtkbgaadfednjpaaGreatDoorEvUSq
import Derived.Test.YtkbgaadfednjpaaGreatDoorEvULk
set_option linter.all false
set_option maxHeartbeats 8000000
noncomputable section
namespace Go.Ev
open Go.Proofs
set_option maxRecDepth 100000
theorem Cv.ns {γ γ' : Gh} {w : World} {z : Nat} : Cv γ γ' w .ns (.lst z []) := fun v h => by
 unfold DV at h ⊢
 exact ⟨none, 0, h, Nat.le_refl _, fun _ => rfl, .inl rfl⟩
theorem IX (r : List D) (st : Nat) : Vis st ((r.map fun d => Cell.o d st).drop 0) r := fun k d hk => ⟨.o d st, by rw [List.drop_zero, List.getElem?_map, hk]; rfl, Nat.ble_eq_true_of_le (Nat.le_refl _), rfl⟩
def kM (b : Bh) : Bh := ⟨b.last, b.rws, b.pls, b.rch, b.face, b.sun, b.winds, b.brk, []⟩
def Hl (b : Bh) : List D := [.i .i64 b.last, .i .i64 b.rws, .i .i64 b.pls, .i .i64 b.rch, .lst 1 (ints b.face), .lst 1 (ints b.sun), .lst 1 (aD cJ b.winds), .lst 2 (aD bL b.brk), .ns]
theorem KF {B : Pos -> Prop} {ob : T C} (b : Bh) : FzL B ob (Hl b) (eA (kM b)) := by
 refine .cons (.pu trivial) (.cons (.pu trivial) (.cons (.pu trivial) (.cons (.pu trivial) (.cons (.pu (aB _)) (.cons (.pu (aB _)) (.cons (.pu (aG _)) (.cons (.pu (aN _)) (.cons .ns .nil))))))))
theorem JG {γ : Gh} {w : World} (b : Bh) : CvL γ γ w (Hl b) (eA (kM b)) := by
 refine .cons (.pu (fun _ h => h) trivial) (.cons (.pu (fun _ h => h) trivial) (.cons (.pu (fun _ h => h) trivial) (.cons (.pu (fun _ h => h) trivial) (.cons (.pu (fun _ h => h) (aB _)) (.cons (.pu (fun _ h => h) (aB _)) (.cons (.pu (fun _ h => h) (aG _)) (.cons (.pu (fun _ h => h) (aN _)) (.cons .ns .nil))))))))
theorem VW.nt {b : Bh} (V : VW b) : VW (kM b) := { V with nts := rfl }
structure FzW (b : Bh) : Prop where
 v : VW b
 l4 : b.brk.length <= 4
 l5 : b.nts.length <= 5
theorem gH {b : Bh} (h : bQ b = 0) : FzW b := by
 unfold bQ at h
 by_cases hb : Dn b = true
 ·rw [if_pos hb] at h; exact absurd h (by decide)
 ·rw [if_neg hb] at h
  have hb : ¬ (4 < b.last \/ 3 < b.rws \/ 5 < b.pls \/ 4 < b.brk.length \/ 5 < b.nts.length) := fun k => hb (hG.2 k)
  cases hv : gC b with
  | false => rw [hv] at h; exact absurd h (by decide)
  | true => exact ⟨VW.iff.1 hv, by omega, by omega⟩
theorem uJ {b : Bh} {L : List (List Int)} : jF b L = true ↔ (L.length : Int) = b.last + 1 /\ ∀ w ∈ L, (w.length : Int) = b.rws /\ w.all gO = true := by
 unfold jF nJ
 simp only [Bool.and_eq_true, decide_eq_true_iff, List.all_eq_true]
theorem GO {b : Bh} (V : VW b) {t : List Int} (h : TruP b t) : ∀ d ∈ t, 0 <= d /\ d <= 3 := fun d hd => by
 obtain ⟨i, hi, rfl⟩ := xB (d := 0) hd
 have h1 := h.len
 have h1' : hrs b = (b.last + 1).toNat := rfl
 have h0 := V.last
 have h2 := V.winl
 have h3 := (iC.1 (h.mem i (by omega))).1
 have h4 := (kK.1 (List.all_eq_true.1 V.wins _ (aR (d := default) (show i < b.winds.length by omega)))).2.2
 exact bC (List.all_eq_true.1 h4 _ h3)
def DD (b : Bh) (L : List (List Int)) (t : List Int) (r p : Nat) : Hr := bY b (dA L) ((r : Int), (p : Int)) t t.length
theorem DP (b : Bh) (V : VW b) (S : Nat -> Nat -> Int) (r p : Nat) (hr : r < b.rws.toNat) (hp : p < b.pls.toNat) (t : List Int) (ht : t.length <= b.sun.length) (hd : ∀ d ∈ t, 0 <= d /\ d <= 3) (l4 : b.brk.length <= 1000) : PureF Tryz.prog p86.ix [.ag [.i .i64 (r : Int), .i .i64 (p : Int)], .pl (eA b) 0, .pl (gN S) 0, .pl [.lst 1 (ints t)] 0] (.ag (dX (bY b S ((r : Int), (p : Int)) t t.length))) := by
 have hs : dR b ((r : Int), (p : Int)) = true := by
  unfold dR iJ
  rw [Bool.and_eq_true]
  exact ⟨by first | exact decide_eq_true (by constructor <;> omega) | (simp only [Bool.and_eq_true, decide_eq_true_iff]; constructor <;> omega), by first | exact decide_eq_true (by constructor <;> omega) | (simp only [Bool.and_eq_true, decide_eq_true_iff]; constructor <;> omega)⟩
 have cP := BL b V S ((r : Int), (p : Int)) hs t ht hd l4
 refine PureF.run Kl (by simp) (by simp [aT, Pu, aX, tS, aB]) ?_; conv => whnf
 repeat' ((first | refine Qw ?_ | refine Qf cP ?_ | refine Qv ?_) <;> conv => whnf)
 exact ⟨.inr rfl, _, rfl, .pu (by simp [one, Pu, aT, dX])⟩
theorem DE (b : Bh) (L : List (List Int)) (t : List Int) (l1 : b.face.length <= 1000) (l2 : b.sun.length <= 1000) (l3 : b.winds.length <= 1000) (l6 : ∀ w ∈ b.winds, w.length <= 1000) (hf : bQ b ≠ 0) : PureF Tryz.prog p23.ix [.ag (eA b), .lst 1 (aD cJ L), .lst 1 (ints t)] (.tp [.lst 1 [], .i .i64 (bQ b)]) := by
 have cC := mE b l1 l2 l3 l6
 refine PureF.run Ey (by simp) (by simp [aT, dU, Pu, aX, aG, aB]) ?_; conv => whnf
 repeat' ((first | refine Qw ?_ | refine Qf cC ?_ | refine Qv ?_) <;> conv => whnf)
 exact ⟨.inr rfl, _, rfl, .tp (.cons .ns (.cons (.pu trivial) .nil))⟩
theorem yC (b : Bh) (L : List (List Int)) (t : List Int) (l1 : b.face.length <= 1000) (l2 : b.sun.length <= 1000) (l3 : b.winds.length <= 1000) (l6 : ∀ w ∈ b.winds, w.length <= 1000) (h1 : L.length <= 1000) (h2 : ∀ w ∈ L, w.length <= 1000) (hf : bQ b = 0) (hn : (jF b L && uI (kM b) t) = false) : PureF Tryz.prog p23.ix [.ag (eA b), .lst 1 (aD cJ L), .lst 1 (ints t)] (.tp [.lst 1 [], .i .i64 2]) := by
 have Z := gH hf
 have hv := Z.v.last
 have cC := mE b l1 l2 l3 l6
 rw [hf] at cC
 have cP := (uW (kM b) L (by show _ <= b.last + 1 /\ b.last + 1 <= _; omega) h1 h2).sub fun γ w => .cons (.ag (JG b)) (.cons (.pu (fun _ h => h) (aG L)) .nil)
 have cT := (nH (kM b) Z.v.nt t l6 (Nat.zero_le _)).sub fun γ w => .cons (.ag (JG b)) (.cons (.pu (fun _ h => h) (aB t)) .nil)
 rw [show jF (kM b) L = jF b L from rfl] at cP
 refine PureF.run Ey (by simp) (by simp [aT, dU, Pu, aX, aG, aB]) ?_; conv => whnf
 cases k1 : jF b L with
 | false =>
   rw [k1] at cP
   repeat' first | ((first | refine Qw ?_ | refine Qf cC ?_ | refine Qf cP ?_ | refine Qd (fun h => ?_) (fun h => ?_)) <;> conv => whnf) | (refine WB.tt ?_; conv => whnf) | (refine WB.ff ?_; conv => whnf)
   exact ⟨.inr rfl, _, rfl, .tp (.cons .ns (.cons (.pu trivial) .nil))⟩
 | true =>
   rw [k1] at cP
   cases k2 : uI (kM b) t with
   | true => rw [k1, k2] at hn; exact absurd hn (by decide)
   | false =>
     rw [k2] at cT
     repeat' first | ((first | refine Qw ?_ | refine Qf cC ?_ | refine Qf cP ?_ | refine Qf cT ?_ | refine Qd (fun h => ?_) (fun h => ?_)) <;> conv => whnf) | (refine WB.tt ?_; conv => whnf) | (refine WB.ff ?_; conv => whnf)
     exact ⟨.inr rfl, _, rfl, .tp (.cons .ns (.cons (.pu trivial) .nil))⟩
theorem DQ (b : Bh) (L : List (List Int)) (t : List Int) (l1 : b.face.length <= 1000) (l2 : b.sun.length <= 1000) (l3 : b.winds.length <= 1000) (l6 : ∀ w ∈ b.winds, w.length <= 1000) (h1 : L.length <= 1000) (h2 : ∀ w ∈ L, w.length <= 1000) (hf : bQ b = 0) (k1 : jF b L = true) (k2 : uI (kM b) t = true) : PureF Tryz.prog p23.ix [.ag (eA b), .lst 1 (aD cJ L), .lst 1 (ints t)] (.tp [.lst 1 (aD aF (iW (DD (kM b) L t) b.rws.toNat b.pls.toNat)), .i .i64 0]) := by
 have Z := gH hf
 have V' := Z.v.nt
 have hv := Z.v.last
 have hw := Z.v.winl
 have hsl := Z.v.sunl
 have hrw := Z.v.rws
 have cC := mE b l1 l2 l3 l6
 rw [hf] at cC
 have cP := (uW (kM b) L (by show _ <= b.last + 1 /\ b.last + 1 <= _; omega) h1 h2).sub fun γ w => .cons (.ag (JG b)) (.cons (.pu (fun _ h => h) (aG L)) .nil)
 have cT := (nH (kM b) V' t l6 (Nat.zero_le _)).sub fun γ w => .cons (.ag (JG b)) (.cons (.pu (fun _ h => h) (aB t)) .nil)
 rw [show jF (kM b) L = jF b L from rfl, k1] at cP
 rw [k2] at cT
 obtain ⟨p1, p2⟩ := uJ.1 k1
 have tp := (mO V').1 k2
 have tl := tp.len
 have tl : (t.length : Int) = b.last + 1 := by first | exact tl | (have tl : t.length = hrs b := tl; unfold hrs at tl; omega) | (have tl : t.length = b.winds.length := tl; omega)
 have cS := uT L (by omega) (fun w hw => by have := (p2 w hw).1; omega)
 have cB := Ic (kM b) V' p86 [] [.pl (eA (kM b)) 0, .pl (gN (dA L)) 0, .pl [.lst 1 (ints t)] 0] (DD (kM b) L t) trivial (by simp [aT, Pu, aX, tS, aB]) (fun r p hr hp => DP (kM b) V' (dA L) r p hr hp t (by show t.length <= b.sun.length; omega) (GO V' tp) (by show b.brk.length <= 1000; have := Z.l4; omega))
 have cB : PureF Tryz.prog p85.ix [.ag (eA (kM b)), .fn p86 [] [.pl (eA (kM b)) 0, .pl (gN (dA L)) 0, .pl [.lst 1 (ints t)] 0]] (.lst 1 (aD aF (iW (DD (kM b) L t) b.rws.toNat b.pls.toNat))) := cB
 refine PureF.run Ey (by simp) (by simp [aT, dU, Pu, aX, aG, aB]) ?_; conv => whnf
 refine Rn.far rfl ?_
 refine RnF.seq ?_; conv => whnf
 repeat' ((first | refine Qw ?_ | refine Qv ?_) <;> conv => whnf)
 refine ⟨rfl, rfl, (by exact (show (1:Nat) <= _ from Nat.le_of_ble_eq_true rfl)), ?_⟩
 refine RnF.seq ?_; conv => whnf
 repeat' first | ((first | refine Qw ?_ | refine Qf cC ?_ | refine Qd (fun h => ?_) (fun h => ?_)) <;> conv => whnf) | (refine WB.tt ?_; conv => whnf) | (refine WB.ff ?_; conv => whnf)
 refine ⟨rfl, rfl, (by exact (show (1:Nat) <= _ from Nat.le_of_ble_eq_true rfl)), ?_⟩
 refine RnF.seq ?_; conv => whnf
 repeat' ((first | refine Qw ?_ | refine Qv ?_) <;> conv => whnf)
 refine ⟨rfl, rfl, (by exact (show (1:Nat) <= _ from Nat.le_of_ble_eq_true rfl)), ?_⟩
 refine RnF.seq ?_; conv => whnf
 repeat' ((first | refine Qw ?_ | refine Qv ?_) <;> conv => whnf)
 refine ⟨rfl, rfl, (by exact (show (1:Nat) <= _ from Nat.le_of_ble_eq_true rfl)), ?_⟩
 refine RnF.seq ?_; conv => whnf
 repeat' first | ((first | refine Qw ?_ | refine Qf cP ?_ | refine Qf cT ?_ | refine Qd (fun h => ?_) (fun h => ?_)) <;> conv => whnf) | (refine WB.tt ?_; conv => whnf) | (refine WB.ff ?_; conv => whnf)
 refine ⟨rfl, rfl, (by exact (show (1:Nat) <= _ from Nat.le_of_ble_eq_true rfl)), ?_⟩
 refine RnF.seq ?_; conv => whnf
 repeat' ((first | refine Qw ?_ | refine Qf cS ?_ | refine Qv ?_) <;> conv => whnf)
 refine ⟨rfl, rfl, (by exact (show (1:Nat) <= _ from Nat.le_of_ble_eq_true rfl)), ?_⟩
 refine RnF.turn (z' := ⟨(.n (.n .e none (.n (.n .e (some (.pl (eA (kM b)) 0)) .e) (some (.pl [.lst 1 (ints t)] 0)) .e)) none (.n .e none (.n (.n .e (some (.pl (gN (dA L)) 0)) .e) none .e))), .e, .h, none⟩) (B := fun _ => False) ?_ (fun id h => absurd (Pos.nat_pos id) (by have h : id.nat < 1 := h; omega)) (fun id h => h.elim) (Nat.le_refl _) ?_
 ·refine ShrB.of ?_ ?_ rfl rfl
  ·(repeat' first | exact Rel.e | refine Rel.some ?_ ?_ ?_ | refine Rel.none ?_ ?_ | refine Rel.ee ?_ ?_)
   all_goals show Fz _ _ _ _
   all_goals first | exact Frz.ptr (r := [.lst 1 (ints t)]) rfl rfl (by simp) (by simp [aT, Pu, aB]) | exact Frz.ptr rfl rfl (by simp [gN]) (tS _) | exact .pt (r := Hl b) (fun h => h) rfl (by simp [Hl]) (IX (Hl b) 0) (KF b)
  ·(repeat' first | exact Rel.e | refine Rel.some ?_ ?_ ?_ | refine Rel.none ?_ ?_ | refine Rel.ee ?_ ?_)
 ·conv => whnf
  repeat' ((first | refine Qw ?_ | refine Qf cB ?_ | refine Qv ?_) <;> conv => whnf)
  exact ⟨.inr rfl, _, rfl, .pu ⟨fS aP _, trivial, trivial⟩⟩
section
variable {sl : T D} {ob : T C} {nx : Pos} {lg : Option (T Bool)} {K : X → Prop}
theorem WSt.app_firstL {d idy : Pos} {z curY : Nat} {roY : Bool} {x y : RX} {a : D} {r : List D} {csY : List Cell} (hx : bO sl x = some a) (ha : a = .ns ∨ a = .em) (hy : bO sl y = some (.sl idy 0 1 0 z)) (hoy : ob.get idy = some (.cells roY csY curY)) (hcy : csY = r.map fun d => Cell.o d 0) (hr : r.length = z)
    (h : JB lg idy fun lg => JE lg nx fun lg => T.setK nx (.cells false (r.map fun d => Cell.o d 0) 1) ob fun ob => Pos.succK nx fun nx' => eT sl ob nx' lg d K (.sl nx 0 1 0 z)) : WSt (.app d z x y) ⟨sl, ob, nx, lg⟩ K := by
  obtain ⟨l1, e1, h⟩ := wX h
  obtain ⟨l2, e2, h⟩ := xP h
  rw [T.setK_eq, Pos.succK_eq] at h
  obtain ⟨h2, h3⟩ := bF h
  refine ⟨_, ?_, h3⟩
  show fO d z x y sl ob nx lg = _
  unfold fO
  rw [hx, hy]
  subst hcy hr
  have hb : Nat.beq r.length r.length = true := Nat.beq_refl _
  have hrd : gG (β := X) 0 (Nat.mul 1 r.length) (eC 0 (r.map fun d => Cell.o d 0)) = fun k => k r := by
    rw [cN, List.drop_zero, show Nat.mul 1 r.length = r.length from Nat.one_mul _]
    have key : ∀ (l : List D) (k : List D → Option X), gG 0 l.length (l.map fun d => Cell.o d 0) k = k l := by
      intro l
      induction l with
      | nil => exact fun k => rfl
      | cons a l ih => exact fun k => ih fun ds => k (a :: ds)
    exact funext fun k => key r k
  simp only [qX, hb, cond_true, hoy, hrd, tB, e1]
  have hle : Nat.ble (Nat.succ 0) 2147483648 = true := rfl
  rcases ha with rfl | rfl <;> simp only [hle, cond_true, gV, eY, e2, T.setK_eq, Pos.succK_eq] <;> exact h2
theorem WSt.app_oneL {d id idy : Pos} {z st len len' cur curY : Nat} {roY : Bool} {x y : RX} {ds r : List D} {csY : List Cell} {ob2 : T C} (hx : bO sl x = some (.sl id 0 len st z)) (hy : bO sl y = some (.sl idy 0 1 0 z)) (hoy : ob.get idy = some (.cells roY csY curY)) (hcy : csY = r.map fun d => Cell.o d 0) (hr : r.length = z) (hox : ob.get id = some (.cells false (ds.map fun d => Cell.o d st) cur)) (hds : ds.length = len * z) (hcur : cur = st + 1) (hlen : len' = len + 1) (hmax : len < 2147483648)
    (hob2 : T.set id (.cells false ((ds.map fun d => Cell.o d st) ++ r.map fun d => Cell.o d cur) (cur + 1)) ob = ob2) (h : JB lg idy fun lg => JE lg id fun lg => eT sl ob2 nx lg d K (.sl id 0 len' cur z)) : WSt (.app d z x y) ⟨sl, ob, nx, lg⟩ K := by
  obtain ⟨l1, e1, h⟩ := wX h
  obtain ⟨l2, e2, h⟩ := xP h
  obtain ⟨h2, h3⟩ := bF h
  refine ⟨_, ?_, h3⟩
  show fO d z x y sl ob nx lg = _
  unfold fO
  rw [hx, hy]
  subst hcy hr hlen hob2
  have hb : Nat.beq r.length r.length = true := Nat.beq_refl _
  have hrd : gG (β := X) 0 (Nat.mul 1 r.length) (eC 0 (r.map fun d => Cell.o d 0)) = fun k => k r := by
    rw [cN, List.drop_zero, show Nat.mul 1 r.length = r.length from Nat.one_mul _]
    have key : ∀ (l : List D) (k : List D → Option X), gG 0 l.length (l.map fun d => Cell.o d 0) k = k l := by
      intro l
      induction l with
      | nil => exact fun k => rfl
      | cons a l ih => exact fun k => ih fun ds => k (a :: ds)
    exact funext fun k => key r k
  simp only [qX, hb, cond_true, hoy, hrd, tB, e1]
  simp only [hox]
  have hidx : Nat.add 0 (Nat.mul len r.length) = ds.length := by rw [hds]; exact Nat.zero_add _
  rw [hidx, nE ds cur _ hcur]
  simp only [List.append_nil, bG, gM, e2, T.setK_eq]
  have e3 : Nat.add len (Nat.succ 0) = len + 1 := rfl
  rw [e3, Nat.ble_eq_true_of_le (show len + 1 ≤ 2147483648 from hmax)]
  exact h2
end
theorem De (b : Bh) (t : List Int) (l1 : b.face.length <= 1000) (l2 : b.sun.length <= 1000) (l3 : b.winds.length <= 1000) (l6 : ∀ w ∈ b.winds, w.length <= 1000) : PureF Tryz.prog p27.ix [.ag (eA b), .lst 1 (ints t)] (.b (decide (bQ b = 0) && uI b t)) := by
 have cC := mE b l1 l2 l3 l6
 refine PureF.run Kc (by simp) (by simp [aT, dU, Pu, aX, aB]) ?_; conv => whnf
 by_cases k : bQ b = 0
 ·rw [decide_eq_true k]
  rw [k] at cC
  have Z := gH k
  have cT := nH b Z.v t l6 (by have := Z.l5; omega)
  cases k2 : uI b t
  all_goals
   rw [k2] at cT
   repeat' first | ((first | refine Qw ?_ | refine Qf cC ?_ | refine Qf cT ?_ | refine Qd (fun h => ?_) (fun h => ?_)) <;> conv => whnf) | (refine WB.tt ?_; conv => whnf) | (refine WB.ff ?_; conv => whnf)
   exact Fin.b rfl rfl
 ·rw [decide_eq_false k]
  repeat' first | ((first | refine Qw ?_ | refine Qf cC ?_ | refine Qd (fun h => ?_) (fun h => ?_)) <;> conv => whnf) | (refine WB.tt ?_; conv => whnf) | (refine WB.ff ?_; conv => whnf)
  exact Fin.b rfl rfl
theorem Dt (b : Bh) (l1 : b.face.length <= 1000) (l2 : b.sun.length <= 1000) (l3 : b.winds.length <= 1000) (l6 : ∀ w ∈ b.winds, w.length <= 1000) : PureF Tryz.prog p28.ix [.ag (eA b)] (.i .i64 (bQ b)) := by
 have cC := zZ b l1 l2 l3 l6
 refine PureF.run JT (by simp) (by simp [aT, dU, Pu, aX]) ?_; conv => whnf
 repeat' ((first | refine Qw ?_ | refine Qf cC ?_ | refine Qv ?_) <;> conv => whnf)
 exact Fin.i rfl rfl
theorem tH (l : List Int) (hl : l.length <= 65536) : PureF Tryz.prog p26.ix [.lst 1 (ints l)] (.lst 1 (ints l)) := by
 have e1 := aL l
 refine PureF.run KO (by simp) (by simp [aT, dU, Pu, aB]) ?_; conv => whnf
 repeat' ((first | refine Qw ?_ | refine Qv ?_) <;> conv => whnf)
 refine WSt.app_emp rfl rfl rfl (uR l) (by omega) (fun st => ?_); conv => whnf
 repeat' ((first | refine Qw ?_ | refine Qv ?_) <;> conv => whnf)
 exact Fin.t (.inr rfl) rfl (Frz.whole (cur := st + 1) rfl rfl (uR l) rfl (aB l))
theorem Es (p : Int × Int) : PureF Tryz.prog p42.ix [.ag (bL p)] (.ag (bL p)) := by
 refine PureF.run JU (by simp) (by simp [aT, Pu, bL]) ?_; conv => whnf
 repeat' ((first | refine Qw ?_ | refine Qv ?_) <;> conv => whnf)
 exact ⟨.inr rfl, _, rfl, .pu (by simp [one, Pu, aT, bL])⟩
theorem KW (w : List Int) : (cJ w).length = 1 := rfl
theorem IJ (w : List Int) : aT (cJ w) := by simp [cJ, aT, Pu, aB]
def Md (L A : List (List Int)) (j : Nat) : X := ⟨(.n (.n (.n .e (some (.sl .h 0 j j 1)) .e) none .e) (some (.lst 1 (aD cJ L))) (.n (.n .e (some (.i .i64 (j : Int))) .e) none .e)), .n .e (some (.cells false ((aD cJ A).flatten.map fun d => Cell.o d j) (j + 1))) .e, .o .h, none⟩
theorem sL {α : Type} {l : List α} {j : Nat} {d : α} (h : j < l.length) : l.take (j + 1) = l.take j ++ [l.getD j d] := by
 rw [List.take_succ_eq_append_getElem h]; simp [List.getD, h]
theorem yP (L : List (List Int)) (hL : L.length <= 1000) (hl : ∀ w ∈ L, w.length <= 65536) : PureF Tryz.prog p25.ix [.lst 1 (aD cJ L)] (.lst 1 (aD cJ L)) := by
 have e1 := aK cJ L
 refine PureF.run Ks (by simp) (by simp [aT, dU, Pu, aG]) ?_; conv => whnf
 repeat' ((first | refine Qw ?_ | refine Qv ?_) <;> conv => whnf)
 refine Rn.loop (fun j : Nat => Md L (L.take j) j) (fun j => j <= L.length) (fun j => L.length - j) 0 ?_ (Nat.zero_le _) ?_
 ·refine X.le.mk ?_ ?_ (Nat.le_refl _) rfl rfl
  ·exact Lw
  ·exact Lw
 intro j hj
 have hj : j <= L.length := hj
 have hsc : j < L.length -> L.take (j + 1) = L.take j ++ [L.getD j default] := fun h => sL h
 have hAl : (L.take j).length = j := by rw [List.length_take]; omega
 have hend : j = L.length -> L.take j = L := fun h => by rw [List.take_of_length_le (by omega)]
 generalize hA : L.take j = A at *
 conv => whnf
 repeat' ((first | refine Qw ?_ | refine Qv ?_) <;> conv => whnf)
 refine WB.dec (fun hd => ?_) (fun hd => ?_) <;> conv => whnf
 ·have hlt : j < L.length := by omega
  have cL := tH (L.getD j default) (hl _ (aR hlt))
  repeat' ((first | refine Qw ?_ | refine Qf cL ?_ | refine Qv ?_) <;> conv => whnf)
  refine WSt.app_one (id := .h) (ds := (aD cJ A).flatten) (r := cJ (L.getD j default)) (by rfl) (by rfl) (by rfl) (by rfl) (by rfl) (by rfl) (by rw [dH (z := 1) KW, hAl]) (by rfl) (by rfl) (by omega) (by rfl) ?_; conv => whnf
  repeat' ((first | refine Qw ?_ | refine Qv ?_) <;> conv => whnf)
  refine Again.to (j + 1) (by omega) (show j + 1 <= L.length by omega) (Nat.le_refl _) ?_
  show Shr _ (Md L (L.take (j + 1)) (j + 1))
  rw [hsc hlt]
  refine Shr.of ?_ ?_ rfl rfl
  ·(repeat' first | exact Rel.e | refine Rel.some ?_ ?_ ?_ | refine Rel.none ?_ ?_ | refine Rel.ee ?_ ?_)
   all_goals show Fz _ _ _ _
   all_goals first | exact .pu trivial | exact .ksl (Ql rfl) | exact .pu (aG _)
  ·show Rel _ _ (.n .e (some (.cells false ((aD cJ (A ++ [L.getD j default])).flatten.map fun d => Cell.o d (j + 1)) (j + 1 + 1))) .e : T C) _
   rw [qA]
   (repeat' first | exact Rel.e | refine Rel.some ?_ ?_ ?_ | refine Rel.none ?_ ?_ | refine Rel.ee ?_ ?_)
   all_goals exact Ro (ShC.grown (by omega) (aQ.2 fun d hd => by
    rcases List.mem_append.1 hd with hd | hd <;> first | exact aQ.1 (dN IJ _) d hd | exact aQ.1 (IJ _) d hd))
 ·obtain rfl : j = L.length := by omega
  repeat' ((first | refine Qw ?_ | refine Qv ?_) <;> conv => whnf)
  have hE : FzE (fun _ => False) (.n .e (some (.cells false ((aD cJ A).flatten.map fun d => Cell.o d L.length) (L.length + 1))) .e) (aD cJ A) (aD cJ L) := by
   rw [hend rfl]; exact FzE.of (aG _)
  exact Fin.t (.inr rfl) rfl (.sl (es := aD cJ A) (cs := (aD cJ A).flatten.map fun d => Cell.o d L.length) (fun h => h) rfl (by rw [aK, hAl]) (fun r hr => by
   obtain ⟨m, _, rfl⟩ := List.mem_map.1 hr
   rfl) (IX (aD cJ A).flatten L.length) hE)
def xD : C := .cells false [.o (.i .i64 0) 0, .o (.i .i64 0) 0, .o (.i .i64 0) 0, .o (.i .i64 0) 0, .o .ns 0, .o .ns 0, .o .ns 0, .o .ns 0, .o .ns 0] 1
theorem nG {B : Pos -> Prop} {ob : T C} : ShC B ob xD xD := by
 refine ShC.same ?_
 (repeat' first | exact ShC.nl | refine ShC.cn ?_ ?_) <;> exact .pu trivial
def Ff (b : Bh) (x y : D) : C := .cells false [.o (.i .i64 b.last) 0, .o (.i .i64 b.rws) 0, .o (.i .i64 b.pls) 0, .o (.i .i64 b.rch) 0, .o (.lst 1 (ints b.face)) 0, .o (.lst 1 (ints b.sun)) 0, .o (.lst 1 (aD cJ b.winds)) 0, .o x 0, .o y 0] 1
theorem kS {B : Pos -> Prop} {ob : T C} (b : Bh) {x x' y y' : D} (hx : Fz B ob x x') (hy : Fz B ob y y') : ShC B ob (Ff b x y) (Ff b x' y') := by
 refine .cells fun k c' hc => ?_
 match k, hc with
 | 0, hc => cases hc; exact ⟨_, rfl, fun _ h => h, .pu trivial⟩
 | 1, hc => cases hc; exact ⟨_, rfl, fun _ h => h, .pu trivial⟩
 | 2, hc => cases hc; exact ⟨_, rfl, fun _ h => h, .pu trivial⟩
 | 3, hc => cases hc; exact ⟨_, rfl, fun _ h => h, .pu trivial⟩
 | 4, hc => cases hc; exact ⟨_, rfl, fun _ h => h, .pu (aB _)⟩
 | 5, hc => cases hc; exact ⟨_, rfl, fun _ h => h, .pu (aB _)⟩
 | 6, hc => cases hc; exact ⟨_, rfl, fun _ h => h, .pu (aG _)⟩
 | 7, hc => cases hc; exact ⟨_, rfl, fun _ h => h, hx⟩
 | 8, hc => cases hc; exact ⟨_, rfl, fun _ h => h, hy⟩
 | k + 9, hc => cases hc
def Fh : RC -> RC
 | .seq _ b => b
 | c => c
def IG : RC := Fh (Fh (Fh IP))
def JW (b : Bh) : X := ⟨(.n (.n (.n .e (some (.pt (.i .h) 0 0)) .e) (some (.pt .h 0 0)) .e) none (.n .e (some (.pt (.o .h) 0 0)) .e)), (.n (.n .e (some (xD)) .e) (some (bX b)) (.n .e (some (Ff b (.lst 2 (aD bL b.brk)) .ns)) .e)), .o (.o .h), none⟩
def Fm (b : Bh) (A : List (Int × Int)) (j : Nat) : X := ⟨(.n (.n (.n .e (some (.pt (.i .h) 0 0)) .e) (some (.pt .h 0 0)) .e) none (.n (.n .e (some (.i .i64 (j : Int))) .e) (some (.pt (.o .h) 0 0)) .e)), (.n (.n .e (some (xD)) .e) (some (bX b)) (.n (.n .e (rY bL A) .e) (some (Ff b (rA (.i (.o .h)) 2 A) .ns)) .e)), fC (.o (.o .h)) (.o (.i .h)) A, none⟩
def Ft (b : Bh) (A : List (Int × Int)) (j : Nat) : X := ⟨(.n (.n (.n .e (some (.pt (.i .h) 0 0)) .e) (some (.pt .h 0 0)) (.n .e (some (.i .i64 (j : Int))) .e)) none (.n .e (some (.pt (.o .h) 0 0)) .e)), (.n (.n .e (some (xD)) .e) (some (bX b)) (.n (.n .e (rY bL A) .e) (some (Ff b (.lst 2 (aD bL b.brk)) (rA (.i (.o .h)) 2 A))) .e)), fC (.o (.o .h)) (.o (.i .h)) A, none⟩
theorem Cl (b : Bh) (l5 : b.nts.length <= 1000) : Rn Tryz.prog 68 IG (JW b) (Fin GA (.ag (eA b))) := by
 have e2 := aK bL b.nts
 conv => whnf
 repeat' ((first | refine Qw ?_ | refine Qv ?_) <;> conv => whnf)
 refine Rn.loop (fun j : Nat => Ft b (b.nts.take j) j) (fun j => j <= b.nts.length /\ True) (fun j => b.nts.length - j) 0 ?_ ?_ ?_
 ·refine X.le.mk ?_ ?_ (Nat.le_refl _) rfl rfl
  ·show T.le ((.n (.n (.n .e (some (.pt (.i .h) 0 0)) .e) (some (.pt .h 0 0)) (.n .e (some (.i .i64 0)) .e)) none (.n .e (some (.pt (.o .h) 0 0)) .e)) : Ev.T D) _
   exact Lw
  ·exact Lw
 ·exact ⟨Nat.zero_le _, trivial⟩
 rintro j ⟨hj, _⟩
 have hsc : j < b.nts.length -> b.nts.take (j + 1) = b.nts.take j ++ [b.nts.getD j default] := fun h => sL h
 have hAl : (b.nts.take j).length <= j := by rw [List.length_take]; omega
 have hend : j = b.nts.length -> b.nts.take j = b.nts := fun h => by rw [List.take_of_length_le (by omega)]
 generalize hA : b.nts.take j = A at *
 conv => whnf
 repeat' ((first | refine Qw ?_ | refine Qv ?_) <;> conv => whnf)
 refine WB.dec (fun hd => ?_) (fun hd => ?_) <;> conv => whnf
 ·have hlt : j < b.nts.length := by omega
  have hsc := hsc hlt
  cases A with
  | nil =>
    repeat' ((first | refine Qw ?_ | refine Qv ?_) <;> conv => whnf)
    refine WSt.app_firstL (r := bL (b.nts.getD j default)) (by rfl) (.inl rfl) (by rfl) (by rfl) (by rfl) (by rfl) ?_; conv => whnf
    repeat' ((first | refine Qw ?_ | refine Qv ?_) <;> conv => whnf)
    refine Again.to (j + 1) (by omega) ⟨by omega, trivial⟩ (by show (fC (.o (.o .h)) (.o (.i .h)) (b.nts.take j)).nat <= (fC (.o (.o .h)) (.o (.i .h)) (b.nts.take (j + 1))).nat; rw [hA, hsc]; exact (show 4 <= 6 by omega)) ?_
    show Shr _ (Ft b (b.nts.take (j + 1)) (j + 1))
    rw [hsc]
    refine Shr.of ?_ ?_ rfl rfl
    ·(repeat' first | exact Rel.e | refine Rel.some ?_ ?_ ?_ | refine Rel.none ?_ ?_ | refine Rel.ee ?_ ?_)
     all_goals show Fz _ _ _ _
     all_goals first | exact Fy
    ·(repeat' first | exact Rel.e | refine Rel.some ?_ ?_ ?_ | refine Rel.none ?_ ?_ | refine Rel.ee ?_ ?_)
     all_goals first
      | exact Ro (aJ b)
      | exact Ro nG
      | exact Ro (kS b (.pu (aN _)) (.pu trivial))
      | exact Ro (kS b (.pu (aN _)) (.ksl (Ql rfl)))
      | (refine Ro (ShC.same fun c hc => ?_); obtain ⟨d, hd, rfl⟩ := List.mem_map.1 hc; exact .pu (aQ.1 (vW _) d hd))
  | cons a s =>
    have hs5 : s.length + 1 <= 1000 := Nat.le_trans hAl (by omega)
    repeat' ((first | refine Qw ?_ | refine Qv ?_) <;> conv => whnf)
    refine WSt.app_oneL (id := (.i (.o .h))) (ds := (aD bL (a :: s)).flatten) (r := bL (b.nts.getD j default)) (by rfl) (by rfl) (by rfl) (by rfl) (by rfl) (by rfl) (by rw [dH (z := 2) Dm]; rfl) (by rfl) (by rfl) (by omega) (by rfl) ?_; conv => whnf
    repeat' ((first | refine Qw ?_ | refine Qv ?_) <;> conv => whnf)
    refine Again.to (j + 1) (by omega) ⟨by omega, trivial⟩ (by show (fC (.o (.o .h)) (.o (.i .h)) (b.nts.take j)).nat <= (fC (.o (.o .h)) (.o (.i .h)) (b.nts.take (j + 1))).nat; rw [hA, hsc, List.cons_append]; exact (show 6 <= 6 by omega)) ?_
    show Shr _ (Ft b (b.nts.take (j + 1)) (j + 1))
    rw [hsc, List.cons_append]
    refine Shr.of ?_ ?_ rfl rfl
    ·(repeat' first | exact Rel.e | refine Rel.some ?_ ?_ ?_ | refine Rel.none ?_ ?_ | refine Rel.ee ?_ ?_)
     all_goals show Fz _ _ _ _
     all_goals first | exact Fy
    ·show Rel _ _ ((.n (.n .e (some (xD)) .e) (some (bX b)) (.n (.n .e (rY bL (a :: (s ++ [(b.nts.getD j default)]))) .e) (some (Ff b (.lst 2 (aD bL b.brk)) (rA (.i (.o .h)) 2 (a :: (s ++ [(b.nts.getD j default)]))))) .e)) : Ev.T Ev.C) _
     rw [eM, eO]
     (repeat' first | exact Rel.e | refine Rel.some ?_ ?_ ?_ | refine Rel.none ?_ ?_ | refine Rel.ee ?_ ?_)
     all_goals first
      | exact Ro (aJ b)
      | exact Ro nG
      | exact Ro (kS b (.pu (aN _)) (.pu trivial))
      | exact Ro (kS b (.pu (aN _)) (.ksl (Ql rfl)))
      | (refine Ro (ShC.grown (by omega) (aQ.2 fun d hd => ?_)); rcases List.mem_append.1 hd with hd | hd <;> first | exact aQ.1 (dN vW _) d hd | exact aQ.1 (vW _) d hd)
 ·obtain rfl : j = b.nts.length := by omega
  have hE := hend rfl
  cases A with
  | nil =>
    repeat' ((first | refine Qw ?_ | refine Qv ?_) <;> conv => whnf)
    refine ⟨.inr rfl, _, rfl, .ag ?_⟩
    unfold eA
    rw [<- hE]
    exact .cons (.pu trivial) (.cons (.pu trivial) (.cons (.pu trivial) (.cons (.pu trivial) (.cons (.pu (aB _)) (.cons (.pu (aB _)) (.cons (.pu (aG _)) (.cons (.pu (aN _)) (.cons .ns .nil))))))))
  | cons a s =>
    repeat' ((first | refine Qw ?_ | refine Qv ?_) <;> conv => whnf)
    refine ⟨.inr rfl, _, rfl, .ag ?_⟩
    unfold eA
    rw [<- hE]
    exact .cons (.pu trivial) (.cons (.pu trivial) (.cons (.pu trivial) (.cons (.pu trivial) (.cons (.pu (aB _)) (.cons (.pu (aB _)) (.cons (.pu (aG _)) (.cons (.pu (aN _)) (.cons (Fz.G (a :: s) (fun h => h) (fun c h => h) Dm vW) .nil))))))))
theorem Dw (b : Bh) (l1 : b.face.length <= 1000) (l2 : b.sun.length <= 1000) (l3 : b.winds.length <= 1000) (l4 : b.brk.length <= 1000) (l5 : b.nts.length <= 1000) (l6 : ∀ w ∈ b.winds, w.length <= 1000) : PureF Tryz.prog p24.ix [.ag (eA b)] (.ag (eA b)) := by
 have e1 := aK bL b.brk
 have hrest := Cl b l5
 have c1 := tH b.face (by omega)
 have c2 := tH b.sun (by omega)
 have c3 := yP b.winds l3 (fun w h => Nat.le_trans (l6 w h) (by decide))
 refine PureF.run LG (by simp) (by simp [aT, dU, Pu, aX]) ?_; conv => whnf
 refine Rn.far rfl ?_
 refine RnF.seq ?_; conv => whnf
 repeat' ((first | refine Qw ?_ | refine Qv ?_) <;> conv => whnf)
 refine ⟨rfl, rfl, Nat.le_of_ble_eq_true rfl, ?_⟩
 refine RnF.seq ?_; conv => whnf
 repeat' ((first | refine Qw ?_ | refine Qf c1 ?_ | refine Qf c2 ?_ | refine Qf c3 ?_ | refine Qv ?_) <;> conv => whnf)
 refine ⟨rfl, rfl, Nat.le_of_ble_eq_true rfl, ?_⟩
 refine RnF.seq ?_; conv => whnf
 repeat' ((first | refine Qw ?_ | refine Qv ?_) <;> conv => whnf)
 refine Rn.loop (fun j : Nat => Fm b (b.brk.take j) j) (fun j => j <= b.brk.length /\ True) (fun j => b.brk.length - j) 0 ?_ ?_ ?_
 ·refine X.le.mk ?_ ?_ (Nat.le_refl _) rfl rfl
  ·show T.le ((.n (.n (.n .e (some (.pt (.i .h) 0 0)) .e) (some (.pt .h 0 0)) .e) none (.n (.n .e (some (.i .i64 0)) .e) (some (.pt (.o .h) 0 0)) .e)) : Ev.T D) _
   exact Lw
  ·exact Lw
 ·exact ⟨Nat.zero_le _, trivial⟩
 rintro j ⟨hj, _⟩
 have hsc : j < b.brk.length -> b.brk.take (j + 1) = b.brk.take j ++ [b.brk.getD j default] := fun h => sL h
 have hAl : (b.brk.take j).length <= j := by rw [List.length_take]; omega
 have hend : j = b.brk.length -> b.brk.take j = b.brk := fun h => by rw [List.take_of_length_le (by omega)]
 generalize hA : b.brk.take j = A at *
 conv => whnf
 repeat' ((first | refine Qw ?_ | refine Qv ?_) <;> conv => whnf)
 refine WB.dec (fun hd => ?_) (fun hd => ?_) <;> conv => whnf
 ·have hlt : j < b.brk.length := by omega
  have hsc := hsc hlt
  have cS := Es (b.brk.getD j default)
  cases A with
  | nil =>
    repeat' ((first | refine Qw ?_ | refine Qf cS ?_ | refine Qv ?_) <;> conv => whnf)
    refine WSt.app_firstL (r := bL (b.brk.getD j default)) (by rfl) (.inl rfl) (by rfl) (by rfl) (by rfl) (by rfl) ?_; conv => whnf
    repeat' ((first | refine Qw ?_ | refine Qv ?_) <;> conv => whnf)
    refine Again.to (j + 1) (by omega) ⟨by omega, trivial⟩ (by show (fC (.o (.o .h)) (.o (.i .h)) (b.brk.take j)).nat <= (fC (.o (.o .h)) (.o (.i .h)) (b.brk.take (j + 1))).nat; rw [hA, hsc]; exact (show 4 <= 6 by omega)) ?_
    show Shr _ (Fm b (b.brk.take (j + 1)) (j + 1))
    rw [hsc]
    refine Shr.of ?_ ?_ rfl rfl
    ·(repeat' first | exact Rel.e | refine Rel.some ?_ ?_ ?_ | refine Rel.none ?_ ?_ | refine Rel.ee ?_ ?_)
     all_goals show Fz _ _ _ _
     all_goals first | exact Fy
    ·(repeat' first | exact Rel.e | refine Rel.some ?_ ?_ ?_ | refine Rel.none ?_ ?_ | refine Rel.ee ?_ ?_)
     all_goals first
      | exact Ro (aJ b)
      | exact Ro nG
      | exact Ro (kS b (.pu trivial) (.pu trivial))
      | exact Ro (kS b (.ksl (Ql rfl)) (.pu trivial))
      | (refine Ro (ShC.same fun c hc => ?_); obtain ⟨d, hd, rfl⟩ := List.mem_map.1 hc; exact .pu (aQ.1 (vW _) d hd))
  | cons a s =>
    have hs5 : s.length + 1 <= 1000 := Nat.le_trans hAl (by omega)
    repeat' ((first | refine Qw ?_ | refine Qf cS ?_ | refine Qv ?_) <;> conv => whnf)
    refine WSt.app_oneL (id := (.i (.o .h))) (ds := (aD bL (a :: s)).flatten) (r := bL (b.brk.getD j default)) (by rfl) (by rfl) (by rfl) (by rfl) (by rfl) (by rfl) (by rw [dH (z := 2) Dm]; rfl) (by rfl) (by rfl) (by omega) (by rfl) ?_; conv => whnf
    repeat' ((first | refine Qw ?_ | refine Qv ?_) <;> conv => whnf)
    refine Again.to (j + 1) (by omega) ⟨by omega, trivial⟩ (by show (fC (.o (.o .h)) (.o (.i .h)) (b.brk.take j)).nat <= (fC (.o (.o .h)) (.o (.i .h)) (b.brk.take (j + 1))).nat; rw [hA, hsc, List.cons_append]; exact (show 6 <= 6 by omega)) ?_
    show Shr _ (Fm b (b.brk.take (j + 1)) (j + 1))
    rw [hsc, List.cons_append]
    refine Shr.of ?_ ?_ rfl rfl
    ·(repeat' first | exact Rel.e | refine Rel.some ?_ ?_ ?_ | refine Rel.none ?_ ?_ | refine Rel.ee ?_ ?_)
     all_goals show Fz _ _ _ _
     all_goals first | exact Fy
    ·show Rel _ _ ((.n (.n .e (some (xD)) .e) (some (bX b)) (.n (.n .e (rY bL (a :: (s ++ [(b.brk.getD j default)]))) .e) (some (Ff b (rA (.i (.o .h)) 2 (a :: (s ++ [(b.brk.getD j default)]))) .ns)) .e)) : Ev.T Ev.C) _
     rw [eM, eO]
     (repeat' first | exact Rel.e | refine Rel.some ?_ ?_ ?_ | refine Rel.none ?_ ?_ | refine Rel.ee ?_ ?_)
     all_goals first
      | exact Ro (aJ b)
      | exact Ro nG
      | exact Ro (kS b (.pu trivial) (.pu trivial))
      | exact Ro (kS b (.ksl (Ql rfl)) (.pu trivial))
      | (refine Ro (ShC.grown (by omega) (aQ.2 fun d hd => ?_)); rcases List.mem_append.1 hd with hd | hd <;> first | exact aQ.1 (dN vW _) d hd | exact aQ.1 (vW _) d hd)
 ·obtain rfl : j = b.brk.length := by omega
  have hE := hend rfl
  cases A with
  | nil =>
    repeat' ((first | refine Qw ?_ | refine Qv ?_) <;> conv => whnf)
    refine ⟨rfl, rfl, Nat.le_of_ble_eq_true rfl, RnF.turn (z' := JW b) (B := fun id => id.nat < 4) ?_ (fun id (h : id.nat < 1) => show id.nat < 4 by omega) (fun id h => h) (Nat.le_of_ble_eq_true rfl) hrest⟩
    refine ShrB.of ?_ ?_ rfl rfl
    ·(repeat' first | exact Rel.e | refine Rel.some ?_ ?_ ?_ | refine Rel.none ?_ ?_ | refine Rel.ee ?_ ?_)
     all_goals show Fz _ _ _ _
     all_goals first | exact Fy
    ·(repeat' first | exact Rel.e | refine Rel.some ?_ ?_ ?_ | refine Rel.none ?_ ?_ | refine Rel.ee ?_ ?_)
     ·exact Ro nG
     ·exact Ro (aJ b)
     ·refine ⟨show _ < 4 by simp [Pos.nat], kS b ?_ (.pu trivial)⟩
      rw [<- hE]
      exact .ns
  | cons a s =>
    repeat' ((first | refine Qw ?_ | refine Qv ?_) <;> conv => whnf)
    refine ⟨rfl, rfl, Nat.le_of_ble_eq_true rfl, RnF.turn (z' := JW b) (B := fun id => id.nat < 4) ?_ (fun id (h : id.nat < 1) => show id.nat < 4 by omega) (fun id h => h) (Nat.le_of_ble_eq_true rfl) hrest⟩
    refine ShrB.of ?_ ?_ rfl rfl
    ·(repeat' first | exact Rel.e | refine Rel.some ?_ ?_ ?_ | refine Rel.none ?_ ?_ | refine Rel.ee ?_ ?_)
     all_goals show Fz _ _ _ _
     all_goals first | exact Fy
    ·(repeat' first | exact Rel.e | refine Rel.some ?_ ?_ ?_ | refine Rel.none ?_ ?_ | refine Rel.ee ?_ ?_)
     ·exact Ro nG
     ·exact Ro (aJ b)
     ·refine ⟨show _ < 4 by simp [Pos.nat], kS b ?_ (.pu trivial)⟩
      rw [<- hE]
      exact Fz.G (a :: s) (show ¬ (5 : Nat) < 4 by omega) (fun c h => h) Dm vW
end Go.Ev
end
