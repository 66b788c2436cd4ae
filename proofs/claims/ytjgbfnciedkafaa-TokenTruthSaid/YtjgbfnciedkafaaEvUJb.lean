import Derived.Test.YtjgbfnciedkafaaEvUJ8
import Derived.Test.YtjgbfnciedkafaaEvUJ6
set_option linter.all false
set_option maxHeartbeats 8000000
noncomputable section
namespace Go.Ev
open Go.Proofs
set_option maxRecDepth 100000
theorem WCall.borrow1 {P : Program} {f : Nat} {ds ds' : List D} {v : D} (h : PureF P f ds' v) (id : Pos) (c : C) {sl : T D} {ob : T C} {nx : Pos} {lg lg2 : Option (T Bool)} {d : Option Pos} {K : X -> Prop} (hz : FzL (fun _ => False) (T.set id c .e) ds ds') (hv : kG v) (hid : ob.get id = some c) (hlg2 : Hm lg id = lg2) (k : nC sl ob nx lg2 d K v) : WCall P f ds d ⟨sl, ob, nx, lg⟩ K := by
 subst hlg2
 have hone : (T.set id c .e).get id = some c := T.get_set_same _ _ _
 have C := PureF.borrowL h (ob := ob) (ob1 := T.set id c .e) (ds := ds) hz (fun j c' hc => by
  by_cases e : j = id
  ·subst e; rw [hone] at hc; rw [<- hc]; exact hid
  ·rw [T.get_set_ne e _ _, T.get_e] at hc; cases hc) hv nx (Dw lg id) (fun j c' hc => by
  by_cases e : j = id
  ·subst e; exact (Jx lg j).tchd
  ·rw [T.get_set_ne e _ _, T.get_e] at hc; cases hc)
 cases d with
 | none => exact ⟨_, _, _, _, _, C, rfl, k⟩
 | some d =>
   obtain ⟨h1, h2⟩ := aV k
   exact ⟨_, _, _, _, _, C, h1, h2⟩
def Fg : Mo := ⟨0, fun _ => 0, 0, 0, ⟨0, 0, 0⟩⟩
def fG (F : Nat -> Mo) : List D := dI (F 0) ++ (dI (F 1) ++ (dI (F 2) ++ (dI (F 3) ++ (dI (F 4) ++ (dI (F 5) ++ (dI (F 6) ++ (dI (F 7) ++ dI (F 8))))))))
theorem qI (F : Nat -> Mo) : aO (fG F) := by simp [fG, dI, aO, Pu]
def uA (box coin : Int) (T : List Ln) (j q : Nat) : Mo := bif Nat.ble q j then fJ box coin T q else Fg
def qL (F : Nat -> Mo) : C := .cells false ((fG F).map fun d => Cell.o d 0) 1
def Zm (m : Mo) : C := .cells false ((dI m).map fun d => Cell.o d 0) 1
def Zp (n coin box : Int) (ls : List Ln) (cs : List Ct) : C := .cells false ((jF n coin box ls cs).map fun d => Cell.o d 0) 1
theorem Lj {l : List D} {n m st : Nat} (h : KpL n l) : KpC n (.cells false (l.map fun d => Cell.o d st) m) := by
 refine KpL.all ?_
 rw [List.map_map]
 rw [show (Cell.d ∘ fun d => Cell.o d st) = id from rfl, List.map_id]
 exact h
theorem jZ (F : Nat -> Mo) (n : Nat) : KpL n (fG F) := by simp [fG, dI, KpL, Kp, Pu]
def bY (n : Int) (ls T : List Ln) : Bool := decide (T.length = ls.length) && (List.range T.length).all fun q => Ay n (ls.getD q default) (T.getD q default) && eA T q
def nF (box coin n : Int) (ls T : List Ln) : Nat -> Mo := bif bY n ls T then uA box coin T T.length else fun _ => Fg
def FX (Tr : List Ln) (j : Nat) : T D := (.n (.n (.n (.n .e (some (.pt (.o (.o .h)) 0 0)) .e) none (.n .e none (.n .e (some (.i .i64 (j : Int))) .e))) none (.n (.n .e none (.n .e (some (.lst 3 (aC aI Tr))) .e)) (some (.b false)) .e)) none (.n (.n .e (some (.pt (.o .h) 0 0)) .e) (some (.pt .h 0 0)) (.n (.n .e none (.n .e (some (.i .i64 ((aC aI Tr).length : Int))) .e)) (some (.pt (.i .h) 0 0)) .e)))
def GD (n coin box : Int) (ls : List Ln) (cs : List Ct) (Tr : List Ln) (j : Nat) : T C := (.n (.n (.n .e (some (Zm (fJ box coin Tr j))) .e) (some (qL (fun _ => Fg))) .e) (some (Zp n coin box ls cs)) (.n .e (some (qL (uA box coin Tr j))) .e))
def five5 : Pos := .i (.o .h)
theorem nR (Tr : List Ln) (j : Nat) : ∀ s d, (FX Tr j).get s = some d -> Kp five5.nat d := by
 show TAll (fun _ d => Kp five5.nat d) (FX Tr j)
 unfold FX
 repeat' first | exact TAll.e | refine TAll.some ?_ ?_ ?_ | refine TAll.none ?_ ?_
 all_goals simp [Kp, KpL, Pu, aB, five5, Pos.nat]
theorem nS (n coin box : Int) (ls : List Ln) (cs : List Ct) (Tr : List Ln) (j : Nat) : KpO five5.nat (GD n coin box ls cs Tr j) := by
 show TAll (fun id c => id.nat < five5.nat /\ KpC five5.nat c) (GD n coin box ls cs Tr j)
 unfold GD
 repeat' first | exact TAll.e | refine TAll.some ?_ ?_ ?_ | refine TAll.none ?_ ?_
 all_goals refine ⟨by simp [Pos.nat, five5], ?_⟩
 all_goals first
  | exact Lj (jZ _ _)
  | exact Lj (show KpL _ (dI _) by simp [dI, KpL, Kp, Pu])
  | exact Lj (show KpL _ (jF _ _ _ _ _) by simp [jF, KpL, Kp, Pu, aB, aE])
theorem MY {m : Nat} (h : m < 8) : m = 0 \/ m = 1 \/ m = 2 \/ m = 3 \/ m = 4 \/ m = 5 \/ m = 6 \/ m = 7 := by omega
theorem HA {n : Int} {l r : Ln} (hn : 1 <= n /\ n <= 4) (hk : 0 <= l.k /\ l.k <= 2) (hc : -1 <= l.c /\ l.c <= 3) (ht : -1 <= l.t /\ l.t <= 3) (h : Ay n l r = true) : (r.k = 1 \/ r.k = 2) /\ (0 <= r.c /\ r.c <= 3) /\ (0 <= r.t /\ r.t <= 3) := by
 obtain ⟨h1, h2, h3, h4, h5, h6⟩ := of_decide_eq_true h
 unfold eJ at h1
 unfold nE at h2
 unfold gK at h3
 unfold mW at h4
 unfold lA at h5
 unfold oX at h6
 refine ⟨?_, ?_, ?_⟩
 ·split at h1 <;> split at h2 <;> omega
 ·split at h3 <;> split at h4 <;> omega
 ·split at h5 <;> split at h6 <;> omega
theorem AD {box coin n : Int} {ls Tr : List Ln} (h : bY n ls Tr = false) : nF box coin n ls Tr = fun _ => Fg := by unfold nF; rw [h]; rfl
theorem BN (n coin box : Int) (ls : List Ln) (cs : List Ct) (hn : 1 <= n /\ n <= 4) (hcn : 1 <= coin /\ coin <= 99) (hbx : 0 <= box /\ box <= 999) (hlen : ls.length <= 8) (hls : ls.all (cL n) = true) (Tr : List Ln) (hT : Tr.length <= 65536) (hw : ∀ r ∈ Tr, kS r) :
 PureF Try.prog p76.ix [.ag [.i .i64 n, .i .i64 coin, .i .i64 box, .lst 3 (aC aI ls), .lst 3 (aC cY cs), .any], .lst 3 (aC aI Tr)] (.tp [.ag (fG (nF box coin n ls Tr)), .b (bY n ls Tr)]) := by
 have e1 := aD aI ls
 have e2 := aD aI Tr
 refine PureF.run XH (by simp) (by simp [aO, dF, Pu, aH, aB, aE]) ?_; conv => whnf
 by_cases hl : Tr.length = ls.length
 ·have hlen' : Tr.length <= 8 := by omega
  repeat' ((first | refine Qw ?_ | refine Qf (sX n coin box ls cs Tr) ?_ | refine Qd (fun h => ?_) (fun h => ?_)) <;> conv => whnf)
  refine WSt.ixaN (m := 0) rfl rfl rfl (by omega) ?_; conv => whnf
  repeat' ((first | refine Qw ?_ | refine Qf (sX n coin box ls cs Tr) ?_ | refine Qd (fun h => ?_) (fun h => ?_)) <;> conv => whnf)
  refine Rn.loop (fun j : Nat => ⟨FX Tr j, GD n coin box ls cs Tr j, five5, none⟩) (fun j => j <= Tr.length /\ ∀ q, q < j -> (Ay n (ls.getD q default) (Tr.getD q default) && eA Tr q) = true) (fun j => Tr.length - j) 0 ?_ ?_ ?_
  ·refine X.le.mk ?_ ?_ (Nat.le_refl _) rfl rfl <;> (first | unfold FX | unfold GD) <;> exact eN
  ·exact ⟨Nat.zero_le _, fun q h => absurd h (Nat.not_lt_zero _)⟩
  rintro j ⟨hj, hq⟩
  have hj : j <= Tr.length := hj
  conv => whnf
  refine Qg ?_
  refine WB.dec (fun h => ?_) (fun h => ?_) <;> conv => whnf
  ·have hlt : j < Tr.length := by omega
   have hlt' : j < ls.length := by omega
   have hok := List.all_eq_true.1 hls _ (bS (d := default) hlt')
   unfold cL at hok
   simp only [Bool.and_eq_true, aP] at hok
   obtain ⟨hk, hc, ht⟩ := hok
   have hc : -1 <= (ls.getD j default).c /\ (ls.getD j default).c <= 3 := by omega
   have ht : -1 <= (ls.getD j default).t /\ (ls.getD j default).t <= 3 := by omega
   have cS := Rf n coin box ls cs hn (ls.getD j default) hk hc ht (Tr.getD j default) (hw _ (bS hlt))
   have hno : (Ay n (ls.getD j default) (Tr.getD j default) && eA Tr j) = false -> bY n ls Tr = false := fun h => by
    refine Bool.eq_false_iff.2 fun hf => ?_
    unfold bY at hf
    rw [Bool.and_eq_true] at hf
    have := List.all_eq_true.1 hf.2 j (List.mem_range.2 hlt)
    rw [h] at this; cases this
   cases hR : Ay n (ls.getD j default) (Tr.getD j default) with
   | false =>
     rw [hR] at cS hno
     repeat' ((first | refine Qz ?_ | refine Qf (jN n coin box ls cs (ls.getD j default)) ?_) <;> conv => whnf)
     refine WCall.borrow1 cS five5 (.cells false ((fL (Tr.getD j default)).map fun d => Cell.o d 0) 1) (.cons ?_ (.cons (.fn .nil (.cons ?_ .nil)) .nil)) trivial rfl rfl ?_
     ·exact .pu (by simp [Pu, aO, jS, fL])
     ·exact Frz.ptr (r := fL (Tr.getD j default)) rfl rfl (by simp [fL]) (by simp [fL, aO, Pu])
     conv => whnf
     repeat' ((first | refine Qw ?_ | refine Qd (fun h => ?_) (fun h => ?_)) <;> conv => whnf)
     rw [AD (hno rfl), hno rfl]
     refine ⟨.inr rfl, _, rfl, .tp (.cons (.pu ?_) (.cons (.pu trivial) .nil))⟩
     exact qI (fun _ => Fg)
   | true =>
     obtain ⟨rk, rc, rt⟩ := HA hn hk hc ht hR
     have hm1 := sG (T := Tr) hbx hcn j
     have hm2 := Ad (T := Tr) j
     have cA := Fq n coin box ls cs (fJ box coin Tr j) (Tr.getD j default) hcn ⟨show 0 <= (j : Int) by omega, show (j : Int) <= 50 by omega⟩ ⟨show -100000 <= cQ box coin Tr j by omega, show cQ box coin Tr j <= 100000 by omega⟩ ⟨show 0 <= gQ Tr j by omega, show gQ Tr j <= 50 by omega⟩ (fun q => by
      have g1 := kL Tr (q : Int) j
      have g2 := kI Tr ((q - 4 : Nat) : Int) j
      show 0 <= (if q < 4 then aZ Tr (q : Int) j + 1 else bC Tr ((q - 4 : Nat) : Int) j + 1) /\ (if q < 4 then aZ Tr (q : Int) j + 1 else bC Tr ((q - 4 : Nat) : Int) j + 1) <= 50
      split <;> omega) rc rt
     rw [hR] at cS hno
     cases hP : eA Tr j with
     | false =>
       rw [HT rk rc rt hP] at cA
       rw [hP] at hno
       repeat' ((first | refine Qz ?_ | refine Qf (jN n coin box ls cs (ls.getD j default)) ?_) <;> conv => whnf)
       refine WCall.borrow1 cS five5 (.cells false ((fL (Tr.getD j default)).map fun d => Cell.o d 0) 1) (.cons ?_ (.cons (.fn .nil (.cons ?_ .nil)) .nil)) trivial rfl rfl ?_
       ·exact .pu (by simp [Pu, aO, jS, fL])
       ·exact Frz.ptr (r := fL (Tr.getD j default)) rfl rfl (by simp [fL]) (by simp [fL, aO, Pu])
       conv => whnf
       repeat' ((first | refine Qw ?_ | refine Qf cA ?_ | refine Qd (fun h => ?_) (fun h => ?_)) <;> conv => whnf)
       rw [AD (hno rfl), hno rfl]
       refine ⟨.inr rfl, _, rfl, .tp (.cons (.pu ?_) (.cons (.pu trivial) .nil))⟩
       exact qI (fun _ => Fg)
     | true =>
       rw [ER rk rc rt hP] at cA
       repeat' ((first | refine Qz ?_ | refine Qf (jN n coin box ls cs (ls.getD j default)) ?_) <;> conv => whnf)
       refine WCall.borrow1 cS five5 (.cells false ((fL (Tr.getD j default)).map fun d => Cell.o d 0) 1) (.cons ?_ (.cons (.fn .nil (.cons ?_ .nil)) .nil)) trivial rfl rfl ?_
       ·exact .pu (by simp [Pu, aO, jS, fL])
       ·exact Frz.ptr (r := fL (Tr.getD j default)) rfl rfl (by simp [fL]) (by simp [fL, aO, Pu])
       conv => whnf
       repeat' ((first | refine Qw ?_ | refine Qf cA ?_ | refine Qd (fun h => ?_) (fun h => ?_)) <;> conv => whnf)
       have h8 : j < 8 := by omega
       rcases MY h8 with rfl | rfl | rfl | rfl | rfl | rfl | rfl | rfl
       ·refine WSt.ixaN (m := 1) rfl rfl rfl (by omega) ?_; conv => whnf
        repeat' ((first | refine Qw ?_ | refine Qd (fun h => ?_) (fun h => ?_)) <;> conv => whnf)
        refine Again.to 1 (by show Tr.length - 1 < Tr.length - 0; omega) ⟨by omega, fun p hp => ?_⟩ (Nat.le_refl _) (Shr.kp2 ?_ (nR _ _) ?_ (nS _ _ _ _ _ _ _))
        ·by_cases e : p = 0
         ·subst e; rw [hR, hP]; rfl
         ·exact hq p (by omega)
        ·(unfold FX; exact eN)
        ·(unfold GD; exact eN)
       ·refine WSt.ixaN (m := 2) rfl rfl rfl (by omega) ?_; conv => whnf
        repeat' ((first | refine Qw ?_ | refine Qd (fun h => ?_) (fun h => ?_)) <;> conv => whnf)
        refine Again.to 2 (by show Tr.length - 2 < Tr.length - 1; omega) ⟨by omega, fun p hp => ?_⟩ (Nat.le_refl _) (Shr.kp2 ?_ (nR _ _) ?_ (nS _ _ _ _ _ _ _))
        ·by_cases e : p = 1
         ·subst e; rw [hR, hP]; rfl
         ·exact hq p (by omega)
        ·(unfold FX; exact eN)
        ·(unfold GD; exact eN)
       ·refine WSt.ixaN (m := 3) rfl rfl rfl (by omega) ?_; conv => whnf
        repeat' ((first | refine Qw ?_ | refine Qd (fun h => ?_) (fun h => ?_)) <;> conv => whnf)
        refine Again.to 3 (by show Tr.length - 3 < Tr.length - 2; omega) ⟨by omega, fun p hp => ?_⟩ (Nat.le_refl _) (Shr.kp2 ?_ (nR _ _) ?_ (nS _ _ _ _ _ _ _))
        ·by_cases e : p = 2
         ·subst e; rw [hR, hP]; rfl
         ·exact hq p (by omega)
        ·(unfold FX; exact eN)
        ·(unfold GD; exact eN)
       ·refine WSt.ixaN (m := 4) rfl rfl rfl (by omega) ?_; conv => whnf
        repeat' ((first | refine Qw ?_ | refine Qd (fun h => ?_) (fun h => ?_)) <;> conv => whnf)
        refine Again.to 4 (by show Tr.length - 4 < Tr.length - 3; omega) ⟨by omega, fun p hp => ?_⟩ (Nat.le_refl _) (Shr.kp2 ?_ (nR _ _) ?_ (nS _ _ _ _ _ _ _))
        ·by_cases e : p = 3
         ·subst e; rw [hR, hP]; rfl
         ·exact hq p (by omega)
        ·(unfold FX; exact eN)
        ·(unfold GD; exact eN)
       ·refine WSt.ixaN (m := 5) rfl rfl rfl (by omega) ?_; conv => whnf
        repeat' ((first | refine Qw ?_ | refine Qd (fun h => ?_) (fun h => ?_)) <;> conv => whnf)
        refine Again.to 5 (by show Tr.length - 5 < Tr.length - 4; omega) ⟨by omega, fun p hp => ?_⟩ (Nat.le_refl _) (Shr.kp2 ?_ (nR _ _) ?_ (nS _ _ _ _ _ _ _))
        ·by_cases e : p = 4
         ·subst e; rw [hR, hP]; rfl
         ·exact hq p (by omega)
        ·(unfold FX; exact eN)
        ·(unfold GD; exact eN)
       ·refine WSt.ixaN (m := 6) rfl rfl rfl (by omega) ?_; conv => whnf
        repeat' ((first | refine Qw ?_ | refine Qd (fun h => ?_) (fun h => ?_)) <;> conv => whnf)
        refine Again.to 6 (by show Tr.length - 6 < Tr.length - 5; omega) ⟨by omega, fun p hp => ?_⟩ (Nat.le_refl _) (Shr.kp2 ?_ (nR _ _) ?_ (nS _ _ _ _ _ _ _))
        ·by_cases e : p = 5
         ·subst e; rw [hR, hP]; rfl
         ·exact hq p (by omega)
        ·(unfold FX; exact eN)
        ·(unfold GD; exact eN)
       ·refine WSt.ixaN (m := 7) rfl rfl rfl (by omega) ?_; conv => whnf
        repeat' ((first | refine Qw ?_ | refine Qd (fun h => ?_) (fun h => ?_)) <;> conv => whnf)
        refine Again.to 7 (by show Tr.length - 7 < Tr.length - 6; omega) ⟨by omega, fun p hp => ?_⟩ (Nat.le_refl _) (Shr.kp2 ?_ (nR _ _) ?_ (nS _ _ _ _ _ _ _))
        ·by_cases e : p = 6
         ·subst e; rw [hR, hP]; rfl
         ·exact hq p (by omega)
        ·(unfold FX; exact eN)
        ·(unfold GD; exact eN)
       ·refine WSt.ixaN (m := 8) rfl rfl rfl (by omega) ?_; conv => whnf
        repeat' ((first | refine Qw ?_ | refine Qd (fun h => ?_) (fun h => ?_)) <;> conv => whnf)
        refine Again.to 8 (by show Tr.length - 8 < Tr.length - 7; omega) ⟨by omega, fun p hp => ?_⟩ (Nat.le_refl _) (Shr.kp2 ?_ (nR _ _) ?_ (nS _ _ _ _ _ _ _))
        ·by_cases e : p = 7
         ·subst e; rw [hR, hP]; rfl
         ·exact hq p (by omega)
        ·(unfold FX; exact eN)
        ·(unfold GD; exact eN)
  ·refine Qg ?_
   have hjj : j = Tr.length := by omega
   have hyes : bY n ls Tr = true := by
    unfold bY
    rw [decide_eq_true hl, Bool.true_and, List.all_eq_true]
    intro q h
    exact hq q (by have := List.mem_range.1 h; omega)
   have hfo : nF box coin n ls Tr = uA box coin Tr Tr.length := by unfold nF; rw [hyes]; rfl
   rw [hfo, hyes, <- hjj]
   refine ⟨.inr rfl, _, rfl, .tp (.cons (.pu ?_) (.cons (.pu trivial) .nil))⟩
   exact qI (uA box coin Tr j)
 ·have hno : bY n ls Tr = false := by
   unfold bY
   rw [decide_eq_false hl]; rfl
  rw [AD hno, hno]
  repeat' ((first | refine Qw ?_ | refine Qd (fun h => ?_) (fun h => ?_)) <;> conv => whnf)
  all_goals first
   | (exfalso; omega)
   | skip
  refine ⟨.inr rfl, _, rfl, .tp (.cons (.pu ?_) (.cons (.pu trivial) .nil))⟩
  exact qI (fun _ => Fg)
theorem WSt.slaH {sl : T D} {ob : T C} {nx : Pos} {K : X -> Prop} {lg lg2 : Option (T Bool)} {d id : Pos} {n z st h cur : Nat} {ro : Bool} {x xh : RX} {cs : List Cell} {ds : List D} (hx : bE sl x = some (.pt id 0 st)) (hob : ob.get id = some (.cells ro cs cur)) (hcs : cs = ds.map fun d => Cell.o d st) (hn : ds.length = n * z)
 (hhi : bE sl xh = some (.i .i64 (h : Int))) (h2 : h <= n) (h3 : 0 < n) (hz : 0 < z) (hl : (∀ k : Option (T Bool) -> Option X, kE lg id k = k lg2)) (k : dL sl ob nx lg2 d K (.sl id 0 h st z)) : WSt (.sla d n z x none (some xh) none) ⟨sl, ob, nx, lg⟩ K := by
 obtain ⟨k2, k3⟩ := aV k
 refine ⟨_, ?_, k3⟩
 show yE d n z x none (some xh) none sl ob nx lg = _
 unfold yE
 rw [hx]
 simp only [hob, bnd, hhi]
 have hhi' : ((h : Nat) : Int) = Int.ofNat h := rfl
 have b1 : Nat.ble 0 h = true := Nat.ble_eq_true_of_le (Nat.zero_le _)
 have b2 : Nat.ble h n = true := Nat.ble_eq_true_of_le h2
 have b3 : Nat.blt 0 n = true := Nat.ble_eq_true_of_le h3
 have b4 : Nat.blt 0 z = true := Nat.ble_eq_true_of_le hz
 subst hcs
 have hlt : n * z - 1 < ds.length := by
  have : 1 * 1 <= n * z := Nat.mul_le_mul h3 hz
  omega
 have hc : sU (ds.map fun d => Cell.o d st) (Nat.pred (Nat.add 0 (Nat.mul n z))) = some (Cell.o (ds[n * z - 1]'hlt) st) := by
  rw [eW, show Nat.pred (Nat.add 0 (Nat.mul n z)) = n * z - 1 by rw [show Nat.add 0 (Nat.mul n z) = n * z from Nat.zero_add _]; rfl]
  simp [hlt]
 have hk : ∀ {β : Type} (q : D -> Option β), tQ st (Cell.o (ds[n * z - 1]'hlt) st) q = q (ds[n * z - 1]'hlt) := fun q => by
  show (bif Nat.ble st st then _ else none) = _
  rw [Nat.ble_eq_true_of_le (Nat.le_refl st)]; rfl
 simp only [b1, b2, b3, b4, Bool.and_self, cond_true, hc, hk, bP, hl]
 rw [show Nat.add 0 (Nat.mul 0 z) = 0 by rw [show Nat.mul 0 z = 0 from Nat.zero_mul z]]
 exact k2
theorem Frz.subz {id : Pos} {z st off n : Nat} {cs : List Cell} {cur : Nat} {ds : List D} {es : List (List D)} {ro : Bool} {ob : T C} (h : ob.get id = some (.cells ro cs cur)) (hc : cs = ds.map fun d => Cell.o d st) (hn : n = es.length) (hz : ∀ r ∈ es, r.length = z) (hd : es.flatten <+: ds.drop off) (hp : dF es) : Frz ob (.sl id off n st z) (.lst z es) := by
 subst hc
 refine .sl (fun h => h) h hn.symm hz (fun k d hk => ⟨.o d st, ?_, ?_, rfl⟩) (FzE.of hp)
 ·obtain ⟨t, ht⟩ := hd
  rw [<- List.map_drop, List.getElem?_map, <- ht, List.getElem?_append_left (by
   rcases Nat.lt_or_ge k es.flatten.length with h | h
   ·exact h
   ·rw [List.getElem?_eq_none h] at hk; cases hk), hk]
  rfl
 ·exact Nat.ble_eq_true_of_le (Nat.le_refl _)
def dE (cs : List Ct) (m : Mo) : Bool := cs.all fun c => !decide (c.a = m.n) || gE m.box c.lo c.hi
theorem zB (n coin box : Int) (ls : List Ln) (cs : List Ct) (m : Mo) (hc : cs.length <= 1000) : PureF Try.prog p80.ix [.ag [.i .i64 n, .i .i64 coin, .i .i64 box, .lst 3 (aC aI ls), .lst 3 (aC cY cs), .any], .ag (dI m)] (.b (dE cs m)) := by
 have cA := Ep cs p111 [.ag (dI m)] [] (fun c => !decide (c.a = m.n) || gE m.box c.lo c.hi) (by simp [aO, Pu, dI]) trivial hc (fun c _ => Ua m c)
 unfold dI at cA ⊢
 refine PureF.run YK (by simp) (by simp [aO, dF, Pu, aH, aB, aE]) ?_; conv => whnf
 repeat' ((first | refine Qz ?_ | refine Qf cA ?_) <;> conv => whnf)
 exact Fin.b rfl rfl
theorem IX (l : List Mo) : dF (aC dI l) := lX (fun m => by simp [dI, aO, Pu]) l
theorem MF (l : List Mo) (f : Pos) (first caps : List D) (p : Mo -> Bool) (h1 : aO first) (h2 : aO caps) (hl : l.length <= 1000) (hf : ∀ m ∈ l, PureF Try.prog f.ix (first ++ ([.ag (dI m)] ++ caps)) (.b (p m))) : PureF Try.prog p79.ix [.lst 14 (aC dI l), .fn f first caps] (.b (l.all p)) := by
 have e1 := aD dI l
 refine PureF.run Wu (by simp) (by simp [aO, Pu, IX, h1, h2]) ?_; conv => whnf
 refine Qg ?_
 refine Rn.loop (fun j : Nat => ⟨(.n (.n (.n (.n .e (some (.lst 14 (aC dI l))) .e) none .e) (some (.fn f first caps)) (.n (.n .e (some (.i .i64 (j : Int))) .e) none .e)) none (.n (.n (.n .e (some (.i .i64 ((aC dI l).length : Int))) .e) none .e) none .e)), .e, .h, none⟩) (fun j => j <= l.length /\ (l.take j).all p = true) (fun j => l.length - j) 0 ?_ ?_ ?_
 ·(first | (refine X.le.mk ?_ ?_ (Nat.le_refl _) rfl rfl) | skip) <;> (repeat' first | exact T.le_e _ | refine T.le_some ?_ ?_ ?_ | refine T.le_none ?_ ?_ | rfl)
 ·exact ⟨by omega, by simp⟩
 rintro j ⟨hj, ha⟩
 conv => whnf
 refine Qg ?_
 refine WB.dec (fun h => ?_) (fun h => ?_) <;> conv => whnf
 ·have hlt : j < l.length := by omega
  repeat' ((first | refine Qz ?_ | refine Qf (hf _ (bS (d := default) hlt)) ?_) <;> conv => whnf)
  refine WB.mk (fun h => ?_) (fun h => ?_) <;> conv => whnf
  ·refine Qg ?_
   exact Fin.b rfl (by rw [sT (d := default) hlt (by simpa using h)])
  ·refine Qg ?_
   refine Again.to (j + 1) (by omega) ⟨by omega, kV (d := default) hlt ha (by simpa using h)⟩ (Nat.le_refl _) ?_
   (refine Shr.of ?_ ?_ rfl rfl) <;> (repeat' first | exact Rel.e | refine Rel.some ?_ ?_ ?_ | refine Rel.none ?_ ?_) <;> (try first | exact Fx | (refine Ro (ShC.same ?_); (repeat' first | exact ShC.nl | refine ShC.cn ?_ ?_) <;> exact Fx))
   all_goals (refine Fz.pu ?_; simp [Pu, h1, h2, IX])
 ·refine Qg ?_
  exact Fin.b rfl (by rw [Bn (by omega) ha])
def CU (F : Nat -> Mo) (k : Nat) : List Mo := (List.range k).map F
theorem Gy (F : Nat -> Mo) {k : Nat} (h : k <= 9) : (aC dI (CU F k)).flatten <+: fG F := by
 have h9 : fG F = (aC dI (CU F 9)).flatten := by
  show _ = (List.map dI (List.map F (List.range 9))).flatten
  rw [show List.range 9 = [0, 1, 2, 3, 4, 5, 6, 7, 8] from rfl]
  simp [fG]
 have ht : CU F k = (CU F 9).take k := by
  unfold CU
  rw [<- List.map_take, List.take_range, Nat.min_eq_left h]
 rw [h9, ht]
 unfold aC
 refine ⟨(((CU F 9).drop k).map dI).flatten, ?_⟩
 rw [<- List.flatten_append, <- List.map_append, List.take_append_drop]
theorem UJ (l : List Mo) : ∀ r ∈ aC dI l, r.length = 14 := fun r hr => by
 obtain ⟨m, _, rfl⟩ := List.mem_map.1 hr
 rfl
def pZ (n coin box : Int) (ls : List Ln) (cs : List Ct) (Tr : List Ln) : Bool := decide (aS n coin box ls cs = 0) && (bY n ls Tr && (CU (nF box coin n ls Tr) (ls.length + 1)).all (dE cs))
theorem LG (n coin box : Int) (ls : List Ln) (cs : List Ct) (Tr : List Ln) (hT : Tr.length <= 65536) (hw : ∀ r ∈ Tr, kS r) : PureF Try.prog p26.ix [.ag [.i .i64 n, .i .i64 coin, .i .i64 box, .lst 3 (aC aI ls), .lst 3 (aC cY cs)], .lst 3 (aC aI Tr)] (.b (pZ n coin box ls cs Tr)) := by
 have e1 := aD aI ls
 have cC := fN n coin box ls cs
 refine PureF.run YA (by simp) (by simp [aO, dF, Pu, aH, aB, aE]) ?_; conv => whnf
 by_cases h0 : aS n coin box ls cs = 0
 ·obtain ⟨f1, f2, f3, f4⟩ := jJ h0
  unfold kR at f3
  simp only [Bool.and_eq_true] at f3
  obtain ⟨v1, v2, v3, v4, v5⟩ := f3
  have hn : 1 <= n /\ n <= 4 := aP.1 v1
  have cF := BN n coin box ls cs hn (aP.1 v2) (aP.1 v3) f1 v4 Tr hT hw
  have hpB : pZ n coin box ls cs Tr = (bY n ls Tr && (CU (nF box coin n ls Tr) (ls.length + 1)).all (dE cs)) := by
   unfold pZ
   rw [decide_eq_true h0, Bool.true_and]
  rw [hpB]
  cases hF : bY n ls Tr with
  | false =>
    rw [hF] at cF
    repeat' ((first | refine Qw ?_ | refine Qf cC ?_ | refine Qf (lU n coin box ls cs) ?_ | refine Qf cF ?_ | refine Qd (fun h => ?_) (fun h => ?_)) <;> conv => whnf)
    exact Fin.b rfl rfl
  | true =>
    rw [hF] at cF
    generalize nF box coin n ls Tr = F at *
    have cA := MF (CU F (ls.length + 1)) p80 [.ag [.i .i64 n, .i .i64 coin, .i .i64 box, .lst 3 (aC aI ls), .lst 3 (aC cY cs), .any]] [] (dE cs) (by simp [aO, Pu, aB, aE]) trivial (by simp [CU]; omega) (fun m _ => zB n coin box ls cs m (by omega))
    repeat' ((first | refine Qw ?_ | refine Qf cC ?_ | refine Qf (lU n coin box ls cs) ?_ | refine Qf cF ?_ | refine Qd (fun h => ?_) (fun h => ?_)) <;> conv => whnf)
    refine WSt.slaH (ds := fG F) (h := ls.length + 1) rfl rfl rfl rfl (by rw [<- e1]; rfl) (by omega) (by omega) (by omega) (fun k => rfl) ?_; conv => whnf
    repeat' ((first | refine Qw ?_ | refine Qf cC ?_ | refine Qd (fun h => ?_) (fun h => ?_)) <;> conv => whnf)
    refine WCall.borrow1 cA (.i .h) (.cells false ((fG F).map fun d => Cell.o d 0) 1) (.cons ?_ (.cons ?_ .nil)) trivial rfl rfl ?_
    ·exact Frz.subz (ds := fG F) rfl rfl (by simp [CU, aC]) (UJ _) (by rw [List.drop_zero]; exact Gy F (by omega)) (IX _)
    ·exact .pu (by simp [Pu, aO, aB, aE])
    conv => whnf
    repeat' ((first | refine Qw ?_ | refine Qd (fun h => ?_) (fun h => ?_)) <;> conv => whnf)
    exact Fin.b rfl (by rw [Bool.true_and])
 ·have hpB : pZ n coin box ls cs Tr = false := by
   unfold pZ
   rw [decide_eq_false h0, Bool.false_and]
  rw [hpB]
  repeat' ((first | refine Qw ?_ | refine Qf cC ?_ | refine Qd (fun h => ?_) (fun h => ?_)) <;> conv => whnf)
  exact Fin.b rfl rfl
theorem dS (l : List Int) : ∀ r ∈ ints l, r.length = 1 := fun r hr => by
 obtain ⟨n, _, rfl⟩ := List.mem_map.1 hr
 rfl
theorem Eh {m : Nat} (h : m < 9) : m = 0 \/ m = 1 \/ m = 2 \/ m = 3 \/ m = 4 \/ m = 5 \/ m = 6 \/ m = 7 \/ m = 8 := by omega
theorem dQ (l : List Int) : aO (l.map fun n => D.i .i64 n) := aF.2 fun d hd => by
 obtain ⟨n, _, rfl⟩ := List.mem_map.1 hd
 exact trivial
def oF (n coin box : Int) (ls : List Ln) (cs : List Ct) (Tr : List Ln) : List Int × Int × Int :=
 if aS n coin box ls cs = 0 then (if bY n ls Tr = true then ((List.range (ls.length + 1)).map fun q => (nF box coin n ls Tr q).box, (nF box coin n ls Tr ls.length).mix, 0) else ([], 0, 2)) else ([], 0, aS n coin box ls cs)
def LL (n coin box : Int) (ls : List Ln) (cs : List Ct) : C := .cells false ([.i .i64 n, .i .i64 coin, .i .i64 box, .lst 3 (aC aI ls), .lst 3 (aC cY cs)].map fun d => Cell.o d 0) 1
theorem jC (n coin box : Int) (ls : List Ln) (cs : List Ct) {B : Pos -> Prop} {ob : T C} : ShC B ob (LL n coin box ls cs) (LL n coin box ls cs) := ShC.same (ShC.cn (.pu trivial) (ShC.cn (.pu trivial) (ShC.cn (.pu trivial) (ShC.cn (.pu (aB _)) (ShC.cn (.pu (aE _)) ShC.nl)))))
theorem mM (F : Nat -> Mo) {n : Nat} {ob : T C} : ShC (fun id => id.nat < n) ob (qL F) (qL F) := ShC.kp (Lj (jZ F n))
theorem Ot (n coin box : Int) (ls : List Ln) (cs : List Ct) (Tr : List Ln) (hT : Tr.length <= 65536) (hw : ∀ r ∈ Tr, kS r) : PureF Try.prog p23.ix [.ag [.i .i64 n, .i .i64 coin, .i .i64 box, .lst 3 (aC aI ls), .lst 3 (aC cY cs)], .lst 3 (aC aI Tr)] (.tp [.lst 1 (ints (oF n coin box ls cs Tr).1), .i .i64 (oF n coin box ls cs Tr).2.1, .i .i64 (oF n coin box ls cs Tr).2.2]) := by
 have e1 := aD aI ls
 have cC := fN n coin box ls cs
 by_cases h0 : aS n coin box ls cs = 0
 ·obtain ⟨f1, f2, f3, f4⟩ := jJ h0
  unfold kR at f3
  simp only [Bool.and_eq_true] at f3
  obtain ⟨v1, v2, v3, v4, v5⟩ := f3
  have hn : 1 <= n /\ n <= 4 := aP.1 v1
  have cF := BN n coin box ls cs hn (aP.1 v2) (aP.1 v3) f1 v4 Tr hT hw
  cases hF : bY n ls Tr with
  | false =>
    have hp : oF n coin box ls cs Tr = ([], 0, 2) := by unfold oF; rw [if_pos h0, if_neg (by rw [hF]; simp)]
    rw [hp]
    rw [hF] at cF
    refine PureF.run PT (by simp) (by simp [aO, dF, Pu, aH, aB, aE]) ?_; conv => whnf
    repeat' ((first | refine Qw ?_ | refine Qf cC ?_ | refine Qf (lU n coin box ls cs) ?_ | refine Qf cF ?_ | refine Qd (fun h => ?_) (fun h => ?_)) <;> conv => whnf)
    exact ⟨.inr rfl, _, rfl, .tp (.cons .ns (.cons (.pu trivial) (.cons (.pu trivial) .nil)))⟩
  | true =>
    have hp : oF n coin box ls cs Tr = ((List.range (ls.length + 1)).map fun q => (nF box coin n ls Tr q).box, (nF box coin n ls Tr ls.length).mix, 0) := by unfold oF; rw [if_pos h0, if_pos hF]
    rw [hp]
    rw [hF] at cF
    generalize nF box coin n ls Tr = F at *
    have hEl : ((List.range (ls.length + 1)).map fun q => (F q).box).length = ls.length + 1 := by simp
    have hEg : ∀ j, j < ls.length + 1 -> (F j).box = ((List.range (ls.length + 1)).map fun q => (F q).box).getD j 0 := fun j hj => by simp [List.getD, hj]
    generalize ((List.range (ls.length + 1)).map fun q => (F q).box) = E at *
    refine PureF.run PT (by simp) (by simp [aO, dF, Pu, aH, aB, aE]) ?_; conv => whnf
    repeat' ((first | refine Qw ?_ | refine Qf cC ?_ | refine Qf (lU n coin box ls cs) ?_ | refine Qf cF ?_ | refine Qd (fun h => ?_) (fun h => ?_)) <;> conv => whnf)
    refine Rn.loop (fun j : Nat => match j with
     | 0 => ⟨(.n (.n .e none (.n .e none (.n .e none (.n .e (some (.i .i64 0)) .e)))) none (.n (.n (.n .e (some (.pt (.o .h) 0 0)) .e) (some (.ns)) (.n .e none (.n .e (some (.i .i64 (((aC aI ls).length : Int) + 1))) .e))) (some (.pt .h 0 0)) .e)), (.n (.n .e (some (qL F)) .e) (some (LL n coin box ls cs)) .e), .i .h, none⟩
     | j + 1 => ⟨(.n (.n .e none (.n .e none (.n .e none (.n .e (some (.i .i64 ((j + 1 : Nat) : Int))) .e)))) none (.n (.n (.n .e (some (.pt (.o .h) 0 0)) .e) (some (.sl (.o (.o .h)) 0 (j + 1) j 1)) (.n .e none (.n .e (some (.i .i64 (((aC aI ls).length : Int) + 1))) .e))) (some (.pt .h 0 0)) .e)), (.n (.n (.n .e (some (.cells false (((E.take (j + 1)).map fun n => D.i .i64 n).map fun d => Cell.o d j) (j + 1))) .e) (some (qL F)) .e) (some (LL n coin box ls cs)) .e), .i (.o .h), none⟩) (fun j => j <= ls.length + 1) (fun j => ls.length + 1 - j) 0 ?_ ?_ ?_
    ·refine X.le.mk ?_ ?_ (Nat.le_refl _) rfl rfl <;> exact eN
    ·exact Nat.zero_le _
    rintro (_ | j) hj
    ·conv => whnf
     refine Qg ?_
     refine WB.dec (fun h => ?_) (fun h => ?_) <;> conv => whnf
     ·have hE := hEg 0 (by omega)
      repeat' ((first | refine Qw ?_ | refine Qd (fun h => ?_) (fun h => ?_)) <;> conv => whnf)
      refine WSt.ixaN (m := 0) rfl rfl (by omega) (by omega) ?_; conv => whnf
      repeat' ((first | refine Qw ?_ | refine Qf (gV (F 0)) ?_ | refine Qd (fun h => ?_) (fun h => ?_)) <;> conv => whnf)
      refine WSt.app_first (r := [_]) rfl (.inl rfl) rfl rfl rfl rfl ?_; conv => whnf
      refine Qg ?_
      refine Again.to 1 (by show ls.length + 1 - 1 < ls.length + 1 - 0; omega) (by show 1 <= ls.length + 1; omega) (Nat.le_of_ble_eq_true rfl) ?_
      have ht : E.take 1 = [E.getD 0 0] := by rw [aM (j := 0) (d := 0) (by omega)]; simp
      refine Shr.of ?_ ?_ rfl rfl
      ·exact Rw
      ·(repeat' first | exact Rel.e | refine Rel.some ?_ ?_ ?_ | refine Rel.none ?_ ?_ | refine Rel.ee ?_ ?_)
       all_goals first
        | exact Ro (jC n coin box ls cs)
        | exact Ro (mM F)
        | (refine RO'.of (show Pos.nat _ < Pos.nat _ by simp [Pos.nat]) ?_
           show ShC _ _ _ (.cells false (((E.take 1).map fun n => D.i .i64 n).map fun d => Cell.o d 0) 1)
           rw [ht, <- hE]
           exact ShC.same (ShC.cn (.pu trivial) ShC.nl))
     ·exfalso; omega
    ·have hj : j + 1 <= ls.length + 1 := hj
     conv => whnf
     refine Qg ?_
     refine WB.dec (fun h => ?_) (fun h => ?_) <;> conv => whnf
     ·have hlt : j + 1 < ls.length + 1 := by omega
      have hE := hEg (j + 1) hlt
      rcases MY (show j < 8 by omega) with h8 | h8 | h8 | h8 | h8 | h8 | h8 | h8
      ·have hE : (F 1).box = E.getD (j + 1) 0 := by rw [<- hE, h8]
       refine Qg ?_
       refine WSt.ixaN (m := 1) rfl rfl (by omega) (by omega) ?_; conv => whnf
       repeat' ((first | refine Qw ?_ | refine Qf (gV (F 1)) ?_ | refine Qd (fun h => ?_) (fun h => ?_)) <;> conv => whnf)
       refine WSt.app_one (ds := (E.take (j + 1)).map fun n => D.i .i64 n) (r := [_]) rfl rfl rfl rfl rfl rfl (by simp; omega) rfl rfl (by omega) rfl ?_; conv => whnf
       refine Qg ?_
       refine Again.to (j + 2) (by show ls.length + 1 - (j + 2) < ls.length + 1 - (j + 1); omega) (by show j + 2 <= ls.length + 1; omega) (Nat.le_of_ble_eq_true rfl) ?_
       refine Shr.of ?_ ?_ rfl rfl
       ·exact Rw
       ·(repeat' first | exact Rel.e | refine Rel.some ?_ ?_ ?_ | refine Rel.none ?_ ?_ | refine Rel.ee ?_ ?_)
        all_goals first
         | exact Ro (jC n coin box ls cs)
         | exact Ro (mM F)
         | (refine RO'.of (show Pos.nat _ < Pos.nat _ by simp [Pos.nat]) ?_
            show ShC _ _ (.cells false ((((E.take (j + 1)).map fun n => D.i .i64 n).map fun d => Cell.o d j) ++ [_].map fun d => Cell.o d (j + 1)) (j + 1 + 1)) (.cells false (((E.take (j + 1 + 1)).map fun n => D.i .i64 n).map fun d => Cell.o d (j + 1)) (j + 1 + 1))
            rw [aM (j := j + 1) (d := 0) (by omega), List.map_append, <- hE]
            exact ShC.grown (by omega) (aF.2 fun d hd => by
             rcases List.mem_append.1 hd with hd | hd
             ·exact aF.1 (dQ _) d hd
             ·simp at hd; subst hd; exact trivial))
      ·have hE : (F 2).box = E.getD (j + 1) 0 := by rw [<- hE, h8]
       refine Qg ?_
       refine WSt.ixaN (m := 2) rfl rfl (by omega) (by omega) ?_; conv => whnf
       repeat' ((first | refine Qw ?_ | refine Qf (gV (F 2)) ?_ | refine Qd (fun h => ?_) (fun h => ?_)) <;> conv => whnf)
       refine WSt.app_one (ds := (E.take (j + 1)).map fun n => D.i .i64 n) (r := [_]) rfl rfl rfl rfl rfl rfl (by simp; omega) rfl rfl (by omega) rfl ?_; conv => whnf
       refine Qg ?_
       refine Again.to (j + 2) (by show ls.length + 1 - (j + 2) < ls.length + 1 - (j + 1); omega) (by show j + 2 <= ls.length + 1; omega) (Nat.le_of_ble_eq_true rfl) ?_
       refine Shr.of ?_ ?_ rfl rfl
       ·exact Rw
       ·(repeat' first | exact Rel.e | refine Rel.some ?_ ?_ ?_ | refine Rel.none ?_ ?_ | refine Rel.ee ?_ ?_)
        all_goals first
         | exact Ro (jC n coin box ls cs)
         | exact Ro (mM F)
         | (refine RO'.of (show Pos.nat _ < Pos.nat _ by simp [Pos.nat]) ?_
            show ShC _ _ (.cells false ((((E.take (j + 1)).map fun n => D.i .i64 n).map fun d => Cell.o d j) ++ [_].map fun d => Cell.o d (j + 1)) (j + 1 + 1)) (.cells false (((E.take (j + 1 + 1)).map fun n => D.i .i64 n).map fun d => Cell.o d (j + 1)) (j + 1 + 1))
            rw [aM (j := j + 1) (d := 0) (by omega), List.map_append, <- hE]
            exact ShC.grown (by omega) (aF.2 fun d hd => by
             rcases List.mem_append.1 hd with hd | hd
             ·exact aF.1 (dQ _) d hd
             ·simp at hd; subst hd; exact trivial))
      ·have hE : (F 3).box = E.getD (j + 1) 0 := by rw [<- hE, h8]
       refine Qg ?_
       refine WSt.ixaN (m := 3) rfl rfl (by omega) (by omega) ?_; conv => whnf
       repeat' ((first | refine Qw ?_ | refine Qf (gV (F 3)) ?_ | refine Qd (fun h => ?_) (fun h => ?_)) <;> conv => whnf)
       refine WSt.app_one (ds := (E.take (j + 1)).map fun n => D.i .i64 n) (r := [_]) rfl rfl rfl rfl rfl rfl (by simp; omega) rfl rfl (by omega) rfl ?_; conv => whnf
       refine Qg ?_
       refine Again.to (j + 2) (by show ls.length + 1 - (j + 2) < ls.length + 1 - (j + 1); omega) (by show j + 2 <= ls.length + 1; omega) (Nat.le_of_ble_eq_true rfl) ?_
       refine Shr.of ?_ ?_ rfl rfl
       ·exact Rw
       ·(repeat' first | exact Rel.e | refine Rel.some ?_ ?_ ?_ | refine Rel.none ?_ ?_ | refine Rel.ee ?_ ?_)
        all_goals first
         | exact Ro (jC n coin box ls cs)
         | exact Ro (mM F)
         | (refine RO'.of (show Pos.nat _ < Pos.nat _ by simp [Pos.nat]) ?_
            show ShC _ _ (.cells false ((((E.take (j + 1)).map fun n => D.i .i64 n).map fun d => Cell.o d j) ++ [_].map fun d => Cell.o d (j + 1)) (j + 1 + 1)) (.cells false (((E.take (j + 1 + 1)).map fun n => D.i .i64 n).map fun d => Cell.o d (j + 1)) (j + 1 + 1))
            rw [aM (j := j + 1) (d := 0) (by omega), List.map_append, <- hE]
            exact ShC.grown (by omega) (aF.2 fun d hd => by
             rcases List.mem_append.1 hd with hd | hd
             ·exact aF.1 (dQ _) d hd
             ·simp at hd; subst hd; exact trivial))
      ·have hE : (F 4).box = E.getD (j + 1) 0 := by rw [<- hE, h8]
       refine Qg ?_
       refine WSt.ixaN (m := 4) rfl rfl (by omega) (by omega) ?_; conv => whnf
       repeat' ((first | refine Qw ?_ | refine Qf (gV (F 4)) ?_ | refine Qd (fun h => ?_) (fun h => ?_)) <;> conv => whnf)
       refine WSt.app_one (ds := (E.take (j + 1)).map fun n => D.i .i64 n) (r := [_]) rfl rfl rfl rfl rfl rfl (by simp; omega) rfl rfl (by omega) rfl ?_; conv => whnf
       refine Qg ?_
       refine Again.to (j + 2) (by show ls.length + 1 - (j + 2) < ls.length + 1 - (j + 1); omega) (by show j + 2 <= ls.length + 1; omega) (Nat.le_of_ble_eq_true rfl) ?_
       refine Shr.of ?_ ?_ rfl rfl
       ·exact Rw
       ·(repeat' first | exact Rel.e | refine Rel.some ?_ ?_ ?_ | refine Rel.none ?_ ?_ | refine Rel.ee ?_ ?_)
        all_goals first
         | exact Ro (jC n coin box ls cs)
         | exact Ro (mM F)
         | (refine RO'.of (show Pos.nat _ < Pos.nat _ by simp [Pos.nat]) ?_
            show ShC _ _ (.cells false ((((E.take (j + 1)).map fun n => D.i .i64 n).map fun d => Cell.o d j) ++ [_].map fun d => Cell.o d (j + 1)) (j + 1 + 1)) (.cells false (((E.take (j + 1 + 1)).map fun n => D.i .i64 n).map fun d => Cell.o d (j + 1)) (j + 1 + 1))
            rw [aM (j := j + 1) (d := 0) (by omega), List.map_append, <- hE]
            exact ShC.grown (by omega) (aF.2 fun d hd => by
             rcases List.mem_append.1 hd with hd | hd
             ·exact aF.1 (dQ _) d hd
             ·simp at hd; subst hd; exact trivial))
      ·have hE : (F 5).box = E.getD (j + 1) 0 := by rw [<- hE, h8]
       refine Qg ?_
       refine WSt.ixaN (m := 5) rfl rfl (by omega) (by omega) ?_; conv => whnf
       repeat' ((first | refine Qw ?_ | refine Qf (gV (F 5)) ?_ | refine Qd (fun h => ?_) (fun h => ?_)) <;> conv => whnf)
       refine WSt.app_one (ds := (E.take (j + 1)).map fun n => D.i .i64 n) (r := [_]) rfl rfl rfl rfl rfl rfl (by simp; omega) rfl rfl (by omega) rfl ?_; conv => whnf
       refine Qg ?_
       refine Again.to (j + 2) (by show ls.length + 1 - (j + 2) < ls.length + 1 - (j + 1); omega) (by show j + 2 <= ls.length + 1; omega) (Nat.le_of_ble_eq_true rfl) ?_
       refine Shr.of ?_ ?_ rfl rfl
       ·exact Rw
       ·(repeat' first | exact Rel.e | refine Rel.some ?_ ?_ ?_ | refine Rel.none ?_ ?_ | refine Rel.ee ?_ ?_)
        all_goals first
         | exact Ro (jC n coin box ls cs)
         | exact Ro (mM F)
         | (refine RO'.of (show Pos.nat _ < Pos.nat _ by simp [Pos.nat]) ?_
            show ShC _ _ (.cells false ((((E.take (j + 1)).map fun n => D.i .i64 n).map fun d => Cell.o d j) ++ [_].map fun d => Cell.o d (j + 1)) (j + 1 + 1)) (.cells false (((E.take (j + 1 + 1)).map fun n => D.i .i64 n).map fun d => Cell.o d (j + 1)) (j + 1 + 1))
            rw [aM (j := j + 1) (d := 0) (by omega), List.map_append, <- hE]
            exact ShC.grown (by omega) (aF.2 fun d hd => by
             rcases List.mem_append.1 hd with hd | hd
             ·exact aF.1 (dQ _) d hd
             ·simp at hd; subst hd; exact trivial))
      ·have hE : (F 6).box = E.getD (j + 1) 0 := by rw [<- hE, h8]
       refine Qg ?_
       refine WSt.ixaN (m := 6) rfl rfl (by omega) (by omega) ?_; conv => whnf
       repeat' ((first | refine Qw ?_ | refine Qf (gV (F 6)) ?_ | refine Qd (fun h => ?_) (fun h => ?_)) <;> conv => whnf)
       refine WSt.app_one (ds := (E.take (j + 1)).map fun n => D.i .i64 n) (r := [_]) rfl rfl rfl rfl rfl rfl (by simp; omega) rfl rfl (by omega) rfl ?_; conv => whnf
       refine Qg ?_
       refine Again.to (j + 2) (by show ls.length + 1 - (j + 2) < ls.length + 1 - (j + 1); omega) (by show j + 2 <= ls.length + 1; omega) (Nat.le_of_ble_eq_true rfl) ?_
       refine Shr.of ?_ ?_ rfl rfl
       ·exact Rw
       ·(repeat' first | exact Rel.e | refine Rel.some ?_ ?_ ?_ | refine Rel.none ?_ ?_ | refine Rel.ee ?_ ?_)
        all_goals first
         | exact Ro (jC n coin box ls cs)
         | exact Ro (mM F)
         | (refine RO'.of (show Pos.nat _ < Pos.nat _ by simp [Pos.nat]) ?_
            show ShC _ _ (.cells false ((((E.take (j + 1)).map fun n => D.i .i64 n).map fun d => Cell.o d j) ++ [_].map fun d => Cell.o d (j + 1)) (j + 1 + 1)) (.cells false (((E.take (j + 1 + 1)).map fun n => D.i .i64 n).map fun d => Cell.o d (j + 1)) (j + 1 + 1))
            rw [aM (j := j + 1) (d := 0) (by omega), List.map_append, <- hE]
            exact ShC.grown (by omega) (aF.2 fun d hd => by
             rcases List.mem_append.1 hd with hd | hd
             ·exact aF.1 (dQ _) d hd
             ·simp at hd; subst hd; exact trivial))
      ·have hE : (F 7).box = E.getD (j + 1) 0 := by rw [<- hE, h8]
       refine Qg ?_
       refine WSt.ixaN (m := 7) rfl rfl (by omega) (by omega) ?_; conv => whnf
       repeat' ((first | refine Qw ?_ | refine Qf (gV (F 7)) ?_ | refine Qd (fun h => ?_) (fun h => ?_)) <;> conv => whnf)
       refine WSt.app_one (ds := (E.take (j + 1)).map fun n => D.i .i64 n) (r := [_]) rfl rfl rfl rfl rfl rfl (by simp; omega) rfl rfl (by omega) rfl ?_; conv => whnf
       refine Qg ?_
       refine Again.to (j + 2) (by show ls.length + 1 - (j + 2) < ls.length + 1 - (j + 1); omega) (by show j + 2 <= ls.length + 1; omega) (Nat.le_of_ble_eq_true rfl) ?_
       refine Shr.of ?_ ?_ rfl rfl
       ·exact Rw
       ·(repeat' first | exact Rel.e | refine Rel.some ?_ ?_ ?_ | refine Rel.none ?_ ?_ | refine Rel.ee ?_ ?_)
        all_goals first
         | exact Ro (jC n coin box ls cs)
         | exact Ro (mM F)
         | (refine RO'.of (show Pos.nat _ < Pos.nat _ by simp [Pos.nat]) ?_
            show ShC _ _ (.cells false ((((E.take (j + 1)).map fun n => D.i .i64 n).map fun d => Cell.o d j) ++ [_].map fun d => Cell.o d (j + 1)) (j + 1 + 1)) (.cells false (((E.take (j + 1 + 1)).map fun n => D.i .i64 n).map fun d => Cell.o d (j + 1)) (j + 1 + 1))
            rw [aM (j := j + 1) (d := 0) (by omega), List.map_append, <- hE]
            exact ShC.grown (by omega) (aF.2 fun d hd => by
             rcases List.mem_append.1 hd with hd | hd
             ·exact aF.1 (dQ _) d hd
             ·simp at hd; subst hd; exact trivial))
      ·have hE : (F 8).box = E.getD (j + 1) 0 := by rw [<- hE, h8]
       refine Qg ?_
       refine WSt.ixaN (m := 8) rfl rfl (by omega) (by omega) ?_; conv => whnf
       repeat' ((first | refine Qw ?_ | refine Qf (gV (F 8)) ?_ | refine Qd (fun h => ?_) (fun h => ?_)) <;> conv => whnf)
       refine WSt.app_one (ds := (E.take (j + 1)).map fun n => D.i .i64 n) (r := [_]) rfl rfl rfl rfl rfl rfl (by simp; omega) rfl rfl (by omega) rfl ?_; conv => whnf
       refine Qg ?_
       refine Again.to (j + 2) (by show ls.length + 1 - (j + 2) < ls.length + 1 - (j + 1); omega) (by show j + 2 <= ls.length + 1; omega) (Nat.le_of_ble_eq_true rfl) ?_
       refine Shr.of ?_ ?_ rfl rfl
       ·exact Rw
       ·(repeat' first | exact Rel.e | refine Rel.some ?_ ?_ ?_ | refine Rel.none ?_ ?_ | refine Rel.ee ?_ ?_)
        all_goals first
         | exact Ro (jC n coin box ls cs)
         | exact Ro (mM F)
         | (refine RO'.of (show Pos.nat _ < Pos.nat _ by simp [Pos.nat]) ?_
            show ShC _ _ (.cells false ((((E.take (j + 1)).map fun n => D.i .i64 n).map fun d => Cell.o d j) ++ [_].map fun d => Cell.o d (j + 1)) (j + 1 + 1)) (.cells false (((E.take (j + 1 + 1)).map fun n => D.i .i64 n).map fun d => Cell.o d (j + 1)) (j + 1 + 1))
            rw [aM (j := j + 1) (d := 0) (by omega), List.map_append, <- hE]
            exact ShC.grown (by omega) (aF.2 fun d hd => by
             rcases List.mem_append.1 hd with hd | hd
             ·exact aF.1 (dQ _) d hd
             ·simp at hd; subst hd; exact trivial))
     ·have hj2 : j = ls.length := by omega
      rcases Eh (show ls.length < 9 by omega) with h9 | h9 | h9 | h9 | h9 | h9 | h9 | h9 | h9
      ·refine Qg ?_
       refine WSt.ixaN (m := 0) rfl rfl (by omega) (by omega) ?_; conv => whnf
       repeat' ((first | refine Qw ?_ | refine Qf (gT (F 0)) ?_ | refine Qd (fun h => ?_) (fun h => ?_)) <;> conv => whnf)
       rw [h9]
       refine ⟨.inr rfl, _, rfl, .tp (.cons ?_ (.cons (.pu trivial) (.cons (.pu trivial) .nil)))⟩
       show Fz _ _ _ (.lst 1 (ints E))
       exact Frz.whole (cs := ((E.take (j + 1)).map fun n => D.i .i64 n).map fun d => Cell.o d j) (cur := j + 1) rfl (by rw [aU]; omega) (dS _) (by rw [bV, List.take_of_length_le (by omega)]) (aH _)
      ·refine Qg ?_
       refine WSt.ixaN (m := 1) rfl rfl (by omega) (by omega) ?_; conv => whnf
       repeat' ((first | refine Qw ?_ | refine Qf (gT (F 1)) ?_ | refine Qd (fun h => ?_) (fun h => ?_)) <;> conv => whnf)
       rw [h9]
       refine ⟨.inr rfl, _, rfl, .tp (.cons ?_ (.cons (.pu trivial) (.cons (.pu trivial) .nil)))⟩
       show Fz _ _ _ (.lst 1 (ints E))
       exact Frz.whole (cs := ((E.take (j + 1)).map fun n => D.i .i64 n).map fun d => Cell.o d j) (cur := j + 1) rfl (by rw [aU]; omega) (dS _) (by rw [bV, List.take_of_length_le (by omega)]) (aH _)
      ·refine Qg ?_
       refine WSt.ixaN (m := 2) rfl rfl (by omega) (by omega) ?_; conv => whnf
       repeat' ((first | refine Qw ?_ | refine Qf (gT (F 2)) ?_ | refine Qd (fun h => ?_) (fun h => ?_)) <;> conv => whnf)
       rw [h9]
       refine ⟨.inr rfl, _, rfl, .tp (.cons ?_ (.cons (.pu trivial) (.cons (.pu trivial) .nil)))⟩
       show Fz _ _ _ (.lst 1 (ints E))
       exact Frz.whole (cs := ((E.take (j + 1)).map fun n => D.i .i64 n).map fun d => Cell.o d j) (cur := j + 1) rfl (by rw [aU]; omega) (dS _) (by rw [bV, List.take_of_length_le (by omega)]) (aH _)
      ·refine Qg ?_
       refine WSt.ixaN (m := 3) rfl rfl (by omega) (by omega) ?_; conv => whnf
       repeat' ((first | refine Qw ?_ | refine Qf (gT (F 3)) ?_ | refine Qd (fun h => ?_) (fun h => ?_)) <;> conv => whnf)
       rw [h9]
       refine ⟨.inr rfl, _, rfl, .tp (.cons ?_ (.cons (.pu trivial) (.cons (.pu trivial) .nil)))⟩
       show Fz _ _ _ (.lst 1 (ints E))
       exact Frz.whole (cs := ((E.take (j + 1)).map fun n => D.i .i64 n).map fun d => Cell.o d j) (cur := j + 1) rfl (by rw [aU]; omega) (dS _) (by rw [bV, List.take_of_length_le (by omega)]) (aH _)
      ·refine Qg ?_
       refine WSt.ixaN (m := 4) rfl rfl (by omega) (by omega) ?_; conv => whnf
       repeat' ((first | refine Qw ?_ | refine Qf (gT (F 4)) ?_ | refine Qd (fun h => ?_) (fun h => ?_)) <;> conv => whnf)
       rw [h9]
       refine ⟨.inr rfl, _, rfl, .tp (.cons ?_ (.cons (.pu trivial) (.cons (.pu trivial) .nil)))⟩
       show Fz _ _ _ (.lst 1 (ints E))
       exact Frz.whole (cs := ((E.take (j + 1)).map fun n => D.i .i64 n).map fun d => Cell.o d j) (cur := j + 1) rfl (by rw [aU]; omega) (dS _) (by rw [bV, List.take_of_length_le (by omega)]) (aH _)
      ·refine Qg ?_
       refine WSt.ixaN (m := 5) rfl rfl (by omega) (by omega) ?_; conv => whnf
       repeat' ((first | refine Qw ?_ | refine Qf (gT (F 5)) ?_ | refine Qd (fun h => ?_) (fun h => ?_)) <;> conv => whnf)
       rw [h9]
       refine ⟨.inr rfl, _, rfl, .tp (.cons ?_ (.cons (.pu trivial) (.cons (.pu trivial) .nil)))⟩
       show Fz _ _ _ (.lst 1 (ints E))
       exact Frz.whole (cs := ((E.take (j + 1)).map fun n => D.i .i64 n).map fun d => Cell.o d j) (cur := j + 1) rfl (by rw [aU]; omega) (dS _) (by rw [bV, List.take_of_length_le (by omega)]) (aH _)
      ·refine Qg ?_
       refine WSt.ixaN (m := 6) rfl rfl (by omega) (by omega) ?_; conv => whnf
       repeat' ((first | refine Qw ?_ | refine Qf (gT (F 6)) ?_ | refine Qd (fun h => ?_) (fun h => ?_)) <;> conv => whnf)
       rw [h9]
       refine ⟨.inr rfl, _, rfl, .tp (.cons ?_ (.cons (.pu trivial) (.cons (.pu trivial) .nil)))⟩
       show Fz _ _ _ (.lst 1 (ints E))
       exact Frz.whole (cs := ((E.take (j + 1)).map fun n => D.i .i64 n).map fun d => Cell.o d j) (cur := j + 1) rfl (by rw [aU]; omega) (dS _) (by rw [bV, List.take_of_length_le (by omega)]) (aH _)
      ·refine Qg ?_
       refine WSt.ixaN (m := 7) rfl rfl (by omega) (by omega) ?_; conv => whnf
       repeat' ((first | refine Qw ?_ | refine Qf (gT (F 7)) ?_ | refine Qd (fun h => ?_) (fun h => ?_)) <;> conv => whnf)
       rw [h9]
       refine ⟨.inr rfl, _, rfl, .tp (.cons ?_ (.cons (.pu trivial) (.cons (.pu trivial) .nil)))⟩
       show Fz _ _ _ (.lst 1 (ints E))
       exact Frz.whole (cs := ((E.take (j + 1)).map fun n => D.i .i64 n).map fun d => Cell.o d j) (cur := j + 1) rfl (by rw [aU]; omega) (dS _) (by rw [bV, List.take_of_length_le (by omega)]) (aH _)
      ·refine Qg ?_
       refine WSt.ixaN (m := 8) rfl rfl (by omega) (by omega) ?_; conv => whnf
       repeat' ((first | refine Qw ?_ | refine Qf (gT (F 8)) ?_ | refine Qd (fun h => ?_) (fun h => ?_)) <;> conv => whnf)
       rw [h9]
       refine ⟨.inr rfl, _, rfl, .tp (.cons ?_ (.cons (.pu trivial) (.cons (.pu trivial) .nil)))⟩
       show Fz _ _ _ (.lst 1 (ints E))
       exact Frz.whole (cs := ((E.take (j + 1)).map fun n => D.i .i64 n).map fun d => Cell.o d j) (cur := j + 1) rfl (by rw [aU]; omega) (dS _) (by rw [bV, List.take_of_length_le (by omega)]) (aH _)
 ·have hp : oF n coin box ls cs Tr = ([], 0, aS n coin box ls cs) := by unfold oF; rw [if_neg h0]
  rw [hp]
  refine PureF.run PT (by simp) (by simp [aO, dF, Pu, aH, aB, aE]) ?_; conv => whnf
  repeat' ((first | refine Qw ?_ | refine Qf cC ?_ | refine Qd (fun h => ?_) (fun h => ?_)) <;> conv => whnf)
  exact ⟨.inr rfl, _, rfl, .tp (.cons .ns (.cons (.pu trivial) (.cons (.pu trivial) .nil)))⟩
end Go.Ev
end
