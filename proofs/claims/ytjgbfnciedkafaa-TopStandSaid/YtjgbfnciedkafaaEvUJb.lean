import Derived.Test.YtjgbfnciedkafaaEvUJ8
import Derived.Test.YtjgbfnciedkafaaEvUJ7
set_option linter.all false
set_option maxHeartbeats 8000000
noncomputable section
namespace Go.Ev
open Go.Proofs
set_option maxRecDepth 100000
theorem WCall.borrow1 {P : Program} {f : Nat} {ds ds' : List D} {v : D} (h : PureF P f ds' v) (id : Pos) (c : C) {sl : T D} {ob : T C} {nx : Pos} {lg lg2 : Option (T Bool)} {d : Option Pos} {K : X -> Prop} (hz : FzL (fun _ => False) (T.set id c .e) ds ds') (hv : hG v) (hid : ob.get id = some c) (hlg2 : HH lg id = lg2) (k : kW sl ob nx lg2 d K v) : WCall P f ds d ⟨sl, ob, nx, lg⟩ K := by
 subst hlg2
 have hone : (T.set id c .e).get id = some c := T.get_set_same _ _ _
 have C := PureF.borrowL h (ob := ob) (ob1 := T.set id c .e) (ds := ds) hz (fun j c' hc => by
  by_cases e : j = id
  ·subst e; rw [hone] at hc; rw [<- hc]; exact hid
  ·rw [T.get_set_ne e _ _, T.get_e] at hc; cases hc) hv nx (BQ lg id) (fun j c' hc => by
  by_cases e : j = id
  ·subst e; exact (GU lg j).tchd
  ·rw [T.get_set_ne e _ _, T.get_e] at hc; cases hc)
 cases d with
 | none => exact ⟨_, _, _, _, _, C, rfl, k⟩
 | some d =>
   obtain ⟨h1, h2⟩ := aT k
   exact ⟨_, _, _, _, _, C, h1, h2⟩
def Ei : Mo := ⟨0, fun _ => 0, 0, 0, ⟨0, 0, 0⟩⟩
def kP (F : Nat -> Mo) : List D := dW (F 0) ++ (dW (F 1) ++ (dW (F 2) ++ (dW (F 3) ++ (dW (F 4) ++ (dW (F 5) ++ (dW (F 6) ++ (dW (F 7) ++ dW (F 8))))))))
theorem pQ (F : Nat -> Mo) : aO (kP F) := by simp [kP, dW, aO, Pu]
def vP (box coin : Int) (T : List Ln) (j q : Nat) : Mo := bif Nat.ble q j then fC box coin T q else Ei
def pN (F : Nat -> Mo) : C := .cells false ((kP F).map fun d => Cell.o d 0) 1
def VZ (m : Mo) : C := .cells false ((dW m).map fun d => Cell.o d 0) 1
def Wf (n coin box : Int) (ls : List Ln) (cs : List Ct) : C := .cells false ((jI n coin box ls cs).map fun d => Cell.o d 0) 1
theorem JK {l : List D} {n m st : Nat} (h : KpL n l) : KpC n (.cells false (l.map fun d => Cell.o d st) m) := by
 refine KpL.all ?_
 rw [List.map_map]
 rw [show (Cell.d ∘ fun d => Cell.o d st) = id from rfl, List.map_id]
 exact h
theorem jZ (F : Nat -> Mo) (n : Nat) : KpL n (kP F) := by simp [kP, dW, KpL, Kp, Pu]
def cI (n : Int) (ls T : List Ln) : Bool := decide (T.length = ls.length) && (List.range T.length).all fun q => Am n (ls.getD q default) (T.getD q default) && dV T q
def sO (box coin n : Int) (ls T : List Ln) : Nat -> Mo := bif cI n ls T then vP box coin T T.length else fun _ => Ei
def EU (Tr : List Ln) (j : Nat) : T D := (.n (.n (.n (.n .e (some (.pt (.o (.o .h)) 0 0)) .e) none (.n .e none (.n .e (some (.i .i64 (j : Int))) .e))) none (.n (.n .e none (.n .e (some (.lst 3 (aD aM Tr))) .e)) (some (.b false)) .e)) none (.n (.n .e (some (.pt (.o .h) 0 0)) .e) (some (.pt .h 0 0)) (.n (.n .e none (.n .e (some (.i .i64 ((aD aM Tr).length : Int))) .e)) (some (.pt (.i .h) 0 0)) .e)))
def EI (n coin box : Int) (ls : List Ln) (cs : List Ct) (Tr : List Ln) (j : Nat) : T C := (.n (.n (.n .e (some (VZ (fC box coin Tr j))) .e) (some (pN (fun _ => Ei))) .e) (some (Wf n coin box ls cs)) (.n .e (some (pN (vP box coin Tr j))) .e))
def five5 : Pos := .i (.o .h)
theorem mS (Tr : List Ln) (j : Nat) : ∀ s d, (EU Tr j).get s = some d -> Kp five5.nat d := by
 show TAll (fun _ d => Kp five5.nat d) (EU Tr j)
 unfold EU
 repeat' first | exact TAll.e | refine TAll.some ?_ ?_ ?_ | refine TAll.none ?_ ?_
 all_goals simp [Kp, KpL, Pu, aB, five5, Pos.nat]
theorem lZ (n coin box : Int) (ls : List Ln) (cs : List Ct) (Tr : List Ln) (j : Nat) : KpO five5.nat (EI n coin box ls cs Tr j) := by
 show TAll (fun id c => id.nat < five5.nat /\ KpC five5.nat c) (EI n coin box ls cs Tr j)
 unfold EI
 repeat' first | exact TAll.e | refine TAll.some ?_ ?_ ?_ | refine TAll.none ?_ ?_
 all_goals refine ⟨by simp [Pos.nat, five5], ?_⟩
 all_goals first
  | exact JK (jZ _ _)
  | exact JK (show KpL _ (dW _) by simp [dW, KpL, Kp, Pu])
  | exact JK (show KpL _ (jI _ _ _ _ _) by simp [jI, KpL, Kp, Pu, aB, aE])
theorem MO {m : Nat} (h : m < 8) : m = 0 \/ m = 1 \/ m = 2 \/ m = 3 \/ m = 4 \/ m = 5 \/ m = 6 \/ m = 7 := by omega
theorem Hw {n : Int} {l r : Ln} (hn : 1 <= n /\ n <= 4) (hk : 0 <= l.k /\ l.k <= 2) (hc : -1 <= l.c /\ l.c <= 3) (ht : -1 <= l.t /\ l.t <= 3) (h : Am n l r = true) : (r.k = 1 \/ r.k = 2) /\ (0 <= r.c /\ r.c <= 3) /\ (0 <= r.t /\ r.t <= 3) := by
 obtain ⟨h1, h2, h3, h4, h5, h6⟩ := of_decide_eq_true h
 unfold eM at h1
 unfold nV at h2
 unfold gN at h3
 unfold nH at h4
 unfold kT at h5
 unfold oM at h6
 refine ⟨?_, ?_, ?_⟩
 ·split at h1 <;> split at h2 <;> omega
 ·split at h3 <;> split at h4 <;> omega
 ·split at h5 <;> split at h6 <;> omega
theorem yX {box coin n : Int} {ls Tr : List Ln} (h : cI n ls Tr = false) : sO box coin n ls Tr = fun _ => Ei := by unfold sO; rw [h]; rfl
theorem IU (n coin box : Int) (ls : List Ln) (cs : List Ct) (hn : 1 <= n /\ n <= 4) (hcn : 1 <= coin /\ coin <= 99) (hbx : 0 <= box /\ box <= 999) (hlen : ls.length <= 8) (hls : ls.all (cB n) = true) (Tr : List Ln) (hT : Tr.length <= 65536) (hw : ∀ r ∈ Tr, vJ r) :
 PureF Try.prog p76.ix [.ag [.i .i64 n, .i .i64 coin, .i .i64 box, .lst 3 (aD aM ls), .lst 3 (aD dZ cs), .any], .lst 3 (aD aM Tr)] (.tp [.ag (kP (sO box coin n ls Tr)), .b (cI n ls Tr)]) := by
 have e1 := aC aM ls
 have e2 := aC aM Tr
 refine PureF.run UM (by simp) (by simp [aO, eB, Pu, aJ, aB, aE]) ?_; conv => whnf
 by_cases hl : Tr.length = ls.length
 ·have hlen' : Tr.length <= 8 := by omega
  repeat' ((first | refine Qw ?_ | refine Qf (rS n coin box ls cs Tr) ?_ | refine Qd (fun h => ?_) (fun h => ?_)) <;> conv => whnf)
  refine WSt.ixaN (m := 0) rfl rfl rfl (by omega) ?_; conv => whnf
  repeat' ((first | refine Qw ?_ | refine Qf (rS n coin box ls cs Tr) ?_ | refine Qd (fun h => ?_) (fun h => ?_)) <;> conv => whnf)
  refine Rn.loop (fun j : Nat => ⟨EU Tr j, EI n coin box ls cs Tr j, five5, none⟩) (fun j => j <= Tr.length /\ ∀ q, q < j -> (Am n (ls.getD q default) (Tr.getD q default) && dV Tr q) = true) (fun j => Tr.length - j) 0 ?_ ?_ ?_
  ·refine X.le.mk ?_ ?_ (Nat.le_refl _) rfl rfl <;> (first | unfold EU | unfold EI) <;> exact gC
  ·exact ⟨Nat.zero_le _, fun q h => absurd h (Nat.not_lt_zero _)⟩
  rintro j ⟨hj, hq⟩
  have hj : j <= Tr.length := hj
  conv => whnf
  refine Qg ?_
  refine WB.dec (fun h => ?_) (fun h => ?_) <;> conv => whnf
  ·have hlt : j < Tr.length := by omega
   have hlt' : j < ls.length := by omega
   have hok := List.all_eq_true.1 hls _ (bV (d := default) hlt')
   unfold cB at hok
   simp only [Bool.and_eq_true, aP] at hok
   obtain ⟨hk, hc, ht⟩ := hok
   have hc : -1 <= (ls.getD j default).c /\ (ls.getD j default).c <= 3 := by omega
   have ht : -1 <= (ls.getD j default).t /\ (ls.getD j default).t <= 3 := by omega
   have cS := Oi n coin box ls cs hn (ls.getD j default) hk hc ht (Tr.getD j default) (hw _ (bV hlt))
   have hno : (Am n (ls.getD j default) (Tr.getD j default) && dV Tr j) = false -> cI n ls Tr = false := fun h => by
    refine Bool.eq_false_iff.2 fun hf => ?_
    unfold cI at hf
    rw [Bool.and_eq_true] at hf
    have := List.all_eq_true.1 hf.2 j (List.mem_range.2 hlt)
    rw [h] at this; cases this
   cases hR : Am n (ls.getD j default) (Tr.getD j default) with
   | false =>
     rw [hR] at cS hno
     repeat' ((first | refine Qz ?_ | refine Qf (lC n coin box ls cs (ls.getD j default)) ?_) <;> conv => whnf)
     refine WCall.borrow1 cS five5 (.cells false ((gB (Tr.getD j default)).map fun d => Cell.o d 0) 1) (.cons ?_ (.cons (.fn .nil (.cons ?_ .nil)) .nil)) trivial rfl rfl ?_
     ·exact .pu (by simp [Pu, aO, jV, gB])
     ·exact Frz.ptr (r := gB (Tr.getD j default)) rfl rfl (by simp [gB]) (by simp [gB, aO, Pu])
     conv => whnf
     repeat' ((first | refine Qw ?_ | refine Qd (fun h => ?_) (fun h => ?_)) <;> conv => whnf)
     rw [yX (hno rfl), hno rfl]
     refine ⟨.inr rfl, _, rfl, .tp (.cons (.pu ?_) (.cons (.pu trivial) .nil))⟩
     exact pQ (fun _ => Ei)
   | true =>
     obtain ⟨rk, rc, rt⟩ := Hw hn hk hc ht hR
     have hm1 := qR (T := Tr) hbx hcn j
     have hm2 := yK (T := Tr) j
     have cA := Dx n coin box ls cs (fC box coin Tr j) (Tr.getD j default) hcn ⟨show 0 <= (j : Int) by omega, show (j : Int) <= 50 by omega⟩ ⟨show -100000 <= bZ box coin Tr j by omega, show bZ box coin Tr j <= 100000 by omega⟩ ⟨show 0 <= gT Tr j by omega, show gT Tr j <= 50 by omega⟩ (fun q => by
      have g1 := jO Tr (q : Int) j
      have g2 := jK Tr ((q - 4 : Nat) : Int) j
      show 0 <= (if q < 4 then bK Tr (q : Int) j + 1 else bY Tr ((q - 4 : Nat) : Int) j + 1) /\ (if q < 4 then bK Tr (q : Int) j + 1 else bY Tr ((q - 4 : Nat) : Int) j + 1) <= 50
      split <;> omega) rc rt
     rw [hR] at cS hno
     cases hP : dV Tr j with
     | false =>
       rw [Hy rk rc rt hP] at cA
       rw [hP] at hno
       repeat' ((first | refine Qz ?_ | refine Qf (lC n coin box ls cs (ls.getD j default)) ?_) <;> conv => whnf)
       refine WCall.borrow1 cS five5 (.cells false ((gB (Tr.getD j default)).map fun d => Cell.o d 0) 1) (.cons ?_ (.cons (.fn .nil (.cons ?_ .nil)) .nil)) trivial rfl rfl ?_
       ·exact .pu (by simp [Pu, aO, jV, gB])
       ·exact Frz.ptr (r := gB (Tr.getD j default)) rfl rfl (by simp [gB]) (by simp [gB, aO, Pu])
       conv => whnf
       repeat' ((first | refine Qw ?_ | refine Qf cA ?_ | refine Qd (fun h => ?_) (fun h => ?_)) <;> conv => whnf)
       rw [yX (hno rfl), hno rfl]
       refine ⟨.inr rfl, _, rfl, .tp (.cons (.pu ?_) (.cons (.pu trivial) .nil))⟩
       exact pQ (fun _ => Ei)
     | true =>
       rw [Er rk rc rt hP] at cA
       repeat' ((first | refine Qz ?_ | refine Qf (lC n coin box ls cs (ls.getD j default)) ?_) <;> conv => whnf)
       refine WCall.borrow1 cS five5 (.cells false ((gB (Tr.getD j default)).map fun d => Cell.o d 0) 1) (.cons ?_ (.cons (.fn .nil (.cons ?_ .nil)) .nil)) trivial rfl rfl ?_
       ·exact .pu (by simp [Pu, aO, jV, gB])
       ·exact Frz.ptr (r := gB (Tr.getD j default)) rfl rfl (by simp [gB]) (by simp [gB, aO, Pu])
       conv => whnf
       repeat' ((first | refine Qw ?_ | refine Qf cA ?_ | refine Qd (fun h => ?_) (fun h => ?_)) <;> conv => whnf)
       have h8 : j < 8 := by omega
       rcases MO h8 with rfl | rfl | rfl | rfl | rfl | rfl | rfl | rfl
       ·refine WSt.ixaN (m := 1) rfl rfl rfl (by omega) ?_; conv => whnf
        repeat' ((first | refine Qw ?_ | refine Qd (fun h => ?_) (fun h => ?_)) <;> conv => whnf)
        refine Again.to 1 (by show Tr.length - 1 < Tr.length - 0; omega) ⟨by omega, fun p hp => ?_⟩ (Nat.le_refl _) (Shr.kp2 ?_ (mS _ _) ?_ (lZ _ _ _ _ _ _ _))
        ·by_cases e : p = 0
         ·subst e; rw [hR, hP]; rfl
         ·exact hq p (by omega)
        ·(unfold EU; exact gC)
        ·(unfold EI; exact gC)
       ·refine WSt.ixaN (m := 2) rfl rfl rfl (by omega) ?_; conv => whnf
        repeat' ((first | refine Qw ?_ | refine Qd (fun h => ?_) (fun h => ?_)) <;> conv => whnf)
        refine Again.to 2 (by show Tr.length - 2 < Tr.length - 1; omega) ⟨by omega, fun p hp => ?_⟩ (Nat.le_refl _) (Shr.kp2 ?_ (mS _ _) ?_ (lZ _ _ _ _ _ _ _))
        ·by_cases e : p = 1
         ·subst e; rw [hR, hP]; rfl
         ·exact hq p (by omega)
        ·(unfold EU; exact gC)
        ·(unfold EI; exact gC)
       ·refine WSt.ixaN (m := 3) rfl rfl rfl (by omega) ?_; conv => whnf
        repeat' ((first | refine Qw ?_ | refine Qd (fun h => ?_) (fun h => ?_)) <;> conv => whnf)
        refine Again.to 3 (by show Tr.length - 3 < Tr.length - 2; omega) ⟨by omega, fun p hp => ?_⟩ (Nat.le_refl _) (Shr.kp2 ?_ (mS _ _) ?_ (lZ _ _ _ _ _ _ _))
        ·by_cases e : p = 2
         ·subst e; rw [hR, hP]; rfl
         ·exact hq p (by omega)
        ·(unfold EU; exact gC)
        ·(unfold EI; exact gC)
       ·refine WSt.ixaN (m := 4) rfl rfl rfl (by omega) ?_; conv => whnf
        repeat' ((first | refine Qw ?_ | refine Qd (fun h => ?_) (fun h => ?_)) <;> conv => whnf)
        refine Again.to 4 (by show Tr.length - 4 < Tr.length - 3; omega) ⟨by omega, fun p hp => ?_⟩ (Nat.le_refl _) (Shr.kp2 ?_ (mS _ _) ?_ (lZ _ _ _ _ _ _ _))
        ·by_cases e : p = 3
         ·subst e; rw [hR, hP]; rfl
         ·exact hq p (by omega)
        ·(unfold EU; exact gC)
        ·(unfold EI; exact gC)
       ·refine WSt.ixaN (m := 5) rfl rfl rfl (by omega) ?_; conv => whnf
        repeat' ((first | refine Qw ?_ | refine Qd (fun h => ?_) (fun h => ?_)) <;> conv => whnf)
        refine Again.to 5 (by show Tr.length - 5 < Tr.length - 4; omega) ⟨by omega, fun p hp => ?_⟩ (Nat.le_refl _) (Shr.kp2 ?_ (mS _ _) ?_ (lZ _ _ _ _ _ _ _))
        ·by_cases e : p = 4
         ·subst e; rw [hR, hP]; rfl
         ·exact hq p (by omega)
        ·(unfold EU; exact gC)
        ·(unfold EI; exact gC)
       ·refine WSt.ixaN (m := 6) rfl rfl rfl (by omega) ?_; conv => whnf
        repeat' ((first | refine Qw ?_ | refine Qd (fun h => ?_) (fun h => ?_)) <;> conv => whnf)
        refine Again.to 6 (by show Tr.length - 6 < Tr.length - 5; omega) ⟨by omega, fun p hp => ?_⟩ (Nat.le_refl _) (Shr.kp2 ?_ (mS _ _) ?_ (lZ _ _ _ _ _ _ _))
        ·by_cases e : p = 5
         ·subst e; rw [hR, hP]; rfl
         ·exact hq p (by omega)
        ·(unfold EU; exact gC)
        ·(unfold EI; exact gC)
       ·refine WSt.ixaN (m := 7) rfl rfl rfl (by omega) ?_; conv => whnf
        repeat' ((first | refine Qw ?_ | refine Qd (fun h => ?_) (fun h => ?_)) <;> conv => whnf)
        refine Again.to 7 (by show Tr.length - 7 < Tr.length - 6; omega) ⟨by omega, fun p hp => ?_⟩ (Nat.le_refl _) (Shr.kp2 ?_ (mS _ _) ?_ (lZ _ _ _ _ _ _ _))
        ·by_cases e : p = 6
         ·subst e; rw [hR, hP]; rfl
         ·exact hq p (by omega)
        ·(unfold EU; exact gC)
        ·(unfold EI; exact gC)
       ·refine WSt.ixaN (m := 8) rfl rfl rfl (by omega) ?_; conv => whnf
        repeat' ((first | refine Qw ?_ | refine Qd (fun h => ?_) (fun h => ?_)) <;> conv => whnf)
        refine Again.to 8 (by show Tr.length - 8 < Tr.length - 7; omega) ⟨by omega, fun p hp => ?_⟩ (Nat.le_refl _) (Shr.kp2 ?_ (mS _ _) ?_ (lZ _ _ _ _ _ _ _))
        ·by_cases e : p = 7
         ·subst e; rw [hR, hP]; rfl
         ·exact hq p (by omega)
        ·(unfold EU; exact gC)
        ·(unfold EI; exact gC)
  ·refine Qg ?_
   have hjj : j = Tr.length := by omega
   have hyes : cI n ls Tr = true := by
    unfold cI
    rw [decide_eq_true hl, Bool.true_and, List.all_eq_true]
    intro q h
    exact hq q (by have := List.mem_range.1 h; omega)
   have hfo : sO box coin n ls Tr = vP box coin Tr Tr.length := by unfold sO; rw [hyes]; rfl
   rw [hfo, hyes, <- hjj]
   refine ⟨.inr rfl, _, rfl, .tp (.cons (.pu ?_) (.cons (.pu trivial) .nil))⟩
   exact pQ (vP box coin Tr j)
 ·have hno : cI n ls Tr = false := by
   unfold cI
   rw [decide_eq_false hl]; rfl
  rw [yX hno, hno]
  repeat' ((first | refine Qw ?_ | refine Qd (fun h => ?_) (fun h => ?_)) <;> conv => whnf)
  all_goals first
   | (exfalso; omega)
   | skip
  refine ⟨.inr rfl, _, rfl, .tp (.cons (.pu ?_) (.cons (.pu trivial) .nil))⟩
  exact pQ (fun _ => Ei)
def dU (cs : List Ct) (m : Mo) : Bool := cs.all fun c => !decide (c.a = m.n) || gS m.box c.lo c.hi
theorem EN (n coin box : Int) (ls : List Ln) (cs : List Ct) (m : Mo) (hc : cs.length <= 1000) : PureF Try.prog p80.ix [.ag [.i .i64 n, .i .i64 coin, .i .i64 box, .lst 3 (aD aM ls), .lst 3 (aD dZ cs), .any], .ag (dW m)] (.b (dU cs m)) := by
 have cA := Dz cs p111 [.ag (dW m)] [] (fun c => !decide (c.a = m.n) || gS m.box c.lo c.hi) (by simp [aO, Pu, dW]) trivial hc (fun c _ => Ss m c)
 unfold dW at cA ⊢
 refine PureF.run Vy (by simp) (by simp [aO, eB, Pu, aJ, aB, aE]) ?_; conv => whnf
 repeat' ((first | refine Qz ?_ | refine Qf cA ?_) <;> conv => whnf)
 exact Fin.b rfl rfl
def Rt (F : Nat -> Mo) (k : Nat) : List Mo := (List.range k).map F
theorem dK (l : List Int) : ∀ r ∈ ints l, r.length = 1 := fun r hr => by
 obtain ⟨n, _, rfl⟩ := List.mem_map.1 hr
 rfl
theorem GT {m : Nat} (h : m < 9) : m = 0 \/ m = 1 \/ m = 2 \/ m = 3 \/ m = 4 \/ m = 5 \/ m = 6 \/ m = 7 \/ m = 8 := by omega
theorem dJ (l : List Int) : aO (l.map fun n => D.i .i64 n) := aG.2 fun d hd => by
 obtain ⟨n, _, rfl⟩ := List.mem_map.1 hd
 exact trivial
def mT (n coin box : Int) (ls : List Ln) (cs : List Ct) (Tr : List Ln) : List Int × Int × Int :=
 if aS n coin box ls cs = 0 then (if cI n ls Tr = true then ((List.range (ls.length + 1)).map fun q => (sO box coin n ls Tr q).box, (sO box coin n ls Tr ls.length).mix, 0) else ([], 0, 2)) else ([], 0, aS n coin box ls cs)
def Kn (n coin box : Int) (ls : List Ln) (cs : List Ct) : C := .cells false ([.i .i64 n, .i .i64 coin, .i .i64 box, .lst 3 (aD aM ls), .lst 3 (aD dZ cs)].map fun d => Cell.o d 0) 1
theorem iD (n coin box : Int) (ls : List Ln) (cs : List Ct) {B : Pos -> Prop} {ob : T C} : ShC B ob (Kn n coin box ls cs) (Kn n coin box ls cs) := ShC.same (ShC.cn (.pu trivial) (ShC.cn (.pu trivial) (ShC.cn (.pu trivial) (ShC.cn (.pu (aB _)) (ShC.cn (.pu (aE _)) ShC.nl)))))
theorem kY (F : Nat -> Mo) {n : Nat} {ob : T C} : ShC (fun id => id.nat < n) ob (pN F) (pN F) := ShC.kp (JK (jZ F n))
theorem OT (n coin box : Int) (ls : List Ln) (cs : List Ct) (Tr : List Ln) (hT : Tr.length <= 65536) (hw : ∀ r ∈ Tr, vJ r) : PureF Try.prog p23.ix [.ag [.i .i64 n, .i .i64 coin, .i .i64 box, .lst 3 (aD aM ls), .lst 3 (aD dZ cs)], .lst 3 (aD aM Tr)] (.tp [.lst 1 (ints (mT n coin box ls cs Tr).1), .i .i64 (mT n coin box ls cs Tr).2.1, .i .i64 (mT n coin box ls cs Tr).2.2]) := by
 have e1 := aC aM ls
 have cC := mH n coin box ls cs
 by_cases h0 : aS n coin box ls cs = 0
 ·obtain ⟨f1, f2, f3, f4⟩ := nI h0
  unfold kU at f3
  simp only [Bool.and_eq_true] at f3
  obtain ⟨v1, v2, v3, v4, v5⟩ := f3
  have hn : 1 <= n /\ n <= 4 := aP.1 v1
  have cF := IU n coin box ls cs hn (aP.1 v2) (aP.1 v3) f1 v4 Tr hT hw
  cases hF : cI n ls Tr with
  | false =>
    have hp : mT n coin box ls cs Tr = ([], 0, 2) := by unfold mT; rw [if_pos h0, if_neg (by rw [hF]; simp)]
    rw [hp]
    rw [hF] at cF
    refine PureF.run Ov (by simp) (by simp [aO, eB, Pu, aJ, aB, aE]) ?_; conv => whnf
    repeat' ((first | refine Qw ?_ | refine Qf cC ?_ | refine Qf (pZ n coin box ls cs) ?_ | refine Qf cF ?_ | refine Qd (fun h => ?_) (fun h => ?_)) <;> conv => whnf)
    exact ⟨.inr rfl, _, rfl, .tp (.cons .ns (.cons (.pu trivial) (.cons (.pu trivial) .nil)))⟩
  | true =>
    have hp : mT n coin box ls cs Tr = ((List.range (ls.length + 1)).map fun q => (sO box coin n ls Tr q).box, (sO box coin n ls Tr ls.length).mix, 0) := by unfold mT; rw [if_pos h0, if_pos hF]
    rw [hp]
    rw [hF] at cF
    generalize sO box coin n ls Tr = F at *
    have hEl : ((List.range (ls.length + 1)).map fun q => (F q).box).length = ls.length + 1 := by simp
    have hEg : ∀ j, j < ls.length + 1 -> (F j).box = ((List.range (ls.length + 1)).map fun q => (F q).box).getD j 0 := fun j hj => by simp [List.getD, hj]
    generalize ((List.range (ls.length + 1)).map fun q => (F q).box) = E at *
    refine PureF.run Ov (by simp) (by simp [aO, eB, Pu, aJ, aB, aE]) ?_; conv => whnf
    repeat' ((first | refine Qw ?_ | refine Qf cC ?_ | refine Qf (pZ n coin box ls cs) ?_ | refine Qf cF ?_ | refine Qd (fun h => ?_) (fun h => ?_)) <;> conv => whnf)
    refine Rn.loop (fun j : Nat => match j with
     | 0 => ⟨(.n (.n .e none (.n .e none (.n .e none (.n .e (some (.i .i64 0)) .e)))) none (.n (.n (.n .e (some (.pt (.o .h) 0 0)) .e) (some (.ns)) (.n .e none (.n .e (some (.i .i64 (((aD aM ls).length : Int) + 1))) .e))) (some (.pt .h 0 0)) .e)), (.n (.n .e (some (pN F)) .e) (some (Kn n coin box ls cs)) .e), .i .h, none⟩
     | j + 1 => ⟨(.n (.n .e none (.n .e none (.n .e none (.n .e (some (.i .i64 ((j + 1 : Nat) : Int))) .e)))) none (.n (.n (.n .e (some (.pt (.o .h) 0 0)) .e) (some (.sl (.o (.o .h)) 0 (j + 1) j 1)) (.n .e none (.n .e (some (.i .i64 (((aD aM ls).length : Int) + 1))) .e))) (some (.pt .h 0 0)) .e)), (.n (.n (.n .e (some (.cells false (((E.take (j + 1)).map fun n => D.i .i64 n).map fun d => Cell.o d j) (j + 1))) .e) (some (pN F)) .e) (some (Kn n coin box ls cs)) .e), .i (.o .h), none⟩) (fun j => j <= ls.length + 1) (fun j => ls.length + 1 - j) 0 ?_ ?_ ?_
    ·refine X.le.mk ?_ ?_ (Nat.le_refl _) rfl rfl <;> exact gC
    ·exact Nat.zero_le _
    rintro (_ | j) hj
    ·conv => whnf
     refine Qg ?_
     refine WB.dec (fun h => ?_) (fun h => ?_) <;> conv => whnf
     ·have hE := hEg 0 (by omega)
      repeat' ((first | refine Qw ?_ | refine Qd (fun h => ?_) (fun h => ?_)) <;> conv => whnf)
      refine WSt.ixaN (m := 0) rfl rfl (by omega) (by omega) ?_; conv => whnf
      repeat' ((first | refine Qw ?_ | refine Qf (gL (F 0)) ?_ | refine Qd (fun h => ?_) (fun h => ?_)) <;> conv => whnf)
      refine WSt.app_first (r := [_]) rfl (.inl rfl) rfl rfl rfl rfl ?_; conv => whnf
      refine Qg ?_
      refine Again.to 1 (by show ls.length + 1 - 1 < ls.length + 1 - 0; omega) (by show 1 <= ls.length + 1; omega) (Nat.le_of_ble_eq_true rfl) ?_
      have ht : E.take 1 = [E.getD 0 0] := by rw [aL (j := 0) (d := 0) (by omega)]; simp
      refine Shr.of ?_ ?_ rfl rfl
      ·exact Rw
      ·(repeat' first | exact Rel.e | refine Rel.some ?_ ?_ ?_ | refine Rel.none ?_ ?_ | refine Rel.ee ?_ ?_)
       all_goals first
        | exact Ro (iD n coin box ls cs)
        | exact Ro (kY F)
        | (refine RO'.of (show Pos.nat _ < Pos.nat _ by simp [Pos.nat]) ?_
           show ShC _ _ _ (.cells false (((E.take 1).map fun n => D.i .i64 n).map fun d => Cell.o d 0) 1)
           rw [ht, <- hE]
           exact ShC.same (ShC.cn (.pu trivial) ShC.nl))
     ·exfalso; omega
    ·have hj : j + 1 <= ls.length + 1 := hj
     conv => whnf
     refine Qg ?_
     refine WB.dec (fun h => ?_) (fun h => ?_) <;> conv => whnf
     ·have hlt : j + 1 < ls.length + 1 := by omega
      have hE := hEg (j + 1) hlt
      rcases MO (show j < 8 by omega) with h8 | h8 | h8 | h8 | h8 | h8 | h8 | h8
      ·have hE : (F 1).box = E.getD (j + 1) 0 := by rw [<- hE, h8]
       refine Qg ?_
       refine WSt.ixaN (m := 1) rfl rfl (by omega) (by omega) ?_; conv => whnf
       repeat' ((first | refine Qw ?_ | refine Qf (gL (F 1)) ?_ | refine Qd (fun h => ?_) (fun h => ?_)) <;> conv => whnf)
       refine WSt.app_one (ds := (E.take (j + 1)).map fun n => D.i .i64 n) (r := [_]) rfl rfl rfl rfl rfl rfl (by simp; omega) rfl rfl (by omega) rfl ?_; conv => whnf
       refine Qg ?_
       refine Again.to (j + 2) (by show ls.length + 1 - (j + 2) < ls.length + 1 - (j + 1); omega) (by show j + 2 <= ls.length + 1; omega) (Nat.le_of_ble_eq_true rfl) ?_
       refine Shr.of ?_ ?_ rfl rfl
       ·exact Rw
       ·(repeat' first | exact Rel.e | refine Rel.some ?_ ?_ ?_ | refine Rel.none ?_ ?_ | refine Rel.ee ?_ ?_)
        all_goals first
         | exact Ro (iD n coin box ls cs)
         | exact Ro (kY F)
         | (refine RO'.of (show Pos.nat _ < Pos.nat _ by simp [Pos.nat]) ?_
            show ShC _ _ (.cells false ((((E.take (j + 1)).map fun n => D.i .i64 n).map fun d => Cell.o d j) ++ [_].map fun d => Cell.o d (j + 1)) (j + 1 + 1)) (.cells false (((E.take (j + 1 + 1)).map fun n => D.i .i64 n).map fun d => Cell.o d (j + 1)) (j + 1 + 1))
            rw [aL (j := j + 1) (d := 0) (by omega), List.map_append, <- hE]
            exact ShC.grown (by omega) (aG.2 fun d hd => by
             rcases List.mem_append.1 hd with hd | hd
             ·exact aG.1 (dJ _) d hd
             ·simp at hd; subst hd; exact trivial))
      ·have hE : (F 2).box = E.getD (j + 1) 0 := by rw [<- hE, h8]
       refine Qg ?_
       refine WSt.ixaN (m := 2) rfl rfl (by omega) (by omega) ?_; conv => whnf
       repeat' ((first | refine Qw ?_ | refine Qf (gL (F 2)) ?_ | refine Qd (fun h => ?_) (fun h => ?_)) <;> conv => whnf)
       refine WSt.app_one (ds := (E.take (j + 1)).map fun n => D.i .i64 n) (r := [_]) rfl rfl rfl rfl rfl rfl (by simp; omega) rfl rfl (by omega) rfl ?_; conv => whnf
       refine Qg ?_
       refine Again.to (j + 2) (by show ls.length + 1 - (j + 2) < ls.length + 1 - (j + 1); omega) (by show j + 2 <= ls.length + 1; omega) (Nat.le_of_ble_eq_true rfl) ?_
       refine Shr.of ?_ ?_ rfl rfl
       ·exact Rw
       ·(repeat' first | exact Rel.e | refine Rel.some ?_ ?_ ?_ | refine Rel.none ?_ ?_ | refine Rel.ee ?_ ?_)
        all_goals first
         | exact Ro (iD n coin box ls cs)
         | exact Ro (kY F)
         | (refine RO'.of (show Pos.nat _ < Pos.nat _ by simp [Pos.nat]) ?_
            show ShC _ _ (.cells false ((((E.take (j + 1)).map fun n => D.i .i64 n).map fun d => Cell.o d j) ++ [_].map fun d => Cell.o d (j + 1)) (j + 1 + 1)) (.cells false (((E.take (j + 1 + 1)).map fun n => D.i .i64 n).map fun d => Cell.o d (j + 1)) (j + 1 + 1))
            rw [aL (j := j + 1) (d := 0) (by omega), List.map_append, <- hE]
            exact ShC.grown (by omega) (aG.2 fun d hd => by
             rcases List.mem_append.1 hd with hd | hd
             ·exact aG.1 (dJ _) d hd
             ·simp at hd; subst hd; exact trivial))
      ·have hE : (F 3).box = E.getD (j + 1) 0 := by rw [<- hE, h8]
       refine Qg ?_
       refine WSt.ixaN (m := 3) rfl rfl (by omega) (by omega) ?_; conv => whnf
       repeat' ((first | refine Qw ?_ | refine Qf (gL (F 3)) ?_ | refine Qd (fun h => ?_) (fun h => ?_)) <;> conv => whnf)
       refine WSt.app_one (ds := (E.take (j + 1)).map fun n => D.i .i64 n) (r := [_]) rfl rfl rfl rfl rfl rfl (by simp; omega) rfl rfl (by omega) rfl ?_; conv => whnf
       refine Qg ?_
       refine Again.to (j + 2) (by show ls.length + 1 - (j + 2) < ls.length + 1 - (j + 1); omega) (by show j + 2 <= ls.length + 1; omega) (Nat.le_of_ble_eq_true rfl) ?_
       refine Shr.of ?_ ?_ rfl rfl
       ·exact Rw
       ·(repeat' first | exact Rel.e | refine Rel.some ?_ ?_ ?_ | refine Rel.none ?_ ?_ | refine Rel.ee ?_ ?_)
        all_goals first
         | exact Ro (iD n coin box ls cs)
         | exact Ro (kY F)
         | (refine RO'.of (show Pos.nat _ < Pos.nat _ by simp [Pos.nat]) ?_
            show ShC _ _ (.cells false ((((E.take (j + 1)).map fun n => D.i .i64 n).map fun d => Cell.o d j) ++ [_].map fun d => Cell.o d (j + 1)) (j + 1 + 1)) (.cells false (((E.take (j + 1 + 1)).map fun n => D.i .i64 n).map fun d => Cell.o d (j + 1)) (j + 1 + 1))
            rw [aL (j := j + 1) (d := 0) (by omega), List.map_append, <- hE]
            exact ShC.grown (by omega) (aG.2 fun d hd => by
             rcases List.mem_append.1 hd with hd | hd
             ·exact aG.1 (dJ _) d hd
             ·simp at hd; subst hd; exact trivial))
      ·have hE : (F 4).box = E.getD (j + 1) 0 := by rw [<- hE, h8]
       refine Qg ?_
       refine WSt.ixaN (m := 4) rfl rfl (by omega) (by omega) ?_; conv => whnf
       repeat' ((first | refine Qw ?_ | refine Qf (gL (F 4)) ?_ | refine Qd (fun h => ?_) (fun h => ?_)) <;> conv => whnf)
       refine WSt.app_one (ds := (E.take (j + 1)).map fun n => D.i .i64 n) (r := [_]) rfl rfl rfl rfl rfl rfl (by simp; omega) rfl rfl (by omega) rfl ?_; conv => whnf
       refine Qg ?_
       refine Again.to (j + 2) (by show ls.length + 1 - (j + 2) < ls.length + 1 - (j + 1); omega) (by show j + 2 <= ls.length + 1; omega) (Nat.le_of_ble_eq_true rfl) ?_
       refine Shr.of ?_ ?_ rfl rfl
       ·exact Rw
       ·(repeat' first | exact Rel.e | refine Rel.some ?_ ?_ ?_ | refine Rel.none ?_ ?_ | refine Rel.ee ?_ ?_)
        all_goals first
         | exact Ro (iD n coin box ls cs)
         | exact Ro (kY F)
         | (refine RO'.of (show Pos.nat _ < Pos.nat _ by simp [Pos.nat]) ?_
            show ShC _ _ (.cells false ((((E.take (j + 1)).map fun n => D.i .i64 n).map fun d => Cell.o d j) ++ [_].map fun d => Cell.o d (j + 1)) (j + 1 + 1)) (.cells false (((E.take (j + 1 + 1)).map fun n => D.i .i64 n).map fun d => Cell.o d (j + 1)) (j + 1 + 1))
            rw [aL (j := j + 1) (d := 0) (by omega), List.map_append, <- hE]
            exact ShC.grown (by omega) (aG.2 fun d hd => by
             rcases List.mem_append.1 hd with hd | hd
             ·exact aG.1 (dJ _) d hd
             ·simp at hd; subst hd; exact trivial))
      ·have hE : (F 5).box = E.getD (j + 1) 0 := by rw [<- hE, h8]
       refine Qg ?_
       refine WSt.ixaN (m := 5) rfl rfl (by omega) (by omega) ?_; conv => whnf
       repeat' ((first | refine Qw ?_ | refine Qf (gL (F 5)) ?_ | refine Qd (fun h => ?_) (fun h => ?_)) <;> conv => whnf)
       refine WSt.app_one (ds := (E.take (j + 1)).map fun n => D.i .i64 n) (r := [_]) rfl rfl rfl rfl rfl rfl (by simp; omega) rfl rfl (by omega) rfl ?_; conv => whnf
       refine Qg ?_
       refine Again.to (j + 2) (by show ls.length + 1 - (j + 2) < ls.length + 1 - (j + 1); omega) (by show j + 2 <= ls.length + 1; omega) (Nat.le_of_ble_eq_true rfl) ?_
       refine Shr.of ?_ ?_ rfl rfl
       ·exact Rw
       ·(repeat' first | exact Rel.e | refine Rel.some ?_ ?_ ?_ | refine Rel.none ?_ ?_ | refine Rel.ee ?_ ?_)
        all_goals first
         | exact Ro (iD n coin box ls cs)
         | exact Ro (kY F)
         | (refine RO'.of (show Pos.nat _ < Pos.nat _ by simp [Pos.nat]) ?_
            show ShC _ _ (.cells false ((((E.take (j + 1)).map fun n => D.i .i64 n).map fun d => Cell.o d j) ++ [_].map fun d => Cell.o d (j + 1)) (j + 1 + 1)) (.cells false (((E.take (j + 1 + 1)).map fun n => D.i .i64 n).map fun d => Cell.o d (j + 1)) (j + 1 + 1))
            rw [aL (j := j + 1) (d := 0) (by omega), List.map_append, <- hE]
            exact ShC.grown (by omega) (aG.2 fun d hd => by
             rcases List.mem_append.1 hd with hd | hd
             ·exact aG.1 (dJ _) d hd
             ·simp at hd; subst hd; exact trivial))
      ·have hE : (F 6).box = E.getD (j + 1) 0 := by rw [<- hE, h8]
       refine Qg ?_
       refine WSt.ixaN (m := 6) rfl rfl (by omega) (by omega) ?_; conv => whnf
       repeat' ((first | refine Qw ?_ | refine Qf (gL (F 6)) ?_ | refine Qd (fun h => ?_) (fun h => ?_)) <;> conv => whnf)
       refine WSt.app_one (ds := (E.take (j + 1)).map fun n => D.i .i64 n) (r := [_]) rfl rfl rfl rfl rfl rfl (by simp; omega) rfl rfl (by omega) rfl ?_; conv => whnf
       refine Qg ?_
       refine Again.to (j + 2) (by show ls.length + 1 - (j + 2) < ls.length + 1 - (j + 1); omega) (by show j + 2 <= ls.length + 1; omega) (Nat.le_of_ble_eq_true rfl) ?_
       refine Shr.of ?_ ?_ rfl rfl
       ·exact Rw
       ·(repeat' first | exact Rel.e | refine Rel.some ?_ ?_ ?_ | refine Rel.none ?_ ?_ | refine Rel.ee ?_ ?_)
        all_goals first
         | exact Ro (iD n coin box ls cs)
         | exact Ro (kY F)
         | (refine RO'.of (show Pos.nat _ < Pos.nat _ by simp [Pos.nat]) ?_
            show ShC _ _ (.cells false ((((E.take (j + 1)).map fun n => D.i .i64 n).map fun d => Cell.o d j) ++ [_].map fun d => Cell.o d (j + 1)) (j + 1 + 1)) (.cells false (((E.take (j + 1 + 1)).map fun n => D.i .i64 n).map fun d => Cell.o d (j + 1)) (j + 1 + 1))
            rw [aL (j := j + 1) (d := 0) (by omega), List.map_append, <- hE]
            exact ShC.grown (by omega) (aG.2 fun d hd => by
             rcases List.mem_append.1 hd with hd | hd
             ·exact aG.1 (dJ _) d hd
             ·simp at hd; subst hd; exact trivial))
      ·have hE : (F 7).box = E.getD (j + 1) 0 := by rw [<- hE, h8]
       refine Qg ?_
       refine WSt.ixaN (m := 7) rfl rfl (by omega) (by omega) ?_; conv => whnf
       repeat' ((first | refine Qw ?_ | refine Qf (gL (F 7)) ?_ | refine Qd (fun h => ?_) (fun h => ?_)) <;> conv => whnf)
       refine WSt.app_one (ds := (E.take (j + 1)).map fun n => D.i .i64 n) (r := [_]) rfl rfl rfl rfl rfl rfl (by simp; omega) rfl rfl (by omega) rfl ?_; conv => whnf
       refine Qg ?_
       refine Again.to (j + 2) (by show ls.length + 1 - (j + 2) < ls.length + 1 - (j + 1); omega) (by show j + 2 <= ls.length + 1; omega) (Nat.le_of_ble_eq_true rfl) ?_
       refine Shr.of ?_ ?_ rfl rfl
       ·exact Rw
       ·(repeat' first | exact Rel.e | refine Rel.some ?_ ?_ ?_ | refine Rel.none ?_ ?_ | refine Rel.ee ?_ ?_)
        all_goals first
         | exact Ro (iD n coin box ls cs)
         | exact Ro (kY F)
         | (refine RO'.of (show Pos.nat _ < Pos.nat _ by simp [Pos.nat]) ?_
            show ShC _ _ (.cells false ((((E.take (j + 1)).map fun n => D.i .i64 n).map fun d => Cell.o d j) ++ [_].map fun d => Cell.o d (j + 1)) (j + 1 + 1)) (.cells false (((E.take (j + 1 + 1)).map fun n => D.i .i64 n).map fun d => Cell.o d (j + 1)) (j + 1 + 1))
            rw [aL (j := j + 1) (d := 0) (by omega), List.map_append, <- hE]
            exact ShC.grown (by omega) (aG.2 fun d hd => by
             rcases List.mem_append.1 hd with hd | hd
             ·exact aG.1 (dJ _) d hd
             ·simp at hd; subst hd; exact trivial))
      ·have hE : (F 8).box = E.getD (j + 1) 0 := by rw [<- hE, h8]
       refine Qg ?_
       refine WSt.ixaN (m := 8) rfl rfl (by omega) (by omega) ?_; conv => whnf
       repeat' ((first | refine Qw ?_ | refine Qf (gL (F 8)) ?_ | refine Qd (fun h => ?_) (fun h => ?_)) <;> conv => whnf)
       refine WSt.app_one (ds := (E.take (j + 1)).map fun n => D.i .i64 n) (r := [_]) rfl rfl rfl rfl rfl rfl (by simp; omega) rfl rfl (by omega) rfl ?_; conv => whnf
       refine Qg ?_
       refine Again.to (j + 2) (by show ls.length + 1 - (j + 2) < ls.length + 1 - (j + 1); omega) (by show j + 2 <= ls.length + 1; omega) (Nat.le_of_ble_eq_true rfl) ?_
       refine Shr.of ?_ ?_ rfl rfl
       ·exact Rw
       ·(repeat' first | exact Rel.e | refine Rel.some ?_ ?_ ?_ | refine Rel.none ?_ ?_ | refine Rel.ee ?_ ?_)
        all_goals first
         | exact Ro (iD n coin box ls cs)
         | exact Ro (kY F)
         | (refine RO'.of (show Pos.nat _ < Pos.nat _ by simp [Pos.nat]) ?_
            show ShC _ _ (.cells false ((((E.take (j + 1)).map fun n => D.i .i64 n).map fun d => Cell.o d j) ++ [_].map fun d => Cell.o d (j + 1)) (j + 1 + 1)) (.cells false (((E.take (j + 1 + 1)).map fun n => D.i .i64 n).map fun d => Cell.o d (j + 1)) (j + 1 + 1))
            rw [aL (j := j + 1) (d := 0) (by omega), List.map_append, <- hE]
            exact ShC.grown (by omega) (aG.2 fun d hd => by
             rcases List.mem_append.1 hd with hd | hd
             ·exact aG.1 (dJ _) d hd
             ·simp at hd; subst hd; exact trivial))
     ·have hj2 : j = ls.length := by omega
      rcases GT (show ls.length < 9 by omega) with h9 | h9 | h9 | h9 | h9 | h9 | h9 | h9 | h9
      ·refine Qg ?_
       refine WSt.ixaN (m := 0) rfl rfl (by omega) (by omega) ?_; conv => whnf
       repeat' ((first | refine Qw ?_ | refine Qf (iA (F 0)) ?_ | refine Qd (fun h => ?_) (fun h => ?_)) <;> conv => whnf)
       rw [h9]
       refine ⟨.inr rfl, _, rfl, .tp (.cons ?_ (.cons (.pu trivial) (.cons (.pu trivial) .nil)))⟩
       show Fz _ _ _ (.lst 1 (ints E))
       exact Frz.whole (cs := ((E.take (j + 1)).map fun n => D.i .i64 n).map fun d => Cell.o d j) (cur := j + 1) rfl (by rw [aR]; omega) (dK _) (by rw [bJ, List.take_of_length_le (by omega)]) (aJ _)
      ·refine Qg ?_
       refine WSt.ixaN (m := 1) rfl rfl (by omega) (by omega) ?_; conv => whnf
       repeat' ((first | refine Qw ?_ | refine Qf (iA (F 1)) ?_ | refine Qd (fun h => ?_) (fun h => ?_)) <;> conv => whnf)
       rw [h9]
       refine ⟨.inr rfl, _, rfl, .tp (.cons ?_ (.cons (.pu trivial) (.cons (.pu trivial) .nil)))⟩
       show Fz _ _ _ (.lst 1 (ints E))
       exact Frz.whole (cs := ((E.take (j + 1)).map fun n => D.i .i64 n).map fun d => Cell.o d j) (cur := j + 1) rfl (by rw [aR]; omega) (dK _) (by rw [bJ, List.take_of_length_le (by omega)]) (aJ _)
      ·refine Qg ?_
       refine WSt.ixaN (m := 2) rfl rfl (by omega) (by omega) ?_; conv => whnf
       repeat' ((first | refine Qw ?_ | refine Qf (iA (F 2)) ?_ | refine Qd (fun h => ?_) (fun h => ?_)) <;> conv => whnf)
       rw [h9]
       refine ⟨.inr rfl, _, rfl, .tp (.cons ?_ (.cons (.pu trivial) (.cons (.pu trivial) .nil)))⟩
       show Fz _ _ _ (.lst 1 (ints E))
       exact Frz.whole (cs := ((E.take (j + 1)).map fun n => D.i .i64 n).map fun d => Cell.o d j) (cur := j + 1) rfl (by rw [aR]; omega) (dK _) (by rw [bJ, List.take_of_length_le (by omega)]) (aJ _)
      ·refine Qg ?_
       refine WSt.ixaN (m := 3) rfl rfl (by omega) (by omega) ?_; conv => whnf
       repeat' ((first | refine Qw ?_ | refine Qf (iA (F 3)) ?_ | refine Qd (fun h => ?_) (fun h => ?_)) <;> conv => whnf)
       rw [h9]
       refine ⟨.inr rfl, _, rfl, .tp (.cons ?_ (.cons (.pu trivial) (.cons (.pu trivial) .nil)))⟩
       show Fz _ _ _ (.lst 1 (ints E))
       exact Frz.whole (cs := ((E.take (j + 1)).map fun n => D.i .i64 n).map fun d => Cell.o d j) (cur := j + 1) rfl (by rw [aR]; omega) (dK _) (by rw [bJ, List.take_of_length_le (by omega)]) (aJ _)
      ·refine Qg ?_
       refine WSt.ixaN (m := 4) rfl rfl (by omega) (by omega) ?_; conv => whnf
       repeat' ((first | refine Qw ?_ | refine Qf (iA (F 4)) ?_ | refine Qd (fun h => ?_) (fun h => ?_)) <;> conv => whnf)
       rw [h9]
       refine ⟨.inr rfl, _, rfl, .tp (.cons ?_ (.cons (.pu trivial) (.cons (.pu trivial) .nil)))⟩
       show Fz _ _ _ (.lst 1 (ints E))
       exact Frz.whole (cs := ((E.take (j + 1)).map fun n => D.i .i64 n).map fun d => Cell.o d j) (cur := j + 1) rfl (by rw [aR]; omega) (dK _) (by rw [bJ, List.take_of_length_le (by omega)]) (aJ _)
      ·refine Qg ?_
       refine WSt.ixaN (m := 5) rfl rfl (by omega) (by omega) ?_; conv => whnf
       repeat' ((first | refine Qw ?_ | refine Qf (iA (F 5)) ?_ | refine Qd (fun h => ?_) (fun h => ?_)) <;> conv => whnf)
       rw [h9]
       refine ⟨.inr rfl, _, rfl, .tp (.cons ?_ (.cons (.pu trivial) (.cons (.pu trivial) .nil)))⟩
       show Fz _ _ _ (.lst 1 (ints E))
       exact Frz.whole (cs := ((E.take (j + 1)).map fun n => D.i .i64 n).map fun d => Cell.o d j) (cur := j + 1) rfl (by rw [aR]; omega) (dK _) (by rw [bJ, List.take_of_length_le (by omega)]) (aJ _)
      ·refine Qg ?_
       refine WSt.ixaN (m := 6) rfl rfl (by omega) (by omega) ?_; conv => whnf
       repeat' ((first | refine Qw ?_ | refine Qf (iA (F 6)) ?_ | refine Qd (fun h => ?_) (fun h => ?_)) <;> conv => whnf)
       rw [h9]
       refine ⟨.inr rfl, _, rfl, .tp (.cons ?_ (.cons (.pu trivial) (.cons (.pu trivial) .nil)))⟩
       show Fz _ _ _ (.lst 1 (ints E))
       exact Frz.whole (cs := ((E.take (j + 1)).map fun n => D.i .i64 n).map fun d => Cell.o d j) (cur := j + 1) rfl (by rw [aR]; omega) (dK _) (by rw [bJ, List.take_of_length_le (by omega)]) (aJ _)
      ·refine Qg ?_
       refine WSt.ixaN (m := 7) rfl rfl (by omega) (by omega) ?_; conv => whnf
       repeat' ((first | refine Qw ?_ | refine Qf (iA (F 7)) ?_ | refine Qd (fun h => ?_) (fun h => ?_)) <;> conv => whnf)
       rw [h9]
       refine ⟨.inr rfl, _, rfl, .tp (.cons ?_ (.cons (.pu trivial) (.cons (.pu trivial) .nil)))⟩
       show Fz _ _ _ (.lst 1 (ints E))
       exact Frz.whole (cs := ((E.take (j + 1)).map fun n => D.i .i64 n).map fun d => Cell.o d j) (cur := j + 1) rfl (by rw [aR]; omega) (dK _) (by rw [bJ, List.take_of_length_le (by omega)]) (aJ _)
      ·refine Qg ?_
       refine WSt.ixaN (m := 8) rfl rfl (by omega) (by omega) ?_; conv => whnf
       repeat' ((first | refine Qw ?_ | refine Qf (iA (F 8)) ?_ | refine Qd (fun h => ?_) (fun h => ?_)) <;> conv => whnf)
       rw [h9]
       refine ⟨.inr rfl, _, rfl, .tp (.cons ?_ (.cons (.pu trivial) (.cons (.pu trivial) .nil)))⟩
       show Fz _ _ _ (.lst 1 (ints E))
       exact Frz.whole (cs := ((E.take (j + 1)).map fun n => D.i .i64 n).map fun d => Cell.o d j) (cur := j + 1) rfl (by rw [aR]; omega) (dK _) (by rw [bJ, List.take_of_length_le (by omega)]) (aJ _)
 ·have hp : mT n coin box ls cs Tr = ([], 0, aS n coin box ls cs) := by unfold mT; rw [if_neg h0]
  rw [hp]
  refine PureF.run Ov (by simp) (by simp [aO, eB, Pu, aJ, aB, aE]) ?_; conv => whnf
  repeat' ((first | refine Qw ?_ | refine Qf cC ?_ | refine Qd (fun h => ?_) (fun h => ?_)) <;> conv => whnf)
  exact ⟨.inr rfl, _, rfl, .tp (.cons .ns (.cons (.pu trivial) (.cons (.pu trivial) .nil)))⟩
section
variable {sl : T D} {ob : T C} {nx : Pos} {lg : Option (T Bool)} {K : X -> Prop}
theorem WSt.app_firstL {d idy : Pos} {z curY : Nat} {roY : Bool} {x y : RX} {a : D} {r : List D} {csY : List Cell} (hx : bG sl x = some a) (ha : a = .ns \/ a = .em) (hy : bG sl y = some (.sl idy 0 1 0 z)) (hoy : ob.get idy = some (.cells roY csY curY)) (hcy : csY = r.map fun d => Cell.o d 0) (hr : r.length = z)
 (h : FJ lg idy fun lg => IM lg nx fun lg => T.setK nx (.cells false (r.map fun d => Cell.o d 0) 1) ob fun ob => Pos.succK nx fun nx' => dX sl ob nx' lg d K (.sl nx 0 1 0 z)) : WSt (.app d z x y) ⟨sl, ob, nx, lg⟩ K := by
 obtain ⟨l1, e1, h⟩ := jP h
 obtain ⟨l2, e2, h⟩ := lN h
 rw [T.setK_eq, Pos.succK_eq] at h
 obtain ⟨h2, h3⟩ := aT h
 refine ⟨_, ?_, h3⟩
 show fA d z x y sl ob nx lg = _
 unfold fA
 rw [hx, hy]
 subst hcy hr
 have hb : Nat.beq r.length r.length = true := Nat.beq_refl _
 have hrd : eT (β := X) 0 (Nat.mul 1 r.length) (eI 0 (r.map fun d => Cell.o d 0)) = fun k => k r := by
  rw [bT, List.drop_zero, show Nat.mul 1 r.length = r.length from Nat.one_mul _]
  have key : ∀ (l : List D) (k : List D -> Option X), eT 0 l.length (l.map fun d => Cell.o d 0) k = k l := by
   intro l
   induction l with
   | nil => exact fun k => rfl
   | cons a l ih => exact fun k => ih fun ds => k (a :: ds)
  exact funext fun k => key r k
 simp only [sS, hb, cond_true, hoy, hrd, tK, e1]
 have hle : Nat.ble (Nat.succ 0) 2147483648 = true := rfl
 rcases ha with rfl | rfl <;> simp only [hle, cond_true, kE, fH, e2, T.setK_eq, Pos.succK_eq] <;> exact h2
theorem WSt.app_oneL {d id idy : Pos} {z st len len' cur curY : Nat} {roY : Bool} {x y : RX} {ds r : List D} {csY : List Cell} {ob2 : T C} (hx : bG sl x = some (.sl id 0 len st z)) (hy : bG sl y = some (.sl idy 0 1 0 z)) (hoy : ob.get idy = some (.cells roY csY curY)) (hcy : csY = r.map fun d => Cell.o d 0) (hr : r.length = z) (hox : ob.get id = some (.cells false (ds.map fun d => Cell.o d st) cur)) (hds : ds.length = len * z) (hcur : cur = st + 1) (hlen : len' = len + 1) (hmax : len < 2147483648)
 (hob2 : T.set id (.cells false ((ds.map fun d => Cell.o d st) ++ r.map fun d => Cell.o d cur) (cur + 1)) ob = ob2) (h : FJ lg idy fun lg => IM lg id fun lg => dX sl ob2 nx lg d K (.sl id 0 len' cur z)) : WSt (.app d z x y) ⟨sl, ob, nx, lg⟩ K := by
 obtain ⟨l1, e1, h⟩ := jP h
 obtain ⟨l2, e2, h⟩ := lN h
 obtain ⟨h2, h3⟩ := aT h
 refine ⟨_, ?_, h3⟩
 show fA d z x y sl ob nx lg = _
 unfold fA
 rw [hx, hy]
 subst hcy hr hlen hob2
 have hb : Nat.beq r.length r.length = true := Nat.beq_refl _
 have hrd : eT (β := X) 0 (Nat.mul 1 r.length) (eI 0 (r.map fun d => Cell.o d 0)) = fun k => k r := by
  rw [bT, List.drop_zero, show Nat.mul 1 r.length = r.length from Nat.one_mul _]
  have key : ∀ (l : List D) (k : List D -> Option X), eT 0 l.length (l.map fun d => Cell.o d 0) k = k l := by
   intro l
   induction l with
   | nil => exact fun k => rfl
   | cons a l ih => exact fun k => ih fun ds => k (a :: ds)
  exact funext fun k => key r k
 simp only [sS, hb, cond_true, hoy, hrd, tK, e1]
 simp only [hox]
 have hidx : Nat.add 0 (Nat.mul len r.length) = ds.length := by rw [hds]; exact Nat.zero_add _
 rw [hidx, rW ds cur _ hcur]
 simp only [List.append_nil, bH, iE, e2, T.setK_eq]
 have e3 : Nat.add len (Nat.succ 0) = len + 1 := rfl
 rw [e3, Nat.ble_eq_true_of_le (show len + 1 <= 2147483648 from hmax)]
 exact h2
end
def bS {α : Type} (f : α -> List D) (l : List α) (n : Nat) : List D := (aD f (l.take n)).flatten
theorem oD {α : Type} {f : α -> List D} (hf : ∀ a, (f a).length = 3) (l : List α) {n : Nat} (h : n <= l.length) : (bS f l n).length = n * 3 := by
 induction n with
 | zero => simp [bS, aD]
 | succ n ih =>
   have := ih (by omega)
   unfold bS at *
   rw [List.take_succ_eq_append_getElem (by omega), aD, List.map_append, List.flatten_append, List.length_append]
   simp only [aD] at this
   rw [this]
   simp [hf]
   omega
theorem jL {α : Type} [Inhabited α] (f : α -> List D) (l : List α) {n : Nat} (h : n < l.length) : bS f l (n + 1) = bS f l n ++ f (l.getD n default) := by
 unfold bS
 rw [List.take_succ_eq_append_getElem h, aD, List.map_append, List.flatten_append]
 simp [aD, List.getD, h]
theorem wZ {α : Type} {f : α -> List D} (hf : ∀ a, aO (f a)) (l : List α) (n : Nat) : aO (bS f l n) := by
 unfold bS
 exact aG.2 fun d hd => by
  obtain ⟨r, hr, hd⟩ := List.mem_flatten.1 hd
  exact aG.1 (pG.1 (nL hf _) r hr) d hd
theorem Nb (l : Ln) : aO (aM l) := by simp [aM, aO, Pu]
theorem MX (c : Ct) : aO (dZ c) := by simp [dZ, aO, Pu]
theorem RN (a b : Int) : PureF Try.prog p41.ix [.ag [.i .i64 a, .i .i64 b]] (.ag [.i .i64 a, .i .i64 b]) := by
 refine PureF.run UT (by simp) (by simp [aO, eB, Pu, aJ, aB, aE]) ?_; conv => whnf
 refine Qg ?_
 exact ⟨.inr rfl, _, rfl, .ag (.cons (.pu trivial) (.cons (.pu trivial) .nil))⟩
theorem DC (Tr : List Ln) (hT : Tr.length <= 65536) : PureF Try.prog p25.ix [.lst 3 (aD aM Tr)] (.lst 3 (aD aM Tr)) := by
 have e1 := aC aM Tr
 refine PureF.run Ut (by simp) (by simp [aO, eB, Pu, aJ, aB, aE]) ?_; conv => whnf
 refine Qg ?_
 refine Rn.loop (fun j : Nat => match j with
  | 0 => ⟨(.n (.n (.n .e (some (.ns)) .e) none .e) (some (.lst 3 (aD aM Tr))) (.n (.n .e (some (.i .i64 0)) .e) none .e)), .e, .h, none⟩
  | j + 1 => ⟨(.n (.n (.n .e (some (.sl (.o .h) 0 (j + 1) j 3)) .e) none .e) (some (.lst 3 (aD aM Tr))) (.n (.n .e (some (.i .i64 ((j + 1 : Nat) : Int))) .e) none .e)), (.n (.n .e (some (.cells false ((bS aM Tr (j + 1)).map fun d => Cell.o d j) (j + 1))) .e) none .e), .i .h, none⟩) (fun j => j <= Tr.length) (fun j => Tr.length - j) 0 ?_ ?_ ?_
 ·(first | (refine X.le.mk ?_ ?_ (Nat.le_refl _) rfl rfl) | skip) <;> (repeat' first | exact T.le_e _ | refine T.le_some ?_ ?_ ?_ | refine T.le_none ?_ ?_ | rfl)
 ·exact Nat.zero_le _
 rintro (_ | j) hj
 ·conv => whnf
  refine Qg ?_
  refine WB.dec (fun h => ?_) (fun h => ?_) <;> conv => whnf
  ·have hlt : 0 < Tr.length := by omega
   refine Qg ?_
   refine WSt.app_firstL (r := aM (Tr.getD 0 default)) rfl (.inl rfl) rfl rfl rfl rfl ?_; conv => whnf
   refine Qg ?_
   refine Again.to 1 (by show Tr.length - 1 < Tr.length - 0; omega) (by show 1 <= Tr.length; omega) (Nat.le_of_ble_eq_true rfl) ?_
   have ht : bS aM Tr 1 = aM (Tr.getD 0 default) := by rw [jL aM Tr hlt]; simp [bS, aD]
   refine Shr.of ?_ ?_ rfl rfl
   ·exact Rw
   ·(repeat' first | exact Rel.e | refine Rel.some ?_ ?_ ?_ | refine Rel.none ?_ ?_ | refine Rel.ee ?_ ?_)
    all_goals first
     | (refine RO'.of (show Pos.nat _ < Pos.nat _ by simp [Pos.nat]) ?_
        show ShC _ _ _ (.cells false ((bS aM Tr 1).map fun d => Cell.o d 0) 1)
        rw [ht]
        exact ShC.same (ShC.cn (.pu trivial) (ShC.cn (.pu trivial) (ShC.cn (.pu trivial) ShC.nl))))
  ·refine Qg ?_
   refine Fin.t (.inr rfl) rfl ?_
   rw [show Tr = [] from List.length_eq_zero_iff.1 (by omega)]
   exact Fz.ns
 ·have hj : j + 1 <= Tr.length := hj
  conv => whnf
  refine Qg ?_
  refine WB.dec (fun h => ?_) (fun h => ?_) <;> conv => whnf
  ·have hlt : j + 1 < Tr.length := by omega
   refine Qg ?_
   refine WSt.app_oneL (ds := bS aM Tr (j + 1)) (r := aM (Tr.getD (j + 1) default)) rfl rfl rfl rfl rfl rfl (oD (fun _ => rfl) Tr (by omega)) rfl rfl (by omega) rfl ?_; conv => whnf
   refine Qg ?_
   refine Again.to (j + 2) (by show Tr.length - (j + 2) < Tr.length - (j + 1); omega) (by show j + 2 <= Tr.length; omega) (Nat.le_of_ble_eq_true rfl) ?_
   refine Shr.of ?_ ?_ rfl rfl
   ·exact Rw
   ·(repeat' first | exact Rel.e | refine Rel.some ?_ ?_ ?_ | refine Rel.none ?_ ?_ | refine Rel.ee ?_ ?_)
    all_goals first
     | (refine RO'.of (show Pos.nat _ < Pos.nat _ by simp [Pos.nat]) ?_
        show ShC _ _ (.cells false (((bS aM Tr (j + 1)).map fun d => Cell.o d j) ++ (aM (Tr.getD (j + 1) default)).map fun d => Cell.o d (j + 1)) (j + 1 + 1)) (.cells false ((bS aM Tr (j + 1 + 1)).map fun d => Cell.o d (j + 1)) (j + 1 + 1))
        rw [jL aM Tr hlt]
        exact ShC.grown (by omega) (aG.2 fun d hd => (List.mem_append.1 hd).elim (fun hd => aG.1 (wZ Nb Tr _) d hd) (fun hd => aG.1 (Nb _) d hd)))
  ·refine Qg ?_
   refine Fin.t (.inr rfl) rfl ?_
   exact Frz.whole (cs := (bS aM Tr (j + 1)).map fun d => Cell.o d j) (cur := j + 1) rfl (by rw [aC]; omega) (dN _) (by unfold bS; rw [List.take_of_length_le (by omega)]) (aB _)
def PO (n coin box : Int) (ls : List Ln) (d : D) : C := .cells false ([.i .i64 n, .i .i64 coin, .i .i64 box, .lst 3 (aD aM ls), d].map fun d => Cell.o d 0) 1
theorem zO (n coin box : Int) (ls : List Ln) {d : D} {B : Pos -> Prop} {ob : T C} (h : Fz B ob d d) : ShC B ob (PO n coin box ls d) (PO n coin box ls d) := ShC.same (ShC.cn (.pu trivial) (ShC.cn (.pu trivial) (ShC.cn (.pu trivial) (ShC.cn (.pu (aB _)) (ShC.cn h ShC.nl)))))
def TF : C := .cells false ([.i .i64 0, .i .i64 0, .i .i64 0, .ns, .ns].map fun d => Cell.o d 0) 1
theorem It {B : Pos -> Prop} {ob : T C} : ShC B ob TF TF := ShC.same (ShC.cn (.pu trivial) (ShC.cn (.pu trivial) (ShC.cn (.pu trivial) (ShC.cn (.pu trivial) (ShC.cn (.pu trivial) ShC.nl)))))
theorem PJ (n coin box : Int) (ls : List Ln) (cs : List Ct) (hl : ls.length <= 65536) (hc : cs.length <= 65536) :
 PureF Try.prog p24.ix [.ag [.i .i64 n, .i .i64 coin, .i .i64 box, .lst 3 (aD aM ls), .lst 3 (aD dZ cs)]] (.ag [.i .i64 n, .i .i64 coin, .i .i64 box, .lst 3 (aD aM ls), .lst 3 (aD dZ cs)]) := by
 have e2 := aC dZ cs
 refine PureF.run UD (by simp) (by simp [aO, eB, Pu, aJ, aB, aE]) ?_; conv => whnf
 repeat' ((first | refine Qz ?_ | refine Qf (DC ls hl) ?_) <;> conv => whnf)
 refine Rn.loop (fun j : Nat => match j with
  | 0 => ⟨(.n (.n (.n .e (some (.pt (.i .h) 0 0)) .e) (some (.pt .h 0 0)) .e) none (.n (.n .e (some (.i .i64 0)) .e) (some (.pt (.o .h) 0 0)) .e)), (.n (.n .e (some (TF)) .e) (some (PO n coin box ls (.lst 3 (aD dZ cs)))) (.n .e (some (PO n coin box ls .ns)) .e)), .o (.o .h), none⟩
  | j + 1 => ⟨(.n (.n (.n .e (some (.pt (.i .h) 0 0)) .e) (some (.pt .h 0 0)) .e) none (.n (.n .e (some (.i .i64 ((j + 1 : Nat) : Int))) .e) (some (.pt (.o .h) 0 0)) .e)), (.n (.n .e (some (TF)) .e) (some (PO n coin box ls (.lst 3 (aD dZ cs)))) (.n (.n .e (some (.cells false ((bS dZ cs (j + 1)).map fun d => Cell.o d j) (j + 1))) .e) (some (PO n coin box ls (.sl (.i (.o .h)) 0 (j + 1) j 3))) .e)), .o (.i .h), none⟩) (fun j => j <= cs.length) (fun j => cs.length - j) 0 ?_ ?_ ?_
 ·refine X.le.mk ?_ ?_ (Nat.le_refl _) rfl rfl <;> exact gC
 ·exact Nat.zero_le _
 rintro (_ | j) hj
 ·conv => whnf
  refine Qg ?_
  refine WB.dec (fun h => ?_) (fun h => ?_) <;> conv => whnf
  ·have hlt : 0 < cs.length := by omega
   repeat' ((first | refine Qz ?_ | refine Qf (RN _ _) ?_) <;> conv => whnf)
   refine WSt.app_firstL (r := dZ (cs.getD 0 default)) rfl (.inl rfl) rfl rfl rfl rfl ?_; conv => whnf
   refine Qg ?_
   refine Again.to 1 (by show cs.length - 1 < cs.length - 0; omega) (by show 1 <= cs.length; omega) (Nat.le_of_ble_eq_true rfl) ?_
   have ht : bS dZ cs 1 = dZ (cs.getD 0 default) := by rw [jL dZ cs hlt]; simp [bS, aD]
   refine Shr.of ?_ ?_ rfl rfl
   ·exact Rw
   ·(repeat' first | exact Rel.e | refine Rel.some ?_ ?_ ?_ | refine Rel.none ?_ ?_ | refine Rel.ee ?_ ?_)
    all_goals first
     | exact Ro (zO n coin box ls (.pu (aE _)))
     | exact Ro (zO n coin box ls (.ksl (Ql rfl)))
     | exact Ro It
     | (refine RO'.of (show Pos.nat _ < Pos.nat _ by simp [Pos.nat]) ?_
        show ShC _ _ _ (.cells false ((bS dZ cs 1).map fun d => Cell.o d 0) 1)
        rw [ht]
        exact ShC.same (ShC.cn (.pu trivial) (ShC.cn (.pu trivial) (ShC.cn (.pu trivial) ShC.nl))))
  ·refine Qg ?_
   refine ⟨.inr rfl, _, rfl, ?_⟩
   rw [show cs = [] from List.length_eq_zero_iff.1 (by omega)]
   exact .ag (.cons (.pu trivial) (.cons (.pu trivial) (.cons (.pu trivial) (.cons (.pu (aB _)) (.cons .ns .nil)))))
 ·have hj : j + 1 <= cs.length := hj
  conv => whnf
  refine Qg ?_
  refine WB.dec (fun h => ?_) (fun h => ?_) <;> conv => whnf
  ·have hlt : j + 1 < cs.length := by omega
   repeat' ((first | refine Qz ?_ | refine Qf (RN _ _) ?_) <;> conv => whnf)
   refine WSt.app_oneL (ds := bS dZ cs (j + 1)) (r := dZ (cs.getD (j + 1) default)) rfl rfl rfl rfl rfl rfl (oD (fun _ => rfl) cs (by omega)) rfl rfl (by omega) rfl ?_; conv => whnf
   refine Qg ?_
   refine Again.to (j + 2) (by show cs.length - (j + 2) < cs.length - (j + 1); omega) (by show j + 2 <= cs.length; omega) (Nat.le_of_ble_eq_true rfl) ?_
   refine Shr.of ?_ ?_ rfl rfl
   ·exact Rw
   ·(repeat' first | exact Rel.e | refine Rel.some ?_ ?_ ?_ | refine Rel.none ?_ ?_ | refine Rel.ee ?_ ?_)
    all_goals first
     | exact Ro (zO n coin box ls (.pu (aE _)))
     | exact Ro (zO n coin box ls (.ksl (Ql rfl)))
     | exact Ro It
     | (refine RO'.of (show Pos.nat _ < Pos.nat _ by simp [Pos.nat]) ?_
        show ShC _ _ (.cells false (((bS dZ cs (j + 1)).map fun d => Cell.o d j) ++ (dZ (cs.getD (j + 1) default)).map fun d => Cell.o d (j + 1)) (j + 1 + 1)) (.cells false ((bS dZ cs (j + 1 + 1)).map fun d => Cell.o d (j + 1)) (j + 1 + 1))
        rw [jL dZ cs hlt]
        exact ShC.grown (by omega) (aG.2 fun d hd => (List.mem_append.1 hd).elim (fun hd => aG.1 (wZ MX cs _) d hd) (fun hd => aG.1 (MX _) d hd)))
  ·refine Qg ?_
   refine ⟨.inr rfl, _, rfl, ?_⟩
   refine .ag (.cons (.pu trivial) (.cons (.pu trivial) (.cons (.pu trivial) (.cons (.pu (aB _)) (.cons ?_ .nil)))))
   exact Frz.whole (cs := (bS dZ cs (j + 1)).map fun d => Cell.o d j) (cur := j + 1) rfl (by rw [aC]; omega) (Gd _) (by unfold bS; rw [List.take_of_length_le (by omega)]) (aE _)
theorem Jr {n : Int} {l x : Ln} (hn : 1 <= n /\ n <= 4) (h : cB n l = true) : Am n l x = Ni n l x := by
 unfold cB at h
 simp only [Bool.and_eq_true, aP] at h
 obtain ⟨⟨h1, h2⟩, ⟨h3, h4⟩, ⟨h5, h6⟩⟩ := h
 have hK : (eM l <= x.k /\ x.k <= nV l) ↔ ((1 <= x.k /\ x.k <= 2) /\ (l.k = 0 \/ l.k = x.k)) := by
  unfold eM nV
  split <;> omega
 have hC : (gN l <= x.c /\ x.c <= nH n l) ↔ ((0 <= x.c /\ x.c <= n - 1) /\ (l.c < 0 \/ l.c = x.c)) := by
  unfold gN nH
  split <;> omega
 have hT : (kT l <= x.t /\ x.t <= oM n l) ↔ ((0 <= x.t /\ x.t <= n - 1) /\ (l.t < 0 \/ l.t = x.t)) := by
  unfold kT oM
  split <;> omega
 unfold Am Ni oI
 rw [Bool.eq_iff_iff]
 simp only [Bool.and_eq_true, Bool.or_eq_true, decide_eq_true_iff, aP]
 constructor
 ·rintro ⟨a, b, c, d, e, f⟩
  have k := hK.1 ⟨a, b⟩
  have k2 := hC.1 ⟨c, d⟩
  have k3 := hT.1 ⟨e, f⟩
  exact ⟨k.1, k2.1, k3.1, k.2, k2.2, k3.2⟩
 ·rintro ⟨a, b, c, d, e, f⟩
  have k := hK.2 ⟨a, d⟩
  have k2 := hC.2 ⟨b, e⟩
  have k3 := hT.2 ⟨c, f⟩
  exact ⟨k.1, k.2, k2.1, k2.2, k3.1, k3.2⟩
theorem DL {α : Type} (p q : α -> Bool) : ∀ l : List α, (l.all fun x => p x && q x) = (l.all p && l.all q)
 | [] => rfl
 | x :: l => by
   simp only [List.all_cons, DL p q l]
   cases p x <;> cases q x <;> cases l.all p <;> cases l.all q <;> rfl
theorem AY {α : Type} {p q : α -> Bool} : ∀ {l : List α}, (∀ x ∈ l, p x = q x) -> l.all p = l.all q
 | [], _ => rfl
 | x :: l, h => by
   simp only [List.all_cons]
   rw [h x (by simp), AY fun y hy => h y (by simp [hy])]
theorem tY {n : Int} {ls T : List Ln} (hn : 1 <= n /\ n <= 4) (h : ls.all (cB n) = true) : cI n ls T = (jE n ls T && eG T) := by
 unfold cI jE eG
 by_cases hl : T.length = ls.length
 ·rw [decide_eq_true hl, Bool.true_and, Bool.true_and, <- DL]
  refine AY fun q hq => ?_
  have hq := List.mem_range.1 hq
  rw [Jr hn (List.all_eq_true.1 h _ (bV (d := default) (by omega)))]
 ·rw [decide_eq_false hl]; rfl
theorem oP {box coin : Int} {T : List Ln} {j q : Nat} (h : q <= j) : vP box coin T j q = fC box coin T q := by
 unfold vP
 rw [Nat.ble_eq_true_of_le h]; rfl
theorem ED {box coin : Int} {cs : List Ct} {T : List Ln} (hok : ∀ c ∈ cs, 0 <= c.a /\ c.a <= T.length) : (Rt (vP box coin T T.length) (T.length + 1)).all (dU cs) = yG box coin cs T := by
 rw [Bool.eq_iff_iff, List.all_eq_true]
 unfold yG
 rw [List.all_eq_true]
 constructor
 ·intro h c hc
  obtain ⟨a1, a2⟩ := hok c hc
  have hm := h (vP box coin T T.length c.a.toNat) (by unfold Rt; exact List.mem_map.2 ⟨c.a.toNat, List.mem_range.2 (by omega), rfl⟩)
  unfold dU at hm
  have := List.all_eq_true.1 hm c hc
  rw [oP (by omega)] at this
  have hd : c.a = (fC box coin T c.a.toNat).n := by show c.a = ((c.a.toNat : Nat) : Int); omega
  rw [decide_eq_true hd] at this
  exact this
 ·intro h m hm
  unfold Rt at hm
  obtain ⟨q, hq, rfl⟩ := List.mem_map.1 hm
  have hq := List.mem_range.1 hq
  rw [oP (by omega)]
  unfold dU
  rw [List.all_eq_true]
  intro c hc
  have := h c hc
  by_cases e : c.a = (fC box coin T q).n
  ·have e' : c.a = (q : Int) := e
   rw [show c.a.toNat = q by omega] at this
   rw [decide_eq_true e]
   exact this
  ·rw [decide_eq_false e]; rfl
end Go.Ev
end
