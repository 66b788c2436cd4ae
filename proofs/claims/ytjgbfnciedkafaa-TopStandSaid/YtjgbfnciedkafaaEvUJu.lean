import Derived.Test.YtjgbfnciedkafaaEvUJi
set_option linter.all false
set_option maxHeartbeats 8000000
noncomputable section
namespace Go.Ev
open Go.Proofs
set_option maxRecDepth 100000
def PA (n : Int) (l : Ln) (i : Nat) : List Ln := ((mI (eM l) (nV l)).take i).flatMap fun a => sW n l a
def PB (n : Int) (l : Ln) (a : Int) (j : Nat) : List Ln := ((mI (gN l) (nH n l)).take j).flatMap fun b => sP n l a b
def PC (n : Int) (l : Ln) (a b : Int) (q : Nat) : List Ln := ((mI (kT l) (oM n l)).take q).map fun c => ⟨a, b, c⟩
theorem yR {n : Int} {l : Ln} {i : Nat} (h : i < (nV l + 1 - eM l).toNat) : PA n l (i + 1) = PA n l i ++ sW n l (eM l + (i : Int)) := by
 unfold PA
 rw [aL (d := 0) (by rw [dA]; exact h), List.flatMap_append, Af h]
 simp
theorem yT {n : Int} {l : Ln} {a : Int} {j : Nat} (h : j < (nH n l + 1 - gN l).toNat) : PB n l a (j + 1) = PB n l a j ++ sP n l a (gN l + (j : Int)) := by
 unfold PB
 rw [aL (d := 0) (by rw [dA]; exact h), List.flatMap_append, Af h]
 simp
theorem KW {n : Int} {l : Ln} {a b : Int} {q : Nat} (h : q < (oM n l + 1 - kT l).toNat) : PC n l a b (q + 1) = PC n l a b q ++ [⟨a, b, kT l + (q : Int)⟩] := by
 unfold PC
 rw [aL (d := 0) (by rw [dA]; exact h), List.map_append, Af h]
 simp
theorem Nr {n : Int} {l : Ln} {i : Nat} (h : (nV l + 1 - eM l).toNat <= i) : PA n l i = nU n l := by
 unfold PA nU
 rw [List.take_of_length_le (by rw [dA]; exact h)]
theorem Gr {n : Int} {l : Ln} {a : Int} {j : Nat} (h : (nH n l + 1 - gN l).toNat <= j) : PB n l a j = sW n l a := by
 unfold PB sW
 rw [List.take_of_length_le (by rw [dA]; exact h)]
theorem Il {n : Int} {l : Ln} {a b : Int} {q : Nat} (h : (oM n l + 1 - kT l).toNat <= q) : PC n l a b q = sP n l a b := by
 unfold PC sP
 rw [List.take_of_length_le (by rw [dA]; exact h)]
theorem Nv (n : Int) (l : Ln) (i : Nat) : PA n l i <+: nU n l := by
 refine ⟨((mI (eM l) (nV l)).drop i).flatMap fun a => sW n l a, ?_⟩
 unfold PA nU
 rw [<- List.flatMap_append, List.take_append_drop]
theorem NN (n : Int) (l : Ln) (a : Int) (j : Nat) : PB n l a j <+: sW n l a := by
 refine ⟨((mI (gN l) (nH n l)).drop j).flatMap fun b => sP n l a b, ?_⟩
 unfold PB sW
 rw [<- List.flatMap_append, List.take_append_drop]
theorem OY (n : Int) (l : Ln) (a b : Int) (q : Nat) : PC n l a b q <+: sP n l a b := by
 refine ⟨((mI (kT l) (oM n l)).drop q).map fun c => ⟨a, b, c⟩, ?_⟩
 unfold PC sP
 rw [<- List.map_append, List.take_append_drop]
theorem Df {n : Int} {l : Ln} {i j q : Nat} (hi : i < (nV l + 1 - eM l).toNat) (hj : j < (nH n l + 1 - gN l).toNat) : PA n l i ++ (PB n l (eM l + (i : Int)) j ++ PC n l (eM l + (i : Int)) (gN l + (j : Int)) q) <+: nU n l := by
 have h1 : PB n l (eM l + (i : Int)) j ++ PC n l (eM l + (i : Int)) (gN l + (j : Int)) q <+: sW n l (eM l + (i : Int)) := by
  refine List.IsPrefix.trans ?_ (NN n l _ (j + 1))
  rw [yT hj]
  exact (List.prefix_append_right_inj _).2 (OY _ _ _ _ _)
 refine List.IsPrefix.trans ?_ (Nv n l (i + 1))
 rw [yR hi]
 exact (List.prefix_append_right_inj _).2 h1
structure Lns (σ : Type) where
 o : Nat -> σ -> Option C
def cC (n : Int) (l : Ln) : C := .cells false [.o (.i .i64 (gN l)) 0, .o (.i .i64 (nH n l)) 0] 1
def Lns.ob {σ : Type} (S : Lns σ) (n : Int) (l : Ln) (s : σ) : T C := bP (S.o 1 s) (S.o 2 s) (S.o 3 s) (S.o 4 s) (S.o 5 s) (S.o 6 s) (S.o 7 s) (S.o 8 s) (S.o 9 s) (S.o 10 s) (S.o 11 s) (S.o 12 s) (S.o 13 s) (S.o 14 s) (S.o 15 s) (S.o 16 s) (S.o 17 s) (some (.cells false [.o (.i .i64 (eM l)) 0, .o (.i .i64 (nV l)) 0] 1)) (some (.cells false [.o (.i .i64 (gN l)) 0, .o (.i .i64 (nH n l)) 0] 1)) (some (.cells false [.o (.i .i64 (kT l)) 0, .o (.i .i64 (oM n l)) 0] 1))
def Lns.base {σ : Type} (S : Lns σ) (s : σ) : T C := bP (S.o 1 s) (S.o 2 s) (S.o 3 s) (S.o 4 s) (S.o 5 s) (S.o 6 s) (S.o 7 s) (S.o 8 s) (S.o 9 s) (S.o 10 s) (S.o 11 s) (S.o 12 s) (S.o 13 s) (S.o 14 s) (S.o 15 s) (S.o 16 s) (S.o 17 s) none none none
theorem Lns.le {σ : Type} (S : Lns σ) (n : Int) (l : Ln) (s : σ) : T.le (S.base s) (S.ob n l s) := by
 unfold Lns.base Lns.ob bP
 repeat' first | exact T.le_refl _ | exact T.le_e _ | refine T.le_same ?_ ?_ | refine T.le_none ?_ ?_
structure LnsOk {σ : Type} (S : Lns σ) (y : Pos) (I : List Ln -> σ -> Prop) (R : σ -> Ln -> σ -> Bool -> Prop) (n : Int) (l : Ln) : Prop where
 yl : y.nat < 18
 kp : ∀ s, KpO 18 (S.base s)
 inv : ∀ h s a s', h ++ [a] <+: nU n l -> I h s -> R s a s' true -> I (h ++ [a]) s'
 rnd : ∀ h s, I h s -> ∀ a, h ++ [a] <+: nU n l -> ∀ (sl : T D) (d : Option Pos) (K : X -> Prop), (∀ s' g, R s a s' g -> kW sl (S.ob n l s') nb5 none d K (.b g)) -> WRnd Try.prog y [.ag [.i .i64 a.k, .i .i64 a.c, .i .i64 a.t]] d ⟨sl, S.ob n l s, nb5, none⟩ K
def iS (y : Pos) (row : List D) (l : Ln) (a : Int) : T D := (.n (.n (.n (.n .e (some (.i .i64 a)) .e) none .e) (some (.pl row 0)) (.n .e (some (.pt JO 0 0)) .e)) (some (.yl y)) (.n (.n .e (some (.pt ET 0 0)) .e) (some (.pl (gB l) 0)) (.n .e (some (.pt Lh 0 0)) .e)))
def NG (y : Pos) (row : List D) (l : Ln) (a b : Int) : T D := (.n (.n (.n (.n .e (some (.i .i64 a)) .e) none .e) (some (.pl row 0)) (.n .e (some (.pt JO 0 0)) .e)) (some (.yl y)) (.n (.n (.n .e (some (.i .i64 b)) .e) (some (.pt ET 0 0)) .e) (some (.pl (gB l) 0)) (.n .e (some (.pt Lh 0 0)) .e)))
def OQ (y : Pos) (row : List D) (l : Ln) (a b c : Int) : T D := (.n (.n (.n (.n .e (some (.i .i64 a)) .e) none .e) (some (.pl row 0)) (.n (.n .e (some (.i .i64 c)) .e) (some (.pt JO 0 0)) .e)) (some (.yl y)) (.n (.n (.n .e (some (.i .i64 b)) .e) (some (.pt ET 0 0)) .e) (some (.pl (gB l) 0)) (.n .e (some (.pt Lh 0 0)) .e)))
theorem Tv {y : Pos} (hy : y.nat < 18) {row : List D} (h : aO row) (l : Ln) (a : Int) : ∀ s d, (iS y row l a).get s = some d -> Kp nb5.nat d := by
 show TAll (fun _ d => Kp nb5.nat d) (iS y row l a)
 unfold iS
 repeat' first | exact TAll.e | refine TAll.some ?_ ?_ ?_ | refine TAll.none ?_ ?_
 all_goals simp [Kp, KpL, Pu, aO, h, gB, ET, JO, Lh, nb5, Pos.nat]
 all_goals omega
theorem NS {y : Pos} (hy : y.nat < 18) {row : List D} (h : aO row) (l : Ln) (a b : Int) : ∀ s d, (NG y row l a b).get s = some d -> Kp nb5.nat d := by
 show TAll (fun _ d => Kp nb5.nat d) (NG y row l a b)
 unfold NG
 repeat' first | exact TAll.e | refine TAll.some ?_ ?_ ?_ | refine TAll.none ?_ ?_
 all_goals simp [Kp, KpL, Pu, aO, h, gB, ET, JO, Lh, nb5, Pos.nat]
 all_goals omega
theorem Pb {y : Pos} (hy : y.nat < 18) {row : List D} (h : aO row) (l : Ln) (a b c : Int) : ∀ s d, (OQ y row l a b c).get s = some d -> Kp nb5.nat d := by
 show TAll (fun _ d => Kp nb5.nat d) (OQ y row l a b c)
 unfold OQ
 repeat' first | exact TAll.e | refine TAll.some ?_ ?_ ?_ | refine TAll.none ?_ ?_
 all_goals simp [Kp, KpL, Pu, aO, h, gB, ET, JO, Lh, nb5, Pos.nat]
 all_goals omega
theorem wF {σ : Type} {S : Lns σ} {n : Int} {l : Ln} (h : ∀ s, KpO 18 (S.base s)) (s : σ) : KpO nb5.nat (S.ob n l s) := by
 intro id c hc
 by_cases e1 : id = ET
 ·subst e1
  have hc : some (.cells false [.o (.i .i64 (eM l)) 0, .o (.i .i64 (nV l)) 0] 1) = some c := hc
  cases hc
  exact ⟨by simp [ET, nb5, Pos.nat], fun c hc => by simp at hc; rcases hc with rfl | rfl <;> trivial⟩
 by_cases e2 : id = JO
 ·subst e2
  have hc : some (.cells false [.o (.i .i64 (gN l)) 0, .o (.i .i64 (nH n l)) 0] 1) = some c := hc
  cases hc
  exact ⟨by simp [JO, nb5, Pos.nat], fun c hc => by simp at hc; rcases hc with rfl | rfl <;> trivial⟩
 by_cases e3 : id = Lh
 ·subst e3
  have hc : some (.cells false [.o (.i .i64 (kT l)) 0, .o (.i .i64 (oM n l)) 0] 1) = some c := hc
  cases hc
  exact ⟨by simp [Lh, nb5, Pos.nat], fun c hc => by simp at hc; rcases hc with rfl | rfl <;> trivial⟩
 have hb : (S.base s).get id = some c := by
  rw [<- hc]
  exact (Ow e1 e2 e3).symm
 obtain ⟨h1, h2⟩ := h s id c hb
 exact ⟨Nat.lt_trans h1 (by simp [nb5, Pos.nat]), h2.up (by simp [nb5, Pos.nat])⟩
theorem Sv {σ : Type} (S : Lns σ) (y : Pos) (I : List Ln -> σ -> Prop) (R : σ -> Ln -> σ -> Bool -> Prop) (n coin box : Int) (ls : List Ln) (cs : List Ct) (hn : 1 <= n /\ n <= 4) (l : Ln) (hk : 0 <= l.k /\ l.k <= 2) (hc : -1 <= l.c /\ l.c <= 3) (ht : -1 <= l.t /\ l.t <= 3) (H : LnsOk S y I R n l) (s0 : σ) (i0 : I [] s0) :
 ∃ v ob', (∃ s' g, Fld R (nU n l) s0 s' g /\ v = .tp [] /\ ob' = S.base s') /\ CallOk Try.prog p135.ix [.yl y, .pl (jI n coin box ls cs) 0, .pl (gB l) 0] (S.base s0) ET none v ob' ET none := by
 have hrow := jV n coin box ls cs
 have hy := H.yl
 have b1 : 1 <= eM l /\ eM l <= nV l /\ nV l <= 2 := by
  unfold eM nV
  split <;> omega
 have b2 : 0 <= gN l /\ gN l <= nH n l /\ nH n l <= 3 := by
  unfold gN nH
  split <;> omega
 have b3 : 0 <= kT l /\ kT l <= oM n l /\ oM n l <= 3 := by
  unfold kT oM
  split <;> omega
 refine CallOk.runE MC (by simp) (Nat.le_refl _) ?_
 unfold Lns.base bP
 conv => whnf
 repeat' ((first | refine Qz ?_ | refine Qf (pM n coin box ls cs hn l) ?_) <;> conv => whnf)
 refine Rn.loop (fun t : Nat × σ => ⟨iS y (jI n coin box ls cs) l (eM l + (t.1 : Int)), S.ob n l t.2, nb5, none⟩) (fun t => t.1 <= (nV l + 1 - eM l).toNat /\ I (PA n l t.1) t.2 /\ Fld R (PA n l t.1) s0 t.2 true) (fun t => (nV l + 1 - eM l).toNat - t.1) (0, s0) ?_ ?_ ?_
 ·refine X.le.mk ?_ ?_ (Nat.le_refl _) rfl rfl
  ·unfold iS
   simp only [Int.natCast_zero, Int.add_zero]
   exact gC
  ·unfold Lns.ob bP
   repeat' first | exact T.le_refl _ | exact T.le_e _ | refine T.le_some ?_ rfl ?_ | refine T.le_same ?_ ?_ | refine T.le_none ?_ ?_
 ·exact ⟨by omega, i0, .nil⟩
 rintro ⟨i, s1⟩ ⟨i1, i2, i3⟩
 have i1 : i <= (nV l + 1 - eM l).toNat := i1
 have i2 : I (PA n l i) s1 := i2
 have i3 : Fld R (PA n l i) s0 s1 true := i3
 conv => whnf
 refine Qg ?_
 refine WB.dec (fun h => ?_) (fun h => ?_) <;> conv => whnf
 ·have hi : i < (nV l + 1 - eM l).toNat := by omega
  refine Qg ?_
  refine Rn.loop (fun t : Nat × σ => ⟨NG y (jI n coin box ls cs) l (eM l + (i : Int)) (gN l + (t.1 : Int)), S.ob n l t.2, nb5, none⟩) (fun t => t.1 <= (nH n l + 1 - gN l).toNat /\ I (PA n l i ++ PB n l (eM l + (i : Int)) t.1) t.2 /\ Fld R (PA n l i ++ PB n l (eM l + (i : Int)) t.1) s0 t.2 true) (fun t => (nH n l + 1 - gN l).toNat - t.1) (0, s1) ?_ ?_ ?_
  ·refine X.le.mk ?_ (T.le_refl _) (Nat.le_refl _) rfl rfl
   unfold NG
   simp only [Int.natCast_zero, Int.add_zero]
   exact gC
  ·exact ⟨by omega, by simpa [PB] using i2, by simpa [PB] using i3⟩
  rintro ⟨j, s2⟩ ⟨j1, j2, j3⟩
  have j1 : j <= (nH n l + 1 - gN l).toNat := j1
  have j2 : I (PA n l i ++ PB n l (eM l + (i : Int)) j) s2 := j2
  have j3 : Fld R (PA n l i ++ PB n l (eM l + (i : Int)) j) s0 s2 true := j3
  conv => whnf
  refine Qg ?_
  refine WB.dec (fun h => ?_) (fun h => ?_) <;> conv => whnf
  ·have hj : j < (nH n l + 1 - gN l).toNat := by omega
   refine Qg ?_
   refine Rn.loop (fun t : Nat × σ => ⟨OQ y (jI n coin box ls cs) l (eM l + (i : Int)) (gN l + (j : Int)) (kT l + (t.1 : Int)), S.ob n l t.2, nb5, none⟩) (fun t => t.1 <= (oM n l + 1 - kT l).toNat /\ I (PA n l i ++ (PB n l (eM l + (i : Int)) j ++ PC n l (eM l + (i : Int)) (gN l + (j : Int)) t.1)) t.2 /\ Fld R (PA n l i ++ (PB n l (eM l + (i : Int)) j ++ PC n l (eM l + (i : Int)) (gN l + (j : Int)) t.1)) s0 t.2 true) (fun t => (oM n l + 1 - kT l).toNat - t.1) (0, s2) ?_ ?_ ?_
   ·refine X.le.mk ?_ (T.le_refl _) (Nat.le_refl _) rfl rfl
    unfold OQ
    simp only [Int.natCast_zero, Int.add_zero]
    exact gC
   ·exact ⟨by omega, by simpa [PC] using j2, by simpa [PC] using j3⟩
   rintro ⟨q, s3⟩ ⟨q1, q2, q3⟩
   have q1 : q <= (oM n l + 1 - kT l).toNat := q1
   have q2 : I (PA n l i ++ (PB n l (eM l + (i : Int)) j ++ PC n l (eM l + (i : Int)) (gN l + (j : Int)) q)) s3 := q2
   have q3 : Fld R (PA n l i ++ (PB n l (eM l + (i : Int)) j ++ PC n l (eM l + (i : Int)) (gN l + (j : Int)) q)) s0 s3 true := q3
   conv => whnf
   refine Qg ?_
   refine WB.dec (fun h => ?_) (fun h => ?_) <;> conv => whnf
   ·have hq : q < (oM n l + 1 - kT l).toNat := by omega
    have hpc : PA n l i ++ (PB n l (eM l + (i : Int)) j ++ PC n l (eM l + (i : Int)) (gN l + (j : Int)) (q + 1)) = PA n l i ++ (PB n l (eM l + (i : Int)) j ++ PC n l (eM l + (i : Int)) (gN l + (j : Int)) q) ++ [⟨eM l + (i : Int), gN l + (j : Int), kT l + (q : Int)⟩] := by
     rw [KW hq, List.append_assoc, List.append_assoc]
    have hx := Df (q := q + 1) hi hj
    rw [hpc] at hx
    have hone : ∀ s' g, R s3 ⟨eM l + (i : Int), gN l + (j : Int), kT l + (q : Int)⟩ s' g -> Fld R (PA n l i ++ (PB n l (eM l + (i : Int)) j ++ PC n l (eM l + (i : Int)) (gN l + (j : Int)) (q + 1))) s0 s' g := fun s' g h => by
     rw [hpc]
     refine Fld.app q3 ?_
     cases g with
     | true => exact .go h .nil
     | false => exact .stop h
    refine Qg ?_
    refine H.rnd _ s3 q2 ⟨eM l + (i : Int), gN l + (j : Int), kT l + (q : Int)⟩ hx _ _ _ (fun s' g h => ?_)
    cases g with
    | false =>
      conv => whnf
      repeat' ((first | refine Qw ?_ | refine Qd (fun h => ?_) (fun h => ?_)) <;> conv => whnf)
      obtain ⟨rest, hrest⟩ := Df (q := q + 1) hi hj
      refine ⟨_, _, ⟨s', false, by rw [<- hrest]; exact (hone s' false h).cut rest, rfl, rfl⟩, ⟨.inr rfl, ⟨_, rfl, .pu trivial⟩, Shr.kp (S.le n l s') ((H.kp s').up (by simp [ET, Pos.nat]))⟩⟩
    | true =>
      conv => whnf
      repeat' ((first | refine Qw ?_ | refine Qd (fun h => ?_) (fun h => ?_)) <;> conv => whnf)
      refine Again.to (q + 1, s') (show _ - (q + 1) < _ - q by omega) ⟨show q + 1 <= _ by omega, by rw [hpc]; exact H.inv _ _ _ _ hx q2 h, hone s' true h⟩ (Nat.le_refl _) (Shr.kp2 ?_ (Pb hy hrow _ _ _ _) (T.le_refl _) (wF H.kp _))
      show T.le (OQ y (jI n coin box ls cs) l (eM l + (i : Int)) (gN l + (j : Int)) (kT l + ((q + 1 : Nat) : Int))) _
      rw [show kT l + ((q + 1 : Nat) : Int) = kT l + (q : Int) + 1 by omega]
      (unfold OQ; exact gC)
   ·refine Qg ?_
    refine Again.to (j + 1, s3) (show _ - (j + 1) < _ - j by omega) ⟨show j + 1 <= _ by omega, by show I (PA n l i ++ PB n l (eM l + (i : Int)) (j + 1)) s3; rw [yT hj, <- Il (q := q) (by omega)]; exact q2, ?_⟩ (Nat.le_refl _) (Shr.kp2 ?_ (NS hy hrow _ _ _) (T.le_refl _) (wF H.kp _))
    ·show Fld R (PA n l i ++ PB n l (eM l + (i : Int)) (j + 1)) s0 s3 true
     rw [yT hj, <- Il (q := q) (by omega)]
     exact q3
    ·show T.le (NG y (jI n coin box ls cs) l (eM l + (i : Int)) (gN l + ((j + 1 : Nat) : Int))) _
     rw [show gN l + ((j + 1 : Nat) : Int) = gN l + (j : Int) + 1 by omega]
     (unfold NG; exact gC)
  ·refine Qg ?_
   refine Again.to (i + 1, s2) (show _ - (i + 1) < _ - i by omega) ⟨show i + 1 <= _ by omega, by show I (PA n l (i + 1)) s2; rw [yR hi, <- Gr (j := j) (by omega)]; exact j2, ?_⟩ (Nat.le_refl _) (Shr.kp2 ?_ (Tv hy hrow _ _) (T.le_refl _) (wF H.kp _))
   ·show Fld R (PA n l (i + 1)) s0 s2 true
    rw [yR hi, <- Gr (j := j) (by omega)]
    exact j3
   ·show T.le (iS y (jI n coin box ls cs) l (eM l + ((i + 1 : Nat) : Int))) _
    rw [show eM l + ((i + 1 : Nat) : Int) = eM l + (i : Int) + 1 by omega]
    (unfold iS; exact gC)
 ·refine Qg ?_
  refine ⟨_, _, ⟨s1, true, by rw [<- Nr (i := i) (by omega)]; exact i3, rfl, rfl⟩, ⟨.inl rfl, ⟨_, rfl, .pu trivial⟩, Shr.kp (S.le n l s1) ((H.kp s1).up (by simp [ET, Pos.nat]))⟩⟩
structure Mns (σ : Type) where
 o : Nat -> σ -> Option C
def Mns.base {σ : Type} (S : Mns σ) (s : σ) : T C := bP (S.o 1 s) (S.o 2 s) (S.o 3 s) (S.o 4 s) (S.o 5 s) (S.o 6 s) (S.o 7 s) (S.o 8 s) (S.o 9 s) (S.o 10 s) (S.o 11 s) (S.o 12 s) (S.o 13 s) (S.o 14 s) (S.o 15 s) none none none none none
structure MnsOk {σ : Type} (S : Mns σ) (y : Pos) (I : List Mo -> σ -> Prop) (R : σ -> Mo -> σ -> Bool -> Prop) (W : List Mo) : Prop where
 yl : y.nat < 16
 kp : ∀ s, KpO 16 (S.base s)
 inv : ∀ h s a s', h ++ [a] <+: W -> I h s -> R s a s' true -> I (h ++ [a]) s'
 rnd : ∀ h s, I h s -> ∀ a, h ++ [a] <+: W -> ∃ g ob', (∃ s', R s a s' g /\ ob' = S.base s') /\ RndOk Try.prog y [.ag (dW a)] (S.base s) Ge none (.b g) ob' Ge none
def FO (row mrow lrow : List D) : T D := (.n (.n (.n (.n (.n .e (some (.fn p135 [] [.pl row 0, .pl lrow 0])) .e) none .e) (some (.pt Ge 0 0)) .e) (some (.pl row 0)) .e) none (.n .e (some (.pl mrow 0)) .e))
def Ja {σ : Type} (S : Mns σ) (y : Pos) (row mrow lrow : List D) : Lns (σ × Bool) where
 o := fun i t => match i with
   | 16 => some (.cells false [.o (.yl y) 0] 1)
   | 17 => some (.lp (FO row mrow lrow) [dG] 31 (uY (aY Try.f155) 0) (uC (aY Try.f155) 0) (bif t.2 then .done else .ready) (bif t.2 then some .ret else none))
   | i => S.o i t.1
def TE {σ : Type} (R : σ -> Mo -> σ -> Bool -> Prop) (coin : Int) (m : Mo) (t : σ × Bool) (a : Ln) (t' : σ × Bool) (g : Bool) : Prop :=
 ((kX coin m a).2 = false /\ t' = t /\ g = true) \/ ((kX coin m a).2 = true /\ R t.1 (kX coin m a).1 t'.1 g /\ t'.2 = !g)
theorem Np {row mrow lrow : List D} (h : aO row) (h' : aO mrow) (h2 : aO lrow) {q : Nat} (hq : 17 <= q) : ∀ s d, (FO row mrow lrow).get s = some d -> Kp q d := by
 show TAll (fun _ d => Kp q d) (FO row mrow lrow)
 unfold FO
 repeat' first | exact TAll.e | refine TAll.some ?_ ?_ ?_ | refine TAll.none ?_ ?_
 all_goals simp [Kp, KpL, Pu, aO, h, h', h2, Ge, Pos.nat]
 all_goals omega
theorem OZ {σ : Type} {S : Mns σ} {y : Pos} {row mrow lrow : List D} (hy : y.nat < 16) (hk : ∀ s, KpO 16 (S.base s)) (h : aO row) (h' : aO mrow) (h2 : aO lrow) (t : σ × Bool) : KpO 18 ((Ja S y row mrow lrow).base t) := by
 intro id c hc
 rcases Pj hc with rfl | rfl | ⟨h1, h3⟩
 ·have hc : some (.cells false [.o (.yl y) 0] 1) = some c := hc
  cases hc
  refine ⟨by simp [Ge, Pos.nat], KpL.all ?_⟩
  simp [KpL, Kp, Cell.d]
  omega
 ·have hc : some (.lp (FO row mrow lrow) [dG] 31 (uY (aY Try.f155) 0) (uC (aY Try.f155) 0) (bif t.2 then .done else .ready) (bif t.2 then some .ret else none)) = some c := hc
  cases hc
  exact ⟨by simp [MF, Pos.nat], Np h h' h2 (by omega)⟩
 ·have : (S.base t.1).get id = some c := h3
  obtain ⟨q1, q2⟩ := hk t.1 id c this
  exact ⟨by omega, q2.up (by omega)⟩
theorem OD {B : Bk} (V : VB B) (T : List Ln) (i : Nat) (hi : i <= 8) : (0 <= (fC B.box B.coin T i).n /\ (fC B.box B.coin T i).n <= 50) /\ (-100000 <= (fC B.box B.coin T i).box /\ (fC B.box B.coin T i).box <= 100000) /\ (0 <= (fC B.box B.coin T i).mix /\ (fC B.box B.coin T i).mix <= 50) /\ ∀ q, 0 <= (fC B.box B.coin T i).h q /\ (fC B.box B.coin T i).h q <= 50 := by
 have hm1 := qR (T := T) V.box V.coin i
 have hm2 := yK (T := T) i
 refine ⟨⟨show 0 <= (i : Int) by omega, show (i : Int) <= 50 by omega⟩, ⟨show -100000 <= bZ B.box B.coin T i by omega, show bZ B.box B.coin T i <= 100000 by omega⟩, ⟨show 0 <= gT T i by omega, show gT T i <= 50 by omega⟩, fun q => ?_⟩
 have g1 := jO T (q : Int) i
 have g2 := jK T ((q - 4 : Nat) : Int) i
 show 0 <= (if q < 4 then bK T (q : Int) i + 1 else bY T ((q - 4 : Nat) : Int) i + 1) /\ (if q < 4 then bK T (q : Int) i + 1 else bY T ((q - 4 : Nat) : Int) i + 1) <= 50
 split <;> omega
theorem yN {B : Bk} {T : List Ln} {a : Ln} (hk : a.k = 1 \/ a.k = 2) (hc : 0 <= a.c /\ a.c <= 3) (ht : 0 <= a.t /\ a.t <= 3) (hp : dV (T ++ [a]) T.length = true) : kX B.coin (fC B.box B.coin T T.length) a = (fC B.box B.coin (T ++ [a]) (T ++ [a]).length, true) := by
 have h := Er (box := B.box) (coin := B.coin) (T := T ++ [a]) (i := T.length) (by rw [cG]; exact hk) (by rw [cG]; exact hc) (by rw [cG]; exact ht) hp
 rw [cG, iX (SameTo.app T a)] at h
 rw [h, List.length_append, List.length_singleton]
theorem zK {B : Bk} {T : List Ln} {a : Ln} (hk : a.k = 1 \/ a.k = 2) (hc : 0 <= a.c /\ a.c <= 3) (ht : 0 <= a.t /\ a.t <= 3) (hp : dV (T ++ [a]) T.length = false) : (kX B.coin (fC B.box B.coin T T.length) a).2 = false := by
 have h := Hy (box := B.box) (coin := B.coin) (T := T ++ [a]) (i := T.length) (by rw [cG]; exact hk) (by rw [cG]; exact hc) (by rw [cG]; exact ht) hp
 rw [cG, iX (SameTo.app T a)] at h
 exact h
def cJ (B : Bk) (T : List Ln) : Mo := fC B.box B.coin T T.length
def Jg (B : Bk) (Q h : List Ln) : List Mo := ((h.filter fun a => dV (Q ++ [a]) Q.length).map fun a => Q ++ [a]).map (cJ B)
theorem DF {B : Bk} {Q h : List Ln} (hp : h <+: nU B.n (B.ls.getD Q.length default)) : Jg B Q h <+: (jW B Q).map (cJ B) := by
 obtain ⟨r, hr⟩ := hp
 unfold Jg jW
 rw [<- hr, List.filter_append, List.map_append, List.map_append]
 exact List.prefix_append _ _
theorem yY {B : Bk} {Q h : List Ln} {a : Ln} (hp : dV (Q ++ [a]) Q.length = true) : Jg B Q (h ++ [a]) = Jg B Q h ++ [cJ B (Q ++ [a])] := by
 unfold Jg
 rw [List.filter_append, List.map_append, List.map_append, List.filter_cons_of_pos (by rw [hp])]
 rfl
theorem OV {B : Bk} {Q h : List Ln} {a : Ln} (hp : dV (Q ++ [a]) Q.length = false) : Jg B Q (h ++ [a]) = Jg B Q h := by
 unfold Jg
 rw [List.filter_append, List.filter_cons_of_neg (by rw [hp]; simp)]
 simp
theorem GX {B : Bk} {Q h : List Ln} {a : Ln} (hp : h ++ [a] <+: nU B.n (B.ls.getD Q.length default)) : Am B.n (B.ls.getD Q.length default) a = true := iW.1 (hp.subset (by simp))
section
variable {σ : Type} {S : Mns σ} {y : Pos} {I : List Mo -> σ -> Prop} {R : σ -> Mo -> σ -> Bool -> Prop} {B : Bk} {T : List Ln}
theorem Ry (V : VB B) (hl : T.length < B.ls.length) (H : MnsOk S y I R ((jW B T).map (cJ B))) :
 LnsOk (Ja S y (jI B.n B.coin B.box B.ls B.cs) (dW (cJ B T)) (gB (B.ls.getD T.length default))) MF (fun h t => I (Jg B T h) t.1 /\ t.2 = false) (TE R B.coin (cJ B T)) B.n (B.ls.getD T.length default) := by
 have hrow := jV B.n B.coin B.box B.ls B.cs
 have hm := fJ (cJ B T)
 have hln : aO (gB (B.ls.getD T.length default)) := by simp [gB, aO, Pu]
 have kpB := OZ (row := jI B.n B.coin B.box B.ls B.cs) (mrow := dW (cJ B T)) (lrow := gB (B.ls.getD T.length default)) H.yl H.kp hrow hm hln
 refine ⟨by simp [MF, Pos.nat], kpB, ?_, ?_⟩
 ·rintro h ⟨s, f⟩ a ⟨s', f'⟩ hp ⟨h1, h2⟩ hR
  have ha := GX hp
  obtain ⟨hk, hc, ht⟩ := V.rd hl ha
  cases hpos : dV (T ++ [a]) T.length with
  | true =>
    have e2 : kX B.coin (cJ B T) a = (cJ B (T ++ [a]), true) := yN (B := B) hk hc ht hpos
    rcases hR with ⟨q1, _⟩ | ⟨_, q2, q3⟩
    ·rw [e2] at q1; cases q1
    ·rw [e2] at q2
     have hp2 := DF hp
     rw [yY hpos] at hp2
     refine ⟨?_, q3⟩
     rw [yY hpos]
     exact H.inv _ s _ s' hp2 h1 q2
  | false =>
    have e2 : (kX B.coin (cJ B T) a).2 = false := zK (B := B) hk hc ht hpos
    rcases hR with ⟨_, q2, _⟩ | ⟨q1, _⟩
    ·rw [q2, OV hpos]; exact ⟨h1, h2⟩
    ·rw [e2] at q1; cases q1
 ·rintro h ⟨s, f⟩ ⟨h1, h2⟩ a hpre sl d K k
  have ha := GX hpre
  have h2 : f = false := h2
  subst h2
  have h1 : I (Jg B T h) s := h1
  obtain ⟨hk, hc, ht⟩ := V.rd hl ha
  have hlen := V.len
  obtain ⟨m1, m2, m3, m4⟩ := OD V T T.length (by omega)
  have cA := Dx B.n B.coin B.box B.ls B.cs (cJ B T) a V.coin m1 m2 m3 m4 hc ht
  refine WRnd.run (id := MF) rfl CF BU ⟨_, rfl, ?_⟩
  unfold Lns.ob bP Ja FO
  conv => whnf
  refine Qg ?_
  refine ⟨rfl, rfl, _, _, _, _, _, _, rfl, ?_⟩
  conv => whnf
  cases hp : dV (T ++ [a]) T.length with
  | false =>
    have e2 := zK (B := B) hk hc ht hp
    have e2 : (kX B.coin (cJ B T) a).2 = false := e2
    rw [e2] at cA
    repeat' ((first | refine Qw ?_ | refine Qf cA ?_ | refine Qd (fun h => ?_) (fun h => ?_)) <;> conv => whnf)
    refine ⟨_, _, _, _, _, _, _, (Ja S y (jI B.n B.coin B.box B.ls B.cs) (dW (cJ B T)) (gB (B.ls.getD T.length default))).ob B.n (B.ls.getD T.length default) (s, false), nb5, rfl, rfl, Shr.kp ?_ (wF kpB _), Nat.le_refl _, k (s, false) true (.inl ⟨e2, rfl, rfl⟩)⟩
    unfold Lns.ob bP Ja FO
    repeat' first | exact Go.Ev.T.le_refl _ | exact Go.Ev.T.le_e _ | refine Go.Ev.T.le_some ?_ rfl ?_ | refine Go.Ev.T.le_same ?_ ?_ | refine Go.Ev.T.le_none ?_ ?_
  | true =>
    have e2 := yN (B := B) hk hc ht hp
    have e2 : kX B.coin (cJ B T) a = (cJ B (T ++ [a]), true) := e2
    have hNa := DF hpre
    rw [yY hp] at hNa
    obtain ⟨g, _, ⟨s', hRs, rfl⟩, HR⟩ := H.rnd _ s h1 _ hNa
    have hR' : ∀ f', f' = !g -> TE R B.coin (cJ B T) (s, false) a (s', f') g := fun f' hf => .inr ⟨by rw [e2], by rw [e2]; exact hRs, hf⟩
    rw [e2] at cA
    repeat' ((first | refine Qw ?_ | refine Qf cA ?_ | refine Qd (fun h => ?_) (fun h => ?_)) <;> conv => whnf)
    refine WRnd.fr (obR' := JS (S.o 1 s') (S.o 2 s') (S.o 3 s') (S.o 4 s') (S.o 5 s') (S.o 6 s') (S.o 7 s') (S.o 8 s') (S.o 9 s') (S.o 10 s') (S.o 11 s') (S.o 12 s') (S.o 13 s') (S.o 14 s') (S.o 15 s') (some (.cells false [.o (.yl y) 0] 1)) (some (.lp (FO (jI B.n B.coin B.box B.ls B.cs) (dW (cJ B T)) (gB (B.ls.getD T.length default))) [dG] 31 (uY (aY Try.f155) 0) (uC (aY Try.f155) 0) .busy none)) (some (.cells false [.o (.i .i64 (eM (B.ls.getD T.length default))) 0, .o (.i .i64 (nV (B.ls.getD T.length default))) 0] 1)) (some (.cells false [.o (.i .i64 (gN (B.ls.getD T.length default))) 0, .o (.i .i64 (nH B.n (B.ls.getD T.length default))) 0] 1)) (some (.cells false [.o (.i .i64 (kT (B.ls.getD T.length default))) 0, .o (.i .i64 (oM B.n (B.ls.getD T.length default))) 0] 1)) (some (.cells false ([D.i .i64 a.k, .i .i64 a.c, .i .i64 a.t].map fun d => Cell.o d 0) 1)) (some (.cells false ((dW (cJ B (T ++ [a]))).map fun d => Cell.o d 0) 1))) HR H.yl NL (H.kp s) (by simp only [KpL, and_true]; exact Kp.pu _ (fJ _)) CS (by simp [Ge, Pos.nat]) (LgLe.refl _) (fun _ _ => trivial) ?_; conv => whnf
    cases g with
    | true =>
      repeat' ((first | refine Qw ?_ | refine Qd (fun h => ?_) (fun h => ?_)) <;> conv => whnf)
      refine ⟨_, _, _, _, _, _, _, (Ja S y (jI B.n B.coin B.box B.ls B.cs) (dW (cJ B T)) (gB (B.ls.getD T.length default))).ob B.n (B.ls.getD T.length default) (s', false), nb5, rfl, rfl, Shr.kp ?_ (wF kpB _), Nat.le_refl _, k (s', false) true (hR' _ rfl)⟩
      unfold Lns.ob bP Ja FO
      repeat' first | exact Go.Ev.T.le_refl _ | exact Go.Ev.T.le_e _ | refine Go.Ev.T.le_some ?_ rfl ?_ | refine Go.Ev.T.le_same ?_ ?_ | refine Go.Ev.T.le_none ?_ ?_
    | false =>
      repeat' ((first | refine Qw ?_ | refine Qd (fun h => ?_) (fun h => ?_)) <;> conv => whnf)
      refine ⟨_, _, _, _, _, _, _, (Ja S y (jI B.n B.coin B.box B.ls B.cs) (dW (cJ B T)) (gB (B.ls.getD T.length default))).ob B.n (B.ls.getD T.length default) (s', true), nb5, rfl, rfl, Shr.kp ?_ (wF kpB _), Nat.le_refl _, k (s', true) false (hR' _ rfl)⟩
      unfold Lns.ob bP Ja FO
      repeat' first | exact Go.Ev.T.le_refl _ | exact Go.Ev.T.le_e _ | refine Go.Ev.T.le_some ?_ rfl ?_ | refine Go.Ev.T.le_same ?_ ?_ | refine Go.Ev.T.le_none ?_ ?_
end
theorem Hu {σ : Type} {R : σ -> Mo -> σ -> Bool -> Prop} {B : Bk} (V : VB B) {Q : List Ln} (hl : Q.length < B.ls.length) : ∀ (L : List Ln) {s s' : σ} {f' g : Bool}, (∀ a ∈ L, Am B.n (B.ls.getD Q.length default) a = true) -> Fld (TE R B.coin (cJ B Q)) L (s, false) (s', f') g -> Fld R (((L.filter fun a => dV (Q ++ [a]) Q.length).map fun a => Q ++ [a]).map (cJ B)) s s' g /\ f' = !g
 | [], s, s', f', g, _, h => by
   cases h
   exact ⟨.nil, rfl⟩
 | a :: L, s, s', f', g, hL, h => by
   obtain ⟨hk, hc, ht⟩ := V.rd hl (hL a (by simp))
   have ih := fun {s s' : σ} {f' g : Bool} (h : Fld (TE R B.coin (cJ B Q)) L (s, false) (s', f') g) => Hu V hl L (fun b hb => hL b (by simp [hb])) h
   cases hp : dV (Q ++ [a]) Q.length with
   | false =>
     have e2 : (kX B.coin (cJ B Q) a).2 = false := zK (B := B) hk hc ht hp
     rw [List.filter_cons_of_neg (by rw [hp]; simp)]
     cases h with
     | stop h =>
       rcases h with ⟨_, _, q3⟩ | ⟨q1, _⟩
       ·cases q3
       ·rw [e2] at q1; cases q1
     | go h k =>
       rcases h with ⟨_, q2, _⟩ | ⟨q1, _⟩
       ·subst q2
        exact ih k
       ·rw [e2] at q1; cases q1
   | true =>
     have e2 : kX B.coin (cJ B Q) a = (cJ B (Q ++ [a]), true) := yN (B := B) hk hc ht hp
     rw [List.filter_cons_of_pos (by rw [hp]), List.map_cons, List.map_cons]
     cases h with
     | stop h =>
       rcases h with ⟨q1, _⟩ | ⟨_, q2, q3⟩
       ·rw [e2] at q1; cases q1
       ·rw [e2] at q2
        exact ⟨.stop q2, q3⟩
     | go h k =>
       rename_i t1
       rcases h with ⟨q1, _⟩ | ⟨_, q2, q3⟩
       ·rw [e2] at q1; cases q1
       ·rw [e2] at q2
        obtain ⟨s1, f1⟩ := t1
        have q3 : f1 = false := q3
        subst q3
        obtain ⟨k1, k2⟩ := ih k
        exact ⟨.go q2 k1, k2⟩
theorem MR {σ : Type} (S : Mns σ) (y : Pos) (I : List Mo -> σ -> Prop) (R : σ -> Mo -> σ -> Bool -> Prop) {B : Bk} (V : VB B) {Q : List Ln} (hl : Q.length < B.ls.length) (H : MnsOk S y I R ((jW B Q).map (cJ B))) (s0 : σ) (i0 : I [] s0) :
 ∃ v ob', (∃ s' g, Fld R ((jW B Q).map (cJ B)) s0 s' g /\ v = .tp [] /\ ob' = S.base s') /\ CallOk Try.prog p156.ix [.yl y, .pl (jI B.n B.coin B.box B.ls B.cs) 0, .pl (dW (cJ B Q)) 0] (S.base s0) Ge none v ob' Ge none := by
 have hlen := V.len
 have hmn : (cJ B Q).n = (Q.length : Int) := rfl
 have e1 := aC aM B.ls
 obtain ⟨hk, hc, ht⟩ := V.ln hl
 refine CallOk.runE Rk (by simp) (Nat.le_refl _) ?_
 unfold Mns.base bP
 conv => whnf
 repeat' ((first | refine Qz ?_ | refine Qf (lC B.n B.coin B.box B.ls B.cs (B.ls.getD Q.length default)) ?_) <;> conv => whnf)
 refine Rn.le (a := ⟨FO (jI B.n B.coin B.box B.ls B.cs) (dW (cJ B Q)) (gB (B.ls.getD Q.length default)), bP (S.o 1 s0) (S.o 2 s0) (S.o 3 s0) (S.o 4 s0) (S.o 5 s0) (S.o 6 s0) (S.o 7 s0) (S.o 8 s0) (S.o 9 s0) (S.o 10 s0) (S.o 11 s0) (S.o 12 s0) (S.o 13 s0) (S.o 14 s0) (S.o 15 s0) (some (.cells false [.o (.yl y) 0] 1)) none none none none, MF, none⟩) ?_ ?_
 ·obtain ⟨_, _, ⟨⟨s', f'⟩, g, F, rfl, rfl⟩, C⟩ := Sv (Ja S y (jI B.n B.coin B.box B.ls B.cs) (dW (cJ B Q)) (gB (B.ls.getD Q.length default))) MF _ _ B.n B.coin B.box B.ls B.cs V.n (B.ls.getD Q.length default) hk hc ht (Ry V hl H) (s0, false) ⟨i0, rfl⟩
  obtain ⟨F', hf⟩ := Hu V hl _ (fun a ha => iW.1 ha) F
  cases g with
  | true =>
    have hf : f' = false := hf
    subst hf
    refine Rn.rf rfl rfl C rfl (by simp) ?_; conv => whnf
    refine Qg ?_
    refine ⟨_, _, ⟨s', true, F', rfl, rfl⟩, ⟨.inl rfl, ⟨_, rfl, .pu trivial⟩, Shr.kp ?_ (H.kp s')⟩⟩
    show Go.Ev.T.le (bP (S.o 1 s') (S.o 2 s') (S.o 3 s') (S.o 4 s') (S.o 5 s') (S.o 6 s') (S.o 7 s') (S.o 8 s') (S.o 9 s') (S.o 10 s') (S.o 11 s') (S.o 12 s') (S.o 13 s') (S.o 14 s') (S.o 15 s') none none none none none) (bP (S.o 1 s') (S.o 2 s') (S.o 3 s') (S.o 4 s') (S.o 5 s') (S.o 6 s') (S.o 7 s') (S.o 8 s') (S.o 9 s') (S.o 10 s') (S.o 11 s') (S.o 12 s') (S.o 13 s') (S.o 14 s') (S.o 15 s') (some _) (some _) none none none)
    unfold bP
    repeat' first | exact Go.Ev.T.le_refl _ | exact Go.Ev.T.le_e _ | refine Go.Ev.T.le_same ?_ ?_ | refine Go.Ev.T.le_none ?_ ?_
  | false =>
    have hf : f' = true := hf
    subst hf
    refine Rn.rf rfl rfl C rfl (by simp) ?_; conv => whnf
    refine Qg ?_
    refine ⟨_, _, ⟨s', false, F', rfl, rfl⟩, ⟨.inr rfl, ⟨_, rfl, .pu trivial⟩, Shr.kp ?_ (H.kp s')⟩⟩
    show Go.Ev.T.le (bP (S.o 1 s') (S.o 2 s') (S.o 3 s') (S.o 4 s') (S.o 5 s') (S.o 6 s') (S.o 7 s') (S.o 8 s') (S.o 9 s') (S.o 10 s') (S.o 11 s') (S.o 12 s') (S.o 13 s') (S.o 14 s') (S.o 15 s') none none none none none) (bP (S.o 1 s') (S.o 2 s') (S.o 3 s') (S.o 4 s') (S.o 5 s') (S.o 6 s') (S.o 7 s') (S.o 8 s') (S.o 9 s') (S.o 10 s') (S.o 11 s') (S.o 12 s') (S.o 13 s') (S.o 14 s') (S.o 15 s') (some _) (some _) none none none)
    unfold bP
    repeat' first | exact Go.Ev.T.le_refl _ | exact Go.Ev.T.le_e _ | refine Go.Ev.T.le_same ?_ ?_ | refine Go.Ev.T.le_none ?_ ?_
 ·refine X.le.mk ?_ ?_ (Nat.le_refl _) rfl rfl
  ·unfold FO
   repeat' first | exact Go.Ev.T.le_e _ | refine Go.Ev.T.le_some ?_ rfl ?_ | refine Go.Ev.T.le_none ?_ ?_
  ·unfold bP
   repeat' first | exact Go.Ev.T.le_refl _ | exact Go.Ev.T.le_e _ | refine Go.Ev.T.le_some ?_ rfl ?_ | refine Go.Ev.T.le_same ?_ ?_ | refine Go.Ev.T.le_none ?_ ?_
open Classical in
theorem CallOk.toH {P : Program} {f : Nat} {ds : List D} {ob1 : T C} {nx1 a : Pos} {v v2 : D} {es : List (D × D)} (h : CallOk P f ds .e .h none v ob1 nx1 none) (ha : ob1.get a = some (.map es)) (hp : ∀ e ∈ es, Pu e.1 /\ Pu e.2)
 (hv : ∀ (γ γ' : Gh) (w : World), γ'.cur .h = γ.cur a -> γ'.β .h = γ.β a -> (∀ b, γ.im b -> γ'.im b) -> Cv γ γ' w v v2) : CallOk P f ds .e .h none v2 (.n .e (some (.map es)) .e) (.o .h) none := by
 refine ⟨LgLe.refl _, by simp [Pos.nat], fun id hn => absurd trivial hn, fun so hs γ args w gh hargs hob hnx => ?_⟩
 have hall : ∀ id, so id := fun id => hs id trivial
 have hz : ∀ id, γ.cur id = 0 := fun id => hnx id (hall id) (Pos.nat_pos id)
 obtain ⟨c1, c2⟩ := h.ok so (fun id _ => hall id) γ args w gh hargs hob hnx
 refine ⟨c1, fun ro n R hR => c2 ro n R fun γ1 w1 u g1 F1 hu ho hn => ?_⟩
 let γ2 : Gh := ⟨fun i => if i = .h then γ1.cur a else 0, fun _ => γ1.β a, γ1.im⟩
 have c0 : γ2.cur .h = γ1.cur a := by show (if Pos.h = Pos.h then γ1.cur a else 0) = _; rw [if_pos rfl]
 have cn : ∀ i : Pos, i ≠ .h -> γ2.cur i = 0 := fun i hi => by show (if i = Pos.h then γ1.cur a else 0) = _; rw [if_neg hi]
 have lt : ∀ i s, s < γ2.cur i -> i = .h /\ s < γ1.cur a := fun i s hi => by
  by_cases e : i = .h
  ·subst e; rw [c0] at hi; exact ⟨rfl, hi⟩
  ·rw [cn i e] at hi; exact absurd hi (Nat.not_lt_zero _)
 have G2 : GH γ2 w1 := by
  refine ⟨fun i s hi => g1.ob a s (lt i s hi).2, fun i s i' s' hi hi' he => ?_, fun b hb => ⟨(g1.im b hb).1, fun i s hi => (g1.im b hb).2 a s (lt i s hi).2⟩, g1.gl.im fun _ h => h⟩
  obtain ⟨e1, k1⟩ := lt i s hi
  obtain ⟨e2, k2⟩ := lt i' s' hi'
  exact ⟨e1.trans e2.symm, (g1.inj a s a s' k1 k2 he).2⟩
 refine hR γ2 w1 u G2 ⟨⟨fun i => by rw [hz]; exact Nat.zero_le _, fun i s hi => by rw [hz] at hi; exact absurd hi (Nat.not_lt_zero _), F1.up.sh, F1.up.im⟩, fun id hn => absurd trivial hn, F1.blk, fun i s _ h2 => ?_, F1.imn, F1.lp, F1.size, F1.os, F1.tape, F1.output, F1.fz⟩ (hv γ1 γ2 w1 c0 rfl (fun _ h => h) u hu) (fun i c _ hc => ?_) (fun i _ hi => cn i fun e => by subst e; simp [Pos.nat] at hi)
 ·obtain ⟨_, k⟩ := lt i s h2
  rcases F1.new a s (by rw [hz]; exact Nat.zero_le _) k with h | ⟨s0, h, _⟩
  ·exact .inl h
  ·rw [hz] at h; exact absurd h (Nat.not_lt_zero _)
 ·cases i with
  | h =>
    rw [T.get_h] at hc
    cases hc
    obtain ⟨q1, en, cl, q2, q3, q4⟩ := ho a _ (hall a) ha
    refine ⟨c0.trans q1, en, cl, q2, q3, fun j e f he hf => ?_⟩
    obtain ⟨k1, k2⟩ := hp e (List.mem_of_getElem? he)
    exact ⟨DV.pu (γ := γ1) (γ' := γ2) (fun _ h => h) _ _ k1 (q4 j e f he hf).1, DV.pu (γ := γ1) (γ' := γ2) (fun _ h => h) _ _ k2 (q4 j e f he hf).2⟩
  | o p => rw [T.get_o, T.get_e] at hc; cases hc
  | i p => rw [T.get_i, T.get_e] at hc; cases hc
theorem Cv.mpH {γ γ' : Gh} {w : World} {a : Pos} (h1 : γ'.cur .h = γ.cur a) (h2 : γ'.β .h = γ.β a) : Cv γ γ' w (.mp a) (.mp .h) := fun u h => by
 unfold DV at h ⊢
 rw [h1, h2]
 exact h
structure KeyOk {κ : Type} [DecidableEq κ] (ks : List LK) (kD : κ -> D) (ok : κ -> Prop) : Prop where
 eq : ∀ a b, ok a -> ok b -> AZ ks (kD a) (kD b) = some (decide (a = b))
def An {κ ν : Type} (kD : κ -> D) (vD : ν -> D) (e : κ × ν) : D × D := (kD e.1, vD e.2)
section
variable {κ ν : Type} [DecidableEq κ] {ks : List LK} {kD : κ -> D} {vD : ν -> D} {ok : κ -> Prop} (H : KeyOk ks kD ok)
include H
theorem Nk {w : κ} (hw : ok w) : ∀ (M : List (κ × ν)), (∀ e ∈ M, ok e.1) -> (∃ n, (w, n) ∈ M /\ pT ks (kD w) (M.map (An kD vD)) = some (some (vD n))) \/ ((∀ n, (w, n) ∉ M) /\ pT ks (kD w) (M.map (An kD vD)) = some none)
 | [], _ => .inr ⟨fun _ h => (by cases h), rfl⟩
 | q :: M, h => by
   obtain ⟨v, n⟩ := q
   have hv := h (v, n) (by simp)
   have e : pT ks (kD w) (((v, n) :: M).map (An kD vD)) = (match AZ ks (kD w) (kD v) with
    | some true => some (some (vD n))
    | some false => pT ks (kD w) (M.map (An kD vD))
    | none => none) := rfl
   rw [e, H.eq _ _ hw hv]
   by_cases hwv : w = v
   ·subst hwv
    rw [decide_eq_true rfl]
    exact .inl ⟨n, by simp, rfl⟩
   ·rw [decide_eq_false hwv]
    rcases Nk hw M (fun e he => h e (by simp [he])) with ⟨n', h1, h2⟩ | ⟨h1, h2⟩
    ·exact .inl ⟨n', by simp [h1], h2⟩
    ·refine .inr ⟨fun n' hn => ?_, h2⟩
     rcases List.mem_cons.1 hn with hn | hn
     ·exact hwv (Prod.mk.inj hn).1
     ·exact h1 n' hn
theorem PT {w : κ} (n : ν) (hw : ok w) : ∀ (M : List (κ × ν)), (∀ e ∈ M, ok e.1) -> ∃ M' : List (κ × ν), (∀ e ∈ M', e = (w, n) \/ e ∈ M) /\ (w, n) ∈ M' /\ (∀ e ∈ M, e.1 = w \/ e ∈ M') /\ ∀ {β : Type} (k : List (D × D) -> Option β), Bf ks (kD w) (vD n) (M.map (An kD vD)) k = k (M'.map (An kD vD))
 | [], _ => ⟨[(w, n)], fun e he => .inl (List.mem_singleton.1 he), by simp, fun e he => (by cases he), fun k => rfl⟩
 | q :: M, h => by
   obtain ⟨v, n'⟩ := q
   have hv := h (v, n') (by simp)
   have e : ∀ {β : Type} (k : List (D × D) -> Option β), Bf ks (kD w) (vD n) (((v, n') :: M).map (An kD vD)) k = (match AZ ks (kD w) (kD v) with
    | some true => k ((kD w, vD n) :: M.map (An kD vD))
    | some false => Bf ks (kD w) (vD n) (M.map (An kD vD)) fun l => k (An kD vD (v, n') :: l)
    | none => none) := fun k => rfl
   by_cases hwv : w = v
   ·subst hwv
    refine ⟨(w, n) :: M, fun e he => ?_, by simp, fun e he => ?_, fun k => ?_⟩
    ·rcases List.mem_cons.1 he with rfl | he
     ·exact .inl rfl
     ·exact .inr (by simp [he])
    ·rcases List.mem_cons.1 he with rfl | he
     ·exact .inl rfl
     ·exact .inr (by simp [he])
    ·rw [e, H.eq _ _ hw hv, decide_eq_true rfl]
     rfl
   ·obtain ⟨M', h1, h2, h3, h4⟩ := PT n hw M (fun e he => h e (by simp [he]))
    refine ⟨(v, n') :: M', fun e he => ?_, by simp [h2], fun e he => ?_, fun k => ?_⟩
    ·rcases List.mem_cons.1 he with rfl | he
     ·exact .inr (by simp)
     ·rcases h1 e he with h | h
      ·exact .inl h
      ·exact .inr (by simp [h])
    ·rcases List.mem_cons.1 he with rfl | he
     ·exact .inr (by simp)
     ·rcases h3 e he with h | h
      ·exact .inl h
      ·exact .inr (by simp [h])
    ·rw [e, H.eq _ _ hw hv, decide_eq_false hwv]
     exact h4 fun l => k (An kD vD (v, n') :: l)
variable {sl : T D} {ob : T C} {nx : Pos} {lg : Option (T Bool)} {K : X -> Prop}
theorem WSt.lkpG {d id : Pos} {x i : RX} {w : κ} {z : D} {two : Bool} {M : List (κ × ν)} (hx : bG sl x = some (.mp id)) (hi : bG sl i = some (kD w)) (hob : ob.get id = some (.map (M.map (An kD vD)))) (hw : ok w) (hM : ∀ e ∈ M, ok e.1)
 (h1 : ∀ n, (w, n) ∈ M -> FJ lg id fun lg => dX sl ob nx lg d K (bif two then .tp [vD n, .b true] else vD n)) (h2 : (∀ n, (w, n) ∉ M) -> FJ lg id fun lg => dX sl ob nx lg d K (bif two then .tp [z, .b false] else z)) : WSt (.lkp d z two ks x i) ⟨sl, ob, nx, lg⟩ K := by
 have hstep : step (.lkp d z two ks x i) sl ob nx lg = (match pT ks (kD w) (M.map (An kD vD)) with
  | some (some v) => jS lg id fun lg => bif two then bA sl ob nx lg d (.tp [v, .b true]) else bA sl ob nx lg d v
  | some none => jS lg id fun lg => bif two then bA sl ob nx lg d (.tp [z, .b false]) else bA sl ob nx lg d z
  | none => none) := by
  show xB d _ _ _ x i sl ob nx lg = _
  unfold xB
  rw [hx, hi]
  simp only [hob, H.eq w w hw hw]
  rfl
 rcases Nk H (vD := vD) hw M hM with ⟨n, k1, k2⟩ | ⟨k1, k2⟩
 ·obtain ⟨l1, e1, h⟩ := jP (h1 n k1)
  obtain ⟨j1, j2⟩ := aT h
  refine ⟨_, ?_, j2⟩
  rw [hstep, k2, e1]
  cases two <;> exact j1
 ·obtain ⟨l1, e1, h⟩ := jP (h2 k1)
  obtain ⟨j1, j2⟩ := aT h
  refine ⟨_, ?_, j2⟩
  rw [hstep, k2, e1]
  cases two <;> exact j1
theorem WSt.mupG {id : Pos} {x i v : RX} {w : κ} {n : ν} {M : List (κ × ν)} (hx : bG sl x = some (.mp id)) (hi : bG sl i = some (kD w)) (hv : bG sl v = some (vD n)) (hob : ob.get id = some (.map (M.map (An kD vD)))) (hw : ok w) (hM : ∀ e ∈ M, ok e.1)
 (h : ∀ M' : List (κ × ν), (∀ e ∈ M', e = (w, n) \/ e ∈ M) -> (w, n) ∈ M' -> (∀ e ∈ M, e.1 = w \/ e ∈ M') -> IM lg id fun lg => T.setK id (.map (M'.map (An kD vD))) ob fun ob => K ⟨sl, ob, nx, lg⟩) : WSt (.mup ks x i v) ⟨sl, ob, nx, lg⟩ K := by
 obtain ⟨M', h1, h2, h3, h4⟩ := PT H (vD := vD) n hw M hM
 obtain ⟨l1, e1, h⟩ := lN (h M' h1 h2 h3)
 rw [T.setK_eq] at h
 refine ⟨_, ?_, h⟩
 show wI _ x i v sl ob nx lg = _
 unfold wI
 rw [hx, hi, hv]
 simp only [hob, H.eq w w hw hw, h4]
 unfold nT
 rw [e1]
 show (T.setK id _ ob fun ob => some ⟨sl, ob, nx, l1⟩ : Option X) = _
 rw [T.setK_eq]
end
structure Pt where
 n : Int
 a0 : Bool
 a1 : Bool
 a2 : Bool
 a3 : Bool
 a4 : Bool
 a5 : Bool
 a6 : Bool
 a7 : Bool
deriving DecidableEq
def Sd (p : Pt) : D := .ag [.i .i64 p.n, .b p.a0, .b p.a1, .b p.a2, .b p.a3, .b p.a4, .b p.a5, .b p.a6, .b p.a7]
def VQ : List LK := [.i .i64, .b, .b, .b, .b, .b, .b, .b, .b]
def Gz (p : Pt) : Prop := qY .i64 p.n = true
theorem rK : KeyOk VQ Sd Gz := ⟨fun a b ha hb => by
 have ha : qY .i64 a.n = true := ha
 have hb : qY .i64 b.n = true := hb
 have hk : vU .i64 .i64 = true := rfl
 obtain ⟨n, a0, a1, a2, a3, a4, a5, a6, a7⟩ := a
 obtain ⟨m, b0, b1, b2, b3, b4, b5, b6, b7⟩ := b
 simp only at ha hb
 simp only [VQ, Sd, AZ, Fg, RK, hk, ha, hb, Bool.and_self, cond_true, Option.some.injEq, lF, Bool.and_true]
 rw [Bool.eq_iff_iff]
 simp [Pt.mk.injEq]⟩
def EV (m : Mo) : Pt := ⟨m.n, nz (m.h 0), nz (m.h 1), nz (m.h 2), nz (m.h 3), nz (m.h 4), nz (m.h 5), nz (m.h 6), nz (m.h 7)⟩
def Jl (b : Bool) : D := .b b
abbrev dQ := List (Pt × Bool)
def bR (M : dQ) : List (D × D) := M.map (An Sd Jl)
theorem kV (M : dQ) : ∀ e ∈ bR M, Pu e.1 /\ Pu e.2 := fun e he => by
 obtain ⟨p, _, rfl⟩ := List.mem_map.1 he
 simp [An, Sd, Jl, Pu, aO]
theorem hJ {n : Nat} {M : dQ} : KpC n (.map (bR M)) := fun e he => by
 obtain ⟨p, _, rfl⟩ := List.mem_map.1 he
 simp [An, Sd, Jl, Kp, KpL, Pu]
def fE (M : dQ) : T C := .n .e (some (.map (bR M))) .e
theorem fK (M : dQ) : KpO 2 (fE M) := by
 show TAll (fun id c => id.nat < 2 /\ KpC 2 c) _
 exact TAll.some TAll.e ⟨by simp [Pos.nat], hJ⟩ TAll.e
structure MOk (B : Bk) (M : dQ) : Prop where
 wf : ∀ e ∈ M, Gz e.1
 ok : ∀ e ∈ M, ∀ (k : Nat) (Q : List Ln), okT B Q -> Q.length + k = B.ls.length -> EV (cJ B Q) = e.1 -> e.2 = cT B k Q
theorem MOk.nil (B : Bk) : MOk B [] := ⟨fun e h => (by cases h), fun e h => (by cases h)⟩
theorem My {B : Bk} (Q : List Ln) (q : Nat) : nz ((cJ B Q).h q) = Al Q q := by
 have g1 := jO Q (q : Int) Q.length
 have g2 := jK Q ((q - 4 : Nat) : Int) Q.length
 show nz (if q < 4 then bK Q (q : Int) Q.length + 1 else bY Q ((q - 4 : Nat) : Int) Q.length + 1) = Al Q q
 unfold Al nz
 by_cases hq : q < 4
 ·simp only [if_pos hq]
  by_cases h : 0 <= bK Q (q : Int) Q.length
  ·rw [decide_eq_true h, decide_eq_false (by omega)]; rfl
  ·rw [decide_eq_false h, decide_eq_true (by omega)]; rfl
 ·simp only [if_neg hq]
  by_cases h : 0 <= bY Q ((q - 4 : Nat) : Int) Q.length
  ·rw [decide_eq_true h, decide_eq_false (by omega)]; rfl
  ·rw [decide_eq_false h, decide_eq_true (by omega)]; rfl
theorem Dq {B : Bk} (V : VB B) {k k' : Nat} {Q Q' : List Ln} (h : okT B Q) (h' : okT B Q') (hk : Q.length + k = B.ls.length) (hk' : Q'.length + k' = B.ls.length) (he : EV (cJ B Q') = EV (cJ B Q)) : cT B k' Q' = cT B k Q := by
 obtain ⟨e, f0, f1, f2, f3, f4, f5, f6, f7⟩ := Pt.mk.inj he
 have e : (Q'.length : Int) = (Q.length : Int) := e
 have e : Q'.length = Q.length := by omega
 have ek : k' = k := by omega
 subst ek
 refine If V k' h h' e hk fun q hq => ?_
 rw [My, My] at f0 f1 f2 f3 f4 f5 f6 f7
 have : q = 0 \/ q = 1 \/ q = 2 \/ q = 3 \/ q = 4 \/ q = 5 \/ q = 6 \/ q = 7 := by omega
 rcases this with rfl | rfl | rfl | rfl | rfl | rfl | rfl | rfl <;> assumption
open Classical in
def IV (B : Bk) (k : Nat) (m : Mo) : Bool := decide (∃ Q, okT B Q /\ Q.length + k = B.ls.length /\ m = cJ B Q /\ cT B k Q = true)
open Classical in
theorem Dw {B : Bk} (V : VB B) {k : Nat} {Q : List Ln} (h : okT B Q) (hk : Q.length + k = B.ls.length) : IV B k (cJ B Q) = cT B k Q := by
 unfold IV
 cases hc : cT B k Q with
 | true => exact decide_eq_true ⟨Q, h, hk, rfl, hc⟩
 | false =>
   refine decide_eq_false ?_
   rintro ⟨Q', h1, h2, h3, h4⟩
   rw [Dq V h h1 hk h2 (by rw [h3])] at h4
   rw [hc] at h4; cases h4
def iK (B : Bk) : List D := [.i .i64 B.n, .i .i64 B.coin, .i .i64 B.box, .lst 3 (aD aM B.ls), .lst 3 (aD dZ B.cs)]
theorem jQ (B : Bk) : aO (iK B) := by simp [iK, aO, Pu, aB, aE]
theorem Cx {B : Bk} {d : D} {rest : List D} (hr : aO rest) : ∀ γ w, CvL γ γ w (.ag [.i .i64 B.n, .i .i64 B.coin, .i .i64 B.box, .lst 3 (aD aM B.ls), .lst 3 (aD dZ B.cs), d] :: rest) (.ag [.i .i64 B.n, .i .i64 B.coin, .i .i64 B.box, .lst 3 (aD aM B.ls), .lst 3 (aD dZ B.cs), .any] :: rest) := fun γ w =>
 .cons (.ag (.cons (.pu (fun _ h => h) trivial) (.cons (.pu (fun _ h => h) trivial) (.cons (.pu (fun _ h => h) trivial) (.cons (.pu (fun _ h => h) (aB _)) (.cons (.pu (fun _ h => h) (aE _)) (.cons .any .nil))))))) (.pu (fun _ h => h) hr)
def Jf (B : Bk) (m : Mo) : T D := (.n (.n (.n .e (some (.pt (.o .h) 0 0)) .e) none .e) none (.n (.n .e (some (.pt (.i .h) 0 0)) .e) none (.n .e (some (.fn p156 [] [.pl (jI B.n B.coin B.box B.ls B.cs) 0, .pl (dW m) 0])) .e)))
def Kz (B : Bk) (m : Mo) : Mns (dQ × Bool) where
 o := fun i s => match i with
   | 1 => some (.map (bR s.1))
   | 2 => some (.cells false [.o (.fn p123 [.ag (iK B ++ [.mp .h])] []) 0] 1)
   | 3 => some (.cells false [.o (.b s.2) 0] 1)
   | 4 => some (.lp (Jf B m) [p8] 11 (uY (aY Try.f139) 0) (uC (aY Try.f139) 0) (bif s.2 then .done else .ready) (bif s.2 then some .ret else none))
   | _ => none
theorem OX {B : Bk} {m : Mo} : ∀ s d, (Jf B m).get s = some d -> Kp 16 d := by
 show TAll (fun _ d => Kp 16 d) (Jf B m)
 unfold Jf
 repeat' first | exact TAll.e | refine TAll.some ?_ ?_ ?_ | refine TAll.none ?_ ?_
 all_goals simp [Kp, KpL, Pu, aO, jV, fJ, Pos.nat]
theorem CO {B : Bk} {m : Mo} (s : dQ × Bool) : KpO 16 ((Kz B m).base s) := by
 show TAll (fun id c => id.nat < 16 /\ KpC 16 c) _
 unfold Mns.base bP Kz
 repeat' first | exact TAll.e | refine TAll.some ?_ ?_ ?_ | refine TAll.none ?_ ?_
 all_goals refine ⟨by simp [Pos.nat], ?_⟩
 all_goals first
  | exact hJ
  | exact OX
  | (refine KpL.all ?_; simp [iK, KpL, Kp, Cell.d, Pu, aB, aE, Pos.nat])
def IQ (B : Bk) (k : Nat) : Prop := ∀ M, MOk B M -> ∀ Q, okT B Q -> Q.length + k = B.ls.length -> ∃ M', MOk B M' /\ CallOk Try.prog p123.ix [.ag (iK B ++ [.mp .h]), .ag (dW (cJ B Q))] (fE M) (.o .h) none (.b (cT B k Q)) (fE M') (.o .h) none
def Wk (B : Bk) (_ : List Mo) (s : dQ × Bool) : Prop := MOk B s.1 /\ s.2 = false
def VV (B : Bk) (k : Nat) (s : dQ × Bool) (m : Mo) (s' : dQ × Bool) (g : Bool) : Prop := MOk B s'.1 /\ s'.2 = IV B k m /\ g = !s'.2
theorem CallOk.mapHere {f : Nat} {M M' : dQ} {ds : List D} {t : Bool} (Hc : CallOk Try.prog f ds (fE M) (.o .h) none (.b t) (fE M') (.o .h) none) {ob : T C} {nx : Pos} {lg : Option (T Bool)} (hid : ob.get .h = some (.map (bR M))) (hlt : 1 < nx.nat) (hd : ∀ γ w, CvL γ (Fq .h γ) w ds ds) : CallOk Try.prog f ds ob nx lg (.b t) (T.set .h (.map (bR M')) ob) nx (HH lg .h) :=
 CallOk.oneG Hc rfl (kV M) (kV M') hid hlt hd (fun γ γ' w => .pu qV trivial)
theorem Sb {B : Bk} (V : VB B) {k : Nat} (hcan : IQ B k) {Q : List Ln} (m : Mo) (hQ : okT B Q) (hk : Q.length + (k + 1) = B.ls.length) : MnsOk (Kz B m) (.o (.o .h)) (Wk B) (VV B k) ((jW B Q).map (cJ B)) := by
 refine ⟨by simp [Pos.nat], CO, ?_, ?_⟩
 ·rintro h ⟨M, f⟩ a ⟨M', f'⟩ _ _ ⟨h1, h2, h3⟩
  exact ⟨h1, by simpa using h3⟩
 ·rintro h ⟨M, f⟩ ⟨hM, hf⟩ a hpre
  obtain ⟨T', hT', rfl⟩ := List.mem_map.1 (hpre.subset (show a ∈ h ++ [a] by simp))
  have hf : f = false := hf
  subst hf
  obtain ⟨ho, hl⟩ := hQ.step hT'
  have hM : MOk B M := hM
  obtain ⟨M', hM', C⟩ := hcan M hM T' ho (by omega)
  have hcm : cT B k T' = IV B k (cJ B T') := (Dw V ho (by omega)).symm
  refine RndOk.runE (sl0 := Jf B m) rfl Ck Cd ⟨_, rfl, ?_⟩
  unfold Mns.base bP Kz Jf
  conv => whnf
  refine Qg ?_
  refine ⟨rfl, rfl, _, _, _, _, _, _, rfl, ?_⟩
  conv => whnf
  refine Qg ?_
  refine WCall.of (CallOk.mapHere C rfl (show 1 < Pos.nat MF from by decide) (fun γ w => .cons (.ag (.app (.pu jF (jQ B)) rfl (.cons .mpI .nil))) (.cons (.ag (.pu jF (fJ _))) .nil))) ?_; conv => whnf
  rw [hcm]
  cases hc : IV B k (cJ B T') with
  | true =>
    repeat' ((first | refine Qw ?_ | refine Qd (fun h => ?_) (fun h => ?_)) <;> conv => whnf)
    refine ⟨_, _, _, _, _, _, _, (Kz B m).base (M', true), rfl, rfl, Shr.kp ?_ (CO _), (M', true), ⟨hM', hc.symm, rfl⟩, rfl⟩
    unfold Mns.base bP Kz Jf
    repeat' first | exact T.le_refl _ | exact T.le_e _ | refine T.le_some ?_ rfl ?_ | refine T.le_same ?_ ?_ | refine T.le_none ?_ ?_
  | false =>
    repeat' ((first | refine Qw ?_ | refine Qd (fun h => ?_) (fun h => ?_)) <;> conv => whnf)
    refine ⟨_, _, _, _, _, _, _, (Kz B m).base (M', false), rfl, rfl, Shr.kp ?_ (CO _), (M', false), ⟨hM', hc.symm, rfl⟩, rfl⟩
    unfold Mns.base bP Kz Jf
    repeat' first | exact T.le_refl _ | exact T.le_e _ | refine T.le_some ?_ rfl ?_ | refine T.le_same ?_ ?_ | refine T.le_none ?_ ?_
theorem Iv {B : Bk} (V : VB B) {k : Nat} : ∀ (L : List (List Ln)) {s s' : dQ × Bool} {g : Bool}, (∀ T' ∈ L, okT B T' /\ T'.length + k = B.ls.length) -> MOk B s.1 /\ s.2 = false -> Fld (VV B k) (L.map (cJ B)) s s' g -> MOk B s'.1 /\ s'.2 = L.any (cT B k) /\ g = !s'.2
 | [], s, s', g, _, hI, h => by
   cases h
   exact ⟨hI.1, hI.2, by rw [hI.2]; rfl⟩
 | T' :: L, s, s', g, hL, hI, h => by
   obtain ⟨ho, hl⟩ := hL T' (by simp)
   have hc := Dw V ho hl
   cases h with
   | stop h =>
     obtain ⟨h1, h2, h3⟩ := h
     rw [hc] at h2
     have h4 : cT B k T' = true := by rw [<- h2]; simpa using h3.symm
     exact ⟨h1, by rw [h2, List.any_cons, h4]; rfl, h3⟩
   | go h k2 =>
     obtain ⟨h1, h2, h3⟩ := h
     rename_i s1
     have h5 : s1.2 = false := by simpa using h3.symm
     rw [hc, h5] at h2
     obtain ⟨q1, q2, q3⟩ := Iv V L (fun x hx => hL x (by simp [hx])) ⟨h1, h5⟩ k2
     exact ⟨q1, by rw [q2, List.any_cons, <- h2]; rfl, q3⟩
theorem JI {B : Bk} (V : VB B) {k : Nat} (hcan : IQ B k) {Q : List Ln} (hQ : okT B Q) (hk : Q.length + (k + 1) = B.ls.length) (M : dQ) (hM : MOk B M) :
 ∃ M', MOk B M' /\ CallOk Try.prog p140.ix [.fn p156 [] [.pl (jI B.n B.coin B.box B.ls B.cs) 0, .pl (dW (cJ B Q)) 0], .fn p123 [.ag (iK B ++ [.mp .h])] []] (fE M) (.o .h) none (.b ((jW B Q).any (cT B k))) (fE M') (.o .h) none := by
 obtain ⟨v, ob', ⟨M', hM', rfl, rfl⟩, C⟩ := CallOk.runE (Φ := fun v ob' => ∃ M', MOk B M' /\ v = .b ((jW B Q).any (cT B k)) /\ ob' = fE M') (ob := fE M) (nx := .o .h) (nx' := .o .h) (ds := [.fn p156 [] [.pl (jI B.n B.coin B.box B.ls B.cs) 0, .pl (dW (cJ B Q)) 0], .fn p123 [.ag (iK B ++ [.mp .h])] []]) PZ (by simp) (Nat.le_refl _) (by
  conv => whnf
  refine Qg ?_
  refine Rn.le (a := ⟨Jf B (cJ B Q), bP (some (.map (bR M))) (some (.cells false [.o (.fn p123 [.ag (iK B ++ [.mp .h])] []) 0] 1)) (some (.cells false [.o (.b false) 0] 1)) none none none none none none none none none none none none none none none none none, .o (.o .h), none⟩) ?_ ?_
  ·obtain ⟨_, _, ⟨s', g, F, rfl, rfl⟩, Cn⟩ := MR (Kz B (cJ B Q)) (.o (.o .h)) _ _ V (by omega) (Sb V hcan (cJ B Q) hQ hk) (M, false) ⟨hM, rfl⟩
   obtain ⟨M', f'⟩ := s'
   obtain ⟨q1, q2, q3⟩ := Iv V _ (fun T' h => by obtain ⟨h1, h2⟩ := hQ.step h; exact ⟨h1, by omega⟩) (show MOk B (M, false).1 /\ (M, false).2 = false from ⟨hM, rfl⟩) F
   have q1 : MOk B M' := q1
   have q2 : f' = (jW B Q).any (cT B k) := q2
   have q3 : g = !f' := q3
   rw [<- q2]
   cases f' with
   | true =>
     refine Rn.rf rfl rfl (Cn.lower (by decide)) rfl (by simp) ?_; conv => whnf
     refine Qg ?_
     refine ⟨_, _, ⟨M', q1, rfl, rfl⟩, ⟨.inr rfl, ⟨_, rfl, .pu trivial⟩, Shr.kp ?_ (fK M')⟩⟩
     show T.le (T.n .e (some (.map (bR M'))) .e : T Ev.C) _
     refine T.le_some (T.le_e _) rfl (T.le_e _)
   | false =>
     refine Rn.rf rfl rfl (Cn.lower (by decide)) rfl (by simp) ?_; conv => whnf
     refine Qg ?_
     refine ⟨_, _, ⟨M', q1, rfl, rfl⟩, ⟨.inr rfl, ⟨_, rfl, .pu trivial⟩, Shr.kp ?_ (fK M')⟩⟩
     show T.le (T.n .e (some (.map (bR M'))) .e : T Ev.C) _
     refine T.le_some (T.le_e _) rfl (T.le_e _)
  ·refine X.le.mk ?_ ?_ (Nat.le_refl _) rfl rfl
   ·unfold Jf
    exact gC
   ·unfold bP
    repeat' first | exact T.le_refl _ | exact T.le_e _ | refine T.le_some ?_ rfl ?_ | refine T.le_same ?_ ?_ | refine T.le_ee ?_ ?_ | refine T.le_none ?_ ?_)
 exact ⟨M', hM', C⟩
end Go.Ev
end
