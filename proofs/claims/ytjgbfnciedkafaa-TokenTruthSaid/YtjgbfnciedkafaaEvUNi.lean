import Derived.Test.YtjgbfnciedkafaaEvUHa
set_option linter.all false
set_option maxHeartbeats 8000000
noncomputable section
namespace Go.Ev
open Go.Proofs
set_option maxRecDepth 100000
def HJ : RC -> RC
 | .seq a _ => a
 | c => c
def OI : RC -> RC
 | .blk _ a => a
 | c => c
def SM : RC -> RC
 | .loop a => a
 | c => c
def WQ : RC := OI (HJ (eQ (SM (OI (eQ (HJ (eQ (eQ (eQ (eQ Mq))))))))))
def Xn : RC := HJ (eQ WQ)
def WD : RC := HJ (eQ (eQ WQ))
theorem rO {α : Type} {p q : Pos} {A B : List α} (h : p.nat <= q.nat) (k : A.length <= B.length) : (qC p q A).nat <= (qC p q B).nat := by
 cases A with
 | nil => cases B <;> simp [qC, h]
 | cons a s =>
   cases B with
   | nil => simp at k
   | cons b r => exact Nat.le_refl _
structure CanP (n : Int) (T C : List Ln) : Prop where
 all : ∀ l ∈ C, (l.k = 1 \/ l.k = 2) /\ (0 <= l.c /\ l.c < n) /\ (0 <= l.t /\ l.t < n) /\ dW (T ++ [l]) = true
theorem CanP.nil {n : Int} {T : List Ln} : CanP n T [] := ⟨fun l h => by cases h⟩
theorem CanP.snoc {n : Int} {T C : List Ln} (h : CanP n T C) {l : Ln} (hk : l.k = 1 \/ l.k = 2) (hc : 0 <= l.c /\ l.c < n) (ht : 0 <= l.t /\ l.t < n) (hp : dW (T ++ [l]) = true) : CanP n T (C ++ [l]) := ⟨fun x hx => by
 rcases List.mem_append.1 hx with hx | hx
 ·exact h.all x hx
 ·rw [List.mem_singleton.1 hx]; exact ⟨hk, hc, ht, hp⟩⟩
def Yl (n coin box : Int) (ls : List Ln) (cs : List Ct) (ws : List Int) (L T : List Ln) (i w : Int) : X := ⟨(.n (.n (.n (.n .e (some (xI (.o (.i .h)) 3 T)) .e) none .e) (some (.lst 1 (aC qJ ws))) (.n (.n .e (some (.i .i64 w)) .e) none .e)) none (.n (.n (.n .e (some (.i .i64 i)) .e) (some (.pt (.o .h) 0 0)) .e) (some (.pt .h 0 0)) (.n .e (some (.pt (.i .h) 0 0)) .e))), (.n (.n .e (some (jH)) (.n .e (Bo aI T) .e)) (some (fK n coin box ls cs)) (.n .e (some (gZ n coin box (.lst 3 (aC aI L)) .ns)) .e)), qC (.o (.o .h)) (.i (.i .h)) T, none⟩
def Sp (n coin box : Int) (ls : List Ln) (cs : List Ct) (ws : List Int) (L T : List Ln) (i w : Int) (C : List Ln) : X := ⟨(.n (.n (.n (.n .e (some (xI (.o (.i .h)) 3 T)) .e) none .e) (some (.lst 1 (aC qJ ws))) (.n (.n .e (some (.i .i64 w)) .e) none .e)) none (.n (.n (.n .e (some (.i .i64 i)) .e) (some (.pt (.o .h) 0 0)) .e) (some (.pt .h 0 0)) (.n (.n .e (some (.lst 3 (aC aI C))) .e) (some (.pt (.i .h) 0 0)) .e))), (.n (.n .e (some (jH)) (.n .e (Bo aI T) .e)) (some (fK n coin box ls cs)) (.n .e (some (gZ n coin box (.lst 3 (aC aI L)) .ns)) .e)), qC (.o (.o .h)) (.i (.i .h)) T, none⟩
theorem Jt (n coin box : Int) (ls : List Ln) (cs : List Ct) (ws : List Int) (L T : List Ln) (i w : Int) (hn : 1 <= n /\ n <= 4) (hTl : T.length <= 8) {rest : RC} {K : Ex -> X -> Prop} (hrest : ∀ C, CanP n T C -> C.length <= 32 -> Rn Try.prog 175 rest (Sp n coin box ls cs ws L T i w C) K) : Rn Try.prog 175 (.seq Xn (.seq WD rest)) (Yl n coin box ls cs ws L T i w) K := by
 have hsq : 1 <= n * n /\ n * n <= 16 := by
  have : n = 1 \/ n = 2 \/ n = 3 \/ n = 4 := by omega
  rcases this with rfl | rfl | rfl | rfl <;> decide
 cases T with
 | nil =>
   refine Rn.far rfl ?_
   refine RnF.seq ?_; conv => whnf
   refine Qg ?_
   refine ⟨rfl, rfl, (show 4 <= 4 by omega), ?_⟩
   refine RnF.seq ?_; conv => whnf
   refine Qg ?_
   refine Rn.loop (fun s : Nat × List Ln => match s with | (kd, C) => (⟨(.n (.n (.n (.n .e (some (.ns)) .e) none (.n .e (some (.i .i64 (kd : Int))) .e)) (some (.lst 1 (aC qJ ws))) (.n (.n .e (some (.i .i64 w)) .e) none .e)) none (.n (.n (.n .e (some (.i .i64 i)) .e) (some (.pt (.o .h) 0 0)) .e) (some (.pt .h 0 0)) (.n (.n .e (some (xI (.o (.o (.o .h))) 3 C)) .e) (some (.pt (.i .h) 0 0)) .e))), (.n (.n (.n (.n .e (Bo aI C) .e) none .e) (some (jH)) .e) (some (fK n coin box ls cs)) (.n .e (some (gZ n coin box (.lst 3 (aC aI L)) .ns)) .e)), qC (.o (.o .h)) (.i (.o (.o .h))) C, none⟩ : X)) (fun s => 1 <= s.1 /\ s.1 <= 3 /\ CanP n [] s.2 /\ s.2.length <= 16 * (s.1 - 1)) (fun s => 3 - s.1) (1, []) ?_ ?_ ?_
   ·refine X.le.mk ?_ ?_ (Nat.le_refl _) rfl rfl
    all_goals (repeat' first | exact T.le_e _ | refine T.le_some ?_ rfl ?_ | refine T.le_none ?_ ?_ | refine T.le_ee ?_ ?_)
   ·exact ⟨Nat.le_refl _, (show 1 <= 3 by omega), .nil, Nat.zero_le _⟩
   rintro ⟨kd, C0⟩ ⟨hk1, hk3, hC0, hCl0⟩
   have hk1 : 1 <= kd := hk1
   have hk3 : kd <= 3 := hk3
   have hC0 : CanP n [] C0 := hC0
   have hCl0 : C0.length <= 16 * (kd - 1) := hCl0
   conv => whnf
   refine Qg ?_
   refine WB.dec (fun h => ?_) (fun h => ?_) <;> conv => whnf
   ·have hk2 : kd <= 2 := by omega
    refine Qg ?_
    refine Rn.loop (fun s : Nat × List Ln => match s with | (k, C) => (⟨(.n (.n (.n (.n .e (some (.ns)) .e) none (.n .e (some (.i .i64 (kd : Int))) .e)) (some (.lst 1 (aC qJ ws))) (.n (.n .e (some (.i .i64 w)) .e) none .e)) none (.n (.n (.n .e (some (.i .i64 i)) .e) (some (.pt (.o .h) 0 0)) (.n .e (some (.i .i64 (k : Int))) .e)) (some (.pt .h 0 0)) (.n (.n .e (some (xI (.o (.o (.o .h))) 3 C)) .e) (some (.pt (.i .h) 0 0)) .e))), (.n (.n (.n (.n .e (Bo aI C) .e) none .e) (some (jH)) .e) (some (fK n coin box ls cs)) (.n .e (some (gZ n coin box (.lst 3 (aC aI L)) .ns)) .e)), qC (.o (.o .h)) (.i (.o (.o .h))) C, none⟩ : X)) (fun s => (s.1 : Int) <= n * n /\ CanP n [] s.2 /\ s.2.length <= 16 * (kd - 1) + s.1 /\ C0.length <= s.2.length) (fun s => 16 - s.1) (0, C0) ?_ ?_ ?_
    ·refine X.le.mk ?_ ?_ (Nat.le_refl _) rfl rfl
     all_goals (repeat' first | exact T.le_e _ | exact T.le_refl _ | refine T.le_some ?_ rfl ?_ | refine T.le_none ?_ ?_ | refine T.le_ee ?_ ?_ | refine T.le_same ?_ ?_)
    ·exact ⟨(show (0 : Int) <= n * n by omega), hC0, hCl0, Nat.le_refl _⟩
    rintro ⟨k, C⟩ ⟨hkn, hC, hCl, hCm⟩
    have hkn : (k : Int) <= n * n := hkn
    have hC : CanP n [] C := hC
    have hCl : C.length <= 16 * (kd - 1) + k := hCl
    have hCm : C0.length <= C.length := hCm
    conv => whnf
    refine Qg ?_
    refine WB.dec (fun h => ?_) (fun h => ?_) <;> conv => whnf
    ·have hkl : (k : Int) < n * n := h
     have c1 := Int.tmod_nonneg n (show (0 : Int) <= (k : Int) by omega)
     have c2 := Int.tmod_lt_of_pos (k : Int) (show (0 : Int) < n by omega)
     have t1 := Int.tdiv_nonneg (show (0 : Int) <= (k : Int) by omega) (show 0 <= n by omega)
     have t2 : (k : Int).tdiv n < n := by
      rw [Int.tdiv_eq_ediv_of_nonneg (by omega)]
      exact Int.ediv_lt_of_lt_mul (by omega) hkl
     have iP := sH ([] ++ [⟨(kd : Int), (k : Int).tmod n, (k : Int).tdiv n⟩]) (by simp)
     have hkk : (kd : Int) = 1 \/ (kd : Int) = 2 := by omega
     generalize hp : dW ([] ++ [⟨(kd : Int), (k : Int).tmod n, (k : Int).tdiv n⟩]) = bb at *
     cases C with
     | nil =>
       refine Qg ?_
       refine WSt.app_nsE (id := (.i (.o .h))) (by rfl) (by rfl) (by rfl) ?_; conv => whnf
       refine Qg ?_
       refine WSt.app_oneL (id := (.i (.o .h))) (ds := ([] : List D)) (r := aI ⟨(kd : Int), (k : Int).tmod n, (k : Int).tdiv n⟩) (len := 0) (st := 0) (by rfl) (by rfl) (by rfl) (by rfl) (by rfl) (by rfl) (by rfl) (by rfl) (by rfl) (by omega) (by rfl) ?_; conv => whnf
       refine Qg ?_
       refine WCall.borrow1 iP (.i (.o .h)) (.cells false ((([] : List D).map fun d => Cell.o d 0) ++ (aI ⟨(kd : Int), (k : Int).tmod n, (k : Int).tdiv n⟩).map fun d => Cell.o d 1) 2) (.cons (Fz.grown (ds := ([] : List D)) (r := aI ⟨(kd : Int), (k : Int).tmod n, (k : Int).tdiv n⟩) (s1 := 0) (s2 := 1) (fun h => h) (T.get_set_same _ _ _) rfl (by omega) (by simp [aC]) (by rw [aD]; simp) (dJ _) (aB _)) .nil) trivial rfl rfl ?_; conv => whnf
       refine Qg ?_
       refine WB.mk (fun hb => ?_) (fun hb => ?_) <;> conv => whnf
       ·subst hb
        refine Qg ?_
        refine WSt.app_first (r := aI ⟨(kd : Int), (k : Int).tmod n, (k : Int).tdiv n⟩) (by rfl) (.inl rfl) (by rfl) (by rfl) (by rfl) (by rfl) ?_; conv => whnf
        refine Qg ?_
        refine Again.to (k + 1, [⟨(kd : Int), (k : Int).tmod n, (k : Int).tdiv n⟩]) (show 16 - (k + 1) < 16 - k by omega) ⟨(show ((k + 1 : Nat) : Int) <= n * n by omega), (show CanP n [] [⟨(kd : Int), (k : Int).tmod n, (k : Int).tdiv n⟩] from CanP.nil.snoc hkk ⟨c1, c2⟩ ⟨t1, t2⟩ hp), (show 1 <= 16 * (kd - 1) + (k + 1) by omega), (Nat.le_trans hCm (Nat.zero_le _))⟩ (show 4 <= 9 by omega) ?_
        refine Shr.of ?_ ?_ rfl rfl
        ·(repeat' first | exact Rel.e | refine Rel.some ?_ ?_ ?_ | refine Rel.none ?_ ?_ | refine Rel.ee ?_ ?_)
         all_goals show Fz _ _ _ _
         all_goals first | exact Fy | exact .pu (dD _) | exact .pu (aB _) | exact iK (Ql rfl) _ (Ql rfl)
        ·(repeat' first | exact Rel.e | refine Rel.some ?_ ?_ ?_ | refine Rel.none ?_ ?_ | refine Rel.ee ?_ ?_)
         all_goals first
          | exact Ro aY
          | exact Ro aX
          | exact Ro (aQ (.pu (aB _)) (.pu trivial))
          | (refine Ro (ShC.same fun c hc => ?_); obtain ⟨d, hd, rfl⟩ := List.mem_map.1 hc; exact .pu (aF.1 (dR _) d hd))
       ·refine Qg ?_
        refine Again.to (k + 1, []) (show 16 - (k + 1) < 16 - k by omega) ⟨(show ((k + 1 : Nat) : Int) <= n * n by omega), hC, (Nat.zero_le _), hCm⟩ (show 4 <= 4 by omega) ?_
        refine Shr.of ?_ ?_ rfl rfl
        ·(repeat' first | exact Rel.e | refine Rel.some ?_ ?_ ?_ | refine Rel.none ?_ ?_ | refine Rel.ee ?_ ?_)
         all_goals show Fz _ _ _ _
         all_goals first | exact Fy | exact .pu (dD _) | exact .pu (aB _) | exact iK (Ql rfl) _ (Ql rfl)
        ·(repeat' first | exact Rel.e | refine Rel.some ?_ ?_ ?_ | refine Rel.none ?_ ?_ | refine Rel.ee ?_ ?_)
         all_goals first
          | exact Ro aY
          | exact Ro aX
          | exact Ro (aQ (.pu (aB _)) (.pu trivial))
     | cons a s =>
       refine Qg ?_
       refine WSt.app_nsE (id := (.o (.i (.o .h)))) (by rfl) (by rfl) (by rfl) ?_; conv => whnf
       refine Qg ?_
       refine WSt.app_oneL (id := (.o (.i (.o .h)))) (ds := ([] : List D)) (r := aI ⟨(kd : Int), (k : Int).tmod n, (k : Int).tdiv n⟩) (len := 0) (st := 0) (by rfl) (by rfl) (by rfl) (by rfl) (by rfl) (by rfl) (by rfl) (by rfl) (by rfl) (by omega) (by rfl) ?_; conv => whnf
       refine Qg ?_
       refine WCall.borrow1 iP (.o (.i (.o .h))) (.cells false ((([] : List D).map fun d => Cell.o d 0) ++ (aI ⟨(kd : Int), (k : Int).tmod n, (k : Int).tdiv n⟩).map fun d => Cell.o d 1) 2) (.cons (Fz.grown (ds := ([] : List D)) (r := aI ⟨(kd : Int), (k : Int).tmod n, (k : Int).tdiv n⟩) (s1 := 0) (s2 := 1) (fun h => h) (T.get_set_same _ _ _) rfl (by omega) (by simp [aC]) (by rw [aD]; simp) (dJ _) (aB _)) .nil) trivial rfl rfl ?_; conv => whnf
       refine Qg ?_
       refine WB.mk (fun hb => ?_) (fun hb => ?_) <;> conv => whnf
       ·subst hb
        refine Qg ?_
        refine WSt.app_one (id := (.o (.o (.o .h)))) (ds := (aC aI (a :: s)).flatten) (r := aI ⟨(kd : Int), (k : Int).tmod n, (k : Int).tdiv n⟩) (by rfl) (by rfl) (by rfl) (by rfl) (by rfl) (by rfl) (by rw [cZ (z := 3) nB]; rfl) (by rfl) (by rfl) (by simp at hCl; omega) (by rfl) ?_; conv => whnf
        refine Qg ?_
        refine Again.to (k + 1, (a :: (s ++ [⟨(kd : Int), (k : Int).tmod n, (k : Int).tdiv n⟩]))) (show 16 - (k + 1) < 16 - k by omega) ⟨(show ((k + 1 : Nat) : Int) <= n * n by omega), (show CanP n [] (a :: (s ++ [⟨(kd : Int), (k : Int).tmod n, (k : Int).tdiv n⟩])) from hC.snoc hkk ⟨c1, c2⟩ ⟨t1, t2⟩ hp), (by have h := hCl; rw [List.length_cons] at h; show (s ++ [_]).length + 1 <= _; rw [List.length_append, List.length_singleton]; omega), (by have h := hCm; rw [List.length_cons] at h; show _ <= (s ++ [_]).length + 1; rw [List.length_append, List.length_singleton]; omega)⟩ (show 9 <= 9 by omega) ?_
        refine Shr.of ?_ ?_ rfl rfl
        ·show Rel _ _ ((.n (.n (.n (.n .e (some (.ns)) .e) none (.n .e (some (.i .i64 (kd : Int))) .e)) (some (.lst 1 (aC qJ ws))) (.n (.n .e (some (.i .i64 w)) .e) none .e)) none (.n (.n (.n .e (some (.i .i64 i)) .e) (some (.pt (.o .h) 0 0)) (.n .e (some (.i .i64 ((k + 1 : Nat) : Int))) .e)) (some (.pt .h 0 0)) (.n (.n .e (some ((xI (.o (.o (.o .h))) 3 (a :: (s ++ [⟨(kd : Int), (k : Int).tmod n, (k : Int).tdiv n⟩]))))) .e) (some (.pt (.i .h) 0 0)) .e))) : Ev.T D) _
         rw [jY]
         (repeat' first | exact Rel.e | refine Rel.some ?_ ?_ ?_ | refine Rel.none ?_ ?_ | refine Rel.ee ?_ ?_)
         all_goals show Fz _ _ _ _
         all_goals first | exact Fy | exact .pu (dD _) | exact .pu (aB _) | exact iK (Ql rfl) _ (Ql rfl)
        ·show Rel _ _ ((.n (.n (.n (.n .e (Bo aI (a :: (s ++ [⟨(kd : Int), (k : Int).tmod n, (k : Int).tdiv n⟩]))) .e) none .e) (some (jH)) .e) (some (fK n coin box ls cs)) (.n .e (some (gZ n coin box (.lst 3 (aC aI L)) .ns)) .e)) : Ev.T Ev.C) _
         rw [kB]
         (repeat' first | exact Rel.e | refine Rel.some ?_ ?_ ?_ | refine Rel.none ?_ ?_ | refine Rel.ee ?_ ?_)
         all_goals first
          | exact Ro aY
          | exact Ro aX
          | exact Ro (aQ (.pu (aB _)) (.pu trivial))
          | (refine Ro (ShC.grown (by omega) (aF.2 fun d hd => ?_)); rcases List.mem_append.1 hd with hd | hd <;> first | exact aF.1 (fE dR _) d hd | exact aF.1 (dR _) d hd)
       ·refine Qg ?_
        refine Again.to (k + 1, (a :: s)) (show 16 - (k + 1) < 16 - k by omega) ⟨(show ((k + 1 : Nat) : Int) <= n * n by omega), hC, (by have h := hCl; rw [List.length_cons] at h; show s.length + 1 <= _; omega), hCm⟩ (show 9 <= 9 by omega) ?_
        refine Shr.of ?_ ?_ rfl rfl
        ·(repeat' first | exact Rel.e | refine Rel.some ?_ ?_ ?_ | refine Rel.none ?_ ?_ | refine Rel.ee ?_ ?_)
         all_goals show Fz _ _ _ _
         all_goals first | exact Fy | exact .pu (dD _) | exact .pu (aB _) | exact iK (Ql rfl) _ (Ql rfl)
        ·(repeat' first | exact Rel.e | refine Rel.some ?_ ?_ ?_ | refine Rel.none ?_ ?_ | refine Rel.ee ?_ ?_)
         all_goals first
          | exact Ro aY
          | exact Ro aX
          | exact Ro (aQ (.pu (aB _)) (.pu trivial))
          | exact Ro (ShC.G dR a s)
    ·have hk16 : k <= 16 := by omega
     cases C with
     | nil =>
       refine Qg ?_
       refine Again.to (kd + 1, []) (show 3 - (kd + 1) < 3 - kd by omega) ⟨(show 1 <= kd + 1 by omega), (show kd + 1 <= 3 by omega), hC, (by show ([] : List Ln).length <= 16 * (kd + 1 - 1); have h := hCl; omega)⟩ (by simp only []; exact rO (by decide) hCm) ?_
       refine Shr.of ?_ ?_ rfl rfl
       ·(repeat' first | exact Rel.e | refine Rel.some ?_ ?_ ?_ | refine Rel.none ?_ ?_ | refine Rel.ee ?_ ?_)
        all_goals show Fz _ _ _ _
        all_goals first | exact Fy | exact .pu (dD _) | exact .pu (aB _) | exact iK (Ql rfl) _ (Ql rfl)
       ·(repeat' first | exact Rel.e | refine Rel.some ?_ ?_ ?_ | refine Rel.none ?_ ?_ | refine Rel.ee ?_ ?_)
        all_goals first
         | exact Ro aY
         | exact Ro aX
         | exact Ro (aQ (.pu (aB _)) (.pu trivial))
     | cons a s =>
       refine Qg ?_
       refine Again.to (kd + 1, (a :: s)) (show 3 - (kd + 1) < 3 - kd by omega) ⟨(show 1 <= kd + 1 by omega), (show kd + 1 <= 3 by omega), hC, (by show (a :: s).length <= 16 * (kd + 1 - 1); have h := hCl; omega)⟩ (by simp only []; exact rO (by decide) hCm) ?_
       refine Shr.of ?_ ?_ rfl rfl
       ·(repeat' first | exact Rel.e | refine Rel.some ?_ ?_ ?_ | refine Rel.none ?_ ?_ | refine Rel.ee ?_ ?_)
        all_goals show Fz _ _ _ _
        all_goals first | exact Fy | exact .pu (dD _) | exact .pu (aB _) | exact iK (Ql rfl) _ (Ql rfl)
       ·(repeat' first | exact Rel.e | refine Rel.some ?_ ?_ ?_ | refine Rel.none ?_ ?_ | refine Rel.ee ?_ ?_)
        all_goals first
         | exact Ro aY
         | exact Ro aX
         | exact Ro (aQ (.pu (aB _)) (.pu trivial))
         | exact Ro (ShC.G dR a s)
   ·refine Qg ?_
    refine ⟨rfl, rfl, (show 4 <= (qC (.o (.o .h)) (.i (.o (.o .h))) C0).nat by cases C0 <;> simp [qC, Pos.nat]), RnF.turn (z' := Sp n coin box ls cs ws L [] i w C0) (B := fun id => id.nat < 4) ?_ (fun id h => h) (fun id h => h) (Nat.le_refl _) (hrest C0 hC0 (by omega))⟩
    refine ShrB.of ?_ ?_ rfl rfl
    ·(repeat' first | exact Rel.e | refine Rel.some ?_ ?_ ?_ | refine Rel.none ?_ ?_ | refine Rel.ee ?_ ?_)
     all_goals show Fz _ _ _ _
     all_goals first | exact Fy | exact .pu (dD _) | exact Fz.G C0 (show ¬ (8 : Nat) < 4 by omega) (fun c h => h) nB dR
    ·(repeat' first | exact Rel.e | refine Rel.some ?_ ?_ ?_ | refine Rel.none ?_ ?_ | refine Rel.ee ?_ ?_)
     all_goals first
      | exact ⟨show _ < 4 by simp [Pos.nat], aY⟩
      | exact ⟨show _ < 4 by simp [Pos.nat], aX⟩
      | exact ⟨show _ < 4 by simp [Pos.nat], aQ (.pu (aB _)) (.pu trivial)⟩
      | exact ⟨show _ < 4 by simp [Pos.nat], ShC.G dR _ _⟩
 | cons a' s' =>
   refine Rn.far rfl ?_
   refine RnF.seq ?_; conv => whnf
   refine Qg ?_
   refine ⟨rfl, rfl, (show 7 <= 7 by omega), ?_⟩
   refine RnF.seq ?_; conv => whnf
   refine Qg ?_
   refine Rn.loop (fun s : Nat × List Ln => match s with | (kd, C) => (⟨(.n (.n (.n (.n .e (some (.sl (.o (.i .h)) 0 (s'.length + 1) s'.length 3)) .e) none (.n .e (some (.i .i64 (kd : Int))) .e)) (some (.lst 1 (aC qJ ws))) (.n (.n .e (some (.i .i64 w)) .e) none .e)) none (.n (.n (.n .e (some (.i .i64 i)) .e) (some (.pt (.o .h) 0 0)) .e) (some (.pt .h 0 0)) (.n (.n .e (some (xI (.i (.i (.o .h))) 3 C)) .e) (some (.pt (.i .h) 0 0)) .e))), (.n (.n .e (some (jH)) (.n .e (some ((Ev.C.cells false ((aC aI (a' :: s')).flatten.map fun d => Cell.o d s'.length) (s'.length + 1)))) .e)) (some (fK n coin box ls cs)) (.n .e (some (gZ n coin box (.lst 3 (aC aI L)) .ns)) (.n (.n .e (Bo aI C) .e) none .e))), qC (.i (.i .h)) (.o (.o (.i .h))) C, none⟩ : X)) (fun s => 1 <= s.1 /\ s.1 <= 3 /\ CanP n (a' :: s') s.2 /\ s.2.length <= 16 * (s.1 - 1)) (fun s => 3 - s.1) (1, []) ?_ ?_ ?_
   ·refine X.le.mk ?_ ?_ (Nat.le_refl _) rfl rfl
    all_goals (repeat' first | exact T.le_e _ | refine T.le_some ?_ rfl ?_ | refine T.le_none ?_ ?_ | refine T.le_ee ?_ ?_)
   ·exact ⟨Nat.le_refl _, (show 1 <= 3 by omega), .nil, Nat.zero_le _⟩
   rintro ⟨kd, C0⟩ ⟨hk1, hk3, hC0, hCl0⟩
   have hk1 : 1 <= kd := hk1
   have hk3 : kd <= 3 := hk3
   have hC0 : CanP n (a' :: s') C0 := hC0
   have hCl0 : C0.length <= 16 * (kd - 1) := hCl0
   conv => whnf
   refine Qg ?_
   refine WB.dec (fun h => ?_) (fun h => ?_) <;> conv => whnf
   ·have hk2 : kd <= 2 := by omega
    refine Qg ?_
    refine Rn.loop (fun s : Nat × List Ln => match s with | (k, C) => (⟨(.n (.n (.n (.n .e (some (.sl (.o (.i .h)) 0 (s'.length + 1) s'.length 3)) .e) none (.n .e (some (.i .i64 (kd : Int))) .e)) (some (.lst 1 (aC qJ ws))) (.n (.n .e (some (.i .i64 w)) .e) none .e)) none (.n (.n (.n .e (some (.i .i64 i)) .e) (some (.pt (.o .h) 0 0)) (.n .e (some (.i .i64 (k : Int))) .e)) (some (.pt .h 0 0)) (.n (.n .e (some (xI (.i (.i (.o .h))) 3 C)) .e) (some (.pt (.i .h) 0 0)) .e))), (.n (.n .e (some (jH)) (.n .e (some ((Ev.C.cells false ((aC aI (a' :: s')).flatten.map fun d => Cell.o d s'.length) (s'.length + 1)))) .e)) (some (fK n coin box ls cs)) (.n .e (some (gZ n coin box (.lst 3 (aC aI L)) .ns)) (.n (.n .e (Bo aI C) .e) none .e))), qC (.i (.i .h)) (.o (.o (.i .h))) C, none⟩ : X)) (fun s => (s.1 : Int) <= n * n /\ CanP n (a' :: s') s.2 /\ s.2.length <= 16 * (kd - 1) + s.1 /\ C0.length <= s.2.length) (fun s => 16 - s.1) (0, C0) ?_ ?_ ?_
    ·refine X.le.mk ?_ ?_ (Nat.le_refl _) rfl rfl
     all_goals (repeat' first | exact T.le_e _ | exact T.le_refl _ | refine T.le_some ?_ rfl ?_ | refine T.le_none ?_ ?_ | refine T.le_ee ?_ ?_ | refine T.le_same ?_ ?_)
    ·exact ⟨(show (0 : Int) <= n * n by omega), hC0, hCl0, Nat.le_refl _⟩
    rintro ⟨k, C⟩ ⟨hkn, hC, hCl, hCm⟩
    have hkn : (k : Int) <= n * n := hkn
    have hC : CanP n (a' :: s') C := hC
    have hCl : C.length <= 16 * (kd - 1) + k := hCl
    have hCm : C0.length <= C.length := hCm
    conv => whnf
    refine Qg ?_
    refine WB.dec (fun h => ?_) (fun h => ?_) <;> conv => whnf
    ·have hkl : (k : Int) < n * n := h
     have c1 := Int.tmod_nonneg n (show (0 : Int) <= (k : Int) by omega)
     have c2 := Int.tmod_lt_of_pos (k : Int) (show (0 : Int) < n by omega)
     have t1 := Int.tdiv_nonneg (show (0 : Int) <= (k : Int) by omega) (show 0 <= n by omega)
     have t2 : (k : Int).tdiv n < n := by
      rw [Int.tdiv_eq_ediv_of_nonneg (by omega)]
      exact Int.ediv_lt_of_lt_mul (by omega) hkl
     have iP := sH ((a' :: s') ++ [⟨(kd : Int), (k : Int).tmod n, (k : Int).tdiv n⟩]) (by simp at hTl ⊢; omega)
     have hkk : (kd : Int) = 1 \/ (kd : Int) = 2 := by omega
     generalize hp : dW ((a' :: s') ++ [⟨(kd : Int), (k : Int).tmod n, (k : Int).tdiv n⟩]) = bb at *
     cases C with
     | nil =>
       refine Qg ?_
       refine WSt.app_slEL (id := (.o (.o (.o .h)))) (idy := (.o (.i .h))) (ds := (aC aI (a' :: s')).flatten) (by rfl) (by rfl) (by rfl) (by rfl) (by rw [cZ (z := 3) nB]; rfl) (by omega) (by simp at hTl; omega) ?_; conv => whnf
       refine Qg ?_
       refine WSt.app_oneL (id := (.o (.o (.o .h)))) (ds := (aC aI (a' :: s')).flatten) (r := aI ⟨(kd : Int), (k : Int).tmod n, (k : Int).tdiv n⟩) (len := (s'.length + 1)) (st := 1) (by rfl) (by rfl) (by rfl) (by rfl) (by rfl) (by rfl) (by rw [cZ (z := 3) nB]; rfl) (by rfl) (by rfl) (by simp at hTl; omega) (by rfl) ?_; conv => whnf
       refine Qg ?_
       refine WCall.borrow1 iP (.o (.o (.o .h))) (.cells false (((aC aI (a' :: s')).flatten.map fun d => Cell.o d 1) ++ (aI ⟨(kd : Int), (k : Int).tmod n, (k : Int).tdiv n⟩).map fun d => Cell.o d 2) 3) (.cons (Fz.grown (ds := (aC aI (a' :: s')).flatten) (r := aI ⟨(kd : Int), (k : Int).tmod n, (k : Int).tdiv n⟩) (s1 := 1) (s2 := 2) (fun h => h) (T.get_set_same _ _ _) rfl (by omega) (gP (a' :: s') _) (by rw [aD]; simp) (dJ _) (aB _)) .nil) trivial rfl rfl ?_; conv => whnf
       refine Qg ?_
       refine WB.mk (fun hb => ?_) (fun hb => ?_) <;> conv => whnf
       ·subst hb
        refine Qg ?_
        refine WSt.app_first (r := aI ⟨(kd : Int), (k : Int).tmod n, (k : Int).tdiv n⟩) (by rfl) (.inl rfl) (by rfl) (by rfl) (by rfl) (by rfl) ?_; conv => whnf
        refine Qg ?_
        refine Again.to (k + 1, [⟨(kd : Int), (k : Int).tmod n, (k : Int).tdiv n⟩]) (show 16 - (k + 1) < 16 - k by omega) ⟨(show ((k + 1 : Nat) : Int) <= n * n by omega), (show CanP n (a' :: s') [⟨(kd : Int), (k : Int).tmod n, (k : Int).tdiv n⟩] from CanP.nil.snoc hkk ⟨c1, c2⟩ ⟨t1, t2⟩ hp), (show 1 <= 16 * (kd - 1) + (k + 1) by omega), (Nat.le_trans hCm (Nat.zero_le _))⟩ (show 7 <= 12 by omega) ?_
        refine Shr.of ?_ ?_ rfl rfl
        ·(repeat' first | exact Rel.e | refine Rel.some ?_ ?_ ?_ | refine Rel.none ?_ ?_ | refine Rel.ee ?_ ?_)
         all_goals show Fz _ _ _ _
         all_goals first | exact Fy | exact .pu (dD _) | exact .pu (aB _) | exact iK (Ql rfl) _ (Ql rfl)
        ·(repeat' first | exact Rel.e | refine Rel.some ?_ ?_ ?_ | refine Rel.none ?_ ?_ | refine Rel.ee ?_ ?_)
         all_goals first
          | exact Ro aY
          | exact Ro aX
          | exact Ro (aQ (.pu (aB _)) (.pu trivial))
          | exact Ro (ShC.G dR a' s')
          | (refine Ro (ShC.same fun c hc => ?_); obtain ⟨d, hd, rfl⟩ := List.mem_map.1 hc; exact .pu (aF.1 (dR _) d hd))
       ·refine Qg ?_
        refine Again.to (k + 1, []) (show 16 - (k + 1) < 16 - k by omega) ⟨(show ((k + 1 : Nat) : Int) <= n * n by omega), hC, (Nat.zero_le _), hCm⟩ (show 7 <= 7 by omega) ?_
        refine Shr.of ?_ ?_ rfl rfl
        ·(repeat' first | exact Rel.e | refine Rel.some ?_ ?_ ?_ | refine Rel.none ?_ ?_ | refine Rel.ee ?_ ?_)
         all_goals show Fz _ _ _ _
         all_goals first | exact Fy | exact .pu (dD _) | exact .pu (aB _) | exact iK (Ql rfl) _ (Ql rfl)
        ·(repeat' first | exact Rel.e | refine Rel.some ?_ ?_ ?_ | refine Rel.none ?_ ?_ | refine Rel.ee ?_ ?_)
         all_goals first
          | exact Ro aY
          | exact Ro aX
          | exact Ro (aQ (.pu (aB _)) (.pu trivial))
          | exact Ro (ShC.G dR a' s')
     | cons a s =>
       refine Qg ?_
       refine WSt.app_slEL (id := (.i (.o (.i .h)))) (idy := (.o (.i .h))) (ds := (aC aI (a' :: s')).flatten) (by rfl) (by rfl) (by rfl) (by rfl) (by rw [cZ (z := 3) nB]; rfl) (by omega) (by simp at hTl; omega) ?_; conv => whnf
       refine Qg ?_
       refine WSt.app_oneL (id := (.i (.o (.i .h)))) (ds := (aC aI (a' :: s')).flatten) (r := aI ⟨(kd : Int), (k : Int).tmod n, (k : Int).tdiv n⟩) (len := (s'.length + 1)) (st := 1) (by rfl) (by rfl) (by rfl) (by rfl) (by rfl) (by rfl) (by rw [cZ (z := 3) nB]; rfl) (by rfl) (by rfl) (by simp at hTl; omega) (by rfl) ?_; conv => whnf
       refine Qg ?_
       refine WCall.borrow1 iP (.i (.o (.i .h))) (.cells false (((aC aI (a' :: s')).flatten.map fun d => Cell.o d 1) ++ (aI ⟨(kd : Int), (k : Int).tmod n, (k : Int).tdiv n⟩).map fun d => Cell.o d 2) 3) (.cons (Fz.grown (ds := (aC aI (a' :: s')).flatten) (r := aI ⟨(kd : Int), (k : Int).tmod n, (k : Int).tdiv n⟩) (s1 := 1) (s2 := 2) (fun h => h) (T.get_set_same _ _ _) rfl (by omega) (gP (a' :: s') _) (by rw [aD]; simp) (dJ _) (aB _)) .nil) trivial rfl rfl ?_; conv => whnf
       refine Qg ?_
       refine WB.mk (fun hb => ?_) (fun hb => ?_) <;> conv => whnf
       ·subst hb
        refine Qg ?_
        refine WSt.app_one (id := (.i (.i (.o .h)))) (ds := (aC aI (a :: s)).flatten) (r := aI ⟨(kd : Int), (k : Int).tmod n, (k : Int).tdiv n⟩) (by rfl) (by rfl) (by rfl) (by rfl) (by rfl) (by rfl) (by rw [cZ (z := 3) nB]; rfl) (by rfl) (by rfl) (by simp at hCl; omega) (by rfl) ?_; conv => whnf
        refine Qg ?_
        refine Again.to (k + 1, (a :: (s ++ [⟨(kd : Int), (k : Int).tmod n, (k : Int).tdiv n⟩]))) (show 16 - (k + 1) < 16 - k by omega) ⟨(show ((k + 1 : Nat) : Int) <= n * n by omega), (show CanP n (a' :: s') (a :: (s ++ [⟨(kd : Int), (k : Int).tmod n, (k : Int).tdiv n⟩])) from hC.snoc hkk ⟨c1, c2⟩ ⟨t1, t2⟩ hp), (by have h := hCl; rw [List.length_cons] at h; show (s ++ [_]).length + 1 <= _; rw [List.length_append, List.length_singleton]; omega), (by have h := hCm; rw [List.length_cons] at h; show _ <= (s ++ [_]).length + 1; rw [List.length_append, List.length_singleton]; omega)⟩ (show 12 <= 12 by omega) ?_
        refine Shr.of ?_ ?_ rfl rfl
        ·show Rel _ _ ((.n (.n (.n (.n .e (some (.sl (.o (.i .h)) 0 (s'.length + 1) s'.length 3)) .e) none (.n .e (some (.i .i64 (kd : Int))) .e)) (some (.lst 1 (aC qJ ws))) (.n (.n .e (some (.i .i64 w)) .e) none .e)) none (.n (.n (.n .e (some (.i .i64 i)) .e) (some (.pt (.o .h) 0 0)) (.n .e (some (.i .i64 ((k + 1 : Nat) : Int))) .e)) (some (.pt .h 0 0)) (.n (.n .e (some ((xI (.i (.i (.o .h))) 3 (a :: (s ++ [⟨(kd : Int), (k : Int).tmod n, (k : Int).tdiv n⟩]))))) .e) (some (.pt (.i .h) 0 0)) .e))) : Ev.T D) _
         rw [jY]
         (repeat' first | exact Rel.e | refine Rel.some ?_ ?_ ?_ | refine Rel.none ?_ ?_ | refine Rel.ee ?_ ?_)
         all_goals show Fz _ _ _ _
         all_goals first | exact Fy | exact .pu (dD _) | exact .pu (aB _) | exact iK (Ql rfl) _ (Ql rfl)
        ·show Rel _ _ ((.n (.n .e (some (jH)) (.n .e (some ((Ev.C.cells false ((aC aI (a' :: s')).flatten.map fun d => Cell.o d s'.length) (s'.length + 1)))) .e)) (some (fK n coin box ls cs)) (.n .e (some (gZ n coin box (.lst 3 (aC aI L)) .ns)) (.n (.n .e (Bo aI (a :: (s ++ [⟨(kd : Int), (k : Int).tmod n, (k : Int).tdiv n⟩]))) .e) none .e))) : Ev.T Ev.C) _
         rw [kB]
         (repeat' first | exact Rel.e | refine Rel.some ?_ ?_ ?_ | refine Rel.none ?_ ?_ | refine Rel.ee ?_ ?_)
         all_goals first
          | exact Ro aY
          | exact Ro aX
          | exact Ro (aQ (.pu (aB _)) (.pu trivial))
          | exact Ro (ShC.G dR a' s')
          | (refine Ro (ShC.grown (by omega) (aF.2 fun d hd => ?_)); rcases List.mem_append.1 hd with hd | hd <;> first | exact aF.1 (fE dR _) d hd | exact aF.1 (dR _) d hd)
       ·refine Qg ?_
        refine Again.to (k + 1, (a :: s)) (show 16 - (k + 1) < 16 - k by omega) ⟨(show ((k + 1 : Nat) : Int) <= n * n by omega), hC, (by have h := hCl; rw [List.length_cons] at h; show s.length + 1 <= _; omega), hCm⟩ (show 12 <= 12 by omega) ?_
        refine Shr.of ?_ ?_ rfl rfl
        ·(repeat' first | exact Rel.e | refine Rel.some ?_ ?_ ?_ | refine Rel.none ?_ ?_ | refine Rel.ee ?_ ?_)
         all_goals show Fz _ _ _ _
         all_goals first | exact Fy | exact .pu (dD _) | exact .pu (aB _) | exact iK (Ql rfl) _ (Ql rfl)
        ·(repeat' first | exact Rel.e | refine Rel.some ?_ ?_ ?_ | refine Rel.none ?_ ?_ | refine Rel.ee ?_ ?_)
         all_goals first
          | exact Ro aY
          | exact Ro aX
          | exact Ro (aQ (.pu (aB _)) (.pu trivial))
          | exact Ro (ShC.G dR a' s')
          | exact Ro (ShC.G dR a s)
    ·have hk16 : k <= 16 := by omega
     cases C with
     | nil =>
       refine Qg ?_
       refine Again.to (kd + 1, []) (show 3 - (kd + 1) < 3 - kd by omega) ⟨(show 1 <= kd + 1 by omega), (show kd + 1 <= 3 by omega), hC, (by show ([] : List Ln).length <= 16 * (kd + 1 - 1); have h := hCl; omega)⟩ (by simp only []; exact rO (by decide) hCm) ?_
       refine Shr.of ?_ ?_ rfl rfl
       ·(repeat' first | exact Rel.e | refine Rel.some ?_ ?_ ?_ | refine Rel.none ?_ ?_ | refine Rel.ee ?_ ?_)
        all_goals show Fz _ _ _ _
        all_goals first | exact Fy | exact .pu (dD _) | exact .pu (aB _) | exact iK (Ql rfl) _ (Ql rfl)
       ·(repeat' first | exact Rel.e | refine Rel.some ?_ ?_ ?_ | refine Rel.none ?_ ?_ | refine Rel.ee ?_ ?_)
        all_goals first
         | exact Ro aY
         | exact Ro aX
         | exact Ro (aQ (.pu (aB _)) (.pu trivial))
         | exact Ro (ShC.G dR a' s')
     | cons a s =>
       refine Qg ?_
       refine Again.to (kd + 1, (a :: s)) (show 3 - (kd + 1) < 3 - kd by omega) ⟨(show 1 <= kd + 1 by omega), (show kd + 1 <= 3 by omega), hC, (by show (a :: s).length <= 16 * (kd + 1 - 1); have h := hCl; omega)⟩ (by simp only []; exact rO (by decide) hCm) ?_
       refine Shr.of ?_ ?_ rfl rfl
       ·(repeat' first | exact Rel.e | refine Rel.some ?_ ?_ ?_ | refine Rel.none ?_ ?_ | refine Rel.ee ?_ ?_)
        all_goals show Fz _ _ _ _
        all_goals first | exact Fy | exact .pu (dD _) | exact .pu (aB _) | exact iK (Ql rfl) _ (Ql rfl)
       ·(repeat' first | exact Rel.e | refine Rel.some ?_ ?_ ?_ | refine Rel.none ?_ ?_ | refine Rel.ee ?_ ?_)
        all_goals first
         | exact Ro aY
         | exact Ro aX
         | exact Ro (aQ (.pu (aB _)) (.pu trivial))
         | exact Ro (ShC.G dR a' s')
         | exact Ro (ShC.G dR a s)
   ·refine Qg ?_
    refine ⟨rfl, rfl, (show 7 <= (qC (.i (.i .h)) (.o (.o (.i .h))) C0).nat by cases C0 <;> simp [qC, Pos.nat]), RnF.turn (z' := Sp n coin box ls cs ws L (a' :: s') i w C0) (B := fun id => id.nat < 7) ?_ (fun id h => h) (fun id h => h) (Nat.le_refl _) (hrest C0 hC0 (by omega))⟩
    refine ShrB.of ?_ ?_ rfl rfl
    ·(repeat' first | exact Rel.e | refine Rel.some ?_ ?_ ?_ | refine Rel.none ?_ ?_ | refine Rel.ee ?_ ?_)
     all_goals show Fz _ _ _ _
     all_goals first | exact Fy | exact .pu (dD _) | exact Fz.G C0 (show ¬ (11 : Nat) < 7 by omega) (fun c h => h) nB dR
    ·(repeat' first | exact Rel.e | refine Rel.some ?_ ?_ ?_ | refine Rel.none ?_ ?_ | refine Rel.ee ?_ ?_)
     all_goals first
      | exact ⟨show _ < 7 by simp [Pos.nat], aY⟩
      | exact ⟨show _ < 7 by simp [Pos.nat], aX⟩
      | exact ⟨show _ < 7 by simp [Pos.nat], aQ (.pu (aB _)) (.pu trivial)⟩
      | exact ⟨show _ < 7 by simp [Pos.nat], ShC.G dR _ _⟩
theorem WSt.app_vN {sl : Ev.T D} {ob : Ev.T Ev.C} {nx : Pos} {lg : Option (Ev.T Bool)} {K : X -> Prop} {d id : Pos} {z : Nat} {x y : RX} (hx : bE sl x = some (.sl id 0 0 0 z)) (hox : ob.get id = some (.cells false [] 1)) (hy : bE sl y = some (.lst z []))
 (h : Gu lg id fun lg => dL sl ob nx lg d K (.sl id 0 0 0 z)) : WSt (.app d z x y) ⟨sl, ob, nx, lg⟩ K := by
 obtain ⟨l1, e1, h⟩ := jT h
 obtain ⟨h2, h3⟩ := aV h
 refine ⟨_, ?_, h3⟩
 show fO d z x y sl ob nx lg = _
 unfold fO
 rw [hx, hy]
 have hb : Nat.beq (List.length (List.flatten ([] : List (List D)))) (Nat.mul 0 z) = true := by simp
 simp only [uK, hb, cond_true, Bool.and_self, wX, List.length_nil, hox, Nat.beq_refl, e1]
 exact h2
theorem WSt.app_vE {sl : Ev.T D} {ob : Ev.T Ev.C} {nx : Pos} {lg : Option (Ev.T Bool)} {K : X -> Prop} {d id : Pos} {z : Nat} {x y : RX} {es : List (List D)} (hx : bE sl x = some (.sl id 0 0 0 z)) (hox : ob.get id = some (.cells false [] 1)) (hy : bE sl y = some (.lst z es)) (hz : ∀ r ∈ es, r.length = z) (hn : 0 < es.length) (hlen : es.length <= 2147483648)
 (h : Lm lg id fun lg => T.setK id (.cells false (es.flatten.map fun d => Cell.o d 1) 2) ob fun ob => dL sl ob nx lg d K (.sl id 0 es.length 1 z)) : WSt (.app d z x y) ⟨sl, ob, nx, lg⟩ K := by
 have hfl : es.flatten.length = es.length * z := by
  clear hlen hy h hn
  induction es with
  | nil => simp
  | cons r es ih => simp [ih (fun r h => hz r (by simp [h])), hz r (by simp), Nat.add_mul]; omega
 obtain ⟨l1, e1, h⟩ := nH h
 rw [T.setK_eq] at h
 obtain ⟨h2, h3⟩ := aV h
 refine ⟨_, ?_, h3⟩
 show fO d z x y sl ob nx lg = _
 unfold fO
 rw [hx, hy]
 obtain ⟨k, hk⟩ : ∃ k, es.length = k + 1 := ⟨es.length - 1, by omega⟩
 rw [hk] at hlen h2
 have hle : Nat.ble (Nat.add 0 (Nat.succ k)) 2147483648 = true := Nat.ble_eq_true_of_le (by simpa using hlen)
 have hb : Nat.beq (List.length (List.flatten es)) (Nat.mul (k + 1) z) = true := by rw [hfl, hk]; simp
 have hm : Nat.add 0 (Nat.mul 0 z) = 0 := by show 0 + 0 * z = 0; simp
 simp only [uK, hk, hb, cond_true, wX, Nat.beq_refl, Bool.true_and, hle, hox, hm, zI, bP, jG, e1, T.setK_eq]
 have e3 : Nat.add 0 (Nat.succ k) = k + 1 := by show 0 + (k + 1) = k + 1; omega
 rw [e3]
 exact h2
theorem zN {β : Type} (st : Nat) (mk : D -> Cell) (s2 : Nat) (hs : s2 <= st) : ∀ (r' r : List D) (k : List Cell -> Option β), r.length = r'.length -> zE st mk r' (r.map fun d => Cell.o d s2) k = k (r'.map mk)
 | [], [], k, _ => rfl
 | [], d :: r, k, h => by simp at h
 | d' :: r', [], k, h => by simp at h
 | d' :: r', d :: r, k, h => by
   show (bif Nat.ble s2 st then zE st mk r' (r.map fun d => Cell.o d s2) (fun l => k (mk d' :: l)) else none) = _
   rw [Nat.ble_eq_true_of_le hs, cond_true, zN st mk s2 hs r' r _ (by simpa using h)]
   rfl
theorem wM {β : Type} (st : Nat) (mk : D -> Cell) (new : List D) : ∀ (pre rest : List Cell) (k : List Cell -> Option β), eP st mk new pre.length (pre ++ rest) k = zE st mk new rest fun l => k (pre ++ l)
 | [], rest, k => rfl
 | c :: pre, rest, k => by
   show eP st mk new pre.length (pre ++ rest) (fun l => k (c :: l)) = _
   rw [wM st mk new pre rest]
   rfl
theorem xU {β : Type} (st s2 : Nat) (hs : s2 <= st) : ∀ (r : List D) (k : List D -> Option β), fA st r.length (r.map fun d => Cell.o d s2) k = k r
 | [], k => rfl
 | d :: r, k => by
   show (bif Nat.ble s2 st then fA st r.length (r.map fun d => Cell.o d s2) (fun ds => k (d :: ds)) else none) = _
   rw [Nat.ble_eq_true_of_le hs, cond_true, xU st s2 hs r]
section
variable {sl : Ev.T D} {ob : Ev.T Ev.C} {nx : Pos} {lg : Option (Ev.T Bool)} {K : X -> Prop}
theorem wSt.ldnL {d id : Pos} {off st s1 s2 cur z : Nat} {ds r : List D} {cs : List Cell} {ro : Bool} {x : RX} (hx : bE sl x = some (.pt id off st)) (ho : ob.get id = some (.cells ro cs cur)) (hcs : cs = (ds.map fun d => Cell.o d s1) ++ r.map fun d => Cell.o d s2) (hoff : off = ds.length) (hz : r.length = z) (hs : s2 <= st) (h : Gu lg id fun lg => dL sl ob nx lg d K (.ag r)) : wSt (step (.ldn d x z) sl ob nx lg) K := by
 subst hcs hoff hz
 obtain ⟨l1, e1, h⟩ := jT h
 obtain ⟨h2, h3⟩ := aV h
 refine wSt.ok ?_ h3
 show pE d x r.length sl ob nx lg = _
 unfold pE
 rw [hx]
 have hd : eZ ds.length ((ds.map fun d => Cell.o d s1) ++ r.map fun d => Cell.o d s2) = r.map fun d => Cell.o d s2 := by
  rw [cE, show ds.length = (ds.map fun d => Cell.o d s1).length by simp, List.drop_left]
 simp only [ho, hd, xU st s2 hs, e1]
 exact h2
theorem wSt.stL {id : Pos} {off st s1 s2 cur z : Nat} {ds r r' : List D} {cs : List Cell} {v : D} {x y : RX} (hx : bE sl x = some (.pt id off st)) (hy : bE sl y = some v) (hv : nT v = some r') (ho : ob.get id = some (.cells false cs cur)) (hcs : cs = (ds.map fun d => Cell.o d s1) ++ r.map fun d => Cell.o d s2) (hoff : off = ds.length) (hz : r'.length = z) (hr : r.length = r'.length) (hs : s2 <= st) (hcur : cur = st + 1) (h : Lm lg id fun lg => T.setK id (.cells false ((ds.map fun d => Cell.o d s1) ++ r'.map fun d => Cell.o d st) cur) ob fun ob => K ⟨sl, ob, nx, lg⟩) : wSt (step (.st x y z) sl ob nx lg) K := by
 subst hcs hoff hz hcur
 obtain ⟨l1, e1, h⟩ := nH h
 rw [T.setK_eq] at h
 refine wSt.ok ?_ h
 show xL x y r'.length sl ob nx lg = _
 unfold xL
 rw [hx, hy]
 simp only [ho, hv]
 show (bif Nat.beq r'.length r'.length then (bif Nat.beq (Nat.succ st) (st + 1) then eP st (fun d => Cell.o d st) r' ds.length _ _ else _) else none) = _
 rw [Nat.beq_refl, cond_true, show Nat.beq (Nat.succ st) (st + 1) = true from Nat.beq_refl _, cond_true, show ds.length = (ds.map fun d => Cell.o d s1).length by simp, wM, zN st _ s2 hs r' r _ hr]
 unfold pC
 rw [e1]
 show (T.setK id _ ob fun ob => some ⟨sl, ob, nx, l1⟩ : Option X) = _
 rw [T.setK_eq]
end
structure HI (n : Int) (T L : List Ln) : Prop where
 len : L.length = T.length
 poss : dW T = true
 rd : iY n L T = true
 lok : ∀ l ∈ L, cL n l = true
theorem AM {n : Int} {ls T : List Ln} : iY n ls T = true ↔ T.length = ls.length /\ ∀ i, i < T.length -> No n (ls.getD i default) (T.getD i default) = true := by
 unfold iY
 rw [Bool.and_eq_true, decide_eq_true_iff, List.all_eq_true]
 constructor
 ·rintro ⟨h1, h2⟩; exact ⟨h1, fun i hi => h2 i (List.mem_range.2 hi)⟩
 ·rintro ⟨h1, h2⟩; exact ⟨h1, fun i hi => h2 i (List.mem_range.1 hi)⟩
theorem HI.nil {n : Int} : HI n [] [] := ⟨rfl, rfl, rfl, fun l h => by cases h⟩
theorem HI.snoc {n : Int} {T L : List Ln} (h : HI n T L) {l l' : Ln} (hk : l.k = 1 \/ l.k = 2) (hc : 0 <= l.c /\ l.c < n) (ht : 0 <= l.t /\ l.t < n) (hp : dW (T ++ [l]) = true) (ha : pV l' l = true) (ho : cL n l' = true) : HI n (T ++ [l]) (L ++ [l']) := by
 refine ⟨by rw [List.length_append, List.length_append, h.len]; rfl, hp, ?_, fun x hx => ?_⟩
 ·have hr := h.rd
  rw [AM] at hr ⊢
  refine ⟨by rw [List.length_append, List.length_append, h.len]; rfl, fun i hi => ?_⟩
  rw [List.length_append, List.length_singleton] at hi
  by_cases e : i = T.length
  ·subst e
   rw [cW T l, <- h.len, cW L l']
   unfold No
   simp only [Bool.and_eq_true, aP]
   exact ⟨by omega, by omega, by omega, ha⟩
  ·have hi2 : i < T.length := by omega
   rw [SameTo.app T l i hi2, SameTo.app L l' i (by rw [h.len]; exact hi2)]
   exact hr.2 i hi2
 ·rcases List.mem_append.1 hx with hx | hx
  ·exact h.lok x hx
  ·rw [List.mem_singleton.1 hx]; exact ho
theorem sI (l : Ln) : pV l l = true := by unfold pV; simp
def RT : RC := SM (OI (eQ (HJ (eQ (eQ (eQ (eQ Mq)))))))
def UX : RC := eQ (eQ RT)
def HO : RC := eQ (eQ (eQ WQ))
def PU : RC := eQ (eQ (eQ (eQ HO)))
def ON : RC := eQ PU
def Kq : RC := eQ ON
def NP : RC := eQ Kq
def Wi (n coin box : Int) (ls : List Ln) (cs : List Ct) (ws : List Int) (s : Nat × List Ln × List Ln) : X := match s with
 | (i, T, L) => ⟨(.n (.n (.n (.n .e (some (xI (.o (.i .h)) 3 T)) .e) none .e) (some (.lst 1 (aC qJ ws))) .e) none (.n (.n (.n .e (some (.i .i64 (i : Int))) .e) (some (.pt (.o .h) 0 0)) .e) (some (.pt .h 0 0)) (.n .e (some (.pt (.i .h) 0 0)) .e))), (.n (.n .e (some (jH)) (.n .e (Bo aI T) .e)) (some (fK n coin box ls cs)) (.n .e (some (gZ n coin box (.lst 3 (aC aI L)) .ns)) .e)), qC (.o (.o .h)) (.i (.i .h)) T, none⟩
def Wh (n : Int) (s : Nat × List Ln × List Ln) : Prop := s.1 <= 8 /\ s.2.1.length <= s.1 /\ HI n s.2.1 s.2.2
def OQ (s : Nat × List Ln × List Ln) : Nat := 9 - s.1
def Ho (n coin box : Int) (ls : List Ln) (cs : List Ct) (ws : List Int) (s : Nat × List Ln × List Ln) (K' : Ex -> X -> Prop) : Ex -> X -> Prop := OP 1 (Px Try.prog 175 UX (IQ (Wi n coin box ls cs ws) (Wh n) OQ s K'))
def VY (n coin box : Int) (ls : List Ln) (cs : List Ct) (ws : List Int) (T L : List Ln) : X := ⟨(.n (.n (.n (.n .e (some (.lst 3 (aC aI T))) .e) none .e) (some (.lst 1 (aC qJ ws))) .e) none (.n (.n .e (some (.pt (.o .h) 0 0)) .e) (some (.pt .h 0 0)) (.n .e (some (.pt (.i .h) 0 0)) .e))), (.n (.n .e (some (jH)) .e) (some (fK n coin box ls cs)) (.n .e (some (gZ n coin box (.lst 3 (aC aI L)) .ns)) .e)), .o (.o .h), none⟩
def PX (n coin box : Int) (ls : List Ln) (cs : List Ct) (ws : List Int) (Z : X) : Prop := Z.lg = none /\ 4 <= Z.nx.nat /\ ∃ T L : List Ln, T.length <= 8 /\ HI n T L /\ ShrB (fun id => id.nat < 4) Z (VY n coin box ls cs ws T L)
def wA (n coin box : Int) (ls : List Ln) (cs : List Ct) (ws : List Int) (l l' : Ln) (i : Nat) (w : Int) : X := ⟨(.n (.n (.n (.n (.n .e (some (.pt (.i (.i .h)) 0 0)) .e) (some (.sl (.o (.i .h)) 0 1 0 3)) .e) none .e) (some (.lst 1 (aC qJ ws))) (.n (.n .e (some (.i .i64 w)) .e) none .e)) none (.n (.n (.n .e (some (.i .i64 (i : Int))) .e) (some (.pt (.o .h) 0 0)) .e) (some (.pt .h 0 0)) (.n .e (some (.pt (.i .h) 0 0)) (.n .e (some (.pt (.o (.o .h)) 0 0)) .e)))), (.n (.n (.n .e (some (.cells false ((aI l').map fun d => Cell.o d 0) 1)) .e) (some (jH)) (.n .e (some (.cells false ((aI l).map fun d => Cell.o d 0) 1)) .e)) (some (fK n coin box ls cs)) (.n .e (some (gZ n coin box (.lst 3 (aC aI [])) .ns)) (.n .e (some (gZ n coin box (.lst 3 (aC aI [])) .ns)) .e))), (.o (.o (.o .h))), none⟩
def vR (n coin box : Int) (ls : List Ln) (cs : List Ct) (ws : List Int) (a' : Ln) (s' L : List Ln) (l l' : Ln) (i : Nat) (w : Int) : X := ⟨(.n (.n (.n (.n (.n .e (some (.pt (.i (.o (.o .h))) 0 0)) .e) (some (.sl (.o (.i .h)) 0 (s'.length + 1 + 1) (s'.length + 1) 3)) .e) none .e) (some (.lst 1 (aC qJ ws))) (.n (.n .e (some (.i .i64 w)) .e) none .e)) none (.n (.n (.n .e (some (.i .i64 (i : Int))) .e) (some (.pt (.o .h) 0 0)) .e) (some (.pt .h 0 0)) (.n .e (some (.pt (.i .h) 0 0)) (.n .e (some (.pt (.i (.i .h)) 0 0)) .e)))), (.n (.n .e (some (jH)) (.n .e (some (.cells false (((aC aI (a' :: s')).flatten.map fun d => Cell.o d s'.length) ++ (aI l).map fun d => Cell.o d (s'.length + 1)) (s'.length + 1 + 1))) .e)) (some (fK n coin box ls cs)) (.n (.n (.n .e (some (gZ n coin box (.lst 3 (aC aI L)) .ns)) .e) none .e) (some (gZ n coin box (.lst 3 (aC aI L)) .ns)) (.n .e (some (.cells false ((aI l').map fun d => Cell.o d 0) 1)) .e))), (.o (.i (.o .h))), none⟩
theorem Cw (n coin box : Int) (ls : List Ln) (cs : List Ct) (ws : List Int) (l l' : Ln) (i : Nat) (w : Int) (hn : 1 <= n /\ n <= 4) (hHI : HI n ([] : List Ln) ([] : List Ln)) (hTi : ([] : List Ln).length <= i) (hi7 : i <= 7) (hk : l.k = 1 \/ l.k = 2) (hc : 0 <= l.c /\ l.c < n) (ht : 0 <= l.t /\ l.t < n) (hp : dW (([] : List Ln) ++ [l]) = true) (hag : pV l' l = true) (hok : cL n l' = true) (K' : Ex -> X -> Prop) : Rn Try.prog 175 NP (wA n coin box ls cs ws l l' i w) (Ho n coin box ls cs ws (i, ([] : List Ln), ([] : List Ln)) K') := by
 have hol : cL n l = true := by
  unfold cL
  simp only [Bool.and_eq_true, aP]
  omega
 have iM := Ao n coin box (([] : List Ln) ++ [l']) [] hn (by simp; ) (by
  rw [List.all_eq_true]
  intro x hx
  rcases List.mem_append.1 hx with hx | hx
  ·exact hHI.lok x hx
  ·rw [List.mem_singleton.1 hx]; exact hok)
 unfold CT at iM
 conv => whnf
 refine Qg ?_
 refine WSt.app_vN (id := (.o (.o (.o .h)))) (by rfl) (by rfl) (by rfl) ?_; conv => whnf
 refine Qg ?_
 refine WSt.app_oneL (id := (.o (.o (.o .h)))) (ds := ([] : List D)) (r := aI l') (len := 0) (st := 0) (by rfl) (by rfl) (by rfl) (by rfl) (by rfl) (by rfl) (by rfl) (by rfl) (by rfl) (by omega) (by rfl) ?_; conv => whnf
 refine Qg ?_
 refine WCall.borrow1 iM (.o (.o (.o .h))) (.cells false ((([] : List D).map fun d => Cell.o d 0) ++ (aI l').map fun d => Cell.o d 1) 2) (.cons (.ag (.cons (.pu trivial) (.cons (.pu trivial) (.cons (.pu trivial) (.cons (Fz.grown (ds := ([] : List D)) (r := aI l') (s1 := 0) (s2 := 1) (fun h => h) (T.get_set_same _ _ _) rfl (by omega) (by simp [aC]) (by rw [aD]; simp [aD]) (dJ _) (aB _)) (.cons .ns .nil)))))) .nil) trivial rfl rfl ?_; conv => whnf
 refine Qg ?_
 refine WB.dec (fun h => ?_) (fun h => ?_) <;> conv => whnf
 ·refine Qg ?_
  refine And.intro (show InR .i64 (((0 + 1 : Nat) : Int) - 1) from InR.i64 (by omega) (by omega)) ?_; conv => whnf
  refine Qg ?_
  refine And.intro (show InR .i64 (((1 : Nat) : Int) - 1) from InR.i64 (by omega) (by omega)) ?_; conv => whnf
  refine Qg ?_
  refine WSt.ixsY (m := 0) (by rfl) (by rfl) (by omega) ?_; conv => whnf
  refine Qg ?_
  refine WSt.ixsY (m := 0) (by rfl) (by rfl) (by omega) ?_; conv => whnf
  refine Qg ?_
  refine Again.to (i + 1, [l], ([] : List Ln) ++ [l]) (show 9 - (i + 1) < 9 - i by omega) ⟨(show i + 1 <= 8 by omega), (by show [l].length <= i + 1; rw [List.length_singleton]; omega), (show HI n (([] : List Ln) ++ [l]) (([] : List Ln) ++ [l]) from hHI.snoc hk hc ht hp (sI l) hol)⟩ (show 4 <= 7 by omega) ?_
  refine Shr.of ?_ ?_ rfl rfl
  ·(repeat' first | exact Rel.e | refine Rel.some ?_ ?_ ?_ | refine Rel.none ?_ ?_ | refine Rel.ee ?_ ?_)
   all_goals show Fz _ _ _ _
   all_goals first | exact Fy | exact .pu (dD _)
  ·(repeat' first | exact Rel.e | refine Rel.some ?_ ?_ ?_ | refine Rel.none ?_ ?_ | refine Rel.ee ?_ ?_)
   all_goals first
    | exact Ro aY
    | exact Ro aX
    | exact Ro (aQ (Fz.grown (ds := ([] : List D)) (r := aI l) (s1 := 0) (s2 := 1) (show ¬ (8 : Nat) < 7 by omega) rfl rfl (by omega) (by simp [aC]) (by rw [aD]; simp [aD]) (dJ _) (aB _)) (.pu trivial))
    | (refine Ro (ShC.same fun c hc => ?_); obtain ⟨d, hd, rfl⟩ := List.mem_map.1 hc; exact .pu (aF.1 (dR _) d hd))
    | (refine Ro (ShC.grown (by omega) (aF.2 fun d hd => ?_)); rcases List.mem_append.1 hd with hd | hd <;> first | exact aF.1 (fE dR _) d hd | exact aF.1 (dR _) d hd)
 ·refine Qg ?_
  refine Again.to (i + 1, [l], ([] : List Ln) ++ [l']) (show 9 - (i + 1) < 9 - i by omega) ⟨(show i + 1 <= 8 by omega), (by show [l].length <= i + 1; rw [List.length_singleton]; omega), (show HI n (([] : List Ln) ++ [l]) (([] : List Ln) ++ [l']) from hHI.snoc hk hc ht hp hag hok)⟩ (show 4 <= 7 by omega) ?_
  refine Shr.of ?_ ?_ rfl rfl
  ·(repeat' first | exact Rel.e | refine Rel.some ?_ ?_ ?_ | refine Rel.none ?_ ?_ | refine Rel.ee ?_ ?_)
   all_goals show Fz _ _ _ _
   all_goals first | exact Fy | exact .pu (dD _)
  ·(repeat' first | exact Rel.e | refine Rel.some ?_ ?_ ?_ | refine Rel.none ?_ ?_ | refine Rel.ee ?_ ?_)
   all_goals first
    | exact Ro aY
    | exact Ro aX
    | exact Ro (aQ (Fz.grown (ds := ([] : List D)) (r := aI l') (s1 := 0) (s2 := 1) (show ¬ (8 : Nat) < 7 by omega) rfl rfl (by omega) (by simp [aC]) (by rw [aD]; simp [aD]) (dJ _) (aB _)) (.pu trivial))
    | (refine Ro (ShC.same fun c hc => ?_); obtain ⟨d, hd, rfl⟩ := List.mem_map.1 hc; exact .pu (aF.1 (dR _) d hd))
    | (refine Ro (ShC.grown (by omega) (aF.2 fun d hd => ?_)); rcases List.mem_append.1 hd with hd | hd <;> first | exact aF.1 (fE dR _) d hd | exact aF.1 (dR _) d hd)
theorem Cc (n coin box : Int) (ls : List Ln) (cs : List Ct) (ws : List Int) (a' : Ln) (s' L : List Ln) (l l' : Ln) (i : Nat) (w : Int) (hn : 1 <= n /\ n <= 4) (hHI : HI n (a' :: s') L) (hLl : 0 < L.length /\ L.length <= 8) (hTi : (a' :: s').length <= i) (hi7 : i <= 7) (hk : l.k = 1 \/ l.k = 2) (hc : 0 <= l.c /\ l.c < n) (ht : 0 <= l.t /\ l.t < n) (hp : dW ((a' :: s') ++ [l]) = true) (hag : pV l' l = true) (hok : cL n l' = true) (K' : Ex -> X -> Prop) : Rn Try.prog 175 NP (vR n coin box ls cs ws a' s' L l l' i w) (Ho n coin box ls cs ws (i, (a' :: s'), L) K') := by
 have hol : cL n l = true := by
  unfold cL
  simp only [Bool.and_eq_true, aP]
  omega
 have iM := Ao n coin box (L ++ [l']) [] hn (by simp; omega) (by
  rw [List.all_eq_true]
  intro x hx
  rcases List.mem_append.1 hx with hx | hx
  ·exact hHI.lok x hx
  ·rw [List.mem_singleton.1 hx]; exact hok)
 unfold CT at iM
 have hsl : s'.length + 1 <= i := by have h := hTi; rw [List.length_cons] at h; exact h
 have hLr : (aC aI L).length <= 8 := by rw [aD]; exact hLl.2
 have hy1 : Int.ofNat ((aC aI L).length + 1) - 1 = ((aC aI L).length : Int) := by show (((aC aI L).length + 1 : Nat) : Int) - 1 = _; omega
 have ht1 : Int.ofNat (s'.length + 1 + 1) - 1 = ((s'.length + 1 : Nat) : Int) := by show ((s'.length + 1 + 1 : Nat) : Int) - 1 = _; omega
 conv => whnf
 refine Qg ?_
 refine WSt.app_vE (id := (.o (.i (.o .h)))) (es := aC aI L) (by rfl) (by rfl) (by rfl) (dJ L) (by rw [aD]; omega) (by rw [aD]; omega) ?_; conv => whnf
 refine Qg ?_
 refine WSt.app_oneL (id := (.o (.i (.o .h)))) (ds := (aC aI L).flatten) (r := aI l') (len := (aC aI L).length) (st := 1) (by rfl) (by rfl) (by rfl) (by rfl) (by rfl) (by rfl) (by rw [cZ (z := 3) nB, aD]) (by rfl) (by rfl) (by rw [aD]; omega) (by rfl) ?_; conv => whnf
 refine Qg ?_
 refine WCall.borrow1 iM (.o (.i (.o .h))) (.cells false (((aC aI L).flatten.map fun d => Cell.o d 1) ++ (aI l').map fun d => Cell.o d 2) 3) (.cons (.ag (.cons (.pu trivial) (.cons (.pu trivial) (.cons (.pu trivial) (.cons (Fz.grown (ds := (aC aI L).flatten) (r := aI l') (s1 := 1) (s2 := 2) (fun h => h) (T.get_set_same _ _ _) rfl (by omega) (gP L _) (by rw [aD]; simp [aD]) (dJ _) (aB _)) (.cons .ns .nil)))))) .nil) trivial rfl rfl ?_; conv => whnf
 refine Qg ?_
 refine WB.dec (fun h => ?_) (fun h => ?_) <;> conv => whnf
 ·refine Qg ?_
  rw [hy1]
  refine Qg ?_
  rw [ht1]
  refine Qg ?_
  refine WSt.ixsY (m := (s'.length + 1)) (by rfl) (by rfl) (by omega) ?_; conv => whnf
  refine Qg ?_
  show wSt _ _
  refine wSt.ldnL (ds := (aC aI (a' :: s')).flatten) (r := aI l) (s1 := s'.length) (s2 := (s'.length + 1)) (by rfl) (by rfl) (by rfl) (by rw [cZ (z := 3) nB, List.length_cons]; show 0 + _ = _; omega) (by rfl) (by omega) ?_; conv => whnf
  refine Qg ?_
  refine WSt.ixsY (m := (aC aI L).length) (by rfl) (by rfl) (by omega) ?_; conv => whnf
  refine Qg ?_
  show wSt _ _
  refine wSt.stL (ds := (aC aI L).flatten) (r := aI l') (r' := aI l) (s1 := 1) (s2 := 2) (by rfl) (by rfl) (by rfl) (by rfl) (by rfl) (by rw [cZ (z := 3) nB, aD]; show 0 + _ = _; omega) (by rfl) (by rfl) (by omega) (by rfl) ?_; conv => whnf
  refine Qg ?_
  refine Again.to (i + 1, (a' :: (s' ++ [l])), L ++ [l]) (show 9 - (i + 1) < 9 - i by omega) ⟨(show i + 1 <= 8 by omega), (by show (a' :: (s' ++ [l])).length <= i + 1; have h := hTi; rw [List.length_cons] at h; rw [List.length_cons, List.length_append, List.length_singleton]; omega), (show HI n ((a' :: s') ++ [l]) (L ++ [l]) from hHI.snoc hk hc ht hp (sI l) hol)⟩ (show 7 <= 7 by omega) ?_
  refine Shr.of ?_ ?_ rfl rfl
  ·show Rel _ _ ((.n (.n (.n (.n .e (some (xI (.o (.i .h)) 3 (a' :: (s' ++ [l])))) .e) none .e) (some (.lst 1 (aC qJ ws))) .e) none (.n (.n (.n .e (some (.i .i64 ((i + 1 : Nat) : Int))) .e) (some (.pt (.o .h) 0 0)) .e) (some (.pt .h 0 0)) (.n .e (some (.pt (.i .h) 0 0)) .e))) : Ev.T D) _
   rw [jY]
   (repeat' first | exact Rel.e | refine Rel.some ?_ ?_ ?_ | refine Rel.none ?_ ?_ | refine Rel.ee ?_ ?_)
   all_goals show Fz _ _ _ _
   all_goals first | exact Fy | exact .pu (dD _)
  ·show Rel _ _ ((.n (.n .e (some (jH)) (.n .e (Bo aI (a' :: (s' ++ [l]))) .e)) (some (fK n coin box ls cs)) (.n .e (some (gZ n coin box (.lst 3 (aC aI (L ++ [l]))) .ns)) .e)) : Ev.T Ev.C) _
   rw [kB]
   (repeat' first | exact Rel.e | refine Rel.some ?_ ?_ ?_ | refine Rel.none ?_ ?_ | refine Rel.ee ?_ ?_)
   all_goals first
    | exact Ro aY
    | exact Ro aX
    | exact Ro (aQ (Fz.grown (ds := (aC aI L).flatten) (r := aI l) (s1 := 1) (s2 := 2) (show ¬ (10 : Nat) < 7 by omega) rfl rfl (by omega) (gP L _) (by rw [aD]; simp [aD]) (dJ _) (aB _)) (.pu trivial))
    | (refine Ro (ShC.same fun c hc => ?_); obtain ⟨d, hd, rfl⟩ := List.mem_map.1 hc; exact .pu (aF.1 (dR _) d hd))
    | (refine Ro (ShC.grown (by omega) (aF.2 fun d hd => ?_)); rcases List.mem_append.1 hd with hd | hd <;> first | exact aF.1 (fE dR _) d hd | exact aF.1 (dR _) d hd)
 ·refine Qg ?_
  refine Again.to (i + 1, (a' :: (s' ++ [l])), L ++ [l']) (show 9 - (i + 1) < 9 - i by omega) ⟨(show i + 1 <= 8 by omega), (by show (a' :: (s' ++ [l])).length <= i + 1; have h := hTi; rw [List.length_cons] at h; rw [List.length_cons, List.length_append, List.length_singleton]; omega), (show HI n ((a' :: s') ++ [l]) (L ++ [l']) from hHI.snoc hk hc ht hp hag hok)⟩ (show 7 <= 7 by omega) ?_
  refine Shr.of ?_ ?_ rfl rfl
  ·show Rel _ _ ((.n (.n (.n (.n .e (some (xI (.o (.i .h)) 3 (a' :: (s' ++ [l])))) .e) none .e) (some (.lst 1 (aC qJ ws))) .e) none (.n (.n (.n .e (some (.i .i64 ((i + 1 : Nat) : Int))) .e) (some (.pt (.o .h) 0 0)) .e) (some (.pt .h 0 0)) (.n .e (some (.pt (.i .h) 0 0)) .e))) : Ev.T D) _
   rw [jY]
   (repeat' first | exact Rel.e | refine Rel.some ?_ ?_ ?_ | refine Rel.none ?_ ?_ | refine Rel.ee ?_ ?_)
   all_goals show Fz _ _ _ _
   all_goals first | exact Fy | exact .pu (dD _)
  ·show Rel _ _ ((.n (.n .e (some (jH)) (.n .e (Bo aI (a' :: (s' ++ [l]))) .e)) (some (fK n coin box ls cs)) (.n .e (some (gZ n coin box (.lst 3 (aC aI (L ++ [l']))) .ns)) .e)) : Ev.T Ev.C) _
   rw [kB]
   (repeat' first | exact Rel.e | refine Rel.some ?_ ?_ ?_ | refine Rel.none ?_ ?_ | refine Rel.ee ?_ ?_)
   all_goals first
    | exact Ro aY
    | exact Ro aX
    | exact Ro (aQ (Fz.grown (ds := (aC aI L).flatten) (r := aI l') (s1 := 1) (s2 := 2) (show ¬ (10 : Nat) < 7 by omega) rfl rfl (by omega) (gP L _) (by rw [aD]; simp [aD]) (dJ _) (aB _)) (.pu trivial))
    | (refine Ro (ShC.same fun c hc => ?_); obtain ⟨d, hd, rfl⟩ := List.mem_map.1 hc; exact .pu (aF.1 (dR _) d hd))
    | (refine Ro (ShC.grown (by omega) (aF.2 fun d hd => ?_)); rcases List.mem_append.1 hd with hd | hd <;> first | exact aF.1 (fE dR _) d hd | exact aF.1 (dR _) d hd)
end Go.Ev
end
