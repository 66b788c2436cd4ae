import Derived.Test.YtjgbfnciedkafaaEvUG3
set_option linter.all false
set_option maxHeartbeats 8000000
noncomputable section
namespace Go.Ev
open Go.Proofs
set_option maxRecDepth 100000
theorem vG {B : Bk} {Q T1 T2 : List Ln} (h1 : T1 ∈ jW B Q) (h2 : T2 ∈ jW B Q) (h : cJ B T1 = cJ B T2) : T1 = T2 := by
 unfold jW at h1 h2
 obtain ⟨a, _, rfl⟩ := List.mem_map.1 h1
 obtain ⟨b, _, rfl⟩ := List.mem_map.1 h2
 have hl : ∀ c : Ln, (cJ B (Q ++ [c])).last = c := fun c => by
  show (match (Q ++ [c]).length with
   | 0 => (⟨0, 0, 0⟩ : Ln)
   | i + 1 => (Q ++ [c]).getD i default) = c
  rw [List.length_append, List.length_singleton]
  exact cG Q c
 have := congrArg Mo.last h
 rw [hl, hl] at this
 rw [this]
def Wc {σ : Type} (B : Bk) (Q : List Ln) (k : Nat) (H0 : List (List Ln)) (I : List (List Ln) -> σ -> Prop) (h : List Mo) (t : dQ × (Nat -> Mo) × σ × Bool) : Prop := MOk B t.1 /\ FOk B (Q.length + 1) Q t.2.1 /\ (∃ L0, L0 <+: jW B Q /\ h = L0.map (cJ B) /\ I (H0 ++ L0.flatMap (hU B k)) t.2.2.1) /\ t.2.2.2 = false
def TO {σ : Type} (B : Bk) (Q : List Ln) (k : Nat) (R : σ -> List Ln -> σ -> Bool -> Prop) (t : dQ × (Nat -> Mo) × σ × Bool) (a : Mo) (t' : dQ × (Nat -> Mo) × σ × Bool) (g : Bool) : Prop :=
 MOk B t'.1 /\ FOk B (Q.length + 1) Q t'.2.1 /\ (∃ T', T' ∈ jW B Q /\ a = cJ B T' /\ Fld R (hU B k T') t.2.2.1 t'.2.2.1 g) /\ t'.2.2.2 = !g
theorem HQ {σ : Type} {B : Bk} {Q : List Ln} {k : Nat} {R : σ -> List Ln -> σ -> Bool -> Prop} : ∀ (L : List (List Ln)), (∀ x ∈ L, x ∈ jW B Q) -> ∀ {t t' : dQ × (Nat -> Mo) × σ × Bool} {g : Bool}, MOk B t.1 -> FOk B (Q.length + 1) Q t.2.1 -> t.2.2.2 = false -> Fld (TO B Q k R) (L.map (cJ B)) t t' g -> MOk B t'.1 /\ FOk B (Q.length + 1) Q t'.2.1 /\ Fld R (L.flatMap (hU B k)) t.2.2.1 t'.2.2.1 g /\ t'.2.2.2 = !g
 | [], _, t, t', g, h1, h2, h3, h => by
   cases h
   exact ⟨h1, h2, .nil, by rw [h3]; rfl⟩
 | x :: L, hL, t, t', g, h1, h2, h3, h => by
   cases h with
   | stop h =>
     obtain ⟨q1, q2, ⟨T', q3, q4, q5⟩, q6⟩ := h
     have := vG (hL x (by simp)) q3 q4
     subst this
     exact ⟨q1, q2, by rw [List.flatMap_cons]; exact q5.cut _, q6⟩
   | go h k2 =>
     obtain ⟨q1, q2, ⟨T', q3, q4, q5⟩, q6⟩ := h
     have := vG (hL x (by simp)) q3 q4
     subst this
     obtain ⟨r1, r2, r3, r4⟩ := HQ L (fun y hy => hL y (by simp [hy])) q1 q2 (by simpa using q6) k2
     exact ⟨r1, r2, by rw [List.flatMap_cons]; exact q5.app r3, r4⟩
section
variable {σ : Type} {S : Tns σ} {B : Bk} {I : List (List Ln) -> σ -> Prop} {R : σ -> List Ln -> σ -> Bool -> Prop}
theorem HB {k : Nat} {Q : List Ln} {L0 : List (List Ln)} {T' : List Ln} {H0 : List (List Ln)} (h : L0 ++ [T'] <+: jW B Q) (hp : H0 ++ (jW B Q).flatMap (hU B k) <+: hU B B.ls.length []) : H0 ++ L0.flatMap (hU B k) ++ hU B k T' <+: hU B B.ls.length [] := by
 refine List.IsPrefix.trans ?_ hp
 rw [List.append_assoc]
 refine (List.prefix_append_right_inj _).2 ?_
 obtain ⟨r, hr⟩ := h
 rw [<- hr, List.flatMap_append, List.flatMap_append]
 simp
theorem SJ (H : TnsOk S B I R) {k : Nat} (ih : GE S B I R k) {Q : List Ln} (hQ : okT B Q) (hk : Q.length + (k + 1) = B.ls.length) (hr : ∀ i, i < Q.length + 1 -> dU B.cs (fC B.box B.coin Q i) = true) (H0 : List (List Ln)) (hp0 : H0 ++ (jW B Q).flatMap (hU B k) <+: hU B B.ls.length []) :
 MnsOk (Cq S B Q) (.o (.i (.i .h))) (Wc B Q k H0 I) (TO B Q k R) ((jW B Q).map (cJ B)) := by
 refine ⟨by simp [Pos.nat], Ci H.kp, ?_, ?_⟩
 ·rintro h ⟨M, F, s, f⟩ a ⟨M', F', s', f'⟩ hpre ⟨_, _, ⟨L0, hL, rfl, hI⟩, _⟩ ⟨q1, q2, ⟨T', q3, q4, q5⟩, q6⟩
  obtain ⟨T2, hL2, e2⟩ := Bn hL hpre
  have e3 := vG q3 (hL2.subset (by simp)) (q4.symm.trans e2)
  subst e3
  refine ⟨q1, q2, ⟨L0 ++ [T'], hL2, by rw [q4, List.map_append]; rfl, ?_⟩, by simpa using q6⟩
  have h3 := q5.inv (fun h s a s' h0 h1 h2 => H.inv h s a s' h0 h1 h2) (HB hL2 hp0) hI
  rw [List.flatMap_append, List.flatMap_cons, List.flatMap_nil, List.append_nil, <- List.append_assoc]
  exact h3
 ·rintro h ⟨M, F, s, f⟩ ⟨hM, hF, ⟨L0, hL, rfl, hs⟩, hf⟩ a hpre
  obtain ⟨T', hL2, rfl⟩ := Bn hL hpre
  have hT' : T' ∈ jW B Q := hL2.subset (by simp)
  have hf : f = false := hf
  subst hf
  have hM : MOk B M := hM
  have hF : FOk B (Q.length + 1) Q F := hF
  have hs : I (H0 ++ L0.flatMap (hU B k)) s := hs
  obtain ⟨ho, hl⟩ := hQ.step hT'
  have hsame : SameTo Q.length Q T' := by
   unfold jW at hT'
   obtain ⟨a, _, rfl⟩ := List.mem_map.1 hT'
   exact SameTo.app Q a
  have hsame' : SameTo Q.length T' Q := hsame.symm
  obtain ⟨_, _, ⟨M', F', s', g, hM', hF', hFl, rfl, rfl⟩, Hc⟩ := ih T' ho (by omega) (fun i hi => by rw [iX (T' := T') (hsame.le (by omega))]; exact hr i (by omega)) M hM F (by rw [hl]; exact hF.same hsame) _ s (HB hL2 hp0) hs
  have hF2 : FOk B (Q.length + 1) Q F' := by rw [hl] at hF'; exact hF'.same hsame'
  have hR' : ∀ f', f' = !g -> TO B Q k R (M, F, s, false) (cJ B T') (M', F', s', f') g := fun f' e => ⟨hM', hF2, ⟨T', hT', rfl, hFl⟩, e⟩
  refine RndOk.runE (sl0 := Ji B Q) rfl Cg Cm ⟨_, rfl, ?_⟩
  unfold Mns.base bP Cq Ji
  conv => whnf
  refine Qg ?_
  refine ⟨rfl, rfl, _, _, _, _, _, _, rfl, ?_⟩
  conv => whnf
  refine Qg ?_
  refine WCall.fr (obR' := bP (some (.map (bR M'))) (S.o 2 s') (S.o 3 s') (S.o 4 s') (S.o 5 s') (some (eR B)) (S.o 7 s') (some (.cells false [.o (.yl i7) 0] 1)) (some (pN F')) (some (.cells false [.o sD 0] 1)) (S.o 11 s') (some (.cells false ((dW (cJ B Q)).map fun d => Cell.o d 0) 1)) (some (.cells false [.o (.b false) 0] 1)) (some (.lp (Ji B Q) [fW] 34 (uY (aY Try.f136) 0) (uC (aY Try.f136) 0) .busy none)) none (some (.cells false ((dW (cJ B T')).map fun d => Cell.o d 0) 1)) none none none none) Hc BH (H.kp M F s) (by simp [KpL, Kp, Pu, i6, i8, i9, JH, zZ, Pos.nat]) pS (by simp [zZ, Ge, Pos.nat, Pos.succ]) (LgLe.refl _) (fun _ _ => trivial) ?_; conv => whnf
  cases g with
  | true =>
    repeat' ((first | refine Qw ?_ | refine Qd (fun h => ?_) (fun h => ?_)) <;> conv => whnf)
    refine ⟨_, _, _, _, _, _, _, (Cq S B Q).base (M', F', s', false), rfl, rfl, Shr.kp ?_ (Ci H.kp _), (M', F', s', false), hR' _ rfl, rfl⟩
    unfold Mns.base bP Cq Ji
    repeat' first | exact T.le_refl _ | exact T.le_e _ | refine T.le_some ?_ rfl ?_ | refine T.le_same ?_ ?_ | refine T.le_none ?_ ?_
  | false =>
    repeat' ((first | refine Qw ?_ | refine Qd (fun h => ?_) (fun h => ?_)) <;> conv => whnf)
    refine ⟨_, _, _, _, _, _, _, (Cq S B Q).base (M', F', s', true), rfl, rfl, Shr.kp ?_ (Ci H.kp _), (M', F', s', true), hR' _ rfl, rfl⟩
    unfold Mns.base bP Cq Ji
    repeat' first | exact T.le_refl _ | exact T.le_e _ | refine T.le_some ?_ rfl ?_ | refine T.le_same ?_ ?_ | refine T.le_none ?_ ?_
theorem Mx {k : Nat} {Q : List Ln} (h : cT B k Q = false) : hU B k Q = [] := by
 cases k with
 | zero => unfold hU; rw [h]; rfl
 | succ k => unfold hU; rw [h]; rfl
theorem xG {k : Nat} {Q : List Ln} (h : cT B k Q = true) : dU B.cs (cJ B Q) = true := by
 cases k with
 | zero => exact h
 | succ k =>
   rw [CA, Bool.and_eq_true] at h
   exact h.1
theorem Ns (V : VB B) (H : TnsOk S B I R) : ∀ k, GE S B I R k := by
 intro k
 induction k with
 | zero =>
   intro Q hQ hk hr M hM F hF H0 s hpre hs
   have e1 := aC aM B.ls
   have hlen := V.len
   have hmn : (cJ B Q).n = (Q.length : Int) := rfl
   obtain ⟨M1, hM1, Hc⟩ := Ae V 0 M hM Q hQ hk
   refine CallOk.runE Nl (by simp [rD]) (Nat.le_refl _) ?_
   unfold Tns.ob bP rD
   conv => whnf
   cases hcan : cT B 0 Q with
   | false =>
     rw [hcan] at Hc
     repeat' ((first | refine Qw ?_ | refine Qd (fun h => ?_) (fun h => ?_)) <;> conv => whnf)
     refine WCall.of (CallOk.mapAt Hc trivial (id := .h) rfl (show 1 < Pos.nat (.o (.i (.i .h))) from by decide) (mW (by simp [aO, Pu, fJ]))) ?_; conv => whnf
     repeat' ((first | refine Qw ?_ | refine Qd (fun h => ?_) (fun h => ?_)) <;> conv => whnf)
     refine ⟨_, _, ⟨M1, F, s, true, hM1, hF, by rw [Mx hcan]; exact .nil, rfl, rfl⟩, ⟨.inr rfl, ⟨_, rfl, .pu trivial⟩, Shr.kp ?_ (H.kp M1 F s)⟩⟩
     show T.le (bP (some (.map (bR M1))) (S.o 2 s) (S.o 3 s) (S.o 4 s) (S.o 5 s) (some (eR B)) (S.o 7 s) (some (.cells false [.o (.yl i7) 0] 1)) (some (pN F)) (some (.cells false [.o sD 0] 1)) (S.o 11 s) none none none none none none none none none) (bP (some (.map (bR M1))) (S.o 2 s) (S.o 3 s) (S.o 4 s) (S.o 5 s) (some (eR B)) (S.o 7 s) (some (.cells false [.o (.yl i7) 0] 1)) (some (pN F)) (some (.cells false [.o sD 0] 1)) (S.o 11 s) (some _) (some _) none none none none none none none)
     unfold bP
     repeat' first | exact T.le_refl _ | exact T.le_e _ | refine T.le_some ?_ rfl ?_ | refine T.le_same ?_ ?_ | refine T.le_none ?_ ?_
   | true =>
     rw [hcan] at Hc
     repeat' ((first | refine Qw ?_ | refine Qd (fun h => ?_) (fun h => ?_)) <;> conv => whnf)
     refine WCall.of (CallOk.mapAt Hc trivial (id := .h) rfl (show 1 < Pos.nat (.o (.i (.i .h))) from by decide) (mW (by simp [aO, Pu, fJ]))) ?_; conv => whnf
     repeat' ((first | refine Qw ?_ | refine Qd (fun h => ?_) (fun h => ?_)) <;> conv => whnf)
     refine WSt.ixaN (m := Q.length) rfl rfl hmn (by omega) ?_; conv => whnf
     refine wSt.stM (F := F) (m := cJ B Q) (q := Q.length) (by rfl) (by rfl) (by rfl) (by rfl) (by omega) ?_
     have hF1 := hF.put (by omega)
     have hrt := xG hcan
     have hfull := hF1.full (by omega)
     have hex : hU B 0 Q = [Q] := by unfold hU; rw [hcan]; rfl
     rw [hfull] at hF1 ⊢
     obtain ⟨g, _, ⟨s', hRs, rfl⟩, HR⟩ := H.rnd H0 s hs Q (by rw [<- hex]; exact hpre) M1 hM1
     have hfl : Fld R (hU B 0 Q) s s' g := by
      rw [hex]
      cases g with
      | true => exact .go hRs .nil
      | false => exact .stop hRs
     conv => whnf
     repeat' ((first | refine Qw ?_ | refine Qd (fun h => ?_) (fun h => ?_)) <;> conv => whnf)
     refine WRnd.fr (obR' := bP (some (.map (bR M1))) (S.o 2 s') (S.o 3 s') (S.o 4 s') (S.o 5 s') (some (eR B)) (S.o 7 s') (some (.cells false [.o (.yl i7) 0] 1)) (some (pN (vP B.box B.coin Q Q.length))) (some (.cells false [.o sD 0] 1)) (S.o 11 s') (some (.cells false ((dW (cJ B Q)).map fun d => Cell.o d 0) 1)) (some (.cells false [.o (.b false) 0] 1)) none none none none none none none) HR (by simp [i7, zZ, Pos.nat]) BH (H.kp _ _ s) (by simp only [KpL, and_true]; exact jZ _ _) pS (by simp [zZ, Pos.nat]) (LgLe.refl _) (fun _ _ => trivial) ?_; conv => whnf
     repeat' ((first | refine Qw ?_ | refine Qd (fun h => ?_) (fun h => ?_)) <;> conv => whnf)
     refine ⟨_, _, ⟨M1, vP B.box B.coin Q Q.length, s', g, hM1, hF1.le (by omega), hfl, rfl, rfl⟩, ⟨.inr rfl, ⟨_, rfl, .pu trivial⟩, Shr.kp ?_ (H.kp M1 _ s')⟩⟩
     show T.le (bP (some (.map (bR M1))) (S.o 2 s') (S.o 3 s') (S.o 4 s') (S.o 5 s') (some (eR B)) (S.o 7 s') (some (.cells false [.o (.yl i7) 0] 1)) (some (pN (vP B.box B.coin Q Q.length))) (some (.cells false [.o sD 0] 1)) (S.o 11 s') none none none none none none none none none) (bP (some (.map (bR M1))) (S.o 2 s') (S.o 3 s') (S.o 4 s') (S.o 5 s') (some (eR B)) (S.o 7 s') (some (.cells false [.o (.yl i7) 0] 1)) (some (pN (vP B.box B.coin Q Q.length))) (some (.cells false [.o sD 0] 1)) (S.o 11 s') (some _) (some _) none none none none none none none)
     unfold bP
     repeat' first | exact T.le_refl _ | exact T.le_e _ | refine T.le_some ?_ rfl ?_ | refine T.le_same ?_ ?_ | refine T.le_none ?_ ?_
 | succ k ih =>
   intro Q hQ hk hr M hM F hF H0 s hpre hs
   have e1 := aC aM B.ls
   have hlen := V.len
   have hmn : (cJ B Q).n = (Q.length : Int) := rfl
   obtain ⟨M1, hM1, Hc⟩ := Ae V (k + 1) M hM Q hQ hk
   refine CallOk.runE Nl (by simp [rD]) (Nat.le_refl _) ?_
   unfold Tns.ob bP rD
   conv => whnf
   cases hcan : cT B (k + 1) Q with
   | false =>
     rw [hcan] at Hc
     repeat' ((first | refine Qw ?_ | refine Qd (fun h => ?_) (fun h => ?_)) <;> conv => whnf)
     refine WCall.of (CallOk.mapAt Hc trivial (id := .h) rfl (show 1 < Pos.nat (.o (.i (.i .h))) from by decide) (mW (by simp [aO, Pu, fJ]))) ?_; conv => whnf
     repeat' ((first | refine Qw ?_ | refine Qd (fun h => ?_) (fun h => ?_)) <;> conv => whnf)
     refine ⟨_, _, ⟨M1, F, s, true, hM1, hF, by rw [Mx hcan]; exact .nil, rfl, rfl⟩, ⟨.inr rfl, ⟨_, rfl, .pu trivial⟩, Shr.kp ?_ (H.kp M1 F s)⟩⟩
     show T.le (bP (some (.map (bR M1))) (S.o 2 s) (S.o 3 s) (S.o 4 s) (S.o 5 s) (some (eR B)) (S.o 7 s) (some (.cells false [.o (.yl i7) 0] 1)) (some (pN F)) (some (.cells false [.o sD 0] 1)) (S.o 11 s) none none none none none none none none none) (bP (some (.map (bR M1))) (S.o 2 s) (S.o 3 s) (S.o 4 s) (S.o 5 s) (some (eR B)) (S.o 7 s) (some (.cells false [.o (.yl i7) 0] 1)) (some (pN F)) (some (.cells false [.o sD 0] 1)) (S.o 11 s) (some _) (some _) none none none none none none none)
     unfold bP
     repeat' first | exact T.le_refl _ | exact T.le_e _ | refine T.le_some ?_ rfl ?_ | refine T.le_same ?_ ?_ | refine T.le_none ?_ ?_
   | true =>
     rw [hcan] at Hc
     repeat' ((first | refine Qw ?_ | refine Qd (fun h => ?_) (fun h => ?_)) <;> conv => whnf)
     refine WCall.of (CallOk.mapAt Hc trivial (id := .h) rfl (show 1 < Pos.nat (.o (.i (.i .h))) from by decide) (mW (by simp [aO, Pu, fJ]))) ?_; conv => whnf
     repeat' ((first | refine Qw ?_ | refine Qd (fun h => ?_) (fun h => ?_)) <;> conv => whnf)
     refine WSt.ixaN (m := Q.length) rfl rfl hmn (by omega) ?_; conv => whnf
     refine wSt.stM (F := F) (m := cJ B Q) (q := Q.length) (by rfl) (by rfl) (by rfl) (by rfl) (by omega) ?_
     have hF1 := hF.put (by omega)
     have hrt := xG hcan
     have hex : hU B (k + 1) Q = (jW B Q).flatMap (hU B k) := by
      show (bif cT B (k + 1) Q then (jW B Q).flatMap (hU B k) else []) = _
      rw [hcan]; rfl
     have cN := uT B (cJ B Q) (.mp .h)
     generalize Mz F Q.length (cJ B Q) = F1 at hF1 ⊢
     have hr2 : ∀ i, i < Q.length + 1 -> dU B.cs (fC B.box B.coin Q i) = true := fun i hi => by
      by_cases e : i = Q.length
      ·subst e; exact hrt
      ·exact hr i (by omega)
     conv => whnf
     repeat' ((first | refine Qw ?_ | refine Qf cN ?_ | refine Qd (fun h => ?_) (fun h => ?_)) <;> conv => whnf)
     refine Rn.le (a := ⟨Ji B Q, bP (some (.map (bR M1))) (S.o 2 s) (S.o 3 s) (S.o 4 s) (S.o 5 s) (some (eR B)) (S.o 7 s) (some (.cells false [.o (.yl i7) 0] 1)) (some (pN F1)) (some (.cells false [.o sD 0] 1)) (S.o 11 s) (some (.cells false ((dW (cJ B Q)).map fun d => Cell.o d 0) 1)) (some (.cells false [.o (.b false) 0] 1)) none none none none none none none, .o (.i (.i .h)), none⟩) ?_ ?_
     ·obtain ⟨_, _, ⟨⟨M', F', s', f'⟩, g, Fd, rfl, rfl⟩, Cn⟩ := MR (Cq S B Q) (.o (.i (.i .h))) _ _ V (by omega) (SJ H ih hQ hk hr2 H0 (by rw [<- hex]; exact hpre)) (M1, F1, s, false) ⟨hM1, hF1, ⟨[], List.nil_prefix, rfl, by simpa using hs⟩, rfl⟩
      obtain ⟨q1, q2, q3, q4⟩ := HQ (jW B Q) (fun _ h => h) hM1 hF1 rfl Fd
      have q1 : MOk B M' := q1
      have q2 : FOk B (Q.length + 1) Q F' := q2
      have q3' : Fld R (hU B (k + 1) Q) s s' g := by rw [hex]; exact q3
      have q4 : f' = !g := q4
      cases g with
      | true =>
        have q4 : f' = false := q4
        subst q4
        refine Rn.rf rfl rfl (Cn.lower (by decide)) rfl (by simp) ?_; conv => whnf
        refine Qg ?_
        refine ⟨_, _, ⟨M', F', s', true, q1, q2.le (by omega), q3', rfl, rfl⟩, ⟨.inr rfl, ⟨_, rfl, .pu trivial⟩, Shr.kp ?_ (H.kp M' F' s')⟩⟩
        show T.le (bP (some (.map (bR M'))) (S.o 2 s') (S.o 3 s') (S.o 4 s') (S.o 5 s') (some (eR B)) (S.o 7 s') (some (.cells false [.o (.yl i7) 0] 1)) (some (pN F')) (some (.cells false [.o sD 0] 1)) (S.o 11 s') none none none none none none none none none) (bP (some (.map (bR M'))) (S.o 2 s') (S.o 3 s') (S.o 4 s') (S.o 5 s') (some (eR B)) (S.o 7 s') (some (.cells false [.o (.yl i7) 0] 1)) (some (pN F')) (some (.cells false [.o sD 0] 1)) (S.o 11 s') (some _) (some _) (some _) none none none none none none)
        unfold bP
        repeat' first | exact T.le_refl _ | exact T.le_e _ | refine T.le_some ?_ rfl ?_ | refine T.le_same ?_ ?_ | refine T.le_none ?_ ?_
      | false =>
        have q4 : f' = true := q4
        subst q4
        refine Rn.rf rfl rfl (Cn.lower (by decide)) rfl (by simp) ?_; conv => whnf
        refine Qg ?_
        refine ⟨_, _, ⟨M', F', s', false, q1, q2.le (by omega), q3', rfl, rfl⟩, ⟨.inr rfl, ⟨_, rfl, .pu trivial⟩, Shr.kp ?_ (H.kp M' F' s')⟩⟩
        show T.le (bP (some (.map (bR M'))) (S.o 2 s') (S.o 3 s') (S.o 4 s') (S.o 5 s') (some (eR B)) (S.o 7 s') (some (.cells false [.o (.yl i7) 0] 1)) (some (pN F')) (some (.cells false [.o sD 0] 1)) (S.o 11 s') none none none none none none none none none) (bP (some (.map (bR M'))) (S.o 2 s') (S.o 3 s') (S.o 4 s') (S.o 5 s') (some (eR B)) (S.o 7 s') (some (.cells false [.o (.yl i7) 0] 1)) (some (pN F')) (some (.cells false [.o sD 0] 1)) (S.o 11 s') (some _) (some _) (some _) none none none none none none)
        unfold bP
        repeat' first | exact T.le_refl _ | exact T.le_e _ | refine T.le_some ?_ rfl ?_ | refine T.le_same ?_ ?_ | refine T.le_none ?_ ?_
     ·refine X.le.mk ?_ ?_ (Nat.le_refl _) rfl rfl
      ·unfold Ji
       exact gC
      ·unfold bP
       repeat' first | exact T.le_refl _ | exact T.le_e _ | refine T.le_some ?_ rfl ?_ | refine T.le_same ?_ ?_ | refine T.le_none ?_ ?_
end
def Ph : T Bool := .n (.n (.n (.n .e (some true) .e) (some true) .e) (some true) (.n (.n .e (some true) .e) (some true) .e)) (some true) (.n (.n (.n .e (some true) .e) (some true) .e) (some true) (.n (.n .e (some true) .e) (some true) .e))
theorem GW {id : Pos} (h : id.nat < 12) : wrtn (some Ph) id := by
 rcases qS h with rfl | rfl | rfl | rfl | rfl | rfl | rfl | rfl | rfl | rfl | rfl <;> rfl
theorem Js : LgLe (some .e) (some Ph) := by
 refine ⟨⟨fun h => (by cases h), fun h => (by cases h)⟩, fun id h => ?_, fun id h => ?_⟩
 ·obtain ⟨b, hb⟩ := h
  rw [T.get_e] at hb; cases hb
 ·have h : (T.e : T Bool).get id = some true := h
  rw [T.get_e] at h; cases h
section
variable {σ : Type} {S : Tns σ} {B : Bk} {I : List (List Ln) -> σ -> Prop} {R : σ -> List Ln -> σ -> Bool -> Prop}
def Tns.bob (S : Tns σ) (B : Bk) (M : dQ) (s : σ) : T Ev.C := bP (some (.map (bR M))) (S.o 2 s) (S.o 3 s) (S.o 4 s) (S.o 5 s) (some (eR B)) (S.o 7 s) none none none (S.o 11 s) none none none none none none none none none
def Tns.bob0 (S : Tns σ) (B : Bk) (M : dQ) (s : σ) : T Ev.C := bP (some (.map (bR M))) (S.o 2 s) (S.o 3 s) (S.o 4 s) (S.o 5 s) (some (eR B)) (S.o 7 s) none none none none none none none none none none none none none
theorem Iw (M : dQ) (F : Nat -> Mo) (s : σ) : T.le (S.bob B M s) (S.ob B M F s) := by
 unfold Tns.bob Tns.ob bP
 repeat' first | exact T.le_refl _ | exact T.le_e _ | refine T.le_same ?_ ?_ | refine T.le_none ?_ ?_
theorem Nu (H : TnsOk S B I R) (M : dQ) (s : σ) : KpO 12 (S.bob B M s) := fun id c h => H.kp M (fun _ => Ei) s id c (Iw M _ s id c h)
theorem EQ (V : VB B) (H : TnsOk S B I R) (M : dQ) (hM : MOk B M) (s0 : σ) (i0 : I [] s0) (h11 : S.o 11 s0 = some .hole) :
 ∃ v ob', (∃ M' s' g, MOk B M' /\ Fld R (hU B B.ls.length []) s0 s' g /\ v = .tp [] /\ ob' = S.bob B M' s') /\ CallOk Try.prog p136.ix [.yl i7, .pt i6 0 0] (S.bob0 B M s0) i8 none v ob' zZ none := by
 have cO := DA B (.mp .h)
 obtain ⟨_, _, ⟨M', F', s', g, hM', _, hFl, rfl, rfl⟩, Hc⟩ := Ns V H B.ls.length [] (okT.nil B) (by simp) (fun i h => absurd h (Nat.not_lt_zero _)) M hM (fun _ => Ei) ⟨fun q h => absurd h (Nat.not_lt_zero _), fun _ _ => rfl⟩ [] s0 (List.prefix_refl _) i0
 refine CallOk.runE Rj (by simp) (by simp [i8, zZ, Pos.nat]) ?_
 unfold Tns.bob0 bP
 conv => whnf
 repeat' ((first | refine Qz ?_ | refine Qf cO ?_) <;> conv => whnf)
 have Hf := Hc.frame (nx2 := zZ) (obR := S.ob B M (fun _ => Ei) s0) (obR' := S.ob B M' F' s') (lg := some .e) (lg' := some Ph) (T.le_refl _) (H.kp M _ s0) (by simp [rD, KpL, Kp, Pu, dW, i6, i8, i9, JH, zZ, Pos.nat]) ⟨fun _ _ _ h => h, fun id h => by
  have e1 : ∀ (M : dQ) (F : Nat -> Mo) (s : σ), (S.ob B M F s).get id = none := fun M F s => by
   cases hg : (S.ob B M F s).get id with
   | none => rfl
   | some c =>
     have := (H.kp M F s id c hg).1
     have h : 12 <= id.nat := h
     omega
  rw [e1, e1]⟩ (Nat.le_refl _) Js (fun id h => GW h)
 have Hh := CallOk.hole (r := vS) (nx := vS) (ob := bP (some (.map (bR M))) (S.o 2 s0) (S.o 3 s0) (S.o 4 s0) (S.o 5 s0) (some (eR B)) (S.o 7 s0) (some (.cells false [.o (.yl i7) 0] 1)) (some (pN fun _ => Ei)) (some (.cells false [.o sD 0] 1)) none none none none none none none none none none) (by
  have he : T.set vS .hole (bP (some (.map (bR M))) (S.o 2 s0) (S.o 3 s0) (S.o 4 s0) (S.o 5 s0) (some (eR B)) (S.o 7 s0) (some (.cells false [.o (.yl i7) 0] 1)) (some (pN fun _ => Ei)) (some (.cells false [.o sD 0] 1)) none none none none none none none none none none) = S.ob B M (fun _ => Ei) s0 := by
   unfold Tns.ob
   rw [h11]
   rfl
  rw [he]
  exact Hf) (Nat.le_refl _) (by simp [vS, zZ, Pos.nat]) (GW (by simp [vS, Pos.nat]))
 refine WCall.of Hh ?_; conv => whnf
 refine Qg ?_
 refine ⟨_, _, ⟨M', s', g, hM', hFl, rfl, rfl⟩, ⟨.inl rfl, ⟨_, rfl, .pu trivial⟩, Shr.kp (Iw M' F' s') (Nu H M' s')⟩⟩
end
theorem SB (a : Int) (L : List Int) (hL : L.length <= 100000) : PureF Try.prog p121.ix [.i .i64 a, .lst 1 (ints L)] (.i .i64 (L.foldl min a)) := by
 have e1 := aR L
 refine PureF.run Qx (by simp) (by simp [aO, Pu, aJ]) ?_; conv => whnf
 refine Qg ?_
 refine Rn.loop (fun j : Nat => ⟨(.n (.n (.n (.n .e (some (.lst 1 (ints L))) .e) none .e) none (.n (.n .e (some (.i .i64 (j : Int))) .e) none .e)) (some (.i .i64 ((L.take j).foldl min a))) (.n (.n (.n .e (some (.i .i64 ((ints L).length : Int))) .e) none .e) none .e)), .e, .h, none⟩) (fun j => j <= L.length) (fun j => L.length - j) 0 ?_ ?_ ?_
 ·(first | (refine X.le.mk ?_ ?_ (Nat.le_refl _) rfl rfl) | skip) <;> (repeat' first | exact T.le_e _ | refine T.le_some ?_ ?_ ?_ | refine T.le_none ?_ ?_ | rfl)
 ·omega
 intro j hj
 conv => whnf
 refine Qg ?_
 refine WB.dec (fun h => ?_) (fun h => ?_) <;> conv => whnf
 ·have hlt : j < L.length := by omega
  refine Qg ?_
  refine Again.to (j + 1) (by omega) (by omega) (Nat.le_refl _) ?_
  (refine Shr.of ?_ ?_ rfl rfl) <;> (repeat' first | exact Rel.e | refine Rel.some ?_ ?_ ?_ | refine Rel.none ?_ ?_) <;> (try first | exact Fx | (refine Ro (ShC.same ?_); (repeat' first | exact ShC.nl | refine ShC.cn ?_ ?_) <;> exact Fx))
  all_goals (refine Fz.i ?_; exact (jJ min a hlt).symm)
 ·refine Qg ?_
  exact Fin.i rfl (by rw [List.take_of_length_le (by omega)])
theorem Sw (l : List Int) (h0 : 0 < l.length) (hL : l.length <= 100000) : PureF Try.prog p122.ix [.lst 1 (ints l)] (.i .i64 (l.foldl max (l.getD 0 0))) := by
 have e1 := aR l
 refine PureF.run Se (by simp) (by simp [aO, Pu, aJ]) ?_; conv => whnf
 repeat' ((first | refine Qw ?_ | refine Qd (fun h => ?_) (fun h => ?_)) <;> conv => whnf)
 refine Rn.loop (fun j : Nat => ⟨(.n (.n (.n .e (some (.i .i64 ((l.take j).foldl max (l.getD 0 0)))) .e) none .e) (some (.lst 1 (ints l))) (.n (.n .e (some (.i .i64 (j : Int))) .e) none .e)), .e, .h, none⟩) (fun j => 1 <= j /\ j <= l.length) (fun j => l.length - j) 1 ?_ ?_ ?_
 ·have h1 : (l.take 1).foldl max (l.getD 0 0) = l.getD 0 0 := by
   cases l with
   | nil => rfl
   | cons a l => simp
  rw [h1]
  (first | (refine X.le.mk ?_ ?_ (Nat.le_refl _) rfl rfl) | skip) <;> (repeat' first | exact T.le_e _ | refine T.le_some ?_ ?_ ?_ | refine T.le_none ?_ ?_ | rfl)
 ·omega
 rintro j ⟨hj1, hj⟩
 conv => whnf
 refine Qg ?_
 refine WB.dec (fun h => ?_) (fun h => ?_) <;> conv => whnf
 ·have hlt : j < l.length := by omega
  refine Qg ?_
  refine Again.to (j + 1) (by omega) ⟨by omega, by omega⟩ (Nat.le_refl _) ?_
  (refine Shr.of ?_ ?_ rfl rfl) <;> (repeat' first | exact Rel.e | refine Rel.some ?_ ?_ ?_ | refine Rel.none ?_ ?_) <;> (try first | exact Fx | (refine Ro (ShC.same ?_); (repeat' first | exact ShC.nl | refine ShC.cn ?_ ?_) <;> exact Fx))
  all_goals (refine Fz.i ?_; exact (jJ (d := 0) max _ hlt).symm)
 ·refine Qg ?_
  exact Fin.i rfl (by rw [List.take_of_length_le (by omega)])
theorem lO {α β : Type} (f : α -> List β) (n : Nat) : ∀ (l : List α), (∀ x ∈ l, (f x).length <= n) -> (l.flatMap f).length <= l.length * n
 | [], _ => by simp
 | a :: l, h => by
   have h1 := h a (by simp)
   have h2 := lO f n l fun x hx => h x (by simp [hx])
   rw [List.flatMap_cons, List.length_append, List.length_cons, Nat.add_mul]
   omega
theorem Ld (n : Int) (l : Ln) : (nU n l).length <= (BO l).toNat * ((BM n l).toNat * (BJ n l).toNat) := by
 have hT : ∀ a b, (sP n l a b).length <= (BJ n l).toNat := fun a b => by
  unfold sP
  rw [List.length_map, dA, <- Gg]
  omega
 have hC : ∀ a, (sW n l a).length <= (BM n l).toNat * (BJ n l).toNat := fun a => by
  have := lO (fun b => sP n l a b) (BJ n l).toNat (mI (gN l) (nH n l)) fun b _ => hT a b
  rw [dA] at this
  refine Nat.le_trans this (Nat.mul_le_mul_right _ ?_)
  rw [<- Hk]
  omega
 have := lO (fun a => sW n l a) _ (mI (eM l) (nV l)) fun a _ => hC a
 rw [dA] at this
 refine Nat.le_trans this (Nat.mul_le_mul_right _ ?_)
 rw [<- Id]
 omega
def zH (n : Int) : List Ln -> Nat
 | [] => 1
 | l :: ls => (BO l).toNat * ((BM n l).toNat * (BJ n l).toNat) * zH n ls
theorem xA {n : Int} (hn : 1 <= n /\ n <= 4) : ∀ (ls : List Ln) (p : Int), ls.foldl (fun m l => m * jX n l) p = p * (zH n ls : Int)
 | [], p => by simp [zH]
 | l :: ls, p => by
   rw [List.foldl_cons, xA hn ls]
   obtain ⟨s1, s2, s3⟩ := MN hn l
   show p * jX n l * _ = p * (((BO l).toNat * ((BM n l).toNat * (BJ n l).toNat) * zH n ls : Nat) : Int)
   rw [Int.natCast_mul, Int.natCast_mul, Int.natCast_mul, Int.toNat_of_nonneg (by omega), Int.toNat_of_nonneg (by omega), Int.toNat_of_nonneg (by omega)]
   unfold jX
   rw [Int.mul_assoc, Int.mul_assoc (BO l)]
theorem Oc {B : Bk} (V : VB B) : zH B.n B.ls <= 4096 := by
 have h := (fD V.n.1 V.n.2 B.ls).1
 have h2 := V.many
 have h3 : eP B.n B.ls = (zH B.n B.ls : Int) := by
  unfold eP
  rw [xA V.n, Int.one_mul]
 omega
theorem Eb {B : Bk} (V : VB B) : ∀ (k : Nat) (Q : List Ln), Q.length + k = B.ls.length -> (hU B k Q).length <= zH B.n (B.ls.drop Q.length)
 | 0, Q, h => by
   rw [List.drop_eq_nil_of_le (by omega)]
   unfold hU
   cases cT B 0 Q <;> simp [zH]
 | k + 1, Q, h => by
   have hd : B.ls.drop Q.length = B.ls.getD Q.length default :: B.ls.drop (Q.length + 1) := by
    rw [List.drop_eq_getElem_cons (by omega)]
    simp [List.getD, show Q.length < B.ls.length by omega]
   show (bif cT B (k + 1) Q then (jW B Q).flatMap (hU B k) else []).length <= _
   cases cT B (k + 1) Q with
   | false => simp
   | true =>
     rw [hd]
     have h1 := lO (hU B k) (zH B.n (B.ls.drop (Q.length + 1))) (jW B Q) fun T' hT => by
      have hl : T'.length = Q.length + 1 := by
       unfold jW at hT
       obtain ⟨a, _, rfl⟩ := List.mem_map.1 hT
       simp
      have := Eb V k T' (by omega)
      rw [hl] at this
      exact this
     refine Nat.le_trans h1 (Nat.mul_le_mul_right _ ?_)
     unfold jW
     rw [List.length_map]
     exact Nat.le_trans (List.length_filter_le _ _) (Ld _ _)
theorem Ix {B : Bk} (V : VB B) : (hU B B.ls.length []).length <= 4096 := Nat.le_trans (Eb V B.ls.length [] (by simp)) (Oc V)
def MM : List Int -> D
 | [] => .ns
 | _ :: s => .sl vS 0 (s.length + 1) s.length 1
def PL : List Int -> Option Ev.C
 | [] => some .hole
 | a :: s => some (.cells false (((a :: s).map fun n => D.i .i64 n).map fun d => Cell.o d s.length) (s.length + 1))
def bdS : T D := (.n (.n (.n .e (some (.pt (.i .h) 0 0)) .e) none (.n .e (some (.pt (.i (.o .h)) 0 0)) .e)) none (.n (.n (.n .e (some (.fn p136 [] [.pt i6 0 0])) .e) (some (.pt (.o (.o .h)) 0 0)) .e) none .e))
def Di (aft : Nat) (g : Pos) (first caps : List D) : Tns (List Int) where
 o := fun i s => match i with
   | 3 => some (.cells false [.o (.i .i64 (aft : Int)) 0, .o (.fn g first caps) 0] 1)
   | 4 => some (.cells false [.o (.i .i64 0) 0, .o (.i .i64 0) 0] 1)
   | 5 => some (.cells false [.o (MM s) 0] 1)
   | 7 => some (.lp bdS [bE] 28 (uY (aY Try.f88) 0) (uC (aY Try.f88) 0) .ready none)
   | 11 => PL s
   | _ => none
theorem lE (B : Bk) {n : Nat} (h : 1 < n) : KpC n (eR B) := by
 refine KpL.all ?_
 simp [iK, KpL, Kp, Cell.d, Pu, aB, aE, Pos.nat, h]
theorem Cs : ∀ s d, bdS.get s = some d -> Kp 11 d := by
 show TAll (fun _ d => Kp 11 d) bdS
 unfold bdS
 repeat' first | exact TAll.e | refine TAll.some ?_ ?_ ?_ | refine TAll.none ?_ ?_
 all_goals simp [Kp, KpL, i6, Pos.nat]
def RA (B : Bk) (M : dQ) (F : Nat -> Mo) (aft : Nat) (g : Pos) (first caps : List D) : T Ev.C := bP (some (.map (bR M))) none (some (.cells false [.o (.i .i64 (aft : Int)) 0, .o (.fn g first caps) 0] 1)) (some (.cells false [.o (.i .i64 0) 0, .o (.i .i64 0) 0] 1)) none (some (eR B)) (some (.lp bdS [bE] 28 (uY (aY Try.f88) 0) (uC (aY Try.f88) 0) .ready none)) (some (.cells false [.o (.yl i7) 0] 1)) (some (pN F)) (some (.cells false [.o sD 0] 1)) none none none none none none none none none none
section
variable {B : Bk} {aft : Nat} {g : Pos} {first caps : List D} (h1 : aO first) (h2 : aO caps)
include h1 h2
theorem Gq (M : dQ) (F : Nat -> Mo) : KpO 11 (RA B M F aft g first caps) := by
 have k1 := KpL.pu (n := 11) first h1
 have k2 := KpL.pu (n := 11) caps h2
 show TAll (fun id c => id.nat < 11 /\ KpC 11 c) _
 unfold RA bP
 repeat' first | exact TAll.e | refine TAll.some ?_ ?_ ?_ | refine TAll.none ?_ ?_
 all_goals refine ⟨by simp [Pos.nat], ?_⟩
 all_goals first
  | exact hJ
  | exact Cs
  | exact JK (jZ _ _)
  | exact lE B (by omega)
  | (refine KpL.all ?_; simp [KpL, Kp, Cell.d, Pu, sD, k1, k2, i6, i7, i8, i9, JH, Pos.nat])
theorem MG (M : dQ) (F : Nat -> Mo) (s : List Int) {i : Pos} {c : Ev.C} (h : ((Di aft g first caps).ob B M F s).get i = some c) : (i = vS /\ PL s = some c) \/ (i = .i (.o .h) /\ c = .cells false [.o (MM s) 0] 1) \/ (i ≠ vS /\ i ≠ .i (.o .h) /\ (RA B M F aft g first caps).get i = some c) := by
 by_cases e1 : i = vS
 ·subst e1; exact .inl ⟨rfl, h⟩
 by_cases e2 : i = .i (.o .h)
 ·subst e2
  have h : some (.cells false [.o (MM s) 0] 1) = some c := h
  cases h
  exact .inr (.inl ⟨rfl, rfl⟩)
 refine .inr (.inr ⟨e1, e2, ?_⟩)
 by_cases hlt : i.nat < 12
 ·rw [<- h]
  rcases qS hlt with rfl | rfl | rfl | rfl | rfl | rfl | rfl | rfl | rfl | rfl | rfl
  all_goals first
   | rfl
   | exact absurd rfl e1
   | exact absurd rfl e2
 ·have h3 := uS (x1 := none) (x2 := none) (x3 := none) (x4 := none) (x5 := none) (x6 := none) (x7 := none) (x8 := none) (x9 := none) (x10 := none) (x11 := none) (y1 := some (.map (bR M))) (y2 := (Di aft g first caps).o 2 s) (y3 := (Di aft g first caps).o 3 s) (y4 := (Di aft g first caps).o 4 s) (y5 := (Di aft g first caps).o 5 s) (y6 := some (eR B)) (y7 := (Di aft g first caps).o 7 s) (y8 := some (.cells false [.o (.yl i7) 0] 1)) (y9 := some (pN F)) (y10 := some (.cells false [.o sD 0] 1)) (y11 := (Di aft g first caps).o 11 s) (x12 := none) (x13 := none) (x14 := none) (x15 := none) (x16 := none) (x17 := none) (x18 := none) (x19 := none) (x20 := none) (Nat.not_lt.1 hlt)
  have h4 : (bP none none none none none none none none none none none none none none none none none none none none).get i = some c := h3.symm.trans h
  exfalso
  have key : TAll (fun _ _ => False) (bP none none none none none none none none none none none none none none none none none none none none) := by
   unfold bP
   repeat' first | exact TAll.e | refine TAll.none ?_ ?_
  exact key i c h4
theorem Sg (M : dQ) (F : Nat -> Mo) (s : List Int) : KpO 12 ((Di aft g first caps).ob B M F s) := by
 intro id c h
 rcases MG h1 h2 M F s h with ⟨rfl, h⟩ | ⟨rfl, rfl⟩ | ⟨_, _, h⟩
 ·refine ⟨by simp [vS, Pos.nat], ?_⟩
  cases s with
  | nil => cases h; trivial
  | cons a s =>
    cases h
    refine JK (KpL.pu _ (dJ _))
 ·refine ⟨by simp [Pos.nat], KpL.all ?_⟩
  cases s <;> simp [MM, KpL, Kp, Cell.d, Pu, vS, Pos.nat]
 ·obtain ⟨q1, q2⟩ := Gq h1 h2 M F id c h
  exact ⟨by omega, q2.up (by omega)⟩
end
end Go.Ev
end
