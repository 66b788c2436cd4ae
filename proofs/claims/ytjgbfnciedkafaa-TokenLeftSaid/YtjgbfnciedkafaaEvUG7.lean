import Derived.Test.YtjgbfnciedkafaaEvUG5
set_option linter.all false
namespace Go.Ev
open Go.Proofs
set_option maxRecDepth 100000
theorem stp_last {B : Bk} {Q T1 T2 : List Ln} (h1 : T1 ∈ stp B Q) (h2 : T2 ∈ stp B Q) (h : mo1 B T1 = mo1 B T2) : T1 = T2 := by
  unfold stp at h1 h2
  obtain ⟨a, _, rfl⟩ := List.mem_map.1 h1
  obtain ⟨b, _, rfl⟩ := List.mem_map.1 h2
  have hl : ∀ c : Ln, (mo1 B (Q ++ [c])).last = c := fun c => by
    show (match (Q ++ [c]).length with
      | 0 => (⟨0, 0, 0⟩ : Ln)
      | i + 1 => (Q ++ [c]).getD i default) = c
    rw [List.length_append, List.length_singleton]
    exact app_last Q c
  have := congrArg Mo.last h
  rw [hl, hl] at this
  rw [this]
def rdI {σ : Type} (B : Bk) (Q : List Ln) (k : Nat) (H0 : List (List Ln)) (I : List (List Ln) → σ → Prop) (h : List Mo) (t : Memo × (Nat → Mo) × σ × Bool) : Prop := MOk B t.1 ∧ FOk B (Q.length + 1) Q t.2.1 ∧ (∃ L0, L0 <+: stp B Q ∧ h = L0.map (mo1 B) ∧ I (H0 ++ L0.flatMap (exT B k)) t.2.2.1) ∧ t.2.2.2 = false
def rdR {σ : Type} (B : Bk) (Q : List Ln) (k : Nat) (R : σ → List Ln → σ → Bool → Prop) (t : Memo × (Nat → Mo) × σ × Bool) (a : Mo) (t' : Memo × (Nat → Mo) × σ × Bool) (g : Bool) : Prop :=
  MOk B t'.1 ∧ FOk B (Q.length + 1) Q t'.2.1 ∧ (∃ T', T' ∈ stp B Q ∧ a = mo1 B T' ∧ Fld R (exT B k T') t.2.2.1 t'.2.2.1 g) ∧ t'.2.2.2 = !g
theorem rd_fld {σ : Type} {B : Bk} {Q : List Ln} {k : Nat} {R : σ → List Ln → σ → Bool → Prop} : ∀ (L : List (List Ln)), (∀ x ∈ L, x ∈ stp B Q) → ∀ {t t' : Memo × (Nat → Mo) × σ × Bool} {g : Bool}, MOk B t.1 → FOk B (Q.length + 1) Q t.2.1 → t.2.2.2 = false → Fld (rdR B Q k R) (L.map (mo1 B)) t t' g → MOk B t'.1 ∧ FOk B (Q.length + 1) Q t'.2.1 ∧ Fld R (L.flatMap (exT B k)) t.2.2.1 t'.2.2.1 g ∧ t'.2.2.2 = !g
  | [], _, t, t', g, h1, h2, h3, h => by
    cases h
    exact ⟨h1, h2, .nil, by rw [h3]; rfl⟩
  | x :: L, hL, t, t', g, h1, h2, h3, h => by
    cases h with
    | stop h =>
      obtain ⟨q1, q2, ⟨T', q3, q4, q5⟩, q6⟩ := h
      have := stp_last (hL x (by simp)) q3 q4
      subst this
      exact ⟨q1, q2, by rw [List.flatMap_cons]; exact q5.cut _, q6⟩
    | go h k2 =>
      obtain ⟨q1, q2, ⟨T', q3, q4, q5⟩, q6⟩ := h
      have := stp_last (hL x (by simp)) q3 q4
      subst this
      obtain ⟨r1, r2, r3, r4⟩ := rd_fld L (fun y hy => hL y (by simp [hy])) q1 q2 (by simpa using q6) k2
      exact ⟨r1, r2, by rw [List.flatMap_cons]; exact q5.app r3, r4⟩
section
variable {σ : Type} {S : Tns σ} {B : Bk} {I : List (List Ln) → σ → Prop} {R : σ → List Ln → σ → Bool → Prop}
theorem fl_pre {k : Nat} {Q : List Ln} {L0 : List (List Ln)} {T' : List Ln} {H0 : List (List Ln)} (h : L0 ++ [T'] <+: stp B Q) (hp : H0 ++ (stp B Q).flatMap (exT B k) <+: exT B B.ls.length []) : H0 ++ L0.flatMap (exT B k) ++ exT B k T' <+: exT B B.ls.length [] := by
  refine List.IsPrefix.trans ?_ hp
  rw [List.append_assoc]
  refine (List.prefix_append_right_inj _).2 ?_
  obtain ⟨r, hr⟩ := h
  rw [← hr, List.flatMap_append, List.flatMap_append]
  simp
theorem rd_ok (H : TnsOk S B I R) {k : Nat} (ih : ReadOk S B I R k) {Q : List Ln} (hQ : okT B Q) (hk : Q.length + (k + 1) = B.ls.length) (hr : ∀ i, i < Q.length + 1 → rightB B.cs (moR B.box B.coin Q i) = true) (H0 : List (List Ln)) (hp0 : H0 ++ (stp B Q).flatMap (exT B k) <+: exT B B.ls.length []) :
    MnsOk (rdM S B Q) (.o (.i (.i .h))) (rdI B Q k H0 I) (rdR B Q k R) ((stp B Q).map (mo1 B)) := by
  refine ⟨by simp [Pos.nat], rdM_kp H.kp, ?_, ?_⟩
  · rintro h ⟨M, F, s, f⟩ a ⟨M', F', s', f'⟩ hpre ⟨_, _, ⟨L0, hL, rfl, hI⟩, _⟩ ⟨q1, q2, ⟨T', q3, q4, q5⟩, q6⟩
    obtain ⟨T2, hL2, e2⟩ := map_next hL hpre
    have e3 := stp_last q3 (hL2.subset (by simp)) (q4.symm.trans e2)
    subst e3
    refine ⟨q1, q2, ⟨L0 ++ [T'], hL2, by rw [q4, List.map_append]; rfl, ?_⟩, by simpa using q6⟩
    have h3 := q5.inv (fun h s a s' h0 h1 h2 => H.inv h s a s' h0 h1 h2) (fl_pre hL2 hp0) hI
    rw [List.flatMap_append, List.flatMap_cons, List.flatMap_nil, List.append_nil, ← List.append_assoc]
    exact h3
  · rintro h ⟨M, F, s, f⟩ ⟨hM, hF, ⟨L0, hL, rfl, hs⟩, hf⟩ a hpre
    obtain ⟨T', hL2, rfl⟩ := map_next hL hpre
    have hT' : T' ∈ stp B Q := hL2.subset (by simp)
    have hf : f = false := hf
    subst hf
    have hM : MOk B M := hM
    have hF : FOk B (Q.length + 1) Q F := hF
    have hs : I (H0 ++ L0.flatMap (exT B k)) s := hs
    obtain ⟨ho, hl⟩ := hQ.step hT'
    have hsame : SameTo Q.length Q T' := by
      unfold stp at hT'
      obtain ⟨a, _, rfl⟩ := List.mem_map.1 hT'
      exact SameTo.app Q a
    have hsame' : SameTo Q.length T' Q := hsame.symm
    obtain ⟨_, _, ⟨M', F', s', g, hM', hF', hFl, rfl, rfl⟩, Hc⟩ := ih T' ho (by omega) (fun i hi => by rw [moR_same (T' := T') (hsame.le (by omega))]; exact hr i (by omega)) M hM F (by rw [hl]; exact hF.same hsame) _ s (fl_pre hL2 hp0) hs
    have hF2 : FOk B (Q.length + 1) Q F' := by rw [hl] at hF'; exact hF'.same hsame'
    have hR' : ∀ f', f' = !g → rdR B Q k R (M, F, s, false) (mo1 B T') (M', F', s', f') g := fun f' e => ⟨hM', hF2, ⟨T', hT', rfl, hFl⟩, e⟩
    refine RndOk.runE (sl0 := rdS B Q) rfl rc136a0_ok rc136b0_ok ⟨_, rfl, ?_⟩
    unfold Mns.base trL rdM rdS
    conv => whnf
    repeat' first | ((first | with_reducible (first | apply Qt | apply Qu) | refine Qa rfl ?_ | refine Qk rfl ?_ | refine Qb ?_ | refine Qc ?_ | refine Qi ?_ | refine Qj ?_) <;> conv => whnf)
    refine ⟨rfl, rfl, _, _, _, _, _, _, rfl, ?_⟩
    conv => whnf
    repeat' first | ((first | with_reducible (first | apply Qt | apply Qu) | refine Qa rfl ?_ | refine Qk rfl ?_ | refine Qb ?_ | refine Qc ?_ | refine Qi ?_ | refine Qj ?_) <;> conv => whnf)
    refine WCall.fr (obR' := trL (some (.map (mapL M'))) (S.o 2 s') (S.o 3 s') (S.o 4 s') (S.o 5 s') (some (wkCl B)) (S.o 7 s') (some (.cells false [.o (.yl i7) 0] 1)) (some (moC F')) (some (.cells false [.o rdF 0] 1)) (S.o 11 s') (some (.cells false ((moD (mo1 B Q)).map fun d => Cell.o d 0) 1)) (some (.cells false [.o (.b false) 0] 1)) (some (.lp (rdS B Q) [p30] 34 (rfA (bodyC Try.f136) 0) (rfB (bodyC Try.f136) 0) .busy none)) none (some (.cells false ((moD (mo1 B T')).map fun d => Cell.o d 0) 1)) none none none none) Hc trL_le12 (H.kp M F s) (by simp [KpL, Kp, Pu, i6, i8, i9, i10, n12, Pos.nat]) trL_beside12 (by simp [n12, nb0, Pos.nat, Pos.succ]) (LgLe.refl _) (fun _ _ => trivial) ?_; conv => whnf
    cases g with
    | true =>
      repeat' first | ((first | with_reducible (first | apply Qt | apply Qu) | refine Qa rfl ?_ | refine Qk rfl ?_ | refine Qb ?_ | refine Qc ?_ | refine Qi ?_ | refine Qj ?_ | with_reducible (first | refine Qm ?_ | refine Qn ?_ | refine Qo ?_ | refine Qp ?_ | refine WB.nt ?_ | refine WB.nf ?_ | refine WB.dec (fun h => ?_) (fun h => ?_) | refine WB.ndec (fun h => ?_) (fun h => ?_)) | refine WB.mk (fun h => ?_) (fun h => ?_)) <;> conv => whnf)
      refine ⟨_, _, _, _, _, _, _, (rdM S B Q).base (M', F', s', false), rfl, rfl, Shr.kp ?_ (rdM_kp H.kp _), (M', F', s', false), hR' _ rfl, rfl⟩
      unfold Mns.base trL rdM rdS
      repeat' first | exact T.le_refl _ | exact T.le_e _ | refine T.le_some ?_ rfl ?_ | refine T.le_same ?_ ?_ | refine T.le_none ?_ ?_
    | false =>
      repeat' first | ((first | with_reducible (first | apply Qt | apply Qu) | refine Qa rfl ?_ | refine Qk rfl ?_ | refine Qb ?_ | refine Qc ?_ | refine Qi ?_ | refine Qj ?_ | with_reducible (first | refine Qm ?_ | refine Qn ?_ | refine Qo ?_ | refine Qp ?_ | refine WB.nt ?_ | refine WB.nf ?_ | refine WB.dec (fun h => ?_) (fun h => ?_) | refine WB.ndec (fun h => ?_) (fun h => ?_)) | refine WB.mk (fun h => ?_) (fun h => ?_)) <;> conv => whnf)
      refine ⟨_, _, _, _, _, _, _, (rdM S B Q).base (M', F', s', true), rfl, rfl, Shr.kp ?_ (rdM_kp H.kp _), (M', F', s', true), hR' _ rfl, rfl⟩
      unfold Mns.base trL rdM rdS
      repeat' first | exact T.le_refl _ | exact T.le_e _ | refine T.le_some ?_ rfl ?_ | refine T.le_same ?_ ?_ | refine T.le_none ?_ ?_
theorem ex_no {k : Nat} {Q : List Ln} (h : canT B k Q = false) : exT B k Q = [] := by
  cases k with
  | zero => unfold exT; rw [h]; rfl
  | succ k => unfold exT; rw [h]; rfl
theorem can_right {k : Nat} {Q : List Ln} (h : canT B k Q = true) : rightB B.cs (mo1 B Q) = true := by
  cases k with
  | zero => exact h
  | succ k =>
    rw [canT_s, Bool.and_eq_true] at h
    exact h.1
set_option maxHeartbeats 2000000 in
theorem j_read (V : VB B) (H : TnsOk S B I R) : ∀ k, ReadOk S B I R k := by
  intro k
  induction k with
  | zero =>
    intro Q hQ hk hr M hM F hF H0 s hpre hs
    have e1 := rows_length lnD B.ls
    have hlen := V.len
    have hmn : (mo1 B Q).n = (Q.length : Int) := rfl
    obtain ⟨M1, hM1, Hc⟩ := j_canBe V 0 M hM Q hQ hk
    refine CallOk.runE fn136 (by simp [rdArgs]) (Nat.le_refl _) ?_
    unfold Tns.ob trL rdArgs
    conv => whnf
    cases hcan : canT B 0 Q with
    | false =>
      rw [hcan] at Hc
      repeat' first | ((first | with_reducible (first | apply Qt | apply Qu) | refine Qa rfl ?_ | refine Qk rfl ?_ | refine Qb ?_ | refine Qc ?_ | refine Qi ?_ | refine Qj ?_ | with_reducible (first | refine Qm ?_ | refine Qn ?_ | refine Qo ?_ | refine Qp ?_ | refine WB.nt ?_ | refine WB.nf ?_ | refine WB.dec (fun h => ?_) (fun h => ?_) | refine WB.ndec (fun h => ?_) (fun h => ?_)) | refine WB.mk (fun h => ?_) (fun h => ?_)) <;> conv => whnf)
      refine WCall.of (CallOk.mapAt Hc trivial (id := .h) rfl (show 1 < Pos.nat (.o (.i (.i .h))) from by decide) (mp_at (by simp [PuL, Pu, pu_moD]))) ?_; conv => whnf
      repeat' first | ((first | with_reducible (first | apply Qt | apply Qu) | refine Qa rfl ?_ | refine Qk rfl ?_ | refine Qb ?_ | refine Qc ?_ | refine Qi ?_ | refine Qj ?_ | with_reducible (first | refine Qm ?_ | refine Qn ?_ | refine Qo ?_ | refine Qp ?_ | refine WB.nt ?_ | refine WB.nf ?_ | refine WB.dec (fun h => ?_) (fun h => ?_) | refine WB.ndec (fun h => ?_) (fun h => ?_)) | refine WB.mk (fun h => ?_) (fun h => ?_)) <;> conv => whnf)
      refine ⟨_, _, ⟨M1, F, s, true, hM1, hF, by rw [ex_no hcan]; exact .nil, rfl, rfl⟩, ⟨.inr rfl, ⟨_, rfl, .pu trivial⟩, Shr.kp ?_ (H.kp M1 F s)⟩⟩
      show T.le (trL (some (.map (mapL M1))) (S.o 2 s) (S.o 3 s) (S.o 4 s) (S.o 5 s) (some (wkCl B)) (S.o 7 s) (some (.cells false [.o (.yl i7) 0] 1)) (some (moC F)) (some (.cells false [.o rdF 0] 1)) (S.o 11 s) none none none none none none none none none) (trL (some (.map (mapL M1))) (S.o 2 s) (S.o 3 s) (S.o 4 s) (S.o 5 s) (some (wkCl B)) (S.o 7 s) (some (.cells false [.o (.yl i7) 0] 1)) (some (moC F)) (some (.cells false [.o rdF 0] 1)) (S.o 11 s) (some _) (some _) none none none none none none none)
      unfold trL
      repeat' first | exact T.le_refl _ | exact T.le_e _ | refine T.le_some ?_ rfl ?_ | refine T.le_same ?_ ?_ | refine T.le_none ?_ ?_
    | true =>
      rw [hcan] at Hc
      repeat' first | ((first | with_reducible (first | apply Qt | apply Qu) | refine Qa rfl ?_ | refine Qk rfl ?_ | refine Qb ?_ | refine Qc ?_ | refine Qi ?_ | refine Qj ?_ | with_reducible (first | refine Qm ?_ | refine Qn ?_ | refine Qo ?_ | refine Qp ?_ | refine WB.nt ?_ | refine WB.nf ?_ | refine WB.dec (fun h => ?_) (fun h => ?_) | refine WB.ndec (fun h => ?_) (fun h => ?_)) | refine WB.mk (fun h => ?_) (fun h => ?_)) <;> conv => whnf)
      refine WCall.of (CallOk.mapAt Hc trivial (id := .h) rfl (show 1 < Pos.nat (.o (.i (.i .h))) from by decide) (mp_at (by simp [PuL, Pu, pu_moD]))) ?_; conv => whnf
      repeat' first | ((first | with_reducible (first | apply Qt | apply Qu) | refine Qa rfl ?_ | refine Qk rfl ?_ | refine Qb ?_ | refine Qc ?_ | refine Qi ?_ | refine Qj ?_ | with_reducible (first | refine Qm ?_ | refine Qn ?_ | refine Qo ?_ | refine Qp ?_ | refine WB.nt ?_ | refine WB.nf ?_ | refine WB.dec (fun h => ?_) (fun h => ?_) | refine WB.ndec (fun h => ?_) (fun h => ?_)) | refine WB.mk (fun h => ?_) (fun h => ?_)) <;> conv => whnf)
      refine WSt.ixaN (m := Q.length) rfl rfl hmn (by omega) ?_; conv => whnf
      refine wSt.stM (F := F) (m := mo1 B Q) (q := Q.length) (by rfl) (by rfl) (by rfl) (by rfl) (by omega) ?_
      have hF1 := hF.put (by omega)
      have hrt := can_right hcan
      have hfull := hF1.full (by omega)
      have hex : exT B 0 Q = [Q] := by unfold exT; rw [hcan]; rfl
      rw [hfull] at hF1 ⊢
      obtain ⟨g, _, ⟨s', hRs, rfl⟩, HR⟩ := H.rnd H0 s hs Q (by rw [← hex]; exact hpre) M1 hM1
      have hfl : Fld R (exT B 0 Q) s s' g := by
        rw [hex]
        cases g with
        | true => exact .go hRs .nil
        | false => exact .stop hRs
      conv => whnf
      repeat' first | ((first | with_reducible (first | apply Qt | apply Qu) | refine Qa rfl ?_ | refine Qk rfl ?_ | refine Qb ?_ | refine Qc ?_ | refine Qi ?_ | refine Qj ?_ | with_reducible (first | refine Qm ?_ | refine Qn ?_ | refine Qo ?_ | refine Qp ?_ | refine WB.nt ?_ | refine WB.nf ?_ | refine WB.dec (fun h => ?_) (fun h => ?_) | refine WB.ndec (fun h => ?_) (fun h => ?_)) | refine WB.mk (fun h => ?_) (fun h => ?_)) <;> conv => whnf)
      refine WRnd.fr (obR' := trL (some (.map (mapL M1))) (S.o 2 s') (S.o 3 s') (S.o 4 s') (S.o 5 s') (some (wkCl B)) (S.o 7 s') (some (.cells false [.o (.yl i7) 0] 1)) (some (moC (moF B.box B.coin Q Q.length))) (some (.cells false [.o rdF 0] 1)) (S.o 11 s') (some (.cells false ((moD (mo1 B Q)).map fun d => Cell.o d 0) 1)) (some (.cells false [.o (.b false) 0] 1)) none none none none none none none) HR (by simp [i7, n12, Pos.nat]) trL_le12 (H.kp _ _ s) (by simp only [KpL, and_true]; exact kp_mo126 _ _) trL_beside12 (by simp [n12, Pos.nat]) (LgLe.refl _) (fun _ _ => trivial) ?_; conv => whnf
      repeat' first | ((first | with_reducible (first | apply Qt | apply Qu) | refine Qa rfl ?_ | refine Qk rfl ?_ | refine Qb ?_ | refine Qc ?_ | refine Qi ?_ | refine Qj ?_ | with_reducible (first | refine Qm ?_ | refine Qn ?_ | refine Qo ?_ | refine Qp ?_ | refine WB.nt ?_ | refine WB.nf ?_ | refine WB.dec (fun h => ?_) (fun h => ?_) | refine WB.ndec (fun h => ?_) (fun h => ?_)) | refine WB.mk (fun h => ?_) (fun h => ?_)) <;> conv => whnf)
      refine ⟨_, _, ⟨M1, moF B.box B.coin Q Q.length, s', g, hM1, hF1.le (by omega), hfl, rfl, rfl⟩, ⟨.inr rfl, ⟨_, rfl, .pu trivial⟩, Shr.kp ?_ (H.kp M1 _ s')⟩⟩
      show T.le (trL (some (.map (mapL M1))) (S.o 2 s') (S.o 3 s') (S.o 4 s') (S.o 5 s') (some (wkCl B)) (S.o 7 s') (some (.cells false [.o (.yl i7) 0] 1)) (some (moC (moF B.box B.coin Q Q.length))) (some (.cells false [.o rdF 0] 1)) (S.o 11 s') none none none none none none none none none) (trL (some (.map (mapL M1))) (S.o 2 s') (S.o 3 s') (S.o 4 s') (S.o 5 s') (some (wkCl B)) (S.o 7 s') (some (.cells false [.o (.yl i7) 0] 1)) (some (moC (moF B.box B.coin Q Q.length))) (some (.cells false [.o rdF 0] 1)) (S.o 11 s') (some _) (some _) none none none none none none none)
      unfold trL
      repeat' first | exact T.le_refl _ | exact T.le_e _ | refine T.le_some ?_ rfl ?_ | refine T.le_same ?_ ?_ | refine T.le_none ?_ ?_
  | succ k ih =>
    intro Q hQ hk hr M hM F hF H0 s hpre hs
    have e1 := rows_length lnD B.ls
    have hlen := V.len
    have hmn : (mo1 B Q).n = (Q.length : Int) := rfl
    obtain ⟨M1, hM1, Hc⟩ := j_canBe V (k + 1) M hM Q hQ hk
    refine CallOk.runE fn136 (by simp [rdArgs]) (Nat.le_refl _) ?_
    unfold Tns.ob trL rdArgs
    conv => whnf
    cases hcan : canT B (k + 1) Q with
    | false =>
      rw [hcan] at Hc
      repeat' first | ((first | with_reducible (first | apply Qt | apply Qu) | refine Qa rfl ?_ | refine Qk rfl ?_ | refine Qb ?_ | refine Qc ?_ | refine Qi ?_ | refine Qj ?_ | with_reducible (first | refine Qm ?_ | refine Qn ?_ | refine Qo ?_ | refine Qp ?_ | refine WB.nt ?_ | refine WB.nf ?_ | refine WB.dec (fun h => ?_) (fun h => ?_) | refine WB.ndec (fun h => ?_) (fun h => ?_)) | refine WB.mk (fun h => ?_) (fun h => ?_)) <;> conv => whnf)
      refine WCall.of (CallOk.mapAt Hc trivial (id := .h) rfl (show 1 < Pos.nat (.o (.i (.i .h))) from by decide) (mp_at (by simp [PuL, Pu, pu_moD]))) ?_; conv => whnf
      repeat' first | ((first | with_reducible (first | apply Qt | apply Qu) | refine Qa rfl ?_ | refine Qk rfl ?_ | refine Qb ?_ | refine Qc ?_ | refine Qi ?_ | refine Qj ?_ | with_reducible (first | refine Qm ?_ | refine Qn ?_ | refine Qo ?_ | refine Qp ?_ | refine WB.nt ?_ | refine WB.nf ?_ | refine WB.dec (fun h => ?_) (fun h => ?_) | refine WB.ndec (fun h => ?_) (fun h => ?_)) | refine WB.mk (fun h => ?_) (fun h => ?_)) <;> conv => whnf)
      refine ⟨_, _, ⟨M1, F, s, true, hM1, hF, by rw [ex_no hcan]; exact .nil, rfl, rfl⟩, ⟨.inr rfl, ⟨_, rfl, .pu trivial⟩, Shr.kp ?_ (H.kp M1 F s)⟩⟩
      show T.le (trL (some (.map (mapL M1))) (S.o 2 s) (S.o 3 s) (S.o 4 s) (S.o 5 s) (some (wkCl B)) (S.o 7 s) (some (.cells false [.o (.yl i7) 0] 1)) (some (moC F)) (some (.cells false [.o rdF 0] 1)) (S.o 11 s) none none none none none none none none none) (trL (some (.map (mapL M1))) (S.o 2 s) (S.o 3 s) (S.o 4 s) (S.o 5 s) (some (wkCl B)) (S.o 7 s) (some (.cells false [.o (.yl i7) 0] 1)) (some (moC F)) (some (.cells false [.o rdF 0] 1)) (S.o 11 s) (some _) (some _) none none none none none none none)
      unfold trL
      repeat' first | exact T.le_refl _ | exact T.le_e _ | refine T.le_some ?_ rfl ?_ | refine T.le_same ?_ ?_ | refine T.le_none ?_ ?_
    | true =>
      rw [hcan] at Hc
      repeat' first | ((first | with_reducible (first | apply Qt | apply Qu) | refine Qa rfl ?_ | refine Qk rfl ?_ | refine Qb ?_ | refine Qc ?_ | refine Qi ?_ | refine Qj ?_ | with_reducible (first | refine Qm ?_ | refine Qn ?_ | refine Qo ?_ | refine Qp ?_ | refine WB.nt ?_ | refine WB.nf ?_ | refine WB.dec (fun h => ?_) (fun h => ?_) | refine WB.ndec (fun h => ?_) (fun h => ?_)) | refine WB.mk (fun h => ?_) (fun h => ?_)) <;> conv => whnf)
      refine WCall.of (CallOk.mapAt Hc trivial (id := .h) rfl (show 1 < Pos.nat (.o (.i (.i .h))) from by decide) (mp_at (by simp [PuL, Pu, pu_moD]))) ?_; conv => whnf
      repeat' first | ((first | with_reducible (first | apply Qt | apply Qu) | refine Qa rfl ?_ | refine Qk rfl ?_ | refine Qb ?_ | refine Qc ?_ | refine Qi ?_ | refine Qj ?_ | with_reducible (first | refine Qm ?_ | refine Qn ?_ | refine Qo ?_ | refine Qp ?_ | refine WB.nt ?_ | refine WB.nf ?_ | refine WB.dec (fun h => ?_) (fun h => ?_) | refine WB.ndec (fun h => ?_) (fun h => ?_)) | refine WB.mk (fun h => ?_) (fun h => ?_)) <;> conv => whnf)
      refine WSt.ixaN (m := Q.length) rfl rfl hmn (by omega) ?_; conv => whnf
      refine wSt.stM (F := F) (m := mo1 B Q) (q := Q.length) (by rfl) (by rfl) (by rfl) (by rfl) (by omega) ?_
      have hF1 := hF.put (by omega)
      have hrt := can_right hcan
      have hex : exT B (k + 1) Q = (stp B Q).flatMap (exT B k) := by
        show (bif canT B (k + 1) Q then (stp B Q).flatMap (exT B k) else []) = _
        rw [hcan]; rfl
      have cN := nexts_bk B (mo1 B Q) (.mp .h)
      generalize upF F Q.length (mo1 B Q) = F1 at hF1 ⊢
      have hr2 : ∀ i, i < Q.length + 1 → rightB B.cs (moR B.box B.coin Q i) = true := fun i hi => by
        by_cases e : i = Q.length
        · subst e; exact hrt
        · exact hr i (by omega)
      conv => whnf
      repeat' first | ((first | with_reducible (first | apply Qt | apply Qu) | refine Qa rfl ?_ | refine Qk rfl ?_ | refine Qb ?_ | refine Qc ?_ | refine Qi ?_ | refine Qj ?_ | refine Qf (cN) ?_ | with_reducible (first | refine Qm ?_ | refine Qn ?_ | refine Qo ?_ | refine Qp ?_ | refine WB.nt ?_ | refine WB.nf ?_ | refine WB.dec (fun h => ?_) (fun h => ?_) | refine WB.ndec (fun h => ?_) (fun h => ?_)) | refine WB.mk (fun h => ?_) (fun h => ?_)) <;> conv => whnf)
      refine Rn.le (a := ⟨rdS B Q, trL (some (.map (mapL M1))) (S.o 2 s) (S.o 3 s) (S.o 4 s) (S.o 5 s) (some (wkCl B)) (S.o 7 s) (some (.cells false [.o (.yl i7) 0] 1)) (some (moC F1)) (some (.cells false [.o rdF 0] 1)) (S.o 11 s) (some (.cells false ((moD (mo1 B Q)).map fun d => Cell.o d 0) 1)) (some (.cells false [.o (.b false) 0] 1)) none none none none none none none, .o (.i (.i .h)), none⟩) ?_ ?_
      · obtain ⟨_, _, ⟨⟨M', F', s', f'⟩, g, Fd, rfl, rfl⟩, Cn⟩ := j_itN (rdM S B Q) (.o (.i (.i .h))) _ _ V (by omega) (rd_ok H ih hQ hk hr2 H0 (by rw [← hex]; exact hpre)) (M1, F1, s, false) ⟨hM1, hF1, ⟨[], List.nil_prefix, rfl, by simpa using hs⟩, rfl⟩
        obtain ⟨q1, q2, q3, q4⟩ := rd_fld (stp B Q) (fun _ h => h) hM1 hF1 rfl Fd
        have q1 : MOk B M' := q1
        have q2 : FOk B (Q.length + 1) Q F' := q2
        have q3' : Fld R (exT B (k + 1) Q) s s' g := by rw [hex]; exact q3
        have q4 : f' = !g := q4
        cases g with
        | true =>
          have q4 : f' = false := q4
          subst q4
          refine Rn.rf rfl rfl (Cn.lower (by decide)) rfl (by simp) ?_; conv => whnf
          repeat' first | ((first | with_reducible (first | apply Qt | apply Qu) | refine Qa rfl ?_ | refine Qk rfl ?_ | refine Qb ?_ | refine Qc ?_ | refine Qi ?_ | refine Qj ?_) <;> conv => whnf)
          refine ⟨_, _, ⟨M', F', s', true, q1, q2.le (by omega), q3', rfl, rfl⟩, ⟨.inr rfl, ⟨_, rfl, .pu trivial⟩, Shr.kp ?_ (H.kp M' F' s')⟩⟩
          show T.le (trL (some (.map (mapL M'))) (S.o 2 s') (S.o 3 s') (S.o 4 s') (S.o 5 s') (some (wkCl B)) (S.o 7 s') (some (.cells false [.o (.yl i7) 0] 1)) (some (moC F')) (some (.cells false [.o rdF 0] 1)) (S.o 11 s') none none none none none none none none none) (trL (some (.map (mapL M'))) (S.o 2 s') (S.o 3 s') (S.o 4 s') (S.o 5 s') (some (wkCl B)) (S.o 7 s') (some (.cells false [.o (.yl i7) 0] 1)) (some (moC F')) (some (.cells false [.o rdF 0] 1)) (S.o 11 s') (some _) (some _) (some _) none none none none none none)
          unfold trL
          repeat' first | exact T.le_refl _ | exact T.le_e _ | refine T.le_some ?_ rfl ?_ | refine T.le_same ?_ ?_ | refine T.le_none ?_ ?_
        | false =>
          have q4 : f' = true := q4
          subst q4
          refine Rn.rf rfl rfl (Cn.lower (by decide)) rfl (by simp) ?_; conv => whnf
          repeat' first | ((first | with_reducible (first | apply Qt | apply Qu) | refine Qa rfl ?_ | refine Qk rfl ?_ | refine Qb ?_ | refine Qc ?_ | refine Qi ?_ | refine Qj ?_) <;> conv => whnf)
          refine ⟨_, _, ⟨M', F', s', false, q1, q2.le (by omega), q3', rfl, rfl⟩, ⟨.inr rfl, ⟨_, rfl, .pu trivial⟩, Shr.kp ?_ (H.kp M' F' s')⟩⟩
          show T.le (trL (some (.map (mapL M'))) (S.o 2 s') (S.o 3 s') (S.o 4 s') (S.o 5 s') (some (wkCl B)) (S.o 7 s') (some (.cells false [.o (.yl i7) 0] 1)) (some (moC F')) (some (.cells false [.o rdF 0] 1)) (S.o 11 s') none none none none none none none none none) (trL (some (.map (mapL M'))) (S.o 2 s') (S.o 3 s') (S.o 4 s') (S.o 5 s') (some (wkCl B)) (S.o 7 s') (some (.cells false [.o (.yl i7) 0] 1)) (some (moC F')) (some (.cells false [.o rdF 0] 1)) (S.o 11 s') (some _) (some _) (some _) none none none none none none)
          unfold trL
          repeat' first | exact T.le_refl _ | exact T.le_e _ | refine T.le_some ?_ rfl ?_ | refine T.le_same ?_ ?_ | refine T.le_none ?_ ?_
      · refine X.le.mk ?_ ?_ (Nat.le_refl _) rfl rfl
        · unfold rdS
          repeat' first | exact T.le_e _ | refine T.le_some ?_ rfl ?_ | refine T.le_none ?_ ?_
        · unfold trL
          repeat' first | exact T.le_refl _ | exact T.le_e _ | refine T.le_some ?_ rfl ?_ | refine T.le_same ?_ ?_ | refine T.le_none ?_ ?_
end
end Go.Ev
namespace Go.Ev
open Go.Proofs
set_option maxRecDepth 100000
def lg11 : T Bool := .n (.n (.n (.n .e (some true) .e) (some true) .e) (some true) (.n (.n .e (some true) .e) (some true) .e)) (some true) (.n (.n (.n .e (some true) .e) (some true) .e) (some true) (.n (.n .e (some true) .e) (some true) .e))
theorem lg11_w {id : Pos} (h : id.nat < 12) : wrtn (some lg11) id := by
  rcases pos_lt12 h with rfl | rfl | rfl | rfl | rfl | rfl | rfl | rfl | rfl | rfl | rfl <;> rfl
theorem lg11_le : LgLe (some .e) (some lg11) := by
  refine ⟨⟨fun h => (by cases h), fun h => (by cases h)⟩, fun id h => ?_, fun id h => ?_⟩
  · obtain ⟨b, hb⟩ := h
    rw [T.get_e] at hb; cases hb
  · have h : (T.e : T Bool).get id = some true := h
    rw [T.get_e] at h; cases h
section
variable {σ : Type} {S : Tns σ} {B : Bk} {I : List (List Ln) → σ → Prop} {R : σ → List Ln → σ → Bool → Prop}
noncomputable def Tns.bob (S : Tns σ) (B : Bk) (M : Memo) (s : σ) : T Ev.C := trL (some (.map (mapL M))) (S.o 2 s) (S.o 3 s) (S.o 4 s) (S.o 5 s) (some (wkCl B)) (S.o 7 s) none none none (S.o 11 s) none none none none none none none none none
noncomputable def Tns.bob0 (S : Tns σ) (B : Bk) (M : Memo) (s : σ) : T Ev.C := trL (some (.map (mapL M))) (S.o 2 s) (S.o 3 s) (S.o 4 s) (S.o 5 s) (some (wkCl B)) (S.o 7 s) none none none none none none none none none none none none none
theorem bob_le (M : Memo) (F : Nat → Mo) (s : σ) : T.le (S.bob B M s) (S.ob B M F s) := by
  unfold Tns.bob Tns.ob trL
  repeat' first | exact T.le_refl _ | exact T.le_e _ | refine T.le_same ?_ ?_ | refine T.le_none ?_ ?_
theorem bob_kp (H : TnsOk S B I R) (M : Memo) (s : σ) : KpO 12 (S.bob B M s) := fun id c h => H.kp M (fun _ => mo0) s id c (bob_le M _ s id c h)
set_option maxHeartbeats 1000000 in
theorem j_truths1 (V : VB B) (H : TnsOk S B I R) (M : Memo) (hM : MOk B M) (s0 : σ) (i0 : I [] s0) (h11 : S.o 11 s0 = some .hole) :
    ∃ v ob', (∃ M' s' g, MOk B M' ∧ Fld R (exT B B.ls.length []) s0 s' g ∧ v = .tp [] ∧ ob' = S.bob B M' s') ∧ CallOk Try.prog p136.ix [.yl i7, .pt i6 0 0] (S.bob0 B M s0) i8 none v ob' n12 none := by
  have cO := open_bk B (.mp .h)
  obtain ⟨_, _, ⟨M', F', s', g, hM', _, hFl, rfl, rfl⟩, Hc⟩ := j_read V H B.ls.length [] (okT.nil B) (by simp) (fun i h => absurd h (Nat.not_lt_zero _)) M hM (fun _ => mo0) ⟨fun q h => absurd h (Nat.not_lt_zero _), fun _ _ => rfl⟩ [] s0 (List.prefix_refl _) i0
  refine CallOk.runE fn135 (by simp) (by simp [i8, n12, Pos.nat]) ?_
  unfold Tns.bob0 trL
  conv => whnf
  repeat' first | ((first | with_reducible (first | apply Qt | apply Qu) | refine Qa rfl ?_ | refine Qk rfl ?_ | refine Qb ?_ | refine Qc ?_ | refine Qi ?_ | refine Qj ?_ | refine Qf (cO) ?_) <;> conv => whnf)
  have Hf := Hc.frame (nx2 := n12) (obR := S.ob B M (fun _ => mo0) s0) (obR' := S.ob B M' F' s') (lg := some .e) (lg' := some lg11) (T.le_refl _) (H.kp M _ s0) (by simp [rdArgs, KpL, Kp, Pu, moD, i6, i8, i9, i10, n12, Pos.nat]) ⟨fun _ _ _ h => h, fun id h => by
    have e1 : ∀ (M : Memo) (F : Nat → Mo) (s : σ), (S.ob B M F s).get id = none := fun M F s => by
      cases hg : (S.ob B M F s).get id with
      | none => rfl
      | some c =>
        have := (H.kp M F s id c hg).1
        have h : 12 ≤ id.nat := h
        omega
    rw [e1, e1]⟩ (Nat.le_refl _) lg11_le (fun id h => lg11_w h)
  have Hh := CallOk.hole (r := i11) (nx := i11) (ob := trL (some (.map (mapL M))) (S.o 2 s0) (S.o 3 s0) (S.o 4 s0) (S.o 5 s0) (some (wkCl B)) (S.o 7 s0) (some (.cells false [.o (.yl i7) 0] 1)) (some (moC fun _ => mo0)) (some (.cells false [.o rdF 0] 1)) none none none none none none none none none none) (by
    have he : T.set i11 .hole (trL (some (.map (mapL M))) (S.o 2 s0) (S.o 3 s0) (S.o 4 s0) (S.o 5 s0) (some (wkCl B)) (S.o 7 s0) (some (.cells false [.o (.yl i7) 0] 1)) (some (moC fun _ => mo0)) (some (.cells false [.o rdF 0] 1)) none none none none none none none none none none) = S.ob B M (fun _ => mo0) s0 := by
      unfold Tns.ob
      rw [h11]
      rfl
    rw [he]
    exact Hf) (Nat.le_refl _) (by simp [i11, n12, Pos.nat]) (lg11_w (by simp [i11, Pos.nat]))
  refine WCall.of Hh ?_; conv => whnf
  repeat' first | ((first | with_reducible (first | apply Qt | apply Qu) | refine Qa rfl ?_ | refine Qk rfl ?_ | refine Qb ?_ | refine Qc ?_ | refine Qi ?_ | refine Qj ?_) <;> conv => whnf)
  refine ⟨_, _, ⟨M', s', g, hM', hFl, rfl, rfl⟩, ⟨.inl rfl, ⟨_, rfl, .pu trivial⟩, Shr.kp (bob_le M' F' s') (bob_kp H M' s')⟩⟩
end
end Go.Ev
namespace Go.Ev
open Go.Proofs
set_option maxRecDepth 100000
theorem j_min (a : Int) (L : List Int) (hL : L.length ≤ 100000) : PureF Try.prog p121.ix [.i .i64 a, .lst 1 (ints L)] (.i .i64 (L.foldl min a)) := by
  have e1 := ints_length L
  refine PureF.run fn120 (by simp) (by simp [PuL, Pu, pu_ints]) ?_; conv => whnf
  repeat' first | ((first | with_reducible (first | apply Qt | apply Qu) | refine Qa rfl ?_ | refine Qk rfl ?_ | refine Qb ?_ | refine Qc ?_ | refine Qi ?_ | refine Qj ?_) <;> conv => whnf)
  refine Rn.loop (fun j : Nat => ⟨(.n (.n (.n (.n .e (some (.lst 1 (ints L))) .e) none .e) none (.n (.n .e (some (.i .i64 (j : Int))) .e) none .e)) (some (.i .i64 ((L.take j).foldl min a))) (.n (.n (.n .e (some (.i .i64 ((ints L).length : Int))) .e) none .e) none .e)), .e, .h, none⟩) (fun j => j ≤ L.length) (fun j => L.length - j) 0 ?_ ?_ ?_
  · (first | (refine X.le.mk ?_ ?_ (Nat.le_refl _) rfl rfl) | skip) <;> (repeat' first | exact T.le_e _ | refine T.le_some ?_ ?_ ?_ | refine T.le_none ?_ ?_ | rfl)
  · omega
  intro j hj
  conv => whnf
  repeat' first | ((first | with_reducible (first | apply Qt | apply Qu) | refine Qa rfl ?_ | refine Qk rfl ?_ | refine Qb ?_ | refine Qc ?_ | refine Qi ?_ | refine Qj ?_) <;> conv => whnf)
  refine WB.dec (fun h => ?_) (fun h => ?_) <;> conv => whnf
  · have hlt : j < L.length := by omega
    repeat' first | ((first | with_reducible (first | apply Qt | apply Qu) | refine Qa rfl ?_ | refine Qk rfl ?_ | refine Qb ?_ | refine Qc ?_ | refine Qi ?_ | refine Qj ?_) <;> conv => whnf)
    refine Again.to (j + 1) (by omega) (by omega) (Nat.le_refl _) ?_
    (refine Shr.of ?_ ?_ rfl rfl) <;> (repeat' first | exact Rel.e | refine Rel.some ?_ ?_ ?_ | refine Rel.none ?_ ?_) <;> (try first | (show Fz _ _ _ _; first | exact Fz.pu trivial | (refine Fz.i ?_; first | rfl | omega) | (refine Fz.kpt ?_; (focus (show Pos.nat _ < Pos.nat _; simp [Pos.nat]; done))) | (refine Fz.ksl ?_; (focus (show Pos.nat _ < Pos.nat _; simp [Pos.nat]; done))) | (refine Fz.kmp ?_; (focus (show Pos.nat _ < Pos.nat _; simp [Pos.nat]; done))) | (refine Fz.pu ?_; simp [Cell.d, Pu, PuL, PuE, pu_ints, pu_ln, pu_ct]; done) | (refine Fz.pu ?_; simp only [Cell.d]; assumption)) | (refine RO'.of ?_ (ShC.same ?_); (focus (show Pos.nat _ < Pos.nat _; simp [Pos.nat]; done)); (repeat' first | exact ShC.nl | refine ShC.cn ?_ ?_) <;> first | exact Fz.pu trivial | (refine Fz.i ?_; first | rfl | omega) | (refine Fz.kpt ?_; (focus (show Pos.nat _ < Pos.nat _; simp [Pos.nat]; done))) | (refine Fz.ksl ?_; (focus (show Pos.nat _ < Pos.nat _; simp [Pos.nat]; done))) | (refine Fz.kmp ?_; (focus (show Pos.nat _ < Pos.nat _; simp [Pos.nat]; done))) | (refine Fz.pu ?_; simp [Cell.d, Pu, PuL, PuE, pu_ints, pu_ln, pu_ct]; done) | (refine Fz.pu ?_; simp only [Cell.d]; assumption)))
    all_goals (refine Fz.i ?_; exact (foldl_takeJ min a hlt).symm)
  · repeat' first | ((first | with_reducible (first | apply Qt | apply Qu) | refine Qa rfl ?_ | refine Qk rfl ?_ | refine Qb ?_ | refine Qc ?_ | refine Qi ?_ | refine Qj ?_) <;> conv => whnf)
    exact Fin.i rfl (by rw [List.take_of_length_le (by omega)])
theorem j_max (l : List Int) (h0 : 0 < l.length) (hL : l.length ≤ 100000) : PureF Try.prog p122.ix [.lst 1 (ints l)] (.i .i64 (l.foldl max (l.getD 0 0))) := by
  have e1 := ints_length l
  refine PureF.run fn121 (by simp) (by simp [PuL, Pu, pu_ints]) ?_; conv => whnf
  repeat' first | ((first | with_reducible (first | apply Qt | apply Qu) | refine Qa rfl ?_ | refine Qk rfl ?_ | refine Qb ?_ | refine Qc ?_ | refine Qi ?_ | refine Qj ?_ | with_reducible (first | refine Qm ?_ | refine Qn ?_ | refine Qo ?_ | refine Qp ?_ | refine WB.nt ?_ | refine WB.nf ?_ | refine WB.dec (fun h => ?_) (fun h => ?_) | refine WB.ndec (fun h => ?_) (fun h => ?_)) | refine WB.mk (fun h => ?_) (fun h => ?_)) <;> conv => whnf)
  refine Rn.loop (fun j : Nat => ⟨(.n (.n (.n .e (some (.i .i64 ((l.take j).foldl max (l.getD 0 0)))) .e) none .e) (some (.lst 1 (ints l))) (.n (.n .e (some (.i .i64 (j : Int))) .e) none .e)), .e, .h, none⟩) (fun j => 1 ≤ j ∧ j ≤ l.length) (fun j => l.length - j) 1 ?_ ?_ ?_
  · have h1 : (l.take 1).foldl max (l.getD 0 0) = l.getD 0 0 := by
      cases l with
      | nil => rfl
      | cons a l => simp
    rw [h1]
    (first | (refine X.le.mk ?_ ?_ (Nat.le_refl _) rfl rfl) | skip) <;> (repeat' first | exact T.le_e _ | refine T.le_some ?_ ?_ ?_ | refine T.le_none ?_ ?_ | rfl)
  · omega
  rintro j ⟨hj1, hj⟩
  conv => whnf
  repeat' first | ((first | with_reducible (first | apply Qt | apply Qu) | refine Qa rfl ?_ | refine Qk rfl ?_ | refine Qb ?_ | refine Qc ?_ | refine Qi ?_ | refine Qj ?_) <;> conv => whnf)
  refine WB.dec (fun h => ?_) (fun h => ?_) <;> conv => whnf
  · have hlt : j < l.length := by omega
    repeat' first | ((first | with_reducible (first | apply Qt | apply Qu) | refine Qa rfl ?_ | refine Qk rfl ?_ | refine Qb ?_ | refine Qc ?_ | refine Qi ?_ | refine Qj ?_) <;> conv => whnf)
    refine Again.to (j + 1) (by omega) ⟨by omega, by omega⟩ (Nat.le_refl _) ?_
    (refine Shr.of ?_ ?_ rfl rfl) <;> (repeat' first | exact Rel.e | refine Rel.some ?_ ?_ ?_ | refine Rel.none ?_ ?_) <;> (try first | (show Fz _ _ _ _; first | exact Fz.pu trivial | (refine Fz.i ?_; first | rfl | omega) | (refine Fz.kpt ?_; (focus (show Pos.nat _ < Pos.nat _; simp [Pos.nat]; done))) | (refine Fz.ksl ?_; (focus (show Pos.nat _ < Pos.nat _; simp [Pos.nat]; done))) | (refine Fz.kmp ?_; (focus (show Pos.nat _ < Pos.nat _; simp [Pos.nat]; done))) | (refine Fz.pu ?_; simp [Cell.d, Pu, PuL, PuE, pu_ints, pu_ln, pu_ct]; done) | (refine Fz.pu ?_; simp only [Cell.d]; assumption)) | (refine RO'.of ?_ (ShC.same ?_); (focus (show Pos.nat _ < Pos.nat _; simp [Pos.nat]; done)); (repeat' first | exact ShC.nl | refine ShC.cn ?_ ?_) <;> first | exact Fz.pu trivial | (refine Fz.i ?_; first | rfl | omega) | (refine Fz.kpt ?_; (focus (show Pos.nat _ < Pos.nat _; simp [Pos.nat]; done))) | (refine Fz.ksl ?_; (focus (show Pos.nat _ < Pos.nat _; simp [Pos.nat]; done))) | (refine Fz.kmp ?_; (focus (show Pos.nat _ < Pos.nat _; simp [Pos.nat]; done))) | (refine Fz.pu ?_; simp [Cell.d, Pu, PuL, PuE, pu_ints, pu_ln, pu_ct]; done) | (refine Fz.pu ?_; simp only [Cell.d]; assumption)))
    all_goals (refine Fz.i ?_; exact (foldl_takeJ (d := 0) max _ hlt).symm)
  · repeat' first | ((first | with_reducible (first | apply Qt | apply Qu) | refine Qa rfl ?_ | refine Qk rfl ?_ | refine Qb ?_ | refine Qc ?_ | refine Qi ?_ | refine Qj ?_) <;> conv => whnf)
    exact Fin.i rfl (by rw [List.take_of_length_le (by omega)])
theorem flatMap_le {α β : Type} (f : α → List β) (n : Nat) : ∀ (l : List α), (∀ x ∈ l, (f x).length ≤ n) → (l.flatMap f).length ≤ l.length * n
  | [], _ => by simp
  | a :: l, h => by
    have h1 := h a (by simp)
    have h2 := flatMap_le f n l fun x hx => h x (by simp [hx])
    rw [List.flatMap_cons, List.length_append, List.length_cons, Nat.add_mul]
    omega
theorem rds_len (n : Int) (l : Ln) : (rdsL n l).length ≤ (szK l).toNat * ((szC n l).toNat * (szT n l).toNat) := by
  have hT : ∀ a b, (rdsT n l a b).length ≤ (szT n l).toNat := fun a b => by
    unfold rdsT
    rw [List.length_map, rngL_length, ← t_size]
    omega
  have hC : ∀ a, (rdsC n l a).length ≤ (szC n l).toNat * (szT n l).toNat := fun a => by
    have := flatMap_le (fun b => rdsT n l a b) (szT n l).toNat (rngL (cLo l) (cHi n l)) fun b _ => hT a b
    rw [rngL_length] at this
    refine Nat.le_trans this (Nat.mul_le_mul_right _ ?_)
    rw [← c_size]
    omega
  have := flatMap_le (fun a => rdsC n l a) _ (rngL (kLo l) (kHi l)) fun a _ => hC a
  rw [rngL_length] at this
  refine Nat.le_trans this (Nat.mul_le_mul_right _ ?_)
  rw [← k_size]
  omega
def szsN (n : Int) : List Ln → Nat
  | [] => 1
  | l :: ls => (szK l).toNat * ((szC n l).toNat * (szT n l).toNat) * szsN n ls
theorem szs_prodG {n : Int} (hn : 1 ≤ n ∧ n ≤ 4) : ∀ (ls : List Ln) (p : Int), ls.foldl (fun m l => m * rdN n l) p = p * (szsN n ls : Int)
  | [], p => by simp [szsN]
  | l :: ls, p => by
    rw [List.foldl_cons, szs_prodG hn ls]
    obtain ⟨s1, s2, s3⟩ := sz_bd hn l
    show p * rdN n l * _ = p * (((szK l).toNat * ((szC n l).toNat * (szT n l).toNat) * szsN n ls : Nat) : Int)
    rw [Int.natCast_mul, Int.natCast_mul, Int.natCast_mul, Int.toNat_of_nonneg (by omega), Int.toNat_of_nonneg (by omega), Int.toNat_of_nonneg (by omega)]
    unfold rdN
    rw [Int.mul_assoc, Int.mul_assoc (szK l)]
theorem szs_le {B : Bk} (V : VB B) : szsN B.n B.ls ≤ 4096 := by
  have h := (many_prod V.n.1 V.n.2 B.ls).1
  have h2 := V.many
  have h3 : prodP B.n B.ls = (szsN B.n B.ls : Int) := by
    unfold prodP
    rw [szs_prodG V.n, Int.one_mul]
  omega
theorem ex_lenG {B : Bk} (V : VB B) : ∀ (k : Nat) (Q : List Ln), Q.length + k = B.ls.length → (exT B k Q).length ≤ szsN B.n (B.ls.drop Q.length)
  | 0, Q, h => by
    rw [List.drop_eq_nil_of_le (by omega)]
    unfold exT
    cases canT B 0 Q <;> simp [szsN]
  | k + 1, Q, h => by
    have hd : B.ls.drop Q.length = B.ls.getD Q.length default :: B.ls.drop (Q.length + 1) := by
      rw [List.drop_eq_getElem_cons (by omega)]
      simp [List.getD, show Q.length < B.ls.length by omega]
    show (bif canT B (k + 1) Q then (stp B Q).flatMap (exT B k) else []).length ≤ _
    cases canT B (k + 1) Q with
    | false => simp
    | true =>
      rw [hd]
      have h1 := flatMap_le (exT B k) (szsN B.n (B.ls.drop (Q.length + 1))) (stp B Q) fun T' hT => by
        have hl : T'.length = Q.length + 1 := by
          unfold stp at hT
          obtain ⟨a, _, rfl⟩ := List.mem_map.1 hT
          simp
        have := ex_lenG V k T' (by omega)
        rw [hl] at this
        exact this
      refine Nat.le_trans h1 (Nat.mul_le_mul_right _ ?_)
      unfold stp
      rw [List.length_map]
      exact Nat.le_trans (List.length_filter_le _ _) (rds_len _ _)
theorem ex_len {B : Bk} (V : VB B) : (exT B B.ls.length []).length ≤ 4096 := Nat.le_trans (ex_lenG V B.ls.length [] (by simp)) (szs_le V)
end Go.Ev
namespace Go.Ev
open Go.Proofs
set_option maxRecDepth 100000
def slA : List Int → D
  | [] => .ns
  | _ :: s => .sl i11 0 (s.length + 1) s.length 1
noncomputable def blA : List Int → Option Ev.C
  | [] => some .hole
  | a :: s => some (.cells false (((a :: s).map fun n => D.i .i64 n).map fun d => Cell.o d s.length) (s.length + 1))
def bdS : T D := (.n (.n (.n .e (some (.pt (.i .h) 0 0)) .e) none (.n .e (some (.pt (.i (.o .h)) 0 0)) .e)) none (.n (.n (.n .e (some (.fn p136 [] [.pt i6 0 0])) .e) (some (.pt (.o (.o .h)) 0 0)) .e) none .e))
noncomputable def bdM (aft : Nat) (g : Pos) (first caps : List D) : Tns (List Int) where
  o := fun i s => match i with
    | 3 => some (.cells false [.o (.i .i64 (aft : Int)) 0, .o (.fn g first caps) 0] 1)
    | 4 => some (.cells false [.o (.i .i64 0) 0, .o (.i .i64 0) 0] 1)
    | 5 => some (.cells false [.o (slA s) 0] 1)
    | 7 => some (.lp bdS [p10] 28 (rfA (bodyC Try.f88) 0) (rfB (bodyC Try.f88) 0) .ready none)
    | 11 => blA s
    | _ => none
theorem wkCl_kp (B : Bk) {n : Nat} (h : 1 < n) : KpC n (wkCl B) := by
  refine KpL.all ?_
  simp [wkQ, KpL, Kp, Cell.d, Pu, pu_ln, pu_ct, Pos.nat, h]
theorem bdS_kp : ∀ s d, bdS.get s = some d → Kp 11 d := by
  show TAll (fun _ d => Kp 11 d) bdS
  unfold bdS
  repeat' first | exact TAll.e | refine TAll.some ?_ ?_ ?_ | refine TAll.none ?_ ?_
  all_goals simp [Kp, KpL, i6, Pos.nat]
noncomputable def bdR (B : Bk) (M : Memo) (F : Nat → Mo) (aft : Nat) (g : Pos) (first caps : List D) : T Ev.C := trL (some (.map (mapL M))) none (some (.cells false [.o (.i .i64 (aft : Int)) 0, .o (.fn g first caps) 0] 1)) (some (.cells false [.o (.i .i64 0) 0, .o (.i .i64 0) 0] 1)) none (some (wkCl B)) (some (.lp bdS [p10] 28 (rfA (bodyC Try.f88) 0) (rfB (bodyC Try.f88) 0) .ready none)) (some (.cells false [.o (.yl i7) 0] 1)) (some (moC F)) (some (.cells false [.o rdF 0] 1)) none none none none none none none none none none
section
variable {B : Bk} {aft : Nat} {g : Pos} {first caps : List D} (h1 : PuL first) (h2 : PuL caps)
include h1 h2
theorem bdR_kp (M : Memo) (F : Nat → Mo) : KpO 11 (bdR B M F aft g first caps) := by
  have k1 := KpL.pu (n := 11) first h1
  have k2 := KpL.pu (n := 11) caps h2
  show TAll (fun id c => id.nat < 11 ∧ KpC 11 c) _
  unfold bdR trL
  repeat' first | exact TAll.e | refine TAll.some ?_ ?_ ?_ | refine TAll.none ?_ ?_
  all_goals refine ⟨by simp [Pos.nat], ?_⟩
  all_goals first
    | exact mapL_kp
    | exact bdS_kp
    | exact puC (kp_mo126 _ _)
    | exact wkCl_kp B (by omega)
    | (refine KpL.all ?_; simp [KpL, Kp, Cell.d, Pu, rdF, k1, k2, i6, i7, i8, i9, i10, Pos.nat])
theorem bd_at (M : Memo) (F : Nat → Mo) (s : List Int) {i : Pos} {c : Ev.C} (h : ((bdM aft g first caps).ob B M F s).get i = some c) : (i = i11 ∧ blA s = some c) ∨ (i = .i (.o .h) ∧ c = .cells false [.o (slA s) 0] 1) ∨ (i ≠ i11 ∧ i ≠ .i (.o .h) ∧ (bdR B M F aft g first caps).get i = some c) := by
  by_cases e1 : i = i11
  · subst e1; exact .inl ⟨rfl, h⟩
  by_cases e2 : i = .i (.o .h)
  · subst e2
    have h : some (.cells false [.o (slA s) 0] 1) = some c := h
    cases h
    exact .inr (.inl ⟨rfl, rfl⟩)
  refine .inr (.inr ⟨e1, e2, ?_⟩)
  by_cases hlt : i.nat < 12
  · rw [← h]
    rcases pos_lt12 hlt with rfl | rfl | rfl | rfl | rfl | rfl | rfl | rfl | rfl | rfl | rfl
    all_goals first
      | rfl
      | exact absurd rfl e1
      | exact absurd rfl e2
  · have h3 := trL_hi12 (x1 := none) (x2 := none) (x3 := none) (x4 := none) (x5 := none) (x6 := none) (x7 := none) (x8 := none) (x9 := none) (x10 := none) (x11 := none) (y1 := some (.map (mapL M))) (y2 := (bdM aft g first caps).o 2 s) (y3 := (bdM aft g first caps).o 3 s) (y4 := (bdM aft g first caps).o 4 s) (y5 := (bdM aft g first caps).o 5 s) (y6 := some (wkCl B)) (y7 := (bdM aft g first caps).o 7 s) (y8 := some (.cells false [.o (.yl i7) 0] 1)) (y9 := some (moC F)) (y10 := some (.cells false [.o rdF 0] 1)) (y11 := (bdM aft g first caps).o 11 s) (x12 := none) (x13 := none) (x14 := none) (x15 := none) (x16 := none) (x17 := none) (x18 := none) (x19 := none) (x20 := none) (Nat.not_lt.1 hlt)
    have h4 : (trL none none none none none none none none none none none none none none none none none none none none).get i = some c := h3.symm.trans h
    exfalso
    have key : TAll (fun _ _ => False) (trL none none none none none none none none none none none none none none none none none none none none) := by
      unfold trL
      repeat' first | exact TAll.e | refine TAll.none ?_ ?_
    exact key i c h4
theorem bd_kp (M : Memo) (F : Nat → Mo) (s : List Int) : KpO 12 ((bdM aft g first caps).ob B M F s) := by
  intro id c h
  rcases bd_at h1 h2 M F s h with ⟨rfl, h⟩ | ⟨rfl, rfl⟩ | ⟨_, _, h⟩
  · refine ⟨by simp [i11, Pos.nat], ?_⟩
    cases s with
    | nil => cases h; trivial
    | cons a s =>
      cases h
      refine puC (KpL.pu _ (puL_map_j _))
  · refine ⟨by simp [Pos.nat], KpL.all ?_⟩
    cases s <;> simp [slA, KpL, Kp, Cell.d, Pu, i11, Pos.nat]
  · obtain ⟨q1, q2⟩ := bdR_kp h1 h2 M F id c h
    exact ⟨by omega, q2.up (by omega)⟩
end
end Go.Ev