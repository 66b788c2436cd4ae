import Derived.Test.YtjgbfnciedkafaaEvUFn
set_option linter.all false
namespace Go.Ev
open Go.Proofs
set_option maxRecDepth 100000
def PA (n : Int) (l : Ln) (i : Nat) : List Ln := ((rngL (kLo l) (kHi l)).take i).flatMap fun a => rdsC n l a
def PB (n : Int) (l : Ln) (a : Int) (j : Nat) : List Ln := ((rngL (cLo l) (cHi n l)).take j).flatMap fun b => rdsT n l a b
def PC (n : Int) (l : Ln) (a b : Int) (q : Nat) : List Ln := ((rngL (tLo l) (tHi n l)).take q).map fun c => ⟨a, b, c⟩
theorem PA_succ {n : Int} {l : Ln} {i : Nat} (h : i < (kHi l + 1 - kLo l).toNat) : PA n l (i + 1) = PA n l i ++ rdsC n l (kLo l + (i : Int)) := by
  unfold PA
  rw [take_succ_getD (d := 0) (by rw [rngL_length]; exact h), List.flatMap_append, rngL_at h]
  simp
theorem PB_succ {n : Int} {l : Ln} {a : Int} {j : Nat} (h : j < (cHi n l + 1 - cLo l).toNat) : PB n l a (j + 1) = PB n l a j ++ rdsT n l a (cLo l + (j : Int)) := by
  unfold PB
  rw [take_succ_getD (d := 0) (by rw [rngL_length]; exact h), List.flatMap_append, rngL_at h]
  simp
theorem PC_succ {n : Int} {l : Ln} {a b : Int} {q : Nat} (h : q < (tHi n l + 1 - tLo l).toNat) : PC n l a b (q + 1) = PC n l a b q ++ [⟨a, b, tLo l + (q : Int)⟩] := by
  unfold PC
  rw [take_succ_getD (d := 0) (by rw [rngL_length]; exact h), List.map_append, rngL_at h]
  simp
theorem PA_all {n : Int} {l : Ln} {i : Nat} (h : (kHi l + 1 - kLo l).toNat ≤ i) : PA n l i = rdsL n l := by
  unfold PA rdsL
  rw [List.take_of_length_le (by rw [rngL_length]; exact h)]
theorem PB_all {n : Int} {l : Ln} {a : Int} {j : Nat} (h : (cHi n l + 1 - cLo l).toNat ≤ j) : PB n l a j = rdsC n l a := by
  unfold PB rdsC
  rw [List.take_of_length_le (by rw [rngL_length]; exact h)]
theorem PC_all {n : Int} {l : Ln} {a b : Int} {q : Nat} (h : (tHi n l + 1 - tLo l).toNat ≤ q) : PC n l a b q = rdsT n l a b := by
  unfold PC rdsT
  rw [List.take_of_length_le (by rw [rngL_length]; exact h)]
theorem PA_pre (n : Int) (l : Ln) (i : Nat) : PA n l i <+: rdsL n l := by
  refine ⟨((rngL (kLo l) (kHi l)).drop i).flatMap fun a => rdsC n l a, ?_⟩
  unfold PA rdsL
  rw [← List.flatMap_append, List.take_append_drop]
theorem PB_pre (n : Int) (l : Ln) (a : Int) (j : Nat) : PB n l a j <+: rdsC n l a := by
  refine ⟨((rngL (cLo l) (cHi n l)).drop j).flatMap fun b => rdsT n l a b, ?_⟩
  unfold PB rdsC
  rw [← List.flatMap_append, List.take_append_drop]
theorem PC_pre (n : Int) (l : Ln) (a b : Int) (q : Nat) : PC n l a b q <+: rdsT n l a b := by
  refine ⟨((rngL (tLo l) (tHi n l)).drop q).map fun c => ⟨a, b, c⟩, ?_⟩
  unfold PC rdsT
  rw [← List.map_append, List.take_append_drop]
theorem pre_all {n : Int} {l : Ln} {i j q : Nat} (hi : i < (kHi l + 1 - kLo l).toNat) (hj : j < (cHi n l + 1 - cLo l).toNat) : PA n l i ++ (PB n l (kLo l + (i : Int)) j ++ PC n l (kLo l + (i : Int)) (cLo l + (j : Int)) q) <+: rdsL n l := by
  have h1 : PB n l (kLo l + (i : Int)) j ++ PC n l (kLo l + (i : Int)) (cLo l + (j : Int)) q <+: rdsC n l (kLo l + (i : Int)) := by
    refine List.IsPrefix.trans ?_ (PB_pre n l _ (j + 1))
    rw [PB_succ hj]
    exact (List.prefix_append_right_inj _).2 (PC_pre _ _ _ _ _)
  refine List.IsPrefix.trans ?_ (PA_pre n l (i + 1))
  rw [PA_succ hi]
  exact (List.prefix_append_right_inj _).2 h1
structure Lns (σ : Type) where
  o : Nat → σ → Option C
def Lns.ob {σ : Type} (S : Lns σ) (n : Int) (l : Ln) (s : σ) : T C := trL (S.o 1 s) (S.o 2 s) (S.o 3 s) (S.o 4 s) (S.o 5 s) (S.o 6 s) (S.o 7 s) (S.o 8 s) (S.o 9 s) (S.o 10 s) (S.o 11 s) (S.o 12 s) (S.o 13 s) (S.o 14 s) (S.o 15 s) (S.o 16 s) (S.o 17 s) (some (.cells false [.o (.i .i64 (kLo l)) 0, .o (.i .i64 (kHi l)) 0] 1)) (some (.cells false [.o (.i .i64 (cLo l)) 0, .o (.i .i64 (cHi n l)) 0] 1)) (some (.cells false [.o (.i .i64 (tLo l)) 0, .o (.i .i64 (tHi n l)) 0] 1))
def Lns.base {σ : Type} (S : Lns σ) (s : σ) : T C := trL (S.o 1 s) (S.o 2 s) (S.o 3 s) (S.o 4 s) (S.o 5 s) (S.o 6 s) (S.o 7 s) (S.o 8 s) (S.o 9 s) (S.o 10 s) (S.o 11 s) (S.o 12 s) (S.o 13 s) (S.o 14 s) (S.o 15 s) (S.o 16 s) (S.o 17 s) none none none
theorem Lns.le {σ : Type} (S : Lns σ) (n : Int) (l : Ln) (s : σ) : T.le (S.base s) (S.ob n l s) := by
  unfold Lns.base Lns.ob trL
  repeat' first | exact T.le_refl _ | exact T.le_e _ | refine T.le_same ?_ ?_ | refine T.le_none ?_ ?_
structure LnsOk {σ : Type} (S : Lns σ) (y : Pos) (I : List Ln → σ → Prop) (R : σ → Ln → σ → Bool → Prop) (n : Int) (l : Ln) : Prop where
  yl : y.nat < 18
  kp : ∀ s, KpO 18 (S.base s)
  inv : ∀ h s a s', h ++ [a] <+: rdsL n l → I h s → R s a s' true → I (h ++ [a]) s'
  rnd : ∀ h s, I h s → ∀ a, h ++ [a] <+: rdsL n l → ∀ (sl : T D) (d : Option Pos) (K : X → Prop), (∀ s' g, R s a s' g → wDst sl (S.ob n l s') nb5 none d K (.b g)) → WRnd Try.prog y [.ag [.i .i64 a.k, .i .i64 a.c, .i .i64 a.t]] d ⟨sl, S.ob n l s, nb5, none⟩ K
def iS (y : Pos) (row : List D) (l : Ln) (a : Int) : T D := (.n (.n (.n (.n .e (some (.i .i64 a)) .e) none .e) (some (.pl row 0)) (.n .e (some (.pt nb3 0 0)) .e)) (some (.yl y)) (.n (.n .e (some (.pt nb2 0 0)) .e) (some (.pl (ln3 l) 0)) (.n .e (some (.pt nb4 0 0)) .e)))
def iS2 (y : Pos) (row : List D) (l : Ln) (a b : Int) : T D := (.n (.n (.n (.n .e (some (.i .i64 a)) .e) none .e) (some (.pl row 0)) (.n .e (some (.pt nb3 0 0)) .e)) (some (.yl y)) (.n (.n (.n .e (some (.i .i64 b)) .e) (some (.pt nb2 0 0)) .e) (some (.pl (ln3 l) 0)) (.n .e (some (.pt nb4 0 0)) .e)))
def iS3 (y : Pos) (row : List D) (l : Ln) (a b c : Int) : T D := (.n (.n (.n (.n .e (some (.i .i64 a)) .e) none .e) (some (.pl row 0)) (.n (.n .e (some (.i .i64 c)) .e) (some (.pt nb3 0 0)) .e)) (some (.yl y)) (.n (.n (.n .e (some (.i .i64 b)) .e) (some (.pt nb2 0 0)) .e) (some (.pl (ln3 l) 0)) (.n .e (some (.pt nb4 0 0)) .e)))
theorem iS_kp {y : Pos} (hy : y.nat < 18) {row : List D} (h : PuL row) (l : Ln) (a : Int) : ∀ s d, (iS y row l a).get s = some d → Kp nb5.nat d := by
  show TAll (fun _ d => Kp nb5.nat d) (iS y row l a)
  unfold iS
  repeat' first | exact TAll.e | refine TAll.some ?_ ?_ ?_ | refine TAll.none ?_ ?_
  all_goals simp [Kp, KpL, Pu, PuL, h, ln3, nb2, nb3, nb4, nb5, Pos.nat]
  all_goals omega
theorem iS2_kp {y : Pos} (hy : y.nat < 18) {row : List D} (h : PuL row) (l : Ln) (a b : Int) : ∀ s d, (iS2 y row l a b).get s = some d → Kp nb5.nat d := by
  show TAll (fun _ d => Kp nb5.nat d) (iS2 y row l a b)
  unfold iS2
  repeat' first | exact TAll.e | refine TAll.some ?_ ?_ ?_ | refine TAll.none ?_ ?_
  all_goals simp [Kp, KpL, Pu, PuL, h, ln3, nb2, nb3, nb4, nb5, Pos.nat]
  all_goals omega
theorem iS3_kp {y : Pos} (hy : y.nat < 18) {row : List D} (h : PuL row) (l : Ln) (a b c : Int) : ∀ s d, (iS3 y row l a b c).get s = some d → Kp nb5.nat d := by
  show TAll (fun _ d => Kp nb5.nat d) (iS3 y row l a b c)
  unfold iS3
  repeat' first | exact TAll.e | refine TAll.some ?_ ?_ ?_ | refine TAll.none ?_ ?_
  all_goals simp [Kp, KpL, Pu, PuL, h, ln3, nb2, nb3, nb4, nb5, Pos.nat]
  all_goals omega
theorem ob_kp {σ : Type} {S : Lns σ} {n : Int} {l : Ln} (h : ∀ s, KpO 18 (S.base s)) (s : σ) : KpO nb5.nat (S.ob n l s) := by
  intro id c hc
  by_cases e1 : id = nb2
  · subst e1
    have hc : some (.cells false [.o (.i .i64 (kLo l)) 0, .o (.i .i64 (kHi l)) 0] 1) = some c := hc
    cases hc
    exact ⟨by simp [nb2, nb5, Pos.nat], fun c hc => by simp at hc; rcases hc with rfl | rfl <;> trivial⟩
  by_cases e2 : id = nb3
  · subst e2
    have hc : some (.cells false [.o (.i .i64 (cLo l)) 0, .o (.i .i64 (cHi n l)) 0] 1) = some c := hc
    cases hc
    exact ⟨by simp [nb3, nb5, Pos.nat], fun c hc => by simp at hc; rcases hc with rfl | rfl <;> trivial⟩
  by_cases e3 : id = nb4
  · subst e3
    have hc : some (.cells false [.o (.i .i64 (tLo l)) 0, .o (.i .i64 (tHi n l)) 0] 1) = some c := hc
    cases hc
    exact ⟨by simp [nb4, nb5, Pos.nat], fun c hc => by simp at hc; rcases hc with rfl | rfl <;> trivial⟩
  have hb : (S.base s).get id = some c := by
    rw [← hc]
    exact (trL_at e1 e2 e3).symm
  obtain ⟨h1, h2⟩ := h s id c hb
  exact ⟨Nat.lt_trans h1 (by simp [nb5, Pos.nat]), h2.up (by simp [nb5, Pos.nat])⟩
end Go.Ev

namespace Go.Ev
open Go.Proofs
set_option maxRecDepth 100000
theorem j_itL {σ : Type} (S : Lns σ) (y : Pos) (I : List Ln → σ → Prop) (R : σ → Ln → σ → Bool → Prop) (n coin box : Int) (ls : List Ln) (cs : List Ct) (hn : 1 ≤ n ∧ n ≤ 4) (l : Ln) (hk : 0 ≤ l.k ∧ l.k ≤ 2) (hc : -1 ≤ l.c ∧ l.c ≤ 3) (ht : -1 ≤ l.t ∧ l.t ≤ 3) (H : LnsOk S y I R n l) (s0 : σ) (i0 : I [] s0) :
    ∃ v ob', (∃ s' g, Fld R (rdsL n l) s0 s' g ∧ v = .tp [] ∧ ob' = S.base s') ∧ CallOk Try.prog p135.ix [.yl y, .pl (wk6 n coin box ls cs) 0, .pl (ln3 l) 0] (S.base s0) nb2 none v ob' nb2 none := by
  have hrow := pu_wk6 n coin box ls cs
  have hy := H.yl
  have b1 : 1 ≤ kLo l ∧ kLo l ≤ kHi l ∧ kHi l ≤ 2 := by
    unfold kLo kHi
    split <;> omega
  have b2 : 0 ≤ cLo l ∧ cLo l ≤ cHi n l ∧ cHi n l ≤ 3 := by
    unfold cLo cHi
    split <;> omega
  have b3 : 0 ≤ tLo l ∧ tLo l ≤ tHi n l ∧ tHi n l ≤ 3 := by
    unfold tLo tHi
    split <;> omega
  refine CallOk.runE fn134 (by simp) (Nat.le_refl _) ?_
  unfold Lns.base trL
  conv => whnf
  repeat' first | ((first | with_reducible apply WB.tt | with_reducible apply WB.ff | refine Rn.seq ?_ | refine Rn.reg ?_ | refine Rn.drw ?_ | refine Rn.blk ?_ | refine Rn.skip ?_ | refine Rn.ret ?_ | refine Rn.exit ?_ | refine Rn.cond rfl ?_ | refine And.intro (InR.i64 (by omega) (by omega)) ?_ | refine And.intro (show _ ≠ (0 : Int) by omega) ?_ | refine WIx.intsN (by omega) ?_ | refine WIx.rowsN (by omega) ?_ | refine WCall.pure (j_signs n coin box ls cs hn l) ?_) <;> conv => whnf)
  refine Rn.loop (fun t : Nat × σ => ⟨iS y (wk6 n coin box ls cs) l (kLo l + (t.1 : Int)), S.ob n l t.2, nb5, none⟩) (fun t => t.1 ≤ (kHi l + 1 - kLo l).toNat ∧ I (PA n l t.1) t.2 ∧ Fld R (PA n l t.1) s0 t.2 true) (fun t => (kHi l + 1 - kLo l).toNat - t.1) (0, s0) ?_ ?_ ?_
  · refine X.le.mk ?_ ?_ (Nat.le_refl _) rfl rfl
    · unfold iS
      simp only [Int.natCast_zero, Int.add_zero]
      repeat' first | exact T.le_e _ | refine T.le_some ?_ rfl ?_ | refine T.le_none ?_ ?_
    · unfold Lns.ob trL
      repeat' first | exact T.le_refl _ | exact T.le_e _ | refine T.le_some ?_ rfl ?_ | refine T.le_same ?_ ?_ | refine T.le_none ?_ ?_
  · exact ⟨by omega, i0, .nil⟩
  rintro ⟨i, s1⟩ ⟨i1, i2, i3⟩
  have i1 : i ≤ (kHi l + 1 - kLo l).toNat := i1
  have i2 : I (PA n l i) s1 := i2
  have i3 : Fld R (PA n l i) s0 s1 true := i3
  conv => whnf
  repeat' first | ((first | with_reducible apply WB.tt | with_reducible apply WB.ff | refine Rn.seq ?_ | refine Rn.reg ?_ | refine Rn.drw ?_ | refine Rn.blk ?_ | refine Rn.skip ?_ | refine Rn.ret ?_ | refine Rn.exit ?_ | refine Rn.cond rfl ?_ | refine And.intro (InR.i64 (by omega) (by omega)) ?_ | refine And.intro (show _ ≠ (0 : Int) by omega) ?_ | refine WIx.intsN (by omega) ?_ | refine WIx.rowsN (by omega) ?_) <;> conv => whnf)
  refine WB.dec (fun h => ?_) (fun h => ?_) <;> conv => whnf
  · have hi : i < (kHi l + 1 - kLo l).toNat := by omega
    repeat' first | ((first | with_reducible apply WB.tt | with_reducible apply WB.ff | refine Rn.seq ?_ | refine Rn.reg ?_ | refine Rn.drw ?_ | refine Rn.blk ?_ | refine Rn.skip ?_ | refine Rn.ret ?_ | refine Rn.exit ?_ | refine Rn.cond rfl ?_ | refine And.intro (InR.i64 (by omega) (by omega)) ?_ | refine And.intro (show _ ≠ (0 : Int) by omega) ?_ | refine WIx.intsN (by omega) ?_ | refine WIx.rowsN (by omega) ?_) <;> conv => whnf)
    refine Rn.loop (fun t : Nat × σ => ⟨iS2 y (wk6 n coin box ls cs) l (kLo l + (i : Int)) (cLo l + (t.1 : Int)), S.ob n l t.2, nb5, none⟩) (fun t => t.1 ≤ (cHi n l + 1 - cLo l).toNat ∧ I (PA n l i ++ PB n l (kLo l + (i : Int)) t.1) t.2 ∧ Fld R (PA n l i ++ PB n l (kLo l + (i : Int)) t.1) s0 t.2 true) (fun t => (cHi n l + 1 - cLo l).toNat - t.1) (0, s1) ?_ ?_ ?_
    · refine X.le.mk ?_ (T.le_refl _) (Nat.le_refl _) rfl rfl
      unfold iS2
      simp only [Int.natCast_zero, Int.add_zero]
      repeat' first | exact T.le_e _ | refine T.le_some ?_ rfl ?_ | refine T.le_none ?_ ?_
    · exact ⟨by omega, by simpa [PB] using i2, by simpa [PB] using i3⟩
    rintro ⟨j, s2⟩ ⟨j1, j2, j3⟩
    have j1 : j ≤ (cHi n l + 1 - cLo l).toNat := j1
    have j2 : I (PA n l i ++ PB n l (kLo l + (i : Int)) j) s2 := j2
    have j3 : Fld R (PA n l i ++ PB n l (kLo l + (i : Int)) j) s0 s2 true := j3
    conv => whnf
    repeat' first | ((first | with_reducible apply WB.tt | with_reducible apply WB.ff | refine Rn.seq ?_ | refine Rn.reg ?_ | refine Rn.drw ?_ | refine Rn.blk ?_ | refine Rn.skip ?_ | refine Rn.ret ?_ | refine Rn.exit ?_ | refine Rn.cond rfl ?_ | refine And.intro (InR.i64 (by omega) (by omega)) ?_ | refine And.intro (show _ ≠ (0 : Int) by omega) ?_ | refine WIx.intsN (by omega) ?_ | refine WIx.rowsN (by omega) ?_) <;> conv => whnf)
    refine WB.dec (fun h => ?_) (fun h => ?_) <;> conv => whnf
    · have hj : j < (cHi n l + 1 - cLo l).toNat := by omega
      repeat' first | ((first | with_reducible apply WB.tt | with_reducible apply WB.ff | refine Rn.seq ?_ | refine Rn.reg ?_ | refine Rn.drw ?_ | refine Rn.blk ?_ | refine Rn.skip ?_ | refine Rn.ret ?_ | refine Rn.exit ?_ | refine Rn.cond rfl ?_ | refine And.intro (InR.i64 (by omega) (by omega)) ?_ | refine And.intro (show _ ≠ (0 : Int) by omega) ?_ | refine WIx.intsN (by omega) ?_ | refine WIx.rowsN (by omega) ?_) <;> conv => whnf)
      refine Rn.loop (fun t : Nat × σ => ⟨iS3 y (wk6 n coin box ls cs) l (kLo l + (i : Int)) (cLo l + (j : Int)) (tLo l + (t.1 : Int)), S.ob n l t.2, nb5, none⟩) (fun t => t.1 ≤ (tHi n l + 1 - tLo l).toNat ∧ I (PA n l i ++ (PB n l (kLo l + (i : Int)) j ++ PC n l (kLo l + (i : Int)) (cLo l + (j : Int)) t.1)) t.2 ∧ Fld R (PA n l i ++ (PB n l (kLo l + (i : Int)) j ++ PC n l (kLo l + (i : Int)) (cLo l + (j : Int)) t.1)) s0 t.2 true) (fun t => (tHi n l + 1 - tLo l).toNat - t.1) (0, s2) ?_ ?_ ?_
      · refine X.le.mk ?_ (T.le_refl _) (Nat.le_refl _) rfl rfl
        unfold iS3
        simp only [Int.natCast_zero, Int.add_zero]
        repeat' first | exact T.le_e _ | refine T.le_some ?_ rfl ?_ | refine T.le_none ?_ ?_
      · exact ⟨by omega, by simpa [PC] using j2, by simpa [PC] using j3⟩
      rintro ⟨q, s3⟩ ⟨q1, q2, q3⟩
      have q1 : q ≤ (tHi n l + 1 - tLo l).toNat := q1
      have q2 : I (PA n l i ++ (PB n l (kLo l + (i : Int)) j ++ PC n l (kLo l + (i : Int)) (cLo l + (j : Int)) q)) s3 := q2
      have q3 : Fld R (PA n l i ++ (PB n l (kLo l + (i : Int)) j ++ PC n l (kLo l + (i : Int)) (cLo l + (j : Int)) q)) s0 s3 true := q3
      conv => whnf
      repeat' first | ((first | with_reducible apply WB.tt | with_reducible apply WB.ff | refine Rn.seq ?_ | refine Rn.reg ?_ | refine Rn.drw ?_ | refine Rn.blk ?_ | refine Rn.skip ?_ | refine Rn.ret ?_ | refine Rn.exit ?_ | refine Rn.cond rfl ?_ | refine And.intro (InR.i64 (by omega) (by omega)) ?_ | refine And.intro (show _ ≠ (0 : Int) by omega) ?_ | refine WIx.intsN (by omega) ?_ | refine WIx.rowsN (by omega) ?_) <;> conv => whnf)
      refine WB.dec (fun h => ?_) (fun h => ?_) <;> conv => whnf
      · have hq : q < (tHi n l + 1 - tLo l).toNat := by omega
        have hpc : PA n l i ++ (PB n l (kLo l + (i : Int)) j ++ PC n l (kLo l + (i : Int)) (cLo l + (j : Int)) (q + 1)) = PA n l i ++ (PB n l (kLo l + (i : Int)) j ++ PC n l (kLo l + (i : Int)) (cLo l + (j : Int)) q) ++ [⟨kLo l + (i : Int), cLo l + (j : Int), tLo l + (q : Int)⟩] := by
          rw [PC_succ hq, List.append_assoc, List.append_assoc]
        have hx := pre_all (q := q + 1) hi hj
        rw [hpc] at hx
        have hone : ∀ s' g, R s3 ⟨kLo l + (i : Int), cLo l + (j : Int), tLo l + (q : Int)⟩ s' g → Fld R (PA n l i ++ (PB n l (kLo l + (i : Int)) j ++ PC n l (kLo l + (i : Int)) (cLo l + (j : Int)) (q + 1))) s0 s' g := fun s' g h => by
          rw [hpc]
          refine Fld.app q3 ?_
          cases g with
          | true => exact .go h .nil
          | false => exact .stop h
        repeat' first | ((first | with_reducible apply WB.tt | with_reducible apply WB.ff | refine Rn.seq ?_ | refine Rn.reg ?_ | refine Rn.drw ?_ | refine Rn.blk ?_ | refine Rn.skip ?_ | refine Rn.ret ?_ | refine Rn.exit ?_ | refine Rn.cond rfl ?_ | refine And.intro (InR.i64 (by omega) (by omega)) ?_ | refine And.intro (show _ ≠ (0 : Int) by omega) ?_ | refine WIx.intsN (by omega) ?_ | refine WIx.rowsN (by omega) ?_) <;> conv => whnf)
        refine H.rnd _ s3 q2 ⟨kLo l + (i : Int), cLo l + (j : Int), tLo l + (q : Int)⟩ hx _ _ _ (fun s' g h => ?_)
        cases g with
        | false =>
          conv => whnf
          repeat' first | ((first | with_reducible apply WB.tt | with_reducible apply WB.ff | refine Rn.seq ?_ | refine Rn.reg ?_ | refine Rn.drw ?_ | refine Rn.blk ?_ | refine Rn.skip ?_ | refine Rn.ret ?_ | refine Rn.exit ?_ | refine Rn.cond rfl ?_ | refine And.intro (InR.i64 (by omega) (by omega)) ?_ | refine And.intro (show _ ≠ (0 : Int) by omega) ?_ | refine WIx.intsN (by omega) ?_ | refine WIx.rowsN (by omega) ?_ | with_reducible refine WB.decT (by first | with_reducible rfl | assumption | omega | exact ⟨rfl, rfl⟩) ?_ | with_reducible refine WB.decF (by first | assumption | omega) ?_ | with_reducible refine WB.ndT (by first | with_reducible rfl | assumption | omega | exact ⟨rfl, rfl⟩) ?_ | with_reducible refine WB.ndF (by first | assumption | omega) ?_ | with_reducible refine WB.nt ?_ | with_reducible refine WB.nf ?_ | with_reducible refine WB.dec (fun h => ?_) (fun h => ?_) | with_reducible refine WB.ndec (fun h => ?_) (fun h => ?_) | refine WB.mk (fun h => ?_) (fun h => ?_)) <;> conv => whnf)
          obtain ⟨rest, hrest⟩ := pre_all (q := q + 1) hi hj
          refine ⟨_, _, ⟨s', false, by rw [← hrest]; exact (hone s' false h).cut rest, rfl, rfl⟩, ⟨.inr rfl, ⟨_, rfl, .pu trivial⟩, Shr.kp (S.le n l s') ((H.kp s').up (by simp [nb2, Pos.nat]))⟩⟩
        | true =>
          conv => whnf
          repeat' first | ((first | with_reducible apply WB.tt | with_reducible apply WB.ff | refine Rn.seq ?_ | refine Rn.reg ?_ | refine Rn.drw ?_ | refine Rn.blk ?_ | refine Rn.skip ?_ | refine Rn.ret ?_ | refine Rn.exit ?_ | refine Rn.cond rfl ?_ | refine And.intro (InR.i64 (by omega) (by omega)) ?_ | refine And.intro (show _ ≠ (0 : Int) by omega) ?_ | refine WIx.intsN (by omega) ?_ | refine WIx.rowsN (by omega) ?_ | with_reducible refine WB.decT (by first | with_reducible rfl | assumption | omega | exact ⟨rfl, rfl⟩) ?_ | with_reducible refine WB.decF (by first | assumption | omega) ?_ | with_reducible refine WB.ndT (by first | with_reducible rfl | assumption | omega | exact ⟨rfl, rfl⟩) ?_ | with_reducible refine WB.ndF (by first | assumption | omega) ?_ | with_reducible refine WB.nt ?_ | with_reducible refine WB.nf ?_ | with_reducible refine WB.dec (fun h => ?_) (fun h => ?_) | with_reducible refine WB.ndec (fun h => ?_) (fun h => ?_) | refine WB.mk (fun h => ?_) (fun h => ?_)) <;> conv => whnf)
          refine Again.to (q + 1, s') (show _ - (q + 1) < _ - q by omega) ⟨show q + 1 ≤ _ by omega, by rw [hpc]; exact H.inv _ _ _ _ hx q2 h, hone s' true h⟩ (Nat.le_refl _) (Shr.kp2 ?_ (iS3_kp hy hrow _ _ _ _) (T.le_refl _) (ob_kp H.kp _))
          show T.le (iS3 y (wk6 n coin box ls cs) l (kLo l + (i : Int)) (cLo l + (j : Int)) (tLo l + ((q + 1 : Nat) : Int))) _
          rw [show tLo l + ((q + 1 : Nat) : Int) = tLo l + (q : Int) + 1 by omega]
          (unfold iS3; repeat' first | exact T.le_e _ | refine T.le_some ?_ rfl ?_ | refine T.le_none ?_ ?_)
      · repeat' first | ((first | with_reducible apply WB.tt | with_reducible apply WB.ff | refine Rn.seq ?_ | refine Rn.reg ?_ | refine Rn.drw ?_ | refine Rn.blk ?_ | refine Rn.skip ?_ | refine Rn.ret ?_ | refine Rn.exit ?_ | refine Rn.cond rfl ?_ | refine And.intro (InR.i64 (by omega) (by omega)) ?_ | refine And.intro (show _ ≠ (0 : Int) by omega) ?_ | refine WIx.intsN (by omega) ?_ | refine WIx.rowsN (by omega) ?_) <;> conv => whnf)
        refine Again.to (j + 1, s3) (show _ - (j + 1) < _ - j by omega) ⟨show j + 1 ≤ _ by omega, by show I (PA n l i ++ PB n l (kLo l + (i : Int)) (j + 1)) s3; rw [PB_succ hj, ← PC_all (q := q) (by omega)]; exact q2, ?_⟩ (Nat.le_refl _) (Shr.kp2 ?_ (iS2_kp hy hrow _ _ _) (T.le_refl _) (ob_kp H.kp _))
        · show Fld R (PA n l i ++ PB n l (kLo l + (i : Int)) (j + 1)) s0 s3 true
          rw [PB_succ hj, ← PC_all (q := q) (by omega)]
          exact q3
        · show T.le (iS2 y (wk6 n coin box ls cs) l (kLo l + (i : Int)) (cLo l + ((j + 1 : Nat) : Int))) _
          rw [show cLo l + ((j + 1 : Nat) : Int) = cLo l + (j : Int) + 1 by omega]
          (unfold iS2; repeat' first | exact T.le_e _ | refine T.le_some ?_ rfl ?_ | refine T.le_none ?_ ?_)
    · repeat' first | ((first | with_reducible apply WB.tt | with_reducible apply WB.ff | refine Rn.seq ?_ | refine Rn.reg ?_ | refine Rn.drw ?_ | refine Rn.blk ?_ | refine Rn.skip ?_ | refine Rn.ret ?_ | refine Rn.exit ?_ | refine Rn.cond rfl ?_ | refine And.intro (InR.i64 (by omega) (by omega)) ?_ | refine And.intro (show _ ≠ (0 : Int) by omega) ?_ | refine WIx.intsN (by omega) ?_ | refine WIx.rowsN (by omega) ?_) <;> conv => whnf)
      refine Again.to (i + 1, s2) (show _ - (i + 1) < _ - i by omega) ⟨show i + 1 ≤ _ by omega, by show I (PA n l (i + 1)) s2; rw [PA_succ hi, ← PB_all (j := j) (by omega)]; exact j2, ?_⟩ (Nat.le_refl _) (Shr.kp2 ?_ (iS_kp hy hrow _ _) (T.le_refl _) (ob_kp H.kp _))
      · show Fld R (PA n l (i + 1)) s0 s2 true
        rw [PA_succ hi, ← PB_all (j := j) (by omega)]
        exact j3
      · show T.le (iS y (wk6 n coin box ls cs) l (kLo l + ((i + 1 : Nat) : Int))) _
        rw [show kLo l + ((i + 1 : Nat) : Int) = kLo l + (i : Int) + 1 by omega]
        (unfold iS; repeat' first | exact T.le_e _ | refine T.le_some ?_ rfl ?_ | refine T.le_none ?_ ?_)
  · repeat' first | ((first | with_reducible apply WB.tt | with_reducible apply WB.ff | refine Rn.seq ?_ | refine Rn.reg ?_ | refine Rn.drw ?_ | refine Rn.blk ?_ | refine Rn.skip ?_ | refine Rn.ret ?_ | refine Rn.exit ?_ | refine Rn.cond rfl ?_ | refine And.intro (InR.i64 (by omega) (by omega)) ?_ | refine And.intro (show _ ≠ (0 : Int) by omega) ?_ | refine WIx.intsN (by omega) ?_ | refine WIx.rowsN (by omega) ?_) <;> conv => whnf)
    refine ⟨_, _, ⟨s1, true, by rw [← PA_all (i := i) (by omega)]; exact i3, rfl, rfl⟩, ⟨.inl rfl, ⟨_, rfl, .pu trivial⟩, Shr.kp (S.le n l s1) ((H.kp s1).up (by simp [nb2, Pos.nat]))⟩⟩
end Go.Ev

namespace Go.Ev
open Go.Proofs
set_option maxRecDepth 100000
structure Mns (σ : Type) where
  o : Nat → σ → Option C
def Mns.base {σ : Type} (S : Mns σ) (s : σ) : T C := trL (S.o 1 s) (S.o 2 s) (S.o 3 s) (S.o 4 s) (S.o 5 s) (S.o 6 s) (S.o 7 s) (S.o 8 s) (S.o 9 s) (S.o 10 s) (S.o 11 s) (S.o 12 s) (S.o 13 s) (S.o 14 s) (S.o 15 s) none none none none none
structure MnsOk {σ : Type} (S : Mns σ) (y : Pos) (I : List Mo → σ → Prop) (R : σ → Mo → σ → Bool → Prop) (W : List Mo) : Prop where
  yl : y.nat < 16
  kp : ∀ s, KpO 16 (S.base s)
  inv : ∀ h s a s', h ++ [a] <+: W → I h s → R s a s' true → I (h ++ [a]) s'
  rnd : ∀ h s, I h s → ∀ a, h ++ [a] <+: W → ∃ g ob', (∃ s', R s a s' g ∧ ob' = S.base s') ∧ RndOk Try.prog y [.ag (moD a)] (S.base s) nb0 none (.b g) ob' nb0 none
def nxS (row mrow lrow : List D) : T D := (.n (.n (.n (.n (.n .e (some (.fn p135 [] [.pl row 0, .pl lrow 0])) .e) none .e) (some (.pt nb0 0 0)) .e) (some (.pl row 0)) .e) none (.n .e (some (.pl mrow 0)) .e))
noncomputable def nxL {σ : Type} (S : Mns σ) (y : Pos) (row mrow lrow : List D) : Lns (σ × Bool) where
  o := fun i t => match i with
    | 16 => some (.cells false [.o (.yl y) 0] 1)
    | 17 => some (.lp (nxS row mrow lrow) [p17] 31 (rfA (bodyC Try.f155) 0) (rfB (bodyC Try.f155) 0) (bif t.2 then .done else .ready) (bif t.2 then some .ret else none))
    | i => S.o i t.1
def nxR {σ : Type} (R : σ → Mo → σ → Bool → Prop) (coin : Int) (m : Mo) (t : σ × Bool) (a : Ln) (t' : σ × Bool) (g : Bool) : Prop :=
  ((aftM coin m a).2 = false ∧ t' = t ∧ g = true) ∨ ((aftM coin m a).2 = true ∧ R t.1 (aftM coin m a).1 t'.1 g ∧ t'.2 = !g)
theorem nxS_kp {row mrow lrow : List D} (h : PuL row) (h' : PuL mrow) (h2 : PuL lrow) {q : Nat} (hq : 17 ≤ q) : ∀ s d, (nxS row mrow lrow).get s = some d → Kp q d := by
  show TAll (fun _ d => Kp q d) (nxS row mrow lrow)
  unfold nxS
  repeat' first | exact TAll.e | refine TAll.some ?_ ?_ ?_ | refine TAll.none ?_ ?_
  all_goals simp [Kp, KpL, Pu, PuL, h, h', h2, nb0, Pos.nat]
  all_goals omega
theorem nxB_kp {σ : Type} {S : Mns σ} {y : Pos} {row mrow lrow : List D} (hy : y.nat < 16) (hk : ∀ s, KpO 16 (S.base s)) (h : PuL row) (h' : PuL mrow) (h2 : PuL lrow) (t : σ × Bool) : KpO 18 ((nxL S y row mrow lrow).base t) := by
  intro id c hc
  rcases trL_of hc with rfl | rfl | ⟨h1, h3⟩
  · have hc : some (.cells false [.o (.yl y) 0] 1) = some c := hc
    cases hc
    refine ⟨by simp [nb0, Pos.nat], KpL.all ?_⟩
    simp [KpL, Kp, Cell.d]
    omega
  · have hc : some (.lp (nxS row mrow lrow) [p17] 31 (rfA (bodyC Try.f155) 0) (rfB (bodyC Try.f155) 0) (bif t.2 then .done else .ready) (bif t.2 then some .ret else none)) = some c := hc
    cases hc
    exact ⟨by simp [nb1, Pos.nat], nxS_kp h h' h2 (by omega)⟩
  · have : (S.base t.1).get id = some c := h3
    obtain ⟨q1, q2⟩ := hk t.1 id c this
    exact ⟨by omega, q2.up (by omega)⟩
end Go.Ev

namespace Go.Ev
open Go.Proofs
set_option maxRecDepth 100000
theorem mo_bds {B : Bk} (V : VB B) (T : List Ln) (i : Nat) (hi : i ≤ 8) : (0 ≤ (moR B.box B.coin T i).n ∧ (moR B.box B.coin T i).n ≤ 50) ∧ (-100000 ≤ (moR B.box B.coin T i).box ∧ (moR B.box B.coin T i).box ≤ 100000) ∧ (0 ≤ (moR B.box B.coin T i).mix ∧ (moR B.box B.coin T i).mix ≤ 50) ∧ ∀ q, 0 ≤ (moR B.box B.coin T i).h q ∧ (moR B.box B.coin T i).h q ≤ 50 := by
  have hm1 := monR_bd (T := T) V.box V.coin i
  have hm2 := mixR_bd (T := T) i
  refine ⟨⟨show 0 ≤ (i : Int) by omega, show (i : Int) ≤ 50 by omega⟩, ⟨show -100000 ≤ monR B.box B.coin T i by omega, show monR B.box B.coin T i ≤ 100000 by omega⟩, ⟨show 0 ≤ mixR T i by omega, show mixR T i ≤ 50 by omega⟩, fun q => ?_⟩
  have g1 := cOut_bd T (q : Int) i
  have g2 := tOut_bd T ((q - 4 : Nat) : Int) i
  show 0 ≤ (if q < 4 then cOut T (q : Int) i + 1 else tOut T ((q - 4 : Nat) : Int) i + 1) ∧ (if q < 4 then cOut T (q : Int) i + 1 else tOut T ((q - 4 : Nat) : Int) i + 1) ≤ 50
  split <;> omega
theorem aft_yes {B : Bk} {T : List Ln} {a : Ln} (hk : a.k = 1 ∨ a.k = 2) (hc : 0 ≤ a.c ∧ a.c ≤ 3) (ht : 0 ≤ a.t ∧ a.t ≤ 3) (hp : pos1 (T ++ [a]) T.length = true) : aftM B.coin (moR B.box B.coin T T.length) a = (moR B.box B.coin (T ++ [a]) (T ++ [a]).length, true) := by
  have h := aft_pos (box := B.box) (coin := B.coin) (T := T ++ [a]) (i := T.length) (by rw [app_last]; exact hk) (by rw [app_last]; exact hc) (by rw [app_last]; exact ht) hp
  rw [app_last, moR_same (SameTo.app T a)] at h
  rw [h, List.length_append, List.length_singleton]
theorem aft_not {B : Bk} {T : List Ln} {a : Ln} (hk : a.k = 1 ∨ a.k = 2) (hc : 0 ≤ a.c ∧ a.c ≤ 3) (ht : 0 ≤ a.t ∧ a.t ≤ 3) (hp : pos1 (T ++ [a]) T.length = false) : (aftM B.coin (moR B.box B.coin T T.length) a).2 = false := by
  have h := aft_no (box := B.box) (coin := B.coin) (T := T ++ [a]) (i := T.length) (by rw [app_last]; exact hk) (by rw [app_last]; exact hc) (by rw [app_last]; exact ht) hp
  rw [app_last, moR_same (SameTo.app T a)] at h
  exact h
def mo1 (B : Bk) (T : List Ln) : Mo := moR B.box B.coin T T.length
def nxH (B : Bk) (Q h : List Ln) : List Mo := ((h.filter fun a => pos1 (Q ++ [a]) Q.length).map fun a => Q ++ [a]).map (mo1 B)
theorem nxH_pre {B : Bk} {Q h : List Ln} (hp : h <+: rdsL B.n (B.ls.getD Q.length default)) : nxH B Q h <+: (stp B Q).map (mo1 B) := by
  obtain ⟨r, hr⟩ := hp
  unfold nxH stp
  rw [← hr, List.filter_append, List.map_append, List.map_append]
  exact List.prefix_append _ _
theorem nxH_yes {B : Bk} {Q h : List Ln} {a : Ln} (hp : pos1 (Q ++ [a]) Q.length = true) : nxH B Q (h ++ [a]) = nxH B Q h ++ [mo1 B (Q ++ [a])] := by
  unfold nxH
  rw [List.filter_append, List.map_append, List.map_append, List.filter_cons_of_pos (by rw [hp])]
  rfl
theorem nxH_no {B : Bk} {Q h : List Ln} {a : Ln} (hp : pos1 (Q ++ [a]) Q.length = false) : nxH B Q (h ++ [a]) = nxH B Q h := by
  unfold nxH
  rw [List.filter_append, List.filter_cons_of_neg (by rw [hp]; simp)]
  simp
theorem pre_rd {B : Bk} {Q h : List Ln} {a : Ln} (hp : h ++ [a] <+: rdsL B.n (B.ls.getD Q.length default)) : rdB B.n (B.ls.getD Q.length default) a = true := mem_rdsL.1 (hp.subset (by simp))
section
variable {σ : Type} {S : Mns σ} {y : Pos} {I : List Mo → σ → Prop} {R : σ → Mo → σ → Bool → Prop} {B : Bk} {T : List Ln}
theorem nx_ok (V : VB B) (hl : T.length < B.ls.length) (H : MnsOk S y I R ((stp B T).map (mo1 B))) :
    LnsOk (nxL S y (wk6 B.n B.coin B.box B.ls B.cs) (moD (mo1 B T)) (ln3 (B.ls.getD T.length default))) nb1 (fun h t => I (nxH B T h) t.1 ∧ t.2 = false) (nxR R B.coin (mo1 B T)) B.n (B.ls.getD T.length default) := by
  have hrow := pu_wk6 B.n B.coin B.box B.ls B.cs
  have hm := pu_moD (mo1 B T)
  have hln : PuL (ln3 (B.ls.getD T.length default)) := by simp [ln3, PuL, Pu]
  have kpB := nxB_kp (row := wk6 B.n B.coin B.box B.ls B.cs) (mrow := moD (mo1 B T)) (lrow := ln3 (B.ls.getD T.length default)) H.yl H.kp hrow hm hln
  refine ⟨by simp [nb1, Pos.nat], kpB, ?_, ?_⟩
  · rintro h ⟨s, f⟩ a ⟨s', f'⟩ hp ⟨h1, h2⟩ hR
    have ha := pre_rd hp
    obtain ⟨hk, hc, ht⟩ := V.rd hl ha
    cases hpos : pos1 (T ++ [a]) T.length with
    | true =>
      have e2 : aftM B.coin (mo1 B T) a = (mo1 B (T ++ [a]), true) := aft_yes (B := B) hk hc ht hpos
      rcases hR with ⟨q1, _⟩ | ⟨_, q2, q3⟩
      · rw [e2] at q1; cases q1
      · rw [e2] at q2
        have hp2 := nxH_pre hp
        rw [nxH_yes hpos] at hp2
        refine ⟨?_, q3⟩
        rw [nxH_yes hpos]
        exact H.inv _ s _ s' hp2 h1 q2
    | false =>
      have e2 : (aftM B.coin (mo1 B T) a).2 = false := aft_not (B := B) hk hc ht hpos
      rcases hR with ⟨_, q2, _⟩ | ⟨q1, _⟩
      · rw [q2, nxH_no hpos]; exact ⟨h1, h2⟩
      · rw [e2] at q1; cases q1
  · rintro h ⟨s, f⟩ ⟨h1, h2⟩ a hpre sl d K k
    have ha := pre_rd hpre
    have h2 : f = false := h2
    subst h2
    have h1 : I (nxH B T h) s := h1
    obtain ⟨hk, hc, ht⟩ := V.rd hl ha
    have hlen := V.len
    obtain ⟨m1, m2, m3, m4⟩ := mo_bds V T T.length (by omega)
    have cA := j_after B.n B.coin B.box B.ls B.cs (mo1 B T) a V.coin m1 m2 m3 m4 hc ht
    refine WRnd.run (id := nb1) rfl rc155a0_ok rc155b0_ok ⟨_, rfl, ?_⟩
    unfold Lns.ob trL nxL nxS
    conv => whnf
    repeat' first | ((first | with_reducible apply WB.tt | with_reducible apply WB.ff | refine Rn.seq ?_ | refine Rn.reg ?_ | refine Rn.drw ?_ | refine Rn.blk ?_ | refine Rn.skip ?_ | refine Rn.ret ?_ | refine Rn.exit ?_ | refine Rn.cond rfl ?_ | refine And.intro (InR.i64 (by omega) (by omega)) ?_ | refine And.intro (show _ ≠ (0 : Int) by omega) ?_ | refine WIx.intsN (by omega) ?_ | refine WIx.rowsN (by omega) ?_) <;> conv => whnf)
    refine ⟨rfl, rfl, _, _, _, _, _, _, rfl, ?_⟩
    conv => whnf
    cases hp : pos1 (T ++ [a]) T.length with
    | false =>
      have e2 := aft_not (B := B) hk hc ht hp
      have e2 : (aftM B.coin (mo1 B T) a).2 = false := e2
      rw [e2] at cA
      repeat' first | ((first | with_reducible apply WB.tt | with_reducible apply WB.ff | refine Rn.seq ?_ | refine Rn.reg ?_ | refine Rn.drw ?_ | refine Rn.blk ?_ | refine Rn.skip ?_ | refine Rn.ret ?_ | refine Rn.exit ?_ | refine Rn.cond rfl ?_ | refine And.intro (InR.i64 (by omega) (by omega)) ?_ | refine And.intro (show _ ≠ (0 : Int) by omega) ?_ | refine WIx.intsN (by omega) ?_ | refine WIx.rowsN (by omega) ?_ | refine WCall.pure (cA) ?_ | with_reducible refine WB.decT (by first | with_reducible rfl | assumption | omega | exact ⟨rfl, rfl⟩) ?_ | with_reducible refine WB.decF (by first | assumption | omega) ?_ | with_reducible refine WB.ndT (by first | with_reducible rfl | assumption | omega | exact ⟨rfl, rfl⟩) ?_ | with_reducible refine WB.ndF (by first | assumption | omega) ?_ | with_reducible refine WB.nt ?_ | with_reducible refine WB.nf ?_ | with_reducible refine WB.dec (fun h => ?_) (fun h => ?_) | with_reducible refine WB.ndec (fun h => ?_) (fun h => ?_) | refine WB.mk (fun h => ?_) (fun h => ?_)) <;> conv => whnf)
      refine ⟨_, _, _, _, _, _, _, (nxL S y (wk6 B.n B.coin B.box B.ls B.cs) (moD (mo1 B T)) (ln3 (B.ls.getD T.length default))).ob B.n (B.ls.getD T.length default) (s, false), nb5, rfl, rfl, Shr.kp ?_ (ob_kp kpB _), Nat.le_refl _, k (s, false) true (.inl ⟨e2, rfl, rfl⟩)⟩
      unfold Lns.ob trL nxL nxS
      repeat' first | exact Go.Ev.T.le_refl _ | exact Go.Ev.T.le_e _ | refine Go.Ev.T.le_some ?_ rfl ?_ | refine Go.Ev.T.le_same ?_ ?_ | refine Go.Ev.T.le_none ?_ ?_
    | true =>
      have e2 := aft_yes (B := B) hk hc ht hp
      have e2 : aftM B.coin (mo1 B T) a = (mo1 B (T ++ [a]), true) := e2
      have hNa := nxH_pre hpre
      rw [nxH_yes hp] at hNa
      obtain ⟨g, _, ⟨s', hRs, rfl⟩, HR⟩ := H.rnd _ s h1 _ hNa
      have hR' : ∀ f', f' = !g → nxR R B.coin (mo1 B T) (s, false) a (s', f') g := fun f' hf => .inr ⟨by rw [e2], by rw [e2]; exact hRs, hf⟩
      rw [e2] at cA
      repeat' first | ((first | with_reducible apply WB.tt | with_reducible apply WB.ff | refine Rn.seq ?_ | refine Rn.reg ?_ | refine Rn.drw ?_ | refine Rn.blk ?_ | refine Rn.skip ?_ | refine Rn.ret ?_ | refine Rn.exit ?_ | refine Rn.cond rfl ?_ | refine And.intro (InR.i64 (by omega) (by omega)) ?_ | refine And.intro (show _ ≠ (0 : Int) by omega) ?_ | refine WIx.intsN (by omega) ?_ | refine WIx.rowsN (by omega) ?_ | refine WCall.pure (cA) ?_ | with_reducible refine WB.decT (by first | with_reducible rfl | assumption | omega | exact ⟨rfl, rfl⟩) ?_ | with_reducible refine WB.decF (by first | assumption | omega) ?_ | with_reducible refine WB.ndT (by first | with_reducible rfl | assumption | omega | exact ⟨rfl, rfl⟩) ?_ | with_reducible refine WB.ndF (by first | assumption | omega) ?_ | with_reducible refine WB.nt ?_ | with_reducible refine WB.nf ?_ | with_reducible refine WB.dec (fun h => ?_) (fun h => ?_) | with_reducible refine WB.ndec (fun h => ?_) (fun h => ?_) | refine WB.mk (fun h => ?_) (fun h => ?_)) <;> conv => whnf)
      refine WRnd.fr (obR' := trR (S.o 1 s') (S.o 2 s') (S.o 3 s') (S.o 4 s') (S.o 5 s') (S.o 6 s') (S.o 7 s') (S.o 8 s') (S.o 9 s') (S.o 10 s') (S.o 11 s') (S.o 12 s') (S.o 13 s') (S.o 14 s') (S.o 15 s') (some (.cells false [.o (.yl y) 0] 1)) (some (.lp (nxS (wk6 B.n B.coin B.box B.ls B.cs) (moD (mo1 B T)) (ln3 (B.ls.getD T.length default))) [p17] 31 (rfA (bodyC Try.f155) 0) (rfB (bodyC Try.f155) 0) .busy none)) (some (.cells false [.o (.i .i64 (kLo (B.ls.getD T.length default))) 0, .o (.i .i64 (kHi (B.ls.getD T.length default))) 0] 1)) (some (.cells false [.o (.i .i64 (cLo (B.ls.getD T.length default))) 0, .o (.i .i64 (cHi B.n (B.ls.getD T.length default))) 0] 1)) (some (.cells false [.o (.i .i64 (tLo (B.ls.getD T.length default))) 0, .o (.i .i64 (tHi B.n (B.ls.getD T.length default))) 0] 1)) (some (.cells false ([D.i .i64 a.k, .i .i64 a.c, .i .i64 a.t].map fun d => Cell.o d 0) 1)) (some (.cells false ((moD (mo1 B (T ++ [a]))).map fun d => Cell.o d 0) 1))) HR H.yl trR_le (H.kp s) (by simp only [KpL, and_true]; exact Kp.pu _ (pu_moD _)) trR_beside (by simp [nb0, Pos.nat]) (LgLe.refl _) (fun _ _ => trivial) ?_; conv => whnf
      cases g with
      | true =>
        repeat' first | ((first | with_reducible apply WB.tt | with_reducible apply WB.ff | refine Rn.seq ?_ | refine Rn.reg ?_ | refine Rn.drw ?_ | refine Rn.blk ?_ | refine Rn.skip ?_ | refine Rn.ret ?_ | refine Rn.exit ?_ | refine Rn.cond rfl ?_ | refine And.intro (InR.i64 (by omega) (by omega)) ?_ | refine And.intro (show _ ≠ (0 : Int) by omega) ?_ | refine WIx.intsN (by omega) ?_ | refine WIx.rowsN (by omega) ?_ | with_reducible refine WB.decT (by first | with_reducible rfl | assumption | omega | exact ⟨rfl, rfl⟩) ?_ | with_reducible refine WB.decF (by first | assumption | omega) ?_ | with_reducible refine WB.ndT (by first | with_reducible rfl | assumption | omega | exact ⟨rfl, rfl⟩) ?_ | with_reducible refine WB.ndF (by first | assumption | omega) ?_ | with_reducible refine WB.nt ?_ | with_reducible refine WB.nf ?_ | with_reducible refine WB.dec (fun h => ?_) (fun h => ?_) | with_reducible refine WB.ndec (fun h => ?_) (fun h => ?_) | refine WB.mk (fun h => ?_) (fun h => ?_)) <;> conv => whnf)
        refine ⟨_, _, _, _, _, _, _, (nxL S y (wk6 B.n B.coin B.box B.ls B.cs) (moD (mo1 B T)) (ln3 (B.ls.getD T.length default))).ob B.n (B.ls.getD T.length default) (s', false), nb5, rfl, rfl, Shr.kp ?_ (ob_kp kpB _), Nat.le_refl _, k (s', false) true (hR' _ rfl)⟩
        unfold Lns.ob trL nxL nxS
        repeat' first | exact Go.Ev.T.le_refl _ | exact Go.Ev.T.le_e _ | refine Go.Ev.T.le_some ?_ rfl ?_ | refine Go.Ev.T.le_same ?_ ?_ | refine Go.Ev.T.le_none ?_ ?_
      | false =>
        repeat' first | ((first | with_reducible apply WB.tt | with_reducible apply WB.ff | refine Rn.seq ?_ | refine Rn.reg ?_ | refine Rn.drw ?_ | refine Rn.blk ?_ | refine Rn.skip ?_ | refine Rn.ret ?_ | refine Rn.exit ?_ | refine Rn.cond rfl ?_ | refine And.intro (InR.i64 (by omega) (by omega)) ?_ | refine And.intro (show _ ≠ (0 : Int) by omega) ?_ | refine WIx.intsN (by omega) ?_ | refine WIx.rowsN (by omega) ?_ | with_reducible refine WB.decT (by first | with_reducible rfl | assumption | omega | exact ⟨rfl, rfl⟩) ?_ | with_reducible refine WB.decF (by first | assumption | omega) ?_ | with_reducible refine WB.ndT (by first | with_reducible rfl | assumption | omega | exact ⟨rfl, rfl⟩) ?_ | with_reducible refine WB.ndF (by first | assumption | omega) ?_ | with_reducible refine WB.nt ?_ | with_reducible refine WB.nf ?_ | with_reducible refine WB.dec (fun h => ?_) (fun h => ?_) | with_reducible refine WB.ndec (fun h => ?_) (fun h => ?_) | refine WB.mk (fun h => ?_) (fun h => ?_)) <;> conv => whnf)
        refine ⟨_, _, _, _, _, _, _, (nxL S y (wk6 B.n B.coin B.box B.ls B.cs) (moD (mo1 B T)) (ln3 (B.ls.getD T.length default))).ob B.n (B.ls.getD T.length default) (s', true), nb5, rfl, rfl, Shr.kp ?_ (ob_kp kpB _), Nat.le_refl _, k (s', true) false (hR' _ rfl)⟩
        unfold Lns.ob trL nxL nxS
        repeat' first | exact Go.Ev.T.le_refl _ | exact Go.Ev.T.le_e _ | refine Go.Ev.T.le_some ?_ rfl ?_ | refine Go.Ev.T.le_same ?_ ?_ | refine Go.Ev.T.le_none ?_ ?_
end
end Go.Ev
