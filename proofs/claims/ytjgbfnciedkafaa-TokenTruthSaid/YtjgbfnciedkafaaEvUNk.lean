import Derived.Test.YtjgbfnciedkafaaEvUNi
import Derived.Test.YtjgbfnciedkafaaEvUHa
import Derived.Test.YtjgbfnciedkafaaEvUFo
set_option linter.all false
set_option maxHeartbeats 8000000
noncomputable section
namespace Go.Ev
open Go.Proofs
set_option maxRecDepth 100000
theorem Vt {l' l : Ln} (h : pV l' l = true) : pV ⟨0, l'.c, l'.t⟩ l = true := by
 unfold pV at *
 simp only [Bool.and_eq_true, Bool.or_eq_true, decide_eq_true_iff] at h ⊢
 exact ⟨.inl trivial, h.2⟩
theorem VH {l' l : Ln} (h : pV l' l = true) : pV ⟨l'.k, -1, l'.t⟩ l = true := by
 unfold pV at *
 simp only [Bool.and_eq_true, Bool.or_eq_true, decide_eq_true_iff] at h ⊢
 exact ⟨h.1, .inl (by omega), h.2.2⟩
theorem TM {l' l : Ln} (h : pV l' l = true) : pV ⟨l'.k, l'.c, -1⟩ l = true := by
 unfold pV at *
 simp only [Bool.and_eq_true, Bool.or_eq_true, decide_eq_true_iff] at h ⊢
 exact ⟨h.1, h.2.1, .inl (by omega)⟩
theorem Vu {n : Int} {l' : Ln} (h : cL n l' = true) : cL n ⟨0, l'.c, l'.t⟩ = true := by
 unfold cL at *
 simp only [Bool.and_eq_true, aP] at h ⊢
 omega
theorem Uz {n : Int} {l' : Ln} (hn : 1 <= n) (h : cL n l' = true) : cL n ⟨l'.k, -1, l'.t⟩ = true := by
 unfold cL at *
 simp only [Bool.and_eq_true, aP] at h ⊢
 omega
theorem SJ {n : Int} {l' : Ln} (hn : 1 <= n) (h : cL n l' = true) : cL n ⟨l'.k, l'.c, -1⟩ = true := by
 unfold cL at *
 simp only [Bool.and_eq_true, aP] at h ⊢
 omega
theorem CR (n coin box : Int) (ls : List Ln) (cs : List Ct) (ws : List Int) (l l' : Ln) (i : Nat) (w : Int) (hw : 0 <= w /\ w <= 65535) (hn : 1 <= n /\ n <= 4) (hHI : HI n ([] : List Ln) ([] : List Ln)) (hTi : ([] : List Ln).length <= i) (hi7 : i <= 7) (hk : l.k = 1 \/ l.k = 2) (hc : 0 <= l.c /\ l.c < n) (ht : 0 <= l.t /\ l.t < n) (hp : dW (([] : List Ln) ++ [l]) = true) (hag : pV l' l = true) (hok : cL n l' = true) (K' : Ex -> X -> Prop) : Rn Try.prog 175 Kq (wA n coin box ls cs ws l l' i w) (Ho n coin box ls cs ws (i, ([] : List Ln), ([] : List Ln)) K') := by
 have d0 := Int.tdiv_nonneg hw.1 (show (0 : Int) <= 4096 by omega)
 have d1 : w.tdiv 4096 <= 65535 := by rw [Int.tdiv_eq_ediv_of_nonneg hw.1]; omega
 conv => whnf
 refine Rn.seq ?_; conv => whnf
 refine Rn.seq ?_; conv => whnf
 refine Rn.reg ?_; conv => whnf
 repeat' ((first | refine Qb ?_ | refine Qc ?_) <;> conv => whnf)
 refine Rn.cond rfl ?_; conv => whnf
 refine WB.dec (fun h => ?_) (fun h => ?_) <;> conv => whnf
 ·refine Rn.reg ?_; conv => whnf
  refine Rn.le (a := wA n coin box ls cs ws l ⟨0, l'.c, l'.t⟩ i w) (Cw n coin box ls cs ws l ⟨0, l'.c, l'.t⟩ i w hn hHI hTi hi7 hk hc ht hp (Vt hag) (Vu hok) K') ?_
  refine X.le.mk ?_ ?_ (Nat.le_refl _) rfl rfl
  ·exact Lw
  ·exact Lw
 ·refine Rn.skip ?_; conv => whnf
  refine Rn.le (a := wA n coin box ls cs ws l l' i w) (Cw n coin box ls cs ws l l' i w hn hHI hTi hi7 hk hc ht hp hag hok K') ?_
  refine X.le.mk ?_ ?_ (Nat.le_refl _) rfl rfl
  ·exact Lw
  ·exact Lw
theorem Fb (n coin box : Int) (ls : List Ln) (cs : List Ct) (ws : List Int) (l l' : Ln) (i : Nat) (w : Int) (hw : 0 <= w /\ w <= 65535) (hn : 1 <= n /\ n <= 4) (hHI : HI n ([] : List Ln) ([] : List Ln)) (hTi : ([] : List Ln).length <= i) (hi7 : i <= 7) (hk : l.k = 1 \/ l.k = 2) (hc : 0 <= l.c /\ l.c < n) (ht : 0 <= l.t /\ l.t < n) (hp : dW (([] : List Ln) ++ [l]) = true) (hag : pV l' l = true) (hok : cL n l' = true) (K' : Ex -> X -> Prop) : Rn Try.prog 175 ON (wA n coin box ls cs ws l l' i w) (Ho n coin box ls cs ws (i, ([] : List Ln), ([] : List Ln)) K') := by
 have d0 := Int.tdiv_nonneg hw.1 (show (0 : Int) <= 512 by omega)
 have d1 : w.tdiv 512 <= 65535 := by rw [Int.tdiv_eq_ediv_of_nonneg hw.1]; omega
 conv => whnf
 refine Rn.seq ?_; conv => whnf
 refine Rn.seq ?_; conv => whnf
 refine Rn.reg ?_; conv => whnf
 repeat' ((first | refine Qb ?_ | refine Qc ?_) <;> conv => whnf)
 refine Rn.cond rfl ?_; conv => whnf
 refine WB.dec (fun h => ?_) (fun h => ?_) <;> conv => whnf
 ·refine Rn.reg ?_; conv => whnf
  refine Rn.le (a := wA n coin box ls cs ws l ⟨l'.k, l'.c, -1⟩ i w) (CR n coin box ls cs ws l ⟨l'.k, l'.c, -1⟩ i w hw hn hHI hTi hi7 hk hc ht hp (TM hag) (SJ hn.1 hok) K') ?_
  refine X.le.mk ?_ ?_ (Nat.le_refl _) rfl rfl
  ·exact Lw
  ·exact Lw
 ·refine Rn.skip ?_; conv => whnf
  refine Rn.le (a := wA n coin box ls cs ws l l' i w) (CR n coin box ls cs ws l l' i w hw hn hHI hTi hi7 hk hc ht hp hag hok K') ?_
  refine X.le.mk ?_ ?_ (Nat.le_refl _) rfl rfl
  ·exact Lw
  ·exact Lw
theorem Ma (n coin box : Int) (ls : List Ln) (cs : List Ct) (ws : List Int) (l l' : Ln) (i : Nat) (w : Int) (hw : 0 <= w /\ w <= 65535) (hn : 1 <= n /\ n <= 4) (hHI : HI n ([] : List Ln) ([] : List Ln)) (hTi : ([] : List Ln).length <= i) (hi7 : i <= 7) (hk : l.k = 1 \/ l.k = 2) (hc : 0 <= l.c /\ l.c < n) (ht : 0 <= l.t /\ l.t < n) (hp : dW (([] : List Ln) ++ [l]) = true) (hag : pV l' l = true) (hok : cL n l' = true) (K' : Ex -> X -> Prop) : Rn Try.prog 175 PU (wA n coin box ls cs ws l l' i w) (Ho n coin box ls cs ws (i, ([] : List Ln), ([] : List Ln)) K') := by
 have d0 := Int.tdiv_nonneg hw.1 (show (0 : Int) <= 64 by omega)
 have d1 : w.tdiv 64 <= 65535 := by rw [Int.tdiv_eq_ediv_of_nonneg hw.1]; omega
 conv => whnf
 refine Rn.seq ?_; conv => whnf
 refine Rn.seq ?_; conv => whnf
 refine Rn.reg ?_; conv => whnf
 repeat' ((first | refine Qb ?_ | refine Qc ?_) <;> conv => whnf)
 refine Rn.cond rfl ?_; conv => whnf
 refine WB.dec (fun h => ?_) (fun h => ?_) <;> conv => whnf
 ·refine Rn.reg ?_; conv => whnf
  refine Rn.le (a := wA n coin box ls cs ws l ⟨l'.k, -1, l'.t⟩ i w) (Fb n coin box ls cs ws l ⟨l'.k, -1, l'.t⟩ i w hw hn hHI hTi hi7 hk hc ht hp (VH hag) (Uz hn.1 hok) K') ?_
  refine X.le.mk ?_ ?_ (Nat.le_refl _) rfl rfl
  ·exact Lw
  ·exact Lw
 ·refine Rn.skip ?_; conv => whnf
  refine Rn.le (a := wA n coin box ls cs ws l l' i w) (Fb n coin box ls cs ws l l' i w hw hn hHI hTi hi7 hk hc ht hp hag hok K') ?_
  refine X.le.mk ?_ ?_ (Nat.le_refl _) rfl rfl
  ·exact Lw
  ·exact Lw
theorem Mr (n coin box : Int) (ls : List Ln) (cs : List Ct) (ws : List Int) (i : Nat) (w : Int) (C : List Ln) (hw : 0 <= w /\ w <= 65535) (hn : 1 <= n /\ n <= 4) (hHI : HI n ([] : List Ln) ([] : List Ln)) (hTi : ([] : List Ln).length <= i) (hi7 : i <= 7) (hC : CanP n ([] : List Ln) C) (hCl : C.length <= 32) (K' : Ex -> X -> Prop) (hK : ∀ Z, PX n coin box ls cs ws Z -> K' (.exit 0) Z) : Rn Try.prog 175 HO (Sp n coin box ls cs ws ([] : List Ln) ([] : List Ln) (i : Int) w C) (Ho n coin box ls cs ws (i, ([] : List Ln), ([] : List Ln)) K') := by
 conv => whnf
 refine Rn.seq ?_; conv => whnf
 refine Rn.seq ?_; conv => whnf
 refine Rn.reg ?_; conv => whnf
 refine Rn.cond rfl ?_; conv => whnf
 cases C with
 | nil =>
   refine WB.decT (by rfl) ?_; conv => whnf
   refine Rn.exit ?_; conv => whnf
   refine hK _ ⟨rfl, (show 4 <= 4 by omega), ([] : List Ln), ([] : List Ln), (by omega), hHI, ?_⟩
   refine ShrB.of ?_ ?_ rfl rfl
   ·(repeat' first | exact Rel.e | refine Rel.some ?_ ?_ ?_ | refine Rel.none ?_ ?_ | refine Rel.ee ?_ ?_)
    all_goals show Fz _ _ _ _
    all_goals first | exact Fy | exact .pu (dD _) | exact .ns | exact Fz.G ([] : List Ln) (show ¬ (6 : Nat) < 4 by omega) (fun c h => h) nB dR
   ·(repeat' first | exact Rel.e | refine Rel.some ?_ ?_ ?_ | refine Rel.none ?_ ?_ | refine Rel.ee ?_ ?_)
    all_goals first
     | exact ⟨show _ < 4 by simp [Pos.nat], aY⟩
     | exact ⟨show _ < 4 by simp [Pos.nat], aX⟩
     | exact ⟨show _ < 4 by simp [Pos.nat], aQ (.pu (aB _)) (.pu trivial)⟩
 | cons a s =>
   have e1 := aD aI (a :: s)
   rw [List.length_cons] at e1
   refine WB.decF (by omega) ?_; conv => whnf
   refine Rn.skip ?_; conv => whnf
   have b1 := Int.tmod_nonneg ((aC aI (a :: s)).length : Int) hw.1
   have b2 := Int.tmod_lt_of_pos w (show (0 : Int) < ((aC aI (a :: s)).length : Int) by omega)
   obtain ⟨m, hm⟩ := Int.eq_ofNat_of_zero_le b1
   have hml : m < (a :: s).length := by rw [List.length_cons]; omega
   have hl := hC.all _ (bS (d := default) hml)
   refine Rn.seq ?_; conv => whnf
   refine Rn.reg ?_; conv => whnf
   refine And.intro (show _ ≠ (0 : Int) by omega) ?_; conv => whnf
   rw [hm]
   refine WIx.rowsN (f := aI) hml ?_; conv => whnf
   generalize (a :: s).getD m default = l at *
   obtain ⟨hk, hc, ht, hp⟩ := hl
   have hok : cL n l = true := by
    unfold cL
    simp only [Bool.and_eq_true, aP]
    omega
   refine Rn.seq ?_; conv => whnf
   refine Rn.reg ?_; conv => whnf
   refine WSt.app_first (r := aI l) (by rfl) (.inl rfl) (by rfl) (by rfl) (by rfl) (by rfl) ?_; conv => whnf
   refine Rn.seq ?_; conv => whnf
   refine Rn.reg ?_; conv => whnf
   refine Rn.le (a := wA n coin box ls cs ws l l i w) (Ma n coin box ls cs ws l l i w hw hn hHI hTi hi7 hk hc ht hp (sI l) hok K') ?_
   refine X.le.mk ?_ ?_ (Nat.le_refl _) rfl rfl
   ·exact Lw
   ·exact Lw
theorem BK (n coin box : Int) (ls : List Ln) (cs : List Ct) (ws : List Int) (a' : Ln) (s' L : List Ln) (l l' : Ln) (i : Nat) (w : Int) (hw : 0 <= w /\ w <= 65535) (hn : 1 <= n /\ n <= 4) (hHI : HI n (a' :: s') L) (hLl : 0 < L.length /\ L.length <= 8) (hTi : (a' :: s').length <= i) (hi7 : i <= 7) (hk : l.k = 1 \/ l.k = 2) (hc : 0 <= l.c /\ l.c < n) (ht : 0 <= l.t /\ l.t < n) (hp : dW ((a' :: s') ++ [l]) = true) (hag : pV l' l = true) (hok : cL n l' = true) (K' : Ex -> X -> Prop) : Rn Try.prog 175 Kq (vR n coin box ls cs ws a' s' L l l' i w) (Ho n coin box ls cs ws (i, (a' :: s'), L) K') := by
 have d0 := Int.tdiv_nonneg hw.1 (show (0 : Int) <= 4096 by omega)
 have d1 : w.tdiv 4096 <= 65535 := by rw [Int.tdiv_eq_ediv_of_nonneg hw.1]; omega
 conv => whnf
 refine Rn.seq ?_; conv => whnf
 refine Rn.seq ?_; conv => whnf
 refine Rn.reg ?_; conv => whnf
 repeat' ((first | refine Qb ?_ | refine Qc ?_) <;> conv => whnf)
 refine Rn.cond rfl ?_; conv => whnf
 refine WB.dec (fun h => ?_) (fun h => ?_) <;> conv => whnf
 ·refine Rn.reg ?_; conv => whnf
  refine Rn.le (a := vR n coin box ls cs ws a' s' L l ⟨0, l'.c, l'.t⟩ i w) (Cc n coin box ls cs ws a' s' L l ⟨0, l'.c, l'.t⟩ i w hn hHI hLl hTi hi7 hk hc ht hp (Vt hag) (Vu hok) K') ?_
  refine X.le.mk ?_ ?_ (Nat.le_refl _) rfl rfl
  ·exact Lw
  ·exact Lw
 ·refine Rn.skip ?_; conv => whnf
  refine Rn.le (a := vR n coin box ls cs ws a' s' L l l' i w) (Cc n coin box ls cs ws a' s' L l l' i w hn hHI hLl hTi hi7 hk hc ht hp hag hok K') ?_
  refine X.le.mk ?_ ?_ (Nat.le_refl _) rfl rfl
  ·exact Lw
  ·exact Lw
theorem Ed (n coin box : Int) (ls : List Ln) (cs : List Ct) (ws : List Int) (a' : Ln) (s' L : List Ln) (l l' : Ln) (i : Nat) (w : Int) (hw : 0 <= w /\ w <= 65535) (hn : 1 <= n /\ n <= 4) (hHI : HI n (a' :: s') L) (hLl : 0 < L.length /\ L.length <= 8) (hTi : (a' :: s').length <= i) (hi7 : i <= 7) (hk : l.k = 1 \/ l.k = 2) (hc : 0 <= l.c /\ l.c < n) (ht : 0 <= l.t /\ l.t < n) (hp : dW ((a' :: s') ++ [l]) = true) (hag : pV l' l = true) (hok : cL n l' = true) (K' : Ex -> X -> Prop) : Rn Try.prog 175 ON (vR n coin box ls cs ws a' s' L l l' i w) (Ho n coin box ls cs ws (i, (a' :: s'), L) K') := by
 have d0 := Int.tdiv_nonneg hw.1 (show (0 : Int) <= 512 by omega)
 have d1 : w.tdiv 512 <= 65535 := by rw [Int.tdiv_eq_ediv_of_nonneg hw.1]; omega
 conv => whnf
 refine Rn.seq ?_; conv => whnf
 refine Rn.seq ?_; conv => whnf
 refine Rn.reg ?_; conv => whnf
 repeat' ((first | refine Qb ?_ | refine Qc ?_) <;> conv => whnf)
 refine Rn.cond rfl ?_; conv => whnf
 refine WB.dec (fun h => ?_) (fun h => ?_) <;> conv => whnf
 ·refine Rn.reg ?_; conv => whnf
  refine Rn.le (a := vR n coin box ls cs ws a' s' L l ⟨l'.k, l'.c, -1⟩ i w) (BK n coin box ls cs ws a' s' L l ⟨l'.k, l'.c, -1⟩ i w hw hn hHI hLl hTi hi7 hk hc ht hp (TM hag) (SJ hn.1 hok) K') ?_
  refine X.le.mk ?_ ?_ (Nat.le_refl _) rfl rfl
  ·exact Lw
  ·exact Lw
 ·refine Rn.skip ?_; conv => whnf
  refine Rn.le (a := vR n coin box ls cs ws a' s' L l l' i w) (BK n coin box ls cs ws a' s' L l l' i w hw hn hHI hLl hTi hi7 hk hc ht hp hag hok K') ?_
  refine X.le.mk ?_ ?_ (Nat.le_refl _) rfl rfl
  ·exact Lw
  ·exact Lw
theorem Mu (n coin box : Int) (ls : List Ln) (cs : List Ct) (ws : List Int) (a' : Ln) (s' L : List Ln) (l l' : Ln) (i : Nat) (w : Int) (hw : 0 <= w /\ w <= 65535) (hn : 1 <= n /\ n <= 4) (hHI : HI n (a' :: s') L) (hLl : 0 < L.length /\ L.length <= 8) (hTi : (a' :: s').length <= i) (hi7 : i <= 7) (hk : l.k = 1 \/ l.k = 2) (hc : 0 <= l.c /\ l.c < n) (ht : 0 <= l.t /\ l.t < n) (hp : dW ((a' :: s') ++ [l]) = true) (hag : pV l' l = true) (hok : cL n l' = true) (K' : Ex -> X -> Prop) : Rn Try.prog 175 PU (vR n coin box ls cs ws a' s' L l l' i w) (Ho n coin box ls cs ws (i, (a' :: s'), L) K') := by
 have d0 := Int.tdiv_nonneg hw.1 (show (0 : Int) <= 64 by omega)
 have d1 : w.tdiv 64 <= 65535 := by rw [Int.tdiv_eq_ediv_of_nonneg hw.1]; omega
 conv => whnf
 refine Rn.seq ?_; conv => whnf
 refine Rn.seq ?_; conv => whnf
 refine Rn.reg ?_; conv => whnf
 repeat' ((first | refine Qb ?_ | refine Qc ?_) <;> conv => whnf)
 refine Rn.cond rfl ?_; conv => whnf
 refine WB.dec (fun h => ?_) (fun h => ?_) <;> conv => whnf
 ·refine Rn.reg ?_; conv => whnf
  refine Rn.le (a := vR n coin box ls cs ws a' s' L l ⟨l'.k, -1, l'.t⟩ i w) (Ed n coin box ls cs ws a' s' L l ⟨l'.k, -1, l'.t⟩ i w hw hn hHI hLl hTi hi7 hk hc ht hp (VH hag) (Uz hn.1 hok) K') ?_
  refine X.le.mk ?_ ?_ (Nat.le_refl _) rfl rfl
  ·exact Lw
  ·exact Lw
 ·refine Rn.skip ?_; conv => whnf
  refine Rn.le (a := vR n coin box ls cs ws a' s' L l l' i w) (Ed n coin box ls cs ws a' s' L l l' i w hw hn hHI hLl hTi hi7 hk hc ht hp hag hok K') ?_
  refine X.le.mk ?_ ?_ (Nat.le_refl _) rfl rfl
  ·exact Lw
  ·exact Lw
theorem MG (n coin box : Int) (ls : List Ln) (cs : List Ct) (ws : List Int) (a' : Ln) (s' L : List Ln) (i : Nat) (w : Int) (C : List Ln) (hw : 0 <= w /\ w <= 65535) (hn : 1 <= n /\ n <= 4) (hHI : HI n (a' :: s') L) (hLl : 0 < L.length /\ L.length <= 8) (hTi : (a' :: s').length <= i) (hi7 : i <= 7) (hC : CanP n (a' :: s') C) (hCl : C.length <= 32) (K' : Ex -> X -> Prop) (hK : ∀ Z, PX n coin box ls cs ws Z -> K' (.exit 0) Z) : Rn Try.prog 175 HO (Sp n coin box ls cs ws L (a' :: s') (i : Int) w C) (Ho n coin box ls cs ws (i, (a' :: s'), L) K') := by
 conv => whnf
 refine Rn.seq ?_; conv => whnf
 refine Rn.seq ?_; conv => whnf
 refine Rn.reg ?_; conv => whnf
 refine Rn.cond rfl ?_; conv => whnf
 cases C with
 | nil =>
   refine WB.decT (by rfl) ?_; conv => whnf
   refine Rn.exit ?_; conv => whnf
   refine hK _ ⟨rfl, (show 4 <= 7 by omega), (a' :: s'), L, (by omega), hHI, ?_⟩
   refine ShrB.of ?_ ?_ rfl rfl
   ·(repeat' first | exact Rel.e | refine Rel.some ?_ ?_ ?_ | refine Rel.none ?_ ?_ | refine Rel.ee ?_ ?_)
    all_goals show Fz _ _ _ _
    all_goals first | exact Fy | exact .pu (dD _) | exact .ns | exact Fz.G (a' :: s') (show ¬ (6 : Nat) < 4 by omega) (fun c h => h) nB dR
   ·(repeat' first | exact Rel.e | refine Rel.some ?_ ?_ ?_ | refine Rel.none ?_ ?_ | refine Rel.ee ?_ ?_)
    all_goals first
     | exact ⟨show _ < 4 by simp [Pos.nat], aY⟩
     | exact ⟨show _ < 4 by simp [Pos.nat], aX⟩
     | exact ⟨show _ < 4 by simp [Pos.nat], aQ (.pu (aB _)) (.pu trivial)⟩
 | cons a s =>
   have e1 := aD aI (a :: s)
   rw [List.length_cons] at e1
   refine WB.decF (by omega) ?_; conv => whnf
   refine Rn.skip ?_; conv => whnf
   have b1 := Int.tmod_nonneg ((aC aI (a :: s)).length : Int) hw.1
   have b2 := Int.tmod_lt_of_pos w (show (0 : Int) < ((aC aI (a :: s)).length : Int) by omega)
   obtain ⟨m, hm⟩ := Int.eq_ofNat_of_zero_le b1
   have hml : m < (a :: s).length := by rw [List.length_cons]; omega
   have hl := hC.all _ (bS (d := default) hml)
   refine Rn.seq ?_; conv => whnf
   refine Rn.reg ?_; conv => whnf
   refine And.intro (show _ ≠ (0 : Int) by omega) ?_; conv => whnf
   rw [hm]
   refine WIx.rowsN (f := aI) hml ?_; conv => whnf
   generalize (a :: s).getD m default = l at *
   obtain ⟨hk, hc, ht, hp⟩ := hl
   have hok : cL n l = true := by
    unfold cL
    simp only [Bool.and_eq_true, aP]
    omega
   refine Rn.seq ?_; conv => whnf
   refine Rn.reg ?_; conv => whnf
   refine WSt.app_one (id := (.o (.i .h))) (ds := (aC aI (a' :: s')).flatten) (r := aI l) (by rfl) (by rfl) (by rfl) (by rfl) (by rfl) (by rfl) (by rw [cZ (z := 3) nB]; rfl) (by rfl) (by rfl) (by rw [List.length_cons] at hTi; omega) (by rfl) ?_; conv => whnf
   refine Rn.seq ?_; conv => whnf
   refine Rn.reg ?_; conv => whnf
   refine Rn.le (a := vR n coin box ls cs ws a' s' L l l i w) (Mu n coin box ls cs ws a' s' L l l i w hw hn hHI hLl hTi hi7 hk hc ht hp (sI l) hok K') ?_
   refine X.le.mk ?_ ?_ (Nat.le_refl _) rfl rfl
   ·exact Lw
   ·exact Lw
theorem JF (n coin box : Int) (ls : List Ln) (cs : List Ct) (ws : List Int) (hws : ∀ w ∈ ws, 0 <= w /\ w <= 65535) (hn : 1 <= n /\ n <= 4) (K' : Ex -> X -> Prop) (hK : ∀ Z, PX n coin box ls cs ws Z -> K' (.exit 0) Z) : ∀ s, Wh n s -> Rn Try.prog 175 RT (Wi n coin box ls cs ws s) (IQ (Wi n coin box ls cs ws) (Wh n) OQ s K') := by
 have iW0 : PureF Try.prog p97.ix [.lst 1 (aC qJ ws), .i .i64 0] (.i .i64 (wE ws 0)) := AV ws hws 0
 have hw0 := Ba hws 0
 have m0 := Int.tmod_nonneg (9 : Int) hw0.1
 have m1 := Int.tmod_lt_of_pos (wE ws 0) (show (0 : Int) < 9 by omega)
 rintro ⟨i, T, L⟩ ⟨h1, h2, hHI⟩
 have h1 : i <= 8 := h1
 have hTi : T.length <= i := h2
 have hHI : HI n T L := hHI
 have iW1 : PureF Try.prog p97.ix [.lst 1 (aC qJ ws), .i .i64 ((i : Int) + 1)] (.i .i64 (wE ws (i + 1))) := AV ws hws (i + 1)
 have hw1 := Ba hws (i + 1)
 generalize wE ws 0 = w0 at *
 have hLT := hHI.len
 cases T with
 | nil =>
   obtain rfl : L = [] := List.length_eq_zero_iff.1 hLT
   conv => whnf
   refine Rn.seq ?_; conv => whnf
   refine Rn.seq ?_; conv => whnf
   refine Rn.reg ?_; conv => whnf
   refine WCall.pure iW0 ?_; conv => whnf
   repeat' ((first | refine Qb ?_ | refine Qc ?_) <;> conv => whnf)
   refine Rn.cond rfl ?_; conv => whnf
   refine WB.dec (fun h => ?_) (fun h => ?_) <;> conv => whnf
   ·have hi7 : i <= 7 := by omega
    refine Rn.skip ?_; conv => whnf
    refine Rn.seq ?_; conv => whnf
    refine Rn.blk ?_; conv => whnf
    refine Rn.seq ?_; conv => whnf
    refine Rn.reg ?_; conv => whnf
    repeat' ((first | refine Qb ?_ | refine Qc ?_ | refine WCall.pure iW1 ?_) <;> conv => whnf)
    refine Rn.le (a := Yl n coin box ls cs ws ([] : List Ln) ([] : List Ln) (i : Int) (wE ws (i + 1))) (Jt n coin box ls cs ws ([] : List Ln) ([] : List Ln) (i : Int) (wE ws (i + 1)) hn (by omega) (rest := HO) (K := Ho n coin box ls cs ws (i, ([] : List Ln), ([] : List Ln)) K') (fun C hC hl => Mr n coin box ls cs ws i (wE ws (i + 1)) C hw1 hn hHI hTi hi7 hC hl K' hK)) ?_
    refine X.le.mk ?_ ?_ (Nat.le_refl _) rfl rfl
    ·exact Lw
    ·exact Lw
   ·refine Rn.exit ?_; conv => whnf
    refine hK _ ⟨rfl, (show 4 <= 4 by omega), ([] : List Ln), ([] : List Ln), (by omega), hHI, ?_⟩
    refine ShrB.of ?_ ?_ rfl rfl
    ·(repeat' first | exact Rel.e | refine Rel.some ?_ ?_ ?_ | refine Rel.none ?_ ?_ | refine Rel.ee ?_ ?_)
     all_goals show Fz _ _ _ _
     all_goals first | exact Fy | exact .pu (dD _) | exact .ns | exact Fz.G ([] : List Ln) (show ¬ (6 : Nat) < 4 by omega) (fun c h => h) nB dR
    ·(repeat' first | exact Rel.e | refine Rel.some ?_ ?_ ?_ | refine Rel.none ?_ ?_ | refine Rel.ee ?_ ?_)
     all_goals first
      | exact ⟨show _ < 4 by simp [Pos.nat], aY⟩
      | exact ⟨show _ < 4 by simp [Pos.nat], aX⟩
      | exact ⟨show _ < 4 by simp [Pos.nat], aQ (.pu (aB _)) (.pu trivial)⟩
 | cons a' s' =>
   have hLl : 0 < L.length /\ L.length <= 8 := by rw [hLT, List.length_cons]; rw [List.length_cons] at hTi; omega
   conv => whnf
   refine Rn.seq ?_; conv => whnf
   refine Rn.seq ?_; conv => whnf
   refine Rn.reg ?_; conv => whnf
   refine WCall.pure iW0 ?_; conv => whnf
   repeat' ((first | refine Qb ?_ | refine Qc ?_) <;> conv => whnf)
   refine Rn.cond rfl ?_; conv => whnf
   refine WB.dec (fun h => ?_) (fun h => ?_) <;> conv => whnf
   ·have hi7 : i <= 7 := by omega
    refine Rn.skip ?_; conv => whnf
    refine Rn.seq ?_; conv => whnf
    refine Rn.blk ?_; conv => whnf
    refine Rn.seq ?_; conv => whnf
    refine Rn.reg ?_; conv => whnf
    repeat' ((first | refine Qb ?_ | refine Qc ?_ | refine WCall.pure iW1 ?_) <;> conv => whnf)
    refine Rn.le (a := Yl n coin box ls cs ws L (a' :: s') (i : Int) (wE ws (i + 1))) (Jt n coin box ls cs ws L (a' :: s') (i : Int) (wE ws (i + 1)) hn (by omega) (rest := HO) (K := Ho n coin box ls cs ws (i, (a' :: s'), L) K') (fun C hC hl => MG n coin box ls cs ws a' s' L i (wE ws (i + 1)) C hw1 hn hHI hLl hTi hi7 hC hl K' hK)) ?_
    refine X.le.mk ?_ ?_ (Nat.le_refl _) rfl rfl
    ·exact Lw
    ·exact Lw
   ·refine Rn.exit ?_; conv => whnf
    refine hK _ ⟨rfl, (show 4 <= 7 by omega), (a' :: s'), L, (by omega), hHI, ?_⟩
    refine ShrB.of ?_ ?_ rfl rfl
    ·(repeat' first | exact Rel.e | refine Rel.some ?_ ?_ ?_ | refine Rel.none ?_ ?_ | refine Rel.ee ?_ ?_)
     all_goals show Fz _ _ _ _
     all_goals first | exact Fy | exact .pu (dD _) | exact .ns | exact Fz.G (a' :: s') (show ¬ (6 : Nat) < 4 by omega) (fun c h => h) nB dR
    ·(repeat' first | exact Rel.e | refine Rel.some ?_ ?_ ?_ | refine Rel.none ?_ ?_ | refine Rel.ee ?_ ?_)
     all_goals first
      | exact ⟨show _ < 4 by simp [Pos.nat], aY⟩
      | exact ⟨show _ < 4 by simp [Pos.nat], aX⟩
      | exact ⟨show _ < 4 by simp [Pos.nat], aQ (.pu (aB _)) (.pu trivial)⟩
def Wr : RC := eQ (eQ (eQ (eQ (eQ Mq))))
structure CtG (box coin : Int) (T : List Ln) (c : Ct) : Prop where
 a : 0 <= c.a /\ c.a <= (T.length : Int)
 r : gE (cQ box coin T c.a.toNat) c.lo c.hi = true
def Nz (n coin box : Int) (v : D) : Prop := ∃ (T L : List Ln) (cs' : List Ct), v = .tp [.ag [.i .i64 n, .i .i64 coin, .i .i64 box, .lst 3 (aC aI L), .lst 3 (aC cY cs')], .lst 3 (aC aI T)] /\ T.length <= 8 /\ cs'.length <= 3 /\ HI n T L /\ ∀ c ∈ cs', CtG box coin T c
theorem QR (n coin box : Int) (ls : List Ln) (cs : List Ct) (ws : List Int) (hws : ∀ w ∈ ws, 0 <= w /\ w <= 65535) (hb : 0 <= box /\ box <= 999) (hc : 1 <= coin /\ coin <= 99) (T L : List Ln) (hT8 : T.length <= 8) (hHI : HI n T L) : Rn Try.prog 175 Wr (VY n coin box ls cs ws T L) (FinX UA (Nz n coin box)) := by
 have e1 := aD aI T
 have iW10 : PureF Try.prog p97.ix [.lst 1 (aC qJ ws), .i .i64 10] (.i .i64 (wE ws 10)) := AV ws hws 10
 have hw10 := Ba hws 10
 have m0 := Int.tmod_nonneg (4 : Int) hw10.1
 have m1 := Int.tmod_lt_of_pos (wE ws 10) (show (0 : Int) < 4 by omega)
 generalize wE ws 10 = w10 at *
 conv => whnf
 refine Qg ?_
 refine Rn.loop (fun s : Nat × List Ct => match s with | (q, A) => (⟨(.n (.n (.n (.n .e (some (.lst 3 (aC aI T))) .e) none .e) (some (.lst 1 (aC qJ ws))) .e) none (.n (.n (.n (.n .e (some (.i .i64 (q : Int))) .e) none .e) (some (.pt (.o .h) 0 0)) .e) (some (.pt .h 0 0)) (.n .e (some (.pt (.i .h) 0 0)) .e))), (.n (.n .e (some (jH)) (.n .e (Bo cY A) .e)) (some (fK n coin box ls cs)) (.n .e (some (gZ n coin box (.lst 3 (aC aI L)) (xI (.o (.i .h)) 3 A))) .e)), qC (.o (.o .h)) (.i (.i .h)) A, none⟩ : X)) (fun s => s.1 <= 3 /\ s.2.length <= s.1 /\ ∀ c ∈ s.2, CtG box coin T c) (fun s => 3 - s.1) (0, []) ?_ ?_ ?_
 ·refine X.le.mk ?_ ?_ (Nat.le_refl _) rfl rfl
  all_goals (repeat' first | exact Ev.T.le_e _ | exact Ev.T.le_refl _ | refine Ev.T.le_some ?_ rfl ?_ | refine Ev.T.le_none ?_ ?_ | refine Ev.T.le_ee ?_ ?_)
 ·exact ⟨Nat.zero_le _, Nat.zero_le _, fun c h => by cases h⟩
 rintro ⟨q, A⟩ ⟨hq3, hAl, hAg⟩
 have hq3 : q <= 3 := hq3
 have hAl : A.length <= q := hAl
 have hAg : ∀ c ∈ A, CtG box coin T c := hAg
 conv => whnf
 repeat' ((first | refine Qw ?_ | refine Qf iW10 ?_ | refine Qv ?_) <;> conv => whnf)
 refine WB.dec (fun h => ?_) (fun h => ?_) <;> conv => whnf
 ·have hq2 : q < 3 := by omega
  have iWq : PureF Try.prog p97.ix [.lst 1 (aC qJ ws), .i .i64 ((q : Int) + 11)] (.i .i64 (wE ws (q + 11))) := AV ws hws (q + 11)
  have hwq := Ba hws (q + 11)
  generalize wE ws (q + 11) = wq at *
  have u1 := Int.tdiv_nonneg hwq.1 (show (0 : Int) <= 16 by omega)
  have u2 := Int.tdiv_nonneg hwq.1 (show (0 : Int) <= 128 by omega)
  have u3 : wq.tdiv 16 <= 65535 := by rw [Int.tdiv_eq_ediv_of_nonneg hwq.1]; omega
  have u4 : wq.tdiv 128 <= 65535 := by rw [Int.tdiv_eq_ediv_of_nonneg hwq.1]; omega
  have t1 := Int.tmod_nonneg (8 : Int) u1
  have t2 := Int.tmod_lt_of_pos (wq.tdiv 16) (show (0 : Int) < 8 by omega)
  have t3 := Int.tmod_nonneg (8 : Int) u2
  have t4 := Int.tmod_lt_of_pos (wq.tdiv 128) (show (0 : Int) < 8 by omega)
  have b1 := Int.tmod_nonneg (((aC aI T).length : Int) + 1) hwq.1
  have b2 := Int.tmod_lt_of_pos wq (show (0 : Int) < ((aC aI T).length : Int) + 1 by omega)
  obtain ⟨m, hm⟩ := Int.eq_ofNat_of_zero_le b1
  have hmT : m <= T.length := by omega
  have iN := Lr n coin box ls cs T m hb hc (by omega) hmT
  unfold CT at iN
  have hmb := sG (T := T) hb hc m
  have hcg : 0 <= cQ box coin T m -> CtG box coin T ⟨(m : Int), max 0 (cQ box coin T m - (wq.tdiv 16).tmod 8), max 0 (cQ box coin T m + (wq.tdiv 128).tmod 8)⟩ := fun h0 => ⟨⟨Int.natCast_nonneg _, by show (m : Int) <= _; omega⟩, by
   show gE (cQ box coin T (m : Int).toNat) _ _ = true
   rw [Int.toNat_natCast, aP]
   show max 0 _ <= _ /\ _ <= max 0 _
   omega⟩
  generalize cQ box coin T m = mon at *
  have hmb : -99 * (m : Int) <= mon /\ mon <= 999 + 99 * (m : Int) := hmb
  have hmb2 : -792 <= mon /\ mon <= 1791 := by omega
  by_cases hm0 : 0 <= mon
  ·have hcg := hcg hm0
   cases A with
   | nil =>
     repeat' ((first | refine Qw ?_ | refine Qf iWq ?_ | refine Qv ?_) <;> conv => whnf)
     rw [hm]
     repeat' ((first | refine Qw ?_ | refine Qf iN ?_ | refine Qv ?_) <;> conv => whnf)
     refine WSt.app_first (r := cY ⟨(m : Int), max 0 (mon - (wq.tdiv 16).tmod 8), max 0 (mon + (wq.tdiv 128).tmod 8)⟩) (by rfl) (.inl rfl) (by rfl) (by rfl) (by rfl) (by rfl) ?_; conv => whnf
     refine Qg ?_
     refine Again.to (q + 1, [⟨(m : Int), max 0 (mon - (wq.tdiv 16).tmod 8), max 0 (mon + (wq.tdiv 128).tmod 8)⟩]) (show 3 - (q + 1) < 3 - q by omega) ⟨(show q + 1 <= 3 by omega), (show 1 <= q + 1 by omega), (fun c hc => by rw [List.mem_singleton.1 hc]; exact hcg)⟩ (show 4 <= 7 by omega) ?_
     refine Shr.of ?_ ?_ rfl rfl
     ·(repeat' first | exact Rel.e | refine Rel.some ?_ ?_ ?_ | refine Rel.none ?_ ?_ | refine Rel.ee ?_ ?_)
      all_goals show Fz _ _ _ _
      all_goals first | exact Fy | exact .pu (dD _) | exact .pu (aB _)
     ·(repeat' first | exact Rel.e | refine Rel.some ?_ ?_ ?_ | refine Rel.none ?_ ?_ | refine Rel.ee ?_ ?_)
      all_goals first
       | exact Ro aY
       | exact Ro aX
       | exact Ro (aQ (.pu (aB _)) (.pu trivial))
       | exact Ro (aQ (.pu (aB _)) (.ksl (Ql rfl)))
       | (refine Ro (ShC.same fun c hc => ?_); obtain ⟨d, hd, rfl⟩ := List.mem_map.1 hc; exact .pu (aF.1 (AG _) d hd))
   | cons a s =>
     repeat' ((first | refine Qw ?_ | refine Qf iWq ?_ | refine Qv ?_) <;> conv => whnf)
     rw [hm]
     repeat' ((first | refine Qw ?_ | refine Qf iN ?_ | refine Qv ?_) <;> conv => whnf)
     refine WSt.app_one (id := (.o (.i .h))) (ds := (aC cY (a :: s)).flatten) (r := cY ⟨(m : Int), max 0 (mon - (wq.tdiv 16).tmod 8), max 0 (mon + (wq.tdiv 128).tmod 8)⟩) (by rfl) (by rfl) (by rfl) (by rfl) (by rfl) (by rfl) (by rw [cZ (z := 3) Lv]; rfl) (by rfl) (by rfl) (by have h := hAl; rw [List.length_cons] at h; omega) (by rfl) ?_; conv => whnf
     refine Qg ?_
     refine Again.to (q + 1, (a :: (s ++ [⟨(m : Int), max 0 (mon - (wq.tdiv 16).tmod 8), max 0 (mon + (wq.tdiv 128).tmod 8)⟩]))) (show 3 - (q + 1) < 3 - q by omega) ⟨(show q + 1 <= 3 by omega), (by show (s ++ [_]).length + 1 <= q + 1; have h := hAl; rw [List.length_cons] at h; rw [List.length_append, List.length_singleton]; omega), (fun c hc => by rcases List.mem_append.1 (show c ∈ (a :: s) ++ [_] from hc) with hc | hc; exact hAg c hc; rw [List.mem_singleton.1 hc]; exact hcg)⟩ (show 7 <= 7 by omega) ?_
     refine Shr.of ?_ ?_ rfl rfl
     ·(repeat' first | exact Rel.e | refine Rel.some ?_ ?_ ?_ | refine Rel.none ?_ ?_ | refine Rel.ee ?_ ?_)
      all_goals show Fz _ _ _ _
      all_goals first | exact Fy | exact .pu (dD _) | exact .pu (aB _)
     ·show Rel _ _ ((.n (.n .e (some (jH)) (.n .e (Bo cY (a :: (s ++ [⟨(m : Int), max 0 (mon - (wq.tdiv 16).tmod 8), max 0 (mon + (wq.tdiv 128).tmod 8)⟩]))) .e)) (some (fK n coin box ls cs)) (.n .e (some (gZ n coin box (.lst 3 (aC aI L)) (xI (.o (.i .h)) 3 (a :: (s ++ [⟨(m : Int), max 0 (mon - (wq.tdiv 16).tmod 8), max 0 (mon + (wq.tdiv 128).tmod 8)⟩]))))) .e)) : Ev.T Ev.C) _
      rw [jY, kB]
      (repeat' first | exact Rel.e | refine Rel.some ?_ ?_ ?_ | refine Rel.none ?_ ?_ | refine Rel.ee ?_ ?_)
      all_goals first
       | exact Ro aY
       | exact Ro aX
       | exact Ro (aQ (.pu (aB _)) (.pu trivial))
       | exact Ro (aQ (.pu (aB _)) (.ksl (Ql rfl)))
       | (refine Ro (ShC.grown (by omega) (aF.2 fun d hd => ?_)); rcases List.mem_append.1 hd with hd | hd <;> first | exact aF.1 (fE AG _) d hd | exact aF.1 (AG _) d hd)
  ·cases A with
   | nil =>
     repeat' ((first | refine Qw ?_ | refine Qf iWq ?_ | refine Qv ?_) <;> conv => whnf)
     rw [hm]
     repeat' ((first | refine Qw ?_ | refine Qf iN ?_ | refine Qv ?_) <;> conv => whnf)
     refine Again.to (q + 1, []) (show 3 - (q + 1) < 3 - q by omega) ⟨(show q + 1 <= 3 by omega), (Nat.zero_le _), hAg⟩ (show 4 <= 4 by omega) ?_
     refine Shr.of ?_ ?_ rfl rfl
     ·(repeat' first | exact Rel.e | refine Rel.some ?_ ?_ ?_ | refine Rel.none ?_ ?_ | refine Rel.ee ?_ ?_)
      all_goals show Fz _ _ _ _
      all_goals first | exact Fy | exact .pu (dD _) | exact .pu (aB _)
     ·(repeat' first | exact Rel.e | refine Rel.some ?_ ?_ ?_ | refine Rel.none ?_ ?_ | refine Rel.ee ?_ ?_)
      all_goals first
       | exact Ro aY
       | exact Ro aX
       | exact Ro (aQ (.pu (aB _)) (.pu trivial))
       | exact Ro (aQ (.pu (aB _)) (.ksl (Ql rfl)))
   | cons a s =>
     repeat' ((first | refine Qw ?_ | refine Qf iWq ?_ | refine Qv ?_) <;> conv => whnf)
     rw [hm]
     repeat' ((first | refine Qw ?_ | refine Qf iN ?_ | refine Qv ?_) <;> conv => whnf)
     refine Again.to (q + 1, (a :: s)) (show 3 - (q + 1) < 3 - q by omega) ⟨(show q + 1 <= 3 by omega), (by show s.length + 1 <= q + 1; have h := hAl; rw [List.length_cons] at h; omega), hAg⟩ (show 7 <= 7 by omega) ?_
     refine Shr.of ?_ ?_ rfl rfl
     ·(repeat' first | exact Rel.e | refine Rel.some ?_ ?_ ?_ | refine Rel.none ?_ ?_ | refine Rel.ee ?_ ?_)
      all_goals show Fz _ _ _ _
      all_goals first | exact Fy | exact .pu (dD _) | exact .pu (aB _)
     ·(repeat' first | exact Rel.e | refine Rel.some ?_ ?_ ?_ | refine Rel.none ?_ ?_ | refine Rel.ee ?_ ?_)
      all_goals first
       | exact Ro aY
       | exact Ro aX
       | exact Ro (aQ (.pu (aB _)) (.pu trivial))
       | exact Ro (aQ (.pu (aB _)) (.ksl (Ql rfl)))
       | exact Ro (ShC.G AG a s)
 ·refine Qg ?_
  refine ⟨_, ⟨T, L, A, rfl, hT8, (by omega), hHI, hAg⟩, ?_⟩
  exact ⟨.inr rfl, _, rfl, .tp (.cons (.ag (.cons (.pu trivial) (.cons (.pu trivial) (.cons (.pu trivial) (.cons (.pu (aB _)) (.cons (Fz.G A (fun h => h) (fun c h => h) Lv AG) .nil)))))) (.cons (.pu (aB _)) .nil))⟩
def Zs (n coin box : Int) (ls : List Ln) (cs : List Ct) (ws : List Int) : X := ⟨(.n (.n .e (some (.lst 1 (aC qJ ws))) .e) none (.n (.n .e (some (.pt (.o .h) 0 0)) .e) (some (.pt .h 0 0)) (.n .e (some (.pt (.i .h) 0 0)) .e))), (.n (.n .e (some (jH)) .e) (some (fK n coin box ls cs)) (.n .e (some (gZ n coin box (.lst 3 (aC aI [])) .ns)) .e)), .o (.o .h), none⟩
theorem Mj (n coin box : Int) (ls : List Ln) (cs : List Ct) (ws : List Int) (hws : ∀ w ∈ ws, 0 <= w /\ w <= 65535) (hn : 1 <= n /\ n <= 4) (hb : 0 <= box /\ box <= 999) (hc : 1 <= coin /\ coin <= 99) : ∃ v, Nz n coin box v /\ PureF Try.prog p54.ix [.ag [.i .i64 n, .i .i64 coin, .i .i64 box, .lst 3 (aC aI ls), .lst 3 (aC cY cs)], .lst 1 (aC qJ ws)] v := by
 refine PureF.runE Xs (by simp) (by simp [aO, dF, Pu, aB, aE, dD]) ?_; conv => whnf
 refine Rn.seq ?_; conv => whnf
 refine Rn.reg ?_; conv => whnf
 refine Rn.far rfl ?_
 refine RnF.seq ?_; conv => whnf
 refine Qg ?_
 refine ⟨rfl, rfl, (show 3 <= 4 by omega), ?_⟩
 refine RnF.seq ?_; conv => whnf
 refine Qg ?_
 refine ⟨rfl, rfl, (show 3 <= 4 by omega), RnF.turn (z' := Zs n coin box ls cs ws) (B := fun id => id.nat < 4) ?_ (fun id (h : id.nat < 3) => show id.nat < 4 by omega) (fun id h => h) (show 3 <= 4 by omega) ?_⟩
 ·refine ShrB.of ?_ ?_ rfl rfl
  ·(repeat' first | exact Rel.e | refine Rel.some ?_ ?_ ?_ | refine Rel.none ?_ ?_ | refine Rel.ee ?_ ?_)
   all_goals show Fz _ _ _ _
   all_goals first | exact Fy | exact .pu (dD _)
  ·(repeat' first | exact Rel.e | refine Rel.some ?_ ?_ ?_ | refine Rel.none ?_ ?_ | refine Rel.ee ?_ ?_)
   all_goals first
    | exact ⟨show _ < 4 by simp [Pos.nat], aY⟩
    | exact ⟨show _ < 4 by simp [Pos.nat], aX⟩
    | exact ⟨show _ < 4 by simp [Pos.nat], aQ .ns (.pu trivial)⟩
 conv => whnf
 refine Rn.seq ?_; conv => whnf
 refine Rn.reg ?_; conv => whnf
 refine Rn.far rfl ?_
 refine RnF.seq ?_; conv => whnf
 refine Rn.seq ?_; conv => whnf
 refine Rn.reg ?_; conv => whnf
 refine Rn.blk ?_; conv => whnf
 refine Rn.loop (Wi n coin box ls cs ws) (Wh n) OQ (0, [], []) ?_ ⟨Nat.zero_le _, Nat.zero_le _, HI.nil⟩ (JF n coin box ls cs ws hws hn _ (fun Z hZ => ?_))
 ·refine X.le.mk ?_ ?_ (Nat.le_refl _) rfl rfl
  ·exact Lw
  ·exact Lw
 ·obtain ⟨hl, hx, T, L, h8, hHI, hS⟩ := hZ
  show FarK _ _ _ _ _ _ _
  exact ⟨rfl, hl, hx, RnF.turn hS (fun id h => h) (fun id h => h) (Nat.le_refl _) (QR n coin box ls cs ws hws hb hc T L h8 hHI)⟩
deriving instance DecidableEq for Ln
def Wm (l : Ln) : D := .ag (aI l)
def Vx : List LK := [.i .i64, .i .i64, .i .i64]
theorem vZ : KeyOk Vx Wm kS := ⟨fun a b ha hb => by
 have hk : xJ .i64 .i64 = true := rfl
 obtain ⟨a1, a2, a3⟩ := a
 obtain ⟨b1, b2, b3⟩ := b
 obtain ⟨h1, h2, h3⟩ := ha
 obtain ⟨k1, k2, k3⟩ := hb
 simp only at h1 h2 h3 k1 k2 k3
 simp only [Vx, Wm, aI, Br, FL, Rk, hk, h1, h2, h3, k1, k2, k3, Bool.and_self, cond_true, Option.some.injEq, kX, Bool.and_true]
 rw [Bool.eq_iff_iff]
 simp [Ln.mk.injEq]⟩
abbrev Ef := List (Ln × Bool)
def vH (m : Ef) : List (D × D) := m.map (yG Wm Lb)
theorem mJ {n : Nat} {m : Ef} : KpC n (.map (vH m)) := fun e he => by
 obtain ⟨p, _, rfl⟩ := List.mem_map.1 he
 simp [yG, Wm, aI, Lb, Kp, KpL, Pu]
def Wq (m : Mo) : List D := [.i .i64 m.last.k, .i .i64 m.last.c, .i .i64 m.last.t]
theorem Jh {β : Type} (F : Nat -> Mo) {q : Nat} (hq : q < 9) (k : List D -> Option β) : fA 0 3 (eZ (0 + q * 14 + 11) ((fG F).map fun d => Cell.o d 0)) k = k (Wq (F q)) := by
 rw [cE]
 rcases Eh hq with rfl | rfl | rfl | rfl | rfl | rfl | rfl | rfl | rfl <;> rfl
theorem wSt.ldLast {sl : T D} {ob : T Ev.C} {nx : Pos} {lg : Option (T Bool)} {K : X -> Prop} {d id : Pos} {cs : List Cell} {F : Nat -> Mo} {q : Nat} {x : RX} (hx : bE sl x = some (.pt id (0 + q * 14 + 11) 0)) (ho : ob.get id = some (.cells false cs 1)) (hcs : cs = (fG F).map fun d => Cell.o d 0) (hq : q < 9) (h : Gu lg id fun lg => dL sl ob nx lg d K (.ag (Wq (F q)))) : wSt (step (.ldn d x 3) sl ob nx lg) K := by
 subst hcs
 obtain ⟨l1, e1, h⟩ := jT h
 obtain ⟨h2, h3⟩ := aV h
 refine wSt.ok ?_ h3
 show pE d x 3 sl ob nx lg = _
 unfold pE
 rw [hx]
 simp only [ho, Jh F hq, e1]
 exact h2
def wsS : T D := (.n (.n (.n .e (some (.pt (.i .h) 0 0)) (.n .e (some (.fn p136 [] [.pt i6 0 0])) .e)) none (.n .e (some (.pt (.i (.o .h)) 0 0)) .e)) none (.n .e (some (.pt (.o .h) 0 0)) .e))
def Ri (B : Bk) (line : Nat) : Tns Ef where
 o := fun i s => match i with
   | 2 => some (eG B)
   | 3 => some (.cells false [.o (.i .i64 (line : Int)) 0] 1)
   | 4 => some (.map (vH s))
   | 5 => some (.cells false [.o (.mp (.o (.o .h))) 0] 1)
   | 7 => some (.lp wsS [bH] 36 (mB (aN Try.f91) 0) (mQ (aN Try.f91) 0) .ready none)
   | 11 => some .hole
   | _ => none
theorem Qx : ∀ s d, wsS.get s = some d -> Kp 11 d := by
 show TAll (fun _ d => Kp 11 d) wsS
 unfold wsS
 repeat' first | exact TAll.e | refine TAll.some ?_ ?_ ?_ | refine TAll.none ?_ ?_
 all_goals simp [Kp, KpL, i6, Pos.nat]
theorem NA (B : Bk) (line : Nat) (M : dN) (F : Nat -> Mo) (s : Ef) : KpO 12 ((Ri B line).ob B M F s) := by
 show TAll (fun id c => id.nat < 12 /\ KpC 12 c) _
 unfold Tns.ob bQ Ri
 repeat' first | exact TAll.e | refine TAll.some ?_ ?_ ?_ | refine TAll.none ?_ ?_
 all_goals refine ⟨by simp [Pos.nat], ?_⟩
 all_goals first
  | exact dP
  | exact mJ
  | exact fun s d h => (Qx s d h).up (by omega)
  | exact Lj (jZ _ _)
  | exact jD B (by omega)
  | trivial
  | (refine KpL.all ?_; simp [KpL, Kp, Cell.d, Pu, sP, i6, i7, i8, i9, Lg, Pos.nat])
def Wc (line : Nat) (h : List (List Ln)) (s : Ef) : Prop := (∀ e ∈ s, kS e.1 /\ e.2 = true) /\ ∀ l, (l, true) ∈ s ↔ ∃ X ∈ h, X.getD line default = l
def YZ (line : Nat) (s : Ef) (X : List Ln) (s' : Ef) (g : Bool) : Prop := g = true /\ (∀ e ∈ s', e = (X.getD line default, true) \/ e ∈ s) /\ (X.getD line default, true) ∈ s' /\ ∀ e ∈ s, e.1 = X.getD line default \/ e ∈ s'
theorem Nl {B : Bk} (V : VB B) {X : List Ln} (h : X ∈ gN B B.ls.length []) {i : Nat} (hi : i < B.ls.length) : kS (X.getD i default) := by
 have hX := fH.1 h
 have hl : X.length = B.ls.length := by have := hX.len; simpa using this
 obtain ⟨h1, _⟩ := hX.st i (Nat.zero_le _) (by omega)
 obtain ⟨hk, hc, ht⟩ := V.rd hi h1
 exact ⟨cK (by omega) (by omega), cK (by omega) (by omega), cK (by omega) (by omega)⟩
theorem NQ {B : Bk} (V : VB B) {line : Nat} (hl : line < B.ls.length) : TnsOk (Ri B line) B (Wc line) (YZ line) := by
 have hL := V.len
 refine ⟨fun M F s => NA B line M F s, ?_, ?_⟩
 ·rintro h s X s' hpre ⟨hI1, hI2⟩ ⟨_, r1, r2, r3⟩
  have hXe : X ∈ gN B B.ls.length [] := hpre.subset (show X ∈ h ++ [X] by simp)
  refine ⟨fun e he => ?_, fun l => ?_⟩
  ·rcases r1 e he with rfl | he
   ·exact ⟨Nl V hXe hl, rfl⟩
   ·exact hI1 e he
  ·constructor
   ·intro hm
    rcases r1 _ hm with h1 | h1
    ·exact ⟨X, by simp, (Prod.mk.inj h1).1.symm⟩
    ·obtain ⟨Y, hY, e⟩ := (hI2 l).1 h1
     exact ⟨Y, by simp [hY], e⟩
   ·rintro ⟨Y, hY, rfl⟩
    rcases List.mem_append.1 hY with hY | hY
    ·rcases r3 _ ((hI2 _).2 ⟨Y, hY, rfl⟩) with h1 | h1
     ·have h1 : Y.getD line default = X.getD line default := h1
      rw [h1]; exact r2
     ·exact h1
    ·rw [List.mem_singleton.1 hY]; exact r2
 ·rintro h s ⟨hI1, hI2⟩ X hpre M hM
  have hXe : X ∈ gN B B.ls.length [] := hpre.subset (show X ∈ h ++ [X] by simp)
  have hXl : X.length = B.ls.length := by have := (fH.1 hXe).len; simpa using this
  have hmo : uA B.box B.coin X X.length (line + 1) = fJ B.box B.coin X (line + 1) := nP (by omega)
  have hlast : Wq (fJ B.box B.coin X (line + 1)) = aI (X.getD line default) := rfl
  have hwf := Nl V hXe hl
  generalize hx : X.getD line default = x at hlast hwf
  generalize hF : uA B.box B.coin X X.length = F at hmo ⊢
  refine RndOk.runE (sl0 := wsS) rfl FZ GK ⟨_, rfl, ?_⟩
  unfold Tns.ob bQ Ri wsS
  conv => whnf
  refine Qg ?_
  refine ⟨rfl, rfl, _, _, _, _, _, _, rfl, ?_⟩
  conv => whnf
  refine Qg ?_
  refine WSt.ixaN (m := line + 1) rfl rfl (by omega) (by omega) ?_; conv => whnf
  refine wSt.ldLast (F := F) (q := line + 1) (by rfl) (by rfl) (by rfl) (by omega) ?_
  rw [hmo, hlast]
  conv => whnf
  refine Qg ?_
  refine WSt.mupG vZ (w := x) (n := true) (M := s) (by rfl) (by rfl) (by rfl) (by rfl) hwf (fun e he => (hI1 e he).1) ?_
  intro s' q1 q2 q3
  conv => whnf
  refine Qg ?_
  refine ⟨_, _, _, _, _, _, _, (Ri B line).ob B M F s', rfl, rfl, ?_, s', ⟨rfl, by rw [hx]; exact q1, by rw [hx]; exact q2, by rw [hx]; exact q3⟩, rfl⟩
  refine Shr.kp ?_ (NA B line M F s')
  unfold Tns.ob bQ Ri wsS
  repeat' first | exact T.le_e _ | refine T.le_some ?_ rfl ?_ | refine T.le_same ?_ ?_ | refine T.le_none ?_ ?_
theorem Ij {B : Bk} (V : VB B) {line : Nat} (hl : line < B.ls.length) : ∀ (L h : List (List Ln)) {s s' : Ef} {g : Bool}, h ++ L = gN B B.ls.length [] -> Wc line h s -> Fld (YZ line) L s s' g -> Wc line (gN B B.ls.length []) s' /\ g = true
 | [], h, s, s', g, he, hI, hF => by
   cases hF
   rw [List.append_nil] at he
   rw [<- he]
   exact ⟨hI, rfl⟩
 | X :: L, h, s, s', g, he, hI, hF => by
   cases hF with
   | stop k => cases k.1
   | go k k2 =>
     have he2 : (h ++ [X]) ++ L = gN B B.ls.length [] := by rw [<- he]; simp
     refine Ij V hl L (h ++ [X]) he2 ?_ k2
     exact (NQ V hl).inv h s X _ ⟨L, he2⟩ hI k
open Go.RowKit (Below Grown)
section
variable {γ γ' : Gh} {w : World} {n : Nat}
theorem HoldsO.kp2 {P : Program} (him : ∀ b, γ.im b -> γ'.im b) (hc : ∀ id : Pos, id.nat < n -> γ'.cur id = γ.cur id /\ γ'.β id = γ.β id) {id : Pos} (hid : γ'.cur id = γ.cur id /\ γ'.β id = γ.β id) : ∀ {c : C}, KpC n c -> HoldsO P γ w id c -> HoldsO P γ' w id c
 | .cells ro cs cur, k, H => by
   obtain ⟨h0, h1, h2⟩ := H
   obtain ⟨e1, e2⟩ := hid
   refine ⟨h0, e1.trans h1, fun st hst => ?_⟩
   obtain ⟨vs, e, fr, h3, h4, h5⟩ := h2 st hst
   rw [e2]
   exact ⟨vs, e, fr, h3, h4, fun p c hp hh hd => by
    obtain ⟨u, h6, h7, h8⟩ := h5 p c hp hh hd
    exact ⟨u, h6, DV.kp him hc _ _ (k c (List.mem_of_getElem? hp)) h7, h8⟩⟩
 | .map es, k, H => by
   obtain ⟨h1, en, cl, h2, h3, h4⟩ := H
   obtain ⟨e1, e2⟩ := hid
   refine ⟨e1.trans h1, en, cl, by rw [e2]; exact h2, h3, fun i e f he hf => ?_⟩
   obtain ⟨k1, k2⟩ := k e (List.mem_of_getElem? he)
   exact ⟨DV.kp him hc _ _ k1 (h4 i e f he hf).1, DV.kp him hc _ _ k2 (h4 i e f he hf).2⟩
 | .lp sl ps nt asg body st jump, k, H => by
   obtain ⟨h1, l, h2, h3, h4, h5, h6⟩ := H
   obtain ⟨e1, e2⟩ := hid
   refine ⟨e1.trans h1, l, by rw [e2]; exact h2, h3, h4, fun s d hs => ⟨(h5 s d hs).1, DV.kp him hc _ _ (k s d hs) (h5 s d hs).2⟩, h6⟩
 | .hole, _, H => (hid).1.trans H
end
structure Fill2 (nx a : Pos) (ob1 ob2 : T C) : Prop where
 ok : ∃ (r q : Pos) (ro : Bool) (n st z k m kC cur : Nat) (ds : List D), r.nat < nx.nat /\ q.nat < r.nat /\ ob1.get r = some .hole /\ aO ds /\
  ob1.get a = some (.cells false (ds.map fun d => Cell.o d kC) cur) /\ ob1.get q = some (.cells ro [.o (.sl a 0 n st z) k] m) /\
  ∀ i ci, ob2.get i = some ci -> (i = r /\ ci = .cells false (ds.map fun d => Cell.o d kC) cur) \/ (i = q /\ ci = .cells ro [.o (.sl r 0 n st z) k] m) \/ (i ≠ r /\ i.nat < nx.nat /\ ob1.get i = some ci /\ KpC r.nat ci)
open Classical in
theorem RndOk.fill2 {P : Program} {id : Pos} {ds : List D} {ob ob1 ob2 : T C} {nx nx1 a : Pos} {v : D} (h : RndOk P id ds ob nx none v ob1 nx1 none) (hv : Pu v) (ha : nx.nat <= a.nat) (F : Fill2 nx a ob1 ob2) : RndOk P id ds ob nx none v ob2 nx none := by
 obtain ⟨r, q, ro, n, st, z, k, m, kC, cu, dz, hr, hq, hole, hpu, hn, hqq, hrest⟩ := F.ok
 refine ⟨LgLe.refl _, Nat.le_refl _, fun id hn => absurd trivial hn, fun so hs γ args w gh hargs hob hnx hcur => ?_⟩
 have hall : ∀ id, so id := fun id => hs id trivial
 obtain ⟨fn, tmps, asg, body, h1, h2⟩ := h.ok so (fun id _ => hall id) γ args w gh hargs hob hnx hcur
 refine ⟨fn, tmps, asg, body, h1, fun ro' n' R hR => h2 ro' n' R fun γ1 w1 u g1 F1 hu ho hz => ?_⟩
 have hnr : a ≠ r := fun e => by rw [e] at ha; omega
 have hr1 : γ1.cur r = 0 := ho r _ (hall r) hole
 have hr0 : γ.cur r = 0 := by have := F1.up.cur r; omega
 have hnx0 : γ.cur a = 0 := hnx a (hall a) ha
 let γ2 : Gh := ⟨fun i => if i = r then γ1.cur a else if i.nat < nx.nat then γ1.cur i else 0, fun i => if i = r then γ1.β a else γ1.β i, γ1.im⟩
 have cr : γ2.cur r = γ1.cur a := by show (if _ then _ else _) = _; rw [if_pos rfl]
 have br : γ2.β r = γ1.β a := by show (if _ then _ else _) = _; rw [if_pos rfl]
 have cl : ∀ i : Pos, i ≠ r -> i.nat < nx.nat -> γ2.cur i = γ1.cur i := fun i hne hi => by
  show (if _ then _ else _) = _; rw [if_neg hne, if_pos hi]
 have bl : ∀ i : Pos, i ≠ r -> γ2.β i = γ1.β i := fun i hi => by show (if _ then _ else _) = _; rw [if_neg hi]
 have c0 : ∀ i : Pos, i ≠ r -> ¬ i.nat < nx.nat -> γ2.cur i = 0 := fun i h1 h2 => by show (if _ then _ else _) = _; rw [if_neg h1, if_neg h2]
 have lt2 : ∀ i s, s < γ2.cur i -> ∃ j, s < γ1.cur j /\ γ2.β i = γ1.β j /\ ((i = r /\ j = a) \/ ((i ≠ r /\ i.nat < nx.nat) /\ j = i)) := fun i s hi => by
  by_cases e : i = r
  ·subst e; rw [cr] at hi; exact ⟨a, hi, br, .inl ⟨rfl, rfl⟩⟩
  ·by_cases hl : i.nat < nx.nat
   ·rw [cl i e hl] at hi; exact ⟨i, hi, bl i e, .inr ⟨⟨e, hl⟩, rfl⟩⟩
   ·rw [c0 i e hl] at hi; exact absurd hi (Nat.not_lt_zero _)
 have kp : ∀ id : Pos, id.nat < r.nat -> γ2.cur id = γ1.cur id /\ γ2.β id = γ1.β id := fun i hi => ⟨cl i (fun e => by rw [e] at hi; omega) (by omega), bl i fun e => by rw [e] at hi; omega⟩
 have G2 : GH γ2 w1 := by
  refine ⟨fun i s hi => ?_, fun i s i' s' hi hi' he => ?_, fun b hb => ⟨(g1.im b hb).1, fun i s hi => ?_⟩, g1.gl.im fun _ h => h⟩
  ·obtain ⟨j, k1, k2, _⟩ := lt2 i s hi
   rw [k2]; exact g1.ob j s k1
  ·obtain ⟨j, k1, k2, k3⟩ := lt2 i s hi
   obtain ⟨j', k1', k2', k3'⟩ := lt2 i' s' hi'
   rw [k2, k2'] at he ⊢
   obtain ⟨e1, e2⟩ := g1.inj j s j' s' k1 k1' he
   refine ⟨?_, e2⟩
   rcases k3 with ⟨a1, a2⟩ | ⟨a1, a2⟩ <;> rcases k3' with ⟨b1, b2⟩ | ⟨b1, b2⟩
   ·rw [a1, b1]
   ·exfalso; rw [a2, b2] at e1; rw [<- e1] at b1; omega
   ·exfalso; rw [a2, b2] at e1; rw [e1] at a1; omega
   ·rw [<- a2, <- b2, e1]
  ·obtain ⟨j, k1, k2, _⟩ := lt2 i s hi
   rw [k2]; exact (g1.im b hb).2 j s k1
 have F2 : Fr (wrtn none) γ γ2 w w1 := by
  refine ⟨⟨fun i => ?_, fun i s hi => ?_, F1.up.sh, F1.up.im⟩, fun id hn => absurd trivial hn, F1.blk, fun i s h1 h2 => ?_, F1.imn, F1.lp, F1.size, F1.os, F1.tape, F1.output, F1.fz⟩
  ·by_cases e : i = r
   ·subst e; rw [hr0]; exact Nat.zero_le _
   ·by_cases hl : i.nat < nx.nat
    ·rw [cl i e hl]; exact F1.up.cur i
    ·rw [hnx i (hall i) (by omega)]; exact Nat.zero_le _
  ·have e : i ≠ r := fun e => by subst e; rw [hr0] at hi; exact absurd hi (Nat.not_lt_zero _)
   rw [bl i e]; exact F1.up.β i s hi
  ·obtain ⟨j, k1, k2, k3⟩ := lt2 i s h2
   rw [k2]
   rcases k3 with ⟨a1, a2⟩ | ⟨a1, a2⟩
   ·subst a2
    rcases F1.new j s (by rw [hnx0]; exact Nat.zero_le _) k1 with h | ⟨s0, h, _⟩
    ·exact .inl h
    ·rw [hnx0] at h; exact absurd h (Nat.not_lt_zero _)
   ·subst a2; exact F1.new j s h1 k1
 refine hR γ2 w1 u G2 F2 (DV.pu (γ := γ1) (γ' := γ2) (fun _ h => h) _ _ hv hu) (fun i ci _ hci => ?_) (fun i _ hi => c0 i (fun e => by rw [e] at hi; omega) (by omega))
 rcases hrest i ci hci with ⟨rfl, rfl⟩ | ⟨rfl, rfl⟩ | ⟨hne, hi, hg, hk⟩
 ·obtain ⟨q0, q1, q2⟩ := ho a _ (hall a) hn
  refine ⟨q0, cr.trans q1, fun s hs => ?_⟩
  obtain ⟨vs, e, fr, q3, q4, q5⟩ := q2 s hs
  rw [br]
  refine ⟨vs, e, fr, q3, q4, fun p c hpc hh hd => ?_⟩
  obtain ⟨u', q6, q7, q8⟩ := q5 p c hpc hh hd
  refine ⟨u', q6, DV.pu (γ := γ1) (γ' := γ2) (fun _ h => h) _ _ ?_ q7, q8⟩
  obtain ⟨d, hd1, rfl⟩ := List.mem_map.1 (List.mem_of_getElem? hpc)
  exact aF.1 hpu d hd1
 ·obtain ⟨q0, q1, q2⟩ := ho i _ (hall i) hqq
  obtain ⟨e1, e2⟩ := kp i hq
  refine ⟨q0, e1.trans q1, fun s hs => ?_⟩
  obtain ⟨vs, e, fr, q3, q4, q5⟩ := q2 s hs
  rw [e2]
  refine ⟨vs, e, fr, q3, q4, fun p c hpc hh hd => ?_⟩
  cases p with
  | zero =>
    have hc : c = Cell.o (.sl r 0 n st z) k := by simpa using hpc.symm
    subst hc
    obtain ⟨u', q6, q7, q8⟩ := q5 0 (Cell.o (.sl a 0 n st z) k) rfl hh hd
    refine ⟨u', q6, ?_, q8⟩
    have q7 : DV γ1 w1 (.sl a 0 n st z) u' := q7
    show DV γ2 w1 (.sl r 0 n st z) u'
    unfold DV at q7 ⊢
    rw [cr, br]
    exact q7
  | succ p => simp at hpc
 ·exact HoldsO.kp2 (γ := γ1) (γ' := γ2) (fun _ h => h) kp ⟨cl i hne hi, bl i hne⟩ hk (ho i ci (hall i) hg)
structure RndEF2 (Φ : Bool -> T C -> Prop) (id : Pos) (nx' : Pos) (e : Ex) (z : X) : Prop where
 ok : ∃ a b m c q s j ob' ob2, z.lg = none /\ z.ob.get id = some (.lp a b m c q s j) /\ ∃ nx1 a0, nx'.nat <= nx1.nat /\ nx'.nat <= a0.nat /\ Shr ⟨.e, T.set id (.lp a b m c q (GG e) (Gx e)) z.ob, z.nx, none⟩ ⟨.e, ob', nx1, none⟩ /\ Fill2 nx' a0 ob' ob2 /\ Φ (AE e) ob2
theorem RndOk.runEF2 {P : Program} {id : Pos} {ds : List D} {ob : T C} {nx : Pos} {Φ : Bool -> T C -> Prop} {sl0 : T D} {ps : List Pos} {nt : Nat} {asg body : Code} {j0 : Option Ex} {rcA rcB : RC} (hob0 : ob.get id = some (.lp sl0 ps nt asg body .ready j0)) (hA : aT P nt asg = rcA) (hB : aT P nt body = rcB)
 (hp : EO ps ds sl0 fun sl' => Rn P nt rcA ⟨sl', ob, nx, none⟩ (RndEA P nt rcB id (RndEF2 Φ id nx))) : ∃ g ob', Φ g ob' /\ RndOk P id ds ob nx none (.b g) ob' nx none := by
 obtain ⟨sl', h1, h2⟩ := hp
 obtain ⟨e, ⟨s2, ob1, nx1, lg1⟩, X1, h3⟩ := h2.ok asg hA
 obtain ⟨rfl, h4, a1, b1, m1, c1, q1, j1, h5, h6⟩ := h3.ok
 have h4 : lg1 = none := h4
 subst h4
 obtain ⟨e, ⟨s3, ob3, nx3, lg3⟩, X2, h7⟩ := h6.ok body hB
 obtain ⟨a3, b3, m3, c3, q3, s3', j3, ob', ob2, k1, k2, nx1, a0, l1, l2, k3, k4, k5⟩ := h7.ok
 have k1 : lg3 = none := k1
 subst k1
 exact ⟨AE e, ob2, k5, ((RndOk.of hob0 h1 X1 h5 X2 k2).shrink k3 l1 (.pu trivial)).fill2 trivial l2 k4⟩
end Go.Ev
end
