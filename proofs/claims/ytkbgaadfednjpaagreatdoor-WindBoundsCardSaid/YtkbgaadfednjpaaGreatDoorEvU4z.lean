import Derived.Test.YtkbgaadfednjpaaGreatDoorEvU4v0
import Derived.Test.YtkbgaadfednjpaaGreatDoorEvU4u
set_option linter.all false
set_option maxHeartbeats 8000000
noncomputable section
namespace Go.Ev
open Go.Proofs
set_option maxRecDepth 100000
theorem bK {B : Pos → Prop} {ob : T C} (S : Nat → Nat → Int) : ShC B ob (.cells false ((cV S).map fun d => Cell.o d 0) 1) (.cells false ((cV S).map fun d => Cell.o d 0) 1) := by
  refine ShC.same ?_
  simp only [cV, List.map_cons, List.map_nil]
  (repeat' first | exact ShC.nl | refine ShC.cn ?_ ?_) <;> exact .pu trivial
def eE (F : Nat → Int) (S : Nat → Nat → Int) (h r : Nat) : Int := match h with
  | 0 => F r
  | h + 1 => S h r
def qI (b : Bh) (F : Nat → Int) (S : Nat → Nat → Int) (h : Nat) : Nat → Int
  | 0 => 0
  | r + 1 => qI b F S h r + b.pls * zL (eE F S h r) (S h r)
def uE (b : Bh) (F : Nat → Int) (S : Nat → Nat → Int) : Nat → Int
  | 0 => 0
  | h + 1 => uE b F S h + qI b F S h b.rws.toNat
structure SOk (b : Bh) (F : Nat → Int) (S : Nat → Nat → Int) : Prop where
  f : ∀ r : Nat, r < b.rws.toNat → 0 ≤ F r ∧ F r ≤ 3
  s : ∀ h r : Nat, h < (b.last + 1).toNat → r < b.rws.toNat → 0 ≤ S h r ∧ S h r ≤ 3
theorem SOk.bef {b : Bh} {F : Nat → Int} {S : Nat → Nat → Int} (K : SOk b F S) {h r : Nat} (hh : h < (b.last + 1).toNat) (hr : r < b.rws.toNat) : 0 ≤ eE F S h r ∧ eE F S h r ≤ 3 := by
  cases h with
  | zero => exact K.f r hr
  | succ h => exact K.s h r (by omega) hr
theorem oO {b : Bh} (V : VW b) {F : Nat → Int} {S : Nat → Nat → Int} (K : SOk b F S) {h : Nat} (hh : h < (b.last + 1).toNat) : ∀ r : Nat, r ≤ b.rws.toNat → 0 ≤ qI b F S h r ∧ qI b F S h r ≤ 10 * r
  | 0, _ => by simp [qI]
  | r + 1, hr => by
    have h1 := oO V K hh r (by omega)
    have h2 := AA (K.bef hh (by omega : r < b.rws.toNat)) (K.s h r hh (by omega))
    have q := V.pls
    have h3 : 0 ≤ b.pls * zL (eE F S h r) (S h r) := Int.mul_nonneg (by omega) h2.1
    have h4 : b.pls * zL (eE F S h r) (S h r) ≤ 5 * 2 := Int.mul_le_mul q.2 h2.2 h2.1 (by omega)
    show 0 ≤ qI b F S h r + b.pls * zL (eE F S h r) (S h r) ∧ qI b F S h r + b.pls * zL (eE F S h r) (S h r) ≤ _
    omega
theorem Am {b : Bh} (V : VW b) {F : Nat → Int} {S : Nat → Nat → Int} (K : SOk b F S) : ∀ h : Nat, h ≤ (b.last + 1).toNat → 0 ≤ uE b F S h ∧ uE b F S h ≤ 30 * h
  | 0, _ => by simp [uE]
  | h + 1, hh => by
    have h1 := Am V K h (by omega)
    have h2 := oO V K (show h < (b.last + 1).toNat by omega) b.rws.toNat (Nat.le_refl _)
    have q := V.rws
    show 0 ≤ uE b F S h + qI b F S h b.rws.toNat ∧ uE b F S h + qI b F S h b.rws.toNat ≤ _
    omega
set_option maxHeartbeats 16000000 in
theorem HK (b : Bh) (V : VW b) (F : Nat → Int) (hF : PureF Tryz.prog p107.ix [.lst 1 (ints b.face)] (.ag (rC F))) (S : Nat → Nat → Int) (K : SOk b F S) : PureF Tryz.prog p91.ix [.ag (dS b), .ag (cV S)] (.i .i64 (uE b F S (b.last + 1).toNat)) := by
  have q1 := V.last
  have q2 := V.rws
  refine PureF.run Ok (by simp) (by simp [aR, Pu, aQ, fO]) ?_; conv => whnf
  repeat' first | ((first | refine Qz ?_ | refine Qf (hF) ?_ | refine Qy ?_) <;> conv => whnf) | (refine WB.tt ?_; conv => whnf) | (refine WB.ff ?_; conv => whnf)
  refine Rn.loop (fun h : Nat => ⟨(.n (.n (.n .e (some (.pt (.o .h) 0 0)) .e) none (.n (.n (.n .e (some (.i .i64 (h : Int))) .e) none .e) (some (.i .i64 (uE b F S h))) .e)) none (.n (.n (.n (.n .e (some (.i .i64 (b.last + 1))) .e) none .e) none .e) (some (.pt .h 0 0)) (.n .e (some (.pt (.i .h) 0 0)) .e))), .n (.n .e (some (.cells false ((cV S).map fun d => Cell.o d 0) 1)) .e) (some (bN b)) (.n .e (some (.cells false ((rC (eE F S h)).map fun d => Cell.o d 0) 1)) .e), .o (.o .h), none⟩) (fun h => h ≤ (b.last + 1).toNat) (fun h => (b.last + 1).toNat - h) 0 ?_ (Nat.zero_le _) ?_
  · refine X.le.mk ?_ ?_ (Nat.le_refl _) rfl rfl
    all_goals (repeat' first | exact T.le_e _ | exact T.le_refl _ | refine T.le_some ?_ rfl ?_ | refine T.le_none ?_ ?_ | refine T.le_ee ?_ ?_)
  intro h hh
  have hh : h ≤ (b.last + 1).toNat := hh
  conv => whnf
  repeat' first | ((first | refine Qz ?_ | refine Qy ?_) <;> conv => whnf) | (refine WB.tt ?_; conv => whnf) | (refine WB.ff ?_; conv => whnf)
  refine WB.dec (fun hd => ?_) (fun hd => ?_) <;> conv => whnf
  · have hlt : h < (b.last + 1).toNat := by omega
    have hbd := Am V K h (by omega)
    have hsc : uE b F S (h + 1) = uE b F S h + qI b F S h b.rws.toNat := rfl
    generalize uE b F S h = acc at *
    repeat' first | ((first | refine Qz ?_ | refine Qy ?_) <;> conv => whnf) | (refine WB.tt ?_; conv => whnf) | (refine WB.ff ?_; conv => whnf)
    refine Rn.loop (fun r : Nat => ⟨(.n (.n (.n (.n .e (some (.i .i64 (h : Int))) (.n .e (some (.i .i64 (r : Int))) .e)) (some (.pt (.o .h) 0 0)) .e) none (.n (.n (.n .e (some (.i .i64 (h : Int))) .e) none .e) (some (.i .i64 (acc + qI b F S h r))) .e)) none (.n (.n (.n (.n .e (some (.i .i64 (b.last + 1))) .e) none .e) none .e) (some (.pt .h 0 0)) (.n .e (some (.pt (.i .h) 0 0)) (.n (.n .e (some (.i .i64 b.rws)) .e) none .e)))), .n (.n .e (some (.cells false ((cV S).map fun d => Cell.o d 0) 1)) .e) (some (bN b)) (.n .e (some (.cells false ((rC (eE F S h)).map fun d => Cell.o d 0) 1)) .e), .o (.o .h), none⟩) (fun r => r ≤ b.rws.toNat) (fun r => b.rws.toNat - r) 0 ?_ (Nat.zero_le _) ?_
    · refine X.le.mk ?_ ?_ (Nat.le_refl _) rfl rfl
      · show T.le ((.n (.n (.n (.n .e (some (.i .i64 (h : Int))) (.n .e (some (.i .i64 0)) .e)) (some (.pt (.o .h) 0 0)) .e) none (.n (.n (.n .e (some (.i .i64 (h : Int))) .e) none .e) (some (.i .i64 (acc + 0))) .e)) none (.n (.n (.n (.n .e (some (.i .i64 (b.last + 1))) .e) none .e) none .e) (some (.pt .h 0 0)) (.n .e (some (.pt (.i .h) 0 0)) (.n (.n .e (some (.i .i64 b.rws)) .e) none .e)))) : T D) _
        rw [Int.add_zero]
        (repeat' first | exact T.le_e _ | exact T.le_refl _ | refine T.le_some ?_ rfl ?_ | refine T.le_none ?_ ?_ | refine T.le_ee ?_ ?_)
      · (repeat' first | exact T.le_e _ | exact T.le_refl _ | refine T.le_some ?_ rfl ?_ | refine T.le_none ?_ ?_ | refine T.le_ee ?_ ?_)
    intro r hr
    have hr : r ≤ b.rws.toNat := hr
    conv => whnf
    repeat' first | ((first | refine Qz ?_ | refine Qy ?_) <;> conv => whnf) | (refine WB.tt ?_; conv => whnf) | (refine WB.ff ?_; conv => whnf)
    refine WB.dec (fun hd2 => ?_) (fun hd2 => ?_) <;> conv => whnf
    · have hlt2 : r < b.rws.toNat := by omega
      have kb := K.bef hlt hlt2
      have ks := K.s h r hlt hlt2
      have cT := CY b V (eE F S h r) (S h r) kb ks
      have hb2 := oO V K hlt (r + 1) (by omega)
      have hb1 := oO V K hlt r (by omega)
      have hsr : qI b F S h (r + 1) = qI b F S h r + b.pls * zL (eE F S h r) (S h r) := rfl
      rw [hsr] at hb2
      generalize hq : b.pls * zL (eE F S h r) (S h r) = q at *
      generalize hw : qI b F S h r = w at *
      have hr3 : r < 3 := by omega
      have hh5 : h < 5 := by omega
      rcases qA hh5 with rfl | rfl | rfl | rfl | rfl <;> rcases Fv hr3 with rfl | rfl | rfl
      · repeat' first | ((first | refine Qz ?_ | refine Qy ?_) <;> conv => whnf) | (refine WB.tt ?_; conv => whnf) | (refine WB.ff ?_; conv => whnf)
        refine WSt.ixaN (m := 0) rfl rfl rfl (by decide) ?_; conv => whnf
        repeat' first | ((first | refine Qz ?_ | refine Qy ?_) <;> conv => whnf) | (refine WB.tt ?_; conv => whnf) | (refine WB.ff ?_; conv => whnf)
        refine WSt.ixaN (m := 0) rfl rfl rfl (by decide) ?_; conv => whnf
        repeat' first | ((first | refine Qz ?_ | refine Qy ?_) <;> conv => whnf) | (refine WB.tt ?_; conv => whnf) | (refine WB.ff ?_; conv => whnf)
        refine WSt.ixaN (m := 0) rfl rfl rfl (by decide) ?_; conv => whnf
        repeat' first | ((first | refine Qz ?_ | refine Qf (cT) ?_ | refine Qy ?_) <;> conv => whnf) | (refine WB.tt ?_; conv => whnf) | (refine WB.ff ?_; conv => whnf)
        refine Again.to (0 + 1) (by omega) (show 0 + 1 ≤ b.rws.toNat by omega) (Nat.le_refl _) ?_
        rw [hsr, ← Int.add_assoc]
        refine Shr.of ?_ ?_ rfl rfl
        · show Rel _ _ ((.n (.n (.n (.n .e (some (.i .i64 ((0 : Nat) : Int))) (.n .e (some (.i .i64 ((0 + 1 : Nat) : Int))) .e)) (some (.pt (.o .h) 0 0)) .e) none (.n (.n (.n .e (some (.i .i64 ((0 : Nat) : Int))) .e) none .e) (some (.i .i64 (acc + w + q))) .e)) none (.n (.n (.n (.n .e (some (.i .i64 (b.last + 1))) .e) none .e) none .e) (some (.pt .h 0 0)) (.n .e (some (.pt (.i .h) 0 0)) (.n (.n .e (some (.i .i64 b.rws)) .e) none .e)))) : T D) _
          (repeat' first | exact Rel.e | refine Rel.some ?_ ?_ ?_ | refine Rel.none ?_ ?_ | refine Rel.ee ?_ ?_)
          all_goals show Fz _ _ _ _
          all_goals first | exact .pu trivial | exact .kpt (show _ < 4 by simp [Pos.nat])
        · show Rel _ _ (.n (.n .e (some (.cells false ((cV S).map fun d => Cell.o d 0) 1)) .e) (some (bN b)) (.n .e (some (.cells false ((rC (eE F S 0)).map fun d => Cell.o d 0) 1)) .e) : T C) _
          (repeat' first | exact Rel.e | refine Rel.some ?_ ?_ ?_ | refine Rel.none ?_ ?_ | refine Rel.ee ?_ ?_)
          all_goals first | exact RO'.of (show _ < 4 by simp [Pos.nat]) (aE b) | exact RO'.of (show _ < 4 by simp [Pos.nat]) bI | exact RO'.of (show _ < 4 by simp [Pos.nat]) (bK S)
      · repeat' first | ((first | refine Qz ?_ | refine Qy ?_) <;> conv => whnf) | (refine WB.tt ?_; conv => whnf) | (refine WB.ff ?_; conv => whnf)
        refine WSt.ixaN (m := 1) rfl rfl rfl (by decide) ?_; conv => whnf
        repeat' first | ((first | refine Qz ?_ | refine Qy ?_) <;> conv => whnf) | (refine WB.tt ?_; conv => whnf) | (refine WB.ff ?_; conv => whnf)
        refine WSt.ixaN (m := 0) rfl rfl rfl (by decide) ?_; conv => whnf
        repeat' first | ((first | refine Qz ?_ | refine Qy ?_) <;> conv => whnf) | (refine WB.tt ?_; conv => whnf) | (refine WB.ff ?_; conv => whnf)
        refine WSt.ixaN (m := 1) rfl rfl rfl (by decide) ?_; conv => whnf
        repeat' first | ((first | refine Qz ?_ | refine Qf (cT) ?_ | refine Qy ?_) <;> conv => whnf) | (refine WB.tt ?_; conv => whnf) | (refine WB.ff ?_; conv => whnf)
        refine Again.to (1 + 1) (by omega) (show 1 + 1 ≤ b.rws.toNat by omega) (Nat.le_refl _) ?_
        rw [hsr, ← Int.add_assoc]
        refine Shr.of ?_ ?_ rfl rfl
        · show Rel _ _ ((.n (.n (.n (.n .e (some (.i .i64 ((0 : Nat) : Int))) (.n .e (some (.i .i64 ((1 + 1 : Nat) : Int))) .e)) (some (.pt (.o .h) 0 0)) .e) none (.n (.n (.n .e (some (.i .i64 ((0 : Nat) : Int))) .e) none .e) (some (.i .i64 (acc + w + q))) .e)) none (.n (.n (.n (.n .e (some (.i .i64 (b.last + 1))) .e) none .e) none .e) (some (.pt .h 0 0)) (.n .e (some (.pt (.i .h) 0 0)) (.n (.n .e (some (.i .i64 b.rws)) .e) none .e)))) : T D) _
          (repeat' first | exact Rel.e | refine Rel.some ?_ ?_ ?_ | refine Rel.none ?_ ?_ | refine Rel.ee ?_ ?_)
          all_goals show Fz _ _ _ _
          all_goals first | exact .pu trivial | exact .kpt (show _ < 4 by simp [Pos.nat])
        · show Rel _ _ (.n (.n .e (some (.cells false ((cV S).map fun d => Cell.o d 0) 1)) .e) (some (bN b)) (.n .e (some (.cells false ((rC (eE F S 0)).map fun d => Cell.o d 0) 1)) .e) : T C) _
          (repeat' first | exact Rel.e | refine Rel.some ?_ ?_ ?_ | refine Rel.none ?_ ?_ | refine Rel.ee ?_ ?_)
          all_goals first | exact RO'.of (show _ < 4 by simp [Pos.nat]) (aE b) | exact RO'.of (show _ < 4 by simp [Pos.nat]) bI | exact RO'.of (show _ < 4 by simp [Pos.nat]) (bK S)
      · repeat' first | ((first | refine Qz ?_ | refine Qy ?_) <;> conv => whnf) | (refine WB.tt ?_; conv => whnf) | (refine WB.ff ?_; conv => whnf)
        refine WSt.ixaN (m := 2) rfl rfl rfl (by decide) ?_; conv => whnf
        repeat' first | ((first | refine Qz ?_ | refine Qy ?_) <;> conv => whnf) | (refine WB.tt ?_; conv => whnf) | (refine WB.ff ?_; conv => whnf)
        refine WSt.ixaN (m := 0) rfl rfl rfl (by decide) ?_; conv => whnf
        repeat' first | ((first | refine Qz ?_ | refine Qy ?_) <;> conv => whnf) | (refine WB.tt ?_; conv => whnf) | (refine WB.ff ?_; conv => whnf)
        refine WSt.ixaN (m := 2) rfl rfl rfl (by decide) ?_; conv => whnf
        repeat' first | ((first | refine Qz ?_ | refine Qf (cT) ?_ | refine Qy ?_) <;> conv => whnf) | (refine WB.tt ?_; conv => whnf) | (refine WB.ff ?_; conv => whnf)
        refine Again.to (2 + 1) (by omega) (show 2 + 1 ≤ b.rws.toNat by omega) (Nat.le_refl _) ?_
        rw [hsr, ← Int.add_assoc]
        refine Shr.of ?_ ?_ rfl rfl
        · show Rel _ _ ((.n (.n (.n (.n .e (some (.i .i64 ((0 : Nat) : Int))) (.n .e (some (.i .i64 ((2 + 1 : Nat) : Int))) .e)) (some (.pt (.o .h) 0 0)) .e) none (.n (.n (.n .e (some (.i .i64 ((0 : Nat) : Int))) .e) none .e) (some (.i .i64 (acc + w + q))) .e)) none (.n (.n (.n (.n .e (some (.i .i64 (b.last + 1))) .e) none .e) none .e) (some (.pt .h 0 0)) (.n .e (some (.pt (.i .h) 0 0)) (.n (.n .e (some (.i .i64 b.rws)) .e) none .e)))) : T D) _
          (repeat' first | exact Rel.e | refine Rel.some ?_ ?_ ?_ | refine Rel.none ?_ ?_ | refine Rel.ee ?_ ?_)
          all_goals show Fz _ _ _ _
          all_goals first | exact .pu trivial | exact .kpt (show _ < 4 by simp [Pos.nat])
        · show Rel _ _ (.n (.n .e (some (.cells false ((cV S).map fun d => Cell.o d 0) 1)) .e) (some (bN b)) (.n .e (some (.cells false ((rC (eE F S 0)).map fun d => Cell.o d 0) 1)) .e) : T C) _
          (repeat' first | exact Rel.e | refine Rel.some ?_ ?_ ?_ | refine Rel.none ?_ ?_ | refine Rel.ee ?_ ?_)
          all_goals first | exact RO'.of (show _ < 4 by simp [Pos.nat]) (aE b) | exact RO'.of (show _ < 4 by simp [Pos.nat]) bI | exact RO'.of (show _ < 4 by simp [Pos.nat]) (bK S)
      · repeat' first | ((first | refine Qz ?_ | refine Qy ?_) <;> conv => whnf) | (refine WB.tt ?_; conv => whnf) | (refine WB.ff ?_; conv => whnf)
        refine WSt.ixaN (m := 0) rfl rfl rfl (by decide) ?_; conv => whnf
        repeat' first | ((first | refine Qz ?_ | refine Qy ?_) <;> conv => whnf) | (refine WB.tt ?_; conv => whnf) | (refine WB.ff ?_; conv => whnf)
        refine WSt.ixaN (m := 1) rfl rfl rfl (by decide) ?_; conv => whnf
        repeat' first | ((first | refine Qz ?_ | refine Qy ?_) <;> conv => whnf) | (refine WB.tt ?_; conv => whnf) | (refine WB.ff ?_; conv => whnf)
        refine WSt.ixaN (m := 0) rfl rfl rfl (by decide) ?_; conv => whnf
        repeat' first | ((first | refine Qz ?_ | refine Qf (cT) ?_ | refine Qy ?_) <;> conv => whnf) | (refine WB.tt ?_; conv => whnf) | (refine WB.ff ?_; conv => whnf)
        refine Again.to (0 + 1) (by omega) (show 0 + 1 ≤ b.rws.toNat by omega) (Nat.le_refl _) ?_
        rw [hsr, ← Int.add_assoc]
        refine Shr.of ?_ ?_ rfl rfl
        · show Rel _ _ ((.n (.n (.n (.n .e (some (.i .i64 ((1 : Nat) : Int))) (.n .e (some (.i .i64 ((0 + 1 : Nat) : Int))) .e)) (some (.pt (.o .h) 0 0)) .e) none (.n (.n (.n .e (some (.i .i64 ((1 : Nat) : Int))) .e) none .e) (some (.i .i64 (acc + w + q))) .e)) none (.n (.n (.n (.n .e (some (.i .i64 (b.last + 1))) .e) none .e) none .e) (some (.pt .h 0 0)) (.n .e (some (.pt (.i .h) 0 0)) (.n (.n .e (some (.i .i64 b.rws)) .e) none .e)))) : T D) _
          (repeat' first | exact Rel.e | refine Rel.some ?_ ?_ ?_ | refine Rel.none ?_ ?_ | refine Rel.ee ?_ ?_)
          all_goals show Fz _ _ _ _
          all_goals first | exact .pu trivial | exact .kpt (show _ < 4 by simp [Pos.nat])
        · show Rel _ _ (.n (.n .e (some (.cells false ((cV S).map fun d => Cell.o d 0) 1)) .e) (some (bN b)) (.n .e (some (.cells false ((rC (eE F S 1)).map fun d => Cell.o d 0) 1)) .e) : T C) _
          (repeat' first | exact Rel.e | refine Rel.some ?_ ?_ ?_ | refine Rel.none ?_ ?_ | refine Rel.ee ?_ ?_)
          all_goals first | exact RO'.of (show _ < 4 by simp [Pos.nat]) (aE b) | exact RO'.of (show _ < 4 by simp [Pos.nat]) bI | exact RO'.of (show _ < 4 by simp [Pos.nat]) (bK S)
      · repeat' first | ((first | refine Qz ?_ | refine Qy ?_) <;> conv => whnf) | (refine WB.tt ?_; conv => whnf) | (refine WB.ff ?_; conv => whnf)
        refine WSt.ixaN (m := 1) rfl rfl rfl (by decide) ?_; conv => whnf
        repeat' first | ((first | refine Qz ?_ | refine Qy ?_) <;> conv => whnf) | (refine WB.tt ?_; conv => whnf) | (refine WB.ff ?_; conv => whnf)
        refine WSt.ixaN (m := 1) rfl rfl rfl (by decide) ?_; conv => whnf
        repeat' first | ((first | refine Qz ?_ | refine Qy ?_) <;> conv => whnf) | (refine WB.tt ?_; conv => whnf) | (refine WB.ff ?_; conv => whnf)
        refine WSt.ixaN (m := 1) rfl rfl rfl (by decide) ?_; conv => whnf
        repeat' first | ((first | refine Qz ?_ | refine Qf (cT) ?_ | refine Qy ?_) <;> conv => whnf) | (refine WB.tt ?_; conv => whnf) | (refine WB.ff ?_; conv => whnf)
        refine Again.to (1 + 1) (by omega) (show 1 + 1 ≤ b.rws.toNat by omega) (Nat.le_refl _) ?_
        rw [hsr, ← Int.add_assoc]
        refine Shr.of ?_ ?_ rfl rfl
        · show Rel _ _ ((.n (.n (.n (.n .e (some (.i .i64 ((1 : Nat) : Int))) (.n .e (some (.i .i64 ((1 + 1 : Nat) : Int))) .e)) (some (.pt (.o .h) 0 0)) .e) none (.n (.n (.n .e (some (.i .i64 ((1 : Nat) : Int))) .e) none .e) (some (.i .i64 (acc + w + q))) .e)) none (.n (.n (.n (.n .e (some (.i .i64 (b.last + 1))) .e) none .e) none .e) (some (.pt .h 0 0)) (.n .e (some (.pt (.i .h) 0 0)) (.n (.n .e (some (.i .i64 b.rws)) .e) none .e)))) : T D) _
          (repeat' first | exact Rel.e | refine Rel.some ?_ ?_ ?_ | refine Rel.none ?_ ?_ | refine Rel.ee ?_ ?_)
          all_goals show Fz _ _ _ _
          all_goals first | exact .pu trivial | exact .kpt (show _ < 4 by simp [Pos.nat])
        · show Rel _ _ (.n (.n .e (some (.cells false ((cV S).map fun d => Cell.o d 0) 1)) .e) (some (bN b)) (.n .e (some (.cells false ((rC (eE F S 1)).map fun d => Cell.o d 0) 1)) .e) : T C) _
          (repeat' first | exact Rel.e | refine Rel.some ?_ ?_ ?_ | refine Rel.none ?_ ?_ | refine Rel.ee ?_ ?_)
          all_goals first | exact RO'.of (show _ < 4 by simp [Pos.nat]) (aE b) | exact RO'.of (show _ < 4 by simp [Pos.nat]) bI | exact RO'.of (show _ < 4 by simp [Pos.nat]) (bK S)
      · repeat' first | ((first | refine Qz ?_ | refine Qy ?_) <;> conv => whnf) | (refine WB.tt ?_; conv => whnf) | (refine WB.ff ?_; conv => whnf)
        refine WSt.ixaN (m := 2) rfl rfl rfl (by decide) ?_; conv => whnf
        repeat' first | ((first | refine Qz ?_ | refine Qy ?_) <;> conv => whnf) | (refine WB.tt ?_; conv => whnf) | (refine WB.ff ?_; conv => whnf)
        refine WSt.ixaN (m := 1) rfl rfl rfl (by decide) ?_; conv => whnf
        repeat' first | ((first | refine Qz ?_ | refine Qy ?_) <;> conv => whnf) | (refine WB.tt ?_; conv => whnf) | (refine WB.ff ?_; conv => whnf)
        refine WSt.ixaN (m := 2) rfl rfl rfl (by decide) ?_; conv => whnf
        repeat' first | ((first | refine Qz ?_ | refine Qf (cT) ?_ | refine Qy ?_) <;> conv => whnf) | (refine WB.tt ?_; conv => whnf) | (refine WB.ff ?_; conv => whnf)
        refine Again.to (2 + 1) (by omega) (show 2 + 1 ≤ b.rws.toNat by omega) (Nat.le_refl _) ?_
        rw [hsr, ← Int.add_assoc]
        refine Shr.of ?_ ?_ rfl rfl
        · show Rel _ _ ((.n (.n (.n (.n .e (some (.i .i64 ((1 : Nat) : Int))) (.n .e (some (.i .i64 ((2 + 1 : Nat) : Int))) .e)) (some (.pt (.o .h) 0 0)) .e) none (.n (.n (.n .e (some (.i .i64 ((1 : Nat) : Int))) .e) none .e) (some (.i .i64 (acc + w + q))) .e)) none (.n (.n (.n (.n .e (some (.i .i64 (b.last + 1))) .e) none .e) none .e) (some (.pt .h 0 0)) (.n .e (some (.pt (.i .h) 0 0)) (.n (.n .e (some (.i .i64 b.rws)) .e) none .e)))) : T D) _
          (repeat' first | exact Rel.e | refine Rel.some ?_ ?_ ?_ | refine Rel.none ?_ ?_ | refine Rel.ee ?_ ?_)
          all_goals show Fz _ _ _ _
          all_goals first | exact .pu trivial | exact .kpt (show _ < 4 by simp [Pos.nat])
        · show Rel _ _ (.n (.n .e (some (.cells false ((cV S).map fun d => Cell.o d 0) 1)) .e) (some (bN b)) (.n .e (some (.cells false ((rC (eE F S 1)).map fun d => Cell.o d 0) 1)) .e) : T C) _
          (repeat' first | exact Rel.e | refine Rel.some ?_ ?_ ?_ | refine Rel.none ?_ ?_ | refine Rel.ee ?_ ?_)
          all_goals first | exact RO'.of (show _ < 4 by simp [Pos.nat]) (aE b) | exact RO'.of (show _ < 4 by simp [Pos.nat]) bI | exact RO'.of (show _ < 4 by simp [Pos.nat]) (bK S)
      · repeat' first | ((first | refine Qz ?_ | refine Qy ?_) <;> conv => whnf) | (refine WB.tt ?_; conv => whnf) | (refine WB.ff ?_; conv => whnf)
        refine WSt.ixaN (m := 0) rfl rfl rfl (by decide) ?_; conv => whnf
        repeat' first | ((first | refine Qz ?_ | refine Qy ?_) <;> conv => whnf) | (refine WB.tt ?_; conv => whnf) | (refine WB.ff ?_; conv => whnf)
        refine WSt.ixaN (m := 2) rfl rfl rfl (by decide) ?_; conv => whnf
        repeat' first | ((first | refine Qz ?_ | refine Qy ?_) <;> conv => whnf) | (refine WB.tt ?_; conv => whnf) | (refine WB.ff ?_; conv => whnf)
        refine WSt.ixaN (m := 0) rfl rfl rfl (by decide) ?_; conv => whnf
        repeat' first | ((first | refine Qz ?_ | refine Qf (cT) ?_ | refine Qy ?_) <;> conv => whnf) | (refine WB.tt ?_; conv => whnf) | (refine WB.ff ?_; conv => whnf)
        refine Again.to (0 + 1) (by omega) (show 0 + 1 ≤ b.rws.toNat by omega) (Nat.le_refl _) ?_
        rw [hsr, ← Int.add_assoc]
        refine Shr.of ?_ ?_ rfl rfl
        · show Rel _ _ ((.n (.n (.n (.n .e (some (.i .i64 ((2 : Nat) : Int))) (.n .e (some (.i .i64 ((0 + 1 : Nat) : Int))) .e)) (some (.pt (.o .h) 0 0)) .e) none (.n (.n (.n .e (some (.i .i64 ((2 : Nat) : Int))) .e) none .e) (some (.i .i64 (acc + w + q))) .e)) none (.n (.n (.n (.n .e (some (.i .i64 (b.last + 1))) .e) none .e) none .e) (some (.pt .h 0 0)) (.n .e (some (.pt (.i .h) 0 0)) (.n (.n .e (some (.i .i64 b.rws)) .e) none .e)))) : T D) _
          (repeat' first | exact Rel.e | refine Rel.some ?_ ?_ ?_ | refine Rel.none ?_ ?_ | refine Rel.ee ?_ ?_)
          all_goals show Fz _ _ _ _
          all_goals first | exact .pu trivial | exact .kpt (show _ < 4 by simp [Pos.nat])
        · show Rel _ _ (.n (.n .e (some (.cells false ((cV S).map fun d => Cell.o d 0) 1)) .e) (some (bN b)) (.n .e (some (.cells false ((rC (eE F S 2)).map fun d => Cell.o d 0) 1)) .e) : T C) _
          (repeat' first | exact Rel.e | refine Rel.some ?_ ?_ ?_ | refine Rel.none ?_ ?_ | refine Rel.ee ?_ ?_)
          all_goals first | exact RO'.of (show _ < 4 by simp [Pos.nat]) (aE b) | exact RO'.of (show _ < 4 by simp [Pos.nat]) bI | exact RO'.of (show _ < 4 by simp [Pos.nat]) (bK S)
      · repeat' first | ((first | refine Qz ?_ | refine Qy ?_) <;> conv => whnf) | (refine WB.tt ?_; conv => whnf) | (refine WB.ff ?_; conv => whnf)
        refine WSt.ixaN (m := 1) rfl rfl rfl (by decide) ?_; conv => whnf
        repeat' first | ((first | refine Qz ?_ | refine Qy ?_) <;> conv => whnf) | (refine WB.tt ?_; conv => whnf) | (refine WB.ff ?_; conv => whnf)
        refine WSt.ixaN (m := 2) rfl rfl rfl (by decide) ?_; conv => whnf
        repeat' first | ((first | refine Qz ?_ | refine Qy ?_) <;> conv => whnf) | (refine WB.tt ?_; conv => whnf) | (refine WB.ff ?_; conv => whnf)
        refine WSt.ixaN (m := 1) rfl rfl rfl (by decide) ?_; conv => whnf
        repeat' first | ((first | refine Qz ?_ | refine Qf (cT) ?_ | refine Qy ?_) <;> conv => whnf) | (refine WB.tt ?_; conv => whnf) | (refine WB.ff ?_; conv => whnf)
        refine Again.to (1 + 1) (by omega) (show 1 + 1 ≤ b.rws.toNat by omega) (Nat.le_refl _) ?_
        rw [hsr, ← Int.add_assoc]
        refine Shr.of ?_ ?_ rfl rfl
        · show Rel _ _ ((.n (.n (.n (.n .e (some (.i .i64 ((2 : Nat) : Int))) (.n .e (some (.i .i64 ((1 + 1 : Nat) : Int))) .e)) (some (.pt (.o .h) 0 0)) .e) none (.n (.n (.n .e (some (.i .i64 ((2 : Nat) : Int))) .e) none .e) (some (.i .i64 (acc + w + q))) .e)) none (.n (.n (.n (.n .e (some (.i .i64 (b.last + 1))) .e) none .e) none .e) (some (.pt .h 0 0)) (.n .e (some (.pt (.i .h) 0 0)) (.n (.n .e (some (.i .i64 b.rws)) .e) none .e)))) : T D) _
          (repeat' first | exact Rel.e | refine Rel.some ?_ ?_ ?_ | refine Rel.none ?_ ?_ | refine Rel.ee ?_ ?_)
          all_goals show Fz _ _ _ _
          all_goals first | exact .pu trivial | exact .kpt (show _ < 4 by simp [Pos.nat])
        · show Rel _ _ (.n (.n .e (some (.cells false ((cV S).map fun d => Cell.o d 0) 1)) .e) (some (bN b)) (.n .e (some (.cells false ((rC (eE F S 2)).map fun d => Cell.o d 0) 1)) .e) : T C) _
          (repeat' first | exact Rel.e | refine Rel.some ?_ ?_ ?_ | refine Rel.none ?_ ?_ | refine Rel.ee ?_ ?_)
          all_goals first | exact RO'.of (show _ < 4 by simp [Pos.nat]) (aE b) | exact RO'.of (show _ < 4 by simp [Pos.nat]) bI | exact RO'.of (show _ < 4 by simp [Pos.nat]) (bK S)
      · repeat' first | ((first | refine Qz ?_ | refine Qy ?_) <;> conv => whnf) | (refine WB.tt ?_; conv => whnf) | (refine WB.ff ?_; conv => whnf)
        refine WSt.ixaN (m := 2) rfl rfl rfl (by decide) ?_; conv => whnf
        repeat' first | ((first | refine Qz ?_ | refine Qy ?_) <;> conv => whnf) | (refine WB.tt ?_; conv => whnf) | (refine WB.ff ?_; conv => whnf)
        refine WSt.ixaN (m := 2) rfl rfl rfl (by decide) ?_; conv => whnf
        repeat' first | ((first | refine Qz ?_ | refine Qy ?_) <;> conv => whnf) | (refine WB.tt ?_; conv => whnf) | (refine WB.ff ?_; conv => whnf)
        refine WSt.ixaN (m := 2) rfl rfl rfl (by decide) ?_; conv => whnf
        repeat' first | ((first | refine Qz ?_ | refine Qf (cT) ?_ | refine Qy ?_) <;> conv => whnf) | (refine WB.tt ?_; conv => whnf) | (refine WB.ff ?_; conv => whnf)
        refine Again.to (2 + 1) (by omega) (show 2 + 1 ≤ b.rws.toNat by omega) (Nat.le_refl _) ?_
        rw [hsr, ← Int.add_assoc]
        refine Shr.of ?_ ?_ rfl rfl
        · show Rel _ _ ((.n (.n (.n (.n .e (some (.i .i64 ((2 : Nat) : Int))) (.n .e (some (.i .i64 ((2 + 1 : Nat) : Int))) .e)) (some (.pt (.o .h) 0 0)) .e) none (.n (.n (.n .e (some (.i .i64 ((2 : Nat) : Int))) .e) none .e) (some (.i .i64 (acc + w + q))) .e)) none (.n (.n (.n (.n .e (some (.i .i64 (b.last + 1))) .e) none .e) none .e) (some (.pt .h 0 0)) (.n .e (some (.pt (.i .h) 0 0)) (.n (.n .e (some (.i .i64 b.rws)) .e) none .e)))) : T D) _
          (repeat' first | exact Rel.e | refine Rel.some ?_ ?_ ?_ | refine Rel.none ?_ ?_ | refine Rel.ee ?_ ?_)
          all_goals show Fz _ _ _ _
          all_goals first | exact .pu trivial | exact .kpt (show _ < 4 by simp [Pos.nat])
        · show Rel _ _ (.n (.n .e (some (.cells false ((cV S).map fun d => Cell.o d 0) 1)) .e) (some (bN b)) (.n .e (some (.cells false ((rC (eE F S 2)).map fun d => Cell.o d 0) 1)) .e) : T C) _
          (repeat' first | exact Rel.e | refine Rel.some ?_ ?_ ?_ | refine Rel.none ?_ ?_ | refine Rel.ee ?_ ?_)
          all_goals first | exact RO'.of (show _ < 4 by simp [Pos.nat]) (aE b) | exact RO'.of (show _ < 4 by simp [Pos.nat]) bI | exact RO'.of (show _ < 4 by simp [Pos.nat]) (bK S)
      · repeat' first | ((first | refine Qz ?_ | refine Qy ?_) <;> conv => whnf) | (refine WB.tt ?_; conv => whnf) | (refine WB.ff ?_; conv => whnf)
        refine WSt.ixaN (m := 0) rfl rfl rfl (by decide) ?_; conv => whnf
        repeat' first | ((first | refine Qz ?_ | refine Qy ?_) <;> conv => whnf) | (refine WB.tt ?_; conv => whnf) | (refine WB.ff ?_; conv => whnf)
        refine WSt.ixaN (m := 3) rfl rfl rfl (by decide) ?_; conv => whnf
        repeat' first | ((first | refine Qz ?_ | refine Qy ?_) <;> conv => whnf) | (refine WB.tt ?_; conv => whnf) | (refine WB.ff ?_; conv => whnf)
        refine WSt.ixaN (m := 0) rfl rfl rfl (by decide) ?_; conv => whnf
        repeat' first | ((first | refine Qz ?_ | refine Qf (cT) ?_ | refine Qy ?_) <;> conv => whnf) | (refine WB.tt ?_; conv => whnf) | (refine WB.ff ?_; conv => whnf)
        refine Again.to (0 + 1) (by omega) (show 0 + 1 ≤ b.rws.toNat by omega) (Nat.le_refl _) ?_
        rw [hsr, ← Int.add_assoc]
        refine Shr.of ?_ ?_ rfl rfl
        · show Rel _ _ ((.n (.n (.n (.n .e (some (.i .i64 ((3 : Nat) : Int))) (.n .e (some (.i .i64 ((0 + 1 : Nat) : Int))) .e)) (some (.pt (.o .h) 0 0)) .e) none (.n (.n (.n .e (some (.i .i64 ((3 : Nat) : Int))) .e) none .e) (some (.i .i64 (acc + w + q))) .e)) none (.n (.n (.n (.n .e (some (.i .i64 (b.last + 1))) .e) none .e) none .e) (some (.pt .h 0 0)) (.n .e (some (.pt (.i .h) 0 0)) (.n (.n .e (some (.i .i64 b.rws)) .e) none .e)))) : T D) _
          (repeat' first | exact Rel.e | refine Rel.some ?_ ?_ ?_ | refine Rel.none ?_ ?_ | refine Rel.ee ?_ ?_)
          all_goals show Fz _ _ _ _
          all_goals first | exact .pu trivial | exact .kpt (show _ < 4 by simp [Pos.nat])
        · show Rel _ _ (.n (.n .e (some (.cells false ((cV S).map fun d => Cell.o d 0) 1)) .e) (some (bN b)) (.n .e (some (.cells false ((rC (eE F S 3)).map fun d => Cell.o d 0) 1)) .e) : T C) _
          (repeat' first | exact Rel.e | refine Rel.some ?_ ?_ ?_ | refine Rel.none ?_ ?_ | refine Rel.ee ?_ ?_)
          all_goals first | exact RO'.of (show _ < 4 by simp [Pos.nat]) (aE b) | exact RO'.of (show _ < 4 by simp [Pos.nat]) bI | exact RO'.of (show _ < 4 by simp [Pos.nat]) (bK S)
      · repeat' first | ((first | refine Qz ?_ | refine Qy ?_) <;> conv => whnf) | (refine WB.tt ?_; conv => whnf) | (refine WB.ff ?_; conv => whnf)
        refine WSt.ixaN (m := 1) rfl rfl rfl (by decide) ?_; conv => whnf
        repeat' first | ((first | refine Qz ?_ | refine Qy ?_) <;> conv => whnf) | (refine WB.tt ?_; conv => whnf) | (refine WB.ff ?_; conv => whnf)
        refine WSt.ixaN (m := 3) rfl rfl rfl (by decide) ?_; conv => whnf
        repeat' first | ((first | refine Qz ?_ | refine Qy ?_) <;> conv => whnf) | (refine WB.tt ?_; conv => whnf) | (refine WB.ff ?_; conv => whnf)
        refine WSt.ixaN (m := 1) rfl rfl rfl (by decide) ?_; conv => whnf
        repeat' first | ((first | refine Qz ?_ | refine Qf (cT) ?_ | refine Qy ?_) <;> conv => whnf) | (refine WB.tt ?_; conv => whnf) | (refine WB.ff ?_; conv => whnf)
        refine Again.to (1 + 1) (by omega) (show 1 + 1 ≤ b.rws.toNat by omega) (Nat.le_refl _) ?_
        rw [hsr, ← Int.add_assoc]
        refine Shr.of ?_ ?_ rfl rfl
        · show Rel _ _ ((.n (.n (.n (.n .e (some (.i .i64 ((3 : Nat) : Int))) (.n .e (some (.i .i64 ((1 + 1 : Nat) : Int))) .e)) (some (.pt (.o .h) 0 0)) .e) none (.n (.n (.n .e (some (.i .i64 ((3 : Nat) : Int))) .e) none .e) (some (.i .i64 (acc + w + q))) .e)) none (.n (.n (.n (.n .e (some (.i .i64 (b.last + 1))) .e) none .e) none .e) (some (.pt .h 0 0)) (.n .e (some (.pt (.i .h) 0 0)) (.n (.n .e (some (.i .i64 b.rws)) .e) none .e)))) : T D) _
          (repeat' first | exact Rel.e | refine Rel.some ?_ ?_ ?_ | refine Rel.none ?_ ?_ | refine Rel.ee ?_ ?_)
          all_goals show Fz _ _ _ _
          all_goals first | exact .pu trivial | exact .kpt (show _ < 4 by simp [Pos.nat])
        · show Rel _ _ (.n (.n .e (some (.cells false ((cV S).map fun d => Cell.o d 0) 1)) .e) (some (bN b)) (.n .e (some (.cells false ((rC (eE F S 3)).map fun d => Cell.o d 0) 1)) .e) : T C) _
          (repeat' first | exact Rel.e | refine Rel.some ?_ ?_ ?_ | refine Rel.none ?_ ?_ | refine Rel.ee ?_ ?_)
          all_goals first | exact RO'.of (show _ < 4 by simp [Pos.nat]) (aE b) | exact RO'.of (show _ < 4 by simp [Pos.nat]) bI | exact RO'.of (show _ < 4 by simp [Pos.nat]) (bK S)
      · repeat' first | ((first | refine Qz ?_ | refine Qy ?_) <;> conv => whnf) | (refine WB.tt ?_; conv => whnf) | (refine WB.ff ?_; conv => whnf)
        refine WSt.ixaN (m := 2) rfl rfl rfl (by decide) ?_; conv => whnf
        repeat' first | ((first | refine Qz ?_ | refine Qy ?_) <;> conv => whnf) | (refine WB.tt ?_; conv => whnf) | (refine WB.ff ?_; conv => whnf)
        refine WSt.ixaN (m := 3) rfl rfl rfl (by decide) ?_; conv => whnf
        repeat' first | ((first | refine Qz ?_ | refine Qy ?_) <;> conv => whnf) | (refine WB.tt ?_; conv => whnf) | (refine WB.ff ?_; conv => whnf)
        refine WSt.ixaN (m := 2) rfl rfl rfl (by decide) ?_; conv => whnf
        repeat' first | ((first | refine Qz ?_ | refine Qf (cT) ?_ | refine Qy ?_) <;> conv => whnf) | (refine WB.tt ?_; conv => whnf) | (refine WB.ff ?_; conv => whnf)
        refine Again.to (2 + 1) (by omega) (show 2 + 1 ≤ b.rws.toNat by omega) (Nat.le_refl _) ?_
        rw [hsr, ← Int.add_assoc]
        refine Shr.of ?_ ?_ rfl rfl
        · show Rel _ _ ((.n (.n (.n (.n .e (some (.i .i64 ((3 : Nat) : Int))) (.n .e (some (.i .i64 ((2 + 1 : Nat) : Int))) .e)) (some (.pt (.o .h) 0 0)) .e) none (.n (.n (.n .e (some (.i .i64 ((3 : Nat) : Int))) .e) none .e) (some (.i .i64 (acc + w + q))) .e)) none (.n (.n (.n (.n .e (some (.i .i64 (b.last + 1))) .e) none .e) none .e) (some (.pt .h 0 0)) (.n .e (some (.pt (.i .h) 0 0)) (.n (.n .e (some (.i .i64 b.rws)) .e) none .e)))) : T D) _
          (repeat' first | exact Rel.e | refine Rel.some ?_ ?_ ?_ | refine Rel.none ?_ ?_ | refine Rel.ee ?_ ?_)
          all_goals show Fz _ _ _ _
          all_goals first | exact .pu trivial | exact .kpt (show _ < 4 by simp [Pos.nat])
        · show Rel _ _ (.n (.n .e (some (.cells false ((cV S).map fun d => Cell.o d 0) 1)) .e) (some (bN b)) (.n .e (some (.cells false ((rC (eE F S 3)).map fun d => Cell.o d 0) 1)) .e) : T C) _
          (repeat' first | exact Rel.e | refine Rel.some ?_ ?_ ?_ | refine Rel.none ?_ ?_ | refine Rel.ee ?_ ?_)
          all_goals first | exact RO'.of (show _ < 4 by simp [Pos.nat]) (aE b) | exact RO'.of (show _ < 4 by simp [Pos.nat]) bI | exact RO'.of (show _ < 4 by simp [Pos.nat]) (bK S)
      · repeat' first | ((first | refine Qz ?_ | refine Qy ?_) <;> conv => whnf) | (refine WB.tt ?_; conv => whnf) | (refine WB.ff ?_; conv => whnf)
        refine WSt.ixaN (m := 0) rfl rfl rfl (by decide) ?_; conv => whnf
        repeat' first | ((first | refine Qz ?_ | refine Qy ?_) <;> conv => whnf) | (refine WB.tt ?_; conv => whnf) | (refine WB.ff ?_; conv => whnf)
        refine WSt.ixaN (m := 4) rfl rfl rfl (by decide) ?_; conv => whnf
        repeat' first | ((first | refine Qz ?_ | refine Qy ?_) <;> conv => whnf) | (refine WB.tt ?_; conv => whnf) | (refine WB.ff ?_; conv => whnf)
        refine WSt.ixaN (m := 0) rfl rfl rfl (by decide) ?_; conv => whnf
        repeat' first | ((first | refine Qz ?_ | refine Qf (cT) ?_ | refine Qy ?_) <;> conv => whnf) | (refine WB.tt ?_; conv => whnf) | (refine WB.ff ?_; conv => whnf)
        refine Again.to (0 + 1) (by omega) (show 0 + 1 ≤ b.rws.toNat by omega) (Nat.le_refl _) ?_
        rw [hsr, ← Int.add_assoc]
        refine Shr.of ?_ ?_ rfl rfl
        · show Rel _ _ ((.n (.n (.n (.n .e (some (.i .i64 ((4 : Nat) : Int))) (.n .e (some (.i .i64 ((0 + 1 : Nat) : Int))) .e)) (some (.pt (.o .h) 0 0)) .e) none (.n (.n (.n .e (some (.i .i64 ((4 : Nat) : Int))) .e) none .e) (some (.i .i64 (acc + w + q))) .e)) none (.n (.n (.n (.n .e (some (.i .i64 (b.last + 1))) .e) none .e) none .e) (some (.pt .h 0 0)) (.n .e (some (.pt (.i .h) 0 0)) (.n (.n .e (some (.i .i64 b.rws)) .e) none .e)))) : T D) _
          (repeat' first | exact Rel.e | refine Rel.some ?_ ?_ ?_ | refine Rel.none ?_ ?_ | refine Rel.ee ?_ ?_)
          all_goals show Fz _ _ _ _
          all_goals first | exact .pu trivial | exact .kpt (show _ < 4 by simp [Pos.nat])
        · show Rel _ _ (.n (.n .e (some (.cells false ((cV S).map fun d => Cell.o d 0) 1)) .e) (some (bN b)) (.n .e (some (.cells false ((rC (eE F S 4)).map fun d => Cell.o d 0) 1)) .e) : T C) _
          (repeat' first | exact Rel.e | refine Rel.some ?_ ?_ ?_ | refine Rel.none ?_ ?_ | refine Rel.ee ?_ ?_)
          all_goals first | exact RO'.of (show _ < 4 by simp [Pos.nat]) (aE b) | exact RO'.of (show _ < 4 by simp [Pos.nat]) bI | exact RO'.of (show _ < 4 by simp [Pos.nat]) (bK S)
      · repeat' first | ((first | refine Qz ?_ | refine Qy ?_) <;> conv => whnf) | (refine WB.tt ?_; conv => whnf) | (refine WB.ff ?_; conv => whnf)
        refine WSt.ixaN (m := 1) rfl rfl rfl (by decide) ?_; conv => whnf
        repeat' first | ((first | refine Qz ?_ | refine Qy ?_) <;> conv => whnf) | (refine WB.tt ?_; conv => whnf) | (refine WB.ff ?_; conv => whnf)
        refine WSt.ixaN (m := 4) rfl rfl rfl (by decide) ?_; conv => whnf
        repeat' first | ((first | refine Qz ?_ | refine Qy ?_) <;> conv => whnf) | (refine WB.tt ?_; conv => whnf) | (refine WB.ff ?_; conv => whnf)
        refine WSt.ixaN (m := 1) rfl rfl rfl (by decide) ?_; conv => whnf
        repeat' first | ((first | refine Qz ?_ | refine Qf (cT) ?_ | refine Qy ?_) <;> conv => whnf) | (refine WB.tt ?_; conv => whnf) | (refine WB.ff ?_; conv => whnf)
        refine Again.to (1 + 1) (by omega) (show 1 + 1 ≤ b.rws.toNat by omega) (Nat.le_refl _) ?_
        rw [hsr, ← Int.add_assoc]
        refine Shr.of ?_ ?_ rfl rfl
        · show Rel _ _ ((.n (.n (.n (.n .e (some (.i .i64 ((4 : Nat) : Int))) (.n .e (some (.i .i64 ((1 + 1 : Nat) : Int))) .e)) (some (.pt (.o .h) 0 0)) .e) none (.n (.n (.n .e (some (.i .i64 ((4 : Nat) : Int))) .e) none .e) (some (.i .i64 (acc + w + q))) .e)) none (.n (.n (.n (.n .e (some (.i .i64 (b.last + 1))) .e) none .e) none .e) (some (.pt .h 0 0)) (.n .e (some (.pt (.i .h) 0 0)) (.n (.n .e (some (.i .i64 b.rws)) .e) none .e)))) : T D) _
          (repeat' first | exact Rel.e | refine Rel.some ?_ ?_ ?_ | refine Rel.none ?_ ?_ | refine Rel.ee ?_ ?_)
          all_goals show Fz _ _ _ _
          all_goals first | exact .pu trivial | exact .kpt (show _ < 4 by simp [Pos.nat])
        · show Rel _ _ (.n (.n .e (some (.cells false ((cV S).map fun d => Cell.o d 0) 1)) .e) (some (bN b)) (.n .e (some (.cells false ((rC (eE F S 4)).map fun d => Cell.o d 0) 1)) .e) : T C) _
          (repeat' first | exact Rel.e | refine Rel.some ?_ ?_ ?_ | refine Rel.none ?_ ?_ | refine Rel.ee ?_ ?_)
          all_goals first | exact RO'.of (show _ < 4 by simp [Pos.nat]) (aE b) | exact RO'.of (show _ < 4 by simp [Pos.nat]) bI | exact RO'.of (show _ < 4 by simp [Pos.nat]) (bK S)
      · repeat' first | ((first | refine Qz ?_ | refine Qy ?_) <;> conv => whnf) | (refine WB.tt ?_; conv => whnf) | (refine WB.ff ?_; conv => whnf)
        refine WSt.ixaN (m := 2) rfl rfl rfl (by decide) ?_; conv => whnf
        repeat' first | ((first | refine Qz ?_ | refine Qy ?_) <;> conv => whnf) | (refine WB.tt ?_; conv => whnf) | (refine WB.ff ?_; conv => whnf)
        refine WSt.ixaN (m := 4) rfl rfl rfl (by decide) ?_; conv => whnf
        repeat' first | ((first | refine Qz ?_ | refine Qy ?_) <;> conv => whnf) | (refine WB.tt ?_; conv => whnf) | (refine WB.ff ?_; conv => whnf)
        refine WSt.ixaN (m := 2) rfl rfl rfl (by decide) ?_; conv => whnf
        repeat' first | ((first | refine Qz ?_ | refine Qf (cT) ?_ | refine Qy ?_) <;> conv => whnf) | (refine WB.tt ?_; conv => whnf) | (refine WB.ff ?_; conv => whnf)
        refine Again.to (2 + 1) (by omega) (show 2 + 1 ≤ b.rws.toNat by omega) (Nat.le_refl _) ?_
        rw [hsr, ← Int.add_assoc]
        refine Shr.of ?_ ?_ rfl rfl
        · show Rel _ _ ((.n (.n (.n (.n .e (some (.i .i64 ((4 : Nat) : Int))) (.n .e (some (.i .i64 ((2 + 1 : Nat) : Int))) .e)) (some (.pt (.o .h) 0 0)) .e) none (.n (.n (.n .e (some (.i .i64 ((4 : Nat) : Int))) .e) none .e) (some (.i .i64 (acc + w + q))) .e)) none (.n (.n (.n (.n .e (some (.i .i64 (b.last + 1))) .e) none .e) none .e) (some (.pt .h 0 0)) (.n .e (some (.pt (.i .h) 0 0)) (.n (.n .e (some (.i .i64 b.rws)) .e) none .e)))) : T D) _
          (repeat' first | exact Rel.e | refine Rel.some ?_ ?_ ?_ | refine Rel.none ?_ ?_ | refine Rel.ee ?_ ?_)
          all_goals show Fz _ _ _ _
          all_goals first | exact .pu trivial | exact .kpt (show _ < 4 by simp [Pos.nat])
        · show Rel _ _ (.n (.n .e (some (.cells false ((cV S).map fun d => Cell.o d 0) 1)) .e) (some (bN b)) (.n .e (some (.cells false ((rC (eE F S 4)).map fun d => Cell.o d 0) 1)) .e) : T C) _
          (repeat' first | exact Rel.e | refine Rel.some ?_ ?_ ?_ | refine Rel.none ?_ ?_ | refine Rel.ee ?_ ?_)
          all_goals first | exact RO'.of (show _ < 4 by simp [Pos.nat]) (aE b) | exact RO'.of (show _ < 4 by simp [Pos.nat]) bI | exact RO'.of (show _ < 4 by simp [Pos.nat]) (bK S)
    · obtain rfl : r = b.rws.toNat := by omega
      have hh5 : h < 5 := by omega
      rcases qA hh5 with rfl | rfl | rfl | rfl | rfl
      · repeat' first | ((first | refine Qz ?_ | refine Qy ?_) <;> conv => whnf) | (refine WB.tt ?_; conv => whnf) | (refine WB.ff ?_; conv => whnf)
        refine WSt.ixaN (m := 0) rfl rfl rfl (by decide) ?_; conv => whnf
        repeat' first | ((first | refine Qz ?_ | refine Qy ?_) <;> conv => whnf) | (refine WB.tt ?_; conv => whnf) | (refine WB.ff ?_; conv => whnf)
        refine Again.to (0 + 1) (by omega) (show 0 + 1 ≤ (b.last + 1).toNat by omega) (Nat.le_refl _) ?_
        rw [hsc]
        refine Shr.of ?_ ?_ rfl rfl
        · show Rel _ _ ((.n (.n (.n .e (some (.pt (.o .h) 0 0)) .e) none (.n (.n (.n .e (some (.i .i64 ((0 + 1 : Nat) : Int))) .e) none .e) (some (.i .i64 (acc + qI b F S 0 b.rws.toNat))) .e)) none (.n (.n (.n (.n .e (some (.i .i64 (b.last + 1))) .e) none .e) none .e) (some (.pt .h 0 0)) (.n .e (some (.pt (.i .h) 0 0)) .e))) : T D) _
          (repeat' first | exact Rel.e | refine Rel.some ?_ ?_ ?_ | refine Rel.none ?_ ?_ | refine Rel.ee ?_ ?_)
          all_goals show Fz _ _ _ _
          all_goals first | exact .pu trivial | exact .kpt (show _ < 4 by simp [Pos.nat])
        · show Rel _ _ (.n (.n .e (some (.cells false ((cV S).map fun d => Cell.o d 0) 1)) .e) (some (bN b)) (.n .e (some (.cells false ((rC (eE F S (0 + 1))).map fun d => Cell.o d 0) 1)) .e) : T C) _
          (repeat' first | exact Rel.e | refine Rel.some ?_ ?_ ?_ | refine Rel.none ?_ ?_ | refine Rel.ee ?_ ?_)
          all_goals first | exact RO'.of (show _ < 4 by simp [Pos.nat]) (aE b) | exact RO'.of (show _ < 4 by simp [Pos.nat]) bI | exact RO'.of (show _ < 4 by simp [Pos.nat]) (bK S)
      · repeat' first | ((first | refine Qz ?_ | refine Qy ?_) <;> conv => whnf) | (refine WB.tt ?_; conv => whnf) | (refine WB.ff ?_; conv => whnf)
        refine WSt.ixaN (m := 1) rfl rfl rfl (by decide) ?_; conv => whnf
        repeat' first | ((first | refine Qz ?_ | refine Qy ?_) <;> conv => whnf) | (refine WB.tt ?_; conv => whnf) | (refine WB.ff ?_; conv => whnf)
        refine Again.to (1 + 1) (by omega) (show 1 + 1 ≤ (b.last + 1).toNat by omega) (Nat.le_refl _) ?_
        rw [hsc]
        refine Shr.of ?_ ?_ rfl rfl
        · show Rel _ _ ((.n (.n (.n .e (some (.pt (.o .h) 0 0)) .e) none (.n (.n (.n .e (some (.i .i64 ((1 + 1 : Nat) : Int))) .e) none .e) (some (.i .i64 (acc + qI b F S 1 b.rws.toNat))) .e)) none (.n (.n (.n (.n .e (some (.i .i64 (b.last + 1))) .e) none .e) none .e) (some (.pt .h 0 0)) (.n .e (some (.pt (.i .h) 0 0)) .e))) : T D) _
          (repeat' first | exact Rel.e | refine Rel.some ?_ ?_ ?_ | refine Rel.none ?_ ?_ | refine Rel.ee ?_ ?_)
          all_goals show Fz _ _ _ _
          all_goals first | exact .pu trivial | exact .kpt (show _ < 4 by simp [Pos.nat])
        · show Rel _ _ (.n (.n .e (some (.cells false ((cV S).map fun d => Cell.o d 0) 1)) .e) (some (bN b)) (.n .e (some (.cells false ((rC (eE F S (1 + 1))).map fun d => Cell.o d 0) 1)) .e) : T C) _
          (repeat' first | exact Rel.e | refine Rel.some ?_ ?_ ?_ | refine Rel.none ?_ ?_ | refine Rel.ee ?_ ?_)
          all_goals first | exact RO'.of (show _ < 4 by simp [Pos.nat]) (aE b) | exact RO'.of (show _ < 4 by simp [Pos.nat]) bI | exact RO'.of (show _ < 4 by simp [Pos.nat]) (bK S)
      · repeat' first | ((first | refine Qz ?_ | refine Qy ?_) <;> conv => whnf) | (refine WB.tt ?_; conv => whnf) | (refine WB.ff ?_; conv => whnf)
        refine WSt.ixaN (m := 2) rfl rfl rfl (by decide) ?_; conv => whnf
        repeat' first | ((first | refine Qz ?_ | refine Qy ?_) <;> conv => whnf) | (refine WB.tt ?_; conv => whnf) | (refine WB.ff ?_; conv => whnf)
        refine Again.to (2 + 1) (by omega) (show 2 + 1 ≤ (b.last + 1).toNat by omega) (Nat.le_refl _) ?_
        rw [hsc]
        refine Shr.of ?_ ?_ rfl rfl
        · show Rel _ _ ((.n (.n (.n .e (some (.pt (.o .h) 0 0)) .e) none (.n (.n (.n .e (some (.i .i64 ((2 + 1 : Nat) : Int))) .e) none .e) (some (.i .i64 (acc + qI b F S 2 b.rws.toNat))) .e)) none (.n (.n (.n (.n .e (some (.i .i64 (b.last + 1))) .e) none .e) none .e) (some (.pt .h 0 0)) (.n .e (some (.pt (.i .h) 0 0)) .e))) : T D) _
          (repeat' first | exact Rel.e | refine Rel.some ?_ ?_ ?_ | refine Rel.none ?_ ?_ | refine Rel.ee ?_ ?_)
          all_goals show Fz _ _ _ _
          all_goals first | exact .pu trivial | exact .kpt (show _ < 4 by simp [Pos.nat])
        · show Rel _ _ (.n (.n .e (some (.cells false ((cV S).map fun d => Cell.o d 0) 1)) .e) (some (bN b)) (.n .e (some (.cells false ((rC (eE F S (2 + 1))).map fun d => Cell.o d 0) 1)) .e) : T C) _
          (repeat' first | exact Rel.e | refine Rel.some ?_ ?_ ?_ | refine Rel.none ?_ ?_ | refine Rel.ee ?_ ?_)
          all_goals first | exact RO'.of (show _ < 4 by simp [Pos.nat]) (aE b) | exact RO'.of (show _ < 4 by simp [Pos.nat]) bI | exact RO'.of (show _ < 4 by simp [Pos.nat]) (bK S)
      · repeat' first | ((first | refine Qz ?_ | refine Qy ?_) <;> conv => whnf) | (refine WB.tt ?_; conv => whnf) | (refine WB.ff ?_; conv => whnf)
        refine WSt.ixaN (m := 3) rfl rfl rfl (by decide) ?_; conv => whnf
        repeat' first | ((first | refine Qz ?_ | refine Qy ?_) <;> conv => whnf) | (refine WB.tt ?_; conv => whnf) | (refine WB.ff ?_; conv => whnf)
        refine Again.to (3 + 1) (by omega) (show 3 + 1 ≤ (b.last + 1).toNat by omega) (Nat.le_refl _) ?_
        rw [hsc]
        refine Shr.of ?_ ?_ rfl rfl
        · show Rel _ _ ((.n (.n (.n .e (some (.pt (.o .h) 0 0)) .e) none (.n (.n (.n .e (some (.i .i64 ((3 + 1 : Nat) : Int))) .e) none .e) (some (.i .i64 (acc + qI b F S 3 b.rws.toNat))) .e)) none (.n (.n (.n (.n .e (some (.i .i64 (b.last + 1))) .e) none .e) none .e) (some (.pt .h 0 0)) (.n .e (some (.pt (.i .h) 0 0)) .e))) : T D) _
          (repeat' first | exact Rel.e | refine Rel.some ?_ ?_ ?_ | refine Rel.none ?_ ?_ | refine Rel.ee ?_ ?_)
          all_goals show Fz _ _ _ _
          all_goals first | exact .pu trivial | exact .kpt (show _ < 4 by simp [Pos.nat])
        · show Rel _ _ (.n (.n .e (some (.cells false ((cV S).map fun d => Cell.o d 0) 1)) .e) (some (bN b)) (.n .e (some (.cells false ((rC (eE F S (3 + 1))).map fun d => Cell.o d 0) 1)) .e) : T C) _
          (repeat' first | exact Rel.e | refine Rel.some ?_ ?_ ?_ | refine Rel.none ?_ ?_ | refine Rel.ee ?_ ?_)
          all_goals first | exact RO'.of (show _ < 4 by simp [Pos.nat]) (aE b) | exact RO'.of (show _ < 4 by simp [Pos.nat]) bI | exact RO'.of (show _ < 4 by simp [Pos.nat]) (bK S)
      · repeat' first | ((first | refine Qz ?_ | refine Qy ?_) <;> conv => whnf) | (refine WB.tt ?_; conv => whnf) | (refine WB.ff ?_; conv => whnf)
        refine WSt.ixaN (m := 4) rfl rfl rfl (by decide) ?_; conv => whnf
        repeat' first | ((first | refine Qz ?_ | refine Qy ?_) <;> conv => whnf) | (refine WB.tt ?_; conv => whnf) | (refine WB.ff ?_; conv => whnf)
        refine Again.to (4 + 1) (by omega) (show 4 + 1 ≤ (b.last + 1).toNat by omega) (Nat.le_refl _) ?_
        rw [hsc]
        refine Shr.of ?_ ?_ rfl rfl
        · show Rel _ _ ((.n (.n (.n .e (some (.pt (.o .h) 0 0)) .e) none (.n (.n (.n .e (some (.i .i64 ((4 + 1 : Nat) : Int))) .e) none .e) (some (.i .i64 (acc + qI b F S 4 b.rws.toNat))) .e)) none (.n (.n (.n (.n .e (some (.i .i64 (b.last + 1))) .e) none .e) none .e) (some (.pt .h 0 0)) (.n .e (some (.pt (.i .h) 0 0)) .e))) : T D) _
          (repeat' first | exact Rel.e | refine Rel.some ?_ ?_ ?_ | refine Rel.none ?_ ?_ | refine Rel.ee ?_ ?_)
          all_goals show Fz _ _ _ _
          all_goals first | exact .pu trivial | exact .kpt (show _ < 4 by simp [Pos.nat])
        · show Rel _ _ (.n (.n .e (some (.cells false ((cV S).map fun d => Cell.o d 0) 1)) .e) (some (bN b)) (.n .e (some (.cells false ((rC (eE F S (4 + 1))).map fun d => Cell.o d 0) 1)) .e) : T C) _
          (repeat' first | exact Rel.e | refine Rel.some ?_ ?_ ?_ | refine Rel.none ?_ ?_ | refine Rel.ee ?_ ?_)
          all_goals first | exact RO'.of (show _ < 4 by simp [Pos.nat]) (aE b) | exact RO'.of (show _ < 4 by simp [Pos.nat]) bI | exact RO'.of (show _ < 4 by simp [Pos.nat]) (bK S)
  · obtain rfl : h = (b.last + 1).toNat := by omega
    repeat' first | ((first | refine Qz ?_ | refine Qy ?_) <;> conv => whnf) | (refine WB.tt ?_; conv => whnf) | (refine WB.ff ?_; conv => whnf)
    exact Fin.i rfl rfl
theorem WIx.rowsM {α : Type} [Inhabited α] {f : α → List D} {l : List α} {j : Nat} {z : Int} {F : List D → Prop} (h : j < l.length) (e : z = (j : Int)) (k : F (f (l.getD j default))) : WIx (aC f l) z F := by
  subst e
  exact WIx.rowsN h k
theorem xW {b : Bh} (V : VW b) {L : List (List Int)} (hp : gU b L = true) : SOk b (fun r => b.face.getD r 0) (bY L) := by
  obtain ⟨p1, p2⟩ := kJ.1 hp
  have hv := V.last
  have hf := V.facl
  refine ⟨fun r hr => bA (gB (p := hJ) V.face (show r < b.face.length by omega)), fun h r hh hr => ?_⟩
  have k := p2 _ (aN (d := default) (show h < L.length by omega))
  exact bA (gB (p := hJ) k.2 (show r < (L.getD h default).length by omega))
set_option maxHeartbeats 16000000 in
theorem Hk (b : Bh) (V : VW b) (L : List (List Int)) (hp : gU b L = true) : PureF Tryz.prog p38.ix [.ag (dS b), .lst 1 (aC bZ L)] (.i .i64 (uE b (fun r => b.face.getD r 0) (bY L) (b.last + 1).toNat)) := by
  have q1 := V.last
  have q2 := V.rws
  have q3 := V.facl
  have q4 := V.pls
  have e1 := aI bZ L
  have K := xW V hp
  obtain ⟨p1, p2⟩ := kJ.1 hp
  have hLl : L.length = (b.last + 1).toNat := by omega
  refine PureF.run OE (by simp) (by simp [aR, dP, Pu, aQ, aF]) ?_; conv => whnf
  repeat' first | ((first | refine Qz ?_ | refine Qy ?_) <;> conv => whnf) | (refine WB.tt ?_; conv => whnf) | (refine WB.ff ?_; conv => whnf)
  refine Rn.loop (fun h : Nat => ⟨(.n (.n .e (some (.lst 1 (aC bZ L))) (.n .e (some (.i .i64 (uE b (fun r => b.face.getD r 0) (bY L) h))) .e)) none (.n .e (some (.pt .h 0 0)) (.n .e (some (.i .i64 (h : Int))) .e))), .n .e (some (bN b)) .e, .o .h, none⟩) (fun h => h ≤ (b.last + 1).toNat) (fun h => (b.last + 1).toNat - h) 0 ?_ (Nat.zero_le _) ?_
  · refine X.le.mk ?_ ?_ (Nat.le_refl _) rfl rfl
    all_goals (repeat' first | exact T.le_e _ | exact T.le_refl _ | refine T.le_some ?_ rfl ?_ | refine T.le_none ?_ ?_ | refine T.le_ee ?_ ?_)
  intro h hh
  have hh : h ≤ (b.last + 1).toNat := hh
  conv => whnf
  repeat' first | ((first | refine Qz ?_ | refine Qy ?_) <;> conv => whnf) | (refine WB.tt ?_; conv => whnf) | (refine WB.ff ?_; conv => whnf)
  refine WB.dec (fun hd => ?_) (fun hd => ?_) <;> conv => whnf
  · have hlt : h < (b.last + 1).toNat := by omega
    have hltL : h < L.length := by omega
    have hbd := Am V K h (by omega)
    have hsc : uE b (fun r => b.face.getD r 0) (bY L) (h + 1) = uE b (fun r => b.face.getD r 0) (bY L) h + qI b (fun r => b.face.getD r 0) (bY L) h b.rws.toNat := rfl
    generalize uE b (fun r => b.face.getD r 0) (bY L) h = acc at *
    repeat' first | ((first | refine Qz ?_ | refine Qy ?_) <;> conv => whnf) | (refine WB.tt ?_; conv => whnf) | (refine WB.ff ?_; conv => whnf)
    refine Rn.loop (fun r : Nat => ⟨(.n (.n (.n (.n .e (some (.i .i64 (r : Int))) .e) none .e) (some (.lst 1 (aC bZ L))) (.n .e (some (.i .i64 (acc + qI b (fun r => b.face.getD r 0) (bY L) h r))) .e)) none (.n .e (some (.pt .h 0 0)) (.n .e (some (.i .i64 (h : Int))) .e))), .n .e (some (bN b)) .e, .o .h, none⟩) (fun r => r ≤ b.rws.toNat) (fun r => b.rws.toNat - r) 0 ?_ (Nat.zero_le _) ?_
    · refine X.le.mk ?_ ?_ (Nat.le_refl _) rfl rfl
      · show T.le ((.n (.n (.n (.n .e (some (.i .i64 0)) .e) none .e) (some (.lst 1 (aC bZ L))) (.n .e (some (.i .i64 (acc + 0))) .e)) none (.n .e (some (.pt .h 0 0)) (.n .e (some (.i .i64 (h : Int))) .e))) : T D) _
        rw [Int.add_zero]
        (repeat' first | exact T.le_e _ | exact T.le_refl _ | refine T.le_some ?_ rfl ?_ | refine T.le_none ?_ ?_ | refine T.le_ee ?_ ?_)
      · (repeat' first | exact T.le_e _ | exact T.le_refl _ | refine T.le_some ?_ rfl ?_ | refine T.le_none ?_ ?_ | refine T.le_ee ?_ ?_)
    intro r hr
    have hr : r ≤ b.rws.toNat := hr
    conv => whnf
    repeat' first | ((first | refine Qz ?_ | refine Qy ?_) <;> conv => whnf) | (refine WB.tt ?_; conv => whnf) | (refine WB.ff ?_; conv => whnf)
    refine WB.dec (fun hd2 => ?_) (fun hd2 => ?_) <;> conv => whnf
    · have hlt2 : r < b.rws.toNat := by omega
      have hrf : r < b.face.length := by omega
      have kb := K.bef hlt hlt2
      have ks := K.s h r hlt hlt2
      have cQ := zU (eE (fun r => b.face.getD r 0) (bY L) h r) (bY L h r) kb ks
      have hb2 := oO V K hlt (r + 1) (by omega)
      have hb1 := oO V K hlt r (by omega)
      have hq2 := AA kb ks
      have hsr : qI b (fun r => b.face.getD r 0) (bY L) h (r + 1) = qI b (fun r => b.face.getD r 0) (bY L) h r + b.pls * zL (eE (fun r => b.face.getD r 0) (bY L) h r) (bY L h r) := rfl
      rw [hsr] at hb2
      rw [Int.mul_comm b.pls] at hb2 hsr
      generalize hw : qI b (fun r => b.face.getD r 0) (bY L) h r = w at *
      have hlr : r < (L.getD h default).length := by have := (p2 _ (aN (d := default) hltL)).1; omega
      cases h with
      | zero =>
        repeat' first | ((first | refine Qz ?_ | refine Qf (cQ) ?_ | refine WIx.intsN hrf ?_ | refine Qy ?_) <;> conv => whnf) | (refine WB.tt ?_; conv => whnf) | (refine WB.ff ?_; conv => whnf)
        refine Again.to (r + 1) (by omega) (show r + 1 ≤ b.rws.toNat by omega) (Nat.le_refl _) ?_
        rw [hsr, ← Int.add_assoc]
        refine Shr.of ?_ ?_ rfl rfl
        · show Rel _ _ ((.n (.n (.n (.n .e (some (.i .i64 ((r + 1 : Nat) : Int))) .e) none .e) (some (.lst 1 (aC bZ L))) (.n .e (some (.i .i64 (acc + w + zL (eE (fun r => b.face.getD r 0) (bY L) 0 r) (bY L 0 r) * b.pls))) .e)) none (.n .e (some (.pt .h 0 0)) (.n .e (some (.i .i64 ((0 : Nat) : Int))) .e))) : T D) _
          (repeat' first | exact Rel.e | refine Rel.some ?_ ?_ ?_ | refine Rel.none ?_ ?_ | refine Rel.ee ?_ ?_)
          all_goals show Fz _ _ _ _
          all_goals first | exact .pu trivial | exact .kpt (show _ < 2 by simp [Pos.nat]) | exact .pu (aF _)
        · show Rel _ _ (.n .e (some (bN b)) .e : T C) _
          (repeat' first | exact Rel.e | refine Rel.some ?_ ?_ ?_ | refine Rel.none ?_ ?_ | refine Rel.ee ?_ ?_)
          all_goals exact RO'.of (show _ < 2 by simp [Pos.nat]) (aE b)
      | succ h =>
        have hlp : r < (L.getD h default).length := by have := (p2 _ (aN (d := default) (show h < L.length by omega))).1; omega
        repeat' first | ((first | refine Qz ?_ | refine WIx.rowsM (j := h) (by omega) (by omega) ?_ | refine Qf (cQ) ?_ | refine WIx.intsN hrf ?_ | refine Qy ?_) <;> conv => whnf) | (refine WB.tt ?_; conv => whnf) | (refine WB.ff ?_; conv => whnf)
        refine Again.to (r + 1) (by omega) (show r + 1 ≤ b.rws.toNat by omega) (Nat.le_refl _) ?_
        rw [hsr, ← Int.add_assoc]
        refine Shr.of ?_ ?_ rfl rfl
        · show Rel _ _ ((.n (.n (.n (.n .e (some (.i .i64 ((r + 1 : Nat) : Int))) .e) none .e) (some (.lst 1 (aC bZ L))) (.n .e (some (.i .i64 (acc + w + zL (eE (fun r => b.face.getD r 0) (bY L) (h + 1) r) (bY L (h + 1) r) * b.pls))) .e)) none (.n .e (some (.pt .h 0 0)) (.n .e (some (.i .i64 ((h + 1 : Nat) : Int))) .e))) : T D) _
          (repeat' first | exact Rel.e | refine Rel.some ?_ ?_ ?_ | refine Rel.none ?_ ?_ | refine Rel.ee ?_ ?_)
          all_goals show Fz _ _ _ _
          all_goals first | exact .pu trivial | exact .kpt (show _ < 2 by simp [Pos.nat]) | exact .pu (aF _)
        · show Rel _ _ (.n .e (some (bN b)) .e : T C) _
          (repeat' first | exact Rel.e | refine Rel.some ?_ ?_ ?_ | refine Rel.none ?_ ?_ | refine Rel.ee ?_ ?_)
          all_goals exact RO'.of (show _ < 2 by simp [Pos.nat]) (aE b)
    · obtain rfl : r = b.rws.toNat := by omega
      repeat' first | ((first | refine Qz ?_ | refine Qy ?_) <;> conv => whnf) | (refine WB.tt ?_; conv => whnf) | (refine WB.ff ?_; conv => whnf)
      refine Again.to (h + 1) (by omega) (show h + 1 ≤ (b.last + 1).toNat by omega) (Nat.le_refl _) ?_
      rw [hsc]
      refine Shr.of ?_ ?_ rfl rfl
      · show Rel _ _ ((.n (.n .e (some (.lst 1 (aC bZ L))) (.n .e (some (.i .i64 (acc + qI b (fun r => b.face.getD r 0) (bY L) h b.rws.toNat))) .e)) none (.n .e (some (.pt .h 0 0)) (.n .e (some (.i .i64 ((h + 1 : Nat) : Int))) .e))) : T D) _
        (repeat' first | exact Rel.e | refine Rel.some ?_ ?_ ?_ | refine Rel.none ?_ ?_ | refine Rel.ee ?_ ?_)
        all_goals show Fz _ _ _ _
        all_goals first | exact .pu trivial | exact .kpt (show _ < 2 by simp [Pos.nat]) | exact .pu (aF _)
      · show Rel _ _ (.n .e (some (bN b)) .e : T C) _
        (repeat' first | exact Rel.e | refine Rel.some ?_ ?_ ?_ | refine Rel.none ?_ ?_ | refine Rel.ee ?_ ?_)
        all_goals exact RO'.of (show _ < 2 by simp [Pos.nat]) (aE b)
  · obtain rfl : h = (b.last + 1).toNat := by omega
    repeat' first | ((first | refine Qz ?_ | refine Qy ?_) <;> conv => whnf) | (refine WB.tt ?_; conv => whnf) | (refine WB.ff ?_; conv => whnf)
    exact Fin.i rfl rfl
def sJ (b : Bh) (L : List (List Int)) : Int := if aV b = 0 then (if gU b L = true then 0 else 2) else aV b
def zV (b : Bh) (L : List (List Int)) : Int := if aV b = 0 ∧ gU b L = true then uE b (fun r => b.face.getD r 0) (bY L) (b.last + 1).toNat else 0
set_option maxHeartbeats 4000000 in
theorem HF (b : Bh) (L : List (List Int)) (l1 : b.face.length ≤ 1000) (l2 : b.sun.length ≤ 1000) (l3 : b.winds.length ≤ 1000) (l6 : ∀ w ∈ b.winds, w.length ≤ 1000) (h1 : L.length ≤ 1000) (h2 : ∀ w ∈ L, w.length ≤ 1000) : PureF Tryz.prog p35.ix [.ag (dS b), .lst 1 (aC bZ L)] (.tp [.i .i64 (zV b L), .i .i64 (sJ b L)]) := by
  have cC := Bo b l1 l2 l3 l6
  refine PureF.run OH (by simp) (by simp [aR, dP, Pu, aQ, aF]) ?_; conv => whnf
  by_cases hf : aV b = 0
  rotate_left
  · have e1 : zV b L = 0 := if_neg fun h => hf h.1
    have e2 : sJ b L = aV b := if_neg hf
    rw [e1, e2]
    repeat' first | ((first | refine Qz ?_ | refine Qf (cC) ?_ | refine Qy ?_) <;> conv => whnf) | (refine WB.tt ?_; conv => whnf) | (refine WB.ff ?_; conv => whnf)
    exact Fin.two (.inr rfl) rfl rfl (.pu trivial) (.pu trivial)
  rw [hf] at cC
  have Z := gA hf
  have V := Z.v
  have hv := V.last
  have hr := V.rws
  have hfl := V.facl
  have cP := rU b L (by omega) h1 h2
  cases hp : gU b L with
  | false =>
    have e1 : zV b L = 0 := if_neg fun h => by rw [hp] at h; exact absurd h.2 (by decide)
    have e2 : sJ b L = 2 := by unfold sJ; rw [if_pos hf, hp]; rfl
    rw [e1, e2]
    rw [hp] at cP
    repeat' first | ((first | refine Qz ?_ | refine Qf (cC) ?_ | refine Qf (cP) ?_ | with_reducible (first | refine Qm ?_ | refine Qn ?_ | refine Qo ?_ | refine Qp ?_ | refine WB.nt ?_ | refine WB.nf ?_ | refine WB.dec (fun h => ?_) (fun h => ?_) | refine WB.ndec (fun h => ?_) (fun h => ?_)) | refine WB.mk (fun h => ?_) (fun h => ?_)) <;> conv => whnf) | (refine WB.tt ?_; conv => whnf) | (refine WB.ff ?_; conv => whnf)
    exact Fin.two (.inr rfl) rfl rfl (.pu trivial) (.pu trivial)
  | true =>
    have e1 : zV b L = uE b (fun r => b.face.getD r 0) (bY L) (b.last + 1).toNat := if_pos ⟨hf, hp⟩
    have e2 : sJ b L = 0 := by unfold sJ; rw [if_pos hf, if_pos hp]
    rw [e1, e2]
    obtain ⟨p1, p2⟩ := kJ.1 hp
    rw [hp] at cP
    have cS := pS L (by omega) (fun w hw => by have := (p2 w hw).1; omega)
    have cW := HK b V (fun r => b.face.getD r 0) (AO b.face (by omega) (by omega)) (bY L) (xW V hp)
    repeat' first | ((first | refine Qz ?_ | refine Qf (cC) ?_ | refine Qf (cP) ?_ | refine Qf (cS) ?_ | refine Qf (cW) ?_ | with_reducible (first | refine Qm ?_ | refine Qn ?_ | refine Qo ?_ | refine Qp ?_ | refine WB.nt ?_ | refine WB.nf ?_ | refine WB.dec (fun h => ?_) (fun h => ?_) | refine WB.ndec (fun h => ?_) (fun h => ?_)) | refine WB.mk (fun h => ?_) (fun h => ?_)) <;> conv => whnf) | (refine WB.tt ?_; conv => whnf) | (refine WB.ff ?_; conv => whnf)
    exact Fin.two (.inr rfl) rfl rfl (.pu trivial) (.pu trivial)
end Go.Ev
end
