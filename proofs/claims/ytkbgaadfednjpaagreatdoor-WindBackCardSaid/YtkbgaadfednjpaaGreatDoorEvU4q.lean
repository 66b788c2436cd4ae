import Derived.Test.YtkbgaadfednjpaaGreatDoorEvU4l
import Derived.Test.YtkbgaadfednjpaaGreatDoorEvUIt
import Derived.Test.YtkbgaadfednjpaaGreatDoorEvU4e
import Derived.Test.YtkbgaadfednjpaaGreatDoorEvUSq
import Derived.Test.YtkbgaadfednjpaaGreatDoorEvULk
import Derived.Test.YtkbgaadfednjpaaGreatDoorEvU4b
set_option linter.all false
set_option maxHeartbeats 8000000
noncomputable section
namespace Go.Ev
open Go.Proofs
set_option maxRecDepth 100000
theorem oQ {B : Pos -> Prop} {ob : T C} {d : D} (h : Pu d := by simp [Cell.d, Pu, aN, dE, aB, aH, aF, aO]; done) : Fz B ob d d := .pu h
def jA {τ : Type} (H : Nat -> Nat -> τ) (n m : Nat) : List (List τ) := (List.range n).map fun r => (List.range m).map (H r)
theorem vI {τ : Type} (H : Nat -> Nat -> τ) (n m : Nat) : jA H (n + 1) m = jA H n m ++ [(List.range m).map (H n)] := by
 unfold jA; rw [List.range_succ, List.map_append]; rfl
theorem iJ {τ : Type} (H : Nat -> Nat -> τ) (n m : Nat) : (jA H n m).length = n := by simp [jA]
theorem FN (a : Hr) : (fZ a).length = 3 := rfl
theorem qW (a : Hr) : aN (fZ a) := by simp [fZ, aN, Pu]
def bS (xs : List Hr) : List D := [.lst 3 (aJ fZ xs)]
theorem nZ (xs : List Hr) : (bS xs).length = 1 := rfl
theorem bX (xs : List Hr) : aN (bS xs) := by
 simp only [bS, aN, Pu, and_true]
 exact eT qW xs
theorem JL (b : Bh) (V : VW b) (g : Pos) (first caps : List D) (H : Nat -> Nat -> Hr) (h1 : aN first) (h2 : aN caps) (hg : ∀ r p : Nat, r < b.rws.toNat -> p < b.pls.toNat -> PureF Tryz.prog g.ix (first ++ ([.ag [.i .i64 (r : Int), .i .i64 (p : Int)]] ++ caps)) (.ag (fZ (H r p)))) : PureF Tryz.prog p85.ix [.ag (dV b), .fn g first caps] (.lst 1 (aJ bS (jA H b.rws.toNat b.pls.toNat))) := by
 have q1 := V.rws
 have q2 := V.pls
 refine PureF.run LO (by simp) (by simp [aN, dE, Pu, aO, h1, h2]) ?_; conv => whnf
 repeat' ((first | refine Qw ?_ | refine Qv ?_) <;> conv => whnf)
 refine Rn.loopV [(p6, none), (p7, none), (p8, none), (p9, none), (bI, none), (p14, none), (bP, none), (cJ, none), (dC, none), (cK, none), (cU, none), (p20, none), (p21, none), (p22, none), (p23, none), (p24, none), (p25, none), (p26, none), (fN, none), (p28, none), (p29, none), (fT, none), (hH, none), (iF, none), (iT, none), (kP, none), (iN, none)] (fun i : Nat => [(p6, some (wH (.i (.o .h)) 1 (jA H i b.pls.toNat))), (bI, some (.i .i64 (i : Int)))]) (fun i : Nat => [((.i (.o .h)), yD bS (jA H i b.pls.toNat))]) (fun i : Nat => fO (.o .h) (.o (.i .h)) (jA H i b.pls.toNat)) (fun i : Nat => i <= b.rws.toNat) (fun i : Nat => b.rws.toNat - i) 0 ?_ ?_ ?_
 ·conv => whnf
  (refine X.le.mk ?_ ?_ (Nat.le_refl _) rfl rfl) <;> exact Lw
 rotate_left
 intro xl1 hxl1
 rotate_right
 ·exact Nat.zero_le _
 intro i hi
 have hi : i <= b.rws.toNat := hi
 have osc := vI H i b.pls.toNat
 have olen := iJ H i b.pls.toNat
 have oend : i = b.rws.toNat -> jA H i b.pls.toNat = jA H b.rws.toNat b.pls.toNat := fun h => by rw [h]
 generalize hO : jA H i b.pls.toNat = O at *
 conv => whnf
 repeat' ((first | refine Qw ?_ | refine Qv ?_) <;> conv => whnf)
 refine WB.dec (fun hd => ?_) (fun hd => ?_) <;> conv => whnf
 rotate_left
 ·repeat' ((first | refine Qw ?_ | refine Qv ?_) <;> conv => whnf)
  rw [<- oend (by omega)]
  exact Fin.t (.inr rfl) rfl (Fz.G O (fun h => h) (fun c h => h) nZ bX)
 have hlt : i < b.rws.toNat := by omega
 repeat' ((first | refine Qw ?_ | refine Qv ?_) <;> conv => whnf)
 cases O with
 | nil =>
   refine Rn.loopV [(p8, none), (p9, none), (cU, none), (p20, none), (p21, none), (p22, none), (p23, none), (p24, none), (p25, none), (p26, none), (fN, none), (p28, none), (p29, none), (fT, none)] (fun j : Nat => [(p8, some (wH (.i .h) 3 ((List.range j).map (H i)))), (cU, some (.i .i64 (j : Int)))]) (fun j : Nat => [((.i .h), yD fZ ((List.range j).map (H i)))]) (fun j : Nat => fO (.o .h) (.o (.o .h)) ((List.range j).map (H i))) (fun j : Nat => j <= b.pls.toNat) (fun j : Nat => b.pls.toNat - j) 0 ?_ ?_ ?_
   ·conv => whnf
    (refine X.le.mk ?_ ?_ (Nat.le_refl _) rfl rfl) <;> exact Lw
   rotate_left
   intro xl2 hxl2
   rotate_right
   ·exact Nat.zero_le _
   intro j hj
   have hj : j <= b.pls.toNat := hj
   have hsc : (List.range (j + 1)).map (H i) = (List.range j).map (H i) ++ [H i j] := by rw [List.range_succ, List.map_append]; rfl
   have hAl : ((List.range j).map (H i)).length <= j := by simp
   have hne : 0 < j -> (List.range j).map (H i) ≠ [] := fun h e => by have := congrArg List.length e; simp at this; omega
   generalize hA : (List.range j).map (H i) = A at *
   conv => whnf
   repeat' ((first | refine Qw ?_ | refine Qv ?_) <;> conv => whnf)
   refine WB.dec (fun hd2 => ?_) (fun hd2 => ?_) <;> conv => whnf
   ·have hlt2 : j < b.pls.toNat := by omega
    have cG := hg i j hlt hlt2
    cases A with
    | nil =>
      repeat' ((first | refine Qw ?_ | refine Qf cG ?_ | refine Qv ?_) <;> conv => whnf)
      refine WSt.app_first (r := fZ (H i j)) (by rfl) (.inl rfl) (by rfl) (by rfl) (by rfl) (by rfl) ?_; conv => whnf
      repeat' ((first | refine Qw ?_ | refine Qv ?_) <;> conv => whnf)
      refine AgainB.v (j + 1) (by omega) (show j + 1 <= b.pls.toNat by omega) (by show Pos.nat _ <= Pos.nat _; simp only [hA, hsc, fO, List.cons_append, List.nil_append] <;> decide) (by assumption) ?_
      rw [hsc]
      conv => whnf
      refine Shr.of ?_ ?_ rfl rfl
      ·(repeat' first | exact Rel.e | refine Rel.some ?_ ?_ ?_ | refine Rel.none ?_ ?_ | refine Rel.ee ?_ ?_)
       all_goals show Fz _ _ _ _
       all_goals first | exact Fq | exact Fz.pu ⟨h1, h2⟩ | exact oQ
      ·(repeat' first | exact Rel.e | refine Rel.some ?_ ?_ ?_ | refine Rel.none ?_ ?_ | refine Rel.ee ?_ ?_)
       all_goals refine wI ?_
       all_goals first | exact Sq | exact ShC.na qW _ | (refine ShC.same ?_; (repeat' first | exact ShC.nl | refine ShC.cn ?_ ?_) <;> first | exact Fq | exact Fz.pu ⟨h1, h2⟩ | exact oQ)
    | cons a s =>
      have hs5 : s.length + 1 <= 1000 := Nat.le_trans hAl (by omega)
      repeat' ((first | refine Qw ?_ | refine Qf cG ?_ | refine Qv ?_) <;> conv => whnf)
      refine WSt.app_one (id := (.i .h)) (ds := (aJ fZ (a :: s)).flatten) (r := fZ (H i j)) (by rfl) (by rfl) (by rfl) (by rfl) (by rfl) (by rfl) (by rw [cQ (z := 3) FN]; rfl) (by rfl) (by rfl) (by omega) (by rfl) ?_; conv => whnf
      repeat' ((first | refine Qw ?_ | refine Qv ?_) <;> conv => whnf)
      refine AgainB.v (j + 1) (by omega) (show j + 1 <= b.pls.toNat by omega) (by show Pos.nat _ <= Pos.nat _; simp only [hA, hsc, fO, List.cons_append, List.nil_append] <;> decide) (by assumption) ?_
      rw [hsc, List.cons_append]
      conv => whnf
      (try rw [dP])
      (try rw [dQ])
      refine Shr.of ?_ ?_ rfl rfl
      ·(repeat' first | exact Rel.e | refine Rel.some ?_ ?_ ?_ | refine Rel.none ?_ ?_ | refine Rel.ee ?_ ?_)
       all_goals show Fz _ _ _ _
       all_goals first | exact Fq | exact Fz.pu ⟨h1, h2⟩ | exact oQ
      ·(repeat' first | exact Rel.e | refine Rel.some ?_ ?_ ?_ | refine Rel.none ?_ ?_ | refine Rel.ee ?_ ?_)
       all_goals refine wI ?_
       all_goals first | exact Sq | exact ShC.ca qW _ _ | (refine ShC.same ?_; (repeat' first | exact ShC.nl | refine ShC.cn ?_ ?_) <;> first | exact Fq | exact Fz.pu ⟨h1, h2⟩ | exact oQ)
   obtain rfl : j = b.pls.toNat := by omega
   have hn := hne (by omega)
   cases A with
   | nil => exact absurd rfl hn
   | cons a s =>
   repeat' ((first | refine Qw ?_ | refine Qv ?_) <;> conv => whnf)
   refine WSt.app_first (r := [.sl (.i .h) 0 (s.length + 1) s.length 3]) (by rfl) (.inl rfl) (by rfl) (by rfl) (by rfl) (by rfl) ?_; conv => whnf
   repeat' ((first | refine Qw ?_ | refine Qv ?_) <;> conv => whnf)
   rw [hA] at osc
   refine AgainB.vB (i + 1) (fun id => id.nat < 2 \/ id.nat = 5) (by omega) (show i + 1 <= b.rws.toNat by omega) (by show Pos.nat _ <= Pos.nat _; simp only [hO, osc, fO, List.cons_append, List.nil_append] <;> decide) (show ∀ id : Pos, id.nat < (fO (.o .h) (.o (.i .h)) (jA H i b.pls.toNat)).nat -> _ by rw [hO]; exact fun id h => .inl h) (show ∀ id : Pos, _ -> id.nat < (fO (.o .h) (.o (.i .h)) (jA H (i + 1) b.pls.toNat)).nat by rw [osc]; exact fun id h => by show id.nat < 6; omega) (by assumption) ?_
   rw [osc]
   conv => whnf
   refine ShrB.of ?_ ?_ rfl rfl
   ·(repeat' first | exact Rel.e | refine Rel.some ?_ ?_ ?_ | refine Rel.none ?_ ?_ | refine Rel.ee ?_ ?_)
    all_goals show Fz _ _ _ _
    all_goals first | exact Fq | exact Fz.pu ⟨h1, h2⟩ | exact oQ
   ·(repeat' first | exact Rel.e | refine Rel.some ?_ ?_ ?_ | refine Rel.none ?_ ?_ | refine Rel.ee ?_ ?_)
    all_goals refine ⟨?_, ?_⟩
    all_goals first | (focus (first | rfl | (simp [Pos.nat]; done))) | exact Sq | (refine ShC.grownF (ds := []) (st := 0) (Nat.le_refl _) trivial ?_; exact Fz.G (a :: s) (by simp [Pos.nat]) (fun c h => h) FN qW) | (refine ShC.same ?_; (repeat' first | exact ShC.nl | refine ShC.cn ?_ ?_) <;> first | exact Fq | exact Fz.pu ⟨h1, h2⟩ | exact oQ)
 | cons a0 s0 =>
   have hs5 : s0.length + 1 <= 1000 := by have := olen; simp at this; omega
   refine Rn.loopV [(p8, none), (p9, none), (cU, none), (p20, none), (p21, none), (p22, none), (p23, none), (p24, none), (p25, none), (p26, none), (fN, none), (p28, none), (p29, none), (fT, none)] (fun j : Nat => [(p8, some (wH (.i (.i .h)) 3 ((List.range j).map (H i)))), (cU, some (.i .i64 (j : Int)))]) (fun j : Nat => [((.i (.i .h)), yD fZ ((List.range j).map (H i)))]) (fun j : Nat => fO (.o (.i .h)) (.o (.o (.o .h))) ((List.range j).map (H i))) (fun j : Nat => j <= b.pls.toNat) (fun j : Nat => b.pls.toNat - j) 0 ?_ ?_ ?_
   ·conv => whnf
    (refine X.le.mk ?_ ?_ (Nat.le_refl _) rfl rfl) <;> exact Lw
   rotate_left
   intro xl3 hxl3
   rotate_right
   ·exact Nat.zero_le _
   intro j hj
   have hj : j <= b.pls.toNat := hj
   have hsc : (List.range (j + 1)).map (H i) = (List.range j).map (H i) ++ [H i j] := by rw [List.range_succ, List.map_append]; rfl
   have hAl : ((List.range j).map (H i)).length <= j := by simp
   have hne : 0 < j -> (List.range j).map (H i) ≠ [] := fun h e => by have := congrArg List.length e; simp at this; omega
   generalize hA : (List.range j).map (H i) = A at *
   conv => whnf
   repeat' ((first | refine Qw ?_ | refine Qv ?_) <;> conv => whnf)
   refine WB.dec (fun hd2 => ?_) (fun hd2 => ?_) <;> conv => whnf
   ·have hlt2 : j < b.pls.toNat := by omega
    have cG := hg i j hlt hlt2
    cases A with
    | nil =>
      repeat' ((first | refine Qw ?_ | refine Qf cG ?_ | refine Qv ?_) <;> conv => whnf)
      refine WSt.app_first (r := fZ (H i j)) (by rfl) (.inl rfl) (by rfl) (by rfl) (by rfl) (by rfl) ?_; conv => whnf
      repeat' ((first | refine Qw ?_ | refine Qv ?_) <;> conv => whnf)
      refine AgainB.v (j + 1) (by omega) (show j + 1 <= b.pls.toNat by omega) (by show Pos.nat _ <= Pos.nat _; simp only [hA, hsc, fO, List.cons_append, List.nil_append] <;> decide) (by assumption) ?_
      rw [hsc]
      conv => whnf
      refine Shr.of ?_ ?_ rfl rfl
      ·(repeat' first | exact Rel.e | refine Rel.some ?_ ?_ ?_ | refine Rel.none ?_ ?_ | refine Rel.ee ?_ ?_)
       all_goals show Fz _ _ _ _
       all_goals first | exact Fq | exact Fz.pu ⟨h1, h2⟩ | exact oQ
      ·(repeat' first | exact Rel.e | refine Rel.some ?_ ?_ ?_ | refine Rel.none ?_ ?_ | refine Rel.ee ?_ ?_)
       all_goals refine wI ?_
       all_goals first | exact Sq | exact ShC.G bX a0 s0 | exact ShC.na qW _ | (refine ShC.same ?_; (repeat' first | exact ShC.nl | refine ShC.cn ?_ ?_) <;> first | exact Fq | exact Fz.pu ⟨h1, h2⟩ | exact oQ)
    | cons a s =>
      have hs5 : s.length + 1 <= 1000 := Nat.le_trans hAl (by omega)
      repeat' ((first | refine Qw ?_ | refine Qf cG ?_ | refine Qv ?_) <;> conv => whnf)
      refine WSt.app_one (id := (.i (.i .h))) (ds := (aJ fZ (a :: s)).flatten) (r := fZ (H i j)) (by rfl) (by rfl) (by rfl) (by rfl) (by rfl) (by rfl) (by rw [cQ (z := 3) FN]; rfl) (by rfl) (by rfl) (by omega) (by rfl) ?_; conv => whnf
      repeat' ((first | refine Qw ?_ | refine Qv ?_) <;> conv => whnf)
      refine AgainB.v (j + 1) (by omega) (show j + 1 <= b.pls.toNat by omega) (by show Pos.nat _ <= Pos.nat _; simp only [hA, hsc, fO, List.cons_append, List.nil_append] <;> decide) (by assumption) ?_
      rw [hsc, List.cons_append]
      conv => whnf
      (try rw [dP])
      (try rw [dQ])
      refine Shr.of ?_ ?_ rfl rfl
      ·(repeat' first | exact Rel.e | refine Rel.some ?_ ?_ ?_ | refine Rel.none ?_ ?_ | refine Rel.ee ?_ ?_)
       all_goals show Fz _ _ _ _
       all_goals first | exact Fq | exact Fz.pu ⟨h1, h2⟩ | exact oQ
      ·(repeat' first | exact Rel.e | refine Rel.some ?_ ?_ ?_ | refine Rel.none ?_ ?_ | refine Rel.ee ?_ ?_)
       all_goals refine wI ?_
       all_goals first | exact Sq | exact ShC.G bX a0 s0 | exact ShC.ca qW _ _ | (refine ShC.same ?_; (repeat' first | exact ShC.nl | refine ShC.cn ?_ ?_) <;> first | exact Fq | exact Fz.pu ⟨h1, h2⟩ | exact oQ)
   obtain rfl : j = b.pls.toNat := by omega
   have hn := hne (by omega)
   cases A with
   | nil => exact absurd rfl hn
   | cons a s =>
   repeat' ((first | refine Qw ?_ | refine Qv ?_) <;> conv => whnf)
   refine WSt.app_one (id := (.i (.o .h))) (ds := (aJ bS (a0 :: s0)).flatten) (r := [.sl (.i (.i .h)) 0 (s.length + 1) s.length 3]) (by rfl) (by rfl) (by rfl) (by rfl) (by rfl) (by rfl) (by rw [cQ (z := 1) nZ]; rfl) (by rfl) (by rfl) (by omega) (by rfl) ?_; conv => whnf
   repeat' ((first | refine Qw ?_ | refine Qv ?_) <;> conv => whnf)
   rw [hA] at osc
   refine AgainB.v (i + 1) (by omega) (show i + 1 <= b.rws.toNat by omega) (by show Pos.nat _ <= Pos.nat _; simp only [hO, osc, fO, List.cons_append, List.nil_append] <;> decide) (by assumption) ?_
   rw [osc, List.cons_append]
   conv => whnf
   (try rw [dP])
   (try rw [dQ])
   refine Shr.of ?_ ?_ rfl rfl
   ·(repeat' first | exact Rel.e | refine Rel.some ?_ ?_ ?_ | refine Rel.none ?_ ?_ | refine Rel.ee ?_ ?_)
    all_goals show Fz _ _ _ _
    all_goals first | exact Fq | exact Fz.pu ⟨h1, h2⟩ | exact oQ
   ·(repeat' first | exact Rel.e | refine Rel.some ?_ ?_ ?_ | refine Rel.none ?_ ?_ | refine Rel.ee ?_ ?_)
    all_goals refine wI ?_
    all_goals first | exact Sq | exact ShC.grownF (by omega) (fA bX (a0 :: s0)) (Fz.G (a :: s) (fun h => absurd (show 7 < 6 from h) (by decide)) (fun c h => h) FN qW) | (refine ShC.same ?_; (repeat' first | exact ShC.nl | refine ShC.cn ?_ ?_) <;> first | exact Fq | exact Fz.pu ⟨h1, h2⟩ | exact oQ)
theorem Cv.ns {γ γ' : Gh} {w : World} {z : Nat} : Cv γ γ' w .ns (.lst z []) := fun v h => by
 unfold DV at h ⊢
 exact ⟨none, 0, h, Nat.le_refl _, fun _ => rfl, .inl rfl⟩
theorem Kv (r : List D) (st : Nat) : Vis st ((r.map fun d => Cell.o d st).drop 0) r := fun k d hk => ⟨.o d st, by rw [List.drop_zero, List.getElem?_map, hk]; rfl, Nat.ble_eq_true_of_le (Nat.le_refl _), rfl⟩
def lJ (b : Bh) : Bh := ⟨b.last, b.rws, b.pls, b.rch, b.face, b.sun, b.winds, b.brk, []⟩
def IZ (b : Bh) : List D := [.i .i64 b.last, .i .i64 b.rws, .i .i64 b.pls, .i .i64 b.rch, .lst 1 (ints b.face), .lst 1 (ints b.sun), .lst 1 (aJ fI b.winds), .lst 2 (aJ cV b.brk), .ns]
theorem LZ {B : Pos -> Prop} {ob : T C} (b : Bh) : FzL B ob (IZ b) (dV (lJ b)) := by
 refine .cons (.pu trivial) (.cons (.pu trivial) (.cons (.pu trivial) (.cons (.pu trivial) (.cons (.pu (aB _)) (.cons (.pu (aB _)) (.cons (.pu (aF _)) (.cons (.pu (aH _)) (.cons .ns .nil))))))))
theorem Ns {γ : Gh} {w : World} (b : Bh) : CvL γ γ w (IZ b) (dV (lJ b)) := by
 refine .cons (.pu (fun _ h => h) trivial) (.cons (.pu (fun _ h => h) trivial) (.cons (.pu (fun _ h => h) trivial) (.cons (.pu (fun _ h => h) trivial) (.cons (.pu (fun _ h => h) (aB _)) (.cons (.pu (fun _ h => h) (aB _)) (.cons (.pu (fun _ h => h) (aF _)) (.cons (.pu (fun _ h => h) (aH _)) (.cons .ns .nil))))))))
theorem VW.nt {b : Bh} (V : VW b) : VW (lJ b) := { V with nts := rfl }
structure FzW (b : Bh) : Prop where
 v : VW b
 l4 : b.brk.length <= 4
 l5 : b.nts.length <= 5
theorem nX {b : Bh} (h : bG b = 0) : FzW b := by
 unfold bG at h
 by_cases hb : AP b = true
 ·rw [if_pos hb] at h; exact absurd h (by decide)
 ·rw [if_neg hb] at h
  have hb : ¬ (4 < b.last \/ 3 < b.rws \/ 5 < b.pls \/ 4 < b.brk.length \/ 5 < b.nts.length) := fun k => hb (fW.2 k)
  cases hv : fV b with
  | false => rw [hv] at h; exact absurd h (by decide)
  | true => exact ⟨VW.iff.1 hv, by omega, by omega⟩
theorem pI {b : Bh} {L : List (List Int)} : uY b L = true ↔ (L.length : Int) = b.last + 1 /\ ∀ w ∈ L, (w.length : Int) = b.rws /\ w.all hY = true := by
 unfold uY vK
 simp only [Bool.and_eq_true, decide_eq_true_iff, List.all_eq_true]
theorem IE {b : Bh} (V : VW b) {t : List Int} (h : TruP b t) : ∀ d ∈ t, 0 <= d /\ d <= 3 := fun d hd => by
 obtain ⟨i, hi, rfl⟩ := sV (d := 0) hd
 have h1 := h.len
 have h1' : hrs b = (b.last + 1).toNat := rfl
 have h0 := V.last
 have h2 := V.winl
 have h3 := (mN.1 (h.mem i (by omega))).1
 have h4 := (iI.1 (List.all_eq_true.1 V.wins _ (aR (d := default) (show i < b.winds.length by omega)))).2.2
 exact bF (List.all_eq_true.1 h4 _ h3)
def zZ (b : Bh) (L : List (List Int)) (t : List Int) (r p : Nat) : Hr := gB b (qN L) ((r : Int), (p : Int)) t t.length
theorem Gi (b : Bh) (V : VW b) (S : Nat -> Nat -> Int) (r p : Nat) (hr : r < b.rws.toNat) (hp : p < b.pls.toNat) (t : List Int) (ht : t.length <= b.sun.length) (hd : ∀ d ∈ t, 0 <= d /\ d <= 3) (l4 : b.brk.length <= 1000) : PureF Tryz.prog p86.ix [.ag [.i .i64 (r : Int), .i .i64 (p : Int)], .pl (dV b) 0, .pl (gI S) 0, .pl [.lst 1 (ints t)] 0] (.ag (fZ (gB b S ((r : Int), (p : Int)) t t.length))) := by
 have hs : eK b ((r : Int), (p : Int)) = true := by
  unfold eK iR
  rw [Bool.and_eq_true]
  exact ⟨by first | exact decide_eq_true (by constructor <;> omega) | (simp only [Bool.and_eq_true, decide_eq_true_iff]; constructor <;> omega), by first | exact decide_eq_true (by constructor <;> omega) | (simp only [Bool.and_eq_true, decide_eq_true_iff]; constructor <;> omega)⟩
 have cP := Dq b V S ((r : Int), (p : Int)) hs t ht hd l4
 refine PureF.run LE (by simp) (by simp [aN, Pu, aO, eS, aB]) ?_; conv => whnf
 repeat' ((first | refine Qw ?_ | refine Qf cP ?_ | refine Qv ?_) <;> conv => whnf)
 exact ⟨.inr rfl, _, rfl, .pu (by simp [one, Pu, aN, fZ])⟩
theorem tQ (b : Bh) (L : List (List Int)) (t : List Int) (l1 : b.face.length <= 1000) (l2 : b.sun.length <= 1000) (l3 : b.winds.length <= 1000) (l6 : ∀ w ∈ b.winds, w.length <= 1000) (h1 : L.length <= 1000) (h2 : ∀ w ∈ L, w.length <= 1000) (hf : bG b = 0) (k1 : uY b L = true) (k2 : Fk (lJ b) t = true) : PureF Tryz.prog p23.ix [.ag (dV b), .lst 1 (aJ fI L), .lst 1 (ints t)] (.tp [.lst 1 (aJ bS (jA (zZ (lJ b) L t) b.rws.toNat b.pls.toNat)), .i .i64 0]) := by
 have Z := nX hf
 have V' := Z.v.nt
 have hv := Z.v.last
 have hw := Z.v.winl
 have hsl := Z.v.sunl
 have hrw := Z.v.rws
 have cC := FF b l1 l2 l3 l6
 rw [hf] at cC
 have cP := (Dg (lJ b) L (by show _ <= b.last + 1 /\ b.last + 1 <= _; omega) h1 h2).sub fun γ w => .cons (.ag (Ns b)) (.cons (.pu (fun _ h => h) (aF L)) .nil)
 have cT := (Bm (lJ b) V' t l6 (Nat.zero_le _)).sub fun γ w => .cons (.ag (Ns b)) (.cons (.pu (fun _ h => h) (aB t)) .nil)
 rw [show uY (lJ b) L = uY b L from rfl, k1] at cP
 rw [k2] at cT
 obtain ⟨p1, p2⟩ := pI.1 k1
 have tp := (kG V').1 k2
 have tl := tp.len
 have tl : (t.length : Int) = b.last + 1 := by first | exact tl | (have tl : t.length = hrs b := tl; unfold hrs at tl; omega) | (have tl : t.length = b.winds.length := tl; omega)
 have cS := uM L (by omega) (fun w hw => by have := (p2 w hw).1; omega)
 have cB := JL (lJ b) V' p86 [] [.pl (dV (lJ b)) 0, .pl (gI (qN L)) 0, .pl [.lst 1 (ints t)] 0] (zZ (lJ b) L t) trivial (by simp [aN, Pu, aO, eS, aB]) (fun r p hr hp => Gi (lJ b) V' (qN L) r p hr hp t (by show t.length <= b.sun.length; omega) (IE V' tp) (by show b.brk.length <= 1000; have := Z.l4; omega))
 have cB : PureF Tryz.prog p85.ix [.ag (dV (lJ b)), .fn p86 [] [.pl (dV (lJ b)) 0, .pl (gI (qN L)) 0, .pl [.lst 1 (ints t)] 0]] (.lst 1 (aJ bS (jA (zZ (lJ b) L t) b.rws.toNat b.pls.toNat))) := cB
 refine PureF.run Lx (by simp) (by simp [aN, dE, Pu, aO, aF, aB]) ?_; conv => whnf
 refine Rn.far rfl ?_
 refine RnF.seq ?_; conv => whnf
 repeat' ((first | refine Qw ?_ | refine Qv ?_) <;> conv => whnf)
 refine ⟨rfl, rfl, (by exact (show (1:Nat) <= _ from Nat.le_of_ble_eq_true rfl)), ?_⟩
 refine RnF.seq ?_; conv => whnf
 repeat' first | ((first | refine Qw ?_ | refine Qf cC ?_ | refine Qd (fun h => ?_) (fun h => ?_)) <;> conv => whnf) | (refine WB.tt ?_; conv => whnf) | (refine WB.ff ?_; conv => whnf)
 refine ⟨rfl, rfl, (by exact (show (1:Nat) <= _ from Nat.le_of_ble_eq_true rfl)), ?_⟩
 refine RnF.seq ?_; conv => whnf
 repeat' ((first | refine Qw ?_ | refine Qv ?_) <;> conv => whnf)
 refine ⟨rfl, rfl, (by exact (show (1:Nat) <= _ from Nat.le_of_ble_eq_true rfl)), ?_⟩
 refine RnF.seq ?_; conv => whnf
 repeat' ((first | refine Qw ?_ | refine Qv ?_) <;> conv => whnf)
 refine ⟨rfl, rfl, (by exact (show (1:Nat) <= _ from Nat.le_of_ble_eq_true rfl)), ?_⟩
 refine RnF.seq ?_; conv => whnf
 repeat' first | ((first | refine Qw ?_ | refine Qf cP ?_ | refine Qf cT ?_ | refine Qd (fun h => ?_) (fun h => ?_)) <;> conv => whnf) | (refine WB.tt ?_; conv => whnf) | (refine WB.ff ?_; conv => whnf)
 refine ⟨rfl, rfl, (by exact (show (1:Nat) <= _ from Nat.le_of_ble_eq_true rfl)), ?_⟩
 refine RnF.seq ?_; conv => whnf
 repeat' ((first | refine Qw ?_ | refine Qf cS ?_ | refine Qv ?_) <;> conv => whnf)
 refine ⟨rfl, rfl, (by exact (show (1:Nat) <= _ from Nat.le_of_ble_eq_true rfl)), ?_⟩
 refine RnF.turn (z' := ⟨(.n (.n .e none (.n (.n .e (some (.pl (dV (lJ b)) 0)) .e) (some (.pl [.lst 1 (ints t)] 0)) .e)) none (.n .e none (.n (.n .e (some (.pl (gI (qN L)) 0)) .e) none .e))), .e, .h, none⟩) (B := fun _ => False) ?_ (fun id h => absurd (Pos.nat_pos id) (by have h : id.nat < 1 := h; omega)) (fun id h => h.elim) (Nat.le_refl _) ?_
 ·refine ShrB.of ?_ ?_ rfl rfl
  ·(repeat' first | exact Rel.e | refine Rel.some ?_ ?_ ?_ | refine Rel.none ?_ ?_ | refine Rel.ee ?_ ?_)
   all_goals show Fz _ _ _ _
   all_goals first | exact Frz.ptr (r := [.lst 1 (ints t)]) rfl rfl (by simp) (by simp [aN, Pu, aB]) | exact Frz.ptr rfl rfl (by simp [gI]) (eS _) | exact .pt (r := IZ b) (fun h => h) rfl (by simp [IZ]) (Kv (IZ b) 0) (LZ b)
  ·(repeat' first | exact Rel.e | refine Rel.some ?_ ?_ ?_ | refine Rel.none ?_ ?_ | refine Rel.ee ?_ ?_)
 ·conv => whnf
  repeat' ((first | refine Qw ?_ | refine Qf cB ?_ | refine Qv ?_) <;> conv => whnf)
  exact ⟨.inr rfl, _, rfl, .pu ⟨eT bX _, trivial, trivial⟩⟩
section
variable {sl : T D} {ob : T C} {nx : Pos} {lg : Option (T Bool)} {K : X → Prop}
theorem WSt.app_firstL {d idy : Pos} {z curY : Nat} {roY : Bool} {x y : RX} {a : D} {r : List D} {csY : List Cell} (hx : bE sl x = some a) (ha : a = .ns ∨ a = .em) (hy : bE sl y = some (.sl idy 0 1 0 z)) (hoy : ob.get idy = some (.cells roY csY curY)) (hcy : csY = r.map fun d => Cell.o d 0) (hr : r.length = z)
    (h : KU lg idy fun lg => KX lg nx fun lg => T.setK nx (.cells false (r.map fun d => Cell.o d 0) 1) ob fun ob => Pos.succK nx fun nx' => eF sl ob nx' lg d K (.sl nx 0 1 0 z)) : WSt (.app d z x y) ⟨sl, ob, nx, lg⟩ K := by
  obtain ⟨l1, e1, h⟩ := xJ h
  obtain ⟨l2, e2, h⟩ := yF h
  rw [T.setK_eq, Pos.succK_eq] at h
  obtain ⟨h2, h3⟩ := aY h
  refine ⟨_, ?_, h3⟩
  show fH d z x y sl ob nx lg = _
  unfold fH
  rw [hx, hy]
  subst hcy hr
  have hb : Nat.beq r.length r.length = true := Nat.beq_refl _
  have hrd : gD (β := X) 0 (Nat.mul 1 r.length) (dS 0 (r.map fun d => Cell.o d 0)) = fun k => k r := by
    rw [bV, List.drop_zero, show Nat.mul 1 r.length = r.length from Nat.one_mul _]
    have key : ∀ (l : List D) (k : List D → Option X), gD 0 l.length (l.map fun d => Cell.o d 0) k = k l := by
      intro l
      induction l with
      | nil => exact fun k => rfl
      | cons a l ih => exact fun k => ih fun ds => k (a :: ds)
    exact funext fun k => key r k
  simp only [qX, hb, cond_true, hoy, hrd, sZ, e1]
  have hle : Nat.ble (Nat.succ 0) 2147483648 = true := rfl
  rcases ha with rfl | rfl <;> simp only [hle, cond_true, gQ, eQ, e2, T.setK_eq, Pos.succK_eq] <;> exact h2
theorem WSt.app_oneL {d id idy : Pos} {z st len len' cur curY : Nat} {roY : Bool} {x y : RX} {ds r : List D} {csY : List Cell} {ob2 : T C} (hx : bE sl x = some (.sl id 0 len st z)) (hy : bE sl y = some (.sl idy 0 1 0 z)) (hoy : ob.get idy = some (.cells roY csY curY)) (hcy : csY = r.map fun d => Cell.o d 0) (hr : r.length = z) (hox : ob.get id = some (.cells false (ds.map fun d => Cell.o d st) cur)) (hds : ds.length = len * z) (hcur : cur = st + 1) (hlen : len' = len + 1) (hmax : len < 2147483648)
    (hob2 : T.set id (.cells false ((ds.map fun d => Cell.o d st) ++ r.map fun d => Cell.o d cur) (cur + 1)) ob = ob2) (h : KU lg idy fun lg => KX lg id fun lg => eF sl ob2 nx lg d K (.sl id 0 len' cur z)) : WSt (.app d z x y) ⟨sl, ob, nx, lg⟩ K := by
  obtain ⟨l1, e1, h⟩ := xJ h
  obtain ⟨l2, e2, h⟩ := yF h
  obtain ⟨h2, h3⟩ := aY h
  refine ⟨_, ?_, h3⟩
  show fH d z x y sl ob nx lg = _
  unfold fH
  rw [hx, hy]
  subst hcy hr hlen hob2
  have hb : Nat.beq r.length r.length = true := Nat.beq_refl _
  have hrd : gD (β := X) 0 (Nat.mul 1 r.length) (dS 0 (r.map fun d => Cell.o d 0)) = fun k => k r := by
    rw [bV, List.drop_zero, show Nat.mul 1 r.length = r.length from Nat.one_mul _]
    have key : ∀ (l : List D) (k : List D → Option X), gD 0 l.length (l.map fun d => Cell.o d 0) k = k l := by
      intro l
      induction l with
      | nil => exact fun k => rfl
      | cons a l ih => exact fun k => ih fun ds => k (a :: ds)
    exact funext fun k => key r k
  simp only [qX, hb, cond_true, hoy, hrd, sZ, e1]
  simp only [hox]
  have hidx : Nat.add 0 (Nat.mul len r.length) = ds.length := by rw [hds]; exact Nat.zero_add _
  rw [hidx, nF ds cur _ hcur]
  simp only [List.append_nil, bA, gH, e2, T.setK_eq]
  have e3 : Nat.add len (Nat.succ 0) = len + 1 := rfl
  rw [e3, Nat.ble_eq_true_of_le (show len + 1 ≤ 2147483648 from hmax)]
  exact h2
end
theorem FJ (b : Bh) (l1 : b.face.length <= 1000) (l2 : b.sun.length <= 1000) (l3 : b.winds.length <= 1000) (l6 : ∀ w ∈ b.winds, w.length <= 1000) : PureF Tryz.prog p28.ix [.ag (dV b)] (.i .i64 (bG b)) := by
 have cC := Aq b l1 l2 l3 l6
 refine PureF.run Lm (by simp) (by simp [aN, dE, Pu, aO]) ?_; conv => whnf
 repeat' ((first | refine Qw ?_ | refine Qf cC ?_ | refine Qv ?_) <;> conv => whnf)
 exact Fin.i rfl rfl
theorem tF (l : List Int) (hl : l.length <= 65536) : PureF Tryz.prog p26.ix [.lst 1 (ints l)] (.lst 1 (ints l)) := by
 have e1 := aL l
 refine PureF.run Mh (by simp) (by simp [aN, dE, Pu, aB]) ?_; conv => whnf
 repeat' ((first | refine Qw ?_ | refine Qv ?_) <;> conv => whnf)
 refine WSt.app_emp rfl rfl rfl (uK l) (by omega) (fun st => ?_); conv => whnf
 repeat' ((first | refine Qw ?_ | refine Qv ?_) <;> conv => whnf)
 exact Fin.t (.inr rfl) rfl (Frz.whole (cur := st + 1) rfl rfl (uK l) rfl (aB l))
theorem GG (p : Int × Int) : PureF Tryz.prog p42.ix [.ag (cV p)] (.ag (cV p)) := by
 refine PureF.run Ln (by simp) (by simp [aN, Pu, cV]) ?_; conv => whnf
 repeat' ((first | refine Qw ?_ | refine Qv ?_) <;> conv => whnf)
 exact ⟨.inr rfl, _, rfl, .pu (by simp [one, Pu, aN, cV])⟩
theorem Hl (w : List Int) : (fI w).length = 1 := rfl
theorem vV (w : List Int) : aN (fI w) := by simp [fI, aN, Pu, aB]
def Nr (L A : List (List Int)) (j : Nat) : X := ⟨(.n (.n (.n .e (some (.sl .h 0 j j 1)) .e) none .e) (some (.lst 1 (aJ fI L))) (.n (.n .e (some (.i .i64 (j : Int))) .e) none .e)), .n .e (some (.cells false ((aJ fI A).flatten.map fun d => Cell.o d j) (j + 1))) .e, .o .h, none⟩
theorem sJ {α : Type} {l : List α} {j : Nat} {d : α} (h : j < l.length) : l.take (j + 1) = l.take j ++ [l.getD j d] := by
 rw [List.take_succ_eq_append_getElem h]; simp [List.getD, h]
theorem zF (L : List (List Int)) (hL : L.length <= 1000) (hl : ∀ w ∈ L, w.length <= 65536) : PureF Tryz.prog p25.ix [.lst 1 (aJ fI L)] (.lst 1 (aJ fI L)) := by
 have e1 := aK fI L
 refine PureF.run LL (by simp) (by simp [aN, dE, Pu, aF]) ?_; conv => whnf
 repeat' ((first | refine Qw ?_ | refine Qv ?_) <;> conv => whnf)
 refine Rn.loop (fun j : Nat => Nr L (L.take j) j) (fun j => j <= L.length) (fun j => L.length - j) 0 ?_ (Nat.zero_le _) ?_
 ·refine X.le.mk ?_ ?_ (Nat.le_refl _) rfl rfl
  ·exact Lw
  ·exact Lw
 intro j hj
 have hj : j <= L.length := hj
 have hsc : j < L.length -> L.take (j + 1) = L.take j ++ [L.getD j default] := fun h => sJ h
 have hAl : (L.take j).length = j := by rw [List.length_take]; omega
 have hend : j = L.length -> L.take j = L := fun h => by rw [List.take_of_length_le (by omega)]
 generalize hA : L.take j = A at *
 conv => whnf
 repeat' ((first | refine Qw ?_ | refine Qv ?_) <;> conv => whnf)
 refine WB.dec (fun hd => ?_) (fun hd => ?_) <;> conv => whnf
 ·have hlt : j < L.length := by omega
  have cL := tF (L.getD j default) (hl _ (aR hlt))
  repeat' ((first | refine Qw ?_ | refine Qf cL ?_ | refine Qv ?_) <;> conv => whnf)
  refine WSt.app_one (id := .h) (ds := (aJ fI A).flatten) (r := fI (L.getD j default)) (by rfl) (by rfl) (by rfl) (by rfl) (by rfl) (by rfl) (by rw [cQ (z := 1) Hl, hAl]) (by rfl) (by rfl) (by omega) (by rfl) ?_; conv => whnf
  repeat' ((first | refine Qw ?_ | refine Qv ?_) <;> conv => whnf)
  refine Again.to (j + 1) (by omega) (show j + 1 <= L.length by omega) (Nat.le_refl _) ?_
  show Shr _ (Nr L (L.take (j + 1)) (j + 1))
  rw [hsc hlt]
  refine Shr.of ?_ ?_ rfl rfl
  ·(repeat' first | exact Rel.e | refine Rel.some ?_ ?_ ?_ | refine Rel.none ?_ ?_ | refine Rel.ee ?_ ?_)
   all_goals show Fz _ _ _ _
   all_goals first | exact .pu trivial | exact .ksl (Ql rfl) | exact .pu (aF _)
  ·show Rel _ _ (.n .e (some (.cells false ((aJ fI (A ++ [L.getD j default])).flatten.map fun d => Cell.o d (j + 1)) (j + 1 + 1))) .e : T C) _
   rw [qB]
   (repeat' first | exact Rel.e | refine Rel.some ?_ ?_ ?_ | refine Rel.none ?_ ?_ | refine Rel.ee ?_ ?_)
   all_goals exact Ro (ShC.grown (by omega) (aZ.2 fun d hd => by
    rcases List.mem_append.1 hd with hd | hd <;> first | exact aZ.1 (fA vV _) d hd | exact aZ.1 (vV _) d hd))
 ·obtain rfl : j = L.length := by omega
  repeat' ((first | refine Qw ?_ | refine Qv ?_) <;> conv => whnf)
  have hE : FzE (fun _ => False) (.n .e (some (.cells false ((aJ fI A).flatten.map fun d => Cell.o d L.length) (L.length + 1))) .e) (aJ fI A) (aJ fI L) := by
   rw [hend rfl]; exact FzE.of (aF _)
  exact Fin.t (.inr rfl) rfl (.sl (es := aJ fI A) (cs := (aJ fI A).flatten.map fun d => Cell.o d L.length) (fun h => h) rfl (by rw [aK, hAl]) (fun r hr => by
   obtain ⟨m, _, rfl⟩ := List.mem_map.1 hr
   rfl) (Kv (aJ fI A).flatten L.length) hE)
def xQ : C := .cells false [.o (.i .i64 0) 0, .o (.i .i64 0) 0, .o (.i .i64 0) 0, .o (.i .i64 0) 0, .o .ns 0, .o .ns 0, .o .ns 0, .o .ns 0, .o .ns 0] 1
theorem nH {B : Pos -> Prop} {ob : T C} : ShC B ob xQ xQ := by
 refine ShC.same ?_
 (repeat' first | exact ShC.nl | refine ShC.cn ?_ ?_) <;> exact .pu trivial
def Hu (b : Bh) (x y : D) : C := .cells false [.o (.i .i64 b.last) 0, .o (.i .i64 b.rws) 0, .o (.i .i64 b.pls) 0, .o (.i .i64 b.rch) 0, .o (.lst 1 (ints b.face)) 0, .o (.lst 1 (ints b.sun)) 0, .o (.lst 1 (aJ fI b.winds)) 0, .o x 0, .o y 0] 1
theorem kQ {B : Pos -> Prop} {ob : T C} (b : Bh) {x x' y y' : D} (hx : Fz B ob x x') (hy : Fz B ob y y') : ShC B ob (Hu b x y) (Hu b x' y') := by
 refine .cells fun k c' hc => ?_
 match k, hc with
 | 0, hc => cases hc; exact ⟨_, rfl, fun _ h => h, .pu trivial⟩
 | 1, hc => cases hc; exact ⟨_, rfl, fun _ h => h, .pu trivial⟩
 | 2, hc => cases hc; exact ⟨_, rfl, fun _ h => h, .pu trivial⟩
 | 3, hc => cases hc; exact ⟨_, rfl, fun _ h => h, .pu trivial⟩
 | 4, hc => cases hc; exact ⟨_, rfl, fun _ h => h, .pu (aB _)⟩
 | 5, hc => cases hc; exact ⟨_, rfl, fun _ h => h, .pu (aB _)⟩
 | 6, hc => cases hc; exact ⟨_, rfl, fun _ h => h, .pu (aF _)⟩
 | 7, hc => cases hc; exact ⟨_, rfl, fun _ h => h, hx⟩
 | 8, hc => cases hc; exact ⟨_, rfl, fun _ h => h, hy⟩
 | k + 9, hc => cases hc
def Hx : RC -> RC
 | .seq _ b => b
 | c => c
def Kg : RC := Hx (Hx (Hx Kk))
def Lp (b : Bh) : X := ⟨(.n (.n (.n .e (some (.pt (.i .h) 0 0)) .e) (some (.pt .h 0 0)) .e) none (.n .e (some (.pt (.o .h) 0 0)) .e)), (.n (.n .e (some (xQ)) .e) (some (lK b)) (.n .e (some (Hu b (.lst 2 (aJ cV b.brk)) .ns)) .e)), .o (.o .h), none⟩
def HB (b : Bh) (A : List (Int × Int)) (j : Nat) : X := ⟨(.n (.n (.n .e (some (.pt (.i .h) 0 0)) .e) (some (.pt .h 0 0)) .e) none (.n (.n .e (some (.i .i64 (j : Int))) .e) (some (.pt (.o .h) 0 0)) .e)), (.n (.n .e (some (xQ)) .e) (some (lK b)) (.n (.n .e (yD cV A) .e) (some (Hu b (wH (.i (.o .h)) 2 A) .ns)) .e)), fO (.o (.o .h)) (.o (.i .h)) A, none⟩
def HH (b : Bh) (A : List (Int × Int)) (j : Nat) : X := ⟨(.n (.n (.n .e (some (.pt (.i .h) 0 0)) .e) (some (.pt .h 0 0)) (.n .e (some (.i .i64 (j : Int))) .e)) none (.n .e (some (.pt (.o .h) 0 0)) .e)), (.n (.n .e (some (xQ)) .e) (some (lK b)) (.n (.n .e (yD cV A) .e) (some (Hu b (.lst 2 (aJ cV b.brk)) (wH (.i (.o .h)) 2 A))) .e)), fO (.o (.o .h)) (.o (.i .h)) A, none⟩
theorem DX (b : Bh) (l5 : b.nts.length <= 1000) : Rn Tryz.prog 68 Kg (Lp b) (Fin Iv (.ag (dV b))) := by
 have e2 := aK cV b.nts
 conv => whnf
 repeat' ((first | refine Qw ?_ | refine Qv ?_) <;> conv => whnf)
 refine Rn.loop (fun j : Nat => HH b (b.nts.take j) j) (fun j => j <= b.nts.length /\ True) (fun j => b.nts.length - j) 0 ?_ ?_ ?_
 ·refine X.le.mk ?_ ?_ (Nat.le_refl _) rfl rfl
  ·show T.le ((.n (.n (.n .e (some (.pt (.i .h) 0 0)) .e) (some (.pt .h 0 0)) (.n .e (some (.i .i64 0)) .e)) none (.n .e (some (.pt (.o .h) 0 0)) .e)) : Ev.T D) _
   exact Lw
  ·exact Lw
 ·exact ⟨Nat.zero_le _, trivial⟩
 rintro j ⟨hj, _⟩
 have hsc : j < b.nts.length -> b.nts.take (j + 1) = b.nts.take j ++ [b.nts.getD j default] := fun h => sJ h
 have hAl : (b.nts.take j).length <= j := by rw [List.length_take]; omega
 have hend : j = b.nts.length -> b.nts.take j = b.nts := fun h => by rw [List.take_of_length_le (by omega)]
 generalize hA : b.nts.take j = A at *
 conv => whnf
 repeat' ((first | refine Qw ?_ | refine Qv ?_) <;> conv => whnf)
 refine WB.dec (fun hd => ?_) (fun hd => ?_) <;> conv => whnf
 ·have hlt : j < b.nts.length := by omega
  have hsc := hsc hlt
  cases A with
  | nil =>
    repeat' ((first | refine Qw ?_ | refine Qv ?_) <;> conv => whnf)
    refine WSt.app_firstL (r := cV (b.nts.getD j default)) (by rfl) (.inl rfl) (by rfl) (by rfl) (by rfl) (by rfl) ?_; conv => whnf
    repeat' ((first | refine Qw ?_ | refine Qv ?_) <;> conv => whnf)
    refine Again.to (j + 1) (by omega) ⟨by omega, trivial⟩ (by show (fO (.o (.o .h)) (.o (.i .h)) (b.nts.take j)).nat <= (fO (.o (.o .h)) (.o (.i .h)) (b.nts.take (j + 1))).nat; rw [hA, hsc]; exact (show 4 <= 6 by omega)) ?_
    show Shr _ (HH b (b.nts.take (j + 1)) (j + 1))
    rw [hsc]
    refine Shr.of ?_ ?_ rfl rfl
    ·(repeat' first | exact Rel.e | refine Rel.some ?_ ?_ ?_ | refine Rel.none ?_ ?_ | refine Rel.ee ?_ ?_)
     all_goals show Fz _ _ _ _
     all_goals first | exact Fy
    ·(repeat' first | exact Rel.e | refine Rel.some ?_ ?_ ?_ | refine Rel.none ?_ ?_ | refine Rel.ee ?_ ?_)
     all_goals first
      | exact Ro (bL b)
      | exact Ro nH
      | exact Ro (kQ b (.pu (aH _)) (.pu trivial))
      | exact Ro (kQ b (.pu (aH _)) (.ksl (Ql rfl)))
      | (refine Ro (ShC.same fun c hc => ?_); obtain ⟨d, hd, rfl⟩ := List.mem_map.1 hc; exact .pu (aZ.1 (tK _) d hd))
  | cons a s =>
    have hs5 : s.length + 1 <= 1000 := Nat.le_trans hAl (by omega)
    repeat' ((first | refine Qw ?_ | refine Qv ?_) <;> conv => whnf)
    refine WSt.app_oneL (id := (.i (.o .h))) (ds := (aJ cV (a :: s)).flatten) (r := cV (b.nts.getD j default)) (by rfl) (by rfl) (by rfl) (by rfl) (by rfl) (by rfl) (by rw [cQ (z := 2) Fw]; rfl) (by rfl) (by rfl) (by omega) (by rfl) ?_; conv => whnf
    repeat' ((first | refine Qw ?_ | refine Qv ?_) <;> conv => whnf)
    refine Again.to (j + 1) (by omega) ⟨by omega, trivial⟩ (by show (fO (.o (.o .h)) (.o (.i .h)) (b.nts.take j)).nat <= (fO (.o (.o .h)) (.o (.i .h)) (b.nts.take (j + 1))).nat; rw [hA, hsc, List.cons_append]; exact (show 6 <= 6 by omega)) ?_
    show Shr _ (HH b (b.nts.take (j + 1)) (j + 1))
    rw [hsc, List.cons_append]
    refine Shr.of ?_ ?_ rfl rfl
    ·(repeat' first | exact Rel.e | refine Rel.some ?_ ?_ ?_ | refine Rel.none ?_ ?_ | refine Rel.ee ?_ ?_)
     all_goals show Fz _ _ _ _
     all_goals first | exact Fy
    ·show Rel _ _ ((.n (.n .e (some (xQ)) .e) (some (lK b)) (.n (.n .e (yD cV (a :: (s ++ [(b.nts.getD j default)]))) .e) (some (Hu b (.lst 2 (aJ cV b.brk)) (wH (.i (.o .h)) 2 (a :: (s ++ [(b.nts.getD j default)]))))) .e)) : Ev.T Ev.C) _
     rw [dP, dQ]
     (repeat' first | exact Rel.e | refine Rel.some ?_ ?_ ?_ | refine Rel.none ?_ ?_ | refine Rel.ee ?_ ?_)
     all_goals first
      | exact Ro (bL b)
      | exact Ro nH
      | exact Ro (kQ b (.pu (aH _)) (.pu trivial))
      | exact Ro (kQ b (.pu (aH _)) (.ksl (Ql rfl)))
      | (refine Ro (ShC.grown (by omega) (aZ.2 fun d hd => ?_)); rcases List.mem_append.1 hd with hd | hd <;> first | exact aZ.1 (fA tK _) d hd | exact aZ.1 (tK _) d hd)
 ·obtain rfl : j = b.nts.length := by omega
  have hE := hend rfl
  cases A with
  | nil =>
    repeat' ((first | refine Qw ?_ | refine Qv ?_) <;> conv => whnf)
    refine ⟨.inr rfl, _, rfl, .ag ?_⟩
    unfold dV
    rw [<- hE]
    exact .cons (.pu trivial) (.cons (.pu trivial) (.cons (.pu trivial) (.cons (.pu trivial) (.cons (.pu (aB _)) (.cons (.pu (aB _)) (.cons (.pu (aF _)) (.cons (.pu (aH _)) (.cons .ns .nil))))))))
  | cons a s =>
    repeat' ((first | refine Qw ?_ | refine Qv ?_) <;> conv => whnf)
    refine ⟨.inr rfl, _, rfl, .ag ?_⟩
    unfold dV
    rw [<- hE]
    exact .cons (.pu trivial) (.cons (.pu trivial) (.cons (.pu trivial) (.cons (.pu trivial) (.cons (.pu (aB _)) (.cons (.pu (aB _)) (.cons (.pu (aF _)) (.cons (.pu (aH _)) (.cons (Fz.G (a :: s) (fun h => h) (fun c h => h) Fw tK) .nil))))))))
theorem sT (b : Bh) (l1 : b.face.length <= 1000) (l2 : b.sun.length <= 1000) (l3 : b.winds.length <= 1000) (l4 : b.brk.length <= 1000) (l5 : b.nts.length <= 1000) (l6 : ∀ w ∈ b.winds, w.length <= 1000) : PureF Tryz.prog p24.ix [.ag (dV b)] (.ag (dV b)) := by
 have e1 := aK cV b.brk
 have hrest := DX b l5
 have c1 := tF b.face (by omega)
 have c2 := tF b.sun (by omega)
 have c3 := zF b.winds l3 (fun w h => Nat.le_trans (l6 w h) (by decide))
 refine PureF.run MX (by simp) (by simp [aN, dE, Pu, aO]) ?_; conv => whnf
 refine Rn.far rfl ?_
 refine RnF.seq ?_; conv => whnf
 repeat' ((first | refine Qw ?_ | refine Qv ?_) <;> conv => whnf)
 refine ⟨rfl, rfl, Nat.le_of_ble_eq_true rfl, ?_⟩
 refine RnF.seq ?_; conv => whnf
 repeat' ((first | refine Qw ?_ | refine Qf c1 ?_ | refine Qf c2 ?_ | refine Qf c3 ?_ | refine Qv ?_) <;> conv => whnf)
 refine ⟨rfl, rfl, Nat.le_of_ble_eq_true rfl, ?_⟩
 refine RnF.seq ?_; conv => whnf
 repeat' ((first | refine Qw ?_ | refine Qv ?_) <;> conv => whnf)
 refine Rn.loop (fun j : Nat => HB b (b.brk.take j) j) (fun j => j <= b.brk.length /\ True) (fun j => b.brk.length - j) 0 ?_ ?_ ?_
 ·refine X.le.mk ?_ ?_ (Nat.le_refl _) rfl rfl
  ·show T.le ((.n (.n (.n .e (some (.pt (.i .h) 0 0)) .e) (some (.pt .h 0 0)) .e) none (.n (.n .e (some (.i .i64 0)) .e) (some (.pt (.o .h) 0 0)) .e)) : Ev.T D) _
   exact Lw
  ·exact Lw
 ·exact ⟨Nat.zero_le _, trivial⟩
 rintro j ⟨hj, _⟩
 have hsc : j < b.brk.length -> b.brk.take (j + 1) = b.brk.take j ++ [b.brk.getD j default] := fun h => sJ h
 have hAl : (b.brk.take j).length <= j := by rw [List.length_take]; omega
 have hend : j = b.brk.length -> b.brk.take j = b.brk := fun h => by rw [List.take_of_length_le (by omega)]
 generalize hA : b.brk.take j = A at *
 conv => whnf
 repeat' ((first | refine Qw ?_ | refine Qv ?_) <;> conv => whnf)
 refine WB.dec (fun hd => ?_) (fun hd => ?_) <;> conv => whnf
 ·have hlt : j < b.brk.length := by omega
  have hsc := hsc hlt
  have cS := GG (b.brk.getD j default)
  cases A with
  | nil =>
    repeat' ((first | refine Qw ?_ | refine Qf cS ?_ | refine Qv ?_) <;> conv => whnf)
    refine WSt.app_firstL (r := cV (b.brk.getD j default)) (by rfl) (.inl rfl) (by rfl) (by rfl) (by rfl) (by rfl) ?_; conv => whnf
    repeat' ((first | refine Qw ?_ | refine Qv ?_) <;> conv => whnf)
    refine Again.to (j + 1) (by omega) ⟨by omega, trivial⟩ (by show (fO (.o (.o .h)) (.o (.i .h)) (b.brk.take j)).nat <= (fO (.o (.o .h)) (.o (.i .h)) (b.brk.take (j + 1))).nat; rw [hA, hsc]; exact (show 4 <= 6 by omega)) ?_
    show Shr _ (HB b (b.brk.take (j + 1)) (j + 1))
    rw [hsc]
    refine Shr.of ?_ ?_ rfl rfl
    ·(repeat' first | exact Rel.e | refine Rel.some ?_ ?_ ?_ | refine Rel.none ?_ ?_ | refine Rel.ee ?_ ?_)
     all_goals show Fz _ _ _ _
     all_goals first | exact Fy
    ·(repeat' first | exact Rel.e | refine Rel.some ?_ ?_ ?_ | refine Rel.none ?_ ?_ | refine Rel.ee ?_ ?_)
     all_goals first
      | exact Ro (bL b)
      | exact Ro nH
      | exact Ro (kQ b (.pu trivial) (.pu trivial))
      | exact Ro (kQ b (.ksl (Ql rfl)) (.pu trivial))
      | (refine Ro (ShC.same fun c hc => ?_); obtain ⟨d, hd, rfl⟩ := List.mem_map.1 hc; exact .pu (aZ.1 (tK _) d hd))
  | cons a s =>
    have hs5 : s.length + 1 <= 1000 := Nat.le_trans hAl (by omega)
    repeat' ((first | refine Qw ?_ | refine Qf cS ?_ | refine Qv ?_) <;> conv => whnf)
    refine WSt.app_oneL (id := (.i (.o .h))) (ds := (aJ cV (a :: s)).flatten) (r := cV (b.brk.getD j default)) (by rfl) (by rfl) (by rfl) (by rfl) (by rfl) (by rfl) (by rw [cQ (z := 2) Fw]; rfl) (by rfl) (by rfl) (by omega) (by rfl) ?_; conv => whnf
    repeat' ((first | refine Qw ?_ | refine Qv ?_) <;> conv => whnf)
    refine Again.to (j + 1) (by omega) ⟨by omega, trivial⟩ (by show (fO (.o (.o .h)) (.o (.i .h)) (b.brk.take j)).nat <= (fO (.o (.o .h)) (.o (.i .h)) (b.brk.take (j + 1))).nat; rw [hA, hsc, List.cons_append]; exact (show 6 <= 6 by omega)) ?_
    show Shr _ (HB b (b.brk.take (j + 1)) (j + 1))
    rw [hsc, List.cons_append]
    refine Shr.of ?_ ?_ rfl rfl
    ·(repeat' first | exact Rel.e | refine Rel.some ?_ ?_ ?_ | refine Rel.none ?_ ?_ | refine Rel.ee ?_ ?_)
     all_goals show Fz _ _ _ _
     all_goals first | exact Fy
    ·show Rel _ _ ((.n (.n .e (some (xQ)) .e) (some (lK b)) (.n (.n .e (yD cV (a :: (s ++ [(b.brk.getD j default)]))) .e) (some (Hu b (wH (.i (.o .h)) 2 (a :: (s ++ [(b.brk.getD j default)]))) .ns)) .e)) : Ev.T Ev.C) _
     rw [dP, dQ]
     (repeat' first | exact Rel.e | refine Rel.some ?_ ?_ ?_ | refine Rel.none ?_ ?_ | refine Rel.ee ?_ ?_)
     all_goals first
      | exact Ro (bL b)
      | exact Ro nH
      | exact Ro (kQ b (.pu trivial) (.pu trivial))
      | exact Ro (kQ b (.ksl (Ql rfl)) (.pu trivial))
      | (refine Ro (ShC.grown (by omega) (aZ.2 fun d hd => ?_)); rcases List.mem_append.1 hd with hd | hd <;> first | exact aZ.1 (fA tK _) d hd | exact aZ.1 (tK _) d hd)
 ·obtain rfl : j = b.brk.length := by omega
  have hE := hend rfl
  cases A with
  | nil =>
    repeat' ((first | refine Qw ?_ | refine Qv ?_) <;> conv => whnf)
    refine ⟨rfl, rfl, Nat.le_of_ble_eq_true rfl, RnF.turn (z' := Lp b) (B := fun id => id.nat < 4) ?_ (fun id (h : id.nat < 1) => show id.nat < 4 by omega) (fun id h => h) (Nat.le_of_ble_eq_true rfl) hrest⟩
    refine ShrB.of ?_ ?_ rfl rfl
    ·(repeat' first | exact Rel.e | refine Rel.some ?_ ?_ ?_ | refine Rel.none ?_ ?_ | refine Rel.ee ?_ ?_)
     all_goals show Fz _ _ _ _
     all_goals first | exact Fy
    ·(repeat' first | exact Rel.e | refine Rel.some ?_ ?_ ?_ | refine Rel.none ?_ ?_ | refine Rel.ee ?_ ?_)
     ·exact Ro nH
     ·exact Ro (bL b)
     ·refine ⟨show _ < 4 by simp [Pos.nat], kQ b ?_ (.pu trivial)⟩
      rw [<- hE]
      exact .ns
  | cons a s =>
    repeat' ((first | refine Qw ?_ | refine Qv ?_) <;> conv => whnf)
    refine ⟨rfl, rfl, Nat.le_of_ble_eq_true rfl, RnF.turn (z' := Lp b) (B := fun id => id.nat < 4) ?_ (fun id (h : id.nat < 1) => show id.nat < 4 by omega) (fun id h => h) (Nat.le_of_ble_eq_true rfl) hrest⟩
    refine ShrB.of ?_ ?_ rfl rfl
    ·(repeat' first | exact Rel.e | refine Rel.some ?_ ?_ ?_ | refine Rel.none ?_ ?_ | refine Rel.ee ?_ ?_)
     all_goals show Fz _ _ _ _
     all_goals first | exact Fy
    ·(repeat' first | exact Rel.e | refine Rel.some ?_ ?_ ?_ | refine Rel.none ?_ ?_ | refine Rel.ee ?_ ?_)
     ·exact Ro nH
     ·exact Ro (bL b)
     ·refine ⟨show _ < 4 by simp [Pos.nat], kQ b ?_ (.pu trivial)⟩
      rw [<- hE]
      exact Fz.G (a :: s) (show ¬ (5 : Nat) < 4 by omega) (fun c h => h) Fw tK
theorem uF : ∀ (xs ys : List Int), xs.length = ys.length → (∀ n ∈ xs, tR .i64 n = true) → (∀ n ∈ ys, tR .i64 n = true) → BM (xs.map fun _ => .i .i64) (xs.map fun n => D.i .i64 n) (ys.map fun n => D.i .i64 n) = some (decide (xs = ys))
  | [], [], _, _, _ => by simp [BM]
  | a :: xs, b :: ys, hl, h1, h2 => by
    have ih := uF xs ys (by simpa using hl) (fun n hn => h1 n (by simp [hn])) (fun n hn => h2 n (by simp [hn]))
    have hk : qQ .i64 .i64 = true := rfl
    have w1 := h1 a (by simp)
    have w2 := h2 b (by simp)
    simp only [List.map_cons, BM, KY, hk, w1, w2, Bool.and_self, cond_true, ih, Option.some.injEq]
    rw [jP]
    by_cases h : a = b
    · by_cases h' : xs = ys <;> simp [h, h']
    · simp [h]
  | [], _ :: _, h, _, _ => by simp at h
  | _ :: _, [], h, _, _ => by simp at h
theorem WSt.eqrN {sl : T D} {ob : T C} {nx : Pos} {K : X → Prop} {lg : Option (T Bool)} {d : Pos} {x y : RX} {neg : Bool} {ks : List LK} (xs ys : List Int) (h1 : bE sl x = some (.ag (xs.map fun n => D.i .i64 n))) (h2 : bE sl y = some (.ag (ys.map fun n => D.i .i64 n))) (hk : ks = xs.map fun _ => .i .i64) (hl : xs.length = ys.length) (w1 : ∀ n ∈ xs, tR .i64 n = true) (w2 : ∀ n ∈ ys, tR .i64 n = true) {r : Bool} (hr : (bif neg then !decide (xs = ys) else decide (xs = ys)) = r) (k : eF sl ob nx lg d K (.b r)) :
    WSt (.eqr d neg ks x y) ⟨sl, ob, nx, lg⟩ K := by
  obtain ⟨k1, k2⟩ := aY k
  refine ⟨_, ?_, k2⟩
  show oC _ _ _ x y sl ob nx lg = _
  unfold oC
  rw [h1, h2]
  have e : BD ks (.ag (xs.map fun n => D.i .i64 n)) (.ag (ys.map fun n => D.i .i64 n)) = some (decide (xs = ys)) := by
    rw [hk]
    exact uF xs ys hl w1 w2
  simp only [e, bC, hr]
  exact k1
instance : Inhabited Hr := ⟨⟨0, 0, 0⟩⟩
set_option maxRecDepth 1000000
set_option maxRecDepth 100000
theorem Fg {b : Bh} (V : VW b) (t : List Int) : Bp b t = Fk (lJ b) t := by
  have hv := V.last
  have hw := V.winl
  have key : Bp b t = true ↔ Fk (lJ b) t = true := by
    rw [kG V.nt]
    unfold Bp
    simp only [Bool.and_eq_true, decide_eq_true_iff, List.all_eq_true, List.mem_range, qK]
    constructor
    · rintro ⟨h1, h2⟩
      refine ⟨by show t.length = (b.last + 1).toNat; omega, fun i hi => ?_⟩
      have hi : i < (b.last + 1).toNat := hi
      exact mN.2 ⟨h2 i (by omega), fun n hn => absurd hn (by simp [lJ])⟩
    · rintro ⟨h1, h2⟩
      have h1 : t.length = (b.last + 1).toNat := h1
      refine ⟨by omega, fun i hi => ?_⟩
      exact (mN.1 (h2 i (by show i < (b.last + 1).toNat; omega))).1
  cases h : Fk (lJ b) t with
  | true => exact key.2 h
  | false =>
    cases k : Bp b t with
    | false => rfl
    | true => rw [key.1 k] at h; cases h
theorem zP (b : Bh) (p : Int × Int) (d : Int) : ∀ k, iH (lJ b) p d k = iH b p d k
  | 0 => rfl
  | k + 1 => by
    show (iH (lJ b) p d k || wA b.brk (iQ p d (k + 1))) = (iH b p d k || wA b.brk (iQ p d (k + 1)))
    rw [zP b p d k]
theorem Hg (b : Bh) (p : Int × Int) (f : Int) (h : Nat) (d : Int) : qY (lJ b) p f h d = qY b p f h d := by
  unfold qY HC
  rw [show iH (lJ b) p d (lJ b).rch.toNat = iH b p d b.rch.toNat from zP b p d _]
  rfl
theorem Ee (b : Bh) (S : Nat → Nat → Int) (p : Int × Int) (t : List Int) : ∀ j, gB (lJ b) S p t j = gB b S p t j
  | 0 => rfl
  | j + 1 => by
    show Dr (gB (lJ b) S p t j) _ = Dr (gB b S p t j) _
    rw [Ee b S p t j, Hg]
theorem yC (b : Bh) (L : List (List Int)) (t : List Int) : zZ (lJ b) L t = zZ b L t := by
  funext r p
  exact Ee b (qN L) _ t t.length
theorem oZ {τ : Type} {H : Nat → Nat → τ} {n m : Nat} {w : List τ} (h : w ∈ jA H n m) : w.length = m ∧ ∀ x ∈ w, ∃ r p, x = H r p := by
  unfold jA at h
  obtain ⟨r, _, rfl⟩ := List.mem_map.1 h
  refine ⟨by simp, fun x hx => ?_⟩
  obtain ⟨p, _, rfl⟩ := List.mem_map.1 hx
  exact ⟨r, p, rfl⟩
structure ThF (b : Bh) : Prop where
  l1 : b.face.length ≤ 1000
  l2 : b.sun.length ≤ 1000
  l3 : b.winds.length ≤ 1000
  l4 : b.brk.length ≤ 1000
  l5 : b.nts.length ≤ 1000
  l6 : ∀ w ∈ b.winds, w.length ≤ 1000
theorem HJ {b : Bh} (h : kL b = true) : ThF b := by
  unfold kL at h
  simp only [Bool.and_eq_true, decide_eq_true_iff] at h
  obtain ⟨a1, a2, a3, a4, a5, _⟩ := h
  obtain ⟨b1, b2⟩ := sN a3
  exact ⟨by omega, by omega, by omega, by omega, by omega, fun w hw => Nat.le_trans (b2 w hw) (by decide)⟩
structure SOk (b : Bh) (F : Nat → Int) (S : Nat → Nat → Int) : Prop where
  f : ∀ r : Nat, r < b.rws.toNat → 0 ≤ F r ∧ F r ≤ 3
  s : ∀ h r : Nat, h < (b.last + 1).toNat → r < b.rws.toNat → 0 ≤ S h r ∧ S h r ≤ 3
theorem WIx.rowsM {α : Type} [Inhabited α] {f : α → List D} {l : List α} {j : Nat} {z : Int} {F : List D → Prop} (h : j < l.length) (e : z = (j : Int)) (k : F (f (l.getD j default))) : WIx (aJ f l) z F := by
  subst e
  exact WIx.rowsN h k
structure Bnd where
  sun : Int
  cl : Int
  ch : Int
  gl : Int
  gh : Int
def KZ (x : Bnd) : List D := [.i .i64 x.sun, .i .i64 x.cl, .i .i64 x.ch, .i .i64 x.gl, .i .i64 x.gh]
theorem IC (a : Bnd) : aN (KZ a) := by simp [KZ, aN, Pu]
def nK (xs : List Bnd) : List D := [.lst 5 (aJ KZ xs)]
theorem nY (xs : List Bnd) : aN (nK xs) := by
  simp only [nK, aN, Pu, and_true]
  exact eT IC xs
theorem HN (x : Hr) : PureF Tryz.prog p133.ix [.ag (fZ x)] (.i .i64 x.sun) := by
  refine PureF.run Kf (by simp) (by simp [aN, Pu, fZ]) ?_; conv => whnf
  repeat' first | ((first | refine Qz ?_ | refine Qy ?_) <;> conv => whnf) | (refine WB.tt ?_; conv => whnf) | (refine WB.ff ?_; conv => whnf)
  exact Fin.i rfl rfl
theorem FC (x : Hr) : PureF Tryz.prog p103.ix [.ag (fZ x)] (.i .i64 x.calm) := by
  refine PureF.run Kc (by simp) (by simp [aN, Pu, fZ]) ?_; conv => whnf
  repeat' first | ((first | refine Qz ?_ | refine Qy ?_) <;> conv => whnf) | (refine WB.tt ?_; conv => whnf) | (refine WB.ff ?_; conv => whnf)
  exact Fin.i rfl rfl
theorem Fo (x : Hr) : PureF Tryz.prog p105.ix [.ag (fZ x)] (.i .i64 x.good) := by
  refine PureF.run JH (by simp) (by simp [aN, Pu, fZ]) ?_; conv => whnf
  repeat' first | ((first | refine Qz ?_ | refine Qy ?_) <;> conv => whnf) | (refine WB.tt ?_; conv => whnf) | (refine WB.ff ?_; conv => whnf)
  exact Fin.i rfl rfl
def Np : List D := [.i .i64 0, .i .i64 0, .i .i64 0, .i .i64 0, .ns, .ns, .ns, .ns, .ns]
theorem IG : aN Np := by simp [Np, aN, Pu]
structure KOk (kf : Pos) (κ : Hr → Int) : Prop where
  c : ∀ x, PureF Tryz.prog kf.ix [.ag (fZ x)] (.i .i64 (κ x))
  bd : ∀ (x : Hr) (n : Int), (0 ≤ x.sun ∧ x.sun ≤ n) ∧ (0 ≤ x.calm ∧ x.calm ≤ n) ∧ (0 ≤ x.good ∧ x.good ≤ n) → 0 ≤ κ x ∧ κ x ≤ n
theorem KOk.sun : KOk p133 (fun x => x.sun) := ⟨HN, fun _ _ h => h.1⟩
theorem KOk.calm : KOk p103 (fun x => x.calm) := ⟨FC, fun _ _ h => h.2.1⟩
theorem KOk.good : KOk p105 (fun x => x.good) := ⟨Fo, fun _ _ h => h.2.2⟩
end Go.Ev
end
