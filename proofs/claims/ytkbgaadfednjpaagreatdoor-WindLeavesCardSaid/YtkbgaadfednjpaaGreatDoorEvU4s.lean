import Derived.Test.YtkbgaadfednjpaaGreatDoorEvU4h
import Derived.Test.YtkbgaadfednjpaaGreatDoorEvUIt
import Derived.Test.YtkbgaadfednjpaaGreatDoorEvUSq
import Derived.Test.YtkbgaadfednjpaaGreatDoorEvU4b
import Derived.Test.YtkbgaadfednjpaaGreatDoorEvURn
set_option linter.all false
set_option maxHeartbeats 8000000
noncomputable section
namespace Go.Ev
open Go.Proofs
set_option maxRecDepth 100000
theorem FI (b : Bh) (l1 : b.face.length <= 1000) (l2 : b.sun.length <= 1000) (l3 : b.winds.length <= 1000) (l6 : ∀ w ∈ b.winds, w.length <= 1000) : PureF Tryz.prog p28.ix [.ag (eY b)] (.i .i64 (bD b)) := by
 have cC := AT b l1 l2 l3 l6
 refine PureF.run MP (by simp) (by simp [aN, cG, Pu, aM]) ?_; conv => whnf
 repeat' ((first | refine Qw ?_ | refine Qf cC ?_ | refine Qv ?_) <;> conv => whnf)
 exact Fin.i rfl rfl
theorem zE (l : List Int) (hl : l.length <= 65536) : PureF Tryz.prog p26.ix [.lst 1 (ints l)] (.lst 1 (ints l)) := by
 have e1 := aI l
 refine PureF.run Ny (by simp) (by simp [aN, cG, Pu, aC]) ?_; conv => whnf
 repeat' ((first | refine Qw ?_ | refine Qv ?_) <;> conv => whnf)
 refine WSt.app_emp rfl rfl rfl (mL l) (by omega) (fun st => ?_); conv => whnf
 repeat' ((first | refine Qw ?_ | refine Qv ?_) <;> conv => whnf)
 exact Fin.t (.inr rfl) rfl (Frz.whole (cur := st + 1) rfl rfl (mL l) rfl (aC l))
theorem He (p : Int × Int) : PureF Tryz.prog p42.ix [.ag (cX p)] (.ag (cX p)) := by
 refine PureF.run MQ (by simp) (by simp [aN, Pu, cX]) ?_; conv => whnf
 repeat' ((first | refine Qw ?_ | refine Qv ?_) <;> conv => whnf)
 exact ⟨.inr rfl, _, rfl, .pu (by simp [one, Pu, aN, cX])⟩
theorem NE (w : List Int) : (iP w).length = 1 := rfl
theorem Ig (w : List Int) : aN (iP w) := by simp [iP, aN, Pu, aC]
def OT (L A : List (List Int)) (j : Nat) : X := ⟨(.n (.n (.n .e (some (.sl .h 0 j j 1)) .e) none .e) (some (.lst 1 (aO iP L))) (.n (.n .e (some (.i .i64 (j : Int))) .e) none .e)), .n .e (some (.cells false ((aO iP A).flatten.map fun d => Cell.o d j) (j + 1))) .e, .o .h, none⟩
theorem tZ {α : Type} {l : List α} {j : Nat} {d : α} (h : j < l.length) : l.take (j + 1) = l.take j ++ [l.getD j d] := by
 rw [List.take_succ_eq_append_getElem h]; simp [List.getD, h]
theorem FF (L : List (List Int)) (hL : L.length <= 1000) (hl : ∀ w ∈ L, w.length <= 65536) : PureF Tryz.prog p25.ix [.lst 1 (aO iP L)] (.lst 1 (aO iP L)) := by
 have e1 := aL iP L
 refine PureF.run Nk (by simp) (by simp [aN, cG, Pu, aG]) ?_; conv => whnf
 repeat' ((first | refine Qw ?_ | refine Qv ?_) <;> conv => whnf)
 refine Rn.loop (fun j : Nat => OT L (L.take j) j) (fun j => j <= L.length) (fun j => L.length - j) 0 ?_ (Nat.zero_le _) ?_
 ·refine X.le.mk ?_ ?_ (Nat.le_refl _) rfl rfl
  ·exact Lw
  ·exact Lw
 intro j hj
 have hj : j <= L.length := hj
 have hsc : j < L.length -> L.take (j + 1) = L.take j ++ [L.getD j default] := fun h => tZ h
 have hAl : (L.take j).length = j := by rw [List.length_take]; omega
 have hend : j = L.length -> L.take j = L := fun h => by rw [List.take_of_length_le (by omega)]
 generalize hA : L.take j = A at *
 conv => whnf
 repeat' ((first | refine Qw ?_ | refine Qv ?_) <;> conv => whnf)
 refine WB.dec (fun hd => ?_) (fun hd => ?_) <;> conv => whnf
 ·have hlt : j < L.length := by omega
  have cL := zE (L.getD j default) (hl _ (bA hlt))
  repeat' ((first | refine Qw ?_ | refine Qf cL ?_ | refine Qv ?_) <;> conv => whnf)
  refine WSt.app_one (id := .h) (ds := (aO iP A).flatten) (r := iP (L.getD j default)) (by rfl) (by rfl) (by rfl) (by rfl) (by rfl) (by rfl) (by rw [eI (z := 1) NE, hAl]) (by rfl) (by rfl) (by omega) (by rfl) ?_; conv => whnf
  repeat' ((first | refine Qw ?_ | refine Qv ?_) <;> conv => whnf)
  refine Again.to (j + 1) (by omega) (show j + 1 <= L.length by omega) (Nat.le_refl _) ?_
  show Shr _ (OT L (L.take (j + 1)) (j + 1))
  rw [hsc hlt]
  refine Shr.of ?_ ?_ rfl rfl
  ·(repeat' first | exact Rel.e | refine Rel.some ?_ ?_ ?_ | refine Rel.none ?_ ?_ | refine Rel.ee ?_ ?_)
   all_goals show Fz _ _ _ _
   all_goals first | exact .pu trivial | exact .ksl (Ql rfl) | exact .pu (aG _)
  ·show Rel _ _ (.n .e (some (.cells false ((aO iP (A ++ [L.getD j default])).flatten.map fun d => Cell.o d (j + 1)) (j + 1 + 1))) .e : T C) _
   rw [rL]
   (repeat' first | exact Rel.e | refine Rel.some ?_ ?_ ?_ | refine Rel.none ?_ ?_ | refine Rel.ee ?_ ?_)
   all_goals exact Ro (ShC.grown (by omega) (aS.2 fun d hd => by
    rcases List.mem_append.1 hd with hd | hd <;> first | exact aS.1 (hY Ig _) d hd | exact aS.1 (Ig _) d hd))
 ·obtain rfl : j = L.length := by omega
  repeat' ((first | refine Qw ?_ | refine Qv ?_) <;> conv => whnf)
  have hE : FzE (fun _ => False) (.n .e (some (.cells false ((aO iP A).flatten.map fun d => Cell.o d L.length) (L.length + 1))) .e) (aO iP A) (aO iP L) := by
   rw [hend rfl]; exact FzE.of (aG _)
  exact Fin.t (.inr rfl) rfl (.sl (es := aO iP A) (cs := (aO iP A).flatten.map fun d => Cell.o d L.length) (fun h => h) rfl (by rw [aL, hAl]) (fun r hr => by
   obtain ⟨m, _, rfl⟩ := List.mem_map.1 hr
   rfl) (Ot (aO iP A).flatten L.length) hE)
def yV : C := .cells false [.o (.i .i64 0) 0, .o (.i .i64 0) 0, .o (.i .i64 0) 0, .o (.i .i64 0) 0, .o .ns 0, .o .ns 0, .o .ns 0, .o .ns 0, .o .ns 0] 1
theorem oD {B : Pos -> Prop} {ob : T C} : ShC B ob yV yV := by
 refine ShC.same ?_
 (repeat' first | exact ShC.nl | refine ShC.cn ?_ ?_) <;> exact .pu trivial
def HR (b : Bh) (x y : D) : C := .cells false [.o (.i .i64 b.last) 0, .o (.i .i64 b.rws) 0, .o (.i .i64 b.pls) 0, .o (.i .i64 b.rch) 0, .o (.lst 1 (ints b.face)) 0, .o (.lst 1 (ints b.sun)) 0, .o (.lst 1 (aO iP b.winds)) 0, .o x 0, .o y 0] 1
theorem kT {B : Pos -> Prop} {ob : T C} (b : Bh) {x x' y y' : D} (hx : Fz B ob x x') (hy : Fz B ob y y') : ShC B ob (HR b x y) (HR b x' y') := by
 refine .cells fun k c' hc => ?_
 match k, hc with
 | 0, hc => cases hc; exact ⟨_, rfl, fun _ h => h, .pu trivial⟩
 | 1, hc => cases hc; exact ⟨_, rfl, fun _ h => h, .pu trivial⟩
 | 2, hc => cases hc; exact ⟨_, rfl, fun _ h => h, .pu trivial⟩
 | 3, hc => cases hc; exact ⟨_, rfl, fun _ h => h, .pu trivial⟩
 | 4, hc => cases hc; exact ⟨_, rfl, fun _ h => h, .pu (aC _)⟩
 | 5, hc => cases hc; exact ⟨_, rfl, fun _ h => h, .pu (aC _)⟩
 | 6, hc => cases hc; exact ⟨_, rfl, fun _ h => h, .pu (aG _)⟩
 | 7, hc => cases hc; exact ⟨_, rfl, fun _ h => h, hx⟩
 | 8, hc => cases hc; exact ⟨_, rfl, fun _ h => h, hy⟩
 | k + 9, hc => cases hc
def HV : RC -> RC
 | .seq _ b => b
 | c => c
def LG : RC := HV (HV (HV LN))
def MS (b : Bh) : X := ⟨(.n (.n (.n .e (some (.pt (.i .h) 0 0)) .e) (some (.pt .h 0 0)) .e) none (.n .e (some (.pt (.o .h) 0 0)) .e)), (.n (.n .e (some (yV)) .e) (some (gN b)) (.n .e (some (HR b (.lst 2 (aO cX b.brk)) .ns)) .e)), .o (.o .h), none⟩
def Ic (b : Bh) (A : List (Int × Int)) (j : Nat) : X := ⟨(.n (.n (.n .e (some (.pt (.i .h) 0 0)) .e) (some (.pt .h 0 0)) .e) none (.n (.n .e (some (.i .i64 (j : Int))) .e) (some (.pt (.o .h) 0 0)) .e)), (.n (.n .e (some (yV)) .e) (some (gN b)) (.n (.n .e (Ez cX A) .e) (some (HR b (BS (.i (.o .h)) 2 A) .ns)) .e)), kE (.o (.o .h)) (.o (.i .h)) A, none⟩
def Ih (b : Bh) (A : List (Int × Int)) (j : Nat) : X := ⟨(.n (.n (.n .e (some (.pt (.i .h) 0 0)) .e) (some (.pt .h 0 0)) (.n .e (some (.i .i64 (j : Int))) .e)) none (.n .e (some (.pt (.o .h) 0 0)) .e)), (.n (.n .e (some (yV)) .e) (some (gN b)) (.n (.n .e (Ez cX A) .e) (some (HR b (.lst 2 (aO cX b.brk)) (BS (.i (.o .h)) 2 A))) .e)), kE (.o (.o .h)) (.o (.i .h)) A, none⟩
theorem DX (b : Bh) (l5 : b.nts.length <= 1000) : Rn Tryz.prog 68 LG (MS b) (Fin Ju (.ag (eY b))) := by
 have e2 := aL cX b.nts
 conv => whnf
 repeat' ((first | refine Qw ?_ | refine Qv ?_) <;> conv => whnf)
 refine Rn.loop (fun j : Nat => Ih b (b.nts.take j) j) (fun j => j <= b.nts.length /\ True) (fun j => b.nts.length - j) 0 ?_ ?_ ?_
 ·refine X.le.mk ?_ ?_ (Nat.le_refl _) rfl rfl
  ·show T.le ((.n (.n (.n .e (some (.pt (.i .h) 0 0)) .e) (some (.pt .h 0 0)) (.n .e (some (.i .i64 0)) .e)) none (.n .e (some (.pt (.o .h) 0 0)) .e)) : Ev.T D) _
   exact Lw
  ·exact Lw
 ·exact ⟨Nat.zero_le _, trivial⟩
 rintro j ⟨hj, _⟩
 have hsc : j < b.nts.length -> b.nts.take (j + 1) = b.nts.take j ++ [b.nts.getD j default] := fun h => tZ h
 have hAl : (b.nts.take j).length <= j := by rw [List.length_take]; omega
 have hend : j = b.nts.length -> b.nts.take j = b.nts := fun h => by rw [List.take_of_length_le (by omega)]
 generalize hA : b.nts.take j = A at *
 conv => whnf
 repeat' ((first | refine Qw ?_ | refine Qv ?_) <;> conv => whnf)
 refine WB.dec (fun hd => ?_) (fun hd => ?_) <;> conv => whnf
 ·have hlt : j < b.nts.length := by omega
  have hsc := hsc hlt
  cases A with
  | nil =>
    repeat' ((first | refine Qw ?_ | refine Qv ?_) <;> conv => whnf)
    refine WSt.app_firstL (r := cX (b.nts.getD j default)) (by rfl) (.inl rfl) (by rfl) (by rfl) (by rfl) (by rfl) ?_; conv => whnf
    repeat' ((first | refine Qw ?_ | refine Qv ?_) <;> conv => whnf)
    refine Again.to (j + 1) (by omega) ⟨by omega, trivial⟩ (by show (kE (.o (.o .h)) (.o (.i .h)) (b.nts.take j)).nat <= (kE (.o (.o .h)) (.o (.i .h)) (b.nts.take (j + 1))).nat; rw [hA, hsc]; exact (show 4 <= 6 by omega)) ?_
    show Shr _ (Ih b (b.nts.take (j + 1)) (j + 1))
    rw [hsc]
    refine Shr.of ?_ ?_ rfl rfl
    ·(repeat' first | exact Rel.e | refine Rel.some ?_ ?_ ?_ | refine Rel.none ?_ ?_ | refine Rel.ee ?_ ?_)
     all_goals show Fz _ _ _ _
     all_goals first | exact Fy
    ·(repeat' first | exact Rel.e | refine Rel.some ?_ ?_ ?_ | refine Rel.none ?_ ?_ | refine Rel.ee ?_ ?_)
     all_goals first
      | exact Ro (dL b)
      | exact Ro oD
      | exact Ro (kT b (.pu (aF _)) (.pu trivial))
      | exact Ro (kT b (.pu (aF _)) (.ksl (Ql rfl)))
      | (refine Ro (ShC.same fun c hc => ?_); obtain ⟨d, hd, rfl⟩ := List.mem_map.1 hc; exact .pu (aS.1 (gB _) d hd))
  | cons a s =>
    have hs5 : s.length + 1 <= 1000 := Nat.le_trans hAl (by omega)
    repeat' ((first | refine Qw ?_ | refine Qv ?_) <;> conv => whnf)
    refine WSt.app_oneL (id := (.i (.o .h))) (ds := (aO cX (a :: s)).flatten) (r := cX (b.nts.getD j default)) (by rfl) (by rfl) (by rfl) (by rfl) (by rfl) (by rfl) (by rw [eI (z := 2) Bo]; rfl) (by rfl) (by rfl) (by omega) (by rfl) ?_; conv => whnf
    repeat' ((first | refine Qw ?_ | refine Qv ?_) <;> conv => whnf)
    refine Again.to (j + 1) (by omega) ⟨by omega, trivial⟩ (by show (kE (.o (.o .h)) (.o (.i .h)) (b.nts.take j)).nat <= (kE (.o (.o .h)) (.o (.i .h)) (b.nts.take (j + 1))).nat; rw [hA, hsc, List.cons_append]; exact (show 6 <= 6 by omega)) ?_
    show Shr _ (Ih b (b.nts.take (j + 1)) (j + 1))
    rw [hsc, List.cons_append]
    refine Shr.of ?_ ?_ rfl rfl
    ·(repeat' first | exact Rel.e | refine Rel.some ?_ ?_ ?_ | refine Rel.none ?_ ?_ | refine Rel.ee ?_ ?_)
     all_goals show Fz _ _ _ _
     all_goals first | exact Fy
    ·show Rel _ _ ((.n (.n .e (some (yV)) .e) (some (gN b)) (.n (.n .e (Ez cX (a :: (s ++ [(b.nts.getD j default)]))) .e) (some (HR b (.lst 2 (aO cX b.brk)) (BS (.i (.o .h)) 2 (a :: (s ++ [(b.nts.getD j default)]))))) .e)) : Ev.T Ev.C) _
     rw [gV, hH]
     (repeat' first | exact Rel.e | refine Rel.some ?_ ?_ ?_ | refine Rel.none ?_ ?_ | refine Rel.ee ?_ ?_)
     all_goals first
      | exact Ro (dL b)
      | exact Ro oD
      | exact Ro (kT b (.pu (aF _)) (.pu trivial))
      | exact Ro (kT b (.pu (aF _)) (.ksl (Ql rfl)))
      | (refine Ro (ShC.grown (by omega) (aS.2 fun d hd => ?_)); rcases List.mem_append.1 hd with hd | hd <;> first | exact aS.1 (hY gB _) d hd | exact aS.1 (gB _) d hd)
 ·obtain rfl : j = b.nts.length := by omega
  have hE := hend rfl
  cases A with
  | nil =>
    repeat' ((first | refine Qw ?_ | refine Qv ?_) <;> conv => whnf)
    refine ⟨.inr rfl, _, rfl, .ag ?_⟩
    unfold eY
    rw [<- hE]
    exact .cons (.pu trivial) (.cons (.pu trivial) (.cons (.pu trivial) (.cons (.pu trivial) (.cons (.pu (aC _)) (.cons (.pu (aC _)) (.cons (.pu (aG _)) (.cons (.pu (aF _)) (.cons .ns .nil))))))))
  | cons a s =>
    repeat' ((first | refine Qw ?_ | refine Qv ?_) <;> conv => whnf)
    refine ⟨.inr rfl, _, rfl, .ag ?_⟩
    unfold eY
    rw [<- hE]
    exact .cons (.pu trivial) (.cons (.pu trivial) (.cons (.pu trivial) (.cons (.pu trivial) (.cons (.pu (aC _)) (.cons (.pu (aC _)) (.cons (.pu (aG _)) (.cons (.pu (aF _)) (.cons (Fz.G (a :: s) (fun h => h) (fun c h => h) Bo gB) .nil))))))))
theorem FO (b : Bh) (l1 : b.face.length <= 1000) (l2 : b.sun.length <= 1000) (l3 : b.winds.length <= 1000) (l4 : b.brk.length <= 1000) (l5 : b.nts.length <= 1000) (l6 : ∀ w ∈ b.winds, w.length <= 1000) : PureF Tryz.prog p24.ix [.ag (eY b)] (.ag (eY b)) := by
 have e1 := aL cX b.brk
 have hrest := DX b l5
 have c1 := zE b.face (by omega)
 have c2 := zE b.sun (by omega)
 have c3 := FF b.winds l3 (fun w h => Nat.le_trans (l6 w h) (by decide))
 refine PureF.run On (by simp) (by simp [aN, cG, Pu, aM]) ?_; conv => whnf
 refine Rn.far rfl ?_
 refine RnF.seq ?_; conv => whnf
 repeat' ((first | refine Qw ?_ | refine Qv ?_) <;> conv => whnf)
 refine ⟨rfl, rfl, Nat.le_of_ble_eq_true rfl, ?_⟩
 refine RnF.seq ?_; conv => whnf
 repeat' ((first | refine Qw ?_ | refine Qf c1 ?_ | refine Qf c2 ?_ | refine Qf c3 ?_ | refine Qv ?_) <;> conv => whnf)
 refine ⟨rfl, rfl, Nat.le_of_ble_eq_true rfl, ?_⟩
 refine RnF.seq ?_; conv => whnf
 repeat' ((first | refine Qw ?_ | refine Qv ?_) <;> conv => whnf)
 refine Rn.loop (fun j : Nat => Ic b (b.brk.take j) j) (fun j => j <= b.brk.length /\ True) (fun j => b.brk.length - j) 0 ?_ ?_ ?_
 ·refine X.le.mk ?_ ?_ (Nat.le_refl _) rfl rfl
  ·show T.le ((.n (.n (.n .e (some (.pt (.i .h) 0 0)) .e) (some (.pt .h 0 0)) .e) none (.n (.n .e (some (.i .i64 0)) .e) (some (.pt (.o .h) 0 0)) .e)) : Ev.T D) _
   exact Lw
  ·exact Lw
 ·exact ⟨Nat.zero_le _, trivial⟩
 rintro j ⟨hj, _⟩
 have hsc : j < b.brk.length -> b.brk.take (j + 1) = b.brk.take j ++ [b.brk.getD j default] := fun h => tZ h
 have hAl : (b.brk.take j).length <= j := by rw [List.length_take]; omega
 have hend : j = b.brk.length -> b.brk.take j = b.brk := fun h => by rw [List.take_of_length_le (by omega)]
 generalize hA : b.brk.take j = A at *
 conv => whnf
 repeat' ((first | refine Qw ?_ | refine Qv ?_) <;> conv => whnf)
 refine WB.dec (fun hd => ?_) (fun hd => ?_) <;> conv => whnf
 ·have hlt : j < b.brk.length := by omega
  have hsc := hsc hlt
  have cS := He (b.brk.getD j default)
  cases A with
  | nil =>
    repeat' ((first | refine Qw ?_ | refine Qf cS ?_ | refine Qv ?_) <;> conv => whnf)
    refine WSt.app_firstL (r := cX (b.brk.getD j default)) (by rfl) (.inl rfl) (by rfl) (by rfl) (by rfl) (by rfl) ?_; conv => whnf
    repeat' ((first | refine Qw ?_ | refine Qv ?_) <;> conv => whnf)
    refine Again.to (j + 1) (by omega) ⟨by omega, trivial⟩ (by show (kE (.o (.o .h)) (.o (.i .h)) (b.brk.take j)).nat <= (kE (.o (.o .h)) (.o (.i .h)) (b.brk.take (j + 1))).nat; rw [hA, hsc]; exact (show 4 <= 6 by omega)) ?_
    show Shr _ (Ic b (b.brk.take (j + 1)) (j + 1))
    rw [hsc]
    refine Shr.of ?_ ?_ rfl rfl
    ·(repeat' first | exact Rel.e | refine Rel.some ?_ ?_ ?_ | refine Rel.none ?_ ?_ | refine Rel.ee ?_ ?_)
     all_goals show Fz _ _ _ _
     all_goals first | exact Fy
    ·(repeat' first | exact Rel.e | refine Rel.some ?_ ?_ ?_ | refine Rel.none ?_ ?_ | refine Rel.ee ?_ ?_)
     all_goals first
      | exact Ro (dL b)
      | exact Ro oD
      | exact Ro (kT b (.pu trivial) (.pu trivial))
      | exact Ro (kT b (.ksl (Ql rfl)) (.pu trivial))
      | (refine Ro (ShC.same fun c hc => ?_); obtain ⟨d, hd, rfl⟩ := List.mem_map.1 hc; exact .pu (aS.1 (gB _) d hd))
  | cons a s =>
    have hs5 : s.length + 1 <= 1000 := Nat.le_trans hAl (by omega)
    repeat' ((first | refine Qw ?_ | refine Qf cS ?_ | refine Qv ?_) <;> conv => whnf)
    refine WSt.app_oneL (id := (.i (.o .h))) (ds := (aO cX (a :: s)).flatten) (r := cX (b.brk.getD j default)) (by rfl) (by rfl) (by rfl) (by rfl) (by rfl) (by rfl) (by rw [eI (z := 2) Bo]; rfl) (by rfl) (by rfl) (by omega) (by rfl) ?_; conv => whnf
    repeat' ((first | refine Qw ?_ | refine Qv ?_) <;> conv => whnf)
    refine Again.to (j + 1) (by omega) ⟨by omega, trivial⟩ (by show (kE (.o (.o .h)) (.o (.i .h)) (b.brk.take j)).nat <= (kE (.o (.o .h)) (.o (.i .h)) (b.brk.take (j + 1))).nat; rw [hA, hsc, List.cons_append]; exact (show 6 <= 6 by omega)) ?_
    show Shr _ (Ic b (b.brk.take (j + 1)) (j + 1))
    rw [hsc, List.cons_append]
    refine Shr.of ?_ ?_ rfl rfl
    ·(repeat' first | exact Rel.e | refine Rel.some ?_ ?_ ?_ | refine Rel.none ?_ ?_ | refine Rel.ee ?_ ?_)
     all_goals show Fz _ _ _ _
     all_goals first | exact Fy
    ·show Rel _ _ ((.n (.n .e (some (yV)) .e) (some (gN b)) (.n (.n .e (Ez cX (a :: (s ++ [(b.brk.getD j default)]))) .e) (some (HR b (BS (.i (.o .h)) 2 (a :: (s ++ [(b.brk.getD j default)]))) .ns)) .e)) : Ev.T Ev.C) _
     rw [gV, hH]
     (repeat' first | exact Rel.e | refine Rel.some ?_ ?_ ?_ | refine Rel.none ?_ ?_ | refine Rel.ee ?_ ?_)
     all_goals first
      | exact Ro (dL b)
      | exact Ro oD
      | exact Ro (kT b (.pu trivial) (.pu trivial))
      | exact Ro (kT b (.ksl (Ql rfl)) (.pu trivial))
      | (refine Ro (ShC.grown (by omega) (aS.2 fun d hd => ?_)); rcases List.mem_append.1 hd with hd | hd <;> first | exact aS.1 (hY gB _) d hd | exact aS.1 (gB _) d hd)
 ·obtain rfl : j = b.brk.length := by omega
  have hE := hend rfl
  cases A with
  | nil =>
    repeat' ((first | refine Qw ?_ | refine Qv ?_) <;> conv => whnf)
    refine ⟨rfl, rfl, Nat.le_of_ble_eq_true rfl, RnF.turn (z' := MS b) (B := fun id => id.nat < 4) ?_ (fun id (h : id.nat < 1) => show id.nat < 4 by omega) (fun id h => h) (Nat.le_of_ble_eq_true rfl) hrest⟩
    refine ShrB.of ?_ ?_ rfl rfl
    ·(repeat' first | exact Rel.e | refine Rel.some ?_ ?_ ?_ | refine Rel.none ?_ ?_ | refine Rel.ee ?_ ?_)
     all_goals show Fz _ _ _ _
     all_goals first | exact Fy
    ·(repeat' first | exact Rel.e | refine Rel.some ?_ ?_ ?_ | refine Rel.none ?_ ?_ | refine Rel.ee ?_ ?_)
     ·exact Ro oD
     ·exact Ro (dL b)
     ·refine ⟨show _ < 4 by simp [Pos.nat], kT b ?_ (.pu trivial)⟩
      rw [<- hE]
      exact .ns
  | cons a s =>
    repeat' ((first | refine Qw ?_ | refine Qv ?_) <;> conv => whnf)
    refine ⟨rfl, rfl, Nat.le_of_ble_eq_true rfl, RnF.turn (z' := MS b) (B := fun id => id.nat < 4) ?_ (fun id (h : id.nat < 1) => show id.nat < 4 by omega) (fun id h => h) (Nat.le_of_ble_eq_true rfl) hrest⟩
    refine ShrB.of ?_ ?_ rfl rfl
    ·(repeat' first | exact Rel.e | refine Rel.some ?_ ?_ ?_ | refine Rel.none ?_ ?_ | refine Rel.ee ?_ ?_)
     all_goals show Fz _ _ _ _
     all_goals first | exact Fy
    ·(repeat' first | exact Rel.e | refine Rel.some ?_ ?_ ?_ | refine Rel.none ?_ ?_ | refine Rel.ee ?_ ?_)
     ·exact Ro oD
     ·exact Ro (dL b)
     ·refine ⟨show _ < 4 by simp [Pos.nat], kT b ?_ (.pu trivial)⟩
      rw [<- hE]
      exact Fz.G (a :: s) (show ¬ (5 : Nat) < 4 by omega) (fun c h => h) Bo gB
instance : Inhabited Hr := ⟨⟨0, 0, 0⟩⟩
set_option maxRecDepth 1000000
set_option maxRecDepth 100000
theorem zO {b : Bh} (V : VW b) (t : List Int) : rH b t = Gt (IC b) t := by
  have hv := V.last
  have hw := V.winl
  have key : rH b t = true ↔ Gt (IC b) t = true := by
    rw [uV V.nt]
    unfold rH
    simp only [Bool.and_eq_true, decide_eq_true_iff, List.all_eq_true, List.mem_range, rX]
    constructor
    · rintro ⟨h1, h2⟩
      refine ⟨by show t.length = (b.last + 1).toNat; omega, fun i hi => ?_⟩
      have hi : i < (b.last + 1).toNat := hi
      exact hN.2 ⟨h2 i (by omega), fun n hn => absurd hn (by simp [IC])⟩
    · rintro ⟨h1, h2⟩
      have h1 : t.length = (b.last + 1).toNat := h1
      refine ⟨by omega, fun i hi => ?_⟩
      exact (hN.1 (h2 i (by show i < (b.last + 1).toNat; omega))).1
  cases h : Gt (IC b) t with
  | true => exact key.2 h
  | false =>
    cases k : rH b t with
    | false => rfl
    | true => rw [key.1 k] at h; cases h
structure ThF (b : Bh) : Prop where
  l1 : b.face.length ≤ 1000
  l2 : b.sun.length ≤ 1000
  l3 : b.winds.length ≤ 1000
  l4 : b.brk.length ≤ 1000
  l5 : b.nts.length ≤ 1000
  l6 : ∀ w ∈ b.winds, w.length ≤ 1000
theorem Ik {b : Bh} (h : qG b = true) : ThF b := by
  unfold qG at h
  simp only [Bool.and_eq_true, decide_eq_true_iff] at h
  obtain ⟨a1, a2, a3, a4, a5, _⟩ := h
  obtain ⟨b1, b2⟩ := uC a3
  exact ⟨by omega, by omega, by omega, by omega, by omega, fun w hw => Nat.le_trans (b2 w hw) (by decide)⟩
structure SOk (b : Bh) (F : Nat → Int) (S : Nat → Nat → Int) : Prop where
  f : ∀ r : Nat, r < b.rws.toNat → 0 ≤ F r ∧ F r ≤ 3
  s : ∀ h r : Nat, h < (b.last + 1).toNat → r < b.rws.toNat → 0 ≤ S h r ∧ S h r ≤ 3
structure Bnd where
  sun : Int
  cl : Int
  ch : Int
  gl : Int
  gh : Int
def MG (x : Bnd) : List D := [.i .i64 x.sun, .i .i64 x.cl, .i .i64 x.ch, .i .i64 x.gl, .i .i64 x.gh]
theorem JD (a : Bnd) : aN (MG a) := by simp [MG, aN, Pu]
def oG (xs : List Bnd) : List D := [.lst 5 (aO MG xs)]
theorem oT (xs : List Bnd) : aN (oG xs) := by
  simp only [oG, aN, Pu, and_true]
  exact fP JD xs
theorem Is (x : Hr) : PureF Tryz.prog p133.ix [.ag (DJ x)] (.i .i64 x.sun) := by
  refine PureF.run LF (by simp) (by simp [aN, Pu, DJ]) ?_; conv => whnf
  repeat' first | ((first | refine Qz ?_ | refine Qy ?_) <;> conv => whnf) | (refine WB.tt ?_; conv => whnf) | (refine WB.ff ?_; conv => whnf)
  exact Fin.i rfl rfl
theorem FB (x : Hr) : PureF Tryz.prog p103.ix [.ag (DJ x)] (.i .i64 x.calm) := by
  refine PureF.run Lz (by simp) (by simp [aN, Pu, DJ]) ?_; conv => whnf
  repeat' first | ((first | refine Qz ?_ | refine Qy ?_) <;> conv => whnf) | (refine WB.tt ?_; conv => whnf) | (refine WB.ff ?_; conv => whnf)
  exact Fin.i rfl rfl
theorem Fk (x : Hr) : PureF Tryz.prog p105.ix [.ag (DJ x)] (.i .i64 x.good) := by
  refine PureF.run KR (by simp) (by simp [aN, Pu, DJ]) ?_; conv => whnf
  repeat' first | ((first | refine Qz ?_ | refine Qy ?_) <;> conv => whnf) | (refine WB.tt ?_; conv => whnf) | (refine WB.ff ?_; conv => whnf)
  exact Fin.i rfl rfl
def OL : List D := [.i .i64 0, .i .i64 0, .i .i64 0, .i .i64 0, .ns, .ns, .ns, .ns, .ns]
theorem JG : aN OL := by simp [OL, aN, Pu]
structure KOk (kf : Pos) (κ : Hr → Int) : Prop where
  c : ∀ x, PureF Tryz.prog kf.ix [.ag (DJ x)] (.i .i64 (κ x))
  bd : ∀ (x : Hr) (n : Int), (0 ≤ x.sun ∧ x.sun ≤ n) ∧ (0 ≤ x.calm ∧ x.calm ≤ n) ∧ (0 ≤ x.good ∧ x.good ≤ n) → 0 ≤ κ x ∧ κ x ≤ n
theorem KOk.sun : KOk p133 (fun x => x.sun) := ⟨Is, fun _ _ h => h.1⟩
theorem KOk.calm : KOk p103 (fun x => x.calm) := ⟨FB, fun _ _ h => h.2.1⟩
theorem KOk.good : KOk p105 (fun x => x.good) := ⟨Fk, fun _ _ h => h.2.2⟩
theorem Fo {B : Pos → Prop} {ob : T C} {d : D} (h : Pu d := by simp [Cell.d, Pu, aN, cG, aC, aF, aG, aM]; done) : Fz B ob d d := .pu h
theorem Ja (d l : Nat) : Int.tmod (d : Int) (l : Int) = ((d % l : Nat) : Int) := by
  rw [Int.tmod_eq_emod_of_nonneg (by omega), Int.natCast_emod]
theorem KL (d l : Nat) : Int.tdiv (d : Int) (l : Int) = ((d / l : Nat) : Int) := by
  rw [Int.tdiv_eq_ediv_of_nonneg (by omega), Int.natCast_ediv]
def xX (ws : List (List Int)) (m : Nat) : Nat → Nat
  | 0 => m
  | j + 1 => xX ws m j / (ws.getD j default).length
theorem yT (ws : List (List Int)) (m : Nat) : ∀ j, xX ws m j ≤ m
  | 0 => Nat.le_refl _
  | j + 1 => Nat.le_trans (Nat.div_le_self _ _) (yT ws m j)
def sD (ws : List (List Int)) (m : Nat) (j : Nat) : List Int := (List.range j).map fun i => (ws.getD i default).getD (xX ws m i % (ws.getD i default).length) 0
theorem EF (ws : List (List Int)) (m j : Nat) : sD ws m (j + 1) = sD ws m j ++ [(ws.getD j default).getD (xX ws m j % (ws.getD j default).length) 0] := by
  unfold sD; rw [List.range_succ, List.map_append]; rfl
theorem uX (ws : List (List Int)) (m j : Nat) : (sD ws m j).length = j := by simp [sD]
set_option maxHeartbeats 2000000 in
theorem JT (b : Bh) (m : Nat) (hm : m ≤ 100000) (h3 : b.winds.length ≤ 1000) (hw : ∀ w ∈ b.winds, 0 < w.length ∧ w.length ≤ 1000) : PureF Tryz.prog p68.ix [.ag (eY b), .i .i64 (m : Int)] (.lst 1 (ints (sD b.winds m b.winds.length))) := by
  have e1 := aL iP b.winds
  refine PureF.run Oa (by simp) (by simp [aN, cG, Pu, aM]) ?_; conv => whnf
  repeat' first | ((first | refine Qz ?_ | refine Qy ?_) <;> conv => whnf) | (refine WB.tt ?_; conv => whnf) | (refine WB.ff ?_; conv => whnf)
  refine Rn.loopV [(p2, none), (p6, none), (p7, none), (p8, none), (p9, none), (bI, none), (bH, none), (bM, none), (bF, none), (bO, none), (bQ, none), (bZ, none), (bY, none), (cJ, none), (cV, none), (p20, none), (p21, none), (p22, none), (dH, none), (p24, none), (p25, none), (p26, none), (fM, none), (p28, none), (p29, none), (gU, none), (jG, none), (kP, none), (lI, none), (oU, none)] (fun j : Nat => [(p2, some (.i .i64 (xX b.winds m j : Int))), (p6, some (BS (.i .h) 1 (sD b.winds m j))), (p7, some (.i .i64 (j : Int)))]) (fun j : Nat => [((.i .h), Ez vI (sD b.winds m j))]) (fun j : Nat => kE (.o .h) (.o (.o .h)) (sD b.winds m j)) (fun j : Nat => j ≤ b.winds.length) (fun j : Nat => b.winds.length - j) 0 ?_ ?_ ?_
  · conv => whnf
    (refine X.le.mk ?_ ?_ (Nat.le_refl _) rfl rfl) <;> (repeat' first | exact T.le_e _ | refine T.le_some ?_ rfl ?_ | refine T.le_none ?_ ?_ | refine T.le_ee ?_ ?_)
  rotate_left
  intro xl1 hxl1
  rotate_right
  · exact Nat.zero_le _
  intro j hj
  have hj : j ≤ b.winds.length := hj
  have hsc0 := EF b.winds m j
  have hAl : (sD b.winds m j).length ≤ j := by rw [uX]; exact Nat.le_refl _
  have hd := yT b.winds m j
  have hz : xX b.winds m (j + 1) = xX b.winds m j / (b.winds.getD j default).length := rfl
  have hend : j = b.winds.length → sD b.winds m j = sD b.winds m b.winds.length := fun h => by rw [← h]
  generalize hA : sD b.winds m j = A at *
  generalize hQ : xX b.winds m j = q at *
  conv => whnf
  repeat' first | ((first | refine Qz ?_ | refine Qy ?_) <;> conv => whnf) | (refine WB.tt ?_; conv => whnf) | (refine WB.ff ?_; conv => whnf)
  refine WB.dec (fun hd2 => ?_) (fun hd2 => ?_) <;> conv => whnf
  · have hlt : j < b.winds.length := by omega
    have hsc := hsc0
    obtain ⟨w1, w2⟩ := hw _ (bA (d := default) hlt)
    have e2 := aI (b.winds.getD j default)
    have hq1 : Int.tdiv (q : Int) ((ints (b.winds.getD j default)).length : Int) = ((xX b.winds m (j + 1) : Nat) : Int) := by rw [e2, KL, hz]
    have hq2 := yT b.winds m (j + 1)
    have hm2 : q % (b.winds.getD j default).length < (b.winds.getD j default).length := Nat.mod_lt _ w1
    have hq3 : Int.tmod (q : Int) ((ints (b.winds.getD j default)).length : Int) = ((q % (b.winds.getD j default).length : Nat) : Int) := by rw [e2, Ja]
    cases A with
    | nil =>
      repeat' first | ((first | refine Qz ?_ | refine WIx.intsE hq3 hm2 ?_ | refine Qy ?_) <;> conv => whnf) | (refine WB.tt ?_; conv => whnf) | (refine WB.ff ?_; conv => whnf)
      refine WSt.app_firstL (r := vI ((b.winds.getD j default).getD (q % (b.winds.getD j default).length) 0)) (by rfl) (.inl rfl) (by rfl) (by rfl) (by rfl) (by rfl) ?_; conv => whnf
      repeat' first | ((first | refine Qz ?_ | refine And.intro (show InR _ _ by rw [hq1]; exact InR.i64 (by omega) (by omega)) ?_ | refine Qy ?_) <;> conv => whnf) | (refine WB.tt ?_; conv => whnf) | (refine WB.ff ?_; conv => whnf)
      refine AgainB.v (j + 1) (by omega) (show j + 1 ≤ b.winds.length by omega) (by show Pos.nat _ ≤ Pos.nat _; simp only [hA, hsc, kE, List.cons_append, List.nil_append] <;> decide) (by assumption) ?_
      rw [hsc]
      conv => whnf
      refine Shr.of ?_ ?_ rfl rfl
      · (repeat' first | exact Rel.e | refine Rel.some ?_ ?_ ?_ | refine Rel.none ?_ ?_ | refine Rel.ee ?_ ?_)
        all_goals show Fz _ _ _ _
        all_goals first | exact Fq | exact Fz.i hq1 | exact Fo
      · (repeat' first | exact Rel.e | refine Rel.some ?_ ?_ ?_ | refine Rel.none ?_ ?_ | refine Rel.ee ?_ ?_)
        all_goals refine xH ?_
        all_goals first | exact ShC.na oO _ | exact Sq | (refine ShC.same ?_; (repeat' first | exact ShC.nl | refine ShC.cn ?_ ?_) <;> first | exact Fq | exact Fz.i hq1 | exact Fo)
    | cons a s =>
      have hs5 : s.length + 1 ≤ 1000 := Nat.le_trans hAl (by omega)
      repeat' first | ((first | refine Qz ?_ | refine WIx.intsE hq3 hm2 ?_ | refine Qy ?_) <;> conv => whnf) | (refine WB.tt ?_; conv => whnf) | (refine WB.ff ?_; conv => whnf)
      refine WSt.app_oneL (id := (.i .h)) (ds := (aO vI (a :: s)).flatten) (r := vI ((b.winds.getD j default).getD (q % (b.winds.getD j default).length) 0)) (by rfl) (by rfl) (by rfl) (by rfl) (by rfl) (by rfl) (by rw [eI (z := 1) Bj]; rfl) (by rfl) (by rfl) (by omega) (by rfl) ?_; conv => whnf
      repeat' first | ((first | refine Qz ?_ | refine And.intro (show InR _ _ by rw [hq1]; exact InR.i64 (by omega) (by omega)) ?_ | refine Qy ?_) <;> conv => whnf) | (refine WB.tt ?_; conv => whnf) | (refine WB.ff ?_; conv => whnf)
      refine AgainB.v (j + 1) (by omega) (show j + 1 ≤ b.winds.length by omega) (by show Pos.nat _ ≤ Pos.nat _; simp only [hA, hsc, kE, List.cons_append, List.nil_append] <;> decide) (by assumption) ?_
      rw [hsc, List.cons_append]
      conv => whnf
      (try rw [gV])
      (try rw [hH])
      refine Shr.of ?_ ?_ rfl rfl
      · (repeat' first | exact Rel.e | refine Rel.some ?_ ?_ ?_ | refine Rel.none ?_ ?_ | refine Rel.ee ?_ ?_)
        all_goals show Fz _ _ _ _
        all_goals first | exact Fq | exact Fz.i hq1 | exact Fo
      · (repeat' first | exact Rel.e | refine Rel.some ?_ ?_ ?_ | refine Rel.none ?_ ?_ | refine Rel.ee ?_ ?_)
        all_goals refine xH ?_
        all_goals first | exact ShC.ca oO _ _ | exact Sq | (refine ShC.same ?_; (repeat' first | exact ShC.nl | refine ShC.cn ?_ ?_) <;> first | exact Fq | exact Fz.i hq1 | exact Fo)
  · repeat' first | ((first | refine Qz ?_ | refine Qy ?_) <;> conv => whnf) | (refine WB.tt ?_; conv => whnf) | (refine WB.ff ?_; conv => whnf)
    rw [← hend (by omega)]
    exact Fin.t (.inr rfl) rfl (Fz.G A (fun h => h) (fun c h => h) Bj oO)
def gL (b : Bh) (m : Nat) : List Int := sD b.winds m b.winds.length
def IN (b : Bh) (j : Nat) : List (List Int) := ((List.range j).map (gL b)).filter (Dv b)
def fE (b : Bh) : Nat := (gA b.winds b.winds.length).toNat
def BB (b : Bh) : List (List Int) := IN b (fE b)
theorem VW.win {b : Bh} (V : VW b) (l6 : ∀ w ∈ b.winds, w.length ≤ 1000) : ∀ w ∈ b.winds, 0 < w.length ∧ w.length ≤ 1000 := fun w hw => ⟨(iR.1 (List.all_eq_true.1 V.wins _ hw)).2.1, l6 w hw⟩
structure Thn (b : Bh) : Prop where
  f : ThF b
  m : bD b = 0 → 0 ≤ gA b.winds b.winds.length ∧ gA b.winds b.winds.length ≤ 80
  w7 : b.winds.length ≤ 7
  w5 : ∀ w ∈ b.winds, w.length ≤ 5
theorem GW {b : Bh} (h : qG b = true) : Thn b := by
  have F := Ik h
  unfold qG at h
  simp only [Bool.and_eq_true, Bool.or_eq_true, decide_eq_true_iff] at h
  obtain ⟨a1, a2, a3, a4, a5, a6⟩ := h
  obtain ⟨b1, b2⟩ := uC a3
  refine ⟨F, fun hf => ?_, b1, b2⟩
  rcases a6 with a6 | a6
  · exact absurd hf a6
  · exact ⟨(uG b2 _ (Nat.le_refl _)).1, a6⟩
def Pf (lo hi : Int) : List D := [.i .i64 lo, .i .i64 hi]
theorem qL (lo hi : Int) : aN (Pf lo hi) := ⟨trivial, trivial, trivial⟩
instance : Inhabited Hr := ⟨⟨0, 0, 0⟩⟩
theorem IsMn.congr {l m : List Int} {a : Int} (h : IsMn l a) (k : ∀ x, x ∈ l ↔ x ∈ m) : IsMn m a := ⟨(k a).1 h.1, fun x hx => h.2 x ((k x).2 hx)⟩
theorem IsMx.congr {l m : List Int} {a : Int} (h : IsMx l a) (k : ∀ x, x ∈ l ↔ x ∈ m) : IsMx m a := ⟨(k a).1 h.1, fun x hx => h.2 x ((k x).2 hx)⟩
theorem wT (w : List Int) (ws : List (List Int)) (m : Nat) : ∀ j, xX (w :: ws) m (j + 1) = xX ws (m / w.length) j
  | 0 => rfl
  | j + 1 => by
    show xX (w :: ws) m (j + 1) / ((w :: ws).getD (j + 1) default).length = xX ws (m / w.length) j / (ws.getD j default).length
    rw [wT w ws m j]; rfl
theorem Ca (w : List Int) (ws : List (List Int)) (m j : Nat) : sD (w :: ws) m (j + 1) = w.getD (m % w.length) 0 :: sD ws (m / w.length) j := by
  unfold sD
  rw [List.range_succ_eq_map, List.map_cons, List.map_map]
  congr 1
  refine List.map_congr_left fun i _ => ?_
  show ((w :: ws).getD (i + 1) default).getD (xX (w :: ws) m (i + 1) % ((w :: ws).getD (i + 1) default).length) 0 = _
  rw [wT]; rfl
def ES : List (List Int) → Nat
  | [] => 1
  | w :: ws => w.length * ES ws
theorem tM (w : List Int) (ws : List (List Int)) : ∀ j, gA (w :: ws) (j + 1) = (w.length : Int) * gA ws j
  | 0 => by
    show (1 : Int) * ((w :: ws).getD 0 default).length = (w.length : Int) * 1
    simp
  | j + 1 => by
    show gA (w :: ws) (j + 1) * (((w :: ws).getD (j + 1) default).length : Int) = (w.length : Int) * (gA ws j * ((ws.getD j default).length : Int))
    rw [tM w ws j, Int.mul_assoc]; rfl
theorem wS : ∀ ws : List (List Int), gA ws ws.length = (ES ws : Int)
  | [] => rfl
  | w :: ws => by
    show gA (w :: ws) (ws.length + 1) = _
    rw [tM, wS ws]
    exact (Int.natCast_mul _ _).symm
theorem xJ (b : Bh) : fE b = ES b.winds := by unfold fE; rw [wS]; exact Int.toNat_natCast _
theorem yJ : ∀ (ws : List (List Int)) (t : List Int), t.length = ws.length → (∀ i, i < ws.length → t.getD i 0 ∈ ws.getD i default) → ∃ n, n < ES ws ∧ sD ws n ws.length = t
  | [], t, h, _ => ⟨0, by decide, by cases t with | nil => rfl | cons _ _ => simp at h⟩
  | w :: ws, [], h, _ => by simp at h
  | w :: ws, a :: t, h, k => by
    obtain ⟨n, h1, h2⟩ := yJ ws t (by simpa using h) fun i hi => k (i + 1) (by simpa using hi)
    obtain ⟨i, hi, ei⟩ := uL (d := (0 : Int)) (k 0 (by simp))
    have hi : i < w.length := hi
    have ei : w.getD i 0 = a := ei
    have hw : 0 < w.length := by omega
    have e1 : (i + w.length * n) % w.length = i := by rw [Nat.add_mul_mod_self_left, Nat.mod_eq_of_lt hi]
    have e2 : (i + w.length * n) / w.length = n := by rw [Nat.add_mul_div_left _ _ hw, Nat.div_eq_of_lt hi]; omega
    refine ⟨i + w.length * n, ?_, ?_⟩
    · show i + w.length * n < w.length * ES ws
      have := Nat.mul_le_mul_left w.length h1
      rw [Nat.succ_eq_add_one, Nat.mul_add] at this
      omega
    · show sD (w :: ws) _ (ws.length + 1) = _
      rw [Ca, e1, e2, h2, ei]
theorem mU {b : Bh} (V : VW b) {t : List Int} : t ∈ BB b ↔ TruP b t := by
  unfold BB IN
  rw [List.mem_filter, List.mem_map]
  constructor
  · rintro ⟨_, h⟩
    exact (nA V).1 h
  · intro h
    refine ⟨?_, (nA V).2 h⟩
    have hl := h.len
    rw [V.hrs] at hl
    obtain ⟨n, h1, h2⟩ := yJ b.winds t hl fun i hi => (hN.1 (h.mem i (by rw [V.hrs]; exact hi))).1
    exact ⟨n, List.mem_range.2 (by rw [xJ]; exact h1), h2⟩
theorem Ed {b : Bh} (V : VW b) : BB b ≠ [] ↔ kY b = true := by
  constructor
  · intro h
    cases hb : BB b with
    | nil => exact absurd hb h
    | cons t ts =>
      have h1 := (uV V).2 ((mU V).1 (by rw [hb]; simp : t ∈ BB b))
      unfold Gt at h1
      obtain ⟨c, hc, _⟩ := List.any_eq_true.1 h1
      exact List.any_eq_true.2 ⟨c, hc, rfl⟩
  · intro h e
    obtain ⟨c, hc, _⟩ := List.any_eq_true.1 h
    have h1 : Gt b ((LU c).take (hrs b)) = true := List.any_eq_true.2 ⟨c, hc, by simp⟩
    have h2 := (mU V).2 ((uV V).1 h1)
    rw [e] at h2
    cases h2
section
variable {b : Bh} {S : Nat → Nat → Int} {P : List (Int × Int)} {κ : Hr → Int} {f : List Int → Int}
end
structure Kap (κ : Hr → Int) : Prop where
  z : κ ⟨0, 0, 0⟩ = 0
  a : ∀ x y, κ (OY x y) = κ x + κ y
  b : ∀ (x : Hr) (n : Int), (0 ≤ x.sun ∧ x.sun ≤ n) ∧ (0 ≤ x.calm ∧ x.calm ≤ n) ∧ (0 ≤ x.good ∧ x.good ≤ n) → 0 ≤ κ x ∧ κ x ≤ n
theorem Kap.sun : Kap fun x => x.sun := ⟨rfl, fun _ _ => rfl, fun _ _ h => h.1⟩
theorem Kap.calm : Kap fun x => x.calm := ⟨rfl, fun _ _ => rfl, fun _ _ h => h.2.1⟩
theorem Kap.good : Kap fun x => x.good := ⟨rfl, fun _ _ => rfl, fun _ _ h => h.2.2⟩
theorem kD : ∀ {es : List (List D)}, (∀ x ∈ es, FitL [.i .i64] x) → ∃ l : List Int, es = ints l
  | [], _ => ⟨[], rfl⟩
  | x :: es, h => by
    obtain ⟨l, rfl⟩ := kD (es := es) fun y hy => h y (by simp [hy])
    have h1 := h x (by simp)
    simp only [FitL, fD] at h1
    obtain ⟨d, ds, rfl, ⟨n1, rfl, w1⟩, rfl⟩ := h1
    exact ⟨n1 :: l, rfl⟩
theorem qR : ∀ {es : List (List D)}, (∀ x ∈ es, FitL [.sl [.i .i64]] x) → ∃ l : List (List Int), es = aO iP l
  | [], _ => ⟨[], rfl⟩
  | x :: es, h => by
    obtain ⟨l, rfl⟩ := qR (es := es) fun y hy => h y (by simp [hy])
    have h1 := h x (by simp)
    simp only [FitL, fD] at h1
    obtain ⟨d, ds, rfl, ⟨e1, rfl, k1⟩, rfl⟩ := h1
    obtain ⟨w, rfl⟩ := kD fun x hx => by have := k1 x hx; simpa only [FitL, fD] using this
    exact ⟨w :: l, rfl⟩
theorem uN : ∀ {es : List (List D)}, (∀ x ∈ es, FitL [.i .i64, .i .i64] x) → ∃ l : List (Int × Int), es = aO cX l
  | [], _ => ⟨[], rfl⟩
  | x :: es, h => by
    obtain ⟨l, rfl⟩ := uN (es := es) fun y hy => h y (by simp [hy])
    have h1 := h x (by simp)
    simp only [FitL, fD] at h1
    obtain ⟨d, ds, rfl, ⟨n1, rfl, w1⟩, d2, ds2, rfl, ⟨n2, rfl, w2⟩, rfl⟩ := h1
    exact ⟨(n1, n2) :: l, rfl⟩
theorem FitP.wins {ps : List (Bool × List CK)} {ds : List D} (h : FitP ((false, [.sl [.sl [.i .i64]]]) :: ps) ds) : ∃ (t : List (List Int)) (ds' : List D), ds = .lst 1 (aO iP t) :: ds' ∧ FitP ps ds' := by
  unfold FitP at h
  obtain ⟨d, ds', rfl, h1, h2⟩ := h
  simp only [FitL, fD] at h1
  obtain ⟨d, ds, e, ⟨es, rfl, h1⟩, rfl⟩ := h1
  cases e
  obtain ⟨l, rfl⟩ := qR fun x hx => by have := h1 x hx; simpa only [FitL, fD] using this
  exact ⟨l, ds', rfl, h2⟩
theorem rR {n : Int} (h : (Lit.int .i64 n).wf = true) : i64 n := by
  simp only [Lit.wf, Bool.and_eq_true, decide_eq_true_eq] at h
  exact ⟨h.1, h.2⟩
theorem FitP.beachW {ps : List (Bool × List CK)} {ds : List D} (h : FitP ((true, [.i .i64, .i .i64, .i .i64, .i .i64, .sl [.i .i64], .sl [.i .i64], .sl [.sl [.i .i64]], .sl [.i .i64, .i .i64], .sl [.i .i64, .i .i64]]) :: ps) ds) : ∃ (b : Bh) (ds' : List D), ds = .ag (eY b) :: ds' ∧ (i64 b.last ∧ i64 b.rws ∧ i64 b.pls) ∧ FitP ps ds' := by
  unfold FitP at h
  obtain ⟨es, ds', rfl, h1, h2⟩ := h
  simp only [FitL, fD] at h1
  obtain ⟨d, ds, rfl, ⟨n1, rfl, w1⟩, d2, ds2, rfl, ⟨n2, rfl, w2⟩, d3, ds3, rfl, ⟨n3, rfl, w3⟩, d4, ds4, rfl, ⟨n4, rfl, _⟩, d5, ds5, rfl, ⟨e5, rfl, k5⟩, d6, ds6, rfl, ⟨e6, rfl, k6⟩, d7, ds7, rfl, ⟨e7, rfl, k7⟩, d8, ds8, rfl, ⟨e8, rfl, k8⟩, d9, ds9, rfl, ⟨e9, rfl, k9⟩, rfl⟩ := h1
  obtain ⟨l5, rfl⟩ := kD fun x hx => by have := k5 x hx; simpa only [FitL, fD] using this
  obtain ⟨l6, rfl⟩ := kD fun x hx => by have := k6 x hx; simpa only [FitL, fD] using this
  obtain ⟨l7, rfl⟩ := qR fun x hx => by have := k7 x hx; simpa only [FitL, fD] using this
  obtain ⟨l8, rfl⟩ := uN fun x hx => by have := k8 x hx; simpa only [FitL, fD] using this
  obtain ⟨l9, rfl⟩ := uN fun x hx => by have := k9 x hx; simpa only [FitL, fD] using this
  exact ⟨⟨n1, n2, n3, n4, l5, l6, l7, l8, l9⟩, ds', rfl, ⟨rR w1, rR w2, rR w3⟩, h2⟩
set_option maxRecDepth 1000000
set_option maxRecDepth 100000
theorem Ha (l : List (List Bnd)) : cG (aO oG l) := fP oT l
theorem Hn (l : List Bnd) : cG (aO MG l) := fP JD l
instance : Inhabited Bnd := ⟨⟨0, 0, 0, 0, 0⟩⟩
open Go.RowKit (Below Grown)
theorem PureF.memO {P : Program} {f : FuncId} {es ds : List D} {v v' : D} {ob' : T C} {nx' : Pos} {lg' : Option (T Bool)} (K : CallOk P f es .e .h none v ob' nx' lg') (hz : Fx ob' 12 v = some v') (hds : FzL (fun _ => False) .e ds es) : PureF P f ds v' := by
 intro ob nx lg
 refine ⟨LgLe.refl _, Nat.le_refl _, Keeps.refl _ _, fun so hs γ args w gh hargs hob hnx => ?_⟩
 let γs : Gh := ⟨fun _ => 0, fun _ _ => (0, 0), fun b => γ.im b \/ ((∃ id st, st < γ.cur id /\ (γ.β id st).1 = b) /\ ∃ vs e fr, w.heap[b]? = some (.cells vs e fr))⟩
 have hargs' : DVL γs w es args.toList := by
  have h1 : DV γ w (.tp ds) (.tuple args) := by unfold DV; exact ⟨args, rfl, hargs⟩
  have h2 := Fz.ok (P := P) (γ := γ) (γ' := γs) (B := fun _ => False) (fun b hb => .inl hb) (ob := .e) (fun id c hc => by rw [T.get_e] at hc; cases hc) (fun _ h => h.elim) (fun id st vs e fr _ hst hc => .inr ⟨⟨id, st, hst, rfl⟩, vs, e, fr, hc⟩) (.tp hds) _ h1
  obtain ⟨vs, e, h3⟩ := tC h2
  cases e
  exact h3
 obtain ⟨c1, c2⟩ := K.ok (fun _ => True) (fun _ _ => trivial) γs args w ⟨fun _ st h => absurd h (Nat.not_lt_zero st), fun _ st _ _ h => absurd h (Nat.not_lt_zero st), fun b hb => ⟨by
  rcases hb with hb | hb
  ·exact (gh.im b hb).1
  ·exact hb.2, fun _ st h => absurd h (Nat.not_lt_zero st)⟩, gh.gl.im fun _ h => .inl h⟩ hargs' (fun id c _ hc => by rw [T.get_e] at hc; cases hc) (fun _ _ _ => rfl)
 refine ⟨c1, fun ro m R hR => c2 ro m R fun γ' w' u gh' F hu hob' _ => ?_⟩
 have hb : ∀ b, b < w.heap.size -> w'.heap[b]? = w.heap[b]? := fun b hb => F.blk b hb fun id st _ hst => absurd hst (Nat.not_lt_zero st)
 have hnew : ∀ id st, st < γ'.cur id -> w.heap.size <= (γ'.β id st).1 := fun id st hst => by
  rcases F.new id st (Nat.zero_le _) hst with h | ⟨fZ, h, _⟩
  ·exact h
  ·exact absurd h (Nat.not_lt_zero fZ)
 let γ2 : Gh := ⟨γ.cur, γ.β, fun b => γ.im b \/ ((∃ id st, st < γ'.cur id /\ (γ'.β id st).1 = b) /\ ∃ vs e fr, w'.heap[b]? = some (.cells vs e fr))⟩
 have U : Up γ γ2 w w' := ⟨fun _ => Nat.le_refl _, fun _ _ _ => rfl, F.up.3, fun b hm => ⟨.inl hm, fun o ho => by rw [hb b (Array.getElem?_eq_some_iff.1 ho).1]; exact ho⟩⟩
 have U0 : Up γ γ w w' := ⟨fun _ => Nat.le_refl _, fun _ _ _ => rfl, F.up.3, fun b hm => ⟨hm, fun o ho => by rw [hb b (Array.getElem?_eq_some_iff.1 ho).1]; exact ho⟩⟩
 refine hR γ2 w' u ⟨fun id st hst => Nat.lt_of_lt_of_le (gh.ob id st hst) F.size, gh.inj, fun b hm => ?_, (gh.gl.up U0).im fun _ h => .inl h⟩ ⟨U, fun _ _ => rfl, fun b h1 _ => hb b h1, fun _ _ h1 h2 => absurd h2 (by show ¬ _ < γ.cur _; omega), fun b hm hlt => ?_, F.lp, F.size, F.os, F.tape, F.output, F.fz⟩
  (yO (γ := γ') (γ' := γ2) (fun id c hc => hob' id c trivial hc) (fun id st vs e fr hst hc => .inr ⟨⟨id, st, hst, rfl⟩, vs, e, fr, hc⟩) hz u hu)
  (fun id c hid hc => HoldsO.mono U rfl (fun st hst => hb _ (gh.ob id st hst)) (hob id c hid hc)) hnx
 ·rcases hm with hm | ⟨⟨id', st', h1, h2⟩, h3⟩
  ·refine ⟨let ⟨⟨vs, e, fr, k1⟩, _⟩ := gh.im b hm; ⟨vs, e, fr, (U0.im b hm).2 _ k1⟩, (gh.im b hm).2⟩
  ·refine ⟨h3, fun id st hst e => ?_⟩
   have hlt := gh.ob id st hst
   have e : (γ.β id st).1 = b := e
   have := hnew id' st' h1
   omega
 ·rcases hm with hm | ⟨⟨id', st', h1, h2⟩, h3⟩
  ·exact hm
  ·have := hnew id' st' h1
   omega
theorem PureF.mem {P : Program} {FP : T RF} (hFP : FPok P FP) {n : Nat} {f : Pos} {es ds : List D} {v : D} (h : nV P FP n f es = some v) (hds : FzL (fun _ => False) .e ds es) : PureF P f.ix ds v := by
 unfold nV at h
 split at h
 ·rename_i y hy
  obtain ⟨v', ob', nx', lg', h1, C⟩ := gY hFP (pQ hFP n).1 hy
  split at h1
  ·rename_i d hd
   cases h1
   rw [T.get_set_same] at h
   cases h
   exact PureF.memO C hd hds
  ·cases h1
 ·cases h
end Go.Ev
end
