import Derived.Test.YtjgbfnciedkafaaEvUHh
import Derived.Test.YtjgbfnciedkafaaEvUGc
import Derived.Test.YtjgbfnciedkafaaEvUJi
set_option linter.all false
set_option maxHeartbeats 8000000
noncomputable section
namespace Go.Ev
open Go.Proofs
set_option maxRecDepth 100000
theorem WSt.app_vN {sl : Ev.T D} {ob : Ev.T Ev.C} {nx : Pos} {lg : Option (Ev.T Bool)} {K : X -> Prop} {d id : Pos} {z : Nat} {x y : RX} (hx : bG sl x = some (.sl id 0 0 0 z)) (hox : ob.get id = some (.cells false [] 1)) (hy : bG sl y = some (.lst z []))
 (h : FJ lg id fun lg => dX sl ob nx lg d K (.sl id 0 0 0 z)) : WSt (.app d z x y) ⟨sl, ob, nx, lg⟩ K := by
 obtain ⟨l1, e1, h⟩ := jP h
 obtain ⟨h2, h3⟩ := aT h
 refine ⟨_, ?_, h3⟩
 show fA d z x y sl ob nx lg = _
 unfold fA
 rw [hx, hy]
 have hb : Nat.beq (List.length (List.flatten ([] : List (List D)))) (Nat.mul 0 z) = true := by simp
 simp only [sS, hb, cond_true, Bool.and_self, tK, List.length_nil, hox, Nat.beq_refl, e1]
 exact h2
theorem WSt.app_vE {sl : Ev.T D} {ob : Ev.T Ev.C} {nx : Pos} {lg : Option (Ev.T Bool)} {K : X -> Prop} {d id : Pos} {z : Nat} {x y : RX} {es : List (List D)} (hx : bG sl x = some (.sl id 0 0 0 z)) (hox : ob.get id = some (.cells false [] 1)) (hy : bG sl y = some (.lst z es)) (hz : ∀ r ∈ es, r.length = z) (hn : 0 < es.length) (hlen : es.length <= 2147483648)
 (h : IM lg id fun lg => T.setK id (.cells false (es.flatten.map fun d => Cell.o d 1) 2) ob fun ob => dX sl ob nx lg d K (.sl id 0 es.length 1 z)) : WSt (.app d z x y) ⟨sl, ob, nx, lg⟩ K := by
 have hfl : es.flatten.length = es.length * z := by
  clear hlen hy h hn
  induction es with
  | nil => simp
  | cons r es ih => simp [ih (fun r h => hz r (by simp [h])), hz r (by simp), Nat.add_mul]; omega
 obtain ⟨l1, e1, h⟩ := lN h
 rw [T.setK_eq] at h
 obtain ⟨h2, h3⟩ := aT h
 refine ⟨_, ?_, h3⟩
 show fA d z x y sl ob nx lg = _
 unfold fA
 rw [hx, hy]
 obtain ⟨k, hk⟩ : ∃ k, es.length = k + 1 := ⟨es.length - 1, by omega⟩
 rw [hk] at hlen h2
 have hle : Nat.ble (Nat.add 0 (Nat.succ k)) 2147483648 = true := Nat.ble_eq_true_of_le (by simpa using hlen)
 have hb : Nat.beq (List.length (List.flatten es)) (Nat.mul (k + 1) z) = true := by rw [hfl, hk]; simp
 have hm : Nat.add 0 (Nat.mul 0 z) = 0 := by show 0 + 0 * z = 0; simp
 simp only [sS, hk, hb, cond_true, tK, Nat.beq_refl, Bool.true_and, hle, hox, hm, xD, bH, iE, e1, T.setK_eq]
 have e3 : Nat.add 0 (Nat.succ k) = k + 1 := by show 0 + (k + 1) = k + 1; omega
 rw [e3]
 exact h2
theorem wU {β : Type} (st : Nat) (mk : D -> Cell) (s2 : Nat) (hs : s2 <= st) : ∀ (r' r : List D) (k : List Cell -> Option β), r.length = r'.length -> wR st mk r' (r.map fun d => Cell.o d s2) k = k (r'.map mk)
 | [], [], k, _ => rfl
 | [], d :: r, k, h => by simp at h
 | d' :: r', [], k, h => by simp at h
 | d' :: r', d :: r, k, h => by
   show (bif Nat.ble s2 st then wR st mk r' (r.map fun d => Cell.o d s2) (fun l => k (mk d' :: l)) else none) = _
   rw [Nat.ble_eq_true_of_le hs, cond_true, wU st mk s2 hs r' r _ (by simpa using h)]
   rfl
theorem uP {β : Type} (st : Nat) (mk : D -> Cell) (new : List D) : ∀ (pre rest : List Cell) (k : List Cell -> Option β), eF st mk new pre.length (pre ++ rest) k = wR st mk new rest fun l => k (pre ++ l)
 | [], rest, k => rfl
 | c :: pre, rest, k => by
   show eF st mk new pre.length (pre ++ rest) (fun l => k (c :: l)) = _
   rw [uP st mk new pre rest]
   rfl
theorem wQ {β : Type} (st s2 : Nat) (hs : s2 <= st) : ∀ (r : List D) (k : List D -> Option β), eT st r.length (r.map fun d => Cell.o d s2) k = k r
 | [], k => rfl
 | d :: r, k => by
   show (bif Nat.ble s2 st then eT st r.length (r.map fun d => Cell.o d s2) (fun ds => k (d :: ds)) else none) = _
   rw [Nat.ble_eq_true_of_le hs, cond_true, wQ st s2 hs r]
section
variable {sl : Ev.T D} {ob : Ev.T Ev.C} {nx : Pos} {lg : Option (Ev.T Bool)} {K : X -> Prop}
theorem wSt.ldnL {d id : Pos} {off st s1 s2 cur z : Nat} {ds r : List D} {cs : List Cell} {ro : Bool} {x : RX} (hx : bG sl x = some (.pt id off st)) (ho : ob.get id = some (.cells ro cs cur)) (hcs : cs = (ds.map fun d => Cell.o d s1) ++ r.map fun d => Cell.o d s2) (hoff : off = ds.length) (hz : r.length = z) (hs : s2 <= st) (h : FJ lg id fun lg => dX sl ob nx lg d K (.ag r)) : wSt (step (.ldn d x z) sl ob nx lg) K := by
 subst hcs hoff hz
 obtain ⟨l1, e1, h⟩ := jP h
 obtain ⟨h2, h3⟩ := aT h
 refine wSt.ok ?_ h3
 show sJ d x r.length sl ob nx lg = _
 unfold sJ
 rw [hx]
 have hd : eI ds.length ((ds.map fun d => Cell.o d s1) ++ r.map fun d => Cell.o d s2) = r.map fun d => Cell.o d s2 := by
  rw [bT, show ds.length = (ds.map fun d => Cell.o d s1).length by simp, List.drop_left]
 simp only [ho, hd, wQ st s2 hs, e1]
 exact h2
theorem wSt.stL {id : Pos} {off st s1 s2 cur z : Nat} {ds r r' : List D} {cs : List Cell} {v : D} {x y : RX} (hx : bG sl x = some (.pt id off st)) (hy : bG sl y = some v) (hv : mJ v = some r') (ho : ob.get id = some (.cells false cs cur)) (hcs : cs = (ds.map fun d => Cell.o d s1) ++ r.map fun d => Cell.o d s2) (hoff : off = ds.length) (hz : r'.length = z) (hr : r.length = r'.length) (hs : s2 <= st) (hcur : cur = st + 1) (h : IM lg id fun lg => T.setK id (.cells false ((ds.map fun d => Cell.o d s1) ++ r'.map fun d => Cell.o d st) cur) ob fun ob => K ⟨sl, ob, nx, lg⟩) : wSt (step (.st x y z) sl ob nx lg) K := by
 subst hcs hoff hz hcur
 obtain ⟨l1, e1, h⟩ := lN h
 rw [T.setK_eq] at h
 refine wSt.ok ?_ h
 show vV x y r'.length sl ob nx lg = _
 unfold vV
 rw [hx, hy]
 simp only [ho, hv]
 show (bif Nat.beq r'.length r'.length then (bif Nat.beq (Nat.succ st) (st + 1) then eF st (fun d => Cell.o d st) r' ds.length _ _ else _) else none) = _
 rw [Nat.beq_refl, cond_true, show Nat.beq (Nat.succ st) (st + 1) = true from Nat.beq_refl _, cond_true, show ds.length = (ds.map fun d => Cell.o d s1).length by simp, uP, wU st _ s2 hs r' r _ hr]
 unfold nT
 rw [e1]
 show (T.setK id _ ob fun ob => some ⟨sl, ob, nx, l1⟩ : Option X) = _
 rw [T.setK_eq]
end
structure HI (n : Int) (T L : List Ln) : Prop where
 len : L.length = T.length
 poss : eG T = true
 rd : jE n L T = true
 lok : ∀ l ∈ L, cB n l = true
theorem DI {n : Int} {ls T : List Ln} : jE n ls T = true ↔ T.length = ls.length /\ ∀ i, i < T.length -> Ni n (ls.getD i default) (T.getD i default) = true := by
 unfold jE
 rw [Bool.and_eq_true, decide_eq_true_iff, List.all_eq_true]
 constructor
 ·rintro ⟨h1, h2⟩; exact ⟨h1, fun i hi => h2 i (List.mem_range.2 hi)⟩
 ·rintro ⟨h1, h2⟩; exact ⟨h1, fun i hi => h2 i (List.mem_range.1 hi)⟩
theorem HI.nil {n : Int} : HI n [] [] := ⟨rfl, rfl, rfl, fun l h => by cases h⟩
theorem HI.snoc {n : Int} {T L : List Ln} (h : HI n T L) {l l' : Ln} (hk : l.k = 1 \/ l.k = 2) (hc : 0 <= l.c /\ l.c < n) (ht : 0 <= l.t /\ l.t < n) (hp : eG (T ++ [l]) = true) (ha : oI l' l = true) (ho : cB n l' = true) : HI n (T ++ [l]) (L ++ [l']) := by
 refine ⟨by rw [List.length_append, List.length_append, h.len]; rfl, hp, ?_, fun x hx => ?_⟩
 ·have hr := h.rd
  rw [DI] at hr ⊢
  refine ⟨by rw [List.length_append, List.length_append, h.len]; rfl, fun i hi => ?_⟩
  rw [List.length_append, List.length_singleton] at hi
  by_cases e : i = T.length
  ·subst e
   rw [cG T l, <- h.len, cG L l']
   unfold Ni
   simp only [Bool.and_eq_true, aP]
   exact ⟨by omega, by omega, by omega, ha⟩
  ·have hi2 : i < T.length := by omega
   rw [SameTo.app T l i hi2, SameTo.app L l' i (by rw [h.len]; exact hi2)]
   exact hr.2 i hi2
 ·rcases List.mem_append.1 hx with hx | hx
  ·exact h.lok x hx
  ·rw [List.mem_singleton.1 hx]; exact ho
theorem qI (l : Ln) : oI l l = true := by unfold oI; simp
def Sp : RC := Rg (Pe (eX (Io (eX (eX (eX (eX Ko)))))))
def QE : RC := eX (eX Sp)
def Gn : RC := eX (eX (eX Uu))
def Ob : RC := eX (eX (eX (eX Gn)))
def PH : RC := eX Ob
def Hj : RC := eX PH
def MA : RC := eX Hj
def TK (n coin box : Int) (ls : List Ln) (cs : List Ct) (ws : List Int) (s : Nat × List Ln × List Ln) : X := match s with
 | (i, T, L) => ⟨(.n (.n (.n (.n .e (some (Ao (.o (.i .h)) 3 T)) .e) none .e) (some (.lst 1 (aD pK ws))) .e) none (.n (.n (.n .e (some (.i .i64 (i : Int))) .e) (some (.pt (.o .h) 0 0)) .e) (some (.pt .h 0 0)) (.n .e (some (.pt (.i .h) 0 0)) .e))), (.n (.n .e (some (lL)) (.n .e (BW aM T) .e)) (some (jU n coin box ls cs)) (.n .e (some (jR n coin box (.lst 3 (aD aM L)) .ns)) .e)), BT (.o (.o .h)) (.i (.i .h)) T, none⟩
def TD (n : Int) (s : Nat × List Ln × List Ln) : Prop := s.1 <= 8 /\ s.2.1.length <= s.1 /\ HI n s.2.1 s.2.2
def OU (s : Nat × List Ln × List Ln) : Nat := 9 - s.1
def FD (n coin box : Int) (ls : List Ln) (cs : List Ct) (ws : List Int) (s : Nat × List Ln × List Ln) (K' : Ex -> X -> Prop) : Ex -> X -> Prop := NC 1 (Ou Try.prog 175 QE (Ii (TK n coin box ls cs ws) (TD n) OU s K'))
def TC (n coin box : Int) (ls : List Ln) (cs : List Ct) (ws : List Int) (T L : List Ln) : X := ⟨(.n (.n (.n (.n .e (some (.lst 3 (aD aM T))) .e) none .e) (some (.lst 1 (aD pK ws))) .e) none (.n (.n .e (some (.pt (.o .h) 0 0)) .e) (some (.pt .h 0 0)) (.n .e (some (.pt (.i .h) 0 0)) .e))), (.n (.n .e (some (lL)) .e) (some (jU n coin box ls cs)) (.n .e (some (jR n coin box (.lst 3 (aD aM L)) .ns)) .e)), .o (.o .h), none⟩
def Ny (n coin box : Int) (ls : List Ln) (cs : List Ct) (ws : List Int) (Z : X) : Prop := Z.lg = none /\ 4 <= Z.nx.nat /\ ∃ T L : List Ln, T.length <= 8 /\ HI n T L /\ ShrB (fun id => id.nat < 4) Z (TC n coin box ls cs ws T L)
def vA (n coin box : Int) (ls : List Ln) (cs : List Ct) (ws : List Int) (l l' : Ln) (i : Nat) (w : Int) : X := ⟨(.n (.n (.n (.n (.n .e (some (.pt (.i (.i .h)) 0 0)) .e) (some (.sl (.o (.i .h)) 0 1 0 3)) .e) none .e) (some (.lst 1 (aD pK ws))) (.n (.n .e (some (.i .i64 w)) .e) none .e)) none (.n (.n (.n .e (some (.i .i64 (i : Int))) .e) (some (.pt (.o .h) 0 0)) .e) (some (.pt .h 0 0)) (.n .e (some (.pt (.i .h) 0 0)) (.n .e (some (.pt (.o (.o .h)) 0 0)) .e)))), (.n (.n (.n .e (some (.cells false ((aM l').map fun d => Cell.o d 0) 1)) .e) (some (lL)) (.n .e (some (.cells false ((aM l).map fun d => Cell.o d 0) 1)) .e)) (some (jU n coin box ls cs)) (.n .e (some (jR n coin box (.lst 3 (aD aM [])) .ns)) (.n .e (some (jR n coin box (.lst 3 (aD aM [])) .ns)) .e))), (.o (.o (.o .h))), none⟩
def tW (n coin box : Int) (ls : List Ln) (cs : List Ct) (ws : List Int) (a' : Ln) (s' L : List Ln) (l l' : Ln) (i : Nat) (w : Int) : X := ⟨(.n (.n (.n (.n (.n .e (some (.pt (.i (.o (.o .h))) 0 0)) .e) (some (.sl (.o (.i .h)) 0 (s'.length + 1 + 1) (s'.length + 1) 3)) .e) none .e) (some (.lst 1 (aD pK ws))) (.n (.n .e (some (.i .i64 w)) .e) none .e)) none (.n (.n (.n .e (some (.i .i64 (i : Int))) .e) (some (.pt (.o .h) 0 0)) .e) (some (.pt .h 0 0)) (.n .e (some (.pt (.i .h) 0 0)) (.n .e (some (.pt (.i (.i .h)) 0 0)) .e)))), (.n (.n .e (some (lL)) (.n .e (some (.cells false (((aD aM (a' :: s')).flatten.map fun d => Cell.o d s'.length) ++ (aM l).map fun d => Cell.o d (s'.length + 1)) (s'.length + 1 + 1))) .e)) (some (jU n coin box ls cs)) (.n (.n (.n .e (some (jR n coin box (.lst 3 (aD aM L)) .ns)) .e) none .e) (some (jR n coin box (.lst 3 (aD aM L)) .ns)) (.n .e (some (.cells false ((aM l').map fun d => Cell.o d 0) 1)) .e))), (.o (.i (.o .h))), none⟩
theorem Bm (n coin box : Int) (ls : List Ln) (cs : List Ct) (ws : List Int) (l l' : Ln) (i : Nat) (w : Int) (hn : 1 <= n /\ n <= 4) (hHI : HI n ([] : List Ln) ([] : List Ln)) (hTi : ([] : List Ln).length <= i) (hi7 : i <= 7) (hk : l.k = 1 \/ l.k = 2) (hc : 0 <= l.c /\ l.c < n) (ht : 0 <= l.t /\ l.t < n) (hp : eG (([] : List Ln) ++ [l]) = true) (hag : oI l' l = true) (hok : cB n l' = true) (K' : Ex -> X -> Prop) : Rn Try.prog 175 MA (vA n coin box ls cs ws l l' i w) (FD n coin box ls cs ws (i, ([] : List Ln), ([] : List Ln)) K') := by
 have hol : cB n l = true := by
  unfold cB
  simp only [Bool.and_eq_true, aP]
  omega
 have iM := zU n coin box (([] : List Ln) ++ [l']) [] hn (by simp; ) (by
  rw [List.all_eq_true]
  intro x hx
  rcases List.mem_append.1 hx with hx | hx
  ·exact hHI.lok x hx
  ·rw [List.mem_singleton.1 hx]; exact hok)
 unfold CW at iM
 conv => whnf
 refine Qg ?_
 refine WSt.app_vN (id := (.o (.o (.o .h)))) (by rfl) (by rfl) (by rfl) ?_; conv => whnf
 refine Qg ?_
 refine WSt.app_oneL (id := (.o (.o (.o .h)))) (ds := ([] : List D)) (r := aM l') (len := 0) (st := 0) (by rfl) (by rfl) (by rfl) (by rfl) (by rfl) (by rfl) (by rfl) (by rfl) (by rfl) (by omega) (by rfl) ?_; conv => whnf
 refine Qg ?_
 refine WCall.borrow1 iM (.o (.o (.o .h))) (.cells false ((([] : List D).map fun d => Cell.o d 0) ++ (aM l').map fun d => Cell.o d 1) 2) (.cons (.ag (.cons (.pu trivial) (.cons (.pu trivial) (.cons (.pu trivial) (.cons (Fz.grown (ds := ([] : List D)) (r := aM l') (s1 := 0) (s2 := 1) (fun h => h) (T.get_set_same _ _ _) rfl (by omega) (by simp [aD]) (by rw [aC]; simp [aC]) (dN _) (aB _)) (.cons .ns .nil)))))) .nil) trivial rfl rfl ?_; conv => whnf
 refine Qg ?_
 refine WB.dec (fun h => ?_) (fun h => ?_) <;> conv => whnf
 ·refine Qg ?_
  refine And.intro (show InR .i64 (((0 + 1 : Nat) : Int) - 1) from InR.i64 (by omega) (by omega)) ?_; conv => whnf
  refine Qg ?_
  refine And.intro (show InR .i64 (((1 : Nat) : Int) - 1) from InR.i64 (by omega) (by omega)) ?_; conv => whnf
  refine Qg ?_
  refine WSt.ixsY (m := 0) (by rfl) (by rfl) (by omega) ?_; conv => whnf
  refine Qg ?_
  refine WSt.ixsY (m := 0) (by rfl) (by rfl) (by omega) ?_; conv => whnf
  refine Qg ?_
  refine Again.to (i + 1, [l], ([] : List Ln) ++ [l]) (show 9 - (i + 1) < 9 - i by omega) ⟨(show i + 1 <= 8 by omega), (by show [l].length <= i + 1; rw [List.length_singleton]; omega), (show HI n (([] : List Ln) ++ [l]) (([] : List Ln) ++ [l]) from hHI.snoc hk hc ht hp (qI l) hol)⟩ (show 4 <= 7 by omega) ?_
  refine Shr.of ?_ ?_ rfl rfl
  ·(repeat' first | exact Rel.e | refine Rel.some ?_ ?_ ?_ | refine Rel.none ?_ ?_ | refine Rel.ee ?_ ?_)
   all_goals show Fz _ _ _ _
   all_goals first | exact Fy | exact .pu (cX _)
  ·(repeat' first | exact Rel.e | refine Rel.some ?_ ?_ ?_ | refine Rel.none ?_ ?_ | refine Rel.ee ?_ ?_)
   all_goals first
    | exact Ro aZ
    | exact Ro bF
    | exact Ro (aW (Fz.grown (ds := ([] : List D)) (r := aM l) (s1 := 0) (s2 := 1) (show ¬ (8 : Nat) < 7 by omega) rfl rfl (by omega) (by simp [aD]) (by rw [aC]; simp [aC]) (dN _) (aB _)) (.pu trivial))
    | (refine Ro (ShC.same fun c hc => ?_); obtain ⟨d, hd, rfl⟩ := List.mem_map.1 hc; exact .pu (aG.1 (eD _) d hd))
    | (refine Ro (ShC.grown (by omega) (aG.2 fun d hd => ?_)); rcases List.mem_append.1 hd with hd | hd <;> first | exact aG.1 (gP eD _) d hd | exact aG.1 (eD _) d hd)
 ·refine Qg ?_
  refine Again.to (i + 1, [l], ([] : List Ln) ++ [l']) (show 9 - (i + 1) < 9 - i by omega) ⟨(show i + 1 <= 8 by omega), (by show [l].length <= i + 1; rw [List.length_singleton]; omega), (show HI n (([] : List Ln) ++ [l]) (([] : List Ln) ++ [l']) from hHI.snoc hk hc ht hp hag hok)⟩ (show 4 <= 7 by omega) ?_
  refine Shr.of ?_ ?_ rfl rfl
  ·(repeat' first | exact Rel.e | refine Rel.some ?_ ?_ ?_ | refine Rel.none ?_ ?_ | refine Rel.ee ?_ ?_)
   all_goals show Fz _ _ _ _
   all_goals first | exact Fy | exact .pu (cX _)
  ·(repeat' first | exact Rel.e | refine Rel.some ?_ ?_ ?_ | refine Rel.none ?_ ?_ | refine Rel.ee ?_ ?_)
   all_goals first
    | exact Ro aZ
    | exact Ro bF
    | exact Ro (aW (Fz.grown (ds := ([] : List D)) (r := aM l') (s1 := 0) (s2 := 1) (show ¬ (8 : Nat) < 7 by omega) rfl rfl (by omega) (by simp [aD]) (by rw [aC]; simp [aC]) (dN _) (aB _)) (.pu trivial))
    | (refine Ro (ShC.same fun c hc => ?_); obtain ⟨d, hd, rfl⟩ := List.mem_map.1 hc; exact .pu (aG.1 (eD _) d hd))
    | (refine Ro (ShC.grown (by omega) (aG.2 fun d hd => ?_)); rcases List.mem_append.1 hd with hd | hd <;> first | exact aG.1 (gP eD _) d hd | exact aG.1 (eD _) d hd)
theorem Az (n coin box : Int) (ls : List Ln) (cs : List Ct) (ws : List Int) (a' : Ln) (s' L : List Ln) (l l' : Ln) (i : Nat) (w : Int) (hn : 1 <= n /\ n <= 4) (hHI : HI n (a' :: s') L) (hLl : 0 < L.length /\ L.length <= 8) (hTi : (a' :: s').length <= i) (hi7 : i <= 7) (hk : l.k = 1 \/ l.k = 2) (hc : 0 <= l.c /\ l.c < n) (ht : 0 <= l.t /\ l.t < n) (hp : eG ((a' :: s') ++ [l]) = true) (hag : oI l' l = true) (hok : cB n l' = true) (K' : Ex -> X -> Prop) : Rn Try.prog 175 MA (tW n coin box ls cs ws a' s' L l l' i w) (FD n coin box ls cs ws (i, (a' :: s'), L) K') := by
 have hol : cB n l = true := by
  unfold cB
  simp only [Bool.and_eq_true, aP]
  omega
 have iM := zU n coin box (L ++ [l']) [] hn (by simp; omega) (by
  rw [List.all_eq_true]
  intro x hx
  rcases List.mem_append.1 hx with hx | hx
  ·exact hHI.lok x hx
  ·rw [List.mem_singleton.1 hx]; exact hok)
 unfold CW at iM
 have hsl : s'.length + 1 <= i := by have h := hTi; rw [List.length_cons] at h; exact h
 have hLr : (aD aM L).length <= 8 := by rw [aC]; exact hLl.2
 have hy1 : Int.ofNat ((aD aM L).length + 1) - 1 = ((aD aM L).length : Int) := by show (((aD aM L).length + 1 : Nat) : Int) - 1 = _; omega
 have ht1 : Int.ofNat (s'.length + 1 + 1) - 1 = ((s'.length + 1 : Nat) : Int) := by show ((s'.length + 1 + 1 : Nat) : Int) - 1 = _; omega
 conv => whnf
 refine Qg ?_
 refine WSt.app_vE (id := (.o (.i (.o .h)))) (es := aD aM L) (by rfl) (by rfl) (by rfl) (dN L) (by rw [aC]; omega) (by rw [aC]; omega) ?_; conv => whnf
 refine Qg ?_
 refine WSt.app_oneL (id := (.o (.i (.o .h)))) (ds := (aD aM L).flatten) (r := aM l') (len := (aD aM L).length) (st := 1) (by rfl) (by rfl) (by rfl) (by rfl) (by rfl) (by rfl) (by rw [dL (z := 3) nS, aC]) (by rfl) (by rfl) (by rw [aC]; omega) (by rfl) ?_; conv => whnf
 refine Qg ?_
 refine WCall.borrow1 iM (.o (.i (.o .h))) (.cells false (((aD aM L).flatten.map fun d => Cell.o d 1) ++ (aM l').map fun d => Cell.o d 2) 3) (.cons (.ag (.cons (.pu trivial) (.cons (.pu trivial) (.cons (.pu trivial) (.cons (Fz.grown (ds := (aD aM L).flatten) (r := aM l') (s1 := 1) (s2 := 2) (fun h => h) (T.get_set_same _ _ _) rfl (by omega) (gD L _) (by rw [aC]; simp [aC]) (dN _) (aB _)) (.cons .ns .nil)))))) .nil) trivial rfl rfl ?_; conv => whnf
 refine Qg ?_
 refine WB.dec (fun h => ?_) (fun h => ?_) <;> conv => whnf
 ·refine Qg ?_
  rw [hy1]
  refine Qg ?_
  rw [ht1]
  refine Qg ?_
  refine WSt.ixsY (m := (s'.length + 1)) (by rfl) (by rfl) (by omega) ?_; conv => whnf
  refine Qg ?_
  show wSt _ _
  refine wSt.ldnL (ds := (aD aM (a' :: s')).flatten) (r := aM l) (s1 := s'.length) (s2 := (s'.length + 1)) (by rfl) (by rfl) (by rfl) (by rw [dL (z := 3) nS, List.length_cons]; show 0 + _ = _; omega) (by rfl) (by omega) ?_; conv => whnf
  refine Qg ?_
  refine WSt.ixsY (m := (aD aM L).length) (by rfl) (by rfl) (by omega) ?_; conv => whnf
  refine Qg ?_
  show wSt _ _
  refine wSt.stL (ds := (aD aM L).flatten) (r := aM l') (r' := aM l) (s1 := 1) (s2 := 2) (by rfl) (by rfl) (by rfl) (by rfl) (by rfl) (by rw [dL (z := 3) nS, aC]; show 0 + _ = _; omega) (by rfl) (by rfl) (by omega) (by rfl) ?_; conv => whnf
  refine Qg ?_
  refine Again.to (i + 1, (a' :: (s' ++ [l])), L ++ [l]) (show 9 - (i + 1) < 9 - i by omega) ⟨(show i + 1 <= 8 by omega), (by show (a' :: (s' ++ [l])).length <= i + 1; have h := hTi; rw [List.length_cons] at h; rw [List.length_cons, List.length_append, List.length_singleton]; omega), (show HI n ((a' :: s') ++ [l]) (L ++ [l]) from hHI.snoc hk hc ht hp (qI l) hol)⟩ (show 7 <= 7 by omega) ?_
  refine Shr.of ?_ ?_ rfl rfl
  ·show Rel _ _ ((.n (.n (.n (.n .e (some (Ao (.o (.i .h)) 3 (a' :: (s' ++ [l])))) .e) none .e) (some (.lst 1 (aD pK ws))) .e) none (.n (.n (.n .e (some (.i .i64 ((i + 1 : Nat) : Int))) .e) (some (.pt (.o .h) 0 0)) .e) (some (.pt .h 0 0)) (.n .e (some (.pt (.i .h) 0 0)) .e))) : Ev.T D) _
   rw [lW]
   (repeat' first | exact Rel.e | refine Rel.some ?_ ?_ ?_ | refine Rel.none ?_ ?_ | refine Rel.ee ?_ ?_)
   all_goals show Fz _ _ _ _
   all_goals first | exact Fy | exact .pu (cX _)
  ·show Rel _ _ ((.n (.n .e (some (lL)) (.n .e (BW aM (a' :: (s' ++ [l]))) .e)) (some (jU n coin box ls cs)) (.n .e (some (jR n coin box (.lst 3 (aD aM (L ++ [l]))) .ns)) .e)) : Ev.T Ev.C) _
   rw [mB]
   (repeat' first | exact Rel.e | refine Rel.some ?_ ?_ ?_ | refine Rel.none ?_ ?_ | refine Rel.ee ?_ ?_)
   all_goals first
    | exact Ro aZ
    | exact Ro bF
    | exact Ro (aW (Fz.grown (ds := (aD aM L).flatten) (r := aM l) (s1 := 1) (s2 := 2) (show ¬ (10 : Nat) < 7 by omega) rfl rfl (by omega) (gD L _) (by rw [aC]; simp [aC]) (dN _) (aB _)) (.pu trivial))
    | (refine Ro (ShC.same fun c hc => ?_); obtain ⟨d, hd, rfl⟩ := List.mem_map.1 hc; exact .pu (aG.1 (eD _) d hd))
    | (refine Ro (ShC.grown (by omega) (aG.2 fun d hd => ?_)); rcases List.mem_append.1 hd with hd | hd <;> first | exact aG.1 (gP eD _) d hd | exact aG.1 (eD _) d hd)
 ·refine Qg ?_
  refine Again.to (i + 1, (a' :: (s' ++ [l])), L ++ [l']) (show 9 - (i + 1) < 9 - i by omega) ⟨(show i + 1 <= 8 by omega), (by show (a' :: (s' ++ [l])).length <= i + 1; have h := hTi; rw [List.length_cons] at h; rw [List.length_cons, List.length_append, List.length_singleton]; omega), (show HI n ((a' :: s') ++ [l]) (L ++ [l']) from hHI.snoc hk hc ht hp hag hok)⟩ (show 7 <= 7 by omega) ?_
  refine Shr.of ?_ ?_ rfl rfl
  ·show Rel _ _ ((.n (.n (.n (.n .e (some (Ao (.o (.i .h)) 3 (a' :: (s' ++ [l])))) .e) none .e) (some (.lst 1 (aD pK ws))) .e) none (.n (.n (.n .e (some (.i .i64 ((i + 1 : Nat) : Int))) .e) (some (.pt (.o .h) 0 0)) .e) (some (.pt .h 0 0)) (.n .e (some (.pt (.i .h) 0 0)) .e))) : Ev.T D) _
   rw [lW]
   (repeat' first | exact Rel.e | refine Rel.some ?_ ?_ ?_ | refine Rel.none ?_ ?_ | refine Rel.ee ?_ ?_)
   all_goals show Fz _ _ _ _
   all_goals first | exact Fy | exact .pu (cX _)
  ·show Rel _ _ ((.n (.n .e (some (lL)) (.n .e (BW aM (a' :: (s' ++ [l]))) .e)) (some (jU n coin box ls cs)) (.n .e (some (jR n coin box (.lst 3 (aD aM (L ++ [l']))) .ns)) .e)) : Ev.T Ev.C) _
   rw [mB]
   (repeat' first | exact Rel.e | refine Rel.some ?_ ?_ ?_ | refine Rel.none ?_ ?_ | refine Rel.ee ?_ ?_)
   all_goals first
    | exact Ro aZ
    | exact Ro bF
    | exact Ro (aW (Fz.grown (ds := (aD aM L).flatten) (r := aM l') (s1 := 1) (s2 := 2) (show ¬ (10 : Nat) < 7 by omega) rfl rfl (by omega) (gD L _) (by rw [aC]; simp [aC]) (dN _) (aB _)) (.pu trivial))
    | (refine Ro (ShC.same fun c hc => ?_); obtain ⟨d, hd, rfl⟩ := List.mem_map.1 hc; exact .pu (aG.1 (eD _) d hd))
    | (refine Ro (ShC.grown (by omega) (aG.2 fun d hd => ?_)); rcases List.mem_append.1 hd with hd | hd <;> first | exact aG.1 (gP eD _) d hd | exact aG.1 (eD _) d hd)
theorem Tm {l' l : Ln} (h : oI l' l = true) : oI ⟨0, l'.c, l'.t⟩ l = true := by
 unfold oI at *
 simp only [Bool.and_eq_true, Bool.or_eq_true, decide_eq_true_iff] at h ⊢
 exact ⟨.inl trivial, h.2⟩
theorem QR {l' l : Ln} (h : oI l' l = true) : oI ⟨l'.k, -1, l'.t⟩ l = true := by
 unfold oI at *
 simp only [Bool.and_eq_true, Bool.or_eq_true, decide_eq_true_iff] at h ⊢
 exact ⟨h.1, .inl (by omega), h.2.2⟩
theorem RZ {l' l : Ln} (h : oI l' l = true) : oI ⟨l'.k, l'.c, -1⟩ l = true := by
 unfold oI at *
 simp only [Bool.and_eq_true, Bool.or_eq_true, decide_eq_true_iff] at h ⊢
 exact ⟨h.1, h.2.1, .inl (by omega)⟩
theorem Ri {n : Int} {l' : Ln} (h : cB n l' = true) : cB n ⟨0, l'.c, l'.t⟩ = true := by
 unfold cB at *
 simp only [Bool.and_eq_true, aP] at h ⊢
 omega
theorem QA {n : Int} {l' : Ln} (hn : 1 <= n) (h : cB n l' = true) : cB n ⟨l'.k, -1, l'.t⟩ = true := by
 unfold cB at *
 simp only [Bool.and_eq_true, aP] at h ⊢
 omega
theorem Qs {n : Int} {l' : Ln} (hn : 1 <= n) (h : cB n l' = true) : cB n ⟨l'.k, l'.c, -1⟩ = true := by
 unfold cB at *
 simp only [Bool.and_eq_true, aP] at h ⊢
 omega
theorem Br (n coin box : Int) (ls : List Ln) (cs : List Ct) (ws : List Int) (l l' : Ln) (i : Nat) (w : Int) (hw : 0 <= w /\ w <= 65535) (hn : 1 <= n /\ n <= 4) (hHI : HI n ([] : List Ln) ([] : List Ln)) (hTi : ([] : List Ln).length <= i) (hi7 : i <= 7) (hk : l.k = 1 \/ l.k = 2) (hc : 0 <= l.c /\ l.c < n) (ht : 0 <= l.t /\ l.t < n) (hp : eG (([] : List Ln) ++ [l]) = true) (hag : oI l' l = true) (hok : cB n l' = true) (K' : Ex -> X -> Prop) : Rn Try.prog 175 Hj (vA n coin box ls cs ws l l' i w) (FD n coin box ls cs ws (i, ([] : List Ln), ([] : List Ln)) K') := by
 have d0 := Int.tdiv_nonneg hw.1 (show (0 : Int) <= 4096 by omega)
 have d1 : w.tdiv 4096 <= 65535 := by rw [Int.tdiv_eq_ediv_of_nonneg hw.1]; omega
 conv => whnf
 refine Rn.seq ?_; conv => whnf
 refine Rn.seq ?_; conv => whnf
 refine Rn.reg ?_; conv => whnf
 repeat' ((first | refine Qb ?_ | refine Qc ?_) <;> conv => whnf)
 refine Rn.cond rfl ?_; conv => whnf
 refine WB.dec (fun h => ?_) (fun h => ?_) <;> conv => whnf
 ·refine Rn.reg ?_; conv => whnf
  refine Rn.le (a := vA n coin box ls cs ws l ⟨0, l'.c, l'.t⟩ i w) (Bm n coin box ls cs ws l ⟨0, l'.c, l'.t⟩ i w hn hHI hTi hi7 hk hc ht hp (Tm hag) (Ri hok) K') ?_
  refine X.le.mk ?_ ?_ (Nat.le_refl _) rfl rfl
  ·exact Lw
  ·exact Lw
 ·refine Rn.skip ?_; conv => whnf
  refine Rn.le (a := vA n coin box ls cs ws l l' i w) (Bm n coin box ls cs ws l l' i w hn hHI hTi hi7 hk hc ht hp hag hok K') ?_
  refine X.le.mk ?_ ?_ (Nat.le_refl _) rfl rfl
  ·exact Lw
  ·exact Lw
theorem DP (n coin box : Int) (ls : List Ln) (cs : List Ct) (ws : List Int) (l l' : Ln) (i : Nat) (w : Int) (hw : 0 <= w /\ w <= 65535) (hn : 1 <= n /\ n <= 4) (hHI : HI n ([] : List Ln) ([] : List Ln)) (hTi : ([] : List Ln).length <= i) (hi7 : i <= 7) (hk : l.k = 1 \/ l.k = 2) (hc : 0 <= l.c /\ l.c < n) (ht : 0 <= l.t /\ l.t < n) (hp : eG (([] : List Ln) ++ [l]) = true) (hag : oI l' l = true) (hok : cB n l' = true) (K' : Ex -> X -> Prop) : Rn Try.prog 175 PH (vA n coin box ls cs ws l l' i w) (FD n coin box ls cs ws (i, ([] : List Ln), ([] : List Ln)) K') := by
 have d0 := Int.tdiv_nonneg hw.1 (show (0 : Int) <= 512 by omega)
 have d1 : w.tdiv 512 <= 65535 := by rw [Int.tdiv_eq_ediv_of_nonneg hw.1]; omega
 conv => whnf
 refine Rn.seq ?_; conv => whnf
 refine Rn.seq ?_; conv => whnf
 refine Rn.reg ?_; conv => whnf
 repeat' ((first | refine Qb ?_ | refine Qc ?_) <;> conv => whnf)
 refine Rn.cond rfl ?_; conv => whnf
 refine WB.dec (fun h => ?_) (fun h => ?_) <;> conv => whnf
 ·refine Rn.reg ?_; conv => whnf
  refine Rn.le (a := vA n coin box ls cs ws l ⟨l'.k, l'.c, -1⟩ i w) (Br n coin box ls cs ws l ⟨l'.k, l'.c, -1⟩ i w hw hn hHI hTi hi7 hk hc ht hp (RZ hag) (Qs hn.1 hok) K') ?_
  refine X.le.mk ?_ ?_ (Nat.le_refl _) rfl rfl
  ·exact Lw
  ·exact Lw
 ·refine Rn.skip ?_; conv => whnf
  refine Rn.le (a := vA n coin box ls cs ws l l' i w) (Br n coin box ls cs ws l l' i w hw hn hHI hTi hi7 hk hc ht hp hag hok K') ?_
  refine X.le.mk ?_ ?_ (Nat.le_refl _) rfl rfl
  ·exact Lw
  ·exact Lw
theorem Ma (n coin box : Int) (ls : List Ln) (cs : List Ct) (ws : List Int) (l l' : Ln) (i : Nat) (w : Int) (hw : 0 <= w /\ w <= 65535) (hn : 1 <= n /\ n <= 4) (hHI : HI n ([] : List Ln) ([] : List Ln)) (hTi : ([] : List Ln).length <= i) (hi7 : i <= 7) (hk : l.k = 1 \/ l.k = 2) (hc : 0 <= l.c /\ l.c < n) (ht : 0 <= l.t /\ l.t < n) (hp : eG (([] : List Ln) ++ [l]) = true) (hag : oI l' l = true) (hok : cB n l' = true) (K' : Ex -> X -> Prop) : Rn Try.prog 175 Ob (vA n coin box ls cs ws l l' i w) (FD n coin box ls cs ws (i, ([] : List Ln), ([] : List Ln)) K') := by
 have d0 := Int.tdiv_nonneg hw.1 (show (0 : Int) <= 64 by omega)
 have d1 : w.tdiv 64 <= 65535 := by rw [Int.tdiv_eq_ediv_of_nonneg hw.1]; omega
 conv => whnf
 refine Rn.seq ?_; conv => whnf
 refine Rn.seq ?_; conv => whnf
 refine Rn.reg ?_; conv => whnf
 repeat' ((first | refine Qb ?_ | refine Qc ?_) <;> conv => whnf)
 refine Rn.cond rfl ?_; conv => whnf
 refine WB.dec (fun h => ?_) (fun h => ?_) <;> conv => whnf
 ·refine Rn.reg ?_; conv => whnf
  refine Rn.le (a := vA n coin box ls cs ws l ⟨l'.k, -1, l'.t⟩ i w) (DP n coin box ls cs ws l ⟨l'.k, -1, l'.t⟩ i w hw hn hHI hTi hi7 hk hc ht hp (QR hag) (QA hn.1 hok) K') ?_
  refine X.le.mk ?_ ?_ (Nat.le_refl _) rfl rfl
  ·exact Lw
  ·exact Lw
 ·refine Rn.skip ?_; conv => whnf
  refine Rn.le (a := vA n coin box ls cs ws l l' i w) (DP n coin box ls cs ws l l' i w hw hn hHI hTi hi7 hk hc ht hp hag hok K') ?_
  refine X.le.mk ?_ ?_ (Nat.le_refl _) rfl rfl
  ·exact Lw
  ·exact Lw
theorem Lx (n coin box : Int) (ls : List Ln) (cs : List Ct) (ws : List Int) (i : Nat) (w : Int) (C : List Ln) (hw : 0 <= w /\ w <= 65535) (hn : 1 <= n /\ n <= 4) (hHI : HI n ([] : List Ln) ([] : List Ln)) (hTi : ([] : List Ln).length <= i) (hi7 : i <= 7) (hC : CanP n ([] : List Ln) C) (hCl : C.length <= 32) (K' : Ex -> X -> Prop) (hK : ∀ Z, Ny n coin box ls cs ws Z -> K' (.exit 0) Z) : Rn Try.prog 175 Gn (RU n coin box ls cs ws ([] : List Ln) ([] : List Ln) (i : Int) w C) (FD n coin box ls cs ws (i, ([] : List Ln), ([] : List Ln)) K') := by
 conv => whnf
 refine Rn.seq ?_; conv => whnf
 refine Rn.seq ?_; conv => whnf
 refine Rn.reg ?_; conv => whnf
 refine Rn.cond rfl ?_; conv => whnf
 cases C with
 | nil =>
   refine WB.decT (by rfl) ?_; conv => whnf
   refine Rn.exit ?_; conv => whnf
   refine hK _ ⟨rfl, (show 4 <= 4 by omega), ([] : List Ln), ([] : List Ln), (by omega), hHI, ?_⟩
   refine ShrB.of ?_ ?_ rfl rfl
   ·(repeat' first | exact Rel.e | refine Rel.some ?_ ?_ ?_ | refine Rel.none ?_ ?_ | refine Rel.ee ?_ ?_)
    all_goals show Fz _ _ _ _
    all_goals first | exact Fy | exact .pu (cX _) | exact .ns | exact Fz.G ([] : List Ln) (show ¬ (6 : Nat) < 4 by omega) (fun c h => h) nS eD
   ·(repeat' first | exact Rel.e | refine Rel.some ?_ ?_ ?_ | refine Rel.none ?_ ?_ | refine Rel.ee ?_ ?_)
    all_goals first
     | exact ⟨show _ < 4 by simp [Pos.nat], aZ⟩
     | exact ⟨show _ < 4 by simp [Pos.nat], bF⟩
     | exact ⟨show _ < 4 by simp [Pos.nat], aW (.pu (aB _)) (.pu trivial)⟩
 | cons a s =>
   have e1 := aC aM (a :: s)
   rw [List.length_cons] at e1
   refine WB.decF (by omega) ?_; conv => whnf
   refine Rn.skip ?_; conv => whnf
   have b1 := Int.tmod_nonneg ((aD aM (a :: s)).length : Int) hw.1
   have b2 := Int.tmod_lt_of_pos w (show (0 : Int) < ((aD aM (a :: s)).length : Int) by omega)
   obtain ⟨m, hm⟩ := Int.eq_ofNat_of_zero_le b1
   have hml : m < (a :: s).length := by rw [List.length_cons]; omega
   have hl := hC.all _ (bV (d := default) hml)
   refine Rn.seq ?_; conv => whnf
   refine Rn.reg ?_; conv => whnf
   refine And.intro (show _ ≠ (0 : Int) by omega) ?_; conv => whnf
   rw [hm]
   refine WIx.rowsN (f := aM) hml ?_; conv => whnf
   generalize (a :: s).getD m default = l at *
   obtain ⟨hk, hc, ht, hp⟩ := hl
   have hok : cB n l = true := by
    unfold cB
    simp only [Bool.and_eq_true, aP]
    omega
   refine Rn.seq ?_; conv => whnf
   refine Rn.reg ?_; conv => whnf
   refine WSt.app_first (r := aM l) (by rfl) (.inl rfl) (by rfl) (by rfl) (by rfl) (by rfl) ?_; conv => whnf
   refine Rn.seq ?_; conv => whnf
   refine Rn.reg ?_; conv => whnf
   refine Rn.le (a := vA n coin box ls cs ws l l i w) (Ma n coin box ls cs ws l l i w hw hn hHI hTi hi7 hk hc ht hp (qI l) hok K') ?_
   refine X.le.mk ?_ ?_ (Nat.le_refl _) rfl rfl
   ·exact Lw
   ·exact Lw
theorem AN (n coin box : Int) (ls : List Ln) (cs : List Ct) (ws : List Int) (a' : Ln) (s' L : List Ln) (l l' : Ln) (i : Nat) (w : Int) (hw : 0 <= w /\ w <= 65535) (hn : 1 <= n /\ n <= 4) (hHI : HI n (a' :: s') L) (hLl : 0 < L.length /\ L.length <= 8) (hTi : (a' :: s').length <= i) (hi7 : i <= 7) (hk : l.k = 1 \/ l.k = 2) (hc : 0 <= l.c /\ l.c < n) (ht : 0 <= l.t /\ l.t < n) (hp : eG ((a' :: s') ++ [l]) = true) (hag : oI l' l = true) (hok : cB n l' = true) (K' : Ex -> X -> Prop) : Rn Try.prog 175 Hj (tW n coin box ls cs ws a' s' L l l' i w) (FD n coin box ls cs ws (i, (a' :: s'), L) K') := by
 have d0 := Int.tdiv_nonneg hw.1 (show (0 : Int) <= 4096 by omega)
 have d1 : w.tdiv 4096 <= 65535 := by rw [Int.tdiv_eq_ediv_of_nonneg hw.1]; omega
 conv => whnf
 refine Rn.seq ?_; conv => whnf
 refine Rn.seq ?_; conv => whnf
 refine Rn.reg ?_; conv => whnf
 repeat' ((first | refine Qb ?_ | refine Qc ?_) <;> conv => whnf)
 refine Rn.cond rfl ?_; conv => whnf
 refine WB.dec (fun h => ?_) (fun h => ?_) <;> conv => whnf
 ·refine Rn.reg ?_; conv => whnf
  refine Rn.le (a := tW n coin box ls cs ws a' s' L l ⟨0, l'.c, l'.t⟩ i w) (Az n coin box ls cs ws a' s' L l ⟨0, l'.c, l'.t⟩ i w hn hHI hLl hTi hi7 hk hc ht hp (Tm hag) (Ri hok) K') ?_
  refine X.le.mk ?_ ?_ (Nat.le_refl _) rfl rfl
  ·exact Lw
  ·exact Lw
 ·refine Rn.skip ?_; conv => whnf
  refine Rn.le (a := tW n coin box ls cs ws a' s' L l l' i w) (Az n coin box ls cs ws a' s' L l l' i w hn hHI hLl hTi hi7 hk hc ht hp hag hok K') ?_
  refine X.le.mk ?_ ?_ (Nat.le_refl _) rfl rfl
  ·exact Lw
  ·exact Lw
theorem Dg (n coin box : Int) (ls : List Ln) (cs : List Ct) (ws : List Int) (a' : Ln) (s' L : List Ln) (l l' : Ln) (i : Nat) (w : Int) (hw : 0 <= w /\ w <= 65535) (hn : 1 <= n /\ n <= 4) (hHI : HI n (a' :: s') L) (hLl : 0 < L.length /\ L.length <= 8) (hTi : (a' :: s').length <= i) (hi7 : i <= 7) (hk : l.k = 1 \/ l.k = 2) (hc : 0 <= l.c /\ l.c < n) (ht : 0 <= l.t /\ l.t < n) (hp : eG ((a' :: s') ++ [l]) = true) (hag : oI l' l = true) (hok : cB n l' = true) (K' : Ex -> X -> Prop) : Rn Try.prog 175 PH (tW n coin box ls cs ws a' s' L l l' i w) (FD n coin box ls cs ws (i, (a' :: s'), L) K') := by
 have d0 := Int.tdiv_nonneg hw.1 (show (0 : Int) <= 512 by omega)
 have d1 : w.tdiv 512 <= 65535 := by rw [Int.tdiv_eq_ediv_of_nonneg hw.1]; omega
 conv => whnf
 refine Rn.seq ?_; conv => whnf
 refine Rn.seq ?_; conv => whnf
 refine Rn.reg ?_; conv => whnf
 repeat' ((first | refine Qb ?_ | refine Qc ?_) <;> conv => whnf)
 refine Rn.cond rfl ?_; conv => whnf
 refine WB.dec (fun h => ?_) (fun h => ?_) <;> conv => whnf
 ·refine Rn.reg ?_; conv => whnf
  refine Rn.le (a := tW n coin box ls cs ws a' s' L l ⟨l'.k, l'.c, -1⟩ i w) (AN n coin box ls cs ws a' s' L l ⟨l'.k, l'.c, -1⟩ i w hw hn hHI hLl hTi hi7 hk hc ht hp (RZ hag) (Qs hn.1 hok) K') ?_
  refine X.le.mk ?_ ?_ (Nat.le_refl _) rfl rfl
  ·exact Lw
  ·exact Lw
 ·refine Rn.skip ?_; conv => whnf
  refine Rn.le (a := tW n coin box ls cs ws a' s' L l l' i w) (AN n coin box ls cs ws a' s' L l l' i w hw hn hHI hLl hTi hi7 hk hc ht hp hag hok K') ?_
  refine X.le.mk ?_ ?_ (Nat.le_refl _) rfl rfl
  ·exact Lw
  ·exact Lw
theorem JM (n coin box : Int) (ls : List Ln) (cs : List Ct) (ws : List Int) (a' : Ln) (s' L : List Ln) (l l' : Ln) (i : Nat) (w : Int) (hw : 0 <= w /\ w <= 65535) (hn : 1 <= n /\ n <= 4) (hHI : HI n (a' :: s') L) (hLl : 0 < L.length /\ L.length <= 8) (hTi : (a' :: s').length <= i) (hi7 : i <= 7) (hk : l.k = 1 \/ l.k = 2) (hc : 0 <= l.c /\ l.c < n) (ht : 0 <= l.t /\ l.t < n) (hp : eG ((a' :: s') ++ [l]) = true) (hag : oI l' l = true) (hok : cB n l' = true) (K' : Ex -> X -> Prop) : Rn Try.prog 175 Ob (tW n coin box ls cs ws a' s' L l l' i w) (FD n coin box ls cs ws (i, (a' :: s'), L) K') := by
 have d0 := Int.tdiv_nonneg hw.1 (show (0 : Int) <= 64 by omega)
 have d1 : w.tdiv 64 <= 65535 := by rw [Int.tdiv_eq_ediv_of_nonneg hw.1]; omega
 conv => whnf
 refine Rn.seq ?_; conv => whnf
 refine Rn.seq ?_; conv => whnf
 refine Rn.reg ?_; conv => whnf
 repeat' ((first | refine Qb ?_ | refine Qc ?_) <;> conv => whnf)
 refine Rn.cond rfl ?_; conv => whnf
 refine WB.dec (fun h => ?_) (fun h => ?_) <;> conv => whnf
 ·refine Rn.reg ?_; conv => whnf
  refine Rn.le (a := tW n coin box ls cs ws a' s' L l ⟨l'.k, -1, l'.t⟩ i w) (Dg n coin box ls cs ws a' s' L l ⟨l'.k, -1, l'.t⟩ i w hw hn hHI hLl hTi hi7 hk hc ht hp (QR hag) (QA hn.1 hok) K') ?_
  refine X.le.mk ?_ ?_ (Nat.le_refl _) rfl rfl
  ·exact Lw
  ·exact Lw
 ·refine Rn.skip ?_; conv => whnf
  refine Rn.le (a := tW n coin box ls cs ws a' s' L l l' i w) (Dg n coin box ls cs ws a' s' L l l' i w hw hn hHI hLl hTi hi7 hk hc ht hp hag hok K') ?_
  refine X.le.mk ?_ ?_ (Nat.le_refl _) rfl rfl
  ·exact Lw
  ·exact Lw
theorem JE (n coin box : Int) (ls : List Ln) (cs : List Ct) (ws : List Int) (a' : Ln) (s' L : List Ln) (i : Nat) (w : Int) (C : List Ln) (hw : 0 <= w /\ w <= 65535) (hn : 1 <= n /\ n <= 4) (hHI : HI n (a' :: s') L) (hLl : 0 < L.length /\ L.length <= 8) (hTi : (a' :: s').length <= i) (hi7 : i <= 7) (hC : CanP n (a' :: s') C) (hCl : C.length <= 32) (K' : Ex -> X -> Prop) (hK : ∀ Z, Ny n coin box ls cs ws Z -> K' (.exit 0) Z) : Rn Try.prog 175 Gn (RU n coin box ls cs ws L (a' :: s') (i : Int) w C) (FD n coin box ls cs ws (i, (a' :: s'), L) K') := by
 conv => whnf
 refine Rn.seq ?_; conv => whnf
 refine Rn.seq ?_; conv => whnf
 refine Rn.reg ?_; conv => whnf
 refine Rn.cond rfl ?_; conv => whnf
 cases C with
 | nil =>
   refine WB.decT (by rfl) ?_; conv => whnf
   refine Rn.exit ?_; conv => whnf
   refine hK _ ⟨rfl, (show 4 <= 7 by omega), (a' :: s'), L, (by omega), hHI, ?_⟩
   refine ShrB.of ?_ ?_ rfl rfl
   ·(repeat' first | exact Rel.e | refine Rel.some ?_ ?_ ?_ | refine Rel.none ?_ ?_ | refine Rel.ee ?_ ?_)
    all_goals show Fz _ _ _ _
    all_goals first | exact Fy | exact .pu (cX _) | exact .ns | exact Fz.G (a' :: s') (show ¬ (6 : Nat) < 4 by omega) (fun c h => h) nS eD
   ·(repeat' first | exact Rel.e | refine Rel.some ?_ ?_ ?_ | refine Rel.none ?_ ?_ | refine Rel.ee ?_ ?_)
    all_goals first
     | exact ⟨show _ < 4 by simp [Pos.nat], aZ⟩
     | exact ⟨show _ < 4 by simp [Pos.nat], bF⟩
     | exact ⟨show _ < 4 by simp [Pos.nat], aW (.pu (aB _)) (.pu trivial)⟩
 | cons a s =>
   have e1 := aC aM (a :: s)
   rw [List.length_cons] at e1
   refine WB.decF (by omega) ?_; conv => whnf
   refine Rn.skip ?_; conv => whnf
   have b1 := Int.tmod_nonneg ((aD aM (a :: s)).length : Int) hw.1
   have b2 := Int.tmod_lt_of_pos w (show (0 : Int) < ((aD aM (a :: s)).length : Int) by omega)
   obtain ⟨m, hm⟩ := Int.eq_ofNat_of_zero_le b1
   have hml : m < (a :: s).length := by rw [List.length_cons]; omega
   have hl := hC.all _ (bV (d := default) hml)
   refine Rn.seq ?_; conv => whnf
   refine Rn.reg ?_; conv => whnf
   refine And.intro (show _ ≠ (0 : Int) by omega) ?_; conv => whnf
   rw [hm]
   refine WIx.rowsN (f := aM) hml ?_; conv => whnf
   generalize (a :: s).getD m default = l at *
   obtain ⟨hk, hc, ht, hp⟩ := hl
   have hok : cB n l = true := by
    unfold cB
    simp only [Bool.and_eq_true, aP]
    omega
   refine Rn.seq ?_; conv => whnf
   refine Rn.reg ?_; conv => whnf
   refine WSt.app_one (id := (.o (.i .h))) (ds := (aD aM (a' :: s')).flatten) (r := aM l) (by rfl) (by rfl) (by rfl) (by rfl) (by rfl) (by rfl) (by rw [dL (z := 3) nS]; rfl) (by rfl) (by rfl) (by rw [List.length_cons] at hTi; omega) (by rfl) ?_; conv => whnf
   refine Rn.seq ?_; conv => whnf
   refine Rn.reg ?_; conv => whnf
   refine Rn.le (a := tW n coin box ls cs ws a' s' L l l i w) (JM n coin box ls cs ws a' s' L l l i w hw hn hHI hLl hTi hi7 hk hc ht hp (qI l) hok K') ?_
   refine X.le.mk ?_ ?_ (Nat.le_refl _) rfl rfl
   ·exact Lw
   ·exact Lw
theorem FS (n coin box : Int) (ls : List Ln) (cs : List Ct) (ws : List Int) (hws : ∀ w ∈ ws, 0 <= w /\ w <= 65535) (hn : 1 <= n /\ n <= 4) (K' : Ex -> X -> Prop) (hK : ∀ Z, Ny n coin box ls cs ws Z -> K' (.exit 0) Z) : ∀ s, TD n s -> Rn Try.prog 175 Sp (TK n coin box ls cs ws s) (Ii (TK n coin box ls cs ws) (TD n) OU s K') := by
 have iW0 : PureF Try.prog p97.ix [.lst 1 (aD pK ws), .i .i64 0] (.i .i64 (uX ws 0)) := yU ws hws 0
 have hw0 := zP hws 0
 have m0 := Int.tmod_nonneg (9 : Int) hw0.1
 have m1 := Int.tmod_lt_of_pos (uX ws 0) (show (0 : Int) < 9 by omega)
 rintro ⟨i, T, L⟩ ⟨h1, h2, hHI⟩
 have h1 : i <= 8 := h1
 have hTi : T.length <= i := h2
 have hHI : HI n T L := hHI
 have iW1 : PureF Try.prog p97.ix [.lst 1 (aD pK ws), .i .i64 ((i : Int) + 1)] (.i .i64 (uX ws (i + 1))) := yU ws hws (i + 1)
 have hw1 := zP hws (i + 1)
 generalize uX ws 0 = w0 at *
 have hLT := hHI.len
 cases T with
 | nil =>
   obtain rfl : L = [] := List.length_eq_zero_iff.1 hLT
   conv => whnf
   refine Rn.seq ?_; conv => whnf
   refine Rn.seq ?_; conv => whnf
   refine Rn.reg ?_; conv => whnf
   refine WCall.pure iW0 ?_; conv => whnf
   repeat' ((first | refine Qb ?_ | refine Qc ?_) <;> conv => whnf)
   refine Rn.cond rfl ?_; conv => whnf
   refine WB.dec (fun h => ?_) (fun h => ?_) <;> conv => whnf
   ·have hi7 : i <= 7 := by omega
    refine Rn.skip ?_; conv => whnf
    refine Rn.seq ?_; conv => whnf
    refine Rn.blk ?_; conv => whnf
    refine Rn.seq ?_; conv => whnf
    refine Rn.reg ?_; conv => whnf
    repeat' ((first | refine Qb ?_ | refine Qc ?_ | refine WCall.pure iW1 ?_) <;> conv => whnf)
    refine Rn.le (a := Vw n coin box ls cs ws ([] : List Ln) ([] : List Ln) (i : Int) (uX ws (i + 1))) (HA n coin box ls cs ws ([] : List Ln) ([] : List Ln) (i : Int) (uX ws (i + 1)) hn (by omega) (rest := Gn) (K := FD n coin box ls cs ws (i, ([] : List Ln), ([] : List Ln)) K') (fun C hC hl => Lx n coin box ls cs ws i (uX ws (i + 1)) C hw1 hn hHI hTi hi7 hC hl K' hK)) ?_
    refine X.le.mk ?_ ?_ (Nat.le_refl _) rfl rfl
    ·exact Lw
    ·exact Lw
   ·refine Rn.exit ?_; conv => whnf
    refine hK _ ⟨rfl, (show 4 <= 4 by omega), ([] : List Ln), ([] : List Ln), (by omega), hHI, ?_⟩
    refine ShrB.of ?_ ?_ rfl rfl
    ·(repeat' first | exact Rel.e | refine Rel.some ?_ ?_ ?_ | refine Rel.none ?_ ?_ | refine Rel.ee ?_ ?_)
     all_goals show Fz _ _ _ _
     all_goals first | exact Fy | exact .pu (cX _) | exact .ns | exact Fz.G ([] : List Ln) (show ¬ (6 : Nat) < 4 by omega) (fun c h => h) nS eD
    ·(repeat' first | exact Rel.e | refine Rel.some ?_ ?_ ?_ | refine Rel.none ?_ ?_ | refine Rel.ee ?_ ?_)
     all_goals first
      | exact ⟨show _ < 4 by simp [Pos.nat], aZ⟩
      | exact ⟨show _ < 4 by simp [Pos.nat], bF⟩
      | exact ⟨show _ < 4 by simp [Pos.nat], aW (.pu (aB _)) (.pu trivial)⟩
 | cons a' s' =>
   have hLl : 0 < L.length /\ L.length <= 8 := by rw [hLT, List.length_cons]; rw [List.length_cons] at hTi; omega
   conv => whnf
   refine Rn.seq ?_; conv => whnf
   refine Rn.seq ?_; conv => whnf
   refine Rn.reg ?_; conv => whnf
   refine WCall.pure iW0 ?_; conv => whnf
   repeat' ((first | refine Qb ?_ | refine Qc ?_) <;> conv => whnf)
   refine Rn.cond rfl ?_; conv => whnf
   refine WB.dec (fun h => ?_) (fun h => ?_) <;> conv => whnf
   ·have hi7 : i <= 7 := by omega
    refine Rn.skip ?_; conv => whnf
    refine Rn.seq ?_; conv => whnf
    refine Rn.blk ?_; conv => whnf
    refine Rn.seq ?_; conv => whnf
    refine Rn.reg ?_; conv => whnf
    repeat' ((first | refine Qb ?_ | refine Qc ?_ | refine WCall.pure iW1 ?_) <;> conv => whnf)
    refine Rn.le (a := Vw n coin box ls cs ws L (a' :: s') (i : Int) (uX ws (i + 1))) (HA n coin box ls cs ws L (a' :: s') (i : Int) (uX ws (i + 1)) hn (by omega) (rest := Gn) (K := FD n coin box ls cs ws (i, (a' :: s'), L) K') (fun C hC hl => JE n coin box ls cs ws a' s' L i (uX ws (i + 1)) C hw1 hn hHI hLl hTi hi7 hC hl K' hK)) ?_
    refine X.le.mk ?_ ?_ (Nat.le_refl _) rfl rfl
    ·exact Lw
    ·exact Lw
   ·refine Rn.exit ?_; conv => whnf
    refine hK _ ⟨rfl, (show 4 <= 7 by omega), (a' :: s'), L, (by omega), hHI, ?_⟩
    refine ShrB.of ?_ ?_ rfl rfl
    ·(repeat' first | exact Rel.e | refine Rel.some ?_ ?_ ?_ | refine Rel.none ?_ ?_ | refine Rel.ee ?_ ?_)
     all_goals show Fz _ _ _ _
     all_goals first | exact Fy | exact .pu (cX _) | exact .ns | exact Fz.G (a' :: s') (show ¬ (6 : Nat) < 4 by omega) (fun c h => h) nS eD
    ·(repeat' first | exact Rel.e | refine Rel.some ?_ ?_ ?_ | refine Rel.none ?_ ?_ | refine Rel.ee ?_ ?_)
     all_goals first
      | exact ⟨show _ < 4 by simp [Pos.nat], aZ⟩
      | exact ⟨show _ < 4 by simp [Pos.nat], bF⟩
      | exact ⟨show _ < 4 by simp [Pos.nat], aW (.pu (aB _)) (.pu trivial)⟩
def UN : RC := eX (eX (eX (eX (eX Ko))))
structure CtG (box coin : Int) (T : List Ln) (c : Ct) : Prop where
 a : 0 <= c.a /\ c.a <= (T.length : Int)
 r : gS (bZ box coin T c.a.toNat) c.lo c.hi = true
def MJ (n coin box : Int) (v : D) : Prop := ∃ (T L : List Ln) (cs' : List Ct), v = .tp [.ag [.i .i64 n, .i .i64 coin, .i .i64 box, .lst 3 (aD aM L), .lst 3 (aD dZ cs')], .lst 3 (aD aM T)] /\ T.length <= 8 /\ cs'.length <= 3 /\ HI n T L /\ ∀ c ∈ cs', CtG box coin T c
theorem Nw (n coin box : Int) (ls : List Ln) (cs : List Ct) (ws : List Int) (hws : ∀ w ∈ ws, 0 <= w /\ w <= 65535) (hb : 0 <= box /\ box <= 999) (hc : 1 <= coin /\ coin <= 99) (T L : List Ln) (hT8 : T.length <= 8) (hHI : HI n T L) : Rn Try.prog 175 UN (TC n coin box ls cs ws T L) (FinX Sq (MJ n coin box)) := by
 have e1 := aC aM T
 have iW10 : PureF Try.prog p97.ix [.lst 1 (aD pK ws), .i .i64 10] (.i .i64 (uX ws 10)) := yU ws hws 10
 have hw10 := zP hws 10
 have m0 := Int.tmod_nonneg (4 : Int) hw10.1
 have m1 := Int.tmod_lt_of_pos (uX ws 10) (show (0 : Int) < 4 by omega)
 generalize uX ws 10 = w10 at *
 conv => whnf
 refine Qg ?_
 refine Rn.loop (fun s : Nat × List Ct => match s with | (q, A) => (⟨(.n (.n (.n (.n .e (some (.lst 3 (aD aM T))) .e) none .e) (some (.lst 1 (aD pK ws))) .e) none (.n (.n (.n (.n .e (some (.i .i64 (q : Int))) .e) none .e) (some (.pt (.o .h) 0 0)) .e) (some (.pt .h 0 0)) (.n .e (some (.pt (.i .h) 0 0)) .e))), (.n (.n .e (some (lL)) (.n .e (BW dZ A) .e)) (some (jU n coin box ls cs)) (.n .e (some (jR n coin box (.lst 3 (aD aM L)) (Ao (.o (.i .h)) 3 A))) .e)), BT (.o (.o .h)) (.i (.i .h)) A, none⟩ : X)) (fun s => s.1 <= 3 /\ s.2.length <= s.1 /\ ∀ c ∈ s.2, CtG box coin T c) (fun s => 3 - s.1) (0, []) ?_ ?_ ?_
 ·refine X.le.mk ?_ ?_ (Nat.le_refl _) rfl rfl
  all_goals (repeat' first | exact Ev.T.le_e _ | exact Ev.T.le_refl _ | refine Ev.T.le_some ?_ rfl ?_ | refine Ev.T.le_none ?_ ?_ | refine Ev.T.le_ee ?_ ?_)
 ·exact ⟨Nat.zero_le _, Nat.zero_le _, fun c h => by cases h⟩
 rintro ⟨q, A⟩ ⟨hq3, hAl, hAg⟩
 have hq3 : q <= 3 := hq3
 have hAl : A.length <= q := hAl
 have hAg : ∀ c ∈ A, CtG box coin T c := hAg
 conv => whnf
 repeat' ((first | refine Qw ?_ | refine Qf iW10 ?_ | refine Qv ?_) <;> conv => whnf)
 refine WB.dec (fun h => ?_) (fun h => ?_) <;> conv => whnf
 ·have hq2 : q < 3 := by omega
  have iWq : PureF Try.prog p97.ix [.lst 1 (aD pK ws), .i .i64 ((q : Int) + 11)] (.i .i64 (uX ws (q + 11))) := yU ws hws (q + 11)
  have hwq := zP hws (q + 11)
  generalize uX ws (q + 11) = wq at *
  have u1 := Int.tdiv_nonneg hwq.1 (show (0 : Int) <= 16 by omega)
  have u2 := Int.tdiv_nonneg hwq.1 (show (0 : Int) <= 128 by omega)
  have u3 : wq.tdiv 16 <= 65535 := by rw [Int.tdiv_eq_ediv_of_nonneg hwq.1]; omega
  have u4 : wq.tdiv 128 <= 65535 := by rw [Int.tdiv_eq_ediv_of_nonneg hwq.1]; omega
  have t1 := Int.tmod_nonneg (8 : Int) u1
  have t2 := Int.tmod_lt_of_pos (wq.tdiv 16) (show (0 : Int) < 8 by omega)
  have t3 := Int.tmod_nonneg (8 : Int) u2
  have t4 := Int.tmod_lt_of_pos (wq.tdiv 128) (show (0 : Int) < 8 by omega)
  have b1 := Int.tmod_nonneg (((aD aM T).length : Int) + 1) hwq.1
  have b2 := Int.tmod_lt_of_pos wq (show (0 : Int) < ((aD aM T).length : Int) + 1 by omega)
  obtain ⟨m, hm⟩ := Int.eq_ofNat_of_zero_le b1
  have hmT : m <= T.length := by omega
  have iN := KS n coin box ls cs T m hb hc (by omega) hmT
  unfold CW at iN
  have hmb := qR (T := T) hb hc m
  have hcg : 0 <= bZ box coin T m -> CtG box coin T ⟨(m : Int), max 0 (bZ box coin T m - (wq.tdiv 16).tmod 8), max 0 (bZ box coin T m + (wq.tdiv 128).tmod 8)⟩ := fun h0 => ⟨⟨Int.natCast_nonneg _, by show (m : Int) <= _; omega⟩, by
   show gS (bZ box coin T (m : Int).toNat) _ _ = true
   rw [Int.toNat_natCast, aP]
   show max 0 _ <= _ /\ _ <= max 0 _
   omega⟩
  generalize bZ box coin T m = mon at *
  have hmb : -99 * (m : Int) <= mon /\ mon <= 999 + 99 * (m : Int) := hmb
  have hmb2 : -792 <= mon /\ mon <= 1791 := by omega
  by_cases hm0 : 0 <= mon
  ·have hcg := hcg hm0
   cases A with
   | nil =>
     repeat' ((first | refine Qw ?_ | refine Qf iWq ?_ | refine Qv ?_) <;> conv => whnf)
     rw [hm]
     repeat' ((first | refine Qw ?_ | refine Qf iN ?_ | refine Qv ?_) <;> conv => whnf)
     refine WSt.app_first (r := dZ ⟨(m : Int), max 0 (mon - (wq.tdiv 16).tmod 8), max 0 (mon + (wq.tdiv 128).tmod 8)⟩) (by rfl) (.inl rfl) (by rfl) (by rfl) (by rfl) (by rfl) ?_; conv => whnf
     refine Qg ?_
     refine Again.to (q + 1, [⟨(m : Int), max 0 (mon - (wq.tdiv 16).tmod 8), max 0 (mon + (wq.tdiv 128).tmod 8)⟩]) (show 3 - (q + 1) < 3 - q by omega) ⟨(show q + 1 <= 3 by omega), (show 1 <= q + 1 by omega), (fun c hc => by rw [List.mem_singleton.1 hc]; exact hcg)⟩ (show 4 <= 7 by omega) ?_
     refine Shr.of ?_ ?_ rfl rfl
     ·(repeat' first | exact Rel.e | refine Rel.some ?_ ?_ ?_ | refine Rel.none ?_ ?_ | refine Rel.ee ?_ ?_)
      all_goals show Fz _ _ _ _
      all_goals first | exact Fy | exact .pu (cX _) | exact .pu (aB _)
     ·(repeat' first | exact Rel.e | refine Rel.some ?_ ?_ ?_ | refine Rel.none ?_ ?_ | refine Rel.ee ?_ ?_)
      all_goals first
       | exact Ro aZ
       | exact Ro bF
       | exact Ro (aW (.pu (aB _)) (.pu trivial))
       | exact Ro (aW (.pu (aB _)) (.ksl (Ql rfl)))
       | (refine Ro (ShC.same fun c hc => ?_); obtain ⟨d, hd, rfl⟩ := List.mem_map.1 hc; exact .pu (aG.1 (FT _) d hd))
   | cons a s =>
     repeat' ((first | refine Qw ?_ | refine Qf iWq ?_ | refine Qv ?_) <;> conv => whnf)
     rw [hm]
     repeat' ((first | refine Qw ?_ | refine Qf iN ?_ | refine Qv ?_) <;> conv => whnf)
     refine WSt.app_one (id := (.o (.i .h))) (ds := (aD dZ (a :: s)).flatten) (r := dZ ⟨(m : Int), max 0 (mon - (wq.tdiv 16).tmod 8), max 0 (mon + (wq.tdiv 128).tmod 8)⟩) (by rfl) (by rfl) (by rfl) (by rfl) (by rfl) (by rfl) (by rw [dL (z := 3) RV]; rfl) (by rfl) (by rfl) (by have h := hAl; rw [List.length_cons] at h; omega) (by rfl) ?_; conv => whnf
     refine Qg ?_
     refine Again.to (q + 1, (a :: (s ++ [⟨(m : Int), max 0 (mon - (wq.tdiv 16).tmod 8), max 0 (mon + (wq.tdiv 128).tmod 8)⟩]))) (show 3 - (q + 1) < 3 - q by omega) ⟨(show q + 1 <= 3 by omega), (by show (s ++ [_]).length + 1 <= q + 1; have h := hAl; rw [List.length_cons] at h; rw [List.length_append, List.length_singleton]; omega), (fun c hc => by rcases List.mem_append.1 (show c ∈ (a :: s) ++ [_] from hc) with hc | hc; exact hAg c hc; rw [List.mem_singleton.1 hc]; exact hcg)⟩ (show 7 <= 7 by omega) ?_
     refine Shr.of ?_ ?_ rfl rfl
     ·(repeat' first | exact Rel.e | refine Rel.some ?_ ?_ ?_ | refine Rel.none ?_ ?_ | refine Rel.ee ?_ ?_)
      all_goals show Fz _ _ _ _
      all_goals first | exact Fy | exact .pu (cX _) | exact .pu (aB _)
     ·show Rel _ _ ((.n (.n .e (some (lL)) (.n .e (BW dZ (a :: (s ++ [⟨(m : Int), max 0 (mon - (wq.tdiv 16).tmod 8), max 0 (mon + (wq.tdiv 128).tmod 8)⟩]))) .e)) (some (jU n coin box ls cs)) (.n .e (some (jR n coin box (.lst 3 (aD aM L)) (Ao (.o (.i .h)) 3 (a :: (s ++ [⟨(m : Int), max 0 (mon - (wq.tdiv 16).tmod 8), max 0 (mon + (wq.tdiv 128).tmod 8)⟩]))))) .e)) : Ev.T Ev.C) _
      rw [lW, mB]
      (repeat' first | exact Rel.e | refine Rel.some ?_ ?_ ?_ | refine Rel.none ?_ ?_ | refine Rel.ee ?_ ?_)
      all_goals first
       | exact Ro aZ
       | exact Ro bF
       | exact Ro (aW (.pu (aB _)) (.pu trivial))
       | exact Ro (aW (.pu (aB _)) (.ksl (Ql rfl)))
       | (refine Ro (ShC.grown (by omega) (aG.2 fun d hd => ?_)); rcases List.mem_append.1 hd with hd | hd <;> first | exact aG.1 (gP FT _) d hd | exact aG.1 (FT _) d hd)
  ·cases A with
   | nil =>
     repeat' ((first | refine Qw ?_ | refine Qf iWq ?_ | refine Qv ?_) <;> conv => whnf)
     rw [hm]
     repeat' ((first | refine Qw ?_ | refine Qf iN ?_ | refine Qv ?_) <;> conv => whnf)
     refine Again.to (q + 1, []) (show 3 - (q + 1) < 3 - q by omega) ⟨(show q + 1 <= 3 by omega), (Nat.zero_le _), hAg⟩ (show 4 <= 4 by omega) ?_
     refine Shr.of ?_ ?_ rfl rfl
     ·(repeat' first | exact Rel.e | refine Rel.some ?_ ?_ ?_ | refine Rel.none ?_ ?_ | refine Rel.ee ?_ ?_)
      all_goals show Fz _ _ _ _
      all_goals first | exact Fy | exact .pu (cX _) | exact .pu (aB _)
     ·(repeat' first | exact Rel.e | refine Rel.some ?_ ?_ ?_ | refine Rel.none ?_ ?_ | refine Rel.ee ?_ ?_)
      all_goals first
       | exact Ro aZ
       | exact Ro bF
       | exact Ro (aW (.pu (aB _)) (.pu trivial))
       | exact Ro (aW (.pu (aB _)) (.ksl (Ql rfl)))
   | cons a s =>
     repeat' ((first | refine Qw ?_ | refine Qf iWq ?_ | refine Qv ?_) <;> conv => whnf)
     rw [hm]
     repeat' ((first | refine Qw ?_ | refine Qf iN ?_ | refine Qv ?_) <;> conv => whnf)
     refine Again.to (q + 1, (a :: s)) (show 3 - (q + 1) < 3 - q by omega) ⟨(show q + 1 <= 3 by omega), (by show s.length + 1 <= q + 1; have h := hAl; rw [List.length_cons] at h; omega), hAg⟩ (show 7 <= 7 by omega) ?_
     refine Shr.of ?_ ?_ rfl rfl
     ·(repeat' first | exact Rel.e | refine Rel.some ?_ ?_ ?_ | refine Rel.none ?_ ?_ | refine Rel.ee ?_ ?_)
      all_goals show Fz _ _ _ _
      all_goals first | exact Fy | exact .pu (cX _) | exact .pu (aB _)
     ·(repeat' first | exact Rel.e | refine Rel.some ?_ ?_ ?_ | refine Rel.none ?_ ?_ | refine Rel.ee ?_ ?_)
      all_goals first
       | exact Ro aZ
       | exact Ro bF
       | exact Ro (aW (.pu (aB _)) (.pu trivial))
       | exact Ro (aW (.pu (aB _)) (.ksl (Ql rfl)))
       | exact Ro (ShC.G FT a s)
 ·refine Qg ?_
  refine ⟨_, ⟨T, L, A, rfl, hT8, (by omega), hHI, hAg⟩, ?_⟩
  exact ⟨.inr rfl, _, rfl, .tp (.cons (.ag (.cons (.pu trivial) (.cons (.pu trivial) (.cons (.pu trivial) (.cons (.pu (aB _)) (.cons (Fz.G A (fun h => h) (fun c h => h) RV FT) .nil)))))) (.cons (.pu (aB _)) .nil))⟩
def VY (n coin box : Int) (ls : List Ln) (cs : List Ct) (ws : List Int) : X := ⟨(.n (.n .e (some (.lst 1 (aD pK ws))) .e) none (.n (.n .e (some (.pt (.o .h) 0 0)) .e) (some (.pt .h 0 0)) (.n .e (some (.pt (.i .h) 0 0)) .e))), (.n (.n .e (some (lL)) .e) (some (jU n coin box ls cs)) (.n .e (some (jR n coin box (.lst 3 (aD aM [])) .ns)) .e)), .o (.o .h), none⟩
theorem Mg (n coin box : Int) (ls : List Ln) (cs : List Ct) (ws : List Int) (hws : ∀ w ∈ ws, 0 <= w /\ w <= 65535) (hn : 1 <= n /\ n <= 4) (hb : 0 <= box /\ box <= 999) (hc : 1 <= coin /\ coin <= 99) : ∃ v, MJ n coin box v /\ PureF Try.prog p54.ix [.ag [.i .i64 n, .i .i64 coin, .i .i64 box, .lst 3 (aD aM ls), .lst 3 (aD dZ cs)], .lst 1 (aD pK ws)] v := by
 refine PureF.runE Uy (by simp) (by simp [aO, eB, Pu, aB, aE, cX]) ?_; conv => whnf
 refine Rn.seq ?_; conv => whnf
 refine Rn.reg ?_; conv => whnf
 refine Rn.far rfl ?_
 refine RnF.seq ?_; conv => whnf
 refine Qg ?_
 refine ⟨rfl, rfl, (show 3 <= 4 by omega), ?_⟩
 refine RnF.seq ?_; conv => whnf
 refine Qg ?_
 refine ⟨rfl, rfl, (show 3 <= 4 by omega), RnF.turn (z' := VY n coin box ls cs ws) (B := fun id => id.nat < 4) ?_ (fun id (h : id.nat < 3) => show id.nat < 4 by omega) (fun id h => h) (show 3 <= 4 by omega) ?_⟩
 ·refine ShrB.of ?_ ?_ rfl rfl
  ·(repeat' first | exact Rel.e | refine Rel.some ?_ ?_ ?_ | refine Rel.none ?_ ?_ | refine Rel.ee ?_ ?_)
   all_goals show Fz _ _ _ _
   all_goals first | exact Fy | exact .pu (cX _)
  ·(repeat' first | exact Rel.e | refine Rel.some ?_ ?_ ?_ | refine Rel.none ?_ ?_ | refine Rel.ee ?_ ?_)
   all_goals first
    | exact ⟨show _ < 4 by simp [Pos.nat], aZ⟩
    | exact ⟨show _ < 4 by simp [Pos.nat], bF⟩
    | exact ⟨show _ < 4 by simp [Pos.nat], aW .ns (.pu trivial)⟩
 conv => whnf
 refine Rn.seq ?_; conv => whnf
 refine Rn.reg ?_; conv => whnf
 refine Rn.far rfl ?_
 refine RnF.seq ?_; conv => whnf
 refine Rn.seq ?_; conv => whnf
 refine Rn.reg ?_; conv => whnf
 refine Rn.blk ?_; conv => whnf
 refine Rn.loop (TK n coin box ls cs ws) (TD n) OU (0, [], []) ?_ ⟨Nat.zero_le _, Nat.zero_le _, HI.nil⟩ (FS n coin box ls cs ws hws hn _ (fun Z hZ => ?_))
 ·refine X.le.mk ?_ ?_ (Nat.le_refl _) rfl rfl
  ·exact Lw
  ·exact Lw
 ·obtain ⟨hl, hx, T, L, h8, hHI, hS⟩ := hZ
  show FarK _ _ _ _ _ _ _
  exact ⟨rfl, hl, hx, RnF.turn hS (fun id h => h) (fun id h => h) (Nat.le_refl _) (Nw n coin box ls cs ws hws hb hc T L h8 hHI)⟩
deriving instance DecidableEq for Ln
abbrev VU := List (Ln × Bool)
open Go.RowKit (Below Grown)
section
variable {γ γ' : Gh} {w : World} {n : Nat}
theorem HoldsO.kp2 {P : Program} (him : ∀ b, γ.im b -> γ'.im b) (hc : ∀ id : Pos, id.nat < n -> γ'.cur id = γ.cur id /\ γ'.β id = γ.β id) {id : Pos} (hid : γ'.cur id = γ.cur id /\ γ'.β id = γ.β id) : ∀ {c : C}, KpC n c -> HoldsO P γ w id c -> HoldsO P γ' w id c
 | .cells ro cs cur, k, H => by
   obtain ⟨h0, h1, h2⟩ := H
   obtain ⟨e1, e2⟩ := hid
   refine ⟨h0, e1.trans h1, fun st hst => ?_⟩
   obtain ⟨vs, e, fr, h3, h4, h5⟩ := h2 st hst
   rw [e2]
   exact ⟨vs, e, fr, h3, h4, fun p c hp hh hd => by
    obtain ⟨u, h6, h7, h8⟩ := h5 p c hp hh hd
    exact ⟨u, h6, DV.kp him hc _ _ (k c (List.mem_of_getElem? hp)) h7, h8⟩⟩
 | .map es, k, H => by
   obtain ⟨h1, en, cl, h2, h3, h4⟩ := H
   obtain ⟨e1, e2⟩ := hid
   refine ⟨e1.trans h1, en, cl, by rw [e2]; exact h2, h3, fun i e f he hf => ?_⟩
   obtain ⟨k1, k2⟩ := k e (List.mem_of_getElem? he)
   exact ⟨DV.kp him hc _ _ k1 (h4 i e f he hf).1, DV.kp him hc _ _ k2 (h4 i e f he hf).2⟩
 | .lp sl ps nt asg body st jump, k, H => by
   obtain ⟨h1, l, h2, h3, h4, h5, h6⟩ := H
   obtain ⟨e1, e2⟩ := hid
   refine ⟨e1.trans h1, l, by rw [e2]; exact h2, h3, h4, fun s d hs => ⟨(h5 s d hs).1, DV.kp him hc _ _ (k s d hs) (h5 s d hs).2⟩, h6⟩
 | .hole, _, H => (hid).1.trans H
end
structure Fill2 (nx a : Pos) (ob1 ob2 : T C) : Prop where
 ok : ∃ (r q : Pos) (ro : Bool) (n st z k m jA cur : Nat) (ds : List D), r.nat < nx.nat /\ q.nat < r.nat /\ ob1.get r = some .hole /\ aO ds /\
  ob1.get a = some (.cells false (ds.map fun d => Cell.o d jA) cur) /\ ob1.get q = some (.cells ro [.o (.sl a 0 n st z) k] m) /\
  ∀ i ci, ob2.get i = some ci -> (i = r /\ ci = .cells false (ds.map fun d => Cell.o d jA) cur) \/ (i = q /\ ci = .cells ro [.o (.sl r 0 n st z) k] m) \/ (i ≠ r /\ i.nat < nx.nat /\ ob1.get i = some ci /\ KpC r.nat ci)
structure RndEF2 (Φ : Bool -> T C -> Prop) (id : Pos) (nx' : Pos) (e : Ex) (z : X) : Prop where
 ok : ∃ a b m c q s j ob' ob2, z.lg = none /\ z.ob.get id = some (.lp a b m c q s j) /\ ∃ nx1 a0, nx'.nat <= nx1.nat /\ nx'.nat <= a0.nat /\ Shr ⟨.e, T.set id (.lp a b m c q (Fh e) (Fc e)) z.ob, z.nx, none⟩ ⟨.e, ob', nx1, none⟩ /\ Fill2 nx' a0 ob' ob2 /\ Φ (Ax e) ob2
section
variable {M : dQ} {m : VU} {row lrow : List D} (h1 : aO row) (h2 : aO lrow)
include h1 h2
end
section
variable {M : dQ} {m : VU} {row lrow : List D} (h1 : aO row) (h2 : aO lrow)
include h1 h2
end
def Tg (B : Bk) (line : Nat) : List Ln := (nU B.n (B.ls.getD line default)).filter fun l => (hU B B.ls.length []).any fun X => decide (X.getD line default = l)
end Go.Ev
end
