import Derived.Test.YtjgbfnciedkafaaEvUJb
import Derived.Test.YtjgbfnciedkafaaEvUJ6
import Derived.Test.YtjgbfnciedkafaaEvUJs
set_option linter.all false
set_option maxHeartbeats 8000000
noncomputable section
namespace Go.Ev
open Go.Proofs
set_option maxRecDepth 100000
section
variable {sl : T D} {ob : T C} {nx : Pos} {lg : Option (T Bool)} {K : X -> Prop}
theorem WSt.app_firstL {d idy : Pos} {z curY : Nat} {roY : Bool} {x y : RX} {a : D} {r : List D} {csY : List Cell} (hx : bE sl x = some a) (ha : a = .ns \/ a = .em) (hy : bE sl y = some (.sl idy 0 1 0 z)) (hoy : ob.get idy = some (.cells roY csY curY)) (hcy : csY = r.map fun d => Cell.o d 0) (hr : r.length = z)
 (h : Gu lg idy fun lg => Lm lg nx fun lg => T.setK nx (.cells false (r.map fun d => Cell.o d 0) 1) ob fun ob => Pos.succK nx fun nx' => dL sl ob nx' lg d K (.sl nx 0 1 0 z)) : WSt (.app d z x y) ⟨sl, ob, nx, lg⟩ K := by
 obtain ⟨l1, e1, h⟩ := jT h
 obtain ⟨l2, e2, h⟩ := nH h
 rw [T.setK_eq, Pos.succK_eq] at h
 obtain ⟨h2, h3⟩ := aV h
 refine ⟨_, ?_, h3⟩
 show fO d z x y sl ob nx lg = _
 unfold fO
 rw [hx, hy]
 subst hcy hr
 have hb : Nat.beq r.length r.length = true := Nat.beq_refl _
 have hrd : fA (β := X) 0 (Nat.mul 1 r.length) (eZ 0 (r.map fun d => Cell.o d 0)) = fun k => k r := by
  rw [cE, List.drop_zero, show Nat.mul 1 r.length = r.length from Nat.one_mul _]
  have key : ∀ (l : List D) (k : List D -> Option X), fA 0 l.length (l.map fun d => Cell.o d 0) k = k l := by
   intro l
   induction l with
   | nil => exact fun k => rfl
   | cons a l ih => exact fun k => ih fun ds => k (a :: ds)
  exact funext fun k => key r k
 simp only [uK, hb, cond_true, hoy, hrd, wX, e1]
 have hle : Nat.ble (Nat.succ 0) 2147483648 = true := rfl
 rcases ha with rfl | rfl <;> simp only [hle, cond_true, lH, gS, e2, T.setK_eq, Pos.succK_eq] <;> exact h2
theorem WSt.app_oneL {d id idy : Pos} {z st len len' cur curY : Nat} {roY : Bool} {x y : RX} {ds r : List D} {csY : List Cell} {ob2 : T C} (hx : bE sl x = some (.sl id 0 len st z)) (hy : bE sl y = some (.sl idy 0 1 0 z)) (hoy : ob.get idy = some (.cells roY csY curY)) (hcy : csY = r.map fun d => Cell.o d 0) (hr : r.length = z) (hox : ob.get id = some (.cells false (ds.map fun d => Cell.o d st) cur)) (hds : ds.length = len * z) (hcur : cur = st + 1) (hlen : len' = len + 1) (hmax : len < 2147483648)
 (hob2 : T.set id (.cells false ((ds.map fun d => Cell.o d st) ++ r.map fun d => Cell.o d cur) (cur + 1)) ob = ob2) (h : Gu lg idy fun lg => Lm lg id fun lg => dL sl ob2 nx lg d K (.sl id 0 len' cur z)) : WSt (.app d z x y) ⟨sl, ob, nx, lg⟩ K := by
 obtain ⟨l1, e1, h⟩ := jT h
 obtain ⟨l2, e2, h⟩ := nH h
 obtain ⟨h2, h3⟩ := aV h
 refine ⟨_, ?_, h3⟩
 show fO d z x y sl ob nx lg = _
 unfold fO
 rw [hx, hy]
 subst hcy hr hlen hob2
 have hb : Nat.beq r.length r.length = true := Nat.beq_refl _
 have hrd : fA (β := X) 0 (Nat.mul 1 r.length) (eZ 0 (r.map fun d => Cell.o d 0)) = fun k => k r := by
  rw [cE, List.drop_zero, show Nat.mul 1 r.length = r.length from Nat.one_mul _]
  have key : ∀ (l : List D) (k : List D -> Option X), fA 0 l.length (l.map fun d => Cell.o d 0) k = k l := by
   intro l
   induction l with
   | nil => exact fun k => rfl
   | cons a l ih => exact fun k => ih fun ds => k (a :: ds)
  exact funext fun k => key r k
 simp only [uK, hb, cond_true, hoy, hrd, wX, e1]
 simp only [hox]
 have hidx : Nat.add 0 (Nat.mul len r.length) = ds.length := by rw [hds]; exact Nat.zero_add _
 rw [hidx, tC ds cur _ hcur]
 simp only [List.append_nil, bP, jG, e2, T.setK_eq]
 have e3 : Nat.add len (Nat.succ 0) = len + 1 := rfl
 rw [e3, Nat.ble_eq_true_of_le (show len + 1 <= 2147483648 from hmax)]
 exact h2
end
def cJ {α : Type} (f : α -> List D) (l : List α) (n : Nat) : List D := (aC f (l.take n)).flatten
theorem pH {α : Type} {f : α -> List D} (hf : ∀ a, (f a).length = 3) (l : List α) {n : Nat} (h : n <= l.length) : (cJ f l n).length = n * 3 := by
 induction n with
 | zero => simp [cJ, aC]
 | succ n ih =>
   have := ih (by omega)
   unfold cJ at *
   rw [List.take_succ_eq_append_getElem (by omega), aC, List.map_append, List.flatten_append, List.length_append]
   simp only [aC] at this
   rw [this]
   simp [hf]
   omega
theorem kH {α : Type} [Inhabited α] (f : α -> List D) (l : List α) {n : Nat} (h : n < l.length) : cJ f l (n + 1) = cJ f l n ++ f (l.getD n default) := by
 unfold cJ
 rw [List.take_succ_eq_append_getElem h, aC, List.map_append, List.flatten_append]
 simp [aC, List.getD, h]
theorem yW {α : Type} {f : α -> List D} (hf : ∀ a, aO (f a)) (l : List α) (n : Nat) : aO (cJ f l n) := by
 unfold cJ
 exact aF.2 fun d hd => by
  obtain ⟨r, hr, hd⟩ := List.mem_flatten.1 hd
  exact aF.1 (rJ.1 (lX hf _) r hr) d hd
theorem Jf (l : Ln) : aO (aI l) := by simp [aI, aO, Pu]
theorem Nc (c : Ct) : aO (cY c) := by simp [cY, aO, Pu]
theorem Ud (a b : Int) : PureF Try.prog p41.ix [.ag [.i .i64 a, .i .i64 b]] (.ag [.i .i64 a, .i .i64 b]) := by
 refine PureF.run Xq (by simp) (by simp [aO, dF, Pu, aH, aB, aE]) ?_; conv => whnf
 refine Qg ?_
 exact ⟨.inr rfl, _, rfl, .ag (.cons (.pu trivial) (.cons (.pu trivial) .nil))⟩
theorem EW (Tr : List Ln) (hT : Tr.length <= 65536) : PureF Try.prog p25.ix [.lst 3 (aC aI Tr)] (.lst 3 (aC aI Tr)) := by
 have e1 := aD aI Tr
 refine PureF.run WY (by simp) (by simp [aO, dF, Pu, aH, aB, aE]) ?_; conv => whnf
 refine Qg ?_
 refine Rn.loop (fun j : Nat => match j with
  | 0 => ⟨(.n (.n (.n .e (some (.ns)) .e) none .e) (some (.lst 3 (aC aI Tr))) (.n (.n .e (some (.i .i64 0)) .e) none .e)), .e, .h, none⟩
  | j + 1 => ⟨(.n (.n (.n .e (some (.sl (.o .h) 0 (j + 1) j 3)) .e) none .e) (some (.lst 3 (aC aI Tr))) (.n (.n .e (some (.i .i64 ((j + 1 : Nat) : Int))) .e) none .e)), (.n (.n .e (some (.cells false ((cJ aI Tr (j + 1)).map fun d => Cell.o d j) (j + 1))) .e) none .e), .i .h, none⟩) (fun j => j <= Tr.length) (fun j => Tr.length - j) 0 ?_ ?_ ?_
 ·(first | (refine X.le.mk ?_ ?_ (Nat.le_refl _) rfl rfl) | skip) <;> (repeat' first | exact T.le_e _ | refine T.le_some ?_ ?_ ?_ | refine T.le_none ?_ ?_ | rfl)
 ·exact Nat.zero_le _
 rintro (_ | j) hj
 ·conv => whnf
  refine Qg ?_
  refine WB.dec (fun h => ?_) (fun h => ?_) <;> conv => whnf
  ·have hlt : 0 < Tr.length := by omega
   refine Qg ?_
   refine WSt.app_firstL (r := aI (Tr.getD 0 default)) rfl (.inl rfl) rfl rfl rfl rfl ?_; conv => whnf
   refine Qg ?_
   refine Again.to 1 (by show Tr.length - 1 < Tr.length - 0; omega) (by show 1 <= Tr.length; omega) (Nat.le_of_ble_eq_true rfl) ?_
   have ht : cJ aI Tr 1 = aI (Tr.getD 0 default) := by rw [kH aI Tr hlt]; simp [cJ, aC]
   refine Shr.of ?_ ?_ rfl rfl
   ·exact Rw
   ·(repeat' first | exact Rel.e | refine Rel.some ?_ ?_ ?_ | refine Rel.none ?_ ?_ | refine Rel.ee ?_ ?_)
    all_goals first
     | (refine RO'.of (show Pos.nat _ < Pos.nat _ by simp [Pos.nat]) ?_
        show ShC _ _ _ (.cells false ((cJ aI Tr 1).map fun d => Cell.o d 0) 1)
        rw [ht]
        exact ShC.same (ShC.cn (.pu trivial) (ShC.cn (.pu trivial) (ShC.cn (.pu trivial) ShC.nl))))
  ·refine Qg ?_
   refine Fin.t (.inr rfl) rfl ?_
   rw [show Tr = [] from List.length_eq_zero_iff.1 (by omega)]
   exact Fz.ns
 ·have hj : j + 1 <= Tr.length := hj
  conv => whnf
  refine Qg ?_
  refine WB.dec (fun h => ?_) (fun h => ?_) <;> conv => whnf
  ·have hlt : j + 1 < Tr.length := by omega
   refine Qg ?_
   refine WSt.app_oneL (ds := cJ aI Tr (j + 1)) (r := aI (Tr.getD (j + 1) default)) rfl rfl rfl rfl rfl rfl (pH (fun _ => rfl) Tr (by omega)) rfl rfl (by omega) rfl ?_; conv => whnf
   refine Qg ?_
   refine Again.to (j + 2) (by show Tr.length - (j + 2) < Tr.length - (j + 1); omega) (by show j + 2 <= Tr.length; omega) (Nat.le_of_ble_eq_true rfl) ?_
   refine Shr.of ?_ ?_ rfl rfl
   ·exact Rw
   ·(repeat' first | exact Rel.e | refine Rel.some ?_ ?_ ?_ | refine Rel.none ?_ ?_ | refine Rel.ee ?_ ?_)
    all_goals first
     | (refine RO'.of (show Pos.nat _ < Pos.nat _ by simp [Pos.nat]) ?_
        show ShC _ _ (.cells false (((cJ aI Tr (j + 1)).map fun d => Cell.o d j) ++ (aI (Tr.getD (j + 1) default)).map fun d => Cell.o d (j + 1)) (j + 1 + 1)) (.cells false ((cJ aI Tr (j + 1 + 1)).map fun d => Cell.o d (j + 1)) (j + 1 + 1))
        rw [kH aI Tr hlt]
        exact ShC.grown (by omega) (aF.2 fun d hd => (List.mem_append.1 hd).elim (fun hd => aF.1 (yW Jf Tr _) d hd) (fun hd => aF.1 (Jf _) d hd)))
  ·refine Qg ?_
   refine Fin.t (.inr rfl) rfl ?_
   exact Frz.whole (cs := (cJ aI Tr (j + 1)).map fun d => Cell.o d j) (cur := j + 1) rfl (by rw [aD]; omega) (dJ _) (by unfold cJ; rw [List.take_of_length_le (by omega)]) (aB _)
def Rr (n coin box : Int) (ls : List Ln) (d : D) : C := .cells false ([.i .i64 n, .i .i64 coin, .i .i64 box, .lst 3 (aC aI ls), d].map fun d => Cell.o d 0) 1
theorem Ak (n coin box : Int) (ls : List Ln) {d : D} {B : Pos -> Prop} {ob : T C} (h : Fz B ob d d) : ShC B ob (Rr n coin box ls d) (Rr n coin box ls d) := ShC.same (ShC.cn (.pu trivial) (ShC.cn (.pu trivial) (ShC.cn (.pu trivial) (ShC.cn (.pu (aB _)) (ShC.cn h ShC.nl)))))
def Wk : C := .cells false ([.i .i64 0, .i .i64 0, .i .i64 0, .ns, .ns].map fun d => Cell.o d 0) 1
theorem JY {B : Pos -> Prop} {ob : T C} : ShC B ob Wk Wk := ShC.same (ShC.cn (.pu trivial) (ShC.cn (.pu trivial) (ShC.cn (.pu trivial) (ShC.cn (.pu trivial) (ShC.cn (.pu trivial) ShC.nl)))))
theorem PW (n coin box : Int) (ls : List Ln) (cs : List Ct) (hl : ls.length <= 65536) (hc : cs.length <= 65536) :
 PureF Try.prog p24.ix [.ag [.i .i64 n, .i .i64 coin, .i .i64 box, .lst 3 (aC aI ls), .lst 3 (aC cY cs)]] (.ag [.i .i64 n, .i .i64 coin, .i .i64 box, .lst 3 (aC aI ls), .lst 3 (aC cY cs)]) := by
 have e2 := aD cY cs
 refine PureF.run Yo (by simp) (by simp [aO, dF, Pu, aH, aB, aE]) ?_; conv => whnf
 repeat' ((first | refine Qz ?_ | refine Qf (EW ls hl) ?_) <;> conv => whnf)
 refine Rn.loop (fun j : Nat => match j with
  | 0 => ⟨(.n (.n (.n .e (some (.pt (.i .h) 0 0)) .e) (some (.pt .h 0 0)) .e) none (.n (.n .e (some (.i .i64 0)) .e) (some (.pt (.o .h) 0 0)) .e)), (.n (.n .e (some (Wk)) .e) (some (Rr n coin box ls (.lst 3 (aC cY cs)))) (.n .e (some (Rr n coin box ls .ns)) .e)), .o (.o .h), none⟩
  | j + 1 => ⟨(.n (.n (.n .e (some (.pt (.i .h) 0 0)) .e) (some (.pt .h 0 0)) .e) none (.n (.n .e (some (.i .i64 ((j + 1 : Nat) : Int))) .e) (some (.pt (.o .h) 0 0)) .e)), (.n (.n .e (some (Wk)) .e) (some (Rr n coin box ls (.lst 3 (aC cY cs)))) (.n (.n .e (some (.cells false ((cJ cY cs (j + 1)).map fun d => Cell.o d j) (j + 1))) .e) (some (Rr n coin box ls (.sl (.i (.o .h)) 0 (j + 1) j 3))) .e)), .o (.i .h), none⟩) (fun j => j <= cs.length) (fun j => cs.length - j) 0 ?_ ?_ ?_
 ·refine X.le.mk ?_ ?_ (Nat.le_refl _) rfl rfl <;> exact eN
 ·exact Nat.zero_le _
 rintro (_ | j) hj
 ·conv => whnf
  refine Qg ?_
  refine WB.dec (fun h => ?_) (fun h => ?_) <;> conv => whnf
  ·have hlt : 0 < cs.length := by omega
   repeat' ((first | refine Qz ?_ | refine Qf (Ud _ _) ?_) <;> conv => whnf)
   refine WSt.app_firstL (r := cY (cs.getD 0 default)) rfl (.inl rfl) rfl rfl rfl rfl ?_; conv => whnf
   refine Qg ?_
   refine Again.to 1 (by show cs.length - 1 < cs.length - 0; omega) (by show 1 <= cs.length; omega) (Nat.le_of_ble_eq_true rfl) ?_
   have ht : cJ cY cs 1 = cY (cs.getD 0 default) := by rw [kH cY cs hlt]; simp [cJ, aC]
   refine Shr.of ?_ ?_ rfl rfl
   ·exact Rw
   ·(repeat' first | exact Rel.e | refine Rel.some ?_ ?_ ?_ | refine Rel.none ?_ ?_ | refine Rel.ee ?_ ?_)
    all_goals first
     | exact Ro (Ak n coin box ls (.pu (aE _)))
     | exact Ro (Ak n coin box ls (.ksl (Ql rfl)))
     | exact Ro JY
     | (refine RO'.of (show Pos.nat _ < Pos.nat _ by simp [Pos.nat]) ?_
        show ShC _ _ _ (.cells false ((cJ cY cs 1).map fun d => Cell.o d 0) 1)
        rw [ht]
        exact ShC.same (ShC.cn (.pu trivial) (ShC.cn (.pu trivial) (ShC.cn (.pu trivial) ShC.nl))))
  ·refine Qg ?_
   refine ⟨.inr rfl, _, rfl, ?_⟩
   rw [show cs = [] from List.length_eq_zero_iff.1 (by omega)]
   exact .ag (.cons (.pu trivial) (.cons (.pu trivial) (.cons (.pu trivial) (.cons (.pu (aB _)) (.cons .ns .nil)))))
 ·have hj : j + 1 <= cs.length := hj
  conv => whnf
  refine Qg ?_
  refine WB.dec (fun h => ?_) (fun h => ?_) <;> conv => whnf
  ·have hlt : j + 1 < cs.length := by omega
   repeat' ((first | refine Qz ?_ | refine Qf (Ud _ _) ?_) <;> conv => whnf)
   refine WSt.app_oneL (ds := cJ cY cs (j + 1)) (r := cY (cs.getD (j + 1) default)) rfl rfl rfl rfl rfl rfl (pH (fun _ => rfl) cs (by omega)) rfl rfl (by omega) rfl ?_; conv => whnf
   refine Qg ?_
   refine Again.to (j + 2) (by show cs.length - (j + 2) < cs.length - (j + 1); omega) (by show j + 2 <= cs.length; omega) (Nat.le_of_ble_eq_true rfl) ?_
   refine Shr.of ?_ ?_ rfl rfl
   ·exact Rw
   ·(repeat' first | exact Rel.e | refine Rel.some ?_ ?_ ?_ | refine Rel.none ?_ ?_ | refine Rel.ee ?_ ?_)
    all_goals first
     | exact Ro (Ak n coin box ls (.pu (aE _)))
     | exact Ro (Ak n coin box ls (.ksl (Ql rfl)))
     | exact Ro JY
     | (refine RO'.of (show Pos.nat _ < Pos.nat _ by simp [Pos.nat]) ?_
        show ShC _ _ (.cells false (((cJ cY cs (j + 1)).map fun d => Cell.o d j) ++ (cY (cs.getD (j + 1) default)).map fun d => Cell.o d (j + 1)) (j + 1 + 1)) (.cells false ((cJ cY cs (j + 1 + 1)).map fun d => Cell.o d (j + 1)) (j + 1 + 1))
        rw [kH cY cs hlt]
        exact ShC.grown (by omega) (aF.2 fun d hd => (List.mem_append.1 hd).elim (fun hd => aF.1 (yW Nc cs _) d hd) (fun hd => aF.1 (Nc _) d hd)))
  ·refine Qg ?_
   refine ⟨.inr rfl, _, rfl, ?_⟩
   refine .ag (.cons (.pu trivial) (.cons (.pu trivial) (.cons (.pu trivial) (.cons (.pu (aB _)) (.cons ?_ .nil)))))
   exact Frz.whole (cs := (cJ cY cs (j + 1)).map fun d => Cell.o d j) (cur := j + 1) rfl (by rw [aD]; omega) (Hr _) (by unfold cJ; rw [List.take_of_length_le (by omega)]) (aE _)
theorem Mx {n : Int} {l x : Ln} (hn : 1 <= n /\ n <= 4) (h : cL n l = true) : Ay n l x = No n l x := by
 unfold cL at h
 simp only [Bool.and_eq_true, aP] at h
 obtain ⟨⟨h1, h2⟩, ⟨h3, h4⟩, ⟨h5, h6⟩⟩ := h
 have hK : (eJ l <= x.k /\ x.k <= nE l) ↔ ((1 <= x.k /\ x.k <= 2) /\ (l.k = 0 \/ l.k = x.k)) := by
  unfold eJ nE
  split <;> omega
 have hC : (gK l <= x.c /\ x.c <= mW n l) ↔ ((0 <= x.c /\ x.c <= n - 1) /\ (l.c < 0 \/ l.c = x.c)) := by
  unfold gK mW
  split <;> omega
 have hT : (lA l <= x.t /\ x.t <= oX n l) ↔ ((0 <= x.t /\ x.t <= n - 1) /\ (l.t < 0 \/ l.t = x.t)) := by
  unfold lA oX
  split <;> omega
 unfold Ay No pV
 rw [Bool.eq_iff_iff]
 simp only [Bool.and_eq_true, Bool.or_eq_true, decide_eq_true_iff, aP]
 constructor
 ·rintro ⟨a, b, c, d, e, f⟩
  have k := hK.1 ⟨a, b⟩
  have k2 := hC.1 ⟨c, d⟩
  have k3 := hT.1 ⟨e, f⟩
  exact ⟨k.1, k2.1, k3.1, k.2, k2.2, k3.2⟩
 ·rintro ⟨a, b, c, d, e, f⟩
  have k := hK.2 ⟨a, d⟩
  have k2 := hC.2 ⟨b, e⟩
  have k3 := hT.2 ⟨c, f⟩
  exact ⟨k.1, k.2, k2.1, k2.2, k3.1, k3.2⟩
theorem Ec {α : Type} (p q : α -> Bool) : ∀ l : List α, (l.all fun x => p x && q x) = (l.all p && l.all q)
 | [] => rfl
 | x :: l => by
   simp only [List.all_cons, Ec p q l]
   cases p x <;> cases q x <;> cases l.all p <;> cases l.all q <;> rfl
theorem CI {α : Type} {p q : α -> Bool} : ∀ {l : List α}, (∀ x ∈ l, p x = q x) -> l.all p = l.all q
 | [], _ => rfl
 | x :: l, h => by
   simp only [List.all_cons]
   rw [h x (by simp), CI fun y hy => h y (by simp [hy])]
theorem qA {n : Int} {ls T : List Ln} (hn : 1 <= n /\ n <= 4) (h : ls.all (cL n) = true) : bY n ls T = (iY n ls T && dW T) := by
 unfold bY iY dW
 by_cases hl : T.length = ls.length
 ·rw [decide_eq_true hl, Bool.true_and, Bool.true_and, <- Ec]
  refine CI fun q hq => ?_
  have hq := List.mem_range.1 hq
  rw [Mx hn (List.all_eq_true.1 h _ (bS (d := default) (by omega)))]
 ·rw [decide_eq_false hl]; rfl
theorem nP {box coin : Int} {T : List Ln} {j q : Nat} (h : q <= j) : uA box coin T j q = fJ box coin T q := by
 unfold uA
 rw [Nat.ble_eq_true_of_le h]; rfl
theorem yP {box coin : Int} {cs : List Ct} {T : List Ln} (hok : ∀ c ∈ cs, 0 <= c.a /\ c.a <= T.length) : (CU (uA box coin T T.length) (T.length + 1)).all (dE cs) = wJ box coin cs T := by
 rw [Bool.eq_iff_iff, List.all_eq_true]
 unfold wJ
 rw [List.all_eq_true]
 constructor
 ·intro h c hc
  obtain ⟨a1, a2⟩ := hok c hc
  have hm := h (uA box coin T T.length c.a.toNat) (by unfold CU; exact List.mem_map.2 ⟨c.a.toNat, List.mem_range.2 (by omega), rfl⟩)
  unfold dE at hm
  have := List.all_eq_true.1 hm c hc
  rw [nP (by omega)] at this
  have hd : c.a = (fJ box coin T c.a.toNat).n := by show c.a = ((c.a.toNat : Nat) : Int); omega
  rw [decide_eq_true hd] at this
  exact this
 ·intro h m hm
  unfold CU at hm
  obtain ⟨q, hq, rfl⟩ := List.mem_map.1 hm
  have hq := List.mem_range.1 hq
  rw [nP (by omega)]
  unfold dE
  rw [List.all_eq_true]
  intro c hc
  have := h c hc
  by_cases e : c.a = (fJ box coin T q).n
  ·have e' : c.a = (q : Int) := e
   rw [show c.a.toNat = q by omega] at this
   rw [decide_eq_true e]
   exact this
  ·rw [decide_eq_false e]; rfl
theorem Gt {n coin box : Int} {ls : List Ln} {cs : List Ct} {T : List Ln} (h0 : aS n coin box ls cs = 0) : pZ n coin box ls cs T = sF n coin box ls cs T := by
 obtain ⟨f1, f2, f3, f4⟩ := jJ h0
 unfold kR at f3
 simp only [Bool.and_eq_true] at f3
 obtain ⟨v1, v2, v3, v4, v5⟩ := f3
 have hn : 1 <= n /\ n <= 4 := aP.1 v1
 have hfr := qA (T := T) hn v4
 unfold pZ sF
 rw [decide_eq_true h0, Bool.true_and, <- Bool.and_assoc, <- hfr]
 cases hF : bY n ls T with
 | false => rfl
 | true =>
   have hl : T.length = ls.length := by
    unfold bY at hF
    rw [Bool.and_eq_true] at hF
    exact of_decide_eq_true hF.1
   have hok : ∀ c ∈ cs, 0 <= c.a /\ c.a <= T.length := fun c hc => by
    have := List.all_eq_true.1 v5 c hc
    unfold rU at this
    rw [Bool.and_eq_true] at this
    have := aP.1 this.1
    omega
   have hfo : nF box coin n ls T = uA box coin T T.length := by unfold nF; rw [hF]; rfl
   rw [hfo, <- hl, yP hok]
structure Bk where
 n : Int
 coin : Int
 box : Int
 ls : List Ln
 cs : List Ct
def oE (lo hi : Int) : List Int := (List.range (hi + 1 - lo).toNat).map fun k : Nat => lo + (k : Int)
theorem dK (lo hi : Int) : (oE lo hi).length = (hi + 1 - lo).toNat := by simp [oE]
theorem Bm {lo hi : Int} {k : Nat} (h : k < (hi + 1 - lo).toNat) : (oE lo hi).getD k 0 = lo + (k : Int) := by simp [oE, List.getD, h]
theorem lG {lo hi h : Int} : h ∈ oE lo hi ↔ lo <= h /\ h <= hi := by
 unfold oE
 rw [List.mem_map]
 constructor
 ·rintro ⟨k, hk, rfl⟩
  have := List.mem_range.1 hk
  omega
 ·rintro ⟨h1, h2⟩
  exact ⟨(h - lo).toNat, List.mem_range.2 (by omega), by omega⟩
def uE (n : Int) (l : Ln) (a b : Int) : List Ln := (oE (lA l) (oX n l)).map fun c => ⟨a, b, c⟩
def uF (n : Int) (l : Ln) (a : Int) : List Ln := (oE (gK l) (mW n l)).flatMap fun b => uE n l a b
def mY (n : Int) (l : Ln) : List Ln := (oE (eJ l) (nE l)).flatMap fun a => uF n l a
theorem fC {n : Int} {l x : Ln} : x ∈ mY n l ↔ Ay n l x = true := by
 unfold mY uF uE Ay
 rw [decide_eq_true_iff, List.mem_flatMap]
 constructor
 ·rintro ⟨a, ha, hx⟩
  obtain ⟨b, hb, hx⟩ := List.mem_flatMap.1 hx
  obtain ⟨c, hc, rfl⟩ := List.mem_map.1 hx
  have ha := lG.1 ha
  have hb := lG.1 hb
  have hc := lG.1 hc
  exact ⟨ha.1, ha.2, hb.1, hb.2, hc.1, hc.2⟩
 ·rintro ⟨h1, h2, h3, h4, h5, h6⟩
  exact ⟨x.k, lG.2 ⟨h1, h2⟩, List.mem_flatMap.2 ⟨x.c, lG.2 ⟨h3, h4⟩, List.mem_map.2 ⟨x.t, lG.2 ⟨h5, h6⟩, rfl⟩⟩⟩
def SameTo (i : Nat) (T T' : List Ln) : Prop := ∀ j, j < i -> T'.getD j default = T.getD j default
theorem SameTo.symm {i : Nat} {T T' : List Ln} (h : SameTo i T T') : SameTo i T' T := fun j hj => (h j hj).symm
theorem SameTo.le {i j : Nat} {T T' : List Ln} (h : SameTo i T T') (k : j <= i) : SameTo j T T' := fun q hq => h q (by omega)
theorem SameTo.app (T : List Ln) (l : Ln) : SameTo T.length T (T ++ [l]) := fun j hj => by
 simp [List.getD, List.getElem?_append_left hj]
theorem cW (T : List Ln) (l : Ln) : (T ++ [l]).getD T.length default = l := by simp [List.getD]
theorem SameTo.take (T : List Ln) (i : Nat) : SameTo i T (T.take i) := fun j hj => by
 simp [List.getD, List.getElem?_take_of_lt hj]
theorem jI {T T' : List Ln} (c : Int) : ∀ i, SameTo i T T' -> aZ T' c i = aZ T c i
 | 0, _ => rfl
 | i + 1, h => by
   have := jI c i (h.le (by omega))
   unfold aZ
   rw [h i (by omega), this]
theorem jK {T T' : List Ln} (c : Int) : ∀ i, SameTo i T T' -> bC T' c i = bC T c i
 | 0, _ => rfl
 | i + 1, h => by
   have := jK c i (h.le (by omega))
   unfold bC
   rw [h i (by omega), this]
theorem zC {box coin : Int} {T T' : List Ln} : ∀ i, SameTo i T T' -> cQ box coin T' i = cQ box coin T i
 | 0, _ => rfl
 | i + 1, h => by
   have := zC (box := box) (coin := coin) i (h.le (by omega))
   unfold cQ
   rw [h i (by omega), this]
theorem xZ {T T' : List Ln} : ∀ i, SameTo i T T' -> gQ T' i = gQ T i
 | 0, _ => rfl
 | i + 1, h => by
   have := xZ i (h.le (by omega))
   unfold gQ
   rw [h i (by omega), this, jI _ i (h.le (by omega)), jK _ i (h.le (by omega))]
theorem kA {box coin : Int} {T T' : List Ln} {i : Nat} (h : SameTo i T T') : fJ box coin T' i = fJ box coin T i := by
 unfold fJ
 rw [zC i h, xZ i h]
 simp only [jI _ i h, jK _ i h]
 cases i with
 | zero => rfl
 | succ i => simp only [h i (by omega)]
theorem oN {T T' : List Ln} {i : Nat} (h : SameTo (i + 1) T T') : eA T' i = eA T i := by
 unfold eA
 rw [h i (by omega), jI _ i (h.le (by omega)), jK _ i (h.le (by omega))]
def kY (B : Bk) (T : List Ln) : List (List Ln) := ((mY B.n (B.ls.getD T.length default)).filter fun l => eA (T ++ [l]) T.length).map fun l => T ++ [l]
def rT (B : Bk) (T : List Ln) : Bool := dE B.cs (fJ B.box B.coin T T.length)
def dA (B : Bk) : Nat -> List Ln -> Bool
 | 0, T => rT B T
 | k + 1, T => rT B T && (kY B T).any (dA B k)
def gN (B : Bk) : Nat -> List Ln -> List (List Ln)
 | 0, T => bif dA B 0 T then [T] else []
 | k + 1, T => bif dA B (k + 1) T then (kY B T).flatMap (gN B k) else []
structure Ext (B : Bk) (k : Nat) (T X : List Ln) : Prop where
 pre : X.take T.length = T
 len : X.length = T.length + k
 st : ∀ i, T.length <= i -> i < X.length -> Ay B.n (B.ls.getD i default) (X.getD i default) = true /\ eA X i = true
 rt : ∀ i, T.length <= i -> i <= X.length -> dE B.cs (fJ B.box B.coin X i) = true
theorem Ext.same {B : Bk} {k : Nat} {T X : List Ln} (h : Ext B k T X) : SameTo T.length X T := by
 have := SameTo.take X T.length
 rw [h.pre] at this
 exact this
theorem vW {B : Bk} {T X : List Ln} : Ext B 0 T X ↔ X = T /\ rT B T = true := by
 constructor
 ·intro h
  have hx : X = T := by
   have := h.pre
   rw [List.take_of_length_le (by rw [h.len]; omega)] at this
   exact this
  subst hx
  exact ⟨rfl, h.rt _ (Nat.le_refl _) (Nat.le_refl _)⟩
 ·rintro ⟨rfl, h⟩
  refine ⟨List.take_length, rfl, fun i h1 h2 => by omega, fun i h1 h2 => ?_⟩
  rw [show i = X.length by omega]; exact h
theorem vL {B : Bk} {k : Nat} {T X : List Ln} : Ext B (k + 1) T X ↔ rT B T = true /\ ∃ T' ∈ kY B T, Ext B k T' X := by
 constructor
 ·intro h
  have hs := h.same
  have hlen := h.len
  refine ⟨?_, X.take (T.length + 1), ?_, ?_, ?_, ?_, ?_⟩
  ·have := h.rt _ (Nat.le_refl _) (by omega)
   rw [<- kA (T' := T) hs] at this
   exact this
  ·unfold kY
   have hlt : T.length < X.length := by omega
   obtain ⟨h1, h2⟩ := h.st _ (Nat.le_refl _) hlt
   have he : X.take (T.length + 1) = T ++ [X.getD T.length default] := by
    rw [aM (d := default) hlt, h.pre]
   refine List.mem_map.2 ⟨X.getD T.length default, List.mem_filter.2 ⟨fC.2 h1, ?_⟩, he.symm⟩
   have : SameTo (T.length + 1) X (T ++ [X.getD T.length default]) := by rw [<- he]; exact SameTo.take _ _
   rw [<- h2]
   exact oN this
  ·rw [List.length_take, Nat.min_eq_left (by omega)]
  ·rw [List.length_take, Nat.min_eq_left (by omega)]; omega
  ·intro i h1 h2
   rw [List.length_take, Nat.min_eq_left (by omega)] at h1
   exact h.st i (by omega) h2
  ·intro i h1 h2
   rw [List.length_take, Nat.min_eq_left (by omega)] at h1
   exact h.rt i (by omega) h2
 ·rintro ⟨hr, T', hT, h⟩
  unfold kY at hT
  obtain ⟨l, hl, rfl⟩ := List.mem_map.1 hT
  obtain ⟨hl1, hl2⟩ := List.mem_filter.1 hl
  have hsame := h.same
  have hlen := h.len
  have hla : (T ++ [l]).length = T.length + 1 := by simp
  rw [hla] at hlen hsame
  have hsT : SameTo T.length X T := fun j hj => by
   rw [<- hsame j (by omega), SameTo.app T l j hj]
  refine ⟨?_, by omega, fun i h1 h2 => ?_, fun i h1 h2 => ?_⟩
  ·have := h.pre
   rw [hla] at this
   have h2 := congrArg (List.take T.length) this
   rw [List.take_take, Nat.min_eq_left (by omega), List.take_left'] at h2
   ·exact h2
   ·rfl
  ·by_cases e : i = T.length
   ·subst e
    have hx : X.getD T.length default = l := by rw [<- hsame _ (by omega), cW]
    refine ⟨by rw [hx]; exact fC.1 hl1, ?_⟩
    exact (oN hsame).symm.trans hl2
   ·exact h.st i (by rw [hla]; omega) h2
  ·by_cases e : i = T.length
   ·subst e
    rw [<- kA (T' := T) hsT]
    exact hr
   ·exact h.rt i (by rw [hla]; omega) h2
theorem rM {B : Bk} : ∀ {k : Nat} {T : List Ln}, dA B k T = true ↔ ∃ X, Ext B k T X
 | 0, T => by
   show rT B T = true ↔ _
   constructor
   ·intro h; exact ⟨T, vW.2 ⟨rfl, h⟩⟩
   ·rintro ⟨X, h⟩; exact (vW.1 h).2
 | k + 1, T => by
   show (rT B T && (kY B T).any (dA B k)) = true ↔ _
   rw [Bool.and_eq_true, List.any_eq_true]
   constructor
   ·rintro ⟨h1, T', h2, h3⟩
    obtain ⟨X, h4⟩ := rM.1 h3
    exact ⟨X, vL.2 ⟨h1, T', h2, h4⟩⟩
   ·rintro ⟨X, h⟩
    obtain ⟨h1, T', h2, h3⟩ := vL.1 h
    exact ⟨h1, T', h2, rM.2 ⟨X, h3⟩⟩
theorem fH {B : Bk} : ∀ {k : Nat} {T X : List Ln}, X ∈ gN B k T ↔ Ext B k T X
 | 0, T, X => by
   unfold gN
   rw [vW]
   show X ∈ (bif rT B T then [T] else []) ↔ _
   cases h : rT B T with
   | true => simp
   | false => simp
 | k + 1, T, X => by
   unfold gN
   cases h : dA B (k + 1) T with
   | false =>
     simp only [cond_false, List.not_mem_nil, false_iff]
     intro hx
     have := rM.2 ⟨X, hx⟩
     rw [h] at this; cases this
   | true =>
     simp only [cond_true]
     rw [List.mem_flatMap, vL]
     have hr : rT B T = true := by
      have h : (rT B T && (kY B T).any (dA B k)) = true := h
      rw [Bool.and_eq_true] at h
      exact h.1
     constructor
     ·rintro ⟨T', h1, h2⟩; exact ⟨hr, T', h1, fH.1 h2⟩
     ·rintro ⟨_, T', h1, h2⟩; exact ⟨T', h1, fH.2 h2⟩
def okT (B : Bk) (T : List Ln) : Prop := ∀ i, i < T.length -> Ay B.n (B.ls.getD i default) (T.getD i default) = true /\ eA T i = true
theorem okT.nil (B : Bk) : okT B [] := fun i h => absurd h (Nat.not_lt_zero _)
theorem okT.step {B : Bk} {T T' : List Ln} (h : okT B T) (hT : T' ∈ kY B T) : okT B T' /\ T'.length = T.length + 1 := by
 unfold kY at hT
 obtain ⟨l, hl, rfl⟩ := List.mem_map.1 hT
 obtain ⟨hl1, hl2⟩ := List.mem_filter.1 hl
 refine ⟨fun i hi => ?_, by simp⟩
 rw [List.length_append, List.length_singleton] at hi
 by_cases e : i = T.length
 ·subst e
  rw [cW]
  exact ⟨fC.1 hl1, hl2⟩
 ·have hlt : i < T.length := by omega
  rw [SameTo.app T l i hlt, oN ((SameTo.app T l).le (by omega))]
  exact h i hlt
def Bv (T : List Ln) (q : Nat) : Bool := if q < 4 then decide (0 <= aZ T (q : Int) T.length) else decide (0 <= bC T ((q - 4 : Nat) : Int) T.length)
def Hl (b : Bool) : Int := bif b then 1 else 0
def fS (n : Int) : Int := if 0 <= n then 1 else 0
def Ap (T : List Ln) (i : Nat) : Int := fS (aZ T 0 i) + fS (aZ T 1 i) + fS (aZ T 2 i) + fS (aZ T 3 i)
def Ik (T : List Ln) (i : Nat) : Int := fS (bC T 0 i) + fS (bC T 1 i) + fS (bC T 2 i) + fS (bC T 3 i)
theorem MU (n : Int) : fS n = Hl (decide (0 <= n)) := by
 unfold fS Hl
 by_cases h : 0 <= n <;> simp [h]
theorem Cr (f : Int -> Int) (c k : Int) (i : Nat) (hc : 0 <= c /\ c <= 3) (hk : k = 1 \/ k = 2) (h : decide (0 <= f c) = decide (k = 2)) :
 fS (if c = 0 then (if k = 1 then (i : Int) else -1) else f 0) + fS (if c = 1 then (if k = 1 then (i : Int) else -1) else f 1) + fS (if c = 2 then (if k = 1 then (i : Int) else -1) else f 2) + fS (if c = 3 then (if k = 1 then (i : Int) else -1) else f 3) = if k = 1 then fS (f 0) + fS (f 1) + fS (f 2) + fS (f 3) + 1 else fS (f 0) + fS (f 1) + fS (f 2) + fS (f 3) - 1 := by
 have h0 : fS (i : Int) = 1 := if_pos (by omega)
 have h1 : fS (-1) = 0 := if_neg (by omega)
 have hf : fS (f c) = if k = 1 then 0 else 1 := by
  rw [MU, h]
  rcases hk with rfl | rfl <;> rfl
 have : c = 0 \/ c = 1 \/ c = 2 \/ c = 3 := by omega
 rcases this with rfl | rfl | rfl | rfl <;> rcases hk with rfl | rfl <;> simp [h0, h1] at hf ⊢ <;> omega
structure VB (B : Bk) : Prop where
 n : 1 <= B.n /\ B.n <= 4
 coin : 1 <= B.coin /\ B.coin <= 99
 box : 0 <= B.box /\ B.box <= 999
 len : B.ls.length <= 8
 clen : B.cs.length <= 4
 ls : B.ls.all (cL B.n) = true
 cs : ∀ c ∈ B.cs, 0 <= c.a /\ c.a <= B.ls.length
 many : eL B.n B.ls <= 4096
def B5 (n coin box : Int) (ls : List Ln) (cs : List Ct) : Bk := ⟨n, coin, box, ls, cs⟩
theorem VB.of {n coin box : Int} {ls : List Ln} {cs : List Ct} (h : aS n coin box ls cs = 0) : VB (B5 n coin box ls cs) := by
 obtain ⟨f1, f2, f3, f4⟩ := jJ h
 unfold kR at f3
 simp only [Bool.and_eq_true] at f3
 obtain ⟨v1, v2, v3, v4, v5⟩ := f3
 exact ⟨aP.1 v1, aP.1 v2, aP.1 v3, f1, f2, v4, fun c hc => by
  have := List.all_eq_true.1 v5 c hc
  unfold rU at this
  rw [Bool.and_eq_true] at this
  exact aP.1 this.1, f4⟩
theorem VB.ln {B : Bk} (V : VB B) {i : Nat} (h : i < B.ls.length) : (0 <= (B.ls.getD i default).k /\ (B.ls.getD i default).k <= 2) /\ (-1 <= (B.ls.getD i default).c /\ (B.ls.getD i default).c <= 3) /\ (-1 <= (B.ls.getD i default).t /\ (B.ls.getD i default).t <= 3) := by
 have hok := List.all_eq_true.1 V.ls _ (bS (d := default) h)
 unfold cL at hok
 simp only [Bool.and_eq_true, aP] at hok
 have := V.n
 omega
theorem VB.rd {B : Bk} (V : VB B) {i : Nat} (h : i < B.ls.length) {x : Ln} (hx : Ay B.n (B.ls.getD i default) x = true) : (x.k = 1 \/ x.k = 2) /\ (0 <= x.c /\ x.c <= 3) /\ (0 <= x.t /\ x.t <= 3) := by
 obtain ⟨h1, h2, h3⟩ := V.ln h
 exact HA V.n h1 h2 h3 hx
theorem GA (T : List Ln) (c : Int) (i : Nat) : aZ T c (i + 1) = if (T.getD i default).c = c then (if (T.getD i default).k = 1 then (i : Int) else -1) else aZ T c i := rfl
theorem Gj (T : List Ln) (c : Int) (i : Nat) : bC T c (i + 1) = if (T.getD i default).t = c then (if (T.getD i default).k = 1 then (i : Int) else -1) else bC T c i := rfl
theorem uN {B : Bk} (V : VB B) {T : List Ln} (h : okT B T) (hl : T.length <= B.ls.length) : ∀ i, i <= T.length -> cQ B.box B.coin T i = B.box + B.coin * Ap T i /\ Ap T i = Ik T i
 | 0, _ => by
   refine ⟨?_, rfl⟩
   show B.box = B.box + B.coin * 0
   omega
 | i + 1, hi => by
   obtain ⟨ih1, ih2⟩ := uN V h hl i (by omega)
   obtain ⟨h1, h2⟩ := h i (by omega)
   obtain ⟨hk, hc, ht⟩ := V.rd (by omega) h1
   unfold eA at h2
   rw [Bool.and_eq_true, beq_iff_eq, beq_iff_eq] at h2
   obtain ⟨p1, p2⟩ := h2
   have hm : cQ B.box B.coin T (i + 1) = if (T.getD i default).k = 1 then cQ B.box B.coin T i + B.coin else cQ B.box B.coin T i - B.coin := rfl
   have hO : Ap T (i + 1) = if (T.getD i default).k = 1 then Ap T i + 1 else Ap T i - 1 := Cr (fun c => aZ T c i) _ _ i hc hk p1
   have hP : Ik T (i + 1) = if (T.getD i default).k = 1 then Ik T i + 1 else Ik T i - 1 := Cr (fun c => bC T c i) _ _ i ht hk p2
   rw [hm, hO, hP, ih1, ih2]
   refine ⟨?_, rfl⟩
   split
   ·rw [Int.mul_add]; omega
   ·rw [Int.mul_sub]; omega
theorem EY {T : List Ln} {l : Ln} (hc : 0 <= l.c /\ l.c <= 3) (ht : 0 <= l.t /\ l.t <= 3) (q : Nat) : Bv (T ++ [l]) q = if q < 4 then (if l.c = (q : Int) then decide (l.k = 1) else Bv T q) else (if l.t = ((q - 4 : Nat) : Int) then decide (l.k = 1) else Bv T q) := by
 unfold Bv
 rw [List.length_append, List.length_singleton, GA, Gj, cW, jI _ _ (SameTo.app T l), jK _ _ (SameTo.app T l)]
 by_cases hq : q < 4
 ·simp only [if_pos hq]
  by_cases h1 : l.c = (q : Int)
  ·rw [if_pos h1, if_pos h1]
   by_cases h2 : l.k = 1
   ·rw [if_pos h2]; simp [h2]
   ·rw [if_neg h2]; simp [h2]
  ·rw [if_neg h1, if_neg h1]
 ·simp only [if_neg hq]
  by_cases h1 : l.t = ((q - 4 : Nat) : Int)
  ·rw [if_pos h1, if_pos h1]
   by_cases h2 : l.k = 1
   ·rw [if_pos h2]; simp [h2]
   ·rw [if_neg h2]; simp [h2]
  ·rw [if_neg h1, if_neg h1]
theorem FB {T : List Ln} {l : Ln} (hc : 0 <= l.c /\ l.c <= 3) (ht : 0 <= l.t /\ l.t <= 3) : eA (T ++ [l]) T.length = ((Bv T l.c.toNat == decide (l.k = 2)) && (Bv T (4 + l.t.toNat) == decide (l.k = 2))) := by
 unfold eA Bv
 rw [cW, jI _ _ (SameTo.app T l), jK _ _ (SameTo.app T l), if_pos (by omega), if_neg (by omega)]
 rw [show ((l.c.toNat : Nat) : Int) = l.c by omega, show ((4 + l.t.toNat - 4 : Nat) : Int) = l.t by omega]
theorem Je (T : List Ln) : Ap T T.length = Hl (Bv T 0) + Hl (Bv T 1) + Hl (Bv T 2) + Hl (Bv T 3) := by
 unfold Ap
 simp only [MU]
 rfl
theorem MX {B : Bk} (V : VB B) {T T' : List Ln} (h : okT B T) (h' : okT B T') (hl : T'.length = T.length) (hb : T.length <= B.ls.length) (hf : ∀ q, q < 8 -> Bv T' q = Bv T q) : rT B T' = rT B T := by
 have e1 := (uN V h hb T.length (Nat.le_refl _)).1
 have e2 := (uN V h' (by omega) T'.length (Nat.le_refl _)).1
 have hm : cQ B.box B.coin T' T'.length = cQ B.box B.coin T T.length := by
  rw [e1, e2, Je, Je, hf 0 (by omega), hf 1 (by omega), hf 2 (by omega), hf 3 (by omega)]
 show dE B.cs (fJ B.box B.coin T' T'.length) = dE B.cs (fJ B.box B.coin T T.length)
 unfold dE
 show (B.cs.all fun c => !decide (c.a = ((T'.length : Nat) : Int)) || gE (cQ B.box B.coin T' T'.length) c.lo c.hi) = B.cs.all fun c => !decide (c.a = ((T.length : Nat) : Int)) || gE (cQ B.box B.coin T T.length) c.lo c.hi
 rw [hm, hl]
theorem KF {B : Bk} (V : VB B) : ∀ (k : Nat) {T T' : List Ln}, okT B T -> okT B T' -> T'.length = T.length -> T.length + k = B.ls.length -> (∀ q, q < 8 -> Bv T' q = Bv T q) -> dA B k T' = dA B k T
 | 0, T, T', h, h', hl, hk, hf => MX V h h' hl (by omega) hf
 | k + 1, T, T', h, h', hl, hk, hf => by
   have hr := MX V h h' hl (by omega) hf
   show (rT B T' && (kY B T').any (dA B k)) = (rT B T && (kY B T).any (dA B k))
   rw [hr]
   congr 1
   have key : ∀ l ∈ mY B.n (B.ls.getD T.length default), (eA (T' ++ [l]) T'.length = eA (T ++ [l]) T.length) /\ (eA (T ++ [l]) T.length = true -> dA B k (T' ++ [l]) = dA B k (T ++ [l])) := fun l hl' => by
    obtain ⟨_, hc, ht⟩ := V.rd (by omega) (fC.1 hl')
    have hp : eA (T' ++ [l]) T'.length = eA (T ++ [l]) T.length := by rw [FB hc ht, FB hc ht, hf _ (by omega), hf _ (by omega)]
    refine ⟨hp, fun hq => KF V k ?_ ?_ (by simp [hl]) (by simp; omega) (fun q hq => by rw [EY hc ht, EY hc ht, hf q hq])⟩
    ·exact (h.step (List.mem_map.2 ⟨l, List.mem_filter.2 ⟨hl', hq⟩, rfl⟩)).1
    ·exact (h'.step (List.mem_map.2 ⟨l, List.mem_filter.2 ⟨by rw [hl]; exact hl', hp.trans hq⟩, rfl⟩)).1
   rw [Bool.eq_iff_iff, List.any_eq_true, List.any_eq_true]
   unfold kY
   rw [hl]
   constructor
   ·rintro ⟨x, hx, hc⟩
    obtain ⟨l, hl', rfl⟩ := List.mem_map.1 hx
    obtain ⟨h1, h2⟩ := List.mem_filter.1 hl'
    have h2 : eA (T' ++ [l]) T.length = true := h2
    rw [<- hl] at h2
    obtain ⟨k1, k2⟩ := key l h1
    rw [k1] at h2
    exact ⟨T ++ [l], List.mem_map.2 ⟨l, List.mem_filter.2 ⟨h1, h2⟩, rfl⟩, by rw [<- k2 h2]; exact hc⟩
   ·rintro ⟨x, hx, hc⟩
    obtain ⟨l, hl', rfl⟩ := List.mem_map.1 hx
    obtain ⟨h1, h2⟩ := List.mem_filter.1 hl'
    have h2 : eA (T ++ [l]) T.length = true := h2
    obtain ⟨k1, k2⟩ := key l h1
    refine ⟨T' ++ [l], List.mem_map.2 ⟨l, List.mem_filter.2 ⟨h1, ?_⟩, rfl⟩, by rw [k2 h2]; exact hc⟩
    show eA (T' ++ [l]) T.length = true
    rw [<- hl, k1, h2]
theorem Kb {B : Bk} (V : VB B) {X : List Ln} : Ext B B.ls.length [] X ↔ sF B.n B.coin B.box B.ls B.cs X = true := by
 have hfr := qA (T := X) V.n V.ls
 have hfit : sF B.n B.coin B.box B.ls B.cs X = (bY B.n B.ls X && wJ B.box B.coin B.cs X) := by
  unfold sF
  rw [hfr, Bool.and_assoc]
 have hright : ∀ (hl : X.length = B.ls.length), (CU (uA B.box B.coin X X.length) (X.length + 1)).all (dE B.cs) = wJ B.box B.coin B.cs X := fun hl => yP fun c hc => by
  have := V.cs c hc
  omega
 rw [hfit, Bool.and_eq_true]
 constructor
 ·intro h
  have hl : X.length = B.ls.length := by have := h.len; simpa using this
  refine ⟨?_, ?_⟩
  ·unfold bY
   rw [Bool.and_eq_true, decide_eq_true_iff, List.all_eq_true]
   refine ⟨hl, fun q hq => ?_⟩
   have hq := List.mem_range.1 hq
   obtain ⟨h1, h2⟩ := h.st q (Nat.zero_le _) hq
   rw [h1, h2]; rfl
  ·rw [<- hright hl, List.all_eq_true]
   intro m hm
   unfold CU at hm
   obtain ⟨q, hq, rfl⟩ := List.mem_map.1 hm
   have hq := List.mem_range.1 hq
   rw [nP (by omega)]
   exact h.rt q (Nat.zero_le _) (by omega)
 ·rintro ⟨h1, h2⟩
  unfold bY at h1
  rw [Bool.and_eq_true, decide_eq_true_iff, List.all_eq_true] at h1
  obtain ⟨hl, h1⟩ := h1
  refine ⟨rfl, by simpa using hl, fun i _ hi => ?_, fun i _ hi => ?_⟩
  ·have := h1 i (List.mem_range.2 hi)
   rw [Bool.and_eq_true] at this
   exact this
  ·rw [<- hright hl, List.all_eq_true] at h2
   have := h2 (uA B.box B.coin X X.length i) (List.mem_map.2 ⟨i, List.mem_range.2 (by omega), rfl⟩)
   rw [nP (by omega)] at this
   exact this
open Go.RowKit (Below Grown)
def Cv (γ γ' : Gh) (w : World) (d d' : D) : Prop := ∀ v, DV γ w d v -> DV γ' w d' v
def CvL (γ γ' : Gh) (w : World) (ds ds' : List D) : Prop := ∀ vs, DVL γ w ds vs -> DVL γ' w ds' vs
section
variable {γ γ' : Gh} {w : World}
theorem CvL.nil : CvL γ γ' w [] [] := fun vs h => by unfold DVL at h ⊢; exact h
theorem CvL.cons {d d' : D} {ds ds' : List D} (h : Cv γ γ' w d d') (k : CvL γ γ' w ds ds') : CvL γ γ' w (d :: ds) (d' :: ds') := fun vs H => by
 unfold DVL at H ⊢
 obtain ⟨v, r, h1, h2, h3⟩ := H
 exact ⟨v, r, h1, h v h2, k r h3⟩
theorem CvL.app {a a' b b' : List D} (h : CvL γ γ' w a a') (hl : a.length = a'.length) (k : CvL γ γ' w b b') : CvL γ γ' w (a ++ b) (a' ++ b') := fun vs H => by
 obtain ⟨l1, e1⟩ := aR.1 H
 have hv : vs = vs.take a.length ++ vs.drop a.length := (List.take_append_drop _ _).symm
 have t1 := H.take a.length
 have t2 := H.drop a.length
 rw [List.take_left'] at t1 <;> try rfl
 rw [List.drop_left'] at t2 <;> try rfl
 rw [hv]
 exact DVL.append (h _ t1) (k _ t2)
theorem Cv.pu (him : ∀ b, γ.im b -> γ'.im b) {d : D} (h : Pu d) : Cv γ γ' w d d := fun v H => DV.pu him d v h H
theorem CvL.pu (him : ∀ b, γ.im b -> γ'.im b) {ds : List D} (h : aO ds) : CvL γ γ' w ds ds := fun v H => DVL.pu him ds v h H
theorem Cv.any {d : D} : Cv γ γ' w d .any := fun v _ => by unfold DV; trivial
theorem Cv.ag {ds ds' : List D} (h : CvL γ γ' w ds ds') : Cv γ γ' w (.ag ds) (.ag ds') := fun v H => by
 unfold DV at H ⊢
 obtain ⟨vs, h1, h2, h3⟩ := H
 exact ⟨vs, h1, h _ h2, h3⟩
theorem Cv.tp {ds ds' : List D} (h : CvL γ γ' w ds ds') : Cv γ γ' w (.tp ds) (.tp ds') := fun v H => by
 unfold DV at H ⊢
 obtain ⟨vs, h1, h2⟩ := H
 exact ⟨vs, h1, h _ h2⟩
theorem Cv.fn {f : Pos} {x x' y y' : List D} (h : CvL γ γ' w x x') (k : CvL γ γ' w y y') : Cv γ γ' w (.fn f x y) (.fn f x' y') := fun v H => by
 unfold DV at H ⊢
 obtain ⟨vx, vy, h1, h2, h3⟩ := H
 exact ⟨vx, vy, h1, h _ h2, k _ h3⟩
end
theorem CallOk.sub {P : Program} {f : Nat} {ds ds' : List D} {ob ob' : T C} {nx nx' : Pos} {lg lg' : Option (T Bool)} {v : D} (h : CallOk P f ds' ob nx lg v ob' nx' lg') (k : ∀ γ w, CvL γ γ w ds ds') : CallOk P f ds ob nx lg v ob' nx' lg' :=
 ⟨h.hl, h.hx, h.hk, fun so hs γ args w gh ha ho hn => h.ok so hs γ args w gh (k γ w _ ha) ho hn⟩
theorem PureF.sub {P : Program} {f : Nat} {ds ds' : List D} {v : D} (h : PureF P f ds' v) (k : ∀ γ w, CvL γ γ w ds ds') : PureF P f ds v := fun ob nx lg => (h ob nx lg).sub k
def GC (id : Pos) (γ : Gh) : Gh := kF (.o .h) (fun _ => id) γ
def LX (id : Pos) (γ γ' : Gh) : Gh := xR (nA id) γ γ'
theorem Cv.mpI {γ : Gh} {w : World} {id : Pos} : Cv γ (GC id γ) w (.mp id) (.mp .h) := fun u h => Sc h
theorem Cv.mpO {γ γ' : Gh} {w : World} {id : Pos} : Cv γ' (LX id γ γ') w (.mp .h) (.mp id) := fun u h => by
 unfold DV at h ⊢
 show 0 < (xR (nA id) γ γ').cur id /\ u = .map (some ((xR (nA id) γ γ').β id 0).1)
 rw [eV (gU id), iG (gU id)]
 exact h
theorem kP {id : Pos} {γ : Gh} : ∀ b, γ.im b -> (GC id γ).im b := fun _ h => h
theorem qG {id : Pos} {γ γ' : Gh} : ∀ b, γ'.im b -> (LX id γ γ').im b := fun _ h => h
theorem CallOk.oneG {P : Program} {f : Nat} {es es' : List (D × D)} {ds ds' : List D} {v v' : D} {ob' : T C} (h : CallOk P f ds (.n .e (some (.map es)) .e) (.o .h) none v ob' (.o .h) none) (hob' : ob'.get .h = some (.map es')) (hp : ∀ e ∈ es, Pu e.1 /\ Pu e.2) (hp' : ∀ e ∈ es', Pu e.1 /\ Pu e.2)
 {id : Pos} {ob : T C} {nx : Pos} {lg : Option (T Bool)} (hid : ob.get id = some (.map es)) (hlt : id.nat < nx.nat) (hd : ∀ γ w, CvL γ (GC id γ) w ds' ds) (hv : ∀ γ γ' w, Cv γ' (LX id γ γ') w v v') : CallOk P f ds' ob nx lg v' (T.set id (.map es') ob) nx (Hm lg id) := by
 have hw := Jx lg id
 refine ⟨Dw lg id, Nat.le_refl _, fun j hn => ?_, fun so hs γ args w gh hargs hob hnx => ?_⟩
 ·by_cases e : j = id
  ·subst e; exact absurd hw hn
  ·exact T.get_set_ne e _ _
 have hso : so id := hs id hw.tchd
 have h1 : Pos.h.nat < (Pos.o .h).nat := by decide
 have R := Ren.one id
 have him := mE (nx := .o .h) (ρ := fun _ => id) (γ := γ)
 obtain ⟨c1, c2⟩ := h.ok (fun _ => True) (fun _ _ => trivial) (kF (.o .h) (fun _ => id) γ) args w (qH R gh) (hd γ w _ hargs) (fun j c _ hc => by
  cases j with
  | h =>
    rw [T.get_h] at hc
    cases hc
    obtain ⟨q1, en, cl, q2, q3, q4⟩ := hob id _ hso hid
    refine ⟨(eK h1).trans q1, en, cl, q2, q3, fun i e f he hf => ?_⟩
    obtain ⟨k1, k2⟩ := hp e (List.mem_of_getElem? he)
    exact ⟨DV.pu him _ _ k1 (q4 i e f he hf).1, DV.pu him _ _ k2 (q4 i e f he hf).2⟩
  | o p => rw [T.get_o, T.get_e] at hc; cases hc
  | i p => rw [T.get_i, T.get_e] at hc; cases hc) (fun j _ hj => jL (Nat.not_lt.2 hj))
 refine ⟨c1, fun ro m Q' hQ' => c2 ro m Q' fun γ' w' u gh' F hu ho hn => ?_⟩
 have hWid : ∀ i j, nA id i = some j -> wrtn (Hm lg id) i := fun i j h => by
  by_cases e : i = id
  ·subst e; exact hw
  ·rw [gW e] at h; cases h
 have him' := AR (τ := nA id) (γ := γ) (γ' := γ')
 refine hQ' (xR (nA id) γ γ') w' u (AK R gh gh' F) (Bp R hWid F) (hv γ γ' w' u hu) (fun i c hi hc => ?_) (fun i hi hle => ?_)
 ·by_cases e : i = id
  ·subst e
   rw [T.get_set_same] at hc
   cases hc
   obtain ⟨q1, en, cl, q2, q3, q4⟩ := ho .h _ trivial hob'
   refine ⟨(eV (gU i)).trans q1, en, cl, by rw [iG (gU i)]; exact q2, q3, fun j e f he hf => ?_⟩
   obtain ⟨k1, k2⟩ := hp' e (List.mem_of_getElem? he)
   exact ⟨DV.pu him' _ _ k1 (q4 j e f he hf).1, DV.pu him' _ _ k2 (q4 j e f he hf).2⟩
  ·rw [T.get_set_ne e _ _] at hc
   exact rI R gh F (gW e) (hob i c hi hc)
 ·have e : i ≠ id := fun e => by subst e; omega
  rw [dT (gW e)]
  exact hnx i hi hle
theorem CallOk.newG {P : Program} {f : Nat} {es' : List (D × D)} {ds : List D} {v v' : D} {ob' : T C} (h : CallOk P f ds .e .h none v ob' (.o .h) none) (hob' : ob'.get .h = some (.map es')) (hp' : ∀ e ∈ es', Pu e.1 /\ Pu e.2) (hds : aO ds)
 {ob : T C} {nx : Pos} {lg : Option (T Bool)} (hv : ∀ γ γ' w, Cv γ' (LX nx γ γ') w v v') : CallOk P f ds ob nx lg v' (T.set nx (.map es') ob) nx.succ (Hm lg nx) := by
 have hw := Jx lg nx
 refine ⟨Dw lg nx, by rw [Pos.succ_nat]; omega, fun j hn => ?_, fun so hs γ args w gh hargs hob hnx => ?_⟩
 ·by_cases e : j = nx
  ·subst e; exact absurd hw hn
  ·exact T.get_set_ne e _ _
 have hso : so nx := hs nx hw.tchd
 have h1 : Pos.h.nat < (Pos.o .h).nat := by decide
 have R := Ren.one nx
 have him := mE (nx := .o .h) (ρ := fun _ => nx) (γ := γ)
 obtain ⟨c1, c2⟩ := h.ok (fun _ => True) (fun _ _ => trivial) (kF (.o .h) (fun _ => nx) γ) args w (qH R gh) (DVL.pu him _ _ hds hargs) (fun j c _ hc => by rw [T.get_e] at hc; cases hc) (fun j _ hj => by
  by_cases hj1 : j.nat < (Pos.o .h).nat
  ·rw [eK hj1]; exact hnx nx hso (Nat.le_refl _)
  ·exact jL hj1)
 refine ⟨c1, fun ro m Q' hQ' => c2 ro m Q' fun γ' w' u gh' F hu ho hn => ?_⟩
 have hWid : ∀ i j, nA nx i = some j -> wrtn (Hm lg nx) i := fun i j h => by
  by_cases e : i = nx
  ·subst e; exact hw
  ·rw [gW e] at h; cases h
 have him' := AR (τ := nA nx) (γ := γ) (γ' := γ')
 refine hQ' (xR (nA nx) γ γ') w' u (AK R gh gh' F) (Bp R hWid F) (hv γ γ' w' u hu) (fun i c hi hc => ?_) (fun i hi hle => ?_)
 ·by_cases e : i = nx
  ·subst e
   rw [T.get_set_same] at hc
   cases hc
   obtain ⟨q1, en, cl, q2, q3, q4⟩ := ho .h _ trivial hob'
   refine ⟨(eV (gU i)).trans q1, en, cl, by rw [iG (gU i)]; exact q2, q3, fun j e f he hf => ?_⟩
   obtain ⟨k1, k2⟩ := hp' e (List.mem_of_getElem? he)
   exact ⟨DV.pu him' _ _ k1 (q4 j e f he hf).1, DV.pu him' _ _ k2 (q4 j e f he hf).2⟩
  ·rw [T.get_set_ne e _ _] at hc
   exact rI R gh F (gW e) (hob i c hi hc)
 ·have e : i ≠ nx := fun e => by subst e; rw [Pos.succ_nat] at hle; omega
  rw [dT (gW e)]
  exact hnx i hi (by rw [Pos.succ_nat] at hle; omega)
theorem WCall.of {P : Program} {f : Nat} {ds : List D} {d : Option Pos} {sl : T D} {ob ob2 : T C} {nx nx2 : Pos} {lg lg2 : Option (T Bool)} {K : X -> Prop} {v : D} (h : CallOk P f ds ob nx lg v ob2 nx2 lg2) (k : nC sl ob2 nx2 lg2 d K v) : WCall P f ds d ⟨sl, ob, nx, lg⟩ K := by
 cases d with
 | none => exact ⟨v, _, _, _, _, h, rfl, k⟩
 | some d =>
   obtain ⟨h1, h2⟩ := aV k
   exact ⟨v, _, _, _, _, h, h1, h2⟩
mutual
theorem Kp.up {n m : Nat} (h : n <= m) : ∀ d : D, Kp n d -> Kp m d
 | .pt _ _ _, k => by unfold Kp at k ⊢; omega
 | .yl _, k => by unfold Kp at k ⊢; omega
 | .sl _ _ _ _ _, k => by unfold Kp at k ⊢; omega
 | .mp _, k => by unfold Kp at k ⊢; omega
 | .fn _ x y, k => by unfold Kp at k ⊢; exact ⟨KpL.up h x k.1, KpL.up h y k.2⟩
 | .ag cs, k => by unfold Kp at k ⊢; exact KpL.up h cs k
 | .tp cs, k => by unfold Kp at k ⊢; exact KpL.up h cs k
 | .any, k => by unfold Kp at k ⊢; exact k
 | .b _, k => by unfold Kp at k ⊢; exact k
 | .i _ _, k => by unfold Kp at k ⊢; exact k
 | .s _, k => by unfold Kp at k ⊢; exact k
 | .np, k => by unfold Kp at k ⊢; exact k
 | .nf, k => by unfold Kp at k ⊢; exact k
 | .ni, k => by unfold Kp at k ⊢; exact k
 | .nm, k => by unfold Kp at k ⊢; exact k
 | .ns, k => by unfold Kp at k ⊢; exact k
 | .em, k => by unfold Kp at k ⊢; exact k
 | .ifc _ _, k => by unfold Kp at k ⊢; exact k
 | .lst _ _, k => by unfold Kp at k ⊢; exact k
 | .pl _ _, k => by unfold Kp at k ⊢; exact k
theorem KpL.up {n m : Nat} (h : n <= m) : ∀ ds : List D, KpL n ds -> KpL m ds
 | [], k => by unfold KpL at k ⊢; exact k
 | d :: ds, k => by unfold KpL at k ⊢; exact ⟨Kp.up h d k.1, KpL.up h ds k.2⟩
end
theorem KpC.up {n m : Nat} (h : n <= m) : ∀ {c : C}, KpC n c -> KpC m c
 | .cells _ _ _, k => fun c hc => Kp.up h _ (k c hc)
 | .lp _ _ _ _ _ _ _, k => fun s d hd => Kp.up h _ (k s d hd)
 | .map _, k => fun e he => ⟨Kp.up h _ (k e he).1, Kp.up h _ (k e he).2⟩
 | .hole, _ => trivial
theorem KpO.up {n m : Nat} (h : n <= m) {ob : T C} (k : KpO n ob) : KpO m ob := fun id c hc => ⟨Nat.lt_of_lt_of_le (k id c hc).1 h, (k id c hc).2.up h⟩
mutual
theorem Kp.pu {n : Nat} : ∀ d : D, Pu d -> Kp n d
 | .pt _ _ _, h => by unfold Pu at h; exact h.elim
 | .yl _, h => by unfold Pu at h; exact h.elim
 | .sl _ _ _ _ _, h => by unfold Pu at h; exact h.elim
 | .mp _, h => by unfold Pu at h; exact h.elim
 | .fn _ x y, h => by unfold Pu at h; unfold Kp; exact ⟨KpL.pu x h.1, KpL.pu y h.2⟩
 | .ag cs, h => by unfold Pu at h; unfold Kp; exact KpL.pu cs h
 | .tp cs, h => by unfold Pu at h; unfold Kp; exact KpL.pu cs h
 | .any, h => by unfold Kp; exact h
 | .b _, h => by unfold Kp; exact h
 | .i _ _, h => by unfold Kp; exact h
 | .s _, h => by unfold Kp; exact h
 | .np, h => by unfold Kp; exact h
 | .nf, h => by unfold Kp; exact h
 | .ni, h => by unfold Kp; exact h
 | .nm, h => by unfold Kp; exact h
 | .ns, h => by unfold Kp; exact h
 | .em, h => by unfold Kp; exact h
 | .ifc _ _, h => by unfold Kp; exact h
 | .lst _ _, h => by unfold Kp; exact h
 | .pl _ _, h => by unfold Kp; exact h
theorem KpL.pu {n : Nat} : ∀ ds : List D, aO ds -> KpL n ds
 | [], _ => by unfold KpL; trivial
 | d :: ds, h => by unfold aO at h; unfold KpL; exact ⟨Kp.pu d h.1, KpL.pu ds h.2⟩
end
inductive Fld {α σ : Type} (R : σ -> α -> σ -> Bool -> Prop) : List α -> σ -> σ -> Bool -> Prop where
 | nil {s : σ} : Fld R [] s s true
 | stop {a : α} {l : List α} {s s' : σ} (h : R s a s' false) : Fld R (a :: l) s s' false
 | go {a : α} {l : List α} {s s' s2 : σ} {g : Bool} (h : R s a s' true) (k : Fld R l s' s2 g) : Fld R (a :: l) s s2 g
theorem Fld.app {α σ : Type} {R : σ -> α -> σ -> Bool -> Prop} : ∀ {a b : List α} {s s1 s2 : σ} {g : Bool}, Fld R a s s1 true -> Fld R b s1 s2 g -> Fld R (a ++ b) s s2 g
 | [], _, _, _, _, _, h, k => by cases h; exact k
 | _ :: _, _, _, _, _, _, h, k => by
   cases h with
   | go h1 h2 => exact .go h1 (h2.app k)
theorem Fld.cut {α σ : Type} {R : σ -> α -> σ -> Bool -> Prop} : ∀ {a : List α} (b : List α) {s s1 : σ}, Fld R a s s1 false -> Fld R (a ++ b) s s1 false
 | [], _, _, _, h => by cases h
 | _ :: _, b, _, _, h => by
   cases h with
   | stop h1 => exact .stop h1
   | go h1 h2 => exact .go h1 (h2.cut b)
theorem Fld.inv {α σ : Type} {R : σ -> α -> σ -> Bool -> Prop} {I : List α -> σ -> Prop} {W : List α} (hI : ∀ h s a s', h ++ [a] <+: W -> I h s -> R s a s' true -> I (h ++ [a]) s') : ∀ {l h : List α} {s s' : σ}, h ++ l <+: W -> I h s -> Fld R l s s' true -> I (h ++ l) s'
 | [], h, s, s', _, i, k => by cases k; rw [List.append_nil]; exact i
 | a :: l, h, s, s', hp, i, k => by
   cases k with
   | go h1 h2 =>
     have hp' : h ++ [a] ++ l <+: W := by rw [List.append_assoc]; exact hp
     have := Fld.inv hI hp' (hI _ _ _ _ ((List.prefix_append _ _).trans hp') i h1) h2
     rw [List.append_assoc] at this
     exact this
theorem BC {α β : Type} {f : α -> β} {L0 L : List α} {a : β} (h0 : L0 <+: L) (h : L0.map f ++ [a] <+: L.map f) : ∃ x, L0 ++ [x] <+: L /\ a = f x := by
 obtain ⟨r, rfl⟩ := h0
 rw [List.map_append] at h
 have h := (List.prefix_append_right_inj _).1 h
 cases r with
 | nil => simp at h
 | cons x r =>
   rw [List.map_cons] at h
   refine ⟨x, (List.prefix_append_right_inj _).2 ⟨r, rfl⟩, ?_⟩
   obtain ⟨t, ht⟩ := h
   simp at ht
   exact ht.1
def nz (n : Int) : Bool := !decide (n = 0)
def Zh (m : Mo) : List D := [.i .i64 m.n, .b (nz (m.h 0)), .b (nz (m.h 1)), .b (nz (m.h 2)), .b (nz (m.h 3)), .b (nz (m.h 4)), .b (nz (m.h 5)), .b (nz (m.h 6)), .b (nz (m.h 7))]
theorem fU (m : Mo) : aO (dI m) := by simp [dI, aO, Pu]
theorem WSt.ixaZ {sl : T D} {ob : T C} {nx : Pos} {lg : Option (T Bool)} {K : X -> Prop} {d id : Pos} {len z off st : Nat} {k : IntKind} {x i : RX} {n : Int} (hx : bE sl x = some (.pt id off st)) (hi : bE sl i = some (.i k n)) (h0 : 0 <= n) (hm : n.toNat < len) (h : dL sl ob nx lg d K (.pt id (off + n.toNat * z) st)) : WSt (.ixa d len z x i) ⟨sl, ob, nx, lg⟩ K :=
 WSt.ixaN (m := n.toNat) hx hi (by omega) hm h
theorem Fl (m : Mo) : PureF Try.prog p139.ix [.ag (dI m)] (.ag (Zh m)) := by
 unfold dI
 refine PureF.run Ta (by simp) (by simp [aO, dF, Pu, aH, aB, aE]) ?_; conv => whnf
 refine Qg ?_
 refine Rn.rounds ?_
 iterate 8
  refine RnR.more ?_; conv => whnf
  repeat' ((first | refine Qw ?_ | refine Qd (fun h => ?_) (fun h => ?_)) <;> conv => whnf)
  refine WSt.ixaZ rfl rfl (by omega) (by decide) ?_; conv => whnf
  repeat' ((first | refine Qw ?_ | refine Qd (fun h => ?_) (fun h => ?_)) <;> conv => whnf)
 refine RnR.more ?_; conv => whnf
 repeat' ((first | refine Qw ?_ | refine Qd (fun h => ?_) (fun h => ?_)) <;> conv => whnf)
 refine ⟨.inr rfl, _, rfl, .ag ?_⟩
 unfold Zh nz
 repeat' first | exact FzL.nil | refine FzL.cons ?_ ?_
 all_goals exact .pu trivial
theorem Lz (n coin box : Int) (ls : List Ln) (cs : List Ct) (m : Mo) : PureF Try.prog p138.ix [.ag [.i .i64 n, .i .i64 coin, .i .i64 box, .lst 3 (aC aI ls), .lst 3 (aC cY cs), .any], .ag (dI m)] (.fn p156 [] [.pl (jF n coin box ls cs) 0, .pl (dI m) 0]) := by
 unfold dI
 refine PureF.run Tj (by simp) (by simp [aO, dF, Pu, aH, aB, aE]) ?_; conv => whnf
 refine Qg ?_
 refine Fin.t (.inr rfl) rfl (.fn .nil (.cons (Frz.ptr rfl rfl (by simp [jF]) (by simp [jF, aO, Pu, aB, aE])) (.cons (Frz.ptr (r := dI m) rfl rfl (by simp [dI]) (by simp [dI, aO, Pu])) .nil)))
end Go.Ev
end
