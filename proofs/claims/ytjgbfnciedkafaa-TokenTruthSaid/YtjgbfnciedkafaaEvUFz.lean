import Derived.Test.YtjgbfnciedkafaaEvUDs
set_option linter.all false
set_option maxHeartbeats 8000000
noncomputable section
namespace Go.Ev
open Go.RowKit (Below Grown)
mutual
def Pu : D -> Prop
 | .pt _ _ _ => False
 | .sl _ _ _ _ _ => False
 | .mp _ => False
 | .yl _ => False
 | .ag cs => aO cs
 | .tp cs => aO cs
 | .fn _ x y => aO x /\ aO y
 | .ifc _ d => Pu d
 | .lst _ es => dF es
 | .pl r _ => aO r
 | .any => True
 | .b _ => True
 | .i _ _ => True
 | .s _ => True
 | .np => True
 | .nf => True
 | .ni => True
 | .nm => True
 | .ns => True
 | .em => True
def aO : List D -> Prop
 | [] => True
 | d :: ds => Pu d /\ aO ds
def dF : List (List D) -> Prop
 | [] => True
 | r :: es => aO r /\ dF es
end
theorem aF : ∀ {ds : List D}, aO ds ↔ ∀ d ∈ ds, Pu d
 | [] => by simp [aO]
 | d :: ds => by simp [aO, aF]
theorem rJ : ∀ {es : List (List D)}, dF es ↔ ∀ r ∈ es, aO r
 | [] => by simp [dF]
 | d :: ds => by simp [dF, rJ]
section
variable {γ γ' : Gh} {w : World}
mutual
theorem DV.pu (h : ∀ b, γ.im b -> γ'.im b) : ∀ (d : D) (v : Value), Pu d -> DV γ w d v -> DV γ' w d v
 | .any, _, _, H => by unfold DV at *; exact H
 | .b _, _, _, H => by unfold DV at *; exact H
 | .i _ _, _, _, H => by unfold DV at *; exact H
 | .s _, _, _, H => by unfold DV at *; exact H
 | .np, _, _, H => by unfold DV at *; exact H
 | .nf, _, _, H => by unfold DV at *; exact H
 | .ni, _, _, H => by unfold DV at *; exact H
 | .nm, _, _, H => by unfold DV at *; exact H
 | .ns, _, _, H => by unfold DV at *; exact H
 | .em, _, _, H => by unfold DV at *; exact H
 | .pt _ _ _, _, p, _ => by unfold Pu at p; exact p.elim
 | .sl _ _ _ _ _, _, p, _ => by unfold Pu at p; exact p.elim
 | .mp _, _, p, _ => by unfold Pu at p; exact p.elim
 | .yl _, _, p, _ => by unfold Pu at p; exact p.elim
 | .ag cs, _, p, H => by
   unfold Pu at p
   unfold DV at *
   obtain ⟨vs, h1, h2, h3⟩ := H
   exact ⟨vs, h1, DVL.pu h cs _ p h2, h3⟩
 | .tp cs, _, p, H => by
   unfold Pu at p
   unfold DV at *
   obtain ⟨vs, h1, h2⟩ := H
   exact ⟨vs, h1, DVL.pu h cs _ p h2⟩
 | .fn _ x y, _, p, H => by
   unfold Pu at p
   unfold DV at *
   obtain ⟨vx, vy, h1, h2, h3⟩ := H
   exact ⟨vx, vy, h1, DVL.pu h x _ p.1 h2, DVL.pu h y _ p.2 h3⟩
 | .ifc _ d, _, p, H => by
   unfold Pu at p
   unfold DV at *
   obtain ⟨u, h1, h2⟩ := H
   exact ⟨u, h1, DV.pu h d u p h2⟩
 | .lst z es, _, p, H => by
   unfold Pu at p
   unfold DV at *
   obtain ⟨q, cap, h1, h2, h3, h4⟩ := H
   refine ⟨q, cap, h1, h2, h3, ?_⟩
   rcases h4 with h4 | ⟨b, o, vs, e, fr, k1, k2, k3, k4, k5, k6⟩
   ·exact .inl h4
   ·exact .inr ⟨b, o, vs, e, fr, h b k1, k2, k3, k4, DVE.pu h z es _ p k5, k6⟩
 | .pl ds _, _, p, H => by
   unfold Pu at p
   unfold DV at *
   obtain ⟨b, o, vs, e, fr, k1, k2, k3, k4, k5, k6⟩ := H
   exact ⟨b, o, vs, e, fr, h b k1, k2, k3, k4, DVL.pu h ds _ p k5, k6⟩
theorem DVE.pu (h : ∀ b, γ.im b -> γ'.im b) (z : Nat) : ∀ (es : List (List D)) (vs : List Value), dF es -> DVE γ w z es vs -> DVE γ' w z es vs
 | [], _, _, _ => by unfold DVE; trivial
 | r :: es, _, p, H => by
   unfold dF at p
   unfold DVE at *
   exact ⟨H.1, DVL.pu h r _ p.1 H.2.1, DVE.pu h z es _ p.2 H.2.2⟩
theorem DVL.pu (h : ∀ b, γ.im b -> γ'.im b) : ∀ (ds : List D) (vs : List Value), aO ds -> DVL γ w ds vs -> DVL γ' w ds vs
 | [], _, _, H => by unfold DVL at *; exact H
 | d :: ds, _, p, H => by
   unfold aO at p
   unfold DVL at *
   obtain ⟨v, r, h1, h2, h3⟩ := H
   exact ⟨v, r, h1, DV.pu h d v p.1 h2, DVL.pu h ds r p.2 h3⟩
end
end
def WR (st : Nat) (l : List Cell) (ds : List D) : Prop := ∀ (k : Nat) (d : D), ds[k]? = some d -> ∃ c : Cell, l[k]? = some c /\ c.has st = true /\ c.d = d
mutual
inductive Fz (B : Pos -> Prop) (ob : T C) : D -> D -> Prop where
 | pu {d : D} (h : Pu d) : Fz B ob d d
 | any {d : D} : Fz B ob d .any
 | ns {z : Nat} : Fz B ob .ns (.lst z [])
 | em {z : Nat} : Fz B ob .em (.lst z [])
 | sl {id : Pos} {off len st z : Nat} {ro : Bool} {cs : List Cell} {cur : Nat} {es fs : List (List D)} (hB : ¬ B id) (h : ob.get id = some (.cells ro cs cur)) (hl : es.length = len) (hz : ∀ r ∈ es, r.length = z) (hv : WR st (cs.drop off) es.flatten) (he : FzE B ob es fs) : Fz B ob (.sl id off len st z) (.lst z fs)
 | pt {id : Pos} {off st : Nat} {ro : Bool} {cs : List Cell} {cur : Nat} {r fs : List D} (hB : ¬ B id) (h : ob.get id = some (.cells ro cs cur)) (hp : 0 < r.length) (hv : WR st (cs.drop off) r) (he : FzL B ob r fs) : Fz B ob (.pt id off st) (.pl fs 0)
 | ksl {id : Pos} {off len st z : Nat} (hB : B id) : Fz B ob (.sl id off len st z) (.sl id off len st z)
 | kpt {id : Pos} {off st : Nat} (hB : B id) : Fz B ob (.pt id off st) (.pt id off st)
 | kmp {id : Pos} (hB : B id) : Fz B ob (.mp id) (.mp id)
 | kyl {id : Pos} (hB : B id) : Fz B ob (.yl id) (.yl id)
 | lst {z : Nat} {es fs : List (List D)} (h : FzE B ob es fs) : Fz B ob (.lst z es) (.lst z fs)
 | pl {r fs : List D} {k : Nat} (h : FzL B ob r fs) : Fz B ob (.pl r k) (.pl fs k)
 | ag {cs ds : List D} (h : FzL B ob cs ds) : Fz B ob (.ag cs) (.ag ds)
 | tp {cs ds : List D} (h : FzL B ob cs ds) : Fz B ob (.tp cs) (.tp ds)
 | fn {f : Pos} {x y x' y' : List D} (h : FzL B ob x x') (k : FzL B ob y y') : Fz B ob (.fn f x y) (.fn f x' y')
inductive FzL (B : Pos -> Prop) (ob : T C) : List D -> List D -> Prop where
 | nil : FzL B ob [] []
 | cons {d e : D} {ds es : List D} (h : Fz B ob d e) (k : FzL B ob ds es) : FzL B ob (d :: ds) (e :: es)
inductive FzE (B : Pos -> Prop) (ob : T C) : List (List D) -> List (List D) -> Prop where
 | nil : FzE B ob [] []
 | cons {d e : List D} {ds es : List (List D)} (h : FzL B ob d e) (k : FzE B ob ds es) : FzE B ob (d :: ds) (e :: es)
end
abbrev Frz (ob : T C) : D -> D -> Prop := Fz (fun _ => False) ob
theorem FzL.length {B : Pos -> Prop} {ob : T C} : ∀ {a b : List D}, FzL B ob a b -> a.length = b.length
 | _, _, .nil => rfl
 | _, _, .cons _ k => by simp [FzL.length k]
theorem FzE.length {B : Pos -> Prop} {ob : T C} : ∀ {a b : List (List D)}, FzE B ob a b -> a.length = b.length
 | _, _, .nil => rfl
 | _, _, .cons _ k => by simp [FzE.length k]
theorem FzL.of {B : Pos -> Prop} {ob : T C} : ∀ {l : List D}, aO l -> FzL B ob l l
 | [], _ => .nil
 | d :: l, h => by
   unfold aO at h
   exact .cons (.pu h.1) (FzL.of h.2)
theorem FzE.of {B : Pos -> Prop} {ob : T C} : ∀ {es : List (List D)}, dF es -> FzE B ob es es
 | [], _ => .nil
 | r :: es, h => by
   unfold dF at h
   exact .cons (FzL.of h.1) (FzE.of h.2)
theorem tT {γ : Gh} {w : World} {z : Nat} : ∀ {es : List (List D)} {vs : List Value}, (∀ r ∈ es, r.length = z) -> DVL γ w es.flatten (vs.take (es.length * z)) -> DVE γ w z es vs
 | [], _, _, _ => by unfold DVE; trivial
 | r :: es, vs, hz, H => by
   have hr := hz r (by simp)
   unfold DVE
   simp only [List.flatten_cons, List.length_cons] at H
   rw [Nat.add_mul, Nat.one_mul] at H
   have h1 := H.take z
   rw [List.take_append_of_le_length (by omega), List.take_of_length_le (by omega), List.take_take, Nat.min_eq_left (by omega)] at h1
   have h2 := H.drop z
   rw [List.drop_append_of_le_length (by omega), List.drop_of_length_le (by omega), List.nil_append, List.drop_take] at h2
   refine ⟨hr, h1, tT (fun r h => hz r (by simp [h])) ?_⟩
   have e : es.length * z + z - z = es.length * z := by omega
   rw [e] at h2
   exact h2
section
variable {P : Program} {γ γ' : Gh} {w : World} {ob : T C}
theorem zS {id : Pos} {ro : Bool} {cs : List Cell} {cur st off : Nat} {ds : List D} (H : HoldsO P γ w id (.cells ro cs cur)) (hst : st < γ.cur id) (hd : (γ.β id st).2 <= off) (hv : WR st (cs.drop off) ds) :
 ∃ vs e fr, w.heap[(γ.β id st).1]? = some (.cells vs e fr) /\ (ds ≠ [] -> off - (γ.β id st).2 + ds.length <= vs.size) /\ DVL γ w ds ((vs.toList.drop (off - (γ.β id st).2)).take ds.length) /\ ∀ u ∈ (vs.toList.drop (off - (γ.β id st).2)).take ds.length, u.oneCell' = true := by
 obtain ⟨_, h1, h2⟩ := H
 obtain ⟨vs, e, fr, h3, _, h4⟩ := h2 st (by omega)
 have key : ∀ k d, ds[k]? = some d -> ∃ u, vs[off - (γ.β id st).2 + k]? = some u /\ DV γ w d u /\ u.oneCell' = true := by
  intro k d hk
  obtain ⟨c, hc, hh, rfl⟩ := hv k d hk
  rw [List.getElem?_drop] at hc
  obtain ⟨u, h5, h6, h7⟩ := h4 (off + k) c hc hh (by omega)
  exact ⟨u, by rw [show off - (γ.β id st).2 + k = off + k - (γ.β id st).2 by omega]; exact h5, h6, h7⟩
 have hsz : ds ≠ [] -> off - (γ.β id st).2 + ds.length <= vs.size := by
  intro hne
  have hlt : ds.length - 1 < ds.length := by have := List.length_pos_iff.2 hne; omega
  obtain ⟨u, h5, _⟩ := key (ds.length - 1) _ (List.getElem?_eq_getElem hlt)
  have := (Array.getElem?_eq_some_iff.1 h5).1
  omega
 refine ⟨vs, e, fr, h3, hsz, ?_, fun u hu => ?_⟩
 ·refine aR.2 ⟨?_, fun k d v hk hv => ?_⟩
  ·by_cases hne : ds = []
   ·subst hne; simp
   ·have := hsz hne
    simp; omega
  ·obtain ⟨u, h5, h6, _⟩ := key k d hk
   have hlt := (List.getElem?_eq_some_iff.1 hk).1
   rw [List.getElem?_take_of_lt hlt, List.getElem?_drop] at hv
   have : vs[off - (γ.β id st).2 + k]? = some v := by simpa using hv
   rw [h5] at this
   cases this
   exact h6
 ·obtain ⟨k, hk⟩ := List.getElem?_of_mem hu
  have hlt : k < ds.length := by
   have := (List.getElem?_eq_some_iff.1 hk).1
   simp at this; omega
  obtain ⟨u', h5, _, h7⟩ := key k _ (List.getElem?_eq_getElem hlt)
  rw [List.getElem?_take_of_lt hlt, List.getElem?_drop] at hk
  have : vs[off - (γ.β id st).2 + k]? = some u := by simpa using hk
  rw [h5] at this
  cases this
  exact h7
theorem Fz.ok {B : Pos -> Prop} (him : ∀ b, γ.im b -> γ'.im b) (hob : ∀ id c, ob.get id = some c -> HoldsO P γ w id c) (hk : ∀ id, B id -> γ'.cur id = γ.cur id /\ γ'.β id = γ.β id) (hown : ∀ id st vs e fr, ¬ B id -> st < γ.cur id -> w.heap[(γ.β id st).1]? = some (.cells vs e fr) -> γ'.im (γ.β id st).1) {d d' : D} (h : Fz B ob d d') : ∀ v, DV γ w d v -> DV γ' w d' v := by
 refine Fz.rec (B := B) (ob := ob) (motive_1 := fun d d' _ => ∀ v, DV γ w d v -> DV γ' w d' v) (motive_2 := fun ds es _ => ∀ vs, DVL γ w ds vs -> DVL γ' w es vs) (motive_3 := fun es fs _ => ∀ vs z, DVE γ w z es vs -> DVE γ' w z fs vs)
  ?_ ?_ ?_ ?_ ?_ ?_ ?_ ?_ ?_ ?_ ?_ ?_ ?_ ?_ ?_ ?_ ?_ ?_ ?_ h
 ·exact fun hp v H => DV.pu him _ v hp H
 ·exact fun v _ => by unfold DV; trivial
 ·intro z v H
  unfold DV at *
  subst H
  exact ⟨none, 0, rfl, Nat.le_refl _, fun _ => rfl, .inl rfl⟩
 ·intro z v H
  unfold DV at *
  obtain ⟨a, rfl⟩ := H
  exact ⟨some a, 0, rfl, Nat.le_refl _, (fun h => by cases h), .inl rfl⟩
 ·intro id off len st z ro cs cur es fs hB hg hl hz hv he ih v H
  obtain ⟨e1, e2, cap, e, n, rfl, e4, e5, e6⟩ := mT H
  have hfl := he.length
  obtain ⟨vs, e', fr, k1, k2, k3, k4⟩ := zS (hob id _ hg) e1 e2 hv
  have hlen : es.flatten.length = es.length * z := by
   clear hv he ih k2 k3 k4 hfl hl
   induction es with
   | nil => simp
   | cons r es ih => simp [ih (fun r h => hz r (by simp [h])), hz r (by simp), Nat.add_mul]; omega
  have hsz : off - (γ.β id st).2 + es.length * z <= vs.size := by
   have h1 : w.shape? (γ.β id st).1 = some (e', vs.size) := dZ k1
   rw [h1] at e5
   cases e5
   have : es.length * z <= cap * z := Nat.mul_le_mul_right z (by omega)
   omega
  unfold DV
  refine ⟨_, cap, by rw [<- hfl, hl], by omega, (fun h => by cases h), .inr ⟨_, _, vs, e', fr, hown id st _ _ _ hB e1 k1, k1, rfl, by rw [<- hfl]; exact hsz, ?_, ?_⟩⟩
  ·refine ih _ _ (tT hz ?_)
   rw [<- hlen]
   exact k3
  ·rw [<- hfl, <- hlen]; exact k4
 ·intro id off st ro cs cur r fs hB hg hp hv he ih v H
  obtain ⟨e1, e2, rfl⟩ := nO H
  have hfl := he.length
  obtain ⟨vs, e', fr, k1, k2, k3, k4⟩ := zS (hob id _ hg) e1 e2 hv
  have hsz := k2 (fun e => by rw [e] at hp; simp at hp)
  unfold DV
  refine ⟨_, _, vs, e', fr, hown id st _ _ _ hB e1 k1, k1, rfl, by rw [<- hfl]; exact hsz, ?_, ?_⟩
  ·rw [<- hfl]; exact ih _ k3
  ·rw [<- hfl]; exact k4
 ·intro id off len st z hB v H
  obtain ⟨k1, k2⟩ := hk id hB
  unfold DV at H ⊢
  obtain ⟨h1, h2, cap, e, n, h3, h4⟩ := H
  rw [k1, k2]
  exact ⟨h1, h2, cap, e, n, h3, h4⟩
 ·intro id off st hB v H
  obtain ⟨k1, k2⟩ := hk id hB
  unfold DV at H ⊢
  rw [k1, k2]
  exact H
 ·intro id hB v H
  obtain ⟨k1, k2⟩ := hk id hB
  unfold DV at H ⊢
  rw [k1, k2]
  exact H
 ·intro id hB v H
  obtain ⟨k1, k2⟩ := hk id hB
  unfold DV at H ⊢
  rw [k1, k2]
  exact H
 ·intro z es fs he ih v H
  have hfl := he.length
  obtain ⟨p, cap, rfl, h2, h3, h4⟩ := sR H
  unfold DV
  refine ⟨p, cap, by rw [hfl], by rw [<- hfl]; exact h2, h3, ?_⟩
  rcases h4 with rfl | ⟨b, o, vs, e, fr, k1, k2, k3, k4, k5, k6⟩
  ·left
   exact List.length_eq_zero_iff.1 hfl.symm
  ·exact .inr ⟨b, o, vs, e, fr, him b k1, k2, k3, by rw [<- hfl]; exact k4, ih _ _ k5, by rw [<- hfl]; exact k6⟩
 ·intro r fs k he ih v H
  have hfl := he.length
  obtain ⟨b, o, vs, e, fr, k1, k2, rfl, k4, k5, k6⟩ := tL H
  unfold DV
  exact ⟨b, o, vs, e, fr, him b k1, k2, rfl, by rw [<- hfl]; exact k4, by rw [<- hfl]; exact ih _ k5, by rw [<- hfl]; exact k6⟩
 ·intro cs ds _ ih v H
  obtain ⟨vs, rfl, h2, h3⟩ := tS H
  unfold DV
  exact ⟨vs, rfl, ih _ h2, h3⟩
 ·intro cs ds _ ih v H
  obtain ⟨vs, rfl, h2⟩ := Ei H
  unfold DV
  exact ⟨vs, rfl, ih _ h2⟩
 ·intro f x y x' y' _ _ ih1 ih2 v H
  obtain ⟨vx, vy, rfl, h2, h3⟩ := wF H
  unfold DV
  exact ⟨vx, vy, rfl, ih1 _ h2, ih2 _ h3⟩
 ·intro vs H
  unfold DVL at *; exact H
 ·intro d e ds es _ _ ih1 ih2 vs H
  unfold DVL at H ⊢
  obtain ⟨v, r, rfl, h2, h3⟩ := H
  exact ⟨v, r, rfl, ih1 _ h2, ih2 _ h3⟩
 ·intro vs z H
  unfold DVE; trivial
 ·intro d e ds es hd _ ih1 ih2 vs z H
  unfold DVE at H ⊢
  exact ⟨by rw [<- hd.length]; exact H.1, ih1 _ H.2.1, ih2 _ _ H.2.2⟩
theorem GLok.im {γ γ' : Gh} {w : World} (h : GLok γ w) (k : ∀ b, γ.im b -> γ'.im b) : GLok γ' w := fun g r e => ⟨k g (h g r e).1, (h g r e).2⟩
theorem CallOk.shut {f : FuncId} {ds : List D} {v v' : D} {ob' : T C} {nx' : Pos} {lg' : Option (T Bool)} (K : CallOk P f ds .e .h none v ob' nx' lg') (hp : aO ds) (hz : Frz ob' v v') (ob : T C) (nx : Pos) (lg : Option (T Bool)) : CallOk P f ds ob nx lg v' ob nx lg := by
 refine ⟨LgLe.refl _, Nat.le_refl _, Keeps.refl _ _, fun so _ γ args w gh hargs hob hnx => ?_⟩
 obtain ⟨c1, c2⟩ := K.ok (fun _ => True) (fun _ _ => trivial) ⟨fun _ => 0, fun _ _ => (0, 0), γ.im⟩ args w ⟨fun _ st h => absurd h (Nat.not_lt_zero st), fun _ st _ _ h => absurd h (Nat.not_lt_zero st), fun b hb => ⟨(gh.im b hb).1, fun _ st h => absurd h (Nat.not_lt_zero st)⟩, gh.gl.im fun _ h => h⟩
  (DVL.pu (γ := γ) (γ' := ⟨fun _ => 0, fun _ _ => (0, 0), γ.im⟩) (fun _ h => h) ds _ hp hargs) (fun id c _ hc => by rw [T.get_e] at hc; cases hc) (fun _ _ _ => rfl)
 refine ⟨c1, fun ro m R hR => c2 ro m R fun γ' w' u gh' F hu hob' _ => ?_⟩
 have hb : ∀ b, b < w.heap.size -> w'.heap[b]? = w.heap[b]? := fun b hb => F.blk b hb fun id st _ hst => absurd hst (Nat.not_lt_zero st)
 have hnew : ∀ id st, st < γ'.cur id -> w.heap.size <= (γ'.β id st).1 := fun id st hst => by
  rcases F.new id st (Nat.zero_le _) hst with h | ⟨kC, h, _⟩
  ·exact h
  ·exact absurd h (Nat.not_lt_zero kC)
 let γ2 : Gh := ⟨γ.cur, γ.β, fun b => γ'.im b \/ ((∃ id st, st < γ'.cur id /\ (γ'.β id st).1 = b) /\ ∃ vs e fr, w'.heap[b]? = some (.cells vs e fr))⟩
 have U : Up γ γ2 w w' := ⟨fun _ => Nat.le_refl _, fun _ _ _ => rfl, F.up.3, fun b hm => ⟨.inl (F.up.im b hm).1, (F.up.im b hm).2⟩⟩
 refine hR γ2 w' u ⟨fun id st hst => Nat.lt_of_lt_of_le (gh.ob id st hst) F.size, gh.inj, fun b hm => ?_, gh'.gl.im fun _ h => .inl h⟩ ⟨U, fun _ _ => rfl, fun b h1 _ => hb b h1, fun _ _ h1 h2 => absurd h2 (by show ¬ _ < γ.cur _; omega), fun b hm hlt => ?_, F.lp, F.size, F.os, F.tape, F.output, F.fz⟩
  (Fz.ok (γ := γ') (γ' := γ2) (fun b h => .inl h) (fun id c hc => hob' id c trivial hc) (fun _ h => h.elim) (fun id st vs e fr _ hst hc => .inr ⟨⟨id, st, hst, rfl⟩, vs, e, fr, hc⟩) hz u hu)
  (fun id c hid hc => HoldsO.mono U rfl (fun st hst => hb _ (gh.ob id st hst)) (hob id c hid hc)) hnx
 ·rcases hm with hm | ⟨⟨id', st', h1, h2⟩, h3⟩
  ·refine ⟨(gh'.im b hm).1, fun id st hst e => ?_⟩
   have hlt := gh.ob id st hst
   have e : (γ.β id st).1 = b := e
   rw [e] at hlt
   exact (gh.im b (F.imn b hm hlt)).2 id st hst e
  ·refine ⟨h3, fun id st hst e => ?_⟩
   have hlt := gh.ob id st hst
   have e : (γ.β id st).1 = b := e
   have := hnew id' st' h1
   omega
 ·rcases hm with hm | ⟨⟨id', st', h1, h2⟩, h3⟩
  ·exact F.imn b hm hlt
  ·have := hnew id' st' h1
   omega
end
open Go.RowKit (Below)
inductive OR (P : Program) : RO -> X -> X -> Prop where
 | st {r : RO} {x Z : X} (h : step r x.sl x.ob x.nx x.lg = some Z) : OR P r x Z
 | cf {d : Option Pos} {f : Pos} {xs : List RX} {x Z : X} {ds : List D} {v : D} {ob' : T C} {nx' : Pos} {lg' : Option (T Bool)} (h1 : uJ x.sl xs = some ds) (h2 : CallOk P f.ix ds x.ob x.nx x.lg v ob' nx' lg') (h3 : mX x.sl ob' nx' lg' d v = some Z) : OR P (.cf d f xs) x Z
 | cv {d : Option Pos} {g : RX} {xs : List RX} {x Z : X} {f : Pos} {first caps ds : List D} {v : D} {ob' : T C} {nx' : Pos} {lg' : Option (T Bool)} (h0 : bE x.sl g = some (.fn f first caps)) (h1 : uJ x.sl xs = some ds) (h2 : CallOk P f.ix (first ++ (ds ++ caps)) x.ob x.nx x.lg v ob' nx' lg') (h3 : mX x.sl ob' nx' lg' d v = some Z) : OR P (.cv d g xs) x Z
 | cy {d : Option Pos} {g : RX} {xs : List RX} {x Z : X} {id : Pos} {ds : List D} {v : D} {ob' : T C} {nx' : Pos} {lg' : Option (T Bool)} (h0 : bE x.sl g = some (.yl id)) (h1 : uJ x.sl xs = some ds) (h2 : RndOk P id ds x.ob x.nx x.lg v ob' nx' lg') (h3 : mX x.sl ob' nx' lg' d v = some Z) : OR P (.cv d g xs) x Z
inductive GR (P : Program) : RG -> X -> X -> Prop where
 | u {r : RO} {x Z : X} (h : OR P r x Z) : GR P (.u r) x Z
 | t {p : Pos} {want : Bool} {d : Option Pos} {r : RO} {x Z : X} (hb : x.sl.get p = some (.b want)) (h : OR P r x Z) : GR P (.g p want d r) x Z
 | f {p : Pos} {want : Bool} {d : Option Pos} {r : RO} {x Z : X} (hb : x.sl.get p = some (.b (!want))) (h : mX x.sl x.ob x.nx x.lg d (.tp []) = some Z) : GR P (.g p want d r) x Z
 | n {p : Pos} {want : Bool} {d : Option Pos} {r : RO} {x Z : X} (hb : x.sl.get p = some (.tp [])) (h : mX x.sl x.ob x.nx x.lg d (.tp []) = some Z) : GR P (.g p want d r) x Z
inductive LRr (P : Program) : List RG -> X -> X -> Prop where
 | nil {x : X} : LRr P [] x x
 | cons {g : RG} {l : List RG} {x y Z : X} (h : GR P g x y) (k : LRr P l y Z) : LRr P (g :: l) x Z
section
variable {P : Program} {nt : Nat} {o : Oper} {sl : T D} {ob : T C} {nx : Pos} {lg : Option (T Bool)}
theorem Pi {x Z : X} (h : OR P .bad x Z) : False := by
 cases h with
 | st h => cases h
theorem qD {r : RO} (hc : aL P nt o = some r) (h : (∃ d f xs, r = .cf d f xs) \/ ∃ d g xs, r = .cv d g xs) : ∃ y args tys, o.op = .call { callee := .value y, args := args, argTypes := tys } := by
 cases hop : o.op with
 | call c =>
   obtain ⟨callee, args, tys⟩ := c
   cases callee with
   | value y => exact ⟨y, args, tys, rfl⟩
   | invoke r m => simp only [aL, hop] at hc; cases hc
   | builtin b =>
     exfalso
     rcases h with ⟨d, f, xs, rfl⟩ | ⟨d, f, xs, rfl⟩ <;> (cases b <;> simp only [aL, hop] at hc <;> (repeat' split at hc) <;> first | contradiction | (cases hc; done) | (simp at hc; done) | (rw [Bool.cond_eq_ite] at hc; split at hc <;> simp at hc))
 | _ =>
   exfalso
   rcases h with ⟨d, f, xs, rfl⟩ | ⟨d, f, xs, rfl⟩ <;> (simp only [aL, hop] at hc <;> (repeat' split at hc) <;> first | contradiction | (cases hc; done) | (simp at hc; done) | (rw [Bool.cond_eq_ite] at hc; split at hc <;> simp at hc))
theorem Nm {r : RO} {Z : X} (hc : aL P nt o = some r) (h : OR P r ⟨sl, ob, nx, lg⟩ Z) : OpOk P nt o r.ss ⟨sl, ob, nx, lg⟩ Z := by
 cases h with
 | st h => exact MO hc h
 | cf hds h2 h1 =>
   rename_i d f xs ds v ob' nx' lg'
   obtain ⟨y, args, tys, hop⟩ := qD hc (.inl ⟨_, _, _, rfl⟩)
   cases y with
   | func g =>
     simp only [aL, hop] at hc
     split at hc
     ·rename_i pf xs' hf hxs
      obtain ⟨dst, he, hd, hlt⟩ := kJ (f := fun d => RO.cf d pf xs') hc
      cases he
      refine uP hd hlt h1 h2 fun {V γ a w} R hs => ?_
      refine ⟨args.map a.eval, ?_, fun hr => ?_⟩
      ·rw [Array.toList_map]
       exact jE hxs hds R fun s h => hs s h
      ·rw [eD hf] at hr
       rw [eD hf]
       simp [execOp, hop, resolve, Deferred.ofValue, Act.eval, invoke, hr]
     ·cases hc
   | _ =>
     exfalso
     simp only [aL, hop] at hc
     split at hc
     ·obtain ⟨dst, he, _⟩ := kJ (f := fun d => RO.cv d _ _) hc
      cases he
     ·cases hc
 | cv hv hds h2 h1 =>
   rename_i d g xs f first caps ds v ob' nx' lg'
   obtain ⟨y, args, tys, hop⟩ := qD hc (.inr ⟨_, _, _, rfl⟩)
   have byValue : ∀ {pf : RX} {xs' : List RX} {dst : Option Pos}, rx y = some pf -> Hp args.toList = some xs' -> o.dst = dst.map Pos.ix -> (∀ e, dst = some e -> e.ix < nt) -> RO.cv d g xs = .cv dst pf xs' -> OpOk P nt o (RO.cv d g xs).ss ⟨sl, ob, nx, lg⟩ Z := by
    intro pf xs' dst hf hxs hd hlt he
    cases he
    refine uP hd hlt h1 h2 fun {V γ a w} R hs => ?_
    obtain ⟨vx, vy, e1, e2, e3⟩ := wF (aG hf hv R fun s h => hs s (by simp [RO.ss, h]))
    refine ⟨vx ++ args.map a.eval ++ vy, ?_, fun hr => ?_⟩
    ·simp only [Array.toList_append, Array.toList_map, List.append_assoc]
     exact e2.append ((jE hxs hds R fun s h => hs s (by simp [RO.ss, h])).append e3)
    ·rw [Array.append_assoc] at hr
     simp [execOp, hop, resolve, Deferred.ofValue, e1, invoke, hr]
   cases y with
   | func g' =>
     exfalso
     simp only [aL, hop] at hc
     split at hc
     ·obtain ⟨dst, he, _⟩ := kJ (f := fun d => RO.cf d _ _) hc
      cases he
     ·cases hc
   | _ =>
     simp only [aL, hop] at hc
     split at hc
     ·rename_i pf xs' hf hxs
      obtain ⟨dst, he, hd, hlt⟩ := kJ (f := fun d => RO.cv d pf xs') hc
      exact byValue hf hxs hd hlt he
     ·cases hc
 | cy hv hds h2 h1 =>
   rename_i d g xs id ds v ob' nx' lg'
   obtain ⟨y, args, tys, hop⟩ := qD hc (.inr ⟨_, _, _, rfl⟩)
   have byValue : ∀ {pf : RX} {xs' : List RX} {dst : Option Pos}, rx y = some pf -> Hp args.toList = some xs' -> o.dst = dst.map Pos.ix -> (∀ e, dst = some e -> e.ix < nt) -> RO.cv d g xs = .cv dst pf xs' -> OpOk P nt o (RO.cv d g xs).ss ⟨sl, ob, nx, lg⟩ Z := by
    intro pf xs' dst hf hxs hd hlt he
    cases he
    refine IS hd hlt h1 h2 fun {V γ a w} R hs => ?_
    have e1 := aG hf hv R fun s h => hs s (by simp [RO.ss, h])
    unfold DV at e1
    refine ⟨e1.1, args.map a.eval, ?_, fun x hr => ?_⟩
    ·rw [Array.toList_map]
     exact jE hxs hds R fun s h => hs s (by simp [RO.ss, h])
    ·simp [execOp, hop, resolve, Deferred.ofValue, e1.2, invoke, hr]
   cases y with
   | func g' =>
     exfalso
     simp only [aL, hop] at hc
     split at hc
     ·obtain ⟨dst, he, _⟩ := kJ (f := fun d => RO.cf d _ _) hc
      cases he
     ·cases hc
   | _ =>
     simp only [aL, hop] at hc
     split at hc
     ·rename_i pf xs' hf hxs
      obtain ⟨dst, he, hd, hlt⟩ := kJ (f := fun d => RO.cv d pf xs') hc
      exact byValue hf hxs hd hlt he
     ·cases hc
end
section
variable {P : Program} {nt : Nat} {ops : Array Oper} {o : Oper}
theorem sV {x Z : X} (h : GR P (.u .bad) x Z) : False := by
 cases h with
 | u h => exact Pi h
theorem IP {i : Nat} {x Z : X} (ho : ops[i]? = some o) (h : GR P (hG P nt ops o) x Z) : IOk P nt ops i (hG P nt ops o).ss x Z := by
 obtain ⟨sl, ob, nx, lg⟩ := x
 unfold hG at h ⊢
 split at h
 ·exact (sV h).elim
 ·rename_i r hr
  split at h
  ·rename_i hg
   cases h with
   | u h => exact IOk.of_op ho (fun V hV γ a w R => by simp [Region.wanted, hg]) (fun s hs => hs) (Nm hr h)
  ·rename_i j want hg
   -- guarded
   have main : ∀ {oj : Oper} {t : Nat} {p : Pos} {d : Option Pos}, ops[j]? = some oj -> oj.dst = some t -> tE t = some p -> o.dst = d.map Pos.ix -> (∀ e, d = some e -> e.ix < nt) -> GR P (.g p want d r) ⟨sl, ob, nx, lg⟩ Z -> IOk P nt ops i (RG.g p want d r).ss ⟨sl, ob, nx, lg⟩ Z := by
    intro oj t p d hoj ht hp hd hlt h
    have hy : ∀ b, sl.get p = some (.b b) -> ∀ V : Sel, (∀ s, s ∈ (RG.g p want d r).ss -> V.ss s) -> ∀ γ a w, Rep P V γ a w ⟨sl, ob, nx, lg⟩ -> yielded ops a.tmps j = some b := by
     intro b hb V hV γ a w R
     obtain ⟨h1, h2⟩ := R.sl p _ (hV p List.mem_cons_self) hb
     rw [eD hp] at h1 h2
     have h2 := uD h2
     simp only [yielded, hoj, ht, Option.bind_some]
     rw [Array.getD_eq_getD_getElem?] at h2
     rw [Array.getElem?_eq_getElem h1] at h2 ⊢
     simp only [Option.getD_some] at h2
     rw [h2]
    cases h with
    | t hb h =>
      refine IOk.of_op ho (fun V hV γ a w R => ?_) (fun s hs => List.mem_cons_of_mem _ hs) (Nm hr h)
      simp only [Region.wanted, hg, hy _ hb V hV γ a w R]
      cases want <;> rfl
    | f hb h =>
      have hl := oW h
      refine ⟨hl.1 ▸ LgLe.refl _, hl.2.1 ▸ Nat.le_refl _, by rw [hl.2.2.1]; exact Keeps.refl _ _, fun s hs => hl.2.2.2 s (by rw [ho] at hs; rw [<- hd]; exact hs), fun V hV hto ro γ a w hn g R n K Q hK => ?_⟩
      have hwn : Region.wanted o (yielded ops a.tmps) = false := by
       simp only [Region.wanted, hg, hy _ hb V hV γ a w R]
       cases want <;> rfl
      simp only [wpOpIn, ho, hwn]
      simp only [ho, Option.bind_some] at hK
      refine ⟨fun _ _ => trivial, ?_⟩
      obtain ⟨_, _, s1, r1⟩ := oV (ro := ro) (u := undef) (a := a) hd (fun e he => by rw [hn]; exact hlt e he) R h (Fr.refl _ _ _) (fun a' ha => { g with df := by rw [ha]; exact g.df }) qU R.ob R.nx
      rw [<- hl.1] at s1
      exact hK γ _ w s1 r1
    | n hb h =>
      have hy : ∀ V : Sel, (∀ s, s ∈ (RG.g p want d r).ss -> V.ss s) -> ∀ γ a w, Rep P V γ a w ⟨sl, ob, nx, lg⟩ -> yielded ops a.tmps j = none := by
       intro V hV γ a w R
       obtain ⟨h1, h2⟩ := R.sl p _ (hV p List.mem_cons_self) hb
       rw [eD hp] at h1 h2
       have h2 := yA h2
       simp only [yielded, hoj, ht, Option.bind_some]
       rw [Array.getD_eq_getD_getElem?] at h2
       rw [Array.getElem?_eq_getElem h1] at h2 ⊢
       simp only [Option.getD_some] at h2
       rw [h2]
      have h : mX sl ob nx lg d (.tp []) = some Z := h
      have hl := oW h
      refine ⟨hl.1 ▸ LgLe.refl _, hl.2.1 ▸ Nat.le_refl _, by rw [hl.2.2.1]; exact Keeps.refl _ _, fun s hs => hl.2.2.2 s (by rw [ho] at hs; rw [<- hd]; exact hs), fun V hV hto ro γ a w hn g R n K Q hK => ?_⟩
      have hwn : Region.wanted o (yielded ops a.tmps) = false := by
       simp only [Region.wanted, hg, hy V hV γ a w R]
       rfl
      simp only [wpOpIn, ho, hwn]
      simp only [ho, Option.bind_some] at hK
      refine ⟨fun _ _ => trivial, ?_⟩
      obtain ⟨_, _, s1, r1⟩ := oV (ro := ro) (u := undef) (a := a) hd (fun e he => by rw [hn]; exact hlt e he) R h (Fr.refl _ _ _) (fun a' ha => { g with df := by rw [ha]; exact g.df }) qU R.ob R.nx
      rw [<- hl.1] at s1
      exact hK γ _ w s1 r1
   split at h
   ·rename_i oj hoj
    split at h
    ·rename_i t ht
     split at h
     ·rename_i p hp
      split at h
      ·rename_i hd
       exact main hoj ht hp hd (fun e he => by cases he) h
      ·rename_i s hd
       split at h
       ·rename_i d hs
        obtain ⟨h1, h2⟩ := nI hs
        exact main (d := some d) hoj ht hp (by rw [hd, <- h1]; rfl) (fun e he => by cases he; rw [h1]; exact h2) h
       ·exact (sV h).elim
     ·exact (sV h).elim
    ·exact (sV h).elim
   ·exact (sV h).elim
theorem Ni : ∀ (l pre : List Oper) {x Z : X}, ops.toList = pre ++ l -> LRr P (dC P nt ops l) x Z ->
 LgLe x.lg Z.lg /\ x.nx.nat <= Z.nx.nat /\ Keeps Z.lg x.ob Z.ob /\ ∀ so : Pos -> Prop, (∀ id, tchd Z.lg id -> so id) -> ∀ (ro : Option Nat) (γ : Gh) (a : Act) (w : World), a.tmps.size = nt -> G ro γ a w -> Rep P (gM so) γ a w x ->
 ∀ (n : Nat) (Q : Exit -> Act -> World -> Prop), (∀ γ' a' w', CSt ro Z.lg γ a w γ' a' w' -> Rep P (gM so) γ' a' w' Z -> Q .normal a' w') -> wpOpsIn (FW ro) n P ops Q (List.range' pre.length l.length) a w
 | [], pre, x, Z, ho, h => by
   cases h
   exact ⟨LgLe.refl _, Nat.le_refl _, Keeps.refl _ _, fun so hs ro γ a w hn g R n Q hQ => hQ γ a w (CSt.refl g) R⟩
 | o :: l, pre, x, Z, ho, h => by
   cases h with
   | cons hy h =>
     rename_i y
     have hoi : ops[pre.length]? = some o := by
      rw [<- Array.getElem?_toList, ho]; simp
     have I := IP hoi hy
     obtain ⟨h1, h2, hk, h3⟩ := Ni l (pre ++ [o]) (by rw [ho]; simp) h
     refine ⟨I.lg.trans h1, Nat.le_trans I.nx h2, I.obf.trans h1 hk, fun so hs ro γ a w hn g R n Q hQ => ?_⟩
     rw [List.length_cons, List.range'_succ, wpOpsIn_cons]
     refine I.ok (gM so) (fun _ _ => trivial) (fun id hid => hs id (h1.t id hid)) ro γ a w hn g R n _ Q fun γ1 a1 w1 s1 R1 => ?_
     have := h3 so hs ro γ1 a1 w1 (s1.sz.trans hn) s1.g R1 n Q fun γ2 a2 w2 s2 R2 => hQ γ2 a2 w2 (CSt.trans h1 s1.code s2) R2
     rw [List.length_append, List.length_singleton] at this
     exact this
theorem XOk.regR {id : Nat} {x Z : X} (hy : LRr P (dC P nt ops ops.toList) x Z) : XOk P nt (.region id ops false) x .normal Z := by
 ·skip
  obtain ⟨h1, h2, hk, h3⟩ := Ni ops.toList [] rfl hy
  refine ⟨h1, h2, hk, fun so hs ro γ a w hn g R n Q hQ => wpIn_region ?_⟩
  have := h3 so hs ro γ a w hn g R n Q hQ
  rw [List.range_eq_range']
  rw [Array.length_toList] at this
  exact this
end
inductive DR (P : Program) : List RG -> List Nat -> Nat -> List (Nat × T Bool) -> X -> X -> Prop where
 | nil {ms : List Nat} {i : Nat} {acc : List (Nat × T Bool)} {x : X} : DR P [] ms i acc x x
 | e {g : RG} {l : List RG} {ms : List Nat} {i : Nat} {acc : List (Nat × T Bool)} {x y Z : X} (h : GR P g (x.at (some .e)) (y.at (some .e))) (k : DR P l (CC ms) (Nat.succ i) acc (y.at x.lg) Z) : DR P (g :: l) ms i acc x Z
 | n {g : RG} {l : List RG} {ms : List Nat} {i : Nat} {acc : List (Nat × T Bool)} {x y Z : X} {L : T Bool} {lg1 : Option (T Bool)} (h : GR P g (x.at (some .e)) (y.at (some L))) (ha : nN (dV ms 0) L acc = true) (hm : ∀ k : Option (T Bool) -> Option X, nG x.lg L k = k lg1) (k : DR P l (CC ms) (Nat.succ i) ((i, L) :: acc) (y.at lg1) Z) : DR P (g :: l) ms i acc x Z
section
variable {P : Program} {nt : Nat} {ops : Array Oper} {o : Oper}
theorem NL {M : List Nat} : ∀ (l pre : List Oper) {ms : List Nat} {acc : List (Nat × T Bool)} {x Z : X}, ops.toList = pre ++ l -> (∀ j, dV ms j = dV M (pre.length + j)) ->
 DR P (dC P nt ops l) ms pre.length acc x Z -> ∃ xs Ls, DRun P nt ops M pre.length acc x Z xs Ls
 | [], pre, ms, acc, x, Z, ho, hms, h => by
   cases h
   have hsz : ops.size = pre.length := by rw [<- Array.length_toList, ho]; simp
   exact ⟨fun _ => x, fun _ => .e, ⟨rfl, rfl, rfl⟩, ⟨rfl, rfl, rfl⟩, fun i h1 h2 => by omega, LgLe.refl _, fun i h1 h2 => by omega, fun i h1 h2 => by omega, fun i h1 h2 => by omega, fun i j h1 h2 h3 => by omega⟩
 | o :: l, pre, ms, acc, x, Z, ho, hms, h => by
   obtain ⟨sl, ob, nx, lg⟩ := x
   have hp : ops[pre.length]? = some o := by
    rw [<- Array.getElem?_toList, ho]; simp
   have hlt : pre.length < ops.size := (Array.getElem?_eq_some_iff.1 hp).1
   have hn : fW P nt ops pre.length = (hG P nt ops o).ss := by unfold fW; rw [hp]
   have hlen : (pre ++ [o]).length = pre.length + 1 := by simp
   have step : ∀ {sl1 : T D} {ob1 : T C} {nx1 : Pos} {L : T Bool} {lg1 : Option (T Bool)} {acc1 : List (Nat × T Bool)}, IOk P nt ops pre.length (hG P nt ops o).ss ⟨sl, ob, nx, some .e⟩ ⟨sl1, ob1, nx1, some L⟩ ->
    LgLe lg lg1 -> (∀ id, tchd (some L) id -> tchd lg1 id) -> (∀ id, wrtn (some L) id -> wrtn lg1 id) -> (∀ i A, (i, A) ∈ acc -> (i, A) ∈ acc1 /\ (eI (dV M pre.length) i = true \/ iV A L = true)) -> (L = .e \/ (pre.length, L) ∈ acc1) ->
    DR P (dC P nt ops l) (CC ms) (Nat.succ pre.length) acc1 ⟨sl1, ob1, nx1, lg1⟩ Z -> ∃ xs Ls, DRun P nt ops M pre.length acc ⟨sl, ob, nx, lg⟩ Z xs Ls := by
    intro sl1 ob1 nx1 L lg1 acc1 I hl ht hw hacc hL hrun
    obtain ⟨xs, Ls, R⟩ := NL (M := M) l (pre ++ [o]) (ms := CC ms) (acc := acc1) (x := ⟨sl1, ob1, nx1, lg1⟩) (by rw [ho]; simp) (fun j => by rw [FH, hms, hlen]; congr 1; omega) (by rw [hlen]; exact hrun)
    rw [hlen] at R
    have hx1 : (xs (pre.length + 1)).at (some L) = ⟨sl1, ob1, nx1, some L⟩ := by
     obtain ⟨b1, b2, b3⟩ := R.b
     unfold X.at
     rw [b1, b2, b3]
    refine ⟨fun i => if i = pre.length then ⟨sl, ob, nx, lg⟩ else xs i, fun i => if i = pre.length then L else Ls i, ⟨by simp, by simp, by simp⟩, ?_, fun i h1 h2 => ?_, hl.trans R.lg, fun i h1 h2 id => ?_, fun i h1 h2 id => ?_, fun j h1 h2 i A hA => ?_, fun i j h1 h2 h3 => ?_⟩
    ·rw [if_neg (by omega)]; exact R.e
    ·by_cases e : i = pre.length
     ·subst e
      rw [if_pos rfl, if_pos rfl, if_neg (by omega), hx1, hn]
      exact I
     ·rw [if_neg e, if_neg e, if_neg (by omega)]
      exact R.ok i (by omega) h2
    ·by_cases e : i = pre.length
     ·rw [if_pos e]; exact fun h => R.lg.t id (ht id h)
     ·rw [if_neg e]; exact R.t i (by omega) h2 id
    ·by_cases e : i = pre.length
     ·rw [if_pos e]; exact fun h => R.lg.w id (hw id h)
     ·rw [if_neg e]; exact R.w i (by omega) h2 id
    ·by_cases e : j = pre.length
     ·rw [if_pos e, e]; exact (hacc i A hA).2
     ·rw [if_neg e]; exact R.ac j (by omega) h2 i A (hacc i A hA).1
    ·rw [if_neg (show j ≠ pre.length by omega)]
     by_cases e : i = pre.length
     ·rw [if_pos e, e]
      rcases hL with rfl | hL
      ·exact .inr (FI _)
      ·exact R.ac j (by omega) h3 _ _ hL
     ·rw [if_neg e]; exact R.pr i j (by omega) h2 h3
   cases h with
   | e hg h =>
     rename_i y
     exact step (IP hp hg) (LgLe.refl _) (fun id ⟨b, hb⟩ => by rw [T.get_e] at hb; cases hb) (fun id hb => by
      have hb : (T.e : T Bool).get id = some true := hb
      rw [T.get_e] at hb; cases hb) (fun i A hA => ⟨hA, .inr (BE _)⟩) (.inl rfl) h
   | n hg ha hm h =>
     rename_i y L lg2
     obtain ⟨lg1, h1, h2, h3, h4⟩ := zA (β := Option X) lg L fun lg => some ⟨.e, .e, .h, lg⟩
     have h1 : some (⟨.e, .e, .h, lg2⟩ : X) = some ⟨.e, .e, .h, lg1⟩ := (hm fun lg => some ⟨.e, .e, .h, lg⟩).symm.trans h1
     cases h1
     exact step (IP hp hg) h2 h3 h4 (fun i A hA => ⟨List.mem_cons_of_mem _ hA, by
      have := qK ha i A hA
      rw [hms, Nat.add_zero] at this
      exact this⟩) (.inr List.mem_cons_self) h
theorem XOk.drwR {M : List Nat} {id : Nat} {x Z : X} (hm : P.follows .mixedOrders = true) (hM : fZ M 0 ops.toList = true) (hp : fX M 0 (IJ (dC P nt ops ops.toList) ops.toList) = true)
 (hy : DR P (dC P nt ops ops.toList) M 0 [] x Z) : XOk P nt (.region id ops true) x .normal Z := by
 ·skip
  obtain ⟨xs, Ls, R⟩ := NL (ops := ops) (nt := nt) (M := M) ops.toList [] rfl (fun j => by rw [List.length_nil, Nat.zero_add]) hy
  have F : Fine P nt ops M Ls := Fine.of hM hp fun i j hij hj => R.pr i j (Nat.zero_le _) hij hj
  have hok : ∀ i, i < ops.size -> IOk P nt ops i (fW P nt ops i) ((xs i).at (some .e)) ((xs (i + 1)).at (some (Ls i))) := fun i hi => R.ok i (Nat.zero_le _) hi
  obtain ⟨b1, b2, b3⟩ := R.b
  obtain ⟨e1, e2, e3⟩ := R.e
  have chain : ∀ k, k <= ops.size -> Keeps Z.lg (xs 0).ob (xs k).ob /\ (xs 0).nx.nat <= (xs k).nx.nat := by
   intro k
   induction k with
   | zero => intro _; exact ⟨Keeps.refl _ _, Nat.le_refl _⟩
   | succ k ih =>
     intro hk
     obtain ⟨h1, h2⟩ := ih (by omega)
     exact ⟨fun id hn => ((hok k (by omega)).obf id fun hw => hn (R.w k (Nat.zero_le _) (by omega) id hw)).trans (h1 id hn), Nat.le_trans h2 (hok k (by omega)).nx⟩
  obtain ⟨c1, c2⟩ := chain ops.size (Nat.le_refl _)
  rw [e2] at c1
  rw [e3] at c2
  have c1 : Keeps Z.lg x.ob Z.ob := by
   have b2 : (xs 0).ob = x.ob := b2
   rw [b2] at c1; exact c1
  have c2 : x.nx.nat <= Z.nx.nat := by
   have b3 : (xs 0).nx = x.nx := b3
   rw [b3] at c2; exact c2
  refine ⟨R.lg, c2, c1, fun so hso ro γ a w hn g Rp n Q hQ => wpIn_region_any hm ?_⟩
  obtain ⟨F0, g0⟩ := EK g (wrtn Z.lg)
  refine Ja F hok (fun i hi id hid => hso id (R.t i (Nat.zero_le _) hi id hid)) (fun i hi => R.w i (Nat.zero_le _) hi) hn (fun γ' a' w' cst rep => hQ γ' a' w' cst ?_) ops.size (Array.replicate ops.size false) γ a _ ⟨g0, F0, rfl, fun r hr => .inl hr⟩ (by simp) ?_ ?_ ?_
  ·refine ⟨fun s d hs hd => rep.sl s d hs (e1.symm ▸ hd), fun id c hid hc => rep.ob id c hid (e2.symm ▸ hc), fun id hid hle => rep.nx id hid ?_, rep.gl⟩
   show (xs ops.size).nx.nat <= id.nat
   rw [e3]; exact hle
  ·intro j o ho hj e he hb
   have hjl : j < ops.size := (Array.getElem?_eq_some_iff.1 ho).1
   simp [hjl] at hj
  ·-- nothing has been: all is as at the start, up to the first writer
   have none : ∀ r t, t <= ops.size -> Em ops Ls (fun j => (Array.replicate ops.size false).getD j false) r t -> ∀ j, j < t -> ¬ wr ops Ls j r := by
    intro r t ht hcur j hj hw
    have hjl : j < ops.size := by omega
    have := (hcur j hjl hw).1 hj
    simp [hjl] at this
   refine ⟨fun p t ht hcur d hd => ?_, fun id t hid ht hcur => ?_⟩
   ·have hn' := none _ t ht hcur
    have same : ∀ k, k <= t -> (xs k).sl.get p = (xs 0).sl.get p := by
     intro k
     induction k with
     | zero => intro _; rfl
     | succ k ih => exact fun hk => ((hok k (by omega)).slf p (fun e => hn' k (by omega) e)).trans (ih (by omega))
    rw [same t (Nat.le_refl _)] at hd
    have b1 : (xs 0).sl = x.sl := b1
    rw [b1] at hd
    obtain ⟨q1, q2⟩ := Rp.sl p d trivial hd
    exact ⟨q1, DV.mono F0.up _ _ q2⟩
   ·have hn' := none _ t ht hcur
    have same : ∀ k, k <= t -> (xs k).ob.get id = (xs 0).ob.get id /\ (xs 0).nx.nat <= (xs k).nx.nat := by
     intro k
     induction k with
     | zero => intro _; exact ⟨rfl, Nat.le_refl _⟩
     | succ k ih => exact fun hk => ⟨((hok k (by omega)).obf id (fun e => hn' k (by omega) e)).trans (ih (by omega)).1, Nat.le_trans (ih (by omega)).2 (hok k (by omega)).nx⟩
    obtain ⟨s1, s2⟩ := same t (Nat.le_refl _)
    have b2 : (xs 0).ob = x.ob := b2
    have b3 : (xs 0).nx = x.nx := b3
    rw [b2] at s1
    rw [b3] at s2
    refine ⟨fun c hc => ?_, fun hle => Rp.nx id hid (Nat.le_trans s2 hle)⟩
    rw [s1] at hc
    exact HoldsO.mono F0.up rfl (fun _ _ => rfl) (Rp.ob id c hid hc)
  ·exact Nat.le_trans List.countP_le_length (by simp)
end
section
variable {P : Program} {nt : Nat}
theorem XOk.rfR {f : Operand} {psT : Array Tmp} {asg body : Code} {rf : RX} {ps : List Pos} {e : Ex} (hf : rx f = some rf) (hps : tM nt psT.toList = some ps)
 {sl : T D} {ob ob2 : T C} {nx nx2 : Pos} {lg lg1 lg2 : Option (T Bool)} {f' : Pos} {first caps : List D} {v : D} (hv : bE sl rf = some (.fn f' first caps)) (hl1 : LgLe lg lg1) (hw1 : wrtn lg1 nx)
 (C : CallOk P f'.ix (first ++ (.yl nx :: caps)) (T.set nx (.lp sl ps nt asg body .ready none) ob) nx.succ lg1 v ob2 nx2 lg2)
 {tm : T D} {pp : List Pos} {nt' : Nat} {c1 c2 : Code} {st : LS} {j : Option Ex} (hob : ob2.get nx = some (.lp tm pp nt' c1 c2 st j)) (hst : st ≠ .busy) (he : j.getD .normal = e) :
 XOk P nt (.rangeFunc f psT asg body) ⟨sl, ob, nx, lg⟩ e ⟨sl, T.set nx (.lp tm pp nt' c1 c2 .gone j) ob2, nx2, lg2⟩ := by
 obtain ⟨hps1, hps2⟩ := xG hps
 have hhl := C.hl
 have hhx := C.hx
 rw [Pos.succ_nat] at hhx
 refine ⟨hl1.trans hhl, by show nx.nat <= nx2.nat; omega, (((Keeps.refl _ _).set hw1 _).trans hhl C.hk).set (hhl.w nx hw1) _, fun so hso ro γ a w hn g R n Q hQ => wpIn_rangeFunc fun fn _ => ?_⟩
 have hsn : so nx := hso nx (hhl.w nx hw1).tchd
 obtain ⟨l, mk, w0, r, he1, rfl, hle, hr1, hr2, hr3, hr4, hr5, hr6, F0, g0, hmk⟩ := rD (P := P) g fn psT asg body
 obtain ⟨F1, g1⟩ := pT g0 nx (.loop r) (fun _ _ _ h => by cases h)
 have h0 := R.nx nx hsn (Nat.le_refl _)
 have U1 : Up γ (γ.push nx (w0.heap.size, 0)) w (w0.alloc (.loop r)) := (F0 nx).up.trans F1.up
 have F01 : Fr (fun j => j = nx) γ (γ.push nx (w0.heap.size, 0)) w (w0.alloc (.loop r)) := (F0 nx).trans F1
 have hcur : (γ.push nx (w0.heap.size, 0)).cur nx = 1 := by rw [γ.push_cur, h0]
 have hβ : (γ.push nx (w0.heap.size, 0)).β nx 0 = (w0.heap.size, 0) := by rw [<- h0]; exact γ.push_β nx _
 obtain ⟨vx, vy, ev, hvx, hvy⟩ := wF (aG hf hv R fun _ _ => trivial)
 have hargs : DVL (γ.push nx (w0.heap.size, 0)) (w0.alloc (.loop r)) (first ++ (.yl nx :: caps)) (vx ++ #[Value.func (.yield w0.heap.size) #[] #[]] ++ vy).toList := by
  simp only [Array.toList_append, List.append_assoc]
  refine (DVL.mono U1 _ _ hvx).append ?_
  refine DVL.cons ?_ (DVL.mono U1 _ _ hvy)
  unfold DV
  exact ⟨by rw [hcur]; exact Nat.one_pos, by rw [hβ]⟩
 have hobs : ∀ id c, so id -> (T.set nx (Ev.C.lp sl ps nt asg body .ready none) ob).get id = some c -> HoldsO P (γ.push nx (w0.heap.size, 0)) (w0.alloc (.loop r)) id c :=
  bA (V := gM so) R g F01 fun _ => by
   refine ⟨hcur, r, by rw [hβ]; exact bL w0 _, by rw [hr1]; rfl, by rw [hr2]; rfl, fun s d hd => ?_, by rw [hr4]; exact hps1, fun p hp => by rw [hr3, hn]; exact hps2 p hp, by rw [hr3]; exact hn, hr5, hr6⟩
   obtain ⟨q1, q2⟩ := R.sl s d trivial hd
   rw [hr3]
   exact ⟨q1, DV.mono U1 _ _ q2⟩
 have hnx : ∀ id, so id -> nx.succ.nat <= id.nat -> (γ.push nx (w0.heap.size, 0)).cur id = 0 := by
  intro id hid hle
  rw [Pos.succ_nat] at hle
  have hne : id ≠ nx := by rintro rfl; omega
  rw [γ.push_cur_ne _ hne]
  exact R.nx id hid (by show nx.nat <= id.nat; omega)
 have G1 := g1 { a with defers := mk ++ a.defers } rfl
 obtain ⟨hc, hcalls⟩ := C.ok so hso _ _ _ G1.gh hargs hobs hnx
 refine ⟨w0.heap.size, mk, _, { target := .fn (.func f'.ix) vy, args := vx ++ #[.func (.yield w0.heap.size) #[] #[]] }, w0.alloc (.loop r), f'.ix, _, _, he1, ?_, fun _ _ => trivial, ?_, (fun h => by cases h), hcalls ro (n - 1) _ fun γ2 w2 u gh2 F2 _ ho2 hn2 => ?_⟩
 ·simp only [resolve, rangeCall, ev]
  simp [Deferred.ofValue, Act.eval]
 ·simp only [invoke]
  exact hc _
 ·have G2 : G ro γ2 { a with defers := mk ++ a.defers } w2 := G1.of F2 rfl gh2.ob gh2.inj gh2.im
  have hcur2 : 0 < γ2.cur nx := Nat.lt_of_lt_of_le (by rw [hcur]; exact Nat.one_pos) (F2.up.cur nx)
  have hβ2 : (γ2.β nx 0).1 = w0.heap.size := by rw [F2.up.β nx 0 (by rw [hcur]; exact Nat.one_pos), hβ]
  obtain ⟨hc3, l3, hl3, hst3, hpd3, hsl3, hps3, hpb3, hnt3, ha3, hb3⟩ := ho2 nx _ hsn hob
  rw [hβ2] at hl3
  have hlt3 : w0.heap.size < w2.heap.size := (Array.getElem?_eq_some_iff.1 hl3).1
  have hnb : l3.state ≠ .busy := by
   rw [hst3]
   cases st <;> first | exact absurd rfl hst | (intro h; cases h)
  refine ⟨_, _, run_endLoop hl3 hnb, ?_⟩
  have LP := lE (l' := { l3 with state := .exhausted }) G2 hcur2 (by rw [hβ2]; exact hl3)
  rw [hβ2] at LP
  obtain ⟨F3, g3⟩ := LP
  have rep2 : Rep P (gM so) γ2 { a with defers := mk ++ a.defers } w2 ⟨sl, ob2, nx2, lg2⟩ :=
   ⟨fun s d hs hd => ⟨(R.sl s d hs hd).1, DV.mono F2.up _ _ (DV.mono U1 _ _ (R.sl s d hs hd).2)⟩, ho2, hn2, gh2.gl⟩
  have hwn : ∀ j, j = nx -> wrtn lg2 j := fun j e => by rw [e]; exact hhl.w nx hw1
  have fin := hQ γ2 { a with defers := mk ++ a.defers } (w2.putObj w0.heap.size (.loop { l3 with state := .exhausted }))
   ⟨g3 _ rfl, ((F01.mono hwn).trans F2).trans (F3.mono hwn), rfl, hmk⟩
   ⟨fun s d hs hd => ⟨(rep2.sl s d hs hd).1, DV.mono F3.up _ _ (rep2.sl s d hs hd).2⟩, bA rep2 G2 F3 (fun _ => by
    refine ⟨hc3, { l3 with state := .exhausted }, by rw [hβ2]; exact World.putObj_heap_same hlt3, rfl, hpd3, fun s d hd => ⟨(hsl3 s d hd).1, DV.mono F3.up _ _ (hsl3 s d hd).2⟩, hps3, hpb3, hnt3, ha3, hb3⟩), rep2.nx, rep2.gl.up F3.up⟩
  generalize w2.putObj w0.heap.size (.loop { l3 with state := .exhausted }) = w4 at fin ⊢
  rw [hpd3]
  cases j with
  | none => subst he; exact fin
  | some e' =>
    cases e' with
    | normal => subst he; exact fin
    | ret => subst he; exact wpIn_ret fin
    | exit i => subst he; exact wpIn_exit fin
end
open Go.RowKit (Below)
theorem T.set_get {α : Type} : ∀ {p : Pos} {x : α} {t : T α}, t.get p = some x -> T.set p x t = t
 | .h, x, .e, h => by rw [T.get_e] at h; cases h
 | .o p, x, .e, h => by rw [T.get_e] at h; cases h
 | .i p, x, .e, h => by rw [T.get_e] at h; cases h
 | .h, x, .n l v r, h => by rw [T.get_h] at h; subst h; rfl
 | .o p, x, .n l v r, h => by rw [T.get_o] at h; show T.n (T.set p x l) v r = _; rw [T.set_get h]
 | .i p, x, .n l v r, h => by rw [T.get_i] at h; show T.n l v (T.set p x r) = _; rw [T.set_get h]
inductive WB (t : Bool) (F : Bool -> Prop) : Prop where
 | mk (h1 : t = true -> F true) (h0 : t = false -> F false)
theorem WB.tt {F : Bool -> Prop} (h : F true) : WB true F := ⟨fun _ => h, nofun⟩
theorem WB.ff {F : Bool -> Prop} (h : F false) : WB false F := ⟨nofun, fun _ => h⟩
theorem WB.at {t : Bool} {F : Bool -> Prop} (h : WB t F) : F t := by
 cases h with
 | mk h1 h0 => cases t with
   | true => exact h1 rfl
   | false => exact h0 rfl
theorem WB.of {t : Bool} {F : Bool -> Prop} (h : F t) : WB t F := ⟨fun e => by rw [<- e]; exact h, fun e => by rw [<- e]; exact h⟩
def InR (k : IntKind) (n : Int) : Prop := k.wrap n = n
theorem InR.i64 {n : Int} (h1 : -9223372036854775808 <= n) (h2 : n <= 9223372036854775807) : InR .i64 n := by
 unfold InR
 cases n with
 | ofNat m => exact lK .i64 (by have h2 : (m : Int) <= 9223372036854775807 := h2; simp only [iJ]; omega)
 | negSucc m => exact xX .i64 rfl (by simp only [iJ]; omega)
theorem InR.u64 {n : Int} (h1 : 0 <= n) (h2 : n <= 18446744073709551615) : InR .u64 n := by
 unfold InR
 cases n with
 | ofNat m => exact lK .u64 (by have h2 : (m : Int) <= 18446744073709551615 := h2; simp only [iJ]; omega)
 | negSucc m => omega
theorem InR.u16 {n : Int} (h1 : 0 <= n) (h2 : n <= 65535) : InR .u16 n := by
 unfold InR
 cases n with
 | ofNat m => exact lK .u16 (by have h2 : (m : Int) <= 65535 := h2; simp only [iJ]; omega)
 | negSucc m => omega
theorem InR.u8 {n : Int} (h1 : 0 <= n) (h2 : n <= 255) : InR .u8 n := by
 unfold InR
 cases n with
 | ofNat m => exact lK .u8 (by have h2 : (m : Int) <= 255 := h2; simp only [iJ]; omega)
 | negSucc m => omega
structure WCall (P : Program) (f : Nat) (ds : List D) (d : Option Pos) (x : X) (K : X -> Prop) : Prop where
 ok : ∃ v ob' nx' lg' Z, CallOk P f ds x.ob x.nx x.lg v ob' nx' lg' /\ mX x.sl ob' nx' lg' d v = some Z /\ K Z
structure WRnd (P : Program) (id : Pos) (ds : List D) (d : Option Pos) (x : X) (K : X -> Prop) : Prop where
 ok : ∃ v ob' nx' lg' Z, RndOk P id ds x.ob x.nx x.lg v ob' nx' lg' /\ mX x.sl ob' nx' lg' d v = some Z /\ K Z
structure WSt (r : RO) (x : X) (K : X -> Prop) : Prop where
 ok : ∃ Z, step r x.sl x.ob x.nx x.lg = some Z /\ K Z
structure WIx (es : List (List D)) (n : Int) (F : List D -> Prop) : Prop where
 ok : ∃ r, 0 <= n /\ es[n.toNat]? = some r /\ F r
theorem WIx.map {α : Type} [Inhabited α] {f : α -> List D} {l : List α} {n : Int} {F : List D -> Prop} (h0 : 0 <= n) (h1 : n < l.length) (h : F (f (l.getD n.toNat default))) : WIx (l.map f) n F :=
 ⟨_, h0, by rw [List.getElem?_map, List.getElem?_eq_getElem (by omega)]; simp [List.getD]; rw [List.getElem?_eq_getElem (by omega)]; rfl, h⟩
def dL (sl : T D) (ob : T C) (nx : Pos) (lg : Option (T Bool)) (d : Pos) (K : X -> Prop) (v : D) : Prop := T.setK d v sl fun sl => K ⟨sl, ob, nx, lg⟩
def nC (sl : T D) (ob : T C) (nx : Pos) (lg : Option (T Bool)) (d : Option Pos) (K : X -> Prop) (v : D) : Prop :=
 match d with
 | none => K ⟨sl, ob, nx, lg⟩
 | some d => dL sl ob nx lg d K v
def Ki (op : BinOp) (k : IntKind) (a b : Int) (f : D -> Prop) (g : Prop) : Prop :=
 match op with
 | .add => InR k (a + b) /\ f (.i k (a + b))
 | .sub => InR k (a - b) /\ f (.i k (a - b))
 | .mul => InR k (a * b) /\ f (.i k (a * b))
 | .quo => b ≠ 0 /\ InR k (a.tdiv b) /\ f (.i k (a.tdiv b))
 | .rem => b ≠ 0 /\ f (.i k (a.tmod b))
 | .eql => f (.b (decide (a = b)))
 | .neq => f (.b (!decide (a = b)))
 | .lss => f (.b (decide (a < b)))
 | .leq => f (.b (decide (a <= b)))
 | .gtr => f (.b (decide (b < a)))
 | .geq => f (.b (decide (b <= a)))
 | _ => g
def OJ (r : RO) (sl : T D) (ob : T C) (nx : Pos) (lg : Option (T Bool)) (d : Pos) (op : BinOp) (a b : Option D) (K : X -> Prop) : Prop :=
 match a, b with
 | some (.i k a), some (.i k' b) => bif xJ k k' then Ki op k a b (dL sl ob nx lg d K) (WSt r ⟨sl, ob, nx, lg⟩ K) else WSt r ⟨sl, ob, nx, lg⟩ K
 | _, _ => False
def wSt (o : Option X) (K : X -> Prop) : Prop :=
 match o with
 | some Z => K Z
 | none => False
def wO (P : Program) (r : RO) (sl : T D) (ob : T C) (nx : Pos) (lg : Option (T Bool)) (K : X -> Prop) : Prop :=
 match r with
 | .bin d op a b => OJ r sl ob nx lg d op (bE sl a) (bE sl b) K
 | .un d op a => match op, bE sl a with
   | .not, some (.b t) => dL sl ob nx lg d K (.b (!t))
   | .neg, some (.i k n) => InR k (-n) /\ dL sl ob nx lg d K (.i k (-n))
   | _, _ => False
 | .cvi d k a => match bE sl a with
   | some (.i _ n) => InR k n /\ dL sl ob nx lg d K (.i k n)
   | _ => False
 | .eq d neg tk a b => match tk, bE sl a, bE sl b with
   | 0, some (.b s), some (.b t) => dL sl ob nx lg d K (.b (bif neg then !(s == t) else s == t))
   | _, _, _ => wSt (step r sl ob nx lg) K
 | .eqr _ _ _ _ _ => WSt r ⟨sl, ob, nx, lg⟩ K
 | .pick d c a b => match bE sl c, bE sl a, bE sl b with
   | some (.b t), some u, some v => WB t fun t => bif t then dL sl ob nx lg d K u else dL sl ob nx lg d K v
   | _, _, _ => False
 | .ixs d z a i => match bE sl a, bE sl i with
   | some (.lst z' es), some (.i _ n) => bif Nat.beq z z' then WIx es n fun r => dL sl ob nx lg d K (.pl r 0) else False
   | _, _ => WSt r ⟨sl, ob, nx, lg⟩ K
 | .len d a => match bE sl a with
   | some (.lst _ es) => dL sl ob nx lg d K (.i .i64 (es.length : Int))
   | _ => wSt (step r sl ob nx lg) K
 | .mx d a b => match bE sl a, bE sl b with
   | some (.i k a), some (.i k' b) => bif xJ k k' then dL sl ob nx lg d K (.i k (max a b)) else False
   | _, _ => False
 | .mn d a b => match bE sl a, bE sl b with
   | some (.i k a), some (.i k' b) => bif xJ k k' then dL sl ob nx lg d K (.i k (min a b)) else False
   | _, _ => False
 | .cf d f xs => match uJ sl xs with
   | some ds => WCall P f.ix ds d ⟨sl, ob, nx, lg⟩ K
   | none => False
 | .cv d g xs => match bE sl g, uJ sl xs with
   | some (.fn f first caps), some ds => WCall P f.ix (first ++ (ds ++ caps)) d ⟨sl, ob, nx, lg⟩ K
   | some (.yl id), some ds => WRnd P id ds d ⟨sl, ob, nx, lg⟩ K
   | _, _ => False
 | .app _ _ _ _ => WSt r ⟨sl, ob, nx, lg⟩ K
 | .cpy _ _ _ _ => WSt r ⟨sl, ob, nx, lg⟩ K
 | .slc _ _ _ _ _ _ => WSt r ⟨sl, ob, nx, lg⟩ K
 | .sla _ _ _ _ _ _ _ => WSt r ⟨sl, ob, nx, lg⟩ K
 | .mks _ _ _ _ _ => WSt r ⟨sl, ob, nx, lg⟩ K
 | .lkp _ _ _ _ _ _ => WSt r ⟨sl, ob, nx, lg⟩ K
 | .mup _ _ _ _ => WSt r ⟨sl, ob, nx, lg⟩ K
 | .ixa _ _ _ _ _ => WSt r ⟨sl, ob, nx, lg⟩ K
 | r => wSt (step r sl ob nx lg) K
section
variable {P : Program} {sl : T D} {ob : T C} {nx : Pos} {lg : Option (T Bool)} {K : X -> Prop}
theorem aV {d : Pos} {v : D} (h : dL sl ob nx lg d K v) : bJ sl ob nx lg d v = some ⟨T.set d v sl, ob, nx, lg⟩ /\ K ⟨T.set d v sl, ob, nx, lg⟩ := by
 unfold dL at h
 rw [T.setK_eq] at h
 exact ⟨by unfold bJ; rw [T.setK_eq], h⟩
theorem cI {r : RO} {d : Pos} {v : D} (h : dL sl ob nx lg d K v) (hs : step r sl ob nx lg = bJ sl ob nx lg d v) : ∃ Z, OR P r ⟨sl, ob, nx, lg⟩ Z /\ K Z :=
 let ⟨h1, h2⟩ := aV h
 ⟨_, .st (hs.trans h1), h2⟩
theorem vX {r : RO} (h : WSt r ⟨sl, ob, nx, lg⟩ K) : ∃ Z, OR P r ⟨sl, ob, nx, lg⟩ Z /\ K Z :=
 let ⟨Z, h1, h2⟩ := h.ok
 ⟨Z, .st h1, h2⟩
theorem DK {r : RO} (h : wSt (step r sl ob nx lg) K) : ∃ Z, OR P r ⟨sl, ob, nx, lg⟩ Z /\ K Z := by
 unfold wSt at h
 split at h
 ·rename_i Z hz
  exact ⟨Z, .st hz, h⟩
 ·exact h.elim
theorem Mz {d : Pos} {op : BinOp} {a b : RX} (h : OJ (.bin d op a b) sl ob nx lg d op (bE sl a) (bE sl b) K) : ∃ Z, OR P (.bin d op a b) ⟨sl, ob, nx, lg⟩ Z /\ K Z := by
 unfold OJ at h
 split at h
 ·rename_i k m k' n ha hb
  cases hk : xJ k k' with
  | false => rw [hk] at h; exact vX h
  | true =>
    rw [hk] at h
    simp only [cond_true] at h
    have hs : step (.bin d op a b) sl ob nx lg = lF op (.i k m) (.i k' n) fun v => bJ sl ob nx lg d v := by
     show kN d op a b sl ob nx lg = _
     unfold kN
     rw [ha, hb]
    cases op <;> unfold Ki at h
    case add =>
     refine cI h.2 (hs.trans ?_)
     simp only [lF, hk, cond_true, fV, bW, EH]
     rw [show k.wrap (m + n) = m + n from h.1]
    case sub =>
     refine cI h.2 (hs.trans ?_)
     simp only [lF, hk, cond_true, fV, bW, uR]
     rw [show k.wrap (m - n) = m - n from h.1]
    case mul =>
     refine cI h.2 (hs.trans ?_)
     simp only [lF, hk, cond_true, fV, bW, EF]
     rw [show k.wrap (m * n) = m * n from h.1]
    case quo =>
     have h0 : (n == 0) = false := by simpa using h.1
     refine cI h.2.2 (hs.trans ?_)
     simp only [lF, hk, cond_true, fV, bW, FD, kX]
     rw [show (n == Int.ofNat 0) = false from h0]
     simp only [cond_false]
     rw [show k.wrap (m.tdiv n) = m.tdiv n from h.2.1]
    case rem =>
     have h0 : (n == 0) = false := by simpa using h.1
     refine cI h.2 (hs.trans ?_)
     simp only [lF, hk, cond_true, fV, uS, EP, kX]
     rw [show (n == Int.ofNat 0) = false from h0]
     rfl
    case eql => exact cI h (hs.trans (by simp only [lF, hk, cond_true, fV, bZ, kX]; rfl))
    case neq => exact cI h (hs.trans (by simp only [lF, hk, cond_true, fV, bZ, kX]; rfl))
    case lss => exact cI h (hs.trans (by simp only [lF, hk, cond_true, fV, bZ, iD]))
    case leq => exact cI h (hs.trans (by simp only [lF, hk, cond_true, fV, bZ, iD]; congr 2; simp [<- decide_not]))
    case gtr => exact cI h (hs.trans (by simp only [lF, hk, cond_true, fV, bZ, iD]))
    case geq => exact cI h (hs.trans (by simp only [lF, hk, cond_true, fV, bZ, iD]; congr 2; simp [<- decide_not]))
    all_goals exact vX h
 ·exact h.elim
theorem Nb {r : RO} (h : wO P r sl ob nx lg K) : ∃ Z, OR P r ⟨sl, ob, nx, lg⟩ Z /\ K Z := by
 unfold wO at h
 split at h
 ·exact Mz h
 ·rename_i d op a
  split at h
  ·rename_i t ha
   refine cI h ?_
   show BJ d .not a sl ob nx lg = _
   unfold BJ
   rw [ha]
   simp only [bZ]
  ·rename_i k n ha
   refine cI h.2 ?_
   show BJ d .neg a sl ob nx lg = _
   unfold BJ
   rw [ha]
   simp only [bW, uR]
   rw [show Int.ofNat 0 - n = -n by show (0 : Int) - n = -n; omega, show k.wrap (-n) = -n from h.1]
  ·exact h.elim
 ·rename_i d k a
  split at h
  ·rename_i k' n ha
   refine cI h.2 ?_
   show zH d k a sl ob nx lg = _
   unfold zH
   rw [ha]
   simp only [bW]
   rw [show k.wrap n = n from h.1]
  ·exact h.elim
 ·rename_i d neg tk a b
  split at h
  ·rename_i s t ha hb
   refine cI h ?_
   show Gq d neg 0 a b sl ob nx lg = _
   unfold Gq
   rw [ha, hb]
   simp only [Wf, bZ]
  ·exact DK h
 ·exact vX h
 ·rename_i d c a b
  split at h
  ·rename_i t u v hc ha hb
   have h := h.at
   cases t with
   | true =>
     refine cI h ?_
     show oH d c a b sl ob nx lg = _
     unfold oH
     rw [hc, ha]
   | false =>
     refine cI h ?_
     show oH d c a b sl ob nx lg = _
     unfold oH
     rw [hc, hb]
  ·exact h.elim
 ·rename_i d z a i
  split at h
  ·rename_i z' es k n ha hi
   cases hz : Nat.beq z z' with
   | false => rw [hz] at h; exact h.elim
   | true =>
     rw [hz] at h
     obtain ⟨r, h1, h2, h3⟩ := h.ok
     refine cI h3 ?_
     show tY d z a i sl ob nx lg = _
     unfold tY
     rw [ha, hi]
     simp only [hz, cond_true]
     have hlt : n.toNat < es.length := (List.getElem?_eq_some_iff.1 h2).1
     have e : Jy n es.length = some n.toNat := by
      cases n with
      | negSucc m => omega
      | ofNat m =>
        simp only [Jy]
        rw [show Nat.blt m es.length = true from Nat.ble_eq_true_of_le hlt]
        rfl
     rw [e]
     simp only [eW, h2]
  ·exact vX h
 ·rename_i d a
  split at h
  ·rename_i z es ha
   refine cI h ?_
   show zW d a sl ob nx lg = _
   unfold zW
   rw [ha]
   simp only [bP]
   rfl
  ·exact DK h
 ·rename_i d a b
  split at h
  ·rename_i k m k' n ha hb
   cases hk : xJ k k' with
   | false => rw [hk] at h; exact h.elim
   | true =>
     rw [hk] at h
     obtain rfl := lW.1 hk
     refine cI h ?_
     show Gm d a b sl ob nx lg = _
     unfold Gm
     rw [ha, hb]
     simp only [hk, cond_true, iD]
     by_cases hlt : m < n
     ·simp [hlt, Int.max_eq_right (Int.le_of_lt hlt)]
     ·simp [hlt, Int.max_eq_left (Int.not_lt.1 hlt)]
  ·exact h.elim
 ·rename_i d a b
  split at h
  ·rename_i k m k' n ha hb
   cases hk : xJ k k' with
   | false => rw [hk] at h; exact h.elim
   | true =>
     rw [hk] at h
     obtain rfl := lW.1 hk
     refine cI h ?_
     show GI d a b sl ob nx lg = _
     unfold GI
     rw [ha, hb]
     simp only [hk, cond_true, iD]
     by_cases hlt : n < m
     ·simp [hlt, Int.min_eq_right (Int.le_of_lt hlt)]
     ·simp [hlt, Int.min_eq_left (Int.not_lt.1 hlt)]
  ·exact h.elim
 ·rename_i d f xs
  split at h
  ·rename_i ds hds
   obtain ⟨v, ob', nx', lg', Z, h1, h2, h3⟩ := h.ok
   exact ⟨Z, .cf hds h1 h2, h3⟩
  ·exact h.elim
 ·rename_i d g xs
  split at h
  ·rename_i f first caps ds hg hds
   obtain ⟨v, ob', nx', lg', Z, h1, h2, h3⟩ := h.ok
   exact ⟨Z, .cv hg hds h1 h2, h3⟩
  ·rename_i id ds hg hds
   obtain ⟨v, ob', nx', lg', Z, h1, h2, h3⟩ := h.ok
   exact ⟨Z, .cy hg hds h1 h2, h3⟩
  ·exact h.elim
 all_goals first | exact vX h | exact DK h
end
end Go.Ev
end
