import Derived.Test.YtihlllachfonoaaGreatDoorEvCu
set_option linter.all false
namespace Go.Ev
open Go.RowKit (Below Grown)

/-! ### values without objects -/
mutual
def Pu : D → Prop
  | .pt _ _ _ => False
  | .sl _ _ _ _ _ => False
  | .mp _ => False
  | .yl _ => False
  | .ag cs => PuL cs
  | .tp cs => PuL cs
  | .fn _ x y => PuL x ∧ PuL y
  | .ifc _ d => Pu d
  | .lst _ es => PuE es
  | .pl r _ => PuL r
  | .any => True
  | .b _ => True
  | .i _ _ => True
  | .s _ => True
  | .np => True
  | .nf => True
  | .ni => True
  | .nm => True
  | .ns => True
  | .em => True
def PuL : List D → Prop
  | [] => True
  | d :: ds => Pu d ∧ PuL ds
def PuE : List (List D) → Prop
  | [] => True
  | r :: es => PuL r ∧ PuE es
end
theorem PuL_iff : ∀ {ds : List D}, PuL ds ↔ ∀ d ∈ ds, Pu d
  | [] => by simp [PuL]
  | d :: ds => by simp [PuL, PuL_iff]
theorem PuE_iff : ∀ {es : List (List D)}, PuE es ↔ ∀ r ∈ es, PuL r
  | [] => by simp [PuE]
  | d :: ds => by simp [PuE, PuE_iff]

section
variable {γ γ' : Gh} {w : World}
mutual
theorem DV.pu (h : ∀ b, γ.im b → γ'.im b) : ∀ (d : D) (v : Value), Pu d → DV γ w d v → DV γ' w d v
  | .any, _, _, H => by unfold DV at *; exact H
  | .b _, _, _, H => by unfold DV at *; exact H
  | .i _ _, _, _, H => by unfold DV at *; exact H
  | .s _, _, _, H => by unfold DV at *; exact H
  | .np, _, _, H => by unfold DV at *; exact H
  | .nf, _, _, H => by unfold DV at *; exact H
  | .ni, _, _, H => by unfold DV at *; exact H
  | .nm, _, _, H => by unfold DV at *; exact H
  | .ns, _, _, H => by unfold DV at *; exact H
  | .em, _, _, H => by unfold DV at *; exact H
  | .pt _ _ _, _, p, _ => by unfold Pu at p; exact p.elim
  | .sl _ _ _ _ _, _, p, _ => by unfold Pu at p; exact p.elim
  | .mp _, _, p, _ => by unfold Pu at p; exact p.elim
  | .yl _, _, p, _ => by unfold Pu at p; exact p.elim
  | .ag cs, _, p, H => by
    unfold Pu at p
    unfold DV at *
    obtain ⟨vs, h1, h2, h3⟩ := H
    exact ⟨vs, h1, DVL.pu h cs _ p h2, h3⟩
  | .tp cs, _, p, H => by
    unfold Pu at p
    unfold DV at *
    obtain ⟨vs, h1, h2⟩ := H
    exact ⟨vs, h1, DVL.pu h cs _ p h2⟩
  | .fn _ x y, _, p, H => by
    unfold Pu at p
    unfold DV at *
    obtain ⟨vx, vy, h1, h2, h3⟩ := H
    exact ⟨vx, vy, h1, DVL.pu h x _ p.1 h2, DVL.pu h y _ p.2 h3⟩
  | .ifc _ d, _, p, H => by
    unfold Pu at p
    unfold DV at *
    obtain ⟨u, h1, h2⟩ := H
    exact ⟨u, h1, DV.pu h d u p h2⟩
  | .lst z es, _, p, H => by
    unfold Pu at p
    unfold DV at *
    obtain ⟨q, cap, h1, h2, h3, h4⟩ := H
    refine ⟨q, cap, h1, h2, h3, ?_⟩
    rcases h4 with h4 | ⟨b, o, vs, e, fr, k1, k2, k3, k4, k5, k6⟩
    · exact .inl h4
    · exact .inr ⟨b, o, vs, e, fr, h b k1, k2, k3, k4, DVE.pu h z es _ p k5, k6⟩
  | .pl ds _, _, p, H => by
    unfold Pu at p
    unfold DV at *
    obtain ⟨b, o, vs, e, fr, k1, k2, k3, k4, k5, k6⟩ := H
    exact ⟨b, o, vs, e, fr, h b k1, k2, k3, k4, DVL.pu h ds _ p k5, k6⟩
theorem DVE.pu (h : ∀ b, γ.im b → γ'.im b) (z : Nat) : ∀ (es : List (List D)) (vs : List Value), PuE es → DVE γ w z es vs → DVE γ' w z es vs
  | [], _, _, _ => by unfold DVE; trivial
  | r :: es, _, p, H => by
    unfold PuE at p
    unfold DVE at *
    exact ⟨H.1, DVL.pu h r _ p.1 H.2.1, DVE.pu h z es _ p.2 H.2.2⟩
theorem DVL.pu (h : ∀ b, γ.im b → γ'.im b) : ∀ (ds : List D) (vs : List Value), PuL ds → DVL γ w ds vs → DVL γ' w ds vs
  | [], _, _, H => by unfold DVL at *; exact H
  | d :: ds, _, p, H => by
    unfold PuL at p
    unfold DVL at *
    obtain ⟨v, r, h1, h2, h3⟩ := H
    exact ⟨v, r, h1, DV.pu h d v p.1 h2, DVL.pu h ds r p.2 h3⟩
end
end

/-! ### what a value reads as, when the objects are written no more -/
/-- What a stamp sees of cells. -/
def Vis (st : Nat) (l : List Cell) (ds : List D) : Prop := ∀ (k : Nat) (d : D), ds[k]? = some d → ∃ c : Cell, l[k]? = some c ∧ c.has st = true ∧ c.d = d
mutual
/-- B: the objects that stay. -/
inductive Fz (B : Pos → Prop) (ob : T C) : D → D → Prop where
  | pu {d : D} (h : Pu d) : Fz B ob d d
  | any {d : D} : Fz B ob d .any
  | ns {z : Nat} : Fz B ob .ns (.lst z [])
  | em {z : Nat} : Fz B ob .em (.lst z [])
  | sl {id : Pos} {off len st z : Nat} {ro : Bool} {cs : List Cell} {cur : Nat} {es fs : List (List D)} (hB : ¬ B id) (h : ob.get id = some (.cells ro cs cur)) (hl : es.length = len) (hz : ∀ r ∈ es, r.length = z) (hv : Vis st (cs.drop off) es.flatten) (he : FzE B ob es fs) : Fz B ob (.sl id off len st z) (.lst z fs)
  | pt {id : Pos} {off st : Nat} {ro : Bool} {cs : List Cell} {cur : Nat} {r fs : List D} (hB : ¬ B id) (h : ob.get id = some (.cells ro cs cur)) (hp : 0 < r.length) (hv : Vis st (cs.drop off) r) (he : FzL B ob r fs) : Fz B ob (.pt id off st) (.pl fs 0)
  | ksl {id : Pos} {off len st z : Nat} (hB : B id) : Fz B ob (.sl id off len st z) (.sl id off len st z)
  | kpt {id : Pos} {off st : Nat} (hB : B id) : Fz B ob (.pt id off st) (.pt id off st)
  | kmp {id : Pos} (hB : B id) : Fz B ob (.mp id) (.mp id)
  | kyl {id : Pos} (hB : B id) : Fz B ob (.yl id) (.yl id)
  | lst {z : Nat} {es fs : List (List D)} (h : FzE B ob es fs) : Fz B ob (.lst z es) (.lst z fs)
  | pl {r fs : List D} {k : Nat} (h : FzL B ob r fs) : Fz B ob (.pl r k) (.pl fs k)
  | ag {cs ds : List D} (h : FzL B ob cs ds) : Fz B ob (.ag cs) (.ag ds)
  | tp {cs ds : List D} (h : FzL B ob cs ds) : Fz B ob (.tp cs) (.tp ds)
  | fn {f : Pos} {x y x' y' : List D} (h : FzL B ob x x') (k : FzL B ob y y') : Fz B ob (.fn f x y) (.fn f x' y')
inductive FzL (B : Pos → Prop) (ob : T C) : List D → List D → Prop where
  | nil : FzL B ob [] []
  | cons {d e : D} {ds es : List D} (h : Fz B ob d e) (k : FzL B ob ds es) : FzL B ob (d :: ds) (e :: es)
inductive FzE (B : Pos → Prop) (ob : T C) : List (List D) → List (List D) → Prop where
  | nil : FzE B ob [] []
  | cons {d e : List D} {ds es : List (List D)} (h : FzL B ob d e) (k : FzE B ob ds es) : FzE B ob (d :: ds) (e :: es)
end
/-- No object stays. -/
abbrev Frz (ob : T C) : D → D → Prop := Fz (fun _ => False) ob
theorem FzL.length {B : Pos → Prop} {ob : T C} : ∀ {a b : List D}, FzL B ob a b → a.length = b.length
  | _, _, .nil => rfl
  | _, _, .cons _ k => by simp [FzL.length k]
theorem FzE.length {B : Pos → Prop} {ob : T C} : ∀ {a b : List (List D)}, FzE B ob a b → a.length = b.length
  | _, _, .nil => rfl
  | _, _, .cons _ k => by simp [FzE.length k]
theorem FzL.of {B : Pos → Prop} {ob : T C} : ∀ {l : List D}, PuL l → FzL B ob l l
  | [], _ => .nil
  | d :: l, h => by
    unfold PuL at h
    exact .cons (.pu h.1) (FzL.of h.2)
theorem FzE.of {B : Pos → Prop} {ob : T C} : ∀ {es : List (List D)}, PuE es → FzE B ob es es
  | [], _ => .nil
  | r :: es, h => by
    unfold PuE at h
    exact .cons (FzL.of h.1) (FzE.of h.2)

theorem DVE_of_flat {γ : Gh} {w : World} {z : Nat} : ∀ {es : List (List D)} {vs : List Value}, (∀ r ∈ es, r.length = z) → DVL γ w es.flatten (vs.take (es.length * z)) → DVE γ w z es vs
  | [], _, _, _ => by unfold DVE; trivial
  | r :: es, vs, hz, H => by
    have hr := hz r (by simp)
    unfold DVE
    simp only [List.flatten_cons, List.length_cons] at H
    rw [Nat.add_mul, Nat.one_mul] at H
    have h1 := H.take z
    rw [List.take_append_of_le_length (by omega), List.take_of_length_le (by omega), List.take_take, Nat.min_eq_left (by omega)] at h1
    have h2 := H.drop z
    rw [List.drop_append_of_le_length (by omega), List.drop_of_length_le (by omega), List.nil_append, List.drop_take] at h2
    refine ⟨hr, h1, DVE_of_flat (fun r h => hz r (by simp [h])) ?_⟩
    have e : es.length * z + z - z = es.length * z := by omega
    rw [e] at h2
    exact h2

section
variable {P : Program} {γ γ' : Gh} {w : World} {ob : T C}
theorem vis_cells {id : Pos} {ro : Bool} {cs : List Cell} {cur st off : Nat} {ds : List D} (H : HoldsO P γ w id (.cells ro cs cur)) (hst : st < γ.cur id) (hd : (γ.β id st).2 ≤ off) (hv : Vis st (cs.drop off) ds) :
    ∃ vs e fr, w.heap[(γ.β id st).1]? = some (.cells vs e fr) ∧ (ds ≠ [] → off - (γ.β id st).2 + ds.length ≤ vs.size) ∧ DVL γ w ds ((vs.toList.drop (off - (γ.β id st).2)).take ds.length) ∧ ∀ u ∈ (vs.toList.drop (off - (γ.β id st).2)).take ds.length, u.oneCell' = true := by
  obtain ⟨_, h1, h2⟩ := H
  obtain ⟨vs, e, fr, h3, _, h4⟩ := h2 st (by omega)
  have key : ∀ k d, ds[k]? = some d → ∃ u, vs[off - (γ.β id st).2 + k]? = some u ∧ DV γ w d u ∧ u.oneCell' = true := by
    intro k d hk
    obtain ⟨c, hc, hh, rfl⟩ := hv k d hk
    rw [List.getElem?_drop] at hc
    obtain ⟨u, h5, h6, h7⟩ := h4 (off + k) c hc hh (by omega)
    exact ⟨u, by rw [show off - (γ.β id st).2 + k = off + k - (γ.β id st).2 by omega]; exact h5, h6, h7⟩
  have hsz : ds ≠ [] → off - (γ.β id st).2 + ds.length ≤ vs.size := by
    intro hne
    have hlt : ds.length - 1 < ds.length := by have := List.length_pos_iff.2 hne; omega
    obtain ⟨u, h5, _⟩ := key (ds.length - 1) _ (List.getElem?_eq_getElem hlt)
    have := (Array.getElem?_eq_some_iff.1 h5).1
    omega
  refine ⟨vs, e, fr, h3, hsz, ?_, fun u hu => ?_⟩
  · refine DVL_iff.2 ⟨?_, fun k d v hk hv => ?_⟩
    · by_cases hne : ds = []
      · subst hne; simp
      · have := hsz hne
        simp; omega
    · obtain ⟨u, h5, h6, _⟩ := key k d hk
      have hlt := (List.getElem?_eq_some_iff.1 hk).1
      rw [List.getElem?_take_of_lt hlt, List.getElem?_drop] at hv
      have : vs[off - (γ.β id st).2 + k]? = some v := by simpa using hv
      rw [h5] at this
      cases this
      exact h6
  · obtain ⟨k, hk⟩ := List.getElem?_of_mem hu
    have hlt : k < ds.length := by
      have := (List.getElem?_eq_some_iff.1 hk).1
      simp at this; omega
    obtain ⟨u', h5, _, h7⟩ := key k _ (List.getElem?_eq_getElem hlt)
    rw [List.getElem?_take_of_lt hlt, List.getElem?_drop] at hk
    have : vs[off - (γ.β id st).2 + k]? = some u := by simpa using hk
    rw [h5] at this
    cases this
    exact h7

/-- What is shut reads as before. -/
theorem Fz.ok {B : Pos → Prop} (him : ∀ b, γ.im b → γ'.im b) (hob : ∀ id c, ob.get id = some c → HoldsO P γ w id c) (hk : ∀ id, B id → γ'.cur id = γ.cur id ∧ γ'.β id = γ.β id) (hown : ∀ id st vs e fr, ¬ B id → st < γ.cur id → w.heap[(γ.β id st).1]? = some (.cells vs e fr) → γ'.im (γ.β id st).1) {d d' : D} (h : Fz B ob d d') : ∀ v, DV γ w d v → DV γ' w d' v := by
  refine Fz.rec (B := B) (ob := ob) (motive_1 := fun d d' _ => ∀ v, DV γ w d v → DV γ' w d' v) (motive_2 := fun ds es _ => ∀ vs, DVL γ w ds vs → DVL γ' w es vs) (motive_3 := fun es fs _ => ∀ vs z, DVE γ w z es vs → DVE γ' w z fs vs)
    ?_ ?_ ?_ ?_ ?_ ?_ ?_ ?_ ?_ ?_ ?_ ?_ ?_ ?_ ?_ ?_ ?_ ?_ ?_ h
  · exact fun hp v H => DV.pu him _ v hp H
  · exact fun v _ => by unfold DV; trivial
  · intro z v H
    unfold DV at *
    subst H
    exact ⟨none, 0, rfl, Nat.le_refl _, fun _ => rfl, .inl rfl⟩
  · intro z v H
    unfold DV at *
    obtain ⟨a, rfl⟩ := H
    exact ⟨some a, 0, rfl, Nat.le_refl _, (fun h => by cases h), .inl rfl⟩
  · intro id off len st z ro cs cur es fs hB hg hl hz hv he ih v H
    obtain ⟨e1, e2, cap, e, n, rfl, e4, e5, e6⟩ := DV_sl H
    have hfl := he.length
    obtain ⟨vs, e', fr, k1, k2, k3, k4⟩ := vis_cells (hob id _ hg) e1 e2 hv
    have hlen : es.flatten.length = es.length * z := by
      clear hv he ih k2 k3 k4 hfl hl
      induction es with
      | nil => simp
      | cons r es ih => simp [ih (fun r h => hz r (by simp [h])), hz r (by simp), Nat.add_mul]; omega
    have hsz : off - (γ.β id st).2 + es.length * z ≤ vs.size := by
      have h1 : w.shape? (γ.β id st).1 = some (e', vs.size) := shape_cells k1
      rw [h1] at e5
      cases e5
      have : es.length * z ≤ cap * z := Nat.mul_le_mul_right z (by omega)
      omega
    unfold DV
    refine ⟨_, cap, by rw [← hfl, hl], by omega, (fun h => by cases h), .inr ⟨_, _, vs, e', fr, hown id st _ _ _ hB e1 k1, k1, rfl, by rw [← hfl]; exact hsz, ?_, ?_⟩⟩
    · refine ih _ _ (DVE_of_flat hz ?_)
      rw [← hlen]
      exact k3
    · rw [← hfl, ← hlen]; exact k4
  · intro id off st ro cs cur r fs hB hg hp hv he ih v H
    obtain ⟨e1, e2, rfl⟩ := DV_pt H
    have hfl := he.length
    obtain ⟨vs, e', fr, k1, k2, k3, k4⟩ := vis_cells (hob id _ hg) e1 e2 hv
    have hsz := k2 (fun e => by rw [e] at hp; simp at hp)
    unfold DV
    refine ⟨_, _, vs, e', fr, hown id st _ _ _ hB e1 k1, k1, rfl, by rw [← hfl]; exact hsz, ?_, ?_⟩
    · rw [← hfl]; exact ih _ k3
    · rw [← hfl]; exact k4
  · intro id off len st z hB v H
    obtain ⟨k1, k2⟩ := hk id hB
    unfold DV at H ⊢
    obtain ⟨h1, h2, cap, e, n, h3, h4⟩ := H
    rw [k1, k2]
    exact ⟨h1, h2, cap, e, n, h3, h4⟩
  · intro id off st hB v H
    obtain ⟨k1, k2⟩ := hk id hB
    unfold DV at H ⊢
    rw [k1, k2]
    exact H
  · intro id hB v H
    obtain ⟨k1, k2⟩ := hk id hB
    unfold DV at H ⊢
    rw [k1, k2]
    exact H
  · intro id hB v H
    obtain ⟨k1, k2⟩ := hk id hB
    unfold DV at H ⊢
    rw [k1, k2]
    exact H
  · intro z es fs he ih v H
    have hfl := he.length
    obtain ⟨p, cap, rfl, h2, h3, h4⟩ := DV_lst H
    unfold DV
    refine ⟨p, cap, by rw [hfl], by rw [← hfl]; exact h2, h3, ?_⟩
    rcases h4 with rfl | ⟨b, o, vs, e, fr, k1, k2, k3, k4, k5, k6⟩
    · left
      exact List.length_eq_zero_iff.1 hfl.symm
    · exact .inr ⟨b, o, vs, e, fr, him b k1, k2, k3, by rw [← hfl]; exact k4, ih _ _ k5, by rw [← hfl]; exact k6⟩
  · intro r fs k he ih v H
    have hfl := he.length
    obtain ⟨b, o, vs, e, fr, k1, k2, rfl, k4, k5, k6⟩ := DV_pl H
    unfold DV
    exact ⟨b, o, vs, e, fr, him b k1, k2, rfl, by rw [← hfl]; exact k4, by rw [← hfl]; exact ih _ k5, by rw [← hfl]; exact k6⟩
  · intro cs ds _ ih v H
    obtain ⟨vs, rfl, h2, h3⟩ := DV_ag H
    unfold DV
    exact ⟨vs, rfl, ih _ h2, h3⟩
  · intro cs ds _ ih v H
    obtain ⟨vs, rfl, h2⟩ := DV_tp H
    unfold DV
    exact ⟨vs, rfl, ih _ h2⟩
  · intro f x y x' y' _ _ ih1 ih2 v H
    obtain ⟨vx, vy, rfl, h2, h3⟩ := DV_fn H
    unfold DV
    exact ⟨vx, vy, rfl, ih1 _ h2, ih2 _ h3⟩
  · intro vs H
    unfold DVL at *; exact H
  · intro d e ds es _ _ ih1 ih2 vs H
    unfold DVL at H ⊢
    obtain ⟨v, r, rfl, h2, h3⟩ := H
    exact ⟨v, r, rfl, ih1 _ h2, ih2 _ h3⟩
  · intro vs z H
    unfold DVE; trivial
  · intro d e ds es hd _ ih1 ih2 vs z H
    unfold DVE at H ⊢
    exact ⟨by rw [← hd.length]; exact H.1, ih1 _ H.2.1, ih2 _ _ H.2.2⟩

/-- A call that was run from nothing: what it makes is written no more, and nothing else is touched, whatever there is. -/
theorem GLok.im {γ γ' : Gh} {w : World} (h : GLok γ w) (k : ∀ b, γ.im b → γ'.im b) : GLok γ' w := fun g r e => ⟨k g (h g r e).1, (h g r e).2⟩
theorem CallOk.shut {f : FuncId} {ds : List D} {v v' : D} {ob' : T C} {nx' : Pos} {lg' : Option (T Bool)} (K : CallOk P f ds .e .h none v ob' nx' lg') (hp : PuL ds) (hz : Frz ob' v v') (ob : T C) (nx : Pos) (lg : Option (T Bool)) : CallOk P f ds ob nx lg v' ob nx lg := by
  refine ⟨LgLe.refl _, Nat.le_refl _, Keeps.refl _ _, fun so _ γ args w gh hargs hob hnx => ?_⟩
  obtain ⟨c1, c2⟩ := K.ok (fun _ => True) (fun _ _ => trivial) ⟨fun _ => 0, fun _ _ => (0, 0), γ.im⟩ args w ⟨fun _ st h => absurd h (Nat.not_lt_zero st), fun _ st _ _ h => absurd h (Nat.not_lt_zero st), fun b hb => ⟨(gh.im b hb).1, fun _ st h => absurd h (Nat.not_lt_zero st)⟩, gh.gl.im fun _ h => h⟩
    (DVL.pu (γ := γ) (γ' := ⟨fun _ => 0, fun _ _ => (0, 0), γ.im⟩) (fun _ h => h) ds _ hp hargs) (fun id c _ hc => by rw [T.get_e] at hc; cases hc) (fun _ _ _ => rfl)
  refine ⟨c1, fun ro m R hR => c2 ro m R fun γ' w' u gh' F hu hob' _ => ?_⟩
  have hb : ∀ b, b < w.heap.size → w'.heap[b]? = w.heap[b]? := fun b hb => F.blk b hb fun id st _ hst => absurd hst (Nat.not_lt_zero st)
  have hnew : ∀ id st, st < γ'.cur id → w.heap.size ≤ (γ'.β id st).1 := fun id st hst => by
    rcases F.new id st (Nat.zero_le _) hst with h | ⟨st0, h, _⟩
    · exact h
    · exact absurd h (Nat.not_lt_zero st0)
  let γ2 : Gh := ⟨γ.cur, γ.β, fun b => γ'.im b ∨ ((∃ id st, st < γ'.cur id ∧ (γ'.β id st).1 = b) ∧ ∃ vs e fr, w'.heap[b]? = some (.cells vs e fr))⟩
  have U : Up γ γ2 w w' := ⟨fun _ => Nat.le_refl _, fun _ _ _ => rfl, F.up.3, fun b hm => ⟨.inl (F.up.im b hm).1, (F.up.im b hm).2⟩⟩
  refine hR γ2 w' u ⟨fun id st hst => Nat.lt_of_lt_of_le (gh.ob id st hst) F.size, gh.inj, fun b hm => ?_, gh'.gl.im fun _ h => .inl h⟩ ⟨U, fun _ _ => rfl, fun b h1 _ => hb b h1, fun _ _ h1 h2 => absurd h2 (by show ¬ _ < γ.cur _; omega), fun b hm hlt => ?_, F.lp, F.size, F.os, F.tape, F.output, F.fz⟩
    (Fz.ok (γ := γ') (γ' := γ2) (fun b h => .inl h) (fun id c hc => hob' id c trivial hc) (fun _ h => h.elim) (fun id st vs e fr _ hst hc => .inr ⟨⟨id, st, hst, rfl⟩, vs, e, fr, hc⟩) hz u hu)
    (fun id c hid hc => HoldsO.mono U rfl (fun st hst => hb _ (gh.ob id st hst)) (hob id c hid hc)) hnx
  · rcases hm with hm | ⟨⟨id', st', h1, h2⟩, h3⟩
    · refine ⟨(gh'.im b hm).1, fun id st hst e => ?_⟩
      have hlt := gh.ob id st hst
      have e : (γ.β id st).1 = b := e
      rw [e] at hlt
      exact (gh.im b (F.imn b hm hlt)).2 id st hst e
    · refine ⟨h3, fun id st hst e => ?_⟩
      have hlt := gh.ob id st hst
      have e : (γ.β id st).1 = b := e
      have := hnew id' st' h1
      omega
  · rcases hm with hm | ⟨⟨id', st', h1, h2⟩, h3⟩
    · exact F.imn b hm hlt
    · have := hnew id' st' h1
      omega
end
end Go.Ev
