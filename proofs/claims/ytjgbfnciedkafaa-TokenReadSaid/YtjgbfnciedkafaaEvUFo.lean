import Derived.Test.YtjgbfnciedkafaaEvUJs
set_option linter.all false
namespace Go.Ev
open Go.RowKit (Below Grown)
structure RndE (Φ : Bool → T C → Prop) (id : Pos) (nx' : Pos) (e : Ex) (z : X) : Prop where
  ok : ∃ a b m c q s j ob', z.lg = none ∧ z.ob.get id = some (.lp a b m c q s j) ∧ Shr ⟨.e, T.set id (.lp a b m c q (endS e) (endJ e)) z.ob, z.nx, none⟩ ⟨.e, ob', nx', none⟩ ∧ Φ (endB e) ob'
structure RndEF (Φ : Bool → T C → Prop) (id : Pos) (nx' : Pos) (e : Ex) (z : X) : Prop where
  ok : ∃ a b m c q s j ob' ob2, z.lg = none ∧ z.ob.get id = some (.lp a b m c q s j) ∧ ∃ nx1 a0, nx'.nat ≤ nx1.nat ∧ nx'.nat ≤ a0.nat ∧ Shr ⟨.e, T.set id (.lp a b m c q (endS e) (endJ e)) z.ob, z.nx, none⟩ ⟨.e, ob', nx1, none⟩ ∧ Fill nx' a0 ob' ob2 ∧ Φ (endB e) ob2
structure RndEA (P : Program) (nt : Nat) (rcB : RC) (id : Pos) (K : Ex → X → Prop) (e : Ex) (z : X) : Prop where
  ok : e = .normal ∧ z.lg = none ∧ ∃ a b m c q j, z.ob.get id = some (.lp a b m c q .ready j) ∧ Rn P nt rcB ⟨z.sl, T.set id (.lp a b m c q .busy j) z.ob, z.nx, none⟩ K
theorem RndOk.runE {P : Program} {id : Pos} {ds : List D} {ob : T C} {nx : Pos} {Φ : Bool → T C → Prop} {sl0 : T D} {ps : List Pos} {nt : Nat} {asg body : Code} {j0 : Option Ex} {rcA rcB : RC} (hob0 : ob.get id = some (.lp sl0 ps nt asg body .ready j0)) (hA : comp P nt asg = rcA) (hB : comp P nt body = rcB)
    (hp : parmP ps ds sl0 fun sl' => Rn P nt rcA ⟨sl', ob, nx, none⟩ (RndEA P nt rcB id (RndE Φ id nx))) : ∃ g ob', Φ g ob' ∧ RndOk P id ds ob nx none (.b g) ob' nx none := by
  obtain ⟨sl', h1, h2⟩ := hp
  obtain ⟨e, ⟨s2, ob1, nx1, lg1⟩, X1, h3⟩ := h2.ok asg hA
  obtain ⟨rfl, h4, a1, b1, m1, c1, q1, j1, h5, h6⟩ := h3.ok
  have h4 : lg1 = none := h4
  subst h4
  obtain ⟨e, ⟨s3, ob3, nx3, lg3⟩, X2, h7⟩ := h6.ok body hB
  obtain ⟨a3, b3, m3, c3, q3, s3', j3, ob', k1, k2, k3, k4⟩ := h7.ok
  have k1 : lg3 = none := k1
  subst k1
  exact ⟨endB e, ob', k4, (RndOk.of hob0 h1 X1 h5 X2 k2).shrink k3 (Nat.le_refl _) (.pu trivial)⟩
theorem RndOk.runEF {P : Program} {id : Pos} {ds : List D} {ob : T C} {nx : Pos} {Φ : Bool → T C → Prop} {sl0 : T D} {ps : List Pos} {nt : Nat} {asg body : Code} {j0 : Option Ex} {rcA rcB : RC} (hob0 : ob.get id = some (.lp sl0 ps nt asg body .ready j0)) (hA : comp P nt asg = rcA) (hB : comp P nt body = rcB)
    (hp : parmP ps ds sl0 fun sl' => Rn P nt rcA ⟨sl', ob, nx, none⟩ (RndEA P nt rcB id (RndEF Φ id nx))) : ∃ g ob', Φ g ob' ∧ RndOk P id ds ob nx none (.b g) ob' nx none := by
  obtain ⟨sl', h1, h2⟩ := hp
  obtain ⟨e, ⟨s2, ob1, nx1, lg1⟩, X1, h3⟩ := h2.ok asg hA
  obtain ⟨rfl, h4, a1, b1, m1, c1, q1, j1, h5, h6⟩ := h3.ok
  have h4 : lg1 = none := h4
  subst h4
  obtain ⟨e, ⟨s3, ob3, nx3, lg3⟩, X2, h7⟩ := h6.ok body hB
  obtain ⟨a3, b3, m3, c3, q3, s3', j3, ob', ob2, k1, k2, nx1, a0, l1, l2, k3, k4, k5⟩ := h7.ok
  have k1 : lg3 = none := k1
  subst k1
  exact ⟨endB e, ob2, k5, ((RndOk.of hob0 h1 X1 h5 X2 k2).shrink k3 l1 (.pu trivial)).fill trivial l2 k4⟩
theorem CallOk.lower {P : Program} {f : Nat} {ds : List D} {ob ob' : T C} {nx nx' nx0 : Pos} {lg lg' : Option (T Bool)} {v : D} (h : CallOk P f ds ob nx lg v ob' nx' lg') (hle : nx0.nat ≤ nx.nat) : CallOk P f ds ob nx0 lg v ob' nx' lg' :=
  ⟨h.hl, Nat.le_trans hle h.hx, h.hk, fun so hs γ args w gh ha ho hn => h.ok so hs γ args w gh ha ho fun id h1 h2 => hn id h1 (Nat.le_trans hle h2)⟩
def trL (x1 x2 x3 x4 x5 x6 x7 x8 x9 x10 x11 x12 x13 x14 x15 x16 x17 x18 x19 x20 : Option C) : T C := .n (.n (.n (.n (.n .e x16 .e) x8 .e) x4 (.n (.n .e x20 .e) x12 .e)) x2 (.n (.n (.n .e x18 .e) x10 .e) x6 (.n .e x14 .e))) x1 (.n (.n (.n (.n .e x17 .e) x9 .e) x5 (.n .e x13 .e)) x3 (.n (.n (.n .e x19 .e) x11 .e) x7 (.n .e x15 .e)))
def trR (x1 x2 x3 x4 x5 x6 x7 x8 x9 x10 x11 x12 x13 x14 x15 x16 x17 x18 x19 x20 x21 x22 : Option C) : T C := .n (.n (.n (.n (.n .e x16 .e) x8 .e) x4 (.n (.n .e x20 .e) x12 .e)) x2 (.n (.n (.n .e x18 .e) x10 .e) x6 (.n (.n .e x22 .e) x14 .e))) x1 (.n (.n (.n (.n .e x17 .e) x9 .e) x5 (.n (.n .e x21 .e) x13 .e)) x3 (.n (.n (.n .e x19 .e) x11 .e) x7 (.n .e x15 .e)))
def nb0 : Pos := .o (.o (.o (.o .h)))
def nb1 : Pos := .i (.o (.o (.o .h)))
def nb2 : Pos := .o (.i (.o (.o .h)))
def nb3 : Pos := .i (.i (.o (.o .h)))
def nb4 : Pos := .o (.o (.i (.o .h)))
def nb5 : Pos := .i (.o (.i (.o .h)))
def nb7 : Pos := .i (.i (.i (.o .h)))
theorem T.le_same {α : Type} {l r l' r' : T α} {v : Option α} (hl : T.le l l') (hr : T.le r r') : T.le (.n l v r) (.n l' v r') := T.le_n hl (.inr rfl) hr
theorem pos_lt {id : Pos} (h : id.nat < 16) : id = .h ∨ id = (.o .h) ∨ id = (.i .h) ∨ id = (.o (.o .h)) ∨ id = (.i (.o .h)) ∨ id = (.o (.i .h)) ∨ id = (.i (.i .h)) ∨ id = (.o (.o (.o .h))) ∨ id = (.i (.o (.o .h))) ∨ id = (.o (.i (.o .h))) ∨ id = (.i (.i (.o .h))) ∨ id = (.o (.o (.i .h))) ∨ id = (.i (.o (.i .h))) ∨ id = (.o (.i (.i .h))) ∨ id = (.i (.i (.i .h))) := by
  match id, h with
  | .h, _ => exact .inl rfl
  | .o .h, _ => exact .inr (.inl rfl)
  | .o (.o .h), _ => exact .inr (.inr (.inr (.inl rfl)))
  | .o (.o (.o .h)), _ => exact .inr (.inr (.inr (.inr (.inr (.inr (.inr (.inl rfl)))))))
  | .o (.o (.o (.o p))), h => have := Pos.nat_pos p; simp [Pos.nat] at h; omega
  | .o (.o (.o (.i p))), h => have := Pos.nat_pos p; simp [Pos.nat] at h; omega
  | .o (.o (.i .h)), _ => exact .inr (.inr (.inr (.inr (.inr (.inr (.inr (.inr (.inr (.inr (.inr (.inl rfl)))))))))))
  | .o (.o (.i (.o p))), h => have := Pos.nat_pos p; simp [Pos.nat] at h; omega
  | .o (.o (.i (.i p))), h => have := Pos.nat_pos p; simp [Pos.nat] at h; omega
  | .o (.i .h), _ => exact .inr (.inr (.inr (.inr (.inr (.inl rfl)))))
  | .o (.i (.o .h)), _ => exact .inr (.inr (.inr (.inr (.inr (.inr (.inr (.inr (.inr (.inl rfl)))))))))
  | .o (.i (.o (.o p))), h => have := Pos.nat_pos p; simp [Pos.nat] at h; omega
  | .o (.i (.o (.i p))), h => have := Pos.nat_pos p; simp [Pos.nat] at h; omega
  | .o (.i (.i .h)), _ => exact .inr (.inr (.inr (.inr (.inr (.inr (.inr (.inr (.inr (.inr (.inr (.inr (.inr (.inl rfl)))))))))))))
  | .o (.i (.i (.o p))), h => have := Pos.nat_pos p; simp [Pos.nat] at h; omega
  | .o (.i (.i (.i p))), h => have := Pos.nat_pos p; simp [Pos.nat] at h; omega
  | .i .h, _ => exact .inr (.inr (.inl rfl))
  | .i (.o .h), _ => exact .inr (.inr (.inr (.inr (.inl rfl))))
  | .i (.o (.o .h)), _ => exact .inr (.inr (.inr (.inr (.inr (.inr (.inr (.inr (.inl rfl))))))))
  | .i (.o (.o (.o p))), h => have := Pos.nat_pos p; simp [Pos.nat] at h; omega
  | .i (.o (.o (.i p))), h => have := Pos.nat_pos p; simp [Pos.nat] at h; omega
  | .i (.o (.i .h)), _ => exact .inr (.inr (.inr (.inr (.inr (.inr (.inr (.inr (.inr (.inr (.inr (.inr (.inl rfl))))))))))))
  | .i (.o (.i (.o p))), h => have := Pos.nat_pos p; simp [Pos.nat] at h; omega
  | .i (.o (.i (.i p))), h => have := Pos.nat_pos p; simp [Pos.nat] at h; omega
  | .i (.i .h), _ => exact .inr (.inr (.inr (.inr (.inr (.inr (.inl rfl))))))
  | .i (.i (.o .h)), _ => exact .inr (.inr (.inr (.inr (.inr (.inr (.inr (.inr (.inr (.inr (.inl rfl))))))))))
  | .i (.i (.o (.o p))), h => have := Pos.nat_pos p; simp [Pos.nat] at h; omega
  | .i (.i (.o (.i p))), h => have := Pos.nat_pos p; simp [Pos.nat] at h; omega
  | .i (.i (.i .h)), _ => exact .inr (.inr (.inr (.inr (.inr (.inr (.inr (.inr (.inr (.inr (.inr (.inr (.inr (.inr (rfl))))))))))))))
  | .i (.i (.i (.o p))), h => have := Pos.nat_pos p; simp [Pos.nat] at h; omega
  | .i (.i (.i (.i p))), h => have := Pos.nat_pos p; simp [Pos.nat] at h; omega
theorem pos_ge {id : Pos} (h : 16 ≤ id.nat) : id ≠ .h ∧ id ≠ (.o .h) ∧ id ≠ (.i .h) ∧ id ≠ (.o (.o .h)) ∧ id ≠ (.i (.o .h)) ∧ id ≠ (.o (.i .h)) ∧ id ≠ (.i (.i .h)) ∧ id ≠ (.o (.o (.o .h))) ∧ id ≠ (.i (.o (.o .h))) ∧ id ≠ (.o (.i (.o .h))) ∧ id ≠ (.i (.i (.o .h))) ∧ id ≠ (.o (.o (.i .h))) ∧ id ≠ (.i (.o (.i .h))) ∧ id ≠ (.o (.i (.i .h))) ∧ id ≠ (.i (.i (.i .h))) := by
  refine ⟨?_, ?_, ?_, ?_, ?_, ?_, ?_, ?_, ?_, ?_, ?_, ?_, ?_, ?_, ?_⟩ <;> (rintro rfl; simp [Pos.nat] at h)
section
variable {x1 x2 x3 x4 x5 x6 x7 x8 x9 x10 x11 x12 x13 x14 x15 y1 y2 y3 y4 y5 y6 y7 y8 y9 y10 y11 y12 y13 y14 y15 x16 x17 x18 x19 x20 x21 x22 : Option C}
theorem trR_hi {id : Pos} (h : 16 ≤ id.nat) : (trR y1 y2 y3 y4 y5 y6 y7 y8 y9 y10 y11 y12 y13 y14 y15 x16 x17 x18 x19 x20 x21 x22).get id = (trR x1 x2 x3 x4 x5 x6 x7 x8 x9 x10 x11 x12 x13 x14 x15 x16 x17 x18 x19 x20 x21 x22).get id := by
  have h := pos_ge h
  unfold trR
  match id, h with
  | .h, h => exact absurd rfl h.1
  | .o .h, h => exact absurd rfl h.2.1
  | .o (.o .h), h => exact absurd rfl h.2.2.2.1
  | .o (.o (.o .h)), h => exact absurd rfl h.2.2.2.2.2.2.2.1
  | .o (.o (.o (.o .h))), _ => rfl
  | .o (.o (.o (.o (.o _)))), _ => rfl
  | .o (.o (.o (.o (.i _)))), _ => rfl
  | .o (.o (.o (.i _))), _ => rfl
  | .o (.o (.i .h)), h => exact absurd rfl h.2.2.2.2.2.2.2.2.2.2.2.1
  | .o (.o (.i (.o .h))), _ => rfl
  | .o (.o (.i (.o (.o _)))), _ => rfl
  | .o (.o (.i (.o (.i _)))), _ => rfl
  | .o (.o (.i (.i _))), _ => rfl
  | .o (.i .h), h => exact absurd rfl h.2.2.2.2.2.1
  | .o (.i (.o .h)), h => exact absurd rfl h.2.2.2.2.2.2.2.2.2.1
  | .o (.i (.o (.o .h))), _ => rfl
  | .o (.i (.o (.o (.o _)))), _ => rfl
  | .o (.i (.o (.o (.i _)))), _ => rfl
  | .o (.i (.o (.i _))), _ => rfl
  | .o (.i (.i .h)), h => exact absurd rfl h.2.2.2.2.2.2.2.2.2.2.2.2.2.1
  | .o (.i (.i (.o .h))), _ => rfl
  | .o (.i (.i (.o (.o _)))), _ => rfl
  | .o (.i (.i (.o (.i _)))), _ => rfl
  | .o (.i (.i (.i _))), _ => rfl
  | .i .h, h => exact absurd rfl h.2.2.1
  | .i (.o .h), h => exact absurd rfl h.2.2.2.2.1
  | .i (.o (.o .h)), h => exact absurd rfl h.2.2.2.2.2.2.2.2.1
  | .i (.o (.o (.o .h))), _ => rfl
  | .i (.o (.o (.o (.o _)))), _ => rfl
  | .i (.o (.o (.o (.i _)))), _ => rfl
  | .i (.o (.o (.i _))), _ => rfl
  | .i (.o (.i .h)), h => exact absurd rfl h.2.2.2.2.2.2.2.2.2.2.2.2.1
  | .i (.o (.i (.o .h))), _ => rfl
  | .i (.o (.i (.o (.o _)))), _ => rfl
  | .i (.o (.i (.o (.i _)))), _ => rfl
  | .i (.o (.i (.i _))), _ => rfl
  | .i (.i .h), h => exact absurd rfl h.2.2.2.2.2.2.1
  | .i (.i (.o .h)), h => exact absurd rfl h.2.2.2.2.2.2.2.2.2.2.1
  | .i (.i (.o (.o .h))), _ => rfl
  | .i (.i (.o (.o (.o _)))), _ => rfl
  | .i (.i (.o (.o (.i _)))), _ => rfl
  | .i (.i (.o (.i _))), _ => rfl
  | .i (.i (.i .h)), h => exact absurd rfl h.2.2.2.2.2.2.2.2.2.2.2.2.2.2
  | .i (.i (.i (.o _))), _ => rfl
  | .i (.i (.i (.i _))), _ => rfl
theorem trR_lo {id : Pos} {c : C} (h : id.nat < 16) (hc : (trR y1 y2 y3 y4 y5 y6 y7 y8 y9 y10 y11 y12 y13 y14 y15 x16 x17 x18 x19 x20 x21 x22).get id = some c) : (trL y1 y2 y3 y4 y5 y6 y7 y8 y9 y10 y11 y12 y13 y14 y15 none none none none none).get id = some c := by
  rcases pos_lt h with rfl | rfl | rfl | rfl | rfl | rfl | rfl | rfl | rfl | rfl | rfl | rfl | rfl | rfl | rfl <;> exact hc
theorem trR_beside : Beside nb0 (trL y1 y2 y3 y4 y5 y6 y7 y8 y9 y10 y11 y12 y13 y14 y15 none none none none none) (trR x1 x2 x3 x4 x5 x6 x7 x8 x9 x10 x11 x12 x13 x14 x15 x16 x17 x18 x19 x20 x21 x22) (trR y1 y2 y3 y4 y5 y6 y7 y8 y9 y10 y11 y12 y13 y14 y15 x16 x17 x18 x19 x20 x21 x22) := ⟨fun id c h hc => trR_lo h hc, fun id h => trR_hi h⟩
theorem trR_le : T.le (trL x1 x2 x3 x4 x5 x6 x7 x8 x9 x10 x11 x12 x13 x14 x15 none none none none none) (trR x1 x2 x3 x4 x5 x6 x7 x8 x9 x10 x11 x12 x13 x14 x15 x16 x17 x18 x19 x20 x21 x22) := by
  unfold trL trR
  repeat' first | exact T.le_refl _ | exact T.le_e _ | refine T.le_same ?_ ?_ | refine T.le_none ?_ ?_
end
theorem trL_at {x1 x2 x3 x4 x5 x6 x7 x8 x9 x10 x11 x12 x13 x14 x15 x16 x17 x18 x19 x20 : Option C} {id : Pos} (e1 : id ≠ nb2) (e2 : id ≠ nb3) (e3 : id ≠ nb4) : (trL x1 x2 x3 x4 x5 x6 x7 x8 x9 x10 x11 x12 x13 x14 x15 x16 x17 x18 x19 x20).get id = (trL x1 x2 x3 x4 x5 x6 x7 x8 x9 x10 x11 x12 x13 x14 x15 x16 x17 none none none).get id := by
  unfold trL
  match id, e1, e2, e3 with
  | .h, _, _, _ => rfl
  | .o .h, _, _, _ => rfl
  | .o (.o .h), _, _, _ => rfl
  | .o (.o (.o .h)), _, _, _ => rfl
  | .o (.o (.o (.o .h))), _, _, _ => rfl
  | .o (.o (.o (.o (.o _)))), _, _, _ => rfl
  | .o (.o (.o (.o (.i _)))), _, _, _ => rfl
  | .o (.o (.o (.i _))), _, _, _ => rfl
  | .o (.o (.i .h)), _, _, _ => rfl
  | .o (.o (.i (.o .h))), _, _, e => exact absurd rfl e
  | .o (.o (.i (.o (.o _)))), _, _, _ => rfl
  | .o (.o (.i (.o (.i _)))), _, _, _ => rfl
  | .o (.o (.i (.i _))), _, _, _ => rfl
  | .o (.i .h), _, _, _ => rfl
  | .o (.i (.o .h)), _, _, _ => rfl
  | .o (.i (.o (.o .h))), e, _, _ => exact absurd rfl e
  | .o (.i (.o (.o (.o _)))), _, _, _ => rfl
  | .o (.i (.o (.o (.i _)))), _, _, _ => rfl
  | .o (.i (.o (.i _))), _, _, _ => rfl
  | .o (.i (.i .h)), _, _, _ => rfl
  | .o (.i (.i (.o _))), _, _, _ => rfl
  | .o (.i (.i (.i _))), _, _, _ => rfl
  | .i .h, _, _, _ => rfl
  | .i (.o .h), _, _, _ => rfl
  | .i (.o (.o .h)), _, _, _ => rfl
  | .i (.o (.o (.o .h))), _, _, _ => rfl
  | .i (.o (.o (.o (.o _)))), _, _, _ => rfl
  | .i (.o (.o (.o (.i _)))), _, _, _ => rfl
  | .i (.o (.o (.i _))), _, _, _ => rfl
  | .i (.o (.i .h)), _, _, _ => rfl
  | .i (.o (.i (.o _))), _, _, _ => rfl
  | .i (.o (.i (.i _))), _, _, _ => rfl
  | .i (.i .h), _, _, _ => rfl
  | .i (.i (.o .h)), _, _, _ => rfl
  | .i (.i (.o (.o .h))), _, e, _ => exact absurd rfl e
  | .i (.i (.o (.o (.o _)))), _, _, _ => rfl
  | .i (.i (.o (.o (.i _)))), _, _, _ => rfl
  | .i (.i (.o (.i _))), _, _, _ => rfl
  | .i (.i (.i .h)), _, _, _ => rfl
  | .i (.i (.i (.o _))), _, _, _ => rfl
  | .i (.i (.i (.i _))), _, _, _ => rfl
theorem trL_of {x1 x2 x3 x4 x5 x6 x7 x8 x9 x10 x11 x12 x13 x14 x15 x16 x17 : Option C} {id : Pos} {c : C} (h : (trL x1 x2 x3 x4 x5 x6 x7 x8 x9 x10 x11 x12 x13 x14 x15 x16 x17 none none none).get id = some c) : id = nb0 ∨ id = nb1 ∨ (id.nat < 16 ∧ (trL x1 x2 x3 x4 x5 x6 x7 x8 x9 x10 x11 x12 x13 x14 x15 none none none none none).get id = some c) := by
  unfold trL at h
  match id, h with
  | .h, h => exact .inr (.inr ⟨by simp [Pos.nat], h⟩)
  | .o .h, h => exact .inr (.inr ⟨by simp [Pos.nat], h⟩)
  | .o (.o .h), h => exact .inr (.inr ⟨by simp [Pos.nat], h⟩)
  | .o (.o (.o .h)), h => exact .inr (.inr ⟨by simp [Pos.nat], h⟩)
  | .o (.o (.o (.o .h))), _ => exact .inl rfl
  | .o (.o (.o (.o (.o _)))), h => cases h
  | .o (.o (.o (.o (.i _)))), h => cases h
  | .o (.o (.o (.i _))), h => cases h
  | .o (.o (.i .h)), h => exact .inr (.inr ⟨by simp [Pos.nat], h⟩)
  | .o (.o (.i (.o .h))), h => cases h
  | .o (.o (.i (.o (.o _)))), h => cases h
  | .o (.o (.i (.o (.i _)))), h => cases h
  | .o (.o (.i (.i _))), h => cases h
  | .o (.i .h), h => exact .inr (.inr ⟨by simp [Pos.nat], h⟩)
  | .o (.i (.o .h)), h => exact .inr (.inr ⟨by simp [Pos.nat], h⟩)
  | .o (.i (.o (.o .h))), h => cases h
  | .o (.i (.o (.o (.o _)))), h => cases h
  | .o (.i (.o (.o (.i _)))), h => cases h
  | .o (.i (.o (.i _))), h => cases h
  | .o (.i (.i .h)), h => exact .inr (.inr ⟨by simp [Pos.nat], h⟩)
  | .o (.i (.i (.o _))), h => cases h
  | .o (.i (.i (.i _))), h => cases h
  | .i .h, h => exact .inr (.inr ⟨by simp [Pos.nat], h⟩)
  | .i (.o .h), h => exact .inr (.inr ⟨by simp [Pos.nat], h⟩)
  | .i (.o (.o .h)), h => exact .inr (.inr ⟨by simp [Pos.nat], h⟩)
  | .i (.o (.o (.o .h))), _ => exact .inr (.inl rfl)
  | .i (.o (.o (.o (.o _)))), h => cases h
  | .i (.o (.o (.o (.i _)))), h => cases h
  | .i (.o (.o (.i _))), h => cases h
  | .i (.o (.i .h)), h => exact .inr (.inr ⟨by simp [Pos.nat], h⟩)
  | .i (.o (.i (.o _))), h => cases h
  | .i (.o (.i (.i _))), h => cases h
  | .i (.i .h), h => exact .inr (.inr ⟨by simp [Pos.nat], h⟩)
  | .i (.i (.o .h)), h => exact .inr (.inr ⟨by simp [Pos.nat], h⟩)
  | .i (.i (.o (.o .h))), h => cases h
  | .i (.i (.o (.o (.o _)))), h => cases h
  | .i (.i (.o (.o (.i _)))), h => cases h
  | .i (.i (.o (.i _))), h => cases h
  | .i (.i (.i .h)), h => exact .inr (.inr ⟨by simp [Pos.nat], h⟩)
  | .i (.i (.i (.o _))), h => cases h
  | .i (.i (.i (.i _))), h => cases h
section
variable {x1 x2 x3 x4 x5 x6 x7 x8 x9 x10 x11 y1 y2 y3 y4 y5 y6 y7 y8 y9 y10 y11 x12 x13 x14 x15 x16 x17 x18 x19 x20 : Option C}
theorem pos_lt12 {id : Pos} (h : id.nat < 12) : id = .h ∨ id = (.o .h) ∨ id = (.i .h) ∨ id = (.o (.o .h)) ∨ id = (.i (.o .h)) ∨ id = (.o (.i .h)) ∨ id = (.i (.i .h)) ∨ id = (.o (.o (.o .h))) ∨ id = (.i (.o (.o .h))) ∨ id = (.o (.i (.o .h))) ∨ id = (.i (.i (.o .h))) := by
  match id, h with
  | .h, _ => exact .inl rfl
  | .o .h, _ => exact .inr (.inl rfl)
  | .o (.o .h), _ => exact .inr (.inr (.inr (.inl rfl)))
  | .o (.o (.o .h)), _ => exact .inr (.inr (.inr (.inr (.inr (.inr (.inr (.inl rfl)))))))
  | .o (.o (.o (.o p))), h => have := Pos.nat_pos p; simp [Pos.nat] at h; omega
  | .o (.o (.o (.i p))), h => have := Pos.nat_pos p; simp [Pos.nat] at h; omega
  | .o (.o (.i p)), h => have := Pos.nat_pos p; simp [Pos.nat] at h; omega
  | .o (.i .h), _ => exact .inr (.inr (.inr (.inr (.inr (.inl rfl)))))
  | .o (.i (.o .h)), _ => exact .inr (.inr (.inr (.inr (.inr (.inr (.inr (.inr (.inr (.inl rfl)))))))))
  | .o (.i (.o (.o p))), h => have := Pos.nat_pos p; simp [Pos.nat] at h; omega
  | .o (.i (.o (.i p))), h => have := Pos.nat_pos p; simp [Pos.nat] at h; omega
  | .o (.i (.i p)), h => have := Pos.nat_pos p; simp [Pos.nat] at h; omega
  | .i .h, _ => exact .inr (.inr (.inl rfl))
  | .i (.o .h), _ => exact .inr (.inr (.inr (.inr (.inl rfl))))
  | .i (.o (.o .h)), _ => exact .inr (.inr (.inr (.inr (.inr (.inr (.inr (.inr (.inl rfl))))))))
  | .i (.o (.o (.o p))), h => have := Pos.nat_pos p; simp [Pos.nat] at h; omega
  | .i (.o (.o (.i p))), h => have := Pos.nat_pos p; simp [Pos.nat] at h; omega
  | .i (.o (.i p)), h => have := Pos.nat_pos p; simp [Pos.nat] at h; omega
  | .i (.i .h), _ => exact .inr (.inr (.inr (.inr (.inr (.inr (.inl rfl))))))
  | .i (.i (.o .h)), _ => exact .inr (.inr (.inr (.inr (.inr (.inr (.inr (.inr (.inr (.inr (rfl))))))))))
  | .i (.i (.o (.o p))), h => have := Pos.nat_pos p; simp [Pos.nat] at h; omega
  | .i (.i (.o (.i p))), h => have := Pos.nat_pos p; simp [Pos.nat] at h; omega
  | .i (.i (.i p)), h => have := Pos.nat_pos p; simp [Pos.nat] at h; omega
theorem pos_ge12 {id : Pos} (h : 12 ≤ id.nat) : id ≠ .h ∧ id ≠ (.o .h) ∧ id ≠ (.i .h) ∧ id ≠ (.o (.o .h)) ∧ id ≠ (.i (.o .h)) ∧ id ≠ (.o (.i .h)) ∧ id ≠ (.i (.i .h)) ∧ id ≠ (.o (.o (.o .h))) ∧ id ≠ (.i (.o (.o .h))) ∧ id ≠ (.o (.i (.o .h))) ∧ id ≠ (.i (.i (.o .h))) := by
  refine ⟨?_, ?_, ?_, ?_, ?_, ?_, ?_, ?_, ?_, ?_, ?_⟩ <;> (rintro rfl; simp [Pos.nat] at h)
theorem trL_hi12 {id : Pos} (h : 12 ≤ id.nat) : (trL y1 y2 y3 y4 y5 y6 y7 y8 y9 y10 y11 x12 x13 x14 x15 x16 x17 x18 x19 x20).get id = (trL x1 x2 x3 x4 x5 x6 x7 x8 x9 x10 x11 x12 x13 x14 x15 x16 x17 x18 x19 x20).get id := by
  have h := pos_ge12 h
  unfold trL
  match id, h with
  | .h, h => exact absurd rfl h.1
  | .o .h, h => exact absurd rfl h.2.1
  | .o (.o .h), h => exact absurd rfl h.2.2.2.1
  | .o (.o (.o .h)), h => exact absurd rfl h.2.2.2.2.2.2.2.1
  | .o (.o (.o (.o .h))), _ => rfl
  | .o (.o (.o (.o (.o _)))), _ => rfl
  | .o (.o (.o (.o (.i _)))), _ => rfl
  | .o (.o (.o (.i _))), _ => rfl
  | .o (.o (.i .h)), _ => rfl
  | .o (.o (.i (.o .h))), _ => rfl
  | .o (.o (.i (.o (.o _)))), _ => rfl
  | .o (.o (.i (.o (.i _)))), _ => rfl
  | .o (.o (.i (.i _))), _ => rfl
  | .o (.i .h), h => exact absurd rfl h.2.2.2.2.2.1
  | .o (.i (.o .h)), h => exact absurd rfl h.2.2.2.2.2.2.2.2.2.1
  | .o (.i (.o (.o .h))), _ => rfl
  | .o (.i (.o (.o (.o _)))), _ => rfl
  | .o (.i (.o (.o (.i _)))), _ => rfl
  | .o (.i (.o (.i _))), _ => rfl
  | .o (.i (.i .h)), _ => rfl
  | .o (.i (.i (.o _))), _ => rfl
  | .o (.i (.i (.i _))), _ => rfl
  | .i .h, h => exact absurd rfl h.2.2.1
  | .i (.o .h), h => exact absurd rfl h.2.2.2.2.1
  | .i (.o (.o .h)), h => exact absurd rfl h.2.2.2.2.2.2.2.2.1
  | .i (.o (.o (.o .h))), _ => rfl
  | .i (.o (.o (.o (.o _)))), _ => rfl
  | .i (.o (.o (.o (.i _)))), _ => rfl
  | .i (.o (.o (.i _))), _ => rfl
  | .i (.o (.i .h)), _ => rfl
  | .i (.o (.i (.o _))), _ => rfl
  | .i (.o (.i (.i _))), _ => rfl
  | .i (.i .h), h => exact absurd rfl h.2.2.2.2.2.2.1
  | .i (.i (.o .h)), h => exact absurd rfl h.2.2.2.2.2.2.2.2.2.2
  | .i (.i (.o (.o .h))), _ => rfl
  | .i (.i (.o (.o (.o _)))), _ => rfl
  | .i (.i (.o (.o (.i _)))), _ => rfl
  | .i (.i (.o (.i _))), _ => rfl
  | .i (.i (.i .h)), _ => rfl
  | .i (.i (.i (.o _))), _ => rfl
  | .i (.i (.i (.i _))), _ => rfl
theorem trL_lo12 {id : Pos} {c : C} (h : id.nat < 12) (hc : (trL y1 y2 y3 y4 y5 y6 y7 y8 y9 y10 y11 x12 x13 x14 x15 x16 x17 x18 x19 x20).get id = some c) : (trL y1 y2 y3 y4 y5 y6 y7 y8 y9 y10 y11 none none none none none none none none none).get id = some c := by
  rcases pos_lt12 h with rfl | rfl | rfl | rfl | rfl | rfl | rfl | rfl | rfl | rfl | rfl <;> exact hc
def n12 : Pos := .o (.o (.i .h))
theorem trL_beside12 : Beside n12 (trL y1 y2 y3 y4 y5 y6 y7 y8 y9 y10 y11 none none none none none none none none none) (trL x1 x2 x3 x4 x5 x6 x7 x8 x9 x10 x11 x12 x13 x14 x15 x16 x17 x18 x19 x20) (trL y1 y2 y3 y4 y5 y6 y7 y8 y9 y10 y11 x12 x13 x14 x15 x16 x17 x18 x19 x20) := ⟨fun id c h hc => trL_lo12 h hc, fun id h => trL_hi12 h⟩
theorem trL_le12 : T.le (trL x1 x2 x3 x4 x5 x6 x7 x8 x9 x10 x11 none none none none none none none none none) (trL x1 x2 x3 x4 x5 x6 x7 x8 x9 x10 x11 x12 x13 x14 x15 x16 x17 x18 x19 x20) := by
  unfold trL
  repeat' first | exact T.le_refl _ | exact T.le_e _ | refine T.le_same ?_ ?_ | refine T.le_none ?_ ?_
end
end Go.Ev
namespace Go.Ev
open Go.Proofs
set_option maxRecDepth 100000
def PA (n : Int) (l : Ln) (i : Nat) : List Ln := ((rngL (kLo l) (kHi l)).take i).flatMap fun a => rdsC n l a
def PB (n : Int) (l : Ln) (a : Int) (j : Nat) : List Ln := ((rngL (cLo l) (cHi n l)).take j).flatMap fun b => rdsT n l a b
def PC (n : Int) (l : Ln) (a b : Int) (q : Nat) : List Ln := ((rngL (tLo l) (tHi n l)).take q).map fun c => ⟨a, b, c⟩
theorem PA_succ {n : Int} {l : Ln} {i : Nat} (h : i < (kHi l + 1 - kLo l).toNat) : PA n l (i + 1) = PA n l i ++ rdsC n l (kLo l + (i : Int)) := by
  unfold PA
  rw [take_succ_getD (d := 0) (by rw [rngL_length]; exact h), List.flatMap_append, rngL_at h]
  simp
theorem PB_succ {n : Int} {l : Ln} {a : Int} {j : Nat} (h : j < (cHi n l + 1 - cLo l).toNat) : PB n l a (j + 1) = PB n l a j ++ rdsT n l a (cLo l + (j : Int)) := by
  unfold PB
  rw [take_succ_getD (d := 0) (by rw [rngL_length]; exact h), List.flatMap_append, rngL_at h]
  simp
theorem PC_succ {n : Int} {l : Ln} {a b : Int} {q : Nat} (h : q < (tHi n l + 1 - tLo l).toNat) : PC n l a b (q + 1) = PC n l a b q ++ [⟨a, b, tLo l + (q : Int)⟩] := by
  unfold PC
  rw [take_succ_getD (d := 0) (by rw [rngL_length]; exact h), List.map_append, rngL_at h]
  simp
theorem PA_all {n : Int} {l : Ln} {i : Nat} (h : (kHi l + 1 - kLo l).toNat ≤ i) : PA n l i = rdsL n l := by
  unfold PA rdsL
  rw [List.take_of_length_le (by rw [rngL_length]; exact h)]
theorem PB_all {n : Int} {l : Ln} {a : Int} {j : Nat} (h : (cHi n l + 1 - cLo l).toNat ≤ j) : PB n l a j = rdsC n l a := by
  unfold PB rdsC
  rw [List.take_of_length_le (by rw [rngL_length]; exact h)]
theorem PC_all {n : Int} {l : Ln} {a b : Int} {q : Nat} (h : (tHi n l + 1 - tLo l).toNat ≤ q) : PC n l a b q = rdsT n l a b := by
  unfold PC rdsT
  rw [List.take_of_length_le (by rw [rngL_length]; exact h)]
theorem PA_pre (n : Int) (l : Ln) (i : Nat) : PA n l i <+: rdsL n l := by
  refine ⟨((rngL (kLo l) (kHi l)).drop i).flatMap fun a => rdsC n l a, ?_⟩
  unfold PA rdsL
  rw [← List.flatMap_append, List.take_append_drop]
theorem PB_pre (n : Int) (l : Ln) (a : Int) (j : Nat) : PB n l a j <+: rdsC n l a := by
  refine ⟨((rngL (cLo l) (cHi n l)).drop j).flatMap fun b => rdsT n l a b, ?_⟩
  unfold PB rdsC
  rw [← List.flatMap_append, List.take_append_drop]
theorem PC_pre (n : Int) (l : Ln) (a b : Int) (q : Nat) : PC n l a b q <+: rdsT n l a b := by
  refine ⟨((rngL (tLo l) (tHi n l)).drop q).map fun c => ⟨a, b, c⟩, ?_⟩
  unfold PC rdsT
  rw [← List.map_append, List.take_append_drop]
theorem pre_all {n : Int} {l : Ln} {i j q : Nat} (hi : i < (kHi l + 1 - kLo l).toNat) (hj : j < (cHi n l + 1 - cLo l).toNat) : PA n l i ++ (PB n l (kLo l + (i : Int)) j ++ PC n l (kLo l + (i : Int)) (cLo l + (j : Int)) q) <+: rdsL n l := by
  have h1 : PB n l (kLo l + (i : Int)) j ++ PC n l (kLo l + (i : Int)) (cLo l + (j : Int)) q <+: rdsC n l (kLo l + (i : Int)) := by
    refine List.IsPrefix.trans ?_ (PB_pre n l _ (j + 1))
    rw [PB_succ hj]
    exact (List.prefix_append_right_inj _).2 (PC_pre _ _ _ _ _)
  refine List.IsPrefix.trans ?_ (PA_pre n l (i + 1))
  rw [PA_succ hi]
  exact (List.prefix_append_right_inj _).2 h1
structure Lns (σ : Type) where
  o : Nat → σ → Option C
def Lns.ob {σ : Type} (S : Lns σ) (n : Int) (l : Ln) (s : σ) : T C := trL (S.o 1 s) (S.o 2 s) (S.o 3 s) (S.o 4 s) (S.o 5 s) (S.o 6 s) (S.o 7 s) (S.o 8 s) (S.o 9 s) (S.o 10 s) (S.o 11 s) (S.o 12 s) (S.o 13 s) (S.o 14 s) (S.o 15 s) (S.o 16 s) (S.o 17 s) (some (.cells false [.o (.i .i64 (kLo l)) 0, .o (.i .i64 (kHi l)) 0] 1)) (some (.cells false [.o (.i .i64 (cLo l)) 0, .o (.i .i64 (cHi n l)) 0] 1)) (some (.cells false [.o (.i .i64 (tLo l)) 0, .o (.i .i64 (tHi n l)) 0] 1))
def Lns.base {σ : Type} (S : Lns σ) (s : σ) : T C := trL (S.o 1 s) (S.o 2 s) (S.o 3 s) (S.o 4 s) (S.o 5 s) (S.o 6 s) (S.o 7 s) (S.o 8 s) (S.o 9 s) (S.o 10 s) (S.o 11 s) (S.o 12 s) (S.o 13 s) (S.o 14 s) (S.o 15 s) (S.o 16 s) (S.o 17 s) none none none
theorem Lns.le {σ : Type} (S : Lns σ) (n : Int) (l : Ln) (s : σ) : T.le (S.base s) (S.ob n l s) := by
  unfold Lns.base Lns.ob trL
  repeat' first | exact T.le_refl _ | exact T.le_e _ | refine T.le_same ?_ ?_ | refine T.le_none ?_ ?_
structure LnsOk {σ : Type} (S : Lns σ) (y : Pos) (I : List Ln → σ → Prop) (R : σ → Ln → σ → Bool → Prop) (n : Int) (l : Ln) : Prop where
  yl : y.nat < 18
  kp : ∀ s, KpO 18 (S.base s)
  inv : ∀ h s a s', h ++ [a] <+: rdsL n l → I h s → R s a s' true → I (h ++ [a]) s'
  rnd : ∀ h s, I h s → ∀ a, h ++ [a] <+: rdsL n l → ∀ (sl : T D) (d : Option Pos) (K : X → Prop), (∀ s' g, R s a s' g → wDst sl (S.ob n l s') nb5 none d K (.b g)) → WRnd Try.prog y [.ag [.i .i64 a.k, .i .i64 a.c, .i .i64 a.t]] d ⟨sl, S.ob n l s, nb5, none⟩ K
def iS (y : Pos) (row : List D) (l : Ln) (a : Int) : T D := (.n (.n (.n (.n .e (some (.i .i64 a)) .e) none .e) (some (.pl row 0)) (.n .e (some (.pt nb3 0 0)) .e)) (some (.yl y)) (.n (.n .e (some (.pt nb2 0 0)) .e) (some (.pl (ln3 l) 0)) (.n .e (some (.pt nb4 0 0)) .e)))
def iS2 (y : Pos) (row : List D) (l : Ln) (a b : Int) : T D := (.n (.n (.n (.n .e (some (.i .i64 a)) .e) none .e) (some (.pl row 0)) (.n .e (some (.pt nb3 0 0)) .e)) (some (.yl y)) (.n (.n (.n .e (some (.i .i64 b)) .e) (some (.pt nb2 0 0)) .e) (some (.pl (ln3 l) 0)) (.n .e (some (.pt nb4 0 0)) .e)))
def iS3 (y : Pos) (row : List D) (l : Ln) (a b c : Int) : T D := (.n (.n (.n (.n .e (some (.i .i64 a)) .e) none .e) (some (.pl row 0)) (.n (.n .e (some (.i .i64 c)) .e) (some (.pt nb3 0 0)) .e)) (some (.yl y)) (.n (.n (.n .e (some (.i .i64 b)) .e) (some (.pt nb2 0 0)) .e) (some (.pl (ln3 l) 0)) (.n .e (some (.pt nb4 0 0)) .e)))
theorem iS_kp {y : Pos} (hy : y.nat < 18) {row : List D} (h : PuL row) (l : Ln) (a : Int) : ∀ s d, (iS y row l a).get s = some d → Kp nb5.nat d := by
  show TAll (fun _ d => Kp nb5.nat d) (iS y row l a)
  unfold iS
  repeat' first | exact TAll.e | refine TAll.some ?_ ?_ ?_ | refine TAll.none ?_ ?_
  all_goals simp [Kp, KpL, Pu, PuL, h, ln3, nb2, nb3, nb4, nb5, Pos.nat]
  all_goals omega
theorem iS2_kp {y : Pos} (hy : y.nat < 18) {row : List D} (h : PuL row) (l : Ln) (a b : Int) : ∀ s d, (iS2 y row l a b).get s = some d → Kp nb5.nat d := by
  show TAll (fun _ d => Kp nb5.nat d) (iS2 y row l a b)
  unfold iS2
  repeat' first | exact TAll.e | refine TAll.some ?_ ?_ ?_ | refine TAll.none ?_ ?_
  all_goals simp [Kp, KpL, Pu, PuL, h, ln3, nb2, nb3, nb4, nb5, Pos.nat]
  all_goals omega
theorem iS3_kp {y : Pos} (hy : y.nat < 18) {row : List D} (h : PuL row) (l : Ln) (a b c : Int) : ∀ s d, (iS3 y row l a b c).get s = some d → Kp nb5.nat d := by
  show TAll (fun _ d => Kp nb5.nat d) (iS3 y row l a b c)
  unfold iS3
  repeat' first | exact TAll.e | refine TAll.some ?_ ?_ ?_ | refine TAll.none ?_ ?_
  all_goals simp [Kp, KpL, Pu, PuL, h, ln3, nb2, nb3, nb4, nb5, Pos.nat]
  all_goals omega
theorem ob_kp {σ : Type} {S : Lns σ} {n : Int} {l : Ln} (h : ∀ s, KpO 18 (S.base s)) (s : σ) : KpO nb5.nat (S.ob n l s) := by
  intro id c hc
  by_cases e1 : id = nb2
  · subst e1
    have hc : some (.cells false [.o (.i .i64 (kLo l)) 0, .o (.i .i64 (kHi l)) 0] 1) = some c := hc
    cases hc
    exact ⟨by simp [nb2, nb5, Pos.nat], fun c hc => by simp at hc; rcases hc with rfl | rfl <;> trivial⟩
  by_cases e2 : id = nb3
  · subst e2
    have hc : some (.cells false [.o (.i .i64 (cLo l)) 0, .o (.i .i64 (cHi n l)) 0] 1) = some c := hc
    cases hc
    exact ⟨by simp [nb3, nb5, Pos.nat], fun c hc => by simp at hc; rcases hc with rfl | rfl <;> trivial⟩
  by_cases e3 : id = nb4
  · subst e3
    have hc : some (.cells false [.o (.i .i64 (tLo l)) 0, .o (.i .i64 (tHi n l)) 0] 1) = some c := hc
    cases hc
    exact ⟨by simp [nb4, nb5, Pos.nat], fun c hc => by simp at hc; rcases hc with rfl | rfl <;> trivial⟩
  have hb : (S.base s).get id = some c := by
    rw [← hc]
    exact (trL_at e1 e2 e3).symm
  obtain ⟨h1, h2⟩ := h s id c hb
  exact ⟨Nat.lt_trans h1 (by simp [nb5, Pos.nat]), h2.up (by simp [nb5, Pos.nat])⟩
end Go.Ev
namespace Go.Ev
open Go.Proofs
set_option maxRecDepth 100000
theorem j_itL {σ : Type} (S : Lns σ) (y : Pos) (I : List Ln → σ → Prop) (R : σ → Ln → σ → Bool → Prop) (n coin box : Int) (ls : List Ln) (cs : List Ct) (hn : 1 ≤ n ∧ n ≤ 4) (l : Ln) (hk : 0 ≤ l.k ∧ l.k ≤ 2) (hc : -1 ≤ l.c ∧ l.c ≤ 3) (ht : -1 ≤ l.t ∧ l.t ≤ 3) (H : LnsOk S y I R n l) (s0 : σ) (i0 : I [] s0) :
    ∃ v ob', (∃ s' g, Fld R (rdsL n l) s0 s' g ∧ v = .tp [] ∧ ob' = S.base s') ∧ CallOk Try.prog p135.ix [.yl y, .pl (wk6 n coin box ls cs) 0, .pl (ln3 l) 0] (S.base s0) nb2 none v ob' nb2 none := by
  have hrow := pu_wk6 n coin box ls cs
  have hy := H.yl
  have b1 : 1 ≤ kLo l ∧ kLo l ≤ kHi l ∧ kHi l ≤ 2 := by
    unfold kLo kHi
    split <;> omega
  have b2 : 0 ≤ cLo l ∧ cLo l ≤ cHi n l ∧ cHi n l ≤ 3 := by
    unfold cLo cHi
    split <;> omega
  have b3 : 0 ≤ tLo l ∧ tLo l ≤ tHi n l ∧ tHi n l ≤ 3 := by
    unfold tLo tHi
    split <;> omega
  refine CallOk.runE fn134 (by simp) (Nat.le_refl _) ?_
  unfold Lns.base trL
  conv => whnf
  repeat' first | ((first | with_reducible apply WB.tt | with_reducible apply WB.ff | refine Rn.seq ?_ | refine Rn.reg ?_ | refine Rn.drw ?_ | refine Rn.blk ?_ | refine Rn.skip ?_ | refine Rn.ret ?_ | refine Rn.exit ?_ | refine Rn.cond rfl ?_ | refine And.intro (InR.i64 (by omega) (by omega)) ?_ | refine And.intro (show _ ≠ (0 : Int) by omega) ?_ | refine WIx.intsN (by omega) ?_ | refine WIx.rowsN (by omega) ?_ | refine WCall.pure (j_signs n coin box ls cs hn l) ?_) <;> conv => whnf)
  refine Rn.loop (fun t : Nat × σ => ⟨iS y (wk6 n coin box ls cs) l (kLo l + (t.1 : Int)), S.ob n l t.2, nb5, none⟩) (fun t => t.1 ≤ (kHi l + 1 - kLo l).toNat ∧ I (PA n l t.1) t.2 ∧ Fld R (PA n l t.1) s0 t.2 true) (fun t => (kHi l + 1 - kLo l).toNat - t.1) (0, s0) ?_ ?_ ?_
  · refine X.le.mk ?_ ?_ (Nat.le_refl _) rfl rfl
    · unfold iS
      simp only [Int.natCast_zero, Int.add_zero]
      repeat' first | exact T.le_e _ | refine T.le_some ?_ rfl ?_ | refine T.le_none ?_ ?_
    · unfold Lns.ob trL
      repeat' first | exact T.le_refl _ | exact T.le_e _ | refine T.le_some ?_ rfl ?_ | refine T.le_same ?_ ?_ | refine T.le_none ?_ ?_
  · exact ⟨by omega, i0, .nil⟩
  rintro ⟨i, s1⟩ ⟨i1, i2, i3⟩
  have i1 : i ≤ (kHi l + 1 - kLo l).toNat := i1
  have i2 : I (PA n l i) s1 := i2
  have i3 : Fld R (PA n l i) s0 s1 true := i3
  conv => whnf
  repeat' first | ((first | with_reducible apply WB.tt | with_reducible apply WB.ff | refine Rn.seq ?_ | refine Rn.reg ?_ | refine Rn.drw ?_ | refine Rn.blk ?_ | refine Rn.skip ?_ | refine Rn.ret ?_ | refine Rn.exit ?_ | refine Rn.cond rfl ?_ | refine And.intro (InR.i64 (by omega) (by omega)) ?_ | refine And.intro (show _ ≠ (0 : Int) by omega) ?_ | refine WIx.intsN (by omega) ?_ | refine WIx.rowsN (by omega) ?_) <;> conv => whnf)
  refine WB.dec (fun h => ?_) (fun h => ?_) <;> conv => whnf
  · have hi : i < (kHi l + 1 - kLo l).toNat := by omega
    repeat' first | ((first | with_reducible apply WB.tt | with_reducible apply WB.ff | refine Rn.seq ?_ | refine Rn.reg ?_ | refine Rn.drw ?_ | refine Rn.blk ?_ | refine Rn.skip ?_ | refine Rn.ret ?_ | refine Rn.exit ?_ | refine Rn.cond rfl ?_ | refine And.intro (InR.i64 (by omega) (by omega)) ?_ | refine And.intro (show _ ≠ (0 : Int) by omega) ?_ | refine WIx.intsN (by omega) ?_ | refine WIx.rowsN (by omega) ?_) <;> conv => whnf)
    refine Rn.loop (fun t : Nat × σ => ⟨iS2 y (wk6 n coin box ls cs) l (kLo l + (i : Int)) (cLo l + (t.1 : Int)), S.ob n l t.2, nb5, none⟩) (fun t => t.1 ≤ (cHi n l + 1 - cLo l).toNat ∧ I (PA n l i ++ PB n l (kLo l + (i : Int)) t.1) t.2 ∧ Fld R (PA n l i ++ PB n l (kLo l + (i : Int)) t.1) s0 t.2 true) (fun t => (cHi n l + 1 - cLo l).toNat - t.1) (0, s1) ?_ ?_ ?_
    · refine X.le.mk ?_ (T.le_refl _) (Nat.le_refl _) rfl rfl
      unfold iS2
      simp only [Int.natCast_zero, Int.add_zero]
      repeat' first | exact T.le_e _ | refine T.le_some ?_ rfl ?_ | refine T.le_none ?_ ?_
    · exact ⟨by omega, by simpa [PB] using i2, by simpa [PB] using i3⟩
    rintro ⟨j, s2⟩ ⟨j1, j2, j3⟩
    have j1 : j ≤ (cHi n l + 1 - cLo l).toNat := j1
    have j2 : I (PA n l i ++ PB n l (kLo l + (i : Int)) j) s2 := j2
    have j3 : Fld R (PA n l i ++ PB n l (kLo l + (i : Int)) j) s0 s2 true := j3
    conv => whnf
    repeat' first | ((first | with_reducible apply WB.tt | with_reducible apply WB.ff | refine Rn.seq ?_ | refine Rn.reg ?_ | refine Rn.drw ?_ | refine Rn.blk ?_ | refine Rn.skip ?_ | refine Rn.ret ?_ | refine Rn.exit ?_ | refine Rn.cond rfl ?_ | refine And.intro (InR.i64 (by omega) (by omega)) ?_ | refine And.intro (show _ ≠ (0 : Int) by omega) ?_ | refine WIx.intsN (by omega) ?_ | refine WIx.rowsN (by omega) ?_) <;> conv => whnf)
    refine WB.dec (fun h => ?_) (fun h => ?_) <;> conv => whnf
    · have hj : j < (cHi n l + 1 - cLo l).toNat := by omega
      repeat' first | ((first | with_reducible apply WB.tt | with_reducible apply WB.ff | refine Rn.seq ?_ | refine Rn.reg ?_ | refine Rn.drw ?_ | refine Rn.blk ?_ | refine Rn.skip ?_ | refine Rn.ret ?_ | refine Rn.exit ?_ | refine Rn.cond rfl ?_ | refine And.intro (InR.i64 (by omega) (by omega)) ?_ | refine And.intro (show _ ≠ (0 : Int) by omega) ?_ | refine WIx.intsN (by omega) ?_ | refine WIx.rowsN (by omega) ?_) <;> conv => whnf)
      refine Rn.loop (fun t : Nat × σ => ⟨iS3 y (wk6 n coin box ls cs) l (kLo l + (i : Int)) (cLo l + (j : Int)) (tLo l + (t.1 : Int)), S.ob n l t.2, nb5, none⟩) (fun t => t.1 ≤ (tHi n l + 1 - tLo l).toNat ∧ I (PA n l i ++ (PB n l (kLo l + (i : Int)) j ++ PC n l (kLo l + (i : Int)) (cLo l + (j : Int)) t.1)) t.2 ∧ Fld R (PA n l i ++ (PB n l (kLo l + (i : Int)) j ++ PC n l (kLo l + (i : Int)) (cLo l + (j : Int)) t.1)) s0 t.2 true) (fun t => (tHi n l + 1 - tLo l).toNat - t.1) (0, s2) ?_ ?_ ?_
      · refine X.le.mk ?_ (T.le_refl _) (Nat.le_refl _) rfl rfl
        unfold iS3
        simp only [Int.natCast_zero, Int.add_zero]
        repeat' first | exact T.le_e _ | refine T.le_some ?_ rfl ?_ | refine T.le_none ?_ ?_
      · exact ⟨by omega, by simpa [PC] using j2, by simpa [PC] using j3⟩
      rintro ⟨q, s3⟩ ⟨q1, q2, q3⟩
      have q1 : q ≤ (tHi n l + 1 - tLo l).toNat := q1
      have q2 : I (PA n l i ++ (PB n l (kLo l + (i : Int)) j ++ PC n l (kLo l + (i : Int)) (cLo l + (j : Int)) q)) s3 := q2
      have q3 : Fld R (PA n l i ++ (PB n l (kLo l + (i : Int)) j ++ PC n l (kLo l + (i : Int)) (cLo l + (j : Int)) q)) s0 s3 true := q3
      conv => whnf
      repeat' first | ((first | with_reducible apply WB.tt | with_reducible apply WB.ff | refine Rn.seq ?_ | refine Rn.reg ?_ | refine Rn.drw ?_ | refine Rn.blk ?_ | refine Rn.skip ?_ | refine Rn.ret ?_ | refine Rn.exit ?_ | refine Rn.cond rfl ?_ | refine And.intro (InR.i64 (by omega) (by omega)) ?_ | refine And.intro (show _ ≠ (0 : Int) by omega) ?_ | refine WIx.intsN (by omega) ?_ | refine WIx.rowsN (by omega) ?_) <;> conv => whnf)
      refine WB.dec (fun h => ?_) (fun h => ?_) <;> conv => whnf
      · have hq : q < (tHi n l + 1 - tLo l).toNat := by omega
        have hpc : PA n l i ++ (PB n l (kLo l + (i : Int)) j ++ PC n l (kLo l + (i : Int)) (cLo l + (j : Int)) (q + 1)) = PA n l i ++ (PB n l (kLo l + (i : Int)) j ++ PC n l (kLo l + (i : Int)) (cLo l + (j : Int)) q) ++ [⟨kLo l + (i : Int), cLo l + (j : Int), tLo l + (q : Int)⟩] := by
          rw [PC_succ hq, List.append_assoc, List.append_assoc]
        have hx := pre_all (q := q + 1) hi hj
        rw [hpc] at hx
        have hone : ∀ s' g, R s3 ⟨kLo l + (i : Int), cLo l + (j : Int), tLo l + (q : Int)⟩ s' g → Fld R (PA n l i ++ (PB n l (kLo l + (i : Int)) j ++ PC n l (kLo l + (i : Int)) (cLo l + (j : Int)) (q + 1))) s0 s' g := fun s' g h => by
          rw [hpc]
          refine Fld.app q3 ?_
          cases g with
          | true => exact .go h .nil
          | false => exact .stop h
        repeat' first | ((first | with_reducible apply WB.tt | with_reducible apply WB.ff | refine Rn.seq ?_ | refine Rn.reg ?_ | refine Rn.drw ?_ | refine Rn.blk ?_ | refine Rn.skip ?_ | refine Rn.ret ?_ | refine Rn.exit ?_ | refine Rn.cond rfl ?_ | refine And.intro (InR.i64 (by omega) (by omega)) ?_ | refine And.intro (show _ ≠ (0 : Int) by omega) ?_ | refine WIx.intsN (by omega) ?_ | refine WIx.rowsN (by omega) ?_) <;> conv => whnf)
        refine H.rnd _ s3 q2 ⟨kLo l + (i : Int), cLo l + (j : Int), tLo l + (q : Int)⟩ hx _ _ _ (fun s' g h => ?_)
        cases g with
        | false =>
          conv => whnf
          repeat' first | ((first | with_reducible apply WB.tt | with_reducible apply WB.ff | refine Rn.seq ?_ | refine Rn.reg ?_ | refine Rn.drw ?_ | refine Rn.blk ?_ | refine Rn.skip ?_ | refine Rn.ret ?_ | refine Rn.exit ?_ | refine Rn.cond rfl ?_ | refine And.intro (InR.i64 (by omega) (by omega)) ?_ | refine And.intro (show _ ≠ (0 : Int) by omega) ?_ | refine WIx.intsN (by omega) ?_ | refine WIx.rowsN (by omega) ?_ | with_reducible refine WB.decT (by first | with_reducible rfl | assumption | omega | exact ⟨rfl, rfl⟩) ?_ | with_reducible refine WB.decF (by first | assumption | omega) ?_ | with_reducible refine WB.ndT (by first | with_reducible rfl | assumption | omega | exact ⟨rfl, rfl⟩) ?_ | with_reducible refine WB.ndF (by first | assumption | omega) ?_ | with_reducible refine WB.nt ?_ | with_reducible refine WB.nf ?_ | with_reducible refine WB.dec (fun h => ?_) (fun h => ?_) | with_reducible refine WB.ndec (fun h => ?_) (fun h => ?_) | refine WB.mk (fun h => ?_) (fun h => ?_)) <;> conv => whnf)
          obtain ⟨rest, hrest⟩ := pre_all (q := q + 1) hi hj
          refine ⟨_, _, ⟨s', false, by rw [← hrest]; exact (hone s' false h).cut rest, rfl, rfl⟩, ⟨.inr rfl, ⟨_, rfl, .pu trivial⟩, Shr.kp (S.le n l s') ((H.kp s').up (by simp [nb2, Pos.nat]))⟩⟩
        | true =>
          conv => whnf
          repeat' first | ((first | with_reducible apply WB.tt | with_reducible apply WB.ff | refine Rn.seq ?_ | refine Rn.reg ?_ | refine Rn.drw ?_ | refine Rn.blk ?_ | refine Rn.skip ?_ | refine Rn.ret ?_ | refine Rn.exit ?_ | refine Rn.cond rfl ?_ | refine And.intro (InR.i64 (by omega) (by omega)) ?_ | refine And.intro (show _ ≠ (0 : Int) by omega) ?_ | refine WIx.intsN (by omega) ?_ | refine WIx.rowsN (by omega) ?_ | with_reducible refine WB.decT (by first | with_reducible rfl | assumption | omega | exact ⟨rfl, rfl⟩) ?_ | with_reducible refine WB.decF (by first | assumption | omega) ?_ | with_reducible refine WB.ndT (by first | with_reducible rfl | assumption | omega | exact ⟨rfl, rfl⟩) ?_ | with_reducible refine WB.ndF (by first | assumption | omega) ?_ | with_reducible refine WB.nt ?_ | with_reducible refine WB.nf ?_ | with_reducible refine WB.dec (fun h => ?_) (fun h => ?_) | with_reducible refine WB.ndec (fun h => ?_) (fun h => ?_) | refine WB.mk (fun h => ?_) (fun h => ?_)) <;> conv => whnf)
          refine Again.to (q + 1, s') (show _ - (q + 1) < _ - q by omega) ⟨show q + 1 ≤ _ by omega, by rw [hpc]; exact H.inv _ _ _ _ hx q2 h, hone s' true h⟩ (Nat.le_refl _) (Shr.kp2 ?_ (iS3_kp hy hrow _ _ _ _) (T.le_refl _) (ob_kp H.kp _))
          show T.le (iS3 y (wk6 n coin box ls cs) l (kLo l + (i : Int)) (cLo l + (j : Int)) (tLo l + ((q + 1 : Nat) : Int))) _
          rw [show tLo l + ((q + 1 : Nat) : Int) = tLo l + (q : Int) + 1 by omega]
          (unfold iS3; repeat' first | exact T.le_e _ | refine T.le_some ?_ rfl ?_ | refine T.le_none ?_ ?_)
      · repeat' first | ((first | with_reducible apply WB.tt | with_reducible apply WB.ff | refine Rn.seq ?_ | refine Rn.reg ?_ | refine Rn.drw ?_ | refine Rn.blk ?_ | refine Rn.skip ?_ | refine Rn.ret ?_ | refine Rn.exit ?_ | refine Rn.cond rfl ?_ | refine And.intro (InR.i64 (by omega) (by omega)) ?_ | refine And.intro (show _ ≠ (0 : Int) by omega) ?_ | refine WIx.intsN (by omega) ?_ | refine WIx.rowsN (by omega) ?_) <;> conv => whnf)
        refine Again.to (j + 1, s3) (show _ - (j + 1) < _ - j by omega) ⟨show j + 1 ≤ _ by omega, by show I (PA n l i ++ PB n l (kLo l + (i : Int)) (j + 1)) s3; rw [PB_succ hj, ← PC_all (q := q) (by omega)]; exact q2, ?_⟩ (Nat.le_refl _) (Shr.kp2 ?_ (iS2_kp hy hrow _ _ _) (T.le_refl _) (ob_kp H.kp _))
        · show Fld R (PA n l i ++ PB n l (kLo l + (i : Int)) (j + 1)) s0 s3 true
          rw [PB_succ hj, ← PC_all (q := q) (by omega)]
          exact q3
        · show T.le (iS2 y (wk6 n coin box ls cs) l (kLo l + (i : Int)) (cLo l + ((j + 1 : Nat) : Int))) _
          rw [show cLo l + ((j + 1 : Nat) : Int) = cLo l + (j : Int) + 1 by omega]
          (unfold iS2; repeat' first | exact T.le_e _ | refine T.le_some ?_ rfl ?_ | refine T.le_none ?_ ?_)
    · repeat' first | ((first | with_reducible apply WB.tt | with_reducible apply WB.ff | refine Rn.seq ?_ | refine Rn.reg ?_ | refine Rn.drw ?_ | refine Rn.blk ?_ | refine Rn.skip ?_ | refine Rn.ret ?_ | refine Rn.exit ?_ | refine Rn.cond rfl ?_ | refine And.intro (InR.i64 (by omega) (by omega)) ?_ | refine And.intro (show _ ≠ (0 : Int) by omega) ?_ | refine WIx.intsN (by omega) ?_ | refine WIx.rowsN (by omega) ?_) <;> conv => whnf)
      refine Again.to (i + 1, s2) (show _ - (i + 1) < _ - i by omega) ⟨show i + 1 ≤ _ by omega, by show I (PA n l (i + 1)) s2; rw [PA_succ hi, ← PB_all (j := j) (by omega)]; exact j2, ?_⟩ (Nat.le_refl _) (Shr.kp2 ?_ (iS_kp hy hrow _ _) (T.le_refl _) (ob_kp H.kp _))
      · show Fld R (PA n l (i + 1)) s0 s2 true
        rw [PA_succ hi, ← PB_all (j := j) (by omega)]
        exact j3
      · show T.le (iS y (wk6 n coin box ls cs) l (kLo l + ((i + 1 : Nat) : Int))) _
        rw [show kLo l + ((i + 1 : Nat) : Int) = kLo l + (i : Int) + 1 by omega]
        (unfold iS; repeat' first | exact T.le_e _ | refine T.le_some ?_ rfl ?_ | refine T.le_none ?_ ?_)
  · repeat' first | ((first | with_reducible apply WB.tt | with_reducible apply WB.ff | refine Rn.seq ?_ | refine Rn.reg ?_ | refine Rn.drw ?_ | refine Rn.blk ?_ | refine Rn.skip ?_ | refine Rn.ret ?_ | refine Rn.exit ?_ | refine Rn.cond rfl ?_ | refine And.intro (InR.i64 (by omega) (by omega)) ?_ | refine And.intro (show _ ≠ (0 : Int) by omega) ?_ | refine WIx.intsN (by omega) ?_ | refine WIx.rowsN (by omega) ?_) <;> conv => whnf)
    refine ⟨_, _, ⟨s1, true, by rw [← PA_all (i := i) (by omega)]; exact i3, rfl, rfl⟩, ⟨.inl rfl, ⟨_, rfl, .pu trivial⟩, Shr.kp (S.le n l s1) ((H.kp s1).up (by simp [nb2, Pos.nat]))⟩⟩
end Go.Ev
namespace Go.Ev
open Go.Proofs
set_option maxRecDepth 100000
structure Mns (σ : Type) where
  o : Nat → σ → Option C
def Mns.base {σ : Type} (S : Mns σ) (s : σ) : T C := trL (S.o 1 s) (S.o 2 s) (S.o 3 s) (S.o 4 s) (S.o 5 s) (S.o 6 s) (S.o 7 s) (S.o 8 s) (S.o 9 s) (S.o 10 s) (S.o 11 s) (S.o 12 s) (S.o 13 s) (S.o 14 s) (S.o 15 s) none none none none none
structure MnsOk {σ : Type} (S : Mns σ) (y : Pos) (I : List Mo → σ → Prop) (R : σ → Mo → σ → Bool → Prop) (W : List Mo) : Prop where
  yl : y.nat < 16
  kp : ∀ s, KpO 16 (S.base s)
  inv : ∀ h s a s', h ++ [a] <+: W → I h s → R s a s' true → I (h ++ [a]) s'
  rnd : ∀ h s, I h s → ∀ a, h ++ [a] <+: W → ∃ g ob', (∃ s', R s a s' g ∧ ob' = S.base s') ∧ RndOk Try.prog y [.ag (moD a)] (S.base s) nb0 none (.b g) ob' nb0 none
def nxS (row mrow lrow : List D) : T D := (.n (.n (.n (.n (.n .e (some (.fn p135 [] [.pl row 0, .pl lrow 0])) .e) none .e) (some (.pt nb0 0 0)) .e) (some (.pl row 0)) .e) none (.n .e (some (.pl mrow 0)) .e))
noncomputable def nxL {σ : Type} (S : Mns σ) (y : Pos) (row mrow lrow : List D) : Lns (σ × Bool) where
  o := fun i t => match i with
    | 16 => some (.cells false [.o (.yl y) 0] 1)
    | 17 => some (.lp (nxS row mrow lrow) [p17] 31 (rfA (bodyC Try.f155) 0) (rfB (bodyC Try.f155) 0) (bif t.2 then .done else .ready) (bif t.2 then some .ret else none))
    | i => S.o i t.1
def nxR {σ : Type} (R : σ → Mo → σ → Bool → Prop) (coin : Int) (m : Mo) (t : σ × Bool) (a : Ln) (t' : σ × Bool) (g : Bool) : Prop :=
  ((aftM coin m a).2 = false ∧ t' = t ∧ g = true) ∨ ((aftM coin m a).2 = true ∧ R t.1 (aftM coin m a).1 t'.1 g ∧ t'.2 = !g)
theorem nxS_kp {row mrow lrow : List D} (h : PuL row) (h' : PuL mrow) (h2 : PuL lrow) {q : Nat} (hq : 17 ≤ q) : ∀ s d, (nxS row mrow lrow).get s = some d → Kp q d := by
  show TAll (fun _ d => Kp q d) (nxS row mrow lrow)
  unfold nxS
  repeat' first | exact TAll.e | refine TAll.some ?_ ?_ ?_ | refine TAll.none ?_ ?_
  all_goals simp [Kp, KpL, Pu, PuL, h, h', h2, nb0, Pos.nat]
  all_goals omega
theorem nxB_kp {σ : Type} {S : Mns σ} {y : Pos} {row mrow lrow : List D} (hy : y.nat < 16) (hk : ∀ s, KpO 16 (S.base s)) (h : PuL row) (h' : PuL mrow) (h2 : PuL lrow) (t : σ × Bool) : KpO 18 ((nxL S y row mrow lrow).base t) := by
  intro id c hc
  rcases trL_of hc with rfl | rfl | ⟨h1, h3⟩
  · have hc : some (.cells false [.o (.yl y) 0] 1) = some c := hc
    cases hc
    refine ⟨by simp [nb0, Pos.nat], KpL.all ?_⟩
    simp [KpL, Kp, Cell.d]
    omega
  · have hc : some (.lp (nxS row mrow lrow) [p17] 31 (rfA (bodyC Try.f155) 0) (rfB (bodyC Try.f155) 0) (bif t.2 then .done else .ready) (bif t.2 then some .ret else none)) = some c := hc
    cases hc
    exact ⟨by simp [nb1, Pos.nat], nxS_kp h h' h2 (by omega)⟩
  · have : (S.base t.1).get id = some c := h3
    obtain ⟨q1, q2⟩ := hk t.1 id c this
    exact ⟨by omega, q2.up (by omega)⟩
end Go.Ev