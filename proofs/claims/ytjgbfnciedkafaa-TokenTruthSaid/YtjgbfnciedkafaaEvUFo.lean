import Derived.Test.YtjgbfnciedkafaaEvUJe
set_option linter.all false
set_option maxHeartbeats 8000000
noncomputable section
namespace Go.Ev
open Go.RowKit (Below Grown)
structure RndE (Φ : Bool -> T C -> Prop) (id : Pos) (nx' : Pos) (e : Ex) (z : X) : Prop where
 ok : ∃ a b m c q s j ob', z.lg = none /\ z.ob.get id = some (.lp a b m c q s j) /\ Shr ⟨.e, T.set id (.lp a b m c q (GG e) (Gx e)) z.ob, z.nx, none⟩ ⟨.e, ob', nx', none⟩ /\ Φ (AE e) ob'
structure RndEF (Φ : Bool -> T C -> Prop) (id : Pos) (nx' : Pos) (e : Ex) (z : X) : Prop where
 ok : ∃ a b m c q s j ob' ob2, z.lg = none /\ z.ob.get id = some (.lp a b m c q s j) /\ ∃ nx1 a0, nx'.nat <= nx1.nat /\ nx'.nat <= a0.nat /\ Shr ⟨.e, T.set id (.lp a b m c q (GG e) (Gx e)) z.ob, z.nx, none⟩ ⟨.e, ob', nx1, none⟩ /\ Fill nx' a0 ob' ob2 /\ Φ (AE e) ob2
structure RndEA (P : Program) (nt : Nat) (rcB : RC) (id : Pos) (K : Ex -> X -> Prop) (e : Ex) (z : X) : Prop where
 ok : e = .normal /\ z.lg = none /\ ∃ a b m c q j, z.ob.get id = some (.lp a b m c q .ready j) /\ Rn P nt rcB ⟨z.sl, T.set id (.lp a b m c q .busy j) z.ob, z.nx, none⟩ K
theorem RndOk.runE {P : Program} {id : Pos} {ds : List D} {ob : T C} {nx : Pos} {Φ : Bool -> T C -> Prop} {sl0 : T D} {ps : List Pos} {nt : Nat} {asg body : Code} {j0 : Option Ex} {rcA rcB : RC} (hob0 : ob.get id = some (.lp sl0 ps nt asg body .ready j0)) (hA : aT P nt asg = rcA) (hB : aT P nt body = rcB)
 (hp : EO ps ds sl0 fun sl' => Rn P nt rcA ⟨sl', ob, nx, none⟩ (RndEA P nt rcB id (RndE Φ id nx))) : ∃ g ob', Φ g ob' /\ RndOk P id ds ob nx none (.b g) ob' nx none := by
 obtain ⟨sl', h1, h2⟩ := hp
 obtain ⟨e, ⟨s2, ob1, nx1, lg1⟩, X1, h3⟩ := h2.ok asg hA
 obtain ⟨rfl, h4, a1, b1, m1, c1, q1, j1, h5, h6⟩ := h3.ok
 have h4 : lg1 = none := h4
 subst h4
 obtain ⟨e, ⟨s3, ob3, nx3, lg3⟩, X2, h7⟩ := h6.ok body hB
 obtain ⟨a3, b3, m3, c3, q3, s3', j3, ob', k1, k2, k3, k4⟩ := h7.ok
 have k1 : lg3 = none := k1
 subst k1
 exact ⟨AE e, ob', k4, (RndOk.of hob0 h1 X1 h5 X2 k2).shrink k3 (Nat.le_refl _) (.pu trivial)⟩
theorem RndOk.runEF {P : Program} {id : Pos} {ds : List D} {ob : T C} {nx : Pos} {Φ : Bool -> T C -> Prop} {sl0 : T D} {ps : List Pos} {nt : Nat} {asg body : Code} {j0 : Option Ex} {rcA rcB : RC} (hob0 : ob.get id = some (.lp sl0 ps nt asg body .ready j0)) (hA : aT P nt asg = rcA) (hB : aT P nt body = rcB)
 (hp : EO ps ds sl0 fun sl' => Rn P nt rcA ⟨sl', ob, nx, none⟩ (RndEA P nt rcB id (RndEF Φ id nx))) : ∃ g ob', Φ g ob' /\ RndOk P id ds ob nx none (.b g) ob' nx none := by
 obtain ⟨sl', h1, h2⟩ := hp
 obtain ⟨e, ⟨s2, ob1, nx1, lg1⟩, X1, h3⟩ := h2.ok asg hA
 obtain ⟨rfl, h4, a1, b1, m1, c1, q1, j1, h5, h6⟩ := h3.ok
 have h4 : lg1 = none := h4
 subst h4
 obtain ⟨e, ⟨s3, ob3, nx3, lg3⟩, X2, h7⟩ := h6.ok body hB
 obtain ⟨a3, b3, m3, c3, q3, s3', j3, ob', ob2, k1, k2, nx1, a0, l1, l2, k3, k4, k5⟩ := h7.ok
 have k1 : lg3 = none := k1
 subst k1
 exact ⟨AE e, ob2, k5, ((RndOk.of hob0 h1 X1 h5 X2 k2).shrink k3 l1 (.pu trivial)).fill trivial l2 k4⟩
theorem CallOk.lower {P : Program} {f : Nat} {ds : List D} {ob ob' : T C} {nx nx' nx0 : Pos} {lg lg' : Option (T Bool)} {v : D} (h : CallOk P f ds ob nx lg v ob' nx' lg') (hle : nx0.nat <= nx.nat) : CallOk P f ds ob nx0 lg v ob' nx' lg' :=
 ⟨h.hl, Nat.le_trans hle h.hx, h.hk, fun so hs γ args w gh ha ho hn => h.ok so hs γ args w gh ha ho fun id h1 h2 => hn id h1 (Nat.le_trans hle h2)⟩
def bQ (x1 x2 x3 x4 x5 x6 x7 x8 x9 x10 x11 x12 x13 x14 x15 x16 x17 x18 x19 x20 : Option C) : T C := .n (.n (.n (.n (.n .e x16 .e) x8 .e) x4 (.n (.n .e x20 .e) x12 .e)) x2 (.n (.n (.n .e x18 .e) x10 .e) x6 (.n .e x14 .e))) x1 (.n (.n (.n (.n .e x17 .e) x9 .e) x5 (.n .e x13 .e)) x3 (.n (.n (.n .e x19 .e) x11 .e) x7 (.n .e x15 .e)))
def Lp (x1 x2 x3 x4 x5 x6 x7 x8 x9 x10 x11 x12 x13 x14 x15 x16 x17 x18 x19 x20 x21 x22 : Option C) : T C := .n (.n (.n (.n (.n .e x16 .e) x8 .e) x4 (.n (.n .e x20 .e) x12 .e)) x2 (.n (.n (.n .e x18 .e) x10 .e) x6 (.n (.n .e x22 .e) x14 .e))) x1 (.n (.n (.n (.n .e x17 .e) x9 .e) x5 (.n (.n .e x21 .e) x13 .e)) x3 (.n (.n (.n .e x19 .e) x11 .e) x7 (.n .e x15 .e)))
def Jq : Pos := .o (.o (.o (.o .h)))
def Nh : Pos := .i (.o (.o (.o .h)))
def EI : Pos := .o (.i (.o (.o .h)))
def LI : Pos := .i (.i (.o (.o .h)))
def MC : Pos := .o (.o (.i (.o .h)))
def nb5 : Pos := .i (.o (.i (.o .h)))
def Ux : Pos := .i (.i (.i (.o .h)))
theorem T.le_same {α : Type} {l r l' r' : T α} {v : Option α} (hl : T.le l l') (hr : T.le r r') : T.le (.n l v r) (.n l' v r') := T.le_n hl (.inr rfl) hr
theorem QN {id : Pos} (h : id.nat < 16) : id = .h \/ id = (.o .h) \/ id = (.i .h) \/ id = (.o (.o .h)) \/ id = (.i (.o .h)) \/ id = (.o (.i .h)) \/ id = (.i (.i .h)) \/ id = (.o (.o (.o .h))) \/ id = (.i (.o (.o .h))) \/ id = (.o (.i (.o .h))) \/ id = (.i (.i (.o .h))) \/ id = (.o (.o (.i .h))) \/ id = (.i (.o (.i .h))) \/ id = (.o (.i (.i .h))) \/ id = (.i (.i (.i .h))) := by
 match id, h with
 | .h, _ => exact .inl rfl
 | .o .h, _ => exact .inr (.inl rfl)
 | .o (.o .h), _ => exact .inr (.inr (.inr (.inl rfl)))
 | .o (.o (.o .h)), _ => exact .inr (.inr (.inr (.inr (.inr (.inr (.inr (.inl rfl)))))))
 | .o (.o (.o (.o p))), h => have := Pos.nat_pos p; simp [Pos.nat] at h; omega
 | .o (.o (.o (.i p))), h => have := Pos.nat_pos p; simp [Pos.nat] at h; omega
 | .o (.o (.i .h)), _ => exact .inr (.inr (.inr (.inr (.inr (.inr (.inr (.inr (.inr (.inr (.inr (.inl rfl)))))))))))
 | .o (.o (.i (.o p))), h => have := Pos.nat_pos p; simp [Pos.nat] at h; omega
 | .o (.o (.i (.i p))), h => have := Pos.nat_pos p; simp [Pos.nat] at h; omega
 | .o (.i .h), _ => exact .inr (.inr (.inr (.inr (.inr (.inl rfl)))))
 | .o (.i (.o .h)), _ => exact .inr (.inr (.inr (.inr (.inr (.inr (.inr (.inr (.inr (.inl rfl)))))))))
 | .o (.i (.o (.o p))), h => have := Pos.nat_pos p; simp [Pos.nat] at h; omega
 | .o (.i (.o (.i p))), h => have := Pos.nat_pos p; simp [Pos.nat] at h; omega
 | .o (.i (.i .h)), _ => exact .inr (.inr (.inr (.inr (.inr (.inr (.inr (.inr (.inr (.inr (.inr (.inr (.inr (.inl rfl)))))))))))))
 | .o (.i (.i (.o p))), h => have := Pos.nat_pos p; simp [Pos.nat] at h; omega
 | .o (.i (.i (.i p))), h => have := Pos.nat_pos p; simp [Pos.nat] at h; omega
 | .i .h, _ => exact .inr (.inr (.inl rfl))
 | .i (.o .h), _ => exact .inr (.inr (.inr (.inr (.inl rfl))))
 | .i (.o (.o .h)), _ => exact .inr (.inr (.inr (.inr (.inr (.inr (.inr (.inr (.inl rfl))))))))
 | .i (.o (.o (.o p))), h => have := Pos.nat_pos p; simp [Pos.nat] at h; omega
 | .i (.o (.o (.i p))), h => have := Pos.nat_pos p; simp [Pos.nat] at h; omega
 | .i (.o (.i .h)), _ => exact .inr (.inr (.inr (.inr (.inr (.inr (.inr (.inr (.inr (.inr (.inr (.inr (.inl rfl))))))))))))
 | .i (.o (.i (.o p))), h => have := Pos.nat_pos p; simp [Pos.nat] at h; omega
 | .i (.o (.i (.i p))), h => have := Pos.nat_pos p; simp [Pos.nat] at h; omega
 | .i (.i .h), _ => exact .inr (.inr (.inr (.inr (.inr (.inr (.inl rfl))))))
 | .i (.i (.o .h)), _ => exact .inr (.inr (.inr (.inr (.inr (.inr (.inr (.inr (.inr (.inr (.inl rfl))))))))))
 | .i (.i (.o (.o p))), h => have := Pos.nat_pos p; simp [Pos.nat] at h; omega
 | .i (.i (.o (.i p))), h => have := Pos.nat_pos p; simp [Pos.nat] at h; omega
 | .i (.i (.i .h)), _ => exact .inr (.inr (.inr (.inr (.inr (.inr (.inr (.inr (.inr (.inr (.inr (.inr (.inr (.inr (rfl))))))))))))))
 | .i (.i (.i (.o p))), h => have := Pos.nat_pos p; simp [Pos.nat] at h; omega
 | .i (.i (.i (.i p))), h => have := Pos.nat_pos p; simp [Pos.nat] at h; omega
theorem NZ {id : Pos} (h : 16 <= id.nat) : id ≠ .h /\ id ≠ (.o .h) /\ id ≠ (.i .h) /\ id ≠ (.o (.o .h)) /\ id ≠ (.i (.o .h)) /\ id ≠ (.o (.i .h)) /\ id ≠ (.i (.i .h)) /\ id ≠ (.o (.o (.o .h))) /\ id ≠ (.i (.o (.o .h))) /\ id ≠ (.o (.i (.o .h))) /\ id ≠ (.i (.i (.o .h))) /\ id ≠ (.o (.o (.i .h))) /\ id ≠ (.i (.o (.i .h))) /\ id ≠ (.o (.i (.i .h))) /\ id ≠ (.i (.i (.i .h))) := by
 refine ⟨?_, ?_, ?_, ?_, ?_, ?_, ?_, ?_, ?_, ?_, ?_, ?_, ?_, ?_, ?_⟩ <;> (rintro rfl; simp [Pos.nat] at h)
section
variable {x1 x2 x3 x4 x5 x6 x7 x8 x9 x10 x11 x12 x13 x14 x15 y1 y2 y3 y4 y5 y6 y7 y8 y9 y10 y11 y12 y13 y14 y15 x16 x17 x18 x19 x20 x21 x22 : Option C}
theorem PH {id : Pos} (h : 16 <= id.nat) : (Lp y1 y2 y3 y4 y5 y6 y7 y8 y9 y10 y11 y12 y13 y14 y15 x16 x17 x18 x19 x20 x21 x22).get id = (Lp x1 x2 x3 x4 x5 x6 x7 x8 x9 x10 x11 x12 x13 x14 x15 x16 x17 x18 x19 x20 x21 x22).get id := by
 have h := NZ h
 unfold Lp
 match id, h with
 | .h, h => exact absurd rfl h.1
 | .o .h, h => exact absurd rfl h.2.1
 | .o (.o .h), h => exact absurd rfl h.2.2.2.1
 | .o (.o (.o .h)), h => exact absurd rfl h.2.2.2.2.2.2.2.1
 | .o (.o (.o (.o .h))), _ => rfl
 | .o (.o (.o (.o (.o _)))), _ => rfl
 | .o (.o (.o (.o (.i _)))), _ => rfl
 | .o (.o (.o (.i _))), _ => rfl
 | .o (.o (.i .h)), h => exact absurd rfl h.2.2.2.2.2.2.2.2.2.2.2.1
 | .o (.o (.i (.o .h))), _ => rfl
 | .o (.o (.i (.o (.o _)))), _ => rfl
 | .o (.o (.i (.o (.i _)))), _ => rfl
 | .o (.o (.i (.i _))), _ => rfl
 | .o (.i .h), h => exact absurd rfl h.2.2.2.2.2.1
 | .o (.i (.o .h)), h => exact absurd rfl h.2.2.2.2.2.2.2.2.2.1
 | .o (.i (.o (.o .h))), _ => rfl
 | .o (.i (.o (.o (.o _)))), _ => rfl
 | .o (.i (.o (.o (.i _)))), _ => rfl
 | .o (.i (.o (.i _))), _ => rfl
 | .o (.i (.i .h)), h => exact absurd rfl h.2.2.2.2.2.2.2.2.2.2.2.2.2.1
 | .o (.i (.i (.o .h))), _ => rfl
 | .o (.i (.i (.o (.o _)))), _ => rfl
 | .o (.i (.i (.o (.i _)))), _ => rfl
 | .o (.i (.i (.i _))), _ => rfl
 | .i .h, h => exact absurd rfl h.2.2.1
 | .i (.o .h), h => exact absurd rfl h.2.2.2.2.1
 | .i (.o (.o .h)), h => exact absurd rfl h.2.2.2.2.2.2.2.2.1
 | .i (.o (.o (.o .h))), _ => rfl
 | .i (.o (.o (.o (.o _)))), _ => rfl
 | .i (.o (.o (.o (.i _)))), _ => rfl
 | .i (.o (.o (.i _))), _ => rfl
 | .i (.o (.i .h)), h => exact absurd rfl h.2.2.2.2.2.2.2.2.2.2.2.2.1
 | .i (.o (.i (.o .h))), _ => rfl
 | .i (.o (.i (.o (.o _)))), _ => rfl
 | .i (.o (.i (.o (.i _)))), _ => rfl
 | .i (.o (.i (.i _))), _ => rfl
 | .i (.i .h), h => exact absurd rfl h.2.2.2.2.2.2.1
 | .i (.i (.o .h)), h => exact absurd rfl h.2.2.2.2.2.2.2.2.2.2.1
 | .i (.i (.o (.o .h))), _ => rfl
 | .i (.i (.o (.o (.o _)))), _ => rfl
 | .i (.i (.o (.o (.i _)))), _ => rfl
 | .i (.i (.o (.i _))), _ => rfl
 | .i (.i (.i .h)), h => exact absurd rfl h.2.2.2.2.2.2.2.2.2.2.2.2.2.2
 | .i (.i (.i (.o _))), _ => rfl
 | .i (.i (.i (.i _))), _ => rfl
theorem Pj {id : Pos} {c : C} (h : id.nat < 16) (hc : (Lp y1 y2 y3 y4 y5 y6 y7 y8 y9 y10 y11 y12 y13 y14 y15 x16 x17 x18 x19 x20 x21 x22).get id = some c) : (bQ y1 y2 y3 y4 y5 y6 y7 y8 y9 y10 y11 y12 y13 y14 y15 none none none none none).get id = some c := by
 rcases QN h with rfl | rfl | rfl | rfl | rfl | rfl | rfl | rfl | rfl | rfl | rfl | rfl | rfl | rfl | rfl <;> exact hc
theorem DA : Beside Jq (bQ y1 y2 y3 y4 y5 y6 y7 y8 y9 y10 y11 y12 y13 y14 y15 none none none none none) (Lp x1 x2 x3 x4 x5 x6 x7 x8 x9 x10 x11 x12 x13 x14 x15 x16 x17 x18 x19 x20 x21 x22) (Lp y1 y2 y3 y4 y5 y6 y7 y8 y9 y10 y11 y12 y13 y14 y15 x16 x17 x18 x19 x20 x21 x22) := ⟨fun id c h hc => Pj h hc, fun id h => PH h⟩
theorem QQ : T.le (bQ x1 x2 x3 x4 x5 x6 x7 x8 x9 x10 x11 x12 x13 x14 x15 none none none none none) (Lp x1 x2 x3 x4 x5 x6 x7 x8 x9 x10 x11 x12 x13 x14 x15 x16 x17 x18 x19 x20 x21 x22) := by
 unfold bQ Lp
 repeat' first | exact T.le_refl _ | exact T.le_e _ | refine T.le_same ?_ ?_ | refine T.le_none ?_ ?_
end
theorem QM {x1 x2 x3 x4 x5 x6 x7 x8 x9 x10 x11 x12 x13 x14 x15 x16 x17 x18 x19 x20 : Option C} {id : Pos} (e1 : id ≠ EI) (e2 : id ≠ LI) (e3 : id ≠ MC) : (bQ x1 x2 x3 x4 x5 x6 x7 x8 x9 x10 x11 x12 x13 x14 x15 x16 x17 x18 x19 x20).get id = (bQ x1 x2 x3 x4 x5 x6 x7 x8 x9 x10 x11 x12 x13 x14 x15 x16 x17 none none none).get id := by
 unfold bQ
 match id, e1, e2, e3 with
 | .h, _, _, _ => rfl
 | .o .h, _, _, _ => rfl
 | .o (.o .h), _, _, _ => rfl
 | .o (.o (.o .h)), _, _, _ => rfl
 | .o (.o (.o (.o .h))), _, _, _ => rfl
 | .o (.o (.o (.o (.o _)))), _, _, _ => rfl
 | .o (.o (.o (.o (.i _)))), _, _, _ => rfl
 | .o (.o (.o (.i _))), _, _, _ => rfl
 | .o (.o (.i .h)), _, _, _ => rfl
 | .o (.o (.i (.o .h))), _, _, e => exact absurd rfl e
 | .o (.o (.i (.o (.o _)))), _, _, _ => rfl
 | .o (.o (.i (.o (.i _)))), _, _, _ => rfl
 | .o (.o (.i (.i _))), _, _, _ => rfl
 | .o (.i .h), _, _, _ => rfl
 | .o (.i (.o .h)), _, _, _ => rfl
 | .o (.i (.o (.o .h))), e, _, _ => exact absurd rfl e
 | .o (.i (.o (.o (.o _)))), _, _, _ => rfl
 | .o (.i (.o (.o (.i _)))), _, _, _ => rfl
 | .o (.i (.o (.i _))), _, _, _ => rfl
 | .o (.i (.i .h)), _, _, _ => rfl
 | .o (.i (.i (.o _))), _, _, _ => rfl
 | .o (.i (.i (.i _))), _, _, _ => rfl
 | .i .h, _, _, _ => rfl
 | .i (.o .h), _, _, _ => rfl
 | .i (.o (.o .h)), _, _, _ => rfl
 | .i (.o (.o (.o .h))), _, _, _ => rfl
 | .i (.o (.o (.o (.o _)))), _, _, _ => rfl
 | .i (.o (.o (.o (.i _)))), _, _, _ => rfl
 | .i (.o (.o (.i _))), _, _, _ => rfl
 | .i (.o (.i .h)), _, _, _ => rfl
 | .i (.o (.i (.o _))), _, _, _ => rfl
 | .i (.o (.i (.i _))), _, _, _ => rfl
 | .i (.i .h), _, _, _ => rfl
 | .i (.i (.o .h)), _, _, _ => rfl
 | .i (.i (.o (.o .h))), _, e, _ => exact absurd rfl e
 | .i (.i (.o (.o (.o _)))), _, _, _ => rfl
 | .i (.i (.o (.o (.i _)))), _, _, _ => rfl
 | .i (.i (.o (.i _))), _, _, _ => rfl
 | .i (.i (.i .h)), _, _, _ => rfl
 | .i (.i (.i (.o _))), _, _, _ => rfl
 | .i (.i (.i (.i _))), _, _, _ => rfl
theorem OG {x1 x2 x3 x4 x5 x6 x7 x8 x9 x10 x11 x12 x13 x14 x15 x16 x17 : Option C} {id : Pos} {c : C} (h : (bQ x1 x2 x3 x4 x5 x6 x7 x8 x9 x10 x11 x12 x13 x14 x15 x16 x17 none none none).get id = some c) : id = Jq \/ id = Nh \/ (id.nat < 16 /\ (bQ x1 x2 x3 x4 x5 x6 x7 x8 x9 x10 x11 x12 x13 x14 x15 none none none none none).get id = some c) := by
 unfold bQ at h
 match id, h with
 | .h, h => exact .inr (.inr ⟨by simp [Pos.nat], h⟩)
 | .o .h, h => exact .inr (.inr ⟨by simp [Pos.nat], h⟩)
 | .o (.o .h), h => exact .inr (.inr ⟨by simp [Pos.nat], h⟩)
 | .o (.o (.o .h)), h => exact .inr (.inr ⟨by simp [Pos.nat], h⟩)
 | .o (.o (.o (.o .h))), _ => exact .inl rfl
 | .o (.o (.o (.o (.o _)))), h => cases h
 | .o (.o (.o (.o (.i _)))), h => cases h
 | .o (.o (.o (.i _))), h => cases h
 | .o (.o (.i .h)), h => exact .inr (.inr ⟨by simp [Pos.nat], h⟩)
 | .o (.o (.i (.o .h))), h => cases h
 | .o (.o (.i (.o (.o _)))), h => cases h
 | .o (.o (.i (.o (.i _)))), h => cases h
 | .o (.o (.i (.i _))), h => cases h
 | .o (.i .h), h => exact .inr (.inr ⟨by simp [Pos.nat], h⟩)
 | .o (.i (.o .h)), h => exact .inr (.inr ⟨by simp [Pos.nat], h⟩)
 | .o (.i (.o (.o .h))), h => cases h
 | .o (.i (.o (.o (.o _)))), h => cases h
 | .o (.i (.o (.o (.i _)))), h => cases h
 | .o (.i (.o (.i _))), h => cases h
 | .o (.i (.i .h)), h => exact .inr (.inr ⟨by simp [Pos.nat], h⟩)
 | .o (.i (.i (.o _))), h => cases h
 | .o (.i (.i (.i _))), h => cases h
 | .i .h, h => exact .inr (.inr ⟨by simp [Pos.nat], h⟩)
 | .i (.o .h), h => exact .inr (.inr ⟨by simp [Pos.nat], h⟩)
 | .i (.o (.o .h)), h => exact .inr (.inr ⟨by simp [Pos.nat], h⟩)
 | .i (.o (.o (.o .h))), _ => exact .inr (.inl rfl)
 | .i (.o (.o (.o (.o _)))), h => cases h
 | .i (.o (.o (.o (.i _)))), h => cases h
 | .i (.o (.o (.i _))), h => cases h
 | .i (.o (.i .h)), h => exact .inr (.inr ⟨by simp [Pos.nat], h⟩)
 | .i (.o (.i (.o _))), h => cases h
 | .i (.o (.i (.i _))), h => cases h
 | .i (.i .h), h => exact .inr (.inr ⟨by simp [Pos.nat], h⟩)
 | .i (.i (.o .h)), h => exact .inr (.inr ⟨by simp [Pos.nat], h⟩)
 | .i (.i (.o (.o .h))), h => cases h
 | .i (.i (.o (.o (.o _)))), h => cases h
 | .i (.i (.o (.o (.i _)))), h => cases h
 | .i (.i (.o (.i _))), h => cases h
 | .i (.i (.i .h)), h => exact .inr (.inr ⟨by simp [Pos.nat], h⟩)
 | .i (.i (.i (.o _))), h => cases h
 | .i (.i (.i (.i _))), h => cases h
section
variable {x1 x2 x3 x4 x5 x6 x7 x8 x9 x10 x11 y1 y2 y3 y4 y5 y6 y7 y8 y9 y10 y11 x12 x13 x14 x15 x16 x17 x18 x19 x20 : Option C}
theorem rB {id : Pos} (h : id.nat < 12) : id = .h \/ id = (.o .h) \/ id = (.i .h) \/ id = (.o (.o .h)) \/ id = (.i (.o .h)) \/ id = (.o (.i .h)) \/ id = (.i (.i .h)) \/ id = (.o (.o (.o .h))) \/ id = (.i (.o (.o .h))) \/ id = (.o (.i (.o .h))) \/ id = (.i (.i (.o .h))) := by
 match id, h with
 | .h, _ => exact .inl rfl
 | .o .h, _ => exact .inr (.inl rfl)
 | .o (.o .h), _ => exact .inr (.inr (.inr (.inl rfl)))
 | .o (.o (.o .h)), _ => exact .inr (.inr (.inr (.inr (.inr (.inr (.inr (.inl rfl)))))))
 | .o (.o (.o (.o p))), h => have := Pos.nat_pos p; simp [Pos.nat] at h; omega
 | .o (.o (.o (.i p))), h => have := Pos.nat_pos p; simp [Pos.nat] at h; omega
 | .o (.o (.i p)), h => have := Pos.nat_pos p; simp [Pos.nat] at h; omega
 | .o (.i .h), _ => exact .inr (.inr (.inr (.inr (.inr (.inl rfl)))))
 | .o (.i (.o .h)), _ => exact .inr (.inr (.inr (.inr (.inr (.inr (.inr (.inr (.inr (.inl rfl)))))))))
 | .o (.i (.o (.o p))), h => have := Pos.nat_pos p; simp [Pos.nat] at h; omega
 | .o (.i (.o (.i p))), h => have := Pos.nat_pos p; simp [Pos.nat] at h; omega
 | .o (.i (.i p)), h => have := Pos.nat_pos p; simp [Pos.nat] at h; omega
 | .i .h, _ => exact .inr (.inr (.inl rfl))
 | .i (.o .h), _ => exact .inr (.inr (.inr (.inr (.inl rfl))))
 | .i (.o (.o .h)), _ => exact .inr (.inr (.inr (.inr (.inr (.inr (.inr (.inr (.inl rfl))))))))
 | .i (.o (.o (.o p))), h => have := Pos.nat_pos p; simp [Pos.nat] at h; omega
 | .i (.o (.o (.i p))), h => have := Pos.nat_pos p; simp [Pos.nat] at h; omega
 | .i (.o (.i p)), h => have := Pos.nat_pos p; simp [Pos.nat] at h; omega
 | .i (.i .h), _ => exact .inr (.inr (.inr (.inr (.inr (.inr (.inl rfl))))))
 | .i (.i (.o .h)), _ => exact .inr (.inr (.inr (.inr (.inr (.inr (.inr (.inr (.inr (.inr (rfl))))))))))
 | .i (.i (.o (.o p))), h => have := Pos.nat_pos p; simp [Pos.nat] at h; omega
 | .i (.i (.o (.i p))), h => have := Pos.nat_pos p; simp [Pos.nat] at h; omega
 | .i (.i (.i p)), h => have := Pos.nat_pos p; simp [Pos.nat] at h; omega
theorem Hq {id : Pos} (h : 12 <= id.nat) : id ≠ .h /\ id ≠ (.o .h) /\ id ≠ (.i .h) /\ id ≠ (.o (.o .h)) /\ id ≠ (.i (.o .h)) /\ id ≠ (.o (.i .h)) /\ id ≠ (.i (.i .h)) /\ id ≠ (.o (.o (.o .h))) /\ id ≠ (.i (.o (.o .h))) /\ id ≠ (.o (.i (.o .h))) /\ id ≠ (.i (.i (.o .h))) := by
 refine ⟨?_, ?_, ?_, ?_, ?_, ?_, ?_, ?_, ?_, ?_, ?_⟩ <;> (rintro rfl; simp [Pos.nat] at h)
theorem wU {id : Pos} (h : 12 <= id.nat) : (bQ y1 y2 y3 y4 y5 y6 y7 y8 y9 y10 y11 x12 x13 x14 x15 x16 x17 x18 x19 x20).get id = (bQ x1 x2 x3 x4 x5 x6 x7 x8 x9 x10 x11 x12 x13 x14 x15 x16 x17 x18 x19 x20).get id := by
 have h := Hq h
 unfold bQ
 match id, h with
 | .h, h => exact absurd rfl h.1
 | .o .h, h => exact absurd rfl h.2.1
 | .o (.o .h), h => exact absurd rfl h.2.2.2.1
 | .o (.o (.o .h)), h => exact absurd rfl h.2.2.2.2.2.2.2.1
 | .o (.o (.o (.o .h))), _ => rfl
 | .o (.o (.o (.o (.o _)))), _ => rfl
 | .o (.o (.o (.o (.i _)))), _ => rfl
 | .o (.o (.o (.i _))), _ => rfl
 | .o (.o (.i .h)), _ => rfl
 | .o (.o (.i (.o .h))), _ => rfl
 | .o (.o (.i (.o (.o _)))), _ => rfl
 | .o (.o (.i (.o (.i _)))), _ => rfl
 | .o (.o (.i (.i _))), _ => rfl
 | .o (.i .h), h => exact absurd rfl h.2.2.2.2.2.1
 | .o (.i (.o .h)), h => exact absurd rfl h.2.2.2.2.2.2.2.2.2.1
 | .o (.i (.o (.o .h))), _ => rfl
 | .o (.i (.o (.o (.o _)))), _ => rfl
 | .o (.i (.o (.o (.i _)))), _ => rfl
 | .o (.i (.o (.i _))), _ => rfl
 | .o (.i (.i .h)), _ => rfl
 | .o (.i (.i (.o _))), _ => rfl
 | .o (.i (.i (.i _))), _ => rfl
 | .i .h, h => exact absurd rfl h.2.2.1
 | .i (.o .h), h => exact absurd rfl h.2.2.2.2.1
 | .i (.o (.o .h)), h => exact absurd rfl h.2.2.2.2.2.2.2.2.1
 | .i (.o (.o (.o .h))), _ => rfl
 | .i (.o (.o (.o (.o _)))), _ => rfl
 | .i (.o (.o (.o (.i _)))), _ => rfl
 | .i (.o (.o (.i _))), _ => rfl
 | .i (.o (.i .h)), _ => rfl
 | .i (.o (.i (.o _))), _ => rfl
 | .i (.o (.i (.i _))), _ => rfl
 | .i (.i .h), h => exact absurd rfl h.2.2.2.2.2.2.1
 | .i (.i (.o .h)), h => exact absurd rfl h.2.2.2.2.2.2.2.2.2.2
 | .i (.i (.o (.o .h))), _ => rfl
 | .i (.i (.o (.o (.o _)))), _ => rfl
 | .i (.i (.o (.o (.i _)))), _ => rfl
 | .i (.i (.o (.i _))), _ => rfl
 | .i (.i (.i .h)), _ => rfl
 | .i (.i (.i (.o _))), _ => rfl
 | .i (.i (.i (.i _))), _ => rfl
theorem JV {id : Pos} {c : C} (h : id.nat < 12) (hc : (bQ y1 y2 y3 y4 y5 y6 y7 y8 y9 y10 y11 x12 x13 x14 x15 x16 x17 x18 x19 x20).get id = some c) : (bQ y1 y2 y3 y4 y5 y6 y7 y8 y9 y10 y11 none none none none none none none none none).get id = some c := by
 rcases rB h with rfl | rfl | rfl | rfl | rfl | rfl | rfl | rfl | rfl | rfl | rfl <;> exact hc
def zZ : Pos := .o (.o (.i .h))
theorem rV : Beside zZ (bQ y1 y2 y3 y4 y5 y6 y7 y8 y9 y10 y11 none none none none none none none none none) (bQ x1 x2 x3 x4 x5 x6 x7 x8 x9 x10 x11 x12 x13 x14 x15 x16 x17 x18 x19 x20) (bQ y1 y2 y3 y4 y5 y6 y7 y8 y9 y10 y11 x12 x13 x14 x15 x16 x17 x18 x19 x20) := ⟨fun id c h hc => JV h hc, fun id h => wU h⟩
theorem BB : T.le (bQ x1 x2 x3 x4 x5 x6 x7 x8 x9 x10 x11 none none none none none none none none none) (bQ x1 x2 x3 x4 x5 x6 x7 x8 x9 x10 x11 x12 x13 x14 x15 x16 x17 x18 x19 x20) := by
 unfold bQ
 repeat' first | exact T.le_refl _ | exact T.le_e _ | refine T.le_same ?_ ?_ | refine T.le_none ?_ ?_
end
open Go.Proofs
set_option maxRecDepth 100000
def PA (n : Int) (l : Ln) (i : Nat) : List Ln := ((oE (eJ l) (nE l)).take i).flatMap fun a => uF n l a
def PB (n : Int) (l : Ln) (a : Int) (j : Nat) : List Ln := ((oE (gK l) (mW n l)).take j).flatMap fun b => uE n l a b
def PC (n : Int) (l : Ln) (a b : Int) (q : Nat) : List Ln := ((oE (lA l) (oX n l)).take q).map fun c => ⟨a, b, c⟩
theorem Be {n : Int} {l : Ln} {i : Nat} (h : i < (nE l + 1 - eJ l).toNat) : PA n l (i + 1) = PA n l i ++ uF n l (eJ l + (i : Int)) := by
 unfold PA
 rw [aM (d := 0) (by rw [dK]; exact h), List.flatMap_append, Bm h]
 simp
theorem An {n : Int} {l : Ln} {a : Int} {j : Nat} (h : j < (mW n l + 1 - gK l).toNat) : PB n l a (j + 1) = PB n l a j ++ uE n l a (gK l + (j : Int)) := by
 unfold PB
 rw [aM (d := 0) (by rw [dK]; exact h), List.flatMap_append, Bm h]
 simp
theorem LA {n : Int} {l : Ln} {a b : Int} {q : Nat} (h : q < (oX n l + 1 - lA l).toNat) : PC n l a b (q + 1) = PC n l a b q ++ [⟨a, b, lA l + (q : Int)⟩] := by
 unfold PC
 rw [aM (d := 0) (by rw [dK]; exact h), List.map_append, Bm h]
 simp
theorem Od {n : Int} {l : Ln} {i : Nat} (h : (nE l + 1 - eJ l).toNat <= i) : PA n l i = mY n l := by
 unfold PA mY
 rw [List.take_of_length_le (by rw [dK]; exact h)]
theorem IK {n : Int} {l : Ln} {a : Int} {j : Nat} (h : (mW n l + 1 - gK l).toNat <= j) : PB n l a j = uF n l a := by
 unfold PB uF
 rw [List.take_of_length_le (by rw [dK]; exact h)]
theorem Jm {n : Int} {l : Ln} {a b : Int} {q : Nat} (h : (oX n l + 1 - lA l).toNat <= q) : PC n l a b q = uE n l a b := by
 unfold PC uE
 rw [List.take_of_length_le (by rw [dK]; exact h)]
theorem Om (n : Int) (l : Ln) (i : Nat) : PA n l i <+: mY n l := by
 refine ⟨((oE (eJ l) (nE l)).drop i).flatMap fun a => uF n l a, ?_⟩
 unfold PA mY
 rw [<- List.flatMap_append, List.take_append_drop]
theorem QW (n : Int) (l : Ln) (a : Int) (j : Nat) : PB n l a j <+: uF n l a := by
 refine ⟨((oE (gK l) (mW n l)).drop j).flatMap fun b => uE n l a b, ?_⟩
 unfold PB uF
 rw [<- List.flatMap_append, List.take_append_drop]
theorem OW (n : Int) (l : Ln) (a b : Int) (q : Nat) : PC n l a b q <+: uE n l a b := by
 refine ⟨((oE (lA l) (oX n l)).drop q).map fun c => ⟨a, b, c⟩, ?_⟩
 unfold PC uE
 rw [<- List.map_append, List.take_append_drop]
theorem Ek {n : Int} {l : Ln} {i j q : Nat} (hi : i < (nE l + 1 - eJ l).toNat) (hj : j < (mW n l + 1 - gK l).toNat) : PA n l i ++ (PB n l (eJ l + (i : Int)) j ++ PC n l (eJ l + (i : Int)) (gK l + (j : Int)) q) <+: mY n l := by
 have h1 : PB n l (eJ l + (i : Int)) j ++ PC n l (eJ l + (i : Int)) (gK l + (j : Int)) q <+: uF n l (eJ l + (i : Int)) := by
  refine List.IsPrefix.trans ?_ (QW n l _ (j + 1))
  rw [An hj]
  exact (List.prefix_append_right_inj _).2 (OW _ _ _ _ _)
 refine List.IsPrefix.trans ?_ (Om n l (i + 1))
 rw [Be hi]
 exact (List.prefix_append_right_inj _).2 h1
structure Lns (σ : Type) where
 o : Nat -> σ -> Option C
def cC (n : Int) (l : Ln) : C := .cells false [.o (.i .i64 (gK l)) 0, .o (.i .i64 (mW n l)) 0] 1
def Lns.ob {σ : Type} (S : Lns σ) (n : Int) (l : Ln) (s : σ) : T C := bQ (S.o 1 s) (S.o 2 s) (S.o 3 s) (S.o 4 s) (S.o 5 s) (S.o 6 s) (S.o 7 s) (S.o 8 s) (S.o 9 s) (S.o 10 s) (S.o 11 s) (S.o 12 s) (S.o 13 s) (S.o 14 s) (S.o 15 s) (S.o 16 s) (S.o 17 s) (some (.cells false [.o (.i .i64 (eJ l)) 0, .o (.i .i64 (nE l)) 0] 1)) (some (.cells false [.o (.i .i64 (gK l)) 0, .o (.i .i64 (mW n l)) 0] 1)) (some (.cells false [.o (.i .i64 (lA l)) 0, .o (.i .i64 (oX n l)) 0] 1))
def Lns.base {σ : Type} (S : Lns σ) (s : σ) : T C := bQ (S.o 1 s) (S.o 2 s) (S.o 3 s) (S.o 4 s) (S.o 5 s) (S.o 6 s) (S.o 7 s) (S.o 8 s) (S.o 9 s) (S.o 10 s) (S.o 11 s) (S.o 12 s) (S.o 13 s) (S.o 14 s) (S.o 15 s) (S.o 16 s) (S.o 17 s) none none none
theorem Lns.le {σ : Type} (S : Lns σ) (n : Int) (l : Ln) (s : σ) : T.le (S.base s) (S.ob n l s) := by
 unfold Lns.base Lns.ob bQ
 repeat' first | exact T.le_refl _ | exact T.le_e _ | refine T.le_same ?_ ?_ | refine T.le_none ?_ ?_
structure LnsOk {σ : Type} (S : Lns σ) (y : Pos) (I : List Ln -> σ -> Prop) (R : σ -> Ln -> σ -> Bool -> Prop) (n : Int) (l : Ln) : Prop where
 yl : y.nat < 18
 kp : ∀ s, KpO 18 (S.base s)
 inv : ∀ h s a s', h ++ [a] <+: mY n l -> I h s -> R s a s' true -> I (h ++ [a]) s'
 rnd : ∀ h s, I h s -> ∀ a, h ++ [a] <+: mY n l -> ∀ (sl : T D) (d : Option Pos) (K : X -> Prop), (∀ s' g, R s a s' g -> nC sl (S.ob n l s') nb5 none d K (.b g)) -> WRnd Try.prog y [.ag [.i .i64 a.k, .i .i64 a.c, .i .i64 a.t]] d ⟨sl, S.ob n l s, nb5, none⟩ K
def iS (y : Pos) (row : List D) (l : Ln) (a : Int) : T D := (.n (.n (.n (.n .e (some (.i .i64 a)) .e) none .e) (some (.pl row 0)) (.n .e (some (.pt LI 0 0)) .e)) (some (.yl y)) (.n (.n .e (some (.pt EI 0 0)) .e) (some (.pl (fL l) 0)) (.n .e (some (.pt MC 0 0)) .e)))
def Hj (y : Pos) (row : List D) (l : Ln) (a b : Int) : T D := (.n (.n (.n (.n .e (some (.i .i64 a)) .e) none .e) (some (.pl row 0)) (.n .e (some (.pt LI 0 0)) .e)) (some (.yl y)) (.n (.n (.n .e (some (.i .i64 b)) .e) (some (.pt EI 0 0)) .e) (some (.pl (fL l) 0)) (.n .e (some (.pt MC 0 0)) .e)))
def QU (y : Pos) (row : List D) (l : Ln) (a b c : Int) : T D := (.n (.n (.n (.n .e (some (.i .i64 a)) .e) none .e) (some (.pl row 0)) (.n (.n .e (some (.i .i64 c)) .e) (some (.pt LI 0 0)) .e)) (some (.yl y)) (.n (.n (.n .e (some (.i .i64 b)) .e) (some (.pt EI 0 0)) .e) (some (.pl (fL l) 0)) (.n .e (some (.pt MC 0 0)) .e)))
theorem TE {y : Pos} (hy : y.nat < 18) {row : List D} (h : aO row) (l : Ln) (a : Int) : ∀ s d, (iS y row l a).get s = some d -> Kp nb5.nat d := by
 show TAll (fun _ d => Kp nb5.nat d) (iS y row l a)
 unfold iS
 repeat' first | exact TAll.e | refine TAll.some ?_ ?_ ?_ | refine TAll.none ?_ ?_
 all_goals simp [Kp, KpL, Pu, aO, h, fL, EI, LI, MC, nb5, Pos.nat]
 all_goals omega
theorem PD {y : Pos} (hy : y.nat < 18) {row : List D} (h : aO row) (l : Ln) (a b : Int) : ∀ s d, (Hj y row l a b).get s = some d -> Kp nb5.nat d := by
 show TAll (fun _ d => Kp nb5.nat d) (Hj y row l a b)
 unfold Hj
 repeat' first | exact TAll.e | refine TAll.some ?_ ?_ ?_ | refine TAll.none ?_ ?_
 all_goals simp [Kp, KpL, Pu, aO, h, fL, EI, LI, MC, nb5, Pos.nat]
 all_goals omega
theorem Ow {y : Pos} (hy : y.nat < 18) {row : List D} (h : aO row) (l : Ln) (a b c : Int) : ∀ s d, (QU y row l a b c).get s = some d -> Kp nb5.nat d := by
 show TAll (fun _ d => Kp nb5.nat d) (QU y row l a b c)
 unfold QU
 repeat' first | exact TAll.e | refine TAll.some ?_ ?_ ?_ | refine TAll.none ?_ ?_
 all_goals simp [Kp, KpL, Pu, aO, h, fL, EI, LI, MC, nb5, Pos.nat]
 all_goals omega
theorem vQ {σ : Type} {S : Lns σ} {n : Int} {l : Ln} (h : ∀ s, KpO 18 (S.base s)) (s : σ) : KpO nb5.nat (S.ob n l s) := by
 intro id c hc
 by_cases e1 : id = EI
 ·subst e1
  have hc : some (.cells false [.o (.i .i64 (eJ l)) 0, .o (.i .i64 (nE l)) 0] 1) = some c := hc
  cases hc
  exact ⟨by simp [EI, nb5, Pos.nat], fun c hc => by simp at hc; rcases hc with rfl | rfl <;> trivial⟩
 by_cases e2 : id = LI
 ·subst e2
  have hc : some (.cells false [.o (.i .i64 (gK l)) 0, .o (.i .i64 (mW n l)) 0] 1) = some c := hc
  cases hc
  exact ⟨by simp [LI, nb5, Pos.nat], fun c hc => by simp at hc; rcases hc with rfl | rfl <;> trivial⟩
 by_cases e3 : id = MC
 ·subst e3
  have hc : some (.cells false [.o (.i .i64 (lA l)) 0, .o (.i .i64 (oX n l)) 0] 1) = some c := hc
  cases hc
  exact ⟨by simp [MC, nb5, Pos.nat], fun c hc => by simp at hc; rcases hc with rfl | rfl <;> trivial⟩
 have hb : (S.base s).get id = some c := by
  rw [<- hc]
  exact (QM e1 e2 e3).symm
 obtain ⟨h1, h2⟩ := h s id c hb
 exact ⟨Nat.lt_trans h1 (by simp [nb5, Pos.nat]), h2.up (by simp [nb5, Pos.nat])⟩
theorem MZ {σ : Type} (S : Lns σ) (y : Pos) (I : List Ln -> σ -> Prop) (R : σ -> Ln -> σ -> Bool -> Prop) (n coin box : Int) (ls : List Ln) (cs : List Ct) (hn : 1 <= n /\ n <= 4) (l : Ln) (hk : 0 <= l.k /\ l.k <= 2) (hc : -1 <= l.c /\ l.c <= 3) (ht : -1 <= l.t /\ l.t <= 3) (H : LnsOk S y I R n l) (s0 : σ) (i0 : I [] s0) :
 ∃ v ob', (∃ s' g, Fld R (mY n l) s0 s' g /\ v = .tp [] /\ ob' = S.base s') /\ CallOk Try.prog p135.ix [.yl y, .pl (jF n coin box ls cs) 0, .pl (fL l) 0] (S.base s0) EI none v ob' EI none := by
 have hrow := jS n coin box ls cs
 have hy := H.yl
 have b1 : 1 <= eJ l /\ eJ l <= nE l /\ nE l <= 2 := by
  unfold eJ nE
  split <;> omega
 have b2 : 0 <= gK l /\ gK l <= mW n l /\ mW n l <= 3 := by
  unfold gK mW
  split <;> omega
 have b3 : 0 <= lA l /\ lA l <= oX n l /\ oX n l <= 3 := by
  unfold lA oX
  split <;> omega
 refine CallOk.runE ND (by simp) (Nat.le_refl _) ?_
 unfold Lns.base bQ
 conv => whnf
 repeat' ((first | refine Qz ?_ | refine Qf (rR n coin box ls cs hn l) ?_) <;> conv => whnf)
 refine Rn.loop (fun t : Nat × σ => ⟨iS y (jF n coin box ls cs) l (eJ l + (t.1 : Int)), S.ob n l t.2, nb5, none⟩) (fun t => t.1 <= (nE l + 1 - eJ l).toNat /\ I (PA n l t.1) t.2 /\ Fld R (PA n l t.1) s0 t.2 true) (fun t => (nE l + 1 - eJ l).toNat - t.1) (0, s0) ?_ ?_ ?_
 ·refine X.le.mk ?_ ?_ (Nat.le_refl _) rfl rfl
  ·unfold iS
   simp only [Int.natCast_zero, Int.add_zero]
   exact eN
  ·unfold Lns.ob bQ
   repeat' first | exact T.le_refl _ | exact T.le_e _ | refine T.le_some ?_ rfl ?_ | refine T.le_same ?_ ?_ | refine T.le_none ?_ ?_
 ·exact ⟨by omega, i0, .nil⟩
 rintro ⟨i, s1⟩ ⟨i1, i2, i3⟩
 have i1 : i <= (nE l + 1 - eJ l).toNat := i1
 have i2 : I (PA n l i) s1 := i2
 have i3 : Fld R (PA n l i) s0 s1 true := i3
 conv => whnf
 refine Qg ?_
 refine WB.dec (fun h => ?_) (fun h => ?_) <;> conv => whnf
 ·have hi : i < (nE l + 1 - eJ l).toNat := by omega
  refine Qg ?_
  refine Rn.loop (fun t : Nat × σ => ⟨Hj y (jF n coin box ls cs) l (eJ l + (i : Int)) (gK l + (t.1 : Int)), S.ob n l t.2, nb5, none⟩) (fun t => t.1 <= (mW n l + 1 - gK l).toNat /\ I (PA n l i ++ PB n l (eJ l + (i : Int)) t.1) t.2 /\ Fld R (PA n l i ++ PB n l (eJ l + (i : Int)) t.1) s0 t.2 true) (fun t => (mW n l + 1 - gK l).toNat - t.1) (0, s1) ?_ ?_ ?_
  ·refine X.le.mk ?_ (T.le_refl _) (Nat.le_refl _) rfl rfl
   unfold Hj
   simp only [Int.natCast_zero, Int.add_zero]
   exact eN
  ·exact ⟨by omega, by simpa [PB] using i2, by simpa [PB] using i3⟩
  rintro ⟨j, s2⟩ ⟨j1, j2, j3⟩
  have j1 : j <= (mW n l + 1 - gK l).toNat := j1
  have j2 : I (PA n l i ++ PB n l (eJ l + (i : Int)) j) s2 := j2
  have j3 : Fld R (PA n l i ++ PB n l (eJ l + (i : Int)) j) s0 s2 true := j3
  conv => whnf
  refine Qg ?_
  refine WB.dec (fun h => ?_) (fun h => ?_) <;> conv => whnf
  ·have hj : j < (mW n l + 1 - gK l).toNat := by omega
   refine Qg ?_
   refine Rn.loop (fun t : Nat × σ => ⟨QU y (jF n coin box ls cs) l (eJ l + (i : Int)) (gK l + (j : Int)) (lA l + (t.1 : Int)), S.ob n l t.2, nb5, none⟩) (fun t => t.1 <= (oX n l + 1 - lA l).toNat /\ I (PA n l i ++ (PB n l (eJ l + (i : Int)) j ++ PC n l (eJ l + (i : Int)) (gK l + (j : Int)) t.1)) t.2 /\ Fld R (PA n l i ++ (PB n l (eJ l + (i : Int)) j ++ PC n l (eJ l + (i : Int)) (gK l + (j : Int)) t.1)) s0 t.2 true) (fun t => (oX n l + 1 - lA l).toNat - t.1) (0, s2) ?_ ?_ ?_
   ·refine X.le.mk ?_ (T.le_refl _) (Nat.le_refl _) rfl rfl
    unfold QU
    simp only [Int.natCast_zero, Int.add_zero]
    exact eN
   ·exact ⟨by omega, by simpa [PC] using j2, by simpa [PC] using j3⟩
   rintro ⟨q, s3⟩ ⟨q1, q2, q3⟩
   have q1 : q <= (oX n l + 1 - lA l).toNat := q1
   have q2 : I (PA n l i ++ (PB n l (eJ l + (i : Int)) j ++ PC n l (eJ l + (i : Int)) (gK l + (j : Int)) q)) s3 := q2
   have q3 : Fld R (PA n l i ++ (PB n l (eJ l + (i : Int)) j ++ PC n l (eJ l + (i : Int)) (gK l + (j : Int)) q)) s0 s3 true := q3
   conv => whnf
   refine Qg ?_
   refine WB.dec (fun h => ?_) (fun h => ?_) <;> conv => whnf
   ·have hq : q < (oX n l + 1 - lA l).toNat := by omega
    have hpc : PA n l i ++ (PB n l (eJ l + (i : Int)) j ++ PC n l (eJ l + (i : Int)) (gK l + (j : Int)) (q + 1)) = PA n l i ++ (PB n l (eJ l + (i : Int)) j ++ PC n l (eJ l + (i : Int)) (gK l + (j : Int)) q) ++ [⟨eJ l + (i : Int), gK l + (j : Int), lA l + (q : Int)⟩] := by
     rw [LA hq, List.append_assoc, List.append_assoc]
    have hx := Ek (q := q + 1) hi hj
    rw [hpc] at hx
    have hone : ∀ s' g, R s3 ⟨eJ l + (i : Int), gK l + (j : Int), lA l + (q : Int)⟩ s' g -> Fld R (PA n l i ++ (PB n l (eJ l + (i : Int)) j ++ PC n l (eJ l + (i : Int)) (gK l + (j : Int)) (q + 1))) s0 s' g := fun s' g h => by
     rw [hpc]
     refine Fld.app q3 ?_
     cases g with
     | true => exact .go h .nil
     | false => exact .stop h
    refine Qg ?_
    refine H.rnd _ s3 q2 ⟨eJ l + (i : Int), gK l + (j : Int), lA l + (q : Int)⟩ hx _ _ _ (fun s' g h => ?_)
    cases g with
    | false =>
      conv => whnf
      repeat' ((first | refine Qw ?_ | refine Qd (fun h => ?_) (fun h => ?_)) <;> conv => whnf)
      obtain ⟨rest, hrest⟩ := Ek (q := q + 1) hi hj
      refine ⟨_, _, ⟨s', false, by rw [<- hrest]; exact (hone s' false h).cut rest, rfl, rfl⟩, ⟨.inr rfl, ⟨_, rfl, .pu trivial⟩, Shr.kp (S.le n l s') ((H.kp s').up (by simp [EI, Pos.nat]))⟩⟩
    | true =>
      conv => whnf
      repeat' ((first | refine Qw ?_ | refine Qd (fun h => ?_) (fun h => ?_)) <;> conv => whnf)
      refine Again.to (q + 1, s') (show _ - (q + 1) < _ - q by omega) ⟨show q + 1 <= _ by omega, by rw [hpc]; exact H.inv _ _ _ _ hx q2 h, hone s' true h⟩ (Nat.le_refl _) (Shr.kp2 ?_ (Ow hy hrow _ _ _ _) (T.le_refl _) (vQ H.kp _))
      show T.le (QU y (jF n coin box ls cs) l (eJ l + (i : Int)) (gK l + (j : Int)) (lA l + ((q + 1 : Nat) : Int))) _
      rw [show lA l + ((q + 1 : Nat) : Int) = lA l + (q : Int) + 1 by omega]
      (unfold QU; exact eN)
   ·refine Qg ?_
    refine Again.to (j + 1, s3) (show _ - (j + 1) < _ - j by omega) ⟨show j + 1 <= _ by omega, by show I (PA n l i ++ PB n l (eJ l + (i : Int)) (j + 1)) s3; rw [An hj, <- Jm (q := q) (by omega)]; exact q2, ?_⟩ (Nat.le_refl _) (Shr.kp2 ?_ (PD hy hrow _ _ _) (T.le_refl _) (vQ H.kp _))
    ·show Fld R (PA n l i ++ PB n l (eJ l + (i : Int)) (j + 1)) s0 s3 true
     rw [An hj, <- Jm (q := q) (by omega)]
     exact q3
    ·show T.le (Hj y (jF n coin box ls cs) l (eJ l + (i : Int)) (gK l + ((j + 1 : Nat) : Int))) _
     rw [show gK l + ((j + 1 : Nat) : Int) = gK l + (j : Int) + 1 by omega]
     (unfold Hj; exact eN)
  ·refine Qg ?_
   refine Again.to (i + 1, s2) (show _ - (i + 1) < _ - i by omega) ⟨show i + 1 <= _ by omega, by show I (PA n l (i + 1)) s2; rw [Be hi, <- IK (j := j) (by omega)]; exact j2, ?_⟩ (Nat.le_refl _) (Shr.kp2 ?_ (TE hy hrow _ _) (T.le_refl _) (vQ H.kp _))
   ·show Fld R (PA n l (i + 1)) s0 s2 true
    rw [Be hi, <- IK (j := j) (by omega)]
    exact j3
   ·show T.le (iS y (jF n coin box ls cs) l (eJ l + ((i + 1 : Nat) : Int))) _
    rw [show eJ l + ((i + 1 : Nat) : Int) = eJ l + (i : Int) + 1 by omega]
    (unfold iS; exact eN)
 ·refine Qg ?_
  refine ⟨_, _, ⟨s1, true, by rw [<- Od (i := i) (by omega)]; exact i3, rfl, rfl⟩, ⟨.inl rfl, ⟨_, rfl, .pu trivial⟩, Shr.kp (S.le n l s1) ((H.kp s1).up (by simp [EI, Pos.nat]))⟩⟩
structure Mns (σ : Type) where
 o : Nat -> σ -> Option C
def Mns.base {σ : Type} (S : Mns σ) (s : σ) : T C := bQ (S.o 1 s) (S.o 2 s) (S.o 3 s) (S.o 4 s) (S.o 5 s) (S.o 6 s) (S.o 7 s) (S.o 8 s) (S.o 9 s) (S.o 10 s) (S.o 11 s) (S.o 12 s) (S.o 13 s) (S.o 14 s) (S.o 15 s) none none none none none
structure MnsOk {σ : Type} (S : Mns σ) (y : Pos) (I : List Mo -> σ -> Prop) (R : σ -> Mo -> σ -> Bool -> Prop) (W : List Mo) : Prop where
 yl : y.nat < 16
 kp : ∀ s, KpO 16 (S.base s)
 inv : ∀ h s a s', h ++ [a] <+: W -> I h s -> R s a s' true -> I (h ++ [a]) s'
 rnd : ∀ h s, I h s -> ∀ a, h ++ [a] <+: W -> ∃ g ob', (∃ s', R s a s' g /\ ob' = S.base s') /\ RndOk Try.prog y [.ag (dI a)] (S.base s) Jq none (.b g) ob' Jq none
def Hg (row mrow lrow : List D) : T D := (.n (.n (.n (.n (.n .e (some (.fn p135 [] [.pl row 0, .pl lrow 0])) .e) none .e) (some (.pt Jq 0 0)) .e) (some (.pl row 0)) .e) none (.n .e (some (.pl mrow 0)) .e))
def Lk {σ : Type} (S : Mns σ) (y : Pos) (row mrow lrow : List D) : Lns (σ × Bool) where
 o := fun i t => match i with
   | 16 => some (.cells false [.o (.yl y) 0] 1)
   | 17 => some (.lp (Hg row mrow lrow) [bX] 31 (mB (aN Try.f155) 0) (mQ (aN Try.f155) 0) (bif t.2 then .done else .ready) (bif t.2 then some .ret else none))
   | i => S.o i t.1
def Wb {σ : Type} (R : σ -> Mo -> σ -> Bool -> Prop) (coin : Int) (m : Mo) (t : σ × Bool) (a : Ln) (t' : σ × Bool) (g : Bool) : Prop :=
 ((mH coin m a).2 = false /\ t' = t /\ g = true) \/ ((mH coin m a).2 = true /\ R t.1 (mH coin m a).1 t'.1 g /\ t'.2 = !g)
theorem Ph {row mrow lrow : List D} (h : aO row) (h' : aO mrow) (h2 : aO lrow) {q : Nat} (hq : 17 <= q) : ∀ s d, (Hg row mrow lrow).get s = some d -> Kp q d := by
 show TAll (fun _ d => Kp q d) (Hg row mrow lrow)
 unfold Hg
 repeat' first | exact TAll.e | refine TAll.some ?_ ?_ ?_ | refine TAll.none ?_ ?_
 all_goals simp [Kp, KpL, Pu, aO, h, h', h2, Jq, Pos.nat]
 all_goals omega
theorem Oy {σ : Type} {S : Mns σ} {y : Pos} {row mrow lrow : List D} (hy : y.nat < 16) (hk : ∀ s, KpO 16 (S.base s)) (h : aO row) (h' : aO mrow) (h2 : aO lrow) (t : σ × Bool) : KpO 18 ((Lk S y row mrow lrow).base t) := by
 intro id c hc
 rcases OG hc with rfl | rfl | ⟨h1, h3⟩
 ·have hc : some (.cells false [.o (.yl y) 0] 1) = some c := hc
  cases hc
  refine ⟨by simp [Jq, Pos.nat], KpL.all ?_⟩
  simp [KpL, Kp, Cell.d]
  omega
 ·have hc : some (.lp (Hg row mrow lrow) [bX] 31 (mB (aN Try.f155) 0) (mQ (aN Try.f155) 0) (bif t.2 then .done else .ready) (bif t.2 then some .ret else none)) = some c := hc
  cases hc
  exact ⟨by simp [Nh, Pos.nat], Ph h h' h2 (by omega)⟩
 ·have : (S.base t.1).get id = some c := h3
  obtain ⟨q1, q2⟩ := hk t.1 id c this
  exact ⟨by omega, q2.up (by omega)⟩
theorem Pw {B : Bk} (V : VB B) (T : List Ln) (i : Nat) (hi : i <= 8) : (0 <= (fJ B.box B.coin T i).n /\ (fJ B.box B.coin T i).n <= 50) /\ (-100000 <= (fJ B.box B.coin T i).box /\ (fJ B.box B.coin T i).box <= 100000) /\ (0 <= (fJ B.box B.coin T i).mix /\ (fJ B.box B.coin T i).mix <= 50) /\ ∀ q, 0 <= (fJ B.box B.coin T i).h q /\ (fJ B.box B.coin T i).h q <= 50 := by
 have hm1 := sG (T := T) V.box V.coin i
 have hm2 := Ad (T := T) i
 refine ⟨⟨show 0 <= (i : Int) by omega, show (i : Int) <= 50 by omega⟩, ⟨show -100000 <= cQ B.box B.coin T i by omega, show cQ B.box B.coin T i <= 100000 by omega⟩, ⟨show 0 <= gQ T i by omega, show gQ T i <= 50 by omega⟩, fun q => ?_⟩
 have g1 := kL T (q : Int) i
 have g2 := kI T ((q - 4 : Nat) : Int) i
 show 0 <= (if q < 4 then aZ T (q : Int) i + 1 else bC T ((q - 4 : Nat) : Int) i + 1) /\ (if q < 4 then aZ T (q : Int) i + 1 else bC T ((q - 4 : Nat) : Int) i + 1) <= 50
 split <;> omega
theorem AO {B : Bk} {T : List Ln} {a : Ln} (hk : a.k = 1 \/ a.k = 2) (hc : 0 <= a.c /\ a.c <= 3) (ht : 0 <= a.t /\ a.t <= 3) (hp : eA (T ++ [a]) T.length = true) : mH B.coin (fJ B.box B.coin T T.length) a = (fJ B.box B.coin (T ++ [a]) (T ++ [a]).length, true) := by
 have h := ER (box := B.box) (coin := B.coin) (T := T ++ [a]) (i := T.length) (by rw [cW]; exact hk) (by rw [cW]; exact hc) (by rw [cW]; exact ht) hp
 rw [cW, kA (SameTo.app T a)] at h
 rw [h, List.length_append, List.length_singleton]
theorem AP {B : Bk} {T : List Ln} {a : Ln} (hk : a.k = 1 \/ a.k = 2) (hc : 0 <= a.c /\ a.c <= 3) (ht : 0 <= a.t /\ a.t <= 3) (hp : eA (T ++ [a]) T.length = false) : (mH B.coin (fJ B.box B.coin T T.length) a).2 = false := by
 have h := HT (box := B.box) (coin := B.coin) (T := T ++ [a]) (i := T.length) (by rw [cW]; exact hk) (by rw [cW]; exact hc) (by rw [cW]; exact ht) hp
 rw [cW, kA (SameTo.app T a)] at h
 exact h
def cX (B : Bk) (T : List Ln) : Mo := fJ B.box B.coin T T.length
def Lh (B : Bk) (Q h : List Ln) : List Mo := ((h.filter fun a => eA (Q ++ [a]) Q.length).map fun a => Q ++ [a]).map (cX B)
theorem EB {B : Bk} {Q h : List Ln} (hp : h <+: mY B.n (B.ls.getD Q.length default)) : Lh B Q h <+: (kY B Q).map (cX B) := by
 obtain ⟨r, hr⟩ := hp
 unfold Lh kY
 rw [<- hr, List.filter_append, List.map_append, List.map_append]
 exact List.prefix_append _ _
theorem AN {B : Bk} {Q h : List Ln} {a : Ln} (hp : eA (Q ++ [a]) Q.length = true) : Lh B Q (h ++ [a]) = Lh B Q h ++ [cX B (Q ++ [a])] := by
 unfold Lh
 rw [List.filter_append, List.map_append, List.map_append, List.filter_cons_of_pos (by rw [hp])]
 rfl
theorem Qq {B : Bk} {Q h : List Ln} {a : Ln} (hp : eA (Q ++ [a]) Q.length = false) : Lh B Q (h ++ [a]) = Lh B Q h := by
 unfold Lh
 rw [List.filter_append, List.filter_cons_of_neg (by rw [hp]; simp)]
 simp
theorem JB {B : Bk} {Q h : List Ln} {a : Ln} (hp : h ++ [a] <+: mY B.n (B.ls.getD Q.length default)) : Ay B.n (B.ls.getD Q.length default) a = true := fC.1 (hp.subset (by simp))
section
variable {σ : Type} {S : Mns σ} {y : Pos} {I : List Mo -> σ -> Prop} {R : σ -> Mo -> σ -> Bool -> Prop} {B : Bk} {T : List Ln}
theorem Sx (V : VB B) (hl : T.length < B.ls.length) (H : MnsOk S y I R ((kY B T).map (cX B))) :
 LnsOk (Lk S y (jF B.n B.coin B.box B.ls B.cs) (dI (cX B T)) (fL (B.ls.getD T.length default))) Nh (fun h t => I (Lh B T h) t.1 /\ t.2 = false) (Wb R B.coin (cX B T)) B.n (B.ls.getD T.length default) := by
 have hrow := jS B.n B.coin B.box B.ls B.cs
 have hm := fU (cX B T)
 have hln : aO (fL (B.ls.getD T.length default)) := by simp [fL, aO, Pu]
 have kpB := Oy (row := jF B.n B.coin B.box B.ls B.cs) (mrow := dI (cX B T)) (lrow := fL (B.ls.getD T.length default)) H.yl H.kp hrow hm hln
 refine ⟨by simp [Nh, Pos.nat], kpB, ?_, ?_⟩
 ·rintro h ⟨s, f⟩ a ⟨s', f'⟩ hp ⟨h1, h2⟩ hR
  have ha := JB hp
  obtain ⟨hk, hc, ht⟩ := V.rd hl ha
  cases hpos : eA (T ++ [a]) T.length with
  | true =>
    have e2 : mH B.coin (cX B T) a = (cX B (T ++ [a]), true) := AO (B := B) hk hc ht hpos
    rcases hR with ⟨q1, _⟩ | ⟨_, q2, q3⟩
    ·rw [e2] at q1; cases q1
    ·rw [e2] at q2
     have hp2 := EB hp
     rw [AN hpos] at hp2
     refine ⟨?_, q3⟩
     rw [AN hpos]
     exact H.inv _ s _ s' hp2 h1 q2
  | false =>
    have e2 : (mH B.coin (cX B T) a).2 = false := AP (B := B) hk hc ht hpos
    rcases hR with ⟨_, q2, _⟩ | ⟨q1, _⟩
    ·rw [q2, Qq hpos]; exact ⟨h1, h2⟩
    ·rw [e2] at q1; cases q1
 ·rintro h ⟨s, f⟩ ⟨h1, h2⟩ a hpre sl d K k
  have ha := JB hpre
  have h2 : f = false := h2
  subst h2
  have h1 : I (Lh B T h) s := h1
  obtain ⟨hk, hc, ht⟩ := V.rd hl ha
  have hlen := V.len
  obtain ⟨m1, m2, m3, m4⟩ := Pw V T T.length (by omega)
  have cA := Fq B.n B.coin B.box B.ls B.cs (cX B T) a V.coin m1 m2 m3 m4 hc ht
  refine WRnd.run (id := Nh) rfl Ds Dh ⟨_, rfl, ?_⟩
  unfold Lns.ob bQ Lk Hg
  conv => whnf
  refine Qg ?_
  refine ⟨rfl, rfl, _, _, _, _, _, _, rfl, ?_⟩
  conv => whnf
  cases hp : eA (T ++ [a]) T.length with
  | false =>
    have e2 := AP (B := B) hk hc ht hp
    have e2 : (mH B.coin (cX B T) a).2 = false := e2
    rw [e2] at cA
    repeat' ((first | refine Qw ?_ | refine Qf cA ?_ | refine Qd (fun h => ?_) (fun h => ?_)) <;> conv => whnf)
    refine ⟨_, _, _, _, _, _, _, (Lk S y (jF B.n B.coin B.box B.ls B.cs) (dI (cX B T)) (fL (B.ls.getD T.length default))).ob B.n (B.ls.getD T.length default) (s, false), nb5, rfl, rfl, Shr.kp ?_ (vQ kpB _), Nat.le_refl _, k (s, false) true (.inl ⟨e2, rfl, rfl⟩)⟩
    unfold Lns.ob bQ Lk Hg
    repeat' first | exact Go.Ev.T.le_refl _ | exact Go.Ev.T.le_e _ | refine Go.Ev.T.le_some ?_ rfl ?_ | refine Go.Ev.T.le_same ?_ ?_ | refine Go.Ev.T.le_none ?_ ?_
  | true =>
    have e2 := AO (B := B) hk hc ht hp
    have e2 : mH B.coin (cX B T) a = (cX B (T ++ [a]), true) := e2
    have hNa := EB hpre
    rw [AN hp] at hNa
    obtain ⟨g, _, ⟨s', hRs, rfl⟩, HR⟩ := H.rnd _ s h1 _ hNa
    have hR' : ∀ f', f' = !g -> Wb R B.coin (cX B T) (s, false) a (s', f') g := fun f' hf => .inr ⟨by rw [e2], by rw [e2]; exact hRs, hf⟩
    rw [e2] at cA
    repeat' ((first | refine Qw ?_ | refine Qf cA ?_ | refine Qd (fun h => ?_) (fun h => ?_)) <;> conv => whnf)
    refine WRnd.fr (obR' := Lp (S.o 1 s') (S.o 2 s') (S.o 3 s') (S.o 4 s') (S.o 5 s') (S.o 6 s') (S.o 7 s') (S.o 8 s') (S.o 9 s') (S.o 10 s') (S.o 11 s') (S.o 12 s') (S.o 13 s') (S.o 14 s') (S.o 15 s') (some (.cells false [.o (.yl y) 0] 1)) (some (.lp (Hg (jF B.n B.coin B.box B.ls B.cs) (dI (cX B T)) (fL (B.ls.getD T.length default))) [bX] 31 (mB (aN Try.f155) 0) (mQ (aN Try.f155) 0) .busy none)) (some (.cells false [.o (.i .i64 (eJ (B.ls.getD T.length default))) 0, .o (.i .i64 (nE (B.ls.getD T.length default))) 0] 1)) (some (.cells false [.o (.i .i64 (gK (B.ls.getD T.length default))) 0, .o (.i .i64 (mW B.n (B.ls.getD T.length default))) 0] 1)) (some (.cells false [.o (.i .i64 (lA (B.ls.getD T.length default))) 0, .o (.i .i64 (oX B.n (B.ls.getD T.length default))) 0] 1)) (some (.cells false ([D.i .i64 a.k, .i .i64 a.c, .i .i64 a.t].map fun d => Cell.o d 0) 1)) (some (.cells false ((dI (cX B (T ++ [a]))).map fun d => Cell.o d 0) 1))) HR H.yl QQ (H.kp s) (by simp only [KpL, and_true]; exact Kp.pu _ (fU _)) DA (by simp [Jq, Pos.nat]) (LgLe.refl _) (fun _ _ => trivial) ?_; conv => whnf
    cases g with
    | true =>
      repeat' ((first | refine Qw ?_ | refine Qd (fun h => ?_) (fun h => ?_)) <;> conv => whnf)
      refine ⟨_, _, _, _, _, _, _, (Lk S y (jF B.n B.coin B.box B.ls B.cs) (dI (cX B T)) (fL (B.ls.getD T.length default))).ob B.n (B.ls.getD T.length default) (s', false), nb5, rfl, rfl, Shr.kp ?_ (vQ kpB _), Nat.le_refl _, k (s', false) true (hR' _ rfl)⟩
      unfold Lns.ob bQ Lk Hg
      repeat' first | exact Go.Ev.T.le_refl _ | exact Go.Ev.T.le_e _ | refine Go.Ev.T.le_some ?_ rfl ?_ | refine Go.Ev.T.le_same ?_ ?_ | refine Go.Ev.T.le_none ?_ ?_
    | false =>
      repeat' ((first | refine Qw ?_ | refine Qd (fun h => ?_) (fun h => ?_)) <;> conv => whnf)
      refine ⟨_, _, _, _, _, _, _, (Lk S y (jF B.n B.coin B.box B.ls B.cs) (dI (cX B T)) (fL (B.ls.getD T.length default))).ob B.n (B.ls.getD T.length default) (s', true), nb5, rfl, rfl, Shr.kp ?_ (vQ kpB _), Nat.le_refl _, k (s', true) false (hR' _ rfl)⟩
      unfold Lns.ob bQ Lk Hg
      repeat' first | exact Go.Ev.T.le_refl _ | exact Go.Ev.T.le_e _ | refine Go.Ev.T.le_some ?_ rfl ?_ | refine Go.Ev.T.le_same ?_ ?_ | refine Go.Ev.T.le_none ?_ ?_
end
theorem Jd {σ : Type} {R : σ -> Mo -> σ -> Bool -> Prop} {B : Bk} (V : VB B) {Q : List Ln} (hl : Q.length < B.ls.length) : ∀ (L : List Ln) {s s' : σ} {f' g : Bool}, (∀ a ∈ L, Ay B.n (B.ls.getD Q.length default) a = true) -> Fld (Wb R B.coin (cX B Q)) L (s, false) (s', f') g -> Fld R (((L.filter fun a => eA (Q ++ [a]) Q.length).map fun a => Q ++ [a]).map (cX B)) s s' g /\ f' = !g
 | [], s, s', f', g, _, h => by
   cases h
   exact ⟨.nil, rfl⟩
 | a :: L, s, s', f', g, hL, h => by
   obtain ⟨hk, hc, ht⟩ := V.rd hl (hL a (by simp))
   have ih := fun {s s' : σ} {f' g : Bool} (h : Fld (Wb R B.coin (cX B Q)) L (s, false) (s', f') g) => Jd V hl L (fun b hb => hL b (by simp [hb])) h
   cases hp : eA (Q ++ [a]) Q.length with
   | false =>
     have e2 : (mH B.coin (cX B Q) a).2 = false := AP (B := B) hk hc ht hp
     rw [List.filter_cons_of_neg (by rw [hp]; simp)]
     cases h with
     | stop h =>
       rcases h with ⟨_, _, q3⟩ | ⟨q1, _⟩
       ·cases q3
       ·rw [e2] at q1; cases q1
     | go h k =>
       rcases h with ⟨_, q2, _⟩ | ⟨q1, _⟩
       ·subst q2
        exact ih k
       ·rw [e2] at q1; cases q1
   | true =>
     have e2 : mH B.coin (cX B Q) a = (cX B (Q ++ [a]), true) := AO (B := B) hk hc ht hp
     rw [List.filter_cons_of_pos (by rw [hp]), List.map_cons, List.map_cons]
     cases h with
     | stop h =>
       rcases h with ⟨q1, _⟩ | ⟨_, q2, q3⟩
       ·rw [e2] at q1; cases q1
       ·rw [e2] at q2
        exact ⟨.stop q2, q3⟩
     | go h k =>
       rename_i t1
       rcases h with ⟨q1, _⟩ | ⟨_, q2, q3⟩
       ·rw [e2] at q1; cases q1
       ·rw [e2] at q2
        obtain ⟨s1, f1⟩ := t1
        have q3 : f1 = false := q3
        subst q3
        obtain ⟨k1, k2⟩ := ih k
        exact ⟨.go q2 k1, k2⟩
theorem NC {σ : Type} (S : Mns σ) (y : Pos) (I : List Mo -> σ -> Prop) (R : σ -> Mo -> σ -> Bool -> Prop) {B : Bk} (V : VB B) {Q : List Ln} (hl : Q.length < B.ls.length) (H : MnsOk S y I R ((kY B Q).map (cX B))) (s0 : σ) (i0 : I [] s0) :
 ∃ v ob', (∃ s' g, Fld R ((kY B Q).map (cX B)) s0 s' g /\ v = .tp [] /\ ob' = S.base s') /\ CallOk Try.prog p156.ix [.yl y, .pl (jF B.n B.coin B.box B.ls B.cs) 0, .pl (dI (cX B Q)) 0] (S.base s0) Jq none v ob' Jq none := by
 have hlen := V.len
 have hmn : (cX B Q).n = (Q.length : Int) := rfl
 have e1 := aD aI B.ls
 obtain ⟨hk, hc, ht⟩ := V.ln hl
 refine CallOk.runE UE (by simp) (Nat.le_refl _) ?_
 unfold Mns.base bQ
 conv => whnf
 repeat' ((first | refine Qz ?_ | refine Qf (jN B.n B.coin B.box B.ls B.cs (B.ls.getD Q.length default)) ?_) <;> conv => whnf)
 refine Rn.le (a := ⟨Hg (jF B.n B.coin B.box B.ls B.cs) (dI (cX B Q)) (fL (B.ls.getD Q.length default)), bQ (S.o 1 s0) (S.o 2 s0) (S.o 3 s0) (S.o 4 s0) (S.o 5 s0) (S.o 6 s0) (S.o 7 s0) (S.o 8 s0) (S.o 9 s0) (S.o 10 s0) (S.o 11 s0) (S.o 12 s0) (S.o 13 s0) (S.o 14 s0) (S.o 15 s0) (some (.cells false [.o (.yl y) 0] 1)) none none none none, Nh, none⟩) ?_ ?_
 ·obtain ⟨_, _, ⟨⟨s', f'⟩, g, F, rfl, rfl⟩, C⟩ := MZ (Lk S y (jF B.n B.coin B.box B.ls B.cs) (dI (cX B Q)) (fL (B.ls.getD Q.length default))) Nh _ _ B.n B.coin B.box B.ls B.cs V.n (B.ls.getD Q.length default) hk hc ht (Sx V hl H) (s0, false) ⟨i0, rfl⟩
  obtain ⟨F', hf⟩ := Jd V hl _ (fun a ha => fC.1 ha) F
  cases g with
  | true =>
    have hf : f' = false := hf
    subst hf
    refine Rn.rf rfl rfl C rfl (by simp) ?_; conv => whnf
    refine Qg ?_
    refine ⟨_, _, ⟨s', true, F', rfl, rfl⟩, ⟨.inl rfl, ⟨_, rfl, .pu trivial⟩, Shr.kp ?_ (H.kp s')⟩⟩
    show Go.Ev.T.le (bQ (S.o 1 s') (S.o 2 s') (S.o 3 s') (S.o 4 s') (S.o 5 s') (S.o 6 s') (S.o 7 s') (S.o 8 s') (S.o 9 s') (S.o 10 s') (S.o 11 s') (S.o 12 s') (S.o 13 s') (S.o 14 s') (S.o 15 s') none none none none none) (bQ (S.o 1 s') (S.o 2 s') (S.o 3 s') (S.o 4 s') (S.o 5 s') (S.o 6 s') (S.o 7 s') (S.o 8 s') (S.o 9 s') (S.o 10 s') (S.o 11 s') (S.o 12 s') (S.o 13 s') (S.o 14 s') (S.o 15 s') (some _) (some _) none none none)
    unfold bQ
    repeat' first | exact Go.Ev.T.le_refl _ | exact Go.Ev.T.le_e _ | refine Go.Ev.T.le_same ?_ ?_ | refine Go.Ev.T.le_none ?_ ?_
  | false =>
    have hf : f' = true := hf
    subst hf
    refine Rn.rf rfl rfl C rfl (by simp) ?_; conv => whnf
    refine Qg ?_
    refine ⟨_, _, ⟨s', false, F', rfl, rfl⟩, ⟨.inr rfl, ⟨_, rfl, .pu trivial⟩, Shr.kp ?_ (H.kp s')⟩⟩
    show Go.Ev.T.le (bQ (S.o 1 s') (S.o 2 s') (S.o 3 s') (S.o 4 s') (S.o 5 s') (S.o 6 s') (S.o 7 s') (S.o 8 s') (S.o 9 s') (S.o 10 s') (S.o 11 s') (S.o 12 s') (S.o 13 s') (S.o 14 s') (S.o 15 s') none none none none none) (bQ (S.o 1 s') (S.o 2 s') (S.o 3 s') (S.o 4 s') (S.o 5 s') (S.o 6 s') (S.o 7 s') (S.o 8 s') (S.o 9 s') (S.o 10 s') (S.o 11 s') (S.o 12 s') (S.o 13 s') (S.o 14 s') (S.o 15 s') (some _) (some _) none none none)
    unfold bQ
    repeat' first | exact Go.Ev.T.le_refl _ | exact Go.Ev.T.le_e _ | refine Go.Ev.T.le_same ?_ ?_ | refine Go.Ev.T.le_none ?_ ?_
 ·refine X.le.mk ?_ ?_ (Nat.le_refl _) rfl rfl
  ·unfold Hg
   repeat' first | exact Go.Ev.T.le_e _ | refine Go.Ev.T.le_some ?_ rfl ?_ | refine Go.Ev.T.le_none ?_ ?_
  ·unfold bQ
   repeat' first | exact Go.Ev.T.le_refl _ | exact Go.Ev.T.le_e _ | refine Go.Ev.T.le_some ?_ rfl ?_ | refine Go.Ev.T.le_same ?_ ?_ | refine Go.Ev.T.le_none ?_ ?_
end Go.Ev
end
