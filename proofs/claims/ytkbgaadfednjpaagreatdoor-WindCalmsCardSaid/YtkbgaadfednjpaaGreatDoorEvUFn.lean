import Derived.Test.YtkbgaadfednjpaaGreatDoorEvUFi
import Derived.Test.YtkbgaadfednjpaaGreatDoorEvU4e
import Derived.Test.YtkbgaadfednjpaaGreatDoorEvUDs
set_option linter.all false
set_option maxHeartbeats 8000000
noncomputable section
namespace Go.Ev
open Go.RowKit (Below Grown)
def Cv (γ γ' : Gh) (w : World) (d d' : D) : Prop := ∀ v, DV γ w d v -> DV γ' w d' v
def CvL (γ γ' : Gh) (w : World) (ds ds' : List D) : Prop := ∀ vs, DVL γ w ds vs -> DVL γ' w ds' vs
section
variable {γ γ' : Gh} {w : World}
theorem CvL.nil : CvL γ γ' w [] [] := fun vs h => by unfold DVL at h ⊢; exact h
theorem CvL.cons {d d' : D} {ds ds' : List D} (h : Cv γ γ' w d d') (k : CvL γ γ' w ds ds') : CvL γ γ' w (d :: ds) (d' :: ds') := fun vs H => by
 unfold DVL at H ⊢
 obtain ⟨v, r, h1, h2, h3⟩ := H
 exact ⟨v, r, h1, h v h2, k r h3⟩
theorem CvL.app {a a' b b' : List D} (h : CvL γ γ' w a a') (hl : a.length = a'.length) (k : CvL γ γ' w b b') : CvL γ γ' w (a ++ b) (a' ++ b') := fun vs H => by
 obtain ⟨l1, e1⟩ := aP.1 H
 have hv : vs = vs.take a.length ++ vs.drop a.length := (List.take_append_drop _ _).symm
 have t1 := H.take a.length
 have t2 := H.drop a.length
 rw [List.take_left'] at t1 <;> try rfl
 rw [List.drop_left'] at t2 <;> try rfl
 rw [hv]
 exact DVL.append (h _ t1) (k _ t2)
theorem Cv.pu (him : ∀ b, γ.im b -> γ'.im b) {d : D} (h : Pu d) : Cv γ γ' w d d := fun v H => DV.pu him d v h H
theorem CvL.pu (him : ∀ b, γ.im b -> γ'.im b) {ds : List D} (h : aR ds) : CvL γ γ' w ds ds := fun v H => DVL.pu him ds v h H
theorem Cv.any {d : D} : Cv γ γ' w d .any := fun v _ => by unfold DV; trivial
theorem Cv.ag {ds ds' : List D} (h : CvL γ γ' w ds ds') : Cv γ γ' w (.ag ds) (.ag ds') := fun v H => by
 unfold DV at H ⊢
 obtain ⟨vs, h1, h2, h3⟩ := H
 exact ⟨vs, h1, h _ h2, h3⟩
theorem Cv.tp {ds ds' : List D} (h : CvL γ γ' w ds ds') : Cv γ γ' w (.tp ds) (.tp ds') := fun v H => by
 unfold DV at H ⊢
 obtain ⟨vs, h1, h2⟩ := H
 exact ⟨vs, h1, h _ h2⟩
theorem Cv.fn {f : Pos} {x x' y y' : List D} (h : CvL γ γ' w x x') (k : CvL γ γ' w y y') : Cv γ γ' w (.fn f x y) (.fn f x' y') := fun v H => by
 unfold DV at H ⊢
 obtain ⟨vx, vy, h1, h2, h3⟩ := H
 exact ⟨vx, vy, h1, h _ h2, k _ h3⟩
end
theorem CallOk.sub {P : Program} {f : Nat} {ds ds' : List D} {ob ob' : T C} {nx nx' : Pos} {lg lg' : Option (T Bool)} {v : D} (h : CallOk P f ds' ob nx lg v ob' nx' lg') (k : ∀ γ w, CvL γ γ w ds ds') : CallOk P f ds ob nx lg v ob' nx' lg' :=
 ⟨h.hl, h.hx, h.hk, fun so hs γ args w gh ha ho hn => h.ok so hs γ args w gh (k γ w _ ha) ho hn⟩
theorem PureF.sub {P : Program} {f : Nat} {ds ds' : List D} {v : D} (h : PureF P f ds' v) (k : ∀ γ w, CvL γ γ w ds ds') : PureF P f ds v := fun ob nx lg => (h ob nx lg).sub k
def NO (id : Pos) (γ γ' : Gh) : Gh := vI (qL id) γ γ'
theorem Cv.mpO {γ γ' : Gh} {w : World} {id : Pos} : Cv γ' (NO id γ γ') w (.mp .h) (.mp id) := fun u h => by
 unfold DV at h ⊢
 show 0 < (vI (qL id) γ γ').cur id /\ u = .map (some ((vI (qL id) γ γ').β id 0).1)
 rw [fA (lN id), iR (lN id)]
 exact h
theorem WCall.of {P : Program} {f : Nat} {ds : List D} {d : Option Pos} {sl : T D} {ob ob2 : T C} {nx nx2 : Pos} {lg lg2 : Option (T Bool)} {K : X -> Prop} {v : D} (h : CallOk P f ds ob nx lg v ob2 nx2 lg2) (k : mW sl ob2 nx2 lg2 d K v) : WCall P f ds d ⟨sl, ob, nx, lg⟩ K := by
 cases d with
 | none => exact ⟨v, _, _, _, _, h, rfl, k⟩
 | some d =>
   obtain ⟨h1, h2⟩ := bR k
   exact ⟨v, _, _, _, _, h, h1, h2⟩
mutual
theorem Kp.up {n m : Nat} (h : n <= m) : ∀ d : D, Kp n d -> Kp m d
 | .pt _ _ _, k => by unfold Kp at k ⊢; omega
 | .yl _, k => by unfold Kp at k ⊢; omega
 | .sl _ _ _ _ _, k => by unfold Kp at k ⊢; omega
 | .mp _, k => by unfold Kp at k ⊢; omega
 | .fn _ x y, k => by unfold Kp at k ⊢; exact ⟨KpL.up h x k.1, KpL.up h y k.2⟩
 | .ag cs, k => by unfold Kp at k ⊢; exact KpL.up h cs k
 | .tp cs, k => by unfold Kp at k ⊢; exact KpL.up h cs k
 | .any, k => by unfold Kp at k ⊢; exact k
 | .b _, k => by unfold Kp at k ⊢; exact k
 | .i _ _, k => by unfold Kp at k ⊢; exact k
 | .s _, k => by unfold Kp at k ⊢; exact k
 | .np, k => by unfold Kp at k ⊢; exact k
 | .nf, k => by unfold Kp at k ⊢; exact k
 | .ni, k => by unfold Kp at k ⊢; exact k
 | .nm, k => by unfold Kp at k ⊢; exact k
 | .ns, k => by unfold Kp at k ⊢; exact k
 | .em, k => by unfold Kp at k ⊢; exact k
 | .ifc _ _, k => by unfold Kp at k ⊢; exact k
 | .lst _ _, k => by unfold Kp at k ⊢; exact k
 | .pl _ _, k => by unfold Kp at k ⊢; exact k
theorem KpL.up {n m : Nat} (h : n <= m) : ∀ ds : List D, KpL n ds -> KpL m ds
 | [], k => by unfold KpL at k ⊢; exact k
 | d :: ds, k => by unfold KpL at k ⊢; exact ⟨Kp.up h d k.1, KpL.up h ds k.2⟩
end
theorem KpC.up {n m : Nat} (h : n <= m) : ∀ {c : C}, KpC n c -> KpC m c
 | .cells _ _ _, k => fun c hc => Kp.up h _ (k c hc)
 | .lp _ _ _ _ _ _ _, k => fun s d hd => Kp.up h _ (k s d hd)
 | .map _, k => fun e he => ⟨Kp.up h _ (k e he).1, Kp.up h _ (k e he).2⟩
 | .hole, _ => trivial
theorem KpO.up {n m : Nat} (h : n <= m) {ob : T C} (k : KpO n ob) : KpO m ob := fun id c hc => ⟨Nat.lt_of_lt_of_le (k id c hc).1 h, (k id c hc).2.up h⟩
mutual
theorem Kp.pu {n : Nat} : ∀ d : D, Pu d -> Kp n d
 | .pt _ _ _, h => by unfold Pu at h; exact h.elim
 | .yl _, h => by unfold Pu at h; exact h.elim
 | .sl _ _ _ _ _, h => by unfold Pu at h; exact h.elim
 | .mp _, h => by unfold Pu at h; exact h.elim
 | .fn _ x y, h => by unfold Pu at h; unfold Kp; exact ⟨KpL.pu x h.1, KpL.pu y h.2⟩
 | .ag cs, h => by unfold Pu at h; unfold Kp; exact KpL.pu cs h
 | .tp cs, h => by unfold Pu at h; unfold Kp; exact KpL.pu cs h
 | .any, h => by unfold Kp; exact h
 | .b _, h => by unfold Kp; exact h
 | .i _ _, h => by unfold Kp; exact h
 | .s _, h => by unfold Kp; exact h
 | .np, h => by unfold Kp; exact h
 | .nf, h => by unfold Kp; exact h
 | .ni, h => by unfold Kp; exact h
 | .nm, h => by unfold Kp; exact h
 | .ns, h => by unfold Kp; exact h
 | .em, h => by unfold Kp; exact h
 | .ifc _ _, h => by unfold Kp; exact h
 | .lst _ _, h => by unfold Kp; exact h
 | .pl _ _, h => by unfold Kp; exact h
theorem KpL.pu {n : Nat} : ∀ ds : List D, aR ds -> KpL n ds
 | [], _ => by unfold KpL; trivial
 | d :: ds, h => by unfold aR at h; unfold KpL; exact ⟨Kp.pu d h.1, KpL.pu ds h.2⟩
end
inductive Fld {α σ : Type} (R : σ -> α -> σ -> Bool -> Prop) : List α -> σ -> σ -> Bool -> Prop where
 | nil {s : σ} : Fld R [] s s true
 | stop {a : α} {l : List α} {s s' : σ} (h : R s a s' false) : Fld R (a :: l) s s' false
 | go {a : α} {l : List α} {s s' s2 : σ} {g : Bool} (h : R s a s' true) (k : Fld R l s' s2 g) : Fld R (a :: l) s s2 g
theorem Fld.app {α σ : Type} {R : σ -> α -> σ -> Bool -> Prop} : ∀ {a b : List α} {s s1 s2 : σ} {g : Bool}, Fld R a s s1 true -> Fld R b s1 s2 g -> Fld R (a ++ b) s s2 g
 | [], _, _, _, _, _, h, k => by cases h; exact k
 | _ :: _, _, _, _, _, _, h, k => by
   cases h with
   | go h1 h2 => exact .go h1 (h2.app k)
open Go.Proofs
set_option maxRecDepth 100000
theorem RndOk.ofW {P : Program} {id : Pos} {ds : List D} {ob ob' : T C} {nx nx' : Pos} {v : D} (h : WRnd P id ds (some .h) ⟨.e, ob, nx, none⟩ (fun x => x = ⟨.n .e (some v) .e, ob', nx', none⟩)) : RndOk P id ds ob nx none v ob' nx' none := by
  obtain ⟨v1, ob1, nx1, lg1, Z, h1, h2, h3⟩ := h.ok
  subst h3
  have h2 : T.setK .h v1 (T.e : T D) (fun sl => some (⟨sl, ob1, nx1, lg1⟩ : X)) = some ⟨.n .e (some v) .e, ob', nx', none⟩ := h2
  rw [T.setK_eq] at h2
  obtain ⟨e1, e2, e3, e4⟩ := X.mk.inj (Option.some.inj h2)
  have e1 := congrArg (fun t => T.get t .h) e1
  have e1 : (T.set .h v1 (T.e : T D)).get .h = some v := e1
  rw [T.get_set_same] at e1
  have e1 := Option.some.inj e1
  subst e1 e2 e3 e4
  exact h1
def FL (x1 x2 x3 : Option C) : T C := .n (.n .e x2 .e) x1 (.n .e x3 .e)
theorem Hc {x1 x2 x3 y1 y2 y3 : Option C} {a b c d : T C} : Beside (.o (.o .h)) (FL y1 y2 y3) (.n (.n a x2 b) x1 (.n c x3 d)) (.n (.n a y2 b) y1 (.n c y3 d)) := by
  refine ⟨fun id c' hid hc => ?_, fun id hle => ?_⟩
  · cases id with
    | h => exact hc
    | o p => cases p with
      | h => exact hc
      | o q => have := q.nat_pos; have hid : 2 * (2 * q.nat) < 4 := hid; omega
      | i q => have := q.nat_pos; have hid : 2 * (2 * q.nat + 1) < 4 := hid; omega
    | i p => cases p with
      | h => exact hc
      | o q => have := q.nat_pos; have hid : 2 * (2 * q.nat) + 1 < 4 := hid; omega
      | i q => have := q.nat_pos; have hid : 2 * (2 * q.nat + 1) + 1 < 4 := hid; omega
  · cases id with
    | h => exact absurd hle (by decide)
    | o p => cases p with
      | h => exact absurd hle (by decide)
      | o q => rfl
      | i q => rfl
    | i p => cases p with
      | h => exact absurd hle (by decide)
      | o q => rfl
      | i q => rfl
def oG (c : Nat → Int) (k : Nat) (v : Int) (i : Nat) : Int := bif Nat.beq i k then v else c i
theorem uS (c : Nat → Int) (k : Nat) (v : Int) : oG c k v k = v := by simp [oG]
theorem vT (c : Nat → Int) {k i : Nat} (v : Int) (h : i ≠ k) : oG c k v i = c i := by
  unfold oG
  rw [show Nat.beq i k = false from by
    cases e : Nat.beq i k with
    | false => rfl
    | true => exact absurd (Nat.eq_of_beq_eq_true e) h]
  rfl
theorem Cx (c : Nat → Int) (k : Nat) : oG c k (c k) = c := funext fun i => by
  by_cases e : i = k
  · subst e; rw [uS]
  · rw [vT _ _ e]
theorem uI {h : Nat} (k : h < 5) : h = 0 ∨ h = 1 ∨ h = 2 ∨ h = 3 ∨ h = 4 := by omega
def zH (c : Nat → Int) : List D := [.i .i64 (c 0), .i .i64 (c 1), .i .i64 (c 2), .i .i64 (c 3), .i .i64 (c 4)]
theorem LV (c : Nat → Int) : aR (zH c) := by simp [zH, aR, Pu]
def Np (c : Nat → Int) : C := .cells false ((zH c).map fun d => Cell.o d 0) 1
def vA (b : Bh) : Nat → Nat → (Nat → Int) → List (Nat → Int)
  | 0, _, c => [c]
  | m + 1, h, c => (aJ b h).flatMap fun f => vA b m (h + 1) (oG c h f)
theorem Aa {b : Bh} {m h : Nat} {c : Nat → Int} {P : (Nat → Int) → Bool} (k : ∀ i, i < (aJ b h).length → (vA b m (h + 1) (oG c h ((aJ b h).getD i 0))).any P = false) : (vA b (m + 1) h c).any P = false := by
  unfold vA
  rw [List.any_flatMap, List.any_eq_false]
  intro f hf
  obtain ⟨i, hi, rfl⟩ := sI (d := (0 : Int)) hf
  rw [k i hi]; decide
theorem yA {b : Bh} {m h : Nat} {c : Nat → Int} {P : (Nat → Int) → Bool} {i : Nat} (hi : i < (aJ b h).length) (k : (vA b m (h + 1) (oG c h ((aJ b h).getD i 0))).any P = true) : (vA b (m + 1) h c).any P = true := by
  unfold vA
  rw [List.any_flatMap, List.any_eq_true]
  exact ⟨_, aM (d := (0 : Int)) hi, k⟩
def mX (x1 x2 x3 x4 x5 x6 : Option C) : T C := .n (.n (.n .e x4 .e) x2 (.n .e x6 .e)) x1 (.n (.n .e x5 .e) x3 .e)
def Jd (g : Pos) (first caps : List D) (b : Bh) : T D := (.n (.n (.n .e (some (.pt .h 0 0)) .e) (some (.fn g first caps)) .e) none (.n (.n .e (some (.pt (.o .h) 0 0)) .e) none (.n .e (some (.fn p147 [] [.pl (dW b) 0])) .e)))
def Nd (g : Pos) (first caps : List D) : C := .cells false [.o (.fn g first caps) 0] 1
def JE (s : Bool) : C := .cells false [.o (.b s) 0] 1
def Nz (g : Pos) (first caps : List D) (b : Bh) (s : Bool) : C := .lp (Jd g first caps b) [p8] 11 (PE (aO Tryz.f117) 0) (Oc (aO Tryz.f117) 0) (bif s then .done else .ready) (bif s then some .ret else none)
def Gj (g : Pos) (first caps : List D) (b : Bh) (s : Bool) : T C := FL (some (Nd g first caps)) (some (JE s)) (some (Nz g first caps b s))
def QD : C := .cells false [.o (.yl (.i .h)) 0] 1
def QF (b : Bh) : C := .cells false [.o (.fn p148 [] [.pl (dW b) 0, .pt (.o (.o .h)) 0 0, .pt (.i (.o .h)) 0 0]) 0] 1
def Hd (g : Pos) (first caps : List D) (b : Bh) (s : Bool) (x6 : Option C) : T C := mX (some (Nd g first caps)) (some (JE s)) (some (Nz g first caps b s)) (some QD) (some (QF b)) x6
section
variable {g : Pos} {first caps : List D} {b : Bh}
theorem FA (h1 : aR first) (h2 : aR caps) {n : Nat} (hn : 4 ≤ n) : ∀ s d, (Jd g first caps b).get s = some d → Kp n d := by
  have k1 := KpL.pu (n := n) first h1
  have k2 := KpL.pu (n := n) caps h2
  show TAll (fun _ d => Kp n d) (Jd g first caps b)
  unfold Jd
  repeat' first | exact TAll.e | refine TAll.some ?_ ?_ ?_ | refine TAll.none ?_ ?_
  all_goals simp [Kp, KpL, Pu, aQ, k1, k2, Pos.nat]
  all_goals omega
theorem vW (h1 : aR first) (h2 : aR caps) (s : Bool) {n : Nat} (hn : 4 ≤ n) : KpO n (Gj g first caps b s) := by
  have k1 := KpL.pu (n := n) first h1
  have k2 := KpL.pu (n := n) caps h2
  have hs := FA h1 h2 hn (g := g) (b := b)
  show TAll (fun id c => id.nat < n ∧ KpC n c) _
  unfold Gj FL Nd JE Nz
  repeat' first | exact TAll.e | refine TAll.some ?_ ?_ ?_ | refine TAll.none ?_ ?_
  all_goals refine ⟨by simp [Pos.nat]; omega, ?_⟩
  all_goals first
    | exact hs
    | (refine KpL.all ?_; simp [KpL, Kp, Cell.d, Pu, k1, k2, Pos.nat])
theorem mQ (h1 : aR first) (h2 : aR caps) (s : Bool) {n : Nat} (hn : 6 ≤ n) : KpO n (Hd g first caps b s none) := by
  have k1 := KpL.pu (n := n) first h1
  have k2 := KpL.pu (n := n) caps h2
  have hs := FA h1 h2 (n := n) (by omega) (g := g) (b := b)
  show TAll (fun id c => id.nat < n ∧ KpC n c) _
  unfold Hd mX Nd JE Nz QD QF
  repeat' first | exact TAll.e | refine TAll.some ?_ ?_ ?_ | refine TAll.none ?_ ?_
  all_goals refine ⟨by simp [Pos.nat]; omega, ?_⟩
  all_goals first
    | exact hs
    | (refine KpL.all ?_; simp [KpL, Kp, Cell.d, Pu, aQ, k1, k2, Pos.nat]; try omega)
end
set_option maxHeartbeats 2000000 in
theorem Ik {g : Pos} {first caps : List D} {b : Bh} {P : (Nat → Int) → Bool} (h1 : aR first) (h2 : aR caps) (hg : ∀ c, PureF Tryz.prog g.ix (first ++ ([.ag (zH c)] ++ caps)) (.b (P c))) (c : Nat → Int) :
    RndOk Tryz.prog (.i .h) [.ag (zH c)] (Gj g first caps b false) (.o (.o .h)) none (.b (!P c)) (Gj g first caps b (P c)) (.o (.o .h)) none := by
  have cg := hg c
  refine RndOk.ofW ?_
  cases hP : P c with
  | true =>
    rw [hP] at cg
    refine WRnd.run rfl rG sK ⟨_, rfl, ?_⟩
    conv => whnf
    repeat' first | ((first | refine Qz ?_) <;> conv => whnf)
    refine ⟨rfl, rfl, _, _, _, _, _, _, rfl, ?_⟩
    conv => whnf
    repeat' first | ((first | refine Qz ?_ | refine Qf (cg) ?_ | refine Qy ?_) <;> conv => whnf) | (refine WB.tt ?_; conv => whnf) | (refine WB.ff ?_; conv => whnf)
    refine ⟨_, _, _, _, _, _, _, Gj g first caps b true, .o (.o .h), rfl, rfl, ?_, Nat.le_refl _, rfl⟩
    refine Shr.kp ?_ (vW h1 h2 _ (by decide))
    unfold Gj FL
    (repeat' first | exact T.le_e _ | exact T.le_refl _ | refine T.le_some ?_ rfl ?_ | refine T.le_none ?_ ?_ | refine T.le_ee ?_ ?_)
  | false =>
    rw [hP] at cg
    refine WRnd.run rfl rG sK ⟨_, rfl, ?_⟩
    conv => whnf
    repeat' first | ((first | refine Qz ?_) <;> conv => whnf)
    refine ⟨rfl, rfl, _, _, _, _, _, _, rfl, ?_⟩
    conv => whnf
    repeat' first | ((first | refine Qz ?_ | refine Qf (cg) ?_ | refine Qy ?_) <;> conv => whnf) | (refine WB.tt ?_; conv => whnf) | (refine WB.ff ?_; conv => whnf)
    refine ⟨_, _, _, _, _, _, _, Gj g first caps b false, .o (.o .h), rfl, rfl, ?_, Nat.le_refl _, rfl⟩
    refine Shr.kp ?_ (vW h1 h2 _ (by decide))
    unfold Gj FL
    (repeat' first | exact T.le_e _ | exact T.le_refl _ | refine T.le_some ?_ rfl ?_ | refine T.le_none ?_ ?_ | refine T.le_ee ?_ ?_)
theorem Cb {x1 x2 x3 x4 x5 x6 y1 y2 y3 y4 y5 : Option C} : Beside (.o (.i .h)) (mX y1 y2 y3 y4 y5 none) (mX x1 x2 x3 x4 x5 x6) (mX y1 y2 y3 y4 y5 x6) := by
  refine ⟨fun id c' hid hc => ?_, fun id hle => ?_⟩
  · cases id with
    | h => exact hc
    | o p => cases p with
      | h => exact hc
      | o q => cases q with
        | h => exact hc
        | o r => exact hc
        | i r => exact hc
      | i q => have := q.nat_pos; have hid : 2 * (2 * q.nat + 1) < 6 := hid; omega
    | i p => cases p with
      | h => exact hc
      | o q => cases q with
        | h => exact hc
        | o r => exact hc
        | i r => exact hc
      | i q => exact hc
  · cases id with
    | h => exact absurd hle (by decide)
    | o p => cases p with
      | h => exact absurd hle (by decide)
      | o q => cases q with
        | h => exact absurd hle (by decide)
        | o r => rfl
        | i r => rfl
      | i q => rfl
    | i p => cases p with
      | h => exact absurd hle (by decide)
      | o q => cases q with
        | h => exact absurd hle (by decide)
        | o r => rfl
        | i r => rfl
      | i q => rfl
theorem T.le_sameS {α : Type} {l r l' r' : T α} {v : Option α} (hl : T.le l l') (hr : T.le r r') : T.le (.n l v r) (.n l' v r') := T.le_n hl (.inr rfl) hr
def Hu (b : Bh) (h : Nat) (W : List Int) (j : Nat) : T D := (.n (.n (.n .e (some (.pt (.o (.o .h)) 0 0)) .e) (some (.i .i64 (h : Int))) (.n .e (some (.pt (.o (.i .h)) 0 0)) (.n (.n .e (some (.i .i64 (W.length : Int))) .e) none .e))) none (.n (.n .e (some (.pt (.i (.o .h)) 0 0)) (.n (.n .e (some (.lst 1 (ints W))) .e) none .e)) (some (.pl (dW b) 0)) (.n .e none (.n (.n .e (some (.i .i64 (j : Int))) .e) none .e))))
theorem IL {b : Bh} {h : Nat} {W : List Int} {j n : Nat} (hn : 7 ≤ n) : ∀ s d, (Hu b h W j).get s = some d → Kp n d := by
  show TAll (fun _ d => Kp n d) (Hu b h W j)
  unfold Hu
  repeat' first | exact TAll.e | refine TAll.some ?_ ?_ ?_ | refine TAll.none ?_ ?_
  all_goals simp [Kp, KpL, Pu, aQ, aB, Pos.nat]
  all_goals omega
theorem Iq (c : Nat → Int) (n : Nat) : KpC n (Np c) := by
  refine KpL.all ?_
  simp [zH, KpL, Kp, Cell.d, Pu]
theorem HS {g : Pos} {first caps : List D} {b : Bh} (h1 : aR first) (h2 : aR caps) (s : Bool) (c : Nat → Int) {n : Nat} (hn : 7 ≤ n) : KpO n (Hd g first caps b s (some (Np c))) := by
  have k := mQ (g := g) (b := b) h1 h2 s (n := n) (by omega)
  intro id x hx
  by_cases e : id = .o (.i .h)
  · subst e
    cases hx
    exact ⟨by show 6 < n; omega, Iq c n⟩
  · refine k id x ?_
    cases id with
    | h => exact hx
    | o p => cases p with
      | h => exact hx
      | o q => exact hx
      | i q => cases q with
        | h => exact absurd rfl e
        | o r => exact hx
        | i r => exact hx
    | i p => exact hx
section
variable {g : Pos} {first caps : List D} {b : Bh} {P : (Nat → Int) → Bool}
set_option maxHeartbeats 8000000 in
theorem yQ (h1 : aR first) (h2 : aR caps) (hg : ∀ c, PureF Tryz.prog g.ix (first ++ ([.ag (zH c)] ++ caps)) (.b (P c))) (V : VW b) (l1 : ∀ w ∈ b.winds, w.length ≤ 1000) (l2 : b.nts.length ≤ 1000) : ∀ (m h : Nat), ((h + m : Nat) : Int) = b.last + 1 → ∀ c,
    CallOk Tryz.prog p148.ix [.ag (zH c), .i .i64 (h : Int), .pl (dW b) 0, .pt (.o (.o .h)) 0 0, .pt (.i (.o .h)) 0 0] (Hd g first caps b false none) (.o (.i .h)) none (.b (!(vA b m h c).any P)) (Hd g first caps b ((vA b m h c).any P) none) (.o (.i .h)) none
  | 0, h, hm, c => by
    have R := Ik (g := g) (b := b) h1 h2 hg c
    have hP : (vA b 0 h c).any P = P c := by simp [vA]
    rw [hP]
    refine CallOk.run HE (by simp) (Nat.le_refl _) ?_; conv => whnf
    repeat' first | ((first | refine Qz ?_ | with_reducible (first | refine Qm ?_ | refine Qn ?_ | refine Qo ?_ | refine Qp ?_ | refine WB.nt ?_ | refine WB.nf ?_ | refine WB.dec (fun h => ?_) (fun h => ?_) | refine WB.ndec (fun h => ?_) (fun h => ?_)) | refine WB.mk (fun h => ?_) (fun h => ?_)) <;> conv => whnf) | (refine WB.tt ?_; conv => whnf) | (refine WB.ff ?_; conv => whnf)
    refine WRnd.fr R (by decide) ?_ (vW h1 h2 _ (by decide)) ?_ Hc (by decide) (LgLe.refl _) (fun _ _ => trivial) ?_
    · show T.le (FL _ _ _) (mX _ _ _ _ _ _)
      unfold FL mX
      (repeat' first | exact T.le_e _ | exact T.le_refl _ | refine T.le_sameS ?_ ?_ | refine T.le_none ?_ ?_ | refine T.le_ee ?_ ?_)
    · simp [KpL, Kp, Pu, aR, zH]
    conv => whnf
    repeat' first | ((first | refine Qz ?_) <;> conv => whnf)
    refine ⟨.inr rfl, ⟨_, rfl, .pu trivial⟩, Shr.kp ?_ (mQ h1 h2 _ (by decide))⟩
    show T.le (mX _ _ _ _ _ _) _
    unfold mX
    (repeat' first | exact T.le_e _ | exact T.le_refl _ | refine T.le_sameS ?_ ?_ | refine T.le_none ?_ ?_ | refine T.le_ee ?_ ?_)
  | m + 1, h, hm, c => by
    have hv4 := V.last
    have hwl := V.winl
    have h5 : h < 5 := by omega
    have hh : h < b.winds.length := by omega
    have hl := l1 _ (aM (d := (default : List Int)) hh)
    have cW := BT b V h hh hl l2
    have ih := fun c => yQ h1 h2 hg V l1 l2 m (h + 1) (by omega) c
    have hno := Aa (b := b) (m := m) (h := h) (c := c) (P := P)
    have hyes := fun i hi => yA (b := b) (m := m) (h := h) (c := c) (P := P) (i := i) hi
    have hWl : (aJ b h).length ≤ 1000 := Nat.le_trans (List.length_filter_le _ _) (by exact hl)
    generalize aJ b h = W at *
    have e2 := aN W
    generalize hX : (vA b (m + 1) h c).any P = fo at *
    refine CallOk.run HE (by simp) (Nat.le_refl _) ?_; conv => whnf
    repeat' first | ((first | refine Qz ?_ | refine Qf (cW) ?_ | refine Qy ?_) <;> conv => whnf) | (refine WB.tt ?_; conv => whnf) | (refine WB.ff ?_; conv => whnf)
    refine Rn.loop (fun t : Nat × Int => ⟨Hu b h W t.1, Hd g first caps b false (some (Np (oG c h t.2))), .i (.i .h), none⟩) (fun t => t.1 ≤ W.length ∧ ∀ i, i < t.1 → (vA b m (h + 1) (oG c h (W.getD i 0))).any P = false) (fun t => W.length - t.1) (0, c h) ?_ ⟨Nat.zero_le _, fun i hi => absurd hi (Nat.not_lt_zero _)⟩ ?_
    · refine X.le.mk ?_ ?_ (Nat.le_refl _) rfl rfl
      · unfold Hu
        rw [← e2]
        (repeat' first | exact T.le_e _ | exact T.le_refl _ | refine T.le_some ?_ rfl ?_ | refine T.le_none ?_ ?_ | refine T.le_ee ?_ ?_)
      · rw [Cx]
        show T.le (mX _ _ _ _ _ _) _
        unfold mX
        (repeat' first | exact T.le_e _ | exact T.le_refl _ | refine T.le_some ?_ rfl ?_ | refine T.le_none ?_ ?_ | refine T.le_ee ?_ ?_)
    rintro ⟨j, v⟩ ⟨hj, ha⟩
    have hj : j ≤ W.length := hj
    have ha : ∀ i, i < j → (vA b m (h + 1) (oG c h (W.getD i 0))).any P = false := ha
    show Rn Tryz.prog 36 _ ⟨Hu b h W j, Hd g first caps b false (some (Np (oG c h v))), .i (.i .h), none⟩ _
    conv => whnf
    repeat' first | ((first | refine Qz ?_ | refine Qy ?_) <;> conv => whnf) | (refine WB.tt ?_; conv => whnf) | (refine WB.ff ?_; conv => whnf)
    refine WB.dec (fun hd => ?_) (fun hd => ?_) <;> conv => whnf
    · have hlt : j < W.length := by omega
      have C := ih (oG c h (W.getD j 0))
      cases hgo : (vA b m (h + 1) (oG c h (W.getD j 0))).any P with
      | true =>
        rw [hgo] at C
        have hX := hyes j hlt hgo
        subst hX
        clear ih hno hyes ha
        rcases uI h5 with rfl | rfl | rfl | rfl | rfl
        all_goals
          repeat' first | ((first | refine Qz ?_ | refine Qy ?_) <;> conv => whnf) | (refine WB.tt ?_; conv => whnf) | (refine WB.ff ?_; conv => whnf)
          refine WSt.ixaN rfl rfl rfl (by omega) ?_; conv => whnf
          repeat' first | ((first | refine Qz ?_ | refine Qy ?_) <;> conv => whnf) | (refine WB.tt ?_; conv => whnf) | (refine WB.ff ?_; conv => whnf)
          refine WCall.fr C ?_ (mQ h1 h2 _ (by decide)) ?_ Cb (by decide) (LgLe.refl _) (fun _ _ => trivial) ?_
          · show T.le (mX _ _ _ _ _ _) _
            unfold mX
            (repeat' first | exact T.le_e _ | exact T.le_refl _ | refine T.le_sameS ?_ ?_ | refine T.le_none ?_ ?_ | refine T.le_ee ?_ ?_)
          · simp [KpL, Kp, Pu, aR, Pos.nat, zH, aQ]
          conv => whnf
          repeat' first | ((first | refine Qz ?_ | refine Qy ?_) <;> conv => whnf) | (refine WB.tt ?_; conv => whnf) | (refine WB.ff ?_; conv => whnf)
          refine ⟨.inr rfl, ⟨_, rfl, .pu trivial⟩, Shr.kp ?_ (mQ h1 h2 _ (by decide))⟩
          show T.le (mX _ _ _ _ _ _) (mX _ _ _ _ _ _)
          unfold mX
          (repeat' first | exact T.le_e _ | exact T.le_refl _ | refine T.le_sameS ?_ ?_ | refine T.le_none ?_ ?_ | refine T.le_ee ?_ ?_)
      | false =>
        rw [hgo] at C
        clear ih hno hyes
        rcases uI h5 with rfl | rfl | rfl | rfl | rfl
        all_goals
          repeat' first | ((first | refine Qz ?_ | refine Qy ?_) <;> conv => whnf) | (refine WB.tt ?_; conv => whnf) | (refine WB.ff ?_; conv => whnf)
          refine WSt.ixaN rfl rfl rfl (by omega) ?_; conv => whnf
          repeat' first | ((first | refine Qz ?_ | refine Qy ?_) <;> conv => whnf) | (refine WB.tt ?_; conv => whnf) | (refine WB.ff ?_; conv => whnf)
          refine WCall.fr C ?_ (mQ h1 h2 _ (by decide)) ?_ Cb (by decide) (LgLe.refl _) (fun _ _ => trivial) ?_
          · show T.le (mX _ _ _ _ _ _) _
            unfold mX
            (repeat' first | exact T.le_e _ | exact T.le_refl _ | refine T.le_sameS ?_ ?_ | refine T.le_none ?_ ?_ | refine T.le_ee ?_ ?_)
          · simp [KpL, Kp, Pu, aR, Pos.nat, zH, aQ]
          conv => whnf
          repeat' first | ((first | refine Qz ?_ | refine Qy ?_) <;> conv => whnf) | (refine WB.tt ?_; conv => whnf) | (refine WB.ff ?_; conv => whnf)
          refine Again.to (j + 1, W.getD j 0) (show W.length - (j + 1) < W.length - j by omega) ⟨show j + 1 ≤ W.length by omega, fun i hi => ?_⟩ (Nat.le_refl _) (Shr.kp2 ?_ (IL (by decide)) ?_ (HS h1 h2 _ _ (by decide)))
          · by_cases e : i = j
            · subst e; exact hgo
            · exact ha i (by have hi : i < j + 1 := hi; omega)
          · show T.le (Hu b _ W (j + 1)) _
            unfold Hu
            (repeat' first | exact T.le_e _ | exact T.le_refl _ | refine T.le_some ?_ rfl ?_ | refine T.le_none ?_ ?_ | refine T.le_ee ?_ ?_)
          · show T.le (mX _ _ _ _ _ _) (mX _ _ _ _ _ _)
            unfold mX
            (repeat' first | exact T.le_e _ | exact T.le_refl _ | refine T.le_sameS ?_ ?_ | refine T.le_none ?_ ?_ | refine T.le_ee ?_ ?_)
    · have hX := hno fun i hi => ha i (by omega)
      subst hX
      repeat' first | ((first | refine Qz ?_ | refine Qy ?_) <;> conv => whnf) | (refine WB.tt ?_; conv => whnf) | (refine WB.ff ?_; conv => whnf)
      refine ⟨.inr rfl, ⟨_, rfl, .pu trivial⟩, Shr.kp ?_ (mQ h1 h2 _ (by decide))⟩
      show T.le (mX _ _ _ _ _ _) (mX _ _ _ _ _ _)
      unfold mX
      (repeat' first | exact T.le_e _ | exact T.le_refl _ | refine T.le_sameS ?_ ?_ | refine T.le_none ?_ ?_ | refine T.le_ee ?_ ?_)
end
open Go.RowKit (Below Grown)
theorem mL {α : Type} : ∀ (n : Nat) (l : List α), eP n l = l.drop n
 | 0, l => rfl
 | n + 1, [] => rfl
 | n + 1, _ :: l => mL n l
theorem Vis.nil {st : Nat} {l : List Cell} : Vis st l [] := fun k d hk => by cases hk
theorem Vis.app {st : Nat} {l : List Cell} {a b : List D} (h : Vis st l a) (k : Vis st (l.drop a.length) b) : Vis st l (a ++ b) := fun i d hi => by
 by_cases hlt : i < a.length
 ·rw [List.getElem?_append_left hlt] at hi
  exact h i d hi
 ·rw [List.getElem?_append_right (by omega)] at hi
  obtain ⟨c, h1, h2⟩ := k _ d hi
  rw [List.getElem?_drop] at h1
  exact ⟨c, by rw [<- h1]; congr 1; omega, h2⟩
theorem uN {st : Nat} : ∀ {n : Nat} {l : List Cell} {ds : List D} {r : List Cell}, wC st n l = some (ds, r) -> ds.length = n /\ Vis st l ds /\ r = l.drop n
 | 0, l, ds, r, h => by cases h; exact ⟨rfl, Vis.nil, rfl⟩
 | n + 1, [], ds, r, h => by cases h
 | n + 1, c :: l, ds, r, h => by
   unfold wC at h
   cases hc : c.has st with
   | false => rw [hc] at h; cases h
   | true =>
     rw [hc, cond_true] at h
     split at h
     ·rename_i ds' r' h1
      cases h
      obtain ⟨k1, k2, k3⟩ := uN h1
      refine ⟨by rw [List.length_cons, k1], fun k d hk => ?_, k3⟩
      cases k with
      | zero => cases hk; exact ⟨c, rfl, hc, rfl⟩
      | succ k => exact k2 k d hk
     ·cases h
theorem sE {st z : Nat} : ∀ {n : Nat} {l : List Cell} {es : List (List D)}, yT st z n l = some es -> es.length = n /\ (∀ r ∈ es, r.length = z) /\ Vis st l es.flatten
 | 0, l, es, h => by cases h; exact ⟨rfl, (fun r hr => by cases hr), Vis.nil⟩
 | n + 1, l, es, h => by
   unfold yT at h
   split at h
   ·rename_i r l' h1
    split at h
    ·rename_i es' h2
     cases h
     obtain ⟨k1, k2, rfl⟩ := uN h1
     obtain ⟨k3, k4, k5⟩ := sE h2
     refine ⟨by rw [List.length_cons, k3], fun q hq => ?_, ?_⟩
     ·rcases List.mem_cons.1 hq with e | hq
      ·rw [e]; exact k1
      ·exact k4 q hq
     ·rw [List.flatten_cons]
      exact k2.app (by rw [k1]; exact k5)
    ·cases h
   ·cases h
theorem zO {α β : Type} {f : α -> Option β} : ∀ {l : List α} {r : List β}, mpO f l = some r -> l.length = r.length /\ ∀ (i : Nat) (a : α), l[i]? = some a -> ∃ b, f a = some b /\ r[i]? = some b
 | [], r, h => by cases h; exact ⟨rfl, fun i a hi => by cases hi⟩
 | a :: l, r, h => by
   unfold mpO at h
   split at h
   ·rename_i b hb
    split at h
    ·rename_i r' hr
     cases h
     obtain ⟨k1, k2⟩ := zO hr
     refine ⟨by simp [k1], fun i x hi => ?_⟩
     cases i with
     | zero => cases hi; exact ⟨b, hb, rfl⟩
     | succ i => exact k2 i x hi
    ·cases h
   ·cases h
theorem jE {α β : Type} {f : α -> Option β} {a : α} {l : List α} {r : List β} (h : mpO f (a :: l) = some r) : ∃ b r', f a = some b /\ mpO f l = some r' /\ r = b :: r' := by
 unfold mpO at h
 split at h
 ·rename_i b hb
  split at h
  ·rename_i r' hr
   cases h
   exact ⟨b, r', hb, hr, rfl⟩
  ·cases h
 ·cases h
section
variable {B : Pos -> Prop} {ob : T C}
theorem oK {f : D -> Option D} (hf : ∀ d e, f d = some e -> Fz B ob d e) : ∀ {l r : List D}, mpO f l = some r -> FzL B ob l r
 | [], r, h => by cases h; exact .nil
 | a :: l, r, h => by
   obtain ⟨b, r', h1, h2, rfl⟩ := jE h
   exact .cons (hf _ _ h1) (oK hf h2)
theorem wK {f : D -> Option D} (hf : ∀ d e, f d = some e -> Fz B ob d e) : ∀ {l r : List (List D)}, mpO (mpO f) l = some r -> FzE B ob l r
 | [], r, h => by cases h; exact .nil
 | a :: l, r, h => by
   obtain ⟨b, r', h1, h2, rfl⟩ := jE h
   exact .cons (oK hf h1) (wK hf h2)
theorem rC {f : D -> Option D} (hf : ∀ d e, f d = some e -> Pu e) : ∀ {l r : List D}, mpO f l = some r -> aR r
 | [], r, h => by cases h; trivial
 | a :: l, r, h => by
   obtain ⟨b, r', h1, h2, rfl⟩ := jE h
   unfold aR
   exact ⟨hf _ _ h1, rC hf h2⟩
theorem vJ {f : D -> Option D} (hf : ∀ d e, f d = some e -> Pu e) : ∀ {l r : List (List D)}, mpO (mpO f) l = some r -> dL r
 | [], r, h => by cases h; trivial
 | a :: l, r, h => by
   obtain ⟨b, r', h1, h2, rfl⟩ := jE h
   unfold dL
   exact ⟨rC hf h1, vJ hf h2⟩
theorem AC (hB : ∀ id, ¬ B id) : ∀ {n : Nat} {d e : D}, Fu ob n d = some e -> Fz B ob d e /\ Pu e
 | 0, _, _, h => by cases h
 | n + 1, d, e, h => by
   have i1 : ∀ d e, Fu ob n d = some e -> Fz B ob d e := fun _ _ h => (AC hB h).1
   have i2 : ∀ d e, Fu ob n d = some e -> Pu e := fun _ _ h => (AC hB h).2
   unfold Fu at h
   cases d
   case sl id off len st z =>
    dsimp only at h
    split at h
    ·rename_i ro cs cur hc
     split at h
     ·rename_i es hes
      split at h
      ·rename_i fs hfs
       cases h
       obtain ⟨k1, k2, k3⟩ := sE hes
       rw [mL] at k3
       exact ⟨.sl (hB id) hc k1 k2 k3 (wK i1 hfs), by unfold Pu; exact vJ i2 hfs⟩
      ·cases h
     ·cases h
    ·cases h
   case lst z es =>
    dsimp only at h
    split at h
    ·rename_i fs hfs
     cases h
     exact ⟨.lst (wK i1 hfs), by unfold Pu; exact vJ i2 hfs⟩
    ·cases h
   case ag cs =>
    dsimp only at h
    split at h
    ·rename_i fs hfs
     cases h
     exact ⟨.ag (oK i1 hfs), by unfold Pu; exact rC i2 hfs⟩
    ·cases h
   case tp cs =>
    dsimp only at h
    split at h
    ·rename_i fs hfs
     cases h
     exact ⟨.tp (oK i1 hfs), by unfold Pu; exact rC i2 hfs⟩
    ·cases h
   all_goals first | (cases h; done) | (cases h; exact ⟨.pu (by unfold Pu; trivial), by unfold Pu; trivial⟩)
end
def GE (ob : T C) : Nat -> D -> Option D
 | 0, _ => none
 | n + 1, d => match d with
   | .sl id off len st z => match ob.get id with
     | some (.cells _ cs _) => match yT st z len (eP off cs) with
       | some es => match mpO (mpO (GE ob n)) es with
         | some fs => some (.lst z fs)
         | none => none
       | none => none
     | _ => none
   | .ag cs => match mpO (GE ob n) cs with
     | some ds => some (.ag ds)
     | none => none
   | .tp cs => match mpO (GE ob n) cs with
     | some ds => some (.tp ds)
     | none => none
   | .b x => some (.b x)
   | .i k n => some (.i k n)
   | .ns => some .ns
   | .em => some .em
   | .np => some .np
   | .nf => some .nf
   | .nm => some .nm
   | _ => none
section
variable {P : Program} {γ γ' : Gh} {w : World} {ob : T C}
theorem rE {f : D -> Option D} (hf : ∀ d e, f d = some e -> ∀ v, DV γ w d v -> DV γ' w e v) : ∀ {l r : List D}, mpO f l = some r -> ∀ vs, DVL γ w l vs -> DVL γ' w r vs
 | [], r, h, vs, H => by cases h; unfold DVL at *; exact H
 | a :: l, r, h, vs, H => by
   obtain ⟨b, r', h1, h2, rfl⟩ := jE h
   unfold DVL at H ⊢
   obtain ⟨v, r, rfl, h4, h5⟩ := H
   exact ⟨v, r, rfl, hf _ _ h1 _ h4, rE hf h2 _ h5⟩
theorem AJ {f : D -> Option D} {z : Nat} (hf : ∀ d e, f d = some e -> ∀ v, DV γ w d v -> DV γ' w e v) : ∀ {l r : List (List D)}, mpO (mpO f) l = some r -> ∀ vs, DVE γ w z l vs -> DVE γ' w z r vs
 | [], r, h, vs, H => by cases h; unfold DVE; trivial
 | a :: l, r, h, vs, H => by
   obtain ⟨b, r', h1, h2, rfl⟩ := jE h
   unfold DVE at H ⊢
   exact ⟨by rw [<- (zO h1).1]; exact H.1, rE hf h1 _ H.2.1, AJ hf h2 _ H.2.2⟩
theorem Ah (hob : ∀ id c, ob.get id = some c -> HoldsO P γ w id c) (hown : ∀ id st vs e fr, st < γ.cur id -> w.heap[(γ.β id st).1]? = some (.cells vs e fr) -> γ'.im (γ.β id st).1) : ∀ {n : Nat} {d e : D}, GE ob n d = some e -> ∀ v, DV γ w d v -> DV γ' w e v
 | 0, _, _, h => by cases h
 | n + 1, d, e, h => by
   have ih : ∀ d e, GE ob n d = some e -> ∀ v, DV γ w d v -> DV γ' w e v := fun _ _ h => Ah hob hown h
   unfold GE at h
   cases d
   case sl id off len st z =>
    dsimp only at h
    split at h
    ·rename_i ro cs cur hg
     split at h
     ·rename_i es hes
      split at h
      ·rename_i fs hfs
       cases h
       obtain ⟨hl, hz, hv⟩ := sE hes
       rw [mL] at hv
       intro v H
       obtain ⟨e1, e2, cap, e, n, rfl, e4, e5, e6⟩ := jA H
       have hfl := (zO hfs).1
       obtain ⟨vs, e', fr, k1, k2, k3, k4⟩ := pQ (hob id _ hg) e1 e2 hv
       have hlen : es.flatten.length = es.length * z := by
        clear hv ih k2 k3 k4 hfl hl hfs hes
        induction es with
        | nil => simp
        | cons r es ih => simp [ih (fun r h => hz r (by simp [h])), hz r (by simp), Nat.add_mul]; omega
       have hsz : off - (γ.β id st).2 + es.length * z <= vs.size := by
        have h1 : w.shape? (γ.β id st).1 = some (e', vs.size) := dF k1
        rw [h1] at e5
        cases e5
        have : es.length * z <= cap * z := Nat.mul_le_mul_right z (by omega)
        omega
       unfold DV
       refine ⟨_, cap, by rw [<- hfl, hl], by omega, (fun h => by cases h), .inr ⟨_, _, vs, e', fr, hown id st _ _ _ e1 k1, k1, rfl, by rw [<- hfl]; exact hsz, ?_, ?_⟩⟩
       ·refine AJ ih hfs _ (kK hz ?_)
        rw [<- hlen]
        exact k3
       ·rw [<- hfl, <- hlen]; exact k4
      ·cases h
     ·cases h
    ·cases h
   case ag cs =>
    dsimp only at h
    split at h
    ·rename_i fs hfs
     cases h
     intro v H
     obtain ⟨vs, rfl, h2, h3⟩ := oC H
     unfold DV
     exact ⟨vs, rfl, rE ih hfs _ h2, h3⟩
    ·cases h
   case tp cs =>
    dsimp only at h
    split at h
    ·rename_i fs hfs
     cases h
     intro v H
     obtain ⟨vs, rfl, h2⟩ := sJ H
     unfold DV
     exact ⟨vs, rfl, rE ih hfs _ h2⟩
    ·cases h
   all_goals first | (cases h; done) | (cases h; intro v H; unfold DV at *; exact H)
end
theorem MemOk.of {P : Program} {f : FuncId} {es : List D} {v v' : D} {ob' : T C} {nx' : Pos} {lg' : Option (T Bool)} (K : CallOk P f es .e .h none v ob' nx' lg') (hz : GE ob' 12 v = some v') : MemOk P f es v' := by
 intro ob1 ds ob nx lg lg2 hds hle hl ht
 refine ⟨hl, Nat.le_refl _, Keeps.refl _ _, fun so hs γ args w gh hargs hob hnx => ?_⟩
 let γs : Gh := ⟨fun _ => 0, fun _ _ => (0, 0), fun b => γ.im b \/ ((∃ id st, st < γ.cur id /\ (γ.β id st).1 = b) /\ ∃ vs e fr, w.heap[b]? = some (.cells vs e fr))⟩
 have hargs' : DVL γs w es args.toList := by
  have h1 : DV γ w (.tp ds) (.tuple args) := by unfold DV; exact ⟨args, rfl, hargs⟩
  have h2 := Fz.ok (γ := γ) (γ' := γs) (B := fun _ => False) (fun b hb => .inl hb) (fun id c hc => hob id c (hs id (ht id c hc)) (hle id c hc)) (fun _ h => h.elim) (fun id st vs e fr _ hst hc => .inr ⟨⟨id, st, hst, rfl⟩, vs, e, fr, hc⟩) (.tp (oK (fun d e h => (AC (fun _ h => h) h).1) hds)) _ h1
  obtain ⟨vs, e, h3⟩ := sJ h2
  cases e
  exact h3
 obtain ⟨c1, c2⟩ := K.ok (fun _ => True) (fun _ _ => trivial) γs args w ⟨fun _ st h => absurd h (Nat.not_lt_zero st), fun _ st _ _ h => absurd h (Nat.not_lt_zero st), fun b hb => ⟨by
  rcases hb with hb | hb
  ·exact (gh.im b hb).1
  ·exact hb.2, fun _ st h => absurd h (Nat.not_lt_zero st)⟩, gh.gl.im fun _ h => .inl h⟩ hargs' (fun id c _ hc => by rw [T.get_e] at hc; cases hc) (fun _ _ _ => rfl)
 refine ⟨c1, fun ro m R hR => c2 ro m R fun γ' w' u gh' F hu hob' _ => ?_⟩
 have hb : ∀ b, b < w.heap.size -> w'.heap[b]? = w.heap[b]? := fun b hb => F.blk b hb fun id st _ hst => absurd hst (Nat.not_lt_zero st)
 have hnew : ∀ id st, st < γ'.cur id -> w.heap.size <= (γ'.β id st).1 := fun id st hst => by
  rcases F.new id st (Nat.zero_le _) hst with h | ⟨iA, h, _⟩
  ·exact h
  ·exact absurd h (Nat.not_lt_zero iA)
 let γ2 : Gh := ⟨γ.cur, γ.β, fun b => γ.im b \/ ((∃ id st, st < γ'.cur id /\ (γ'.β id st).1 = b) /\ ∃ vs e fr, w'.heap[b]? = some (.cells vs e fr))⟩
 have U : Up γ γ2 w w' := ⟨fun _ => Nat.le_refl _, fun _ _ _ => rfl, F.up.3, fun b hm => ⟨.inl hm, fun o ho => by rw [hb b (Array.getElem?_eq_some_iff.1 ho).1]; exact ho⟩⟩
 have U0 : Up γ γ w w' := ⟨fun _ => Nat.le_refl _, fun _ _ _ => rfl, F.up.3, fun b hm => ⟨hm, fun o ho => by rw [hb b (Array.getElem?_eq_some_iff.1 ho).1]; exact ho⟩⟩
 refine hR γ2 w' u ⟨fun id st hst => Nat.lt_of_lt_of_le (gh.ob id st hst) F.size, gh.inj, fun b hm => ?_, (gh.gl.up U0).im fun _ h => .inl h⟩ ⟨U, fun _ _ => rfl, fun b h1 _ => hb b h1, fun _ _ h1 h2 => absurd h2 (by show ¬ _ < γ.cur _; omega), fun b hm hlt => ?_, F.lp, F.size, F.os, F.tape, F.output, F.fz⟩
  (Ah (γ := γ') (γ' := γ2) (fun id c hc => hob' id c trivial hc) (fun id st vs e fr hst hc => .inr ⟨⟨id, st, hst, rfl⟩, vs, e, fr, hc⟩) hz u hu)
  (fun id c hid hc => HoldsO.mono U rfl (fun st hst => hb _ (gh.ob id st hst)) (hob id c hid hc)) hnx
 ·rcases hm with hm | ⟨⟨id', st', h1, h2⟩, h3⟩
  ·refine ⟨let ⟨⟨vs, e, fr, k1⟩, _⟩ := gh.im b hm; ⟨vs, e, fr, (U0.im b hm).2 _ k1⟩, (gh.im b hm).2⟩
  ·refine ⟨h3, fun id st hst e => ?_⟩
   have hlt := gh.ob id st hst
   have e : (γ.β id st).1 = b := e
   have := hnew id' st' h1
   omega
 ·rcases hm with hm | ⟨⟨id', st', h1, h2⟩, h3⟩
  ·exact hm
  ·have := hnew id' st' h1
   omega
def eZ (P : Program) (FP : T RF) (n : Nat) (f : Pos) (es : List D) : Option D :=
 match sQ FP (exec P FP n) f es .e .h none (fun v ob nx lg => match GE ob 12 v with
  | some d => some ⟨T.set .h d .e, .e, .h, none⟩
  | none => none) with
 | some y => y.sl.get .h
 | none => none
theorem MemOk.run {P : Program} {FP : T RF} (hFP : FPok P FP) {n : Nat} {f : Pos} {es : List D} {v : D} (h : eZ P FP n f es = some v) : MemOk P f.ix es v := by
 unfold eZ at h
 split at h
 ·rename_i y hy
  obtain ⟨v', ob', nx', lg', h1, C⟩ := jF hFP (qS hFP n).1 hy
  split at h1
  ·rename_i d hd
   cases h1
   rw [T.get_set_same] at h
   cases h
   exact MemOk.of C hd
  ·cases h1
 ·cases h
theorem Ei {x1 x2 x3 x4 x5 y1 y2 y3 y4 y5 : Option C} : Beside (.o (.i .h)) (mX y1 y2 y3 y4 y5 none) (.n (.n (.n .e x4 .e) x2 .e) x1 (.n (.n .e x5 .e) x3 .e)) (mX y1 y2 y3 y4 y5 none) := by
 refine ⟨fun id c' hid hc => hc, fun id hle => ?_⟩
 cases id with
 | h => exact absurd hle (by decide)
 | o p => cases p with
   | h => exact absurd hle (by decide)
   | o q => cases q with
     | h => exact absurd hle (by decide)
     | o r => rfl
     | i r => rfl
   | i q => cases q with
     | h => rfl
     | o r => rfl
     | i r => rfl
 | i p => cases p with
   | h => exact absurd hle (by decide)
   | o q => cases q with
     | h => exact absurd hle (by decide)
     | o r => rfl
     | i r => rfl
   | i q => rfl
def DS : Nat -> Int := fun _ => 0
def hrs (b : Bh) : Nat := (b.last + 1).toNat
def xH (b : Bh) : List (Nat -> Int) := vA b (hrs b) 0 DS
section
variable {g : Pos} {first caps : List D} {b : Bh} {P : (Nat -> Int) -> Bool}
theorem Cs (h1 : aR first) (h2 : aR caps) (hg : ∀ c, PureF Tryz.prog g.ix (first ++ ([.ag (zH c)] ++ caps)) (.b (P c))) (V : VW b) (l1 : ∀ w ∈ b.winds, w.length <= 1000) (l2 : b.nts.length <= 1000) :
 CallOk Tryz.prog p147.ix [.yl (.i .h), .pl (dW b) 0] (Gj g first caps b false) (.o (.o .h)) none (.tp []) (Gj g first caps b ((xH b).any P)) (.o (.o .h)) none := by
 have hv := V.last
 have C := yQ h1 h2 hg V l1 l2 (hrs b) 0 (by unfold hrs; omega) DS
 have C : CallOk Tryz.prog p148.ix [.ag (zH DS), .i .i64 0, .pl (dW b) 0, .pt (.o (.o .h)) 0 0, .pt (.i (.o .h)) 0 0] (Hd g first caps b false none) (.o (.i .h)) none (.b (!(xH b).any P)) (Hd g first caps b ((xH b).any P) none) (.o (.i .h)) none := C
 refine CallOk.run Ne (by simp) (Nat.le_refl _) ?_; conv => whnf
 refine Qg ?_
 refine WCall.fr C ?_ (mQ h1 h2 _ (by decide)) ?_ Ei (Nat.le_refl _) (LgLe.refl _) (fun _ _ => trivial) ?_
 ·show T.le (mX _ _ _ _ _ _) _
  unfold mX
  (repeat' first | exact T.le_e _ | exact T.le_refl _ | refine T.le_sameS ?_ ?_ | refine T.le_none ?_ ?_ | refine T.le_ee ?_ ?_)
 ·simp [KpL, Kp, Pu, aR, Pos.nat, zH, aQ]
 conv => whnf
 refine Qg ?_
 refine ⟨.inl rfl, ⟨_, rfl, .pu trivial⟩, Shr.kp ?_ (vW h1 h2 _ (by decide))⟩
 show T.le (FL _ _ _) (mX _ _ _ _ _ _)
 unfold FL mX
 (repeat' first | exact T.le_e _ | exact T.le_refl _ | refine T.le_sameS ?_ ?_ | refine T.le_none ?_ ?_ | refine T.le_ee ?_ ?_)
theorem HV (h1 : aR first) (h2 : aR caps) (hg : ∀ c, PureF Tryz.prog g.ix (first ++ ([.ag (zH c)] ++ caps)) (.b (P c))) (V : VW b) (l1 : ∀ w ∈ b.winds, w.length <= 1000) (l2 : b.nts.length <= 1000) :
 PureF Tryz.prog p118.ix [.fn p147 [] [.pl (dW b) 0], .fn g first caps] (.b ((xH b).any P)) := by
 have C := Cs h1 h2 hg V l1 l2
 refine PureF.run Jm (by simp) (by simp [aR, dL, Pu, aQ, h1, h2]) ?_; conv => whnf
 refine Qg ?_
 refine Rn.le (a := ⟨Jd g first caps b, FL (some (Nd g first caps)) (some (JE false)) none, .i .h, none⟩) ?_ ?_
 ·cases hP : (xH b).any P with
  | true =>
    rw [hP] at C
    refine Rn.rf rfl rfl C rfl (by simp) ?_; conv => whnf
    refine Qg ?_
    exact ⟨.inr rfl, _, rfl, .pu trivial⟩
  | false =>
    rw [hP] at C
    refine Rn.rf rfl rfl C rfl (by simp) ?_; conv => whnf
    refine Qg ?_
    exact ⟨.inr rfl, _, rfl, .pu trivial⟩
 ·refine X.le.mk ?_ ?_ (by simp [Pos.nat]) rfl rfl
  ·unfold Jd
   exact Lw
  ·unfold FL
   exact Lw
end
theorem Ga (b : Bh) : PureF Tryz.prog p119.ix [.ag (dW b)] (.fn p147 [] [.pl (dW b) 0]) := by
 refine PureF.run JX (by simp) (by simp [aR, Pu, aQ]) ?_; conv => whnf
 refine Qg ?_
 refine Fin.t (.inr rfl) rfl ?_
 exact .fn .nil (.cons (Frz.ptr rfl rfl (by simp [dW]) (aQ b)) .nil)
theorem Id (c : Nat -> Int) : PureF Tryz.prog p143.ix [.ag (zH c)] (.b true) := by
 refine PureF.run JO (by simp) (by simp [aR, Pu, LV]) ?_; conv => whnf
 refine Qg ?_
 exact Fin.b rfl rfl
def gN (b : Bh) : Bool := (xH b).any fun _ => true
theorem AH (b : Bh) (V : VW b) (l1 : ∀ w ∈ b.winds, w.length <= 1000) (l2 : b.nts.length <= 1000) : PureF Tryz.prog p111.ix [.ag (dW b)] (.b (gN b)) := by
 have c1 := Ga b
 have c2 := HV (g := p143) (first := []) (caps := []) (P := fun _ => true) trivial trivial (fun c => Id c) V l1 l2
 refine PureF.run LM (by simp) (by simp [aR, Pu, aQ]) ?_; conv => whnf
 repeat' ((first | refine Qw ?_ | refine Qf c1 ?_ | refine Qf c2 ?_ | refine Qv ?_) <;> conv => whnf)
 exact Fin.b rfl rfl
def MP (c : Nat -> Int) : List Int := [c 0, c 1, c 2, c 3, c 4]
theorem WCall.borrow1 {P : Program} {f : Nat} {ds ds' : List D} {v : D} (h : PureF P f ds' v) (id : Pos) (c : C) {sl : T D} {ob : T C} {nx : Pos} {lg lg2 : Option (T Bool)} {d : Option Pos} {K : X -> Prop} (hz : FzL (fun _ => False) (T.set id c .e) ds ds') (hv : iD v) (hid : ob.get id = some c) (hlg2 : PP lg id = lg2) (k : mW sl ob nx lg2 d K v) : WCall P f ds d ⟨sl, ob, nx, lg⟩ K := by
 subst hlg2
 have hone : (T.set id c .e).get id = some c := T.get_set_same _ _ _
 have C := PureF.borrowL h (ob := ob) (ob1 := T.set id c .e) (ds := ds) hz (fun j c' hc => by
  by_cases e : j = id
  ·subst e; rw [hone] at hc; rw [<- hc]; exact hid
  ·rw [T.get_set_ne e _ _, T.get_e] at hc; cases hc) hv nx (Io lg id) (fun j c' hc => by
  by_cases e : j = id
  ·subst e; exact (Lb lg j).tchd
  ·rw [T.get_set_ne e _ _, T.get_e] at hc; cases hc)
 cases d with
 | none => exact ⟨_, _, _, _, _, C, rfl, k⟩
 | some d =>
   obtain ⟨h1, h2⟩ := bR k
   exact ⟨_, _, _, _, _, C, h1, h2⟩
def Nq (b : Bh) (l : List Int) : Bool := (xH b).any fun c => decide ((MP c).take (hrs b) = l)
theorem nG {b : Bh} : ∀ {m h : Nat} {c c' : Nat → Int}, c' ∈ vA b m h c ↔ (∀ i, h ≤ i → i < h + m → c' i ∈ aJ b i) ∧ ∀ i, (i < h ∨ h + m ≤ i) → c' i = c i
  | 0, h, c, c' => by
    unfold vA
    rw [List.mem_singleton]
    constructor
    · rintro rfl; exact ⟨fun i h1 h2 => absurd h2 (by omega), fun _ _ => rfl⟩
    · rintro ⟨_, k⟩
      exact funext fun i => k i (by omega)
  | m + 1, h, c, c' => by
    unfold vA
    rw [List.mem_flatMap]
    constructor
    · rintro ⟨f, hf, hc⟩
      obtain ⟨k1, k2⟩ := nG.1 hc
      refine ⟨fun i h1 h2 => ?_, fun i hi => ?_⟩
      · by_cases e : i = h
        · subst e; rw [k2 i (by omega), uS]; exact hf
        · exact k1 i (by omega) (by omega)
      · rw [k2 i (by omega), vT _ _ (by omega)]
    · rintro ⟨k1, k2⟩
      refine ⟨c' h, k1 h (by omega) (by omega), nG.2 ⟨fun i h1 h2 => k1 i (by omega) (by omega), fun i hi => ?_⟩⟩
      by_cases e : i = h
      · subst e; rw [uS]
      · rw [vT _ _ e]; exact k2 i (by omega)
structure TruP (b : Bh) (l : List Int) : Prop where
  len : l.length = hrs b
  mem : ∀ i, i < hrs b → l.getD i 0 ∈ aJ b i
theorem BP (c : Nat → Int) {i : Nat} (h : i < 5) : (MP c).getD i 0 = c i := by
  rcases uI h with rfl | rfl | rfl | rfl | rfl <;> rfl
theorem uK {l : List Int} {n i : Nat} (h : i < n) : (l.take n).getD i 0 = l.getD i 0 := by
  simp [List.getD, h]
theorem gE (l : List Int) {i : Nat} (h : i < l.length) : l[i] = l.getD i 0 := by simp [List.getD, h]
theorem Ca {b : Bh} (V : VW b) {l : List Int} : Nq b l = true ↔ TruP b l := by
  have hv := V.last
  have hn : hrs b ≤ 5 := by unfold hrs; omega
  unfold Nq xH
  rw [List.any_eq_true]
  constructor
  · rintro ⟨c, hc, e⟩
    have e := of_decide_eq_true e
    subst e
    obtain ⟨k1, _⟩ := nG.1 hc
    refine ⟨by simp [MP]; omega, fun i hi => ?_⟩
    rw [uK hi, BP c (by omega)]
    exact k1 i (Nat.zero_le _) (by omega)
  · rintro ⟨h1, h2⟩
    refine ⟨fun i => if i < hrs b then l.getD i 0 else 0, nG.2 ⟨fun i _ hi => ?_, fun i hi => ?_⟩, decide_eq_true ?_⟩
    · have hi : i < hrs b := by omega
      show (if i < hrs b then l.getD i 0 else 0) ∈ _
      rw [if_pos hi]; exact h2 i hi
    · have hi : ¬ i < hrs b := by omega
      show (if i < hrs b then l.getD i 0 else 0) = 0
      rw [if_neg hi]
    · refine List.ext_getElem (by simp [MP]; omega) fun i a1 a2 => ?_
      rw [gE _ a1, gE _ a2, uK (by omega), BP _ (by omega), if_pos (by omega)]
theorem jK {b : Bh} {i : Nat} {f : Int} : f ∈ aJ b i ↔ f ∈ b.winds.getD i default ∧ ∀ n ∈ b.nts, n.1 = (i : Int) → n.2 = f := by
  unfold aJ
  rw [List.mem_filter, List.all_eq_true]
  constructor
  · rintro ⟨a, k⟩
    exact ⟨a, fun n hn e => by rcases of_decide_eq_true (k n hn) with h | h; exact absurd e h; exact h⟩
  · rintro ⟨a, k⟩
    exact ⟨a, fun n hn => decide_eq_true (by by_cases e : n.1 = (i : Int); exact .inr (k n hn e); exact .inl e)⟩
def tI (b : Bh) (t : List Int) : Bool := decide (t.length = b.winds.length) && (List.range t.length).all fun i => DE (b.winds.getD i default) (t.getD i 0)
def yD (b : Bh) (t : List Int) : Bool := tI b t && b.nts.all fun n => decide (t.getD n.1.toNat 0 = n.2)
theorem oJ {l : List Int} {n : Int} : DE l n = true ↔ n ∈ l := by
  unfold DE
  rw [List.any_eq_true]
  constructor
  · rintro ⟨x, hx, e⟩; rw [← of_decide_eq_true e]; exact hx
  · intro h; exact ⟨n, h, decide_eq_true rfl⟩
theorem kD {b : Bh} {t : List Int} : tI b t = true ↔ t.length = b.winds.length ∧ ∀ i, i < b.winds.length → t.getD i 0 ∈ b.winds.getD i default := by
  unfold tI
  rw [Bool.and_eq_true, decide_eq_true_iff, List.all_eq_true]
  constructor
  · rintro ⟨a, k⟩
    exact ⟨a, fun i hi => oJ.1 (k i (List.mem_range.2 (by omega)))⟩
  · rintro ⟨a, k⟩
    exact ⟨a, fun i hi => oJ.2 (k i (by have := List.mem_range.1 hi; omega))⟩
theorem VW.hrs {b : Bh} (V : VW b) : Go.Ev.hrs b = b.winds.length := by
  have := V.last; have := V.winl
  unfold Go.Ev.hrs; omega
theorem yN {b : Bh} (V : VW b) {t : List Int} : yD b t = true ↔ TruP b t := by
  unfold yD
  rw [Bool.and_eq_true, kD, List.all_eq_true]
  have hh := V.hrs
  have hv := V.last
  constructor
  · rintro ⟨⟨a, k⟩, q⟩
    refine ⟨by omega, fun i hi => jK.2 ⟨k i (by omega), fun n hn e => ?_⟩⟩
    have := of_decide_eq_true (q n hn)
    rw [e] at this
    exact this.symm
  · rintro ⟨a, k⟩
    refine ⟨⟨by omega, fun i hi => (jK.1 (k i (by omega))).1⟩, fun n hn => decide_eq_true ?_⟩
    have hb := xE hv (List.all_eq_true.1 V.nts n hn)
    have hb2 := aX (by have := List.all_eq_true.1 V.nts n hn; unfold gY at this; rw [Bool.and_eq_true] at this; exact this.1)
    have hi : n.1.toNat < Go.Ev.hrs b := by unfold Go.Ev.hrs; omega
    exact ((jK.1 (k _ hi)).2 n hn (by omega)).symm
theorem AI (b : Bh) (t : List Int) (l1 : ∀ w ∈ b.winds, w.length ≤ 1000) (l3 : b.winds.length ≤ 1000) : PureF Tryz.prog p32.ix [.ag (dW b), .lst 1 (ints t)] (.b (tI b t)) := by
  have e1 := aH bY b.winds
  have e2 := aN t
  refine PureF.run PO (by simp) (by simp [aR, Pu, aQ, aB]) ?_; conv => whnf
  by_cases hl : t.length = b.winds.length
  rotate_left
  · have hr : tI b t = false := by
      cases h : tI b t with
      | false => rfl
      | true => exact absurd (kD.1 h).1 hl
    rw [hr]
    repeat' first | ((first | refine Qz ?_ | with_reducible (first | refine Qm ?_ | refine Qn ?_ | refine Qo ?_ | refine Qp ?_ | refine WB.nt ?_ | refine WB.nf ?_ | refine WB.dec (fun h => ?_) (fun h => ?_) | refine WB.ndec (fun h => ?_) (fun h => ?_)) | refine WB.mk (fun h => ?_) (fun h => ?_)) <;> conv => whnf) | (refine WB.tt ?_; conv => whnf) | (refine WB.ff ?_; conv => whnf)
    exact Fin.b rfl rfl
  repeat' first | ((first | refine Qz ?_ | with_reducible (first | refine Qm ?_ | refine Qn ?_ | refine Qo ?_ | refine Qp ?_ | refine WB.nt ?_ | refine WB.nf ?_ | refine WB.dec (fun h => ?_) (fun h => ?_) | refine WB.ndec (fun h => ?_) (fun h => ?_)) | refine WB.mk (fun h => ?_) (fun h => ?_)) <;> conv => whnf) | (refine WB.tt ?_; conv => whnf) | (refine WB.ff ?_; conv => whnf)
  refine Rn.loop (fun j : Nat => ⟨(.n (.n .e (some (.lst 1 (ints t))) (.n .e (some (.i .i64 (j : Int))) .e)) none (.n .e (some (.pt .h 0 0)) .e)), .n .e (some (bZ b)) .e, .o .h, none⟩) (fun j => j ≤ t.length ∧ ∀ i, i < j → t.getD i 0 ∈ b.winds.getD i default) (fun j => t.length - j) 0 ?_ ⟨Nat.zero_le _, fun i hi => absurd hi (Nat.not_lt_zero _)⟩ ?_
  · refine X.le.mk ?_ ?_ (Nat.le_refl _) rfl rfl
    all_goals (repeat' first | exact T.le_e _ | exact T.le_refl _ | refine T.le_some ?_ rfl ?_ | refine T.le_none ?_ ?_ | refine T.le_ee ?_ ?_)
  rintro j ⟨hj, ha⟩
  conv => whnf
  repeat' first | ((first | refine Qz ?_ | refine Qy ?_) <;> conv => whnf) | (refine WB.tt ?_; conv => whnf) | (refine WB.ff ?_; conv => whnf)
  refine WB.dec (fun h => ?_) (fun h => ?_) <;> conv => whnf
  · have hlt : j < t.length := by omega
    have cH := Jh (b.winds.getD j default) (t.getD j 0) (l1 _ (aM (d := (default : List Int)) (by omega)))
    cases hh : DE (b.winds.getD j default) (t.getD j 0) with
    | false =>
      have hr : tI b t = false := by
        cases h : tI b t with
        | false => rfl
        | true =>
          have := oJ.2 ((kD.1 h).2 j (by omega))
          rw [hh] at this; cases this
      rw [hr]
      rw [hh] at cH
      repeat' first | ((first | refine Qz ?_ | refine Qf (cH) ?_ | refine Qy ?_) <;> conv => whnf) | (refine WB.tt ?_; conv => whnf) | (refine WB.ff ?_; conv => whnf)
      exact Fin.b rfl rfl
    | true =>
      rw [hh] at cH
      repeat' first | ((first | refine Qz ?_ | refine Qf (cH) ?_ | refine Qy ?_) <;> conv => whnf) | (refine WB.tt ?_; conv => whnf) | (refine WB.ff ?_; conv => whnf)
      refine Again.to (j + 1) (by omega) ⟨by omega, fun i hi => ?_⟩ (Nat.le_refl _) ?_
      · by_cases e : i = j
        · subst e; exact oJ.1 hh
        · exact ha i (by omega)
      · refine Shr.of ?_ ?_ rfl rfl
        · show Rel _ _ ((.n (.n .e (some (.lst 1 (ints t))) (.n .e (some (.i .i64 ((j + 1 : Nat) : Int))) .e)) none (.n .e (some (.pt .h 0 0)) .e)) : T D) _
          (repeat' first | exact Rel.e | refine Rel.some ?_ ?_ ?_ | refine Rel.none ?_ ?_ | refine Rel.ee ?_ ?_)
          all_goals show Fz _ _ _ _
          all_goals first | exact .pu trivial | exact .pu (aB _) | exact .kpt (show _ < 2 by simp [Pos.nat])
        · show Rel _ _ (.n .e (some (bZ b)) .e : T C) _
          (repeat' first | exact Rel.e | refine Rel.some ?_ ?_ ?_ | refine Rel.none ?_ ?_ | refine Rel.ee ?_ ?_)
          all_goals exact RO'.of (show _ < 2 by simp [Pos.nat]) (aL b)
  · have hr : tI b t = true := kD.2 ⟨hl, fun i hi => ha i (by omega)⟩
    rw [hr]
    repeat' first | ((first | refine Qz ?_ | refine Qy ?_) <;> conv => whnf) | (refine WB.tt ?_; conv => whnf) | (refine WB.ff ?_; conv => whnf)
    exact Fin.b rfl rfl
theorem CS (b : Bh) (V : VW b) (t : List Int) (l1 : ∀ w ∈ b.winds, w.length ≤ 1000) (l2 : b.nts.length ≤ 1000) : PureF Tryz.prog p30.ix [.ag (dW b), .lst 1 (ints t)] (.b (yD b t)) := by
  have hv := V.last
  have hwl := V.winl
  have e1 := aH aV b.nts
  have cL := AI b t l1 (by omega)
  refine PureF.run PB (by simp) (by simp [aR, Pu, aQ, aB]) ?_; conv => whnf
  unfold yD
  cases hL : tI b t with
  | false =>
    rw [hL] at cL
    repeat' first | ((first | refine Qz ?_ | refine Qf (cL) ?_ | refine Qy ?_) <;> conv => whnf) | (refine WB.tt ?_; conv => whnf) | (refine WB.ff ?_; conv => whnf)
    exact Fin.b rfl rfl
  | true =>
  rw [hL] at cL
  rw [Bool.true_and]
  obtain ⟨q1, q2⟩ := kD.1 hL
  have e2 := aN t
  repeat' first | ((first | refine Qz ?_ | refine Qf (cL) ?_ | refine Qy ?_) <;> conv => whnf) | (refine WB.tt ?_; conv => whnf) | (refine WB.ff ?_; conv => whnf)
  refine Rn.loop (fun j : Nat => ⟨(.n (.n .e (some (.lst 1 (ints t))) (.n .e (some (.i .i64 (j : Int))) .e)) none (.n .e (some (.pt .h 0 0)) .e)), .n .e (some (bZ b)) .e, .o .h, none⟩) (fun j => j ≤ b.nts.length ∧ (b.nts.take j).all (fun n => decide (t.getD n.1.toNat 0 = n.2)) = true) (fun j => b.nts.length - j) 0 ?_ ⟨Nat.zero_le _, by simp⟩ ?_
  · refine X.le.mk ?_ ?_ (Nat.le_refl _) rfl rfl
    all_goals (repeat' first | exact T.le_e _ | exact T.le_refl _ | refine T.le_some ?_ rfl ?_ | refine T.le_none ?_ ?_ | refine T.le_ee ?_ ?_)
  rintro j ⟨hj, ha⟩
  conv => whnf
  repeat' first | ((first | refine Qz ?_ | refine Qy ?_) <;> conv => whnf) | (refine WB.tt ?_; conv => whnf) | (refine WB.ff ?_; conv => whnf)
  refine WB.dec (fun h => ?_) (fun h => ?_) <;> conv => whnf
  · have hlt : j < b.nts.length := by omega
    have hnt := hG (d := default) V.nts hlt
    unfold gY at hnt
    rw [Bool.and_eq_true] at hnt
    have hb := aX hnt.1
    obtain ⟨i, hi⟩ := Int.eq_ofNat_of_zero_le hb.1
    repeat' first | ((first | refine Qz ?_ | refine Qy ?_) <;> conv => whnf) | (refine WB.tt ?_; conv => whnf) | (refine WB.ff ?_; conv => whnf)
    refine WIx.intsE (j := i) hi (by omega) ?_; conv => whnf
    repeat' first | ((first | refine Qz ?_ | refine Qy ?_) <;> conv => whnf) | (refine WB.tt ?_; conv => whnf) | (refine WB.ff ?_; conv => whnf)
    have hin : (b.nts.getD j default).1.toNat = i := by rw [hi]; rfl
    refine WB.ndec (fun h2 => ?_) (fun h2 => ?_) <;> conv => whnf
    · repeat' first | ((first | refine Qz ?_ | refine Qy ?_) <;> conv => whnf) | (refine WB.tt ?_; conv => whnf) | (refine WB.ff ?_; conv => whnf)
      exact Fin.b rfl (eO (d := default) hlt (decide_eq_false (by rw [hin]; exact h2))).symm
    · repeat' first | ((first | refine Qz ?_ | refine Qy ?_) <;> conv => whnf) | (refine WB.tt ?_; conv => whnf) | (refine WB.ff ?_; conv => whnf)
      refine Again.to (j + 1) (by omega) ⟨by omega, bQ (d := default) hlt ha (decide_eq_true (by rw [hin]; exact h2))⟩ (Nat.le_refl _) ?_
      refine Shr.of ?_ ?_ rfl rfl
      · show Rel _ _ ((.n (.n .e (some (.lst 1 (ints t))) (.n .e (some (.i .i64 ((j + 1 : Nat) : Int))) .e)) none (.n .e (some (.pt .h 0 0)) .e)) : T D) _
        (repeat' first | exact Rel.e | refine Rel.some ?_ ?_ ?_ | refine Rel.none ?_ ?_ | refine Rel.ee ?_ ?_)
        all_goals show Fz _ _ _ _
        all_goals first | exact .pu trivial | exact .pu (aB _) | exact .kpt (show _ < 2 by simp [Pos.nat])
      · show Rel _ _ (.n .e (some (bZ b)) .e : T C) _
        (repeat' first | exact Rel.e | refine Rel.some ?_ ?_ ?_ | refine Rel.none ?_ ?_ | refine Rel.ee ?_ ?_)
        all_goals exact RO'.of (show _ < 2 by simp [Pos.nat]) (aL b)
  · repeat' first | ((first | refine Qz ?_ | refine Qy ?_) <;> conv => whnf) | (refine WB.tt ?_; conv => whnf) | (refine WB.ff ?_; conv => whnf)
    exact Fin.b rfl (fS (by omega) ha).symm
end Go.Ev
end
