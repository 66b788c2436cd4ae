import Derived.Test.YtkbgaadfednjpaaGreatDoorEvULk
import Derived.Test.YtkbgaadfednjpaaGreatDoorEvU4f
import Derived.Test.YtkbgaadfednjpaaGreatDoorEvUDs
set_option linter.all false
set_option maxHeartbeats 8000000
noncomputable section
namespace Go.Ev
open Go.RowKit (Below Grown)
def Cv (γ γ' : Gh) (w : World) (d d' : D) : Prop := ∀ v, DV γ w d v -> DV γ' w d' v
def CvL (γ γ' : Gh) (w : World) (ds ds' : List D) : Prop := ∀ vs, DVL γ w ds vs -> DVL γ' w ds' vs
section
variable {γ γ' : Gh} {w : World}
theorem CvL.nil : CvL γ γ' w [] [] := fun vs h => by unfold DVL at h ⊢; exact h
theorem CvL.cons {d d' : D} {ds ds' : List D} (h : Cv γ γ' w d d') (k : CvL γ γ' w ds ds') : CvL γ γ' w (d :: ds) (d' :: ds') := fun vs H => by
 unfold DVL at H ⊢
 obtain ⟨v, r, h1, h2, h3⟩ := H
 exact ⟨v, r, h1, h v h2, k r h3⟩
theorem CvL.app {a a' b b' : List D} (h : CvL γ γ' w a a') (hl : a.length = a'.length) (k : CvL γ γ' w b b') : CvL γ γ' w (a ++ b) (a' ++ b') := fun vs H => by
 obtain ⟨l1, e1⟩ := aM.1 H
 have hv : vs = vs.take a.length ++ vs.drop a.length := (List.take_append_drop _ _).symm
 have t1 := H.take a.length
 have t2 := H.drop a.length
 rw [List.take_left'] at t1 <;> try rfl
 rw [List.drop_left'] at t2 <;> try rfl
 rw [hv]
 exact DVL.append (h _ t1) (k _ t2)
theorem Cv.pu (him : ∀ b, γ.im b -> γ'.im b) {d : D} (h : Pu d) : Cv γ γ' w d d := fun v H => DV.pu him d v h H
theorem CvL.pu (him : ∀ b, γ.im b -> γ'.im b) {ds : List D} (h : aT ds) : CvL γ γ' w ds ds := fun v H => DVL.pu him ds v h H
theorem Cv.any {d : D} : Cv γ γ' w d .any := fun v _ => by unfold DV; trivial
theorem Cv.ag {ds ds' : List D} (h : CvL γ γ' w ds ds') : Cv γ γ' w (.ag ds) (.ag ds') := fun v H => by
 unfold DV at H ⊢
 obtain ⟨vs, h1, h2, h3⟩ := H
 exact ⟨vs, h1, h _ h2, h3⟩
theorem Cv.tp {ds ds' : List D} (h : CvL γ γ' w ds ds') : Cv γ γ' w (.tp ds) (.tp ds') := fun v H => by
 unfold DV at H ⊢
 obtain ⟨vs, h1, h2⟩ := H
 exact ⟨vs, h1, h _ h2⟩
theorem Cv.fn {f : Pos} {x x' y y' : List D} (h : CvL γ γ' w x x') (k : CvL γ γ' w y y') : Cv γ γ' w (.fn f x y) (.fn f x' y') := fun v H => by
 unfold DV at H ⊢
 obtain ⟨vx, vy, h1, h2, h3⟩ := H
 exact ⟨vx, vy, h1, h _ h2, k _ h3⟩
end
theorem CallOk.sub {P : Program} {f : Nat} {ds ds' : List D} {ob ob' : T C} {nx nx' : Pos} {lg lg' : Option (T Bool)} {v : D} (h : CallOk P f ds' ob nx lg v ob' nx' lg') (k : ∀ γ w, CvL γ γ w ds ds') : CallOk P f ds ob nx lg v ob' nx' lg' :=
 ⟨h.hl, h.hx, h.hk, fun so hs γ args w gh ha ho hn => h.ok so hs γ args w gh (k γ w _ ha) ho hn⟩
theorem PureF.sub {P : Program} {f : Nat} {ds ds' : List D} {v : D} (h : PureF P f ds' v) (k : ∀ γ w, CvL γ γ w ds ds') : PureF P f ds v := fun ob nx lg => (h ob nx lg).sub k
def JO (id : Pos) (γ γ' : Gh) : Gh := sS (oH id) γ γ'
theorem Cv.mpO {γ γ' : Gh} {w : World} {id : Pos} : Cv γ' (JO id γ γ') w (.mp .h) (.mp id) := fun u h => by
 unfold DV at h ⊢
 show 0 < (sS (oH id) γ γ').cur id /\ u = .map (some ((sS (oH id) γ γ').β id 0).1)
 rw [eI (kH id), gS (kH id)]
 exact h
theorem WCall.of {P : Program} {f : Nat} {ds : List D} {d : Option Pos} {sl : T D} {ob ob2 : T C} {nx nx2 : Pos} {lg lg2 : Option (T Bool)} {K : X -> Prop} {v : D} (h : CallOk P f ds ob nx lg v ob2 nx2 lg2) (k : kP sl ob2 nx2 lg2 d K v) : WCall P f ds d ⟨sl, ob, nx, lg⟩ K := by
 cases d with
 | none => exact ⟨v, _, _, _, _, h, rfl, k⟩
 | some d =>
   obtain ⟨h1, h2⟩ := bF k
   exact ⟨v, _, _, _, _, h, h1, h2⟩
mutual
theorem Kp.up {n m : Nat} (h : n <= m) : ∀ d : D, Kp n d -> Kp m d
 | .pt _ _ _, k => by unfold Kp at k ⊢; omega
 | .yl _, k => by unfold Kp at k ⊢; omega
 | .sl _ _ _ _ _, k => by unfold Kp at k ⊢; omega
 | .mp _, k => by unfold Kp at k ⊢; omega
 | .fn _ x y, k => by unfold Kp at k ⊢; exact ⟨KpL.up h x k.1, KpL.up h y k.2⟩
 | .ag cs, k => by unfold Kp at k ⊢; exact KpL.up h cs k
 | .tp cs, k => by unfold Kp at k ⊢; exact KpL.up h cs k
 | .any, k => by unfold Kp at k ⊢; exact k
 | .b _, k => by unfold Kp at k ⊢; exact k
 | .i _ _, k => by unfold Kp at k ⊢; exact k
 | .s _, k => by unfold Kp at k ⊢; exact k
 | .np, k => by unfold Kp at k ⊢; exact k
 | .nf, k => by unfold Kp at k ⊢; exact k
 | .ni, k => by unfold Kp at k ⊢; exact k
 | .nm, k => by unfold Kp at k ⊢; exact k
 | .ns, k => by unfold Kp at k ⊢; exact k
 | .em, k => by unfold Kp at k ⊢; exact k
 | .ifc _ _, k => by unfold Kp at k ⊢; exact k
 | .lst _ _, k => by unfold Kp at k ⊢; exact k
 | .pl _ _, k => by unfold Kp at k ⊢; exact k
theorem KpL.up {n m : Nat} (h : n <= m) : ∀ ds : List D, KpL n ds -> KpL m ds
 | [], k => by unfold KpL at k ⊢; exact k
 | d :: ds, k => by unfold KpL at k ⊢; exact ⟨Kp.up h d k.1, KpL.up h ds k.2⟩
end
theorem KpC.up {n m : Nat} (h : n <= m) : ∀ {c : C}, KpC n c -> KpC m c
 | .cells _ _ _, k => fun c hc => Kp.up h _ (k c hc)
 | .lp _ _ _ _ _ _ _, k => fun s d hd => Kp.up h _ (k s d hd)
 | .map _, k => fun e he => ⟨Kp.up h _ (k e he).1, Kp.up h _ (k e he).2⟩
 | .hole, _ => trivial
theorem KpO.up {n m : Nat} (h : n <= m) {ob : T C} (k : KpO n ob) : KpO m ob := fun id c hc => ⟨Nat.lt_of_lt_of_le (k id c hc).1 h, (k id c hc).2.up h⟩
mutual
theorem Kp.pu {n : Nat} : ∀ d : D, Pu d -> Kp n d
 | .pt _ _ _, h => by unfold Pu at h; exact h.elim
 | .yl _, h => by unfold Pu at h; exact h.elim
 | .sl _ _ _ _ _, h => by unfold Pu at h; exact h.elim
 | .mp _, h => by unfold Pu at h; exact h.elim
 | .fn _ x y, h => by unfold Pu at h; unfold Kp; exact ⟨KpL.pu x h.1, KpL.pu y h.2⟩
 | .ag cs, h => by unfold Pu at h; unfold Kp; exact KpL.pu cs h
 | .tp cs, h => by unfold Pu at h; unfold Kp; exact KpL.pu cs h
 | .any, h => by unfold Kp; exact h
 | .b _, h => by unfold Kp; exact h
 | .i _ _, h => by unfold Kp; exact h
 | .s _, h => by unfold Kp; exact h
 | .np, h => by unfold Kp; exact h
 | .nf, h => by unfold Kp; exact h
 | .ni, h => by unfold Kp; exact h
 | .nm, h => by unfold Kp; exact h
 | .ns, h => by unfold Kp; exact h
 | .em, h => by unfold Kp; exact h
 | .ifc _ _, h => by unfold Kp; exact h
 | .lst _ _, h => by unfold Kp; exact h
 | .pl _ _, h => by unfold Kp; exact h
theorem KpL.pu {n : Nat} : ∀ ds : List D, aT ds -> KpL n ds
 | [], _ => by unfold KpL; trivial
 | d :: ds, h => by unfold aT at h; unfold KpL; exact ⟨Kp.pu d h.1, KpL.pu ds h.2⟩
end
inductive Fld {α σ : Type} (R : σ -> α -> σ -> Bool -> Prop) : List α -> σ -> σ -> Bool -> Prop where
 | nil {s : σ} : Fld R [] s s true
 | stop {a : α} {l : List α} {s s' : σ} (h : R s a s' false) : Fld R (a :: l) s s' false
 | go {a : α} {l : List α} {s s' s2 : σ} {g : Bool} (h : R s a s' true) (k : Fld R l s' s2 g) : Fld R (a :: l) s s2 g
theorem Fld.app {α σ : Type} {R : σ -> α -> σ -> Bool -> Prop} : ∀ {a b : List α} {s s1 s2 : σ} {g : Bool}, Fld R a s s1 true -> Fld R b s1 s2 g -> Fld R (a ++ b) s s2 g
 | [], _, _, _, _, _, h, k => by cases h; exact k
 | _ :: _, _, _, _, _, _, h, k => by
   cases h with
   | go h1 h2 => exact .go h1 (h2.app k)
open Go.Proofs
set_option maxRecDepth 100000
theorem RndOk.ofW {P : Program} {id : Pos} {ds : List D} {ob ob' : T C} {nx nx' : Pos} {v : D} (h : WRnd P id ds (some .h) ⟨.e, ob, nx, none⟩ (fun x => x = ⟨.n .e (some v) .e, ob', nx', none⟩)) : RndOk P id ds ob nx none v ob' nx' none := by
  obtain ⟨v1, ob1, nx1, lg1, Z, h1, h2, h3⟩ := h.ok
  subst h3
  have h2 : T.setK .h v1 (T.e : T D) (fun sl => some (⟨sl, ob1, nx1, lg1⟩ : X)) = some ⟨.n .e (some v) .e, ob', nx', none⟩ := h2
  rw [T.setK_eq] at h2
  obtain ⟨e1, e2, e3, e4⟩ := X.mk.inj (Option.some.inj h2)
  have e1 := congrArg (fun t => T.get t .h) e1
  have e1 : (T.set .h v1 (T.e : T D)).get .h = some v := e1
  rw [T.get_set_same] at e1
  have e1 := Option.some.inj e1
  subst e1 e2 e3 e4
  exact h1
def CG (x1 x2 x3 : Option C) : T C := .n (.n .e x2 .e) x1 (.n .e x3 .e)
theorem DI {x1 x2 x3 y1 y2 y3 : Option C} {a b c d : T C} : Beside (.o (.o .h)) (CG y1 y2 y3) (.n (.n a x2 b) x1 (.n c x3 d)) (.n (.n a y2 b) y1 (.n c y3 d)) := by
  refine ⟨fun id c' hid hc => ?_, fun id hle => ?_⟩
  · cases id with
    | h => exact hc
    | o p => cases p with
      | h => exact hc
      | o q => have := q.nat_pos; have hid : 2 * (2 * q.nat) < 4 := hid; omega
      | i q => have := q.nat_pos; have hid : 2 * (2 * q.nat + 1) < 4 := hid; omega
    | i p => cases p with
      | h => exact hc
      | o q => have := q.nat_pos; have hid : 2 * (2 * q.nat) + 1 < 4 := hid; omega
      | i q => have := q.nat_pos; have hid : 2 * (2 * q.nat + 1) + 1 < 4 := hid; omega
  · cases id with
    | h => exact absurd hle (by decide)
    | o p => cases p with
      | h => exact absurd hle (by decide)
      | o q => rfl
      | i q => rfl
    | i p => cases p with
      | h => exact absurd hle (by decide)
      | o q => rfl
      | i q => rfl
def mP (c : Nat → Int) (k : Nat) (v : Int) (i : Nat) : Int := bif Nat.beq i k then v else c i
theorem sF (c : Nat → Int) (k : Nat) (v : Int) : mP c k v k = v := by simp [mP]
theorem tD (c : Nat → Int) {k i : Nat} (v : Int) (h : i ≠ k) : mP c k v i = c i := by
  unfold mP
  rw [show Nat.beq i k = false from by
    cases e : Nat.beq i k with
    | false => rfl
    | true => exact absurd (Nat.eq_of_beq_eq_true e) h]
  rfl
theorem Ae (c : Nat → Int) (k : Nat) : mP c k (c k) = c := funext fun i => by
  by_cases e : i = k
  · subst e; rw [sF]
  · rw [tD _ _ e]
theorem vT {h : Nat} (k : h < 5) : h = 0 ∨ h = 1 ∨ h = 2 ∨ h = 3 ∨ h = 4 := by omega
def qU (c : Nat → Int) : List D := [.i .i64 (c 0), .i .i64 (c 1), .i .i64 (c 2), .i .i64 (c 3), .i .i64 (c 4)]
theorem If (c : Nat → Int) : aT (qU c) := by simp [qU, aT, Pu]
def Di (c : Nat → Int) : C := .cells false ((qU c).map fun d => Cell.o d 0) 1
def sK (b : Bh) : Nat → Nat → (Nat → Int) → List (Nat → Int)
  | 0, _, c => [c]
  | m + 1, h, c => (nD b h).flatMap fun f => sK b m (h + 1) (mP c h f)
theorem wS {b : Bh} {m h : Nat} {c : Nat → Int} {P : (Nat → Int) → Bool} (k : ∀ i, i < (nD b h).length → (sK b m (h + 1) (mP c h ((nD b h).getD i 0))).any P = false) : (sK b (m + 1) h c).any P = false := by
  unfold sK
  rw [List.any_flatMap, List.any_eq_false]
  intro f hf
  obtain ⟨i, hi, rfl⟩ := xB (d := (0 : Int)) hf
  rw [k i hi]; decide
theorem vB {b : Bh} {m h : Nat} {c : Nat → Int} {P : (Nat → Int) → Bool} {i : Nat} (hi : i < (nD b h).length) (k : (sK b m (h + 1) (mP c h ((nD b h).getD i 0))).any P = true) : (sK b (m + 1) h c).any P = true := by
  unfold sK
  rw [List.any_flatMap, List.any_eq_true]
  exact ⟨_, aR (d := (0 : Int)) hi, k⟩
def lK (x1 x2 x3 x4 x5 x6 : Option C) : T C := .n (.n (.n .e x4 .e) x2 (.n .e x6 .e)) x1 (.n (.n .e x5 .e) x3 .e)
def FM (g : Pos) (first caps : List D) (b : Bh) : T D := (.n (.n (.n .e (some (.pt .h 0 0)) .e) (some (.fn g first caps)) .e) none (.n (.n .e (some (.pt (.o .h) 0 0)) .e) none (.n .e (some (.fn p147 [] [.pl (eA b) 0])) .e)))
def Jh (g : Pos) (first caps : List D) : C := .cells false [.o (.fn g first caps) 0] 1
def Gk (s : Bool) : C := .cells false [.o (.b s) 0] 1
def JC (g : Pos) (first caps : List D) (b : Bh) (s : Bool) : C := .lp (FM g first caps b) [p8] 11 (Lz (aO Tryz.f117) 0) (Kb (aO Tryz.f117) 0) (bif s then .done else .ready) (bif s then some .ret else none)
def Da (g : Pos) (first caps : List D) (b : Bh) (s : Bool) : T C := CG (some (Jh g first caps)) (some (Gk s)) (some (JC g first caps b s))
def Ma : C := .cells false [.o (.yl (.i .h)) 0] 1
def Mc (b : Bh) : C := .cells false [.o (.fn p148 [] [.pl (eA b) 0, .pt (.o (.o .h)) 0 0, .pt (.i (.o .h)) 0 0]) 0] 1
def DJ (g : Pos) (first caps : List D) (b : Bh) (s : Bool) (x6 : Option C) : T C := lK (some (Jh g first caps)) (some (Gk s)) (some (JC g first caps b s)) (some Ma) (some (Mc b)) x6
section
variable {g : Pos} {first caps : List D} {b : Bh}
theorem Cy (h1 : aT first) (h2 : aT caps) {n : Nat} (hn : 4 ≤ n) : ∀ s d, (FM g first caps b).get s = some d → Kp n d := by
  have k1 := KpL.pu (n := n) first h1
  have k2 := KpL.pu (n := n) caps h2
  show TAll (fun _ d => Kp n d) (FM g first caps b)
  unfold FM
  repeat' first | exact TAll.e | refine TAll.some ?_ ?_ ?_ | refine TAll.none ?_ ?_
  all_goals simp [Kp, KpL, Pu, aX, k1, k2, Pos.nat]
  all_goals omega
theorem tF (h1 : aT first) (h2 : aT caps) (s : Bool) {n : Nat} (hn : 4 ≤ n) : KpO n (Da g first caps b s) := by
  have k1 := KpL.pu (n := n) first h1
  have k2 := KpL.pu (n := n) caps h2
  have hs := Cy h1 h2 hn (g := g) (b := b)
  show TAll (fun id c => id.nat < n ∧ KpC n c) _
  unfold Da CG Jh Gk JC
  repeat' first | exact TAll.e | refine TAll.some ?_ ?_ ?_ | refine TAll.none ?_ ?_
  all_goals refine ⟨by simp [Pos.nat]; omega, ?_⟩
  all_goals first
    | exact hs
    | (refine KpL.all ?_; simp [KpL, Kp, Cell.d, Pu, k1, k2, Pos.nat])
theorem lE (h1 : aT first) (h2 : aT caps) (s : Bool) {n : Nat} (hn : 6 ≤ n) : KpO n (DJ g first caps b s none) := by
  have k1 := KpL.pu (n := n) first h1
  have k2 := KpL.pu (n := n) caps h2
  have hs := Cy h1 h2 (n := n) (by omega) (g := g) (b := b)
  show TAll (fun id c => id.nat < n ∧ KpC n c) _
  unfold DJ lK Jh Gk JC Ma Mc
  repeat' first | exact TAll.e | refine TAll.some ?_ ?_ ?_ | refine TAll.none ?_ ?_
  all_goals refine ⟨by simp [Pos.nat]; omega, ?_⟩
  all_goals first
    | exact hs
    | (refine KpL.all ?_; simp [KpL, Kp, Cell.d, Pu, aX, k1, k2, Pos.nat]; try omega)
end
set_option maxHeartbeats 2000000 in
theorem EQ {g : Pos} {first caps : List D} {b : Bh} {P : (Nat → Int) → Bool} (h1 : aT first) (h2 : aT caps) (hg : ∀ c, PureF Tryz.prog g.ix (first ++ ([.ag (qU c)] ++ caps)) (.b (P c))) (c : Nat → Int) :
    RndOk Tryz.prog (.i .h) [.ag (qU c)] (Da g first caps b false) (.o (.o .h)) none (.b (!P c)) (Da g first caps b (P c)) (.o (.o .h)) none := by
  have cg := hg c
  refine RndOk.ofW ?_
  cases hP : P c with
  | true =>
    rw [hP] at cg
    refine WRnd.run rfl pA pY ⟨_, rfl, ?_⟩
    conv => whnf
    repeat' first | ((first | with_reducible apply WB.tt | with_reducible apply WB.ff | refine Rn.seq ?_ | refine Rn.reg ?_ | refine Rn.drw ?_ | refine Rn.blk ?_ | refine Rn.skip ?_ | refine Rn.ret ?_ | refine Rn.exit ?_ | refine Rn.cond rfl ?_ | refine And.intro (InR.i64 (by omega) (by omega)) ?_ | refine And.intro (show _ ≠ (0 : Int) by omega) ?_ | refine WIx.intsN (by omega) ?_ | refine WIx.rowsN (by omega) ?_) <;> conv => whnf)
    refine ⟨rfl, rfl, _, _, _, _, _, _, rfl, ?_⟩
    conv => whnf
    repeat' first | ((first | with_reducible apply WB.tt | with_reducible apply WB.ff | refine Rn.seq ?_ | refine Rn.reg ?_ | refine Rn.drw ?_ | refine Rn.blk ?_ | refine Rn.skip ?_ | refine Rn.ret ?_ | refine Rn.exit ?_ | refine Rn.cond rfl ?_ | refine And.intro (InR.i64 (by omega) (by omega)) ?_ | refine And.intro (show _ ≠ (0 : Int) by omega) ?_ | refine WIx.intsN (by omega) ?_ | refine WIx.rowsN (by omega) ?_ | refine WCall.pure (cg) ?_ | with_reducible refine WB.decT (by first | with_reducible rfl | assumption | omega | exact ⟨rfl, rfl⟩) ?_ | with_reducible refine WB.decF (by first | assumption | omega) ?_ | with_reducible refine WB.ndT (by first | with_reducible rfl | assumption | omega | exact ⟨rfl, rfl⟩) ?_ | with_reducible refine WB.ndF (by first | assumption | omega) ?_ | with_reducible refine WB.nt ?_ | with_reducible refine WB.nf ?_) <;> conv => whnf) | (refine WB.tt ?_; conv => whnf) | (refine WB.ff ?_; conv => whnf)
    refine ⟨_, _, _, _, _, _, _, Da g first caps b true, .o (.o .h), rfl, rfl, ?_, Nat.le_refl _, rfl⟩
    refine Shr.kp ?_ (tF h1 h2 _ (by decide))
    unfold Da CG
    (repeat' first | exact T.le_e _ | exact T.le_refl _ | refine T.le_some ?_ rfl ?_ | refine T.le_none ?_ ?_ | refine T.le_ee ?_ ?_)
  | false =>
    rw [hP] at cg
    refine WRnd.run rfl pA pY ⟨_, rfl, ?_⟩
    conv => whnf
    repeat' first | ((first | with_reducible apply WB.tt | with_reducible apply WB.ff | refine Rn.seq ?_ | refine Rn.reg ?_ | refine Rn.drw ?_ | refine Rn.blk ?_ | refine Rn.skip ?_ | refine Rn.ret ?_ | refine Rn.exit ?_ | refine Rn.cond rfl ?_ | refine And.intro (InR.i64 (by omega) (by omega)) ?_ | refine And.intro (show _ ≠ (0 : Int) by omega) ?_ | refine WIx.intsN (by omega) ?_ | refine WIx.rowsN (by omega) ?_) <;> conv => whnf)
    refine ⟨rfl, rfl, _, _, _, _, _, _, rfl, ?_⟩
    conv => whnf
    repeat' first | ((first | with_reducible apply WB.tt | with_reducible apply WB.ff | refine Rn.seq ?_ | refine Rn.reg ?_ | refine Rn.drw ?_ | refine Rn.blk ?_ | refine Rn.skip ?_ | refine Rn.ret ?_ | refine Rn.exit ?_ | refine Rn.cond rfl ?_ | refine And.intro (InR.i64 (by omega) (by omega)) ?_ | refine And.intro (show _ ≠ (0 : Int) by omega) ?_ | refine WIx.intsN (by omega) ?_ | refine WIx.rowsN (by omega) ?_ | refine WCall.pure (cg) ?_ | with_reducible refine WB.decT (by first | with_reducible rfl | assumption | omega | exact ⟨rfl, rfl⟩) ?_ | with_reducible refine WB.decF (by first | assumption | omega) ?_ | with_reducible refine WB.ndT (by first | with_reducible rfl | assumption | omega | exact ⟨rfl, rfl⟩) ?_ | with_reducible refine WB.ndF (by first | assumption | omega) ?_ | with_reducible refine WB.nt ?_ | with_reducible refine WB.nf ?_) <;> conv => whnf) | (refine WB.tt ?_; conv => whnf) | (refine WB.ff ?_; conv => whnf)
    refine ⟨_, _, _, _, _, _, _, Da g first caps b false, .o (.o .h), rfl, rfl, ?_, Nat.le_refl _, rfl⟩
    refine Shr.kp ?_ (tF h1 h2 _ (by decide))
    unfold Da CG
    (repeat' first | exact T.le_e _ | exact T.le_refl _ | refine T.le_some ?_ rfl ?_ | refine T.le_none ?_ ?_ | refine T.le_ee ?_ ?_)
theorem zS {x1 x2 x3 x4 x5 x6 y1 y2 y3 y4 y5 : Option C} : Beside (.o (.i .h)) (lK y1 y2 y3 y4 y5 none) (lK x1 x2 x3 x4 x5 x6) (lK y1 y2 y3 y4 y5 x6) := by
  refine ⟨fun id c' hid hc => ?_, fun id hle => ?_⟩
  · cases id with
    | h => exact hc
    | o p => cases p with
      | h => exact hc
      | o q => cases q with
        | h => exact hc
        | o r => exact hc
        | i r => exact hc
      | i q => have := q.nat_pos; have hid : 2 * (2 * q.nat + 1) < 6 := hid; omega
    | i p => cases p with
      | h => exact hc
      | o q => cases q with
        | h => exact hc
        | o r => exact hc
        | i r => exact hc
      | i q => exact hc
  · cases id with
    | h => exact absurd hle (by decide)
    | o p => cases p with
      | h => exact absurd hle (by decide)
      | o q => cases q with
        | h => exact absurd hle (by decide)
        | o r => rfl
        | i r => rfl
      | i q => rfl
    | i p => cases p with
      | h => exact absurd hle (by decide)
      | o q => cases q with
        | h => exact absurd hle (by decide)
        | o r => rfl
        | i r => rfl
      | i q => rfl
theorem T.le_sameS {α : Type} {l r l' r' : T α} {v : Option α} (hl : T.le l l') (hr : T.le r r') : T.le (.n l v r) (.n l' v r') := T.le_n hl (.inr rfl) hr
def DX (b : Bh) (h : Nat) (W : List Int) (j : Nat) : T D := (.n (.n (.n .e (some (.pt (.o (.o .h)) 0 0)) .e) (some (.i .i64 (h : Int))) (.n .e (some (.pt (.o (.i .h)) 0 0)) (.n (.n .e (some (.i .i64 (W.length : Int))) .e) none .e))) none (.n (.n .e (some (.pt (.i (.o .h)) 0 0)) (.n (.n .e (some (.lst 1 (ints W))) .e) none .e)) (some (.pl (eA b) 0)) (.n .e none (.n (.n .e (some (.i .i64 (j : Int))) .e) none .e))))
theorem Fq {b : Bh} {h : Nat} {W : List Int} {j n : Nat} (hn : 7 ≤ n) : ∀ s d, (DX b h W j).get s = some d → Kp n d := by
  show TAll (fun _ d => Kp n d) (DX b h W j)
  unfold DX
  repeat' first | exact TAll.e | refine TAll.some ?_ ?_ ?_ | refine TAll.none ?_ ?_
  all_goals simp [Kp, KpL, Pu, aX, aB, Pos.nat]
  all_goals omega
theorem EX (c : Nat → Int) (n : Nat) : KpC n (Di c) := by
  refine KpL.all ?_
  simp [qU, KpL, Kp, Cell.d, Pu]
theorem EA {g : Pos} {first caps : List D} {b : Bh} (h1 : aT first) (h2 : aT caps) (s : Bool) (c : Nat → Int) {n : Nat} (hn : 7 ≤ n) : KpO n (DJ g first caps b s (some (Di c))) := by
  have k := lE (g := g) (b := b) h1 h2 s (n := n) (by omega)
  intro id x hx
  by_cases e : id = .o (.i .h)
  · subst e
    cases hx
    exact ⟨by show 6 < n; omega, EX c n⟩
  · refine k id x ?_
    cases id with
    | h => exact hx
    | o p => cases p with
      | h => exact hx
      | o q => exact hx
      | i q => cases q with
        | h => exact absurd rfl e
        | o r => exact hx
        | i r => exact hx
    | i p => exact hx
section
variable {g : Pos} {first caps : List D} {b : Bh} {P : (Nat → Int) → Bool}
set_option maxHeartbeats 8000000 in
theorem vM (h1 : aT first) (h2 : aT caps) (hg : ∀ c, PureF Tryz.prog g.ix (first ++ ([.ag (qU c)] ++ caps)) (.b (P c))) (V : VW b) (l1 : ∀ w ∈ b.winds, w.length ≤ 1000) (l2 : b.nts.length ≤ 1000) : ∀ (m h : Nat), ((h + m : Nat) : Int) = b.last + 1 → ∀ c,
    CallOk Tryz.prog p148.ix [.ag (qU c), .i .i64 (h : Int), .pl (eA b) 0, .pt (.o (.o .h)) 0 0, .pt (.i (.o .h)) 0 0] (DJ g first caps b false none) (.o (.i .h)) none (.b (!(sK b m h c).any P)) (DJ g first caps b ((sK b m h c).any P) none) (.o (.i .h)) none
  | 0, h, hm, c => by
    have R := EQ (g := g) (b := b) h1 h2 hg c
    have hP : (sK b 0 h c).any P = P c := by simp [sK]
    rw [hP]
    refine CallOk.run Ef (by simp) (Nat.le_refl _) ?_; conv => whnf
    repeat' first | ((first | with_reducible apply WB.tt | with_reducible apply WB.ff | refine Rn.seq ?_ | refine Rn.reg ?_ | refine Rn.drw ?_ | refine Rn.blk ?_ | refine Rn.skip ?_ | refine Rn.ret ?_ | refine Rn.exit ?_ | refine Rn.cond rfl ?_ | refine And.intro (InR.i64 (by omega) (by omega)) ?_ | refine And.intro (show _ ≠ (0 : Int) by omega) ?_ | refine WIx.intsN (by omega) ?_ | refine WIx.rowsN (by omega) ?_ | with_reducible refine WB.decT (by first | with_reducible rfl | assumption | omega | exact ⟨rfl, rfl⟩) ?_ | with_reducible refine WB.decF (by first | assumption | omega) ?_ | with_reducible refine WB.ndT (by first | with_reducible rfl | assumption | omega | exact ⟨rfl, rfl⟩) ?_ | with_reducible refine WB.ndF (by first | assumption | omega) ?_ | with_reducible refine WB.nt ?_ | with_reducible refine WB.nf ?_ | with_reducible refine WB.dec (fun h => ?_) (fun h => ?_) | with_reducible refine WB.ndec (fun h => ?_) (fun h => ?_) | refine WB.mk (fun h => ?_) (fun h => ?_)) <;> conv => whnf) | (refine WB.tt ?_; conv => whnf) | (refine WB.ff ?_; conv => whnf)
    refine WRnd.fr R (by decide) ?_ (tF h1 h2 _ (by decide)) ?_ DI (by decide) (LgLe.refl _) (fun _ _ => trivial) ?_
    · show T.le (CG _ _ _) (lK _ _ _ _ _ _)
      unfold CG lK
      (repeat' first | exact T.le_e _ | exact T.le_refl _ | refine T.le_sameS ?_ ?_ | refine T.le_none ?_ ?_ | refine T.le_ee ?_ ?_)
    · simp [KpL, Kp, Pu, aT, qU]
    conv => whnf
    repeat' first | ((first | with_reducible apply WB.tt | with_reducible apply WB.ff | refine Rn.seq ?_ | refine Rn.reg ?_ | refine Rn.drw ?_ | refine Rn.blk ?_ | refine Rn.skip ?_ | refine Rn.ret ?_ | refine Rn.exit ?_ | refine Rn.cond rfl ?_ | refine And.intro (InR.i64 (by omega) (by omega)) ?_ | refine And.intro (show _ ≠ (0 : Int) by omega) ?_ | refine WIx.intsN (by omega) ?_ | refine WIx.rowsN (by omega) ?_) <;> conv => whnf)
    refine ⟨.inr rfl, ⟨_, rfl, .pu trivial⟩, Shr.kp ?_ (lE h1 h2 _ (by decide))⟩
    show T.le (lK _ _ _ _ _ _) _
    unfold lK
    (repeat' first | exact T.le_e _ | exact T.le_refl _ | refine T.le_sameS ?_ ?_ | refine T.le_none ?_ ?_ | refine T.le_ee ?_ ?_)
  | m + 1, h, hm, c => by
    have hv4 := V.last
    have hwl := V.winl
    have h5 : h < 5 := by omega
    have hh : h < b.winds.length := by omega
    have hl := l1 _ (aR (d := (default : List Int)) hh)
    have cW := DG b V h hh hl l2
    have ih := fun c => vM h1 h2 hg V l1 l2 m (h + 1) (by omega) c
    have hno := wS (b := b) (m := m) (h := h) (c := c) (P := P)
    have hyes := fun i hi => vB (b := b) (m := m) (h := h) (c := c) (P := P) (i := i) hi
    have hWl : (nD b h).length ≤ 1000 := Nat.le_trans (List.length_filter_le _ _) (by exact hl)
    generalize nD b h = W at *
    have e2 := aL W
    generalize hX : (sK b (m + 1) h c).any P = fo at *
    refine CallOk.run Ef (by simp) (Nat.le_refl _) ?_; conv => whnf
    repeat' first | ((first | with_reducible apply WB.tt | with_reducible apply WB.ff | refine Rn.seq ?_ | refine Rn.reg ?_ | refine Rn.drw ?_ | refine Rn.blk ?_ | refine Rn.skip ?_ | refine Rn.ret ?_ | refine Rn.exit ?_ | refine Rn.cond rfl ?_ | refine And.intro (InR.i64 (by omega) (by omega)) ?_ | refine And.intro (show _ ≠ (0 : Int) by omega) ?_ | refine WIx.intsN (by omega) ?_ | refine WIx.rowsN (by omega) ?_ | refine WCall.pure (cW) ?_ | with_reducible refine WB.decT (by first | with_reducible rfl | assumption | omega | exact ⟨rfl, rfl⟩) ?_ | with_reducible refine WB.decF (by first | assumption | omega) ?_ | with_reducible refine WB.ndT (by first | with_reducible rfl | assumption | omega | exact ⟨rfl, rfl⟩) ?_ | with_reducible refine WB.ndF (by first | assumption | omega) ?_ | with_reducible refine WB.nt ?_ | with_reducible refine WB.nf ?_) <;> conv => whnf) | (refine WB.tt ?_; conv => whnf) | (refine WB.ff ?_; conv => whnf)
    refine Rn.loop (fun t : Nat × Int => ⟨DX b h W t.1, DJ g first caps b false (some (Di (mP c h t.2))), .i (.i .h), none⟩) (fun t => t.1 ≤ W.length ∧ ∀ i, i < t.1 → (sK b m (h + 1) (mP c h (W.getD i 0))).any P = false) (fun t => W.length - t.1) (0, c h) ?_ ⟨Nat.zero_le _, fun i hi => absurd hi (Nat.not_lt_zero _)⟩ ?_
    · refine X.le.mk ?_ ?_ (Nat.le_refl _) rfl rfl
      · unfold DX
        rw [← e2]
        (repeat' first | exact T.le_e _ | exact T.le_refl _ | refine T.le_some ?_ rfl ?_ | refine T.le_none ?_ ?_ | refine T.le_ee ?_ ?_)
      · rw [Ae]
        show T.le (lK _ _ _ _ _ _) _
        unfold lK
        (repeat' first | exact T.le_e _ | exact T.le_refl _ | refine T.le_some ?_ rfl ?_ | refine T.le_none ?_ ?_ | refine T.le_ee ?_ ?_)
    rintro ⟨j, v⟩ ⟨hj, ha⟩
    have hj : j ≤ W.length := hj
    have ha : ∀ i, i < j → (sK b m (h + 1) (mP c h (W.getD i 0))).any P = false := ha
    show Rn Tryz.prog 36 _ ⟨DX b h W j, DJ g first caps b false (some (Di (mP c h v))), .i (.i .h), none⟩ _
    conv => whnf
    repeat' first | ((first | with_reducible apply WB.tt | with_reducible apply WB.ff | refine Rn.seq ?_ | refine Rn.reg ?_ | refine Rn.drw ?_ | refine Rn.blk ?_ | refine Rn.skip ?_ | refine Rn.ret ?_ | refine Rn.exit ?_ | refine Rn.cond rfl ?_ | refine And.intro (InR.i64 (by omega) (by omega)) ?_ | refine And.intro (show _ ≠ (0 : Int) by omega) ?_ | refine WIx.intsN (by omega) ?_ | refine WIx.rowsN (by omega) ?_ | with_reducible refine WB.decT (by first | with_reducible rfl | assumption | omega | exact ⟨rfl, rfl⟩) ?_ | with_reducible refine WB.decF (by first | assumption | omega) ?_ | with_reducible refine WB.ndT (by first | with_reducible rfl | assumption | omega | exact ⟨rfl, rfl⟩) ?_ | with_reducible refine WB.ndF (by first | assumption | omega) ?_ | with_reducible refine WB.nt ?_ | with_reducible refine WB.nf ?_) <;> conv => whnf) | (refine WB.tt ?_; conv => whnf) | (refine WB.ff ?_; conv => whnf)
    refine WB.dec (fun hd => ?_) (fun hd => ?_) <;> conv => whnf
    · have hlt : j < W.length := by omega
      have C := ih (mP c h (W.getD j 0))
      cases hgo : (sK b m (h + 1) (mP c h (W.getD j 0))).any P with
      | true =>
        rw [hgo] at C
        have hX := hyes j hlt hgo
        subst hX
        clear ih hno hyes ha
        rcases vT h5 with rfl | rfl | rfl | rfl | rfl
        all_goals
          repeat' first | ((first | with_reducible apply WB.tt | with_reducible apply WB.ff | refine Rn.seq ?_ | refine Rn.reg ?_ | refine Rn.drw ?_ | refine Rn.blk ?_ | refine Rn.skip ?_ | refine Rn.ret ?_ | refine Rn.exit ?_ | refine Rn.cond rfl ?_ | refine And.intro (InR.i64 (by omega) (by omega)) ?_ | refine And.intro (show _ ≠ (0 : Int) by omega) ?_ | refine WIx.intsN (by omega) ?_ | refine WIx.rowsN (by omega) ?_ | with_reducible refine WB.decT (by first | with_reducible rfl | assumption | omega | exact ⟨rfl, rfl⟩) ?_ | with_reducible refine WB.decF (by first | assumption | omega) ?_ | with_reducible refine WB.ndT (by first | with_reducible rfl | assumption | omega | exact ⟨rfl, rfl⟩) ?_ | with_reducible refine WB.ndF (by first | assumption | omega) ?_ | with_reducible refine WB.nt ?_ | with_reducible refine WB.nf ?_) <;> conv => whnf) | (refine WB.tt ?_; conv => whnf) | (refine WB.ff ?_; conv => whnf)
          refine WSt.ixaN rfl rfl rfl (by omega) ?_; conv => whnf
          repeat' first | ((first | with_reducible apply WB.tt | with_reducible apply WB.ff | refine Rn.seq ?_ | refine Rn.reg ?_ | refine Rn.drw ?_ | refine Rn.blk ?_ | refine Rn.skip ?_ | refine Rn.ret ?_ | refine Rn.exit ?_ | refine Rn.cond rfl ?_ | refine And.intro (InR.i64 (by omega) (by omega)) ?_ | refine And.intro (show _ ≠ (0 : Int) by omega) ?_ | refine WIx.intsN (by omega) ?_ | refine WIx.rowsN (by omega) ?_ | with_reducible refine WB.decT (by first | with_reducible rfl | assumption | omega | exact ⟨rfl, rfl⟩) ?_ | with_reducible refine WB.decF (by first | assumption | omega) ?_ | with_reducible refine WB.ndT (by first | with_reducible rfl | assumption | omega | exact ⟨rfl, rfl⟩) ?_ | with_reducible refine WB.ndF (by first | assumption | omega) ?_ | with_reducible refine WB.nt ?_ | with_reducible refine WB.nf ?_) <;> conv => whnf) | (refine WB.tt ?_; conv => whnf) | (refine WB.ff ?_; conv => whnf)
          refine WCall.fr C ?_ (lE h1 h2 _ (by decide)) ?_ zS (by decide) (LgLe.refl _) (fun _ _ => trivial) ?_
          · show T.le (lK _ _ _ _ _ _) _
            unfold lK
            (repeat' first | exact T.le_e _ | exact T.le_refl _ | refine T.le_sameS ?_ ?_ | refine T.le_none ?_ ?_ | refine T.le_ee ?_ ?_)
          · simp [KpL, Kp, Pu, aT, Pos.nat, qU, aX]
          conv => whnf
          repeat' first | ((first | with_reducible apply WB.tt | with_reducible apply WB.ff | refine Rn.seq ?_ | refine Rn.reg ?_ | refine Rn.drw ?_ | refine Rn.blk ?_ | refine Rn.skip ?_ | refine Rn.ret ?_ | refine Rn.exit ?_ | refine Rn.cond rfl ?_ | refine And.intro (InR.i64 (by omega) (by omega)) ?_ | refine And.intro (show _ ≠ (0 : Int) by omega) ?_ | refine WIx.intsN (by omega) ?_ | refine WIx.rowsN (by omega) ?_ | with_reducible refine WB.decT (by first | with_reducible rfl | assumption | omega | exact ⟨rfl, rfl⟩) ?_ | with_reducible refine WB.decF (by first | assumption | omega) ?_ | with_reducible refine WB.ndT (by first | with_reducible rfl | assumption | omega | exact ⟨rfl, rfl⟩) ?_ | with_reducible refine WB.ndF (by first | assumption | omega) ?_ | with_reducible refine WB.nt ?_ | with_reducible refine WB.nf ?_) <;> conv => whnf) | (refine WB.tt ?_; conv => whnf) | (refine WB.ff ?_; conv => whnf)
          refine ⟨.inr rfl, ⟨_, rfl, .pu trivial⟩, Shr.kp ?_ (lE h1 h2 _ (by decide))⟩
          show T.le (lK _ _ _ _ _ _) (lK _ _ _ _ _ _)
          unfold lK
          (repeat' first | exact T.le_e _ | exact T.le_refl _ | refine T.le_sameS ?_ ?_ | refine T.le_none ?_ ?_ | refine T.le_ee ?_ ?_)
      | false =>
        rw [hgo] at C
        clear ih hno hyes
        rcases vT h5 with rfl | rfl | rfl | rfl | rfl
        all_goals
          repeat' first | ((first | with_reducible apply WB.tt | with_reducible apply WB.ff | refine Rn.seq ?_ | refine Rn.reg ?_ | refine Rn.drw ?_ | refine Rn.blk ?_ | refine Rn.skip ?_ | refine Rn.ret ?_ | refine Rn.exit ?_ | refine Rn.cond rfl ?_ | refine And.intro (InR.i64 (by omega) (by omega)) ?_ | refine And.intro (show _ ≠ (0 : Int) by omega) ?_ | refine WIx.intsN (by omega) ?_ | refine WIx.rowsN (by omega) ?_ | with_reducible refine WB.decT (by first | with_reducible rfl | assumption | omega | exact ⟨rfl, rfl⟩) ?_ | with_reducible refine WB.decF (by first | assumption | omega) ?_ | with_reducible refine WB.ndT (by first | with_reducible rfl | assumption | omega | exact ⟨rfl, rfl⟩) ?_ | with_reducible refine WB.ndF (by first | assumption | omega) ?_ | with_reducible refine WB.nt ?_ | with_reducible refine WB.nf ?_) <;> conv => whnf) | (refine WB.tt ?_; conv => whnf) | (refine WB.ff ?_; conv => whnf)
          refine WSt.ixaN rfl rfl rfl (by omega) ?_; conv => whnf
          repeat' first | ((first | with_reducible apply WB.tt | with_reducible apply WB.ff | refine Rn.seq ?_ | refine Rn.reg ?_ | refine Rn.drw ?_ | refine Rn.blk ?_ | refine Rn.skip ?_ | refine Rn.ret ?_ | refine Rn.exit ?_ | refine Rn.cond rfl ?_ | refine And.intro (InR.i64 (by omega) (by omega)) ?_ | refine And.intro (show _ ≠ (0 : Int) by omega) ?_ | refine WIx.intsN (by omega) ?_ | refine WIx.rowsN (by omega) ?_ | with_reducible refine WB.decT (by first | with_reducible rfl | assumption | omega | exact ⟨rfl, rfl⟩) ?_ | with_reducible refine WB.decF (by first | assumption | omega) ?_ | with_reducible refine WB.ndT (by first | with_reducible rfl | assumption | omega | exact ⟨rfl, rfl⟩) ?_ | with_reducible refine WB.ndF (by first | assumption | omega) ?_ | with_reducible refine WB.nt ?_ | with_reducible refine WB.nf ?_) <;> conv => whnf) | (refine WB.tt ?_; conv => whnf) | (refine WB.ff ?_; conv => whnf)
          refine WCall.fr C ?_ (lE h1 h2 _ (by decide)) ?_ zS (by decide) (LgLe.refl _) (fun _ _ => trivial) ?_
          · show T.le (lK _ _ _ _ _ _) _
            unfold lK
            (repeat' first | exact T.le_e _ | exact T.le_refl _ | refine T.le_sameS ?_ ?_ | refine T.le_none ?_ ?_ | refine T.le_ee ?_ ?_)
          · simp [KpL, Kp, Pu, aT, Pos.nat, qU, aX]
          conv => whnf
          repeat' first | ((first | with_reducible apply WB.tt | with_reducible apply WB.ff | refine Rn.seq ?_ | refine Rn.reg ?_ | refine Rn.drw ?_ | refine Rn.blk ?_ | refine Rn.skip ?_ | refine Rn.ret ?_ | refine Rn.exit ?_ | refine Rn.cond rfl ?_ | refine And.intro (InR.i64 (by omega) (by omega)) ?_ | refine And.intro (show _ ≠ (0 : Int) by omega) ?_ | refine WIx.intsN (by omega) ?_ | refine WIx.rowsN (by omega) ?_ | with_reducible refine WB.decT (by first | with_reducible rfl | assumption | omega | exact ⟨rfl, rfl⟩) ?_ | with_reducible refine WB.decF (by first | assumption | omega) ?_ | with_reducible refine WB.ndT (by first | with_reducible rfl | assumption | omega | exact ⟨rfl, rfl⟩) ?_ | with_reducible refine WB.ndF (by first | assumption | omega) ?_ | with_reducible refine WB.nt ?_ | with_reducible refine WB.nf ?_) <;> conv => whnf) | (refine WB.tt ?_; conv => whnf) | (refine WB.ff ?_; conv => whnf)
          refine Again.to (j + 1, W.getD j 0) (show W.length - (j + 1) < W.length - j by omega) ⟨show j + 1 ≤ W.length by omega, fun i hi => ?_⟩ (Nat.le_refl _) (Shr.kp2 ?_ (Fq (by decide)) ?_ (EA h1 h2 _ _ (by decide)))
          · by_cases e : i = j
            · subst e; exact hgo
            · exact ha i (by have hi : i < j + 1 := hi; omega)
          · show T.le (DX b _ W (j + 1)) _
            unfold DX
            (repeat' first | exact T.le_e _ | exact T.le_refl _ | refine T.le_some ?_ rfl ?_ | refine T.le_none ?_ ?_ | refine T.le_ee ?_ ?_)
          · show T.le (lK _ _ _ _ _ _) (lK _ _ _ _ _ _)
            unfold lK
            (repeat' first | exact T.le_e _ | exact T.le_refl _ | refine T.le_sameS ?_ ?_ | refine T.le_none ?_ ?_ | refine T.le_ee ?_ ?_)
    · have hX := hno fun i hi => ha i (by omega)
      subst hX
      repeat' first | ((first | with_reducible apply WB.tt | with_reducible apply WB.ff | refine Rn.seq ?_ | refine Rn.reg ?_ | refine Rn.drw ?_ | refine Rn.blk ?_ | refine Rn.skip ?_ | refine Rn.ret ?_ | refine Rn.exit ?_ | refine Rn.cond rfl ?_ | refine And.intro (InR.i64 (by omega) (by omega)) ?_ | refine And.intro (show _ ≠ (0 : Int) by omega) ?_ | refine WIx.intsN (by omega) ?_ | refine WIx.rowsN (by omega) ?_ | with_reducible refine WB.decT (by first | with_reducible rfl | assumption | omega | exact ⟨rfl, rfl⟩) ?_ | with_reducible refine WB.decF (by first | assumption | omega) ?_ | with_reducible refine WB.ndT (by first | with_reducible rfl | assumption | omega | exact ⟨rfl, rfl⟩) ?_ | with_reducible refine WB.ndF (by first | assumption | omega) ?_ | with_reducible refine WB.nt ?_ | with_reducible refine WB.nf ?_) <;> conv => whnf) | (refine WB.tt ?_; conv => whnf) | (refine WB.ff ?_; conv => whnf)
      refine ⟨.inr rfl, ⟨_, rfl, .pu trivial⟩, Shr.kp ?_ (lE h1 h2 _ (by decide))⟩
      show T.le (lK _ _ _ _ _ _) (lK _ _ _ _ _ _)
      unfold lK
      (repeat' first | exact T.le_e _ | exact T.le_refl _ | refine T.le_sameS ?_ ?_ | refine T.le_none ?_ ?_ | refine T.le_ee ?_ ?_)
end
open Go.RowKit (Below Grown)
theorem lA {α : Type} : ∀ (n : Nat) (l : List α), eC n l = l.drop n
 | 0, l => rfl
 | n + 1, [] => rfl
 | n + 1, _ :: l => lA n l
theorem Vis.nil {st : Nat} {l : List Cell} : Vis st l [] := fun k d hk => by cases hk
theorem Vis.app {st : Nat} {l : List Cell} {a b : List D} (h : Vis st l a) (k : Vis st (l.drop a.length) b) : Vis st l (a ++ b) := fun i d hi => by
 by_cases hlt : i < a.length
 ·rw [List.getElem?_append_left hlt] at hi
  exact h i d hi
 ·rw [List.getElem?_append_right (by omega)] at hi
  obtain ⟨c, h1, h2⟩ := k _ d hi
  rw [List.getElem?_drop] at h1
  exact ⟨c, by rw [<- h1]; congr 1; omega, h2⟩
theorem rZ {st : Nat} : ∀ {n : Nat} {l : List Cell} {ds : List D} {r : List Cell}, tM st n l = some (ds, r) -> ds.length = n /\ Vis st l ds /\ r = l.drop n
 | 0, l, ds, r, h => by cases h; exact ⟨rfl, Vis.nil, rfl⟩
 | n + 1, [], ds, r, h => by cases h
 | n + 1, c :: l, ds, r, h => by
   unfold tM at h
   cases hc : c.has st with
   | false => rw [hc] at h; cases h
   | true =>
     rw [hc, cond_true] at h
     split at h
     ·rename_i ds' r' h1
      cases h
      obtain ⟨k1, k2, k3⟩ := rZ h1
      refine ⟨by rw [List.length_cons, k1], fun k d hk => ?_, k3⟩
      cases k with
      | zero => cases hk; exact ⟨c, rfl, hc, rfl⟩
      | succ k => exact k2 k d hk
     ·cases h
theorem pU {st z : Nat} : ∀ {n : Nat} {l : List Cell} {es : List (List D)}, vP st z n l = some es -> es.length = n /\ (∀ r ∈ es, r.length = z) /\ Vis st l es.flatten
 | 0, l, es, h => by cases h; exact ⟨rfl, (fun r hr => by cases hr), Vis.nil⟩
 | n + 1, l, es, h => by
   unfold vP at h
   split at h
   ·rename_i r l' h1
    split at h
    ·rename_i es' h2
     cases h
     obtain ⟨k1, k2, rfl⟩ := rZ h1
     obtain ⟨k3, k4, k5⟩ := pU h2
     refine ⟨by rw [List.length_cons, k3], fun q hq => ?_, ?_⟩
     ·rcases List.mem_cons.1 hq with e | hq
      ·rw [e]; exact k1
      ·exact k4 q hq
     ·rw [List.flatten_cons]
      exact k2.app (by rw [k1]; exact k5)
    ·cases h
   ·cases h
theorem wF {α β : Type} {f : α -> Option β} : ∀ {l : List α} {r : List β}, mpO f l = some r -> l.length = r.length /\ ∀ (i : Nat) (a : α), l[i]? = some a -> ∃ b, f a = some b /\ r[i]? = some b
 | [], r, h => by cases h; exact ⟨rfl, fun i a hi => by cases hi⟩
 | a :: l, r, h => by
   unfold mpO at h
   split at h
   ·rename_i b hb
    split at h
    ·rename_i r' hr
     cases h
     obtain ⟨k1, k2⟩ := wF hr
     refine ⟨by simp [k1], fun i x hi => ?_⟩
     cases i with
     | zero => cases hi; exact ⟨b, hb, rfl⟩
     | succ i => exact k2 i x hi
    ·cases h
   ·cases h
theorem hT {α β : Type} {f : α -> Option β} {a : α} {l : List α} {r : List β} (h : mpO f (a :: l) = some r) : ∃ b r', f a = some b /\ mpO f l = some r' /\ r = b :: r' := by
 unfold mpO at h
 split at h
 ·rename_i b hb
  split at h
  ·rename_i r' hr
   cases h
   exact ⟨b, r', hb, hr, rfl⟩
  ·cases h
 ·cases h
section
variable {B : Pos -> Prop} {ob : T C}
theorem mR {f : D -> Option D} (hf : ∀ d e, f d = some e -> Fz B ob d e) : ∀ {l r : List D}, mpO f l = some r -> FzL B ob l r
 | [], r, h => by cases h; exact .nil
 | a :: l, r, h => by
   obtain ⟨b, r', h1, h2, rfl⟩ := hT h
   exact .cons (hf _ _ h1) (mR hf h2)
theorem tV {f : D -> Option D} (hf : ∀ d e, f d = some e -> Fz B ob d e) : ∀ {l r : List (List D)}, mpO (mpO f) l = some r -> FzE B ob l r
 | [], r, h => by cases h; exact .nil
 | a :: l, r, h => by
   obtain ⟨b, r', h1, h2, rfl⟩ := hT h
   exact .cons (mR hf h1) (tV hf h2)
theorem oV {f : D -> Option D} (hf : ∀ d e, f d = some e -> Pu e) : ∀ {l r : List D}, mpO f l = some r -> aT r
 | [], r, h => by cases h; trivial
 | a :: l, r, h => by
   obtain ⟨b, r', h1, h2, rfl⟩ := hT h
   unfold aT
   exact ⟨hf _ _ h1, oV hf h2⟩
theorem sT {f : D -> Option D} (hf : ∀ d e, f d = some e -> Pu e) : ∀ {l r : List (List D)}, mpO (mpO f) l = some r -> dU r
 | [], r, h => by cases h; trivial
 | a :: l, r, h => by
   obtain ⟨b, r', h1, h2, rfl⟩ := hT h
   unfold dU
   exact ⟨oV hf h1, sT hf h2⟩
theorem jU (hB : ∀ id, ¬ B id) : ∀ {n : Nat} {d e : D}, Ct ob n d = some e -> Fz B ob d e /\ Pu e
 | 0, _, _, h => by cases h
 | n + 1, d, e, h => by
   have i1 : ∀ d e, Ct ob n d = some e -> Fz B ob d e := fun _ _ h => (jU hB h).1
   have i2 : ∀ d e, Ct ob n d = some e -> Pu e := fun _ _ h => (jU hB h).2
   unfold Ct at h
   cases d
   case sl id off len st z =>
    dsimp only at h
    split at h
    ·rename_i ro cs cur hc
     split at h
     ·rename_i es hes
      split at h
      ·rename_i fs hfs
       cases h
       obtain ⟨k1, k2, k3⟩ := pU hes
       rw [lA] at k3
       exact ⟨.sl (hB id) hc k1 k2 k3 (tV i1 hfs), by unfold Pu; exact sT i2 hfs⟩
      ·cases h
     ·cases h
    ·cases h
   case lst z es =>
    dsimp only at h
    split at h
    ·rename_i fs hfs
     cases h
     exact ⟨.lst (tV i1 hfs), by unfold Pu; exact sT i2 hfs⟩
    ·cases h
   case ag cs =>
    dsimp only at h
    split at h
    ·rename_i fs hfs
     cases h
     exact ⟨.ag (mR i1 hfs), by unfold Pu; exact oV i2 hfs⟩
    ·cases h
   case tp cs =>
    dsimp only at h
    split at h
    ·rename_i fs hfs
     cases h
     exact ⟨.tp (mR i1 hfs), by unfold Pu; exact oV i2 hfs⟩
    ·cases h
   all_goals first | (cases h; done) | (cases h; exact ⟨.pu (by unfold Pu; trivial), by unfold Pu; trivial⟩)
end
def DW (ob : T C) : Nat -> D -> Option D
 | 0, _ => none
 | n + 1, d => match d with
   | .sl id off len st z => match ob.get id with
     | some (.cells _ cs _) => match vP st z len (eC off cs) with
       | some es => match mpO (mpO (DW ob n)) es with
         | some fs => some (.lst z fs)
         | none => none
       | none => none
     | _ => none
   | .ag cs => match mpO (DW ob n) cs with
     | some ds => some (.ag ds)
     | none => none
   | .tp cs => match mpO (DW ob n) cs with
     | some ds => some (.tp ds)
     | none => none
   | .b x => some (.b x)
   | .i k n => some (.i k n)
   | .ns => some .ns
   | .em => some .em
   | .np => some .np
   | .nf => some .nf
   | .nm => some .nm
   | _ => none
section
variable {P : Program} {γ γ' : Gh} {w : World} {ob : T C}
theorem oZ {f : D -> Option D} (hf : ∀ d e, f d = some e -> ∀ v, DV γ w d v -> DV γ' w e v) : ∀ {l r : List D}, mpO f l = some r -> ∀ vs, DVL γ w l vs -> DVL γ' w r vs
 | [], r, h, vs, H => by cases h; unfold DVL at *; exact H
 | a :: l, r, h, vs, H => by
   obtain ⟨b, r', h1, h2, rfl⟩ := hT h
   unfold DVL at H ⊢
   obtain ⟨v, r, rfl, h4, h5⟩ := H
   exact ⟨v, r, rfl, hf _ _ h1 _ h4, oZ hf h2 _ h5⟩
theorem xQ {f : D -> Option D} {z : Nat} (hf : ∀ d e, f d = some e -> ∀ v, DV γ w d v -> DV γ' w e v) : ∀ {l r : List (List D)}, mpO (mpO f) l = some r -> ∀ vs, DVE γ w z l vs -> DVE γ' w z r vs
 | [], r, h, vs, H => by cases h; unfold DVE; trivial
 | a :: l, r, h, vs, H => by
   obtain ⟨b, r', h1, h2, rfl⟩ := hT h
   unfold DVE at H ⊢
   exact ⟨by rw [<- (wF h1).1]; exact H.1, oZ hf h1 _ H.2.1, xQ hf h2 _ H.2.2⟩
theorem BI (hob : ∀ id c, ob.get id = some c -> HoldsO P γ w id c) (hown : ∀ id st vs e fr, st < γ.cur id -> w.heap[(γ.β id st).1]? = some (.cells vs e fr) -> γ'.im (γ.β id st).1) : ∀ {n : Nat} {d e : D}, DW ob n d = some e -> ∀ v, DV γ w d v -> DV γ' w e v
 | 0, _, _, h => by cases h
 | n + 1, d, e, h => by
   have ih : ∀ d e, DW ob n d = some e -> ∀ v, DV γ w d v -> DV γ' w e v := fun _ _ h => BI hob hown h
   unfold DW at h
   cases d
   case sl id off len st z =>
    dsimp only at h
    split at h
    ·rename_i ro cs cur hg
     split at h
     ·rename_i es hes
      split at h
      ·rename_i fs hfs
       cases h
       obtain ⟨hl, hz, hv⟩ := pU hes
       rw [lA] at hv
       intro v H
       obtain ⟨e1, e2, cap, e, n, rfl, e4, e5, e6⟩ := gY H
       have hfl := (wF hfs).1
       obtain ⟨vs, e', fr, k1, k2, k3, k4⟩ := nR (hob id _ hg) e1 e2 hv
       have hlen : es.flatten.length = es.length * z := by
        clear hv ih k2 k3 k4 hfl hl hfs hes
        induction es with
        | nil => simp
        | cons r es ih => simp [ih (fun r h => hz r (by simp [h])), hz r (by simp), Nat.add_mul]; omega
       have hsz : off - (γ.β id st).2 + es.length * z <= vs.size := by
        have h1 : w.shape? (γ.β id st).1 = some (e', vs.size) := cU k1
        rw [h1] at e5
        cases e5
        have : es.length * z <= cap * z := Nat.mul_le_mul_right z (by omega)
        omega
       unfold DV
       refine ⟨_, cap, by rw [<- hfl, hl], by omega, (fun h => by cases h), .inr ⟨_, _, vs, e', fr, hown id st _ _ _ e1 k1, k1, rfl, by rw [<- hfl]; exact hsz, ?_, ?_⟩⟩
       ·refine xQ ih hfs _ (jE hz ?_)
        rw [<- hlen]
        exact k3
       ·rw [<- hfl, <- hlen]; exact k4
      ·cases h
     ·cases h
    ·cases h
   case ag cs =>
    dsimp only at h
    split at h
    ·rename_i fs hfs
     cases h
     intro v H
     obtain ⟨vs, rfl, h2, h3⟩ := mM H
     unfold DV
     exact ⟨vs, rfl, oZ ih hfs _ h2, h3⟩
    ·cases h
   case tp cs =>
    dsimp only at h
    split at h
    ·rename_i fs hfs
     cases h
     intro v H
     obtain ⟨vs, rfl, h2⟩ := pX H
     unfold DV
     exact ⟨vs, rfl, oZ ih hfs _ h2⟩
    ·cases h
   all_goals first | (cases h; done) | (cases h; intro v H; unfold DV at *; exact H)
end
theorem MemOk.of {P : Program} {f : FuncId} {es : List D} {v v' : D} {ob' : T C} {nx' : Pos} {lg' : Option (T Bool)} (K : CallOk P f es .e .h none v ob' nx' lg') (hz : DW ob' 12 v = some v') : MemOk P f es v' := by
 intro ob1 ds ob nx lg lg2 hds hle hl ht
 refine ⟨hl, Nat.le_refl _, Keeps.refl _ _, fun so hs γ args w gh hargs hob hnx => ?_⟩
 let γs : Gh := ⟨fun _ => 0, fun _ _ => (0, 0), fun b => γ.im b \/ ((∃ id st, st < γ.cur id /\ (γ.β id st).1 = b) /\ ∃ vs e fr, w.heap[b]? = some (.cells vs e fr))⟩
 have hargs' : DVL γs w es args.toList := by
  have h1 : DV γ w (.tp ds) (.tuple args) := by unfold DV; exact ⟨args, rfl, hargs⟩
  have h2 := Fz.ok (γ := γ) (γ' := γs) (B := fun _ => False) (fun b hb => .inl hb) (fun id c hc => hob id c (hs id (ht id c hc)) (hle id c hc)) (fun _ h => h.elim) (fun id st vs e fr _ hst hc => .inr ⟨⟨id, st, hst, rfl⟩, vs, e, fr, hc⟩) (.tp (mR (fun d e h => (jU (fun _ h => h) h).1) hds)) _ h1
  obtain ⟨vs, e, h3⟩ := pX h2
  cases e
  exact h3
 obtain ⟨c1, c2⟩ := K.ok (fun _ => True) (fun _ _ => trivial) γs args w ⟨fun _ st h => absurd h (Nat.not_lt_zero st), fun _ st _ _ h => absurd h (Nat.not_lt_zero st), fun b hb => ⟨by
  rcases hb with hb | hb
  ·exact (gh.im b hb).1
  ·exact hb.2, fun _ st h => absurd h (Nat.not_lt_zero st)⟩, gh.gl.im fun _ h => .inl h⟩ hargs' (fun id c _ hc => by rw [T.get_e] at hc; cases hc) (fun _ _ _ => rfl)
 refine ⟨c1, fun ro m R hR => c2 ro m R fun γ' w' u gh' F hu hob' _ => ?_⟩
 have hb : ∀ b, b < w.heap.size -> w'.heap[b]? = w.heap[b]? := fun b hb => F.blk b hb fun id st _ hst => absurd hst (Nat.not_lt_zero st)
 have hnew : ∀ id st, st < γ'.cur id -> w.heap.size <= (γ'.β id st).1 := fun id st hst => by
  rcases F.new id st (Nat.zero_le _) hst with h | ⟨gF, h, _⟩
  ·exact h
  ·exact absurd h (Nat.not_lt_zero gF)
 let γ2 : Gh := ⟨γ.cur, γ.β, fun b => γ.im b \/ ((∃ id st, st < γ'.cur id /\ (γ'.β id st).1 = b) /\ ∃ vs e fr, w'.heap[b]? = some (.cells vs e fr))⟩
 have U : Up γ γ2 w w' := ⟨fun _ => Nat.le_refl _, fun _ _ _ => rfl, F.up.3, fun b hm => ⟨.inl hm, fun o ho => by rw [hb b (Array.getElem?_eq_some_iff.1 ho).1]; exact ho⟩⟩
 have U0 : Up γ γ w w' := ⟨fun _ => Nat.le_refl _, fun _ _ _ => rfl, F.up.3, fun b hm => ⟨hm, fun o ho => by rw [hb b (Array.getElem?_eq_some_iff.1 ho).1]; exact ho⟩⟩
 refine hR γ2 w' u ⟨fun id st hst => Nat.lt_of_lt_of_le (gh.ob id st hst) F.size, gh.inj, fun b hm => ?_, (gh.gl.up U0).im fun _ h => .inl h⟩ ⟨U, fun _ _ => rfl, fun b h1 _ => hb b h1, fun _ _ h1 h2 => absurd h2 (by show ¬ _ < γ.cur _; omega), fun b hm hlt => ?_, F.lp, F.size, F.os, F.tape, F.output, F.fz⟩
  (BI (γ := γ') (γ' := γ2) (fun id c hc => hob' id c trivial hc) (fun id st vs e fr hst hc => .inr ⟨⟨id, st, hst, rfl⟩, vs, e, fr, hc⟩) hz u hu)
  (fun id c hid hc => HoldsO.mono U rfl (fun st hst => hb _ (gh.ob id st hst)) (hob id c hid hc)) hnx
 ·rcases hm with hm | ⟨⟨id', st', h1, h2⟩, h3⟩
  ·refine ⟨let ⟨⟨vs, e, fr, k1⟩, _⟩ := gh.im b hm; ⟨vs, e, fr, (U0.im b hm).2 _ k1⟩, (gh.im b hm).2⟩
  ·refine ⟨h3, fun id st hst e => ?_⟩
   have hlt := gh.ob id st hst
   have e : (γ.β id st).1 = b := e
   have := hnew id' st' h1
   omega
 ·rcases hm with hm | ⟨⟨id', st', h1, h2⟩, h3⟩
  ·exact hm
  ·have := hnew id' st' h1
   omega
def pI (P : Program) (FP : T RF) (n : Nat) (f : Pos) (es : List D) : Option D :=
 match qE FP (exec P FP n) f es .e .h none (fun v ob nx lg => match DW ob 12 v with
  | some d => some ⟨T.set .h d .e, .e, .h, none⟩
  | none => none) with
 | some y => y.sl.get .h
 | none => none
theorem MemOk.run {P : Program} {FP : T RF} (hFP : FPok P FP) {n : Nat} {f : Pos} {es : List D} {v : D} (h : pI P FP n f es = some v) : MemOk P f.ix es v := by
 unfold pI at h
 split at h
 ·rename_i y hy
  obtain ⟨v', ob', nx', lg', h1, C⟩ := jK hFP (sH hFP n).1 hy
  split at h1
  ·rename_i d hd
   cases h1
   rw [T.get_set_same] at h
   cases h
   exact MemOk.of C hd
  ·cases h1
 ·cases h
end Go.Ev
end
