import Derived.Test.YtjgbfnciedkafaaEvUFg
import Derived.Test.YtjgbfnciedkafaaEvUJb
import Derived.Test.YtjgbfnciedkafaaEvUJs
set_option linter.all false
namespace Go.Ev
open Go.RowKit (Below Grown)
def Cv (γ γ' : Gh) (w : World) (d d' : D) : Prop := ∀ v, DV γ w d v → DV γ' w d' v
def CvL (γ γ' : Gh) (w : World) (ds ds' : List D) : Prop := ∀ vs, DVL γ w ds vs → DVL γ' w ds' vs
section
variable {γ γ' : Gh} {w : World}
theorem CvL.nil : CvL γ γ' w [] [] := fun vs h => by unfold DVL at h ⊢; exact h
theorem CvL.cons {d d' : D} {ds ds' : List D} (h : Cv γ γ' w d d') (k : CvL γ γ' w ds ds') : CvL γ γ' w (d :: ds) (d' :: ds') := fun vs H => by
  unfold DVL at H ⊢
  obtain ⟨v, r, h1, h2, h3⟩ := H
  exact ⟨v, r, h1, h v h2, k r h3⟩
theorem CvL.app {a a' b b' : List D} (h : CvL γ γ' w a a') (hl : a.length = a'.length) (k : CvL γ γ' w b b') : CvL γ γ' w (a ++ b) (a' ++ b') := fun vs H => by
  obtain ⟨l1, e1⟩ := DVL_iff.1 H
  have hv : vs = vs.take a.length ++ vs.drop a.length := (List.take_append_drop _ _).symm
  have t1 := H.take a.length
  have t2 := H.drop a.length
  rw [List.take_left'] at t1 <;> try rfl
  rw [List.drop_left'] at t2 <;> try rfl
  rw [hv]
  exact DVL.append (h _ t1) (k _ t2)
theorem Cv.pu (him : ∀ b, γ.im b → γ'.im b) {d : D} (h : Pu d) : Cv γ γ' w d d := fun v H => DV.pu him d v h H
theorem CvL.pu (him : ∀ b, γ.im b → γ'.im b) {ds : List D} (h : PuL ds) : CvL γ γ' w ds ds := fun v H => DVL.pu him ds v h H
theorem Cv.any {d : D} : Cv γ γ' w d .any := fun v _ => by unfold DV; trivial
theorem Cv.ag {ds ds' : List D} (h : CvL γ γ' w ds ds') : Cv γ γ' w (.ag ds) (.ag ds') := fun v H => by
  unfold DV at H ⊢
  obtain ⟨vs, h1, h2, h3⟩ := H
  exact ⟨vs, h1, h _ h2, h3⟩
theorem Cv.tp {ds ds' : List D} (h : CvL γ γ' w ds ds') : Cv γ γ' w (.tp ds) (.tp ds') := fun v H => by
  unfold DV at H ⊢
  obtain ⟨vs, h1, h2⟩ := H
  exact ⟨vs, h1, h _ h2⟩
theorem Cv.fn {f : Pos} {x x' y y' : List D} (h : CvL γ γ' w x x') (k : CvL γ γ' w y y') : Cv γ γ' w (.fn f x y) (.fn f x' y') := fun v H => by
  unfold DV at H ⊢
  obtain ⟨vx, vy, h1, h2, h3⟩ := H
  exact ⟨vx, vy, h1, h _ h2, k _ h3⟩
end
theorem CallOk.sub {P : Program} {f : Nat} {ds ds' : List D} {ob ob' : T C} {nx nx' : Pos} {lg lg' : Option (T Bool)} {v : D} (h : CallOk P f ds' ob nx lg v ob' nx' lg') (k : ∀ γ w, CvL γ γ w ds ds') : CallOk P f ds ob nx lg v ob' nx' lg' :=
  ⟨h.hl, h.hx, h.hk, fun so hs γ args w gh ha ho hn => h.ok so hs γ args w gh (k γ w _ ha) ho hn⟩
theorem PureF.sub {P : Program} {f : Nat} {ds ds' : List D} {v : D} (h : PureF P f ds' v) (k : ∀ γ w, CvL γ γ w ds ds') : PureF P f ds v := fun ob nx lg => (h ob nx lg).sub k
noncomputable def pul1 (id : Pos) (γ : Gh) : Gh := pull (.o .h) (fun _ => id) γ
noncomputable def psh1 (id : Pos) (γ γ' : Gh) : Gh := psh (tau1 id) γ γ'
theorem Cv.mpI {γ : Gh} {w : World} {id : Pos} : Cv γ (pul1 id γ) w (.mp id) (.mp .h) := fun u h => dv_mp h
theorem Cv.mpO {γ γ' : Gh} {w : World} {id : Pos} : Cv γ' (psh1 id γ γ') w (.mp .h) (.mp id) := fun u h => by
  unfold DV at h ⊢
  show 0 < (psh (tau1 id) γ γ').cur id ∧ u = .map (some ((psh (tau1 id) γ γ').β id 0).1)
  rw [psh_cur (tau1_eq id), psh_be (tau1_eq id)]
  exact h
theorem pul1_im {id : Pos} {γ : Gh} : ∀ b, γ.im b → (pul1 id γ).im b := fun _ h => h
theorem psh1_im {id : Pos} {γ γ' : Gh} : ∀ b, γ'.im b → (psh1 id γ γ').im b := fun _ h => h
theorem CallOk.oneG {P : Program} {f : Nat} {es es' : List (D × D)} {ds ds' : List D} {v v' : D} {ob' : T C} (h : CallOk P f ds (.n .e (some (.map es)) .e) (.o .h) none v ob' (.o .h) none) (hob' : ob'.get .h = some (.map es')) (hp : ∀ e ∈ es, Pu e.1 ∧ Pu e.2) (hp' : ∀ e ∈ es', Pu e.1 ∧ Pu e.2)
    {id : Pos} {ob : T C} {nx : Pos} {lg : Option (T Bool)} (hid : ob.get id = some (.map es)) (hlt : id.nat < nx.nat) (hd : ∀ γ w, CvL γ (pul1 id γ) w ds' ds) (hv : ∀ γ γ' w, Cv γ' (psh1 id γ γ') w v v') : CallOk P f ds' ob nx lg v' (T.set id (.map es') ob) nx (lgW lg id) := by
  have hw := lgW_w lg id
  refine ⟨lgW_le lg id, Nat.le_refl _, fun j hn => ?_, fun so hs γ args w gh hargs hob hnx => ?_⟩
  · by_cases e : j = id
    · subst e; exact absurd hw hn
    · exact T.get_set_ne e _ _
  have hso : so id := hs id hw.tchd
  have h1 : Pos.h.nat < (Pos.o .h).nat := by decide
  have R := Ren.one id
  have him := pull_im (nx := .o .h) (ρ := fun _ => id) (γ := γ)
  obtain ⟨c1, c2⟩ := h.ok (fun _ => True) (fun _ _ => trivial) (pull (.o .h) (fun _ => id) γ) args w (pull_gh R gh) (hd γ w _ hargs) (fun j c _ hc => by
    cases j with
    | h =>
      rw [T.get_h] at hc
      cases hc
      obtain ⟨q1, en, cl, q2, q3, q4⟩ := hob id _ hso hid
      refine ⟨(pull_cur h1).trans q1, en, cl, q2, q3, fun i e f he hf => ?_⟩
      obtain ⟨k1, k2⟩ := hp e (List.mem_of_getElem? he)
      exact ⟨DV.pu him _ _ k1 (q4 i e f he hf).1, DV.pu him _ _ k2 (q4 i e f he hf).2⟩
    | o p => rw [T.get_o, T.get_e] at hc; cases hc
    | i p => rw [T.get_i, T.get_e] at hc; cases hc) (fun j _ hj => pull_cur0 (Nat.not_lt.2 hj))
  refine ⟨c1, fun ro m Q' hQ' => c2 ro m Q' fun γ' w' u gh' F hu ho hn => ?_⟩
  have hWid : ∀ i j, tau1 id i = some j → wrtn (lgW lg id) i := fun i j h => by
    by_cases e : i = id
    · subst e; exact hw
    · rw [tau1_ne e] at h; cases h
  have him' := psh_im (τ := tau1 id) (γ := γ) (γ' := γ')
  refine hQ' (psh (tau1 id) γ γ') w' u (psh_gh R gh gh' F) (psh_fr R hWid F) (hv γ γ' w' u hu) (fun i c hi hc => ?_) (fun i hi hle => ?_)
  · by_cases e : i = id
    · subst e
      rw [T.get_set_same] at hc
      cases hc
      obtain ⟨q1, en, cl, q2, q3, q4⟩ := ho .h _ trivial hob'
      refine ⟨(psh_cur (tau1_eq i)).trans q1, en, cl, by rw [psh_be (tau1_eq i)]; exact q2, q3, fun j e f he hf => ?_⟩
      obtain ⟨k1, k2⟩ := hp' e (List.mem_of_getElem? he)
      exact ⟨DV.pu him' _ _ k1 (q4 j e f he hf).1, DV.pu him' _ _ k2 (q4 j e f he hf).2⟩
    · rw [T.get_set_ne e _ _] at hc
      exact psh_keep R gh F (tau1_ne e) (hob i c hi hc)
  · have e : i ≠ id := fun e => by subst e; omega
    rw [psh_cur0 (tau1_ne e)]
    exact hnx i hi hle
theorem CallOk.newG {P : Program} {f : Nat} {es' : List (D × D)} {ds : List D} {v v' : D} {ob' : T C} (h : CallOk P f ds .e .h none v ob' (.o .h) none) (hob' : ob'.get .h = some (.map es')) (hp' : ∀ e ∈ es', Pu e.1 ∧ Pu e.2) (hds : PuL ds)
    {ob : T C} {nx : Pos} {lg : Option (T Bool)} (hv : ∀ γ γ' w, Cv γ' (psh1 nx γ γ') w v v') : CallOk P f ds ob nx lg v' (T.set nx (.map es') ob) nx.succ (lgW lg nx) := by
  have hw := lgW_w lg nx
  refine ⟨lgW_le lg nx, by rw [Pos.succ_nat]; omega, fun j hn => ?_, fun so hs γ args w gh hargs hob hnx => ?_⟩
  · by_cases e : j = nx
    · subst e; exact absurd hw hn
    · exact T.get_set_ne e _ _
  have hso : so nx := hs nx hw.tchd
  have h1 : Pos.h.nat < (Pos.o .h).nat := by decide
  have R := Ren.one nx
  have him := pull_im (nx := .o .h) (ρ := fun _ => nx) (γ := γ)
  obtain ⟨c1, c2⟩ := h.ok (fun _ => True) (fun _ _ => trivial) (pull (.o .h) (fun _ => nx) γ) args w (pull_gh R gh) (DVL.pu him _ _ hds hargs) (fun j c _ hc => by rw [T.get_e] at hc; cases hc) (fun j _ hj => by
    by_cases hj1 : j.nat < (Pos.o .h).nat
    · rw [pull_cur hj1]; exact hnx nx hso (Nat.le_refl _)
    · exact pull_cur0 hj1)
  refine ⟨c1, fun ro m Q' hQ' => c2 ro m Q' fun γ' w' u gh' F hu ho hn => ?_⟩
  have hWid : ∀ i j, tau1 nx i = some j → wrtn (lgW lg nx) i := fun i j h => by
    by_cases e : i = nx
    · subst e; exact hw
    · rw [tau1_ne e] at h; cases h
  have him' := psh_im (τ := tau1 nx) (γ := γ) (γ' := γ')
  refine hQ' (psh (tau1 nx) γ γ') w' u (psh_gh R gh gh' F) (psh_fr R hWid F) (hv γ γ' w' u hu) (fun i c hi hc => ?_) (fun i hi hle => ?_)
  · by_cases e : i = nx
    · subst e
      rw [T.get_set_same] at hc
      cases hc
      obtain ⟨q1, en, cl, q2, q3, q4⟩ := ho .h _ trivial hob'
      refine ⟨(psh_cur (tau1_eq i)).trans q1, en, cl, by rw [psh_be (tau1_eq i)]; exact q2, q3, fun j e f he hf => ?_⟩
      obtain ⟨k1, k2⟩ := hp' e (List.mem_of_getElem? he)
      exact ⟨DV.pu him' _ _ k1 (q4 j e f he hf).1, DV.pu him' _ _ k2 (q4 j e f he hf).2⟩
    · rw [T.get_set_ne e _ _] at hc
      exact psh_keep R gh F (tau1_ne e) (hob i c hi hc)
  · have e : i ≠ nx := fun e => by subst e; rw [Pos.succ_nat] at hle; omega
    rw [psh_cur0 (tau1_ne e)]
    exact hnx i hi (by rw [Pos.succ_nat] at hle; omega)
theorem WCall.of {P : Program} {f : Nat} {ds : List D} {d : Option Pos} {sl : T D} {ob ob2 : T C} {nx nx2 : Pos} {lg lg2 : Option (T Bool)} {K : X → Prop} {v : D} (h : CallOk P f ds ob nx lg v ob2 nx2 lg2) (k : wDst sl ob2 nx2 lg2 d K v) : WCall P f ds d ⟨sl, ob, nx, lg⟩ K := by
  cases d with
  | none => exact ⟨v, _, _, _, _, h, rfl, k⟩
  | some d =>
    obtain ⟨h1, h2⟩ := wOut_ok k
    exact ⟨v, _, _, _, _, h, h1, h2⟩
mutual
theorem Kp.up {n m : Nat} (h : n ≤ m) : ∀ d : D, Kp n d → Kp m d
  | .pt _ _ _, k => by unfold Kp at k ⊢; omega
  | .yl _, k => by unfold Kp at k ⊢; omega
  | .sl _ _ _ _ _, k => by unfold Kp at k ⊢; omega
  | .mp _, k => by unfold Kp at k ⊢; omega
  | .fn _ x y, k => by unfold Kp at k ⊢; exact ⟨KpL.up h x k.1, KpL.up h y k.2⟩
  | .ag cs, k => by unfold Kp at k ⊢; exact KpL.up h cs k
  | .tp cs, k => by unfold Kp at k ⊢; exact KpL.up h cs k
  | .any, k => by unfold Kp at k ⊢; exact k
  | .b _, k => by unfold Kp at k ⊢; exact k
  | .i _ _, k => by unfold Kp at k ⊢; exact k
  | .s _, k => by unfold Kp at k ⊢; exact k
  | .np, k => by unfold Kp at k ⊢; exact k
  | .nf, k => by unfold Kp at k ⊢; exact k
  | .ni, k => by unfold Kp at k ⊢; exact k
  | .nm, k => by unfold Kp at k ⊢; exact k
  | .ns, k => by unfold Kp at k ⊢; exact k
  | .em, k => by unfold Kp at k ⊢; exact k
  | .ifc _ _, k => by unfold Kp at k ⊢; exact k
  | .lst _ _, k => by unfold Kp at k ⊢; exact k
  | .pl _ _, k => by unfold Kp at k ⊢; exact k
theorem KpL.up {n m : Nat} (h : n ≤ m) : ∀ ds : List D, KpL n ds → KpL m ds
  | [], k => by unfold KpL at k ⊢; exact k
  | d :: ds, k => by unfold KpL at k ⊢; exact ⟨Kp.up h d k.1, KpL.up h ds k.2⟩
end
theorem KpC.up {n m : Nat} (h : n ≤ m) : ∀ {c : C}, KpC n c → KpC m c
  | .cells _ _ _, k => fun c hc => Kp.up h _ (k c hc)
  | .lp _ _ _ _ _ _ _, k => fun s d hd => Kp.up h _ (k s d hd)
  | .map _, k => fun e he => ⟨Kp.up h _ (k e he).1, Kp.up h _ (k e he).2⟩
  | .hole, _ => trivial
theorem KpO.up {n m : Nat} (h : n ≤ m) {ob : T C} (k : KpO n ob) : KpO m ob := fun id c hc => ⟨Nat.lt_of_lt_of_le (k id c hc).1 h, (k id c hc).2.up h⟩
mutual
theorem Kp.pu {n : Nat} : ∀ d : D, Pu d → Kp n d
  | .pt _ _ _, h => by unfold Pu at h; exact h.elim
  | .yl _, h => by unfold Pu at h; exact h.elim
  | .sl _ _ _ _ _, h => by unfold Pu at h; exact h.elim
  | .mp _, h => by unfold Pu at h; exact h.elim
  | .fn _ x y, h => by unfold Pu at h; unfold Kp; exact ⟨KpL.pu x h.1, KpL.pu y h.2⟩
  | .ag cs, h => by unfold Pu at h; unfold Kp; exact KpL.pu cs h
  | .tp cs, h => by unfold Pu at h; unfold Kp; exact KpL.pu cs h
  | .any, h => by unfold Kp; exact h
  | .b _, h => by unfold Kp; exact h
  | .i _ _, h => by unfold Kp; exact h
  | .s _, h => by unfold Kp; exact h
  | .np, h => by unfold Kp; exact h
  | .nf, h => by unfold Kp; exact h
  | .ni, h => by unfold Kp; exact h
  | .nm, h => by unfold Kp; exact h
  | .ns, h => by unfold Kp; exact h
  | .em, h => by unfold Kp; exact h
  | .ifc _ _, h => by unfold Kp; exact h
  | .lst _ _, h => by unfold Kp; exact h
  | .pl _ _, h => by unfold Kp; exact h
theorem KpL.pu {n : Nat} : ∀ ds : List D, PuL ds → KpL n ds
  | [], _ => by unfold KpL; trivial
  | d :: ds, h => by unfold PuL at h; unfold KpL; exact ⟨Kp.pu d h.1, KpL.pu ds h.2⟩
end
inductive Fld {α σ : Type} (R : σ → α → σ → Bool → Prop) : List α → σ → σ → Bool → Prop where
  | nil {s : σ} : Fld R [] s s true
  | stop {a : α} {l : List α} {s s' : σ} (h : R s a s' false) : Fld R (a :: l) s s' false
  | go {a : α} {l : List α} {s s' s2 : σ} {g : Bool} (h : R s a s' true) (k : Fld R l s' s2 g) : Fld R (a :: l) s s2 g
theorem Fld.app {α σ : Type} {R : σ → α → σ → Bool → Prop} : ∀ {a b : List α} {s s1 s2 : σ} {g : Bool}, Fld R a s s1 true → Fld R b s1 s2 g → Fld R (a ++ b) s s2 g
  | [], _, _, _, _, _, h, k => by cases h; exact k
  | _ :: _, _, _, _, _, _, h, k => by
    cases h with
    | go h1 h2 => exact .go h1 (h2.app k)
theorem Fld.cut {α σ : Type} {R : σ → α → σ → Bool → Prop} : ∀ {a : List α} (b : List α) {s s1 : σ}, Fld R a s s1 false → Fld R (a ++ b) s s1 false
  | [], _, _, _, h => by cases h
  | _ :: _, b, _, _, h => by
    cases h with
    | stop h1 => exact .stop h1
    | go h1 h2 => exact .go h1 (h2.cut b)
theorem Fld.inv {α σ : Type} {R : σ → α → σ → Bool → Prop} {I : List α → σ → Prop} {W : List α} (hI : ∀ h s a s', h ++ [a] <+: W → I h s → R s a s' true → I (h ++ [a]) s') : ∀ {l h : List α} {s s' : σ}, h ++ l <+: W → I h s → Fld R l s s' true → I (h ++ l) s'
  | [], h, s, s', _, i, k => by cases k; rw [List.append_nil]; exact i
  | a :: l, h, s, s', hp, i, k => by
    cases k with
    | go h1 h2 =>
      have hp' : h ++ [a] ++ l <+: W := by rw [List.append_assoc]; exact hp
      have := Fld.inv hI hp' (hI _ _ _ _ ((List.prefix_append _ _).trans hp') i h1) h2
      rw [List.append_assoc] at this
      exact this
theorem map_next {α β : Type} {f : α → β} {L0 L : List α} {a : β} (h0 : L0 <+: L) (h : L0.map f ++ [a] <+: L.map f) : ∃ x, L0 ++ [x] <+: L ∧ a = f x := by
  obtain ⟨r, rfl⟩ := h0
  rw [List.map_append] at h
  have h := (List.prefix_append_right_inj _).1 h
  cases r with
  | nil => simp at h
  | cons x r =>
    rw [List.map_cons] at h
    refine ⟨x, (List.prefix_append_right_inj _).2 ⟨r, rfl⟩, ?_⟩
    obtain ⟨t, ht⟩ := h
    simp at ht
    exact ht.1
end Go.Ev
namespace Go.Ev
open Go.Proofs
set_option maxRecDepth 100000
def nz (n : Int) : Bool := !decide (n = 0)
def ptD (m : Mo) : List D := [.i .i64 m.n, .b (nz (m.h 0)), .b (nz (m.h 1)), .b (nz (m.h 2)), .b (nz (m.h 3)), .b (nz (m.h 4)), .b (nz (m.h 5)), .b (nz (m.h 6)), .b (nz (m.h 7))]
theorem pu_moD (m : Mo) : PuL (moD m) := by simp [moD, PuL, Pu]
theorem WSt.ixaZ {sl : T D} {ob : T C} {nx : Pos} {lg : Option (T Bool)} {K : X → Prop} {d id : Pos} {len z off st : Nat} {k : IntKind} {x i : RX} {n : Int} (hx : opd sl x = some (.pt id off st)) (hi : opd sl i = some (.i k n)) (h0 : 0 ≤ n) (hm : n.toNat < len) (h : wOut sl ob nx lg d K (.pt id (off + n.toNat * z) st)) : WSt (.ixa d len z x i) ⟨sl, ob, nx, lg⟩ K :=
  WSt.ixaN (m := n.toNat) hx hi (by omega) hm h
set_option maxHeartbeats 1000000 in
theorem j_point (m : Mo) : PureF Try.prog p139.ix [.ag (moD m)] (.ag (ptD m)) := by
  unfold moD
  refine PureF.run fn138 (by simp) (by simp [PuL, PuE, Pu, pu_ints, pu_ln, pu_ct]) ?_; conv => whnf
  repeat' first | ((first | with_reducible (first | apply Qt | apply Qu) | refine Qa rfl ?_ | refine Qk rfl ?_ | refine Qb ?_ | refine Qc ?_ | refine Qi ?_ | refine Qj ?_) <;> conv => whnf)
  refine Rn.rounds ?_
  iterate 8
    refine RnR.more ?_; conv => whnf
    repeat' first | ((first | with_reducible (first | apply Qt | apply Qu) | refine Qa rfl ?_ | refine Qk rfl ?_ | refine Qb ?_ | refine Qc ?_ | refine Qi ?_ | refine Qj ?_ | with_reducible (first | refine Qm ?_ | refine Qn ?_ | refine Qo ?_ | refine Qp ?_ | refine WB.nt ?_ | refine WB.nf ?_ | refine WB.dec (fun h => ?_) (fun h => ?_) | refine WB.ndec (fun h => ?_) (fun h => ?_)) | refine WB.mk (fun h => ?_) (fun h => ?_)) <;> conv => whnf)
    refine WSt.ixaZ rfl rfl (by omega) (by decide) ?_; conv => whnf
    repeat' first | ((first | with_reducible (first | apply Qt | apply Qu) | refine Qa rfl ?_ | refine Qk rfl ?_ | refine Qb ?_ | refine Qc ?_ | refine Qi ?_ | refine Qj ?_ | with_reducible (first | refine Qm ?_ | refine Qn ?_ | refine Qo ?_ | refine Qp ?_ | refine WB.nt ?_ | refine WB.nf ?_ | refine WB.dec (fun h => ?_) (fun h => ?_) | refine WB.ndec (fun h => ?_) (fun h => ?_)) | refine WB.mk (fun h => ?_) (fun h => ?_)) <;> conv => whnf)
  refine RnR.more ?_; conv => whnf
  repeat' first | ((first | with_reducible (first | apply Qt | apply Qu) | refine Qa rfl ?_ | refine Qk rfl ?_ | refine Qb ?_ | refine Qc ?_ | refine Qi ?_ | refine Qj ?_ | with_reducible (first | refine Qm ?_ | refine Qn ?_ | refine Qo ?_ | refine Qp ?_ | refine WB.nt ?_ | refine WB.nf ?_ | refine WB.dec (fun h => ?_) (fun h => ?_) | refine WB.ndec (fun h => ?_) (fun h => ?_)) | refine WB.mk (fun h => ?_) (fun h => ?_)) <;> conv => whnf)
  refine ⟨.inr rfl, _, rfl, .ag ?_⟩
  unfold ptD nz
  repeat' first | exact FzL.nil | refine FzL.cons ?_ ?_
  all_goals exact .pu trivial
theorem j_nexts (n coin box : Int) (ls : List Ln) (cs : List Ct) (m : Mo) : PureF Try.prog p138.ix [.ag [.i .i64 n, .i .i64 coin, .i .i64 box, .lst 3 (rows lnD ls), .lst 3 (rows ctD cs), .any], .ag (moD m)] (.fn p156 [] [.pl (wk6 n coin box ls cs) 0, .pl (moD m) 0]) := by
  unfold moD
  refine PureF.run fn137 (by simp) (by simp [PuL, PuE, Pu, pu_ints, pu_ln, pu_ct]) ?_; conv => whnf
  repeat' first | ((first | with_reducible (first | apply Qt | apply Qu) | refine Qa rfl ?_ | refine Qk rfl ?_ | refine Qb ?_ | refine Qc ?_ | refine Qi ?_ | refine Qj ?_) <;> conv => whnf)
  refine Fin.t (.inr rfl) rfl (.fn .nil (.cons (Frz.ptr rfl rfl (by simp [wk6]) (by simp [wk6, PuL, Pu, pu_ln, pu_ct])) (.cons (Frz.ptr (r := moD m) rfl rfl (by simp [moD]) (by simp [moD, PuL, Pu])) .nil)))
end Go.Ev
namespace Go.Ev
open Go.RowKit (Below Grown)
structure RndE (Φ : Bool → T C → Prop) (id : Pos) (nx' : Pos) (e : Ex) (z : X) : Prop where
  ok : ∃ a b m c q s j ob', z.lg = none ∧ z.ob.get id = some (.lp a b m c q s j) ∧ Shr ⟨.e, T.set id (.lp a b m c q (endS e) (endJ e)) z.ob, z.nx, none⟩ ⟨.e, ob', nx', none⟩ ∧ Φ (endB e) ob'
structure RndEF (Φ : Bool → T C → Prop) (id : Pos) (nx' : Pos) (e : Ex) (z : X) : Prop where
  ok : ∃ a b m c q s j ob' ob2, z.lg = none ∧ z.ob.get id = some (.lp a b m c q s j) ∧ ∃ nx1 a0, nx'.nat ≤ nx1.nat ∧ nx'.nat ≤ a0.nat ∧ Shr ⟨.e, T.set id (.lp a b m c q (endS e) (endJ e)) z.ob, z.nx, none⟩ ⟨.e, ob', nx1, none⟩ ∧ Fill nx' a0 ob' ob2 ∧ Φ (endB e) ob2
structure RndEA (P : Program) (nt : Nat) (rcB : RC) (id : Pos) (K : Ex → X → Prop) (e : Ex) (z : X) : Prop where
  ok : e = .normal ∧ z.lg = none ∧ ∃ a b m c q j, z.ob.get id = some (.lp a b m c q .ready j) ∧ Rn P nt rcB ⟨z.sl, T.set id (.lp a b m c q .busy j) z.ob, z.nx, none⟩ K
theorem RndOk.runE {P : Program} {id : Pos} {ds : List D} {ob : T C} {nx : Pos} {Φ : Bool → T C → Prop} {sl0 : T D} {ps : List Pos} {nt : Nat} {asg body : Code} {j0 : Option Ex} {rcA rcB : RC} (hob0 : ob.get id = some (.lp sl0 ps nt asg body .ready j0)) (hA : comp P nt asg = rcA) (hB : comp P nt body = rcB)
    (hp : parmP ps ds sl0 fun sl' => Rn P nt rcA ⟨sl', ob, nx, none⟩ (RndEA P nt rcB id (RndE Φ id nx))) : ∃ g ob', Φ g ob' ∧ RndOk P id ds ob nx none (.b g) ob' nx none := by
  obtain ⟨sl', h1, h2⟩ := hp
  obtain ⟨e, ⟨s2, ob1, nx1, lg1⟩, X1, h3⟩ := h2.ok asg hA
  obtain ⟨rfl, h4, a1, b1, m1, c1, q1, j1, h5, h6⟩ := h3.ok
  have h4 : lg1 = none := h4
  subst h4
  obtain ⟨e, ⟨s3, ob3, nx3, lg3⟩, X2, h7⟩ := h6.ok body hB
  obtain ⟨a3, b3, m3, c3, q3, s3', j3, ob', k1, k2, k3, k4⟩ := h7.ok
  have k1 : lg3 = none := k1
  subst k1
  exact ⟨endB e, ob', k4, (RndOk.of hob0 h1 X1 h5 X2 k2).shrink k3 (Nat.le_refl _) (.pu trivial)⟩
theorem RndOk.runEF {P : Program} {id : Pos} {ds : List D} {ob : T C} {nx : Pos} {Φ : Bool → T C → Prop} {sl0 : T D} {ps : List Pos} {nt : Nat} {asg body : Code} {j0 : Option Ex} {rcA rcB : RC} (hob0 : ob.get id = some (.lp sl0 ps nt asg body .ready j0)) (hA : comp P nt asg = rcA) (hB : comp P nt body = rcB)
    (hp : parmP ps ds sl0 fun sl' => Rn P nt rcA ⟨sl', ob, nx, none⟩ (RndEA P nt rcB id (RndEF Φ id nx))) : ∃ g ob', Φ g ob' ∧ RndOk P id ds ob nx none (.b g) ob' nx none := by
  obtain ⟨sl', h1, h2⟩ := hp
  obtain ⟨e, ⟨s2, ob1, nx1, lg1⟩, X1, h3⟩ := h2.ok asg hA
  obtain ⟨rfl, h4, a1, b1, m1, c1, q1, j1, h5, h6⟩ := h3.ok
  have h4 : lg1 = none := h4
  subst h4
  obtain ⟨e, ⟨s3, ob3, nx3, lg3⟩, X2, h7⟩ := h6.ok body hB
  obtain ⟨a3, b3, m3, c3, q3, s3', j3, ob', ob2, k1, k2, nx1, a0, l1, l2, k3, k4, k5⟩ := h7.ok
  have k1 : lg3 = none := k1
  subst k1
  exact ⟨endB e, ob2, k5, ((RndOk.of hob0 h1 X1 h5 X2 k2).shrink k3 l1 (.pu trivial)).fill trivial l2 k4⟩
theorem CallOk.lower {P : Program} {f : Nat} {ds : List D} {ob ob' : T C} {nx nx' nx0 : Pos} {lg lg' : Option (T Bool)} {v : D} (h : CallOk P f ds ob nx lg v ob' nx' lg') (hle : nx0.nat ≤ nx.nat) : CallOk P f ds ob nx0 lg v ob' nx' lg' :=
  ⟨h.hl, Nat.le_trans hle h.hx, h.hk, fun so hs γ args w gh ha ho hn => h.ok so hs γ args w gh ha ho fun id h1 h2 => hn id h1 (Nat.le_trans hle h2)⟩
def trL (x1 x2 x3 x4 x5 x6 x7 x8 x9 x10 x11 x12 x13 x14 x15 x16 x17 x18 x19 x20 : Option C) : T C := .n (.n (.n (.n (.n .e x16 .e) x8 .e) x4 (.n (.n .e x20 .e) x12 .e)) x2 (.n (.n (.n .e x18 .e) x10 .e) x6 (.n .e x14 .e))) x1 (.n (.n (.n (.n .e x17 .e) x9 .e) x5 (.n .e x13 .e)) x3 (.n (.n (.n .e x19 .e) x11 .e) x7 (.n .e x15 .e)))
def trR (x1 x2 x3 x4 x5 x6 x7 x8 x9 x10 x11 x12 x13 x14 x15 x16 x17 x18 x19 x20 x21 x22 : Option C) : T C := .n (.n (.n (.n (.n .e x16 .e) x8 .e) x4 (.n (.n .e x20 .e) x12 .e)) x2 (.n (.n (.n .e x18 .e) x10 .e) x6 (.n (.n .e x22 .e) x14 .e))) x1 (.n (.n (.n (.n .e x17 .e) x9 .e) x5 (.n (.n .e x21 .e) x13 .e)) x3 (.n (.n (.n .e x19 .e) x11 .e) x7 (.n .e x15 .e)))
def nb0 : Pos := .o (.o (.o (.o .h)))
def nb1 : Pos := .i (.o (.o (.o .h)))
def nb2 : Pos := .o (.i (.o (.o .h)))
def nb3 : Pos := .i (.i (.o (.o .h)))
def nb4 : Pos := .o (.o (.i (.o .h)))
def nb5 : Pos := .i (.o (.i (.o .h)))
theorem T.le_same {α : Type} {l r l' r' : T α} {v : Option α} (hl : T.le l l') (hr : T.le r r') : T.le (.n l v r) (.n l' v r') := T.le_n hl (.inr rfl) hr
theorem pos_lt {id : Pos} (h : id.nat < 16) : id = .h ∨ id = (.o .h) ∨ id = (.i .h) ∨ id = (.o (.o .h)) ∨ id = (.i (.o .h)) ∨ id = (.o (.i .h)) ∨ id = (.i (.i .h)) ∨ id = (.o (.o (.o .h))) ∨ id = (.i (.o (.o .h))) ∨ id = (.o (.i (.o .h))) ∨ id = (.i (.i (.o .h))) ∨ id = (.o (.o (.i .h))) ∨ id = (.i (.o (.i .h))) ∨ id = (.o (.i (.i .h))) ∨ id = (.i (.i (.i .h))) := by
  match id, h with
  | .h, _ => exact .inl rfl
  | .o .h, _ => exact .inr (.inl rfl)
  | .o (.o .h), _ => exact .inr (.inr (.inr (.inl rfl)))
  | .o (.o (.o .h)), _ => exact .inr (.inr (.inr (.inr (.inr (.inr (.inr (.inl rfl)))))))
  | .o (.o (.o (.o p))), h => have := Pos.nat_pos p; simp [Pos.nat] at h; omega
  | .o (.o (.o (.i p))), h => have := Pos.nat_pos p; simp [Pos.nat] at h; omega
  | .o (.o (.i .h)), _ => exact .inr (.inr (.inr (.inr (.inr (.inr (.inr (.inr (.inr (.inr (.inr (.inl rfl)))))))))))
  | .o (.o (.i (.o p))), h => have := Pos.nat_pos p; simp [Pos.nat] at h; omega
  | .o (.o (.i (.i p))), h => have := Pos.nat_pos p; simp [Pos.nat] at h; omega
  | .o (.i .h), _ => exact .inr (.inr (.inr (.inr (.inr (.inl rfl)))))
  | .o (.i (.o .h)), _ => exact .inr (.inr (.inr (.inr (.inr (.inr (.inr (.inr (.inr (.inl rfl)))))))))
  | .o (.i (.o (.o p))), h => have := Pos.nat_pos p; simp [Pos.nat] at h; omega
  | .o (.i (.o (.i p))), h => have := Pos.nat_pos p; simp [Pos.nat] at h; omega
  | .o (.i (.i .h)), _ => exact .inr (.inr (.inr (.inr (.inr (.inr (.inr (.inr (.inr (.inr (.inr (.inr (.inr (.inl rfl)))))))))))))
  | .o (.i (.i (.o p))), h => have := Pos.nat_pos p; simp [Pos.nat] at h; omega
  | .o (.i (.i (.i p))), h => have := Pos.nat_pos p; simp [Pos.nat] at h; omega
  | .i .h, _ => exact .inr (.inr (.inl rfl))
  | .i (.o .h), _ => exact .inr (.inr (.inr (.inr (.inl rfl))))
  | .i (.o (.o .h)), _ => exact .inr (.inr (.inr (.inr (.inr (.inr (.inr (.inr (.inl rfl))))))))
  | .i (.o (.o (.o p))), h => have := Pos.nat_pos p; simp [Pos.nat] at h; omega
  | .i (.o (.o (.i p))), h => have := Pos.nat_pos p; simp [Pos.nat] at h; omega
  | .i (.o (.i .h)), _ => exact .inr (.inr (.inr (.inr (.inr (.inr (.inr (.inr (.inr (.inr (.inr (.inr (.inl rfl))))))))))))
  | .i (.o (.i (.o p))), h => have := Pos.nat_pos p; simp [Pos.nat] at h; omega
  | .i (.o (.i (.i p))), h => have := Pos.nat_pos p; simp [Pos.nat] at h; omega
  | .i (.i .h), _ => exact .inr (.inr (.inr (.inr (.inr (.inr (.inl rfl))))))
  | .i (.i (.o .h)), _ => exact .inr (.inr (.inr (.inr (.inr (.inr (.inr (.inr (.inr (.inr (.inl rfl))))))))))
  | .i (.i (.o (.o p))), h => have := Pos.nat_pos p; simp [Pos.nat] at h; omega
  | .i (.i (.o (.i p))), h => have := Pos.nat_pos p; simp [Pos.nat] at h; omega
  | .i (.i (.i .h)), _ => exact .inr (.inr (.inr (.inr (.inr (.inr (.inr (.inr (.inr (.inr (.inr (.inr (.inr (.inr (rfl))))))))))))))
  | .i (.i (.i (.o p))), h => have := Pos.nat_pos p; simp [Pos.nat] at h; omega
  | .i (.i (.i (.i p))), h => have := Pos.nat_pos p; simp [Pos.nat] at h; omega
theorem pos_ge {id : Pos} (h : 16 ≤ id.nat) : id ≠ .h ∧ id ≠ (.o .h) ∧ id ≠ (.i .h) ∧ id ≠ (.o (.o .h)) ∧ id ≠ (.i (.o .h)) ∧ id ≠ (.o (.i .h)) ∧ id ≠ (.i (.i .h)) ∧ id ≠ (.o (.o (.o .h))) ∧ id ≠ (.i (.o (.o .h))) ∧ id ≠ (.o (.i (.o .h))) ∧ id ≠ (.i (.i (.o .h))) ∧ id ≠ (.o (.o (.i .h))) ∧ id ≠ (.i (.o (.i .h))) ∧ id ≠ (.o (.i (.i .h))) ∧ id ≠ (.i (.i (.i .h))) := by
  refine ⟨?_, ?_, ?_, ?_, ?_, ?_, ?_, ?_, ?_, ?_, ?_, ?_, ?_, ?_, ?_⟩ <;> (rintro rfl; simp [Pos.nat] at h)
section
variable {x1 x2 x3 x4 x5 x6 x7 x8 x9 x10 x11 x12 x13 x14 x15 y1 y2 y3 y4 y5 y6 y7 y8 y9 y10 y11 y12 y13 y14 y15 x16 x17 x18 x19 x20 x21 x22 : Option C}
theorem trR_hi {id : Pos} (h : 16 ≤ id.nat) : (trR y1 y2 y3 y4 y5 y6 y7 y8 y9 y10 y11 y12 y13 y14 y15 x16 x17 x18 x19 x20 x21 x22).get id = (trR x1 x2 x3 x4 x5 x6 x7 x8 x9 x10 x11 x12 x13 x14 x15 x16 x17 x18 x19 x20 x21 x22).get id := by
  have h := pos_ge h
  unfold trR
  match id, h with
  | .h, h => exact absurd rfl h.1
  | .o .h, h => exact absurd rfl h.2.1
  | .o (.o .h), h => exact absurd rfl h.2.2.2.1
  | .o (.o (.o .h)), h => exact absurd rfl h.2.2.2.2.2.2.2.1
  | .o (.o (.o (.o .h))), _ => rfl
  | .o (.o (.o (.o (.o _)))), _ => rfl
  | .o (.o (.o (.o (.i _)))), _ => rfl
  | .o (.o (.o (.i _))), _ => rfl
  | .o (.o (.i .h)), h => exact absurd rfl h.2.2.2.2.2.2.2.2.2.2.2.1
  | .o (.o (.i (.o .h))), _ => rfl
  | .o (.o (.i (.o (.o _)))), _ => rfl
  | .o (.o (.i (.o (.i _)))), _ => rfl
  | .o (.o (.i (.i _))), _ => rfl
  | .o (.i .h), h => exact absurd rfl h.2.2.2.2.2.1
  | .o (.i (.o .h)), h => exact absurd rfl h.2.2.2.2.2.2.2.2.2.1
  | .o (.i (.o (.o .h))), _ => rfl
  | .o (.i (.o (.o (.o _)))), _ => rfl
  | .o (.i (.o (.o (.i _)))), _ => rfl
  | .o (.i (.o (.i _))), _ => rfl
  | .o (.i (.i .h)), h => exact absurd rfl h.2.2.2.2.2.2.2.2.2.2.2.2.2.1
  | .o (.i (.i (.o .h))), _ => rfl
  | .o (.i (.i (.o (.o _)))), _ => rfl
  | .o (.i (.i (.o (.i _)))), _ => rfl
  | .o (.i (.i (.i _))), _ => rfl
  | .i .h, h => exact absurd rfl h.2.2.1
  | .i (.o .h), h => exact absurd rfl h.2.2.2.2.1
  | .i (.o (.o .h)), h => exact absurd rfl h.2.2.2.2.2.2.2.2.1
  | .i (.o (.o (.o .h))), _ => rfl
  | .i (.o (.o (.o (.o _)))), _ => rfl
  | .i (.o (.o (.o (.i _)))), _ => rfl
  | .i (.o (.o (.i _))), _ => rfl
  | .i (.o (.i .h)), h => exact absurd rfl h.2.2.2.2.2.2.2.2.2.2.2.2.1
  | .i (.o (.i (.o .h))), _ => rfl
  | .i (.o (.i (.o (.o _)))), _ => rfl
  | .i (.o (.i (.o (.i _)))), _ => rfl
  | .i (.o (.i (.i _))), _ => rfl
  | .i (.i .h), h => exact absurd rfl h.2.2.2.2.2.2.1
  | .i (.i (.o .h)), h => exact absurd rfl h.2.2.2.2.2.2.2.2.2.2.1
  | .i (.i (.o (.o .h))), _ => rfl
  | .i (.i (.o (.o (.o _)))), _ => rfl
  | .i (.i (.o (.o (.i _)))), _ => rfl
  | .i (.i (.o (.i _))), _ => rfl
  | .i (.i (.i .h)), h => exact absurd rfl h.2.2.2.2.2.2.2.2.2.2.2.2.2.2
  | .i (.i (.i (.o _))), _ => rfl
  | .i (.i (.i (.i _))), _ => rfl
theorem trR_lo {id : Pos} {c : C} (h : id.nat < 16) (hc : (trR y1 y2 y3 y4 y5 y6 y7 y8 y9 y10 y11 y12 y13 y14 y15 x16 x17 x18 x19 x20 x21 x22).get id = some c) : (trL y1 y2 y3 y4 y5 y6 y7 y8 y9 y10 y11 y12 y13 y14 y15 none none none none none).get id = some c := by
  rcases pos_lt h with rfl | rfl | rfl | rfl | rfl | rfl | rfl | rfl | rfl | rfl | rfl | rfl | rfl | rfl | rfl <;> exact hc
theorem trR_beside : Beside nb0 (trL y1 y2 y3 y4 y5 y6 y7 y8 y9 y10 y11 y12 y13 y14 y15 none none none none none) (trR x1 x2 x3 x4 x5 x6 x7 x8 x9 x10 x11 x12 x13 x14 x15 x16 x17 x18 x19 x20 x21 x22) (trR y1 y2 y3 y4 y5 y6 y7 y8 y9 y10 y11 y12 y13 y14 y15 x16 x17 x18 x19 x20 x21 x22) := ⟨fun id c h hc => trR_lo h hc, fun id h => trR_hi h⟩
theorem trR_le : T.le (trL x1 x2 x3 x4 x5 x6 x7 x8 x9 x10 x11 x12 x13 x14 x15 none none none none none) (trR x1 x2 x3 x4 x5 x6 x7 x8 x9 x10 x11 x12 x13 x14 x15 x16 x17 x18 x19 x20 x21 x22) := by
  unfold trL trR
  repeat' first | exact T.le_refl _ | exact T.le_e _ | refine T.le_same ?_ ?_ | refine T.le_none ?_ ?_
end
theorem trL_at {x1 x2 x3 x4 x5 x6 x7 x8 x9 x10 x11 x12 x13 x14 x15 x16 x17 x18 x19 x20 : Option C} {id : Pos} (e1 : id ≠ nb2) (e2 : id ≠ nb3) (e3 : id ≠ nb4) : (trL x1 x2 x3 x4 x5 x6 x7 x8 x9 x10 x11 x12 x13 x14 x15 x16 x17 x18 x19 x20).get id = (trL x1 x2 x3 x4 x5 x6 x7 x8 x9 x10 x11 x12 x13 x14 x15 x16 x17 none none none).get id := by
  unfold trL
  match id, e1, e2, e3 with
  | .h, _, _, _ => rfl
  | .o .h, _, _, _ => rfl
  | .o (.o .h), _, _, _ => rfl
  | .o (.o (.o .h)), _, _, _ => rfl
  | .o (.o (.o (.o .h))), _, _, _ => rfl
  | .o (.o (.o (.o (.o _)))), _, _, _ => rfl
  | .o (.o (.o (.o (.i _)))), _, _, _ => rfl
  | .o (.o (.o (.i _))), _, _, _ => rfl
  | .o (.o (.i .h)), _, _, _ => rfl
  | .o (.o (.i (.o .h))), _, _, e => exact absurd rfl e
  | .o (.o (.i (.o (.o _)))), _, _, _ => rfl
  | .o (.o (.i (.o (.i _)))), _, _, _ => rfl
  | .o (.o (.i (.i _))), _, _, _ => rfl
  | .o (.i .h), _, _, _ => rfl
  | .o (.i (.o .h)), _, _, _ => rfl
  | .o (.i (.o (.o .h))), e, _, _ => exact absurd rfl e
  | .o (.i (.o (.o (.o _)))), _, _, _ => rfl
  | .o (.i (.o (.o (.i _)))), _, _, _ => rfl
  | .o (.i (.o (.i _))), _, _, _ => rfl
  | .o (.i (.i .h)), _, _, _ => rfl
  | .o (.i (.i (.o _))), _, _, _ => rfl
  | .o (.i (.i (.i _))), _, _, _ => rfl
  | .i .h, _, _, _ => rfl
  | .i (.o .h), _, _, _ => rfl
  | .i (.o (.o .h)), _, _, _ => rfl
  | .i (.o (.o (.o .h))), _, _, _ => rfl
  | .i (.o (.o (.o (.o _)))), _, _, _ => rfl
  | .i (.o (.o (.o (.i _)))), _, _, _ => rfl
  | .i (.o (.o (.i _))), _, _, _ => rfl
  | .i (.o (.i .h)), _, _, _ => rfl
  | .i (.o (.i (.o _))), _, _, _ => rfl
  | .i (.o (.i (.i _))), _, _, _ => rfl
  | .i (.i .h), _, _, _ => rfl
  | .i (.i (.o .h)), _, _, _ => rfl
  | .i (.i (.o (.o .h))), _, e, _ => exact absurd rfl e
  | .i (.i (.o (.o (.o _)))), _, _, _ => rfl
  | .i (.i (.o (.o (.i _)))), _, _, _ => rfl
  | .i (.i (.o (.i _))), _, _, _ => rfl
  | .i (.i (.i .h)), _, _, _ => rfl
  | .i (.i (.i (.o _))), _, _, _ => rfl
  | .i (.i (.i (.i _))), _, _, _ => rfl
theorem trL_of {x1 x2 x3 x4 x5 x6 x7 x8 x9 x10 x11 x12 x13 x14 x15 x16 x17 : Option C} {id : Pos} {c : C} (h : (trL x1 x2 x3 x4 x5 x6 x7 x8 x9 x10 x11 x12 x13 x14 x15 x16 x17 none none none).get id = some c) : id = nb0 ∨ id = nb1 ∨ (id.nat < 16 ∧ (trL x1 x2 x3 x4 x5 x6 x7 x8 x9 x10 x11 x12 x13 x14 x15 none none none none none).get id = some c) := by
  unfold trL at h
  match id, h with
  | .h, h => exact .inr (.inr ⟨by simp [Pos.nat], h⟩)
  | .o .h, h => exact .inr (.inr ⟨by simp [Pos.nat], h⟩)
  | .o (.o .h), h => exact .inr (.inr ⟨by simp [Pos.nat], h⟩)
  | .o (.o (.o .h)), h => exact .inr (.inr ⟨by simp [Pos.nat], h⟩)
  | .o (.o (.o (.o .h))), _ => exact .inl rfl
  | .o (.o (.o (.o (.o _)))), h => cases h
  | .o (.o (.o (.o (.i _)))), h => cases h
  | .o (.o (.o (.i _))), h => cases h
  | .o (.o (.i .h)), h => exact .inr (.inr ⟨by simp [Pos.nat], h⟩)
  | .o (.o (.i (.o .h))), h => cases h
  | .o (.o (.i (.o (.o _)))), h => cases h
  | .o (.o (.i (.o (.i _)))), h => cases h
  | .o (.o (.i (.i _))), h => cases h
  | .o (.i .h), h => exact .inr (.inr ⟨by simp [Pos.nat], h⟩)
  | .o (.i (.o .h)), h => exact .inr (.inr ⟨by simp [Pos.nat], h⟩)
  | .o (.i (.o (.o .h))), h => cases h
  | .o (.i (.o (.o (.o _)))), h => cases h
  | .o (.i (.o (.o (.i _)))), h => cases h
  | .o (.i (.o (.i _))), h => cases h
  | .o (.i (.i .h)), h => exact .inr (.inr ⟨by simp [Pos.nat], h⟩)
  | .o (.i (.i (.o _))), h => cases h
  | .o (.i (.i (.i _))), h => cases h
  | .i .h, h => exact .inr (.inr ⟨by simp [Pos.nat], h⟩)
  | .i (.o .h), h => exact .inr (.inr ⟨by simp [Pos.nat], h⟩)
  | .i (.o (.o .h)), h => exact .inr (.inr ⟨by simp [Pos.nat], h⟩)
  | .i (.o (.o (.o .h))), _ => exact .inr (.inl rfl)
  | .i (.o (.o (.o (.o _)))), h => cases h
  | .i (.o (.o (.o (.i _)))), h => cases h
  | .i (.o (.o (.i _))), h => cases h
  | .i (.o (.i .h)), h => exact .inr (.inr ⟨by simp [Pos.nat], h⟩)
  | .i (.o (.i (.o _))), h => cases h
  | .i (.o (.i (.i _))), h => cases h
  | .i (.i .h), h => exact .inr (.inr ⟨by simp [Pos.nat], h⟩)
  | .i (.i (.o .h)), h => exact .inr (.inr ⟨by simp [Pos.nat], h⟩)
  | .i (.i (.o (.o .h))), h => cases h
  | .i (.i (.o (.o (.o _)))), h => cases h
  | .i (.i (.o (.o (.i _)))), h => cases h
  | .i (.i (.o (.i _))), h => cases h
  | .i (.i (.i .h)), h => exact .inr (.inr ⟨by simp [Pos.nat], h⟩)
  | .i (.i (.i (.o _))), h => cases h
  | .i (.i (.i (.i _))), h => cases h
section
variable {x1 x2 x3 x4 x5 x6 x7 x8 x9 x10 x11 y1 y2 y3 y4 y5 y6 y7 y8 y9 y10 y11 x12 x13 x14 x15 x16 x17 x18 x19 x20 : Option C}
theorem pos_lt12 {id : Pos} (h : id.nat < 12) : id = .h ∨ id = (.o .h) ∨ id = (.i .h) ∨ id = (.o (.o .h)) ∨ id = (.i (.o .h)) ∨ id = (.o (.i .h)) ∨ id = (.i (.i .h)) ∨ id = (.o (.o (.o .h))) ∨ id = (.i (.o (.o .h))) ∨ id = (.o (.i (.o .h))) ∨ id = (.i (.i (.o .h))) := by
  match id, h with
  | .h, _ => exact .inl rfl
  | .o .h, _ => exact .inr (.inl rfl)
  | .o (.o .h), _ => exact .inr (.inr (.inr (.inl rfl)))
  | .o (.o (.o .h)), _ => exact .inr (.inr (.inr (.inr (.inr (.inr (.inr (.inl rfl)))))))
  | .o (.o (.o (.o p))), h => have := Pos.nat_pos p; simp [Pos.nat] at h; omega
  | .o (.o (.o (.i p))), h => have := Pos.nat_pos p; simp [Pos.nat] at h; omega
  | .o (.o (.i p)), h => have := Pos.nat_pos p; simp [Pos.nat] at h; omega
  | .o (.i .h), _ => exact .inr (.inr (.inr (.inr (.inr (.inl rfl)))))
  | .o (.i (.o .h)), _ => exact .inr (.inr (.inr (.inr (.inr (.inr (.inr (.inr (.inr (.inl rfl)))))))))
  | .o (.i (.o (.o p))), h => have := Pos.nat_pos p; simp [Pos.nat] at h; omega
  | .o (.i (.o (.i p))), h => have := Pos.nat_pos p; simp [Pos.nat] at h; omega
  | .o (.i (.i p)), h => have := Pos.nat_pos p; simp [Pos.nat] at h; omega
  | .i .h, _ => exact .inr (.inr (.inl rfl))
  | .i (.o .h), _ => exact .inr (.inr (.inr (.inr (.inl rfl))))
  | .i (.o (.o .h)), _ => exact .inr (.inr (.inr (.inr (.inr (.inr (.inr (.inr (.inl rfl))))))))
  | .i (.o (.o (.o p))), h => have := Pos.nat_pos p; simp [Pos.nat] at h; omega
  | .i (.o (.o (.i p))), h => have := Pos.nat_pos p; simp [Pos.nat] at h; omega
  | .i (.o (.i p)), h => have := Pos.nat_pos p; simp [Pos.nat] at h; omega
  | .i (.i .h), _ => exact .inr (.inr (.inr (.inr (.inr (.inr (.inl rfl))))))
  | .i (.i (.o .h)), _ => exact .inr (.inr (.inr (.inr (.inr (.inr (.inr (.inr (.inr (.inr (rfl))))))))))
  | .i (.i (.o (.o p))), h => have := Pos.nat_pos p; simp [Pos.nat] at h; omega
  | .i (.i (.o (.i p))), h => have := Pos.nat_pos p; simp [Pos.nat] at h; omega
  | .i (.i (.i p)), h => have := Pos.nat_pos p; simp [Pos.nat] at h; omega
theorem pos_ge12 {id : Pos} (h : 12 ≤ id.nat) : id ≠ .h ∧ id ≠ (.o .h) ∧ id ≠ (.i .h) ∧ id ≠ (.o (.o .h)) ∧ id ≠ (.i (.o .h)) ∧ id ≠ (.o (.i .h)) ∧ id ≠ (.i (.i .h)) ∧ id ≠ (.o (.o (.o .h))) ∧ id ≠ (.i (.o (.o .h))) ∧ id ≠ (.o (.i (.o .h))) ∧ id ≠ (.i (.i (.o .h))) := by
  refine ⟨?_, ?_, ?_, ?_, ?_, ?_, ?_, ?_, ?_, ?_, ?_⟩ <;> (rintro rfl; simp [Pos.nat] at h)
theorem trL_hi12 {id : Pos} (h : 12 ≤ id.nat) : (trL y1 y2 y3 y4 y5 y6 y7 y8 y9 y10 y11 x12 x13 x14 x15 x16 x17 x18 x19 x20).get id = (trL x1 x2 x3 x4 x5 x6 x7 x8 x9 x10 x11 x12 x13 x14 x15 x16 x17 x18 x19 x20).get id := by
  have h := pos_ge12 h
  unfold trL
  match id, h with
  | .h, h => exact absurd rfl h.1
  | .o .h, h => exact absurd rfl h.2.1
  | .o (.o .h), h => exact absurd rfl h.2.2.2.1
  | .o (.o (.o .h)), h => exact absurd rfl h.2.2.2.2.2.2.2.1
  | .o (.o (.o (.o .h))), _ => rfl
  | .o (.o (.o (.o (.o _)))), _ => rfl
  | .o (.o (.o (.o (.i _)))), _ => rfl
  | .o (.o (.o (.i _))), _ => rfl
  | .o (.o (.i .h)), _ => rfl
  | .o (.o (.i (.o .h))), _ => rfl
  | .o (.o (.i (.o (.o _)))), _ => rfl
  | .o (.o (.i (.o (.i _)))), _ => rfl
  | .o (.o (.i (.i _))), _ => rfl
  | .o (.i .h), h => exact absurd rfl h.2.2.2.2.2.1
  | .o (.i (.o .h)), h => exact absurd rfl h.2.2.2.2.2.2.2.2.2.1
  | .o (.i (.o (.o .h))), _ => rfl
  | .o (.i (.o (.o (.o _)))), _ => rfl
  | .o (.i (.o (.o (.i _)))), _ => rfl
  | .o (.i (.o (.i _))), _ => rfl
  | .o (.i (.i .h)), _ => rfl
  | .o (.i (.i (.o _))), _ => rfl
  | .o (.i (.i (.i _))), _ => rfl
  | .i .h, h => exact absurd rfl h.2.2.1
  | .i (.o .h), h => exact absurd rfl h.2.2.2.2.1
  | .i (.o (.o .h)), h => exact absurd rfl h.2.2.2.2.2.2.2.2.1
  | .i (.o (.o (.o .h))), _ => rfl
  | .i (.o (.o (.o (.o _)))), _ => rfl
  | .i (.o (.o (.o (.i _)))), _ => rfl
  | .i (.o (.o (.i _))), _ => rfl
  | .i (.o (.i .h)), _ => rfl
  | .i (.o (.i (.o _))), _ => rfl
  | .i (.o (.i (.i _))), _ => rfl
  | .i (.i .h), h => exact absurd rfl h.2.2.2.2.2.2.1
  | .i (.i (.o .h)), h => exact absurd rfl h.2.2.2.2.2.2.2.2.2.2
  | .i (.i (.o (.o .h))), _ => rfl
  | .i (.i (.o (.o (.o _)))), _ => rfl
  | .i (.i (.o (.o (.i _)))), _ => rfl
  | .i (.i (.o (.i _))), _ => rfl
  | .i (.i (.i .h)), _ => rfl
  | .i (.i (.i (.o _))), _ => rfl
  | .i (.i (.i (.i _))), _ => rfl
theorem trL_lo12 {id : Pos} {c : C} (h : id.nat < 12) (hc : (trL y1 y2 y3 y4 y5 y6 y7 y8 y9 y10 y11 x12 x13 x14 x15 x16 x17 x18 x19 x20).get id = some c) : (trL y1 y2 y3 y4 y5 y6 y7 y8 y9 y10 y11 none none none none none none none none none).get id = some c := by
  rcases pos_lt12 h with rfl | rfl | rfl | rfl | rfl | rfl | rfl | rfl | rfl | rfl | rfl <;> exact hc
def n12 : Pos := .o (.o (.i .h))
theorem trL_beside12 : Beside n12 (trL y1 y2 y3 y4 y5 y6 y7 y8 y9 y10 y11 none none none none none none none none none) (trL x1 x2 x3 x4 x5 x6 x7 x8 x9 x10 x11 x12 x13 x14 x15 x16 x17 x18 x19 x20) (trL y1 y2 y3 y4 y5 y6 y7 y8 y9 y10 y11 x12 x13 x14 x15 x16 x17 x18 x19 x20) := ⟨fun id c h hc => trL_lo12 h hc, fun id h => trL_hi12 h⟩
theorem trL_le12 : T.le (trL x1 x2 x3 x4 x5 x6 x7 x8 x9 x10 x11 none none none none none none none none none) (trL x1 x2 x3 x4 x5 x6 x7 x8 x9 x10 x11 x12 x13 x14 x15 x16 x17 x18 x19 x20) := by
  unfold trL
  repeat' first | exact T.le_refl _ | exact T.le_e _ | refine T.le_same ?_ ?_ | refine T.le_none ?_ ?_
end
end Go.Ev
namespace Go.Ev
open Go.Proofs
set_option maxRecDepth 100000
def PA (n : Int) (l : Ln) (i : Nat) : List Ln := ((rngL (kLo l) (kHi l)).take i).flatMap fun a => rdsC n l a
def PB (n : Int) (l : Ln) (a : Int) (j : Nat) : List Ln := ((rngL (cLo l) (cHi n l)).take j).flatMap fun b => rdsT n l a b
def PC (n : Int) (l : Ln) (a b : Int) (q : Nat) : List Ln := ((rngL (tLo l) (tHi n l)).take q).map fun c => ⟨a, b, c⟩
theorem PA_succ {n : Int} {l : Ln} {i : Nat} (h : i < (kHi l + 1 - kLo l).toNat) : PA n l (i + 1) = PA n l i ++ rdsC n l (kLo l + (i : Int)) := by
  unfold PA
  rw [take_succ_getD (d := 0) (by rw [rngL_length]; exact h), List.flatMap_append, rngL_at h]
  simp
theorem PB_succ {n : Int} {l : Ln} {a : Int} {j : Nat} (h : j < (cHi n l + 1 - cLo l).toNat) : PB n l a (j + 1) = PB n l a j ++ rdsT n l a (cLo l + (j : Int)) := by
  unfold PB
  rw [take_succ_getD (d := 0) (by rw [rngL_length]; exact h), List.flatMap_append, rngL_at h]
  simp
theorem PC_succ {n : Int} {l : Ln} {a b : Int} {q : Nat} (h : q < (tHi n l + 1 - tLo l).toNat) : PC n l a b (q + 1) = PC n l a b q ++ [⟨a, b, tLo l + (q : Int)⟩] := by
  unfold PC
  rw [take_succ_getD (d := 0) (by rw [rngL_length]; exact h), List.map_append, rngL_at h]
  simp
theorem PA_all {n : Int} {l : Ln} {i : Nat} (h : (kHi l + 1 - kLo l).toNat ≤ i) : PA n l i = rdsL n l := by
  unfold PA rdsL
  rw [List.take_of_length_le (by rw [rngL_length]; exact h)]
theorem PB_all {n : Int} {l : Ln} {a : Int} {j : Nat} (h : (cHi n l + 1 - cLo l).toNat ≤ j) : PB n l a j = rdsC n l a := by
  unfold PB rdsC
  rw [List.take_of_length_le (by rw [rngL_length]; exact h)]
theorem PC_all {n : Int} {l : Ln} {a b : Int} {q : Nat} (h : (tHi n l + 1 - tLo l).toNat ≤ q) : PC n l a b q = rdsT n l a b := by
  unfold PC rdsT
  rw [List.take_of_length_le (by rw [rngL_length]; exact h)]
theorem PA_pre (n : Int) (l : Ln) (i : Nat) : PA n l i <+: rdsL n l := by
  refine ⟨((rngL (kLo l) (kHi l)).drop i).flatMap fun a => rdsC n l a, ?_⟩
  unfold PA rdsL
  rw [← List.flatMap_append, List.take_append_drop]
theorem PB_pre (n : Int) (l : Ln) (a : Int) (j : Nat) : PB n l a j <+: rdsC n l a := by
  refine ⟨((rngL (cLo l) (cHi n l)).drop j).flatMap fun b => rdsT n l a b, ?_⟩
  unfold PB rdsC
  rw [← List.flatMap_append, List.take_append_drop]
theorem PC_pre (n : Int) (l : Ln) (a b : Int) (q : Nat) : PC n l a b q <+: rdsT n l a b := by
  refine ⟨((rngL (tLo l) (tHi n l)).drop q).map fun c => ⟨a, b, c⟩, ?_⟩
  unfold PC rdsT
  rw [← List.map_append, List.take_append_drop]
theorem pre_all {n : Int} {l : Ln} {i j q : Nat} (hi : i < (kHi l + 1 - kLo l).toNat) (hj : j < (cHi n l + 1 - cLo l).toNat) : PA n l i ++ (PB n l (kLo l + (i : Int)) j ++ PC n l (kLo l + (i : Int)) (cLo l + (j : Int)) q) <+: rdsL n l := by
  have h1 : PB n l (kLo l + (i : Int)) j ++ PC n l (kLo l + (i : Int)) (cLo l + (j : Int)) q <+: rdsC n l (kLo l + (i : Int)) := by
    refine List.IsPrefix.trans ?_ (PB_pre n l _ (j + 1))
    rw [PB_succ hj]
    exact (List.prefix_append_right_inj _).2 (PC_pre _ _ _ _ _)
  refine List.IsPrefix.trans ?_ (PA_pre n l (i + 1))
  rw [PA_succ hi]
  exact (List.prefix_append_right_inj _).2 h1
structure Lns (σ : Type) where
  o : Nat → σ → Option C
def Lns.ob {σ : Type} (S : Lns σ) (n : Int) (l : Ln) (s : σ) : T C := trL (S.o 1 s) (S.o 2 s) (S.o 3 s) (S.o 4 s) (S.o 5 s) (S.o 6 s) (S.o 7 s) (S.o 8 s) (S.o 9 s) (S.o 10 s) (S.o 11 s) (S.o 12 s) (S.o 13 s) (S.o 14 s) (S.o 15 s) (S.o 16 s) (S.o 17 s) (some (.cells false [.o (.i .i64 (kLo l)) 0, .o (.i .i64 (kHi l)) 0] 1)) (some (.cells false [.o (.i .i64 (cLo l)) 0, .o (.i .i64 (cHi n l)) 0] 1)) (some (.cells false [.o (.i .i64 (tLo l)) 0, .o (.i .i64 (tHi n l)) 0] 1))
def Lns.base {σ : Type} (S : Lns σ) (s : σ) : T C := trL (S.o 1 s) (S.o 2 s) (S.o 3 s) (S.o 4 s) (S.o 5 s) (S.o 6 s) (S.o 7 s) (S.o 8 s) (S.o 9 s) (S.o 10 s) (S.o 11 s) (S.o 12 s) (S.o 13 s) (S.o 14 s) (S.o 15 s) (S.o 16 s) (S.o 17 s) none none none
theorem Lns.le {σ : Type} (S : Lns σ) (n : Int) (l : Ln) (s : σ) : T.le (S.base s) (S.ob n l s) := by
  unfold Lns.base Lns.ob trL
  repeat' first | exact T.le_refl _ | exact T.le_e _ | refine T.le_same ?_ ?_ | refine T.le_none ?_ ?_
structure LnsOk {σ : Type} (S : Lns σ) (y : Pos) (I : List Ln → σ → Prop) (R : σ → Ln → σ → Bool → Prop) (n : Int) (l : Ln) : Prop where
  yl : y.nat < 18
  kp : ∀ s, KpO 18 (S.base s)
  inv : ∀ h s a s', h ++ [a] <+: rdsL n l → I h s → R s a s' true → I (h ++ [a]) s'
  rnd : ∀ h s, I h s → ∀ a, h ++ [a] <+: rdsL n l → ∀ (sl : T D) (d : Option Pos) (K : X → Prop), (∀ s' g, R s a s' g → wDst sl (S.ob n l s') nb5 none d K (.b g)) → WRnd Try.prog y [.ag [.i .i64 a.k, .i .i64 a.c, .i .i64 a.t]] d ⟨sl, S.ob n l s, nb5, none⟩ K
def iS (y : Pos) (row : List D) (l : Ln) (a : Int) : T D := (.n (.n (.n (.n .e (some (.i .i64 a)) .e) none .e) (some (.pl row 0)) (.n .e (some (.pt nb3 0 0)) .e)) (some (.yl y)) (.n (.n .e (some (.pt nb2 0 0)) .e) (some (.pl (ln3 l) 0)) (.n .e (some (.pt nb4 0 0)) .e)))
def iS2 (y : Pos) (row : List D) (l : Ln) (a b : Int) : T D := (.n (.n (.n (.n .e (some (.i .i64 a)) .e) none .e) (some (.pl row 0)) (.n .e (some (.pt nb3 0 0)) .e)) (some (.yl y)) (.n (.n (.n .e (some (.i .i64 b)) .e) (some (.pt nb2 0 0)) .e) (some (.pl (ln3 l) 0)) (.n .e (some (.pt nb4 0 0)) .e)))
def iS3 (y : Pos) (row : List D) (l : Ln) (a b c : Int) : T D := (.n (.n (.n (.n .e (some (.i .i64 a)) .e) none .e) (some (.pl row 0)) (.n (.n .e (some (.i .i64 c)) .e) (some (.pt nb3 0 0)) .e)) (some (.yl y)) (.n (.n (.n .e (some (.i .i64 b)) .e) (some (.pt nb2 0 0)) .e) (some (.pl (ln3 l) 0)) (.n .e (some (.pt nb4 0 0)) .e)))
theorem iS_kp {y : Pos} (hy : y.nat < 18) {row : List D} (h : PuL row) (l : Ln) (a : Int) : ∀ s d, (iS y row l a).get s = some d → Kp nb5.nat d := by
  show TAll (fun _ d => Kp nb5.nat d) (iS y row l a)
  unfold iS
  repeat' first | exact TAll.e | refine TAll.some ?_ ?_ ?_ | refine TAll.none ?_ ?_
  all_goals simp [Kp, KpL, Pu, PuL, h, ln3, nb2, nb3, nb4, nb5, Pos.nat]
  all_goals omega
theorem iS2_kp {y : Pos} (hy : y.nat < 18) {row : List D} (h : PuL row) (l : Ln) (a b : Int) : ∀ s d, (iS2 y row l a b).get s = some d → Kp nb5.nat d := by
  show TAll (fun _ d => Kp nb5.nat d) (iS2 y row l a b)
  unfold iS2
  repeat' first | exact TAll.e | refine TAll.some ?_ ?_ ?_ | refine TAll.none ?_ ?_
  all_goals simp [Kp, KpL, Pu, PuL, h, ln3, nb2, nb3, nb4, nb5, Pos.nat]
  all_goals omega
theorem iS3_kp {y : Pos} (hy : y.nat < 18) {row : List D} (h : PuL row) (l : Ln) (a b c : Int) : ∀ s d, (iS3 y row l a b c).get s = some d → Kp nb5.nat d := by
  show TAll (fun _ d => Kp nb5.nat d) (iS3 y row l a b c)
  unfold iS3
  repeat' first | exact TAll.e | refine TAll.some ?_ ?_ ?_ | refine TAll.none ?_ ?_
  all_goals simp [Kp, KpL, Pu, PuL, h, ln3, nb2, nb3, nb4, nb5, Pos.nat]
  all_goals omega
theorem ob_kp {σ : Type} {S : Lns σ} {n : Int} {l : Ln} (h : ∀ s, KpO 18 (S.base s)) (s : σ) : KpO nb5.nat (S.ob n l s) := by
  intro id c hc
  by_cases e1 : id = nb2
  · subst e1
    have hc : some (.cells false [.o (.i .i64 (kLo l)) 0, .o (.i .i64 (kHi l)) 0] 1) = some c := hc
    cases hc
    exact ⟨by simp [nb2, nb5, Pos.nat], fun c hc => by simp at hc; rcases hc with rfl | rfl <;> trivial⟩
  by_cases e2 : id = nb3
  · subst e2
    have hc : some (.cells false [.o (.i .i64 (cLo l)) 0, .o (.i .i64 (cHi n l)) 0] 1) = some c := hc
    cases hc
    exact ⟨by simp [nb3, nb5, Pos.nat], fun c hc => by simp at hc; rcases hc with rfl | rfl <;> trivial⟩
  by_cases e3 : id = nb4
  · subst e3
    have hc : some (.cells false [.o (.i .i64 (tLo l)) 0, .o (.i .i64 (tHi n l)) 0] 1) = some c := hc
    cases hc
    exact ⟨by simp [nb4, nb5, Pos.nat], fun c hc => by simp at hc; rcases hc with rfl | rfl <;> trivial⟩
  have hb : (S.base s).get id = some c := by
    rw [← hc]
    exact (trL_at e1 e2 e3).symm
  obtain ⟨h1, h2⟩ := h s id c hb
  exact ⟨Nat.lt_trans h1 (by simp [nb5, Pos.nat]), h2.up (by simp [nb5, Pos.nat])⟩
end Go.Ev
namespace Go.Ev
open Go.Proofs
set_option maxRecDepth 100000
theorem j_itL {σ : Type} (S : Lns σ) (y : Pos) (I : List Ln → σ → Prop) (R : σ → Ln → σ → Bool → Prop) (n coin box : Int) (ls : List Ln) (cs : List Ct) (hn : 1 ≤ n ∧ n ≤ 4) (l : Ln) (hk : 0 ≤ l.k ∧ l.k ≤ 2) (hc : -1 ≤ l.c ∧ l.c ≤ 3) (ht : -1 ≤ l.t ∧ l.t ≤ 3) (H : LnsOk S y I R n l) (s0 : σ) (i0 : I [] s0) :
    ∃ v ob', (∃ s' g, Fld R (rdsL n l) s0 s' g ∧ v = .tp [] ∧ ob' = S.base s') ∧ CallOk Try.prog p135.ix [.yl y, .pl (wk6 n coin box ls cs) 0, .pl (ln3 l) 0] (S.base s0) nb2 none v ob' nb2 none := by
  have hrow := pu_wk6 n coin box ls cs
  have hy := H.yl
  have b1 : 1 ≤ kLo l ∧ kLo l ≤ kHi l ∧ kHi l ≤ 2 := by
    unfold kLo kHi
    split <;> omega
  have b2 : 0 ≤ cLo l ∧ cLo l ≤ cHi n l ∧ cHi n l ≤ 3 := by
    unfold cLo cHi
    split <;> omega
  have b3 : 0 ≤ tLo l ∧ tLo l ≤ tHi n l ∧ tHi n l ≤ 3 := by
    unfold tLo tHi
    split <;> omega
  refine CallOk.runE fn134 (by simp) (Nat.le_refl _) ?_
  unfold Lns.base trL
  conv => whnf
  repeat' first | ((first | with_reducible (first | apply Qt | apply Qu) | refine Qa rfl ?_ | refine Qk rfl ?_ | refine Qb ?_ | refine Qc ?_ | refine Qi ?_ | refine Qj ?_ | refine Qf (j_signs n coin box ls cs hn l) ?_) <;> conv => whnf)
  refine Rn.loop (fun t : Nat × σ => ⟨iS y (wk6 n coin box ls cs) l (kLo l + (t.1 : Int)), S.ob n l t.2, nb5, none⟩) (fun t => t.1 ≤ (kHi l + 1 - kLo l).toNat ∧ I (PA n l t.1) t.2 ∧ Fld R (PA n l t.1) s0 t.2 true) (fun t => (kHi l + 1 - kLo l).toNat - t.1) (0, s0) ?_ ?_ ?_
  · refine X.le.mk ?_ ?_ (Nat.le_refl _) rfl rfl
    · unfold iS
      simp only [Int.natCast_zero, Int.add_zero]
      repeat' first | exact T.le_e _ | refine T.le_some ?_ rfl ?_ | refine T.le_none ?_ ?_
    · unfold Lns.ob trL
      repeat' first | exact T.le_refl _ | exact T.le_e _ | refine T.le_some ?_ rfl ?_ | refine T.le_same ?_ ?_ | refine T.le_none ?_ ?_
  · exact ⟨by omega, i0, .nil⟩
  rintro ⟨i, s1⟩ ⟨i1, i2, i3⟩
  have i1 : i ≤ (kHi l + 1 - kLo l).toNat := i1
  have i2 : I (PA n l i) s1 := i2
  have i3 : Fld R (PA n l i) s0 s1 true := i3
  conv => whnf
  repeat' first | ((first | with_reducible (first | apply Qt | apply Qu) | refine Qa rfl ?_ | refine Qk rfl ?_ | refine Qb ?_ | refine Qc ?_ | refine Qi ?_ | refine Qj ?_) <;> conv => whnf)
  refine WB.dec (fun h => ?_) (fun h => ?_) <;> conv => whnf
  · have hi : i < (kHi l + 1 - kLo l).toNat := by omega
    repeat' first | ((first | with_reducible (first | apply Qt | apply Qu) | refine Qa rfl ?_ | refine Qk rfl ?_ | refine Qb ?_ | refine Qc ?_ | refine Qi ?_ | refine Qj ?_) <;> conv => whnf)
    refine Rn.loop (fun t : Nat × σ => ⟨iS2 y (wk6 n coin box ls cs) l (kLo l + (i : Int)) (cLo l + (t.1 : Int)), S.ob n l t.2, nb5, none⟩) (fun t => t.1 ≤ (cHi n l + 1 - cLo l).toNat ∧ I (PA n l i ++ PB n l (kLo l + (i : Int)) t.1) t.2 ∧ Fld R (PA n l i ++ PB n l (kLo l + (i : Int)) t.1) s0 t.2 true) (fun t => (cHi n l + 1 - cLo l).toNat - t.1) (0, s1) ?_ ?_ ?_
    · refine X.le.mk ?_ (T.le_refl _) (Nat.le_refl _) rfl rfl
      unfold iS2
      simp only [Int.natCast_zero, Int.add_zero]
      repeat' first | exact T.le_e _ | refine T.le_some ?_ rfl ?_ | refine T.le_none ?_ ?_
    · exact ⟨by omega, by simpa [PB] using i2, by simpa [PB] using i3⟩
    rintro ⟨j, s2⟩ ⟨j1, j2, j3⟩
    have j1 : j ≤ (cHi n l + 1 - cLo l).toNat := j1
    have j2 : I (PA n l i ++ PB n l (kLo l + (i : Int)) j) s2 := j2
    have j3 : Fld R (PA n l i ++ PB n l (kLo l + (i : Int)) j) s0 s2 true := j3
    conv => whnf
    repeat' first | ((first | with_reducible (first | apply Qt | apply Qu) | refine Qa rfl ?_ | refine Qk rfl ?_ | refine Qb ?_ | refine Qc ?_ | refine Qi ?_ | refine Qj ?_) <;> conv => whnf)
    refine WB.dec (fun h => ?_) (fun h => ?_) <;> conv => whnf
    · have hj : j < (cHi n l + 1 - cLo l).toNat := by omega
      repeat' first | ((first | with_reducible (first | apply Qt | apply Qu) | refine Qa rfl ?_ | refine Qk rfl ?_ | refine Qb ?_ | refine Qc ?_ | refine Qi ?_ | refine Qj ?_) <;> conv => whnf)
      refine Rn.loop (fun t : Nat × σ => ⟨iS3 y (wk6 n coin box ls cs) l (kLo l + (i : Int)) (cLo l + (j : Int)) (tLo l + (t.1 : Int)), S.ob n l t.2, nb5, none⟩) (fun t => t.1 ≤ (tHi n l + 1 - tLo l).toNat ∧ I (PA n l i ++ (PB n l (kLo l + (i : Int)) j ++ PC n l (kLo l + (i : Int)) (cLo l + (j : Int)) t.1)) t.2 ∧ Fld R (PA n l i ++ (PB n l (kLo l + (i : Int)) j ++ PC n l (kLo l + (i : Int)) (cLo l + (j : Int)) t.1)) s0 t.2 true) (fun t => (tHi n l + 1 - tLo l).toNat - t.1) (0, s2) ?_ ?_ ?_
      · refine X.le.mk ?_ (T.le_refl _) (Nat.le_refl _) rfl rfl
        unfold iS3
        simp only [Int.natCast_zero, Int.add_zero]
        repeat' first | exact T.le_e _ | refine T.le_some ?_ rfl ?_ | refine T.le_none ?_ ?_
      · exact ⟨by omega, by simpa [PC] using j2, by simpa [PC] using j3⟩
      rintro ⟨q, s3⟩ ⟨q1, q2, q3⟩
      have q1 : q ≤ (tHi n l + 1 - tLo l).toNat := q1
      have q2 : I (PA n l i ++ (PB n l (kLo l + (i : Int)) j ++ PC n l (kLo l + (i : Int)) (cLo l + (j : Int)) q)) s3 := q2
      have q3 : Fld R (PA n l i ++ (PB n l (kLo l + (i : Int)) j ++ PC n l (kLo l + (i : Int)) (cLo l + (j : Int)) q)) s0 s3 true := q3
      conv => whnf
      repeat' first | ((first | with_reducible (first | apply Qt | apply Qu) | refine Qa rfl ?_ | refine Qk rfl ?_ | refine Qb ?_ | refine Qc ?_ | refine Qi ?_ | refine Qj ?_) <;> conv => whnf)
      refine WB.dec (fun h => ?_) (fun h => ?_) <;> conv => whnf
      · have hq : q < (tHi n l + 1 - tLo l).toNat := by omega
        have hpc : PA n l i ++ (PB n l (kLo l + (i : Int)) j ++ PC n l (kLo l + (i : Int)) (cLo l + (j : Int)) (q + 1)) = PA n l i ++ (PB n l (kLo l + (i : Int)) j ++ PC n l (kLo l + (i : Int)) (cLo l + (j : Int)) q) ++ [⟨kLo l + (i : Int), cLo l + (j : Int), tLo l + (q : Int)⟩] := by
          rw [PC_succ hq, List.append_assoc, List.append_assoc]
        have hx := pre_all (q := q + 1) hi hj
        rw [hpc] at hx
        have hone : ∀ s' g, R s3 ⟨kLo l + (i : Int), cLo l + (j : Int), tLo l + (q : Int)⟩ s' g → Fld R (PA n l i ++ (PB n l (kLo l + (i : Int)) j ++ PC n l (kLo l + (i : Int)) (cLo l + (j : Int)) (q + 1))) s0 s' g := fun s' g h => by
          rw [hpc]
          refine Fld.app q3 ?_
          cases g with
          | true => exact .go h .nil
          | false => exact .stop h
        repeat' first | ((first | with_reducible (first | apply Qt | apply Qu) | refine Qa rfl ?_ | refine Qk rfl ?_ | refine Qb ?_ | refine Qc ?_ | refine Qi ?_ | refine Qj ?_) <;> conv => whnf)
        refine H.rnd _ s3 q2 ⟨kLo l + (i : Int), cLo l + (j : Int), tLo l + (q : Int)⟩ hx _ _ _ (fun s' g h => ?_)
        cases g with
        | false =>
          conv => whnf
          repeat' first | ((first | with_reducible (first | apply Qt | apply Qu) | refine Qa rfl ?_ | refine Qk rfl ?_ | refine Qb ?_ | refine Qc ?_ | refine Qi ?_ | refine Qj ?_ | with_reducible (first | refine Qm ?_ | refine Qn ?_ | refine Qo ?_ | refine Qp ?_ | refine WB.nt ?_ | refine WB.nf ?_ | refine WB.dec (fun h => ?_) (fun h => ?_) | refine WB.ndec (fun h => ?_) (fun h => ?_)) | refine WB.mk (fun h => ?_) (fun h => ?_)) <;> conv => whnf)
          obtain ⟨rest, hrest⟩ := pre_all (q := q + 1) hi hj
          refine ⟨_, _, ⟨s', false, by rw [← hrest]; exact (hone s' false h).cut rest, rfl, rfl⟩, ⟨.inr rfl, ⟨_, rfl, .pu trivial⟩, Shr.kp (S.le n l s') ((H.kp s').up (by simp [nb2, Pos.nat]))⟩⟩
        | true =>
          conv => whnf
          repeat' first | ((first | with_reducible (first | apply Qt | apply Qu) | refine Qa rfl ?_ | refine Qk rfl ?_ | refine Qb ?_ | refine Qc ?_ | refine Qi ?_ | refine Qj ?_ | with_reducible (first | refine Qm ?_ | refine Qn ?_ | refine Qo ?_ | refine Qp ?_ | refine WB.nt ?_ | refine WB.nf ?_ | refine WB.dec (fun h => ?_) (fun h => ?_) | refine WB.ndec (fun h => ?_) (fun h => ?_)) | refine WB.mk (fun h => ?_) (fun h => ?_)) <;> conv => whnf)
          refine Again.to (q + 1, s') (show _ - (q + 1) < _ - q by omega) ⟨show q + 1 ≤ _ by omega, by rw [hpc]; exact H.inv _ _ _ _ hx q2 h, hone s' true h⟩ (Nat.le_refl _) (Shr.kp2 ?_ (iS3_kp hy hrow _ _ _ _) (T.le_refl _) (ob_kp H.kp _))
          show T.le (iS3 y (wk6 n coin box ls cs) l (kLo l + (i : Int)) (cLo l + (j : Int)) (tLo l + ((q + 1 : Nat) : Int))) _
          rw [show tLo l + ((q + 1 : Nat) : Int) = tLo l + (q : Int) + 1 by omega]
          (unfold iS3; repeat' first | exact T.le_e _ | refine T.le_some ?_ rfl ?_ | refine T.le_none ?_ ?_)
      · repeat' first | ((first | with_reducible (first | apply Qt | apply Qu) | refine Qa rfl ?_ | refine Qk rfl ?_ | refine Qb ?_ | refine Qc ?_ | refine Qi ?_ | refine Qj ?_) <;> conv => whnf)
        refine Again.to (j + 1, s3) (show _ - (j + 1) < _ - j by omega) ⟨show j + 1 ≤ _ by omega, by show I (PA n l i ++ PB n l (kLo l + (i : Int)) (j + 1)) s3; rw [PB_succ hj, ← PC_all (q := q) (by omega)]; exact q2, ?_⟩ (Nat.le_refl _) (Shr.kp2 ?_ (iS2_kp hy hrow _ _ _) (T.le_refl _) (ob_kp H.kp _))
        · show Fld R (PA n l i ++ PB n l (kLo l + (i : Int)) (j + 1)) s0 s3 true
          rw [PB_succ hj, ← PC_all (q := q) (by omega)]
          exact q3
        · show T.le (iS2 y (wk6 n coin box ls cs) l (kLo l + (i : Int)) (cLo l + ((j + 1 : Nat) : Int))) _
          rw [show cLo l + ((j + 1 : Nat) : Int) = cLo l + (j : Int) + 1 by omega]
          (unfold iS2; repeat' first | exact T.le_e _ | refine T.le_some ?_ rfl ?_ | refine T.le_none ?_ ?_)
    · repeat' first | ((first | with_reducible (first | apply Qt | apply Qu) | refine Qa rfl ?_ | refine Qk rfl ?_ | refine Qb ?_ | refine Qc ?_ | refine Qi ?_ | refine Qj ?_) <;> conv => whnf)
      refine Again.to (i + 1, s2) (show _ - (i + 1) < _ - i by omega) ⟨show i + 1 ≤ _ by omega, by show I (PA n l (i + 1)) s2; rw [PA_succ hi, ← PB_all (j := j) (by omega)]; exact j2, ?_⟩ (Nat.le_refl _) (Shr.kp2 ?_ (iS_kp hy hrow _ _) (T.le_refl _) (ob_kp H.kp _))
      · show Fld R (PA n l (i + 1)) s0 s2 true
        rw [PA_succ hi, ← PB_all (j := j) (by omega)]
        exact j3
      · show T.le (iS y (wk6 n coin box ls cs) l (kLo l + ((i + 1 : Nat) : Int))) _
        rw [show kLo l + ((i + 1 : Nat) : Int) = kLo l + (i : Int) + 1 by omega]
        (unfold iS; repeat' first | exact T.le_e _ | refine T.le_some ?_ rfl ?_ | refine T.le_none ?_ ?_)
  · repeat' first | ((first | with_reducible (first | apply Qt | apply Qu) | refine Qa rfl ?_ | refine Qk rfl ?_ | refine Qb ?_ | refine Qc ?_ | refine Qi ?_ | refine Qj ?_) <;> conv => whnf)
    refine ⟨_, _, ⟨s1, true, by rw [← PA_all (i := i) (by omega)]; exact i3, rfl, rfl⟩, ⟨.inl rfl, ⟨_, rfl, .pu trivial⟩, Shr.kp (S.le n l s1) ((H.kp s1).up (by simp [nb2, Pos.nat]))⟩⟩
end Go.Ev