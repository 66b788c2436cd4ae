import Derived.Test.YtkbgaadfednjpaaGreatDoorEvU4e
import Derived.Test.YtkbgaadfednjpaaGreatDoorEvUDs
set_option linter.all false
set_option maxHeartbeats 8000000
noncomputable section
namespace Go.Ev
open Go.Proofs
set_option maxRecDepth 100000
theorem RndOk.ofW {P : Program} {id : Pos} {ds : List D} {ob ob' : T C} {nx nx' : Pos} {v : D} (h : WRnd P id ds (some .h) ⟨.e, ob, nx, none⟩ (fun x => x = ⟨.n .e (some v) .e, ob', nx', none⟩)) : RndOk P id ds ob nx none v ob' nx' none := by
  obtain ⟨v1, ob1, nx1, lg1, Z, h1, h2, h3⟩ := h.ok
  subst h3
  have h2 : T.setK .h v1 (T.e : T D) (fun sl => some (⟨sl, ob1, nx1, lg1⟩ : X)) = some ⟨.n .e (some v) .e, ob', nx', none⟩ := h2
  rw [T.setK_eq] at h2
  obtain ⟨e1, e2, e3, e4⟩ := X.mk.inj (Option.some.inj h2)
  have e1 := congrArg (fun t => T.get t .h) e1
  have e1 : (T.set .h v1 (T.e : T D)).get .h = some v := e1
  rw [T.get_set_same] at e1
  have e1 := Option.some.inj e1
  subst e1 e2 e3 e4
  exact h1
def Et (x1 x2 x3 : Option C) : T C := .n (.n .e x2 .e) x1 (.n .e x3 .e)
theorem Ga {x1 x2 x3 y1 y2 y3 : Option C} {a b c d : T C} : Beside (.o (.o .h)) (Et y1 y2 y3) (.n (.n a x2 b) x1 (.n c x3 d)) (.n (.n a y2 b) y1 (.n c y3 d)) := by
  refine ⟨fun id c' hid hc => ?_, fun id hle => ?_⟩
  · cases id with
    | h => exact hc
    | o p => cases p with
      | h => exact hc
      | o q => have := q.nat_pos; have hid : 2 * (2 * q.nat) < 4 := hid; omega
      | i q => have := q.nat_pos; have hid : 2 * (2 * q.nat + 1) < 4 := hid; omega
    | i p => cases p with
      | h => exact hc
      | o q => have := q.nat_pos; have hid : 2 * (2 * q.nat) + 1 < 4 := hid; omega
      | i q => have := q.nat_pos; have hid : 2 * (2 * q.nat + 1) + 1 < 4 := hid; omega
  · cases id with
    | h => exact absurd hle (by decide)
    | o p => cases p with
      | h => exact absurd hle (by decide)
      | o q => rfl
      | i q => rfl
    | i p => cases p with
      | h => exact absurd hle (by decide)
      | o q => rfl
      | i q => rfl
def mP (c : Nat → Int) (k : Nat) (v : Int) (i : Nat) : Int := bif Nat.beq i k then v else c i
theorem sC (c : Nat → Int) (k : Nat) (v : Int) : mP c k v k = v := by simp [mP]
theorem tB (c : Nat → Int) {k i : Nat} (v : Int) (h : i ≠ k) : mP c k v i = c i := by
  unfold mP
  rw [show Nat.beq i k = false from by
    cases e : Nat.beq i k with
    | false => rfl
    | true => exact absurd (Nat.eq_of_beq_eq_true e) h]
  rfl
theorem Az (c : Nat → Int) (k : Nat) : mP c k (c k) = c := funext fun i => by
  by_cases e : i = k
  · subst e; rw [sC]
  · rw [tB _ _ e]
theorem vU {h : Nat} (k : h < 5) : h = 0 ∨ h = 1 ∨ h = 2 ∨ h = 3 ∨ h = 4 := by omega
def qS (c : Nat → Int) : List D := [.i .i64 (c 0), .i .i64 (c 1), .i .i64 (c 2), .i .i64 (c 3), .i .i64 (c 4)]
theorem JO (c : Nat → Int) : aN (qS c) := by simp [qS, aN, Pu]
def Fj (c : Nat → Int) : C := .cells false ((qS c).map fun d => Cell.o d 0) 1
def sH (b : Bh) : Nat → Nat → (Nat → Int) → List (Nat → Int)
  | 0, _, c => [c]
  | m + 1, h, c => (nE b h).flatMap fun f => sH b m (h + 1) (mP c h f)
theorem xE {b : Bh} {m h : Nat} {c : Nat → Int} {P : (Nat → Int) → Bool} (k : ∀ i, i < (nE b h).length → (sH b m (h + 1) (mP c h ((nE b h).getD i 0))).any P = false) : (sH b (m + 1) h c).any P = false := by
  unfold sH
  rw [List.any_flatMap, List.any_eq_false]
  intro f hf
  obtain ⟨i, hi, rfl⟩ := sV (d := (0 : Int)) hf
  rw [k i hi]; decide
theorem uU {b : Bh} {m h : Nat} {c : Nat → Int} {P : (Nat → Int) → Bool} {i : Nat} (hi : i < (nE b h).length) (k : (sH b m (h + 1) (mP c h ((nE b h).getD i 0))).any P = true) : (sH b (m + 1) h c).any P = true := by
  unfold sH
  rw [List.any_flatMap, List.any_eq_true]
  exact ⟨_, aR (d := (0 : Int)) hi, k⟩
def lI (x1 x2 x3 x4 x5 x6 : Option C) : T C := .n (.n (.n .e x4 .e) x2 (.n .e x6 .e)) x1 (.n (.n .e x5 .e) x3 .e)
def HV (g : Pos) (first caps : List D) (b : Bh) : T D := (.n (.n (.n .e (some (.pt .h 0 0)) .e) (some (.fn g first caps)) .e) none (.n (.n .e (some (.pt (.o .h) 0 0)) .e) none (.n .e (some (.fn p147 [] [.pl (dV b) 0])) .e)))
def KG (g : Pos) (first caps : List D) : C := .cells false [.o (.fn g first caps) 0] 1
def Ii (s : Bool) : C := .cells false [.o (.b s) 0] 1
def KV (g : Pos) (first caps : List D) (b : Bh) (s : Bool) : C := .lp (HV g first caps b) [p8] 11 (MQ (aM Tryz.f117) 0) (Lv (aM Tryz.f117) 0) (bif s then .done else .ready) (bif s then some .ret else none)
def EV (g : Pos) (first caps : List D) (b : Bh) (s : Bool) : T C := Et (some (KG g first caps)) (some (Ii s)) (some (KV g first caps b s))
def Nm : C := .cells false [.o (.yl (.i .h)) 0] 1
def Nq (b : Bh) : C := .cells false [.o (.fn p148 [] [.pl (dV b) 0, .pt (.o (.o .h)) 0 0, .pt (.i (.o .h)) 0 0]) 0] 1
def Gb (g : Pos) (first caps : List D) (b : Bh) (s : Bool) (x6 : Option C) : T C := lI (some (KG g first caps)) (some (Ii s)) (some (KV g first caps b s)) (some Nm) (some (Nq b)) x6
section
variable {g : Pos} {first caps : List D} {b : Bh}
theorem El (h1 : aN first) (h2 : aN caps) {n : Nat} (hn : 4 ≤ n) : ∀ s d, (HV g first caps b).get s = some d → Kp n d := by
  have k1 := KpL.pu (n := n) first h1
  have k2 := KpL.pu (n := n) caps h2
  show TAll (fun _ d => Kp n d) (HV g first caps b)
  unfold HV
  repeat' first | exact TAll.e | refine TAll.some ?_ ?_ ?_ | refine TAll.none ?_ ?_
  all_goals simp [Kp, KpL, Pu, aO, k1, k2, Pos.nat]
  all_goals omega
theorem tD (h1 : aN first) (h2 : aN caps) (s : Bool) {n : Nat} (hn : 4 ≤ n) : KpO n (EV g first caps b s) := by
  have k1 := KpL.pu (n := n) first h1
  have k2 := KpL.pu (n := n) caps h2
  have hs := El h1 h2 hn (g := g) (b := b)
  show TAll (fun id c => id.nat < n ∧ KpC n c) _
  unfold EV Et KG Ii KV
  repeat' first | exact TAll.e | refine TAll.some ?_ ?_ ?_ | refine TAll.none ?_ ?_
  all_goals refine ⟨by simp [Pos.nat]; omega, ?_⟩
  all_goals first
    | exact hs
    | (refine KpL.all ?_; simp [KpL, Kp, Cell.d, Pu, k1, k2, Pos.nat])
theorem lC (h1 : aN first) (h2 : aN caps) (s : Bool) {n : Nat} (hn : 6 ≤ n) : KpO n (Gb g first caps b s none) := by
  have k1 := KpL.pu (n := n) first h1
  have k2 := KpL.pu (n := n) caps h2
  have hs := El h1 h2 (n := n) (by omega) (g := g) (b := b)
  show TAll (fun id c => id.nat < n ∧ KpC n c) _
  unfold Gb lI KG Ii KV Nm Nq
  repeat' first | exact TAll.e | refine TAll.some ?_ ?_ ?_ | refine TAll.none ?_ ?_
  all_goals refine ⟨by simp [Pos.nat]; omega, ?_⟩
  all_goals first
    | exact hs
    | (refine KpL.all ?_; simp [KpL, Kp, Cell.d, Pu, aO, k1, k2, Pos.nat]; try omega)
end
set_option maxHeartbeats 2000000 in
theorem Hf {g : Pos} {first caps : List D} {b : Bh} {P : (Nat → Int) → Bool} (h1 : aN first) (h2 : aN caps) (hg : ∀ c, PureF Tryz.prog g.ix (first ++ ([.ag (qS c)] ++ caps)) (.b (P c))) (c : Nat → Int) :
    RndOk Tryz.prog (.i .h) [.ag (qS c)] (EV g first caps b false) (.o (.o .h)) none (.b (!P c)) (EV g first caps b (P c)) (.o (.o .h)) none := by
  have cg := hg c
  refine RndOk.ofW ?_
  cases hP : P c with
  | true =>
    rw [hP] at cg
    refine WRnd.run rfl pG qA ⟨_, rfl, ?_⟩
    conv => whnf
    repeat' first | ((first | refine Qz ?_) <;> conv => whnf)
    refine ⟨rfl, rfl, _, _, _, _, _, _, rfl, ?_⟩
    conv => whnf
    repeat' first | ((first | refine Qz ?_ | refine Qf (cg) ?_ | refine Qy ?_) <;> conv => whnf) | (refine WB.tt ?_; conv => whnf) | (refine WB.ff ?_; conv => whnf)
    refine ⟨_, _, _, _, _, _, _, EV g first caps b true, .o (.o .h), rfl, rfl, ?_, Nat.le_refl _, rfl⟩
    refine Shr.kp ?_ (tD h1 h2 _ (by decide))
    unfold EV Et
    (repeat' first | exact T.le_e _ | exact T.le_refl _ | refine T.le_some ?_ rfl ?_ | refine T.le_none ?_ ?_ | refine T.le_ee ?_ ?_)
  | false =>
    rw [hP] at cg
    refine WRnd.run rfl pG qA ⟨_, rfl, ?_⟩
    conv => whnf
    repeat' first | ((first | refine Qz ?_) <;> conv => whnf)
    refine ⟨rfl, rfl, _, _, _, _, _, _, rfl, ?_⟩
    conv => whnf
    repeat' first | ((first | refine Qz ?_ | refine Qf (cg) ?_ | refine Qy ?_) <;> conv => whnf) | (refine WB.tt ?_; conv => whnf) | (refine WB.ff ?_; conv => whnf)
    refine ⟨_, _, _, _, _, _, _, EV g first caps b false, .o (.o .h), rfl, rfl, ?_, Nat.le_refl _, rfl⟩
    refine Shr.kp ?_ (tD h1 h2 _ (by decide))
    unfold EV Et
    (repeat' first | exact T.le_e _ | exact T.le_refl _ | refine T.le_some ?_ rfl ?_ | refine T.le_none ?_ ?_ | refine T.le_ee ?_ ?_)
theorem Ag {x1 x2 x3 x4 x5 x6 y1 y2 y3 y4 y5 : Option C} : Beside (.o (.i .h)) (lI y1 y2 y3 y4 y5 none) (lI x1 x2 x3 x4 x5 x6) (lI y1 y2 y3 y4 y5 x6) := by
  refine ⟨fun id c' hid hc => ?_, fun id hle => ?_⟩
  · cases id with
    | h => exact hc
    | o p => cases p with
      | h => exact hc
      | o q => cases q with
        | h => exact hc
        | o r => exact hc
        | i r => exact hc
      | i q => have := q.nat_pos; have hid : 2 * (2 * q.nat + 1) < 6 := hid; omega
    | i p => cases p with
      | h => exact hc
      | o q => cases q with
        | h => exact hc
        | o r => exact hc
        | i r => exact hc
      | i q => exact hc
  · cases id with
    | h => exact absurd hle (by decide)
    | o p => cases p with
      | h => exact absurd hle (by decide)
      | o q => cases q with
        | h => exact absurd hle (by decide)
        | o r => rfl
        | i r => rfl
      | i q => rfl
    | i p => cases p with
      | h => exact absurd hle (by decide)
      | o q => cases q with
        | h => exact absurd hle (by decide)
        | o r => rfl
        | i r => rfl
      | i q => rfl
theorem T.le_sameS {α : Type} {l r l' r' : T α} {v : Option α} (hl : T.le l l') (hr : T.le r r') : T.le (.n l v r) (.n l' v r') := T.le_n hl (.inr rfl) hr
def Gm (b : Bh) (h : Nat) (W : List Int) (j : Nat) : T D := (.n (.n (.n .e (some (.pt (.o (.o .h)) 0 0)) .e) (some (.i .i64 (h : Int))) (.n .e (some (.pt (.o (.i .h)) 0 0)) (.n (.n .e (some (.i .i64 (W.length : Int))) .e) none .e))) none (.n (.n .e (some (.pt (.i (.o .h)) 0 0)) (.n (.n .e (some (.lst 1 (ints W))) .e) none .e)) (some (.pl (dV b) 0)) (.n .e none (.n (.n .e (some (.i .i64 (j : Int))) .e) none .e))))
theorem HF {b : Bh} {h : Nat} {W : List Int} {j n : Nat} (hn : 7 ≤ n) : ∀ s d, (Gm b h W j).get s = some d → Kp n d := by
  show TAll (fun _ d => Kp n d) (Gm b h W j)
  unfold Gm
  repeat' first | exact TAll.e | refine TAll.some ?_ ?_ ?_ | refine TAll.none ?_ ?_
  all_goals simp [Kp, KpL, Pu, aO, aB, Pos.nat]
  all_goals omega
theorem Hj (c : Nat → Int) (n : Nat) : KpC n (Fj c) := by
  refine KpL.all ?_
  simp [qS, KpL, Kp, Cell.d, Pu]
theorem GO {g : Pos} {first caps : List D} {b : Bh} (h1 : aN first) (h2 : aN caps) (s : Bool) (c : Nat → Int) {n : Nat} (hn : 7 ≤ n) : KpO n (Gb g first caps b s (some (Fj c))) := by
  have k := lC (g := g) (b := b) h1 h2 s (n := n) (by omega)
  intro id x hx
  by_cases e : id = .o (.i .h)
  · subst e
    cases hx
    exact ⟨by show 6 < n; omega, Hj c n⟩
  · refine k id x ?_
    cases id with
    | h => exact hx
    | o p => cases p with
      | h => exact hx
      | o q => exact hx
      | i q => cases q with
        | h => exact absurd rfl e
        | o r => exact hx
        | i r => exact hx
    | i p => exact hx
section
variable {g : Pos} {first caps : List D} {b : Bh} {P : (Nat → Int) → Bool}
set_option maxHeartbeats 8000000 in
theorem vM (h1 : aN first) (h2 : aN caps) (hg : ∀ c, PureF Tryz.prog g.ix (first ++ ([.ag (qS c)] ++ caps)) (.b (P c))) (V : VW b) (l1 : ∀ w ∈ b.winds, w.length ≤ 1000) (l2 : b.nts.length ≤ 1000) : ∀ (m h : Nat), ((h + m : Nat) : Int) = b.last + 1 → ∀ c,
    CallOk Tryz.prog p148.ix [.ag (qS c), .i .i64 (h : Int), .pl (dV b) 0, .pt (.o (.o .h)) 0 0, .pt (.i (.o .h)) 0 0] (Gb g first caps b false none) (.o (.i .h)) none (.b (!(sH b m h c).any P)) (Gb g first caps b ((sH b m h c).any P) none) (.o (.i .h)) none
  | 0, h, hm, c => by
    have R := Hf (g := g) (b := b) h1 h2 hg c
    have hP : (sH b 0 h c).any P = P c := by simp [sH]
    rw [hP]
    refine CallOk.run Gy (by simp) (Nat.le_refl _) ?_; conv => whnf
    repeat' first | ((first | refine Qz ?_ | with_reducible (first | refine Qm ?_ | refine Qn ?_ | refine Qo ?_ | refine Qp ?_ | refine WB.nt ?_ | refine WB.nf ?_ | refine WB.dec (fun h => ?_) (fun h => ?_) | refine WB.ndec (fun h => ?_) (fun h => ?_)) | refine WB.mk (fun h => ?_) (fun h => ?_)) <;> conv => whnf) | (refine WB.tt ?_; conv => whnf) | (refine WB.ff ?_; conv => whnf)
    refine WRnd.fr R (by decide) ?_ (tD h1 h2 _ (by decide)) ?_ Ga (by decide) (LgLe.refl _) (fun _ _ => trivial) ?_
    · show T.le (Et _ _ _) (lI _ _ _ _ _ _)
      unfold Et lI
      (repeat' first | exact T.le_e _ | exact T.le_refl _ | refine T.le_sameS ?_ ?_ | refine T.le_none ?_ ?_ | refine T.le_ee ?_ ?_)
    · simp [KpL, Kp, Pu, aN, qS]
    conv => whnf
    repeat' first | ((first | refine Qz ?_) <;> conv => whnf)
    refine ⟨.inr rfl, ⟨_, rfl, .pu trivial⟩, Shr.kp ?_ (lC h1 h2 _ (by decide))⟩
    show T.le (lI _ _ _ _ _ _) _
    unfold lI
    (repeat' first | exact T.le_e _ | exact T.le_refl _ | refine T.le_sameS ?_ ?_ | refine T.le_none ?_ ?_ | refine T.le_ee ?_ ?_)
  | m + 1, h, hm, c => by
    have hv4 := V.last
    have hwl := V.winl
    have h5 : h < 5 := by omega
    have hh : h < b.winds.length := by omega
    have hl := l1 _ (aR (d := (default : List Int)) hh)
    have cW := FX b V h hh hl l2
    have ih := fun c => vM h1 h2 hg V l1 l2 m (h + 1) (by omega) c
    have hno := xE (b := b) (m := m) (h := h) (c := c) (P := P)
    have hyes := fun i hi => uU (b := b) (m := m) (h := h) (c := c) (P := P) (i := i) hi
    have hWl : (nE b h).length ≤ 1000 := Nat.le_trans (List.length_filter_le _ _) (by exact hl)
    generalize nE b h = W at *
    have e2 := aL W
    generalize hX : (sH b (m + 1) h c).any P = fo at *
    refine CallOk.run Gy (by simp) (Nat.le_refl _) ?_; conv => whnf
    repeat' first | ((first | refine Qz ?_ | refine Qf (cW) ?_ | refine Qy ?_) <;> conv => whnf) | (refine WB.tt ?_; conv => whnf) | (refine WB.ff ?_; conv => whnf)
    refine Rn.loop (fun t : Nat × Int => ⟨Gm b h W t.1, Gb g first caps b false (some (Fj (mP c h t.2))), .i (.i .h), none⟩) (fun t => t.1 ≤ W.length ∧ ∀ i, i < t.1 → (sH b m (h + 1) (mP c h (W.getD i 0))).any P = false) (fun t => W.length - t.1) (0, c h) ?_ ⟨Nat.zero_le _, fun i hi => absurd hi (Nat.not_lt_zero _)⟩ ?_
    · refine X.le.mk ?_ ?_ (Nat.le_refl _) rfl rfl
      · unfold Gm
        rw [← e2]
        (repeat' first | exact T.le_e _ | exact T.le_refl _ | refine T.le_some ?_ rfl ?_ | refine T.le_none ?_ ?_ | refine T.le_ee ?_ ?_)
      · rw [Az]
        show T.le (lI _ _ _ _ _ _) _
        unfold lI
        (repeat' first | exact T.le_e _ | exact T.le_refl _ | refine T.le_some ?_ rfl ?_ | refine T.le_none ?_ ?_ | refine T.le_ee ?_ ?_)
    rintro ⟨j, v⟩ ⟨hj, ha⟩
    have hj : j ≤ W.length := hj
    have ha : ∀ i, i < j → (sH b m (h + 1) (mP c h (W.getD i 0))).any P = false := ha
    show Rn Tryz.prog 36 _ ⟨Gm b h W j, Gb g first caps b false (some (Fj (mP c h v))), .i (.i .h), none⟩ _
    conv => whnf
    repeat' first | ((first | refine Qz ?_ | refine Qy ?_) <;> conv => whnf) | (refine WB.tt ?_; conv => whnf) | (refine WB.ff ?_; conv => whnf)
    refine WB.dec (fun hd => ?_) (fun hd => ?_) <;> conv => whnf
    · have hlt : j < W.length := by omega
      have C := ih (mP c h (W.getD j 0))
      cases hgo : (sH b m (h + 1) (mP c h (W.getD j 0))).any P with
      | true =>
        rw [hgo] at C
        have hX := hyes j hlt hgo
        subst hX
        clear ih hno hyes ha
        rcases vU h5 with rfl | rfl | rfl | rfl | rfl
        all_goals
          repeat' first | ((first | refine Qz ?_ | refine Qy ?_) <;> conv => whnf) | (refine WB.tt ?_; conv => whnf) | (refine WB.ff ?_; conv => whnf)
          refine WSt.ixaN rfl rfl rfl (by omega) ?_; conv => whnf
          repeat' first | ((first | refine Qz ?_ | refine Qy ?_) <;> conv => whnf) | (refine WB.tt ?_; conv => whnf) | (refine WB.ff ?_; conv => whnf)
          refine WCall.fr C ?_ (lC h1 h2 _ (by decide)) ?_ Ag (by decide) (LgLe.refl _) (fun _ _ => trivial) ?_
          · show T.le (lI _ _ _ _ _ _) _
            unfold lI
            (repeat' first | exact T.le_e _ | exact T.le_refl _ | refine T.le_sameS ?_ ?_ | refine T.le_none ?_ ?_ | refine T.le_ee ?_ ?_)
          · simp [KpL, Kp, Pu, aN, Pos.nat, qS, aO]
          conv => whnf
          repeat' first | ((first | refine Qz ?_ | refine Qy ?_) <;> conv => whnf) | (refine WB.tt ?_; conv => whnf) | (refine WB.ff ?_; conv => whnf)
          refine ⟨.inr rfl, ⟨_, rfl, .pu trivial⟩, Shr.kp ?_ (lC h1 h2 _ (by decide))⟩
          show T.le (lI _ _ _ _ _ _) (lI _ _ _ _ _ _)
          unfold lI
          (repeat' first | exact T.le_e _ | exact T.le_refl _ | refine T.le_sameS ?_ ?_ | refine T.le_none ?_ ?_ | refine T.le_ee ?_ ?_)
      | false =>
        rw [hgo] at C
        clear ih hno hyes
        rcases vU h5 with rfl | rfl | rfl | rfl | rfl
        all_goals
          repeat' first | ((first | refine Qz ?_ | refine Qy ?_) <;> conv => whnf) | (refine WB.tt ?_; conv => whnf) | (refine WB.ff ?_; conv => whnf)
          refine WSt.ixaN rfl rfl rfl (by omega) ?_; conv => whnf
          repeat' first | ((first | refine Qz ?_ | refine Qy ?_) <;> conv => whnf) | (refine WB.tt ?_; conv => whnf) | (refine WB.ff ?_; conv => whnf)
          refine WCall.fr C ?_ (lC h1 h2 _ (by decide)) ?_ Ag (by decide) (LgLe.refl _) (fun _ _ => trivial) ?_
          · show T.le (lI _ _ _ _ _ _) _
            unfold lI
            (repeat' first | exact T.le_e _ | exact T.le_refl _ | refine T.le_sameS ?_ ?_ | refine T.le_none ?_ ?_ | refine T.le_ee ?_ ?_)
          · simp [KpL, Kp, Pu, aN, Pos.nat, qS, aO]
          conv => whnf
          repeat' first | ((first | refine Qz ?_ | refine Qy ?_) <;> conv => whnf) | (refine WB.tt ?_; conv => whnf) | (refine WB.ff ?_; conv => whnf)
          refine Again.to (j + 1, W.getD j 0) (show W.length - (j + 1) < W.length - j by omega) ⟨show j + 1 ≤ W.length by omega, fun i hi => ?_⟩ (Nat.le_refl _) (Shr.kp2 ?_ (HF (by decide)) ?_ (GO h1 h2 _ _ (by decide)))
          · by_cases e : i = j
            · subst e; exact hgo
            · exact ha i (by have hi : i < j + 1 := hi; omega)
          · show T.le (Gm b _ W (j + 1)) _
            unfold Gm
            (repeat' first | exact T.le_e _ | exact T.le_refl _ | refine T.le_some ?_ rfl ?_ | refine T.le_none ?_ ?_ | refine T.le_ee ?_ ?_)
          · show T.le (lI _ _ _ _ _ _) (lI _ _ _ _ _ _)
            unfold lI
            (repeat' first | exact T.le_e _ | exact T.le_refl _ | refine T.le_sameS ?_ ?_ | refine T.le_none ?_ ?_ | refine T.le_ee ?_ ?_)
    · have hX := hno fun i hi => ha i (by omega)
      subst hX
      repeat' first | ((first | refine Qz ?_ | refine Qy ?_) <;> conv => whnf) | (refine WB.tt ?_; conv => whnf) | (refine WB.ff ?_; conv => whnf)
      refine ⟨.inr rfl, ⟨_, rfl, .pu trivial⟩, Shr.kp ?_ (lC h1 h2 _ (by decide))⟩
      show T.le (lI _ _ _ _ _ _) (lI _ _ _ _ _ _)
      unfold lI
      (repeat' first | exact T.le_e _ | exact T.le_refl _ | refine T.le_sameS ?_ ?_ | refine T.le_none ?_ ?_ | refine T.le_ee ?_ ?_)
end
open Go.RowKit (Below Grown)
theorem kY {α : Type} : ∀ (n : Nat) (l : List α), dS n l = l.drop n
 | 0, l => rfl
 | n + 1, [] => rfl
 | n + 1, _ :: l => kY n l
theorem Vis.nil {st : Nat} {l : List Cell} : Vis st l [] := fun k d hk => by cases hk
theorem Vis.app {st : Nat} {l : List Cell} {a b : List D} (h : Vis st l a) (k : Vis st (l.drop a.length) b) : Vis st l (a ++ b) := fun i d hi => by
 by_cases hlt : i < a.length
 ·rw [List.getElem?_append_left hlt] at hi
  exact h i d hi
 ·rw [List.getElem?_append_right (by omega)] at hi
  obtain ⟨c, h1, h2⟩ := k _ d hi
  rw [List.getElem?_drop] at h1
  exact ⟨c, by rw [<- h1]; congr 1; omega, h2⟩
theorem rX {st : Nat} : ∀ {n : Nat} {l : List Cell} {ds : List D} {r : List Cell}, tL st n l = some (ds, r) -> ds.length = n /\ Vis st l ds /\ r = l.drop n
 | 0, l, ds, r, h => by cases h; exact ⟨rfl, Vis.nil, rfl⟩
 | n + 1, [], ds, r, h => by cases h
 | n + 1, c :: l, ds, r, h => by
   unfold tL at h
   cases hc : c.has st with
   | false => rw [hc] at h; cases h
   | true =>
     rw [hc, cond_true] at h
     split at h
     ·rename_i ds' r' h1
      cases h
      obtain ⟨k1, k2, k3⟩ := rX h1
      refine ⟨by rw [List.length_cons, k1], fun k d hk => ?_, k3⟩
      cases k with
      | zero => cases hk; exact ⟨c, rfl, hc, rfl⟩
      | succ k => exact k2 k d hk
     ·cases h
theorem pY {st z : Nat} : ∀ {n : Nat} {l : List Cell} {es : List (List D)}, vQ st z n l = some es -> es.length = n /\ (∀ r ∈ es, r.length = z) /\ Vis st l es.flatten
 | 0, l, es, h => by cases h; exact ⟨rfl, (fun r hr => by cases hr), Vis.nil⟩
 | n + 1, l, es, h => by
   unfold vQ at h
   split at h
   ·rename_i r l' h1
    split at h
    ·rename_i es' h2
     cases h
     obtain ⟨k1, k2, rfl⟩ := rX h1
     obtain ⟨k3, k4, k5⟩ := pY h2
     refine ⟨by rw [List.length_cons, k3], fun q hq => ?_, ?_⟩
     ·rcases List.mem_cons.1 hq with e | hq
      ·rw [e]; exact k1
      ·exact k4 q hq
     ·rw [List.flatten_cons]
      exact k2.app (by rw [k1]; exact k5)
    ·cases h
   ·cases h
theorem wN {α β : Type} {f : α -> Option β} : ∀ {l : List α} {r : List β}, mpO f l = some r -> l.length = r.length /\ ∀ (i : Nat) (a : α), l[i]? = some a -> ∃ b, f a = some b /\ r[i]? = some b
 | [], r, h => by cases h; exact ⟨rfl, fun i a hi => by cases hi⟩
 | a :: l, r, h => by
   unfold mpO at h
   split at h
   ·rename_i b hb
    split at h
    ·rename_i r' hr
     cases h
     obtain ⟨k1, k2⟩ := wN hr
     refine ⟨by simp [k1], fun i x hi => ?_⟩
     cases i with
     | zero => cases hi; exact ⟨b, hb, rfl⟩
     | succ i => exact k2 i x hi
    ·cases h
   ·cases h
theorem gW {α β : Type} {f : α -> Option β} {a : α} {l : List α} {r : List β} (h : mpO f (a :: l) = some r) : ∃ b r', f a = some b /\ mpO f l = some r' /\ r = b :: r' := by
 unfold mpO at h
 split at h
 ·rename_i b hb
  split at h
  ·rename_i r' hr
   cases h
   exact ⟨b, r', hb, hr, rfl⟩
  ·cases h
 ·cases h
section
variable {B : Pos -> Prop} {ob : T C}
theorem mR {f : D -> Option D} (hf : ∀ d e, f d = some e -> Fz B ob d e) : ∀ {l r : List D}, mpO f l = some r -> FzL B ob l r
 | [], r, h => by cases h; exact .nil
 | a :: l, r, h => by
   obtain ⟨b, r', h1, h2, rfl⟩ := gW h
   exact .cons (hf _ _ h1) (mR hf h2)
theorem tP {f : D -> Option D} (hf : ∀ d e, f d = some e -> Fz B ob d e) : ∀ {l r : List (List D)}, mpO (mpO f) l = some r -> FzE B ob l r
 | [], r, h => by cases h; exact .nil
 | a :: l, r, h => by
   obtain ⟨b, r', h1, h2, rfl⟩ := gW h
   exact .cons (mR hf h1) (tP hf h2)
theorem pD {f : D -> Option D} (hf : ∀ d e, f d = some e -> Pu e) : ∀ {l r : List D}, mpO f l = some r -> aN r
 | [], r, h => by cases h; trivial
 | a :: l, r, h => by
   obtain ⟨b, r', h1, h2, rfl⟩ := gW h
   unfold aN
   exact ⟨hf _ _ h1, pD hf h2⟩
theorem sS {f : D -> Option D} (hf : ∀ d e, f d = some e -> Pu e) : ∀ {l r : List (List D)}, mpO (mpO f) l = some r -> dE r
 | [], r, h => by cases h; trivial
 | a :: l, r, h => by
   obtain ⟨b, r', h1, h2, rfl⟩ := gW h
   unfold dE
   exact ⟨pD hf h1, sS hf h2⟩
theorem jR (hB : ∀ id, ¬ B id) : ∀ {n : Nat} {d e : D}, Eh ob n d = some e -> Fz B ob d e /\ Pu e
 | 0, _, _, h => by cases h
 | n + 1, d, e, h => by
   have i1 : ∀ d e, Eh ob n d = some e -> Fz B ob d e := fun _ _ h => (jR hB h).1
   have i2 : ∀ d e, Eh ob n d = some e -> Pu e := fun _ _ h => (jR hB h).2
   unfold Eh at h
   cases d
   case sl id off len st z =>
    dsimp only at h
    split at h
    ·rename_i ro cs cur hc
     split at h
     ·rename_i es hes
      split at h
      ·rename_i fs hfs
       cases h
       obtain ⟨k1, k2, k3⟩ := pY hes
       rw [kY] at k3
       exact ⟨.sl (hB id) hc k1 k2 k3 (tP i1 hfs), by unfold Pu; exact sS i2 hfs⟩
      ·cases h
     ·cases h
    ·cases h
   case lst z es =>
    dsimp only at h
    split at h
    ·rename_i fs hfs
     cases h
     exact ⟨.lst (tP i1 hfs), by unfold Pu; exact sS i2 hfs⟩
    ·cases h
   case ag cs =>
    dsimp only at h
    split at h
    ·rename_i fs hfs
     cases h
     exact ⟨.ag (mR i1 hfs), by unfold Pu; exact pD i2 hfs⟩
    ·cases h
   case tp cs =>
    dsimp only at h
    split at h
    ·rename_i fs hfs
     cases h
     exact ⟨.tp (mR i1 hfs), by unfold Pu; exact pD i2 hfs⟩
    ·cases h
   all_goals first | (cases h; done) | (cases h; exact ⟨.pu (by unfold Pu; trivial), by unfold Pu; trivial⟩)
end
def FA (ob : T C) : Nat -> D -> Option D
 | 0, _ => none
 | n + 1, d => match d with
   | .sl id off len st z => match ob.get id with
     | some (.cells _ cs _) => match vQ st z len (dS off cs) with
       | some es => match mpO (mpO (FA ob n)) es with
         | some fs => some (.lst z fs)
         | none => none
       | none => none
     | _ => none
   | .ag cs => match mpO (FA ob n) cs with
     | some ds => some (.ag ds)
     | none => none
   | .tp cs => match mpO (FA ob n) cs with
     | some ds => some (.tp ds)
     | none => none
   | .b x => some (.b x)
   | .i k n => some (.i k n)
   | .ns => some .ns
   | .em => some .em
   | .np => some .np
   | .nf => some .nf
   | .nm => some .nm
   | _ => none
section
variable {P : Program} {γ γ' : Gh} {w : World} {ob : T C}
theorem pF {f : D -> Option D} (hf : ∀ d e, f d = some e -> ∀ v, DV γ w d v -> DV γ' w e v) : ∀ {l r : List D}, mpO f l = some r -> ∀ vs, DVL γ w l vs -> DVL γ' w r vs
 | [], r, h, vs, H => by cases h; unfold DVL at *; exact H
 | a :: l, r, h, vs, H => by
   obtain ⟨b, r', h1, h2, rfl⟩ := gW h
   unfold DVL at H ⊢
   obtain ⟨v, r, rfl, h4, h5⟩ := H
   exact ⟨v, r, rfl, hf _ _ h1 _ h4, pF hf h2 _ h5⟩
theorem yH {f : D -> Option D} {z : Nat} (hf : ∀ d e, f d = some e -> ∀ v, DV γ w d v -> DV γ' w e v) : ∀ {l r : List (List D)}, mpO (mpO f) l = some r -> ∀ vs, DVE γ w z l vs -> DVE γ' w z r vs
 | [], r, h, vs, H => by cases h; unfold DVE; trivial
 | a :: l, r, h, vs, H => by
   obtain ⟨b, r', h1, h2, rfl⟩ := gW h
   unfold DVE at H ⊢
   exact ⟨by rw [<- (wN h1).1]; exact H.1, pF hf h1 _ H.2.1, yH hf h2 _ H.2.2⟩
theorem xK (hob : ∀ id c, ob.get id = some c -> HoldsO P γ w id c) (hown : ∀ id st vs e fr, st < γ.cur id -> w.heap[(γ.β id st).1]? = some (.cells vs e fr) -> γ'.im (γ.β id st).1) : ∀ {n : Nat} {d e : D}, FA ob n d = some e -> ∀ v, DV γ w d v -> DV γ' w e v
 | 0, _, _, h => by cases h
 | n + 1, d, e, h => by
   have ih : ∀ d e, FA ob n d = some e -> ∀ v, DV γ w d v -> DV γ' w e v := fun _ _ h => xK hob hown h
   unfold FA at h
   cases d
   case sl id off len st z =>
    dsimp only at h
    split at h
    ·rename_i ro cs cur hg
     split at h
     ·rename_i es hes
      split at h
      ·rename_i fs hfs
       cases h
       obtain ⟨hl, hz, hv⟩ := pY hes
       rw [kY] at hv
       intro v H
       obtain ⟨e1, e2, cap, e, n, rfl, e4, e5, e6⟩ := gT H
       have hfl := (wN hfs).1
       obtain ⟨vs, e', fr, k1, k2, k3, k4⟩ := nS (hob id _ hg) e1 e2 hv
       have hlen : es.flatten.length = es.length * z := by
        clear hv ih k2 k3 k4 hfl hl hfs hes
        induction es with
        | nil => simp
        | cons r es ih => simp [ih (fun r h => hz r (by simp [h])), hz r (by simp), Nat.add_mul]; omega
       have hsz : off - (γ.β id st).2 + es.length * z <= vs.size := by
        have h1 : w.shape? (γ.β id st).1 = some (e', vs.size) := bY k1
        rw [h1] at e5
        cases e5
        have : es.length * z <= cap * z := Nat.mul_le_mul_right z (by omega)
        omega
       unfold DV
       refine ⟨_, cap, by rw [<- hfl, hl], by omega, (fun h => by cases h), .inr ⟨_, _, vs, e', fr, hown id st _ _ _ e1 k1, k1, rfl, by rw [<- hfl]; exact hsz, ?_, ?_⟩⟩
       ·refine yH ih hfs _ (jD hz ?_)
        rw [<- hlen]
        exact k3
       ·rw [<- hfl, <- hlen]; exact k4
      ·cases h
     ·cases h
    ·cases h
   case ag cs =>
    dsimp only at h
    split at h
    ·rename_i fs hfs
     cases h
     intro v H
     obtain ⟨vs, rfl, h2, h3⟩ := mL H
     unfold DV
     exact ⟨vs, rfl, pF ih hfs _ h2, h3⟩
    ·cases h
   case tp cs =>
    dsimp only at h
    split at h
    ·rename_i fs hfs
     cases h
     intro v H
     obtain ⟨vs, rfl, h2⟩ := oG H
     unfold DV
     exact ⟨vs, rfl, pF ih hfs _ h2⟩
    ·cases h
   all_goals first | (cases h; done) | (cases h; intro v H; unfold DV at *; exact H)
end
theorem MemOk.of {P : Program} {f : FuncId} {es : List D} {v v' : D} {ob' : T C} {nx' : Pos} {lg' : Option (T Bool)} (K : CallOk P f es .e .h none v ob' nx' lg') (hz : FA ob' 12 v = some v') : MemOk P f es v' := by
 intro ob1 ds ob nx lg lg2 hds hle hl ht
 refine ⟨hl, Nat.le_refl _, Keeps.refl _ _, fun so hs γ args w gh hargs hob hnx => ?_⟩
 let γs : Gh := ⟨fun _ => 0, fun _ _ => (0, 0), fun b => γ.im b \/ ((∃ id st, st < γ.cur id /\ (γ.β id st).1 = b) /\ ∃ vs e fr, w.heap[b]? = some (.cells vs e fr))⟩
 have hargs' : DVL γs w es args.toList := by
  have h1 : DV γ w (.tp ds) (.tuple args) := by unfold DV; exact ⟨args, rfl, hargs⟩
  have h2 := Fz.ok (γ := γ) (γ' := γs) (B := fun _ => False) (fun b hb => .inl hb) (fun id c hc => hob id c (hs id (ht id c hc)) (hle id c hc)) (fun _ h => h.elim) (fun id st vs e fr _ hst hc => .inr ⟨⟨id, st, hst, rfl⟩, vs, e, fr, hc⟩) (.tp (mR (fun d e h => (jR (fun _ h => h) h).1) hds)) _ h1
  obtain ⟨vs, e, h3⟩ := oG h2
  cases e
  exact h3
 obtain ⟨c1, c2⟩ := K.ok (fun _ => True) (fun _ _ => trivial) γs args w ⟨fun _ st h => absurd h (Nat.not_lt_zero st), fun _ st _ _ h => absurd h (Nat.not_lt_zero st), fun b hb => ⟨by
  rcases hb with hb | hb
  ·exact (gh.im b hb).1
  ·exact hb.2, fun _ st h => absurd h (Nat.not_lt_zero st)⟩, gh.gl.im fun _ h => .inl h⟩ hargs' (fun id c _ hc => by rw [T.get_e] at hc; cases hc) (fun _ _ _ => rfl)
 refine ⟨c1, fun ro m R hR => c2 ro m R fun γ' w' u gh' F hu hob' _ => ?_⟩
 have hb : ∀ b, b < w.heap.size -> w'.heap[b]? = w.heap[b]? := fun b hb => F.blk b hb fun id st _ hst => absurd hst (Nat.not_lt_zero st)
 have hnew : ∀ id st, st < γ'.cur id -> w.heap.size <= (γ'.β id st).1 := fun id st hst => by
  rcases F.new id st (Nat.zero_le _) hst with h | ⟨fY, h, _⟩
  ·exact h
  ·exact absurd h (Nat.not_lt_zero fY)
 let γ2 : Gh := ⟨γ.cur, γ.β, fun b => γ.im b \/ ((∃ id st, st < γ'.cur id /\ (γ'.β id st).1 = b) /\ ∃ vs e fr, w'.heap[b]? = some (.cells vs e fr))⟩
 have U : Up γ γ2 w w' := ⟨fun _ => Nat.le_refl _, fun _ _ _ => rfl, F.up.3, fun b hm => ⟨.inl hm, fun o ho => by rw [hb b (Array.getElem?_eq_some_iff.1 ho).1]; exact ho⟩⟩
 have U0 : Up γ γ w w' := ⟨fun _ => Nat.le_refl _, fun _ _ _ => rfl, F.up.3, fun b hm => ⟨hm, fun o ho => by rw [hb b (Array.getElem?_eq_some_iff.1 ho).1]; exact ho⟩⟩
 refine hR γ2 w' u ⟨fun id st hst => Nat.lt_of_lt_of_le (gh.ob id st hst) F.size, gh.inj, fun b hm => ?_, (gh.gl.up U0).im fun _ h => .inl h⟩ ⟨U, fun _ _ => rfl, fun b h1 _ => hb b h1, fun _ _ h1 h2 => absurd h2 (by show ¬ _ < γ.cur _; omega), fun b hm hlt => ?_, F.lp, F.size, F.os, F.tape, F.output, F.fz⟩
  (xK (γ := γ') (γ' := γ2) (fun id c hc => hob' id c trivial hc) (fun id st vs e fr hst hc => .inr ⟨⟨id, st, hst, rfl⟩, vs, e, fr, hc⟩) hz u hu)
  (fun id c hid hc => HoldsO.mono U rfl (fun st hst => hb _ (gh.ob id st hst)) (hob id c hid hc)) hnx
 ·rcases hm with hm | ⟨⟨id', st', h1, h2⟩, h3⟩
  ·refine ⟨let ⟨⟨vs, e, fr, k1⟩, _⟩ := gh.im b hm; ⟨vs, e, fr, (U0.im b hm).2 _ k1⟩, (gh.im b hm).2⟩
  ·refine ⟨h3, fun id st hst e => ?_⟩
   have hlt := gh.ob id st hst
   have e : (γ.β id st).1 = b := e
   have := hnew id' st' h1
   omega
 ·rcases hm with hm | ⟨⟨id', st', h1, h2⟩, h3⟩
  ·exact hm
  ·have := hnew id' st' h1
   omega
def nA (P : Program) (FP : T RF) (n : Nat) (f : Pos) (es : List D) : Option D :=
 match qE FP (exec P FP n) f es .e .h none (fun v ob nx lg => match FA ob 12 v with
  | some d => some ⟨T.set .h d .e, .e, .h, none⟩
  | none => none) with
 | some y => y.sl.get .h
 | none => none
theorem MemOk.run {P : Program} {FP : T RF} (hFP : FPok P FP) {n : Nat} {f : Pos} {es : List D} {v : D} (h : nA P FP n f es = some v) : MemOk P f.ix es v := by
 unfold nA at h
 split at h
 ·rename_i y hy
  obtain ⟨v', ob', nx', lg', h1, C⟩ := gX hFP (oU hFP n).1 hy
  split at h1
  ·rename_i d hd
   cases h1
   rw [T.get_set_same] at h
   cases h
   exact MemOk.of C hd
  ·cases h1
 ·cases h
theorem Dc {x1 x2 x3 x4 x5 y1 y2 y3 y4 y5 : Option C} : Beside (.o (.i .h)) (lI y1 y2 y3 y4 y5 none) (.n (.n (.n .e x4 .e) x2 .e) x1 (.n (.n .e x5 .e) x3 .e)) (lI y1 y2 y3 y4 y5 none) := by
 refine ⟨fun id c' hid hc => hc, fun id hle => ?_⟩
 cases id with
 | h => exact absurd hle (by decide)
 | o p => cases p with
   | h => exact absurd hle (by decide)
   | o q => cases q with
     | h => exact absurd hle (by decide)
     | o r => rfl
     | i r => rfl
   | i q => cases q with
     | h => rfl
     | o r => rfl
     | i r => rfl
 | i p => cases p with
   | h => exact absurd hle (by decide)
   | o q => cases q with
     | h => exact absurd hle (by decide)
     | o r => rfl
     | i r => rfl
   | i q => rfl
def CL : Nat -> Int := fun _ => 0
def hrs (b : Bh) : Nat := (b.last + 1).toNat
def wW (b : Bh) : List (Nat -> Int) := sH b (hrs b) 0 CL
section
variable {g : Pos} {first caps : List D} {b : Bh} {P : (Nat -> Int) -> Bool}
theorem Au (h1 : aN first) (h2 : aN caps) (hg : ∀ c, PureF Tryz.prog g.ix (first ++ ([.ag (qS c)] ++ caps)) (.b (P c))) (V : VW b) (l1 : ∀ w ∈ b.winds, w.length <= 1000) (l2 : b.nts.length <= 1000) :
 CallOk Tryz.prog p147.ix [.yl (.i .h), .pl (dV b) 0] (EV g first caps b false) (.o (.o .h)) none (.tp []) (EV g first caps b ((wW b).any P)) (.o (.o .h)) none := by
 have hv := V.last
 have C := vM h1 h2 hg V l1 l2 (hrs b) 0 (by unfold hrs; omega) CL
 have C : CallOk Tryz.prog p148.ix [.ag (qS CL), .i .i64 0, .pl (dV b) 0, .pt (.o (.o .h)) 0 0, .pt (.i (.o .h)) 0 0] (Gb g first caps b false none) (.o (.i .h)) none (.b (!(wW b).any P)) (Gb g first caps b ((wW b).any P) none) (.o (.i .h)) none := C
 refine CallOk.run KH (by simp) (Nat.le_refl _) ?_; conv => whnf
 refine Qg ?_
 refine WCall.fr C ?_ (lC h1 h2 _ (by decide)) ?_ Dc (Nat.le_refl _) (LgLe.refl _) (fun _ _ => trivial) ?_
 ·show T.le (lI _ _ _ _ _ _) _
  unfold lI
  (repeat' first | exact T.le_e _ | exact T.le_refl _ | refine T.le_sameS ?_ ?_ | refine T.le_none ?_ ?_ | refine T.le_ee ?_ ?_)
 ·simp [KpL, Kp, Pu, aN, Pos.nat, qS, aO]
 conv => whnf
 refine Qg ?_
 refine ⟨.inl rfl, ⟨_, rfl, .pu trivial⟩, Shr.kp ?_ (tD h1 h2 _ (by decide))⟩
 show T.le (Et _ _ _) (lI _ _ _ _ _ _)
 unfold Et lI
 (repeat' first | exact T.le_e _ | exact T.le_refl _ | refine T.le_sameS ?_ ?_ | refine T.le_none ?_ ?_ | refine T.le_ee ?_ ?_)
theorem GT (h1 : aN first) (h2 : aN caps) (hg : ∀ c, PureF Tryz.prog g.ix (first ++ ([.ag (qS c)] ++ caps)) (.b (P c))) (V : VW b) (l1 : ∀ w ∈ b.winds, w.length <= 1000) (l2 : b.nts.length <= 1000) :
 PureF Tryz.prog p118.ix [.fn p147 [] [.pl (dV b) 0], .fn g first caps] (.b ((wW b).any P)) := by
 have C := Au h1 h2 hg V l1 l2
 refine PureF.run HY (by simp) (by simp [aN, dE, Pu, aO, h1, h2]) ?_; conv => whnf
 refine Qg ?_
 refine Rn.le (a := ⟨HV g first caps b, Et (some (KG g first caps)) (some (Ii false)) none, .i .h, none⟩) ?_ ?_
 ·cases hP : (wW b).any P with
  | true =>
    rw [hP] at C
    refine Rn.rf rfl rfl C rfl (by simp) ?_; conv => whnf
    refine Qg ?_
    exact ⟨.inr rfl, _, rfl, .pu trivial⟩
  | false =>
    rw [hP] at C
    refine Rn.rf rfl rfl C rfl (by simp) ?_; conv => whnf
    refine Qg ?_
    exact ⟨.inr rfl, _, rfl, .pu trivial⟩
 ·refine X.le.mk ?_ ?_ (by simp [Pos.nat]) rfl rfl
  ·unfold HV
   exact Lw
  ·unfold Et
   exact Lw
end
theorem EN (b : Bh) : PureF Tryz.prog p119.ix [.ag (dV b)] (.fn p147 [] [.pl (dV b) 0]) := by
 refine PureF.run Iw (by simp) (by simp [aN, Pu, aO]) ?_; conv => whnf
 refine Qg ?_
 refine Fin.t (.inr rfl) rfl ?_
 exact .fn .nil (.cons (Frz.ptr rfl rfl (by simp [dV]) (aO b)) .nil)
theorem FT (x y : List Int) (hx : x.length <= 1000) : PureF Tryz.prog p121.ix [.lst 1 (ints x), .lst 1 (ints y)] (.b (decide (x = y))) := by
 have e1 := aL x
 have e2 := aL y
 refine PureF.run Ia (by simp) (by simp [aN, dE, Pu, aB]) ?_; conv => whnf
 by_cases hl : x.length = y.length
 rotate_left
 ·rw [decide_eq_false fun e => hl (by rw [e])]
  repeat' first | ((first | refine Qw ?_ | refine Qd (fun h => ?_) (fun h => ?_)) <;> conv => whnf) | (refine WB.tt ?_; conv => whnf) | (refine WB.ff ?_; conv => whnf)
  exact Fin.b rfl rfl
 repeat' first | ((first | refine Qw ?_ | refine Qd (fun h => ?_) (fun h => ?_)) <;> conv => whnf) | (refine WB.tt ?_; conv => whnf) | (refine WB.ff ?_; conv => whnf)
 refine Rn.loop (fun j : Nat => ⟨(.n (.n .e (some (.lst 1 (ints y))) (.n .e none (.n .e (some (.i .i64 (j : Int))) .e))) (some (.lst 1 (ints x))) (.n (.n .e none (.n .e (some (.i .i64 (x.length : Int))) .e)) none .e)), .e, .h, none⟩) (fun j => j <= x.length /\ ∀ i, i < j -> x.getD i 0 = y.getD i 0) (fun j => x.length - j) 0 ?_ ⟨Nat.zero_le _, fun i hi => absurd hi (Nat.not_lt_zero _)⟩ ?_
 ·refine X.le.mk ?_ ?_ (Nat.le_refl _) rfl rfl
  all_goals (try rw [<- e1])
  all_goals (repeat' first | exact T.le_e _ | exact T.le_refl _ | refine T.le_some ?_ rfl ?_ | refine T.le_none ?_ ?_ | refine T.le_ee ?_ ?_)
 rintro j ⟨hj, ha⟩
 conv => whnf
 repeat' ((first | refine Qw ?_ | refine Qv ?_) <;> conv => whnf)
 refine WB.dec (fun h => ?_) (fun h => ?_) <;> conv => whnf
 ·have hlt : j < x.length := by omega
  repeat' ((first | refine Qw ?_ | refine Qv ?_) <;> conv => whnf)
  refine WB.ndec (fun h2 => ?_) (fun h2 => ?_) <;> conv => whnf
  ·repeat' ((first | refine Qw ?_ | refine Qv ?_) <;> conv => whnf)
   exact Fin.b rfl (decide_eq_false fun e => h2 (by rw [e])).symm
  ·repeat' ((first | refine Qw ?_ | refine Qv ?_) <;> conv => whnf)
   refine Again.to (j + 1) (by omega) ⟨by omega, fun i hi => ?_⟩ (Nat.le_refl _) ?_
   ·by_cases e : i = j
    ·subst e; exact h2
    ·exact ha i (by omega)
   ·(refine Shr.of ?_ ?_ rfl rfl) <;> (repeat' first | exact Rel.e | refine Rel.some ?_ ?_ ?_ | refine Rel.none ?_ ?_) <;> (try first | (show Fz _ _ _ _; first | exact Fz.pu trivial | (refine Fz.i ?_; first | rfl | omega) | (refine Fz.kpt ?_; (focus (show Pos.nat _ < Pos.nat _; simp [Pos.nat]; done))) | (refine Fz.ksl ?_; (focus (show Pos.nat _ < Pos.nat _; simp [Pos.nat]; done))) | (refine Fz.kmp ?_; (focus (show Pos.nat _ < Pos.nat _; simp [Pos.nat]; done))) | (refine Fz.pu ?_; simp [Cell.d, Pu, aN, dE, aB, aH, aF]; done) | (refine Fz.pu ?_; simp only [Cell.d]; assumption)) | (refine RO'.of ?_ (ShC.same ?_); (focus (show Pos.nat _ < Pos.nat _; simp [Pos.nat]; done)); (repeat' first | exact ShC.nl | refine ShC.cn ?_ ?_) <;> first | exact Fz.pu trivial | (refine Fz.i ?_; first | rfl | omega) | (refine Fz.kpt ?_; (focus (show Pos.nat _ < Pos.nat _; simp [Pos.nat]; done))) | (refine Fz.ksl ?_; (focus (show Pos.nat _ < Pos.nat _; simp [Pos.nat]; done))) | (refine Fz.kmp ?_; (focus (show Pos.nat _ < Pos.nat _; simp [Pos.nat]; done))) | (refine Fz.pu ?_; simp [Cell.d, Pu, aN, dE, aB, aH, aF]; done) | (refine Fz.pu ?_; simp only [Cell.d]; assumption)))
    all_goals (refine Fz.pu ?_; simp [Pu, aB])
 ·have hxy : x = y := List.ext_getElem hl fun i h1 h2 => by
   have := ha i (by omega)
   simpa [List.getD, h1, h2] using this
  rw [decide_eq_true hxy]
  repeat' ((first | refine Qw ?_ | refine Qv ?_) <;> conv => whnf)
  exact Fin.b rfl rfl
def Gz (c : Nat -> Int) : List Int := [c 0, c 1, c 2, c 3, c 4]
theorem WCall.borrow1 {P : Program} {f : Nat} {ds ds' : List D} {v : D} (h : PureF P f ds' v) (id : Pos) (c : C) {sl : T D} {ob : T C} {nx : Pos} {lg lg2 : Option (T Bool)} {d : Option Pos} {K : X -> Prop} (hz : FzL (fun _ => False) (T.set id c .e) ds ds') (hv : fL v) (hid : ob.get id = some c) (hlg2 : MZ lg id = lg2) (k : kK sl ob nx lg2 d K v) : WCall P f ds d ⟨sl, ob, nx, lg⟩ K := by
 subst hlg2
 have hone : (T.set id c .e).get id = some c := T.get_set_same _ _ _
 have C := PureF.borrowL h (ob := ob) (ob1 := T.set id c .e) (ds := ds) hz (fun j c' hc => by
  by_cases e : j = id
  ·subst e; rw [hone] at hc; rw [<- hc]; exact hid
  ·rw [T.get_set_ne e _ _, T.get_e] at hc; cases hc) hv nx (Hh lg id) (fun j c' hc => by
  by_cases e : j = id
  ·subst e; exact (Jp lg j).tchd
  ·rw [T.get_set_ne e _ _, T.get_e] at hc; cases hc)
 cases d with
 | none => exact ⟨_, _, _, _, _, C, rfl, k⟩
 | some d =>
   obtain ⟨h1, h2⟩ := aY k
   exact ⟨_, _, _, _, _, C, h1, h2⟩
theorem WSt.slaH {sl : T D} {ob : T C} {nx : Pos} {K : X -> Prop} {lg lg2 : Option (T Bool)} {d id : Pos} {n z st h cur : Nat} {ro : Bool} {x xh : RX} {cs : List Cell} {ds : List D} (hx : bE sl x = some (.pt id 0 st)) (hob : ob.get id = some (.cells ro cs cur)) (hcs : cs = ds.map fun d => Cell.o d st) (hn : ds.length = n * z)
 (hhi : bE sl xh = some (.i .i64 (h : Int))) (h2 : h <= n) (h3 : 0 < n) (hz : 0 < z) (hl : (∀ k : Option (T Bool) -> Option X, gJ lg id k = k lg2)) (k : eF sl ob nx lg2 d K (.sl id 0 h st z)) : WSt (.sla d n z x none (some xh) none) ⟨sl, ob, nx, lg⟩ K := by
 obtain ⟨k2, k3⟩ := aY k
 refine ⟨_, ?_, k3⟩
 show rE d n z x none (some xh) none sl ob nx lg = _
 unfold rE
 rw [hx]
 simp only [hob, tT, hhi]
 have hhi' : ((h : Nat) : Int) = Int.ofNat h := rfl
 have b1 : Nat.ble 0 h = true := Nat.ble_eq_true_of_le (Nat.zero_le _)
 have b2 : Nat.ble h n = true := Nat.ble_eq_true_of_le h2
 have b3 : Nat.blt 0 n = true := Nat.ble_eq_true_of_le h3
 have b4 : Nat.blt 0 z = true := Nat.ble_eq_true_of_le hz
 subst hcs
 have hlt : n * z - 1 < ds.length := by
  have : 1 * 1 <= n * z := Nat.mul_le_mul h3 hz
  omega
 have hc : nO (ds.map fun d => Cell.o d st) (Nat.pred (Nat.add 0 (Nat.mul n z))) = some (Cell.o (ds[n * z - 1]'hlt) st) := by
  rw [dL, show Nat.pred (Nat.add 0 (Nat.mul n z)) = n * z - 1 by rw [show Nat.add 0 (Nat.mul n z) = n * z from Nat.zero_add _]; rfl]
  simp [hlt]
 have hk : ∀ {β : Type} (q : D -> Option β), oE st (Cell.o (ds[n * z - 1]'hlt) st) q = q (ds[n * z - 1]'hlt) := fun q => by
  show (bif Nat.ble st st then _ else none) = _
  rw [Nat.ble_eq_true_of_le (Nat.le_refl st)]; rfl
 simp only [b1, b2, b3, b4, Bool.and_self, cond_true, hc, hk, bA, hl]
 rw [show Nat.add 0 (Nat.mul 0 z) = 0 by rw [show Nat.mul 0 z = 0 from Nat.zero_mul z]]
 exact k2
theorem Kd (b : Bh) (V : VW b) (l : List Int) (c : Nat -> Int) : PureF Tryz.prog p120.ix [.ag (qS c), .pl (dV b) 0, .pl [.lst 1 (ints l)] 0] (.b (decide ((Gz c).take (hrs b) = l))) := by
 have hv := V.last
 have cE := FT ((Gz c).take (hrs b)) l (by simp [Gz]; omega)
 have hP : aN (dV b) := aO b
 unfold hrs at *
 obtain ⟨last, rws, pls, rch, face, sun, winds, brk, nts⟩ := b
 have hv : 0 <= last /\ last <= 4 := hv
 have h5 : last = 0 \/ last = 1 \/ last = 2 \/ last = 3 \/ last = 4 := by omega
 clear V
 refine PureF.run Ij (by simp) (by simp [aN, dE, Pu, JO, aB, hP]) ?_; conv => whnf
 rcases h5 with rfl | rfl | rfl | rfl | rfl
 ·repeat' ((first | refine Qw ?_ | refine Qv ?_) <;> conv => whnf)
  refine WSt.slaH (h := 1) (ds := qS c) rfl rfl rfl rfl rfl (by decide) (by decide) (by decide) (fun k => rfl) ?_; conv => whnf
  repeat' ((first | refine Qw ?_ | refine Qv ?_) <;> conv => whnf)
  refine WCall.borrow1 cE .h (Fj c) (.cons ((jR (fun _ h => h) (n := 3) (by rfl)).1) (.cons (.pu (aB l)) .nil)) trivial (by rfl) (by rfl) ?_; conv => whnf
  repeat' ((first | refine Qw ?_ | refine Qv ?_) <;> conv => whnf)
  exact Fin.b rfl rfl
 ·repeat' ((first | refine Qw ?_ | refine Qv ?_) <;> conv => whnf)
  refine WSt.slaH (h := 2) (ds := qS c) rfl rfl rfl rfl rfl (by decide) (by decide) (by decide) (fun k => rfl) ?_; conv => whnf
  repeat' ((first | refine Qw ?_ | refine Qv ?_) <;> conv => whnf)
  refine WCall.borrow1 cE .h (Fj c) (.cons ((jR (fun _ h => h) (n := 3) (by rfl)).1) (.cons (.pu (aB l)) .nil)) trivial (by rfl) (by rfl) ?_; conv => whnf
  repeat' ((first | refine Qw ?_ | refine Qv ?_) <;> conv => whnf)
  exact Fin.b rfl rfl
 ·repeat' ((first | refine Qw ?_ | refine Qv ?_) <;> conv => whnf)
  refine WSt.slaH (h := 3) (ds := qS c) rfl rfl rfl rfl rfl (by decide) (by decide) (by decide) (fun k => rfl) ?_; conv => whnf
  repeat' ((first | refine Qw ?_ | refine Qv ?_) <;> conv => whnf)
  refine WCall.borrow1 cE .h (Fj c) (.cons ((jR (fun _ h => h) (n := 3) (by rfl)).1) (.cons (.pu (aB l)) .nil)) trivial (by rfl) (by rfl) ?_; conv => whnf
  repeat' ((first | refine Qw ?_ | refine Qv ?_) <;> conv => whnf)
  exact Fin.b rfl rfl
 ·repeat' ((first | refine Qw ?_ | refine Qv ?_) <;> conv => whnf)
  refine WSt.slaH (h := 4) (ds := qS c) rfl rfl rfl rfl rfl (by decide) (by decide) (by decide) (fun k => rfl) ?_; conv => whnf
  repeat' ((first | refine Qw ?_ | refine Qv ?_) <;> conv => whnf)
  refine WCall.borrow1 cE .h (Fj c) (.cons ((jR (fun _ h => h) (n := 3) (by rfl)).1) (.cons (.pu (aB l)) .nil)) trivial (by rfl) (by rfl) ?_; conv => whnf
  repeat' ((first | refine Qw ?_ | refine Qv ?_) <;> conv => whnf)
  exact Fin.b rfl rfl
 ·repeat' ((first | refine Qw ?_ | refine Qv ?_) <;> conv => whnf)
  refine WSt.slaH (h := 5) (ds := qS c) rfl rfl rfl rfl rfl (by decide) (by decide) (by decide) (fun k => rfl) ?_; conv => whnf
  repeat' ((first | refine Qw ?_ | refine Qv ?_) <;> conv => whnf)
  refine WCall.borrow1 cE .h (Fj c) (.cons ((jR (fun _ h => h) (n := 3) (by rfl)).1) (.cons (.pu (aB l)) .nil)) trivial (by rfl) (by rfl) ?_; conv => whnf
  repeat' ((first | refine Qw ?_ | refine Qv ?_) <;> conv => whnf)
  exact Fin.b rfl rfl
def Fk (b : Bh) (l : List Int) : Bool := (wW b).any fun c => decide ((Gz c).take (hrs b) = l)
theorem Bm (b : Bh) (V : VW b) (l : List Int) (l1 : ∀ w ∈ b.winds, w.length <= 1000) (l2 : b.nts.length <= 1000) : PureF Tryz.prog p83.ix [.ag (dV b), .lst 1 (ints l)] (.b (Fk b l)) := by
 have c1 := EN b
 have c2 := GT (g := p120) (first := []) (caps := [.pl (dV b) 0, .pl [.lst 1 (ints l)] 0]) (P := fun c => decide ((Gz c).take (hrs b) = l)) trivial (by simp [aN, Pu, aO, aB]) (fun c => Kd b V l c) V l1 l2
 refine PureF.run Mx (by simp) (by simp [aN, Pu, aO, aB]) ?_; conv => whnf
 repeat' ((first | refine Qw ?_ | refine Qf c1 ?_ | refine Qv ?_) <;> conv => whnf)
 refine WCall.borrow c2 (.cons (.pu ?_) (.cons (.fn .nil (.cons (Frz.ptr rfl rfl (by simp [dV]) (aO b)) (.cons (Frz.ptr (r := [.lst 1 (ints l)]) rfl rfl (by simp) (by simp [aN, Pu, aB])) .nil))) .nil)) trivial ?_
 ·simp [Pu, aN, aO]
 conv => whnf
 repeat' ((first | refine Qw ?_ | refine Qv ?_) <;> conv => whnf)
 exact Fin.b rfl rfl
theorem oV {b : Bh} : ∀ {m h : Nat} {c c' : Nat → Int}, c' ∈ sH b m h c ↔ (∀ i, h ≤ i → i < h + m → c' i ∈ nE b i) ∧ ∀ i, (i < h ∨ h + m ≤ i) → c' i = c i
  | 0, h, c, c' => by
    unfold sH
    rw [List.mem_singleton]
    constructor
    · rintro rfl; exact ⟨fun i h1 h2 => absurd h2 (by omega), fun _ _ => rfl⟩
    · rintro ⟨_, k⟩
      exact funext fun i => k i (by omega)
  | m + 1, h, c, c' => by
    unfold sH
    rw [List.mem_flatMap]
    constructor
    · rintro ⟨f, hf, hc⟩
      obtain ⟨k1, k2⟩ := oV.1 hc
      refine ⟨fun i h1 h2 => ?_, fun i hi => ?_⟩
      · by_cases e : i = h
        · subst e; rw [k2 i (by omega), sC]; exact hf
        · exact k1 i (by omega) (by omega)
      · rw [k2 i (by omega), tB _ _ (by omega)]
    · rintro ⟨k1, k2⟩
      refine ⟨c' h, k1 h (by omega) (by omega), oV.2 ⟨fun i h1 h2 => k1 i (by omega) (by omega), fun i hi => ?_⟩⟩
      by_cases e : i = h
      · subst e; rw [sC]
      · rw [tB _ _ e]; exact k2 i (by omega)
structure TruP (b : Bh) (l : List Int) : Prop where
  len : l.length = hrs b
  mem : ∀ i, i < hrs b → l.getD i 0 ∈ nE b i
theorem zW (c : Nat → Int) {i : Nat} (h : i < 5) : (Gz c).getD i 0 = c i := by
  rcases vU h with rfl | rfl | rfl | rfl | rfl <;> rfl
theorem rU {l : List Int} {n i : Nat} (h : i < n) : (l.take n).getD i 0 = l.getD i 0 := by
  simp [List.getD, h]
theorem gE (l : List Int) {i : Nat} (h : i < l.length) : l[i] = l.getD i 0 := by simp [List.getD, h]
theorem kG {b : Bh} (V : VW b) {l : List Int} : Fk b l = true ↔ TruP b l := by
  have hv := V.last
  have hn : hrs b ≤ 5 := by unfold hrs; omega
  unfold Fk wW
  rw [List.any_eq_true]
  constructor
  · rintro ⟨c, hc, e⟩
    have e := of_decide_eq_true e
    subst e
    obtain ⟨k1, _⟩ := oV.1 hc
    refine ⟨by simp [Gz]; omega, fun i hi => ?_⟩
    rw [rU hi, zW c (by omega)]
    exact k1 i (Nat.zero_le _) (by omega)
  · rintro ⟨h1, h2⟩
    refine ⟨fun i => if i < hrs b then l.getD i 0 else 0, oV.2 ⟨fun i _ hi => ?_, fun i hi => ?_⟩, decide_eq_true ?_⟩
    · have hi : i < hrs b := by omega
      show (if i < hrs b then l.getD i 0 else 0) ∈ _
      rw [if_pos hi]; exact h2 i hi
    · have hi : ¬ i < hrs b := by omega
      show (if i < hrs b then l.getD i 0 else 0) = 0
      rw [if_neg hi]
    · refine List.ext_getElem (by simp [Gz]; omega) fun i a1 a2 => ?_
      rw [gE _ a1, gE _ a2, rU (by omega), zW _ (by omega), if_pos (by omega)]
theorem mN {b : Bh} {i : Nat} {f : Int} : f ∈ nE b i ↔ f ∈ b.winds.getD i default ∧ ∀ n ∈ b.nts, n.1 = (i : Int) → n.2 = f := by
  unfold nE
  rw [List.mem_filter, List.all_eq_true]
  constructor
  · rintro ⟨a, k⟩
    exact ⟨a, fun n hn e => by rcases of_decide_eq_true (k n hn) with h | h; exact absurd e h; exact h⟩
  · rintro ⟨a, k⟩
    exact ⟨a, fun n hn => decide_eq_true (by by_cases e : n.1 = (i : Int); exact .inr (k n hn e); exact .inl e)⟩
def Bp (b : Bh) (t : List Int) : Bool := decide (t.length = b.winds.length) && (List.range t.length).all fun i => GK (b.winds.getD i default) (t.getD i 0)
theorem qK {l : List Int} {n : Int} : GK l n = true ↔ n ∈ l := by
  unfold GK
  rw [List.any_eq_true]
  constructor
  · rintro ⟨x, hx, e⟩; rw [← of_decide_eq_true e]; exact hx
  · intro h; exact ⟨n, h, decide_eq_true rfl⟩
theorem Ca {b : Bh} {t : List Int} : Bp b t = true ↔ t.length = b.winds.length ∧ ∀ i, i < b.winds.length → t.getD i 0 ∈ b.winds.getD i default := by
  unfold Bp
  rw [Bool.and_eq_true, decide_eq_true_iff, List.all_eq_true]
  constructor
  · rintro ⟨a, k⟩
    exact ⟨a, fun i hi => qK.1 (k i (List.mem_range.2 (by omega)))⟩
  · rintro ⟨a, k⟩
    exact ⟨a, fun i hi => qK.2 (k i (by have := List.mem_range.1 hi; omega))⟩
theorem VW.hrs {b : Bh} (V : VW b) : Go.Ev.hrs b = b.winds.length := by
  have := V.last; have := V.winl
  unfold Go.Ev.hrs; omega
end Go.Ev
end
