import Derived.Test.YtkbgaadfednjpaaGreatDoorEvU4e
import Derived.Test.YtkbgaadfednjpaaGreatDoorEvUDs
set_option linter.all false
set_option maxHeartbeats 8000000
noncomputable section
namespace Go.Ev
open Go.Proofs
set_option maxRecDepth 100000
theorem RndOk.ofW {P : Program} {id : Pos} {ds : List D} {ob ob' : T C} {nx nx' : Pos} {v : D} (h : WRnd P id ds (some .h) ⟨.e, ob, nx, none⟩ (fun x => x = ⟨.n .e (some v) .e, ob', nx', none⟩)) : RndOk P id ds ob nx none v ob' nx' none := by
  obtain ⟨v1, ob1, nx1, lg1, Z, h1, h2, h3⟩ := h.ok
  subst h3
  have h2 : T.setK .h v1 (T.e : T D) (fun sl => some (⟨sl, ob1, nx1, lg1⟩ : X)) = some ⟨.n .e (some v) .e, ob', nx', none⟩ := h2
  rw [T.setK_eq] at h2
  obtain ⟨e1, e2, e3, e4⟩ := X.mk.inj (Option.some.inj h2)
  have e1 := congrArg (fun t => T.get t .h) e1
  have e1 : (T.set .h v1 (T.e : T D)).get .h = some v := e1
  rw [T.get_set_same] at e1
  have e1 := Option.some.inj e1
  subst e1 e2 e3 e4
  exact h1
def DM (x1 x2 x3 : Option C) : T C := .n (.n .e x2 .e) x1 (.n .e x3 .e)
theorem EZ {x1 x2 x3 y1 y2 y3 : Option C} {a b c d : T C} : Beside (.o (.o .h)) (DM y1 y2 y3) (.n (.n a x2 b) x1 (.n c x3 d)) (.n (.n a y2 b) y1 (.n c y3 d)) := by
  refine ⟨fun id c' hid hc => ?_, fun id hle => ?_⟩
  · cases id with
    | h => exact hc
    | o p => cases p with
      | h => exact hc
      | o q => have := q.nat_pos; have hid : 2 * (2 * q.nat) < 4 := hid; omega
      | i q => have := q.nat_pos; have hid : 2 * (2 * q.nat + 1) < 4 := hid; omega
    | i p => cases p with
      | h => exact hc
      | o q => have := q.nat_pos; have hid : 2 * (2 * q.nat) + 1 < 4 := hid; omega
      | i q => have := q.nat_pos; have hid : 2 * (2 * q.nat + 1) + 1 < 4 := hid; omega
  · cases id with
    | h => exact absurd hle (by decide)
    | o p => cases p with
      | h => exact absurd hle (by decide)
      | o q => rfl
      | i q => rfl
    | i p => cases p with
      | h => exact absurd hle (by decide)
      | o q => rfl
      | i q => rfl
def mX (c : Nat → Int) (k : Nat) (v : Int) (i : Nat) : Int := bif Nat.beq i k then v else c i
theorem sT (c : Nat → Int) (k : Nat) (v : Int) : mX c k v k = v := by simp [mX]
theorem tT (c : Nat → Int) {k i : Nat} (v : Int) (h : i ≠ k) : mX c k v i = c i := by
  unfold mX
  rw [show Nat.beq i k = false from by
    cases e : Nat.beq i k with
    | false => rfl
    | true => exact absurd (Nat.eq_of_beq_eq_true e) h]
  rfl
theorem AP (c : Nat → Int) (k : Nat) : mX c k (c k) = c := funext fun i => by
  by_cases e : i = k
  · subst e; rw [sT]
  · rw [tT _ _ e]
theorem sI {h : Nat} (k : h < 5) : h = 0 ∨ h = 1 ∨ h = 2 ∨ h = 3 ∨ h = 4 := by omega
def wS (c : Nat → Int) : List D := [.i .i64 (c 0), .i .i64 (c 1), .i .i64 (c 2), .i .i64 (c 3), .i .i64 (c 4)]
theorem JZ (c : Nat → Int) : aQ (wS c) := by simp [wS, aQ, Pu]
def Ly (c : Nat → Int) : C := .cells false ((wS c).map fun d => Cell.o d 0) 1
def sY (b : Bh) : Nat → Nat → (Nat → Int) → List (Nat → Int)
  | 0, _, c => [c]
  | m + 1, h, c => (aH b h).flatMap fun f => sY b m (h + 1) (mX c h f)
theorem xM {b : Bh} {m h : Nat} {c : Nat → Int} {P : (Nat → Int) → Bool} (k : ∀ i, i < (aH b h).length → (sY b m (h + 1) (mX c h ((aH b h).getD i 0))).any P = false) : (sY b (m + 1) h c).any P = false := by
  unfold sY
  rw [List.any_flatMap, List.any_eq_false]
  intro f hf
  obtain ⟨i, hi, rfl⟩ := xV (d := (0 : Int)) hf
  rw [k i hi]; decide
theorem vK {b : Bh} {m h : Nat} {c : Nat → Int} {P : (Nat → Int) → Bool} {i : Nat} (hi : i < (aH b h).length) (k : (sY b m (h + 1) (mX c h ((aH b h).getD i 0))).any P = true) : (sY b (m + 1) h c).any P = true := by
  unfold sY
  rw [List.any_flatMap, List.any_eq_true]
  exact ⟨_, aL (d := (0 : Int)) hi, k⟩
def lP (x1 x2 x3 x4 x5 x6 : Option C) : T C := .n (.n (.n .e x4 .e) x2 (.n .e x6 .e)) x1 (.n (.n .e x5 .e) x3 .e)
def Hw (g : Pos) (first caps : List D) (b : Bh) : T D := (.n (.n (.n .e (some (.pt .h 0 0)) .e) (some (.fn g first caps)) .e) none (.n (.n .e (some (.pt (.o .h) 0 0)) .e) none (.n .e (some (.fn p147 [] [.pl (eF b) 0])) .e)))
def Ll (g : Pos) (first caps : List D) : C := .cells false [.o (.fn g first caps) 0] 1
def HU (s : Bool) : C := .cells false [.o (.b s) 0] 1
def LI (g : Pos) (first caps : List D) (b : Bh) (s : Bool) : C := .lp (Hw g first caps b) [p8] 11 (Nq (aN Tryz.f117) 0) (Ml (aN Tryz.f117) 0) (bif s then .done else .ready) (bif s then some .ret else none)
def Ek (g : Pos) (first caps : List D) (b : Bh) (s : Bool) : T C := DM (some (Ll g first caps)) (some (HU s)) (some (LI g first caps b s))
def NN : C := .cells false [.o (.yl (.i .h)) 0] 1
def NV (b : Bh) : C := .cells false [.o (.fn p148 [] [.pl (eF b) 0, .pt (.o (.o .h)) 0 0, .pt (.i (.o .h)) 0 0]) 0] 1
def Fa (g : Pos) (first caps : List D) (b : Bh) (s : Bool) (x6 : Option C) : T C := lP (some (Ll g first caps)) (some (HU s)) (some (LI g first caps b s)) (some NN) (some (NV b)) x6
section
variable {g : Pos} {first caps : List D} {b : Bh}
theorem DE (h1 : aQ first) (h2 : aQ caps) {n : Nat} (hn : 4 ≤ n) : ∀ s d, (Hw g first caps b).get s = some d → Kp n d := by
  have k1 := KpL.pu (n := n) first h1
  have k2 := KpL.pu (n := n) caps h2
  show TAll (fun _ d => Kp n d) (Hw g first caps b)
  unfold Hw
  repeat' first | exact TAll.e | refine TAll.some ?_ ?_ ?_ | refine TAll.none ?_ ?_
  all_goals simp [Kp, KpL, Pu, aS, k1, k2, Pos.nat]
  all_goals omega
theorem tV (h1 : aQ first) (h2 : aQ caps) (s : Bool) {n : Nat} (hn : 4 ≤ n) : KpO n (Ek g first caps b s) := by
  have k1 := KpL.pu (n := n) first h1
  have k2 := KpL.pu (n := n) caps h2
  have hs := DE h1 h2 hn (g := g) (b := b)
  show TAll (fun id c => id.nat < n ∧ KpC n c) _
  unfold Ek DM Ll HU LI
  repeat' first | exact TAll.e | refine TAll.some ?_ ?_ ?_ | refine TAll.none ?_ ?_
  all_goals refine ⟨by simp [Pos.nat]; omega, ?_⟩
  all_goals first
    | exact hs
    | (refine KpL.all ?_; simp [KpL, Kp, Cell.d, Pu, k1, k2, Pos.nat])
theorem lI (h1 : aQ first) (h2 : aQ caps) (s : Bool) {n : Nat} (hn : 6 ≤ n) : KpO n (Fa g first caps b s none) := by
  have k1 := KpL.pu (n := n) first h1
  have k2 := KpL.pu (n := n) caps h2
  have hs := DE h1 h2 (n := n) (by omega) (g := g) (b := b)
  show TAll (fun id c => id.nat < n ∧ KpC n c) _
  unfold Fa lP Ll HU LI NN NV
  repeat' first | exact TAll.e | refine TAll.some ?_ ?_ ?_ | refine TAll.none ?_ ?_
  all_goals refine ⟨by simp [Pos.nat]; omega, ?_⟩
  all_goals first
    | exact hs
    | (refine KpL.all ?_; simp [KpL, Kp, Cell.d, Pu, aS, k1, k2, Pos.nat]; try omega)
end
set_option maxHeartbeats 2000000 in
theorem Gy {g : Pos} {first caps : List D} {b : Bh} {P : (Nat → Int) → Bool} (h1 : aQ first) (h2 : aQ caps) (hg : ∀ c, PureF Tryz.prog g.ix (first ++ ([.ag (wS c)] ++ caps)) (.b (P c))) (c : Nat → Int) :
    RndOk Tryz.prog (.i .h) [.ag (wS c)] (Ek g first caps b false) (.o (.o .h)) none (.b (!P c)) (Ek g first caps b (P c)) (.o (.o .h)) none := by
  have cg := hg c
  refine RndOk.ofW ?_
  cases hP : P c with
  | true =>
    rw [hP] at cg
    refine WRnd.run rfl pP qP ⟨_, rfl, ?_⟩
    conv => whnf
    repeat' first | ((first | refine Qz ?_) <;> conv => whnf)
    refine ⟨rfl, rfl, _, _, _, _, _, _, rfl, ?_⟩
    conv => whnf
    repeat' first | ((first | refine Qz ?_ | refine Qf (cg) ?_ | refine Qy ?_) <;> conv => whnf) | (refine WB.tt ?_; conv => whnf) | (refine WB.ff ?_; conv => whnf)
    refine ⟨_, _, _, _, _, _, _, Ek g first caps b true, .o (.o .h), rfl, rfl, ?_, Nat.le_refl _, rfl⟩
    refine Shr.kp ?_ (tV h1 h2 _ (by decide))
    unfold Ek DM
    (repeat' first | exact T.le_e _ | exact T.le_refl _ | refine T.le_some ?_ rfl ?_ | refine T.le_none ?_ ?_ | refine T.le_ee ?_ ?_)
  | false =>
    rw [hP] at cg
    refine WRnd.run rfl pP qP ⟨_, rfl, ?_⟩
    conv => whnf
    repeat' first | ((first | refine Qz ?_) <;> conv => whnf)
    refine ⟨rfl, rfl, _, _, _, _, _, _, rfl, ?_⟩
    conv => whnf
    repeat' first | ((first | refine Qz ?_ | refine Qf (cg) ?_ | refine Qy ?_) <;> conv => whnf) | (refine WB.tt ?_; conv => whnf) | (refine WB.ff ?_; conv => whnf)
    refine ⟨_, _, _, _, _, _, _, Ek g first caps b false, .o (.o .h), rfl, rfl, ?_, Nat.le_refl _, rfl⟩
    refine Shr.kp ?_ (tV h1 h2 _ (by decide))
    unfold Ek DM
    (repeat' first | exact T.le_e _ | exact T.le_refl _ | refine T.le_some ?_ rfl ?_ | refine T.le_none ?_ ?_ | refine T.le_ee ?_ ?_)
theorem Az {x1 x2 x3 x4 x5 x6 y1 y2 y3 y4 y5 : Option C} : Beside (.o (.i .h)) (lP y1 y2 y3 y4 y5 none) (lP x1 x2 x3 x4 x5 x6) (lP y1 y2 y3 y4 y5 x6) := by
  refine ⟨fun id c' hid hc => ?_, fun id hle => ?_⟩
  · cases id with
    | h => exact hc
    | o p => cases p with
      | h => exact hc
      | o q => cases q with
        | h => exact hc
        | o r => exact hc
        | i r => exact hc
      | i q => have := q.nat_pos; have hid : 2 * (2 * q.nat + 1) < 6 := hid; omega
    | i p => cases p with
      | h => exact hc
      | o q => cases q with
        | h => exact hc
        | o r => exact hc
        | i r => exact hc
      | i q => exact hc
  · cases id with
    | h => exact absurd hle (by decide)
    | o p => cases p with
      | h => exact absurd hle (by decide)
      | o q => cases q with
        | h => exact absurd hle (by decide)
        | o r => rfl
        | i r => rfl
      | i q => rfl
    | i p => cases p with
      | h => exact absurd hle (by decide)
      | o q => cases q with
        | h => exact absurd hle (by decide)
        | o r => rfl
        | i r => rfl
      | i q => rfl
theorem T.le_sameS {α : Type} {l r l' r' : T α} {v : Option α} (hl : T.le l l') (hr : T.le r r') : T.le (.n l v r) (.n l' v r') := T.le_n hl (.inr rfl) hr
def Ft (b : Bh) (h : Nat) (W : List Int) (j : Nat) : T D := (.n (.n (.n .e (some (.pt (.o (.o .h)) 0 0)) .e) (some (.i .i64 (h : Int))) (.n .e (some (.pt (.o (.i .h)) 0 0)) (.n (.n .e (some (.i .i64 (W.length : Int))) .e) none .e))) none (.n (.n .e (some (.pt (.i (.o .h)) 0 0)) (.n (.n .e (some (.lst 1 (ints W))) .e) none .e)) (some (.pl (eF b) 0)) (.n .e none (.n (.n .e (some (.i .i64 (j : Int))) .e) none .e))))
theorem Ha {b : Bh} {h : Nat} {W : List Int} {j n : Nat} (hn : 7 ≤ n) : ∀ s d, (Ft b h W j).get s = some d → Kp n d := by
  show TAll (fun _ d => Kp n d) (Ft b h W j)
  unfold Ft
  repeat' first | exact TAll.e | refine TAll.some ?_ ?_ ?_ | refine TAll.none ?_ ?_
  all_goals simp [Kp, KpL, Pu, aS, aC, Pos.nat]
  all_goals omega
theorem GE (c : Nat → Int) (n : Nat) : KpC n (Ly c) := by
  refine KpL.all ?_
  simp [wS, KpL, Kp, Cell.d, Pu]
theorem Gc {g : Pos} {first caps : List D} {b : Bh} (h1 : aQ first) (h2 : aQ caps) (s : Bool) (c : Nat → Int) {n : Nat} (hn : 7 ≤ n) : KpO n (Fa g first caps b s (some (Ly c))) := by
  have k := lI (g := g) (b := b) h1 h2 s (n := n) (by omega)
  intro id x hx
  by_cases e : id = .o (.i .h)
  · subst e
    cases hx
    exact ⟨by show 6 < n; omega, GE c n⟩
  · refine k id x ?_
    cases id with
    | h => exact hx
    | o p => cases p with
      | h => exact hx
      | o q => exact hx
      | i q => cases q with
        | h => exact absurd rfl e
        | o r => exact hx
        | i r => exact hx
    | i p => exact hx
section
variable {g : Pos} {first caps : List D} {b : Bh} {P : (Nat → Int) → Bool}
set_option maxHeartbeats 8000000 in
theorem vZ (h1 : aQ first) (h2 : aQ caps) (hg : ∀ c, PureF Tryz.prog g.ix (first ++ ([.ag (wS c)] ++ caps)) (.b (P c))) (V : VW b) (l1 : ∀ w ∈ b.winds, w.length ≤ 1000) (l2 : b.nts.length ≤ 1000) : ∀ (m h : Nat), ((h + m : Nat) : Int) = b.last + 1 → ∀ c,
    CallOk Tryz.prog p148.ix [.ag (wS c), .i .i64 (h : Int), .pl (eF b) 0, .pt (.o (.o .h)) 0 0, .pt (.i (.o .h)) 0 0] (Fa g first caps b false none) (.o (.i .h)) none (.b (!(sY b m h c).any P)) (Fa g first caps b ((sY b m h c).any P) none) (.o (.i .h)) none
  | 0, h, hm, c => by
    have R := Gy (g := g) (b := b) h1 h2 hg c
    have hP : (sY b 0 h c).any P = P c := by simp [sY]
    rw [hP]
    refine CallOk.run FG (by simp) (Nat.le_refl _) ?_; conv => whnf
    repeat' first | ((first | refine Qz ?_ | with_reducible (first | refine Qm ?_ | refine Qn ?_ | refine Qo ?_ | refine Qp ?_ | refine WB.nt ?_ | refine WB.nf ?_ | refine WB.dec (fun h => ?_) (fun h => ?_) | refine WB.ndec (fun h => ?_) (fun h => ?_)) | refine WB.mk (fun h => ?_) (fun h => ?_)) <;> conv => whnf) | (refine WB.tt ?_; conv => whnf) | (refine WB.ff ?_; conv => whnf)
    refine WRnd.fr R (by decide) ?_ (tV h1 h2 _ (by decide)) ?_ EZ (by decide) (LgLe.refl _) (fun _ _ => trivial) ?_
    · show T.le (DM _ _ _) (lP _ _ _ _ _ _)
      unfold DM lP
      (repeat' first | exact T.le_e _ | exact T.le_refl _ | refine T.le_sameS ?_ ?_ | refine T.le_none ?_ ?_ | refine T.le_ee ?_ ?_)
    · simp [KpL, Kp, Pu, aQ, wS]
    conv => whnf
    repeat' first | ((first | refine Qz ?_) <;> conv => whnf)
    refine ⟨.inr rfl, ⟨_, rfl, .pu trivial⟩, Shr.kp ?_ (lI h1 h2 _ (by decide))⟩
    show T.le (lP _ _ _ _ _ _) _
    unfold lP
    (repeat' first | exact T.le_e _ | exact T.le_refl _ | refine T.le_sameS ?_ ?_ | refine T.le_none ?_ ?_ | refine T.le_ee ?_ ?_)
  | m + 1, h, hm, c => by
    have hv4 := V.last
    have hwl := V.winl
    have h5 : h < 5 := by omega
    have hh : h < b.winds.length := by omega
    have hl := l1 _ (aL (d := (default : List Int)) hh)
    have cW := Ar b V h hh hl l2
    have ih := fun c => vZ h1 h2 hg V l1 l2 m (h + 1) (by omega) c
    have hno := xM (b := b) (m := m) (h := h) (c := c) (P := P)
    have hyes := fun i hi => vK (b := b) (m := m) (h := h) (c := c) (P := P) (i := i) hi
    have hWl : (aH b h).length ≤ 1000 := Nat.le_trans (List.length_filter_le _ _) (by exact hl)
    generalize aH b h = W at *
    have e2 := aO W
    generalize hX : (sY b (m + 1) h c).any P = fo at *
    refine CallOk.run FG (by simp) (Nat.le_refl _) ?_; conv => whnf
    repeat' first | ((first | refine Qz ?_ | refine Qf (cW) ?_ | refine Qy ?_) <;> conv => whnf) | (refine WB.tt ?_; conv => whnf) | (refine WB.ff ?_; conv => whnf)
    refine Rn.loop (fun t : Nat × Int => ⟨Ft b h W t.1, Fa g first caps b false (some (Ly (mX c h t.2))), .i (.i .h), none⟩) (fun t => t.1 ≤ W.length ∧ ∀ i, i < t.1 → (sY b m (h + 1) (mX c h (W.getD i 0))).any P = false) (fun t => W.length - t.1) (0, c h) ?_ ⟨Nat.zero_le _, fun i hi => absurd hi (Nat.not_lt_zero _)⟩ ?_
    · refine X.le.mk ?_ ?_ (Nat.le_refl _) rfl rfl
      · unfold Ft
        rw [← e2]
        (repeat' first | exact T.le_e _ | exact T.le_refl _ | refine T.le_some ?_ rfl ?_ | refine T.le_none ?_ ?_ | refine T.le_ee ?_ ?_)
      · rw [AP]
        show T.le (lP _ _ _ _ _ _) _
        unfold lP
        (repeat' first | exact T.le_e _ | exact T.le_refl _ | refine T.le_some ?_ rfl ?_ | refine T.le_none ?_ ?_ | refine T.le_ee ?_ ?_)
    rintro ⟨j, v⟩ ⟨hj, ha⟩
    have hj : j ≤ W.length := hj
    have ha : ∀ i, i < j → (sY b m (h + 1) (mX c h (W.getD i 0))).any P = false := ha
    show Rn Tryz.prog 36 _ ⟨Ft b h W j, Fa g first caps b false (some (Ly (mX c h v))), .i (.i .h), none⟩ _
    conv => whnf
    repeat' first | ((first | refine Qz ?_ | refine Qy ?_) <;> conv => whnf) | (refine WB.tt ?_; conv => whnf) | (refine WB.ff ?_; conv => whnf)
    refine WB.dec (fun hd => ?_) (fun hd => ?_) <;> conv => whnf
    · have hlt : j < W.length := by omega
      have C := ih (mX c h (W.getD j 0))
      cases hgo : (sY b m (h + 1) (mX c h (W.getD j 0))).any P with
      | true =>
        rw [hgo] at C
        have hX := hyes j hlt hgo
        subst hX
        clear ih hno hyes ha
        rcases sI h5 with rfl | rfl | rfl | rfl | rfl
        all_goals
          repeat' first | ((first | refine Qz ?_ | refine Qy ?_) <;> conv => whnf) | (refine WB.tt ?_; conv => whnf) | (refine WB.ff ?_; conv => whnf)
          refine WSt.ixaN rfl rfl rfl (by omega) ?_; conv => whnf
          repeat' first | ((first | refine Qz ?_ | refine Qy ?_) <;> conv => whnf) | (refine WB.tt ?_; conv => whnf) | (refine WB.ff ?_; conv => whnf)
          refine WCall.fr C ?_ (lI h1 h2 _ (by decide)) ?_ Az (by decide) (LgLe.refl _) (fun _ _ => trivial) ?_
          · show T.le (lP _ _ _ _ _ _) _
            unfold lP
            (repeat' first | exact T.le_e _ | exact T.le_refl _ | refine T.le_sameS ?_ ?_ | refine T.le_none ?_ ?_ | refine T.le_ee ?_ ?_)
          · simp [KpL, Kp, Pu, aQ, Pos.nat, wS, aS]
          conv => whnf
          repeat' first | ((first | refine Qz ?_ | refine Qy ?_) <;> conv => whnf) | (refine WB.tt ?_; conv => whnf) | (refine WB.ff ?_; conv => whnf)
          refine ⟨.inr rfl, ⟨_, rfl, .pu trivial⟩, Shr.kp ?_ (lI h1 h2 _ (by decide))⟩
          show T.le (lP _ _ _ _ _ _) (lP _ _ _ _ _ _)
          unfold lP
          (repeat' first | exact T.le_e _ | exact T.le_refl _ | refine T.le_sameS ?_ ?_ | refine T.le_none ?_ ?_ | refine T.le_ee ?_ ?_)
      | false =>
        rw [hgo] at C
        clear ih hno hyes
        rcases sI h5 with rfl | rfl | rfl | rfl | rfl
        all_goals
          repeat' first | ((first | refine Qz ?_ | refine Qy ?_) <;> conv => whnf) | (refine WB.tt ?_; conv => whnf) | (refine WB.ff ?_; conv => whnf)
          refine WSt.ixaN rfl rfl rfl (by omega) ?_; conv => whnf
          repeat' first | ((first | refine Qz ?_ | refine Qy ?_) <;> conv => whnf) | (refine WB.tt ?_; conv => whnf) | (refine WB.ff ?_; conv => whnf)
          refine WCall.fr C ?_ (lI h1 h2 _ (by decide)) ?_ Az (by decide) (LgLe.refl _) (fun _ _ => trivial) ?_
          · show T.le (lP _ _ _ _ _ _) _
            unfold lP
            (repeat' first | exact T.le_e _ | exact T.le_refl _ | refine T.le_sameS ?_ ?_ | refine T.le_none ?_ ?_ | refine T.le_ee ?_ ?_)
          · simp [KpL, Kp, Pu, aQ, Pos.nat, wS, aS]
          conv => whnf
          repeat' first | ((first | refine Qz ?_ | refine Qy ?_) <;> conv => whnf) | (refine WB.tt ?_; conv => whnf) | (refine WB.ff ?_; conv => whnf)
          refine Again.to (j + 1, W.getD j 0) (show W.length - (j + 1) < W.length - j by omega) ⟨show j + 1 ≤ W.length by omega, fun i hi => ?_⟩ (Nat.le_refl _) (Shr.kp2 ?_ (Ha (by decide)) ?_ (Gc h1 h2 _ _ (by decide)))
          · by_cases e : i = j
            · subst e; exact hgo
            · exact ha i (by have hi : i < j + 1 := hi; omega)
          · show T.le (Ft b _ W (j + 1)) _
            unfold Ft
            (repeat' first | exact T.le_e _ | exact T.le_refl _ | refine T.le_some ?_ rfl ?_ | refine T.le_none ?_ ?_ | refine T.le_ee ?_ ?_)
          · show T.le (lP _ _ _ _ _ _) (lP _ _ _ _ _ _)
            unfold lP
            (repeat' first | exact T.le_e _ | exact T.le_refl _ | refine T.le_sameS ?_ ?_ | refine T.le_none ?_ ?_ | refine T.le_ee ?_ ?_)
    · have hX := hno fun i hi => ha i (by omega)
      subst hX
      repeat' first | ((first | refine Qz ?_ | refine Qy ?_) <;> conv => whnf) | (refine WB.tt ?_; conv => whnf) | (refine WB.ff ?_; conv => whnf)
      refine ⟨.inr rfl, ⟨_, rfl, .pu trivial⟩, Shr.kp ?_ (lI h1 h2 _ (by decide))⟩
      show T.le (lP _ _ _ _ _ _) (lP _ _ _ _ _ _)
      unfold lP
      (repeat' first | exact T.le_e _ | exact T.le_refl _ | refine T.le_sameS ?_ ?_ | refine T.le_none ?_ ?_ | refine T.le_ee ?_ ?_)
end
open Go.RowKit (Below Grown)
theorem lD {α : Type} : ∀ (n : Nat) (l : List α), dP n l = l.drop n
 | 0, l => rfl
 | n + 1, [] => rfl
 | n + 1, _ :: l => lD n l
theorem Vis.nil {st : Nat} {l : List Cell} : Vis st l [] := fun k d hk => by cases hk
theorem Vis.app {st : Nat} {l : List Cell} {a b : List D} (h : Vis st l a) (k : Vis st (l.drop a.length) b) : Vis st l (a ++ b) := fun i d hi => by
 by_cases hlt : i < a.length
 ·rw [List.getElem?_append_left hlt] at hi
  exact h i d hi
 ·rw [List.getElem?_append_right (by omega)] at hi
  obtain ⟨c, h1, h2⟩ := k _ d hi
  rw [List.getElem?_drop] at h1
  exact ⟨c, by rw [<- h1]; congr 1; omega, h2⟩
theorem sN {st : Nat} : ∀ {n : Nat} {l : List Cell} {ds : List D} {r : List Cell}, uE st n l = some (ds, r) -> ds.length = n /\ Vis st l ds /\ r = l.drop n
 | 0, l, ds, r, h => by cases h; exact ⟨rfl, Vis.nil, rfl⟩
 | n + 1, [], ds, r, h => by cases h
 | n + 1, c :: l, ds, r, h => by
   unfold uE at h
   cases hc : c.has st with
   | false => rw [hc] at h; cases h
   | true =>
     rw [hc, cond_true] at h
     split at h
     ·rename_i ds' r' h1
      cases h
      obtain ⟨k1, k2, k3⟩ := sN h1
      refine ⟨by rw [List.length_cons, k1], fun k d hk => ?_, k3⟩
      cases k with
      | zero => cases hk; exact ⟨c, rfl, hc, rfl⟩
      | succ k => exact k2 k d hk
     ·cases h
theorem qJ {st z : Nat} : ∀ {n : Nat} {l : List Cell} {es : List (List D)}, wC st z n l = some es -> es.length = n /\ (∀ r ∈ es, r.length = z) /\ Vis st l es.flatten
 | 0, l, es, h => by cases h; exact ⟨rfl, (fun r hr => by cases hr), Vis.nil⟩
 | n + 1, l, es, h => by
   unfold wC at h
   split at h
   ·rename_i r l' h1
    split at h
    ·rename_i es' h2
     cases h
     obtain ⟨k1, k2, rfl⟩ := sN h1
     obtain ⟨k3, k4, k5⟩ := qJ h2
     refine ⟨by rw [List.length_cons, k3], fun q hq => ?_, ?_⟩
     ·rcases List.mem_cons.1 hq with e | hq
      ·rw [e]; exact k1
      ·exact k4 q hq
     ·rw [List.flatten_cons]
      exact k2.app (by rw [k1]; exact k5)
    ·cases h
   ·cases h
theorem wX {α β : Type} {f : α -> Option β} : ∀ {l : List α} {r : List β}, mpO f l = some r -> l.length = r.length /\ ∀ (i : Nat) (a : α), l[i]? = some a -> ∃ b, f a = some b /\ r[i]? = some b
 | [], r, h => by cases h; exact ⟨rfl, fun i a hi => by cases hi⟩
 | a :: l, r, h => by
   unfold mpO at h
   split at h
   ·rename_i b hb
    split at h
    ·rename_i r' hr
     cases h
     obtain ⟨k1, k2⟩ := wX hr
     refine ⟨by simp [k1], fun i x hi => ?_⟩
     cases i with
     | zero => cases hi; exact ⟨b, hb, rfl⟩
     | succ i => exact k2 i x hi
    ·cases h
   ·cases h
theorem hJ {α β : Type} {f : α -> Option β} {a : α} {l : List α} {r : List β} (h : mpO f (a :: l) = some r) : ∃ b r', f a = some b /\ mpO f l = some r' /\ r = b :: r' := by
 unfold mpO at h
 split at h
 ·rename_i b hb
  split at h
  ·rename_i r' hr
   cases h
   exact ⟨b, r', hb, hr, rfl⟩
  ·cases h
 ·cases h
section
variable {B : Pos -> Prop} {ob : T C}
theorem mZ {f : D -> Option D} (hf : ∀ d e, f d = some e -> Fz B ob d e) : ∀ {l r : List D}, mpO f l = some r -> FzL B ob l r
 | [], r, h => by cases h; exact .nil
 | a :: l, r, h => by
   obtain ⟨b, r', h1, h2, rfl⟩ := hJ h
   exact .cons (hf _ _ h1) (mZ hf h2)
theorem uH {f : D -> Option D} (hf : ∀ d e, f d = some e -> Fz B ob d e) : ∀ {l r : List (List D)}, mpO (mpO f) l = some r -> FzE B ob l r
 | [], r, h => by cases h; exact .nil
 | a :: l, r, h => by
   obtain ⟨b, r', h1, h2, rfl⟩ := hJ h
   exact .cons (mZ hf h1) (uH hf h2)
theorem pK {f : D -> Option D} (hf : ∀ d e, f d = some e -> Pu e) : ∀ {l r : List D}, mpO f l = some r -> aQ r
 | [], r, h => by cases h; trivial
 | a :: l, r, h => by
   obtain ⟨b, r', h1, h2, rfl⟩ := hJ h
   unfold aQ
   exact ⟨hf _ _ h1, pK hf h2⟩
theorem tK {f : D -> Option D} (hf : ∀ d e, f d = some e -> Pu e) : ∀ {l r : List (List D)}, mpO (mpO f) l = some r -> dG r
 | [], r, h => by cases h; trivial
 | a :: l, r, h => by
   obtain ⟨b, r', h1, h2, rfl⟩ := hJ h
   unfold dG
   exact ⟨pK hf h1, tK hf h2⟩
theorem yP (hB : ∀ id, ¬ B id) : ∀ {n : Nat} {d e : D}, DA ob n d = some e -> Fz B ob d e /\ Pu e
 | 0, _, _, h => by cases h
 | n + 1, d, e, h => by
   have i1 : ∀ d e, DA ob n d = some e -> Fz B ob d e := fun _ _ h => (yP hB h).1
   have i2 : ∀ d e, DA ob n d = some e -> Pu e := fun _ _ h => (yP hB h).2
   unfold DA at h
   cases d
   case sl id off len st z =>
    dsimp only at h
    split at h
    ·rename_i ro cs cur hc
     split at h
     ·rename_i es hes
      split at h
      ·rename_i fs hfs
       cases h
       obtain ⟨k1, k2, k3⟩ := qJ hes
       rw [lD] at k3
       exact ⟨.sl (hB id) hc k1 k2 k3 (uH i1 hfs), by unfold Pu; exact tK i2 hfs⟩
      ·cases h
     ·cases h
    ·cases h
   case lst z es =>
    dsimp only at h
    split at h
    ·rename_i fs hfs
     cases h
     exact ⟨.lst (uH i1 hfs), by unfold Pu; exact tK i2 hfs⟩
    ·cases h
   case ag cs =>
    dsimp only at h
    split at h
    ·rename_i fs hfs
     cases h
     exact ⟨.ag (mZ i1 hfs), by unfold Pu; exact pK i2 hfs⟩
    ·cases h
   case tp cs =>
    dsimp only at h
    split at h
    ·rename_i fs hfs
     cases h
     exact ⟨.tp (mZ i1 hfs), by unfold Pu; exact pK i2 hfs⟩
    ·cases h
   all_goals first | (cases h; done) | (cases h; exact ⟨.pu (by unfold Pu; trivial), by unfold Pu; trivial⟩)
end
def EF (ob : T C) : Nat -> D -> Option D
 | 0, _ => none
 | n + 1, d => match d with
   | .sl id off len st z => match ob.get id with
     | some (.cells _ cs _) => match wC st z len (dP off cs) with
       | some es => match mpO (mpO (EF ob n)) es with
         | some fs => some (.lst z fs)
         | none => none
       | none => none
     | _ => none
   | .ag cs => match mpO (EF ob n) cs with
     | some ds => some (.ag ds)
     | none => none
   | .tp cs => match mpO (EF ob n) cs with
     | some ds => some (.tp ds)
     | none => none
   | .b x => some (.b x)
   | .i k n => some (.i k n)
   | .ns => some .ns
   | .em => some .em
   | .np => some .np
   | .nf => some .nf
   | .nm => some .nm
   | _ => none
section
variable {P : Program} {γ γ' : Gh} {w : World} {ob : T C}
theorem pN {f : D -> Option D} (hf : ∀ d e, f d = some e -> ∀ v, DV γ w d v -> DV γ' w e v) : ∀ {l r : List D}, mpO f l = some r -> ∀ vs, DVL γ w l vs -> DVL γ' w r vs
 | [], r, h, vs, H => by cases h; unfold DVL at *; exact H
 | a :: l, r, h, vs, H => by
   obtain ⟨b, r', h1, h2, rfl⟩ := hJ h
   unfold DVL at H ⊢
   obtain ⟨v, r, rfl, h4, h5⟩ := H
   exact ⟨v, r, rfl, hf _ _ h1 _ h4, pN hf h2 _ h5⟩
theorem yW {f : D -> Option D} {z : Nat} (hf : ∀ d e, f d = some e -> ∀ v, DV γ w d v -> DV γ' w e v) : ∀ {l r : List (List D)}, mpO (mpO f) l = some r -> ∀ vs, DVE γ w z l vs -> DVE γ' w z r vs
 | [], r, h, vs, H => by cases h; unfold DVE; trivial
 | a :: l, r, h, vs, H => by
   obtain ⟨b, r', h1, h2, rfl⟩ := hJ h
   unfold DVE at H ⊢
   exact ⟨by rw [<- (wX h1).1]; exact H.1, pN hf h1 _ H.2.1, yW hf h2 _ H.2.2⟩
theorem xS (hob : ∀ id c, ob.get id = some c -> HoldsO P γ w id c) (hown : ∀ id st vs e fr, st < γ.cur id -> w.heap[(γ.β id st).1]? = some (.cells vs e fr) -> γ'.im (γ.β id st).1) : ∀ {n : Nat} {d e : D}, EF ob n d = some e -> ∀ v, DV γ w d v -> DV γ' w e v
 | 0, _, _, h => by cases h
 | n + 1, d, e, h => by
   have ih : ∀ d e, EF ob n d = some e -> ∀ v, DV γ w d v -> DV γ' w e v := fun _ _ h => xS hob hown h
   unfold EF at h
   cases d
   case sl id off len st z =>
    dsimp only at h
    split at h
    ·rename_i ro cs cur hg
     split at h
     ·rename_i es hes
      split at h
      ·rename_i fs hfs
       cases h
       obtain ⟨hl, hz, hv⟩ := qJ hes
       rw [lD] at hv
       intro v H
       obtain ⟨e1, e2, cap, e, n, rfl, e4, e5, e6⟩ := hF H
       have hfl := (wX hfs).1
       obtain ⟨vs, e', fr, k1, k2, k3, k4⟩ := oB (hob id _ hg) e1 e2 hv
       have hlen : es.flatten.length = es.length * z := by
        clear hv ih k2 k3 k4 hfl hl hfs hes
        induction es with
        | nil => simp
        | cons r es ih => simp [ih (fun r h => hz r (by simp [h])), hz r (by simp), Nat.add_mul]; omega
       have hsz : off - (γ.β id st).2 + es.length * z <= vs.size := by
        have h1 : w.shape? (γ.β id st).1 = some (e', vs.size) := bY k1
        rw [h1] at e5
        cases e5
        have : es.length * z <= cap * z := Nat.mul_le_mul_right z (by omega)
        omega
       unfold DV
       refine ⟨_, cap, by rw [<- hfl, hl], by omega, (fun h => by cases h), .inr ⟨_, _, vs, e', fr, hown id st _ _ _ e1 k1, k1, rfl, by rw [<- hfl]; exact hsz, ?_, ?_⟩⟩
       ·refine yW ih hfs _ (jG hz ?_)
        rw [<- hlen]
        exact k3
       ·rw [<- hfl, <- hlen]; exact k4
      ·cases h
     ·cases h
    ·cases h
   case ag cs =>
    dsimp only at h
    split at h
    ·rename_i fs hfs
     cases h
     intro v H
     obtain ⟨vs, rfl, h2, h3⟩ := mU H
     unfold DV
     exact ⟨vs, rfl, pN ih hfs _ h2, h3⟩
    ·cases h
   case tp cs =>
    dsimp only at h
    split at h
    ·rename_i fs hfs
     cases h
     intro v H
     obtain ⟨vs, rfl, h2⟩ := qO H
     unfold DV
     exact ⟨vs, rfl, pN ih hfs _ h2⟩
    ·cases h
   all_goals first | (cases h; done) | (cases h; intro v H; unfold DV at *; exact H)
end
theorem MemOk.of {P : Program} {f : FuncId} {es : List D} {v v' : D} {ob' : T C} {nx' : Pos} {lg' : Option (T Bool)} (K : CallOk P f es .e .h none v ob' nx' lg') (hz : EF ob' 12 v = some v') : MemOk P f es v' := by
 intro ob1 ds ob nx lg lg2 hds hle hl ht
 refine ⟨hl, Nat.le_refl _, Keeps.refl _ _, fun so hs γ args w gh hargs hob hnx => ?_⟩
 let γs : Gh := ⟨fun _ => 0, fun _ _ => (0, 0), fun b => γ.im b \/ ((∃ id st, st < γ.cur id /\ (γ.β id st).1 = b) /\ ∃ vs e fr, w.heap[b]? = some (.cells vs e fr))⟩
 have hargs' : DVL γs w es args.toList := by
  have h1 : DV γ w (.tp ds) (.tuple args) := by unfold DV; exact ⟨args, rfl, hargs⟩
  have h2 := Fz.ok (γ := γ) (γ' := γs) (B := fun _ => False) (fun b hb => .inl hb) (fun id c hc => hob id c (hs id (ht id c hc)) (hle id c hc)) (fun _ h => h.elim) (fun id st vs e fr _ hst hc => .inr ⟨⟨id, st, hst, rfl⟩, vs, e, fr, hc⟩) (.tp (mZ (fun d e h => (yP (fun _ h => h) h).1) hds)) _ h1
  obtain ⟨vs, e, h3⟩ := qO h2
  cases e
  exact h3
 obtain ⟨c1, c2⟩ := K.ok (fun _ => True) (fun _ _ => trivial) γs args w ⟨fun _ st h => absurd h (Nat.not_lt_zero st), fun _ st _ _ h => absurd h (Nat.not_lt_zero st), fun b hb => ⟨by
  rcases hb with hb | hb
  ·exact (gh.im b hb).1
  ·exact hb.2, fun _ st h => absurd h (Nat.not_lt_zero st)⟩, gh.gl.im fun _ h => .inl h⟩ hargs' (fun id c _ hc => by rw [T.get_e] at hc; cases hc) (fun _ _ _ => rfl)
 refine ⟨c1, fun ro m R hR => c2 ro m R fun γ' w' u gh' F hu hob' _ => ?_⟩
 have hb : ∀ b, b < w.heap.size -> w'.heap[b]? = w.heap[b]? := fun b hb => F.blk b hb fun id st _ hst => absurd hst (Nat.not_lt_zero st)
 have hnew : ∀ id st, st < γ'.cur id -> w.heap.size <= (γ'.β id st).1 := fun id st hst => by
  rcases F.new id st (Nat.zero_le _) hst with h | ⟨gB, h, _⟩
  ·exact h
  ·exact absurd h (Nat.not_lt_zero gB)
 let γ2 : Gh := ⟨γ.cur, γ.β, fun b => γ.im b \/ ((∃ id st, st < γ'.cur id /\ (γ'.β id st).1 = b) /\ ∃ vs e fr, w'.heap[b]? = some (.cells vs e fr))⟩
 have U : Up γ γ2 w w' := ⟨fun _ => Nat.le_refl _, fun _ _ _ => rfl, F.up.3, fun b hm => ⟨.inl hm, fun o ho => by rw [hb b (Array.getElem?_eq_some_iff.1 ho).1]; exact ho⟩⟩
 have U0 : Up γ γ w w' := ⟨fun _ => Nat.le_refl _, fun _ _ _ => rfl, F.up.3, fun b hm => ⟨hm, fun o ho => by rw [hb b (Array.getElem?_eq_some_iff.1 ho).1]; exact ho⟩⟩
 refine hR γ2 w' u ⟨fun id st hst => Nat.lt_of_lt_of_le (gh.ob id st hst) F.size, gh.inj, fun b hm => ?_, (gh.gl.up U0).im fun _ h => .inl h⟩ ⟨U, fun _ _ => rfl, fun b h1 _ => hb b h1, fun _ _ h1 h2 => absurd h2 (by show ¬ _ < γ.cur _; omega), fun b hm hlt => ?_, F.lp, F.size, F.os, F.tape, F.output, F.fz⟩
  (xS (γ := γ') (γ' := γ2) (fun id c hc => hob' id c trivial hc) (fun id st vs e fr hst hc => .inr ⟨⟨id, st, hst, rfl⟩, vs, e, fr, hc⟩) hz u hu)
  (fun id c hid hc => HoldsO.mono U rfl (fun st hst => hb _ (gh.ob id st hst)) (hob id c hid hc)) hnx
 ·rcases hm with hm | ⟨⟨id', st', h1, h2⟩, h3⟩
  ·refine ⟨let ⟨⟨vs, e, fr, k1⟩, _⟩ := gh.im b hm; ⟨vs, e, fr, (U0.im b hm).2 _ k1⟩, (gh.im b hm).2⟩
  ·refine ⟨h3, fun id st hst e => ?_⟩
   have hlt := gh.ob id st hst
   have e : (γ.β id st).1 = b := e
   have := hnew id' st' h1
   omega
 ·rcases hm with hm | ⟨⟨id', st', h1, h2⟩, h3⟩
  ·exact hm
  ·have := hnew id' st' h1
   omega
def dW (P : Program) (FP : T RF) (n : Nat) (f : Pos) (es : List D) : Option D :=
 match qU FP (exec P FP n) f es .e .h none (fun v ob nx lg => match EF ob 12 v with
  | some d => some ⟨T.set .h d .e, .e, .h, none⟩
  | none => none) with
 | some y => y.sl.get .h
 | none => none
theorem MemOk.run {P : Program} {FP : T RF} (hFP : FPok P FP) {n : Nat} {f : Pos} {es : List D} {v : D} (h : dW P FP n f es = some v) : MemOk P f.ix es v := by
 unfold dW at h
 split at h
 ·rename_i y hy
  obtain ⟨v', ob', nx', lg', h1, C⟩ := hT hFP (pD hFP n).1 hy
  split at h1
  ·rename_i d hd
   cases h1
   rw [T.get_set_same] at h
   cases h
   exact MemOk.of C hd
  ·cases h1
 ·cases h
theorem Cu {x1 x2 x3 x4 x5 y1 y2 y3 y4 y5 : Option C} : Beside (.o (.i .h)) (lP y1 y2 y3 y4 y5 none) (.n (.n (.n .e x4 .e) x2 .e) x1 (.n (.n .e x5 .e) x3 .e)) (lP y1 y2 y3 y4 y5 none) := by
 refine ⟨fun id c' hid hc => hc, fun id hle => ?_⟩
 cases id with
 | h => exact absurd hle (by decide)
 | o p => cases p with
   | h => exact absurd hle (by decide)
   | o q => cases q with
     | h => exact absurd hle (by decide)
     | o r => rfl
     | i r => rfl
   | i q => cases q with
     | h => rfl
     | o r => rfl
     | i r => rfl
 | i p => cases p with
   | h => exact absurd hle (by decide)
   | o q => cases q with
     | h => exact absurd hle (by decide)
     | o r => rfl
     | i r => rfl
   | i q => rfl
def Cj : Nat -> Int := fun _ => 0
def hrs (b : Bh) : Nat := (b.last + 1).toNat
def uU (b : Bh) : List (Nat -> Int) := sY b (hrs b) 0 Cj
section
variable {g : Pos} {first caps : List D} {b : Bh} {P : (Nat -> Int) -> Bool}
theorem AL (h1 : aQ first) (h2 : aQ caps) (hg : ∀ c, PureF Tryz.prog g.ix (first ++ ([.ag (wS c)] ++ caps)) (.b (P c))) (V : VW b) (l1 : ∀ w ∈ b.winds, w.length <= 1000) (l2 : b.nts.length <= 1000) :
 CallOk Tryz.prog p147.ix [.yl (.i .h), .pl (eF b) 0] (Ek g first caps b false) (.o (.o .h)) none (.tp []) (Ek g first caps b ((uU b).any P)) (.o (.o .h)) none := by
 have hv := V.last
 have C := vZ h1 h2 hg V l1 l2 (hrs b) 0 (by unfold hrs; omega) Cj
 have C : CallOk Tryz.prog p148.ix [.ag (wS Cj), .i .i64 0, .pl (eF b) 0, .pt (.o (.o .h)) 0 0, .pt (.i (.o .h)) 0 0] (Fa g first caps b false none) (.o (.i .h)) none (.b (!(uU b).any P)) (Fa g first caps b ((uU b).any P) none) (.o (.i .h)) none := C
 refine CallOk.run Lm (by simp) (Nat.le_refl _) ?_; conv => whnf
 refine Qg ?_
 refine WCall.fr C ?_ (lI h1 h2 _ (by decide)) ?_ Cu (Nat.le_refl _) (LgLe.refl _) (fun _ _ => trivial) ?_
 ·show T.le (lP _ _ _ _ _ _) _
  unfold lP
  (repeat' first | exact T.le_e _ | exact T.le_refl _ | refine T.le_sameS ?_ ?_ | refine T.le_none ?_ ?_ | refine T.le_ee ?_ ?_)
 ·simp [KpL, Kp, Pu, aQ, Pos.nat, wS, aS]
 conv => whnf
 refine Qg ?_
 refine ⟨.inl rfl, ⟨_, rfl, .pu trivial⟩, Shr.kp ?_ (tV h1 h2 _ (by decide))⟩
 show T.le (DM _ _ _) (lP _ _ _ _ _ _)
 unfold DM lP
 (repeat' first | exact T.le_e _ | exact T.le_refl _ | refine T.le_sameS ?_ ?_ | refine T.le_none ?_ ?_ | refine T.le_ee ?_ ?_)
theorem Gf (h1 : aQ first) (h2 : aQ caps) (hg : ∀ c, PureF Tryz.prog g.ix (first ++ ([.ag (wS c)] ++ caps)) (.b (P c))) (V : VW b) (l1 : ∀ w ∈ b.winds, w.length <= 1000) (l2 : b.nts.length <= 1000) :
 PureF Tryz.prog p118.ix [.fn p147 [] [.pl (eF b) 0], .fn g first caps] (.b ((uU b).any P)) := by
 have C := AL h1 h2 hg V l1 l2
 refine PureF.run HF (by simp) (by simp [aQ, dG, Pu, aS, h1, h2]) ?_; conv => whnf
 refine Qg ?_
 refine Rn.le (a := ⟨Hw g first caps b, DM (some (Ll g first caps)) (some (HU false)) none, .i .h, none⟩) ?_ ?_
 ·cases hP : (uU b).any P with
  | true =>
    rw [hP] at C
    refine Rn.rf rfl rfl C rfl (by simp) ?_; conv => whnf
    refine Qg ?_
    exact ⟨.inr rfl, _, rfl, .pu trivial⟩
  | false =>
    rw [hP] at C
    refine Rn.rf rfl rfl C rfl (by simp) ?_; conv => whnf
    refine Qg ?_
    exact ⟨.inr rfl, _, rfl, .pu trivial⟩
 ·refine X.le.mk ?_ ?_ (by simp [Pos.nat]) rfl rfl
  ·unfold Hw
   exact Lw
  ·unfold DM
   exact Lw
end
theorem Eb (b : Bh) : PureF Tryz.prog p119.ix [.ag (eF b)] (.fn p147 [] [.pl (eF b) 0]) := by
 refine PureF.run In (by simp) (by simp [aQ, Pu, aS]) ?_; conv => whnf
 refine Qg ?_
 refine Fin.t (.inr rfl) rfl ?_
 exact .fn .nil (.cons (Frz.ptr rfl rfl (by simp [eF]) (aS b)) .nil)
theorem Gp (c : Nat -> Int) : PureF Tryz.prog p143.ix [.ag (wS c)] (.b true) := by
 refine PureF.run Id (by simp) (by simp [aQ, Pu, JZ]) ?_; conv => whnf
 refine Qg ?_
 exact Fin.b rfl rfl
def kL (b : Bh) : Bool := (uU b).any fun _ => true
theorem yV (b : Bh) (V : VW b) (l1 : ∀ w ∈ b.winds, w.length <= 1000) (l2 : b.nts.length <= 1000) : PureF Tryz.prog p111.ix [.ag (eF b)] (.b (kL b)) := by
 have c1 := Eb b
 have c2 := Gf (g := p143) (first := []) (caps := []) (P := fun _ => true) trivial trivial (fun c => Gp c) V l1 l2
 refine PureF.run JU (by simp) (by simp [aQ, Pu, aS]) ?_; conv => whnf
 repeat' ((first | refine Qw ?_ | refine Qf c1 ?_ | refine Qf c2 ?_ | refine Qv ?_) <;> conv => whnf)
 exact Fin.b rfl rfl
def KV (c : Nat -> Int) : List Int := [c 0, c 1, c 2, c 3, c 4]
theorem WCall.borrow1 {P : Program} {f : Nat} {ds ds' : List D} {v : D} (h : PureF P f ds' v) (id : Pos) (c : C) {sl : T D} {ob : T C} {nx : Pos} {lg lg2 : Option (T Bool)} {d : Option Pos} {K : X -> Prop} (hz : FzL (fun _ => False) (T.set id c .e) ds ds') (hv : gF v) (hid : ob.get id = some c) (hlg2 : Nz lg id = lg2) (k : lO sl ob nx lg2 d K v) : WCall P f ds d ⟨sl, ob, nx, lg⟩ K := by
 subst hlg2
 have hone : (T.set id c .e).get id = some c := T.get_set_same _ _ _
 have C := PureF.borrowL h (ob := ob) (ob1 := T.set id c .e) (ds := ds) hz (fun j c' hc => by
  by_cases e : j = id
  ·subst e; rw [hone] at hc; rw [<- hc]; exact hid
  ·rw [T.get_set_ne e _ _, T.get_e] at hc; cases hc) hv nx (GC lg id) (fun j c' hc => by
  by_cases e : j = id
  ·subst e; exact (Jp lg j).tchd
  ·rw [T.get_set_ne e _ _, T.get_e] at hc; cases hc)
 cases d with
 | none => exact ⟨_, _, _, _, _, C, rfl, k⟩
 | some d =>
   obtain ⟨h1, h2⟩ := bC k
   exact ⟨_, _, _, _, _, C, h1, h2⟩
def Fj (b : Bh) (l : List Int) : Bool := (uU b).any fun c => decide ((KV c).take (hrs b) = l)
theorem mA {b : Bh} : ∀ {m h : Nat} {c c' : Nat → Int}, c' ∈ sY b m h c ↔ (∀ i, h ≤ i → i < h + m → c' i ∈ aH b i) ∧ ∀ i, (i < h ∨ h + m ≤ i) → c' i = c i
  | 0, h, c, c' => by
    unfold sY
    rw [List.mem_singleton]
    constructor
    · rintro rfl; exact ⟨fun i h1 h2 => absurd h2 (by omega), fun _ _ => rfl⟩
    · rintro ⟨_, k⟩
      exact funext fun i => k i (by omega)
  | m + 1, h, c, c' => by
    unfold sY
    rw [List.mem_flatMap]
    constructor
    · rintro ⟨f, hf, hc⟩
      obtain ⟨k1, k2⟩ := mA.1 hc
      refine ⟨fun i h1 h2 => ?_, fun i hi => ?_⟩
      · by_cases e : i = h
        · subst e; rw [k2 i (by omega), sT]; exact hf
        · exact k1 i (by omega) (by omega)
      · rw [k2 i (by omega), tT _ _ (by omega)]
    · rintro ⟨k1, k2⟩
      refine ⟨c' h, k1 h (by omega) (by omega), mA.2 ⟨fun i h1 h2 => k1 i (by omega) (by omega), fun i hi => ?_⟩⟩
      by_cases e : i = h
      · subst e; rw [sT]
      · rw [tT _ _ e]; exact k2 i (by omega)
structure TruP (b : Bh) (l : List Int) : Prop where
  len : l.length = hrs b
  mem : ∀ i, i < hrs b → l.getD i 0 ∈ aH b i
theorem An (c : Nat → Int) {i : Nat} (h : i < 5) : (KV c).getD i 0 = c i := by
  rcases sI h with rfl | rfl | rfl | rfl | rfl <;> rfl
theorem sK {l : List Int} {n i : Nat} (h : i < n) : (l.take n).getD i 0 = l.getD i 0 := by
  simp [List.getD, h]
theorem gE (l : List Int) {i : Nat} (h : i < l.length) : l[i] = l.getD i 0 := by simp [List.getD, h]
theorem pL {b : Bh} (V : VW b) {l : List Int} : Fj b l = true ↔ TruP b l := by
  have hv := V.last
  have hn : hrs b ≤ 5 := by unfold hrs; omega
  unfold Fj uU
  rw [List.any_eq_true]
  constructor
  · rintro ⟨c, hc, e⟩
    have e := of_decide_eq_true e
    subst e
    obtain ⟨k1, _⟩ := mA.1 hc
    refine ⟨by simp [KV]; omega, fun i hi => ?_⟩
    rw [sK hi, An c (by omega)]
    exact k1 i (Nat.zero_le _) (by omega)
  · rintro ⟨h1, h2⟩
    refine ⟨fun i => if i < hrs b then l.getD i 0 else 0, mA.2 ⟨fun i _ hi => ?_, fun i hi => ?_⟩, decide_eq_true ?_⟩
    · have hi : i < hrs b := by omega
      show (if i < hrs b then l.getD i 0 else 0) ∈ _
      rw [if_pos hi]; exact h2 i hi
    · have hi : ¬ i < hrs b := by omega
      show (if i < hrs b then l.getD i 0 else 0) = 0
      rw [if_neg hi]
    · refine List.ext_getElem (by simp [KV]; omega) fun i a1 a2 => ?_
      rw [gE _ a1, gE _ a2, sK (by omega), An _ (by omega), if_pos (by omega)]
theorem fX {b : Bh} {i : Nat} {f : Int} : f ∈ aH b i ↔ f ∈ b.winds.getD i default ∧ ∀ n ∈ b.nts, n.1 = (i : Int) → n.2 = f := by
  unfold aH
  rw [List.mem_filter, List.all_eq_true]
  constructor
  · rintro ⟨a, k⟩
    exact ⟨a, fun n hn e => by rcases of_decide_eq_true (k n hn) with h | h; exact absurd e h; exact h⟩
  · rintro ⟨a, k⟩
    exact ⟨a, fun n hn => decide_eq_true (by by_cases e : n.1 = (i : Int); exact .inr (k n hn e); exact .inl e)⟩
def yA (b : Bh) (t : List Int) : Bool := decide (t.length = b.winds.length) && (List.range t.length).all fun i => FY (b.winds.getD i default) (t.getD i 0)
def Gz (b : Bh) (t : List Int) : Bool := yA b t && b.nts.all fun n => decide (t.getD n.1.toNat 0 = n.2)
theorem rC {l : List Int} {n : Int} : FY l n = true ↔ n ∈ l := by
  unfold FY
  rw [List.any_eq_true]
  constructor
  · rintro ⟨x, hx, e⟩; rw [← of_decide_eq_true e]; exact hx
  · intro h; exact ⟨n, h, decide_eq_true rfl⟩
theorem uM {b : Bh} {t : List Int} : yA b t = true ↔ t.length = b.winds.length ∧ ∀ i, i < b.winds.length → t.getD i 0 ∈ b.winds.getD i default := by
  unfold yA
  rw [Bool.and_eq_true, decide_eq_true_iff, List.all_eq_true]
  constructor
  · rintro ⟨a, k⟩
    exact ⟨a, fun i hi => rC.1 (k i (List.mem_range.2 (by omega)))⟩
  · rintro ⟨a, k⟩
    exact ⟨a, fun i hi => rC.2 (k i (by have := List.mem_range.1 hi; omega))⟩
theorem VW.hrs {b : Bh} (V : VW b) : Go.Ev.hrs b = b.winds.length := by
  have := V.last; have := V.winl
  unfold Go.Ev.hrs; omega
theorem vW {b : Bh} (V : VW b) {t : List Int} : Gz b t = true ↔ TruP b t := by
  unfold Gz
  rw [Bool.and_eq_true, uM, List.all_eq_true]
  have hh := V.hrs
  have hv := V.last
  constructor
  · rintro ⟨⟨a, k⟩, q⟩
    refine ⟨by omega, fun i hi => fX.2 ⟨k i (by omega), fun n hn e => ?_⟩⟩
    have := of_decide_eq_true (q n hn)
    rw [e] at this
    exact this.symm
  · rintro ⟨a, k⟩
    refine ⟨⟨by omega, fun i hi => (fX.1 (k i (by omega))).1⟩, fun n hn => decide_eq_true ?_⟩
    have hb := uS hv (List.all_eq_true.1 V.nts n hn)
    have hb2 := bJ (by have := List.all_eq_true.1 V.nts n hn; unfold gI at this; rw [Bool.and_eq_true] at this; exact this.1)
    have hi : n.1.toNat < Go.Ev.hrs b := by unfold Go.Ev.hrs; omega
    exact ((fX.1 (k _ hi)).2 n hn (by omega)).symm
theorem WSt.ixaP {sl : T D} {ob : T C} {nx : Pos} {lg : Option (T Bool)} {K : X → Prop} {d : Pos} {len z off m : Nat} {k : IntKind} {x i : RX} {n : Int} {r : List D} (hx : bH sl x = some (.pl r off)) (hi : bH sl i = some (.i k n)) (hn : n = (m : Int)) (hm : m < len) (h : eB sl ob nx lg d K (.pl r (off + m * z))) : WSt (.ixa d len z x i) ⟨sl, ob, nx, lg⟩ K := by
  obtain ⟨h2, h3⟩ := bC h
  refine ⟨_, ?_, h3⟩
  show oI d len z x i sl ob nx lg = _
  unfold oI
  rw [hx, hi, hn]
  have e : Da (m : Int) len = some m := by
    show (bif Nat.blt m len then some m else none) = _
    rw [show Nat.blt m len = true from Nat.ble_eq_true_of_le hm]
    rfl
  simp only [e, bE]
  exact h2
def yT (l : List (Int × Int)) (p : Int × Int) : Bool := l.any fun q => decide (p.1 = q.1 ∧ p.2 = q.2)
def CV (p : Int × Int) : Prop := i64 p.1 ∧ i64 p.2
theorem EM (l : List (Int × Int)) (p : Int × Int) (hl : l.length ≤ 1000) (hp : CV p) (hq : ∀ q ∈ l, CV q) : ∃ v, (∃ n : Int, v = .i .i64 n ∧ decide (0 ≤ n) = yT l p) ∧ PureF Tryz.prog p162.ix [.lst 2 (aD bD l), .ag (bD p)] v := by
  have e1 := aM bD l
  refine PureF.runE IF (by simp) (by simp [aQ, dG, Pu, aG, bD]) ?_; conv => whnf
  repeat' first | ((first | refine Qz ?_ | refine Qy ?_) <;> conv => whnf) | (refine WB.tt ?_; conv => whnf) | (refine WB.ff ?_; conv => whnf)
  refine Rn.loop (fun j : Nat => ⟨(.n (.n (.n (.n .e (some (.i .i64 (l.length : Int))) .e) (some (.pt .h 0 0)) .e) none .e) (some (.lst 2 (aD bD l))) (.n (.n (.n .e (some (.i .i64 (j : Int))) .e) none .e) none .e)), .n .e (some (.cells false ((bD p).map fun d => Cell.o d 0) 1)) .e, .o .h, none⟩) (fun j => j ≤ l.length ∧ (l.take j).any (fun q => decide (p.1 = q.1 ∧ p.2 = q.2)) = false) (fun j => l.length - j) 0 ?_ ⟨Nat.zero_le _, by simp⟩ ?_
  · refine X.le.mk ?_ ?_ (Nat.le_refl _) rfl rfl
    all_goals (try rw [← e1])
    all_goals (repeat' first | exact T.le_e _ | exact T.le_refl _ | refine T.le_some ?_ rfl ?_ | refine T.le_none ?_ ?_ | refine T.le_ee ?_ ?_)
  rintro j ⟨hj, ha⟩
  conv => whnf
  repeat' first | ((first | refine Qz ?_ | refine Qy ?_) <;> conv => whnf) | (refine WB.tt ?_; conv => whnf) | (refine WB.ff ?_; conv => whnf)
  refine WB.dec (fun h => ?_) (fun h => ?_) <;> conv => whnf
  · have hlt : j < l.length := by omega
    have hqj := hq _ (aL (d := default) hlt)
    repeat' first | ((first | refine Qz ?_ | refine Qy ?_) <;> conv => whnf) | (refine WB.tt ?_; conv => whnf) | (refine WB.ff ?_; conv => whnf)
    refine WSt.eqr2 (a := p.1) (b := p.2) (a' := (l.getD j default).1) (b' := (l.getD j default).2) rfl rfl (rT hp.1) (rT hp.2) (rT hqj.1) (rT hqj.2) ?_; conv => whnf
    repeat' first | ((first | refine Qz ?_ | refine Qy ?_) <;> conv => whnf) | (refine WB.tt ?_; conv => whnf) | (refine WB.ff ?_; conv => whnf)
    refine WB.dec (fun h2 => ?_) (fun h2 => ?_) <;> conv => whnf
    · repeat' first | ((first | refine Qz ?_ | refine Qy ?_) <;> conv => whnf) | (refine WB.tt ?_; conv => whnf) | (refine WB.ff ?_; conv => whnf)
      refine ⟨_, ⟨(j : Int), rfl, ?_⟩, Fin.i rfl rfl⟩
      rw [decide_eq_true (by omega)]
      exact (DY (d := default) hlt (decide_eq_true h2)).symm
    · repeat' first | ((first | refine Qz ?_ | refine Qy ?_) <;> conv => whnf) | (refine WB.tt ?_; conv => whnf) | (refine WB.ff ?_; conv => whnf)
      refine Again.to (j + 1) (by omega) ⟨by omega, by rw [rI (d := default) hlt, ha, decide_eq_false h2]; rfl⟩ (Nat.le_refl _) ?_
      refine Shr.of ?_ ?_ rfl rfl
      · show Rel _ _ ((.n (.n (.n (.n .e (some (.i .i64 (l.length : Int))) .e) (some (.pt .h 0 0)) .e) none .e) (some (.lst 2 (aD bD l))) (.n (.n (.n .e (some (.i .i64 ((j + 1 : Nat) : Int))) .e) none .e) none .e)) : T D) _
        (repeat' first | exact Rel.e | refine Rel.some ?_ ?_ ?_ | refine Rel.none ?_ ?_ | refine Rel.ee ?_ ?_)
        all_goals show Fz _ _ _ _
        all_goals first | exact .pu trivial | exact .pu (aG _) | exact .kpt (show _ < 2 by simp [Pos.nat])
      · show Rel _ _ (.n .e (some (.cells false ((bD p).map fun d => Cell.o d 0) 1)) .e : T C) _
        (repeat' first | exact Rel.e | refine Rel.some ?_ ?_ ?_ | refine Rel.none ?_ ?_ | refine Rel.ee ?_ ?_)
        all_goals exact RO'.of (show _ < 2 by simp [Pos.nat]) (ShC.same (ShC.cn (.pu trivial) (ShC.cn (.pu trivial) ShC.nl)))
  · obtain rfl : j = l.length := by omega
    repeat' first | ((first | refine Qz ?_ | refine Qy ?_) <;> conv => whnf) | (refine WB.tt ?_; conv => whnf) | (refine WB.ff ?_; conv => whnf)
    refine ⟨_, ⟨-1, rfl, ?_⟩, Fin.i rfl rfl⟩
    rw [decide_eq_false (by omega)]
    exact (Bs ha).symm
theorem yE (l : List (Int × Int)) (p : Int × Int) (hl : l.length ≤ 1000) (hp : CV p) (hq : ∀ q ∈ l, CV q) : PureF Tryz.prog p160.ix [.lst 2 (aD bD l), .ag (bD p)] (.b (yT l p)) := by
  obtain ⟨v, ⟨n, rfl, hn⟩, C⟩ := EM l p hl hp hq
  refine PureF.run Lb (by simp) (by simp [aQ, dG, Pu, aG, bD]) ?_; conv => whnf
  repeat' first | ((first | refine Qz ?_ | refine Qf (C) ?_ | refine Qy ?_) <;> conv => whnf) | (refine WB.tt ?_; conv => whnf) | (refine WB.ff ?_; conv => whnf)
  exact Fin.b rfl hn
def xL (d : Int) : Int := Int.tmod (d + 2) 4
theorem Gd {d : Int} (h : 0 ≤ d ∧ d ≤ 3) : 0 ≤ xL d ∧ xL d ≤ 3 := by
  have := Int.tmod_nonneg 4 (show 0 ≤ d + 2 by omega)
  have := Int.tmod_lt_of_pos (d + 2) (show (0 : Int) < 4 by omega)
  unfold xL; omega
theorem yJ (d : Int) (h : 0 ≤ d ∧ d ≤ 3) : PureF Tryz.prog p149.ix [.i .i64 d] (.i .i64 (xL d)) := by
  have := Gd h
  unfold xL at *
  refine PureF.run Kk (by simp) (by simp [aQ, Pu]) ?_; conv => whnf
  repeat' first | ((first | refine Qz ?_ | refine Qy ?_) <;> conv => whnf) | (refine WB.tt ?_; conv => whnf) | (refine WB.ff ?_; conv => whnf)
  exact Fin.i rfl rfl
def Jw (q : Int × Int) (d : Int) : Int × Int := (q.1 + AS d, q.2 + Bz d)
def kN (p : Int × Int) (d : Int) : Nat → Int × Int
  | 0 => p
  | k + 1 => Jw (kN p d k) d
def nR (b : Bh) (p : Int × Int) (d : Int) : Nat → Bool
  | 0 => false
  | k + 1 => nR b p d k || yT b.brk (kN p d (k + 1))
theorem GM (d : Int) : (-1 ≤ AS d ∧ AS d ≤ 1) ∧ (-1 ≤ Bz d ∧ Bz d ≤ 1) := by
  unfold AS Bz
  constructor <;> split <;> omega
theorem tE (p : Int × Int) (d : Int) : ∀ k : Nat, (p.1 - k ≤ (kN p d k).1 ∧ (kN p d k).1 ≤ p.1 + k) ∧ (p.2 - k ≤ (kN p d k).2 ∧ (kN p d k).2 ≤ p.2 + k)
  | 0 => by simp [kN]
  | k + 1 => by
    have h := tE p d k
    have a := GM d
    show (p.1 - _ ≤ (kN p d k).1 + AS d ∧ (kN p d k).1 + AS d ≤ _) ∧ (p.2 - _ ≤ (kN p d k).2 + Bz d ∧ (kN p d k).2 + Bz d ≤ _)
    omega
theorem wA {b : Bh} {p : Int × Int} {d : Int} {j : Nat} (h : yT b.brk (kN p d (j + 1)) = true) : ∀ n, j + 1 ≤ n → nR b p d n = true
  | 0, k => absurd k (by omega)
  | n + 1, k => by
    unfold nR
    by_cases e : n = j
    · subst e; rw [h, Bool.or_true]
    · rw [wA h n (by omega)]; rfl
theorem VW.spot64 {b : Bh} (V : VW b) {q : Int × Int} (h : q ∈ b.brk) : CV q := by
  have := List.all_eq_true.1 V.brk q h
  unfold dN at this
  rw [Bool.and_eq_true] at this
  have a := bJ this.1; have c := bJ this.2
  have := V.rws; have := V.pls
  exact ⟨⟨by omega, by omega⟩, ⟨by omega, by omega⟩⟩
def LO (b : Bh) (d : Int) (j : Nat) : T D := (.n (.n (.n .e (some (.pt .h 0 0)) .e) none (.n (.n .e (some (.i .i64 b.rch)) .e) none .e)) none (.n (.n .e (some (.pt (.o .h) 0 0)) .e) (some (.i .i64 d)) (.n (.n .e (some (.i .i64 (j : Int))) .e) none .e)))
def LQ (b : Bh) (q : Int × Int) : T C := .n (.n .e (some (.cells false ((bD q).map fun d => Cell.o d 0) 1)) .e) (some (fZ b)) .e
set_option maxHeartbeats 4000000 in
theorem yL (b : Bh) (V : VW b) (p : Int × Int) (hp : dN b p = true) (d : Int) (hd : 0 ≤ d ∧ d ≤ 3) (l4 : b.brk.length ≤ 1000) : PureF Tryz.prog p150.ix [.ag (eF b), .ag (bD p), .i .i64 d] (.b (nR b p d b.rch.toNat)) := by
  have hr := V.rch
  have h4 := V.rws
  have h5 := V.pls
  have hb4 : b.brk.length ≤ 1000 := l4
  have hp2 := hp
  unfold dN at hp2
  rw [Bool.and_eq_true] at hp2
  have hpa := bJ hp2.1
  have hpb := bJ hp2.2
  refine PureF.run Kl (by simp) (by simp [aQ, Pu, aS, bD]) ?_; conv => whnf
  repeat' first | ((first | refine Qz ?_ | refine Qy ?_) <;> conv => whnf) | (refine WB.tt ?_; conv => whnf) | (refine WB.ff ?_; conv => whnf)
  refine Rn.loop (fun j : Nat => ⟨LO b d j, LQ b (kN p d j), .i .h, none⟩) (fun j => j ≤ b.rch.toNat ∧ nR b p d j = false) (fun j => b.rch.toNat - j) 0 ?_ ⟨Nat.zero_le _, rfl⟩ ?_
  · refine X.le.mk ?_ ?_ (Nat.le_refl _) rfl rfl
    · unfold LO
      (repeat' first | exact T.le_e _ | exact T.le_refl _ | refine T.le_some ?_ rfl ?_ | refine T.le_none ?_ ?_ | refine T.le_ee ?_ ?_)
    · unfold LQ
      (repeat' first | exact T.le_e _ | exact T.le_refl _ | refine T.le_some ?_ rfl ?_ | refine T.le_none ?_ ?_ | refine T.le_ee ?_ ?_)
  rintro j ⟨hj, ha⟩
  conv => whnf
  repeat' first | ((first | refine Qz ?_ | refine Qy ?_) <;> conv => whnf) | (refine WB.tt ?_; conv => whnf) | (refine WB.ff ?_; conv => whnf)
  refine WB.dec (fun h => ?_) (fun h => ?_) <;> conv => whnf
  · have hlt : j < b.rch.toNat := by omega
    have hbd := tE p d j
    have hbd1 := tE p d (j + 1)
    have C := yE b.brk (kN p d (j + 1)) hb4 ⟨⟨by omega, by omega⟩, ⟨by omega, by omega⟩⟩ (fun q hq => V.spot64 hq)
    have hd4 : d = 0 ∨ d = 1 ∨ d = 2 ∨ d = 3 := by omega
    cases hm : yT b.brk (kN p d (j + 1)) with
    | true =>
      rw [hm] at C
      have hX := wA hm b.rch.toNat (by omega)
      rw [hX]
      rcases hd4 with rfl | rfl | rfl | rfl
      all_goals
        repeat' first | ((first | refine Qz ?_ | refine Qf (C) ?_ | (first | refine WSt.ixaP (m := 0) rfl rfl rfl (by decide) ?_ | refine WSt.ixaP (m := 1) rfl rfl rfl (by decide) ?_ | refine WSt.ixaP (m := 2) rfl rfl rfl (by decide) ?_ | refine WSt.ixaP (m := 3) rfl rfl rfl (by decide) ?_) | refine Qy ?_) <;> conv => whnf) | (refine WB.tt ?_; conv => whnf) | (refine WB.ff ?_; conv => whnf)
        exact Fin.b rfl rfl
    | false =>
      rw [hm] at C
      have hX : nR b p d (j + 1) = false := by unfold nR; rw [ha, hm]; rfl
      rcases hd4 with rfl | rfl | rfl | rfl
      all_goals
        repeat' first | ((first | refine Qz ?_ | refine Qf (C) ?_ | (first | refine WSt.ixaP (m := 0) rfl rfl rfl (by decide) ?_ | refine WSt.ixaP (m := 1) rfl rfl rfl (by decide) ?_ | refine WSt.ixaP (m := 2) rfl rfl rfl (by decide) ?_ | refine WSt.ixaP (m := 3) rfl rfl rfl (by decide) ?_) | refine Qy ?_) <;> conv => whnf) | (refine WB.tt ?_; conv => whnf) | (refine WB.ff ?_; conv => whnf)
        refine Again.to (j + 1) (by omega) ⟨by omega, hX⟩ (Nat.le_refl _) ?_
        refine Shr.of ?_ ?_ rfl rfl
        · show Rel _ _ (LO b _ (j + 1)) _
          unfold LO
          (repeat' first | exact Rel.e | refine Rel.some ?_ ?_ ?_ | refine Rel.none ?_ ?_ | refine Rel.ee ?_ ?_)
          all_goals show Fz _ _ _ _
          all_goals first | exact .pu trivial | exact .kpt (show _ < 3 by simp [Pos.nat])
        · show Rel _ _ (LQ b (kN p _ (j + 1))) _
          unfold LQ
          (repeat' first | exact Rel.e | refine Rel.some ?_ ?_ ?_ | refine Rel.none ?_ ?_ | refine Rel.ee ?_ ?_)
          all_goals first
            | exact RO'.of (show _ < 3 by simp [Pos.nat]) (aV b)
            | exact RO'.of (show _ < 3 by simp [Pos.nat]) (ShC.same (ShC.cn (.pu trivial) (ShC.cn (.pu trivial) ShC.nl)))
  · obtain rfl : j = b.rch.toNat := by omega
    repeat' first | ((first | refine Qz ?_ | refine Qy ?_) <;> conv => whnf) | (refine WB.tt ?_; conv => whnf) | (refine WB.ff ?_; conv => whnf)
    exact Fin.b rfl ha.symm
def Ky (b : Bh) (p : Int × Int) (face d : Int) : Bool := decide (face = xL d) || nR b p d b.rch.toNat
def Ga (t : Bool) : Int := if t = true then 1 else 0
structure Hr where
  sun : Int
  calm : Int
  good : Int
def tO (x : Hr) : List D := [.i .i64 x.sun, .i .i64 x.calm, .i .i64 x.good]
def tP (b : Bh) (p : Int × Int) (face : Int) (h : Nat) (d : Int) : Hr := ⟨Ga (decide (face = b.sun.getD h 0)), Ga (Ky b p face d), Ga (decide (face = b.sun.getD h 0)) * Ga (Ky b p face d)⟩
def EL (x y : Hr) : Hr := ⟨x.sun + y.sun, x.calm + y.calm, x.good + y.good⟩
def NZ (h : Nat) (F : Nat → Int) (d : Int) : List D := [.i .i64 (h : Int), .i .i64 (F 0), .i .i64 (F 1), .i .i64 (F 2), .i .i64 d]
theorem Hb {h : Nat} (k : h < 3) : h = 0 ∨ h = 1 ∨ h = 2 := by omega
set_option maxHeartbeats 4000000 in
theorem Au (b : Bh) (V : VW b) (p : Int × Int) (hp : dN b p = true) (F : Nat → Int) (h : Nat) (hh : h < b.sun.length) (d : Int) (hd : 0 ≤ d ∧ d ≤ 3) (l4 : b.brk.length ≤ 1000) : PureF Tryz.prog p123.ix [.ag (eF b), .ag (NZ h F d), .ag (bD p)] (.ag (tO (tP b p (F p.1.toNat) h d))) := by
  have hsun := aO b.sun
  have h4 := V.rws
  have hp2 := hp
  unfold dN at hp2
  rw [Bool.and_eq_true] at hp2
  have hpa := bJ hp2.1
  have cO := yJ d hd
  have cB := yL b V p hp d hd l4
  obtain ⟨r, hr⟩ := Int.eq_ofNat_of_zero_le hpa.1
  have hr3 : r < 3 := by omega
  have hpr : p.1.toNat = r := by rw [hr]; rfl
  rw [hpr]
  unfold tP Ky
  refine PureF.run HY (by simp) (by simp [aQ, Pu, aS, bD, NZ]) ?_; conv => whnf
  cases hB : nR b p d b.rch.toNat
  all_goals
    rw [hB] at cB
    by_cases k1 : F r = b.sun.getD h 0
    all_goals
      by_cases k2 : F r = xL d
      all_goals
        first | rw [decide_eq_true k1] | rw [decide_eq_false k1]
        first | rw [decide_eq_true k2] | rw [decide_eq_false k2]
        rcases Hb hr3 with rfl | rfl | rfl
        all_goals
          repeat' first | ((first | refine Qz ?_ | refine Qy ?_) <;> conv => whnf) | (refine WB.tt ?_; conv => whnf) | (refine WB.ff ?_; conv => whnf)
          refine WSt.ixaN (m := _) rfl rfl hr (by decide) ?_; conv => whnf
          repeat' first | ((first | refine Qz ?_ | refine Qf (cO) ?_ | refine Qf (cB) ?_ | refine WIx.intsN hh ?_ | refine Qy ?_) <;> conv => whnf) | (refine WB.tt ?_; conv => whnf) | (refine WB.ff ?_; conv => whnf)
          exact ⟨.inr rfl, _, rfl, .pu (by simp [one, Pu, aQ, tO])⟩
theorem Ds (x y : Hr) (h1 : (-100 ≤ x.sun ∧ x.sun ≤ 100) ∧ (-100 ≤ x.calm ∧ x.calm ≤ 100) ∧ (-100 ≤ x.good ∧ x.good ≤ 100)) (h2 : (-100 ≤ y.sun ∧ y.sun ≤ 100) ∧ (-100 ≤ y.calm ∧ y.calm ≤ 100) ∧ (-100 ≤ y.good ∧ y.good ≤ 100)) : PureF Tryz.prog p122.ix [.ag (tO x), .ag (tO y)] (.ag (tO (EL x y))) := by
  refine PureF.run IN (by simp) (by simp [aQ, Pu, tO]) ?_; conv => whnf
  repeat' first | ((first | refine Qz ?_ | refine Qy ?_) <;> conv => whnf) | (refine WB.tt ?_; conv => whnf) | (refine WB.ff ?_; conv => whnf)
  exact ⟨.inr rfl, _, rfl, .pu (by simp [one, Pu, aQ, tO])⟩
end Go.Ev
end
