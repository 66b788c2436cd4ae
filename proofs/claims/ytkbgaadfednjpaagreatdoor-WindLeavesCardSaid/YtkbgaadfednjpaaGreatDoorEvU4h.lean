import Derived.Test.YtkbgaadfednjpaaGreatDoorEvU4e
import Derived.Test.YtkbgaadfednjpaaGreatDoorEvUDs
import Derived.Test.YtkbgaadfednjpaaGreatDoorEvUSq
import Derived.Test.YtkbgaadfednjpaaGreatDoorEvUIt
set_option linter.all false
set_option maxHeartbeats 8000000
noncomputable section
namespace Go.Ev
open Go.Proofs
set_option maxRecDepth 100000
theorem RndOk.ofW {P : Program} {id : Pos} {ds : List D} {ob ob' : T C} {nx nx' : Pos} {v : D} (h : WRnd P id ds (some .h) ⟨.e, ob, nx, none⟩ (fun x => x = ⟨.n .e (some v) .e, ob', nx', none⟩)) : RndOk P id ds ob nx none v ob' nx' none := by
  obtain ⟨v1, ob1, nx1, lg1, Z, h1, h2, h3⟩ := h.ok
  subst h3
  have h2 : T.setK .h v1 (T.e : T D) (fun sl => some (⟨sl, ob1, nx1, lg1⟩ : X)) = some ⟨.n .e (some v) .e, ob', nx', none⟩ := h2
  rw [T.setK_eq] at h2
  obtain ⟨e1, e2, e3, e4⟩ := X.mk.inj (Option.some.inj h2)
  have e1 := congrArg (fun t => T.get t .h) e1
  have e1 : (T.set .h v1 (T.e : T D)).get .h = some v := e1
  rw [T.get_set_same] at e1
  have e1 := Option.some.inj e1
  subst e1 e2 e3 e4
  exact h1
theorem TAll.opt {α : Type} {Q : Pos → α → Prop} {l r : T α} {v : Option α} (hl : TAll (fun p => Q (.o p)) l) (hv : ∀ x, v = Option.some x → Q .h x) (hr : TAll (fun p => Q (.i p)) r) : TAll Q (.n l v r)
  | .h, x, h => hv x (by rw [T.get_h] at h; exact h)
  | .o p, x, h => hl p x h
  | .i p, x, h => hr p x h
def nP (x1 x2 x3 : Option C) : T C := .n (.n .e x2 .e) x1 (.n .e x3 .e)
theorem uR {x1 x2 x3 y1 y2 y3 : Option C} {a b c d : T C} : Beside (.o (.o .h)) (nP y1 y2 y3) (.n (.n a x2 b) x1 (.n c x3 d)) (.n (.n a y2 b) y1 (.n c y3 d)) := by
  refine ⟨fun id c' hid hc => ?_, fun id hle => ?_⟩
  · cases id with
    | h => exact hc
    | o p => cases p with
      | h => exact hc
      | o q => have := q.nat_pos; have hid : 2 * (2 * q.nat) < 4 := hid; omega
      | i q => have := q.nat_pos; have hid : 2 * (2 * q.nat + 1) < 4 := hid; omega
    | i p => cases p with
      | h => exact hc
      | o q => have := q.nat_pos; have hid : 2 * (2 * q.nat) + 1 < 4 := hid; omega
      | i q => have := q.nat_pos; have hid : 2 * (2 * q.nat + 1) + 1 < 4 := hid; omega
  · cases id with
    | h => exact absurd hle (by decide)
    | o p => cases p with
      | h => exact absurd hle (by decide)
      | o q => rfl
      | i q => rfl
    | i p => cases p with
      | h => exact absurd hle (by decide)
      | o q => rfl
      | i q => rfl
def nH (c : Nat → Int) (k : Nat) (v : Int) (i : Nat) : Int := bif Nat.beq i k then v else c i
theorem tV (c : Nat → Int) (k : Nat) (v : Int) : nH c k v k = v := by simp [nH]
theorem uQ (c : Nat → Int) {k i : Nat} (v : Int) (h : i ≠ k) : nH c k v i = c i := by
  unfold nH
  rw [show Nat.beq i k = false from by
    cases e : Nat.beq i k with
    | false => rfl
    | true => exact absurd (Nat.eq_of_beq_eq_true e) h]
  rfl
theorem Bb (c : Nat → Int) (k : Nat) : nH c k (c k) = c := funext fun i => by
  by_cases e : i = k
  · subst e; rw [tV]
  · rw [uQ _ _ e]
theorem Ek {h : Nat} (k : h < 5) : h = 0 ∨ h = 1 ∨ h = 2 ∨ h = 3 ∨ h = 4 := by omega
def xR (c : Nat → Int) : List D := [.i .i64 (c 0), .i .i64 (c 1), .i .i64 (c 2), .i .i64 (c 3), .i .i64 (c 4)]
theorem La (c : Nat → Int) : aN (xR c) := by simp [xR, aN, Pu]
def Mo (c : Nat → Int) : C := .cells false ((xR c).map fun d => Cell.o d 0) 1
def tY (b : Bh) : Nat → Nat → (Nat → Int) → List (Nat → Int)
  | 0, _, c => [c]
  | m + 1, h, c => (oA b h).flatMap fun f => tY b m (h + 1) (nH c h f)
theorem yH {b : Bh} {m h : Nat} {c : Nat → Int} {P : (Nat → Int) → Bool} (k : ∀ i, i < (oA b h).length → (tY b m (h + 1) (nH c h ((oA b h).getD i 0))).any P = false) : (tY b (m + 1) h c).any P = false := by
  unfold tY
  rw [List.any_flatMap, List.any_eq_false]
  intro f hf
  obtain ⟨i, hi, rfl⟩ := uL (d := (0 : Int)) hf
  rw [k i hi]; decide
theorem wH {b : Bh} {m h : Nat} {c : Nat → Int} {P : (Nat → Int) → Bool} {i : Nat} (hi : i < (oA b h).length) (k : (tY b m (h + 1) (nH c h ((oA b h).getD i 0))).any P = true) : (tY b (m + 1) h c).any P = true := by
  unfold tY
  rw [List.any_flatMap, List.any_eq_true]
  exact ⟨_, bA (d := (0 : Int)) hi, k⟩
def lR (x1 x2 x3 x4 x5 x6 : Option C) : T C := .n (.n (.n .e x4 .e) x2 (.n .e x6 .e)) x1 (.n (.n .e x5 .e) x3 .e)
def IB (g : Pos) (first caps : List D) (b : Bh) : T D := (.n (.n (.n .e (some (.pt .h 0 0)) .e) (some (.fn g first caps)) .e) none (.n (.n .e (some (.pt (.o .h) 0 0)) .e) none (.n .e (some (.fn p147 [] [.pl (eY b) 0])) .e)))
def Me (g : Pos) (first caps : List D) : C := .cells false [.o (.fn g first caps) 0] 1
def Jg (s : Bool) : C := .cells false [.o (.b s) 0] 1
def MC (g : Pos) (first caps : List D) (b : Bh) (s : Bool) : C := .lp (IB g first caps b) [p8] 11 (Ib (aJ Tryz.f117) 0) (Hh (aJ Tryz.f117) 0) (bif s then .done else .ready) (bif s then some .ret else none)
def EX (g : Pos) (first caps : List D) (b : Bh) (s : Bool) : T C := nP (some (Me g first caps)) (some (Jg s)) (some (MC g first caps b s))
def OF : C := .cells false [.o (.yl (.i .h)) 0] 1
def ON (b : Bh) : C := .cells false [.o (.fn p148 [] [.pl (eY b) 0, .pt (.o (.o .h)) 0 0, .pt (.i (.o .h)) 0 0]) 0] 1
def Ga (g : Pos) (first caps : List D) (b : Bh) (s : Bool) (x6 : Option C) : T C := lR (some (Me g first caps)) (some (Jg s)) (some (MC g first caps b s)) (some OF) (some (ON b)) x6
section
variable {g : Pos} {first caps : List D} {b : Bh}
theorem Eo (h1 : aN first) (h2 : aN caps) {n : Nat} (hn : 4 ≤ n) : ∀ s d, (IB g first caps b).get s = some d → Kp n d := by
  have k1 := KpL.pu (n := n) first h1
  have k2 := KpL.pu (n := n) caps h2
  show TAll (fun _ d => Kp n d) (IB g first caps b)
  unfold IB
  repeat' first | exact TAll.e | refine TAll.some ?_ ?_ ?_ | refine TAll.none ?_ ?_
  all_goals simp [Kp, KpL, Pu, aM, k1, k2, Pos.nat]
  all_goals omega
theorem uT (h1 : aN first) (h2 : aN caps) (s : Bool) {n : Nat} (hn : 4 ≤ n) : KpO n (EX g first caps b s) := by
  have k1 := KpL.pu (n := n) first h1
  have k2 := KpL.pu (n := n) caps h2
  have hs := Eo h1 h2 hn (g := g) (b := b)
  show TAll (fun id c => id.nat < n ∧ KpC n c) _
  unfold EX nP Me Jg MC
  repeat' first | exact TAll.e | refine TAll.some ?_ ?_ ?_ | refine TAll.none ?_ ?_
  all_goals refine ⟨by simp [Pos.nat]; omega, ?_⟩
  all_goals first
    | exact hs
    | (refine KpL.all ?_; simp [KpL, Kp, Cell.d, Pu, k1, k2, Pos.nat])
theorem lJ (h1 : aN first) (h2 : aN caps) (s : Bool) {n : Nat} (hn : 6 ≤ n) : KpO n (Ga g first caps b s none) := by
  have k1 := KpL.pu (n := n) first h1
  have k2 := KpL.pu (n := n) caps h2
  have hs := Eo h1 h2 (n := n) (by omega) (g := g) (b := b)
  show TAll (fun id c => id.nat < n ∧ KpC n c) _
  unfold Ga lR Me Jg MC OF ON
  repeat' first | exact TAll.e | refine TAll.some ?_ ?_ ?_ | refine TAll.none ?_ ?_
  all_goals refine ⟨by simp [Pos.nat]; omega, ?_⟩
  all_goals first
    | exact hs
    | (refine KpL.all ?_; simp [KpL, Kp, Cell.d, Pu, aM, k1, k2, Pos.nat]; try omega)
end
set_option maxHeartbeats 2000000 in
theorem HF {g : Pos} {first caps : List D} {b : Bh} {P : (Nat → Int) → Bool} (h1 : aN first) (h2 : aN caps) (hg : ∀ c, PureF Tryz.prog g.ix (first ++ ([.ag (xR c)] ++ caps)) (.b (P c))) (c : Nat → Int) :
    RndOk Tryz.prog (.i .h) [.ag (xR c)] (EX g first caps b false) (.o (.o .h)) none (.b (!P c)) (EX g first caps b (P c)) (.o (.o .h)) none := by
  have cg := hg c
  refine RndOk.ofW ?_
  cases hP : P c with
  | true =>
    rw [hP] at cg
    refine WRnd.run rfl qE rJ ⟨_, rfl, ?_⟩
    conv => whnf
    repeat' first | ((first | refine Qz ?_) <;> conv => whnf)
    refine ⟨rfl, rfl, _, _, _, _, _, _, rfl, ?_⟩
    conv => whnf
    repeat' first | ((first | refine Qz ?_ | refine Qf (cg) ?_ | refine Qy ?_) <;> conv => whnf) | (refine WB.tt ?_; conv => whnf) | (refine WB.ff ?_; conv => whnf)
    refine ⟨_, _, _, _, _, _, _, EX g first caps b true, .o (.o .h), rfl, rfl, ?_, Nat.le_refl _, rfl⟩
    refine Shr.kp ?_ (uT h1 h2 _ (by decide))
    unfold EX nP
    (repeat' first | exact T.le_e _ | exact T.le_refl _ | refine T.le_some ?_ rfl ?_ | refine T.le_none ?_ ?_ | refine T.le_ee ?_ ?_)
  | false =>
    rw [hP] at cg
    refine WRnd.run rfl qE rJ ⟨_, rfl, ?_⟩
    conv => whnf
    repeat' first | ((first | refine Qz ?_) <;> conv => whnf)
    refine ⟨rfl, rfl, _, _, _, _, _, _, rfl, ?_⟩
    conv => whnf
    repeat' first | ((first | refine Qz ?_ | refine Qf (cg) ?_ | refine Qy ?_) <;> conv => whnf) | (refine WB.tt ?_; conv => whnf) | (refine WB.ff ?_; conv => whnf)
    refine ⟨_, _, _, _, _, _, _, EX g first caps b false, .o (.o .h), rfl, rfl, ?_, Nat.le_refl _, rfl⟩
    refine Shr.kp ?_ (uT h1 h2 _ (by decide))
    unfold EX nP
    (repeat' first | exact T.le_e _ | exact T.le_refl _ | refine T.le_some ?_ rfl ?_ | refine T.le_none ?_ ?_ | refine T.le_ee ?_ ?_)
theorem AH {x1 x2 x3 x4 x5 x6 y1 y2 y3 y4 y5 : Option C} : Beside (.o (.i .h)) (lR y1 y2 y3 y4 y5 none) (lR x1 x2 x3 x4 x5 x6) (lR y1 y2 y3 y4 y5 x6) := by
  refine ⟨fun id c' hid hc => ?_, fun id hle => ?_⟩
  · cases id with
    | h => exact hc
    | o p => cases p with
      | h => exact hc
      | o q => cases q with
        | h => exact hc
        | o r => exact hc
        | i r => exact hc
      | i q => have := q.nat_pos; have hid : 2 * (2 * q.nat + 1) < 6 := hid; omega
    | i p => cases p with
      | h => exact hc
      | o q => cases q with
        | h => exact hc
        | o r => exact hc
        | i r => exact hc
      | i q => exact hc
  · cases id with
    | h => exact absurd hle (by decide)
    | o p => cases p with
      | h => exact absurd hle (by decide)
      | o q => cases q with
        | h => exact absurd hle (by decide)
        | o r => rfl
        | i r => rfl
      | i q => rfl
    | i p => cases p with
      | h => exact absurd hle (by decide)
      | o q => cases q with
        | h => exact absurd hle (by decide)
        | o r => rfl
        | i r => rfl
      | i q => rfl
theorem T.le_sameS {α : Type} {l r l' r' : T α} {v : Option α} (hl : T.le l l') (hr : T.le r r') : T.le (.n l v r) (.n l' v r') := T.le_n hl (.inr rfl) hr
def Gz (b : Bh) (h : Nat) (W : List Int) (j : Nat) : T D := (.n (.n (.n .e (some (.pt (.o (.o .h)) 0 0)) .e) (some (.i .i64 (h : Int))) (.n .e (some (.pt (.o (.i .h)) 0 0)) (.n (.n .e (some (.i .i64 (W.length : Int))) .e) none .e))) none (.n (.n .e (some (.pt (.i (.o .h)) 0 0)) (.n (.n .e (some (.lst 1 (ints W))) .e) none .e)) (some (.pl (eY b) 0)) (.n .e none (.n (.n .e (some (.i .i64 (j : Int))) .e) none .e))))
theorem If {b : Bh} {h : Nat} {W : List Int} {j n : Nat} (hn : 7 ≤ n) : ∀ s d, (Gz b h W j).get s = some d → Kp n d := by
  show TAll (fun _ d => Kp n d) (Gz b h W j)
  unfold Gz
  repeat' first | exact TAll.e | refine TAll.some ?_ ?_ ?_ | refine TAll.none ?_ ?_
  all_goals simp [Kp, KpL, Pu, aM, aC, Pos.nat]
  all_goals omega
theorem HL (c : Nat → Int) (n : Nat) : KpC n (Mo c) := by
  refine KpL.all ?_
  simp [xR, KpL, Kp, Cell.d, Pu]
theorem Hj {g : Pos} {first caps : List D} {b : Bh} (h1 : aN first) (h2 : aN caps) (s : Bool) (c : Nat → Int) {n : Nat} (hn : 7 ≤ n) : KpO n (Ga g first caps b s (some (Mo c))) := by
  have k := lJ (g := g) (b := b) h1 h2 s (n := n) (by omega)
  intro id x hx
  by_cases e : id = .o (.i .h)
  · subst e
    cases hx
    exact ⟨by show 6 < n; omega, HL c n⟩
  · refine k id x ?_
    cases id with
    | h => exact hx
    | o p => cases p with
      | h => exact hx
      | o q => exact hx
      | i q => cases q with
        | h => exact absurd rfl e
        | o r => exact hx
        | i r => exact hx
    | i p => exact hx
section
variable {g : Pos} {first caps : List D} {b : Bh} {P : (Nat → Int) → Bool}
set_option maxHeartbeats 8000000 in
theorem wZ (h1 : aN first) (h2 : aN caps) (hg : ∀ c, PureF Tryz.prog g.ix (first ++ ([.ag (xR c)] ++ caps)) (.b (P c))) (V : VW b) (l1 : ∀ w ∈ b.winds, w.length ≤ 1000) (l2 : b.nts.length ≤ 1000) : ∀ (m h : Nat), ((h + m : Nat) : Int) = b.last + 1 → ∀ c,
    CallOk Tryz.prog p148.ix [.ag (xR c), .i .i64 (h : Int), .pl (eY b) 0, .pt (.o (.o .h)) 0 0, .pt (.i (.o .h)) 0 0] (Ga g first caps b false none) (.o (.i .h)) none (.b (!(tY b m h c).any P)) (Ga g first caps b ((tY b m h c).any P) none) (.o (.i .h)) none
  | 0, h, hm, c => by
    have R := HF (g := g) (b := b) h1 h2 hg c
    have hP : (tY b 0 h c).any P = P c := by simp [tY]
    rw [hP]
    refine CallOk.run GP (by simp) (Nat.le_refl _) ?_; conv => whnf
    repeat' first | ((first | refine Qz ?_ | with_reducible (first | refine Qm ?_ | refine Qn ?_ | refine Qo ?_ | refine Qp ?_ | refine WB.nt ?_ | refine WB.nf ?_ | refine WB.dec (fun h => ?_) (fun h => ?_) | refine WB.ndec (fun h => ?_) (fun h => ?_)) | refine WB.mk (fun h => ?_) (fun h => ?_)) <;> conv => whnf) | (refine WB.tt ?_; conv => whnf) | (refine WB.ff ?_; conv => whnf)
    refine WRnd.fr R (by decide) ?_ (uT h1 h2 _ (by decide)) ?_ uR (by decide) (LgLe.refl _) (fun _ _ => trivial) ?_
    · show T.le (nP _ _ _) (lR _ _ _ _ _ _)
      unfold nP lR
      (repeat' first | exact T.le_e _ | exact T.le_refl _ | refine T.le_sameS ?_ ?_ | refine T.le_none ?_ ?_ | refine T.le_ee ?_ ?_)
    · simp [KpL, Kp, Pu, aN, xR]
    conv => whnf
    repeat' first | ((first | refine Qz ?_) <;> conv => whnf)
    refine ⟨.inr rfl, ⟨_, rfl, .pu trivial⟩, Shr.kp ?_ (lJ h1 h2 _ (by decide))⟩
    show T.le (lR _ _ _ _ _ _) _
    unfold lR
    (repeat' first | exact T.le_e _ | exact T.le_refl _ | refine T.le_sameS ?_ ?_ | refine T.le_none ?_ ?_ | refine T.le_ee ?_ ?_)
  | m + 1, h, hm, c => by
    have hv4 := V.last
    have hwl := V.winl
    have h5 : h < 5 := by omega
    have hh : h < b.winds.length := by omega
    have hl := l1 _ (bA (d := (default : List Int)) hh)
    have cW := FZ b V h hh hl l2
    have ih := fun c => wZ h1 h2 hg V l1 l2 m (h + 1) (by omega) c
    have hno := yH (b := b) (m := m) (h := h) (c := c) (P := P)
    have hyes := fun i hi => wH (b := b) (m := m) (h := h) (c := c) (P := P) (i := i) hi
    have hWl : (oA b h).length ≤ 1000 := Nat.le_trans (List.length_filter_le _ _) (by exact hl)
    generalize oA b h = W at *
    have e2 := aI W
    generalize hX : (tY b (m + 1) h c).any P = fo at *
    refine CallOk.run GP (by simp) (Nat.le_refl _) ?_; conv => whnf
    repeat' first | ((first | refine Qz ?_ | refine Qf (cW) ?_ | refine Qy ?_) <;> conv => whnf) | (refine WB.tt ?_; conv => whnf) | (refine WB.ff ?_; conv => whnf)
    refine Rn.loop (fun t : Nat × Int => ⟨Gz b h W t.1, Ga g first caps b false (some (Mo (nH c h t.2))), .i (.i .h), none⟩) (fun t => t.1 ≤ W.length ∧ ∀ i, i < t.1 → (tY b m (h + 1) (nH c h (W.getD i 0))).any P = false) (fun t => W.length - t.1) (0, c h) ?_ ⟨Nat.zero_le _, fun i hi => absurd hi (Nat.not_lt_zero _)⟩ ?_
    · refine X.le.mk ?_ ?_ (Nat.le_refl _) rfl rfl
      · unfold Gz
        rw [← e2]
        (repeat' first | exact T.le_e _ | exact T.le_refl _ | refine T.le_some ?_ rfl ?_ | refine T.le_none ?_ ?_ | refine T.le_ee ?_ ?_)
      · rw [Bb]
        show T.le (lR _ _ _ _ _ _) _
        unfold lR
        (repeat' first | exact T.le_e _ | exact T.le_refl _ | refine T.le_some ?_ rfl ?_ | refine T.le_none ?_ ?_ | refine T.le_ee ?_ ?_)
    rintro ⟨j, v⟩ ⟨hj, ha⟩
    have hj : j ≤ W.length := hj
    have ha : ∀ i, i < j → (tY b m (h + 1) (nH c h (W.getD i 0))).any P = false := ha
    show Rn Tryz.prog 36 _ ⟨Gz b h W j, Ga g first caps b false (some (Mo (nH c h v))), .i (.i .h), none⟩ _
    conv => whnf
    repeat' first | ((first | refine Qz ?_ | refine Qy ?_) <;> conv => whnf) | (refine WB.tt ?_; conv => whnf) | (refine WB.ff ?_; conv => whnf)
    refine WB.dec (fun hd => ?_) (fun hd => ?_) <;> conv => whnf
    · have hlt : j < W.length := by omega
      have C := ih (nH c h (W.getD j 0))
      cases hgo : (tY b m (h + 1) (nH c h (W.getD j 0))).any P with
      | true =>
        rw [hgo] at C
        have hX := hyes j hlt hgo
        subst hX
        clear ih hno hyes ha
        rcases Ek h5 with rfl | rfl | rfl | rfl | rfl
        all_goals
          repeat' first | ((first | refine Qz ?_ | refine Qy ?_) <;> conv => whnf) | (refine WB.tt ?_; conv => whnf) | (refine WB.ff ?_; conv => whnf)
          refine WSt.ixaN rfl rfl rfl (by omega) ?_; conv => whnf
          repeat' first | ((first | refine Qz ?_ | refine Qy ?_) <;> conv => whnf) | (refine WB.tt ?_; conv => whnf) | (refine WB.ff ?_; conv => whnf)
          refine WCall.fr C ?_ (lJ h1 h2 _ (by decide)) ?_ AH (by decide) (LgLe.refl _) (fun _ _ => trivial) ?_
          · show T.le (lR _ _ _ _ _ _) _
            unfold lR
            (repeat' first | exact T.le_e _ | exact T.le_refl _ | refine T.le_sameS ?_ ?_ | refine T.le_none ?_ ?_ | refine T.le_ee ?_ ?_)
          · simp [KpL, Kp, Pu, aN, Pos.nat, xR, aM]
          conv => whnf
          repeat' first | ((first | refine Qz ?_ | refine Qy ?_) <;> conv => whnf) | (refine WB.tt ?_; conv => whnf) | (refine WB.ff ?_; conv => whnf)
          refine ⟨.inr rfl, ⟨_, rfl, .pu trivial⟩, Shr.kp ?_ (lJ h1 h2 _ (by decide))⟩
          show T.le (lR _ _ _ _ _ _) (lR _ _ _ _ _ _)
          unfold lR
          (repeat' first | exact T.le_e _ | exact T.le_refl _ | refine T.le_sameS ?_ ?_ | refine T.le_none ?_ ?_ | refine T.le_ee ?_ ?_)
      | false =>
        rw [hgo] at C
        clear ih hno hyes
        rcases Ek h5 with rfl | rfl | rfl | rfl | rfl
        all_goals
          repeat' first | ((first | refine Qz ?_ | refine Qy ?_) <;> conv => whnf) | (refine WB.tt ?_; conv => whnf) | (refine WB.ff ?_; conv => whnf)
          refine WSt.ixaN rfl rfl rfl (by omega) ?_; conv => whnf
          repeat' first | ((first | refine Qz ?_ | refine Qy ?_) <;> conv => whnf) | (refine WB.tt ?_; conv => whnf) | (refine WB.ff ?_; conv => whnf)
          refine WCall.fr C ?_ (lJ h1 h2 _ (by decide)) ?_ AH (by decide) (LgLe.refl _) (fun _ _ => trivial) ?_
          · show T.le (lR _ _ _ _ _ _) _
            unfold lR
            (repeat' first | exact T.le_e _ | exact T.le_refl _ | refine T.le_sameS ?_ ?_ | refine T.le_none ?_ ?_ | refine T.le_ee ?_ ?_)
          · simp [KpL, Kp, Pu, aN, Pos.nat, xR, aM]
          conv => whnf
          repeat' first | ((first | refine Qz ?_ | refine Qy ?_) <;> conv => whnf) | (refine WB.tt ?_; conv => whnf) | (refine WB.ff ?_; conv => whnf)
          refine Again.to (j + 1, W.getD j 0) (show W.length - (j + 1) < W.length - j by omega) ⟨show j + 1 ≤ W.length by omega, fun i hi => ?_⟩ (Nat.le_refl _) (Shr.kp2 ?_ (If (by decide)) ?_ (Hj h1 h2 _ _ (by decide)))
          · by_cases e : i = j
            · subst e; exact hgo
            · exact ha i (by have hi : i < j + 1 := hi; omega)
          · show T.le (Gz b _ W (j + 1)) _
            unfold Gz
            (repeat' first | exact T.le_e _ | exact T.le_refl _ | refine T.le_some ?_ rfl ?_ | refine T.le_none ?_ ?_ | refine T.le_ee ?_ ?_)
          · show T.le (lR _ _ _ _ _ _) (lR _ _ _ _ _ _)
            unfold lR
            (repeat' first | exact T.le_e _ | exact T.le_refl _ | refine T.le_sameS ?_ ?_ | refine T.le_none ?_ ?_ | refine T.le_ee ?_ ?_)
    · have hX := hno fun i hi => ha i (by omega)
      subst hX
      repeat' first | ((first | refine Qz ?_ | refine Qy ?_) <;> conv => whnf) | (refine WB.tt ?_; conv => whnf) | (refine WB.ff ?_; conv => whnf)
      refine ⟨.inr rfl, ⟨_, rfl, .pu trivial⟩, Shr.kp ?_ (lJ h1 h2 _ (by decide))⟩
      show T.le (lR _ _ _ _ _ _) (lR _ _ _ _ _ _)
      unfold lR
      (repeat' first | exact T.le_e _ | exact T.le_refl _ | refine T.le_sameS ?_ ?_ | refine T.le_none ?_ ?_ | refine T.le_ee ?_ ?_)
end
open Go.RowKit (Below Grown)
theorem lE {α : Type} : ∀ (n : Nat) (l : List α), dB n l = l.drop n
 | 0, l => rfl
 | n + 1, [] => rfl
 | n + 1, _ :: l => lE n l
theorem Vis.nil {st : Nat} {l : List Cell} : Vis st l [] := fun k d hk => by cases hk
theorem Vis.app {st : Nat} {l : List Cell} {a b : List D} (h : Vis st l a) (k : Vis st (l.drop a.length) b) : Vis st l (a ++ b) := fun i d hi => by
 by_cases hlt : i < a.length
 ·rw [List.getElem?_append_left hlt] at hi
  exact h i d hi
 ·rw [List.getElem?_append_right (by omega)] at hi
  obtain ⟨c, h1, h2⟩ := k _ d hi
  rw [List.getElem?_drop] at h1
  exact ⟨c, by rw [<- h1]; congr 1; omega, h2⟩
theorem tO {st : Nat} : ∀ {n : Nat} {l : List Cell} {ds : List D} {r : List Cell}, vC st n l = some (ds, r) -> ds.length = n /\ Vis st l ds /\ r = l.drop n
 | 0, l, ds, r, h => by cases h; exact ⟨rfl, Vis.nil, rfl⟩
 | n + 1, [], ds, r, h => by cases h
 | n + 1, c :: l, ds, r, h => by
   unfold vC at h
   cases hc : c.has st with
   | false => rw [hc] at h; cases h
   | true =>
     rw [hc, cond_true] at h
     split at h
     ·rename_i ds' r' h1
      cases h
      obtain ⟨k1, k2, k3⟩ := tO h1
      refine ⟨by rw [List.length_cons, k1], fun k d hk => ?_, k3⟩
      cases k with
      | zero => cases hk; exact ⟨c, rfl, hc, rfl⟩
      | succ k => exact k2 k d hk
     ·cases h
theorem rD {st z : Nat} : ∀ {n : Nat} {l : List Cell} {es : List (List D)}, xC st z n l = some es -> es.length = n /\ (∀ r ∈ es, r.length = z) /\ Vis st l es.flatten
 | 0, l, es, h => by cases h; exact ⟨rfl, (fun r hr => by cases hr), Vis.nil⟩
 | n + 1, l, es, h => by
   unfold xC at h
   split at h
   ·rename_i r l' h1
    split at h
    ·rename_i es' h2
     cases h
     obtain ⟨k1, k2, rfl⟩ := tO h1
     obtain ⟨k3, k4, k5⟩ := rD h2
     refine ⟨by rw [List.length_cons, k3], fun q hq => ?_, ?_⟩
     ·rcases List.mem_cons.1 hq with e | hq
      ·rw [e]; exact k1
      ·exact k4 q hq
     ·rw [List.flatten_cons]
      exact k2.app (by rw [k1]; exact k5)
    ·cases h
   ·cases h
theorem xV {α β : Type} {f : α -> Option β} : ∀ {l : List α} {r : List β}, mpO f l = some r -> l.length = r.length /\ ∀ (i : Nat) (a : α), l[i]? = some a -> ∃ b, f a = some b /\ r[i]? = some b
 | [], r, h => by cases h; exact ⟨rfl, fun i a hi => by cases hi⟩
 | a :: l, r, h => by
   unfold mpO at h
   split at h
   ·rename_i b hb
    split at h
    ·rename_i r' hr
     cases h
     obtain ⟨k1, k2⟩ := xV hr
     refine ⟨by simp [k1], fun i x hi => ?_⟩
     cases i with
     | zero => cases hi; exact ⟨b, hb, rfl⟩
     | succ i => exact k2 i x hi
    ·cases h
   ·cases h
theorem gX {α β : Type} {f : α -> Option β} {a : α} {l : List α} {r : List β} (h : mpO f (a :: l) = some r) : ∃ b r', f a = some b /\ mpO f l = some r' /\ r = b :: r' := by
 unfold mpO at h
 split at h
 ·rename_i b hb
  split at h
  ·rename_i r' hr
   cases h
   exact ⟨b, r', hb, hr, rfl⟩
  ·cases h
 ·cases h
section
variable {B : Pos -> Prop} {ob : T C}
theorem nK {f : D -> Option D} (hf : ∀ d e, f d = some e -> Fz B ob d e) : ∀ {l r : List D}, mpO f l = some r -> FzL B ob l r
 | [], r, h => by cases h; exact .nil
 | a :: l, r, h => by
   obtain ⟨b, r', h1, h2, rfl⟩ := gX h
   exact .cons (hf _ _ h1) (nK hf h2)
theorem vG {f : D -> Option D} (hf : ∀ d e, f d = some e -> Fz B ob d e) : ∀ {l r : List (List D)}, mpO (mpO f) l = some r -> FzE B ob l r
 | [], r, h => by cases h; exact .nil
 | a :: l, r, h => by
   obtain ⟨b, r', h1, h2, rfl⟩ := gX h
   exact .cons (nK hf h1) (vG hf h2)
theorem pY {f : D -> Option D} (hf : ∀ d e, f d = some e -> Pu e) : ∀ {l r : List D}, mpO f l = some r -> aN r
 | [], r, h => by cases h; trivial
 | a :: l, r, h => by
   obtain ⟨b, r', h1, h2, rfl⟩ := gX h
   unfold aN
   exact ⟨hf _ _ h1, pY hf h2⟩
theorem uI {f : D -> Option D} (hf : ∀ d e, f d = some e -> Pu e) : ∀ {l r : List (List D)}, mpO (mpO f) l = some r -> cG r
 | [], r, h => by cases h; trivial
 | a :: l, r, h => by
   obtain ⟨b, r', h1, h2, rfl⟩ := gX h
   unfold cG
   exact ⟨pY hf h1, uI hf h2⟩
theorem zG (hB : ∀ id, ¬ B id) : ∀ {n : Nat} {d e : D}, Ej ob n d = some e -> Fz B ob d e /\ Pu e
 | 0, _, _, h => by cases h
 | n + 1, d, e, h => by
   have i1 : ∀ d e, Ej ob n d = some e -> Fz B ob d e := fun _ _ h => (zG hB h).1
   have i2 : ∀ d e, Ej ob n d = some e -> Pu e := fun _ _ h => (zG hB h).2
   unfold Ej at h
   cases d
   case sl id off len st z =>
    dsimp only at h
    split at h
    ·rename_i ro cs cur hc
     split at h
     ·rename_i es hes
      split at h
      ·rename_i fs hfs
       cases h
       obtain ⟨k1, k2, k3⟩ := rD hes
       rw [lE] at k3
       exact ⟨.sl (hB id) hc k1 k2 k3 (vG i1 hfs), by unfold Pu; exact uI i2 hfs⟩
      ·cases h
     ·cases h
    ·cases h
   case lst z es =>
    dsimp only at h
    split at h
    ·rename_i fs hfs
     cases h
     exact ⟨.lst (vG i1 hfs), by unfold Pu; exact uI i2 hfs⟩
    ·cases h
   case ag cs =>
    dsimp only at h
    split at h
    ·rename_i fs hfs
     cases h
     exact ⟨.ag (nK i1 hfs), by unfold Pu; exact pY i2 hfs⟩
    ·cases h
   case tp cs =>
    dsimp only at h
    split at h
    ·rename_i fs hfs
     cases h
     exact ⟨.tp (nK i1 hfs), by unfold Pu; exact pY i2 hfs⟩
    ·cases h
   all_goals first | (cases h; done) | (cases h; exact ⟨.pu (by unfold Pu; trivial), by unfold Pu; trivial⟩)
end
def Fx (ob : T C) : Nat -> D -> Option D
 | 0, _ => none
 | n + 1, d => match d with
   | .sl id off len st z => match ob.get id with
     | some (.cells _ cs _) => match xC st z len (dB off cs) with
       | some es => match mpO (mpO (Fx ob n)) es with
         | some fs => some (.lst z fs)
         | none => none
       | none => none
     | _ => none
   | .ag cs => match mpO (Fx ob n) cs with
     | some ds => some (.ag ds)
     | none => none
   | .tp cs => match mpO (Fx ob n) cs with
     | some ds => some (.tp ds)
     | none => none
   | .b x => some (.b x)
   | .i k n => some (.i k n)
   | .ns => some .ns
   | .em => some .em
   | .np => some .np
   | .nf => some .nf
   | .nm => some .nm
   | _ => none
section
variable {P : Program} {γ γ' : Gh} {w : World} {ob : T C}
theorem qB {f : D -> Option D} (hf : ∀ d e, f d = some e -> ∀ v, DV γ w d v -> DV γ' w e v) : ∀ {l r : List D}, mpO f l = some r -> ∀ vs, DVL γ w l vs -> DVL γ' w r vs
 | [], r, h, vs, H => by cases h; unfold DVL at *; exact H
 | a :: l, r, h, vs, H => by
   obtain ⟨b, r', h1, h2, rfl⟩ := gX h
   unfold DVL at H ⊢
   obtain ⟨v, r, rfl, h4, h5⟩ := H
   exact ⟨v, r, rfl, hf _ _ h1 _ h4, qB hf h2 _ h5⟩
theorem zI {f : D -> Option D} {z : Nat} (hf : ∀ d e, f d = some e -> ∀ v, DV γ w d v -> DV γ' w e v) : ∀ {l r : List (List D)}, mpO (mpO f) l = some r -> ∀ vs, DVE γ w z l vs -> DVE γ' w z r vs
 | [], r, h, vs, H => by cases h; unfold DVE; trivial
 | a :: l, r, h, vs, H => by
   obtain ⟨b, r', h1, h2, rfl⟩ := gX h
   unfold DVE at H ⊢
   exact ⟨by rw [<- (xV h1).1]; exact H.1, qB hf h1 _ H.2.1, zI hf h2 _ H.2.2⟩
theorem yO (hob : ∀ id c, ob.get id = some c -> HoldsO P γ w id c) (hown : ∀ id st vs e fr, st < γ.cur id -> w.heap[(γ.β id st).1]? = some (.cells vs e fr) -> γ'.im (γ.β id st).1) : ∀ {n : Nat} {d e : D}, Fx ob n d = some e -> ∀ v, DV γ w d v -> DV γ' w e v
 | 0, _, _, h => by cases h
 | n + 1, d, e, h => by
   have ih : ∀ d e, Fx ob n d = some e -> ∀ v, DV γ w d v -> DV γ' w e v := fun _ _ h => yO hob hown h
   unfold Fx at h
   cases d
   case sl id off len st z =>
    dsimp only at h
    split at h
    ·rename_i ro cs cur hg
     split at h
     ·rename_i es hes
      split at h
      ·rename_i fs hfs
       cases h
       obtain ⟨hl, hz, hv⟩ := rD hes
       rw [lE] at hv
       intro v H
       obtain ⟨e1, e2, cap, e, n, rfl, e4, e5, e6⟩ := gT H
       have hfl := (xV hfs).1
       obtain ⟨vs, e', fr, k1, k2, k3, k4⟩ := oR (hob id _ hg) e1 e2 hv
       have hlen : es.flatten.length = es.length * z := by
        clear hv ih k2 k3 k4 hfl hl hfs hes
        induction es with
        | nil => simp
        | cons r es ih => simp [ih (fun r h => hz r (by simp [h])), hz r (by simp), Nat.add_mul]; omega
       have hsz : off - (γ.β id st).2 + es.length * z <= vs.size := by
        have h1 : w.shape? (γ.β id st).1 = some (e', vs.size) := bX k1
        rw [h1] at e5
        cases e5
        have : es.length * z <= cap * z := Nat.mul_le_mul_right z (by omega)
        omega
       unfold DV
       refine ⟨_, cap, by rw [<- hfl, hl], by omega, (fun h => by cases h), .inr ⟨_, _, vs, e', fr, hown id st _ _ _ e1 k1, k1, rfl, by rw [<- hfl]; exact hsz, ?_, ?_⟩⟩
       ·refine zI ih hfs _ (jJ hz ?_)
        rw [<- hlen]
        exact k3
       ·rw [<- hfl, <- hlen]; exact k4
      ·cases h
     ·cases h
    ·cases h
   case ag cs =>
    dsimp only at h
    split at h
    ·rename_i fs hfs
     cases h
     intro v H
     obtain ⟨vs, rfl, h2, h3⟩ := nC H
     unfold DV
     exact ⟨vs, rfl, qB ih hfs _ h2, h3⟩
    ·cases h
   case tp cs =>
    dsimp only at h
    split at h
    ·rename_i fs hfs
     cases h
     intro v H
     obtain ⟨vs, rfl, h2⟩ := tC H
     unfold DV
     exact ⟨vs, rfl, qB ih hfs _ h2⟩
    ·cases h
   all_goals first | (cases h; done) | (cases h; intro v H; unfold DV at *; exact H)
end
theorem MemOk.of {P : Program} {f : FuncId} {es : List D} {v v' : D} {ob' : T C} {nx' : Pos} {lg' : Option (T Bool)} (K : CallOk P f es .e .h none v ob' nx' lg') (hz : Fx ob' 12 v = some v') : MemOk P f es v' := by
 intro ob1 ds ob nx lg lg2 hds hle hl ht
 refine ⟨hl, Nat.le_refl _, Keeps.refl _ _, fun so hs γ args w gh hargs hob hnx => ?_⟩
 let γs : Gh := ⟨fun _ => 0, fun _ _ => (0, 0), fun b => γ.im b \/ ((∃ id st, st < γ.cur id /\ (γ.β id st).1 = b) /\ ∃ vs e fr, w.heap[b]? = some (.cells vs e fr))⟩
 have hargs' : DVL γs w es args.toList := by
  have h1 : DV γ w (.tp ds) (.tuple args) := by unfold DV; exact ⟨args, rfl, hargs⟩
  have h2 := Fz.ok (γ := γ) (γ' := γs) (B := fun _ => False) (fun b hb => .inl hb) (fun id c hc => hob id c (hs id (ht id c hc)) (hle id c hc)) (fun _ h => h.elim) (fun id st vs e fr _ hst hc => .inr ⟨⟨id, st, hst, rfl⟩, vs, e, fr, hc⟩) (.tp (nK (fun d e h => (zG (fun _ h => h) h).1) hds)) _ h1
  obtain ⟨vs, e, h3⟩ := tC h2
  cases e
  exact h3
 obtain ⟨c1, c2⟩ := K.ok (fun _ => True) (fun _ _ => trivial) γs args w ⟨fun _ st h => absurd h (Nat.not_lt_zero st), fun _ st _ _ h => absurd h (Nat.not_lt_zero st), fun b hb => ⟨by
  rcases hb with hb | hb
  ·exact (gh.im b hb).1
  ·exact hb.2, fun _ st h => absurd h (Nat.not_lt_zero st)⟩, gh.gl.im fun _ h => .inl h⟩ hargs' (fun id c _ hc => by rw [T.get_e] at hc; cases hc) (fun _ _ _ => rfl)
 refine ⟨c1, fun ro m R hR => c2 ro m R fun γ' w' u gh' F hu hob' _ => ?_⟩
 have hb : ∀ b, b < w.heap.size -> w'.heap[b]? = w.heap[b]? := fun b hb => F.blk b hb fun id st _ hst => absurd hst (Nat.not_lt_zero st)
 have hnew : ∀ id st, st < γ'.cur id -> w.heap.size <= (γ'.β id st).1 := fun id st hst => by
  rcases F.new id st (Nat.zero_le _) hst with h | ⟨fZ, h, _⟩
  ·exact h
  ·exact absurd h (Nat.not_lt_zero fZ)
 let γ2 : Gh := ⟨γ.cur, γ.β, fun b => γ.im b \/ ((∃ id st, st < γ'.cur id /\ (γ'.β id st).1 = b) /\ ∃ vs e fr, w'.heap[b]? = some (.cells vs e fr))⟩
 have U : Up γ γ2 w w' := ⟨fun _ => Nat.le_refl _, fun _ _ _ => rfl, F.up.3, fun b hm => ⟨.inl hm, fun o ho => by rw [hb b (Array.getElem?_eq_some_iff.1 ho).1]; exact ho⟩⟩
 have U0 : Up γ γ w w' := ⟨fun _ => Nat.le_refl _, fun _ _ _ => rfl, F.up.3, fun b hm => ⟨hm, fun o ho => by rw [hb b (Array.getElem?_eq_some_iff.1 ho).1]; exact ho⟩⟩
 refine hR γ2 w' u ⟨fun id st hst => Nat.lt_of_lt_of_le (gh.ob id st hst) F.size, gh.inj, fun b hm => ?_, (gh.gl.up U0).im fun _ h => .inl h⟩ ⟨U, fun _ _ => rfl, fun b h1 _ => hb b h1, fun _ _ h1 h2 => absurd h2 (by show ¬ _ < γ.cur _; omega), fun b hm hlt => ?_, F.lp, F.size, F.os, F.tape, F.output, F.fz⟩
  (yO (γ := γ') (γ' := γ2) (fun id c hc => hob' id c trivial hc) (fun id st vs e fr hst hc => .inr ⟨⟨id, st, hst, rfl⟩, vs, e, fr, hc⟩) hz u hu)
  (fun id c hid hc => HoldsO.mono U rfl (fun st hst => hb _ (gh.ob id st hst)) (hob id c hid hc)) hnx
 ·rcases hm with hm | ⟨⟨id', st', h1, h2⟩, h3⟩
  ·refine ⟨let ⟨⟨vs, e, fr, k1⟩, _⟩ := gh.im b hm; ⟨vs, e, fr, (U0.im b hm).2 _ k1⟩, (gh.im b hm).2⟩
  ·refine ⟨h3, fun id st hst e => ?_⟩
   have hlt := gh.ob id st hst
   have e : (γ.β id st).1 = b := e
   have := hnew id' st' h1
   omega
 ·rcases hm with hm | ⟨⟨id', st', h1, h2⟩, h3⟩
  ·exact hm
  ·have := hnew id' st' h1
   omega
def nV (P : Program) (FP : T RF) (n : Nat) (f : Pos) (es : List D) : Option D :=
 match rO FP (exec P FP n) f es .e .h none (fun v ob nx lg => match Fx ob 12 v with
  | some d => some ⟨T.set .h d .e, .e, .h, none⟩
  | none => none) with
 | some y => y.sl.get .h
 | none => none
theorem MemOk.run {P : Program} {FP : T RF} (hFP : FPok P FP) {n : Nat} {f : Pos} {es : List D} {v : D} (h : nV P FP n f es = some v) : MemOk P f.ix es v := by
 unfold nV at h
 split at h
 ·rename_i y hy
  obtain ⟨v', ob', nx', lg', h1, C⟩ := gY hFP (pQ hFP n).1 hy
  split at h1
  ·rename_i d hd
   cases h1
   rw [T.get_set_same] at h
   cases h
   exact MemOk.of C hd
  ·cases h1
 ·cases h
theorem CT {x1 x2 x3 x4 x5 y1 y2 y3 y4 y5 : Option C} : Beside (.o (.i .h)) (lR y1 y2 y3 y4 y5 none) (.n (.n (.n .e x4 .e) x2 .e) x1 (.n (.n .e x5 .e) x3 .e)) (lR y1 y2 y3 y4 y5 none) := by
 refine ⟨fun id c' hid hc => hc, fun id hle => ?_⟩
 cases id with
 | h => exact absurd hle (by decide)
 | o p => cases p with
   | h => exact absurd hle (by decide)
   | o q => cases q with
     | h => exact absurd hle (by decide)
     | o r => rfl
     | i r => rfl
   | i q => cases q with
     | h => rfl
     | o r => rfl
     | i r => rfl
 | i p => cases p with
   | h => exact absurd hle (by decide)
   | o q => cases q with
     | h => exact absurd hle (by decide)
     | o r => rfl
     | i r => rfl
   | i q => rfl
def CE : Nat -> Int := fun _ => 0
def hrs (b : Bh) : Nat := (b.last + 1).toNat
def vS (b : Bh) : List (Nat -> Int) := tY b (hrs b) 0 CE
section
variable {g : Pos} {first caps : List D} {b : Bh} {P : (Nat -> Int) -> Bool}
theorem AX (h1 : aN first) (h2 : aN caps) (hg : ∀ c, PureF Tryz.prog g.ix (first ++ ([.ag (xR c)] ++ caps)) (.b (P c))) (V : VW b) (l1 : ∀ w ∈ b.winds, w.length <= 1000) (l2 : b.nts.length <= 1000) :
 CallOk Tryz.prog p147.ix [.yl (.i .h), .pl (eY b) 0] (EX g first caps b false) (.o (.o .h)) none (.tp []) (EX g first caps b ((vS b).any P)) (.o (.o .h)) none := by
 have hv := V.last
 have C := wZ h1 h2 hg V l1 l2 (hrs b) 0 (by unfold hrs; omega) CE
 have C : CallOk Tryz.prog p148.ix [.ag (xR CE), .i .i64 0, .pl (eY b) 0, .pt (.o (.o .h)) 0 0, .pt (.i (.o .h)) 0 0] (Ga g first caps b false none) (.o (.i .h)) none (.b (!(vS b).any P)) (Ga g first caps b ((vS b).any P) none) (.o (.i .h)) none := C
 refine CallOk.run Mf (by simp) (Nat.le_refl _) ?_; conv => whnf
 refine Qg ?_
 refine WCall.fr C ?_ (lJ h1 h2 _ (by decide)) ?_ CT (Nat.le_refl _) (LgLe.refl _) (fun _ _ => trivial) ?_
 ·show T.le (lR _ _ _ _ _ _) _
  unfold lR
  (repeat' first | exact T.le_e _ | exact T.le_refl _ | refine T.le_sameS ?_ ?_ | refine T.le_none ?_ ?_ | refine T.le_ee ?_ ?_)
 ·simp [KpL, Kp, Pu, aN, Pos.nat, xR, aM]
 conv => whnf
 refine Qg ?_
 refine ⟨.inl rfl, ⟨_, rfl, .pu trivial⟩, Shr.kp ?_ (uT h1 h2 _ (by decide))⟩
 show T.le (nP _ _ _) (lR _ _ _ _ _ _)
 unfold nP lR
 (repeat' first | exact T.le_e _ | exact T.le_refl _ | refine T.le_sameS ?_ ?_ | refine T.le_none ?_ ?_ | refine T.le_ee ?_ ?_)
theorem Hm (h1 : aN first) (h2 : aN caps) (hg : ∀ c, PureF Tryz.prog g.ix (first ++ ([.ag (xR c)] ++ caps)) (.b (P c))) (V : VW b) (l1 : ∀ w ∈ b.winds, w.length <= 1000) (l2 : b.nts.length <= 1000) :
 PureF Tryz.prog p118.ix [.fn p147 [] [.pl (eY b) 0], .fn g first caps] (.b ((vS b).any P)) := by
 have C := AX h1 h2 hg V l1 l2
 refine PureF.run IM (by simp) (by simp [aN, cG, Pu, aM, h1, h2]) ?_; conv => whnf
 refine Qg ?_
 refine Rn.le (a := ⟨IB g first caps b, nP (some (Me g first caps)) (some (Jg false)) none, .i .h, none⟩) ?_ ?_
 ·cases hP : (vS b).any P with
  | true =>
    rw [hP] at C
    refine Rn.rf rfl rfl C rfl (by simp) ?_; conv => whnf
    refine Qg ?_
    exact ⟨.inr rfl, _, rfl, .pu trivial⟩
  | false =>
    rw [hP] at C
    refine Rn.rf rfl rfl C rfl (by simp) ?_; conv => whnf
    refine Qg ?_
    exact ⟨.inr rfl, _, rfl, .pu trivial⟩
 ·refine X.le.mk ?_ ?_ (by simp [Pos.nat]) rfl rfl
  ·unfold IB
   exact Lw
  ·unfold nP
   exact Lw
end
theorem EO (b : Bh) : PureF Tryz.prog p119.ix [.ag (eY b)] (.fn p147 [] [.pl (eY b) 0]) := by
 refine PureF.run Jw (by simp) (by simp [aN, Pu, aM]) ?_; conv => whnf
 refine Qg ?_
 refine Fin.t (.inr rfl) rfl ?_
 exact .fn .nil (.cons (Frz.ptr rfl rfl (by simp [eY]) (aM b)) .nil)
theorem Hv (c : Nat -> Int) : PureF Tryz.prog p143.ix [.ag (xR c)] (.b true) := by
 refine PureF.run Jn (by simp) (by simp [aN, Pu, La]) ?_; conv => whnf
 refine Qg ?_
 exact Fin.b rfl rfl
def kY (b : Bh) : Bool := (vS b).any fun _ => true
theorem sA (b : Bh) (V : VW b) (l1 : ∀ w ∈ b.winds, w.length <= 1000) (l2 : b.nts.length <= 1000) : PureF Tryz.prog p111.ix [.ag (eY b)] (.b (kY b)) := by
 have c1 := EO b
 have c2 := Hm (g := p143) (first := []) (caps := []) (P := fun _ => true) trivial trivial (fun c => Hv c) V l1 l2
 refine PureF.run KV (by simp) (by simp [aN, Pu, aM]) ?_; conv => whnf
 repeat' ((first | refine Qw ?_ | refine Qf c1 ?_ | refine Qf c2 ?_ | refine Qv ?_) <;> conv => whnf)
 exact Fin.b rfl rfl
def LU (c : Nat -> Int) : List Int := [c 0, c 1, c 2, c 3, c 4]
def Gt (b : Bh) (l : List Int) : Bool := (vS b).any fun c => decide ((LU c).take (hrs b) = l)
theorem pR {b : Bh} : ∀ {m h : Nat} {c c' : Nat → Int}, c' ∈ tY b m h c ↔ (∀ i, h ≤ i → i < h + m → c' i ∈ oA b i) ∧ ∀ i, (i < h ∨ h + m ≤ i) → c' i = c i
  | 0, h, c, c' => by
    unfold tY
    rw [List.mem_singleton]
    constructor
    · rintro rfl; exact ⟨fun i h1 h2 => absurd h2 (by omega), fun _ _ => rfl⟩
    · rintro ⟨_, k⟩
      exact funext fun i => k i (by omega)
  | m + 1, h, c, c' => by
    unfold tY
    rw [List.mem_flatMap]
    constructor
    · rintro ⟨f, hf, hc⟩
      obtain ⟨k1, k2⟩ := pR.1 hc
      refine ⟨fun i h1 h2 => ?_, fun i hi => ?_⟩
      · by_cases e : i = h
        · subst e; rw [k2 i (by omega), tV]; exact hf
        · exact k1 i (by omega) (by omega)
      · rw [k2 i (by omega), uQ _ _ (by omega)]
    · rintro ⟨k1, k2⟩
      refine ⟨c' h, k1 h (by omega) (by omega), pR.2 ⟨fun i h1 h2 => k1 i (by omega) (by omega), fun i hi => ?_⟩⟩
      by_cases e : i = h
      · subst e; rw [tV]
      · rw [uQ _ _ e]; exact k2 i (by omega)
structure TruP (b : Bh) (l : List Int) : Prop where
  len : l.length = hrs b
  mem : ∀ i, i < hrs b → l.getD i 0 ∈ oA b i
theorem Ay (c : Nat → Int) {i : Nat} (h : i < 5) : (LU c).getD i 0 = c i := by
  rcases Ek h with rfl | rfl | rfl | rfl | rfl <;> rfl
theorem tL {l : List Int} {n i : Nat} (h : i < n) : (l.take n).getD i 0 = l.getD i 0 := by
  simp [List.getD, h]
theorem gE (l : List Int) {i : Nat} (h : i < l.length) : l[i] = l.getD i 0 := by simp [List.getD, h]
theorem uV {b : Bh} (V : VW b) {l : List Int} : Gt b l = true ↔ TruP b l := by
  have hv := V.last
  have hn : hrs b ≤ 5 := by unfold hrs; omega
  unfold Gt vS
  rw [List.any_eq_true]
  constructor
  · rintro ⟨c, hc, e⟩
    have e := of_decide_eq_true e
    subst e
    obtain ⟨k1, _⟩ := pR.1 hc
    refine ⟨by simp [LU]; omega, fun i hi => ?_⟩
    rw [tL hi, Ay c (by omega)]
    exact k1 i (Nat.zero_le _) (by omega)
  · rintro ⟨h1, h2⟩
    refine ⟨fun i => if i < hrs b then l.getD i 0 else 0, pR.2 ⟨fun i _ hi => ?_, fun i hi => ?_⟩, decide_eq_true ?_⟩
    · have hi : i < hrs b := by omega
      show (if i < hrs b then l.getD i 0 else 0) ∈ _
      rw [if_pos hi]; exact h2 i hi
    · have hi : ¬ i < hrs b := by omega
      show (if i < hrs b then l.getD i 0 else 0) = 0
      rw [if_neg hi]
    · refine List.ext_getElem (by simp [LU]; omega) fun i a1 a2 => ?_
      rw [gE _ a1, gE _ a2, tL (by omega), Ay _ (by omega), if_pos (by omega)]
theorem hN {b : Bh} {i : Nat} {f : Int} : f ∈ oA b i ↔ f ∈ b.winds.getD i default ∧ ∀ n ∈ b.nts, n.1 = (i : Int) → n.2 = f := by
  unfold oA
  rw [List.mem_filter, List.all_eq_true]
  constructor
  · rintro ⟨a, k⟩
    exact ⟨a, fun n hn e => by rcases of_decide_eq_true (k n hn) with h | h; exact absurd e h; exact h⟩
  · rintro ⟨a, k⟩
    exact ⟨a, fun n hn => decide_eq_true (by by_cases e : n.1 = (i : Int); exact .inr (k n hn e); exact .inl e)⟩
def rH (b : Bh) (t : List Int) : Bool := decide (t.length = b.winds.length) && (List.range t.length).all fun i => Hg (b.winds.getD i default) (t.getD i 0)
def Dv (b : Bh) (t : List Int) : Bool := rH b t && b.nts.all fun n => decide (t.getD n.1.toNat 0 = n.2)
theorem rX {l : List Int} {n : Int} : Hg l n = true ↔ n ∈ l := by
  unfold Hg
  rw [List.any_eq_true]
  constructor
  · rintro ⟨x, hx, e⟩; rw [← of_decide_eq_true e]; exact hx
  · intro h; exact ⟨n, h, decide_eq_true rfl⟩
theorem qC {b : Bh} {t : List Int} : rH b t = true ↔ t.length = b.winds.length ∧ ∀ i, i < b.winds.length → t.getD i 0 ∈ b.winds.getD i default := by
  unfold rH
  rw [Bool.and_eq_true, decide_eq_true_iff, List.all_eq_true]
  constructor
  · rintro ⟨a, k⟩
    exact ⟨a, fun i hi => rX.1 (k i (List.mem_range.2 (by omega)))⟩
  · rintro ⟨a, k⟩
    exact ⟨a, fun i hi => rX.2 (k i (by have := List.mem_range.1 hi; omega))⟩
theorem VW.hrs {b : Bh} (V : VW b) : Go.Ev.hrs b = b.winds.length := by
  have := V.last; have := V.winl
  unfold Go.Ev.hrs; omega
theorem nA {b : Bh} (V : VW b) {t : List Int} : Dv b t = true ↔ TruP b t := by
  unfold Dv
  rw [Bool.and_eq_true, qC, List.all_eq_true]
  have hh := V.hrs
  have hv := V.last
  constructor
  · rintro ⟨⟨a, k⟩, q⟩
    refine ⟨by omega, fun i hi => hN.2 ⟨k i (by omega), fun n hn e => ?_⟩⟩
    have := of_decide_eq_true (q n hn)
    rw [e] at this
    exact this.symm
  · rintro ⟨a, k⟩
    refine ⟨⟨by omega, fun i hi => (hN.1 (k i (by omega))).1⟩, fun n hn => decide_eq_true ?_⟩
    have hb := lZ hv (List.all_eq_true.1 V.nts n hn)
    have hb2 := bW (by have := List.all_eq_true.1 V.nts n hn; unfold fJ at this; rw [Bool.and_eq_true] at this; exact this.1)
    have hi : n.1.toNat < Go.Ev.hrs b := by unfold Go.Ev.hrs; omega
    exact ((hN.1 (k _ hi)).2 n hn (by omega)).symm
structure Hr where
  sun : Int
  calm : Int
  good : Int
def DJ (x : Hr) : List D := [.i .i64 x.sun, .i .i64 x.calm, .i .i64 x.good]
def OY (x y : Hr) : Hr := ⟨x.sun + y.sun, x.calm + y.calm, x.good + y.good⟩
def IP (S : Nat → Nat → Int) : List D := [.i .i64 (S 0 0), .i .i64 (S 0 1), .i .i64 (S 0 2), .i .i64 (S 1 0), .i .i64 (S 1 1), .i .i64 (S 1 2), .i .i64 (S 2 0), .i .i64 (S 2 1), .i .i64 (S 2 2), .i .i64 (S 3 0), .i .i64 (S 3 1), .i .i64 (S 3 2), .i .i64 (S 4 0), .i .i64 (S 4 1), .i .i64 (S 4 2)]
theorem lQ (S : Nat → Nat → Int) : aN (IP S) := by simp [IP, aN, Pu]
namespace T
variable {α : Type}
def oH {β : Type} (p : Pos) (v : Option α) : T α → (T α → β) → β :=
  Pos.rec (fun t k => T.casesOn t (k (.n .e v .e)) (fun l _ r => k (.n l v r)))
    (fun _ ih t k => T.casesOn t (ih .e fun l => k (.n l none .e)) (fun l w r => ih l fun l => k (.n l w r)))
    (fun _ ih t k => T.casesOn t (ih .e fun r => k (.n .e none r)) (fun l w r => ih r fun r => k (.n l w r))) p
theorem eO {β : Type} : ∀ (p : Pos) (v : Option α) (t : T α) (k : T α → β), oH p v t k = k (oH p v t id)
  | .h, v, .e, k => rfl
  | .h, v, .n _ _ _, k => rfl
  | .o p, v, .e, k => by
    show oH p v .e (fun l => k (.n l none .e)) = k (oH p v .e fun l => .n l none .e)
    rw [eO p v .e, eO p v .e fun l => T.n l none .e]
  | .o p, v, .n l w r, k => by
    show oH p v l (fun l => k (.n l w r)) = k (oH p v l fun l => .n l w r)
    rw [eO p v l, eO p v l fun l => T.n l w r]
  | .i p, v, .e, k => by
    show oH p v .e (fun r => k (.n .e none r)) = k (oH p v .e fun r => .n .e none r)
    rw [eO p v .e, eO p v .e fun r => T.n .e none r]
  | .i p, v, .n l w r, k => by
    show oH p v r (fun r => k (.n l w r)) = k (oH p v r fun r => .n l w r)
    rw [eO p v r, eO p v r fun r => T.n l w r]
def putsK {β : Type} (us : List (Pos × Option α)) : T α → (T α → β) → β :=
  List.rec (fun t k => k t) (fun u _ ih t k => Prod.casesOn u fun p v => oH p v t fun t => ih t k) us
theorem putsK_eq {β : Type} : ∀ (us : List (Pos × Option α)) (t : T α) (k : T α → β), putsK us t k = k (putsK us t id)
  | [], t, k => rfl
  | (p, v) :: us, t, k => by
    show oH p v t (fun t => putsK us t k) = k (oH p v t fun t => putsK us t id)
    rw [eO p v t fun t => putsK us t k, eO p v t fun t => putsK us t id, putsK_eq us _ k]
end T
def X.up (ds us : List (Pos × Option D)) (os : List (Pos × Option C)) (nx : Pos) (x : X) : X := ⟨T.putsK us (T.putsK ds x.sl id) id, T.putsK os x.ob id, nx, none⟩
def X.upK (ds us : List (Pos × Option D)) (os : List (Pos × Option C)) (nx : Pos) (x : X) (k : X → Prop) : Prop := X.casesOn x fun sl ob _ _ => T.putsK ds sl fun sl => T.putsK us sl fun sl => T.putsK os ob fun ob => k ⟨sl, ob, nx, none⟩
theorem X.upK_eq (ds us : List (Pos × Option D)) (os : List (Pos × Option C)) (nx : Pos) (x : X) (k : X → Prop) : X.upK ds us os nx x k = k (X.up ds us os nx x) := by
  obtain ⟨sl, ob, nx0, lg⟩ := x
  show T.putsK ds sl (fun sl => T.putsK us sl fun sl => T.putsK os ob fun ob => k ⟨sl, ob, nx, none⟩) = k ⟨T.putsK us (T.putsK ds sl id) id, T.putsK os ob id, nx, none⟩
  rw [T.putsK_eq ds, T.putsK_eq us, T.putsK_eq os]
section
variable {P : Program} {nt : Nat} {σ : Type} {I : σ → Prop} {μ : σ → Nat} {s : σ} {z x : X} {ds : List (Pos × Option D)} {U : σ → List (Pos × Option D)} {O : σ → List (Pos × Option C)} {N : σ → Pos}
theorem Rn.loopU {a : RC} {K : Ex → X → Prop} (ds : List (Pos × Option D)) (U : σ → List (Pos × Option D)) (O : σ → List (Pos × Option C)) (N : σ → Pos) (I : σ → Prop) (μ : σ → Nat) (s0 : σ) (h0 : X.upK ds (U s0) (O s0) (N s0) x fun y => X.le y x) (i0 : I s0)
    (hb : ∀ s, I s → X.upK ds (U s) (O s) (N s) x fun y => Rn P nt a y (xU (fun s => X.up ds (U s) (O s) (N s) x) I μ s K)) : Rn P nt (.loop a) x K :=
  Rn.loopB (fun s => X.up ds (U s) (O s) (N s) x) I μ s0 (by have h := h0; rw [X.upK_eq] at h; exact h) i0 fun s hs => by have h := hb s hs; rw [X.upK_eq] at h; exact h
theorem AgainB.u (s' : σ) (h : μ s' < μ s) (i : I s') (n : (N s).nat ≤ (N s').nat) (l : X.upK ds (U s') (O s') (N s') x fun y => Shr z y) : AgainB (fun s => X.up ds (U s) (O s) (N s) x) I μ s z :=
  AgainB.sh s' h i n (by rw [X.upK_eq] at l; exact l)
theorem Rn.loopV {a : RC} {K : Ex → X → Prop} (ds : List (Pos × Option D)) (U : σ → List (Pos × Option D)) (O : σ → List (Pos × Option C)) (N : σ → Pos) (I : σ → Prop) (μ : σ → Nat) (s0 : σ) (h0 : X.upK ds (U s0) (O s0) (N s0) x fun y => X.le y x) (i0 : I s0)
    (hb : ∀ x', x' = x → ∀ s, I s → X.upK ds (U s) (O s) (N s) x fun y => Rn P nt a y (xU (fun s => X.up ds (U s) (O s) (N s) x') I μ s K)) : Rn P nt (.loop a) x K :=
  Rn.loopU ds U O N I μ s0 h0 i0 (hb x rfl)
theorem AgainB.v {x' : X} (s' : σ) (h : μ s' < μ s) (i : I s') (n : (N s).nat ≤ (N s').nat) (hx : x' = x) (l : X.upK ds (U s') (O s') (N s') x fun y => Shr z y) : AgainB (fun s => X.up ds (U s) (O s) (N s) x') I μ s z := by
  subst hx
  exact AgainB.u s' h i n l
end
theorem Fz.ptr {B : Pos → Prop} {ob : T C} {id : Pos} {st : Nat} {cs : List Cell} {cur : Nat} {r : List D} (hB : ¬ B id) (h : ob.get id = some (.cells false cs cur)) (hc : cs = r.map fun d => Cell.o d st) (h0 : 0 < r.length) (hp : aN r) : Fz B ob (.pt id 0 st) (.pl r 0) := by
  subst hc
  refine .pt hB h h0 (fun k d hk => ⟨.o d st, ?_, ?_, rfl⟩) (FzL.of hp)
  · rw [List.drop_zero, List.getElem?_map, hk]; rfl
  · show Nat.ble st st = true
    exact Nat.ble_eq_true_of_le (Nat.le_refl _)
section
variable {P : Program} {nt : Nat}
structure WReg (P : Program) (l : List RG) (x : X) (K : X → Prop) : Prop where
  ok : ∃ Z, LRr P l x Z ∧ K Z
theorem WReg.at {l : List RG} {x : X} {K : X → Prop} (h : wL P K l x) : WReg P l x K := ⟨AL h⟩
theorem WReg.cons {g : RG} {l : List RG} {x y : X} {K : X → Prop} (h : GR P g x y) (k : WReg P l y K) : WReg P (g :: l) x K :=
  let ⟨Z, h1, h2⟩ := k.ok
  ⟨Z, .cons h h1, h2⟩
theorem LRr.app {l m : List RG} {x y z : X} (h : LRr P l x y) (k : LRr P m y z) : LRr P (l ++ m) x z := by
  induction h with
  | nil => exact k
  | cons h1 _ ih => exact .cons h1 (ih k)
theorem GR.add {d : Pos} {a b : RX} {k : IntKind} {m n v : Int} {sl : T D} {ob : T C} {nx : Pos} {lg : Option (T Bool)} (ha : bC sl a = some (.i k m)) (hb : bC sl b = some (.i k n)) (hv : k.wrap (m + n) = v) : GR P (.u (.bin d .add a b)) ⟨sl, ob, nx, lg⟩ ⟨T.set d (.i k v) sl, ob, nx, lg⟩ := by
  refine .u (.st ?_)
  show dO d .add a b sl ob nx lg = _
  unfold dO
  rw [ha, hb]
  have hk : sI k k = true := fR.2 rfl
  simp only [fO, hk, cond_true, dF, aV, tX, aZ, T.setK_eq, hv]
theorem GR.sub {d : Pos} {a b : RX} {k : IntKind} {m n v : Int} {sl : T D} {ob : T C} {nx : Pos} {lg : Option (T Bool)} (ha : bC sl a = some (.i k m)) (hb : bC sl b = some (.i k n)) (hv : k.wrap (m - n) = v) : GR P (.u (.bin d .sub a b)) ⟨sl, ob, nx, lg⟩ ⟨T.set d (.i k v) sl, ob, nx, lg⟩ := by
  refine .u (.st ?_)
  show dO d .sub a b sl ob nx lg = _
  unfold dO
  rw [ha, hb]
  have hk : sI k k = true := fR.2 rfl
  simp only [fO, hk, cond_true, dF, aV, mM, aZ, T.setK_eq, hv]
end
theorem Fq {B : Pos → Prop} {ob : T C} {d e : D} (h : Fz B ob d e := by first | exact Fz.pu trivial | (refine Fz.i ?_; first | rfl | omega) | (refine Fz.kpt ?_; simp [Pos.nat, kE]; done) | (refine Fz.ksl ?_; simp [Pos.nat, kE]; done) | (refine Fz.kmp ?_; simp [Pos.nat, kE]; done)) : Fz B ob d e := h
theorem xH {n : Nat} {ob : T C} {id : Pos} {c c' : C} (k : ShC (fun id => id.nat < n) ob c c') (h : id.nat < n := by show Pos.nat _ < Pos.nat _; simp [Pos.nat, kE]; done) : RO' n ob id c c' := ⟨h, k⟩
theorem Sq {B : Pos → Prop} {ob : T C} {ro : Bool} {cs : List Cell} {cur : Nat} (h : ∀ c ∈ cs, Fz B ob c.d c.d := by (repeat' first | exact ShC.nl | refine ShC.cn ?_ ?_) <;> exact Fq) : ShC B ob (.cells ro cs cur) (.cells ro cs cur) := ShC.same h
section
variable {α : Type} {f : α → List D}
theorem ShC.na {B : Pos → Prop} {ob : T C} (hp : ∀ a, aN (f a)) (x : α) : ShC B ob (.cells false ((f x).map fun d => Cell.o d 0) 1) (.cells false ((aO f [x]).flatten.map fun d => Cell.o d 0) 1) := by
  have e : (aO f [x]).flatten = f x := by simp [aO]
  rw [e]
  refine ShC.same fun c hc => ?_
  obtain ⟨d, hd, rfl⟩ := List.mem_map.1 hc
  exact .pu (aS.1 (hp _) d hd)
theorem ShC.ca {B : Pos → Prop} {ob : T C} {m : Nat} (hp : ∀ a, aN (f a)) (A : List α) (x : α) : ShC B ob (.cells false (((aO f A).flatten.map fun d => Cell.o d m) ++ (f x).map fun d => Cell.o d (m + 1)) (m + 1 + 1)) (.cells false (((aO f A).flatten ++ f x).map fun d => Cell.o d (m + 1)) (m + 1 + 1)) := by
  refine ShC.grown (by omega) (aS.2 fun d hd => ?_)
  rcases List.mem_append.1 hd with hd | hd
  · exact aS.1 (hY hp _) d hd
  · exact aS.1 (hp _) d hd
end
section
variable {P : Program}
theorem WReg.N (n : Nat) {l : List RG} {x : X} {K : X → Prop} (h : wL P (fun y => WReg P (l.drop n) y K) (l.take n) x) : WReg P l x K := by
  obtain ⟨Y, h1, h2⟩ := AL h
  obtain ⟨Z, h3, h4⟩ := h2.ok
  exact ⟨Z, by have := LRr.app h1 h3; rwa [List.take_append_drop] at this, h4⟩
end
theorem HG (a : Hr) : aN (DJ a) := by simp [DJ, aN, Pu]
def nS (xs : List Hr) : List D := [.lst 3 (aO DJ xs)]
theorem jF (xs : List Hr) : aN (nS xs) := by
 simp only [nS, aN, Pu, and_true]
 exact fP HG xs
theorem Cv.ns {γ γ' : Gh} {w : World} {z : Nat} : Cv γ γ' w .ns (.lst z []) := fun v h => by
 unfold DV at h ⊢
 exact ⟨none, 0, h, Nat.le_refl _, fun _ => rfl, .inl rfl⟩
theorem Ot (r : List D) (st : Nat) : Vis st ((r.map fun d => Cell.o d st).drop 0) r := fun k d hk => ⟨.o d st, by rw [List.drop_zero, List.getElem?_map, hk]; rfl, Nat.ble_eq_true_of_le (Nat.le_refl _), rfl⟩
def IC (b : Bh) : Bh := ⟨b.last, b.rws, b.pls, b.rch, b.face, b.sun, b.winds, b.brk, []⟩
theorem VW.nt {b : Bh} (V : VW b) : VW (IC b) := { V with nts := rfl }
structure FzW (b : Bh) : Prop where
 v : VW b
 l4 : b.brk.length <= 4
 l5 : b.nts.length <= 5
theorem gD {b : Bh} (h : bD b = 0) : FzW b := by
 unfold bD at h
 by_cases hb : Fw b = true
 ·rw [if_pos hb] at h; exact absurd h (by decide)
 ·rw [if_neg hb] at h
  have hb : ¬ (4 < b.last \/ 3 < b.rws \/ 5 < b.pls \/ 4 < b.brk.length \/ 5 < b.nts.length) := fun k => hb (gW.2 k)
  cases hv : fW b with
  | false => rw [hv] at h; exact absurd h (by decide)
  | true => exact ⟨VW.iff.1 hv, by omega, by omega⟩
section
variable {sl : T D} {ob : T C} {nx : Pos} {lg : Option (T Bool)} {K : X → Prop}
theorem WSt.app_firstL {d idy : Pos} {z curY : Nat} {roY : Bool} {x y : RX} {a : D} {r : List D} {csY : List Cell} (hx : bC sl x = some a) (ha : a = .ns ∨ a = .em) (hy : bC sl y = some (.sl idy 0 1 0 z)) (hoy : ob.get idy = some (.cells roY csY curY)) (hcy : csY = r.map fun d => Cell.o d 0) (hr : r.length = z)
    (h : KY lg idy fun lg => Lu lg nx fun lg => T.setK nx (.cells false (r.map fun d => Cell.o d 0) 1) ob fun ob => Pos.succK nx fun nx' => dG sl ob nx' lg d K (.sl nx 0 1 0 z)) : WSt (.app d z x y) ⟨sl, ob, nx, lg⟩ K := by
  obtain ⟨l1, e1, h⟩ := uA h
  obtain ⟨l2, e2, h⟩ := vH h
  rw [T.setK_eq, Pos.succK_eq] at h
  obtain ⟨h2, h3⟩ := aT h
  refine ⟨_, ?_, h3⟩
  show dP d z x y sl ob nx lg = _
  unfold dP
  rw [hx, hy]
  subst hcy hr
  have hb : Nat.beq r.length r.length = true := Nat.beq_refl _
  have hrd : dV (β := X) 0 (Nat.mul 1 r.length) (dB 0 (r.map fun d => Cell.o d 0)) = fun k => k r := by
    rw [bK, List.drop_zero, show Nat.mul 1 r.length = r.length from Nat.one_mul _]
    have key : ∀ (l : List D) (k : List D → Option X), dV 0 l.length (l.map fun d => Cell.o d 0) k = k l := by
      intro l
      induction l with
      | nil => exact fun k => rfl
      | cons a l ih => exact fun k => ih fun ds => k (a :: ds)
    exact funext fun k => key r k
  simp only [pI, hb, cond_true, hoy, hrd, rK, e1]
  have hle : Nat.ble (Nat.succ 0) 2147483648 = true := rfl
  rcases ha with rfl | rfl <;> simp only [hle, cond_true, gQ, eK, e2, T.setK_eq, Pos.succK_eq] <;> exact h2
theorem WSt.app_oneL {d id idy : Pos} {z st len len' cur curY : Nat} {roY : Bool} {x y : RX} {ds r : List D} {csY : List Cell} {ob2 : T C} (hx : bC sl x = some (.sl id 0 len st z)) (hy : bC sl y = some (.sl idy 0 1 0 z)) (hoy : ob.get idy = some (.cells roY csY curY)) (hcy : csY = r.map fun d => Cell.o d 0) (hr : r.length = z) (hox : ob.get id = some (.cells false (ds.map fun d => Cell.o d st) cur)) (hds : ds.length = len * z) (hcur : cur = st + 1) (hlen : len' = len + 1) (hmax : len < 2147483648)
    (hob2 : T.set id (.cells false ((ds.map fun d => Cell.o d st) ++ r.map fun d => Cell.o d cur) (cur + 1)) ob = ob2) (h : KY lg idy fun lg => Lu lg id fun lg => dG sl ob2 nx lg d K (.sl id 0 len' cur z)) : WSt (.app d z x y) ⟨sl, ob, nx, lg⟩ K := by
  obtain ⟨l1, e1, h⟩ := uA h
  obtain ⟨l2, e2, h⟩ := vH h
  obtain ⟨h2, h3⟩ := aT h
  refine ⟨_, ?_, h3⟩
  show dP d z x y sl ob nx lg = _
  unfold dP
  rw [hx, hy]
  subst hcy hr hlen hob2
  have hb : Nat.beq r.length r.length = true := Nat.beq_refl _
  have hrd : dV (β := X) 0 (Nat.mul 1 r.length) (dB 0 (r.map fun d => Cell.o d 0)) = fun k => k r := by
    rw [bK, List.drop_zero, show Nat.mul 1 r.length = r.length from Nat.one_mul _]
    have key : ∀ (l : List D) (k : List D → Option X), dV 0 l.length (l.map fun d => Cell.o d 0) k = k l := by
      intro l
      induction l with
      | nil => exact fun k => rfl
      | cons a l ih => exact fun k => ih fun ds => k (a :: ds)
    exact funext fun k => key r k
  simp only [pI, hb, cond_true, hoy, hrd, rK, e1]
  simp only [hox]
  have hidx : Nat.add 0 (Nat.mul len r.length) = ds.length := by rw [hds]; exact Nat.zero_add _
  rw [hidx, oB ds cur _ hcur]
  simp only [List.append_nil, bB, eP, e2, T.setK_eq]
  have e3 : Nat.add len (Nat.succ 0) = len + 1 := rfl
  rw [e3, Nat.ble_eq_true_of_le (show len + 1 ≤ 2147483648 from hmax)]
  exact h2
end
end Go.Ev
end
