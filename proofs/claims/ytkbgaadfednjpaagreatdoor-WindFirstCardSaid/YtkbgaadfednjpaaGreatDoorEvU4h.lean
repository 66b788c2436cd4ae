import Derived.Test.YtkbgaadfednjpaaGreatDoorEvU4e
import Derived.Test.YtkbgaadfednjpaaGreatDoorEvUDs
set_option linter.all false
set_option maxHeartbeats 8000000
noncomputable section
namespace Go.Ev
open Go.Proofs
set_option maxRecDepth 100000
theorem RndOk.ofW {P : Program} {id : Pos} {ds : List D} {ob ob' : T C} {nx nx' : Pos} {v : D} (h : WRnd P id ds (some .h) ⟨.e, ob, nx, none⟩ (fun x => x = ⟨.n .e (some v) .e, ob', nx', none⟩)) : RndOk P id ds ob nx none v ob' nx' none := by
  obtain ⟨v1, ob1, nx1, lg1, Z, h1, h2, h3⟩ := h.ok
  subst h3
  have h2 : T.setK .h v1 (T.e : T D) (fun sl => some (⟨sl, ob1, nx1, lg1⟩ : X)) = some ⟨.n .e (some v) .e, ob', nx', none⟩ := h2
  rw [T.setK_eq] at h2
  obtain ⟨e1, e2, e3, e4⟩ := X.mk.inj (Option.some.inj h2)
  have e1 := congrArg (fun t => T.get t .h) e1
  have e1 : (T.set .h v1 (T.e : T D)).get .h = some v := e1
  rw [T.get_set_same] at e1
  have e1 := Option.some.inj e1
  subst e1 e2 e3 e4
  exact h1
def Bk (x1 x2 x3 : Option C) : T C := .n (.n .e x2 .e) x1 (.n .e x3 .e)
theorem EK {x1 x2 x3 y1 y2 y3 : Option C} {a b c d : T C} : Beside (.o (.o .h)) (Bk y1 y2 y3) (.n (.n a x2 b) x1 (.n c x3 d)) (.n (.n a y2 b) y1 (.n c y3 d)) := by
  refine ⟨fun id c' hid hc => ?_, fun id hle => ?_⟩
  · cases id with
    | h => exact hc
    | o p => cases p with
      | h => exact hc
      | o q => have := q.nat_pos; have hid : 2 * (2 * q.nat) < 4 := hid; omega
      | i q => have := q.nat_pos; have hid : 2 * (2 * q.nat + 1) < 4 := hid; omega
    | i p => cases p with
      | h => exact hc
      | o q => have := q.nat_pos; have hid : 2 * (2 * q.nat) + 1 < 4 := hid; omega
      | i q => have := q.nat_pos; have hid : 2 * (2 * q.nat + 1) + 1 < 4 := hid; omega
  · cases id with
    | h => exact absurd hle (by decide)
    | o p => cases p with
      | h => exact absurd hle (by decide)
      | o q => rfl
      | i q => rfl
    | i p => cases p with
      | h => exact absurd hle (by decide)
      | o q => rfl
      | i q => rfl
def mT (c : Nat → Int) (k : Nat) (v : Int) (i : Nat) : Int := bif Nat.beq i k then v else c i
theorem sJ (c : Nat → Int) (k : Nat) (v : Int) : mT c k v k = v := by simp [mT]
theorem tE (c : Nat → Int) {k i : Nat} (v : Int) (h : i ≠ k) : mT c k v i = c i := by
  unfold mT
  rw [show Nat.beq i k = false from by
    cases e : Nat.beq i k with
    | false => rfl
    | true => exact absurd (Nat.eq_of_beq_eq_true e) h]
  rfl
theorem Aw (c : Nat → Int) (k : Nat) : mT c k (c k) = c := funext fun i => by
  by_cases e : i = k
  · subst e; rw [sJ]
  · rw [tE _ _ e]
theorem rZ {h : Nat} (k : h < 5) : h = 0 ∨ h = 1 ∨ h = 2 ∨ h = 3 ∨ h = 4 := by omega
def wF (c : Nat → Int) : List D := [.i .i64 (c 0), .i .i64 (c 1), .i .i64 (c 2), .i .i64 (c 3), .i .i64 (c 4)]
theorem JT (c : Nat → Int) : aO (wF c) := by simp [wF, aO, Pu]
def Lr (c : Nat → Int) : C := .cells false ((wF c).map fun d => Cell.o d 0) 1
def sM (b : Bh) : Nat → Nat → (Nat → Int) → List (Nat → Int)
  | 0, _, c => [c]
  | m + 1, h, c => (aI b h).flatMap fun f => sM b m (h + 1) (mT c h f)
theorem wY {b : Bh} {m h : Nat} {c : Nat → Int} {P : (Nat → Int) → Bool} (k : ∀ i, i < (aI b h).length → (sM b m (h + 1) (mT c h ((aI b h).getD i 0))).any P = false) : (sM b (m + 1) h c).any P = false := by
  unfold sM
  rw [List.any_flatMap, List.any_eq_false]
  intro f hf
  obtain ⟨i, hi, rfl⟩ := xI (d := (0 : Int)) hf
  rw [k i hi]; decide
theorem uW {b : Bh} {m h : Nat} {c : Nat → Int} {P : (Nat → Int) → Bool} {i : Nat} (hi : i < (aI b h).length) (k : (sM b m (h + 1) (mT c h ((aI b h).getD i 0))).any P = true) : (sM b (m + 1) h c).any P = true := by
  unfold sM
  rw [List.any_flatMap, List.any_eq_true]
  exact ⟨_, aU (d := (0 : Int)) hi, k⟩
def lM (x1 x2 x3 x4 x5 x6 : Option C) : T C := .n (.n (.n .e x4 .e) x2 (.n .e x6 .e)) x1 (.n (.n .e x5 .e) x3 .e)
def Hl (g : Pos) (first caps : List D) (b : Bh) : T D := (.n (.n (.n .e (some (.pt .h 0 0)) .e) (some (.fn g first caps)) .e) none (.n (.n .e (some (.pt (.o .h) 0 0)) .e) none (.n .e (some (.fn p147 [] [.pl (dR b) 0])) .e)))
def Le (g : Pos) (first caps : List D) : C := .cells false [.o (.fn g first caps) 0] 1
def HL (s : Bool) : C := .cells false [.o (.b s) 0] 1
def LC (g : Pos) (first caps : List D) (b : Bh) (s : Bool) : C := .lp (Hl g first caps b) [p8] 11 (Nj (aN Tryz.f117) 0) (Md (aN Tryz.f117) 0) (bif s then .done else .ready) (bif s then some .ret else none)
def DW (g : Pos) (first caps : List D) (b : Bh) (s : Bool) : T C := Bk (some (Le g first caps)) (some (HL s)) (some (LC g first caps b s))
def NL : C := .cells false [.o (.yl (.i .h)) 0] 1
def NR (b : Bh) : C := .cells false [.o (.fn p148 [] [.pl (dR b) 0, .pt (.o (.o .h)) 0 0, .pt (.i (.o .h)) 0 0]) 0] 1
def EL (g : Pos) (first caps : List D) (b : Bh) (s : Bool) (x6 : Option C) : T C := lM (some (Le g first caps)) (some (HL s)) (some (LC g first caps b s)) (some NL) (some (NR b)) x6
section
variable {g : Pos} {first caps : List D} {b : Bh}
theorem Do (h1 : aO first) (h2 : aO caps) {n : Nat} (hn : 4 ≤ n) : ∀ s d, (Hl g first caps b).get s = some d → Kp n d := by
  have k1 := KpL.pu (n := n) first h1
  have k2 := KpL.pu (n := n) caps h2
  show TAll (fun _ d => Kp n d) (Hl g first caps b)
  unfold Hl
  repeat' first | exact TAll.e | refine TAll.some ?_ ?_ ?_ | refine TAll.none ?_ ?_
  all_goals simp [Kp, KpL, Pu, aM, k1, k2, Pos.nat]
  all_goals omega
theorem tG (h1 : aO first) (h2 : aO caps) (s : Bool) {n : Nat} (hn : 4 ≤ n) : KpO n (DW g first caps b s) := by
  have k1 := KpL.pu (n := n) first h1
  have k2 := KpL.pu (n := n) caps h2
  have hs := Do h1 h2 hn (g := g) (b := b)
  show TAll (fun id c => id.nat < n ∧ KpC n c) _
  unfold DW Bk Le HL LC
  repeat' first | exact TAll.e | refine TAll.some ?_ ?_ ?_ | refine TAll.none ?_ ?_
  all_goals refine ⟨by simp [Pos.nat]; omega, ?_⟩
  all_goals first
    | exact hs
    | (refine KpL.all ?_; simp [KpL, Kp, Cell.d, Pu, k1, k2, Pos.nat])
theorem lC (h1 : aO first) (h2 : aO caps) (s : Bool) {n : Nat} (hn : 6 ≤ n) : KpO n (EL g first caps b s none) := by
  have k1 := KpL.pu (n := n) first h1
  have k2 := KpL.pu (n := n) caps h2
  have hs := Do h1 h2 (n := n) (by omega) (g := g) (b := b)
  show TAll (fun id c => id.nat < n ∧ KpC n c) _
  unfold EL lM Le HL LC NL NR
  repeat' first | exact TAll.e | refine TAll.some ?_ ?_ ?_ | refine TAll.none ?_ ?_
  all_goals refine ⟨by simp [Pos.nat]; omega, ?_⟩
  all_goals first
    | exact hs
    | (refine KpL.all ?_; simp [KpL, Kp, Cell.d, Pu, aM, k1, k2, Pos.nat]; try omega)
end
set_option maxHeartbeats 2000000 in
theorem Gq {g : Pos} {first caps : List D} {b : Bh} {P : (Nat → Int) → Bool} (h1 : aO first) (h2 : aO caps) (hg : ∀ c, PureF Tryz.prog g.ix (first ++ ([.ag (wF c)] ++ caps)) (.b (P c))) (c : Nat → Int) :
    RndOk Tryz.prog (.i .h) [.ag (wF c)] (DW g first caps b false) (.o (.o .h)) none (.b (!P c)) (DW g first caps b (P c)) (.o (.o .h)) none := by
  have cg := hg c
  refine RndOk.ofW ?_
  cases hP : P c with
  | true =>
    rw [hP] at cg
    refine WRnd.run rfl pG qE ⟨_, rfl, ?_⟩
    conv => whnf
    repeat' first | ((first | refine Qz ?_) <;> conv => whnf)
    refine ⟨rfl, rfl, _, _, _, _, _, _, rfl, ?_⟩
    conv => whnf
    repeat' first | ((first | refine Qz ?_ | refine Qf (cg) ?_ | refine Qy ?_) <;> conv => whnf) | (refine WB.tt ?_; conv => whnf) | (refine WB.ff ?_; conv => whnf)
    refine ⟨_, _, _, _, _, _, _, DW g first caps b true, .o (.o .h), rfl, rfl, ?_, Nat.le_refl _, rfl⟩
    refine Shr.kp ?_ (tG h1 h2 _ (by decide))
    unfold DW Bk
    (repeat' first | exact T.le_e _ | exact T.le_refl _ | refine T.le_some ?_ rfl ?_ | refine T.le_none ?_ ?_ | refine T.le_ee ?_ ?_)
  | false =>
    rw [hP] at cg
    refine WRnd.run rfl pG qE ⟨_, rfl, ?_⟩
    conv => whnf
    repeat' first | ((first | refine Qz ?_) <;> conv => whnf)
    refine ⟨rfl, rfl, _, _, _, _, _, _, rfl, ?_⟩
    conv => whnf
    repeat' first | ((first | refine Qz ?_ | refine Qf (cg) ?_ | refine Qy ?_) <;> conv => whnf) | (refine WB.tt ?_; conv => whnf) | (refine WB.ff ?_; conv => whnf)
    refine ⟨_, _, _, _, _, _, _, DW g first caps b false, .o (.o .h), rfl, rfl, ?_, Nat.le_refl _, rfl⟩
    refine Shr.kp ?_ (tG h1 h2 _ (by decide))
    unfold DW Bk
    (repeat' first | exact T.le_e _ | exact T.le_refl _ | refine T.le_some ?_ rfl ?_ | refine T.le_none ?_ ?_ | refine T.le_ee ?_ ?_)
theorem Ah {x1 x2 x3 x4 x5 x6 y1 y2 y3 y4 y5 : Option C} : Beside (.o (.i .h)) (lM y1 y2 y3 y4 y5 none) (lM x1 x2 x3 x4 x5 x6) (lM y1 y2 y3 y4 y5 x6) := by
  refine ⟨fun id c' hid hc => ?_, fun id hle => ?_⟩
  · cases id with
    | h => exact hc
    | o p => cases p with
      | h => exact hc
      | o q => cases q with
        | h => exact hc
        | o r => exact hc
        | i r => exact hc
      | i q => have := q.nat_pos; have hid : 2 * (2 * q.nat + 1) < 6 := hid; omega
    | i p => cases p with
      | h => exact hc
      | o q => cases q with
        | h => exact hc
        | o r => exact hc
        | i r => exact hc
      | i q => exact hc
  · cases id with
    | h => exact absurd hle (by decide)
    | o p => cases p with
      | h => exact absurd hle (by decide)
      | o q => cases q with
        | h => exact absurd hle (by decide)
        | o r => rfl
        | i r => rfl
      | i q => rfl
    | i p => cases p with
      | h => exact absurd hle (by decide)
      | o q => cases q with
        | h => exact absurd hle (by decide)
        | o r => rfl
        | i r => rfl
      | i q => rfl
theorem T.le_sameS {α : Type} {l r l' r' : T α} {v : Option α} (hl : T.le l l') (hr : T.le r r') : T.le (.n l v r) (.n l' v r') := T.le_n hl (.inr rfl) hr
def Ff (b : Bh) (h : Nat) (W : List Int) (j : Nat) : T D := (.n (.n (.n .e (some (.pt (.o (.o .h)) 0 0)) .e) (some (.i .i64 (h : Int))) (.n .e (some (.pt (.o (.i .h)) 0 0)) (.n (.n .e (some (.i .i64 (W.length : Int))) .e) none .e))) none (.n (.n .e (some (.pt (.i (.o .h)) 0 0)) (.n (.n .e (some (.lst 1 (ints W))) .e) none .e)) (some (.pl (dR b) 0)) (.n .e none (.n (.n .e (some (.i .i64 (j : Int))) .e) none .e))))
theorem GP {b : Bh} {h : Nat} {W : List Int} {j n : Nat} (hn : 7 ≤ n) : ∀ s d, (Ff b h W j).get s = some d → Kp n d := by
  show TAll (fun _ d => Kp n d) (Ff b h W j)
  unfold Ff
  repeat' first | exact TAll.e | refine TAll.some ?_ ?_ ?_ | refine TAll.none ?_ ?_
  all_goals simp [Kp, KpL, Pu, aM, aC, Pos.nat]
  all_goals omega
theorem Gw (c : Nat → Int) (n : Nat) : KpC n (Lr c) := by
  refine KpL.all ?_
  simp [wF, KpL, Kp, Cell.d, Pu]
theorem FS {g : Pos} {first caps : List D} {b : Bh} (h1 : aO first) (h2 : aO caps) (s : Bool) (c : Nat → Int) {n : Nat} (hn : 7 ≤ n) : KpO n (EL g first caps b s (some (Lr c))) := by
  have k := lC (g := g) (b := b) h1 h2 s (n := n) (by omega)
  intro id x hx
  by_cases e : id = .o (.i .h)
  · subst e
    cases hx
    exact ⟨by show 6 < n; omega, Gw c n⟩
  · refine k id x ?_
    cases id with
    | h => exact hx
    | o p => cases p with
      | h => exact hx
      | o q => exact hx
      | i q => cases q with
        | h => exact absurd rfl e
        | o r => exact hx
        | i r => exact hx
    | i p => exact hx
section
variable {g : Pos} {first caps : List D} {b : Bh} {P : (Nat → Int) → Bool}
set_option maxHeartbeats 8000000 in
theorem vL (h1 : aO first) (h2 : aO caps) (hg : ∀ c, PureF Tryz.prog g.ix (first ++ ([.ag (wF c)] ++ caps)) (.b (P c))) (V : VW b) (l1 : ∀ w ∈ b.winds, w.length ≤ 1000) (l2 : b.nts.length ≤ 1000) : ∀ (m h : Nat), ((h + m : Nat) : Int) = b.last + 1 → ∀ c,
    CallOk Tryz.prog p148.ix [.ag (wF c), .i .i64 (h : Int), .pl (dR b) 0, .pt (.o (.o .h)) 0 0, .pt (.i (.o .h)) 0 0] (EL g first caps b false none) (.o (.i .h)) none (.b (!(sM b m h c).any P)) (EL g first caps b ((sM b m h c).any P) none) (.o (.i .h)) none
  | 0, h, hm, c => by
    have R := Gq (g := g) (b := b) h1 h2 hg c
    have hP : (sM b 0 h c).any P = P c := by simp [sM]
    rw [hP]
    refine CallOk.run Ft (by simp) (Nat.le_refl _) ?_; conv => whnf
    repeat' first | ((first | refine Qz ?_ | with_reducible (first | refine Qm ?_ | refine Qn ?_ | refine Qo ?_ | refine Qp ?_ | refine WB.nt ?_ | refine WB.nf ?_ | refine WB.dec (fun h => ?_) (fun h => ?_) | refine WB.ndec (fun h => ?_) (fun h => ?_)) | refine WB.mk (fun h => ?_) (fun h => ?_)) <;> conv => whnf) | (refine WB.tt ?_; conv => whnf) | (refine WB.ff ?_; conv => whnf)
    refine WRnd.fr R (by decide) ?_ (tG h1 h2 _ (by decide)) ?_ EK (by decide) (LgLe.refl _) (fun _ _ => trivial) ?_
    · show T.le (Bk _ _ _) (lM _ _ _ _ _ _)
      unfold Bk lM
      (repeat' first | exact T.le_e _ | exact T.le_refl _ | refine T.le_sameS ?_ ?_ | refine T.le_none ?_ ?_ | refine T.le_ee ?_ ?_)
    · simp [KpL, Kp, Pu, aO, wF]
    conv => whnf
    repeat' first | ((first | refine Qz ?_) <;> conv => whnf)
    refine ⟨.inr rfl, ⟨_, rfl, .pu trivial⟩, Shr.kp ?_ (lC h1 h2 _ (by decide))⟩
    show T.le (lM _ _ _ _ _ _) _
    unfold lM
    (repeat' first | exact T.le_e _ | exact T.le_refl _ | refine T.le_sameS ?_ ?_ | refine T.le_none ?_ ?_ | refine T.le_ee ?_ ?_)
  | m + 1, h, hm, c => by
    have hv4 := V.last
    have hwl := V.winl
    have h5 : h < 5 := by omega
    have hh : h < b.winds.length := by omega
    have hl := l1 _ (aU (d := (default : List Int)) hh)
    have cW := Aa b V h hh hl l2
    have ih := fun c => vL h1 h2 hg V l1 l2 m (h + 1) (by omega) c
    have hno := wY (b := b) (m := m) (h := h) (c := c) (P := P)
    have hyes := fun i hi => uW (b := b) (m := m) (h := h) (c := c) (P := P) (i := i) hi
    have hWl : (aI b h).length ≤ 1000 := Nat.le_trans (List.length_filter_le _ _) (by exact hl)
    generalize aI b h = W at *
    have e2 := aP W
    generalize hX : (sM b (m + 1) h c).any P = fo at *
    refine CallOk.run Ft (by simp) (Nat.le_refl _) ?_; conv => whnf
    repeat' first | ((first | refine Qz ?_ | refine Qf (cW) ?_ | refine Qy ?_) <;> conv => whnf) | (refine WB.tt ?_; conv => whnf) | (refine WB.ff ?_; conv => whnf)
    refine Rn.loop (fun t : Nat × Int => ⟨Ff b h W t.1, EL g first caps b false (some (Lr (mT c h t.2))), .i (.i .h), none⟩) (fun t => t.1 ≤ W.length ∧ ∀ i, i < t.1 → (sM b m (h + 1) (mT c h (W.getD i 0))).any P = false) (fun t => W.length - t.1) (0, c h) ?_ ⟨Nat.zero_le _, fun i hi => absurd hi (Nat.not_lt_zero _)⟩ ?_
    · refine X.le.mk ?_ ?_ (Nat.le_refl _) rfl rfl
      · unfold Ff
        rw [← e2]
        (repeat' first | exact T.le_e _ | exact T.le_refl _ | refine T.le_some ?_ rfl ?_ | refine T.le_none ?_ ?_ | refine T.le_ee ?_ ?_)
      · rw [Aw]
        show T.le (lM _ _ _ _ _ _) _
        unfold lM
        (repeat' first | exact T.le_e _ | exact T.le_refl _ | refine T.le_some ?_ rfl ?_ | refine T.le_none ?_ ?_ | refine T.le_ee ?_ ?_)
    rintro ⟨j, v⟩ ⟨hj, ha⟩
    have hj : j ≤ W.length := hj
    have ha : ∀ i, i < j → (sM b m (h + 1) (mT c h (W.getD i 0))).any P = false := ha
    show Rn Tryz.prog 36 _ ⟨Ff b h W j, EL g first caps b false (some (Lr (mT c h v))), .i (.i .h), none⟩ _
    conv => whnf
    repeat' first | ((first | refine Qz ?_ | refine Qy ?_) <;> conv => whnf) | (refine WB.tt ?_; conv => whnf) | (refine WB.ff ?_; conv => whnf)
    refine WB.dec (fun hd => ?_) (fun hd => ?_) <;> conv => whnf
    · have hlt : j < W.length := by omega
      have C := ih (mT c h (W.getD j 0))
      cases hgo : (sM b m (h + 1) (mT c h (W.getD j 0))).any P with
      | true =>
        rw [hgo] at C
        have hX := hyes j hlt hgo
        subst hX
        clear ih hno hyes ha
        rcases rZ h5 with rfl | rfl | rfl | rfl | rfl
        all_goals
          repeat' first | ((first | refine Qz ?_ | refine Qy ?_) <;> conv => whnf) | (refine WB.tt ?_; conv => whnf) | (refine WB.ff ?_; conv => whnf)
          refine WSt.ixaN rfl rfl rfl (by omega) ?_; conv => whnf
          repeat' first | ((first | refine Qz ?_ | refine Qy ?_) <;> conv => whnf) | (refine WB.tt ?_; conv => whnf) | (refine WB.ff ?_; conv => whnf)
          refine WCall.fr C ?_ (lC h1 h2 _ (by decide)) ?_ Ah (by decide) (LgLe.refl _) (fun _ _ => trivial) ?_
          · show T.le (lM _ _ _ _ _ _) _
            unfold lM
            (repeat' first | exact T.le_e _ | exact T.le_refl _ | refine T.le_sameS ?_ ?_ | refine T.le_none ?_ ?_ | refine T.le_ee ?_ ?_)
          · simp [KpL, Kp, Pu, aO, Pos.nat, wF, aM]
          conv => whnf
          repeat' first | ((first | refine Qz ?_ | refine Qy ?_) <;> conv => whnf) | (refine WB.tt ?_; conv => whnf) | (refine WB.ff ?_; conv => whnf)
          refine ⟨.inr rfl, ⟨_, rfl, .pu trivial⟩, Shr.kp ?_ (lC h1 h2 _ (by decide))⟩
          show T.le (lM _ _ _ _ _ _) (lM _ _ _ _ _ _)
          unfold lM
          (repeat' first | exact T.le_e _ | exact T.le_refl _ | refine T.le_sameS ?_ ?_ | refine T.le_none ?_ ?_ | refine T.le_ee ?_ ?_)
      | false =>
        rw [hgo] at C
        clear ih hno hyes
        rcases rZ h5 with rfl | rfl | rfl | rfl | rfl
        all_goals
          repeat' first | ((first | refine Qz ?_ | refine Qy ?_) <;> conv => whnf) | (refine WB.tt ?_; conv => whnf) | (refine WB.ff ?_; conv => whnf)
          refine WSt.ixaN rfl rfl rfl (by omega) ?_; conv => whnf
          repeat' first | ((first | refine Qz ?_ | refine Qy ?_) <;> conv => whnf) | (refine WB.tt ?_; conv => whnf) | (refine WB.ff ?_; conv => whnf)
          refine WCall.fr C ?_ (lC h1 h2 _ (by decide)) ?_ Ah (by decide) (LgLe.refl _) (fun _ _ => trivial) ?_
          · show T.le (lM _ _ _ _ _ _) _
            unfold lM
            (repeat' first | exact T.le_e _ | exact T.le_refl _ | refine T.le_sameS ?_ ?_ | refine T.le_none ?_ ?_ | refine T.le_ee ?_ ?_)
          · simp [KpL, Kp, Pu, aO, Pos.nat, wF, aM]
          conv => whnf
          repeat' first | ((first | refine Qz ?_ | refine Qy ?_) <;> conv => whnf) | (refine WB.tt ?_; conv => whnf) | (refine WB.ff ?_; conv => whnf)
          refine Again.to (j + 1, W.getD j 0) (show W.length - (j + 1) < W.length - j by omega) ⟨show j + 1 ≤ W.length by omega, fun i hi => ?_⟩ (Nat.le_refl _) (Shr.kp2 ?_ (GP (by decide)) ?_ (FS h1 h2 _ _ (by decide)))
          · by_cases e : i = j
            · subst e; exact hgo
            · exact ha i (by have hi : i < j + 1 := hi; omega)
          · show T.le (Ff b _ W (j + 1)) _
            unfold Ff
            (repeat' first | exact T.le_e _ | exact T.le_refl _ | refine T.le_some ?_ rfl ?_ | refine T.le_none ?_ ?_ | refine T.le_ee ?_ ?_)
          · show T.le (lM _ _ _ _ _ _) (lM _ _ _ _ _ _)
            unfold lM
            (repeat' first | exact T.le_e _ | exact T.le_refl _ | refine T.le_sameS ?_ ?_ | refine T.le_none ?_ ?_ | refine T.le_ee ?_ ?_)
    · have hX := hno fun i hi => ha i (by omega)
      subst hX
      repeat' first | ((first | refine Qz ?_ | refine Qy ?_) <;> conv => whnf) | (refine WB.tt ?_; conv => whnf) | (refine WB.ff ?_; conv => whnf)
      refine ⟨.inr rfl, ⟨_, rfl, .pu trivial⟩, Shr.kp ?_ (lC h1 h2 _ (by decide))⟩
      show T.le (lM _ _ _ _ _ _) (lM _ _ _ _ _ _)
      unfold lM
      (repeat' first | exact T.le_e _ | exact T.le_refl _ | refine T.le_sameS ?_ ?_ | refine T.le_none ?_ ?_ | refine T.le_ee ?_ ?_)
end
open Go.RowKit (Below Grown)
theorem kY {α : Type} : ∀ (n : Nat) (l : List α), dN n l = l.drop n
 | 0, l => rfl
 | n + 1, [] => rfl
 | n + 1, _ :: l => kY n l
theorem Vis.nil {st : Nat} {l : List Cell} : Vis st l [] := fun k d hk => by cases hk
theorem Vis.app {st : Nat} {l : List Cell} {a b : List D} (h : Vis st l a) (k : Vis st (l.drop a.length) b) : Vis st l (a ++ b) := fun i d hi => by
 by_cases hlt : i < a.length
 ·rw [List.getElem?_append_left hlt] at hi
  exact h i d hi
 ·rw [List.getElem?_append_right (by omega)] at hi
  obtain ⟨c, h1, h2⟩ := k _ d hi
  rw [List.getElem?_drop] at h1
  exact ⟨c, by rw [<- h1]; congr 1; omega, h2⟩
theorem sE {st : Nat} : ∀ {n : Nat} {l : List Cell} {ds : List D} {r : List Cell}, tO st n l = some (ds, r) -> ds.length = n /\ Vis st l ds /\ r = l.drop n
 | 0, l, ds, r, h => by cases h; exact ⟨rfl, Vis.nil, rfl⟩
 | n + 1, [], ds, r, h => by cases h
 | n + 1, c :: l, ds, r, h => by
   unfold tO at h
   cases hc : c.has st with
   | false => rw [hc] at h; cases h
   | true =>
     rw [hc, cond_true] at h
     split at h
     ·rename_i ds' r' h1
      cases h
      obtain ⟨k1, k2, k3⟩ := sE h1
      refine ⟨by rw [List.length_cons, k1], fun k d hk => ?_, k3⟩
      cases k with
      | zero => cases hk; exact ⟨c, rfl, hc, rfl⟩
      | succ k => exact k2 k d hk
     ·cases h
theorem pY {st z : Nat} : ∀ {n : Nat} {l : List Cell} {es : List (List D)}, vO st z n l = some es -> es.length = n /\ (∀ r ∈ es, r.length = z) /\ Vis st l es.flatten
 | 0, l, es, h => by cases h; exact ⟨rfl, (fun r hr => by cases hr), Vis.nil⟩
 | n + 1, l, es, h => by
   unfold vO at h
   split at h
   ·rename_i r l' h1
    split at h
    ·rename_i es' h2
     cases h
     obtain ⟨k1, k2, rfl⟩ := sE h1
     obtain ⟨k3, k4, k5⟩ := pY h2
     refine ⟨by rw [List.length_cons, k3], fun q hq => ?_, ?_⟩
     ·rcases List.mem_cons.1 hq with e | hq
      ·rw [e]; exact k1
      ·exact k4 q hq
     ·rw [List.flatten_cons]
      exact k2.app (by rw [k1]; exact k5)
    ·cases h
   ·cases h
theorem wK {α β : Type} {f : α -> Option β} : ∀ {l : List α} {r : List β}, mpO f l = some r -> l.length = r.length /\ ∀ (i : Nat) (a : α), l[i]? = some a -> ∃ b, f a = some b /\ r[i]? = some b
 | [], r, h => by cases h; exact ⟨rfl, fun i a hi => by cases hi⟩
 | a :: l, r, h => by
   unfold mpO at h
   split at h
   ·rename_i b hb
    split at h
    ·rename_i r' hr
     cases h
     obtain ⟨k1, k2⟩ := wK hr
     refine ⟨by simp [k1], fun i x hi => ?_⟩
     cases i with
     | zero => cases hi; exact ⟨b, hb, rfl⟩
     | succ i => exact k2 i x hi
    ·cases h
   ·cases h
theorem hJ {α β : Type} {f : α -> Option β} {a : α} {l : List α} {r : List β} (h : mpO f (a :: l) = some r) : ∃ b r', f a = some b /\ mpO f l = some r' /\ r = b :: r' := by
 unfold mpO at h
 split at h
 ·rename_i b hb
  split at h
  ·rename_i r' hr
   cases h
   exact ⟨b, r', hb, hr, rfl⟩
  ·cases h
 ·cases h
section
variable {B : Pos -> Prop} {ob : T C}
theorem mV {f : D -> Option D} (hf : ∀ d e, f d = some e -> Fz B ob d e) : ∀ {l r : List D}, mpO f l = some r -> FzL B ob l r
 | [], r, h => by cases h; exact .nil
 | a :: l, r, h => by
   obtain ⟨b, r', h1, h2, rfl⟩ := hJ h
   exact .cons (hf _ _ h1) (mV hf h2)
theorem tR {f : D -> Option D} (hf : ∀ d e, f d = some e -> Fz B ob d e) : ∀ {l r : List (List D)}, mpO (mpO f) l = some r -> FzE B ob l r
 | [], r, h => by cases h; exact .nil
 | a :: l, r, h => by
   obtain ⟨b, r', h1, h2, rfl⟩ := hJ h
   exact .cons (mV hf h1) (tR hf h2)
theorem pC {f : D -> Option D} (hf : ∀ d e, f d = some e -> Pu e) : ∀ {l r : List D}, mpO f l = some r -> aO r
 | [], r, h => by cases h; trivial
 | a :: l, r, h => by
   obtain ⟨b, r', h1, h2, rfl⟩ := hJ h
   unfold aO
   exact ⟨hf _ _ h1, pC hf h2⟩
theorem sV {f : D -> Option D} (hf : ∀ d e, f d = some e -> Pu e) : ∀ {l r : List (List D)}, mpO (mpO f) l = some r -> cZ r
 | [], r, h => by cases h; trivial
 | a :: l, r, h => by
   obtain ⟨b, r', h1, h2, rfl⟩ := hJ h
   unfold cZ
   exact ⟨pC hf h1, sV hf h2⟩
theorem xY (hB : ∀ id, ¬ B id) : ∀ {n : Nat} {d e : D}, Dk ob n d = some e -> Fz B ob d e /\ Pu e
 | 0, _, _, h => by cases h
 | n + 1, d, e, h => by
   have i1 : ∀ d e, Dk ob n d = some e -> Fz B ob d e := fun _ _ h => (xY hB h).1
   have i2 : ∀ d e, Dk ob n d = some e -> Pu e := fun _ _ h => (xY hB h).2
   unfold Dk at h
   cases d
   case sl id off len st z =>
    dsimp only at h
    split at h
    ·rename_i ro cs cur hc
     split at h
     ·rename_i es hes
      split at h
      ·rename_i fs hfs
       cases h
       obtain ⟨k1, k2, k3⟩ := pY hes
       rw [kY] at k3
       exact ⟨.sl (hB id) hc k1 k2 k3 (tR i1 hfs), by unfold Pu; exact sV i2 hfs⟩
      ·cases h
     ·cases h
    ·cases h
   case lst z es =>
    dsimp only at h
    split at h
    ·rename_i fs hfs
     cases h
     exact ⟨.lst (tR i1 hfs), by unfold Pu; exact sV i2 hfs⟩
    ·cases h
   case ag cs =>
    dsimp only at h
    split at h
    ·rename_i fs hfs
     cases h
     exact ⟨.ag (mV i1 hfs), by unfold Pu; exact pC i2 hfs⟩
    ·cases h
   case tp cs =>
    dsimp only at h
    split at h
    ·rename_i fs hfs
     cases h
     exact ⟨.tp (mV i1 hfs), by unfold Pu; exact pC i2 hfs⟩
    ·cases h
   all_goals first | (cases h; done) | (cases h; exact ⟨.pu (by unfold Pu; trivial), by unfold Pu; trivial⟩)
end
def Ep (ob : T C) : Nat -> D -> Option D
 | 0, _ => none
 | n + 1, d => match d with
   | .sl id off len st z => match ob.get id with
     | some (.cells _ cs _) => match vO st z len (dN off cs) with
       | some es => match mpO (mpO (Ep ob n)) es with
         | some fs => some (.lst z fs)
         | none => none
       | none => none
     | _ => none
   | .ag cs => match mpO (Ep ob n) cs with
     | some ds => some (.ag ds)
     | none => none
   | .tp cs => match mpO (Ep ob n) cs with
     | some ds => some (.tp ds)
     | none => none
   | .b x => some (.b x)
   | .i k n => some (.i k n)
   | .ns => some .ns
   | .em => some .em
   | .np => some .np
   | .nf => some .nf
   | .nm => some .nm
   | _ => none
section
variable {P : Program} {γ γ' : Gh} {w : World} {ob : T C}
theorem pF {f : D -> Option D} (hf : ∀ d e, f d = some e -> ∀ v, DV γ w d v -> DV γ' w e v) : ∀ {l r : List D}, mpO f l = some r -> ∀ vs, DVL γ w l vs -> DVL γ' w r vs
 | [], r, h, vs, H => by cases h; unfold DVL at *; exact H
 | a :: l, r, h, vs, H => by
   obtain ⟨b, r', h1, h2, rfl⟩ := hJ h
   unfold DVL at H ⊢
   obtain ⟨v, r, rfl, h4, h5⟩ := H
   exact ⟨v, r, rfl, hf _ _ h1 _ h4, pF hf h2 _ h5⟩
theorem yE {f : D -> Option D} {z : Nat} (hf : ∀ d e, f d = some e -> ∀ v, DV γ w d v -> DV γ' w e v) : ∀ {l r : List (List D)}, mpO (mpO f) l = some r -> ∀ vs, DVE γ w z l vs -> DVE γ' w z r vs
 | [], r, h, vs, H => by cases h; unfold DVE; trivial
 | a :: l, r, h, vs, H => by
   obtain ⟨b, r', h1, h2, rfl⟩ := hJ h
   unfold DVE at H ⊢
   exact ⟨by rw [<- (wK h1).1]; exact H.1, pF hf h1 _ H.2.1, yE hf h2 _ H.2.2⟩
theorem xF (hob : ∀ id c, ob.get id = some c -> HoldsO P γ w id c) (hown : ∀ id st vs e fr, st < γ.cur id -> w.heap[(γ.β id st).1]? = some (.cells vs e fr) -> γ'.im (γ.β id st).1) : ∀ {n : Nat} {d e : D}, Ep ob n d = some e -> ∀ v, DV γ w d v -> DV γ' w e v
 | 0, _, _, h => by cases h
 | n + 1, d, e, h => by
   have ih : ∀ d e, Ep ob n d = some e -> ∀ v, DV γ w d v -> DV γ' w e v := fun _ _ h => xF hob hown h
   unfold Ep at h
   cases d
   case sl id off len st z =>
    dsimp only at h
    split at h
    ·rename_i ro cs cur hg
     split at h
     ·rename_i es hes
      split at h
      ·rename_i fs hfs
       cases h
       obtain ⟨hl, hz, hv⟩ := pY hes
       rw [kY] at hv
       intro v H
       obtain ⟨e1, e2, cap, e, n, rfl, e4, e5, e6⟩ := hF H
       have hfl := (wK hfs).1
       obtain ⟨vs, e', fr, k1, k2, k3, k4⟩ := nV (hob id _ hg) e1 e2 hv
       have hlen : es.flatten.length = es.length * z := by
        clear hv ih k2 k3 k4 hfl hl hfs hes
        induction es with
        | nil => simp
        | cons r es ih => simp [ih (fun r h => hz r (by simp [h])), hz r (by simp), Nat.add_mul]; omega
       have hsz : off - (γ.β id st).2 + es.length * z <= vs.size := by
        have h1 : w.shape? (γ.β id st).1 = some (e', vs.size) := bY k1
        rw [h1] at e5
        cases e5
        have : es.length * z <= cap * z := Nat.mul_le_mul_right z (by omega)
        omega
       unfold DV
       refine ⟨_, cap, by rw [<- hfl, hl], by omega, (fun h => by cases h), .inr ⟨_, _, vs, e', fr, hown id st _ _ _ e1 k1, k1, rfl, by rw [<- hfl]; exact hsz, ?_, ?_⟩⟩
       ·refine yE ih hfs _ (jD hz ?_)
        rw [<- hlen]
        exact k3
       ·rw [<- hfl, <- hlen]; exact k4
      ·cases h
     ·cases h
    ·cases h
   case ag cs =>
    dsimp only at h
    split at h
    ·rename_i fs hfs
     cases h
     intro v H
     obtain ⟨vs, rfl, h2, h3⟩ := mQ H
     unfold DV
     exact ⟨vs, rfl, pF ih hfs _ h2, h3⟩
    ·cases h
   case tp cs =>
    dsimp only at h
    split at h
    ·rename_i fs hfs
     cases h
     intro v H
     obtain ⟨vs, rfl, h2⟩ := qD H
     unfold DV
     exact ⟨vs, rfl, pF ih hfs _ h2⟩
    ·cases h
   all_goals first | (cases h; done) | (cases h; intro v H; unfold DV at *; exact H)
end
theorem MemOk.of {P : Program} {f : FuncId} {es : List D} {v v' : D} {ob' : T C} {nx' : Pos} {lg' : Option (T Bool)} (K : CallOk P f es .e .h none v ob' nx' lg') (hz : Ep ob' 12 v = some v') : MemOk P f es v' := by
 intro ob1 ds ob nx lg lg2 hds hle hl ht
 refine ⟨hl, Nat.le_refl _, Keeps.refl _ _, fun so hs γ args w gh hargs hob hnx => ?_⟩
 let γs : Gh := ⟨fun _ => 0, fun _ _ => (0, 0), fun b => γ.im b \/ ((∃ id st, st < γ.cur id /\ (γ.β id st).1 = b) /\ ∃ vs e fr, w.heap[b]? = some (.cells vs e fr))⟩
 have hargs' : DVL γs w es args.toList := by
  have h1 : DV γ w (.tp ds) (.tuple args) := by unfold DV; exact ⟨args, rfl, hargs⟩
  have h2 := Fz.ok (γ := γ) (γ' := γs) (B := fun _ => False) (fun b hb => .inl hb) (fun id c hc => hob id c (hs id (ht id c hc)) (hle id c hc)) (fun _ h => h.elim) (fun id st vs e fr _ hst hc => .inr ⟨⟨id, st, hst, rfl⟩, vs, e, fr, hc⟩) (.tp (mV (fun d e h => (xY (fun _ h => h) h).1) hds)) _ h1
  obtain ⟨vs, e, h3⟩ := qD h2
  cases e
  exact h3
 obtain ⟨c1, c2⟩ := K.ok (fun _ => True) (fun _ _ => trivial) γs args w ⟨fun _ st h => absurd h (Nat.not_lt_zero st), fun _ st _ _ h => absurd h (Nat.not_lt_zero st), fun b hb => ⟨by
  rcases hb with hb | hb
  ·exact (gh.im b hb).1
  ·exact hb.2, fun _ st h => absurd h (Nat.not_lt_zero st)⟩, gh.gl.im fun _ h => .inl h⟩ hargs' (fun id c _ hc => by rw [T.get_e] at hc; cases hc) (fun _ _ _ => rfl)
 refine ⟨c1, fun ro m R hR => c2 ro m R fun γ' w' u gh' F hu hob' _ => ?_⟩
 have hb : ∀ b, b < w.heap.size -> w'.heap[b]? = w.heap[b]? := fun b hb => F.blk b hb fun id st _ hst => absurd hst (Nat.not_lt_zero st)
 have hnew : ∀ id st, st < γ'.cur id -> w.heap.size <= (γ'.β id st).1 := fun id st hst => by
  rcases F.new id st (Nat.zero_le _) hst with h | ⟨gB, h, _⟩
  ·exact h
  ·exact absurd h (Nat.not_lt_zero gB)
 let γ2 : Gh := ⟨γ.cur, γ.β, fun b => γ.im b \/ ((∃ id st, st < γ'.cur id /\ (γ'.β id st).1 = b) /\ ∃ vs e fr, w'.heap[b]? = some (.cells vs e fr))⟩
 have U : Up γ γ2 w w' := ⟨fun _ => Nat.le_refl _, fun _ _ _ => rfl, F.up.3, fun b hm => ⟨.inl hm, fun o ho => by rw [hb b (Array.getElem?_eq_some_iff.1 ho).1]; exact ho⟩⟩
 have U0 : Up γ γ w w' := ⟨fun _ => Nat.le_refl _, fun _ _ _ => rfl, F.up.3, fun b hm => ⟨hm, fun o ho => by rw [hb b (Array.getElem?_eq_some_iff.1 ho).1]; exact ho⟩⟩
 refine hR γ2 w' u ⟨fun id st hst => Nat.lt_of_lt_of_le (gh.ob id st hst) F.size, gh.inj, fun b hm => ?_, (gh.gl.up U0).im fun _ h => .inl h⟩ ⟨U, fun _ _ => rfl, fun b h1 _ => hb b h1, fun _ _ h1 h2 => absurd h2 (by show ¬ _ < γ.cur _; omega), fun b hm hlt => ?_, F.lp, F.size, F.os, F.tape, F.output, F.fz⟩
  (xF (γ := γ') (γ' := γ2) (fun id c hc => hob' id c trivial hc) (fun id st vs e fr hst hc => .inr ⟨⟨id, st, hst, rfl⟩, vs, e, fr, hc⟩) hz u hu)
  (fun id c hid hc => HoldsO.mono U rfl (fun st hst => hb _ (gh.ob id st hst)) (hob id c hid hc)) hnx
 ·rcases hm with hm | ⟨⟨id', st', h1, h2⟩, h3⟩
  ·refine ⟨let ⟨⟨vs, e, fr, k1⟩, _⟩ := gh.im b hm; ⟨vs, e, fr, (U0.im b hm).2 _ k1⟩, (gh.im b hm).2⟩
  ·refine ⟨h3, fun id st hst e => ?_⟩
   have hlt := gh.ob id st hst
   have e : (γ.β id st).1 = b := e
   have := hnew id' st' h1
   omega
 ·rcases hm with hm | ⟨⟨id', st', h1, h2⟩, h3⟩
  ·exact hm
  ·have := hnew id' st' h1
   omega
def dW (P : Program) (FP : T RF) (n : Nat) (f : Pos) (es : List D) : Option D :=
 match qJ FP (exec P FP n) f es .e .h none (fun v ob nx lg => match Ep ob 12 v with
  | some d => some ⟨T.set .h d .e, .e, .h, none⟩
  | none => none) with
 | some y => y.sl.get .h
 | none => none
theorem MemOk.run {P : Program} {FP : T RF} (hFP : FPok P FP) {n : Nat} {f : Pos} {es : List D} {v : D} (h : dW P FP n f es = some v) : MemOk P f.ix es v := by
 unfold dW at h
 split at h
 ·rename_i y hy
  obtain ⟨v', ob', nx', lg', h1, C⟩ := hO hFP (oU hFP n).1 hy
  split at h1
  ·rename_i d hd
   cases h1
   rw [T.get_set_same] at h
   cases h
   exact MemOk.of C hd
  ·cases h1
 ·cases h
theorem Ce {x1 x2 x3 x4 x5 y1 y2 y3 y4 y5 : Option C} : Beside (.o (.i .h)) (lM y1 y2 y3 y4 y5 none) (.n (.n (.n .e x4 .e) x2 .e) x1 (.n (.n .e x5 .e) x3 .e)) (lM y1 y2 y3 y4 y5 none) := by
 refine ⟨fun id c' hid hc => hc, fun id hle => ?_⟩
 cases id with
 | h => exact absurd hle (by decide)
 | o p => cases p with
   | h => exact absurd hle (by decide)
   | o q => cases q with
     | h => exact absurd hle (by decide)
     | o r => rfl
     | i r => rfl
   | i q => cases q with
     | h => rfl
     | o r => rfl
     | i r => rfl
 | i p => cases p with
   | h => exact absurd hle (by decide)
   | o q => cases q with
     | h => exact absurd hle (by decide)
     | o r => rfl
     | i r => rfl
   | i q => rfl
def BS : Nat -> Int := fun _ => 0
def hrs (b : Bh) : Nat := (b.last + 1).toNat
def uH (b : Bh) : List (Nat -> Int) := sM b (hrs b) 0 BS
section
variable {g : Pos} {first caps : List D} {b : Bh} {P : (Nat -> Int) -> Bool}
theorem At (h1 : aO first) (h2 : aO caps) (hg : ∀ c, PureF Tryz.prog g.ix (first ++ ([.ag (wF c)] ++ caps)) (.b (P c))) (V : VW b) (l1 : ∀ w ∈ b.winds, w.length <= 1000) (l2 : b.nts.length <= 1000) :
 CallOk Tryz.prog p147.ix [.yl (.i .h), .pl (dR b) 0] (DW g first caps b false) (.o (.o .h)) none (.tp []) (DW g first caps b ((uH b).any P)) (.o (.o .h)) none := by
 have hv := V.last
 have C := vL h1 h2 hg V l1 l2 (hrs b) 0 (by unfold hrs; omega) BS
 have C : CallOk Tryz.prog p148.ix [.ag (wF BS), .i .i64 0, .pl (dR b) 0, .pt (.o (.o .h)) 0 0, .pt (.i (.o .h)) 0 0] (EL g first caps b false none) (.o (.i .h)) none (.b (!(uH b).any P)) (EL g first caps b ((uH b).any P) none) (.o (.i .h)) none := C
 refine CallOk.run Lf (by simp) (Nat.le_refl _) ?_; conv => whnf
 refine Qg ?_
 refine WCall.fr C ?_ (lC h1 h2 _ (by decide)) ?_ Ce (Nat.le_refl _) (LgLe.refl _) (fun _ _ => trivial) ?_
 ·show T.le (lM _ _ _ _ _ _) _
  unfold lM
  (repeat' first | exact T.le_e _ | exact T.le_refl _ | refine T.le_sameS ?_ ?_ | refine T.le_none ?_ ?_ | refine T.le_ee ?_ ?_)
 ·simp [KpL, Kp, Pu, aO, Pos.nat, wF, aM]
 conv => whnf
 refine Qg ?_
 refine ⟨.inl rfl, ⟨_, rfl, .pu trivial⟩, Shr.kp ?_ (tG h1 h2 _ (by decide))⟩
 show T.le (Bk _ _ _) (lM _ _ _ _ _ _)
 unfold Bk lM
 (repeat' first | exact T.le_e _ | exact T.le_refl _ | refine T.le_sameS ?_ ?_ | refine T.le_none ?_ ?_ | refine T.le_ee ?_ ?_)
theorem FV (h1 : aO first) (h2 : aO caps) (hg : ∀ c, PureF Tryz.prog g.ix (first ++ ([.ag (wF c)] ++ caps)) (.b (P c))) (V : VW b) (l1 : ∀ w ∈ b.winds, w.length <= 1000) (l2 : b.nts.length <= 1000) :
 PureF Tryz.prog p118.ix [.fn p147 [] [.pl (dR b) 0], .fn g first caps] (.b ((uH b).any P)) := by
 have C := At h1 h2 hg V l1 l2
 refine PureF.run Hv (by simp) (by simp [aO, cZ, Pu, aM, h1, h2]) ?_; conv => whnf
 refine Qg ?_
 refine Rn.le (a := ⟨Hl g first caps b, Bk (some (Le g first caps)) (some (HL false)) none, .i .h, none⟩) ?_ ?_
 ·cases hP : (uH b).any P with
  | true =>
    rw [hP] at C
    refine Rn.rf rfl rfl C rfl (by simp) ?_; conv => whnf
    refine Qg ?_
    exact ⟨.inr rfl, _, rfl, .pu trivial⟩
  | false =>
    rw [hP] at C
    refine Rn.rf rfl rfl C rfl (by simp) ?_; conv => whnf
    refine Qg ?_
    exact ⟨.inr rfl, _, rfl, .pu trivial⟩
 ·refine X.le.mk ?_ ?_ (by simp [Pos.nat]) rfl rfl
  ·unfold Hl
   exact Lw
  ·unfold Bk
   exact Lw
end
theorem DL (b : Bh) : PureF Tryz.prog p119.ix [.ag (dR b)] (.fn p147 [] [.pl (dR b) 0]) := by
 refine PureF.run Ie (by simp) (by simp [aO, Pu, aM]) ?_; conv => whnf
 refine Qg ?_
 refine Fin.t (.inr rfl) rfl ?_
 exact .fn .nil (.cons (Frz.ptr rfl rfl (by simp [dR]) (aM b)) .nil)
theorem Ge (c : Nat -> Int) : PureF Tryz.prog p143.ix [.ag (wF c)] (.b true) := by
 refine PureF.run HU (by simp) (by simp [aO, Pu, JT]) ?_; conv => whnf
 refine Qg ?_
 exact Fin.b rfl rfl
def dJ (b : Bh) : Bool := (uH b).any fun _ => true
theorem qU (b : Bh) (V : VW b) (l1 : ∀ w ∈ b.winds, w.length <= 1000) (l2 : b.nts.length <= 1000) : PureF Tryz.prog p111.ix [.ag (dR b)] (.b (dJ b)) := by
 have c1 := DL b
 have c2 := FV (g := p143) (first := []) (caps := []) (P := fun _ => true) trivial trivial (fun c => Ge c) V l1 l2
 refine PureF.run JO (by simp) (by simp [aO, Pu, aM]) ?_; conv => whnf
 repeat' ((first | refine Qw ?_ | refine Qf c1 ?_ | refine Qf c2 ?_ | refine Qv ?_) <;> conv => whnf)
 exact Fin.b rfl rfl
def KQ (c : Nat -> Int) : List Int := [c 0, c 1, c 2, c 3, c 4]
def EY (b : Bh) (l : List Int) : Bool := (uH b).any fun c => decide ((KQ c).take (hrs b) = l)
theorem lU {b : Bh} : ∀ {m h : Nat} {c c' : Nat → Int}, c' ∈ sM b m h c ↔ (∀ i, h ≤ i → i < h + m → c' i ∈ aI b i) ∧ ∀ i, (i < h ∨ h + m ≤ i) → c' i = c i
  | 0, h, c, c' => by
    unfold sM
    rw [List.mem_singleton]
    constructor
    · rintro rfl; exact ⟨fun i h1 h2 => absurd h2 (by omega), fun _ _ => rfl⟩
    · rintro ⟨_, k⟩
      exact funext fun i => k i (by omega)
  | m + 1, h, c, c' => by
    unfold sM
    rw [List.mem_flatMap]
    constructor
    · rintro ⟨f, hf, hc⟩
      obtain ⟨k1, k2⟩ := lU.1 hc
      refine ⟨fun i h1 h2 => ?_, fun i hi => ?_⟩
      · by_cases e : i = h
        · subst e; rw [k2 i (by omega), sJ]; exact hf
        · exact k1 i (by omega) (by omega)
      · rw [k2 i (by omega), tE _ _ (by omega)]
    · rintro ⟨k1, k2⟩
      refine ⟨c' h, k1 h (by omega) (by omega), lU.2 ⟨fun i h1 h2 => k1 i (by omega) (by omega), fun i hi => ?_⟩⟩
      by_cases e : i = h
      · subst e; rw [sJ]
      · rw [tE _ _ e]; exact k2 i (by omega)
structure TruP (b : Bh) (l : List Int) : Prop where
  len : l.length = hrs b
  mem : ∀ i, i < hrs b → l.getD i 0 ∈ aI b i
theorem zW (c : Nat → Int) {i : Nat} (h : i < 5) : (KQ c).getD i 0 = c i := by
  rcases rZ h with rfl | rfl | rfl | rfl | rfl <;> rfl
theorem sB {l : List Int} {n i : Nat} (h : i < n) : (l.take n).getD i 0 = l.getD i 0 := by
  simp [List.getD, h]
theorem gE (l : List Int) {i : Nat} (h : i < l.length) : l[i] = l.getD i 0 := by simp [List.getD, h]
theorem tI {b : Bh} (V : VW b) {l : List Int} : EY b l = true ↔ TruP b l := by
  have hv := V.last
  have hn : hrs b ≤ 5 := by unfold hrs; omega
  unfold EY uH
  rw [List.any_eq_true]
  constructor
  · rintro ⟨c, hc, e⟩
    have e := of_decide_eq_true e
    subst e
    obtain ⟨k1, _⟩ := lU.1 hc
    refine ⟨by simp [KQ]; omega, fun i hi => ?_⟩
    rw [sB hi, zW c (by omega)]
    exact k1 i (Nat.zero_le _) (by omega)
  · rintro ⟨h1, h2⟩
    refine ⟨fun i => if i < hrs b then l.getD i 0 else 0, lU.2 ⟨fun i _ hi => ?_, fun i hi => ?_⟩, decide_eq_true ?_⟩
    · have hi : i < hrs b := by omega
      show (if i < hrs b then l.getD i 0 else 0) ∈ _
      rw [if_pos hi]; exact h2 i hi
    · have hi : ¬ i < hrs b := by omega
      show (if i < hrs b then l.getD i 0 else 0) = 0
      rw [if_neg hi]
    · refine List.ext_getElem (by simp [KQ]; omega) fun i a1 a2 => ?_
      rw [gE _ a1, gE _ a2, sB (by omega), zW _ (by omega), if_pos (by omega)]
theorem fX {b : Bh} {i : Nat} {f : Int} : f ∈ aI b i ↔ f ∈ b.winds.getD i default ∧ ∀ n ∈ b.nts, n.1 = (i : Int) → n.2 = f := by
  unfold aI
  rw [List.mem_filter, List.all_eq_true]
  constructor
  · rintro ⟨a, k⟩
    exact ⟨a, fun n hn e => by rcases of_decide_eq_true (k n hn) with h | h; exact absurd e h; exact h⟩
  · rintro ⟨a, k⟩
    exact ⟨a, fun n hn => decide_eq_true (by by_cases e : n.1 = (i : Int); exact .inr (k n hn e); exact .inl e)⟩
def vI (b : Bh) (t : List Int) : Bool := decide (t.length = b.winds.length) && (List.range t.length).all fun i => FM (b.winds.getD i default) (t.getD i 0)
def EC (b : Bh) (t : List Int) : Bool := vI b t && b.nts.all fun n => decide (t.getD n.1.toNat 0 = n.2)
theorem qR {l : List Int} {n : Int} : FM l n = true ↔ n ∈ l := by
  unfold FM
  rw [List.any_eq_true]
  constructor
  · rintro ⟨x, hx, e⟩; rw [← of_decide_eq_true e]; exact hx
  · intro h; exact ⟨n, h, decide_eq_true rfl⟩
theorem tY {b : Bh} {t : List Int} : vI b t = true ↔ t.length = b.winds.length ∧ ∀ i, i < b.winds.length → t.getD i 0 ∈ b.winds.getD i default := by
  unfold vI
  rw [Bool.and_eq_true, decide_eq_true_iff, List.all_eq_true]
  constructor
  · rintro ⟨a, k⟩
    exact ⟨a, fun i hi => qR.1 (k i (List.mem_range.2 (by omega)))⟩
  · rintro ⟨a, k⟩
    exact ⟨a, fun i hi => qR.2 (k i (by have := List.mem_range.1 hi; omega))⟩
theorem VW.hrs {b : Bh} (V : VW b) : Go.Ev.hrs b = b.winds.length := by
  have := V.last; have := V.winl
  unfold Go.Ev.hrs; omega
theorem qC {b : Bh} (V : VW b) {t : List Int} : EC b t = true ↔ TruP b t := by
  unfold EC
  rw [Bool.and_eq_true, tY, List.all_eq_true]
  have hh := V.hrs
  have hv := V.last
  constructor
  · rintro ⟨⟨a, k⟩, q⟩
    refine ⟨by omega, fun i hi => fX.2 ⟨k i (by omega), fun n hn e => ?_⟩⟩
    have := of_decide_eq_true (q n hn)
    rw [e] at this
    exact this.symm
  · rintro ⟨a, k⟩
    refine ⟨⟨by omega, fun i hi => (fX.1 (k i (by omega))).1⟩, fun n hn => decide_eq_true ?_⟩
    have hb := uF hv (List.all_eq_true.1 V.nts n hn)
    have hb2 := bI (by have := List.all_eq_true.1 V.nts n hn; unfold fS at this; rw [Bool.and_eq_true] at this; exact this.1)
    have hi : n.1.toNat < Go.Ev.hrs b := by unfold Go.Ev.hrs; omega
    exact ((fX.1 (k _ hi)).2 n hn (by omega)).symm
theorem WSt.ixaP {sl : T D} {ob : T C} {nx : Pos} {lg : Option (T Bool)} {K : X → Prop} {d : Pos} {len z off m : Nat} {k : IntKind} {x i : RX} {n : Int} {r : List D} (hx : bG sl x = some (.pl r off)) (hi : bG sl i = some (.i k n)) (hn : n = (m : Int)) (hm : m < len) (h : eC sl ob nx lg d K (.pl r (off + m * z))) : WSt (.ixa d len z x i) ⟨sl, ob, nx, lg⟩ K := by
  obtain ⟨h2, h3⟩ := bD h
  refine ⟨_, ?_, h3⟩
  show oC d len z x i sl ob nx lg = _
  unfold oC
  rw [hx, hi, hn]
  have e : CM (m : Int) len = some m := by
    show (bif Nat.blt m len then some m else none) = _
    rw [show Nat.blt m len = true from Nat.ble_eq_true_of_le hm]
    rfl
  simp only [e, bF]
  exact h2
def DK (l : List (Int × Int)) (p : Int × Int) : Bool := l.any fun q => decide (p.1 = q.1 ∧ p.2 = q.2)
def CD (p : Int × Int) : Prop := i64 p.1 ∧ i64 p.2
theorem Eu (l : List (Int × Int)) (p : Int × Int) (hl : l.length ≤ 1000) (hp : CD p) (hq : ∀ q ∈ l, CD q) : ∃ v, (∃ n : Int, v = .i .i64 n ∧ decide (0 ≤ n) = DK l p) ∧ PureF Tryz.prog p162.ix [.lst 2 (aD bC l), .ag (bC p)] v := by
  have e1 := aK bC l
  refine PureF.runE Iz (by simp) (by simp [aO, cZ, Pu, aE, bC]) ?_; conv => whnf
  repeat' first | ((first | refine Qz ?_ | refine Qy ?_) <;> conv => whnf) | (refine WB.tt ?_; conv => whnf) | (refine WB.ff ?_; conv => whnf)
  refine Rn.loop (fun j : Nat => ⟨(.n (.n (.n (.n .e (some (.i .i64 (l.length : Int))) .e) (some (.pt .h 0 0)) .e) none .e) (some (.lst 2 (aD bC l))) (.n (.n (.n .e (some (.i .i64 (j : Int))) .e) none .e) none .e)), .n .e (some (.cells false ((bC p).map fun d => Cell.o d 0) 1)) .e, .o .h, none⟩) (fun j => j ≤ l.length ∧ (l.take j).any (fun q => decide (p.1 = q.1 ∧ p.2 = q.2)) = false) (fun j => l.length - j) 0 ?_ ⟨Nat.zero_le _, by simp⟩ ?_
  · refine X.le.mk ?_ ?_ (Nat.le_refl _) rfl rfl
    all_goals (try rw [← e1])
    all_goals (repeat' first | exact T.le_e _ | exact T.le_refl _ | refine T.le_some ?_ rfl ?_ | refine T.le_none ?_ ?_ | refine T.le_ee ?_ ?_)
  rintro j ⟨hj, ha⟩
  conv => whnf
  repeat' first | ((first | refine Qz ?_ | refine Qy ?_) <;> conv => whnf) | (refine WB.tt ?_; conv => whnf) | (refine WB.ff ?_; conv => whnf)
  refine WB.dec (fun h => ?_) (fun h => ?_) <;> conv => whnf
  · have hlt : j < l.length := by omega
    have hqj := hq _ (aU (d := default) hlt)
    repeat' first | ((first | refine Qz ?_ | refine Qy ?_) <;> conv => whnf) | (refine WB.tt ?_; conv => whnf) | (refine WB.ff ?_; conv => whnf)
    refine WSt.eqr2 (a := p.1) (b := p.2) (a' := (l.getD j default).1) (b' := (l.getD j default).2) rfl rfl (vZ hp.1) (vZ hp.2) (vZ hqj.1) (vZ hqj.2) ?_; conv => whnf
    repeat' first | ((first | refine Qz ?_ | refine Qy ?_) <;> conv => whnf) | (refine WB.tt ?_; conv => whnf) | (refine WB.ff ?_; conv => whnf)
    refine WB.dec (fun h2 => ?_) (fun h2 => ?_) <;> conv => whnf
    · repeat' first | ((first | refine Qz ?_ | refine Qy ?_) <;> conv => whnf) | (refine WB.tt ?_; conv => whnf) | (refine WB.ff ?_; conv => whnf)
      refine ⟨_, ⟨(j : Int), rfl, ?_⟩, Fin.i rfl rfl⟩
      rw [decide_eq_true (by omega)]
      exact (DH (d := default) hlt (decide_eq_true h2)).symm
    · repeat' first | ((first | refine Qz ?_ | refine Qy ?_) <;> conv => whnf) | (refine WB.tt ?_; conv => whnf) | (refine WB.ff ?_; conv => whnf)
      refine Again.to (j + 1) (by omega) ⟨by omega, by rw [qX (d := default) hlt, ha, decide_eq_false h2]; rfl⟩ (Nat.le_refl _) ?_
      refine Shr.of ?_ ?_ rfl rfl
      · show Rel _ _ ((.n (.n (.n (.n .e (some (.i .i64 (l.length : Int))) .e) (some (.pt .h 0 0)) .e) none .e) (some (.lst 2 (aD bC l))) (.n (.n (.n .e (some (.i .i64 ((j + 1 : Nat) : Int))) .e) none .e) none .e)) : T D) _
        (repeat' first | exact Rel.e | refine Rel.some ?_ ?_ ?_ | refine Rel.none ?_ ?_ | refine Rel.ee ?_ ?_)
        all_goals show Fz _ _ _ _
        all_goals first | exact .pu trivial | exact .pu (aE _) | exact .kpt (show _ < 2 by simp [Pos.nat])
      · show Rel _ _ (.n .e (some (.cells false ((bC p).map fun d => Cell.o d 0) 1)) .e : T C) _
        (repeat' first | exact Rel.e | refine Rel.some ?_ ?_ ?_ | refine Rel.none ?_ ?_ | refine Rel.ee ?_ ?_)
        all_goals exact RO'.of (show _ < 2 by simp [Pos.nat]) (ShC.same (ShC.cn (.pu trivial) (ShC.cn (.pu trivial) ShC.nl)))
  · obtain rfl : j = l.length := by omega
    repeat' first | ((first | refine Qz ?_ | refine Qy ?_) <;> conv => whnf) | (refine WB.tt ?_; conv => whnf) | (refine WB.ff ?_; conv => whnf)
    refine ⟨_, ⟨-1, rfl, ?_⟩, Fin.i rfl rfl⟩
    rw [decide_eq_false (by omega)]
    exact (AT ha).symm
theorem xO (l : List (Int × Int)) (p : Int × Int) (hl : l.length ≤ 1000) (hp : CD p) (hq : ∀ q ∈ l, CD q) : PureF Tryz.prog p160.ix [.lst 2 (aD bC l), .ag (bC p)] (.b (DK l p)) := by
  obtain ⟨v, ⟨n, rfl, hn⟩, C⟩ := Eu l p hl hp hq
  refine PureF.run KV (by simp) (by simp [aO, cZ, Pu, aE, bC]) ?_; conv => whnf
  repeat' first | ((first | refine Qz ?_ | refine Qf (C) ?_ | refine Qy ?_) <;> conv => whnf) | (refine WB.tt ?_; conv => whnf) | (refine WB.ff ?_; conv => whnf)
  exact Fin.b rfl hn
def wX (d : Int) : Int := Int.tmod (d + 2) 4
theorem FT {d : Int} (h : 0 ≤ d ∧ d ≤ 3) : 0 ≤ wX d ∧ wX d ≤ 3 := by
  have := Int.tmod_nonneg 4 (show 0 ≤ d + 2 by omega)
  have := Int.tmod_lt_of_pos (d + 2) (show (0 : Int) < 4 by omega)
  unfold wX; omega
theorem xT (d : Int) (h : 0 ≤ d ∧ d ≤ 3) : PureF Tryz.prog p149.ix [.i .i64 d] (.i .i64 (wX d)) := by
  have := FT h
  unfold wX at *
  refine PureF.run Kg (by simp) (by simp [aO, Pu]) ?_; conv => whnf
  repeat' first | ((first | refine Qz ?_ | refine Qy ?_) <;> conv => whnf) | (refine WB.tt ?_; conv => whnf) | (refine WB.ff ?_; conv => whnf)
  exact Fin.i rfl rfl
def Jr (q : Int × Int) (d : Int) : Int × Int := (q.1 + Az d, q.2 + AX d)
def kH (p : Int × Int) (d : Int) : Nat → Int × Int
  | 0 => p
  | k + 1 => Jr (kH p d k) d
def tD (b : Bh) (p : Int × Int) (d : Int) : Nat → Bool
  | 0 => false
  | k + 1 => tD b p d k || DK b.brk (kH p d (k + 1))
theorem GC (d : Int) : (-1 ≤ Az d ∧ Az d ≤ 1) ∧ (-1 ≤ AX d ∧ AX d ≤ 1) := by
  unfold Az AX
  constructor <;> split <;> omega
theorem sP (p : Int × Int) (d : Int) : ∀ k : Nat, (p.1 - k ≤ (kH p d k).1 ∧ (kH p d k).1 ≤ p.1 + k) ∧ (p.2 - k ≤ (kH p d k).2 ∧ (kH p d k).2 ≤ p.2 + k)
  | 0 => by simp [kH]
  | k + 1 => by
    have h := sP p d k
    have a := GC d
    show (p.1 - _ ≤ (kH p d k).1 + Az d ∧ (kH p d k).1 + Az d ≤ _) ∧ (p.2 - _ ≤ (kH p d k).2 + AX d ∧ (kH p d k).2 + AX d ≤ _)
    omega
theorem vM {b : Bh} {p : Int × Int} {d : Int} {j : Nat} (h : DK b.brk (kH p d (j + 1)) = true) : ∀ n, j + 1 ≤ n → tD b p d n = true
  | 0, k => absurd k (by omega)
  | n + 1, k => by
    unfold tD
    by_cases e : n = j
    · subst e; rw [h, Bool.or_true]
    · rw [vM h n (by omega)]; rfl
theorem VW.spot64 {b : Bh} (V : VW b) {q : Int × Int} (h : q ∈ b.brk) : CD q := by
  have := List.all_eq_true.1 V.brk q h
  unfold dL at this
  rw [Bool.and_eq_true] at this
  have a := bI this.1; have c := bI this.2
  have := V.rws; have := V.pls
  exact ⟨⟨by omega, by omega⟩, ⟨by omega, by omega⟩⟩
def LH (b : Bh) (d : Int) (j : Nat) : T D := (.n (.n (.n .e (some (.pt .h 0 0)) .e) none (.n (.n .e (some (.i .i64 b.rch)) .e) none .e)) none (.n (.n .e (some (.pt (.o .h) 0 0)) .e) (some (.i .i64 d)) (.n (.n .e (some (.i .i64 (j : Int))) .e) none .e)))
def LI (b : Bh) (q : Int × Int) : T C := .n (.n .e (some (.cells false ((bC q).map fun d => Cell.o d 0) 1)) .e) (some (fZ b)) .e
set_option maxHeartbeats 4000000 in
theorem xU (b : Bh) (V : VW b) (p : Int × Int) (hp : dL b p = true) (d : Int) (hd : 0 ≤ d ∧ d ≤ 3) (l4 : b.brk.length ≤ 1000) : PureF Tryz.prog p150.ix [.ag (dR b), .ag (bC p), .i .i64 d] (.b (tD b p d b.rch.toNat)) := by
  have hr := V.rch
  have h4 := V.rws
  have h5 := V.pls
  have hb4 : b.brk.length ≤ 1000 := l4
  have hp2 := hp
  unfold dL at hp2
  rw [Bool.and_eq_true] at hp2
  have hpa := bI hp2.1
  have hpb := bI hp2.2
  refine PureF.run Kh (by simp) (by simp [aO, Pu, aM, bC]) ?_; conv => whnf
  repeat' first | ((first | refine Qz ?_ | refine Qy ?_) <;> conv => whnf) | (refine WB.tt ?_; conv => whnf) | (refine WB.ff ?_; conv => whnf)
  refine Rn.loop (fun j : Nat => ⟨LH b d j, LI b (kH p d j), .i .h, none⟩) (fun j => j ≤ b.rch.toNat ∧ tD b p d j = false) (fun j => b.rch.toNat - j) 0 ?_ ⟨Nat.zero_le _, rfl⟩ ?_
  · refine X.le.mk ?_ ?_ (Nat.le_refl _) rfl rfl
    · unfold LH
      (repeat' first | exact T.le_e _ | exact T.le_refl _ | refine T.le_some ?_ rfl ?_ | refine T.le_none ?_ ?_ | refine T.le_ee ?_ ?_)
    · unfold LI
      (repeat' first | exact T.le_e _ | exact T.le_refl _ | refine T.le_some ?_ rfl ?_ | refine T.le_none ?_ ?_ | refine T.le_ee ?_ ?_)
  rintro j ⟨hj, ha⟩
  conv => whnf
  repeat' first | ((first | refine Qz ?_ | refine Qy ?_) <;> conv => whnf) | (refine WB.tt ?_; conv => whnf) | (refine WB.ff ?_; conv => whnf)
  refine WB.dec (fun h => ?_) (fun h => ?_) <;> conv => whnf
  · have hlt : j < b.rch.toNat := by omega
    have hbd := sP p d j
    have hbd1 := sP p d (j + 1)
    have C := xO b.brk (kH p d (j + 1)) hb4 ⟨⟨by omega, by omega⟩, ⟨by omega, by omega⟩⟩ (fun q hq => V.spot64 hq)
    have hd4 : d = 0 ∨ d = 1 ∨ d = 2 ∨ d = 3 := by omega
    cases hm : DK b.brk (kH p d (j + 1)) with
    | true =>
      rw [hm] at C
      have hX := vM hm b.rch.toNat (by omega)
      rw [hX]
      rcases hd4 with rfl | rfl | rfl | rfl
      all_goals
        repeat' first | ((first | refine Qz ?_ | refine Qf (C) ?_ | (first | refine WSt.ixaP (m := 0) rfl rfl rfl (by decide) ?_ | refine WSt.ixaP (m := 1) rfl rfl rfl (by decide) ?_ | refine WSt.ixaP (m := 2) rfl rfl rfl (by decide) ?_ | refine WSt.ixaP (m := 3) rfl rfl rfl (by decide) ?_) | refine Qy ?_) <;> conv => whnf) | (refine WB.tt ?_; conv => whnf) | (refine WB.ff ?_; conv => whnf)
        exact Fin.b rfl rfl
    | false =>
      rw [hm] at C
      have hX : tD b p d (j + 1) = false := by unfold tD; rw [ha, hm]; rfl
      rcases hd4 with rfl | rfl | rfl | rfl
      all_goals
        repeat' first | ((first | refine Qz ?_ | refine Qf (C) ?_ | (first | refine WSt.ixaP (m := 0) rfl rfl rfl (by decide) ?_ | refine WSt.ixaP (m := 1) rfl rfl rfl (by decide) ?_ | refine WSt.ixaP (m := 2) rfl rfl rfl (by decide) ?_ | refine WSt.ixaP (m := 3) rfl rfl rfl (by decide) ?_) | refine Qy ?_) <;> conv => whnf) | (refine WB.tt ?_; conv => whnf) | (refine WB.ff ?_; conv => whnf)
        refine Again.to (j + 1) (by omega) ⟨by omega, hX⟩ (Nat.le_refl _) ?_
        refine Shr.of ?_ ?_ rfl rfl
        · show Rel _ _ (LH b _ (j + 1)) _
          unfold LH
          (repeat' first | exact Rel.e | refine Rel.some ?_ ?_ ?_ | refine Rel.none ?_ ?_ | refine Rel.ee ?_ ?_)
          all_goals show Fz _ _ _ _
          all_goals first | exact .pu trivial | exact .kpt (show _ < 3 by simp [Pos.nat])
        · show Rel _ _ (LI b (kH p _ (j + 1))) _
          unfold LI
          (repeat' first | exact Rel.e | refine Rel.some ?_ ?_ ?_ | refine Rel.none ?_ ?_ | refine Rel.ee ?_ ?_)
          all_goals first
            | exact RO'.of (show _ < 3 by simp [Pos.nat]) (aW b)
            | exact RO'.of (show _ < 3 by simp [Pos.nat]) (ShC.same (ShC.cn (.pu trivial) (ShC.cn (.pu trivial) ShC.nl)))
  · obtain rfl : j = b.rch.toNat := by omega
    repeat' first | ((first | refine Qz ?_ | refine Qy ?_) <;> conv => whnf) | (refine WB.tt ?_; conv => whnf) | (refine WB.ff ?_; conv => whnf)
    exact Fin.b rfl ha.symm
def LF (b : Bh) (p : Int × Int) (face d : Int) : Bool := decide (face = wX d) || tD b p d b.rch.toNat
def FO (t : Bool) : Int := if t = true then 1 else 0
structure Hr where
  sun : Int
  calm : Int
  good : Int
def sY (x : Hr) : List D := [.i .i64 x.sun, .i .i64 x.calm, .i .i64 x.good]
def wH (b : Bh) (p : Int × Int) (face : Int) (h : Nat) (d : Int) : Hr := ⟨FO (decide (face = b.sun.getD h 0)), FO (LF b p face d), FO (decide (face = b.sun.getD h 0)) * FO (LF b p face d)⟩
def Gj (x y : Hr) : Hr := ⟨x.sun + y.sun, x.calm + y.calm, x.good + y.good⟩
def NW (h : Nat) (F : Nat → Int) (d : Int) : List D := [.i .i64 (h : Int), .i .i64 (F 0), .i .i64 (F 1), .i .i64 (F 2), .i .i64 d]
theorem GS {h : Nat} (k : h < 3) : h = 0 ∨ h = 1 ∨ h = 2 := by omega
set_option maxHeartbeats 4000000 in
theorem Ad (b : Bh) (V : VW b) (p : Int × Int) (hp : dL b p = true) (F : Nat → Int) (h : Nat) (hh : h < b.sun.length) (d : Int) (hd : 0 ≤ d ∧ d ≤ 3) (l4 : b.brk.length ≤ 1000) : PureF Tryz.prog p123.ix [.ag (dR b), .ag (NW h F d), .ag (bC p)] (.ag (sY (wH b p (F p.1.toNat) h d))) := by
  have hsun := aP b.sun
  have h4 := V.rws
  have hp2 := hp
  unfold dL at hp2
  rw [Bool.and_eq_true] at hp2
  have hpa := bI hp2.1
  have cO := xT d hd
  have cB := xU b V p hp d hd l4
  obtain ⟨r, hr⟩ := Int.eq_ofNat_of_zero_le hpa.1
  have hr3 : r < 3 := by omega
  have hpr : p.1.toNat = r := by rw [hr]; rfl
  rw [hpr]
  unfold wH LF
  refine PureF.run HP (by simp) (by simp [aO, Pu, aM, bC, NW]) ?_; conv => whnf
  cases hB : tD b p d b.rch.toNat
  all_goals
    rw [hB] at cB
    by_cases k1 : F r = b.sun.getD h 0
    all_goals
      by_cases k2 : F r = wX d
      all_goals
        first | rw [decide_eq_true k1] | rw [decide_eq_false k1]
        first | rw [decide_eq_true k2] | rw [decide_eq_false k2]
        rcases GS hr3 with rfl | rfl | rfl
        all_goals
          repeat' first | ((first | refine Qz ?_ | refine Qy ?_) <;> conv => whnf) | (refine WB.tt ?_; conv => whnf) | (refine WB.ff ?_; conv => whnf)
          refine WSt.ixaN (m := _) rfl rfl hr (by decide) ?_; conv => whnf
          repeat' first | ((first | refine Qz ?_ | refine Qf (cO) ?_ | refine Qf (cB) ?_ | refine WIx.intsN hh ?_ | refine Qy ?_) <;> conv => whnf) | (refine WB.tt ?_; conv => whnf) | (refine WB.ff ?_; conv => whnf)
          exact ⟨.inr rfl, _, rfl, .pu (by simp [one, Pu, aO, sY])⟩
theorem Dc (x y : Hr) (h1 : (-100 ≤ x.sun ∧ x.sun ≤ 100) ∧ (-100 ≤ x.calm ∧ x.calm ≤ 100) ∧ (-100 ≤ x.good ∧ x.good ≤ 100)) (h2 : (-100 ≤ y.sun ∧ y.sun ≤ 100) ∧ (-100 ≤ y.calm ∧ y.calm ≤ 100) ∧ (-100 ≤ y.good ∧ y.good ≤ 100)) : PureF Tryz.prog p122.ix [.ag (sY x), .ag (sY y)] (.ag (sY (Gj x y))) := by
  refine PureF.run IG (by simp) (by simp [aO, Pu, sY]) ?_; conv => whnf
  repeat' first | ((first | refine Qz ?_ | refine Qy ?_) <;> conv => whnf) | (refine WB.tt ?_; conv => whnf) | (refine WB.ff ?_; conv => whnf)
  exact ⟨.inr rfl, _, rfl, .pu (by simp [one, Pu, aO, sY])⟩
def kG (S : Nat → Nat → Int) : List D := [.i .i64 (S 0 0), .i .i64 (S 0 1), .i .i64 (S 0 2), .i .i64 (S 1 0), .i .i64 (S 1 1), .i .i64 (S 1 2), .i .i64 (S 2 0), .i .i64 (S 2 1), .i .i64 (S 2 2), .i .i64 (S 3 0), .i .i64 (S 3 1), .i .i64 (S 3 2), .i .i64 (S 4 0), .i .i64 (S 4 1), .i .i64 (S 4 2)]
theorem jO (S : Nat → Nat → Int) : aO (kG S) := by simp [kG, aO, Pu]
theorem BR (t : Bool) : 0 ≤ FO t ∧ FO t ≤ 1 := by unfold FO; split <;> omega
theorem wT (b : Bh) (p : Int × Int) (f : Int) (h : Nat) (d : Int) : (0 ≤ (wH b p f h d).sun ∧ (wH b p f h d).sun ≤ 1) ∧ (0 ≤ (wH b p f h d).calm ∧ (wH b p f h d).calm ≤ 1) ∧ (0 ≤ (wH b p f h d).good ∧ (wH b p f h d).good ≤ 1) := by
  unfold wH
  have h1 := BR (decide (f = b.sun.getD h 0))
  have h2 := BR (LF b p f d)
  refine ⟨h1, h2, Int.mul_nonneg h1.1 h2.1, ?_⟩
  have := Int.mul_le_mul h1.2 h2.2 h2.1 (by omega)
  simpa using this
theorem Ni {l : List Int} (h : l.length ≤ 3) : l = [] ∨ (∃ a, l = [a]) ∨ (∃ a b, l = [a, b]) ∨ ∃ a b c, l = [a, b, c] := by
  match l, h with
  | [], _ => exact .inl rfl
  | [a], _ => exact .inr (.inl ⟨a, rfl⟩)
  | [a, b], _ => exact .inr (.inr (.inl ⟨a, b, rfl⟩))
  | [a, b, c], _ => exact .inr (.inr (.inr ⟨a, b, c, rfl⟩))
  | _ :: _ :: _ :: _ :: _, h => exact absurd h (by simp)
def Og (F : Nat → Int) : List D := [.i .i64 (F 0), .i .i64 (F 1), .i .i64 (F 2)]
theorem Ed (l : List Int) (h1 : 1 ≤ l.length) (h : l.length ≤ 3) : PureF Tryz.prog p107.ix [.lst 1 (ints l)] (.ag (Og fun r => l.getD r 0)) := by
  refine PureF.run JE (by simp) (by simp [aO, cZ, Pu, aC]) ?_; conv => whnf
  rcases Ni h with rfl | ⟨a, rfl⟩ | ⟨a, b, rfl⟩ | ⟨a, b, c, rfl⟩
  · exact absurd h1 (by decide)
  all_goals
    repeat' first | ((first | refine Qz ?_ | refine Qy ?_) <;> conv => whnf) | (refine WB.tt ?_; conv => whnf) | (refine WB.ff ?_; conv => whnf)
    refine ⟨_, rfl, ?_⟩; conv => whnf
    repeat' first | ((first | refine Qz ?_ | refine Qy ?_) <;> conv => whnf) | (refine WB.tt ?_; conv => whnf) | (refine WB.ff ?_; conv => whnf)
    refine ⟨_, rfl, ?_⟩; conv => whnf
    repeat' first | ((first | refine Qz ?_ | refine Qy ?_) <;> conv => whnf) | (refine WB.tt ?_; conv => whnf) | (refine WB.ff ?_; conv => whnf)
    exact ⟨.inr rfl, _, rfl, .pu (by simp [one, Pu, aO])⟩
end Go.Ev
end
