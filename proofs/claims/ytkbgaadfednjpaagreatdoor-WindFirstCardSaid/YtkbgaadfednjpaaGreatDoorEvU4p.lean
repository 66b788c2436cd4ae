import Derived.Test.YtkbgaadfednjpaaGreatDoorEvU4h
import Derived.Test.YtkbgaadfednjpaaGreatDoorEvUSq
import Derived.Test.YtkbgaadfednjpaaGreatDoorEvUIt
import Derived.Test.YtkbgaadfednjpaaGreatDoorEvU4e
import Derived.Test.YtkbgaadfednjpaaGreatDoorEvULk
import Derived.Test.YtkbgaadfednjpaaGreatDoorEvU4b
set_option linter.all false
set_option maxHeartbeats 8000000
noncomputable section
namespace Go.Ev
open Go.Proofs
set_option maxRecDepth 100000
def Lq (L : List (List Int)) (j h r : Nat) : Int := bif Nat.blt h j then (L.getD h default).getD r 0 else 0
def EX (L : List (List Int)) (h r : Nat) : Int := (L.getD h default).getD r 0
theorem ET (L : List (List Int)) (h r : Nat) : Lq L L.length h r = EX L h r := by
 unfold Lq EX
 cases hb : Nat.blt h L.length with
 | true => rfl
 | false =>
   have : ¬ h < L.length := fun k => by rw [show Nat.blt h L.length = true from Nat.ble_eq_true_of_le k] at hb; cases hb
   have e : L.getD h default = [] := by simp [List.getD, this]; rfl
   rw [e]; rfl
theorem uO (L : List (List Int)) (h5 : L.length <= 5) (h3 : ∀ w ∈ L, 1 <= w.length /\ w.length <= 3) : PureF Tryz.prog p84.ix [.lst 1 (aD eO L)] (.ag (kG (EX L))) := by
 have e1 := aK eO L
 have he : kG (EX L) = kG (Lq L L.length) := by simp only [kG, ET]
 rw [he]
 refine PureF.run MI (by simp) (by simp [aO, cZ, Pu, aG]) ?_; conv => whnf
 repeat' ((first | refine Qw ?_ | refine Qv ?_) <;> conv => whnf)
 refine Rn.loop (fun j : Nat => ⟨(.n (.n (.n (.n .e (some (.i .i64 (L.length : Int))) .e) (some (.pt (.o .h) 0 0)) .e) none .e) none (.n (.n (.n .e (some (.i .i64 (j : Int))) .e) none .e) (some (.pt .h 0 0)) (.n .e (some (.lst 1 (aD eO L))) .e))), .n (.n .e (some (.cells false ((kG (Lq L j)).map fun d => Cell.o d 0) 1)) .e) (some (.cells false ((kG fun _ _ => 0).map fun d => Cell.o d 0) 1)) .e, .i .h, none⟩) (fun j => j <= L.length) (fun j => L.length - j) 0 ?_ (Nat.zero_le _) ?_
 ·refine X.le.mk ?_ ?_ (Nat.le_refl _) rfl rfl
  all_goals (try rw [<- e1])
  all_goals (repeat' first | exact T.le_e _ | exact T.le_refl _ | refine T.le_some ?_ rfl ?_ | refine T.le_none ?_ ?_ | refine T.le_ee ?_ ?_)
 intro j hj
 have hj : j <= L.length := hj
 conv => whnf
 repeat' ((first | refine Qw ?_ | refine Qv ?_) <;> conv => whnf)
 refine WB.dec (fun h => ?_) (fun h => ?_) <;> conv => whnf
 ·have hlt : j < L.length := by omega
  have hj5 : j < 5 := by omega
  have cF := Ed (L.getD j default) (h3 _ (aU hlt)).1 (h3 _ (aU hlt)).2
  rcases rZ hj5 with rfl | rfl | rfl | rfl | rfl
  ·repeat' ((first | refine Qz ?_ | refine Qf cF ?_ | refine WIx.rowsN hlt ?_ | refine Qy ?_ | refine Qv ?_) <;> conv => whnf)
   refine WSt.ixaN (m := 0) rfl rfl rfl (by decide) ?_; conv => whnf
   repeat' ((first | refine Qw ?_ | refine Qv ?_) <;> conv => whnf)
   refine Again.to (0 + 1) (by omega) (show 0 + 1 <= L.length by omega) (Nat.le_refl _) ?_
   refine Shr.of ?_ ?_ rfl rfl
   ·(repeat' first | exact Rel.e | refine Rel.some ?_ ?_ ?_ | refine Rel.none ?_ ?_ | refine Rel.ee ?_ ?_)
    all_goals show Fz _ _ _ _
    all_goals first | exact .pu trivial | exact .pu (aC _) | exact .pu (aG _) | exact .kpt (Ql rfl)
   ·(repeat' first | exact Rel.e | refine Rel.some ?_ ?_ ?_ | refine Rel.none ?_ ?_ | refine Rel.ee ?_ ?_)
    all_goals first
     | exact Ro (aW b)
     | (refine Ro (ShC.same ?_); (repeat' first | exact ShC.nl | refine ShC.cn ?_ ?_) <;> exact .pu trivial)
  ·repeat' ((first | refine Qz ?_ | refine Qf cF ?_ | refine WIx.rowsN hlt ?_ | refine Qy ?_ | refine Qv ?_) <;> conv => whnf)
   refine WSt.ixaN (m := 1) rfl rfl rfl (by decide) ?_; conv => whnf
   repeat' ((first | refine Qw ?_ | refine Qv ?_) <;> conv => whnf)
   refine Again.to (1 + 1) (by omega) (show 1 + 1 <= L.length by omega) (Nat.le_refl _) ?_
   refine Shr.of ?_ ?_ rfl rfl
   ·(repeat' first | exact Rel.e | refine Rel.some ?_ ?_ ?_ | refine Rel.none ?_ ?_ | refine Rel.ee ?_ ?_)
    all_goals show Fz _ _ _ _
    all_goals first | exact .pu trivial | exact .pu (aC _) | exact .pu (aG _) | exact .kpt (Ql rfl)
   ·(repeat' first | exact Rel.e | refine Rel.some ?_ ?_ ?_ | refine Rel.none ?_ ?_ | refine Rel.ee ?_ ?_)
    all_goals first
     | exact Ro (aW b)
     | (refine Ro (ShC.same ?_); (repeat' first | exact ShC.nl | refine ShC.cn ?_ ?_) <;> exact .pu trivial)
  ·repeat' ((first | refine Qz ?_ | refine Qf cF ?_ | refine WIx.rowsN hlt ?_ | refine Qy ?_ | refine Qv ?_) <;> conv => whnf)
   refine WSt.ixaN (m := 2) rfl rfl rfl (by decide) ?_; conv => whnf
   repeat' ((first | refine Qw ?_ | refine Qv ?_) <;> conv => whnf)
   refine Again.to (2 + 1) (by omega) (show 2 + 1 <= L.length by omega) (Nat.le_refl _) ?_
   refine Shr.of ?_ ?_ rfl rfl
   ·(repeat' first | exact Rel.e | refine Rel.some ?_ ?_ ?_ | refine Rel.none ?_ ?_ | refine Rel.ee ?_ ?_)
    all_goals show Fz _ _ _ _
    all_goals first | exact .pu trivial | exact .pu (aC _) | exact .pu (aG _) | exact .kpt (Ql rfl)
   ·(repeat' first | exact Rel.e | refine Rel.some ?_ ?_ ?_ | refine Rel.none ?_ ?_ | refine Rel.ee ?_ ?_)
    all_goals first
     | exact Ro (aW b)
     | (refine Ro (ShC.same ?_); (repeat' first | exact ShC.nl | refine ShC.cn ?_ ?_) <;> exact .pu trivial)
  ·repeat' ((first | refine Qz ?_ | refine Qf cF ?_ | refine WIx.rowsN hlt ?_ | refine Qy ?_ | refine Qv ?_) <;> conv => whnf)
   refine WSt.ixaN (m := 3) rfl rfl rfl (by decide) ?_; conv => whnf
   repeat' ((first | refine Qw ?_ | refine Qv ?_) <;> conv => whnf)
   refine Again.to (3 + 1) (by omega) (show 3 + 1 <= L.length by omega) (Nat.le_refl _) ?_
   refine Shr.of ?_ ?_ rfl rfl
   ·(repeat' first | exact Rel.e | refine Rel.some ?_ ?_ ?_ | refine Rel.none ?_ ?_ | refine Rel.ee ?_ ?_)
    all_goals show Fz _ _ _ _
    all_goals first | exact .pu trivial | exact .pu (aC _) | exact .pu (aG _) | exact .kpt (Ql rfl)
   ·(repeat' first | exact Rel.e | refine Rel.some ?_ ?_ ?_ | refine Rel.none ?_ ?_ | refine Rel.ee ?_ ?_)
    all_goals first
     | exact Ro (aW b)
     | (refine Ro (ShC.same ?_); (repeat' first | exact ShC.nl | refine ShC.cn ?_ ?_) <;> exact .pu trivial)
  ·repeat' ((first | refine Qz ?_ | refine Qf cF ?_ | refine WIx.rowsN hlt ?_ | refine Qy ?_ | refine Qv ?_) <;> conv => whnf)
   refine WSt.ixaN (m := 4) rfl rfl rfl (by decide) ?_; conv => whnf
   repeat' ((first | refine Qw ?_ | refine Qv ?_) <;> conv => whnf)
   refine Again.to (4 + 1) (by omega) (show 4 + 1 <= L.length by omega) (Nat.le_refl _) ?_
   refine Shr.of ?_ ?_ rfl rfl
   ·(repeat' first | exact Rel.e | refine Rel.some ?_ ?_ ?_ | refine Rel.none ?_ ?_ | refine Rel.ee ?_ ?_)
    all_goals show Fz _ _ _ _
    all_goals first | exact .pu trivial | exact .pu (aC _) | exact .pu (aG _) | exact .kpt (Ql rfl)
   ·(repeat' first | exact Rel.e | refine Rel.some ?_ ?_ ?_ | refine Rel.none ?_ ?_ | refine Rel.ee ?_ ?_)
    all_goals first
     | exact Ro (aW b)
     | (refine Ro (ShC.same ?_); (repeat' first | exact ShC.nl | refine ShC.cn ?_ ?_) <;> exact .pu trivial)
 ·obtain rfl : j = L.length := by omega
  repeat' ((first | refine Qw ?_ | refine Qv ?_) <;> conv => whnf)
  exact ⟨.inr rfl, _, rfl, .pu (by simp [one, Pu, aO, kG])⟩
def nJ (b : Bh) (L : List (List Int)) : Bool := decide ((L.length : Int) = b.last + 1) && L.all (vH b)
theorem uR (b : Bh) (L : List (List Int)) (h0 : -9223372036854775808 <= b.last + 1 /\ b.last + 1 <= 9223372036854775807) (h1 : L.length <= 1000) (h2 : ∀ w ∈ L, w.length <= 1000) : PureF Tryz.prog p82.ix [.ag (dR b), .lst 1 (aD eO L)] (.b (nJ b L)) := by
 have e1 := aK eO L
 have cA := Dn L p117 [.ag (dR b)] [] (vH b) (by simp [aO, Pu, aM]) trivial h1 (fun w hw => uN b w (h2 w hw))
 refine PureF.run Jf (by simp) (by simp [aO, Pu, aM, aG]) ?_; conv => whnf
 unfold nJ
 by_cases k : (L.length : Int) = b.last + 1
 rotate_left
 ·rw [decide_eq_false k]
  repeat' first | ((first | refine Qw ?_ | refine Qd (fun h => ?_) (fun h => ?_)) <;> conv => whnf) | (refine WB.tt ?_; conv => whnf) | (refine WB.ff ?_; conv => whnf)
  exact Fin.b rfl rfl
 rw [decide_eq_true k]
 repeat' first | ((first | refine Qw ?_ | refine Qf cA ?_ | refine Qd (fun h => ?_) (fun h => ?_)) <;> conv => whnf) | (refine WB.tt ?_; conv => whnf) | (refine WB.ff ?_; conv => whnf)
 exact Fin.b rfl rfl
namespace T
variable {α : Type}
def nP {β : Type} (p : Pos) (v : Option α) : T α → (T α → β) → β :=
  Pos.rec (fun t k => T.casesOn t (k (.n .e v .e)) (fun l _ r => k (.n l v r)))
    (fun _ ih t k => T.casesOn t (ih .e fun l => k (.n l none .e)) (fun l w r => ih l fun l => k (.n l w r)))
    (fun _ ih t k => T.casesOn t (ih .e fun r => k (.n .e none r)) (fun l w r => ih r fun r => k (.n l w r))) p
theorem eQ {β : Type} : ∀ (p : Pos) (v : Option α) (t : T α) (k : T α → β), nP p v t k = k (nP p v t id)
  | .h, v, .e, k => rfl
  | .h, v, .n _ _ _, k => rfl
  | .o p, v, .e, k => by
    show nP p v .e (fun l => k (.n l none .e)) = k (nP p v .e fun l => .n l none .e)
    rw [eQ p v .e, eQ p v .e fun l => T.n l none .e]
  | .o p, v, .n l w r, k => by
    show nP p v l (fun l => k (.n l w r)) = k (nP p v l fun l => .n l w r)
    rw [eQ p v l, eQ p v l fun l => T.n l w r]
  | .i p, v, .e, k => by
    show nP p v .e (fun r => k (.n .e none r)) = k (nP p v .e fun r => .n .e none r)
    rw [eQ p v .e, eQ p v .e fun r => T.n .e none r]
  | .i p, v, .n l w r, k => by
    show nP p v r (fun r => k (.n l w r)) = k (nP p v r fun r => .n l w r)
    rw [eQ p v r, eQ p v r fun r => T.n l w r]
def putsK {β : Type} (us : List (Pos × Option α)) : T α → (T α → β) → β :=
  List.rec (fun t k => k t) (fun u _ ih t k => Prod.casesOn u fun p v => nP p v t fun t => ih t k) us
theorem putsK_eq {β : Type} : ∀ (us : List (Pos × Option α)) (t : T α) (k : T α → β), putsK us t k = k (putsK us t id)
  | [], t, k => rfl
  | (p, v) :: us, t, k => by
    show nP p v t (fun t => putsK us t k) = k (nP p v t fun t => putsK us t id)
    rw [eQ p v t fun t => putsK us t k, eQ p v t fun t => putsK us t id, putsK_eq us _ k]
end T
def X.up (ds us : List (Pos × Option D)) (os : List (Pos × Option C)) (nx : Pos) (x : X) : X := ⟨T.putsK us (T.putsK ds x.sl id) id, T.putsK os x.ob id, nx, none⟩
def X.upK (ds us : List (Pos × Option D)) (os : List (Pos × Option C)) (nx : Pos) (x : X) (k : X → Prop) : Prop := X.casesOn x fun sl ob _ _ => T.putsK ds sl fun sl => T.putsK us sl fun sl => T.putsK os ob fun ob => k ⟨sl, ob, nx, none⟩
theorem X.upK_eq (ds us : List (Pos × Option D)) (os : List (Pos × Option C)) (nx : Pos) (x : X) (k : X → Prop) : X.upK ds us os nx x k = k (X.up ds us os nx x) := by
  obtain ⟨sl, ob, nx0, lg⟩ := x
  show T.putsK ds sl (fun sl => T.putsK us sl fun sl => T.putsK os ob fun ob => k ⟨sl, ob, nx, none⟩) = k ⟨T.putsK us (T.putsK ds sl id) id, T.putsK os ob id, nx, none⟩
  rw [T.putsK_eq ds, T.putsK_eq us, T.putsK_eq os]
section
variable {P : Program} {nt : Nat} {σ : Type} {I : σ → Prop} {μ : σ → Nat} {s : σ} {z x : X} {ds : List (Pos × Option D)} {U : σ → List (Pos × Option D)} {O : σ → List (Pos × Option C)} {N : σ → Pos}
theorem Rn.loopU {a : RC} {K : Ex → X → Prop} (ds : List (Pos × Option D)) (U : σ → List (Pos × Option D)) (O : σ → List (Pos × Option C)) (N : σ → Pos) (I : σ → Prop) (μ : σ → Nat) (s0 : σ) (h0 : X.upK ds (U s0) (O s0) (N s0) x fun y => X.le y x) (i0 : I s0)
    (hb : ∀ s, I s → X.upK ds (U s) (O s) (N s) x fun y => Rn P nt a y (wJ (fun s => X.up ds (U s) (O s) (N s) x) I μ s K)) : Rn P nt (.loop a) x K :=
  Rn.loopB (fun s => X.up ds (U s) (O s) (N s) x) I μ s0 (by have h := h0; rw [X.upK_eq] at h; exact h) i0 fun s hs => by have h := hb s hs; rw [X.upK_eq] at h; exact h
theorem AgainB.u (s' : σ) (h : μ s' < μ s) (i : I s') (n : (N s).nat ≤ (N s').nat) (l : X.upK ds (U s') (O s') (N s') x fun y => Shr z y) : AgainB (fun s => X.up ds (U s) (O s) (N s) x) I μ s z :=
  AgainB.sh s' h i n (by rw [X.upK_eq] at l; exact l)
theorem Rn.loopV {a : RC} {K : Ex → X → Prop} (ds : List (Pos × Option D)) (U : σ → List (Pos × Option D)) (O : σ → List (Pos × Option C)) (N : σ → Pos) (I : σ → Prop) (μ : σ → Nat) (s0 : σ) (h0 : X.upK ds (U s0) (O s0) (N s0) x fun y => X.le y x) (i0 : I s0)
    (hb : ∀ x', x' = x → ∀ s, I s → X.upK ds (U s) (O s) (N s) x fun y => Rn P nt a y (wJ (fun s => X.up ds (U s) (O s) (N s) x') I μ s K)) : Rn P nt (.loop a) x K :=
  Rn.loopU ds U O N I μ s0 h0 i0 (hb x rfl)
theorem AgainB.v {x' : X} (s' : σ) (h : μ s' < μ s) (i : I s') (n : (N s).nat ≤ (N s').nat) (hx : x' = x) (l : X.upK ds (U s') (O s') (N s') x fun y => Shr z y) : AgainB (fun s => X.up ds (U s) (O s) (N s) x') I μ s z := by
  subst hx
  exact AgainB.u s' h i n l
end
theorem Fz.ptr {B : Pos → Prop} {ob : T C} {id : Pos} {st : Nat} {cs : List Cell} {cur : Nat} {r : List D} (hB : ¬ B id) (h : ob.get id = some (.cells false cs cur)) (hc : cs = r.map fun d => Cell.o d st) (h0 : 0 < r.length) (hp : aO r) : Fz B ob (.pt id 0 st) (.pl r 0) := by
  subst hc
  refine .pt hB h h0 (fun k d hk => ⟨.o d st, ?_, ?_, rfl⟩) (FzL.of hp)
  · rw [List.drop_zero, List.getElem?_map, hk]; rfl
  · show Nat.ble st st = true
    exact Nat.ble_eq_true_of_le (Nat.le_refl _)
section
variable {P : Program} {nt : Nat}
structure WReg (P : Program) (l : List RG) (x : X) (K : X → Prop) : Prop where
  ok : ∃ Z, LRr P l x Z ∧ K Z
theorem WReg.at {l : List RG} {x : X} {K : X → Prop} (h : wL P K l x) : WReg P l x K := ⟨vU h⟩
theorem WReg.cons {g : RG} {l : List RG} {x y : X} {K : X → Prop} (h : GR P g x y) (k : WReg P l y K) : WReg P (g :: l) x K :=
  let ⟨Z, h1, h2⟩ := k.ok
  ⟨Z, .cons h h1, h2⟩
theorem LRr.app {l m : List RG} {x y z : X} (h : LRr P l x y) (k : LRr P m y z) : LRr P (l ++ m) x z := by
  induction h with
  | nil => exact k
  | cons h1 _ ih => exact .cons h1 (ih k)
theorem Rn.regN (n : Nat) {l : List RG} {x : X} {K : Ex → X → Prop} (h : wL P (fun y => WReg P (l.drop n) y (K .normal)) (l.take n) x) : Rn P nt (.reg l) x K := Rn.of_bare fun c hc hs => by
  obtain ⟨Y, h1, h2⟩ := vU h
  obtain ⟨Z, h3, h4⟩ := h2.ok
  have h5 : LRr P l x Z := by have := LRr.app h1 h3; rwa [List.take_append_drop] at this
  refine other hc hs (fun e => by cases e) (fun _ e => by cases e) (fun j _ e => by cases e) (fun i ops e e' => ?_) (fun i ops _ e => by cases e) (fun _ _ _ e => by cases e) (fun _ _ _ _ _ _ e => by cases e) (fun _ _ _ e => by cases e) (fun _ _ e => by cases e) (fun _ _ _ _ _ _ _ _ _ e => by cases e) (fun e => ?_)
  · cases e'
    subst e
    exact ⟨.normal, Z, XOk.regR h5, h4⟩
  · cases e
    cases h5 with
    | cons h _ => exact (kX h).elim
theorem GR.add {d : Pos} {a b : RX} {k : IntKind} {m n v : Int} {sl : T D} {ob : T C} {nx : Pos} {lg : Option (T Bool)} (ha : bG sl a = some (.i k m)) (hb : bG sl b = some (.i k n)) (hv : k.wrap (m + n) = v) : GR P (.u (.bin d .add a b)) ⟨sl, ob, nx, lg⟩ ⟨T.set d (.i k v) sl, ob, nx, lg⟩ := by
  refine .u (.st ?_)
  show gI d .add a b sl ob nx lg = _
  unfold gI
  rw [ha, hb]
  have hk : rA k k = true := fM.2 rfl
  simp only [iS, hk, cond_true, dG, bE, sL, bA, T.setK_eq, hv]
theorem GR.sub {d : Pos} {a b : RX} {k : IntKind} {m n v : Int} {sl : T D} {ob : T C} {nx : Pos} {lg : Option (T Bool)} (ha : bG sl a = some (.i k m)) (hb : bG sl b = some (.i k n)) (hv : k.wrap (m - n) = v) : GR P (.u (.bin d .sub a b)) ⟨sl, ob, nx, lg⟩ ⟨T.set d (.i k v) sl, ob, nx, lg⟩ := by
  refine .u (.st ?_)
  show gI d .sub a b sl ob nx lg = _
  unfold gI
  rw [ha, hb]
  have hk : rA k k = true := fM.2 rfl
  simp only [iS, hk, cond_true, dG, bE, mD, bA, T.setK_eq, hv]
end
theorem Fq {B : Pos → Prop} {ob : T C} {d e : D} (h : Fz B ob d e := by first | exact Fz.pu trivial | (refine Fz.i ?_; first | rfl | omega) | (refine Fz.kpt ?_; simp [Pos.nat, iU]; done) | (refine Fz.ksl ?_; simp [Pos.nat, iU]; done) | (refine Fz.kmp ?_; simp [Pos.nat, iU]; done)) : Fz B ob d e := h
theorem GV {n : Nat} {ob : T C} {id : Pos} {c c' : C} (k : ShC (fun id => id.nat < n) ob c c') (h : id.nat < n := by show Pos.nat _ < Pos.nat _; simp [Pos.nat, iU]; done) : RO' n ob id c c' := ⟨h, k⟩
theorem Sq {B : Pos → Prop} {ob : T C} {ro : Bool} {cs : List Cell} {cur : Nat} (h : ∀ c ∈ cs, Fz B ob c.d c.d := by (repeat' first | exact ShC.nl | refine ShC.cn ?_ ?_) <;> exact Fq) : ShC B ob (.cells ro cs cur) (.cells ro cs cur) := ShC.same h
section
variable {α : Type} {f : α → List D}
theorem ShC.na {B : Pos → Prop} {ob : T C} (hp : ∀ a, aO (f a)) (x : α) : ShC B ob (.cells false ((f x).map fun d => Cell.o d 0) 1) (.cells false ((aD f [x]).flatten.map fun d => Cell.o d 0) 1) := by
  have e : (aD f [x]).flatten = f x := by simp [aD]
  rw [e]
  refine ShC.same fun c hc => ?_
  obtain ⟨d, hd, rfl⟩ := List.mem_map.1 hc
  exact .pu (aV.1 (hp _) d hd)
theorem ShC.ca {B : Pos → Prop} {ob : T C} {m : Nat} (hp : ∀ a, aO (f a)) (A : List α) (x : α) : ShC B ob (.cells false (((aD f A).flatten.map fun d => Cell.o d m) ++ (f x).map fun d => Cell.o d (m + 1)) (m + 1 + 1)) (.cells false (((aD f A).flatten ++ f x).map fun d => Cell.o d (m + 1)) (m + 1 + 1)) := by
  refine ShC.grown (by omega) (aV.2 fun d hd => ?_)
  rcases List.mem_append.1 hd with hd | hd
  · exact aV.1 (fY hp _) d hd
  · exact aV.1 (hp _) d hd
end
section
variable {P : Program}
theorem WReg.N (n : Nat) {l : List RG} {x : X} {K : X → Prop} (h : wL P (fun y => WReg P (l.drop n) y K) (l.take n) x) : WReg P l x K := by
  obtain ⟨Y, h1, h2⟩ := vU h
  obtain ⟨Z, h3, h4⟩ := h2.ok
  exact ⟨Z, by have := LRr.app h1 h3; rwa [List.take_append_drop] at this, h4⟩
end
theorem Gr (a : Hr) : aO (sY a) := by simp [sY, aO, Pu]
def nC (xs : List Hr) : List D := [.lst 3 (aD sY xs)]
theorem jA (xs : List Hr) : aO (nC xs) := by
 simp only [nC, aO, Pu, and_true]
 exact fK Gr xs
theorem Cv.ns {γ γ' : Gh} {w : World} {z : Nat} : Cv γ γ' w .ns (.lst z []) := fun v h => by
 unfold DV at h ⊢
 exact ⟨none, 0, h, Nat.le_refl _, fun _ => rfl, .inl rfl⟩
theorem Nw (r : List D) (st : Nat) : Vis st ((r.map fun d => Cell.o d st).drop 0) r := fun k d hk => ⟨.o d st, by rw [List.drop_zero, List.getElem?_map, hk]; rfl, Nat.ble_eq_true_of_le (Nat.le_refl _), rfl⟩
def Hm (b : Bh) : Bh := ⟨b.last, b.rws, b.pls, b.rch, b.face, b.sun, b.winds, b.brk, []⟩
theorem VW.nt {b : Bh} (V : VW b) : VW (Hm b) := { V with nts := rfl }
structure FzW (b : Bh) : Prop where
 v : VW b
 l4 : b.brk.length <= 4
 l5 : b.nts.length <= 5
theorem dM {b : Bh} (h : aR b = 0) : FzW b := by
 unfold aR at h
 by_cases hb : AH b = true
 ·rw [if_pos hb] at h; exact absurd h (by decide)
 ·rw [if_neg hb] at h
  have hb : ¬ (4 < b.last \/ 3 < b.rws \/ 5 < b.pls \/ 4 < b.brk.length \/ 5 < b.nts.length) := fun k => hb (fW.2 k)
  cases hv : fV b with
  | false => rw [hv] at h; exact absurd h (by decide)
  | true => exact ⟨VW.iff.1 hv, by omega, by omega⟩
theorem uE {b : Bh} {L : List (List Int)} : nJ b L = true ↔ (L.length : Int) = b.last + 1 /\ ∀ w ∈ L, (w.length : Int) = b.rws /\ w.all iR = true := by
 unfold nJ vH
 simp only [Bool.and_eq_true, decide_eq_true_iff, List.all_eq_true]
section
variable {sl : T D} {ob : T C} {nx : Pos} {lg : Option (T Bool)} {K : X → Prop}
theorem WSt.app_firstL {d idy : Pos} {z curY : Nat} {roY : Bool} {x y : RX} {a : D} {r : List D} {csY : List Cell} (hx : bG sl x = some a) (ha : a = .ns ∨ a = .em) (hy : bG sl y = some (.sl idy 0 1 0 z)) (hoy : ob.get idy = some (.cells roY csY curY)) (hcy : csY = r.map fun d => Cell.o d 0) (hr : r.length = z)
    (h : LB lg idy fun lg => LE lg nx fun lg => T.setK nx (.cells false (r.map fun d => Cell.o d 0) 1) ob fun ob => Pos.succK nx fun nx' => eC sl ob nx' lg d K (.sl nx 0 1 0 z)) : WSt (.app d z x y) ⟨sl, ob, nx, lg⟩ K := by
  obtain ⟨l1, e1, h⟩ := xE h
  obtain ⟨l2, e2, h⟩ := yC h
  rw [T.setK_eq, Pos.succK_eq] at h
  obtain ⟨h2, h3⟩ := bD h
  refine ⟨_, ?_, h3⟩
  show fH d z x y sl ob nx lg = _
  unfold fH
  rw [hx, hy]
  subst hcy hr
  have hb : Nat.beq r.length r.length = true := Nat.beq_refl _
  have hrd : gG (β := X) 0 (Nat.mul 1 r.length) (dN 0 (r.map fun d => Cell.o d 0)) = fun k => k r := by
    rw [bX, List.drop_zero, show Nat.mul 1 r.length = r.length from Nat.one_mul _]
    have key : ∀ (l : List D) (k : List D → Option X), gG 0 l.length (l.map fun d => Cell.o d 0) k = k l := by
      intro l
      induction l with
      | nil => exact fun k => rfl
      | cons a l ih => exact fun k => ih fun ds => k (a :: ds)
    exact funext fun k => key r k
  simp only [rC, hb, cond_true, hoy, hrd, tB, e1]
  have hle : Nat.ble (Nat.succ 0) 2147483648 = true := rfl
  rcases ha with rfl | rfl <;> simp only [hle, cond_true, gY, eM, e2, T.setK_eq, Pos.succK_eq] <;> exact h2
theorem WSt.app_oneL {d id idy : Pos} {z st len len' cur curY : Nat} {roY : Bool} {x y : RX} {ds r : List D} {csY : List Cell} {ob2 : T C} (hx : bG sl x = some (.sl id 0 len st z)) (hy : bG sl y = some (.sl idy 0 1 0 z)) (hoy : ob.get idy = some (.cells roY csY curY)) (hcy : csY = r.map fun d => Cell.o d 0) (hr : r.length = z) (hox : ob.get id = some (.cells false (ds.map fun d => Cell.o d st) cur)) (hds : ds.length = len * z) (hcur : cur = st + 1) (hlen : len' = len + 1) (hmax : len < 2147483648)
    (hob2 : T.set id (.cells false ((ds.map fun d => Cell.o d st) ++ r.map fun d => Cell.o d cur) (cur + 1)) ob = ob2) (h : LB lg idy fun lg => LE lg id fun lg => eC sl ob2 nx lg d K (.sl id 0 len' cur z)) : WSt (.app d z x y) ⟨sl, ob, nx, lg⟩ K := by
  obtain ⟨l1, e1, h⟩ := xE h
  obtain ⟨l2, e2, h⟩ := yC h
  obtain ⟨h2, h3⟩ := bD h
  refine ⟨_, ?_, h3⟩
  show fH d z x y sl ob nx lg = _
  unfold fH
  rw [hx, hy]
  subst hcy hr hlen hob2
  have hb : Nat.beq r.length r.length = true := Nat.beq_refl _
  have hrd : gG (β := X) 0 (Nat.mul 1 r.length) (dN 0 (r.map fun d => Cell.o d 0)) = fun k => k r := by
    rw [bX, List.drop_zero, show Nat.mul 1 r.length = r.length from Nat.one_mul _]
    have key : ∀ (l : List D) (k : List D → Option X), gG 0 l.length (l.map fun d => Cell.o d 0) k = k l := by
      intro l
      induction l with
      | nil => exact fun k => rfl
      | cons a l ih => exact fun k => ih fun ds => k (a :: ds)
    exact funext fun k => key r k
  simp only [rC, hb, cond_true, hoy, hrd, tB, e1]
  simp only [hox]
  have hidx : Nat.add 0 (Nat.mul len r.length) = ds.length := by rw [hds]; exact Nat.zero_add _
  rw [hidx, nI ds cur _ hcur]
  simp only [List.append_nil, bF, gN, e2, T.setK_eq]
  have e3 : Nat.add len (Nat.succ 0) = len + 1 := rfl
  rw [e3, Nat.ble_eq_true_of_le (show len + 1 ≤ 2147483648 from hmax)]
  exact h2
end
theorem Ez (b : Bh) (l1 : b.face.length <= 1000) (l2 : b.sun.length <= 1000) (l3 : b.winds.length <= 1000) (l6 : ∀ w ∈ b.winds, w.length <= 1000) : PureF Tryz.prog p28.ix [.ag (dR b)] (.i .i64 (aR b)) := by
 have cC := Ap b l1 l2 l3 l6
 refine PureF.run LV (by simp) (by simp [aO, cZ, Pu, aM]) ?_; conv => whnf
 repeat' ((first | refine Qw ?_ | refine Qf cC ?_ | refine Qv ?_) <;> conv => whnf)
 exact Fin.i rfl rfl
theorem tJ (l : List Int) (hl : l.length <= 65536) : PureF Tryz.prog p26.ix [.lst 1 (ints l)] (.lst 1 (ints l)) := by
 have e1 := aP l
 refine PureF.run MG (by simp) (by simp [aO, cZ, Pu, aC]) ?_; conv => whnf
 repeat' ((first | refine Qw ?_ | refine Qv ?_) <;> conv => whnf)
 refine WSt.app_emp rfl rfl rfl (uM l) (by omega) (fun st => ?_); conv => whnf
 repeat' ((first | refine Qw ?_ | refine Qv ?_) <;> conv => whnf)
 exact Fin.t (.inr rfl) rfl (Frz.whole (cur := st + 1) rfl rfl (uM l) rfl (aC l))
theorem FK (p : Int × Int) : PureF Tryz.prog p42.ix [.ag (bC p)] (.ag (bC p)) := by
 refine PureF.run LW (by simp) (by simp [aO, Pu, bC]) ?_; conv => whnf
 repeat' ((first | refine Qw ?_ | refine Qv ?_) <;> conv => whnf)
 exact ⟨.inr rfl, _, rfl, .pu (by simp [one, Pu, aO, bC])⟩
theorem Gy (w : List Int) : (eO w).length = 1 := rfl
theorem AS (w : List Int) : aO (eO w) := by simp [eO, aO, Pu, aC]
def NU (L A : List (List Int)) (j : Nat) : X := ⟨(.n (.n (.n .e (some (.sl .h 0 j j 1)) .e) none .e) (some (.lst 1 (aD eO L))) (.n (.n .e (some (.i .i64 (j : Int))) .e) none .e)), .n .e (some (.cells false ((aD eO A).flatten.map fun d => Cell.o d j) (j + 1))) .e, .o .h, none⟩
theorem oY {α : Type} {l : List α} {j : Nat} {d : α} (h : j < l.length) : l.take (j + 1) = l.take j ++ [l.getD j d] := by
 rw [List.take_succ_eq_append_getElem h]; simp [List.getD, h]
theorem Et (L : List (List Int)) (hL : L.length <= 1000) (hl : ∀ w ∈ L, w.length <= 65536) : PureF Tryz.prog p25.ix [.lst 1 (aD eO L)] (.lst 1 (aD eO L)) := by
 have e1 := aK eO L
 refine PureF.run Mp (by simp) (by simp [aO, cZ, Pu, aG]) ?_; conv => whnf
 repeat' ((first | refine Qw ?_ | refine Qv ?_) <;> conv => whnf)
 refine Rn.loop (fun j : Nat => NU L (L.take j) j) (fun j => j <= L.length) (fun j => L.length - j) 0 ?_ (Nat.zero_le _) ?_
 ·refine X.le.mk ?_ ?_ (Nat.le_refl _) rfl rfl
  ·exact Lw
  ·exact Lw
 intro j hj
 have hj : j <= L.length := hj
 have hsc : j < L.length -> L.take (j + 1) = L.take j ++ [L.getD j default] := fun h => oY h
 have hAl : (L.take j).length = j := by rw [List.length_take]; omega
 have hend : j = L.length -> L.take j = L := fun h => by rw [List.take_of_length_le (by omega)]
 generalize hA : L.take j = A at *
 conv => whnf
 repeat' ((first | refine Qw ?_ | refine Qv ?_) <;> conv => whnf)
 refine WB.dec (fun hd => ?_) (fun hd => ?_) <;> conv => whnf
 ·have hlt : j < L.length := by omega
  have cL := tJ (L.getD j default) (hl _ (aU hlt))
  repeat' ((first | refine Qw ?_ | refine Qf cL ?_ | refine Qv ?_) <;> conv => whnf)
  refine WSt.app_one (id := .h) (ds := (aD eO A).flatten) (r := eO (L.getD j default)) (by rfl) (by rfl) (by rfl) (by rfl) (by rfl) (by rfl) (by rw [eL (z := 1) Gy, hAl]) (by rfl) (by rfl) (by omega) (by rfl) ?_; conv => whnf
  repeat' ((first | refine Qw ?_ | refine Qv ?_) <;> conv => whnf)
  refine Again.to (j + 1) (by omega) (show j + 1 <= L.length by omega) (Nat.le_refl _) ?_
  show Shr _ (NU L (L.take (j + 1)) (j + 1))
  rw [hsc hlt]
  refine Shr.of ?_ ?_ rfl rfl
  ·(repeat' first | exact Rel.e | refine Rel.some ?_ ?_ ?_ | refine Rel.none ?_ ?_ | refine Rel.ee ?_ ?_)
   all_goals show Fz _ _ _ _
   all_goals first | exact .pu trivial | exact .ksl (Ql rfl) | exact .pu (aG _)
  ·show Rel _ _ (.n .e (some (.cells false ((aD eO (A ++ [L.getD j default])).flatten.map fun d => Cell.o d (j + 1)) (j + 1 + 1))) .e : T C) _
   rw [qG]
   (repeat' first | exact Rel.e | refine Rel.some ?_ ?_ ?_ | refine Rel.none ?_ ?_ | refine Rel.ee ?_ ?_)
   all_goals exact Ro (ShC.grown (by omega) (aV.2 fun d hd => by
    rcases List.mem_append.1 hd with hd | hd <;> first | exact aV.1 (fY AS _) d hd | exact aV.1 (AS _) d hd))
 ·obtain rfl : j = L.length := by omega
  repeat' ((first | refine Qw ?_ | refine Qv ?_) <;> conv => whnf)
  have hE : FzE (fun _ => False) (.n .e (some (.cells false ((aD eO A).flatten.map fun d => Cell.o d L.length) (L.length + 1))) .e) (aD eO A) (aD eO L) := by
   rw [hend rfl]; exact FzE.of (aG _)
  exact Fin.t (.inr rfl) rfl (.sl (es := aD eO A) (cs := (aD eO A).flatten.map fun d => Cell.o d L.length) (fun h => h) rfl (by rw [aK, hAl]) (fun r hr => by
   obtain ⟨m, _, rfl⟩ := List.mem_map.1 hr
   rfl) (Nw (aD eO A).flatten L.length) hE)
def xK : C := .cells false [.o (.i .i64 0) 0, .o (.i .i64 0) 0, .o (.i .i64 0) 0, .o (.i .i64 0) 0, .o .ns 0, .o .ns 0, .o .ns 0, .o .ns 0, .o .ns 0] 1
theorem nL {B : Pos -> Prop} {ob : T C} : ShC B ob xK xK := by
 refine ShC.same ?_
 (repeat' first | exact ShC.nl | refine ShC.cn ?_ ?_) <;> exact .pu trivial
def GE (b : Bh) (x y : D) : C := .cells false [.o (.i .i64 b.last) 0, .o (.i .i64 b.rws) 0, .o (.i .i64 b.pls) 0, .o (.i .i64 b.rch) 0, .o (.lst 1 (ints b.face)) 0, .o (.lst 1 (ints b.sun)) 0, .o (.lst 1 (aD eO b.winds)) 0, .o x 0, .o y 0] 1
theorem kP {B : Pos -> Prop} {ob : T C} (b : Bh) {x x' y y' : D} (hx : Fz B ob x x') (hy : Fz B ob y y') : ShC B ob (GE b x y) (GE b x' y') := by
 refine .cells fun k c' hc => ?_
 match k, hc with
 | 0, hc => cases hc; exact ⟨_, rfl, fun _ h => h, .pu trivial⟩
 | 1, hc => cases hc; exact ⟨_, rfl, fun _ h => h, .pu trivial⟩
 | 2, hc => cases hc; exact ⟨_, rfl, fun _ h => h, .pu trivial⟩
 | 3, hc => cases hc; exact ⟨_, rfl, fun _ h => h, .pu trivial⟩
 | 4, hc => cases hc; exact ⟨_, rfl, fun _ h => h, .pu (aC _)⟩
 | 5, hc => cases hc; exact ⟨_, rfl, fun _ h => h, .pu (aC _)⟩
 | 6, hc => cases hc; exact ⟨_, rfl, fun _ h => h, .pu (aG _)⟩
 | 7, hc => cases hc; exact ⟨_, rfl, fun _ h => h, hx⟩
 | 8, hc => cases hc; exact ⟨_, rfl, fun _ h => h, hy⟩
 | k + 9, hc => cases hc
def GI : RC -> RC
 | .seq _ b => b
 | c => c
def KA : RC := GI (GI (GI KG))
def LY (b : Bh) : X := ⟨(.n (.n (.n .e (some (.pt (.i .h) 0 0)) .e) (some (.pt .h 0 0)) .e) none (.n .e (some (.pt (.o .h) 0 0)) .e)), (.n (.n .e (some (xK)) .e) (some (fZ b)) (.n .e (some (GE b (.lst 2 (aD bC b.brk)) .ns)) .e)), .o (.o .h), none⟩
def GL (b : Bh) (A : List (Int × Int)) (j : Nat) : X := ⟨(.n (.n (.n .e (some (.pt (.i .h) 0 0)) .e) (some (.pt .h 0 0)) .e) none (.n (.n .e (some (.i .i64 (j : Int))) .e) (some (.pt (.o .h) 0 0)) .e)), (.n (.n .e (some (xK)) .e) (some (fZ b)) (.n (.n .e (Bj bC A) .e) (some (GE b (AR (.i (.o .h)) 2 A) .ns)) .e)), iU (.o (.o .h)) (.o (.i .h)) A, none⟩
def GT (b : Bh) (A : List (Int × Int)) (j : Nat) : X := ⟨(.n (.n (.n .e (some (.pt (.i .h) 0 0)) .e) (some (.pt .h 0 0)) (.n .e (some (.i .i64 (j : Int))) .e)) none (.n .e (some (.pt (.o .h) 0 0)) .e)), (.n (.n .e (some (xK)) .e) (some (fZ b)) (.n (.n .e (Bj bC A) .e) (some (GE b (.lst 2 (aD bC b.brk)) (AR (.i (.o .h)) 2 A))) .e)), iU (.o (.o .h)) (.o (.i .h)) A, none⟩
theorem Da (b : Bh) (l5 : b.nts.length <= 1000) : Rn Tryz.prog 68 KA (LY b) (Fin Ib (.ag (dR b))) := by
 have e2 := aK bC b.nts
 conv => whnf
 repeat' ((first | refine Qw ?_ | refine Qv ?_) <;> conv => whnf)
 refine Rn.loop (fun j : Nat => GT b (b.nts.take j) j) (fun j => j <= b.nts.length /\ True) (fun j => b.nts.length - j) 0 ?_ ?_ ?_
 ·refine X.le.mk ?_ ?_ (Nat.le_refl _) rfl rfl
  ·show T.le ((.n (.n (.n .e (some (.pt (.i .h) 0 0)) .e) (some (.pt .h 0 0)) (.n .e (some (.i .i64 0)) .e)) none (.n .e (some (.pt (.o .h) 0 0)) .e)) : Ev.T D) _
   exact Lw
  ·exact Lw
 ·exact ⟨Nat.zero_le _, trivial⟩
 rintro j ⟨hj, _⟩
 have hsc : j < b.nts.length -> b.nts.take (j + 1) = b.nts.take j ++ [b.nts.getD j default] := fun h => oY h
 have hAl : (b.nts.take j).length <= j := by rw [List.length_take]; omega
 have hend : j = b.nts.length -> b.nts.take j = b.nts := fun h => by rw [List.take_of_length_le (by omega)]
 generalize hA : b.nts.take j = A at *
 conv => whnf
 repeat' ((first | refine Qw ?_ | refine Qv ?_) <;> conv => whnf)
 refine WB.dec (fun hd => ?_) (fun hd => ?_) <;> conv => whnf
 ·have hlt : j < b.nts.length := by omega
  have hsc := hsc hlt
  cases A with
  | nil =>
    repeat' ((first | refine Qw ?_ | refine Qv ?_) <;> conv => whnf)
    refine WSt.app_firstL (r := bC (b.nts.getD j default)) (by rfl) (.inl rfl) (by rfl) (by rfl) (by rfl) (by rfl) ?_; conv => whnf
    repeat' ((first | refine Qw ?_ | refine Qv ?_) <;> conv => whnf)
    refine Again.to (j + 1) (by omega) ⟨by omega, trivial⟩ (by show (iU (.o (.o .h)) (.o (.i .h)) (b.nts.take j)).nat <= (iU (.o (.o .h)) (.o (.i .h)) (b.nts.take (j + 1))).nat; rw [hA, hsc]; exact (show 4 <= 6 by omega)) ?_
    show Shr _ (GT b (b.nts.take (j + 1)) (j + 1))
    rw [hsc]
    refine Shr.of ?_ ?_ rfl rfl
    ·(repeat' first | exact Rel.e | refine Rel.some ?_ ?_ ?_ | refine Rel.none ?_ ?_ | refine Rel.ee ?_ ?_)
     all_goals show Fz _ _ _ _
     all_goals first | exact Fy
    ·(repeat' first | exact Rel.e | refine Rel.some ?_ ?_ ?_ | refine Rel.none ?_ ?_ | refine Rel.ee ?_ ?_)
     all_goals first
      | exact Ro (aW b)
      | exact Ro nL
      | exact Ro (kP b (.pu (aE _)) (.pu trivial))
      | exact Ro (kP b (.pu (aE _)) (.ksl (Ql rfl)))
      | (refine Ro (ShC.same fun c hc => ?_); obtain ⟨d, hd, rfl⟩ := List.mem_map.1 hc; exact .pu (aV.1 (gD _) d hd))
  | cons a s =>
    have hs5 : s.length + 1 <= 1000 := Nat.le_trans hAl (by omega)
    repeat' ((first | refine Qw ?_ | refine Qv ?_) <;> conv => whnf)
    refine WSt.app_oneL (id := (.i (.o .h))) (ds := (aD bC (a :: s)).flatten) (r := bC (b.nts.getD j default)) (by rfl) (by rfl) (by rfl) (by rfl) (by rfl) (by rfl) (by rw [eL (z := 2) AF]; rfl) (by rfl) (by rfl) (by omega) (by rfl) ?_; conv => whnf
    repeat' ((first | refine Qw ?_ | refine Qv ?_) <;> conv => whnf)
    refine Again.to (j + 1) (by omega) ⟨by omega, trivial⟩ (by show (iU (.o (.o .h)) (.o (.i .h)) (b.nts.take j)).nat <= (iU (.o (.o .h)) (.o (.i .h)) (b.nts.take (j + 1))).nat; rw [hA, hsc, List.cons_append]; exact (show 6 <= 6 by omega)) ?_
    show Shr _ (GT b (b.nts.take (j + 1)) (j + 1))
    rw [hsc, List.cons_append]
    refine Shr.of ?_ ?_ rfl rfl
    ·(repeat' first | exact Rel.e | refine Rel.some ?_ ?_ ?_ | refine Rel.none ?_ ?_ | refine Rel.ee ?_ ?_)
     all_goals show Fz _ _ _ _
     all_goals first | exact Fy
    ·show Rel _ _ ((.n (.n .e (some (xK)) .e) (some (fZ b)) (.n (.n .e (Bj bC (a :: (s ++ [(b.nts.getD j default)]))) .e) (some (GE b (.lst 2 (aD bC b.brk)) (AR (.i (.o .h)) 2 (a :: (s ++ [(b.nts.getD j default)]))))) .e)) : Ev.T Ev.C) _
     rw [hG, iA]
     (repeat' first | exact Rel.e | refine Rel.some ?_ ?_ ?_ | refine Rel.none ?_ ?_ | refine Rel.ee ?_ ?_)
     all_goals first
      | exact Ro (aW b)
      | exact Ro nL
      | exact Ro (kP b (.pu (aE _)) (.pu trivial))
      | exact Ro (kP b (.pu (aE _)) (.ksl (Ql rfl)))
      | (refine Ro (ShC.grown (by omega) (aV.2 fun d hd => ?_)); rcases List.mem_append.1 hd with hd | hd <;> first | exact aV.1 (fY gD _) d hd | exact aV.1 (gD _) d hd)
 ·obtain rfl : j = b.nts.length := by omega
  have hE := hend rfl
  cases A with
  | nil =>
    repeat' ((first | refine Qw ?_ | refine Qv ?_) <;> conv => whnf)
    refine ⟨.inr rfl, _, rfl, .ag ?_⟩
    unfold dR
    rw [<- hE]
    exact .cons (.pu trivial) (.cons (.pu trivial) (.cons (.pu trivial) (.cons (.pu trivial) (.cons (.pu (aC _)) (.cons (.pu (aC _)) (.cons (.pu (aG _)) (.cons (.pu (aE _)) (.cons .ns .nil))))))))
  | cons a s =>
    repeat' ((first | refine Qw ?_ | refine Qv ?_) <;> conv => whnf)
    refine ⟨.inr rfl, _, rfl, .ag ?_⟩
    unfold dR
    rw [<- hE]
    exact .cons (.pu trivial) (.cons (.pu trivial) (.cons (.pu trivial) (.cons (.pu trivial) (.cons (.pu (aC _)) (.cons (.pu (aC _)) (.cons (.pu (aG _)) (.cons (.pu (aE _)) (.cons (Fz.G (a :: s) (fun h => h) (fun c h => h) AF gD) .nil))))))))
theorem zP (b : Bh) (l1 : b.face.length <= 1000) (l2 : b.sun.length <= 1000) (l3 : b.winds.length <= 1000) (l4 : b.brk.length <= 1000) (l5 : b.nts.length <= 1000) (l6 : ∀ w ∈ b.winds, w.length <= 1000) : PureF Tryz.prog p24.ix [.ag (dR b)] (.ag (dR b)) := by
 have e1 := aK bC b.brk
 have hrest := Da b l5
 have c1 := tJ b.face (by omega)
 have c2 := tJ b.sun (by omega)
 have c3 := Et b.winds l3 (fun w h => Nat.le_trans (l6 w h) (by decide))
 refine PureF.run Nu (by simp) (by simp [aO, cZ, Pu, aM]) ?_; conv => whnf
 refine Rn.far rfl ?_
 refine RnF.seq ?_; conv => whnf
 repeat' ((first | refine Qw ?_ | refine Qv ?_) <;> conv => whnf)
 refine ⟨rfl, rfl, Nat.le_of_ble_eq_true rfl, ?_⟩
 refine RnF.seq ?_; conv => whnf
 repeat' ((first | refine Qw ?_ | refine Qf c1 ?_ | refine Qf c2 ?_ | refine Qf c3 ?_ | refine Qv ?_) <;> conv => whnf)
 refine ⟨rfl, rfl, Nat.le_of_ble_eq_true rfl, ?_⟩
 refine RnF.seq ?_; conv => whnf
 repeat' ((first | refine Qw ?_ | refine Qv ?_) <;> conv => whnf)
 refine Rn.loop (fun j : Nat => GL b (b.brk.take j) j) (fun j => j <= b.brk.length /\ True) (fun j => b.brk.length - j) 0 ?_ ?_ ?_
 ·refine X.le.mk ?_ ?_ (Nat.le_refl _) rfl rfl
  ·show T.le ((.n (.n (.n .e (some (.pt (.i .h) 0 0)) .e) (some (.pt .h 0 0)) .e) none (.n (.n .e (some (.i .i64 0)) .e) (some (.pt (.o .h) 0 0)) .e)) : Ev.T D) _
   exact Lw
  ·exact Lw
 ·exact ⟨Nat.zero_le _, trivial⟩
 rintro j ⟨hj, _⟩
 have hsc : j < b.brk.length -> b.brk.take (j + 1) = b.brk.take j ++ [b.brk.getD j default] := fun h => oY h
 have hAl : (b.brk.take j).length <= j := by rw [List.length_take]; omega
 have hend : j = b.brk.length -> b.brk.take j = b.brk := fun h => by rw [List.take_of_length_le (by omega)]
 generalize hA : b.brk.take j = A at *
 conv => whnf
 repeat' ((first | refine Qw ?_ | refine Qv ?_) <;> conv => whnf)
 refine WB.dec (fun hd => ?_) (fun hd => ?_) <;> conv => whnf
 ·have hlt : j < b.brk.length := by omega
  have hsc := hsc hlt
  have cS := FK (b.brk.getD j default)
  cases A with
  | nil =>
    repeat' ((first | refine Qw ?_ | refine Qf cS ?_ | refine Qv ?_) <;> conv => whnf)
    refine WSt.app_firstL (r := bC (b.brk.getD j default)) (by rfl) (.inl rfl) (by rfl) (by rfl) (by rfl) (by rfl) ?_; conv => whnf
    repeat' ((first | refine Qw ?_ | refine Qv ?_) <;> conv => whnf)
    refine Again.to (j + 1) (by omega) ⟨by omega, trivial⟩ (by show (iU (.o (.o .h)) (.o (.i .h)) (b.brk.take j)).nat <= (iU (.o (.o .h)) (.o (.i .h)) (b.brk.take (j + 1))).nat; rw [hA, hsc]; exact (show 4 <= 6 by omega)) ?_
    show Shr _ (GL b (b.brk.take (j + 1)) (j + 1))
    rw [hsc]
    refine Shr.of ?_ ?_ rfl rfl
    ·(repeat' first | exact Rel.e | refine Rel.some ?_ ?_ ?_ | refine Rel.none ?_ ?_ | refine Rel.ee ?_ ?_)
     all_goals show Fz _ _ _ _
     all_goals first | exact Fy
    ·(repeat' first | exact Rel.e | refine Rel.some ?_ ?_ ?_ | refine Rel.none ?_ ?_ | refine Rel.ee ?_ ?_)
     all_goals first
      | exact Ro (aW b)
      | exact Ro nL
      | exact Ro (kP b (.pu trivial) (.pu trivial))
      | exact Ro (kP b (.ksl (Ql rfl)) (.pu trivial))
      | (refine Ro (ShC.same fun c hc => ?_); obtain ⟨d, hd, rfl⟩ := List.mem_map.1 hc; exact .pu (aV.1 (gD _) d hd))
  | cons a s =>
    have hs5 : s.length + 1 <= 1000 := Nat.le_trans hAl (by omega)
    repeat' ((first | refine Qw ?_ | refine Qf cS ?_ | refine Qv ?_) <;> conv => whnf)
    refine WSt.app_oneL (id := (.i (.o .h))) (ds := (aD bC (a :: s)).flatten) (r := bC (b.brk.getD j default)) (by rfl) (by rfl) (by rfl) (by rfl) (by rfl) (by rfl) (by rw [eL (z := 2) AF]; rfl) (by rfl) (by rfl) (by omega) (by rfl) ?_; conv => whnf
    repeat' ((first | refine Qw ?_ | refine Qv ?_) <;> conv => whnf)
    refine Again.to (j + 1) (by omega) ⟨by omega, trivial⟩ (by show (iU (.o (.o .h)) (.o (.i .h)) (b.brk.take j)).nat <= (iU (.o (.o .h)) (.o (.i .h)) (b.brk.take (j + 1))).nat; rw [hA, hsc, List.cons_append]; exact (show 6 <= 6 by omega)) ?_
    show Shr _ (GL b (b.brk.take (j + 1)) (j + 1))
    rw [hsc, List.cons_append]
    refine Shr.of ?_ ?_ rfl rfl
    ·(repeat' first | exact Rel.e | refine Rel.some ?_ ?_ ?_ | refine Rel.none ?_ ?_ | refine Rel.ee ?_ ?_)
     all_goals show Fz _ _ _ _
     all_goals first | exact Fy
    ·show Rel _ _ ((.n (.n .e (some (xK)) .e) (some (fZ b)) (.n (.n .e (Bj bC (a :: (s ++ [(b.brk.getD j default)]))) .e) (some (GE b (AR (.i (.o .h)) 2 (a :: (s ++ [(b.brk.getD j default)]))) .ns)) .e)) : Ev.T Ev.C) _
     rw [hG, iA]
     (repeat' first | exact Rel.e | refine Rel.some ?_ ?_ ?_ | refine Rel.none ?_ ?_ | refine Rel.ee ?_ ?_)
     all_goals first
      | exact Ro (aW b)
      | exact Ro nL
      | exact Ro (kP b (.pu trivial) (.pu trivial))
      | exact Ro (kP b (.ksl (Ql rfl)) (.pu trivial))
      | (refine Ro (ShC.grown (by omega) (aV.2 fun d hd => ?_)); rcases List.mem_append.1 hd with hd | hd <;> first | exact aV.1 (fY gD _) d hd | exact aV.1 (gD _) d hd)
 ·obtain rfl : j = b.brk.length := by omega
  have hE := hend rfl
  cases A with
  | nil =>
    repeat' ((first | refine Qw ?_ | refine Qv ?_) <;> conv => whnf)
    refine ⟨rfl, rfl, Nat.le_of_ble_eq_true rfl, RnF.turn (z' := LY b) (B := fun id => id.nat < 4) ?_ (fun id (h : id.nat < 1) => show id.nat < 4 by omega) (fun id h => h) (Nat.le_of_ble_eq_true rfl) hrest⟩
    refine ShrB.of ?_ ?_ rfl rfl
    ·(repeat' first | exact Rel.e | refine Rel.some ?_ ?_ ?_ | refine Rel.none ?_ ?_ | refine Rel.ee ?_ ?_)
     all_goals show Fz _ _ _ _
     all_goals first | exact Fy
    ·(repeat' first | exact Rel.e | refine Rel.some ?_ ?_ ?_ | refine Rel.none ?_ ?_ | refine Rel.ee ?_ ?_)
     ·exact Ro nL
     ·exact Ro (aW b)
     ·refine ⟨show _ < 4 by simp [Pos.nat], kP b ?_ (.pu trivial)⟩
      rw [<- hE]
      exact .ns
  | cons a s =>
    repeat' ((first | refine Qw ?_ | refine Qv ?_) <;> conv => whnf)
    refine ⟨rfl, rfl, Nat.le_of_ble_eq_true rfl, RnF.turn (z' := LY b) (B := fun id => id.nat < 4) ?_ (fun id (h : id.nat < 1) => show id.nat < 4 by omega) (fun id h => h) (Nat.le_of_ble_eq_true rfl) hrest⟩
    refine ShrB.of ?_ ?_ rfl rfl
    ·(repeat' first | exact Rel.e | refine Rel.some ?_ ?_ ?_ | refine Rel.none ?_ ?_ | refine Rel.ee ?_ ?_)
     all_goals show Fz _ _ _ _
     all_goals first | exact Fy
    ·(repeat' first | exact Rel.e | refine Rel.some ?_ ?_ ?_ | refine Rel.none ?_ ?_ | refine Rel.ee ?_ ?_)
     ·exact Ro nL
     ·exact Ro (aW b)
     ·refine ⟨show _ < 4 by simp [Pos.nat], kP b ?_ (.pu trivial)⟩
      rw [<- hE]
      exact Fz.G (a :: s) (show ¬ (5 : Nat) < 4 by omega) (fun c h => h) AF gD
theorem kN {B : Pos → Prop} {ob : T C} {x y z : Int} : ShC B ob (.cells false [.o (.i .i64 x) 0, .o (.i .i64 y) 0, .o (.i .i64 z) 0] 1) (.cells false [.o (.i .i64 x) 0, .o (.i .i64 y) 0, .o (.i .i64 z) 0] 1) := by
  refine ShC.same ?_
  (repeat' first | exact ShC.nl | refine ShC.cn ?_ ?_) <;> exact .pu trivial
theorem IA {b : Bh} {r p : Nat} (hr : r < b.rws.toNat) (hp : p < b.pls.toNat) : dL b ((r : Int), (p : Int)) = true := by
  unfold dL iH
  rw [Bool.and_eq_true]
  exact ⟨by first | exact decide_eq_true (by constructor <;> omega) | (simp only [Bool.and_eq_true, decide_eq_true_iff]; constructor <;> omega), by first | exact decide_eq_true (by constructor <;> omega) | (simp only [Bool.and_eq_true, decide_eq_true_iff]; constructor <;> omega)⟩
instance : Inhabited Hr := ⟨⟨0, 0, 0⟩⟩
set_option maxRecDepth 1000000
set_option maxRecDepth 100000
theorem yK {b : Bh} (V : VW b) (t : List Int) : vI b t = EY (Hm b) t := by
  have hv := V.last
  have hw := V.winl
  have key : vI b t = true ↔ EY (Hm b) t = true := by
    rw [tI V.nt]
    unfold vI
    simp only [Bool.and_eq_true, decide_eq_true_iff, List.all_eq_true, List.mem_range, qR]
    constructor
    · rintro ⟨h1, h2⟩
      refine ⟨by show t.length = (b.last + 1).toNat; omega, fun i hi => ?_⟩
      have hi : i < (b.last + 1).toNat := hi
      exact fX.2 ⟨h2 i (by omega), fun n hn => absurd hn (by simp [Hm])⟩
    · rintro ⟨h1, h2⟩
      have h1 : t.length = (b.last + 1).toNat := h1
      refine ⟨by omega, fun i hi => ?_⟩
      exact (fX.1 (h2 i (by show i < (b.last + 1).toNat; omega))).1
  cases h : EY (Hm b) t with
  | true => exact key.2 h
  | false =>
    cases k : vI b t with
    | false => rfl
    | true => rw [key.1 k] at h; cases h
structure ThF (b : Bh) : Prop where
  l1 : b.face.length ≤ 1000
  l2 : b.sun.length ≤ 1000
  l3 : b.winds.length ≤ 1000
  l4 : b.brk.length ≤ 1000
  l5 : b.nts.length ≤ 1000
  l6 : ∀ w ∈ b.winds, w.length ≤ 1000
theorem GU {b : Bh} (h : kK b = true) : ThF b := by
  unfold kK at h
  simp only [Bool.and_eq_true, decide_eq_true_iff] at h
  obtain ⟨a1, a2, a3, a4, a5, _⟩ := h
  obtain ⟨b1, b2⟩ := sQ a3
  exact ⟨by omega, by omega, by omega, by omega, by omega, fun w hw => Nat.le_trans (b2 w hw) (by decide)⟩
theorem nZ {α : Type} {β : Type} (g : β → α → β) (b : β) {l : List α} {j : Nat} {d : α} (h : j < l.length) : (l.take (j + 1)).foldl g b = g ((l.take j).foldl g b) (l.getD j d) := by
  rw [eD (d := d) h, List.foldl_append]; rfl
theorem JP (a : Int) (L : List Int) (hL : L.length ≤ 100000) : PureF Tryz.prog p135.ix [.i .i64 a, .lst 1 (ints L)] (.i .i64 (L.foldl min a)) := by
  have e1 := aP L
  refine PureF.run HG (by simp) (by simp [aO, Pu, aC]) ?_; conv => whnf
  repeat' first | ((first | refine Qz ?_) <;> conv => whnf)
  refine Rn.loop (fun j : Nat => ⟨(.n (.n (.n (.n .e (some (.lst 1 (ints L))) .e) none .e) none (.n (.n .e (some (.i .i64 (j : Int))) .e) none .e)) (some (.i .i64 ((L.take j).foldl min a))) (.n (.n (.n .e (some (.i .i64 ((ints L).length : Int))) .e) none .e) none .e)), .e, .h, none⟩) (fun j => j ≤ L.length) (fun j => L.length - j) 0 ?_ ?_ ?_
  · (first | (refine X.le.mk ?_ ?_ (Nat.le_refl _) rfl rfl) | skip) <;> (repeat' first | exact T.le_e _ | refine T.le_some ?_ ?_ ?_ | refine T.le_none ?_ ?_ | rfl)
  · omega
  intro j hj
  conv => whnf
  repeat' first | ((first | refine Qz ?_) <;> conv => whnf)
  refine WB.dec (fun h => ?_) (fun h => ?_) <;> conv => whnf
  · have hlt : j < L.length := by omega
    repeat' first | ((first | refine Qz ?_) <;> conv => whnf)
    refine Again.to (j + 1) (by omega) (by omega) (Nat.le_refl _) ?_
    (refine Shr.of ?_ ?_ rfl rfl) <;> (repeat' first | exact Rel.e | refine Rel.some ?_ ?_ ?_ | refine Rel.none ?_ ?_) <;> (try first | (show Fz _ _ _ _; first | exact Fz.pu trivial | (refine Fz.i ?_; first | rfl | omega) | (refine Fz.kpt ?_; (focus (show Pos.nat _ < Pos.nat _; simp [Pos.nat]; done))) | (refine Fz.ksl ?_; (focus (show Pos.nat _ < Pos.nat _; simp [Pos.nat]; done))) | (refine Fz.kmp ?_; (focus (show Pos.nat _ < Pos.nat _; simp [Pos.nat]; done))) | (refine Fz.pu ?_; simp [Cell.d, Pu, aO, cZ, aC, aE, aG]; done) | (refine Fz.pu ?_; simp only [Cell.d]; assumption)) | (refine RO'.of ?_ (ShC.same ?_); (focus (show Pos.nat _ < Pos.nat _; simp [Pos.nat]; done)); (repeat' first | exact ShC.nl | refine ShC.cn ?_ ?_) <;> first | exact Fz.pu trivial | (refine Fz.i ?_; first | rfl | omega) | (refine Fz.kpt ?_; (focus (show Pos.nat _ < Pos.nat _; simp [Pos.nat]; done))) | (refine Fz.ksl ?_; (focus (show Pos.nat _ < Pos.nat _; simp [Pos.nat]; done))) | (refine Fz.kmp ?_; (focus (show Pos.nat _ < Pos.nat _; simp [Pos.nat]; done))) | (refine Fz.pu ?_; simp [Cell.d, Pu, aO, cZ, aC, aE, aG]; done) | (refine Fz.pu ?_; simp only [Cell.d]; assumption)))
    all_goals (refine Fz.i ?_; exact (nZ min a hlt).symm)
  · repeat' first | ((first | refine Qz ?_) <;> conv => whnf)
    exact Fin.i rfl (by rw [List.take_of_length_le (by omega)])
theorem dU {B : Pos → Prop} {ob : T C} (S : Nat → Nat → Int) : ShC B ob (.cells false ((kG S).map fun d => Cell.o d 0) 1) (.cells false ((kG S).map fun d => Cell.o d 0) 1) := by
  refine ShC.same ?_
  simp only [kG, List.map_cons, List.map_nil]
  (repeat' first | exact ShC.nl | refine ShC.cn ?_ ?_) <;> exact .pu trivial
structure SOk (b : Bh) (F : Nat → Int) (S : Nat → Nat → Int) : Prop where
  f : ∀ r : Nat, r < b.rws.toNat → 0 ≤ F r ∧ F r ≤ 3
  s : ∀ h r : Nat, h < (b.last + 1).toNat → r < b.rws.toNat → 0 ≤ S h r ∧ S h r ≤ 3
structure Bnd where
  sun : Int
  cl : Int
  ch : Int
  gl : Int
  gh : Int
def LG (x : Bnd) : List D := [.i .i64 x.sun, .i .i64 x.cl, .i .i64 x.ch, .i .i64 x.gl, .i .i64 x.gh]
theorem In (a : Bnd) : aO (LG a) := by simp [LG, aO, Pu]
def nO (xs : List Bnd) : List D := [.lst 5 (aD LG xs)]
theorem oA (xs : List Bnd) : aO (nO xs) := by
  simp only [nO, aO, Pu, and_true]
  exact fK In xs
theorem Hc (x : Hr) : PureF Tryz.prog p133.ix [.ag (sY x)] (.i .i64 x.sun) := by
  refine PureF.run Ky (by simp) (by simp [aO, Pu, sY]) ?_; conv => whnf
  repeat' first | ((first | refine Qz ?_ | refine Qy ?_) <;> conv => whnf) | (refine WB.tt ?_; conv => whnf) | (refine WB.ff ?_; conv => whnf)
  exact Fin.i rfl rfl
theorem Er (x : Hr) : PureF Tryz.prog p103.ix [.ag (sY x)] (.i .i64 x.calm) := by
  refine PureF.run Kv (by simp) (by simp [aO, Pu, sY]) ?_; conv => whnf
  repeat' first | ((first | refine Qz ?_ | refine Qy ?_) <;> conv => whnf) | (refine WB.tt ?_; conv => whnf) | (refine WB.ff ?_; conv => whnf)
  exact Fin.i rfl rfl
theorem Ej (x : Hr) : PureF Tryz.prog p105.ix [.ag (sY x)] (.i .i64 x.good) := by
  refine PureF.run JL (by simp) (by simp [aO, Pu, sY]) ?_; conv => whnf
  repeat' first | ((first | refine Qz ?_ | refine Qy ?_) <;> conv => whnf) | (refine WB.tt ?_; conv => whnf) | (refine WB.ff ?_; conv => whnf)
  exact Fin.i rfl rfl
def Gb : List D := [.i .i64 0, .i .i64 0, .i .i64 0, .i .i64 0, .ns, .ns, .ns, .ns, .ns]
def qO (b : Bh) (th : Bool) (ht : Bool) : Int := if aR b = 0 then (bif th then (bif ht then 0 else 11) else 2) else aR b
def pZ (b : Bh) (th : Bool) (ht : Bool) : List D := if qO b th ht = 0 then dR b else Gb
theorem yW : aO Gb := by simp [Gb, aO, Pu]
set_option maxHeartbeats 4000000 in
theorem As (b : Bh) (th : Bool) (l1 : b.face.length ≤ 1000) (l2 : b.sun.length ≤ 1000) (l3 : b.winds.length ≤ 1000) (l6 : ∀ w ∈ b.winds, w.length ≤ 1000) : PureF Tryz.prog p92.ix [.ag (dR b), .b th] (.tp [.ag (pZ b th (dJ b)), .i .i64 (qO b th (dJ b))]) := by
  have cC := zE b l1 l2 l3 l6
  refine PureF.run NB (by simp) (by simp [aO, cZ, Pu, aM]) ?_; conv => whnf
  by_cases hf : aR b = 0
  rotate_left
  · have e2 : qO b th (dJ b) = aR b := if_neg hf
    have e1 : pZ b th (dJ b) = Gb := by unfold pZ; rw [e2, if_neg hf]
    rw [e1, e2]
    repeat' first | ((first | refine Qz ?_ | refine Qf (cC) ?_ | refine Qy ?_) <;> conv => whnf) | (refine WB.tt ?_; conv => whnf) | (refine WB.ff ?_; conv => whnf)
    exact ⟨.inr rfl, _, rfl, .pu ⟨yW, trivial, trivial⟩⟩
  rw [hf] at cC
  cases th with
  | false =>
    have e2 : qO b false (dJ b) = 2 := if_pos hf
    have e1 : pZ b false (dJ b) = Gb := by unfold pZ; rw [e2]; rfl
    rw [e1, e2]
    repeat' first | ((first | refine Qz ?_ | refine Qf (cC) ?_ | with_reducible (first | refine Qm ?_ | refine Qn ?_ | refine Qo ?_ | refine Qp ?_ | refine WB.nt ?_ | refine WB.nf ?_ | refine WB.dec (fun h => ?_) (fun h => ?_) | refine WB.ndec (fun h => ?_) (fun h => ?_)) | refine WB.mk (fun h => ?_) (fun h => ?_)) <;> conv => whnf) | (refine WB.tt ?_; conv => whnf) | (refine WB.ff ?_; conv => whnf)
    exact ⟨.inr rfl, _, rfl, .pu ⟨yW, trivial, trivial⟩⟩
  | true =>
    have Z := dM hf
    have cH := qU b Z.v l6 (by have := Z.l5; omega)
    cases hh : dJ b with
    | false =>
      have e2 : qO b true false = 11 := if_pos hf
      have e1 : pZ b true false = Gb := by unfold pZ; rw [e2]; rfl
      rw [e1, e2]
      rw [hh] at cH
      repeat' first | ((first | refine Qz ?_ | refine Qf (cC) ?_ | refine Qf (cH) ?_ | with_reducible (first | refine Qm ?_ | refine Qn ?_ | refine Qo ?_ | refine Qp ?_ | refine WB.nt ?_ | refine WB.nf ?_ | refine WB.dec (fun h => ?_) (fun h => ?_) | refine WB.ndec (fun h => ?_) (fun h => ?_)) | refine WB.mk (fun h => ?_) (fun h => ?_)) <;> conv => whnf) | (refine WB.tt ?_; conv => whnf) | (refine WB.ff ?_; conv => whnf)
      exact ⟨.inr rfl, _, rfl, .pu ⟨yW, trivial, trivial⟩⟩
    | true =>
      have e2 : qO b true true = 0 := if_pos hf
      have e1 : pZ b true true = dR b := by unfold pZ; rw [e2]; rfl
      rw [e1, e2]
      rw [hh] at cH
      repeat' first | ((first | refine Qz ?_ | refine Qf (cC) ?_ | refine Qf (cH) ?_ | with_reducible (first | refine Qm ?_ | refine Qn ?_ | refine Qo ?_ | refine Qp ?_ | refine WB.nt ?_ | refine WB.nf ?_ | refine WB.dec (fun h => ?_) (fun h => ?_) | refine WB.ndec (fun h => ?_) (fun h => ?_)) | refine WB.mk (fun h => ?_) (fun h => ?_)) <;> conv => whnf) | (refine WB.tt ?_; conv => whnf) | (refine WB.ff ?_; conv => whnf)
      exact ⟨.inr rfl, _, rfl, .pu ⟨aM b, trivial, trivial⟩⟩
theorem Ks (l : List Int) (h0 : 0 < l.length) (hL : l.length ≤ 100000) : PureF Tryz.prog p136.ix [.lst 1 (ints l)] (.i .i64 (l.foldl max (l.getD 0 0))) := by
  have e1 := aP l
  refine PureF.run JB (by simp) (by simp [aO, Pu, aC]) ?_; conv => whnf
  repeat' first | ((first | refine Qz ?_ | with_reducible (first | refine Qm ?_ | refine Qn ?_ | refine Qo ?_ | refine Qp ?_ | refine WB.nt ?_ | refine WB.nf ?_ | refine WB.dec (fun h => ?_) (fun h => ?_) | refine WB.ndec (fun h => ?_) (fun h => ?_)) | refine WB.mk (fun h => ?_) (fun h => ?_)) <;> conv => whnf)
  refine Rn.loop (fun j : Nat => ⟨(.n (.n (.n .e (some (.i .i64 ((l.take j).foldl max (l.getD 0 0)))) .e) none .e) (some (.lst 1 (ints l))) (.n (.n .e (some (.i .i64 (j : Int))) .e) none .e)), .e, .h, none⟩) (fun j => 1 ≤ j ∧ j ≤ l.length) (fun j => l.length - j) 1 ?_ ?_ ?_
  · have h1 : (l.take 1).foldl max (l.getD 0 0) = l.getD 0 0 := by
      cases l with
      | nil => rfl
      | cons a l => simp
    rw [h1]
    (first | (refine X.le.mk ?_ ?_ (Nat.le_refl _) rfl rfl) | skip) <;> (repeat' first | exact T.le_e _ | refine T.le_some ?_ ?_ ?_ | refine T.le_none ?_ ?_ | rfl)
  · omega
  rintro j ⟨hj1, hj⟩
  conv => whnf
  repeat' first | ((first | refine Qz ?_) <;> conv => whnf)
  refine WB.dec (fun h => ?_) (fun h => ?_) <;> conv => whnf
  · have hlt : j < l.length := by omega
    repeat' first | ((first | refine Qz ?_) <;> conv => whnf)
    refine Again.to (j + 1) (by omega) ⟨by omega, by omega⟩ (Nat.le_refl _) ?_
    (refine Shr.of ?_ ?_ rfl rfl) <;> (repeat' first | exact Rel.e | refine Rel.some ?_ ?_ ?_ | refine Rel.none ?_ ?_) <;> (try first | (show Fz _ _ _ _; first | exact Fz.pu trivial | (refine Fz.i ?_; first | rfl | omega) | (refine Fz.kpt ?_; (focus (show Pos.nat _ < Pos.nat _; simp [Pos.nat]; done))) | (refine Fz.ksl ?_; (focus (show Pos.nat _ < Pos.nat _; simp [Pos.nat]; done))) | (refine Fz.kmp ?_; (focus (show Pos.nat _ < Pos.nat _; simp [Pos.nat]; done))) | (refine Fz.pu ?_; simp [Cell.d, Pu, aO, cZ, aC, aE, aG]; done) | (refine Fz.pu ?_; simp only [Cell.d]; assumption)) | (refine RO'.of ?_ (ShC.same ?_); (focus (show Pos.nat _ < Pos.nat _; simp [Pos.nat]; done)); (repeat' first | exact ShC.nl | refine ShC.cn ?_ ?_) <;> first | exact Fz.pu trivial | (refine Fz.i ?_; first | rfl | omega) | (refine Fz.kpt ?_; (focus (show Pos.nat _ < Pos.nat _; simp [Pos.nat]; done))) | (refine Fz.ksl ?_; (focus (show Pos.nat _ < Pos.nat _; simp [Pos.nat]; done))) | (refine Fz.kmp ?_; (focus (show Pos.nat _ < Pos.nat _; simp [Pos.nat]; done))) | (refine Fz.pu ?_; simp [Cell.d, Pu, aO, cZ, aC, aE, aG]; done) | (refine Fz.pu ?_; simp only [Cell.d]; assumption)))
    all_goals (refine Fz.i ?_; exact (nZ (d := 0) max _ hlt).symm)
  · repeat' first | ((first | refine Qz ?_) <;> conv => whnf)
    exact Fin.i rfl (by rw [List.take_of_length_le (by omega)])
end Go.Ev
end
