import Derived.Test.YtkbgaadfednjpaaGreatDoorEvU4h
import Derived.Test.YtkbgaadfednjpaaGreatDoorEvUSq
import Derived.Test.YtkbgaadfednjpaaGreatDoorEvUIt
import Derived.Test.YtkbgaadfednjpaaGreatDoorEvU4e
import Derived.Test.YtkbgaadfednjpaaGreatDoorEvUFi
import Derived.Test.YtkbgaadfednjpaaGreatDoorEvU4b
set_option linter.all false
set_option maxHeartbeats 8000000
noncomputable section
namespace Go.Ev
open Go.Proofs
set_option maxRecDepth 100000
def kK (S : Nat → Nat → Int) : List D := [.i .i64 (S 0 0), .i .i64 (S 0 1), .i .i64 (S 0 2), .i .i64 (S 1 0), .i .i64 (S 1 1), .i .i64 (S 1 2), .i .i64 (S 2 0), .i .i64 (S 2 1), .i .i64 (S 2 2), .i .i64 (S 3 0), .i .i64 (S 3 1), .i .i64 (S 3 2), .i .i64 (S 4 0), .i .i64 (S 4 1), .i .i64 (S 4 2)]
theorem fY (S : Nat → Nat → Int) : aQ (kK S) := by simp [kK, aQ, Pu]
theorem Ci (t : Bool) : 0 ≤ Ga t ∧ Ga t ≤ 1 := by unfold Ga; split <;> omega
theorem xG (b : Bh) (p : Int × Int) (f : Int) (h : Nat) (d : Int) : (0 ≤ (tP b p f h d).sun ∧ (tP b p f h d).sun ≤ 1) ∧ (0 ≤ (tP b p f h d).calm ∧ (tP b p f h d).calm ≤ 1) ∧ (0 ≤ (tP b p f h d).good ∧ (tP b p f h d).good ≤ 1) := by
  unfold tP
  have h1 := Ci (decide (f = b.sun.getD h 0))
  have h2 := Ci (Ky b p f d)
  refine ⟨h1, h2, Int.mul_nonneg h1.1 h2.1, ?_⟩
  have := Int.mul_le_mul h1.2 h2.2 h2.1 (by omega)
  simpa using this
theorem Np {l : List Int} (h : l.length ≤ 3) : l = [] ∨ (∃ a, l = [a]) ∨ (∃ a b, l = [a, b]) ∨ ∃ a b c, l = [a, b, c] := by
  match l, h with
  | [], _ => exact .inl rfl
  | [a], _ => exact .inr (.inl ⟨a, rfl⟩)
  | [a, b], _ => exact .inr (.inr (.inl ⟨a, b, rfl⟩))
  | [a, b, c], _ => exact .inr (.inr (.inr ⟨a, b, c, rfl⟩))
  | _ :: _ :: _ :: _ :: _, h => exact absurd h (by simp)
def Oh (F : Nat → Int) : List D := [.i .i64 (F 0), .i .i64 (F 1), .i .i64 (F 2)]
theorem Eq (l : List Int) (h1 : 1 ≤ l.length) (h : l.length ≤ 3) : PureF Tryz.prog p107.ix [.lst 1 (ints l)] (.ag (Oh fun r => l.getD r 0)) := by
  refine PureF.run JJ (by simp) (by simp [aQ, dG, Pu, aC]) ?_; conv => whnf
  rcases Np h with rfl | ⟨a, rfl⟩ | ⟨a, b, rfl⟩ | ⟨a, b, c, rfl⟩
  · exact absurd h1 (by decide)
  all_goals
    repeat' first | ((first | refine Qz ?_ | refine Qy ?_) <;> conv => whnf) | (refine WB.tt ?_; conv => whnf) | (refine WB.ff ?_; conv => whnf)
    refine ⟨_, rfl, ?_⟩; conv => whnf
    repeat' first | ((first | refine Qz ?_ | refine Qy ?_) <;> conv => whnf) | (refine WB.tt ?_; conv => whnf) | (refine WB.ff ?_; conv => whnf)
    refine ⟨_, rfl, ?_⟩; conv => whnf
    repeat' first | ((first | refine Qz ?_ | refine Qy ?_) <;> conv => whnf) | (refine WB.tt ?_; conv => whnf) | (refine WB.ff ?_; conv => whnf)
    exact ⟨.inr rfl, _, rfl, .pu (by simp [one, Pu, aQ])⟩
def Lx (L : List (List Int)) (j h r : Nat) : Int := bif Nat.blt h j then (L.getD h default).getD r 0 else 0
def lS (L : List (List Int)) (h r : Nat) : Int := (L.getD h default).getD r 0
theorem Fg (L : List (List Int)) (h r : Nat) : Lx L L.length h r = lS L h r := by
 unfold Lx lS
 cases hb : Nat.blt h L.length with
 | true => rfl
 | false =>
   have : ¬ h < L.length := fun k => by rw [show Nat.blt h L.length = true from Nat.ble_eq_true_of_le k] at hb; cases hb
   have e : L.getD h default = [] := by simp [List.getD, this]; rfl
   rw [e]; rfl
theorem vD (L : List (List Int)) (h5 : L.length <= 5) (h3 : ∀ w ∈ L, 1 <= w.length /\ w.length <= 3) : PureF Tryz.prog p84.ix [.lst 1 (aD eQ L)] (.ag (kK (lS L))) := by
 have e1 := aM eQ L
 have he : kK (lS L) = kK (Lx L L.length) := by simp only [kK, Fg]
 rw [he]
 refine PureF.run MP (by simp) (by simp [aQ, dG, Pu, aJ]) ?_; conv => whnf
 repeat' ((first | refine Qw ?_ | refine Qv ?_) <;> conv => whnf)
 refine Rn.loop (fun j : Nat => ⟨(.n (.n (.n (.n .e (some (.i .i64 (L.length : Int))) .e) (some (.pt (.o .h) 0 0)) .e) none .e) none (.n (.n (.n .e (some (.i .i64 (j : Int))) .e) none .e) (some (.pt .h 0 0)) (.n .e (some (.lst 1 (aD eQ L))) .e))), .n (.n .e (some (.cells false ((kK (Lx L j)).map fun d => Cell.o d 0) 1)) .e) (some (.cells false ((kK fun _ _ => 0).map fun d => Cell.o d 0) 1)) .e, .i .h, none⟩) (fun j => j <= L.length) (fun j => L.length - j) 0 ?_ (Nat.zero_le _) ?_
 ·refine X.le.mk ?_ ?_ (Nat.le_refl _) rfl rfl
  all_goals (try rw [<- e1])
  all_goals (repeat' first | exact T.le_e _ | exact T.le_refl _ | refine T.le_some ?_ rfl ?_ | refine T.le_none ?_ ?_ | refine T.le_ee ?_ ?_)
 intro j hj
 have hj : j <= L.length := hj
 conv => whnf
 repeat' ((first | refine Qw ?_ | refine Qv ?_) <;> conv => whnf)
 refine WB.dec (fun h => ?_) (fun h => ?_) <;> conv => whnf
 ·have hlt : j < L.length := by omega
  have hj5 : j < 5 := by omega
  have cF := Eq (L.getD j default) (h3 _ (aL hlt)).1 (h3 _ (aL hlt)).2
  rcases sI hj5 with rfl | rfl | rfl | rfl | rfl
  ·repeat' ((first | refine Qz ?_ | refine Qf cF ?_ | refine WIx.rowsN hlt ?_ | refine Qy ?_ | refine Qv ?_) <;> conv => whnf)
   refine WSt.ixaN (m := 0) rfl rfl rfl (by decide) ?_; conv => whnf
   repeat' ((first | refine Qw ?_ | refine Qv ?_) <;> conv => whnf)
   refine Again.to (0 + 1) (by omega) (show 0 + 1 <= L.length by omega) (Nat.le_refl _) ?_
   refine Shr.of ?_ ?_ rfl rfl
   ·(repeat' first | exact Rel.e | refine Rel.some ?_ ?_ ?_ | refine Rel.none ?_ ?_ | refine Rel.ee ?_ ?_)
    all_goals show Fz _ _ _ _
    all_goals first | exact .pu trivial | exact .pu (aC _) | exact .pu (aJ _) | exact .kpt (Ql rfl)
   ·(repeat' first | exact Rel.e | refine Rel.some ?_ ?_ ?_ | refine Rel.none ?_ ?_ | refine Rel.ee ?_ ?_)
    all_goals first
     | exact Ro (aV b)
     | (refine Ro (ShC.same ?_); (repeat' first | exact ShC.nl | refine ShC.cn ?_ ?_) <;> exact .pu trivial)
  ·repeat' ((first | refine Qz ?_ | refine Qf cF ?_ | refine WIx.rowsN hlt ?_ | refine Qy ?_ | refine Qv ?_) <;> conv => whnf)
   refine WSt.ixaN (m := 1) rfl rfl rfl (by decide) ?_; conv => whnf
   repeat' ((first | refine Qw ?_ | refine Qv ?_) <;> conv => whnf)
   refine Again.to (1 + 1) (by omega) (show 1 + 1 <= L.length by omega) (Nat.le_refl _) ?_
   refine Shr.of ?_ ?_ rfl rfl
   ·(repeat' first | exact Rel.e | refine Rel.some ?_ ?_ ?_ | refine Rel.none ?_ ?_ | refine Rel.ee ?_ ?_)
    all_goals show Fz _ _ _ _
    all_goals first | exact .pu trivial | exact .pu (aC _) | exact .pu (aJ _) | exact .kpt (Ql rfl)
   ·(repeat' first | exact Rel.e | refine Rel.some ?_ ?_ ?_ | refine Rel.none ?_ ?_ | refine Rel.ee ?_ ?_)
    all_goals first
     | exact Ro (aV b)
     | (refine Ro (ShC.same ?_); (repeat' first | exact ShC.nl | refine ShC.cn ?_ ?_) <;> exact .pu trivial)
  ·repeat' ((first | refine Qz ?_ | refine Qf cF ?_ | refine WIx.rowsN hlt ?_ | refine Qy ?_ | refine Qv ?_) <;> conv => whnf)
   refine WSt.ixaN (m := 2) rfl rfl rfl (by decide) ?_; conv => whnf
   repeat' ((first | refine Qw ?_ | refine Qv ?_) <;> conv => whnf)
   refine Again.to (2 + 1) (by omega) (show 2 + 1 <= L.length by omega) (Nat.le_refl _) ?_
   refine Shr.of ?_ ?_ rfl rfl
   ·(repeat' first | exact Rel.e | refine Rel.some ?_ ?_ ?_ | refine Rel.none ?_ ?_ | refine Rel.ee ?_ ?_)
    all_goals show Fz _ _ _ _
    all_goals first | exact .pu trivial | exact .pu (aC _) | exact .pu (aJ _) | exact .kpt (Ql rfl)
   ·(repeat' first | exact Rel.e | refine Rel.some ?_ ?_ ?_ | refine Rel.none ?_ ?_ | refine Rel.ee ?_ ?_)
    all_goals first
     | exact Ro (aV b)
     | (refine Ro (ShC.same ?_); (repeat' first | exact ShC.nl | refine ShC.cn ?_ ?_) <;> exact .pu trivial)
  ·repeat' ((first | refine Qz ?_ | refine Qf cF ?_ | refine WIx.rowsN hlt ?_ | refine Qy ?_ | refine Qv ?_) <;> conv => whnf)
   refine WSt.ixaN (m := 3) rfl rfl rfl (by decide) ?_; conv => whnf
   repeat' ((first | refine Qw ?_ | refine Qv ?_) <;> conv => whnf)
   refine Again.to (3 + 1) (by omega) (show 3 + 1 <= L.length by omega) (Nat.le_refl _) ?_
   refine Shr.of ?_ ?_ rfl rfl
   ·(repeat' first | exact Rel.e | refine Rel.some ?_ ?_ ?_ | refine Rel.none ?_ ?_ | refine Rel.ee ?_ ?_)
    all_goals show Fz _ _ _ _
    all_goals first | exact .pu trivial | exact .pu (aC _) | exact .pu (aJ _) | exact .kpt (Ql rfl)
   ·(repeat' first | exact Rel.e | refine Rel.some ?_ ?_ ?_ | refine Rel.none ?_ ?_ | refine Rel.ee ?_ ?_)
    all_goals first
     | exact Ro (aV b)
     | (refine Ro (ShC.same ?_); (repeat' first | exact ShC.nl | refine ShC.cn ?_ ?_) <;> exact .pu trivial)
  ·repeat' ((first | refine Qz ?_ | refine Qf cF ?_ | refine WIx.rowsN hlt ?_ | refine Qy ?_ | refine Qv ?_) <;> conv => whnf)
   refine WSt.ixaN (m := 4) rfl rfl rfl (by decide) ?_; conv => whnf
   repeat' ((first | refine Qw ?_ | refine Qv ?_) <;> conv => whnf)
   refine Again.to (4 + 1) (by omega) (show 4 + 1 <= L.length by omega) (Nat.le_refl _) ?_
   refine Shr.of ?_ ?_ rfl rfl
   ·(repeat' first | exact Rel.e | refine Rel.some ?_ ?_ ?_ | refine Rel.none ?_ ?_ | refine Rel.ee ?_ ?_)
    all_goals show Fz _ _ _ _
    all_goals first | exact .pu trivial | exact .pu (aC _) | exact .pu (aJ _) | exact .kpt (Ql rfl)
   ·(repeat' first | exact Rel.e | refine Rel.some ?_ ?_ ?_ | refine Rel.none ?_ ?_ | refine Rel.ee ?_ ?_)
    all_goals first
     | exact Ro (aV b)
     | (refine Ro (ShC.same ?_); (repeat' first | exact ShC.nl | refine ShC.cn ?_ ?_) <;> exact .pu trivial)
 ·obtain rfl : j = L.length := by omega
  repeat' ((first | refine Qw ?_ | refine Qv ?_) <;> conv => whnf)
  exact ⟨.inr rfl, _, rfl, .pu (by simp [one, Pu, aQ, kK])⟩
def Bi (b : Bh) (L : List (List Int)) : Bool := decide ((L.length : Int) = b.last + 1) && L.all (vX b)
theorem Cz (b : Bh) (L : List (List Int)) (h0 : -9223372036854775808 <= b.last + 1 /\ b.last + 1 <= 9223372036854775807) (h1 : L.length <= 1000) (h2 : ∀ w ∈ L, w.length <= 1000) : PureF Tryz.prog p82.ix [.ag (eF b), .lst 1 (aD eQ L)] (.b (Bi b L)) := by
 have e1 := aM eQ L
 have cA := DD L p117 [.ag (eF b)] [] (vX b) (by simp [aQ, Pu, aS]) trivial h1 (fun w hw => vC b w (h2 w hw))
 refine PureF.run ML (by simp) (by simp [aQ, Pu, aS, aJ]) ?_; conv => whnf
 unfold Bi
 by_cases k : (L.length : Int) = b.last + 1
 rotate_left
 ·rw [decide_eq_false k]
  repeat' first | ((first | refine Qw ?_ | refine Qd (fun h => ?_) (fun h => ?_)) <;> conv => whnf) | (refine WB.tt ?_; conv => whnf) | (refine WB.ff ?_; conv => whnf)
  exact Fin.b rfl rfl
 rw [decide_eq_true k]
 repeat' first | ((first | refine Qw ?_ | refine Qf cA ?_ | refine Qd (fun h => ?_) (fun h => ?_)) <;> conv => whnf) | (refine WB.tt ?_; conv => whnf) | (refine WB.ff ?_; conv => whnf)
 exact Fin.b rfl rfl
namespace T
variable {α : Type}
def nU {β : Type} (p : Pos) (v : Option α) : T α → (T α → β) → β :=
  Pos.rec (fun t k => T.casesOn t (k (.n .e v .e)) (fun l _ r => k (.n l v r)))
    (fun _ ih t k => T.casesOn t (ih .e fun l => k (.n l none .e)) (fun l w r => ih l fun l => k (.n l w r)))
    (fun _ ih t k => T.casesOn t (ih .e fun r => k (.n .e none r)) (fun l w r => ih r fun r => k (.n l w r))) p
theorem eS {β : Type} : ∀ (p : Pos) (v : Option α) (t : T α) (k : T α → β), nU p v t k = k (nU p v t id)
  | .h, v, .e, k => rfl
  | .h, v, .n _ _ _, k => rfl
  | .o p, v, .e, k => by
    show nU p v .e (fun l => k (.n l none .e)) = k (nU p v .e fun l => .n l none .e)
    rw [eS p v .e, eS p v .e fun l => T.n l none .e]
  | .o p, v, .n l w r, k => by
    show nU p v l (fun l => k (.n l w r)) = k (nU p v l fun l => .n l w r)
    rw [eS p v l, eS p v l fun l => T.n l w r]
  | .i p, v, .e, k => by
    show nU p v .e (fun r => k (.n .e none r)) = k (nU p v .e fun r => .n .e none r)
    rw [eS p v .e, eS p v .e fun r => T.n .e none r]
  | .i p, v, .n l w r, k => by
    show nU p v r (fun r => k (.n l w r)) = k (nU p v r fun r => .n l w r)
    rw [eS p v r, eS p v r fun r => T.n l w r]
def putsK {β : Type} (us : List (Pos × Option α)) : T α → (T α → β) → β :=
  List.rec (fun t k => k t) (fun u _ ih t k => Prod.casesOn u fun p v => nU p v t fun t => ih t k) us
theorem putsK_eq {β : Type} : ∀ (us : List (Pos × Option α)) (t : T α) (k : T α → β), putsK us t k = k (putsK us t id)
  | [], t, k => rfl
  | (p, v) :: us, t, k => by
    show nU p v t (fun t => putsK us t k) = k (nU p v t fun t => putsK us t id)
    rw [eS p v t fun t => putsK us t k, eS p v t fun t => putsK us t id, putsK_eq us _ k]
end T
def X.up (ds us : List (Pos × Option D)) (os : List (Pos × Option C)) (nx : Pos) (x : X) : X := ⟨T.putsK us (T.putsK ds x.sl id) id, T.putsK os x.ob id, nx, none⟩
def X.upK (ds us : List (Pos × Option D)) (os : List (Pos × Option C)) (nx : Pos) (x : X) (k : X → Prop) : Prop := X.casesOn x fun sl ob _ _ => T.putsK ds sl fun sl => T.putsK us sl fun sl => T.putsK os ob fun ob => k ⟨sl, ob, nx, none⟩
theorem X.upK_eq (ds us : List (Pos × Option D)) (os : List (Pos × Option C)) (nx : Pos) (x : X) (k : X → Prop) : X.upK ds us os nx x k = k (X.up ds us os nx x) := by
  obtain ⟨sl, ob, nx0, lg⟩ := x
  show T.putsK ds sl (fun sl => T.putsK us sl fun sl => T.putsK os ob fun ob => k ⟨sl, ob, nx, none⟩) = k ⟨T.putsK us (T.putsK ds sl id) id, T.putsK os ob id, nx, none⟩
  rw [T.putsK_eq ds, T.putsK_eq us, T.putsK_eq os]
section
variable {P : Program} {nt : Nat} {σ : Type} {I : σ → Prop} {μ : σ → Nat} {s : σ} {z x : X} {ds : List (Pos × Option D)} {U : σ → List (Pos × Option D)} {O : σ → List (Pos × Option C)} {N : σ → Pos}
theorem Rn.loopU {a : RC} {K : Ex → X → Prop} (ds : List (Pos × Option D)) (U : σ → List (Pos × Option D)) (O : σ → List (Pos × Option C)) (N : σ → Pos) (I : σ → Prop) (μ : σ → Nat) (s0 : σ) (h0 : X.upK ds (U s0) (O s0) (N s0) x fun y => X.le y x) (i0 : I s0)
    (hb : ∀ s, I s → X.upK ds (U s) (O s) (N s) x fun y => Rn P nt a y (wW (fun s => X.up ds (U s) (O s) (N s) x) I μ s K)) : Rn P nt (.loop a) x K :=
  Rn.loopB (fun s => X.up ds (U s) (O s) (N s) x) I μ s0 (by have h := h0; rw [X.upK_eq] at h; exact h) i0 fun s hs => by have h := hb s hs; rw [X.upK_eq] at h; exact h
theorem AgainB.u (s' : σ) (h : μ s' < μ s) (i : I s') (n : (N s).nat ≤ (N s').nat) (l : X.upK ds (U s') (O s') (N s') x fun y => Shr z y) : AgainB (fun s => X.up ds (U s) (O s) (N s) x) I μ s z :=
  AgainB.sh s' h i n (by rw [X.upK_eq] at l; exact l)
theorem AgainB.uB (s' : σ) (B : Pos → Prop) (h : μ s' < μ s) (i : I s') (n : (N s).nat ≤ (N s').nat) (b1 : ∀ id : Pos, id.nat < (N s).nat → B id) (b2 : ∀ id : Pos, B id → id.nat < (N s').nat) (l : X.upK ds (U s') (O s') (N s') x fun y => ShrB B z y) : AgainB (fun s => X.up ds (U s) (O s) (N s) x) I μ s z :=
  AgainB.to s' B h i n b1 b2 (by rw [X.upK_eq] at l; exact l)
theorem Rn.loopV {a : RC} {K : Ex → X → Prop} (ds : List (Pos × Option D)) (U : σ → List (Pos × Option D)) (O : σ → List (Pos × Option C)) (N : σ → Pos) (I : σ → Prop) (μ : σ → Nat) (s0 : σ) (h0 : X.upK ds (U s0) (O s0) (N s0) x fun y => X.le y x) (i0 : I s0)
    (hb : ∀ x', x' = x → ∀ s, I s → X.upK ds (U s) (O s) (N s) x fun y => Rn P nt a y (wW (fun s => X.up ds (U s) (O s) (N s) x') I μ s K)) : Rn P nt (.loop a) x K :=
  Rn.loopU ds U O N I μ s0 h0 i0 (hb x rfl)
theorem AgainB.v {x' : X} (s' : σ) (h : μ s' < μ s) (i : I s') (n : (N s).nat ≤ (N s').nat) (hx : x' = x) (l : X.upK ds (U s') (O s') (N s') x fun y => Shr z y) : AgainB (fun s => X.up ds (U s) (O s) (N s) x') I μ s z := by
  subst hx
  exact AgainB.u s' h i n l
theorem AgainB.vB {x' : X} (s' : σ) (B : Pos → Prop) (h : μ s' < μ s) (i : I s') (n : (N s).nat ≤ (N s').nat) (b1 : ∀ id : Pos, id.nat < (N s).nat → B id) (b2 : ∀ id : Pos, B id → id.nat < (N s').nat) (hx : x' = x) (l : X.upK ds (U s') (O s') (N s') x fun y => ShrB B z y) : AgainB (fun s => X.up ds (U s) (O s) (N s) x') I μ s z := by
  subst hx
  exact AgainB.uB s' B h i n b1 b2 l
end
theorem Fz.ptr {B : Pos → Prop} {ob : T C} {id : Pos} {st : Nat} {cs : List Cell} {cur : Nat} {r : List D} (hB : ¬ B id) (h : ob.get id = some (.cells false cs cur)) (hc : cs = r.map fun d => Cell.o d st) (h0 : 0 < r.length) (hp : aQ r) : Fz B ob (.pt id 0 st) (.pl r 0) := by
  subst hc
  refine .pt hB h h0 (fun k d hk => ⟨.o d st, ?_, ?_, rfl⟩) (FzL.of hp)
  · rw [List.drop_zero, List.getElem?_map, hk]; rfl
  · show Nat.ble st st = true
    exact Nat.ble_eq_true_of_le (Nat.le_refl _)
section
variable {P : Program} {nt : Nat}
structure WReg (P : Program) (l : List RG) (x : X) (K : X → Prop) : Prop where
  ok : ∃ Z, LRr P l x Z ∧ K Z
theorem WReg.at {l : List RG} {x : X} {K : X → Prop} (h : wL P K l x) : WReg P l x K := ⟨AA h⟩
theorem WReg.cons {g : RG} {l : List RG} {x y : X} {K : X → Prop} (h : GR P g x y) (k : WReg P l y K) : WReg P (g :: l) x K :=
  let ⟨Z, h1, h2⟩ := k.ok
  ⟨Z, .cons h h1, h2⟩
theorem LRr.app {l m : List RG} {x y z : X} (h : LRr P l x y) (k : LRr P m y z) : LRr P (l ++ m) x z := by
  induction h with
  | nil => exact k
  | cons h1 _ ih => exact .cons h1 (ih k)
theorem GR.add {d : Pos} {a b : RX} {k : IntKind} {m n v : Int} {sl : T D} {ob : T C} {nx : Pos} {lg : Option (T Bool)} (ha : bH sl a = some (.i k m)) (hb : bH sl b = some (.i k n)) (hv : k.wrap (m + n) = v) : GR P (.u (.bin d .add a b)) ⟨sl, ob, nx, lg⟩ ⟨T.set d (.i k v) sl, ob, nx, lg⟩ := by
  refine .u (.st ?_)
  show iQ d .add a b sl ob nx lg = _
  unfold iQ
  rw [ha, hb]
  have hk : rG k k = true := fN.2 rfl
  simp only [iV, hk, cond_true, dJ, bG, sX, aZ, T.setK_eq, hv]
theorem GR.sub {d : Pos} {a b : RX} {k : IntKind} {m n v : Int} {sl : T D} {ob : T C} {nx : Pos} {lg : Option (T Bool)} (ha : bH sl a = some (.i k m)) (hb : bH sl b = some (.i k n)) (hv : k.wrap (m - n) = v) : GR P (.u (.bin d .sub a b)) ⟨sl, ob, nx, lg⟩ ⟨T.set d (.i k v) sl, ob, nx, lg⟩ := by
  refine .u (.st ?_)
  show iQ d .sub a b sl ob nx lg = _
  unfold iQ
  rw [ha, hb]
  have hk : rG k k = true := fN.2 rfl
  simp only [iV, hk, cond_true, dJ, bG, mJ, aZ, T.setK_eq, hv]
end
theorem Fq {B : Pos → Prop} {ob : T C} {d e : D} (h : Fz B ob d e := by first | exact Fz.pu trivial | (refine Fz.i ?_; first | rfl | omega) | (refine Fz.kpt ?_; simp [Pos.nat, iI]; done) | (refine Fz.ksl ?_; simp [Pos.nat, iI]; done) | (refine Fz.kmp ?_; simp [Pos.nat, iI]; done)) : Fz B ob d e := h
theorem Hx {n : Nat} {ob : T C} {id : Pos} {c c' : C} (k : ShC (fun id => id.nat < n) ob c c') (h : id.nat < n := by show Pos.nat _ < Pos.nat _; simp [Pos.nat, iI]; done) : RO' n ob id c c' := ⟨h, k⟩
theorem Sq {B : Pos → Prop} {ob : T C} {ro : Bool} {cs : List Cell} {cur : Nat} (h : ∀ c ∈ cs, Fz B ob c.d c.d := by (repeat' first | exact ShC.nl | refine ShC.cn ?_ ?_) <;> exact Fq) : ShC B ob (.cells ro cs cur) (.cells ro cs cur) := ShC.same h
section
variable {α : Type} {f : α → List D}
theorem ShC.na {B : Pos → Prop} {ob : T C} (hp : ∀ a, aQ (f a)) (x : α) : ShC B ob (.cells false ((f x).map fun d => Cell.o d 0) 1) (.cells false ((aD f [x]).flatten.map fun d => Cell.o d 0) 1) := by
  have e : (aD f [x]).flatten = f x := by simp [aD]
  rw [e]
  refine ShC.same fun c hc => ?_
  obtain ⟨d, hd, rfl⟩ := List.mem_map.1 hc
  exact .pu (aU.1 (hp _) d hd)
theorem ShC.ca {B : Pos → Prop} {ob : T C} {m : Nat} (hp : ∀ a, aQ (f a)) (A : List α) (x : α) : ShC B ob (.cells false (((aD f A).flatten.map fun d => Cell.o d m) ++ (f x).map fun d => Cell.o d (m + 1)) (m + 1 + 1)) (.cells false (((aD f A).flatten ++ f x).map fun d => Cell.o d (m + 1)) (m + 1 + 1)) := by
  refine ShC.grown (by omega) (aU.2 fun d hd => ?_)
  rcases List.mem_append.1 hd with hd | hd
  · exact aU.1 (fA hp _) d hd
  · exact aU.1 (hp _) d hd
end
section
variable {P : Program}
theorem WReg.N (n : Nat) {l : List RG} {x : X} {K : X → Prop} (h : wL P (fun y => WReg P (l.drop n) y K) (l.take n) x) : WReg P l x K := by
  obtain ⟨Y, h1, h2⟩ := AA h
  obtain ⟨Z, h3, h4⟩ := h2.ok
  exact ⟨Z, by have := LRr.app h1 h3; rwa [List.take_append_drop] at this, h4⟩
end
def wR {τ : Type} (H : Nat -> Nat -> τ) (n m : Nat) : List (List τ) := (List.range n).map fun r => (List.range m).map (H r)
theorem Dc {τ : Type} (H : Nat -> Nat -> τ) (n m : Nat) : wR H (n + 1) m = wR H n m ++ [(List.range m).map (H n)] := by
 unfold wR; rw [List.range_succ, List.map_append]; rfl
theorem tZ {τ : Type} (H : Nat -> Nat -> τ) (n m : Nat) : (wR H n m).length = n := by simp [wR]
theorem CQ (a : Hr) : aQ (tO a) := by simp [tO, aQ, Pu]
def nG (xs : List Hr) : List D := [.lst 3 (aD tO xs)]
theorem eT (xs : List Hr) : aQ (nG xs) := by
 simp only [nG, aQ, Pu, and_true]
 exact fL CQ xs
theorem Cv.ns {γ γ' : Gh} {w : World} {z : Nat} : Cv γ γ' w .ns (.lst z []) := fun v h => by
 unfold DV at h ⊢
 exact ⟨none, 0, h, Nat.le_refl _, fun _ => rfl, .inl rfl⟩
theorem KZ (r : List D) (st : Nat) : Vis st ((r.map fun d => Cell.o d st).drop 0) r := fun k d hk => ⟨.o d st, by rw [List.drop_zero, List.getElem?_map, hk]; rfl, Nat.ble_eq_true_of_le (Nat.le_refl _), rfl⟩
def lQ (b : Bh) : Bh := ⟨b.last, b.rws, b.pls, b.rch, b.face, b.sun, b.winds, b.brk, []⟩
def Oc (b : Bh) : List D := [.i .i64 b.last, .i .i64 b.rws, .i .i64 b.pls, .i .i64 b.rch, .lst 1 (ints b.face), .lst 1 (ints b.sun), .lst 1 (aD eQ b.winds), .lst 2 (aD bD b.brk), .ns]
theorem Oj {γ : Gh} {w : World} (b : Bh) : CvL γ γ w (Oc b) (eF (lQ b)) := by
 refine .cons (.pu (fun _ h => h) trivial) (.cons (.pu (fun _ h => h) trivial) (.cons (.pu (fun _ h => h) trivial) (.cons (.pu (fun _ h => h) trivial) (.cons (.pu (fun _ h => h) (aC _)) (.cons (.pu (fun _ h => h) (aC _)) (.cons (.pu (fun _ h => h) (aJ _)) (.cons (.pu (fun _ h => h) (aG _)) (.cons .ns .nil))))))))
theorem VW.nt {b : Bh} (V : VW b) : VW (lQ b) := { V with nts := rfl }
structure FzW (b : Bh) : Prop where
 v : VW b
 l4 : b.brk.length <= 4
 l5 : b.nts.length <= 5
theorem jC {b : Bh} (h : bB b = 0) : FzW b := by
 unfold bB at h
 by_cases hb : Bb b = true
 ·rw [if_pos hb] at h; exact absurd h (by decide)
 ·rw [if_neg hb] at h
  have hb : ¬ (4 < b.last \/ 3 < b.rws \/ 5 < b.pls \/ 4 < b.brk.length \/ 5 < b.nts.length) := fun k => hb (fV.2 k)
  cases hv : fU b with
  | false => rw [hv] at h; exact absurd h (by decide)
  | true => exact ⟨VW.iff.1 hv, by omega, by omega⟩
theorem lV {b : Bh} {L : List (List Int)} : Bi b L = true ↔ (L.length : Int) = b.last + 1 /\ ∀ w ∈ L, (w.length : Int) = b.rws /\ w.all iT = true := by
 unfold Bi vX
 simp only [Bool.and_eq_true, decide_eq_true_iff, List.all_eq_true]
section
variable {sl : T D} {ob : T C} {nx : Pos} {lg : Option (T Bool)} {K : X → Prop}
theorem WSt.app_firstL {d idy : Pos} {z curY : Nat} {roY : Bool} {x y : RX} {a : D} {r : List D} {csY : List Cell} (hx : bH sl x = some a) (ha : a = .ns ∨ a = .em) (hy : bH sl y = some (.sl idy 0 1 0 z)) (hoy : ob.get idy = some (.cells roY csY curY)) (hcy : csY = r.map fun d => Cell.o d 0) (hr : r.length = z)
    (h : LH lg idy fun lg => LL lg nx fun lg => T.setK nx (.cells false (r.map fun d => Cell.o d 0) 1) ob fun ob => Pos.succK nx fun nx' => eB sl ob nx' lg d K (.sl nx 0 1 0 z)) : WSt (.app d z x y) ⟨sl, ob, nx, lg⟩ K := by
  obtain ⟨l1, e1, h⟩ := xR h
  obtain ⟨l2, e2, h⟩ := yU h
  rw [T.setK_eq, Pos.succK_eq] at h
  obtain ⟨h2, h3⟩ := bC h
  refine ⟨_, ?_, h3⟩
  show fI d z x y sl ob nx lg = _
  unfold fI
  rw [hx, hy]
  subst hcy hr
  have hb : Nat.beq r.length r.length = true := Nat.beq_refl _
  have hrd : gH (β := X) 0 (Nat.mul 1 r.length) (dP 0 (r.map fun d => Cell.o d 0)) = fun k => k r := by
    rw [bX, List.drop_zero, show Nat.mul 1 r.length = r.length from Nat.one_mul _]
    have key : ∀ (l : List D) (k : List D → Option X), gH 0 l.length (l.map fun d => Cell.o d 0) k = k l := by
      intro l
      induction l with
      | nil => exact fun k => rfl
      | cons a l ih => exact fun k => ih fun ds => k (a :: ds)
    exact funext fun k => key r k
  simp only [rL, hb, cond_true, hoy, hrd, tS, e1]
  have hle : Nat.ble (Nat.succ 0) 2147483648 = true := rfl
  rcases ha with rfl | rfl <;> simp only [hle, cond_true, gY, eN, e2, T.setK_eq, Pos.succK_eq] <;> exact h2
theorem WSt.app_oneL {d id idy : Pos} {z st len len' cur curY : Nat} {roY : Bool} {x y : RX} {ds r : List D} {csY : List Cell} {ob2 : T C} (hx : bH sl x = some (.sl id 0 len st z)) (hy : bH sl y = some (.sl idy 0 1 0 z)) (hoy : ob.get idy = some (.cells roY csY curY)) (hcy : csY = r.map fun d => Cell.o d 0) (hr : r.length = z) (hox : ob.get id = some (.cells false (ds.map fun d => Cell.o d st) cur)) (hds : ds.length = len * z) (hcur : cur = st + 1) (hlen : len' = len + 1) (hmax : len < 2147483648)
    (hob2 : T.set id (.cells false ((ds.map fun d => Cell.o d st) ++ r.map fun d => Cell.o d cur) (cur + 1)) ob = ob2) (h : LH lg idy fun lg => LL lg id fun lg => eB sl ob2 nx lg d K (.sl id 0 len' cur z)) : WSt (.app d z x y) ⟨sl, ob, nx, lg⟩ K := by
  obtain ⟨l1, e1, h⟩ := xR h
  obtain ⟨l2, e2, h⟩ := yU h
  obtain ⟨h2, h3⟩ := bC h
  refine ⟨_, ?_, h3⟩
  show fI d z x y sl ob nx lg = _
  unfold fI
  rw [hx, hy]
  subst hcy hr hlen hob2
  have hb : Nat.beq r.length r.length = true := Nat.beq_refl _
  have hrd : gH (β := X) 0 (Nat.mul 1 r.length) (dP 0 (r.map fun d => Cell.o d 0)) = fun k => k r := by
    rw [bX, List.drop_zero, show Nat.mul 1 r.length = r.length from Nat.one_mul _]
    have key : ∀ (l : List D) (k : List D → Option X), gH 0 l.length (l.map fun d => Cell.o d 0) k = k l := by
      intro l
      induction l with
      | nil => exact fun k => rfl
      | cons a l ih => exact fun k => ih fun ds => k (a :: ds)
    exact funext fun k => key r k
  simp only [rL, hb, cond_true, hoy, hrd, tS, e1]
  simp only [hox]
  have hidx : Nat.add 0 (Nat.mul len r.length) = ds.length := by rw [hds]; exact Nat.zero_add _
  rw [hidx, nN ds cur _ hcur]
  simp only [List.append_nil, bE, gN, e2, T.setK_eq]
  have e3 : Nat.add len (Nat.succ 0) = len + 1 := rfl
  rw [e3, Nat.ble_eq_true_of_le (show len + 1 ≤ 2147483648 from hmax)]
  exact h2
end
theorem EO (b : Bh) (l1 : b.face.length <= 1000) (l2 : b.sun.length <= 1000) (l3 : b.winds.length <= 1000) (l6 : ∀ w ∈ b.winds, w.length <= 1000) : PureF Tryz.prog p28.ix [.ag (eF b)] (.i .i64 (bB b)) := by
 have cC := AJ b l1 l2 l3 l6
 refine PureF.run Md (by simp) (by simp [aQ, dG, Pu, aS]) ?_; conv => whnf
 repeat' ((first | refine Qw ?_ | refine Qf cC ?_ | refine Qv ?_) <;> conv => whnf)
 exact Fin.i rfl rfl
theorem qW (l : List Int) (hl : l.length <= 65536) : PureF Tryz.prog p26.ix [.lst 1 (ints l)] (.lst 1 (ints l)) := by
 have e1 := aO l
 refine PureF.run MO (by simp) (by simp [aQ, dG, Pu, aC]) ?_; conv => whnf
 repeat' ((first | refine Qw ?_ | refine Qv ?_) <;> conv => whnf)
 refine WSt.app_emp rfl rfl rfl (vA l) (by omega) (fun st => ?_); conv => whnf
 repeat' ((first | refine Qw ?_ | refine Qv ?_) <;> conv => whnf)
 exact Fin.t (.inr rfl) rfl (Frz.whole (cur := st + 1) rfl rfl (vA l) rfl (aC l))
theorem FU (p : Int × Int) : PureF Tryz.prog p42.ix [.ag (bD p)] (.ag (bD p)) := by
 refine PureF.run Me (by simp) (by simp [aQ, Pu, bD]) ?_; conv => whnf
 repeat' ((first | refine Qw ?_ | refine Qv ?_) <;> conv => whnf)
 exact ⟨.inr rfl, _, rfl, .pu (by simp [one, Pu, aQ, bD])⟩
theorem GG (w : List Int) : (eQ w).length = 1 := rfl
theorem tX (w : List Int) : aQ (eQ w) := by simp [eQ, aQ, Pu, aC]
def NY (L A : List (List Int)) (j : Nat) : X := ⟨(.n (.n (.n .e (some (.sl .h 0 j j 1)) .e) none .e) (some (.lst 1 (aD eQ L))) (.n (.n .e (some (.i .i64 (j : Int))) .e) none .e)), .n .e (some (.cells false ((aD eQ A).flatten.map fun d => Cell.o d j) (j + 1))) .e, .o .h, none⟩
theorem tA {α : Type} {l : List α} {j : Nat} {d : α} (h : j < l.length) : l.take (j + 1) = l.take j ++ [l.getD j d] := by
 rw [List.take_succ_eq_append_getElem h]; simp [List.getD, h]
theorem zU (L : List (List Int)) (hL : L.length <= 1000) (hl : ∀ w ∈ L, w.length <= 65536) : PureF Tryz.prog p25.ix [.lst 1 (aD eQ L)] (.lst 1 (aD eQ L)) := by
 have e1 := aM eQ L
 refine PureF.run Mz (by simp) (by simp [aQ, dG, Pu, aJ]) ?_; conv => whnf
 repeat' ((first | refine Qw ?_ | refine Qv ?_) <;> conv => whnf)
 refine Rn.loop (fun j : Nat => NY L (L.take j) j) (fun j => j <= L.length) (fun j => L.length - j) 0 ?_ (Nat.zero_le _) ?_
 ·refine X.le.mk ?_ ?_ (Nat.le_refl _) rfl rfl
  ·exact Lw
  ·exact Lw
 intro j hj
 have hj : j <= L.length := hj
 have hsc : j < L.length -> L.take (j + 1) = L.take j ++ [L.getD j default] := fun h => tA h
 have hAl : (L.take j).length = j := by rw [List.length_take]; omega
 have hend : j = L.length -> L.take j = L := fun h => by rw [List.take_of_length_le (by omega)]
 generalize hA : L.take j = A at *
 conv => whnf
 repeat' ((first | refine Qw ?_ | refine Qv ?_) <;> conv => whnf)
 refine WB.dec (fun hd => ?_) (fun hd => ?_) <;> conv => whnf
 ·have hlt : j < L.length := by omega
  have cL := qW (L.getD j default) (hl _ (aL hlt))
  repeat' ((first | refine Qw ?_ | refine Qf cL ?_ | refine Qv ?_) <;> conv => whnf)
  refine WSt.app_one (id := .h) (ds := (aD eQ A).flatten) (r := eQ (L.getD j default)) (by rfl) (by rfl) (by rfl) (by rfl) (by rfl) (by rfl) (by rw [dO (z := 1) GG, hAl]) (by rfl) (by rfl) (by omega) (by rfl) ?_; conv => whnf
  repeat' ((first | refine Qw ?_ | refine Qv ?_) <;> conv => whnf)
  refine Again.to (j + 1) (by omega) (show j + 1 <= L.length by omega) (Nat.le_refl _) ?_
  show Shr _ (NY L (L.take (j + 1)) (j + 1))
  rw [hsc hlt]
  refine Shr.of ?_ ?_ rfl rfl
  ·(repeat' first | exact Rel.e | refine Rel.some ?_ ?_ ?_ | refine Rel.none ?_ ?_ | refine Rel.ee ?_ ?_)
   all_goals show Fz _ _ _ _
   all_goals first | exact .pu trivial | exact .ksl (Ql rfl) | exact .pu (aJ _)
  ·show Rel _ _ (.n .e (some (.cells false ((aD eQ (A ++ [L.getD j default])).flatten.map fun d => Cell.o d (j + 1)) (j + 1 + 1))) .e : T C) _
   rw [qR]
   (repeat' first | exact Rel.e | refine Rel.some ?_ ?_ ?_ | refine Rel.none ?_ ?_ | refine Rel.ee ?_ ?_)
   all_goals exact Ro (ShC.grown (by omega) (aU.2 fun d hd => by
    rcases List.mem_append.1 hd with hd | hd <;> first | exact aU.1 (fA tX _) d hd | exact aU.1 (tX _) d hd))
 ·obtain rfl : j = L.length := by omega
  repeat' ((first | refine Qw ?_ | refine Qv ?_) <;> conv => whnf)
  have hE : FzE (fun _ => False) (.n .e (some (.cells false ((aD eQ A).flatten.map fun d => Cell.o d L.length) (L.length + 1))) .e) (aD eQ A) (aD eQ L) := by
   rw [hend rfl]; exact FzE.of (aJ _)
  exact Fin.t (.inr rfl) rfl (.sl (es := aD eQ A) (cs := (aD eQ A).flatten.map fun d => Cell.o d L.length) (fun h => h) rfl (by rw [aM, hAl]) (fun r hr => by
   obtain ⟨m, _, rfl⟩ := List.mem_map.1 hr
   rfl) (KZ (aD eQ A).flatten L.length) hE)
def xX : C := .cells false [.o (.i .i64 0) 0, .o (.i .i64 0) 0, .o (.i .i64 0) 0, .o (.i .i64 0) 0, .o .ns 0, .o .ns 0, .o .ns 0, .o .ns 0, .o .ns 0] 1
theorem nP {B : Pos -> Prop} {ob : T C} : ShC B ob xX xX := by
 refine ShC.same ?_
 (repeat' first | exact ShC.nl | refine ShC.cn ?_ ?_) <;> exact .pu trivial
def GO (b : Bh) (x y : D) : C := .cells false [.o (.i .i64 b.last) 0, .o (.i .i64 b.rws) 0, .o (.i .i64 b.pls) 0, .o (.i .i64 b.rch) 0, .o (.lst 1 (ints b.face)) 0, .o (.lst 1 (ints b.sun)) 0, .o (.lst 1 (aD eQ b.winds)) 0, .o x 0, .o y 0] 1
theorem kW {B : Pos -> Prop} {ob : T C} (b : Bh) {x x' y y' : D} (hx : Fz B ob x x') (hy : Fz B ob y y') : ShC B ob (GO b x y) (GO b x' y') := by
 refine .cells fun k c' hc => ?_
 match k, hc with
 | 0, hc => cases hc; exact ⟨_, rfl, fun _ h => h, .pu trivial⟩
 | 1, hc => cases hc; exact ⟨_, rfl, fun _ h => h, .pu trivial⟩
 | 2, hc => cases hc; exact ⟨_, rfl, fun _ h => h, .pu trivial⟩
 | 3, hc => cases hc; exact ⟨_, rfl, fun _ h => h, .pu trivial⟩
 | 4, hc => cases hc; exact ⟨_, rfl, fun _ h => h, .pu (aC _)⟩
 | 5, hc => cases hc; exact ⟨_, rfl, fun _ h => h, .pu (aC _)⟩
 | 6, hc => cases hc; exact ⟨_, rfl, fun _ h => h, .pu (aJ _)⟩
 | 7, hc => cases hc; exact ⟨_, rfl, fun _ h => h, hx⟩
 | 8, hc => cases hc; exact ⟨_, rfl, fun _ h => h, hy⟩
 | k + 9, hc => cases hc
def GQ : RC -> RC
 | .seq _ b => b
 | c => c
def KE : RC := GQ (GQ (GQ KM))
def Mg (b : Bh) : X := ⟨(.n (.n (.n .e (some (.pt (.i .h) 0 0)) .e) (some (.pt .h 0 0)) .e) none (.n .e (some (.pt (.o .h) 0 0)) .e)), (.n (.n .e (some (xX)) .e) (some (fZ b)) (.n .e (some (GO b (.lst 2 (aD bD b.brk)) .ns)) .e)), .o (.o .h), none⟩
def GW (b : Bh) (A : List (Int × Int)) (j : Nat) : X := ⟨(.n (.n (.n .e (some (.pt (.i .h) 0 0)) .e) (some (.pt .h 0 0)) .e) none (.n (.n .e (some (.i .i64 (j : Int))) .e) (some (.pt (.o .h) 0 0)) .e)), (.n (.n .e (some (xX)) .e) (some (fZ b)) (.n (.n .e (Bv bD A) .e) (some (GO b (Aw (.i (.o .h)) 2 A) .ns)) .e)), iI (.o (.o .h)) (.o (.i .h)) A, none⟩
def Hc (b : Bh) (A : List (Int × Int)) (j : Nat) : X := ⟨(.n (.n (.n .e (some (.pt (.i .h) 0 0)) .e) (some (.pt .h 0 0)) (.n .e (some (.i .i64 (j : Int))) .e)) none (.n .e (some (.pt (.o .h) 0 0)) .e)), (.n (.n .e (some (xX)) .e) (some (fZ b)) (.n (.n .e (Bv bD A) .e) (some (GO b (.lst 2 (aD bD b.brk)) (Aw (.i (.o .h)) 2 A))) .e)), iI (.o (.o .h)) (.o (.i .h)) A, none⟩
theorem Dq (b : Bh) (l5 : b.nts.length <= 1000) : Rn Tryz.prog 68 KE (Mg b) (Fin Ik (.ag (eF b))) := by
 have e2 := aM bD b.nts
 conv => whnf
 repeat' ((first | refine Qw ?_ | refine Qv ?_) <;> conv => whnf)
 refine Rn.loop (fun j : Nat => Hc b (b.nts.take j) j) (fun j => j <= b.nts.length /\ True) (fun j => b.nts.length - j) 0 ?_ ?_ ?_
 ·refine X.le.mk ?_ ?_ (Nat.le_refl _) rfl rfl
  ·show T.le ((.n (.n (.n .e (some (.pt (.i .h) 0 0)) .e) (some (.pt .h 0 0)) (.n .e (some (.i .i64 0)) .e)) none (.n .e (some (.pt (.o .h) 0 0)) .e)) : Ev.T D) _
   exact Lw
  ·exact Lw
 ·exact ⟨Nat.zero_le _, trivial⟩
 rintro j ⟨hj, _⟩
 have hsc : j < b.nts.length -> b.nts.take (j + 1) = b.nts.take j ++ [b.nts.getD j default] := fun h => tA h
 have hAl : (b.nts.take j).length <= j := by rw [List.length_take]; omega
 have hend : j = b.nts.length -> b.nts.take j = b.nts := fun h => by rw [List.take_of_length_le (by omega)]
 generalize hA : b.nts.take j = A at *
 conv => whnf
 repeat' ((first | refine Qw ?_ | refine Qv ?_) <;> conv => whnf)
 refine WB.dec (fun hd => ?_) (fun hd => ?_) <;> conv => whnf
 ·have hlt : j < b.nts.length := by omega
  have hsc := hsc hlt
  cases A with
  | nil =>
    repeat' ((first | refine Qw ?_ | refine Qv ?_) <;> conv => whnf)
    refine WSt.app_firstL (r := bD (b.nts.getD j default)) (by rfl) (.inl rfl) (by rfl) (by rfl) (by rfl) (by rfl) ?_; conv => whnf
    repeat' ((first | refine Qw ?_ | refine Qv ?_) <;> conv => whnf)
    refine Again.to (j + 1) (by omega) ⟨by omega, trivial⟩ (by show (iI (.o (.o .h)) (.o (.i .h)) (b.nts.take j)).nat <= (iI (.o (.o .h)) (.o (.i .h)) (b.nts.take (j + 1))).nat; rw [hA, hsc]; exact (show 4 <= 6 by omega)) ?_
    show Shr _ (Hc b (b.nts.take (j + 1)) (j + 1))
    rw [hsc]
    refine Shr.of ?_ ?_ rfl rfl
    ·(repeat' first | exact Rel.e | refine Rel.some ?_ ?_ ?_ | refine Rel.none ?_ ?_ | refine Rel.ee ?_ ?_)
     all_goals show Fz _ _ _ _
     all_goals first | exact Fy
    ·(repeat' first | exact Rel.e | refine Rel.some ?_ ?_ ?_ | refine Rel.none ?_ ?_ | refine Rel.ee ?_ ?_)
     all_goals first
      | exact Ro (aV b)
      | exact Ro nP
      | exact Ro (kW b (.pu (aG _)) (.pu trivial))
      | exact Ro (kW b (.pu (aG _)) (.ksl (Ql rfl)))
      | (refine Ro (ShC.same fun c hc => ?_); obtain ⟨d, hd, rfl⟩ := List.mem_map.1 hc; exact .pu (aU.1 (uD _) d hd))
  | cons a s =>
    have hs5 : s.length + 1 <= 1000 := Nat.le_trans hAl (by omega)
    repeat' ((first | refine Qw ?_ | refine Qv ?_) <;> conv => whnf)
    refine WSt.app_oneL (id := (.i (.o .h))) (ds := (aD bD (a :: s)).flatten) (r := bD (b.nts.getD j default)) (by rfl) (by rfl) (by rfl) (by rfl) (by rfl) (by rfl) (by rw [dO (z := 2) ED]; rfl) (by rfl) (by rfl) (by omega) (by rfl) ?_; conv => whnf
    repeat' ((first | refine Qw ?_ | refine Qv ?_) <;> conv => whnf)
    refine Again.to (j + 1) (by omega) ⟨by omega, trivial⟩ (by show (iI (.o (.o .h)) (.o (.i .h)) (b.nts.take j)).nat <= (iI (.o (.o .h)) (.o (.i .h)) (b.nts.take (j + 1))).nat; rw [hA, hsc, List.cons_append]; exact (show 6 <= 6 by omega)) ?_
    show Shr _ (Hc b (b.nts.take (j + 1)) (j + 1))
    rw [hsc, List.cons_append]
    refine Shr.of ?_ ?_ rfl rfl
    ·(repeat' first | exact Rel.e | refine Rel.some ?_ ?_ ?_ | refine Rel.none ?_ ?_ | refine Rel.ee ?_ ?_)
     all_goals show Fz _ _ _ _
     all_goals first | exact Fy
    ·show Rel _ _ ((.n (.n .e (some (xX)) .e) (some (fZ b)) (.n (.n .e (Bv bD (a :: (s ++ [(b.nts.getD j default)]))) .e) (some (GO b (.lst 2 (aD bD b.brk)) (Aw (.i (.o .h)) 2 (a :: (s ++ [(b.nts.getD j default)]))))) .e)) : Ev.T Ev.C) _
     rw [fS, fW]
     (repeat' first | exact Rel.e | refine Rel.some ?_ ?_ ?_ | refine Rel.none ?_ ?_ | refine Rel.ee ?_ ?_)
     all_goals first
      | exact Ro (aV b)
      | exact Ro nP
      | exact Ro (kW b (.pu (aG _)) (.pu trivial))
      | exact Ro (kW b (.pu (aG _)) (.ksl (Ql rfl)))
      | (refine Ro (ShC.grown (by omega) (aU.2 fun d hd => ?_)); rcases List.mem_append.1 hd with hd | hd <;> first | exact aU.1 (fA uD _) d hd | exact aU.1 (uD _) d hd)
 ·obtain rfl : j = b.nts.length := by omega
  have hE := hend rfl
  cases A with
  | nil =>
    repeat' ((first | refine Qw ?_ | refine Qv ?_) <;> conv => whnf)
    refine ⟨.inr rfl, _, rfl, .ag ?_⟩
    unfold eF
    rw [<- hE]
    exact .cons (.pu trivial) (.cons (.pu trivial) (.cons (.pu trivial) (.cons (.pu trivial) (.cons (.pu (aC _)) (.cons (.pu (aC _)) (.cons (.pu (aJ _)) (.cons (.pu (aG _)) (.cons .ns .nil))))))))
  | cons a s =>
    repeat' ((first | refine Qw ?_ | refine Qv ?_) <;> conv => whnf)
    refine ⟨.inr rfl, _, rfl, .ag ?_⟩
    unfold eF
    rw [<- hE]
    exact .cons (.pu trivial) (.cons (.pu trivial) (.cons (.pu trivial) (.cons (.pu trivial) (.cons (.pu (aC _)) (.cons (.pu (aC _)) (.cons (.pu (aJ _)) (.cons (.pu (aG _)) (.cons (Fz.G (a :: s) (fun h => h) (fun c h => h) ED uD) .nil))))))))
theorem Ag (b : Bh) (l1 : b.face.length <= 1000) (l2 : b.sun.length <= 1000) (l3 : b.winds.length <= 1000) (l4 : b.brk.length <= 1000) (l5 : b.nts.length <= 1000) (l6 : ∀ w ∈ b.winds, w.length <= 1000) : PureF Tryz.prog p24.ix [.ag (eF b)] (.ag (eF b)) := by
 have e1 := aM bD b.brk
 have hrest := Dq b l5
 have c1 := qW b.face (by omega)
 have c2 := qW b.sun (by omega)
 have c3 := zU b.winds l3 (fun w h => Nat.le_trans (l6 w h) (by decide))
 refine PureF.run Ny (by simp) (by simp [aQ, dG, Pu, aS]) ?_; conv => whnf
 refine Rn.far rfl ?_
 refine RnF.seq ?_; conv => whnf
 repeat' ((first | refine Qw ?_ | refine Qv ?_) <;> conv => whnf)
 refine ⟨rfl, rfl, Nat.le_of_ble_eq_true rfl, ?_⟩
 refine RnF.seq ?_; conv => whnf
 repeat' ((first | refine Qw ?_ | refine Qf c1 ?_ | refine Qf c2 ?_ | refine Qf c3 ?_ | refine Qv ?_) <;> conv => whnf)
 refine ⟨rfl, rfl, Nat.le_of_ble_eq_true rfl, ?_⟩
 refine RnF.seq ?_; conv => whnf
 repeat' ((first | refine Qw ?_ | refine Qv ?_) <;> conv => whnf)
 refine Rn.loop (fun j : Nat => GW b (b.brk.take j) j) (fun j => j <= b.brk.length /\ True) (fun j => b.brk.length - j) 0 ?_ ?_ ?_
 ·refine X.le.mk ?_ ?_ (Nat.le_refl _) rfl rfl
  ·show T.le ((.n (.n (.n .e (some (.pt (.i .h) 0 0)) .e) (some (.pt .h 0 0)) .e) none (.n (.n .e (some (.i .i64 0)) .e) (some (.pt (.o .h) 0 0)) .e)) : Ev.T D) _
   exact Lw
  ·exact Lw
 ·exact ⟨Nat.zero_le _, trivial⟩
 rintro j ⟨hj, _⟩
 have hsc : j < b.brk.length -> b.brk.take (j + 1) = b.brk.take j ++ [b.brk.getD j default] := fun h => tA h
 have hAl : (b.brk.take j).length <= j := by rw [List.length_take]; omega
 have hend : j = b.brk.length -> b.brk.take j = b.brk := fun h => by rw [List.take_of_length_le (by omega)]
 generalize hA : b.brk.take j = A at *
 conv => whnf
 repeat' ((first | refine Qw ?_ | refine Qv ?_) <;> conv => whnf)
 refine WB.dec (fun hd => ?_) (fun hd => ?_) <;> conv => whnf
 ·have hlt : j < b.brk.length := by omega
  have hsc := hsc hlt
  have cS := FU (b.brk.getD j default)
  cases A with
  | nil =>
    repeat' ((first | refine Qw ?_ | refine Qf cS ?_ | refine Qv ?_) <;> conv => whnf)
    refine WSt.app_firstL (r := bD (b.brk.getD j default)) (by rfl) (.inl rfl) (by rfl) (by rfl) (by rfl) (by rfl) ?_; conv => whnf
    repeat' ((first | refine Qw ?_ | refine Qv ?_) <;> conv => whnf)
    refine Again.to (j + 1) (by omega) ⟨by omega, trivial⟩ (by show (iI (.o (.o .h)) (.o (.i .h)) (b.brk.take j)).nat <= (iI (.o (.o .h)) (.o (.i .h)) (b.brk.take (j + 1))).nat; rw [hA, hsc]; exact (show 4 <= 6 by omega)) ?_
    show Shr _ (GW b (b.brk.take (j + 1)) (j + 1))
    rw [hsc]
    refine Shr.of ?_ ?_ rfl rfl
    ·(repeat' first | exact Rel.e | refine Rel.some ?_ ?_ ?_ | refine Rel.none ?_ ?_ | refine Rel.ee ?_ ?_)
     all_goals show Fz _ _ _ _
     all_goals first | exact Fy
    ·(repeat' first | exact Rel.e | refine Rel.some ?_ ?_ ?_ | refine Rel.none ?_ ?_ | refine Rel.ee ?_ ?_)
     all_goals first
      | exact Ro (aV b)
      | exact Ro nP
      | exact Ro (kW b (.pu trivial) (.pu trivial))
      | exact Ro (kW b (.ksl (Ql rfl)) (.pu trivial))
      | (refine Ro (ShC.same fun c hc => ?_); obtain ⟨d, hd, rfl⟩ := List.mem_map.1 hc; exact .pu (aU.1 (uD _) d hd))
  | cons a s =>
    have hs5 : s.length + 1 <= 1000 := Nat.le_trans hAl (by omega)
    repeat' ((first | refine Qw ?_ | refine Qf cS ?_ | refine Qv ?_) <;> conv => whnf)
    refine WSt.app_oneL (id := (.i (.o .h))) (ds := (aD bD (a :: s)).flatten) (r := bD (b.brk.getD j default)) (by rfl) (by rfl) (by rfl) (by rfl) (by rfl) (by rfl) (by rw [dO (z := 2) ED]; rfl) (by rfl) (by rfl) (by omega) (by rfl) ?_; conv => whnf
    repeat' ((first | refine Qw ?_ | refine Qv ?_) <;> conv => whnf)
    refine Again.to (j + 1) (by omega) ⟨by omega, trivial⟩ (by show (iI (.o (.o .h)) (.o (.i .h)) (b.brk.take j)).nat <= (iI (.o (.o .h)) (.o (.i .h)) (b.brk.take (j + 1))).nat; rw [hA, hsc, List.cons_append]; exact (show 6 <= 6 by omega)) ?_
    show Shr _ (GW b (b.brk.take (j + 1)) (j + 1))
    rw [hsc, List.cons_append]
    refine Shr.of ?_ ?_ rfl rfl
    ·(repeat' first | exact Rel.e | refine Rel.some ?_ ?_ ?_ | refine Rel.none ?_ ?_ | refine Rel.ee ?_ ?_)
     all_goals show Fz _ _ _ _
     all_goals first | exact Fy
    ·show Rel _ _ ((.n (.n .e (some (xX)) .e) (some (fZ b)) (.n (.n .e (Bv bD (a :: (s ++ [(b.brk.getD j default)]))) .e) (some (GO b (Aw (.i (.o .h)) 2 (a :: (s ++ [(b.brk.getD j default)]))) .ns)) .e)) : Ev.T Ev.C) _
     rw [fS, fW]
     (repeat' first | exact Rel.e | refine Rel.some ?_ ?_ ?_ | refine Rel.none ?_ ?_ | refine Rel.ee ?_ ?_)
     all_goals first
      | exact Ro (aV b)
      | exact Ro nP
      | exact Ro (kW b (.pu trivial) (.pu trivial))
      | exact Ro (kW b (.ksl (Ql rfl)) (.pu trivial))
      | (refine Ro (ShC.grown (by omega) (aU.2 fun d hd => ?_)); rcases List.mem_append.1 hd with hd | hd <;> first | exact aU.1 (fA uD _) d hd | exact aU.1 (uD _) d hd)
 ·obtain rfl : j = b.brk.length := by omega
  have hE := hend rfl
  cases A with
  | nil =>
    repeat' ((first | refine Qw ?_ | refine Qv ?_) <;> conv => whnf)
    refine ⟨rfl, rfl, Nat.le_of_ble_eq_true rfl, RnF.turn (z' := Mg b) (B := fun id => id.nat < 4) ?_ (fun id (h : id.nat < 1) => show id.nat < 4 by omega) (fun id h => h) (Nat.le_of_ble_eq_true rfl) hrest⟩
    refine ShrB.of ?_ ?_ rfl rfl
    ·(repeat' first | exact Rel.e | refine Rel.some ?_ ?_ ?_ | refine Rel.none ?_ ?_ | refine Rel.ee ?_ ?_)
     all_goals show Fz _ _ _ _
     all_goals first | exact Fy
    ·(repeat' first | exact Rel.e | refine Rel.some ?_ ?_ ?_ | refine Rel.none ?_ ?_ | refine Rel.ee ?_ ?_)
     ·exact Ro nP
     ·exact Ro (aV b)
     ·refine ⟨show _ < 4 by simp [Pos.nat], kW b ?_ (.pu trivial)⟩
      rw [<- hE]
      exact .ns
  | cons a s =>
    repeat' ((first | refine Qw ?_ | refine Qv ?_) <;> conv => whnf)
    refine ⟨rfl, rfl, Nat.le_of_ble_eq_true rfl, RnF.turn (z' := Mg b) (B := fun id => id.nat < 4) ?_ (fun id (h : id.nat < 1) => show id.nat < 4 by omega) (fun id h => h) (Nat.le_of_ble_eq_true rfl) hrest⟩
    refine ShrB.of ?_ ?_ rfl rfl
    ·(repeat' first | exact Rel.e | refine Rel.some ?_ ?_ ?_ | refine Rel.none ?_ ?_ | refine Rel.ee ?_ ?_)
     all_goals show Fz _ _ _ _
     all_goals first | exact Fy
    ·(repeat' first | exact Rel.e | refine Rel.some ?_ ?_ ?_ | refine Rel.none ?_ ?_ | refine Rel.ee ?_ ?_)
     ·exact Ro nP
     ·exact Ro (aV b)
     ·refine ⟨show _ < 4 by simp [Pos.nat], kW b ?_ (.pu trivial)⟩
      rw [<- hE]
      exact Fz.G (a :: s) (show ¬ (5 : Nat) < 4 by omega) (fun c h => h) ED uD
theorem kT {B : Pos → Prop} {ob : T C} {x y z : Int} : ShC B ob (.cells false [.o (.i .i64 x) 0, .o (.i .i64 y) 0, .o (.i .i64 z) 0] 1) (.cells false [.o (.i .i64 x) 0, .o (.i .i64 y) 0, .o (.i .i64 z) 0] 1) := by
  refine ShC.same ?_
  (repeat' first | exact ShC.nl | refine ShC.cn ?_ ?_) <;> exact .pu trivial
theorem IG {b : Bh} {r p : Nat} (hr : r < b.rws.toNat) (hp : p < b.pls.toNat) : dN b ((r : Int), (p : Int)) = true := by
  unfold dN iU
  rw [Bool.and_eq_true]
  exact ⟨by first | exact decide_eq_true (by constructor <;> omega) | (simp only [Bool.and_eq_true, decide_eq_true_iff]; constructor <;> omega), by first | exact decide_eq_true (by constructor <;> omega) | (simp only [Bool.and_eq_true, decide_eq_true_iff]; constructor <;> omega)⟩
theorem uV : ∀ (xs ys : List Int), xs.length = ys.length → (∀ n ∈ xs, sQ .i64 n = true) → (∀ n ∈ ys, sQ .i64 n = true) → BB (xs.map fun _ => .i .i64) (xs.map fun n => D.i .i64 n) (ys.map fun n => D.i .i64 n) = some (decide (xs = ys))
  | [], [], _, _, _ => by simp [BB]
  | a :: xs, b :: ys, hl, h1, h2 => by
    have ih := uV xs ys (by simpa using hl) (fun n hn => h1 n (by simp [hn])) (fun n hn => h2 n (by simp [hn]))
    have hk : rG .i64 .i64 = true := rfl
    have w1 := h1 a (by simp)
    have w2 := h2 b (by simp)
    simp only [List.map_cons, BB, LM, hk, w1, w2, Bool.and_self, cond_true, ih, Option.some.injEq]
    rw [jQ]
    by_cases h : a = b
    · by_cases h' : xs = ys <;> simp [h, h']
    · simp [h]
  | [], _ :: _, h, _, _ => by simp at h
  | _ :: _, [], h, _, _ => by simp at h
theorem WSt.eqrN {sl : T D} {ob : T C} {nx : Pos} {K : X → Prop} {lg : Option (T Bool)} {d : Pos} {x y : RX} {neg : Bool} {ks : List LK} (xs ys : List Int) (h1 : bH sl x = some (.ag (xs.map fun n => D.i .i64 n))) (h2 : bH sl y = some (.ag (ys.map fun n => D.i .i64 n))) (hk : ks = xs.map fun _ => .i .i64) (hl : xs.length = ys.length) (w1 : ∀ n ∈ xs, sQ .i64 n = true) (w2 : ∀ n ∈ ys, sQ .i64 n = true) {r : Bool} (hr : (bif neg then !decide (xs = ys) else decide (xs = ys)) = r) (k : eB sl ob nx lg d K (.b r)) :
    WSt (.eqr d neg ks x y) ⟨sl, ob, nx, lg⟩ K := by
  obtain ⟨k1, k2⟩ := bC k
  refine ⟨_, ?_, k2⟩
  show oJ _ _ _ x y sl ob nx lg = _
  unfold oJ
  rw [h1, h2]
  have e : Bx ks (.ag (xs.map fun n => D.i .i64 n)) (.ag (ys.map fun n => D.i .i64 n)) = some (decide (xs = ys)) := by
    rw [hk]
    exact uV xs ys hl w1 w2
  simp only [e, bF, hr]
  exact k1
instance : Inhabited Hr := ⟨⟨0, 0, 0⟩⟩
set_option maxRecDepth 1000000
set_option maxRecDepth 100000
theorem Ep {b : Bh} (V : VW b) (t : List Int) : yA b t = Fj (lQ b) t := by
  have hv := V.last
  have hw := V.winl
  have key : yA b t = true ↔ Fj (lQ b) t = true := by
    rw [pL V.nt]
    unfold yA
    simp only [Bool.and_eq_true, decide_eq_true_iff, List.all_eq_true, List.mem_range, rC]
    constructor
    · rintro ⟨h1, h2⟩
      refine ⟨by show t.length = (b.last + 1).toNat; omega, fun i hi => ?_⟩
      have hi : i < (b.last + 1).toNat := hi
      exact fX.2 ⟨h2 i (by omega), fun n hn => absurd hn (by simp [lQ])⟩
    · rintro ⟨h1, h2⟩
      have h1 : t.length = (b.last + 1).toNat := h1
      refine ⟨by omega, fun i hi => ?_⟩
      exact (fX.1 (h2 i (by show i < (b.last + 1).toNat; omega))).1
  cases h : Fj (lQ b) t with
  | true => exact key.2 h
  | false =>
    cases k : yA b t with
    | false => rfl
    | true => rw [key.1 k] at h; cases h
theorem tD {τ : Type} {H : Nat → Nat → τ} {n m : Nat} {w : List τ} (h : w ∈ wR H n m) : w.length = m ∧ ∀ x ∈ w, ∃ r p, x = H r p := by
  unfold wR at h
  obtain ⟨r, _, rfl⟩ := List.mem_map.1 h
  refine ⟨by simp, fun x hx => ?_⟩
  obtain ⟨p, _, rfl⟩ := List.mem_map.1 hx
  exact ⟨r, p, rfl⟩
structure ThF (b : Bh) : Prop where
  l1 : b.face.length ≤ 1000
  l2 : b.sun.length ≤ 1000
  l3 : b.winds.length ≤ 1000
  l4 : b.brk.length ≤ 1000
  l5 : b.nts.length ≤ 1000
  l6 : ∀ w ∈ b.winds, w.length ≤ 1000
theorem He {b : Bh} (h : kP b = true) : ThF b := by
  unfold kP at h
  simp only [Bool.and_eq_true, decide_eq_true_iff] at h
  obtain ⟨a1, a2, a3, a4, a5, _⟩ := h
  obtain ⟨b1, b2⟩ := tF a3
  exact ⟨by omega, by omega, by omega, by omega, by omega, fun w hw => Nat.le_trans (b2 w hw) (by decide)⟩
theorem oF {α : Type} {β : Type} (g : β → α → β) (b : β) {l : List α} {j : Nat} {d : α} (h : j < l.length) : (l.take (j + 1)).foldl g b = g ((l.take j).foldl g b) (l.getD j d) := by
  rw [eC (d := d) h, List.foldl_append]; rfl
theorem JV (a : Int) (L : List Int) (hL : L.length ≤ 100000) : PureF Tryz.prog p135.ix [.i .i64 a, .lst 1 (ints L)] (.i .i64 (L.foldl min a)) := by
  have e1 := aO L
  refine PureF.run HQ (by simp) (by simp [aQ, Pu, aC]) ?_; conv => whnf
  repeat' first | ((first | refine Qz ?_) <;> conv => whnf)
  refine Rn.loop (fun j : Nat => ⟨(.n (.n (.n (.n .e (some (.lst 1 (ints L))) .e) none .e) none (.n (.n .e (some (.i .i64 (j : Int))) .e) none .e)) (some (.i .i64 ((L.take j).foldl min a))) (.n (.n (.n .e (some (.i .i64 ((ints L).length : Int))) .e) none .e) none .e)), .e, .h, none⟩) (fun j => j ≤ L.length) (fun j => L.length - j) 0 ?_ ?_ ?_
  · (first | (refine X.le.mk ?_ ?_ (Nat.le_refl _) rfl rfl) | skip) <;> (repeat' first | exact T.le_e _ | refine T.le_some ?_ ?_ ?_ | refine T.le_none ?_ ?_ | rfl)
  · omega
  intro j hj
  conv => whnf
  repeat' first | ((first | refine Qz ?_) <;> conv => whnf)
  refine WB.dec (fun h => ?_) (fun h => ?_) <;> conv => whnf
  · have hlt : j < L.length := by omega
    repeat' first | ((first | refine Qz ?_) <;> conv => whnf)
    refine Again.to (j + 1) (by omega) (by omega) (Nat.le_refl _) ?_
    (refine Shr.of ?_ ?_ rfl rfl) <;> (repeat' first | exact Rel.e | refine Rel.some ?_ ?_ ?_ | refine Rel.none ?_ ?_) <;> (try first | (show Fz _ _ _ _; first | exact Fz.pu trivial | (refine Fz.i ?_; first | rfl | omega) | (refine Fz.kpt ?_; (focus (show Pos.nat _ < Pos.nat _; simp [Pos.nat]; done))) | (refine Fz.ksl ?_; (focus (show Pos.nat _ < Pos.nat _; simp [Pos.nat]; done))) | (refine Fz.kmp ?_; (focus (show Pos.nat _ < Pos.nat _; simp [Pos.nat]; done))) | (refine Fz.pu ?_; simp [Cell.d, Pu, aQ, dG, aC, aG, aJ]; done) | (refine Fz.pu ?_; simp only [Cell.d]; assumption)) | (refine RO'.of ?_ (ShC.same ?_); (focus (show Pos.nat _ < Pos.nat _; simp [Pos.nat]; done)); (repeat' first | exact ShC.nl | refine ShC.cn ?_ ?_) <;> first | exact Fz.pu trivial | (refine Fz.i ?_; first | rfl | omega) | (refine Fz.kpt ?_; (focus (show Pos.nat _ < Pos.nat _; simp [Pos.nat]; done))) | (refine Fz.ksl ?_; (focus (show Pos.nat _ < Pos.nat _; simp [Pos.nat]; done))) | (refine Fz.kmp ?_; (focus (show Pos.nat _ < Pos.nat _; simp [Pos.nat]; done))) | (refine Fz.pu ?_; simp [Cell.d, Pu, aQ, dG, aC, aG, aJ]; done) | (refine Fz.pu ?_; simp only [Cell.d]; assumption)))
    all_goals (refine Fz.i ?_; exact (oF min a hlt).symm)
  · repeat' first | ((first | refine Qz ?_) <;> conv => whnf)
    exact Fin.i rfl (by rw [List.take_of_length_le (by omega)])
theorem dU {B : Pos → Prop} {ob : T C} (S : Nat → Nat → Int) : ShC B ob (.cells false ((kK S).map fun d => Cell.o d 0) 1) (.cells false ((kK S).map fun d => Cell.o d 0) 1) := by
  refine ShC.same ?_
  simp only [kK, List.map_cons, List.map_nil]
  (repeat' first | exact ShC.nl | refine ShC.cn ?_ ?_) <;> exact .pu trivial
structure SOk (b : Bh) (F : Nat → Int) (S : Nat → Nat → Int) : Prop where
  f : ∀ r : Nat, r < b.rws.toNat → 0 ≤ F r ∧ F r ≤ 3
  s : ∀ h r : Nat, h < (b.last + 1).toNat → r < b.rws.toNat → 0 ≤ S h r ∧ S h r ≤ 3
theorem WIx.rowsM {α : Type} [Inhabited α] {f : α → List D} {l : List α} {j : Nat} {z : Int} {F : List D → Prop} (h : j < l.length) (e : z = (j : Int)) (k : F (f (l.getD j default))) : WIx (aD f l) z F := by
  subst e
  exact WIx.rowsN h k
structure Bnd where
  sun : Int
  cl : Int
  ch : Int
  gl : Int
  gh : Int
def LN (x : Bnd) : List D := [.i .i64 x.sun, .i .i64 x.cl, .i .i64 x.ch, .i .i64 x.gl, .i .i64 x.gh]
theorem Iv (a : Bnd) : aQ (LN a) := by simp [LN, aQ, Pu]
def nT (xs : List Bnd) : List D := [.lst 5 (aD LN xs)]
theorem oG (xs : List Bnd) : aQ (nT xs) := by
  simp only [nT, aQ, Pu, and_true]
  exact fL Iv xs
theorem Hl (x : Hr) : PureF Tryz.prog p133.ix [.ag (tO x)] (.i .i64 x.sun) := by
  refine PureF.run KC (by simp) (by simp [aQ, Pu, tO]) ?_; conv => whnf
  repeat' first | ((first | refine Qz ?_ | refine Qy ?_) <;> conv => whnf) | (refine WB.tt ?_; conv => whnf) | (refine WB.ff ?_; conv => whnf)
  exact Fin.i rfl rfl
theorem EH (x : Hr) : PureF Tryz.prog p103.ix [.ag (tO x)] (.i .i64 x.calm) := by
  refine PureF.run Kz (by simp) (by simp [aQ, Pu, tO]) ?_; conv => whnf
  repeat' first | ((first | refine Qz ?_ | refine Qy ?_) <;> conv => whnf) | (refine WB.tt ?_; conv => whnf) | (refine WB.ff ?_; conv => whnf)
  exact Fin.i rfl rfl
theorem Ey (x : Hr) : PureF Tryz.prog p105.ix [.ag (tO x)] (.i .i64 x.good) := by
  refine PureF.run JR (by simp) (by simp [aQ, Pu, tO]) ?_; conv => whnf
  repeat' first | ((first | refine Qz ?_ | refine Qy ?_) <;> conv => whnf) | (refine WB.tt ?_; conv => whnf) | (refine WB.ff ?_; conv => whnf)
  exact Fin.i rfl rfl
def Hv : List D := [.i .i64 0, .i .i64 0, .i .i64 0, .i .i64 0, .ns, .ns, .ns, .ns, .ns]
def wI (b : Bh) (th : Bool) (ht : Bool) : Int := if bB b = 0 then (bif th then (bif ht then 0 else 11) else 2) else bB b
def rM (b : Bh) (th : Bool) (ht : Bool) : List D := if wI b th ht = 0 then eF b else Hv
theorem zM : aQ Hv := by simp [Hv, aQ, Pu]
set_option maxHeartbeats 4000000 in
theorem Fi (b : Bh) (th : Bool) (l1 : b.face.length ≤ 1000) (l2 : b.sun.length ≤ 1000) (l3 : b.winds.length ≤ 1000) (l6 : ∀ w ∈ b.winds, w.length ≤ 1000) : PureF Tryz.prog p92.ix [.ag (eF b), .b th] (.tp [.ag (rM b th (kL b)), .i .i64 (wI b th (kL b))]) := by
  have cC := EK b l1 l2 l3 l6
  refine PureF.run NE (by simp) (by simp [aQ, dG, Pu, aS]) ?_; conv => whnf
  by_cases hf : bB b = 0
  rotate_left
  · have e2 : wI b th (kL b) = bB b := if_neg hf
    have e1 : rM b th (kL b) = Hv := by unfold rM; rw [e2, if_neg hf]
    rw [e1, e2]
    repeat' first | ((first | refine Qz ?_ | refine Qf (cC) ?_ | refine Qy ?_) <;> conv => whnf) | (refine WB.tt ?_; conv => whnf) | (refine WB.ff ?_; conv => whnf)
    exact ⟨.inr rfl, _, rfl, .pu ⟨zM, trivial, trivial⟩⟩
  rw [hf] at cC
  cases th with
  | false =>
    have e2 : wI b false (kL b) = 2 := if_pos hf
    have e1 : rM b false (kL b) = Hv := by unfold rM; rw [e2]; rfl
    rw [e1, e2]
    repeat' first | ((first | refine Qz ?_ | refine Qf (cC) ?_ | with_reducible (first | refine Qm ?_ | refine Qn ?_ | refine Qo ?_ | refine Qp ?_ | refine WB.nt ?_ | refine WB.nf ?_ | refine WB.dec (fun h => ?_) (fun h => ?_) | refine WB.ndec (fun h => ?_) (fun h => ?_)) | refine WB.mk (fun h => ?_) (fun h => ?_)) <;> conv => whnf) | (refine WB.tt ?_; conv => whnf) | (refine WB.ff ?_; conv => whnf)
    exact ⟨.inr rfl, _, rfl, .pu ⟨zM, trivial, trivial⟩⟩
  | true =>
    have Z := jC hf
    have cH := yV b Z.v l6 (by have := Z.l5; omega)
    cases hh : kL b with
    | false =>
      have e2 : wI b true false = 11 := if_pos hf
      have e1 : rM b true false = Hv := by unfold rM; rw [e2]; rfl
      rw [e1, e2]
      rw [hh] at cH
      repeat' first | ((first | refine Qz ?_ | refine Qf (cC) ?_ | refine Qf (cH) ?_ | with_reducible (first | refine Qm ?_ | refine Qn ?_ | refine Qo ?_ | refine Qp ?_ | refine WB.nt ?_ | refine WB.nf ?_ | refine WB.dec (fun h => ?_) (fun h => ?_) | refine WB.ndec (fun h => ?_) (fun h => ?_)) | refine WB.mk (fun h => ?_) (fun h => ?_)) <;> conv => whnf) | (refine WB.tt ?_; conv => whnf) | (refine WB.ff ?_; conv => whnf)
      exact ⟨.inr rfl, _, rfl, .pu ⟨zM, trivial, trivial⟩⟩
    | true =>
      have e2 : wI b true true = 0 := if_pos hf
      have e1 : rM b true true = eF b := by unfold rM; rw [e2]; rfl
      rw [e1, e2]
      rw [hh] at cH
      repeat' first | ((first | refine Qz ?_ | refine Qf (cC) ?_ | refine Qf (cH) ?_ | with_reducible (first | refine Qm ?_ | refine Qn ?_ | refine Qo ?_ | refine Qp ?_ | refine WB.nt ?_ | refine WB.nf ?_ | refine WB.dec (fun h => ?_) (fun h => ?_) | refine WB.ndec (fun h => ?_) (fun h => ?_)) | refine WB.mk (fun h => ?_) (fun h => ?_)) <;> conv => whnf) | (refine WB.tt ?_; conv => whnf) | (refine WB.ff ?_; conv => whnf)
      exact ⟨.inr rfl, _, rfl, .pu ⟨aS b, trivial, trivial⟩⟩
end Go.Ev
end
