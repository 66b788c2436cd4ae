import Derived.Test.YtkbgaadfednjpaaGreatDoorEvUSq
import Derived.Test.YtkbgaadfednjpaaGreatDoorEvU4l
import Derived.Test.YtkbgaadfednjpaaGreatDoorEvUIt
import Derived.Test.YtkbgaadfednjpaaGreatDoorEvUFn
import Derived.Test.YtkbgaadfednjpaaGreatDoorEvUFi
set_option linter.all false
set_option maxHeartbeats 8000000
noncomputable section
namespace Go.Ev
namespace T
variable {α : Type}
def pJ {β : Type} (p : Pos) (v : Option α) : T α → (T α → β) → β :=
  Pos.rec (fun t k => T.casesOn t (k (.n .e v .e)) (fun l _ r => k (.n l v r)))
    (fun _ ih t k => T.casesOn t (ih .e fun l => k (.n l none .e)) (fun l w r => ih l fun l => k (.n l w r)))
    (fun _ ih t k => T.casesOn t (ih .e fun r => k (.n .e none r)) (fun l w r => ih r fun r => k (.n l w r))) p
theorem fU {β : Type} : ∀ (p : Pos) (v : Option α) (t : T α) (k : T α → β), pJ p v t k = k (pJ p v t id)
  | .h, v, .e, k => rfl
  | .h, v, .n _ _ _, k => rfl
  | .o p, v, .e, k => by
    show pJ p v .e (fun l => k (.n l none .e)) = k (pJ p v .e fun l => .n l none .e)
    rw [fU p v .e, fU p v .e fun l => T.n l none .e]
  | .o p, v, .n l w r, k => by
    show pJ p v l (fun l => k (.n l w r)) = k (pJ p v l fun l => .n l w r)
    rw [fU p v l, fU p v l fun l => T.n l w r]
  | .i p, v, .e, k => by
    show pJ p v .e (fun r => k (.n .e none r)) = k (pJ p v .e fun r => .n .e none r)
    rw [fU p v .e, fU p v .e fun r => T.n .e none r]
  | .i p, v, .n l w r, k => by
    show pJ p v r (fun r => k (.n l w r)) = k (pJ p v r fun r => .n l w r)
    rw [fU p v r, fU p v r fun r => T.n l w r]
def putsK {β : Type} (us : List (Pos × Option α)) : T α → (T α → β) → β :=
  List.rec (fun t k => k t) (fun u _ ih t k => Prod.casesOn u fun p v => pJ p v t fun t => ih t k) us
theorem putsK_eq {β : Type} : ∀ (us : List (Pos × Option α)) (t : T α) (k : T α → β), putsK us t k = k (putsK us t id)
  | [], t, k => rfl
  | (p, v) :: us, t, k => by
    show pJ p v t (fun t => putsK us t k) = k (pJ p v t fun t => putsK us t id)
    rw [fU p v t fun t => putsK us t k, fU p v t fun t => putsK us t id, putsK_eq us _ k]
end T
def X.up (ds us : List (Pos × Option D)) (os : List (Pos × Option C)) (nx : Pos) (x : X) : X := ⟨T.putsK us (T.putsK ds x.sl id) id, T.putsK os x.ob id, nx, none⟩
def X.upK (ds us : List (Pos × Option D)) (os : List (Pos × Option C)) (nx : Pos) (x : X) (k : X → Prop) : Prop := X.casesOn x fun sl ob _ _ => T.putsK ds sl fun sl => T.putsK us sl fun sl => T.putsK os ob fun ob => k ⟨sl, ob, nx, none⟩
theorem X.upK_eq (ds us : List (Pos × Option D)) (os : List (Pos × Option C)) (nx : Pos) (x : X) (k : X → Prop) : X.upK ds us os nx x k = k (X.up ds us os nx x) := by
  obtain ⟨sl, ob, nx0, lg⟩ := x
  show T.putsK ds sl (fun sl => T.putsK us sl fun sl => T.putsK os ob fun ob => k ⟨sl, ob, nx, none⟩) = k ⟨T.putsK us (T.putsK ds sl id) id, T.putsK os ob id, nx, none⟩
  rw [T.putsK_eq ds, T.putsK_eq us, T.putsK_eq os]
section
variable {P : Program} {nt : Nat} {σ : Type} {I : σ → Prop} {μ : σ → Nat} {s : σ} {z x : X} {ds : List (Pos × Option D)} {U : σ → List (Pos × Option D)} {O : σ → List (Pos × Option C)} {N : σ → Pos}
theorem Rn.loopU {a : RC} {K : Ex → X → Prop} (ds : List (Pos × Option D)) (U : σ → List (Pos × Option D)) (O : σ → List (Pos × Option C)) (N : σ → Pos) (I : σ → Prop) (μ : σ → Nat) (s0 : σ) (h0 : X.upK ds (U s0) (O s0) (N s0) x fun y => X.le y x) (i0 : I s0)
    (hb : ∀ s, I s → X.upK ds (U s) (O s) (N s) x fun y => Rn P nt a y (zN (fun s => X.up ds (U s) (O s) (N s) x) I μ s K)) : Rn P nt (.loop a) x K :=
  Rn.loopB (fun s => X.up ds (U s) (O s) (N s) x) I μ s0 (by have h := h0; rw [X.upK_eq] at h; exact h) i0 fun s hs => by have h := hb s hs; rw [X.upK_eq] at h; exact h
theorem AgainB.u (s' : σ) (h : μ s' < μ s) (i : I s') (n : (N s).nat ≤ (N s').nat) (l : X.upK ds (U s') (O s') (N s') x fun y => Shr z y) : AgainB (fun s => X.up ds (U s) (O s) (N s) x) I μ s z :=
  AgainB.sh s' h i n (by rw [X.upK_eq] at l; exact l)
theorem Rn.loopV {a : RC} {K : Ex → X → Prop} (ds : List (Pos × Option D)) (U : σ → List (Pos × Option D)) (O : σ → List (Pos × Option C)) (N : σ → Pos) (I : σ → Prop) (μ : σ → Nat) (s0 : σ) (h0 : X.upK ds (U s0) (O s0) (N s0) x fun y => X.le y x) (i0 : I s0)
    (hb : ∀ x', x' = x → ∀ s, I s → X.upK ds (U s) (O s) (N s) x fun y => Rn P nt a y (zN (fun s => X.up ds (U s) (O s) (N s) x') I μ s K)) : Rn P nt (.loop a) x K :=
  Rn.loopU ds U O N I μ s0 h0 i0 (hb x rfl)
theorem AgainB.v {x' : X} (s' : σ) (h : μ s' < μ s) (i : I s') (n : (N s).nat ≤ (N s').nat) (hx : x' = x) (l : X.upK ds (U s') (O s') (N s') x fun y => Shr z y) : AgainB (fun s => X.up ds (U s) (O s) (N s) x') I μ s z := by
  subst hx
  exact AgainB.u s' h i n l
end
theorem Fz.ptr {B : Pos → Prop} {ob : T C} {id : Pos} {st : Nat} {cs : List Cell} {cur : Nat} {r : List D} (hB : ¬ B id) (h : ob.get id = some (.cells false cs cur)) (hc : cs = r.map fun d => Cell.o d st) (h0 : 0 < r.length) (hp : aR r) : Fz B ob (.pt id 0 st) (.pl r 0) := by
  subst hc
  refine .pt hB h h0 (fun k d hk => ⟨.o d st, ?_, ?_, rfl⟩) (FzL.of hp)
  · rw [List.drop_zero, List.getElem?_map, hk]; rfl
  · show Nat.ble st st = true
    exact Nat.ble_eq_true_of_le (Nat.le_refl _)
section
variable {P : Program} {nt : Nat}
structure WReg (P : Program) (l : List RG) (x : X) (K : X → Prop) : Prop where
  ok : ∃ Z, LRr P l x Z ∧ K Z
theorem WReg.at {l : List RG} {x : X} {K : X → Prop} (h : wL P K l x) : WReg P l x K := ⟨yY h⟩
theorem WReg.cons {g : RG} {l : List RG} {x y : X} {K : X → Prop} (h : GR P g x y) (k : WReg P l y K) : WReg P (g :: l) x K :=
  let ⟨Z, h1, h2⟩ := k.ok
  ⟨Z, .cons h h1, h2⟩
theorem LRr.app {l m : List RG} {x y z : X} (h : LRr P l x y) (k : LRr P m y z) : LRr P (l ++ m) x z := by
  induction h with
  | nil => exact k
  | cons h1 _ ih => exact .cons h1 (ih k)
theorem Rn.regN (n : Nat) {l : List RG} {x : X} {K : Ex → X → Prop} (h : wL P (fun y => WReg P (l.drop n) y (K .normal)) (l.take n) x) : Rn P nt (.reg l) x K := Rn.of_bare fun c hc hs => by
  obtain ⟨Y, h1, h2⟩ := yY h
  obtain ⟨Z, h3, h4⟩ := h2.ok
  have h5 : LRr P l x Z := by have := LRr.app h1 h3; rwa [List.take_append_drop] at this
  refine other hc hs (fun e => by cases e) (fun _ e => by cases e) (fun j _ e => by cases e) (fun i ops e e' => ?_) (fun i ops _ e => by cases e) (fun _ _ _ e => by cases e) (fun _ _ _ _ _ _ e => by cases e) (fun _ _ _ e => by cases e) (fun _ _ e => by cases e) (fun _ _ _ _ _ _ _ _ _ e => by cases e) (fun e => ?_)
  · cases e'
    subst e
    exact ⟨.normal, Z, XOk.regR h5, h4⟩
  · cases e
    cases h5 with
    | cons h _ => exact (mI h).elim
theorem GR.add {d : Pos} {a b : RX} {k : IntKind} {m n v : Int} {sl : T D} {ob : T C} {nx : Pos} {lg : Option (T Bool)} (ha : bT sl a = some (.i k m)) (hb : bT sl b = some (.i k n)) (hv : k.wrap (m + n) = v) : GR P (.u (.bin d .add a b)) ⟨sl, ob, nx, lg⟩ ⟨T.set d (.i k v) sl, ob, nx, lg⟩ := by
  refine .u (.st ?_)
  show jX d .add a b sl ob nx lg = _
  unfold jX
  rw [ha, hb]
  have hk : rY k k = true := fV.2 rfl
  simp only [jQ, hk, cond_true, dZ, bM, uZ, bI, T.setK_eq, hv]
theorem GR.sub {d : Pos} {a b : RX} {k : IntKind} {m n v : Int} {sl : T D} {ob : T C} {nx : Pos} {lg : Option (T Bool)} (ha : bT sl a = some (.i k m)) (hb : bT sl b = some (.i k n)) (hv : k.wrap (m - n) = v) : GR P (.u (.bin d .sub a b)) ⟨sl, ob, nx, lg⟩ ⟨T.set d (.i k v) sl, ob, nx, lg⟩ := by
  refine .u (.st ?_)
  show jX d .sub a b sl ob nx lg = _
  unfold jX
  rw [ha, hb]
  have hk : rY k k = true := fV.2 rfl
  simp only [jQ, hk, cond_true, dZ, bM, lG, bI, T.setK_eq, hv]
end
theorem Fq {B : Pos → Prop} {ob : T C} {d e : D} (h : Fz B ob d e := by first | exact Fz.pu trivial | (refine Fz.i ?_; first | rfl | omega) | (refine Fz.kpt ?_; simp [Pos.nat, fX]; done) | (refine Fz.ksl ?_; simp [Pos.nat, fX]; done) | (refine Fz.kmp ?_; simp [Pos.nat, fX]; done)) : Fz B ob d e := h
theorem FD {n : Nat} {ob : T C} {id : Pos} {c c' : C} (k : ShC (fun id => id.nat < n) ob c c') (h : id.nat < n := by show Pos.nat _ < Pos.nat _; simp [Pos.nat, fX]; done) : RO' n ob id c c' := ⟨h, k⟩
theorem Sq {B : Pos → Prop} {ob : T C} {ro : Bool} {cs : List Cell} {cur : Nat} (h : ∀ c ∈ cs, Fz B ob c.d c.d := by (repeat' first | exact ShC.nl | refine ShC.cn ?_ ?_) <;> exact Fq) : ShC B ob (.cells ro cs cur) (.cells ro cs cur) := ShC.same h
section
variable {α : Type} {f : α → List D}
theorem ShC.na {B : Pos → Prop} {ob : T C} (hp : ∀ a, aR (f a)) (x : α) : ShC B ob (.cells false ((f x).map fun d => Cell.o d 0) 1) (.cells false ((aC f [x]).flatten.map fun d => Cell.o d 0) 1) := by
  have e : (aC f [x]).flatten = f x := by simp [aC]
  rw [e]
  refine ShC.same fun c hc => ?_
  obtain ⟨d, hd, rfl⟩ := List.mem_map.1 hc
  exact .pu (aT.1 (hp _) d hd)
theorem ShC.ca {B : Pos → Prop} {ob : T C} {m : Nat} (hp : ∀ a, aR (f a)) (A : List α) (x : α) : ShC B ob (.cells false (((aC f A).flatten.map fun d => Cell.o d m) ++ (f x).map fun d => Cell.o d (m + 1)) (m + 1 + 1)) (.cells false (((aC f A).flatten ++ f x).map fun d => Cell.o d (m + 1)) (m + 1 + 1)) := by
  refine ShC.grown (by omega) (aT.2 fun d hd => ?_)
  rcases List.mem_append.1 hd with hd | hd
  · exact aT.1 (eI hp _) d hd
  · exact aT.1 (hp _) d hd
end
section
variable {P : Program}
theorem WReg.N (n : Nat) {l : List RG} {x : X} {K : X → Prop} (h : wL P (fun y => WReg P (l.drop n) y K) (l.take n) x) : WReg P l x K := by
  obtain ⟨Y, h1, h2⟩ := yY h
  obtain ⟨Z, h3, h4⟩ := h2.ok
  exact ⟨Z, by have := LRr.app h1 h3; rwa [List.take_append_drop] at this, h4⟩
theorem GR.subG {d g : Pos} {t : Bool} {a b : RX} {k : IntKind} {m n v : Int} {sl : T D} {ob : T C} {nx : Pos} {lg : Option (T Bool)} (hg : sl.get g = some (.b t)) (ha : bT sl a = some (.i k m)) (hb : bT sl b = some (.i k n)) (hv : k.wrap (m - n) = v) : GR P (.g g t (some d) (.bin d .sub a b)) ⟨sl, ob, nx, lg⟩ ⟨T.set d (.i k v) sl, ob, nx, lg⟩ := by
  refine .t hg (.st ?_)
  show jX d .sub a b sl ob nx lg = _
  unfold jX
  rw [ha, hb]
  have hk : rY k k = true := fV.2 rfl
  simp only [jQ, hk, cond_true, dZ, bM, lG, bI, T.setK_eq, hv]
end
open Go.Proofs
set_option maxRecDepth 100000
def oZ {τ : Type} (H : Nat -> Nat -> τ) (n m : Nat) : List (List τ) := (List.range n).map fun r => (List.range m).map (H r)
theorem ES {τ : Type} (H : Nat -> Nat -> τ) (n m : Nat) : oZ H (n + 1) m = oZ H n m ++ [(List.range m).map (H n)] := by
 unfold oZ; rw [List.range_succ, List.map_append]; rfl
theorem oI {τ : Type} (H : Nat -> Nat -> τ) (n m : Nat) : (oZ H n m).length = n := by simp [oZ]
theorem GQ (a : Hr) : (iB a).length = 3 := rfl
theorem kB (a : Hr) : aR (iB a) := by simp [iB, aR, Pu]
def aS (xs : List Hr) : List D := [.lst 3 (aC iB xs)]
theorem pV (xs : List Hr) : (aS xs).length = 1 := rfl
theorem bB (xs : List Hr) : aR (aS xs) := by
 simp only [aS, aR, Pu, and_true]
 exact gR kB xs
theorem Cv.ns {γ γ' : Gh} {w : World} {z : Nat} : Cv γ γ' w .ns (.lst z []) := fun v h => by
 unfold DV at h ⊢
 exact ⟨none, 0, h, Nat.le_refl _, fun _ => rfl, .inl rfl⟩
theorem PU (r : List D) (st : Nat) : Vis st ((r.map fun d => Cell.o d st).drop 0) r := fun k d hk => ⟨.o d st, by rw [List.drop_zero, List.getElem?_map, hk]; rfl, Nat.ble_eq_true_of_le (Nat.le_refl _), rfl⟩
def QW (b : Bh) : Bh := ⟨b.last, b.rws, b.pls, b.rch, b.face, b.sun, b.winds, b.brk, []⟩
theorem VW.nt {b : Bh} (V : VW b) : VW (QW b) := { V with nts := rfl }
structure FzW (b : Bh) : Prop where
 v : VW b
 l4 : b.brk.length <= 4
 l5 : b.nts.length <= 5
theorem fW {b : Bh} (h : aZ b = 0) : FzW b := by
 unfold aZ at h
 by_cases hb : GD b = true
 ·rw [if_pos hb] at h; exact absurd h (by decide)
 ·rw [if_neg hb] at h
  have hb : ¬ (4 < b.last \/ 3 < b.rws \/ 5 < b.pls \/ 4 < b.brk.length \/ 5 < b.nts.length) := fun k => hb (jC.2 k)
  cases hv : hF b with
  | false => rw [hv] at h; exact absurd h (by decide)
  | true => exact ⟨VW.iff.1 hv, by omega, by omega⟩
theorem nB {b : Bh} {L : List (List Int)} : gS b L = true ↔ (L.length : Int) = b.last + 1 /\ ∀ w ∈ L, (w.length : Int) = b.rws /\ w.all iC = true := by
 unfold gS pF
 simp only [Bool.and_eq_true, decide_eq_true_iff, List.all_eq_true]
theorem Ki {b : Bh} (V : VW b) {t : List Int} (h : TruP b t) : ∀ d ∈ t, 0 <= d /\ d <= 3 := fun d hd => by
 obtain ⟨i, hi, rfl⟩ := sI (d := 0) hd
 have h1 := h.len
 have h1' : hrs b = (b.last + 1).toNat := rfl
 have h0 := V.last
 have h2 := V.winl
 have h3 := (jK.1 (h.mem i (by omega))).1
 have h4 := (iI.1 (List.all_eq_true.1 V.wins _ (aM (d := default) (show i < b.winds.length by omega)))).2.2
 exact aX (List.all_eq_true.1 h4 _ h3)
def IC (b : Bh) (L : List (List Int)) (t : List Int) (r p : Nat) : Hr := dJ b (bU L) ((r : Int), (p : Int)) t t.length
section
variable {sl : T D} {ob : T C} {nx : Pos} {lg : Option (T Bool)} {K : X → Prop}
theorem WSt.app_firstL {d idy : Pos} {z curY : Nat} {roY : Bool} {x y : RX} {a : D} {r : List D} {csY : List Cell} (hx : bT sl x = some a) (ha : a = .ns ∨ a = .em) (hy : bT sl y = some (.sl idy 0 1 0 z)) (hoy : ob.get idy = some (.cells roY csY curY)) (hcy : csY = r.map fun d => Cell.o d 0) (hr : r.length = z)
    (h : Ny lg idy fun lg => NB lg nx fun lg => T.setK nx (.cells false (r.map fun d => Cell.o d 0) 1) ob fun ob => Pos.succK nx fun nx' => fK sl ob nx' lg d K (.sl nx 0 1 0 z)) : WSt (.app d z x y) ⟨sl, ob, nx, lg⟩ K := by
  obtain ⟨l1, e1, h⟩ := Af h
  obtain ⟨l2, e2, h⟩ := AF h
  rw [T.setK_eq, Pos.succK_eq] at h
  obtain ⟨h2, h3⟩ := bR h
  refine ⟨_, ?_, h3⟩
  show gM d z x y sl ob nx lg = _
  unfold gM
  rw [hx, hy]
  subst hcy hr
  have hb : Nat.beq r.length r.length = true := Nat.beq_refl _
  have hrd : iE (β := X) 0 (Nat.mul 1 r.length) (eP 0 (r.map fun d => Cell.o d 0)) = fun k => k r := by
    rw [dE, List.drop_zero, show Nat.mul 1 r.length = r.length from Nat.one_mul _]
    have key : ∀ (l : List D) (k : List D → Option X), iE 0 l.length (l.map fun d => Cell.o d 0) k = k l := by
      intro l
      induction l with
      | nil => exact fun k => rfl
      | cons a l ih => exact fun k => ih fun ds => k (a :: ds)
    exact funext fun k => key r k
  simp only [tG, hb, cond_true, hoy, hrd, vQ, e1]
  have hle : Nat.ble (Nat.succ 0) 2147483648 = true := rfl
  rcases ha with rfl | rfl <;> simp only [hle, cond_true, iX, fQ, e2, T.setK_eq, Pos.succK_eq] <;> exact h2
theorem WSt.app_oneL {d id idy : Pos} {z st len len' cur curY : Nat} {roY : Bool} {x y : RX} {ds r : List D} {csY : List Cell} {ob2 : T C} (hx : bT sl x = some (.sl id 0 len st z)) (hy : bT sl y = some (.sl idy 0 1 0 z)) (hoy : ob.get idy = some (.cells roY csY curY)) (hcy : csY = r.map fun d => Cell.o d 0) (hr : r.length = z) (hox : ob.get id = some (.cells false (ds.map fun d => Cell.o d st) cur)) (hds : ds.length = len * z) (hcur : cur = st + 1) (hlen : len' = len + 1) (hmax : len < 2147483648)
    (hob2 : T.set id (.cells false ((ds.map fun d => Cell.o d st) ++ r.map fun d => Cell.o d cur) (cur + 1)) ob = ob2) (h : Ny lg idy fun lg => NB lg id fun lg => fK sl ob2 nx lg d K (.sl id 0 len' cur z)) : WSt (.app d z x y) ⟨sl, ob, nx, lg⟩ K := by
  obtain ⟨l1, e1, h⟩ := Af h
  obtain ⟨l2, e2, h⟩ := AF h
  obtain ⟨h2, h3⟩ := bR h
  refine ⟨_, ?_, h3⟩
  show gM d z x y sl ob nx lg = _
  unfold gM
  rw [hx, hy]
  subst hcy hr hlen hob2
  have hb : Nat.beq r.length r.length = true := Nat.beq_refl _
  have hrd : iE (β := X) 0 (Nat.mul 1 r.length) (eP 0 (r.map fun d => Cell.o d 0)) = fun k => k r := by
    rw [dE, List.drop_zero, show Nat.mul 1 r.length = r.length from Nat.one_mul _]
    have key : ∀ (l : List D) (k : List D → Option X), iE 0 l.length (l.map fun d => Cell.o d 0) k = k l := by
      intro l
      induction l with
      | nil => exact fun k => rfl
      | cons a l ih => exact fun k => ih fun ds => k (a :: ds)
    exact funext fun k => key r k
  simp only [tG, hb, cond_true, hoy, hrd, vQ, e1]
  simp only [hox]
  have hidx : Nat.add 0 (Nat.mul len r.length) = ds.length := by rw [hds]; exact Nat.zero_add _
  rw [hidx, pA ds cur _ hcur]
  simp only [List.append_nil, bN, iK, e2, T.setK_eq]
  have e3 : Nat.add len (Nat.succ 0) = len + 1 := rfl
  rw [e3, Nat.ble_eq_true_of_le (show len + 1 ≤ 2147483648 from hmax)]
  exact h2
end
theorem qY (b : Bh) (l1 : b.face.length <= 1000) (l2 : b.sun.length <= 1000) (l3 : b.winds.length <= 1000) (l6 : ∀ w ∈ b.winds, w.length <= 1000) : PureF Tryz.prog p28.ix [.ag (dW b)] (.i .i64 (aZ b)) := by
 have cC := Cq b l1 l2 l3 l6
 refine PureF.run NT (by simp) (by simp [aR, dL, Pu, aQ]) ?_; conv => whnf
 repeat' ((first | refine Qw ?_ | refine Qf cC ?_ | refine Qv ?_) <;> conv => whnf)
 exact Fin.i rfl rfl
theorem Ay (l : List Int) (hl : l.length <= 65536) : PureF Tryz.prog p26.ix [.lst 1 (ints l)] (.lst 1 (ints l)) := by
 have e1 := aN l
 refine PureF.run OQ (by simp) (by simp [aR, dL, Pu, aB]) ?_; conv => whnf
 repeat' ((first | refine Qw ?_ | refine Qv ?_) <;> conv => whnf)
 refine WSt.app_emp rfl rfl rfl (xP l) (by omega) (fun st => ?_); conv => whnf
 repeat' ((first | refine Qw ?_ | refine Qv ?_) <;> conv => whnf)
 exact Fin.t (.inr rfl) rfl (Frz.whole (cur := st + 1) rfl rfl (xP l) rfl (aB l))
theorem DB (p : Int × Int) : PureF Tryz.prog p42.ix [.ag (aV p)] (.ag (aV p)) := by
 refine PureF.run NU (by simp) (by simp [aR, Pu, aV]) ?_; conv => whnf
 repeat' ((first | refine Qw ?_ | refine Qv ?_) <;> conv => whnf)
 exact ⟨.inr rfl, _, rfl, .pu (by simp [one, Pu, aR, aV])⟩
theorem Is (w : List Int) : (bY w).length = 1 := rfl
theorem CW (w : List Int) : aR (bY w) := by simp [bY, aR, Pu, aB]
def QG (L A : List (List Int)) (j : Nat) : X := ⟨(.n (.n (.n .e (some (.sl .h 0 j j 1)) .e) none .e) (some (.lst 1 (aC bY L))) (.n (.n .e (some (.i .i64 (j : Int))) .e) none .e)), .n .e (some (.cells false ((aC bY A).flatten.map fun d => Cell.o d j) (j + 1))) .e, .o .h, none⟩
theorem nS {α : Type} {l : List α} {j : Nat} {d : α} (h : j < l.length) : l.take (j + 1) = l.take j ++ [l.getD j d] := by
 rw [List.take_succ_eq_append_getElem h]; simp [List.getD, h]
theorem Bt (L : List (List Int)) (hL : L.length <= 1000) (hl : ∀ w ∈ L, w.length <= 65536) : PureF Tryz.prog p25.ix [.lst 1 (aC bY L)] (.lst 1 (aC bY L)) := by
 have e1 := aH bY L
 refine PureF.run Ov (by simp) (by simp [aR, dL, Pu, aE]) ?_; conv => whnf
 repeat' ((first | refine Qw ?_ | refine Qv ?_) <;> conv => whnf)
 refine Rn.loop (fun j : Nat => QG L (L.take j) j) (fun j => j <= L.length) (fun j => L.length - j) 0 ?_ (Nat.zero_le _) ?_
 ·refine X.le.mk ?_ ?_ (Nat.le_refl _) rfl rfl
  ·exact Lw
  ·exact Lw
 intro j hj
 have hj : j <= L.length := hj
 have hsc : j < L.length -> L.take (j + 1) = L.take j ++ [L.getD j default] := fun h => nS h
 have hAl : (L.take j).length = j := by rw [List.length_take]; omega
 have hend : j = L.length -> L.take j = L := fun h => by rw [List.take_of_length_le (by omega)]
 generalize hA : L.take j = A at *
 conv => whnf
 repeat' ((first | refine Qw ?_ | refine Qv ?_) <;> conv => whnf)
 refine WB.dec (fun hd => ?_) (fun hd => ?_) <;> conv => whnf
 ·have hlt : j < L.length := by omega
  have cL := Ay (L.getD j default) (hl _ (aM hlt))
  repeat' ((first | refine Qw ?_ | refine Qf cL ?_ | refine Qv ?_) <;> conv => whnf)
  refine WSt.app_one (id := .h) (ds := (aC bY A).flatten) (r := bY (L.getD j default)) (by rfl) (by rfl) (by rfl) (by rfl) (by rfl) (by rfl) (by rw [dT (z := 1) Is, hAl]) (by rfl) (by rfl) (by omega) (by rfl) ?_; conv => whnf
  repeat' ((first | refine Qw ?_ | refine Qv ?_) <;> conv => whnf)
  refine Again.to (j + 1) (by omega) (show j + 1 <= L.length by omega) (Nat.le_refl _) ?_
  show Shr _ (QG L (L.take (j + 1)) (j + 1))
  rw [hsc hlt]
  refine Shr.of ?_ ?_ rfl rfl
  ·(repeat' first | exact Rel.e | refine Rel.some ?_ ?_ ?_ | refine Rel.none ?_ ?_ | refine Rel.ee ?_ ?_)
   all_goals show Fz _ _ _ _
   all_goals first | exact .pu trivial | exact .ksl (Ql rfl) | exact .pu (aE _)
  ·show Rel _ _ (.n .e (some (.cells false ((aC bY (A ++ [L.getD j default])).flatten.map fun d => Cell.o d (j + 1)) (j + 1 + 1))) .e : T C) _
   rw [sN]
   (repeat' first | exact Rel.e | refine Rel.some ?_ ?_ ?_ | refine Rel.none ?_ ?_ | refine Rel.ee ?_ ?_)
   all_goals exact Ro (ShC.grown (by omega) (aT.2 fun d hd => by
    rcases List.mem_append.1 hd with hd | hd <;> first | exact aT.1 (eI CW _) d hd | exact aT.1 (CW _) d hd))
 ·obtain rfl : j = L.length := by omega
  repeat' ((first | refine Qw ?_ | refine Qv ?_) <;> conv => whnf)
  have hE : FzE (fun _ => False) (.n .e (some (.cells false ((aC bY A).flatten.map fun d => Cell.o d L.length) (L.length + 1))) .e) (aC bY A) (aC bY L) := by
   rw [hend rfl]; exact FzE.of (aE _)
  exact Fin.t (.inr rfl) rfl (.sl (es := aC bY A) (cs := (aC bY A).flatten.map fun d => Cell.o d L.length) (fun h => h) rfl (by rw [aH, hAl]) (fun r hr => by
   obtain ⟨m, _, rfl⟩ := List.mem_map.1 hr
   rfl) (PU (aC bY A).flatten L.length) hE)
def Ao : C := .cells false [.o (.i .i64 0) 0, .o (.i .i64 0) 0, .o (.i .i64 0) 0, .o (.i .i64 0) 0, .o .ns 0, .o .ns 0, .o .ns 0, .o .ns 0, .o .ns 0] 1
theorem pC {B : Pos -> Prop} {ob : T C} : ShC B ob Ao Ao := by
 refine ShC.same ?_
 (repeat' first | exact ShC.nl | refine ShC.cn ?_ ?_) <;> exact .pu trivial
def Iy (b : Bh) (x y : D) : C := .cells false [.o (.i .i64 b.last) 0, .o (.i .i64 b.rws) 0, .o (.i .i64 b.pls) 0, .o (.i .i64 b.rch) 0, .o (.lst 1 (ints b.face)) 0, .o (.lst 1 (ints b.sun)) 0, .o (.lst 1 (aC bY b.winds)) 0, .o x 0, .o y 0] 1
theorem lX {B : Pos -> Prop} {ob : T C} (b : Bh) {x x' y y' : D} (hx : Fz B ob x x') (hy : Fz B ob y y') : ShC B ob (Iy b x y) (Iy b x' y') := by
 refine .cells fun k c' hc => ?_
 match k, hc with
 | 0, hc => cases hc; exact ⟨_, rfl, fun _ h => h, .pu trivial⟩
 | 1, hc => cases hc; exact ⟨_, rfl, fun _ h => h, .pu trivial⟩
 | 2, hc => cases hc; exact ⟨_, rfl, fun _ h => h, .pu trivial⟩
 | 3, hc => cases hc; exact ⟨_, rfl, fun _ h => h, .pu trivial⟩
 | 4, hc => cases hc; exact ⟨_, rfl, fun _ h => h, .pu (aB _)⟩
 | 5, hc => cases hc; exact ⟨_, rfl, fun _ h => h, .pu (aB _)⟩
 | 6, hc => cases hc; exact ⟨_, rfl, fun _ h => h, .pu (aE _)⟩
 | 7, hc => cases hc; exact ⟨_, rfl, fun _ h => h, hx⟩
 | 8, hc => cases hc; exact ⟨_, rfl, fun _ h => h, hy⟩
 | k + 9, hc => cases hc
def IB : RC -> RC
 | .seq _ b => b
 | c => c
def Mx : RC := IB (IB (IB MG))
def NW (b : Bh) : X := ⟨(.n (.n (.n .e (some (.pt (.i .h) 0 0)) .e) (some (.pt .h 0 0)) .e) none (.n .e (some (.pt (.o .h) 0 0)) .e)), (.n (.n .e (some (Ao)) .e) (some (bZ b)) (.n .e (some (Iy b (.lst 2 (aC aV b.brk)) .ns)) .e)), .o (.o .h), none⟩
def IG (b : Bh) (A : List (Int × Int)) (j : Nat) : X := ⟨(.n (.n (.n .e (some (.pt (.i .h) 0 0)) .e) (some (.pt .h 0 0)) .e) none (.n (.n .e (some (.i .i64 (j : Int))) .e) (some (.pt (.o .h) 0 0)) .e)), (.n (.n .e (some (Ao)) .e) (some (bZ b)) (.n (.n .e (wU aV A) .e) (some (Iy b (vX (.i (.o .h)) 2 A) .ns)) .e)), fX (.o (.o .h)) (.o (.i .h)) A, none⟩
def IN (b : Bh) (A : List (Int × Int)) (j : Nat) : X := ⟨(.n (.n (.n .e (some (.pt (.i .h) 0 0)) .e) (some (.pt .h 0 0)) (.n .e (some (.i .i64 (j : Int))) .e)) none (.n .e (some (.pt (.o .h) 0 0)) .e)), (.n (.n .e (some (Ao)) .e) (some (bZ b)) (.n (.n .e (wU aV A) .e) (some (Iy b (.lst 2 (aC aV b.brk)) (vX (.i (.o .h)) 2 A))) .e)), fX (.o (.o .h)) (.o (.i .h)) A, none⟩
theorem Fi (b : Bh) (l5 : b.nts.length <= 1000) : Rn Tryz.prog 68 Mx (NW b) (Fin JV (.ag (dW b))) := by
 have e2 := aH aV b.nts
 conv => whnf
 repeat' ((first | refine Qw ?_ | refine Qv ?_) <;> conv => whnf)
 refine Rn.loop (fun j : Nat => IN b (b.nts.take j) j) (fun j => j <= b.nts.length /\ True) (fun j => b.nts.length - j) 0 ?_ ?_ ?_
 ·refine X.le.mk ?_ ?_ (Nat.le_refl _) rfl rfl
  ·show T.le ((.n (.n (.n .e (some (.pt (.i .h) 0 0)) .e) (some (.pt .h 0 0)) (.n .e (some (.i .i64 0)) .e)) none (.n .e (some (.pt (.o .h) 0 0)) .e)) : Ev.T D) _
   exact Lw
  ·exact Lw
 ·exact ⟨Nat.zero_le _, trivial⟩
 rintro j ⟨hj, _⟩
 have hsc : j < b.nts.length -> b.nts.take (j + 1) = b.nts.take j ++ [b.nts.getD j default] := fun h => nS h
 have hAl : (b.nts.take j).length <= j := by rw [List.length_take]; omega
 have hend : j = b.nts.length -> b.nts.take j = b.nts := fun h => by rw [List.take_of_length_le (by omega)]
 generalize hA : b.nts.take j = A at *
 conv => whnf
 repeat' ((first | refine Qw ?_ | refine Qv ?_) <;> conv => whnf)
 refine WB.dec (fun hd => ?_) (fun hd => ?_) <;> conv => whnf
 ·have hlt : j < b.nts.length := by omega
  have hsc := hsc hlt
  cases A with
  | nil =>
    repeat' ((first | refine Qw ?_ | refine Qv ?_) <;> conv => whnf)
    refine WSt.app_firstL (r := aV (b.nts.getD j default)) (by rfl) (.inl rfl) (by rfl) (by rfl) (by rfl) (by rfl) ?_; conv => whnf
    repeat' ((first | refine Qw ?_ | refine Qv ?_) <;> conv => whnf)
    refine Again.to (j + 1) (by omega) ⟨by omega, trivial⟩ (by show (fX (.o (.o .h)) (.o (.i .h)) (b.nts.take j)).nat <= (fX (.o (.o .h)) (.o (.i .h)) (b.nts.take (j + 1))).nat; rw [hA, hsc]; exact (show 4 <= 6 by omega)) ?_
    show Shr _ (IN b (b.nts.take (j + 1)) (j + 1))
    rw [hsc]
    refine Shr.of ?_ ?_ rfl rfl
    ·(repeat' first | exact Rel.e | refine Rel.some ?_ ?_ ?_ | refine Rel.none ?_ ?_ | refine Rel.ee ?_ ?_)
     all_goals show Fz _ _ _ _
     all_goals first | exact Fy
    ·(repeat' first | exact Rel.e | refine Rel.some ?_ ?_ ?_ | refine Rel.none ?_ ?_ | refine Rel.ee ?_ ?_)
     all_goals first
      | exact Ro (aL b)
      | exact Ro pC
      | exact Ro (lX b (.pu (aF _)) (.pu trivial))
      | exact Ro (lX b (.pu (aF _)) (.ksl (Ql rfl)))
      | (refine Ro (ShC.same fun c hc => ?_); obtain ⟨d, hd, rfl⟩ := List.mem_map.1 hc; exact .pu (aT.1 (tN _) d hd))
  | cons a s =>
    have hs5 : s.length + 1 <= 1000 := Nat.le_trans hAl (by omega)
    repeat' ((first | refine Qw ?_ | refine Qv ?_) <;> conv => whnf)
    refine WSt.app_oneL (id := (.i (.o .h))) (ds := (aC aV (a :: s)).flatten) (r := aV (b.nts.getD j default)) (by rfl) (by rfl) (by rfl) (by rfl) (by rfl) (by rfl) (by rw [dT (z := 2) GC]; rfl) (by rfl) (by rfl) (by omega) (by rfl) ?_; conv => whnf
    repeat' ((first | refine Qw ?_ | refine Qv ?_) <;> conv => whnf)
    refine Again.to (j + 1) (by omega) ⟨by omega, trivial⟩ (by show (fX (.o (.o .h)) (.o (.i .h)) (b.nts.take j)).nat <= (fX (.o (.o .h)) (.o (.i .h)) (b.nts.take (j + 1))).nat; rw [hA, hsc, List.cons_append]; exact (show 6 <= 6 by omega)) ?_
    show Shr _ (IN b (b.nts.take (j + 1)) (j + 1))
    rw [hsc, List.cons_append]
    refine Shr.of ?_ ?_ rfl rfl
    ·(repeat' first | exact Rel.e | refine Rel.some ?_ ?_ ?_ | refine Rel.none ?_ ?_ | refine Rel.ee ?_ ?_)
     all_goals show Fz _ _ _ _
     all_goals first | exact Fy
    ·show Rel _ _ ((.n (.n .e (some (Ao)) .e) (some (bZ b)) (.n (.n .e (wU aV (a :: (s ++ [(b.nts.getD j default)]))) .e) (some (Iy b (.lst 2 (aC aV b.brk)) (vX (.i (.o .h)) 2 (a :: (s ++ [(b.nts.getD j default)]))))) .e)) : Ev.T Ev.C) _
     rw [fD, fF]
     (repeat' first | exact Rel.e | refine Rel.some ?_ ?_ ?_ | refine Rel.none ?_ ?_ | refine Rel.ee ?_ ?_)
     all_goals first
      | exact Ro (aL b)
      | exact Ro pC
      | exact Ro (lX b (.pu (aF _)) (.pu trivial))
      | exact Ro (lX b (.pu (aF _)) (.ksl (Ql rfl)))
      | (refine Ro (ShC.grown (by omega) (aT.2 fun d hd => ?_)); rcases List.mem_append.1 hd with hd | hd <;> first | exact aT.1 (eI tN _) d hd | exact aT.1 (tN _) d hd)
 ·obtain rfl : j = b.nts.length := by omega
  have hE := hend rfl
  cases A with
  | nil =>
    repeat' ((first | refine Qw ?_ | refine Qv ?_) <;> conv => whnf)
    refine ⟨.inr rfl, _, rfl, .ag ?_⟩
    unfold dW
    rw [<- hE]
    exact .cons (.pu trivial) (.cons (.pu trivial) (.cons (.pu trivial) (.cons (.pu trivial) (.cons (.pu (aB _)) (.cons (.pu (aB _)) (.cons (.pu (aE _)) (.cons (.pu (aF _)) (.cons .ns .nil))))))))
  | cons a s =>
    repeat' ((first | refine Qw ?_ | refine Qv ?_) <;> conv => whnf)
    refine ⟨.inr rfl, _, rfl, .ag ?_⟩
    unfold dW
    rw [<- hE]
    exact .cons (.pu trivial) (.cons (.pu trivial) (.cons (.pu trivial) (.cons (.pu trivial) (.cons (.pu (aB _)) (.cons (.pu (aB _)) (.cons (.pu (aE _)) (.cons (.pu (aF _)) (.cons (Fz.G (a :: s) (fun h => h) (fun c h => h) GC tN) .nil))))))))
theorem GS (b : Bh) (l1 : b.face.length <= 1000) (l2 : b.sun.length <= 1000) (l3 : b.winds.length <= 1000) (l4 : b.brk.length <= 1000) (l5 : b.nts.length <= 1000) (l6 : ∀ w ∈ b.winds, w.length <= 1000) : PureF Tryz.prog p24.ix [.ag (dW b)] (.ag (dW b)) := by
 have e1 := aH aV b.brk
 have hrest := Fi b l5
 have c1 := Ay b.face (by omega)
 have c2 := Ay b.sun (by omega)
 have c3 := Bt b.winds l3 (fun w h => Nat.le_trans (l6 w h) (by decide))
 refine PureF.run PM (by simp) (by simp [aR, dL, Pu, aQ]) ?_; conv => whnf
 refine Rn.far rfl ?_
 refine RnF.seq ?_; conv => whnf
 repeat' ((first | refine Qw ?_ | refine Qv ?_) <;> conv => whnf)
 refine ⟨rfl, rfl, Nat.le_of_ble_eq_true rfl, ?_⟩
 refine RnF.seq ?_; conv => whnf
 repeat' ((first | refine Qw ?_ | refine Qf c1 ?_ | refine Qf c2 ?_ | refine Qf c3 ?_ | refine Qv ?_) <;> conv => whnf)
 refine ⟨rfl, rfl, Nat.le_of_ble_eq_true rfl, ?_⟩
 refine RnF.seq ?_; conv => whnf
 repeat' ((first | refine Qw ?_ | refine Qv ?_) <;> conv => whnf)
 refine Rn.loop (fun j : Nat => IG b (b.brk.take j) j) (fun j => j <= b.brk.length /\ True) (fun j => b.brk.length - j) 0 ?_ ?_ ?_
 ·refine X.le.mk ?_ ?_ (Nat.le_refl _) rfl rfl
  ·show T.le ((.n (.n (.n .e (some (.pt (.i .h) 0 0)) .e) (some (.pt .h 0 0)) .e) none (.n (.n .e (some (.i .i64 0)) .e) (some (.pt (.o .h) 0 0)) .e)) : Ev.T D) _
   exact Lw
  ·exact Lw
 ·exact ⟨Nat.zero_le _, trivial⟩
 rintro j ⟨hj, _⟩
 have hsc : j < b.brk.length -> b.brk.take (j + 1) = b.brk.take j ++ [b.brk.getD j default] := fun h => nS h
 have hAl : (b.brk.take j).length <= j := by rw [List.length_take]; omega
 have hend : j = b.brk.length -> b.brk.take j = b.brk := fun h => by rw [List.take_of_length_le (by omega)]
 generalize hA : b.brk.take j = A at *
 conv => whnf
 repeat' ((first | refine Qw ?_ | refine Qv ?_) <;> conv => whnf)
 refine WB.dec (fun hd => ?_) (fun hd => ?_) <;> conv => whnf
 ·have hlt : j < b.brk.length := by omega
  have hsc := hsc hlt
  have cS := DB (b.brk.getD j default)
  cases A with
  | nil =>
    repeat' ((first | refine Qw ?_ | refine Qf cS ?_ | refine Qv ?_) <;> conv => whnf)
    refine WSt.app_firstL (r := aV (b.brk.getD j default)) (by rfl) (.inl rfl) (by rfl) (by rfl) (by rfl) (by rfl) ?_; conv => whnf
    repeat' ((first | refine Qw ?_ | refine Qv ?_) <;> conv => whnf)
    refine Again.to (j + 1) (by omega) ⟨by omega, trivial⟩ (by show (fX (.o (.o .h)) (.o (.i .h)) (b.brk.take j)).nat <= (fX (.o (.o .h)) (.o (.i .h)) (b.brk.take (j + 1))).nat; rw [hA, hsc]; exact (show 4 <= 6 by omega)) ?_
    show Shr _ (IG b (b.brk.take (j + 1)) (j + 1))
    rw [hsc]
    refine Shr.of ?_ ?_ rfl rfl
    ·(repeat' first | exact Rel.e | refine Rel.some ?_ ?_ ?_ | refine Rel.none ?_ ?_ | refine Rel.ee ?_ ?_)
     all_goals show Fz _ _ _ _
     all_goals first | exact Fy
    ·(repeat' first | exact Rel.e | refine Rel.some ?_ ?_ ?_ | refine Rel.none ?_ ?_ | refine Rel.ee ?_ ?_)
     all_goals first
      | exact Ro (aL b)
      | exact Ro pC
      | exact Ro (lX b (.pu trivial) (.pu trivial))
      | exact Ro (lX b (.ksl (Ql rfl)) (.pu trivial))
      | (refine Ro (ShC.same fun c hc => ?_); obtain ⟨d, hd, rfl⟩ := List.mem_map.1 hc; exact .pu (aT.1 (tN _) d hd))
  | cons a s =>
    have hs5 : s.length + 1 <= 1000 := Nat.le_trans hAl (by omega)
    repeat' ((first | refine Qw ?_ | refine Qf cS ?_ | refine Qv ?_) <;> conv => whnf)
    refine WSt.app_oneL (id := (.i (.o .h))) (ds := (aC aV (a :: s)).flatten) (r := aV (b.brk.getD j default)) (by rfl) (by rfl) (by rfl) (by rfl) (by rfl) (by rfl) (by rw [dT (z := 2) GC]; rfl) (by rfl) (by rfl) (by omega) (by rfl) ?_; conv => whnf
    repeat' ((first | refine Qw ?_ | refine Qv ?_) <;> conv => whnf)
    refine Again.to (j + 1) (by omega) ⟨by omega, trivial⟩ (by show (fX (.o (.o .h)) (.o (.i .h)) (b.brk.take j)).nat <= (fX (.o (.o .h)) (.o (.i .h)) (b.brk.take (j + 1))).nat; rw [hA, hsc, List.cons_append]; exact (show 6 <= 6 by omega)) ?_
    show Shr _ (IG b (b.brk.take (j + 1)) (j + 1))
    rw [hsc, List.cons_append]
    refine Shr.of ?_ ?_ rfl rfl
    ·(repeat' first | exact Rel.e | refine Rel.some ?_ ?_ ?_ | refine Rel.none ?_ ?_ | refine Rel.ee ?_ ?_)
     all_goals show Fz _ _ _ _
     all_goals first | exact Fy
    ·show Rel _ _ ((.n (.n .e (some (Ao)) .e) (some (bZ b)) (.n (.n .e (wU aV (a :: (s ++ [(b.brk.getD j default)]))) .e) (some (Iy b (vX (.i (.o .h)) 2 (a :: (s ++ [(b.brk.getD j default)]))) .ns)) .e)) : Ev.T Ev.C) _
     rw [fD, fF]
     (repeat' first | exact Rel.e | refine Rel.some ?_ ?_ ?_ | refine Rel.none ?_ ?_ | refine Rel.ee ?_ ?_)
     all_goals first
      | exact Ro (aL b)
      | exact Ro pC
      | exact Ro (lX b (.pu trivial) (.pu trivial))
      | exact Ro (lX b (.ksl (Ql rfl)) (.pu trivial))
      | (refine Ro (ShC.grown (by omega) (aT.2 fun d hd => ?_)); rcases List.mem_append.1 hd with hd | hd <;> first | exact aT.1 (eI tN _) d hd | exact aT.1 (tN _) d hd)
 ·obtain rfl : j = b.brk.length := by omega
  have hE := hend rfl
  cases A with
  | nil =>
    repeat' ((first | refine Qw ?_ | refine Qv ?_) <;> conv => whnf)
    refine ⟨rfl, rfl, Nat.le_of_ble_eq_true rfl, RnF.turn (z' := NW b) (B := fun id => id.nat < 4) ?_ (fun id (h : id.nat < 1) => show id.nat < 4 by omega) (fun id h => h) (Nat.le_of_ble_eq_true rfl) hrest⟩
    refine ShrB.of ?_ ?_ rfl rfl
    ·(repeat' first | exact Rel.e | refine Rel.some ?_ ?_ ?_ | refine Rel.none ?_ ?_ | refine Rel.ee ?_ ?_)
     all_goals show Fz _ _ _ _
     all_goals first | exact Fy
    ·(repeat' first | exact Rel.e | refine Rel.some ?_ ?_ ?_ | refine Rel.none ?_ ?_ | refine Rel.ee ?_ ?_)
     ·exact Ro pC
     ·exact Ro (aL b)
     ·refine ⟨show _ < 4 by simp [Pos.nat], lX b ?_ (.pu trivial)⟩
      rw [<- hE]
      exact .ns
  | cons a s =>
    repeat' ((first | refine Qw ?_ | refine Qv ?_) <;> conv => whnf)
    refine ⟨rfl, rfl, Nat.le_of_ble_eq_true rfl, RnF.turn (z' := NW b) (B := fun id => id.nat < 4) ?_ (fun id (h : id.nat < 1) => show id.nat < 4 by omega) (fun id h => h) (Nat.le_of_ble_eq_true rfl) hrest⟩
    refine ShrB.of ?_ ?_ rfl rfl
    ·(repeat' first | exact Rel.e | refine Rel.some ?_ ?_ ?_ | refine Rel.none ?_ ?_ | refine Rel.ee ?_ ?_)
     all_goals show Fz _ _ _ _
     all_goals first | exact Fy
    ·(repeat' first | exact Rel.e | refine Rel.some ?_ ?_ ?_ | refine Rel.none ?_ ?_ | refine Rel.ee ?_ ?_)
     ·exact Ro pC
     ·exact Ro (aL b)
     ·refine ⟨show _ < 4 by simp [Pos.nat], lX b ?_ (.pu trivial)⟩
      rw [<- hE]
      exact Fz.G (a :: s) (show ¬ (5 : Nat) < 4 by omega) (fun c h => h) GC tN
end Go.Ev
end
