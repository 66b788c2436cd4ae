import Derived.Test.YtkbgaadfednjpaaGreatDoorEvURl
set_option linter.all false
set_option maxHeartbeats 8000000
noncomputable section
namespace Go.Ev
open Go.RowKit (Below Grown)
structure Rn (P : Program) (nt : Nat) (rc : RC) (x : X) (K : Ex -> X -> Prop) : Prop where
 ok : ∀ c : Code, aY P nt c = rc -> ∃ e Z, XOk P nt c x e Z /\ K e Z
def T.le {α : Type} (a b : T α) : Prop := ∀ p x, a.get p = some x -> b.get p = some x
structure X.le (a b : X) : Prop where
 sl : T.le a.sl b.sl
 ob : T.le a.ob b.ob
 nx : b.nx.nat <= a.nx.nat
 la : a.lg = none
 lb : b.lg = none
theorem T.le_refl {α : Type} (a : T α) : T.le a a := fun _ _ h => h
theorem T.le_e {α : Type} (b : T α) : T.le .e b := fun p x h => by rw [T.get_e] at h; cases h
theorem T.le_n {α : Type} {l r l' r' : T α} {v v' : Option α} (hl : T.le l l') (hv : v = none \/ v = v') (hr : T.le r r') : T.le (.n l v r) (.n l' v' r')
 | .h, x, h => by
   rw [T.get_h] at h ⊢
   rcases hv with e | e
   ·rw [e] at h; cases h
   ·rw [<- e]; exact h
 | .o p, x, h => hl p x h
 | .i p, x, h => hr p x h
theorem T.le_none {α : Type} {l r l' r' : T α} {v' : Option α} (hl : T.le l l') (hr : T.le r r') : T.le (.n l none r) (.n l' v' r') := T.le_n hl (.inl rfl) hr
theorem T.le_some {α : Type} {l r l' r' : T α} {v v' : α} (hl : T.le l l') (hv : v = v') (hr : T.le r r') : T.le (.n l (some v) r) (.n l' (some v') r') := T.le_n hl (.inr (by rw [hv])) hr
section
variable {P : Program} {nt : Nat}
theorem XOk.le {c : Code} {a b : X} {e : Ex} {Z : X} (h : XOk P nt c a e Z) (l : X.le a b) : XOk P nt c b e Z := by
 have hZ : Z.lg = none := h.lg.none.1 l.la
 refine ⟨by rw [l.lb, hZ]; exact LgLe.refl _, Nat.le_trans l.nx h.nx, fun id hn => ?_, fun so hs ro γ A w hn g R n Q hQ => h.ok so hs ro γ A w hn g ⟨fun s d hs hd => R.sl s d hs (l.sl s d hd), fun id c hid hc => R.ob id c hid (l.ob id c hc), fun id hid hle => R.nx id hid (Nat.le_trans l.nx hle), R.gl⟩ n Q hQ⟩
 rw [hZ] at hn
 exact absurd trivial hn
theorem Rn.le {rc : RC} {a b : X} {K : Ex -> X -> Prop} (h : Rn P nt rc a K) (l : X.le a b) : Rn P nt rc b K :=
 ⟨fun c hc => let ⟨e, Z, h1, h2⟩ := h.ok c hc; ⟨e, Z, h1.le l, h2⟩⟩
theorem Rn.mono {rc : RC} {x : X} {K K' : Ex -> X -> Prop} (h : Rn P nt rc x K) (k : ∀ e Z, K e Z -> K' e Z) : Rn P nt rc x K' :=
 ⟨fun c hc => let ⟨e, Z, h1, h2⟩ := h.ok c hc; ⟨e, Z, h1, k e Z h2⟩⟩
theorem Kc : ∀ c : Code, ∃ c', aY P nt c' = aY P nt c /\ (∀ d, c' ≠ .scope d) /\ ∀ {x e Z}, XOk P nt c' x e Z -> XOk P nt c x e Z
 | .scope c => let ⟨c', h1, h2, h3⟩ := Kc c; ⟨c', h1, h2, fun h => (h3 h).scope⟩
 | .skip => ⟨.skip, rfl, (fun _ h => by cases h), fun h => h⟩
 | .label l => ⟨.label l, rfl, (fun _ h => by cases h), fun h => h⟩
 | .ret => ⟨.ret, rfl, (fun _ h => by cases h), fun h => h⟩
 | .exit i => ⟨.exit i, rfl, (fun _ h => by cases h), fun h => h⟩
 | .region i o d => ⟨.region i o d, rfl, (fun _ h => by cases h), fun h => h⟩
 | .seq a b => ⟨.seq a b, rfl, (fun _ h => by cases h), fun h => h⟩
 | .cond c a b => ⟨.cond c a b, rfl, (fun _ h => by cases h), fun h => h⟩
 | .block i a => ⟨.block i a, rfl, (fun _ h => by cases h), fun h => h⟩
 | .loop a => ⟨.loop a, rfl, (fun _ h => by cases h), fun h => h⟩
 | .rangeFunc f p a b => ⟨.rangeFunc f p a b, rfl, (fun _ h => by cases h), fun h => h⟩
 | .goto l => ⟨.goto l, rfl, (fun _ h => by cases h), fun h => h⟩
 | .refuse s => ⟨.refuse s, rfl, (fun _ h => by cases h), fun h => h⟩
theorem Rn.of_bare {rc : RC} {x : X} {K : Ex -> X -> Prop} (h : ∀ c : Code, aY P nt c = rc -> (∀ d, c ≠ .scope d) -> ∃ e Z, XOk P nt c x e Z /\ K e Z) : Rn P nt rc x K :=
 ⟨fun c hc => by
  obtain ⟨c', h1, h2, h3⟩ := Kc (P := P) (nt := nt) c
  obtain ⟨e, Z, h4, h5⟩ := h c' (h1.trans hc) h2
  exact ⟨e, Z, h3 h4, h5⟩⟩
theorem wF {id : Nat} {ops : Array Oper} {draw : Bool} {rc : RC} (h : aY P nt (.region id ops draw) = rc) : (draw = false /\ rc = .reg (bS P nt ops ops.toList)) \/
 (draw = true /\ rc = .drw (bS P nt ops ops.toList) (dY [] ops.toList) /\ P.follows .mixedOrders = true /\ dW (dY [] ops.toList) 0 ops.toList = true /\ dU (dY [] ops.toList) 0 (Dd (bS P nt ops ops.toList) ops.toList) = true) \/ rc = .reg [.u .bad] := by
 cases draw with
 | false => exact .inl ⟨rfl, h.symm⟩
 | true =>
   have h : vW P nt ops (dY [] ops.toList) = rc := h
   unfold vW at h
   cases h1 : P.follows .mixedOrders with
   | false => rw [h1] at h; exact .inr (.inr h.symm)
   | true =>
     cases h2 : dW (dY [] ops.toList) 0 ops.toList with
     | false => rw [h1, h2] at h; exact .inr (.inr h.symm)
     | true =>
       cases h3 : dU (dY [] ops.toList) 0 (Dd (bS P nt ops ops.toList) ops.toList) with
       | false => rw [h1, h2, h3] at h; exact .inr (.inr h.symm)
       | true =>
         rw [h1, h2, h3] at h
         exact .inr (.inl ⟨rfl, h.symm, rfl, rfl, rfl⟩)
theorem Bv {c : Operand} {a b : Code} : (∃ r, rx c = some r /\ aY P nt (.cond c a b) = .cond r (aY P nt a) (aY P nt b)) \/ aY P nt (.cond c a b) = .reg [.u .bad] := by
 simp only [aY]
 split
 ·rename_i r hr; exact .inl ⟨r, hr, rfl⟩
 ·exact .inr rfl
theorem Ft {f : Operand} {ps : Array Tmp} {a b : Code} : (∃ r q, rx f = some r /\ oX nt ps.toList = some q /\ aY P nt (.rangeFunc f ps a b) = .rf r q nt a b) \/ aY P nt (.rangeFunc f ps a b) = .reg [.u .bad] := by
 simp only [aY]
 split
 ·rename_i r q hr hq; exact .inl ⟨r, q, hr, hq, rfl⟩
 ·exact .inr rfl
variable {x : X} {K : Ex -> X -> Prop}
theorem other {c : Code} {rc : RC} (hc : aY P nt c = rc) (hs : ∀ d, c ≠ .scope d) {Q : Prop}
 (skip : rc = .skip -> (∀ {x}, XOk P nt c x .normal x) -> Q) (ret : c = .ret -> rc = .ret -> Q) (exit : ∀ i, c = .exit i -> rc = .exit i -> Q) (reg : ∀ i ops, c = .region i ops false -> rc = .reg (bS P nt ops ops.toList) -> Q)
 (drw : ∀ i ops, c = .region i ops true -> rc = .drw (bS P nt ops ops.toList) (dY [] ops.toList) -> P.follows .mixedOrders = true -> dW (dY [] ops.toList) 0 ops.toList = true -> dU (dY [] ops.toList) 0 (Dd (bS P nt ops ops.toList) ops.toList) = true -> Q)
 (seq : ∀ a b, c = .seq a b -> rc = .seq (aY P nt a) (aY P nt b) -> Q) (cond : ∀ o a b r, c = .cond o a b -> rx o = some r -> rc = .cond r (aY P nt a) (aY P nt b) -> Q) (blk : ∀ i a, c = .block i a -> rc = .blk i (aY P nt a) -> Q) (loop : ∀ a, c = .loop a -> rc = .loop (aY P nt a) -> Q)
 (rf : ∀ o ps a b r q, c = .rangeFunc o ps a b -> rx o = some r -> oX nt ps.toList = some q -> rc = .rf r q nt a b -> Q) (bad : rc = .reg [.u .bad] -> Q) : Q := by
 cases c with
 | skip => exact skip hc.symm XOk.skip
 | label _ => exact skip hc.symm XOk.label
 | ret => exact ret rfl hc.symm
 | exit i => exact exit i rfl hc.symm
 | region i ops d =>
   rcases wF hc with ⟨rfl, h⟩ | ⟨rfl, h, h1, h2, h3⟩ | h
   ·exact reg i ops rfl h
   ·exact drw i ops rfl h h1 h2 h3
   ·exact bad h
 | seq a b => exact seq a b rfl hc.symm
 | cond o a b =>
   rcases Bv (P := P) (nt := nt) (c := o) (a := a) (b := b) with ⟨r, h1, h2⟩ | h
   ·exact cond o a b r rfl h1 (hc.symm.trans h2)
   ·exact bad (hc.symm.trans h)
 | block i a => exact blk i a rfl hc.symm
 | loop a => exact loop a rfl hc.symm
 | scope d => exact absurd rfl (hs d)
 | rangeFunc o ps a b =>
   rcases Ft (P := P) (nt := nt) (f := o) (ps := ps) (a := a) (b := b) with ⟨r, q, h1, h2, h3⟩ | h
   ·exact rf o ps a b r q rfl h1 h2 (hc.symm.trans h3)
   ·exact bad (hc.symm.trans h)
 | goto _ => exact bad hc.symm
 | refuse _ => exact bad hc.symm
theorem Rn.skip (h : K .normal x) : Rn P nt .skip x K := Rn.of_bare fun c hc hs =>
 other hc hs (fun _ h' => ⟨.normal, x, h', h⟩) (fun _ e => by cases e) (fun j _ e => by cases e) (fun i ops _ e => by cases e) (fun i ops _ e => by cases e) (fun _ _ _ e => by cases e) (fun _ _ _ _ _ _ e => by cases e) (fun _ _ _ e => by cases e) (fun _ _ e => by cases e) (fun _ _ _ _ _ _ _ _ _ e => by cases e) (fun e => by cases e)
theorem Rn.ret (h : K .ret x) : Rn P nt .ret x K := Rn.of_bare fun c hc hs =>
 other hc hs (fun e => by cases e) (fun e _ => by subst e; exact ⟨.ret, x, XOk.ret, h⟩) (fun j _ e => by cases e) (fun i ops _ e => by cases e) (fun i ops _ e => by cases e) (fun _ _ _ e => by cases e) (fun _ _ _ _ _ _ e => by cases e) (fun _ _ _ e => by cases e) (fun _ _ e => by cases e) (fun _ _ _ _ _ _ _ _ _ e => by cases e) (fun e => by cases e)
theorem Rn.exit {i : Nat} (h : K (.exit i) x) : Rn P nt (.exit i) x K := Rn.of_bare fun c hc hs =>
 other hc hs (fun e => by cases e) (fun _ e => by cases e) (fun j e e' => by cases e'; subst e; exact ⟨.exit i, x, XOk.exit, h⟩) (fun i ops _ e => by cases e) (fun i ops _ e => by cases e) (fun _ _ _ e => by cases e) (fun _ _ _ _ _ _ e => by cases e) (fun _ _ _ e => by cases e) (fun _ _ e => by cases e) (fun _ _ _ _ _ _ _ _ _ e => by cases e) (fun e => by cases e)
def LW (P : Program) (nt : Nat) (b : RC) (K : Ex -> X -> Prop) (e : Ex) (y : X) : Prop :=
 match e with
 | .normal => Rn P nt b y K
 | .ret => K .ret y
 | .exit i => K (.exit i) y
def JF (i : Nat) (K : Ex -> X -> Prop) (e : Ex) (y : X) : Prop :=
 match e with
 | .normal => K .normal y
 | .ret => K .ret y
 | .exit j => bif Nat.beq j i then K .normal y else K (.exit j) y
theorem Rn.seq {a b : RC} (h : Rn P nt a x (LW P nt b K)) : Rn P nt (.seq a b) x K := Rn.of_bare fun c hc hs => by
 refine other hc hs (fun e => by cases e) (fun _ e => by cases e) (fun j _ e => by cases e) (fun i ops _ e => by cases e) (fun i ops _ e => by cases e) (fun a' b' e e' => ?_) (fun _ _ _ _ _ _ e => by cases e) (fun _ _ _ e => by cases e) (fun _ _ e => by cases e) (fun _ _ _ _ _ _ _ _ _ e => by cases e) (fun e => by cases e)
 cases e'
 subst e
 obtain ⟨e, y, h1, h2⟩ := h.ok a' rfl
 cases e with
 | normal =>
   obtain ⟨e, Z, h3, h4⟩ := h2.ok b' rfl
   exact ⟨e, Z, h1.seq h3, h4⟩
 | ret => exact ⟨.ret, y, h1.seqEnd (fun e => by cases e), h2⟩
 | exit i => exact ⟨.exit i, y, h1.seqEnd (fun e => by cases e), h2⟩
theorem Rn.cond {r : RX} {a b : RC} {t : Bool} (hv : bC x.sl r = some (.b t)) (h : WB t fun t => Rn P nt (bif t then a else b) x K) : Rn P nt (.cond r a b) x K := Rn.of_bare fun c hc hs => by
 refine other hc hs (fun e => by cases e) (fun _ e => by cases e) (fun j _ e => by cases e) (fun i ops _ e => by cases e) (fun i ops _ e => by cases e) (fun _ _ _ e => by cases e) (fun o a' b' r' e ho e' => ?_) (fun _ _ _ e => by cases e) (fun _ _ e => by cases e) (fun _ _ _ _ _ _ _ _ _ e => by cases e) (fun e => by cases e)
 cases e'
 subst e
 have h := h.at
 cases t with
 | true =>
   obtain ⟨e, Z, h1, h2⟩ := h.ok a' rfl
   exact ⟨e, Z, XOk.cond (t := true) ho hv h1, h2⟩
 | false =>
   obtain ⟨e, Z, h1, h2⟩ := h.ok b' rfl
   exact ⟨e, Z, XOk.cond (t := false) ho hv h1, h2⟩
theorem Rn.blk {i : Nat} {a : RC} (h : Rn P nt a x (JF i K)) : Rn P nt (.blk i a) x K := Rn.of_bare fun c hc hs => by
 refine other hc hs (fun e => by cases e) (fun _ e => by cases e) (fun j _ e => by cases e) (fun i ops _ e => by cases e) (fun i ops _ e => by cases e) (fun _ _ _ e => by cases e) (fun _ _ _ _ _ _ e => by cases e) (fun i' a' e e' => ?_) (fun _ _ e => by cases e) (fun _ _ _ _ _ _ _ _ _ e => by cases e) (fun e => by cases e)
 cases e'
 subst e
 obtain ⟨e, Z, h1, h2⟩ := h.ok a' rfl
 cases e with
 | normal => exact ⟨.normal, Z, h1.blockThrough (fun e => by cases e), h2⟩
 | ret => exact ⟨.ret, Z, h1.blockThrough (fun e => by cases e), h2⟩
 | exit j =>
   have h5 : bif Nat.beq j i then K .normal Z else K (.exit j) Z := h2
   clear h2
   cases hb : Nat.beq j i with
   | true =>
     rw [hb] at h5
     obtain rfl := Nat.eq_of_beq_eq_true hb
     exact ⟨.normal, Z, h1.block, h5⟩
   | false =>
     rw [hb] at h5
     exact ⟨.exit j, Z, h1.blockThrough (fun e => by cases e; simp at hb), h5⟩
def wG (P : Program) (g : RG) (sl : T D) (ob : T C) (nx : Pos) (lg : Option (T Bool)) (K : X -> Prop) : Prop :=
 match g with
 | .u r => wO P r sl ob nx lg K
 | .g p want d r => match sl.get p with
   | some (.b t) => WB t fun t => T.setK p (.b t) sl fun sl => bif (bif want then t else !t) then wO P r sl ob nx lg K else nL sl ob nx lg d K (.tp [])
   | some (.tp []) => nL sl ob nx lg d K (.tp [])
   | _ => False
def wL (P : Program) (K : X -> Prop) : List RG -> X -> Prop
 | [], x => K x
 | g :: l, ⟨sl, ob, nx, lg⟩ => wG P g sl ob nx lg fun y => wL P K l y
theorem GQ {g : RG} {sl : T D} {ob : T C} {nx : Pos} {lg : Option (T Bool)} {K : X -> Prop} (h : wG P g sl ob nx lg K) : ∃ Z, GR P g ⟨sl, ob, nx, lg⟩ Z /\ K Z := by
 unfold wG at h
 split at h
 ·obtain ⟨Z, h1, h2⟩ := GI h
  exact ⟨Z, .u h1, h2⟩
 ·rename_i p want d r
  split at h
  ·rename_i t ht
   replace h := h.at
   rw [T.setK_eq, T.set_get ht] at h
   cases hb : (bif want then t else !t) with
   | true =>
     rw [hb] at h
     obtain ⟨Z, h1, h2⟩ := GI h
     have : t = want := by cases want <;> cases t <;> first | rfl | cases hb
     subst this
     exact ⟨Z, .t ht h1, h2⟩
   | false =>
     rw [hb] at h
     have : t = !want := by cases want <;> cases t <;> first | rfl | cases hb
     subst this
     replace h : nL sl ob nx lg d K (.tp []) := h
     unfold nL at h
     cases d with
     | none => exact ⟨_, .f ht rfl, h⟩
     | some d =>
       obtain ⟨h1, h2⟩ := aT h
       exact ⟨_, .f ht h1, h2⟩
  ·rename_i ht
   unfold nL at h
   cases d with
   | none => exact ⟨_, .n ht rfl, h⟩
   | some d =>
     obtain ⟨h1, h2⟩ := aT h
     exact ⟨_, .n ht h1, h2⟩
  ·exact h.elim
theorem AL {K : X -> Prop} : ∀ {l : List RG} {x : X}, wL P K l x -> ∃ Z, LRr P l x Z /\ K Z
 | [], x, h => ⟨x, .nil, h⟩
 | g :: l, ⟨sl, ob, nx, lg⟩, h => by
   obtain ⟨y, h1, h2⟩ := GQ (K := fun y => wL P K l y) h
   obtain ⟨Z, h3, h4⟩ := AL h2
   exact ⟨Z, .cons h1 h3, h4⟩
theorem Rn.reg {l : List RG} (h : wL P (K .normal) l x) : Rn P nt (.reg l) x K := Rn.of_bare fun c hc hs => by
 obtain ⟨Z, h1, h2⟩ := AL h
 refine other hc hs (fun e => by cases e) (fun _ e => by cases e) (fun j _ e => by cases e) (fun i ops e e' => ?_) (fun i ops _ e => by cases e) (fun _ _ _ e => by cases e) (fun _ _ _ _ _ _ e => by cases e) (fun _ _ _ e => by cases e) (fun _ _ e => by cases e) (fun _ _ _ _ _ _ _ _ _ e => by cases e) (fun e => ?_)
 ·cases e'
  subst e
  exact ⟨.normal, Z, XOk.regR h1, h2⟩
 ·cases e
  cases h1 with
  | cons h _ => exact (nW h).elim
def wD (P : Program) (K : X -> Prop) : List RG -> List Nat -> Nat -> List (Nat × T Bool) -> X -> Prop
 | [], _, _, _, x => K x
 | g :: l, ms, i, acc, ⟨sl, ob, nx, lg⟩ => wG P g sl ob nx (some .e) fun y => match y with
   | ⟨sl, ob, nx, some L⟩ => match L with
     | .e => wD P K l (vY ms) (Nat.succ i) acc ⟨sl, ob, nx, lg⟩
     | .n a v b => bif jU (cK ms 0) (.n a v b) acc then jV lg (.n a v b) (fun lg => wD P K l (vY ms) (Nat.succ i) ((i, .n a v b) :: acc) ⟨sl, ob, nx, lg⟩) else False
   | ⟨_, _, _, none⟩ => False
theorem Bf (lg : Option (T Bool)) (L : T Bool) : ∃ lg1, ∀ {β : Type} (k : Option (T Bool) -> β), jV lg L k = k lg1 := by
 cases lg with
 | none => exact ⟨none, fun _ => rfl⟩
 | some A =>
   have : ∃ u, ∀ {β : Type} (k : T Bool -> β), gK A L k = k u := by
    have key : ∀ (a b : T Bool), ∃ u, ∀ {β : Type} (k : T Bool -> β), gK a b k = k u := by
     intro a
     induction a with
     | e => exact fun b => ⟨b, fun _ => rfl⟩
     | n l v r ihl ihr =>
       intro b
       cases b with
       | e => exact ⟨.n l v r, fun _ => rfl⟩
       | n l' v' r' =>
         obtain ⟨u1, h1⟩ := ihl l'
         obtain ⟨u2, h2⟩ := ihr r'
         refine ⟨.n u1 (uM v v') u2, fun k => ?_⟩
         show gK l l' (fun l2 => gK r r' fun r2 => kA v v' fun v2 => k (.n l2 v2 r2)) = _
         rw [h1, h2, qT]
    exact key A L
   obtain ⟨u, hu⟩ := this
   exact ⟨some u, fun k => hu fun L => k (some L)⟩
theorem ER {K : X -> Prop} : ∀ {l : List RG} {ms : List Nat} {i : Nat} {acc : List (Nat × T Bool)} {x : X}, wD P K l ms i acc x -> ∃ Z, DR P l ms i acc x Z /\ K Z
 | [], ms, i, acc, x, h => ⟨x, .nil, h⟩
 | g :: l, ms, i, acc, ⟨sl0, ob0, nx0, lg0⟩, h => by
   obtain ⟨y, h1, h2⟩ := GQ (K := fun y => match y with
    | ⟨sl, ob, nx, some L⟩ => match L with
      | .e => wD P K l (vY ms) (Nat.succ i) acc ⟨sl, ob, nx, lg0⟩
      | .n a v b => bif jU (cK ms 0) (.n a v b) acc then jV lg0 (.n a v b) (fun lg => wD P K l (vY ms) (Nat.succ i) ((i, .n a v b) :: acc) ⟨sl, ob, nx, lg⟩) else False
    | ⟨_, _, _, none⟩ => False) h
   obtain ⟨sl, ob, nx, lg⟩ := y
   cases lg with
   | none => exact h2.elim
   | some L =>
     cases L with
     | e =>
       obtain ⟨Z, h3, h4⟩ := ER h2
       exact ⟨Z, .e (y := ⟨sl, ob, nx, none⟩) h1 h3, h4⟩
     | n a v b =>
       have h2 : bif jU (cK ms 0) (.n a v b) acc then jV lg0 (.n a v b) (fun lg => wD P K l (vY ms) (Nat.succ i) ((i, .n a v b) :: acc) ⟨sl, ob, nx, lg⟩) else False := h2
       cases ha : jU (cK ms 0) (.n a v b) acc with
       | false => rw [ha] at h2; exact h2.elim
       | true =>
         rw [ha] at h2
         simp only [cond_true] at h2
         obtain ⟨lg1, hm⟩ := Bf lg0 (.n a v b)
         rw [hm] at h2
         obtain ⟨Z, h3, h4⟩ := ER h2
         exact ⟨Z, .n (y := ⟨sl, ob, nx, none⟩) (lg1 := lg1) h1 ha (fun k => hm k) h3, h4⟩
theorem Rn.drw {l : List RG} {ms : List Nat} (h : wD P (K .normal) l ms 0 [] x) : Rn P nt (.drw l ms) x K := Rn.of_bare fun c hc hs => by
 obtain ⟨Z, h1, h2⟩ := ER h
 refine other hc hs (fun e => by cases e) (fun _ e => by cases e) (fun j _ e => by cases e) (fun i ops _ e => by cases e) (fun i ops e e' k1 k2 k3 => ?_) (fun _ _ _ e => by cases e) (fun _ _ _ _ _ _ e => by cases e) (fun _ _ _ e => by cases e) (fun _ _ e => by cases e) (fun _ _ _ _ _ _ _ _ _ e => by cases e) (fun e => by cases e)
 cases e'
 subst e
 exact ⟨.normal, Z, XOk.drwR k1 k2 k3 h1, h2⟩
end
def PureF (P : Program) (f : Nat) (ds : List D) (v : D) : Prop := ∀ ob nx lg, CallOk P f ds ob nx lg v ob nx lg
theorem WCall.pure {P : Program} {f : Nat} {ds : List D} {d : Option Pos} {x : X} {K : X -> Prop} {v : D} (h : PureF P f ds v) (k : X.casesOn x fun sl ob nx lg => nL sl ob nx lg d K v) : WCall P f ds d x K := by
 obtain ⟨sl, ob, nx, lg⟩ := x
 cases d with
 | none => exact ⟨v, ob, nx, lg, _, h _ _ _, rfl, k⟩
 | some d =>
   obtain ⟨h1, h2⟩ := aT k
   exact ⟨v, ob, nx, lg, _, h _ _ _, h1, h2⟩
def oV (ds : List D) : Pos -> T D -> (T D -> Prop) -> Prop :=
 List.rec (fun _ t k => k t) (fun d _ ih p t k => T.setK p d t fun t => Pos.succK p fun p => ih p t k) ds
theorem vP : ∀ {ds : List D} {p : Pos} {t : T D} {k : T D -> Prop}, oV ds p t k -> ∃ t', k t' /\ ∀ s d, t'.get s = some d -> t.get s = some d \/ ∃ i : Nat, s.nat = p.nat + i /\ ds[i]? = some d
 | [], p, t, k, h => ⟨t, h, fun s d hd => .inl hd⟩
 | d :: ds, p, t, k, h => by
   have h : T.setK p d t (fun t => Pos.succK p fun p => oV ds p t k) := h
   rw [T.setK_eq, Pos.succK_eq] at h
   obtain ⟨t', h1, h2⟩ := vP h
   refine ⟨t', h1, fun s e hs => ?_⟩
   rcases h2 s e hs with h3 | ⟨i, h3, h4⟩
   ·by_cases hsp : s = p
    ·subst hsp
     rw [T.get_set_same] at h3
     cases h3
     exact .inr ⟨0, rfl, rfl⟩
    ·rw [T.get_set_ne hsp] at h3
     exact .inl h3
   ·rw [Pos.succ_nat] at h3
    exact .inr ⟨i + 1, by omega, by simpa using h4⟩
theorem mD {ds : List D} {k : T D -> Prop} (h : oV ds .h .e k) : ∃ t', k t' /\ ∀ s d, t'.get s = some d -> (T.e : T D).get s = some d \/ ∃ i : Nat, s.nat = Pos.h.nat + i /\ ds[i]? = some d := vP h
structure Fin (rs : List RR) (v : D) (e : Ex) (z : X) : Prop where
 he : e = .normal \/ e = .ret
 hr : ∃ u, results rs z.sl z.ob z.lg (fun ds lg => some ⟨T.set .h (one ds) .e, z.ob, z.nx, lg⟩) = some ⟨T.set .h u .e, z.ob, z.nx, none⟩ /\ Frz z.ob u v
theorem PureF.of {P : Program} {f : Nat} {fn : Func} {c : Code} {rc : RC} {rs : List RR} {ds : List D} {v : D} (hf : P.funcs[f]? = some fn) (hb : fn.body = some c) (hc : aY P fn.ntmps c = rc) (hr : jK P fn.results.toList = some rs) (hname : (fn.name == "runtime.NumGoroutine") = false)
 (hlen : ds.length <= fn.ntmps) (hp : aN ds) (h : oV ds .h .e fun sl => Rn P fn.ntmps rc ⟨sl, .e, .h, none⟩ (Fin rs v)) : PureF P f ds v := by
 obtain ⟨sl0, h, hsl⟩ := mD h
 obtain ⟨e, ⟨sl, ob1, nx1, lg1⟩, X1, F⟩ := h.ok c hc
 obtain ⟨u, h1, h2⟩ := F.hr
 obtain ⟨v', ob', nx', lg', h3, C⟩ := nI (k := fun v ob nx lg => some ⟨T.set .h v .e, ob, nx, lg⟩) hf hb hr hname hlen hsl F.he X1 h1
 have h3 := Option.some.inj h3
 have e1 := congrArg (fun t => T.get t .h) (X.mk.inj h3).1
 simp only [T.get_set_same, Option.some.injEq] at e1
 have e2 := (X.mk.inj h3).2.1
 have e3 : ob' = ob1 := e2
 subst e1
 subst e3
 exact C.shut hp h2
structure FnOk (P : Program) (f nt : Nat) (rc : RC) (rs : List RR) : Prop where
 ok : ∃ fn c, P.funcs[f]? = some fn /\ fn.body = some c /\ aY P fn.ntmps c = rc /\ jK P fn.results.toList = some rs /\ (fn.name == "runtime.NumGoroutine") = false /\ fn.ntmps = nt
theorem PureF.run {P : Program} {f nt : Nat} {rc : RC} {rs : List RR} {ds : List D} {v : D} (F : FnOk P f nt rc rs) (hlen : ds.length <= nt) (hp : aN ds) (h : oV ds .h .e fun sl => Rn P nt rc ⟨sl, .e, .h, none⟩ (Fin rs v)) : PureF P f ds v := by
 obtain ⟨fn, c, h1, h2, h3, h4, h5, h6⟩ := F.ok
 subst h6
 exact PureF.of h1 h2 h3 h4 h5 hlen hp h
def aJ (fn : Func) : Code := match fn.body with
 | some c => c
 | none => .skip
def FJ : Code -> List (Code × Code)
 | .seq a b => FJ a ++ FJ b
 | .cond _ a b => FJ a ++ FJ b
 | .block _ a => FJ a
 | .loop a => FJ a
 | .scope a => FJ a
 | .rangeFunc _ _ a b => [(a, b)]
 | _ => []
def Ib (c : Code) (i : Nat) : Code := match (FJ c)[i]? with
 | some p => p.1
 | none => .skip
def Hh (c : Code) (i : Nat) : Code := match (FJ c)[i]? with
 | some p => p.2
 | none => .skip
theorem IA {α : Type} {a b : T α} (h : T.le a b := by repeat' first | exact T.le_e _ | exact T.le_refl _ | refine T.le_some ?_ rfl ?_ | refine T.le_none ?_ ?_) : T.le a b := h
theorem Pi {P : Program} {i nt : Nat} {rc : RC} {rs : List RR} (f : Func) (h1 : P.funcs[i]? = some f) (h2 : f.body = some (aJ f) := by kernel_rfl) (h3 : aY P f.ntmps (aJ f) = rc := by kernel_rfl) (h4 : jK P f.results.toList = some rs := by kernel_rfl) (h5 : (f.name == "runtime.NumGoroutine") = false := by kernel_rfl) (h6 : f.ntmps = nt := by kernel_rfl) : FnOk P i nt rc rs := ⟨f, aJ f, h1, h2, h3, h4, h5, h6⟩
open Go.RowKit (Below Grown)
inductive ShC (B : Pos -> Prop) (ob : T C) : C -> C -> Prop where
 | cells {ro : Bool} {cs cs' : List Cell} {cur : Nat} (h : ∀ (k : Nat) (c' : Cell), cs'[k]? = some c' -> ∃ c : Cell, cs[k]? = some c /\ (∀ st, c'.has st = true -> c.has st = true) /\ Fz B ob c.d c'.d) : ShC B ob (.cells ro cs cur) (.cells ro cs' cur)
 | map {es es' : List (D × D)} (hl : es.length = es'.length) (h : ∀ (k : Nat) e e', es[k]? = some e -> es'[k]? = some e' -> Fz B ob e.1 e'.1 /\ Fz B ob e.2 e'.2) : ShC B ob (.map es) (.map es')
 | lp {sl sl' : T D} {ps : List Pos} {nt : Nat} {asg body : Code} {st : LS} {j : Option Ex} (h : ∀ s d', sl'.get s = some d' -> ∃ d, sl.get s = some d /\ Fz B ob d d') : ShC B ob (.lp sl ps nt asg body st j) (.lp sl' ps nt asg body st j)
 | hole : ShC B ob .hole .hole
structure Shr (z z' : X) : Prop where
 sl : ∀ s d', z'.sl.get s = some d' -> ∃ d, z.sl.get s = some d /\ Fz (fun id => id.nat < z'.nx.nat) z.ob d d'
 ob : ∀ id c', z'.ob.get id = some c' -> id.nat < z'.nx.nat /\ ∃ c, z.ob.get id = some c /\ ShC (fun id => id.nat < z'.nx.nat) z.ob c c'
 l : z.lg = none
 l' : z'.lg = none
theorem Fz.i {B : Pos -> Prop} {ob : T C} {k : IntKind} {n m : Int} (h : n = m) : Fz B ob (.i k n) (.i k m) := by rw [h]; exact .pu trivial
section
variable {P : Program} {nt : Nat}
theorem XOk.shrink {c : Code} {x Z Z' : X} {e : Ex} (h : XOk P nt c x e Z) (S : Shr Z Z') (hx : x.nx.nat <= Z'.nx.nat) : XOk P nt c x e Z' := by
 have hl : x.lg = none := h.lg.none.2 S.l
 refine ⟨by rw [hl, S.l']; exact LgLe.refl _, hx, fun id hn => ?_, fun so hs ro γ a w hn g R n Q hQ => ?_⟩
 ·rw [S.l'] at hn; exact absurd trivial hn
 have hall : ∀ id, so id := fun id => hs id (by rw [S.l']; trivial)
 refine h.ok so (fun id _ => hall id) ro γ a w hn g R n Q fun γ1 a1 w1 cst rep => ?_
 have hzero : ∀ id, Z'.nx.nat <= id.nat -> γ.cur id = 0 := fun id hid => R.nx id (hall id) (Nat.le_trans hx hid)
 let γ2 : Gh := ⟨fun id => if id.nat < Z'.nx.nat then γ1.cur id else 0, γ1.β, fun b => γ1.im b \/ ((∃ id st, Z'.nx.nat <= id.nat /\ st < γ1.cur id /\ (γ1.β id st).1 = b) /\ ∃ vs e fr, w1.heap[b]? = some (.cells vs e fr))⟩
 have c2 : ∀ id, id.nat < Z'.nx.nat -> γ2.cur id = γ1.cur id := fun id hid => by show (if _ then _ else _) = _; rw [if_pos hid]
 have c2' : ∀ id, ¬ id.nat < Z'.nx.nat -> γ2.cur id = 0 := fun id hid => by show (if _ then _ else _) = _; rw [if_neg hid]
 have lt2 : ∀ id st, st < γ2.cur id -> id.nat < Z'.nx.nat /\ st < γ1.cur id := fun id st hst => by
  by_cases hid : id.nat < Z'.nx.nat
  ·rw [c2 id hid] at hst; exact ⟨hid, hst⟩
  ·rw [c2' id hid] at hst; exact absurd hst (Nat.not_lt_zero _)
 have hob1 : ∀ id c, Z.ob.get id = some c -> HoldsO P γ1 w1 id c := fun id c hc => rep.ob id c (hall id) hc
 have fz : ∀ d d', Fz (fun id => id.nat < Z'.nx.nat) Z.ob d d' -> ∀ v, DV γ1 w1 d v -> DV γ2 w1 d' v := fun d d' hf =>
  Fz.ok (γ := γ1) (γ' := γ2) (fun b hb => .inl hb) hob1 (fun id hid => ⟨c2 id hid, rfl⟩) (fun id st vs e fr hid hst hc => .inr ⟨⟨id, st, Nat.not_lt.1 hid, hst, rfl⟩, vs, e, fr, hc⟩) hf
 have F := cst.fr
 have fresh : ∀ id st, Z'.nx.nat <= id.nat -> st < γ1.cur id -> w.heap.size <= (γ1.β id st).1 := fun id st hid hst => by
  rcases F.new id st (by rw [hzero id hid]; exact Nat.zero_le _) hst with h | ⟨fZ, h, _⟩
  ·exact h
  ·rw [hzero id hid] at h; exact absurd h (Nat.not_lt_zero _)
 have G2 : G ro γ2 a1 w1 := by
  refine ⟨fun id st hst => cst.g.ob id st (lt2 id st hst).2, fun id st id' st' hst hst' he => cst.g.inj id st id' st' (lt2 id st hst).2 (lt2 id' st' hst').2 he, ?_, cst.g.rd, fun b hb => ?_, cst.g.gl.im fun _ h => .inl h⟩
  ·obtain ⟨ms, d1, d2, d3⟩ := cst.g.df
   exact ⟨ms, d1, d2, fun r hr => ⟨(d3 r hr).1, fun id st hst => (d3 r hr).2 id st (lt2 id st hst).2⟩⟩
  ·rcases hb with hb | ⟨⟨id', st', h1, h2, h3⟩, h4⟩
   ·exact ⟨(cst.g.im b hb).1, fun id st hst => (cst.g.im b hb).2 id st (lt2 id st hst).2⟩
   ·refine ⟨h4, fun id st hst e => ?_⟩
    obtain ⟨k1, k2⟩ := lt2 id st hst
    have e : (γ1.β id st).1 = b := e
    obtain ⟨rfl, _⟩ := cst.g.inj id st id' st' k2 h2 (e.trans h3.symm)
    omega
 have hw : ∀ {id : Pos}, wrtn Z'.lg id := fun {id} => by rw [S.l']; trivial
 have hwZ : ∀ {id : Pos}, wrtn Z.lg id := fun {id} => by rw [S.l]; trivial
 refine hQ γ2 a1 w1 ⟨G2, ⟨⟨fun id => ?_, fun id st hst => F.up.β id st hst, F.up.sh, fun b hb => ⟨.inl (F.up.im b hb).1, (F.up.im b hb).2⟩⟩, fun id hn => absurd hw hn, fun b hb hn => F.blk b hb fun id st _ hst => hn id st hw hst, fun id st h1 h2 => F.new id st h1 (lt2 id st h2).2, fun b hb hlt => ?_, F.lp, F.size, F.os, F.tape, F.output, F.fz⟩, cst.sz, cst.dn⟩
  ⟨fun s d' _ hd => ?_, fun id c' _ hc => ?_, fun id _ hle => c2' id (by omega), cst.g.gl.im fun _ h => .inl h⟩
 ·by_cases hid : id.nat < Z'.nx.nat
  ·rw [c2 id hid]; exact F.up.cur id
  ·rw [hzero id (Nat.not_lt.1 hid)]; exact Nat.zero_le _
 ·rcases hb with hb | ⟨⟨id', st', h1, h2, h3⟩, h4⟩
  ·exact F.imn b hb hlt
  ·have := fresh id' st' h1 h2
   omega
 ·obtain ⟨d, h1, h2⟩ := S.sl s d' hd
  obtain ⟨h3, h4⟩ := rep.sl s d trivial h1
  exact ⟨h3, fz d d' h2 _ h4⟩
 ·obtain ⟨hid, c, h1, h2⟩ := S.ob id c' hc
  have H := hob1 id c h1
  cases h2 with
  | cells hcc =>
    obtain ⟨q0, q1, q2⟩ := H
    refine ⟨q0, (c2 id hid).trans q1, fun st hst => ?_⟩
    obtain ⟨vs, e, fr, q3, q4, q5⟩ := q2 st hst
    refine ⟨vs, e, fr, q3, q4, fun p c' hp hh hd => ?_⟩
    obtain ⟨c, k1, k2, k3⟩ := hcc p c' hp
    obtain ⟨u, k4, k5, k6⟩ := q5 p c k1 (k2 st hh) hd
    exact ⟨u, k4, fz _ _ k3 u k5, k6⟩
  | map hl hm =>
    obtain ⟨q1, en, cl, q2, q3, q4⟩ := H
    refine ⟨(c2 id hid).trans q1, en, cl, q2, by rw [<- hl]; exact q3, fun i e' f he' hf => ?_⟩
    rename_i es es'
    have hi : i < es.length := by rw [hl]; exact (List.getElem?_eq_some_iff.1 he').1
    obtain ⟨k1, k2⟩ := hm i _ e' (List.getElem?_eq_getElem hi) he'
    obtain ⟨k3, k4⟩ := q4 i _ f (List.getElem?_eq_getElem hi) hf
    exact ⟨fz _ _ k1 _ k3, fz _ _ k2 _ k4⟩
  | lp hsl =>
    obtain ⟨q1, l, q2, q3, q4, q5, q6⟩ := H
    refine ⟨(c2 id hid).trans q1, l, q2, q3, q4, fun s d' hs => ?_, q6⟩
    obtain ⟨d, k1, k2⟩ := hsl s d' hs
    exact ⟨(q5 s d k1).1, fz _ _ k2 _ (q5 s d k1).2⟩
  | hole => exact (c2 id hid).trans H
theorem Rn.shrink {rc : RC} {x : X} {K K' : Ex -> X -> Prop} (h : Rn P nt rc x K) (k : ∀ e z, K e z -> ∃ z', Shr z z' /\ x.nx.nat <= z'.nx.nat /\ K' e z') : Rn P nt rc x K' :=
 ⟨fun c hc => by
  obtain ⟨e, z, h1, h2⟩ := h.ok c hc
  obtain ⟨z', h3, h4, h5⟩ := k e z h2
  exact ⟨e, z', h1.shrink h3 h4, h5⟩⟩
structure Again {σ : Type} (S : σ -> X) (I : σ -> Prop) (μ : σ -> Nat) (s : σ) (z : X) : Prop where
 ok : ∃ s', μ s' < μ s /\ I s' /\ (S s).nx.nat <= (S s').nx.nat /\ Shr z (S s')
theorem Again.to {σ : Type} {S : σ -> X} {I : σ -> Prop} {μ : σ -> Nat} {s : σ} {z : X} (s' : σ) (h : μ s' < μ s) (i : I s') (n : (S s).nx.nat <= (S s').nx.nat) (l : Shr z (S s')) : Again S I μ s z := ⟨s', h, i, n, l⟩
def JI {σ : Type} (S : σ -> X) (I : σ -> Prop) (μ : σ -> Nat) (s : σ) (K : Ex -> X -> Prop) (e : Ex) (z : X) : Prop :=
 match e with
 | .normal => Again S I μ s z
 | .ret => K .ret z
 | .exit i => K (.exit i) z
theorem Rn.loop {a : RC} {x : X} {K : Ex -> X -> Prop} {σ : Type} (S : σ -> X) (I : σ -> Prop) (μ : σ -> Nat) (s0 : σ) (h0 : X.le (S s0) x) (i0 : I s0)
 (hb : ∀ s, I s -> Rn P nt a (S s) (JI S I μ s K)) : Rn P nt (.loop a) x K := Rn.of_bare fun c hc hs => by
 refine other hc hs (fun e => by cases e) (fun _ e => by cases e) (fun j _ e => by cases e) (fun i ops _ e => by cases e) (fun i ops _ e => by cases e) (fun _ _ _ e => by cases e) (fun _ _ _ _ _ _ e => by cases e) (fun _ _ _ e => by cases e) (fun a' e e' => ?_) (fun _ _ _ _ _ _ _ _ _ e => by cases e) (fun e => by cases e)
 cases e'
 subst e
 have key : ∀ n s, μ s = n -> I s -> ∃ e Z, XRounds P nt a' (S s) e Z /\ K e Z := by
  intro n
  induction n using Nat.strongRecOn with
  | _ n ih =>
    intro s hs hi
    obtain ⟨e, z, h1, h2⟩ := (hb s hi).ok a' rfl
    cases e with
    | normal =>
      obtain ⟨s', h3, h4, h5, h6⟩ := Again.ok h2
      obtain ⟨e, Z, h7, h8⟩ := ih (μ s') (by omega) s' rfl h4
      exact ⟨e, Z, .more (h1.shrink h6 h5) h7, h8⟩
    | ret => exact ⟨.ret, z, .last h1 (fun e => by cases e), h2⟩
    | exit i => exact ⟨.exit i, z, .last h1 (fun e => by cases e), h2⟩
 obtain ⟨e, Z, h1, h2⟩ := key _ s0 rfl i0
 exact ⟨e, Z, (XOk.loop h1).le h0, h2⟩
def Rel {α : Type} (R : Pos -> α -> α -> Prop) (g : Pos -> Pos) (a b : T α) : Prop := ∀ p x, a.get p = some x -> ∃ y, b.get p = some y /\ R (g p) y x
theorem Rel.e {α : Type} {R : Pos -> α -> α -> Prop} {g : Pos -> Pos} {b : T α} : Rel R g .e b := fun p x h => by rw [T.get_e] at h; cases h
theorem Rel.none {α : Type} {R : Pos -> α -> α -> Prop} {g : Pos -> Pos} {l r l' r' : T α} {v' : Option α} (hl : Rel R (fun p => g (.o p)) l l') (hr : Rel R (fun p => g (.i p)) r r') : Rel R g (.n l none r) (.n l' v' r')
 | .h, x, h => by rw [T.get_h] at h; cases h
 | .o p, x, h => hl p x h
 | .i p, x, h => hr p x h
theorem Rel.some {α : Type} {R : Pos -> α -> α -> Prop} {g : Pos -> Pos} {l r l' r' : T α} {v v' : α} (hl : Rel R (fun p => g (.o p)) l l') (hv : R (g .h) v' v) (hr : Rel R (fun p => g (.i p)) r r') : Rel R g (.n l (some v) r) (.n l' (some v') r')
 | .h, x, h => by rw [T.get_h] at h; cases h; exact ⟨v', T.get_h _ _ _, hv⟩
 | .o p, x, h => hl p x h
 | .i p, x, h => hr p x h
def RS (B : Pos -> Prop) (ob : T C) (_ : Pos) (d d' : D) : Prop := Fz B ob d d'
def RO' (n : Nat) (ob : T C) (id : Pos) (c c' : C) : Prop := id.nat < n /\ ShC (fun id => id.nat < n) ob c c'
theorem RO'.of {n : Nat} {ob : T C} {id : Pos} {c c' : C} (h : id.nat < n) (k : ShC (fun id => id.nat < n) ob c c') : RO' n ob id c c' := ⟨h, k⟩
theorem Shr.of {z z' : X} (hs : Rel (RS (fun id => id.nat < z'.nx.nat) z.ob) (fun p => p) z'.sl z.sl) (ho : Rel (RO' z'.nx.nat z.ob) (fun p => p) z'.ob z.ob) (l : z.lg = none) (l' : z'.lg = none) : Shr z z' :=
 ⟨fun s d h => let ⟨d', h1, h2⟩ := hs s d h; ⟨d', h1, h2⟩, fun id c h => let ⟨c', h1, h2⟩ := ho id c h; ⟨h2.1, c', h1, h2.2⟩, l, l'⟩
theorem ShC.same {B : Pos -> Prop} {ob : T C} {ro : Bool} {cs : List Cell} {cur : Nat} (h : ∀ c ∈ cs, Fz B ob c.d c.d) : ShC B ob (.cells ro cs cur) (.cells ro cs cur) :=
 .cells fun k c' hc => ⟨c', hc, fun _ h => h, h c' (List.mem_of_getElem? hc)⟩
theorem ShC.nl {B : Pos -> Prop} {ob : T C} : ∀ c ∈ ([] : List Cell), Fz B ob c.d c.d := fun c h => by cases h
theorem ShC.cn {B : Pos -> Prop} {ob : T C} {c : Cell} {cs : List Cell} (h : Fz B ob c.d c.d) (k : ∀ c ∈ cs, Fz B ob c.d c.d) : ∀ c' ∈ c :: cs, Fz B ob c'.d c'.d := fun c' hc => by
 rcases List.mem_cons.1 hc with rfl | hc
 ·exact h
 ·exact k c' hc
inductive All2 {α β : Type} (R : α -> β -> Prop) : List α -> List β -> Prop where
 | nil : All2 R [] []
 | cons {a : α} {b : β} {l : List α} {m : List β} (h : R a b) (k : All2 R l m) : All2 R (a :: l) (b :: m)
theorem ShC.of {B : Pos -> Prop} {ob : T C} {ro : Bool} {cs cs' : List Cell} {cur : Nat} (h : All2 (fun c c' : Cell => (∀ st, c'.has st = true -> c.has st = true) /\ Fz B ob c.d c'.d) cs cs') : ShC B ob (.cells ro cs cur) (.cells ro cs' cur) :=
 .cells fun k c' hc => by
  induction h generalizing k with
  | nil => simp at hc
  | cons h _ ih =>
    cases k with
    | zero => simp at hc; subst hc; exact ⟨_, rfl, h⟩
    | succ k => exact ih k (by simpa using hc)
end
theorem Fy {B : Pos -> Prop} {ob : T C} {d e : D} (h : Fz B ob d e := by first | exact .pu trivial | exact .kpt (Ql rfl) | exact .ksl (Ql rfl) | exact .kmp (Ql rfl)) : Fz B ob d e := h
theorem Ro {n : Nat} {ob : T C} {id : Pos} {c c' : C} (k : ShC (fun id => id.nat < n) ob c c') (h : id.nat < n := by exact Ql rfl) : RO' n ob id c c' := ⟨h, k⟩
theorem WB.dec {p : Prop} [Decidable p] {F : Bool -> Prop} (h1 : p -> F true) (h0 : ¬ p -> F false) : WB (decide p) F := ⟨fun h => h1 (of_decide_eq_true h), fun h => h0 (of_decide_eq_false h)⟩
theorem WB.ndec {p : Prop} [Decidable p] {F : Bool -> Prop} (h1 : ¬ p -> F true) (h0 : p -> F false) : WB (!decide p) F := ⟨fun h => h1 (by simpa using h), fun h => h0 (by simpa using h)⟩
section
variable {sl : T D} {ob : T C} {nx : Pos} {p q : Pos}
theorem Fin.t {u v : D} {e : Ex} (he : e = .normal \/ e = .ret) (hg : sl.get p = some u) (hz : Frz ob u v) : Fin [.t p] v e ⟨sl, ob, nx, none⟩ :=
 ⟨he, u, by simp only [results, hg]; rfl, hz⟩
theorem Fin.b {t t' : Bool} (hg : sl.get p = some (.b t)) (h : t = t') : Fin [.t p] (.b t') .ret ⟨sl, ob, nx, none⟩ := Fin.t (.inr rfl) hg (by rw [h]; exact .pu trivial)
theorem Fin.i {k : IntKind} {n m : Int} (hg : sl.get p = some (.i k n)) (h : n = m) : Fin [.t p] (.i k m) .ret ⟨sl, ob, nx, none⟩ := Fin.t (.inr rfl) hg (by rw [h]; exact .pu trivial)
theorem Fin.two {u u' v v' : D} {e : Ex} (he : e = .normal \/ e = .ret) (hg : sl.get p = some u) (hg' : sl.get q = some u') (hz : Frz ob u v) (hz' : Frz ob u' v') : Fin [.t p, .t q] (.tp [v, v']) e ⟨sl, ob, nx, none⟩ :=
 ⟨he, .tp [u, u'], by simp only [results, hg, hg']; rfl, .tp (.cons hz (.cons hz' .nil))⟩
end
mutual
def hO : D -> Prop
 | .b _ => True
 | .i _ _ => True
 | .ag cs => vR cs
 | .tp cs => vR cs
 | _ => False
def vR : List D -> Prop
 | [] => True
 | d :: ds => hO d /\ vR ds
end
mutual
theorem DV.flat {γ γ' : Gh} {w w' : World} : ∀ (d : D) (v : Value), hO d -> DV γ w d v -> DV γ' w' d v
 | .b _, _, _, H => by unfold DV at *; exact H
 | .i _ _, _, _, H => by unfold DV at *; exact H
 | .ag cs, _, p, H => by
   unfold hO at p
   unfold DV at *
   obtain ⟨vs, h1, h2, h3⟩ := H
   exact ⟨vs, h1, DVL.flat cs _ p h2, h3⟩
 | .tp cs, _, p, H => by
   unfold hO at p
   unfold DV at *
   obtain ⟨vs, h1, h2⟩ := H
   exact ⟨vs, h1, DVL.flat cs _ p h2⟩
 | .any, _, p, _ => by unfold hO at p; exact p.elim
 | .s _, _, p, _ => by unfold hO at p; exact p.elim
 | .np, _, p, _ => by unfold hO at p; exact p.elim
 | .nf, _, p, _ => by unfold hO at p; exact p.elim
 | .ni, _, p, _ => by unfold hO at p; exact p.elim
 | .nm, _, p, _ => by unfold hO at p; exact p.elim
 | .ns, _, p, _ => by unfold hO at p; exact p.elim
 | .em, _, p, _ => by unfold hO at p; exact p.elim
 | .pt _ _ _, _, p, _ => by unfold hO at p; exact p.elim
 | .sl _ _ _ _ _, _, p, _ => by unfold hO at p; exact p.elim
 | .mp _, _, p, _ => by unfold hO at p; exact p.elim
 | .yl _, _, p, _ => by unfold hO at p; exact p.elim
 | .fn _ _ _, _, p, _ => by unfold hO at p; exact p.elim
 | .ifc _ _, _, p, _ => by unfold hO at p; exact p.elim
 | .lst _ _, _, p, _ => by unfold hO at p; exact p.elim
 | .pl _ _, _, p, _ => by unfold hO at p; exact p.elim
theorem DVL.flat {γ γ' : Gh} {w w' : World} : ∀ (ds : List D) (vs : List Value), vR ds -> DVL γ w ds vs -> DVL γ' w' ds vs
 | [], _, _, H => by unfold DVL at *; exact H
 | d :: ds, _, p, H => by
   unfold vR at p
   unfold DVL at *
   obtain ⟨v, r, h1, h2, h3⟩ := H
   exact ⟨v, r, h1, DV.flat d v p.1 h2, DVL.flat ds r p.2 h3⟩
end
def ints (l : List Int) : List (List D) := l.map fun n => [D.i .i64 n]
theorem aI (l : List Int) : (ints l).length = l.length := by simp [ints]
theorem aC (l : List Int) : cG (ints l) := qA.2 fun r hr => by
 obtain ⟨n, _, rfl⟩ := List.mem_map.1 hr
 simp [aN, Pu]
theorem WIx.ints {l : List Int} {n : Int} {F : List D -> Prop} (h0 : 0 <= n) (h1 : n < l.length) (h : F [D.i .i64 (l.getD n.toNat 0)]) : WIx (ints l) n F := WIx.map (f := fun n => [D.i .i64 n]) h0 h1 h
theorem WIx.at {es : List (List D)} {j : Nat} {r : List D} {F : List D -> Prop} (h : es[j]? = some r) (k : F r) : WIx es (j : Int) F := ⟨_, Int.natCast_nonneg j, by rw [Int.toNat_natCast]; exact h, k⟩
theorem WIx.intsN {l : List Int} {j : Nat} {F : List D -> Prop} (h : j < l.length) (k : F [D.i .i64 (l.getD j 0)]) : WIx (Go.Ev.ints l) (j : Int) F :=
 WIx.at (r := [D.i .i64 (l.getD j 0)]) (by simp [Go.Ev.ints, List.getD, h]) k
def aO {α : Type} (f : α -> List D) (l : List α) : List (List D) := l.map f
theorem aL {α : Type} (f : α -> List D) (l : List α) : (aO f l).length = l.length := by simp [aO]
theorem fP {α : Type} {f : α -> List D} (h : ∀ a, aN (f a)) (l : List α) : cG (aO f l) := qA.2 fun r hr => by
 obtain ⟨n, _, rfl⟩ := List.mem_map.1 hr
 exact h n
theorem WIx.rowsN {α : Type} [Inhabited α] {f : α -> List D} {l : List α} {j : Nat} {F : List D -> Prop} (h : j < l.length) (k : F (f (l.getD j default))) : WIx (aO f l) (j : Int) F :=
 WIx.at (r := f (l.getD j default)) (by simp [aO, List.getD, h]) k
theorem bA {α : Type} {l : List α} {k : Nat} {d : α} (h : k < l.length) : l.getD k d ∈ l := by
 simp [List.getD, h]
theorem bP {α : Type} {l : List α} {p : α -> Bool} {i : Nat} {d : α} (h : i < l.length) (h1 : (l.take i).all p = true) (h2 : p (l.getD i d) = true) : (l.take (i + 1)).all p = true := by
 rw [List.take_succ_eq_append_getElem h, List.all_append, h1]
 simp [List.getD, h] at h2 ⊢
 exact h2
theorem fS {α : Type} {l : List α} {p : α -> Bool} {i : Nat} {d : α} (h : i < l.length) (h2 : p (l.getD i d) = false) : l.all p = false := by
 rw [List.all_eq_false]
 exact ⟨l.getD i d, bA h, by rw [h2]; simp⟩
theorem gC {α : Type} {l : List α} {p : α -> Bool} {i : Nat} (h : l.length <= i) (h1 : (l.take i).all p = true) : l.all p = true := by
 rw [List.take_of_length_le h] at h1
 exact h1
section
variable {sl : T D} {ob : T C} {nx : Pos} {K : X -> Prop}
theorem Frz.whole {id : Pos} {z st : Nat} {cs : List Cell} {cur : Nat} {es : List (List D)} {n : Nat} (h : ob.get id = some (.cells false cs cur)) (hn : n = es.length) (hz : ∀ r ∈ es, r.length = z) (hc : cs = es.flatten.map fun d => Cell.o d st) (hp : cG es) : Frz ob (.sl id 0 n st z) (.lst z es) := by
 subst hc
 refine .sl (fun h => h) h hn.symm hz (fun k d hk => ⟨.o d st, ?_, ?_, rfl⟩) (FzE.of hp)
 ·rw [List.drop_zero, List.getElem?_map, hk]; rfl
 ·show Nat.ble st st = true
  exact Nat.ble_eq_true_of_le (Nat.le_refl _)
theorem oB {β : Type} {st : Nat} {new : List D} : ∀ (ds : List D) (cur : Nat) (k : List Cell -> Option β), cur = st + 1 -> lW st cur new ds.length (ds.map fun d => Cell.o d st) k = k ((ds ++ []).map (fun d => Cell.o d st) ++ new.map fun d => Cell.o d cur)
 | [], cur, k, h => by
   show mA (Nat.pred cur) (dB (List.length new) []) (fun l => iV (fun d => .o d cur) new l k) = _
   rw [bK, jE, fX]
   simp
 | d :: ds, cur, k, h => by
   have hb : Nat.ble st st = true := Nat.ble_eq_true_of_le (Nat.le_refl _)
   show (bif Nat.ble st st then lW st cur new ds.length (ds.map fun d => Cell.o d st) (fun l => k (.o d st :: l)) else none) = _
   rw [hb]
   simp only [cond_true]
   rw [oB ds cur _ h]
   simp
theorem WSt.app_one {d id idy : Pos} {z st len len' cur curY : Nat} {roY : Bool} {x y : RX} {ds r : List D} {csY : List Cell} {ob2 : T C} (hx : bC sl x = some (.sl id 0 len st z)) (hy : bC sl y = some (.sl idy 0 1 0 z)) (hoy : ob.get idy = some (.cells roY csY curY)) (hcy : csY = r.map fun d => Cell.o d 0) (hr : r.length = z) (hox : ob.get id = some (.cells false (ds.map fun d => Cell.o d st) cur)) (hds : ds.length = len * z) (hcur : cur = st + 1) (hlen : len' = len + 1) (hmax : len < 2147483648)
 (hob2 : T.set id (.cells false ((ds.map fun d => Cell.o d st) ++ r.map fun d => Cell.o d cur) (cur + 1)) ob = ob2) (h : dG sl ob2 nx none d K (.sl id 0 len' cur z)) : WSt (.app d z x y) ⟨sl, ob, nx, none⟩ K := by
 obtain ⟨h2, h3⟩ := aT h
 refine ⟨_, ?_, h3⟩
 show dP d z x y sl ob nx none = _
 unfold dP
 rw [hx, hy]
 subst hcy hr hlen hob2
 have hb : Nat.beq r.length r.length = true := Nat.beq_refl _
 have hrd : dV (β := X) 0 (Nat.mul 1 r.length) (dB 0 (r.map fun d => Cell.o d 0)) = fun k => k r := by
  rw [bK, List.drop_zero, show Nat.mul 1 r.length = r.length from Nat.one_mul _]
  have key : ∀ (l : List D) (k : List D -> Option X), dV 0 l.length (l.map fun d => Cell.o d 0) k = k l := by
   intro l
   induction l with
   | nil => exact fun k => rfl
   | cons a l ih => exact fun k => ih fun ds => k (a :: ds)
  exact funext fun k => key r k
 simp only [pI, hb, cond_true, hoy, hrd, rK, gH]
 simp only [hox]
 have hidx : Nat.add 0 (Nat.mul len r.length) = ds.length := by rw [hds]; exact Nat.zero_add _
 rw [hidx, oB ds cur _ hcur]
 simp only [List.append_nil, bB, eP, rQ, T.setK_eq]
 have e1 : Nat.add len (Nat.succ 0) = len + 1 := rfl
 rw [e1, Nat.ble_eq_true_of_le (show len + 1 <= 2147483648 from hmax)]
 exact h2
theorem WSt.app_first {d idy : Pos} {z curY : Nat} {roY : Bool} {x y : RX} {a : D} {r : List D} {csY : List Cell} (hx : bC sl x = some a) (ha : a = .ns \/ a = .em) (hy : bC sl y = some (.sl idy 0 1 0 z)) (hoy : ob.get idy = some (.cells roY csY curY)) (hcy : csY = r.map fun d => Cell.o d 0) (hr : r.length = z)
 (h : T.setK nx (.cells false (r.map fun d => Cell.o d 0) 1) ob fun ob => Pos.succK nx fun nx' => dG sl ob nx' none d K (.sl nx 0 1 0 z)) : WSt (.app d z x y) ⟨sl, ob, nx, none⟩ K := by
 rw [T.setK_eq, Pos.succK_eq] at h
 obtain ⟨h2, h3⟩ := aT h
 refine ⟨_, ?_, h3⟩
 show dP d z x y sl ob nx none = _
 unfold dP
 rw [hx, hy]
 subst hcy hr
 have hb : Nat.beq r.length r.length = true := Nat.beq_refl _
 have hrd : dV (β := X) 0 (Nat.mul 1 r.length) (dB 0 (r.map fun d => Cell.o d 0)) = fun k => k r := by
  rw [bK, List.drop_zero, show Nat.mul 1 r.length = r.length from Nat.one_mul _]
  have key : ∀ (l : List D) (k : List D -> Option X), dV 0 l.length (l.map fun d => Cell.o d 0) k = k l := by
   intro l
   induction l with
   | nil => exact fun k => rfl
   | cons a l ih => exact fun k => ih fun ds => k (a :: ds)
  exact funext fun k => key r k
 simp only [pI, hb, cond_true, hoy, hrd, rK, gH]
 have hle : Nat.ble (Nat.succ 0) 2147483648 = true := rfl
 rcases ha with rfl | rfl <;> simp only [hle, cond_true, gQ, eK, rQ, T.setK_eq, Pos.succK_eq] <;> exact h2
end
theorem ShC.grown {B : Pos -> Prop} {ob : T C} {ds r : List D} {st cur c : Nat} (h : st <= cur) (hp : aN (ds ++ r)) : ShC B ob (.cells false ((ds.map fun d => Cell.o d st) ++ r.map fun d => Cell.o d cur) c) (.cells false ((ds ++ r).map fun d => Cell.o d cur) c) := by
 refine .cells fun k c' hc => ?_
 rw [List.getElem?_map] at hc
 cases hd : (ds ++ r)[k]? with
 | none => rw [hd] at hc; cases hc
 | some d =>
   rw [hd] at hc
   cases hc
   have hpd : Pu d := aS.1 hp d (List.mem_of_getElem? hd)
   by_cases hlt : k < ds.length
   ·rw [List.getElem?_append_left hlt] at hd
    refine ⟨.o d st, by rw [List.getElem?_append_left (by simpa using hlt), List.getElem?_map, hd]; rfl, fun s hs => ?_, .pu hpd⟩
    have hs : Nat.ble cur s = true := hs
    exact Nat.ble_eq_true_of_le (Nat.le_trans h (Nat.le_of_ble_eq_true hs))
   ·rw [List.getElem?_append_right (by omega)] at hd
    refine ⟨.o d cur, by rw [List.getElem?_append_right (by simp; omega), List.getElem?_map, List.length_map, hd]; rfl, fun s hs => hs, .pu hpd⟩
theorem mP (l : List Int) : (ints l).flatten = l.map fun n => D.i .i64 n := by
 unfold ints
 induction l with
 | nil => rfl
 | cons a l ih => simp at ih ⊢; exact ih
theorem Be (l : List Int) : aN (l.map fun n => D.i .i64 n) := aS.2 fun d hd => by
 obtain ⟨n, _, rfl⟩ := List.mem_map.1 hd
 exact trivial
theorem rS {α : Type} {l : List α} {j : Nat} {d : α} (h : j < l.length) : l.take (j + 1) = l.take j ++ [l.getD j d] := by
 rw [List.take_succ_eq_append_getElem h]; simp [List.getD, h]
def Pd (P : Program) (nt : Nat) : RC -> X -> (Ex -> X -> Prop) -> Prop
 | .seq a b, x, K => Rn P nt a x (LW P nt b K)
 | .reg l, x, K => wL P (K .normal) l x
 | .drw l ms, x, K => wD P (K .normal) l ms 0 [] x
 | .blk i a, x, K => Rn P nt a x (JF i K)
 | .skip, x, K => K .normal x
 | .ret, x, K => K .ret x
 | .exit i, x, K => K (.exit i) x
 | .cond _ _ _, _, _ => False
 | .loop _, _, _ => False
 | .rf _ _ _ _ _, _, _ => False
def Ph : RC -> Bool
 | .cond _ _ _ => false
 | .loop _ => false
 | .rf _ _ _ _ _ => false
 | _ => true
theorem Qa {P : Program} {nt : Nat} {rc : RC} {x : X} {K : Ex -> X -> Prop} (_ : Ph rc = true) (h : Pd P nt rc x K) : Rn P nt rc x K :=
 match rc, h with
 | .seq _ _, h => Rn.seq h
 | .reg _, h => Rn.reg h
 | .drw _ _, h => Rn.drw h
 | .blk _ _, h => Rn.blk h
 | .skip, h => Rn.skip h
 | .ret, h => Rn.ret h
 | .exit _, h => Rn.exit h
theorem Qb {n : Int} {p : Prop} (k : p) (h1 : -9223372036854775808 <= n := by omega) (h2 : n <= 9223372036854775807 := by omega) : InR .i64 n /\ p := ⟨InR.i64 h1 h2, k⟩
theorem Qc {n : Int} {p : Prop} (k : p) (h : n ≠ 0 := by omega) : n ≠ 0 /\ p := ⟨h, k⟩
theorem Qi {l : List Int} {j : Nat} {F : List D -> Prop} (k : F [D.i .i64 (l.getD j 0)]) (h : j < l.length := by omega) : WIx (Go.Ev.ints l) (j : Int) F := WIx.intsN h k
theorem Qj {α : Type} [Inhabited α] {f : α -> List D} {l : List α} {j : Nat} {F : List D -> Prop} (k : F (f (l.getD j default))) (h : j < l.length := by omega) : WIx (aO f l) (j : Int) F := WIx.rowsN h k
theorem Qf {P : Program} {f : Nat} {ds : List D} {d : Option Pos} {x : X} {K : X -> Prop} {v : D} (h : PureF P f ds v) (k : X.casesOn x fun sl ob nx lg => nL sl ob nx lg d K v) : WCall P f ds d x K := WCall.pure h k
theorem Qk {P : Program} {nt : Nat} {r : RX} {a b : RC} {t : Bool} {x : X} {K : Ex -> X -> Prop} (hv : bC x.sl r = some (.b t)) (h : WB t fun t => Rn P nt (bif t then a else b) x K) : Rn P nt (.cond r a b) x K := Rn.cond hv h
theorem Qt {F : Bool -> Prop} (h : F true) : WB true F := WB.tt h
theorem Qu {F : Bool -> Prop} (h : F false) : WB false F := WB.ff h
theorem Oi {n : Int} {p : Prop} (h1 : -9223372036854775808 <= n) (h2 : n <= 9223372036854775807) (k : p) : InR .i64 n /\ p := ⟨InR.i64 h1 h2, k⟩
theorem NB {n : Int} {p : Prop} (h : n ≠ 0) (k : p) : n ≠ 0 /\ p := ⟨h, k⟩
theorem Qz {p q : Prop} (k : q) (h : q -> p := by first | with_reducible (first | exact WB.tt | exact WB.ff) | exact Qa rfl | exact Rn.cond rfl | exact Oi (by omega) (by omega) | exact NB (by omega) | exact WIx.intsN (by omega) | exact WIx.rowsN (by omega)) : p := h k
def Im (q p : Prop) : Prop := q -> p
theorem Im.st {p q r : Prop} (h : r -> p) (k : Im q r) : Im q p := fun a => h (k a)
theorem Im.rf {p : Prop} : Im p p := fun h => h
theorem Qg {p q : Prop} (k : q) (h : Im q p := by (repeat' (apply Im.st; (· first | with_reducible (first | exact WB.tt | exact WB.ff) | exact Qa rfl | exact Rn.cond rfl | exact Oi (by omega) (by omega) | exact NB (by omega) | exact WIx.intsN (by omega) | exact WIx.rowsN (by omega)); (conv => arg 2; whnf))); exact Im.rf) : p := h k
theorem Ql {a b : Nat} (h : Nat.blt a b = true) : a < b := by simpa using h
end Go.Ev
end
