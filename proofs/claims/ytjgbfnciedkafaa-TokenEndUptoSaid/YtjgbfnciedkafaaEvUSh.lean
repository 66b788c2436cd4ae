import Derived.Test.YtjgbfnciedkafaaEvUWp
set_option linter.all false
namespace Go.Ev
open Go.RowKit (Below Grown)

inductive ShC (B : Pos → Prop) (ob : T C) : C → C → Prop where
  | cells {ro : Bool} {cs cs' : List Cell} {cur : Nat} (h : ∀ (k : Nat) (c' : Cell), cs'[k]? = some c' → ∃ c : Cell, cs[k]? = some c ∧ (∀ st, c'.has st = true → c.has st = true) ∧ Fz B ob c.d c'.d) : ShC B ob (.cells ro cs cur) (.cells ro cs' cur)
  | map {es es' : List (D × D)} (hl : es.length = es'.length) (h : ∀ (k : Nat) e e', es[k]? = some e → es'[k]? = some e' → Fz B ob e.1 e'.1 ∧ Fz B ob e.2 e'.2) : ShC B ob (.map es) (.map es')
  | lp {sl sl' : T D} {ps : List Pos} {nt : Nat} {asg body : Code} {st : LS} {j : Option Ex} (h : ∀ s d', sl'.get s = some d' → ∃ d, sl.get s = some d ∧ Fz B ob d d') : ShC B ob (.lp sl ps nt asg body st j) (.lp sl' ps nt asg body st j)
  | hole : ShC B ob .hole .hole
structure Shr (z z' : X) : Prop where
  sl : ∀ s d', z'.sl.get s = some d' → ∃ d, z.sl.get s = some d ∧ Fz (fun id => id.nat < z'.nx.nat) z.ob d d'
  ob : ∀ id c', z'.ob.get id = some c' → id.nat < z'.nx.nat ∧ ∃ c, z.ob.get id = some c ∧ ShC (fun id => id.nat < z'.nx.nat) z.ob c c'
  l : z.lg = none
  l' : z'.lg = none

theorem Fz.i {B : Pos → Prop} {ob : T C} {k : IntKind} {n m : Int} (h : n = m) : Fz B ob (.i k n) (.i k m) := by rw [h]; exact .pu trivial
section
variable {P : Program} {nt : Nat}
theorem XOk.shrink {c : Code} {x Z Z' : X} {e : Ex} (h : XOk P nt c x e Z) (S : Shr Z Z') (hx : x.nx.nat ≤ Z'.nx.nat) : XOk P nt c x e Z' := by
  have hl : x.lg = none := h.lg.none.2 S.l
  refine ⟨by rw [hl, S.l']; exact LgLe.refl _, hx, fun id hn => ?_, fun so hs ro γ a w hn g R n Q hQ => ?_⟩
  · rw [S.l'] at hn; exact absurd trivial hn
  have hall : ∀ id, so id := fun id => hs id (by rw [S.l']; trivial)
  refine h.ok so (fun id _ => hall id) ro γ a w hn g R n Q fun γ1 a1 w1 cst rep => ?_
  have hzero : ∀ id, Z'.nx.nat ≤ id.nat → γ.cur id = 0 := fun id hid => R.nx id (hall id) (Nat.le_trans hx hid)
  let γ2 : Gh := ⟨fun id => if id.nat < Z'.nx.nat then γ1.cur id else 0, γ1.β, fun b => γ1.im b ∨ ((∃ id st, Z'.nx.nat ≤ id.nat ∧ st < γ1.cur id ∧ (γ1.β id st).1 = b) ∧ ∃ vs e fr, w1.heap[b]? = some (.cells vs e fr))⟩
  have c2 : ∀ id, id.nat < Z'.nx.nat → γ2.cur id = γ1.cur id := fun id hid => by show (if _ then _ else _) = _; rw [if_pos hid]
  have c2' : ∀ id, ¬ id.nat < Z'.nx.nat → γ2.cur id = 0 := fun id hid => by show (if _ then _ else _) = _; rw [if_neg hid]
  have lt2 : ∀ id st, st < γ2.cur id → id.nat < Z'.nx.nat ∧ st < γ1.cur id := fun id st hst => by
    by_cases hid : id.nat < Z'.nx.nat
    · rw [c2 id hid] at hst; exact ⟨hid, hst⟩
    · rw [c2' id hid] at hst; exact absurd hst (Nat.not_lt_zero _)
  have hob1 : ∀ id c, Z.ob.get id = some c → HoldsO P γ1 w1 id c := fun id c hc => rep.ob id c (hall id) hc
  have fz : ∀ d d', Fz (fun id => id.nat < Z'.nx.nat) Z.ob d d' → ∀ v, DV γ1 w1 d v → DV γ2 w1 d' v := fun d d' hf =>
    Fz.ok (γ := γ1) (γ' := γ2) (fun b hb => .inl hb) hob1 (fun id hid => ⟨c2 id hid, rfl⟩) (fun id st vs e fr hid hst hc => .inr ⟨⟨id, st, Nat.not_lt.1 hid, hst, rfl⟩, vs, e, fr, hc⟩) hf
  have F := cst.fr
  have fresh : ∀ id st, Z'.nx.nat ≤ id.nat → st < γ1.cur id → w.heap.size ≤ (γ1.β id st).1 := fun id st hid hst => by
    rcases F.new id st (by rw [hzero id hid]; exact Nat.zero_le _) hst with h | ⟨st0, h, _⟩
    · exact h
    · rw [hzero id hid] at h; exact absurd h (Nat.not_lt_zero _)
  have G2 : G ro γ2 a1 w1 := by
    refine ⟨fun id st hst => cst.g.ob id st (lt2 id st hst).2, fun id st id' st' hst hst' he => cst.g.inj id st id' st' (lt2 id st hst).2 (lt2 id' st' hst').2 he, ?_, cst.g.rd, fun b hb => ?_, cst.g.gl.im fun _ h => .inl h⟩
    · obtain ⟨ms, d1, d2, d3⟩ := cst.g.df
      exact ⟨ms, d1, d2, fun r hr => ⟨(d3 r hr).1, fun id st hst => (d3 r hr).2 id st (lt2 id st hst).2⟩⟩
    · rcases hb with hb | ⟨⟨id', st', h1, h2, h3⟩, h4⟩
      · exact ⟨(cst.g.im b hb).1, fun id st hst => (cst.g.im b hb).2 id st (lt2 id st hst).2⟩
      · refine ⟨h4, fun id st hst e => ?_⟩
        obtain ⟨k1, k2⟩ := lt2 id st hst
        have e : (γ1.β id st).1 = b := e
        obtain ⟨rfl, _⟩ := cst.g.inj id st id' st' k2 h2 (e.trans h3.symm)
        omega
  have hw : ∀ {id : Pos}, wrtn Z'.lg id := fun {id} => by rw [S.l']; trivial
  have hwZ : ∀ {id : Pos}, wrtn Z.lg id := fun {id} => by rw [S.l]; trivial
  refine hQ γ2 a1 w1 ⟨G2, ⟨⟨fun id => ?_, fun id st hst => F.up.β id st hst, F.up.sh, fun b hb => ⟨.inl (F.up.im b hb).1, (F.up.im b hb).2⟩⟩, fun id hn => absurd hw hn, fun b hb hn => F.blk b hb fun id st _ hst => hn id st hw hst, fun id st h1 h2 => F.new id st h1 (lt2 id st h2).2, fun b hb hlt => ?_, F.lp, F.size, F.os, F.tape, F.output, F.fz⟩, cst.sz, cst.dn⟩
    ⟨fun s d' _ hd => ?_, fun id c' _ hc => ?_, fun id _ hle => c2' id (by omega), cst.g.gl.im fun _ h => .inl h⟩
  · by_cases hid : id.nat < Z'.nx.nat
    · rw [c2 id hid]; exact F.up.cur id
    · rw [hzero id (Nat.not_lt.1 hid)]; exact Nat.zero_le _
  · rcases hb with hb | ⟨⟨id', st', h1, h2, h3⟩, h4⟩
    · exact F.imn b hb hlt
    · have := fresh id' st' h1 h2
      omega
  · obtain ⟨d, h1, h2⟩ := S.sl s d' hd
    obtain ⟨h3, h4⟩ := rep.sl s d trivial h1
    exact ⟨h3, fz d d' h2 _ h4⟩
  · obtain ⟨hid, c, h1, h2⟩ := S.ob id c' hc
    have H := hob1 id c h1
    cases h2 with
    | cells hcc =>
      obtain ⟨q0, q1, q2⟩ := H
      refine ⟨q0, (c2 id hid).trans q1, fun st hst => ?_⟩
      obtain ⟨vs, e, fr, q3, q4, q5⟩ := q2 st hst
      refine ⟨vs, e, fr, q3, q4, fun p c' hp hh hd => ?_⟩
      obtain ⟨c, k1, k2, k3⟩ := hcc p c' hp
      obtain ⟨u, k4, k5, k6⟩ := q5 p c k1 (k2 st hh) hd
      exact ⟨u, k4, fz _ _ k3 u k5, k6⟩
    | map hl hm =>
      obtain ⟨q1, en, cl, q2, q3, q4⟩ := H
      refine ⟨(c2 id hid).trans q1, en, cl, q2, by rw [← hl]; exact q3, fun i e' f he' hf => ?_⟩
      rename_i es es'
      have hi : i < es.length := by rw [hl]; exact (List.getElem?_eq_some_iff.1 he').1
      obtain ⟨k1, k2⟩ := hm i _ e' (List.getElem?_eq_getElem hi) he'
      obtain ⟨k3, k4⟩ := q4 i _ f (List.getElem?_eq_getElem hi) hf
      exact ⟨fz _ _ k1 _ k3, fz _ _ k2 _ k4⟩
    | lp hsl =>
      obtain ⟨q1, l, q2, q3, q4, q5, q6⟩ := H
      refine ⟨(c2 id hid).trans q1, l, q2, q3, q4, fun s d' hs => ?_, q6⟩
      obtain ⟨d, k1, k2⟩ := hsl s d' hs
      exact ⟨(q5 s d k1).1, fz _ _ k2 _ (q5 s d k1).2⟩
    | hole => exact (c2 id hid).trans H
theorem Rn.shrink {rc : RC} {x : X} {K K' : Ex → X → Prop} (h : Rn P nt rc x K) (k : ∀ e z, K e z → ∃ z', Shr z z' ∧ x.nx.nat ≤ z'.nx.nat ∧ K' e z') : Rn P nt rc x K' :=
  ⟨fun c hc => by
    obtain ⟨e, z, h1, h2⟩ := h.ok c hc
    obtain ⟨z', h3, h4, h5⟩ := k e z h2
    exact ⟨e, z', h1.shrink h3 h4, h5⟩⟩

structure Again {σ : Type} (S : σ → X) (I : σ → Prop) (μ : σ → Nat) (s : σ) (z : X) : Prop where
  ok : ∃ s', μ s' < μ s ∧ I s' ∧ (S s).nx.nat ≤ (S s').nx.nat ∧ Shr z (S s')
theorem Again.to {σ : Type} {S : σ → X} {I : σ → Prop} {μ : σ → Nat} {s : σ} {z : X} (s' : σ) (h : μ s' < μ s) (i : I s') (n : (S s).nx.nat ≤ (S s').nx.nat) (l : Shr z (S s')) : Again S I μ s z := ⟨s', h, i, n, l⟩
def loopK {σ : Type} (S : σ → X) (I : σ → Prop) (μ : σ → Nat) (s : σ) (K : Ex → X → Prop) (e : Ex) (z : X) : Prop :=
  match e with
  | .normal => Again S I μ s z
  | .ret => K .ret z
  | .exit i => K (.exit i) z
theorem Rn.loop {a : RC} {x : X} {K : Ex → X → Prop} {σ : Type} (S : σ → X) (I : σ → Prop) (μ : σ → Nat) (s0 : σ) (h0 : X.le (S s0) x) (i0 : I s0)
    (hb : ∀ s, I s → Rn P nt a (S s) (loopK S I μ s K)) : Rn P nt (.loop a) x K := Rn.of_bare fun c hc hs => by
  refine other hc hs (fun e => by cases e) (fun _ e => by cases e) (fun j _ e => by cases e) (fun i ops _ e => by cases e) (fun i ops _ e => by cases e) (fun _ _ _ e => by cases e) (fun _ _ _ _ _ _ e => by cases e) (fun _ _ _ e => by cases e) (fun a' e e' => ?_) (fun _ _ _ _ _ _ _ _ _ e => by cases e) (fun e => by cases e)
  cases e'
  subst e
  have key : ∀ n s, μ s = n → I s → ∃ e Z, XRounds P nt a' (S s) e Z ∧ K e Z := by
    intro n
    induction n using Nat.strongRecOn with
    | _ n ih =>
      intro s hs hi
      obtain ⟨e, z, h1, h2⟩ := (hb s hi).ok a' rfl
      cases e with
      | normal =>
        obtain ⟨s', h3, h4, h5, h6⟩ := Again.ok h2
        obtain ⟨e, Z, h7, h8⟩ := ih (μ s') (by omega) s' rfl h4
        exact ⟨e, Z, .more (h1.shrink h6 h5) h7, h8⟩
      | ret => exact ⟨.ret, z, .last h1 (fun e => by cases e), h2⟩
      | exit i => exact ⟨.exit i, z, .last h1 (fun e => by cases e), h2⟩
  obtain ⟨e, Z, h1, h2⟩ := key _ s0 rfl i0
  exact ⟨e, Z, (XOk.loop h1).le h0, h2⟩

def Rel {α : Type} (R : Pos → α → α → Prop) (g : Pos → Pos) (a b : T α) : Prop := ∀ p x, a.get p = some x → ∃ y, b.get p = some y ∧ R (g p) y x
theorem Rel.e {α : Type} {R : Pos → α → α → Prop} {g : Pos → Pos} {b : T α} : Rel R g .e b := fun p x h => by rw [T.get_e] at h; cases h
theorem Rel.none {α : Type} {R : Pos → α → α → Prop} {g : Pos → Pos} {l r l' r' : T α} {v' : Option α} (hl : Rel R (fun p => g (.o p)) l l') (hr : Rel R (fun p => g (.i p)) r r') : Rel R g (.n l none r) (.n l' v' r')
  | .h, x, h => by rw [T.get_h] at h; cases h
  | .o p, x, h => hl p x h
  | .i p, x, h => hr p x h
theorem Rel.some {α : Type} {R : Pos → α → α → Prop} {g : Pos → Pos} {l r l' r' : T α} {v v' : α} (hl : Rel R (fun p => g (.o p)) l l') (hv : R (g .h) v' v) (hr : Rel R (fun p => g (.i p)) r r') : Rel R g (.n l (some v) r) (.n l' (some v') r')
  | .h, x, h => by rw [T.get_h] at h; cases h; exact ⟨v', T.get_h _ _ _, hv⟩
  | .o p, x, h => hl p x h
  | .i p, x, h => hr p x h
def RS (B : Pos → Prop) (ob : T C) (_ : Pos) (d d' : D) : Prop := Fz B ob d d'
def RO' (n : Nat) (ob : T C) (id : Pos) (c c' : C) : Prop := id.nat < n ∧ ShC (fun id => id.nat < n) ob c c'
theorem RO'.of {n : Nat} {ob : T C} {id : Pos} {c c' : C} (h : id.nat < n) (k : ShC (fun id => id.nat < n) ob c c') : RO' n ob id c c' := ⟨h, k⟩
theorem Shr.of {z z' : X} (hs : Rel (RS (fun id => id.nat < z'.nx.nat) z.ob) (fun p => p) z'.sl z.sl) (ho : Rel (RO' z'.nx.nat z.ob) (fun p => p) z'.ob z.ob) (l : z.lg = none) (l' : z'.lg = none) : Shr z z' :=
  ⟨fun s d h => let ⟨d', h1, h2⟩ := hs s d h; ⟨d', h1, h2⟩, fun id c h => let ⟨c', h1, h2⟩ := ho id c h; ⟨h2.1, c', h1, h2.2⟩, l, l'⟩
theorem ShC.same {B : Pos → Prop} {ob : T C} {ro : Bool} {cs : List Cell} {cur : Nat} (h : ∀ c ∈ cs, Fz B ob c.d c.d) : ShC B ob (.cells ro cs cur) (.cells ro cs cur) :=
  .cells fun k c' hc => ⟨c', hc, fun _ h => h, h c' (List.mem_of_getElem? hc)⟩
theorem ShC.nl {B : Pos → Prop} {ob : T C} : ∀ c ∈ ([] : List Cell), Fz B ob c.d c.d := fun c h => by cases h
theorem ShC.cn {B : Pos → Prop} {ob : T C} {c : Cell} {cs : List Cell} (h : Fz B ob c.d c.d) (k : ∀ c ∈ cs, Fz B ob c.d c.d) : ∀ c' ∈ c :: cs, Fz B ob c'.d c'.d := fun c' hc => by
  rcases List.mem_cons.1 hc with rfl | hc
  · exact h
  · exact k c' hc
inductive All2 {α β : Type} (R : α → β → Prop) : List α → List β → Prop where
  | nil : All2 R [] []
  | cons {a : α} {b : β} {l : List α} {m : List β} (h : R a b) (k : All2 R l m) : All2 R (a :: l) (b :: m)
theorem ShC.of {B : Pos → Prop} {ob : T C} {ro : Bool} {cs cs' : List Cell} {cur : Nat} (h : All2 (fun c c' : Cell => (∀ st, c'.has st = true → c.has st = true) ∧ Fz B ob c.d c'.d) cs cs') : ShC B ob (.cells ro cs cur) (.cells ro cs' cur) :=
  .cells fun k c' hc => by
    induction h generalizing k with
    | nil => simp at hc
    | cons h _ ih =>
      cases k with
      | zero => simp at hc; subst hc; exact ⟨_, rfl, h⟩
      | succ k => exact ih k (by simpa using hc)
end
end Go.Ev

namespace Go.Ev

theorem WB.dec {p : Prop} [Decidable p] {F : Bool → Prop} (h1 : p → F true) (h0 : ¬ p → F false) : WB (decide p) F := ⟨fun h => h1 (of_decide_eq_true h), fun h => h0 (of_decide_eq_false h)⟩
theorem WB.ndec {p : Prop} [Decidable p] {F : Bool → Prop} (h1 : ¬ p → F true) (h0 : p → F false) : WB (!decide p) F := ⟨fun h => h1 (by simpa using h), fun h => h0 (by simpa using h)⟩

section
variable {sl : T D} {ob : T C} {nx : Pos} {p q : Pos}
theorem Fin.t {u v : D} {e : Ex} (he : e = .normal ∨ e = .ret) (hg : sl.get p = some u) (hz : Frz ob u v) : Fin [.t p] v e ⟨sl, ob, nx, none⟩ :=
  ⟨he, u, by simp only [results, hg]; rfl, hz⟩
theorem Fin.b {t t' : Bool} (hg : sl.get p = some (.b t)) (h : t = t') : Fin [.t p] (.b t') .ret ⟨sl, ob, nx, none⟩ := Fin.t (.inr rfl) hg (by rw [h]; exact .pu trivial)
theorem Fin.i {k : IntKind} {n m : Int} (hg : sl.get p = some (.i k n)) (h : n = m) : Fin [.t p] (.i k m) .ret ⟨sl, ob, nx, none⟩ := Fin.t (.inr rfl) hg (by rw [h]; exact .pu trivial)
theorem Fin.two {u u' v v' : D} {e : Ex} (he : e = .normal ∨ e = .ret) (hg : sl.get p = some u) (hg' : sl.get q = some u') (hz : Frz ob u v) (hz' : Frz ob u' v') : Fin [.t p, .t q] (.tp [v, v']) e ⟨sl, ob, nx, none⟩ :=
  ⟨he, .tp [u, u'], by simp only [results, hg, hg']; rfl, .tp (.cons hz (.cons hz' .nil))⟩
end

mutual
def Flat : D → Prop
  | .b _ => True
  | .i _ _ => True
  | .ag cs => FlatL cs
  | .tp cs => FlatL cs
  | _ => False
def FlatL : List D → Prop
  | [] => True
  | d :: ds => Flat d ∧ FlatL ds
end
mutual
theorem DV.flat {γ γ' : Gh} {w w' : World} : ∀ (d : D) (v : Value), Flat d → DV γ w d v → DV γ' w' d v
  | .b _, _, _, H => by unfold DV at *; exact H
  | .i _ _, _, _, H => by unfold DV at *; exact H
  | .ag cs, _, p, H => by
    unfold Flat at p
    unfold DV at *
    obtain ⟨vs, h1, h2, h3⟩ := H
    exact ⟨vs, h1, DVL.flat cs _ p h2, h3⟩
  | .tp cs, _, p, H => by
    unfold Flat at p
    unfold DV at *
    obtain ⟨vs, h1, h2⟩ := H
    exact ⟨vs, h1, DVL.flat cs _ p h2⟩
  | .any, _, p, _ => by unfold Flat at p; exact p.elim
  | .s _, _, p, _ => by unfold Flat at p; exact p.elim
  | .np, _, p, _ => by unfold Flat at p; exact p.elim
  | .nf, _, p, _ => by unfold Flat at p; exact p.elim
  | .ni, _, p, _ => by unfold Flat at p; exact p.elim
  | .nm, _, p, _ => by unfold Flat at p; exact p.elim
  | .ns, _, p, _ => by unfold Flat at p; exact p.elim
  | .em, _, p, _ => by unfold Flat at p; exact p.elim
  | .pt _ _ _, _, p, _ => by unfold Flat at p; exact p.elim
  | .sl _ _ _ _ _, _, p, _ => by unfold Flat at p; exact p.elim
  | .mp _, _, p, _ => by unfold Flat at p; exact p.elim
  | .yl _, _, p, _ => by unfold Flat at p; exact p.elim
  | .fn _ _ _, _, p, _ => by unfold Flat at p; exact p.elim
  | .ifc _ _, _, p, _ => by unfold Flat at p; exact p.elim
  | .lst _ _, _, p, _ => by unfold Flat at p; exact p.elim
  | .pl _ _, _, p, _ => by unfold Flat at p; exact p.elim
theorem DVL.flat {γ γ' : Gh} {w w' : World} : ∀ (ds : List D) (vs : List Value), FlatL ds → DVL γ w ds vs → DVL γ' w' ds vs
  | [], _, _, H => by unfold DVL at *; exact H
  | d :: ds, _, p, H => by
    unfold FlatL at p
    unfold DVL at *
    obtain ⟨v, r, h1, h2, h3⟩ := H
    exact ⟨v, r, h1, DV.flat d v p.1 h2, DVL.flat ds r p.2 h3⟩
end
def ints (l : List Int) : List (List D) := l.map fun n => [D.i .i64 n]
theorem ints_length (l : List Int) : (ints l).length = l.length := by simp [ints]
theorem pu_ints (l : List Int) : PuE (ints l) := PuE_iff.2 fun r hr => by
  obtain ⟨n, _, rfl⟩ := List.mem_map.1 hr
  simp [PuL, Pu]
theorem WIx.ints {l : List Int} {n : Int} {F : List D → Prop} (h0 : 0 ≤ n) (h1 : n < l.length) (h : F [D.i .i64 (l.getD n.toNat 0)]) : WIx (ints l) n F := WIx.map (f := fun n => [D.i .i64 n]) h0 h1 h

theorem WIx.at {es : List (List D)} {j : Nat} {r : List D} {F : List D → Prop} (h : es[j]? = some r) (k : F r) : WIx es (j : Int) F := ⟨_, Int.natCast_nonneg j, by rw [Int.toNat_natCast]; exact h, k⟩
theorem WIx.intsN {l : List Int} {j : Nat} {F : List D → Prop} (h : j < l.length) (k : F [D.i .i64 (l.getD j 0)]) : WIx (Go.Ev.ints l) (j : Int) F :=
  WIx.at (r := [D.i .i64 (l.getD j 0)]) (by simp [Go.Ev.ints, List.getD, h]) k
def rows {α : Type} (f : α → List D) (l : List α) : List (List D) := l.map f
theorem rows_length {α : Type} (f : α → List D) (l : List α) : (rows f l).length = l.length := by simp [rows]
theorem pu_rows {α : Type} {f : α → List D} (h : ∀ a, PuL (f a)) (l : List α) : PuE (rows f l) := PuE_iff.2 fun r hr => by
  obtain ⟨n, _, rfl⟩ := List.mem_map.1 hr
  exact h n
theorem WIx.rowsN {α : Type} [Inhabited α] {f : α → List D} {l : List α} {j : Nat} {F : List D → Prop} (h : j < l.length) (k : F (f (l.getD j default))) : WIx (rows f l) (j : Int) F :=
  WIx.at (r := f (l.getD j default)) (by simp [rows, List.getD, h]) k
theorem getD_mem {α : Type} {l : List α} {k : Nat} {d : α} (h : k < l.length) : l.getD k d ∈ l := by
  simp [List.getD, h]
theorem all_take_succ {α : Type} {l : List α} {p : α → Bool} {i : Nat} {d : α} (h : i < l.length) (h1 : (l.take i).all p = true) (h2 : p (l.getD i d) = true) : (l.take (i + 1)).all p = true := by
  rw [List.take_succ_eq_append_getElem h, List.all_append, h1]
  simp [List.getD, h] at h2 ⊢
  exact h2
theorem all_false {α : Type} {l : List α} {p : α → Bool} {i : Nat} {d : α} (h : i < l.length) (h2 : p (l.getD i d) = false) : l.all p = false := by
  rw [List.all_eq_false]
  exact ⟨l.getD i d, getD_mem h, by rw [h2]; simp⟩
theorem all_end {α : Type} {l : List α} {p : α → Bool} {i : Nat} (h : l.length ≤ i) (h1 : (l.take i).all p = true) : l.all p = true := by
  rw [List.take_of_length_le h] at h1
  exact h1
section
variable {sl : T D} {ob : T C} {nx : Pos} {K : X → Prop}
theorem Frz.whole {id : Pos} {z st : Nat} {cs : List Cell} {cur : Nat} {es : List (List D)} {n : Nat} (h : ob.get id = some (.cells false cs cur)) (hn : n = es.length) (hz : ∀ r ∈ es, r.length = z) (hc : cs = es.flatten.map fun d => Cell.o d st) (hp : PuE es) : Frz ob (.sl id 0 n st z) (.lst z es) := by
  subst hc
  refine .sl (fun h => h) h hn.symm hz (fun k d hk => ⟨.o d st, ?_, ?_, rfl⟩) (FzE.of hp)
  · rw [List.drop_zero, List.getElem?_map, hk]; rfl
  · show Nat.ble st st = true
    exact Nat.ble_eq_true_of_le (Nat.le_refl _)
theorem growK_map {β : Type} {st : Nat} {new : List D} : ∀ (ds : List D) (cur : Nat) (k : List Cell → Option β), cur = st + 1 → growK st cur new ds.length (ds.map fun d => Cell.o d st) k = k ((ds ++ []).map (fun d => Cell.o d st) ++ new.map fun d => Cell.o d cur)
  | [], cur, k, h => by
    show shutK (Nat.pred cur) (dropC (List.length new) []) (fun l => consK (fun d => .o d cur) new l k) = _
    rw [dropC_eq, shutK_eq, consK_eq]
    simp
  | d :: ds, cur, k, h => by
    have hb : Nat.ble st st = true := Nat.ble_eq_true_of_le (Nat.le_refl _)
    show (bif Nat.ble st st then growK st cur new ds.length (ds.map fun d => Cell.o d st) (fun l => k (.o d st :: l)) else none) = _
    rw [hb]
    simp only [cond_true]
    rw [growK_map ds cur _ h]
    simp
theorem WSt.app_one {d id idy : Pos} {z st len len' cur curY : Nat} {roY : Bool} {x y : RX} {ds r : List D} {csY : List Cell} {ob2 : T C} (hx : opd sl x = some (.sl id 0 len st z)) (hy : opd sl y = some (.sl idy 0 1 0 z)) (hoy : ob.get idy = some (.cells roY csY curY)) (hcy : csY = r.map fun d => Cell.o d 0) (hr : r.length = z) (hox : ob.get id = some (.cells false (ds.map fun d => Cell.o d st) cur)) (hds : ds.length = len * z) (hcur : cur = st + 1) (hlen : len' = len + 1) (hmax : len < 2147483648)
    (hob2 : T.set id (.cells false ((ds.map fun d => Cell.o d st) ++ r.map fun d => Cell.o d cur) (cur + 1)) ob = ob2) (h : wOut sl ob2 nx none d K (.sl id 0 len' cur z)) : WSt (.app d z x y) ⟨sl, ob, nx, none⟩ K := by
  obtain ⟨h2, h3⟩ := wOut_ok h
  refine ⟨_, ?_, h3⟩
  show s_app d z x y sl ob nx none = _
  unfold s_app
  rw [hx, hy]
  subst hcy hr hlen hob2
  have hb : Nat.beq r.length r.length = true := Nat.beq_refl _
  have hrd : readK (β := X) 0 (Nat.mul 1 r.length) (dropC 0 (r.map fun d => Cell.o d 0)) = fun k => k r := by
    rw [dropC_eq, List.drop_zero, show Nat.mul 1 r.length = r.length from Nat.one_mul _]
    have key : ∀ (l : List D) (k : List D → Option X), readK 0 l.length (l.map fun d => Cell.o d 0) k = k l := by
      intro l
      induction l with
      | nil => exact fun k => rfl
      | cons a l ih => exact fun k => ih fun ds => k (a :: ds)
    exact funext fun k => key r k
  simp only [srcK, hb, cond_true, hoy, hrd, logO, logR]
  simp only [hox]
  have hidx : Nat.add 0 (Nat.mul len r.length) = ds.length := by rw [hds]; exact Nat.zero_add _
  rw [hidx, growK_map ds cur _ hcur]
  simp only [List.append_nil, natK_eq, objOutK, logW, T.setK_eq]
  have e1 : Nat.add len (Nat.succ 0) = len + 1 := rfl
  rw [e1, Nat.ble_eq_true_of_le (show len + 1 ≤ 2147483648 from hmax)]
  exact h2
theorem WSt.app_first {d idy : Pos} {z curY : Nat} {roY : Bool} {x y : RX} {a : D} {r : List D} {csY : List Cell} (hx : opd sl x = some a) (ha : a = .ns ∨ a = .em) (hy : opd sl y = some (.sl idy 0 1 0 z)) (hoy : ob.get idy = some (.cells roY csY curY)) (hcy : csY = r.map fun d => Cell.o d 0) (hr : r.length = z)
    (h : T.setK nx (.cells false (r.map fun d => Cell.o d 0) 1) ob fun ob => Pos.succK nx fun nx' => wOut sl ob nx' none d K (.sl nx 0 1 0 z)) : WSt (.app d z x y) ⟨sl, ob, nx, none⟩ K := by
  rw [T.setK_eq, Pos.succK_eq] at h
  obtain ⟨h2, h3⟩ := wOut_ok h
  refine ⟨_, ?_, h3⟩
  show s_app d z x y sl ob nx none = _
  unfold s_app
  rw [hx, hy]
  subst hcy hr
  have hb : Nat.beq r.length r.length = true := Nat.beq_refl _
  have hrd : readK (β := X) 0 (Nat.mul 1 r.length) (dropC 0 (r.map fun d => Cell.o d 0)) = fun k => k r := by
    rw [dropC_eq, List.drop_zero, show Nat.mul 1 r.length = r.length from Nat.one_mul _]
    have key : ∀ (l : List D) (k : List D → Option X), readK 0 l.length (l.map fun d => Cell.o d 0) k = k l := by
      intro l
      induction l with
      | nil => exact fun k => rfl
      | cons a l ih => exact fun k => ih fun ds => k (a :: ds)
    exact funext fun k => key r k
  simp only [srcK, hb, cond_true, hoy, hrd, logO, logR]
  have hle : Nat.ble (Nat.succ 0) 2147483648 = true := rfl
  rcases ha with rfl | rfl <;> simp only [hle, cond_true, openK_eq, freshK, logW, T.setK_eq, Pos.succK_eq] <;> exact h2
end
theorem ShC.grown {B : Pos → Prop} {ob : T C} {ds r : List D} {st cur c : Nat} (h : st ≤ cur) (hp : PuL (ds ++ r)) : ShC B ob (.cells false ((ds.map fun d => Cell.o d st) ++ r.map fun d => Cell.o d cur) c) (.cells false ((ds ++ r).map fun d => Cell.o d cur) c) := by
  refine .cells fun k c' hc => ?_
  rw [List.getElem?_map] at hc
  cases hd : (ds ++ r)[k]? with
  | none => rw [hd] at hc; cases hc
  | some d =>
    rw [hd] at hc
    cases hc
    have hpd : Pu d := PuL_iff.1 hp d (List.mem_of_getElem? hd)
    by_cases hlt : k < ds.length
    · rw [List.getElem?_append_left hlt] at hd
      refine ⟨.o d st, by rw [List.getElem?_append_left (by simpa using hlt), List.getElem?_map, hd]; rfl, fun s hs => ?_, .pu hpd⟩
      have hs : Nat.ble cur s = true := hs
      exact Nat.ble_eq_true_of_le (Nat.le_trans h (Nat.le_of_ble_eq_true hs))
    · rw [List.getElem?_append_right (by omega)] at hd
      refine ⟨.o d cur, by rw [List.getElem?_append_right (by simp; omega), List.getElem?_map, List.length_map, hd]; rfl, fun s hs => hs, .pu hpd⟩
theorem ints_flatten (l : List Int) : (ints l).flatten = l.map fun n => D.i .i64 n := by
  unfold ints
  induction l with
  | nil => rfl
  | cons a l ih => simp at ih ⊢; exact ih
theorem take_succ_getD {α : Type} {l : List α} {j : Nat} {d : α} (h : j < l.length) : l.take (j + 1) = l.take j ++ [l.getD j d] := by
  rw [List.take_succ_eq_append_getElem h]; simp [List.getD, h]
end Go.Ev
