import Derived.Test.YtjgbfnciedkafaaEvRn
set_option linter.all false
namespace Go.Ev
open Go.RowKit (Below Grown)

/-! ### objects that are forgotten -/
inductive ShC (B : Pos → Prop) (ob : T C) : C → C → Prop where
  | cells {ro : Bool} {cs cs' : List Cell} {cur : Nat} (h : ∀ (k : Nat) (c' : Cell), cs'[k]? = some c' → ∃ c : Cell, cs[k]? = some c ∧ (∀ st, c'.has st = true → c.has st = true) ∧ Fz B ob c.d c'.d) : ShC B ob (.cells ro cs cur) (.cells ro cs' cur)
  | map {es es' : List (D × D)} (hl : es.length = es'.length) (h : ∀ (k : Nat) e e', es[k]? = some e → es'[k]? = some e' → Fz B ob e.1 e'.1 ∧ Fz B ob e.2 e'.2) : ShC B ob (.map es) (.map es')
  | lp {sl sl' : T D} {ps : List Pos} {nt : Nat} {asg body : Code} {st : LS} {j : Option Ex} (h : ∀ s d', sl'.get s = some d' → ∃ d, sl.get s = some d ∧ Fz B ob d d') : ShC B ob (.lp sl ps nt asg body st j) (.lp sl' ps nt asg body st j)
  | hole : ShC B ob .hole .hole
/-- Behind z, all that z' says holds too: what is named from z' 's next name on is forgotten, or read as a value. -/
structure Shr (z z' : X) : Prop where
  sl : ∀ s d', z'.sl.get s = some d' → ∃ d, z.sl.get s = some d ∧ Fz (fun id => id.nat < z'.nx.nat) z.ob d d'
  ob : ∀ id c', z'.ob.get id = some c' → id.nat < z'.nx.nat ∧ ∃ c, z.ob.get id = some c ∧ ShC (fun id => id.nat < z'.nx.nat) z.ob c c'
  l : z.lg = none
  l' : z'.lg = none

theorem Fz.i {B : Pos → Prop} {ob : T C} {k : IntKind} {n m : Int} (h : n = m) : Fz B ob (.i k n) (.i k m) := by rw [h]; exact .pu trivial
section
variable {P : Program} {nt : Nat}
theorem XOk.shrink {c : Code} {x Z Z' : X} {e : Ex} (h : XOk P nt c x e Z) (S : Shr Z Z') (hx : x.nx.nat ≤ Z'.nx.nat) : XOk P nt c x e Z' := by
  have hl : x.lg = none := h.lg.none.2 S.l
  refine ⟨by rw [hl, S.l']; exact LgLe.refl _, hx, fun id hn => ?_, fun so hs ro γ a w hn g R n Q hQ => ?_⟩
  · rw [S.l'] at hn; exact absurd trivial hn
  have hall : ∀ id, so id := fun id => hs id (by rw [S.l']; trivial)
  refine h.ok so (fun id _ => hall id) ro γ a w hn g R n Q fun γ1 a1 w1 cst rep => ?_
  have hzero : ∀ id, Z'.nx.nat ≤ id.nat → γ.cur id = 0 := fun id hid => R.nx id (hall id) (Nat.le_trans hx hid)
  let γ2 : Gh := ⟨fun id => if id.nat < Z'.nx.nat then γ1.cur id else 0, γ1.β, fun b => γ1.im b ∨ ((∃ id st, Z'.nx.nat ≤ id.nat ∧ st < γ1.cur id ∧ (γ1.β id st).1 = b) ∧ ∃ vs e fr, w1.heap[b]? = some (.cells vs e fr))⟩
  have c2 : ∀ id, id.nat < Z'.nx.nat → γ2.cur id = γ1.cur id := fun id hid => by show (if _ then _ else _) = _; rw [if_pos hid]
  have c2' : ∀ id, ¬ id.nat < Z'.nx.nat → γ2.cur id = 0 := fun id hid => by show (if _ then _ else _) = _; rw [if_neg hid]
  have lt2 : ∀ id st, st < γ2.cur id → id.nat < Z'.nx.nat ∧ st < γ1.cur id := fun id st hst => by
    by_cases hid : id.nat < Z'.nx.nat
    · rw [c2 id hid] at hst; exact ⟨hid, hst⟩
    · rw [c2' id hid] at hst; exact absurd hst (Nat.not_lt_zero _)
  have hob1 : ∀ id c, Z.ob.get id = some c → HoldsO P γ1 w1 id c := fun id c hc => rep.ob id c (hall id) hc
  have fz : ∀ d d', Fz (fun id => id.nat < Z'.nx.nat) Z.ob d d' → ∀ v, DV γ1 w1 d v → DV γ2 w1 d' v := fun d d' hf =>
    Fz.ok (γ := γ1) (γ' := γ2) (fun b hb => .inl hb) hob1 (fun id hid => ⟨c2 id hid, rfl⟩) (fun id st vs e fr hid hst hc => .inr ⟨⟨id, st, Nat.not_lt.1 hid, hst, rfl⟩, vs, e, fr, hc⟩) hf
  have F := cst.fr
  have fresh : ∀ id st, Z'.nx.nat ≤ id.nat → st < γ1.cur id → w.heap.size ≤ (γ1.β id st).1 := fun id st hid hst => by
    rcases F.new id st (by rw [hzero id hid]; exact Nat.zero_le _) hst with h | ⟨st0, h, _⟩
    · exact h
    · rw [hzero id hid] at h; exact absurd h (Nat.not_lt_zero _)
  have G2 : G ro γ2 a1 w1 := by
    refine ⟨fun id st hst => cst.g.ob id st (lt2 id st hst).2, fun id st id' st' hst hst' he => cst.g.inj id st id' st' (lt2 id st hst).2 (lt2 id' st' hst').2 he, ?_, cst.g.rd, fun b hb => ?_, cst.g.gl.im fun _ h => .inl h⟩
    · obtain ⟨ms, d1, d2, d3⟩ := cst.g.df
      exact ⟨ms, d1, d2, fun r hr => ⟨(d3 r hr).1, fun id st hst => (d3 r hr).2 id st (lt2 id st hst).2⟩⟩
    · rcases hb with hb | ⟨⟨id', st', h1, h2, h3⟩, h4⟩
      · exact ⟨(cst.g.im b hb).1, fun id st hst => (cst.g.im b hb).2 id st (lt2 id st hst).2⟩
      · refine ⟨h4, fun id st hst e => ?_⟩
        obtain ⟨k1, k2⟩ := lt2 id st hst
        have e : (γ1.β id st).1 = b := e
        obtain ⟨rfl, _⟩ := cst.g.inj id st id' st' k2 h2 (e.trans h3.symm)
        omega
  have hw : ∀ {id : Pos}, wrtn Z'.lg id := fun {id} => by rw [S.l']; trivial
  have hwZ : ∀ {id : Pos}, wrtn Z.lg id := fun {id} => by rw [S.l]; trivial
  refine hQ γ2 a1 w1 ⟨G2, ⟨⟨fun id => ?_, fun id st hst => F.up.β id st hst, F.up.sh, fun b hb => ⟨.inl (F.up.im b hb).1, (F.up.im b hb).2⟩⟩, fun id hn => absurd hw hn, fun b hb hn => F.blk b hb fun id st _ hst => hn id st hw hst, fun id st h1 h2 => F.new id st h1 (lt2 id st h2).2, fun b hb hlt => ?_, F.lp, F.size, F.os, F.tape, F.output, F.fz⟩, cst.sz, cst.dn⟩
    ⟨fun s d' _ hd => ?_, fun id c' _ hc => ?_, fun id _ hle => c2' id (by omega), cst.g.gl.im fun _ h => .inl h⟩
  · by_cases hid : id.nat < Z'.nx.nat
    · rw [c2 id hid]; exact F.up.cur id
    · rw [hzero id (Nat.not_lt.1 hid)]; exact Nat.zero_le _
  · rcases hb with hb | ⟨⟨id', st', h1, h2, h3⟩, h4⟩
    · exact F.imn b hb hlt
    · have := fresh id' st' h1 h2
      omega
  · obtain ⟨d, h1, h2⟩ := S.sl s d' hd
    obtain ⟨h3, h4⟩ := rep.sl s d trivial h1
    exact ⟨h3, fz d d' h2 _ h4⟩
  · obtain ⟨hid, c, h1, h2⟩ := S.ob id c' hc
    have H := hob1 id c h1
    cases h2 with
    | cells hcc =>
      obtain ⟨q0, q1, q2⟩ := H
      refine ⟨q0, (c2 id hid).trans q1, fun st hst => ?_⟩
      obtain ⟨vs, e, fr, q3, q4, q5⟩ := q2 st hst
      refine ⟨vs, e, fr, q3, q4, fun p c' hp hh hd => ?_⟩
      obtain ⟨c, k1, k2, k3⟩ := hcc p c' hp
      obtain ⟨u, k4, k5, k6⟩ := q5 p c k1 (k2 st hh) hd
      exact ⟨u, k4, fz _ _ k3 u k5, k6⟩
    | map hl hm =>
      obtain ⟨q1, en, cl, q2, q3, q4⟩ := H
      refine ⟨(c2 id hid).trans q1, en, cl, q2, by rw [← hl]; exact q3, fun i e' f he' hf => ?_⟩
      rename_i es es'
      have hi : i < es.length := by rw [hl]; exact (List.getElem?_eq_some_iff.1 he').1
      obtain ⟨k1, k2⟩ := hm i _ e' (List.getElem?_eq_getElem hi) he'
      obtain ⟨k3, k4⟩ := q4 i _ f (List.getElem?_eq_getElem hi) hf
      exact ⟨fz _ _ k1 _ k3, fz _ _ k2 _ k4⟩
    | lp hsl =>
      obtain ⟨q1, l, q2, q3, q4, q5, q6⟩ := H
      refine ⟨(c2 id hid).trans q1, l, q2, q3, q4, fun s d' hs => ?_, q6⟩
      obtain ⟨d, k1, k2⟩ := hsl s d' hs
      exact ⟨(q5 s d k1).1, fz _ _ k2 _ (q5 s d k1).2⟩
    | hole => exact (c2 id hid).trans H
/-- A rest, by what holds of less. -/
theorem Rn.shrink {rc : RC} {x : X} {K K' : Ex → X → Prop} (h : Rn P nt rc x K) (k : ∀ e z, K e z → ∃ z', Shr z z' ∧ x.nx.nat ≤ z'.nx.nat ∧ K' e z') : Rn P nt rc x K' :=
  ⟨fun c hc => by
    obtain ⟨e, z, h1, h2⟩ := h.ok c hc
    obtain ⟨z', h3, h4, h5⟩ := k e z h2
    exact ⟨e, z', h1.shrink h3 h4, h5⟩⟩

/-! ### loops -/
structure Again {σ : Type} (S : σ → X) (I : σ → Prop) (μ : σ → Nat) (s : σ) (z : X) : Prop where
  ok : ∃ s', μ s' < μ s ∧ I s' ∧ (S s).nx.nat ≤ (S s').nx.nat ∧ Shr z (S s')
theorem Again.to {σ : Type} {S : σ → X} {I : σ → Prop} {μ : σ → Nat} {s : σ} {z : X} (s' : σ) (h : μ s' < μ s) (i : I s') (n : (S s).nx.nat ≤ (S s').nx.nat) (l : Shr z (S s')) : Again S I μ s z := ⟨s', h, i, n, l⟩
def loopK {σ : Type} (S : σ → X) (I : σ → Prop) (μ : σ → Nat) (s : σ) (K : Ex → X → Prop) (e : Ex) (z : X) : Prop :=
  match e with
  | .normal => Again S I μ s z
  | .ret => K .ret z
  | .exit i => K (.exit i) z
/-- A loop, by what holds ahead of each round, and what falls. -/
theorem Rn.loop {a : RC} {x : X} {K : Ex → X → Prop} {σ : Type} (S : σ → X) (I : σ → Prop) (μ : σ → Nat) (s0 : σ) (h0 : X.le (S s0) x) (i0 : I s0)
    (hb : ∀ s, I s → Rn P nt a (S s) (loopK S I μ s K)) : Rn P nt (.loop a) x K := Rn.of_bare fun c hc hs => by
  refine other hc hs (fun e => by cases e) (fun _ e => by cases e) (fun j _ e => by cases e) (fun i ops _ e => by cases e) (fun i ops _ e => by cases e) (fun _ _ _ e => by cases e) (fun _ _ _ _ _ _ e => by cases e) (fun _ _ _ e => by cases e) (fun a' e e' => ?_) (fun _ _ _ _ _ _ _ _ _ e => by cases e) (fun e => by cases e)
  cases e'
  subst e
  have key : ∀ n s, μ s = n → I s → ∃ e Z, XRounds P nt a' (S s) e Z ∧ K e Z := by
    intro n
    induction n using Nat.strongRecOn with
    | _ n ih =>
      intro s hs hi
      obtain ⟨e, z, h1, h2⟩ := (hb s hi).ok a' rfl
      cases e with
      | normal =>
        obtain ⟨s', h3, h4, h5, h6⟩ := Again.ok h2
        obtain ⟨e, Z, h7, h8⟩ := ih (μ s') (by omega) s' rfl h4
        exact ⟨e, Z, .more (h1.shrink h6 h5) h7, h8⟩
      | ret => exact ⟨.ret, z, .last h1 (fun e => by cases e), h2⟩
      | exit i => exact ⟨.exit i, z, .last h1 (fun e => by cases e), h2⟩
  obtain ⟨e, Z, h1, h2⟩ := key _ s0 rfl i0
  exact ⟨e, Z, (XOk.loop h1).le h0, h2⟩

/-! ### less, place by place -/
def Rel {α : Type} (R : Pos → α → α → Prop) (g : Pos → Pos) (a b : T α) : Prop := ∀ p x, a.get p = some x → ∃ y, b.get p = some y ∧ R (g p) y x
theorem Rel.e {α : Type} {R : Pos → α → α → Prop} {g : Pos → Pos} {b : T α} : Rel R g .e b := fun p x h => by rw [T.get_e] at h; cases h
theorem Rel.none {α : Type} {R : Pos → α → α → Prop} {g : Pos → Pos} {l r l' r' : T α} {v' : Option α} (hl : Rel R (fun p => g (.o p)) l l') (hr : Rel R (fun p => g (.i p)) r r') : Rel R g (.n l none r) (.n l' v' r')
  | .h, x, h => by rw [T.get_h] at h; cases h
  | .o p, x, h => hl p x h
  | .i p, x, h => hr p x h
theorem Rel.some {α : Type} {R : Pos → α → α → Prop} {g : Pos → Pos} {l r l' r' : T α} {v v' : α} (hl : Rel R (fun p => g (.o p)) l l') (hv : R (g .h) v' v) (hr : Rel R (fun p => g (.i p)) r r') : Rel R g (.n l (some v) r) (.n l' (some v') r')
  | .h, x, h => by rw [T.get_h] at h; cases h; exact ⟨v', T.get_h _ _ _, hv⟩
  | .o p, x, h => hl p x h
  | .i p, x, h => hr p x h
def RS (B : Pos → Prop) (ob : T C) (_ : Pos) (d d' : D) : Prop := Fz B ob d d'
def RO' (n : Nat) (ob : T C) (id : Pos) (c c' : C) : Prop := id.nat < n ∧ ShC (fun id => id.nat < n) ob c c'
theorem RO'.of {n : Nat} {ob : T C} {id : Pos} {c c' : C} (h : id.nat < n) (k : ShC (fun id => id.nat < n) ob c c') : RO' n ob id c c' := ⟨h, k⟩
theorem Shr.of {z z' : X} (hs : Rel (RS (fun id => id.nat < z'.nx.nat) z.ob) (fun p => p) z'.sl z.sl) (ho : Rel (RO' z'.nx.nat z.ob) (fun p => p) z'.ob z.ob) (l : z.lg = none) (l' : z'.lg = none) : Shr z z' :=
  ⟨fun s d h => let ⟨d', h1, h2⟩ := hs s d h; ⟨d', h1, h2⟩, fun id c h => let ⟨c', h1, h2⟩ := ho id c h; ⟨h2.1, c', h1, h2.2⟩, l, l'⟩
theorem ShC.same {B : Pos → Prop} {ob : T C} {ro : Bool} {cs : List Cell} {cur : Nat} (h : ∀ c ∈ cs, Fz B ob c.d c.d) : ShC B ob (.cells ro cs cur) (.cells ro cs cur) :=
  .cells fun k c' hc => ⟨c', hc, fun _ h => h, h c' (List.mem_of_getElem? hc)⟩
theorem ShC.nl {B : Pos → Prop} {ob : T C} : ∀ c ∈ ([] : List Cell), Fz B ob c.d c.d := fun c h => by cases h
theorem ShC.cn {B : Pos → Prop} {ob : T C} {c : Cell} {cs : List Cell} (h : Fz B ob c.d c.d) (k : ∀ c ∈ cs, Fz B ob c.d c.d) : ∀ c' ∈ c :: cs, Fz B ob c'.d c'.d := fun c' hc => by
  rcases List.mem_cons.1 hc with rfl | hc
  · exact h
  · exact k c' hc
inductive All2 {α β : Type} (R : α → β → Prop) : List α → List β → Prop where
  | nil : All2 R [] []
  | cons {a : α} {b : β} {l : List α} {m : List β} (h : R a b) (k : All2 R l m) : All2 R (a :: l) (b :: m)
/-- Cells one by one. -/
theorem ShC.of {B : Pos → Prop} {ob : T C} {ro : Bool} {cs cs' : List Cell} {cur : Nat} (h : All2 (fun c c' : Cell => (∀ st, c'.has st = true → c.has st = true) ∧ Fz B ob c.d c'.d) cs cs') : ShC B ob (.cells ro cs cur) (.cells ro cs' cur) :=
  .cells fun k c' hc => by
    induction h generalizing k with
    | nil => simp at hc
    | cons h _ ih =>
      cases k with
      | zero => simp at hc; subst hc; exact ⟨_, rfl, h⟩
      | succ k => exact ih k (by simpa using hc)
end
end Go.Ev
