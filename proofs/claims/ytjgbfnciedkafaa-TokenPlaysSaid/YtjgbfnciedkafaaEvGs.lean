import Derived.Test.YtjgbfnciedkafaaEvIt
import Derived.Test.YtjgbfnciedkafaaEvRn
import Derived.Test.YtjgbfnciedkafaaEvSh
import Derived.Test.YtjgbfnciedkafaaEvFt
set_option linter.all false
namespace Go.Ev
open Go.RowKit (Below Grown)

/-! ### objects that are forgotten, wherever they are named -/
/-- As Shr, but what is kept is told by B. -/
structure ShrB (B : Pos → Prop) (z z' : X) : Prop where
  sl : ∀ s d', z'.sl.get s = some d' → ∃ d, z.sl.get s = some d ∧ Fz B z.ob d d'
  ob : ∀ id c', z'.ob.get id = some c' → B id ∧ ∃ c, z.ob.get id = some c ∧ ShC B z.ob c c'
  l : z.lg = none
  l' : z'.lg = none
section
variable {P : Program} {nt : Nat}
open Classical in
theorem XOk.shrinkB {c : Code} {x Z Z' : X} {e : Ex} {B : Pos → Prop} (h : XOk P nt c x e Z) (S : ShrB B Z Z') (hx : ∀ id : Pos, id.nat < x.nx.nat → B id) (hz : ∀ id : Pos, B id → id.nat < Z'.nx.nat) (hxn : x.nx.nat ≤ Z'.nx.nat) : XOk P nt c x e Z' := by
  have hl : x.lg = none := h.lg.none.2 S.l
  refine ⟨by rw [hl, S.l']; exact LgLe.refl _, hxn, fun id hn => ?_, fun so hs ro γ a w hn g R n Q hQ => ?_⟩
  · rw [S.l'] at hn; exact absurd trivial hn
  have hall : ∀ id, so id := fun id => hs id (by rw [S.l']; trivial)
  refine h.ok so (fun id _ => hall id) ro γ a w hn g R n Q fun γ1 a1 w1 cst rep => ?_
  have hzero : ∀ id, ¬ B id → γ.cur id = 0 := fun id hid => R.nx id (hall id) (Nat.not_lt.1 fun h => hid (hx id h))
  let γ2 : Gh := ⟨fun id => if B id then γ1.cur id else 0, γ1.β, fun b => γ1.im b ∨ ((∃ id st, ¬ B id ∧ st < γ1.cur id ∧ (γ1.β id st).1 = b) ∧ ∃ vs e fr, w1.heap[b]? = some (.cells vs e fr))⟩
  have c2 : ∀ id, B id → γ2.cur id = γ1.cur id := fun id hid => by show (if _ then _ else _) = _; rw [if_pos hid]
  have c2' : ∀ id, ¬ B id → γ2.cur id = 0 := fun id hid => by show (if _ then _ else _) = _; rw [if_neg hid]
  have lt2 : ∀ id st, st < γ2.cur id → B id ∧ st < γ1.cur id := fun id st hst => by
    by_cases hid : B id
    · rw [c2 id hid] at hst; exact ⟨hid, hst⟩
    · rw [c2' id hid] at hst; exact absurd hst (Nat.not_lt_zero _)
  have hob1 : ∀ id c, Z.ob.get id = some c → HoldsO P γ1 w1 id c := fun id c hc => rep.ob id c (hall id) hc
  have fz : ∀ d d', Fz B Z.ob d d' → ∀ v, DV γ1 w1 d v → DV γ2 w1 d' v := fun d d' hf =>
    Fz.ok (γ := γ1) (γ' := γ2) (fun b hb => .inl hb) hob1 (fun id hid => ⟨c2 id hid, rfl⟩) (fun id st vs e fr hid hst hc => .inr ⟨⟨id, st, hid, hst, rfl⟩, vs, e, fr, hc⟩) hf
  have F := cst.fr
  have fresh : ∀ id st, ¬ B id → st < γ1.cur id → w.heap.size ≤ (γ1.β id st).1 := fun id st hid hst => by
    rcases F.new id st (by rw [hzero id hid]; exact Nat.zero_le _) hst with h | ⟨st0, h, _⟩
    · exact h
    · rw [hzero id hid] at h; exact absurd h (Nat.not_lt_zero _)
  have G2 : G ro γ2 a1 w1 := by
    refine ⟨fun id st hst => cst.g.ob id st (lt2 id st hst).2, fun id st id' st' hst hst' he => cst.g.inj id st id' st' (lt2 id st hst).2 (lt2 id' st' hst').2 he, ?_, cst.g.rd, fun b hb => ?_, cst.g.gl.im fun _ h => .inl h⟩
    · obtain ⟨ms, d1, d2, d3⟩ := cst.g.df
      exact ⟨ms, d1, d2, fun r hr => ⟨(d3 r hr).1, fun id st hst => (d3 r hr).2 id st (lt2 id st hst).2⟩⟩
    · rcases hb with hb | ⟨⟨id', st', h1, h2, h3⟩, h4⟩
      · exact ⟨(cst.g.im b hb).1, fun id st hst => (cst.g.im b hb).2 id st (lt2 id st hst).2⟩
      · refine ⟨h4, fun id st hst e => ?_⟩
        obtain ⟨k1, k2⟩ := lt2 id st hst
        have e : (γ1.β id st).1 = b := e
        obtain ⟨rfl, _⟩ := cst.g.inj id st id' st' k2 h2 (e.trans h3.symm)
        exact h1 k1
  have hw : ∀ {id : Pos}, wrtn Z'.lg id := fun {id} => by rw [S.l']; trivial
  have hwZ : ∀ {id : Pos}, wrtn Z.lg id := fun {id} => by rw [S.l]; trivial
  refine hQ γ2 a1 w1 ⟨G2, ⟨⟨fun id => ?_, fun id st hst => F.up.β id st hst, F.up.sh, fun b hb => ⟨.inl (F.up.im b hb).1, (F.up.im b hb).2⟩⟩, fun id hn => absurd hw hn, fun b hb hn => F.blk b hb fun id st _ hst => hn id st hw hst, fun id st h1 h2 => F.new id st h1 (lt2 id st h2).2, fun b hb hlt => ?_, F.lp, F.size, F.os, F.tape, F.output, F.fz⟩, cst.sz, cst.dn⟩
    ⟨fun s d' _ hd => ?_, fun id c' _ hc => ?_, fun id _ hle => c2' id (fun hb => by have := hz id hb; omega), cst.g.gl.im fun _ h => .inl h⟩
  · by_cases hid : B id
    · rw [c2 id hid]; exact F.up.cur id
    · rw [hzero id hid]; exact Nat.zero_le _
  · rcases hb with hb | ⟨⟨id', st', h1, h2, h3⟩, h4⟩
    · exact F.imn b hb hlt
    · have := fresh id' st' h1 h2
      omega
  · obtain ⟨d, h1, h2⟩ := S.sl s d' hd
    obtain ⟨h3, h4⟩ := rep.sl s d trivial h1
    exact ⟨h3, fz d d' h2 _ h4⟩
  · obtain ⟨hid, c, h1, h2⟩ := S.ob id c' hc
    have H := hob1 id c h1
    cases h2 with
    | cells hcc =>
      obtain ⟨q0, q1, q2⟩ := H
      refine ⟨q0, (c2 id hid).trans q1, fun st hst => ?_⟩
      obtain ⟨vs, e, fr, q3, q4, q5⟩ := q2 st hst
      refine ⟨vs, e, fr, q3, q4, fun p c' hp hh hd => ?_⟩
      obtain ⟨c, k1, k2, k3⟩ := hcc p c' hp
      obtain ⟨u, k4, k5, k6⟩ := q5 p c k1 (k2 st hh) hd
      exact ⟨u, k4, fz _ _ k3 u k5, k6⟩
    | map hl hm =>
      obtain ⟨q1, en, cl, q2, q3, q4⟩ := H
      refine ⟨(c2 id hid).trans q1, en, cl, q2, by rw [← hl]; exact q3, fun i e' f he' hf => ?_⟩
      rename_i es es'
      have hi : i < es.length := by rw [hl]; exact (List.getElem?_eq_some_iff.1 he').1
      obtain ⟨k1, k2⟩ := hm i _ e' (List.getElem?_eq_getElem hi) he'
      obtain ⟨k3, k4⟩ := q4 i _ f (List.getElem?_eq_getElem hi) hf
      exact ⟨fz _ _ k1 _ k3, fz _ _ k2 _ k4⟩
    | lp hsl =>
      obtain ⟨q1, l, q2, q3, q4, q5, q6⟩ := H
      refine ⟨(c2 id hid).trans q1, l, q2, q3, q4, fun s d' hs => ?_, q6⟩
      obtain ⟨d, k1, k2⟩ := hsl s d' hs
      exact ⟨(q5 s d k1).1, fz _ _ k2 _ (q5 s d k1).2⟩
    | hole => exact (c2 id hid).trans H
structure AgainB {σ : Type} (S : σ → X) (I : σ → Prop) (μ : σ → Nat) (s : σ) (z : X) : Prop where
  ok : ∃ s' B, μ s' < μ s ∧ I s' ∧ (S s).nx.nat ≤ (S s').nx.nat ∧ (∀ id : Pos, id.nat < (S s).nx.nat → B id) ∧ (∀ id : Pos, B id → id.nat < (S s').nx.nat) ∧ ShrB B z (S s')
theorem AgainB.to {σ : Type} {S : σ → X} {I : σ → Prop} {μ : σ → Nat} {s : σ} {z : X} (s' : σ) (B : Pos → Prop) (h : μ s' < μ s) (i : I s') (n : (S s).nx.nat ≤ (S s').nx.nat) (b1 : ∀ id : Pos, id.nat < (S s).nx.nat → B id) (b2 : ∀ id : Pos, B id → id.nat < (S s').nx.nat) (l : ShrB B z (S s')) : AgainB S I μ s z := ⟨s', B, h, i, n, b1, b2, l⟩
theorem Shr.toB {z z' : X} (h : Shr z z') : ShrB (fun id => id.nat < z'.nx.nat) z z' := ⟨h.sl, h.ob, h.l, h.l'⟩
theorem AgainB.sh {σ : Type} {S : σ → X} {I : σ → Prop} {μ : σ → Nat} {s : σ} {z : X} (s' : σ) (h : μ s' < μ s) (i : I s') (n : (S s).nx.nat ≤ (S s').nx.nat) (l : Shr z (S s')) : AgainB S I μ s z :=
  ⟨s', _, h, i, n, fun _ h => Nat.lt_of_lt_of_le h n, fun _ h => h, l.toB⟩
def loopKB {σ : Type} (S : σ → X) (I : σ → Prop) (μ : σ → Nat) (s : σ) (K : Ex → X → Prop) (e : Ex) (z : X) : Prop :=
  match e with
  | .normal => AgainB S I μ s z
  | .ret => K .ret z
  | .exit i => K (.exit i) z
/-- A loop, by what holds ahead of each round, and what falls. -/
theorem Rn.loopB {a : RC} {x : X} {K : Ex → X → Prop} {σ : Type} (S : σ → X) (I : σ → Prop) (μ : σ → Nat) (s0 : σ) (h0 : X.le (S s0) x) (i0 : I s0)
    (hb : ∀ s, I s → Rn P nt a (S s) (loopKB S I μ s K)) : Rn P nt (.loop a) x K := Rn.of_bare fun c hc hs => by
  refine other hc hs (fun e => by cases e) (fun _ e => by cases e) (fun j _ e => by cases e) (fun i ops _ e => by cases e) (fun i ops _ e => by cases e) (fun _ _ _ e => by cases e) (fun _ _ _ _ _ _ e => by cases e) (fun _ _ _ e => by cases e) (fun a' e e' => ?_) (fun _ _ _ _ _ _ _ _ _ e => by cases e) (fun e => by cases e)
  cases e'
  subst e
  have key : ∀ n s, μ s = n → I s → ∃ e Z, XRounds P nt a' (S s) e Z ∧ K e Z := by
    intro n
    induction n using Nat.strongRecOn with
    | _ n ih =>
      intro s hs hi
      obtain ⟨e, z, h1, h2⟩ := (hb s hi).ok a' rfl
      cases e with
      | normal =>
        obtain ⟨s', B, h3, h4, h5, h6, h7, h8⟩ := AgainB.ok h2
        obtain ⟨e, Z, q1, q2⟩ := ih (μ s') (by omega) s' rfl h4
        exact ⟨e, Z, .more (h1.shrinkB h8 h6 h7 h5) q1, q2⟩
      | ret => exact ⟨.ret, z, .last h1 (fun e => by cases e), h2⟩
      | exit i => exact ⟨.exit i, z, .last h1 (fun e => by cases e), h2⟩
  obtain ⟨e, Z, h1, h2⟩ := key _ s0 rfl i0
  exact ⟨e, Z, (XOk.loop h1).le h0, h2⟩
end
end Go.Ev

namespace Go.Ev
open Go.RowKit (Below Grown)
section
variable {P : Program} {nt : Nat}
open Classical in
theorem shrinkB_at {x Z Z' : X} {B : Pos → Prop} {ro : Option Nat} {so : Pos → Prop} {γ γ1 : Gh} {a a1 : Act} {w w1 : World} (S : ShrB B Z Z') (hx : ∀ id : Pos, id.nat < x.nx.nat → B id) (hz : ∀ id : Pos, B id → id.nat < Z'.nx.nat) (hall : ∀ id, so id) (R : Rep P (allS so) γ a w x) (cst : CSt ro Z.lg γ a w γ1 a1 w1) (rep : Rep P (allS so) γ1 a1 w1 Z) :
    ∃ γ2, CSt ro Z'.lg γ a w γ2 a1 w1 ∧ Rep P (allS so) γ2 a1 w1 Z' := by
  have hzero : ∀ id, ¬ B id → γ.cur id = 0 := fun id hid => R.nx id (hall id) (Nat.not_lt.1 fun h => hid (hx id h))
  let γ2 : Gh := ⟨fun id => if B id then γ1.cur id else 0, γ1.β, fun b => γ1.im b ∨ ((∃ id st, ¬ B id ∧ st < γ1.cur id ∧ (γ1.β id st).1 = b) ∧ ∃ vs e fr, w1.heap[b]? = some (.cells vs e fr))⟩
  have c2 : ∀ id, B id → γ2.cur id = γ1.cur id := fun id hid => by show (if _ then _ else _) = _; rw [if_pos hid]
  have c2' : ∀ id, ¬ B id → γ2.cur id = 0 := fun id hid => by show (if _ then _ else _) = _; rw [if_neg hid]
  have lt2 : ∀ id st, st < γ2.cur id → B id ∧ st < γ1.cur id := fun id st hst => by
    by_cases hid : B id
    · rw [c2 id hid] at hst; exact ⟨hid, hst⟩
    · rw [c2' id hid] at hst; exact absurd hst (Nat.not_lt_zero _)
  have hob1 : ∀ id c, Z.ob.get id = some c → HoldsO P γ1 w1 id c := fun id c hc => rep.ob id c (hall id) hc
  have fz : ∀ d d', Fz B Z.ob d d' → ∀ v, DV γ1 w1 d v → DV γ2 w1 d' v := fun d d' hf =>
    Fz.ok (γ := γ1) (γ' := γ2) (fun b hb => .inl hb) hob1 (fun id hid => ⟨c2 id hid, rfl⟩) (fun id st vs e fr hid hst hc => .inr ⟨⟨id, st, hid, hst, rfl⟩, vs, e, fr, hc⟩) hf
  have F := cst.fr
  have fresh : ∀ id st, ¬ B id → st < γ1.cur id → w.heap.size ≤ (γ1.β id st).1 := fun id st hid hst => by
    rcases F.new id st (by rw [hzero id hid]; exact Nat.zero_le _) hst with h | ⟨st0, h, _⟩
    · exact h
    · rw [hzero id hid] at h; exact absurd h (Nat.not_lt_zero _)
  have G2 : G ro γ2 a1 w1 := by
    refine ⟨fun id st hst => cst.g.ob id st (lt2 id st hst).2, fun id st id' st' hst hst' he => cst.g.inj id st id' st' (lt2 id st hst).2 (lt2 id' st' hst').2 he, ?_, cst.g.rd, fun b hb => ?_, cst.g.gl.im fun _ h => .inl h⟩
    · obtain ⟨ms, d1, d2, d3⟩ := cst.g.df
      exact ⟨ms, d1, d2, fun r hr => ⟨(d3 r hr).1, fun id st hst => (d3 r hr).2 id st (lt2 id st hst).2⟩⟩
    · rcases hb with hb | ⟨⟨id', st', h1, h2, h3⟩, h4⟩
      · exact ⟨(cst.g.im b hb).1, fun id st hst => (cst.g.im b hb).2 id st (lt2 id st hst).2⟩
      · refine ⟨h4, fun id st hst e => ?_⟩
        obtain ⟨k1, k2⟩ := lt2 id st hst
        have e : (γ1.β id st).1 = b := e
        obtain ⟨rfl, _⟩ := cst.g.inj id st id' st' k2 h2 (e.trans h3.symm)
        exact h1 k1
  have hw : ∀ {id : Pos}, wrtn Z'.lg id := fun {id} => by rw [S.l']; trivial
  have hwZ : ∀ {id : Pos}, wrtn Z.lg id := fun {id} => by rw [S.l]; trivial
  refine ⟨γ2, ⟨G2, ⟨⟨fun id => ?_, fun id st hst => F.up.β id st hst, F.up.sh, fun b hb => ⟨.inl (F.up.im b hb).1, (F.up.im b hb).2⟩⟩, fun id hn => absurd hw hn, fun b hb hn => F.blk b hb fun id st _ hst => hn id st hw hst, fun id st h1 h2 => F.new id st h1 (lt2 id st h2).2, fun b hb hlt => ?_, F.lp, F.size, F.os, F.tape, F.output, F.fz⟩, cst.sz, cst.dn⟩,
    ⟨fun s d' _ hd => ?_, fun id c' _ hc => ?_, fun id _ hle => c2' id (fun hb => by have := hz id hb; omega), cst.g.gl.im fun _ h => .inl h⟩⟩
  · by_cases hid : B id
    · rw [c2 id hid]; exact F.up.cur id
    · rw [hzero id hid]; exact Nat.zero_le _
  · rcases hb with hb | ⟨⟨id', st', h1, h2, h3⟩, h4⟩
    · exact F.imn b hb hlt
    · have := fresh id' st' h1 h2
      omega
  · obtain ⟨d, h1, h2⟩ := S.sl s d' hd
    obtain ⟨h3, h4⟩ := rep.sl s d trivial h1
    exact ⟨h3, fz d d' h2 _ h4⟩
  · obtain ⟨hid, c, h1, h2⟩ := S.ob id c' hc
    have H := hob1 id c h1
    cases h2 with
    | cells hcc =>
      obtain ⟨q0, q1, q2⟩ := H
      refine ⟨q0, (c2 id hid).trans q1, fun st hst => ?_⟩
      obtain ⟨vs, e, fr, q3, q4, q5⟩ := q2 st hst
      refine ⟨vs, e, fr, q3, q4, fun p c' hp hh hd => ?_⟩
      obtain ⟨c, k1, k2, k3⟩ := hcc p c' hp
      obtain ⟨u, k4, k5, k6⟩ := q5 p c k1 (k2 st hh) hd
      exact ⟨u, k4, fz _ _ k3 u k5, k6⟩
    | map hl hm =>
      obtain ⟨q1, en, cl, q2, q3, q4⟩ := H
      refine ⟨(c2 id hid).trans q1, en, cl, q2, by rw [← hl]; exact q3, fun i e' f he' hf => ?_⟩
      rename_i es es'
      have hi : i < es.length := by rw [hl]; exact (List.getElem?_eq_some_iff.1 he').1
      obtain ⟨k1, k2⟩ := hm i _ e' (List.getElem?_eq_getElem hi) he'
      obtain ⟨k3, k4⟩ := q4 i _ f (List.getElem?_eq_getElem hi) hf
      exact ⟨fz _ _ k1 _ k3, fz _ _ k2 _ k4⟩
    | lp hsl =>
      obtain ⟨q1, l, q2, q3, q4, q5, q6⟩ := H
      refine ⟨(c2 id hid).trans q1, l, q2, q3, q4, fun s d' hs => ?_, q6⟩
      obtain ⟨d, k1, k2⟩ := hsl s d' hs
      exact ⟨(q5 s d k1).1, fz _ _ k2 _ (q5 s d k1).2⟩
    | hole => exact (c2 id hid).trans H
/-- As bare, for walks. -/
theorem bareW : ∀ c : Code, ∃ c', comp P nt c' = comp P nt c ∧ (∀ d, c' ≠ .scope d) ∧ ∀ {F : Fence} {n : Nat} {Q : Exit → Act → World → Prop} {a : Act} {w : World}, ∃ Q' : Exit → Act → World → Prop, (∀ (e : Ex) a w, Q e.to a w → Q' e.to a w) ∧ (c'.wpIn F n P Q' a w → c.wpIn F n P Q a w)
  | .scope c => let ⟨c', h1, h2, h3⟩ := bareW c; ⟨c', h1, h2, fun {F n Q a w} => by
    obtain ⟨Q', k1, k2⟩ := h3 (F := F) (n := n) (Q := Exit.noGoto Q) (a := a) (w := w)
    exact ⟨Q', fun e a w h => k1 e a w (by cases e <;> exact h), fun h => wpIn_scope_straight' (k2 h)⟩⟩
  | .skip => ⟨.skip, rfl, (fun _ h => by cases h), fun {F n Q a w} => ⟨Q, fun _ _ _ h => h, fun h => h⟩⟩
  | .label l => ⟨.label l, rfl, (fun _ h => by cases h), fun {F n Q a w} => ⟨Q, fun _ _ _ h => h, fun h => h⟩⟩
  | .ret => ⟨.ret, rfl, (fun _ h => by cases h), fun {F n Q a w} => ⟨Q, fun _ _ _ h => h, fun h => h⟩⟩
  | .exit i => ⟨.exit i, rfl, (fun _ h => by cases h), fun {F n Q a w} => ⟨Q, fun _ _ _ h => h, fun h => h⟩⟩
  | .region i o d => ⟨.region i o d, rfl, (fun _ h => by cases h), fun {F n Q a w} => ⟨Q, fun _ _ _ h => h, fun h => h⟩⟩
  | .seq a b => ⟨.seq a b, rfl, (fun _ h => by cases h), fun {F n Q a w} => ⟨Q, fun _ _ _ h => h, fun h => h⟩⟩
  | .cond c a b => ⟨.cond c a b, rfl, (fun _ h => by cases h), fun {F n Q a w} => ⟨Q, fun _ _ _ h => h, fun h => h⟩⟩
  | .block i a => ⟨.block i a, rfl, (fun _ h => by cases h), fun {F n Q a w} => ⟨Q, fun _ _ _ h => h, fun h => h⟩⟩
  | .loop a => ⟨.loop a, rfl, (fun _ h => by cases h), fun {F n Q a w} => ⟨Q, fun _ _ _ h => h, fun h => h⟩⟩
  | .rangeFunc f p a b => ⟨.rangeFunc f p a b, rfl, (fun _ h => by cases h), fun {F n Q a w} => ⟨Q, fun _ _ _ h => h, fun h => h⟩⟩
  | .goto l => ⟨.goto l, rfl, (fun _ h => by cases h), fun {F n Q a w} => ⟨Q, fun _ _ _ h => h, fun h => h⟩⟩
  | .refuse s => ⟨.refuse s, rfl, (fun _ h => by cases h), fun {F n Q a w} => ⟨Q, fun _ _ _ h => h, fun h => h⟩⟩
theorem XOk.seqB {a b c b2 : Code} {x y z z' Z : X} {ex : Ex} {B : Pos → Prop} (hb : ∀ {F : Fence} {n : Nat} {Q : Exit → Act → World → Prop} {a : Act} {w : World}, ∃ Q' : Exit → Act → World → Prop, (∀ (e : Ex) a w, Q e.to a w → Q' e.to a w) ∧ ((Code.seq b c).wpIn F n P Q' a w → b2.wpIn F n P Q a w))
    (h1 : XOk P nt a x .normal y) (h2 : XOk P nt b y .normal z) (S : ShrB B z z') (hx : ∀ id : Pos, id.nat < x.nx.nat → B id) (hz : ∀ id : Pos, B id → id.nat < z'.nx.nat) (hn : x.nx.nat ≤ z'.nx.nat) (h3 : XOk P nt c z' ex Z) : XOk P nt (.seq a b2) x ex Z := by
  have hl : x.lg = none := (h1.lg.trans h2.lg).none.2 S.l
  have hZ : Z.lg = none := h3.lg.none.1 S.l'
  refine ⟨by rw [hl, hZ]; exact LgLe.refl _, Nat.le_trans hn h3.nx, fun id hn => by rw [hZ] at hn; exact absurd trivial hn, fun so hs ro γ a w hn g R n Q hQ => ?_⟩
  have hall : ∀ id, so id := fun id => hs id (by rw [hZ]; trivial)
  refine wpIn_seq (h1.ok so (fun id _ => hall id) ro γ a w hn g R n _ fun γ1 a1 w1 s1 R1 => ?_)
  obtain ⟨Q', k1, k2⟩ := hb (F := FW ro) (n := n) (Q := Q) (a := a1) (w := w1)
  refine k2 (wpIn_seq (h2.ok so (fun id _ => hall id) ro γ1 a1 w1 (s1.sz.trans hn) s1.g R1 n _ fun γ2 a2 w2 s2 R2 => ?_))
  obtain ⟨γ3, s3, R3⟩ := shrinkB_at S hx hz hall R (CSt.trans h2.lg s1 s2) R2
  exact h3.ok so hs ro γ3 a2 w2 (s3.sz.trans hn) s3.g R3 n Q' fun γ4 a4 w4 s4 R4 => k1 _ _ _ <| hQ γ4 a4 w4 (CSt.trans h3.lg s3 s4) R4
/-- Behind the first two statements, what they have made is forgotten, or read as a value. -/
structure SeqZ (P : Program) (nt : Nat) (c : RC) (x : X) (K : Ex → X → Prop) (e : Ex) (z : X) : Prop where
  ok : e = .normal ∧ ∃ z' B, ShrB B z z' ∧ (∀ id : Pos, id.nat < x.nx.nat → B id) ∧ (∀ id : Pos, B id → id.nat < z'.nx.nat) ∧ x.nx.nat ≤ z'.nx.nat ∧ Rn P nt c z' K
def seqY (P : Program) (nt : Nat) (b c : RC) (x : X) (K : Ex → X → Prop) (e : Ex) (y : X) : Prop :=
  match e with
  | .normal => Rn P nt b y (SeqZ P nt c x K)
  | .ret => False
  | .exit _ => False
theorem Rn.seqB {a b c : RC} {x : X} {K : Ex → X → Prop} (h : Rn P nt a x (seqY P nt b c x K)) : Rn P nt (.seq a (.seq b c)) x K := Rn.of_bare fun code hc hs => by
  refine other hc hs (fun e => by cases e) (fun _ e => by cases e) (fun j _ e => by cases e) (fun i ops _ e => by cases e) (fun i ops _ e => by cases e) (fun a' b2 e e' => ?_) (fun _ _ _ _ _ _ e => by cases e) (fun _ _ _ e => by cases e) (fun _ _ e => by cases e) (fun _ _ _ _ _ _ _ _ _ e => by cases e) (fun e => by cases e)
  simp only [RC.seq.injEq] at e'
  obtain ⟨e1, e2⟩ := e'
  subst e
  obtain ⟨c1, k1, k2, k3⟩ := bareW (P := P) (nt := nt) b2
  refine other (k1.trans e2.symm) k2 (fun e => by cases e) (fun _ e => by cases e) (fun j _ e => by cases e) (fun i ops _ e => by cases e) (fun i ops _ e => by cases e) (fun b' c' e e' => ?_) (fun _ _ _ _ _ _ e => by cases e) (fun _ _ _ e => by cases e) (fun _ _ e => by cases e) (fun _ _ _ _ _ _ _ _ _ e => by cases e) (fun e => by cases e)
  simp only [RC.seq.injEq] at e'
  obtain ⟨e3, e4⟩ := e'
  subst e
  obtain ⟨e, y, h1, h2⟩ := h.ok a' e1.symm
  cases e with
  | normal =>
    obtain ⟨e, z, h3, h4⟩ := h2.ok b' e3.symm
    obtain ⟨rfl, z', B, S, q1, q2, q3, h5⟩ := h4.ok
    obtain ⟨e, Z, h6, h7⟩ := h5.ok c' e4.symm
    exact ⟨e, Z, XOk.seqB k3 h1 h3 S q1 q2 q3 h6, h7⟩
  | ret => exact absurd h2 (fun h => h)
  | exit i => exact absurd h2 (fun h => h)
end
end Go.Ev

namespace Go.Ev
theorem WB.decT {p : Prop} [Decidable p] {F : Bool → Prop} (h : p) (k : F true) : WB (decide p) F := WB.of (by rw [decide_eq_true h]; exact k)
theorem WB.decF {p : Prop} [Decidable p] {F : Bool → Prop} (h : ¬ p) (k : F false) : WB (decide p) F := WB.of (by rw [decide_eq_false h]; exact k)
theorem WB.ndT {p : Prop} [Decidable p] {F : Bool → Prop} (h : p) (k : F false) : WB (!decide p) F := WB.of (by rw [decide_eq_true h]; exact k)
theorem WB.ndF {p : Prop} [Decidable p] {F : Bool → Prop} (h : ¬ p) (k : F true) : WB (!decide p) F := WB.of (by rw [decide_eq_false h]; exact k)
theorem WB.nt {F : Bool → Prop} (k : F false) : WB (!true) F := WB.of k
theorem WB.nf {F : Bool → Prop} (k : F true) : WB (!false) F := WB.of k
theorem WB.at' {b c : Bool} {F : Bool → Prop} (h : b = c) (k : F c) : WB b F := WB.of (by rw [h]; exact k)
end Go.Ev

namespace Go.Ev
open Go.RowKit (Below Grown)

/-! ### closed calls on values, run in the kernel -/
def all2 {α β : Type} (f : α → β → Bool) : List α → List β → Bool
  | [], [] => true
  | a :: l, b :: m => f a b && all2 f l m
  | _, _ => false
def cellsB (f : D → D → Bool) (st : Nat) : List Cell → List D → Bool
  | _, [] => true
  | c :: cs, d :: ds => c.has st && (f c.d d && cellsB f st cs ds)
  | [], _ :: _ => false
def rowsB (f : D → D → Bool) (st z : Nat) : List (List D) → List Cell → Bool
  | [], _ => true
  | r :: fs, cs => Nat.beq r.length z && (cellsB f st cs r && rowsB f st z fs (cs.drop z))
noncomputable def fzB : Nat → T C → D → D → Bool
  | 0, _, _, _ => false
  | n + 1, ob, a, b => match a, b with
    | .b x, .b y => x == y
    | .i k n, .i k' m => kEq k k' && eqB n m
    | .ns, .lst _ fs => fs.isEmpty
    | .ns, .ns => true
    | .em, .em => true
    | .em, .lst _ fs => fs.isEmpty
    | .sl id off len st z, .lst z' fs => Nat.beq z z' && (Nat.beq len fs.length && (match ob.get id with
        | some (.cells _ cs _) => rowsB (fzB n ob) st z fs (cs.drop off)
        | _ => false))
    | .ag cs, .ag ds => all2 (fzB n ob) cs ds
    | .tp cs, .tp ds => all2 (fzB n ob) cs ds
    | .lst z es, .lst z' fs => Nat.beq z z' && all2 (all2 (fzB n ob)) es fs
    | .nf, .nf => true
    | .nm, .nm => true
    | .np, .np => true
    | .ni, .ni => true
    | _, _ => false

section
variable {ob : T C}
theorem all2_fz {f : D → D → Bool} (hf : ∀ a b, f a b = true → Frz ob a b) : ∀ {l m : List D}, all2 f l m = true → FzL (fun _ => False) ob l m
  | [], [], _ => .nil
  | a :: l, b :: m, h => by
    simp only [all2, Bool.and_eq_true] at h
    exact .cons (hf a b h.1) (all2_fz hf h.2)
  | [], _ :: _, h => by cases h
  | _ :: _, [], h => by cases h
theorem cellsB_ok {f : D → D → Bool} {st : Nat} (hf : ∀ a b, f a b = true → Frz ob a b) : ∀ {ds : List D} {cs : List Cell}, cellsB f st cs ds = true → ∃ es : List D, es.length = ds.length ∧ FzL (fun _ => False) ob es ds ∧ ∀ (k : Nat) e, es[k]? = some e → ∃ c : Cell, cs[k]? = some c ∧ c.has st = true ∧ c.d = e
  | [], cs, _ => ⟨[], rfl, .nil, fun k e h => by simp at h⟩
  | d :: ds, [], h => by cases h
  | d :: ds, c :: cs, h => by
    simp only [cellsB, Bool.and_eq_true] at h
    obtain ⟨es, h1, h2, h3⟩ := cellsB_ok hf h.2.2
    refine ⟨c.d :: es, by simp [h1], .cons (hf _ _ h.2.1) h2, fun k e he => ?_⟩
    cases k with
    | zero => simp at he; exact ⟨c, rfl, h.1, he⟩
    | succ k => exact h3 k e (by simpa using he)
theorem rowsB_ok {f : D → D → Bool} {st z : Nat} (hf : ∀ a b, f a b = true → Frz ob a b) : ∀ {fs : List (List D)} {cs : List Cell}, rowsB f st z fs cs = true → ∃ es : List (List D), es.length = fs.length ∧ (∀ r ∈ es, r.length = z) ∧ Vis st cs es.flatten ∧ FzE (fun _ => False) ob es fs
  | [], cs, _ => ⟨[], rfl, by simp, fun k e h => by simp at h, .nil⟩
  | r :: fs, cs, h => by
    simp only [rowsB, Bool.and_eq_true] at h
    have hz := Nat.eq_of_beq_eq_true h.1
    obtain ⟨e, h1, h2, h3⟩ := cellsB_ok hf h.2.1
    obtain ⟨es, h4, h5, h6, h7⟩ := rowsB_ok hf h.2.2
    have hel : e.length = z := by rw [h1, hz]
    refine ⟨e :: es, by simp [h4], fun r' hr' => ?_, fun k d hk => ?_, .cons h2 h7⟩
    · rcases List.mem_cons.1 hr' with rfl | hr'
      · exact hel
      · exact h5 r' hr'
    · simp only [List.flatten_cons] at hk
      by_cases hlt : k < e.length
      · rw [List.getElem?_append_left hlt] at hk
        exact h3 k d hk
      · rw [List.getElem?_append_right (by omega)] at hk
        obtain ⟨c, k1, k2⟩ := h6 _ d hk
        rw [List.getElem?_drop] at k1
        exact ⟨c, by rw [show z + (k - e.length) = k by omega] at k1; exact k1, k2⟩
theorem fzB_ok : ∀ (n : Nat) (a b : D), fzB n ob a b = true → Frz ob a b
  | 0, _, _, h => by cases h
  | n + 1, a, b, h => by
    have ih := fzB_ok n
    unfold fzB at h
    split at h
    · obtain rfl := of_decide_eq_true (p := _ = _) (by simpa using h); exact .pu trivial
    · rw [Bool.and_eq_true] at h
      obtain rfl := kEq_iff.1 h.1
      obtain rfl := eqB_iff.1 h.2
      exact .pu trivial
    · rename_i fs
      cases fs with
      | nil => exact .ns
      | cons _ _ => cases h
    · exact .pu trivial
    · exact .pu trivial
    · rename_i fs
      cases fs with
      | nil => exact .em
      | cons _ _ => cases h
    · rename_i id off len st z z' fs
      rw [Bool.and_eq_true, Bool.and_eq_true] at h
      obtain rfl := Nat.eq_of_beq_eq_true h.1
      obtain rfl := Nat.eq_of_beq_eq_true h.2.1
      have h2 := h.2.2
      split at h2
      · rename_i q cs cur hg
        obtain ⟨es, h4, h5, h6, h7⟩ := rowsB_ok ih h2
        exact .sl (fun h => h) hg h4 h5 h6 h7
      · cases h2
    · exact .ag (all2_fz ih h)
    · exact .tp (all2_fz ih h)
    · rw [Bool.and_eq_true] at h
      obtain rfl := Nat.eq_of_beq_eq_true h.1
      refine .lst ?_
      have key : ∀ {es fs : List (List D)}, all2 (all2 (fzB n ob)) es fs = true → FzE (fun _ => False) ob es fs := by
        intro es
        induction es with
        | nil => intro fs h; cases fs with
          | nil => exact .nil
          | cons _ _ => cases h
        | cons e es ihe => intro fs h; cases fs with
          | nil => cases h
          | cons f fs =>
            simp only [all2, Bool.and_eq_true] at h
            exact .cons (all2_fz ih h.1) (ihe h.2)
      exact key h.2
    all_goals first | exact .pu trivial | (cases h; done)
end

section
variable {P : Program} {FP : T RF}
noncomputable def ranK (v u : D) (ob : T C) (_ : Pos) (lg : Option (T Bool)) : Option X :=
  match lg with
  | none => bif fzB 50 ob u v then some ⟨.e, .e, .h, none⟩ else none
  | some _ => none
noncomputable def ranB (P : Program) (FP : T RF) (n : Nat) (f : Pos) (ds : List D) (v : D) : Bool :=
  match callF FP (exec P FP n) f ds .e .h none (ranK v) with
  | some _ => true
  | none => false
theorem PureF.ran (hFP : FPok P FP) {n : Nat} {f : Pos} {ds : List D} {v : D} (h : ranB P FP n f ds v = true) (hp : PuL ds) : PureF P f.ix ds v := by
  unfold ranB at h
  split at h
  · rename_i y hy
    obtain ⟨u, ob', nx', lg', h1, Cc⟩ := callF_ok hFP (exec_ok hFP n).1 hy
    have hf : fzB 50 ob' u v = true := by
      unfold ranK at h1
      split at h1
      · cases hb : fzB 50 ob' u v with
        | true => rfl
        | false => rw [hb] at h1; cases h1
      · cases h1
    exact fun ob nx lg => Cc.shut hp (fzB_ok 50 u v hf) ob nx lg
  · cases h
end
end Go.Ev

namespace Go.Ev
set_option maxRecDepth 100000
/-! ### what the texts of stage 1 have that speaks of no program: for the other stages, whose texts cannot import them -/
def inB (n a b : Int) : Bool := decide (a ≤ n ∧ n ≤ b)
theorem countP_take_succ {α : Type} {l : List α} {p : α → Bool} {i : Nat} {d : α} (h : i < l.length) : (l.take (i + 1)).countP p = (l.take i).countP p + if p (l.getD i d) then 1 else 0 := by
  rw [List.take_succ_eq_append_getElem h, List.countP_append]
  simp [List.countP_cons, List.getD, h]
theorem countP_take_le {α : Type} {l : List α} {p : α → Bool} (i : Nat) : (l.take i).countP p ≤ i := Nat.le_trans List.countP_le_length (by simp; omega)
theorem range_succ_all {p : Nat → Bool} {j : Nat} (h : (List.range j).all p = true) (k : p j = true) : (List.range (j + 1)).all p = true := by
  rw [List.range_succ, List.all_append, h]; simp [k]
theorem range_all_false {p : Nat → Bool} {j n : Nat} (h : j < n) (k : p j = false) : (List.range n).all p = false := by
  rw [List.all_eq_false]
  exact ⟨j, List.mem_range.2 h, by rw [k]; simp⟩
/-- The sum of a part. -/
def sumP (l : List Int) (f k : Nat) : Int := ((l.drop f).take k).sum
theorem sumP_succ {l : List Int} {f k : Nat} (h : f + k < l.length) : sumP l f (k + 1) = sumP l f k + l.getD (f + k) 0 := by
  unfold sumP
  rw [List.take_succ_eq_append_getElem (by simp; omega), List.sum_append]
  simp [List.getD, h]
theorem ints_one (l : List Int) : ∀ r ∈ ints l, r.length = 1 := fun r hr => by
  obtain ⟨n, _, rfl⟩ := List.mem_map.1 hr
  rfl
theorem WSt.ixaN {sl : T D} {ob : T C} {nx : Pos} {lg : Option (T Bool)} {K : X → Prop} {d id : Pos} {len z off st m : Nat} {k : IntKind} {x i : RX} {n : Int} (hx : opd sl x = some (.pt id off st)) (hi : opd sl i = some (.i k n)) (hn : n = (m : Int)) (hm : m < len) (h : wOut sl ob nx lg d K (.pt id (off + m * z) st)) : WSt (.ixa d len z x i) ⟨sl, ob, nx, lg⟩ K := by
  obtain ⟨h2, h3⟩ := wOut_ok h
  refine ⟨_, ?_, h3⟩
  show s_ixa d len z x i sl ob nx lg = _
  unfold s_ixa
  rw [hx, hi, hn]
  have e : idx (m : Int) len = some m := by
    show (bif Nat.blt m len then some m else none) = _
    rw [show Nat.blt m len = true from Nat.ble_eq_true_of_le hm]
    rfl
  simp only [e, natK_eq]
  exact h2
theorem Frz.ptr {ob : T C} {id : Pos} {st : Nat} {cs : List Cell} {cur : Nat} {r : List D} (h : ob.get id = some (.cells false cs cur)) (hc : cs = r.map fun d => Cell.o d st) (h0 : 0 < r.length) (hp : PuL r) : Frz ob (.pt id 0 st) (.pl r 0) := by
  subst hc
  refine .pt (fun h => h) h h0 (fun k d hk => ⟨.o d st, ?_, ?_, rfl⟩) (FzL.of hp)
  · rw [List.drop_zero, List.getElem?_map, hk]; rfl
  · show Nat.ble st st = true
    exact Nat.ble_eq_true_of_le (Nat.le_refl _)
theorem T.le_ee {α : Type} {l r : T α} (hl : T.le l .e) (hr : T.le r .e) : T.le (.n l none r) .e := fun p x h => by
  cases p with
  | h => rw [T.get_h] at h; cases h
  | o p => exact absurd (hl p x h) (by rw [T.get_e]; exact fun h => by cases h)
  | i p => exact absurd (hr p x h) (by rw [T.get_e]; exact fun h => by cases h)
theorem KpO.le {n : Nat} {a b : T C} (h : T.le a b) (k : KpO n b) : KpO n a := fun id c hc => k id c (h id c hc)
theorem Shr.kpg {ob ob' : T C} {nx nx' : Pos} (h : Rel (fun _ c c' => c = c' ∨ ShC (fun id => id.nat < nx'.nat) ob c c') (fun p => p) ob' ob) (k : KpO nx'.nat ob') : Shr ⟨.e, ob, nx, none⟩ ⟨.e, ob', nx', none⟩ :=
  ⟨(fun s d h => by rw [T.get_e] at h; cases h), fun id c' hc => let ⟨c, h1, h2⟩ := h id c' hc; ⟨(k id c' hc).1, c, h1, h2.elim (fun e => by rw [e]; exact ShC.kp (k id c' hc).2) (fun h => h)⟩, rfl, rfl⟩
theorem one_kp {n : Nat} {d : D} {r : Bool} {k m : Nat} (h : Kp n d) : KpC n (.cells r [.o d k] m) := by
  refine KpL.all ?_
  simp [KpL, Cell.d, h]
/-- The least, the greatest. -/
def minL (a : Int) (L : List Int) : Int := L.foldl min a
def maxL (a : Int) (L : List Int) : Int := L.foldl max a
theorem foldl_take_succ {β : Type} (h : β → Int → β) (b : β) {L : List Int} {j : Nat} (hj : j < L.length) : (L.take (j + 1)).foldl h b = h ((L.take j).foldl h b) (L.getD j 0) := by
  rw [take_succ_getD (d := 0) hj, List.foldl_append]; rfl
theorem ShrB.of {B : Pos → Prop} {z z' : X} (hs : Rel (RS B z.ob) (fun p => p) z'.sl z.sl) (ho : Rel (fun id c c' => B id ∧ ShC B z.ob c c') (fun p => p) z'.ob z.ob) (l : z.lg = none) (l' : z'.lg = none) : ShrB B z z' :=
  ⟨fun s d' h => hs s d' h, fun id c' h => by
    obtain ⟨c, h1, h2, h3⟩ := ho id c' h
    exact ⟨h2, c, h1, h3⟩, l, l'⟩
theorem Rel.ee {α : Type} {R : Pos → α → α → Prop} {g : Pos → Pos} {l r : T α} (hl : Rel R (fun p => g (.o p)) l .e) (hr : Rel R (fun p => g (.i p)) r .e) : Rel R g (.n l Option.none r) .e := fun p x h => by
  cases p with
  | h => rw [T.get_h] at h; cases h
  | o p => obtain ⟨y, h1, _⟩ := hl p x h; rw [T.get_e] at h1; cases h1
  | i p => obtain ⟨y, h1, _⟩ := hr p x h; rw [T.get_e] at h1; cases h1
theorem Fz.grown {B : Pos → Prop} {ob : T C} {id : Pos} {s1 s2 cur n z : Nat} {ds r : List D} {cs : List Cell} {es : List (List D)} (hB : ¬ B id) (h : ob.get id = some (.cells false cs cur)) (hc : cs = (ds.map fun d => Cell.o d s1) ++ r.map fun d => Cell.o d s2) (hs : s1 ≤ s2) (he : es.flatten = ds ++ r) (hn : n = es.length) (hz : ∀ x ∈ es, x.length = z) (hp : PuE es) : Fz B ob (.sl id 0 n s2 z) (.lst z es) := by
  subst hc
  refine .sl hB h hn.symm hz (fun k d hk => ?_) (FzE.of hp)
  rw [he] at hk
  rw [List.drop_zero]
  by_cases hlt : k < ds.length
  · rw [List.getElem?_append_left hlt] at hk
    refine ⟨.o d s1, ?_, Nat.ble_eq_true_of_le hs, rfl⟩
    rw [List.getElem?_append_left (by simpa using hlt), List.getElem?_map, hk]; rfl
  · rw [List.getElem?_append_right (by omega)] at hk
    refine ⟨.o d s2, ?_, Nat.ble_eq_true_of_le (Nat.le_refl _), rfl⟩
    rw [List.getElem?_append_right (by simp; omega), List.length_map, List.getElem?_map, hk]; rfl
theorem growK_emp {β : Type} (new : List D) (k : List Cell → Option β) : growK 0 1 new 0 [] k = k (new.map fun d => Cell.o d 1) := by
  show shutK (Nat.pred 1) (dropC (List.length new) []) (fun l => consK (fun d => .o d 1) new l k) = _
  rw [dropC_eq, shutK_eq, consK_eq]
  simp
theorem WSt.app_emp {sl : T D} {ob : T C} {nx : Pos} {K : X → Prop} {d id : Pos} {z : Nat} {x y : RX} {es : List (List D)} (hx : opd sl x = some (.sl id 0 0 0 z)) (hox : ob.get id = some (.cells false [] 1)) (hy : opd sl y = some (.lst z es)) (hz : ∀ r ∈ es, r.length = z) (hlen : es.length ≤ 2147483648)
    (h : ∀ st, T.setK id (.cells false (es.flatten.map fun d => Cell.o d st) (st + 1)) ob fun ob => wOut sl ob nx none d K (.sl id 0 es.length st z)) : WSt (.app d z x y) ⟨sl, ob, nx, none⟩ K := by
  have hfl : es.flatten.length = es.length * z := by
    clear hlen hy h
    induction es with
    | nil => simp
    | cons r es ih => simp [ih (fun r h => hz r (by simp [h])), hz r (by simp), Nat.add_mul]; omega
  have hb : (Nat.beq z z && Nat.beq (List.length (List.flatten es)) (Nat.mul (List.length es) z)) = true := by
    rw [hfl]; simp
  cases hk : es.length with
  | zero =>
    have he : es = [] := List.length_eq_zero_iff.1 hk
    subst he
    have h0 := h 0
    rw [T.setK_eq] at h0
    have h0 : wOut sl (T.set id (C.cells false [] 1) ob) nx none d K (D.sl id 0 0 0 z) := h0
    rw [T.set_get hox] at h0
    obtain ⟨h2, h3⟩ := wOut_ok h0
    refine ⟨_, ?_, h3⟩
    show s_app d z x y sl ob nx none = _
    unfold s_app
    rw [hx, hy]
    have hb : Nat.beq (List.length (List.flatten ([] : List (List D)))) (Nat.mul 0 z) = true := by simp
    simp only [srcK, hb, cond_true, Bool.and_self, logO, List.length_nil, logR, hox, Nat.beq_refl]
    exact h2
  | succ k =>
    have h1 := h 1
    rw [T.setK_eq] at h1
    obtain ⟨h2, h3⟩ := wOut_ok h1
    refine ⟨_, ?_, h3⟩
    show s_app d z x y sl ob nx none = _
    unfold s_app
    rw [hx, hy]
    rw [hk] at hlen h2 hb
    have hle : Nat.ble (Nat.add 0 (Nat.succ k)) 2147483648 = true := Nat.ble_eq_true_of_le (by simpa using hlen)
    have hb : Nat.beq (List.length (List.flatten es)) (Nat.mul (k + 1) z) = true := by rw [hfl, hk]; simp
    have hm : Nat.add 0 (Nat.mul 0 z) = 0 := by show 0 + 0 * z = 0; simp
    simp only [srcK, hk, hb, cond_true, logO, Nat.beq_refl, Bool.true_and, hle, hox, hm, growK_emp, natK_eq, objOutK, logW, T.setK_eq]
    have e1 : Nat.add 0 (Nat.succ k) = k + 1 := by show 0 + (k + 1) = k + 1; omega
    rw [e1]
    exact h2
theorem ShC.grownF {B : Pos → Prop} {ob : T C} {ds : List D} {d d' : D} {st cur c : Nat} (h : st ≤ cur) (hp : PuL ds) (hf : Fz B ob d d') : ShC B ob (.cells false ((ds.map fun d => Cell.o d st) ++ [Cell.o d cur]) c) (.cells false ((ds ++ [d']).map fun d => Cell.o d cur) c) := by
  refine .cells fun k c' hc => ?_
  rw [List.getElem?_map] at hc
  by_cases hlt : k < ds.length
  · rw [List.getElem?_append_left hlt] at hc
    cases hd : ds[k]? with
    | none => rw [hd] at hc; cases hc
    | some e =>
      rw [hd] at hc
      cases hc
      refine ⟨.o e st, by rw [List.getElem?_append_left (by simpa using hlt), List.getElem?_map, hd]; rfl, fun s hs => ?_, .pu (PuL_iff.1 hp e (List.mem_of_getElem? hd))⟩
      have hs : Nat.ble cur s = true := hs
      exact Nat.ble_eq_true_of_le (Nat.le_trans h (Nat.le_of_ble_eq_true hs))
  · rw [List.getElem?_append_right (by omega)] at hc
    have hk : k - ds.length = 0 := by
      cases hk : k - ds.length with
      | zero => rfl
      | succ j => rw [hk] at hc; simp at hc
    rw [hk] at hc
    cases hc
    exact ⟨.o d cur, by rw [List.getElem?_append_right (by simp; omega), List.length_map, hk]; rfl, fun s hs => hs, hf⟩
theorem ints_app (x : List Int) (n : Int) : ints (x ++ [n]) = ints x ++ [[D.i .i64 n]] := by simp [ints]
def tD (x : List Int) : List D := [.lst 1 (ints x)]
def tDs (L : List (List Int)) : List D := L.map fun x => D.lst 1 (ints x)
theorem pu_tD (x : List Int) : PuL (tD x) := by simp [tD, PuL, Pu, pu_ints]
theorem pu_tDs (L : List (List Int)) : PuL (tDs L) := PuL_iff.2 fun d hd => by
  obtain ⟨x, _, rfl⟩ := List.mem_map.1 hd
  simp [Pu, pu_ints]
theorem tD_one (L : List (List Int)) : ∀ r ∈ rows tD L, r.length = 1 := fun r hr => by
  obtain ⟨x, _, rfl⟩ := List.mem_map.1 hr; rfl
theorem tD_flat (L : List (List Int)) : (rows tD L).flatten = tDs L := by
  induction L with
  | nil => rfl
  | cons a L ih => simp only [rows, tDs, List.map_cons, List.flatten_cons] at *; rw [ih]; rfl
theorem tDs_length (L : List (List Int)) : (tDs L).length = L.length := by simp [tDs]
theorem tDs_app (A : List (List Int)) (x : List Int) : tDs (A ++ [x]) = tDs A ++ [D.lst 1 (ints x)] := by simp [tDs]
theorem pu_tR (L : List (List Int)) : PuE (rows tD L) := pu_rows pu_tD L
section
variable {sl : T D} {ob : T C} {nx : Pos} {K : X → Prop}
theorem WSt.eqr2 {lg : Option (T Bool)} {d : Pos} {x y : RX} {a b a' b' : Int} (h1 : opd sl x = some (.ag [.i .i64 a, .i .i64 b])) (h2 : opd sl y = some (.ag [.i .i64 a', .i .i64 b'])) (w1 : wfB .i64 a = true) (w2 : wfB .i64 b = true) (w3 : wfB .i64 a' = true) (w4 : wfB .i64 b' = true) (k : wOut sl ob nx lg d K (.b (decide (a = a' ∧ b = b')))) :
    WSt (.eqr d false [.i .i64, .i .i64] x y) ⟨sl, ob, nx, lg⟩ K := by
  obtain ⟨k1, k2⟩ := wOut_ok k
  refine ⟨_, ?_, k2⟩
  show s_eqr _ _ _ x y sl ob nx lg = _
  unfold s_eqr
  rw [h1, h2]
  have e : eqR [.i .i64, .i .i64] (.ag [.i .i64 a, .i .i64 b]) (.ag [.i .i64 a', .i .i64 b']) = some (decide (a = a' ∧ b = b')) := by
    have hk : kEq .i64 .i64 = true := rfl
    simp only [eqR, eqL, eqC, hk, w1, w2, w3, w4, Bool.and_self, cond_true, Option.some.injEq]
    simp only [eqB_eq, Bool.decide_and]
    have hb : ∀ a b : Int, (a == b) = decide (a = b) := fun a b => by by_cases h : a = b <;> simp [h]
    simp only [hb, Bool.and_true]
  simp only [e, cond_false, boolK_eq]
  exact k1
end
theorem wf_small {n : Int} (h1 : -1000000000000000000 ≤ n) (h2 : n ≤ 1000000000000000000) : wfB .i64 n = true := by
  cases n with
  | ofNat m =>
    have h2 : (m : Int) ≤ 1000000000000000000 := h2
    exact Nat.ble_eq_true_of_le (by simp only [imax]; omega)
  | negSucc m =>
    have h1 : -1000000000000000000 ≤ Int.negSucc m := h1
    show (IntKind.signed .i64 && Nat.ble m (imax .i64)) = true
    rw [show IntKind.signed .i64 = true from rfl, Bool.true_and]
    exact Nat.ble_eq_true_of_le (by simp only [imax]; omega)
theorem filter_take_succ {α : Type} {p : α → Bool} {l : List α} {j : Nat} {d : α} (h : j < l.length) : (l.take (j + 1)).filter p = (l.take j).filter p ++ bif p (l.getD j d) then [l.getD j d] else [] := by
  rw [take_succ_getD (d := d) h, List.filter_append]
  generalize l.getD j d = x
  cases h : p x <;> simp [List.filter, h]
theorem foldmin_mem : ∀ {L : List Int} {a : Int}, L.foldl min a = a ∨ L.foldl min a ∈ L
  | [], a => .inl rfl
  | b :: L, a => by
    show List.foldl min (min a b) L = a ∨ _
    rcases foldmin_mem (L := L) (a := min a b) with h | h
    · have : min a b = a ∨ min a b = b := by omega
      rcases this with e | e
      · exact .inl (by rw [h, e])
      · exact .inr (by show List.foldl min (min a b) L ∈ _; rw [h, e]; simp)
    · exact .inr (List.mem_cons_of_mem _ h)
theorem foldmax_mem : ∀ {L : List Int} {a : Int}, L.foldl max a = a ∨ L.foldl max a ∈ L
  | [], a => .inl rfl
  | b :: L, a => by
    show List.foldl max (max a b) L = a ∨ _
    rcases foldmax_mem (L := L) (a := max a b) with h | h
    · have : max a b = a ∨ max a b = b := by omega
      rcases this with e | e
      · exact .inl (by rw [h, e])
      · exact .inr (by show List.foldl max (max a b) L ∈ _; rw [h, e]; simp)
    · exact .inr (List.mem_cons_of_mem _ h)
theorem foldmin_first : ∀ {L : List Int} {B : Int}, L ≠ [] → (∀ x ∈ L, x ≤ B) → minL (L.getD 0 0) L = L.foldl min B
  | a :: L, B, _, h => by
    unfold minL
    show List.foldl min (min a a) L = List.foldl min (min B a) L
    have := h a (by simp)
    rw [show min a a = a by omega, show min B a = a by omega]
theorem foldmax_first : ∀ {L : List Int} {B : Int}, L ≠ [] → (∀ x ∈ L, B ≤ x) → maxL (L.getD 0 0) L = L.foldl max B
  | a :: L, B, _, h => by
    unfold maxL
    show List.foldl max (max a a) L = List.foldl max (max B a) L
    have := h a (by simp)
    rw [show max a a = a by omega, show max B a = a by omega]
theorem foldmin_le : ∀ (L : List Int) (a : Int), L.foldl min a ≤ a ∧ ∀ x ∈ L, L.foldl min a ≤ x
  | [], a => ⟨Int.le_refl _, fun x h => by cases h⟩
  | b :: L, a => by
    obtain ⟨h1, h2⟩ := foldmin_le L (min a b)
    refine ⟨by show List.foldl min (min a b) L ≤ a; omega, fun x hx => ?_⟩
    show List.foldl min (min a b) L ≤ x
    rcases List.mem_cons.1 hx with rfl | hx
    · omega
    · exact h2 x hx
theorem foldmax_le : ∀ (L : List Int) (a : Int), a ≤ L.foldl max a ∧ ∀ x ∈ L, x ≤ L.foldl max a
  | [], a => ⟨Int.le_refl _, fun x h => by cases h⟩
  | b :: L, a => by
    obtain ⟨h1, h2⟩ := foldmax_le L (max a b)
    refine ⟨by show a ≤ List.foldl max (max a b) L; omega, fun x hx => ?_⟩
    show x ≤ List.foldl max (max a b) L
    rcases List.mem_cons.1 hx with rfl | hx
    · omega
    · exact h2 x hx
theorem any_take_succ {α : Type} {l : List α} {p : α → Bool} {i : Nat} {d : α} (h : i < l.length) : (l.take (i + 1)).any p = ((l.take i).any p || p (l.getD i d)) := by
  rw [take_succ_getD (d := d) h, List.any_append]
  simp
theorem sum_take_succ {α : Type} {l : List α} {h : α → Int} {j : Nat} {d : α} (hj : j < l.length) : ((l.take (j + 1)).map h).sum = ((l.take j).map h).sum + h (l.getD j d) := by
  rw [take_succ_getD (d := d) hj, List.map_append, List.sum_append]
  simp
theorem WSt.eqr2n {sl : T D} {ob : T C} {nx : Pos} {K : X → Prop} {lg : Option (T Bool)} {d : Pos} {x y : RX} {a b a' b' : Int} (h1 : opd sl x = some (.ag [.i .i64 a, .i .i64 b])) (h2 : opd sl y = some (.ag [.i .i64 a', .i .i64 b'])) (w1 : wfB .i64 a = true) (w2 : wfB .i64 b = true) (w3 : wfB .i64 a' = true) (w4 : wfB .i64 b' = true) (k : wOut sl ob nx lg d K (.b (!decide (a = a' ∧ b = b')))) :
    WSt (.eqr d true [.i .i64, .i .i64] x y) ⟨sl, ob, nx, lg⟩ K := by
  obtain ⟨k1, k2⟩ := wOut_ok k
  refine ⟨_, ?_, k2⟩
  show s_eqr _ _ _ x y sl ob nx lg = _
  unfold s_eqr
  rw [h1, h2]
  have e : eqR [.i .i64, .i .i64] (.ag [.i .i64 a, .i .i64 b]) (.ag [.i .i64 a', .i .i64 b']) = some (decide (a = a' ∧ b = b')) := by
    have hk : kEq .i64 .i64 = true := rfl
    simp only [eqR, eqL, eqC, hk, w1, w2, w3, w4, Bool.and_self, cond_true, Option.some.injEq]
    simp only [eqB_eq, Bool.decide_and]
    have hb : ∀ a b : Int, (a == b) = decide (a = b) := fun a b => by by_cases h : a = b <;> simp [h]
    simp only [hb, Bool.and_true]
  simp only [e, cond_true, boolK_eq]
  exact k1
structure FinX (rs : List RR) (Φ : D → Prop) (e : Ex) (z : X) : Prop where
  ok : ∃ v, Φ v ∧ Fin rs v e z
theorem PureF.runE {P : Program} {f nt : Nat} {rc : RC} {rs : List RR} {ds : List D} {Φ : D → Prop} (F : FnOk P f nt rc rs) (hlen : ds.length ≤ nt) (hp : PuL ds) (h : argsP ds .h .e fun sl => Rn P nt rc ⟨sl, .e, .h, none⟩ (FinX rs Φ)) : ∃ v, Φ v ∧ PureF P f ds v := by
  obtain ⟨fn, c, hf, hb, hc, hr, hname, h6⟩ := F.ok
  subst h6
  obtain ⟨sl0, h, hsl⟩ := argsP_ok h
  obtain ⟨e, ⟨sl, ob1, nx1, lg1⟩, X1, FE⟩ := h.ok c hc
  obtain ⟨v, hΦ, F⟩ := FE.ok
  obtain ⟨u, h1, h2⟩ := F.hr
  obtain ⟨v', ob', nx', lg', h3, C⟩ := body_ok (k := fun v ob nx lg => some ⟨T.set .h v .e, ob, nx, lg⟩) hf hb hr hname hlen hsl F.he X1 h1
  have h3 := Option.some.inj h3
  have e1 := congrArg (fun t => T.get t .h) (X.mk.inj h3).1
  simp only [T.get_set_same, Option.some.injEq] at e1
  have e2 := (X.mk.inj h3).2.1
  have e3 : ob' = ob1 := e2
  subst e1
  subst e3
  exact ⟨v, hΦ, C.shut hp h2⟩
theorem inB_spec {n a b : Int} (h : inB n a b = true) : a ≤ n ∧ n ≤ b := by unfold inB at h; exact of_decide_eq_true h
theorem inB_with {n a b : Int} {Q : Prop} (h : inB n a b = true) (k : a ≤ n → n ≤ b → Q) : Q := k (inB_spec h).1 (inB_spec h).2
theorem quo_bd {w k : Int} (h0 : 0 ≤ w) (h1 : w ≤ 65535) (hk : 0 < k) : 0 ≤ w.tdiv k ∧ w.tdiv k ≤ 65535 := by
  rw [Int.tdiv_eq_ediv_of_nonneg h0]
  exact ⟨Int.ediv_nonneg h0 (by omega), Int.le_trans (Int.ediv_le_self _ h0) h1⟩
theorem pre0 {l : List Int} (h : 0 < l.length) : ∃ a0 r, l = a0 :: r := by
  match l, h with
  | a0 :: r, _ => exact ⟨a0, r, rfl⟩
theorem pre1 {l : List Int} (h : 1 < l.length) : ∃ a0 a1 r, l = a0 :: a1 :: r := by
  match l, h with
  | a0 :: a1 :: r, _ => exact ⟨a0, a1, r, rfl⟩
theorem pre2 {l : List Int} (h : 2 < l.length) : ∃ a0 a1 a2 r, l = a0 :: a1 :: a2 :: r := by
  match l, h with
  | a0 :: a1 :: a2 :: r, _ => exact ⟨a0, a1, a2, r, rfl⟩
theorem pre3 {l : List Int} (h : 3 < l.length) : ∃ a0 a1 a2 a3 r, l = a0 :: a1 :: a2 :: a3 :: r := by
  match l, h with
  | a0 :: a1 :: a2 :: a3 :: r, _ => exact ⟨a0, a1, a2, a3, r, rfl⟩
theorem pre4 {l : List Int} (h : 4 < l.length) : ∃ a0 a1 a2 a3 a4 r, l = a0 :: a1 :: a2 :: a3 :: a4 :: r := by
  match l, h with
  | a0 :: a1 :: a2 :: a3 :: a4 :: r, _ => exact ⟨a0, a1, a2, a3, a4, r, rfl⟩
theorem pre5 {l : List Int} (h : 5 < l.length) : ∃ a0 a1 a2 a3 a4 a5 r, l = a0 :: a1 :: a2 :: a3 :: a4 :: a5 :: r := by
  match l, h with
  | a0 :: a1 :: a2 :: a3 :: a4 :: a5 :: r, _ => exact ⟨a0, a1, a2, a3, a4, a5, r, rfl⟩
theorem pre6 {l : List Int} (h : 6 < l.length) : ∃ a0 a1 a2 a3 a4 a5 a6 r, l = a0 :: a1 :: a2 :: a3 :: a4 :: a5 :: a6 :: r := by
  match l, h with
  | a0 :: a1 :: a2 :: a3 :: a4 :: a5 :: a6 :: r, _ => exact ⟨a0, a1, a2, a3, a4, a5, a6, r, rfl⟩
theorem pre7 {l : List Int} (h : 7 < l.length) : ∃ a0 a1 a2 a3 a4 a5 a6 a7 r, l = a0 :: a1 :: a2 :: a3 :: a4 :: a5 :: a6 :: a7 :: r := by
  match l, h with
  | a0 :: a1 :: a2 :: a3 :: a4 :: a5 :: a6 :: a7 :: r, _ => exact ⟨a0, a1, a2, a3, a4, a5, a6, a7, r, rfl⟩
theorem pre8 {l : List Int} (h : 8 < l.length) : ∃ a0 a1 a2 a3 a4 a5 a6 a7 a8 r, l = a0 :: a1 :: a2 :: a3 :: a4 :: a5 :: a6 :: a7 :: a8 :: r := by
  match l, h with
  | a0 :: a1 :: a2 :: a3 :: a4 :: a5 :: a6 :: a7 :: a8 :: r, _ => exact ⟨a0, a1, a2, a3, a4, a5, a6, a7, a8, r, rfl⟩
theorem WSt.ixsO {sl : T D} {ob : T C} {nx : Pos} {lg : Option (T Bool)} {K : X → Prop} {d id : Pos} {len st m : Nat} {k : IntKind} {x i : RX} {n : Int} (hx : opd sl x = some (.sl id 0 len st 1)) (hi : opd sl i = some (.i k n)) (hn : n = (m : Int)) (hm : m < len) (h : wOut sl ob nx lg d K (.pt id m st)) : WSt (.ixs d 1 x i) ⟨sl, ob, nx, lg⟩ K := by
  obtain ⟨h2, h3⟩ := wOut_ok h
  refine ⟨_, ?_, h3⟩
  show s_ixs d 1 x i sl ob nx lg = _
  unfold s_ixs
  rw [hx, hi]
  subst hn
  have hidx : idx (m : Int) len = some m := by
    show (bif Nat.blt m len then some m else none) = some m
    rw [show Nat.blt m len = true from Nat.ble_eq_true_of_le hm]; rfl
  have h1 : Nat.add 0 (Nat.mul m 1) = m := by show 0 + m * 1 = m; omega
  simp only [Nat.beq_refl, cond_true, hidx, natK_eq, h1]
  exact h2
end Go.Ev
