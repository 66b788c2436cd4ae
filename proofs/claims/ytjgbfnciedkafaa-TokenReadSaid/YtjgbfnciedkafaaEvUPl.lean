import Derived.Test.YtjgbfnciedkafaaEvUTc
import Derived.ShutString
import Derived.WalkKit
import Derived.ProofKit
import Derived.Test.YtjgbfnciedkafaaEvUWp
set_option linter.all false
namespace Go.Ev
open Go.RowKit Go.ChangeShapes
def FitP : List (Bool × List CK) → List D → Prop
  | [], ds => ds = []
  | (true, r) :: ps, ds => ∃ es ds', ds = .ag es :: ds' ∧ FitL r es ∧ FitP ps ds'
  | (false, r) :: ps, ds => ∃ d ds', ds = d :: ds' ∧ FitL r [d] ∧ FitP ps ds'
def parT (P : Program) (n : Nat) (t : TypeId) : Option (Bool × List CK) := match P.underlying t with
  | some (.struct _) => match rowT P n t with
    | some r => some (true, r)
    | none => none
  | some (.slice _) => match rowT P n t with
    | some r => some (false, r)
    | none => none
  | some (.int _) => match rowT P n t with
    | some r => some (false, r)
    | none => none
  | some .bool => match rowT P n t with
    | some r => some (false, r)
    | none => none
  | _ => none
def parsT (P : Program) (n : Nat) : List TypeId → Option (List (Bool × List CK))
  | [] => some []
  | t :: ts => match parT P n t, parsT P n ts with
    | some p, some ps => some (p :: ps)
    | _, _ => none
section
variable {H : Type} {enc : TypeId × Value → H} {P : Program} {w : World} {r : Reach} {b0 : Nat} {spare : Nat → Bool} {held : Bool} {n : Nat}
theorem open_bool {t : TypeId} {v : Value} {d : DataW H} {ps : List MemPlace} (ht : P.underlying t = some .bool) (hv : Value.okWide P w r b0 t v) (h : DataW.Trod enc P w 0 spare held t v d ps) : ∃ b, v = .bool b := by
  simp only [Value.okWide, ht, Cell.okWide] at hv
  obtain ⟨m, h⟩ := h
  obtain ⟨b, hc, _⟩ := DataW.trod_bool ht h
  cases v <;> simp_all [Value.cells, Cell.ok]
theorem open_one {t : TypeId} {v : Value} {d : DataW H} {ps : List MemPlace} {par : Bool × List CK} (hp : parT P n t = some par) (hv : Value.okWide P w r b0 t v) (h : DataW.Trod enc P w 0 spare held t v d ps) :
    ∃ e : D, DV (γH w) w e v ∧ ∀ (qs : List (Bool × List CK)) (es : List D), FitP qs es → FitP (par :: qs) (e :: es) := by
  unfold parT at hp
  cases ht : P.underlying t with
  | none => rw [ht] at hp; cases hp
  | some u =>
    rw [ht] at hp
    cases hr : rowT P n t with
    | none => cases u <;> simp only [hr] at hp <;> cases hp
    | some row =>
      cases u <;> simp only [hr] at hp <;> first | cases hp; done | skip
      case bool =>
        cases hp
        obtain ⟨b, rfl⟩ := open_bool ht hv h
        have hrow : row = [.b] := by
          cases n with
          | zero => cases hr
          | succ n => simp only [rowT, ht, Option.some.injEq] at hr; exact hr.symm
        subst hrow
        exact ⟨.b b, DV_of_b _, fun qs es hq => by unfold FitP; exact ⟨_, _, rfl, by simp [FitL, FitC], hq⟩⟩
      case int k =>
        cases hp
        obtain ⟨m, rfl, hm⟩ := open_num ht hv h
        have hrow : row = [.i k] := by
          cases n with
          | zero => cases hr
          | succ n => simp only [rowT, ht, Option.some.injEq] at hr; exact hr.symm
        subst hrow
        exact ⟨.i k m, DV_of_i _ _, fun qs es hq => by unfold FitP; exact ⟨_, _, rfl, by simp [FitL, FitC, hm], hq⟩⟩
      case slice e =>
        cases hp
        obtain ⟨ds, h1, h2⟩ := open_list ht hv hr h
        cases ds with
        | nil => unfold DVL at h2; cases h2
        | cons d ds =>
          unfold DVL at h2
          obtain ⟨v', r', h3, h4, h5⟩ := h2
          cases h3
          cases ds with
          | nil => exact ⟨d, h4, fun qs es hq => by unfold FitP; exact ⟨_, _, rfl, h1, hq⟩⟩
          | cons d' ds =>
            unfold DVL at h5
            obtain ⟨_, _, h6, _⟩ := h5
            cases h6
      case struct fs =>
        cases hp
        obtain ⟨ds, h1, h2⟩ := open_struct ht hv hr h
        exact ⟨.ag ds, h2, fun qs es hq => by unfold FitP; exact ⟨_, _, rfl, h1, hq⟩⟩
theorem open_all : ∀ {ts : List TypeId} {vs : List Value} {ds : List (DataW H)} {ps : List MemPlace} {pars : List (Bool × List CK)}, parsT P n ts = some pars → DataW.TrodAll enc P w 0 spare held ts vs ds ps → (∀ (j : Nat) t v, ts[j]? = some t → vs[j]? = some v → Value.okWide P w r b0 t v) → ∃ es, FitP pars es ∧ DVL (γH w) w es vs
  | [], vs, ds, ps, pars, hp, h, hv => by
    obtain ⟨rfl, rfl, rfl⟩ := trodAll_nil h
    cases hp
    exact ⟨[], by simp [FitP], DVL.nil⟩
  | t :: ts, vs, ds, ps, pars, hp, h, hv => by
    obtain ⟨v, vs', d, ds', p, q, rfl, rfl, rfl, h1, h2⟩ := trodAll_cons h
    unfold parsT at hp
    cases ha : parT P n t with
    | none => rw [ha] at hp; cases hp
    | some a =>
      cases hb : parsT P n ts with
      | none => rw [ha, hb] at hp; cases hp
      | some b =>
        rw [ha, hb] at hp
        cases hp
        obtain ⟨e, k1, k2⟩ := open_one ha (hv 0 t v rfl rfl) h1
        obtain ⟨es, k3, k4⟩ := open_all hb h2 fun j t v x y => hv (j + 1) t v x y
        exact ⟨e :: es, k2 _ _ k3, DVL.cons k1 k4⟩
theorem stays_all (hl : laidOutB P = true) {W W' : World} {sp' : Nat → Bool} : ∀ {ts : List TypeId} {vs : List Value} {ds : List (DataW H)} {ps : List MemPlace}, (∀ t ∈ ts, P.readableRec t = true ∧ t < P.types.size) → DataW.TrodAll enc P W 0 (fun _ => true) true ts vs ds ps → (∀ p ∈ ps, W.sameAt W' p) → (∀ p ∈ ps, sp' p.block = true) → DataW.TrodAll enc P W' 0 sp' true ts vs ds ps
  | [], vs, ds, ps, _, h, _, _ => by
    obtain ⟨rfl, rfl, rfl⟩ := trodAll_nil h
    exact trodAll_mk0
  | t :: ts, vs, ds, ps, ht, h, h1, h2 => by
    obtain ⟨v, vs', d, ds', p, q, rfl, rfl, rfl, k1, k2⟩ := trodAll_cons h
    exact ⟨p, q, Go.WideElems.Trod_stays hl (ht t (by simp)).1 (ht t (by simp)).2 k1 (fun x hx => h1 x (List.mem_append_left _ hx)) (fun x hx => h2 x (List.mem_append_left _ hx)),
      stays_all hl (fun t h => ht t (by simp [h])) k2 (fun x hx => h1 x (List.mem_append_right _ hx)) (fun x hx => h2 x (List.mem_append_right _ hx)), rfl⟩
end
end Go.Ev
namespace Go.Ev
section
variable {ps : List (Bool × List CK)} {ds : List D}
theorem FitP.i {k : IntKind} (h : FitP ((false, [.i k]) :: ps) ds) : ∃ n ds', ds = .i k n :: ds' ∧ (Lit.int k n).wf = true ∧ FitP ps ds' := by
  unfold FitP at h
  obtain ⟨d, ds', rfl, h1, h2⟩ := h
  simp only [FitL, FitC] at h1
  obtain ⟨d, ds, e, ⟨n, rfl, hw⟩, rfl⟩ := h1
  cases e
  exact ⟨n, ds', rfl, hw, h2⟩
theorem FitP.b (h : FitP ((false, [.b]) :: ps) ds) : ∃ t ds', ds = .b t :: ds' ∧ FitP ps ds' := by
  unfold FitP at h
  obtain ⟨d, ds', rfl, h1, h2⟩ := h
  simp only [FitL, FitC] at h1
  obtain ⟨d, ds, e, ⟨n, rfl⟩, rfl⟩ := h1
  cases e
  exact ⟨n, ds', rfl, h2⟩
theorem FitP.list (h : FitP ((false, [.sl [.i .i64]]) :: ps) ds) : ∃ t ds', ds = .lst 1 (ints t) :: ds' ∧ (∀ n ∈ t, wfB .i64 n = true) ∧ FitP ps ds' := by
  unfold FitP at h
  obtain ⟨d, ds', rfl, h1, h2⟩ := h
  simp only [FitL, FitC] at h1
  obtain ⟨d, ds, e, ⟨es, rfl, h1⟩, rfl⟩ := h1
  cases e
  obtain ⟨l, rfl, hl⟩ := fit_ints fun x hx => by have := h1 x hx; simpa only [FitL, FitC] using this
  exact ⟨l, ds', rfl, hl, h2⟩
theorem FitP.no (h : FitP [] ds) : ds = [] := by unfold FitP at h; exact h
end
theorem wf_u8 {n : Int} (h : (Lit.int .u8 n).wf = true) : 0 ≤ n ∧ n ≤ 255 := by
  simp only [Lit.wf, Bool.and_eq_true, decide_eq_true_eq] at h
  exact ⟨h.1, h.2⟩
theorem len5 {α : Type} {l : List α} (h : l.length = 5) : ∃ a b c d e, l = [a, b, c, d, e] := by
  match l, h with
  | [a, b, c, d, e], _ => exact ⟨a, b, c, d, e, rfl⟩
theorem trod_len {H : Type} {enc : TypeId × Value → H} {P : Program} {w : World} {base : Nat} {spare : Nat → Bool} {held : Bool} : ∀ {ts : List TypeId} {vs : List Value} {ds : List (DataW H)} {ps : List MemPlace}, DataW.TrodAll enc P w base spare held ts vs ds ps → ds.length = ts.length
  | [], vs, ds, ps, h => by obtain ⟨rfl, rfl, rfl⟩ := Go.ChangeShapes.trodAll_nil h; rfl
  | t :: ts, vs, ds, ps, h => by
    obtain ⟨v, vs', d, ds', p, q, rfl, rfl, rfl, h1, h2⟩ := Go.ChangeShapes.trodAll_cons h
    rw [List.length_cons, List.length_cons, trod_len h2]
end Go.Ev
namespace Go.Ev
def allT (P : Program) : List TypeId → Bool
  | [] => true
  | t :: ts => P.readableRec t && decide (t < P.types.size) && allT P ts
theorem of_allT {P : Program} : ∀ {ts : List TypeId}, allT P ts = true → ∀ t ∈ ts, P.readableRec t = true ∧ t < P.types.size
  | [], _, t, h => by cases h
  | a :: ts, h, t, ht => by
    unfold allT at h
    rw [Bool.and_eq_true, Bool.and_eq_true, decide_eq_true_iff] at h
    rcases List.mem_cons.1 ht with rfl | ht
    · exact h.1
    · exact of_allT h.2 t ht
end Go.Ev
namespace Go.Ev
open Go.RowKit (Below Grown)
structure ShrB (B : Pos → Prop) (z z' : X) : Prop where
  sl : ∀ s d', z'.sl.get s = some d' → ∃ d, z.sl.get s = some d ∧ Fz B z.ob d d'
  ob : ∀ id c', z'.ob.get id = some c' → B id ∧ ∃ c, z.ob.get id = some c ∧ ShC B z.ob c c'
  l : z.lg = none
  l' : z'.lg = none
section
variable {P : Program} {nt : Nat}
structure AgainB {σ : Type} (S : σ → X) (I : σ → Prop) (μ : σ → Nat) (s : σ) (z : X) : Prop where
  ok : ∃ s' B, μ s' < μ s ∧ I s' ∧ (S s).nx.nat ≤ (S s').nx.nat ∧ (∀ id : Pos, id.nat < (S s).nx.nat → B id) ∧ (∀ id : Pos, B id → id.nat < (S s').nx.nat) ∧ ShrB B z (S s')
theorem AgainB.to {σ : Type} {S : σ → X} {I : σ → Prop} {μ : σ → Nat} {s : σ} {z : X} (s' : σ) (B : Pos → Prop) (h : μ s' < μ s) (i : I s') (n : (S s).nx.nat ≤ (S s').nx.nat) (b1 : ∀ id : Pos, id.nat < (S s).nx.nat → B id) (b2 : ∀ id : Pos, B id → id.nat < (S s').nx.nat) (l : ShrB B z (S s')) : AgainB S I μ s z := ⟨s', B, h, i, n, b1, b2, l⟩
theorem Shr.toB {z z' : X} (h : Shr z z') : ShrB (fun id => id.nat < z'.nx.nat) z z' := ⟨h.sl, h.ob, h.l, h.l'⟩
theorem AgainB.sh {σ : Type} {S : σ → X} {I : σ → Prop} {μ : σ → Nat} {s : σ} {z : X} (s' : σ) (h : μ s' < μ s) (i : I s') (n : (S s).nx.nat ≤ (S s').nx.nat) (l : Shr z (S s')) : AgainB S I μ s z :=
  ⟨s', _, h, i, n, fun _ h => Nat.lt_of_lt_of_le h n, fun _ h => h, l.toB⟩
end
end Go.Ev
namespace Go.Ev
open Go.RowKit (Below Grown)
section
variable {P : Program} {nt : Nat}
open Classical in
theorem shrinkB_at {x Z Z' : X} {B : Pos → Prop} {ro : Option Nat} {so : Pos → Prop} {γ γ1 : Gh} {a a1 : Act} {w w1 : World} (S : ShrB B Z Z') (hx : ∀ id : Pos, id.nat < x.nx.nat → B id) (hz : ∀ id : Pos, B id → id.nat < Z'.nx.nat) (hall : ∀ id, so id) (R : Rep P (allS so) γ a w x) (cst : CSt ro Z.lg γ a w γ1 a1 w1) (rep : Rep P (allS so) γ1 a1 w1 Z) :
    ∃ γ2, CSt ro Z'.lg γ a w γ2 a1 w1 ∧ Rep P (allS so) γ2 a1 w1 Z' := by
  have hzero : ∀ id, ¬ B id → γ.cur id = 0 := fun id hid => R.nx id (hall id) (Nat.not_lt.1 fun h => hid (hx id h))
  let γ2 : Gh := ⟨fun id => if B id then γ1.cur id else 0, γ1.β, fun b => γ1.im b ∨ ((∃ id st, ¬ B id ∧ st < γ1.cur id ∧ (γ1.β id st).1 = b) ∧ ∃ vs e fr, w1.heap[b]? = some (.cells vs e fr))⟩
  have c2 : ∀ id, B id → γ2.cur id = γ1.cur id := fun id hid => by show (if _ then _ else _) = _; rw [if_pos hid]
  have c2' : ∀ id, ¬ B id → γ2.cur id = 0 := fun id hid => by show (if _ then _ else _) = _; rw [if_neg hid]
  have lt2 : ∀ id st, st < γ2.cur id → B id ∧ st < γ1.cur id := fun id st hst => by
    by_cases hid : B id
    · rw [c2 id hid] at hst; exact ⟨hid, hst⟩
    · rw [c2' id hid] at hst; exact absurd hst (Nat.not_lt_zero _)
  have hob1 : ∀ id c, Z.ob.get id = some c → HoldsO P γ1 w1 id c := fun id c hc => rep.ob id c (hall id) hc
  have fz : ∀ d d', Fz B Z.ob d d' → ∀ v, DV γ1 w1 d v → DV γ2 w1 d' v := fun d d' hf =>
    Fz.ok (γ := γ1) (γ' := γ2) (fun b hb => .inl hb) hob1 (fun id hid => ⟨c2 id hid, rfl⟩) (fun id st vs e fr hid hst hc => .inr ⟨⟨id, st, hid, hst, rfl⟩, vs, e, fr, hc⟩) hf
  have F := cst.fr
  have fresh : ∀ id st, ¬ B id → st < γ1.cur id → w.heap.size ≤ (γ1.β id st).1 := fun id st hid hst => by
    rcases F.new id st (by rw [hzero id hid]; exact Nat.zero_le _) hst with h | ⟨st0, h, _⟩
    · exact h
    · rw [hzero id hid] at h; exact absurd h (Nat.not_lt_zero _)
  have G2 : G ro γ2 a1 w1 := by
    refine ⟨fun id st hst => cst.g.ob id st (lt2 id st hst).2, fun id st id' st' hst hst' he => cst.g.inj id st id' st' (lt2 id st hst).2 (lt2 id' st' hst').2 he, ?_, cst.g.rd, fun b hb => ?_, cst.g.gl.im fun _ h => .inl h⟩
    · obtain ⟨ms, d1, d2, d3⟩ := cst.g.df
      exact ⟨ms, d1, d2, fun r hr => ⟨(d3 r hr).1, fun id st hst => (d3 r hr).2 id st (lt2 id st hst).2⟩⟩
    · rcases hb with hb | ⟨⟨id', st', h1, h2, h3⟩, h4⟩
      · exact ⟨(cst.g.im b hb).1, fun id st hst => (cst.g.im b hb).2 id st (lt2 id st hst).2⟩
      · refine ⟨h4, fun id st hst e => ?_⟩
        obtain ⟨k1, k2⟩ := lt2 id st hst
        have e : (γ1.β id st).1 = b := e
        obtain ⟨rfl, _⟩ := cst.g.inj id st id' st' k2 h2 (e.trans h3.symm)
        exact h1 k1
  have hw : ∀ {id : Pos}, wrtn Z'.lg id := fun {id} => by rw [S.l']; trivial
  have hwZ : ∀ {id : Pos}, wrtn Z.lg id := fun {id} => by rw [S.l]; trivial
  refine ⟨γ2, ⟨G2, ⟨⟨fun id => ?_, fun id st hst => F.up.β id st hst, F.up.sh, fun b hb => ⟨.inl (F.up.im b hb).1, (F.up.im b hb).2⟩⟩, fun id hn => absurd hw hn, fun b hb hn => F.blk b hb fun id st _ hst => hn id st hw hst, fun id st h1 h2 => F.new id st h1 (lt2 id st h2).2, fun b hb hlt => ?_, F.lp, F.size, F.os, F.tape, F.output, F.fz⟩, cst.sz, cst.dn⟩,
    ⟨fun s d' _ hd => ?_, fun id c' _ hc => ?_, fun id _ hle => c2' id (fun hb => by have := hz id hb; omega), cst.g.gl.im fun _ h => .inl h⟩⟩
  · by_cases hid : B id
    · rw [c2 id hid]; exact F.up.cur id
    · rw [hzero id hid]; exact Nat.zero_le _
  · rcases hb with hb | ⟨⟨id', st', h1, h2, h3⟩, h4⟩
    · exact F.imn b hb hlt
    · have := fresh id' st' h1 h2
      omega
  · obtain ⟨d, h1, h2⟩ := S.sl s d' hd
    obtain ⟨h3, h4⟩ := rep.sl s d trivial h1
    exact ⟨h3, fz d d' h2 _ h4⟩
  · obtain ⟨hid, c, h1, h2⟩ := S.ob id c' hc
    have H := hob1 id c h1
    cases h2 with
    | cells hcc =>
      obtain ⟨q0, q1, q2⟩ := H
      refine ⟨q0, (c2 id hid).trans q1, fun st hst => ?_⟩
      obtain ⟨vs, e, fr, q3, q4, q5⟩ := q2 st hst
      refine ⟨vs, e, fr, q3, q4, fun p c' hp hh hd => ?_⟩
      obtain ⟨c, k1, k2, k3⟩ := hcc p c' hp
      obtain ⟨u, k4, k5, k6⟩ := q5 p c k1 (k2 st hh) hd
      exact ⟨u, k4, fz _ _ k3 u k5, k6⟩
    | map hl hm =>
      obtain ⟨q1, en, cl, q2, q3, q4⟩ := H
      refine ⟨(c2 id hid).trans q1, en, cl, q2, by rw [← hl]; exact q3, fun i e' f he' hf => ?_⟩
      rename_i es es'
      have hi : i < es.length := by rw [hl]; exact (List.getElem?_eq_some_iff.1 he').1
      obtain ⟨k1, k2⟩ := hm i _ e' (List.getElem?_eq_getElem hi) he'
      obtain ⟨k3, k4⟩ := q4 i _ f (List.getElem?_eq_getElem hi) hf
      exact ⟨fz _ _ k1 _ k3, fz _ _ k2 _ k4⟩
    | lp hsl =>
      obtain ⟨q1, l, q2, q3, q4, q5, q6⟩ := H
      refine ⟨(c2 id hid).trans q1, l, q2, q3, q4, fun s d' hs => ?_, q6⟩
      obtain ⟨d, k1, k2⟩ := hsl s d' hs
      exact ⟨(q5 s d k1).1, fz _ _ k2 _ (q5 s d k1).2⟩
    | hole => exact (c2 id hid).trans H
theorem bareW : ∀ c : Code, ∃ c', comp P nt c' = comp P nt c ∧ (∀ d, c' ≠ .scope d) ∧ ∀ {F : Fence} {n : Nat} {Q : Exit → Act → World → Prop} {a : Act} {w : World}, ∃ Q' : Exit → Act → World → Prop, (∀ (e : Ex) a w, Q e.to a w → Q' e.to a w) ∧ (c'.wpIn F n P Q' a w → c.wpIn F n P Q a w)
  | .scope c => let ⟨c', h1, h2, h3⟩ := bareW c; ⟨c', h1, h2, fun {F n Q a w} => by
    obtain ⟨Q', k1, k2⟩ := h3 (F := F) (n := n) (Q := Exit.noGoto Q) (a := a) (w := w)
    exact ⟨Q', fun e a w h => k1 e a w (by cases e <;> exact h), fun h => wpIn_scope_straight' (k2 h)⟩⟩
  | .skip => ⟨.skip, rfl, (fun _ h => by cases h), fun {F n Q a w} => ⟨Q, fun _ _ _ h => h, fun h => h⟩⟩
  | .label l => ⟨.label l, rfl, (fun _ h => by cases h), fun {F n Q a w} => ⟨Q, fun _ _ _ h => h, fun h => h⟩⟩
  | .ret => ⟨.ret, rfl, (fun _ h => by cases h), fun {F n Q a w} => ⟨Q, fun _ _ _ h => h, fun h => h⟩⟩
  | .exit i => ⟨.exit i, rfl, (fun _ h => by cases h), fun {F n Q a w} => ⟨Q, fun _ _ _ h => h, fun h => h⟩⟩
  | .region i o d => ⟨.region i o d, rfl, (fun _ h => by cases h), fun {F n Q a w} => ⟨Q, fun _ _ _ h => h, fun h => h⟩⟩
  | .seq a b => ⟨.seq a b, rfl, (fun _ h => by cases h), fun {F n Q a w} => ⟨Q, fun _ _ _ h => h, fun h => h⟩⟩
  | .cond c a b => ⟨.cond c a b, rfl, (fun _ h => by cases h), fun {F n Q a w} => ⟨Q, fun _ _ _ h => h, fun h => h⟩⟩
  | .block i a => ⟨.block i a, rfl, (fun _ h => by cases h), fun {F n Q a w} => ⟨Q, fun _ _ _ h => h, fun h => h⟩⟩
  | .loop a => ⟨.loop a, rfl, (fun _ h => by cases h), fun {F n Q a w} => ⟨Q, fun _ _ _ h => h, fun h => h⟩⟩
  | .rangeFunc f p a b => ⟨.rangeFunc f p a b, rfl, (fun _ h => by cases h), fun {F n Q a w} => ⟨Q, fun _ _ _ h => h, fun h => h⟩⟩
  | .goto l => ⟨.goto l, rfl, (fun _ h => by cases h), fun {F n Q a w} => ⟨Q, fun _ _ _ h => h, fun h => h⟩⟩
  | .refuse s => ⟨.refuse s, rfl, (fun _ h => by cases h), fun {F n Q a w} => ⟨Q, fun _ _ _ h => h, fun h => h⟩⟩
structure SeqZ (P : Program) (nt : Nat) (c : RC) (x : X) (K : Ex → X → Prop) (e : Ex) (z : X) : Prop where
  ok : e = .normal ∧ ∃ z' B, ShrB B z z' ∧ (∀ id : Pos, id.nat < x.nx.nat → B id) ∧ (∀ id : Pos, B id → id.nat < z'.nx.nat) ∧ x.nx.nat ≤ z'.nx.nat ∧ Rn P nt c z' K
end
end Go.Ev
namespace Go.Ev
theorem WB.decT {p : Prop} [Decidable p] {F : Bool → Prop} (h : p) (k : F true) : WB (decide p) F := WB.of (by rw [decide_eq_true h]; exact k)
theorem WB.decF {p : Prop} [Decidable p] {F : Bool → Prop} (h : ¬ p) (k : F false) : WB (decide p) F := WB.of (by rw [decide_eq_false h]; exact k)
theorem WB.ndT {p : Prop} [Decidable p] {F : Bool → Prop} (h : p) (k : F false) : WB (!decide p) F := WB.of (by rw [decide_eq_true h]; exact k)
theorem WB.ndF {p : Prop} [Decidable p] {F : Bool → Prop} (h : ¬ p) (k : F true) : WB (!decide p) F := WB.of (by rw [decide_eq_false h]; exact k)
theorem WB.nt {F : Bool → Prop} (k : F false) : WB (!true) F := WB.of k
theorem WB.nf {F : Bool → Prop} (k : F true) : WB (!false) F := WB.of k
theorem WB.at' {b c : Bool} {F : Bool → Prop} (h : b = c) (k : F c) : WB b F := WB.of (by rw [h]; exact k)
end Go.Ev
namespace Go.Ev
open Go.RowKit (Below Grown)
section
variable {ob : T C}
end
section
variable {P : Program} {FP : T RF}
end
end Go.Ev
namespace Go.Ev
set_option maxRecDepth 100000
theorem WSt.ixaN {sl : T D} {ob : T C} {nx : Pos} {lg : Option (T Bool)} {K : X → Prop} {d id : Pos} {len z off st m : Nat} {k : IntKind} {x i : RX} {n : Int} (hx : opd sl x = some (.pt id off st)) (hi : opd sl i = some (.i k n)) (hn : n = (m : Int)) (hm : m < len) (h : wOut sl ob nx lg d K (.pt id (off + m * z) st)) : WSt (.ixa d len z x i) ⟨sl, ob, nx, lg⟩ K := by
  obtain ⟨h2, h3⟩ := wOut_ok h
  refine ⟨_, ?_, h3⟩
  show s_ixa d len z x i sl ob nx lg = _
  unfold s_ixa
  rw [hx, hi, hn]
  have e : idx (m : Int) len = some m := by
    show (bif Nat.blt m len then some m else none) = _
    rw [show Nat.blt m len = true from Nat.ble_eq_true_of_le hm]
    rfl
  simp only [e, natK_eq]
  exact h2
theorem Frz.ptr {ob : T C} {id : Pos} {st : Nat} {cs : List Cell} {cur : Nat} {r : List D} (h : ob.get id = some (.cells false cs cur)) (hc : cs = r.map fun d => Cell.o d st) (h0 : 0 < r.length) (hp : PuL r) : Frz ob (.pt id 0 st) (.pl r 0) := by
  subst hc
  refine .pt (fun h => h) h h0 (fun k d hk => ⟨.o d st, ?_, ?_, rfl⟩) (FzL.of hp)
  · rw [List.drop_zero, List.getElem?_map, hk]; rfl
  · show Nat.ble st st = true
    exact Nat.ble_eq_true_of_le (Nat.le_refl _)
theorem T.le_ee {α : Type} {l r : T α} (hl : T.le l .e) (hr : T.le r .e) : T.le (.n l none r) .e := fun p x h => by
  cases p with
  | h => rw [T.get_h] at h; cases h
  | o p => exact absurd (hl p x h) (by rw [T.get_e]; exact fun h => by cases h)
  | i p => exact absurd (hr p x h) (by rw [T.get_e]; exact fun h => by cases h)
theorem KpO.le {n : Nat} {a b : T C} (h : T.le a b) (k : KpO n b) : KpO n a := fun id c hc => k id c (h id c hc)
theorem one_kp {n : Nat} {d : D} {r : Bool} {k m : Nat} (h : Kp n d) : KpC n (.cells r [.o d k] m) := by
  refine KpL.all ?_
  simp [KpL, Cell.d, h]
theorem ShrB.of {B : Pos → Prop} {z z' : X} (hs : Rel (RS B z.ob) (fun p => p) z'.sl z.sl) (ho : Rel (fun id c c' => B id ∧ ShC B z.ob c c') (fun p => p) z'.ob z.ob) (l : z.lg = none) (l' : z'.lg = none) : ShrB B z z' :=
  ⟨fun s d' h => hs s d' h, fun id c' h => by
    obtain ⟨c, h1, h2, h3⟩ := ho id c' h
    exact ⟨h2, c, h1, h3⟩, l, l'⟩
theorem Rel.ee {α : Type} {R : Pos → α → α → Prop} {g : Pos → Pos} {l r : T α} (hl : Rel R (fun p => g (.o p)) l .e) (hr : Rel R (fun p => g (.i p)) r .e) : Rel R g (.n l Option.none r) .e := fun p x h => by
  cases p with
  | h => rw [T.get_h] at h; cases h
  | o p => obtain ⟨y, h1, _⟩ := hl p x h; rw [T.get_e] at h1; cases h1
  | i p => obtain ⟨y, h1, _⟩ := hr p x h; rw [T.get_e] at h1; cases h1
theorem Fz.grown {B : Pos → Prop} {ob : T C} {id : Pos} {s1 s2 cur n z : Nat} {ds r : List D} {cs : List Cell} {es : List (List D)} (hB : ¬ B id) (h : ob.get id = some (.cells false cs cur)) (hc : cs = (ds.map fun d => Cell.o d s1) ++ r.map fun d => Cell.o d s2) (hs : s1 ≤ s2) (he : es.flatten = ds ++ r) (hn : n = es.length) (hz : ∀ x ∈ es, x.length = z) (hp : PuE es) : Fz B ob (.sl id 0 n s2 z) (.lst z es) := by
  subst hc
  refine .sl hB h hn.symm hz (fun k d hk => ?_) (FzE.of hp)
  rw [he] at hk
  rw [List.drop_zero]
  by_cases hlt : k < ds.length
  · rw [List.getElem?_append_left hlt] at hk
    refine ⟨.o d s1, ?_, Nat.ble_eq_true_of_le hs, rfl⟩
    rw [List.getElem?_append_left (by simpa using hlt), List.getElem?_map, hk]; rfl
  · rw [List.getElem?_append_right (by omega)] at hk
    refine ⟨.o d s2, ?_, Nat.ble_eq_true_of_le (Nat.le_refl _), rfl⟩
    rw [List.getElem?_append_right (by simp; omega), List.length_map, List.getElem?_map, hk]; rfl
theorem growK_emp {β : Type} (new : List D) (k : List Cell → Option β) : growK 0 1 new 0 [] k = k (new.map fun d => Cell.o d 1) := by
  show shutK (Nat.pred 1) (dropC (List.length new) []) (fun l => consK (fun d => .o d 1) new l k) = _
  rw [dropC_eq, shutK_eq, consK_eq]
  simp
theorem WSt.app_emp {sl : T D} {ob : T C} {nx : Pos} {K : X → Prop} {d id : Pos} {z : Nat} {x y : RX} {es : List (List D)} (hx : opd sl x = some (.sl id 0 0 0 z)) (hox : ob.get id = some (.cells false [] 1)) (hy : opd sl y = some (.lst z es)) (hz : ∀ r ∈ es, r.length = z) (hlen : es.length ≤ 2147483648)
    (h : ∀ st, T.setK id (.cells false (es.flatten.map fun d => Cell.o d st) (st + 1)) ob fun ob => wOut sl ob nx none d K (.sl id 0 es.length st z)) : WSt (.app d z x y) ⟨sl, ob, nx, none⟩ K := by
  have hfl : es.flatten.length = es.length * z := by
    clear hlen hy h
    induction es with
    | nil => simp
    | cons r es ih => simp [ih (fun r h => hz r (by simp [h])), hz r (by simp), Nat.add_mul]; omega
  have hb : (Nat.beq z z && Nat.beq (List.length (List.flatten es)) (Nat.mul (List.length es) z)) = true := by
    rw [hfl]; simp
  cases hk : es.length with
  | zero =>
    have he : es = [] := List.length_eq_zero_iff.1 hk
    subst he
    have h0 := h 0
    rw [T.setK_eq] at h0
    have h0 : wOut sl (T.set id (C.cells false [] 1) ob) nx none d K (D.sl id 0 0 0 z) := h0
    rw [T.set_get hox] at h0
    obtain ⟨h2, h3⟩ := wOut_ok h0
    refine ⟨_, ?_, h3⟩
    show s_app d z x y sl ob nx none = _
    unfold s_app
    rw [hx, hy]
    have hb : Nat.beq (List.length (List.flatten ([] : List (List D)))) (Nat.mul 0 z) = true := by simp
    simp only [srcK, hb, cond_true, Bool.and_self, logO, List.length_nil, logR, hox, Nat.beq_refl]
    exact h2
  | succ k =>
    have h1 := h 1
    rw [T.setK_eq] at h1
    obtain ⟨h2, h3⟩ := wOut_ok h1
    refine ⟨_, ?_, h3⟩
    show s_app d z x y sl ob nx none = _
    unfold s_app
    rw [hx, hy]
    rw [hk] at hlen h2 hb
    have hle : Nat.ble (Nat.add 0 (Nat.succ k)) 2147483648 = true := Nat.ble_eq_true_of_le (by simpa using hlen)
    have hb : Nat.beq (List.length (List.flatten es)) (Nat.mul (k + 1) z) = true := by rw [hfl, hk]; simp
    have hm : Nat.add 0 (Nat.mul 0 z) = 0 := by show 0 + 0 * z = 0; simp
    simp only [srcK, hk, hb, cond_true, logO, Nat.beq_refl, Bool.true_and, hle, hox, hm, growK_emp, natK_eq, objOutK, logW, T.setK_eq]
    have e1 : Nat.add 0 (Nat.succ k) = k + 1 := by show 0 + (k + 1) = k + 1; omega
    rw [e1]
    exact h2
section
variable {sl : T D} {ob : T C} {nx : Pos} {K : X → Prop}
theorem WSt.eqr2 {lg : Option (T Bool)} {d : Pos} {x y : RX} {a b a' b' : Int} (h1 : opd sl x = some (.ag [.i .i64 a, .i .i64 b])) (h2 : opd sl y = some (.ag [.i .i64 a', .i .i64 b'])) (w1 : wfB .i64 a = true) (w2 : wfB .i64 b = true) (w3 : wfB .i64 a' = true) (w4 : wfB .i64 b' = true) (k : wOut sl ob nx lg d K (.b (decide (a = a' ∧ b = b')))) :
    WSt (.eqr d false [.i .i64, .i .i64] x y) ⟨sl, ob, nx, lg⟩ K := by
  obtain ⟨k1, k2⟩ := wOut_ok k
  refine ⟨_, ?_, k2⟩
  show s_eqr _ _ _ x y sl ob nx lg = _
  unfold s_eqr
  rw [h1, h2]
  have e : eqR [.i .i64, .i .i64] (.ag [.i .i64 a, .i .i64 b]) (.ag [.i .i64 a', .i .i64 b']) = some (decide (a = a' ∧ b = b')) := by
    have hk : kEq .i64 .i64 = true := rfl
    simp only [eqR, eqL, eqC, hk, w1, w2, w3, w4, Bool.and_self, cond_true, Option.some.injEq]
    simp only [eqB_eq, Bool.decide_and]
    have hb : ∀ a b : Int, (a == b) = decide (a = b) := fun a b => by by_cases h : a = b <;> simp [h]
    simp only [hb, Bool.and_true]
  simp only [e, cond_false, boolK_eq]
  exact k1
end
theorem wf_small {n : Int} (h1 : -1000000000000000000 ≤ n) (h2 : n ≤ 1000000000000000000) : wfB .i64 n = true := by
  cases n with
  | ofNat m =>
    have h2 : (m : Int) ≤ 1000000000000000000 := h2
    exact Nat.ble_eq_true_of_le (by simp only [imax]; omega)
  | negSucc m =>
    have h1 : -1000000000000000000 ≤ Int.negSucc m := h1
    show (IntKind.signed .i64 && Nat.ble m (imax .i64)) = true
    rw [show IntKind.signed .i64 = true from rfl, Bool.true_and]
    exact Nat.ble_eq_true_of_le (by simp only [imax]; omega)
theorem foldmin_mem : ∀ {L : List Int} {a : Int}, L.foldl min a = a ∨ L.foldl min a ∈ L
  | [], a => .inl rfl
  | b :: L, a => by
    show List.foldl min (min a b) L = a ∨ _
    rcases foldmin_mem (L := L) (a := min a b) with h | h
    · have : min a b = a ∨ min a b = b := by omega
      rcases this with e | e
      · exact .inl (by rw [h, e])
      · exact .inr (by show List.foldl min (min a b) L ∈ _; rw [h, e]; simp)
    · exact .inr (List.mem_cons_of_mem _ h)
theorem foldmax_mem : ∀ {L : List Int} {a : Int}, L.foldl max a = a ∨ L.foldl max a ∈ L
  | [], a => .inl rfl
  | b :: L, a => by
    show List.foldl max (max a b) L = a ∨ _
    rcases foldmax_mem (L := L) (a := max a b) with h | h
    · have : max a b = a ∨ max a b = b := by omega
      rcases this with e | e
      · exact .inl (by rw [h, e])
      · exact .inr (by show List.foldl max (max a b) L ∈ _; rw [h, e]; simp)
    · exact .inr (List.mem_cons_of_mem _ h)
structure FinX (rs : List RR) (Φ : D → Prop) (e : Ex) (z : X) : Prop where
  ok : ∃ v, Φ v ∧ Fin rs v e z
theorem PureF.runE {P : Program} {f nt : Nat} {rc : RC} {rs : List RR} {ds : List D} {Φ : D → Prop} (F : FnOk P f nt rc rs) (hlen : ds.length ≤ nt) (hp : PuL ds) (h : argsP ds .h .e fun sl => Rn P nt rc ⟨sl, .e, .h, none⟩ (FinX rs Φ)) : ∃ v, Φ v ∧ PureF P f ds v := by
  obtain ⟨fn, c, hf, hb, hc, hr, hname, h6⟩ := F.ok
  subst h6
  obtain ⟨sl0, h, hsl⟩ := argsP_ok h
  obtain ⟨e, ⟨sl, ob1, nx1, lg1⟩, X1, FE⟩ := h.ok c hc
  obtain ⟨v, hΦ, F⟩ := FE.ok
  obtain ⟨u, h1, h2⟩ := F.hr
  obtain ⟨v', ob', nx', lg', h3, C⟩ := body_ok (k := fun v ob nx lg => some ⟨T.set .h v .e, ob, nx, lg⟩) hf hb hr hname hlen hsl F.he X1 h1
  have h3 := Option.some.inj h3
  have e1 := congrArg (fun t => T.get t .h) (X.mk.inj h3).1
  simp only [T.get_set_same, Option.some.injEq] at e1
  have e2 := (X.mk.inj h3).2.1
  have e3 : ob' = ob1 := e2
  subst e1
  subst e3
  exact ⟨v, hΦ, C.shut hp h2⟩
theorem pre6 {l : List Int} (h : 6 < l.length) : ∃ a0 a1 a2 a3 a4 a5 a6 r, l = a0 :: a1 :: a2 :: a3 :: a4 :: a5 :: a6 :: r := by
  match l, h with
  | a0 :: a1 :: a2 :: a3 :: a4 :: a5 :: a6 :: r, _ => exact ⟨a0, a1, a2, a3, a4, a5, a6, r, rfl⟩
end Go.Ev
namespace Go.Ev
set_option maxRecDepth 100000
structure Ln where
  k : Int
  c : Int
  t : Int
deriving Inhabited
structure Ct where
  a : Int
  lo : Int
  hi : Int
deriving Inhabited
def lnD (l : Ln) : List D := [.i .i64 l.k, .i .i64 l.c, .i .i64 l.t]
def ctD (c : Ct) : List D := [.i .i64 c.a, .i .i64 c.lo, .i .i64 c.hi]
def bk5 (n coin box : Int) (ls : List Ln) (cs : List Ct) : List D := [.i .i64 n, .i .i64 coin, .i .i64 box, .lst 3 (rows lnD ls), .lst 3 (rows ctD cs)]
theorem pu_ln (ls : List Ln) : PuE (rows lnD ls) := pu_rows (fun l => by simp [lnD, PuL, Pu]) ls
theorem pu_ct (cs : List Ct) : PuE (rows ctD cs) := pu_rows (fun l => by simp [ctD, PuL, Pu]) cs
theorem ln_three (ls : List Ln) : ∀ r ∈ rows lnD ls, r.length = 3 := fun r hr => by
  obtain ⟨l, _, rfl⟩ := List.mem_map.1 hr
  rfl
theorem ct_three (cs : List Ct) : ∀ r ∈ rows ctD cs, r.length = 3 := fun r hr => by
  obtain ⟨l, _, rfl⟩ := List.mem_map.1 hr
  rfl
def agB (l x : Ln) : Bool := (decide (l.k = 0) || decide (l.k = x.k)) && ((decide (l.c < 0) || decide (l.c = x.c)) && (decide (l.t < 0) || decide (l.t = x.t)))
def inR (n a b : Int) : Bool := decide (a ≤ n ∧ n ≤ b)
theorem inR_iff {n a b : Int} : inR n a b = true ↔ a ≤ n ∧ n ≤ b := decide_eq_true_iff
def lnOk (n : Int) (l : Ln) : Bool := inR l.k 0 2 && (inR l.c (-1) (n - 1) && inR l.t (-1) (n - 1))
def ctOk (m : Int) (c : Ct) : Bool := inR c.a 0 m && (decide (0 ≤ c.lo) && (decide (c.lo ≤ c.hi) && decide (c.hi ≤ 2000)))
def szK (l : Ln) : Int := if l.k = 0 then 2 else 1
def szC (n : Int) (l : Ln) : Int := if l.c = -1 then n else 1
def szT (n : Int) (l : Ln) : Int := if l.t = -1 then n else 1
def rdN (n : Int) (l : Ln) : Int := szK l * szC n l * szT n l
theorem rdN_bd {n : Int} (h1 : 1 ≤ n) (h4 : n ≤ 4) (l : Ln) : 1 ≤ rdN n l ∧ rdN n l ≤ 32 := by
  unfold rdN szK szC szT
  have : n = 1 ∨ n = 2 ∨ n = 3 ∨ n = 4 := by omega
  rcases this with rfl | rfl | rfl | rfl <;> split <;> split <;> split <;> omega
def prodP (n : Int) (ls : List Ln) : Int := ls.foldl (fun m l => m * rdN n l) 1
def manyR (n : Int) (ls : List Ln) : Int := ls.foldl (fun m l => min 5000 (m * rdN n l)) 1
theorem many_prodG {n : Int} (h1 : 1 ≤ n) (h4 : n ≤ 4) : ∀ (ls : List Ln) (p q : Int), 1 ≤ p → q = min 5000 p → ls.foldl (fun m l => min 5000 (m * rdN n l)) q = min 5000 (ls.foldl (fun m l => m * rdN n l) p) ∧ 1 ≤ ls.foldl (fun m l => m * rdN n l) p
  | [], p, q, hp, hq => ⟨hq, hp⟩
  | l :: ls, p, q, hp, hq => by
    obtain ⟨b1, b2⟩ := rdN_bd h1 h4 l
    have h0 : 1 ≤ p * rdN n l := by
      have := Int.mul_le_mul hp b1 (by omega) (by omega)
      omega
    refine many_prodG h1 h4 ls (p * rdN n l) (min 5000 (q * rdN n l)) h0 ?_
    by_cases h : p ≤ 5000
    · rw [hq, show min 5000 p = p by omega]
    · have e : q = 5000 := by omega
      have h2 : (5000 : Int) * 1 ≤ 5000 * rdN n l := Int.mul_le_mul (Int.le_refl _) b1 (by omega) (by omega)
      have h3 : (5000 : Int) * 1 ≤ p * rdN n l := Int.mul_le_mul (by omega) b1 (by omega) (by omega)
      rw [e]
      omega
theorem many_prod {n : Int} (h1 : 1 ≤ n) (h4 : n ≤ 4) (ls : List Ln) : manyR n ls = min 5000 (prodP n ls) ∧ 1 ≤ prodP n ls := many_prodG h1 h4 ls 1 1 (by omega) (by omega)
theorem prod_bdG {n : Int} (h1 : 1 ≤ n) (h4 : n ≤ 4) : ∀ (ls : List Ln) (p b : Int), 1 ≤ p → p ≤ b → ls.foldl (fun m l => m * rdN n l) p ≤ b * 32 ^ ls.length
  | [], p, b, _, h => by simpa using h
  | l :: ls, p, b, hp, h => by
    obtain ⟨b1, b2⟩ := rdN_bd h1 h4 l
    have h0 : 1 ≤ p * rdN n l := by
      have := Int.mul_le_mul hp b1 (by omega) (by omega)
      omega
    have h2 : p * rdN n l ≤ b * 32 := Int.mul_le_mul h b2 (by omega) (by omega)
    have := prod_bdG h1 h4 ls (p * rdN n l) (b * 32) h0 h2
    rw [List.length_cons, Int.pow_succ, show b * (32 ^ ls.length * 32) = b * 32 * 32 ^ ls.length by rw [Int.mul_assoc, Int.mul_comm 32]]
    exact this
def vldT (n coin box : Int) (ls : List Ln) (cs : List Ct) : Bool := inR n 1 4 && (inR coin 1 99 && (inR box 0 999 && (ls.all (lnOk n) && cs.all (ctOk ls.length))))
def faultT (n coin box : Int) (ls : List Ln) (cs : List Ct) : Int :=
  if 8 < ls.length ∨ 4 < cs.length then 3 else if vldT n coin box ls cs = true then (if 4096 < manyR n ls then 3 else 0) else 1
theorem fault_okT {n coin box : Int} {ls : List Ln} {cs : List Ct} (h : faultT n coin box ls cs = 0) : ls.length ≤ 8 ∧ cs.length ≤ 4 ∧ vldT n coin box ls cs = true ∧ manyR n ls ≤ 4096 := by
  unfold faultT at h
  split at h
  · cases h
  · split at h
    · split at h
      · cases h
      · exact ⟨by omega, by omega, by assumption, by omega⟩
    · cases h
def cOut (T : List Ln) (c : Int) : Nat → Int
  | 0 => -1
  | i + 1 => if (T.getD i default).c = c then (if (T.getD i default).k = 1 then (i : Int) else -1) else cOut T c i
def tOut (T : List Ln) (t : Int) : Nat → Int
  | 0 => -1
  | i + 1 => if (T.getD i default).t = t then (if (T.getD i default).k = 1 then (i : Int) else -1) else tOut T t i
theorem cOut_bd (T : List Ln) (c : Int) : ∀ i, -1 ≤ cOut T c i ∧ cOut T c i < i
  | 0 => by show -1 ≤ (-1 : Int) ∧ (-1 : Int) < 0; omega
  | i + 1 => by
    have := cOut_bd T c i
    unfold cOut
    split <;> try split
    all_goals omega
theorem tOut_bd (T : List Ln) (c : Int) : ∀ i, -1 ≤ tOut T c i ∧ tOut T c i < i
  | 0 => by show -1 ≤ (-1 : Int) ∧ (-1 : Int) < 0; omega
  | i + 1 => by
    have := tOut_bd T c i
    unfold tOut
    split <;> try split
    all_goals omega
def pos1 (T : List Ln) (i : Nat) : Bool := (decide (0 ≤ cOut T (T.getD i default).c i) == decide ((T.getD i default).k = 2)) && (decide (0 ≤ tOut T (T.getD i default).t i) == decide ((T.getD i default).k = 2))
def possB (T : List Ln) : Bool := (List.range T.length).all (pos1 T)
def monR (box coin : Int) (T : List Ln) : Nat → Int
  | 0 => box
  | i + 1 => if (T.getD i default).k = 1 then monR box coin T i + coin else monR box coin T i - coin
def mixR (T : List Ln) : Nat → Int
  | 0 => 0
  | i + 1 => mixR T i + if (T.getD i default).k = 2 ∧ cOut T (T.getD i default).c i ≠ tOut T (T.getD i default).t i then 1 else 0
theorem monR_bd {box coin : Int} {T : List Ln} (h1 : 0 ≤ box ∧ box ≤ 999) (h2 : 1 ≤ coin ∧ coin ≤ 99) : ∀ i : Nat, -99 * (i : Int) ≤ monR box coin T i ∧ monR box coin T i ≤ 999 + 99 * (i : Int)
  | 0 => by show -99 * 0 ≤ box ∧ box ≤ 999 + 99 * 0; omega
  | i + 1 => by
    have := monR_bd (T := T) h1 h2 i
    unfold monR
    split <;> omega
theorem mixR_bd {T : List Ln} : ∀ i : Nat, 0 ≤ mixR T i ∧ mixR T i ≤ i
  | 0 => by show (0 : Int) ≤ 0 ∧ (0 : Int) ≤ 0; omega
  | i + 1 => by
    have := mixR_bd (T := T) i
    unfold mixR
    split <;> omega
def rd1 (n : Int) (l x : Ln) : Bool := inR x.k 1 2 && (inR x.c 0 (n - 1) && (inR x.t 0 (n - 1) && agB l x))
def readB (n : Int) (ls T : List Ln) : Bool := decide (T.length = ls.length) && (List.range T.length).all fun i => rd1 n (ls.getD i default) (T.getD i default)
def cntB (box coin : Int) (cs : List Ct) (T : List Ln) : Bool := cs.all fun c => inR (monR box coin T c.a.toNat) c.lo c.hi
structure Mo where
  n : Int
  h : Nat → Int
  box : Int
  mix : Int
  last : Ln
instance : Inhabited Mo := ⟨⟨0, fun _ => 0, 0, 0, ⟨0, 0, 0⟩⟩⟩
def moD (m : Mo) : List D := [.i .i64 m.n, .i .i64 (m.h 0), .i .i64 (m.h 1), .i .i64 (m.h 2), .i .i64 (m.h 3), .i .i64 (m.h 4), .i .i64 (m.h 5), .i .i64 (m.h 6), .i .i64 (m.h 7), .i .i64 m.box, .i .i64 m.mix, .i .i64 m.last.k, .i .i64 m.last.c, .i .i64 m.last.t]
def upT (h : Nat → Int) (q : Nat) (v : Int) (i : Nat) : Int := if i = q then v else h i
def aftM (coin : Int) (m : Mo) (l : Ln) : Mo × Bool :=
  if l.k = 1 ∧ m.h l.c.toNat = 0 ∧ m.h (4 + l.t.toNat) = 0 then (⟨m.n + 1, upT (upT m.h l.c.toNat (m.n + 1)) (4 + l.t.toNat) (m.n + 1), m.box + coin, m.mix, l⟩, true)
  else if l.k = 2 ∧ m.h l.c.toNat ≠ 0 ∧ m.h (4 + l.t.toNat) ≠ 0 then (⟨m.n + 1, upT (upT m.h l.c.toNat 0) (4 + l.t.toNat) 0, m.box - coin, if m.h l.c.toNat ≠ m.h (4 + l.t.toNat) then m.mix + 1 else m.mix, l⟩, true)
  else (⟨m.n + 1, m.h, m.box, m.mix, l⟩, false)
def moR (box coin : Int) (T : List Ln) (i : Nat) : Mo := ⟨(i : Int), fun q => if q < 4 then cOut T (q : Int) i + 1 else tOut T ((q - 4 : Nat) : Int) i + 1, monR box coin T i, mixR T i, match i with
  | 0 => ⟨0, 0, 0⟩
  | i + 1 => T.getD i default⟩
theorem aft_pos {box coin : Int} {T : List Ln} {i : Nat} (hk : (T.getD i default).k = 1 ∨ (T.getD i default).k = 2) (hc : 0 ≤ (T.getD i default).c ∧ (T.getD i default).c ≤ 3) (ht : 0 ≤ (T.getD i default).t ∧ (T.getD i default).t ≤ 3) (hp : pos1 T i = true) : aftM coin (moR box coin T i) (T.getD i default) = (moR box coin T (i + 1), true) := by
  unfold pos1 at hp
  rw [Bool.and_eq_true, beq_iff_eq, beq_iff_eq] at hp
  obtain ⟨p1, p2⟩ := hp
  have hcN : (((T.getD i default).c.toNat : Nat) : Int) = (T.getD i default).c := by omega
  have htN : (((T.getD i default).t.toNat : Nat) : Int) = (T.getD i default).t := by omega
  have e1 : (moR box coin T i).h (T.getD i default).c.toNat = cOut T (T.getD i default).c i + 1 := by
    show (if (T.getD i default).c.toNat < 4 then _ else _) = _
    rw [if_pos (by omega), hcN]
  have e2 : (moR box coin T i).h (4 + (T.getD i default).t.toNat) = tOut T (T.getD i default).t i + 1 := by
    show (if 4 + (T.getD i default).t.toNat < 4 then _ else _) = _
    rw [if_neg (by omega), show 4 + (T.getD i default).t.toNat - 4 = (T.getD i default).t.toNat by omega, htN]
  have b1 := cOut_bd T (T.getD i default).c i
  have b2 := tOut_bd T (T.getD i default).t i
  have hext : ∀ v : Int, (∀ c : Int, cOut T c (i + 1) = if (T.getD i default).c = c then v - 1 else cOut T c i) → (∀ c : Int, tOut T c (i + 1) = if (T.getD i default).t = c then v - 1 else tOut T c i) → upT (upT (moR box coin T i).h (T.getD i default).c.toNat v) (4 + (T.getD i default).t.toNat) v = (moR box coin T (i + 1)).h := fun v h1 h2 => by
    funext q
    show (if q = 4 + (T.getD i default).t.toNat then v else if q = (T.getD i default).c.toNat then v else if q < 4 then cOut T (q : Int) i + 1 else tOut T ((q - 4 : Nat) : Int) i + 1) = if q < 4 then cOut T (q : Int) (i + 1) + 1 else tOut T ((q - 4 : Nat) : Int) (i + 1) + 1
    rw [h1, h2]
    by_cases hq : q < 4
    · rw [if_neg (show ¬ q = 4 + (T.getD i default).t.toNat by omega), if_pos hq, if_pos hq]
      by_cases hqc : q = (T.getD i default).c.toNat
      · rw [if_pos hqc, if_pos (by omega)]; omega
      · rw [if_neg hqc, if_neg (by omega)]
    · rw [if_neg hq, if_neg hq, if_neg (show ¬ q = (T.getD i default).c.toNat by omega)]
      by_cases hqt : q = 4 + (T.getD i default).t.toNat
      · rw [if_pos hqt, if_pos (by omega)]; omega
      · rw [if_neg hqt, if_neg (by omega)]
  unfold aftM
  rw [e1, e2]
  rcases hk with hk | hk
  · have q1 : ¬ 0 ≤ cOut T (T.getD i default).c i := by
      intro h; rw [decide_eq_true h, hk] at p1; cases p1
    have q2 : ¬ 0 ≤ tOut T (T.getD i default).t i := by
      intro h; rw [decide_eq_true h, hk] at p2; cases p2
    rw [if_pos ⟨hk, by omega, by omega⟩]
    have hh := hext ((i : Int) + 1) (fun c => by
      show (if _ then (if _ then _ else _) else _) = _
      rw [hk, if_pos rfl]
      congr 1; omega) (fun c => by
      show (if _ then (if _ then _ else _) else _) = _
      rw [hk, if_pos rfl]
      congr 1; omega)
    show ((⟨(i : Int) + 1, upT (upT (moR box coin T i).h _ ((i : Int) + 1)) _ ((i : Int) + 1), monR box coin T i + coin, mixR T i, T.getD i default⟩, true) : Mo × Bool) = _
    rw [hh]
    have m1 : monR box coin T (i + 1) = monR box coin T i + coin := by
      show (if _ then _ else _) = _
      rw [if_pos hk]
    have m2 : mixR T (i + 1) = mixR T i := by
      show mixR T i + (if _ then _ else _) = _
      rw [if_neg (by rw [hk]; intro h; omega)]; omega
    unfold moR
    simp only [m1, m2]
    rfl
  · have q1 : 0 ≤ cOut T (T.getD i default).c i := by
      refine Classical.byContradiction fun h => ?_
      rw [decide_eq_false h, hk] at p1; cases p1
    have q2 : 0 ≤ tOut T (T.getD i default).t i := by
      refine Classical.byContradiction fun h => ?_
      rw [decide_eq_false h, hk] at p2; cases p2
    rw [if_neg (fun h => by omega), if_pos ⟨hk, by omega, by omega⟩]
    have hh := hext 0 (fun c => by
      show (if _ then (if _ then _ else _) else _) = _
      by_cases hcc : (T.getD i default).c = c
      · rw [if_pos hcc, if_neg (by rw [hk]; decide), if_pos hcc]; rfl
      · rw [if_neg hcc, if_neg hcc]) (fun c => by
      show (if _ then (if _ then _ else _) else _) = _
      by_cases hcc : (T.getD i default).t = c
      · rw [if_pos hcc, if_neg (by rw [hk]; decide), if_pos hcc]; rfl
      · rw [if_neg hcc, if_neg hcc])
    show ((⟨(i : Int) + 1, upT (upT (moR box coin T i).h _ 0) _ 0, monR box coin T i - coin, (if cOut T _ i + 1 ≠ tOut T _ i + 1 then mixR T i + 1 else mixR T i), T.getD i default⟩, true) : Mo × Bool) = _
    rw [hh]
    have m1 : monR box coin T (i + 1) = monR box coin T i - coin := by
      show (if _ then _ else _) = _
      rw [if_neg (by rw [hk]; decide)]
    have m2 : mixR T (i + 1) = if cOut T (T.getD i default).c i + 1 ≠ tOut T (T.getD i default).t i + 1 then mixR T i + 1 else mixR T i := by
      show mixR T i + (if _ then _ else _) = _
      by_cases h : cOut T (T.getD i default).c i = tOut T (T.getD i default).t i
      · rw [if_neg (fun h' => h'.2 h), if_neg (fun h' => h' (by omega))]; omega
      · rw [if_pos ⟨hk, h⟩, if_pos (by omega)]
    unfold moR
    simp only [m1, m2]
    rfl
theorem aft_no {box coin : Int} {T : List Ln} {i : Nat} (hk : (T.getD i default).k = 1 ∨ (T.getD i default).k = 2) (hc : 0 ≤ (T.getD i default).c ∧ (T.getD i default).c ≤ 3) (ht : 0 ≤ (T.getD i default).t ∧ (T.getD i default).t ≤ 3) (hp : pos1 T i = false) : (aftM coin (moR box coin T i) (T.getD i default)).2 = false := by
  have hcN : (((T.getD i default).c.toNat : Nat) : Int) = (T.getD i default).c := by omega
  have htN : (((T.getD i default).t.toNat : Nat) : Int) = (T.getD i default).t := by omega
  have e1 : (moR box coin T i).h (T.getD i default).c.toNat = cOut T (T.getD i default).c i + 1 := by
    show (if (T.getD i default).c.toNat < 4 then _ else _) = _
    rw [if_pos (by omega), hcN]
  have e2 : (moR box coin T i).h (4 + (T.getD i default).t.toNat) = tOut T (T.getD i default).t i + 1 := by
    show (if 4 + (T.getD i default).t.toNat < 4 then _ else _) = _
    rw [if_neg (by omega), show 4 + (T.getD i default).t.toNat - 4 = (T.getD i default).t.toNat by omega, htN]
  have b1 := cOut_bd T (T.getD i default).c i
  have b2 := tOut_bd T (T.getD i default).t i
  unfold aftM
  rw [e1, e2]
  have hn : ¬ (decide (0 ≤ cOut T (T.getD i default).c i) = decide ((T.getD i default).k = 2) ∧ decide (0 ≤ tOut T (T.getD i default).t i) = decide ((T.getD i default).k = 2)) := fun h => by
    have : pos1 T i = true := by
      unfold pos1
      rw [h.1, h.2]; simp
    rw [this] at hp; cases hp
  split
  · rename_i h
    exact absurd ⟨by rw [decide_eq_false (by omega), decide_eq_false (by omega)], by rw [decide_eq_false (by omega), decide_eq_false (by omega)]⟩ hn
  · split
    · rename_i h
      exact absurd ⟨by rw [decide_eq_true (by omega), decide_eq_true (by omega)], by rw [decide_eq_true (by omega), decide_eq_true (by omega)]⟩ hn
    · rfl
end Go.Ev