import Derived.Test.YtkbgaadfednjpaaGreatDoorEvUX
import Derived.IntWalk
set_option linter.all false
set_option maxHeartbeats 8000000
noncomputable section
namespace Go.Ev
def Ex.code : Ex -> Option Code
 | .normal => none
 | .ret => some .ret
 | .exit id => some (.exit id)
def LS.st : LS -> LoopState
 | .ready => .ready
 | .busy => .busy
 | .done => .done
 | .gone => .exhausted
def HoldsO (P : Program) (γ : Gh) (w : World) (id : Pos) : C -> Prop
 | .cells ro cs cur => 0 < cur /\ γ.cur id = cur /\ ∀ st, st < cur -> ∃ vs e fr, w.heap[(γ.β id st).1]? = some (.cells vs e fr) /\ (ro = false -> fr = (0, 0)) /\
    ∀ (p : Nat) c, cs[p]? = some c -> c.has st = true -> (γ.β id st).2 <= p -> ∃ u, vs[p - (γ.β id st).2]? = some u /\ DV γ w c.d u /\ u.oneCell' = true
 | .map es => γ.cur id = 1 /\ ∃ en cl, w.heap[(γ.β id 0).1]? = some (.map en cl) /\ es.length = en.size /\ ∀ (i : Nat) e f, es[i]? = some e -> en[i]? = some f -> DV γ w e.1 f.key /\ DV γ w e.2 f.val
 | .lp sl ps nt asg body st jump => γ.cur id = 1 /\ ∃ l : Loop, w.heap[(γ.β id 0).1]? = some (.loop l) /\ l.state = st.st /\ l.pending = jump.bind Ex.code /\ (∀ s d, sl.get s = some d -> s.ix < l.tmps.size /\ DV γ w d (l.tmps.getD s.ix undef)) /\
    l.params.toList = ps.map Pos.ix /\ (∀ p, p ∈ ps -> p.ix < l.tmps.size) /\ l.tmps.size = nt /\ l.assign = asg /\ l.body = body
 | .hole => γ.cur id = 0
theorem HoldsO.mono {P : Program} {γ γ' : Gh} {w w' : World} {id : Pos} {c : C} (U : Up γ γ' w w') (hc : γ'.cur id = γ.cur id) (hb : ∀ st, st < γ.cur id -> w'.heap[(γ.β id st).1]? = w.heap[(γ.β id st).1]?) (H : HoldsO P γ w id c) : HoldsO P γ' w' id c := by
 cases c with
 | cells ro cs cur =>
   obtain ⟨h0, h1, h2⟩ := H
   refine ⟨h0, hc.trans h1, fun st hst => ?_⟩
   have hst' : st < γ.cur id := by omega
   obtain ⟨vs, e, fr, h3, h4, h5⟩ := h2 st hst
   rw [U.β id st hst']
   refine ⟨vs, e, fr, (hb st hst').trans h3, h4, fun p c hp hh hd => ?_⟩
   obtain ⟨u, h6, h7, h8⟩ := h5 p c hp hh hd
   exact ⟨u, h6, DV.mono U _ _ h7, h8⟩
 | map es =>
   obtain ⟨h1, en, cl, h2, h3, h4⟩ := H
   have h0 : 0 < γ.cur id := by omega
   refine ⟨hc.trans h1, en, cl, ?_, h3, fun i e f he hf => ⟨DV.mono U _ _ (h4 i e f he hf).1, DV.mono U _ _ (h4 i e f he hf).2⟩⟩
   rw [U.β id 0 h0]; exact (hb 0 h0).trans h2
 | lp sl ps nt asg body st jump =>
   obtain ⟨h1, l, h2, h3, h4, h5, h6⟩ := H
   have h0 : 0 < γ.cur id := by omega
   refine ⟨hc.trans h1, l, ?_, h3, h4, fun s d hs => ⟨(h5 s d hs).1, DV.mono U _ _ (h5 s d hs).2⟩, h6⟩
   rw [U.β id 0 h0]; exact (hb 0 h0).trans h2
 | hole => exact hc.trans H
theorem iJ (w : World) (o : Obj) (h : ∀ vs e fr, o = .cells vs e fr -> fr = (0, 0)) (a : Addr) : (w.alloc o).frozen? a = w.frozen? a := by
 by_cases hb : a.block = w.heap.size
 ·have e1 : (w.alloc o).heap[a.block]? = some o := by
   rw [hb]
   show (w.heap.push o)[w.heap.size]? = _
   simp
  have e2 : w.heap[a.block]? = none := by rw [hb]; simp
  simp only [World.frozen?, e1, e2]
  cases o with
  | cells vs e fr =>
    obtain rfl := h vs e fr rfl
    simp
  | _ => rfl
 ·have e1 : (w.alloc o).heap[a.block]? = w.heap[a.block]? := by
   show (w.heap.push o)[a.block]? = _
   rw [Array.getElem?_push, if_neg hb]
  simp only [World.frozen?, e1]
theorem lF (w : World) (b : Nat) (o : Obj) (h : ∀ vs e fr, o ≠ .cells vs e fr) (h' : ∀ vs e fr, w.heap[b]? ≠ some (.cells vs e fr)) (a : Addr) : (w.putObj b o).frozen? a = w.frozen? a := by
 by_cases hb : a.block = b
 ·subst hb
  simp only [World.frozen?]
  cases hw : w.heap[a.block]? with
  | none =>
    have : (w.putObj a.block o).heap[a.block]? = none := by
     rw [Array.getElem?_eq_none_iff] at hw ⊢
     simpa using hw
    rw [this]
  | some o' =>
    rw [World.putObj_heap_same (Array.getElem?_eq_some_iff.1 hw).1]
    cases o <;> first | exact absurd rfl (h _ _ _) | (cases o' <;> first | exact absurd hw (h' _ _ _) | rfl)
 ·simp only [World.frozen?]
  rw [World.putObj_heap_other hb]
structure Fr (S : Pos -> Prop) (γ γ' : Gh) (w w' : World) : Prop where
 up : Up γ γ' w w'
 cur : ∀ id, ¬ S id -> γ'.cur id = γ.cur id
 blk : ∀ b, b < w.heap.size -> (∀ id st, S id -> st < γ.cur id -> (γ.β id st).1 ≠ b) -> w'.heap[b]? = w.heap[b]?
 new : ∀ id st, γ.cur id <= st -> st < γ'.cur id -> w.heap.size <= (γ'.β id st).1 \/ ∃ fZ, fZ < γ.cur id /\ (γ'.β id st).1 = (γ.β id fZ).1
 imn : ∀ b, γ'.im b -> b < w.heap.size -> γ.im b
 lp : ∀ (b : Nat) r, w.heap[b]? = some (.loop r) -> ∃ r', w'.heap[b]? = some (.loop r')
 size : w.heap.size <= w'.heap.size
 os : w'.os = w.os
 tape : w'.tape = w.tape
 output : w'.output = w.output
 fz : ∀ a : Addr, w'.frozen? a = w.frozen? a
theorem Fr.refl (S : Pos -> Prop) (γ : Gh) (w : World) : Fr S γ γ w w :=
 ⟨Up.refl _ _, fun _ _ => rfl, fun _ _ _ => rfl, fun _ _ h1 h2 => absurd h2 (by omega), fun _ h _ => h, fun _ r h => ⟨r, h⟩, Nat.le_refl _, rfl, rfl, rfl, fun _ => rfl⟩
theorem Fr.mono {S S' : Pos -> Prop} {γ γ' : Gh} {w w' : World} (h : Fr S γ γ' w w') (hS : ∀ id, S id -> S' id) : Fr S' γ γ' w w' :=
 { h with cur := fun id hn => h.cur id fun hs => hn (hS id hs), blk := fun b hb hn => h.blk b hb fun id st hs => hn id st (hS id hs) }
theorem Fr.trans {S : Pos -> Prop} {γ γ1 γ2 : Gh} {w w1 w2 : World} (h : Fr S γ γ1 w w1) (k : Fr S γ1 γ2 w1 w2) : Fr S γ γ2 w w2 := by
 refine ⟨h.up.trans k.up, fun id hn => (k.cur id hn).trans (h.cur id hn), fun b hb hn => ?_, fun id st h1 h2 => ?_, fun b hb hlt => h.imn b (k.imn b hb (Nat.lt_of_lt_of_le hlt h.size)) hlt, fun b r hr => ?_, Nat.le_trans h.size k.size, k.os.trans h.os, k.tape.trans h.tape, k.output.trans h.output, fun a => (k.fz a).trans (h.fz a)⟩
 ·refine (k.blk b (Nat.lt_of_lt_of_le hb h.size) fun id st hs hst e => ?_).trans (h.blk b hb hn)
  by_cases hlt : st < γ.cur id
  ·rw [h.up.β id st hlt] at e
   exact hn id st hs hlt e
  ·rcases h.new id st (by omega) hst with h1 | ⟨fZ, h1, h2⟩
   ·omega
   ·rw [h2] at e
    exact hn id fZ hs h1 e
 ·by_cases hlt : st < γ1.cur id
  ·rw [k.up.β id st hlt]
   exact h.new id st h1 hlt
  ·rcases k.new id st (by omega) h2 with h3 | ⟨fZ, h3, h4⟩
   ·exact .inl (Nat.le_trans h.size h3)
   ·by_cases hlt0 : fZ < γ.cur id
    ·exact .inr ⟨fZ, hlt0, by rw [h4, h.up.β id fZ hlt0]⟩
    ·rcases h.new id fZ (by omega) h3 with h5 | ⟨st1, h5, h6⟩
     ·exact .inl (by rw [h4]; exact h5)
     ·exact .inr ⟨st1, h5, by rw [h4, h6]⟩
 ·obtain ⟨r', hr'⟩ := h.lp b r hr
  exact k.lp b r' hr'
def pH (r : Nat) : Deferred := { target := .collected r, args := #[] }
def GLok (γ : Gh) (w : World) : Prop := ∀ g r, LR g = some r -> γ.im g /\ ∃ vs e fr, w.heap[g]? = some (.cells vs e fr) /\ r.length <= vs.size /\ (∀ γ' w', DVL γ' w' r (vs.toList.take r.length)) /\ ∀ u ∈ vs.toList.take r.length, u.oneCell' = true
theorem GLok.up {γ γ' : Gh} {w w' : World} (U : Up γ γ' w w') (h : GLok γ w) : GLok γ' w' := fun g r e => by
 obtain ⟨h1, vs, e, fr, h2, h3⟩ := h g r e
 exact ⟨(U.im g h1).1, vs, e, fr, (U.im g h1).2 _ h2, h3⟩
theorem GLok.dv {γ : Gh} {w : World} (h : GLok γ w) {g : Nat} {r : List D} (e : LR g = some r) : DV γ w (.pl r 0) (.pointer (some ⟨g, 0, none⟩)) := by
 obtain ⟨h1, vs, e, fr, h2, h3, h4, h5⟩ := h g r e
 unfold DV
 exact ⟨g, 0, vs, e, fr, h1, h2, rfl, by rw [Nat.zero_add]; exact h3, by rw [List.drop_zero]; exact h4 _ _, by rw [List.drop_zero]; exact h5⟩
structure G (ro : Option Nat) (γ : Gh) (a : Act) (w : World) : Prop where
 ob : ∀ id st, st < γ.cur id -> (γ.β id st).1 < w.heap.size
 inj : ∀ id st id' st', st < γ.cur id -> st' < γ.cur id' -> (γ.β id st).1 = (γ.β id' st').1 -> id = id' /\ (γ.β id st).2 = (γ.β id' st').2
 df : ∃ ms : List Nat, a.defers = ms.map pH /\ ms.Nodup /\ ∀ r, r ∈ ms -> w.heap[r]? = some (.deferred (some [])) /\ ∀ id st, st < γ.cur id -> (γ.β id st).1 ≠ r
 rd : ∀ l, ro = some l -> ∃ r, w.heap[l]? = some (.loop r)
 im : ∀ b, γ.im b -> (∃ vs e fr, w.heap[b]? = some (.cells vs e fr)) /\ ∀ id st, st < γ.cur id -> (γ.β id st).1 ≠ b
 gl : GLok γ w
theorem Fr.keep {P : Program} {S : Pos -> Prop} {ro : Option Nat} {γ γ' : Gh} {a : Act} {w w' : World} {id : Pos} {c : C} (F : Fr S γ γ' w w') (g : G ro γ a w) (hn : ¬ S id) (H : HoldsO P γ w id c) : HoldsO P γ' w' id c :=
 HoldsO.mono F.up (F.cur id hn) (fun st hst => F.blk _ (g.ob id st hst) fun id' st' hs hst' e => by
  obtain ⟨h1, _⟩ := g.inj id' st' id st hst' hst e
  exact hn (h1 ▸ hs)) H
theorem G.of {S : Pos -> Prop} {ro : Option Nat} {γ γ' : Gh} {a a' : Act} {w w' : World} (g : G ro γ a w) (F : Fr S γ γ' w w') (hd : a'.defers = a.defers)
 (ob : ∀ id st, st < γ'.cur id -> (γ'.β id st).1 < w'.heap.size)
 (inj : ∀ id st id' st', st < γ'.cur id -> st' < γ'.cur id' -> (γ'.β id st).1 = (γ'.β id' st').1 -> id = id' /\ (γ'.β id st).2 = (γ'.β id' st').2)
 (im : ∀ b, γ'.im b -> (∃ vs e fr, w'.heap[b]? = some (.cells vs e fr)) /\ ∀ id st, st < γ'.cur id -> (γ'.β id st).1 ≠ b) : G ro γ' a' w' := by
 refine ⟨ob, inj, ?_, fun l hl => ?_, im, g.gl.up F.up⟩
 ·obtain ⟨ms, h1, h2, h3⟩ := g.df
  refine ⟨ms, hd.trans h1, h2, fun r hr => ?_⟩
  obtain ⟨h4, h5⟩ := h3 r hr
  have hlt : r < w.heap.size := (Array.getElem?_eq_some_iff.1 h4).1
  refine ⟨(F.blk r hlt fun id st _ hst => h5 id st hst).trans h4, fun id st hst e => ?_⟩
  by_cases hlt2 : st < γ.cur id
  ·rw [F.up.β id st hlt2] at e
   exact h5 id st hlt2 e
  ·rcases F.new id st (by omega) hst with h6 | ⟨fZ, h6, h7⟩
   ·omega
   ·rw [h7] at e
    exact h5 id fZ h6 e
 ·obtain ⟨r, hr⟩ := g.rd l hl
  exact F.lp l r hr
theorem G.imOf {S : Pos -> Prop} {ro : Option Nat} {γ γ' : Gh} {a : Act} {w w' : World} (g : G ro γ a w) (F : Fr S γ γ' w w') (him : ∀ b, γ'.im b -> γ.im b) :
 ∀ b, γ'.im b -> (∃ vs e fr, w'.heap[b]? = some (.cells vs e fr)) /\ ∀ id st, st < γ'.cur id -> (γ'.β id st).1 ≠ b := fun b hb => by
 obtain ⟨⟨vs, e, fr, h1⟩, h2⟩ := g.im b (him b hb)
 refine ⟨⟨vs, e, fr, (F.up.im b (him b hb)).2 _ h1⟩, fun id st hst e => ?_⟩
 by_cases hlt2 : st < γ.cur id
 ·rw [F.up.β id st hlt2] at e
  exact h2 id st hlt2 e
 ·rcases F.new id st (by omega) hst with h6 | ⟨fZ, h6, h7⟩
  ·have := (Array.getElem?_eq_some_iff.1 h1).1
   omega
  ·rw [h7] at e
   exact h2 id fZ h6 e
theorem G.imUp {ro : Option Nat} {γ γ' : Gh} {a : Act} {w w' : World} (g : G ro γ a w) (him : ∀ b, γ.im b -> γ'.im b) (hblk : ∀ b, b < w.heap.size -> (∀ id st, st < γ.cur id -> (γ.β id st).1 ≠ b) -> w'.heap[b]? = w.heap[b]?) :
 ∀ b, γ.im b -> γ'.im b /\ ∀ o, w.heap[b]? = some o -> w'.heap[b]? = some o := fun b hb => by
 obtain ⟨⟨vs, e, fr, h1⟩, h2⟩ := g.im b hb
 exact ⟨him b hb, fun o ho => by rw [hblk b (Array.getElem?_eq_some_iff.1 h1).1 h2]; exact ho⟩
def Gh.push (γ : Gh) (id : Pos) (b : Nat × Nat) : Gh where
 cur := fun j => if j = id then γ.cur id + 1 else γ.cur j
 β := fun j s => if j = id /\ s = γ.cur id then b else γ.β j s
 im := γ.im
theorem Gh.push_cur (γ : Gh) (id : Pos) (b : Nat × Nat) : (γ.push id b).cur id = γ.cur id + 1 := by simp [Gh.push]
theorem Gh.push_cur_ne (γ : Gh) {id j : Pos} (b : Nat × Nat) (h : j ≠ id) : (γ.push id b).cur j = γ.cur j := by simp [Gh.push, h]
theorem Gh.push_β (γ : Gh) (id : Pos) (b : Nat × Nat) : (γ.push id b).β id (γ.cur id) = b := by simp [Gh.push]
theorem Gh.push_β_old (γ : Gh) (id : Pos) (b : Nat × Nat) {j : Pos} {s : Nat} (h : s < γ.cur j) : (γ.push id b).β j s = γ.β j s := by
 simp only [Gh.push]
 rw [if_neg]
 rintro ⟨e, h2⟩
 subst e
 rw [h2] at h
 exact Nat.lt_irrefl _ h
theorem Gh.push_lt {γ : Gh} {id j : Pos} {b : Nat × Nat} {s : Nat} (h : s < (γ.push id b).cur j) : s < γ.cur j \/ j = id /\ s = γ.cur id := by
 by_cases e : j = id
 ·subst e
  rw [γ.push_cur] at h
  rcases Nat.lt_succ_iff_lt_or_eq.1 h with h | h
  ·exact .inl h
  ·exact .inr ⟨rfl, h⟩
 ·rw [γ.push_cur_ne b e] at h
  exact .inl h
theorem qQ {ro : Option Nat} {γ : Gh} {a : Act} {w w' : World} (g : G ro γ a w) (id : Pos) (b δ : Nat) (hsz : w.heap.size <= w'.heap.size)
 (hb : (w.heap.size <= b /\ b < w'.heap.size) \/ ∃ fZ, fZ < γ.cur id /\ γ.β id fZ = (b, δ))
 (hblk : ∀ c, c < w.heap.size -> (∀ st, st < γ.cur id -> (γ.β id st).1 ≠ c) -> w'.heap[c]? = w.heap[c]?)
 (hsh : ∀ c x, w.shape? c = some x -> w'.shape? c = some x) (hlp : ∀ (c : Nat) r, w.heap[c]? = some (.loop r) -> ∃ r', w'.heap[c]? = some (.loop r'))
 (hos : w'.os = w.os /\ w'.tape = w.tape /\ w'.output = w.output) (hfz : ∀ a : Addr, w'.frozen? a = w.frozen? a) :
 Fr (fun j => j = id) γ (γ.push id (b, δ)) w w' /\ ∀ a' : Act, a'.defers = a.defers -> G ro (γ.push id (b, δ)) a' w' := by
 have F : Fr (fun j => j = id) γ (γ.push id (b, δ)) w w' := by
  refine ⟨⟨fun j => ?_, fun j s hs => γ.push_β_old id _ hs, hsh, g.imUp (γ' := γ.push id (b, δ)) (fun _ h => h) fun c hc hn => hblk c hc fun st hst => hn id st hst⟩, fun j hj => γ.push_cur_ne _ hj, fun c hc hn => hblk c hc fun st hst => hn id st rfl hst, fun j s h1 h2 => ?_, fun _ h _ => h, hlp, hsz, hos.1, hos.2.1, hos.2.2, hfz⟩
  ·by_cases e : j = id
   ·subst e; rw [γ.push_cur]; omega
   ·rw [γ.push_cur_ne _ e]; exact Nat.le_refl _
  ·rcases Gh.push_lt h2 with h | ⟨rfl, rfl⟩
   ·omega
   ·rw [γ.push_β]
    rcases hb with hb | ⟨fZ, h3, h4⟩
    ·exact .inl hb.1
    ·exact .inr ⟨fZ, h3, by rw [h4]⟩
 refine ⟨F, fun a' hd => g.of F hd (fun j s hs => ?_) (fun j s j' s' hs hs' he => ?_) (g.imOf F fun _ h => h)⟩
 ·rcases Gh.push_lt hs with h | ⟨rfl, rfl⟩
  ·rw [γ.push_β_old _ _ h]
   exact Nat.lt_of_lt_of_le (g.ob j s h) hsz
  ·rw [γ.push_β]
   rcases hb with hb | ⟨fZ, h3, h4⟩
   ·exact hb.2
   ·have := g.ob j fZ h3
    rw [h4] at this
    exact Nat.lt_of_lt_of_le this hsz
 ·have key : ∀ j s, s < γ.cur j -> (γ.β j s).1 = b -> j = id /\ (γ.β j s).2 = δ := by
   intro j s h e
   rcases hb with hb | ⟨fZ, h3, h4⟩
   ·have := g.ob j s h; omega
   ·have := g.inj j s id fZ h h3 (by rw [e, h4])
    rw [h4] at this
    exact this
  rcases Gh.push_lt hs with h | ⟨rfl, rfl⟩
  ·rw [γ.push_β_old _ _ h] at he ⊢
   rcases Gh.push_lt hs' with h' | ⟨rfl, rfl⟩
   ·rw [γ.push_β_old _ _ h'] at he ⊢
    exact g.inj _ _ _ _ h h' he
   ·rw [γ.push_β] at he ⊢
    exact key j s h he
  ·rw [γ.push_β] at he ⊢
   rcases Gh.push_lt hs' with h' | ⟨rfl, rfl⟩
   ·rw [γ.push_β_old _ _ h'] at he ⊢
    have := key j' s' h' he.symm
    exact ⟨this.1.symm, this.2.symm⟩
   ·exact ⟨rfl, by rw [γ.push_β]⟩
theorem nO {ro : Option Nat} {γ : Gh} {a : Act} {w w' : World} (g : G ro γ a w) (id : Pos) (hsz : w.heap.size <= w'.heap.size)
 (hblk : ∀ c, c < w.heap.size -> (∀ st, st < γ.cur id -> (γ.β id st).1 ≠ c) -> w'.heap[c]? = w.heap[c]?)
 (hsh : ∀ c x, w.shape? c = some x -> w'.shape? c = some x) (hlp : ∀ (c : Nat) r, w.heap[c]? = some (.loop r) -> ∃ r', w'.heap[c]? = some (.loop r'))
 (hos : w'.os = w.os /\ w'.tape = w.tape /\ w'.output = w.output) (hfz : ∀ a : Addr, w'.frozen? a = w.frozen? a) :
 Fr (fun j => j = id) γ γ w w' /\ ∀ a' : Act, a'.defers = a.defers -> G ro γ a' w' := by
 have F : Fr (fun j => j = id) γ γ w w' :=
  ⟨⟨fun _ => Nat.le_refl _, fun _ _ _ => rfl, hsh, g.imUp (fun _ h => h) fun c hc hn => hblk c hc fun st hst => hn id st hst⟩, fun _ _ => rfl, fun c hc hn => hblk c hc fun st hst => hn id st rfl hst, fun _ _ h1 h2 => absurd h2 (by omega), fun _ h _ => h, hlp, hsz, hos.1, hos.2.1, hos.2.2, hfz⟩
 exact ⟨F, fun a' hd => g.of F hd (fun j s hs => Nat.lt_of_lt_of_le (g.ob j s hs) hsz) g.inj (g.imOf F fun _ h => h)⟩
structure Sel where
 ss : Pos -> Prop
 so : Pos -> Prop
structure Rep (P : Program) (V : Sel) (γ : Gh) (a : Act) (w : World) (x : X) : Prop where
 sl : ∀ s d, V.ss s -> x.sl.get s = some d -> s.ix < a.tmps.size /\ DV γ w d (a.tmps.getD s.ix undef)
 ob : ∀ id c, V.so id -> x.ob.get id = some c -> HoldsO P γ w id c
 nx : ∀ id, V.so id -> x.nx.nat <= id.nat -> γ.cur id = 0
 gl : GLok γ w
def tchd (lg : Option (T Bool)) (id : Pos) : Prop := match lg with
 | none => True
 | some L => ∃ b, L.get id = some b
def wrtn (lg : Option (T Bool)) (id : Pos) : Prop := match lg with
 | none => True
 | some L => L.get id = some true
theorem wrtn.tchd {lg : Option (T Bool)} {id : Pos} (h : wrtn lg id) : tchd lg id := by
 cases lg with
 | none => trivial
 | some L => exact ⟨true, h⟩
abbrev Keeps (lg : Option (T Bool)) (ob ob' : T C) : Prop := ∀ id, ¬ wrtn lg id -> ob'.get id = ob.get id
structure LgLe (lg lg' : Option (T Bool)) : Prop where
 none : lg = none ↔ lg' = none
 t : ∀ id, tchd lg id -> tchd lg' id
 w : ∀ id, wrtn lg id -> wrtn lg' id
theorem LgLe.refl (lg : Option (T Bool)) : LgLe lg lg := ⟨Iff.rfl, fun _ h => h, fun _ h => h⟩
theorem LgLe.trans {a b c : Option (T Bool)} (h : LgLe a b) (k : LgLe b c) : LgLe a c := ⟨h.none.trans k.none, fun id x => k.t id (h.t id x), fun id x => k.w id (h.w id x)⟩
theorem Keeps.refl (lg : Option (T Bool)) (ob : T C) : Keeps lg ob ob := fun _ _ => rfl
theorem Keeps.trans {lg lg' : Option (T Bool)} {a b c : T C} (hl : LgLe lg lg') (h : Keeps lg a b) (k : Keeps lg' b c) : Keeps lg' a c := fun id hn => (k id hn).trans (h id fun hw => hn (hl.w id hw))
theorem Keeps.set {lg : Option (T Bool)} {a b : T C} (h : Keeps lg a b) {id : Pos} (hw : wrtn lg id) (c : C) : Keeps lg a (T.set id c b) := fun j hn => by
 rw [T.get_set_ne (fun e => hn (by rw [e]; exact hw))]; exact h j hn
theorem mB {lg : Option (T Bool)} {id : Pos} {k : Option (T Bool) -> Option X} {Z : X} (h : rQ lg id k = some Z) : ∃ lg', k lg' = some Z /\ LgLe lg lg' /\ wrtn lg' id := by
 cases lg with
 | none => exact ⟨none, h, LgLe.refl _, trivial⟩
 | some L =>
   have h : T.setK id true L (fun L => k (some L)) = some Z := h
   rw [T.setK_eq] at h
   refine ⟨_, h, ⟨by simp, fun j ⟨b, hj⟩ => ?_, fun j hj => ?_⟩, T.get_set_same _ _ _⟩
   ·by_cases e : j = id
    ·subst e; exact ⟨true, T.get_set_same _ _ _⟩
    ·exact ⟨b, by rw [T.get_set_ne e]; exact hj⟩
   ·by_cases e : j = id
    ·subst e; exact T.get_set_same _ _ _
    ·show (T.set id true L).get j = some true
     rw [T.get_set_ne e]; exact hj
theorem eN {lg : Option (T Bool)} {id : Pos} {k : Option (T Bool) -> Option X} {Z : X} (h : gH lg id k = some Z) : ∃ lg', k lg' = some Z /\ LgLe lg lg' /\ tchd lg' id := by
 cases lg with
 | none => exact ⟨none, h, LgLe.refl _, trivial⟩
 | some L =>
   cases hg : L.get id with
   | none =>
     have h : (Option.casesOn (L.get id) (T.setK id false L fun L => k (some L)) fun _ => k (some L) : Option X) = some Z := h
     rw [hg] at h
     have h : T.setK id false L (fun L => k (some L)) = some Z := h
     rw [T.setK_eq] at h
     refine ⟨_, h, ⟨by simp, fun j ⟨b, hj⟩ => ?_, fun j hj => ?_⟩, ⟨false, T.get_set_same _ _ _⟩⟩
     ·by_cases e : j = id
      ·subst e; rw [hg] at hj; cases hj
      ·exact ⟨b, by rw [T.get_set_ne e]; exact hj⟩
     ·have hj : L.get j = some true := hj
      by_cases e : j = id
      ·subst e; rw [hg] at hj; cases hj
      ·show (T.set id false L).get j = some true
       rw [T.get_set_ne e]; exact hj
   | some b =>
     have h : (Option.casesOn (L.get id) (T.setK id false L fun L => k (some L)) fun _ => k (some L) : Option X) = some Z := h
     rw [hg] at h
     exact ⟨some L, h, LgLe.refl _, ⟨b, hg⟩⟩
open Go.RowKit (Below)
theorem dJ {α : Type} : ∀ (l : List α) (n : Nat), pN l n = l[n]?
 | [], n => by cases n <;> rfl
 | x :: l, 0 => rfl
 | x :: l, n + 1 => by
   show pN l n = _
   rw [dJ l n]; rfl
theorem bK {α : Type} : ∀ (n : Nat) (l : List α), dB n l = l.drop n
 | 0, l => rfl
 | n + 1, [] => rfl
 | n + 1, x :: l => by
   show dB n l = _
   rw [bK n l]; rfl
theorem jR {β : Type} {st : Nat} {c : Cell} {k : D -> Option β} {z : β} (h : rG st c k = some z) : c.has st = true /\ k c.d = some z := by
 cases c with
 | o d lo =>
   have h : (bif Nat.ble lo st then k d else none) = some z := h
   cases hb : Nat.ble lo st with
   | true => rw [hb] at h; exact ⟨hb, h⟩
   | false => rw [hb] at h; cases h
 | c d lo hi =>
   have h : (bif Nat.ble lo st && Nat.ble st hi then k d else none) = some z := h
   cases hb : (Nat.ble lo st && Nat.ble st hi) with
   | true => rw [hb] at h; exact ⟨hb, h⟩
   | false => rw [hb] at h; cases h
theorem mW {β : Type} {st : Nat} : ∀ {n : Nat} {l : List Cell} {k : List D -> Option β} {z : β}, dV st n l k = some z ->
 ∃ ds, k ds = some z /\ ds.length = n /\ ∀ (i : Nat) d, ds[i]? = some d -> ∃ c, l[i]? = some c /\ c.has st = true /\ c.d = d
 | 0, l, k, z, h => ⟨[], h, rfl, fun i d hd => by simp at hd⟩
 | n + 1, [], k, z, h => by cases h
 | n + 1, c :: l, k, z, h => by
   have h : rG st c (fun d => dV st n l fun ds => k (d :: ds)) = some z := by cases c <;> exact h
   obtain ⟨h1, h2⟩ := jR h
   obtain ⟨ds, h3, h4, h5⟩ := mW h2
   refine ⟨c.d :: ds, h3, by simp [h4], fun i d hd => ?_⟩
   cases i with
   | zero => simp at hd; exact ⟨c, rfl, h1, hd⟩
   | succ i => exact h5 i d (by simpa using hd)
theorem fX {β : Type} (mk : D -> Cell) : ∀ (new : List D) (l : List Cell) (k : List Cell -> Option β), iV mk new l k = k (new.map mk ++ l)
 | [], l, k => rfl
 | d :: new, l, k => fX mk new l fun l => k (mk d :: l)
theorem gQ {β : Type} (new : List D) (k : List Cell -> Option β) : oZ new k = k (new.map fun d => .o d 0) := by
 unfold oZ; rw [fX, List.append_nil]
theorem xN {β : Type} {st : Nat} {mk : D -> Cell} : ∀ {new : List D} {l : List Cell} {k : List Cell -> Option β} {z : β}, putsK st mk new l k = some z ->
 new.length <= l.length /\ k (new.map mk ++ l.drop new.length) = some z /\ ∀ i, i < new.length -> ∃ c, l[i]? = some c /\ c.has st = true
 | [], l, k, z, h => ⟨Nat.zero_le _, h, fun i hi => by simp at hi⟩
 | d :: new, [], k, z, h => by cases h
 | d :: new, c :: l, k, z, h => by
   have h : rG st c (fun _ => putsK st mk new l fun l => k (mk d :: l)) = some z := by cases c <;> exact h
   obtain ⟨h0, h⟩ := jR h
   obtain ⟨h1, h2, h3⟩ := xN (new := new) (l := l) (k := fun l => k (mk d :: l)) h
   refine ⟨by simp; omega, h2, fun i hi => ?_⟩
   cases i with
   | zero => exact ⟨c, rfl, h0⟩
   | succ i => exact h3 i (by simpa using hi)
theorem kO {β : Type} {st : Nat} {mk : D -> Cell} {new : List D} : ∀ {off : Nat} {l : List Cell} {k : List Cell -> Option β} {z : β}, eL st mk new off l k = some z ->
 off + new.length <= l.length /\ k (l.take off ++ (new.map mk ++ l.drop (off + new.length))) = some z /\ ∀ i, i < new.length -> ∃ c, l[off + i]? = some c /\ c.has st = true
 | 0, l, k, z, h => by
   obtain ⟨h1, h2, h3⟩ := xN h
   exact ⟨by omega, by rw [Nat.zero_add]; exact h2, fun i hi => by rw [Nat.zero_add]; exact h3 i hi⟩
 | off + 1, [], k, z, h => by cases h
 | off + 1, c :: l, k, z, h => by
   obtain ⟨h1, h2, h3⟩ := kO (off := off) (l := l) (k := fun l => k (c :: l)) h
   refine ⟨by simp; omega, ?_, fun i hi => ?_⟩
   ·rw [show off + 1 + new.length = off + new.length + 1 by omega]
    exact h2
   ·rw [show off + 1 + i = off + i + 1 by omega]
    exact h3 i hi
def hG (hi : Nat) : Cell -> Cell
 | .o d lo => .c d lo hi
 | .c d lo h => .c d lo (bif Nat.ble h hi then h else hi)
theorem jE {β : Type} (hi : Nat) : ∀ (l : List Cell) (k : List Cell -> Option β), mA hi l k = k (l.map (hG hi))
 | [], k => rfl
 | c :: l, k => by
   have : mA hi (c :: l) k = mA hi l fun l => k (hG hi c :: l) := by
    show mA hi l (fun l => _) = _
    cases c <;> rfl
   rw [this, jE hi l]; rfl
theorem uO (hi : Nat) (c : Cell) : (hG hi c).d = c.d := by cases c <;> rfl
theorem gO {hi s : Nat} {c : Cell} (h : (hG hi c).has s = true) : c.has s = true /\ s <= hi := by
 cases c with
 | o d lo =>
   simp only [hG, Cell.has, Bool.and_eq_true] at h
   exact ⟨h.1, Nat.le_of_ble_eq_true h.2⟩
 | c d lo hi' =>
   simp only [hG, Cell.has, Bool.and_eq_true] at h ⊢
   have h2 := Nat.le_of_ble_eq_true h.2
   cases hb : Nat.ble hi' hi with
   | true =>
     rw [hb] at h2
     simp only [cond_true] at h2
     have := Nat.le_of_ble_eq_true hb
     exact ⟨⟨h.1, Nat.ble_eq_true_of_le h2⟩, by omega⟩
   | false =>
     rw [hb] at h2
     simp only [cond_false] at h2
     have : ¬ hi' <= hi := fun e => by rw [Nat.ble_eq_true_of_le e] at hb; cases hb
     exact ⟨⟨h.1, Nat.ble_eq_true_of_le (by omega)⟩, h2⟩
def zB (st : Nat) (l : List Cell) : Prop := ∀ c ∈ l, ∃ d lo, c = .o d lo /\ lo <= st
theorem wA {β : Type} {st cur : Nat} {new : List D} : ∀ {n : Nat} {l : List Cell} {k : List Cell -> Option β} {z : β}, lW st cur new n l k = some z ->
 n <= l.length /\ zB st (l.take n) /\ k (l.take n ++ (new.map (fun d => .o d cur) ++ (l.drop (n + new.length)).map (hG (cur - 1)))) = some z
 | 0, l, k, z, h => by
   have h : mA (Nat.pred cur) (dB (List.length new) l) (fun l => iV (fun d => .o d cur) new l k) = some z := h
   rw [jE, fX, bK] at h
   exact ⟨Nat.zero_le _, fun c hc => by simp at hc, by rw [Nat.zero_add]; exact h⟩
 | n + 1, [], k, z, h => by cases h
 | n + 1, .c d lo hi :: l, k, z, h => by cases h
 | n + 1, .o d lo :: l, k, z, h => by
   have h : (bif Nat.ble lo st then lW st cur new n l (fun l => k (.o d lo :: l)) else none) = some z := h
   cases hb : Nat.ble lo st with
   | false => rw [hb] at h; cases h
   | true =>
     rw [hb] at h
     obtain ⟨h1, h2, h3⟩ := wA (n := n) (l := l) h
     refine ⟨by simp; omega, fun c hc => ?_, ?_⟩
     ·simp only [List.take_succ_cons, List.mem_cons] at hc
      rcases hc with rfl | hc
      ·exact ⟨d, lo, rfl, Nat.le_of_ble_eq_true hb⟩
      ·exact h2 c hc
     ·rw [show n + 1 + new.length = n + new.length + 1 by omega]
      exact h3
theorem mK {β : Type} : ∀ {n : Nat} {l : List D} {k : List D -> Option β} {z : β}, Ai n l k = some z -> n <= l.length /\ k (l.take n) = some z
 | 0, l, k, z, h => ⟨Nat.zero_le _, h⟩
 | n + 1, [], k, z, h => by cases h
 | n + 1, d :: l, k, z, h => by
   obtain ⟨h1, h2⟩ := mK (n := n) (l := l) (k := fun ds => k (d :: ds)) h
   exact ⟨by simp; omega, h2⟩
def splice {α : Type} (l : List α) (o : Nat) (new : List α) : List α := l.take o ++ new ++ l.drop (o + new.length)
theorem zL {β : Type} : ∀ {new l : List D} {k : List D -> Option β} {z : β}, Jd new l k = some z -> new.length <= l.length /\ k (new ++ l.drop new.length) = some z
 | [], l, k, z, h => ⟨Nat.zero_le _, h⟩
 | d :: new, [], k, z, h => by cases h
 | d :: new, c :: l, k, z, h => by
   obtain ⟨h1, h2⟩ := zL (new := new) (l := l) (k := fun l => k (d :: l)) h
   exact ⟨by simp; omega, h2⟩
theorem tA {β : Type} {new : List D} : ∀ {off : Nat} {l : List D} {k : List D -> Option β} {z : β}, yA new off l k = some z -> off + new.length <= l.length /\ k (splice l off new) = some z
 | 0, l, k, z, h => by
   obtain ⟨h1, h2⟩ := zL h
   exact ⟨by omega, by unfold splice; rw [Nat.zero_add]; exact h2⟩
 | off + 1, [], k, z, h => by cases h
 | off + 1, c :: l, k, z, h => by
   obtain ⟨h1, h2⟩ := tA (off := off) (l := l) (k := fun l => k (c :: l)) h
   refine ⟨by simp; omega, ?_⟩
   unfold splice at h2 ⊢
   rw [show off + 1 + new.length = off + new.length + 1 by omega]
   exact h2
theorem bB {β : Type} (n : Nat) (k : Nat -> β) : eD n k = k n := by cases n <;> rfl
theorem bE {β : Type} (b : Bool) (f : D -> β) : kR b f = f (.b b) := by cases b <;> rfl
theorem fG : ∀ a b : Int, EE a b = decide (a < b)
 | .ofNat m, .ofNat n => by
   simp only [EE]
   by_cases h : m < n
   ·rw [show Nat.blt m n = true from Nat.ble_eq_true_of_le h]; simp; omega
   ·rw [show Nat.blt m n = false by cases hb : Nat.blt m n with | false => rfl | true => exact absurd (Nat.le_of_ble_eq_true hb) h]; simp; omega
 | .ofNat m, .negSucc n => by simp only [EE]; simp; omega
 | .negSucc m, .ofNat n => by simp only [EE]; simp; omega
 | .negSucc m, .negSucc n => by
   simp only [EE]
   by_cases h : n < m
   ·rw [show Nat.blt n m = true from Nat.ble_eq_true_of_le h]; simp; omega
   ·rw [show Nat.blt n m = false by cases hb : Nat.blt n m with | false => rfl | true => exact absurd (Nat.le_of_ble_eq_true hb) h]; simp; omega
theorem mY : ∀ {a b : Int}, yU a b = true ↔ a = b
 | .ofNat m, .ofNat n => by simp [yU, Nat.beq_eq]; omega
 | .ofNat m, .negSucc n => by simp [yU]
 | .negSucc m, .ofNat n => by simp [yU]
 | .negSucc m, .negSucc n => by simp [yU, Nat.beq_eq]
theorem lN (a b : Int) : yU a b = (a == b) := by
 by_cases h : a = b
 ·rw [mY.2 h]; simp [h]
 ·have : yU a b = false := by cases hb : yU a b with | false => rfl | true => exact absurd (mY.1 hb) h
  rw [this]; simp [h]
theorem fR {k k' : IntKind} : sI k k' = true ↔ k = k' := by cases k <;> cases k' <;> simp [sI]
theorem gS (k : IntKind) {m : Nat} (h : m <= fF k) : k.wrap (.ofNat m) = .ofNat m := by
 have h0 : (Int.ofNat m) = (m : Int) := rfl
 cases k <;> simp only [fF] at h
 ·exact IntWalk.i8_in _ (by omega)
 ·exact IntWalk.i16_in _ (by omega)
 ·exact IntWalk.i32_in _ (by omega)
 ·exact IntWalk.i64_in _ (by omega)
 ·exact IntWalk.u8_in _ (by omega)
 ·exact IntWalk.u16_in _ (by omega)
 ·exact IntWalk.u32_in _ (by omega)
 ·exact IntWalk.u64_in _ (by omega)
theorem tI (k : IntKind) (hs : k.signed = true) {m : Nat} (h : m <= fF k) : k.wrap (.negSucc m) = .negSucc m := by
 cases k <;> simp only [fF] at h <;> first | (simp [IntKind.signed] at hs; done) | skip
 ·exact IntWalk.i8_in _ (by omega)
 ·exact IntWalk.i16_in _ (by omega)
 ·exact IntWalk.i32_in _ (by omega)
 ·exact IntWalk.i64_in _ (by omega)
theorem aV {β : Type} (k : IntKind) (r : Int) (f : D -> β) : eQ k r f = f (.i k (k.wrap r)) := by
 have fin : ∀ r : Int, (Int.casesOn (motive := fun _ => β) (k.wrap r) (fun m => eD m fun m => f (.i k (.ofNat m))) (fun m => eD m fun m => f (.i k (.negSucc m)))) = f (.i k (k.wrap r)) := by
  intro r
  cases k.wrap r with
  | ofNat m => exact bB m _
  | negSucc m => exact bB m _
 cases r with
 | ofNat m =>
   show (bif Nat.ble m (fF k) then eD m (fun m => f (.i k (.ofNat m))) else _) = _
   cases hb : Nat.ble m (fF k) with
   | true => simp only [cond_true, bB]; rw [gS k (Nat.le_of_ble_eq_true hb)]
   | false => exact fin _
 | negSucc m =>
   show (bif k.signed && Nat.ble m (fF k) then eD m (fun m => f (.i k (.negSucc m))) else _) = _
   cases hb : (k.signed && Nat.ble m (fF k)) with
   | true =>
     rw [Bool.and_eq_true] at hb
     simp only [cond_true, bB]; rw [tI k hb.1 (Nat.le_of_ble_eq_true hb.2)]
   | false => exact fin _
theorem pX {β : Type} (k : IntKind) (r : Int) (f : D -> β) : DB k r f = f (.i k r) := by
 cases r with
 | ofNat m => exact bB m fun m => f (.i k (.ofNat m))
 | negSucc m => exact bB m fun m => f (.i k (.negSucc m))
theorem tX (a b : Int) : JW a b = a + b := by cases a <;> cases b <;> rfl
theorem mM (a b : Int) : HQ a b = a - b := by
 cases a with
 | negSucc m => rfl
 | ofNat m => cases b with
   | negSucc n => rfl
   | ofNat n =>
     show (bif Nat.ble n m then Int.ofNat (Nat.sub m n) else .negSucc (Nat.sub (Nat.sub n m) 1)) = _
     cases hb : Nat.ble n m with
     | true =>
       have := Nat.le_of_ble_eq_true hb
       simp only [cond_true]
       show Int.ofNat (m - n) = _
       simp; omega
     | false =>
       have : ¬ n <= m := fun e => by rw [Nat.ble_eq_true_of_le e] at hb; cases hb
       simp only [cond_false]
       show Int.negSucc (n - m - 1) = _
       simp; omega
theorem AE (a b : Int) : IK a b = a * b := by cases a <;> cases b <;> rfl
theorem Al (a b : Int) : IQ a b = a.tdiv b := by cases a <;> cases b <;> rfl
theorem zZ (a b : Int) : Ma a b = a.tmod b := by cases a <;> cases b <;> rfl
theorem Fc (a : Int) (n : Nat) : Cr a n = a * 2 ^ n := by
 cases a with
 | negSucc m => rfl
 | ofNat m =>
   show Int.ofNat (m * 2 ^ n) = _
   simp
theorem FV (a : Int) (n : Nat) : Df a n = a.fdiv (2 ^ n) := by
 cases a with
 | negSucc m => rfl
 | ofNat m =>
   show Int.ofNat (m / 2 ^ n) = _
   rw [show ((2 : Int) ^ n) = ((2 ^ n : Nat) : Int) by simp]
   rw [Int.fdiv_eq_ediv_of_nonneg _ (Int.natCast_nonneg _)]
   simp
theorem wE (k : IntKind) : vM k = k.bits := by cases k <;> rfl
theorem AS (a b : Nat) : pG a b = min a b := by
 unfold pG
 cases hb : Nat.ble a b with
 | true => have := Nat.le_of_ble_eq_true hb; simp; omega
 | false =>
   have : ¬ a <= b := fun e => by rw [Nat.ble_eq_true_of_le e] at hb; cases hb
   simp; omega
theorem Dx {k : IntKind} {m : Nat} (h : m <= bT k) : m < 2 ^ k.bits := by cases k <;> simp only [bT] at h <;> simp [IntKind.bits] <;> omega
theorem cO {k : IntKind} {m : Nat} (h : m <= bT k) : (BitVec.ofInt k.bits (Int.ofNat m)).toNat = m := by
 have := Dx h
 rw [BitVec.toNat_ofInt]
 show ((m : Int) % ((2 ^ k.bits : Nat) : Int)).toNat = m
 rw [Int.emod_eq_of_lt (Int.natCast_nonneg _) (Int.ofNat_lt.2 this)]
 simp
theorem pW {slow : IntKind -> Int -> Int -> Int} {fast : IntKind -> Nat -> Nat -> Nat} (h : ∀ k m n, m <= bT k -> n <= bT k -> slow k (.ofNat m) (.ofNat n) = .ofNat (fast k m n)) (k : IntKind) (a b : Int) : BC slow fast k a b = slow k a b := by
 cases a with
 | negSucc m => rfl
 | ofNat m => cases b with
   | negSucc n => rfl
   | ofNat n =>
     show (bif Nat.ble m (bT k) && Nat.ble n (bT k) then Int.ofNat (fast k m n) else slow k (.ofNat m) (.ofNat n)) = _
     cases hb : (Nat.ble m (bT k) && Nat.ble n (bT k)) with
     | false => rfl
     | true =>
       rw [Bool.and_eq_true] at hb
       exact (h k m n (Nat.le_of_ble_eq_true hb.1) (Nat.le_of_ble_eq_true hb.2)).symm
open Go.RowKit (Below)
theorem yI (k : IntKind) (m n : Nat) (h : m <= bT k) (h' : n <= bT k) : mH k (.ofNat m) (.ofNat n) = .ofNat (Nat.land m n) := by
 unfold mH
 rw [BitVec.toNat_and, cO h, cO h']; rfl
theorem Bm (k : IntKind) (m n : Nat) (h : m <= bT k) (h' : n <= bT k) : qU k (.ofNat m) (.ofNat n) = .ofNat (Nat.lor m n) := by
 unfold qU
 rw [BitVec.toNat_or, cO h, cO h']; rfl
theorem yY (k : IntKind) (m n : Nat) (h : m <= bT k) (h' : n <= bT k) : pU k (.ofNat m) (.ofNat n) = .ofNat (Nat.xor m n) := by
 unfold pU
 rw [BitVec.toNat_xor, cO h, cO h']; rfl
theorem Di (k : IntKind) : bT k = 2 ^ k.bits - 1 := by cases k <;> rfl
theorem yL (k : IntKind) (m n : Nat) (h : m <= bT k) (h' : n <= bT k) : nE k (.ofNat m) (.ofNat n) = .ofNat (Nat.land m (Nat.sub (bT k) n)) := by
 unfold nE
 rw [BitVec.toNat_and, BitVec.toNat_not, cO h, cO h', Di]; rfl
def FW (ro : Option Nat) : Fence := { Fence.wide with round := ro }
theorem AZ {P : Program} {ro : Option Nat} {ρ : Operand -> Value} {o : Oper} {w w' : World} {x : Next} (h : (execOp ρ o).run P w = .ok x w') (hx : ∀ d, x ≠ .defer d) : (Oper.semAt ro ρ o).run P w = .ok x w' := by
 rw [Oper.semAt_eq]
 ·exact h
 ·intro c hc
  simp only [execOp, hc, Sem.run_bind] at h
  cases hr : (resolve ρ c o.type).run P w with
  | ok d w2 => rw [hr] at h; simp only [Result.andThen_ok, Sem.run_pure] at h; cases h; exact hx _ rfl
  | halt e w2 => rw [hr] at h; cases h
theorem mC {P : Program} {ro : Option Nat} {n : Nat} {o : Oper} {a : Act} {w w' : World} {x : Next} {K : Act -> World -> Prop} {Q : Exit -> Act -> World -> Prop} (h : (execOp a.eval o).run P w = .ok x w') (hx : ∀ d, x ≠ .defer d)
 (hu : o.uponIn (FW ro) n P a K Q (.ok x w')) : o.wpIn (FW ro) n P a w K Q :=
 ⟨fun _ _ => trivial, by rw [AZ h hx]; exact hu⟩
structure St (ro : Option Nat) (lg : Option (T Bool)) (dst : Option Tmp) (γ : Gh) (a : Act) (w : World) (γ' : Gh) (a' : Act) (w' : World) : Prop where
 g : G ro γ' a' w'
 fr : Fr (wrtn lg) γ γ' w w'
 sz : a'.tmps.size = a.tmps.size
 df : a'.defers = a.defers
 sl : ∀ s, dst ≠ some s -> a'.tmps.getD s undef = a.tmps.getD s undef
structure OpOk (P : Program) (nt : Nat) (o : Oper) (names : List Pos) (x Z : X) : Prop where
 lg : LgLe x.lg Z.lg
 nx : x.nx.nat <= Z.nx.nat
 obf : Keeps Z.lg x.ob Z.ob
 slf : ∀ s : Pos, o.dst ≠ some s.ix -> Z.sl.get s = x.sl.get s
 ok : ∀ V : Sel, (∀ s, s ∈ names -> V.ss s) -> (∀ id, tchd Z.lg id -> V.so id) -> ∀ (ro : Option Nat) (γ : Gh) (a : Act) (w : World), a.tmps.size = nt -> G ro γ a w -> Rep P V γ a w x ->
  ∀ (n : Nat) (K : Act -> World -> Prop) (Q : Exit -> Act -> World -> Prop), (∀ γ' a' w', St ro Z.lg o.dst γ a w γ' a' w' -> Rep P V γ' a' w' Z -> K a' w') -> o.wpIn (FW ro) n P a w K Q
theorem sK {a : Act} {s : Nat} {v : Value} (h : s < a.tmps.size) : (a.put (some s) v).tmps.getD s undef = v := by
 simp [Act.put, h]
theorem jO {a : Act} {s t : Nat} {v : Value} (h : s ≠ t) : (a.put (some s) v).tmps.getD t undef = a.tmps.getD t undef := by
 simp [Act.put, Array.getElem?_setIfInBounds_ne h]
theorem wN (a : Act) (d : Option Tmp) (v : Value) : (a.put d v).tmps.size = a.tmps.size := by
 cases d <;> simp [Act.put]
theorem qS (a : Act) (d : Option Tmp) (v : Value) : (a.put d v).defers = a.defers := by
 cases d <;> rfl
section
variable {P : Program} {nt : Nat} {o : Oper} {names : List Pos} {sl : T D} {ob : T C} {nx : Pos} {lg : Option (T Bool)}
theorem St.value {V : Sel} {ro : Option Nat} {lg' : Option (T Bool)} {γ γ' : Gh} {a : Act} {w w' : World} {ob' : T C} {nx' : Pos} {d : Pos} {v : D} {u : Value} (hlt : d.ix < a.tmps.size) (hd : o.dst = some d.ix) (R : Rep P V γ a w ⟨sl, ob, nx, lg⟩)
 (F : Fr (wrtn lg') γ γ' w w') (g' : ∀ a' : Act, a'.defers = a.defers -> G ro γ' a' w') (hv : DV γ' w' v u)
 (ho : ∀ id c, V.so id -> ob'.get id = some c -> HoldsO P γ' w' id c) (hn : ∀ id, V.so id -> nx'.nat <= id.nat -> γ'.cur id = 0) :
 St ro lg' o.dst γ a w γ' (a.put o.dst u) w' /\ Rep P V γ' (a.put o.dst u) w' ⟨T.set d v sl, ob', nx', lg'⟩ := by
 refine ⟨⟨g' _ (qS _ _ _), F, wN _ _ _, qS _ _ _, fun s hs => ?_⟩, ⟨fun s e hss he => ?_, ho, hn, R.gl.up F.up⟩⟩
 ·rw [hd] at hs ⊢
  exact jO fun e => hs (by rw [e])
 ·rw [wN]
  by_cases es : s = d
  ·subst es
   have he : (T.set s v sl).get s = some e := he
   rw [T.get_set_same] at he
   cases he
   rw [hd, sK hlt]
   exact ⟨hlt, hv⟩
  ·have he : (T.set d v sl).get s = some e := he
   rw [T.get_set_ne es] at he
   obtain ⟨h1, h2⟩ := R.sl s e hss he
   refine ⟨h1, ?_⟩
   rw [hd, jO (fun h => es (Pos.ix_inj h.symm))]
   exact DV.mono F.up _ _ h2
theorem OpOk.value {lg' : Option (T Bool)} {ob' : T C} {nx' : Pos} {d : Pos} {v : D} (hd : o.dst = some d.ix) (hlt : d.ix < nt) (hl : LgLe lg lg') (hx : nx.nat <= nx'.nat) (hkp : Keeps lg' ob ob')
 (h : ∀ V : Sel, (∀ s, s ∈ names -> V.ss s) -> (∀ id, tchd lg' id -> V.so id) -> ∀ (ro : Option Nat) (γ : Gh) (a : Act) (w : World), G ro γ a w -> Rep P V γ a w ⟨sl, ob, nx, lg⟩ ->
   ∃ u w' γ', (execOp a.eval o).run P w = .ok (.value u) w' /\ Fr (wrtn lg') γ γ' w w' /\ (∀ a' : Act, a'.defers = a.defers -> G ro γ' a' w') /\ DV γ' w' v u /\
     (∀ id c, V.so id -> ob'.get id = some c -> HoldsO P γ' w' id c) /\ (∀ id, V.so id -> nx'.nat <= id.nat -> γ'.cur id = 0)) :
 OpOk P nt o names ⟨sl, ob, nx, lg⟩ ⟨T.set d v sl, ob', nx', lg'⟩ := by
 refine ⟨hl, hx, hkp, fun s hs => T.get_set_ne (fun e => hs (by rw [e]; exact hd)) _ _, fun V hs ho ro γ a w hn g R n K Q hK => ?_⟩
 obtain ⟨u, w', γ', h1, h2, h3, h4, h5, h6⟩ := h V hs ho ro γ a w g R
 refine mC h1 (fun _ h => by cases h) ?_
 rw [Oper.uponIn_value]
 obtain ⟨s1, r1⟩ := St.value (sl := sl) (o := o) (by rw [hn]; exact hlt) hd R h2 h3 h4 h5 h6
 exact hK _ _ _ s1 r1
theorem OpOk.pure {lg' : Option (T Bool)} {d : Pos} {v : D} (hd : o.dst = some d.ix) (hlt : d.ix < nt) (hl : LgLe lg lg')
 (h : ∀ V : Sel, (∀ s, s ∈ names -> V.ss s) -> (∀ id, tchd lg' id -> V.so id) -> ∀ (γ : Gh) (a : Act) (w : World), Rep P V γ a w ⟨sl, ob, nx, lg⟩ -> ∃ u, (execOp a.eval o).run P w = .ok (.value u) w /\ DV γ w v u) :
 OpOk P nt o names ⟨sl, ob, nx, lg⟩ ⟨T.set d v sl, ob, nx, lg'⟩ :=
 OpOk.value hd hlt hl (Nat.le_refl _) (Keeps.refl _ _) fun V hs ho ro γ a w g R => by
  obtain ⟨u, h1, h2⟩ := h V hs ho γ a w R
  exact ⟨u, w, γ, h1, Fr.refl _ _ _, fun a' ha => { g with df := by rw [ha]; exact g.df }, h2, R.ob, R.nx⟩
theorem OpOk.skip {lg' : Option (T Bool)} {ob' : T C} (hd : o.dst = none) (hl : LgLe lg lg') (hkp : Keeps lg' ob ob')
 (h : ∀ V : Sel, (∀ s, s ∈ names -> V.ss s) -> (∀ id, tchd lg' id -> V.so id) -> ∀ (ro : Option Nat) (γ : Gh) (a : Act) (w : World), G ro γ a w -> Rep P V γ a w ⟨sl, ob, nx, lg⟩ ->
   ∃ w', ((execOp a.eval o).run P w = .ok .skip w' \/ ∃ u, (execOp a.eval o).run P w = .ok (.value u) w') /\ Fr (wrtn lg') γ γ w w' /\ (∀ a' : Act, a'.defers = a.defers -> G ro γ a' w') /\
     (∀ id c, V.so id -> ob'.get id = some c -> HoldsO P γ w' id c)) :
 OpOk P nt o names ⟨sl, ob, nx, lg⟩ ⟨sl, ob', nx, lg'⟩ := by
 refine ⟨hl, Nat.le_refl _, hkp, fun _ _ => rfl, fun V hs ho ro γ a w hn g R n K Q hK => ?_⟩
 obtain ⟨w', h1, h2, h3, h4⟩ := h V hs ho ro γ a w g R
 have fin : ∀ u, K (a.put o.dst u) w' := fun u => by
  rw [hd]
  refine hK γ _ w' ⟨h3 _ rfl, h2, rfl, rfl, fun s _ => rfl⟩ ⟨fun s e hss he => ?_, h4, R.nx, R.gl.up h2.up⟩
  obtain ⟨h5, h6⟩ := R.sl s e hss he
  exact ⟨h5, DV.mono h2.up _ _ h6⟩
 rcases h1 with h1 | ⟨u, h1⟩
 ·refine mC h1 (fun _ h => by cases h) ?_
  rw [Oper.uponIn_skip]; exact fin _
 ·refine mC h1 (fun _ h => by cases h) ?_
  rw [Oper.uponIn_value]; exact fin _
end
theorem oF {γ : Gh} {w : World} {v : Value} {d : D} (h : lH v = some d) : DV γ w d v := by
 unfold lH at h
 split at h <;> first | (cases h; unfold DV; rfl) | cases h
theorem zF {v : Value} {d : D} (h : lH v = some d) : v.oneCell' = true := by
 unfold lH at h
 split at h <;> first | rfl | cases h
theorem bR {γ : Gh} {w : World} : ∀ {vs : List Value} {ds : List D}, gF vs = some ds -> DVL γ w ds vs /\ ∀ u ∈ vs, u.oneCell' = true
 | [], ds, h => by cases h; exact ⟨DVL.nil, by simp⟩
 | v :: vs, ds, h => by
   simp only [gF] at h
   split at h
   ·rename_i d ds' h1 h2
    cases h
    obtain ⟨h3, h4⟩ := bR (γ := γ) (w := w) h2
    refine ⟨DVL.cons (oF h1) h3, fun u hu => ?_⟩
    rcases List.mem_cons.1 hu with rfl | hu
    ·exact zF h1
    ·exact h4 u hu
   ·cases h
section
variable {P : Program} {V : Sel} {γ : Gh} {a : Act} {w : World} {sl : T D} {ob : T C} {nx : Pos} {lg : Option (T Bool)}
theorem aB {x : Operand} {r : RX} {d : D} (hx : rx x = some r) (h : bC sl r = some d) (R : Rep P V γ a w ⟨sl, ob, nx, lg⟩) (hs : ∀ s, s ∈ r.ss -> V.ss s) : DV γ w d (a.eval x) := by
 cases x with
 | tmp t =>
   simp only [rx] at hx
   split at hx
   ·rename_i p hp
    cases hx
    have := (R.sl p d (hs p (by simp [RX.ss])) h).2
    rw [cQ hp] at this
    exact this
   ·cases hx
 | const v =>
   simp only [rx] at hx
   split at hx
   ·rename_i d' hd
    cases hx
    cases h
    exact oF hd
   ·split at hx
    ·rename_i cs _
     split at hx
     ·rename_i ds hds
      cases hx
      cases h
      obtain ⟨h1, h2⟩ := bR (γ := γ) (w := w) hds
      unfold DV
      exact ⟨cs, rfl, h1, h2⟩
     ·cases hx
    ·cases hx
 | func f =>
   simp only [rx] at hx
   split at hx
   ·rename_i p hp
    cases hx
    cases h
    unfold DV
    refine ⟨#[], #[], ?_, DVL.nil, DVL.nil⟩
    rw [cQ hp]; rfl
   ·cases hx
 | global g =>
   simp only [rx] at hx
   split at hx
   ·rename_i q hq
    cases hx
    cases h
    exact R.gl.dv hq
   ·cases hx
theorem fK : ∀ {xs : List Operand} {rs : List RX} {ds : List D}, BP xs = some rs -> pK sl rs = some ds -> Rep P V γ a w ⟨sl, ob, nx, lg⟩ -> (∀ s, s ∈ RX.sss rs -> V.ss s) -> DVL γ w ds (xs.map a.eval)
 | [], rs, ds, hx, h, R, hs => by
   cases hx; cases h; exact DVL.nil
 | x :: xs, rs, ds, hx, h, R, hs => by
   simp only [BP] at hx
   split at hx
   ·rename_i r rs' h1 h2
    cases hx
    have h : (Option.casesOn (bC sl r) none fun d => Option.casesOn (pK sl rs') none fun ds => some (d :: ds) : Option (List D)) = some ds := h
    cases ho : bC sl r with
    | none => rw [ho] at h; cases h
    | some d =>
      rw [ho] at h
      cases hos : pK sl rs' with
      | none => rw [hos] at h; cases h
      | some ds' =>
        rw [hos] at h
        cases h
        exact DVL.cons (aB h1 ho R fun s hs' => hs s (by simp [RX.sss, hs'])) (fK h2 hos R fun s hs' => hs s (by simp [RX.sss, hs']))
   ·cases hx
end
theorem aD {nt : Nat} {o : Oper} {s : Nat} {r : RO} {f : Pos -> RO} (hd : o.dst = some s) (h : (aU nt s).map f = some r) : ∃ d, r = f d /\ o.dst = some d.ix /\ d.ix < nt := by
 cases hs : aU nt s with
 | none => rw [hs] at h; cases h
 | some d =>
   rw [hs] at h
   cases h
   obtain ⟨h1, h2⟩ := jP hs
   exact ⟨d, rfl, by rw [h1]; exact hd, by rw [h1]; exact h2⟩
theorem aE {sl : T D} {ob : T C} {nx : Pos} {lg : Option (T Bool)} {d : Pos} {v : D} {Z : X} (h : aZ sl ob nx lg d v = some Z) : Z = ⟨T.set d v sl, ob, nx, lg⟩ := by
 unfold aZ at h
 rw [T.setK_eq] at h
 cases h; rfl
open Go.RowKit (Below)
theorem kC {P : Program} {t : TypeId} {b : Bool} (h : dS P t = some b) (w : World) : (isAgg t).run P w = .ok b w := by
 unfold dS at h
 unfold isAgg
 rw [Sem.run_bind]
 split at h
 ·rename_i fs hu; cases h; rw [run_underlying hu w]; rfl
 ·rename_i hu; cases h; rw [run_underlying hu w]; rfl
 ·rename_i d h1 h2 hu
  cases h
  rw [run_underlying hu w]
  cases d <;> first | rfl | (exact absurd rfl (h1 _)) | (exact absurd rfl (h2 _ _))
 ·cases h
theorem aP {P : Program} {t : TypeId} {n : Nat} (h : cT P t = some n) (w : World) : (sizeOf t).run P w = .ok n w := by
 unfold cT at h
 cases hi : P.info? t with
 | none => rw [hi] at h; cases h
 | some i => rw [hi] at h; cases h; simp [sizeOf, typeInfo, hi]
section
variable {P : Program} {V : Sel} {γ : Gh} {a : Act} {w : World} {sl : T D} {ob : T C} {nx : Pos} {lg : Option (T Bool)} {nt : Nat} {o : Oper}
theorem fT {k : IntKind} {n : Int} {v : Value} (h : DV γ w (.i k n) v) : v = .int k n := by unfold DV at h; exact h
theorem pL {b : Bool} {v : Value} (h : DV γ w (.b b) v) : v = .bool b := by unfold DV at h; exact h
theorem DV_of_i (k : IntKind) (n : Int) : DV γ w (.i k n) (.int k n) := by unfold DV; rfl
theorem dD (b : Bool) : DV γ w (.b b) (.bool b) := by unfold DV; rfl
theorem Ao {x : Operand} {d : Pos} {r : RX} {Z : X} (ho : o.op = .move x \/ o.op = .assign x) (hd : o.dst = some d.ix) (hlt : d.ix < nt) (hx : rx x = some r) (h : Fg d r sl ob nx lg = some Z) : OpOk P nt o r.ss ⟨sl, ob, nx, lg⟩ Z := by
 unfold Fg at h
 split at h
 ·rename_i v hv
  rw [aE h]
  refine OpOk.pure hd hlt (LgLe.refl _) fun V hs _ γ a w R => ⟨a.eval x, ?_, aB hx hv R hs⟩
  rcases ho with ho | ho <;> simp [execOp, ho]
 ·cases h
theorem Av {c x y : Operand} {d : Pos} {rc r1 r2 : RX} {Z : X} (ho : o.op = .pick c x y) (hd : o.dst = some d.ix) (hlt : d.ix < nt) (hc : rx c = some rc) (hx : rx x = some r1) (hy : rx y = some r2) (h : jS d rc r1 r2 sl ob nx lg = some Z) :
 OpOk P nt o (rc.ss ++ (r1.ss ++ r2.ss)) ⟨sl, ob, nx, lg⟩ Z := by
 unfold jS at h
 split at h
 ·rename_i hb
  split at h
  ·rename_i v hv
   rw [aE h]
   refine OpOk.pure hd hlt (LgLe.refl _) fun V hs _ γ a w R => ⟨a.eval x, ?_, aB hx hv R fun s h => hs s (by simp [h])⟩
   have := pL (aB hc hb R fun s h => hs s (by simp [h]))
   simp [execOp, ho, this, asBool]
  ·cases h
 ·rename_i hb
  split at h
  ·rename_i v hv
   rw [aE h]
   refine OpOk.pure hd hlt (LgLe.refl _) fun V hs _ γ a w R => ⟨a.eval y, ?_, aB hy hv R fun s h => hs s (by simp [h])⟩
   have := pL (aB hc hb R fun s h => hs s (by simp [h]))
   simp [execOp, ho, this, asBool]
  ·cases h
 ·cases h
theorem Bd {op : BinOp} {k : IntKind} {x y : Int} {f : D -> Option X} {Z : X} (h : dF op k x y f = some Z) (t : TypeId) (w : World) :
 ∃ v u, f v = some Z /\ (binOp op t (.int k x) (.int k y)).run P w = .ok u w /\ ∀ γ w', DV γ w' v u := by
 unfold dF at h
 split at h
 ·rw [aV, tX] at h; exact ⟨_, _, h, by simp [binOp, Op.intArith], fun _ _ => DV_of_i _ _⟩
 ·rw [aV, mM] at h; exact ⟨_, _, h, by simp [binOp, Op.intArith], fun _ _ => DV_of_i _ _⟩
 ·rw [aV, AE] at h; exact ⟨_, _, h, by simp [binOp, Op.intArith], fun _ _ => DV_of_i _ _⟩
 ·cases hb : yU y (.ofNat 0) with
  | true => rw [hb] at h; cases h
  | false =>
    rw [hb] at h
    simp only [cond_false] at h
    have hy : y ≠ 0 := fun e => by rw [mY.2 (show y = Int.ofNat 0 from e)] at hb; cases hb
    rw [aV, Al] at h; exact ⟨_, _, h, by simp [binOp, Op.intDiv, hy], fun _ _ => DV_of_i _ _⟩
 ·cases hb : yU y (.ofNat 0) with
  | true => rw [hb] at h; cases h
  | false =>
    rw [hb] at h
    simp only [cond_false] at h
    have hy : y ≠ 0 := fun e => by rw [mY.2 (show y = Int.ofNat 0 from e)] at hb; cases hb
    rw [pX, zZ] at h; exact ⟨_, _, h, by simp [binOp, Op.intDiv, hy], fun _ _ => DV_of_i _ _⟩
 ·rw [aV, Gi, pW yI] at h; exact ⟨_, _, h, by simp [binOp, Op.intBits, mH], fun _ _ => DV_of_i _ _⟩
 ·rw [aV, Mn, pW Bm] at h; exact ⟨_, _, h, by simp [binOp, Op.intBits, qU], fun _ _ => DV_of_i _ _⟩
 ·rw [aV, LL, pW yY] at h; exact ⟨_, _, h, by simp [binOp, Op.intBits, pU], fun _ _ => DV_of_i _ _⟩
 ·rw [aV, Dm, pW yL] at h; exact ⟨_, _, h, by simp [binOp, Op.intBits, nE], fun _ _ => DV_of_i _ _⟩
 ·rw [bE, lN] at h; exact ⟨_, _, h, by simp [binOp, Op.intCmp], fun _ _ => dD _⟩
 ·rw [bE, lN] at h; exact ⟨_, .bool (x != y), h, by simp [binOp, Op.intCmp], fun _ _ => by unfold DV; rfl⟩
 ·rw [bE, fG] at h; exact ⟨_, _, h, by simp [binOp, Op.intCmp], fun _ _ => dD _⟩
 ·rw [bE, fG] at h; exact ⟨_, .bool (decide (x <= y)), h, by simp [binOp, Op.intCmp], fun _ _ => by unfold DV; rw [<- decide_not]; simp only [Int.not_lt]⟩
 ·rw [bE, fG] at h; exact ⟨_, _, h, by simp [binOp, Op.intCmp], fun _ _ => dD _⟩
 ·rw [bE, fG] at h; exact ⟨_, .bool (decide (y <= x)), h, by simp [binOp, Op.intCmp], fun _ _ => by unfold DV; rw [<- decide_not]; simp only [Int.not_lt]⟩
 ·cases h
 ·cases h
theorem AG {op : BinOp} {x y : D} {f : D -> Option X} {Z : X} (h : fO op x y f = some Z) (t : TypeId) (w : World) {vx vy : Value} (hx : DV γ w x vx) (hy : DV γ w y vy) :
 ∃ v u, f v = some Z /\ (binOp op t vx vy).run P w = .ok u w /\ ∀ γ w', DV γ w' v u := by
 unfold fO at h
 split at h
 ·rename_i k m k' n
  cases fT hx
  cases fT hy
  have shift : ∀ op : BinOp, (op = .shl \/ op = .shr) -> yF op k m n f = some Z -> ∃ v u, f v = some Z /\ (binOp op t (.int k m) (.int k' n)).run P w = .ok u w /\ ∀ γ w', DV γ w' v u := by
   intro op hop h
   cases n with
   | negSucc n => cases h
   | ofNat n =>
     rcases hop with rfl | rfl
     ·have h : eQ k (Cr m (pG n (vM k))) f = some Z := h
      rw [aV, Fc, AS, wE] at h
      have hn : ¬ ((n : Int) < 0) := by omega
      exact ⟨_, _, h, by simp [binOp, Op.shift, hn], fun _ _ => DV_of_i _ _⟩
     ·have h : DB k (Df m (pG n (vM k))) f = some Z := h
      rw [pX, FV, AS, wE] at h
      have hn : ¬ ((n : Int) < 0) := by omega
      exact ⟨_, _, h, by simp [binOp, Op.shift, hn], fun _ _ => DV_of_i _ _⟩
  split at h
  ·exact shift _ (.inl rfl) h
  ·exact shift _ (.inr rfl) h
  ·cases hk : sI k k' with
   | false => rw [hk] at h; cases h
   | true =>
     rw [hk] at h
     cases fR.1 hk
     exact Bd h t w
 ·cases h
theorem pD {op : BinOp} {t : TypeId} {x y : Operand} {k k' : IntKind} {m n : Int} (w : World) : (eqGuard op t x y (.int k m) (.int k' n)).run P w = .ok () w := by
 cases op <;> simp [eqGuard]
theorem Dt {op : BinOp} {t t' : TypeId} {x y : Operand} {d : Pos} {r1 r2 : RX} {Z : X} (ho : o.op = .binOp op t x y t') (hd : o.dst = some d.ix) (hlt : d.ix < nt) (hx : rx x = some r1) (hy : rx y = some r2) (h : dO d op r1 r2 sl ob nx lg = some Z) :
 OpOk P nt o (r1.ss ++ r2.ss) ⟨sl, ob, nx, lg⟩ Z := by
 unfold dO at h
 split at h
 ·rename_i p q hp hq
  have key : ∃ v, aZ sl ob nx lg d v = some Z /\ ∀ (γ : Gh) (w : World) vx vy, DV γ w p vx -> DV γ w q vy -> ∃ u, (binOp op t vx vy).run P w = .ok u w /\ (eqGuard op t x y vx vy).run P w = .ok () w /\ DV γ w v u := by
   have h0 := h
   unfold fO at h0
   split at h0
   ·rename_i k m k' n
    obtain ⟨v, u, h1, h2, h3⟩ := AG (P := P) (γ := ⟨fun _ => 0, fun _ _ => (0, 0), fun _ => False⟩) h t (default : World) (DV_of_i k m) (DV_of_i k' n)
    refine ⟨v, h1, fun γ w vx vy hx hy => ?_⟩
    obtain ⟨v', u', h1', h2', h3'⟩ := AG (P := P) h t w hx hy
    have e1 := aE h1
    have e2 := aE h1'
    have : v' = v := by
     have e : T.set d v' sl = T.set d v sl := by rw [e1] at e2; exact (X.mk.inj e2).1.symm
     have := congrArg (fun t => T.get t d) e
     simp only [T.get_set_same, Option.some.injEq] at this
     exact this
    subst this
    cases fT hx
    cases fT hy
    exact ⟨u', h2', pD w, h3' γ w⟩
   ·cases h0
  obtain ⟨v, h1, h2⟩ := key
  rw [aE h1]
  refine OpOk.pure hd hlt (LgLe.refl _) fun V hs _ γ a w R => ?_
  obtain ⟨u, h3, h4, h5⟩ := h2 γ w _ _ (aB hx hp R fun s h => hs s (by simp [h])) (aB hy hq R fun s h => hs s (by simp [h]))
  exact ⟨u, by simp [execOp, ho, h3, h4], h5⟩
 ·cases h
theorem Gy {op : UnOp} {t : TypeId} {x : Operand} {d : Pos} {r : RX} {Z : X} (ho : o.op = .unOp op t x) (hd : o.dst = some d.ix) (hlt : d.ix < nt) (hx : rx x = some r) (h : wQ d op r sl ob nx lg = some Z) :
 OpOk P nt o r.ss ⟨sl, ob, nx, lg⟩ Z := by
 unfold wQ at h
 split at h
 ·rename_i b hb
  rw [bE] at h
  rw [aE h]
  refine OpOk.pure hd hlt (LgLe.refl _) fun V hs _ γ a w R => ⟨.bool !b, ?_, dD _⟩
  have := pL (aB hx hb R hs)
  simp [execOp, ho, this, Op.unary]
 ·rename_i k n hb
  rw [aV, mM] at h
  rw [aE h]
  refine OpOk.pure hd hlt (LgLe.refl _) fun V hs _ γ a w R => ⟨.int k (k.wrap (0 - n)), ?_, DV_of_i _ _⟩
  have := fT (aB hx hb R hs)
  simp [execOp, ho, this, Op.unary, Op.intArith]
 ·cases h
theorem Cc {t' t : TypeId} {x : Operand} {d : Pos} {k k' : IntKind} {r : RX} {Z : X} (ho : o.op = .convert t' t x) (hu' : P.underlying t' = some (.int k')) (hu : P.underlying t = some (.int k)) (hd : o.dst = some d.ix) (hlt : d.ix < nt) (hx : rx x = some r) (h : tS d k r sl ob nx lg = some Z) :
 OpOk P nt o r.ss ⟨sl, ob, nx, lg⟩ Z := by
 unfold tS at h
 split at h
 ·rename_i kk n hb
  rw [aV] at h
  rw [aE h]
  refine OpOk.pure hd hlt (LgLe.refl _) fun V hs _ γ a w R => ⟨.int k (k.wrap n), ?_, DV_of_i _ _⟩
  have := fT (aB hx hb R hs)
  simp [execOp, ho, this, convert, run_underlying hu, run_underlying hu', Conv.intToInt]
 ·cases h
theorem kI {b : Builtin} {args : Array Operand} {tys : Array TypeId} {x y : Operand} {d : Pos} {r1 r2 : RX} {Z : X} (ho : o.op = .call { callee := .builtin b, args := args, argTypes := tys }) (ha : args.toList = [x, y]) (hd : o.dst = some d.ix) (hlt : d.ix < nt) (hx : rx x = some r1) (hy : rx y = some r2)
 (h : (b = .max /\ Bs d r1 r2 sl ob nx lg = some Z) \/ (b = .min /\ Bp d r1 r2 sl ob nx lg = some Z)) : OpOk P nt o (r1.ss ++ r2.ss) ⟨sl, ob, nx, lg⟩ Z := by
 have hargs : args = #[x, y] := by rw [<- Array.toArray_toList (xs := args), ha]
 subst hargs
 rcases h with ⟨rfl, h⟩ | ⟨rfl, h⟩
 ·unfold Bs at h
  split at h
  ·rename_i k m k' n hp hq
   cases hk : sI k k' with
   | false => rw [hk] at h; cases h
   | true =>
     rw [hk] at h
     cases fR.1 hk
     simp only [cond_true, fG] at h
     have h : aZ sl ob nx lg d (.i k (max m n)) = some Z := by
      by_cases hlt : m < n
      ·simp only [hlt, decide_true, cond_true] at h
       rw [show max m n = n by omega]; exact h
      ·simp only [hlt, decide_false, cond_false] at h
       rw [show max m n = m by omega]; exact h
     rw [aE h]
     refine OpOk.pure hd hlt (LgLe.refl _) fun V hs _ γ a w R => ⟨.int k (max m n), ?_, DV_of_i _ _⟩
     have e1 := fT (aB hx hp R fun s h => hs s (by simp [h]))
     have e2 := fT (aB hy hq R fun s h => hs s (by simp [h]))
     simp only [execOp, ho, resolve, Sem.run_bind, Sem.run_pure, Result.andThen_ok, invoke, builtin, List.map_toArray, List.map_cons, List.map_nil, e1, e2]
     have hm : (if m < n then n else m) = max m n := by split <;> omega
     simp [Builtin.max_, Builtin.max2, hm]
  ·cases h
 ·unfold Bp at h
  split at h
  ·rename_i k m k' n hp hq
   cases hk : sI k k' with
   | false => rw [hk] at h; cases h
   | true =>
     rw [hk] at h
     cases fR.1 hk
     simp only [cond_true, fG] at h
     have h : aZ sl ob nx lg d (.i k (min m n)) = some Z := by
      by_cases hlt : n < m
      ·simp only [hlt, decide_true, cond_true] at h
       rw [show min m n = n by omega]; exact h
      ·simp only [hlt, decide_false, cond_false] at h
       rw [show min m n = m by omega]; exact h
     rw [aE h]
     refine OpOk.pure hd hlt (LgLe.refl _) fun V hs _ γ a w R => ⟨.int k (min m n), ?_, DV_of_i _ _⟩
     have e1 := fT (aB hx hp R fun s h => hs s (by simp [h]))
     have e2 := fT (aB hy hq R fun s h => hs s (by simp [h]))
     simp only [execOp, ho, resolve, Sem.run_bind, Sem.run_pure, Result.andThen_ok, invoke, builtin, List.map_toArray, List.map_cons, List.map_nil, e1, e2]
     have hm : (if n < m then n else m) = min m n := by split <;> omega
     simp [Builtin.min_, Builtin.min2, hm]
  ·cases h
end
end Go.Ev
end
