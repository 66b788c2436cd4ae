import Derived.Test.YtihlllachfonoaaGreatDoorEvX
set_option linter.all false
namespace Go.Ev

/-! ### what holds of an object -/
def Ex.code : Ex → Option Code
  | .normal => none
  | .ret => some .ret
  | .exit id => some (.exit id)
def LS.st : LS → LoopState
  | .ready => .ready
  | .busy => .busy
  | .done => .done
  | .gone => .exhausted

def HoldsO (P : Program) (γ : Gh) (w : World) (id : Pos) : C → Prop
  | .cells ro cs cur => 0 < cur ∧ γ.cur id = cur ∧ ∀ st, st < cur → ∃ vs e fr, w.heap[(γ.β id st).1]? = some (.cells vs e fr) ∧ (ro = false → fr = (0, 0)) ∧
      ∀ (p : Nat) c, cs[p]? = some c → c.has st = true → (γ.β id st).2 ≤ p → ∃ u, vs[p - (γ.β id st).2]? = some u ∧ DV γ w c.d u ∧ u.oneCell' = true
  | .map es => γ.cur id = 1 ∧ ∃ en cl, w.heap[(γ.β id 0).1]? = some (.map en cl) ∧ es.length = en.size ∧ ∀ (i : Nat) e f, es[i]? = some e → en[i]? = some f → DV γ w e.1 f.key ∧ DV γ w e.2 f.val
  | .lp sl ps nt asg body st jump => γ.cur id = 1 ∧ ∃ l : Loop, w.heap[(γ.β id 0).1]? = some (.loop l) ∧ l.state = st.st ∧ l.pending = jump.bind Ex.code ∧ (∀ s d, sl.get s = some d → s.ix < l.tmps.size ∧ DV γ w d (l.tmps.getD s.ix undef)) ∧
      l.params.toList = ps.map Pos.ix ∧ (∀ p, p ∈ ps → p.ix < l.tmps.size) ∧ l.tmps.size = nt ∧ l.assign = asg ∧ l.body = body
  | .hole => γ.cur id = 0

theorem HoldsO.mono {P : Program} {γ γ' : Gh} {w w' : World} {id : Pos} {c : C} (U : Up γ γ' w w') (hc : γ'.cur id = γ.cur id) (hb : ∀ st, st < γ.cur id → w'.heap[(γ.β id st).1]? = w.heap[(γ.β id st).1]?) (H : HoldsO P γ w id c) : HoldsO P γ' w' id c := by
  cases c with
  | cells ro cs cur =>
    obtain ⟨h0, h1, h2⟩ := H
    refine ⟨h0, hc.trans h1, fun st hst => ?_⟩
    have hst' : st < γ.cur id := by omega
    obtain ⟨vs, e, fr, h3, h4, h5⟩ := h2 st hst
    rw [U.β id st hst']
    refine ⟨vs, e, fr, (hb st hst').trans h3, h4, fun p c hp hh hd => ?_⟩
    obtain ⟨u, h6, h7, h8⟩ := h5 p c hp hh hd
    exact ⟨u, h6, DV.mono U _ _ h7, h8⟩
  | map es =>
    obtain ⟨h1, en, cl, h2, h3, h4⟩ := H
    have h0 : 0 < γ.cur id := by omega
    refine ⟨hc.trans h1, en, cl, ?_, h3, fun i e f he hf => ⟨DV.mono U _ _ (h4 i e f he hf).1, DV.mono U _ _ (h4 i e f he hf).2⟩⟩
    rw [U.β id 0 h0]; exact (hb 0 h0).trans h2
  | lp sl ps nt asg body st jump =>
    obtain ⟨h1, l, h2, h3, h4, h5, h6⟩ := H
    have h0 : 0 < γ.cur id := by omega
    refine ⟨hc.trans h1, l, ?_, h3, h4, fun s d hs => ⟨(h5 s d hs).1, DV.mono U _ _ (h5 s d hs).2⟩, h6⟩
    rw [U.β id 0 h0]; exact (hb 0 h0).trans h2
  | hole => exact hc.trans H

/-- What is shut stays shut. -/
theorem frozen_alloc (w : World) (o : Obj) (h : ∀ vs e fr, o = .cells vs e fr → fr = (0, 0)) (a : Addr) : (w.alloc o).frozen? a = w.frozen? a := by
  by_cases hb : a.block = w.heap.size
  · have e1 : (w.alloc o).heap[a.block]? = some o := by
      rw [hb]
      show (w.heap.push o)[w.heap.size]? = _
      simp
    have e2 : w.heap[a.block]? = none := by rw [hb]; simp
    simp only [World.frozen?, e1, e2]
    cases o with
    | cells vs e fr =>
      obtain rfl := h vs e fr rfl
      simp
    | _ => rfl
  · have e1 : (w.alloc o).heap[a.block]? = w.heap[a.block]? := by
      show (w.heap.push o)[a.block]? = _
      rw [Array.getElem?_push, if_neg hb]
    simp only [World.frozen?, e1]
theorem frozen_put (w : World) (b : Nat) (o : Obj) (h : ∀ vs e fr, o ≠ .cells vs e fr) (h' : ∀ vs e fr, w.heap[b]? ≠ some (.cells vs e fr)) (a : Addr) : (w.putObj b o).frozen? a = w.frozen? a := by
  by_cases hb : a.block = b
  · subst hb
    simp only [World.frozen?]
    cases hw : w.heap[a.block]? with
    | none =>
      have : (w.putObj a.block o).heap[a.block]? = none := by
        rw [Array.getElem?_eq_none_iff] at hw ⊢
        simpa using hw
      rw [this]
    | some o' =>
      rw [World.putObj_heap_same (Array.getElem?_eq_some_iff.1 hw).1]
      cases o <;> first | exact absurd rfl (h _ _ _) | (cases o' <;> first | exact absurd hw (h' _ _ _) | rfl)
  · simp only [World.frozen?]
    rw [World.putObj_heap_other hb]
/-- What stays where the objects in S alone are written. -/
structure Fr (S : Pos → Prop) (γ γ' : Gh) (w w' : World) : Prop where
  up : Up γ γ' w w'
  cur : ∀ id, ¬ S id → γ'.cur id = γ.cur id
  blk : ∀ b, b < w.heap.size → (∀ id st, S id → st < γ.cur id → (γ.β id st).1 ≠ b) → w'.heap[b]? = w.heap[b]?
  new : ∀ id st, γ.cur id ≤ st → st < γ'.cur id → w.heap.size ≤ (γ'.β id st).1 ∨ ∃ st0, st0 < γ.cur id ∧ (γ'.β id st).1 = (γ.β id st0).1
  imn : ∀ b, γ'.im b → b < w.heap.size → γ.im b
  lp : ∀ (b : Nat) r, w.heap[b]? = some (.loop r) → ∃ r', w'.heap[b]? = some (.loop r')
  size : w.heap.size ≤ w'.heap.size
  os : w'.os = w.os
  tape : w'.tape = w.tape
  output : w'.output = w.output
  fz : ∀ a : Addr, w'.frozen? a = w.frozen? a

theorem Fr.refl (S : Pos → Prop) (γ : Gh) (w : World) : Fr S γ γ w w :=
  ⟨Up.refl _ _, fun _ _ => rfl, fun _ _ _ => rfl, fun _ _ h1 h2 => absurd h2 (by omega), fun _ h _ => h, fun _ r h => ⟨r, h⟩, Nat.le_refl _, rfl, rfl, rfl, fun _ => rfl⟩
theorem Fr.mono {S S' : Pos → Prop} {γ γ' : Gh} {w w' : World} (h : Fr S γ γ' w w') (hS : ∀ id, S id → S' id) : Fr S' γ γ' w w' :=
  { h with cur := fun id hn => h.cur id fun hs => hn (hS id hs), blk := fun b hb hn => h.blk b hb fun id st hs => hn id st (hS id hs) }
theorem Fr.trans {S : Pos → Prop} {γ γ1 γ2 : Gh} {w w1 w2 : World} (h : Fr S γ γ1 w w1) (k : Fr S γ1 γ2 w1 w2) : Fr S γ γ2 w w2 := by
  refine ⟨h.up.trans k.up, fun id hn => (k.cur id hn).trans (h.cur id hn), fun b hb hn => ?_, fun id st h1 h2 => ?_, fun b hb hlt => h.imn b (k.imn b hb (Nat.lt_of_lt_of_le hlt h.size)) hlt, fun b r hr => ?_, Nat.le_trans h.size k.size, k.os.trans h.os, k.tape.trans h.tape, k.output.trans h.output, fun a => (k.fz a).trans (h.fz a)⟩
  · refine (k.blk b (Nat.lt_of_lt_of_le hb h.size) fun id st hs hst e => ?_).trans (h.blk b hb hn)
    by_cases hlt : st < γ.cur id
    · rw [h.up.β id st hlt] at e
      exact hn id st hs hlt e
    · rcases h.new id st (by omega) hst with h1 | ⟨st0, h1, h2⟩
      · omega
      · rw [h2] at e
        exact hn id st0 hs h1 e
  · by_cases hlt : st < γ1.cur id
    · rw [k.up.β id st hlt]
      exact h.new id st h1 hlt
    · rcases k.new id st (by omega) h2 with h3 | ⟨st0, h3, h4⟩
      · exact .inl (Nat.le_trans h.size h3)
      · by_cases hlt0 : st0 < γ.cur id
        · exact .inr ⟨st0, hlt0, by rw [h4, h.up.β id st0 hlt0]⟩
        · rcases h.new id st0 (by omega) h3 with h5 | ⟨st1, h5, h6⟩
          · exact .inl (by rw [h4]; exact h5)
          · exact .inr ⟨st1, h5, by rw [h4, h6]⟩
  · obtain ⟨r', hr'⟩ := h.lp b r hr
    exact k.lp b r' hr'

def mark (r : Nat) : Deferred := { target := .collected r, args := #[] }

/-- The listed variables hold what is listed, and are written no more. -/
def GLok (γ : Gh) (w : World) : Prop := ∀ g r, LR g = some r → γ.im g ∧ ∃ vs e fr, w.heap[g]? = some (.cells vs e fr) ∧ r.length ≤ vs.size ∧ (∀ γ' w', DVL γ' w' r (vs.toList.take r.length)) ∧ ∀ u ∈ vs.toList.take r.length, u.oneCell' = true
theorem GLok.up {γ γ' : Gh} {w w' : World} (U : Up γ γ' w w') (h : GLok γ w) : GLok γ' w' := fun g r e => by
  obtain ⟨h1, vs, e, fr, h2, h3⟩ := h g r e
  exact ⟨(U.im g h1).1, vs, e, fr, (U.im g h1).2 _ h2, h3⟩
theorem GLok.dv {γ : Gh} {w : World} (h : GLok γ w) {g : Nat} {r : List D} (e : LR g = some r) : DV γ w (.pl r 0) (.pointer (some ⟨g, 0, none⟩)) := by
  obtain ⟨h1, vs, e, fr, h2, h3, h4, h5⟩ := h g r e
  unfold DV
  exact ⟨g, 0, vs, e, fr, h1, h2, rfl, by rw [Nat.zero_add]; exact h3, by rw [List.drop_zero]; exact h4 _ _, by rw [List.drop_zero]; exact h5⟩
/-- What holds all along. -/
structure G (ro : Option Nat) (γ : Gh) (a : Act) (w : World) : Prop where
  ob : ∀ id st, st < γ.cur id → (γ.β id st).1 < w.heap.size
  inj : ∀ id st id' st', st < γ.cur id → st' < γ.cur id' → (γ.β id st).1 = (γ.β id' st').1 → id = id' ∧ (γ.β id st).2 = (γ.β id' st').2
  df : ∃ ms : List Nat, a.defers = ms.map mark ∧ ms.Nodup ∧ ∀ r, r ∈ ms → w.heap[r]? = some (.deferred (some [])) ∧ ∀ id st, st < γ.cur id → (γ.β id st).1 ≠ r
  rd : ∀ l, ro = some l → ∃ r, w.heap[l]? = some (.loop r)
  im : ∀ b, γ.im b → (∃ vs e fr, w.heap[b]? = some (.cells vs e fr)) ∧ ∀ id st, st < γ.cur id → (γ.β id st).1 ≠ b
  gl : GLok γ w

/-- An object that is not written holds what it held. -/
theorem Fr.keep {P : Program} {S : Pos → Prop} {ro : Option Nat} {γ γ' : Gh} {a : Act} {w w' : World} {id : Pos} {c : C} (F : Fr S γ γ' w w') (g : G ro γ a w) (hn : ¬ S id) (H : HoldsO P γ w id c) : HoldsO P γ' w' id c :=
  HoldsO.mono F.up (F.cur id hn) (fun st hst => F.blk _ (g.ob id st hst) fun id' st' hs hst' e => by
    obtain ⟨h1, _⟩ := g.inj id' st' id st hst' hst e
    exact hn (h1 ▸ hs)) H

/-- The frame's own words stay through a move. -/
theorem G.of {S : Pos → Prop} {ro : Option Nat} {γ γ' : Gh} {a a' : Act} {w w' : World} (g : G ro γ a w) (F : Fr S γ γ' w w') (hd : a'.defers = a.defers)
    (ob : ∀ id st, st < γ'.cur id → (γ'.β id st).1 < w'.heap.size)
    (inj : ∀ id st id' st', st < γ'.cur id → st' < γ'.cur id' → (γ'.β id st).1 = (γ'.β id' st').1 → id = id' ∧ (γ'.β id st).2 = (γ'.β id' st').2)
    (im : ∀ b, γ'.im b → (∃ vs e fr, w'.heap[b]? = some (.cells vs e fr)) ∧ ∀ id st, st < γ'.cur id → (γ'.β id st).1 ≠ b) : G ro γ' a' w' := by
  refine ⟨ob, inj, ?_, fun l hl => ?_, im, g.gl.up F.up⟩
  · obtain ⟨ms, h1, h2, h3⟩ := g.df
    refine ⟨ms, hd.trans h1, h2, fun r hr => ?_⟩
    obtain ⟨h4, h5⟩ := h3 r hr
    have hlt : r < w.heap.size := (Array.getElem?_eq_some_iff.1 h4).1
    refine ⟨(F.blk r hlt fun id st _ hst => h5 id st hst).trans h4, fun id st hst e => ?_⟩
    by_cases hlt2 : st < γ.cur id
    · rw [F.up.β id st hlt2] at e
      exact h5 id st hlt2 e
    · rcases F.new id st (by omega) hst with h6 | ⟨st0, h6, h7⟩
      · omega
      · rw [h7] at e
        exact h5 id st0 h6 e
  · obtain ⟨r, hr⟩ := g.rd l hl
    exact F.lp l r hr
theorem G.imOf {S : Pos → Prop} {ro : Option Nat} {γ γ' : Gh} {a : Act} {w w' : World} (g : G ro γ a w) (F : Fr S γ γ' w w') (him : ∀ b, γ'.im b → γ.im b) :
    ∀ b, γ'.im b → (∃ vs e fr, w'.heap[b]? = some (.cells vs e fr)) ∧ ∀ id st, st < γ'.cur id → (γ'.β id st).1 ≠ b := fun b hb => by
    obtain ⟨⟨vs, e, fr, h1⟩, h2⟩ := g.im b (him b hb)
    refine ⟨⟨vs, e, fr, (F.up.im b (him b hb)).2 _ h1⟩, fun id st hst e => ?_⟩
    by_cases hlt2 : st < γ.cur id
    · rw [F.up.β id st hlt2] at e
      exact h2 id st hlt2 e
    · rcases F.new id st (by omega) hst with h6 | ⟨st0, h6, h7⟩
      · have := (Array.getElem?_eq_some_iff.1 h1).1
        omega
      · rw [h7] at e
        exact h2 id st0 h6 e
/-- What is written no more stays, where blocks of objects alone are written. -/
theorem G.imUp {ro : Option Nat} {γ γ' : Gh} {a : Act} {w w' : World} (g : G ro γ a w) (him : ∀ b, γ.im b → γ'.im b) (hblk : ∀ b, b < w.heap.size → (∀ id st, st < γ.cur id → (γ.β id st).1 ≠ b) → w'.heap[b]? = w.heap[b]?) :
    ∀ b, γ.im b → γ'.im b ∧ ∀ o, w.heap[b]? = some o → w'.heap[b]? = some o := fun b hb => by
  obtain ⟨⟨vs, e, fr, h1⟩, h2⟩ := g.im b hb
  exact ⟨him b hb, fun o ho => by rw [hblk b (Array.getElem?_eq_some_iff.1 h1).1 h2]; exact ho⟩

/-- The next stamp of an object. -/
noncomputable def Gh.push (γ : Gh) (id : Pos) (b : Nat × Nat) : Gh where
  cur := fun j => if j = id then γ.cur id + 1 else γ.cur j
  β := fun j s => if j = id ∧ s = γ.cur id then b else γ.β j s
  im := γ.im
theorem Gh.push_cur (γ : Gh) (id : Pos) (b : Nat × Nat) : (γ.push id b).cur id = γ.cur id + 1 := by simp [Gh.push]
theorem Gh.push_cur_ne (γ : Gh) {id j : Pos} (b : Nat × Nat) (h : j ≠ id) : (γ.push id b).cur j = γ.cur j := by simp [Gh.push, h]
theorem Gh.push_β (γ : Gh) (id : Pos) (b : Nat × Nat) : (γ.push id b).β id (γ.cur id) = b := by simp [Gh.push]
theorem Gh.push_β_old (γ : Gh) (id : Pos) (b : Nat × Nat) {j : Pos} {s : Nat} (h : s < γ.cur j) : (γ.push id b).β j s = γ.β j s := by
  simp only [Gh.push]
  rw [if_neg]
  rintro ⟨e, h2⟩
  subst e
  rw [h2] at h
  exact Nat.lt_irrefl _ h
theorem Gh.push_lt {γ : Gh} {id j : Pos} {b : Nat × Nat} {s : Nat} (h : s < (γ.push id b).cur j) : s < γ.cur j ∨ j = id ∧ s = γ.cur id := by
  by_cases e : j = id
  · subst e
    rw [γ.push_cur] at h
    rcases Nat.lt_succ_iff_lt_or_eq.1 h with h | h
    · exact .inl h
    · exact .inr ⟨rfl, h⟩
  · rw [γ.push_cur_ne b e] at h
    exact .inl h

/-- A move under which an object gets a new stamp. -/
theorem push_all {ro : Option Nat} {γ : Gh} {a : Act} {w w' : World} (g : G ro γ a w) (id : Pos) (b δ : Nat) (hsz : w.heap.size ≤ w'.heap.size)
    (hb : (w.heap.size ≤ b ∧ b < w'.heap.size) ∨ ∃ st0, st0 < γ.cur id ∧ γ.β id st0 = (b, δ))
    (hblk : ∀ c, c < w.heap.size → (∀ st, st < γ.cur id → (γ.β id st).1 ≠ c) → w'.heap[c]? = w.heap[c]?)
    (hsh : ∀ c x, w.shape? c = some x → w'.shape? c = some x) (hlp : ∀ (c : Nat) r, w.heap[c]? = some (.loop r) → ∃ r', w'.heap[c]? = some (.loop r'))
    (hos : w'.os = w.os ∧ w'.tape = w.tape ∧ w'.output = w.output) (hfz : ∀ a : Addr, w'.frozen? a = w.frozen? a) :
    Fr (fun j => j = id) γ (γ.push id (b, δ)) w w' ∧ ∀ a' : Act, a'.defers = a.defers → G ro (γ.push id (b, δ)) a' w' := by
  have F : Fr (fun j => j = id) γ (γ.push id (b, δ)) w w' := by
    refine ⟨⟨fun j => ?_, fun j s hs => γ.push_β_old id _ hs, hsh, g.imUp (γ' := γ.push id (b, δ)) (fun _ h => h) fun c hc hn => hblk c hc fun st hst => hn id st hst⟩, fun j hj => γ.push_cur_ne _ hj, fun c hc hn => hblk c hc fun st hst => hn id st rfl hst, fun j s h1 h2 => ?_, fun _ h _ => h, hlp, hsz, hos.1, hos.2.1, hos.2.2, hfz⟩
    · by_cases e : j = id
      · subst e; rw [γ.push_cur]; omega
      · rw [γ.push_cur_ne _ e]; exact Nat.le_refl _
    · rcases Gh.push_lt h2 with h | ⟨rfl, rfl⟩
      · omega
      · rw [γ.push_β]
        rcases hb with hb | ⟨st0, h3, h4⟩
        · exact .inl hb.1
        · exact .inr ⟨st0, h3, by rw [h4]⟩
  refine ⟨F, fun a' hd => g.of F hd (fun j s hs => ?_) (fun j s j' s' hs hs' he => ?_) (g.imOf F fun _ h => h)⟩
  · rcases Gh.push_lt hs with h | ⟨rfl, rfl⟩
    · rw [γ.push_β_old _ _ h]
      exact Nat.lt_of_lt_of_le (g.ob j s h) hsz
    · rw [γ.push_β]
      rcases hb with hb | ⟨st0, h3, h4⟩
      · exact hb.2
      · have := g.ob j st0 h3
        rw [h4] at this
        exact Nat.lt_of_lt_of_le this hsz
  · have key : ∀ j s, s < γ.cur j → (γ.β j s).1 = b → j = id ∧ (γ.β j s).2 = δ := by
      intro j s h e
      rcases hb with hb | ⟨st0, h3, h4⟩
      · have := g.ob j s h; omega
      · have := g.inj j s id st0 h h3 (by rw [e, h4])
        rw [h4] at this
        exact this
    rcases Gh.push_lt hs with h | ⟨rfl, rfl⟩
    · rw [γ.push_β_old _ _ h] at he ⊢
      rcases Gh.push_lt hs' with h' | ⟨rfl, rfl⟩
      · rw [γ.push_β_old _ _ h'] at he ⊢
        exact g.inj _ _ _ _ h h' he
      · rw [γ.push_β] at he ⊢
        exact key j s h he
    · rw [γ.push_β] at he ⊢
      rcases Gh.push_lt hs' with h' | ⟨rfl, rfl⟩
      · rw [γ.push_β_old _ _ h'] at he ⊢
        have := key j' s' h' he.symm
        exact ⟨this.1.symm, this.2.symm⟩
      · exact ⟨rfl, by rw [γ.push_β]⟩

/-- A move under which no object gets a new stamp, and id alone is written. -/
theorem same_all {ro : Option Nat} {γ : Gh} {a : Act} {w w' : World} (g : G ro γ a w) (id : Pos) (hsz : w.heap.size ≤ w'.heap.size)
    (hblk : ∀ c, c < w.heap.size → (∀ st, st < γ.cur id → (γ.β id st).1 ≠ c) → w'.heap[c]? = w.heap[c]?)
    (hsh : ∀ c x, w.shape? c = some x → w'.shape? c = some x) (hlp : ∀ (c : Nat) r, w.heap[c]? = some (.loop r) → ∃ r', w'.heap[c]? = some (.loop r'))
    (hos : w'.os = w.os ∧ w'.tape = w.tape ∧ w'.output = w.output) (hfz : ∀ a : Addr, w'.frozen? a = w.frozen? a) :
    Fr (fun j => j = id) γ γ w w' ∧ ∀ a' : Act, a'.defers = a.defers → G ro γ a' w' := by
  have F : Fr (fun j => j = id) γ γ w w' :=
    ⟨⟨fun _ => Nat.le_refl _, fun _ _ _ => rfl, hsh, g.imUp (fun _ h => h) fun c hc hn => hblk c hc fun st hst => hn id st hst⟩, fun _ _ => rfl, fun c hc hn => hblk c hc fun st hst => hn id st rfl hst, fun _ _ h1 h2 => absurd h2 (by omega), fun _ h _ => h, hlp, hsz, hos.1, hos.2.1, hos.2.2, hfz⟩
  exact ⟨F, fun a' hd => g.of F hd (fun j s hs => Nat.lt_of_lt_of_le (g.ob j s hs) hsz) g.inj (g.imOf F fun _ h => h)⟩

/-! ### the state -/
structure Sel where
  ss : Pos → Prop
  so : Pos → Prop

structure Rep (P : Program) (V : Sel) (γ : Gh) (a : Act) (w : World) (x : X) : Prop where
  sl : ∀ s d, V.ss s → x.sl.get s = some d → s.ix < a.tmps.size ∧ DV γ w d (a.tmps.getD s.ix undef)
  ob : ∀ id c, V.so id → x.ob.get id = some c → HoldsO P γ w id c
  nx : ∀ id, V.so id → x.nx.nat ≤ id.nat → γ.cur id = 0
  gl : GLok γ w

/-- What the log says was touched, and what was written. -/
def tchd (lg : Option (T Bool)) (id : Pos) : Prop := match lg with
  | none => True
  | some L => ∃ b, L.get id = some b
def wrtn (lg : Option (T Bool)) (id : Pos) : Prop := match lg with
  | none => True
  | some L => L.get id = some true
theorem wrtn.tchd {lg : Option (T Bool)} {id : Pos} (h : wrtn lg id) : tchd lg id := by
  cases lg with
  | none => trivial
  | some L => exact ⟨true, h⟩

/-- What is not written stays. -/
abbrev Keeps (lg : Option (T Bool)) (ob ob' : T C) : Prop := ∀ id, ¬ wrtn lg id → ob'.get id = ob.get id
/-- The log grows. -/
structure LgLe (lg lg' : Option (T Bool)) : Prop where
  none : lg = none ↔ lg' = none
  t : ∀ id, tchd lg id → tchd lg' id
  w : ∀ id, wrtn lg id → wrtn lg' id
theorem LgLe.refl (lg : Option (T Bool)) : LgLe lg lg := ⟨Iff.rfl, fun _ h => h, fun _ h => h⟩
theorem LgLe.trans {a b c : Option (T Bool)} (h : LgLe a b) (k : LgLe b c) : LgLe a c := ⟨h.none.trans k.none, fun id x => k.t id (h.t id x), fun id x => k.w id (h.w id x)⟩

theorem Keeps.refl (lg : Option (T Bool)) (ob : T C) : Keeps lg ob ob := fun _ _ => rfl
theorem Keeps.trans {lg lg' : Option (T Bool)} {a b c : T C} (hl : LgLe lg lg') (h : Keeps lg a b) (k : Keeps lg' b c) : Keeps lg' a c := fun id hn => (k id hn).trans (h id fun hw => hn (hl.w id hw))
theorem Keeps.set {lg : Option (T Bool)} {a b : T C} (h : Keeps lg a b) {id : Pos} (hw : wrtn lg id) (c : C) : Keeps lg a (T.set id c b) := fun j hn => by
  rw [T.get_set_ne (fun e => hn (by rw [e]; exact hw))]; exact h j hn
theorem logW_ok {lg : Option (T Bool)} {id : Pos} {k : Option (T Bool) → Option X} {Z : X} (h : logW lg id k = some Z) : ∃ lg', k lg' = some Z ∧ LgLe lg lg' ∧ wrtn lg' id := by
  cases lg with
  | none => exact ⟨none, h, LgLe.refl _, trivial⟩
  | some L =>
    have h : T.setK id true L (fun L => k (some L)) = some Z := h
    rw [T.setK_eq] at h
    refine ⟨_, h, ⟨by simp, fun j ⟨b, hj⟩ => ?_, fun j hj => ?_⟩, T.get_set_same _ _ _⟩
    · by_cases e : j = id
      · subst e; exact ⟨true, T.get_set_same _ _ _⟩
      · exact ⟨b, by rw [T.get_set_ne e]; exact hj⟩
    · by_cases e : j = id
      · subst e; exact T.get_set_same _ _ _
      · show (T.set id true L).get j = some true
        rw [T.get_set_ne e]; exact hj
theorem logR_ok {lg : Option (T Bool)} {id : Pos} {k : Option (T Bool) → Option X} {Z : X} (h : logR lg id k = some Z) : ∃ lg', k lg' = some Z ∧ LgLe lg lg' ∧ tchd lg' id := by
  cases lg with
  | none => exact ⟨none, h, LgLe.refl _, trivial⟩
  | some L =>
    cases hg : L.get id with
    | none =>
      have h : (Option.casesOn (L.get id) (T.setK id false L fun L => k (some L)) fun _ => k (some L) : Option X) = some Z := h
      rw [hg] at h
      have h : T.setK id false L (fun L => k (some L)) = some Z := h
      rw [T.setK_eq] at h
      refine ⟨_, h, ⟨by simp, fun j ⟨b, hj⟩ => ?_, fun j hj => ?_⟩, ⟨false, T.get_set_same _ _ _⟩⟩
      · by_cases e : j = id
        · subst e; rw [hg] at hj; cases hj
        · exact ⟨b, by rw [T.get_set_ne e]; exact hj⟩
      · have hj : L.get j = some true := hj
        by_cases e : j = id
        · subst e; rw [hg] at hj; cases hj
        · show (T.set id false L).get j = some true
          rw [T.get_set_ne e]; exact hj
    | some b =>
      have h : (Option.casesOn (L.get id) (T.setK id false L fun L => k (some L)) fun _ => k (some L) : Option X) = some Z := h
      rw [hg] at h
      exact ⟨some L, h, LgLe.refl _, ⟨b, hg⟩⟩
end Go.Ev
