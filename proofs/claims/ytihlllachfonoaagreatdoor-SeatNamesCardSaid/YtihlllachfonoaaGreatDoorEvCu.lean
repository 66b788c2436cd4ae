import Derived.Test.YtihlllachfonoaaGreatDoorEvEx
set_option linter.all false
namespace Go.Ev

/-! ### a table of functions is right -/
def TabOk (P : Program) (g : Pos → Pos) (t : T RF) : Prop := ∀ p rf, t.get p = some rf → EntOk P (g p).ix rf
theorem TabOk.e {P : Program} {g : Pos → Pos} : TabOk P g .e := fun p rf h => by rw [T.get_e] at h; cases h
theorem TabOk.n {P : Program} {g : Pos → Pos} {l r : T RF} {v : Option RF} (hv : ∀ rf, v = some rf → EntOk P (g .h).ix rf) (hl : TabOk P (fun p => g (.o p)) l) (hr : TabOk P (fun p => g (.i p)) r) : TabOk P g (.n l v r)
  | .h, rf, h => hv rf h
  | .o p, rf, h => hl p rf h
  | .i p, rf, h => hr p rf h
theorem TabOk.no {P : Program} {k : Nat} : ∀ rf, (none : Option RF) = some rf → EntOk P k rf := fun _ h => by cases h
theorem TabOk.at {P : Program} {k : Nat} : ∀ rf, compF P k = some rf → EntOk P k rf := fun rf h => by
    obtain ⟨fn, c, rs, _, _, _, _, rfl⟩ := compF_ok h
    exact ⟨fun _ => h, (fun v hv => by cases hv), (fun m hm => by cases hm)⟩
/-- A function of which some calls are known. -/
def withM (l : List (List D × D)) (rf : Option RF) : Option RF := match rf with
  | some ⟨nt, body, res, none, []⟩ => some ⟨nt, body, res, none, l⟩
  | _ => none
def MemsOk (P : Program) (k : Nat) : List (List D × D) → Prop
  | [] => True
  | m :: l => MemOk P k m.1 m.2 ∧ MemsOk P k l
theorem MemsOk.mem {P : Program} {k : Nat} : ∀ {l : List (List D × D)}, MemsOk P k l → ∀ m ∈ l, MemOk P k m.1 m.2
  | [], _, m, hm => by cases hm
  | a :: l, h, m, hm => by
    rcases List.mem_cons.1 hm with e | hm
    · rw [e]; exact h.1
    · exact MemsOk.mem h.2 m hm
theorem TabOk.me {P : Program} {k : Nat} {l : List (List D × D)} (hl : MemsOk P k l) : ∀ rf, withM l (compF P k) = some rf → EntOk P k rf := fun rf h => by
    cases hc : compF P k with
    | none => rw [hc] at h; cases h
    | some rf0 =>
      obtain ⟨fn, c, rs, _, _, _, _, rfl⟩ := compF_ok hc
      rw [hc] at h
      cases h
      exact ⟨fun _ => hc, (fun v hv => by cases hv), hl.mem⟩
/-- A closed call that is known to be true. -/
def knT : RF := ⟨0, .skip, [], some (.b true), []⟩
theorem TabOk.kn {P : Program} {FP : T RF} (hFP : FPok P FP) {n : Nat} {f : Pos} (h : closedB P FP n f = true) : ∀ rf, some knT = some rf → EntOk P f.ix rf := fun rf he => by
  cases he
  exact ⟨(fun h => by cases h), (fun v hv => by cases hv; exact closed_call hFP h), (fun m hm => by cases hm)⟩
theorem FPok.of {P : Program} {t : T RF} (h : TabOk P (fun p => p) t) : FPok P t := h
end Go.Ev

namespace Go.Ev
open Go.RowKit (Below Grown)

/-! ### a run in pieces -/
def Code.pre : Nat → Code → Code
  | k + 1, .seq a b => .seq a (Code.pre k b)
  | _, _ => .skip
def Code.suf : Nat → Code → Code
  | k + 1, .seq _ b => Code.suf k b
  | _, c => c
/-- A state of one slot, nothing else. -/
def st0 (s : Pos) (b : Bool) (nx : Pos) : X := ⟨T.set s (.b b) .e, .e, nx, none⟩

section
variable {P : Program} {FP : T RF} {nt : Nat}

theorem XOk.weak {c : Code} {s : Pos} {b : Bool} {nx : Pos} {y Z : X} {e : Ex} (h : XOk P nt c (st0 s b nx) e Z) (h1 : y.sl.get s = some (.b b)) (h2 : y.nx.nat ≤ nx.nat) (h3 : y.lg = none) : XOk P nt c y e Z := by
  have hl : LgLe y.lg Z.lg := by rw [h3]; exact h.lg
  refine ⟨hl, Nat.le_trans h2 h.nx, fun id hn => ?_, fun so hs ro γ a w hn g R n Q hQ => h.ok so hs ro γ a w hn g ⟨fun s' d _ hd => ?_, fun id c _ hc => ?_, fun id hid hle => R.nx id hid (Nat.le_trans h2 hle), R.gl⟩ n Q hQ⟩
  · have : Z.lg = none := hl.none.1 h3
    rw [this] at hn
    exact absurd trivial hn
  · have hd : (T.set s (.b b) .e).get s' = some d := hd
    by_cases e : s' = s
    · subst e
      rw [T.get_set_same] at hd
      cases hd
      exact R.sl s' _ trivial h1
    · rw [T.get_set_ne e, T.get_e] at hd
      cases hd
  · have hc : (T.e : T C).get id = some c := hc
    rw [T.get_e] at hc
    cases hc

theorem pre_ok (hFP : FPok P FP) : ∀ (k : Nat) {n : Nat} {c : Code} {x y Z : X} {e : Ex}, exec P FP n (comp P nt (Code.pre k c)) x = some (.normal, y) → XOk P nt (Code.suf k c) y e Z → XOk P nt c x e Z := by
  have triv : ∀ {n : Nat} {c : Code} {x y Z : X} {e : Ex}, exec P FP n (comp P nt .skip) x = some (.normal, y) → XOk P nt c y e Z → XOk P nt c x e Z := by
    intro n c x y Z e h h2
    cases n with
    | zero => cases h
    | succ n => cases h; exact h2
  intro k
  induction k with
  | zero => exact fun h h2 => triv h h2
  | succ k ih =>
    intro n c x y Z e h h2
    cases c with
    | seq a b =>
      cases n with
      | zero => cases h
      | succ n =>
        have h : e_seq (exec P FP n) (comp P nt a) (comp P nt (Code.pre k b)) x = some (.normal, y) := h
        unfold e_seq at h
        split at h
        · rename_i y1 hy1
          exact ((exec_ok hFP n).1 _ _ _ _ _ hy1).seq (ih h h2)
        · rename_i hne
          exact absurd h (hne y)
    | _ => exact triv h h2

/-- A piece: k statements, from x, to a state of one slot. -/
noncomputable def pieceB (P : Program) (FP : T RF) (n nt k : Nat) (c : Code) (x : X) (s : Pos) (b : Bool) (nx : Pos) : Bool :=
  match exec P FP n (comp P nt (Code.pre k c)) x with
  | some (.normal, ⟨sl, _, nx', none⟩) => match sl.get s with
    | some (.b b') => bif (bif b then b' else !b') then Nat.ble nx'.nat nx.nat else false
    | _ => false
  | _ => false
theorem piece_ok (hFP : FPok P FP) {n k : Nat} {c : Code} {x Z : X} {s : Pos} {b : Bool} {nx : Pos} {e : Ex} (h : pieceB P FP n nt k c x s b nx = true) (h2 : XOk P nt (Code.suf k c) (st0 s b nx) e Z) : XOk P nt c x e Z := by
  unfold pieceB at h
  split at h
  · rename_i sl ob nx' hy
    split at h
    · rename_i b' hb
      cases hbb : (bif b then b' else !b') with
      | false => rw [hbb] at h; cases h
      | true =>
        rw [hbb] at h
        have : b' = b := by cases b <;> cases b' <;> first | rfl | cases hbb
        subst this
        exact pre_ok hFP k hy (h2.weak hb (Nat.le_of_ble_eq_true h) rfl)
    · cases h
  · cases h

/-- The last piece. -/
noncomputable def lastB (P : Program) (FP : T RF) (n nt : Nat) (c : Code) (x : X) (s : Pos) : Bool :=
  match exec P FP n (comp P nt c) x with
  | some (e, ⟨sl, _, _, none⟩) => match e, sl.get s with
    | .normal, some (.b b) => b
    | .ret, some (.b b) => b
    | _, _ => false
  | _ => false
theorem last_ok (hFP : FPok P FP) {n : Nat} {c : Code} {x : X} {s : Pos} (h : lastB P FP n nt c x s = true) : ∃ e Z, XOk P nt c x e Z ∧ (e = .normal ∨ e = .ret) ∧ Z.sl.get s = some (.b true) := by
  unfold lastB at h
  split at h
  · rename_i e sl ob nx hy
    have X1 := (exec_ok hFP n).1 _ _ _ _ _ hy
    split at h
    · rename_i b hb
      rw [h] at hb
      exact ⟨_, _, X1, .inl rfl, hb⟩
    · rename_i b hb
      rw [h] at hb
      exact ⟨_, _, X1, .inr rfl, hb⟩
    · cases h
  · cases h

theorem calls_of_body {f : Nat} {fn : Func} {c : Code} {s : Pos} (hf : P.funcs[f]? = some fn) (hb : fn.body = some c) (hr : compR P fn.results.toList = some [.t s]) (hname : (fn.name == "runtime.NumGoroutine") = false)
    (h : ∃ e Z, XOk P fn.ntmps c ⟨.e, .e, .h, none⟩ e Z ∧ (e = .normal ∨ e = .ret) ∧ Z.sl.get s = some (.b true)) (w : World) (hL : LRok w) : Calls P f #[] w fun e w' => e = .returned (.bool true) ∧ Grown w w' := by
  obtain ⟨e, ⟨sl, ob, nx, lg⟩, X1, he, hs⟩ := h
  have hs : sl.get s = some (.b true) := hs
  obtain ⟨v, ob', nx', lg', h1, C⟩ := body_ok (ds := []) (k := fun v ob nx lg => some ⟨T.set .h v .e, ob, nx, lg⟩) (Z := ⟨T.set .h (.b true) .e, ob, nx, lg⟩) hf hb hr hname (Nat.zero_le _) (fun s d hd => .inl hd) he X1 (by
    simp only [results]
    rw [hs]
    rfl)
  have hv : v = .b true := by
    have h1 := (X.mk.inj (Option.some.inj h1)).1
    have := congrArg (fun t => T.get t .h) h1
    simp only [T.get_set_same, Option.some.injEq] at this
    exact this
  subst hv
  exact calls_of C w hL
end
end Go.Ev

namespace Go.Ev
open Go.RowKit (Below Grown)

/-! ### pieces with more alive: what the masks name -/
noncomputable def gcX (ms mo : T Unit) (r : Option (Ex × X)) : Option X :=
  match r with
  | some (.normal, ⟨sl, ob, nx, none⟩) => some ⟨restr ms sl, restr mo ob, nx, none⟩
  | _ => none

section
variable {P : Program} {FP : T RF} {nt : Nat}
theorem XOk.weakG {c : Code} {ms mo : T Unit} {sl : T D} {ob : T C} {nx : Pos} {Z : X} {e : Ex} (h : XOk P nt c ⟨restr ms sl, restr mo ob, nx, none⟩ e Z) : XOk P nt c ⟨sl, ob, nx, none⟩ e Z := by
  refine ⟨h.lg, h.nx, fun id hn => ?_, fun so hs ro γ a w hn g R n Q hQ => h.ok so hs ro γ a w hn g ⟨fun s d hs hd => R.sl s d hs (restr_get ms sl s hd), fun id c hid hc => R.ob id c hid (restr_get mo ob id hc), R.nx, R.gl⟩ n Q hQ⟩
  have : Z.lg = none := h.lg.none.1 rfl
  rw [this] at hn
  exact absurd trivial hn
theorem pieceG_ok (hFP : FPok P FP) {n k : Nat} {c : Code} {x X1 Z : X} {ms mo : T Unit} {e : Ex} (h : gcX ms mo (exec P FP n (comp P nt (Code.pre k c)) x) = some X1) (h2 : XOk P nt (Code.suf k c) X1 e Z) : XOk P nt c x e Z := by
  unfold gcX at h
  split at h
  · rename_i sl ob nx hy
    cases h
    exact pre_ok hFP k hy h2.weakG
  · cases h
end
end Go.Ev

namespace Go.Ev
open Go.RowKit (Below Grown)
section
variable {P : Program}

/-- A closed call that is true: some state behind it. -/
def TrueCall (P : Program) (f : Nat) : Prop := ∃ (ob : T C) (nx : Pos) (lg : Option (T Bool)), CallOk P f [] .e .h none (.b true) ob nx lg

theorem TrueCall.of_body {f : Nat} {fn : Func} {c : Code} {s : Pos} (hf : P.funcs[f]? = some fn) (hb : fn.body = some c) (hr : compR P fn.results.toList = some [.t s]) (hname : (fn.name == "runtime.NumGoroutine") = false)
    (h : ∃ e Z, XOk P fn.ntmps c ⟨.e, .e, .h, none⟩ e Z ∧ (e = .normal ∨ e = .ret) ∧ Z.sl.get s = some (.b true)) : TrueCall P f := by
  obtain ⟨e, ⟨sl, ob, nx, lg⟩, X1, he, hs⟩ := h
  have hs : sl.get s = some (.b true) := hs
  obtain ⟨v, ob', nx', lg', h1, C⟩ := body_ok (ds := []) (k := fun v ob nx lg => some ⟨T.set .h v .e, ob, nx, lg⟩) (Z := ⟨T.set .h (.b true) .e, ob, nx, lg⟩) hf hb hr hname (Nat.zero_le _) (fun s d hd => .inl hd) he X1 (by
    simp only [results]
    rw [hs]
    rfl)
  have hv : v = .b true := by
    have h1 := (X.mk.inj (Option.some.inj h1)).1
    have := congrArg (fun t => T.get t .h) h1
    simp only [T.get_set_same, Option.some.injEq] at this
    exact this
  subst hv
  exact ⟨_, _, _, C⟩

theorem TrueCall.calls {f : Nat} (h : TrueCall P f) (w : World) (hL : LRok w) : Calls P f #[] w fun e w' => e = .returned (.bool true) ∧ Grown w w' :=
  let ⟨_, _, _, C⟩ := h
  calls_of C w hL

/-- So in any state: it touches nothing. -/
theorem TrueCall.any {f : Nat} (h : TrueCall P f) (ob : T C) (nx : Pos) (lg : Option (T Bool)) : CallOk P f [] ob nx lg (.b true) ob nx lg := by
  obtain ⟨_, _, _, C⟩ := h
  refine ⟨LgLe.refl _, Nat.le_refl _, Keeps.refl _ _, fun so _ γ args w gh hargs hob hnx => ?_⟩
  have hargs : args = #[] := by
    have := (DVL_iff.1 hargs).1
    simp at this
    exact Array.eq_empty_of_size_eq_zero this.symm
  subst hargs
  obtain ⟨c1, c2⟩ := closed_of C w gh.gl.lr
  refine ⟨c1, fun ro m R hR => c2 ro m R fun γ' w' F => ?_⟩
  have hb : ∀ b, b < w.heap.size → w'.heap[b]? = w.heap[b]? := fun b hb => F.blk b hb fun id st _ hst => absurd hst (Nat.not_lt_zero st)
  have U : Up γ γ w w' := ⟨fun _ => Nat.le_refl _, fun _ _ _ => rfl, F.up.3, fun b hm => ⟨hm, fun o ho => by rw [hb b (Array.getElem?_eq_some_iff.1 ho).1]; exact ho⟩⟩
  refine hR γ w' _ ⟨fun id st hst => Nat.lt_of_lt_of_le (gh.ob id st hst) F.size, gh.inj, fun b hm => ⟨let ⟨⟨vs, e, fr, k1⟩, _⟩ := gh.im b hm; ⟨vs, e, fr, (U.im b hm).2 _ k1⟩, (gh.im b hm).2⟩, gh.gl.up U⟩ ⟨U, fun _ _ => rfl, fun b h1 _ => hb b h1, fun _ _ h1 h2 => absurd h2 (by omega), fun _ h _ => h, F.lp, F.size, F.os, F.tape, F.output, F.fz⟩ (DV_of_b _)
    (fun id c hid hc => HoldsO.mono U rfl (fun st hst => hb _ (gh.ob id st hst)) (hob id c hid hc)) hnx

theorem TabOk.knOf {f : Pos} (h : TrueCall P f.ix) : ∀ rf, some knT = some rf → EntOk P f.ix rf := fun rf he => by
  cases he
  exact ⟨(fun h => by cases h), (fun v hv => by cases hv; exact h.any), (fun m hm => by cases hm)⟩
end
end Go.Ev
