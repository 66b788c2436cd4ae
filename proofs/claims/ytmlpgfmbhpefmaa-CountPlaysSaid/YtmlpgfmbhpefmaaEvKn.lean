import Derived.Test.YtmlpgfmbhpefmaaEvCutG
namespace Go.Ev
open Go.RowKit (Below Grown)
section
variable {P : Program}

/-- A closed call that is true: some state behind it. -/
def TrueCall (P : Program) (f : Nat) : Prop := ∃ (ob : T C) (nx : Pos) (lg : Option (T Bool)), CallOk P f [] .e .h none (.b true) ob nx lg

theorem TrueCall.of_body {f : Nat} {fn : Func} {c : Code} {s : Pos} (hf : P.funcs[f]? = some fn) (hb : fn.body = some c) (hr : compR P fn.results.toList = some [.t s]) (hname : (fn.name == "runtime.NumGoroutine") = false)
    (h : ∃ e Z, XOk P fn.ntmps c ⟨.e, .e, .h, none⟩ e Z ∧ (e = .normal ∨ e = .ret) ∧ Z.sl.get s = some (.b true)) : TrueCall P f := by
  obtain ⟨e, ⟨sl, ob, nx, lg⟩, X1, he, hs⟩ := h
  have hs : sl.get s = some (.b true) := hs
  obtain ⟨v, ob', nx', lg', h1, C⟩ := body_ok (ds := []) (k := fun v ob nx lg => some ⟨T.set .h v .e, ob, nx, lg⟩) (Z := ⟨T.set .h (.b true) .e, ob, nx, lg⟩) hf hb hr hname (Nat.zero_le _) (fun s d hd => .inl hd) he X1 (by
    simp only [results]
    rw [hs]
    rfl)
  have hv : v = .b true := by
    have h1 := (X.mk.inj (Option.some.inj h1)).1
    have := congrArg (fun t => T.get t .h) h1
    simp only [T.get_set_same, Option.some.injEq] at this
    exact this
  subst hv
  exact ⟨_, _, _, C⟩

theorem TrueCall.calls {f : Nat} (h : TrueCall P f) (w : World) : Calls P f #[] w fun e w' => e = .returned (.bool true) ∧ Grown w w' :=
  let ⟨_, _, _, C⟩ := h
  calls_of C w

/-- So in any state: it touches nothing. -/
theorem TrueCall.any {f : Nat} (h : TrueCall P f) (ob : T C) (nx : Pos) (lg : Option (T Bool)) : CallOk P f [] ob nx lg (.b true) ob nx lg := by
  obtain ⟨_, _, _, C⟩ := h
  refine ⟨LgLe.refl _, Nat.le_refl _, Keeps.refl _ _, fun so _ γ args w gh hargs hob hnx => ?_⟩
  have hargs : args = #[] := by
    have := (DVL_iff.1 hargs).1
    simp at this
    exact Array.eq_empty_of_size_eq_zero this.symm
  subst hargs
  obtain ⟨c1, c2⟩ := closed_of C w
  refine ⟨c1, fun ro m R hR => c2 ro m R fun γ' w' F => ?_⟩
  have hb : ∀ b, b < w.heap.size → w'.heap[b]? = w.heap[b]? := fun b hb => F.blk b hb fun id st _ hst => absurd hst (Nat.not_lt_zero st)
  have U : Up γ γ w w' := ⟨fun _ => Nat.le_refl _, fun _ _ _ => rfl, F.up.3, fun b hm => ⟨hm, fun o ho => by rw [hb b (Array.getElem?_eq_some_iff.1 ho).1]; exact ho⟩⟩
  refine hR γ w' _ ⟨fun id st hst => Nat.lt_of_lt_of_le (gh.ob id st hst) F.size, gh.inj, fun b hm => ⟨let ⟨⟨vs, e, fr, k1⟩, _⟩ := gh.im b hm; ⟨vs, e, fr, (U.im b hm).2 _ k1⟩, (gh.im b hm).2⟩⟩ ⟨U, fun _ _ => rfl, fun b h1 _ => hb b h1, fun _ _ h1 h2 => absurd h2 (by omega), fun _ h _ => h, F.lp, F.size, F.os, F.tape, F.output, F.fz⟩ (DV_of_b _)
    (fun id c hid hc => HoldsO.mono U rfl (fun st hst => hb _ (gh.ob id st hst)) (hob id c hid hc)) hnx

theorem TabOk.knOf {f : Pos} (h : TrueCall P f.ix) : ∀ rf, some knT = some rf → EntOk P f.ix rf := fun rf he => by
  cases he
  exact ⟨(fun h => by cases h), (fun v hv => by cases hv; exact h.any)⟩
end
end Go.Ev
