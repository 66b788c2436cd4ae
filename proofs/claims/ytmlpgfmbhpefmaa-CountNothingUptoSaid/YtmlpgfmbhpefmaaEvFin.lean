import Derived.Test.YtmlpgfmbhpefmaaEvEx
import Derived.RowKit3
set_option linter.all false
namespace Go.Ev
open Go.RowKit (Below Grown)

theorem Fr.grown {S : Pos → Prop} {γ γ' : Gh} {w w' : World} (F : Fr S γ γ' w w') (h0 : ∀ id, γ.cur id = 0) : Grown w w' := by
  have hb : ∀ b, b < w.heap.size → w'.heap[b]? = w.heap[b]? := fun b hb => F.blk b hb fun id st _ hst => by rw [h0] at hst; omega
  refine ⟨⟨F.os, F.output, fun i hi => ?_⟩, F.fz, F.size⟩
  rw [hb i hi]
  cases w.heap[i]? with
  | none => trivial
  | some o => cases o <;> first | exact ⟨rfl, rfl, rfl, fun _ _ => rfl⟩ | exact .inr ⟨rfl, rfl⟩ | rfl

def γ0 : Gh := ⟨fun _ => 0, fun _ _ => (0, 0), fun _ => False⟩
theorem gh0 (w : World) : GH γ0 w := ⟨fun _ st h => absurd h (Nat.not_lt_zero st), fun _ st _ _ h => absurd h (Nat.not_lt_zero st), fun _ h => h.elim⟩

section
variable {P : Program} {FP : T RF}

/-- A closed call, from nothing. -/
noncomputable def closedB (P : Program) (FP : T RF) (n : Nat) (f : Pos) : Bool :=
  match callF FP (exec P FP n) f [] .e .h none (fun v ob nx lg => some ⟨T.set .h v .e, ob, nx, lg⟩) with
  | some y => match y.sl.get .h with
    | some (.b b) => b
    | _ => false
  | none => false

theorem closed_of {f : Nat} {ob' : T C} {nx' : Pos} {lg' : Option (T Bool)} (C : CallOk P f [] .e .h none (.b true) ob' nx' lg') (w : World) : (∀ w, (callFunc f #[]).run P w = .ok (.enter f #[]) w) ∧
    ∀ (ro : Option Nat) (m : Nat) (R : Ending → World → Prop), (∀ γ' w', Fr (fun _ => True) γ0 γ' w w' → R (.returned (.bool true)) w') → CallsIn (FW ro) m P f #[] w R := by
  obtain ⟨c1, c2⟩ := C.ok (fun _ => True) (fun _ _ => trivial) γ0 #[] w (gh0 w) DVL.nil (fun id c _ hc => by rw [T.get_e] at hc; cases hc) (fun _ _ _ => rfl)
  refine ⟨c1, fun ro m R hR => c2 ro m R fun γ' w' u _ F hu _ _ => ?_⟩
  obtain rfl := DV_b hu
  exact hR γ' w' (F.mono fun _ _ => trivial)
theorem calls_of {f : Nat} {ob' : T C} {nx' : Pos} {lg' : Option (T Bool)} (C : CallOk P f [] .e .h none (.b true) ob' nx' lg') (w : World) : Calls P f #[] w fun e w' => e = .returned (.bool true) ∧ Grown w w' :=
  (callsIn_wide (n := 0)).1 ((closed_of C w).2 none 0 _ fun _ _ F => ⟨rfl, F.grown (fun _ => rfl)⟩)

theorem closed_in (hFP : FPok P FP) {n : Nat} {f : Pos} (h : closedB P FP n f = true) (w : World) : (∀ w, (callFunc f.ix #[]).run P w = .ok (.enter f.ix #[]) w) ∧
    ∀ (ro : Option Nat) (m : Nat) (R : Ending → World → Prop), (∀ γ' w', Fr (fun _ => True) γ0 γ' w w' → R (.returned (.bool true)) w') → CallsIn (FW ro) m P f.ix #[] w R := by
  unfold closedB at h
  split at h
  · rename_i y hy
    obtain ⟨v, ob', nx', lg', h1, C⟩ := callF_ok hFP (exec_ok hFP n).1 hy
    cases h1
    have hv : v = .b true := by
      have h : (match (T.set .h v .e).get .h with
        | some (.b b) => b
        | _ => false) = true := h
      rw [T.get_set_same] at h
      split at h
      · rename_i b hb
        cases hb
        rename_i hbt
        rw [hbt]
      · cases h
    subst hv
    exact closed_of C w
  · cases h

/-- A closed call is true, and leaves all as it was. -/
theorem closed_calls (hFP : FPok P FP) {n : Nat} {f : Pos} (h : closedB P FP n f = true) (w : World) : Calls P f.ix #[] w fun e w' => e = .returned (.bool true) ∧ Grown w w' :=
  (callsIn_wide (n := 0)).1 ((closed_in hFP h w).2 none 0 _ fun _ _ F => ⟨rfl, F.grown (fun _ => rfl)⟩)

/-- So in any state: it touches nothing. -/
theorem closed_call (hFP : FPok P FP) {n : Nat} {f : Pos} (h : closedB P FP n f = true) (ob : T C) (nx : Pos) (lg : Option (T Bool)) : CallOk P f.ix [] ob nx lg (.b true) ob nx lg := by
  refine ⟨LgLe.refl _, Nat.le_refl _, Keeps.refl _ _, fun so _ γ args w gh hargs hob hnx => ?_⟩
  have hargs : args = #[] := by
    have := (DVL_iff.1 hargs).1
    simp at this
    exact Array.eq_empty_of_size_eq_zero this.symm
  subst hargs
  obtain ⟨c1, c2⟩ := closed_in hFP h w
  refine ⟨c1, fun ro m R hR => c2 ro m R fun γ' w' F => ?_⟩
  have hb : ∀ b, b < w.heap.size → w'.heap[b]? = w.heap[b]? := fun b hb => F.blk b hb fun id st _ hst => absurd hst (Nat.not_lt_zero st)
  have U : Up γ γ w w' := ⟨fun _ => Nat.le_refl _, fun _ _ _ => rfl, F.up.3, fun b hm => ⟨hm, fun o ho => by rw [hb b (Array.getElem?_eq_some_iff.1 ho).1]; exact ho⟩⟩
  refine hR γ w' _ ⟨fun id st hst => Nat.lt_of_lt_of_le (gh.ob id st hst) F.size, gh.inj, fun b hm => ⟨let ⟨⟨vs, e, fr, k1⟩, _⟩ := gh.im b hm; ⟨vs, e, fr, (U.im b hm).2 _ k1⟩, (gh.im b hm).2⟩⟩ ⟨U, fun _ _ => rfl, fun b h1 _ => hb b h1, fun _ _ h1 h2 => absurd h2 (by omega), fun _ h _ => h, F.lp, F.size, F.os, F.tape, F.output, F.fz⟩ (DV_of_b _)
    (fun id c hid hc => HoldsO.mono U rfl (fun st hst => hb _ (gh.ob id st hst)) (hob id c hid hc)) hnx
end
end Go.Ev
