import Derived.Test.YtihlllachfonoaaGreatDoorEvDs
import Derived.RowKit3
set_option linter.all false
namespace Go.Ev
open Go.RowKit (Below)

section
variable {P : Program} {FP : T RF} {ex : RC → X → Option (Ex × X)} {nt : Nat}

theorem bad_none {x : X} {e : Ex} {Z : X} (h : execB P FP ex (.reg [.u .bad]) x = some (e, Z)) : False := by
  cases x; cases h

theorem XRounds.of {c : Code} {x : X} {e : Ex} {Z : X} (IH : ∀ nt c x e Z, ex (comp P nt c) x = some (e, Z) → XOk P nt c x e Z) (IHl : ∀ nt c x e Z, ex (.loop (comp P nt c)) x = some (e, Z) → XRounds P nt c x e Z)
    (h : execB P FP ex (.loop (comp P nt c)) x = some (e, Z)) : XRounds P nt c x e Z := by
  have h : e_loop ex (comp P nt c) x = some (e, Z) := h
  unfold e_loop at h
  split at h
  · rename_i y hy
    exact .more (IH _ _ _ _ _ hy) (IHl _ _ _ _ _ h)
  · rename_i hne
    refine .last (IH _ _ _ _ _ h) fun he => ?_
    subst he
    exact hne _ h

theorem execB_ok (hFP : FPok P FP) (IH : ∀ nt c x e Z, ex (comp P nt c) x = some (e, Z) → XOk P nt c x e Z) (IHl : ∀ nt c x e Z, ex (.loop (comp P nt c)) x = some (e, Z) → XRounds P nt c x e Z) :
    ∀ (c : Code) {x : X} {e : Ex} {Z : X}, execB P FP ex (comp P nt c) x = some (e, Z) → XOk P nt c x e Z
  | .skip, x, e, Z, h => by cases h; exact XOk.skip
  | .label _, x, e, Z, h => by cases h; exact XOk.label
  | .ret, x, e, Z, h => by cases h; exact XOk.ret
  | .exit id, x, e, Z, h => by cases h; exact XOk.exit
  | .region id ops draw, x, e, Z, h => by
    cases draw with
    | false => exact XOk.reg hFP IH h
    | true =>
      have h : execB P FP ex (compD P nt ops (masksL [] ops.toList)) x = some (e, Z) := h
      unfold compD at h
      cases h1 : P.follows .mixedOrders with
      | false => rw [h1] at h; exact (bad_none h).elim
      | true =>
        cases h2 : masksOk (masksL [] ops.toList) 0 ops.toList with
        | false => rw [h1, h2] at h; exact (bad_none h).elim
        | true =>
          cases h3 : pairsOk (masksL [] ops.toList) 0 (fps (compL P nt ops ops.toList) ops.toList) with
          | false => rw [h1, h2, h3] at h; exact (bad_none h).elim
          | true =>
            rw [h1, h2, h3] at h
            exact XOk.drw hFP IH h1 h2 h3 h
  | .seq a b, x, e, Z, h => by
    have h : e_seq ex (comp P nt a) (comp P nt b) x = some (e, Z) := h
    unfold e_seq at h
    split at h
    · rename_i y hy
      exact (IH _ _ _ _ _ hy).seq (IH _ _ _ _ _ h)
    · rename_i hne
      refine (IH _ _ _ _ _ h).seqEnd fun he => ?_
      subst he
      exact hne _ h
  | .cond c a b, x, e, Z, h => by
    simp only [comp] at h
    split at h
    · rename_i r hr
      obtain ⟨sl, ob, nx, lg⟩ := x
      have h : e_cond ex r (comp P nt a) (comp P nt b) ⟨sl, ob, nx, lg⟩ = some (e, Z) := h
      simp only [e_cond] at h
      split at h
      · rename_i hv
        exact XOk.cond hr hv (t := true) (IH _ _ _ _ _ h)
      · rename_i hv
        exact XOk.cond hr hv (t := false) (IH _ _ _ _ _ h)
      · cases h
    · exact (bad_none h).elim
  | .block id c, x, e, Z, h => by
    replace h : e_blk ex id (comp P nt c) x = some (e, Z) := h
    unfold e_blk at h
    split at h
    · rename_i i y hy
      cases hb : Nat.beq i id with
      | true =>
        rw [hb] at h
        have he := Nat.eq_of_beq_eq_true hb
        cases h
        subst he
        exact (IH _ _ _ _ _ hy).block
      | false =>
        rw [hb] at h
        cases h
        exact (IH _ _ _ _ _ hy).blockThrough fun he => by
          cases he
          simp at hb
    · rename_i hne
      exact (IH _ _ _ _ _ h).blockThrough fun he => by
        subst he
        exact hne _ _ h
  | .loop c, x, e, Z, h => XOk.loop (XRounds.of IH IHl h)
  | .scope c, x, e, Z, h => XOk.scope (execB_ok hFP IH IHl c h)
  | .rangeFunc f ps a b, x, e, Z, h => by
    simp only [comp] at h
    split at h
    · rename_i r ps' hr hps
      exact XOk.rf hFP IH hr hps h
    · exact (bad_none h).elim
  | .goto _, x, e, Z, h => (bad_none h).elim
  | .refuse _, x, e, Z, h => (bad_none h).elim

theorem exec_ok (hFP : FPok P FP) : ∀ n, (∀ nt c x e Z, exec P FP n (comp P nt c) x = some (e, Z) → XOk P nt c x e Z) ∧ (∀ nt c x e Z, exec P FP n (.loop (comp P nt c)) x = some (e, Z) → XRounds P nt c x e Z)
  | 0 => ⟨(fun _ _ _ _ _ h => by cases h), (fun _ _ _ _ _ h => by cases h)⟩
  | n + 1 => by
    obtain ⟨h1, h2⟩ := exec_ok hFP n
    exact ⟨fun nt c x e Z h => execB_ok hFP h1 h2 c h, fun nt c x e Z h => XRounds.of (FP := FP) h1 h2 h⟩

end
end Go.Ev

namespace Go.Ev
open Go.RowKit (Below Grown)

theorem Fr.grown {S : Pos → Prop} {γ γ' : Gh} {w w' : World} (F : Fr S γ γ' w w') (h0 : ∀ id, γ.cur id = 0) : Grown w w' := by
  have hb : ∀ b, b < w.heap.size → w'.heap[b]? = w.heap[b]? := fun b hb => F.blk b hb fun id st _ hst => by rw [h0] at hst; omega
  refine ⟨⟨F.os, F.output, fun i hi => ?_⟩, F.fz, F.size⟩
  rw [hb i hi]
  cases w.heap[i]? with
  | none => trivial
  | some o => cases o <;> first | exact ⟨rfl, rfl, rfl, fun _ _ => rfl⟩ | exact .inr ⟨rfl, rfl⟩ | rfl

def γ0 : Gh := ⟨fun _ => 0, fun _ _ => (0, 0), fun b => ∃ r, LR b = some r⟩
/-- The listed variables hold what is listed. -/
def LRok (w : World) : Prop := ∀ g r, LR g = some r → ∃ vs e fr, w.heap[g]? = some (.cells vs e fr) ∧ r.length ≤ vs.size ∧ (∀ γ' w', DVL γ' w' r (vs.toList.take r.length)) ∧ ∀ u ∈ vs.toList.take r.length, u.oneCell' = true
theorem gh0 {w : World} (hL : LRok w) : GH γ0 w := ⟨fun _ st h => absurd h (Nat.not_lt_zero st), fun _ st _ _ h => absurd h (Nat.not_lt_zero st), fun b ⟨r, h⟩ => ⟨let ⟨vs, e, fr, h1, _⟩ := hL b r h; ⟨vs, e, fr, h1⟩, fun _ st h => absurd h (Nat.not_lt_zero st)⟩, fun g r h => ⟨⟨r, h⟩, hL g r h⟩⟩
theorem GLok.lr {γ : Gh} {w : World} (h : GLok γ w) : LRok w := fun g r e => (h g r e).2

section
variable {P : Program} {FP : T RF}

/-- A closed call, from nothing. -/
noncomputable def closedB (P : Program) (FP : T RF) (n : Nat) (f : Pos) : Bool :=
  match callF FP (exec P FP n) f [] .e .h none (fun v ob nx lg => some ⟨T.set .h v .e, ob, nx, lg⟩) with
  | some y => match y.sl.get .h with
    | some (.b b) => b
    | _ => false
  | none => false

theorem closed_of {f : Nat} {ob' : T C} {nx' : Pos} {lg' : Option (T Bool)} (C : CallOk P f [] .e .h none (.b true) ob' nx' lg') (w : World) (hL : LRok w) : (∀ w, (callFunc f #[]).run P w = .ok (.enter f #[]) w) ∧
    ∀ (ro : Option Nat) (m : Nat) (R : Ending → World → Prop), (∀ γ' w', Fr (fun _ => True) γ0 γ' w w' → R (.returned (.bool true)) w') → CallsIn (FW ro) m P f #[] w R := by
  obtain ⟨c1, c2⟩ := C.ok (fun _ => True) (fun _ _ => trivial) γ0 #[] w (gh0 hL) DVL.nil (fun id c _ hc => by rw [T.get_e] at hc; cases hc) (fun _ _ _ => rfl)
  refine ⟨c1, fun ro m R hR => c2 ro m R fun γ' w' u _ F hu _ _ => ?_⟩
  obtain rfl := DV_b hu
  exact hR γ' w' (F.mono fun _ _ => trivial)
theorem calls_of {f : Nat} {ob' : T C} {nx' : Pos} {lg' : Option (T Bool)} (C : CallOk P f [] .e .h none (.b true) ob' nx' lg') (w : World) (hL : LRok w) : Calls P f #[] w fun e w' => e = .returned (.bool true) ∧ Grown w w' :=
  (callsIn_wide (n := 0)).1 ((closed_of C w hL).2 none 0 _ fun _ _ F => ⟨rfl, F.grown (fun _ => rfl)⟩)

theorem closed_in (hFP : FPok P FP) {n : Nat} {f : Pos} (h : closedB P FP n f = true) (w : World) (hL : LRok w) : (∀ w, (callFunc f.ix #[]).run P w = .ok (.enter f.ix #[]) w) ∧
    ∀ (ro : Option Nat) (m : Nat) (R : Ending → World → Prop), (∀ γ' w', Fr (fun _ => True) γ0 γ' w w' → R (.returned (.bool true)) w') → CallsIn (FW ro) m P f.ix #[] w R := by
  unfold closedB at h
  split at h
  · rename_i y hy
    obtain ⟨v, ob', nx', lg', h1, C⟩ := callF_ok hFP (exec_ok hFP n).1 hy
    cases h1
    have hv : v = .b true := by
      have h : (match (T.set .h v .e).get .h with
        | some (.b b) => b
        | _ => false) = true := h
      rw [T.get_set_same] at h
      split at h
      · rename_i b hb
        cases hb
        rename_i hbt
        rw [hbt]
      · cases h
    subst hv
    exact closed_of C w hL
  · cases h

/-- A closed call is true, and leaves all as it was. -/
theorem closed_calls (hFP : FPok P FP) {n : Nat} {f : Pos} (h : closedB P FP n f = true) (w : World) (hL : LRok w) : Calls P f.ix #[] w fun e w' => e = .returned (.bool true) ∧ Grown w w' :=
  (callsIn_wide (n := 0)).1 ((closed_in hFP h w hL).2 none 0 _ fun _ _ F => ⟨rfl, F.grown (fun _ => rfl)⟩)

/-- So in any state: it touches nothing. -/
theorem closed_call (hFP : FPok P FP) {n : Nat} {f : Pos} (h : closedB P FP n f = true) (ob : T C) (nx : Pos) (lg : Option (T Bool)) : CallOk P f.ix [] ob nx lg (.b true) ob nx lg := by
  refine ⟨LgLe.refl _, Nat.le_refl _, Keeps.refl _ _, fun so _ γ args w gh hargs hob hnx => ?_⟩
  have hargs : args = #[] := by
    have := (DVL_iff.1 hargs).1
    simp at this
    exact Array.eq_empty_of_size_eq_zero this.symm
  subst hargs
  obtain ⟨c1, c2⟩ := closed_in hFP h w gh.gl.lr
  refine ⟨c1, fun ro m R hR => c2 ro m R fun γ' w' F => ?_⟩
  have hb : ∀ b, b < w.heap.size → w'.heap[b]? = w.heap[b]? := fun b hb => F.blk b hb fun id st _ hst => absurd hst (Nat.not_lt_zero st)
  have U : Up γ γ w w' := ⟨fun _ => Nat.le_refl _, fun _ _ _ => rfl, F.up.3, fun b hm => ⟨hm, fun o ho => by rw [hb b (Array.getElem?_eq_some_iff.1 ho).1]; exact ho⟩⟩
  refine hR γ w' _ ⟨fun id st hst => Nat.lt_of_lt_of_le (gh.ob id st hst) F.size, gh.inj, fun b hm => ⟨let ⟨⟨vs, e, fr, k1⟩, _⟩ := gh.im b hm; ⟨vs, e, fr, (U.im b hm).2 _ k1⟩, (gh.im b hm).2⟩, gh.gl.up U⟩ ⟨U, fun _ _ => rfl, fun b h1 _ => hb b h1, fun _ _ h1 h2 => absurd h2 (by omega), fun _ h _ => h, F.lp, F.size, F.os, F.tape, F.output, F.fz⟩ (DV_of_b _)
    (fun id c hid hc => HoldsO.mono U rfl (fun st hst => hb _ (gh.ob id st hst)) (hob id c hid hc)) hnx
end
end Go.Ev
