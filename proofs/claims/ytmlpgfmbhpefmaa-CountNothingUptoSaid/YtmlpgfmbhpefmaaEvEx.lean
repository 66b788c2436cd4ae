import Derived.Test.YtmlpgfmbhpefmaaEvDs
set_option linter.all false
namespace Go.Ev
open Go.RowKit (Below)

section
variable {P : Program} {FP : T RF} {ex : RC → X → Option (Ex × X)} {nt : Nat}

theorem bad_none {x : X} {e : Ex} {Z : X} (h : execB P FP ex (.reg [.u .bad]) x = some (e, Z)) : False := by
  cases x; cases h

theorem XRounds.of {c : Code} {x : X} {e : Ex} {Z : X} (IH : ∀ nt c x e Z, ex (comp P nt c) x = some (e, Z) → XOk P nt c x e Z) (IHl : ∀ nt c x e Z, ex (.loop (comp P nt c)) x = some (e, Z) → XRounds P nt c x e Z)
    (h : execB P FP ex (.loop (comp P nt c)) x = some (e, Z)) : XRounds P nt c x e Z := by
  have h : e_loop ex (comp P nt c) x = some (e, Z) := h
  unfold e_loop at h
  split at h
  · rename_i y hy
    exact .more (IH _ _ _ _ _ hy) (IHl _ _ _ _ _ h)
  · rename_i hne
    refine .last (IH _ _ _ _ _ h) fun he => ?_
    subst he
    exact hne _ h

theorem execB_ok (hFP : FPok P FP) (IH : ∀ nt c x e Z, ex (comp P nt c) x = some (e, Z) → XOk P nt c x e Z) (IHl : ∀ nt c x e Z, ex (.loop (comp P nt c)) x = some (e, Z) → XRounds P nt c x e Z) :
    ∀ (c : Code) {x : X} {e : Ex} {Z : X}, execB P FP ex (comp P nt c) x = some (e, Z) → XOk P nt c x e Z
  | .skip, x, e, Z, h => by cases h; exact XOk.skip
  | .label _, x, e, Z, h => by cases h; exact XOk.label
  | .ret, x, e, Z, h => by cases h; exact XOk.ret
  | .exit id, x, e, Z, h => by cases h; exact XOk.exit
  | .region id ops draw, x, e, Z, h => by
    cases draw with
    | false => exact XOk.reg hFP IH h
    | true =>
      have h : execB P FP ex (compD P nt ops (masksL [] ops.toList)) x = some (e, Z) := h
      unfold compD at h
      cases h1 : P.follows .mixedOrders with
      | false => rw [h1] at h; exact (bad_none h).elim
      | true =>
        cases h2 : masksOk (masksL [] ops.toList) 0 ops.toList with
        | false => rw [h1, h2] at h; exact (bad_none h).elim
        | true =>
          cases h3 : pairsOk (masksL [] ops.toList) 0 (fps (compL P nt ops ops.toList) ops.toList) with
          | false => rw [h1, h2, h3] at h; exact (bad_none h).elim
          | true =>
            rw [h1, h2, h3] at h
            exact XOk.drw hFP IH h1 h2 h3 h
  | .seq a b, x, e, Z, h => by
    have h : e_seq ex (comp P nt a) (comp P nt b) x = some (e, Z) := h
    unfold e_seq at h
    split at h
    · rename_i y hy
      exact (IH _ _ _ _ _ hy).seq (IH _ _ _ _ _ h)
    · rename_i hne
      refine (IH _ _ _ _ _ h).seqEnd fun he => ?_
      subst he
      exact hne _ h
  | .cond c a b, x, e, Z, h => by
    simp only [comp] at h
    split at h
    · rename_i r hr
      obtain ⟨sl, ob, nx, lg⟩ := x
      have h : e_cond ex r (comp P nt a) (comp P nt b) ⟨sl, ob, nx, lg⟩ = some (e, Z) := h
      simp only [e_cond] at h
      split at h
      · rename_i hv
        exact XOk.cond hr hv (t := true) (IH _ _ _ _ _ h)
      · rename_i hv
        exact XOk.cond hr hv (t := false) (IH _ _ _ _ _ h)
      · cases h
    · exact (bad_none h).elim
  | .block id c, x, e, Z, h => by
    replace h : e_blk ex id (comp P nt c) x = some (e, Z) := h
    unfold e_blk at h
    split at h
    · rename_i i y hy
      cases hb : Nat.beq i id with
      | true =>
        rw [hb] at h
        have he := Nat.eq_of_beq_eq_true hb
        cases h
        subst he
        exact (IH _ _ _ _ _ hy).block
      | false =>
        rw [hb] at h
        cases h
        exact (IH _ _ _ _ _ hy).blockThrough fun he => by
          cases he
          simp at hb
    · rename_i hne
      exact (IH _ _ _ _ _ h).blockThrough fun he => by
        subst he
        exact hne _ _ h
  | .loop c, x, e, Z, h => XOk.loop (XRounds.of IH IHl h)
  | .scope c, x, e, Z, h => XOk.scope (execB_ok hFP IH IHl c h)
  | .rangeFunc f ps a b, x, e, Z, h => by
    simp only [comp] at h
    split at h
    · rename_i r ps' hr hps
      exact XOk.rf hFP IH hr hps h
    · exact (bad_none h).elim
  | .goto _, x, e, Z, h => (bad_none h).elim
  | .refuse _, x, e, Z, h => (bad_none h).elim

theorem exec_ok (hFP : FPok P FP) : ∀ n, (∀ nt c x e Z, exec P FP n (comp P nt c) x = some (e, Z) → XOk P nt c x e Z) ∧ (∀ nt c x e Z, exec P FP n (.loop (comp P nt c)) x = some (e, Z) → XRounds P nt c x e Z)
  | 0 => ⟨(fun _ _ _ _ _ h => by cases h), (fun _ _ _ _ _ h => by cases h)⟩
  | n + 1 => by
    obtain ⟨h1, h2⟩ := exec_ok hFP n
    exact ⟨fun nt c x e Z h => execB_ok hFP h1 h2 c h, fun nt c x e Z h => XRounds.of (FP := FP) h1 h2 h⟩

end
end Go.Ev
