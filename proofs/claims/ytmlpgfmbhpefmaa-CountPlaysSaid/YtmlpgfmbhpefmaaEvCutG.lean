import Derived.Test.YtmlpgfmbhpefmaaEvCut
namespace Go.Ev
open Go.RowKit (Below Grown)

/-! ### pieces with more alive: what the masks name -/
noncomputable def restr {α : Type} (m : T Unit) : T α → T α :=
  T.rec (fun _ => .e) (fun _ v _ gl gr t => T.casesOn t .e fun l' v' r' => .n (gl l') (Option.casesOn v none fun _ => v') (gr r')) m
theorem restr_get {α : Type} : ∀ (m : T Unit) (t : T α) (p : Pos) {x : α}, (restr m t).get p = some x → t.get p = some x
  | .e, t, p, x, h => by
    have h : (T.e : T α).get p = some x := h
    rw [T.get_e] at h; cases h
  | .n _ _ _, .e, p, x, h => by
    have h : (T.e : T α).get p = some x := h
    rw [T.get_e] at h; cases h
  | .n l v r, .n l' v' r', p, x, h => by
    cases p with
    | h =>
      have h : (Option.casesOn v none fun _ => v' : Option α) = some x := h
      cases v with
      | none => cases h
      | some _ => exact h
    | o p => exact restr_get l l' p h
    | i p => exact restr_get r r' p h

noncomputable def gcX (ms mo : T Unit) (r : Option (Ex × X)) : Option X :=
  match r with
  | some (.normal, ⟨sl, ob, nx, none⟩) => some ⟨restr ms sl, restr mo ob, nx, none⟩
  | _ => none

section
variable {P : Program} {FP : T RF} {nt : Nat}
theorem XOk.weakG {c : Code} {ms mo : T Unit} {sl : T D} {ob : T C} {nx : Pos} {Z : X} {e : Ex} (h : XOk P nt c ⟨restr ms sl, restr mo ob, nx, none⟩ e Z) : XOk P nt c ⟨sl, ob, nx, none⟩ e Z := by
  refine ⟨h.lg, h.nx, fun id hn => ?_, fun so hs ro γ a w hn g R n Q hQ => h.ok so hs ro γ a w hn g ⟨fun s d hs hd => R.sl s d hs (restr_get ms sl s hd), fun id c hid hc => R.ob id c hid (restr_get mo ob id hc), R.nx⟩ n Q hQ⟩
  have : Z.lg = none := h.lg.none.1 rfl
  rw [this] at hn
  exact absurd trivial hn
theorem pieceG_ok (hFP : FPok P FP) {n k : Nat} {c : Code} {x X1 Z : X} {ms mo : T Unit} {e : Ex} (h : gcX ms mo (exec P FP n (comp P nt (Code.pre k c)) x) = some X1) (h2 : XOk P nt (Code.suf k c) X1 e Z) : XOk P nt c x e Z := by
  unfold gcX at h
  split at h
  · rename_i sl ob nx hy
    cases h
    exact pre_ok hFP k hy h2.weakG
  · cases h
end
end Go.Ev
