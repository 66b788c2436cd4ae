import Derived.Test.YtjgbfnciedkafaaEvUJx
set_option linter.all false
namespace Go.Ev
open Go.Proofs
set_option maxRecDepth 100000
def upF (F : Nat → Mo) (q : Nat) (m : Mo) (i : Nat) : Mo := bif Nat.beq i q then m else F i
theorem upF_eq (F : Nat → Mo) (q : Nat) (m : Mo) : upF F q m q = m := by simp [upF]
theorem upF_ne (F : Nat → Mo) {q i : Nat} (m : Mo) (h : i ≠ q) : upF F q m i = F i := by
  unfold upF
  rw [show Nat.beq i q = false from by
    cases e : Nat.beq i q with
    | false => rfl
    | true => exact absurd (Nat.eq_of_beq_eq_true e) h]
  rfl
section
variable {sl : T D} {ob : T Ev.C} {nx : Pos} {lg : Option (T Bool)} {K : X → Prop}
end
structure Tns (σ : Type) where
  o : Nat → σ → Option Ev.C
def i6 : Pos := .o (.i .h)
def i7 : Pos := .i (.i .h)
def i8 : Pos := .o (.o (.o .h))
def i9 : Pos := .i (.o (.o .h))
def i10 : Pos := .o (.i (.o .h))
noncomputable def wkCl (B : Bk) : Ev.C := .cells false ((wkQ B ++ [D.mp .h]).map fun d => Cell.o d 0) 1
def rdF : D := .fn p137 [] [.pt i6 0 0, .pt i9 0 0, .pt i8 0 0, .pt i10 0 0]
noncomputable def Tns.ob {σ : Type} (S : Tns σ) (B : Bk) (M : Memo) (F : Nat → Mo) (s : σ) : T Ev.C := trL (some (.map (mapL M))) (S.o 2 s) (S.o 3 s) (S.o 4 s) (S.o 5 s) (some (wkCl B)) (S.o 7 s) (some (.cells false [.o (.yl i7) 0] 1)) (some (moC F)) (some (.cells false [.o rdF 0] 1)) (S.o 11 s) none none none none none none none none none
structure TnsOk {σ : Type} (S : Tns σ) (B : Bk) (I : List (List Ln) → σ → Prop) (R : σ → List Ln → σ → Bool → Prop) : Prop where
  kp : ∀ M F s, KpO 12 (S.ob B M F s)
  inv : ∀ h s a s', h ++ [a] <+: exT B B.ls.length [] → I h s → R s a s' true → I (h ++ [a]) s'
  rnd : ∀ h s, I h s → ∀ X, h ++ [X] <+: exT B B.ls.length [] → ∀ M, MOk B M → ∃ g ob', (∃ s', R s X s' g ∧ ob' = S.ob B M (moF B.box B.coin X X.length) s') ∧ RndOk Try.prog i7 [.ag (mo126 (moF B.box B.coin X X.length))] (S.ob B M (moF B.box B.coin X X.length) s) n12 none (.b g) ob' n12 none
structure FOk (B : Bk) (i : Nat) (Q : List Ln) (F : Nat → Mo) : Prop where
  lo : ∀ q, q < i → F q = moR B.box B.coin Q q
  hi : ∀ q, B.ls.length < q → F q = mo0
theorem FOk.le {B : Bk} {i j : Nat} {Q : List Ln} {F : Nat → Mo} (h : FOk B i Q F) (k : j ≤ i) : FOk B j Q F := ⟨fun q hq => h.lo q (by omega), h.hi⟩
theorem FOk.put {B : Bk} {Q : List Ln} {F : Nat → Mo} (h : FOk B Q.length Q F) (hl : Q.length ≤ B.ls.length) : FOk B (Q.length + 1) Q (upF F Q.length (mo1 B Q)) := by
  refine ⟨fun q hq => ?_, fun q hq => ?_⟩
  · by_cases e : q = Q.length
    · subst e; rw [upF_eq]; rfl
    · rw [upF_ne _ _ e]; exact h.lo q (by omega)
  · rw [upF_ne _ _ (by omega)]; exact h.hi q hq
theorem FOk.same {B : Bk} {i : Nat} {Q Q' : List Ln} {F : Nat → Mo} (h : FOk B (i + 1) Q F) (hs : SameTo i Q Q') : FOk B (i + 1) Q' F := ⟨fun q hq => by
  rw [h.lo q hq]
  exact (moR_same (hs.le (by omega))).symm, h.hi⟩
end Go.Ev