import Derived.Test.YtjgbfnciedkafaaEvUG6
set_option linter.all false
namespace Go.Ev
open Go.Proofs
set_option maxRecDepth 100000
section
variable {σ : Type} {S : Tns σ} {B : Bk} {I : List (List Ln) → σ → Prop} {R : σ → List Ln → σ → Bool → Prop}
end
end Go.Ev
namespace Go.Ev
open Go.Proofs
set_option maxRecDepth 100000
def lg11 : T Bool := .n (.n (.n (.n .e (some true) .e) (some true) .e) (some true) (.n (.n .e (some true) .e) (some true) .e)) (some true) (.n (.n (.n .e (some true) .e) (some true) .e) (some true) (.n (.n .e (some true) .e) (some true) .e))
theorem lg11_w {id : Pos} (h : id.nat < 12) : wrtn (some lg11) id := by
  rcases pos_lt12 h with rfl | rfl | rfl | rfl | rfl | rfl | rfl | rfl | rfl | rfl | rfl <;> rfl
theorem lg11_le : LgLe (some .e) (some lg11) := by
  refine ⟨⟨fun h => (by cases h), fun h => (by cases h)⟩, fun id h => ?_, fun id h => ?_⟩
  · obtain ⟨b, hb⟩ := h
    rw [T.get_e] at hb; cases hb
  · have h : (T.e : T Bool).get id = some true := h
    rw [T.get_e] at h; cases h
section
variable {σ : Type} {S : Tns σ} {B : Bk} {I : List (List Ln) → σ → Prop} {R : σ → List Ln → σ → Bool → Prop}
end
end Go.Ev
namespace Go.Ev
open Go.Proofs
set_option maxRecDepth 100000
end Go.Ev
namespace Go.Ev
open Go.Proofs
set_option maxRecDepth 100000
section
variable {B : Bk} {aft : Nat} {g : Pos} {first caps : List D} (h1 : PuL first) (h2 : PuL caps)
include h1 h2
end
end Go.Ev