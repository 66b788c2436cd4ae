import Derived.Test.YtmlpgfmbhpefmaaEvLe
set_option linter.all false
namespace Go.Ev
open Go.Proofs
set_option maxRecDepth 100000
theorem foldA_iny : ∀ (l y : List Int) (L : List (List Int)) (x : List Int), x ∈ L → y.length = l.length → (∀ i, i < l.length → fitB l y i = true) → x ++ y ∈ foldA l L
  | [], y, L, x, hx, hy, _ => by
    rw [List.length_eq_zero_iff.1 hy, List.append_nil]; exact hx
  | a :: l, [], L, x, hx, hy, _ => by cases hy
  | a :: l, b :: y, L, x, hx, hy, hf => by
    have h0 := hf 0 (by simp)
    unfold fitB inB at h0
    simp only [List.getD_cons_zero, Bool.and_eq_true, Bool.or_eq_true, decide_eq_true_eq] at h0
    have hb : x ++ [b] ∈ stepL a L := by
      refine List.mem_flatMap.2 ⟨x, hx, ?_⟩
      have : b = 0 ∨ b = 1 := by omega
      have hok : okB a b = true := by
        unfold okB
        rcases h0.2 with e | e
        · rw [e]; rfl
        · rw [e]; simp
      simp only [exN, List.nil_append, List.mem_append]
      rcases this with rfl | rfl
      · left; rw [show okB a ((0 : Nat) : Int) = true from hok]; simp
      · right; rw [show okB a ((1 : Nat) : Int) = true from hok]; simp
    have := foldA_iny l y (stepL a L) (x ++ [b]) hb (by simpa using hy) (fun i hi => by
      have := hf (i + 1) (by simp; omega)
      unfold fitB at *
      simpa only [List.getD_cons_succ] using this)
    rw [List.append_assoc] at this
    exact this
theorem mem_allRy {l t : List Int} : t ∈ allR l ↔ isTruthR l t = true := ⟨fun h => allR_truth l t h, fun h => by
  unfold isTruthR at h
  rw [Bool.and_eq_true, decide_eq_true_iff, List.all_eq_true] at h
  have := foldA_iny l t [[]] [] (by simp) h.1 (fun i hi => h.2 i (List.mem_range.2 (by omega)))
  exact this⟩
theorem mem_truRy {l : List Int} {cs : List Cnt} {wr off : Int} {t : List Int} : t ∈ truR l cs wr off ↔ isTruthR l t = true ∧ 0 ≤ wrongR cs off t ∧ wrongR cs off t ≤ wr := by
  unfold truR
  rw [List.mem_filter, mem_allRy]
  unfold fitR inB
  simp only [Bool.and_eq_true, decide_eq_true_eq]
  constructor
  · rintro ⟨h1, h2, h3⟩; exact ⟨h1, h3⟩
  · rintro ⟨h1, h2⟩; exact ⟨h1, h1, h2⟩
section
variable {sl : T D} {ob : T C} {nx : Pos} {lg : Option (T Bool)} {K : X → Prop}
end

end Go.Ev

namespace Go.Ev
open Go.Proofs
set_option maxRecDepth 100000
end Go.Ev
