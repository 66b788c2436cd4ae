import Derived.Test.YtpemagogcagipaaEvQF
import Derived.Test.YtpemagogcagipaaEvMN
set_option linter.all false
namespace Go.Ev
open Go.Proofs
set_option maxRecDepth 100000
end Go.Ev

namespace Go.Ev
open Go.Proofs
set_option maxRecDepth 100000
end Go.Ev

namespace Go.Ev
open Go.Proofs
set_option maxRecDepth 100000
theorem bdR_in {A : List Int} {x : Int} (h : x ∈ A) : (bdR A).1 ≤ x ∧ x ≤ (bdR A).2 := by
  obtain ⟨a, s, rfl⟩ : ∃ a s, A = a :: s := by
    cases A with
    | nil => cases h
    | cons a s => exact ⟨a, s, rfl⟩
  unfold bdR
  rw [maxN_all]
  exact ⟨(foldl_minS (a :: s) a).2.1 x h, (foldl_maxS (a :: s) a).2.1 x h⟩
theorem bdR_at {A : List Int} (h0 : 0 < A.length) : (bdR A).1 ∈ A ∧ (bdR A).2 ∈ A := by
  obtain ⟨a, s, rfl⟩ : ∃ a s, A = a :: s := by
    cases A with
    | nil => cases h0
    | cons a s => exact ⟨a, s, rfl⟩
  unfold bdR
  rw [maxN_all]
  refine ⟨?_, ?_⟩
  · rcases (foldl_minS (a :: s) a).2.2 with h | h
    · show (a :: s).foldl min a ∈ _
      rw [h]; simp
    · exact h
  · rcases (foldl_maxS (a :: s) a).2.2 with h | h
    · show (a :: s).foldl max a ∈ _
      rw [h]; simp
    · exact h
theorem bdG_in {L : List (Nat → Int)} {c : Nat → Int} (h : c ∈ L) (j : Nat) : (bdG L j).lo ≤ c j ∧ c j ≤ (bdG L j).hi := bdR_in (List.mem_map_of_mem (f := fun c : Nat → Int => c j) h)
theorem bdG_at {L : List (Nat → Int)} (h0 : L ≠ []) (j : Nat) : (∃ c ∈ L, c j = (bdG L j).lo) ∧ ∃ c ∈ L, c j = (bdG L j).hi := by
  obtain ⟨h1, h2⟩ := bdR_at (A := L.map fun c => c j) (by rw [List.length_map]; exact List.length_pos_iff.2 h0)
  obtain ⟨c, k1, k2⟩ := List.mem_map.1 h1
  obtain ⟨d, k3, k4⟩ := List.mem_map.1 h2
  exact ⟨⟨c, k1, k2⟩, ⟨d, k3, k4⟩⟩
theorem bdsR_at (L : List (Nat → Int)) {n j : Nat} (h : j < n) : (bdsR L n).getD j default = bdG L j := by simp [bdsR, List.getD, h]
theorem bdsR_len (L : List (Nat → Int)) (n : Nat) : (bdsR L n).length = n := by simp [bdsR]
theorem exS_150 {hs : List Rg} (hv : Vr hs) (hm : manyR hs ≤ 150) (step : Int) : (exS hs step hs.length 0 zeroS).length ≤ 150 := by
  have h1 := exS_len hs step hs.length 0 zeroS (by omega)
  rw [List.drop_zero] at h1
  have h2 := szs_eq hv
  have h3 := manyR_eq hv
  omega
theorem thin_many {last : Int} {hs : List Rg} {step : Int} {lv : List Int} {ms : List Mk} (hT : thinR last hs step lv ms = true) (hf : faultR last hs step lv ms = 0) : manyR hs ≤ 150 := by
  unfold thinR at hT
  rw [Bool.and_eq_true, Bool.or_eq_true, decide_eq_true_iff, decide_eq_true_iff, decide_eq_true_iff] at hT
  omega
end Go.Ev

namespace Go.Ev
open Go.Proofs
set_option maxRecDepth 100000
end Go.Ev
