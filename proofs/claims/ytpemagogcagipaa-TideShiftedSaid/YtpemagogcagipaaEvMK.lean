import Derived.Test.YtpemagogcagipaaEvMJ
set_option linter.all false
namespace Go.Ev
open Go.Proofs
set_option maxRecDepth 100000
end Go.Ev

namespace Go.Ev
open Go.Proofs
set_option maxRecDepth 100000
end Go.Ev

namespace Go.Ev
open Go.Proofs
theorem mem_truthsR {last : Int} {hs : List Rg} {step : Int} {lv : List Int} {ms : List Mk} (V : ValidT last hs step lv ms) (hm : manyR hs ≤ 2000) {t : List Int} : t ∈ truthsR hs step ms ↔ t.length = hs.length ∧ listedR hs step t = true ∧ fitsR (wantS t) ms = true := by
  unfold truthsR
  rw [List.mem_filter, mem_listsR V.hv hm]
  unfold truthR
  rw [Bool.and_eq_true]
  constructor
  · rintro ⟨h1, _, h3⟩
    have hl := listed_lenZ h1
    exact ⟨hl, h1, by rw [V.fits hl]; exact h3⟩
  · rintro ⟨hl, h1, h3⟩
    rw [V.fits hl] at h3
    exact ⟨h1, h1, h3⟩
theorem mem_truthS {last : Int} {hs : List Rg} {step : Int} {lv : List Int} {ms : List Mk} (V : ValidT last hs step lv ms) (hm : manyR hs ≤ 2000) {x : Nat → Int} : x ∈ truthS hs step ms ↔ ∃ t, t ∈ truthsR hs step ms ∧ wantS t = x := by
  unfold truthS
  rw [List.mem_filter]
  constructor
  · rintro ⟨h1, h2⟩
    obtain ⟨t, k1, k2, k3⟩ := all_exS rfl h1
    refine ⟨t, (mem_truthsR V hm).2 ⟨k1, k2, ?_⟩, k3⟩
    rw [k3]; exact h2
  · rintro ⟨t, h1, rfl⟩
    obtain ⟨k1, k2, k3⟩ := (mem_truthsR V hm).1 h1
    exact ⟨(mem_exS hs step hs.length 0 zeroS _).2 ((fit_listed rfl k1).2 k2), k3⟩
theorem truth_nil {last : Int} {hs : List Rg} {step : Int} {lv : List Int} {ms : List Mk} (V : ValidT last hs step lv ms) (hm : manyR hs ≤ 2000) : truthS hs step ms = [] ↔ truthsR hs step ms = [] := by
  constructor
  · intro h
    cases hT : truthsR hs step ms with
    | nil => rfl
    | cons a s =>
      have : wantS a ∈ truthS hs step ms := (mem_truthS V hm).2 ⟨a, by rw [hT]; simp, rfl⟩
      rw [h] at this
      cases this
  · intro h
    cases hT : truthS hs step ms with
    | nil => rfl
    | cons a s =>
      obtain ⟨t, k1, _⟩ := (mem_truthS V hm (x := a)).1 (by rw [hT]; simp)
      rw [h] at k1
      cases k1
theorem foldl_minS : ∀ (L : List Int) (a : Int), L.foldl min a ≤ a ∧ (∀ x ∈ L, L.foldl min a ≤ x) ∧ (L.foldl min a = a ∨ L.foldl min a ∈ L)
  | [], a => ⟨Int.le_refl _, (fun x h => by cases h), .inl rfl⟩
  | b :: L, a => by
    obtain ⟨h1, h2, h3⟩ := foldl_minS L (min a b)
    have e : (b :: L).foldl min a = L.foldl min (min a b) := rfl
    rw [e]
    refine ⟨by omega, fun x hx => ?_, ?_⟩
    · rcases List.mem_cons.1 hx with rfl | hx
      · omega
      · exact h2 x hx
    · rcases h3 with h3 | h3
      · by_cases hab : a ≤ b
        · exact .inl (by omega)
        · refine .inr (List.mem_cons.2 (.inl ?_))
          omega
      · exact .inr (List.mem_cons.2 (.inr h3))
theorem foldl_maxS : ∀ (L : List Int) (a : Int), a ≤ L.foldl max a ∧ (∀ x ∈ L, x ≤ L.foldl max a) ∧ (L.foldl max a = a ∨ L.foldl max a ∈ L)
  | [], a => ⟨Int.le_refl _, (fun x h => by cases h), .inl rfl⟩
  | b :: L, a => by
    obtain ⟨h1, h2, h3⟩ := foldl_maxS L (max a b)
    have e : (b :: L).foldl max a = L.foldl max (max a b) := rfl
    rw [e]
    refine ⟨by omega, fun x hx => ?_, ?_⟩
    · rcases List.mem_cons.1 hx with rfl | hx
      · omega
      · exact h2 x hx
    · rcases h3 with h3 | h3
      · by_cases hab : b ≤ a
        · exact .inl (by omega)
        · refine .inr (List.mem_cons.2 (.inl ?_))
          omega
      · exact .inr (List.mem_cons.2 (.inr h3))
theorem maxN_all {a : Int} {s : List Int} : maxN (a :: s) ((a :: s).length - 1) = (a :: s).foldl max a := by
  unfold maxN
  show (s.take s.length).foldl max a = s.foldl max (max a a)
  rw [List.take_length, Int.max_self]
end Go.Ev

namespace Go.Ev
open Go.Proofs
set_option maxRecDepth 100000
end Go.Ev
