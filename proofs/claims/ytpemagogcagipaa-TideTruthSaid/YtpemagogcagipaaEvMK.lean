import Derived.Test.YtpemagogcagipaaEvMJ
set_option linter.all false
namespace Go.Ev
open Go.Proofs
set_option maxRecDepth 100000
def soonR (t : List Int) (level : Int) : Int := match wetL t level with
  | [] => (t.length : Int)
  | a :: _ => a
end Go.Ev

namespace Go.Ev
open Go.Proofs
set_option maxRecDepth 100000
end Go.Ev

namespace Go.Ev
open Go.Proofs
theorem mem_truthsR {last : Int} {hs : List Rg} {step : Int} {lv : List Int} {ms : List Mk} (V : ValidT last hs step lv ms) (hm : manyR hs ≤ 2000) {t : List Int} : t ∈ truthsR hs step ms ↔ t.length = hs.length ∧ listedR hs step t = true ∧ fitsR (wantS t) ms = true := by
  unfold truthsR
  rw [List.mem_filter, mem_listsR V.hv hm]
  unfold truthR
  rw [Bool.and_eq_true]
  constructor
  · rintro ⟨h1, _, h3⟩
    have hl := listed_lenZ h1
    exact ⟨hl, h1, by rw [V.fits hl]; exact h3⟩
  · rintro ⟨hl, h1, h3⟩
    rw [V.fits hl] at h3
    exact ⟨h1, h1, h3⟩
theorem mem_truthS {last : Int} {hs : List Rg} {step : Int} {lv : List Int} {ms : List Mk} (V : ValidT last hs step lv ms) (hm : manyR hs ≤ 2000) {x : Nat → Int} : x ∈ truthS hs step ms ↔ ∃ t, t ∈ truthsR hs step ms ∧ wantS t = x := by
  unfold truthS
  rw [List.mem_filter]
  constructor
  · rintro ⟨h1, h2⟩
    obtain ⟨t, k1, k2, k3⟩ := all_exS rfl h1
    refine ⟨t, (mem_truthsR V hm).2 ⟨k1, k2, ?_⟩, k3⟩
    rw [k3]; exact h2
  · rintro ⟨t, h1, rfl⟩
    obtain ⟨k1, k2, k3⟩ := (mem_truthsR V hm).1 h1
    exact ⟨(mem_exS hs step hs.length 0 zeroS _).2 ((fit_listed rfl k1).2 k2), k3⟩
theorem truth_nil {last : Int} {hs : List Rg} {step : Int} {lv : List Int} {ms : List Mk} (V : ValidT last hs step lv ms) (hm : manyR hs ≤ 2000) : truthS hs step ms = [] ↔ truthsR hs step ms = [] := by
  constructor
  · intro h
    cases hT : truthsR hs step ms with
    | nil => rfl
    | cons a s =>
      have : wantS a ∈ truthS hs step ms := (mem_truthS V hm).2 ⟨a, by rw [hT]; simp, rfl⟩
      rw [h] at this
      cases this
  · intro h
    cases hT : truthS hs step ms with
    | nil => rfl
    | cons a s =>
      obtain ⟨t, k1, _⟩ := (mem_truthS V hm (x := a)).1 (by rw [hT]; simp)
      rw [h] at k1
      cases k1
theorem foldl_minS : ∀ (L : List Int) (a : Int), L.foldl min a ≤ a ∧ (∀ x ∈ L, L.foldl min a ≤ x) ∧ (L.foldl min a = a ∨ L.foldl min a ∈ L)
  | [], a => ⟨Int.le_refl _, (fun x h => by cases h), .inl rfl⟩
  | b :: L, a => by
    obtain ⟨h1, h2, h3⟩ := foldl_minS L (min a b)
    have e : (b :: L).foldl min a = L.foldl min (min a b) := rfl
    rw [e]
    refine ⟨by omega, fun x hx => ?_, ?_⟩
    · rcases List.mem_cons.1 hx with rfl | hx
      · omega
      · exact h2 x hx
    · rcases h3 with h3 | h3
      · by_cases hab : a ≤ b
        · exact .inl (by omega)
        · refine .inr (List.mem_cons.2 (.inl ?_))
          omega
      · exact .inr (List.mem_cons.2 (.inr h3))
theorem foldl_maxS : ∀ (L : List Int) (a : Int), a ≤ L.foldl max a ∧ (∀ x ∈ L, x ≤ L.foldl max a) ∧ (L.foldl max a = a ∨ L.foldl max a ∈ L)
  | [], a => ⟨Int.le_refl _, (fun x h => by cases h), .inl rfl⟩
  | b :: L, a => by
    obtain ⟨h1, h2, h3⟩ := foldl_maxS L (max a b)
    have e : (b :: L).foldl max a = L.foldl max (max a b) := rfl
    rw [e]
    refine ⟨by omega, fun x hx => ?_, ?_⟩
    · rcases List.mem_cons.1 hx with rfl | hx
      · omega
      · exact h2 x hx
    · rcases h3 with h3 | h3
      · by_cases hab : b ≤ a
        · exact .inl (by omega)
        · refine .inr (List.mem_cons.2 (.inl ?_))
          omega
      · exact .inr (List.mem_cons.2 (.inr h3))
theorem maxN_all {a : Int} {s : List Int} : maxN (a :: s) ((a :: s).length - 1) = (a :: s).foldl max a := by
  unfold maxN
  show (s.take s.length).foldl max a = s.foldl max (max a a)
  rw [List.take_length, Int.max_self]
theorem wetL_sorted (t : List Int) (level : Int) : (wetL t level).Pairwise (fun a b => a < b) := by
  unfold wetL idxL
  refine List.Pairwise.filter _ ?_
  rw [List.pairwise_map]
  exact List.Pairwise.imp (fun {a b} h => by omega) List.pairwise_lt_range
theorem wetL_mem {t : List Int} {level x : Int} (h : x ∈ wetL t level) : 0 ≤ x ∧ x < t.length := by
  have h := (List.mem_filter.1 h).1
  obtain ⟨n, h1, rfl⟩ := List.mem_map.1 h
  have := List.mem_range.1 h1
  omega
theorem soon_first (t : List Int) (level : Int) : minL (t.length : Int) (wetL t level) = soonR t level := by
  have hS := wetL_sorted t level
  have hM := fun x h => wetL_mem (t := t) (level := level) (x := x) h
  unfold soonR
  cases hW : wetL t level with
  | nil => rfl
  | cons a s =>
    rw [hW] at hS hM
    have em : minL (t.length : Int) (a :: s) = (a :: s).foldl min (t.length : Int) := rfl
    rw [em]
    obtain ⟨p1, p2, p3⟩ := foldl_minS (a :: s) (t.length : Int)
    have ha := hM a (by simp)
    have q := p2 a (by simp)
    have hs := (List.pairwise_cons.1 hS).1
    rcases p3 with h | h
    · omega
    · rcases List.mem_cons.1 h with h | h
      · exact h
      · have := hs _ h
        omega
end Go.Ev

namespace Go.Ev
open Go.Proofs
set_option maxRecDepth 100000
end Go.Ev
