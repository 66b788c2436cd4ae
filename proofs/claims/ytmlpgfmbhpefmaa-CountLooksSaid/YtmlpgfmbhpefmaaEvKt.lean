import Derived.Test.YtmlpgfmbhpefmaaEvKs
import Derived.Test.YtmlpgfmbhpefmaaEvKr
import Derived.Test.YtmlpgfmbhpefmaaEvFt
set_option linter.all false
namespace Go.Ev
open Go.Proofs
set_option maxRecDepth 100000
theorem thin_len {l : List Int} {cs : List Cnt} {wr off : Int} (h1 : thinB l cs wr off = true) : l.length ≤ 11 ∧ cs.length ≤ 8 := by
  unfold thinB at h1
  rw [Bool.and_eq_true, Bool.and_eq_true, decide_eq_true_iff, decide_eq_true_iff] at h1
  exact ⟨h1.1, h1.2.1⟩
theorem part_iff {n : Nat} {f t : Int} : partB n f t = (inB f 0 t && decide (t < n)) := by
  unfold partB inB
  rw [← Bool.decide_and, ← Bool.decide_and]
  congr 1
  apply propext
  omega
theorem truths_nil {l : List Int} {cs : List Cnt} {wr off : Int} (hl : l.length ≤ 9) : truR l cs wr off = [] ↔ truthsF l cs wr off = [] := by
  rw [truR_eq l cs wr off hl, List.map_eq_nil_iff]
end Go.Ev

namespace Go.Ev
open Go.Proofs
set_option maxRecDepth 100000
theorem foldmin_le : ∀ (L : List Int) (a : Int), L.foldl min a ≤ a ∧ ∀ x ∈ L, L.foldl min a ≤ x
  | [], a => ⟨Int.le_refl _, fun x h => by cases h⟩
  | b :: L, a => by
    obtain ⟨h1, h2⟩ := foldmin_le L (min a b)
    refine ⟨by show List.foldl min (min a b) L ≤ a; omega, fun x hx => ?_⟩
    show List.foldl min (min a b) L ≤ x
    rcases List.mem_cons.1 hx with rfl | hx
    · omega
    · exact h2 x hx
theorem foldmax_le : ∀ (L : List Int) (a : Int), a ≤ L.foldl max a ∧ ∀ x ∈ L, x ≤ L.foldl max a
  | [], a => ⟨Int.le_refl _, fun x h => by cases h⟩
  | b :: L, a => by
    obtain ⟨h1, h2⟩ := foldmax_le L (max a b)
    refine ⟨by show a ≤ List.foldl max (max a b) L; omega, fun x hx => ?_⟩
    show x ≤ List.foldl max (max a b) L
    rcases List.mem_cons.1 hx with rfl | hx
    · omega
    · exact h2 x hx
theorem bnd_spec {R : List (List Int)} {f t : Int} (hne : R ≠ []) (hb : ∀ x ∈ R, 0 ≤ sumT f t x ∧ sumT f t x ≤ 9) :
    (∀ x ∈ R, loR f t R ≤ sumT f t x ∧ sumT f t x ≤ hiR f t R) ∧ (∃ x ∈ R, sumT f t x = loR f t R) ∧ (∃ x ∈ R, sumT f t x = hiR f t R) := by
  have e1 : loR f t R = (R.map (sumT f t)).foldl min 1099511627776 := by rw [List.foldl_map]; rfl
  have e2 : hiR f t R = (R.map (sumT f t)).foldl max (-1) := by rw [List.foldl_map]; rfl
  have h1 : ∀ x ∈ R, loR f t R ≤ sumT f t x ∧ sumT f t x ≤ hiR f t R := fun x hx => by
    rw [e1, e2]
    exact ⟨(foldmin_le _ _).2 _ (List.mem_map.2 ⟨x, hx, rfl⟩), (foldmax_le _ _).2 _ (List.mem_map.2 ⟨x, hx, rfl⟩)⟩
  obtain ⟨y, hy⟩ := List.exists_mem_of_ne_nil _ hne
  refine ⟨h1, ?_, ?_⟩
  · rcases foldmin_mem (L := R.map (sumT f t)) (a := 1099511627776) with h | h
    · have := (h1 y hy).1; have := (hb y hy).2; omega
    · obtain ⟨x, hx, he⟩ := List.mem_map.1 h
      exact ⟨x, hx, by rw [he, e1]⟩
  · rcases foldmax_mem (L := R.map (sumT f t)) (a := -1) with h | h
    · have := (h1 y hy).2; have := (hb y hy).1; omega
    · obtain ⟨x, hx, he⟩ := List.mem_map.1 h
      exact ⟨x, hx, by rw [he, e2]⟩
section
variable {l : List Int} {cs : List Cnt} {wr off f t : Int}
theorem startE_in (hF : faultR l cs wr off = 0) (h0 : 0 ≤ f) (h1 : f ≤ t) (h2 : t < l.length) : startE l cs wr off f t = if truR l cs wr off = [] then 11 else 0 := by
  obtain ⟨f1, f2, f3, f4⟩ := fault0 hF
  unfold startE
  rw [if_pos hF, if_pos (by unfold inB; rw [decide_eq_true (by omega), decide_eq_true h2]; rfl)]
  simp only [truths_nil f2]
theorem sum_bd (hF : faultR l cs wr off = 0) (h0 : 0 ≤ f) (h1 : f ≤ t + 1) (h2 : t < l.length) : ∀ x ∈ truR l cs wr off, 0 ≤ sumT f t x ∧ sumT f t x ≤ 9 := fun x hx => by
  obtain ⟨f1, f2, f3, f4⟩ := fault0 hF
  obtain ⟨q1, q2⟩ := truR_mem x hx
  have := sumP_bd q2 f.toNat (t + 1 - f).toNat (by omega)
  unfold sumT
  omega
end
theorem any_take_succ {α : Type} {l : List α} {p : α → Bool} {i : Nat} {d : α} (h : i < l.length) : (l.take (i + 1)).any p = ((l.take i).any p || p (l.getD i d)) := by
  rw [take_succ_getD (d := d) h, List.any_append]
  simp
end Go.Ev
