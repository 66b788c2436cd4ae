import Derived.Test.YtjgbfnciedkafaaEvJg1
set_option linter.all false
namespace Go.Ev
open Go.Proofs
set_option maxRecDepth 100000
/-! ### the program's answers are the reference's -/
theorem rd_same {n : Int} {l x : Ln} (hn : 1 ≤ n ∧ n ≤ 4) (h : lnOk n l = true) : rdB n l x = rd1 n l x := by
  unfold lnOk at h
  simp only [Bool.and_eq_true, inR_iff] at h
  obtain ⟨⟨h1, h2⟩, ⟨h3, h4⟩, ⟨h5, h6⟩⟩ := h
  have hK : (kLo l ≤ x.k ∧ x.k ≤ kHi l) ↔ ((1 ≤ x.k ∧ x.k ≤ 2) ∧ (l.k = 0 ∨ l.k = x.k)) := by
    unfold kLo kHi
    split <;> omega
  have hC : (cLo l ≤ x.c ∧ x.c ≤ cHi n l) ↔ ((0 ≤ x.c ∧ x.c ≤ n - 1) ∧ (l.c < 0 ∨ l.c = x.c)) := by
    unfold cLo cHi
    split <;> omega
  have hT : (tLo l ≤ x.t ∧ x.t ≤ tHi n l) ↔ ((0 ≤ x.t ∧ x.t ≤ n - 1) ∧ (l.t < 0 ∨ l.t = x.t)) := by
    unfold tLo tHi
    split <;> omega
  unfold rdB rd1 agB
  rw [Bool.eq_iff_iff]
  simp only [Bool.and_eq_true, Bool.or_eq_true, decide_eq_true_iff, inR_iff]
  constructor
  · rintro ⟨a, b, c, d, e, f⟩
    have k := hK.1 ⟨a, b⟩
    have k2 := hC.1 ⟨c, d⟩
    have k3 := hT.1 ⟨e, f⟩
    exact ⟨k.1, k2.1, k3.1, k.2, k2.2, k3.2⟩
  · rintro ⟨a, b, c, d, e, f⟩
    have k := hK.2 ⟨a, d⟩
    have k2 := hC.2 ⟨b, e⟩
    have k3 := hT.2 ⟨c, f⟩
    exact ⟨k.1, k.2, k2.1, k2.2, k3.1, k3.2⟩
theorem all_and {α : Type} (p q : α → Bool) : ∀ l : List α, (l.all fun x => p x && q x) = (l.all p && l.all q)
  | [] => rfl
  | x :: l => by
    simp only [List.all_cons, all_and p q l]
    cases p x <;> cases q x <;> cases l.all p <;> cases l.all q <;> rfl
theorem all_same {α : Type} {p q : α → Bool} : ∀ {l : List α}, (∀ x ∈ l, p x = q x) → l.all p = l.all q
  | [], _ => rfl
  | x :: l, h => by
    simp only [List.all_cons]
    rw [h x (by simp), all_same fun y hy => h y (by simp [hy])]
theorem follow_ref {n : Int} {ls T : List Ln} (hn : 1 ≤ n ∧ n ≤ 4) (h : ls.all (lnOk n) = true) : followB n ls T = (readB n ls T && possB T) := by
  unfold followB readB possB
  by_cases hl : T.length = ls.length
  · rw [decide_eq_true hl, Bool.true_and, Bool.true_and, ← all_and]
    refine all_same fun q hq => ?_
    have hq := List.mem_range.1 hq
    rw [rd_same hn (List.all_eq_true.1 h _ (getD_mem (d := default) (by omega)))]
  · rw [decide_eq_false hl]; rfl
theorem moF_le {box coin : Int} {T : List Ln} {j q : Nat} (h : q ≤ j) : moF box coin T j q = moR box coin T q := by
  unfold moF
  rw [Nat.ble_eq_true_of_le h]; rfl
theorem right_ref {box coin : Int} {cs : List Ct} {T : List Ln} (hok : ∀ c ∈ cs, 0 ≤ c.a ∧ c.a ≤ T.length) : (moL (moF box coin T T.length) (T.length + 1)).all (rightB cs) = cntB box coin cs T := by
  rw [Bool.eq_iff_iff, List.all_eq_true]
  unfold cntB
  rw [List.all_eq_true]
  constructor
  · intro h c hc
    obtain ⟨a1, a2⟩ := hok c hc
    have hm := h (moF box coin T T.length c.a.toNat) (by unfold moL; exact List.mem_map.2 ⟨c.a.toNat, List.mem_range.2 (by omega), rfl⟩)
    unfold rightB at hm
    have := List.all_eq_true.1 hm c hc
    rw [moF_le (by omega)] at this
    have hd : c.a = (moR box coin T c.a.toNat).n := by show c.a = ((c.a.toNat : Nat) : Int); omega
    rw [decide_eq_true hd] at this
    exact this
  · intro h m hm
    unfold moL at hm
    obtain ⟨q, hq, rfl⟩ := List.mem_map.1 hm
    have hq := List.mem_range.1 hq
    rw [moF_le (by omega)]
    unfold rightB
    rw [List.all_eq_true]
    intro c hc
    have := h c hc
    by_cases e : c.a = (moR box coin T q).n
    · have e' : c.a = (q : Int) := e
      rw [show c.a.toNat = q by omega] at this
      rw [decide_eq_true e]
      exact this
    · rw [decide_eq_false e]; rfl
theorem prove_ref {n coin box : Int} {ls : List Ln} {cs : List Ct} {T : List Ln} (h0 : faultT n coin box ls cs = 0) : proveB n coin box ls cs T = fitsB n coin box ls cs T := by
  obtain ⟨f1, f2, f3, f4⟩ := fault_okT h0
  unfold vldT at f3
  simp only [Bool.and_eq_true] at f3
  obtain ⟨v1, v2, v3, v4, v5⟩ := f3
  have hn : 1 ≤ n ∧ n ≤ 4 := inR_iff.1 v1
  have hfr := follow_ref (T := T) hn v4
  unfold proveB fitsB
  rw [decide_eq_true h0, Bool.true_and, ← Bool.and_assoc, ← hfr]
  cases hF : followB n ls T with
  | false => rfl
  | true =>
    have hl : T.length = ls.length := by
      unfold followB at hF
      rw [Bool.and_eq_true] at hF
      exact of_decide_eq_true hF.1
    have hok : ∀ c ∈ cs, 0 ≤ c.a ∧ c.a ≤ T.length := fun c hc => by
      have := List.all_eq_true.1 v5 c hc
      unfold ctOk at this
      rw [Bool.and_eq_true] at this
      have := inR_iff.1 this.1
      omega
    have hfo : folF box coin n ls T = moF box coin T T.length := by unfold folF; rw [hF]; rfl
    rw [hfo, ← hl, right_ref hok]
end Go.Ev
