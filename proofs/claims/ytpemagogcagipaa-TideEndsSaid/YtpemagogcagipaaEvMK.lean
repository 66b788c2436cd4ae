import Derived.Test.YtpemagogcagipaaEvMJ
set_option linter.all false
namespace Go.Ev
open Go.Proofs
set_option maxRecDepth 100000
def soonR (t : List Int) (level : Int) : Int := match wetL t level with
  | [] => (t.length : Int)
  | a :: _ => a
theorem c_Soonest (t : List Int) (level : Int) (hl : t.length ≤ 1000) : PureF Try.prog p56.ix [.lst 1 (ints t), .i .i64 level] (.i .i64 (soonR t level)) := by
  have e1 := ints_length t
  have e2 := ints_length (wetL t level)
  have iW := c_WetL t level hl
  unfold soonR
  refine PureF.run fn55 (by simp) (by simp [PuL, PuE, Pu, pu_ints]) ?_; conv => whnf
  cases hW : wetL t level with
  | nil =>
    rw [hW] at iW
    repeat' first | ((with_reducible apply WB.tt); conv => whnf) | ((with_reducible apply WB.ff); conv => whnf) | (refine Rn.seq ?_; conv => whnf) | (refine Rn.reg ?_; conv => whnf) | (refine Rn.drw ?_; conv => whnf) | (refine Rn.blk ?_; conv => whnf) | (refine Rn.skip ?_; conv => whnf) | (refine Rn.ret ?_; conv => whnf) | (refine Rn.exit ?_; conv => whnf) | (refine Rn.cond rfl ?_; conv => whnf) | (refine And.intro (InR.i64 (by omega) (by omega)) ?_; conv => whnf) | (refine And.intro (show _ ≠ (0 : Int) by omega) ?_; conv => whnf) | (refine WIx.intsN (by omega) ?_; conv => whnf) | (refine WIx.rowsN (by omega) ?_; conv => whnf) | (refine WCall.pure (iW) ?_; conv => whnf)
    refine WB.tt ?_; conv => whnf
    repeat' first | ((with_reducible apply WB.tt); conv => whnf) | ((with_reducible apply WB.ff); conv => whnf) | (refine Rn.seq ?_; conv => whnf) | (refine Rn.reg ?_; conv => whnf) | (refine Rn.drw ?_; conv => whnf) | (refine Rn.blk ?_; conv => whnf) | (refine Rn.skip ?_; conv => whnf) | (refine Rn.ret ?_; conv => whnf) | (refine Rn.exit ?_; conv => whnf) | (refine Rn.cond rfl ?_; conv => whnf) | (refine And.intro (InR.i64 (by omega) (by omega)) ?_; conv => whnf) | (refine And.intro (show _ ≠ (0 : Int) by omega) ?_; conv => whnf) | (refine WIx.intsN (by omega) ?_; conv => whnf) | (refine WIx.rowsN (by omega) ?_; conv => whnf)
    exact Fin.i rfl (by rw [e1])
  | cons a s =>
    rw [hW] at iW e2
    have h0 : 0 < (a :: s).length := Nat.succ_pos _
    clear hW
    repeat' first | ((with_reducible apply WB.tt); conv => whnf) | ((with_reducible apply WB.ff); conv => whnf) | (refine Rn.seq ?_; conv => whnf) | (refine Rn.reg ?_; conv => whnf) | (refine Rn.drw ?_; conv => whnf) | (refine Rn.blk ?_; conv => whnf) | (refine Rn.skip ?_; conv => whnf) | (refine Rn.ret ?_; conv => whnf) | (refine Rn.exit ?_; conv => whnf) | (refine Rn.cond rfl ?_; conv => whnf) | (refine And.intro (InR.i64 (by omega) (by omega)) ?_; conv => whnf) | (refine And.intro (show _ ≠ (0 : Int) by omega) ?_; conv => whnf) | (refine WIx.intsN (by omega) ?_; conv => whnf) | (refine WIx.rowsN (by omega) ?_; conv => whnf) | (refine WCall.pure (iW) ?_; conv => whnf)
    refine WB.dec (fun h => ?_) (fun h => ?_) <;> conv => whnf
    · exfalso
      have h2 : ((ints (a :: s)).length : Int) = 0 := h
      omega
    repeat' first | ((with_reducible apply WB.tt); conv => whnf) | ((with_reducible apply WB.ff); conv => whnf) | (refine Rn.seq ?_; conv => whnf) | (refine Rn.reg ?_; conv => whnf) | (refine Rn.drw ?_; conv => whnf) | (refine Rn.blk ?_; conv => whnf) | (refine Rn.skip ?_; conv => whnf) | (refine Rn.ret ?_; conv => whnf) | (refine Rn.exit ?_; conv => whnf) | (refine Rn.cond rfl ?_; conv => whnf) | (refine And.intro (InR.i64 (by omega) (by omega)) ?_; conv => whnf) | (refine And.intro (show _ ≠ (0 : Int) by omega) ?_; conv => whnf) | (refine WIx.intsN (by omega) ?_; conv => whnf) | (refine WIx.rowsN (by omega) ?_; conv => whnf)
    exact Fin.i rfl rfl
end Go.Ev

namespace Go.Ev
open Go.Proofs
set_option maxRecDepth 100000
def widF (r : Int × Int) (n : Int) : Int × Int := (min r.1 n, max r.2 n)
def widR (A : List Int) : Int × Int := A.foldl widF (1099511627776, -1)
end Go.Ev

namespace Go.Ev
open Go.Proofs
theorem mem_truthsR {last : Int} {hs : List Rg} {step : Int} {lv : List Int} {ms : List Mk} (V : ValidT last hs step lv ms) (hm : manyR hs ≤ 2000) {t : List Int} : t ∈ truthsR hs step ms ↔ t.length = hs.length ∧ listedR hs step t = true ∧ fitsR (wantS t) ms = true := by
  unfold truthsR
  rw [List.mem_filter, mem_listsR V.hv hm]
  unfold truthR
  rw [Bool.and_eq_true]
  constructor
  · rintro ⟨h1, _, h3⟩
    have hl := listed_lenZ h1
    exact ⟨hl, h1, by rw [V.fits hl]; exact h3⟩
  · rintro ⟨hl, h1, h3⟩
    rw [V.fits hl] at h3
    exact ⟨h1, h1, h3⟩
theorem mem_truthS {last : Int} {hs : List Rg} {step : Int} {lv : List Int} {ms : List Mk} (V : ValidT last hs step lv ms) (hm : manyR hs ≤ 2000) {x : Nat → Int} : x ∈ truthS hs step ms ↔ ∃ t, t ∈ truthsR hs step ms ∧ wantS t = x := by
  unfold truthS
  rw [List.mem_filter]
  constructor
  · rintro ⟨h1, h2⟩
    obtain ⟨t, k1, k2, k3⟩ := all_exS rfl h1
    refine ⟨t, (mem_truthsR V hm).2 ⟨k1, k2, ?_⟩, k3⟩
    rw [k3]; exact h2
  · rintro ⟨t, h1, rfl⟩
    obtain ⟨k1, k2, k3⟩ := (mem_truthsR V hm).1 h1
    exact ⟨(mem_exS hs step hs.length 0 zeroS _).2 ((fit_listed rfl k1).2 k2), k3⟩
theorem truth_nil {last : Int} {hs : List Rg} {step : Int} {lv : List Int} {ms : List Mk} (V : ValidT last hs step lv ms) (hm : manyR hs ≤ 2000) : truthS hs step ms = [] ↔ truthsR hs step ms = [] := by
  constructor
  · intro h
    cases hT : truthsR hs step ms with
    | nil => rfl
    | cons a s =>
      have : wantS a ∈ truthS hs step ms := (mem_truthS V hm).2 ⟨a, by rw [hT]; simp, rfl⟩
      rw [h] at this
      cases this
  · intro h
    cases hT : truthS hs step ms with
    | nil => rfl
    | cons a s =>
      obtain ⟨t, k1, _⟩ := (mem_truthS V hm (x := a)).1 (by rw [hT]; simp)
      rw [h] at k1
      cases k1
theorem foldl_minS : ∀ (L : List Int) (a : Int), L.foldl min a ≤ a ∧ (∀ x ∈ L, L.foldl min a ≤ x) ∧ (L.foldl min a = a ∨ L.foldl min a ∈ L)
  | [], a => ⟨Int.le_refl _, (fun x h => by cases h), .inl rfl⟩
  | b :: L, a => by
    obtain ⟨h1, h2, h3⟩ := foldl_minS L (min a b)
    have e : (b :: L).foldl min a = L.foldl min (min a b) := rfl
    rw [e]
    refine ⟨by omega, fun x hx => ?_, ?_⟩
    · rcases List.mem_cons.1 hx with rfl | hx
      · omega
      · exact h2 x hx
    · rcases h3 with h3 | h3
      · by_cases hab : a ≤ b
        · exact .inl (by omega)
        · refine .inr (List.mem_cons.2 (.inl ?_))
          omega
      · exact .inr (List.mem_cons.2 (.inr h3))
theorem foldl_maxS : ∀ (L : List Int) (a : Int), a ≤ L.foldl max a ∧ (∀ x ∈ L, x ≤ L.foldl max a) ∧ (L.foldl max a = a ∨ L.foldl max a ∈ L)
  | [], a => ⟨Int.le_refl _, (fun x h => by cases h), .inl rfl⟩
  | b :: L, a => by
    obtain ⟨h1, h2, h3⟩ := foldl_maxS L (max a b)
    have e : (b :: L).foldl max a = L.foldl max (max a b) := rfl
    rw [e]
    refine ⟨by omega, fun x hx => ?_, ?_⟩
    · rcases List.mem_cons.1 hx with rfl | hx
      · omega
      · exact h2 x hx
    · rcases h3 with h3 | h3
      · by_cases hab : b ≤ a
        · exact .inl (by omega)
        · refine .inr (List.mem_cons.2 (.inl ?_))
          omega
      · exact .inr (List.mem_cons.2 (.inr h3))
theorem widF_fold : ∀ (B : List Int) (a b : Int), B.foldl widF (a, b) = (B.foldl min a, B.foldl max b)
  | [], _, _ => rfl
  | x :: B, a, b => widF_fold B (min a x) (max b x)
theorem maxN_all {a : Int} {s : List Int} : maxN (a :: s) ((a :: s).length - 1) = (a :: s).foldl max a := by
  unfold maxN
  show (s.take s.length).foldl max a = s.foldl max (max a a)
  rw [List.take_length, Int.max_self]
theorem bd_wid {A B : List Int} (h0 : 0 < A.length) (hs : ∀ x, x ∈ A ↔ x ∈ B) (hb : ∀ x ∈ B, 0 ≤ x ∧ x ≤ 1099511627776) : bdR A = widR B := by
  obtain ⟨a, s, rfl⟩ : ∃ a s, A = a :: s := by
    cases A with
    | nil => cases h0
    | cons a s => exact ⟨a, s, rfl⟩
  have ha : a ∈ B := (hs a).1 (by simp)
  have hba := hb a ha
  unfold bdR widR
  rw [widF_fold, maxN_all]
  obtain ⟨p1, p2, p3⟩ := foldl_minS (a :: s) a
  obtain ⟨q1, q2, q3⟩ := foldl_minS B 1099511627776
  obtain ⟨u1, u2, u3⟩ := foldl_maxS (a :: s) a
  obtain ⟨v1, v2, v3⟩ := foldl_maxS B (-1)
  have e0 : (a :: s).getD 0 0 = a := rfl
  have em : minL ((a :: s).getD 0 0) (a :: s) = (a :: s).foldl min a := rfl
  rw [em]
  have m1 : (a :: s).foldl min a ∈ B := by
    rcases p3 with h | h
    · rw [h]; exact ha
    · exact (hs _).1 h
  have m2 : (a :: s).foldl max a ∈ B := by
    rcases u3 with h | h
    · rw [h]; exact ha
    · exact (hs _).1 h
  have n1 : ∃ x ∈ B, B.foldl min 1099511627776 = x := by
    rcases q3 with h | h
    · exact ⟨a, ha, by have := q2 a ha; omega⟩
    · exact ⟨_, h, rfl⟩
  have n2 : ∃ x ∈ B, B.foldl max (-1) = x := by
    rcases v3 with h | h
    · exact ⟨a, ha, by have := v2 a ha; omega⟩
    · exact ⟨_, h, rfl⟩
  obtain ⟨x1, k1, k2⟩ := n1
  obtain ⟨x2, k3, k4⟩ := n2
  have r1 := p2 x1 ((hs _).2 k1)
  have r2 := q2 _ m1
  have r3 := u2 x2 ((hs _).2 k3)
  have r4 := v2 _ m2
  refine Prod.ext ?_ ?_
  · show (a :: s).foldl min a = B.foldl min 1099511627776
    omega
  · show (a :: s).foldl max a = B.foldl max (-1)
    omega
theorem wetL_sorted (t : List Int) (level : Int) : (wetL t level).Pairwise (fun a b => a < b) := by
  unfold wetL idxL
  refine List.Pairwise.filter _ ?_
  rw [List.pairwise_map]
  exact List.Pairwise.imp (fun {a b} h => by omega) List.pairwise_lt_range
theorem wetL_mem {t : List Int} {level x : Int} (h : x ∈ wetL t level) : 0 ≤ x ∧ x < t.length := by
  have h := (List.mem_filter.1 h).1
  obtain ⟨n, h1, rfl⟩ := List.mem_map.1 h
  have := List.mem_range.1 h1
  omega
theorem soon_first (t : List Int) (level : Int) : minL (t.length : Int) (wetL t level) = soonR t level := by
  have hS := wetL_sorted t level
  have hM := fun x h => wetL_mem (t := t) (level := level) (x := x) h
  unfold soonR
  cases hW : wetL t level with
  | nil => rfl
  | cons a s =>
    rw [hW] at hS hM
    have em : minL (t.length : Int) (a :: s) = (a :: s).foldl min (t.length : Int) := rfl
    rw [em]
    obtain ⟨p1, p2, p3⟩ := foldl_minS (a :: s) (t.length : Int)
    have ha := hM a (by simp)
    have q := p2 a (by simp)
    have hs := (List.pairwise_cons.1 hS).1
    rcases p3 with h | h
    · omega
    · rcases List.mem_cons.1 h with h | h
      · exact h
      · have := hs _ h
        omega
theorem soonR_bd (t : List Int) (level : Int) : 0 ≤ soonR t level ∧ soonR t level ≤ t.length := by
  have hM := fun x h => wetL_mem (t := t) (level := level) (x := x) h
  unfold soonR
  cases hW : wetL t level with
  | nil => exact ⟨Int.natCast_nonneg _, Int.le_refl _⟩
  | cons a s =>
    rw [hW] at hM
    have := hM a (by simp)
    show 0 ≤ a ∧ a ≤ t.length
    omega
theorem reach_same {last : Int} {hs : List Rg} {step : Int} {lv : List Int} {ms : List Mk} (V : ValidT last hs step lv ms) (hm : manyR hs ≤ 2000) (h0 : 0 < (truthS hs step ms).length) (row : Nat) : bdR ((truthS hs step ms).map fun c => firstR lv c row last) = widR ((truthsR hs step ms).map fun t => soonR t (lv.getD row 0)) := by
  have key : ∀ t, t ∈ truthsR hs step ms → firstR lv (wantS t) row last = soonR t (lv.getD row 0) := fun t ht => by
    have hl := ((mem_truthsR V hm).1 ht).1
    have hn := V.n
    unfold firstR
    rw [wet_same (by omega), show last + 1 = (t.length : Int) by omega]
    exact soon_first t _
  refine bd_wid (by rw [List.length_map]; exact h0) (fun x => ?_) fun x hx => ?_
  · rw [List.mem_map, List.mem_map]
    constructor
    · rintro ⟨c, hc, rfl⟩
      obtain ⟨t, ht, rfl⟩ := (mem_truthS V hm).1 hc
      exact ⟨t, ht, (key t ht).symm⟩
    · rintro ⟨t, ht, rfl⟩
      exact ⟨wantS t, (mem_truthS V hm).2 ⟨t, ht, rfl⟩, key t ht⟩
  · obtain ⟨t, ht, rfl⟩ := List.mem_map.1 hx
    have hl := ((mem_truthsR V hm).1 ht).1
    have := soonR_bd t (lv.getD row 0)
    have := V.h10
    omega
end Go.Ev

namespace Go.Ev
open Go.Proofs
set_option maxRecDepth 100000
end Go.Ev
