import Derived.Test.YtpemagogcagipaaEvQF
import Derived.Test.YtpemagogcagipaaEvMN
import Derived.Test.YtpemagogcagipaaEvMQ
set_option linter.all false
namespace Go.Ev
open Go.Proofs
set_option maxRecDepth 100000
def pickR (ms : List Mk) (w : Nat) : List Mk := ((List.range ms.length).filter fun k => w.testBit k).map fun k => ms.getD k default
theorem pickR_all {ms : List Mk} {w : Nat} {p : Mk → Bool} : (pickR ms w).all p = true ↔ ∀ k, k < ms.length → w.testBit k = true → p (ms.getD k default) = true := by
  unfold pickR
  rw [List.all_eq_true]
  constructor
  · intro h k hk hc
    exact h _ (List.mem_map.2 ⟨k, List.mem_filter.2 ⟨List.mem_range.2 hk, hc⟩, rfl⟩)
  · intro h m hm
    obtain ⟨k, hk, rfl⟩ := List.mem_map.1 hm
    obtain ⟨h1, h2⟩ := List.mem_filter.1 hk
    exact h k (List.mem_range.1 h1) h2
theorem pickR_mem {ms : List Mk} {w : Nat} {x : Mk} (h : x ∈ pickR ms w) : x ∈ ms := by
  unfold pickR at h
  obtain ⟨k, hk, rfl⟩ := List.mem_map.1 h
  exact getD_mem (List.mem_range.1 (List.mem_filter.1 hk).1)
theorem can_pick {last : Int} {hs : List Rg} {step : Int} {lv : List Int} {ms : List Mk} (V : ValidT last hs step lv ms) (hm : manyR hs ≤ 2000) {w : Nat} (hw : w < 2 ^ ms.length) : canB (allR hs step ms) w = (exS hs step hs.length 0 zeroS).any fun c => fitsR c (pickR ms w) := by
  unfold allR
  rw [canB_any, any_lists V.hv hm]
  rw [Bool.eq_iff_iff, List.any_eq_true, List.any_eq_true]
  have key : ∀ t, t ∈ listsR hs step → (decide (markN ms t ms.length &&& w = w) = true ↔ fitsR (wantS t) (pickR ms w) = true) := fun t ht => by
    have hl := listed_lenZ ((mem_listsR V.hv hm).1 ht)
    have h10 := V.h10
    rw [decide_eq_true_iff, and_word hw, fits_right (by omega) fun m hmm => by have := V.vt m (pickR_mem hmm); omega]
    rw [pickR_all]
    constructor
    · intro h k hk hc
      have h2 := h k hk hc
      unfold markN at h2
      rw [bitsN_test, Bool.and_eq_true] at h2
      exact h2.2
    · intro h k hk hw
      unfold markN
      rw [bitsN_test, h k hk hw, decide_eq_true hk]
      rfl
  constructor
  · rintro ⟨t, ht, h⟩
    exact ⟨t, ht, (key t ht).1 h⟩
  · rintro ⟨t, ht, h⟩
    exact ⟨t, ht, (key t ht).2 h⟩
theorem all_take {α : Type} [Inhabited α] {l : List α} {n : Nat} {p : α → Bool} : (l.take n).all p = true ↔ ∀ k, k < n → k < l.length → p (l.getD k default) = true := by
  rw [List.all_eq_true]
  constructor
  · intro h k h1 h2
    refine h _ ?_
    rw [List.mem_iff_getElem]
    exact ⟨k, by rw [List.length_take]; omega, by simp [List.getD, h2]⟩
  · intro h x hx
    obtain ⟨k, hk, rfl⟩ := List.mem_iff_getElem.1 hx
    rw [List.length_take] at hk
    have := h k (by omega) (by omega)
    simpa [List.getD, show k < l.length by omega] using this
theorem pick_low (ms : List Mk) (n : Nat) (p : Mk → Bool) : (pickR ms (2 ^ n - 1)).all p = (ms.take n).all p := by
  rw [Bool.eq_iff_iff, pickR_all, all_take]
  constructor
  · intro h k h1 h2
    exact h k h2 (by rw [Nat.testBit_two_pow_sub_one, decide_eq_true h1])
  · intro h k h1 h2
    rw [Nat.testBit_two_pow_sub_one, decide_eq_true_iff] at h2
    exact h k h2 h1
end Go.Ev

namespace Go.Ev
open Go.Proofs
set_option maxRecDepth 100000
end Go.Ev

namespace Go.Ev
open Go.Proofs
set_option maxRecDepth 100000
theorem truth_any {hs : List Rg} {step : Int} {ms : List Mk} : truthS hs step ms = [] ↔ (exS hs step hs.length 0 zeroS).any (fun c => fitsR c ms) = false := by
  unfold truthS
  rw [List.filter_eq_nil_iff, List.any_eq_false]
theorem lev_spec {A : List Nat} {m : Nat} (h0 : canB A 0 = true) : ∃ b0, b0 < 2 ^ m ∧ levR A m = bitL b0 ∧ canB A (2 ^ m - 1 - b0) = true ∧ ∀ b, b < 2 ^ m → canB A (2 ^ m - 1 - b) = true → shoR (bitL b) (levR A m) = false := by
  have hp := Nat.one_le_two_pow (n := m)
  have inv : ∀ n, n ≤ 2 ^ m → ∃ b0, b0 < 2 ^ m ∧ levJ A m n = bitL b0 ∧ canB A (2 ^ m - 1 - b0) = true ∧ ∀ b, b < n → canB A (2 ^ m - 1 - b) = true → shoR (bitL b) (levJ A m n) = false := fun n => by
    induction n with
    | zero => exact fun _ => ⟨2 ^ m - 1, by omega, rfl, by rw [Nat.sub_self]; exact h0, fun b hb => absurd hb (Nat.not_lt_zero _)⟩
    | succ n ih =>
      intro hn
      obtain ⟨b0, k1, k2, k3, k4⟩ := ih (by omega)
      rw [levJ_succ]
      unfold levF
      by_cases hc : (shoR (bitL n) (levJ A m n) && canB A (2 ^ m - 1 - n)) = true
      · rw [if_pos hc]
        rw [Bool.and_eq_true] at hc
        refine ⟨n, by omega, rfl, hc.2, fun b hb hcb => ?_⟩
        by_cases e : b = n
        · subst e; exact shoR_irr _
        · cases hs : shoR (bitL b) (bitL n) with
          | false => rfl
          | true =>
            have := k4 b (by omega) hcb
            rw [shoR_trans hs hc.1] at this
            cases this
      · rw [if_neg hc]
        refine ⟨b0, k1, k2, k3, fun b hb hcb => ?_⟩
        by_cases e : b = n
        · subst e
          cases hs : shoR (bitL b) (levJ A m b) with
          | false => rfl
          | true => exact absurd (by rw [hs, hcb]; rfl) hc
        · exact k4 b (by omega) hcb
  exact inv (2 ^ m) (Nat.le_refl _)
def chkL (m : Nat) (L : List Int) (i : Nat) : Bool := decide (0 ≤ L.getD i 0) && decide (L.getD i 0 < (m : Int)) && (decide (i = 0) || decide (L.getD (i - 1) 0 < L.getD i 0)) && decide (wordOf (L.take i) < 32)
theorem chk_all : ∀ m : _root_.Fin 6, ∀ b : _root_.Fin 32, b.val < 2 ^ m.val → ((List.range (bitL b.val).length).all (chkL m.val (bitL b.val)) && (wordOf (bitL b.val) == b.val)) = true := by decide +kernel
theorem can_zero {last : Int} {hs : List Rg} {step : Int} {lv : List Int} {ms : List Mk} (hf : faultR last hs step lv ms = 0) : canB (allR hs step ms) 0 = true := by
  obtain ⟨V, hm, hA⟩ := fault_zero hf
  obtain ⟨t, ht1, ht2⟩ := List.any_eq_true.1 hA
  have ht : t ∈ listsR hs step := List.mem_filter.2 ⟨ht1, ht2⟩
  unfold canB
  rw [List.any_eq_true]
  exact ⟨0, List.mem_range.2 (by unfold allR; rw [List.length_map]; exact List.length_pos_of_mem ht), by simp⟩
theorem bdR_in {A : List Int} {x : Int} (h : x ∈ A) : (bdR A).1 ≤ x ∧ x ≤ (bdR A).2 := by
  obtain ⟨a, s, rfl⟩ : ∃ a s, A = a :: s := by
    cases A with
    | nil => cases h
    | cons a s => exact ⟨a, s, rfl⟩
  unfold bdR
  rw [maxN_all]
  exact ⟨(foldl_minS (a :: s) a).2.1 x h, (foldl_maxS (a :: s) a).2.1 x h⟩
theorem bdG_in {L : List (Nat → Int)} {c : Nat → Int} (h : c ∈ L) (j : Nat) : (bdG L j).lo ≤ c j ∧ c j ≤ (bdG L j).hi := bdR_in (List.mem_map_of_mem (f := fun c : Nat → Int => c j) h)
theorem bdsR_at (L : List (Nat → Int)) {n j : Nat} (h : j < n) : (bdsR L n).getD j default = bdG L j := by simp [bdsR, List.getD, h]
theorem bdsR_len (L : List (Nat → Int)) (n : Nat) : (bdsR L n).length = n := by simp [bdsR]
theorem exS_150 {hs : List Rg} (hv : Vr hs) (hm : manyR hs ≤ 150) (step : Int) : (exS hs step hs.length 0 zeroS).length ≤ 150 := by
  have h1 := exS_len hs step hs.length 0 zeroS (by omega)
  rw [List.drop_zero] at h1
  have h2 := szs_eq hv
  have h3 := manyR_eq hv
  omega
theorem thin_many {last : Int} {hs : List Rg} {step : Int} {lv : List Int} {ms : List Mk} (hT : thinR last hs step lv ms = true) (hf : faultR last hs step lv ms = 0) : manyR hs ≤ 150 := by
  unfold thinR at hT
  rw [Bool.and_eq_true, Bool.or_eq_true, decide_eq_true_iff, decide_eq_true_iff, decide_eq_true_iff] at hT
  omega
theorem lev_nil {last : Int} {hs : List Rg} {step : Int} {lv : List Int} {ms : List Mk} (hf : faultR last hs step lv ms = 0) : levS hs step ms = [] ↔ truthS hs step ms ≠ [] := by
  obtain ⟨V, hm, hA⟩ := fault_zero hf
  have h5 := V.ms5
  have hpp := Nat.one_le_two_pow (n := ms.length)
  have h32 : 2 ^ ms.length ≤ 2 ^ 5 := Nat.pow_le_pow_right (by omega) h5
  obtain ⟨b0, hb0, hL, hc0, hmin⟩ := lev_spec (m := ms.length) (can_zero hf)
  have hfull : canB (allR hs step ms) (2 ^ ms.length - 1) = true ↔ truthS hs step ms ≠ [] := by
    rw [can_pick V hm (by omega)]
    have : ((exS hs step hs.length 0 zeroS).any fun c => fitsR c (pickR ms (2 ^ ms.length - 1))) = (exS hs step hs.length 0 zeroS).any fun c => fitsR c ms := by
      congr 1
      funext c
      have := pick_low ms ms.length (agreesM c)
      rw [List.take_length] at this
      exact this
    rw [this]
    constructor
    · intro h e
      rw [truth_any.1 e] at h
      cases h
    · intro h
      cases ha : (exS hs step hs.length 0 zeroS).any (fun c => fitsR c ms) with
      | true => rfl
      | false => exact absurd (truth_any.2 ha) h
  rw [← hfull]
  have hwo : wordOf (bitL b0) = b0 := by
    have hck := chk_all ⟨ms.length, by omega⟩ ⟨b0, by omega⟩ hb0
    rw [Bool.and_eq_true, beq_iff_eq] at hck
    exact hck.2
  constructor
  · intro h
    have h2 : bitL b0 = [] := hL.symm.trans h
    rw [h2] at hwo
    have hz : b0 = 0 := hwo.symm
    rw [hz] at hc0
    exact hc0
  · intro h
    have h3 := hmin 0 (by omega) h
    have hs : (levR (allR hs step ms) ms.length).length = 0 := by
      unfold shoR at h3
      rw [Bool.or_eq_false_iff, decide_eq_false_iff_not] at h3
      have := h3.1
      rw [show bitL 0 = [] from by decide] at this
      simp at this
      exact Nat.eq_zero_of_not_pos fun hp => by
        have := List.length_pos_iff.1 hp
        simp_all
    exact List.length_eq_zero_iff.1 hs
end Go.Ev

namespace Go.Ev
open Go.Proofs
set_option maxRecDepth 100000
end Go.Ev

namespace Go.Ev
open Go.Proofs
set_option maxRecDepth 100000
theorem verN_one {L : List (List Int)} {level : Int} {h : Nat} : verN L level h = 1 ↔ ∀ t ∈ L, level < t.getD h 0 := by
  unfold verN upN
  constructor
  · intro hv t ht
    by_cases h1 : (L.filter fun t => decide (level < t.getD h 0)).length = L.length
    · have e := List.filter_sublist.eq_of_length h1
      rw [← e] at ht
      simpa using (List.mem_filter.1 ht).2
    · rw [if_neg h1] at hv
      split at hv <;> exact absurd hv (by decide)
  · intro hall
    have e : (L.filter fun t => decide (level < t.getD h 0)) = L := List.filter_eq_self.2 fun t ht => decide_eq_true (hall t ht)
    rw [e, if_pos rfl]
theorem FitP.mk {ps : List (Bool × List CK)} {ds : List D} (h : FitP ((true, [.i .i64, .i .i64, .i .i64, .i .i64]) :: ps) ds) : ∃ (x : Mk) (ds' : List D), ds = .ag (mkD x) :: ds' ∧ FitP ps ds' := by
  unfold FitP at h
  obtain ⟨es, ds', rfl, h1, h2⟩ := h
  simp only [FitL, FitC] at h1
  obtain ⟨d, ds, rfl, ⟨n1, rfl, _⟩, d2, ds2, rfl, ⟨n2, rfl, _⟩, d3, ds3, rfl, ⟨n3, rfl, _⟩, d4, ds4, rfl, ⟨n4, rfl, _⟩, rfl⟩ := h1
  exact ⟨⟨n1, n2, n3, n4⟩, ds', rfl, h2⟩
end Go.Ev
