import Derived.Test.YtpemagogcagipaaEvQF
import Derived.Test.YtpemagogcagipaaEvMN
set_option linter.all false
namespace Go.Ev
open Go.Proofs
set_option maxRecDepth 100000
theorem c_sameD (a b : List Int) (hl : a.length ≤ 1000) : PureF Try.prog p30.ix [setD a, .lst 1 (ints b)] (.b (decide (a = b))) := by
  cases a with
  | cons x a => exact c_same (x :: a) b hl
  | nil =>
    refine PureF.run fn29 (by simp) (by simp [PuL, PuE, Pu, pu_ints, setD]) ?_; conv => whnf
    cases b with
    | nil =>
      repeat' first | ((with_reducible apply WB.tt); conv => whnf) | ((with_reducible apply WB.ff); conv => whnf) | (refine Rn.seq ?_; conv => whnf) | (refine Rn.reg ?_; conv => whnf) | (refine Rn.drw ?_; conv => whnf) | (refine Rn.blk ?_; conv => whnf) | (refine Rn.skip ?_; conv => whnf) | (refine Rn.ret ?_; conv => whnf) | (refine Rn.exit ?_; conv => whnf) | (refine Rn.cond rfl ?_; conv => whnf) | (refine And.intro (InR.i64 (by omega) (by omega)) ?_; conv => whnf) | (refine And.intro (show _ ≠ (0 : Int) by omega) ?_; conv => whnf) | (refine WIx.intsN (by omega) ?_; conv => whnf) | (refine WIx.rowsN (by omega) ?_; conv => whnf)
      refine WB.ff ?_; conv => whnf
      repeat' first | ((with_reducible apply WB.tt); conv => whnf) | ((with_reducible apply WB.ff); conv => whnf) | (refine Rn.seq ?_; conv => whnf) | (refine Rn.reg ?_; conv => whnf) | (refine Rn.drw ?_; conv => whnf) | (refine Rn.blk ?_; conv => whnf) | (refine Rn.skip ?_; conv => whnf) | (refine Rn.ret ?_; conv => whnf) | (refine Rn.exit ?_; conv => whnf) | (refine Rn.cond rfl ?_; conv => whnf) | (refine And.intro (InR.i64 (by omega) (by omega)) ?_; conv => whnf) | (refine And.intro (show _ ≠ (0 : Int) by omega) ?_; conv => whnf) | (refine WIx.intsN (by omega) ?_; conv => whnf) | (refine WIx.rowsN (by omega) ?_; conv => whnf)
      refine Rn.loop (fun _ : Nat => ⟨(.n (.n .e none (.n .e (some (.i .i64 0)) .e)) (some (.ns)) .e), .e, .h, none⟩) (fun _ => True) (fun _ => 0) 0 ?_ ?_ ?_
      · (first | (refine X.le.mk ?_ ?_ (Nat.le_refl _) rfl rfl) | skip) <;> (repeat' first | exact T.le_e _ | refine T.le_some ?_ ?_ ?_ | refine T.le_none ?_ ?_ | rfl)
      · trivial
      intro j _
      conv => whnf
      repeat' first | ((with_reducible apply WB.tt); conv => whnf) | ((with_reducible apply WB.ff); conv => whnf) | (refine Rn.seq ?_; conv => whnf) | (refine Rn.reg ?_; conv => whnf) | (refine Rn.drw ?_; conv => whnf) | (refine Rn.blk ?_; conv => whnf) | (refine Rn.skip ?_; conv => whnf) | (refine Rn.ret ?_; conv => whnf) | (refine Rn.exit ?_; conv => whnf) | (refine Rn.cond rfl ?_; conv => whnf) | (refine And.intro (InR.i64 (by omega) (by omega)) ?_; conv => whnf) | (refine And.intro (show _ ≠ (0 : Int) by omega) ?_; conv => whnf) | (refine WIx.intsN (by omega) ?_; conv => whnf) | (refine WIx.rowsN (by omega) ?_; conv => whnf)
      refine WB.ff ?_; conv => whnf
      repeat' first | ((with_reducible apply WB.tt); conv => whnf) | ((with_reducible apply WB.ff); conv => whnf) | (refine Rn.seq ?_; conv => whnf) | (refine Rn.reg ?_; conv => whnf) | (refine Rn.drw ?_; conv => whnf) | (refine Rn.blk ?_; conv => whnf) | (refine Rn.skip ?_; conv => whnf) | (refine Rn.ret ?_; conv => whnf) | (refine Rn.exit ?_; conv => whnf) | (refine Rn.cond rfl ?_; conv => whnf) | (refine And.intro (InR.i64 (by omega) (by omega)) ?_; conv => whnf) | (refine And.intro (show _ ≠ (0 : Int) by omega) ?_; conv => whnf) | (refine WIx.intsN (by omega) ?_; conv => whnf) | (refine WIx.rowsN (by omega) ?_; conv => whnf)
      exact Fin.b rfl (by simp)
    | cons y b =>
      repeat' first | ((with_reducible apply WB.tt); conv => whnf) | ((with_reducible apply WB.ff); conv => whnf) | (refine Rn.seq ?_; conv => whnf) | (refine Rn.reg ?_; conv => whnf) | (refine Rn.drw ?_; conv => whnf) | (refine Rn.blk ?_; conv => whnf) | (refine Rn.skip ?_; conv => whnf) | (refine Rn.ret ?_; conv => whnf) | (refine Rn.exit ?_; conv => whnf) | (refine Rn.cond rfl ?_; conv => whnf) | (refine And.intro (InR.i64 (by omega) (by omega)) ?_; conv => whnf) | (refine And.intro (show _ ≠ (0 : Int) by omega) ?_; conv => whnf) | (refine WIx.intsN (by omega) ?_; conv => whnf) | (refine WIx.rowsN (by omega) ?_; conv => whnf)
      refine WB.mk (fun h => ?_) (fun h => ?_) <;> conv => whnf
      · repeat' first | ((with_reducible apply WB.tt); conv => whnf) | ((with_reducible apply WB.ff); conv => whnf) | (refine Rn.seq ?_; conv => whnf) | (refine Rn.reg ?_; conv => whnf) | (refine Rn.drw ?_; conv => whnf) | (refine Rn.blk ?_; conv => whnf) | (refine Rn.skip ?_; conv => whnf) | (refine Rn.ret ?_; conv => whnf) | (refine Rn.exit ?_; conv => whnf) | (refine Rn.cond rfl ?_; conv => whnf) | (refine And.intro (InR.i64 (by omega) (by omega)) ?_; conv => whnf) | (refine And.intro (show _ ≠ (0 : Int) by omega) ?_; conv => whnf) | (refine WIx.intsN (by omega) ?_; conv => whnf) | (refine WIx.rowsN (by omega) ?_; conv => whnf)
        exact Fin.b rfl (by simp)
      · exfalso
        have h1 := ints_length (y :: b)
        simp at h h1
        omega
def pickR (ms : List Mk) (w : Nat) : List Mk := ((List.range ms.length).filter fun k => w.testBit k).map fun k => ms.getD k default
theorem pickR_all {ms : List Mk} {w : Nat} {p : Mk → Bool} : (pickR ms w).all p = true ↔ ∀ k, k < ms.length → w.testBit k = true → p (ms.getD k default) = true := by
  unfold pickR
  rw [List.all_eq_true]
  constructor
  · intro h k hk hc
    exact h _ (List.mem_map.2 ⟨k, List.mem_filter.2 ⟨List.mem_range.2 hk, hc⟩, rfl⟩)
  · intro h m hm
    obtain ⟨k, hk, rfl⟩ := List.mem_map.1 hm
    obtain ⟨h1, h2⟩ := List.mem_filter.1 hk
    exact h k (List.mem_range.1 h1) h2
theorem pickR_mem {ms : List Mk} {w : Nat} {x : Mk} (h : x ∈ pickR ms w) : x ∈ ms := by
  unfold pickR at h
  obtain ⟨k, hk, rfl⟩ := List.mem_map.1 h
  exact getD_mem (List.mem_range.1 (List.mem_filter.1 hk).1)
theorem can_pick {last : Int} {hs : List Rg} {step : Int} {lv : List Int} {ms : List Mk} (V : ValidT last hs step lv ms) (hm : manyR hs ≤ 2000) {w : Nat} (hw : w < 2 ^ ms.length) : canB (allR hs step ms) w = (exS hs step hs.length 0 zeroS).any fun c => fitsR c (pickR ms w) := by
  unfold allR
  rw [canB_any, any_lists V.hv hm]
  rw [Bool.eq_iff_iff, List.any_eq_true, List.any_eq_true]
  have key : ∀ t, t ∈ listsR hs step → (decide (markN ms t ms.length &&& w = w) = true ↔ fitsR (wantS t) (pickR ms w) = true) := fun t ht => by
    have hl := listed_lenZ ((mem_listsR V.hv hm).1 ht)
    have h10 := V.h10
    rw [decide_eq_true_iff, and_word hw, fits_right (by omega) fun m hmm => by have := V.vt m (pickR_mem hmm); omega]
    rw [pickR_all]
    constructor
    · intro h k hk hc
      have h2 := h k hk hc
      unfold markN at h2
      rw [bitsN_test, Bool.and_eq_true] at h2
      exact h2.2
    · intro h k hk hw
      unfold markN
      rw [bitsN_test, h k hk hw, decide_eq_true hk]
      rfl
  constructor
  · rintro ⟨t, ht, h⟩
    exact ⟨t, ht, (key t ht).1 h⟩
  · rintro ⟨t, ht, h⟩
    exact ⟨t, ht, (key t ht).2 h⟩
theorem all_take {α : Type} [Inhabited α] {l : List α} {n : Nat} {p : α → Bool} : (l.take n).all p = true ↔ ∀ k, k < n → k < l.length → p (l.getD k default) = true := by
  rw [List.all_eq_true]
  constructor
  · intro h k h1 h2
    refine h _ ?_
    rw [List.mem_iff_getElem]
    exact ⟨k, by rw [List.length_take]; omega, by simp [List.getD, h2]⟩
  · intro h x hx
    obtain ⟨k, hk, rfl⟩ := List.mem_iff_getElem.1 hx
    rw [List.length_take] at hk
    have := h k (by omega) (by omega)
    simpa [List.getD, show k < l.length by omega] using this
theorem pick_low (ms : List Mk) (n : Nat) (p : Mk → Bool) : (pickR ms (2 ^ n - 1)).all p = (ms.take n).all p := by
  rw [Bool.eq_iff_iff, pickR_all, all_take]
  constructor
  · intro h k h1 h2
    exact h k h2 (by rw [Nat.testBit_two_pow_sub_one, decide_eq_true h1])
  · intro h k h1 h2
    rw [Nat.testBit_two_pow_sub_one, decide_eq_true_iff] at h2
    exact h k h2 h1
theorem wrong_can {last : Int} {hs : List Rg} {step : Int} {lv : List Int} {ms : List Mk} (V : ValidT last hs step lv ms) (hm : manyR hs ≤ 2000) {n : Nat} (hn : n < ms.length) : (!canB (allR hs step ms) (2 ^ (n + 1) - 1)) = wrongB hs step ms n := by
  have h1 : 2 ^ (n + 1) ≤ 2 ^ ms.length := Nat.pow_le_pow_right (by omega) (by omega)
  have h2 := Nat.one_le_two_pow (n := n + 1)
  rw [can_pick V hm (by omega)]
  unfold wrongB
  congr 2
  funext c
  exact pick_low ms (n + 1) _
theorem fir_find {last : Int} {hs : List Rg} {step : Int} {lv : List Int} {ms : List Mk} (V : ValidT last hs step lv ms) (hm : manyR hs ≤ 2000) : (List.range ms.length).find? (fun n : Nat => !canB (allR hs step ms) (2 ^ (n + 1) - 1)) = (List.range ms.length).find? (wrongB hs step ms) := find_congr fun n hn => wrong_can V hm (List.mem_range.1 hn)
theorem allR_lt {hs : List Rg} {step : Int} {ms : List Mk} (h5 : ms.length ≤ 5) : ∀ b ∈ allR hs step ms, b < 1024 := by
  intro b hb
  unfold allR at hb
  obtain ⟨t, _, rfl⟩ := List.mem_map.1 hb
  have : markN ms t ms.length < 2 ^ ms.length := by
    refine Nat.lt_pow_two_of_testBit _ fun i hi => ?_
    unfold markN
    rw [bitsN_test, decide_eq_false (by omega), Bool.false_and]
  have h2 : 2 ^ ms.length ≤ 2 ^ 5 := Nat.pow_le_pow_right (by omega) h5
  omega
end Go.Ev
