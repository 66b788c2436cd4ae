import Derived.Test.YtpemagogcagipaaEvMF
set_option linter.all false
namespace Go.Ev
open Go.Proofs
set_option maxRecDepth 100000
theorem mkB_mkR (last : Int) (m : Mk) : mkB last m = mkR last m := by
  unfold mkB mkR
  rw [Bool.eq_iff_iff]
  simp only [Bool.and_eq_true, inB_iff, decide_eq_true_iff, rgB_iff]
  omega
theorem valid_of {last : Int} {hs : List Rg} {step : Int} {lv : List Int} {ms : List Mk} (h9 : last ≤ 9) : validB last hs step lv ms = true ↔ ¬ (last < 0 ∨ (hs.length : Int) ≠ last + 1 ∨ inB step 0 99 = false) ∧ ¬ hs.all rgR = false ∧ ¬ lv.all lvR = false ∧ ¬ ms.all (mkR last) = false := by
  have e1 : hs.all (fun r => rgB r.lo r.hi) = hs.all rgR := rfl
  have e2 : lv.all hgtB = lv.all lvR := rfl
  have e3 : ms.all (mkB last) = ms.all (mkR last) := by congr 1; exact funext (mkB_mkR last)
  have e4 : hgtB step = inB step 0 99 := rfl
  unfold validB
  rw [e1, e2, e3, e4, Bool.and_eq_true, Bool.and_eq_true, Bool.and_eq_true, Bool.and_eq_true, Bool.and_eq_true, inB_iff, decide_eq_true_iff]
  generalize hs.all rgR = a, lv.all lvR = b, ms.all (mkR last) = c, inB step 0 99 = d
  cases a <;> cases b <;> cases c <;> cases d <;> simp <;> omega
structure ValidT (last : Int) (hs : List Rg) (step : Int) (lv : List Int) (ms : List Mk) : Prop where
  n : (hs.length : Int) = last + 1
  h1 : 1 ≤ hs.length
  h10 : hs.length ≤ 10
  hv : Vr hs
  s0 : 0 ≤ step
  s99 : step ≤ 99
  lv6 : lv.length ≤ 6
  ms5 : ms.length ≤ 5
  vt : ∀ m ∈ ms, 0 ≤ m.fr ∧ m.fr ≤ m.to ∧ m.to < hs.length
  lvs : ∀ x ∈ lv, 0 ≤ x ∧ x ≤ 99
theorem ValidT.of {last : Int} {hs : List Rg} {step : Int} {lv : List Int} {ms : List Mk} (f1 : ¬ (9 < last ∨ 6 < lv.length ∨ 5 < ms.length)) (h : validB last hs step lv ms = true) : ValidT last hs step lv ms := by
  obtain ⟨k1, k2, k3, k4⟩ := (valid_of (by omega)).1 h
  have k2 : hs.all rgR = true := by simpa using k2
  have k3 : lv.all lvR = true := by simpa using k3
  have k4 : ms.all (mkR last) = true := by simpa using k4
  have hs1 : inB step 0 99 = true := by
    cases e : inB step 0 99 with
    | true => rfl
    | false => exact absurd (.inr (.inr e)) k1
  have hs1 := inB_iff.1 hs1
  have hl : (hs.length : Int) = last + 1 := by
    rcases Int.lt_trichotomy (hs.length : Int) (last + 1) with h | h | h
    · exact absurd (.inr (.inl (by omega))) k1
    · exact h
    · exact absurd (.inr (.inl (by omega))) k1
  have hl0 : ¬ last < 0 := fun h => k1 (.inl h)
  refine ⟨hl, by omega, by omega, fun r hr => rgB_iff.1 (List.all_eq_true.1 k2 r hr), hs1.1, hs1.2, by omega, by omega, fun m hm => ?_, fun x hx => inB_iff.1 (List.all_eq_true.1 k3 x hx)⟩
  have := List.all_eq_true.1 k4 m hm
  unfold mkR at this
  simp only [Bool.and_eq_true, inB_iff, decide_eq_true_iff] at this
  omega
theorem fault_ok {last : Int} {hs : List Rg} {step : Int} {lv : List Int} {ms : List Mk} (f1 : ¬ (9 < last ∨ 6 < lv.length ∨ 5 < ms.length)) : faultR last hs step lv ms = if validB last hs step lv ms = true then (if 2000 < manyR hs then 3 else if (allN hs).any (nearB step) = true then 0 else 9) else 1 := by
  unfold faultR
  rw [if_neg f1]
  by_cases h : validB last hs step lv ms = true
  · obtain ⟨k1, k2, k3, k4⟩ := (valid_of (by omega)).1 h
    rw [if_pos h, if_neg k1, if_neg k2, if_neg k3, if_neg k4]
  · rw [if_neg h]
    have := mt (valid_of (hs := hs) (step := step) (lv := lv) (ms := ms) (show last ≤ 9 by omega)).2 h
    by_cases k1 : last < 0 ∨ (hs.length : Int) ≠ last + 1 ∨ inB step 0 99 = false
    · rw [if_pos k1]
    rw [if_neg k1]
    by_cases k2 : hs.all rgR = false
    · rw [if_pos k2]
    rw [if_neg k2]
    by_cases k3 : lv.all lvR = false
    · rw [if_pos k3]
    rw [if_neg k3]
    by_cases k4 : ms.all (mkR last) = false
    · rw [if_pos k4]
    · exact absurd ⟨k1, k2, k3, k4⟩ this
theorem wide_many {hs : List Rg} (hv : Vr hs) : decide (2000 < prodR hs) = decide (2000 < manyR hs) := by
  have := manyR_eq hv
  congr 1
  apply propext
  omega
theorem fits_nil {hs : List Rg} {step : Int} (hv : Vr hs) (hm : manyR hs ≤ 2000) : ((exS hs step hs.length 0 zeroS).any fun c => fitsR c []) = (allN hs).any (nearB step) := by
  rw [any_lists hv hm]
  show (listsR hs step).any (fun _ => true) = _
  unfold listsR
  rw [any_filter']
  simp
theorem row6_eq {last : Int} {hs : List Rg} {step : Int} {lv : List Int} {ms : List Mk} {tr : D} (h : (hs.length : Int) = last + 1) : row6 hs.length hs step lv ms tr = [.i .i64 last, .lst 2 (rows rgD hs), .i .i64 step, .lst 1 (ints lv), .lst 4 (rows mkD ms), tr] := by
  unfold row6
  rw [show (hs.length : Int) - 1 = last by omega]
theorem c_CheckTable (last : Int) (hs : List Rg) (step : Int) (lv : List Int) (ms : List Mk) : PureF Try.prog p27.ix [.ag [.i .i64 last, .lst 2 (rows rgD hs), .i .i64 step, .lst 1 (ints lv), .lst 4 (rows mkD ms)]] (.i .i64 (faultR last hs step lv ms)) := by
  have e2 := ints_length lv
  have e3 := rows_length mkD ms
  refine PureF.run fn26 (by simp) (by simp [PuL, PuE, Pu, pu_ints, pu_rg, pu_mk]) ?_; conv => whnf
  repeat' first | ((first | (with_reducible first | apply WB.tt | apply WB.ff) | apply Rn.seq | apply Rn.reg | apply Rn.drw | apply Rn.blk | apply Rn.skip | apply Rn.ret | apply Rn.exit | apply Rn.cond rfl | refine i64_ (by omega) (by omega) ?_ | refine ne0_ (by omega) ?_ | refine WIx.intsN (by omega) ?_ | refine WIx.rowsN (by omega) ?_) <;> conv => whnf)
  refine WB.dec (fun h => ?_) (fun h => ?_) <;> conv => whnf
  · repeat' first | ((first | (with_reducible first | apply WB.tt | apply WB.ff) | apply Rn.seq | apply Rn.reg | apply Rn.drw | apply Rn.blk | apply Rn.skip | apply Rn.ret | apply Rn.exit | apply Rn.cond rfl | refine i64_ (by omega) (by omega) ?_ | refine ne0_ (by omega) ?_ | refine WIx.intsN (by omega) ?_ | refine WIx.rowsN (by omega) ?_) <;> conv => whnf)
    exact Fin.i rfl (by unfold faultR; rw [if_pos (by omega)])
  repeat' first | ((first | (with_reducible first | apply WB.tt | apply WB.ff) | apply Rn.seq | apply Rn.reg | apply Rn.drw | apply Rn.blk | apply Rn.skip | apply Rn.ret | apply Rn.exit | apply Rn.cond rfl | refine i64_ (by omega) (by omega) ?_ | refine ne0_ (by omega) ?_ | refine WIx.intsN (by omega) ?_ | refine WIx.rowsN (by omega) ?_) <;> conv => whnf)
  refine WB.dec (fun h => ?_) (fun h => ?_) <;> conv => whnf
  · repeat' first | ((first | (with_reducible first | apply WB.tt | apply WB.ff) | apply Rn.seq | apply Rn.reg | apply Rn.drw | apply Rn.blk | apply Rn.skip | apply Rn.ret | apply Rn.exit | apply Rn.cond rfl | refine i64_ (by omega) (by omega) ?_ | refine ne0_ (by omega) ?_ | refine WIx.intsN (by omega) ?_ | refine WIx.rowsN (by omega) ?_) <;> conv => whnf)
    exact Fin.i rfl (by unfold faultR; rw [if_pos (by omega)])
  repeat' first | ((first | (with_reducible first | apply WB.tt | apply WB.ff) | apply Rn.seq | apply Rn.reg | apply Rn.drw | apply Rn.blk | apply Rn.skip | apply Rn.ret | apply Rn.exit | apply Rn.cond rfl | refine i64_ (by omega) (by omega) ?_ | refine ne0_ (by omega) ?_ | refine WIx.intsN (by omega) ?_ | refine WIx.rowsN (by omega) ?_) <;> conv => whnf)
  refine WB.dec (fun h => ?_) (fun h => ?_) <;> conv => whnf
  · repeat' first | ((first | (with_reducible first | apply WB.tt | apply WB.ff) | apply Rn.seq | apply Rn.reg | apply Rn.drw | apply Rn.blk | apply Rn.skip | apply Rn.ret | apply Rn.exit | apply Rn.cond rfl | refine i64_ (by omega) (by omega) ?_ | refine ne0_ (by omega) ?_ | refine WIx.intsN (by omega) ?_ | refine WIx.rowsN (by omega) ?_) <;> conv => whnf)
    exact Fin.i rfl (by unfold faultR; rw [if_pos (by omega)])
  have f1 : ¬ (9 < last ∨ 6 < lv.length ∨ 5 < ms.length) := by omega
  rw [fault_ok f1]
  have iV := c_isValid last hs step lv ms .ns trivial (by omega) (by omega)
  cases hV : validB last hs step lv ms with
  | false =>
    rw [hV] at iV
    repeat' first | ((first | (with_reducible first | apply WB.tt | apply WB.ff) | apply Rn.seq | apply Rn.reg | apply Rn.drw | apply Rn.blk | apply Rn.skip | apply Rn.ret | apply Rn.exit | apply Rn.cond rfl | refine i64_ (by omega) (by omega) ?_ | refine ne0_ (by omega) ?_ | refine WIx.intsN (by omega) ?_ | refine WIx.rowsN (by omega) ?_ | refine WCall.pure (iV) ?_) <;> conv => whnf)
    refine WB.tt ?_; conv => whnf
    repeat' first | ((first | (with_reducible first | apply WB.tt | apply WB.ff) | apply Rn.seq | apply Rn.reg | apply Rn.drw | apply Rn.blk | apply Rn.skip | apply Rn.ret | apply Rn.exit | apply Rn.cond rfl | refine i64_ (by omega) (by omega) ?_ | refine ne0_ (by omega) ?_ | refine WIx.intsN (by omega) ?_ | refine WIx.rowsN (by omega) ?_) <;> conv => whnf)
    exact Fin.i rfl (by rw [if_neg (by simp)])
  | true =>
    rw [hV] at iV
    have V := ValidT.of f1 hV
    have iW := c_isTooWide last hs step lv ms .ns trivial V.hv (by have := V.h10; omega)
    rw [wide_many V.hv] at iW
    rw [if_pos rfl]
    repeat' first | ((first | (with_reducible first | apply WB.tt | apply WB.ff) | apply Rn.seq | apply Rn.reg | apply Rn.drw | apply Rn.blk | apply Rn.skip | apply Rn.ret | apply Rn.exit | apply Rn.cond rfl | refine i64_ (by omega) (by omega) ?_ | refine ne0_ (by omega) ?_ | refine WIx.intsN (by omega) ?_ | refine WIx.rowsN (by omega) ?_ | refine WCall.pure (iV) ?_) <;> conv => whnf)
    refine WB.ff ?_; conv => whnf
    by_cases hW : 2000 < manyR hs
    · rw [decide_eq_true hW] at iW
      repeat' first | ((first | (with_reducible first | apply WB.tt | apply WB.ff) | apply Rn.seq | apply Rn.reg | apply Rn.drw | apply Rn.blk | apply Rn.skip | apply Rn.ret | apply Rn.exit | apply Rn.cond rfl | refine i64_ (by omega) (by omega) ?_ | refine ne0_ (by omega) ?_ | refine WIx.intsN (by omega) ?_ | refine WIx.rowsN (by omega) ?_ | refine WCall.pure (iW) ?_) <;> conv => whnf)
      exact Fin.i rfl (by rw [if_pos hW])
    · rw [decide_eq_false hW] at iW
      have iF := c_fits hs.length hs step lv ms .ns trivial rfl V.h10 V.hv V.s0 V.s99 [] (by intro m hm; cases hm) (by simp)
      rw [fits_nil V.hv (by omega), row6_eq V.n] at iF
      rw [if_neg hW]
      repeat' first | ((first | (with_reducible first | apply WB.tt | apply WB.ff) | apply Rn.seq | apply Rn.reg | apply Rn.drw | apply Rn.blk | apply Rn.skip | apply Rn.ret | apply Rn.exit | apply Rn.cond rfl | refine i64_ (by omega) (by omega) ?_ | refine ne0_ (by omega) ?_ | refine WIx.intsN (by omega) ?_ | refine WIx.rowsN (by omega) ?_ | refine WCall.pure (iW) ?_) <;> conv => whnf)
      refine WCall.borrow iF (.cons (.pu (by simp [Pu, PuL, pu_ints, pu_rg, pu_mk])) (.cons .ns .nil)) trivial ?_; conv => whnf
      cases hA : (allN hs).any (nearB step) with
      | true =>
        rw [if_pos rfl]
        repeat' first | ((first | (with_reducible first | apply WB.tt | apply WB.ff) | apply Rn.seq | apply Rn.reg | apply Rn.drw | apply Rn.blk | apply Rn.skip | apply Rn.ret | apply Rn.exit | apply Rn.cond rfl | refine i64_ (by omega) (by omega) ?_ | refine ne0_ (by omega) ?_ | refine WIx.intsN (by omega) ?_ | refine WIx.rowsN (by omega) ?_) <;> conv => whnf)
        refine WB.ff ?_; conv => whnf
        repeat' first | ((first | (with_reducible first | apply WB.tt | apply WB.ff) | apply Rn.seq | apply Rn.reg | apply Rn.drw | apply Rn.blk | apply Rn.skip | apply Rn.ret | apply Rn.exit | apply Rn.cond rfl | refine i64_ (by omega) (by omega) ?_ | refine ne0_ (by omega) ?_ | refine WIx.intsN (by omega) ?_ | refine WIx.rowsN (by omega) ?_) <;> conv => whnf)
        exact Fin.i rfl rfl
      | false =>
        rw [if_neg (by simp)]
        repeat' first | ((first | (with_reducible first | apply WB.tt | apply WB.ff) | apply Rn.seq | apply Rn.reg | apply Rn.drw | apply Rn.blk | apply Rn.skip | apply Rn.ret | apply Rn.exit | apply Rn.cond rfl | refine i64_ (by omega) (by omega) ?_ | refine ne0_ (by omega) ?_ | refine WIx.intsN (by omega) ?_ | refine WIx.rowsN (by omega) ?_) <;> conv => whnf)
        refine WB.tt ?_; conv => whnf
        repeat' first | ((first | (with_reducible first | apply WB.tt | apply WB.ff) | apply Rn.seq | apply Rn.reg | apply Rn.drw | apply Rn.blk | apply Rn.skip | apply Rn.ret | apply Rn.exit | apply Rn.cond rfl | refine i64_ (by omega) (by omega) ?_ | refine ne0_ (by omega) ?_ | refine WIx.intsN (by omega) ?_ | refine WIx.rowsN (by omega) ?_) <;> conv => whnf)
        exact Fin.i rfl rfl
end Go.Ev

namespace Go.Ev
open Go.Proofs
set_option maxRecDepth 100000
theorem fault_zero {last : Int} {hs : List Rg} {step : Int} {lv : List Int} {ms : List Mk} (h : faultR last hs step lv ms = 0) : ValidT last hs step lv ms ∧ manyR hs ≤ 2000 ∧ (allN hs).any (nearB step) = true := by
  by_cases f1 : 9 < last ∨ 6 < lv.length ∨ 5 < ms.length
  · unfold faultR at h
    rw [if_pos f1] at h
    exact absurd h (by decide)
  · rw [fault_ok f1] at h
    by_cases hV : validB last hs step lv ms = true
    · rw [if_pos hV] at h
      by_cases hW : 2000 < manyR hs
      · rw [if_pos hW] at h; exact absurd h (by decide)
      · rw [if_neg hW] at h
        by_cases hA : (allN hs).any (nearB step) = true
        · exact ⟨ValidT.of f1 hV, by omega, hA⟩
        · rw [if_neg hA] at h; exact absurd h (by decide)
    · rw [if_neg hV] at h; exact absurd h (by decide)
theorem ValidT.fits {last : Int} {hs : List Rg} {step : Int} {lv : List Int} {ms : List Mk} (V : ValidT last hs step lv ms) {t : List Int} (h : t.length = hs.length) : fitsR (wantS t) ms = ms.all (rightR t) :=
  fits_right (by have := V.h10; omega) fun m hm => by have := V.vt m hm; omega
theorem ValidT.vt2 {last : Int} {hs : List Rg} {step : Int} {lv : List Int} {ms : List Mk} (V : ValidT last hs step lv ms) : Vt ms := fun m hm => by have := V.vt m hm; have := V.h10; omega
section
variable (last : Int) (hs : List Rg) (step : Int) (lv : List Int) (ms : List Mk) (c : Nat → Int)
end
end Go.Ev
