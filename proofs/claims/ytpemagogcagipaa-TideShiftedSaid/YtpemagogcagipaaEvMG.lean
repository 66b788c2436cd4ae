import Derived.Test.YtpemagogcagipaaEvMF
set_option linter.all false
namespace Go.Ev
open Go.Proofs
set_option maxRecDepth 100000
theorem mkB_mkR (last : Int) (m : Mk) : mkB last m = mkR last m := by
  unfold mkB mkR
  rw [Bool.eq_iff_iff]
  simp only [Bool.and_eq_true, inB_iff, decide_eq_true_iff, rgB_iff]
  omega
theorem valid_of {last : Int} {hs : List Rg} {step : Int} {lv : List Int} {ms : List Mk} (h9 : last ≤ 9) : validB last hs step lv ms = true ↔ ¬ (last < 0 ∨ (hs.length : Int) ≠ last + 1 ∨ inB step 0 99 = false) ∧ ¬ hs.all rgR = false ∧ ¬ lv.all lvR = false ∧ ¬ ms.all (mkR last) = false := by
  have e1 : hs.all (fun r => rgB r.lo r.hi) = hs.all rgR := rfl
  have e2 : lv.all hgtB = lv.all lvR := rfl
  have e3 : ms.all (mkB last) = ms.all (mkR last) := by congr 1; exact funext (mkB_mkR last)
  have e4 : hgtB step = inB step 0 99 := rfl
  unfold validB
  rw [e1, e2, e3, e4, Bool.and_eq_true, Bool.and_eq_true, Bool.and_eq_true, Bool.and_eq_true, Bool.and_eq_true, inB_iff, decide_eq_true_iff]
  generalize hs.all rgR = a, lv.all lvR = b, ms.all (mkR last) = c, inB step 0 99 = d
  cases a <;> cases b <;> cases c <;> cases d <;> simp <;> omega
structure ValidT (last : Int) (hs : List Rg) (step : Int) (lv : List Int) (ms : List Mk) : Prop where
  n : (hs.length : Int) = last + 1
  h1 : 1 ≤ hs.length
  h10 : hs.length ≤ 10
  hv : Vr hs
  s0 : 0 ≤ step
  s99 : step ≤ 99
  lv6 : lv.length ≤ 6
  ms5 : ms.length ≤ 5
  vt : ∀ m ∈ ms, 0 ≤ m.fr ∧ m.fr ≤ m.to ∧ m.to < hs.length
  lvs : ∀ x ∈ lv, 0 ≤ x ∧ x ≤ 99
theorem ValidT.of {last : Int} {hs : List Rg} {step : Int} {lv : List Int} {ms : List Mk} (f1 : ¬ (9 < last ∨ 6 < lv.length ∨ 5 < ms.length)) (h : validB last hs step lv ms = true) : ValidT last hs step lv ms := by
  obtain ⟨k1, k2, k3, k4⟩ := (valid_of (by omega)).1 h
  have k2 : hs.all rgR = true := by simpa using k2
  have k3 : lv.all lvR = true := by simpa using k3
  have k4 : ms.all (mkR last) = true := by simpa using k4
  have hs1 : inB step 0 99 = true := by
    cases e : inB step 0 99 with
    | true => rfl
    | false => exact absurd (.inr (.inr e)) k1
  have hs1 := inB_iff.1 hs1
  have hl : (hs.length : Int) = last + 1 := by
    rcases Int.lt_trichotomy (hs.length : Int) (last + 1) with h | h | h
    · exact absurd (.inr (.inl (by omega))) k1
    · exact h
    · exact absurd (.inr (.inl (by omega))) k1
  have hl0 : ¬ last < 0 := fun h => k1 (.inl h)
  refine ⟨hl, by omega, by omega, fun r hr => rgB_iff.1 (List.all_eq_true.1 k2 r hr), hs1.1, hs1.2, by omega, by omega, fun m hm => ?_, fun x hx => inB_iff.1 (List.all_eq_true.1 k3 x hx)⟩
  have := List.all_eq_true.1 k4 m hm
  unfold mkR at this
  simp only [Bool.and_eq_true, inB_iff, decide_eq_true_iff] at this
  omega
theorem fault_ok {last : Int} {hs : List Rg} {step : Int} {lv : List Int} {ms : List Mk} (f1 : ¬ (9 < last ∨ 6 < lv.length ∨ 5 < ms.length)) : faultR last hs step lv ms = if validB last hs step lv ms = true then (if 2000 < manyR hs then 3 else if (allN hs).any (nearB step) = true then 0 else 9) else 1 := by
  unfold faultR
  rw [if_neg f1]
  by_cases h : validB last hs step lv ms = true
  · obtain ⟨k1, k2, k3, k4⟩ := (valid_of (by omega)).1 h
    rw [if_pos h, if_neg k1, if_neg k2, if_neg k3, if_neg k4]
  · rw [if_neg h]
    have := mt (valid_of (hs := hs) (step := step) (lv := lv) (ms := ms) (show last ≤ 9 by omega)).2 h
    by_cases k1 : last < 0 ∨ (hs.length : Int) ≠ last + 1 ∨ inB step 0 99 = false
    · rw [if_pos k1]
    rw [if_neg k1]
    by_cases k2 : hs.all rgR = false
    · rw [if_pos k2]
    rw [if_neg k2]
    by_cases k3 : lv.all lvR = false
    · rw [if_pos k3]
    rw [if_neg k3]
    by_cases k4 : ms.all (mkR last) = false
    · rw [if_pos k4]
    · exact absurd ⟨k1, k2, k3, k4⟩ this
theorem wide_many {hs : List Rg} (hv : Vr hs) : decide (2000 < prodR hs) = decide (2000 < manyR hs) := by
  have := manyR_eq hv
  congr 1
  apply propext
  omega
theorem fits_nil {hs : List Rg} {step : Int} (hv : Vr hs) (hm : manyR hs ≤ 2000) : ((exS hs step hs.length 0 zeroS).any fun c => fitsR c []) = (allN hs).any (nearB step) := by
  rw [any_lists hv hm]
  show (listsR hs step).any (fun _ => true) = _
  unfold listsR
  rw [any_filter']
  simp
theorem row6_eq {last : Int} {hs : List Rg} {step : Int} {lv : List Int} {ms : List Mk} {tr : D} (h : (hs.length : Int) = last + 1) : row6 hs.length hs step lv ms tr = [.i .i64 last, .lst 2 (rows rgD hs), .i .i64 step, .lst 1 (ints lv), .lst 4 (rows mkD ms), tr] := by
  unfold row6
  rw [show (hs.length : Int) - 1 = last by omega]
theorem c_CheckTable (last : Int) (hs : List Rg) (step : Int) (lv : List Int) (ms : List Mk) : PureF Try.prog p27.ix [.ag [.i .i64 last, .lst 2 (rows rgD hs), .i .i64 step, .lst 1 (ints lv), .lst 4 (rows mkD ms)]] (.i .i64 (faultR last hs step lv ms)) := by
  have e2 := ints_length lv
  have e3 := rows_length mkD ms
  refine PureF.run fn26 (by simp) (by simp [PuL, PuE, Pu, pu_ints, pu_rg, pu_mk]) ?_; conv => whnf
  repeat' first | ((first | (with_reducible first | apply WB.tt | apply WB.ff) | apply Rn.seq | apply Rn.reg | apply Rn.drw | apply Rn.blk | apply Rn.skip | apply Rn.ret | apply Rn.exit | apply Rn.cond rfl | refine i64_ (by omega) (by omega) ?_ | refine ne0_ (by omega) ?_ | refine WIx.intsN (by omega) ?_ | refine WIx.rowsN (by omega) ?_) <;> conv => whnf)
  refine WB.dec (fun h => ?_) (fun h => ?_) <;> conv => whnf
  · repeat' first | ((first | (with_reducible first | apply WB.tt | apply WB.ff) | apply Rn.seq | apply Rn.reg | apply Rn.drw | apply Rn.blk | apply Rn.skip | apply Rn.ret | apply Rn.exit | apply Rn.cond rfl | refine i64_ (by omega) (by omega) ?_ | refine ne0_ (by omega) ?_ | refine WIx.intsN (by omega) ?_ | refine WIx.rowsN (by omega) ?_) <;> conv => whnf)
    exact Fin.i rfl (by unfold faultR; rw [if_pos (by omega)])
  repeat' first | ((first | (with_reducible first | apply WB.tt | apply WB.ff) | apply Rn.seq | apply Rn.reg | apply Rn.drw | apply Rn.blk | apply Rn.skip | apply Rn.ret | apply Rn.exit | apply Rn.cond rfl | refine i64_ (by omega) (by omega) ?_ | refine ne0_ (by omega) ?_ | refine WIx.intsN (by omega) ?_ | refine WIx.rowsN (by omega) ?_) <;> conv => whnf)
  refine WB.dec (fun h => ?_) (fun h => ?_) <;> conv => whnf
  · repeat' first | ((first | (with_reducible first | apply WB.tt | apply WB.ff) | apply Rn.seq | apply Rn.reg | apply Rn.drw | apply Rn.blk | apply Rn.skip | apply Rn.ret | apply Rn.exit | apply Rn.cond rfl | refine i64_ (by omega) (by omega) ?_ | refine ne0_ (by omega) ?_ | refine WIx.intsN (by omega) ?_ | refine WIx.rowsN (by omega) ?_) <;> conv => whnf)
    exact Fin.i rfl (by unfold faultR; rw [if_pos (by omega)])
  repeat' first | ((first | (with_reducible first | apply WB.tt | apply WB.ff) | apply Rn.seq | apply Rn.reg | apply Rn.drw | apply Rn.blk | apply Rn.skip | apply Rn.ret | apply Rn.exit | apply Rn.cond rfl | refine i64_ (by omega) (by omega) ?_ | refine ne0_ (by omega) ?_ | refine WIx.intsN (by omega) ?_ | refine WIx.rowsN (by omega) ?_) <;> conv => whnf)
  refine WB.dec (fun h => ?_) (fun h => ?_) <;> conv => whnf
  · repeat' first | ((first | (with_reducible first | apply WB.tt | apply WB.ff) | apply Rn.seq | apply Rn.reg | apply Rn.drw | apply Rn.blk | apply Rn.skip | apply Rn.ret | apply Rn.exit | apply Rn.cond rfl | refine i64_ (by omega) (by omega) ?_ | refine ne0_ (by omega) ?_ | refine WIx.intsN (by omega) ?_ | refine WIx.rowsN (by omega) ?_) <;> conv => whnf)
    exact Fin.i rfl (by unfold faultR; rw [if_pos (by omega)])
  have f1 : ¬ (9 < last ∨ 6 < lv.length ∨ 5 < ms.length) := by omega
  rw [fault_ok f1]
  have iV := c_isValid last hs step lv ms .ns trivial (by omega) (by omega)
  cases hV : validB last hs step lv ms with
  | false =>
    rw [hV] at iV
    repeat' first | ((first | (with_reducible first | apply WB.tt | apply WB.ff) | apply Rn.seq | apply Rn.reg | apply Rn.drw | apply Rn.blk | apply Rn.skip | apply Rn.ret | apply Rn.exit | apply Rn.cond rfl | refine i64_ (by omega) (by omega) ?_ | refine ne0_ (by omega) ?_ | refine WIx.intsN (by omega) ?_ | refine WIx.rowsN (by omega) ?_ | refine WCall.pure (iV) ?_) <;> conv => whnf)
    refine WB.tt ?_; conv => whnf
    repeat' first | ((first | (with_reducible first | apply WB.tt | apply WB.ff) | apply Rn.seq | apply Rn.reg | apply Rn.drw | apply Rn.blk | apply Rn.skip | apply Rn.ret | apply Rn.exit | apply Rn.cond rfl | refine i64_ (by omega) (by omega) ?_ | refine ne0_ (by omega) ?_ | refine WIx.intsN (by omega) ?_ | refine WIx.rowsN (by omega) ?_) <;> conv => whnf)
    exact Fin.i rfl (by rw [if_neg (by simp)])
  | true =>
    rw [hV] at iV
    have V := ValidT.of f1 hV
    have iW := c_isTooWide last hs step lv ms .ns trivial V.hv (by have := V.h10; omega)
    rw [wide_many V.hv] at iW
    rw [if_pos rfl]
    repeat' first | ((first | (with_reducible first | apply WB.tt | apply WB.ff) | apply Rn.seq | apply Rn.reg | apply Rn.drw | apply Rn.blk | apply Rn.skip | apply Rn.ret | apply Rn.exit | apply Rn.cond rfl | refine i64_ (by omega) (by omega) ?_ | refine ne0_ (by omega) ?_ | refine WIx.intsN (by omega) ?_ | refine WIx.rowsN (by omega) ?_ | refine WCall.pure (iV) ?_) <;> conv => whnf)
    refine WB.ff ?_; conv => whnf
    by_cases hW : 2000 < manyR hs
    · rw [decide_eq_true hW] at iW
      repeat' first | ((first | (with_reducible first | apply WB.tt | apply WB.ff) | apply Rn.seq | apply Rn.reg | apply Rn.drw | apply Rn.blk | apply Rn.skip | apply Rn.ret | apply Rn.exit | apply Rn.cond rfl | refine i64_ (by omega) (by omega) ?_ | refine ne0_ (by omega) ?_ | refine WIx.intsN (by omega) ?_ | refine WIx.rowsN (by omega) ?_ | refine WCall.pure (iW) ?_) <;> conv => whnf)
      exact Fin.i rfl (by rw [if_pos hW])
    · rw [decide_eq_false hW] at iW
      have iF := c_fits hs.length hs step lv ms .ns trivial rfl V.h10 V.hv V.s0 V.s99 [] (by intro m hm; cases hm) (by simp)
      rw [fits_nil V.hv (by omega), row6_eq V.n] at iF
      rw [if_neg hW]
      repeat' first | ((first | (with_reducible first | apply WB.tt | apply WB.ff) | apply Rn.seq | apply Rn.reg | apply Rn.drw | apply Rn.blk | apply Rn.skip | apply Rn.ret | apply Rn.exit | apply Rn.cond rfl | refine i64_ (by omega) (by omega) ?_ | refine ne0_ (by omega) ?_ | refine WIx.intsN (by omega) ?_ | refine WIx.rowsN (by omega) ?_ | refine WCall.pure (iW) ?_) <;> conv => whnf)
      refine WCall.borrow iF (.cons (.pu (by simp [Pu, PuL, pu_ints, pu_rg, pu_mk])) (.cons .ns .nil)) trivial ?_; conv => whnf
      cases hA : (allN hs).any (nearB step) with
      | true =>
        rw [if_pos rfl]
        repeat' first | ((first | (with_reducible first | apply WB.tt | apply WB.ff) | apply Rn.seq | apply Rn.reg | apply Rn.drw | apply Rn.blk | apply Rn.skip | apply Rn.ret | apply Rn.exit | apply Rn.cond rfl | refine i64_ (by omega) (by omega) ?_ | refine ne0_ (by omega) ?_ | refine WIx.intsN (by omega) ?_ | refine WIx.rowsN (by omega) ?_) <;> conv => whnf)
        refine WB.ff ?_; conv => whnf
        repeat' first | ((first | (with_reducible first | apply WB.tt | apply WB.ff) | apply Rn.seq | apply Rn.reg | apply Rn.drw | apply Rn.blk | apply Rn.skip | apply Rn.ret | apply Rn.exit | apply Rn.cond rfl | refine i64_ (by omega) (by omega) ?_ | refine ne0_ (by omega) ?_ | refine WIx.intsN (by omega) ?_ | refine WIx.rowsN (by omega) ?_) <;> conv => whnf)
        exact Fin.i rfl rfl
      | false =>
        rw [if_neg (by simp)]
        repeat' first | ((first | (with_reducible first | apply WB.tt | apply WB.ff) | apply Rn.seq | apply Rn.reg | apply Rn.drw | apply Rn.blk | apply Rn.skip | apply Rn.ret | apply Rn.exit | apply Rn.cond rfl | refine i64_ (by omega) (by omega) ?_ | refine ne0_ (by omega) ?_ | refine WIx.intsN (by omega) ?_ | refine WIx.rowsN (by omega) ?_) <;> conv => whnf)
        refine WB.tt ?_; conv => whnf
        repeat' first | ((first | (with_reducible first | apply WB.tt | apply WB.ff) | apply Rn.seq | apply Rn.reg | apply Rn.drw | apply Rn.blk | apply Rn.skip | apply Rn.ret | apply Rn.exit | apply Rn.cond rfl | refine i64_ (by omega) (by omega) ?_ | refine ne0_ (by omega) ?_ | refine WIx.intsN (by omega) ?_ | refine WIx.rowsN (by omega) ?_) <;> conv => whnf)
        exact Fin.i rfl rfl
end Go.Ev

namespace Go.Ev
open Go.Proofs
set_option maxRecDepth 100000
theorem fault_zero {last : Int} {hs : List Rg} {step : Int} {lv : List Int} {ms : List Mk} (h : faultR last hs step lv ms = 0) : ValidT last hs step lv ms ∧ manyR hs ≤ 2000 ∧ (allN hs).any (nearB step) = true := by
  by_cases f1 : 9 < last ∨ 6 < lv.length ∨ 5 < ms.length
  · unfold faultR at h
    rw [if_pos f1] at h
    exact absurd h (by decide)
  · rw [fault_ok f1] at h
    by_cases hV : validB last hs step lv ms = true
    · rw [if_pos hV] at h
      by_cases hW : 2000 < manyR hs
      · rw [if_pos hW] at h; exact absurd h (by decide)
      · rw [if_neg hW] at h
        by_cases hA : (allN hs).any (nearB step) = true
        · exact ⟨ValidT.of f1 hV, by omega, hA⟩
        · rw [if_neg hA] at h; exact absurd h (by decide)
    · rw [if_neg hV] at h; exact absurd h (by decide)
theorem ValidT.fits {last : Int} {hs : List Rg} {step : Int} {lv : List Int} {ms : List Mk} (V : ValidT last hs step lv ms) {t : List Int} (h : t.length = hs.length) : fitsR (wantS t) ms = ms.all (rightR t) :=
  fits_right (by have := V.h10; omega) fun m hm => by have := V.vt m hm; omega
theorem ValidT.vt2 {last : Int} {hs : List Rg} {step : Int} {lv : List Int} {ms : List Mk} (V : ValidT last hs step lv ms) : Vt ms := fun m hm => by have := V.vt m hm; have := V.h10; omega
def th5 : Pos := .i (.o .h)
def sl5 : List (List Int) → D
  | [] => .ns
  | _ :: s => .sl th5 0 (s.length + 1) s.length 1
def bl5 : List (List Int) → Option C
  | [] => none
  | a :: s => some (.cells false ((tDs (a :: s)).map fun d => Cell.o d s.length) (s.length + 1))
def nx5 : List (List Int) → Pos
  | [] => .o (.o .h)
  | _ :: _ => .o (.i .h)
theorem sl5_kp (A : List (List Int)) : Kp (nx5 A).nat (sl5 A) := by
  cases A <;> simp [sl5, nx5, Kp, th5, Pos.nat, Pu]
theorem nx5_four (A : List (List Int)) : 4 ≤ (nx5 A).nat := by cases A <;> simp [nx5, Pos.nat]
theorem nx5_up (A A' : List (List Int)) : (nx5 A).nat ≤ (nx5 (A ++ A')).nat := by
  cases A with
  | nil => cases A' <;> simp [nx5, Pos.nat]
  | cons a A => simp [nx5]
theorem bl5_snoc (a : List Int) (s : List (List Int)) (x : List Int) : bl5 (a :: (s ++ [x])) = some (.cells false ((tDs (a :: s) ++ [D.lst 1 (ints x)]).map fun d => Cell.o d (s.length + 1)) (s.length + 1 + 1)) := by
  simp [bl5, tDs]
theorem sl5_snoc (a : List Int) (s : List (List Int)) (x : List Int) : sl5 (a :: (s ++ [x])) = .sl th5 0 (s.length + 1 + 1) (s.length + 1) 1 := by
  simp [sl5]
def wetsR (lv : List Int) (c : Nat → Int) (last : Int) : List (List Int) := (List.range lv.length).map fun row => wetR lv c row last
theorem wetsR_length (lv : List Int) (c : Nat → Int) (last : Int) : (wetsR lv c last).length = lv.length := by simp [wetsR]
theorem wetsR_at {lv : List Int} {c : Nat → Int} {last : Int} {j : Nat} (h : j < lv.length) : (wetsR lv c last).getD j [] = wetR lv c j last := by simp [wetsR, List.getD, h]
section
variable (last : Int) (hs : List Rg) (step : Int) (lv : List Int) (ms : List Mk) (c : Nat → Int)
def plS (A : List (List Int)) (j : Nat) : X := ⟨(.n (.n (.n (.n (.n (.n .e (some (.i .i64 (j : Int))) .e) none .e) (some (.pt (.o .h) 0 0)) .e) none .e) none .e) none (.n (.n (.n .e (some (.pt (.i .h) 0 0)) .e) none .e) none (.n (.n .e (some (sl5 A)) .e) none (.n .e none (.n .e (some (.i .i64 (lv.length : Int))) .e))))), .n (.n .e (some (wkC last hs step lv ms .ns)) .e) none (.n (.n .e (bl5 A) .e) (some (seC c)) .e), nx5 A, none⟩
theorem plS_kp (A : List (List Int)) (j : Nat) : ∀ s d, (plS last hs step lv ms c A j).sl.get s = some d → Kp (nx5 A).nat d := by
  have h2 := nx5_four A
  show TAll (fun _ d => Kp (nx5 A).nat d) _
  unfold plS
  repeat' first | exact TAll.e | refine TAll.some ?_ ?_ ?_ | refine TAll.none ?_ ?_
  all_goals first | exact sl5_kp A | (simp [Kp, Pu, Pos.nat]; done) | (simp [Kp, Pos.nat]; omega)
theorem ns_kp : ∀ n, Kp n .ns := fun _ => by simp [Kp, Pu]
theorem plO_kp (A : List (List Int)) (j : Nat) : KpO (nx5 A).nat (plS last hs step lv ms c A j).ob := by
  cases A with
  | nil =>
    show TAll (fun id c => id.nat < 4 ∧ KpC 4 c) _
    unfold plS bl5
    refine TAll.none (TAll.some TAll.e ⟨by simp [Pos.nat], wkC_kp last hs step lv ms .ns ns_kp _⟩ TAll.e) (TAll.some (TAll.none TAll.e TAll.e) ⟨by simp [Pos.nat], seC_kp c _⟩ TAll.e)
  | cons a s =>
    show TAll (fun id c => id.nat < 6 ∧ KpC 6 c) _
    unfold plS bl5
    refine TAll.none (TAll.some TAll.e ⟨by simp [Pos.nat], wkC_kp last hs step lv ms .ns ns_kp _⟩ TAll.e) (TAll.some (TAll.some TAll.e ⟨by simp [Pos.nat], tDs_kp _ _ _⟩ TAll.e) ⟨by simp [Pos.nat], seC_kp c _⟩ TAll.e)
end
def playR (last : Int) (hs : List Rg) (step : Int) (lv : List Int) (ms : List Mk) (t : List Int) : List (List Int) × Int :=
  if faultR last hs step lv ms = 0 then (if listedR hs step t = true then (wetsR lv (wantS t) last, 0) else ([], 2)) else ([], faultR last hs step lv ms)
theorem c_Play (last : Int) (hs : List Rg) (step : Int) (lv : List Int) (ms : List Mk) (t : List Int) (ht : ∀ i, wfB .i64 (t.getD i 0) = true) : PureF Try.prog p22.ix [.ag [.i .i64 last, .lst 2 (rows rgD hs), .i .i64 step, .lst 1 (ints lv), .lst 4 (rows mkD ms)], .lst 1 (ints t)] (.tp [.lst 1 (rows tD (playR last hs step lv ms t).1), .i .i64 (playR last hs step lv ms t).2]) := by
  have el := ints_length lv
  refine PureF.run fn21 (by simp) (by simp [PuL, PuE, Pu, pu_ints, pu_rg, pu_mk]) ?_; conv => whnf
  repeat' first | ((first | (with_reducible first | apply WB.tt | apply WB.ff) | apply Rn.seq | apply Rn.reg | apply Rn.drw | apply Rn.blk | apply Rn.skip | apply Rn.ret | apply Rn.exit | apply Rn.cond rfl | refine i64_ (by omega) (by omega) ?_ | refine ne0_ (by omega) ?_ | refine WIx.intsN (by omega) ?_ | refine WIx.rowsN (by omega) ?_ | refine WCall.pure (c_CheckTable last hs step lv ms) ?_) <;> conv => whnf)
  refine WB.mk (fun h => ?_) (fun h => ?_) <;> conv => whnf
  · have hf : ¬ faultR last hs step lv ms = 0 := by simpa using h
    unfold playR
    rw [if_neg hf]
    repeat' first | ((first | (with_reducible first | apply WB.tt | apply WB.ff) | apply Rn.seq | apply Rn.reg | apply Rn.drw | apply Rn.blk | apply Rn.skip | apply Rn.ret | apply Rn.exit | apply Rn.cond rfl | refine i64_ (by omega) (by omega) ?_ | refine ne0_ (by omega) ?_ | refine WIx.intsN (by omega) ?_ | refine WIx.rowsN (by omega) ?_) <;> conv => whnf)
    refine ⟨.inr rfl, _, rfl, ?_⟩
    exact .tp (.cons .ns (.cons (.pu trivial) .nil))
  · have hf : faultR last hs step lv ms = 0 := by simpa using h
    obtain ⟨V, hm, _⟩ := fault_zero hf
    have iR := c_read hs.length hs step lv ms .ns trivial rfl V.h1 V.h10 V.hv V.s0 V.s99 t ht
    rw [row6_eq V.n] at iR
    unfold playR
    rw [if_pos hf]
    cases hL : listedR hs step t with
    | false =>
      rw [if_neg (by simp)]
      by_cases hl : t.length = hs.length
      · unfold readZ at iR
        rw [if_pos hl, read_listed rfl V.h10 hl, hL] at iR
        repeat' first | ((first | (with_reducible first | apply WB.tt | apply WB.ff) | apply Rn.seq | apply Rn.reg | apply Rn.drw | apply Rn.blk | apply Rn.skip | apply Rn.ret | apply Rn.exit | apply Rn.cond rfl | refine i64_ (by omega) (by omega) ?_ | refine ne0_ (by omega) ?_ | refine WIx.intsN (by omega) ?_ | refine WIx.rowsN (by omega) ?_ | refine WCall.pure (iR) ?_) <;> conv => whnf)
        refine WB.tt ?_; conv => whnf
        repeat' first | ((first | (with_reducible first | apply WB.tt | apply WB.ff) | apply Rn.seq | apply Rn.reg | apply Rn.drw | apply Rn.blk | apply Rn.skip | apply Rn.ret | apply Rn.exit | apply Rn.cond rfl | refine i64_ (by omega) (by omega) ?_ | refine ne0_ (by omega) ?_ | refine WIx.intsN (by omega) ?_ | refine WIx.rowsN (by omega) ?_) <;> conv => whnf)
        refine ⟨.inr rfl, _, rfl, ?_⟩
        exact .tp (.cons .ns (.cons (.pu trivial) .nil))
      · unfold readZ at iR
        rw [if_neg hl] at iR
        repeat' first | ((first | (with_reducible first | apply WB.tt | apply WB.ff) | apply Rn.seq | apply Rn.reg | apply Rn.drw | apply Rn.blk | apply Rn.skip | apply Rn.ret | apply Rn.exit | apply Rn.cond rfl | refine i64_ (by omega) (by omega) ?_ | refine ne0_ (by omega) ?_ | refine WIx.intsN (by omega) ?_ | refine WIx.rowsN (by omega) ?_ | refine WCall.pure (iR) ?_) <;> conv => whnf)
        refine WB.tt ?_; conv => whnf
        repeat' first | ((first | (with_reducible first | apply WB.tt | apply WB.ff) | apply Rn.seq | apply Rn.reg | apply Rn.drw | apply Rn.blk | apply Rn.skip | apply Rn.ret | apply Rn.exit | apply Rn.cond rfl | refine i64_ (by omega) (by omega) ?_ | refine ne0_ (by omega) ?_ | refine WIx.intsN (by omega) ?_ | refine WIx.rowsN (by omega) ?_) <;> conv => whnf)
        refine ⟨.inr rfl, _, rfl, ?_⟩
        exact .tp (.cons .ns (.cons (.pu trivial) .nil))
    | true =>
      rw [if_pos rfl]
      have hl := listed_lenZ hL
      unfold readZ at iR
      rw [if_pos hl, read_listed rfl V.h10 hl, hL] at iR
      repeat' first | ((first | (with_reducible first | apply WB.tt | apply WB.ff) | apply Rn.seq | apply Rn.reg | apply Rn.drw | apply Rn.blk | apply Rn.skip | apply Rn.ret | apply Rn.exit | apply Rn.cond rfl | refine i64_ (by omega) (by omega) ?_ | refine ne0_ (by omega) ?_ | refine WIx.intsN (by omega) ?_ | refine WIx.rowsN (by omega) ?_ | refine WCall.pure (iR) ?_) <;> conv => whnf)
      refine WB.ff ?_; conv => whnf
      repeat' first | ((first | (with_reducible first | apply WB.tt | apply WB.ff) | apply Rn.seq | apply Rn.reg | apply Rn.drw | apply Rn.blk | apply Rn.skip | apply Rn.ret | apply Rn.exit | apply Rn.cond rfl | refine i64_ (by omega) (by omega) ?_ | refine ne0_ (by omega) ?_ | refine WIx.intsN (by omega) ?_ | refine WIx.rowsN (by omega) ?_) <;> conv => whnf)
      have hwl := wetsR_length lv (wantS t) last
      have h6 := V.lv6
      have hrow := fun j h => c_wetHours last hs step lv ms .ns trivial ns_kp (wantS t) j h (by omega) (by have := V.n; have := V.h1; omega) (by have := V.n; have := V.h10; omega)
      refine Rn.loop (fun j : Nat => plS last hs step lv ms (wantS t) ((wetsR lv (wantS t) last).take j) j) (fun j => j ≤ lv.length) (fun j => lv.length - j) 0 ?_ ?_ ?_
      · refine X.le.mk ?_ ?_ (Nat.le_refl _) rfl rfl
        · show T.le ((.n (.n (.n (.n (.n (.n .e (some (.i .i64 (0 : Int))) .e) none .e) (some (.pt (.o .h) 0 0)) .e) none .e) none .e) none (.n (.n (.n .e (some (.pt (.i .h) 0 0)) .e) none .e) none (.n (.n .e (some (.ns)) .e) none (.n .e none (.n .e (some (.i .i64 (lv.length : Int))) .e))))) : T D) _
          rw [← el]
          (repeat' first | exact T.le_e _ | refine T.le_some ?_ rfl ?_ | refine T.le_none ?_ ?_)
        · show T.le (.n (.n .e (some (wkC last hs step lv ms .ns)) .e) none (.n (.n .e none .e) (some (seC (wantS t))) .e)) _
          (repeat' first | exact T.le_e _ | refine T.le_some ?_ rfl ?_ | refine T.le_none ?_ ?_ | refine T.le_ee ?_ ?_)
      · exact Nat.zero_le _
      intro j hj
      have hj : j ≤ lv.length := hj
      have hAl : ((wetsR lv (wantS t) last).take j).length = j := by rw [List.length_take]; omega
      have hnext := fun h => take_succ_getD (l := wetsR lv (wantS t) last) (j := j) (d := []) h
      have hend : j = lv.length → (wetsR lv (wantS t) last).take j = wetsR lv (wantS t) last := fun e => List.take_of_length_le (by omega)
      generalize hA : (wetsR lv (wantS t) last).take j = A at *
      conv => whnf
      repeat' first | ((first | (with_reducible first | apply WB.tt | apply WB.ff) | apply Rn.seq | apply Rn.reg | apply Rn.drw | apply Rn.blk | apply Rn.skip | apply Rn.ret | apply Rn.exit | apply Rn.cond rfl | refine i64_ (by omega) (by omega) ?_ | refine ne0_ (by omega) ?_ | refine WIx.intsN (by omega) ?_ | refine WIx.rowsN (by omega) ?_) <;> conv => whnf)
      refine WB.dec (fun h => ?_) (fun h => ?_) <;> conv => whnf
      · have hlt : j < lv.length := by omega
        have hnext := hnext (by omega)
        have hup := nx5_up A
        have cW := hrow j hlt
        have hat := wetsR_at (c := wantS t) (last := last) hlt
        rw [hat] at hnext
        generalize wetR lv (wantS t) j last = x at *
        repeat' first | ((first | (with_reducible first | apply WB.tt | apply WB.ff) | apply Rn.seq | apply Rn.reg | apply Rn.drw | apply Rn.blk | apply Rn.skip | apply Rn.ret | apply Rn.exit | apply Rn.cond rfl | refine i64_ (by omega) (by omega) ?_ | refine ne0_ (by omega) ?_ | refine WIx.intsN (by omega) ?_ | refine WIx.rowsN (by omega) ?_ | refine WCall.pure (cW) ?_) <;> conv => whnf)
        cases A with
        | nil =>
          repeat' first | ((first | (with_reducible first | apply WB.tt | apply WB.ff) | apply Rn.seq | apply Rn.reg | apply Rn.drw | apply Rn.blk | apply Rn.skip | apply Rn.ret | apply Rn.exit | apply Rn.cond rfl | refine i64_ (by omega) (by omega) ?_ | refine ne0_ (by omega) ?_ | refine WIx.intsN (by omega) ?_ | refine WIx.rowsN (by omega) ?_ | refine WCall.pure (cW) ?_) <;> conv => whnf)
          refine WSt.app_first (r := [_]) rfl (.inl rfl) rfl rfl rfl rfl ?_; conv => whnf
          repeat' first | ((first | (with_reducible first | apply WB.tt | apply WB.ff) | apply Rn.seq | apply Rn.reg | apply Rn.drw | apply Rn.blk | apply Rn.skip | apply Rn.ret | apply Rn.exit | apply Rn.cond rfl | refine i64_ (by omega) (by omega) ?_ | refine ne0_ (by omega) ?_ | refine WIx.intsN (by omega) ?_ | refine WIx.rowsN (by omega) ?_) <;> conv => whnf)
          refine Again.to (j + 1) (by omega) (by omega) ?_ ?_
          · show (nx5 ((wetsR lv (wantS t) last).take j)).nat ≤ (nx5 ((wetsR lv (wantS t) last).take (j + 1))).nat
            rw [hA, hnext]; exact hup _
          · show Shr _ (plS last hs step lv ms (wantS t) ((wetsR lv (wantS t) last).take (j + 1)) (j + 1))
            rw [hnext]
            refine Shr.kp2 ?_ (plS_kp last hs step lv ms (wantS t) _ _) ?_ (plO_kp last hs step lv ms (wantS t) [x] (j + 1))
            · show T.le ((.n (.n (.n (.n (.n (.n .e (some (.i .i64 ((j + 1 : Nat) : Int))) .e) none .e) (some (.pt (.o .h) 0 0)) .e) none .e) none .e) none (.n (.n (.n .e (some (.pt (.i .h) 0 0)) .e) none .e) none (.n (.n .e (some (.sl th5 0 1 0 1)) .e) none (.n .e none (.n .e (some (.i .i64 (lv.length : Int))) .e))))) : T D) _
              (repeat' first | exact T.le_e _ | refine T.le_some ?_ rfl ?_ | refine T.le_none ?_ ?_)
            · show T.le (.n (.n .e (some (wkC last hs step lv ms .ns)) .e) none (.n (.n .e (some (.cells false [.o (.lst 1 (ints x)) 0] 1)) .e) (some (seC (wantS t))) .e)) _
              (repeat' first | exact T.le_e _ | refine T.le_some ?_ rfl ?_ | refine T.le_none ?_ ?_ | refine T.le_ee ?_ ?_)
        | cons a s =>
          repeat' first | ((first | (with_reducible first | apply WB.tt | apply WB.ff) | apply Rn.seq | apply Rn.reg | apply Rn.drw | apply Rn.blk | apply Rn.skip | apply Rn.ret | apply Rn.exit | apply Rn.cond rfl | refine i64_ (by omega) (by omega) ?_ | refine ne0_ (by omega) ?_ | refine WIx.intsN (by omega) ?_ | refine WIx.rowsN (by omega) ?_ | refine WCall.pure (cW) ?_) <;> conv => whnf)
          refine WSt.app_one (ds := tDs (a :: s)) (r := [_]) rfl rfl rfl rfl rfl rfl (by simp [tDs]) rfl rfl (by simp at hAl; omega) rfl ?_; conv => whnf
          repeat' first | ((first | (with_reducible first | apply WB.tt | apply WB.ff) | apply Rn.seq | apply Rn.reg | apply Rn.drw | apply Rn.blk | apply Rn.skip | apply Rn.ret | apply Rn.exit | apply Rn.cond rfl | refine i64_ (by omega) (by omega) ?_ | refine ne0_ (by omega) ?_ | refine WIx.intsN (by omega) ?_ | refine WIx.rowsN (by omega) ?_) <;> conv => whnf)
          refine Again.to (j + 1) (by omega) (by omega) ?_ ?_
          · show (nx5 ((wetsR lv (wantS t) last).take j)).nat ≤ (nx5 ((wetsR lv (wantS t) last).take (j + 1))).nat
            rw [hA, hnext]; exact hup _
          · show Shr _ (plS last hs step lv ms (wantS t) ((wetsR lv (wantS t) last).take (j + 1)) (j + 1))
            rw [hnext, List.cons_append]
            refine Shr.of ?_ ?_ rfl rfl
            · show Rel _ _ ((.n (.n (.n (.n (.n (.n .e (some (.i .i64 ((j + 1 : Nat) : Int))) .e) none .e) (some (.pt (.o .h) 0 0)) .e) none .e) none .e) none (.n (.n (.n .e (some (.pt (.i .h) 0 0)) .e) none .e) none (.n (.n .e (some (sl5 (a :: (s ++ [x])))) .e) none (.n .e none (.n .e (some (.i .i64 (lv.length : Int))) .e))))) : T D) _
              rw [sl5_snoc]
              (repeat' first | exact Rel.e | refine Rel.some ?_ ?_ ?_ | refine Rel.none ?_ ?_)
              all_goals show Fz _ _ _ _
              all_goals first | exact .pu trivial | exact .ksl (show _ < 6 by simp [th5, Pos.nat]) | exact .kpt (show _ < 6 by simp [Pos.nat])
            · show Rel _ _ (.n (.n .e (some (wkC last hs step lv ms .ns)) .e) none (.n (.n .e (bl5 (a :: (s ++ [x]))) .e) (some (seC (wantS t))) .e)) _
              rw [bl5_snoc]
              (repeat' first | exact Rel.e | refine Rel.some ?_ ?_ ?_ | refine Rel.none ?_ ?_)
              · exact RO'.of (show _ < 6 by simp [Pos.nat]) (wkC_sh last hs step lv ms .ns trivial)
              · refine RO'.of (show _ < 6 by simp [Pos.nat]) ?_
                exact ShC.grownF (by omega) (pu_tDs _) (.pu (pu_ints _))
              · exact RO'.of (show _ < 6 by simp [Pos.nat]) (seC_sh (wantS t))
      · repeat' first | ((first | (with_reducible first | apply WB.tt | apply WB.ff) | apply Rn.seq | apply Rn.reg | apply Rn.drw | apply Rn.blk | apply Rn.skip | apply Rn.ret | apply Rn.exit | apply Rn.cond rfl | refine i64_ (by omega) (by omega) ?_ | refine ne0_ (by omega) ?_ | refine WIx.intsN (by omega) ?_ | refine WIx.rowsN (by omega) ?_) <;> conv => whnf)
        have he := hend (by omega)
        subst he
        refine ⟨.inr rfl, _, rfl, ?_⟩
        refine .tp (.cons ?_ (.cons (.pu trivial) .nil))
        cases hT : wetsR lv (wantS t) last with
        | nil => exact .ns
        | cons a s =>
          exact Frz.whole (cs := (tDs (a :: s)).map fun d => Cell.o d s.length) (cur := s.length + 1) rfl (by simp [rows]) (tD_one _) (by rw [tD_flat]) (pu_tR _)
end Go.Ev
