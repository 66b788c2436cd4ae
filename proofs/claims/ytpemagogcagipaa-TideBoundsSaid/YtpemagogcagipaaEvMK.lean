import Derived.Test.YtpemagogcagipaaEvMJ
set_option linter.all false
namespace Go.Ev
open Go.Proofs
set_option maxRecDepth 100000
def sureE (last : Int) (hs : List Rg) (step : Int) (lv : List Int) (ms : List Mk) : Int :=
  if faultR last hs step lv ms = 0 then (if truthsR hs step ms = [] then 11 else 0) else faultR last hs step lv ms
def sureL (last : Int) (hs : List Rg) (step : Int) (lv : List Int) (ms : List Mk) : List (List Int) := if sureE last hs step lv ms = 0 then truthsR hs step ms else []
theorem c_sure (last : Int) (hs : List Rg) (step : Int) (lv : List Int) (ms : List Mk) : PureF Try.prog p34.ix [.ag [.i .i64 last, .lst 2 (rows rgD hs), .i .i64 step, .lst 1 (ints lv), .lst 4 (rows mkD ms)]] (.tp [.lst 1 (rows tD (sureL last hs step lv ms)), .i .i64 (sureE last hs step lv ms)]) := by
  have iF := c_fault last hs step lv ms
  have e1 := rows_length tD (truthsR hs step ms)
  refine PureF.run fn33 (by simp) (by simp [PuL, PuE, Pu, pu_ints, pu_rg, pu_mk]) ?_; conv => whnf
  by_cases hf : faultR last hs step lv ms = 0
  · obtain ⟨V, _, _⟩ := fault_zero hf
    have hE : sureE last hs step lv ms = if truthsR hs step ms = [] then 11 else 0 := by unfold sureE; rw [if_pos hf]
    have iT := c_Truths last hs step lv ms V.hv (by have := V.h10; omega) (fun m hm => by have := V.vt m hm; omega) (by have := V.ms5; omega)
    rw [hf] at iF
    cases hT : truthsR hs step ms with
    | nil =>
      have hE2 : sureE last hs step lv ms = 11 := by rw [hE, hT]; rfl
      have hL2 : sureL last hs step lv ms = [] := by unfold sureL; rw [hE2]; rfl
      rw [hE2, hL2]
      rw [hT] at iT
      repeat' first | ((with_reducible apply WB.tt); conv => whnf) | ((with_reducible apply WB.ff); conv => whnf) | (refine Rn.seq ?_; conv => whnf) | (refine Rn.reg ?_; conv => whnf) | (refine Rn.drw ?_; conv => whnf) | (refine Rn.blk ?_; conv => whnf) | (refine Rn.skip ?_; conv => whnf) | (refine Rn.ret ?_; conv => whnf) | (refine Rn.exit ?_; conv => whnf) | (refine Rn.cond rfl ?_; conv => whnf) | (refine And.intro (InR.i64 (by omega) (by omega)) ?_; conv => whnf) | (refine And.intro (show _ ≠ (0 : Int) by omega) ?_; conv => whnf) | (refine WIx.intsN (by omega) ?_; conv => whnf) | (refine WIx.rowsN (by omega) ?_; conv => whnf) | (refine WCall.pure (iF) ?_; conv => whnf)
      refine WB.ff ?_; conv => whnf
      repeat' first | ((with_reducible apply WB.tt); conv => whnf) | ((with_reducible apply WB.ff); conv => whnf) | (refine Rn.seq ?_; conv => whnf) | (refine Rn.reg ?_; conv => whnf) | (refine Rn.drw ?_; conv => whnf) | (refine Rn.blk ?_; conv => whnf) | (refine Rn.skip ?_; conv => whnf) | (refine Rn.ret ?_; conv => whnf) | (refine Rn.exit ?_; conv => whnf) | (refine Rn.cond rfl ?_; conv => whnf) | (refine And.intro (InR.i64 (by omega) (by omega)) ?_; conv => whnf) | (refine And.intro (show _ ≠ (0 : Int) by omega) ?_; conv => whnf) | (refine WIx.intsN (by omega) ?_; conv => whnf) | (refine WIx.rowsN (by omega) ?_; conv => whnf) | (refine WCall.pure (iT) ?_; conv => whnf)
      refine WB.tt ?_; conv => whnf
      repeat' first | ((with_reducible apply WB.tt); conv => whnf) | ((with_reducible apply WB.ff); conv => whnf) | (refine Rn.seq ?_; conv => whnf) | (refine Rn.reg ?_; conv => whnf) | (refine Rn.drw ?_; conv => whnf) | (refine Rn.blk ?_; conv => whnf) | (refine Rn.skip ?_; conv => whnf) | (refine Rn.ret ?_; conv => whnf) | (refine Rn.exit ?_; conv => whnf) | (refine Rn.cond rfl ?_; conv => whnf) | (refine And.intro (InR.i64 (by omega) (by omega)) ?_; conv => whnf) | (refine And.intro (show _ ≠ (0 : Int) by omega) ?_; conv => whnf) | (refine WIx.intsN (by omega) ?_; conv => whnf) | (refine WIx.rowsN (by omega) ?_; conv => whnf)
      refine ⟨.inr rfl, _, rfl, ?_⟩
      exact .tp (.cons .ns (.cons (.pu trivial) .nil))
    | cons a s =>
      have hE2 : sureE last hs step lv ms = 0 := by rw [hE, hT]; rfl
      have hL2 : sureL last hs step lv ms = a :: s := by unfold sureL; rw [hE2, if_pos rfl, hT]
      rw [hE2, hL2]
      rw [hT] at iT e1
      repeat' first | ((with_reducible apply WB.tt); conv => whnf) | ((with_reducible apply WB.ff); conv => whnf) | (refine Rn.seq ?_; conv => whnf) | (refine Rn.reg ?_; conv => whnf) | (refine Rn.drw ?_; conv => whnf) | (refine Rn.blk ?_; conv => whnf) | (refine Rn.skip ?_; conv => whnf) | (refine Rn.ret ?_; conv => whnf) | (refine Rn.exit ?_; conv => whnf) | (refine Rn.cond rfl ?_; conv => whnf) | (refine And.intro (InR.i64 (by omega) (by omega)) ?_; conv => whnf) | (refine And.intro (show _ ≠ (0 : Int) by omega) ?_; conv => whnf) | (refine WIx.intsN (by omega) ?_; conv => whnf) | (refine WIx.rowsN (by omega) ?_; conv => whnf) | (refine WCall.pure (iF) ?_; conv => whnf)
      refine WB.ff ?_; conv => whnf
      repeat' first | ((with_reducible apply WB.tt); conv => whnf) | ((with_reducible apply WB.ff); conv => whnf) | (refine Rn.seq ?_; conv => whnf) | (refine Rn.reg ?_; conv => whnf) | (refine Rn.drw ?_; conv => whnf) | (refine Rn.blk ?_; conv => whnf) | (refine Rn.skip ?_; conv => whnf) | (refine Rn.ret ?_; conv => whnf) | (refine Rn.exit ?_; conv => whnf) | (refine Rn.cond rfl ?_; conv => whnf) | (refine And.intro (InR.i64 (by omega) (by omega)) ?_; conv => whnf) | (refine And.intro (show _ ≠ (0 : Int) by omega) ?_; conv => whnf) | (refine WIx.intsN (by omega) ?_; conv => whnf) | (refine WIx.rowsN (by omega) ?_; conv => whnf) | (refine WCall.pure (iT) ?_; conv => whnf)
      refine WB.dec (fun h => ?_) (fun h => ?_) <;> conv => whnf
      · exfalso
        have e3 : (rows tD (a :: s)).length = s.length + 1 := e1
        have h2 : ((rows tD (a :: s)).length : Int) = 0 := h
        omega
      repeat' first | ((with_reducible apply WB.tt); conv => whnf) | ((with_reducible apply WB.ff); conv => whnf) | (refine Rn.seq ?_; conv => whnf) | (refine Rn.reg ?_; conv => whnf) | (refine Rn.drw ?_; conv => whnf) | (refine Rn.blk ?_; conv => whnf) | (refine Rn.skip ?_; conv => whnf) | (refine Rn.ret ?_; conv => whnf) | (refine Rn.exit ?_; conv => whnf) | (refine Rn.cond rfl ?_; conv => whnf) | (refine And.intro (InR.i64 (by omega) (by omega)) ?_; conv => whnf) | (refine And.intro (show _ ≠ (0 : Int) by omega) ?_; conv => whnf) | (refine WIx.intsN (by omega) ?_; conv => whnf) | (refine WIx.rowsN (by omega) ?_; conv => whnf)
      refine ⟨.inr rfl, _, rfl, ?_⟩
      exact .tp (.cons (.pu (pu_tR _)) (.cons (.pu trivial) .nil))
  · have hE : sureE last hs step lv ms = faultR last hs step lv ms := by unfold sureE; rw [if_neg hf]
    have hL2 : sureL last hs step lv ms = [] := by unfold sureL; rw [hE, if_neg hf]
    rw [hE, hL2]
    repeat' first | ((with_reducible apply WB.tt); conv => whnf) | ((with_reducible apply WB.ff); conv => whnf) | (refine Rn.seq ?_; conv => whnf) | (refine Rn.reg ?_; conv => whnf) | (refine Rn.drw ?_; conv => whnf) | (refine Rn.blk ?_; conv => whnf) | (refine Rn.skip ?_; conv => whnf) | (refine Rn.ret ?_; conv => whnf) | (refine Rn.exit ?_; conv => whnf) | (refine Rn.cond rfl ?_; conv => whnf) | (refine And.intro (InR.i64 (by omega) (by omega)) ?_; conv => whnf) | (refine And.intro (show _ ≠ (0 : Int) by omega) ?_; conv => whnf) | (refine WIx.intsN (by omega) ?_; conv => whnf) | (refine WIx.rowsN (by omega) ?_; conv => whnf) | (refine WCall.pure (iF) ?_; conv => whnf)
    refine WB.mk (fun h => ?_) (fun h => ?_) <;> conv => whnf
    · repeat' first | ((with_reducible apply WB.tt); conv => whnf) | ((with_reducible apply WB.ff); conv => whnf) | (refine Rn.seq ?_; conv => whnf) | (refine Rn.reg ?_; conv => whnf) | (refine Rn.drw ?_; conv => whnf) | (refine Rn.blk ?_; conv => whnf) | (refine Rn.skip ?_; conv => whnf) | (refine Rn.ret ?_; conv => whnf) | (refine Rn.exit ?_; conv => whnf) | (refine Rn.cond rfl ?_; conv => whnf) | (refine And.intro (InR.i64 (by omega) (by omega)) ?_; conv => whnf) | (refine And.intro (show _ ≠ (0 : Int) by omega) ?_; conv => whnf) | (refine WIx.intsN (by omega) ?_; conv => whnf) | (refine WIx.rowsN (by omega) ?_; conv => whnf)
      refine ⟨.inr rfl, _, rfl, ?_⟩
      exact .tp (.cons .ns (.cons (.pu trivial) .nil))
    · exact absurd (by simpa using h) hf
theorem c_Empty : PureF Try.prog p80.ix [] (.ag [.i .i64 1099511627776, .i .i64 (-1)]) := by
  refine PureF.run fn79 (by simp) (by simp [PuL]) ?_; conv => whnf
  repeat' first | ((with_reducible apply WB.tt); conv => whnf) | ((with_reducible apply WB.ff); conv => whnf) | (refine Rn.seq ?_; conv => whnf) | (refine Rn.reg ?_; conv => whnf) | (refine Rn.drw ?_; conv => whnf) | (refine Rn.blk ?_; conv => whnf) | (refine Rn.skip ?_; conv => whnf) | (refine Rn.ret ?_; conv => whnf) | (refine Rn.exit ?_; conv => whnf) | (refine Rn.cond rfl ?_; conv => whnf) | (refine And.intro (InR.i64 (by omega) (by omega)) ?_; conv => whnf) | (refine And.intro (show _ ≠ (0 : Int) by omega) ?_; conv => whnf) | (refine WIx.intsN (by omega) ?_; conv => whnf) | (refine WIx.rowsN (by omega) ?_; conv => whnf)
  refine ⟨.inr rfl, _, rfl, ?_⟩
  exact .ag (.cons (.pu trivial) (.cons (.pu trivial) .nil))
theorem c_Wider (lo hi n : Int) : PureF Try.prog p81.ix [.ag [.i .i64 lo, .i .i64 hi], .i .i64 n] (.ag [.i .i64 (min lo n), .i .i64 (max hi n)]) := by
  refine PureF.run fn80 (by simp) (by simp [PuL, Pu]) ?_; conv => whnf
  repeat' first | ((with_reducible apply WB.tt); conv => whnf) | ((with_reducible apply WB.ff); conv => whnf) | (refine Rn.seq ?_; conv => whnf) | (refine Rn.reg ?_; conv => whnf) | (refine Rn.drw ?_; conv => whnf) | (refine Rn.blk ?_; conv => whnf) | (refine Rn.skip ?_; conv => whnf) | (refine Rn.ret ?_; conv => whnf) | (refine Rn.exit ?_; conv => whnf) | (refine Rn.cond rfl ?_; conv => whnf) | (refine And.intro (InR.i64 (by omega) (by omega)) ?_; conv => whnf) | (refine And.intro (show _ ≠ (0 : Int) by omega) ?_; conv => whnf) | (refine WIx.intsN (by omega) ?_; conv => whnf) | (refine WIx.rowsN (by omega) ?_; conv => whnf)
  refine ⟨.inr rfl, _, rfl, ?_⟩
  exact .ag (.cons (.pu trivial) (.cons (.pu trivial) .nil))
end Go.Ev

namespace Go.Ev
open Go.Proofs
set_option maxRecDepth 100000
def widF (r : Int × Int) (n : Int) : Int × Int := (min r.1 n, max r.2 n)
def widR (A : List Int) : Int × Int := A.foldl widF (1099511627776, -1)
end Go.Ev

namespace Go.Ev
open Go.Proofs
theorem mem_truthsR {last : Int} {hs : List Rg} {step : Int} {lv : List Int} {ms : List Mk} (V : ValidT last hs step lv ms) (hm : manyR hs ≤ 2000) {t : List Int} : t ∈ truthsR hs step ms ↔ t.length = hs.length ∧ listedR hs step t = true ∧ fitsR (wantS t) ms = true := by
  unfold truthsR
  rw [List.mem_filter, mem_listsR V.hv hm]
  unfold truthR
  rw [Bool.and_eq_true]
  constructor
  · rintro ⟨h1, _, h3⟩
    have hl := listed_lenZ h1
    exact ⟨hl, h1, by rw [V.fits hl]; exact h3⟩
  · rintro ⟨hl, h1, h3⟩
    rw [V.fits hl] at h3
    exact ⟨h1, h1, h3⟩
theorem mem_truthS {last : Int} {hs : List Rg} {step : Int} {lv : List Int} {ms : List Mk} (V : ValidT last hs step lv ms) (hm : manyR hs ≤ 2000) {x : Nat → Int} : x ∈ truthS hs step ms ↔ ∃ t, t ∈ truthsR hs step ms ∧ wantS t = x := by
  unfold truthS
  rw [List.mem_filter]
  constructor
  · rintro ⟨h1, h2⟩
    obtain ⟨t, k1, k2, k3⟩ := all_exS rfl h1
    refine ⟨t, (mem_truthsR V hm).2 ⟨k1, k2, ?_⟩, k3⟩
    rw [k3]; exact h2
  · rintro ⟨t, h1, rfl⟩
    obtain ⟨k1, k2, k3⟩ := (mem_truthsR V hm).1 h1
    exact ⟨(mem_exS hs step hs.length 0 zeroS _).2 ((fit_listed rfl k1).2 k2), k3⟩
theorem truth_nil {last : Int} {hs : List Rg} {step : Int} {lv : List Int} {ms : List Mk} (V : ValidT last hs step lv ms) (hm : manyR hs ≤ 2000) : truthS hs step ms = [] ↔ truthsR hs step ms = [] := by
  constructor
  · intro h
    cases hT : truthsR hs step ms with
    | nil => rfl
    | cons a s =>
      have : wantS a ∈ truthS hs step ms := (mem_truthS V hm).2 ⟨a, by rw [hT]; simp, rfl⟩
      rw [h] at this
      cases this
  · intro h
    cases hT : truthS hs step ms with
    | nil => rfl
    | cons a s =>
      obtain ⟨t, k1, _⟩ := (mem_truthS V hm (x := a)).1 (by rw [hT]; simp)
      rw [h] at k1
      cases k1
theorem foldl_minS : ∀ (L : List Int) (a : Int), L.foldl min a ≤ a ∧ (∀ x ∈ L, L.foldl min a ≤ x) ∧ (L.foldl min a = a ∨ L.foldl min a ∈ L)
  | [], a => ⟨Int.le_refl _, (fun x h => by cases h), .inl rfl⟩
  | b :: L, a => by
    obtain ⟨h1, h2, h3⟩ := foldl_minS L (min a b)
    have e : (b :: L).foldl min a = L.foldl min (min a b) := rfl
    rw [e]
    refine ⟨by omega, fun x hx => ?_, ?_⟩
    · rcases List.mem_cons.1 hx with rfl | hx
      · omega
      · exact h2 x hx
    · rcases h3 with h3 | h3
      · by_cases hab : a ≤ b
        · exact .inl (by omega)
        · refine .inr (List.mem_cons.2 (.inl ?_))
          omega
      · exact .inr (List.mem_cons.2 (.inr h3))
theorem foldl_maxS : ∀ (L : List Int) (a : Int), a ≤ L.foldl max a ∧ (∀ x ∈ L, x ≤ L.foldl max a) ∧ (L.foldl max a = a ∨ L.foldl max a ∈ L)
  | [], a => ⟨Int.le_refl _, (fun x h => by cases h), .inl rfl⟩
  | b :: L, a => by
    obtain ⟨h1, h2, h3⟩ := foldl_maxS L (max a b)
    have e : (b :: L).foldl max a = L.foldl max (max a b) := rfl
    rw [e]
    refine ⟨by omega, fun x hx => ?_, ?_⟩
    · rcases List.mem_cons.1 hx with rfl | hx
      · omega
      · exact h2 x hx
    · rcases h3 with h3 | h3
      · by_cases hab : b ≤ a
        · exact .inl (by omega)
        · refine .inr (List.mem_cons.2 (.inl ?_))
          omega
      · exact .inr (List.mem_cons.2 (.inr h3))
theorem widF_fold : ∀ (B : List Int) (a b : Int), B.foldl widF (a, b) = (B.foldl min a, B.foldl max b)
  | [], _, _ => rfl
  | x :: B, a, b => widF_fold B (min a x) (max b x)
theorem maxN_all {a : Int} {s : List Int} : maxN (a :: s) ((a :: s).length - 1) = (a :: s).foldl max a := by
  unfold maxN
  show (s.take s.length).foldl max a = s.foldl max (max a a)
  rw [List.take_length, Int.max_self]
theorem bd_wid {A B : List Int} (h0 : 0 < A.length) (hs : ∀ x, x ∈ A ↔ x ∈ B) (hb : ∀ x ∈ B, 0 ≤ x ∧ x ≤ 1099511627776) : bdR A = widR B := by
  obtain ⟨a, s, rfl⟩ : ∃ a s, A = a :: s := by
    cases A with
    | nil => cases h0
    | cons a s => exact ⟨a, s, rfl⟩
  have ha : a ∈ B := (hs a).1 (by simp)
  have hba := hb a ha
  unfold bdR widR
  rw [widF_fold, maxN_all]
  obtain ⟨p1, p2, p3⟩ := foldl_minS (a :: s) a
  obtain ⟨q1, q2, q3⟩ := foldl_minS B 1099511627776
  obtain ⟨u1, u2, u3⟩ := foldl_maxS (a :: s) a
  obtain ⟨v1, v2, v3⟩ := foldl_maxS B (-1)
  have e0 : (a :: s).getD 0 0 = a := rfl
  have em : minL ((a :: s).getD 0 0) (a :: s) = (a :: s).foldl min a := rfl
  rw [em]
  have m1 : (a :: s).foldl min a ∈ B := by
    rcases p3 with h | h
    · rw [h]; exact ha
    · exact (hs _).1 h
  have m2 : (a :: s).foldl max a ∈ B := by
    rcases u3 with h | h
    · rw [h]; exact ha
    · exact (hs _).1 h
  have n1 : ∃ x ∈ B, B.foldl min 1099511627776 = x := by
    rcases q3 with h | h
    · exact ⟨a, ha, by have := q2 a ha; omega⟩
    · exact ⟨_, h, rfl⟩
  have n2 : ∃ x ∈ B, B.foldl max (-1) = x := by
    rcases v3 with h | h
    · exact ⟨a, ha, by have := v2 a ha; omega⟩
    · exact ⟨_, h, rfl⟩
  obtain ⟨x1, k1, k2⟩ := n1
  obtain ⟨x2, k3, k4⟩ := n2
  have r1 := p2 x1 ((hs _).2 k1)
  have r2 := q2 _ m1
  have r3 := u2 x2 ((hs _).2 k3)
  have r4 := v2 _ m2
  refine Prod.ext ?_ ?_
  · show (a :: s).foldl min a = B.foldl min 1099511627776
    omega
  · show (a :: s).foldl max a = B.foldl max (-1)
    omega
end Go.Ev

namespace Go.Ev
open Go.Proofs
set_option maxRecDepth 100000
theorem thin_few {last : Int} {hs : List Rg} {step : Int} {lv : List Int} {ms : List Mk} (hT : thinR last hs step lv ms = true) (hf : faultR last hs step lv ms = 0) : (truthS hs step ms).length ≤ 150 := by
  obtain ⟨V, hm, _⟩ := fault_zero hf
  unfold thinR at hT
  rw [Bool.and_eq_true, Bool.or_eq_true, decide_eq_true_iff, decide_eq_true_iff, decide_eq_true_iff] at hT
  have h1 := exS_len hs step hs.length 0 zeroS (by omega)
  rw [List.drop_zero] at h1
  have h2 := szs_eq V.hv
  have h3 := manyR_eq V.hv
  have h4 : (truthS hs step ms).length ≤ (exS hs step hs.length 0 zeroS).length := List.length_filter_le _ _
  omega
def wantE (last : Int) (hs : List Rg) (step : Int) (lv : List Int) (ms : List Mk) (b : Bool) : Int :=
  if faultR last hs step lv ms = 0 ∧ b = false then 2 else sureE last hs step lv ms
theorem want_start (last : Int) (hs : List Rg) (step : Int) (lv : List Int) (ms : List Mk) (b : Bool) : wantE last hs step lv ms b = startE last hs step lv ms b := by
  unfold wantE startE sureE
  by_cases hf : faultR last hs step lv ms = 0
  · obtain ⟨V, hm, _⟩ := fault_zero hf
    rw [if_pos hf, if_pos hf]
    cases b with
    | false => rw [if_pos ⟨hf, rfl⟩]; rfl
    | true =>
      rw [if_neg (by simp), cond_true]
      by_cases hT : truthS hs step ms = []
      · rw [if_pos hT, if_pos ((truth_nil V hm).1 hT)]
      · rw [if_neg hT, if_neg fun h => hT ((truth_nil V hm).2 h)]
  · rw [if_neg hf, if_neg hf, if_neg fun h => hf h.1]
theorem wid_bd {B : List Int} {n : Int} (h0 : 0 < B.length) (hb : ∀ x ∈ B, 0 ≤ x ∧ x ≤ n) (hn : n ≤ 1099511627776) : (0 ≤ (widR B).1 ∧ (widR B).1 ≤ n) ∧ (0 ≤ (widR B).2 ∧ (widR B).2 ≤ n) := by
  obtain ⟨b, s, rfl⟩ : ∃ a s, B = a :: s := by
    cases B with
    | nil => cases h0
    | cons a s => exact ⟨a, s, rfl⟩
  have hb0 := hb b (by simp)
  unfold widR
  rw [widF_fold]
  obtain ⟨q1, q2, q3⟩ := foldl_minS (b :: s) 1099511627776
  obtain ⟨v1, v2, v3⟩ := foldl_maxS (b :: s) (-1)
  have q4 := q2 b (by simp)
  have v4 := v2 b (by simp)
  refine ⟨?_, ?_⟩
  · show 0 ≤ (b :: s).foldl min 1099511627776 ∧ (b :: s).foldl min 1099511627776 ≤ n
    rcases q3 with h | h
    · omega
    · have := hb _ h; omega
  · show 0 ≤ (b :: s).foldl max (-1) ∧ (b :: s).foldl max (-1) ≤ n
    rcases v3 with h | h
    · omega
    · have := hb _ h; omega
end Go.Ev
