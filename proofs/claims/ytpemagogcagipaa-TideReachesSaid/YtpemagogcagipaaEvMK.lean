import Derived.Test.YtpemagogcagipaaEvMJ
set_option linter.all false
namespace Go.Ev
open Go.Proofs
set_option maxRecDepth 100000
/-! ### the reference: sure, Soonest, Empty, Wider, Reach -/
def sureE (last : Int) (hs : List Rg) (step : Int) (lv : List Int) (ms : List Mk) : Int :=
  if faultR last hs step lv ms = 0 then (if truthsR hs step ms = [] then 11 else 0) else faultR last hs step lv ms
def sureL (last : Int) (hs : List Rg) (step : Int) (lv : List Int) (ms : List Mk) : List (List Int) := if sureE last hs step lv ms = 0 then truthsR hs step ms else []
theorem c_sure (last : Int) (hs : List Rg) (step : Int) (lv : List Int) (ms : List Mk) : PureF Try.prog p34.ix [.ag [.i .i64 last, .lst 2 (rows rgD hs), .i .i64 step, .lst 1 (ints lv), .lst 4 (rows mkD ms)]] (.tp [.lst 1 (rows tD (sureL last hs step lv ms)), .i .i64 (sureE last hs step lv ms)]) := by
  have iF := c_fault last hs step lv ms
  have e1 := rows_length tD (truthsR hs step ms)
  refine PureF.run fn33 (by simp) (by simp [PuL, PuE, Pu, pu_ints, pu_rg, pu_mk]) ?_; conv => whnf
  by_cases hf : faultR last hs step lv ms = 0
  · obtain ⟨V, _, _⟩ := fault_zero hf
    have hE : sureE last hs step lv ms = if truthsR hs step ms = [] then 11 else 0 := by unfold sureE; rw [if_pos hf]
    have iT := c_Truths last hs step lv ms V.hv (by have := V.h10; omega) (fun m hm => by have := V.vt m hm; omega) (by have := V.ms5; omega)
    rw [hf] at iF
    cases hT : truthsR hs step ms with
    | nil =>
      have hE2 : sureE last hs step lv ms = 11 := by rw [hE, hT]; rfl
      have hL2 : sureL last hs step lv ms = [] := by unfold sureL; rw [hE2]; rfl
      rw [hE2, hL2]
      rw [hT] at iT
      repeat' first | ((with_reducible apply WB.tt); conv => whnf) | ((with_reducible apply WB.ff); conv => whnf) | (refine Rn.seq ?_; conv => whnf) | (refine Rn.reg ?_; conv => whnf) | (refine Rn.drw ?_; conv => whnf) | (refine Rn.blk ?_; conv => whnf) | (refine Rn.skip ?_; conv => whnf) | (refine Rn.ret ?_; conv => whnf) | (refine Rn.exit ?_; conv => whnf) | (refine Rn.cond rfl ?_; conv => whnf) | (refine And.intro (InR.i64 (by omega) (by omega)) ?_; conv => whnf) | (refine And.intro (show _ ≠ (0 : Int) by omega) ?_; conv => whnf) | (refine WIx.intsN (by omega) ?_; conv => whnf) | (refine WIx.rowsN (by omega) ?_; conv => whnf) | (refine WCall.pure (iF) ?_; conv => whnf)
      refine WB.ff ?_; conv => whnf
      repeat' first | ((with_reducible apply WB.tt); conv => whnf) | ((with_reducible apply WB.ff); conv => whnf) | (refine Rn.seq ?_; conv => whnf) | (refine Rn.reg ?_; conv => whnf) | (refine Rn.drw ?_; conv => whnf) | (refine Rn.blk ?_; conv => whnf) | (refine Rn.skip ?_; conv => whnf) | (refine Rn.ret ?_; conv => whnf) | (refine Rn.exit ?_; conv => whnf) | (refine Rn.cond rfl ?_; conv => whnf) | (refine And.intro (InR.i64 (by omega) (by omega)) ?_; conv => whnf) | (refine And.intro (show _ ≠ (0 : Int) by omega) ?_; conv => whnf) | (refine WIx.intsN (by omega) ?_; conv => whnf) | (refine WIx.rowsN (by omega) ?_; conv => whnf) | (refine WCall.pure (iT) ?_; conv => whnf)
      refine WB.tt ?_; conv => whnf
      repeat' first | ((with_reducible apply WB.tt); conv => whnf) | ((with_reducible apply WB.ff); conv => whnf) | (refine Rn.seq ?_; conv => whnf) | (refine Rn.reg ?_; conv => whnf) | (refine Rn.drw ?_; conv => whnf) | (refine Rn.blk ?_; conv => whnf) | (refine Rn.skip ?_; conv => whnf) | (refine Rn.ret ?_; conv => whnf) | (refine Rn.exit ?_; conv => whnf) | (refine Rn.cond rfl ?_; conv => whnf) | (refine And.intro (InR.i64 (by omega) (by omega)) ?_; conv => whnf) | (refine And.intro (show _ ≠ (0 : Int) by omega) ?_; conv => whnf) | (refine WIx.intsN (by omega) ?_; conv => whnf) | (refine WIx.rowsN (by omega) ?_; conv => whnf)
      refine ⟨.inr rfl, _, rfl, ?_⟩
      exact .tp (.cons .ns (.cons (.pu trivial) .nil))
    | cons a s =>
      have hE2 : sureE last hs step lv ms = 0 := by rw [hE, hT]; rfl
      have hL2 : sureL last hs step lv ms = a :: s := by unfold sureL; rw [hE2, if_pos rfl, hT]
      rw [hE2, hL2]
      rw [hT] at iT e1
      repeat' first | ((with_reducible apply WB.tt); conv => whnf) | ((with_reducible apply WB.ff); conv => whnf) | (refine Rn.seq ?_; conv => whnf) | (refine Rn.reg ?_; conv => whnf) | (refine Rn.drw ?_; conv => whnf) | (refine Rn.blk ?_; conv => whnf) | (refine Rn.skip ?_; conv => whnf) | (refine Rn.ret ?_; conv => whnf) | (refine Rn.exit ?_; conv => whnf) | (refine Rn.cond rfl ?_; conv => whnf) | (refine And.intro (InR.i64 (by omega) (by omega)) ?_; conv => whnf) | (refine And.intro (show _ ≠ (0 : Int) by omega) ?_; conv => whnf) | (refine WIx.intsN (by omega) ?_; conv => whnf) | (refine WIx.rowsN (by omega) ?_; conv => whnf) | (refine WCall.pure (iF) ?_; conv => whnf)
      refine WB.ff ?_; conv => whnf
      repeat' first | ((with_reducible apply WB.tt); conv => whnf) | ((with_reducible apply WB.ff); conv => whnf) | (refine Rn.seq ?_; conv => whnf) | (refine Rn.reg ?_; conv => whnf) | (refine Rn.drw ?_; conv => whnf) | (refine Rn.blk ?_; conv => whnf) | (refine Rn.skip ?_; conv => whnf) | (refine Rn.ret ?_; conv => whnf) | (refine Rn.exit ?_; conv => whnf) | (refine Rn.cond rfl ?_; conv => whnf) | (refine And.intro (InR.i64 (by omega) (by omega)) ?_; conv => whnf) | (refine And.intro (show _ ≠ (0 : Int) by omega) ?_; conv => whnf) | (refine WIx.intsN (by omega) ?_; conv => whnf) | (refine WIx.rowsN (by omega) ?_; conv => whnf) | (refine WCall.pure (iT) ?_; conv => whnf)
      refine WB.dec (fun h => ?_) (fun h => ?_) <;> conv => whnf
      · exfalso
        have e3 : (rows tD (a :: s)).length = s.length + 1 := e1
        have h2 : ((rows tD (a :: s)).length : Int) = 0 := h
        omega
      repeat' first | ((with_reducible apply WB.tt); conv => whnf) | ((with_reducible apply WB.ff); conv => whnf) | (refine Rn.seq ?_; conv => whnf) | (refine Rn.reg ?_; conv => whnf) | (refine Rn.drw ?_; conv => whnf) | (refine Rn.blk ?_; conv => whnf) | (refine Rn.skip ?_; conv => whnf) | (refine Rn.ret ?_; conv => whnf) | (refine Rn.exit ?_; conv => whnf) | (refine Rn.cond rfl ?_; conv => whnf) | (refine And.intro (InR.i64 (by omega) (by omega)) ?_; conv => whnf) | (refine And.intro (show _ ≠ (0 : Int) by omega) ?_; conv => whnf) | (refine WIx.intsN (by omega) ?_; conv => whnf) | (refine WIx.rowsN (by omega) ?_; conv => whnf)
      refine ⟨.inr rfl, _, rfl, ?_⟩
      exact .tp (.cons (.pu (pu_tR _)) (.cons (.pu trivial) .nil))
  · have hE : sureE last hs step lv ms = faultR last hs step lv ms := by unfold sureE; rw [if_neg hf]
    have hL2 : sureL last hs step lv ms = [] := by unfold sureL; rw [hE, if_neg hf]
    rw [hE, hL2]
    repeat' first | ((with_reducible apply WB.tt); conv => whnf) | ((with_reducible apply WB.ff); conv => whnf) | (refine Rn.seq ?_; conv => whnf) | (refine Rn.reg ?_; conv => whnf) | (refine Rn.drw ?_; conv => whnf) | (refine Rn.blk ?_; conv => whnf) | (refine Rn.skip ?_; conv => whnf) | (refine Rn.ret ?_; conv => whnf) | (refine Rn.exit ?_; conv => whnf) | (refine Rn.cond rfl ?_; conv => whnf) | (refine And.intro (InR.i64 (by omega) (by omega)) ?_; conv => whnf) | (refine And.intro (show _ ≠ (0 : Int) by omega) ?_; conv => whnf) | (refine WIx.intsN (by omega) ?_; conv => whnf) | (refine WIx.rowsN (by omega) ?_; conv => whnf) | (refine WCall.pure (iF) ?_; conv => whnf)
    refine WB.mk (fun h => ?_) (fun h => ?_) <;> conv => whnf
    · repeat' first | ((with_reducible apply WB.tt); conv => whnf) | ((with_reducible apply WB.ff); conv => whnf) | (refine Rn.seq ?_; conv => whnf) | (refine Rn.reg ?_; conv => whnf) | (refine Rn.drw ?_; conv => whnf) | (refine Rn.blk ?_; conv => whnf) | (refine Rn.skip ?_; conv => whnf) | (refine Rn.ret ?_; conv => whnf) | (refine Rn.exit ?_; conv => whnf) | (refine Rn.cond rfl ?_; conv => whnf) | (refine And.intro (InR.i64 (by omega) (by omega)) ?_; conv => whnf) | (refine And.intro (show _ ≠ (0 : Int) by omega) ?_; conv => whnf) | (refine WIx.intsN (by omega) ?_; conv => whnf) | (refine WIx.rowsN (by omega) ?_; conv => whnf)
      refine ⟨.inr rfl, _, rfl, ?_⟩
      exact .tp (.cons .ns (.cons (.pu trivial) .nil))
    · exact absurd (by simpa using h) hf
def soonR (t : List Int) (level : Int) : Int := match wetL t level with
  | [] => (t.length : Int)
  | a :: _ => a
theorem wetL_len (t : List Int) (level : Int) : (wetL t level).length ≤ t.length := by
  have h := List.length_filter_le (aboveB t level) (idxL t.length)
  rw [idxL_length] at h
  exact h
theorem c_Soonest (t : List Int) (level : Int) (hl : t.length ≤ 1000) : PureF Try.prog p56.ix [.lst 1 (ints t), .i .i64 level] (.i .i64 (soonR t level)) := by
  have e1 := ints_length t
  have e2 := ints_length (wetL t level)
  have iW := c_WetL t level hl
  unfold soonR
  refine PureF.run fn55 (by simp) (by simp [PuL, PuE, Pu, pu_ints]) ?_; conv => whnf
  cases hW : wetL t level with
  | nil =>
    rw [hW] at iW
    repeat' first | ((with_reducible apply WB.tt); conv => whnf) | ((with_reducible apply WB.ff); conv => whnf) | (refine Rn.seq ?_; conv => whnf) | (refine Rn.reg ?_; conv => whnf) | (refine Rn.drw ?_; conv => whnf) | (refine Rn.blk ?_; conv => whnf) | (refine Rn.skip ?_; conv => whnf) | (refine Rn.ret ?_; conv => whnf) | (refine Rn.exit ?_; conv => whnf) | (refine Rn.cond rfl ?_; conv => whnf) | (refine And.intro (InR.i64 (by omega) (by omega)) ?_; conv => whnf) | (refine And.intro (show _ ≠ (0 : Int) by omega) ?_; conv => whnf) | (refine WIx.intsN (by omega) ?_; conv => whnf) | (refine WIx.rowsN (by omega) ?_; conv => whnf) | (refine WCall.pure (iW) ?_; conv => whnf)
    refine WB.tt ?_; conv => whnf
    repeat' first | ((with_reducible apply WB.tt); conv => whnf) | ((with_reducible apply WB.ff); conv => whnf) | (refine Rn.seq ?_; conv => whnf) | (refine Rn.reg ?_; conv => whnf) | (refine Rn.drw ?_; conv => whnf) | (refine Rn.blk ?_; conv => whnf) | (refine Rn.skip ?_; conv => whnf) | (refine Rn.ret ?_; conv => whnf) | (refine Rn.exit ?_; conv => whnf) | (refine Rn.cond rfl ?_; conv => whnf) | (refine And.intro (InR.i64 (by omega) (by omega)) ?_; conv => whnf) | (refine And.intro (show _ ≠ (0 : Int) by omega) ?_; conv => whnf) | (refine WIx.intsN (by omega) ?_; conv => whnf) | (refine WIx.rowsN (by omega) ?_; conv => whnf)
    exact Fin.i rfl (by rw [e1])
  | cons a s =>
    rw [hW] at iW e2
    have h0 : 0 < (a :: s).length := Nat.succ_pos _
    clear hW
    repeat' first | ((with_reducible apply WB.tt); conv => whnf) | ((with_reducible apply WB.ff); conv => whnf) | (refine Rn.seq ?_; conv => whnf) | (refine Rn.reg ?_; conv => whnf) | (refine Rn.drw ?_; conv => whnf) | (refine Rn.blk ?_; conv => whnf) | (refine Rn.skip ?_; conv => whnf) | (refine Rn.ret ?_; conv => whnf) | (refine Rn.exit ?_; conv => whnf) | (refine Rn.cond rfl ?_; conv => whnf) | (refine And.intro (InR.i64 (by omega) (by omega)) ?_; conv => whnf) | (refine And.intro (show _ ≠ (0 : Int) by omega) ?_; conv => whnf) | (refine WIx.intsN (by omega) ?_; conv => whnf) | (refine WIx.rowsN (by omega) ?_; conv => whnf) | (refine WCall.pure (iW) ?_; conv => whnf)
    refine WB.dec (fun h => ?_) (fun h => ?_) <;> conv => whnf
    · exfalso
      have h2 : ((ints (a :: s)).length : Int) = 0 := h
      omega
    repeat' first | ((with_reducible apply WB.tt); conv => whnf) | ((with_reducible apply WB.ff); conv => whnf) | (refine Rn.seq ?_; conv => whnf) | (refine Rn.reg ?_; conv => whnf) | (refine Rn.drw ?_; conv => whnf) | (refine Rn.blk ?_; conv => whnf) | (refine Rn.skip ?_; conv => whnf) | (refine Rn.ret ?_; conv => whnf) | (refine Rn.exit ?_; conv => whnf) | (refine Rn.cond rfl ?_; conv => whnf) | (refine And.intro (InR.i64 (by omega) (by omega)) ?_; conv => whnf) | (refine And.intro (show _ ≠ (0 : Int) by omega) ?_; conv => whnf) | (refine WIx.intsN (by omega) ?_; conv => whnf) | (refine WIx.rowsN (by omega) ?_; conv => whnf)
    exact Fin.i rfl rfl
theorem c_Empty : PureF Try.prog p80.ix [] (.ag [.i .i64 1099511627776, .i .i64 (-1)]) := by
  refine PureF.run fn79 (by simp) (by simp [PuL]) ?_; conv => whnf
  repeat' first | ((with_reducible apply WB.tt); conv => whnf) | ((with_reducible apply WB.ff); conv => whnf) | (refine Rn.seq ?_; conv => whnf) | (refine Rn.reg ?_; conv => whnf) | (refine Rn.drw ?_; conv => whnf) | (refine Rn.blk ?_; conv => whnf) | (refine Rn.skip ?_; conv => whnf) | (refine Rn.ret ?_; conv => whnf) | (refine Rn.exit ?_; conv => whnf) | (refine Rn.cond rfl ?_; conv => whnf) | (refine And.intro (InR.i64 (by omega) (by omega)) ?_; conv => whnf) | (refine And.intro (show _ ≠ (0 : Int) by omega) ?_; conv => whnf) | (refine WIx.intsN (by omega) ?_; conv => whnf) | (refine WIx.rowsN (by omega) ?_; conv => whnf)
  refine ⟨.inr rfl, _, rfl, ?_⟩
  exact .ag (.cons (.pu trivial) (.cons (.pu trivial) .nil))
theorem c_Wider (lo hi n : Int) : PureF Try.prog p81.ix [.ag [.i .i64 lo, .i .i64 hi], .i .i64 n] (.ag [.i .i64 (min lo n), .i .i64 (max hi n)]) := by
  refine PureF.run fn80 (by simp) (by simp [PuL, Pu]) ?_; conv => whnf
  repeat' first | ((with_reducible apply WB.tt); conv => whnf) | ((with_reducible apply WB.ff); conv => whnf) | (refine Rn.seq ?_; conv => whnf) | (refine Rn.reg ?_; conv => whnf) | (refine Rn.drw ?_; conv => whnf) | (refine Rn.blk ?_; conv => whnf) | (refine Rn.skip ?_; conv => whnf) | (refine Rn.ret ?_; conv => whnf) | (refine Rn.exit ?_; conv => whnf) | (refine Rn.cond rfl ?_; conv => whnf) | (refine And.intro (InR.i64 (by omega) (by omega)) ?_; conv => whnf) | (refine And.intro (show _ ≠ (0 : Int) by omega) ?_; conv => whnf) | (refine WIx.intsN (by omega) ?_; conv => whnf) | (refine WIx.rowsN (by omega) ?_; conv => whnf)
  refine ⟨.inr rfl, _, rfl, ?_⟩
  exact .ag (.cons (.pu trivial) (.cons (.pu trivial) .nil))
end Go.Ev

namespace Go.Ev
open Go.Proofs
set_option maxRecDepth 100000
def widF (r : Int × Int) (n : Int) : Int × Int := (min r.1 n, max r.2 n)
def widR (A : List Int) : Int × Int := A.foldl widF (1099511627776, -1)
theorem c_ReachRef (L : List (List Int)) (level : Int) (hl : L.length ≤ 3000) (ht : ∀ t ∈ L, t.length ≤ 1000) : PureF Try.prog p40.ix [.lst 1 (rows tD L), .i .i64 level] (.ag [.i .i64 (widR (L.map fun t => soonR t level)).1, .i .i64 (widR (L.map fun t => soonR t level)).2]) := by
  have e1 := rows_length tD L
  have hA : (L.map fun t => soonR t level).length = L.length := List.length_map _
  have hAt : ∀ j, j < L.length → (L.map fun t => soonR t level).getD j 0 = soonR (L.getD j default) level := fun j h => by simp [List.getD, h]
  have hS : ∀ j, j < L.length → _ := fun j h => c_Soonest (L.getD j default) level (ht _ (getD_mem h))
  generalize (L.map fun t => soonR t level) = A at *
  refine PureF.run fn39 (by simp) (by simp [PuL, PuE, Pu, pu_tR]) ?_; conv => whnf
  repeat' first | ((with_reducible apply WB.tt); conv => whnf) | ((with_reducible apply WB.ff); conv => whnf) | (refine Rn.seq ?_; conv => whnf) | (refine Rn.reg ?_; conv => whnf) | (refine Rn.drw ?_; conv => whnf) | (refine Rn.blk ?_; conv => whnf) | (refine Rn.skip ?_; conv => whnf) | (refine Rn.ret ?_; conv => whnf) | (refine Rn.exit ?_; conv => whnf) | (refine Rn.cond rfl ?_; conv => whnf) | (refine And.intro (InR.i64 (by omega) (by omega)) ?_; conv => whnf) | (refine And.intro (show _ ≠ (0 : Int) by omega) ?_; conv => whnf) | (refine WIx.intsN (by omega) ?_; conv => whnf) | (refine WIx.rowsN (by omega) ?_; conv => whnf) | (refine WCall.pure (c_Empty) ?_; conv => whnf)
  refine Rn.loop (fun j : Nat => ⟨(.n (.n .e (some (.i .i64 level)) (.n .e (some (.pt (.o .h) 0 0)) .e)) (some (.lst 1 (rows tD L))) (.n (.n .e (some (.pt .h 0 0)) .e) none (.n .e (some (.i .i64 (j : Int))) .e))), (.n (.n .e (some (.cells false [.o (.i .i64 (widR (A.take j)).1) 0, .o (.i .i64 (widR (A.take j)).2) 0] 1)) .e) (some (rg0C)) .e), .i .h, none⟩) (fun j => j ≤ L.length) (fun j => L.length - j) 0 ?_ ?_ ?_
  · (first | (refine X.le.mk ?_ ?_ (Nat.le_refl _) rfl rfl) | skip) <;> (repeat' first | exact T.le_e _ | refine T.le_some ?_ ?_ ?_ | refine T.le_none ?_ ?_ | rfl)
  · omega
  intro j hj
  have hj : j ≤ L.length := hj
  conv => whnf
  repeat' first | ((with_reducible apply WB.tt); conv => whnf) | ((with_reducible apply WB.ff); conv => whnf) | (refine Rn.seq ?_; conv => whnf) | (refine Rn.reg ?_; conv => whnf) | (refine Rn.drw ?_; conv => whnf) | (refine Rn.blk ?_; conv => whnf) | (refine Rn.skip ?_; conv => whnf) | (refine Rn.ret ?_; conv => whnf) | (refine Rn.exit ?_; conv => whnf) | (refine Rn.cond rfl ?_; conv => whnf) | (refine And.intro (InR.i64 (by omega) (by omega)) ?_; conv => whnf) | (refine And.intro (show _ ≠ (0 : Int) by omega) ?_; conv => whnf) | (refine WIx.intsN (by omega) ?_; conv => whnf) | (refine WIx.rowsN (by omega) ?_; conv => whnf)
  refine WB.dec (fun h => ?_) (fun h => ?_) <;> conv => whnf
  · have hlt : j < L.length := by omega
    have hat := hAt j hlt
    have cS := hS j hlt
    have hn : widR (A.take (j + 1)) = widF (widR (A.take j)) (A.getD j 0) := foldl_take_succ widF _ (by omega)
    generalize widR (A.take j) = r at *
    have cW := c_Wider r.1 r.2 (soonR (L.getD j default) level)
    repeat' first | ((with_reducible apply WB.tt); conv => whnf) | ((with_reducible apply WB.ff); conv => whnf) | (refine Rn.seq ?_; conv => whnf) | (refine Rn.reg ?_; conv => whnf) | (refine Rn.drw ?_; conv => whnf) | (refine Rn.blk ?_; conv => whnf) | (refine Rn.skip ?_; conv => whnf) | (refine Rn.ret ?_; conv => whnf) | (refine Rn.exit ?_; conv => whnf) | (refine Rn.cond rfl ?_; conv => whnf) | (refine And.intro (InR.i64 (by omega) (by omega)) ?_; conv => whnf) | (refine And.intro (show _ ≠ (0 : Int) by omega) ?_; conv => whnf) | (refine WIx.intsN (by omega) ?_; conv => whnf) | (refine WIx.rowsN (by omega) ?_; conv => whnf) | (refine WCall.pure (cS) ?_; conv => whnf) | (refine WCall.pure (cW) ?_; conv => whnf)
    refine Again.to (j + 1) (by omega) (by omega) (Nat.le_refl _) ?_
    refine Shr.of ?_ ?_ rfl rfl
    · show Rel _ _ ((.n (.n .e (some (.i .i64 level)) (.n .e (some (.pt (.o .h) 0 0)) .e)) (some (.lst 1 (rows tD L))) (.n (.n .e (some (.pt .h 0 0)) .e) none (.n .e (some (.i .i64 ((j + 1 : Nat) : Int))) .e))) : T D) _
      (repeat' first | exact Rel.e | refine Rel.some ?_ ?_ ?_ | refine Rel.none ?_ ?_)
      all_goals show Fz _ _ _ _
      all_goals first | exact .pu trivial | exact .pu (pu_tR _) | exact .kpt (show _ < 3 by simp [Pos.nat])
    · show Rel _ _ ((.n (.n .e (some (.cells false [.o (.i .i64 (widR (A.take (j + 1))).1) 0, .o (.i .i64 (widR (A.take (j + 1))).2) 0] 1)) .e) (some (rg0C)) .e) : T C) _
      rw [hn, hat]
      (repeat' first | exact Rel.e | refine Rel.some ?_ ?_ ?_ | refine Rel.none ?_ ?_)
      · exact RO'.of (show _ < 3 by simp [Pos.nat]) (ShC.same (ShC.cn (.pu trivial) (ShC.cn (.pu trivial) ShC.nl)))
      · exact RO'.of (show _ < 3 by simp [Pos.nat]) rg0C_sh
  · have he : A.take j = A := List.take_of_length_le (by omega)
    rw [he]
    repeat' first | ((with_reducible apply WB.tt); conv => whnf) | ((with_reducible apply WB.ff); conv => whnf) | (refine Rn.seq ?_; conv => whnf) | (refine Rn.reg ?_; conv => whnf) | (refine Rn.drw ?_; conv => whnf) | (refine Rn.blk ?_; conv => whnf) | (refine Rn.skip ?_; conv => whnf) | (refine Rn.ret ?_; conv => whnf) | (refine Rn.exit ?_; conv => whnf) | (refine Rn.cond rfl ?_; conv => whnf) | (refine And.intro (InR.i64 (by omega) (by omega)) ?_; conv => whnf) | (refine And.intro (show _ ≠ (0 : Int) by omega) ?_; conv => whnf) | (refine WIx.intsN (by omega) ?_; conv => whnf) | (refine WIx.rowsN (by omega) ?_; conv => whnf)
    refine ⟨.inr rfl, _, rfl, ?_⟩
    exact .ag (.cons (.pu trivial) (.cons (.pu trivial) .nil))
end Go.Ev

namespace Go.Ev
open Go.Proofs
/-! ### the program's truths and the reference's -/
theorem mem_truthsR {last : Int} {hs : List Rg} {step : Int} {lv : List Int} {ms : List Mk} (V : ValidT last hs step lv ms) (hm : manyR hs ≤ 2000) {t : List Int} : t ∈ truthsR hs step ms ↔ t.length = hs.length ∧ listedR hs step t = true ∧ fitsR (wantS t) ms = true := by
  unfold truthsR
  rw [List.mem_filter, mem_listsR V.hv hm]
  unfold truthR
  rw [Bool.and_eq_true]
  constructor
  · rintro ⟨h1, _, h3⟩
    have hl := listed_lenZ h1
    exact ⟨hl, h1, by rw [V.fits hl]; exact h3⟩
  · rintro ⟨hl, h1, h3⟩
    rw [V.fits hl] at h3
    exact ⟨h1, h1, h3⟩
theorem mem_truthS {last : Int} {hs : List Rg} {step : Int} {lv : List Int} {ms : List Mk} (V : ValidT last hs step lv ms) (hm : manyR hs ≤ 2000) {x : Nat → Int} : x ∈ truthS hs step ms ↔ ∃ t, t ∈ truthsR hs step ms ∧ wantS t = x := by
  unfold truthS
  rw [List.mem_filter]
  constructor
  · rintro ⟨h1, h2⟩
    obtain ⟨t, k1, k2, k3⟩ := all_exS rfl h1
    refine ⟨t, (mem_truthsR V hm).2 ⟨k1, k2, ?_⟩, k3⟩
    rw [k3]; exact h2
  · rintro ⟨t, h1, rfl⟩
    obtain ⟨k1, k2, k3⟩ := (mem_truthsR V hm).1 h1
    exact ⟨(mem_exS hs step hs.length 0 zeroS _).2 ((fit_listed rfl k1).2 k2), k3⟩
theorem truth_nil {last : Int} {hs : List Rg} {step : Int} {lv : List Int} {ms : List Mk} (V : ValidT last hs step lv ms) (hm : manyR hs ≤ 2000) : truthS hs step ms = [] ↔ truthsR hs step ms = [] := by
  constructor
  · intro h
    cases hT : truthsR hs step ms with
    | nil => rfl
    | cons a s =>
      have : wantS a ∈ truthS hs step ms := (mem_truthS V hm).2 ⟨a, by rw [hT]; simp, rfl⟩
      rw [h] at this
      cases this
  · intro h
    cases hT : truthS hs step ms with
    | nil => rfl
    | cons a s =>
      obtain ⟨t, k1, _⟩ := (mem_truthS V hm (x := a)).1 (by rw [hT]; simp)
      rw [h] at k1
      cases k1
/-! ### smallest and greatest -/
theorem foldl_minS : ∀ (L : List Int) (a : Int), L.foldl min a ≤ a ∧ (∀ x ∈ L, L.foldl min a ≤ x) ∧ (L.foldl min a = a ∨ L.foldl min a ∈ L)
  | [], a => ⟨Int.le_refl _, (fun x h => by cases h), .inl rfl⟩
  | b :: L, a => by
    obtain ⟨h1, h2, h3⟩ := foldl_minS L (min a b)
    have e : (b :: L).foldl min a = L.foldl min (min a b) := rfl
    rw [e]
    refine ⟨by omega, fun x hx => ?_, ?_⟩
    · rcases List.mem_cons.1 hx with rfl | hx
      · omega
      · exact h2 x hx
    · rcases h3 with h3 | h3
      · by_cases hab : a ≤ b
        · exact .inl (by omega)
        · refine .inr (List.mem_cons.2 (.inl ?_))
          omega
      · exact .inr (List.mem_cons.2 (.inr h3))
theorem foldl_maxS : ∀ (L : List Int) (a : Int), a ≤ L.foldl max a ∧ (∀ x ∈ L, x ≤ L.foldl max a) ∧ (L.foldl max a = a ∨ L.foldl max a ∈ L)
  | [], a => ⟨Int.le_refl _, (fun x h => by cases h), .inl rfl⟩
  | b :: L, a => by
    obtain ⟨h1, h2, h3⟩ := foldl_maxS L (max a b)
    have e : (b :: L).foldl max a = L.foldl max (max a b) := rfl
    rw [e]
    refine ⟨by omega, fun x hx => ?_, ?_⟩
    · rcases List.mem_cons.1 hx with rfl | hx
      · omega
      · exact h2 x hx
    · rcases h3 with h3 | h3
      · by_cases hab : b ≤ a
        · exact .inl (by omega)
        · refine .inr (List.mem_cons.2 (.inl ?_))
          omega
      · exact .inr (List.mem_cons.2 (.inr h3))
theorem widF_fold : ∀ (B : List Int) (a b : Int), B.foldl widF (a, b) = (B.foldl min a, B.foldl max b)
  | [], _, _ => rfl
  | x :: B, a, b => widF_fold B (min a x) (max b x)
theorem maxN_all {a : Int} {s : List Int} : maxN (a :: s) ((a :: s).length - 1) = (a :: s).foldl max a := by
  unfold maxN
  show (s.take s.length).foldl max a = s.foldl max (max a a)
  rw [List.take_length, Int.max_self]
theorem bd_wid {A B : List Int} (h0 : 0 < A.length) (hs : ∀ x, x ∈ A ↔ x ∈ B) (hb : ∀ x ∈ B, 0 ≤ x ∧ x ≤ 1099511627776) : bdR A = widR B := by
  obtain ⟨a, s, rfl⟩ : ∃ a s, A = a :: s := by
    cases A with
    | nil => cases h0
    | cons a s => exact ⟨a, s, rfl⟩
  have ha : a ∈ B := (hs a).1 (by simp)
  have hba := hb a ha
  unfold bdR widR
  rw [widF_fold, maxN_all]
  obtain ⟨p1, p2, p3⟩ := foldl_minS (a :: s) a
  obtain ⟨q1, q2, q3⟩ := foldl_minS B 1099511627776
  obtain ⟨u1, u2, u3⟩ := foldl_maxS (a :: s) a
  obtain ⟨v1, v2, v3⟩ := foldl_maxS B (-1)
  have e0 : (a :: s).getD 0 0 = a := rfl
  have em : minL ((a :: s).getD 0 0) (a :: s) = (a :: s).foldl min a := rfl
  rw [em]
  have m1 : (a :: s).foldl min a ∈ B := by
    rcases p3 with h | h
    · rw [h]; exact ha
    · exact (hs _).1 h
  have m2 : (a :: s).foldl max a ∈ B := by
    rcases u3 with h | h
    · rw [h]; exact ha
    · exact (hs _).1 h
  have n1 : ∃ x ∈ B, B.foldl min 1099511627776 = x := by
    rcases q3 with h | h
    · exact ⟨a, ha, by have := q2 a ha; omega⟩
    · exact ⟨_, h, rfl⟩
  have n2 : ∃ x ∈ B, B.foldl max (-1) = x := by
    rcases v3 with h | h
    · exact ⟨a, ha, by have := v2 a ha; omega⟩
    · exact ⟨_, h, rfl⟩
  obtain ⟨x1, k1, k2⟩ := n1
  obtain ⟨x2, k3, k4⟩ := n2
  have r1 := p2 x1 ((hs _).2 k1)
  have r2 := q2 _ m1
  have r3 := u2 x2 ((hs _).2 k3)
  have r4 := v2 _ m2
  refine Prod.ext ?_ ?_
  · show (a :: s).foldl min a = B.foldl min 1099511627776
    omega
  · show (a :: s).foldl max a = B.foldl max (-1)
    omega
/-! ### the first wet hour -/
theorem wetL_sorted (t : List Int) (level : Int) : (wetL t level).Pairwise (fun a b => a < b) := by
  unfold wetL idxL
  refine List.Pairwise.filter _ ?_
  rw [List.pairwise_map]
  exact List.Pairwise.imp (fun {a b} h => by omega) List.pairwise_lt_range
theorem wetL_mem {t : List Int} {level x : Int} (h : x ∈ wetL t level) : 0 ≤ x ∧ x < t.length := by
  have h := (List.mem_filter.1 h).1
  obtain ⟨n, h1, rfl⟩ := List.mem_map.1 h
  have := List.mem_range.1 h1
  omega
theorem soon_first (t : List Int) (level : Int) : minL (t.length : Int) (wetL t level) = soonR t level := by
  have hS := wetL_sorted t level
  have hM := fun x h => wetL_mem (t := t) (level := level) (x := x) h
  unfold soonR
  cases hW : wetL t level with
  | nil => rfl
  | cons a s =>
    rw [hW] at hS hM
    have em : minL (t.length : Int) (a :: s) = (a :: s).foldl min (t.length : Int) := rfl
    rw [em]
    obtain ⟨p1, p2, p3⟩ := foldl_minS (a :: s) (t.length : Int)
    have ha := hM a (by simp)
    have q := p2 a (by simp)
    have hs := (List.pairwise_cons.1 hS).1
    rcases p3 with h | h
    · omega
    · rcases List.mem_cons.1 h with h | h
      · exact h
      · have := hs _ h
        omega
theorem soonR_bd (t : List Int) (level : Int) : 0 ≤ soonR t level ∧ soonR t level ≤ t.length := by
  have hM := fun x h => wetL_mem (t := t) (level := level) (x := x) h
  unfold soonR
  cases hW : wetL t level with
  | nil => exact ⟨Int.natCast_nonneg _, Int.le_refl _⟩
  | cons a s =>
    rw [hW] at hM
    have := hM a (by simp)
    show 0 ≤ a ∧ a ≤ t.length
    omega
theorem reach_same {last : Int} {hs : List Rg} {step : Int} {lv : List Int} {ms : List Mk} (V : ValidT last hs step lv ms) (hm : manyR hs ≤ 2000) (h0 : 0 < (truthS hs step ms).length) (row : Nat) : bdR ((truthS hs step ms).map fun c => firstR lv c row last) = widR ((truthsR hs step ms).map fun t => soonR t (lv.getD row 0)) := by
  have key : ∀ t, t ∈ truthsR hs step ms → firstR lv (wantS t) row last = soonR t (lv.getD row 0) := fun t ht => by
    have hl := ((mem_truthsR V hm).1 ht).1
    have hn := V.n
    unfold firstR
    rw [wet_same (by omega), show last + 1 = (t.length : Int) by omega]
    exact soon_first t _
  refine bd_wid (by rw [List.length_map]; exact h0) (fun x => ?_) fun x hx => ?_
  · rw [List.mem_map, List.mem_map]
    constructor
    · rintro ⟨c, hc, rfl⟩
      obtain ⟨t, ht, rfl⟩ := (mem_truthS V hm).1 hc
      exact ⟨t, ht, (key t ht).symm⟩
    · rintro ⟨t, ht, rfl⟩
      exact ⟨wantS t, (mem_truthS V hm).2 ⟨t, ht, rfl⟩, key t ht⟩
  · obtain ⟨t, ht, rfl⟩ := List.mem_map.1 hx
    have hl := ((mem_truthsR V hm).1 ht).1
    have := soonR_bd t (lv.getD row 0)
    have := V.h10
    omega
end Go.Ev

namespace Go.Ev
open Go.Proofs
set_option maxRecDepth 100000
/-! ### TideReaches -/
theorem thin_few {last : Int} {hs : List Rg} {step : Int} {lv : List Int} {ms : List Mk} (hT : thinR last hs step lv ms = true) (hf : faultR last hs step lv ms = 0) : (truthS hs step ms).length ≤ 150 := by
  obtain ⟨V, hm, _⟩ := fault_zero hf
  unfold thinR at hT
  rw [Bool.and_eq_true, Bool.or_eq_true, decide_eq_true_iff, decide_eq_true_iff, decide_eq_true_iff] at hT
  have h1 := exS_len hs step hs.length 0 zeroS (by omega)
  rw [List.drop_zero] at h1
  have h2 := szs_eq V.hv
  have h3 := manyR_eq V.hv
  have h4 : (truthS hs step ms).length ≤ (exS hs step hs.length 0 zeroS).length := List.length_filter_le _ _
  omega
def wantE (last : Int) (hs : List Rg) (step : Int) (lv : List Int) (ms : List Mk) (b : Bool) : Int :=
  if faultR last hs step lv ms = 0 ∧ b = false then 2 else sureE last hs step lv ms
theorem want_start (last : Int) (hs : List Rg) (step : Int) (lv : List Int) (ms : List Mk) (b : Bool) : wantE last hs step lv ms b = startE last hs step lv ms b := by
  unfold wantE startE sureE
  by_cases hf : faultR last hs step lv ms = 0
  · obtain ⟨V, hm, _⟩ := fault_zero hf
    rw [if_pos hf, if_pos hf]
    cases b with
    | false => rw [if_pos ⟨hf, rfl⟩]; rfl
    | true =>
      rw [if_neg (by simp), cond_true]
      by_cases hT : truthS hs step ms = []
      · rw [if_pos hT, if_pos ((truth_nil V hm).1 hT)]
      · rw [if_neg hT, if_neg fun h => hT ((truth_nil V hm).2 h)]
  · rw [if_neg hf, if_neg hf, if_neg fun h => hf h.1]
theorem wid_bd {B : List Int} {n : Int} (h0 : 0 < B.length) (hb : ∀ x ∈ B, 0 ≤ x ∧ x ≤ n) (hn : n ≤ 1099511627776) : (0 ≤ (widR B).1 ∧ (widR B).1 ≤ n) ∧ (0 ≤ (widR B).2 ∧ (widR B).2 ≤ n) := by
  obtain ⟨b, s, rfl⟩ : ∃ a s, B = a :: s := by
    cases B with
    | nil => cases h0
    | cons a s => exact ⟨a, s, rfl⟩
  have hb0 := hb b (by simp)
  unfold widR
  rw [widF_fold]
  obtain ⟨q1, q2, q3⟩ := foldl_minS (b :: s) 1099511627776
  obtain ⟨v1, v2, v3⟩ := foldl_maxS (b :: s) (-1)
  have q4 := q2 b (by simp)
  have v4 := v2 b (by simp)
  refine ⟨?_, ?_⟩
  · show 0 ≤ (b :: s).foldl min 1099511627776 ∧ (b :: s).foldl min 1099511627776 ≤ n
    rcases q3 with h | h
    · omega
    · have := hb _ h; omega
  · show 0 ≤ (b :: s).foldl max (-1) ∧ (b :: s).foldl max (-1) ≤ n
    rcases v3 with h | h
    · omega
    · have := hb _ h; omega
end Go.Ev
