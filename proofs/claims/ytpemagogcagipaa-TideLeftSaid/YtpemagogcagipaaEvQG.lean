import Derived.Test.YtpemagogcagipaaEvQF
import Derived.Test.YtpemagogcagipaaEvMN
set_option linter.all false
namespace Go.Ev
open Go.Proofs
set_option maxRecDepth 100000
def pickR (ms : List Mk) (w : Nat) : List Mk := ((List.range ms.length).filter fun k => w.testBit k).map fun k => ms.getD k default
theorem pickR_all {ms : List Mk} {w : Nat} {p : Mk → Bool} : (pickR ms w).all p = true ↔ ∀ k, k < ms.length → w.testBit k = true → p (ms.getD k default) = true := by
  unfold pickR
  rw [List.all_eq_true]
  constructor
  · intro h k hk hc
    exact h _ (List.mem_map.2 ⟨k, List.mem_filter.2 ⟨List.mem_range.2 hk, hc⟩, rfl⟩)
  · intro h m hm
    obtain ⟨k, hk, rfl⟩ := List.mem_map.1 hm
    obtain ⟨h1, h2⟩ := List.mem_filter.1 hk
    exact h k (List.mem_range.1 h1) h2
theorem pickR_mem {ms : List Mk} {w : Nat} {x : Mk} (h : x ∈ pickR ms w) : x ∈ ms := by
  unfold pickR at h
  obtain ⟨k, hk, rfl⟩ := List.mem_map.1 h
  exact getD_mem (List.mem_range.1 (List.mem_filter.1 hk).1)
theorem pickR_len (ms : List Mk) (w : Nat) : (pickR ms w).length ≤ ms.length := by
  unfold pickR
  rw [List.length_map]
  have := List.length_filter_le (fun k => w.testBit k) (List.range ms.length)
  rw [List.length_range] at this
  exact this
theorem can_pick {last : Int} {hs : List Rg} {step : Int} {lv : List Int} {ms : List Mk} (V : ValidT last hs step lv ms) (hm : manyR hs ≤ 2000) {w : Nat} (hw : w < 2 ^ ms.length) : canB (allR hs step ms) w = (exS hs step hs.length 0 zeroS).any fun c => fitsR c (pickR ms w) := by
  unfold allR
  rw [canB_any, any_lists V.hv hm]
  rw [Bool.eq_iff_iff, List.any_eq_true, List.any_eq_true]
  have key : ∀ t, t ∈ listsR hs step → (decide (markN ms t ms.length &&& w = w) = true ↔ fitsR (wantS t) (pickR ms w) = true) := fun t ht => by
    have hl := listed_lenZ ((mem_listsR V.hv hm).1 ht)
    have h10 := V.h10
    rw [decide_eq_true_iff, and_word hw, fits_right (by omega) fun m hmm => by have := V.vt m (pickR_mem hmm); omega]
    rw [pickR_all]
    constructor
    · intro h k hk hc
      have h2 := h k hk hc
      unfold markN at h2
      rw [bitsN_test, Bool.and_eq_true] at h2
      exact h2.2
    · intro h k hk hw
      unfold markN
      rw [bitsN_test, h k hk hw, decide_eq_true hk]
      rfl
  constructor
  · rintro ⟨t, ht, h⟩
    exact ⟨t, ht, (key t ht).1 h⟩
  · rintro ⟨t, ht, h⟩
    exact ⟨t, ht, (key t ht).2 h⟩
end Go.Ev

namespace Go.Ev
open Go.Proofs
set_option maxRecDepth 100000
def pickJ (ms : List Mk) (w j : Nat) : List Mk := ((List.range j).filter fun k => w.testBit k).map fun k => ms.getD k default
theorem pickJ_succ (ms : List Mk) (w j : Nat) : pickJ ms w (j + 1) = if w.testBit j = true then pickJ ms w j ++ [ms.getD j default] else pickJ ms w j := by
  unfold pickJ
  rw [List.range_succ, List.filter_append, List.map_append]
  by_cases h : w.testBit j = true
  · rw [if_pos h]; simp [h]
  · rw [if_neg h]; simp [h]
theorem pickJ_len (ms : List Mk) (w j : Nat) : (pickJ ms w j).length ≤ j := by
  unfold pickJ
  rw [List.length_map]
  have := List.length_filter_le (fun k => w.testBit k) (List.range j)
  rw [List.length_range] at this
  exact this
def pwS (last : Int) (hs : List Rg) (step : Int) (lv : List Int) (ms : List Mk) (w : Nat) (A : List Mk) (j : Nat) : X := ⟨(.n (.n .e (some (.i .i64 (w : Int))) (.n .e (some (.pt (.i .h) 0 0)) .e)) none (.n (.n .e (some (.pt (.o .h) 0 0)) .e) (some (.pt .h 0 0)) (.n .e (some (.i .i64 (j : Int))) .e))), .n (.n .e (some resC) .e) (some (tabC last hs step lv ms)) (.n (.n .e (blM A) .e) (some (outC last step lv (.lst 2 (rows rgD hs)) (slM A))) .e), nxM A, none⟩
theorem c_pickW (last : Int) (hs : List Rg) (step : Int) (lv : List Int) (ms : List Mk) (w : Nat) (hw : w ≤ 31) (hm : ms.length ≤ 5) : PureF Try.prog p59.ix [.ag [.i .i64 last, .lst 2 (rows rgD hs), .i .i64 step, .lst 1 (ints lv), .lst 4 (rows mkD ms)], .i .i64 (w : Int)] (.ag [.i .i64 last, .lst 2 (rows rgD hs), .i .i64 step, .lst 1 (ints lv), .lst 4 (rows mkD (pickR ms w))]) := by
  have e3 := rows_length mkD ms
  have hb := hw
  refine PureF.run fn58 (by simp) (by simp [PuL, PuE, Pu, pu_ints, pu_rg, pu_mk]) ?_; conv => whnf
  repeat' first | ((with_reducible apply WB.tt); conv => whnf) | ((with_reducible apply WB.ff); conv => whnf) | (refine Rn.seq ?_; conv => whnf) | (refine Rn.reg ?_; conv => whnf) | (refine Rn.drw ?_; conv => whnf) | (refine Rn.blk ?_; conv => whnf) | (refine Rn.skip ?_; conv => whnf) | (refine Rn.ret ?_; conv => whnf) | (refine Rn.exit ?_; conv => whnf) | (refine Rn.cond rfl ?_; conv => whnf) | (refine And.intro (InR.i64 (by omega) (by omega)) ?_; conv => whnf) | (refine And.intro (show _ ≠ (0 : Int) by omega) ?_; conv => whnf) | (refine WIx.intsN (by omega) ?_; conv => whnf) | (refine WIx.rowsN (by omega) ?_; conv => whnf)
  refine Rn.loop (fun j : Nat => pwS last hs step lv ms w (pickJ ms w j) j) (fun j => j ≤ ms.length) (fun j => ms.length - j) 0 ?_ ?_ ?_
  · refine X.le.mk ?_ ?_ (Nat.le_refl _) rfl rfl
    · show T.le ((.n (.n .e (some (.i .i64 (w : Int))) (.n .e (some (.pt (.i .h) 0 0)) .e)) none (.n (.n .e (some (.pt (.o .h) 0 0)) .e) (some (.pt .h 0 0)) (.n .e (some (.i .i64 0)) .e))) : T D) _
      (repeat' first | exact T.le_e _ | refine T.le_some ?_ rfl ?_ | refine T.le_none ?_ ?_)
    · show T.le (.n (.n .e (some resC) .e) (some (tabC last hs step lv ms)) (.n (.n .e none .e) (some (outC last step lv (.lst 2 (rows rgD hs)) .ns)) .e)) _
      (repeat' first | exact T.le_e _ | refine T.le_some ?_ rfl ?_ | refine T.le_none ?_ ?_ | refine T.le_ee ?_ ?_)
  · exact Nat.zero_le _
  intro j hj
  have hj : j ≤ ms.length := hj
  have hAl : (pickJ ms w j).length ≤ 5 := by have := pickJ_len ms w j; omega
  have hy : j < ms.length → w.testBit j = true → pickJ ms w (j + 1) = pickJ ms w j ++ [ms.getD j default] := fun _ h2 => by rw [pickJ_succ, if_pos h2]
  have hno : j < ms.length → ¬ w.testBit j = true → pickJ ms w (j + 1) = pickJ ms w j := fun _ h2 => by rw [pickJ_succ, if_neg h2]
  have hend : j = ms.length → pickJ ms w j = pickR ms w := fun e => by rw [e]; rfl
  generalize hA : pickJ ms w j = A at *
  conv => whnf
  repeat' first | ((with_reducible apply WB.tt); conv => whnf) | ((with_reducible apply WB.ff); conv => whnf) | (refine Rn.seq ?_; conv => whnf) | (refine Rn.reg ?_; conv => whnf) | (refine Rn.drw ?_; conv => whnf) | (refine Rn.blk ?_; conv => whnf) | (refine Rn.skip ?_; conv => whnf) | (refine Rn.ret ?_; conv => whnf) | (refine Rn.exit ?_; conv => whnf) | (refine Rn.cond rfl ?_; conv => whnf) | (refine And.intro (InR.i64 (by omega) (by omega)) ?_; conv => whnf) | (refine And.intro (show _ ≠ (0 : Int) by omega) ?_; conv => whnf) | (refine WIx.intsN (by omega) ?_; conv => whnf) | (refine WIx.rowsN (by omega) ?_; conv => whnf)
  refine WB.dec (fun h => ?_) (fun h => ?_) <;> conv => whnf
  · have hlt : j < ms.length := by omega
    have hbit : w / 2 ^ j % 2 = if w.testBit j = true then 1 else 0 := by rw [Nat.testBit_eq_decide_div_mod_eq]; by_cases h : w / 2 ^ j % 2 = 1 <;> simp [h]; omega
    have hq : w / 2 ^ j ≤ 31 := Nat.le_trans (Nat.div_le_self _ _) hb
    have hy := hy hlt
    have hno := hno hlt
    repeat' first | ((with_reducible apply WB.tt); conv => whnf) | ((with_reducible apply WB.ff); conv => whnf) | (refine Rn.seq ?_; conv => whnf) | (refine Rn.reg ?_; conv => whnf) | (refine Rn.drw ?_; conv => whnf) | (refine Rn.blk ?_; conv => whnf) | (refine Rn.skip ?_; conv => whnf) | (refine Rn.ret ?_; conv => whnf) | (refine Rn.exit ?_; conv => whnf) | (refine Rn.cond rfl ?_; conv => whnf) | (refine And.intro (InR.i64 (by omega) (by omega)) ?_; conv => whnf) | (refine And.intro (show _ ≠ (0 : Int) by omega) ?_; conv => whnf) | (refine WIx.intsN (by omega) ?_; conv => whnf) | (refine WIx.rowsN (by omega) ?_; conv => whnf)
    refine And.intro (InR.u64 (by omega) (by omega)) ?_; conv => whnf
    repeat' first | ((with_reducible apply WB.tt); conv => whnf) | ((with_reducible apply WB.ff); conv => whnf) | (refine Rn.seq ?_; conv => whnf) | (refine Rn.reg ?_; conv => whnf) | (refine Rn.drw ?_; conv => whnf) | (refine Rn.blk ?_; conv => whnf) | (refine Rn.skip ?_; conv => whnf) | (refine Rn.ret ?_; conv => whnf) | (refine Rn.exit ?_; conv => whnf) | (refine Rn.cond rfl ?_; conv => whnf) | (refine And.intro (InR.i64 (by omega) (by omega)) ?_; conv => whnf) | (refine And.intro (show _ ≠ (0 : Int) by omega) ?_; conv => whnf) | (refine WIx.intsN (by omega) ?_; conv => whnf) | (refine WIx.rowsN (by omega) ?_; conv => whnf)
    refine WSt.shrN (by rfl) (by rfl) (by omega) (by omega) ?_; conv => whnf
    generalize w / 2 ^ j = q at *
    have hrem : (q : Int).tmod 2 = if w.testBit j = true then 1 else 0 := by
      rw [Int.tmod_eq_emod_of_nonneg (by omega)]
      have : ((q % 2 : Nat) : Int) = if w.testBit j = true then 1 else 0 := by rw [hbit]; split <;> rfl
      omega
    repeat' first | ((with_reducible apply WB.tt); conv => whnf) | ((with_reducible apply WB.ff); conv => whnf) | (refine Rn.seq ?_; conv => whnf) | (refine Rn.reg ?_; conv => whnf) | (refine Rn.drw ?_; conv => whnf) | (refine Rn.blk ?_; conv => whnf) | (refine Rn.skip ?_; conv => whnf) | (refine Rn.ret ?_; conv => whnf) | (refine Rn.exit ?_; conv => whnf) | (refine Rn.cond rfl ?_; conv => whnf) | (refine And.intro (InR.i64 (by omega) (by omega)) ?_; conv => whnf) | (refine And.intro (show _ ≠ (0 : Int) by omega) ?_; conv => whnf) | (refine WIx.intsN (by omega) ?_; conv => whnf) | (refine WIx.rowsN (by omega) ?_; conv => whnf)
    rw [hrem]
    by_cases hjn : w.testBit j = true
    · rw [if_pos hjn]
      have hy := hy hjn
      refine WB.tt ?_; conv => whnf
      cases A with
      | nil =>
        repeat' first | ((with_reducible apply WB.tt); conv => whnf) | ((with_reducible apply WB.ff); conv => whnf) | (refine Rn.seq ?_; conv => whnf) | (refine Rn.reg ?_; conv => whnf) | (refine Rn.drw ?_; conv => whnf) | (refine Rn.blk ?_; conv => whnf) | (refine Rn.skip ?_; conv => whnf) | (refine Rn.ret ?_; conv => whnf) | (refine Rn.exit ?_; conv => whnf) | (refine Rn.cond rfl ?_; conv => whnf) | (refine And.intro (InR.i64 (by omega) (by omega)) ?_; conv => whnf) | (refine And.intro (show _ ≠ (0 : Int) by omega) ?_; conv => whnf) | (refine WIx.intsN (by omega) ?_; conv => whnf) | (refine WIx.rowsN (by omega) ?_; conv => whnf)
        refine WSt.app_firstL (r := mkD (ms.getD j default)) rfl (.inl rfl) rfl rfl rfl rfl ?_; conv => whnf
        repeat' first | ((with_reducible apply WB.tt); conv => whnf) | ((with_reducible apply WB.ff); conv => whnf) | (refine Rn.seq ?_; conv => whnf) | (refine Rn.reg ?_; conv => whnf) | (refine Rn.drw ?_; conv => whnf) | (refine Rn.blk ?_; conv => whnf) | (refine Rn.skip ?_; conv => whnf) | (refine Rn.ret ?_; conv => whnf) | (refine Rn.exit ?_; conv => whnf) | (refine Rn.cond rfl ?_; conv => whnf) | (refine And.intro (InR.i64 (by omega) (by omega)) ?_; conv => whnf) | (refine And.intro (show _ ≠ (0 : Int) by omega) ?_; conv => whnf) | (refine WIx.intsN (by omega) ?_; conv => whnf) | (refine WIx.rowsN (by omega) ?_; conv => whnf)
        refine Again.to (j + 1) (by omega) (by omega) (by show (nxM (pickJ ms w j)).nat ≤ (nxM (pickJ ms w (j + 1))).nat; rw [hA, hy]; exact (show 4 ≤ 6 by omega)) ?_
        show Shr _ (pwS last hs step lv ms w (pickJ ms w (j + 1)) (j + 1))
        rw [hy]
        refine Shr.of ?_ ?_ rfl rfl
        · show Rel _ _ ((.n (.n .e (some (.i .i64 (w : Int))) (.n .e (some (.pt (.i .h) 0 0)) .e)) none (.n (.n .e (some (.pt (.o .h) 0 0)) .e) (some (.pt .h 0 0)) (.n .e (some (.i .i64 ((j + 1 : Nat) : Int))) .e))) : T D) _
          (repeat' first | exact Rel.e | refine Rel.some ?_ ?_ ?_ | refine Rel.none ?_ ?_ | refine Rel.ee ?_ ?_)
          all_goals show Fz _ _ _ _
          all_goals first | exact .pu trivial | exact .kpt (show _ < 6 by simp [Pos.nat])
        · show Rel _ _ (.n (.n .e (some resC) .e) (some (tabC last hs step lv ms)) (.n (.n .e (some (.cells false ((mkF [ms.getD j default]).map fun d => Cell.o d 0) 1)) .e) (some (outC last step lv (.lst 2 (rows rgD hs)) (.sl (.i (.o .h)) 0 1 0 4))) .e)) _
          rw [show mkF [ms.getD j default] = mkD (ms.getD j default) by simp [mkF, rows]]
          (repeat' first | exact Rel.e | refine Rel.some ?_ ?_ ?_ | refine Rel.none ?_ ?_ | refine Rel.ee ?_ ?_)
          all_goals first
            | exact RO'.of (show _ < 6 by simp [Pos.nat]) resC_sh
            | exact RO'.of (show _ < 6 by simp [Pos.nat]) (tabC_sh last hs step lv ms)
            | exact RO'.of (show _ < 6 by simp [Pos.nat]) (outC_sh (.pu (pu_rg _)) (.pu trivial))
            | exact RO'.of (show _ < 6 by simp [Pos.nat]) (outC_sh (.pu (pu_rg _)) (.ksl (show _ < 6 by simp [Pos.nat])))
            | exact RO'.of (show _ < 6 by simp [Pos.nat]) (ShC.same (ShC.cn (.pu trivial) (ShC.cn (.pu trivial) (ShC.cn (.pu trivial) (ShC.cn (.pu trivial) ShC.nl)))))
      | cons a s =>
        have hs5 : s.length + 1 ≤ 5 := hAl
        repeat' first | ((with_reducible apply WB.tt); conv => whnf) | ((with_reducible apply WB.ff); conv => whnf) | (refine Rn.seq ?_; conv => whnf) | (refine Rn.reg ?_; conv => whnf) | (refine Rn.drw ?_; conv => whnf) | (refine Rn.blk ?_; conv => whnf) | (refine Rn.skip ?_; conv => whnf) | (refine Rn.ret ?_; conv => whnf) | (refine Rn.exit ?_; conv => whnf) | (refine Rn.cond rfl ?_; conv => whnf) | (refine And.intro (InR.i64 (by omega) (by omega)) ?_; conv => whnf) | (refine And.intro (show _ ≠ (0 : Int) by omega) ?_; conv => whnf) | (refine WIx.intsN (by omega) ?_; conv => whnf) | (refine WIx.rowsN (by omega) ?_; conv => whnf)
        refine WSt.app_oneL (ds := mkF (a :: s)) (r := mkD (ms.getD j default)) rfl rfl rfl rfl rfl rfl (by rw [mkF_length]; rfl) rfl rfl (by omega) rfl ?_; conv => whnf
        repeat' first | ((with_reducible apply WB.tt); conv => whnf) | ((with_reducible apply WB.ff); conv => whnf) | (refine Rn.seq ?_; conv => whnf) | (refine Rn.reg ?_; conv => whnf) | (refine Rn.drw ?_; conv => whnf) | (refine Rn.blk ?_; conv => whnf) | (refine Rn.skip ?_; conv => whnf) | (refine Rn.ret ?_; conv => whnf) | (refine Rn.exit ?_; conv => whnf) | (refine Rn.cond rfl ?_; conv => whnf) | (refine And.intro (InR.i64 (by omega) (by omega)) ?_; conv => whnf) | (refine And.intro (show _ ≠ (0 : Int) by omega) ?_; conv => whnf) | (refine WIx.intsN (by omega) ?_; conv => whnf) | (refine WIx.rowsN (by omega) ?_; conv => whnf)
        refine Again.to (j + 1) (by omega) (by omega) (by show (nxM (pickJ ms w j)).nat ≤ (nxM (pickJ ms w (j + 1))).nat; rw [hA, hy]; exact (show 6 ≤ 6 by omega)) ?_
        show Shr _ (pwS last hs step lv ms w (pickJ ms w (j + 1)) (j + 1))
        rw [hy, List.cons_append]
        refine Shr.of ?_ ?_ rfl rfl
        · show Rel _ _ ((.n (.n .e (some (.i .i64 (w : Int))) (.n .e (some (.pt (.i .h) 0 0)) .e)) none (.n (.n .e (some (.pt (.o .h) 0 0)) .e) (some (.pt .h 0 0)) (.n .e (some (.i .i64 ((j + 1 : Nat) : Int))) .e))) : T D) _
          (repeat' first | exact Rel.e | refine Rel.some ?_ ?_ ?_ | refine Rel.none ?_ ?_ | refine Rel.ee ?_ ?_)
          all_goals show Fz _ _ _ _
          all_goals first | exact .pu trivial | exact .kpt (show _ < 6 by simp [Pos.nat])
        · show Rel _ _ (.n (.n .e (some resC) .e) (some (tabC last hs step lv ms)) (.n (.n .e (blM (a :: (s ++ [ms.getD j default]))) .e) (some (outC last step lv (.lst 2 (rows rgD hs)) (slM (a :: (s ++ [ms.getD j default]))))) .e)) _
          rw [slM_snoc, blM_snoc]
          (repeat' first | exact Rel.e | refine Rel.some ?_ ?_ ?_ | refine Rel.none ?_ ?_ | refine Rel.ee ?_ ?_)
          all_goals first
            | exact RO'.of (show _ < 6 by simp [Pos.nat]) resC_sh
            | exact RO'.of (show _ < 6 by simp [Pos.nat]) (tabC_sh last hs step lv ms)
            | exact RO'.of (show _ < 6 by simp [Pos.nat]) (outC_sh (.pu (pu_rg _)) (.pu trivial))
            | exact RO'.of (show _ < 6 by simp [Pos.nat]) (outC_sh (.pu (pu_rg _)) (.ksl (show _ < 6 by simp [Pos.nat])))
            | (refine RO'.of (show _ < 6 by simp [Pos.nat]) ?_
               exact ShC.grown (by omega) (PuL_iff.2 fun d hd => by
                 rcases List.mem_append.1 hd with hd | hd
                 · exact PuL_iff.1 (pu_mkF _) d hd
                 · exact PuL_iff.1 (show PuL (mkD _) by simp [mkD, PuL, Pu]) d hd))
    · rw [if_neg hjn]
      have hno := hno hjn
      refine WB.ff ?_; conv => whnf
      cases A with
      | nil =>
        repeat' first | ((with_reducible apply WB.tt); conv => whnf) | ((with_reducible apply WB.ff); conv => whnf) | (refine Rn.seq ?_; conv => whnf) | (refine Rn.reg ?_; conv => whnf) | (refine Rn.drw ?_; conv => whnf) | (refine Rn.blk ?_; conv => whnf) | (refine Rn.skip ?_; conv => whnf) | (refine Rn.ret ?_; conv => whnf) | (refine Rn.exit ?_; conv => whnf) | (refine Rn.cond rfl ?_; conv => whnf) | (refine And.intro (InR.i64 (by omega) (by omega)) ?_; conv => whnf) | (refine And.intro (show _ ≠ (0 : Int) by omega) ?_; conv => whnf) | (refine WIx.intsN (by omega) ?_; conv => whnf) | (refine WIx.rowsN (by omega) ?_; conv => whnf)
        refine Again.to (j + 1) (by omega) (by omega) (by show (nxM (pickJ ms w j)).nat ≤ (nxM (pickJ ms w (j + 1))).nat; rw [hA, hno]; exact (show 4 ≤ 4 by omega)) ?_
        show Shr _ (pwS last hs step lv ms w (pickJ ms w (j + 1)) (j + 1))
        rw [hno]
        refine Shr.of ?_ ?_ rfl rfl
        · show Rel _ _ ((.n (.n .e (some (.i .i64 (w : Int))) (.n .e (some (.pt (.i .h) 0 0)) .e)) none (.n (.n .e (some (.pt (.o .h) 0 0)) .e) (some (.pt .h 0 0)) (.n .e (some (.i .i64 ((j + 1 : Nat) : Int))) .e))) : T D) _
          (repeat' first | exact Rel.e | refine Rel.some ?_ ?_ ?_ | refine Rel.none ?_ ?_ | refine Rel.ee ?_ ?_)
          all_goals show Fz _ _ _ _
          all_goals first | exact .pu trivial | exact .kpt (show _ < 4 by simp [Pos.nat])
        · show Rel _ _ (.n (.n .e (some resC) .e) (some (tabC last hs step lv ms)) (.n (.n .e none .e) (some (outC last step lv (.lst 2 (rows rgD hs)) .ns)) .e)) _
          skip
          (repeat' first | exact Rel.e | refine Rel.some ?_ ?_ ?_ | refine Rel.none ?_ ?_ | refine Rel.ee ?_ ?_)
          all_goals first
            | exact RO'.of (show _ < 4 by simp [Pos.nat]) resC_sh
            | exact RO'.of (show _ < 4 by simp [Pos.nat]) (tabC_sh last hs step lv ms)
            | exact RO'.of (show _ < 4 by simp [Pos.nat]) (outC_sh (.pu (pu_rg _)) (.pu trivial))
            | exact RO'.of (show _ < 4 by simp [Pos.nat]) (outC_sh (.pu (pu_rg _)) (.ksl (show _ < 4 by simp [Pos.nat])))
      | cons a s =>
        repeat' first | ((with_reducible apply WB.tt); conv => whnf) | ((with_reducible apply WB.ff); conv => whnf) | (refine Rn.seq ?_; conv => whnf) | (refine Rn.reg ?_; conv => whnf) | (refine Rn.drw ?_; conv => whnf) | (refine Rn.blk ?_; conv => whnf) | (refine Rn.skip ?_; conv => whnf) | (refine Rn.ret ?_; conv => whnf) | (refine Rn.exit ?_; conv => whnf) | (refine Rn.cond rfl ?_; conv => whnf) | (refine And.intro (InR.i64 (by omega) (by omega)) ?_; conv => whnf) | (refine And.intro (show _ ≠ (0 : Int) by omega) ?_; conv => whnf) | (refine WIx.intsN (by omega) ?_; conv => whnf) | (refine WIx.rowsN (by omega) ?_; conv => whnf)
        refine Again.to (j + 1) (by omega) (by omega) (by show (nxM (pickJ ms w j)).nat ≤ (nxM (pickJ ms w (j + 1))).nat; rw [hA, hno]; exact (show 6 ≤ 6 by omega)) ?_
        show Shr _ (pwS last hs step lv ms w (pickJ ms w (j + 1)) (j + 1))
        rw [hno]
        refine Shr.of ?_ ?_ rfl rfl
        · show Rel _ _ ((.n (.n .e (some (.i .i64 (w : Int))) (.n .e (some (.pt (.i .h) 0 0)) .e)) none (.n (.n .e (some (.pt (.o .h) 0 0)) .e) (some (.pt .h 0 0)) (.n .e (some (.i .i64 ((j + 1 : Nat) : Int))) .e))) : T D) _
          (repeat' first | exact Rel.e | refine Rel.some ?_ ?_ ?_ | refine Rel.none ?_ ?_ | refine Rel.ee ?_ ?_)
          all_goals show Fz _ _ _ _
          all_goals first | exact .pu trivial | exact .kpt (show _ < 6 by simp [Pos.nat])
        · show Rel _ _ (.n (.n .e (some resC) .e) (some (tabC last hs step lv ms)) (.n (.n .e (some (.cells false ((mkF (a :: s)).map fun d => Cell.o d s.length) (s.length + 1))) .e) (some (outC last step lv (.lst 2 (rows rgD hs)) (.sl (.i (.o .h)) 0 (s.length + 1) s.length 4))) .e)) _
          skip
          (repeat' first | exact Rel.e | refine Rel.some ?_ ?_ ?_ | refine Rel.none ?_ ?_ | refine Rel.ee ?_ ?_)
          all_goals first
            | exact RO'.of (show _ < 6 by simp [Pos.nat]) resC_sh
            | exact RO'.of (show _ < 6 by simp [Pos.nat]) (tabC_sh last hs step lv ms)
            | exact RO'.of (show _ < 6 by simp [Pos.nat]) (outC_sh (.pu (pu_rg _)) (.pu trivial))
            | exact RO'.of (show _ < 6 by simp [Pos.nat]) (outC_sh (.pu (pu_rg _)) (.ksl (show _ < 6 by simp [Pos.nat])))
            | exact RO'.of (show _ < 6 by simp [Pos.nat]) (ShC.same fun c hc => by
                obtain ⟨d, hd, rfl⟩ := List.mem_map.1 hc
                exact .pu (PuL_iff.1 (pu_mkF _) d hd))
  · repeat' first | ((with_reducible apply WB.tt); conv => whnf) | ((with_reducible apply WB.ff); conv => whnf) | (refine Rn.seq ?_; conv => whnf) | (refine Rn.reg ?_; conv => whnf) | (refine Rn.drw ?_; conv => whnf) | (refine Rn.blk ?_; conv => whnf) | (refine Rn.skip ?_; conv => whnf) | (refine Rn.ret ?_; conv => whnf) | (refine Rn.exit ?_; conv => whnf) | (refine Rn.cond rfl ?_; conv => whnf) | (refine And.intro (InR.i64 (by omega) (by omega)) ?_; conv => whnf) | (refine And.intro (show _ ≠ (0 : Int) by omega) ?_; conv => whnf) | (refine WIx.intsN (by omega) ?_; conv => whnf) | (refine WIx.rowsN (by omega) ?_; conv => whnf)
    have he := hend (by omega)
    cases A with
    | nil =>
      repeat' first | ((with_reducible apply WB.tt); conv => whnf) | ((with_reducible apply WB.ff); conv => whnf) | (refine Rn.seq ?_; conv => whnf) | (refine Rn.reg ?_; conv => whnf) | (refine Rn.drw ?_; conv => whnf) | (refine Rn.blk ?_; conv => whnf) | (refine Rn.skip ?_; conv => whnf) | (refine Rn.ret ?_; conv => whnf) | (refine Rn.exit ?_; conv => whnf) | (refine Rn.cond rfl ?_; conv => whnf) | (refine And.intro (InR.i64 (by omega) (by omega)) ?_; conv => whnf) | (refine And.intro (show _ ≠ (0 : Int) by omega) ?_; conv => whnf) | (refine WIx.intsN (by omega) ?_; conv => whnf) | (refine WIx.rowsN (by omega) ?_; conv => whnf)
      refine ⟨.inr rfl, _, rfl, ?_⟩
      rw [← he]
      exact .ag (.cons (.pu trivial) (.cons (.pu (pu_rg _)) (.cons (.pu trivial) (.cons (.pu (pu_ints _)) (.cons .ns .nil)))))
    | cons a s =>
      repeat' first | ((with_reducible apply WB.tt); conv => whnf) | ((with_reducible apply WB.ff); conv => whnf) | (refine Rn.seq ?_; conv => whnf) | (refine Rn.reg ?_; conv => whnf) | (refine Rn.drw ?_; conv => whnf) | (refine Rn.blk ?_; conv => whnf) | (refine Rn.skip ?_; conv => whnf) | (refine Rn.ret ?_; conv => whnf) | (refine Rn.exit ?_; conv => whnf) | (refine Rn.cond rfl ?_; conv => whnf) | (refine And.intro (InR.i64 (by omega) (by omega)) ?_; conv => whnf) | (refine And.intro (show _ ≠ (0 : Int) by omega) ?_; conv => whnf) | (refine WIx.intsN (by omega) ?_; conv => whnf) | (refine WIx.rowsN (by omega) ?_; conv => whnf)
      refine ⟨.inr rfl, _, rfl, ?_⟩
      rw [← he]
      refine .ag (.cons (.pu trivial) (.cons (.pu (pu_rg _)) (.cons (.pu trivial) (.cons (.pu (pu_ints _)) (.cons ?_ .nil)))))
      exact Frz.whole (cs := (mkF (a :: s)).map fun d => Cell.o d s.length) (cur := s.length + 1) rfl (by simp [rows]) (mk_four _) (by rfl) (pu_mk _)
end Go.Ev

namespace Go.Ev
open Go.Proofs
set_option maxRecDepth 100000
theorem fault_sub {last : Int} {hs : List Rg} {step : Int} {lv : List Int} {ms ms2 : List Mk} (hf : faultR last hs step lv ms = 0) (hl : ms2.length ≤ 5) (hs2 : ∀ x ∈ ms2, x ∈ ms) : faultR last hs step lv ms2 = 0 := by
  obtain ⟨V, hm, hA⟩ := fault_zero hf
  have f1 : ¬ (9 < last ∨ 6 < lv.length ∨ 5 < ms.length) := by
    have := V.n; have := V.h10; have := V.lv6; have := V.ms5
    omega
  have f2 : ¬ (9 < last ∨ 6 < lv.length ∨ 5 < ms2.length) := by omega
  rw [fault_ok f1] at hf
  rw [fault_ok f2]
  have hv : validB last hs step lv ms = true := by
    by_cases h : validB last hs step lv ms = true
    · exact h
    · rw [if_neg h] at hf; exact absurd hf (by decide)
  have hv2 : validB last hs step lv ms2 = true := by
    unfold validB at hv ⊢
    simp only [Bool.and_eq_true] at hv ⊢
    refine ⟨hv.1, hv.2.1, hv.2.2.1, hv.2.2.2.1, hv.2.2.2.2.1, ?_⟩
    exact List.all_eq_true.2 fun m h => List.all_eq_true.1 hv.2.2.2.2.2 m (hs2 m h)
  rw [if_pos hv] at hf
  rw [if_pos hv2]
  exact hf
theorem truth_any {hs : List Rg} {step : Int} {ms : List Mk} : truthS hs step ms = [] ↔ (exS hs step hs.length 0 zeroS).any (fun c => fitsR c ms) = false := by
  unfold truthS
  rw [List.filter_eq_nil_iff, List.any_eq_false]
theorem bnd_any {last : Int} {hs : List Rg} {step : Int} {lv : List Int} {ms : List Mk} (hf : faultR last hs step lv ms = 0) : bndE last hs step lv ms = bif (exS hs step hs.length 0 zeroS).any (fun c => fitsR c ms) then 0 else 11 := by
  unfold bndE startE
  rw [if_pos hf, cond_true]
  by_cases hT : truthS hs step ms = []
  · rw [if_pos hT, truth_any.1 hT]; rfl
  · rw [if_neg hT]
    cases ha : (exS hs step hs.length 0 zeroS).any (fun c => fitsR c ms) with
    | true => rfl
    | false => exact absurd (truth_any.2 ha) hT
theorem lev_spec {A : List Nat} {m : Nat} (h0 : canB A 0 = true) : ∃ b0, b0 < 2 ^ m ∧ levR A m = bitL b0 ∧ canB A (2 ^ m - 1 - b0) = true ∧ ∀ b, b < 2 ^ m → canB A (2 ^ m - 1 - b) = true → shoR (bitL b) (levR A m) = false := by
  have hp := Nat.one_le_two_pow (n := m)
  have inv : ∀ n, n ≤ 2 ^ m → ∃ b0, b0 < 2 ^ m ∧ levJ A m n = bitL b0 ∧ canB A (2 ^ m - 1 - b0) = true ∧ ∀ b, b < n → canB A (2 ^ m - 1 - b) = true → shoR (bitL b) (levJ A m n) = false := fun n => by
    induction n with
    | zero => exact fun _ => ⟨2 ^ m - 1, by omega, rfl, by rw [Nat.sub_self]; exact h0, fun b hb => absurd hb (Nat.not_lt_zero _)⟩
    | succ n ih =>
      intro hn
      obtain ⟨b0, k1, k2, k3, k4⟩ := ih (by omega)
      rw [levJ_succ]
      unfold levF
      by_cases hc : (shoR (bitL n) (levJ A m n) && canB A (2 ^ m - 1 - n)) = true
      · rw [if_pos hc]
        rw [Bool.and_eq_true] at hc
        refine ⟨n, by omega, rfl, hc.2, fun b hb hcb => ?_⟩
        by_cases e : b = n
        · subst e; exact shoR_irr _
        · cases hs : shoR (bitL b) (bitL n) with
          | false => rfl
          | true =>
            have := k4 b (by omega) hcb
            rw [shoR_trans hs hc.1] at this
            cases this
      · rw [if_neg hc]
        refine ⟨b0, k1, k2, k3, fun b hb hcb => ?_⟩
        by_cases e : b = n
        · subst e
          cases hs : shoR (bitL b) (levJ A m b) with
          | false => rfl
          | true => exact absurd (by rw [hs, hcb]; rfl) hc
        · exact k4 b (by omega) hcb
  exact inv (2 ^ m) (Nat.le_refl _)
def chkL (m : Nat) (L : List Int) (i : Nat) : Bool := decide (0 ≤ L.getD i 0) && decide (L.getD i 0 < (m : Int)) && (decide (i = 0) || decide (L.getD (i - 1) 0 < L.getD i 0)) && decide (wordOf (L.take i) < 32)
theorem chk_all : ∀ m : _root_.Fin 6, ∀ b : _root_.Fin 32, b.val < 2 ^ m.val → ((List.range (bitL b.val).length).all (chkL m.val (bitL b.val)) && (wordOf (bitL b.val) == b.val)) = true := by decide +kernel
end Go.Ev
