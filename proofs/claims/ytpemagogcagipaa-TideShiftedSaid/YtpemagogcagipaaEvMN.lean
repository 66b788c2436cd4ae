import Derived.Test.YtpemagogcagipaaEvML
import Derived.Test.YtpemagogcagipaaEvMH
set_option linter.all false
namespace Go.Ev
open Go.Proofs
set_option maxRecDepth 100000
def bdG (L : List (Nat → Int)) (h : Nat) : Rg := ⟨(bdR (L.map fun c => c h)).1, (bdR (L.map fun c => c h)).2⟩
def bdsR (L : List (Nat → Int)) (n : Nat) : List Rg := (List.range n).map (bdG L)
def bndE (last : Int) (hs : List Rg) (step : Int) (lv : List Int) (ms : List Mk) : Int := startE last hs step lv ms true
def bndL (last : Int) (hs : List Rg) (step : Int) (lv : List Int) (ms : List Mk) : List Rg := if bndE last hs step lv ms = 0 then bdsR (truthS hs step ms) hs.length else []
def boS (last : Int) (hs : List Rg) (step : Int) (lv : List Int) (ms : List Mk) (L : List (Nat → Int)) (A : List Rg) : Nat → X
  | 0 => ⟨(.n (.n (.n .e none (.n (.n .e (some (.i .i64 (last + 1))) .e) none .e)) none .e) none (.n (.n .e (some (.pt (.o .h) 0 0)) (.n (.n .e (some (.i .i64 0)) .e) none .e)) none (.n .e (some (.ns)) .e))), (.n (.n .e (some (wkC last hs step lv ms (.lst 10 (rows seaD L)))) .e) none .e), .i .h, none⟩
  | j + 1 => ⟨(.n (.n (.n .e none (.n (.n .e (some (.i .i64 (last + 1))) .e) none .e)) none .e) none (.n (.n .e (some (.pt (.o .h) 0 0)) (.n (.n .e (some (.i .i64 ((j + 1 : Nat) : Int))) .e) none .e)) none (.n .e (some (.sl (.o (.o .h)) 0 (j + 1) j 2)) .e))), (.n (.n (.n .e (some (.cells false ((rgF (A.take (j + 1))).map fun d => Cell.o d j) (j + 1))) .e) (some (wkC last hs step lv ms (.lst 10 (rows seaD L)))) .e) none .e), .i (.o .h), none⟩
theorem c_Bounds (last : Int) (hs : List Rg) (step : Int) (lv : List Int) (ms : List Mk) (hT : faultR last hs step lv ms = 0 → (truthS hs step ms).length ≤ 1000) : PureF Try.prog p32.ix [.ag [.i .i64 last, .lst 2 (rows rgD hs), .i .i64 step, .lst 1 (ints lv), .lst 4 (rows mkD ms)]] (.tp [.lst 2 (rows rgD (bndL last hs step lv ms)), .i .i64 (bndE last hs step lv ms)]) := by
  have iS := c_start last hs step lv ms true
  refine PureF.run fn31 (by simp) (by simp [PuL, PuE, Pu, pu_ints, pu_rg, pu_mk]) ?_; conv => whnf
  by_cases hE : bndE last hs step lv ms = 0
  · have hE' : startE last hs step lv ms true = 0 := hE
    obtain ⟨hf, _, hp⟩ := start_zero hE'
    obtain ⟨V, _, _⟩ := fault_zero hf
    rw [startW_ok hE', hE'] at iS
    have hR : bndL last hs step lv ms = bdsR (truthS hs step ms) hs.length := by unfold bndL; rw [if_pos hE]
    have cB := fun (h : Nat) (hh : h < 10) => c_bounds last hs step lv ms (truthS hs step ms) hp (hT hf) p76 (h : Int) (fun c => c h) fun c _ => c_height last hs step lv ms (.lst 10 (rows seaD (truthS hs step ms))) (pu_seas _) c h hh
    have hn := V.n
    have h10 := V.h10
    have hAl : (bdsR (truthS hs step ms) hs.length).length = hs.length := by simp [bdsR]
    have hAt : ∀ j, j < hs.length → (bdsR (truthS hs step ms) hs.length).getD j default = bdG (truthS hs step ms) j := fun j h => by simp [bdsR, List.getD, h]
    rw [hR, hE]
    generalize truthS hs step ms = L at *
    generalize bdsR L hs.length = A at *
    have hpt : Pu (.lst 10 (rows seaD L)) := pu_seas L
    repeat' first | ((first | (with_reducible first | apply WB.tt | apply WB.ff) | apply Rn.seq | apply Rn.reg | apply Rn.drw | apply Rn.blk | apply Rn.skip | apply Rn.ret | apply Rn.exit | apply Rn.cond rfl | refine i64_ (by omega) (by omega) ?_ | refine ne0_ (by omega) ?_ | refine WIx.intsN (by omega) ?_ | refine WIx.rowsN (by omega) ?_ | refine WCall.pure (iS) ?_) <;> conv => whnf)
    refine WB.ff ?_; conv => whnf
    repeat' first | ((first | (with_reducible first | apply WB.tt | apply WB.ff) | apply Rn.seq | apply Rn.reg | apply Rn.drw | apply Rn.blk | apply Rn.skip | apply Rn.ret | apply Rn.exit | apply Rn.cond rfl | refine i64_ (by omega) (by omega) ?_ | refine ne0_ (by omega) ?_ | refine WIx.intsN (by omega) ?_ | refine WIx.rowsN (by omega) ?_) <;> conv => whnf)
    refine Rn.loop (boS last hs step lv ms L A) (fun j => j ≤ hs.length) (fun j => hs.length - j) 0 ?_ ?_ ?_
    · refine X.le.mk ?_ ?_ (Nat.le_refl _) rfl rfl
      · show T.le ((.n (.n (.n .e none (.n (.n .e (some (.i .i64 (last + 1))) .e) none .e)) none .e) none (.n (.n .e (some (.pt (.o .h) 0 0)) (.n (.n .e (some (.i .i64 0)) .e) none .e)) none (.n .e (some (.ns)) .e))) : T D) _
        (repeat' first | exact T.le_e _ | refine T.le_some ?_ rfl ?_ | refine T.le_none ?_ ?_)
      · show T.le ((.n (.n .e (some (wkC last hs step lv ms (.lst 10 (rows seaD L)))) .e) none .e) : T C) _
        (repeat' first | exact T.le_e _ | refine T.le_some ?_ rfl ?_ | refine T.le_none ?_ ?_ | refine T.le_ee ?_ ?_)
    · exact Nat.zero_le _
    rintro (_ | j) hj
    · conv => whnf
      repeat' first | ((first | (with_reducible first | apply WB.tt | apply WB.ff) | apply Rn.seq | apply Rn.reg | apply Rn.drw | apply Rn.blk | apply Rn.skip | apply Rn.ret | apply Rn.exit | apply Rn.cond rfl | refine i64_ (by omega) (by omega) ?_ | refine ne0_ (by omega) ?_ | refine WIx.intsN (by omega) ?_ | refine WIx.rowsN (by omega) ?_) <;> conv => whnf)
      refine WB.dec (fun h => ?_) (fun h => ?_) <;> conv => whnf
      · have hlt : 0 < hs.length := by omega
        have hat := hAt 0 hlt
        have cF := cB 0 (by omega)
        repeat' first | ((first | (with_reducible first | apply WB.tt | apply WB.ff) | apply Rn.seq | apply Rn.reg | apply Rn.drw | apply Rn.blk | apply Rn.skip | apply Rn.ret | apply Rn.exit | apply Rn.cond rfl | refine i64_ (by omega) (by omega) ?_ | refine ne0_ (by omega) ?_ | refine WIx.intsN (by omega) ?_ | refine WIx.rowsN (by omega) ?_ | refine WCall.pure (cF) ?_) <;> conv => whnf)
        refine WSt.app_first (r := rgD (bdG L 0)) rfl (.inl rfl) rfl rfl rfl rfl ?_; conv => whnf
        repeat' first | ((first | (with_reducible first | apply WB.tt | apply WB.ff) | apply Rn.seq | apply Rn.reg | apply Rn.drw | apply Rn.blk | apply Rn.skip | apply Rn.ret | apply Rn.exit | apply Rn.cond rfl | refine i64_ (by omega) (by omega) ?_ | refine ne0_ (by omega) ?_ | refine WIx.intsN (by omega) ?_ | refine WIx.rowsN (by omega) ?_) <;> conv => whnf)
        refine Again.to 1 (by omega) (by omega) (Nat.le_of_ble_eq_true rfl) ?_
        have ht : rgF (A.take 1) = rgD (A.getD 0 default) := by rw [take_succ_getD (j := 0) (d := default) (by omega)]; simp [rgF, rows]
        refine Shr.of ?_ ?_ rfl rfl
        · show Rel _ _ ((.n (.n (.n .e none (.n (.n .e (some (.i .i64 (last + 1))) .e) none .e)) none .e) none (.n (.n .e (some (.pt (.o .h) 0 0)) (.n (.n .e (some (.i .i64 ((0 + 1 : Nat) : Int))) .e) none .e)) none (.n .e (some (.sl (.o (.o .h)) 0 (0 + 1) 0 2)) .e))) : T D) _
          (repeat' first | exact Rel.e | refine Rel.some ?_ ?_ ?_ | refine Rel.none ?_ ?_)
          all_goals show Fz _ _ _ _
          all_goals first | exact .pu trivial | exact .kpt (show _ < 5 by simp [Pos.nat]) | exact .ksl (show _ < 5 by simp [Pos.nat])
        · show Rel _ _ ((.n (.n (.n .e (some (.cells false ((rgF (A.take 1)).map fun d => Cell.o d 0) 1)) .e) (some (wkC last hs step lv ms (.lst 10 (rows seaD L)))) .e) none .e) : T C) _
          rw [ht, hat]
          (repeat' first | exact Rel.e | refine Rel.some ?_ ?_ ?_ | refine Rel.none ?_ ?_ | refine Rel.ee ?_ ?_)
          all_goals first
            | exact RO'.of (show _ < 5 by simp [Pos.nat]) (wkC_sh _ _ _ _ _ _ hpt)
            | exact RO'.of (show _ < 5 by simp [Pos.nat]) (ShC.same (ShC.cn (.pu trivial) (ShC.cn (.pu trivial) ShC.nl)))
      · have := V.h1
        omega
    · conv => whnf
      repeat' first | ((first | (with_reducible first | apply WB.tt | apply WB.ff) | apply Rn.seq | apply Rn.reg | apply Rn.drw | apply Rn.blk | apply Rn.skip | apply Rn.ret | apply Rn.exit | apply Rn.cond rfl | refine i64_ (by omega) (by omega) ?_ | refine ne0_ (by omega) ?_ | refine WIx.intsN (by omega) ?_ | refine WIx.rowsN (by omega) ?_) <;> conv => whnf)
      refine WB.dec (fun h => ?_) (fun h => ?_) <;> conv => whnf
      · have hlt : j + 1 < hs.length := by omega
        have hat := hAt (j + 1) hlt
        have cF := cB (j + 1) (by omega)
        repeat' first | ((first | (with_reducible first | apply WB.tt | apply WB.ff) | apply Rn.seq | apply Rn.reg | apply Rn.drw | apply Rn.blk | apply Rn.skip | apply Rn.ret | apply Rn.exit | apply Rn.cond rfl | refine i64_ (by omega) (by omega) ?_ | refine ne0_ (by omega) ?_ | refine WIx.intsN (by omega) ?_ | refine WIx.rowsN (by omega) ?_ | refine WCall.pure (cF) ?_) <;> conv => whnf)
        refine WSt.app_one (ds := rgF (A.take (j + 1))) (r := rgD (bdG L (j + 1))) rfl rfl rfl rfl rfl rfl (by rw [rgF_length, List.length_take]; omega) rfl rfl (by omega) rfl ?_; conv => whnf
        repeat' first | ((first | (with_reducible first | apply WB.tt | apply WB.ff) | apply Rn.seq | apply Rn.reg | apply Rn.drw | apply Rn.blk | apply Rn.skip | apply Rn.ret | apply Rn.exit | apply Rn.cond rfl | refine i64_ (by omega) (by omega) ?_ | refine ne0_ (by omega) ?_ | refine WIx.intsN (by omega) ?_ | refine WIx.rowsN (by omega) ?_) <;> conv => whnf)
        refine Again.to (j + 2) (by omega) (by omega) (Nat.le_of_ble_eq_true rfl) ?_
        have ht : rgF (A.take (j + 1 + 1)) = rgF (A.take (j + 1)) ++ rgD (A.getD (j + 1) default) := by rw [take_succ_getD (j := j + 1) (d := default) (by omega), rgF_snoc]; rfl
        refine Shr.of ?_ ?_ rfl rfl
        · show Rel _ _ ((.n (.n (.n .e none (.n (.n .e (some (.i .i64 (last + 1))) .e) none .e)) none .e) none (.n (.n .e (some (.pt (.o .h) 0 0)) (.n (.n .e (some (.i .i64 ((j + 1 + 1 : Nat) : Int))) .e) none .e)) none (.n .e (some (.sl (.o (.o .h)) 0 (j + 1 + 1) (j + 1) 2)) .e))) : T D) _
          (repeat' first | exact Rel.e | refine Rel.some ?_ ?_ ?_ | refine Rel.none ?_ ?_)
          all_goals show Fz _ _ _ _
          all_goals first | exact .pu trivial | exact .kpt (show _ < 5 by simp [Pos.nat]) | exact .ksl (show _ < 5 by simp [Pos.nat])
        · show Rel _ _ ((.n (.n (.n .e (some (.cells false ((rgF (A.take (j + 1 + 1))).map fun d => Cell.o d (j + 1)) (j + 1 + 1))) .e) (some (wkC last hs step lv ms (.lst 10 (rows seaD L)))) .e) none .e) : T C) _
          rw [ht, hat]
          (repeat' first | exact Rel.e | refine Rel.some ?_ ?_ ?_ | refine Rel.none ?_ ?_ | refine Rel.ee ?_ ?_)
          all_goals first
            | exact RO'.of (show _ < 5 by simp [Pos.nat]) (wkC_sh _ _ _ _ _ _ hpt)
            | (refine RO'.of (show _ < 5 by simp [Pos.nat]) ?_
               exact ShC.grown (by omega) (PuL_iff.2 fun d hd => by
                rcases List.mem_append.1 hd with hd | hd
                · exact PuL_iff.1 (pu_rgF _) d hd
                · exact PuL_iff.1 (show PuL (rgD _) by simp [rgD, PuL, Pu]) d hd))
      · have he : A.take (j + 1) = A := List.take_of_length_le (by omega)
        repeat' first | ((first | (with_reducible first | apply WB.tt | apply WB.ff) | apply Rn.seq | apply Rn.reg | apply Rn.drw | apply Rn.blk | apply Rn.skip | apply Rn.ret | apply Rn.exit | apply Rn.cond rfl | refine i64_ (by omega) (by omega) ?_ | refine ne0_ (by omega) ?_ | refine WIx.intsN (by omega) ?_ | refine WIx.rowsN (by omega) ?_) <;> conv => whnf)
        refine ⟨.inr rfl, _, rfl, ?_⟩
        refine .tp (.cons ?_ (.cons (.pu trivial) .nil))
        exact Frz.whole (cs := (rgF (A.take (j + 1))).map fun d => Cell.o d j) (cur := j + 1) rfl (by simp [rows]; omega) (rg_two _) (by rw [he]; rfl) (pu_rg _)
  · have hE' : ¬ startE last hs step lv ms true = 0 := hE
    rw [startW_no hE'] at iS
    have hR : bndL last hs step lv ms = [] := by unfold bndL; rw [if_neg hE]
    have hE2 : bndE last hs step lv ms = startE last hs step lv ms true := rfl
    rw [hR, hE2]
    generalize startE last hs step lv ms true = e at *
    repeat' first | ((first | (with_reducible first | apply WB.tt | apply WB.ff) | apply Rn.seq | apply Rn.reg | apply Rn.drw | apply Rn.blk | apply Rn.skip | apply Rn.ret | apply Rn.exit | apply Rn.cond rfl | refine i64_ (by omega) (by omega) ?_ | refine ne0_ (by omega) ?_ | refine WIx.intsN (by omega) ?_ | refine WIx.rowsN (by omega) ?_ | refine WCall.pure (iS) ?_) <;> conv => whnf)
    refine WB.mk (fun h => ?_) (fun h => ?_) <;> conv => whnf
    · repeat' first | ((first | (with_reducible first | apply WB.tt | apply WB.ff) | apply Rn.seq | apply Rn.reg | apply Rn.drw | apply Rn.blk | apply Rn.skip | apply Rn.ret | apply Rn.exit | apply Rn.cond rfl | refine i64_ (by omega) (by omega) ?_ | refine ne0_ (by omega) ?_ | refine WIx.intsN (by omega) ?_ | refine WIx.rowsN (by omega) ?_) <;> conv => whnf)
      refine ⟨.inr rfl, _, rfl, ?_⟩
      exact .tp (.cons .ns (.cons (.pu trivial) .nil))
    · exact absurd (by simpa using h) hE'
end Go.Ev

namespace Go.Ev
open Go.Proofs
set_option maxRecDepth 100000
end Go.Ev

namespace Go.Ev
open Go.Proofs
set_option maxRecDepth 100000
end Go.Ev

namespace Go.Ev
open Go.Proofs
set_option maxRecDepth 100000
def readyB (last : Int) (hs : List Rg) (step : Int) (lv : List Int) (ms : List Mk) : Bool := thinR last hs step lv ms && decide (faultR last hs step lv ms = 0)
theorem c_ready (last : Int) (hs : List Rg) (step : Int) (lv : List Int) (ms : List Mk) : PureF Try.prog p52.ix [.ag [.i .i64 last, .lst 2 (rows rgD hs), .i .i64 step, .lst 1 (ints lv), .lst 4 (rows mkD ms)]] (.b (readyB last hs step lv ms)) := by
  have iT := c_Thin last hs step lv ms
  have iF := c_fault last hs step lv ms
  unfold readyB
  refine PureF.run fn51 (by simp) (by simp [PuL, PuE, Pu, pu_ints, pu_rg, pu_mk]) ?_; conv => whnf
  cases hT : thinR last hs step lv ms with
  | false =>
    rw [hT] at iT
    repeat' first | ((first | (with_reducible first | apply WB.tt | apply WB.ff) | apply Rn.seq | apply Rn.reg | apply Rn.drw | apply Rn.blk | apply Rn.skip | apply Rn.ret | apply Rn.exit | apply Rn.cond rfl | refine i64_ (by omega) (by omega) ?_ | refine ne0_ (by omega) ?_ | refine WIx.intsN (by omega) ?_ | refine WIx.rowsN (by omega) ?_ | refine WCall.pure (iT) ?_ | refine WCall.pure (iF) ?_) <;> conv => whnf)
    exact Fin.b rfl rfl
  | true =>
    rw [hT] at iT
    repeat' first | ((first | (with_reducible first | apply WB.tt | apply WB.ff) | apply Rn.seq | apply Rn.reg | apply Rn.drw | apply Rn.blk | apply Rn.skip | apply Rn.ret | apply Rn.exit | apply Rn.cond rfl | refine i64_ (by omega) (by omega) ?_ | refine ne0_ (by omega) ?_ | refine WIx.intsN (by omega) ?_ | refine WIx.rowsN (by omega) ?_ | refine WCall.pure (iT) ?_ | refine WCall.pure (iF) ?_) <;> conv => whnf)
    exact Fin.b rfl rfl
theorem thin_exS {last : Int} {hs : List Rg} {step : Int} {lv : List Int} {ms : List Mk} (hT : thinR last hs step lv ms = true) (hf : faultR last hs step lv ms = 0) : (exS hs step hs.length 0 zeroS).length ≤ 150 := by
  obtain ⟨V, hm, _⟩ := fault_zero hf
  unfold thinR at hT
  rw [Bool.and_eq_true, Bool.or_eq_true, decide_eq_true_iff, decide_eq_true_iff, decide_eq_true_iff] at hT
  have h1 := exS_len hs step hs.length 0 zeroS (by omega)
  rw [List.drop_zero] at h1
  have h2 := szs_eq V.hv
  have h3 := manyR_eq V.hv
  omega
end Go.Ev

namespace Go.Ev
open Go.Proofs
set_option maxRecDepth 100000
end Go.Ev
