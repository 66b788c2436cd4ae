import Derived.Test.YtpemagogcagipaaEvMP
import Derived.Test.YtpemagogcagipaaEvMN
set_option linter.all false
namespace Go.Ev
open Go.Proofs
set_option maxRecDepth 100000
def verB (E : List (Int × Int)) (hour : Int) (p : Int → Bool) (lo : Int) (k : Nat) : Bool := (List.range k).any fun i : Nat => decide ((hour, lo + (i : Int)) ∈ E) && p (lo + (i : Int))
theorem verB_succ (E : List (Int × Int)) (hour : Int) (p : Int → Bool) (lo : Int) (k : Nat) : verB E hour p lo (k + 1) = (verB E hour p lo k || (decide ((hour, lo + (k : Int)) ∈ E) && p (lo + (k : Int)))) := by
  unfold verB
  rw [List.range_succ, List.any_append]
  simp
def wetP (level h : Int) : Bool := decide (level < h)
def verR (wet dry : Bool) : Int := bif !dry then 1 else bif !wet then 2 else 3
set_option maxHeartbeats 1000000 in
theorem c_verdict (last : Int) (hs : List Rg) (step : Int) (lv : List Int) (ms : List Mk) (L : List (Nat → Int)) (row hour n : Nat) (hn : (n : Int) = last + 1) (h10 : n ≤ 10) (hnh : hs.length = n) (hl : L.length ≤ 1000) (hb : ∀ c ∈ L, ∀ i : Nat, wfB .i64 (c i) = true) (hr : row < lv.length) (hlv : lv.length ≤ 1000) (hh : hour < n) (hv : Vr hs) :
    PureF Try.prog p79.ix [.ag [.i .i64 last, .lst 2 (rows rgD hs), .i .i64 step, .lst 1 (ints lv), .lst 4 (rows mkD ms), .lst 10 (rows seaD L)], .i .i64 (row : Int), .i .i64 (hour : Int)] (.i .i64 (verR (verB (metE L n) (hour : Int) (wetP (lv.getD row 0)) (hs.getD hour default).lo ((hs.getD hour default).hi + 1 - (hs.getD hour default).lo).toNat) (verB (metE L n) (hour : Int) (fun h => !wetP (lv.getD row 0) h) (hs.getD hour default).lo ((hs.getD hour default).hi + 1 - (hs.getD hour default).lo).toNat))) := by
  have e1 := rows_length rgD hs
  have hpt : Pu (.lst 10 (rows seaD L)) := pu_seas L
  have cM := c_met last hs step lv ms L n hn h10 hl hb
  have hrg := hv (hs.getD hour default) (getD_mem (by omega))
  have hw := fun h => c_isWet last hs step lv ms (.lst 10 (rows seaD L)) hpt hlv row hr h
  have wfE : ∀ p ∈ metE L n, wfP p := fun p hp => by
    obtain ⟨c, hc, i, hi, e⟩ := (mem_metE L).1 hp
    subst e
    exact ⟨wf_small (by omega) (by omega), hb c hc i⟩
  generalize hE : metE L n = E at *
  refine PureF.run fn78 (by simp) (by simp [PuL, PuE, Pu, pu_ints, pu_rg, pu_mk, pu_seas]) ?_; conv => whnf
  repeat' first | ((first | (with_reducible first | apply WB.tt | apply WB.ff) | apply Rn.seq | apply Rn.reg | apply Rn.drw | apply Rn.blk | apply Rn.skip | apply Rn.ret | apply Rn.exit | apply Rn.cond rfl | refine i64_ (by omega) (by omega) ?_ | refine ne0_ (by omega) ?_ | refine WIx.intsN (by omega) ?_ | refine WIx.rowsN (by omega) ?_) <;> conv => whnf)
  refine WCall.at cM ?_; conv => whnf
  repeat' first | ((first | (with_reducible first | apply WB.tt | apply WB.ff) | apply Rn.seq | apply Rn.reg | apply Rn.drw | apply Rn.blk | apply Rn.skip | apply Rn.ret | apply Rn.exit | apply Rn.cond rfl | refine i64_ (by omega) (by omega) ?_ | refine ne0_ (by omega) ?_ | refine WIx.intsN (by omega) ?_ | refine WIx.rowsN (by omega) ?_) <;> conv => whnf)
  refine Rn.loop (fun k : Nat => ⟨(.n (.n (.n (.n .e (some (.mp (.i .h))) .e) (some (.pt .h 0 0)) .e) (some (.i .i64 (row : Int))) (.n (.n .e (some (.b (verB E (hour : Int) (fun h => !wetP (lv.getD row 0) h) (hs.getD hour default).lo k))) .e) none .e)) none (.n (.n (.n .e (some (.b (verB E (hour : Int) (wetP (lv.getD row 0)) (hs.getD hour default).lo k))) .e) none .e) (some (.i .i64 (hour : Int))) (.n (.n .e (some (.i .i64 ((hs.getD hour default).lo + (k : Int)))) .e) none .e))), (.n .e (some (wkC last hs step lv ms (.lst 10 (rows seaD L)))) (.n .e (some (.map (E.map pD))) .e)), .o (.o .h), none⟩) (fun k => (k : Int) ≤ (hs.getD hour default).hi + 1 - (hs.getD hour default).lo) (fun k => ((hs.getD hour default).hi + 1 - (hs.getD hour default).lo).toNat - k) 0 ?_ ?_ ?_
  · refine X.le.mk ?_ ?_ (Nat.le_refl _) rfl rfl
    · show T.le ((.n (.n (.n (.n .e (some (.mp (.i .h))) .e) (some (.pt .h 0 0)) .e) (some (.i .i64 (row : Int))) (.n (.n .e (some (.b (false))) .e) none .e)) none (.n (.n (.n .e (some (.b (false))) .e) none .e) (some (.i .i64 (hour : Int))) (.n (.n .e (some (.i .i64 ((hs.getD hour default).lo + ((0 : Nat) : Int)))) .e) none .e))) : T D) _
      rw [show (hs.getD hour default).lo + ((0 : Nat) : Int) = (hs.getD hour default).lo by omega]
      (repeat' first | exact T.le_e _ | refine T.le_some ?_ rfl ?_ | refine T.le_none ?_ ?_)
    · show T.le ((.n .e (some (wkC last hs step lv ms (.lst 10 (rows seaD L)))) (.n .e (some (.map (E.map pD))) .e)) : T C) _
      (repeat' first | exact T.le_e _ | refine T.le_some ?_ rfl ?_ | refine T.le_none ?_ ?_ | refine T.le_ee ?_ ?_)
  · omega
  intro k hk
  have hk : (k : Int) ≤ (hs.getD hour default).hi + 1 - (hs.getD hour default).lo := hk
  have hn1 := verB_succ E (hour : Int) (wetP (lv.getD row 0)) (hs.getD hour default).lo k
  have hn2 := verB_succ E (hour : Int) (fun h => !wetP (lv.getD row 0) h) (hs.getD hour default).lo k
  have hend : (hs.getD hour default).hi < (hs.getD hour default).lo + (k : Int) → ((hs.getD hour default).hi + 1 - (hs.getD hour default).lo).toNat = k := fun h => by omega
  conv => whnf
  repeat' first | ((first | (with_reducible first | apply WB.tt | apply WB.ff) | apply Rn.seq | apply Rn.reg | apply Rn.drw | apply Rn.blk | apply Rn.skip | apply Rn.ret | apply Rn.exit | apply Rn.cond rfl | refine i64_ (by omega) (by omega) ?_ | refine ne0_ (by omega) ?_ | refine WIx.intsN (by omega) ?_ | refine WIx.rowsN (by omega) ?_) <;> conv => whnf)
  refine WB.dec (fun h => ?_) (fun h => ?_) <;> conv => whnf
  · have hlt : (hs.getD hour default).lo + (k : Int) ≤ (hs.getD hour default).hi := h
    have cw := hw ((hs.getD hour default).lo + (k : Int))
    have hP : wetP (lv.getD row 0) ((hs.getD hour default).lo + (k : Int)) = decide (lv.getD row 0 < (hs.getD hour default).lo + (k : Int)) := rfl
    rw [hP] at hn1 hn2
    generalize verB E (hour : Int) (wetP (lv.getD row 0)) (hs.getD hour default).lo k = A at *
    generalize verB E (hour : Int) (fun h => !wetP (lv.getD row 0) h) (hs.getD hour default).lo k = B at *
    generalize decide (lv.getD row 0 < (hs.getD hour default).lo + (k : Int)) = Q at *
    repeat' first | ((first | (with_reducible first | apply WB.tt | apply WB.ff) | apply Rn.seq | apply Rn.reg | apply Rn.drw | apply Rn.blk | apply Rn.skip | apply Rn.ret | apply Rn.exit | apply Rn.cond rfl | refine i64_ (by omega) (by omega) ?_ | refine ne0_ (by omega) ?_ | refine WIx.intsN (by omega) ?_ | refine WIx.rowsN (by omega) ?_) <;> conv => whnf)
    refine WSt.lkpE (p := ((hour : Int), (hs.getD hour default).lo + (k : Int))) rfl rfl rfl rfl ⟨wf_small (by omega) (by omega), wf_small (by omega) (by omega)⟩ wfE ?_; conv => whnf
    generalize decide (((hour : Int), (hs.getD hour default).lo + (k : Int)) ∈ E) = M at *
    repeat' first | ((first | (with_reducible first | apply WB.tt | apply WB.ff) | apply Rn.seq | apply Rn.reg | apply Rn.drw | apply Rn.blk | apply Rn.skip | apply Rn.ret | apply Rn.exit | apply Rn.cond rfl | refine i64_ (by omega) (by omega) ?_ | refine ne0_ (by omega) ?_ | refine WIx.intsN (by omega) ?_ | refine WIx.rowsN (by omega) ?_) <;> conv => whnf)
    cases M
    all_goals
      cases A
      all_goals
        cases B
        all_goals
          simp only [Bool.or_true, Bool.or_false, Bool.true_or, Bool.false_or, Bool.true_and, Bool.false_and] at hn1 hn2
          repeat' first | ((first | (with_reducible first | apply WB.tt | apply WB.ff) | apply Rn.seq | apply Rn.reg | apply Rn.drw | apply Rn.blk | apply Rn.skip | apply Rn.ret | apply Rn.exit | apply Rn.cond rfl | refine i64_ (by omega) (by omega) ?_ | refine ne0_ (by omega) ?_ | refine WIx.intsN (by omega) ?_ | refine WIx.rowsN (by omega) ?_ | refine WCall.pure (cw) ?_ | (with_reducible first | refine WB.decT (by first | rfl | assumption | omega | exact ⟨rfl, rfl⟩) ?_ | refine WB.decF (by first | assumption | omega) ?_ | refine WB.ndT (by first | rfl | assumption | omega | exact ⟨rfl, rfl⟩) ?_ | refine WB.ndF (by first | assumption | omega) ?_ | apply WB.nt | apply WB.nf | refine WB.dec (fun h => ?_) (fun h => ?_) | refine WB.ndec (fun h => ?_) (fun h => ?_)) | refine WB.mk (fun h => ?_) (fun h => ?_)) <;> conv => whnf) | (refine WB.tt ?_; conv => whnf) | (refine WB.ff ?_; conv => whnf)
          refine Again.to (k + 1) (by omega) (by omega) (Nat.le_refl _) ?_
          refine Shr.of ?_ ?_ rfl rfl
          · show Rel _ _ ((.n (.n (.n (.n .e (some (.mp (.i .h))) .e) (some (.pt .h 0 0)) .e) (some (.i .i64 (row : Int))) (.n (.n .e (some (.b (verB E (hour : Int) (fun h => !wetP (lv.getD row 0) h) (hs.getD hour default).lo (k + 1)))) .e) none .e)) none (.n (.n (.n .e (some (.b (verB E (hour : Int) (wetP (lv.getD row 0)) (hs.getD hour default).lo (k + 1)))) .e) none .e) (some (.i .i64 (hour : Int))) (.n (.n .e (some (.i .i64 ((hs.getD hour default).lo + ((k + 1 : Nat) : Int)))) .e) none .e))) : T D) _
            rw [hn1, hn2]
            (repeat' first | exact Rel.e | refine Rel.some ?_ ?_ ?_ | refine Rel.none ?_ ?_ | refine Rel.ee ?_ ?_)
            all_goals show Fz _ _ _ _
            all_goals first | exact .pu trivial | exact .kpt (show _ < 4 by simp [Pos.nat]) | exact .kmp (show _ < 4 by simp [Pos.nat]) | (refine Fz.i ?_; omega)
          · show Rel _ _ ((.n .e (some (wkC last hs step lv ms (.lst 10 (rows seaD L)))) (.n .e (some (.map (E.map pD))) .e)) : T C) _
            (repeat' first | exact Rel.e | refine Rel.some ?_ ?_ ?_ | refine Rel.none ?_ ?_ | refine Rel.ee ?_ ?_)
            all_goals first
              | exact RO'.of (show _ < 4 by simp [Pos.nat]) (wkC_sh _ _ _ _ _ _ hpt)
              | exact RO'.of (show _ < 4 by simp [Pos.nat]) mapC_sh
  · have he := hend (by omega)
    rw [he]
    unfold verR
    generalize verB E (hour : Int) (wetP (lv.getD row 0)) (hs.getD hour default).lo k = A at *
    generalize verB E (hour : Int) (fun h => !wetP (lv.getD row 0) h) (hs.getD hour default).lo k = B at *
    cases A
    all_goals
      cases B
      all_goals
        repeat' first | ((first | (with_reducible first | apply WB.tt | apply WB.ff) | apply Rn.seq | apply Rn.reg | apply Rn.drw | apply Rn.blk | apply Rn.skip | apply Rn.ret | apply Rn.exit | apply Rn.cond rfl | refine i64_ (by omega) (by omega) ?_ | refine ne0_ (by omega) ?_ | refine WIx.intsN (by omega) ?_ | refine WIx.rowsN (by omega) ?_ | refine WCall.pure (hpt) ?_ | (with_reducible first | refine WB.decT (by first | rfl | assumption | omega | exact ⟨rfl, rfl⟩) ?_ | refine WB.decF (by first | assumption | omega) ?_ | refine WB.ndT (by first | rfl | assumption | omega | exact ⟨rfl, rfl⟩) ?_ | refine WB.ndF (by first | assumption | omega) ?_ | apply WB.nt | apply WB.nf | refine WB.dec (fun h => ?_) (fun h => ?_) | refine WB.ndec (fun h => ?_) (fun h => ?_)) | refine WB.mk (fun h => ?_) (fun h => ?_)) <;> conv => whnf) | (refine WB.tt ?_; conv => whnf) | (refine WB.ff ?_; conv => whnf)
        exact Fin.i rfl rfl
end Go.Ev

namespace Go.Ev
open Go.Proofs
set_option maxRecDepth 100000
def cellB (last : Int) (lv : List Int) (row hour : Int) : Bool := inB row 0 ((lv.length : Int) - 1) && inB hour 0 last
def wetE (last : Int) (hs : List Rg) (step : Int) (lv : List Int) (ms : List Mk) (row hour : Int) : Int := startE last hs step lv ms (cellB last lv row hour)
def wetV (last : Int) (hs : List Rg) (step : Int) (lv : List Int) (ms : List Mk) (row hour : Int) : Int :=
  if wetE last hs step lv ms row hour = 0 then verR (verB (metE (truthS hs step ms) hs.length) hour (wetP (lv.getD row.toNat 0)) (hs.getD hour.toNat default).lo ((hs.getD hour.toNat default).hi + 1 - (hs.getD hour.toNat default).lo).toNat) (verB (metE (truthS hs step ms) hs.length) hour (fun h => !wetP (lv.getD row.toNat 0) h) (hs.getD hour.toNat default).lo ((hs.getD hour.toNat default).hi + 1 - (hs.getD hour.toNat default).lo).toNat) else 0
theorem truthS_wf {hs : List Rg} {step : Int} {ms : List Mk} {last : Int} {lv : List Int} (V : ValidT last hs step lv ms) (hm : manyR hs ≤ 2000) : ∀ c ∈ truthS hs step ms, ∀ i : Nat, wfB .i64 (c i) = true := fun c hc i => by
  obtain ⟨t, ht, rfl⟩ := (mem_truthS V hm).1 hc
  have hl := ((mem_truthsR V hm).1 ht).1
  by_cases hi : i < hs.length
  · have := truth_hts V hm ht hi
    exact wf_small (n := t.getD i 0) (by omega) (by omega)
  · show wfB .i64 (t.getD i 0) = true
    rw [List.getD_eq_getElem?_getD, List.getElem?_eq_none (by omega)]
    rfl
theorem c_Wet (last : Int) (hs : List Rg) (step : Int) (lv : List Int) (ms : List Mk) (row hour : Int) (hl : lv.length ≤ 1000) (hT : faultR last hs step lv ms = 0 → (truthS hs step ms).length ≤ 1000) : PureF Try.prog p33.ix [.ag [.i .i64 last, .lst 2 (rows rgD hs), .i .i64 step, .lst 1 (ints lv), .lst 4 (rows mkD ms)], .i .i64 row, .i .i64 hour] (.tp [.i .i64 (wetV last hs step lv ms row hour), .i .i64 (wetE last hs step lv ms row hour)]) := by
  have iR := c_isRow5 last hs step lv ms hl row
  have iU := c_upTo hour last
  have iS := c_start last hs step lv ms (cellB last lv row hour)
  have hE0 : wetE last hs step lv ms row hour = startE last hs step lv ms (cellB last lv row hour) := rfl
  have hS : cellB last lv row hour = (inB row 0 ((lv.length : Int) - 1) && inB hour 0 last) := rfl
  refine PureF.run fn32 (by simp) (by simp [PuL, PuE, Pu, pu_ints, pu_rg, pu_mk]) ?_; conv => whnf
  by_cases hE : wetE last hs step lv ms row hour = 0
  · have hE' := hE
    rw [hE0] at hE'
    obtain ⟨hf, hb, hp⟩ := start_zero hE'
    obtain ⟨V, hm, _⟩ := fault_zero hf
    have hb' := hb
    rw [hS, Bool.and_eq_true] at hb'
    have b1 := inB_iff.1 hb'.1
    have b2 := inB_iff.1 hb'.2
    rw [startW_ok hE', hE', hb] at iS
    rw [hb'.1] at iR
    rw [hb'.2] at iU
    obtain ⟨r, rfl⟩ := Int.eq_ofNat_of_zero_le b1.1
    obtain ⟨h, rfl⟩ := Int.eq_ofNat_of_zero_le b2.1
    have hh : h < hs.length := by have := V.n; omega
    have cV := c_verdict last hs step lv ms (truthS hs step ms) r h hs.length V.n V.h10 rfl (hT hf) (truthS_wf V hm) (by omega) hl hh V.hv
    have hR : wetV last hs step lv ms ((r : Nat) : Int) ((h : Nat) : Int) = verR (verB (metE (truthS hs step ms) hs.length) (h : Int) (wetP (lv.getD r 0)) (hs.getD h default).lo ((hs.getD h default).hi + 1 - (hs.getD h default).lo).toNat) (verB (metE (truthS hs step ms) hs.length) (h : Int) (fun x => !wetP (lv.getD r 0) x) (hs.getD h default).lo ((hs.getD h default).hi + 1 - (hs.getD h default).lo).toNat) := by
      unfold wetV
      rw [if_pos hE]
      rfl
    rw [hR, hE]
    generalize verR (verB (metE (truthS hs step ms) hs.length) (h : Int) (wetP (lv.getD r 0)) (hs.getD h default).lo ((hs.getD h default).hi + 1 - (hs.getD h default).lo).toNat) (verB (metE (truthS hs step ms) hs.length) (h : Int) (fun x => !wetP (lv.getD r 0) x) (hs.getD h default).lo ((hs.getD h default).hi + 1 - (hs.getD h default).lo).toNat) = v at *
    repeat' first | ((first | (with_reducible first | apply WB.tt | apply WB.ff) | apply Rn.seq | apply Rn.reg | apply Rn.drw | apply Rn.blk | apply Rn.skip | apply Rn.ret | apply Rn.exit | apply Rn.cond rfl | refine i64_ (by omega) (by omega) ?_ | refine ne0_ (by omega) ?_ | refine WIx.intsN (by omega) ?_ | refine WIx.rowsN (by omega) ?_ | refine WCall.pure (iR) ?_ | refine WCall.pure (iU) ?_ | refine WCall.pure (iS) ?_) <;> conv => whnf)
    refine WB.ff ?_; conv => whnf
    repeat' first | ((first | (with_reducible first | apply WB.tt | apply WB.ff) | apply Rn.seq | apply Rn.reg | apply Rn.drw | apply Rn.blk | apply Rn.skip | apply Rn.ret | apply Rn.exit | apply Rn.cond rfl | refine i64_ (by omega) (by omega) ?_ | refine ne0_ (by omega) ?_ | refine WIx.intsN (by omega) ?_ | refine WIx.rowsN (by omega) ?_ | refine WCall.pure (cV) ?_) <;> conv => whnf)
    refine ⟨.inr rfl, _, rfl, ?_⟩
    exact .tp (.cons (.pu trivial) (.cons (.pu trivial) .nil))
  · have hR : wetV last hs step lv ms row hour = 0 := by unfold wetV; rw [if_neg hE]
    have hE' := hE
    rw [hE0] at hE'
    rw [startW_no hE'] at iS
    rw [hR, hE0]
    cases h1 : inB row 0 ((lv.length : Int) - 1) with
    | false =>
      rw [h1] at iR hS
      rw [hS] at iS hE' ⊢
      generalize hx : startE last hs step lv ms (false && inB hour 0 last) = e at *
      repeat' first | ((first | (with_reducible first | apply WB.tt | apply WB.ff) | apply Rn.seq | apply Rn.reg | apply Rn.drw | apply Rn.blk | apply Rn.skip | apply Rn.ret | apply Rn.exit | apply Rn.cond rfl | refine i64_ (by omega) (by omega) ?_ | refine ne0_ (by omega) ?_ | refine WIx.intsN (by omega) ?_ | refine WIx.rowsN (by omega) ?_ | refine WCall.pure (iR) ?_ | refine WCall.pure (iU) ?_ | refine WCall.pure (iS) ?_) <;> conv => whnf)
      refine WB.mk (fun h => ?_) (fun h => ?_) <;> conv => whnf
      · repeat' first | ((first | (with_reducible first | apply WB.tt | apply WB.ff) | apply Rn.seq | apply Rn.reg | apply Rn.drw | apply Rn.blk | apply Rn.skip | apply Rn.ret | apply Rn.exit | apply Rn.cond rfl | refine i64_ (by omega) (by omega) ?_ | refine ne0_ (by omega) ?_ | refine WIx.intsN (by omega) ?_ | refine WIx.rowsN (by omega) ?_) <;> conv => whnf)
        refine ⟨.inr rfl, _, rfl, ?_⟩
        exact .tp (.cons (.pu trivial) (.cons (.pu trivial) .nil))
      · exact absurd (by simpa using h) hE'
    | true =>
      rw [h1] at iR hS
      rw [hS] at iS hE' ⊢
      generalize hx : startE last hs step lv ms (true && inB hour 0 last) = e at *
      repeat' first | ((first | (with_reducible first | apply WB.tt | apply WB.ff) | apply Rn.seq | apply Rn.reg | apply Rn.drw | apply Rn.blk | apply Rn.skip | apply Rn.ret | apply Rn.exit | apply Rn.cond rfl | refine i64_ (by omega) (by omega) ?_ | refine ne0_ (by omega) ?_ | refine WIx.intsN (by omega) ?_ | refine WIx.rowsN (by omega) ?_ | refine WCall.pure (iR) ?_ | refine WCall.pure (iU) ?_ | refine WCall.pure (iS) ?_) <;> conv => whnf)
      refine WB.mk (fun h => ?_) (fun h => ?_) <;> conv => whnf
      · repeat' first | ((first | (with_reducible first | apply WB.tt | apply WB.ff) | apply Rn.seq | apply Rn.reg | apply Rn.drw | apply Rn.blk | apply Rn.skip | apply Rn.ret | apply Rn.exit | apply Rn.cond rfl | refine i64_ (by omega) (by omega) ?_ | refine ne0_ (by omega) ?_ | refine WIx.intsN (by omega) ?_ | refine WIx.rowsN (by omega) ?_) <;> conv => whnf)
        refine ⟨.inr rfl, _, rfl, ?_⟩
        exact .tp (.cons (.pu trivial) (.cons (.pu trivial) .nil))
      · exact absurd (by simpa using h) hE'
def upN (L : List (List Int)) (level : Int) (z : Nat) : Nat := (L.filter fun t => decide (level < t.getD z 0)).length
def verN (L : List (List Int)) (level : Int) (z : Nat) : Int := if upN L level z = L.length then 1 else if upN L level z = 0 then 2 else 3
end Go.Ev

namespace Go.Ev
open Go.Proofs
theorem truth_rng {last : Int} {hs : List Rg} {step : Int} {lv : List Int} {ms : List Mk} (V : ValidT last hs step lv ms) (hm : manyR hs ≤ 2000) {t : List Int} (ht : t ∈ truthsR hs step ms) {h : Nat} (hh : h < hs.length) : (hs.getD h default).lo ≤ t.getD h 0 ∧ t.getD h 0 ≤ (hs.getD h default).hi := by
  obtain ⟨hl, h1, _⟩ := (mem_truthsR V hm).1 ht
  unfold listedR at h1
  rw [Bool.and_eq_true, List.all_eq_true] at h1
  have h2 := h1.1 h (List.mem_range.2 (by omega))
  unfold inAt at h2
  exact inB_iff.1 h2
theorem verB_any {L : List (Nat → Int)} {n h : Nat} {p : Int → Bool} {lo hi : Int} (hn : h < n) (hr : ∀ c ∈ L, lo ≤ c h ∧ c h ≤ hi) : verB (metE L n) (h : Int) p lo (hi + 1 - lo).toNat = L.any fun c => p (c h) := by
  unfold verB
  rw [Bool.eq_iff_iff, List.any_eq_true, List.any_eq_true]
  constructor
  · rintro ⟨i, hi2, hp⟩
    rw [Bool.and_eq_true, decide_eq_true_iff] at hp
    obtain ⟨c, hc, q, hq, e⟩ := (mem_metE L).1 hp.1
    simp only [Prod.mk.injEq] at e
    have : h = q := by omega
    subst this
    exact ⟨c, hc, by rw [← e.2]; exact hp.2⟩
  · rintro ⟨c, hc, hp⟩
    have := hr c hc
    refine ⟨(c h - lo).toNat, List.mem_range.2 (by omega), ?_⟩
    have e : lo + ((c h - lo).toNat : Int) = c h := by omega
    rw [e, Bool.and_eq_true, decide_eq_true_iff]
    exact ⟨(mem_metE L).2 ⟨c, hc, h, hn, rfl⟩, hp⟩
theorem ver_same {last : Int} {hs : List Rg} {step : Int} {lv : List Int} {ms : List Mk} (V : ValidT last hs step lv ms) (hm : manyR hs ≤ 2000) (h0 : 0 < (truthS hs step ms).length) {h : Nat} (hh : h < hs.length) (level : Int) :
    verR (verB (metE (truthS hs step ms) hs.length) (h : Int) (wetP level) (hs.getD h default).lo ((hs.getD h default).hi + 1 - (hs.getD h default).lo).toNat) (verB (metE (truthS hs step ms) hs.length) (h : Int) (fun x => !wetP level x) (hs.getD h default).lo ((hs.getD h default).hi + 1 - (hs.getD h default).lo).toNat) = verN (truthsR hs step ms) level h := by
  have hr : ∀ c ∈ truthS hs step ms, (hs.getD h default).lo ≤ c h ∧ c h ≤ (hs.getD h default).hi := fun c hc => by
    obtain ⟨t, ht, rfl⟩ := (mem_truthS V hm).1 hc
    exact truth_rng V hm ht hh
  have hany : ∀ p : Int → Bool, (truthS hs step ms).any (fun c => p (c h)) = (truthsR hs step ms).any (fun t => p (t.getD h 0)) := fun p => by
    rw [Bool.eq_iff_iff, List.any_eq_true, List.any_eq_true]
    constructor
    · rintro ⟨c, hc, hp⟩
      obtain ⟨t, ht, rfl⟩ := (mem_truthS V hm).1 hc
      exact ⟨t, ht, hp⟩
    · rintro ⟨t, ht, hp⟩
      exact ⟨wantS t, (mem_truthS V hm).2 ⟨t, ht, rfl⟩, hp⟩
  rw [verB_any hh hr, verB_any (p := fun x => !wetP level x) hh hr, hany (wetP level), hany fun x => !wetP level x]
  have hne : truthsR hs step ms ≠ [] := fun e => by rw [(truth_nil V hm).2 e] at h0; cases h0
  generalize truthsR hs step ms = L at *
  unfold verR verN upN
  by_cases hall : ∀ t ∈ L, wetP level (t.getD h 0) = true
  · have e1 : L.any (fun t => !wetP level (t.getD h 0)) = false := by
      rw [Bool.eq_false_iff]
      intro hx
      obtain ⟨t, ht, hp⟩ := List.any_eq_true.1 hx
      rw [hall t ht] at hp
      cases hp
    have e2 : (L.filter fun t => decide (level < t.getD h 0)) = L := List.filter_eq_self.2 fun t ht => hall t ht
    rw [e1, e2, if_pos rfl]
    rfl
  · have e1 : L.any (fun t => !wetP level (t.getD h 0)) = true := by
      rw [List.any_eq_true]
      have : ¬ ∀ t, ¬ (t ∈ L ∧ (!wetP level (t.getD h 0)) = true) := fun hx => hall fun t ht => by
        have := hx t
        cases hw : wetP level (t.getD h 0) with
        | true => rfl
        | false => exact absurd ⟨ht, by rw [hw]; rfl⟩ this
      exact Classical.byContradiction fun hx => this fun t hp => hx ⟨t, hp⟩
    have e2 : ¬ (L.filter fun t => decide (level < t.getD h 0)).length = L.length := fun e => hall fun t ht => by
      exact List.length_filter_eq_length_iff.1 e t ht
    rw [e1, if_neg e2]
    by_cases hno : ∀ t ∈ L, wetP level (t.getD h 0) = false
    · have e3 : L.any (fun t => wetP level (t.getD h 0)) = false := by
        rw [Bool.eq_false_iff]
        intro hx
        obtain ⟨t, ht, hp⟩ := List.any_eq_true.1 hx
        rw [hno t ht] at hp
        cases hp
      have e4 : (L.filter fun t => decide (level < t.getD h 0)) = [] := List.filter_eq_nil_iff.2 fun t ht => by
        have h2 : decide (level < t.getD h 0) = false := hno t ht
        rw [h2]; simp
      rw [e3, e4, List.length_nil, if_pos rfl]
      rfl
    · have e3 : L.any (fun t => wetP level (t.getD h 0)) = true := by
        rw [List.any_eq_true]
        exact Classical.byContradiction fun hx => hno fun t ht => by
          cases hw : wetP level (t.getD h 0) with
          | false => rfl
          | true => exact absurd ⟨t, ht, hw⟩ hx
      have e4 : ¬ (L.filter fun t => decide (level < t.getD h 0)).length = 0 := fun e => hno fun t ht => by
        have h1 := List.filter_eq_nil_iff.1 (List.length_eq_zero_iff.1 e) t ht
        show decide (level < t.getD h 0) = false
        simpa using h1
      rw [e3, if_neg e4]
      rfl
end Go.Ev

namespace Go.Ev
open Go.Proofs
theorem verN_two {L : List (List Int)} {level : Int} {h : Nat} (hne : 0 < L.length) : verN L level h = 2 ↔ ∀ t ∈ L, t.getD h 0 ≤ level := by
  unfold verN upN
  constructor
  · intro hv t ht
    by_cases h1 : (L.filter fun t => decide (level < t.getD h 0)).length = L.length
    · rw [if_pos h1] at hv; exact absurd hv (by decide)
    · rw [if_neg h1] at hv
      by_cases h2 : (L.filter fun t => decide (level < t.getD h 0)).length = 0
      · have h3 := List.filter_eq_nil_iff.1 (List.length_eq_zero_iff.1 h2) t ht
        have h4 : ¬ level < t.getD h 0 := by simpa using h3
        omega
      · rw [if_neg h2] at hv; exact absurd hv (by decide)
  · intro hall
    have e : (L.filter fun t => decide (level < t.getD h 0)) = [] := List.filter_eq_nil_iff.2 fun t ht => by
      have := hall t ht
      have h2 : decide (level < t.getD h 0) = false := decide_eq_false (by omega)
      rw [h2]; simp
    rw [e, List.length_nil, if_neg (by omega), if_pos rfl]
theorem verN_range (L : List (List Int)) (level : Int) (h : Nat) : verN L level h = 1 ∨ verN L level h = 2 ∨ verN L level h = 3 := by
  unfold verN
  by_cases h1 : upN L level h = L.length
  · rw [if_pos h1]; exact .inl rfl
  · rw [if_neg h1]
    by_cases h2 : upN L level h = 0
    · rw [if_pos h2]; exact .inr (.inl rfl)
    · rw [if_neg h2]; exact .inr (.inr rfl)
end Go.Ev
