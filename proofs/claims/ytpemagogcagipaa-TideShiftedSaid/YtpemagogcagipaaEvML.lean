import Derived.Test.YtpemagogcagipaaEvMK
set_option linter.all false
namespace Go.Ev
open Go.Proofs
set_option maxRecDepth 100000
def spanB (last from' till : Int) : Bool := inB from' 0 till && inB till 0 last
def dryE (last : Int) (hs : List Rg) (step : Int) (lv : List Int) (ms : List Mk) (from' till : Int) : Int := startE last hs step lv ms (spanB last from' till)
def topS (L : List (Nat → Int)) (h : Nat) : Int := (bdR (L.map fun c => c h)).2
def hiF (L : List (Nat → Int)) (f : Nat) (m : Int) (k : Nat) : Int := max m (topS L (f + k))
def dryT (L : List (Nat → Int)) (f n : Nat) : Int := (List.range n).foldl (hiF L f) 0
theorem dryT_succ (L : List (Nat → Int)) (f n : Nat) : dryT L f (n + 1) = max (dryT L f n) (topS L (f + n)) := by
  unfold dryT
  rw [List.range_succ, List.foldl_append]
  rfl
def dryR (last : Int) (hs : List Rg) (step : Int) (lv : List Int) (ms : List Mk) (from' till : Int) : Int :=
  if dryE last hs step lv ms from' till = 0 then dryT (truthS hs step ms) from'.toNat (till + 1 - from').toNat else 0
theorem c_Dry (last : Int) (hs : List Rg) (step : Int) (lv : List Int) (ms : List Mk) (from' till : Int) (hT : faultR last hs step lv ms = 0 → (truthS hs step ms).length ≤ 1000) : PureF Try.prog p41.ix [.ag [.i .i64 last, .lst 2 (rows rgD hs), .i .i64 step, .lst 1 (ints lv), .lst 4 (rows mkD ms)], .i .i64 from', .i .i64 till] (.tp [.i .i64 (dryR last hs step lv ms from' till), .i .i64 (dryE last hs step lv ms from' till)]) := by
  have iU := c_upTo from' till
  have iV := c_upTo till last
  have iS := c_start last hs step lv ms (spanB last from' till)
  have hE0 : dryE last hs step lv ms from' till = startE last hs step lv ms (spanB last from' till) := rfl
  refine PureF.run fn40 (by simp) (by simp [PuL, PuE, Pu, pu_ints, pu_rg, pu_mk]) ?_; conv => whnf
  by_cases hE : dryE last hs step lv ms from' till = 0
  · have hE' := hE
    rw [hE0] at hE'
    obtain ⟨hf, hb, hp⟩ := start_zero hE'
    obtain ⟨V, _, _⟩ := fault_zero hf
    have hb' := hb
    unfold spanB at hb'
    rw [Bool.and_eq_true] at hb'
    have b1 := inB_iff.1 hb'.1
    have b2 := inB_iff.1 hb'.2
    rw [startW_ok hE', hE', hb] at iS
    rw [hb'.1] at iU
    rw [hb'.2] at iV
    obtain ⟨f, rfl⟩ := Int.eq_ofNat_of_zero_le b1.1
    obtain ⟨u, rfl⟩ := Int.eq_ofNat_of_zero_le b2.1
    have hu : u < 10 := by have := V.n; have := V.h10; omega
    have hfu : f ≤ u := by omega
    have hR : dryR last hs step lv ms ((f : Nat) : Int) ((u : Nat) : Int) = dryT (truthS hs step ms) f (u + 1 - f) := by
      unfold dryR
      rw [if_pos hE]
      congr 1
      omega
    have cB := fun (h : Nat) (hh : h < 10) => c_bounds last hs step lv ms (truthS hs step ms) hp (hT hf) p76 (h : Int) (fun c => c h) fun c _ => c_height last hs step lv ms (.lst 10 (rows seaD (truthS hs step ms))) (pu_seas _) c h hh
    rw [hR, hE]
    generalize truthS hs step ms = L at *
    repeat' first | ((first | (with_reducible first | apply WB.tt | apply WB.ff) | apply Rn.seq | apply Rn.reg | apply Rn.drw | apply Rn.blk | apply Rn.skip | apply Rn.ret | apply Rn.exit | apply Rn.cond rfl | refine i64_ (by omega) (by omega) ?_ | refine ne0_ (by omega) ?_ | refine WIx.intsN (by omega) ?_ | refine WIx.rowsN (by omega) ?_ | refine WCall.pure (iU) ?_ | refine WCall.pure (iV) ?_ | refine WCall.pure (iS) ?_) <;> conv => whnf)
    refine WB.ff ?_; conv => whnf
    repeat' first | ((first | (with_reducible first | apply WB.tt | apply WB.ff) | apply Rn.seq | apply Rn.reg | apply Rn.drw | apply Rn.blk | apply Rn.skip | apply Rn.ret | apply Rn.exit | apply Rn.cond rfl | refine i64_ (by omega) (by omega) ?_ | refine ne0_ (by omega) ?_ | refine WIx.intsN (by omega) ?_ | refine WIx.rowsN (by omega) ?_) <;> conv => whnf)
    refine Rn.loop (fun j : Nat => ⟨(.n (.n (.n .e none (.n .e (some (.i .i64 ((f + j : Nat) : Int))) .e)) none .e) none (.n (.n (.n .e (some (.pt (.o .h) 0 0)) .e) none .e) (some (.i .i64 (u : Int))) (.n (.n .e (some (.i .i64 (dryT L f j))) .e) none .e))), (.n (.n .e (some (wkC last hs step lv ms (.lst 10 (rows seaD L)))) .e) none .e), .i .h, none⟩) (fun j => f + j ≤ u + 1) (fun j => u + 1 - j) 0 ?_ ?_ ?_
    · (first | (refine X.le.mk ?_ ?_ (Nat.le_refl _) rfl rfl) | skip) <;> (repeat' first | exact T.le_e _ | refine T.le_some ?_ ?_ ?_ | refine T.le_none ?_ ?_ | rfl)
    · omega
    intro j hj
    have hj : f + j ≤ u + 1 := hj
    have hpt : Pu (.lst 10 (rows seaD L)) := pu_seas L
    conv => whnf
    repeat' first | ((first | (with_reducible first | apply WB.tt | apply WB.ff) | apply Rn.seq | apply Rn.reg | apply Rn.drw | apply Rn.blk | apply Rn.skip | apply Rn.ret | apply Rn.exit | apply Rn.cond rfl | refine i64_ (by omega) (by omega) ?_ | refine ne0_ (by omega) ?_ | refine WIx.intsN (by omega) ?_ | refine WIx.rowsN (by omega) ?_) <;> conv => whnf)
    refine WB.dec (fun h => ?_) (fun h => ?_) <;> conv => whnf
    · have hlt : f + j ≤ u := by omega
      have cb := cB (f + j) (by omega)
      have hn := dryT_succ L f j
      repeat' first | ((first | (with_reducible first | apply WB.tt | apply WB.ff) | apply Rn.seq | apply Rn.reg | apply Rn.drw | apply Rn.blk | apply Rn.skip | apply Rn.ret | apply Rn.exit | apply Rn.cond rfl | refine i64_ (by omega) (by omega) ?_ | refine ne0_ (by omega) ?_ | refine WIx.intsN (by omega) ?_ | refine WIx.rowsN (by omega) ?_ | refine WCall.pure (cb) ?_) <;> conv => whnf)
      refine Again.to (j + 1) (by omega) (by omega) (Nat.le_refl _) ?_
      refine Shr.of ?_ ?_ rfl rfl
      · show Rel _ _ ((.n (.n (.n .e none (.n .e (some (.i .i64 ((f + (j + 1) : Nat) : Int))) .e)) none .e) none (.n (.n (.n .e (some (.pt (.o .h) 0 0)) .e) none .e) (some (.i .i64 (u : Int))) (.n (.n .e (some (.i .i64 (dryT L f (j + 1)))) .e) none .e))) : T D) _
        rw [hn]
        (repeat' first | exact Rel.e | refine Rel.some ?_ ?_ ?_ | refine Rel.none ?_ ?_)
        all_goals show Fz _ _ _ _
        all_goals first | exact .pu trivial | exact .kpt (show _ < 3 by simp [Pos.nat])
      · show Rel _ _ ((.n (.n .e (some (wkC last hs step lv ms (.lst 10 (rows seaD L)))) .e) none .e) : T C) _
        (repeat' first | exact Rel.e | refine Rel.some ?_ ?_ ?_ | refine Rel.none ?_ ?_ | refine Rel.ee ?_ ?_)
        exact RO'.of (show _ < 3 by simp [Pos.nat]) (wkC_sh _ _ _ _ _ _ hpt)
    · have he : u + 1 - f = j := by omega
      rw [he]
      repeat' first | ((first | (with_reducible first | apply WB.tt | apply WB.ff) | apply Rn.seq | apply Rn.reg | apply Rn.drw | apply Rn.blk | apply Rn.skip | apply Rn.ret | apply Rn.exit | apply Rn.cond rfl | refine i64_ (by omega) (by omega) ?_ | refine ne0_ (by omega) ?_ | refine WIx.intsN (by omega) ?_ | refine WIx.rowsN (by omega) ?_) <;> conv => whnf)
      refine ⟨.inr rfl, _, rfl, ?_⟩
      exact .tp (.cons (.pu trivial) (.cons (.pu trivial) .nil))
  · have hR : dryR last hs step lv ms from' till = 0 := by unfold dryR; rw [if_neg hE]
    have hE' := hE
    rw [hE0] at hE'
    rw [startW_no hE'] at iS
    rw [hR, hE0]
    have hS : spanB last from' till = (inB from' 0 till && inB till 0 last) := rfl
    cases h1 : inB from' 0 till with
    | false =>
      rw [h1] at iU hS
      rw [hS] at iS hE' ⊢
      generalize hx : startE last hs step lv ms (false && inB till 0 last) = e at *
      repeat' first | ((first | (with_reducible first | apply WB.tt | apply WB.ff) | apply Rn.seq | apply Rn.reg | apply Rn.drw | apply Rn.blk | apply Rn.skip | apply Rn.ret | apply Rn.exit | apply Rn.cond rfl | refine i64_ (by omega) (by omega) ?_ | refine ne0_ (by omega) ?_ | refine WIx.intsN (by omega) ?_ | refine WIx.rowsN (by omega) ?_ | refine WCall.pure (iU) ?_ | refine WCall.pure (iV) ?_ | refine WCall.pure (iS) ?_) <;> conv => whnf)
      refine WB.mk (fun h => ?_) (fun h => ?_) <;> conv => whnf
      · repeat' first | ((first | (with_reducible first | apply WB.tt | apply WB.ff) | apply Rn.seq | apply Rn.reg | apply Rn.drw | apply Rn.blk | apply Rn.skip | apply Rn.ret | apply Rn.exit | apply Rn.cond rfl | refine i64_ (by omega) (by omega) ?_ | refine ne0_ (by omega) ?_ | refine WIx.intsN (by omega) ?_ | refine WIx.rowsN (by omega) ?_) <;> conv => whnf)
        refine ⟨.inr rfl, _, rfl, ?_⟩
        exact .tp (.cons (.pu trivial) (.cons (.pu trivial) .nil))
      · exact absurd (by simpa using h) hE'
    | true =>
      rw [h1] at iU hS
      rw [hS] at iS hE' ⊢
      generalize hx : startE last hs step lv ms (true && inB till 0 last) = e at *
      repeat' first | ((first | (with_reducible first | apply WB.tt | apply WB.ff) | apply Rn.seq | apply Rn.reg | apply Rn.drw | apply Rn.blk | apply Rn.skip | apply Rn.ret | apply Rn.exit | apply Rn.cond rfl | refine i64_ (by omega) (by omega) ?_ | refine ne0_ (by omega) ?_ | refine WIx.intsN (by omega) ?_ | refine WIx.rowsN (by omega) ?_ | refine WCall.pure (iU) ?_ | refine WCall.pure (iV) ?_ | refine WCall.pure (iS) ?_) <;> conv => whnf)
      refine WB.mk (fun h => ?_) (fun h => ?_) <;> conv => whnf
      · repeat' first | ((first | (with_reducible first | apply WB.tt | apply WB.ff) | apply Rn.seq | apply Rn.reg | apply Rn.drw | apply Rn.blk | apply Rn.skip | apply Rn.ret | apply Rn.exit | apply Rn.cond rfl | refine i64_ (by omega) (by omega) ?_ | refine ne0_ (by omega) ?_ | refine WIx.intsN (by omega) ?_ | refine WIx.rowsN (by omega) ?_) <;> conv => whnf)
        refine ⟨.inr rfl, _, rfl, ?_⟩
        exact .tp (.cons (.pu trivial) (.cons (.pu trivial) .nil))
      · exact absurd (by simpa using h) hE'
end Go.Ev

namespace Go.Ev
open Go.Proofs
set_option maxRecDepth 100000
end Go.Ev

namespace Go.Ev
open Go.Proofs
theorem dryT_le (L : List (Nat → Int)) (f : Nat) (n : Int) : ∀ m, dryT L f m ≤ n ↔ 0 ≤ n ∧ ∀ k, k < m → topS L (f + k) ≤ n
  | 0 => by
    show (0 : Int) ≤ n ↔ _
    exact ⟨fun h => ⟨h, fun k hk => by omega⟩, fun h => h.1⟩
  | m + 1 => by
    rw [dryT_succ]
    have ih := dryT_le L f n m
    constructor
    · intro h
      obtain ⟨h1, h2⟩ := ih.1 (by omega)
      refine ⟨h1, fun k hk => ?_⟩
      by_cases e : k = m
      · subst e; omega
      · exact h2 k (by omega)
    · rintro ⟨h1, h2⟩
      have := ih.2 ⟨h1, fun k hk => h2 k (by omega)⟩
      have := h2 m (by omega)
      omega
theorem topR_le {t : List Int} {f u : Nat} (hfu : f ≤ u) (hu : u < t.length) (n : Int) : topR t (f : Int) (u : Int) ≤ n ↔ ∀ h, f ≤ h → h ≤ u → t.getD h 0 ≤ n := by
  unfold topR
  have e1 : (f : Int).toNat = f := by omega
  have e2 : ((u : Int) + 1 - (f : Int)).toNat = u + 1 - f := by omega
  rw [e1, e2]
  obtain ⟨u1, u2, u3⟩ := foldl_maxS ((t.drop f).take (u + 1 - f)) (t.getD f 0)
  constructor
  · intro hn h h1 h2
    have hm : t.getD h 0 ∈ (t.drop f).take (u + 1 - f) := by
      rw [List.mem_iff_getElem]
      refine ⟨h - f, by rw [List.length_take, List.length_drop]; omega, ?_⟩
      rw [List.getElem_take, List.getElem_drop]
      simp [List.getD, show f + (h - f) = h by omega, show h < t.length by omega]
    exact Int.le_trans (u2 _ hm) hn
  · intro hn
    rcases u3 with e | e
    · rw [e]; exact hn f (Nat.le_refl _) hfu
    · obtain ⟨k, hk, e⟩ := List.mem_iff_getElem.1 e
      rw [List.length_take, List.length_drop] at hk
      rw [← e, List.getElem_take, List.getElem_drop]
      have := hn (f + k) (by omega) (by omega)
      simpa [List.getD, show f + k < t.length by omega] using this
theorem truth_hts {last : Int} {hs : List Rg} {step : Int} {lv : List Int} {ms : List Mk} (V : ValidT last hs step lv ms) (hm : manyR hs ≤ 2000) {t : List Int} (ht : t ∈ truthsR hs step ms) {h : Nat} (hh : h < hs.length) : 0 ≤ t.getD h 0 ∧ t.getD h 0 ≤ 99 := by
  obtain ⟨hl, h1, _⟩ := (mem_truthsR V hm).1 ht
  unfold listedR at h1
  rw [Bool.and_eq_true, List.all_eq_true] at h1
  have h2 := h1.1 h (List.mem_range.2 (by omega))
  unfold inAt at h2
  have h3 := inB_iff.1 h2
  have h4 := V.hv (hs.getD h default) (getD_mem hh)
  omega
end Go.Ev
