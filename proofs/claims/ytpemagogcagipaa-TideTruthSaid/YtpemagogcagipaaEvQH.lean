import Derived.Test.YtpemagogcagipaaEvQG
import Derived.Test.YtpemagogcagipaaEvFt
set_option linter.all false
namespace Go.Ev
open Go.Proofs
set_option maxRecDepth 100000
theorem c_in (n lo hi : Int) : PureF Try.prog p54.ix [.i .i64 n, .ag [.i .i64 lo, .i .i64 hi]] (.b (inB n lo hi)) := by
  refine PureF.run fn53 (by simp) (by simp [PuL, PuE, Pu]) ?_; conv => whnf
  by_cases h1 : lo ≤ n
  · by_cases h2 : n ≤ hi
    · rw [inB_iff.2 ⟨h1, h2⟩]
      repeat' first | ((first | (with_reducible first | apply WB.tt | apply WB.ff) | apply Rn.seq | apply Rn.reg | apply Rn.drw | apply Rn.blk | apply Rn.skip | apply Rn.ret | apply Rn.exit | apply Rn.cond rfl | refine i64_ (by omega) (by omega) ?_ | refine ne0_ (by omega) ?_ | refine WIx.intsN (by omega) ?_ | refine WIx.rowsN (by omega) ?_ | refine WCall.pure (rfl) ?_ | (with_reducible first | refine WB.decT (by first | rfl | assumption | omega | exact ⟨rfl, rfl⟩) ?_ | refine WB.decF (by first | assumption | omega) ?_ | refine WB.ndT (by first | rfl | assumption | omega | exact ⟨rfl, rfl⟩) ?_ | refine WB.ndF (by first | assumption | omega) ?_ | apply WB.nt | apply WB.nf | refine WB.dec (fun h => ?_) (fun h => ?_) | refine WB.ndec (fun h => ?_) (fun h => ?_)) | refine WB.mk (fun h => ?_) (fun h => ?_)) <;> conv => whnf) | (refine WB.tt ?_; conv => whnf) | (refine WB.ff ?_; conv => whnf)
      all_goals first | exact Fin.b rfl rfl | (exfalso; omega) | exact Fin.b rfl (decide_eq_true h2)
    · have e : inB n lo hi = false := by cases e : inB n lo hi with | false => rfl | true => exact absurd (inB_iff.1 e).2 h2
      rw [e]
      repeat' first | ((first | (with_reducible first | apply WB.tt | apply WB.ff) | apply Rn.seq | apply Rn.reg | apply Rn.drw | apply Rn.blk | apply Rn.skip | apply Rn.ret | apply Rn.exit | apply Rn.cond rfl | refine i64_ (by omega) (by omega) ?_ | refine ne0_ (by omega) ?_ | refine WIx.intsN (by omega) ?_ | refine WIx.rowsN (by omega) ?_ | refine WCall.pure (rfl) ?_ | (with_reducible first | refine WB.decT (by first | rfl | assumption | omega | exact ⟨rfl, rfl⟩) ?_ | refine WB.decF (by first | assumption | omega) ?_ | refine WB.ndT (by first | rfl | assumption | omega | exact ⟨rfl, rfl⟩) ?_ | refine WB.ndF (by first | assumption | omega) ?_ | apply WB.nt | apply WB.nf | refine WB.dec (fun h => ?_) (fun h => ?_) | refine WB.ndec (fun h => ?_) (fun h => ?_)) | refine WB.mk (fun h => ?_) (fun h => ?_)) <;> conv => whnf) | (refine WB.tt ?_; conv => whnf) | (refine WB.ff ?_; conv => whnf)
      all_goals first | exact Fin.b rfl rfl | (exfalso; omega) | exact Fin.b rfl (decide_eq_false h2)
  · have e : inB n lo hi = false := by cases e : inB n lo hi with | false => rfl | true => exact absurd (inB_iff.1 e).1 h1
    rw [e]
    repeat' first | ((first | (with_reducible first | apply WB.tt | apply WB.ff) | apply Rn.seq | apply Rn.reg | apply Rn.drw | apply Rn.blk | apply Rn.skip | apply Rn.ret | apply Rn.exit | apply Rn.cond rfl | refine i64_ (by omega) (by omega) ?_ | refine ne0_ (by omega) ?_ | refine WIx.intsN (by omega) ?_ | refine WIx.rowsN (by omega) ?_ | refine WCall.pure (rfl) ?_ | (with_reducible first | refine WB.decT (by first | rfl | assumption | omega | exact ⟨rfl, rfl⟩) ?_ | refine WB.decF (by first | assumption | omega) ?_ | refine WB.ndT (by first | rfl | assumption | omega | exact ⟨rfl, rfl⟩) ?_ | refine WB.ndF (by first | assumption | omega) ?_ | apply WB.nt | apply WB.nf | refine WB.dec (fun h => ?_) (fun h => ?_) | refine WB.ndec (fun h => ?_) (fun h => ?_)) | refine WB.mk (fun h => ?_) (fun h => ?_)) <;> conv => whnf) | (refine WB.tt ?_; conv => whnf) | (refine WB.ff ?_; conv => whnf)
    all_goals first | exact Fin.b rfl rfl | (exfalso; omega)
def wordR (l : List Int) (a : Nat) : Int := if l = [] then 0 else l.getD ((a : Int).tmod (l.length : Int)).toNat 0
theorem wordR_bd {l : List Int} (h : ∀ n ∈ l, 0 ≤ n ∧ n ≤ 65535) (a : Nat) : 0 ≤ wordR l a ∧ wordR l a ≤ 65535 := by
  unfold wordR
  by_cases e : l = []
  · rw [if_pos e]; omega
  · rw [if_neg e]
    have hl := List.length_pos_iff.2 e
    have m1 := Int.tmod_nonneg (l.length : Int) (show (0 : Int) ≤ (a : Int) by omega)
    have m2 := Int.tmod_lt_of_pos (a : Int) (show (0 : Int) < (l.length : Int) by omega)
    exact h _ (getD_mem (by omega))
theorem pu_nums {k : IntKind} (l : List Int) : PuE (numsK k l) := PuE_iff.2 fun r hr => by
  obtain ⟨n, _, rfl⟩ := List.mem_map.1 hr
  simp [PuL, Pu]
theorem c_word (l : List Int) (hl : ∀ n ∈ l, 0 ≤ n ∧ n ≤ 65535) (a : Nat) : PureF Try.prog p86.ix [.lst 1 (numsK .u16 l), .i .i64 (a : Int)] (.i .i64 (wordR l a)) := by
  have e1 : (numsK .u16 l).length = l.length := by simp [numsK]
  have hw := wordR_bd hl a
  refine PureF.run fn85 (by simp) (by simp [PuL, PuE, Pu, pu_nums]) ?_; conv => whnf
  by_cases e : l = []
  · subst e
    repeat' first | ((first | (with_reducible first | apply WB.tt | apply WB.ff) | apply Rn.seq | apply Rn.reg | apply Rn.drw | apply Rn.blk | apply Rn.skip | apply Rn.ret | apply Rn.exit | apply Rn.cond rfl | refine i64_ (by omega) (by omega) ?_ | refine ne0_ (by omega) ?_ | refine WIx.intsN (by omega) ?_ | refine WIx.rowsN (by omega) ?_ | refine WCall.pure (rfl) ?_ | (with_reducible first | refine WB.decT (by first | rfl | assumption | omega | exact ⟨rfl, rfl⟩) ?_ | refine WB.decF (by first | assumption | omega) ?_ | refine WB.ndT (by first | rfl | assumption | omega | exact ⟨rfl, rfl⟩) ?_ | refine WB.ndF (by first | assumption | omega) ?_ | apply WB.nt | apply WB.nf | refine WB.dec (fun h => ?_) (fun h => ?_) | refine WB.ndec (fun h => ?_) (fun h => ?_)) | refine WB.mk (fun h => ?_) (fun h => ?_)) <;> conv => whnf) | (refine WB.tt ?_; conv => whnf) | (refine WB.ff ?_; conv => whnf)
    all_goals first | exact Fin.i rfl rfl | (exfalso; omega) | exact absurd h (by decide)
  · have hp := List.length_pos_iff.2 e
    have m1 := Int.tmod_nonneg (l.length : Int) (show (0 : Int) ≤ (a : Int) by omega)
    have m2 := Int.tmod_lt_of_pos (a : Int) (show (0 : Int) < (l.length : Int) by omega)
    have hv : wordR l a = l.getD ((a : Int).tmod (l.length : Int)).toNat 0 := by unfold wordR; rw [if_neg e]
    rw [hv] at hw ⊢
    repeat' first | ((first | (with_reducible first | apply WB.tt | apply WB.ff) | apply Rn.seq | apply Rn.reg | apply Rn.drw | apply Rn.blk | apply Rn.skip | apply Rn.ret | apply Rn.exit | apply Rn.cond rfl | refine i64_ (by omega) (by omega) ?_ | refine ne0_ (by omega) ?_ | refine WIx.intsN (by omega) ?_ | refine WIx.rowsN (by omega) ?_ | refine WCall.pure (rfl) ?_ | (with_reducible first | refine WB.decT (by first | rfl | assumption | omega | exact ⟨rfl, rfl⟩) ?_ | refine WB.decF (by first | assumption | omega) ?_ | refine WB.ndT (by first | rfl | assumption | omega | exact ⟨rfl, rfl⟩) ?_ | refine WB.ndF (by first | assumption | omega) ?_ | apply WB.nt | apply WB.nf | refine WB.dec (fun h => ?_) (fun h => ?_) | refine WB.ndec (fun h => ?_) (fun h => ?_)) | refine WB.mk (fun h => ?_) (fun h => ?_)) <;> conv => whnf) | (refine WB.tt ?_; conv => whnf) | (refine WB.ff ?_; conv => whnf)
    rw [e1]
    refine WIx.map (f := fun n => [D.i .u16 n]) (l := l) m1 m2 ?_; conv => whnf
    rw [show (default : Int) = 0 from rfl]
    refine And.intro (InR.i64 (by omega) (by omega)) ?_; conv => whnf
    repeat' first | ((first | (with_reducible first | apply WB.tt | apply WB.ff) | apply Rn.seq | apply Rn.reg | apply Rn.drw | apply Rn.blk | apply Rn.skip | apply Rn.ret | apply Rn.exit | apply Rn.cond rfl | refine i64_ (by omega) (by omega) ?_ | refine ne0_ (by omega) ?_ | refine WIx.intsN (by omega) ?_ | refine WIx.rowsN (by omega) ?_ | refine WCall.pure (rfl) ?_ | (with_reducible first | refine WB.decT (by first | rfl | assumption | omega | exact ⟨rfl, rfl⟩) ?_ | refine WB.decF (by first | assumption | omega) ?_ | refine WB.ndT (by first | rfl | assumption | omega | exact ⟨rfl, rfl⟩) ?_ | refine WB.ndF (by first | assumption | omega) ?_ | apply WB.nt | apply WB.nf | refine WB.dec (fun h => ?_) (fun h => ?_) | refine WB.ndec (fun h => ?_) (fun h => ?_)) | refine WB.mk (fun h => ?_) (fun h => ?_)) <;> conv => whnf) | (refine WB.tt ?_; conv => whnf) | (refine WB.ff ?_; conv => whnf)
    all_goals first | exact Fin.i rfl rfl | (exfalso; omega)
def mkW (last : Int) (s : List Int) (w : Int) : Mk := ⟨w.tmod (last + 1), min last (w.tmod (last + 1) + (w.tdiv 16).tmod 4), max 0 (topR s (w.tmod (last + 1)) (min last (w.tmod (last + 1) + (w.tdiv 16).tmod 4)) - (w.tdiv 64).tmod 3), min 99 (topR s (w.tmod (last + 1)) (min last (w.tmod (last + 1) + (w.tdiv 16).tmod 4)) + (w.tdiv 256).tmod 3)⟩
def mkJ (last : Int) (s : List Int) (l : List Int) (j : Nat) : List Mk := (List.range j).map fun i => mkW last s (wordR l (i + 1))
theorem mkJ_succ (last : Int) (s : List Int) (l : List Int) (j : Nat) : mkJ last s l (j + 1) = mkJ last s l j ++ [mkW last s (wordR l (j + 1))] := by
  unfold mkJ
  rw [List.range_succ, List.map_append]
  rfl
def cntW (l : List Int) : Nat := ((wordR l 0).tmod 6).toNat
theorem cntW_le {l : List Int} (hl : ∀ n ∈ l, 0 ≤ n ∧ n ≤ 65535) : cntW l ≤ 5 := by
  have h := wordR_bd hl 0
  have m1 := Int.tmod_nonneg 6 h.1
  have m2 := Int.tmod_lt_of_pos (wordR l 0) (show (0 : Int) < 6 by omega)
  unfold cntW
  omega
theorem top_bd {s : List Int} (h : Hts s) {f : Nat} {t : Int} (hf : f < s.length) : 0 ≤ topR s (f : Int) t ∧ topR s (f : Int) t ≤ 99 := by
  unfold topR
  obtain ⟨p1, p2, p3⟩ := foldl_maxS ((s.drop ((f : Int)).toNat).take (t + 1 - (f : Int)).toNat) (s.getD ((f : Int)).toNat 0)
  have h0 := h.at ((f : Int)).toNat
  refine ⟨by omega, ?_⟩
  rcases p3 with e | e
  · rw [e]; exact h0.2
  · exact (h _ (List.mem_of_mem_drop (List.mem_of_mem_take e))).2
def slV : List Mk → D
  | [] => .ns
  | _ :: s => .sl (.o (.i .h)) 0 (s.length + 1) s.length 4
def blV : List Mk → Option C
  | [] => none
  | a :: s => some (.cells false ((mkF (a :: s)).map fun d => Cell.o d s.length) (s.length + 1))
def nxV : List Mk → Pos
  | [] => .o (.o .h)
  | _ :: _ => .i (.i .h)
theorem slV_snoc (a : Mk) (s : List Mk) (x : Mk) : slV (a :: (s ++ [x])) = .sl (.o (.i .h)) 0 (s.length + 1 + 1) (s.length + 1) 4 := by simp [slV]
theorem blV_snoc (a : Mk) (s : List Mk) (x : Mk) : blV (a :: (s ++ [x])) = some (.cells false ((mkF (a :: s) ++ mkD x).map fun d => Cell.o d (s.length + 1)) (s.length + 1 + 1)) := by
  have h2 : mkF (a :: (s ++ [x])) = mkF (a :: s) ++ mkD x := mkF_snoc (a :: s) x
  simp [blV, h2]
def mwS (last : Int) (hs : List Rg) (step : Int) (lv : List Int) (ms : List Mk) (l s : List Int) (A : List Mk) (j : Nat) : X := ⟨(.n (.n (.n .e (some (.pt .h 0 0)) (.n .e (some (.i .i64 (j : Int))) .e)) none (.n (.n .e (some (.lst 1 (ints s))) .e) none .e)) none (.n .e (some (.lst 1 (numsK .u16 l))) (.n (.n .e (some (.pt (.i .h) 0 0)) .e) (some (.pt (.o .h) 0 0)) .e))), .n (.n .e (some resC) (.n .e (blV A) .e)) (some (tabC last hs step lv ms)) (.n .e (some (outC last step lv (.lst 2 (rows rgD hs)) (slV A))) .e), nxV A, none⟩
set_option maxHeartbeats 4000000 in
theorem c_Marked (last : Int) (hs : List Rg) (step : Int) (lv : List Int) (ms : List Mk) (which : Int) (l : List Int) (hl : ∀ n ∈ l, 0 ≤ n ∧ n ≤ 65535) (w1 : 0 ≤ which ∧ which ≤ 65535) (hv : Vr hs) (h10 : hs.length ≤ 10) (hn : (hs.length : Int) = last + 1) (h1 : 1 ≤ hs.length) (q : Nat) (hq : which.tmod ((listsR hs step).length : Int) = (q : Int)) (hql : q < (listsR hs step).length) (s : List Int) (hs' : (listsR hs step).getD q default = s) (hsl : s.length = hs.length) (hts : Hts s) :
    PureF Try.prog p53.ix [.ag [.i .i64 last, .lst 2 (rows rgD hs), .i .i64 step, .lst 1 (ints lv), .lst 4 (rows mkD ms)], .i .u16 which, .lst 1 (numsK .u16 l)] (.tp [.ag [.i .i64 last, .lst 2 (rows rgD hs), .i .i64 step, .lst 1 (ints lv), .lst 4 (rows mkD (mkJ last s l (cntW l)))], .lst 1 (ints s)]) := by
  have iL := c_Lists last hs step lv ms hv (by omega)
  have el := rows_length tD (listsR hs step)
  have iW0 := c_word l hl 0
  have hw0 := wordR_bd hl 0
  have c0 := Int.tmod_nonneg 6 hw0.1
  have hcw := cntW_le hl
  have hce : (wordR l 0).tmod 6 = ((cntW l : Nat) : Int) := by unfold cntW; omega
  refine PureF.run fn52 (by simp) (by simp [PuL, PuE, Pu, pu_ints, pu_rg, pu_mk, pu_nums]) ?_; conv => whnf
  repeat' first | ((first | (with_reducible first | apply WB.tt | apply WB.ff) | apply Rn.seq | apply Rn.reg | apply Rn.drw | apply Rn.blk | apply Rn.skip | apply Rn.ret | apply Rn.exit | apply Rn.cond rfl | refine i64_ (by omega) (by omega) ?_ | refine ne0_ (by omega) ?_ | refine WIx.intsN (by omega) ?_ | refine WIx.rowsN (by omega) ?_ | refine WCall.pure (iL) ?_ | (with_reducible first | refine WB.decT (by first | rfl | assumption | omega | exact ⟨rfl, rfl⟩) ?_ | refine WB.decF (by first | assumption | omega) ?_ | refine WB.ndT (by first | rfl | assumption | omega | exact ⟨rfl, rfl⟩) ?_ | refine WB.ndF (by first | assumption | omega) ?_ | apply WB.nt | apply WB.nf | refine WB.dec (fun h => ?_) (fun h => ?_) | refine WB.ndec (fun h => ?_) (fun h => ?_)) | refine WB.mk (fun h => ?_) (fun h => ?_)) <;> conv => whnf) | (refine WB.tt ?_; conv => whnf) | (refine WB.ff ?_; conv => whnf)
  rw [el, hq]
  refine WIx.rowsN hql ?_; conv => whnf
  rw [hs']
  repeat' first | ((first | (with_reducible first | apply WB.tt | apply WB.ff) | apply Rn.seq | apply Rn.reg | apply Rn.drw | apply Rn.blk | apply Rn.skip | apply Rn.ret | apply Rn.exit | apply Rn.cond rfl | refine i64_ (by omega) (by omega) ?_ | refine ne0_ (by omega) ?_ | refine WIx.intsN (by omega) ?_ | refine WIx.rowsN (by omega) ?_ | refine WCall.pure (iL) ?_ | (with_reducible first | refine WB.decT (by first | rfl | assumption | omega | exact ⟨rfl, rfl⟩) ?_ | refine WB.decF (by first | assumption | omega) ?_ | refine WB.ndT (by first | rfl | assumption | omega | exact ⟨rfl, rfl⟩) ?_ | refine WB.ndF (by first | assumption | omega) ?_ | apply WB.nt | apply WB.nf | refine WB.dec (fun h => ?_) (fun h => ?_) | refine WB.ndec (fun h => ?_) (fun h => ?_)) | refine WB.mk (fun h => ?_) (fun h => ?_)) <;> conv => whnf) | (refine WB.tt ?_; conv => whnf) | (refine WB.ff ?_; conv => whnf)
  refine Rn.loop (fun j : Nat => mwS last hs step lv ms l s (mkJ last s l j) j) (fun j => j ≤ cntW l) (fun j => cntW l - j) 0 ?_ ?_ ?_
  · refine X.le.mk ?_ ?_ (Nat.le_refl _) rfl rfl
    · show T.le ((.n (.n (.n .e (some (.pt .h 0 0)) (.n .e (some (.i .i64 0)) .e)) none (.n (.n .e (some (.lst 1 (ints s))) .e) none .e)) none (.n .e (some (.lst 1 (numsK .u16 l))) (.n (.n .e (some (.pt (.i .h) 0 0)) .e) (some (.pt (.o .h) 0 0)) .e))) : T D) _
      (repeat' first | exact T.le_e _ | refine T.le_some ?_ rfl ?_ | refine T.le_none ?_ ?_)
    · show T.le (.n (.n .e (some resC) (.n .e none .e)) (some (tabC last hs step lv ms)) (.n .e (some (outC last step lv (.lst 2 (rows rgD hs)) .ns)) .e)) _
      (repeat' first | exact T.le_e _ | refine T.le_some ?_ rfl ?_ | refine T.le_none ?_ ?_ | refine T.le_ee ?_ ?_)
  · exact Nat.zero_le _
  intro j hj
  have hj : j ≤ cntW l := hj
  have hsc := mkJ_succ last s l j
  have hAl : (mkJ last s l j).length = j := by simp [mkJ]
  have hend : j = cntW l → mkJ last s l j = mkJ last s l (cntW l) := fun e => by rw [e]
  generalize hA : mkJ last s l j = A at *
  conv => whnf
  repeat' first | ((first | (with_reducible first | apply WB.tt | apply WB.ff) | apply Rn.seq | apply Rn.reg | apply Rn.drw | apply Rn.blk | apply Rn.skip | apply Rn.ret | apply Rn.exit | apply Rn.cond rfl | refine i64_ (by omega) (by omega) ?_ | refine ne0_ (by omega) ?_ | refine WIx.intsN (by omega) ?_ | refine WIx.rowsN (by omega) ?_ | refine WCall.pure (iW0) ?_) <;> conv => whnf)
  rw [hce]
  refine WB.dec (fun h => ?_) (fun h => ?_) <;> conv => whnf
  · have hlt : j < cntW l := by omega
    have iW := c_word l hl (j + 1)
    have hw := wordR_bd hl (j + 1)
    rw [show ((j + 1 : Nat) : Int) = (j : Int) + 1 by omega] at iW
    generalize hwj : wordR l (j + 1) = w at *
    have f1 := Int.tmod_nonneg (last + 1) hw.1
    have f2 := Int.tmod_lt_of_pos w (show (0 : Int) < last + 1 by omega)
    have d1 := Int.tdiv_nonneg hw.1 (show (0 : Int) ≤ 16 by omega)
    have d2 := Int.tdiv_nonneg hw.1 (show (0 : Int) ≤ 64 by omega)
    have d3 := Int.tdiv_nonneg hw.1 (show (0 : Int) ≤ 256 by omega)
    have e1 := Int.tmod_nonneg 4 d1
    have e2 := Int.tmod_nonneg 3 d2
    have e3 := Int.tmod_nonneg 3 d3
    have g1 := Int.tmod_lt_of_pos (w.tdiv 16) (show (0 : Int) < 4 by omega)
    have g2 := Int.tmod_lt_of_pos (w.tdiv 64) (show (0 : Int) < 3 by omega)
    have g3 := Int.tmod_lt_of_pos (w.tdiv 256) (show (0 : Int) < 3 by omega)
    have k1 := Int.tdiv_le_self 16 hw.1
    have k2 := Int.tdiv_le_self 64 hw.1
    have k3 := Int.tdiv_le_self 256 hw.1
    obtain ⟨f, hf⟩ := Int.eq_ofNat_of_zero_le f1
    have iT := c_Top s f (min last ((f : Int) + (w.tdiv 16).tmod 4)) (by omega) (by omega) (by omega)
    have htb := top_bd hts (f := f) (t := min last ((f : Int) + (w.tdiv 16).tmod 4)) (by omega)
    have hmk : mkW last s w = ⟨(f : Int), min last ((f : Int) + (w.tdiv 16).tmod 4), max 0 (topR s (f : Int) (min last ((f : Int) + (w.tdiv 16).tmod 4)) - (w.tdiv 64).tmod 3), min 99 (topR s (f : Int) (min last ((f : Int) + (w.tdiv 16).tmod 4)) + (w.tdiv 256).tmod 3)⟩ := by unfold mkW; rw [hf]
    rw [hmk] at hsc
    obtain ⟨xm, hxm⟩ : ∃ xm : Mk, (⟨(f : Int), min last ((f : Int) + (w.tdiv 16).tmod 4), max 0 (topR s (f : Int) (min last ((f : Int) + (w.tdiv 16).tmod 4)) - (w.tdiv 64).tmod 3), min 99 (topR s (f : Int) (min last ((f : Int) + (w.tdiv 16).tmod 4)) + (w.tdiv 256).tmod 3)⟩ : Mk) = xm := ⟨_, rfl⟩
    rw [hxm] at hsc
    cases A with
    | nil =>
      repeat' first | ((first | (with_reducible first | apply WB.tt | apply WB.ff) | apply Rn.seq | apply Rn.reg | apply Rn.drw | apply Rn.blk | apply Rn.skip | apply Rn.ret | apply Rn.exit | apply Rn.cond rfl | refine i64_ (by omega) (by omega) ?_ | refine ne0_ (by omega) ?_ | refine WIx.intsN (by omega) ?_ | refine WIx.rowsN (by omega) ?_ | refine WCall.pure (iW) ?_ | (with_reducible first | refine WB.decT (by first | rfl | assumption | omega | exact ⟨rfl, rfl⟩) ?_ | refine WB.decF (by first | assumption | omega) ?_ | refine WB.ndT (by first | rfl | assumption | omega | exact ⟨rfl, rfl⟩) ?_ | refine WB.ndF (by first | assumption | omega) ?_ | apply WB.nt | apply WB.nf | refine WB.dec (fun h => ?_) (fun h => ?_) | refine WB.ndec (fun h => ?_) (fun h => ?_)) | refine WB.mk (fun h => ?_) (fun h => ?_)) <;> conv => whnf) | (refine WB.tt ?_; conv => whnf) | (refine WB.ff ?_; conv => whnf)
      rw [hf]
      repeat' first | ((first | (with_reducible first | apply WB.tt | apply WB.ff) | apply Rn.seq | apply Rn.reg | apply Rn.drw | apply Rn.blk | apply Rn.skip | apply Rn.ret | apply Rn.exit | apply Rn.cond rfl | refine i64_ (by omega) (by omega) ?_ | refine ne0_ (by omega) ?_ | refine WIx.intsN (by omega) ?_ | refine WIx.rowsN (by omega) ?_ | refine WCall.pure (iT) ?_ | (with_reducible first | refine WB.decT (by first | rfl | assumption | omega | exact ⟨rfl, rfl⟩) ?_ | refine WB.decF (by first | assumption | omega) ?_ | refine WB.ndT (by first | rfl | assumption | omega | exact ⟨rfl, rfl⟩) ?_ | refine WB.ndF (by first | assumption | omega) ?_ | apply WB.nt | apply WB.nf | refine WB.dec (fun h => ?_) (fun h => ?_) | refine WB.ndec (fun h => ?_) (fun h => ?_)) | refine WB.mk (fun h => ?_) (fun h => ?_)) <;> conv => whnf) | (refine WB.tt ?_; conv => whnf) | (refine WB.ff ?_; conv => whnf)
      refine WSt.app_first (r := mkD xm) (by rfl) (.inl rfl) (by rfl) (by rfl) (by rw [← hxm]; rfl) (by rfl) ?_; conv => whnf
      repeat' first | ((first | (with_reducible first | apply WB.tt | apply WB.ff) | apply Rn.seq | apply Rn.reg | apply Rn.drw | apply Rn.blk | apply Rn.skip | apply Rn.ret | apply Rn.exit | apply Rn.cond rfl | refine i64_ (by omega) (by omega) ?_ | refine ne0_ (by omega) ?_ | refine WIx.intsN (by omega) ?_ | refine WIx.rowsN (by omega) ?_ | refine WCall.pure (iT) ?_ | (with_reducible first | refine WB.decT (by first | rfl | assumption | omega | exact ⟨rfl, rfl⟩) ?_ | refine WB.decF (by first | assumption | omega) ?_ | refine WB.ndT (by first | rfl | assumption | omega | exact ⟨rfl, rfl⟩) ?_ | refine WB.ndF (by first | assumption | omega) ?_ | apply WB.nt | apply WB.nf | refine WB.dec (fun h => ?_) (fun h => ?_) | refine WB.ndec (fun h => ?_) (fun h => ?_)) | refine WB.mk (fun h => ?_) (fun h => ?_)) <;> conv => whnf) | (refine WB.tt ?_; conv => whnf) | (refine WB.ff ?_; conv => whnf)
      refine Again.to (j + 1) (by omega) (by omega) (by show (nxV (mkJ last s l j)).nat ≤ (nxV (mkJ last s l (j + 1))).nat; rw [hA, hsc]; exact (show 4 ≤ 7 by omega)) ?_
      show Shr _ (mwS last hs step lv ms l s (mkJ last s l (j + 1)) (j + 1))
      rw [hsc]
      focus
        refine Shr.of ?_ ?_ rfl rfl
        · show Rel _ _ ((.n (.n (.n .e (some (.pt .h 0 0)) (.n .e (some (.i .i64 ((j + 1 : Nat) : Int))) .e)) none (.n (.n .e (some (.lst 1 (ints s))) .e) none .e)) none (.n .e (some (.lst 1 (numsK .u16 l))) (.n (.n .e (some (.pt (.i .h) 0 0)) .e) (some (.pt (.o .h) 0 0)) .e))) : T D) _
          (repeat' first | exact Rel.e | refine Rel.some ?_ ?_ ?_ | refine Rel.none ?_ ?_ | refine Rel.ee ?_ ?_)
          all_goals show Fz _ _ _ _
          all_goals first | exact .pu trivial | exact .pu (pu_ints _) | exact .pu (pu_nums _) | exact .kpt (show _ < 7 by simp [Pos.nat])
        · show Rel _ _ (.n (.n .e (some resC) (.n .e (some (.cells false ((mkF [xm]).map fun d => Cell.o d 0) 1)) .e)) (some (tabC last hs step lv ms)) (.n .e (some (outC last step lv (.lst 2 (rows rgD hs)) (.sl (.o (.i .h)) 0 1 0 4))) .e)) _
          rw [show mkF [xm] = mkD xm by simp [mkF, rows]]
          (repeat' first | exact Rel.e | refine Rel.some ?_ ?_ ?_ | refine Rel.none ?_ ?_ | refine Rel.ee ?_ ?_)
          all_goals first
            | exact RO'.of (show _ < 7 by simp [Pos.nat]) resC_sh
            | exact RO'.of (show _ < 7 by simp [Pos.nat]) (tabC_sh last hs step lv ms)
            | exact RO'.of (show _ < 7 by simp [Pos.nat]) (outC_sh (.pu (pu_rg _)) (.pu trivial))
            | exact RO'.of (show _ < 7 by simp [Pos.nat]) (outC_sh (.pu (pu_rg _)) (.ksl (show _ < 7 by simp [Pos.nat])))
            | exact RO'.of (show _ < 7 by simp [Pos.nat]) (ShC.same (ShC.cn (.pu trivial) (ShC.cn (.pu trivial) (ShC.cn (.pu trivial) (ShC.cn (.pu trivial) ShC.nl)))))
    | cons a A =>
      have hs5 : A.length + 1 ≤ 5 := by have : A.length + 1 = j := hAl; omega
      repeat' first | ((first | (with_reducible first | apply WB.tt | apply WB.ff) | apply Rn.seq | apply Rn.reg | apply Rn.drw | apply Rn.blk | apply Rn.skip | apply Rn.ret | apply Rn.exit | apply Rn.cond rfl | refine i64_ (by omega) (by omega) ?_ | refine ne0_ (by omega) ?_ | refine WIx.intsN (by omega) ?_ | refine WIx.rowsN (by omega) ?_ | refine WCall.pure (iW) ?_ | (with_reducible first | refine WB.decT (by first | rfl | assumption | omega | exact ⟨rfl, rfl⟩) ?_ | refine WB.decF (by first | assumption | omega) ?_ | refine WB.ndT (by first | rfl | assumption | omega | exact ⟨rfl, rfl⟩) ?_ | refine WB.ndF (by first | assumption | omega) ?_ | apply WB.nt | apply WB.nf | refine WB.dec (fun h => ?_) (fun h => ?_) | refine WB.ndec (fun h => ?_) (fun h => ?_)) | refine WB.mk (fun h => ?_) (fun h => ?_)) <;> conv => whnf) | (refine WB.tt ?_; conv => whnf) | (refine WB.ff ?_; conv => whnf)
      rw [hf]
      repeat' first | ((first | (with_reducible first | apply WB.tt | apply WB.ff) | apply Rn.seq | apply Rn.reg | apply Rn.drw | apply Rn.blk | apply Rn.skip | apply Rn.ret | apply Rn.exit | apply Rn.cond rfl | refine i64_ (by omega) (by omega) ?_ | refine ne0_ (by omega) ?_ | refine WIx.intsN (by omega) ?_ | refine WIx.rowsN (by omega) ?_ | refine WCall.pure (iT) ?_ | (with_reducible first | refine WB.decT (by first | rfl | assumption | omega | exact ⟨rfl, rfl⟩) ?_ | refine WB.decF (by first | assumption | omega) ?_ | refine WB.ndT (by first | rfl | assumption | omega | exact ⟨rfl, rfl⟩) ?_ | refine WB.ndF (by first | assumption | omega) ?_ | apply WB.nt | apply WB.nf | refine WB.dec (fun h => ?_) (fun h => ?_) | refine WB.ndec (fun h => ?_) (fun h => ?_)) | refine WB.mk (fun h => ?_) (fun h => ?_)) <;> conv => whnf) | (refine WB.tt ?_; conv => whnf) | (refine WB.ff ?_; conv => whnf)
      refine WSt.app_one (id := .o (.i .h)) (st := A.length) (len := A.length + 1) (cur := A.length + 1) (ds := mkF (a :: A)) (r := mkD xm) (by rfl) (by rfl) (by rfl) (by rw [← hxm]; rfl) (by rfl) (by rfl) (by rw [mkF_length]; rfl) (by rfl) (by rfl) (by omega) (by rfl) ?_; conv => whnf
      repeat' first | ((first | (with_reducible first | apply WB.tt | apply WB.ff) | apply Rn.seq | apply Rn.reg | apply Rn.drw | apply Rn.blk | apply Rn.skip | apply Rn.ret | apply Rn.exit | apply Rn.cond rfl | refine i64_ (by omega) (by omega) ?_ | refine ne0_ (by omega) ?_ | refine WIx.intsN (by omega) ?_ | refine WIx.rowsN (by omega) ?_ | refine WCall.pure (iT) ?_ | (with_reducible first | refine WB.decT (by first | rfl | assumption | omega | exact ⟨rfl, rfl⟩) ?_ | refine WB.decF (by first | assumption | omega) ?_ | refine WB.ndT (by first | rfl | assumption | omega | exact ⟨rfl, rfl⟩) ?_ | refine WB.ndF (by first | assumption | omega) ?_ | apply WB.nt | apply WB.nf | refine WB.dec (fun h => ?_) (fun h => ?_) | refine WB.ndec (fun h => ?_) (fun h => ?_)) | refine WB.mk (fun h => ?_) (fun h => ?_)) <;> conv => whnf) | (refine WB.tt ?_; conv => whnf) | (refine WB.ff ?_; conv => whnf)
      refine Again.to (j + 1) (by omega) (by omega) (by show (nxV (mkJ last s l j)).nat ≤ (nxV (mkJ last s l (j + 1))).nat; rw [hA, hsc]; exact (show 7 ≤ 7 by omega)) ?_
      show Shr _ (mwS last hs step lv ms l s (mkJ last s l (j + 1)) (j + 1))
      rw [hsc, List.cons_append]
      focus
        refine Shr.of ?_ ?_ rfl rfl
        · show Rel _ _ ((.n (.n (.n .e (some (.pt .h 0 0)) (.n .e (some (.i .i64 ((j + 1 : Nat) : Int))) .e)) none (.n (.n .e (some (.lst 1 (ints s))) .e) none .e)) none (.n .e (some (.lst 1 (numsK .u16 l))) (.n (.n .e (some (.pt (.i .h) 0 0)) .e) (some (.pt (.o .h) 0 0)) .e))) : T D) _
          (repeat' first | exact Rel.e | refine Rel.some ?_ ?_ ?_ | refine Rel.none ?_ ?_ | refine Rel.ee ?_ ?_)
          all_goals show Fz _ _ _ _
          all_goals first | exact .pu trivial | exact .pu (pu_ints _) | exact .pu (pu_nums _) | exact .kpt (show _ < 7 by simp [Pos.nat])
        · show Rel _ _ (.n (.n .e (some resC) (.n .e (blV (a :: (A ++ [xm]))) .e)) (some (tabC last hs step lv ms)) (.n .e (some (outC last step lv (.lst 2 (rows rgD hs)) (slV (a :: (A ++ [xm]))))) .e)) _
          rw [slV_snoc, blV_snoc]
          (repeat' first | exact Rel.e | refine Rel.some ?_ ?_ ?_ | refine Rel.none ?_ ?_ | refine Rel.ee ?_ ?_)
          all_goals first
            | exact RO'.of (show _ < 7 by simp [Pos.nat]) resC_sh
            | exact RO'.of (show _ < 7 by simp [Pos.nat]) (tabC_sh last hs step lv ms)
            | exact RO'.of (show _ < 7 by simp [Pos.nat]) (outC_sh (.pu (pu_rg _)) (.pu trivial))
            | exact RO'.of (show _ < 7 by simp [Pos.nat]) (outC_sh (.pu (pu_rg _)) (.ksl (show _ < 7 by simp [Pos.nat])))
            | (refine RO'.of (show _ < 7 by simp [Pos.nat]) ?_
               exact ShC.grown (by omega) (PuL_iff.2 fun d hd => by
                 rcases List.mem_append.1 hd with hd | hd
                 · exact PuL_iff.1 (pu_mkF _) d hd
                 · exact PuL_iff.1 (show PuL (mkD _) by simp [mkD, PuL, Pu]) d hd))
  · have he := hend (by omega)
    cases A with
    | nil =>
      repeat' first | ((first | (with_reducible first | apply WB.tt | apply WB.ff) | apply Rn.seq | apply Rn.reg | apply Rn.drw | apply Rn.blk | apply Rn.skip | apply Rn.ret | apply Rn.exit | apply Rn.cond rfl | refine i64_ (by omega) (by omega) ?_ | refine ne0_ (by omega) ?_ | refine WIx.intsN (by omega) ?_ | refine WIx.rowsN (by omega) ?_) <;> conv => whnf)
      refine ⟨.inr rfl, _, rfl, ?_⟩
      rw [← he]
      exact .tp (.cons (.ag (.cons (.pu trivial) (.cons (.pu (pu_rg _)) (.cons (.pu trivial) (.cons (.pu (pu_ints _)) (.cons .ns .nil)))))) (.cons (.pu (pu_ints _)) .nil))
    | cons a A =>
      repeat' first | ((first | (with_reducible first | apply WB.tt | apply WB.ff) | apply Rn.seq | apply Rn.reg | apply Rn.drw | apply Rn.blk | apply Rn.skip | apply Rn.ret | apply Rn.exit | apply Rn.cond rfl | refine i64_ (by omega) (by omega) ?_ | refine ne0_ (by omega) ?_ | refine WIx.intsN (by omega) ?_ | refine WIx.rowsN (by omega) ?_) <;> conv => whnf)
      refine ⟨.inr rfl, _, rfl, ?_⟩
      rw [← he]
      refine .tp (.cons (.ag (.cons (.pu trivial) (.cons (.pu (pu_rg _)) (.cons (.pu trivial) (.cons (.pu (pu_ints _)) (.cons ?_ .nil)))))) (.cons (.pu (pu_ints _)) .nil))
      exact Frz.whole (cs := (mkF (a :: A)).map fun d => Cell.o d A.length) (cur := A.length + 1) rfl (by simp [rows]) (mk_four _) (by rfl) (pu_mk _)
end Go.Ev
