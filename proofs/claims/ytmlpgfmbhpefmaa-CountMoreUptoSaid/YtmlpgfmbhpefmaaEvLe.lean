import Derived.Test.YtmlpgfmbhpefmaaEvLd
import Derived.Test.YtmlpgfmbhpefmaaEvKu
set_option linter.all false
namespace Go.Ev
open Go.Proofs
set_option maxRecDepth 100000
end Go.Ev

namespace Go.Ev
open Go.Proofs
set_option maxRecDepth 100000
theorem seen_le (R : List (List Int)) (i : Nat) (v : Int) : (seenR R i v).length ≤ R.length := List.length_filter_le _ _
def lfV (R : List (List Int)) (i : Nat) : Int := max ((seenR R i 0).length : Int) ((seenR R i 1).length : Int)
def lookS (R : List (List Int)) : Nat → Int × Int
  | 0 => (0, 1099511627776)
  | j + 1 => bif decide (lfV R j < (lookS R j).2) then ((j : Int), lfV R j) else lookS R j
theorem lfV_bd (R : List (List Int)) (i : Nat) (hR : R.length ≤ 1000) : 0 ≤ lfV R i ∧ lfV R i ≤ R.length := by
  have h1 := seen_le R i 0
  have h2 := seen_le R i 1
  unfold lfV
  omega
theorem lookS_spec (R : List (List Int)) (hR : R.length ≤ 1000) : ∀ j, 0 < j → ∃ k : Nat, k < j ∧ lookS R j = ((k : Int), lfV R k) ∧ (∀ i, i < j → lfV R k ≤ lfV R i) ∧ ∀ i, i < k → lfV R k < lfV R i
  | 0, h => absurd h (Nat.lt_irrefl 0)
  | 1, _ => by
    have hb := lfV_bd R 0 hR
    refine ⟨0, by omega, ?_, fun i hi => ?_, fun i hi => by omega⟩
    · show (bif decide (lfV R 0 < 1099511627776) then (((0 : Nat) : Int), lfV R 0) else (0, 1099511627776)) = _
      rw [decide_eq_true (by omega)]; rfl
    · rw [show i = 0 by omega]; exact Int.le_refl _
  | j + 2, _ => by
    obtain ⟨k, hk, he, ha, hf⟩ := lookS_spec R hR (j + 1) (by omega)
    have e : lookS R (j + 2) = bif decide (lfV R (j + 1) < (lookS R (j + 1)).2) then (((j + 1 : Nat) : Int), lfV R (j + 1)) else lookS R (j + 1) := rfl
    rw [he] at e
    by_cases h : lfV R (j + 1) < lfV R k
    · refine ⟨j + 1, by omega, ?_, fun i hi => ?_, fun i hi => ?_⟩
      · rw [e, decide_eq_true h]; rfl
      · by_cases hij : i < j + 1
        · have := ha i hij; omega
        · rw [show i = j + 1 by omega]; exact Int.le_refl _
      · have := ha i hi; omega
    · refine ⟨k, by omega, ?_, fun i hi => ?_, hf⟩
      · rw [e, decide_eq_false h]; rfl
      · by_cases hij : i < j + 1
        · exact ha i hij
        · rw [show i = j + 1 by omega]; omega
end Go.Ev

namespace Go.Ev
open Go.Proofs
set_option maxRecDepth 100000
theorem Fin.three {sl : T D} {ob : T C} {nx p q r : Pos} {u u' u'' v v' v'' : D} {e : Ex} (he : e = .normal ∨ e = .ret) (hg : sl.get p = some u) (hg' : sl.get q = some u') (hg'' : sl.get r = some u'') (hz : Frz ob u v) (hz' : Frz ob u' v') (hz'' : Frz ob u'' v'') : Fin [.t p, .t q, .t r] (.tp [v, v', v'']) e ⟨sl, ob, nx, none⟩ :=
  ⟨he, .tp [u, u', u''], by simp only [results, hg, hg', hg'']; rfl, .tp (.cons hz (.cons hz' (.cons hz'' .nil)))⟩
theorem seen_sum (i : Nat) : ∀ (R : List (List Int)), (∀ x ∈ R, Bits x) → (R.map fun x => x.getD i 0).sum = ((seenR R i 1).length : Int) ∧ (R.length : Int) - ((seenR R i 1).length : Int) = ((seenR R i 0).length : Int)
  | [], _ => ⟨rfl, rfl⟩
  | x :: R, h => by
    obtain ⟨h1, h2⟩ := seen_sum i R fun y hy => h y (by simp [hy])
    have hb := bit_at (h x (by simp)) i
    have e : ∀ v, seenR (x :: R) i v = bif decide (x.getD i 0 = v) then x :: seenR R i v else seenR R i v := fun v => by
      unfold seenR
      rw [List.filter_cons]
      by_cases hd : x.getD i 0 = v
      · rw [decide_eq_true hd]; rfl
      · rw [decide_eq_false hd]; rfl
    rw [List.map_cons, List.sum_cons, h1, e 1, e 0]
    rcases hb with hb | hb <;> rw [hb] <;> simp <;> omega
theorem lf_sum (l : List Int) (Tf : List (Nat → Int)) (hl : l.length ≤ 9) (hbit : ∀ c ∈ Tf, bit2 c) (i : Nat) (hi : i < l.length) : max ((Tf.map (chG (i : Int) (i : Int))).sum) ((Tf.length : Int) - (Tf.map (chG (i : Int) (i : Int))).sum) = lfV (tsL l Tf) i := by
  have hb : ∀ x ∈ tsL l Tf, Bits x := fun x hx => by
    obtain ⟨c, hc, rfl⟩ := List.mem_map.1 hx
    exact fun y hy => (hbit c hc).bits y (List.mem_of_mem_take hy)
  obtain ⟨h1, h2⟩ := seen_sum i (tsL l Tf) hb
  have e : (tsL l Tf).map (fun x => x.getD i 0) = Tf.map (chG (i : Int) (i : Int)) := by
    unfold tsL
    rw [List.map_map]
    refine List.map_congr_left fun c _ => ?_
    show ((lst9 c).take l.length).getD i 0 = _
    rw [chG_at i (by omega), take_at hl hi]
  have e2 : (tsL l Tf).length = Tf.length := by simp [tsL]
  rw [e] at h1
  rw [e2] at h2
  unfold lfV
  omega
theorem c_leftAfter (l : List Int) (cs : List Cnt) (wr off : Int) (Tf : List (Nat → Int)) (hT : Tf.length ≤ 1000) (hbit : ∀ c ∈ Tf, bit2 c) (hl : l.length ≤ 9) (i : Nat) (hi : i < l.length) : PureF Try.prog p83.ix [.ag [.lst 1 (ints l), .lst 3 (rows cntD cs), .i .i64 wr, .i .i64 off, tl9 Tf], .i .i64 (i : Int)] (.i .i64 (lfV (tsL l Tf) i)) := by
  have e2 := rows_length nums Tf
  have pt := pu_tl9 Tf
  have cA := c_answers l cs wr off Tf hT p76 (i : Int) (i : Int) (chG (i : Int) (i : Int)) (fun c hc => c_chairsOf l cs wr off (i : Int) (i : Int) _ pt (by omega) (by omega) (by omega) c (hbit c hc))
  have hlf := lf_sum l Tf hl hbit i hi
  have hsb : ∀ j, 0 ≤ ((Tf.take j).map (chG (i : Int) (i : Int))).sum ∧ ((Tf.take j).map (chG (i : Int) (i : Int))).sum ≤ j := fun j => by
    have := bits_sum ((Tf.take j).map (chG (i : Int) (i : Int))) fun x hx => by
      obtain ⟨c, hc, rfl⟩ := List.mem_map.1 hx
      rw [chG_at i (by omega)]
      exact hbit c (List.mem_of_mem_take hc) i
    rw [List.length_map, List.length_take] at this
    omega
  have hEg : ∀ j, j < Tf.length → (Tf.map (chG (i : Int) (i : Int))).getD j 0 = chG (i : Int) (i : Int) (Tf.getD j default) := fun j hj => by simp [List.getD, hj]
  have hEl : (ints (Tf.map (chG (i : Int) (i : Int)))).length = Tf.length := by rw [ints_length]; simp
  have hEl2 : (Tf.map (chG (i : Int) (i : Int))).length = Tf.length := by simp
  refine PureF.run fn82 (by simp) (by simp [PuL, PuE, Pu, pu_ints, pu_cnts, pt]) ?_; conv => whnf
  repeat' first | ((first | with_reducible apply WB.tt | with_reducible apply WB.ff | refine Rn.seq ?_ | refine Rn.reg ?_ | refine Rn.drw ?_ | refine Rn.blk ?_ | refine Rn.skip ?_ | refine Rn.ret ?_ | refine Rn.exit ?_ | refine Rn.cond rfl ?_ | refine And.intro (InR.i64 (by omega) (by omega)) ?_ | refine And.intro (show _ ≠ (0 : Int) by omega) ?_ | refine WIx.intsN (by omega) ?_ | refine WIx.rowsN (by omega) ?_ | refine WCall.pure (cA) ?_) <;> conv => whnf)
  refine Rn.loop (fun j : Nat => ⟨(.n (.n (.n (.n (.n .e (some (.i .i64 (j : Int))) .e) none .e) none .e) none (.n .e (some (.i .i64 ((Tf.take j).map (chG (i : Int) (i : Int))).sum)) (.n .e (some (.lst 1 (ints (Tf.map (chG (i : Int) (i : Int)))))) .e))) none (.n .e (some (.pt .h 0 0)) (.n .e none (.n .e (some (.i .i64 ((ints (Tf.map (chG (i : Int) (i : Int)))).length : Int))) .e)))), (.n .e (some (w5C l cs wr off (tl9 Tf))) .e), .o .h, none⟩) (fun j => j ≤ Tf.length) (fun j => Tf.length - j) 0 ?_ ?_ ?_
  · refine X.le.mk ?_ ?_ (Nat.le_refl _) rfl rfl
    · show T.le ((.n (.n (.n (.n (.n .e (some (.i .i64 0)) .e) none .e) none .e) none (.n .e (some (.i .i64 0)) (.n .e (some (.lst 1 (ints (Tf.map (chG (i : Int) (i : Int)))))) .e))) none (.n .e (some (.pt .h 0 0)) (.n .e none (.n .e (some (.i .i64 ((ints (Tf.map (chG (i : Int) (i : Int)))).length : Int))) .e)))) : T D) _
      (repeat' first | exact T.le_e _ | refine T.le_some ?_ rfl ?_ | refine T.le_none ?_ ?_)
    · (repeat' first | exact T.le_e _ | refine T.le_some ?_ rfl ?_ | refine T.le_none ?_ ?_ | refine T.le_ee ?_ ?_)
  · exact Nat.zero_le _
  intro j hj
  have hj : j ≤ Tf.length := hj
  have hb := hsb j
  conv => whnf
  repeat' first | ((first | with_reducible apply WB.tt | with_reducible apply WB.ff | refine Rn.seq ?_ | refine Rn.reg ?_ | refine Rn.drw ?_ | refine Rn.blk ?_ | refine Rn.skip ?_ | refine Rn.ret ?_ | refine Rn.exit ?_ | refine Rn.cond rfl ?_ | refine And.intro (InR.i64 (by omega) (by omega)) ?_ | refine And.intro (show _ ≠ (0 : Int) by omega) ?_ | refine WIx.intsN (by omega) ?_ | refine WIx.rowsN (by omega) ?_) <;> conv => whnf)
  refine WB.dec (fun h => ?_) (fun h => ?_) <;> conv => whnf
  · have hlt : j < Tf.length := by omega
    have hs := sum_take_succ (h := chG (i : Int) (i : Int)) (d := default) hlt
    have hg := hEg j hlt
    have hc1 := hbit _ (getD_mem (d := default) hlt) i
    rw [← chG_at i (by omega) (Tf.getD j default)] at hc1
    rw [← hg] at hs hc1
    repeat' first | ((first | with_reducible apply WB.tt | with_reducible apply WB.ff | refine Rn.seq ?_ | refine Rn.reg ?_ | refine Rn.drw ?_ | refine Rn.blk ?_ | refine Rn.skip ?_ | refine Rn.ret ?_ | refine Rn.exit ?_ | refine Rn.cond rfl ?_ | refine And.intro (InR.i64 (by omega) (by omega)) ?_ | refine And.intro (show _ ≠ (0 : Int) by omega) ?_ | refine WIx.intsN (by omega) ?_ | refine WIx.rowsN (by omega) ?_) <;> conv => whnf)
    refine Again.to (j + 1) (by omega) (by omega) (Nat.le_refl _) ?_
    rw [hs]
    refine Shr.of ?_ ?_ rfl rfl
    · (repeat' first | exact Rel.e | refine Rel.some ?_ ?_ ?_ | refine Rel.none ?_ ?_ | refine Rel.ee ?_ ?_)
      all_goals show Fz _ _ _ _
      all_goals first | exact .pu trivial | exact .pu (pu_ints _) | exact .kpt (show _ < 2 by simp [Pos.nat])
    · (repeat' first | exact Rel.e | refine Rel.some ?_ ?_ ?_ | refine Rel.none ?_ ?_ | refine Rel.ee ?_ ?_)
      exact RO'.of (show _ < 2 by simp [Pos.nat]) (ShC.kp (w5C_kp l cs wr off Tf _))
  · have hjn : j = Tf.length := by omega
    rw [hjn, List.take_length] at hb ⊢
    repeat' first | ((first | with_reducible apply WB.tt | with_reducible apply WB.ff | refine Rn.seq ?_ | refine Rn.reg ?_ | refine Rn.drw ?_ | refine Rn.blk ?_ | refine Rn.skip ?_ | refine Rn.ret ?_ | refine Rn.exit ?_ | refine Rn.cond rfl ?_ | refine And.intro (InR.i64 (by omega) (by omega)) ?_ | refine And.intro (show _ ≠ (0 : Int) by omega) ?_ | refine WIx.intsN (by omega) ?_ | refine WIx.rowsN (by omega) ?_) <;> conv => whnf)
    exact Fin.i rfl (by rw [← hlf, ← e2])
theorem c_Index (L : List Int) (v : Int) (k : Nat) (hL : L.length ≤ 1000) (hk : k < L.length) (hv : L.getD k 0 = v) (hf : ∀ i, i < k → L.getD i 0 ≠ v) : PureF Try.prog p85.ix [.lst 1 (ints L), .i .i64 v] (.i .i64 (k : Int)) := by
  have e1 := ints_length L
  refine PureF.run fn84 (by simp) (by simp [PuL, PuE, Pu, pu_ints]) ?_; conv => whnf
  repeat' first | ((first | with_reducible apply WB.tt | with_reducible apply WB.ff | refine Rn.seq ?_ | refine Rn.reg ?_ | refine Rn.drw ?_ | refine Rn.blk ?_ | refine Rn.skip ?_ | refine Rn.ret ?_ | refine Rn.exit ?_ | refine Rn.cond rfl ?_ | refine And.intro (InR.i64 (by omega) (by omega)) ?_ | refine And.intro (show _ ≠ (0 : Int) by omega) ?_ | refine WIx.intsN (by omega) ?_ | refine WIx.rowsN (by omega) ?_) <;> conv => whnf)
  refine Rn.loop (fun j : Nat => ⟨(.n (.n (.n (.n .e (some (.i .i64 ((ints L).length : Int))) .e) none .e) (some (.i .i64 v)) .e) (some (.lst 1 (ints L))) (.n (.n (.n .e (some (.i .i64 (j : Int))) .e) none .e) none (.n .e (some (.lst 1 (ints L))) .e))), .e, .h, none⟩) (fun j => j ≤ k) (fun j => k - j) 0 ?_ ?_ ?_
  · (first | (refine X.le.mk ?_ ?_ (Nat.le_refl _) rfl rfl) | skip) <;> (repeat' first | exact T.le_e _ | refine T.le_some ?_ ?_ ?_ | refine T.le_none ?_ ?_ | rfl)
  · exact Nat.zero_le _
  intro j hj
  have hj : j ≤ k := hj
  have hjl : j < L.length := by omega
  conv => whnf
  repeat' first | ((first | with_reducible apply WB.tt | with_reducible apply WB.ff | refine Rn.seq ?_ | refine Rn.reg ?_ | refine Rn.drw ?_ | refine Rn.blk ?_ | refine Rn.skip ?_ | refine Rn.ret ?_ | refine Rn.exit ?_ | refine Rn.cond rfl ?_ | refine And.intro (InR.i64 (by omega) (by omega)) ?_ | refine And.intro (show _ ≠ (0 : Int) by omega) ?_ | refine WIx.intsN (by omega) ?_ | refine WIx.rowsN (by omega) ?_ | with_reducible refine WB.decT (by first | with_reducible rfl | assumption | omega | exact ⟨rfl, rfl⟩) ?_ | with_reducible refine WB.decF (by first | assumption | omega) ?_ | with_reducible refine WB.ndT (by first | with_reducible rfl | assumption | omega | exact ⟨rfl, rfl⟩) ?_ | with_reducible refine WB.ndF (by first | assumption | omega) ?_ | with_reducible refine WB.nt ?_ | with_reducible refine WB.nf ?_ | with_reducible refine WB.dec (fun h => ?_) (fun h => ?_) | with_reducible refine WB.ndec (fun h => ?_) (fun h => ?_) | refine WB.mk (fun h => ?_) (fun h => ?_)) <;> conv => whnf)
  · have hjk : j = k := by
      refine Classical.byContradiction fun hn => hf j (by omega) ?_
      have : v = L.getD j 0 := by assumption
      exact this.symm
    exact Fin.i rfl (by rw [hjk])
  · have hjk : j ≠ k := fun e => by
      subst e
      have : ¬ v = L.getD j 0 := by assumption
      exact this hv.symm
    refine Again.to (j + 1) (by omega) (by omega) (Nat.le_refl _) ?_
    (refine Shr.of ?_ ?_ rfl rfl) <;> (repeat' first | exact Rel.e | refine Rel.some ?_ ?_ ?_ | refine Rel.none ?_ ?_) <;> (try first | (show Fz _ _ _ _; first | exact Fz.pu trivial | (refine Fz.i ?_; first | rfl | omega) | (refine Fz.kpt ?_; (focus (show Pos.nat _ < Pos.nat _; simp [Pos.nat]; done))) | (refine Fz.ksl ?_; (focus (show Pos.nat _ < Pos.nat _; simp [Pos.nat]; done))) | (refine Fz.kmp ?_; (focus (show Pos.nat _ < Pos.nat _; simp [Pos.nat]; done))) | (refine Fz.pu ?_; simp [Cell.d, Pu, PuL, PuE, pu_ints, pu_cnts, pu_tR]; done) | (refine Fz.pu ?_; simp only [Cell.d]; assumption)) | (refine RO'.of ?_ (ShC.same ?_); (focus (show Pos.nat _ < Pos.nat _; simp [Pos.nat]; done)); (repeat' first | exact ShC.nl | refine ShC.cn ?_ ?_) <;> first | exact Fz.pu trivial | (refine Fz.i ?_; first | rfl | omega) | (refine Fz.kpt ?_; (focus (show Pos.nat _ < Pos.nat _; simp [Pos.nat]; done))) | (refine Fz.ksl ?_; (focus (show Pos.nat _ < Pos.nat _; simp [Pos.nat]; done))) | (refine Fz.kmp ?_; (focus (show Pos.nat _ < Pos.nat _; simp [Pos.nat]; done))) | (refine Fz.pu ?_; simp [Cell.d, Pu, PuL, PuE, pu_ints, pu_cnts, pu_tR]; done) | (refine Fz.pu ?_; simp only [Cell.d]; assumption)))
def lkP1 (l : List Int) (cs : List Cnt) (wr off : Int) : Int := if sureE l cs wr off = 0 then (lookS (truR l cs wr off) l.length).1 else 0
def lkP2 (l : List Int) (cs : List Cnt) (wr off : Int) : Int := if sureE l cs wr off = 0 then (lookS (truR l cs wr off) l.length).2 else 0
theorem c_Look (l : List Int) (cs : List Cnt) (wr off : Int) (hl : l.length ≤ 1000) : PureF Try.prog p43.ix [.ag [.lst 1 (ints l), .lst 3 (rows cntD cs), .i .i64 wr, .i .i64 off]] (.tp [.i .i64 (lkP1 l cs wr off), .i .i64 (lkP2 l cs wr off), .i .i64 (sureE l cs wr off)]) := by
  have e1 := ints_length l
  have cW := c_whole l cs wr off (by omega)
  have cS := c_start l cs wr off 0 ((l.length : Int) - 1)
  rw [startE_whole] at cS
  by_cases hE : sureE l cs wr off = 0
  · obtain ⟨hF, hT⟩ := sureE0 hE
    obtain ⟨f1, f2, f3, f4⟩ := fault0 hF
    have tl := truthsF_len l cs wr off f2
    have ht := ts_tru (cs := cs) (wr := wr) (off := off) f2
    have hTl : (truthsF l cs wr off).length = (truR l cs wr off).length := by rw [← ht]; simp [tsL]
    obtain ⟨k, hk, hkS, hka, hkf⟩ := lookS_spec (truR l cs wr off) (by omega) l.length f1
    have h1 : lkP1 l cs wr off = (k : Int) := by unfold lkP1; rw [if_pos hE, hkS]
    have h2 : lkP2 l cs wr off = lfV (truR l cs wr off) k := by unfold lkP2; rw [if_pos hE, hkS]
    rw [h1, h2]
    rw [show startW l cs wr off 0 ((l.length : Int) - 1) = [.lst 1 (ints l), .lst 3 (rows cntD cs), .i .i64 wr, .i .i64 off, tl9 (truthsF l cs wr off)] by unfold startW; rw [startE_whole, if_pos hE], hE] at cS
    have cL := fun i hi => c_leftAfter l cs wr off (truthsF l cs wr off) (by omega) (fun c hc => truthsF_bit hc) f2 i hi
    rw [ht] at cL
    have hbd := fun i => lfV_bd (truR l cs wr off) i (by omega)
    have pt := pu_tl9 (truthsF l cs wr off)
    have e2 := rows_length nums (truthsF l cs wr off)
    obtain ⟨E, hE'⟩ : ∃ E : List Int, E = (List.range l.length).map fun i => lfV (truR l cs wr off) i := ⟨_, rfl⟩
    have hEl : E.length = l.length := by rw [hE']; simp
    have hEg : ∀ j, j < l.length → lfV (truR l cs wr off) j = E.getD j 0 := fun j hj => by rw [hE']; simp [List.getD, hj]
    have cI := c_Index E (lfV (truR l cs wr off) k) k (by omega) (by omega) (hEg k hk).symm (fun i hi h => by
      have := hkf i hi
      rw [hEg i (by omega), h] at this
      omega)
    have cM := c_minimum ((rows nums (truthsF l cs wr off)).length : Int) E (by omega)
    have hmin : minL ((rows nums (truthsF l cs wr off)).length : Int) E = lfV (truR l cs wr off) k := by
      unfold minL
      have hle := foldmin_le E ((rows nums (truthsF l cs wr off)).length : Int)
      have hmem : lfV (truR l cs wr off) k ∈ E := by rw [hEg k hk]; exact getD_mem (by omega)
      refine Int.le_antisymm (hle.2 _ hmem) ?_
      rcases foldmin_mem (L := E) (a := ((rows nums (truthsF l cs wr off)).length : Int)) with h | h
      · rw [h, e2, hTl]; exact (hbd k).2
      · rw [hE'] at h
        obtain ⟨i, hi, he⟩ := List.mem_map.1 h
        rw [hE', ← he]
        exact hka i (List.mem_range.1 hi)
    rw [hmin] at cM
    rw [hE]
    refine PureF.run fn42 (by simp) (by simp [PuL, PuE, Pu, pu_ints, pu_cnts]) ?_; conv => whnf
    repeat' first | ((first | with_reducible apply WB.tt | with_reducible apply WB.ff | refine Rn.seq ?_ | refine Rn.reg ?_ | refine Rn.drw ?_ | refine Rn.blk ?_ | refine Rn.skip ?_ | refine Rn.ret ?_ | refine Rn.exit ?_ | refine Rn.cond rfl ?_ | refine And.intro (InR.i64 (by omega) (by omega)) ?_ | refine And.intro (show _ ≠ (0 : Int) by omega) ?_ | refine WIx.intsN (by omega) ?_ | refine WIx.rowsN (by omega) ?_ | refine WCall.pure (cW) ?_ | refine WCall.pure (cS) ?_ | with_reducible refine WB.decT (by first | with_reducible rfl | assumption | omega | exact ⟨rfl, rfl⟩) ?_ | with_reducible refine WB.decF (by first | assumption | omega) ?_ | with_reducible refine WB.ndT (by first | with_reducible rfl | assumption | omega | exact ⟨rfl, rfl⟩) ?_ | with_reducible refine WB.ndF (by first | assumption | omega) ?_ | with_reducible refine WB.nt ?_ | with_reducible refine WB.nf ?_ | with_reducible refine WB.dec (fun h => ?_) (fun h => ?_) | with_reducible refine WB.ndec (fun h => ?_) (fun h => ?_) | refine WB.mk (fun h => ?_) (fun h => ?_)) <;> conv => whnf)
    refine Rn.loop (fun j : Nat => match j with
      | 0 => ⟨(.n (.n .e none (.n .e (some (.pt (.o .h) 0 0)) (.n (.n .e (some (.i .i64 (l.length : Int))) .e) none .e))) none (.n .e none (.n .e (some (.ns)) (.n (.n .e (some (.i .i64 0)) .e) none .e)))), (.n (.n .e (some (w5C l cs wr off (tl9 (truthsF l cs wr off)))) .e) none .e), .i .h, none⟩
      | j + 1 => ⟨(.n (.n .e none (.n .e (some (.pt (.o .h) 0 0)) (.n (.n .e (some (.i .i64 (l.length : Int))) .e) none .e))) none (.n .e none (.n .e (some (.sl (.o (.o .h)) 0 (j + 1) j 1)) (.n (.n .e (some (.i .i64 ((j + 1 : Nat) : Int))) .e) none .e)))), (.n (.n (.n .e (some (.cells false (((E.take (j + 1)).map fun n => D.i .i64 n).map fun d => Cell.o d j) (j + 1))) .e) (some (w5C l cs wr off (tl9 (truthsF l cs wr off)))) .e) none .e), .i (.o .h), none⟩) (fun j => j ≤ l.length) (fun j => l.length - j) 0 ?_ ?_ ?_
    · refine X.le.mk ?_ ?_ (Nat.le_refl _) rfl rfl
      · show T.le ((.n (.n .e none (.n .e (some (.pt (.o .h) 0 0)) (.n (.n .e (some (.i .i64 (l.length : Int))) .e) none .e))) none (.n .e none (.n .e (some (.ns)) (.n (.n .e (some (.i .i64 0)) .e) none .e)))) : T D) _
        rw [← e1]
        (repeat' first | exact T.le_e _ | refine T.le_some ?_ rfl ?_ | refine T.le_none ?_ ?_)
      · (repeat' first | exact T.le_e _ | refine T.le_some ?_ rfl ?_ | refine T.le_none ?_ ?_ | refine T.le_ee ?_ ?_)
    · exact Nat.zero_le _
    rintro (_ | j) hj
    · conv => whnf
      repeat' first | ((first | with_reducible apply WB.tt | with_reducible apply WB.ff | refine Rn.seq ?_ | refine Rn.reg ?_ | refine Rn.drw ?_ | refine Rn.blk ?_ | refine Rn.skip ?_ | refine Rn.ret ?_ | refine Rn.exit ?_ | refine Rn.cond rfl ?_ | refine And.intro (InR.i64 (by omega) (by omega)) ?_ | refine And.intro (show _ ≠ (0 : Int) by omega) ?_ | refine WIx.intsN (by omega) ?_ | refine WIx.rowsN (by omega) ?_) <;> conv => whnf)
      refine WB.dec (fun h => ?_) (fun h => ?_) <;> conv => whnf
      · have hlt : 0 < l.length := by omega
        repeat' first | ((first | with_reducible apply WB.tt | with_reducible apply WB.ff | refine Rn.seq ?_ | refine Rn.reg ?_ | refine Rn.drw ?_ | refine Rn.blk ?_ | refine Rn.skip ?_ | refine Rn.ret ?_ | refine Rn.exit ?_ | refine Rn.cond rfl ?_ | refine And.intro (InR.i64 (by omega) (by omega)) ?_ | refine And.intro (show _ ≠ (0 : Int) by omega) ?_ | refine WIx.intsN (by omega) ?_ | refine WIx.rowsN (by omega) ?_ | refine WCall.pure (cL 0 hlt) ?_) <;> conv => whnf)
        refine WSt.app_first (r := [_]) rfl (.inl rfl) rfl rfl rfl rfl ?_; conv => whnf
        repeat' first | ((first | with_reducible apply WB.tt | with_reducible apply WB.ff | refine Rn.seq ?_ | refine Rn.reg ?_ | refine Rn.drw ?_ | refine Rn.blk ?_ | refine Rn.skip ?_ | refine Rn.ret ?_ | refine Rn.exit ?_ | refine Rn.cond rfl ?_ | refine And.intro (InR.i64 (by omega) (by omega)) ?_ | refine And.intro (show _ ≠ (0 : Int) by omega) ?_ | refine WIx.intsN (by omega) ?_ | refine WIx.rowsN (by omega) ?_) <;> conv => whnf)
        refine Again.to 1 (by omega) (by omega) (Nat.le_of_ble_eq_true rfl) ?_
        have ht1 : E.take 1 = [E.getD 0 0] := by rw [take_succ_getD (j := 0) (d := 0) (by omega)]; simp
        refine Shr.of ?_ ?_ rfl rfl
        · (repeat' first | exact Rel.e | refine Rel.some ?_ ?_ ?_ | refine Rel.none ?_ ?_ | refine Rel.ee ?_ ?_)
          all_goals show Fz _ _ _ _
          all_goals first | exact .pu trivial | exact .kpt (show _ < 5 by simp [Pos.nat]) | exact .ksl (show _ < 5 by simp [Pos.nat])
        · (repeat' first | exact Rel.e | refine Rel.some ?_ ?_ ?_ | refine Rel.none ?_ ?_ | refine Rel.ee ?_ ?_)
          all_goals first
            | exact RO'.of (show _ < 5 by simp [Pos.nat]) (ShC.kp (w5C_kp l cs wr off (truthsF l cs wr off) _))
            | (refine RO'.of (show _ < 5 by simp [Pos.nat]) ?_
               show ShC _ _ _ (.cells false (((E.take 1).map fun n => D.i .i64 n).map fun d => Cell.o d 0) 1)
               rw [ht1, ← hEg 0 hlt]
               exact ShC.same (ShC.cn (.pu trivial) ShC.nl))
      · omega
    · conv => whnf
      repeat' first | ((first | with_reducible apply WB.tt | with_reducible apply WB.ff | refine Rn.seq ?_ | refine Rn.reg ?_ | refine Rn.drw ?_ | refine Rn.blk ?_ | refine Rn.skip ?_ | refine Rn.ret ?_ | refine Rn.exit ?_ | refine Rn.cond rfl ?_ | refine And.intro (InR.i64 (by omega) (by omega)) ?_ | refine And.intro (show _ ≠ (0 : Int) by omega) ?_ | refine WIx.intsN (by omega) ?_ | refine WIx.rowsN (by omega) ?_) <;> conv => whnf)
      refine WB.dec (fun h => ?_) (fun h => ?_) <;> conv => whnf
      · have hlt : j + 1 < l.length := by omega
        repeat' first | ((first | with_reducible apply WB.tt | with_reducible apply WB.ff | refine Rn.seq ?_ | refine Rn.reg ?_ | refine Rn.drw ?_ | refine Rn.blk ?_ | refine Rn.skip ?_ | refine Rn.ret ?_ | refine Rn.exit ?_ | refine Rn.cond rfl ?_ | refine And.intro (InR.i64 (by omega) (by omega)) ?_ | refine And.intro (show _ ≠ (0 : Int) by omega) ?_ | refine WIx.intsN (by omega) ?_ | refine WIx.rowsN (by omega) ?_ | refine WCall.pure (cL (j + 1) hlt) ?_) <;> conv => whnf)
        refine WSt.app_one (ds := (E.take (j + 1)).map fun n => D.i .i64 n) (r := [_]) rfl rfl rfl rfl rfl rfl (by simp; omega) rfl rfl (by omega) rfl ?_; conv => whnf
        repeat' first | ((first | with_reducible apply WB.tt | with_reducible apply WB.ff | refine Rn.seq ?_ | refine Rn.reg ?_ | refine Rn.drw ?_ | refine Rn.blk ?_ | refine Rn.skip ?_ | refine Rn.ret ?_ | refine Rn.exit ?_ | refine Rn.cond rfl ?_ | refine And.intro (InR.i64 (by omega) (by omega)) ?_ | refine And.intro (show _ ≠ (0 : Int) by omega) ?_ | refine WIx.intsN (by omega) ?_ | refine WIx.rowsN (by omega) ?_) <;> conv => whnf)
        refine Again.to (j + 2) (by omega) (by omega) (Nat.le_of_ble_eq_true rfl) ?_
        refine Shr.of ?_ ?_ rfl rfl
        · (repeat' first | exact Rel.e | refine Rel.some ?_ ?_ ?_ | refine Rel.none ?_ ?_ | refine Rel.ee ?_ ?_)
          all_goals show Fz _ _ _ _
          all_goals first | exact .pu trivial | exact .kpt (show _ < 5 by simp [Pos.nat]) | exact .ksl (show _ < 5 by simp [Pos.nat])
        · (repeat' first | exact Rel.e | refine Rel.some ?_ ?_ ?_ | refine Rel.none ?_ ?_ | refine Rel.ee ?_ ?_)
          all_goals first
            | exact RO'.of (show _ < 5 by simp [Pos.nat]) (ShC.kp (w5C_kp l cs wr off (truthsF l cs wr off) _))
            | (refine RO'.of (show _ < 5 by simp [Pos.nat]) ?_
               show ShC _ _ (.cells false ((((E.take (j + 1)).map fun n => D.i .i64 n).map fun d => Cell.o d j) ++ [_].map fun d => Cell.o d (j + 1)) (j + 1 + 1)) (.cells false (((E.take (j + 1 + 1)).map fun n => D.i .i64 n).map fun d => Cell.o d (j + 1)) (j + 1 + 1))
               rw [take_succ_getD (j := j + 1) (d := 0) (by omega), List.map_append, ← hEg _ hlt]
               exact ShC.grown (by omega) (PuL_iff.2 fun d hd => by
                 rcases List.mem_append.1 hd with hd | hd
                 · exact PuL_iff.1 (puL_map_i _) d hd
                 · simp at hd; subst hd; exact trivial))
      · have hjn : l.length = j + 1 := by omega
        have hfz : ∀ (ob : T C), ob.get (.o (.o .h)) = some (.cells false (((E.take (j + 1)).map fun n => D.i .i64 n).map fun d => Cell.o d j) (j + 1)) → Fz (fun _ => False) ob (.sl (.o (.o .h)) 0 (j + 1) j 1) (.lst 1 (ints E)) := fun ob h => Frz.whole (cs := ((E.take (j + 1)).map fun n => D.i .i64 n).map fun d => Cell.o d j) (cur := j + 1) h (by rw [ints_length]; omega) (ints_one _) (by rw [ints_flatten, List.take_of_length_le (by omega)]) (pu_ints _)
        repeat' first | ((first | with_reducible apply WB.tt | with_reducible apply WB.ff | refine Rn.seq ?_ | refine Rn.reg ?_ | refine Rn.drw ?_ | refine Rn.blk ?_ | refine Rn.skip ?_ | refine Rn.ret ?_ | refine Rn.exit ?_ | refine Rn.cond rfl ?_ | refine And.intro (InR.i64 (by omega) (by omega)) ?_ | refine And.intro (show _ ≠ (0 : Int) by omega) ?_ | refine WIx.intsN (by omega) ?_ | refine WIx.rowsN (by omega) ?_) <;> conv => whnf)
        refine WCall.borrow cM (.cons (.pu trivial) (.cons (hfz _ rfl) .nil)) trivial ?_; conv => whnf
        repeat' first | ((first | with_reducible apply WB.tt | with_reducible apply WB.ff | refine Rn.seq ?_ | refine Rn.reg ?_ | refine Rn.drw ?_ | refine Rn.blk ?_ | refine Rn.skip ?_ | refine Rn.ret ?_ | refine Rn.exit ?_ | refine Rn.cond rfl ?_ | refine And.intro (InR.i64 (by omega) (by omega)) ?_ | refine And.intro (show _ ≠ (0 : Int) by omega) ?_ | refine WIx.intsN (by omega) ?_ | refine WIx.rowsN (by omega) ?_) <;> conv => whnf)
        refine WCall.borrow cI (.cons (hfz _ rfl) (.cons (.pu trivial) .nil)) trivial ?_; conv => whnf
        repeat' first | ((first | with_reducible apply WB.tt | with_reducible apply WB.ff | refine Rn.seq ?_ | refine Rn.reg ?_ | refine Rn.drw ?_ | refine Rn.blk ?_ | refine Rn.skip ?_ | refine Rn.ret ?_ | refine Rn.exit ?_ | refine Rn.cond rfl ?_ | refine And.intro (InR.i64 (by omega) (by omega)) ?_ | refine And.intro (show _ ≠ (0 : Int) by omega) ?_ | refine WIx.intsN (by omega) ?_ | refine WIx.rowsN (by omega) ?_) <;> conv => whnf)
        refine Fin.three (.inr rfl) rfl rfl rfl ?_ ?_ ?_ <;> exact .pu trivial
  · rw [show startW l cs wr off 0 ((l.length : Int) - 1) = [.ns, .ns, .i .i64 0, .i .i64 0, .ns] by unfold startW; rw [startE_whole, if_neg hE]] at cS
    unfold lkP1 lkP2
    rw [if_neg hE, if_neg hE]
    refine PureF.run fn42 (by simp) (by simp [PuL, PuE, Pu, pu_ints, pu_cnts]) ?_; conv => whnf
    repeat' first | ((first | with_reducible apply WB.tt | with_reducible apply WB.ff | refine Rn.seq ?_ | refine Rn.reg ?_ | refine Rn.drw ?_ | refine Rn.blk ?_ | refine Rn.skip ?_ | refine Rn.ret ?_ | refine Rn.exit ?_ | refine Rn.cond rfl ?_ | refine And.intro (InR.i64 (by omega) (by omega)) ?_ | refine And.intro (show _ ≠ (0 : Int) by omega) ?_ | refine WIx.intsN (by omega) ?_ | refine WIx.rowsN (by omega) ?_ | refine WCall.pure (cW) ?_ | refine WCall.pure (cS) ?_ | with_reducible refine WB.decT (by first | with_reducible rfl | assumption | omega | exact ⟨rfl, rfl⟩) ?_ | with_reducible refine WB.decF (by first | assumption | omega) ?_ | with_reducible refine WB.ndT (by first | with_reducible rfl | assumption | omega | exact ⟨rfl, rfl⟩) ?_ | with_reducible refine WB.ndF (by first | assumption | omega) ?_ | with_reducible refine WB.nt ?_ | with_reducible refine WB.nf ?_ | with_reducible refine WB.dec (fun h => ?_) (fun h => ?_) | with_reducible refine WB.ndec (fun h => ?_) (fun h => ?_) | refine WB.mk (fun h => ?_) (fun h => ?_)) <;> conv => whnf)
    refine Fin.three (.inr rfl) rfl rfl rfl ?_ ?_ ?_ <;> exact .pu trivial
end Go.Ev

namespace Go.Ev
open Go.Proofs
set_option maxRecDepth 100000
theorem thin_unk {l : List Int} {cs : List Cnt} {wr off : Int} (h1 : thinB l cs wr off = true) (hF : faultR l cs wr off = 0) : unk l ≤ 6 := by
  unfold thinB at h1
  rw [Bool.and_eq_true, Bool.and_eq_true, Bool.or_eq_true, decide_eq_true_iff, decide_eq_true_iff, decide_eq_true_iff] at h1
  rcases h1.2.2 with h | h
  · rw [decide_eq_true hF] at h; cases h
  · exact h
end Go.Ev
