import Derived.Test.YtmlpgfmbhpefmaaEvKu
set_option linter.all false
namespace Go.Ev
open Go.Proofs
set_option maxRecDepth 100000
/-! ### Least -/
def bestS (cs : List Cnt) (off : Int) (b : Int) (t : List Int) : Int := if 0 ≤ wrongR cs off t ∧ (b < 0 ∨ wrongR cs off t < b) then wrongR cs off t else b
def leastF (cs : List Cnt) (off : Int) (L : List (List Int)) : Int := L.foldl (bestS cs off) (-1)
theorem best_spec (cs : List Cnt) (off : Int) : ∀ (L : List (List Int)) (b : Int), (L.foldl (bestS cs off) b = b ∨ ∃ t ∈ L, 0 ≤ wrongR cs off t ∧ wrongR cs off t = L.foldl (bestS cs off) b) ∧ (0 ≤ b → L.foldl (bestS cs off) b ≤ b ∧ 0 ≤ L.foldl (bestS cs off) b) ∧ ∀ t ∈ L, 0 ≤ wrongR cs off t → 0 ≤ L.foldl (bestS cs off) b ∧ L.foldl (bestS cs off) b ≤ wrongR cs off t
  | [], b => ⟨.inl rfl, fun h => ⟨Int.le_refl _, h⟩, fun t h => by cases h⟩
  | a :: L, b => by
    obtain ⟨h1, h2, h3⟩ := best_spec cs off L (bestS cs off b a)
    show (List.foldl (bestS cs off) (bestS cs off b a) L = b ∨ _) ∧ (_ → List.foldl (bestS cs off) (bestS cs off b a) L ≤ b ∧ 0 ≤ List.foldl (bestS cs off) (bestS cs off b a) L) ∧ ∀ t ∈ a :: L, _ → 0 ≤ List.foldl (bestS cs off) (bestS cs off b a) L ∧ List.foldl (bestS cs off) (bestS cs off b a) L ≤ _
    have hs : (0 ≤ wrongR cs off a ∧ (b < 0 ∨ wrongR cs off a < b) ∧ bestS cs off b a = wrongR cs off a) ∨ (¬ (0 ≤ wrongR cs off a ∧ (b < 0 ∨ wrongR cs off a < b)) ∧ bestS cs off b a = b) := by
      unfold bestS
      split
      · rename_i h; exact .inl ⟨h.1, h.2, rfl⟩
      · rename_i h; exact .inr ⟨h, rfl⟩
    refine ⟨?_, fun hb => ?_, fun t ht hw => ?_⟩
    · rcases h1 with h | ⟨t, ht, hw, he⟩
      · rcases hs with ⟨q1, q2, q3⟩ | ⟨q1, q2⟩
        · exact .inr ⟨a, by simp, q1, by show _ = List.foldl (bestS cs off) (bestS cs off b a) L; rw [h, q3]⟩
        · exact .inl (by rw [h, q2])
      · exact .inr ⟨t, by simp [ht], hw, he⟩
    · rcases hs with ⟨q1, q2, q3⟩ | ⟨q1, q2⟩
      · have := h2 (by omega); omega
      · have := h2 (by omega); omega
    · rcases List.mem_cons.1 ht with rfl | ht
      · rcases hs with ⟨q1, q2, q3⟩ | ⟨q1, q2⟩
        · have := h2 (by omega); omega
        · have := h2 (by omega); omega
      · exact h3 t ht hw
theorem wrongR_bd (cs : List Cnt) (off : Int) (t : List Int) : -1 ≤ wrongR cs off t ∧ wrongR cs off t ≤ cs.length := by
  unfold wrongR
  split
  · have := List.countP_le_length (p := fun c => decide (0 < ec t c)) (l := cs); omega
  · omega
theorem leastF_bd (cs : List Cnt) (off : Int) (L : List (List Int)) : -1 ≤ leastF cs off L ∧ leastF cs off L ≤ cs.length := by
  obtain ⟨h1, _, _⟩ := best_spec cs off L (-1)
  unfold leastF
  rcases h1 with h | ⟨t, _, _, h⟩
  · rw [h]; omega
  · rw [← h]; exact wrongR_bd _ _ _
theorem leastF_succ (cs : List Cnt) (off : Int) {L : List (List Int)} {j : Nat} (h : j < L.length) : leastF cs off (L.take (j + 1)) = bestS cs off (leastF cs off (L.take j)) (L.getD j default) := by
  unfold leastF
  rw [take_succ_getD (d := default) h, List.foldl_append]
  rfl
theorem c_refLeast (l : List Int) (cs : List Cnt) (wr off : Int) (hl : l.length ≤ 9) (hc : ∀ c ∈ cs, cntIn l.length c) (hn : cs.length ≤ 1000) : PureF Try.prog p42.ix [.ag [.lst 1 (ints l), .lst 3 (rows cntD cs), .i .i64 wr, .i .i64 off]] (.i .i64 (leastF cs off (allR l))) := by
  have hal := allR_len l hl
  have cA := c_All l cs wr off hl
  have hx : ∀ x ∈ allR l, x.length = l.length ∧ Bits x := fun x hx => truth_bits (allR_truth l x hx)
  generalize allR l = R at *
  have e2 := rows_length tD R
  refine PureF.run fn41 (by simp) (by simp [PuL, PuE, Pu, pu_ints, pu_cnts]) ?_; conv => whnf
  repeat' first | ((with_reducible apply WB.tt); conv => whnf) | ((with_reducible apply WB.ff); conv => whnf) | (refine Rn.seq ?_; conv => whnf) | (refine Rn.reg ?_; conv => whnf) | (refine Rn.drw ?_; conv => whnf) | (refine Rn.blk ?_; conv => whnf) | (refine Rn.skip ?_; conv => whnf) | (refine Rn.ret ?_; conv => whnf) | (refine Rn.exit ?_; conv => whnf) | (refine Rn.cond rfl ?_; conv => whnf) | (refine And.intro (InR.i64 (by omega) (by omega)) ?_; conv => whnf) | (refine And.intro (show _ ≠ (0 : Int) by omega) ?_; conv => whnf) | (refine WIx.intsN (by omega) ?_; conv => whnf) | (refine WIx.rowsN (by omega) ?_; conv => whnf) | (refine WCall.pure (cA) ?_; conv => whnf)
  refine Rn.loop (fun j : Nat => ⟨(.n (.n (.n .e (some (.i .i64 (leastF cs off (R.take j)))) .e) (some (.pt .h 0 0)) (.n .e (some (.i .i64 (j : Int))) .e)) none (.n (.n .e (some (.lst 1 (rows tD R))) .e) none .e)), (.n .e (some (.cells false [.o (.lst 1 (ints l)) 0, .o (.lst 3 (rows cntD cs)) 0, .o (.i .i64 wr) 0, .o (.i .i64 off) 0] 1)) .e), .o .h, none⟩) (fun j => j ≤ R.length) (fun j => R.length - j) 0 ?_ ?_ ?_
  · (first | (refine X.le.mk ?_ ?_ (Nat.le_refl _) rfl rfl) | skip) <;> (repeat' first | exact T.le_e _ | refine T.le_some ?_ ?_ ?_ | refine T.le_none ?_ ?_ | rfl)
  · omega
  intro j hj
  conv => whnf
  repeat' first | ((with_reducible apply WB.tt); conv => whnf) | ((with_reducible apply WB.ff); conv => whnf) | (refine Rn.seq ?_; conv => whnf) | (refine Rn.reg ?_; conv => whnf) | (refine Rn.drw ?_; conv => whnf) | (refine Rn.blk ?_; conv => whnf) | (refine Rn.skip ?_; conv => whnf) | (refine Rn.ret ?_; conv => whnf) | (refine Rn.exit ?_; conv => whnf) | (refine Rn.cond rfl ?_; conv => whnf) | (refine And.intro (InR.i64 (by omega) (by omega)) ?_; conv => whnf) | (refine And.intro (show _ ≠ (0 : Int) by omega) ?_; conv => whnf) | (refine WIx.intsN (by omega) ?_; conv => whnf) | (refine WIx.rowsN (by omega) ?_; conv => whnf)
  refine WB.dec (fun h => ?_) (fun h => ?_) <;> conv => whnf
  · have hlt : j < R.length := by omega
    obtain ⟨q1, q2⟩ := hx _ (getD_mem (d := default) hlt)
    have cW := c_Wrong l cs wr off (R.getD j default) q2 (by omega) (fun c h => by rw [q1]; exact hc c h) hn
    have hs := leastF_succ cs off hlt
    unfold bestS at hs
    generalize hb : leastF cs off (R.take j) = b at *
    generalize hw : wrongR cs off (R.getD j default) = w at *
    repeat' first | ((with_reducible apply WB.tt); conv => whnf) | ((with_reducible apply WB.ff); conv => whnf) | (refine Rn.seq ?_; conv => whnf) | (refine Rn.reg ?_; conv => whnf) | (refine Rn.drw ?_; conv => whnf) | (refine Rn.blk ?_; conv => whnf) | (refine Rn.skip ?_; conv => whnf) | (refine Rn.ret ?_; conv => whnf) | (refine Rn.exit ?_; conv => whnf) | (refine Rn.cond rfl ?_; conv => whnf) | (refine And.intro (InR.i64 (by omega) (by omega)) ?_; conv => whnf) | (refine And.intro (show _ ≠ (0 : Int) by omega) ?_; conv => whnf) | (refine WIx.intsN (by omega) ?_; conv => whnf) | (refine WIx.rowsN (by omega) ?_; conv => whnf) | (refine WCall.pure (cW) ?_; conv => whnf) | ((with_reducible refine WB.decT (by first | with_reducible rfl | assumption | omega | exact ⟨rfl, rfl⟩) ?_); conv => whnf) | ((with_reducible refine WB.decF (by first | assumption | omega) ?_); conv => whnf) | ((with_reducible refine WB.ndT (by first | with_reducible rfl | assumption | omega | exact ⟨rfl, rfl⟩) ?_); conv => whnf) | ((with_reducible refine WB.ndF (by first | assumption | omega) ?_); conv => whnf) | ((with_reducible refine WB.nt ?_); conv => whnf) | ((with_reducible refine WB.nf ?_); conv => whnf) | ((with_reducible refine WB.dec (fun h => ?_) (fun h => ?_)) <;> conv => whnf) | ((with_reducible refine WB.ndec (fun h => ?_) (fun h => ?_)) <;> conv => whnf) | (refine WB.mk (fun h => ?_) (fun h => ?_) <;> conv => whnf)
    all_goals
      refine Again.to (j + 1) (by omega) (by omega) (Nat.le_refl _) ?_
      (refine Shr.of ?_ ?_ rfl rfl) <;> (repeat' first | exact Rel.e | refine Rel.some ?_ ?_ ?_ | refine Rel.none ?_ ?_) <;> (try first | (show Fz _ _ _ _; first | exact Fz.pu trivial | (refine Fz.i ?_; first | rfl | omega) | (refine Fz.kpt ?_; (focus (show Pos.nat _ < Pos.nat _; simp [Pos.nat]; done))) | (refine Fz.ksl ?_; (focus (show Pos.nat _ < Pos.nat _; simp [Pos.nat]; done))) | (refine Fz.kmp ?_; (focus (show Pos.nat _ < Pos.nat _; simp [Pos.nat]; done))) | (refine Fz.pu ?_; simp [Cell.d, Pu, PuL, PuE, pu_ints, pu_cnts, pu_tR]; done) | (refine Fz.pu ?_; simp only [Cell.d]; assumption)) | (refine RO'.of ?_ (ShC.same ?_); (focus (show Pos.nat _ < Pos.nat _; simp [Pos.nat]; done)); (repeat' first | exact ShC.nl | refine ShC.cn ?_ ?_) <;> first | exact Fz.pu trivial | (refine Fz.i ?_; first | rfl | omega) | (refine Fz.kpt ?_; (focus (show Pos.nat _ < Pos.nat _; simp [Pos.nat]; done))) | (refine Fz.ksl ?_; (focus (show Pos.nat _ < Pos.nat _; simp [Pos.nat]; done))) | (refine Fz.kmp ?_; (focus (show Pos.nat _ < Pos.nat _; simp [Pos.nat]; done))) | (refine Fz.pu ?_; simp [Cell.d, Pu, PuL, PuE, pu_ints, pu_cnts, pu_tR]; done) | (refine Fz.pu ?_; simp only [Cell.d]; assumption)))
      all_goals first | exact Fz.pu (pu_tR _) | (refine Fz.i ?_; rw [hs]; first | (rw [if_pos (by omega)]; done) | (rw [if_neg (by omega)]; exact hb) | (rw [if_neg (by omega)]; exact hb.symm) | (rw [if_neg (by omega)]))
  · repeat' first | ((with_reducible apply WB.tt); conv => whnf) | ((with_reducible apply WB.ff); conv => whnf) | (refine Rn.seq ?_; conv => whnf) | (refine Rn.reg ?_; conv => whnf) | (refine Rn.drw ?_; conv => whnf) | (refine Rn.blk ?_; conv => whnf) | (refine Rn.skip ?_; conv => whnf) | (refine Rn.ret ?_; conv => whnf) | (refine Rn.exit ?_; conv => whnf) | (refine Rn.cond rfl ?_; conv => whnf) | (refine And.intro (InR.i64 (by omega) (by omega)) ?_; conv => whnf) | (refine And.intro (show _ ≠ (0 : Int) by omega) ?_; conv => whnf) | (refine WIx.intsN (by omega) ?_; conv => whnf) | (refine WIx.rowsN (by omega) ?_; conv => whnf)
    exact Fin.i rfl (by rw [List.take_of_length_le (by omega)])
def leE (l : List Int) (cs : List Cnt) (wr off : Int) : Int := if faultR l cs wr off = 0 then (if leastF cs off (allR l) < 0 then 10 else 0) else faultR l cs wr off
def leN (l : List Int) (cs : List Cnt) (wr off : Int) : Int := if faultR l cs wr off = 0 then (if leastF cs off (allR l) < 0 then 0 else leastF cs off (allR l)) else 0
theorem fault_wr {l : List Int} {cs : List Cnt} {wr off : Int} (hF : faultR l cs wr off = 0) : faultR l cs (cs.length : Int) off = 0 := by
  obtain ⟨f1, f2, f3, f4⟩ := fault0 hF
  rw [faultR_eq f2 f3] at hF ⊢
  split at hF
  · rename_i h
    rw [if_pos]
    simp only [Bool.and_eq_true] at h ⊢
    refine ⟨h.1, h.2.1, h.2.2.1, ?_, h.2.2.2.2⟩
    unfold inB
    rw [decide_eq_true_iff]
    omega
  · cases hF
/-- The truths that explain the counts, whatever Wrong is. -/
theorem truR_all (l : List Int) (cs : List Cnt) (off : Int) : truR l cs (cs.length : Int) off = (allR l).filter fun t => decide (0 ≤ wrongR cs off t) := by
  unfold truR
  refine List.filter_congr fun t ht => ?_
  unfold fitR
  rw [allR_truth l t ht, Bool.true_and]
  unfold inB
  have := wrongR_bd cs off t
  congr 1
  apply propext
  omega
theorem wrong_nR {cs : List Cnt} {off : Int} {t : List Int} (h : 0 ≤ wrongR cs off t) : wrongR cs off t = (cs.length : Int) - nR t cs cs.length := by
  have q := nR_count t cs cs.length (Nat.le_refl _)
  rw [List.take_length] at q
  unfold wrongR at h ⊢
  split
  · omega
  · rename_i h2
    rw [if_neg h2] at h
    omega
theorem c_Least (l : List Int) (cs : List Cnt) (wr off : Int) (hl : l.length ≤ 1000) : PureF Try.prog p39.ix [.ag [.lst 1 (ints l), .lst 3 (rows cntD cs), .i .i64 wr, .i .i64 off]] (.tp [.i .i64 (leN l cs wr off), .i .i64 (leE l cs wr off)]) := by
  have e1 := ints_length l
  have e2 := rows_length cntD cs
  have cK := c_CheckRow l cs wr off
  by_cases hF : faultR l cs wr off = 0
  · obtain ⟨f1, f2, f3, f4⟩ := fault0 hF
    have hF' := fault_wr hF
    have cW := c_whole l cs (cs.length : Int) off (by omega)
    have C := c_start l cs (cs.length : Int) off 0 ((l.length : Int) - 1)
    have hE : startE l cs (cs.length : Int) off 0 ((l.length : Int) - 1) = if truR l cs (cs.length : Int) off = [] then 11 else 0 := startE_in hF' (by omega) (by omega) (by omega)
    have hN : truR l cs (cs.length : Int) off = [] ↔ leastF cs off (allR l) < 0 := by
      rw [truR_all, List.filter_eq_nil_iff]
      obtain ⟨b1, b2, b3⟩ := best_spec cs off (allR l) (-1)
      constructor
      · intro h
        unfold leastF
        rcases b1 with b1 | ⟨t, ht, hw, _⟩
        · omega
        · exact absurd (decide_eq_true hw) (h t ht)
      · intro h t ht hw
        have := b3 t ht (of_decide_eq_true hw)
        unfold leastF at h
        omega
    unfold leE leN
    rw [if_pos hF, if_pos hF]
    rw [hF] at cK
    by_cases hT : truR l cs (cs.length : Int) off = []
    · rw [if_pos hT] at hE
      rw [if_pos (hN.1 hT), if_pos (hN.1 hT)]
      rw [show startW l cs (cs.length : Int) off 0 ((l.length : Int) - 1) = [.ns, .ns, .i .i64 0, .i .i64 0, .ns] by unfold startW; rw [hE, if_neg (by omega)], hE] at C
      rw [← e2] at cW C
      refine PureF.run fn38 (by simp) (by simp [PuL, PuE, Pu, pu_ints, pu_cnts]) ?_; conv => whnf
      repeat' first | ((with_reducible apply WB.tt); conv => whnf) | ((with_reducible apply WB.ff); conv => whnf) | (refine Rn.seq ?_; conv => whnf) | (refine Rn.reg ?_; conv => whnf) | (refine Rn.drw ?_; conv => whnf) | (refine Rn.blk ?_; conv => whnf) | (refine Rn.skip ?_; conv => whnf) | (refine Rn.ret ?_; conv => whnf) | (refine Rn.exit ?_; conv => whnf) | (refine Rn.cond rfl ?_; conv => whnf) | (refine And.intro (InR.i64 (by omega) (by omega)) ?_; conv => whnf) | (refine And.intro (show _ ≠ (0 : Int) by omega) ?_; conv => whnf) | (refine WIx.intsN (by omega) ?_; conv => whnf) | (refine WIx.rowsN (by omega) ?_; conv => whnf) | (refine WCall.pure (cK) ?_; conv => whnf) | (refine WCall.pure (cW) ?_; conv => whnf) | (refine WCall.pure (C) ?_; conv => whnf) | ((with_reducible refine WB.decT (by first | with_reducible rfl | assumption | omega | exact ⟨rfl, rfl⟩) ?_); conv => whnf) | ((with_reducible refine WB.decF (by first | assumption | omega) ?_); conv => whnf) | ((with_reducible refine WB.ndT (by first | with_reducible rfl | assumption | omega | exact ⟨rfl, rfl⟩) ?_); conv => whnf) | ((with_reducible refine WB.ndF (by first | assumption | omega) ?_); conv => whnf) | ((with_reducible refine WB.nt ?_); conv => whnf) | ((with_reducible refine WB.nf ?_); conv => whnf) | ((with_reducible refine WB.dec (fun h => ?_) (fun h => ?_)) <;> conv => whnf) | ((with_reducible refine WB.ndec (fun h => ?_) (fun h => ?_)) <;> conv => whnf) | (refine WB.mk (fun h => ?_) (fun h => ?_) <;> conv => whnf)
      exact Fin.two (.inr rfl) rfl rfl (.pu trivial) (.pu trivial)
    · rw [if_neg hT] at hE
      have hT' : ¬ leastF cs off (allR l) < 0 := fun h => hT (hN.2 h)
      rw [if_neg hT', if_neg hT']
      have tl := truthsF_len l cs (cs.length : Int) off f2
      have hTF : truthsF l cs (cs.length : Int) off ≠ [] := fun h => hT ((truths_nil f2).2 h)
      rw [show startW l cs (cs.length : Int) off 0 ((l.length : Int) - 1) = [.lst 1 (ints l), .lst 3 (rows cntD cs), .i .i64 (cs.length : Int), .i .i64 off, tl9 (truthsF l cs (cs.length : Int) off)] by unfold startW; rw [hE, if_pos rfl], hE] at C
      have cB := c_bounds l cs (cs.length : Int) off (truthsF l cs (cs.length : Int) off) (List.length_pos_iff.2 hTF) (by omega) p81 0 ((cs.length : Int) - 1) (fun c => nR ((lst9 c).take l.length) cs cs.length) (fun c hc => c_rightIn l cs (cs.length : Int) off _ (pu_tl9 _) _ _ _ _ _ _ _ _ _ (truthsF_bit hc).bits f2 f4 (by omega) _ rfl)
      have hq : (truthsF l cs (cs.length : Int) off).map (fun c => nR ((lst9 c).take l.length) cs cs.length) = (truR l cs (cs.length : Int) off).map fun t => nR t cs cs.length := by
        rw [truR_eq l cs _ off f2, List.map_map]
        rfl
      rw [hq] at cB
      have hmax : (cs.length : Int) - maxL (((truR l cs (cs.length : Int) off).map fun t => nR t cs cs.length).getD 0 0) ((truR l cs (cs.length : Int) off).map fun t => nR t cs cs.length) = leastF cs off (allR l) ∧ 0 ≤ maxL (((truR l cs (cs.length : Int) off).map fun t => nR t cs cs.length).getD 0 0) ((truR l cs (cs.length : Int) off).map fun t => nR t cs cs.length) ∧ maxL (((truR l cs (cs.length : Int) off).map fun t => nR t cs cs.length).getD 0 0) ((truR l cs (cs.length : Int) off).map fun t => nR t cs cs.length) ≤ cs.length := by
        have hlen : 0 < ((truR l cs (cs.length : Int) off).map fun t => nR t cs cs.length).length := by rw [List.length_map]; exact List.length_pos_iff.2 hT
        have m1 : maxL (((truR l cs (cs.length : Int) off).map fun t => nR t cs cs.length).getD 0 0) ((truR l cs (cs.length : Int) off).map fun t => nR t cs cs.length) ∈ (truR l cs (cs.length : Int) off).map fun t => nR t cs cs.length := by
          rcases foldmax_mem (L := (truR l cs (cs.length : Int) off).map fun t => nR t cs cs.length) (a := ((truR l cs (cs.length : Int) off).map fun t => nR t cs cs.length).getD 0 0) with h | h
          · unfold maxL; rw [h]; exact getD_mem hlen
          · exact h
        have m2 : ∀ x ∈ (truR l cs (cs.length : Int) off).map fun t => nR t cs cs.length, x ≤ maxL (((truR l cs (cs.length : Int) off).map fun t => nR t cs cs.length).getD 0 0) ((truR l cs (cs.length : Int) off).map fun t => nR t cs cs.length) := fun x hx => (foldmax_le _ _).2 x hx
        generalize maxL (((truR l cs (cs.length : Int) off).map fun t => nR t cs cs.length).getD 0 0) ((truR l cs (cs.length : Int) off).map fun t => nR t cs cs.length) = M at *
        obtain ⟨y, hy, rfl⟩ := List.mem_map.1 m1
        have hbd := nR_bd y cs cs.length
        refine ⟨?_, by omega, by omega⟩
        rw [truR_all] at hy m2
        obtain ⟨hy1, hy2⟩ := List.mem_filter.1 hy
        have hy2 := of_decide_eq_true hy2
        have hy3 := wrong_nR hy2
        obtain ⟨b1, b2, b3⟩ := best_spec cs off (allR l) (-1)
        have b4 := b3 y hy1 hy2
        show _ = (allR l).foldl (bestS cs off) (-1)
        have hT'' : ¬ (allR l).foldl (bestS cs off) (-1) < 0 := hT'
        rcases b1 with b1 | ⟨t, ht, hw, b1⟩
        · omega
        · have ht3 := wrong_nR hw
          have ht4 := m2 _ (List.mem_map.2 ⟨t, List.mem_filter.2 ⟨ht, decide_eq_true hw⟩, rfl⟩)
          omega
      obtain ⟨hm1, hm2, hm3⟩ := hmax
      rw [← hm1]
      generalize maxL (((truR l cs (cs.length : Int) off).map fun t => nR t cs cs.length).getD 0 0) ((truR l cs (cs.length : Int) off).map fun t => nR t cs cs.length) = M at *
      rw [← e2] at cW C cB hm3 ⊢
      refine PureF.run fn38 (by simp) (by simp [PuL, PuE, Pu, pu_ints, pu_cnts]) ?_; conv => whnf
      repeat' first | ((with_reducible apply WB.tt); conv => whnf) | ((with_reducible apply WB.ff); conv => whnf) | (refine Rn.seq ?_; conv => whnf) | (refine Rn.reg ?_; conv => whnf) | (refine Rn.drw ?_; conv => whnf) | (refine Rn.blk ?_; conv => whnf) | (refine Rn.skip ?_; conv => whnf) | (refine Rn.ret ?_; conv => whnf) | (refine Rn.exit ?_; conv => whnf) | (refine Rn.cond rfl ?_; conv => whnf) | (refine And.intro (InR.i64 (by omega) (by omega)) ?_; conv => whnf) | (refine And.intro (show _ ≠ (0 : Int) by omega) ?_; conv => whnf) | (refine WIx.intsN (by omega) ?_; conv => whnf) | (refine WIx.rowsN (by omega) ?_; conv => whnf) | (refine WCall.pure (cK) ?_; conv => whnf) | (refine WCall.pure (cW) ?_; conv => whnf) | (refine WCall.pure (C) ?_; conv => whnf) | (refine WCall.pure (cB) ?_; conv => whnf) | ((with_reducible refine WB.decT (by first | with_reducible rfl | assumption | omega | exact ⟨rfl, rfl⟩) ?_); conv => whnf) | ((with_reducible refine WB.decF (by first | assumption | omega) ?_); conv => whnf) | ((with_reducible refine WB.ndT (by first | with_reducible rfl | assumption | omega | exact ⟨rfl, rfl⟩) ?_); conv => whnf) | ((with_reducible refine WB.ndF (by first | assumption | omega) ?_); conv => whnf) | ((with_reducible refine WB.nt ?_); conv => whnf) | ((with_reducible refine WB.nf ?_); conv => whnf) | ((with_reducible refine WB.dec (fun h => ?_) (fun h => ?_)) <;> conv => whnf) | ((with_reducible refine WB.ndec (fun h => ?_) (fun h => ?_)) <;> conv => whnf) | (refine WB.mk (fun h => ?_) (fun h => ?_) <;> conv => whnf)
      exact Fin.two (.inr rfl) rfl rfl (.pu trivial) (.pu trivial)
  · unfold leE leN
    rw [if_neg hF, if_neg hF]
    generalize faultR l cs wr off = F at *
    refine PureF.run fn38 (by simp) (by simp [PuL, PuE, Pu, pu_ints, pu_cnts]) ?_; conv => whnf
    repeat' first | ((with_reducible apply WB.tt); conv => whnf) | ((with_reducible apply WB.ff); conv => whnf) | (refine Rn.seq ?_; conv => whnf) | (refine Rn.reg ?_; conv => whnf) | (refine Rn.drw ?_; conv => whnf) | (refine Rn.blk ?_; conv => whnf) | (refine Rn.skip ?_; conv => whnf) | (refine Rn.ret ?_; conv => whnf) | (refine Rn.exit ?_; conv => whnf) | (refine Rn.cond rfl ?_; conv => whnf) | (refine And.intro (InR.i64 (by omega) (by omega)) ?_; conv => whnf) | (refine And.intro (show _ ≠ (0 : Int) by omega) ?_; conv => whnf) | (refine WIx.intsN (by omega) ?_; conv => whnf) | (refine WIx.rowsN (by omega) ?_; conv => whnf) | (refine WCall.pure (cK) ?_; conv => whnf) | ((with_reducible refine WB.decT (by first | with_reducible rfl | assumption | omega | exact ⟨rfl, rfl⟩) ?_); conv => whnf) | ((with_reducible refine WB.decF (by first | assumption | omega) ?_); conv => whnf) | ((with_reducible refine WB.ndT (by first | with_reducible rfl | assumption | omega | exact ⟨rfl, rfl⟩) ?_); conv => whnf) | ((with_reducible refine WB.ndF (by first | assumption | omega) ?_); conv => whnf) | ((with_reducible refine WB.nt ?_); conv => whnf) | ((with_reducible refine WB.nf ?_); conv => whnf) | ((with_reducible refine WB.dec (fun h => ?_) (fun h => ?_)) <;> conv => whnf) | ((with_reducible refine WB.ndec (fun h => ?_) (fun h => ?_)) <;> conv => whnf) | (refine WB.mk (fun h => ?_) (fun h => ?_) <;> conv => whnf)
    exact Fin.two (.inr rfl) rfl rfl (.pu trivial) (.pu trivial)
theorem c_ProveLeast (l : List Int) (cs : List Cnt) (wr off : Int) (t : List Int) (many : Int) (ht : ∀ i, wfB .i64 (t.getD i 0) = true) :
    PureF Try.prog p40.ix [.ag [.lst 1 (ints l), .lst 3 (rows cntD cs), .i .i64 wr, .i .i64 off], .lst 1 (ints t), .i .i64 many] (.b (decide (faultR l cs wr off = 0) && (isTruthR l t && inB (wrongR cs off t) 0 many))) := by
  rw [← own_fits]
  refine PureF.run fn39 (by simp) (by simp [PuL, PuE, Pu, pu_ints, pu_cnts]) ?_; conv => whnf
  repeat' first | ((with_reducible apply WB.tt); conv => whnf) | ((with_reducible apply WB.ff); conv => whnf) | (refine Rn.seq ?_; conv => whnf) | (refine Rn.reg ?_; conv => whnf) | (refine Rn.drw ?_; conv => whnf) | (refine Rn.blk ?_; conv => whnf) | (refine Rn.skip ?_; conv => whnf) | (refine Rn.ret ?_; conv => whnf) | (refine Rn.exit ?_; conv => whnf) | (refine Rn.cond rfl ?_; conv => whnf) | (refine And.intro (InR.i64 (by omega) (by omega)) ?_; conv => whnf) | (refine And.intro (show _ ≠ (0 : Int) by omega) ?_; conv => whnf) | (refine WIx.intsN (by omega) ?_; conv => whnf) | (refine WIx.rowsN (by omega) ?_; conv => whnf) | (refine WCall.pure (c_prove l cs wr off t many ht) ?_; conv => whnf)
  exact Fin.b rfl rfl
theorem c_CountLeast (l : List Int) (cs : List Cnt) (wr off : Int) (t : List Int) (many : Int) (ht : ∀ i, wfB .i64 (t.getD i 0) = true) (AW : PureF Try.prog p20.ix [] (.b true)) :
    PureF Try.prog p7.ix [.ag [.lst 1 (ints l), .lst 3 (rows cntD cs), .i .i64 wr, .i .i64 off], .lst 1 (ints t), .i .i64 many] (.b true) := by
  have e1 := ints_length l
  have e3 := ints_length t
  refine PureF.run fn6 (by simp) (by simp [PuL, PuE, Pu, pu_ints, pu_cnts]) ?_; conv => whnf
  repeat' first | ((with_reducible apply WB.tt); conv => whnf) | ((with_reducible apply WB.ff); conv => whnf) | (refine Rn.seq ?_; conv => whnf) | (refine Rn.reg ?_; conv => whnf) | (refine Rn.drw ?_; conv => whnf) | (refine Rn.blk ?_; conv => whnf) | (refine Rn.skip ?_; conv => whnf) | (refine Rn.ret ?_; conv => whnf) | (refine Rn.exit ?_; conv => whnf) | (refine Rn.cond rfl ?_; conv => whnf) | (refine And.intro (InR.i64 (by omega) (by omega)) ?_; conv => whnf) | (refine And.intro (show _ ≠ (0 : Int) by omega) ?_; conv => whnf) | (refine WIx.intsN (by omega) ?_; conv => whnf) | (refine WIx.rowsN (by omega) ?_; conv => whnf) | (refine WCall.pure (c_Thin l cs wr off) ?_; conv => whnf) | (refine WCall.pure (AW) ?_; conv => whnf) | ((with_reducible refine WB.dec (fun h => ?_) (fun h => ?_)) <;> conv => whnf) | ((with_reducible refine WB.ndec (fun h => ?_) (fun h => ?_)) <;> conv => whnf) | (refine WB.mk (fun h => ?_) (fun h => ?_) <;> conv => whnf)
  · exact Fin.b rfl rfl
  · exact Fin.b rfl rfl
  have h1 : thinB l cs wr off = true := by
    have : (!thinB l cs wr off) = false := by assumption
    simpa using this
  obtain ⟨h2, h3⟩ := thin_len h1
  have cR := c_Row l cs wr off (by omega) (by omega)
  have cL := c_list t (by omega)
  have cF := c_fault l cs wr off
  have cN := c_Least l cs wr off (by omega)
  have cP := c_ProveLeast l cs wr off t many ht
  have cI := c_IsTruth l cs wr off t (by omega)
  clear h1
  unfold leE leN at cN
  by_cases hF : faultR l cs wr off = 0
  · obtain ⟨f1, f2, f3, f4⟩ := fault0 hF
    have cX := c_refLeast l cs wr off f2 f4 (by omega)
    rw [hF] at cF
    rw [if_pos hF, if_pos hF] at cN
    rw [decide_eq_true hF, Bool.true_and] at cP
    by_cases hI : isTruthR l t = true
    · obtain ⟨g1, g2⟩ := truth_bits hI
      have cW := c_Wrong l cs wr off t g2 (by omega) (fun c h => by rw [g1]; exact f4 c h) (by omega)
      rw [hI, Bool.true_and] at cP
      rw [hI] at cI
      unfold inB at cP
      generalize wrongR cs off t = w at *
      generalize leastF cs off (allR l) = b at *
      by_cases hb : b < 0
      · rw [if_pos hb, if_pos hb] at cN
        by_cases hd : 0 ≤ w ∧ w ≤ many
        · rw [decide_eq_true hd] at cP
          obtain ⟨hd1, hd2⟩ := hd
          repeat' first | ((with_reducible apply WB.tt); conv => whnf) | ((with_reducible apply WB.ff); conv => whnf) | (refine Rn.seq ?_; conv => whnf) | (refine Rn.reg ?_; conv => whnf) | (refine Rn.drw ?_; conv => whnf) | (refine Rn.blk ?_; conv => whnf) | (refine Rn.skip ?_; conv => whnf) | (refine Rn.ret ?_; conv => whnf) | (refine Rn.exit ?_; conv => whnf) | (refine Rn.cond rfl ?_; conv => whnf) | (refine And.intro (InR.i64 (by omega) (by omega)) ?_; conv => whnf) | (refine And.intro (show _ ≠ (0 : Int) by omega) ?_; conv => whnf) | (refine WIx.intsN (by omega) ?_; conv => whnf) | (refine WIx.rowsN (by omega) ?_; conv => whnf) | (refine WCall.pure (cR) ?_; conv => whnf) | (refine WCall.pure (cL) ?_; conv => whnf) | (refine WCall.pure (cF) ?_; conv => whnf) | (refine WCall.pure (cN) ?_; conv => whnf) | (refine WCall.pure (cP) ?_; conv => whnf) | (refine WCall.pure (cI) ?_; conv => whnf) | (refine WCall.pure (cX) ?_; conv => whnf) | (refine WCall.pure (cW) ?_; conv => whnf) | (refine WCall.pure (AW) ?_; conv => whnf) | ((with_reducible refine WB.decT (by first | with_reducible rfl | assumption | omega | exact ⟨rfl, rfl⟩) ?_); conv => whnf) | ((with_reducible refine WB.decF (by first | assumption | omega) ?_); conv => whnf) | ((with_reducible refine WB.ndT (by first | with_reducible rfl | assumption | omega | exact ⟨rfl, rfl⟩) ?_); conv => whnf) | ((with_reducible refine WB.ndF (by first | assumption | omega) ?_); conv => whnf) | ((with_reducible refine WB.nt ?_); conv => whnf) | ((with_reducible refine WB.nf ?_); conv => whnf) | ((with_reducible refine WB.dec (fun h => ?_) (fun h => ?_)) <;> conv => whnf) | ((with_reducible refine WB.ndec (fun h => ?_) (fun h => ?_)) <;> conv => whnf) | (refine WB.mk (fun h => ?_) (fun h => ?_) <;> conv => whnf)
          all_goals first | exact Fin.b rfl rfl | (exfalso; clear cR cL cF cN cP cI cX cW AW ht; simp_all; done) | (exfalso; clear cR cL cF cN cP cI cX cW AW ht; simp_all; omega)
        · rw [decide_eq_false hd] at cP
          repeat' first | ((with_reducible apply WB.tt); conv => whnf) | ((with_reducible apply WB.ff); conv => whnf) | (refine Rn.seq ?_; conv => whnf) | (refine Rn.reg ?_; conv => whnf) | (refine Rn.drw ?_; conv => whnf) | (refine Rn.blk ?_; conv => whnf) | (refine Rn.skip ?_; conv => whnf) | (refine Rn.ret ?_; conv => whnf) | (refine Rn.exit ?_; conv => whnf) | (refine Rn.cond rfl ?_; conv => whnf) | (refine And.intro (InR.i64 (by omega) (by omega)) ?_; conv => whnf) | (refine And.intro (show _ ≠ (0 : Int) by omega) ?_; conv => whnf) | (refine WIx.intsN (by omega) ?_; conv => whnf) | (refine WIx.rowsN (by omega) ?_; conv => whnf) | (refine WCall.pure (cR) ?_; conv => whnf) | (refine WCall.pure (cL) ?_; conv => whnf) | (refine WCall.pure (cF) ?_; conv => whnf) | (refine WCall.pure (cN) ?_; conv => whnf) | (refine WCall.pure (cP) ?_; conv => whnf) | (refine WCall.pure (cI) ?_; conv => whnf) | (refine WCall.pure (cX) ?_; conv => whnf) | (refine WCall.pure (cW) ?_; conv => whnf) | (refine WCall.pure (AW) ?_; conv => whnf) | ((with_reducible refine WB.decT (by first | with_reducible rfl | assumption | omega | exact ⟨rfl, rfl⟩) ?_); conv => whnf) | ((with_reducible refine WB.decF (by first | assumption | omega) ?_); conv => whnf) | ((with_reducible refine WB.ndT (by first | with_reducible rfl | assumption | omega | exact ⟨rfl, rfl⟩) ?_); conv => whnf) | ((with_reducible refine WB.ndF (by first | assumption | omega) ?_); conv => whnf) | ((with_reducible refine WB.nt ?_); conv => whnf) | ((with_reducible refine WB.nf ?_); conv => whnf) | ((with_reducible refine WB.dec (fun h => ?_) (fun h => ?_)) <;> conv => whnf) | ((with_reducible refine WB.ndec (fun h => ?_) (fun h => ?_)) <;> conv => whnf) | (refine WB.mk (fun h => ?_) (fun h => ?_) <;> conv => whnf)
          all_goals first | exact Fin.b rfl rfl | (exfalso; clear cR cL cF cN cP cI cX cW AW ht; simp_all; done) | (exfalso; clear cR cL cF cN cP cI cX cW AW ht; simp_all; omega)
      · rw [if_neg hb, if_neg hb] at cN
        by_cases hd : 0 ≤ w ∧ w ≤ many
        · rw [decide_eq_true hd] at cP
          obtain ⟨hd1, hd2⟩ := hd
          repeat' first | ((with_reducible apply WB.tt); conv => whnf) | ((with_reducible apply WB.ff); conv => whnf) | (refine Rn.seq ?_; conv => whnf) | (refine Rn.reg ?_; conv => whnf) | (refine Rn.drw ?_; conv => whnf) | (refine Rn.blk ?_; conv => whnf) | (refine Rn.skip ?_; conv => whnf) | (refine Rn.ret ?_; conv => whnf) | (refine Rn.exit ?_; conv => whnf) | (refine Rn.cond rfl ?_; conv => whnf) | (refine And.intro (InR.i64 (by omega) (by omega)) ?_; conv => whnf) | (refine And.intro (show _ ≠ (0 : Int) by omega) ?_; conv => whnf) | (refine WIx.intsN (by omega) ?_; conv => whnf) | (refine WIx.rowsN (by omega) ?_; conv => whnf) | (refine WCall.pure (cR) ?_; conv => whnf) | (refine WCall.pure (cL) ?_; conv => whnf) | (refine WCall.pure (cF) ?_; conv => whnf) | (refine WCall.pure (cN) ?_; conv => whnf) | (refine WCall.pure (cP) ?_; conv => whnf) | (refine WCall.pure (cI) ?_; conv => whnf) | (refine WCall.pure (cX) ?_; conv => whnf) | (refine WCall.pure (cW) ?_; conv => whnf) | (refine WCall.pure (AW) ?_; conv => whnf) | ((with_reducible refine WB.decT (by first | with_reducible rfl | assumption | omega | exact ⟨rfl, rfl⟩) ?_); conv => whnf) | ((with_reducible refine WB.decF (by first | assumption | omega) ?_); conv => whnf) | ((with_reducible refine WB.ndT (by first | with_reducible rfl | assumption | omega | exact ⟨rfl, rfl⟩) ?_); conv => whnf) | ((with_reducible refine WB.ndF (by first | assumption | omega) ?_); conv => whnf) | ((with_reducible refine WB.nt ?_); conv => whnf) | ((with_reducible refine WB.nf ?_); conv => whnf) | ((with_reducible refine WB.dec (fun h => ?_) (fun h => ?_)) <;> conv => whnf) | ((with_reducible refine WB.ndec (fun h => ?_) (fun h => ?_)) <;> conv => whnf) | (refine WB.mk (fun h => ?_) (fun h => ?_) <;> conv => whnf)
          all_goals first | exact Fin.b rfl rfl | (exfalso; clear cR cL cF cN cP cI cX cW AW ht; simp_all; done) | (exfalso; clear cR cL cF cN cP cI cX cW AW ht; simp_all; omega)
        · rw [decide_eq_false hd] at cP
          repeat' first | ((with_reducible apply WB.tt); conv => whnf) | ((with_reducible apply WB.ff); conv => whnf) | (refine Rn.seq ?_; conv => whnf) | (refine Rn.reg ?_; conv => whnf) | (refine Rn.drw ?_; conv => whnf) | (refine Rn.blk ?_; conv => whnf) | (refine Rn.skip ?_; conv => whnf) | (refine Rn.ret ?_; conv => whnf) | (refine Rn.exit ?_; conv => whnf) | (refine Rn.cond rfl ?_; conv => whnf) | (refine And.intro (InR.i64 (by omega) (by omega)) ?_; conv => whnf) | (refine And.intro (show _ ≠ (0 : Int) by omega) ?_; conv => whnf) | (refine WIx.intsN (by omega) ?_; conv => whnf) | (refine WIx.rowsN (by omega) ?_; conv => whnf) | (refine WCall.pure (cR) ?_; conv => whnf) | (refine WCall.pure (cL) ?_; conv => whnf) | (refine WCall.pure (cF) ?_; conv => whnf) | (refine WCall.pure (cN) ?_; conv => whnf) | (refine WCall.pure (cP) ?_; conv => whnf) | (refine WCall.pure (cI) ?_; conv => whnf) | (refine WCall.pure (cX) ?_; conv => whnf) | (refine WCall.pure (cW) ?_; conv => whnf) | (refine WCall.pure (AW) ?_; conv => whnf) | ((with_reducible refine WB.decT (by first | with_reducible rfl | assumption | omega | exact ⟨rfl, rfl⟩) ?_); conv => whnf) | ((with_reducible refine WB.decF (by first | assumption | omega) ?_); conv => whnf) | ((with_reducible refine WB.ndT (by first | with_reducible rfl | assumption | omega | exact ⟨rfl, rfl⟩) ?_); conv => whnf) | ((with_reducible refine WB.ndF (by first | assumption | omega) ?_); conv => whnf) | ((with_reducible refine WB.nt ?_); conv => whnf) | ((with_reducible refine WB.nf ?_); conv => whnf) | ((with_reducible refine WB.dec (fun h => ?_) (fun h => ?_)) <;> conv => whnf) | ((with_reducible refine WB.ndec (fun h => ?_) (fun h => ?_)) <;> conv => whnf) | (refine WB.mk (fun h => ?_) (fun h => ?_) <;> conv => whnf)
          all_goals first | exact Fin.b rfl rfl | (exfalso; clear cR cL cF cN cP cI cX cW AW ht; simp_all; done) | (exfalso; clear cR cL cF cN cP cI cX cW AW ht; simp_all; omega)
    · have hI : isTruthR l t = false := by simpa using hI
      rw [hI, Bool.false_and] at cP
      rw [hI] at cI
      generalize leastF cs off (allR l) = b at *
      by_cases hb : b < 0
      · rw [if_pos hb, if_pos hb] at cN
        repeat' first | ((with_reducible apply WB.tt); conv => whnf) | ((with_reducible apply WB.ff); conv => whnf) | (refine Rn.seq ?_; conv => whnf) | (refine Rn.reg ?_; conv => whnf) | (refine Rn.drw ?_; conv => whnf) | (refine Rn.blk ?_; conv => whnf) | (refine Rn.skip ?_; conv => whnf) | (refine Rn.ret ?_; conv => whnf) | (refine Rn.exit ?_; conv => whnf) | (refine Rn.cond rfl ?_; conv => whnf) | (refine And.intro (InR.i64 (by omega) (by omega)) ?_; conv => whnf) | (refine And.intro (show _ ≠ (0 : Int) by omega) ?_; conv => whnf) | (refine WIx.intsN (by omega) ?_; conv => whnf) | (refine WIx.rowsN (by omega) ?_; conv => whnf) | (refine WCall.pure (cR) ?_; conv => whnf) | (refine WCall.pure (cL) ?_; conv => whnf) | (refine WCall.pure (cF) ?_; conv => whnf) | (refine WCall.pure (cN) ?_; conv => whnf) | (refine WCall.pure (cP) ?_; conv => whnf) | (refine WCall.pure (cI) ?_; conv => whnf) | (refine WCall.pure (cX) ?_; conv => whnf) | (refine WCall.pure (AW) ?_; conv => whnf) | ((with_reducible refine WB.decT (by first | with_reducible rfl | assumption | omega | exact ⟨rfl, rfl⟩) ?_); conv => whnf) | ((with_reducible refine WB.decF (by first | assumption | omega) ?_); conv => whnf) | ((with_reducible refine WB.ndT (by first | with_reducible rfl | assumption | omega | exact ⟨rfl, rfl⟩) ?_); conv => whnf) | ((with_reducible refine WB.ndF (by first | assumption | omega) ?_); conv => whnf) | ((with_reducible refine WB.nt ?_); conv => whnf) | ((with_reducible refine WB.nf ?_); conv => whnf) | ((with_reducible refine WB.dec (fun h => ?_) (fun h => ?_)) <;> conv => whnf) | ((with_reducible refine WB.ndec (fun h => ?_) (fun h => ?_)) <;> conv => whnf) | (refine WB.mk (fun h => ?_) (fun h => ?_) <;> conv => whnf)
        all_goals first | exact Fin.b rfl rfl | (exfalso; clear cR cL cF cN cP cI cX AW ht; simp_all; done)
      · rw [if_neg hb, if_neg hb] at cN
        repeat' first | ((with_reducible apply WB.tt); conv => whnf) | ((with_reducible apply WB.ff); conv => whnf) | (refine Rn.seq ?_; conv => whnf) | (refine Rn.reg ?_; conv => whnf) | (refine Rn.drw ?_; conv => whnf) | (refine Rn.blk ?_; conv => whnf) | (refine Rn.skip ?_; conv => whnf) | (refine Rn.ret ?_; conv => whnf) | (refine Rn.exit ?_; conv => whnf) | (refine Rn.cond rfl ?_; conv => whnf) | (refine And.intro (InR.i64 (by omega) (by omega)) ?_; conv => whnf) | (refine And.intro (show _ ≠ (0 : Int) by omega) ?_; conv => whnf) | (refine WIx.intsN (by omega) ?_; conv => whnf) | (refine WIx.rowsN (by omega) ?_; conv => whnf) | (refine WCall.pure (cR) ?_; conv => whnf) | (refine WCall.pure (cL) ?_; conv => whnf) | (refine WCall.pure (cF) ?_; conv => whnf) | (refine WCall.pure (cN) ?_; conv => whnf) | (refine WCall.pure (cP) ?_; conv => whnf) | (refine WCall.pure (cI) ?_; conv => whnf) | (refine WCall.pure (cX) ?_; conv => whnf) | (refine WCall.pure (AW) ?_; conv => whnf) | ((with_reducible refine WB.decT (by first | with_reducible rfl | assumption | omega | exact ⟨rfl, rfl⟩) ?_); conv => whnf) | ((with_reducible refine WB.decF (by first | assumption | omega) ?_); conv => whnf) | ((with_reducible refine WB.ndT (by first | with_reducible rfl | assumption | omega | exact ⟨rfl, rfl⟩) ?_); conv => whnf) | ((with_reducible refine WB.ndF (by first | assumption | omega) ?_); conv => whnf) | ((with_reducible refine WB.nt ?_); conv => whnf) | ((with_reducible refine WB.nf ?_); conv => whnf) | ((with_reducible refine WB.dec (fun h => ?_) (fun h => ?_)) <;> conv => whnf) | ((with_reducible refine WB.ndec (fun h => ?_) (fun h => ?_)) <;> conv => whnf) | (refine WB.mk (fun h => ?_) (fun h => ?_) <;> conv => whnf)
        all_goals first | exact Fin.b rfl rfl | (exfalso; clear cR cL cF cN cP cI cX AW ht; simp_all; done)
  · rw [if_neg hF, if_neg hF] at cN
    rw [decide_eq_false hF, Bool.false_and] at cP
    generalize faultR l cs wr off = F at *
    repeat' first | ((with_reducible apply WB.tt); conv => whnf) | ((with_reducible apply WB.ff); conv => whnf) | (refine Rn.seq ?_; conv => whnf) | (refine Rn.reg ?_; conv => whnf) | (refine Rn.drw ?_; conv => whnf) | (refine Rn.blk ?_; conv => whnf) | (refine Rn.skip ?_; conv => whnf) | (refine Rn.ret ?_; conv => whnf) | (refine Rn.exit ?_; conv => whnf) | (refine Rn.cond rfl ?_; conv => whnf) | (refine And.intro (InR.i64 (by omega) (by omega)) ?_; conv => whnf) | (refine And.intro (show _ ≠ (0 : Int) by omega) ?_; conv => whnf) | (refine WIx.intsN (by omega) ?_; conv => whnf) | (refine WIx.rowsN (by omega) ?_; conv => whnf) | (refine WCall.pure (cR) ?_; conv => whnf) | (refine WCall.pure (cL) ?_; conv => whnf) | (refine WCall.pure (cF) ?_; conv => whnf) | (refine WCall.pure (cN) ?_; conv => whnf) | (refine WCall.pure (cP) ?_; conv => whnf) | (refine WCall.pure (cI) ?_; conv => whnf) | (refine WCall.pure (AW) ?_; conv => whnf) | ((with_reducible refine WB.decT (by first | with_reducible rfl | assumption | omega | exact ⟨rfl, rfl⟩) ?_); conv => whnf) | ((with_reducible refine WB.decF (by first | assumption | omega) ?_); conv => whnf) | ((with_reducible refine WB.ndT (by first | with_reducible rfl | assumption | omega | exact ⟨rfl, rfl⟩) ?_); conv => whnf) | ((with_reducible refine WB.ndF (by first | assumption | omega) ?_); conv => whnf) | ((with_reducible refine WB.nt ?_); conv => whnf) | ((with_reducible refine WB.nf ?_); conv => whnf) | ((with_reducible refine WB.dec (fun h => ?_) (fun h => ?_)) <;> conv => whnf) | ((with_reducible refine WB.ndec (fun h => ?_) (fun h => ?_)) <;> conv => whnf) | (refine WB.mk (fun h => ?_) (fun h => ?_) <;> conv => whnf)
    all_goals exact Fin.b rfl rfl
theorem main_countLeast (AW : PureF Try.prog p20.ix [] (.b true)) {es : List D} (fit : FitP [(true, [.sl [.i .i64], .sl [.b, .i .i64, .i .i64], .i .i64, .i .i64]), (false, [.sl [.i .i64]]), (false, [.i .i64])] es) : PureF Try.prog 6 es (.b true) := by
  obtain ⟨l, cs, wr, off, _, rfl, g1⟩ := fit.row
  obtain ⟨t, _, rfl, w1, g2⟩ := g1.list
  obtain ⟨m, _, rfl, _, g3⟩ := g2.i
  obtain rfl := g3.no
  exact c_CountLeast l cs wr off t m (getD_wf w1) AW
end Go.Ev

namespace Go.Ev
open Go.Proofs
set_option maxRecDepth 100000
/-! ### Exact -/
theorem c_between (a b : Int) : PureF Try.prog p48.ix [.i .i64 a, .i .i64 b] (.ag [.i .i64 a, .i .i64 b]) := by
  refine PureF.run fn47 (by simp) (by simp [PuL, PuE, Pu]) ?_; conv => whnf
  repeat' first | ((with_reducible apply WB.tt); conv => whnf) | ((with_reducible apply WB.ff); conv => whnf) | (refine Rn.seq ?_; conv => whnf) | (refine Rn.reg ?_; conv => whnf) | (refine Rn.drw ?_; conv => whnf) | (refine Rn.blk ?_; conv => whnf) | (refine Rn.skip ?_; conv => whnf) | (refine Rn.ret ?_; conv => whnf) | (refine Rn.exit ?_; conv => whnf) | (refine Rn.cond rfl ?_; conv => whnf) | (refine And.intro (InR.i64 (by omega) (by omega)) ?_; conv => whnf) | (refine And.intro (show _ ≠ (0 : Int) by omega) ?_; conv => whnf) | (refine WIx.intsN (by omega) ?_; conv => whnf) | (refine WIx.rowsN (by omega) ?_; conv => whnf)
  exact ⟨.inr rfl, _, rfl, .pu (by simp [Pu, PuL, one])⟩
theorem c_intsSame (P : List Int) (hP : P.length ≤ 1000) : PureF Try.prog p49.ix [.lst 1 (ints P), .lst 1 (ints P)] (.b true) := by
  have e1 := ints_length P
  refine PureF.run fn48 (by simp) (by simp [PuL, PuE, Pu, pu_ints]) ?_; conv => whnf
  repeat' first | ((with_reducible apply WB.tt); conv => whnf) | ((with_reducible apply WB.ff); conv => whnf) | (refine Rn.seq ?_; conv => whnf) | (refine Rn.reg ?_; conv => whnf) | (refine Rn.drw ?_; conv => whnf) | (refine Rn.blk ?_; conv => whnf) | (refine Rn.skip ?_; conv => whnf) | (refine Rn.ret ?_; conv => whnf) | (refine Rn.exit ?_; conv => whnf) | (refine Rn.cond rfl ?_; conv => whnf) | (refine And.intro (InR.i64 (by omega) (by omega)) ?_; conv => whnf) | (refine And.intro (show _ ≠ (0 : Int) by omega) ?_; conv => whnf) | (refine WIx.intsN (by omega) ?_; conv => whnf) | (refine WIx.rowsN (by omega) ?_; conv => whnf) | ((with_reducible refine WB.decT (by first | with_reducible rfl | assumption | omega | exact ⟨rfl, rfl⟩) ?_); conv => whnf) | ((with_reducible refine WB.decF (by first | assumption | omega) ?_); conv => whnf) | ((with_reducible refine WB.ndT (by first | with_reducible rfl | assumption | omega | exact ⟨rfl, rfl⟩) ?_); conv => whnf) | ((with_reducible refine WB.ndF (by first | assumption | omega) ?_); conv => whnf) | ((with_reducible refine WB.nt ?_); conv => whnf) | ((with_reducible refine WB.nf ?_); conv => whnf) | ((with_reducible refine WB.dec (fun h => ?_) (fun h => ?_)) <;> conv => whnf) | ((with_reducible refine WB.ndec (fun h => ?_) (fun h => ?_)) <;> conv => whnf) | (refine WB.mk (fun h => ?_) (fun h => ?_) <;> conv => whnf)
  refine Rn.loop (fun j : Nat => ⟨(.n (.n .e (some (.lst 1 (ints P))) (.n .e (some (.i .i64 (j : Int))) .e)) (some (.lst 1 (ints P))) .e), .e, .h, none⟩) (fun j => j ≤ P.length) (fun j => P.length - j) 0 ?_ ?_ ?_
  · (first | (refine X.le.mk ?_ ?_ (Nat.le_refl _) rfl rfl) | skip) <;> (repeat' first | exact T.le_e _ | refine T.le_some ?_ ?_ ?_ | refine T.le_none ?_ ?_ | rfl)
  · omega
  intro j hj
  conv => whnf
  repeat' first | ((with_reducible apply WB.tt); conv => whnf) | ((with_reducible apply WB.ff); conv => whnf) | (refine Rn.seq ?_; conv => whnf) | (refine Rn.reg ?_; conv => whnf) | (refine Rn.drw ?_; conv => whnf) | (refine Rn.blk ?_; conv => whnf) | (refine Rn.skip ?_; conv => whnf) | (refine Rn.ret ?_; conv => whnf) | (refine Rn.exit ?_; conv => whnf) | (refine Rn.cond rfl ?_; conv => whnf) | (refine And.intro (InR.i64 (by omega) (by omega)) ?_; conv => whnf) | (refine And.intro (show _ ≠ (0 : Int) by omega) ?_; conv => whnf) | (refine WIx.intsN (by omega) ?_; conv => whnf) | (refine WIx.rowsN (by omega) ?_; conv => whnf)
  refine WB.dec (fun h => ?_) (fun h => ?_) <;> conv => whnf
  · have hlt : j < P.length := by omega
    repeat' first | ((with_reducible apply WB.tt); conv => whnf) | ((with_reducible apply WB.ff); conv => whnf) | (refine Rn.seq ?_; conv => whnf) | (refine Rn.reg ?_; conv => whnf) | (refine Rn.drw ?_; conv => whnf) | (refine Rn.blk ?_; conv => whnf) | (refine Rn.skip ?_; conv => whnf) | (refine Rn.ret ?_; conv => whnf) | (refine Rn.exit ?_; conv => whnf) | (refine Rn.cond rfl ?_; conv => whnf) | (refine And.intro (InR.i64 (by omega) (by omega)) ?_; conv => whnf) | (refine And.intro (show _ ≠ (0 : Int) by omega) ?_; conv => whnf) | (refine WIx.intsN (by omega) ?_; conv => whnf) | (refine WIx.rowsN (by omega) ?_; conv => whnf) | ((with_reducible refine WB.decT (by first | with_reducible rfl | assumption | omega | exact ⟨rfl, rfl⟩) ?_); conv => whnf) | ((with_reducible refine WB.decF (by first | assumption | omega) ?_); conv => whnf) | ((with_reducible refine WB.ndT (by first | with_reducible rfl | assumption | omega | exact ⟨rfl, rfl⟩) ?_); conv => whnf) | ((with_reducible refine WB.ndF (by first | assumption | omega) ?_); conv => whnf) | ((with_reducible refine WB.nt ?_); conv => whnf) | ((with_reducible refine WB.nf ?_); conv => whnf) | ((with_reducible refine WB.dec (fun h => ?_) (fun h => ?_)) <;> conv => whnf) | ((with_reducible refine WB.ndec (fun h => ?_) (fun h => ?_)) <;> conv => whnf) | (refine WB.mk (fun h => ?_) (fun h => ?_) <;> conv => whnf)
    refine Again.to (j + 1) (by omega) (by omega) (Nat.le_refl _) ?_
    (refine Shr.of ?_ ?_ rfl rfl) <;> (repeat' first | exact Rel.e | refine Rel.some ?_ ?_ ?_ | refine Rel.none ?_ ?_) <;> (try first | (show Fz _ _ _ _; first | exact Fz.pu trivial | (refine Fz.i ?_; first | rfl | omega) | (refine Fz.kpt ?_; (focus (show Pos.nat _ < Pos.nat _; simp [Pos.nat]; done))) | (refine Fz.ksl ?_; (focus (show Pos.nat _ < Pos.nat _; simp [Pos.nat]; done))) | (refine Fz.kmp ?_; (focus (show Pos.nat _ < Pos.nat _; simp [Pos.nat]; done))) | (refine Fz.pu ?_; simp [Cell.d, Pu, PuL, PuE, pu_ints, pu_cnts, pu_tR]; done) | (refine Fz.pu ?_; simp only [Cell.d]; assumption)) | (refine RO'.of ?_ (ShC.same ?_); (focus (show Pos.nat _ < Pos.nat _; simp [Pos.nat]; done)); (repeat' first | exact ShC.nl | refine ShC.cn ?_ ?_) <;> first | exact Fz.pu trivial | (refine Fz.i ?_; first | rfl | omega) | (refine Fz.kpt ?_; (focus (show Pos.nat _ < Pos.nat _; simp [Pos.nat]; done))) | (refine Fz.ksl ?_; (focus (show Pos.nat _ < Pos.nat _; simp [Pos.nat]; done))) | (refine Fz.kmp ?_; (focus (show Pos.nat _ < Pos.nat _; simp [Pos.nat]; done))) | (refine Fz.pu ?_; simp [Cell.d, Pu, PuL, PuE, pu_ints, pu_cnts, pu_tR]; done) | (refine Fz.pu ?_; simp only [Cell.d]; assumption)))
  · repeat' first | ((with_reducible apply WB.tt); conv => whnf) | ((with_reducible apply WB.ff); conv => whnf) | (refine Rn.seq ?_; conv => whnf) | (refine Rn.reg ?_; conv => whnf) | (refine Rn.drw ?_; conv => whnf) | (refine Rn.blk ?_; conv => whnf) | (refine Rn.skip ?_; conv => whnf) | (refine Rn.ret ?_; conv => whnf) | (refine Rn.exit ?_; conv => whnf) | (refine Rn.cond rfl ?_; conv => whnf) | (refine And.intro (InR.i64 (by omega) (by omega)) ?_; conv => whnf) | (refine And.intro (show _ ≠ (0 : Int) by omega) ?_; conv => whnf) | (refine WIx.intsN (by omega) ?_; conv => whnf) | (refine WIx.rowsN (by omega) ?_; conv => whnf)
    exact Fin.b rfl rfl
theorem fault2 {l : List Int} {cs : List Cnt} {wr off : Int} (hF : faultR l cs wr off = 0) : (∀ a ∈ l, 0 ≤ a ∧ a ≤ 2) ∧ 0 ≤ wr ∧ wr ≤ 6 ∧ 0 ≤ off ∧ off ≤ 9 := by
  obtain ⟨f1, f2, f3, f4⟩ := fault0 hF
  rw [faultR_eq f2 f3] at hF
  split at hF
  · rename_i h
    simp only [Bool.and_eq_true, inB, decide_eq_true_iff, List.all_eq_true] at h
    exact ⟨h.2.1, h.2.2.2.1.1, h.2.2.2.1.2, h.2.2.2.2.1, h.2.2.2.2.2⟩
  · cases hF
theorem fault_ok {l : List Int} {cs : List Cnt} {wr off : Int} (h0 : 0 < l.length) (h9 : l.length ≤ 9) (h6 : cs.length ≤ 6) (hl : ∀ a ∈ l, 0 ≤ a ∧ a ≤ 2) (hc : ∀ c ∈ cs, cntIn l.length c) (hw : 0 ≤ wr ∧ wr ≤ 6) (ho : 0 ≤ off ∧ off ≤ 9) : faultR l cs wr off = 0 := by
  rw [faultR_eq h9 h6, if_pos]
  simp only [Bool.and_eq_true, inB, decide_eq_true_iff, List.all_eq_true, cntOk]
  exact ⟨h0, hl, fun c hcc => ⟨⟨(hc c hcc).1, (hc c hcc).2.1⟩, (hc c hcc).2.2.1, (hc c hcc).2.2.2⟩, hw, ho⟩
theorem foldA_ne : ∀ (l : List Int) (L : List (List Int)), (∀ a ∈ l, 0 ≤ a ∧ a ≤ 2) → L ≠ [] → foldA l L ≠ []
  | [], L, _, h => h
  | a :: l, L, hl, h => by
    refine foldA_ne l (stepL a L) (fun b hb => hl b (by simp [hb])) ?_
    obtain ⟨x, L', rfl⟩ := List.exists_cons_of_ne_nil h
    have ha := hl a (by simp)
    have : a = 0 ∨ a = 1 ∨ a = 2 := by omega
    unfold stepL
    rw [List.flatMap_cons]
    rcases this with rfl | rfl | rfl <;> simp [exN, okB]
theorem allR_ne {l : List Int} (hl : ∀ a ∈ l, 0 ≤ a ∧ a ≤ 2) : allR l ≠ [] := foldA_ne l [[]] hl (by simp)
theorem ec_nonneg (t : List Int) (c : Cnt) : 0 ≤ ec t c := errR_nonneg _ _ _ _
theorem wrong_zero {cs : List Cnt} {off : Int} {t : List Int} (h : wrongR cs off t = 0) : ∀ c ∈ cs, ec t c = 0 := fun c hc => by
  unfold wrongR at h
  split at h
  · have h : cs.countP (fun c => decide (0 < ec t c)) = 0 := by exact_mod_cast h
    rw [List.countP_eq_zero] at h
    have := h c hc
    have h2 := ec_nonneg t c
    simp at this
    omega
  · cases h
theorem zero_wrong {cs : List Cnt} {off : Int} {t : List Int} (ho : 0 ≤ off) (h : ∀ c ∈ cs, ec t c = 0) : wrongR cs off t = 0 := by
  unfold wrongR
  rw [if_pos (by rw [List.all_eq_true]; intro c hc; rw [h c hc]; exact decide_eq_true ho)]
  have : cs.countP (fun c => decide (0 < ec t c)) = 0 := by
    rw [List.countP_eq_zero]
    intro c hc
    rw [h c hc]
    simp
  rw [this]; rfl
theorem ec_iff {t : List Int} {bk : Bool} {many number : Int} : ec t ⟨bk, many, number⟩ = 0 ↔ errN t bk many = number := by
  unfold ec errR
  constructor <;> intro h <;> simp only at * <;> omega
theorem mem_truR {l : List Int} {cs : List Cnt} {off : Int} {t : List Int} (ho : 0 ≤ off) (ht : t ∈ allR l) : t ∈ truR l cs 0 off ↔ ∀ c ∈ cs, ec t c = 0 := by
  unfold truR
  rw [List.mem_filter]
  unfold fitR
  rw [allR_truth l t ht, Bool.true_and]
  unfold inB
  rw [decide_eq_true_iff]
  constructor
  · intro h
    exact wrong_zero (off := off) (by omega)
  · intro h
    have := zero_wrong (off := off) ho h
    exact ⟨ht, by omega⟩
theorem riL_all {l : List Int} {cs : List Cnt} {off : Int} (ho : 0 ≤ off) (hE : sureE l cs 0 off = 0) : riL l cs 0 off = List.replicate cs.length 1 := by
  unfold riL
  rw [if_pos hE]
  refine List.ext_getElem (by simp) fun i h1 h2 => ?_
  have hi : i < cs.length := by simpa using h1
  rw [List.getElem_map, List.getElem_range, List.getElem_replicate]
  have hc : cs.getD i default ∈ cs := getD_mem hi
  have : ∀ R : List (List Int), (∀ t ∈ R, ec t (cs.getD i default) = 0) → yesR R (cs.getD i default) = R.length := fun R => by
    induction R with
    | nil => intro _; rfl
    | cons a R ih =>
      intro h
      have := ih fun t ht => h t (by simp [ht])
      unfold yesR at *
      rw [List.map_cons, List.sum_cons, this, List.length_cons]
      unfold rAt
      rw [if_pos (h a (by simp))]
      push_cast; omega
  rw [this]
  · unfold verdR; rw [if_pos rfl]
  · intro t ht
    exact (mem_truR ho (List.mem_filter.1 ht).1).1 ht _ hc
theorem lohi_const {R : List (List Int)} {f t N : Int} (hne : R ≠ []) (hb : ∀ x ∈ R, 0 ≤ sumT f t x ∧ sumT f t x ≤ 9) (h : ∀ x ∈ R, sumT f t x = N) : loR f t R = N ∧ hiR f t R = N := by
  obtain ⟨_, ⟨x, hx, h1⟩, y, hy, h2⟩ := bnd_spec hne hb
  exact ⟨by rw [← h1, h x hx], by rw [← h2, h y hy]⟩
theorem sumT_whole (x : List Int) : sumT 0 ((x.length : Int) - 1) x = sumP x 0 x.length := by
  unfold sumT
  rw [show ((x.length : Int) - 1 + 1 - 0).toNat = x.length by omega]
  rfl
set_option maxHeartbeats 1000000 in
theorem c_CountExact (l : List Int) (cs : List Cnt) (wr off : Int) (w a : Int) (hw : 0 ≤ w ∧ w ≤ 65535) (ha : 0 ≤ a ∧ a ≤ 255) (AW : PureF Try.prog p20.ix [] (.b true)) :
    PureF Try.prog p16.ix [.ag [.lst 1 (ints l), .lst 3 (rows cntD cs), .i .i64 wr, .i .i64 off], .i .u16 w, .i .u8 a] (.b true) := by
  have e1 := ints_length l
  refine PureF.run fn15 (by simp) (by simp [PuL, PuE, Pu, pu_ints, pu_cnts]) ?_; conv => whnf
  repeat' first | ((with_reducible apply WB.tt); conv => whnf) | ((with_reducible apply WB.ff); conv => whnf) | (refine Rn.seq ?_; conv => whnf) | (refine Rn.reg ?_; conv => whnf) | (refine Rn.drw ?_; conv => whnf) | (refine Rn.blk ?_; conv => whnf) | (refine Rn.skip ?_; conv => whnf) | (refine Rn.ret ?_; conv => whnf) | (refine Rn.exit ?_; conv => whnf) | (refine Rn.cond rfl ?_; conv => whnf) | (refine And.intro (InR.i64 (by omega) (by omega)) ?_; conv => whnf) | (refine And.intro (show _ ≠ (0 : Int) by omega) ?_; conv => whnf) | (refine WIx.intsN (by omega) ?_; conv => whnf) | (refine WIx.rowsN (by omega) ?_; conv => whnf) | (refine WCall.pure (c_ready l cs wr off) ?_; conv => whnf) | (refine WCall.pure (AW) ?_; conv => whnf) | ((with_reducible refine WB.dec (fun h => ?_) (fun h => ?_)) <;> conv => whnf) | ((with_reducible refine WB.ndec (fun h => ?_) (fun h => ?_)) <;> conv => whnf) | (refine WB.mk (fun h => ?_) (fun h => ?_) <;> conv => whnf)
  · exact Fin.b rfl rfl
  have h1 : readyB l cs wr off = true := by
    have : (!readyB l cs wr off) = false := by assumption
    simpa using this
  obtain ⟨h1, hF⟩ := ready_spec h1
  obtain ⟨f1, f2, f3, f4⟩ := fault0 hF
  obtain ⟨f5, _, _, o1, o2⟩ := fault2 hF
  clear h1
  have cA := c_All l cs wr off f2
  have hal := allR_len l f2
  have hne := allR_ne f5
  have hpos : 0 < (allR l).length := List.length_pos_iff.2 hne
  have e2 := rows_length tD (allR l)
  have m1 := Int.tmod_nonneg (((rows tD (allR l)).length : Nat) : Int) hw.1
  have m2 := Int.tmod_lt_of_pos w (show (0 : Int) < ((rows tD (allR l)).length : Nat) by omega)
  obtain ⟨i, hi⟩ : ∃ i : Nat, w.tmod (((rows tD (allR l)).length : Nat) : Int) = i := ⟨(w.tmod (((rows tD (allR l)).length : Nat) : Int)).toNat, by omega⟩
  have hil : i < (allR l).length := by omega
  have htm : (allR l).getD i default ∈ allR l := getD_mem hil
  obtain ⟨g1, g2⟩ := truth_bits (allR_truth l _ htm)
  repeat' first | ((with_reducible apply WB.tt); conv => whnf) | ((with_reducible apply WB.ff); conv => whnf) | (refine Rn.seq ?_; conv => whnf) | (refine Rn.reg ?_; conv => whnf) | (refine Rn.drw ?_; conv => whnf) | (refine Rn.blk ?_; conv => whnf) | (refine Rn.skip ?_; conv => whnf) | (refine Rn.ret ?_; conv => whnf) | (refine Rn.exit ?_; conv => whnf) | (refine Rn.cond rfl ?_; conv => whnf) | (refine And.intro (InR.i64 (by omega) (by omega)) ?_; conv => whnf) | (refine And.intro (show _ ≠ (0 : Int) by omega) ?_; conv => whnf) | (refine WIx.intsN (by omega) ?_; conv => whnf) | (refine WIx.rowsN (by omega) ?_; conv => whnf) | (refine WCall.pure (cA) ?_; conv => whnf)
  rw [hi]
  refine WIx.rowsN hil ?_; conv => whnf
  generalize (allR l).getD i default = t at *
  have e3 := ints_length t
  have m3 := Int.tmod_nonneg ((t.length : Int) + 1) ha.1
  have m4 := Int.tmod_lt_of_pos a (show (0 : Int) < (t.length : Int) + 1 by omega)
  obtain ⟨k, hk⟩ : ∃ k : Nat, a.tmod ((t.length : Int) + 1) = k := ⟨(a.tmod ((t.length : Int) + 1)).toNat, by omega⟩
  have hkl : k ≤ t.length := by omega
  have b0 := sumP_bd g2 0 k (by omega)
  have b1 := sumP_bd g2 k (t.length - k) (by omega)
  have hsp : sumP t 0 t.length = sumP t 0 k + sumP t k (t.length - k) := by
    have := sumP_add t 0 k (t.length - k)
    rwa [show k + (t.length - k) = t.length by omega, Nat.zero_add] at this
  have cS1 := c_Sum t 0 0 ((k : Int) - 1) rfl g2 (by omega) (by omega) (by omega) k (by omega)
  have cS2 := c_Sum t k (k : Int) ((t.length : Int) - 1) rfl g2 (by omega) (by omega) (by omega) (t.length - k) (by omega)
  repeat' first | ((with_reducible apply WB.tt); conv => whnf) | ((with_reducible apply WB.ff); conv => whnf) | (refine Rn.seq ?_; conv => whnf) | (refine Rn.reg ?_; conv => whnf) | (refine Rn.drw ?_; conv => whnf) | (refine Rn.blk ?_; conv => whnf) | (refine Rn.skip ?_; conv => whnf) | (refine Rn.ret ?_; conv => whnf) | (refine Rn.exit ?_; conv => whnf) | (refine Rn.cond rfl ?_; conv => whnf) | (refine And.intro (InR.i64 (by omega) (by omega)) ?_; conv => whnf) | (refine And.intro (show _ ≠ (0 : Int) by omega) ?_; conv => whnf) | (refine WIx.intsN (by omega) ?_; conv => whnf) | (refine WIx.rowsN (by omega) ?_; conv => whnf)
  rw [e3, hk]
  refine And.intro (InR.i64 (by omega) (by omega)) ?_; conv => whnf
  refine WCall.pure cS1 ?_; conv => whnf
  refine WCall.pure cS2 ?_; conv => whnf
  generalize hA : sumP t 0 k = A at *
  generalize hB : sumP t k (t.length - k) = B at *
  refine Rn.seq ?_; conv => whnf
  refine Rn.reg ?_; conv => whnf
  refine Rn.seq ?_; conv => whnf
  refine Rn.shrink ?_ (fun e z h => h)
  refine Rn.reg ?_; conv => whnf
  repeat' first | ((with_reducible apply WB.tt); conv => whnf) | ((with_reducible apply WB.ff); conv => whnf) | (refine Rn.seq ?_; conv => whnf) | (refine Rn.reg ?_; conv => whnf) | (refine Rn.drw ?_; conv => whnf) | (refine Rn.blk ?_; conv => whnf) | (refine Rn.skip ?_; conv => whnf) | (refine Rn.ret ?_; conv => whnf) | (refine Rn.exit ?_; conv => whnf) | (refine Rn.cond rfl ?_; conv => whnf) | (refine And.intro (InR.i64 (by omega) (by omega)) ?_; conv => whnf) | (refine And.intro (show _ ≠ (0 : Int) by omega) ?_; conv => whnf) | (refine WIx.intsN (by omega) ?_; conv => whnf) | (refine WIx.rowsN (by omega) ?_; conv => whnf)
  generalize hcx : (⟨decide (a.tmod 2 = 1), ((ints t).length : Int), A + B⟩ : Cnt) = cx
  have hx1 : cx.back = decide (a.tmod 2 = 1) := by rw [← hcx]
  have hx2 : cx.many = (ints t).length := by rw [← hcx]
  have hx3 : cx.number = A + B := by rw [← hcx]
  have hcd : cntD cx = [.b (decide (a.tmod 2 = 1)), .i .i64 ((ints t).length : Int), .i .i64 (A + B)] := by rw [← hcx]; rfl
  refine ⟨⟨((.n (.n (.n (.n .e (some (.pt (.o .h) 0 0)) .e) none (.n .e (some (.i .i64 (k : Int))) .e)) none (.n (.n .e (some (.lst 1 (ints t))) .e) none (.n .e (some (.i .i64 B)) .e))) none (.n (.n .e none (.n .e (some (.i .i64 A)) .e)) none (.n (.n .e (some (.i .i64 ((t.length : Int) - 1))) .e) none (.n .e (some (.pt (.i .h) 0 0)) .e)))) : T D), ((.n (.n .e (some (rowC l [cx] 0 off)) .e) none (.n .e (some (.cells false [.o (.lst 1 (ints l)) 0, .o .ns 0, .o (.i .i64 0) 0, .o (.i .i64 off) 0] 1)) .e)) : T C), .o (.o .h), none⟩, ?_, Nat.le_refl _, ?_⟩
  · refine Shr.of ?_ ?_ rfl rfl
    · show Rel _ _ ((.n (.n (.n (.n .e (some (.pt (.o .h) 0 0)) .e) none (.n .e (some (.i .i64 (k : Int))) .e)) none (.n (.n .e (some (.lst 1 (ints t))) .e) none (.n .e (some (.i .i64 B)) .e))) none (.n (.n .e none (.n .e (some (.i .i64 A)) .e)) none (.n (.n .e (some (.i .i64 ((t.length : Int) - 1))) .e) none (.n .e (some (.pt (.i .h) 0 0)) .e)))) : T D) _
      (repeat' first | exact Rel.e | refine Rel.some ?_ ?_ ?_ | refine Rel.none ?_ ?_ | refine Rel.ee ?_ ?_)
      all_goals show Fz _ _ _ _
      all_goals first | exact .pu trivial | exact .kpt (by simp [Pos.nat]) | exact .pu (pu_ints _)
    · show Rel _ _ ((.n (.n .e (some (rowC l [cx] 0 off)) .e) none (.n .e (some (.cells false [.o (.lst 1 (ints l)) 0, .o .ns 0, .o (.i .i64 0) 0, .o (.i .i64 off) 0] 1)) .e)) : T C) _
      (repeat' first | exact Rel.e | refine Rel.some ?_ ?_ ?_ | refine Rel.none ?_ ?_ | refine Rel.ee ?_ ?_)
      all_goals refine RO'.of (by simp [Pos.nat]) ?_
      · refine ShC.of (.cons ⟨fun st h => h, .pu (pu_ints _)⟩ (.cons ⟨fun st h => h, ?_⟩ (.cons ⟨fun st h => h, .pu trivial⟩ (.cons ⟨fun st h => h, .pu trivial⟩ .nil))))
        exact Fz.grown (s1 := 0) (s2 := 0) (ds := []) (r := cntD cx) (by simp [Pos.nat]) rfl (by rw [hcd]; rfl) (Nat.le_refl _) (by simp [rows]) (by simp [rows]) (cnts_three _) (pu_cnts _)
      · exact ShC.same (ShC.cn (.pu (pu_ints _)) (ShC.cn (.pu trivial) (ShC.cn (.pu trivial) (ShC.cn (.pu trivial) ShC.nl))))
  conv => whnf
  refine Rn.seq ?_; conv => whnf
  refine Rn.shrink ?_ (fun e z h => h)
  refine Rn.reg ?_; conv => whnf
  repeat' first | ((with_reducible apply WB.tt); conv => whnf) | ((with_reducible apply WB.ff); conv => whnf) | (refine Rn.seq ?_; conv => whnf) | (refine Rn.reg ?_; conv => whnf) | (refine Rn.drw ?_; conv => whnf) | (refine Rn.blk ?_; conv => whnf) | (refine Rn.skip ?_; conv => whnf) | (refine Rn.ret ?_; conv => whnf) | (refine Rn.exit ?_; conv => whnf) | (refine Rn.cond rfl ?_; conv => whnf) | (refine And.intro (InR.i64 (by omega) (by omega)) ?_; conv => whnf) | (refine And.intro (show _ ≠ (0 : Int) by omega) ?_; conv => whnf) | (refine WIx.intsN (by omega) ?_; conv => whnf) | (refine WIx.rowsN (by omega) ?_; conv => whnf)
  generalize hy1 : (⟨false, (k : Int), A⟩ : Cnt) = y1
  generalize hy2 : (⟨true, ((ints t).length : Int) - k, B⟩ : Cnt) = y2
  have hcd1 : cntD y1 = [.b false, .i .i64 (k : Int), .i .i64 A] := by rw [← hy1]; rfl
  have hcd2 : cntD y2 = [.b true, .i .i64 (((ints t).length : Int) - k), .i .i64 B] := by rw [← hy2]; rfl
  refine ⟨⟨((.n (.n (.n (.n .e (some (.pt (.o .h) 0 0)) .e) none (.n .e (some (.i .i64 (k : Int))) .e)) none (.n (.n .e (some (.lst 1 (ints t))) .e) none (.n .e (some (.i .i64 B)) .e))) none (.n (.n .e none (.n .e (some (.i .i64 A)) .e)) none (.n (.n .e (some (.i .i64 ((t.length : Int) - 1))) .e) none (.n .e (some (.pt (.i .h) 0 0)) .e)))) : T D), ((.n (.n .e (some (rowC l [cx] 0 off)) .e) none (.n .e (some (rowC l [y1, y2] 0 off)) .e)) : T C), .o (.o .h), none⟩, ?_, Nat.le_refl _, ?_⟩
  · refine Shr.of ?_ ?_ rfl rfl
    · show Rel _ _ ((.n (.n (.n (.n .e (some (.pt (.o .h) 0 0)) .e) none (.n .e (some (.i .i64 (k : Int))) .e)) none (.n (.n .e (some (.lst 1 (ints t))) .e) none (.n .e (some (.i .i64 B)) .e))) none (.n (.n .e none (.n .e (some (.i .i64 A)) .e)) none (.n (.n .e (some (.i .i64 ((t.length : Int) - 1))) .e) none (.n .e (some (.pt (.i .h) 0 0)) .e)))) : T D) _
      (repeat' first | exact Rel.e | refine Rel.some ?_ ?_ ?_ | refine Rel.none ?_ ?_ | refine Rel.ee ?_ ?_)
      all_goals show Fz _ _ _ _
      all_goals first | exact .pu trivial | exact .kpt (by simp [Pos.nat]) | exact .pu (pu_ints _)
    · show Rel _ _ ((.n (.n .e (some (rowC l [cx] 0 off)) .e) none (.n .e (some (rowC l [y1, y2] 0 off)) .e)) : T C) _
      (repeat' first | exact Rel.e | refine Rel.some ?_ ?_ ?_ | refine Rel.none ?_ ?_ | refine Rel.ee ?_ ?_)
      all_goals refine RO'.of (by simp [Pos.nat]) ?_
      · exact rowC_sh l [cx] 0 off
      · refine ShC.of (.cons ⟨fun st h => h, .pu (pu_ints _)⟩ (.cons ⟨fun st h => h, ?_⟩ (.cons ⟨fun st h => h, .pu trivial⟩ (.cons ⟨fun st h => h, .pu trivial⟩ .nil))))
        exact Fz.grown (s1 := 0) (s2 := 0) (ds := []) (r := cntD y1 ++ cntD y2) (by simp [Pos.nat]) rfl (by rw [hcd1, hcd2]; rfl) (Nat.le_refl _) (by simp [rows]) (by simp [rows]) (cnts_three _) (pu_cnts _)
  conv => whnf
  have kx : cntIn l.length cx := ⟨by omega, by omega, by omega, by omega⟩
  have ky1 : cntIn l.length y1 := by rw [← hy1]; exact ⟨by simp only; omega, by simp only; omega, by simp only; omega, by simp only; omega⟩
  have ky2 : cntIn l.length y2 := by rw [← hy2]; exact ⟨by simp only; omega, by simp only; omega, by simp only; omega, by simp only; omega⟩
  have hFx : faultR l [cx] 0 off = 0 := fault_ok f1 f2 (by simp) f5 (fun c hc => by rw [List.mem_singleton.1 hc]; exact kx) (by omega) ⟨o1, o2⟩
  have hFy : faultR l [y1, y2] 0 off = 0 := fault_ok f1 f2 (by simp) f5 (fun c hc => by
    rcases List.mem_cons.1 hc with rfl | hc
    · exact ky1
    · rw [List.mem_singleton.1 hc]; exact ky2) (by omega) ⟨o1, o2⟩
  have erx : ∀ x : List Int, x.length = l.length → (ec x cx = 0 ↔ sumP x 0 x.length = A + B) := fun x hxl => by
    rw [← hcx, ec_iff]
    unfold errN
    rw [show (((ints t).length : Int)).toNat = x.length by omega]
    split
    · rw [Nat.sub_self]
    · rfl
  have ery1 : ∀ x : List Int, x.length = l.length → (ec x y1 = 0 ↔ sumP x 0 k = A) := fun x hxl => by
    rw [← hy1, ec_iff]
    unfold errN
    rw [Int.toNat_natCast, if_neg (by simp)]
  have ery2 : ∀ x : List Int, x.length = l.length → (ec x y2 = 0 ↔ sumP x k (x.length - k) = B) := fun x hxl => by
    rw [← hy2, ec_iff]
    unfold errN
    rw [if_pos rfl, show (((ints t).length : Int) - k).toNat = x.length - k by omega, show x.length - (x.length - k) = k by omega]
  have htx : t ∈ truR l [cx] 0 off := (mem_truR o1 htm).2 fun c hc => by
    rw [List.mem_singleton.1 hc]
    exact (erx t g1).2 (by omega)
  have hty : t ∈ truR l [y1, y2] 0 off := (mem_truR o1 htm).2 fun c hc => by
    rcases List.mem_cons.1 hc with rfl | hc
    · exact (ery1 t g1).2 hA
    · rw [List.mem_singleton.1 hc]; exact (ery2 t g1).2 hB
  have hTx : truR l [cx] 0 off ≠ [] := fun h => by rw [h] at htx; cases htx
  have hTy : truR l [y1, y2] 0 off ≠ [] := fun h => by rw [h] at hty; cases hty
  have hSx : ∀ x ∈ truR l [cx] 0 off, sumT 0 ((l.length : Int) - 1) x = A + B := fun x hx => by
    obtain ⟨q1, q2⟩ := truR_mem x hx
    have := (mem_truR o1 (List.mem_filter.1 hx).1).1 hx cx (by simp)
    rw [← q1, sumT_whole]
    exact (erx x q1).1 this
  have hSy : ∀ x ∈ truR l [y1, y2] 0 off, sumT 0 ((l.length : Int) - 1) x = A + B := fun x hx => by
    obtain ⟨q1, q2⟩ := truR_mem x hx
    have r1 := (ery1 x q1).1 ((mem_truR o1 (List.mem_filter.1 hx).1).1 hx y1 (by simp))
    have r2 := (ery2 x q1).1 ((mem_truR o1 (List.mem_filter.1 hx).1).1 hx y2 (by simp))
    have r3 := sumP_add x 0 k (x.length - k)
    rw [show k + (x.length - k) = x.length by omega, Nat.zero_add] at r3
    rw [← q1, sumT_whole, r3, r1, r2]
  have bx := sum_bd (f := 0) (t := (l.length : Int) - 1) hFx (by omega) (by omega) (by omega)
  have by' := sum_bd (f := 0) (t := (l.length : Int) - 1) hFy (by omega) (by omega) (by omega)
  obtain ⟨lx1, lx2⟩ := lohi_const hTx bx hSx
  obtain ⟨ly1, ly2⟩ := lohi_const hTy by' hSy
  have cRx := c_Row l [cx] 0 off (by omega) (by simp)
  have cRy := c_Row l [y1, y2] 0 off (by omega) (by simp)
  have cCx := c_Chairs0 l [cx] 0 off 0 ((l.length : Int) - 1) hFx (by omega) (by omega) (by omega) hTx
  have cCy := c_Chairs0 l [y1, y2] 0 off 0 ((l.length : Int) - 1) hFy (by omega) (by omega) (by omega) hTy
  rw [lx1, lx2] at cCx
  rw [ly1, ly2] at cCy
  have hsE : sureE l [y1, y2] 0 off = 0 := by unfold sureE; rw [if_pos hFy, if_neg hTy]
  have cQ := c_Right l [y1, y2] 0 off (by omega)
  rw [hsE, riL_all o1 hsE, show List.replicate [y1, y2].length (1 : Int) = [1, 1] from rfl] at cQ
  have cI := c_intsSame [1, 1] (by simp)
  have cB := c_between (A + B) (A + B)
  have wS := wf_small (n := A + B) (by omega) (by omega)
  have hlt' : (t.length : Int) - 1 = (l.length : Int) - 1 := by omega
  rw [hlt']
  repeat' first | ((with_reducible apply WB.tt); conv => whnf) | ((with_reducible apply WB.ff); conv => whnf) | (refine Rn.seq ?_; conv => whnf) | (refine Rn.reg ?_; conv => whnf) | (refine Rn.drw ?_; conv => whnf) | (refine Rn.blk ?_; conv => whnf) | (refine Rn.skip ?_; conv => whnf) | (refine Rn.ret ?_; conv => whnf) | (refine Rn.exit ?_; conv => whnf) | (refine Rn.cond rfl ?_; conv => whnf) | (refine And.intro (InR.i64 (by omega) (by omega)) ?_; conv => whnf) | (refine And.intro (show _ ≠ (0 : Int) by omega) ?_; conv => whnf) | (refine WIx.intsN (by omega) ?_; conv => whnf) | (refine WIx.rowsN (by omega) ?_; conv => whnf) | (refine WCall.pure (cRx) ?_; conv => whnf) | (refine WCall.pure (cRy) ?_; conv => whnf) | (refine WCall.pure (cCx) ?_; conv => whnf) | (refine WCall.pure (cCy) ?_; conv => whnf) | (refine WCall.pure (cQ) ?_; conv => whnf) | (refine WCall.pure (cB) ?_; conv => whnf) | ((with_reducible refine WB.decT (by first | with_reducible rfl | assumption | omega | exact ⟨rfl, rfl⟩) ?_); conv => whnf) | ((with_reducible refine WB.decF (by first | assumption | omega) ?_); conv => whnf) | ((with_reducible refine WB.ndT (by first | with_reducible rfl | assumption | omega | exact ⟨rfl, rfl⟩) ?_); conv => whnf) | ((with_reducible refine WB.ndF (by first | assumption | omega) ?_); conv => whnf) | ((with_reducible refine WB.nt ?_); conv => whnf) | ((with_reducible refine WB.nf ?_); conv => whnf) | ((with_reducible refine WB.dec (fun h => ?_) (fun h => ?_)) <;> conv => whnf) | ((with_reducible refine WB.ndec (fun h => ?_) (fun h => ?_)) <;> conv => whnf) | (refine WB.mk (fun h => ?_) (fun h => ?_) <;> conv => whnf)
  refine WSt.eqr2 (a := A + B) (b := A + B) (a' := A + B) (b' := A + B) ?_ ?_ wS wS wS wS ?_
  · rfl
  · rfl
  conv => whnf
  repeat' first | ((with_reducible apply WB.tt); conv => whnf) | ((with_reducible apply WB.ff); conv => whnf) | (refine Rn.seq ?_; conv => whnf) | (refine Rn.reg ?_; conv => whnf) | (refine Rn.drw ?_; conv => whnf) | (refine Rn.blk ?_; conv => whnf) | (refine Rn.skip ?_; conv => whnf) | (refine Rn.ret ?_; conv => whnf) | (refine Rn.exit ?_; conv => whnf) | (refine Rn.cond rfl ?_; conv => whnf) | (refine And.intro (InR.i64 (by omega) (by omega)) ?_; conv => whnf) | (refine And.intro (show _ ≠ (0 : Int) by omega) ?_; conv => whnf) | (refine WIx.intsN (by omega) ?_; conv => whnf) | (refine WIx.rowsN (by omega) ?_; conv => whnf) | (refine WCall.pure (AW) ?_; conv => whnf) | ((with_reducible refine WB.decT (by first | with_reducible rfl | assumption | omega | exact ⟨rfl, rfl⟩) ?_); conv => whnf) | ((with_reducible refine WB.decF (by first | assumption | omega) ?_); conv => whnf) | ((with_reducible refine WB.ndT (by first | with_reducible rfl | assumption | omega | exact ⟨rfl, rfl⟩) ?_); conv => whnf) | ((with_reducible refine WB.ndF (by first | assumption | omega) ?_); conv => whnf) | ((with_reducible refine WB.nt ?_); conv => whnf) | ((with_reducible refine WB.nf ?_); conv => whnf) | ((with_reducible refine WB.dec (fun h => ?_) (fun h => ?_)) <;> conv => whnf) | ((with_reducible refine WB.ndec (fun h => ?_) (fun h => ?_)) <;> conv => whnf) | (refine WB.mk (fun h => ?_) (fun h => ?_) <;> conv => whnf)
  refine WSt.eqr2 (a := A + B) (b := A + B) (a' := A + B) (b' := A + B) ?_ ?_ wS wS wS wS ?_
  · rfl
  · rfl
  conv => whnf
  repeat' first | ((with_reducible apply WB.tt); conv => whnf) | ((with_reducible apply WB.ff); conv => whnf) | (refine Rn.seq ?_; conv => whnf) | (refine Rn.reg ?_; conv => whnf) | (refine Rn.drw ?_; conv => whnf) | (refine Rn.blk ?_; conv => whnf) | (refine Rn.skip ?_; conv => whnf) | (refine Rn.ret ?_; conv => whnf) | (refine Rn.exit ?_; conv => whnf) | (refine Rn.cond rfl ?_; conv => whnf) | (refine And.intro (InR.i64 (by omega) (by omega)) ?_; conv => whnf) | (refine And.intro (show _ ≠ (0 : Int) by omega) ?_; conv => whnf) | (refine WIx.intsN (by omega) ?_; conv => whnf) | (refine WIx.rowsN (by omega) ?_; conv => whnf) | (refine WCall.pure (AW) ?_; conv => whnf) | ((with_reducible refine WB.decT (by first | with_reducible rfl | assumption | omega | exact ⟨rfl, rfl⟩) ?_); conv => whnf) | ((with_reducible refine WB.decF (by first | assumption | omega) ?_); conv => whnf) | ((with_reducible refine WB.ndT (by first | with_reducible rfl | assumption | omega | exact ⟨rfl, rfl⟩) ?_); conv => whnf) | ((with_reducible refine WB.ndF (by first | assumption | omega) ?_); conv => whnf) | ((with_reducible refine WB.nt ?_); conv => whnf) | ((with_reducible refine WB.nf ?_); conv => whnf) | ((with_reducible refine WB.dec (fun h => ?_) (fun h => ?_)) <;> conv => whnf) | ((with_reducible refine WB.ndec (fun h => ?_) (fun h => ?_)) <;> conv => whnf) | (refine WB.mk (fun h => ?_) (fun h => ?_) <;> conv => whnf)
  refine WCall.borrow cI (.cons (.pu (pu_ints _)) (.cons (Frz.whole (cs := [.o (.i .i64 1) 0, .o (.i .i64 1) 0]) (cur := 1) rfl rfl (ints_one _) rfl (pu_ints _)) .nil)) trivial ?_; conv => whnf
  repeat' first | ((with_reducible apply WB.tt); conv => whnf) | ((with_reducible apply WB.ff); conv => whnf) | (refine Rn.seq ?_; conv => whnf) | (refine Rn.reg ?_; conv => whnf) | (refine Rn.drw ?_; conv => whnf) | (refine Rn.blk ?_; conv => whnf) | (refine Rn.skip ?_; conv => whnf) | (refine Rn.ret ?_; conv => whnf) | (refine Rn.exit ?_; conv => whnf) | (refine Rn.cond rfl ?_; conv => whnf) | (refine And.intro (InR.i64 (by omega) (by omega)) ?_; conv => whnf) | (refine And.intro (show _ ≠ (0 : Int) by omega) ?_; conv => whnf) | (refine WIx.intsN (by omega) ?_; conv => whnf) | (refine WIx.rowsN (by omega) ?_; conv => whnf) | (refine WCall.pure (AW) ?_; conv => whnf) | ((with_reducible refine WB.decT (by first | with_reducible rfl | assumption | omega | exact ⟨rfl, rfl⟩) ?_); conv => whnf) | ((with_reducible refine WB.decF (by first | assumption | omega) ?_); conv => whnf) | ((with_reducible refine WB.ndT (by first | with_reducible rfl | assumption | omega | exact ⟨rfl, rfl⟩) ?_); conv => whnf) | ((with_reducible refine WB.ndF (by first | assumption | omega) ?_); conv => whnf) | ((with_reducible refine WB.nt ?_); conv => whnf) | ((with_reducible refine WB.nf ?_); conv => whnf) | ((with_reducible refine WB.dec (fun h => ?_) (fun h => ?_)) <;> conv => whnf) | ((with_reducible refine WB.ndec (fun h => ?_) (fun h => ?_)) <;> conv => whnf) | (refine WB.mk (fun h => ?_) (fun h => ?_) <;> conv => whnf)
  exact Fin.b rfl rfl
theorem main_countExact (AW : PureF Try.prog p20.ix [] (.b true)) {es : List D} (fit : FitP [(true, [.sl [.i .i64], .sl [.b, .i .i64, .i .i64], .i .i64, .i .i64]), (false, [.i .u16]), (false, [.i .u8])] es) : PureF Try.prog 15 es (.b true) := by
  obtain ⟨l, cs, wr, off, _, rfl, g1⟩ := fit.row
  obtain ⟨w, _, rfl, w1, g2⟩ := g1.i
  obtain ⟨a, _, rfl, w2, g3⟩ := g2.i
  obtain rfl := g3.no
  exact c_CountExact l cs wr off w a (wf_u16 w1) (wf_u8 w2) AW
end Go.Ev
