import Derived.Test.YtmlpgfmbhpefmaaEvKu
set_option linter.all false
namespace Go.Ev
open Go.Proofs
set_option maxRecDepth 100000
/-! ### Least -/
def bestS (cs : List Cnt) (off : Int) (b : Int) (t : List Int) : Int := if 0 ≤ wrongR cs off t ∧ (b < 0 ∨ wrongR cs off t < b) then wrongR cs off t else b
def leastF (cs : List Cnt) (off : Int) (L : List (List Int)) : Int := L.foldl (bestS cs off) (-1)
theorem best_spec (cs : List Cnt) (off : Int) : ∀ (L : List (List Int)) (b : Int), (L.foldl (bestS cs off) b = b ∨ ∃ t ∈ L, 0 ≤ wrongR cs off t ∧ wrongR cs off t = L.foldl (bestS cs off) b) ∧ (0 ≤ b → L.foldl (bestS cs off) b ≤ b ∧ 0 ≤ L.foldl (bestS cs off) b) ∧ ∀ t ∈ L, 0 ≤ wrongR cs off t → 0 ≤ L.foldl (bestS cs off) b ∧ L.foldl (bestS cs off) b ≤ wrongR cs off t
  | [], b => ⟨.inl rfl, fun h => ⟨Int.le_refl _, h⟩, fun t h => by cases h⟩
  | a :: L, b => by
    obtain ⟨h1, h2, h3⟩ := best_spec cs off L (bestS cs off b a)
    show (List.foldl (bestS cs off) (bestS cs off b a) L = b ∨ _) ∧ (_ → List.foldl (bestS cs off) (bestS cs off b a) L ≤ b ∧ 0 ≤ List.foldl (bestS cs off) (bestS cs off b a) L) ∧ ∀ t ∈ a :: L, _ → 0 ≤ List.foldl (bestS cs off) (bestS cs off b a) L ∧ List.foldl (bestS cs off) (bestS cs off b a) L ≤ _
    have hs : (0 ≤ wrongR cs off a ∧ (b < 0 ∨ wrongR cs off a < b) ∧ bestS cs off b a = wrongR cs off a) ∨ (¬ (0 ≤ wrongR cs off a ∧ (b < 0 ∨ wrongR cs off a < b)) ∧ bestS cs off b a = b) := by
      unfold bestS
      split
      · rename_i h; exact .inl ⟨h.1, h.2, rfl⟩
      · rename_i h; exact .inr ⟨h, rfl⟩
    refine ⟨?_, fun hb => ?_, fun t ht hw => ?_⟩
    · rcases h1 with h | ⟨t, ht, hw, he⟩
      · rcases hs with ⟨q1, q2, q3⟩ | ⟨q1, q2⟩
        · exact .inr ⟨a, by simp, q1, by show _ = List.foldl (bestS cs off) (bestS cs off b a) L; rw [h, q3]⟩
        · exact .inl (by rw [h, q2])
      · exact .inr ⟨t, by simp [ht], hw, he⟩
    · rcases hs with ⟨q1, q2, q3⟩ | ⟨q1, q2⟩
      · have := h2 (by omega); omega
      · have := h2 (by omega); omega
    · rcases List.mem_cons.1 ht with rfl | ht
      · rcases hs with ⟨q1, q2, q3⟩ | ⟨q1, q2⟩
        · have := h2 (by omega); omega
        · have := h2 (by omega); omega
      · exact h3 t ht hw
theorem wrongR_bd (cs : List Cnt) (off : Int) (t : List Int) : -1 ≤ wrongR cs off t ∧ wrongR cs off t ≤ cs.length := by
  unfold wrongR
  split
  · have := List.countP_le_length (p := fun c => decide (0 < ec t c)) (l := cs); omega
  · omega
theorem leastF_bd (cs : List Cnt) (off : Int) (L : List (List Int)) : -1 ≤ leastF cs off L ∧ leastF cs off L ≤ cs.length := by
  obtain ⟨h1, _, _⟩ := best_spec cs off L (-1)
  unfold leastF
  rcases h1 with h | ⟨t, _, _, h⟩
  · rw [h]; omega
  · rw [← h]; exact wrongR_bd _ _ _
theorem leastF_succ (cs : List Cnt) (off : Int) {L : List (List Int)} {j : Nat} (h : j < L.length) : leastF cs off (L.take (j + 1)) = bestS cs off (leastF cs off (L.take j)) (L.getD j default) := by
  unfold leastF
  rw [take_succ_getD (d := default) h, List.foldl_append]
  rfl
theorem c_refLeast (l : List Int) (cs : List Cnt) (wr off : Int) (hl : l.length ≤ 9) (hc : ∀ c ∈ cs, cntIn l.length c) (hn : cs.length ≤ 1000) : PureF Try.prog p42.ix [.ag [.lst 1 (ints l), .lst 3 (rows cntD cs), .i .i64 wr, .i .i64 off]] (.i .i64 (leastF cs off (allR l))) := by
  have hal := allR_len l hl
  have cA := c_All l cs wr off hl
  have hx : ∀ x ∈ allR l, x.length = l.length ∧ Bits x := fun x hx => truth_bits (allR_truth l x hx)
  generalize allR l = R at *
  have e2 := rows_length tD R
  refine PureF.run fn41 (by simp) (by simp [PuL, PuE, Pu, pu_ints, pu_cnts]) ?_; conv => whnf
  repeat' first | ((with_reducible apply WB.tt); conv => whnf) | ((with_reducible apply WB.ff); conv => whnf) | (refine Rn.seq ?_; conv => whnf) | (refine Rn.reg ?_; conv => whnf) | (refine Rn.drw ?_; conv => whnf) | (refine Rn.blk ?_; conv => whnf) | (refine Rn.skip ?_; conv => whnf) | (refine Rn.ret ?_; conv => whnf) | (refine Rn.exit ?_; conv => whnf) | (refine Rn.cond rfl ?_; conv => whnf) | (refine And.intro (InR.i64 (by omega) (by omega)) ?_; conv => whnf) | (refine And.intro (show _ ≠ (0 : Int) by omega) ?_; conv => whnf) | (refine WIx.intsN (by omega) ?_; conv => whnf) | (refine WIx.rowsN (by omega) ?_; conv => whnf) | (refine WCall.pure (cA) ?_; conv => whnf)
  refine Rn.loop (fun j : Nat => ⟨(.n (.n (.n .e (some (.i .i64 (leastF cs off (R.take j)))) .e) (some (.pt .h 0 0)) (.n .e (some (.i .i64 (j : Int))) .e)) none (.n (.n .e (some (.lst 1 (rows tD R))) .e) none .e)), (.n .e (some (.cells false [.o (.lst 1 (ints l)) 0, .o (.lst 3 (rows cntD cs)) 0, .o (.i .i64 wr) 0, .o (.i .i64 off) 0] 1)) .e), .o .h, none⟩) (fun j => j ≤ R.length) (fun j => R.length - j) 0 ?_ ?_ ?_
  · (first | (refine X.le.mk ?_ ?_ (Nat.le_refl _) rfl rfl) | skip) <;> (repeat' first | exact T.le_e _ | refine T.le_some ?_ ?_ ?_ | refine T.le_none ?_ ?_ | rfl)
  · omega
  intro j hj
  conv => whnf
  repeat' first | ((with_reducible apply WB.tt); conv => whnf) | ((with_reducible apply WB.ff); conv => whnf) | (refine Rn.seq ?_; conv => whnf) | (refine Rn.reg ?_; conv => whnf) | (refine Rn.drw ?_; conv => whnf) | (refine Rn.blk ?_; conv => whnf) | (refine Rn.skip ?_; conv => whnf) | (refine Rn.ret ?_; conv => whnf) | (refine Rn.exit ?_; conv => whnf) | (refine Rn.cond rfl ?_; conv => whnf) | (refine And.intro (InR.i64 (by omega) (by omega)) ?_; conv => whnf) | (refine And.intro (show _ ≠ (0 : Int) by omega) ?_; conv => whnf) | (refine WIx.intsN (by omega) ?_; conv => whnf) | (refine WIx.rowsN (by omega) ?_; conv => whnf)
  refine WB.dec (fun h => ?_) (fun h => ?_) <;> conv => whnf
  · have hlt : j < R.length := by omega
    obtain ⟨q1, q2⟩ := hx _ (getD_mem (d := default) hlt)
    have cW := c_Wrong l cs wr off (R.getD j default) q2 (by omega) (fun c h => by rw [q1]; exact hc c h) hn
    have hs := leastF_succ cs off hlt
    unfold bestS at hs
    generalize hb : leastF cs off (R.take j) = b at *
    generalize hw : wrongR cs off (R.getD j default) = w at *
    repeat' first | ((with_reducible apply WB.tt); conv => whnf) | ((with_reducible apply WB.ff); conv => whnf) | (refine Rn.seq ?_; conv => whnf) | (refine Rn.reg ?_; conv => whnf) | (refine Rn.drw ?_; conv => whnf) | (refine Rn.blk ?_; conv => whnf) | (refine Rn.skip ?_; conv => whnf) | (refine Rn.ret ?_; conv => whnf) | (refine Rn.exit ?_; conv => whnf) | (refine Rn.cond rfl ?_; conv => whnf) | (refine And.intro (InR.i64 (by omega) (by omega)) ?_; conv => whnf) | (refine And.intro (show _ ≠ (0 : Int) by omega) ?_; conv => whnf) | (refine WIx.intsN (by omega) ?_; conv => whnf) | (refine WIx.rowsN (by omega) ?_; conv => whnf) | (refine WCall.pure (cW) ?_; conv => whnf) | ((with_reducible refine WB.decT (by first | with_reducible rfl | assumption | omega | exact ⟨rfl, rfl⟩) ?_); conv => whnf) | ((with_reducible refine WB.decF (by first | assumption | omega) ?_); conv => whnf) | ((with_reducible refine WB.ndT (by first | with_reducible rfl | assumption | omega | exact ⟨rfl, rfl⟩) ?_); conv => whnf) | ((with_reducible refine WB.ndF (by first | assumption | omega) ?_); conv => whnf) | ((with_reducible refine WB.nt ?_); conv => whnf) | ((with_reducible refine WB.nf ?_); conv => whnf) | ((with_reducible refine WB.dec (fun h => ?_) (fun h => ?_)) <;> conv => whnf) | ((with_reducible refine WB.ndec (fun h => ?_) (fun h => ?_)) <;> conv => whnf) | (refine WB.mk (fun h => ?_) (fun h => ?_) <;> conv => whnf)
    all_goals
      refine Again.to (j + 1) (by omega) (by omega) (Nat.le_refl _) ?_
      (refine Shr.of ?_ ?_ rfl rfl) <;> (repeat' first | exact Rel.e | refine Rel.some ?_ ?_ ?_ | refine Rel.none ?_ ?_) <;> (try first | (show Fz _ _ _ _; first | exact Fz.pu trivial | (refine Fz.i ?_; first | rfl | omega) | (refine Fz.kpt ?_; (focus (show Pos.nat _ < Pos.nat _; simp [Pos.nat]; done))) | (refine Fz.ksl ?_; (focus (show Pos.nat _ < Pos.nat _; simp [Pos.nat]; done))) | (refine Fz.kmp ?_; (focus (show Pos.nat _ < Pos.nat _; simp [Pos.nat]; done))) | (refine Fz.pu ?_; simp [Cell.d, Pu, PuL, PuE, pu_ints, pu_cnts, pu_tR]; done) | (refine Fz.pu ?_; simp only [Cell.d]; assumption)) | (refine RO'.of ?_ (ShC.same ?_); (focus (show Pos.nat _ < Pos.nat _; simp [Pos.nat]; done)); (repeat' first | exact ShC.nl | refine ShC.cn ?_ ?_) <;> first | exact Fz.pu trivial | (refine Fz.i ?_; first | rfl | omega) | (refine Fz.kpt ?_; (focus (show Pos.nat _ < Pos.nat _; simp [Pos.nat]; done))) | (refine Fz.ksl ?_; (focus (show Pos.nat _ < Pos.nat _; simp [Pos.nat]; done))) | (refine Fz.kmp ?_; (focus (show Pos.nat _ < Pos.nat _; simp [Pos.nat]; done))) | (refine Fz.pu ?_; simp [Cell.d, Pu, PuL, PuE, pu_ints, pu_cnts, pu_tR]; done) | (refine Fz.pu ?_; simp only [Cell.d]; assumption)))
      all_goals first | exact Fz.pu (pu_tR _) | (refine Fz.i ?_; rw [hs]; first | (rw [if_pos (by omega)]; done) | (rw [if_neg (by omega)]; exact hb) | (rw [if_neg (by omega)]; exact hb.symm) | (rw [if_neg (by omega)]))
  · repeat' first | ((with_reducible apply WB.tt); conv => whnf) | ((with_reducible apply WB.ff); conv => whnf) | (refine Rn.seq ?_; conv => whnf) | (refine Rn.reg ?_; conv => whnf) | (refine Rn.drw ?_; conv => whnf) | (refine Rn.blk ?_; conv => whnf) | (refine Rn.skip ?_; conv => whnf) | (refine Rn.ret ?_; conv => whnf) | (refine Rn.exit ?_; conv => whnf) | (refine Rn.cond rfl ?_; conv => whnf) | (refine And.intro (InR.i64 (by omega) (by omega)) ?_; conv => whnf) | (refine And.intro (show _ ≠ (0 : Int) by omega) ?_; conv => whnf) | (refine WIx.intsN (by omega) ?_; conv => whnf) | (refine WIx.rowsN (by omega) ?_; conv => whnf)
    exact Fin.i rfl (by rw [List.take_of_length_le (by omega)])
def leE (l : List Int) (cs : List Cnt) (wr off : Int) : Int := if faultR l cs wr off = 0 then (if leastF cs off (allR l) < 0 then 10 else 0) else faultR l cs wr off
def leN (l : List Int) (cs : List Cnt) (wr off : Int) : Int := if faultR l cs wr off = 0 then (if leastF cs off (allR l) < 0 then 0 else leastF cs off (allR l)) else 0
theorem fault_wr {l : List Int} {cs : List Cnt} {wr off : Int} (hF : faultR l cs wr off = 0) : faultR l cs (cs.length : Int) off = 0 := by
  obtain ⟨f1, f2, f3, f4⟩ := fault0 hF
  rw [faultR_eq f2 f3] at hF ⊢
  split at hF
  · rename_i h
    rw [if_pos]
    simp only [Bool.and_eq_true] at h ⊢
    refine ⟨h.1, h.2.1, h.2.2.1, ?_, h.2.2.2.2⟩
    unfold inB
    rw [decide_eq_true_iff]
    omega
  · cases hF
/-- The truths that explain the counts, whatever Wrong is. -/
theorem truR_all (l : List Int) (cs : List Cnt) (off : Int) : truR l cs (cs.length : Int) off = (allR l).filter fun t => decide (0 ≤ wrongR cs off t) := by
  unfold truR
  refine List.filter_congr fun t ht => ?_
  unfold fitR
  rw [allR_truth l t ht, Bool.true_and]
  unfold inB
  have := wrongR_bd cs off t
  congr 1
  apply propext
  omega
theorem wrong_nR {cs : List Cnt} {off : Int} {t : List Int} (h : 0 ≤ wrongR cs off t) : wrongR cs off t = (cs.length : Int) - nR t cs cs.length := by
  have q := nR_count t cs cs.length (Nat.le_refl _)
  rw [List.take_length] at q
  unfold wrongR at h ⊢
  split
  · omega
  · rename_i h2
    rw [if_neg h2] at h
    omega
theorem c_Least (l : List Int) (cs : List Cnt) (wr off : Int) (hl : l.length ≤ 1000) : PureF Try.prog p39.ix [.ag [.lst 1 (ints l), .lst 3 (rows cntD cs), .i .i64 wr, .i .i64 off]] (.tp [.i .i64 (leN l cs wr off), .i .i64 (leE l cs wr off)]) := by
  have e1 := ints_length l
  have e2 := rows_length cntD cs
  have cK := c_CheckRow l cs wr off
  by_cases hF : faultR l cs wr off = 0
  · obtain ⟨f1, f2, f3, f4⟩ := fault0 hF
    have hF' := fault_wr hF
    have cW := c_whole l cs (cs.length : Int) off (by omega)
    have C := c_start l cs (cs.length : Int) off 0 ((l.length : Int) - 1)
    have hE : startE l cs (cs.length : Int) off 0 ((l.length : Int) - 1) = if truR l cs (cs.length : Int) off = [] then 11 else 0 := startE_in hF' (by omega) (by omega) (by omega)
    have hN : truR l cs (cs.length : Int) off = [] ↔ leastF cs off (allR l) < 0 := by
      rw [truR_all, List.filter_eq_nil_iff]
      obtain ⟨b1, b2, b3⟩ := best_spec cs off (allR l) (-1)
      constructor
      · intro h
        unfold leastF
        rcases b1 with b1 | ⟨t, ht, hw, _⟩
        · omega
        · exact absurd (decide_eq_true hw) (h t ht)
      · intro h t ht hw
        have := b3 t ht (of_decide_eq_true hw)
        unfold leastF at h
        omega
    unfold leE leN
    rw [if_pos hF, if_pos hF]
    rw [hF] at cK
    by_cases hT : truR l cs (cs.length : Int) off = []
    · rw [if_pos hT] at hE
      rw [if_pos (hN.1 hT), if_pos (hN.1 hT)]
      rw [show startW l cs (cs.length : Int) off 0 ((l.length : Int) - 1) = [.ns, .ns, .i .i64 0, .i .i64 0, .ns] by unfold startW; rw [hE, if_neg (by omega)], hE] at C
      rw [← e2] at cW C
      refine PureF.run fn38 (by simp) (by simp [PuL, PuE, Pu, pu_ints, pu_cnts]) ?_; conv => whnf
      repeat' first | ((with_reducible apply WB.tt); conv => whnf) | ((with_reducible apply WB.ff); conv => whnf) | (refine Rn.seq ?_; conv => whnf) | (refine Rn.reg ?_; conv => whnf) | (refine Rn.drw ?_; conv => whnf) | (refine Rn.blk ?_; conv => whnf) | (refine Rn.skip ?_; conv => whnf) | (refine Rn.ret ?_; conv => whnf) | (refine Rn.exit ?_; conv => whnf) | (refine Rn.cond rfl ?_; conv => whnf) | (refine And.intro (InR.i64 (by omega) (by omega)) ?_; conv => whnf) | (refine And.intro (show _ ≠ (0 : Int) by omega) ?_; conv => whnf) | (refine WIx.intsN (by omega) ?_; conv => whnf) | (refine WIx.rowsN (by omega) ?_; conv => whnf) | (refine WCall.pure (cK) ?_; conv => whnf) | (refine WCall.pure (cW) ?_; conv => whnf) | (refine WCall.pure (C) ?_; conv => whnf) | ((with_reducible refine WB.decT (by first | with_reducible rfl | assumption | omega | exact ⟨rfl, rfl⟩) ?_); conv => whnf) | ((with_reducible refine WB.decF (by first | assumption | omega) ?_); conv => whnf) | ((with_reducible refine WB.ndT (by first | with_reducible rfl | assumption | omega | exact ⟨rfl, rfl⟩) ?_); conv => whnf) | ((with_reducible refine WB.ndF (by first | assumption | omega) ?_); conv => whnf) | ((with_reducible refine WB.nt ?_); conv => whnf) | ((with_reducible refine WB.nf ?_); conv => whnf) | ((with_reducible refine WB.dec (fun h => ?_) (fun h => ?_)) <;> conv => whnf) | ((with_reducible refine WB.ndec (fun h => ?_) (fun h => ?_)) <;> conv => whnf) | (refine WB.mk (fun h => ?_) (fun h => ?_) <;> conv => whnf)
      exact Fin.two (.inr rfl) rfl rfl (.pu trivial) (.pu trivial)
    · rw [if_neg hT] at hE
      have hT' : ¬ leastF cs off (allR l) < 0 := fun h => hT (hN.2 h)
      rw [if_neg hT', if_neg hT']
      have tl := truthsF_len l cs (cs.length : Int) off f2
      have hTF : truthsF l cs (cs.length : Int) off ≠ [] := fun h => hT ((truths_nil f2).2 h)
      rw [show startW l cs (cs.length : Int) off 0 ((l.length : Int) - 1) = [.lst 1 (ints l), .lst 3 (rows cntD cs), .i .i64 (cs.length : Int), .i .i64 off, tl9 (truthsF l cs (cs.length : Int) off)] by unfold startW; rw [hE, if_pos rfl], hE] at C
      have cB := c_bounds l cs (cs.length : Int) off (truthsF l cs (cs.length : Int) off) (List.length_pos_iff.2 hTF) (by omega) p81 0 ((cs.length : Int) - 1) (fun c => nR ((lst9 c).take l.length) cs cs.length) (fun c hc => c_rightIn l cs (cs.length : Int) off _ (pu_tl9 _) _ _ _ _ _ _ _ _ _ (truthsF_bit hc).bits f2 f4 (by omega) _ rfl)
      have hq : (truthsF l cs (cs.length : Int) off).map (fun c => nR ((lst9 c).take l.length) cs cs.length) = (truR l cs (cs.length : Int) off).map fun t => nR t cs cs.length := by
        rw [truR_eq l cs _ off f2, List.map_map]
        rfl
      rw [hq] at cB
      have hmax : (cs.length : Int) - maxL (((truR l cs (cs.length : Int) off).map fun t => nR t cs cs.length).getD 0 0) ((truR l cs (cs.length : Int) off).map fun t => nR t cs cs.length) = leastF cs off (allR l) ∧ 0 ≤ maxL (((truR l cs (cs.length : Int) off).map fun t => nR t cs cs.length).getD 0 0) ((truR l cs (cs.length : Int) off).map fun t => nR t cs cs.length) ∧ maxL (((truR l cs (cs.length : Int) off).map fun t => nR t cs cs.length).getD 0 0) ((truR l cs (cs.length : Int) off).map fun t => nR t cs cs.length) ≤ cs.length := by
        have hlen : 0 < ((truR l cs (cs.length : Int) off).map fun t => nR t cs cs.length).length := by rw [List.length_map]; exact List.length_pos_iff.2 hT
        have m1 : maxL (((truR l cs (cs.length : Int) off).map fun t => nR t cs cs.length).getD 0 0) ((truR l cs (cs.length : Int) off).map fun t => nR t cs cs.length) ∈ (truR l cs (cs.length : Int) off).map fun t => nR t cs cs.length := by
          rcases foldmax_mem (L := (truR l cs (cs.length : Int) off).map fun t => nR t cs cs.length) (a := ((truR l cs (cs.length : Int) off).map fun t => nR t cs cs.length).getD 0 0) with h | h
          · unfold maxL; rw [h]; exact getD_mem hlen
          · exact h
        have m2 : ∀ x ∈ (truR l cs (cs.length : Int) off).map fun t => nR t cs cs.length, x ≤ maxL (((truR l cs (cs.length : Int) off).map fun t => nR t cs cs.length).getD 0 0) ((truR l cs (cs.length : Int) off).map fun t => nR t cs cs.length) := fun x hx => (foldmax_le _ _).2 x hx
        generalize maxL (((truR l cs (cs.length : Int) off).map fun t => nR t cs cs.length).getD 0 0) ((truR l cs (cs.length : Int) off).map fun t => nR t cs cs.length) = M at *
        obtain ⟨y, hy, rfl⟩ := List.mem_map.1 m1
        have hbd := nR_bd y cs cs.length
        refine ⟨?_, by omega, by omega⟩
        rw [truR_all] at hy m2
        obtain ⟨hy1, hy2⟩ := List.mem_filter.1 hy
        have hy2 := of_decide_eq_true hy2
        have hy3 := wrong_nR hy2
        obtain ⟨b1, b2, b3⟩ := best_spec cs off (allR l) (-1)
        have b4 := b3 y hy1 hy2
        show _ = (allR l).foldl (bestS cs off) (-1)
        have hT'' : ¬ (allR l).foldl (bestS cs off) (-1) < 0 := hT'
        rcases b1 with b1 | ⟨t, ht, hw, b1⟩
        · omega
        · have ht3 := wrong_nR hw
          have ht4 := m2 _ (List.mem_map.2 ⟨t, List.mem_filter.2 ⟨ht, decide_eq_true hw⟩, rfl⟩)
          omega
      obtain ⟨hm1, hm2, hm3⟩ := hmax
      rw [← hm1]
      generalize maxL (((truR l cs (cs.length : Int) off).map fun t => nR t cs cs.length).getD 0 0) ((truR l cs (cs.length : Int) off).map fun t => nR t cs cs.length) = M at *
      rw [← e2] at cW C cB hm3 ⊢
      refine PureF.run fn38 (by simp) (by simp [PuL, PuE, Pu, pu_ints, pu_cnts]) ?_; conv => whnf
      repeat' first | ((with_reducible apply WB.tt); conv => whnf) | ((with_reducible apply WB.ff); conv => whnf) | (refine Rn.seq ?_; conv => whnf) | (refine Rn.reg ?_; conv => whnf) | (refine Rn.drw ?_; conv => whnf) | (refine Rn.blk ?_; conv => whnf) | (refine Rn.skip ?_; conv => whnf) | (refine Rn.ret ?_; conv => whnf) | (refine Rn.exit ?_; conv => whnf) | (refine Rn.cond rfl ?_; conv => whnf) | (refine And.intro (InR.i64 (by omega) (by omega)) ?_; conv => whnf) | (refine And.intro (show _ ≠ (0 : Int) by omega) ?_; conv => whnf) | (refine WIx.intsN (by omega) ?_; conv => whnf) | (refine WIx.rowsN (by omega) ?_; conv => whnf) | (refine WCall.pure (cK) ?_; conv => whnf) | (refine WCall.pure (cW) ?_; conv => whnf) | (refine WCall.pure (C) ?_; conv => whnf) | (refine WCall.pure (cB) ?_; conv => whnf) | ((with_reducible refine WB.decT (by first | with_reducible rfl | assumption | omega | exact ⟨rfl, rfl⟩) ?_); conv => whnf) | ((with_reducible refine WB.decF (by first | assumption | omega) ?_); conv => whnf) | ((with_reducible refine WB.ndT (by first | with_reducible rfl | assumption | omega | exact ⟨rfl, rfl⟩) ?_); conv => whnf) | ((with_reducible refine WB.ndF (by first | assumption | omega) ?_); conv => whnf) | ((with_reducible refine WB.nt ?_); conv => whnf) | ((with_reducible refine WB.nf ?_); conv => whnf) | ((with_reducible refine WB.dec (fun h => ?_) (fun h => ?_)) <;> conv => whnf) | ((with_reducible refine WB.ndec (fun h => ?_) (fun h => ?_)) <;> conv => whnf) | (refine WB.mk (fun h => ?_) (fun h => ?_) <;> conv => whnf)
      exact Fin.two (.inr rfl) rfl rfl (.pu trivial) (.pu trivial)
  · unfold leE leN
    rw [if_neg hF, if_neg hF]
    generalize faultR l cs wr off = F at *
    refine PureF.run fn38 (by simp) (by simp [PuL, PuE, Pu, pu_ints, pu_cnts]) ?_; conv => whnf
    repeat' first | ((with_reducible apply WB.tt); conv => whnf) | ((with_reducible apply WB.ff); conv => whnf) | (refine Rn.seq ?_; conv => whnf) | (refine Rn.reg ?_; conv => whnf) | (refine Rn.drw ?_; conv => whnf) | (refine Rn.blk ?_; conv => whnf) | (refine Rn.skip ?_; conv => whnf) | (refine Rn.ret ?_; conv => whnf) | (refine Rn.exit ?_; conv => whnf) | (refine Rn.cond rfl ?_; conv => whnf) | (refine And.intro (InR.i64 (by omega) (by omega)) ?_; conv => whnf) | (refine And.intro (show _ ≠ (0 : Int) by omega) ?_; conv => whnf) | (refine WIx.intsN (by omega) ?_; conv => whnf) | (refine WIx.rowsN (by omega) ?_; conv => whnf) | (refine WCall.pure (cK) ?_; conv => whnf) | ((with_reducible refine WB.decT (by first | with_reducible rfl | assumption | omega | exact ⟨rfl, rfl⟩) ?_); conv => whnf) | ((with_reducible refine WB.decF (by first | assumption | omega) ?_); conv => whnf) | ((with_reducible refine WB.ndT (by first | with_reducible rfl | assumption | omega | exact ⟨rfl, rfl⟩) ?_); conv => whnf) | ((with_reducible refine WB.ndF (by first | assumption | omega) ?_); conv => whnf) | ((with_reducible refine WB.nt ?_); conv => whnf) | ((with_reducible refine WB.nf ?_); conv => whnf) | ((with_reducible refine WB.dec (fun h => ?_) (fun h => ?_)) <;> conv => whnf) | ((with_reducible refine WB.ndec (fun h => ?_) (fun h => ?_)) <;> conv => whnf) | (refine WB.mk (fun h => ?_) (fun h => ?_) <;> conv => whnf)
    exact Fin.two (.inr rfl) rfl rfl (.pu trivial) (.pu trivial)
theorem c_ProveLeast (l : List Int) (cs : List Cnt) (wr off : Int) (t : List Int) (many : Int) (ht : ∀ i, wfB .i64 (t.getD i 0) = true) :
    PureF Try.prog p40.ix [.ag [.lst 1 (ints l), .lst 3 (rows cntD cs), .i .i64 wr, .i .i64 off], .lst 1 (ints t), .i .i64 many] (.b (decide (faultR l cs wr off = 0) && (isTruthR l t && inB (wrongR cs off t) 0 many))) := by
  rw [← own_fits]
  refine PureF.run fn39 (by simp) (by simp [PuL, PuE, Pu, pu_ints, pu_cnts]) ?_; conv => whnf
  repeat' first | ((with_reducible apply WB.tt); conv => whnf) | ((with_reducible apply WB.ff); conv => whnf) | (refine Rn.seq ?_; conv => whnf) | (refine Rn.reg ?_; conv => whnf) | (refine Rn.drw ?_; conv => whnf) | (refine Rn.blk ?_; conv => whnf) | (refine Rn.skip ?_; conv => whnf) | (refine Rn.ret ?_; conv => whnf) | (refine Rn.exit ?_; conv => whnf) | (refine Rn.cond rfl ?_; conv => whnf) | (refine And.intro (InR.i64 (by omega) (by omega)) ?_; conv => whnf) | (refine And.intro (show _ ≠ (0 : Int) by omega) ?_; conv => whnf) | (refine WIx.intsN (by omega) ?_; conv => whnf) | (refine WIx.rowsN (by omega) ?_; conv => whnf) | (refine WCall.pure (c_prove l cs wr off t many ht) ?_; conv => whnf)
  exact Fin.b rfl rfl
theorem c_CountLeast (l : List Int) (cs : List Cnt) (wr off : Int) (t : List Int) (many : Int) (ht : ∀ i, wfB .i64 (t.getD i 0) = true) (AW : PureF Try.prog p20.ix [] (.b true)) :
    PureF Try.prog p7.ix [.ag [.lst 1 (ints l), .lst 3 (rows cntD cs), .i .i64 wr, .i .i64 off], .lst 1 (ints t), .i .i64 many] (.b true) := by
  have e1 := ints_length l
  have e3 := ints_length t
  refine PureF.run fn6 (by simp) (by simp [PuL, PuE, Pu, pu_ints, pu_cnts]) ?_; conv => whnf
  repeat' first | ((with_reducible apply WB.tt); conv => whnf) | ((with_reducible apply WB.ff); conv => whnf) | (refine Rn.seq ?_; conv => whnf) | (refine Rn.reg ?_; conv => whnf) | (refine Rn.drw ?_; conv => whnf) | (refine Rn.blk ?_; conv => whnf) | (refine Rn.skip ?_; conv => whnf) | (refine Rn.ret ?_; conv => whnf) | (refine Rn.exit ?_; conv => whnf) | (refine Rn.cond rfl ?_; conv => whnf) | (refine And.intro (InR.i64 (by omega) (by omega)) ?_; conv => whnf) | (refine And.intro (show _ ≠ (0 : Int) by omega) ?_; conv => whnf) | (refine WIx.intsN (by omega) ?_; conv => whnf) | (refine WIx.rowsN (by omega) ?_; conv => whnf) | (refine WCall.pure (c_Thin l cs wr off) ?_; conv => whnf) | (refine WCall.pure (AW) ?_; conv => whnf) | ((with_reducible refine WB.dec (fun h => ?_) (fun h => ?_)) <;> conv => whnf) | ((with_reducible refine WB.ndec (fun h => ?_) (fun h => ?_)) <;> conv => whnf) | (refine WB.mk (fun h => ?_) (fun h => ?_) <;> conv => whnf)
  · exact Fin.b rfl rfl
  · exact Fin.b rfl rfl
  have h1 : thinB l cs wr off = true := by
    have : (!thinB l cs wr off) = false := by assumption
    simpa using this
  obtain ⟨h2, h3⟩ := thin_len h1
  have cR := c_Row l cs wr off (by omega) (by omega)
  have cL := c_list t (by omega)
  have cF := c_fault l cs wr off
  have cN := c_Least l cs wr off (by omega)
  have cP := c_ProveLeast l cs wr off t many ht
  have cI := c_IsTruth l cs wr off t (by omega)
  clear h1
  unfold leE leN at cN
  by_cases hF : faultR l cs wr off = 0
  · obtain ⟨f1, f2, f3, f4⟩ := fault0 hF
    have cX := c_refLeast l cs wr off f2 f4 (by omega)
    rw [hF] at cF
    rw [if_pos hF, if_pos hF] at cN
    rw [decide_eq_true hF, Bool.true_and] at cP
    by_cases hI : isTruthR l t = true
    · obtain ⟨g1, g2⟩ := truth_bits hI
      have cW := c_Wrong l cs wr off t g2 (by omega) (fun c h => by rw [g1]; exact f4 c h) (by omega)
      rw [hI, Bool.true_and] at cP
      rw [hI] at cI
      unfold inB at cP
      generalize wrongR cs off t = w at *
      generalize leastF cs off (allR l) = b at *
      by_cases hb : b < 0
      · rw [if_pos hb, if_pos hb] at cN
        by_cases hd : 0 ≤ w ∧ w ≤ many
        · rw [decide_eq_true hd] at cP
          obtain ⟨hd1, hd2⟩ := hd
          repeat' first | ((with_reducible apply WB.tt); conv => whnf) | ((with_reducible apply WB.ff); conv => whnf) | (refine Rn.seq ?_; conv => whnf) | (refine Rn.reg ?_; conv => whnf) | (refine Rn.drw ?_; conv => whnf) | (refine Rn.blk ?_; conv => whnf) | (refine Rn.skip ?_; conv => whnf) | (refine Rn.ret ?_; conv => whnf) | (refine Rn.exit ?_; conv => whnf) | (refine Rn.cond rfl ?_; conv => whnf) | (refine And.intro (InR.i64 (by omega) (by omega)) ?_; conv => whnf) | (refine And.intro (show _ ≠ (0 : Int) by omega) ?_; conv => whnf) | (refine WIx.intsN (by omega) ?_; conv => whnf) | (refine WIx.rowsN (by omega) ?_; conv => whnf) | (refine WCall.pure (cR) ?_; conv => whnf) | (refine WCall.pure (cL) ?_; conv => whnf) | (refine WCall.pure (cF) ?_; conv => whnf) | (refine WCall.pure (cN) ?_; conv => whnf) | (refine WCall.pure (cP) ?_; conv => whnf) | (refine WCall.pure (cI) ?_; conv => whnf) | (refine WCall.pure (cX) ?_; conv => whnf) | (refine WCall.pure (cW) ?_; conv => whnf) | (refine WCall.pure (AW) ?_; conv => whnf) | ((with_reducible refine WB.decT (by first | with_reducible rfl | assumption | omega | exact ⟨rfl, rfl⟩) ?_); conv => whnf) | ((with_reducible refine WB.decF (by first | assumption | omega) ?_); conv => whnf) | ((with_reducible refine WB.ndT (by first | with_reducible rfl | assumption | omega | exact ⟨rfl, rfl⟩) ?_); conv => whnf) | ((with_reducible refine WB.ndF (by first | assumption | omega) ?_); conv => whnf) | ((with_reducible refine WB.nt ?_); conv => whnf) | ((with_reducible refine WB.nf ?_); conv => whnf) | ((with_reducible refine WB.dec (fun h => ?_) (fun h => ?_)) <;> conv => whnf) | ((with_reducible refine WB.ndec (fun h => ?_) (fun h => ?_)) <;> conv => whnf) | (refine WB.mk (fun h => ?_) (fun h => ?_) <;> conv => whnf)
          all_goals first | exact Fin.b rfl rfl | (exfalso; clear cR cL cF cN cP cI cX cW AW ht; simp_all; done) | (exfalso; clear cR cL cF cN cP cI cX cW AW ht; simp_all; omega)
        · rw [decide_eq_false hd] at cP
          repeat' first | ((with_reducible apply WB.tt); conv => whnf) | ((with_reducible apply WB.ff); conv => whnf) | (refine Rn.seq ?_; conv => whnf) | (refine Rn.reg ?_; conv => whnf) | (refine Rn.drw ?_; conv => whnf) | (refine Rn.blk ?_; conv => whnf) | (refine Rn.skip ?_; conv => whnf) | (refine Rn.ret ?_; conv => whnf) | (refine Rn.exit ?_; conv => whnf) | (refine Rn.cond rfl ?_; conv => whnf) | (refine And.intro (InR.i64 (by omega) (by omega)) ?_; conv => whnf) | (refine And.intro (show _ ≠ (0 : Int) by omega) ?_; conv => whnf) | (refine WIx.intsN (by omega) ?_; conv => whnf) | (refine WIx.rowsN (by omega) ?_; conv => whnf) | (refine WCall.pure (cR) ?_; conv => whnf) | (refine WCall.pure (cL) ?_; conv => whnf) | (refine WCall.pure (cF) ?_; conv => whnf) | (refine WCall.pure (cN) ?_; conv => whnf) | (refine WCall.pure (cP) ?_; conv => whnf) | (refine WCall.pure (cI) ?_; conv => whnf) | (refine WCall.pure (cX) ?_; conv => whnf) | (refine WCall.pure (cW) ?_; conv => whnf) | (refine WCall.pure (AW) ?_; conv => whnf) | ((with_reducible refine WB.decT (by first | with_reducible rfl | assumption | omega | exact ⟨rfl, rfl⟩) ?_); conv => whnf) | ((with_reducible refine WB.decF (by first | assumption | omega) ?_); conv => whnf) | ((with_reducible refine WB.ndT (by first | with_reducible rfl | assumption | omega | exact ⟨rfl, rfl⟩) ?_); conv => whnf) | ((with_reducible refine WB.ndF (by first | assumption | omega) ?_); conv => whnf) | ((with_reducible refine WB.nt ?_); conv => whnf) | ((with_reducible refine WB.nf ?_); conv => whnf) | ((with_reducible refine WB.dec (fun h => ?_) (fun h => ?_)) <;> conv => whnf) | ((with_reducible refine WB.ndec (fun h => ?_) (fun h => ?_)) <;> conv => whnf) | (refine WB.mk (fun h => ?_) (fun h => ?_) <;> conv => whnf)
          all_goals first | exact Fin.b rfl rfl | (exfalso; clear cR cL cF cN cP cI cX cW AW ht; simp_all; done) | (exfalso; clear cR cL cF cN cP cI cX cW AW ht; simp_all; omega)
      · rw [if_neg hb, if_neg hb] at cN
        by_cases hd : 0 ≤ w ∧ w ≤ many
        · rw [decide_eq_true hd] at cP
          obtain ⟨hd1, hd2⟩ := hd
          repeat' first | ((with_reducible apply WB.tt); conv => whnf) | ((with_reducible apply WB.ff); conv => whnf) | (refine Rn.seq ?_; conv => whnf) | (refine Rn.reg ?_; conv => whnf) | (refine Rn.drw ?_; conv => whnf) | (refine Rn.blk ?_; conv => whnf) | (refine Rn.skip ?_; conv => whnf) | (refine Rn.ret ?_; conv => whnf) | (refine Rn.exit ?_; conv => whnf) | (refine Rn.cond rfl ?_; conv => whnf) | (refine And.intro (InR.i64 (by omega) (by omega)) ?_; conv => whnf) | (refine And.intro (show _ ≠ (0 : Int) by omega) ?_; conv => whnf) | (refine WIx.intsN (by omega) ?_; conv => whnf) | (refine WIx.rowsN (by omega) ?_; conv => whnf) | (refine WCall.pure (cR) ?_; conv => whnf) | (refine WCall.pure (cL) ?_; conv => whnf) | (refine WCall.pure (cF) ?_; conv => whnf) | (refine WCall.pure (cN) ?_; conv => whnf) | (refine WCall.pure (cP) ?_; conv => whnf) | (refine WCall.pure (cI) ?_; conv => whnf) | (refine WCall.pure (cX) ?_; conv => whnf) | (refine WCall.pure (cW) ?_; conv => whnf) | (refine WCall.pure (AW) ?_; conv => whnf) | ((with_reducible refine WB.decT (by first | with_reducible rfl | assumption | omega | exact ⟨rfl, rfl⟩) ?_); conv => whnf) | ((with_reducible refine WB.decF (by first | assumption | omega) ?_); conv => whnf) | ((with_reducible refine WB.ndT (by first | with_reducible rfl | assumption | omega | exact ⟨rfl, rfl⟩) ?_); conv => whnf) | ((with_reducible refine WB.ndF (by first | assumption | omega) ?_); conv => whnf) | ((with_reducible refine WB.nt ?_); conv => whnf) | ((with_reducible refine WB.nf ?_); conv => whnf) | ((with_reducible refine WB.dec (fun h => ?_) (fun h => ?_)) <;> conv => whnf) | ((with_reducible refine WB.ndec (fun h => ?_) (fun h => ?_)) <;> conv => whnf) | (refine WB.mk (fun h => ?_) (fun h => ?_) <;> conv => whnf)
          all_goals first | exact Fin.b rfl rfl | (exfalso; clear cR cL cF cN cP cI cX cW AW ht; simp_all; done) | (exfalso; clear cR cL cF cN cP cI cX cW AW ht; simp_all; omega)
        · rw [decide_eq_false hd] at cP
          repeat' first | ((with_reducible apply WB.tt); conv => whnf) | ((with_reducible apply WB.ff); conv => whnf) | (refine Rn.seq ?_; conv => whnf) | (refine Rn.reg ?_; conv => whnf) | (refine Rn.drw ?_; conv => whnf) | (refine Rn.blk ?_; conv => whnf) | (refine Rn.skip ?_; conv => whnf) | (refine Rn.ret ?_; conv => whnf) | (refine Rn.exit ?_; conv => whnf) | (refine Rn.cond rfl ?_; conv => whnf) | (refine And.intro (InR.i64 (by omega) (by omega)) ?_; conv => whnf) | (refine And.intro (show _ ≠ (0 : Int) by omega) ?_; conv => whnf) | (refine WIx.intsN (by omega) ?_; conv => whnf) | (refine WIx.rowsN (by omega) ?_; conv => whnf) | (refine WCall.pure (cR) ?_; conv => whnf) | (refine WCall.pure (cL) ?_; conv => whnf) | (refine WCall.pure (cF) ?_; conv => whnf) | (refine WCall.pure (cN) ?_; conv => whnf) | (refine WCall.pure (cP) ?_; conv => whnf) | (refine WCall.pure (cI) ?_; conv => whnf) | (refine WCall.pure (cX) ?_; conv => whnf) | (refine WCall.pure (cW) ?_; conv => whnf) | (refine WCall.pure (AW) ?_; conv => whnf) | ((with_reducible refine WB.decT (by first | with_reducible rfl | assumption | omega | exact ⟨rfl, rfl⟩) ?_); conv => whnf) | ((with_reducible refine WB.decF (by first | assumption | omega) ?_); conv => whnf) | ((with_reducible refine WB.ndT (by first | with_reducible rfl | assumption | omega | exact ⟨rfl, rfl⟩) ?_); conv => whnf) | ((with_reducible refine WB.ndF (by first | assumption | omega) ?_); conv => whnf) | ((with_reducible refine WB.nt ?_); conv => whnf) | ((with_reducible refine WB.nf ?_); conv => whnf) | ((with_reducible refine WB.dec (fun h => ?_) (fun h => ?_)) <;> conv => whnf) | ((with_reducible refine WB.ndec (fun h => ?_) (fun h => ?_)) <;> conv => whnf) | (refine WB.mk (fun h => ?_) (fun h => ?_) <;> conv => whnf)
          all_goals first | exact Fin.b rfl rfl | (exfalso; clear cR cL cF cN cP cI cX cW AW ht; simp_all; done) | (exfalso; clear cR cL cF cN cP cI cX cW AW ht; simp_all; omega)
    · have hI : isTruthR l t = false := by simpa using hI
      rw [hI, Bool.false_and] at cP
      rw [hI] at cI
      generalize leastF cs off (allR l) = b at *
      by_cases hb : b < 0
      · rw [if_pos hb, if_pos hb] at cN
        repeat' first | ((with_reducible apply WB.tt); conv => whnf) | ((with_reducible apply WB.ff); conv => whnf) | (refine Rn.seq ?_; conv => whnf) | (refine Rn.reg ?_; conv => whnf) | (refine Rn.drw ?_; conv => whnf) | (refine Rn.blk ?_; conv => whnf) | (refine Rn.skip ?_; conv => whnf) | (refine Rn.ret ?_; conv => whnf) | (refine Rn.exit ?_; conv => whnf) | (refine Rn.cond rfl ?_; conv => whnf) | (refine And.intro (InR.i64 (by omega) (by omega)) ?_; conv => whnf) | (refine And.intro (show _ ≠ (0 : Int) by omega) ?_; conv => whnf) | (refine WIx.intsN (by omega) ?_; conv => whnf) | (refine WIx.rowsN (by omega) ?_; conv => whnf) | (refine WCall.pure (cR) ?_; conv => whnf) | (refine WCall.pure (cL) ?_; conv => whnf) | (refine WCall.pure (cF) ?_; conv => whnf) | (refine WCall.pure (cN) ?_; conv => whnf) | (refine WCall.pure (cP) ?_; conv => whnf) | (refine WCall.pure (cI) ?_; conv => whnf) | (refine WCall.pure (cX) ?_; conv => whnf) | (refine WCall.pure (AW) ?_; conv => whnf) | ((with_reducible refine WB.decT (by first | with_reducible rfl | assumption | omega | exact ⟨rfl, rfl⟩) ?_); conv => whnf) | ((with_reducible refine WB.decF (by first | assumption | omega) ?_); conv => whnf) | ((with_reducible refine WB.ndT (by first | with_reducible rfl | assumption | omega | exact ⟨rfl, rfl⟩) ?_); conv => whnf) | ((with_reducible refine WB.ndF (by first | assumption | omega) ?_); conv => whnf) | ((with_reducible refine WB.nt ?_); conv => whnf) | ((with_reducible refine WB.nf ?_); conv => whnf) | ((with_reducible refine WB.dec (fun h => ?_) (fun h => ?_)) <;> conv => whnf) | ((with_reducible refine WB.ndec (fun h => ?_) (fun h => ?_)) <;> conv => whnf) | (refine WB.mk (fun h => ?_) (fun h => ?_) <;> conv => whnf)
        all_goals first | exact Fin.b rfl rfl | (exfalso; clear cR cL cF cN cP cI cX AW ht; simp_all; done)
      · rw [if_neg hb, if_neg hb] at cN
        repeat' first | ((with_reducible apply WB.tt); conv => whnf) | ((with_reducible apply WB.ff); conv => whnf) | (refine Rn.seq ?_; conv => whnf) | (refine Rn.reg ?_; conv => whnf) | (refine Rn.drw ?_; conv => whnf) | (refine Rn.blk ?_; conv => whnf) | (refine Rn.skip ?_; conv => whnf) | (refine Rn.ret ?_; conv => whnf) | (refine Rn.exit ?_; conv => whnf) | (refine Rn.cond rfl ?_; conv => whnf) | (refine And.intro (InR.i64 (by omega) (by omega)) ?_; conv => whnf) | (refine And.intro (show _ ≠ (0 : Int) by omega) ?_; conv => whnf) | (refine WIx.intsN (by omega) ?_; conv => whnf) | (refine WIx.rowsN (by omega) ?_; conv => whnf) | (refine WCall.pure (cR) ?_; conv => whnf) | (refine WCall.pure (cL) ?_; conv => whnf) | (refine WCall.pure (cF) ?_; conv => whnf) | (refine WCall.pure (cN) ?_; conv => whnf) | (refine WCall.pure (cP) ?_; conv => whnf) | (refine WCall.pure (cI) ?_; conv => whnf) | (refine WCall.pure (cX) ?_; conv => whnf) | (refine WCall.pure (AW) ?_; conv => whnf) | ((with_reducible refine WB.decT (by first | with_reducible rfl | assumption | omega | exact ⟨rfl, rfl⟩) ?_); conv => whnf) | ((with_reducible refine WB.decF (by first | assumption | omega) ?_); conv => whnf) | ((with_reducible refine WB.ndT (by first | with_reducible rfl | assumption | omega | exact ⟨rfl, rfl⟩) ?_); conv => whnf) | ((with_reducible refine WB.ndF (by first | assumption | omega) ?_); conv => whnf) | ((with_reducible refine WB.nt ?_); conv => whnf) | ((with_reducible refine WB.nf ?_); conv => whnf) | ((with_reducible refine WB.dec (fun h => ?_) (fun h => ?_)) <;> conv => whnf) | ((with_reducible refine WB.ndec (fun h => ?_) (fun h => ?_)) <;> conv => whnf) | (refine WB.mk (fun h => ?_) (fun h => ?_) <;> conv => whnf)
        all_goals first | exact Fin.b rfl rfl | (exfalso; clear cR cL cF cN cP cI cX AW ht; simp_all; done)
  · rw [if_neg hF, if_neg hF] at cN
    rw [decide_eq_false hF, Bool.false_and] at cP
    generalize faultR l cs wr off = F at *
    repeat' first | ((with_reducible apply WB.tt); conv => whnf) | ((with_reducible apply WB.ff); conv => whnf) | (refine Rn.seq ?_; conv => whnf) | (refine Rn.reg ?_; conv => whnf) | (refine Rn.drw ?_; conv => whnf) | (refine Rn.blk ?_; conv => whnf) | (refine Rn.skip ?_; conv => whnf) | (refine Rn.ret ?_; conv => whnf) | (refine Rn.exit ?_; conv => whnf) | (refine Rn.cond rfl ?_; conv => whnf) | (refine And.intro (InR.i64 (by omega) (by omega)) ?_; conv => whnf) | (refine And.intro (show _ ≠ (0 : Int) by omega) ?_; conv => whnf) | (refine WIx.intsN (by omega) ?_; conv => whnf) | (refine WIx.rowsN (by omega) ?_; conv => whnf) | (refine WCall.pure (cR) ?_; conv => whnf) | (refine WCall.pure (cL) ?_; conv => whnf) | (refine WCall.pure (cF) ?_; conv => whnf) | (refine WCall.pure (cN) ?_; conv => whnf) | (refine WCall.pure (cP) ?_; conv => whnf) | (refine WCall.pure (cI) ?_; conv => whnf) | (refine WCall.pure (AW) ?_; conv => whnf) | ((with_reducible refine WB.decT (by first | with_reducible rfl | assumption | omega | exact ⟨rfl, rfl⟩) ?_); conv => whnf) | ((with_reducible refine WB.decF (by first | assumption | omega) ?_); conv => whnf) | ((with_reducible refine WB.ndT (by first | with_reducible rfl | assumption | omega | exact ⟨rfl, rfl⟩) ?_); conv => whnf) | ((with_reducible refine WB.ndF (by first | assumption | omega) ?_); conv => whnf) | ((with_reducible refine WB.nt ?_); conv => whnf) | ((with_reducible refine WB.nf ?_); conv => whnf) | ((with_reducible refine WB.dec (fun h => ?_) (fun h => ?_)) <;> conv => whnf) | ((with_reducible refine WB.ndec (fun h => ?_) (fun h => ?_)) <;> conv => whnf) | (refine WB.mk (fun h => ?_) (fun h => ?_) <;> conv => whnf)
    all_goals exact Fin.b rfl rfl
theorem main_countLeast (AW : PureF Try.prog p20.ix [] (.b true)) {es : List D} (fit : FitP [(true, [.sl [.i .i64], .sl [.b, .i .i64, .i .i64], .i .i64, .i .i64]), (false, [.sl [.i .i64]]), (false, [.i .i64])] es) : PureF Try.prog 6 es (.b true) := by
  obtain ⟨l, cs, wr, off, _, rfl, g1⟩ := fit.row
  obtain ⟨t, _, rfl, w1, g2⟩ := g1.list
  obtain ⟨m, _, rfl, _, g3⟩ := g2.i
  obtain rfl := g3.no
  exact c_CountLeast l cs wr off t m (getD_wf w1) AW
end Go.Ev
