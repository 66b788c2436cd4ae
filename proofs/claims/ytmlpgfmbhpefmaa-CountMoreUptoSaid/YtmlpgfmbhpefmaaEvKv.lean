import Derived.Test.YtmlpgfmbhpefmaaEvKu
set_option linter.all false
namespace Go.Ev
open Go.Proofs
set_option maxRecDepth 100000
def bestS (cs : List Cnt) (off : Int) (b : Int) (t : List Int) : Int := if 0 ≤ wrongR cs off t ∧ (b < 0 ∨ wrongR cs off t < b) then wrongR cs off t else b
def leastF (cs : List Cnt) (off : Int) (L : List (List Int)) : Int := L.foldl (bestS cs off) (-1)
theorem best_spec (cs : List Cnt) (off : Int) : ∀ (L : List (List Int)) (b : Int), (L.foldl (bestS cs off) b = b ∨ ∃ t ∈ L, 0 ≤ wrongR cs off t ∧ wrongR cs off t = L.foldl (bestS cs off) b) ∧ (0 ≤ b → L.foldl (bestS cs off) b ≤ b ∧ 0 ≤ L.foldl (bestS cs off) b) ∧ ∀ t ∈ L, 0 ≤ wrongR cs off t → 0 ≤ L.foldl (bestS cs off) b ∧ L.foldl (bestS cs off) b ≤ wrongR cs off t
  | [], b => ⟨.inl rfl, fun h => ⟨Int.le_refl _, h⟩, fun t h => by cases h⟩
  | a :: L, b => by
    obtain ⟨h1, h2, h3⟩ := best_spec cs off L (bestS cs off b a)
    show (List.foldl (bestS cs off) (bestS cs off b a) L = b ∨ _) ∧ (_ → List.foldl (bestS cs off) (bestS cs off b a) L ≤ b ∧ 0 ≤ List.foldl (bestS cs off) (bestS cs off b a) L) ∧ ∀ t ∈ a :: L, _ → 0 ≤ List.foldl (bestS cs off) (bestS cs off b a) L ∧ List.foldl (bestS cs off) (bestS cs off b a) L ≤ _
    have hs : (0 ≤ wrongR cs off a ∧ (b < 0 ∨ wrongR cs off a < b) ∧ bestS cs off b a = wrongR cs off a) ∨ (¬ (0 ≤ wrongR cs off a ∧ (b < 0 ∨ wrongR cs off a < b)) ∧ bestS cs off b a = b) := by
      unfold bestS
      split
      · rename_i h; exact .inl ⟨h.1, h.2, rfl⟩
      · rename_i h; exact .inr ⟨h, rfl⟩
    refine ⟨?_, fun hb => ?_, fun t ht hw => ?_⟩
    · rcases h1 with h | ⟨t, ht, hw, he⟩
      · rcases hs with ⟨q1, q2, q3⟩ | ⟨q1, q2⟩
        · exact .inr ⟨a, by simp, q1, by show _ = List.foldl (bestS cs off) (bestS cs off b a) L; rw [h, q3]⟩
        · exact .inl (by rw [h, q2])
      · exact .inr ⟨t, by simp [ht], hw, he⟩
    · rcases hs with ⟨q1, q2, q3⟩ | ⟨q1, q2⟩
      · have := h2 (by omega); omega
      · have := h2 (by omega); omega
    · rcases List.mem_cons.1 ht with rfl | ht
      · rcases hs with ⟨q1, q2, q3⟩ | ⟨q1, q2⟩
        · have := h2 (by omega); omega
        · have := h2 (by omega); omega
      · exact h3 t ht hw
theorem wrongR_bd (cs : List Cnt) (off : Int) (t : List Int) : -1 ≤ wrongR cs off t ∧ wrongR cs off t ≤ cs.length := by
  unfold wrongR
  split
  · have := List.countP_le_length (p := fun c => decide (0 < ec t c)) (l := cs); omega
  · omega
theorem leastF_bd (cs : List Cnt) (off : Int) (L : List (List Int)) : -1 ≤ leastF cs off L ∧ leastF cs off L ≤ cs.length := by
  obtain ⟨h1, _, _⟩ := best_spec cs off L (-1)
  unfold leastF
  rcases h1 with h | ⟨t, _, _, h⟩
  · rw [h]; omega
  · rw [← h]; exact wrongR_bd _ _ _
def leE (l : List Int) (cs : List Cnt) (wr off : Int) : Int := if faultR l cs wr off = 0 then (if leastF cs off (allR l) < 0 then 10 else 0) else faultR l cs wr off
def leN (l : List Int) (cs : List Cnt) (wr off : Int) : Int := if faultR l cs wr off = 0 then (if leastF cs off (allR l) < 0 then 0 else leastF cs off (allR l)) else 0
theorem fault_wr {l : List Int} {cs : List Cnt} {wr off : Int} (hF : faultR l cs wr off = 0) : faultR l cs (cs.length : Int) off = 0 := by
  obtain ⟨f1, f2, f3, f4⟩ := fault0 hF
  rw [faultR_eq f2 f3] at hF ⊢
  split at hF
  · rename_i h
    rw [if_pos]
    simp only [Bool.and_eq_true] at h ⊢
    refine ⟨h.1, h.2.1, h.2.2.1, ?_, h.2.2.2.2⟩
    unfold inB
    rw [decide_eq_true_iff]
    omega
  · cases hF
theorem truR_all (l : List Int) (cs : List Cnt) (off : Int) : truR l cs (cs.length : Int) off = (allR l).filter fun t => decide (0 ≤ wrongR cs off t) := by
  unfold truR
  refine List.filter_congr fun t ht => ?_
  unfold fitR
  rw [allR_truth l t ht, Bool.true_and]
  unfold inB
  have := wrongR_bd cs off t
  congr 1
  apply propext
  omega
theorem wrong_nR {cs : List Cnt} {off : Int} {t : List Int} (h : 0 ≤ wrongR cs off t) : wrongR cs off t = (cs.length : Int) - nR t cs cs.length := by
  have q := nR_count t cs cs.length (Nat.le_refl _)
  rw [List.take_length] at q
  unfold wrongR at h ⊢
  split
  · omega
  · rename_i h2
    rw [if_neg h2] at h
    omega
theorem c_Least (l : List Int) (cs : List Cnt) (wr off : Int) (hl : l.length ≤ 1000) : PureF Try.prog p39.ix [.ag [.lst 1 (ints l), .lst 3 (rows cntD cs), .i .i64 wr, .i .i64 off]] (.tp [.i .i64 (leN l cs wr off), .i .i64 (leE l cs wr off)]) := by
  have e1 := ints_length l
  have e2 := rows_length cntD cs
  have cK := c_CheckRow l cs wr off
  by_cases hF : faultR l cs wr off = 0
  · obtain ⟨f1, f2, f3, f4⟩ := fault0 hF
    have hF' := fault_wr hF
    have cW := c_whole l cs (cs.length : Int) off (by omega)
    have C := c_start l cs (cs.length : Int) off 0 ((l.length : Int) - 1)
    have hE : startE l cs (cs.length : Int) off 0 ((l.length : Int) - 1) = if truR l cs (cs.length : Int) off = [] then 11 else 0 := startE_in hF' (by omega) (by omega) (by omega)
    have hN : truR l cs (cs.length : Int) off = [] ↔ leastF cs off (allR l) < 0 := by
      rw [truR_all, List.filter_eq_nil_iff]
      obtain ⟨b1, b2, b3⟩ := best_spec cs off (allR l) (-1)
      constructor
      · intro h
        unfold leastF
        rcases b1 with b1 | ⟨t, ht, hw, _⟩
        · omega
        · exact absurd (decide_eq_true hw) (h t ht)
      · intro h t ht hw
        have := b3 t ht (of_decide_eq_true hw)
        unfold leastF at h
        omega
    unfold leE leN
    rw [if_pos hF, if_pos hF]
    rw [hF] at cK
    by_cases hT : truR l cs (cs.length : Int) off = []
    · rw [if_pos hT] at hE
      rw [if_pos (hN.1 hT), if_pos (hN.1 hT)]
      rw [show startW l cs (cs.length : Int) off 0 ((l.length : Int) - 1) = [.ns, .ns, .i .i64 0, .i .i64 0, .ns] by unfold startW; rw [hE, if_neg (by omega)], hE] at C
      rw [← e2] at cW C
      refine PureF.run fn38 (by simp) (by simp [PuL, PuE, Pu, pu_ints, pu_cnts]) ?_; conv => whnf
      repeat' first | ((with_reducible apply WB.tt); conv => whnf) | ((with_reducible apply WB.ff); conv => whnf) | (refine Rn.seq ?_; conv => whnf) | (refine Rn.reg ?_; conv => whnf) | (refine Rn.drw ?_; conv => whnf) | (refine Rn.blk ?_; conv => whnf) | (refine Rn.skip ?_; conv => whnf) | (refine Rn.ret ?_; conv => whnf) | (refine Rn.exit ?_; conv => whnf) | (refine Rn.cond rfl ?_; conv => whnf) | (refine And.intro (InR.i64 (by omega) (by omega)) ?_; conv => whnf) | (refine And.intro (show _ ≠ (0 : Int) by omega) ?_; conv => whnf) | (refine WIx.intsN (by omega) ?_; conv => whnf) | (refine WIx.rowsN (by omega) ?_; conv => whnf) | (refine WCall.pure (cK) ?_; conv => whnf) | (refine WCall.pure (cW) ?_; conv => whnf) | (refine WCall.pure (C) ?_; conv => whnf) | ((with_reducible refine WB.decT (by first | with_reducible rfl | assumption | omega | exact ⟨rfl, rfl⟩) ?_); conv => whnf) | ((with_reducible refine WB.decF (by first | assumption | omega) ?_); conv => whnf) | ((with_reducible refine WB.ndT (by first | with_reducible rfl | assumption | omega | exact ⟨rfl, rfl⟩) ?_); conv => whnf) | ((with_reducible refine WB.ndF (by first | assumption | omega) ?_); conv => whnf) | ((with_reducible refine WB.nt ?_); conv => whnf) | ((with_reducible refine WB.nf ?_); conv => whnf) | ((with_reducible refine WB.dec (fun h => ?_) (fun h => ?_)) <;> conv => whnf) | ((with_reducible refine WB.ndec (fun h => ?_) (fun h => ?_)) <;> conv => whnf) | (refine WB.mk (fun h => ?_) (fun h => ?_) <;> conv => whnf)
      exact Fin.two (.inr rfl) rfl rfl (.pu trivial) (.pu trivial)
    · rw [if_neg hT] at hE
      have hT' : ¬ leastF cs off (allR l) < 0 := fun h => hT (hN.2 h)
      rw [if_neg hT', if_neg hT']
      have tl := truthsF_len l cs (cs.length : Int) off f2
      have hTF : truthsF l cs (cs.length : Int) off ≠ [] := fun h => hT ((truths_nil f2).2 h)
      rw [show startW l cs (cs.length : Int) off 0 ((l.length : Int) - 1) = [.lst 1 (ints l), .lst 3 (rows cntD cs), .i .i64 (cs.length : Int), .i .i64 off, tl9 (truthsF l cs (cs.length : Int) off)] by unfold startW; rw [hE, if_pos rfl], hE] at C
      have cB := c_bounds l cs (cs.length : Int) off (truthsF l cs (cs.length : Int) off) (List.length_pos_iff.2 hTF) (by omega) p81 0 ((cs.length : Int) - 1) (fun c => nR ((lst9 c).take l.length) cs cs.length) (fun c hc => c_rightIn l cs (cs.length : Int) off _ (pu_tl9 _) _ _ _ _ _ _ _ _ _ (truthsF_bit hc).bits f2 f4 (by omega) _ rfl)
      have hq : (truthsF l cs (cs.length : Int) off).map (fun c => nR ((lst9 c).take l.length) cs cs.length) = (truR l cs (cs.length : Int) off).map fun t => nR t cs cs.length := by
        rw [truR_eq l cs _ off f2, List.map_map]
        rfl
      rw [hq] at cB
      have hmax : (cs.length : Int) - maxL (((truR l cs (cs.length : Int) off).map fun t => nR t cs cs.length).getD 0 0) ((truR l cs (cs.length : Int) off).map fun t => nR t cs cs.length) = leastF cs off (allR l) ∧ 0 ≤ maxL (((truR l cs (cs.length : Int) off).map fun t => nR t cs cs.length).getD 0 0) ((truR l cs (cs.length : Int) off).map fun t => nR t cs cs.length) ∧ maxL (((truR l cs (cs.length : Int) off).map fun t => nR t cs cs.length).getD 0 0) ((truR l cs (cs.length : Int) off).map fun t => nR t cs cs.length) ≤ cs.length := by
        have hlen : 0 < ((truR l cs (cs.length : Int) off).map fun t => nR t cs cs.length).length := by rw [List.length_map]; exact List.length_pos_iff.2 hT
        have m1 : maxL (((truR l cs (cs.length : Int) off).map fun t => nR t cs cs.length).getD 0 0) ((truR l cs (cs.length : Int) off).map fun t => nR t cs cs.length) ∈ (truR l cs (cs.length : Int) off).map fun t => nR t cs cs.length := by
          rcases foldmax_mem (L := (truR l cs (cs.length : Int) off).map fun t => nR t cs cs.length) (a := ((truR l cs (cs.length : Int) off).map fun t => nR t cs cs.length).getD 0 0) with h | h
          · unfold maxL; rw [h]; exact getD_mem hlen
          · exact h
        have m2 : ∀ x ∈ (truR l cs (cs.length : Int) off).map fun t => nR t cs cs.length, x ≤ maxL (((truR l cs (cs.length : Int) off).map fun t => nR t cs cs.length).getD 0 0) ((truR l cs (cs.length : Int) off).map fun t => nR t cs cs.length) := fun x hx => (foldmax_le _ _).2 x hx
        generalize maxL (((truR l cs (cs.length : Int) off).map fun t => nR t cs cs.length).getD 0 0) ((truR l cs (cs.length : Int) off).map fun t => nR t cs cs.length) = M at *
        obtain ⟨y, hy, rfl⟩ := List.mem_map.1 m1
        have hbd := nR_bd y cs cs.length
        refine ⟨?_, by omega, by omega⟩
        rw [truR_all] at hy m2
        obtain ⟨hy1, hy2⟩ := List.mem_filter.1 hy
        have hy2 := of_decide_eq_true hy2
        have hy3 := wrong_nR hy2
        obtain ⟨b1, b2, b3⟩ := best_spec cs off (allR l) (-1)
        have b4 := b3 y hy1 hy2
        show _ = (allR l).foldl (bestS cs off) (-1)
        have hT'' : ¬ (allR l).foldl (bestS cs off) (-1) < 0 := hT'
        rcases b1 with b1 | ⟨t, ht, hw, b1⟩
        · omega
        · have ht3 := wrong_nR hw
          have ht4 := m2 _ (List.mem_map.2 ⟨t, List.mem_filter.2 ⟨ht, decide_eq_true hw⟩, rfl⟩)
          omega
      obtain ⟨hm1, hm2, hm3⟩ := hmax
      rw [← hm1]
      generalize maxL (((truR l cs (cs.length : Int) off).map fun t => nR t cs cs.length).getD 0 0) ((truR l cs (cs.length : Int) off).map fun t => nR t cs cs.length) = M at *
      rw [← e2] at cW C cB hm3 ⊢
      refine PureF.run fn38 (by simp) (by simp [PuL, PuE, Pu, pu_ints, pu_cnts]) ?_; conv => whnf
      repeat' first | ((with_reducible apply WB.tt); conv => whnf) | ((with_reducible apply WB.ff); conv => whnf) | (refine Rn.seq ?_; conv => whnf) | (refine Rn.reg ?_; conv => whnf) | (refine Rn.drw ?_; conv => whnf) | (refine Rn.blk ?_; conv => whnf) | (refine Rn.skip ?_; conv => whnf) | (refine Rn.ret ?_; conv => whnf) | (refine Rn.exit ?_; conv => whnf) | (refine Rn.cond rfl ?_; conv => whnf) | (refine And.intro (InR.i64 (by omega) (by omega)) ?_; conv => whnf) | (refine And.intro (show _ ≠ (0 : Int) by omega) ?_; conv => whnf) | (refine WIx.intsN (by omega) ?_; conv => whnf) | (refine WIx.rowsN (by omega) ?_; conv => whnf) | (refine WCall.pure (cK) ?_; conv => whnf) | (refine WCall.pure (cW) ?_; conv => whnf) | (refine WCall.pure (C) ?_; conv => whnf) | (refine WCall.pure (cB) ?_; conv => whnf) | ((with_reducible refine WB.decT (by first | with_reducible rfl | assumption | omega | exact ⟨rfl, rfl⟩) ?_); conv => whnf) | ((with_reducible refine WB.decF (by first | assumption | omega) ?_); conv => whnf) | ((with_reducible refine WB.ndT (by first | with_reducible rfl | assumption | omega | exact ⟨rfl, rfl⟩) ?_); conv => whnf) | ((with_reducible refine WB.ndF (by first | assumption | omega) ?_); conv => whnf) | ((with_reducible refine WB.nt ?_); conv => whnf) | ((with_reducible refine WB.nf ?_); conv => whnf) | ((with_reducible refine WB.dec (fun h => ?_) (fun h => ?_)) <;> conv => whnf) | ((with_reducible refine WB.ndec (fun h => ?_) (fun h => ?_)) <;> conv => whnf) | (refine WB.mk (fun h => ?_) (fun h => ?_) <;> conv => whnf)
      exact Fin.two (.inr rfl) rfl rfl (.pu trivial) (.pu trivial)
  · unfold leE leN
    rw [if_neg hF, if_neg hF]
    generalize faultR l cs wr off = F at *
    refine PureF.run fn38 (by simp) (by simp [PuL, PuE, Pu, pu_ints, pu_cnts]) ?_; conv => whnf
    repeat' first | ((with_reducible apply WB.tt); conv => whnf) | ((with_reducible apply WB.ff); conv => whnf) | (refine Rn.seq ?_; conv => whnf) | (refine Rn.reg ?_; conv => whnf) | (refine Rn.drw ?_; conv => whnf) | (refine Rn.blk ?_; conv => whnf) | (refine Rn.skip ?_; conv => whnf) | (refine Rn.ret ?_; conv => whnf) | (refine Rn.exit ?_; conv => whnf) | (refine Rn.cond rfl ?_; conv => whnf) | (refine And.intro (InR.i64 (by omega) (by omega)) ?_; conv => whnf) | (refine And.intro (show _ ≠ (0 : Int) by omega) ?_; conv => whnf) | (refine WIx.intsN (by omega) ?_; conv => whnf) | (refine WIx.rowsN (by omega) ?_; conv => whnf) | (refine WCall.pure (cK) ?_; conv => whnf) | ((with_reducible refine WB.decT (by first | with_reducible rfl | assumption | omega | exact ⟨rfl, rfl⟩) ?_); conv => whnf) | ((with_reducible refine WB.decF (by first | assumption | omega) ?_); conv => whnf) | ((with_reducible refine WB.ndT (by first | with_reducible rfl | assumption | omega | exact ⟨rfl, rfl⟩) ?_); conv => whnf) | ((with_reducible refine WB.ndF (by first | assumption | omega) ?_); conv => whnf) | ((with_reducible refine WB.nt ?_); conv => whnf) | ((with_reducible refine WB.nf ?_); conv => whnf) | ((with_reducible refine WB.dec (fun h => ?_) (fun h => ?_)) <;> conv => whnf) | ((with_reducible refine WB.ndec (fun h => ?_) (fun h => ?_)) <;> conv => whnf) | (refine WB.mk (fun h => ?_) (fun h => ?_) <;> conv => whnf)
    exact Fin.two (.inr rfl) rfl rfl (.pu trivial) (.pu trivial)
end Go.Ev
