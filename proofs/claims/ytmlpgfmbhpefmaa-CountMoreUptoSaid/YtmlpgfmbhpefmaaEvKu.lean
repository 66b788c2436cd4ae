import Derived.Test.YtmlpgfmbhpefmaaEvKt
set_option linter.all false
namespace Go.Ev
open Go.Proofs
set_option maxRecDepth 100000
def verd (a b : Int) : Int := if a = 1 ∧ b = 1 then 1 else if a = 0 ∧ b = 0 then 2 else 3
def verdR (yes many : Int) : Int := if yes = many then 1 else if yes = 0 then 2 else 3
theorem c_verdict (a b : Int) (w1 : wfB .i64 a = true) (w2 : wfB .i64 b = true) : PureF Try.prog p96.ix [.ag [.i .i64 a, .i .i64 b]] (.i .i64 (verd a b)) := by
  refine PureF.run fn95 (by simp) (by simp [PuL, PuE, Pu]) ?_; conv => whnf
  repeat' first | ((with_reducible apply WB.tt); conv => whnf) | ((with_reducible apply WB.ff); conv => whnf) | (refine Rn.seq ?_; conv => whnf) | (refine Rn.reg ?_; conv => whnf) | (refine Rn.drw ?_; conv => whnf) | (refine Rn.blk ?_; conv => whnf) | (refine Rn.skip ?_; conv => whnf) | (refine Rn.ret ?_; conv => whnf) | (refine Rn.exit ?_; conv => whnf) | (refine Rn.cond rfl ?_; conv => whnf) | (refine And.intro (InR.i64 (by omega) (by omega)) ?_; conv => whnf) | (refine And.intro (show _ ≠ (0 : Int) by omega) ?_; conv => whnf) | (refine WIx.intsN (by omega) ?_; conv => whnf) | (refine WIx.rowsN (by omega) ?_; conv => whnf)
  refine WSt.eqr2 (a := a) (b := b) (a' := 1) (b' := 1) ?_ ?_ w1 w2 rfl rfl ?_
  · rfl
  · rfl
  conv => whnf
  repeat' first | ((with_reducible apply WB.tt); conv => whnf) | ((with_reducible apply WB.ff); conv => whnf) | (refine Rn.seq ?_; conv => whnf) | (refine Rn.reg ?_; conv => whnf) | (refine Rn.drw ?_; conv => whnf) | (refine Rn.blk ?_; conv => whnf) | (refine Rn.skip ?_; conv => whnf) | (refine Rn.ret ?_; conv => whnf) | (refine Rn.exit ?_; conv => whnf) | (refine Rn.cond rfl ?_; conv => whnf) | (refine And.intro (InR.i64 (by omega) (by omega)) ?_; conv => whnf) | (refine And.intro (show _ ≠ (0 : Int) by omega) ?_; conv => whnf) | (refine WIx.intsN (by omega) ?_; conv => whnf) | (refine WIx.rowsN (by omega) ?_; conv => whnf)
  refine WB.dec (fun h => ?_) (fun h => ?_) <;> conv => whnf
  · repeat' first | ((with_reducible apply WB.tt); conv => whnf) | ((with_reducible apply WB.ff); conv => whnf) | (refine Rn.seq ?_; conv => whnf) | (refine Rn.reg ?_; conv => whnf) | (refine Rn.drw ?_; conv => whnf) | (refine Rn.blk ?_; conv => whnf) | (refine Rn.skip ?_; conv => whnf) | (refine Rn.ret ?_; conv => whnf) | (refine Rn.exit ?_; conv => whnf) | (refine Rn.cond rfl ?_; conv => whnf) | (refine And.intro (InR.i64 (by omega) (by omega)) ?_; conv => whnf) | (refine And.intro (show _ ≠ (0 : Int) by omega) ?_; conv => whnf) | (refine WIx.intsN (by omega) ?_; conv => whnf) | (refine WIx.rowsN (by omega) ?_; conv => whnf)
    exact Fin.i rfl (by unfold verd; rw [if_pos h])
  · have h1 := h
    repeat' first | ((with_reducible apply WB.tt); conv => whnf) | ((with_reducible apply WB.ff); conv => whnf) | (refine Rn.seq ?_; conv => whnf) | (refine Rn.reg ?_; conv => whnf) | (refine Rn.drw ?_; conv => whnf) | (refine Rn.blk ?_; conv => whnf) | (refine Rn.skip ?_; conv => whnf) | (refine Rn.ret ?_; conv => whnf) | (refine Rn.exit ?_; conv => whnf) | (refine Rn.cond rfl ?_; conv => whnf) | (refine And.intro (InR.i64 (by omega) (by omega)) ?_; conv => whnf) | (refine And.intro (show _ ≠ (0 : Int) by omega) ?_; conv => whnf) | (refine WIx.intsN (by omega) ?_; conv => whnf) | (refine WIx.rowsN (by omega) ?_; conv => whnf)
    refine WSt.eqr2 (a := a) (b := b) (a' := 0) (b' := 0) ?_ ?_ w1 w2 rfl rfl ?_
    · rfl
    · rfl
    conv => whnf
    repeat' first | ((with_reducible apply WB.tt); conv => whnf) | ((with_reducible apply WB.ff); conv => whnf) | (refine Rn.seq ?_; conv => whnf) | (refine Rn.reg ?_; conv => whnf) | (refine Rn.drw ?_; conv => whnf) | (refine Rn.blk ?_; conv => whnf) | (refine Rn.skip ?_; conv => whnf) | (refine Rn.ret ?_; conv => whnf) | (refine Rn.exit ?_; conv => whnf) | (refine Rn.cond rfl ?_; conv => whnf) | (refine And.intro (InR.i64 (by omega) (by omega)) ?_; conv => whnf) | (refine And.intro (show _ ≠ (0 : Int) by omega) ?_; conv => whnf) | (refine WIx.intsN (by omega) ?_; conv => whnf) | (refine WIx.rowsN (by omega) ?_; conv => whnf)
    refine WB.dec (fun h => ?_) (fun h => ?_) <;> conv => whnf
    · have h2 := h
      repeat' first | ((with_reducible apply WB.tt); conv => whnf) | ((with_reducible apply WB.ff); conv => whnf) | (refine Rn.seq ?_; conv => whnf) | (refine Rn.reg ?_; conv => whnf) | (refine Rn.drw ?_; conv => whnf) | (refine Rn.blk ?_; conv => whnf) | (refine Rn.skip ?_; conv => whnf) | (refine Rn.ret ?_; conv => whnf) | (refine Rn.exit ?_; conv => whnf) | (refine Rn.cond rfl ?_; conv => whnf) | (refine And.intro (InR.i64 (by omega) (by omega)) ?_; conv => whnf) | (refine And.intro (show _ ≠ (0 : Int) by omega) ?_; conv => whnf) | (refine WIx.intsN (by omega) ?_; conv => whnf) | (refine WIx.rowsN (by omega) ?_; conv => whnf)
      exact Fin.i rfl (by unfold verd; rw [if_neg h1, if_pos h2])
    · have h2 := h
      repeat' first | ((with_reducible apply WB.tt); conv => whnf) | ((with_reducible apply WB.ff); conv => whnf) | (refine Rn.seq ?_; conv => whnf) | (refine Rn.reg ?_; conv => whnf) | (refine Rn.drw ?_; conv => whnf) | (refine Rn.blk ?_; conv => whnf) | (refine Rn.skip ?_; conv => whnf) | (refine Rn.ret ?_; conv => whnf) | (refine Rn.exit ?_; conv => whnf) | (refine Rn.cond rfl ?_; conv => whnf) | (refine And.intro (InR.i64 (by omega) (by omega)) ?_; conv => whnf) | (refine And.intro (show _ ≠ (0 : Int) by omega) ?_; conv => whnf) | (refine WIx.intsN (by omega) ?_; conv => whnf) | (refine WIx.rowsN (by omega) ?_; conv => whnf)
      exact Fin.i rfl (by unfold verd; rw [if_neg h1, if_neg h2])
theorem c_whole (l : List Int) (cs : List Cnt) (wr off : Int) (hl : l.length ≤ 65536) : PureF Try.prog p79.ix [.ag [.lst 1 (ints l), .lst 3 (rows cntD cs), .i .i64 wr, .i .i64 off]] (.ag [.i .i64 0, .i .i64 ((l.length : Int) - 1)]) := by
  have e1 := ints_length l
  refine PureF.run fn78 (by simp) (by simp [PuL, PuE, Pu, pu_ints, pu_cnts]) ?_; conv => whnf
  repeat' first | ((with_reducible apply WB.tt); conv => whnf) | ((with_reducible apply WB.ff); conv => whnf) | (refine Rn.seq ?_; conv => whnf) | (refine Rn.reg ?_; conv => whnf) | (refine Rn.drw ?_; conv => whnf) | (refine Rn.blk ?_; conv => whnf) | (refine Rn.skip ?_; conv => whnf) | (refine Rn.ret ?_; conv => whnf) | (refine Rn.exit ?_; conv => whnf) | (refine Rn.cond rfl ?_; conv => whnf) | (refine And.intro (InR.i64 (by omega) (by omega)) ?_; conv => whnf) | (refine And.intro (show _ ≠ (0 : Int) by omega) ?_; conv => whnf) | (refine WIx.intsN (by omega) ?_; conv => whnf) | (refine WIx.rowsN (by omega) ?_; conv => whnf)
  rw [← e1]
  exact ⟨.inr rfl, _, rfl, .pu (by simp [Pu, PuL, one])⟩
theorem c_verdicts (l : List Int) (cs : List Cnt) (wr off : Int) (Ts : List (Nat → Int)) (h0 : 0 < Ts.length) (hT : Ts.length ≤ 1000) (q : Pos) (many : Nat) (hm : many ≤ 1000) (g : Nat → (Nat → Int) → Int)
    (hg : ∀ i, i < many → ∀ c ∈ Ts, PureF Try.prog q.ix [.ag [.lst 1 (ints l), .lst 3 (rows cntD cs), .i .i64 wr, .i .i64 off, tl9 Ts], .ag [.i .i64 (c 0), .i .i64 (c 1), .i .i64 (c 2), .i .i64 (c 3), .i .i64 (c 4), .i .i64 (c 5), .i .i64 (c 6), .i .i64 (c 7), .i .i64 (c 8)], .ag [.i .i64 (i : Int), .i .i64 (i : Int)]] (.i .i64 (g i c)))
    (hw : ∀ i, i < many → ∀ c ∈ Ts, 0 ≤ g i c ∧ g i c ≤ 9) :
    PureF Try.prog p80.ix [.ag [.lst 1 (ints l), .lst 3 (rows cntD cs), .i .i64 wr, .i .i64 off, tl9 Ts], .i .i64 (many : Int), .fn q [] []] (.lst 1 (ints ((List.range many).map fun i => verd (minL ((Ts.map (g i)).getD 0 0) (Ts.map (g i))) (maxL ((Ts.map (g i)).getD 0 0) (Ts.map (g i)))))) := by
  have pt := pu_tl9 Ts
  generalize hE : ((List.range many).map fun i => verd (minL ((Ts.map (g i)).getD 0 0) (Ts.map (g i))) (maxL ((Ts.map (g i)).getD 0 0) (Ts.map (g i)))) = E
  have hEl : E.length = many := by rw [← hE]; simp
  have hEg : ∀ j, j < many → verd (minL ((Ts.map (g j)).getD 0 0) (Ts.map (g j))) (maxL ((Ts.map (g j)).getD 0 0) (Ts.map (g j))) = E.getD j 0 := fun j hj => by
    rw [← hE]; simp [List.getD, hj]
  have cB := fun i (hi : i < many) => c_bounds l cs wr off Ts h0 hT q (i : Int) (i : Int) (g i) (hg i hi)
  have cV := fun i (hi : i < many) => c_verdict (minL ((Ts.map (g i)).getD 0 0) (Ts.map (g i))) (maxL ((Ts.map (g i)).getD 0 0) (Ts.map (g i)))
    (by
      have hb : ∀ x ∈ Ts.map (g i), 0 ≤ x ∧ x ≤ 9 := fun x hx => by
        obtain ⟨c, hc, rfl⟩ := List.mem_map.1 hx
        exact hw i hi c hc
      have h1 : (Ts.map (g i)).getD 0 0 ∈ Ts.map (g i) := getD_mem (by simpa using h0)
      rcases foldmin_mem (L := Ts.map (g i)) (a := (Ts.map (g i)).getD 0 0) with h | h
      · unfold minL; rw [h]; have := hb _ h1; exact wf_small (by omega) (by omega)
      · unfold minL; have := hb _ h; exact wf_small (by omega) (by omega))
    (by
      have hb : ∀ x ∈ Ts.map (g i), 0 ≤ x ∧ x ≤ 9 := fun x hx => by
        obtain ⟨c, hc, rfl⟩ := List.mem_map.1 hx
        exact hw i hi c hc
      have h1 : (Ts.map (g i)).getD 0 0 ∈ Ts.map (g i) := getD_mem (by simpa using h0)
      rcases foldmax_mem (L := Ts.map (g i)) (a := (Ts.map (g i)).getD 0 0) with h | h
      · unfold maxL; rw [h]; have := hb _ h1; exact wf_small (by omega) (by omega)
      · unfold maxL; have := hb _ h; exact wf_small (by omega) (by omega))
  have cV := fun i (hi : i < many) => by have := cV i hi; rw [hEg i hi] at this; exact this
  refine PureF.run fn79 (by simp) (by simp [PuL, PuE, Pu, pu_ints, pu_cnts, pt]) ?_; conv => whnf
  repeat' first | ((with_reducible apply WB.tt); conv => whnf) | ((with_reducible apply WB.ff); conv => whnf) | (refine Rn.seq ?_; conv => whnf) | (refine Rn.reg ?_; conv => whnf) | (refine Rn.drw ?_; conv => whnf) | (refine Rn.blk ?_; conv => whnf) | (refine Rn.skip ?_; conv => whnf) | (refine Rn.ret ?_; conv => whnf) | (refine Rn.exit ?_; conv => whnf) | (refine Rn.cond rfl ?_; conv => whnf) | (refine And.intro (InR.i64 (by omega) (by omega)) ?_; conv => whnf) | (refine And.intro (show _ ≠ (0 : Int) by omega) ?_; conv => whnf) | (refine WIx.intsN (by omega) ?_; conv => whnf) | (refine WIx.rowsN (by omega) ?_; conv => whnf)
  refine Rn.loop (fun j : Nat => match j with
    | 0 => ⟨(.n (.n (.n (.n .e (some (.ns)) .e) (some (.pt .h 0 0)) .e) none (.n (.n .e (some (.i .i64 (many : Int))) .e) none .e)) none (.n .e (some (.fn q [] [])) (.n (.n .e (some (.i .i64 0)) .e) none .e))), (.n .e (some (.cells false [.o (.lst 1 (ints l)) 0, .o (.lst 3 (rows cntD cs)) 0, .o (.i .i64 wr) 0, .o (.i .i64 off) 0, .o (tl9 Ts) 0] 1)) .e), .o .h, none⟩
    | j + 1 => ⟨(.n (.n (.n (.n .e (some (.sl (.i .h) 0 (j + 1) j 1)) .e) (some (.pt .h 0 0)) .e) none (.n (.n .e (some (.i .i64 (many : Int))) .e) none .e)) none (.n .e (some (.fn q [] [])) (.n (.n .e (some (.i .i64 ((j + 1 : Nat) : Int))) .e) none .e))), (.n .e (some (.cells false [.o (.lst 1 (ints l)) 0, .o (.lst 3 (rows cntD cs)) 0, .o (.i .i64 wr) 0, .o (.i .i64 off) 0, .o (tl9 Ts) 0] 1)) (.n .e (some (.cells false (((E.take (j + 1)).map fun n => D.i .i64 n).map fun d => Cell.o d j) (j + 1))) .e)), .o (.o .h), none⟩) (fun j => j ≤ many) (fun j => many - j) 0 ?_ ?_ ?_
  · (first | (refine X.le.mk ?_ ?_ (Nat.le_refl _) rfl rfl) | skip) <;> (repeat' first | exact T.le_e _ | refine T.le_some ?_ ?_ ?_ | refine T.le_none ?_ ?_ | rfl)
  · omega
  rintro (_ | j) hj
  · conv => whnf
    repeat' first | ((with_reducible apply WB.tt); conv => whnf) | ((with_reducible apply WB.ff); conv => whnf) | (refine Rn.seq ?_; conv => whnf) | (refine Rn.reg ?_; conv => whnf) | (refine Rn.drw ?_; conv => whnf) | (refine Rn.blk ?_; conv => whnf) | (refine Rn.skip ?_; conv => whnf) | (refine Rn.ret ?_; conv => whnf) | (refine Rn.exit ?_; conv => whnf) | (refine Rn.cond rfl ?_; conv => whnf) | (refine And.intro (InR.i64 (by omega) (by omega)) ?_; conv => whnf) | (refine And.intro (show _ ≠ (0 : Int) by omega) ?_; conv => whnf) | (refine WIx.intsN (by omega) ?_; conv => whnf) | (refine WIx.rowsN (by omega) ?_; conv => whnf)
    refine WB.dec (fun h => ?_) (fun h => ?_) <;> conv => whnf
    · have hlt : 0 < many := by omega
      repeat' first | ((with_reducible apply WB.tt); conv => whnf) | ((with_reducible apply WB.ff); conv => whnf) | (refine Rn.seq ?_; conv => whnf) | (refine Rn.reg ?_; conv => whnf) | (refine Rn.drw ?_; conv => whnf) | (refine Rn.blk ?_; conv => whnf) | (refine Rn.skip ?_; conv => whnf) | (refine Rn.ret ?_; conv => whnf) | (refine Rn.exit ?_; conv => whnf) | (refine Rn.cond rfl ?_; conv => whnf) | (refine And.intro (InR.i64 (by omega) (by omega)) ?_; conv => whnf) | (refine And.intro (show _ ≠ (0 : Int) by omega) ?_; conv => whnf) | (refine WIx.intsN (by omega) ?_; conv => whnf) | (refine WIx.rowsN (by omega) ?_; conv => whnf) | (refine WCall.pure (cB 0 hlt) ?_; conv => whnf) | (refine WCall.pure (cV 0 hlt) ?_; conv => whnf)
      refine WSt.app_first (r := [_]) rfl (.inl rfl) rfl rfl rfl rfl ?_; conv => whnf
      repeat' first | ((with_reducible apply WB.tt); conv => whnf) | ((with_reducible apply WB.ff); conv => whnf) | (refine Rn.seq ?_; conv => whnf) | (refine Rn.reg ?_; conv => whnf) | (refine Rn.drw ?_; conv => whnf) | (refine Rn.blk ?_; conv => whnf) | (refine Rn.skip ?_; conv => whnf) | (refine Rn.ret ?_; conv => whnf) | (refine Rn.exit ?_; conv => whnf) | (refine Rn.cond rfl ?_; conv => whnf) | (refine And.intro (InR.i64 (by omega) (by omega)) ?_; conv => whnf) | (refine And.intro (show _ ≠ (0 : Int) by omega) ?_; conv => whnf) | (refine WIx.intsN (by omega) ?_; conv => whnf) | (refine WIx.rowsN (by omega) ?_; conv => whnf)
      refine Again.to 1 (by omega) (by omega) (Nat.le_of_ble_eq_true rfl) ?_
      (refine Shr.of ?_ ?_ rfl rfl) <;> (repeat' first | exact Rel.e | refine Rel.some ?_ ?_ ?_ | refine Rel.none ?_ ?_) <;> (try first | (show Fz _ _ _ _; first | exact Fz.pu trivial | (refine Fz.i ?_; first | rfl | omega) | (refine Fz.kpt ?_; (focus (show Pos.nat _ < Pos.nat _; simp [Pos.nat]; done))) | (refine Fz.ksl ?_; (focus (show Pos.nat _ < Pos.nat _; simp [Pos.nat]; done))) | (refine Fz.kmp ?_; (focus (show Pos.nat _ < Pos.nat _; simp [Pos.nat]; done))) | (refine Fz.pu ?_; simp [Cell.d, Pu, PuL, PuE, pu_ints, pu_cnts, pu_tR]; done) | (refine Fz.pu ?_; simp only [Cell.d]; assumption)) | (refine RO'.of ?_ (ShC.same ?_); (focus (show Pos.nat _ < Pos.nat _; simp [Pos.nat]; done)); (repeat' first | exact ShC.nl | refine ShC.cn ?_ ?_) <;> first | exact Fz.pu trivial | (refine Fz.i ?_; first | rfl | omega) | (refine Fz.kpt ?_; (focus (show Pos.nat _ < Pos.nat _; simp [Pos.nat]; done))) | (refine Fz.ksl ?_; (focus (show Pos.nat _ < Pos.nat _; simp [Pos.nat]; done))) | (refine Fz.kmp ?_; (focus (show Pos.nat _ < Pos.nat _; simp [Pos.nat]; done))) | (refine Fz.pu ?_; simp [Cell.d, Pu, PuL, PuE, pu_ints, pu_cnts, pu_tR]; done) | (refine Fz.pu ?_; simp only [Cell.d]; assumption)))
      all_goals first | (refine Fz.pu ?_; simp [Cell.d, Pu, PuL, pt]; done) | skip
      refine RO'.of (show Pos.nat _ < Pos.nat _ by simp [Pos.nat]) ?_
      have ht : E.take 1 = [E.getD 0 0] := by rw [take_succ_getD (j := 0) (d := 0) (by omega)]; simp
      show ShC _ _ _ (.cells false (((E.take 1).map fun n => D.i .i64 n).map fun d => Cell.o d 0) 1)
      rw [ht]
      exact ShC.same (ShC.cn (.pu trivial) ShC.nl)
    · repeat' first | ((with_reducible apply WB.tt); conv => whnf) | ((with_reducible apply WB.ff); conv => whnf) | (refine Rn.seq ?_; conv => whnf) | (refine Rn.reg ?_; conv => whnf) | (refine Rn.drw ?_; conv => whnf) | (refine Rn.blk ?_; conv => whnf) | (refine Rn.skip ?_; conv => whnf) | (refine Rn.ret ?_; conv => whnf) | (refine Rn.exit ?_; conv => whnf) | (refine Rn.cond rfl ?_; conv => whnf) | (refine And.intro (InR.i64 (by omega) (by omega)) ?_; conv => whnf) | (refine And.intro (show _ ≠ (0 : Int) by omega) ?_; conv => whnf) | (refine WIx.intsN (by omega) ?_; conv => whnf) | (refine WIx.rowsN (by omega) ?_; conv => whnf)
      refine Fin.t (.inr rfl) rfl ?_
      rw [show E = [] from List.length_eq_zero_iff.1 (by omega)]
      exact Fz.ns
  · conv => whnf
    repeat' first | ((with_reducible apply WB.tt); conv => whnf) | ((with_reducible apply WB.ff); conv => whnf) | (refine Rn.seq ?_; conv => whnf) | (refine Rn.reg ?_; conv => whnf) | (refine Rn.drw ?_; conv => whnf) | (refine Rn.blk ?_; conv => whnf) | (refine Rn.skip ?_; conv => whnf) | (refine Rn.ret ?_; conv => whnf) | (refine Rn.exit ?_; conv => whnf) | (refine Rn.cond rfl ?_; conv => whnf) | (refine And.intro (InR.i64 (by omega) (by omega)) ?_; conv => whnf) | (refine And.intro (show _ ≠ (0 : Int) by omega) ?_; conv => whnf) | (refine WIx.intsN (by omega) ?_; conv => whnf) | (refine WIx.rowsN (by omega) ?_; conv => whnf)
    refine WB.dec (fun h => ?_) (fun h => ?_) <;> conv => whnf
    · have hlt : j + 1 < many := by omega
      repeat' first | ((with_reducible apply WB.tt); conv => whnf) | ((with_reducible apply WB.ff); conv => whnf) | (refine Rn.seq ?_; conv => whnf) | (refine Rn.reg ?_; conv => whnf) | (refine Rn.drw ?_; conv => whnf) | (refine Rn.blk ?_; conv => whnf) | (refine Rn.skip ?_; conv => whnf) | (refine Rn.ret ?_; conv => whnf) | (refine Rn.exit ?_; conv => whnf) | (refine Rn.cond rfl ?_; conv => whnf) | (refine And.intro (InR.i64 (by omega) (by omega)) ?_; conv => whnf) | (refine And.intro (show _ ≠ (0 : Int) by omega) ?_; conv => whnf) | (refine WIx.intsN (by omega) ?_; conv => whnf) | (refine WIx.rowsN (by omega) ?_; conv => whnf) | (refine WCall.pure (cB (j + 1) hlt) ?_; conv => whnf) | (refine WCall.pure (cV (j + 1) hlt) ?_; conv => whnf)
      refine WSt.app_one (ds := (E.take (j + 1)).map fun n => D.i .i64 n) (r := [_]) rfl rfl rfl rfl rfl rfl (by simp; omega) rfl rfl (by omega) rfl ?_; conv => whnf
      repeat' first | ((with_reducible apply WB.tt); conv => whnf) | ((with_reducible apply WB.ff); conv => whnf) | (refine Rn.seq ?_; conv => whnf) | (refine Rn.reg ?_; conv => whnf) | (refine Rn.drw ?_; conv => whnf) | (refine Rn.blk ?_; conv => whnf) | (refine Rn.skip ?_; conv => whnf) | (refine Rn.ret ?_; conv => whnf) | (refine Rn.exit ?_; conv => whnf) | (refine Rn.cond rfl ?_; conv => whnf) | (refine And.intro (InR.i64 (by omega) (by omega)) ?_; conv => whnf) | (refine And.intro (show _ ≠ (0 : Int) by omega) ?_; conv => whnf) | (refine WIx.intsN (by omega) ?_; conv => whnf) | (refine WIx.rowsN (by omega) ?_; conv => whnf)
      refine Again.to (j + 2) (by omega) (by omega) (Nat.le_of_ble_eq_true rfl) ?_
      (refine Shr.of ?_ ?_ rfl rfl) <;> (repeat' first | exact Rel.e | refine Rel.some ?_ ?_ ?_ | refine Rel.none ?_ ?_) <;> (try first | (show Fz _ _ _ _; first | exact Fz.pu trivial | (refine Fz.i ?_; first | rfl | omega) | (refine Fz.kpt ?_; (focus (show Pos.nat _ < Pos.nat _; simp [Pos.nat]; done))) | (refine Fz.ksl ?_; (focus (show Pos.nat _ < Pos.nat _; simp [Pos.nat]; done))) | (refine Fz.kmp ?_; (focus (show Pos.nat _ < Pos.nat _; simp [Pos.nat]; done))) | (refine Fz.pu ?_; simp [Cell.d, Pu, PuL, PuE, pu_ints, pu_cnts, pu_tR]; done) | (refine Fz.pu ?_; simp only [Cell.d]; assumption)) | (refine RO'.of ?_ (ShC.same ?_); (focus (show Pos.nat _ < Pos.nat _; simp [Pos.nat]; done)); (repeat' first | exact ShC.nl | refine ShC.cn ?_ ?_) <;> first | exact Fz.pu trivial | (refine Fz.i ?_; first | rfl | omega) | (refine Fz.kpt ?_; (focus (show Pos.nat _ < Pos.nat _; simp [Pos.nat]; done))) | (refine Fz.ksl ?_; (focus (show Pos.nat _ < Pos.nat _; simp [Pos.nat]; done))) | (refine Fz.kmp ?_; (focus (show Pos.nat _ < Pos.nat _; simp [Pos.nat]; done))) | (refine Fz.pu ?_; simp [Cell.d, Pu, PuL, PuE, pu_ints, pu_cnts, pu_tR]; done) | (refine Fz.pu ?_; simp only [Cell.d]; assumption)))
      all_goals first | (refine Fz.pu ?_; simp [Cell.d, Pu, PuL, pt]; done) | skip
      refine RO'.of (show Pos.nat _ < Pos.nat _ by simp [Pos.nat]) ?_
      show ShC _ _ (.cells false ((((E.take (j + 1)).map fun n => D.i .i64 n).map fun d => Cell.o d j) ++ [_].map fun d => Cell.o d (j + 1)) (j + 1 + 1)) (.cells false (((E.take (j + 1 + 1)).map fun n => D.i .i64 n).map fun d => Cell.o d (j + 1)) (j + 1 + 1))
      rw [take_succ_getD (j := j + 1) (d := 0) (by omega), List.map_append]
      exact ShC.grown (by omega) (PuL_iff.2 fun d hd => by
        rcases List.mem_append.1 hd with hd | hd
        · exact PuL_iff.1 (puL_map_i _) d hd
        · simp at hd; subst hd; exact trivial)
    · repeat' first | ((with_reducible apply WB.tt); conv => whnf) | ((with_reducible apply WB.ff); conv => whnf) | (refine Rn.seq ?_; conv => whnf) | (refine Rn.reg ?_; conv => whnf) | (refine Rn.drw ?_; conv => whnf) | (refine Rn.blk ?_; conv => whnf) | (refine Rn.skip ?_; conv => whnf) | (refine Rn.ret ?_; conv => whnf) | (refine Rn.exit ?_; conv => whnf) | (refine Rn.cond rfl ?_; conv => whnf) | (refine And.intro (InR.i64 (by omega) (by omega)) ?_; conv => whnf) | (refine And.intro (show _ ≠ (0 : Int) by omega) ?_; conv => whnf) | (refine WIx.intsN (by omega) ?_; conv => whnf) | (refine WIx.rowsN (by omega) ?_; conv => whnf)
      refine Fin.t (.inr rfl) rfl ?_
      refine Frz.whole (cs := ((E.take (j + 1)).map fun n => D.i .i64 n).map fun d => Cell.o d j) (cur := j + 1) rfl (by rw [ints_length]; omega) (ints_one _) (by rw [ints_flatten, List.take_of_length_le (by omega)]) (pu_ints _)
end Go.Ev

namespace Go.Ev
open Go.Proofs
set_option maxRecDepth 100000
theorem sum_take_succ {α : Type} {l : List α} {h : α → Int} {j : Nat} {d : α} (hj : j < l.length) : ((l.take (j + 1)).map h).sum = ((l.take j).map h).sum + h (l.getD j d) := by
  rw [take_succ_getD (d := d) hj, List.map_append, List.sum_append]
  simp
theorem bits_sum : ∀ (L : List Int), Bits L → 0 ≤ L.sum ∧ L.sum ≤ L.length ∧ (L.sum = L.length ↔ ∀ x ∈ L, x = 1) ∧ (L.sum = 0 ↔ ∀ x ∈ L, x = 0)
  | [], _ => by simp
  | a :: L, h => by
    obtain ⟨h1, h2, h3, h4⟩ := bits_sum L fun x hx => h x (by simp [hx])
    have ha := h a (by simp)
    rw [List.sum_cons, List.length_cons]
    push_cast
    refine ⟨by omega, by omega, ⟨fun e x hx => ?_, fun e => ?_⟩, ⟨fun e x hx => ?_, fun e => ?_⟩⟩
    · rcases List.mem_cons.1 hx with rfl | hx
      · omega
      · exact h3.1 (by omega) x hx
    · have := h3.2 fun x hx => e x (by simp [hx])
      have := e a (by simp)
      omega
    · rcases List.mem_cons.1 hx with rfl | hx
      · omega
      · exact h4.1 (by omega) x hx
    · have := h4.2 fun x hx => e x (by simp [hx])
      have := e a (by simp)
      omega
theorem verd_eq {L : List Int} (hne : L ≠ []) (hb : Bits L) : verd (minL (L.getD 0 0) L) (maxL (L.getD 0 0) L) = verdR L.sum L.length := by
  obtain ⟨h1, h2, h3, h4⟩ := bits_sum L hb
  have hlen : 0 < L.length := List.length_pos_iff.2 hne
  have hm : L.getD 0 0 ∈ L := getD_mem hlen
  have e1 : minL (L.getD 0 0) L ∈ L := by
    rcases foldmin_mem (L := L) (a := L.getD 0 0) with h | h
    · unfold minL; rw [h]; exact hm
    · exact h
  have e2 : maxL (L.getD 0 0) L ∈ L := by
    rcases foldmax_mem (L := L) (a := L.getD 0 0) with h | h
    · unfold maxL; rw [h]; exact hm
    · exact h
  have e3 : ∀ x ∈ L, minL (L.getD 0 0) L ≤ x ∧ x ≤ maxL (L.getD 0 0) L := fun x hx => ⟨(foldmin_le L _).2 x hx, (foldmax_le L _).2 x hx⟩
  generalize minL (L.getD 0 0) L = m at *
  generalize maxL (L.getD 0 0) L = M at *
  unfold verd verdR
  by_cases a1 : ∀ x ∈ L, x = 1
  · rw [if_pos ⟨a1 _ e1, a1 _ e2⟩, if_pos (h3.2 a1)]
  · have n1 : ¬ L.sum = L.length := fun h => a1 (h3.1 h)
    by_cases a0 : ∀ x ∈ L, x = 0
    · have q1 := a0 _ e1
      have q2 := a0 _ e2
      rw [if_neg (by omega), if_pos ⟨q1, q2⟩, if_neg n1, if_pos (h4.2 a0)]
    · have n0 : ¬ L.sum = 0 := fun h => a0 (h4.1 h)
      rw [if_neg (fun h => a1 fun x hx => by have := e3 x hx; have := hb x hx; omega), if_neg (fun h => a0 fun x hx => by have := e3 x hx; have := hb x hx; omega), if_neg n1, if_neg n0]
def yesP (R : List (List Int)) (i : Nat) : Int := (R.map fun x => x.getD i 0).sum
def plL (l : List Int) (cs : List Cnt) (wr off : Int) : List Int := if sureE l cs wr off = 0 then (List.range l.length).map fun i => verdR (yesP (truR l cs wr off) i) (truR l cs wr off).length else []
theorem startE_whole (l : List Int) (cs : List Cnt) (wr off : Int) : startE l cs wr off 0 ((l.length : Int) - 1) = sureE l cs wr off := by
  by_cases hF : faultR l cs wr off = 0
  · obtain ⟨f1, f2, f3, f4⟩ := fault0 hF
    rw [startE_in hF (by omega) (by omega) (by omega)]
    unfold sureE
    rw [if_pos hF]
  · unfold startE sureE
    rw [if_neg hF, if_neg hF]
theorem sureE0 {l : List Int} {cs : List Cnt} {wr off : Int} (h : sureE l cs wr off = 0) : faultR l cs wr off = 0 ∧ truR l cs wr off ≠ [] := by
  unfold sureE at h
  split at h
  · rename_i hF
    split at h
    · cases h
    · rename_i h0
      exact ⟨hF, h0⟩
  · rename_i hF; exact absurd h hF
theorem chG_at (i : Nat) (hi : i < 9) (c : Nat → Int) : chG (i : Int) (i : Int) c = c i := by
  unfold chG sumP
  rw [show ((i : Int) + 1 - i).toNat = 1 by omega, Int.toNat_natCast]
  rcases nine hi with rfl | rfl | rfl | rfl | rfl | rfl | rfl | rfl | rfl <;> simp [lst9]
theorem take_at {n i : Nat} (hn : n ≤ 9) (hi : i < n) (c : Nat → Int) : ((lst9 c).take n).getD i 0 = c i := by
  rw [List.getD_eq_getElem?_getD, List.getElem?_take_of_lt hi]
  rcases nine (show i < 9 by omega) with rfl | rfl | rfl | rfl | rfl | rfl | rfl | rfl | rfl <;> simp [lst9]
theorem c_Places (l : List Int) (cs : List Cnt) (wr off : Int) (hl : l.length ≤ 1000) : PureF Try.prog p35.ix [.ag [.lst 1 (ints l), .lst 3 (rows cntD cs), .i .i64 wr, .i .i64 off]] (.tp [.lst 1 (ints (plL l cs wr off)), .i .i64 (sureE l cs wr off)]) := by
  have e1 := ints_length l
  have cW := c_whole l cs wr off (by omega)
  have C := c_start l cs wr off 0 ((l.length : Int) - 1)
  rw [startE_whole] at C
  by_cases hE : sureE l cs wr off = 0
  · obtain ⟨hF, hT⟩ := sureE0 hE
    obtain ⟨f1, f2, f3, f4⟩ := fault0 hF
    have tl := truthsF_len l cs wr off f2
    have hTF : truthsF l cs wr off ≠ [] := fun h => hT ((truths_nil f2).2 h)
    rw [show startW l cs wr off 0 ((l.length : Int) - 1) = [.lst 1 (ints l), .lst 3 (rows cntD cs), .i .i64 wr, .i .i64 off, tl9 (truthsF l cs wr off)] by unfold startW; rw [startE_whole, if_pos hE], hE] at C
    have cV := c_verdicts l cs wr off (truthsF l cs wr off) (List.length_pos_iff.2 hTF) (by omega) p76 l.length (by omega) (fun i c => chG (i : Int) (i : Int) c) (fun i hi c hc => c_chairsOf l cs wr off (i : Int) (i : Int) _ (pu_tl9 _) (by omega) (by omega) (by omega) c (truthsF_bit hc)) (fun i hi c hc => by rw [chG_at i (by omega)]; have := truthsF_bit hc i; omega)
    have hv : ((List.range l.length).map fun (i : Nat) => verd (minL (((truthsF l cs wr off).map (fun c => chG (i : Int) (i : Int) c)).getD 0 0) ((truthsF l cs wr off).map (fun c => chG (i : Int) (i : Int) c))) (maxL (((truthsF l cs wr off).map (fun c => chG (i : Int) (i : Int) c)).getD 0 0) ((truthsF l cs wr off).map (fun c => chG (i : Int) (i : Int) c)))) = plL l cs wr off := by
      unfold plL
      rw [if_pos hE]
      refine List.map_congr_left fun i hi => ?_
      have hi := List.mem_range.1 hi
      have hq : (truthsF l cs wr off).map (fun c => chG (i : Int) (i : Int) c) = (truR l cs wr off).map fun x => x.getD i 0 := by
        rw [truR_eq l cs wr off f2, List.map_map]
        refine List.map_congr_left fun c _ => ?_
        show chG _ _ c = ((lst9 c).take l.length).getD i 0
        rw [chG_at i (by omega), take_at f2 hi]
      rw [hq, verd_eq (by simpa using hT) (fun x hx => by
        obtain ⟨y, hy, rfl⟩ := List.mem_map.1 hx
        obtain ⟨q1, q2⟩ := truR_mem y hy
        exact q2 _ (getD_mem (by omega)))]
      unfold yesP
      rw [List.length_map]
    rw [hv] at cV
    rw [hE]
    refine PureF.run fn34 (by simp) (by simp [PuL, PuE, Pu, pu_ints, pu_cnts]) ?_; conv => whnf
    rw [← e1] at cV
    repeat' first | ((with_reducible apply WB.tt); conv => whnf) | ((with_reducible apply WB.ff); conv => whnf) | (refine Rn.seq ?_; conv => whnf) | (refine Rn.reg ?_; conv => whnf) | (refine Rn.drw ?_; conv => whnf) | (refine Rn.blk ?_; conv => whnf) | (refine Rn.skip ?_; conv => whnf) | (refine Rn.ret ?_; conv => whnf) | (refine Rn.exit ?_; conv => whnf) | (refine Rn.cond rfl ?_; conv => whnf) | (refine And.intro (InR.i64 (by omega) (by omega)) ?_; conv => whnf) | (refine And.intro (show _ ≠ (0 : Int) by omega) ?_; conv => whnf) | (refine WIx.intsN (by omega) ?_; conv => whnf) | (refine WIx.rowsN (by omega) ?_; conv => whnf) | (refine WCall.pure (cW) ?_; conv => whnf) | (refine WCall.pure (C) ?_; conv => whnf) | (refine WCall.pure (cV) ?_; conv => whnf) | ((with_reducible refine WB.decT (by first | with_reducible rfl | assumption | omega | exact ⟨rfl, rfl⟩) ?_); conv => whnf) | ((with_reducible refine WB.decF (by first | assumption | omega) ?_); conv => whnf) | ((with_reducible refine WB.ndT (by first | with_reducible rfl | assumption | omega | exact ⟨rfl, rfl⟩) ?_); conv => whnf) | ((with_reducible refine WB.ndF (by first | assumption | omega) ?_); conv => whnf) | ((with_reducible refine WB.nt ?_); conv => whnf) | ((with_reducible refine WB.nf ?_); conv => whnf) | ((with_reducible refine WB.dec (fun h => ?_) (fun h => ?_)) <;> conv => whnf) | ((with_reducible refine WB.ndec (fun h => ?_) (fun h => ?_)) <;> conv => whnf) | (refine WB.mk (fun h => ?_) (fun h => ?_) <;> conv => whnf)
    exact Fin.two (.inr rfl) rfl rfl (.pu (pu_ints _)) (.pu trivial)
  · rw [show startW l cs wr off 0 ((l.length : Int) - 1) = [.ns, .ns, .i .i64 0, .i .i64 0, .ns] by unfold startW; rw [startE_whole, if_neg hE]] at C
    unfold plL
    rw [if_neg hE]
    refine PureF.run fn34 (by simp) (by simp [PuL, PuE, Pu, pu_ints, pu_cnts]) ?_; conv => whnf
    repeat' first | ((with_reducible apply WB.tt); conv => whnf) | ((with_reducible apply WB.ff); conv => whnf) | (refine Rn.seq ?_; conv => whnf) | (refine Rn.reg ?_; conv => whnf) | (refine Rn.drw ?_; conv => whnf) | (refine Rn.blk ?_; conv => whnf) | (refine Rn.skip ?_; conv => whnf) | (refine Rn.ret ?_; conv => whnf) | (refine Rn.exit ?_; conv => whnf) | (refine Rn.cond rfl ?_; conv => whnf) | (refine And.intro (InR.i64 (by omega) (by omega)) ?_; conv => whnf) | (refine And.intro (show _ ≠ (0 : Int) by omega) ?_; conv => whnf) | (refine WIx.intsN (by omega) ?_; conv => whnf) | (refine WIx.rowsN (by omega) ?_; conv => whnf) | (refine WCall.pure (cW) ?_; conv => whnf) | (refine WCall.pure (C) ?_; conv => whnf) | ((with_reducible refine WB.decT (by first | with_reducible rfl | assumption | omega | exact ⟨rfl, rfl⟩) ?_); conv => whnf) | ((with_reducible refine WB.decF (by first | assumption | omega) ?_); conv => whnf) | ((with_reducible refine WB.ndT (by first | with_reducible rfl | assumption | omega | exact ⟨rfl, rfl⟩) ?_); conv => whnf) | ((with_reducible refine WB.ndF (by first | assumption | omega) ?_); conv => whnf) | ((with_reducible refine WB.nt ?_); conv => whnf) | ((with_reducible refine WB.nf ?_); conv => whnf) | ((with_reducible refine WB.dec (fun h => ?_) (fun h => ?_)) <;> conv => whnf) | ((with_reducible refine WB.ndec (fun h => ?_) (fun h => ?_)) <;> conv => whnf) | (refine WB.mk (fun h => ?_) (fun h => ?_) <;> conv => whnf)
    exact Fin.two (.inr rfl) rfl rfl .ns (.pu trivial)
end Go.Ev
