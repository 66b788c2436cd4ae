import Derived.Test.YtmlpgfmbhpefmaaEvKv
set_option linter.all false
namespace Go.Ev
open Go.Proofs
set_option maxRecDepth 100000
/-! ### a function whose answer is told by a property -/
structure FinX (rs : List RR) (Φ : D → Prop) (e : Ex) (z : X) : Prop where
  ok : ∃ v, Φ v ∧ Fin rs v e z
theorem PureF.runE {P : Program} {f nt : Nat} {rc : RC} {rs : List RR} {ds : List D} {Φ : D → Prop} (F : FnOk P f nt rc rs) (hlen : ds.length ≤ nt) (hp : PuL ds) (h : argsP ds .h .e fun sl => Rn P nt rc ⟨sl, .e, .h, none⟩ (FinX rs Φ)) : ∃ v, Φ v ∧ PureF P f ds v := by
  obtain ⟨fn, c, hf, hb, hc, hr, hname, h6⟩ := F.ok
  subst h6
  obtain ⟨sl0, h, hsl⟩ := argsP_ok h
  obtain ⟨e, ⟨sl, ob1, nx1, lg1⟩, X1, FE⟩ := h.ok c hc
  obtain ⟨v, hΦ, F⟩ := FE.ok
  obtain ⟨u, h1, h2⟩ := F.hr
  obtain ⟨v', ob', nx', lg', h3, C⟩ := body_ok (k := fun v ob nx lg => some ⟨T.set .h v .e, ob, nx, lg⟩) hf hb hr hname hlen hsl F.he X1 h1
  have h3 := Option.some.inj h3
  have e1 := congrArg (fun t => T.get t .h) (X.mk.inj h3).1
  simp only [T.get_set_same, Option.some.injEq] at e1
  have e2 := (X.mk.inj h3).2.1
  have e3 : ob' = ob1 := e2
  subst e1
  subst e3
  exact ⟨v, hΦ, C.shut hp h2⟩
/-! ### word -/
def wordR (ws : List Int) (j : Int) : Int := if ws.length = 0 then 0 else ws.getD (j.tmod (ws.length : Int)).toNat default
theorem numsK_length (k : IntKind) (l : List Int) : (numsK k l).length = l.length := by simp [numsK]
theorem pu_numsK (k : IntKind) (l : List Int) : PuE (numsK k l) := PuE_iff.2 fun r hr => by
  obtain ⟨n, _, rfl⟩ := List.mem_map.1 hr
  simp [PuL, Pu]
theorem wordR_bd {ws : List Int} {j : Int} (hj : 0 ≤ j) (h : ∀ n ∈ ws, 0 ≤ n ∧ n ≤ 65535) : 0 ≤ wordR ws j ∧ wordR ws j ≤ 65535 := by
  unfold wordR
  split
  · omega
  · have h1 := Int.tmod_nonneg (ws.length : Int) hj
    have h2 := Int.tmod_lt_of_pos j (show (0 : Int) < ws.length by omega)
    exact h _ (getD_mem (by omega))
theorem c_word (ws : List Int) (j : Int) (hj : 0 ≤ j) (h : ∀ n ∈ ws, 0 ≤ n ∧ n ≤ 65535) : PureF Try.prog p88.ix [.lst 1 (numsK .u16 ws), .i .i64 j] (.i .i64 (wordR ws j)) := by
  have e1 := numsK_length .u16 ws
  have hb := wordR_bd hj h
  refine PureF.run fn87 (by simp) (by simp [PuL, PuE, Pu, pu_numsK]) ?_; conv => whnf
  repeat' first | ((with_reducible apply WB.tt); conv => whnf) | ((with_reducible apply WB.ff); conv => whnf) | (refine Rn.seq ?_; conv => whnf) | (refine Rn.reg ?_; conv => whnf) | (refine Rn.drw ?_; conv => whnf) | (refine Rn.blk ?_; conv => whnf) | (refine Rn.skip ?_; conv => whnf) | (refine Rn.ret ?_; conv => whnf) | (refine Rn.exit ?_; conv => whnf) | (refine Rn.cond rfl ?_; conv => whnf) | (refine And.intro (InR.i64 (by omega) (by omega)) ?_; conv => whnf) | (refine And.intro (show _ ≠ (0 : Int) by omega) ?_; conv => whnf) | (refine WIx.intsN (by omega) ?_; conv => whnf) | (refine WIx.rowsN (by omega) ?_; conv => whnf)
  refine WB.dec (fun h => ?_) (fun h => ?_) <;> conv => whnf
  · repeat' first | ((with_reducible apply WB.tt); conv => whnf) | ((with_reducible apply WB.ff); conv => whnf) | (refine Rn.seq ?_; conv => whnf) | (refine Rn.reg ?_; conv => whnf) | (refine Rn.drw ?_; conv => whnf) | (refine Rn.blk ?_; conv => whnf) | (refine Rn.skip ?_; conv => whnf) | (refine Rn.ret ?_; conv => whnf) | (refine Rn.exit ?_; conv => whnf) | (refine Rn.cond rfl ?_; conv => whnf) | (refine And.intro (InR.i64 (by omega) (by omega)) ?_; conv => whnf) | (refine And.intro (show _ ≠ (0 : Int) by omega) ?_; conv => whnf) | (refine WIx.intsN (by omega) ?_; conv => whnf) | (refine WIx.rowsN (by omega) ?_; conv => whnf)
    exact Fin.i rfl (by unfold wordR; rw [if_pos (by omega)])
  · have hne : ¬ ws.length = 0 := by omega
    have h1 := Int.tmod_nonneg (((numsK .u16 ws).length : Nat) : Int) hj
    have h2 := Int.tmod_lt_of_pos j (show (0 : Int) < ((numsK .u16 ws).length : Nat) by omega)
    have hv : wordR ws j = ws.getD (j.tmod (((numsK .u16 ws).length : Nat) : Int)).toNat default := by unfold wordR; rw [if_neg hne, e1]
    rw [hv] at hb
    repeat' first | ((with_reducible apply WB.tt); conv => whnf) | ((with_reducible apply WB.ff); conv => whnf) | (refine Rn.seq ?_; conv => whnf) | (refine Rn.reg ?_; conv => whnf) | (refine Rn.drw ?_; conv => whnf) | (refine Rn.blk ?_; conv => whnf) | (refine Rn.skip ?_; conv => whnf) | (refine Rn.ret ?_; conv => whnf) | (refine Rn.exit ?_; conv => whnf) | (refine Rn.cond rfl ?_; conv => whnf) | (refine And.intro (InR.i64 (by omega) (by omega)) ?_; conv => whnf) | (refine And.intro (show _ ≠ (0 : Int) by omega) ?_; conv => whnf) | (refine WIx.intsN (by omega) ?_; conv => whnf) | (refine WIx.rowsN (by omega) ?_; conv => whnf)
    refine WIx.map (f := fun n => [D.i .u16 n]) h1 (by omega) ?_; conv => whnf
    repeat' first | ((with_reducible apply WB.tt); conv => whnf) | ((with_reducible apply WB.ff); conv => whnf) | (refine Rn.seq ?_; conv => whnf) | (refine Rn.reg ?_; conv => whnf) | (refine Rn.drw ?_; conv => whnf) | (refine Rn.blk ?_; conv => whnf) | (refine Rn.skip ?_; conv => whnf) | (refine Rn.ret ?_; conv => whnf) | (refine Rn.exit ?_; conv => whnf) | (refine Rn.cond rfl ?_; conv => whnf) | (refine And.intro (InR.i64 (by omega) (by omega)) ?_; conv => whnf) | (refine And.intro (show _ ≠ (0 : Int) by omega) ?_; conv => whnf) | (refine WIx.intsN (by omega) ?_; conv => whnf) | (refine WIx.rowsN (by omega) ?_; conv => whnf)
    exact Fin.i rfl hv.symm
theorem quo_bd {w k : Int} (h0 : 0 ≤ w) (h1 : w ≤ 65535) (hk : 0 < k) : 0 ≤ w.tdiv k ∧ w.tdiv k ≤ 65535 := by
  rw [Int.tdiv_eq_ediv_of_nonneg h0]
  exact ⟨Int.ediv_nonneg h0 (by omega), Int.le_trans (Int.ediv_le_self _ h0) h1⟩
/-! ### Counted -/
def sx6 : Pos := .o (.i .h)
def slc : List Cnt → D
  | [] => .ns
  | _ :: s => .sl sx6 0 (s.length + 1) s.length 3
def blc : List Cnt → Option C
  | [] => none
  | c :: s => some (.cells false ((rows cntD (c :: s)).flatten.map fun d => Cell.o d s.length) (s.length + 1))
def nxc : List Cnt → Pos
  | [] => .o (.o .h)
  | _ :: _ => .i (.i .h)
def ctO (l : List Int) (cs0 : List Cnt) (wr off : Int) (cs : List Cnt) : T C := .n (.n .e (some (.cells false [.o .ns 0, .o .ns 0, .o (.i .i64 0) 0, .o (.i .i64 0) 0] 1)) (.n .e (blc cs) .e)) (some (rowC l cs0 wr off)) (.n .e (some (.cells false [.o (.lst 1 (ints l)) 0, .o (slc cs) 0, .o (.i .i64 wr) 0, .o (.i .i64 off) 0] 1)) .e)
def ctS (l : List Int) (cs0 : List Cnt) (wr off : Int) (ws t : List Int) (j : Nat) (cs : List Cnt) (left : Int) : X := ⟨(.n (.n (.n .e (some (.pt .h 0 0)) (.n .e (some (.i .i64 left)) .e)) none (.n (.n .e (some (.lst 1 (ints t))) .e) none .e)) none (.n (.n .e none (.n .e (some (.i .i64 (j : Int))) .e)) (some (.lst 1 (numsK .u16 ws))) (.n (.n .e (some (.pt (.i .h) 0 0)) .e) (some (.pt (.o .h) 0 0)) .e))), ctO l cs0 wr off cs, nxc cs, none⟩
structure CtI (t : List Int) (wr off : Int) (s : Nat × List Cnt × Int) : Prop where
  len : s.2.1.length = s.1
  six : s.1 ≤ 6
  cnt : ∀ c ∈ s.2.1, cntIn t.length c ∧ ec t c ≤ off
  left : 0 ≤ s.2.2
  wrong : (s.2.1.countP (fun c => decide (0 < ec t c)) : Int) + s.2.2 ≤ wr
theorem CtI.step {t : List Int} {wr off left left' : Int} {j : Nat} {cs : List Cnt} {c : Cnt} (h : CtI t wr off (j, cs, left)) (hj : j < 6) (hc : cntIn t.length c) (ho : 0 ≤ off) (he : -off ≤ errN t c.back c.many - c.number ∧ errN t c.back c.many - c.number ≤ off) (hl : (c.number = errN t c.back c.many ∧ left' = left) ∨ (0 < left ∧ left' = left - 1)) : CtI t wr off (j + 1, cs ++ [c], left') := by
  obtain ⟨h1, h2, h3, h4, h5⟩ := h
  have hec : ec t c ≤ off := by unfold ec errR; omega
  simp only at h1 h2 h3 h4 h5
  refine ⟨by simp [h1], by show j + 1 ≤ 6; omega, fun x hx => ?_, by show 0 ≤ left'; omega, ?_⟩
  · rcases List.mem_append.1 hx with hx | hx
    · exact h3 x hx
    · rw [List.mem_singleton.1 hx]; exact ⟨hc, hec⟩
  · show ((cs ++ [c]).countP (fun c => decide (0 < ec t c)) : Int) + left' ≤ wr
    rw [List.countP_append]
    rcases hl with ⟨q1, q2⟩ | ⟨q1, q2⟩
    · have : ec t c = 0 := by unfold ec errR; omega
      have e : [c].countP (fun c => decide (0 < ec t c)) = 0 := by simp [this]
      rw [e]; omega
    · have e : [c].countP (fun c => decide (0 < ec t c)) ≤ 1 := Nat.le_trans List.countP_le_length (by simp)
      omega
theorem inB_spec {n a b : Int} (h : inB n a b = true) : a ≤ n ∧ n ≤ b := by unfold inB at h; exact of_decide_eq_true h
theorem inB_with {n a b : Int} {Q : Prop} (h : inB n a b = true) (k : a ≤ n → n ≤ b → Q) : Q := k (inB_spec h).1 (inB_spec h).2
theorem rows_snc (cs : List Cnt) (c : Cnt) : (rows cntD (cs ++ [c])).flatten = (rows cntD cs).flatten ++ cntD c := by simp [rows]
theorem slc_snoc (a : Cnt) (s : List Cnt) (c : Cnt) : slc (a :: (s ++ [c])) = .sl sx6 0 (s.length + 1 + 1) (s.length + 1) 3 := by simp [slc]
theorem blc_snoc (a : Cnt) (s : List Cnt) (c : Cnt) : blc (a :: (s ++ [c])) = some (.cells false (((rows cntD (a :: s)).flatten ++ cntD c).map fun d => Cell.o d (s.length + 1)) (s.length + 1 + 1)) := by
  have : blc (a :: (s ++ [c])) = some (.cells false ((rows cntD ((a :: s) ++ [c])).flatten.map fun d => Cell.o d (s ++ [c]).length) ((s ++ [c]).length + 1)) := rfl
  rw [this, rows_snc, List.length_append]
  rfl
theorem rows_flat_len (cs : List Cnt) : (rows cntD cs).flatten.length = cs.length * 3 := by
  have := cells3_length cs (Nat.le_refl _)
  unfold cells3 at this
  rwa [List.take_length] at this
theorem pu_flat (cs : List Cnt) : PuL (rows cntD cs).flatten := by
  have := pu_cells3 cs cs.length
  unfold cells3 at this
  rwa [List.take_length] at this
set_option maxHeartbeats 4000000 in
theorem c_Counted (l : List Int) (cs0 : List Cnt) (wr off : Int) (w0 : Int) (ws : List Int) (hF : faultR l cs0 wr off = 0) (hw0 : 0 ≤ w0 ∧ w0 ≤ 65535) (hws : ∀ n ∈ ws, 0 ≤ n ∧ n ≤ 65535) :
    ∃ v, (∃ (cs : List Cnt) (t : List Int) (left : Int), v = .tp [.ag [.lst 1 (ints l), .lst 3 (rows cntD cs), .i .i64 wr, .i .i64 off], .lst 1 (ints t)] ∧ t ∈ allR l ∧ CtI t wr off (cs.length, cs, left)) ∧ PureF Try.prog p52.ix [.ag [.lst 1 (ints l), .lst 3 (rows cntD cs0), .i .i64 wr, .i .i64 off], .i .u16 w0, .lst 1 (numsK .u16 ws)] v := by
  obtain ⟨f1, f2, f3, f4⟩ := fault0 hF
  obtain ⟨f5, wr1, wr2, o1, o2⟩ := fault2 hF
  have e1 := ints_length l
  have cA := c_All l cs0 wr off f2
  have hal := allR_len l f2
  have hne := allR_ne f5
  have hpos : 0 < (allR l).length := List.length_pos_iff.2 hne
  have e2 := rows_length tD (allR l)
  have m1 := Int.tmod_nonneg (((rows tD (allR l)).length : Nat) : Int) hw0.1
  have m2 := Int.tmod_lt_of_pos w0 (show (0 : Int) < ((rows tD (allR l)).length : Nat) by omega)
  obtain ⟨i, hi⟩ : ∃ i : Nat, w0.tmod (((rows tD (allR l)).length : Nat) : Int) = i := ⟨(w0.tmod (((rows tD (allR l)).length : Nat) : Int)).toNat, by omega⟩
  have hil : i < (allR l).length := by omega
  have htm : (allR l).getD i default ∈ allR l := getD_mem hil
  obtain ⟨g1, g2⟩ := truth_bits (allR_truth l _ htm)
  refine PureF.runE fn51 (by simp) (by simp [PuL, PuE, Pu, pu_ints, pu_cnts, pu_numsK]) ?_; conv => whnf
  repeat' first | ((with_reducible apply WB.tt); conv => whnf) | ((with_reducible apply WB.ff); conv => whnf) | (refine Rn.seq ?_; conv => whnf) | (refine Rn.reg ?_; conv => whnf) | (refine Rn.drw ?_; conv => whnf) | (refine Rn.blk ?_; conv => whnf) | (refine Rn.skip ?_; conv => whnf) | (refine Rn.ret ?_; conv => whnf) | (refine Rn.exit ?_; conv => whnf) | (refine Rn.cond rfl ?_; conv => whnf) | (refine And.intro (InR.i64 (by omega) (by omega)) ?_; conv => whnf) | (refine And.intro (show _ ≠ (0 : Int) by omega) ?_; conv => whnf) | (refine WIx.intsN (by omega) ?_; conv => whnf) | (refine WIx.rowsN (by omega) ?_; conv => whnf) | (refine WCall.pure (cA) ?_; conv => whnf)
  rw [hi]
  refine WIx.rowsN hil ?_; conv => whnf
  generalize (allR l).getD i default = t at *
  have e3 := ints_length t
  repeat' first | ((with_reducible apply WB.tt); conv => whnf) | ((with_reducible apply WB.ff); conv => whnf) | (refine Rn.seq ?_; conv => whnf) | (refine Rn.reg ?_; conv => whnf) | (refine Rn.drw ?_; conv => whnf) | (refine Rn.blk ?_; conv => whnf) | (refine Rn.skip ?_; conv => whnf) | (refine Rn.ret ?_; conv => whnf) | (refine Rn.exit ?_; conv => whnf) | (refine Rn.cond rfl ?_; conv => whnf) | (refine And.intro (InR.i64 (by omega) (by omega)) ?_; conv => whnf) | (refine And.intro (show _ ≠ (0 : Int) by omega) ?_; conv => whnf) | (refine WIx.intsN (by omega) ?_; conv => whnf) | (refine WIx.rowsN (by omega) ?_; conv => whnf)
  have b7 := wordR_bd (ws := ws) (j := 0) (by omega) hws
  have cW0 := c_word ws 0 (by omega) hws
  have m7 := Int.tmod_nonneg (7 : Int) b7.1
  have m8 := Int.tmod_lt_of_pos (wordR ws 0) (show (0 : Int) < 7 by omega)
  generalize wordR ws 0 = q at *
  refine Rn.loop (fun s : Nat × List Cnt × Int => match s with | (j, cs, left) => ctS l cs0 wr off ws t j cs left) (fun s => CtI t wr off s ∧ (s.1 : Int) ≤ q.tmod 7) (fun s => 7 - s.1) (0, [], wr) ?_ ?_ ?_
  · refine X.le.mk ?_ ?_ (Nat.le_of_ble_eq_true rfl) rfl rfl
    · show T.le ((.n (.n (.n .e (some (.pt .h 0 0)) (.n .e (some (.i .i64 wr)) .e)) none (.n (.n .e (some (.lst 1 (ints t))) .e) none .e)) none (.n (.n .e none (.n .e (some (.i .i64 (0 : Int))) .e)) (some (.lst 1 (numsK .u16 ws))) (.n (.n .e (some (.pt (.i .h) 0 0)) .e) (some (.pt (.o .h) 0 0)) .e))) : T D) _
      (repeat' first | exact T.le_e _ | refine T.le_some ?_ rfl ?_ | refine T.le_none ?_ ?_)
    · show T.le (T.n (.n .e (some (.cells false [.o .ns 0, .o .ns 0, .o (.i .i64 0) 0, .o (.i .i64 0) 0] 1)) (.n .e none .e)) (some (rowC l cs0 wr off)) (.n .e (some (.cells false [.o (.lst 1 (ints l)) 0, .o .ns 0, .o (.i .i64 wr) 0, .o (.i .i64 off) 0] 1)) .e)) _
      (repeat' first | exact T.le_e _ | refine T.le_some ?_ rfl ?_ | refine T.le_none ?_ ?_ | refine T.le_ee ?_ ?_)
  · exact ⟨⟨rfl, by show 0 ≤ 6; omega, (fun c hc => by cases hc), wr1, by show ((0 : Nat) : Int) + wr ≤ wr; omega⟩, m7⟩
  rintro ⟨j, cs, left⟩ ⟨hI, hjm⟩
  have hjm : (j : Int) ≤ q.tmod 7 := hjm
  have hlen : cs.length = j := hI.len
  have hj6 : j ≤ 6 := hI.six
  have hleft : 0 ≤ left := hI.left
  have hwrong : (cs.countP (fun c => decide (0 < ec t c)) : Int) + left ≤ wr := hI.wrong
  conv => whnf
  repeat' first | ((with_reducible apply WB.tt); conv => whnf) | ((with_reducible apply WB.ff); conv => whnf) | (refine Rn.seq ?_; conv => whnf) | (refine Rn.reg ?_; conv => whnf) | (refine Rn.drw ?_; conv => whnf) | (refine Rn.blk ?_; conv => whnf) | (refine Rn.skip ?_; conv => whnf) | (refine Rn.ret ?_; conv => whnf) | (refine Rn.exit ?_; conv => whnf) | (refine Rn.cond rfl ?_; conv => whnf) | (refine And.intro (InR.i64 (by omega) (by omega)) ?_; conv => whnf) | (refine And.intro (show _ ≠ (0 : Int) by omega) ?_; conv => whnf) | (refine WIx.intsN (by omega) ?_; conv => whnf) | (refine WIx.rowsN (by omega) ?_; conv => whnf) | (refine WCall.pure (cW0) ?_; conv => whnf)
  refine WB.dec (fun h => ?_) (fun h => ?_) <;> conv => whnf
  · have hlt : (j : Int) < q.tmod 7 := by assumption
    have bw := wordR_bd (ws := ws) (j := (j : Int) + 1) (by omega) hws
    have cW := c_word ws ((j : Int) + 1) (by omega) hws
    generalize wordR ws ((j : Int) + 1) = w at *
    have v1 := quo_bd bw.1 bw.2 (show (0 : Int) < 2 by omega)
    have v2 := quo_bd bw.1 bw.2 (show (0 : Int) < 32 by omega)
    have v3 := quo_bd bw.1 bw.2 (show (0 : Int) < 1024 by omega)
    have k1 := Int.tmod_nonneg (((ints t).length : Int) + 1) v1.1
    have k2 := Int.tmod_lt_of_pos (w.tdiv 2) (show (0 : Int) < ((ints t).length : Int) + 1 by omega)
    have k3 := Int.tmod_nonneg (2 * off + 1) v2.1
    have k4 := Int.tmod_lt_of_pos (w.tdiv 32) (show (0 : Int) < 2 * off + 1 by omega)
    have cS1 := c_Sum t 0 0 (((w.tdiv 2).tmod (((ints t).length : Int) + 1)) - 1) rfl g2 (by omega) (by omega) (by omega) ((w.tdiv 2).tmod (((ints t).length : Int) + 1)).toNat (by omega)
    have cS2 := c_Sum t (t.length - ((w.tdiv 2).tmod (((ints t).length : Int) + 1)).toNat) (((ints t).length : Int) - ((w.tdiv 2).tmod (((ints t).length : Int) + 1))) (((ints t).length : Int) - 1) (by omega) g2 (by omega) (by omega) (by omega) ((w.tdiv 2).tmod (((ints t).length : Int) + 1)).toNat (by omega)
    have hb0 := sumP_bd g2 0 ((w.tdiv 2).tmod (((ints t).length : Int) + 1)).toNat (by omega)
    have hb1 := sumP_bd g2 (t.length - ((w.tdiv 2).tmod (((ints t).length : Int) + 1)).toNat) ((w.tdiv 2).tmod (((ints t).length : Int) + 1)).toNat (by omega)
    have hnn : errN t (decide (w.tmod 2 = 1)) ((w.tdiv 2).tmod (((ints t).length : Int) + 1)) = if w.tmod 2 = 1 then sumP t (t.length - ((w.tdiv 2).tmod (((ints t).length : Int) + 1)).toNat) ((w.tdiv 2).tmod (((ints t).length : Int) + 1)).toNat else sumP t 0 ((w.tdiv 2).tmod (((ints t).length : Int) + 1)).toNat := by unfold errN; simp only [decide_eq_true_eq]
    by_cases hbk : w.tmod 2 = 1
    · rw [if_pos hbk] at hnn
      cases cs with
      | nil =>
        repeat' first | ((with_reducible apply WB.tt); conv => whnf) | ((with_reducible apply WB.ff); conv => whnf) | (refine Rn.seq ?_; conv => whnf) | (refine Rn.reg ?_; conv => whnf) | (refine Rn.drw ?_; conv => whnf) | (refine Rn.blk ?_; conv => whnf) | (refine Rn.skip ?_; conv => whnf) | (refine Rn.ret ?_; conv => whnf) | (refine Rn.exit ?_; conv => whnf) | (refine Rn.cond rfl ?_; conv => whnf) | (refine And.intro (InR.i64 (by omega) (by omega)) ?_; conv => whnf) | (refine And.intro (show _ ≠ (0 : Int) by omega) ?_; conv => whnf) | (refine WIx.intsN (by omega) ?_; conv => whnf) | (refine WIx.rowsN (by omega) ?_; conv => whnf) | (refine WCall.pure (cW) ?_; conv => whnf) | (refine WCall.pure (cS1) ?_; conv => whnf) | (refine WCall.pure (cS2) ?_; conv => whnf) | (refine WCall.pure (c_In _ _ _) ?_; conv => whnf) | ((with_reducible refine WB.decT (by first | with_reducible rfl | assumption | omega | exact ⟨rfl, rfl⟩) ?_); conv => whnf) | ((with_reducible refine WB.decF (by first | assumption | omega) ?_); conv => whnf) | ((with_reducible refine WB.ndT (by first | with_reducible rfl | assumption | omega | exact ⟨rfl, rfl⟩) ?_); conv => whnf) | ((with_reducible refine WB.ndF (by first | assumption | omega) ?_); conv => whnf) | ((with_reducible refine WB.nt ?_); conv => whnf) | ((with_reducible refine WB.nf ?_); conv => whnf) | ((with_reducible refine WB.dec (fun h => ?_) (fun h => ?_)) <;> conv => whnf) | ((with_reducible refine WB.ndec (fun h => ?_) (fun h => ?_)) <;> conv => whnf) | (refine WB.mk (fun h => ?_) (fun h => ?_) <;> conv => whnf)
        all_goals
          refine WSt.app_first (r := [_, _, _]) rfl (.inl rfl) rfl rfl rfl rfl ?_; conv => whnf
          repeat' first | ((with_reducible apply WB.tt); conv => whnf) | ((with_reducible apply WB.ff); conv => whnf) | (refine Rn.seq ?_; conv => whnf) | (refine Rn.reg ?_; conv => whnf) | (refine Rn.drw ?_; conv => whnf) | (refine Rn.blk ?_; conv => whnf) | (refine Rn.skip ?_; conv => whnf) | (refine Rn.ret ?_; conv => whnf) | (refine Rn.exit ?_; conv => whnf) | (refine Rn.cond rfl ?_; conv => whnf) | (refine And.intro (InR.i64 (by omega) (by omega)) ?_; conv => whnf) | (refine And.intro (show _ ≠ (0 : Int) by omega) ?_; conv => whnf) | (refine WIx.intsN (by omega) ?_; conv => whnf) | (refine WIx.rowsN (by omega) ?_; conv => whnf) | ((with_reducible refine WB.decT (by first | with_reducible rfl | assumption | omega | exact ⟨rfl, rfl⟩) ?_); conv => whnf) | ((with_reducible refine WB.decF (by first | assumption | omega) ?_); conv => whnf) | ((with_reducible refine WB.ndT (by first | with_reducible rfl | assumption | omega | exact ⟨rfl, rfl⟩) ?_); conv => whnf) | ((with_reducible refine WB.ndF (by first | assumption | omega) ?_); conv => whnf) | ((with_reducible refine WB.nt ?_); conv => whnf) | ((with_reducible refine WB.nf ?_); conv => whnf) | ((with_reducible refine WB.dec (fun h => ?_) (fun h => ?_)) <;> conv => whnf) | ((with_reducible refine WB.ndec (fun h => ?_) (fun h => ?_)) <;> conv => whnf) | (refine WB.mk (fun h => ?_) (fun h => ?_) <;> conv => whnf)
          try (refine inB_with (n := ?_) (a := 0) (b := 9) ?_ (fun hin1 hin2 => ?_); rotate_left; assumption)
          first
            | refine Again.to (j + 1, [] ++ [(⟨decide (w.tmod 2 = 1), ((w.tdiv 2).tmod (((ints t).length : Int) + 1)), sumP t (t.length - ((w.tdiv 2).tmod (((ints t).length : Int) + 1)).toNat) ((w.tdiv 2).tmod (((ints t).length : Int) + 1)).toNat⟩ : Cnt)], left) (show 7 - (j + 1) < 7 - j by omega) ⟨hI.step (by omega) ⟨by simp only; omega, by simp only; omega, by simp only; omega, by simp only; omega⟩ o1 (by simp only [hnn]; omega) (by first | exact .inl ⟨by simp only [hnn] <;> omega, by omega⟩ | exact .inr ⟨by omega, rfl⟩), show ((j + 1 : Nat) : Int) ≤ _ by omega⟩ (Nat.le_of_ble_eq_true rfl) ?_
              refine Shr.of ?_ ?_ rfl rfl
              · show Rel _ _ ((.n (.n (.n .e (some (.pt .h 0 0)) (.n .e (some (.i .i64 (left))) .e)) none (.n (.n .e (some (.lst 1 (ints t))) .e) none .e)) none (.n (.n .e none (.n .e (some (.i .i64 ((j + 1 : Nat) : Int))) .e)) (some (.lst 1 (numsK .u16 ws))) (.n (.n .e (some (.pt (.i .h) 0 0)) .e) (some (.pt (.o .h) 0 0)) .e))) : T D) _
                (repeat' first | exact Rel.e | refine Rel.some ?_ ?_ ?_ | refine Rel.none ?_ ?_ | refine Rel.ee ?_ ?_)
                all_goals show Fz _ _ _ _
                all_goals first | exact .pu trivial | exact .kpt (show _ < 7 by simp [Pos.nat]) | exact .pu (pu_ints _) | exact .pu (pu_numsK _ _)
              · show Rel _ _ (ctO l cs0 wr off [(⟨decide (w.tmod 2 = 1), ((w.tdiv 2).tmod (((ints t).length : Int) + 1)), sumP t (t.length - ((w.tdiv 2).tmod (((ints t).length : Int) + 1)).toNat) ((w.tdiv 2).tmod (((ints t).length : Int) + 1)).toNat⟩ : Cnt)]) _
                unfold ctO
                show Rel _ _ (T.n (.n .e (some _) (.n .e (some (C.cells false [.o (.b (decide (w.tmod 2 = 1))) 0, .o (.i .i64 ((w.tdiv 2).tmod (((ints t).length : Int) + 1))) 0, .o (.i .i64 (sumP t (t.length - ((w.tdiv 2).tmod (((ints t).length : Int) + 1)).toNat) ((w.tdiv 2).tmod (((ints t).length : Int) + 1)).toNat)) 0] 1)) .e)) (some _) (.n .e (some (C.cells false [.o (.lst 1 (ints l)) 0, .o (.sl sx6 0 1 0 3) 0, .o (.i .i64 wr) 0, .o (.i .i64 off) 0] 1)) .e)) _
                (repeat' first | exact Rel.e | refine Rel.some ?_ ?_ ?_ | refine Rel.none ?_ ?_ | refine Rel.ee ?_ ?_)
                all_goals refine RO'.of (show _ < 7 by simp [Pos.nat]) ?_
                all_goals first | exact rowC_sh _ _ _ _ | exact ShC.same (ShC.cn (.pu trivial) (ShC.cn (.pu trivial) (ShC.cn (.pu trivial) ShC.nl))) | exact ShC.same (ShC.cn (.pu trivial) (ShC.cn (.pu trivial) (ShC.cn (.pu trivial) (ShC.cn (.pu trivial) ShC.nl)))) | exact ShC.same (ShC.cn (.pu (pu_ints _)) (ShC.cn (.ksl (show _ < 7 by simp [sx6, Pos.nat])) (ShC.cn (.pu trivial) (ShC.cn (.pu trivial) ShC.nl))))
            | refine Again.to (j + 1, [] ++ [(⟨decide (w.tmod 2 = 1), ((w.tdiv 2).tmod (((ints t).length : Int) + 1)), sumP t (t.length - ((w.tdiv 2).tmod (((ints t).length : Int) + 1)).toNat) ((w.tdiv 2).tmod (((ints t).length : Int) + 1)).toNat + ((w.tdiv 32).tmod (2 * off + 1)) - off⟩ : Cnt)], left - 1) (show 7 - (j + 1) < 7 - j by omega) ⟨hI.step (by omega) ⟨by simp only; omega, by simp only; omega, by simp only; omega, by simp only; omega⟩ o1 (by simp only [hnn]; omega) (by first | exact .inl ⟨by simp only [hnn] <;> omega, by omega⟩ | exact .inr ⟨by omega, rfl⟩), show ((j + 1 : Nat) : Int) ≤ _ by omega⟩ (Nat.le_of_ble_eq_true rfl) ?_
              refine Shr.of ?_ ?_ rfl rfl
              · show Rel _ _ ((.n (.n (.n .e (some (.pt .h 0 0)) (.n .e (some (.i .i64 (left - 1))) .e)) none (.n (.n .e (some (.lst 1 (ints t))) .e) none .e)) none (.n (.n .e none (.n .e (some (.i .i64 ((j + 1 : Nat) : Int))) .e)) (some (.lst 1 (numsK .u16 ws))) (.n (.n .e (some (.pt (.i .h) 0 0)) .e) (some (.pt (.o .h) 0 0)) .e))) : T D) _
                (repeat' first | exact Rel.e | refine Rel.some ?_ ?_ ?_ | refine Rel.none ?_ ?_ | refine Rel.ee ?_ ?_)
                all_goals show Fz _ _ _ _
                all_goals first | exact .pu trivial | exact .kpt (show _ < 7 by simp [Pos.nat]) | exact .pu (pu_ints _) | exact .pu (pu_numsK _ _)
              · show Rel _ _ (ctO l cs0 wr off [(⟨decide (w.tmod 2 = 1), ((w.tdiv 2).tmod (((ints t).length : Int) + 1)), sumP t (t.length - ((w.tdiv 2).tmod (((ints t).length : Int) + 1)).toNat) ((w.tdiv 2).tmod (((ints t).length : Int) + 1)).toNat + ((w.tdiv 32).tmod (2 * off + 1)) - off⟩ : Cnt)]) _
                unfold ctO
                show Rel _ _ (T.n (.n .e (some _) (.n .e (some (C.cells false [.o (.b (decide (w.tmod 2 = 1))) 0, .o (.i .i64 ((w.tdiv 2).tmod (((ints t).length : Int) + 1))) 0, .o (.i .i64 (sumP t (t.length - ((w.tdiv 2).tmod (((ints t).length : Int) + 1)).toNat) ((w.tdiv 2).tmod (((ints t).length : Int) + 1)).toNat + ((w.tdiv 32).tmod (2 * off + 1)) - off)) 0] 1)) .e)) (some _) (.n .e (some (C.cells false [.o (.lst 1 (ints l)) 0, .o (.sl sx6 0 1 0 3) 0, .o (.i .i64 wr) 0, .o (.i .i64 off) 0] 1)) .e)) _
                (repeat' first | exact Rel.e | refine Rel.some ?_ ?_ ?_ | refine Rel.none ?_ ?_ | refine Rel.ee ?_ ?_)
                all_goals refine RO'.of (show _ < 7 by simp [Pos.nat]) ?_
                all_goals first | exact rowC_sh _ _ _ _ | exact ShC.same (ShC.cn (.pu trivial) (ShC.cn (.pu trivial) (ShC.cn (.pu trivial) ShC.nl))) | exact ShC.same (ShC.cn (.pu trivial) (ShC.cn (.pu trivial) (ShC.cn (.pu trivial) (ShC.cn (.pu trivial) ShC.nl)))) | exact ShC.same (ShC.cn (.pu (pu_ints _)) (ShC.cn (.ksl (show _ < 7 by simp [sx6, Pos.nat])) (ShC.cn (.pu trivial) (ShC.cn (.pu trivial) ShC.nl))))
            | refine Again.to (j + 1, [] ++ [(⟨decide (w.tmod 2 = 1), ((w.tdiv 2).tmod (((ints t).length : Int) + 1)), sumP t (t.length - ((w.tdiv 2).tmod (((ints t).length : Int) + 1)).toNat) ((w.tdiv 2).tmod (((ints t).length : Int) + 1)).toNat + ((w.tdiv 32).tmod (2 * off + 1)) - off⟩ : Cnt)], left) (show 7 - (j + 1) < 7 - j by omega) ⟨hI.step (by omega) ⟨by simp only; omega, by simp only; omega, by simp only; omega, by simp only; omega⟩ o1 (by simp only [hnn]; omega) (by first | exact .inl ⟨by simp only [hnn] <;> omega, by omega⟩ | exact .inr ⟨by omega, rfl⟩), show ((j + 1 : Nat) : Int) ≤ _ by omega⟩ (Nat.le_of_ble_eq_true rfl) ?_
              refine Shr.of ?_ ?_ rfl rfl
              · show Rel _ _ ((.n (.n (.n .e (some (.pt .h 0 0)) (.n .e (some (.i .i64 (left))) .e)) none (.n (.n .e (some (.lst 1 (ints t))) .e) none .e)) none (.n (.n .e none (.n .e (some (.i .i64 ((j + 1 : Nat) : Int))) .e)) (some (.lst 1 (numsK .u16 ws))) (.n (.n .e (some (.pt (.i .h) 0 0)) .e) (some (.pt (.o .h) 0 0)) .e))) : T D) _
                (repeat' first | exact Rel.e | refine Rel.some ?_ ?_ ?_ | refine Rel.none ?_ ?_ | refine Rel.ee ?_ ?_)
                all_goals show Fz _ _ _ _
                all_goals first | exact .pu trivial | exact .kpt (show _ < 7 by simp [Pos.nat]) | exact .pu (pu_ints _) | exact .pu (pu_numsK _ _)
              · show Rel _ _ (ctO l cs0 wr off [(⟨decide (w.tmod 2 = 1), ((w.tdiv 2).tmod (((ints t).length : Int) + 1)), sumP t (t.length - ((w.tdiv 2).tmod (((ints t).length : Int) + 1)).toNat) ((w.tdiv 2).tmod (((ints t).length : Int) + 1)).toNat + ((w.tdiv 32).tmod (2 * off + 1)) - off⟩ : Cnt)]) _
                unfold ctO
                show Rel _ _ (T.n (.n .e (some _) (.n .e (some (C.cells false [.o (.b (decide (w.tmod 2 = 1))) 0, .o (.i .i64 ((w.tdiv 2).tmod (((ints t).length : Int) + 1))) 0, .o (.i .i64 (sumP t (t.length - ((w.tdiv 2).tmod (((ints t).length : Int) + 1)).toNat) ((w.tdiv 2).tmod (((ints t).length : Int) + 1)).toNat + ((w.tdiv 32).tmod (2 * off + 1)) - off)) 0] 1)) .e)) (some _) (.n .e (some (C.cells false [.o (.lst 1 (ints l)) 0, .o (.sl sx6 0 1 0 3) 0, .o (.i .i64 wr) 0, .o (.i .i64 off) 0] 1)) .e)) _
                (repeat' first | exact Rel.e | refine Rel.some ?_ ?_ ?_ | refine Rel.none ?_ ?_ | refine Rel.ee ?_ ?_)
                all_goals refine RO'.of (show _ < 7 by simp [Pos.nat]) ?_
                all_goals first | exact rowC_sh _ _ _ _ | exact ShC.same (ShC.cn (.pu trivial) (ShC.cn (.pu trivial) (ShC.cn (.pu trivial) ShC.nl))) | exact ShC.same (ShC.cn (.pu trivial) (ShC.cn (.pu trivial) (ShC.cn (.pu trivial) (ShC.cn (.pu trivial) ShC.nl)))) | exact ShC.same (ShC.cn (.pu (pu_ints _)) (ShC.cn (.ksl (show _ < 7 by simp [sx6, Pos.nat])) (ShC.cn (.pu trivial) (ShC.cn (.pu trivial) ShC.nl))))
      | cons a0 s0 =>
        repeat' first | ((with_reducible apply WB.tt); conv => whnf) | ((with_reducible apply WB.ff); conv => whnf) | (refine Rn.seq ?_; conv => whnf) | (refine Rn.reg ?_; conv => whnf) | (refine Rn.drw ?_; conv => whnf) | (refine Rn.blk ?_; conv => whnf) | (refine Rn.skip ?_; conv => whnf) | (refine Rn.ret ?_; conv => whnf) | (refine Rn.exit ?_; conv => whnf) | (refine Rn.cond rfl ?_; conv => whnf) | (refine And.intro (InR.i64 (by omega) (by omega)) ?_; conv => whnf) | (refine And.intro (show _ ≠ (0 : Int) by omega) ?_; conv => whnf) | (refine WIx.intsN (by omega) ?_; conv => whnf) | (refine WIx.rowsN (by omega) ?_; conv => whnf) | (refine WCall.pure (cW) ?_; conv => whnf) | (refine WCall.pure (cS1) ?_; conv => whnf) | (refine WCall.pure (cS2) ?_; conv => whnf) | (refine WCall.pure (c_In _ _ _) ?_; conv => whnf) | ((with_reducible refine WB.decT (by first | with_reducible rfl | assumption | omega | exact ⟨rfl, rfl⟩) ?_); conv => whnf) | ((with_reducible refine WB.decF (by first | assumption | omega) ?_); conv => whnf) | ((with_reducible refine WB.ndT (by first | with_reducible rfl | assumption | omega | exact ⟨rfl, rfl⟩) ?_); conv => whnf) | ((with_reducible refine WB.ndF (by first | assumption | omega) ?_); conv => whnf) | ((with_reducible refine WB.nt ?_); conv => whnf) | ((with_reducible refine WB.nf ?_); conv => whnf) | ((with_reducible refine WB.dec (fun h => ?_) (fun h => ?_)) <;> conv => whnf) | ((with_reducible refine WB.ndec (fun h => ?_) (fun h => ?_)) <;> conv => whnf) | (refine WB.mk (fun h => ?_) (fun h => ?_) <;> conv => whnf)
        all_goals
          refine WSt.app_one (ds := (rows cntD (a0 :: s0)).flatten) (r := [_, _, _]) rfl rfl rfl rfl rfl rfl (by rw [rows_flat_len]; rfl) rfl rfl (by simp at hlen; omega) rfl ?_; conv => whnf
          repeat' first | ((with_reducible apply WB.tt); conv => whnf) | ((with_reducible apply WB.ff); conv => whnf) | (refine Rn.seq ?_; conv => whnf) | (refine Rn.reg ?_; conv => whnf) | (refine Rn.drw ?_; conv => whnf) | (refine Rn.blk ?_; conv => whnf) | (refine Rn.skip ?_; conv => whnf) | (refine Rn.ret ?_; conv => whnf) | (refine Rn.exit ?_; conv => whnf) | (refine Rn.cond rfl ?_; conv => whnf) | (refine And.intro (InR.i64 (by omega) (by omega)) ?_; conv => whnf) | (refine And.intro (show _ ≠ (0 : Int) by omega) ?_; conv => whnf) | (refine WIx.intsN (by omega) ?_; conv => whnf) | (refine WIx.rowsN (by omega) ?_; conv => whnf) | ((with_reducible refine WB.decT (by first | with_reducible rfl | assumption | omega | exact ⟨rfl, rfl⟩) ?_); conv => whnf) | ((with_reducible refine WB.decF (by first | assumption | omega) ?_); conv => whnf) | ((with_reducible refine WB.ndT (by first | with_reducible rfl | assumption | omega | exact ⟨rfl, rfl⟩) ?_); conv => whnf) | ((with_reducible refine WB.ndF (by first | assumption | omega) ?_); conv => whnf) | ((with_reducible refine WB.nt ?_); conv => whnf) | ((with_reducible refine WB.nf ?_); conv => whnf) | ((with_reducible refine WB.dec (fun h => ?_) (fun h => ?_)) <;> conv => whnf) | ((with_reducible refine WB.ndec (fun h => ?_) (fun h => ?_)) <;> conv => whnf) | (refine WB.mk (fun h => ?_) (fun h => ?_) <;> conv => whnf)
          try (refine inB_with (n := ?_) (a := 0) (b := 9) ?_ (fun hin1 hin2 => ?_); rotate_left; assumption)
          first
            | refine Again.to (j + 1, (a0 :: s0) ++ [(⟨decide (w.tmod 2 = 1), ((w.tdiv 2).tmod (((ints t).length : Int) + 1)), sumP t (t.length - ((w.tdiv 2).tmod (((ints t).length : Int) + 1)).toNat) ((w.tdiv 2).tmod (((ints t).length : Int) + 1)).toNat⟩ : Cnt)], left) (show 7 - (j + 1) < 7 - j by omega) ⟨hI.step (by omega) ⟨by simp only; omega, by simp only; omega, by simp only; omega, by simp only; omega⟩ o1 (by simp only [hnn]; omega) (by first | exact .inl ⟨by simp only [hnn] <;> omega, by omega⟩ | exact .inr ⟨by omega, rfl⟩), show ((j + 1 : Nat) : Int) ≤ _ by omega⟩ (Nat.le_of_ble_eq_true rfl) ?_
              refine Shr.of ?_ ?_ rfl rfl
              · show Rel _ _ ((.n (.n (.n .e (some (.pt .h 0 0)) (.n .e (some (.i .i64 (left))) .e)) none (.n (.n .e (some (.lst 1 (ints t))) .e) none .e)) none (.n (.n .e none (.n .e (some (.i .i64 ((j + 1 : Nat) : Int))) .e)) (some (.lst 1 (numsK .u16 ws))) (.n (.n .e (some (.pt (.i .h) 0 0)) .e) (some (.pt (.o .h) 0 0)) .e))) : T D) _
                (repeat' first | exact Rel.e | refine Rel.some ?_ ?_ ?_ | refine Rel.none ?_ ?_ | refine Rel.ee ?_ ?_)
                all_goals show Fz _ _ _ _
                all_goals first | exact .pu trivial | exact .kpt (show _ < 7 by simp [Pos.nat]) | exact .pu (pu_ints _) | exact .pu (pu_numsK _ _)
              · show Rel _ _ (ctO l cs0 wr off (a0 :: (s0 ++ [(⟨decide (w.tmod 2 = 1), ((w.tdiv 2).tmod (((ints t).length : Int) + 1)), sumP t (t.length - ((w.tdiv 2).tmod (((ints t).length : Int) + 1)).toNat) ((w.tdiv 2).tmod (((ints t).length : Int) + 1)).toNat⟩ : Cnt)]))) _
                unfold ctO
                rw [slc_snoc, blc_snoc]
                (repeat' first | exact Rel.e | refine Rel.some ?_ ?_ ?_ | refine Rel.none ?_ ?_ | refine Rel.ee ?_ ?_)
                all_goals refine RO'.of (show _ < 7 by simp [Pos.nat]) ?_
                all_goals first | exact rowC_sh _ _ _ _ | exact ShC.same (ShC.cn (.pu trivial) (ShC.cn (.pu trivial) (ShC.cn (.pu trivial) (ShC.cn (.pu trivial) ShC.nl)))) | exact ShC.same (ShC.cn (.pu (pu_ints _)) (ShC.cn (.ksl (show _ < 7 by simp [sx6, Pos.nat])) (ShC.cn (.pu trivial) (ShC.cn (.pu trivial) ShC.nl)))) | exact ShC.grown (by omega) (PuL_iff.2 fun d hd => (List.mem_append.1 hd).elim (PuL_iff.1 (pu_flat _) d) (PuL_iff.1 (by simp [cntD, PuL, Pu]) d))
            | refine Again.to (j + 1, (a0 :: s0) ++ [(⟨decide (w.tmod 2 = 1), ((w.tdiv 2).tmod (((ints t).length : Int) + 1)), sumP t (t.length - ((w.tdiv 2).tmod (((ints t).length : Int) + 1)).toNat) ((w.tdiv 2).tmod (((ints t).length : Int) + 1)).toNat + ((w.tdiv 32).tmod (2 * off + 1)) - off⟩ : Cnt)], left - 1) (show 7 - (j + 1) < 7 - j by omega) ⟨hI.step (by omega) ⟨by simp only; omega, by simp only; omega, by simp only; omega, by simp only; omega⟩ o1 (by simp only [hnn]; omega) (by first | exact .inl ⟨by simp only [hnn] <;> omega, by omega⟩ | exact .inr ⟨by omega, rfl⟩), show ((j + 1 : Nat) : Int) ≤ _ by omega⟩ (Nat.le_of_ble_eq_true rfl) ?_
              refine Shr.of ?_ ?_ rfl rfl
              · show Rel _ _ ((.n (.n (.n .e (some (.pt .h 0 0)) (.n .e (some (.i .i64 (left - 1))) .e)) none (.n (.n .e (some (.lst 1 (ints t))) .e) none .e)) none (.n (.n .e none (.n .e (some (.i .i64 ((j + 1 : Nat) : Int))) .e)) (some (.lst 1 (numsK .u16 ws))) (.n (.n .e (some (.pt (.i .h) 0 0)) .e) (some (.pt (.o .h) 0 0)) .e))) : T D) _
                (repeat' first | exact Rel.e | refine Rel.some ?_ ?_ ?_ | refine Rel.none ?_ ?_ | refine Rel.ee ?_ ?_)
                all_goals show Fz _ _ _ _
                all_goals first | exact .pu trivial | exact .kpt (show _ < 7 by simp [Pos.nat]) | exact .pu (pu_ints _) | exact .pu (pu_numsK _ _)
              · show Rel _ _ (ctO l cs0 wr off (a0 :: (s0 ++ [(⟨decide (w.tmod 2 = 1), ((w.tdiv 2).tmod (((ints t).length : Int) + 1)), sumP t (t.length - ((w.tdiv 2).tmod (((ints t).length : Int) + 1)).toNat) ((w.tdiv 2).tmod (((ints t).length : Int) + 1)).toNat + ((w.tdiv 32).tmod (2 * off + 1)) - off⟩ : Cnt)]))) _
                unfold ctO
                rw [slc_snoc, blc_snoc]
                (repeat' first | exact Rel.e | refine Rel.some ?_ ?_ ?_ | refine Rel.none ?_ ?_ | refine Rel.ee ?_ ?_)
                all_goals refine RO'.of (show _ < 7 by simp [Pos.nat]) ?_
                all_goals first | exact rowC_sh _ _ _ _ | exact ShC.same (ShC.cn (.pu trivial) (ShC.cn (.pu trivial) (ShC.cn (.pu trivial) (ShC.cn (.pu trivial) ShC.nl)))) | exact ShC.same (ShC.cn (.pu (pu_ints _)) (ShC.cn (.ksl (show _ < 7 by simp [sx6, Pos.nat])) (ShC.cn (.pu trivial) (ShC.cn (.pu trivial) ShC.nl)))) | exact ShC.grown (by omega) (PuL_iff.2 fun d hd => (List.mem_append.1 hd).elim (PuL_iff.1 (pu_flat _) d) (PuL_iff.1 (by simp [cntD, PuL, Pu]) d))
            | refine Again.to (j + 1, (a0 :: s0) ++ [(⟨decide (w.tmod 2 = 1), ((w.tdiv 2).tmod (((ints t).length : Int) + 1)), sumP t (t.length - ((w.tdiv 2).tmod (((ints t).length : Int) + 1)).toNat) ((w.tdiv 2).tmod (((ints t).length : Int) + 1)).toNat + ((w.tdiv 32).tmod (2 * off + 1)) - off⟩ : Cnt)], left) (show 7 - (j + 1) < 7 - j by omega) ⟨hI.step (by omega) ⟨by simp only; omega, by simp only; omega, by simp only; omega, by simp only; omega⟩ o1 (by simp only [hnn]; omega) (by first | exact .inl ⟨by simp only [hnn] <;> omega, by omega⟩ | exact .inr ⟨by omega, rfl⟩), show ((j + 1 : Nat) : Int) ≤ _ by omega⟩ (Nat.le_of_ble_eq_true rfl) ?_
              refine Shr.of ?_ ?_ rfl rfl
              · show Rel _ _ ((.n (.n (.n .e (some (.pt .h 0 0)) (.n .e (some (.i .i64 (left))) .e)) none (.n (.n .e (some (.lst 1 (ints t))) .e) none .e)) none (.n (.n .e none (.n .e (some (.i .i64 ((j + 1 : Nat) : Int))) .e)) (some (.lst 1 (numsK .u16 ws))) (.n (.n .e (some (.pt (.i .h) 0 0)) .e) (some (.pt (.o .h) 0 0)) .e))) : T D) _
                (repeat' first | exact Rel.e | refine Rel.some ?_ ?_ ?_ | refine Rel.none ?_ ?_ | refine Rel.ee ?_ ?_)
                all_goals show Fz _ _ _ _
                all_goals first | exact .pu trivial | exact .kpt (show _ < 7 by simp [Pos.nat]) | exact .pu (pu_ints _) | exact .pu (pu_numsK _ _)
              · show Rel _ _ (ctO l cs0 wr off (a0 :: (s0 ++ [(⟨decide (w.tmod 2 = 1), ((w.tdiv 2).tmod (((ints t).length : Int) + 1)), sumP t (t.length - ((w.tdiv 2).tmod (((ints t).length : Int) + 1)).toNat) ((w.tdiv 2).tmod (((ints t).length : Int) + 1)).toNat + ((w.tdiv 32).tmod (2 * off + 1)) - off⟩ : Cnt)]))) _
                unfold ctO
                rw [slc_snoc, blc_snoc]
                (repeat' first | exact Rel.e | refine Rel.some ?_ ?_ ?_ | refine Rel.none ?_ ?_ | refine Rel.ee ?_ ?_)
                all_goals refine RO'.of (show _ < 7 by simp [Pos.nat]) ?_
                all_goals first | exact rowC_sh _ _ _ _ | exact ShC.same (ShC.cn (.pu trivial) (ShC.cn (.pu trivial) (ShC.cn (.pu trivial) (ShC.cn (.pu trivial) ShC.nl)))) | exact ShC.same (ShC.cn (.pu (pu_ints _)) (ShC.cn (.ksl (show _ < 7 by simp [sx6, Pos.nat])) (ShC.cn (.pu trivial) (ShC.cn (.pu trivial) ShC.nl)))) | exact ShC.grown (by omega) (PuL_iff.2 fun d hd => (List.mem_append.1 hd).elim (PuL_iff.1 (pu_flat _) d) (PuL_iff.1 (by simp [cntD, PuL, Pu]) d))
    · rw [if_neg hbk] at hnn
      cases cs with
      | nil =>
        repeat' first | ((with_reducible apply WB.tt); conv => whnf) | ((with_reducible apply WB.ff); conv => whnf) | (refine Rn.seq ?_; conv => whnf) | (refine Rn.reg ?_; conv => whnf) | (refine Rn.drw ?_; conv => whnf) | (refine Rn.blk ?_; conv => whnf) | (refine Rn.skip ?_; conv => whnf) | (refine Rn.ret ?_; conv => whnf) | (refine Rn.exit ?_; conv => whnf) | (refine Rn.cond rfl ?_; conv => whnf) | (refine And.intro (InR.i64 (by omega) (by omega)) ?_; conv => whnf) | (refine And.intro (show _ ≠ (0 : Int) by omega) ?_; conv => whnf) | (refine WIx.intsN (by omega) ?_; conv => whnf) | (refine WIx.rowsN (by omega) ?_; conv => whnf) | (refine WCall.pure (cW) ?_; conv => whnf) | (refine WCall.pure (cS1) ?_; conv => whnf) | (refine WCall.pure (cS2) ?_; conv => whnf) | (refine WCall.pure (c_In _ _ _) ?_; conv => whnf) | ((with_reducible refine WB.decT (by first | with_reducible rfl | assumption | omega | exact ⟨rfl, rfl⟩) ?_); conv => whnf) | ((with_reducible refine WB.decF (by first | assumption | omega) ?_); conv => whnf) | ((with_reducible refine WB.ndT (by first | with_reducible rfl | assumption | omega | exact ⟨rfl, rfl⟩) ?_); conv => whnf) | ((with_reducible refine WB.ndF (by first | assumption | omega) ?_); conv => whnf) | ((with_reducible refine WB.nt ?_); conv => whnf) | ((with_reducible refine WB.nf ?_); conv => whnf) | ((with_reducible refine WB.dec (fun h => ?_) (fun h => ?_)) <;> conv => whnf) | ((with_reducible refine WB.ndec (fun h => ?_) (fun h => ?_)) <;> conv => whnf) | (refine WB.mk (fun h => ?_) (fun h => ?_) <;> conv => whnf)
        all_goals
          refine WSt.app_first (r := [_, _, _]) rfl (.inl rfl) rfl rfl rfl rfl ?_; conv => whnf
          repeat' first | ((with_reducible apply WB.tt); conv => whnf) | ((with_reducible apply WB.ff); conv => whnf) | (refine Rn.seq ?_; conv => whnf) | (refine Rn.reg ?_; conv => whnf) | (refine Rn.drw ?_; conv => whnf) | (refine Rn.blk ?_; conv => whnf) | (refine Rn.skip ?_; conv => whnf) | (refine Rn.ret ?_; conv => whnf) | (refine Rn.exit ?_; conv => whnf) | (refine Rn.cond rfl ?_; conv => whnf) | (refine And.intro (InR.i64 (by omega) (by omega)) ?_; conv => whnf) | (refine And.intro (show _ ≠ (0 : Int) by omega) ?_; conv => whnf) | (refine WIx.intsN (by omega) ?_; conv => whnf) | (refine WIx.rowsN (by omega) ?_; conv => whnf) | ((with_reducible refine WB.decT (by first | with_reducible rfl | assumption | omega | exact ⟨rfl, rfl⟩) ?_); conv => whnf) | ((with_reducible refine WB.decF (by first | assumption | omega) ?_); conv => whnf) | ((with_reducible refine WB.ndT (by first | with_reducible rfl | assumption | omega | exact ⟨rfl, rfl⟩) ?_); conv => whnf) | ((with_reducible refine WB.ndF (by first | assumption | omega) ?_); conv => whnf) | ((with_reducible refine WB.nt ?_); conv => whnf) | ((with_reducible refine WB.nf ?_); conv => whnf) | ((with_reducible refine WB.dec (fun h => ?_) (fun h => ?_)) <;> conv => whnf) | ((with_reducible refine WB.ndec (fun h => ?_) (fun h => ?_)) <;> conv => whnf) | (refine WB.mk (fun h => ?_) (fun h => ?_) <;> conv => whnf)
          try (refine inB_with (n := ?_) (a := 0) (b := 9) ?_ (fun hin1 hin2 => ?_); rotate_left; assumption)
          first
            | refine Again.to (j + 1, [] ++ [(⟨decide (w.tmod 2 = 1), ((w.tdiv 2).tmod (((ints t).length : Int) + 1)), sumP t 0 ((w.tdiv 2).tmod (((ints t).length : Int) + 1)).toNat⟩ : Cnt)], left) (show 7 - (j + 1) < 7 - j by omega) ⟨hI.step (by omega) ⟨by simp only; omega, by simp only; omega, by simp only; omega, by simp only; omega⟩ o1 (by simp only [hnn]; omega) (by first | exact .inl ⟨by simp only [hnn] <;> omega, by omega⟩ | exact .inr ⟨by omega, rfl⟩), show ((j + 1 : Nat) : Int) ≤ _ by omega⟩ (Nat.le_of_ble_eq_true rfl) ?_
              refine Shr.of ?_ ?_ rfl rfl
              · show Rel _ _ ((.n (.n (.n .e (some (.pt .h 0 0)) (.n .e (some (.i .i64 (left))) .e)) none (.n (.n .e (some (.lst 1 (ints t))) .e) none .e)) none (.n (.n .e none (.n .e (some (.i .i64 ((j + 1 : Nat) : Int))) .e)) (some (.lst 1 (numsK .u16 ws))) (.n (.n .e (some (.pt (.i .h) 0 0)) .e) (some (.pt (.o .h) 0 0)) .e))) : T D) _
                (repeat' first | exact Rel.e | refine Rel.some ?_ ?_ ?_ | refine Rel.none ?_ ?_ | refine Rel.ee ?_ ?_)
                all_goals show Fz _ _ _ _
                all_goals first | exact .pu trivial | exact .kpt (show _ < 7 by simp [Pos.nat]) | exact .pu (pu_ints _) | exact .pu (pu_numsK _ _)
              · show Rel _ _ (ctO l cs0 wr off [(⟨decide (w.tmod 2 = 1), ((w.tdiv 2).tmod (((ints t).length : Int) + 1)), sumP t 0 ((w.tdiv 2).tmod (((ints t).length : Int) + 1)).toNat⟩ : Cnt)]) _
                unfold ctO
                show Rel _ _ (T.n (.n .e (some _) (.n .e (some (C.cells false [.o (.b (decide (w.tmod 2 = 1))) 0, .o (.i .i64 ((w.tdiv 2).tmod (((ints t).length : Int) + 1))) 0, .o (.i .i64 (sumP t 0 ((w.tdiv 2).tmod (((ints t).length : Int) + 1)).toNat)) 0] 1)) .e)) (some _) (.n .e (some (C.cells false [.o (.lst 1 (ints l)) 0, .o (.sl sx6 0 1 0 3) 0, .o (.i .i64 wr) 0, .o (.i .i64 off) 0] 1)) .e)) _
                (repeat' first | exact Rel.e | refine Rel.some ?_ ?_ ?_ | refine Rel.none ?_ ?_ | refine Rel.ee ?_ ?_)
                all_goals refine RO'.of (show _ < 7 by simp [Pos.nat]) ?_
                all_goals first | exact rowC_sh _ _ _ _ | exact ShC.same (ShC.cn (.pu trivial) (ShC.cn (.pu trivial) (ShC.cn (.pu trivial) ShC.nl))) | exact ShC.same (ShC.cn (.pu trivial) (ShC.cn (.pu trivial) (ShC.cn (.pu trivial) (ShC.cn (.pu trivial) ShC.nl)))) | exact ShC.same (ShC.cn (.pu (pu_ints _)) (ShC.cn (.ksl (show _ < 7 by simp [sx6, Pos.nat])) (ShC.cn (.pu trivial) (ShC.cn (.pu trivial) ShC.nl))))
            | refine Again.to (j + 1, [] ++ [(⟨decide (w.tmod 2 = 1), ((w.tdiv 2).tmod (((ints t).length : Int) + 1)), sumP t 0 ((w.tdiv 2).tmod (((ints t).length : Int) + 1)).toNat + ((w.tdiv 32).tmod (2 * off + 1)) - off⟩ : Cnt)], left - 1) (show 7 - (j + 1) < 7 - j by omega) ⟨hI.step (by omega) ⟨by simp only; omega, by simp only; omega, by simp only; omega, by simp only; omega⟩ o1 (by simp only [hnn]; omega) (by first | exact .inl ⟨by simp only [hnn] <;> omega, by omega⟩ | exact .inr ⟨by omega, rfl⟩), show ((j + 1 : Nat) : Int) ≤ _ by omega⟩ (Nat.le_of_ble_eq_true rfl) ?_
              refine Shr.of ?_ ?_ rfl rfl
              · show Rel _ _ ((.n (.n (.n .e (some (.pt .h 0 0)) (.n .e (some (.i .i64 (left - 1))) .e)) none (.n (.n .e (some (.lst 1 (ints t))) .e) none .e)) none (.n (.n .e none (.n .e (some (.i .i64 ((j + 1 : Nat) : Int))) .e)) (some (.lst 1 (numsK .u16 ws))) (.n (.n .e (some (.pt (.i .h) 0 0)) .e) (some (.pt (.o .h) 0 0)) .e))) : T D) _
                (repeat' first | exact Rel.e | refine Rel.some ?_ ?_ ?_ | refine Rel.none ?_ ?_ | refine Rel.ee ?_ ?_)
                all_goals show Fz _ _ _ _
                all_goals first | exact .pu trivial | exact .kpt (show _ < 7 by simp [Pos.nat]) | exact .pu (pu_ints _) | exact .pu (pu_numsK _ _)
              · show Rel _ _ (ctO l cs0 wr off [(⟨decide (w.tmod 2 = 1), ((w.tdiv 2).tmod (((ints t).length : Int) + 1)), sumP t 0 ((w.tdiv 2).tmod (((ints t).length : Int) + 1)).toNat + ((w.tdiv 32).tmod (2 * off + 1)) - off⟩ : Cnt)]) _
                unfold ctO
                show Rel _ _ (T.n (.n .e (some _) (.n .e (some (C.cells false [.o (.b (decide (w.tmod 2 = 1))) 0, .o (.i .i64 ((w.tdiv 2).tmod (((ints t).length : Int) + 1))) 0, .o (.i .i64 (sumP t 0 ((w.tdiv 2).tmod (((ints t).length : Int) + 1)).toNat + ((w.tdiv 32).tmod (2 * off + 1)) - off)) 0] 1)) .e)) (some _) (.n .e (some (C.cells false [.o (.lst 1 (ints l)) 0, .o (.sl sx6 0 1 0 3) 0, .o (.i .i64 wr) 0, .o (.i .i64 off) 0] 1)) .e)) _
                (repeat' first | exact Rel.e | refine Rel.some ?_ ?_ ?_ | refine Rel.none ?_ ?_ | refine Rel.ee ?_ ?_)
                all_goals refine RO'.of (show _ < 7 by simp [Pos.nat]) ?_
                all_goals first | exact rowC_sh _ _ _ _ | exact ShC.same (ShC.cn (.pu trivial) (ShC.cn (.pu trivial) (ShC.cn (.pu trivial) ShC.nl))) | exact ShC.same (ShC.cn (.pu trivial) (ShC.cn (.pu trivial) (ShC.cn (.pu trivial) (ShC.cn (.pu trivial) ShC.nl)))) | exact ShC.same (ShC.cn (.pu (pu_ints _)) (ShC.cn (.ksl (show _ < 7 by simp [sx6, Pos.nat])) (ShC.cn (.pu trivial) (ShC.cn (.pu trivial) ShC.nl))))
            | refine Again.to (j + 1, [] ++ [(⟨decide (w.tmod 2 = 1), ((w.tdiv 2).tmod (((ints t).length : Int) + 1)), sumP t 0 ((w.tdiv 2).tmod (((ints t).length : Int) + 1)).toNat + ((w.tdiv 32).tmod (2 * off + 1)) - off⟩ : Cnt)], left) (show 7 - (j + 1) < 7 - j by omega) ⟨hI.step (by omega) ⟨by simp only; omega, by simp only; omega, by simp only; omega, by simp only; omega⟩ o1 (by simp only [hnn]; omega) (by first | exact .inl ⟨by simp only [hnn] <;> omega, by omega⟩ | exact .inr ⟨by omega, rfl⟩), show ((j + 1 : Nat) : Int) ≤ _ by omega⟩ (Nat.le_of_ble_eq_true rfl) ?_
              refine Shr.of ?_ ?_ rfl rfl
              · show Rel _ _ ((.n (.n (.n .e (some (.pt .h 0 0)) (.n .e (some (.i .i64 (left))) .e)) none (.n (.n .e (some (.lst 1 (ints t))) .e) none .e)) none (.n (.n .e none (.n .e (some (.i .i64 ((j + 1 : Nat) : Int))) .e)) (some (.lst 1 (numsK .u16 ws))) (.n (.n .e (some (.pt (.i .h) 0 0)) .e) (some (.pt (.o .h) 0 0)) .e))) : T D) _
                (repeat' first | exact Rel.e | refine Rel.some ?_ ?_ ?_ | refine Rel.none ?_ ?_ | refine Rel.ee ?_ ?_)
                all_goals show Fz _ _ _ _
                all_goals first | exact .pu trivial | exact .kpt (show _ < 7 by simp [Pos.nat]) | exact .pu (pu_ints _) | exact .pu (pu_numsK _ _)
              · show Rel _ _ (ctO l cs0 wr off [(⟨decide (w.tmod 2 = 1), ((w.tdiv 2).tmod (((ints t).length : Int) + 1)), sumP t 0 ((w.tdiv 2).tmod (((ints t).length : Int) + 1)).toNat + ((w.tdiv 32).tmod (2 * off + 1)) - off⟩ : Cnt)]) _
                unfold ctO
                show Rel _ _ (T.n (.n .e (some _) (.n .e (some (C.cells false [.o (.b (decide (w.tmod 2 = 1))) 0, .o (.i .i64 ((w.tdiv 2).tmod (((ints t).length : Int) + 1))) 0, .o (.i .i64 (sumP t 0 ((w.tdiv 2).tmod (((ints t).length : Int) + 1)).toNat + ((w.tdiv 32).tmod (2 * off + 1)) - off)) 0] 1)) .e)) (some _) (.n .e (some (C.cells false [.o (.lst 1 (ints l)) 0, .o (.sl sx6 0 1 0 3) 0, .o (.i .i64 wr) 0, .o (.i .i64 off) 0] 1)) .e)) _
                (repeat' first | exact Rel.e | refine Rel.some ?_ ?_ ?_ | refine Rel.none ?_ ?_ | refine Rel.ee ?_ ?_)
                all_goals refine RO'.of (show _ < 7 by simp [Pos.nat]) ?_
                all_goals first | exact rowC_sh _ _ _ _ | exact ShC.same (ShC.cn (.pu trivial) (ShC.cn (.pu trivial) (ShC.cn (.pu trivial) ShC.nl))) | exact ShC.same (ShC.cn (.pu trivial) (ShC.cn (.pu trivial) (ShC.cn (.pu trivial) (ShC.cn (.pu trivial) ShC.nl)))) | exact ShC.same (ShC.cn (.pu (pu_ints _)) (ShC.cn (.ksl (show _ < 7 by simp [sx6, Pos.nat])) (ShC.cn (.pu trivial) (ShC.cn (.pu trivial) ShC.nl))))
      | cons a0 s0 =>
        repeat' first | ((with_reducible apply WB.tt); conv => whnf) | ((with_reducible apply WB.ff); conv => whnf) | (refine Rn.seq ?_; conv => whnf) | (refine Rn.reg ?_; conv => whnf) | (refine Rn.drw ?_; conv => whnf) | (refine Rn.blk ?_; conv => whnf) | (refine Rn.skip ?_; conv => whnf) | (refine Rn.ret ?_; conv => whnf) | (refine Rn.exit ?_; conv => whnf) | (refine Rn.cond rfl ?_; conv => whnf) | (refine And.intro (InR.i64 (by omega) (by omega)) ?_; conv => whnf) | (refine And.intro (show _ ≠ (0 : Int) by omega) ?_; conv => whnf) | (refine WIx.intsN (by omega) ?_; conv => whnf) | (refine WIx.rowsN (by omega) ?_; conv => whnf) | (refine WCall.pure (cW) ?_; conv => whnf) | (refine WCall.pure (cS1) ?_; conv => whnf) | (refine WCall.pure (cS2) ?_; conv => whnf) | (refine WCall.pure (c_In _ _ _) ?_; conv => whnf) | ((with_reducible refine WB.decT (by first | with_reducible rfl | assumption | omega | exact ⟨rfl, rfl⟩) ?_); conv => whnf) | ((with_reducible refine WB.decF (by first | assumption | omega) ?_); conv => whnf) | ((with_reducible refine WB.ndT (by first | with_reducible rfl | assumption | omega | exact ⟨rfl, rfl⟩) ?_); conv => whnf) | ((with_reducible refine WB.ndF (by first | assumption | omega) ?_); conv => whnf) | ((with_reducible refine WB.nt ?_); conv => whnf) | ((with_reducible refine WB.nf ?_); conv => whnf) | ((with_reducible refine WB.dec (fun h => ?_) (fun h => ?_)) <;> conv => whnf) | ((with_reducible refine WB.ndec (fun h => ?_) (fun h => ?_)) <;> conv => whnf) | (refine WB.mk (fun h => ?_) (fun h => ?_) <;> conv => whnf)
        all_goals
          refine WSt.app_one (ds := (rows cntD (a0 :: s0)).flatten) (r := [_, _, _]) rfl rfl rfl rfl rfl rfl (by rw [rows_flat_len]; rfl) rfl rfl (by simp at hlen; omega) rfl ?_; conv => whnf
          repeat' first | ((with_reducible apply WB.tt); conv => whnf) | ((with_reducible apply WB.ff); conv => whnf) | (refine Rn.seq ?_; conv => whnf) | (refine Rn.reg ?_; conv => whnf) | (refine Rn.drw ?_; conv => whnf) | (refine Rn.blk ?_; conv => whnf) | (refine Rn.skip ?_; conv => whnf) | (refine Rn.ret ?_; conv => whnf) | (refine Rn.exit ?_; conv => whnf) | (refine Rn.cond rfl ?_; conv => whnf) | (refine And.intro (InR.i64 (by omega) (by omega)) ?_; conv => whnf) | (refine And.intro (show _ ≠ (0 : Int) by omega) ?_; conv => whnf) | (refine WIx.intsN (by omega) ?_; conv => whnf) | (refine WIx.rowsN (by omega) ?_; conv => whnf) | ((with_reducible refine WB.decT (by first | with_reducible rfl | assumption | omega | exact ⟨rfl, rfl⟩) ?_); conv => whnf) | ((with_reducible refine WB.decF (by first | assumption | omega) ?_); conv => whnf) | ((with_reducible refine WB.ndT (by first | with_reducible rfl | assumption | omega | exact ⟨rfl, rfl⟩) ?_); conv => whnf) | ((with_reducible refine WB.ndF (by first | assumption | omega) ?_); conv => whnf) | ((with_reducible refine WB.nt ?_); conv => whnf) | ((with_reducible refine WB.nf ?_); conv => whnf) | ((with_reducible refine WB.dec (fun h => ?_) (fun h => ?_)) <;> conv => whnf) | ((with_reducible refine WB.ndec (fun h => ?_) (fun h => ?_)) <;> conv => whnf) | (refine WB.mk (fun h => ?_) (fun h => ?_) <;> conv => whnf)
          try (refine inB_with (n := ?_) (a := 0) (b := 9) ?_ (fun hin1 hin2 => ?_); rotate_left; assumption)
          first
            | refine Again.to (j + 1, (a0 :: s0) ++ [(⟨decide (w.tmod 2 = 1), ((w.tdiv 2).tmod (((ints t).length : Int) + 1)), sumP t 0 ((w.tdiv 2).tmod (((ints t).length : Int) + 1)).toNat⟩ : Cnt)], left) (show 7 - (j + 1) < 7 - j by omega) ⟨hI.step (by omega) ⟨by simp only; omega, by simp only; omega, by simp only; omega, by simp only; omega⟩ o1 (by simp only [hnn]; omega) (by first | exact .inl ⟨by simp only [hnn] <;> omega, by omega⟩ | exact .inr ⟨by omega, rfl⟩), show ((j + 1 : Nat) : Int) ≤ _ by omega⟩ (Nat.le_of_ble_eq_true rfl) ?_
              refine Shr.of ?_ ?_ rfl rfl
              · show Rel _ _ ((.n (.n (.n .e (some (.pt .h 0 0)) (.n .e (some (.i .i64 (left))) .e)) none (.n (.n .e (some (.lst 1 (ints t))) .e) none .e)) none (.n (.n .e none (.n .e (some (.i .i64 ((j + 1 : Nat) : Int))) .e)) (some (.lst 1 (numsK .u16 ws))) (.n (.n .e (some (.pt (.i .h) 0 0)) .e) (some (.pt (.o .h) 0 0)) .e))) : T D) _
                (repeat' first | exact Rel.e | refine Rel.some ?_ ?_ ?_ | refine Rel.none ?_ ?_ | refine Rel.ee ?_ ?_)
                all_goals show Fz _ _ _ _
                all_goals first | exact .pu trivial | exact .kpt (show _ < 7 by simp [Pos.nat]) | exact .pu (pu_ints _) | exact .pu (pu_numsK _ _)
              · show Rel _ _ (ctO l cs0 wr off (a0 :: (s0 ++ [(⟨decide (w.tmod 2 = 1), ((w.tdiv 2).tmod (((ints t).length : Int) + 1)), sumP t 0 ((w.tdiv 2).tmod (((ints t).length : Int) + 1)).toNat⟩ : Cnt)]))) _
                unfold ctO
                rw [slc_snoc, blc_snoc]
                (repeat' first | exact Rel.e | refine Rel.some ?_ ?_ ?_ | refine Rel.none ?_ ?_ | refine Rel.ee ?_ ?_)
                all_goals refine RO'.of (show _ < 7 by simp [Pos.nat]) ?_
                all_goals first | exact rowC_sh _ _ _ _ | exact ShC.same (ShC.cn (.pu trivial) (ShC.cn (.pu trivial) (ShC.cn (.pu trivial) (ShC.cn (.pu trivial) ShC.nl)))) | exact ShC.same (ShC.cn (.pu (pu_ints _)) (ShC.cn (.ksl (show _ < 7 by simp [sx6, Pos.nat])) (ShC.cn (.pu trivial) (ShC.cn (.pu trivial) ShC.nl)))) | exact ShC.grown (by omega) (PuL_iff.2 fun d hd => (List.mem_append.1 hd).elim (PuL_iff.1 (pu_flat _) d) (PuL_iff.1 (by simp [cntD, PuL, Pu]) d))
            | refine Again.to (j + 1, (a0 :: s0) ++ [(⟨decide (w.tmod 2 = 1), ((w.tdiv 2).tmod (((ints t).length : Int) + 1)), sumP t 0 ((w.tdiv 2).tmod (((ints t).length : Int) + 1)).toNat + ((w.tdiv 32).tmod (2 * off + 1)) - off⟩ : Cnt)], left - 1) (show 7 - (j + 1) < 7 - j by omega) ⟨hI.step (by omega) ⟨by simp only; omega, by simp only; omega, by simp only; omega, by simp only; omega⟩ o1 (by simp only [hnn]; omega) (by first | exact .inl ⟨by simp only [hnn] <;> omega, by omega⟩ | exact .inr ⟨by omega, rfl⟩), show ((j + 1 : Nat) : Int) ≤ _ by omega⟩ (Nat.le_of_ble_eq_true rfl) ?_
              refine Shr.of ?_ ?_ rfl rfl
              · show Rel _ _ ((.n (.n (.n .e (some (.pt .h 0 0)) (.n .e (some (.i .i64 (left - 1))) .e)) none (.n (.n .e (some (.lst 1 (ints t))) .e) none .e)) none (.n (.n .e none (.n .e (some (.i .i64 ((j + 1 : Nat) : Int))) .e)) (some (.lst 1 (numsK .u16 ws))) (.n (.n .e (some (.pt (.i .h) 0 0)) .e) (some (.pt (.o .h) 0 0)) .e))) : T D) _
                (repeat' first | exact Rel.e | refine Rel.some ?_ ?_ ?_ | refine Rel.none ?_ ?_ | refine Rel.ee ?_ ?_)
                all_goals show Fz _ _ _ _
                all_goals first | exact .pu trivial | exact .kpt (show _ < 7 by simp [Pos.nat]) | exact .pu (pu_ints _) | exact .pu (pu_numsK _ _)
              · show Rel _ _ (ctO l cs0 wr off (a0 :: (s0 ++ [(⟨decide (w.tmod 2 = 1), ((w.tdiv 2).tmod (((ints t).length : Int) + 1)), sumP t 0 ((w.tdiv 2).tmod (((ints t).length : Int) + 1)).toNat + ((w.tdiv 32).tmod (2 * off + 1)) - off⟩ : Cnt)]))) _
                unfold ctO
                rw [slc_snoc, blc_snoc]
                (repeat' first | exact Rel.e | refine Rel.some ?_ ?_ ?_ | refine Rel.none ?_ ?_ | refine Rel.ee ?_ ?_)
                all_goals refine RO'.of (show _ < 7 by simp [Pos.nat]) ?_
                all_goals first | exact rowC_sh _ _ _ _ | exact ShC.same (ShC.cn (.pu trivial) (ShC.cn (.pu trivial) (ShC.cn (.pu trivial) (ShC.cn (.pu trivial) ShC.nl)))) | exact ShC.same (ShC.cn (.pu (pu_ints _)) (ShC.cn (.ksl (show _ < 7 by simp [sx6, Pos.nat])) (ShC.cn (.pu trivial) (ShC.cn (.pu trivial) ShC.nl)))) | exact ShC.grown (by omega) (PuL_iff.2 fun d hd => (List.mem_append.1 hd).elim (PuL_iff.1 (pu_flat _) d) (PuL_iff.1 (by simp [cntD, PuL, Pu]) d))
            | refine Again.to (j + 1, (a0 :: s0) ++ [(⟨decide (w.tmod 2 = 1), ((w.tdiv 2).tmod (((ints t).length : Int) + 1)), sumP t 0 ((w.tdiv 2).tmod (((ints t).length : Int) + 1)).toNat + ((w.tdiv 32).tmod (2 * off + 1)) - off⟩ : Cnt)], left) (show 7 - (j + 1) < 7 - j by omega) ⟨hI.step (by omega) ⟨by simp only; omega, by simp only; omega, by simp only; omega, by simp only; omega⟩ o1 (by simp only [hnn]; omega) (by first | exact .inl ⟨by simp only [hnn] <;> omega, by omega⟩ | exact .inr ⟨by omega, rfl⟩), show ((j + 1 : Nat) : Int) ≤ _ by omega⟩ (Nat.le_of_ble_eq_true rfl) ?_
              refine Shr.of ?_ ?_ rfl rfl
              · show Rel _ _ ((.n (.n (.n .e (some (.pt .h 0 0)) (.n .e (some (.i .i64 (left))) .e)) none (.n (.n .e (some (.lst 1 (ints t))) .e) none .e)) none (.n (.n .e none (.n .e (some (.i .i64 ((j + 1 : Nat) : Int))) .e)) (some (.lst 1 (numsK .u16 ws))) (.n (.n .e (some (.pt (.i .h) 0 0)) .e) (some (.pt (.o .h) 0 0)) .e))) : T D) _
                (repeat' first | exact Rel.e | refine Rel.some ?_ ?_ ?_ | refine Rel.none ?_ ?_ | refine Rel.ee ?_ ?_)
                all_goals show Fz _ _ _ _
                all_goals first | exact .pu trivial | exact .kpt (show _ < 7 by simp [Pos.nat]) | exact .pu (pu_ints _) | exact .pu (pu_numsK _ _)
              · show Rel _ _ (ctO l cs0 wr off (a0 :: (s0 ++ [(⟨decide (w.tmod 2 = 1), ((w.tdiv 2).tmod (((ints t).length : Int) + 1)), sumP t 0 ((w.tdiv 2).tmod (((ints t).length : Int) + 1)).toNat + ((w.tdiv 32).tmod (2 * off + 1)) - off⟩ : Cnt)]))) _
                unfold ctO
                rw [slc_snoc, blc_snoc]
                (repeat' first | exact Rel.e | refine Rel.some ?_ ?_ ?_ | refine Rel.none ?_ ?_ | refine Rel.ee ?_ ?_)
                all_goals refine RO'.of (show _ < 7 by simp [Pos.nat]) ?_
                all_goals first | exact rowC_sh _ _ _ _ | exact ShC.same (ShC.cn (.pu trivial) (ShC.cn (.pu trivial) (ShC.cn (.pu trivial) (ShC.cn (.pu trivial) ShC.nl)))) | exact ShC.same (ShC.cn (.pu (pu_ints _)) (ShC.cn (.ksl (show _ < 7 by simp [sx6, Pos.nat])) (ShC.cn (.pu trivial) (ShC.cn (.pu trivial) ShC.nl)))) | exact ShC.grown (by omega) (PuL_iff.2 fun d hd => (List.mem_append.1 hd).elim (PuL_iff.1 (pu_flat _) d) (PuL_iff.1 (by simp [cntD, PuL, Pu]) d))
  · repeat' first | ((with_reducible apply WB.tt); conv => whnf) | ((with_reducible apply WB.ff); conv => whnf) | (refine Rn.seq ?_; conv => whnf) | (refine Rn.reg ?_; conv => whnf) | (refine Rn.drw ?_; conv => whnf) | (refine Rn.blk ?_; conv => whnf) | (refine Rn.skip ?_; conv => whnf) | (refine Rn.ret ?_; conv => whnf) | (refine Rn.exit ?_; conv => whnf) | (refine Rn.cond rfl ?_; conv => whnf) | (refine And.intro (InR.i64 (by omega) (by omega)) ?_; conv => whnf) | (refine And.intro (show _ ≠ (0 : Int) by omega) ?_; conv => whnf) | (refine WIx.intsN (by omega) ?_; conv => whnf) | (refine WIx.rowsN (by omega) ?_; conv => whnf)
    refine ⟨_, ⟨cs, t, left, rfl, htm, by rw [hlen]; exact hI⟩, .inr rfl, _, rfl, ?_⟩
    refine .tp (.cons (.ag (.cons (.pu (pu_ints _)) (.cons ?_ (.cons (.pu trivial) (.cons (.pu trivial) .nil))))) (.cons (.pu (pu_ints _)) .nil))
    cases cs with
    | nil => exact .ns
    | cons a s => exact Frz.whole (cs := (rows cntD (a :: s)).flatten.map fun d => Cell.o d s.length) (cur := s.length + 1) rfl (by rw [rows_length]; rfl) (cnts_three _) rfl (pu_cnts _)
end Go.Ev

namespace Go.Ev
open Go.Proofs
set_option maxRecDepth 100000
/-! ### Truth -/
theorem c_in (n a b : Int) (h : a ≤ n ∧ n ≤ b) : PureF Try.prog p54.ix [.i .i64 n, .ag [.i .i64 a, .i .i64 b]] (.b true) := by
  refine PureF.run fn53 (by simp) (by simp [PuL, PuE, Pu]) ?_; conv => whnf
  obtain ⟨h1, h2⟩ := h
  repeat' first | ((with_reducible apply WB.tt); conv => whnf) | ((with_reducible apply WB.ff); conv => whnf) | (refine Rn.seq ?_; conv => whnf) | (refine Rn.reg ?_; conv => whnf) | (refine Rn.drw ?_; conv => whnf) | (refine Rn.blk ?_; conv => whnf) | (refine Rn.skip ?_; conv => whnf) | (refine Rn.ret ?_; conv => whnf) | (refine Rn.exit ?_; conv => whnf) | (refine Rn.cond rfl ?_; conv => whnf) | (refine And.intro (InR.i64 (by omega) (by omega)) ?_; conv => whnf) | (refine And.intro (show _ ≠ (0 : Int) by omega) ?_; conv => whnf) | (refine WIx.intsN (by omega) ?_; conv => whnf) | (refine WIx.rowsN (by omega) ?_; conv => whnf) | ((with_reducible refine WB.decT (by first | with_reducible rfl | assumption | omega | exact ⟨rfl, rfl⟩) ?_); conv => whnf) | ((with_reducible refine WB.decF (by first | assumption | omega) ?_); conv => whnf) | ((with_reducible refine WB.ndT (by first | with_reducible rfl | assumption | omega | exact ⟨rfl, rfl⟩) ?_); conv => whnf) | ((with_reducible refine WB.ndF (by first | assumption | omega) ?_); conv => whnf) | ((with_reducible refine WB.nt ?_); conv => whnf) | ((with_reducible refine WB.nf ?_); conv => whnf) | ((with_reducible refine WB.dec (fun h => ?_) (fun h => ?_)) <;> conv => whnf) | ((with_reducible refine WB.ndec (fun h => ?_) (fun h => ?_)) <;> conv => whnf) | (refine WB.mk (fun h => ?_) (fun h => ?_) <;> conv => whnf)
  exact Fin.b rfl (decide_eq_true h2)
theorem c_steady (v : Int) (s : Bool) (h : 1 ≤ v ∧ v ≤ 3) (h1 : v = 1 → s = true) (h2 : v = 2 → s = false) : PureF Try.prog p56.ix [.i .i64 v, .b s] (.b true) := by
  have cI := c_In v 1 3
  rw [show inB v 1 3 = true by unfold inB; exact decide_eq_true h] at cI
  refine PureF.run fn55 (by simp) (by simp [PuL, PuE, Pu]) ?_; conv => whnf
  cases s with
  | true =>
    have n2 : ¬ v = 2 := fun e => by have := h2 e; cases this
    clear h1 h2
    by_cases e : v = 1
    · repeat' first | ((with_reducible apply WB.tt); conv => whnf) | ((with_reducible apply WB.ff); conv => whnf) | (refine Rn.seq ?_; conv => whnf) | (refine Rn.reg ?_; conv => whnf) | (refine Rn.drw ?_; conv => whnf) | (refine Rn.blk ?_; conv => whnf) | (refine Rn.skip ?_; conv => whnf) | (refine Rn.ret ?_; conv => whnf) | (refine Rn.exit ?_; conv => whnf) | (refine Rn.cond rfl ?_; conv => whnf) | (refine And.intro (InR.i64 (by omega) (by omega)) ?_; conv => whnf) | (refine And.intro (show _ ≠ (0 : Int) by omega) ?_; conv => whnf) | (refine WIx.intsN (by omega) ?_; conv => whnf) | (refine WIx.rowsN (by omega) ?_; conv => whnf) | (refine WCall.pure (cI) ?_; conv => whnf) | ((with_reducible refine WB.decT (by first | with_reducible rfl | assumption | omega | exact ⟨rfl, rfl⟩) ?_); conv => whnf) | ((with_reducible refine WB.decF (by first | assumption | omega) ?_); conv => whnf) | ((with_reducible refine WB.ndT (by first | with_reducible rfl | assumption | omega | exact ⟨rfl, rfl⟩) ?_); conv => whnf) | ((with_reducible refine WB.ndF (by first | assumption | omega) ?_); conv => whnf) | ((with_reducible refine WB.nt ?_); conv => whnf) | ((with_reducible refine WB.nf ?_); conv => whnf) | ((with_reducible refine WB.dec (fun h => ?_) (fun h => ?_)) <;> conv => whnf) | ((with_reducible refine WB.ndec (fun h => ?_) (fun h => ?_)) <;> conv => whnf) | (refine WB.mk (fun h => ?_) (fun h => ?_) <;> conv => whnf)
      exact Fin.b rfl (by simp [n2])
    · repeat' first | ((with_reducible apply WB.tt); conv => whnf) | ((with_reducible apply WB.ff); conv => whnf) | (refine Rn.seq ?_; conv => whnf) | (refine Rn.reg ?_; conv => whnf) | (refine Rn.drw ?_; conv => whnf) | (refine Rn.blk ?_; conv => whnf) | (refine Rn.skip ?_; conv => whnf) | (refine Rn.ret ?_; conv => whnf) | (refine Rn.exit ?_; conv => whnf) | (refine Rn.cond rfl ?_; conv => whnf) | (refine And.intro (InR.i64 (by omega) (by omega)) ?_; conv => whnf) | (refine And.intro (show _ ≠ (0 : Int) by omega) ?_; conv => whnf) | (refine WIx.intsN (by omega) ?_; conv => whnf) | (refine WIx.rowsN (by omega) ?_; conv => whnf) | (refine WCall.pure (cI) ?_; conv => whnf) | ((with_reducible refine WB.decT (by first | with_reducible rfl | assumption | omega | exact ⟨rfl, rfl⟩) ?_); conv => whnf) | ((with_reducible refine WB.decF (by first | assumption | omega) ?_); conv => whnf) | ((with_reducible refine WB.ndT (by first | with_reducible rfl | assumption | omega | exact ⟨rfl, rfl⟩) ?_); conv => whnf) | ((with_reducible refine WB.ndF (by first | assumption | omega) ?_); conv => whnf) | ((with_reducible refine WB.nt ?_); conv => whnf) | ((with_reducible refine WB.nf ?_); conv => whnf) | ((with_reducible refine WB.dec (fun h => ?_) (fun h => ?_)) <;> conv => whnf) | ((with_reducible refine WB.ndec (fun h => ?_) (fun h => ?_)) <;> conv => whnf) | (refine WB.mk (fun h => ?_) (fun h => ?_) <;> conv => whnf)
      exact Fin.b rfl (by simp [n2])
  | false =>
    have n1 : ¬ v = 1 := fun e => by have := h1 e; cases this
    clear h1 h2
    by_cases e : v = 2
    · repeat' first | ((with_reducible apply WB.tt); conv => whnf) | ((with_reducible apply WB.ff); conv => whnf) | (refine Rn.seq ?_; conv => whnf) | (refine Rn.reg ?_; conv => whnf) | (refine Rn.drw ?_; conv => whnf) | (refine Rn.blk ?_; conv => whnf) | (refine Rn.skip ?_; conv => whnf) | (refine Rn.ret ?_; conv => whnf) | (refine Rn.exit ?_; conv => whnf) | (refine Rn.cond rfl ?_; conv => whnf) | (refine And.intro (InR.i64 (by omega) (by omega)) ?_; conv => whnf) | (refine And.intro (show _ ≠ (0 : Int) by omega) ?_; conv => whnf) | (refine WIx.intsN (by omega) ?_; conv => whnf) | (refine WIx.rowsN (by omega) ?_; conv => whnf) | (refine WCall.pure (cI) ?_; conv => whnf) | ((with_reducible refine WB.decT (by first | with_reducible rfl | assumption | omega | exact ⟨rfl, rfl⟩) ?_); conv => whnf) | ((with_reducible refine WB.decF (by first | assumption | omega) ?_); conv => whnf) | ((with_reducible refine WB.ndT (by first | with_reducible rfl | assumption | omega | exact ⟨rfl, rfl⟩) ?_); conv => whnf) | ((with_reducible refine WB.ndF (by first | assumption | omega) ?_); conv => whnf) | ((with_reducible refine WB.nt ?_); conv => whnf) | ((with_reducible refine WB.nf ?_); conv => whnf) | ((with_reducible refine WB.dec (fun h => ?_) (fun h => ?_)) <;> conv => whnf) | ((with_reducible refine WB.ndec (fun h => ?_) (fun h => ?_)) <;> conv => whnf) | (refine WB.mk (fun h => ?_) (fun h => ?_) <;> conv => whnf)
      exact Fin.b rfl (by rfl)
    · repeat' first | ((with_reducible apply WB.tt); conv => whnf) | ((with_reducible apply WB.ff); conv => whnf) | (refine Rn.seq ?_; conv => whnf) | (refine Rn.reg ?_; conv => whnf) | (refine Rn.drw ?_; conv => whnf) | (refine Rn.blk ?_; conv => whnf) | (refine Rn.skip ?_; conv => whnf) | (refine Rn.ret ?_; conv => whnf) | (refine Rn.exit ?_; conv => whnf) | (refine Rn.cond rfl ?_; conv => whnf) | (refine And.intro (InR.i64 (by omega) (by omega)) ?_; conv => whnf) | (refine And.intro (show _ ≠ (0 : Int) by omega) ?_; conv => whnf) | (refine WIx.intsN (by omega) ?_; conv => whnf) | (refine WIx.rowsN (by omega) ?_; conv => whnf) | (refine WCall.pure (cI) ?_; conv => whnf) | ((with_reducible refine WB.decT (by first | with_reducible rfl | assumption | omega | exact ⟨rfl, rfl⟩) ?_); conv => whnf) | ((with_reducible refine WB.decF (by first | assumption | omega) ?_); conv => whnf) | ((with_reducible refine WB.ndT (by first | with_reducible rfl | assumption | omega | exact ⟨rfl, rfl⟩) ?_); conv => whnf) | ((with_reducible refine WB.ndF (by first | assumption | omega) ?_); conv => whnf) | ((with_reducible refine WB.nt ?_); conv => whnf) | ((with_reducible refine WB.nf ?_); conv => whnf) | ((with_reducible refine WB.dec (fun h => ?_) (fun h => ?_)) <;> conv => whnf) | ((with_reducible refine WB.ndec (fun h => ?_) (fun h => ?_)) <;> conv => whnf) | (refine WB.mk (fun h => ?_) (fun h => ?_) <;> conv => whnf)
      exact Fin.b rfl (by simp [e])
theorem verdR_spec {L : List Int} (hb : Bits L) {x : Int} (hx : x ∈ L) : (1 ≤ verdR L.sum L.length ∧ verdR L.sum L.length ≤ 3) ∧ (verdR L.sum L.length = 1 → x = 1) ∧ (verdR L.sum L.length = 2 → x = 0) := by
  obtain ⟨_, _, h3, h4⟩ := bits_sum L hb
  unfold verdR
  split
  · rename_i h
    exact ⟨by omega, (fun _ => h3.1 h x hx), (fun e => by cases e)⟩
  · split
    · rename_i h
      exact ⟨by omega, (fun e => by cases e), fun _ => h4.1 h x hx⟩
    · exact ⟨by omega, (fun e => by cases e), (fun e => by cases e)⟩
theorem bits_wf {t : List Int} (h : Bits t) (i : Nat) : wfB .i64 (t.getD i 0) = true := by
  by_cases hi : i < t.length
  · rcases h _ (getD_mem (d := 0) hi) with e | e <;> rw [e] <;> rfl
  · rw [List.getD_eq_getElem?_getD, List.getElem?_eq_none (by omega)]; rfl
end Go.Ev
