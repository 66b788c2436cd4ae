import Derived.Test.YtpemagogcagipaaEvF
set_option linter.all false
namespace Go.Ev
open Go.RowKit (Below)

/-! ### types -/
theorem run_isAgg {P : Program} {t : TypeId} {b : Bool} (h : isRow P t = some b) (w : World) : (isAgg t).run P w = .ok b w := by
  unfold isRow at h
  unfold isAgg
  rw [Sem.run_bind]
  split at h
  · rename_i fs hu; cases h; rw [run_underlying hu w]; rfl
  · rename_i hu; cases h; rw [run_underlying hu w]; rfl
  · rename_i d h1 h2 hu
    cases h
    rw [run_underlying hu w]
    cases d <;> first | rfl | (exact absurd rfl (h1 _)) | (exact absurd rfl (h2 _ _))
  · cases h
theorem run_sizeOf' {P : Program} {t : TypeId} {n : Nat} (h : szOf P t = some n) (w : World) : (sizeOf t).run P w = .ok n w := by
  unfold szOf at h
  cases hi : P.info? t with
  | none => rw [hi] at h; cases h
  | some i => rw [hi] at h; cases h; simp [sizeOf, typeInfo, hi]

section
variable {P : Program} {V : Sel} {γ : Gh} {a : Act} {w : World} {sl : T D} {ob : T C} {nx : Pos} {lg : Option (T Bool)} {nt : Nat} {o : Oper}

theorem DV_i {k : IntKind} {n : Int} {v : Value} (h : DV γ w (.i k n) v) : v = .int k n := by unfold DV at h; exact h
theorem DV_b {b : Bool} {v : Value} (h : DV γ w (.b b) v) : v = .bool b := by unfold DV at h; exact h
theorem DV_of_i (k : IntKind) (n : Int) : DV γ w (.i k n) (.int k n) := by unfold DV; rfl
theorem DV_of_b (b : Bool) : DV γ w (.b b) (.bool b) := by unfold DV; rfl

theorem mv_ok {x : Operand} {d : Pos} {r : RX} {Z : X} (ho : o.op = .move x ∨ o.op = .assign x) (hd : o.dst = some d.ix) (hlt : d.ix < nt) (hx : rx x = some r) (h : s_mv d r sl ob nx lg = some Z) : OpOk P nt o r.ss ⟨sl, ob, nx, lg⟩ Z := by
  unfold s_mv at h
  split at h
  · rename_i v hv
    rw [outK_eq h]
    refine OpOk.pure hd hlt (LgLe.refl _) fun V hs _ γ a w R => ⟨a.eval x, ?_, opd_ok hx hv R hs⟩
    rcases ho with ho | ho <;> simp [execOp, ho]
  · cases h

theorem pick_ok {c x y : Operand} {d : Pos} {rc r1 r2 : RX} {Z : X} (ho : o.op = .pick c x y) (hd : o.dst = some d.ix) (hlt : d.ix < nt) (hc : rx c = some rc) (hx : rx x = some r1) (hy : rx y = some r2) (h : s_pick d rc r1 r2 sl ob nx lg = some Z) :
    OpOk P nt o (rc.ss ++ (r1.ss ++ r2.ss)) ⟨sl, ob, nx, lg⟩ Z := by
  unfold s_pick at h
  split at h
  · rename_i hb
    split at h
    · rename_i v hv
      rw [outK_eq h]
      refine OpOk.pure hd hlt (LgLe.refl _) fun V hs _ γ a w R => ⟨a.eval x, ?_, opd_ok hx hv R fun s h => hs s (by simp [h])⟩
      have := DV_b (opd_ok hc hb R fun s h => hs s (by simp [h]))
      simp [execOp, ho, this, asBool]
    · cases h
  · rename_i hb
    split at h
    · rename_i v hv
      rw [outK_eq h]
      refine OpOk.pure hd hlt (LgLe.refl _) fun V hs _ γ a w R => ⟨a.eval y, ?_, opd_ok hy hv R fun s h => hs s (by simp [h])⟩
      have := DV_b (opd_ok hc hb R fun s h => hs s (by simp [h]))
      simp [execOp, ho, this, asBool]
    · cases h
  · cases h

/-! ### numbers -/
theorem arithK_ok {op : BinOp} {k : IntKind} {x y : Int} {f : D → Option X} {Z : X} (h : arithK op k x y f = some Z) (t : TypeId) (w : World) :
    ∃ v u, f v = some Z ∧ (binOp op t (.int k x) (.int k y)).run P w = .ok u w ∧ ∀ γ w', DV γ w' v u := by
  unfold arithK at h
  split at h
  · rw [wrapK_eq, iadd_eq] at h; exact ⟨_, _, h, by simp [binOp, Op.intArith], fun _ _ => DV_of_i _ _⟩
  · rw [wrapK_eq, isub_eq] at h; exact ⟨_, _, h, by simp [binOp, Op.intArith], fun _ _ => DV_of_i _ _⟩
  · rw [wrapK_eq, imul_eq] at h; exact ⟨_, _, h, by simp [binOp, Op.intArith], fun _ _ => DV_of_i _ _⟩
  · cases hb : eqB y (.ofNat 0) with
    | true => rw [hb] at h; cases h
    | false =>
      rw [hb] at h
      simp only [cond_false] at h
      have hy : y ≠ 0 := fun e => by rw [eqB_iff.2 (show y = Int.ofNat 0 from e)] at hb; cases hb
      rw [wrapK_eq, iquo_eq] at h; exact ⟨_, _, h, by simp [binOp, Op.intDiv, hy], fun _ _ => DV_of_i _ _⟩
  · cases hb : eqB y (.ofNat 0) with
    | true => rw [hb] at h; cases h
    | false =>
      rw [hb] at h
      simp only [cond_false] at h
      have hy : y ≠ 0 := fun e => by rw [eqB_iff.2 (show y = Int.ofNat 0 from e)] at hb; cases hb
      rw [intK_eq, irem_eq] at h; exact ⟨_, _, h, by simp [binOp, Op.intDiv, hy], fun _ _ => DV_of_i _ _⟩
  · rw [wrapK_eq, iand, ibit_eq slowAnd_eq] at h; exact ⟨_, _, h, by simp [binOp, Op.intBits, slowAnd], fun _ _ => DV_of_i _ _⟩
  · rw [wrapK_eq, ior, ibit_eq slowOr_eq] at h; exact ⟨_, _, h, by simp [binOp, Op.intBits, slowOr], fun _ _ => DV_of_i _ _⟩
  · rw [wrapK_eq, ixor, ibit_eq slowXor_eq] at h; exact ⟨_, _, h, by simp [binOp, Op.intBits, slowXor], fun _ _ => DV_of_i _ _⟩
  · rw [wrapK_eq, inot, ibit_eq slowNot_eq] at h; exact ⟨_, _, h, by simp [binOp, Op.intBits, slowNot], fun _ _ => DV_of_i _ _⟩
  · rw [boolK_eq, eqB_eq] at h; exact ⟨_, _, h, by simp [binOp, Op.intCmp], fun _ _ => DV_of_b _⟩
  · rw [boolK_eq, eqB_eq] at h; exact ⟨_, .bool (x != y), h, by simp [binOp, Op.intCmp], fun _ _ => by unfold DV; rfl⟩
  · rw [boolK_eq, ltB_eq] at h; exact ⟨_, _, h, by simp [binOp, Op.intCmp], fun _ _ => DV_of_b _⟩
  · rw [boolK_eq, ltB_eq] at h; exact ⟨_, .bool (decide (x ≤ y)), h, by simp [binOp, Op.intCmp], fun _ _ => by unfold DV; rw [← decide_not]; simp only [Int.not_lt]⟩
  · rw [boolK_eq, ltB_eq] at h; exact ⟨_, _, h, by simp [binOp, Op.intCmp], fun _ _ => DV_of_b _⟩
  · rw [boolK_eq, ltB_eq] at h; exact ⟨_, .bool (decide (y ≤ x)), h, by simp [binOp, Op.intCmp], fun _ _ => by unfold DV; rw [← decide_not]; simp only [Int.not_lt]⟩
  · cases h
  · cases h
theorem binK_ok {op : BinOp} {x y : D} {f : D → Option X} {Z : X} (h : binK op x y f = some Z) (t : TypeId) (w : World) {vx vy : Value} (hx : DV γ w x vx) (hy : DV γ w y vy) :
    ∃ v u, f v = some Z ∧ (binOp op t vx vy).run P w = .ok u w ∧ ∀ γ w', DV γ w' v u := by
  unfold binK at h
  split at h
  · rename_i k m k' n
    cases DV_i hx
    cases DV_i hy
    have shift : ∀ op : BinOp, (op = .shl ∨ op = .shr) → shiftK op k m n f = some Z → ∃ v u, f v = some Z ∧ (binOp op t (.int k m) (.int k' n)).run P w = .ok u w ∧ ∀ γ w', DV γ w' v u := by
      intro op hop h
      cases n with
      | negSucc n => cases h
      | ofNat n =>
        rcases hop with rfl | rfl
        · have h : wrapK k (ishl m (minN n (kbits k))) f = some Z := h
          rw [wrapK_eq, ishl_eq, minN_eq, kbits_eq] at h
          have hn : ¬ ((n : Int) < 0) := by omega
          exact ⟨_, _, h, by simp [binOp, Op.shift, hn], fun _ _ => DV_of_i _ _⟩
        · have h : intK k (ishr m (minN n (kbits k))) f = some Z := h
          rw [intK_eq, ishr_eq, minN_eq, kbits_eq] at h
          have hn : ¬ ((n : Int) < 0) := by omega
          exact ⟨_, _, h, by simp [binOp, Op.shift, hn], fun _ _ => DV_of_i _ _⟩
    split at h
    · exact shift _ (.inl rfl) h
    · exact shift _ (.inr rfl) h
    · cases hk : kEq k k' with
      | false => rw [hk] at h; cases h
      | true =>
        rw [hk] at h
        cases kEq_iff.1 hk
        exact arithK_ok h t w
  · cases h
theorem run_eqGuard_int {op : BinOp} {t : TypeId} {x y : Operand} {k k' : IntKind} {m n : Int} (w : World) : (eqGuard op t x y (.int k m) (.int k' n)).run P w = .ok () w := by
  cases op <;> simp [eqGuard]
theorem bin_ok {op : BinOp} {t t' : TypeId} {x y : Operand} {d : Pos} {r1 r2 : RX} {Z : X} (ho : o.op = .binOp op t x y t') (hd : o.dst = some d.ix) (hlt : d.ix < nt) (hx : rx x = some r1) (hy : rx y = some r2) (h : s_bin d op r1 r2 sl ob nx lg = some Z) :
    OpOk P nt o (r1.ss ++ r2.ss) ⟨sl, ob, nx, lg⟩ Z := by
  unfold s_bin at h
  split at h
  · rename_i p q hp hq
    have key : ∃ v, outK sl ob nx lg d v = some Z ∧ ∀ (γ : Gh) (w : World) vx vy, DV γ w p vx → DV γ w q vy → ∃ u, (binOp op t vx vy).run P w = .ok u w ∧ (eqGuard op t x y vx vy).run P w = .ok () w ∧ DV γ w v u := by
      have h0 := h
      unfold binK at h0
      split at h0
      · rename_i k m k' n
        obtain ⟨v, u, h1, h2, h3⟩ := binK_ok (P := P) (γ := ⟨fun _ => 0, fun _ _ => (0, 0), fun _ => False⟩) h t (default : World) (DV_of_i k m) (DV_of_i k' n)
        refine ⟨v, h1, fun γ w vx vy hx hy => ?_⟩
        obtain ⟨v', u', h1', h2', h3'⟩ := binK_ok (P := P) h t w hx hy
        have e1 := outK_eq h1
        have e2 := outK_eq h1'
        have : v' = v := by
          have e : T.set d v' sl = T.set d v sl := by rw [e1] at e2; exact (X.mk.inj e2).1.symm
          have := congrArg (fun t => T.get t d) e
          simp only [T.get_set_same, Option.some.injEq] at this
          exact this
        subst this
        cases DV_i hx
        cases DV_i hy
        exact ⟨u', h2', run_eqGuard_int w, h3' γ w⟩
      · cases h0
    obtain ⟨v, h1, h2⟩ := key
    rw [outK_eq h1]
    refine OpOk.pure hd hlt (LgLe.refl _) fun V hs _ γ a w R => ?_
    obtain ⟨u, h3, h4, h5⟩ := h2 γ w _ _ (opd_ok hx hp R fun s h => hs s (by simp [h])) (opd_ok hy hq R fun s h => hs s (by simp [h]))
    exact ⟨u, by simp [execOp, ho, h3, h4], h5⟩
  · cases h
theorem un_ok {op : UnOp} {t : TypeId} {x : Operand} {d : Pos} {r : RX} {Z : X} (ho : o.op = .unOp op t x) (hd : o.dst = some d.ix) (hlt : d.ix < nt) (hx : rx x = some r) (h : s_un d op r sl ob nx lg = some Z) :
    OpOk P nt o r.ss ⟨sl, ob, nx, lg⟩ Z := by
  unfold s_un at h
  split at h
  · rename_i b hb
    rw [boolK_eq] at h
    rw [outK_eq h]
    refine OpOk.pure hd hlt (LgLe.refl _) fun V hs _ γ a w R => ⟨.bool !b, ?_, DV_of_b _⟩
    have := DV_b (opd_ok hx hb R hs)
    simp [execOp, ho, this, Op.unary]
  · rename_i k n hb
    rw [wrapK_eq, isub_eq] at h
    rw [outK_eq h]
    refine OpOk.pure hd hlt (LgLe.refl _) fun V hs _ γ a w R => ⟨.int k (k.wrap (0 - n)), ?_, DV_of_i _ _⟩
    have := DV_i (opd_ok hx hb R hs)
    simp [execOp, ho, this, Op.unary, Op.intArith]
  · cases h
theorem cvi_ok {t' t : TypeId} {x : Operand} {d : Pos} {k k' : IntKind} {r : RX} {Z : X} (ho : o.op = .convert t' t x) (hu' : P.underlying t' = some (.int k')) (hu : P.underlying t = some (.int k)) (hd : o.dst = some d.ix) (hlt : d.ix < nt) (hx : rx x = some r) (h : s_cvi d k r sl ob nx lg = some Z) :
    OpOk P nt o r.ss ⟨sl, ob, nx, lg⟩ Z := by
  unfold s_cvi at h
  split at h
  · rename_i kk n hb
    rw [wrapK_eq] at h
    rw [outK_eq h]
    refine OpOk.pure hd hlt (LgLe.refl _) fun V hs _ γ a w R => ⟨.int k (k.wrap n), ?_, DV_of_i _ _⟩
    have := DV_i (opd_ok hx hb R hs)
    simp [execOp, ho, this, convert, run_underlying hu, run_underlying hu', Conv.intToInt]
  · cases h
theorem maxmin_ok {b : Builtin} {args : Array Operand} {tys : Array TypeId} {x y : Operand} {d : Pos} {r1 r2 : RX} {Z : X} (ho : o.op = .call { callee := .builtin b, args := args, argTypes := tys }) (ha : args.toList = [x, y]) (hd : o.dst = some d.ix) (hlt : d.ix < nt) (hx : rx x = some r1) (hy : rx y = some r2)
    (h : (b = .max ∧ s_mx d r1 r2 sl ob nx lg = some Z) ∨ (b = .min ∧ s_mn d r1 r2 sl ob nx lg = some Z)) : OpOk P nt o (r1.ss ++ r2.ss) ⟨sl, ob, nx, lg⟩ Z := by
  have hargs : args = #[x, y] := by rw [← Array.toArray_toList (xs := args), ha]
  subst hargs
  rcases h with ⟨rfl, h⟩ | ⟨rfl, h⟩
  · unfold s_mx at h
    split at h
    · rename_i k m k' n hp hq
      cases hk : kEq k k' with
      | false => rw [hk] at h; cases h
      | true =>
        rw [hk] at h
        cases kEq_iff.1 hk
        simp only [cond_true, ltB_eq] at h
        have h : outK sl ob nx lg d (.i k (max m n)) = some Z := by
          by_cases hlt : m < n
          · simp only [hlt, decide_true, cond_true] at h
            rw [show max m n = n by omega]; exact h
          · simp only [hlt, decide_false, cond_false] at h
            rw [show max m n = m by omega]; exact h
        rw [outK_eq h]
        refine OpOk.pure hd hlt (LgLe.refl _) fun V hs _ γ a w R => ⟨.int k (max m n), ?_, DV_of_i _ _⟩
        have e1 := DV_i (opd_ok hx hp R fun s h => hs s (by simp [h]))
        have e2 := DV_i (opd_ok hy hq R fun s h => hs s (by simp [h]))
        simp only [execOp, ho, resolve, Sem.run_bind, Sem.run_pure, Result.andThen_ok, invoke, builtin, List.map_toArray, List.map_cons, List.map_nil, e1, e2]
        have hm : (if m < n then n else m) = max m n := by split <;> omega
        simp [Builtin.max_, Builtin.max2, hm]
    · cases h
  · unfold s_mn at h
    split at h
    · rename_i k m k' n hp hq
      cases hk : kEq k k' with
      | false => rw [hk] at h; cases h
      | true =>
        rw [hk] at h
        cases kEq_iff.1 hk
        simp only [cond_true, ltB_eq] at h
        have h : outK sl ob nx lg d (.i k (min m n)) = some Z := by
          by_cases hlt : n < m
          · simp only [hlt, decide_true, cond_true] at h
            rw [show min m n = n by omega]; exact h
          · simp only [hlt, decide_false, cond_false] at h
            rw [show min m n = m by omega]; exact h
        rw [outK_eq h]
        refine OpOk.pure hd hlt (LgLe.refl _) fun V hs _ γ a w R => ⟨.int k (min m n), ?_, DV_of_i _ _⟩
        have e1 := DV_i (opd_ok hx hp R fun s h => hs s (by simp [h]))
        have e2 := DV_i (opd_ok hy hq R fun s h => hs s (by simp [h]))
        simp only [execOp, ho, resolve, Sem.run_bind, Sem.run_pure, Result.andThen_ok, invoke, builtin, List.map_toArray, List.map_cons, List.map_nil, e1, e2]
        have hm : (if n < m then n else m) = min m n := by split <;> omega
        simp [Builtin.min_, Builtin.min2, hm]
    · cases h
end
end Go.Ev
