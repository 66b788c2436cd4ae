import Derived.Test.YtihlllachfonoaaGreatDoorEvF
set_option linter.all false
namespace Go.Ev
open Go.RowKit (Below)

/-! ### types -/
theorem run_isAgg {P : Program} {t : TypeId} {b : Bool} (h : isRow P t = some b) (w : World) : (isAgg t).run P w = .ok b w := by
  unfold isRow at h
  unfold isAgg
  rw [Sem.run_bind]
  split at h
  · rename_i fs hu; cases h; rw [run_underlying hu w]; rfl
  · rename_i hu; cases h; rw [run_underlying hu w]; rfl
  · rename_i d h1 h2 hu
    cases h
    rw [run_underlying hu w]
    cases d <;> first | rfl | (exact absurd rfl (h1 _)) | (exact absurd rfl (h2 _ _))
  · cases h
theorem run_sizeOf' {P : Program} {t : TypeId} {n : Nat} (h : szOf P t = some n) (w : World) : (sizeOf t).run P w = .ok n w := by
  unfold szOf at h
  cases hi : P.info? t with
  | none => rw [hi] at h; cases h
  | some i => rw [hi] at h; cases h; simp [sizeOf, typeInfo, hi]

section
variable {P : Program} {V : Sel} {γ : Gh} {a : Act} {w : World} {sl : T D} {ob : T C} {nx : Pos} {lg : Option (T Bool)} {nt : Nat} {o : Oper}

theorem DV_i {k : IntKind} {n : Int} {v : Value} (h : DV γ w (.i k n) v) : v = .int k n := by unfold DV at h; exact h
theorem DV_b {b : Bool} {v : Value} (h : DV γ w (.b b) v) : v = .bool b := by unfold DV at h; exact h
theorem DV_of_i (k : IntKind) (n : Int) : DV γ w (.i k n) (.int k n) := by unfold DV; rfl
theorem DV_of_b (b : Bool) : DV γ w (.b b) (.bool b) := by unfold DV; rfl

theorem mv_ok {x : Operand} {d : Pos} {r : RX} {Z : X} (ho : o.op = .move x ∨ o.op = .assign x) (hd : o.dst = some d.ix) (hlt : d.ix < nt) (hx : rx x = some r) (h : s_mv d r sl ob nx lg = some Z) : OpOk P nt o r.ss ⟨sl, ob, nx, lg⟩ Z := by
  unfold s_mv at h
  split at h
  · rename_i v hv
    rw [outK_eq h]
    refine OpOk.pure hd hlt (LgLe.refl _) fun V hs _ γ a w R => ⟨a.eval x, ?_, opd_ok hx hv R hs⟩
    rcases ho with ho | ho <;> simp [execOp, ho]
  · cases h

theorem pick_ok {c x y : Operand} {d : Pos} {rc r1 r2 : RX} {Z : X} (ho : o.op = .pick c x y) (hd : o.dst = some d.ix) (hlt : d.ix < nt) (hc : rx c = some rc) (hx : rx x = some r1) (hy : rx y = some r2) (h : s_pick d rc r1 r2 sl ob nx lg = some Z) :
    OpOk P nt o (rc.ss ++ (r1.ss ++ r2.ss)) ⟨sl, ob, nx, lg⟩ Z := by
  unfold s_pick at h
  split at h
  · rename_i hb
    split at h
    · rename_i v hv
      rw [outK_eq h]
      refine OpOk.pure hd hlt (LgLe.refl _) fun V hs _ γ a w R => ⟨a.eval x, ?_, opd_ok hx hv R fun s h => hs s (by simp [h])⟩
      have := DV_b (opd_ok hc hb R fun s h => hs s (by simp [h]))
      simp [execOp, ho, this, asBool]
    · cases h
  · rename_i hb
    split at h
    · rename_i v hv
      rw [outK_eq h]
      refine OpOk.pure hd hlt (LgLe.refl _) fun V hs _ γ a w R => ⟨a.eval y, ?_, opd_ok hy hv R fun s h => hs s (by simp [h])⟩
      have := DV_b (opd_ok hc hb R fun s h => hs s (by simp [h]))
      simp [execOp, ho, this, asBool]
    · cases h
  · cases h

/-! ### numbers -/
theorem arithK_ok {op : BinOp} {k : IntKind} {x y : Int} {f : D → Option X} {Z : X} (h : arithK op k x y f = some Z) (t : TypeId) (w : World) :
    ∃ v u, f v = some Z ∧ (binOp op t (.int k x) (.int k y)).run P w = .ok u w ∧ ∀ γ w', DV γ w' v u := by
  unfold arithK at h
  split at h
  · rw [wrapK_eq, iadd_eq] at h; exact ⟨_, _, h, by simp [binOp, Op.intArith], fun _ _ => DV_of_i _ _⟩
  · rw [wrapK_eq, isub_eq] at h; exact ⟨_, _, h, by simp [binOp, Op.intArith], fun _ _ => DV_of_i _ _⟩
  · rw [wrapK_eq, imul_eq] at h; exact ⟨_, _, h, by simp [binOp, Op.intArith], fun _ _ => DV_of_i _ _⟩
  · cases hb : eqB y (.ofNat 0) with
    | true => rw [hb] at h; cases h
    | false =>
      rw [hb] at h
      simp only [cond_false] at h
      have hy : y ≠ 0 := fun e => by rw [eqB_iff.2 (show y = Int.ofNat 0 from e)] at hb; cases hb
      rw [wrapK_eq, iquo_eq] at h; exact ⟨_, _, h, by simp [binOp, Op.intDiv, hy], fun _ _ => DV_of_i _ _⟩
  · cases hb : eqB y (.ofNat 0) with
    | true => rw [hb] at h; cases h
    | false =>
      rw [hb] at h
      simp only [cond_false] at h
      have hy : y ≠ 0 := fun e => by rw [eqB_iff.2 (show y = Int.ofNat 0 from e)] at hb; cases hb
      rw [intK_eq, irem_eq] at h; exact ⟨_, _, h, by simp [binOp, Op.intDiv, hy], fun _ _ => DV_of_i _ _⟩
  · rw [wrapK_eq, iand, ibit_eq slowAnd_eq] at h; exact ⟨_, _, h, by simp [binOp, Op.intBits, slowAnd], fun _ _ => DV_of_i _ _⟩
  · rw [wrapK_eq, ior, ibit_eq slowOr_eq] at h; exact ⟨_, _, h, by simp [binOp, Op.intBits, slowOr], fun _ _ => DV_of_i _ _⟩
  · rw [wrapK_eq, ixor, ibit_eq slowXor_eq] at h; exact ⟨_, _, h, by simp [binOp, Op.intBits, slowXor], fun _ _ => DV_of_i _ _⟩
  · rw [wrapK_eq, inot, ibit_eq slowNot_eq] at h; exact ⟨_, _, h, by simp [binOp, Op.intBits, slowNot], fun _ _ => DV_of_i _ _⟩
  · rw [boolK_eq, eqB_eq] at h; exact ⟨_, _, h, by simp [binOp, Op.intCmp], fun _ _ => DV_of_b _⟩
  · rw [boolK_eq, eqB_eq] at h; exact ⟨_, .bool (x != y), h, by simp [binOp, Op.intCmp], fun _ _ => by unfold DV; rfl⟩
  · rw [boolK_eq, ltB_eq] at h; exact ⟨_, _, h, by simp [binOp, Op.intCmp], fun _ _ => DV_of_b _⟩
  · rw [boolK_eq, ltB_eq] at h; exact ⟨_, .bool (decide (x ≤ y)), h, by simp [binOp, Op.intCmp], fun _ _ => by unfold DV; rw [← decide_not]; simp only [Int.not_lt]⟩
  · rw [boolK_eq, ltB_eq] at h; exact ⟨_, _, h, by simp [binOp, Op.intCmp], fun _ _ => DV_of_b _⟩
  · rw [boolK_eq, ltB_eq] at h; exact ⟨_, .bool (decide (y ≤ x)), h, by simp [binOp, Op.intCmp], fun _ _ => by unfold DV; rw [← decide_not]; simp only [Int.not_lt]⟩
  · cases h
  · cases h
theorem binK_ok {op : BinOp} {x y : D} {f : D → Option X} {Z : X} (h : binK op x y f = some Z) (t : TypeId) (w : World) {vx vy : Value} (hx : DV γ w x vx) (hy : DV γ w y vy) :
    ∃ v u, f v = some Z ∧ (binOp op t vx vy).run P w = .ok u w ∧ ∀ γ w', DV γ w' v u := by
  unfold binK at h
  split at h
  · rename_i k m k' n
    cases DV_i hx
    cases DV_i hy
    have shift : ∀ op : BinOp, (op = .shl ∨ op = .shr) → shiftK op k m n f = some Z → ∃ v u, f v = some Z ∧ (binOp op t (.int k m) (.int k' n)).run P w = .ok u w ∧ ∀ γ w', DV γ w' v u := by
      intro op hop h
      cases n with
      | negSucc n => cases h
      | ofNat n =>
        rcases hop with rfl | rfl
        · have h : wrapK k (ishl m (minN n (kbits k))) f = some Z := h
          rw [wrapK_eq, ishl_eq, minN_eq, kbits_eq] at h
          have hn : ¬ ((n : Int) < 0) := by omega
          exact ⟨_, _, h, by simp [binOp, Op.shift, hn], fun _ _ => DV_of_i _ _⟩
        · have h : intK k (ishr m (minN n (kbits k))) f = some Z := h
          rw [intK_eq, ishr_eq, minN_eq, kbits_eq] at h
          have hn : ¬ ((n : Int) < 0) := by omega
          exact ⟨_, _, h, by simp [binOp, Op.shift, hn], fun _ _ => DV_of_i _ _⟩
    split at h
    · exact shift _ (.inl rfl) h
    · exact shift _ (.inr rfl) h
    · cases hk : kEq k k' with
      | false => rw [hk] at h; cases h
      | true =>
        rw [hk] at h
        cases kEq_iff.1 hk
        exact arithK_ok h t w
  · cases h
theorem run_eqGuard_int {op : BinOp} {t : TypeId} {x y : Operand} {k k' : IntKind} {m n : Int} (w : World) : (eqGuard op t x y (.int k m) (.int k' n)).run P w = .ok () w := by
  cases op <;> simp [eqGuard]
theorem bin_ok {op : BinOp} {t t' : TypeId} {x y : Operand} {d : Pos} {r1 r2 : RX} {Z : X} (ho : o.op = .binOp op t x y t') (hd : o.dst = some d.ix) (hlt : d.ix < nt) (hx : rx x = some r1) (hy : rx y = some r2) (h : s_bin d op r1 r2 sl ob nx lg = some Z) :
    OpOk P nt o (r1.ss ++ r2.ss) ⟨sl, ob, nx, lg⟩ Z := by
  unfold s_bin at h
  split at h
  · rename_i p q hp hq
    have key : ∃ v, outK sl ob nx lg d v = some Z ∧ ∀ (γ : Gh) (w : World) vx vy, DV γ w p vx → DV γ w q vy → ∃ u, (binOp op t vx vy).run P w = .ok u w ∧ (eqGuard op t x y vx vy).run P w = .ok () w ∧ DV γ w v u := by
      have h0 := h
      unfold binK at h0
      split at h0
      · rename_i k m k' n
        obtain ⟨v, u, h1, h2, h3⟩ := binK_ok (P := P) (γ := ⟨fun _ => 0, fun _ _ => (0, 0), fun _ => False⟩) h t (default : World) (DV_of_i k m) (DV_of_i k' n)
        refine ⟨v, h1, fun γ w vx vy hx hy => ?_⟩
        obtain ⟨v', u', h1', h2', h3'⟩ := binK_ok (P := P) h t w hx hy
        have e1 := outK_eq h1
        have e2 := outK_eq h1'
        have : v' = v := by
          have e : T.set d v' sl = T.set d v sl := by rw [e1] at e2; exact (X.mk.inj e2).1.symm
          have := congrArg (fun t => T.get t d) e
          simp only [T.get_set_same, Option.some.injEq] at this
          exact this
        subst this
        cases DV_i hx
        cases DV_i hy
        exact ⟨u', h2', run_eqGuard_int w, h3' γ w⟩
      · cases h0
    obtain ⟨v, h1, h2⟩ := key
    rw [outK_eq h1]
    refine OpOk.pure hd hlt (LgLe.refl _) fun V hs _ γ a w R => ?_
    obtain ⟨u, h3, h4, h5⟩ := h2 γ w _ _ (opd_ok hx hp R fun s h => hs s (by simp [h])) (opd_ok hy hq R fun s h => hs s (by simp [h]))
    exact ⟨u, by simp [execOp, ho, h3, h4], h5⟩
  · cases h
theorem un_ok {op : UnOp} {t : TypeId} {x : Operand} {d : Pos} {r : RX} {Z : X} (ho : o.op = .unOp op t x) (hd : o.dst = some d.ix) (hlt : d.ix < nt) (hx : rx x = some r) (h : s_un d op r sl ob nx lg = some Z) :
    OpOk P nt o r.ss ⟨sl, ob, nx, lg⟩ Z := by
  unfold s_un at h
  split at h
  · rename_i b hb
    rw [boolK_eq] at h
    rw [outK_eq h]
    refine OpOk.pure hd hlt (LgLe.refl _) fun V hs _ γ a w R => ⟨.bool !b, ?_, DV_of_b _⟩
    have := DV_b (opd_ok hx hb R hs)
    simp [execOp, ho, this, Op.unary]
  · rename_i k n hb
    rw [wrapK_eq, isub_eq] at h
    rw [outK_eq h]
    refine OpOk.pure hd hlt (LgLe.refl _) fun V hs _ γ a w R => ⟨.int k (k.wrap (0 - n)), ?_, DV_of_i _ _⟩
    have := DV_i (opd_ok hx hb R hs)
    simp [execOp, ho, this, Op.unary, Op.intArith]
  · cases h
theorem cvi_ok {t' t : TypeId} {x : Operand} {d : Pos} {k k' : IntKind} {r : RX} {Z : X} (ho : o.op = .convert t' t x) (hu' : P.underlying t' = some (.int k')) (hu : P.underlying t = some (.int k)) (hd : o.dst = some d.ix) (hlt : d.ix < nt) (hx : rx x = some r) (h : s_cvi d k r sl ob nx lg = some Z) :
    OpOk P nt o r.ss ⟨sl, ob, nx, lg⟩ Z := by
  unfold s_cvi at h
  split at h
  · rename_i kk n hb
    rw [wrapK_eq] at h
    rw [outK_eq h]
    refine OpOk.pure hd hlt (LgLe.refl _) fun V hs _ γ a w R => ⟨.int k (k.wrap n), ?_, DV_of_i _ _⟩
    have := DV_i (opd_ok hx hb R hs)
    simp [execOp, ho, this, convert, run_underlying hu, run_underlying hu', Conv.intToInt]
  · cases h
theorem maxmin_ok {b : Builtin} {args : Array Operand} {tys : Array TypeId} {x y : Operand} {d : Pos} {r1 r2 : RX} {Z : X} (ho : o.op = .call { callee := .builtin b, args := args, argTypes := tys }) (ha : args.toList = [x, y]) (hd : o.dst = some d.ix) (hlt : d.ix < nt) (hx : rx x = some r1) (hy : rx y = some r2)
    (h : (b = .max ∧ s_mx d r1 r2 sl ob nx lg = some Z) ∨ (b = .min ∧ s_mn d r1 r2 sl ob nx lg = some Z)) : OpOk P nt o (r1.ss ++ r2.ss) ⟨sl, ob, nx, lg⟩ Z := by
  have hargs : args = #[x, y] := by rw [← Array.toArray_toList (xs := args), ha]
  subst hargs
  rcases h with ⟨rfl, h⟩ | ⟨rfl, h⟩
  · unfold s_mx at h
    split at h
    · rename_i k m k' n hp hq
      cases hk : kEq k k' with
      | false => rw [hk] at h; cases h
      | true =>
        rw [hk] at h
        cases kEq_iff.1 hk
        simp only [cond_true, ltB_eq] at h
        have h : outK sl ob nx lg d (.i k (max m n)) = some Z := by
          by_cases hlt : m < n
          · simp only [hlt, decide_true, cond_true] at h
            rw [show max m n = n by omega]; exact h
          · simp only [hlt, decide_false, cond_false] at h
            rw [show max m n = m by omega]; exact h
        rw [outK_eq h]
        refine OpOk.pure hd hlt (LgLe.refl _) fun V hs _ γ a w R => ⟨.int k (max m n), ?_, DV_of_i _ _⟩
        have e1 := DV_i (opd_ok hx hp R fun s h => hs s (by simp [h]))
        have e2 := DV_i (opd_ok hy hq R fun s h => hs s (by simp [h]))
        simp only [execOp, ho, resolve, Sem.run_bind, Sem.run_pure, Result.andThen_ok, invoke, builtin, List.map_toArray, List.map_cons, List.map_nil, e1, e2]
        have hm : (if m < n then n else m) = max m n := by split <;> omega
        simp [Builtin.max_, Builtin.max2, hm]
    · cases h
  · unfold s_mn at h
    split at h
    · rename_i k m k' n hp hq
      cases hk : kEq k k' with
      | false => rw [hk] at h; cases h
      | true =>
        rw [hk] at h
        cases kEq_iff.1 hk
        simp only [cond_true, ltB_eq] at h
        have h : outK sl ob nx lg d (.i k (min m n)) = some Z := by
          by_cases hlt : n < m
          · simp only [hlt, decide_true, cond_true] at h
            rw [show min m n = n by omega]; exact h
          · simp only [hlt, decide_false, cond_false] at h
            rw [show min m n = m by omega]; exact h
        rw [outK_eq h]
        refine OpOk.pure hd hlt (LgLe.refl _) fun V hs _ γ a w R => ⟨.int k (min m n), ?_, DV_of_i _ _⟩
        have e1 := DV_i (opd_ok hx hp R fun s h => hs s (by simp [h]))
        have e2 := DV_i (opd_ok hy hq R fun s h => hs s (by simp [h]))
        simp only [execOp, ho, resolve, Sem.run_bind, Sem.run_pure, Result.andThen_ok, invoke, builtin, List.map_toArray, List.map_cons, List.map_nil, e1, e2]
        have hm : (if n < m then n else m) = min m n := by split <;> omega
        simp [Builtin.min_, Builtin.min2, hm]
    · cases h
end
end Go.Ev

namespace Go.Ev
open Go.RowKit (Below)

section
variable {P : Program} {V : Sel} {γ : Gh} {a : Act} {w : World} {sl : T D} {ob : T C} {nx : Pos} {lg : Option (T Bool)} {nt : Nat} {o : Oper}

theorem DV_pt {id : Pos} {off st : Nat} {v : Value} (h : DV γ w (.pt id off st) v) : st < γ.cur id ∧ (γ.β id st).2 ≤ off ∧ v = .pointer (some ⟨(γ.β id st).1, off - (γ.β id st).2, none⟩) := by unfold DV at h; exact h
theorem DV_sl {id : Pos} {off len st z : Nat} {v : Value} (h : DV γ w (.sl id off len st z) v) : st < γ.cur id ∧ (γ.β id st).2 ≤ off ∧ ∃ cap e n, v = .slice (some ⟨(γ.β id st).1, off - (γ.β id st).2, none⟩) len cap ∧ len ≤ cap ∧ w.shape? (γ.β id st).1 = some (e, n) ∧ off - (γ.β id st).2 + cap * z ≤ n := by unfold DV at h; exact h
theorem DV_lst {z : Nat} {es : List (List D)} {v : Value} (h : DV γ w (.lst z es) v) : ∃ p cap, v = .slice p es.length cap ∧ es.length ≤ cap ∧ (p = none → cap = 0) ∧ (es = [] ∨ ∃ b o vs e fr, γ.im b ∧ w.heap[b]? = some (.cells vs e fr) ∧ p = some ⟨b, o, none⟩ ∧ o + es.length * z ≤ vs.size ∧ DVE γ w z es (vs.toList.drop o) ∧ ∀ u ∈ (vs.toList.drop o).take (es.length * z), u.oneCell' = true) := by unfold DV at h; exact h
theorem DV_pl {r : List D} {k : Nat} {v : Value} (h : DV γ w (.pl r k) v) : ∃ b o vs e fr, γ.im b ∧ w.heap[b]? = some (.cells vs e fr) ∧ v = .pointer (some ⟨b, o + k, none⟩) ∧ o + r.length ≤ vs.size ∧ DVL γ w r ((vs.toList.drop o).take r.length) ∧ ∀ u ∈ (vs.toList.drop o).take r.length, u.oneCell' = true := by unfold DV at h; exact h
/-- The rows, one by one. -/
theorem DVE_at {z : Nat} : ∀ {es : List (List D)} {vs : List Value}, DVE γ w z es vs → ∀ {m : Nat} {r : List D}, es[m]? = some r → r.length = z ∧ DVL γ w r ((vs.drop (m * z)).take z)
  | [], _, _, m, r, h => by simp at h
  | x :: es, vs, H, 0, r, h => by
    unfold DVE at H
    simp at h
    subst h
    simpa using ⟨H.1, H.2.1⟩
  | x :: es, vs, H, m + 1, r, h => by
    unfold DVE at H
    have := DVE_at H.2.2 (m := m) (r := r) (by simpa using h)
    rw [List.drop_drop] at this
    rw [Nat.add_mul, Nat.one_mul, Nat.add_comm]
    exact this
theorem DVE_flat {z : Nat} : ∀ {es : List (List D)} {vs : List Value}, DVE γ w z es vs → DVL γ w es.flatten (vs.take (es.length * z))
  | [], _, _ => by simp; exact DVL.nil
  | x :: es, vs, H => by
    unfold DVE at H
    have := DVE_flat H.2.2
    have e : vs.take ((x :: es).length * z) = vs.take z ++ (vs.drop z).take (es.length * z) := by
      simp only [List.length_cons]
      rw [Nat.add_mul, Nat.one_mul, Nat.add_comm, List.take_add]
    rw [e]
    exact H.2.1.append this
theorem DVE_drop {z : Nat} : ∀ {n : Nat} {es : List (List D)} {vs : List Value}, DVE γ w z es vs → DVE γ w z (es.drop n) (vs.drop (n * z))
  | 0, es, vs, H => by simpa using H
  | n + 1, [], vs, H => by simp; unfold DVE; trivial
  | n + 1, x :: es, vs, H => by
    unfold DVE at H
    have := DVE_drop (n := n) H.2.2
    rw [List.drop_drop] at this
    rw [Nat.add_mul, Nat.one_mul, Nat.add_comm (n * z)]
    exact this
theorem DVE_take {z : Nat} : ∀ {n : Nat} {es : List (List D)} {vs : List Value}, DVE γ w z es vs → DVE γ w z (es.take n) vs
  | 0, es, vs, H => by simp; unfold DVE; trivial
  | n + 1, [], vs, H => by simp; unfold DVE; trivial
  | n + 1, x :: es, vs, H => by
    unfold DVE at H
    simp only [List.take_succ_cons]
    unfold DVE
    exact ⟨H.1, H.2.1, DVE_take H.2.2⟩
theorem DVE_chunks {z : Nat} : ∀ {n : Nat} {l : List D} {vs : List Value}, n * z ≤ l.length → DVL γ w l (vs.take l.length) → DVE γ w z (chunks z n l) vs
  | 0, l, vs, _, _ => by unfold chunks DVE; trivial
  | n + 1, l, vs, hn, H => by
    unfold chunks DVE
    rw [Nat.add_mul, Nat.one_mul] at hn
    have h1 := H.take z
    rw [List.take_take, Nat.min_eq_left (by omega)] at h1
    have h2 := H.drop z
    rw [List.drop_take] at h2
    refine ⟨by simp; omega, h1, DVE_chunks (by simp; omega) ?_⟩
    simpa using h2
theorem chunks_length {z : Nat} : ∀ {n : Nat} {l : List D}, (chunks z n l).length = n
  | 0, _ => rfl
  | n + 1, l => by simp [chunks, chunks_length]
theorem DV_ag {cs : List D} {v : Value} (h : DV γ w (.ag cs) v) : ∃ vs : Array Value, v = .agg vs ∧ DVL γ w cs vs.toList ∧ ∀ u ∈ vs.toList, u.oneCell' = true := by unfold DV at h; exact h
theorem DV_tp {cs : List D} {v : Value} (h : DV γ w (.tp cs) v) : ∃ vs : Array Value, v = .tuple vs ∧ DVL γ w cs vs.toList := by unfold DV at h; exact h
theorem DV_fn {f : Pos} {x y : List D} {v : Value} (h : DV γ w (.fn f x y) v) : ∃ vx vy : Array Value, v = .func (.func f.ix) vx vy ∧ DVL γ w x vx.toList ∧ DVL γ w y vy.toList := by unfold DV at h; exact h

/-- A part of a struct or an array. -/
theorem run_part_row {t : TypeId} {n : Nat} (h1 : isRow P t = some true) (h2 : szOf P t = some n) (cs : Array Value) (off : Nat) (w : World) : (part t cs off).run P w = .ok (.agg (cs.extract off (off + n))) w := by
  simp [part, run_isAgg h1, run_sizeOf' h2]
theorem run_part_one {t : TypeId} (h1 : isRow P t = some false) {cs : Array Value} {off : Nat} {v : Value} (hv : cs[off]? = some v) (w : World) : (part t cs off).run P w = .ok v w := by
  simp [part, run_isAgg h1, hv]

theorem fnl_ok {f : FuncId} {first caps : Array Operand} {d pf : Pos} {r1 r2 : List RX} {Z : X} (ho : o.op = .makeFunc (.func f) first caps) (hd : o.dst = some d.ix) (hlt : d.ix < nt) (hf : slot f = some pf) (hx : rxs first.toList = some r1) (hy : rxs caps.toList = some r2) (h : s_fnl d pf r1 r2 sl ob nx lg = some Z) :
    OpOk P nt o (RX.sss r1 ++ RX.sss r2) ⟨sl, ob, nx, lg⟩ Z := by
  unfold s_fnl at h
  split at h
  · rename_i p q hp hq
    rw [outK_eq h]
    refine OpOk.pure hd hlt (LgLe.refl _) fun V hs _ γ a w R => ⟨.func (.func f) (first.map a.eval) (caps.map a.eval), ?_, ?_⟩
    · simp [execOp, ho, Instr.makeFunc]
    · unfold DV
      refine ⟨_, _, by rw [slot_ix hf], ?_, ?_⟩
      · rw [Array.toList_map]; exact opds_ok hx hp R fun s h => hs s (by simp [h])
      · rw [Array.toList_map]; exact opds_ok hy hq R fun s h => hs s (by simp [h])
  · cases h

theorem ext_ok {x : Operand} {n : Nat} {d : Pos} {r : RX} {Z : X} (ho : o.op = .extract x n) (hd : o.dst = some d.ix) (hlt : d.ix < nt) (hx : rx x = some r) (h : s_ext d r n sl ob nx lg = some Z) : OpOk P nt o r.ss ⟨sl, ob, nx, lg⟩ Z := by
  unfold s_ext at h
  split at h
  · rename_i vs hv
    split at h
    · rename_i v hn
      rw [outK_eq h]
      rw [nthC_eq] at hn
      refine OpOk.pure hd hlt (LgLe.refl _) fun V hs _ γ a w R => ?_
      obtain ⟨us, e1, e2⟩ := DV_tp (opd_ok hx hv R hs)
      obtain ⟨e3, e4⟩ := DVL_iff.1 e2
      have hlt : n < us.size := by have := (List.getElem?_eq_some_iff.1 hn).1; simp at e3; omega
      refine ⟨us[n], ?_, e4 n v _ hn (by simp [hlt])⟩
      simp [execOp, ho, e1, Instr.extract, hlt]
    · cases h
  · cases h

theorem fld_ok {t ft : TypeId} {x : Operand} {f k n : Nat} {row : Bool} {d : Pos} {r : RX} {Z : X} (ho : o.op = .field t x f) (hd : o.dst = some d.ix) (hlt : d.ix < nt) (hx : rx x = some r) (hf : fieldOf P t f = some (k, ft)) (hr : isRow P ft = some row) (hn : szOf P ft = some n)
    (h : s_fld d r k n row sl ob nx lg = some Z) : OpOk P nt o r.ss ⟨sl, ob, nx, lg⟩ Z := by
  have hrun : ∀ (cs : Array Value) (w : World), (Instr.field t (.agg cs) f).run P w = (part ft cs k).run P w := by
    intro cs w
    unfold fieldOf at hf
    split at hf
    · rename_i fs hu
      split at hf
      · rename_i fd hfd
        cases hf
        simp [Instr.field, run_underlying hu, hfd, asAgg]
      · cases hf
    · cases hf
  unfold s_fld at h
  split at h
  · rename_i cs hv
    cases row with
    | true =>
      simp only [cond_true] at h
      obtain ⟨h1, h2⟩ := takeK_ok h
      rw [dropC_eq] at h1 h2
      rw [outK_eq h2]
      refine OpOk.pure hd hlt (LgLe.refl _) fun V hs _ γ a w R => ?_
      obtain ⟨us, e1, e2, e3⟩ := DV_ag (opd_ok hx hv R hs)
      refine ⟨.agg (us.extract k (k + n)), ?_, ?_⟩
      · simp [execOp, ho, e1, hrun, run_part_row hr hn]
      · unfold DV
        refine ⟨_, rfl, ?_, fun u hu => e3 u ?_⟩
        · rw [Array.toList_extract]
          have : us.toList.extract k (k + n) = (us.toList.drop k).take n := by simp [List.extract]
          rw [this]
          exact (e2.drop k).take n
        · rw [Array.toList_extract] at hu
          exact List.mem_of_mem_drop (List.mem_of_mem_take (by simpa [List.extract] using hu))
    | false =>
      simp only [cond_false] at h
      split at h
      · rename_i v hk
        rw [nthC_eq] at hk
        rw [outK_eq h]
        refine OpOk.pure hd hlt (LgLe.refl _) fun V hs _ γ a w R => ?_
        obtain ⟨us, e1, e2, e3⟩ := DV_ag (opd_ok hx hv R hs)
        obtain ⟨e4, e5⟩ := DVL_iff.1 e2
        have hlt : k < us.size := by have := (List.getElem?_eq_some_iff.1 hk).1; simp at e4; omega
        refine ⟨us[k], ?_, e5 k v _ hk (by simp [hlt])⟩
        simp [execOp, ho, e1, hrun, run_part_one hr (show us[k]? = some us[k] by simp [hlt])]
      · cases h
  · cases h

theorem nilc_ok {x : Operand} {d : Pos} {r : RX} {Z : X} (ho : o.op = .nilCheck x) (hd : o.dst = some d.ix) (hlt : d.ix < nt) (hx : rx x = some r) (h : s_nilc d r sl ob nx lg = some Z) : OpOk P nt o r.ss ⟨sl, ob, nx, lg⟩ Z := by
  unfold s_nilc at h
  split at h <;> first | (cases h; done) | skip
  · rename_i id off st hv
    rw [outK_eq h]
    refine OpOk.pure hd hlt (LgLe.refl _) fun V hs _ γ a w R => ⟨a.eval x, ?_, opd_ok hx hv R hs⟩
    obtain ⟨_, _, e⟩ := DV_pt (opd_ok hx hv R hs)
    simp [execOp, ho, e]
  · rename_i f p q hv
    rw [outK_eq h]
    refine OpOk.pure hd hlt (LgLe.refl _) fun V hs _ γ a w R => ⟨a.eval x, ?_, opd_ok hx hv R hs⟩
    obtain ⟨_, _, e, _⟩ := DV_fn (opd_ok hx hv R hs)
    simp [execOp, ho, e]
  · rename_i id hv
    rw [outK_eq h]
    refine OpOk.pure hd hlt (LgLe.refl _) fun V hs _ γ a w R => ⟨a.eval x, ?_, opd_ok hx hv R hs⟩
    have := opd_ok hx hv R hs
    unfold DV at this
    simp [execOp, ho, this.2]
  · rename_i r' k hv
    rw [outK_eq h]
    refine OpOk.pure hd hlt (LgLe.refl _) fun V hs _ γ a w R => ⟨a.eval x, ?_, opd_ok hx hv R hs⟩
    obtain ⟨_, _, _, _, _, _, _, e, _⟩ := DV_pl (opd_ok hx hv R hs)
    simp [execOp, ho, e]

theorem fad_ok {t ft : TypeId} {x : Operand} {f k n : Nat} {d : Pos} {r : RX} {Z : X} (ho : o.op = .fieldAddr t x f) (hd : o.dst = some d.ix) (hlt : d.ix < nt) (hx : rx x = some r) (hf : fieldOf P t f = some (k, ft)) (hn : szOf P ft = some (n + 1))
    (h : s_fad d r k sl ob nx lg = some Z) : OpOk P nt o r.ss ⟨sl, ob, nx, lg⟩ Z := by
  unfold s_fad at h
  split at h
  · rename_i id off st hv
    rw [natK_eq] at h
    rw [outK_eq h]
    refine OpOk.pure hd hlt (LgLe.refl _) fun V hs _ γ a w R => ?_
    obtain ⟨e1, e2, e3⟩ := DV_pt (opd_ok hx hv R hs)
    refine ⟨.pointer (some ⟨(γ.β id st).1, off - (γ.β id st).2 + k, none⟩), ?_, ?_⟩
    · unfold fieldOf at hf
      split at hf
      · rename_i fs hu
        split at hf
        · rename_i fd hfd
          cases hf
          simp [execOp, ho, e3, Instr.fieldAt, run_underlying hu, hfd, Instr.sureAddr, fieldPlace, run_sizeOf' hn, Addr.add_mid]
        · cases hf
      · cases hf
    · unfold DV
      have hadd : Nat.add off k = off + k := rfl
      refine ⟨e1, by rw [hadd]; omega, ?_⟩
      rw [hadd, show off + k - (γ.β id st).2 = off - (γ.β id st).2 + k by omega]
  · rename_i r' off hv
    rw [natK_eq] at h
    rw [outK_eq h]
    refine OpOk.pure hd hlt (LgLe.refl _) fun V hs _ γ a w R => ?_
    obtain ⟨b, q, vs, e, fr, k1, k2, e3, k4⟩ := DV_pl (opd_ok hx hv R hs)
    refine ⟨.pointer (some ⟨b, q + off + k, none⟩), ?_, ?_⟩
    · unfold fieldOf at hf
      split at hf
      · rename_i fs hu
        split at hf
        · rename_i fd hfd
          cases hf
          simp [execOp, ho, e3, Instr.fieldAt, run_underlying hu, hfd, Instr.sureAddr, fieldPlace, run_sizeOf' hn, Addr.add_mid]
        · cases hf
      · cases hf
    · unfold DV
      exact ⟨b, q, vs, e, fr, k1, k2, by rw [Nat.add_assoc]; rfl, k4⟩
  · cases h

theorem idx_ok {n : Int} {len m : Nat} (h : idx n len = some m) : n = (m : Int) ∧ m < len := by
  unfold idx at h
  split at h
  · rename_i k
    cases hb : Nat.blt k len with
    | true => rw [hb] at h; cases h; exact ⟨rfl, Nat.le_of_ble_eq_true hb⟩
    | false => rw [hb] at h; cases h
  · cases h

theorem ixs_ok {t el : TypeId} {x i : Operand} {z : Nat} {d : Pos} {r1 r2 : RX} {Z : X} (ho : o.op = .indexAddr t x i) (hd : o.dst = some d.ix) (hlt : d.ix < nt) (hx : rx x = some r1) (hi : rx i = some r2) (hu : P.underlying t = some (.slice el)) (hz : szOf P el = some z)
    (h : s_ixs d z r1 r2 sl ob nx lg = some Z) : OpOk P nt o (r1.ss ++ r2.ss) ⟨sl, ob, nx, lg⟩ Z := by
  unfold s_ixs at h
  split at h
  · rename_i id off len st z' k n hv hk
    cases hb : Nat.beq z z' with
    | false => rw [hb] at h; cases h
    | true =>
      rw [hb] at h
      simp only [cond_true] at h
      split at h
      · rename_i m hm
        obtain ⟨rfl, hm⟩ := idx_ok hm
        rw [natK_eq] at h
        rw [outK_eq h]
        refine OpOk.pure hd hlt (LgLe.refl _) fun V hs _ γ a w R => ?_
        obtain ⟨e1, e2, cap, e, n, e3, e4, e5, e6⟩ := DV_sl (opd_ok hx hv R fun s h => hs s (by simp [h]))
        have e7 := DV_i (opd_ok hi hk R fun s h => hs s (by simp [h]))
        refine ⟨.pointer (some ⟨(γ.β id st).1, off - (γ.β id st).2 + m * z, none⟩), ?_, ?_⟩
        · have h1 : ¬ len ≤ m := by omega
          simp [execOp, ho, e3, e7, Instr.indexAt, asIntOf, run_underlying hu, run_sizeOf' hz, Addr.add_mid, h1]
        · unfold DV
          have hadd : Nat.add off (Nat.mul m z) = off + m * z := rfl
          refine ⟨e1, by rw [hadd]; omega, ?_⟩
          rw [hadd, show off + m * z - (γ.β id st).2 = off - (γ.β id st).2 + m * z by omega]
      · cases h
  · rename_i z' es k n hv hk
    cases hb : Nat.beq z z' with
    | false => rw [hb] at h; cases h
    | true =>
      rw [hb] at h
      simp only [cond_true] at h
      obtain rfl := Nat.eq_of_beq_eq_true hb
      split at h
      · rename_i m hm0
        obtain ⟨rfl, hm⟩ := idx_ok hm0
        split at h
        · rename_i r hr
          rw [nthC_eq] at hr
          rw [outK_eq h]
          refine OpOk.pure hd hlt (LgLe.refl _) fun V hs _ γ a w R => ?_
          obtain ⟨p, cap, e3, e4, _, e5⟩ := DV_lst (opd_ok hx hv R fun s h => hs s (by simp [h]))
          have e7 := DV_i (opd_ok hi hk R fun s h => hs s (by simp [h]))
          rcases e5 with rfl | ⟨b, q, vs, e, fr, k1, k2, rfl, k4, k5, k6⟩
          · cases hr
          refine ⟨.pointer (some ⟨b, q + m * z, none⟩), ?_, ?_⟩
          · have h1 : ¬ es.length ≤ m := by omega
            simp [execOp, ho, e3, e7, Instr.indexAt, asIntOf, run_underlying hu, run_sizeOf' hz, Addr.add_mid, h1]
          · unfold DV
            obtain ⟨l1, l2⟩ := DVE_at k5 hr
            have hle : m * z + z ≤ es.length * z := by rw [← Nat.succ_mul]; exact Nat.mul_le_mul_right z hm
            refine ⟨b, q + m * z, vs, e, fr, k1, k2, rfl, by rw [l1]; omega, ?_, ?_⟩
            · rw [l1, ← List.drop_drop]; exact l2
            · rw [l1, ← List.drop_drop]
              intro u hu
              refine k6 u ?_
              have : ((vs.toList.drop q).drop (m * z)).take z = ((vs.toList.drop q).take (m * z + z)).drop (m * z) := by rw [List.drop_take]; simp
              rw [this] at hu
              have h2 := List.mem_of_mem_drop hu
              have h3 : (vs.toList.drop q).take (m * z + z) = ((vs.toList.drop q).take (es.length * z)).take (m * z + z) := by rw [List.take_take, Nat.min_eq_left hle]
              rw [h3] at h2
              exact List.mem_of_mem_take h2
        · cases h
      · cases h
  · cases h

theorem ixv_ok {t el : TypeId} {x i : Operand} {len z : Nat} {row : Bool} {d : Pos} {r1 r2 : RX} {Z : X} (ho : o.op = .index t x i) (hd : o.dst = some d.ix) (hlt : d.ix < nt) (hx : rx x = some r1) (hi : rx i = some r2) (hu : P.underlying t = some (.array len el)) (hr : isRow P el = some row) (hz : szOf P el = some z)
    (h : s_ixv d len z row r1 r2 sl ob nx lg = some Z) : OpOk P nt o (r1.ss ++ r2.ss) ⟨sl, ob, nx, lg⟩ Z := by
  unfold s_ixv at h
  split at h
  · rename_i cs k n hv hk
    split at h
    · rename_i m hm0
      obtain ⟨rfl, hm⟩ := idx_ok hm0
      have hrun : ∀ (us : Array Value) (w : World), (Instr.index t (.agg us) (.int k (m : Int))).run P w = (part el us (m * z)).run P w := by
        intro us w
        have h1 : ¬ len ≤ m := by omega
        simp [Instr.index, asIntOf, run_underlying hu, run_sizeOf' hz]
        intro h; exact absurd h h1
      cases row with
      | true =>
        simp only [cond_true] at h
        obtain ⟨h1, h2⟩ := takeK_ok h
        rw [dropC_eq] at h1 h2
        rw [outK_eq h2]
        refine OpOk.pure hd hlt (LgLe.refl _) fun V hs _ γ a w R => ?_
        obtain ⟨us, e1, e2, e3⟩ := DV_ag (opd_ok hx hv R fun s h => hs s (by simp [h]))
        have e7 := DV_i (opd_ok hi hk R fun s h => hs s (by simp [h]))
        refine ⟨.agg (us.extract (m * z) (m * z + z)), ?_, ?_⟩
        · simp [execOp, ho, e1, e7, hrun, run_part_row hr hz]
        · unfold DV
          refine ⟨_, rfl, ?_, fun u hu => e3 u ?_⟩
          · rw [Array.toList_extract]
            have : us.toList.extract (m * z) (m * z + z) = (us.toList.drop (m * z)).take z := by simp [List.extract]
            rw [this]
            exact (e2.drop (m * z)).take z
          · rw [Array.toList_extract] at hu
            exact List.mem_of_mem_drop (List.mem_of_mem_take (by simpa [List.extract] using hu))
      | false =>
        simp only [cond_false] at h
        split at h
        · rename_i v hk2
          rw [nthC_eq] at hk2
          rw [outK_eq h]
          refine OpOk.pure hd hlt (LgLe.refl _) fun V hs _ γ a w R => ?_
          obtain ⟨us, e1, e2, e3⟩ := DV_ag (opd_ok hx hv R fun s h => hs s (by simp [h]))
          have e7 := DV_i (opd_ok hi hk R fun s h => hs s (by simp [h]))
          obtain ⟨e4, e5⟩ := DVL_iff.1 e2
          have hk2 : cs[m * z]? = some v := hk2
          have hlt2 : m * z < us.size := by have := (List.getElem?_eq_some_iff.1 hk2).1; simp at e4; omega
          refine ⟨us[m * z], ?_, e5 (m * z) v _ hk2 (by simp [hlt2])⟩
          simp [execOp, ho, e1, e7, hrun, run_part_one hr (show us[m * z]? = some us[m * z] by simp [hlt2])]
        · cases h
    · cases h
  · cases h

theorem ixt_ok {t : TypeId} {x i : Operand} {d : Pos} {r1 r2 : RX} {Z : X} (ho : o.op = .index t x i) (hd : o.dst = some d.ix) (hlt : d.ix < nt) (hx : rx x = some r1) (hi : rx i = some r2) (hu : P.underlying t = some .string)
    (h : s_ixt d r1 r2 sl ob nx lg = some Z) : OpOk P nt o (r1.ss ++ r2.ss) ⟨sl, ob, nx, lg⟩ Z := by
  unfold s_ixt at h
  split at h
  · rename_i b k n hv hk
    split at h
    · rename_i m
      split at h
      · rename_i v hb
        rw [nthC_eq] at hb
        rw [natK_eq] at h
        rw [outK_eq h]
        refine OpOk.pure hd hlt (LgLe.refl _) fun V hs _ γ a w R => ?_
        have e1 := opd_ok hx hv R fun s h => hs s (by simp [h])
        unfold DV at e1
        have e7 := DV_i (opd_ok hi hk R fun s h => hs s (by simp [h]))
        refine ⟨.int .u8 (v.toNat : Int), ?_, DV_of_i _ _⟩
        have hlt3 : m < b.data.size := by have := (List.getElem?_eq_some_iff.1 hb).1; simpa using this
        have hlt2 : m < b.size := hlt3
        have hget : b[m]? = some v := by
          rw [getElem?_pos b m hlt2]
          congr 1
          have : b.data[m]'hlt3 = v := by
            have := (List.getElem?_eq_some_iff.1 hb).2
            simpa using this
          exact this
        have e8 : a.eval i = .int k (m : Int) := e7
        simp [execOp, ho, e1, e8, Instr.index, asIntOf, run_underlying hu, hget]
      · cases h
    · cases h
  · cases h

theorem ixa_ok {t el : TypeId} {x i : Operand} {len z : Nat} {d : Pos} {r1 r2 : RX} {Z : X} (ho : o.op = .indexAddr t x i) (hd : o.dst = some d.ix) (hlt : d.ix < nt) (hx : rx x = some r1) (hi : rx i = some r2) (hu : P.underlying t = some (.array len el)) (hz : szOf P el = some z)
    (h : s_ixa d len z r1 r2 sl ob nx lg = some Z) : OpOk P nt o (r1.ss ++ r2.ss) ⟨sl, ob, nx, lg⟩ Z := by
  unfold s_ixa at h
  split at h
  · rename_i id off st k n hv hk
    split at h
    · rename_i m hm
      obtain ⟨rfl, hm⟩ := idx_ok hm
      rw [natK_eq] at h
      rw [outK_eq h]
      refine OpOk.pure hd hlt (LgLe.refl _) fun V hs _ γ a w R => ?_
      obtain ⟨e1, e2, e3⟩ := DV_pt (opd_ok hx hv R fun s h => hs s (by simp [h]))
      have e7 := DV_i (opd_ok hi hk R fun s h => hs s (by simp [h]))
      refine ⟨.pointer (some ⟨(γ.β id st).1, off - (γ.β id st).2 + m * z, none⟩), ?_, ?_⟩
      · have h1 : ¬ len ≤ m := by omega
        simp [execOp, ho, e3, e7, Instr.indexAt, asIntOf, run_underlying hu, Instr.sureAddr, run_sizeOf' hz, Addr.add_mid, h1]
      · unfold DV
        have hadd : Nat.add off (Nat.mul m z) = off + m * z := rfl
        refine ⟨e1, by rw [hadd]; omega, ?_⟩
        rw [hadd, show off + m * z - (γ.β id st).2 = off - (γ.β id st).2 + m * z by omega]
    · cases h
  · rename_i r off k n hv hk
    split at h
    · rename_i m hm
      obtain ⟨rfl, hm⟩ := idx_ok hm
      rw [natK_eq] at h
      rw [outK_eq h]
      refine OpOk.pure hd hlt (LgLe.refl _) fun V hs _ γ a w R => ?_
      obtain ⟨b, q, vs, e, fr, k1, k2, e3, k4⟩ := DV_pl (opd_ok hx hv R fun s h => hs s (by simp [h]))
      have e7 := DV_i (opd_ok hi hk R fun s h => hs s (by simp [h]))
      refine ⟨.pointer (some ⟨b, q + off + m * z, none⟩), ?_, ?_⟩
      · have h1 : ¬ len ≤ m := by omega
        simp [execOp, ho, e3, e7, Instr.indexAt, asIntOf, run_underlying hu, Instr.sureAddr, run_sizeOf' hz, Addr.add_mid, h1]
      · unfold DV
        exact ⟨b, q, vs, e, fr, k1, k2, by rw [Nat.add_assoc]; rfl, k4⟩
    · cases h
  · cases h

theorem len_ok {args : Array Operand} {tys : Array TypeId} {t el : TypeId} {x : Operand} {d : Pos} {r : RX} {Z : X} (ho : o.op = .call { callee := .builtin .len, args := args, argTypes := tys }) (ha : args.toList = [x]) (ht : tys.toList = [t]) (hd : o.dst = some d.ix) (hlt : d.ix < nt) (hx : rx x = some r) (hu : P.underlying t = some (.slice el))
    (h : s_len d r sl ob nx lg = some Z) : OpOk P nt o r.ss ⟨sl, ob, nx, lg⟩ Z := by
  have hargs : args = #[x] := by rw [← Array.toArray_toList (xs := args), ha]
  have htys : tys = #[t] := by rw [← Array.toArray_toList (xs := tys), ht]
  subst hargs
  subst htys
  have key : ∀ (a : Act) (w : World) (ad : Option Addr) (n c : Nat), a.eval x = .slice ad n c → (execOp a.eval o).run P w = .ok (.value (.int .i64 (n : Int))) w := by
    intro a w ad n c e
    simp [execOp, ho, resolve, invoke, builtin, e, Builtin.len_, goInt, run_underlying hu]
  unfold s_len at h
  split at h <;> first | (cases h; done) | skip
  · rename_i hv
    rw [outK_eq h]
    refine OpOk.pure hd hlt (LgLe.refl _) fun V hs _ γ a w R => ⟨_, key a w none 0 0 ?_, DV_of_i _ _⟩
    have := opd_ok hx hv R hs
    unfold DV at this; exact this
  · rename_i hv
    rw [outK_eq h]
    refine OpOk.pure hd hlt (LgLe.refl _) fun V hs _ γ a w R => ?_
    have := opd_ok hx hv R hs
    unfold DV at this
    obtain ⟨ad, e⟩ := this
    exact ⟨_, key a w _ 0 0 e, DV_of_i _ _⟩
  · rename_i id off n st z hv
    rw [outK_eq h]
    refine OpOk.pure hd hlt (LgLe.refl _) fun V hs _ γ a w R => ?_
    obtain ⟨_, _, cap, _, _, e, _⟩ := DV_sl (opd_ok hx hv R hs)
    exact ⟨_, key a w _ _ _ e, DV_of_i _ _⟩
  · rename_i z es hv
    rw [natK_eq] at h
    rw [outK_eq h]
    refine OpOk.pure hd hlt (LgLe.refl _) fun V hs _ γ a w R => ?_
    obtain ⟨p, cap, e, _⟩ := DV_lst (opd_ok hx hv R hs)
    exact ⟨_, key a w _ _ _ e, DV_of_i _ _⟩
end
end Go.Ev
