import Derived.Test.YtpemagogcagipaaEvP
set_option linter.all false
namespace Go.Ev
open Go.RowKit (Below)

section
variable {P : Program} {V : Sel} {γ : Gh} {a : Act} {w : World} {sl : T D} {ob : T C} {nx : Pos} {lg : Option (T Bool)} {nt : Nat} {o : Oper} {ro : Option Nat}

theorem eqr_ok {op : BinOp} {t t' : TypeId} {x y : Operand} {neg : Bool} {ks : List LK} {d : Pos} {r1 r2 : RX} {Z : X} (ho : o.op = .binOp op t x y t') (hop : op = bif neg then .neq else .eql) (hk : keyRow P t = some ks) (hd : o.dst = some d.ix) (hlt : d.ix < nt) (hx : rx x = some r1) (hy : rx y = some r2)
    (h : s_eqr d neg ks r1 r2 sl ob nx lg = some Z) : OpOk P nt o (r1.ss ++ r2.ss) ⟨sl, ob, nx, lg⟩ Z := by
  unfold s_eqr at h
  split at h
  · rename_i p q hp hq
    split at h
    · rename_i e he
      rw [boolK_eq] at h
      rw [outK_eq h]
      refine OpOk.pure hd hlt (LgLe.refl _) fun V hs _ γ a w R => ⟨.bool (bif neg then !e else e), ?_, DV_of_b _⟩
      obtain ⟨h1, _, us, vs, h2, h3, _, _⟩ := run_equal_row hk he (opd_ok hx hp R fun s h => hs s (by simp [h])) (opd_ok hy hq R fun s h => hs s (by simp [h])) w
      have hg := (keyRow_ok hk).2.2.1
      rw [h2, h3] at h1
      subst hop
      cases neg <;> simp [execOp, ho, h2, h3, eqGuard, hg, binOp, h1]
    · cases h
  · cases h

theorem run_equalIn_ptr {t e : TypeId} (hu : P.underlying t = some (.pointer e)) (p : Option Addr) (w : World) : (Op.equal t (.pointer p) (.pointer none)).run P w = .ok p.isNone w ∧ (Op.equal t (.pointer none) (.pointer p)).run P w = .ok p.isNone w := by
  have h9 : ∀ d : Nat, (Op.equalIn (d + 1) t (.pointer p) (.pointer none)).run P w = .ok p.isNone w ∧ (Op.equalIn (d + 1) t (.pointer none) (.pointer p)).run P w = .ok p.isNone w := by
    intro d
    constructor
    · rw [Op.equalIn, Sem.run_bind, run_underlying hu]
      cases p <;> rfl
    · rw [Op.equalIn, Sem.run_bind, run_underlying hu]
      rfl
  exact h9 9999
theorem run_equalIn_sl {t e : TypeId} (hu : P.underlying t = some (.slice e)) (p : Option Addr) (n c : Nat) (w : World) : (Op.equal t (.slice p n c) (.slice none 0 0)).run P w = .ok p.isNone w ∧ (Op.equal t (.slice none 0 0) (.slice p n c)).run P w = .ok p.isNone w := by
  have h9 : ∀ d : Nat, (Op.equalIn (d + 1) t (.slice p n c) (.slice none 0 0)).run P w = .ok p.isNone w ∧ (Op.equalIn (d + 1) t (.slice none 0 0) (.slice p n c)).run P w = .ok p.isNone w := by
    intro d
    constructor
    · rw [Op.equalIn, Sem.run_bind, run_underlying hu]
      cases p <;> rfl
    · rw [Op.equalIn, Sem.run_bind, run_underlying hu]
      rfl
  exact h9 9999
theorem run_equalIn_mp {t k e : TypeId} (hu : P.underlying t = some (.map k e)) (p : Option Nat) (w : World) : (Op.equal t (.map p) (.map none)).run P w = .ok p.isNone w := by
  have h9 : ∀ d : Nat, (Op.equalIn (d + 1) t (.map p) (.map none)).run P w = .ok p.isNone w := by
    intro d
    rw [Op.equalIn, Sem.run_bind, run_underlying hu]
    cases p <;> rfl
  exact h9 9999
theorem run_equalIn_bl {t : TypeId} (hu : P.underlying t = some .bool) (x y : Bool) (w : World) : (Op.equal t (.bool x) (.bool y)).run P w = .ok (x == y) w := by
  have h9 : ∀ d : Nat, (Op.equalIn (d + 1) t (.bool x) (.bool y)).run P w = .ok (x == y) w := by
    intro d
    rw [Op.equalIn, Sem.run_bind, run_underlying hu]
    rfl
  exact h9 9999
theorem run_equalIn_fn {t : TypeId} {p q : Array TypeId} {v : Bool} (hu : P.underlying t = some (.func p q v)) (w : World) : (Op.equal t .nilFunc .nilFunc).run P w = .ok true w ∧ ∀ f x y, (Op.equal t (.func f x y) .nilFunc).run P w = .ok false w := by
  have h9 : ∀ d : Nat, (Op.equalIn (d + 1) t .nilFunc .nilFunc).run P w = .ok true w ∧ ∀ f x y, (Op.equalIn (d + 1) t (.func f x y) .nilFunc).run P w = .ok false w := by
    intro d
    refine ⟨?_, fun f x y => ?_⟩
    · rw [Op.equalIn, Sem.run_bind, run_underlying hu]; rfl
    · rw [Op.equalIn, Sem.run_bind, run_underlying hu]; rfl
  exact h9 9999

theorem eqV_ok {t : TypeId} {tk : Nat} {x y : D} {b : Bool} (ht : eqOK P t = some tk) (h : eqV tk x y = some b) {u v : Value} (hu : DV γ w x u) (hv : DV γ w y v) (w0 : World) :
    (Op.equal t u v).run P w0 = .ok b w0 ∧ ∀ (op : BinOp) (p q : Operand), (op = .eql ∨ op = .neq) → (eqGuard op t p q u v).run P w0 = .ok () w0 ∧ (binOp op t u v).run P w0 = ((Op.equal t u v).run P w0).andThen fun r w' => .ok (.bool (bif (op matches .neq) then !r else r)) w' := by
  have fin : ∀ {u v : Value}, (Op.equal t u v).run P w0 = .ok b w0 → (∀ (op : BinOp) (p q : Operand), (op = .eql ∨ op = .neq) → (eqGuard op t p q u v).run P w0 = .ok () w0 ∧ (binOp op t u v).run P w0 = ((Op.equal t u v).run P w0).andThen fun r w' => .ok (.bool (bif (op matches .neq) then !r else r)) w') →
      (Op.equal t u v).run P w0 = .ok b w0 ∧ ∀ (op : BinOp) (p q : Operand), (op = .eql ∨ op = .neq) → (eqGuard op t p q u v).run P w0 = .ok () w0 ∧ (binOp op t u v).run P w0 = ((Op.equal t u v).run P w0).andThen fun r w' => .ok (.bool (bif (op matches .neq) then !r else r)) w' := fun h k => ⟨h, k⟩
  unfold eqV at h
  split at h
  · cases h
    cases DV_b hu
    cases DV_b hv
    have hty : P.underlying t = some .bool := by
      unfold eqOK at ht; split at ht <;> first | assumption | cases ht
    refine fin (run_equalIn_bl hty _ _ _) fun op p q hop => ⟨?_, ?_⟩
    · rcases hop with rfl | rfl <;> simp [eqGuard]
    · rcases hop with rfl | rfl <;> simp [binOp, run_equalIn_bl hty]
  all_goals first | (cases h; done) | skip
  all_goals
    cases h
    unfold DV at hu hv
  · obtain ⟨e, hty⟩ : ∃ e, P.underlying t = some (.slice e) := by unfold eqOK at ht; split at ht <;> first | exact ⟨_, by assumption⟩ | cases ht
    subst hu hv
    refine fin (run_equalIn_sl hty none 0 0 w0).1 fun op p q hop => ⟨?_, ?_⟩ <;> rcases hop with rfl | rfl <;> simp [eqGuard, binOp, (run_equalIn_sl hty none 0 0 w0).1]
  · obtain ⟨e, hty⟩ : ∃ e, P.underlying t = some (.slice e) := by unfold eqOK at ht; split at ht <;> first | exact ⟨_, by assumption⟩ | cases ht
    obtain ⟨_, _, cap, _, _, rfl, _⟩ := hu
    subst hv
    refine fin (run_equalIn_sl hty _ _ _ w0).1 fun op p q hop => ⟨?_, ?_⟩ <;> rcases hop with rfl | rfl <;> simp [eqGuard, binOp, (run_equalIn_sl hty _ _ _ w0).1]
  · obtain ⟨e, hty⟩ : ∃ e, P.underlying t = some (.slice e) := by unfold eqOK at ht; split at ht <;> first | exact ⟨_, by assumption⟩ | cases ht
    obtain ⟨_, rfl⟩ := hu
    subst hv
    refine fin (run_equalIn_sl hty _ _ _ w0).1 fun op p q hop => ⟨?_, ?_⟩ <;> rcases hop with rfl | rfl <;> simp [eqGuard, binOp, (run_equalIn_sl hty _ _ _ w0).1]
  · obtain ⟨e, hty⟩ : ∃ e, P.underlying t = some (.slice e) := by unfold eqOK at ht; split at ht <;> first | exact ⟨_, by assumption⟩ | cases ht
    obtain ⟨_, _, cap, _, _, rfl, _⟩ := hv
    subst hu
    refine fin (run_equalIn_sl hty _ _ _ w0).2 fun op p q hop => ⟨?_, ?_⟩ <;> rcases hop with rfl | rfl <;> simp [eqGuard, binOp, (run_equalIn_sl hty _ _ _ w0).2]
  · obtain ⟨e, hty⟩ : ∃ e, P.underlying t = some (.slice e) := by unfold eqOK at ht; split at ht <;> first | exact ⟨_, by assumption⟩ | cases ht
    obtain ⟨_, rfl⟩ := hv
    subst hu
    refine fin (run_equalIn_sl hty _ _ _ w0).2 fun op p q hop => ⟨?_, ?_⟩ <;> rcases hop with rfl | rfl <;> simp [eqGuard, binOp, (run_equalIn_sl hty _ _ _ w0).2]
  · obtain ⟨e, f, g, hty⟩ : ∃ e f g, P.underlying t = some (.func e f g) := by unfold eqOK at ht; split at ht <;> first | exact ⟨_, _, _, by assumption⟩ | cases ht
    subst hu hv
    refine fin (run_equalIn_fn hty w0).1 fun op p q hop => ⟨?_, ?_⟩ <;> rcases hop with rfl | rfl <;> simp [eqGuard, binOp, (run_equalIn_fn hty w0).1]
  · obtain ⟨e, f, g, hty⟩ : ∃ e f g, P.underlying t = some (.func e f g) := by unfold eqOK at ht; split at ht <;> first | exact ⟨_, _, _, by assumption⟩ | cases ht
    obtain ⟨_, _, rfl, _⟩ := hu
    subst hv
    refine fin ((run_equalIn_fn hty w0).2 _ _ _) fun op p q hop => ⟨?_, ?_⟩ <;> rcases hop with rfl | rfl <;> simp [eqGuard, binOp, (run_equalIn_fn hty w0).2]
  · obtain ⟨e, f, hty⟩ : ∃ e f, P.underlying t = some (.map e f) := by unfold eqOK at ht; split at ht <;> first | exact ⟨_, _, by assumption⟩ | cases ht
    subst hu hv
    refine fin (run_equalIn_mp hty _ w0) fun op p q hop => ⟨?_, ?_⟩ <;> rcases hop with rfl | rfl <;> simp [eqGuard, binOp, run_equalIn_mp hty _ w0]
  · obtain ⟨e, f, hty⟩ : ∃ e f, P.underlying t = some (.map e f) := by unfold eqOK at ht; split at ht <;> first | exact ⟨_, _, by assumption⟩ | cases ht
    obtain ⟨_, rfl⟩ := hu
    subst hv
    refine fin (run_equalIn_mp hty _ w0) fun op p q hop => ⟨?_, ?_⟩ <;> rcases hop with rfl | rfl <;> simp [eqGuard, binOp, run_equalIn_mp hty _ w0]
  · obtain ⟨e, hty⟩ : ∃ e, P.underlying t = some (.pointer e) := by unfold eqOK at ht; split at ht <;> first | exact ⟨_, by assumption⟩ | cases ht
    subst hu hv
    refine fin (run_equalIn_ptr hty none w0).1 fun op p q hop => ⟨?_, ?_⟩ <;> rcases hop with rfl | rfl <;> simp [eqGuard, binOp, (run_equalIn_ptr hty none w0).1]
  · obtain ⟨e, hty⟩ : ∃ e, P.underlying t = some (.pointer e) := by unfold eqOK at ht; split at ht <;> first | exact ⟨_, by assumption⟩ | cases ht
    obtain ⟨_, _, rfl⟩ := hu
    subst hv
    refine fin (run_equalIn_ptr hty _ w0).1 fun op p q hop => ⟨?_, ?_⟩ <;> rcases hop with rfl | rfl <;> simp [eqGuard, binOp, (run_equalIn_ptr hty _ w0).1]
  · obtain ⟨e, hty⟩ : ∃ e, P.underlying t = some (.pointer e) := by unfold eqOK at ht; split at ht <;> first | exact ⟨_, by assumption⟩ | cases ht
    obtain ⟨_, _, rfl⟩ := hv
    subst hu
    refine fin (run_equalIn_ptr hty _ w0).2 fun op p q hop => ⟨?_, ?_⟩ <;> rcases hop with rfl | rfl <;> simp [eqGuard, binOp, (run_equalIn_ptr hty _ w0).2]

theorem eq_ok {op : BinOp} {t t' : TypeId} {x y : Operand} {neg : Bool} {tk : Nat} {d : Pos} {r1 r2 : RX} {Z : X} (ho : o.op = .binOp op t x y t') (hop : op = bif neg then .neq else .eql) (hk : eqOK P t = some tk) (hd : o.dst = some d.ix) (hlt : d.ix < nt) (hx : rx x = some r1) (hy : rx y = some r2)
    (h : s_eq d neg tk r1 r2 sl ob nx lg = some Z) : OpOk P nt o (r1.ss ++ r2.ss) ⟨sl, ob, nx, lg⟩ Z := by
  unfold s_eq at h
  split at h
  · rename_i p q hp hq
    split at h
    · rename_i e he
      rw [boolK_eq] at h
      rw [outK_eq h]
      refine OpOk.pure hd hlt (LgLe.refl _) fun V hs _ γ a w R => ⟨.bool (bif neg then !e else e), ?_, DV_of_b _⟩
      obtain ⟨h1, h2⟩ := eqV_ok hk he (opd_ok hx hp R fun s h => hs s (by simp [h])) (opd_ok hy hq R fun s h => hs s (by simp [h])) w
      obtain ⟨h3, h4⟩ := h2 op x y (by subst hop; cases neg <;> simp)
      rw [h1] at h4
      subst hop
      cases neg
      · simp only [cond_false] at h3 h4 ho ⊢
        simp [execOp, ho, h3, h4]
      · simp only [cond_true] at h3 h4 ho ⊢
        simp [execOp, ho, h3, h4]
    · cases h
  · cases h
end
end Go.Ev
