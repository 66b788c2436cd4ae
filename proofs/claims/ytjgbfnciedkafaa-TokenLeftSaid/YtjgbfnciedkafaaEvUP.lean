import Derived.Test.YtjgbfnciedkafaaEvUN
import Derived.DeepKeys3
import Derived.Laws.Pointers
set_option linter.all false
namespace Go.Ev
open Go.RowKit (Below)
def litOf : Value → Lit
  | .bool b => .bool b
  | .int k n => .int k n
  | _ => .nil
def Mt : List LK → List Value → Prop
  | [], us => us = []
  | .b :: ks, us => ∃ b r, us = .bool b :: r ∧ Mt ks r
  | .i k :: ks, us => ∃ n r, us = .int k n :: r ∧ (Lit.int k n).wf = true ∧ Mt ks r
theorem Mt.length : ∀ {ks : List LK} {us : List Value}, Mt ks us → us.length = ks.length
  | [], us, h => by unfold Mt at h; rw [h]; rfl
  | .b :: ks, us, h => by
    unfold Mt at h
    obtain ⟨b, r, rfl, h⟩ := h
    simp [Mt.length h]
  | .i k :: ks, us, h => by
    unfold Mt at h
    obtain ⟨n, r, rfl, _, h⟩ := h
    simp [Mt.length h]
theorem Mt.split : ∀ {a b : List LK} {us : List Value}, Mt (a ++ b) us → Mt a (us.take a.length) ∧ Mt b (us.drop a.length)
  | [], b, us, h => by simpa [Mt] using h
  | .b :: ks, b, us, h => by
    rw [List.cons_append] at h
    unfold Mt at h
    obtain ⟨x, r, rfl, h⟩ := h
    obtain ⟨h1, h2⟩ := Mt.split h
    refine ⟨?_, by simpa using h2⟩
    simp only [List.length_cons, List.take_succ_cons]
    unfold Mt
    exact ⟨x, _, rfl, h1⟩
  | .i k :: ks, b, us, h => by
    rw [List.cons_append] at h
    unfold Mt at h
    obtain ⟨x, r, rfl, hw, h⟩ := h
    obtain ⟨h1, h2⟩ := Mt.split h
    refine ⟨?_, by simpa using h2⟩
    simp only [List.length_cons, List.take_succ_cons]
    unfold Mt
    exact ⟨x, _, rfl, hw, h1⟩
section
variable {P : Program}
theorem kindFs_ok {d : Nat} (IH : ∀ t ks, kinds P d t = some ks → ∀ us, Mt ks us → P.keyLits d t us = some (us.map litOf)) :
    ∀ {fs : List Field} {acc : Nat} {ks : List LK}, kindFs P (kinds P d) fs acc = some ks → ∀ us : List Value, Mt ks (us.drop acc) →
      ∃ ls, (fs.mapM fun f => P.keyLits d f.type ((us.drop f.offset).take (P.cellsOf f.type))) = some ls ∧ ls.flatten = (us.drop acc).map litOf
  | [], acc, ks, h, us, hm => by
    cases h
    unfold Mt at hm
    exact ⟨[], rfl, by rw [hm]; rfl⟩
  | f :: fs, acc, ks, h, us, hm => by
    simp only [kindFs] at h
    split at h
    · rename_i kf hkf
      cases hb : (Nat.beq f.offset acc && Nat.beq (P.cellsOf f.type) kf.length) with
      | false => rw [hb] at h; cases h
      | true =>
        rw [hb] at h
        simp only [cond_true] at h
        rw [Bool.and_eq_true] at hb
        have e1 := Nat.eq_of_beq_eq_true hb.1
        have e2 := Nat.eq_of_beq_eq_true hb.2
        split at h
        · rename_i r hr
          cases h
          obtain ⟨m1, m2⟩ := hm.split
          have h1 := IH f.type kf hkf _ m1
          rw [List.drop_drop] at m2
          obtain ⟨ls, h2, h3⟩ := kindFs_ok IH hr us m2
          refine ⟨((us.drop acc).take kf.length).map litOf :: ls, ?_, ?_⟩
          · rw [List.mapM_cons]
            rw [e1, e2, h1]
            simp only [Option.pure_def, Option.bind_eq_bind, Option.bind_some]
            rw [h2]; rfl
          · rw [List.flatten_cons, h3, ← List.map_append]
            congr 1
            rw [← List.drop_drop, List.take_append_drop]
        · cases h
    · cases h
theorem repK_ok {d : Nat} {e : TypeId} {ks : List LK} (IH : ∀ us, Mt ks us → P.keyLits d e us = some (us.map litOf)) {us : List Value} : ∀ {n i : Nat}, Mt (repK ks n) (us.drop (i * ks.length)) →
      ∃ ls, ((List.range' i n).mapM fun j => P.keyLits d e ((us.drop (j * ks.length)).take ks.length)) = some ls ∧ ls.flatten = (us.drop (i * ks.length)).map litOf
  | 0, i, hm => by
    simp only [repK] at hm
    unfold Mt at hm
    exact ⟨[], rfl, by rw [hm]; rfl⟩
  | n + 1, i, hm => by
    simp only [repK] at hm
    obtain ⟨m1, m2⟩ := hm.split
    rw [List.drop_drop, show i * ks.length + ks.length = (i + 1) * ks.length by rw [Nat.add_mul, Nat.one_mul]] at m2
    obtain ⟨ls, h2, h3⟩ := repK_ok IH m2
    refine ⟨((us.drop (i * ks.length)).take ks.length).map litOf :: ls, ?_, ?_⟩
    · rw [List.range'_succ, List.mapM_cons, IH _ m1]
      simp only [Option.pure_def, Option.bind_eq_bind, Option.bind_some]
      rw [h2]; rfl
    · rw [List.flatten_cons, h3, ← List.map_append]
      congr 1
      rw [show (i + 1) * ks.length = i * ks.length + ks.length by rw [Nat.add_mul, Nat.one_mul], ← List.drop_drop, List.take_append_drop]
theorem repK_length (ks : List LK) : ∀ n, (repK ks n).length = n * ks.length
  | 0 => by simp [repK]
  | n + 1 => by simp [repK, repK_length ks n, Nat.add_mul]; omega
theorem kinds_ok : ∀ d t ks, kinds P d t = some ks → ∀ us, Mt ks us → P.keyLits d t us = some (us.map litOf)
  | 0, t, ks, h, us, hm => by cases h
  | d + 1, t, ks, h, us, hm => by
    unfold kinds at h
    split at h
    · rename_i hu
      cases h
      unfold Mt at hm
      obtain ⟨b, r, rfl, hm⟩ := hm
      unfold Mt at hm
      subst hm
      simp [Program.keyLits, hu, litOf]
    · rename_i k hu
      cases h
      unfold Mt at hm
      obtain ⟨n, r, rfl, hw, hm⟩ := hm
      unfold Mt at hm
      subst hm
      simp [Program.keyLits, hu, litOf, hw]
    · rename_i fs hu
      split at h
      · rename_i ks' hk
        cases hb : (Nat.beq (P.cellsOf t) ks'.length && fs.all (·.name != "_")) with
        | false => rw [hb] at h; cases h
        | true =>
          rw [hb] at h
          cases h
          rw [Bool.and_eq_true] at hb
          have e1 := Nat.eq_of_beq_eq_true hb.1
          obtain ⟨ls, h1, h2⟩ := kindFs_ok (kinds_ok d) hk us (by simpa using hm)
          have hl : us.length = P.cellsOf t := by rw [hm.length, e1]
          unfold Program.keyLits
          simp only [hu]
          rw [if_pos ⟨hl, hb.2⟩, h1]
          simp [h2]
      · cases h
    · rename_i n e hu
      split at h
      · rename_i ks' hk
        cases hb : (Nat.beq (P.cellsOf t) (n * ks'.length) && Nat.beq (P.cellsOf e) ks'.length) with
        | false => rw [hb] at h; cases h
        | true =>
          rw [hb] at h
          cases h
          rw [Bool.and_eq_true] at hb
          have e1 := Nat.eq_of_beq_eq_true hb.1
          have e2 := Nat.eq_of_beq_eq_true hb.2
          obtain ⟨ls, h1, h2⟩ := repK_ok (kinds_ok d e ks' hk) (us := us) (n := n) (i := 0) (by simpa using hm)
          have hl : us.length = P.cellsOf t := by rw [hm.length, repK_length, e1]
          unfold Program.keyLits
          simp only [hu]
          rw [if_pos hl, e2, List.range_eq_range', h1]
          simp [h2]
      · cases h
    · cases h
theorem wfB_ok {k : IntKind} {n : Int} (h : wfB k n = true) : (Lit.int k n).wf = true := by
  unfold wfB at h
  split at h
  · rename_i m
    have h := Nat.le_of_ble_eq_true h
    have h0 : (Int.ofNat m) = (m : Int) := rfl
    cases k <;> simp only [imax] at h <;> simp [Lit.wf, IntKind.min, IntKind.max, IntKind.signed, IntKind.bits] <;> omega
  · rename_i m
    rw [Bool.and_eq_true] at h
    have h1 := Nat.le_of_ble_eq_true h.2
    cases k <;> simp only [imax] at h1 <;> first | (simp [IntKind.signed] at h; done) | (simp [Lit.wf, IntKind.min, IntKind.max, IntKind.signed, IntKind.bits] <;> omega)
theorem eqL_ok {γ γ' : Gh} {w w' : World} : ∀ {ks : List LK} {xs ys : List D} {b : Bool} {us vs : List Value}, eqL ks xs ys = some b → DVL γ w xs us → DVL γ' w' ys vs →
    Mt ks us ∧ Mt ks vs ∧ (b = true ↔ us = vs) ∧ (us.map litOf = vs.map litOf ↔ us = vs)
  | [], [], [], b, us, vs, h, hx, hy => by
    cases h
    unfold DVL at hx hy
    subst hx hy
    exact ⟨rfl, rfl, by simp, by simp⟩
  | k :: ks, x :: xs, y :: ys, b, us, vs, h, hx, hy => by
    simp only [eqL] at h
    split at h
    · rename_i p q hp hq
      cases h
      unfold DVL at hx hy
      obtain ⟨u, us', rfl, hu, hus⟩ := hx
      obtain ⟨v, vs', rfl, hv, hvs⟩ := hy
      obtain ⟨h1, h2, h3, h4⟩ := eqL_ok hq hus hvs
      unfold eqC at hp
      split at hp
      · rename_i a c
        cases hp
        cases DV_b hu
        cases DV_b hv
        refine ⟨⟨a, us', rfl, h1⟩, ⟨c, vs', rfl, h2⟩, ?_, ?_⟩
        · rw [Bool.and_eq_true, h3]; simp
        · simp only [List.map_cons, litOf, List.cons.injEq, Lit.bool.injEq, Value.bool.injEq, h4]
      · rename_i k0 k1 a k2 c
        cases hb : (kEq k1 k0 && kEq k2 k0 && wfB k0 a && wfB k0 c) with
        | false => rw [hb] at hp; cases hp
        | true =>
          rw [hb] at hp
          cases hp
          simp only [Bool.and_eq_true] at hb
          cases kEq_iff.1 hb.1.1.1
          cases kEq_iff.1 hb.1.1.2
          cases DV_i hu
          cases DV_i hv
          refine ⟨⟨a, us', rfl, wfB_ok hb.1.2, h1⟩, ⟨c, vs', rfl, wfB_ok hb.2, h2⟩, ?_, ?_⟩
          · rw [Bool.and_eq_true, h3, eqB_iff]; simp
          · simp only [List.map_cons, litOf, List.cons.injEq, Lit.int.injEq, Value.int.injEq, true_and, h4]
      · cases hp
    · cases h
  | [], x :: xs, ys, b, us, vs, h, hx, hy => by simp [eqL] at h
  | [], [], y :: ys, b, us, vs, h, hx, hy => by simp [eqL] at h
  | k :: ks, [], ys, b, us, vs, h, hx, hy => by simp [eqL] at h
  | k :: ks, x :: xs, [], b, us, vs, h, hx, hy => by simp [eqL] at h
theorem keyRow_ok {t : TypeId} {ks : List LK} (h : keyRow P t = some ks) : isRow P t = some true ∧ P.keyTypeAt 20 t = true ∧ P.eqGuardType P.depth t = false ∧ kinds P 20 t = some ks := by
  unfold keyRow at h
  split at h
  · rename_i hr
    cases hb : (P.keyTypeAt 20 t && !P.eqGuardType P.depth t) with
    | false => rw [hb] at h; cases h
    | true =>
      rw [hb] at h
      rw [Bool.and_eq_true] at hb
      exact ⟨hr, hb.1, by simpa using hb.2, h⟩
  · cases h
theorem row_formed {t : TypeId} {ks : List LK} (h : keyRow P t = some ks) {us : Array Value} (hm : Mt ks us.toList) : (Value.agg us).formed P t = true := by
  obtain ⟨h1, h2, h3, h4⟩ := keyRow_ok h
  have hl := hm.length
  have hsz : P.cellsOf t = ks.length := by
    unfold kinds at h4
    split at h4
    · rename_i hu; unfold isRow at h1; rw [hu] at h1; cases h1
    · rename_i hu; unfold isRow at h1; rw [hu] at h1; cases h1
    · split at h4
      · rename_i ks' hk
        cases hb : (Nat.beq (P.cellsOf t) ks'.length && _) with
        | false => rw [hb] at h4; cases h4
        | true =>
          rw [hb] at h4
          cases h4
          rw [Bool.and_eq_true] at hb
          exact Nat.eq_of_beq_eq_true hb.1
      · cases h4
    · split at h4
      · rename_i ks' hk
        cases hb : (Nat.beq (P.cellsOf t) (_ * ks'.length) && _) with
        | false => rw [hb] at h4; cases h4
        | true =>
          rw [hb] at h4
          cases h4
          rw [Bool.and_eq_true] at hb
          rw [repK_length]
          exact Nat.eq_of_beq_eq_true hb.1
      · cases h4
    · cases h4
  unfold isRow at h1
  split at h1
  · rename_i hu; simp [Value.formed, hu, hsz]; simpa using hl
  · rename_i hu; simp [Value.formed, hu, hsz]; simpa using hl
  · cases h1
  · cases h1
theorem run_equal_row {t : TypeId} {ks : List LK} (h : keyRow P t = some ks) {γ γ' : Gh} {w w' : World} {x y : D} {b : Bool} (he : eqR ks x y = some b) {u v : Value} (hu : DV γ w x u) (hv : DV γ' w' y v) (w0 : World) :
    (Op.equal t u v).run P w0 = .ok b w0 ∧ (b = true ↔ u = v) ∧ ∃ us vs, u = .agg us ∧ v = .agg vs ∧ Mt ks us.toList ∧ Mt ks vs.toList := by
  unfold eqR at he
  split at he
  · rename_i xs ys
    obtain ⟨us, rfl, h1, _⟩ := DV_ag hu
    obtain ⟨vs, rfl, h2, _⟩ := DV_ag hv
    obtain ⟨m1, m2, e1, e2⟩ := eqL_ok he h1 h2
    obtain ⟨h3, h4, h5, h6⟩ := keyRow_ok h
    obtain ⟨r, hr, hiff⟩ := run_equalIn_deep (P := P) 9980 20 t h4 w0 20 20 (.agg us) (.agg vs) _ _ (row_formed h m1) (row_formed h m2) (kinds_ok 20 t ks h6 _ m1) (kinds_ok 20 t ks h6 _ m2)
    have hbr : b = r := by
      have : b = true ↔ r = true := by rw [hiff]; exact e1.trans e2.symm
      cases b <;> cases r <;> simp_all
    subst hbr
    refine ⟨hr, ?_, us, vs, rfl, rfl, m1, m2⟩
    rw [e1]
    constructor
    · intro e; rw [show us = vs from Array.ext' e]
    · intro e; cases e; rfl
  · cases he
theorem run_checkKey_row {t : TypeId} {ks : List LK} (h : keyRow P t = some ks) {us : Array Value} (hm : Mt ks us.toList) (em : Bool) (w0 : World) : (Instr.checkKey em 10000 t (.agg us)).run P w0 = .ok () w0 := by
  obtain ⟨h3, h4, h5, h6⟩ := keyRow_ok h
  exact run_checkKey_deep em 9980 20 t h4 w0 20 (.agg us) _ (row_formed h hm) (kinds_ok 20 t ks h6 _ hm)
end
end Go.Ev
namespace Go.Ev
open Go.RowKit (Below)
section
variable {P : Program} {V : Sel} {γ : Gh} {a : Act} {w : World} {sl : T D} {ob : T C} {nx : Pos} {lg : Option (T Bool)} {nt : Nat} {o : Oper} {ro : Option Nat}
theorem eqr_ok {op : BinOp} {t t' : TypeId} {x y : Operand} {neg : Bool} {ks : List LK} {d : Pos} {r1 r2 : RX} {Z : X} (ho : o.op = .binOp op t x y t') (hop : op = bif neg then .neq else .eql) (hk : keyRow P t = some ks) (hd : o.dst = some d.ix) (hlt : d.ix < nt) (hx : rx x = some r1) (hy : rx y = some r2)
    (h : s_eqr d neg ks r1 r2 sl ob nx lg = some Z) : OpOk P nt o (r1.ss ++ r2.ss) ⟨sl, ob, nx, lg⟩ Z := by
  unfold s_eqr at h
  split at h
  · rename_i p q hp hq
    split at h
    · rename_i e he
      rw [boolK_eq] at h
      rw [outK_eq h]
      refine OpOk.pure hd hlt (LgLe.refl _) fun V hs _ γ a w R => ⟨.bool (bif neg then !e else e), ?_, DV_of_b _⟩
      obtain ⟨h1, _, us, vs, h2, h3, _, _⟩ := run_equal_row hk he (opd_ok hx hp R fun s h => hs s (by simp [h])) (opd_ok hy hq R fun s h => hs s (by simp [h])) w
      have hg := (keyRow_ok hk).2.2.1
      rw [h2, h3] at h1
      subst hop
      cases neg <;> simp [execOp, ho, h2, h3, eqGuard, hg, binOp, h1]
    · cases h
  · cases h
theorem run_equalIn_ptr {t e : TypeId} (hu : P.underlying t = some (.pointer e)) (p : Option Addr) (w : World) : (Op.equal t (.pointer p) (.pointer none)).run P w = .ok p.isNone w ∧ (Op.equal t (.pointer none) (.pointer p)).run P w = .ok p.isNone w := by
  have h9 : ∀ d : Nat, (Op.equalIn (d + 1) t (.pointer p) (.pointer none)).run P w = .ok p.isNone w ∧ (Op.equalIn (d + 1) t (.pointer none) (.pointer p)).run P w = .ok p.isNone w := by
    intro d
    constructor
    · rw [Op.equalIn, Sem.run_bind, run_underlying hu]
      cases p <;> rfl
    · rw [Op.equalIn, Sem.run_bind, run_underlying hu]
      rfl
  exact h9 9999
theorem run_equalIn_sl {t e : TypeId} (hu : P.underlying t = some (.slice e)) (p : Option Addr) (n c : Nat) (w : World) : (Op.equal t (.slice p n c) (.slice none 0 0)).run P w = .ok p.isNone w ∧ (Op.equal t (.slice none 0 0) (.slice p n c)).run P w = .ok p.isNone w := by
  have h9 : ∀ d : Nat, (Op.equalIn (d + 1) t (.slice p n c) (.slice none 0 0)).run P w = .ok p.isNone w ∧ (Op.equalIn (d + 1) t (.slice none 0 0) (.slice p n c)).run P w = .ok p.isNone w := by
    intro d
    constructor
    · rw [Op.equalIn, Sem.run_bind, run_underlying hu]
      cases p <;> rfl
    · rw [Op.equalIn, Sem.run_bind, run_underlying hu]
      rfl
  exact h9 9999
theorem run_equalIn_mp {t k e : TypeId} (hu : P.underlying t = some (.map k e)) (p : Option Nat) (w : World) : (Op.equal t (.map p) (.map none)).run P w = .ok p.isNone w := by
  have h9 : ∀ d : Nat, (Op.equalIn (d + 1) t (.map p) (.map none)).run P w = .ok p.isNone w := by
    intro d
    rw [Op.equalIn, Sem.run_bind, run_underlying hu]
    cases p <;> rfl
  exact h9 9999
theorem run_equalIn_bl {t : TypeId} (hu : P.underlying t = some .bool) (x y : Bool) (w : World) : (Op.equal t (.bool x) (.bool y)).run P w = .ok (x == y) w := by
  have h9 : ∀ d : Nat, (Op.equalIn (d + 1) t (.bool x) (.bool y)).run P w = .ok (x == y) w := by
    intro d
    rw [Op.equalIn, Sem.run_bind, run_underlying hu]
    rfl
  exact h9 9999
theorem run_equalIn_fn {t : TypeId} {p q : Array TypeId} {v : Bool} (hu : P.underlying t = some (.func p q v)) (w : World) : (Op.equal t .nilFunc .nilFunc).run P w = .ok true w ∧ ∀ f x y, (Op.equal t (.func f x y) .nilFunc).run P w = .ok false w := by
  have h9 : ∀ d : Nat, (Op.equalIn (d + 1) t .nilFunc .nilFunc).run P w = .ok true w ∧ ∀ f x y, (Op.equalIn (d + 1) t (.func f x y) .nilFunc).run P w = .ok false w := by
    intro d
    refine ⟨?_, fun f x y => ?_⟩
    · rw [Op.equalIn, Sem.run_bind, run_underlying hu]; rfl
    · rw [Op.equalIn, Sem.run_bind, run_underlying hu]; rfl
  exact h9 9999
theorem eqV_ok {t : TypeId} {tk : Nat} {x y : D} {b : Bool} (ht : eqOK P t = some tk) (h : eqV tk x y = some b) {u v : Value} (hu : DV γ w x u) (hv : DV γ w y v) (w0 : World) :
    (Op.equal t u v).run P w0 = .ok b w0 ∧ ∀ (op : BinOp) (p q : Operand), (op = .eql ∨ op = .neq) → (eqGuard op t p q u v).run P w0 = .ok () w0 ∧ (binOp op t u v).run P w0 = ((Op.equal t u v).run P w0).andThen fun r w' => .ok (.bool (bif (op matches .neq) then !r else r)) w' := by
  have fin : ∀ {u v : Value}, (Op.equal t u v).run P w0 = .ok b w0 → (∀ (op : BinOp) (p q : Operand), (op = .eql ∨ op = .neq) → (eqGuard op t p q u v).run P w0 = .ok () w0 ∧ (binOp op t u v).run P w0 = ((Op.equal t u v).run P w0).andThen fun r w' => .ok (.bool (bif (op matches .neq) then !r else r)) w') →
      (Op.equal t u v).run P w0 = .ok b w0 ∧ ∀ (op : BinOp) (p q : Operand), (op = .eql ∨ op = .neq) → (eqGuard op t p q u v).run P w0 = .ok () w0 ∧ (binOp op t u v).run P w0 = ((Op.equal t u v).run P w0).andThen fun r w' => .ok (.bool (bif (op matches .neq) then !r else r)) w' := fun h k => ⟨h, k⟩
  unfold eqV at h
  split at h
  · cases h
    cases DV_b hu
    cases DV_b hv
    have hty : P.underlying t = some .bool := by
      unfold eqOK at ht; split at ht <;> first | assumption | cases ht
    refine fin (run_equalIn_bl hty _ _ _) fun op p q hop => ⟨?_, ?_⟩
    · rcases hop with rfl | rfl <;> simp [eqGuard]
    · rcases hop with rfl | rfl <;> simp [binOp, run_equalIn_bl hty]
  all_goals first | (cases h; done) | skip
  all_goals
    cases h
    unfold DV at hu hv
  · obtain ⟨e, hty⟩ : ∃ e, P.underlying t = some (.slice e) := by unfold eqOK at ht; split at ht <;> first | exact ⟨_, by assumption⟩ | cases ht
    subst hu hv
    refine fin (run_equalIn_sl hty none 0 0 w0).1 fun op p q hop => ⟨?_, ?_⟩ <;> rcases hop with rfl | rfl <;> simp [eqGuard, binOp, (run_equalIn_sl hty none 0 0 w0).1]
  · obtain ⟨e, hty⟩ : ∃ e, P.underlying t = some (.slice e) := by unfold eqOK at ht; split at ht <;> first | exact ⟨_, by assumption⟩ | cases ht
    obtain ⟨_, _, cap, _, _, rfl, _⟩ := hu
    subst hv
    refine fin (run_equalIn_sl hty _ _ _ w0).1 fun op p q hop => ⟨?_, ?_⟩ <;> rcases hop with rfl | rfl <;> simp [eqGuard, binOp, (run_equalIn_sl hty _ _ _ w0).1]
  · obtain ⟨e, hty⟩ : ∃ e, P.underlying t = some (.slice e) := by unfold eqOK at ht; split at ht <;> first | exact ⟨_, by assumption⟩ | cases ht
    obtain ⟨_, rfl⟩ := hu
    subst hv
    refine fin (run_equalIn_sl hty _ _ _ w0).1 fun op p q hop => ⟨?_, ?_⟩ <;> rcases hop with rfl | rfl <;> simp [eqGuard, binOp, (run_equalIn_sl hty _ _ _ w0).1]
  · obtain ⟨e, hty⟩ : ∃ e, P.underlying t = some (.slice e) := by unfold eqOK at ht; split at ht <;> first | exact ⟨_, by assumption⟩ | cases ht
    obtain ⟨p0, cap, rfl, _, _, hlst⟩ := hu
    obtain ⟨_, _, _, _, _, _, _, rfl, _⟩ := hlst.resolve_left (fun h => by cases h)
    subst hv
    refine fin (run_equalIn_sl hty _ _ _ w0).1 fun op p q hop => ⟨?_, ?_⟩ <;> rcases hop with rfl | rfl <;> simp [eqGuard, binOp, (run_equalIn_sl hty _ _ _ w0).1]
  · obtain ⟨e, hty⟩ : ∃ e, P.underlying t = some (.slice e) := by unfold eqOK at ht; split at ht <;> first | exact ⟨_, by assumption⟩ | cases ht
    obtain ⟨_, _, cap, _, _, rfl, _⟩ := hv
    subst hu
    refine fin (run_equalIn_sl hty _ _ _ w0).2 fun op p q hop => ⟨?_, ?_⟩ <;> rcases hop with rfl | rfl <;> simp [eqGuard, binOp, (run_equalIn_sl hty _ _ _ w0).2]
  · obtain ⟨e, hty⟩ : ∃ e, P.underlying t = some (.slice e) := by unfold eqOK at ht; split at ht <;> first | exact ⟨_, by assumption⟩ | cases ht
    obtain ⟨_, rfl⟩ := hv
    subst hu
    refine fin (run_equalIn_sl hty _ _ _ w0).2 fun op p q hop => ⟨?_, ?_⟩ <;> rcases hop with rfl | rfl <;> simp [eqGuard, binOp, (run_equalIn_sl hty _ _ _ w0).2]
  · obtain ⟨e, f, g, hty⟩ : ∃ e f g, P.underlying t = some (.func e f g) := by unfold eqOK at ht; split at ht <;> first | exact ⟨_, _, _, by assumption⟩ | cases ht
    subst hu hv
    refine fin (run_equalIn_fn hty w0).1 fun op p q hop => ⟨?_, ?_⟩ <;> rcases hop with rfl | rfl <;> simp [eqGuard, binOp, (run_equalIn_fn hty w0).1]
  · obtain ⟨e, f, g, hty⟩ : ∃ e f g, P.underlying t = some (.func e f g) := by unfold eqOK at ht; split at ht <;> first | exact ⟨_, _, _, by assumption⟩ | cases ht
    obtain ⟨_, _, rfl, _⟩ := hu
    subst hv
    refine fin ((run_equalIn_fn hty w0).2 _ _ _) fun op p q hop => ⟨?_, ?_⟩ <;> rcases hop with rfl | rfl <;> simp [eqGuard, binOp, (run_equalIn_fn hty w0).2]
  · obtain ⟨e, f, hty⟩ : ∃ e f, P.underlying t = some (.map e f) := by unfold eqOK at ht; split at ht <;> first | exact ⟨_, _, by assumption⟩ | cases ht
    subst hu hv
    refine fin (run_equalIn_mp hty _ w0) fun op p q hop => ⟨?_, ?_⟩ <;> rcases hop with rfl | rfl <;> simp [eqGuard, binOp, run_equalIn_mp hty _ w0]
  · obtain ⟨e, f, hty⟩ : ∃ e f, P.underlying t = some (.map e f) := by unfold eqOK at ht; split at ht <;> first | exact ⟨_, _, by assumption⟩ | cases ht
    obtain ⟨_, rfl⟩ := hu
    subst hv
    refine fin (run_equalIn_mp hty _ w0) fun op p q hop => ⟨?_, ?_⟩ <;> rcases hop with rfl | rfl <;> simp [eqGuard, binOp, run_equalIn_mp hty _ w0]
  · obtain ⟨e, hty⟩ : ∃ e, P.underlying t = some (.pointer e) := by unfold eqOK at ht; split at ht <;> first | exact ⟨_, by assumption⟩ | cases ht
    subst hu hv
    refine fin (run_equalIn_ptr hty none w0).1 fun op p q hop => ⟨?_, ?_⟩ <;> rcases hop with rfl | rfl <;> simp [eqGuard, binOp, (run_equalIn_ptr hty none w0).1]
  · obtain ⟨e, hty⟩ : ∃ e, P.underlying t = some (.pointer e) := by unfold eqOK at ht; split at ht <;> first | exact ⟨_, by assumption⟩ | cases ht
    obtain ⟨_, _, rfl⟩ := hu
    subst hv
    refine fin (run_equalIn_ptr hty _ w0).1 fun op p q hop => ⟨?_, ?_⟩ <;> rcases hop with rfl | rfl <;> simp [eqGuard, binOp, (run_equalIn_ptr hty _ w0).1]
  · obtain ⟨e, hty⟩ : ∃ e, P.underlying t = some (.pointer e) := by unfold eqOK at ht; split at ht <;> first | exact ⟨_, by assumption⟩ | cases ht
    obtain ⟨_, _, rfl⟩ := hv
    subst hu
    refine fin (run_equalIn_ptr hty _ w0).2 fun op p q hop => ⟨?_, ?_⟩ <;> rcases hop with rfl | rfl <;> simp [eqGuard, binOp, (run_equalIn_ptr hty _ w0).2]
theorem eq_ok {op : BinOp} {t t' : TypeId} {x y : Operand} {neg : Bool} {tk : Nat} {d : Pos} {r1 r2 : RX} {Z : X} (ho : o.op = .binOp op t x y t') (hop : op = bif neg then .neq else .eql) (hk : eqOK P t = some tk) (hd : o.dst = some d.ix) (hlt : d.ix < nt) (hx : rx x = some r1) (hy : rx y = some r2)
    (h : s_eq d neg tk r1 r2 sl ob nx lg = some Z) : OpOk P nt o (r1.ss ++ r2.ss) ⟨sl, ob, nx, lg⟩ Z := by
  unfold s_eq at h
  split at h
  · rename_i p q hp hq
    split at h
    · rename_i e he
      rw [boolK_eq] at h
      rw [outK_eq h]
      refine OpOk.pure hd hlt (LgLe.refl _) fun V hs _ γ a w R => ⟨.bool (bif neg then !e else e), ?_, DV_of_b _⟩
      obtain ⟨h1, h2⟩ := eqV_ok hk he (opd_ok hx hp R fun s h => hs s (by simp [h])) (opd_ok hy hq R fun s h => hs s (by simp [h])) w
      obtain ⟨h3, h4⟩ := h2 op x y (by subst hop; cases neg <;> simp)
      rw [h1] at h4
      subst hop
      cases neg
      · simp only [cond_false] at h3 h4 ho ⊢
        simp [execOp, ho, h3, h4]
      · simp only [cond_true] at h3 h4 ho ⊢
        simp [execOp, ho, h3, h4]
    · cases h
  · cases h
end
end Go.Ev
namespace Go.Ev
open Go.RowKit (Below)
theorem sameBits_row : ∀ {ks : List LK} {us : List Value}, Mt ks us → ∀ n, (us.zip us).all (fun (x, y) => Instr.sameBits n x y) = true
  | [], us, h, n => by unfold Mt at h; subst h; rfl
  | .b :: ks, us, h, n => by
    unfold Mt at h
    obtain ⟨b, r, rfl, h⟩ := h
    have := sameBits_row h n
    simp only [List.zip_cons_cons, List.all_cons, this, Bool.and_true]
    cases n <;> simp [Instr.sameBits]
  | .i k :: ks, us, h, n => by
    unfold Mt at h
    obtain ⟨b, r, rfl, _, h⟩ := h
    have := sameBits_row h n
    simp only [List.zip_cons_cons, List.all_cons, this, Bool.and_true]
    cases n <;> simp [Instr.sameBits]
section
variable {P : Program} {V : Sel} {γ : Gh} {a : Act} {w : World} {sl : T D} {ob : T C} {nx : Pos} {lg : Option (T Bool)} {nt : Nat} {o : Oper} {ro : Option Nat}
def MapV (γ : Gh) (w : World) (es : List (D × D)) (en : List MapEntry) : Prop := es.length = en.length ∧ ∀ (i : Nat) e f, es[i]? = some e → en[i]? = some f → DV γ w e.1 f.key ∧ DV γ w e.2 f.val
theorem find_ok {t : TypeId} {ks : List LK} (hk : keyRow P t = some ks) {key : D} {u : Value} (hu : DV γ w key u) : ∀ {es : List (D × D)} {en : List MapEntry} {r : Option D} {i : Nat}, findD ks key es = some r → MapV γ w es en →
    ∃ res, (Instr.findAsking t u en i).run P w = .ok res w ∧ (match r with
      | none => res = none
      | some v => ∃ j x, res = some (j, x) ∧ DV γ w v x)
  | [], en, r, i, h, hm => by
    have he : en = [] := List.length_eq_zero_iff.1 hm.1.symm
    subst he
    have h : (some none : Option (Option D)) = some r := h
    cases h
    exact ⟨none, rfl, rfl⟩
  | e :: es, [], r, i, h, hm => by have := hm.1; simp at this
  | e :: es, f :: en, r, i, h, hm => by
    have h : (match eqR ks key e.1 with
      | some true => some (some e.2)
      | some false => findD ks key es
      | none => none) = some r := h
    obtain ⟨h1, h2⟩ := hm.2 0 e f rfl rfl
    have hm' : MapV γ w es en := ⟨by have := hm.1; simpa using this, fun j e' f' he hf => hm.2 (j + 1) e' f' (by simpa using he) (by simpa using hf)⟩
    split at h
    · rename_i heq
      cases h
      obtain ⟨q1, _⟩ := run_equal_row hk heq hu h1 w
      exact ⟨some (i, f.val), by simp [Instr.findAsking, q1], i, f.val, rfl, h2⟩
    · rename_i heq
      obtain ⟨q1, _⟩ := run_equal_row hk heq hu h1 w
      obtain ⟨res, q2, q3⟩ := find_ok hk hu (i := i + 1) h hm'
      exact ⟨res, by simp [Instr.findAsking, q1, q2], q3⟩
    · cases h
theorem mapV_of {id : Pos} {es : List (D × D)} (H : HoldsO P γ w id (.map es)) : γ.cur id = 1 ∧ ∃ en cl, w.heap[(γ.β id 0).1]? = some (.map en cl) ∧ MapV γ w es en.toList := by
  obtain ⟨h1, en, cl, h2, h3, h4⟩ := H
  exact ⟨h1, en, cl, h2, by simpa using h3, fun i e f he hf => h4 i e f he (by simpa using hf)⟩
theorem row_wide {t : TypeId} {ks : List LK} (hk : keyRow P t = some ks) : (match P.underlying t with | some (.array _ _) | some (.struct _) => true | _ => false) = true := by
  have := (keyRow_ok hk).1
  unfold isRow at this
  split at this
  · rename_i hu; rw [hu]
  · rename_i hu; rw [hu]
  · cases this
  · cases this
theorem zeroV_ok {t : TypeId} {zero : D} (h : zeroV P t = some zero) : ∃ z : Value, (∀ w, (zeroValue t).run P w = .ok z w) ∧ ∀ γ w, DV γ w zero z := by
  unfold zeroV at h
  split at h
  · rename_i i hi
    split at h
    · rename_i cs hz
      split at h
      · rename_i ds hds
        cases h
        refine ⟨.agg cs, fun w => by simp [zeroValue, typeInfo, hi, hz], fun γ w => ?_⟩
        unfold DV
        exact ⟨cs, rfl, (constDs_ok hds).1, (constDs_ok (γ := γ) (w := w) hds).2⟩
      · cases h
    · rename_i z _ hz
      exact ⟨z, fun w => by simp [zeroValue, typeInfo, hi, hz], fun γ w => constD_ok h⟩
    · cases h
  · cases h
theorem lkp_ok {t kt el : TypeId} {x i : Operand} {ok : Bool} {zero : D} {ks : List LK} {d : Pos} {r1 r2 : RX} {Z : X} (ho : o.op = .lookup t x i ok) (hd : o.dst = some d.ix) (hlt : d.ix < nt) (hx : rx x = some r1) (hi : rx i = some r2) (hu : P.underlying t = some (.map kt el)) (hz : zeroV P el = some zero) (hk : keyRow P kt = some ks)
    (h : s_lkp d zero ok ks r1 r2 sl ob nx lg = some Z) : OpOk P nt o (r1.ss ++ r2.ss) ⟨sl, ob, nx, lg⟩ Z := by
  obtain ⟨z, z1, hzv⟩ := zeroV_ok hz
  unfold s_lkp at h
  split at h
  · rename_i id key hvx hvi
    split at h
    · rename_i es b hob hself
      have main : ∀ (r : Option D), findD ks key es = some r → ∀ {lg' : Option (T Bool)}, LgLe lg lg' → tchd lg' id → ∀ v b, (match r with | none => v = zero ∧ b = false | some v' => v = v' ∧ b = true) →
          OpOk P nt o (r1.ss ++ r2.ss) ⟨sl, ob, nx, lg⟩ ⟨T.set d (bif ok then .tp [v, .b b] else v) sl, ob, nx, lg'⟩ := by
        intro r hf lg' hl hto v b hvb
        refine OpOk.pure hd hlt hl fun V hs ht γ a w R => ?_
        have hmx := opd_ok hx hvx R fun s h => hs s (by simp [h])
        have hki := opd_ok hi hvi R fun s h => hs s (by simp [h])
        unfold DV at hmx
        obtain ⟨_, en, cl, m2, m3⟩ := mapV_of (R.ob id _ (ht id hto) hob)
        obtain ⟨res, q1, q2⟩ := find_ok hk hki (i := 0) hf m3
        obtain ⟨_, _, us, _, e1, _, mt, _⟩ := run_equal_row hk hself hki hki w
        have hc := run_checkKey_row hk mt en.isEmpty w
        rw [← e1] at hc
        have hfk := (run_findKey_eq (P := P) w (row_wide hk) (a.eval i) en.toList).trans q1
        have hg : (getObj (γ.β id 0).1).run P w = .ok (.map en cl) w := by simp [getObj, Sem.run, m2]
        have hrun : ∃ x' , (Instr.lookup t (a.eval x) (a.eval i) ok).run P w = .ok (if ok then .tuple #[x', .bool b] else x') w ∧ DV γ w v x' := by
          cases r with
          | none =>
            obtain ⟨rfl, rfl⟩ := hvb
            subst q2
            refine ⟨z, ?_, hzv γ w⟩
            simp [Instr.lookup, run_underlying hu, hmx.2, hg, hc, hfk, z1]
          | some v' =>
            obtain ⟨rfl, rfl⟩ := hvb
            obtain ⟨j, x', rfl, q3⟩ := q2
            refine ⟨x', ?_, q3⟩
            simp [Instr.lookup, run_underlying hu, hmx.2, hg, hc, hfk]
        obtain ⟨x', q4, q5⟩ := hrun
        refine ⟨_, by simp [execOp, ho, q4]; rfl, ?_⟩
        cases ok with
        | true =>
          simp only [cond_true, if_true]
          unfold DV
          exact ⟨_, rfl, DVL.cons q5 (DVL.one (DV_of_b _))⟩
        | false => exact q5
      split at h
      · rename_i v hf
        obtain ⟨lg', h1, h2, h3⟩ := logR_ok h
        cases ok with
        | true => rw [outK_eq h1]; exact main _ hf h2 h3 v true ⟨rfl, rfl⟩
        | false => rw [outK_eq h1]; exact main _ hf h2 h3 v true ⟨rfl, rfl⟩
      · rename_i hf
        obtain ⟨lg', h1, h2, h3⟩ := logR_ok h
        cases ok with
        | true => rw [outK_eq h1]; exact main _ hf h2 h3 zero false ⟨rfl, rfl⟩
        | false => rw [outK_eq h1]; exact main _ hf h2 h3 zero false ⟨rfl, rfl⟩
      · cases h
    · cases h
  · cases h
theorem put_move {id : Pos} {obj obj' : Obj} (g : G ro γ a w) (hst : 0 < γ.cur id) (hob : w.heap[(γ.β id 0).1]? = some obj) (h1 : ∀ vs e fr, obj ≠ .cells vs e fr) (h2 : ∀ l, obj ≠ .loop l) (h3 : ∀ vs e fr, obj' ≠ .cells vs e fr) :
    Fr (fun j => j = id) γ γ w (w.putObj (γ.β id 0).1 obj') ∧ ∀ a' : Act, a'.defers = a.defers → G ro γ a' (w.putObj (γ.β id 0).1 obj') :=
  same_all g id (by simp [World.putObj]) (fun c hc hn => World.putObj_heap_other (fun e => hn 0 hst e.symm))
    (fun c x hx => by
      have hne : c ≠ (γ.β id 0).1 := by
        rintro rfl
        unfold World.shape? at hx
        rw [hob] at hx
        cases obj <;> first | (cases hx; done) | exact absurd rfl (h1 _ _ _)
      rw [shape_same (World.putObj_heap_other hne)]; exact hx)
    (fun c r hr => by
      have hne : c ≠ (γ.β id 0).1 := by
        rintro rfl
        rw [hob] at hr
        cases hr
        exact absurd rfl (h2 _)
      exact ⟨r, by rw [World.putObj_heap_other hne]; exact hr⟩) ⟨rfl, rfl, rfl⟩ (frozen_put w _ _ h3 fun vs e fr h => by rw [hob] at h; cases h; exact absurd rfl (h1 _ _ _))
theorem putD_ok {β : Type} {t : TypeId} {ks : List LK} (hk : keyRow P t = some ks) {key v : D} {u : Value} (hu : DV γ w key u) : ∀ {es : List (D × D)} {en : List MapEntry} {k : List (D × D) → Option β} {Z : β} {i : Nat}, putD ks key v es k = some Z → MapV γ w es en →
    ∃ es', k es' = some Z ∧ ((∃ j x f, (Instr.findAsking t u en i).run P w = .ok (some (i + j, x)) w ∧ en[j]? = some f ∧ f.key = u ∧ es' = es.set j (key, v)) ∨ ((Instr.findAsking t u en i).run P w = .ok none w ∧ es' = es ++ [(key, v)]))
  | [], en, k, Z, i, h, hm => by
    have he : en = [] := List.length_eq_zero_iff.1 hm.1.symm
    subst he
    exact ⟨[(key, v)], h, .inr ⟨rfl, rfl⟩⟩
  | e :: es, [], k, Z, i, h, hm => by have := hm.1; simp at this
  | e :: es, f :: en, k, Z, i, h, hm => by
    have h : (match eqR ks key e.1 with
      | some true => k ((key, v) :: es)
      | some false => putD ks key v es fun l => k (e :: l)
      | none => none) = some Z := h
    obtain ⟨h1, h2⟩ := hm.2 0 e f rfl rfl
    have hm' : MapV γ w es en := ⟨by have := hm.1; simpa using this, fun j e' f' he hf => hm.2 (j + 1) e' f' (by simpa using he) (by simpa using hf)⟩
    split at h
    · rename_i heq
      obtain ⟨q1, q2, _⟩ := run_equal_row hk heq hu h1 w
      exact ⟨_, h, .inl ⟨0, f.val, f, by simp [Instr.findAsking, q1], rfl, (q2.1 rfl).symm, rfl⟩⟩
    · rename_i heq
      obtain ⟨q1, _⟩ := run_equal_row hk heq hu h1 w
      obtain ⟨es', q2, q3⟩ := putD_ok hk hu (i := i + 1) h hm'
      refine ⟨e :: es', q2, ?_⟩
      rcases q3 with ⟨j, x, f', q4, q5, q6, q7⟩ | ⟨q4, q5⟩
      · refine .inl ⟨j + 1, x, f', ?_, by simpa using q5, q6, by simp [q7]⟩
        simp [Instr.findAsking, q1, q4]; omega
      · exact .inr ⟨by simp [Instr.findAsking, q1, q4], by simp [q5]⟩
    · cases h
theorem mup_ok {t kt el : TypeId} {x i y : Operand} {ks : List LK} {r1 r2 r3 : RX} {Z : X} (ho : o.op = .mapUpdate t x i y) (hd : o.dst = none) (hx : rx x = some r1) (hi : rx i = some r2) (hy : rx y = some r3) (hu : P.underlying t = some (.map kt el)) (hk : keyRow P kt = some ks)
    (h : s_mup ks r1 r2 r3 sl ob nx lg = some Z) : OpOk P nt o (r1.ss ++ (r2.ss ++ r3.ss)) ⟨sl, ob, nx, lg⟩ Z := by
  unfold s_mup at h
  split at h
  · rename_i id key v hvx hvi hvy
    split at h
    · rename_i es b hob hself
      have h0 := h
      -- the new list does not hang on the world
      obtain ⟨es', k1⟩ : ∃ es', objK sl ob nx lg id (.map es') = some Z := by
        clear hvx hvi hvy hob hself
        revert h
        suffices ∀ (es : List (D × D)) (k : List (D × D) → Option X), putD ks key v es k = some Z → ∃ es', k es' = some Z from this es _
        intro es
        induction es with
        | nil => exact fun k h => ⟨_, h⟩
        | cons e es ih =>
          intro k h
          have h : (match eqR ks key e.1 with
            | some true => k ((key, v) :: es)
            | some false => putD ks key v es fun l => k (e :: l)
            | none => none) = some Z := h
          split at h
          · exact ⟨_, h⟩
          · obtain ⟨es', h⟩ := ih _ h
            exact ⟨_, h⟩
          · cases h
      obtain ⟨lg', rfl, h2, h3⟩ := objK_eq k1
      refine OpOk.skip hd h2 ((Keeps.refl _ _).set h3 _) fun V hs hto ro γ a w g R => ?_
      have hmx := opd_ok hx hvx R fun s h => hs s (by simp [h])
      have hki := opd_ok hi hvi R fun s h => hs s (by simp [h])
      have hvy' := opd_ok hy hvy R fun s h => hs s (by simp [h])
      unfold DV at hmx
      obtain ⟨mc, en, cl, m2, m3⟩ := mapV_of (R.ob id _ (hto id h3.tchd) hob)
      obtain ⟨_, _, us, _, e1, _, mt, _⟩ := run_equal_row hk hself hki hki w
      have hc := run_checkKey_row hk mt false w
      rw [← e1] at hc
      have hg : (getObj (γ.β id 0).1).run P w = .ok (.map en cl) w := by simp [getObj, Sem.run, m2]
      have hset : ∀ o' : Obj, (setObj (γ.β id 0).1 o').run P w = .ok () (w.putObj (γ.β id 0).1 o') := fun o' => by simp [setObj, Sem.run, m2, World.putObj]
      obtain ⟨es2, p1, p2⟩ := putD_ok (v := v) hk hki (i := 0) h0 m3
      have e2 : es2 = es' := by
        obtain ⟨lg2, q1, _, _⟩ := objK_eq p1
        have q2 := (X.mk.inj q1).2.1
        have := congrArg (fun t => T.get t id) q2
        simp only [T.get_set_same, Option.some.injEq, C.map.injEq] at this
        exact this.symm
      subst e2
      have hlt : (γ.β id 0).1 < w.heap.size := (Array.getElem?_eq_some_iff.1 m2).1
      rcases p2 with ⟨j, x', f, q4, q5, q6, q7⟩ | ⟨q4, q5⟩
      · -- the key was there
        have hfk := (run_findKey_eq (P := P) w (row_wide hk) (a.eval i) en.toList).trans q4
        simp only [Nat.zero_add] at hfk
        have hsb : Instr.sameBits 10000 (a.eval i) (a.eval i) = true := by
          rw [e1]
          simp [Instr.sameBits]
          have := sameBits_row mt 9999
          simpa using this
        have hkey : ((en[j]?).map (·.key)).getD (a.eval i) = a.eval i := by
          have : en[j]? = some f := by simpa using q5
          rw [this]; simpa using q6
        have hks : (Instr.keyThatStays (a.eval i) (a.eval i)).run P w = .ok (a.eval i) w := by simp [Instr.keyThatStays, hsb]
        obtain ⟨F, g'⟩ := put_move (obj' := .map (en.modify j fun e => { e with key := a.eval i, val := a.eval y }) cl) g (by omega) m2 (fun _ _ _ e => by cases e) (fun _ e => by cases e) (fun _ _ _ e => by cases e)
        refine ⟨_, .inl ?_, F.mono (fun k e => by rw [e]; exact h3), g', others_hold R g F fun _ => ?_⟩
        · simp [execOp, ho, Instr.mapUpdate, run_underlying hu, hmx.2, hg, hc, hfk, hkey, hks, hset]
        · refine ⟨mc, _, cl, World.putObj_heap_same hlt, ?_, fun n e f' he hf => ?_⟩
          · rw [q7]; simp; simpa using m3.1
          · rw [q7] at he
            have hjl : j < es.length := by
              have := (List.getElem?_eq_some_iff.1 q5).1
              rw [m3.1]; exact this
            by_cases hnj : n = j
            · subst hnj
              simp [hjl] at he
              subst he
              have hf0 : en[n]? = some f := by simpa using q5
              simp [Array.getElem?_modify, hf0] at hf
              subst hf
              exact ⟨DV.mono F.up _ _ hki, DV.mono F.up _ _ hvy'⟩
            · rw [List.getElem?_set_ne (fun e => hnj e.symm)] at he
              rw [Array.getElem?_modify, if_neg (fun e => hnj e.symm)] at hf
              obtain ⟨d1, d2⟩ := m3.2 n e f' he (by simpa using hf)
              exact ⟨DV.mono F.up _ _ d1, DV.mono F.up _ _ d2⟩
      · have hfk := (run_findKey_eq (P := P) w (row_wide hk) (a.eval i) en.toList).trans q4
        obtain ⟨F, g'⟩ := put_move (obj' := .map (en.push { key := a.eval i, val := a.eval y, born := cl }) (cl + 1)) g (by omega) m2 (fun _ _ _ e => by cases e) (fun _ e => by cases e) (fun _ _ _ e => by cases e)
        refine ⟨_, .inl ?_, F.mono (fun k e => by rw [e]; exact h3), g', others_hold R g F fun _ => ?_⟩
        · simp [execOp, ho, Instr.mapUpdate, run_underlying hu, hmx.2, hg, hc, hfk, hset]
        · refine ⟨mc, _, cl + 1, World.putObj_heap_same hlt, ?_, fun n e f' he hf => ?_⟩
          · rw [q5]; simp; simpa using m3.1
          · rw [q5] at he
            have hl : es.length = en.size := by simpa using m3.1
            by_cases hn : n < es.length
            · rw [List.getElem?_append_left hn] at he
              rw [Array.getElem?_push, if_neg (by omega)] at hf
              obtain ⟨d1, d2⟩ := m3.2 n e f' he (by simpa using hf)
              exact ⟨DV.mono F.up _ _ d1, DV.mono F.up _ _ d2⟩
            · have hn2 : n = es.length := by
                have := (List.getElem?_eq_some_iff.1 he).1
                simp at this; omega
              subst hn2
              rw [List.getElem?_append_right (Nat.le_refl _)] at he
              simp at he
              subst he
              rw [Array.getElem?_push, if_pos hl] at hf
              cases hf
              exact ⟨DV.mono F.up _ _ hki, DV.mono F.up _ _ hvy'⟩
    · cases h
  · cases h
end
end Go.Ev
namespace Go.Ev
open Go.RowKit (Below)
section
variable {P : Program} {sl : T D} {ob : T C} {nx : Pos} {lg : Option (T Bool)} {nt : Nat} {o : Oper}
theorem sliceEl_ok {t el : TypeId} {n : Nat} (h : sliceEl P t = some (el, n)) : P.underlying t = some (.slice el) ∧ szOf P el = some n := by
  unfold sliceEl at h
  split at h
  · rename_i el' hu
    split at h
    · rename_i m hm
      cases h
      exact ⟨hu, hm⟩
    · cases h
  · cases h
theorem step_ok {r : RO} {Z : X} (hc : compO P nt o = some r) (h : step r sl ob nx lg = some Z) : OpOk P nt o r.ss ⟨sl, ob, nx, lg⟩ Z := by
  cases hop : o.op with
  | move x =>
    simp only [compO, hop] at hc
    split at hc
    · rename_i s rxx hd hx
      obtain ⟨d, rfl, hd, hlt⟩ := dst_ok hd hc
      exact mv_ok (.inl hop) hd hlt hx h
    · cases hc
  | assign x =>
    simp only [compO, hop] at hc
    split at hc
    · rename_i s rxx hd hx
      obtain ⟨d, rfl, hd, hlt⟩ := dst_ok hd hc
      exact mv_ok (.inr hop) hd hlt hx h
    · cases hc
  | pick c x y =>
    simp only [compO, hop] at hc
    split at hc
    · rename_i s r1 r2 r3 hd h1 h2 h3
      obtain ⟨d, rfl, hd, hlt⟩ := dst_ok hd hc
      exact pick_ok hop hd hlt h1 h2 h3 h
    · cases hc
  | alloc t =>
    simp only [compO, hop] at hc
    split at hc
    · rename_i s zs hd hz
      obtain ⟨d, rfl, hd, hlt⟩ := dst_ok hd hc
      exact new_ok hop hd hlt hz h
    · cases hc
  | box t x =>
    simp only [compO, hop] at hc
    split at hc
    · rename_i s rxx hd hx
      obtain ⟨d, rfl, hd, hlt⟩ := dst_ok hd hc
      exact box_ok hop hd hlt hx h
    · cases hc
  | build t ps =>
    simp only [compO, hop] at hc
    split at hc
    · rename_i s zs pl hd hz hpl
      split at hc
      · rename_i rs hrs
        obtain ⟨d, rfl, hd, hlt⟩ := dst_ok hd hc
        exact bld_ok hop hd hlt hz hpl hrs h
      · cases hc
    · cases hc
  | buildSlice t len ps =>
    simp only [compO, hop] at hc
    split at hc
    · rename_i s el n hd hsl
      obtain ⟨hu, hs⟩ := sliceEl_ok hsl
      split at hc
      · rename_i z rs hz hrs
        cases hb : (Nat.ble (len * n) 16777216 && Nat.beq z.length n) with
        | false => rw [hb] at hc; cases hc
        | true =>
          rw [hb] at hc
          rw [Bool.and_eq_true] at hb
          obtain ⟨d, rfl, hd, hlt⟩ := dst_ok hd hc
          exact bsl_ok hop hd hlt hu hs hz hrs (Nat.le_of_ble_eq_true hb.1) (Nat.eq_of_beq_eq_true hb.2) h
      · cases hc
    · cases hc
  | load t x =>
    simp only [compO, hop] at hc
    split at hc
    · rename_i s rxx n hd hx ht hn
      obtain ⟨d, rfl, hd, hlt⟩ := dst_ok hd hc
      exact ldn_ok hop hd hlt hx ht hn h
    · rename_i s rxx n hd hx ht hn
      obtain ⟨d, rfl, hd, hlt⟩ := dst_ok hd hc
      exact ld1_ok hop hd hlt hx ht h
    · cases hc
  | store t x y =>
    simp only [compO, hop] at hc
    split at hc
    · rename_i r1 r2 n hd hx hy hn
      cases hc
      exact st_ok hop hd hx hy hn h
    · cases hc
  | nilCheck x =>
    simp only [compO, hop] at hc
    split at hc
    · rename_i s rxx hd hx
      obtain ⟨d, rfl, hd, hlt⟩ := dst_ok hd hc
      exact nilc_ok hop hd hlt hx h
    · cases hc
  | binOp op t x y t' =>
    simp only [compO, hop] at hc
    split at hc
    · rename_i s r1 r2 hd hx hy
      split at hc
      · rename_i k hu
        obtain ⟨d, rfl, hd, hlt⟩ := dst_ok hd hc
        exact bin_ok hop hd hlt hx hy h
      · split at hc
        · rename_i ks hk
          obtain ⟨d, rfl, hd, hlt⟩ := dst_ok hd hc
          exact eqr_ok hop rfl hk hd hlt hx hy h
        · rename_i ks hk
          obtain ⟨d, rfl, hd, hlt⟩ := dst_ok hd hc
          exact eqr_ok hop rfl hk hd hlt hx hy h
        · split at hc
          · rename_i tk htk
            obtain ⟨d, rfl, hd, hlt⟩ := dst_ok hd hc
            exact eq_ok hop rfl htk hd hlt hx hy h
          · cases hc
        · split at hc
          · rename_i tk htk
            obtain ⟨d, rfl, hd, hlt⟩ := dst_ok hd hc
            exact eq_ok hop rfl htk hd hlt hx hy h
          · cases hc
        · cases hc
    · cases hc
  | unOp op t x =>
    simp only [compO, hop] at hc
    split at hc
    · rename_i s rxx hd hx
      obtain ⟨d, rfl, hd, hlt⟩ := dst_ok hd hc
      exact un_ok hop hd hlt hx h
    · cases hc
  | convert t' t x =>
    simp only [compO, hop] at hc
    split at hc
    · rename_i s rxx k' k hd hx hu' hu
      obtain ⟨d, rfl, hd, hlt⟩ := dst_ok hd hc
      exact cvi_ok hop hu' hu hd hlt hx h
    · cases hc
  | makeFunc fn first caps =>
    cases fn with
    | func f =>
      simp only [compO, hop] at hc
      split at hc
      · rename_i s pf r1 r2 hd hf h1 h2
        obtain ⟨d, rfl, hd, hlt⟩ := dst_ok hd hc
        exact fnl_ok hop hd hlt hf h1 h2 h
      · cases hc
    | _ => simp only [compO, hop] at hc; cases hc
  | makeMap t res =>
    cases res with
    | none =>
      simp only [compO, hop] at hc
      split at hc
      · rename_i s hd
        obtain ⟨d, rfl, hd, hlt⟩ := dst_ok hd hc
        exact mkm_ok hop hd hlt h
      · cases hc
    | some q => simp only [compO, hop] at hc; cases hc
  | makeSlice t l c =>
    simp only [compO, hop] at hc
    split at hc
    · rename_i s el n r1 r2 hd hsl h1 h2
      obtain ⟨hu, hs⟩ := sliceEl_ok hsl
      split at hc
      · rename_i z i hz hi
        cases hb : (Nat.ble i.bytes 65536 && Nat.beq z.length n) with
        | false => rw [hb] at hc; cases hc
        | true =>
          rw [hb] at hc
          rw [Bool.and_eq_true] at hb
          obtain ⟨d, rfl, hd, hlt⟩ := dst_ok hd hc
          exact mks_ok hop hd hlt h1 h2 hu hs hz hi (Nat.le_of_ble_eq_true hb.1) (Nat.eq_of_beq_eq_true hb.2) h
      · cases hc
    · cases hc
  | slice t x lo hi mx =>
    simp only [compO, hop] at hc
    split at hc
    · rename_i s rxx rlo rhi rmx hd hx hlo hhi hmx
      cases hb : (rhi.isNone && rmx.isSome) with
      | true => rw [hb] at hc; cases hc
      | false =>
        rw [hb] at hc
        simp only [cond_false] at hc
        split at hc
        · rename_i el hu
          split at hc
          · rename_i n hn
            obtain ⟨d, rfl, hd, hlt⟩ := dst_ok hd hc
            exact slc_ok hop hd hlt hx hlo hhi hmx hb hu hn h
          · cases hc
        · rename_i len el hu
          split at hc
          · rename_i n hn
            obtain ⟨d, rfl, hd, hlt⟩ := dst_ok hd hc
            exact sla_ok hop hd hlt hx hlo hhi hmx hu hn h
          · cases hc
        · cases hc
    · cases hc
  | fieldAddr t x f =>
    simp only [compO, hop] at hc
    split at hc
    · rename_i s rxx k ft hd hx hf
      split at hc
      · rename_i n hn
        obtain ⟨d, rfl, hd, hlt⟩ := dst_ok hd hc
        exact fad_ok hop hd hlt hx hf hn h
      · cases hc
    · cases hc
  | field t x f =>
    simp only [compO, hop] at hc
    split at hc
    · rename_i s rxx k ft hd hx hf
      split at hc
      · rename_i row n hr hn
        obtain ⟨d, rfl, hd, hlt⟩ := dst_ok hd hc
        exact fld_ok hop hd hlt hx hf hr hn h
      · cases hc
    · cases hc
  | indexAddr t x i =>
    simp only [compO, hop] at hc
    split at hc
    · rename_i s r1 r2 el hd hx hi hu
      split at hc
      · rename_i n hn
        obtain ⟨d, rfl, hd, hlt⟩ := dst_ok hd hc
        exact ixs_ok hop hd hlt hx hi hu hn h
      · cases hc
    · rename_i s r1 r2 len el hd hx hi hu
      split at hc
      · rename_i n hn
        obtain ⟨d, rfl, hd, hlt⟩ := dst_ok hd hc
        exact ixa_ok hop hd hlt hx hi hu hn h
      · cases hc
    · cases hc
  | lookup t x i ok =>
    simp only [compO, hop] at hc
    split at hc
    · rename_i s r1 r2 k el hd hx hi hu
      split at hc
      · rename_i zero ks hz hk
        obtain ⟨d, rfl, hd, hlt⟩ := dst_ok hd hc
        exact lkp_ok hop hd hlt hx hi hu hz hk h
      · cases hc
    · cases hc
  | mapUpdate t m i v =>
    simp only [compO, hop] at hc
    split at hc
    · rename_i r1 r2 r3 k el hd h1 h2 h3 hu
      split at hc
      · rename_i ks hk
        cases hc
        exact mup_ok hop hd h1 h2 h3 hu hk h
      · cases hc
    · cases hc
  | extract x n =>
    simp only [compO, hop] at hc
    split at hc
    · rename_i s rxx hd hx
      obtain ⟨d, rfl, hd, hlt⟩ := dst_ok hd hc
      exact ext_ok hop hd hlt hx h
    · cases hc
  | index t x i =>
    simp only [compO, hop] at hc
    split at hc
    · rename_i s r1 r2 hd hx hi
      split at hc
      · rename_i len el hu
        split at hc
        · rename_i row z hr hz
          obtain ⟨d, rfl, hd, hlt⟩ := dst_ok hd hc
          exact ixv_ok hop hd hlt hx hi hu hr hz h
        · cases hc
      · rename_i hu
        obtain ⟨d, rfl, hd, hlt⟩ := dst_ok hd hc
        exact ixt_ok hop hd hlt hx hi hu h
      · cases hc
    · cases hc
  | call c =>
    obtain ⟨callee, args, tys⟩ := c
    cases callee with
    | value f =>
      exfalso
      cases f with
      | func f =>
        simp only [compO, hop] at hc
        split at hc
        · split at hc
          · cases hc; cases h
          · rename_i s hd
            obtain ⟨d, rfl, _⟩ := dst_ok hd hc
            cases h
        · cases hc
      | _ =>
        simp only [compO, hop] at hc
        split at hc
        · split at hc
          · cases hc; cases h
          · rename_i s hd
            obtain ⟨d, rfl, _⟩ := dst_ok hd hc
            cases h
        · cases hc
    | invoke r m => simp only [compO, hop] at hc; cases hc
    | builtin b =>
      cases b with
      | len =>
        simp only [compO, hop] at hc
        split at hc
        · rename_i s x t hd ha ht
          split at hc
          · rename_i rxx el hx hu
            obtain ⟨d, rfl, hd, hlt⟩ := dst_ok hd hc
            exact len_ok hop ha ht hd hlt hx hu h
          · cases hc
        · cases hc
      | cap =>
        simp only [compO, hop] at hc
        split at hc
        · rename_i s x t hd ha ht
          split at hc
          · rename_i rxx el hx hu
            obtain ⟨d, rfl, hd, hlt⟩ := dst_ok hd hc
            exact cap_ok hop ha ht hd hlt hx hu h
          · cases hc
        · cases hc
      | append =>
        simp only [compO, hop] at hc
        split at hc
        · rename_i s x y t t' hd ha ht
          split at hc
          · rename_i r1 r2 el n e' hx hy hsl hu'
            obtain ⟨hu, hs⟩ := sliceEl_ok hsl
            split at hc
            · rename_i z i hz hi
              cases hb : (Nat.beq z.length n && Nat.ble i.bytes 65536) with
              | false => rw [hb] at hc; cases hc
              | true =>
                rw [hb] at hc
                rw [Bool.and_eq_true] at hb
                obtain ⟨d, rfl, hd, hlt⟩ := dst_ok hd hc
                exact app_ok hop ha ht hd hlt hx hy hu hs hu' hz hi (Nat.eq_of_beq_eq_true hb.1) (Nat.le_of_ble_eq_true hb.2) h
            · cases hc
          · rename_i r1 r2 el n e' hx hy hsl hu'
            obtain ⟨hu, hs⟩ := sliceEl_ok hsl
            split at hc
            · rename_i z i hz hi
              cases hb : (Nat.beq z.length n && Nat.ble i.bytes 65536) with
              | false => rw [hb] at hc; cases hc
              | true =>
                rw [hb] at hc
                rw [Bool.and_eq_true] at hb
                obtain ⟨d, rfl, hd, hlt⟩ := dst_ok hd hc
                exact apn_ok hop ha ht hd hlt hx hy hu hs hu' hz hi (Nat.eq_of_beq_eq_true hb.1) (Nat.le_of_ble_eq_true hb.2) h
            · cases hc
          · cases hc
        · cases hc
      | copy =>
        simp only [compO, hop] at hc
        split at hc
        · rename_i x y t t' ha ht
          split at hc
          · rename_i r1 r2 el n e' hx hy hsl hu'
            obtain ⟨hu, hs⟩ := sliceEl_ok hsl
            split at hc
            · rename_i hd
              cases hc
              exact cpy_ok (dst := none) hop ha ht hd (fun d e => by cases e) hx hy hu hs hu' h
            · rename_i s hd
              obtain ⟨d, rfl, hd, hlt⟩ := dst_ok hd hc
              exact cpy_ok (dst := some d) hop ha ht hd (fun d' e => by cases e; exact hlt) hx hy hu hs hu' h
          · cases hc
        · cases hc
      | clear =>
        simp only [compO, hop] at hc
        split at hc
        · rename_i x t hd ha ht
          split at hc
          · rename_i r1 el n hx hsl
            obtain ⟨hu, hs⟩ := sliceEl_ok hsl
            split at hc
            · rename_i z hz
              cases hb : Nat.beq z.length n with
              | false => rw [hb] at hc; cases hc
              | true =>
                rw [hb] at hc
                cases hc
                exact clr_ok hop ha ht hd hx hu hs hz (Nat.eq_of_beq_eq_true hb) h
            · cases hc
          · cases hc
        · cases hc
      | max =>
        simp only [compO, hop] at hc
        split at hc
        · rename_i s x y _ hd ha
          split at hc
          · rename_i r1 r2 hx hy
            obtain ⟨d, rfl, hd, hlt⟩ := dst_ok hd hc
            exact maxmin_ok hop ha hd hlt hx hy (.inl ⟨rfl, h⟩)
          · cases hc
        · cases hc
      | min =>
        simp only [compO, hop] at hc
        split at hc
        · rename_i s x y _ hd ha
          split at hc
          · rename_i r1 r2 hx hy
            obtain ⟨d, rfl, hd, hlt⟩ := dst_ok hd hc
            exact maxmin_ok hop ha hd hlt hx hy (.inr ⟨rfl, h⟩)
          · cases hc
        · cases hc
      | _ => simp only [compO, hop] at hc; cases hc
  | _ => simp only [compO, hop] at hc; cases hc
end
end Go.Ev