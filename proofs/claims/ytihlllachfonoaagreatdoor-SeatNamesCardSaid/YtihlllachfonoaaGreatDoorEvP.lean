import Derived.Test.YtihlllachfonoaaGreatDoorEvO
import Derived.DeepKeys3
import Derived.Laws.Pointers
set_option linter.all false
namespace Go.Ev
open Go.RowKit (Below)

def litOf : Value → Lit
  | .bool b => .bool b
  | .int k n => .int k n
  | _ => .nil
def Mt : List LK → List Value → Prop
  | [], us => us = []
  | .b :: ks, us => ∃ b r, us = .bool b :: r ∧ Mt ks r
  | .i k :: ks, us => ∃ n r, us = .int k n :: r ∧ (Lit.int k n).wf = true ∧ Mt ks r
theorem Mt.length : ∀ {ks : List LK} {us : List Value}, Mt ks us → us.length = ks.length
  | [], us, h => by unfold Mt at h; rw [h]; rfl
  | .b :: ks, us, h => by
    unfold Mt at h
    obtain ⟨b, r, rfl, h⟩ := h
    simp [Mt.length h]
  | .i k :: ks, us, h => by
    unfold Mt at h
    obtain ⟨n, r, rfl, _, h⟩ := h
    simp [Mt.length h]
theorem Mt.split : ∀ {a b : List LK} {us : List Value}, Mt (a ++ b) us → Mt a (us.take a.length) ∧ Mt b (us.drop a.length)
  | [], b, us, h => by simpa [Mt] using h
  | .b :: ks, b, us, h => by
    rw [List.cons_append] at h
    unfold Mt at h
    obtain ⟨x, r, rfl, h⟩ := h
    obtain ⟨h1, h2⟩ := Mt.split h
    refine ⟨?_, by simpa using h2⟩
    simp only [List.length_cons, List.take_succ_cons]
    unfold Mt
    exact ⟨x, _, rfl, h1⟩
  | .i k :: ks, b, us, h => by
    rw [List.cons_append] at h
    unfold Mt at h
    obtain ⟨x, r, rfl, hw, h⟩ := h
    obtain ⟨h1, h2⟩ := Mt.split h
    refine ⟨?_, by simpa using h2⟩
    simp only [List.length_cons, List.take_succ_cons]
    unfold Mt
    exact ⟨x, _, rfl, hw, h1⟩

section
variable {P : Program}
theorem kindFs_ok {d : Nat} (IH : ∀ t ks, kinds P d t = some ks → ∀ us, Mt ks us → P.keyLits d t us = some (us.map litOf)) :
    ∀ {fs : List Field} {acc : Nat} {ks : List LK}, kindFs P (kinds P d) fs acc = some ks → ∀ us : List Value, Mt ks (us.drop acc) →
      ∃ ls, (fs.mapM fun f => P.keyLits d f.type ((us.drop f.offset).take (P.cellsOf f.type))) = some ls ∧ ls.flatten = (us.drop acc).map litOf
  | [], acc, ks, h, us, hm => by
    cases h
    unfold Mt at hm
    exact ⟨[], rfl, by rw [hm]; rfl⟩
  | f :: fs, acc, ks, h, us, hm => by
    simp only [kindFs] at h
    split at h
    · rename_i kf hkf
      cases hb : (Nat.beq f.offset acc && Nat.beq (P.cellsOf f.type) kf.length) with
      | false => rw [hb] at h; cases h
      | true =>
        rw [hb] at h
        simp only [cond_true] at h
        rw [Bool.and_eq_true] at hb
        have e1 := Nat.eq_of_beq_eq_true hb.1
        have e2 := Nat.eq_of_beq_eq_true hb.2
        split at h
        · rename_i r hr
          cases h
          obtain ⟨m1, m2⟩ := hm.split
          have h1 := IH f.type kf hkf _ m1
          rw [List.drop_drop] at m2
          obtain ⟨ls, h2, h3⟩ := kindFs_ok IH hr us m2
          refine ⟨((us.drop acc).take kf.length).map litOf :: ls, ?_, ?_⟩
          · rw [List.mapM_cons]
            rw [e1, e2, h1]
            simp only [Option.pure_def, Option.bind_eq_bind, Option.bind_some]
            rw [h2]; rfl
          · rw [List.flatten_cons, h3, ← List.map_append]
            congr 1
            rw [← List.drop_drop, List.take_append_drop]
        · cases h
    · cases h
theorem repK_ok {d : Nat} {e : TypeId} {ks : List LK} (IH : ∀ us, Mt ks us → P.keyLits d e us = some (us.map litOf)) {us : List Value} : ∀ {n i : Nat}, Mt (repK ks n) (us.drop (i * ks.length)) →
      ∃ ls, ((List.range' i n).mapM fun j => P.keyLits d e ((us.drop (j * ks.length)).take ks.length)) = some ls ∧ ls.flatten = (us.drop (i * ks.length)).map litOf
  | 0, i, hm => by
    simp only [repK] at hm
    unfold Mt at hm
    exact ⟨[], rfl, by rw [hm]; rfl⟩
  | n + 1, i, hm => by
    simp only [repK] at hm
    obtain ⟨m1, m2⟩ := hm.split
    rw [List.drop_drop, show i * ks.length + ks.length = (i + 1) * ks.length by rw [Nat.add_mul, Nat.one_mul]] at m2
    obtain ⟨ls, h2, h3⟩ := repK_ok IH m2
    refine ⟨((us.drop (i * ks.length)).take ks.length).map litOf :: ls, ?_, ?_⟩
    · rw [List.range'_succ, List.mapM_cons, IH _ m1]
      simp only [Option.pure_def, Option.bind_eq_bind, Option.bind_some]
      rw [h2]; rfl
    · rw [List.flatten_cons, h3, ← List.map_append]
      congr 1
      rw [show (i + 1) * ks.length = i * ks.length + ks.length by rw [Nat.add_mul, Nat.one_mul], ← List.drop_drop, List.take_append_drop]
theorem repK_length (ks : List LK) : ∀ n, (repK ks n).length = n * ks.length
  | 0 => by simp [repK]
  | n + 1 => by simp [repK, repK_length ks n, Nat.add_mul]; omega

theorem kinds_ok : ∀ d t ks, kinds P d t = some ks → ∀ us, Mt ks us → P.keyLits d t us = some (us.map litOf)
  | 0, t, ks, h, us, hm => by cases h
  | d + 1, t, ks, h, us, hm => by
    unfold kinds at h
    split at h
    · rename_i hu
      cases h
      unfold Mt at hm
      obtain ⟨b, r, rfl, hm⟩ := hm
      unfold Mt at hm
      subst hm
      simp [Program.keyLits, hu, litOf]
    · rename_i k hu
      cases h
      unfold Mt at hm
      obtain ⟨n, r, rfl, hw, hm⟩ := hm
      unfold Mt at hm
      subst hm
      simp [Program.keyLits, hu, litOf, hw]
    · rename_i fs hu
      split at h
      · rename_i ks' hk
        cases hb : (Nat.beq (P.cellsOf t) ks'.length && fs.all (·.name != "_")) with
        | false => rw [hb] at h; cases h
        | true =>
          rw [hb] at h
          cases h
          rw [Bool.and_eq_true] at hb
          have e1 := Nat.eq_of_beq_eq_true hb.1
          obtain ⟨ls, h1, h2⟩ := kindFs_ok (kinds_ok d) hk us (by simpa using hm)
          have hl : us.length = P.cellsOf t := by rw [hm.length, e1]
          unfold Program.keyLits
          simp only [hu]
          rw [if_pos ⟨hl, hb.2⟩, h1]
          simp [h2]
      · cases h
    · rename_i n e hu
      split at h
      · rename_i ks' hk
        cases hb : (Nat.beq (P.cellsOf t) (n * ks'.length) && Nat.beq (P.cellsOf e) ks'.length) with
        | false => rw [hb] at h; cases h
        | true =>
          rw [hb] at h
          cases h
          rw [Bool.and_eq_true] at hb
          have e1 := Nat.eq_of_beq_eq_true hb.1
          have e2 := Nat.eq_of_beq_eq_true hb.2
          obtain ⟨ls, h1, h2⟩ := repK_ok (kinds_ok d e ks' hk) (us := us) (n := n) (i := 0) (by simpa using hm)
          have hl : us.length = P.cellsOf t := by rw [hm.length, repK_length, e1]
          unfold Program.keyLits
          simp only [hu]
          rw [if_pos hl, e2, List.range_eq_range', h1]
          simp [h2]
      · cases h
    · cases h

theorem wfB_ok {k : IntKind} {n : Int} (h : wfB k n = true) : (Lit.int k n).wf = true := by
  unfold wfB at h
  split at h
  · rename_i m
    have h := Nat.le_of_ble_eq_true h
    have h0 : (Int.ofNat m) = (m : Int) := rfl
    cases k <;> simp only [imax] at h <;> simp [Lit.wf, IntKind.min, IntKind.max, IntKind.signed, IntKind.bits] <;> omega
  · rename_i m
    rw [Bool.and_eq_true] at h
    have h1 := Nat.le_of_ble_eq_true h.2
    cases k <;> simp only [imax] at h1 <;> first | (simp [IntKind.signed] at h; done) | (simp [Lit.wf, IntKind.min, IntKind.max, IntKind.signed, IntKind.bits] <;> omega)

/-- Two rows of cells that are compared. -/
theorem eqL_ok {γ γ' : Gh} {w w' : World} : ∀ {ks : List LK} {xs ys : List D} {b : Bool} {us vs : List Value}, eqL ks xs ys = some b → DVL γ w xs us → DVL γ' w' ys vs →
    Mt ks us ∧ Mt ks vs ∧ (b = true ↔ us = vs) ∧ (us.map litOf = vs.map litOf ↔ us = vs)
  | [], [], [], b, us, vs, h, hx, hy => by
    cases h
    unfold DVL at hx hy
    subst hx hy
    exact ⟨rfl, rfl, by simp, by simp⟩
  | k :: ks, x :: xs, y :: ys, b, us, vs, h, hx, hy => by
    simp only [eqL] at h
    split at h
    · rename_i p q hp hq
      cases h
      unfold DVL at hx hy
      obtain ⟨u, us', rfl, hu, hus⟩ := hx
      obtain ⟨v, vs', rfl, hv, hvs⟩ := hy
      obtain ⟨h1, h2, h3, h4⟩ := eqL_ok hq hus hvs
      unfold eqC at hp
      split at hp
      · rename_i a c
        cases hp
        cases DV_b hu
        cases DV_b hv
        refine ⟨⟨a, us', rfl, h1⟩, ⟨c, vs', rfl, h2⟩, ?_, ?_⟩
        · rw [Bool.and_eq_true, h3]; simp
        · simp only [List.map_cons, litOf, List.cons.injEq, Lit.bool.injEq, Value.bool.injEq, h4]
      · rename_i k0 k1 a k2 c
        cases hb : (kEq k1 k0 && kEq k2 k0 && wfB k0 a && wfB k0 c) with
        | false => rw [hb] at hp; cases hp
        | true =>
          rw [hb] at hp
          cases hp
          simp only [Bool.and_eq_true] at hb
          cases kEq_iff.1 hb.1.1.1
          cases kEq_iff.1 hb.1.1.2
          cases DV_i hu
          cases DV_i hv
          refine ⟨⟨a, us', rfl, wfB_ok hb.1.2, h1⟩, ⟨c, vs', rfl, wfB_ok hb.2, h2⟩, ?_, ?_⟩
          · rw [Bool.and_eq_true, h3, eqB_iff]; simp
          · simp only [List.map_cons, litOf, List.cons.injEq, Lit.int.injEq, Value.int.injEq, true_and, h4]
      · cases hp
    · cases h
  | [], x :: xs, ys, b, us, vs, h, hx, hy => by simp [eqL] at h
  | [], [], y :: ys, b, us, vs, h, hx, hy => by simp [eqL] at h
  | k :: ks, [], ys, b, us, vs, h, hx, hy => by simp [eqL] at h
  | k :: ks, x :: xs, [], b, us, vs, h, hx, hy => by simp [eqL] at h

theorem keyRow_ok {t : TypeId} {ks : List LK} (h : keyRow P t = some ks) : isRow P t = some true ∧ P.keyTypeAt 20 t = true ∧ P.eqGuardType P.depth t = false ∧ kinds P 20 t = some ks := by
  unfold keyRow at h
  split at h
  · rename_i hr
    cases hb : (P.keyTypeAt 20 t && !P.eqGuardType P.depth t) with
    | false => rw [hb] at h; cases h
    | true =>
      rw [hb] at h
      rw [Bool.and_eq_true] at hb
      exact ⟨hr, hb.1, by simpa using hb.2, h⟩
  · cases h

theorem row_formed {t : TypeId} {ks : List LK} (h : keyRow P t = some ks) {us : Array Value} (hm : Mt ks us.toList) : (Value.agg us).formed P t = true := by
  obtain ⟨h1, h2, h3, h4⟩ := keyRow_ok h
  have hl := hm.length
  have hsz : P.cellsOf t = ks.length := by
    unfold kinds at h4
    split at h4
    · rename_i hu; unfold isRow at h1; rw [hu] at h1; cases h1
    · rename_i hu; unfold isRow at h1; rw [hu] at h1; cases h1
    · split at h4
      · rename_i ks' hk
        cases hb : (Nat.beq (P.cellsOf t) ks'.length && _) with
        | false => rw [hb] at h4; cases h4
        | true =>
          rw [hb] at h4
          cases h4
          rw [Bool.and_eq_true] at hb
          exact Nat.eq_of_beq_eq_true hb.1
      · cases h4
    · split at h4
      · rename_i ks' hk
        cases hb : (Nat.beq (P.cellsOf t) (_ * ks'.length) && _) with
        | false => rw [hb] at h4; cases h4
        | true =>
          rw [hb] at h4
          cases h4
          rw [Bool.and_eq_true] at hb
          rw [repK_length]
          exact Nat.eq_of_beq_eq_true hb.1
      · cases h4
    · cases h4
  unfold isRow at h1
  split at h1
  · rename_i hu; simp [Value.formed, hu, hsz]; simpa using hl
  · rename_i hu; simp [Value.formed, hu, hsz]; simpa using hl
  · cases h1
  · cases h1

/-- Two keys are compared. -/
theorem run_equal_row {t : TypeId} {ks : List LK} (h : keyRow P t = some ks) {γ γ' : Gh} {w w' : World} {x y : D} {b : Bool} (he : eqR ks x y = some b) {u v : Value} (hu : DV γ w x u) (hv : DV γ' w' y v) (w0 : World) :
    (Op.equal t u v).run P w0 = .ok b w0 ∧ (b = true ↔ u = v) ∧ ∃ us vs, u = .agg us ∧ v = .agg vs ∧ Mt ks us.toList ∧ Mt ks vs.toList := by
  unfold eqR at he
  split at he
  · rename_i xs ys
    obtain ⟨us, rfl, h1, _⟩ := DV_ag hu
    obtain ⟨vs, rfl, h2, _⟩ := DV_ag hv
    obtain ⟨m1, m2, e1, e2⟩ := eqL_ok he h1 h2
    obtain ⟨h3, h4, h5, h6⟩ := keyRow_ok h
    obtain ⟨r, hr, hiff⟩ := run_equalIn_deep (P := P) 9980 20 t h4 w0 20 20 (.agg us) (.agg vs) _ _ (row_formed h m1) (row_formed h m2) (kinds_ok 20 t ks h6 _ m1) (kinds_ok 20 t ks h6 _ m2)
    have hbr : b = r := by
      have : b = true ↔ r = true := by rw [hiff]; exact e1.trans e2.symm
      cases b <;> cases r <;> simp_all
    subst hbr
    refine ⟨hr, ?_, us, vs, rfl, rfl, m1, m2⟩
    rw [e1]
    constructor
    · intro e; rw [show us = vs from Array.ext' e]
    · intro e; cases e; rfl
  · cases he
theorem run_checkKey_row {t : TypeId} {ks : List LK} (h : keyRow P t = some ks) {us : Array Value} (hm : Mt ks us.toList) (em : Bool) (w0 : World) : (Instr.checkKey em 10000 t (.agg us)).run P w0 = .ok () w0 := by
  obtain ⟨h3, h4, h5, h6⟩ := keyRow_ok h
  exact run_checkKey_deep em 9980 20 t h4 w0 20 (.agg us) _ (row_formed h hm) (kinds_ok 20 t ks h6 _ hm)
end
end Go.Ev

namespace Go.Ev
open Go.RowKit (Below)

section
variable {P : Program} {V : Sel} {γ : Gh} {a : Act} {w : World} {sl : T D} {ob : T C} {nx : Pos} {lg : Option (T Bool)} {nt : Nat} {o : Oper} {ro : Option Nat}

theorem eqr_ok {op : BinOp} {t t' : TypeId} {x y : Operand} {neg : Bool} {ks : List LK} {d : Pos} {r1 r2 : RX} {Z : X} (ho : o.op = .binOp op t x y t') (hop : op = bif neg then .neq else .eql) (hk : keyRow P t = some ks) (hd : o.dst = some d.ix) (hlt : d.ix < nt) (hx : rx x = some r1) (hy : rx y = some r2)
    (h : s_eqr d neg ks r1 r2 sl ob nx lg = some Z) : OpOk P nt o (r1.ss ++ r2.ss) ⟨sl, ob, nx, lg⟩ Z := by
  unfold s_eqr at h
  split at h
  · rename_i p q hp hq
    split at h
    · rename_i e he
      rw [boolK_eq] at h
      rw [outK_eq h]
      refine OpOk.pure hd hlt (LgLe.refl _) fun V hs _ γ a w R => ⟨.bool (bif neg then !e else e), ?_, DV_of_b _⟩
      obtain ⟨h1, _, us, vs, h2, h3, _, _⟩ := run_equal_row hk he (opd_ok hx hp R fun s h => hs s (by simp [h])) (opd_ok hy hq R fun s h => hs s (by simp [h])) w
      have hg := (keyRow_ok hk).2.2.1
      rw [h2, h3] at h1
      subst hop
      cases neg <;> simp [execOp, ho, h2, h3, eqGuard, hg, binOp, h1]
    · cases h
  · cases h

theorem run_equalIn_ptr {t e : TypeId} (hu : P.underlying t = some (.pointer e)) (p : Option Addr) (w : World) : (Op.equal t (.pointer p) (.pointer none)).run P w = .ok p.isNone w ∧ (Op.equal t (.pointer none) (.pointer p)).run P w = .ok p.isNone w := by
  have h9 : ∀ d : Nat, (Op.equalIn (d + 1) t (.pointer p) (.pointer none)).run P w = .ok p.isNone w ∧ (Op.equalIn (d + 1) t (.pointer none) (.pointer p)).run P w = .ok p.isNone w := by
    intro d
    constructor
    · rw [Op.equalIn, Sem.run_bind, run_underlying hu]
      cases p <;> rfl
    · rw [Op.equalIn, Sem.run_bind, run_underlying hu]
      rfl
  exact h9 9999
theorem run_equalIn_sl {t e : TypeId} (hu : P.underlying t = some (.slice e)) (p : Option Addr) (n c : Nat) (w : World) : (Op.equal t (.slice p n c) (.slice none 0 0)).run P w = .ok p.isNone w ∧ (Op.equal t (.slice none 0 0) (.slice p n c)).run P w = .ok p.isNone w := by
  have h9 : ∀ d : Nat, (Op.equalIn (d + 1) t (.slice p n c) (.slice none 0 0)).run P w = .ok p.isNone w ∧ (Op.equalIn (d + 1) t (.slice none 0 0) (.slice p n c)).run P w = .ok p.isNone w := by
    intro d
    constructor
    · rw [Op.equalIn, Sem.run_bind, run_underlying hu]
      cases p <;> rfl
    · rw [Op.equalIn, Sem.run_bind, run_underlying hu]
      rfl
  exact h9 9999
theorem run_equalIn_mp {t k e : TypeId} (hu : P.underlying t = some (.map k e)) (p : Option Nat) (w : World) : (Op.equal t (.map p) (.map none)).run P w = .ok p.isNone w := by
  have h9 : ∀ d : Nat, (Op.equalIn (d + 1) t (.map p) (.map none)).run P w = .ok p.isNone w := by
    intro d
    rw [Op.equalIn, Sem.run_bind, run_underlying hu]
    cases p <;> rfl
  exact h9 9999
theorem run_equalIn_bl {t : TypeId} (hu : P.underlying t = some .bool) (x y : Bool) (w : World) : (Op.equal t (.bool x) (.bool y)).run P w = .ok (x == y) w := by
  have h9 : ∀ d : Nat, (Op.equalIn (d + 1) t (.bool x) (.bool y)).run P w = .ok (x == y) w := by
    intro d
    rw [Op.equalIn, Sem.run_bind, run_underlying hu]
    rfl
  exact h9 9999
theorem run_equalIn_fn {t : TypeId} {p q : Array TypeId} {v : Bool} (hu : P.underlying t = some (.func p q v)) (w : World) : (Op.equal t .nilFunc .nilFunc).run P w = .ok true w ∧ ∀ f x y, (Op.equal t (.func f x y) .nilFunc).run P w = .ok false w := by
  have h9 : ∀ d : Nat, (Op.equalIn (d + 1) t .nilFunc .nilFunc).run P w = .ok true w ∧ ∀ f x y, (Op.equalIn (d + 1) t (.func f x y) .nilFunc).run P w = .ok false w := by
    intro d
    refine ⟨?_, fun f x y => ?_⟩
    · rw [Op.equalIn, Sem.run_bind, run_underlying hu]; rfl
    · rw [Op.equalIn, Sem.run_bind, run_underlying hu]; rfl
  exact h9 9999

theorem eqV_ok {t : TypeId} {tk : Nat} {x y : D} {b : Bool} (ht : eqOK P t = some tk) (h : eqV tk x y = some b) {u v : Value} (hu : DV γ w x u) (hv : DV γ w y v) (w0 : World) :
    (Op.equal t u v).run P w0 = .ok b w0 ∧ ∀ (op : BinOp) (p q : Operand), (op = .eql ∨ op = .neq) → (eqGuard op t p q u v).run P w0 = .ok () w0 ∧ (binOp op t u v).run P w0 = ((Op.equal t u v).run P w0).andThen fun r w' => .ok (.bool (bif (op matches .neq) then !r else r)) w' := by
  have fin : ∀ {u v : Value}, (Op.equal t u v).run P w0 = .ok b w0 → (∀ (op : BinOp) (p q : Operand), (op = .eql ∨ op = .neq) → (eqGuard op t p q u v).run P w0 = .ok () w0 ∧ (binOp op t u v).run P w0 = ((Op.equal t u v).run P w0).andThen fun r w' => .ok (.bool (bif (op matches .neq) then !r else r)) w') →
      (Op.equal t u v).run P w0 = .ok b w0 ∧ ∀ (op : BinOp) (p q : Operand), (op = .eql ∨ op = .neq) → (eqGuard op t p q u v).run P w0 = .ok () w0 ∧ (binOp op t u v).run P w0 = ((Op.equal t u v).run P w0).andThen fun r w' => .ok (.bool (bif (op matches .neq) then !r else r)) w' := fun h k => ⟨h, k⟩
  unfold eqV at h
  split at h
  · cases h
    cases DV_b hu
    cases DV_b hv
    have hty : P.underlying t = some .bool := by
      unfold eqOK at ht; split at ht <;> first | assumption | cases ht
    refine fin (run_equalIn_bl hty _ _ _) fun op p q hop => ⟨?_, ?_⟩
    · rcases hop with rfl | rfl <;> simp [eqGuard]
    · rcases hop with rfl | rfl <;> simp [binOp, run_equalIn_bl hty]
  all_goals first | (cases h; done) | skip
  all_goals
    cases h
    unfold DV at hu hv
  · obtain ⟨e, hty⟩ : ∃ e, P.underlying t = some (.slice e) := by unfold eqOK at ht; split at ht <;> first | exact ⟨_, by assumption⟩ | cases ht
    subst hu hv
    refine fin (run_equalIn_sl hty none 0 0 w0).1 fun op p q hop => ⟨?_, ?_⟩ <;> rcases hop with rfl | rfl <;> simp [eqGuard, binOp, (run_equalIn_sl hty none 0 0 w0).1]
  · obtain ⟨e, hty⟩ : ∃ e, P.underlying t = some (.slice e) := by unfold eqOK at ht; split at ht <;> first | exact ⟨_, by assumption⟩ | cases ht
    obtain ⟨_, _, cap, _, _, rfl, _⟩ := hu
    subst hv
    refine fin (run_equalIn_sl hty _ _ _ w0).1 fun op p q hop => ⟨?_, ?_⟩ <;> rcases hop with rfl | rfl <;> simp [eqGuard, binOp, (run_equalIn_sl hty _ _ _ w0).1]
  · obtain ⟨e, hty⟩ : ∃ e, P.underlying t = some (.slice e) := by unfold eqOK at ht; split at ht <;> first | exact ⟨_, by assumption⟩ | cases ht
    obtain ⟨_, rfl⟩ := hu
    subst hv
    refine fin (run_equalIn_sl hty _ _ _ w0).1 fun op p q hop => ⟨?_, ?_⟩ <;> rcases hop with rfl | rfl <;> simp [eqGuard, binOp, (run_equalIn_sl hty _ _ _ w0).1]
  · obtain ⟨e, hty⟩ : ∃ e, P.underlying t = some (.slice e) := by unfold eqOK at ht; split at ht <;> first | exact ⟨_, by assumption⟩ | cases ht
    obtain ⟨p0, cap, rfl, _, _, hlst⟩ := hu
    obtain ⟨_, _, _, _, _, _, _, rfl, _⟩ := hlst.resolve_left (fun h => by cases h)
    subst hv
    refine fin (run_equalIn_sl hty _ _ _ w0).1 fun op p q hop => ⟨?_, ?_⟩ <;> rcases hop with rfl | rfl <;> simp [eqGuard, binOp, (run_equalIn_sl hty _ _ _ w0).1]
  · obtain ⟨e, hty⟩ : ∃ e, P.underlying t = some (.slice e) := by unfold eqOK at ht; split at ht <;> first | exact ⟨_, by assumption⟩ | cases ht
    obtain ⟨_, _, cap, _, _, rfl, _⟩ := hv
    subst hu
    refine fin (run_equalIn_sl hty _ _ _ w0).2 fun op p q hop => ⟨?_, ?_⟩ <;> rcases hop with rfl | rfl <;> simp [eqGuard, binOp, (run_equalIn_sl hty _ _ _ w0).2]
  · obtain ⟨e, hty⟩ : ∃ e, P.underlying t = some (.slice e) := by unfold eqOK at ht; split at ht <;> first | exact ⟨_, by assumption⟩ | cases ht
    obtain ⟨_, rfl⟩ := hv
    subst hu
    refine fin (run_equalIn_sl hty _ _ _ w0).2 fun op p q hop => ⟨?_, ?_⟩ <;> rcases hop with rfl | rfl <;> simp [eqGuard, binOp, (run_equalIn_sl hty _ _ _ w0).2]
  · obtain ⟨e, f, g, hty⟩ : ∃ e f g, P.underlying t = some (.func e f g) := by unfold eqOK at ht; split at ht <;> first | exact ⟨_, _, _, by assumption⟩ | cases ht
    subst hu hv
    refine fin (run_equalIn_fn hty w0).1 fun op p q hop => ⟨?_, ?_⟩ <;> rcases hop with rfl | rfl <;> simp [eqGuard, binOp, (run_equalIn_fn hty w0).1]
  · obtain ⟨e, f, g, hty⟩ : ∃ e f g, P.underlying t = some (.func e f g) := by unfold eqOK at ht; split at ht <;> first | exact ⟨_, _, _, by assumption⟩ | cases ht
    obtain ⟨_, _, rfl, _⟩ := hu
    subst hv
    refine fin ((run_equalIn_fn hty w0).2 _ _ _) fun op p q hop => ⟨?_, ?_⟩ <;> rcases hop with rfl | rfl <;> simp [eqGuard, binOp, (run_equalIn_fn hty w0).2]
  · obtain ⟨e, f, hty⟩ : ∃ e f, P.underlying t = some (.map e f) := by unfold eqOK at ht; split at ht <;> first | exact ⟨_, _, by assumption⟩ | cases ht
    subst hu hv
    refine fin (run_equalIn_mp hty _ w0) fun op p q hop => ⟨?_, ?_⟩ <;> rcases hop with rfl | rfl <;> simp [eqGuard, binOp, run_equalIn_mp hty _ w0]
  · obtain ⟨e, f, hty⟩ : ∃ e f, P.underlying t = some (.map e f) := by unfold eqOK at ht; split at ht <;> first | exact ⟨_, _, by assumption⟩ | cases ht
    obtain ⟨_, rfl⟩ := hu
    subst hv
    refine fin (run_equalIn_mp hty _ w0) fun op p q hop => ⟨?_, ?_⟩ <;> rcases hop with rfl | rfl <;> simp [eqGuard, binOp, run_equalIn_mp hty _ w0]
  · obtain ⟨e, hty⟩ : ∃ e, P.underlying t = some (.pointer e) := by unfold eqOK at ht; split at ht <;> first | exact ⟨_, by assumption⟩ | cases ht
    subst hu hv
    refine fin (run_equalIn_ptr hty none w0).1 fun op p q hop => ⟨?_, ?_⟩ <;> rcases hop with rfl | rfl <;> simp [eqGuard, binOp, (run_equalIn_ptr hty none w0).1]
  · obtain ⟨e, hty⟩ : ∃ e, P.underlying t = some (.pointer e) := by unfold eqOK at ht; split at ht <;> first | exact ⟨_, by assumption⟩ | cases ht
    obtain ⟨_, _, rfl⟩ := hu
    subst hv
    refine fin (run_equalIn_ptr hty _ w0).1 fun op p q hop => ⟨?_, ?_⟩ <;> rcases hop with rfl | rfl <;> simp [eqGuard, binOp, (run_equalIn_ptr hty _ w0).1]
  · obtain ⟨e, hty⟩ : ∃ e, P.underlying t = some (.pointer e) := by unfold eqOK at ht; split at ht <;> first | exact ⟨_, by assumption⟩ | cases ht
    obtain ⟨_, _, rfl⟩ := hv
    subst hu
    refine fin (run_equalIn_ptr hty _ w0).2 fun op p q hop => ⟨?_, ?_⟩ <;> rcases hop with rfl | rfl <;> simp [eqGuard, binOp, (run_equalIn_ptr hty _ w0).2]

theorem eq_ok {op : BinOp} {t t' : TypeId} {x y : Operand} {neg : Bool} {tk : Nat} {d : Pos} {r1 r2 : RX} {Z : X} (ho : o.op = .binOp op t x y t') (hop : op = bif neg then .neq else .eql) (hk : eqOK P t = some tk) (hd : o.dst = some d.ix) (hlt : d.ix < nt) (hx : rx x = some r1) (hy : rx y = some r2)
    (h : s_eq d neg tk r1 r2 sl ob nx lg = some Z) : OpOk P nt o (r1.ss ++ r2.ss) ⟨sl, ob, nx, lg⟩ Z := by
  unfold s_eq at h
  split at h
  · rename_i p q hp hq
    split at h
    · rename_i e he
      rw [boolK_eq] at h
      rw [outK_eq h]
      refine OpOk.pure hd hlt (LgLe.refl _) fun V hs _ γ a w R => ⟨.bool (bif neg then !e else e), ?_, DV_of_b _⟩
      obtain ⟨h1, h2⟩ := eqV_ok hk he (opd_ok hx hp R fun s h => hs s (by simp [h])) (opd_ok hy hq R fun s h => hs s (by simp [h])) w
      obtain ⟨h3, h4⟩ := h2 op x y (by subst hop; cases neg <;> simp)
      rw [h1] at h4
      subst hop
      cases neg
      · simp only [cond_false] at h3 h4 ho ⊢
        simp [execOp, ho, h3, h4]
      · simp only [cond_true] at h3 h4 ho ⊢
        simp [execOp, ho, h3, h4]
    · cases h
  · cases h
end
end Go.Ev
