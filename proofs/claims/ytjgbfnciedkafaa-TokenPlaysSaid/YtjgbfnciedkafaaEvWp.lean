import Derived.Test.YtjgbfnciedkafaaEvRl
set_option linter.all false
namespace Go.Ev
open Go.RowKit (Below)

/-! ### what code leads to: for numbers, lists and conditions that are not known -/
theorem T.set_get {α : Type} : ∀ {p : Pos} {x : α} {t : T α}, t.get p = some x → T.set p x t = t
  | .h, x, .e, h => by rw [T.get_e] at h; cases h
  | .o p, x, .e, h => by rw [T.get_e] at h; cases h
  | .i p, x, .e, h => by rw [T.get_e] at h; cases h
  | .h, x, .n l v r, h => by rw [T.get_h] at h; subst h; rfl
  | .o p, x, .n l v r, h => by rw [T.get_o] at h; show T.n (T.set p x l) v r = _; rw [T.set_get h]
  | .i p, x, .n l v r, h => by rw [T.get_i] at h; show T.n l v (T.set p x r) = _; rw [T.set_get h]

/-- A condition: both ways. -/
inductive WB (t : Bool) (F : Bool → Prop) : Prop where
  | mk (h1 : t = true → F true) (h0 : t = false → F false)
theorem WB.tt {F : Bool → Prop} (h : F true) : WB true F := ⟨fun _ => h, nofun⟩
theorem WB.ff {F : Bool → Prop} (h : F false) : WB false F := ⟨nofun, fun _ => h⟩
theorem WB.at {t : Bool} {F : Bool → Prop} (h : WB t F) : F t := by
  cases h with
  | mk h1 h0 => cases t with
    | true => exact h1 rfl
    | false => exact h0 rfl
theorem WB.of {t : Bool} {F : Bool → Prop} (h : F t) : WB t F := ⟨fun e => by rw [← e]; exact h, fun e => by rw [← e]; exact h⟩

def InR (k : IntKind) (n : Int) : Prop := k.wrap n = n
theorem InR.i64 {n : Int} (h1 : -9223372036854775808 ≤ n) (h2 : n ≤ 9223372036854775807) : InR .i64 n := by
  unfold InR
  cases n with
  | ofNat m => exact imax_wrap .i64 (by have h2 : (m : Int) ≤ 9223372036854775807 := h2; simp only [imax]; omega)
  | negSucc m => exact imin_wrap .i64 rfl (by simp only [imax]; omega)
theorem InR.u64 {n : Int} (h1 : 0 ≤ n) (h2 : n ≤ 18446744073709551615) : InR .u64 n := by
  unfold InR
  cases n with
  | ofNat m => exact imax_wrap .u64 (by have h2 : (m : Int) ≤ 18446744073709551615 := h2; simp only [imax]; omega)
  | negSucc m => omega
theorem InR.u16 {n : Int} (h1 : 0 ≤ n) (h2 : n ≤ 65535) : InR .u16 n := by
  unfold InR
  cases n with
  | ofNat m => exact imax_wrap .u16 (by have h2 : (m : Int) ≤ 65535 := h2; simp only [imax]; omega)
  | negSucc m => omega
theorem InR.u8 {n : Int} (h1 : 0 ≤ n) (h2 : n ≤ 255) : InR .u8 n := by
  unfold InR
  cases n with
  | ofNat m => exact imax_wrap .u8 (by have h2 : (m : Int) ≤ 255 := h2; simp only [imax]; omega)
  | negSucc m => omega

/-- A call. -/
structure WCall (P : Program) (f : Nat) (ds : List D) (d : Option Pos) (x : X) (K : X → Prop) : Prop where
  ok : ∃ v ob' nx' lg' Z, CallOk P f ds x.ob x.nx x.lg v ob' nx' lg' ∧ dstK x.sl ob' nx' lg' d v = some Z ∧ K Z
/-- A round. -/
structure WRnd (P : Program) (id : Pos) (ds : List D) (d : Option Pos) (x : X) (K : X → Prop) : Prop where
  ok : ∃ v ob' nx' lg' Z, RndOk P id ds x.ob x.nx x.lg v ob' nx' lg' ∧ dstK x.sl ob' nx' lg' d v = some Z ∧ K Z
/-- An operation whose run is looked at by itself. -/
structure WSt (r : RO) (x : X) (K : X → Prop) : Prop where
  ok : ∃ Z, step r x.sl x.ob x.nx x.lg = some Z ∧ K Z
/-- A row of a list. -/
structure WIx (es : List (List D)) (n : Int) (F : List D → Prop) : Prop where
  ok : ∃ r, 0 ≤ n ∧ es[n.toNat]? = some r ∧ F r
theorem WIx.map {α : Type} [Inhabited α] {f : α → List D} {l : List α} {n : Int} {F : List D → Prop} (h0 : 0 ≤ n) (h1 : n < l.length) (h : F (f (l.getD n.toNat default))) : WIx (l.map f) n F :=
  ⟨_, h0, by rw [List.getElem?_map, List.getElem?_eq_getElem (by omega)]; simp [List.getD]; rw [List.getElem?_eq_getElem (by omega)]; rfl, h⟩

noncomputable def wOut (sl : T D) (ob : T C) (nx : Pos) (lg : Option (T Bool)) (d : Pos) (K : X → Prop) (v : D) : Prop := T.setK d v sl fun sl => K ⟨sl, ob, nx, lg⟩
noncomputable def wDst (sl : T D) (ob : T C) (nx : Pos) (lg : Option (T Bool)) (d : Option Pos) (K : X → Prop) (v : D) : Prop :=
  match d with
  | none => K ⟨sl, ob, nx, lg⟩
  | some d => wOut sl ob nx lg d K v
def wArith (op : BinOp) (k : IntKind) (a b : Int) (f : D → Prop) (g : Prop) : Prop :=
  match op with
  | .add => InR k (a + b) ∧ f (.i k (a + b))
  | .sub => InR k (a - b) ∧ f (.i k (a - b))
  | .mul => InR k (a * b) ∧ f (.i k (a * b))
  | .quo => b ≠ 0 ∧ InR k (a.tdiv b) ∧ f (.i k (a.tdiv b))
  | .rem => b ≠ 0 ∧ f (.i k (a.tmod b))
  | .eql => f (.b (decide (a = b)))
  | .neq => f (.b (!decide (a = b)))
  | .lss => f (.b (decide (a < b)))
  | .leq => f (.b (decide (a ≤ b)))
  | .gtr => f (.b (decide (b < a)))
  | .geq => f (.b (decide (b ≤ a)))
  | _ => g
noncomputable def wBin (r : RO) (sl : T D) (ob : T C) (nx : Pos) (lg : Option (T Bool)) (d : Pos) (op : BinOp) (a b : Option D) (K : X → Prop) : Prop :=
  match a, b with
  | some (.i k a), some (.i k' b) => bif kEq k k' then wArith op k a b (wOut sl ob nx lg d K) (WSt r ⟨sl, ob, nx, lg⟩ K) else WSt r ⟨sl, ob, nx, lg⟩ K
  | _, _ => False
noncomputable def wSt (o : Option X) (K : X → Prop) : Prop :=
  match o with
  | some Z => K Z
  | none => False
noncomputable def wO (P : Program) (r : RO) (sl : T D) (ob : T C) (nx : Pos) (lg : Option (T Bool)) (K : X → Prop) : Prop :=
  match r with
  | .bin d op a b => wBin r sl ob nx lg d op (opd sl a) (opd sl b) K
  | .un d op a => match op, opd sl a with
    | .not, some (.b t) => wOut sl ob nx lg d K (.b (!t))
    | .neg, some (.i k n) => InR k (-n) ∧ wOut sl ob nx lg d K (.i k (-n))
    | _, _ => False
  | .cvi d k a => match opd sl a with
    | some (.i _ n) => InR k n ∧ wOut sl ob nx lg d K (.i k n)
    | _ => False
  | .eq d neg tk a b => match tk, opd sl a, opd sl b with
    | 0, some (.b s), some (.b t) => wOut sl ob nx lg d K (.b (bif neg then !(s == t) else s == t))
    | _, _, _ => wSt (step r sl ob nx lg) K
  | .eqr _ _ _ _ _ => WSt r ⟨sl, ob, nx, lg⟩ K
  | .pick d c a b => match opd sl c, opd sl a, opd sl b with
    | some (.b t), some u, some v => WB t fun t => bif t then wOut sl ob nx lg d K u else wOut sl ob nx lg d K v
    | _, _, _ => False
  | .ixs d z a i => match opd sl a, opd sl i with
    | some (.lst z' es), some (.i _ n) => bif Nat.beq z z' then WIx es n fun r => wOut sl ob nx lg d K (.pl r 0) else False
    | _, _ => WSt r ⟨sl, ob, nx, lg⟩ K
  | .len d a => match opd sl a with
    | some (.lst _ es) => wOut sl ob nx lg d K (.i .i64 (es.length : Int))
    | _ => wSt (step r sl ob nx lg) K
  | .mx d a b => match opd sl a, opd sl b with
    | some (.i k a), some (.i k' b) => bif kEq k k' then wOut sl ob nx lg d K (.i k (max a b)) else False
    | _, _ => False
  | .mn d a b => match opd sl a, opd sl b with
    | some (.i k a), some (.i k' b) => bif kEq k k' then wOut sl ob nx lg d K (.i k (min a b)) else False
    | _, _ => False
  | .cf d f xs => match opds sl xs with
    | some ds => WCall P f.ix ds d ⟨sl, ob, nx, lg⟩ K
    | none => False
  | .cv d g xs => match opd sl g, opds sl xs with
    | some (.fn f first caps), some ds => WCall P f.ix (first ++ (ds ++ caps)) d ⟨sl, ob, nx, lg⟩ K
    | some (.yl id), some ds => WRnd P id ds d ⟨sl, ob, nx, lg⟩ K
    | _, _ => False
  | .app _ _ _ _ => WSt r ⟨sl, ob, nx, lg⟩ K
  | .cpy _ _ _ _ => WSt r ⟨sl, ob, nx, lg⟩ K
  | .slc _ _ _ _ _ _ => WSt r ⟨sl, ob, nx, lg⟩ K
  | .sla _ _ _ _ _ _ _ => WSt r ⟨sl, ob, nx, lg⟩ K
  | .mks _ _ _ _ _ => WSt r ⟨sl, ob, nx, lg⟩ K
  | .lkp _ _ _ _ _ _ => WSt r ⟨sl, ob, nx, lg⟩ K
  | .mup _ _ _ _ => WSt r ⟨sl, ob, nx, lg⟩ K
  | .ixa _ _ _ _ _ => WSt r ⟨sl, ob, nx, lg⟩ K
  | r => wSt (step r sl ob nx lg) K

section
variable {P : Program} {sl : T D} {ob : T C} {nx : Pos} {lg : Option (T Bool)} {K : X → Prop}
theorem wOut_ok {d : Pos} {v : D} (h : wOut sl ob nx lg d K v) : outK sl ob nx lg d v = some ⟨T.set d v sl, ob, nx, lg⟩ ∧ K ⟨T.set d v sl, ob, nx, lg⟩ := by
  unfold wOut at h
  rw [T.setK_eq] at h
  exact ⟨by unfold outK; rw [T.setK_eq], h⟩
theorem wOut_st {r : RO} {d : Pos} {v : D} (h : wOut sl ob nx lg d K v) (hs : step r sl ob nx lg = outK sl ob nx lg d v) : ∃ Z, OR P r ⟨sl, ob, nx, lg⟩ Z ∧ K Z :=
  let ⟨h1, h2⟩ := wOut_ok h
  ⟨_, .st (hs.trans h1), h2⟩
theorem WSt_ok {r : RO} (h : WSt r ⟨sl, ob, nx, lg⟩ K) : ∃ Z, OR P r ⟨sl, ob, nx, lg⟩ Z ∧ K Z :=
  let ⟨Z, h1, h2⟩ := h.ok
  ⟨Z, .st h1, h2⟩
theorem wSt_ok {r : RO} (h : wSt (step r sl ob nx lg) K) : ∃ Z, OR P r ⟨sl, ob, nx, lg⟩ Z ∧ K Z := by
  unfold wSt at h
  split at h
  · rename_i Z hz
    exact ⟨Z, .st hz, h⟩
  · exact h.elim

theorem decide_neq (a b : Int) : (!(a == b)) = !decide (a = b) := rfl
theorem wBin_ok {d : Pos} {op : BinOp} {a b : RX} (h : wBin (.bin d op a b) sl ob nx lg d op (opd sl a) (opd sl b) K) : ∃ Z, OR P (.bin d op a b) ⟨sl, ob, nx, lg⟩ Z ∧ K Z := by
  unfold wBin at h
  split at h
  · rename_i k m k' n ha hb
    cases hk : kEq k k' with
    | false => rw [hk] at h; exact WSt_ok h
    | true =>
      rw [hk] at h
      simp only [cond_true] at h
      have hs : step (.bin d op a b) sl ob nx lg = binK op (.i k m) (.i k' n) fun v => outK sl ob nx lg d v := by
        show s_bin d op a b sl ob nx lg = _
        unfold s_bin
        rw [ha, hb]
      cases op <;> unfold wArith at h
      case add =>
        refine wOut_st h.2 (hs.trans ?_)
        simp only [binK, hk, cond_true, arithK, wrapK_eq, iadd_eq]
        rw [show k.wrap (m + n) = m + n from h.1]
      case sub =>
        refine wOut_st h.2 (hs.trans ?_)
        simp only [binK, hk, cond_true, arithK, wrapK_eq, isub_eq]
        rw [show k.wrap (m - n) = m - n from h.1]
      case mul =>
        refine wOut_st h.2 (hs.trans ?_)
        simp only [binK, hk, cond_true, arithK, wrapK_eq, imul_eq]
        rw [show k.wrap (m * n) = m * n from h.1]
      case quo =>
        have h0 : (n == 0) = false := by simpa using h.1
        refine wOut_st h.2.2 (hs.trans ?_)
        simp only [binK, hk, cond_true, arithK, wrapK_eq, iquo_eq, eqB_eq]
        rw [show (n == Int.ofNat 0) = false from h0]
        simp only [cond_false]
        rw [show k.wrap (m.tdiv n) = m.tdiv n from h.2.1]
      case rem =>
        have h0 : (n == 0) = false := by simpa using h.1
        refine wOut_st h.2 (hs.trans ?_)
        simp only [binK, hk, cond_true, arithK, intK_eq, irem_eq, eqB_eq]
        rw [show (n == Int.ofNat 0) = false from h0]
        rfl
      case eql => exact wOut_st h (hs.trans (by simp only [binK, hk, cond_true, arithK, boolK_eq, eqB_eq]; rfl))
      case neq => exact wOut_st h (hs.trans (by simp only [binK, hk, cond_true, arithK, boolK_eq, eqB_eq]; rfl))
      case lss => exact wOut_st h (hs.trans (by simp only [binK, hk, cond_true, arithK, boolK_eq, ltB_eq]))
      case leq => exact wOut_st h (hs.trans (by simp only [binK, hk, cond_true, arithK, boolK_eq, ltB_eq]; congr 2; simp [← decide_not]))
      case gtr => exact wOut_st h (hs.trans (by simp only [binK, hk, cond_true, arithK, boolK_eq, ltB_eq]))
      case geq => exact wOut_st h (hs.trans (by simp only [binK, hk, cond_true, arithK, boolK_eq, ltB_eq]; congr 2; simp [← decide_not]))
      all_goals exact WSt_ok h
  · exact h.elim

theorem wO_ok {r : RO} (h : wO P r sl ob nx lg K) : ∃ Z, OR P r ⟨sl, ob, nx, lg⟩ Z ∧ K Z := by
  unfold wO at h
  split at h
  · exact wBin_ok h
  · rename_i d op a
    split at h
    · rename_i t ha
      refine wOut_st h ?_
      show s_un d .not a sl ob nx lg = _
      unfold s_un
      rw [ha]
      simp only [boolK_eq]
    · rename_i k n ha
      refine wOut_st h.2 ?_
      show s_un d .neg a sl ob nx lg = _
      unfold s_un
      rw [ha]
      simp only [wrapK_eq, isub_eq]
      rw [show Int.ofNat 0 - n = -n by show (0 : Int) - n = -n; omega, show k.wrap (-n) = -n from h.1]
    · exact h.elim
  · rename_i d k a
    split at h
    · rename_i k' n ha
      refine wOut_st h.2 ?_
      show s_cvi d k a sl ob nx lg = _
      unfold s_cvi
      rw [ha]
      simp only [wrapK_eq]
      rw [show k.wrap n = n from h.1]
    · exact h.elim
  · rename_i d neg tk a b
    split at h
    · rename_i s t ha hb
      refine wOut_st h ?_
      show s_eq d neg 0 a b sl ob nx lg = _
      unfold s_eq
      rw [ha, hb]
      simp only [eqV, boolK_eq]
    · exact wSt_ok h
  · exact WSt_ok h
  · rename_i d c a b
    split at h
    · rename_i t u v hc ha hb
      have h := h.at
      cases t with
      | true =>
        refine wOut_st h ?_
        show s_pick d c a b sl ob nx lg = _
        unfold s_pick
        rw [hc, ha]
      | false =>
        refine wOut_st h ?_
        show s_pick d c a b sl ob nx lg = _
        unfold s_pick
        rw [hc, hb]
    · exact h.elim
  · rename_i d z a i
    split at h
    · rename_i z' es k n ha hi
      cases hz : Nat.beq z z' with
      | false => rw [hz] at h; exact h.elim
      | true =>
        rw [hz] at h
        obtain ⟨r, h1, h2, h3⟩ := h.ok
        refine wOut_st h3 ?_
        show s_ixs d z a i sl ob nx lg = _
        unfold s_ixs
        rw [ha, hi]
        simp only [hz, cond_true]
        have hlt : n.toNat < es.length := (List.getElem?_eq_some_iff.1 h2).1
        have e : idx n es.length = some n.toNat := by
          cases n with
          | negSucc m => omega
          | ofNat m =>
            simp only [idx]
            rw [show Nat.blt m es.length = true from Nat.ble_eq_true_of_le hlt]
            rfl
        rw [e]
        simp only [nthC_eq, h2]
    · exact WSt_ok h
  · rename_i d a
    split at h
    · rename_i z es ha
      refine wOut_st h ?_
      show s_len d a sl ob nx lg = _
      unfold s_len
      rw [ha]
      simp only [natK_eq]
      rfl
    · exact wSt_ok h
  · rename_i d a b
    split at h
    · rename_i k m k' n ha hb
      cases hk : kEq k k' with
      | false => rw [hk] at h; exact h.elim
      | true =>
        rw [hk] at h
        obtain rfl := kEq_iff.1 hk
        refine wOut_st h ?_
        show s_mx d a b sl ob nx lg = _
        unfold s_mx
        rw [ha, hb]
        simp only [hk, cond_true, ltB_eq]
        by_cases hlt : m < n
        · simp [hlt, Int.max_eq_right (Int.le_of_lt hlt)]
        · simp [hlt, Int.max_eq_left (Int.not_lt.1 hlt)]
    · exact h.elim
  · rename_i d a b
    split at h
    · rename_i k m k' n ha hb
      cases hk : kEq k k' with
      | false => rw [hk] at h; exact h.elim
      | true =>
        rw [hk] at h
        obtain rfl := kEq_iff.1 hk
        refine wOut_st h ?_
        show s_mn d a b sl ob nx lg = _
        unfold s_mn
        rw [ha, hb]
        simp only [hk, cond_true, ltB_eq]
        by_cases hlt : n < m
        · simp [hlt, Int.min_eq_right (Int.le_of_lt hlt)]
        · simp [hlt, Int.min_eq_left (Int.not_lt.1 hlt)]
    · exact h.elim
  · rename_i d f xs
    split at h
    · rename_i ds hds
      obtain ⟨v, ob', nx', lg', Z, h1, h2, h3⟩ := h.ok
      exact ⟨Z, .cf hds h1 h2, h3⟩
    · exact h.elim
  · rename_i d g xs
    split at h
    · rename_i f first caps ds hg hds
      obtain ⟨v, ob', nx', lg', Z, h1, h2, h3⟩ := h.ok
      exact ⟨Z, .cv hg hds h1 h2, h3⟩
    · rename_i id ds hg hds
      obtain ⟨v, ob', nx', lg', Z, h1, h2, h3⟩ := h.ok
      exact ⟨Z, .cy hg hds h1 h2, h3⟩
    · exact h.elim
  all_goals first | exact WSt_ok h | exact wSt_ok h
end
end Go.Ev
