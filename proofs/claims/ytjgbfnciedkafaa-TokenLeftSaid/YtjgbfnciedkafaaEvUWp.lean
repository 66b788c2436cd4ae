import Derived.Test.YtjgbfnciedkafaaEvUFz
set_option linter.all false
namespace Go.Ev
open Go.RowKit (Below)
theorem T.set_get {α : Type} : ∀ {p : Pos} {x : α} {t : T α}, t.get p = some x → T.set p x t = t
  | .h, x, .e, h => by rw [T.get_e] at h; cases h
  | .o p, x, .e, h => by rw [T.get_e] at h; cases h
  | .i p, x, .e, h => by rw [T.get_e] at h; cases h
  | .h, x, .n l v r, h => by rw [T.get_h] at h; subst h; rfl
  | .o p, x, .n l v r, h => by rw [T.get_o] at h; show T.n (T.set p x l) v r = _; rw [T.set_get h]
  | .i p, x, .n l v r, h => by rw [T.get_i] at h; show T.n l v (T.set p x r) = _; rw [T.set_get h]
inductive WB (t : Bool) (F : Bool → Prop) : Prop where
  | mk (h1 : t = true → F true) (h0 : t = false → F false)
theorem WB.tt {F : Bool → Prop} (h : F true) : WB true F := ⟨fun _ => h, nofun⟩
theorem WB.ff {F : Bool → Prop} (h : F false) : WB false F := ⟨nofun, fun _ => h⟩
theorem WB.at {t : Bool} {F : Bool → Prop} (h : WB t F) : F t := by
  cases h with
  | mk h1 h0 => cases t with
    | true => exact h1 rfl
    | false => exact h0 rfl
theorem WB.of {t : Bool} {F : Bool → Prop} (h : F t) : WB t F := ⟨fun e => by rw [← e]; exact h, fun e => by rw [← e]; exact h⟩
def InR (k : IntKind) (n : Int) : Prop := k.wrap n = n
theorem InR.i64 {n : Int} (h1 : -9223372036854775808 ≤ n) (h2 : n ≤ 9223372036854775807) : InR .i64 n := by
  unfold InR
  cases n with
  | ofNat m => exact imax_wrap .i64 (by have h2 : (m : Int) ≤ 9223372036854775807 := h2; simp only [imax]; omega)
  | negSucc m => exact imin_wrap .i64 rfl (by simp only [imax]; omega)
theorem InR.u64 {n : Int} (h1 : 0 ≤ n) (h2 : n ≤ 18446744073709551615) : InR .u64 n := by
  unfold InR
  cases n with
  | ofNat m => exact imax_wrap .u64 (by have h2 : (m : Int) ≤ 18446744073709551615 := h2; simp only [imax]; omega)
  | negSucc m => omega
theorem InR.u16 {n : Int} (h1 : 0 ≤ n) (h2 : n ≤ 65535) : InR .u16 n := by
  unfold InR
  cases n with
  | ofNat m => exact imax_wrap .u16 (by have h2 : (m : Int) ≤ 65535 := h2; simp only [imax]; omega)
  | negSucc m => omega
theorem InR.u8 {n : Int} (h1 : 0 ≤ n) (h2 : n ≤ 255) : InR .u8 n := by
  unfold InR
  cases n with
  | ofNat m => exact imax_wrap .u8 (by have h2 : (m : Int) ≤ 255 := h2; simp only [imax]; omega)
  | negSucc m => omega
structure WCall (P : Program) (f : Nat) (ds : List D) (d : Option Pos) (x : X) (K : X → Prop) : Prop where
  ok : ∃ v ob' nx' lg' Z, CallOk P f ds x.ob x.nx x.lg v ob' nx' lg' ∧ dstK x.sl ob' nx' lg' d v = some Z ∧ K Z
structure WRnd (P : Program) (id : Pos) (ds : List D) (d : Option Pos) (x : X) (K : X → Prop) : Prop where
  ok : ∃ v ob' nx' lg' Z, RndOk P id ds x.ob x.nx x.lg v ob' nx' lg' ∧ dstK x.sl ob' nx' lg' d v = some Z ∧ K Z
structure WSt (r : RO) (x : X) (K : X → Prop) : Prop where
  ok : ∃ Z, step r x.sl x.ob x.nx x.lg = some Z ∧ K Z
structure WIx (es : List (List D)) (n : Int) (F : List D → Prop) : Prop where
  ok : ∃ r, 0 ≤ n ∧ es[n.toNat]? = some r ∧ F r
theorem WIx.map {α : Type} [Inhabited α] {f : α → List D} {l : List α} {n : Int} {F : List D → Prop} (h0 : 0 ≤ n) (h1 : n < l.length) (h : F (f (l.getD n.toNat default))) : WIx (l.map f) n F :=
  ⟨_, h0, by rw [List.getElem?_map, List.getElem?_eq_getElem (by omega)]; simp [List.getD]; rw [List.getElem?_eq_getElem (by omega)]; rfl, h⟩
noncomputable def wOut (sl : T D) (ob : T C) (nx : Pos) (lg : Option (T Bool)) (d : Pos) (K : X → Prop) (v : D) : Prop := T.setK d v sl fun sl => K ⟨sl, ob, nx, lg⟩
noncomputable def wDst (sl : T D) (ob : T C) (nx : Pos) (lg : Option (T Bool)) (d : Option Pos) (K : X → Prop) (v : D) : Prop :=
  match d with
  | none => K ⟨sl, ob, nx, lg⟩
  | some d => wOut sl ob nx lg d K v
def wArith (op : BinOp) (k : IntKind) (a b : Int) (f : D → Prop) (g : Prop) : Prop :=
  match op with
  | .add => InR k (a + b) ∧ f (.i k (a + b))
  | .sub => InR k (a - b) ∧ f (.i k (a - b))
  | .mul => InR k (a * b) ∧ f (.i k (a * b))
  | .quo => b ≠ 0 ∧ InR k (a.tdiv b) ∧ f (.i k (a.tdiv b))
  | .rem => b ≠ 0 ∧ f (.i k (a.tmod b))
  | .eql => f (.b (decide (a = b)))
  | .neq => f (.b (!decide (a = b)))
  | .lss => f (.b (decide (a < b)))
  | .leq => f (.b (decide (a ≤ b)))
  | .gtr => f (.b (decide (b < a)))
  | .geq => f (.b (decide (b ≤ a)))
  | _ => g
noncomputable def wBin (r : RO) (sl : T D) (ob : T C) (nx : Pos) (lg : Option (T Bool)) (d : Pos) (op : BinOp) (a b : Option D) (K : X → Prop) : Prop :=
  match a, b with
  | some (.i k a), some (.i k' b) => bif kEq k k' then wArith op k a b (wOut sl ob nx lg d K) (WSt r ⟨sl, ob, nx, lg⟩ K) else WSt r ⟨sl, ob, nx, lg⟩ K
  | _, _ => False
noncomputable def wSt (o : Option X) (K : X → Prop) : Prop :=
  match o with
  | some Z => K Z
  | none => False
noncomputable def wO (P : Program) (r : RO) (sl : T D) (ob : T C) (nx : Pos) (lg : Option (T Bool)) (K : X → Prop) : Prop :=
  match r with
  | .bin d op a b => wBin r sl ob nx lg d op (opd sl a) (opd sl b) K
  | .un d op a => match op, opd sl a with
    | .not, some (.b t) => wOut sl ob nx lg d K (.b (!t))
    | .neg, some (.i k n) => InR k (-n) ∧ wOut sl ob nx lg d K (.i k (-n))
    | _, _ => False
  | .cvi d k a => match opd sl a with
    | some (.i _ n) => InR k n ∧ wOut sl ob nx lg d K (.i k n)
    | _ => False
  | .eq d neg tk a b => match tk, opd sl a, opd sl b with
    | 0, some (.b s), some (.b t) => wOut sl ob nx lg d K (.b (bif neg then !(s == t) else s == t))
    | _, _, _ => wSt (step r sl ob nx lg) K
  | .eqr _ _ _ _ _ => WSt r ⟨sl, ob, nx, lg⟩ K
  | .pick d c a b => match opd sl c, opd sl a, opd sl b with
    | some (.b t), some u, some v => WB t fun t => bif t then wOut sl ob nx lg d K u else wOut sl ob nx lg d K v
    | _, _, _ => False
  | .ixs d z a i => match opd sl a, opd sl i with
    | some (.lst z' es), some (.i _ n) => bif Nat.beq z z' then WIx es n fun r => wOut sl ob nx lg d K (.pl r 0) else False
    | _, _ => WSt r ⟨sl, ob, nx, lg⟩ K
  | .len d a => match opd sl a with
    | some (.lst _ es) => wOut sl ob nx lg d K (.i .i64 (es.length : Int))
    | _ => wSt (step r sl ob nx lg) K
  | .mx d a b => match opd sl a, opd sl b with
    | some (.i k a), some (.i k' b) => bif kEq k k' then wOut sl ob nx lg d K (.i k (max a b)) else False
    | _, _ => False
  | .mn d a b => match opd sl a, opd sl b with
    | some (.i k a), some (.i k' b) => bif kEq k k' then wOut sl ob nx lg d K (.i k (min a b)) else False
    | _, _ => False
  | .cf d f xs => match opds sl xs with
    | some ds => WCall P f.ix ds d ⟨sl, ob, nx, lg⟩ K
    | none => False
  | .cv d g xs => match opd sl g, opds sl xs with
    | some (.fn f first caps), some ds => WCall P f.ix (first ++ (ds ++ caps)) d ⟨sl, ob, nx, lg⟩ K
    | some (.yl id), some ds => WRnd P id ds d ⟨sl, ob, nx, lg⟩ K
    | _, _ => False
  | .app _ _ _ _ => WSt r ⟨sl, ob, nx, lg⟩ K
  | .cpy _ _ _ _ => WSt r ⟨sl, ob, nx, lg⟩ K
  | .slc _ _ _ _ _ _ => WSt r ⟨sl, ob, nx, lg⟩ K
  | .sla _ _ _ _ _ _ _ => WSt r ⟨sl, ob, nx, lg⟩ K
  | .mks _ _ _ _ _ => WSt r ⟨sl, ob, nx, lg⟩ K
  | .lkp _ _ _ _ _ _ => WSt r ⟨sl, ob, nx, lg⟩ K
  | .mup _ _ _ _ => WSt r ⟨sl, ob, nx, lg⟩ K
  | .ixa _ _ _ _ _ => WSt r ⟨sl, ob, nx, lg⟩ K
  | r => wSt (step r sl ob nx lg) K
section
variable {P : Program} {sl : T D} {ob : T C} {nx : Pos} {lg : Option (T Bool)} {K : X → Prop}
theorem wOut_ok {d : Pos} {v : D} (h : wOut sl ob nx lg d K v) : outK sl ob nx lg d v = some ⟨T.set d v sl, ob, nx, lg⟩ ∧ K ⟨T.set d v sl, ob, nx, lg⟩ := by
  unfold wOut at h
  rw [T.setK_eq] at h
  exact ⟨by unfold outK; rw [T.setK_eq], h⟩
theorem wOut_st {r : RO} {d : Pos} {v : D} (h : wOut sl ob nx lg d K v) (hs : step r sl ob nx lg = outK sl ob nx lg d v) : ∃ Z, OR P r ⟨sl, ob, nx, lg⟩ Z ∧ K Z :=
  let ⟨h1, h2⟩ := wOut_ok h
  ⟨_, .st (hs.trans h1), h2⟩
theorem WSt_ok {r : RO} (h : WSt r ⟨sl, ob, nx, lg⟩ K) : ∃ Z, OR P r ⟨sl, ob, nx, lg⟩ Z ∧ K Z :=
  let ⟨Z, h1, h2⟩ := h.ok
  ⟨Z, .st h1, h2⟩
theorem wSt_ok {r : RO} (h : wSt (step r sl ob nx lg) K) : ∃ Z, OR P r ⟨sl, ob, nx, lg⟩ Z ∧ K Z := by
  unfold wSt at h
  split at h
  · rename_i Z hz
    exact ⟨Z, .st hz, h⟩
  · exact h.elim
theorem wBin_ok {d : Pos} {op : BinOp} {a b : RX} (h : wBin (.bin d op a b) sl ob nx lg d op (opd sl a) (opd sl b) K) : ∃ Z, OR P (.bin d op a b) ⟨sl, ob, nx, lg⟩ Z ∧ K Z := by
  unfold wBin at h
  split at h
  · rename_i k m k' n ha hb
    cases hk : kEq k k' with
    | false => rw [hk] at h; exact WSt_ok h
    | true =>
      rw [hk] at h
      simp only [cond_true] at h
      have hs : step (.bin d op a b) sl ob nx lg = binK op (.i k m) (.i k' n) fun v => outK sl ob nx lg d v := by
        show s_bin d op a b sl ob nx lg = _
        unfold s_bin
        rw [ha, hb]
      cases op <;> unfold wArith at h
      case add =>
        refine wOut_st h.2 (hs.trans ?_)
        simp only [binK, hk, cond_true, arithK, wrapK_eq, iadd_eq]
        rw [show k.wrap (m + n) = m + n from h.1]
      case sub =>
        refine wOut_st h.2 (hs.trans ?_)
        simp only [binK, hk, cond_true, arithK, wrapK_eq, isub_eq]
        rw [show k.wrap (m - n) = m - n from h.1]
      case mul =>
        refine wOut_st h.2 (hs.trans ?_)
        simp only [binK, hk, cond_true, arithK, wrapK_eq, imul_eq]
        rw [show k.wrap (m * n) = m * n from h.1]
      case quo =>
        have h0 : (n == 0) = false := by simpa using h.1
        refine wOut_st h.2.2 (hs.trans ?_)
        simp only [binK, hk, cond_true, arithK, wrapK_eq, iquo_eq, eqB_eq]
        rw [show (n == Int.ofNat 0) = false from h0]
        simp only [cond_false]
        rw [show k.wrap (m.tdiv n) = m.tdiv n from h.2.1]
      case rem =>
        have h0 : (n == 0) = false := by simpa using h.1
        refine wOut_st h.2 (hs.trans ?_)
        simp only [binK, hk, cond_true, arithK, intK_eq, irem_eq, eqB_eq]
        rw [show (n == Int.ofNat 0) = false from h0]
        rfl
      case eql => exact wOut_st h (hs.trans (by simp only [binK, hk, cond_true, arithK, boolK_eq, eqB_eq]; rfl))
      case neq => exact wOut_st h (hs.trans (by simp only [binK, hk, cond_true, arithK, boolK_eq, eqB_eq]; rfl))
      case lss => exact wOut_st h (hs.trans (by simp only [binK, hk, cond_true, arithK, boolK_eq, ltB_eq]))
      case leq => exact wOut_st h (hs.trans (by simp only [binK, hk, cond_true, arithK, boolK_eq, ltB_eq]; congr 2; simp [← decide_not]))
      case gtr => exact wOut_st h (hs.trans (by simp only [binK, hk, cond_true, arithK, boolK_eq, ltB_eq]))
      case geq => exact wOut_st h (hs.trans (by simp only [binK, hk, cond_true, arithK, boolK_eq, ltB_eq]; congr 2; simp [← decide_not]))
      all_goals exact WSt_ok h
  · exact h.elim
theorem wO_ok {r : RO} (h : wO P r sl ob nx lg K) : ∃ Z, OR P r ⟨sl, ob, nx, lg⟩ Z ∧ K Z := by
  unfold wO at h
  split at h
  · exact wBin_ok h
  · rename_i d op a
    split at h
    · rename_i t ha
      refine wOut_st h ?_
      show s_un d .not a sl ob nx lg = _
      unfold s_un
      rw [ha]
      simp only [boolK_eq]
    · rename_i k n ha
      refine wOut_st h.2 ?_
      show s_un d .neg a sl ob nx lg = _
      unfold s_un
      rw [ha]
      simp only [wrapK_eq, isub_eq]
      rw [show Int.ofNat 0 - n = -n by show (0 : Int) - n = -n; omega, show k.wrap (-n) = -n from h.1]
    · exact h.elim
  · rename_i d k a
    split at h
    · rename_i k' n ha
      refine wOut_st h.2 ?_
      show s_cvi d k a sl ob nx lg = _
      unfold s_cvi
      rw [ha]
      simp only [wrapK_eq]
      rw [show k.wrap n = n from h.1]
    · exact h.elim
  · rename_i d neg tk a b
    split at h
    · rename_i s t ha hb
      refine wOut_st h ?_
      show s_eq d neg 0 a b sl ob nx lg = _
      unfold s_eq
      rw [ha, hb]
      simp only [eqV, boolK_eq]
    · exact wSt_ok h
  · exact WSt_ok h
  · rename_i d c a b
    split at h
    · rename_i t u v hc ha hb
      have h := h.at
      cases t with
      | true =>
        refine wOut_st h ?_
        show s_pick d c a b sl ob nx lg = _
        unfold s_pick
        rw [hc, ha]
      | false =>
        refine wOut_st h ?_
        show s_pick d c a b sl ob nx lg = _
        unfold s_pick
        rw [hc, hb]
    · exact h.elim
  · rename_i d z a i
    split at h
    · rename_i z' es k n ha hi
      cases hz : Nat.beq z z' with
      | false => rw [hz] at h; exact h.elim
      | true =>
        rw [hz] at h
        obtain ⟨r, h1, h2, h3⟩ := h.ok
        refine wOut_st h3 ?_
        show s_ixs d z a i sl ob nx lg = _
        unfold s_ixs
        rw [ha, hi]
        simp only [hz, cond_true]
        have hlt : n.toNat < es.length := (List.getElem?_eq_some_iff.1 h2).1
        have e : idx n es.length = some n.toNat := by
          cases n with
          | negSucc m => omega
          | ofNat m =>
            simp only [idx]
            rw [show Nat.blt m es.length = true from Nat.ble_eq_true_of_le hlt]
            rfl
        rw [e]
        simp only [nthC_eq, h2]
    · exact WSt_ok h
  · rename_i d a
    split at h
    · rename_i z es ha
      refine wOut_st h ?_
      show s_len d a sl ob nx lg = _
      unfold s_len
      rw [ha]
      simp only [natK_eq]
      rfl
    · exact wSt_ok h
  · rename_i d a b
    split at h
    · rename_i k m k' n ha hb
      cases hk : kEq k k' with
      | false => rw [hk] at h; exact h.elim
      | true =>
        rw [hk] at h
        obtain rfl := kEq_iff.1 hk
        refine wOut_st h ?_
        show s_mx d a b sl ob nx lg = _
        unfold s_mx
        rw [ha, hb]
        simp only [hk, cond_true, ltB_eq]
        by_cases hlt : m < n
        · simp [hlt, Int.max_eq_right (Int.le_of_lt hlt)]
        · simp [hlt, Int.max_eq_left (Int.not_lt.1 hlt)]
    · exact h.elim
  · rename_i d a b
    split at h
    · rename_i k m k' n ha hb
      cases hk : kEq k k' with
      | false => rw [hk] at h; exact h.elim
      | true =>
        rw [hk] at h
        obtain rfl := kEq_iff.1 hk
        refine wOut_st h ?_
        show s_mn d a b sl ob nx lg = _
        unfold s_mn
        rw [ha, hb]
        simp only [hk, cond_true, ltB_eq]
        by_cases hlt : n < m
        · simp [hlt, Int.min_eq_right (Int.le_of_lt hlt)]
        · simp [hlt, Int.min_eq_left (Int.not_lt.1 hlt)]
    · exact h.elim
  · rename_i d f xs
    split at h
    · rename_i ds hds
      obtain ⟨v, ob', nx', lg', Z, h1, h2, h3⟩ := h.ok
      exact ⟨Z, .cf hds h1 h2, h3⟩
    · exact h.elim
  · rename_i d g xs
    split at h
    · rename_i f first caps ds hg hds
      obtain ⟨v, ob', nx', lg', Z, h1, h2, h3⟩ := h.ok
      exact ⟨Z, .cv hg hds h1 h2, h3⟩
    · rename_i id ds hg hds
      obtain ⟨v, ob', nx', lg', Z, h1, h2, h3⟩ := h.ok
      exact ⟨Z, .cy hg hds h1 h2, h3⟩
    · exact h.elim
  all_goals first | exact WSt_ok h | exact wSt_ok h
end
end Go.Ev
namespace Go.Ev
open Go.RowKit (Below Grown)
structure Rn (P : Program) (nt : Nat) (rc : RC) (x : X) (K : Ex → X → Prop) : Prop where
  ok : ∀ c : Code, comp P nt c = rc → ∃ e Z, XOk P nt c x e Z ∧ K e Z
def T.le {α : Type} (a b : T α) : Prop := ∀ p x, a.get p = some x → b.get p = some x
structure X.le (a b : X) : Prop where
  sl : T.le a.sl b.sl
  ob : T.le a.ob b.ob
  nx : b.nx.nat ≤ a.nx.nat
  la : a.lg = none
  lb : b.lg = none
theorem T.le_refl {α : Type} (a : T α) : T.le a a := fun _ _ h => h
theorem T.le_e {α : Type} (b : T α) : T.le .e b := fun p x h => by rw [T.get_e] at h; cases h
theorem T.le_n {α : Type} {l r l' r' : T α} {v v' : Option α} (hl : T.le l l') (hv : v = none ∨ v = v') (hr : T.le r r') : T.le (.n l v r) (.n l' v' r')
  | .h, x, h => by
    rw [T.get_h] at h ⊢
    rcases hv with e | e
    · rw [e] at h; cases h
    · rw [← e]; exact h
  | .o p, x, h => hl p x h
  | .i p, x, h => hr p x h
theorem T.le_none {α : Type} {l r l' r' : T α} {v' : Option α} (hl : T.le l l') (hr : T.le r r') : T.le (.n l none r) (.n l' v' r') := T.le_n hl (.inl rfl) hr
theorem T.le_some {α : Type} {l r l' r' : T α} {v v' : α} (hl : T.le l l') (hv : v = v') (hr : T.le r r') : T.le (.n l (some v) r) (.n l' (some v') r') := T.le_n hl (.inr (by rw [hv])) hr
section
variable {P : Program} {nt : Nat}
theorem XOk.le {c : Code} {a b : X} {e : Ex} {Z : X} (h : XOk P nt c a e Z) (l : X.le a b) : XOk P nt c b e Z := by
  have hZ : Z.lg = none := h.lg.none.1 l.la
  refine ⟨by rw [l.lb, hZ]; exact LgLe.refl _, Nat.le_trans l.nx h.nx, fun id hn => ?_, fun so hs ro γ A w hn g R n Q hQ => h.ok so hs ro γ A w hn g ⟨fun s d hs hd => R.sl s d hs (l.sl s d hd), fun id c hid hc => R.ob id c hid (l.ob id c hc), fun id hid hle => R.nx id hid (Nat.le_trans l.nx hle), R.gl⟩ n Q hQ⟩
  rw [hZ] at hn
  exact absurd trivial hn
theorem Rn.le {rc : RC} {a b : X} {K : Ex → X → Prop} (h : Rn P nt rc a K) (l : X.le a b) : Rn P nt rc b K :=
  ⟨fun c hc => let ⟨e, Z, h1, h2⟩ := h.ok c hc; ⟨e, Z, h1.le l, h2⟩⟩
theorem Rn.mono {rc : RC} {x : X} {K K' : Ex → X → Prop} (h : Rn P nt rc x K) (k : ∀ e Z, K e Z → K' e Z) : Rn P nt rc x K' :=
  ⟨fun c hc => let ⟨e, Z, h1, h2⟩ := h.ok c hc; ⟨e, Z, h1, k e Z h2⟩⟩
theorem bare : ∀ c : Code, ∃ c', comp P nt c' = comp P nt c ∧ (∀ d, c' ≠ .scope d) ∧ ∀ {x e Z}, XOk P nt c' x e Z → XOk P nt c x e Z
  | .scope c => let ⟨c', h1, h2, h3⟩ := bare c; ⟨c', h1, h2, fun h => (h3 h).scope⟩
  | .skip => ⟨.skip, rfl, (fun _ h => by cases h), fun h => h⟩
  | .label l => ⟨.label l, rfl, (fun _ h => by cases h), fun h => h⟩
  | .ret => ⟨.ret, rfl, (fun _ h => by cases h), fun h => h⟩
  | .exit i => ⟨.exit i, rfl, (fun _ h => by cases h), fun h => h⟩
  | .region i o d => ⟨.region i o d, rfl, (fun _ h => by cases h), fun h => h⟩
  | .seq a b => ⟨.seq a b, rfl, (fun _ h => by cases h), fun h => h⟩
  | .cond c a b => ⟨.cond c a b, rfl, (fun _ h => by cases h), fun h => h⟩
  | .block i a => ⟨.block i a, rfl, (fun _ h => by cases h), fun h => h⟩
  | .loop a => ⟨.loop a, rfl, (fun _ h => by cases h), fun h => h⟩
  | .rangeFunc f p a b => ⟨.rangeFunc f p a b, rfl, (fun _ h => by cases h), fun h => h⟩
  | .goto l => ⟨.goto l, rfl, (fun _ h => by cases h), fun h => h⟩
  | .refuse s => ⟨.refuse s, rfl, (fun _ h => by cases h), fun h => h⟩
theorem Rn.of_bare {rc : RC} {x : X} {K : Ex → X → Prop} (h : ∀ c : Code, comp P nt c = rc → (∀ d, c ≠ .scope d) → ∃ e Z, XOk P nt c x e Z ∧ K e Z) : Rn P nt rc x K :=
  ⟨fun c hc => by
    obtain ⟨c', h1, h2, h3⟩ := bare (P := P) (nt := nt) c
    obtain ⟨e, Z, h4, h5⟩ := h c' (h1.trans hc) h2
    exact ⟨e, Z, h3 h4, h5⟩⟩
theorem comp_region {id : Nat} {ops : Array Oper} {draw : Bool} {rc : RC} (h : comp P nt (.region id ops draw) = rc) : (draw = false ∧ rc = .reg (compL P nt ops ops.toList)) ∨
    (draw = true ∧ rc = .drw (compL P nt ops ops.toList) (masksL [] ops.toList) ∧ P.follows .mixedOrders = true ∧ masksOk (masksL [] ops.toList) 0 ops.toList = true ∧ pairsOk (masksL [] ops.toList) 0 (fps (compL P nt ops ops.toList) ops.toList) = true) ∨ rc = .reg [.u .bad] := by
  cases draw with
  | false => exact .inl ⟨rfl, h.symm⟩
  | true =>
    have h : compD P nt ops (masksL [] ops.toList) = rc := h
    unfold compD at h
    cases h1 : P.follows .mixedOrders with
    | false => rw [h1] at h; exact .inr (.inr h.symm)
    | true =>
      cases h2 : masksOk (masksL [] ops.toList) 0 ops.toList with
      | false => rw [h1, h2] at h; exact .inr (.inr h.symm)
      | true =>
        cases h3 : pairsOk (masksL [] ops.toList) 0 (fps (compL P nt ops ops.toList) ops.toList) with
        | false => rw [h1, h2, h3] at h; exact .inr (.inr h.symm)
        | true =>
          rw [h1, h2, h3] at h
          exact .inr (.inl ⟨rfl, h.symm, rfl, rfl, rfl⟩)
theorem comp_cond {c : Operand} {a b : Code} : (∃ r, rx c = some r ∧ comp P nt (.cond c a b) = .cond r (comp P nt a) (comp P nt b)) ∨ comp P nt (.cond c a b) = .reg [.u .bad] := by
  simp only [comp]
  split
  · rename_i r hr; exact .inl ⟨r, hr, rfl⟩
  · exact .inr rfl
theorem comp_rf {f : Operand} {ps : Array Tmp} {a b : Code} : (∃ r q, rx f = some r ∧ slots nt ps.toList = some q ∧ comp P nt (.rangeFunc f ps a b) = .rf r q nt a b) ∨ comp P nt (.rangeFunc f ps a b) = .reg [.u .bad] := by
  simp only [comp]
  split
  · rename_i r q hr hq; exact .inl ⟨r, q, hr, hq, rfl⟩
  · exact .inr rfl
variable {x : X} {K : Ex → X → Prop}
theorem other {c : Code} {rc : RC} (hc : comp P nt c = rc) (hs : ∀ d, c ≠ .scope d) {Q : Prop}
    (skip : rc = .skip → (∀ {x}, XOk P nt c x .normal x) → Q) (ret : c = .ret → rc = .ret → Q) (exit : ∀ i, c = .exit i → rc = .exit i → Q) (reg : ∀ i ops, c = .region i ops false → rc = .reg (compL P nt ops ops.toList) → Q)
    (drw : ∀ i ops, c = .region i ops true → rc = .drw (compL P nt ops ops.toList) (masksL [] ops.toList) → P.follows .mixedOrders = true → masksOk (masksL [] ops.toList) 0 ops.toList = true → pairsOk (masksL [] ops.toList) 0 (fps (compL P nt ops ops.toList) ops.toList) = true → Q)
    (seq : ∀ a b, c = .seq a b → rc = .seq (comp P nt a) (comp P nt b) → Q) (cond : ∀ o a b r, c = .cond o a b → rx o = some r → rc = .cond r (comp P nt a) (comp P nt b) → Q) (blk : ∀ i a, c = .block i a → rc = .blk i (comp P nt a) → Q) (loop : ∀ a, c = .loop a → rc = .loop (comp P nt a) → Q)
    (rf : ∀ o ps a b r q, c = .rangeFunc o ps a b → rx o = some r → slots nt ps.toList = some q → rc = .rf r q nt a b → Q) (bad : rc = .reg [.u .bad] → Q) : Q := by
  cases c with
  | skip => exact skip hc.symm XOk.skip
  | label _ => exact skip hc.symm XOk.label
  | ret => exact ret rfl hc.symm
  | exit i => exact exit i rfl hc.symm
  | region i ops d =>
    rcases comp_region hc with ⟨rfl, h⟩ | ⟨rfl, h, h1, h2, h3⟩ | h
    · exact reg i ops rfl h
    · exact drw i ops rfl h h1 h2 h3
    · exact bad h
  | seq a b => exact seq a b rfl hc.symm
  | cond o a b =>
    rcases comp_cond (P := P) (nt := nt) (c := o) (a := a) (b := b) with ⟨r, h1, h2⟩ | h
    · exact cond o a b r rfl h1 (hc.symm.trans h2)
    · exact bad (hc.symm.trans h)
  | block i a => exact blk i a rfl hc.symm
  | loop a => exact loop a rfl hc.symm
  | scope d => exact absurd rfl (hs d)
  | rangeFunc o ps a b =>
    rcases comp_rf (P := P) (nt := nt) (f := o) (ps := ps) (a := a) (b := b) with ⟨r, q, h1, h2, h3⟩ | h
    · exact rf o ps a b r q rfl h1 h2 (hc.symm.trans h3)
    · exact bad (hc.symm.trans h)
  | goto _ => exact bad hc.symm
  | refuse _ => exact bad hc.symm
theorem Rn.skip (h : K .normal x) : Rn P nt .skip x K := Rn.of_bare fun c hc hs =>
  other hc hs (fun _ h' => ⟨.normal, x, h', h⟩) (fun _ e => by cases e) (fun j _ e => by cases e) (fun i ops _ e => by cases e) (fun i ops _ e => by cases e) (fun _ _ _ e => by cases e) (fun _ _ _ _ _ _ e => by cases e) (fun _ _ _ e => by cases e) (fun _ _ e => by cases e) (fun _ _ _ _ _ _ _ _ _ e => by cases e) (fun e => by cases e)
theorem Rn.ret (h : K .ret x) : Rn P nt .ret x K := Rn.of_bare fun c hc hs =>
  other hc hs (fun e => by cases e) (fun e _ => by subst e; exact ⟨.ret, x, XOk.ret, h⟩) (fun j _ e => by cases e) (fun i ops _ e => by cases e) (fun i ops _ e => by cases e) (fun _ _ _ e => by cases e) (fun _ _ _ _ _ _ e => by cases e) (fun _ _ _ e => by cases e) (fun _ _ e => by cases e) (fun _ _ _ _ _ _ _ _ _ e => by cases e) (fun e => by cases e)
theorem Rn.exit {i : Nat} (h : K (.exit i) x) : Rn P nt (.exit i) x K := Rn.of_bare fun c hc hs =>
  other hc hs (fun e => by cases e) (fun _ e => by cases e) (fun j e e' => by cases e'; subst e; exact ⟨.exit i, x, XOk.exit, h⟩) (fun i ops _ e => by cases e) (fun i ops _ e => by cases e) (fun _ _ _ e => by cases e) (fun _ _ _ _ _ _ e => by cases e) (fun _ _ _ e => by cases e) (fun _ _ e => by cases e) (fun _ _ _ _ _ _ _ _ _ e => by cases e) (fun e => by cases e)
def seqK (P : Program) (nt : Nat) (b : RC) (K : Ex → X → Prop) (e : Ex) (y : X) : Prop :=
  match e with
  | .normal => Rn P nt b y K
  | .ret => K .ret y
  | .exit i => K (.exit i) y
def blkK (i : Nat) (K : Ex → X → Prop) (e : Ex) (y : X) : Prop :=
  match e with
  | .normal => K .normal y
  | .ret => K .ret y
  | .exit j => bif Nat.beq j i then K .normal y else K (.exit j) y
theorem Rn.seq {a b : RC} (h : Rn P nt a x (seqK P nt b K)) : Rn P nt (.seq a b) x K := Rn.of_bare fun c hc hs => by
  refine other hc hs (fun e => by cases e) (fun _ e => by cases e) (fun j _ e => by cases e) (fun i ops _ e => by cases e) (fun i ops _ e => by cases e) (fun a' b' e e' => ?_) (fun _ _ _ _ _ _ e => by cases e) (fun _ _ _ e => by cases e) (fun _ _ e => by cases e) (fun _ _ _ _ _ _ _ _ _ e => by cases e) (fun e => by cases e)
  cases e'
  subst e
  obtain ⟨e, y, h1, h2⟩ := h.ok a' rfl
  cases e with
  | normal =>
    obtain ⟨e, Z, h3, h4⟩ := h2.ok b' rfl
    exact ⟨e, Z, h1.seq h3, h4⟩
  | ret => exact ⟨.ret, y, h1.seqEnd (fun e => by cases e), h2⟩
  | exit i => exact ⟨.exit i, y, h1.seqEnd (fun e => by cases e), h2⟩
theorem Rn.cond {r : RX} {a b : RC} {t : Bool} (hv : opd x.sl r = some (.b t)) (h : WB t fun t => Rn P nt (bif t then a else b) x K) : Rn P nt (.cond r a b) x K := Rn.of_bare fun c hc hs => by
  refine other hc hs (fun e => by cases e) (fun _ e => by cases e) (fun j _ e => by cases e) (fun i ops _ e => by cases e) (fun i ops _ e => by cases e) (fun _ _ _ e => by cases e) (fun o a' b' r' e ho e' => ?_) (fun _ _ _ e => by cases e) (fun _ _ e => by cases e) (fun _ _ _ _ _ _ _ _ _ e => by cases e) (fun e => by cases e)
  cases e'
  subst e
  have h := h.at
  cases t with
  | true =>
    obtain ⟨e, Z, h1, h2⟩ := h.ok a' rfl
    exact ⟨e, Z, XOk.cond (t := true) ho hv h1, h2⟩
  | false =>
    obtain ⟨e, Z, h1, h2⟩ := h.ok b' rfl
    exact ⟨e, Z, XOk.cond (t := false) ho hv h1, h2⟩
theorem Rn.blk {i : Nat} {a : RC} (h : Rn P nt a x (blkK i K)) : Rn P nt (.blk i a) x K := Rn.of_bare fun c hc hs => by
  refine other hc hs (fun e => by cases e) (fun _ e => by cases e) (fun j _ e => by cases e) (fun i ops _ e => by cases e) (fun i ops _ e => by cases e) (fun _ _ _ e => by cases e) (fun _ _ _ _ _ _ e => by cases e) (fun i' a' e e' => ?_) (fun _ _ e => by cases e) (fun _ _ _ _ _ _ _ _ _ e => by cases e) (fun e => by cases e)
  cases e'
  subst e
  obtain ⟨e, Z, h1, h2⟩ := h.ok a' rfl
  cases e with
  | normal => exact ⟨.normal, Z, h1.blockThrough (fun e => by cases e), h2⟩
  | ret => exact ⟨.ret, Z, h1.blockThrough (fun e => by cases e), h2⟩
  | exit j =>
    have h5 : bif Nat.beq j i then K .normal Z else K (.exit j) Z := h2
    clear h2
    cases hb : Nat.beq j i with
    | true =>
      rw [hb] at h5
      obtain rfl := Nat.eq_of_beq_eq_true hb
      exact ⟨.normal, Z, h1.block, h5⟩
    | false =>
      rw [hb] at h5
      exact ⟨.exit j, Z, h1.blockThrough (fun e => by cases e; simp at hb), h5⟩
noncomputable def wG (P : Program) (g : RG) (sl : T D) (ob : T C) (nx : Pos) (lg : Option (T Bool)) (K : X → Prop) : Prop :=
  match g with
  | .u r => wO P r sl ob nx lg K
  | .g p want d r => match sl.get p with
    | some (.b t) => WB t fun t => T.setK p (.b t) sl fun sl => bif (bif want then t else !t) then wO P r sl ob nx lg K else wDst sl ob nx lg d K (.tp [])
    | some (.tp []) => wDst sl ob nx lg d K (.tp [])
    | _ => False
noncomputable def wL (P : Program) (K : X → Prop) : List RG → X → Prop
  | [], x => K x
  | g :: l, ⟨sl, ob, nx, lg⟩ => wG P g sl ob nx lg fun y => wL P K l y
theorem wG_ok {g : RG} {sl : T D} {ob : T C} {nx : Pos} {lg : Option (T Bool)} {K : X → Prop} (h : wG P g sl ob nx lg K) : ∃ Z, GR P g ⟨sl, ob, nx, lg⟩ Z ∧ K Z := by
  unfold wG at h
  split at h
  · obtain ⟨Z, h1, h2⟩ := wO_ok h
    exact ⟨Z, .u h1, h2⟩
  · rename_i p want d r
    split at h
    · rename_i t ht
      replace h := h.at
      rw [T.setK_eq, T.set_get ht] at h
      cases hb : (bif want then t else !t) with
      | true =>
        rw [hb] at h
        obtain ⟨Z, h1, h2⟩ := wO_ok h
        have : t = want := by cases want <;> cases t <;> first | rfl | cases hb
        subst this
        exact ⟨Z, .t ht h1, h2⟩
      | false =>
        rw [hb] at h
        have : t = !want := by cases want <;> cases t <;> first | rfl | cases hb
        subst this
        replace h : wDst sl ob nx lg d K (.tp []) := h
        unfold wDst at h
        cases d with
        | none => exact ⟨_, .f ht rfl, h⟩
        | some d =>
          obtain ⟨h1, h2⟩ := wOut_ok h
          exact ⟨_, .f ht h1, h2⟩
    · rename_i ht
      unfold wDst at h
      cases d with
      | none => exact ⟨_, .n ht rfl, h⟩
      | some d =>
        obtain ⟨h1, h2⟩ := wOut_ok h
        exact ⟨_, .n ht h1, h2⟩
    · exact h.elim
theorem wL_ok {K : X → Prop} : ∀ {l : List RG} {x : X}, wL P K l x → ∃ Z, LRr P l x Z ∧ K Z
  | [], x, h => ⟨x, .nil, h⟩
  | g :: l, ⟨sl, ob, nx, lg⟩, h => by
    obtain ⟨y, h1, h2⟩ := wG_ok (K := fun y => wL P K l y) h
    obtain ⟨Z, h3, h4⟩ := wL_ok h2
    exact ⟨Z, .cons h1 h3, h4⟩
theorem Rn.reg {l : List RG} (h : wL P (K .normal) l x) : Rn P nt (.reg l) x K := Rn.of_bare fun c hc hs => by
  obtain ⟨Z, h1, h2⟩ := wL_ok h
  refine other hc hs (fun e => by cases e) (fun _ e => by cases e) (fun j _ e => by cases e) (fun i ops e e' => ?_) (fun i ops _ e => by cases e) (fun _ _ _ e => by cases e) (fun _ _ _ _ _ _ e => by cases e) (fun _ _ _ e => by cases e) (fun _ _ e => by cases e) (fun _ _ _ _ _ _ _ _ _ e => by cases e) (fun e => ?_)
  · cases e'
    subst e
    exact ⟨.normal, Z, XOk.regR h1, h2⟩
  · cases e
    cases h1 with
    | cons h _ => exact (GR_bad h).elim
noncomputable def wD (P : Program) (K : X → Prop) : List RG → List Nat → Nat → List (Nat × T Bool) → X → Prop
  | [], _, _, _, x => K x
  | g :: l, ms, i, acc, ⟨sl, ob, nx, lg⟩ => wG P g sl ob nx (some .e) fun y => match y with
    | ⟨sl, ob, nx, some L⟩ => match L with
      | .e => wD P K l (tlN ms) (Nat.succ i) acc ⟨sl, ob, nx, lg⟩
      | .n a v b => bif accOk (nthN ms 0) (.n a v b) acc then mergeK lg (.n a v b) (fun lg => wD P K l (tlN ms) (Nat.succ i) ((i, .n a v b) :: acc) ⟨sl, ob, nx, lg⟩) else False
    | ⟨_, _, _, none⟩ => False
theorem mergeK_at (lg : Option (T Bool)) (L : T Bool) : ∃ lg1, ∀ {β : Type} (k : Option (T Bool) → β), mergeK lg L k = k lg1 := by
  cases lg with
  | none => exact ⟨none, fun _ => rfl⟩
  | some A =>
    have : ∃ u, ∀ {β : Type} (k : T Bool → β), unionK A L k = k u := by
      have key : ∀ (a b : T Bool), ∃ u, ∀ {β : Type} (k : T Bool → β), unionK a b k = k u := by
        intro a
        induction a with
        | e => exact fun b => ⟨b, fun _ => rfl⟩
        | n l v r ihl ihr =>
          intro b
          cases b with
          | e => exact ⟨.n l v r, fun _ => rfl⟩
          | n l' v' r' =>
            obtain ⟨u1, h1⟩ := ihl l'
            obtain ⟨u2, h2⟩ := ihr r'
            refine ⟨.n u1 (vUnion v v') u2, fun k => ?_⟩
            show unionK l l' (fun l2 => unionK r r' fun r2 => vUnionK v v' fun v2 => k (.n l2 v2 r2)) = _
            rw [h1, h2, vUnionK_eq]
      exact key A L
    obtain ⟨u, hu⟩ := this
    exact ⟨some u, fun k => hu fun L => k (some L)⟩
theorem wD_ok {K : X → Prop} : ∀ {l : List RG} {ms : List Nat} {i : Nat} {acc : List (Nat × T Bool)} {x : X}, wD P K l ms i acc x → ∃ Z, DR P l ms i acc x Z ∧ K Z
  | [], ms, i, acc, x, h => ⟨x, .nil, h⟩
  | g :: l, ms, i, acc, ⟨sl0, ob0, nx0, lg0⟩, h => by
    obtain ⟨y, h1, h2⟩ := wG_ok (K := fun y => match y with
      | ⟨sl, ob, nx, some L⟩ => match L with
        | .e => wD P K l (tlN ms) (Nat.succ i) acc ⟨sl, ob, nx, lg0⟩
        | .n a v b => bif accOk (nthN ms 0) (.n a v b) acc then mergeK lg0 (.n a v b) (fun lg => wD P K l (tlN ms) (Nat.succ i) ((i, .n a v b) :: acc) ⟨sl, ob, nx, lg⟩) else False
      | ⟨_, _, _, none⟩ => False) h
    obtain ⟨sl, ob, nx, lg⟩ := y
    cases lg with
    | none => exact h2.elim
    | some L =>
      cases L with
      | e =>
        obtain ⟨Z, h3, h4⟩ := wD_ok h2
        exact ⟨Z, .e (y := ⟨sl, ob, nx, none⟩) h1 h3, h4⟩
      | n a v b =>
        have h2 : bif accOk (nthN ms 0) (.n a v b) acc then mergeK lg0 (.n a v b) (fun lg => wD P K l (tlN ms) (Nat.succ i) ((i, .n a v b) :: acc) ⟨sl, ob, nx, lg⟩) else False := h2
        cases ha : accOk (nthN ms 0) (.n a v b) acc with
        | false => rw [ha] at h2; exact h2.elim
        | true =>
          rw [ha] at h2
          simp only [cond_true] at h2
          obtain ⟨lg1, hm⟩ := mergeK_at lg0 (.n a v b)
          rw [hm] at h2
          obtain ⟨Z, h3, h4⟩ := wD_ok h2
          exact ⟨Z, .n (y := ⟨sl, ob, nx, none⟩) (lg1 := lg1) h1 ha (fun k => hm k) h3, h4⟩
theorem Rn.drw {l : List RG} {ms : List Nat} (h : wD P (K .normal) l ms 0 [] x) : Rn P nt (.drw l ms) x K := Rn.of_bare fun c hc hs => by
  obtain ⟨Z, h1, h2⟩ := wD_ok h
  refine other hc hs (fun e => by cases e) (fun _ e => by cases e) (fun j _ e => by cases e) (fun i ops _ e => by cases e) (fun i ops e e' k1 k2 k3 => ?_) (fun _ _ _ e => by cases e) (fun _ _ _ _ _ _ e => by cases e) (fun _ _ _ e => by cases e) (fun _ _ e => by cases e) (fun _ _ _ _ _ _ _ _ _ e => by cases e) (fun e => by cases e)
  cases e'
  subst e
  exact ⟨.normal, Z, XOk.drwR k1 k2 k3 h1, h2⟩
end
def PureF (P : Program) (f : Nat) (ds : List D) (v : D) : Prop := ∀ ob nx lg, CallOk P f ds ob nx lg v ob nx lg
theorem WCall.pure {P : Program} {f : Nat} {ds : List D} {d : Option Pos} {x : X} {K : X → Prop} {v : D} (h : PureF P f ds v) (k : X.casesOn x fun sl ob nx lg => wDst sl ob nx lg d K v) : WCall P f ds d x K := by
  obtain ⟨sl, ob, nx, lg⟩ := x
  cases d with
  | none => exact ⟨v, ob, nx, lg, _, h _ _ _, rfl, k⟩
  | some d =>
    obtain ⟨h1, h2⟩ := wOut_ok k
    exact ⟨v, ob, nx, lg, _, h _ _ _, h1, h2⟩
noncomputable def argsP (ds : List D) : Pos → T D → (T D → Prop) → Prop :=
  List.rec (fun _ t k => k t) (fun d _ ih p t k => T.setK p d t fun t => Pos.succK p fun p => ih p t k) ds
theorem argsP_at : ∀ {ds : List D} {p : Pos} {t : T D} {k : T D → Prop}, argsP ds p t k → ∃ t', k t' ∧ ∀ s d, t'.get s = some d → t.get s = some d ∨ ∃ i : Nat, s.nat = p.nat + i ∧ ds[i]? = some d
  | [], p, t, k, h => ⟨t, h, fun s d hd => .inl hd⟩
  | d :: ds, p, t, k, h => by
    have h : T.setK p d t (fun t => Pos.succK p fun p => argsP ds p t k) := h
    rw [T.setK_eq, Pos.succK_eq] at h
    obtain ⟨t', h1, h2⟩ := argsP_at h
    refine ⟨t', h1, fun s e hs => ?_⟩
    rcases h2 s e hs with h3 | ⟨i, h3, h4⟩
    · by_cases hsp : s = p
      · subst hsp
        rw [T.get_set_same] at h3
        cases h3
        exact .inr ⟨0, rfl, rfl⟩
      · rw [T.get_set_ne hsp] at h3
        exact .inl h3
    · rw [Pos.succ_nat] at h3
      exact .inr ⟨i + 1, by omega, by simpa using h4⟩
theorem argsP_ok {ds : List D} {k : T D → Prop} (h : argsP ds .h .e k) : ∃ t', k t' ∧ ∀ s d, t'.get s = some d → (T.e : T D).get s = some d ∨ ∃ i : Nat, s.nat = Pos.h.nat + i ∧ ds[i]? = some d := argsP_at h
structure Fin (rs : List RR) (v : D) (e : Ex) (z : X) : Prop where
  he : e = .normal ∨ e = .ret
  hr : ∃ u, results rs z.sl z.ob z.lg (fun ds lg => some ⟨T.set .h (one ds) .e, z.ob, z.nx, lg⟩) = some ⟨T.set .h u .e, z.ob, z.nx, none⟩ ∧ Frz z.ob u v
theorem PureF.of {P : Program} {f : Nat} {fn : Func} {c : Code} {rc : RC} {rs : List RR} {ds : List D} {v : D} (hf : P.funcs[f]? = some fn) (hb : fn.body = some c) (hc : comp P fn.ntmps c = rc) (hr : compR P fn.results.toList = some rs) (hname : (fn.name == "runtime.NumGoroutine") = false)
    (hlen : ds.length ≤ fn.ntmps) (hp : PuL ds) (h : argsP ds .h .e fun sl => Rn P fn.ntmps rc ⟨sl, .e, .h, none⟩ (Fin rs v)) : PureF P f ds v := by
  obtain ⟨sl0, h, hsl⟩ := argsP_ok h
  obtain ⟨e, ⟨sl, ob1, nx1, lg1⟩, X1, F⟩ := h.ok c hc
  obtain ⟨u, h1, h2⟩ := F.hr
  obtain ⟨v', ob', nx', lg', h3, C⟩ := body_ok (k := fun v ob nx lg => some ⟨T.set .h v .e, ob, nx, lg⟩) hf hb hr hname hlen hsl F.he X1 h1
  have h3 := Option.some.inj h3
  have e1 := congrArg (fun t => T.get t .h) (X.mk.inj h3).1
  simp only [T.get_set_same, Option.some.injEq] at e1
  have e2 := (X.mk.inj h3).2.1
  have e3 : ob' = ob1 := e2
  subst e1
  subst e3
  exact C.shut hp h2
structure FnOk (P : Program) (f nt : Nat) (rc : RC) (rs : List RR) : Prop where
  ok : ∃ fn c, P.funcs[f]? = some fn ∧ fn.body = some c ∧ comp P fn.ntmps c = rc ∧ compR P fn.results.toList = some rs ∧ (fn.name == "runtime.NumGoroutine") = false ∧ fn.ntmps = nt
theorem PureF.run {P : Program} {f nt : Nat} {rc : RC} {rs : List RR} {ds : List D} {v : D} (F : FnOk P f nt rc rs) (hlen : ds.length ≤ nt) (hp : PuL ds) (h : argsP ds .h .e fun sl => Rn P nt rc ⟨sl, .e, .h, none⟩ (Fin rs v)) : PureF P f ds v := by
  obtain ⟨fn, c, h1, h2, h3, h4, h5, h6⟩ := F.ok
  subst h6
  exact PureF.of h1 h2 h3 h4 h5 hlen hp h
def bodyC (fn : Func) : Code := match fn.body with
  | some c => c
  | none => .skip
def rfs : Code → List (Code × Code)
  | .seq a b => rfs a ++ rfs b
  | .cond _ a b => rfs a ++ rfs b
  | .block _ a => rfs a
  | .loop a => rfs a
  | .scope a => rfs a
  | .rangeFunc _ _ a b => [(a, b)]
  | _ => []
def rfA (c : Code) (i : Nat) : Code := match (rfs c)[i]? with
  | some p => p.1
  | none => .skip
def rfB (c : Code) (i : Nat) : Code := match (rfs c)[i]? with
  | some p => p.2
  | none => .skip
end Go.Ev
namespace Go.Ev
open Go.RowKit (Below Grown)
inductive ShC (B : Pos → Prop) (ob : T C) : C → C → Prop where
  | cells {ro : Bool} {cs cs' : List Cell} {cur : Nat} (h : ∀ (k : Nat) (c' : Cell), cs'[k]? = some c' → ∃ c : Cell, cs[k]? = some c ∧ (∀ st, c'.has st = true → c.has st = true) ∧ Fz B ob c.d c'.d) : ShC B ob (.cells ro cs cur) (.cells ro cs' cur)
  | map {es es' : List (D × D)} (hl : es.length = es'.length) (h : ∀ (k : Nat) e e', es[k]? = some e → es'[k]? = some e' → Fz B ob e.1 e'.1 ∧ Fz B ob e.2 e'.2) : ShC B ob (.map es) (.map es')
  | lp {sl sl' : T D} {ps : List Pos} {nt : Nat} {asg body : Code} {st : LS} {j : Option Ex} (h : ∀ s d', sl'.get s = some d' → ∃ d, sl.get s = some d ∧ Fz B ob d d') : ShC B ob (.lp sl ps nt asg body st j) (.lp sl' ps nt asg body st j)
  | hole : ShC B ob .hole .hole
structure Shr (z z' : X) : Prop where
  sl : ∀ s d', z'.sl.get s = some d' → ∃ d, z.sl.get s = some d ∧ Fz (fun id => id.nat < z'.nx.nat) z.ob d d'
  ob : ∀ id c', z'.ob.get id = some c' → id.nat < z'.nx.nat ∧ ∃ c, z.ob.get id = some c ∧ ShC (fun id => id.nat < z'.nx.nat) z.ob c c'
  l : z.lg = none
  l' : z'.lg = none
theorem Fz.i {B : Pos → Prop} {ob : T C} {k : IntKind} {n m : Int} (h : n = m) : Fz B ob (.i k n) (.i k m) := by rw [h]; exact .pu trivial
section
variable {P : Program} {nt : Nat}
theorem XOk.shrink {c : Code} {x Z Z' : X} {e : Ex} (h : XOk P nt c x e Z) (S : Shr Z Z') (hx : x.nx.nat ≤ Z'.nx.nat) : XOk P nt c x e Z' := by
  have hl : x.lg = none := h.lg.none.2 S.l
  refine ⟨by rw [hl, S.l']; exact LgLe.refl _, hx, fun id hn => ?_, fun so hs ro γ a w hn g R n Q hQ => ?_⟩
  · rw [S.l'] at hn; exact absurd trivial hn
  have hall : ∀ id, so id := fun id => hs id (by rw [S.l']; trivial)
  refine h.ok so (fun id _ => hall id) ro γ a w hn g R n Q fun γ1 a1 w1 cst rep => ?_
  have hzero : ∀ id, Z'.nx.nat ≤ id.nat → γ.cur id = 0 := fun id hid => R.nx id (hall id) (Nat.le_trans hx hid)
  let γ2 : Gh := ⟨fun id => if id.nat < Z'.nx.nat then γ1.cur id else 0, γ1.β, fun b => γ1.im b ∨ ((∃ id st, Z'.nx.nat ≤ id.nat ∧ st < γ1.cur id ∧ (γ1.β id st).1 = b) ∧ ∃ vs e fr, w1.heap[b]? = some (.cells vs e fr))⟩
  have c2 : ∀ id, id.nat < Z'.nx.nat → γ2.cur id = γ1.cur id := fun id hid => by show (if _ then _ else _) = _; rw [if_pos hid]
  have c2' : ∀ id, ¬ id.nat < Z'.nx.nat → γ2.cur id = 0 := fun id hid => by show (if _ then _ else _) = _; rw [if_neg hid]
  have lt2 : ∀ id st, st < γ2.cur id → id.nat < Z'.nx.nat ∧ st < γ1.cur id := fun id st hst => by
    by_cases hid : id.nat < Z'.nx.nat
    · rw [c2 id hid] at hst; exact ⟨hid, hst⟩
    · rw [c2' id hid] at hst; exact absurd hst (Nat.not_lt_zero _)
  have hob1 : ∀ id c, Z.ob.get id = some c → HoldsO P γ1 w1 id c := fun id c hc => rep.ob id c (hall id) hc
  have fz : ∀ d d', Fz (fun id => id.nat < Z'.nx.nat) Z.ob d d' → ∀ v, DV γ1 w1 d v → DV γ2 w1 d' v := fun d d' hf =>
    Fz.ok (γ := γ1) (γ' := γ2) (fun b hb => .inl hb) hob1 (fun id hid => ⟨c2 id hid, rfl⟩) (fun id st vs e fr hid hst hc => .inr ⟨⟨id, st, Nat.not_lt.1 hid, hst, rfl⟩, vs, e, fr, hc⟩) hf
  have F := cst.fr
  have fresh : ∀ id st, Z'.nx.nat ≤ id.nat → st < γ1.cur id → w.heap.size ≤ (γ1.β id st).1 := fun id st hid hst => by
    rcases F.new id st (by rw [hzero id hid]; exact Nat.zero_le _) hst with h | ⟨st0, h, _⟩
    · exact h
    · rw [hzero id hid] at h; exact absurd h (Nat.not_lt_zero _)
  have G2 : G ro γ2 a1 w1 := by
    refine ⟨fun id st hst => cst.g.ob id st (lt2 id st hst).2, fun id st id' st' hst hst' he => cst.g.inj id st id' st' (lt2 id st hst).2 (lt2 id' st' hst').2 he, ?_, cst.g.rd, fun b hb => ?_, cst.g.gl.im fun _ h => .inl h⟩
    · obtain ⟨ms, d1, d2, d3⟩ := cst.g.df
      exact ⟨ms, d1, d2, fun r hr => ⟨(d3 r hr).1, fun id st hst => (d3 r hr).2 id st (lt2 id st hst).2⟩⟩
    · rcases hb with hb | ⟨⟨id', st', h1, h2, h3⟩, h4⟩
      · exact ⟨(cst.g.im b hb).1, fun id st hst => (cst.g.im b hb).2 id st (lt2 id st hst).2⟩
      · refine ⟨h4, fun id st hst e => ?_⟩
        obtain ⟨k1, k2⟩ := lt2 id st hst
        have e : (γ1.β id st).1 = b := e
        obtain ⟨rfl, _⟩ := cst.g.inj id st id' st' k2 h2 (e.trans h3.symm)
        omega
  have hw : ∀ {id : Pos}, wrtn Z'.lg id := fun {id} => by rw [S.l']; trivial
  have hwZ : ∀ {id : Pos}, wrtn Z.lg id := fun {id} => by rw [S.l]; trivial
  refine hQ γ2 a1 w1 ⟨G2, ⟨⟨fun id => ?_, fun id st hst => F.up.β id st hst, F.up.sh, fun b hb => ⟨.inl (F.up.im b hb).1, (F.up.im b hb).2⟩⟩, fun id hn => absurd hw hn, fun b hb hn => F.blk b hb fun id st _ hst => hn id st hw hst, fun id st h1 h2 => F.new id st h1 (lt2 id st h2).2, fun b hb hlt => ?_, F.lp, F.size, F.os, F.tape, F.output, F.fz⟩, cst.sz, cst.dn⟩
    ⟨fun s d' _ hd => ?_, fun id c' _ hc => ?_, fun id _ hle => c2' id (by omega), cst.g.gl.im fun _ h => .inl h⟩
  · by_cases hid : id.nat < Z'.nx.nat
    · rw [c2 id hid]; exact F.up.cur id
    · rw [hzero id (Nat.not_lt.1 hid)]; exact Nat.zero_le _
  · rcases hb with hb | ⟨⟨id', st', h1, h2, h3⟩, h4⟩
    · exact F.imn b hb hlt
    · have := fresh id' st' h1 h2
      omega
  · obtain ⟨d, h1, h2⟩ := S.sl s d' hd
    obtain ⟨h3, h4⟩ := rep.sl s d trivial h1
    exact ⟨h3, fz d d' h2 _ h4⟩
  · obtain ⟨hid, c, h1, h2⟩ := S.ob id c' hc
    have H := hob1 id c h1
    cases h2 with
    | cells hcc =>
      obtain ⟨q0, q1, q2⟩ := H
      refine ⟨q0, (c2 id hid).trans q1, fun st hst => ?_⟩
      obtain ⟨vs, e, fr, q3, q4, q5⟩ := q2 st hst
      refine ⟨vs, e, fr, q3, q4, fun p c' hp hh hd => ?_⟩
      obtain ⟨c, k1, k2, k3⟩ := hcc p c' hp
      obtain ⟨u, k4, k5, k6⟩ := q5 p c k1 (k2 st hh) hd
      exact ⟨u, k4, fz _ _ k3 u k5, k6⟩
    | map hl hm =>
      obtain ⟨q1, en, cl, q2, q3, q4⟩ := H
      refine ⟨(c2 id hid).trans q1, en, cl, q2, by rw [← hl]; exact q3, fun i e' f he' hf => ?_⟩
      rename_i es es'
      have hi : i < es.length := by rw [hl]; exact (List.getElem?_eq_some_iff.1 he').1
      obtain ⟨k1, k2⟩ := hm i _ e' (List.getElem?_eq_getElem hi) he'
      obtain ⟨k3, k4⟩ := q4 i _ f (List.getElem?_eq_getElem hi) hf
      exact ⟨fz _ _ k1 _ k3, fz _ _ k2 _ k4⟩
    | lp hsl =>
      obtain ⟨q1, l, q2, q3, q4, q5, q6⟩ := H
      refine ⟨(c2 id hid).trans q1, l, q2, q3, q4, fun s d' hs => ?_, q6⟩
      obtain ⟨d, k1, k2⟩ := hsl s d' hs
      exact ⟨(q5 s d k1).1, fz _ _ k2 _ (q5 s d k1).2⟩
    | hole => exact (c2 id hid).trans H
theorem Rn.shrink {rc : RC} {x : X} {K K' : Ex → X → Prop} (h : Rn P nt rc x K) (k : ∀ e z, K e z → ∃ z', Shr z z' ∧ x.nx.nat ≤ z'.nx.nat ∧ K' e z') : Rn P nt rc x K' :=
  ⟨fun c hc => by
    obtain ⟨e, z, h1, h2⟩ := h.ok c hc
    obtain ⟨z', h3, h4, h5⟩ := k e z h2
    exact ⟨e, z', h1.shrink h3 h4, h5⟩⟩
structure Again {σ : Type} (S : σ → X) (I : σ → Prop) (μ : σ → Nat) (s : σ) (z : X) : Prop where
  ok : ∃ s', μ s' < μ s ∧ I s' ∧ (S s).nx.nat ≤ (S s').nx.nat ∧ Shr z (S s')
theorem Again.to {σ : Type} {S : σ → X} {I : σ → Prop} {μ : σ → Nat} {s : σ} {z : X} (s' : σ) (h : μ s' < μ s) (i : I s') (n : (S s).nx.nat ≤ (S s').nx.nat) (l : Shr z (S s')) : Again S I μ s z := ⟨s', h, i, n, l⟩
def loopK {σ : Type} (S : σ → X) (I : σ → Prop) (μ : σ → Nat) (s : σ) (K : Ex → X → Prop) (e : Ex) (z : X) : Prop :=
  match e with
  | .normal => Again S I μ s z
  | .ret => K .ret z
  | .exit i => K (.exit i) z
theorem Rn.loop {a : RC} {x : X} {K : Ex → X → Prop} {σ : Type} (S : σ → X) (I : σ → Prop) (μ : σ → Nat) (s0 : σ) (h0 : X.le (S s0) x) (i0 : I s0)
    (hb : ∀ s, I s → Rn P nt a (S s) (loopK S I μ s K)) : Rn P nt (.loop a) x K := Rn.of_bare fun c hc hs => by
  refine other hc hs (fun e => by cases e) (fun _ e => by cases e) (fun j _ e => by cases e) (fun i ops _ e => by cases e) (fun i ops _ e => by cases e) (fun _ _ _ e => by cases e) (fun _ _ _ _ _ _ e => by cases e) (fun _ _ _ e => by cases e) (fun a' e e' => ?_) (fun _ _ _ _ _ _ _ _ _ e => by cases e) (fun e => by cases e)
  cases e'
  subst e
  have key : ∀ n s, μ s = n → I s → ∃ e Z, XRounds P nt a' (S s) e Z ∧ K e Z := by
    intro n
    induction n using Nat.strongRecOn with
    | _ n ih =>
      intro s hs hi
      obtain ⟨e, z, h1, h2⟩ := (hb s hi).ok a' rfl
      cases e with
      | normal =>
        obtain ⟨s', h3, h4, h5, h6⟩ := Again.ok h2
        obtain ⟨e, Z, h7, h8⟩ := ih (μ s') (by omega) s' rfl h4
        exact ⟨e, Z, .more (h1.shrink h6 h5) h7, h8⟩
      | ret => exact ⟨.ret, z, .last h1 (fun e => by cases e), h2⟩
      | exit i => exact ⟨.exit i, z, .last h1 (fun e => by cases e), h2⟩
  obtain ⟨e, Z, h1, h2⟩ := key _ s0 rfl i0
  exact ⟨e, Z, (XOk.loop h1).le h0, h2⟩
def Rel {α : Type} (R : Pos → α → α → Prop) (g : Pos → Pos) (a b : T α) : Prop := ∀ p x, a.get p = some x → ∃ y, b.get p = some y ∧ R (g p) y x
theorem Rel.e {α : Type} {R : Pos → α → α → Prop} {g : Pos → Pos} {b : T α} : Rel R g .e b := fun p x h => by rw [T.get_e] at h; cases h
theorem Rel.none {α : Type} {R : Pos → α → α → Prop} {g : Pos → Pos} {l r l' r' : T α} {v' : Option α} (hl : Rel R (fun p => g (.o p)) l l') (hr : Rel R (fun p => g (.i p)) r r') : Rel R g (.n l none r) (.n l' v' r')
  | .h, x, h => by rw [T.get_h] at h; cases h
  | .o p, x, h => hl p x h
  | .i p, x, h => hr p x h
theorem Rel.some {α : Type} {R : Pos → α → α → Prop} {g : Pos → Pos} {l r l' r' : T α} {v v' : α} (hl : Rel R (fun p => g (.o p)) l l') (hv : R (g .h) v' v) (hr : Rel R (fun p => g (.i p)) r r') : Rel R g (.n l (some v) r) (.n l' (some v') r')
  | .h, x, h => by rw [T.get_h] at h; cases h; exact ⟨v', T.get_h _ _ _, hv⟩
  | .o p, x, h => hl p x h
  | .i p, x, h => hr p x h
def RS (B : Pos → Prop) (ob : T C) (_ : Pos) (d d' : D) : Prop := Fz B ob d d'
def RO' (n : Nat) (ob : T C) (id : Pos) (c c' : C) : Prop := id.nat < n ∧ ShC (fun id => id.nat < n) ob c c'
theorem RO'.of {n : Nat} {ob : T C} {id : Pos} {c c' : C} (h : id.nat < n) (k : ShC (fun id => id.nat < n) ob c c') : RO' n ob id c c' := ⟨h, k⟩
theorem Shr.of {z z' : X} (hs : Rel (RS (fun id => id.nat < z'.nx.nat) z.ob) (fun p => p) z'.sl z.sl) (ho : Rel (RO' z'.nx.nat z.ob) (fun p => p) z'.ob z.ob) (l : z.lg = none) (l' : z'.lg = none) : Shr z z' :=
  ⟨fun s d h => let ⟨d', h1, h2⟩ := hs s d h; ⟨d', h1, h2⟩, fun id c h => let ⟨c', h1, h2⟩ := ho id c h; ⟨h2.1, c', h1, h2.2⟩, l, l'⟩
theorem ShC.same {B : Pos → Prop} {ob : T C} {ro : Bool} {cs : List Cell} {cur : Nat} (h : ∀ c ∈ cs, Fz B ob c.d c.d) : ShC B ob (.cells ro cs cur) (.cells ro cs cur) :=
  .cells fun k c' hc => ⟨c', hc, fun _ h => h, h c' (List.mem_of_getElem? hc)⟩
theorem ShC.nl {B : Pos → Prop} {ob : T C} : ∀ c ∈ ([] : List Cell), Fz B ob c.d c.d := fun c h => by cases h
theorem ShC.cn {B : Pos → Prop} {ob : T C} {c : Cell} {cs : List Cell} (h : Fz B ob c.d c.d) (k : ∀ c ∈ cs, Fz B ob c.d c.d) : ∀ c' ∈ c :: cs, Fz B ob c'.d c'.d := fun c' hc => by
  rcases List.mem_cons.1 hc with rfl | hc
  · exact h
  · exact k c' hc
inductive All2 {α β : Type} (R : α → β → Prop) : List α → List β → Prop where
  | nil : All2 R [] []
  | cons {a : α} {b : β} {l : List α} {m : List β} (h : R a b) (k : All2 R l m) : All2 R (a :: l) (b :: m)
theorem ShC.of {B : Pos → Prop} {ob : T C} {ro : Bool} {cs cs' : List Cell} {cur : Nat} (h : All2 (fun c c' : Cell => (∀ st, c'.has st = true → c.has st = true) ∧ Fz B ob c.d c'.d) cs cs') : ShC B ob (.cells ro cs cur) (.cells ro cs' cur) :=
  .cells fun k c' hc => by
    induction h generalizing k with
    | nil => simp at hc
    | cons h _ ih =>
      cases k with
      | zero => simp at hc; subst hc; exact ⟨_, rfl, h⟩
      | succ k => exact ih k (by simpa using hc)
end
end Go.Ev