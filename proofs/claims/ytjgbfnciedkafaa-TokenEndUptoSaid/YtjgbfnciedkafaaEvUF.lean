import Derived.Test.YtjgbfnciedkafaaEvUD
set_option linter.all false
namespace Go.Ev
open Go.RowKit (Below)

theorem slowAnd_eq (k : IntKind) (m n : Nat) (h : m ≤ ubits k) (h' : n ≤ ubits k) : slowAnd k (.ofNat m) (.ofNat n) = .ofNat (Nat.land m n) := by
  unfold slowAnd
  rw [BitVec.toNat_and, ofInt_toNat h, ofInt_toNat h']; rfl
theorem slowOr_eq (k : IntKind) (m n : Nat) (h : m ≤ ubits k) (h' : n ≤ ubits k) : slowOr k (.ofNat m) (.ofNat n) = .ofNat (Nat.lor m n) := by
  unfold slowOr
  rw [BitVec.toNat_or, ofInt_toNat h, ofInt_toNat h']; rfl
theorem slowXor_eq (k : IntKind) (m n : Nat) (h : m ≤ ubits k) (h' : n ≤ ubits k) : slowXor k (.ofNat m) (.ofNat n) = .ofNat (Nat.xor m n) := by
  unfold slowXor
  rw [BitVec.toNat_xor, ofInt_toNat h, ofInt_toNat h']; rfl
theorem ubits_eq (k : IntKind) : ubits k = 2 ^ k.bits - 1 := by cases k <;> rfl
theorem slowNot_eq (k : IntKind) (m n : Nat) (h : m ≤ ubits k) (h' : n ≤ ubits k) : slowNot k (.ofNat m) (.ofNat n) = .ofNat (Nat.land m (Nat.sub (ubits k) n)) := by
  unfold slowNot
  rw [BitVec.toNat_and, BitVec.toNat_not, ofInt_toNat h, ofInt_toNat h', ubits_eq]; rfl

def FW (ro : Option Nat) : Fence := { Fence.wide with round := ro }

theorem semAt_run {P : Program} {ro : Option Nat} {ρ : Operand → Value} {o : Oper} {w w' : World} {x : Next} (h : (execOp ρ o).run P w = .ok x w') (hx : ∀ d, x ≠ .defer d) : (Oper.semAt ro ρ o).run P w = .ok x w' := by
  rw [Oper.semAt_eq]
  · exact h
  · intro c hc
    simp only [execOp, hc, Sem.run_bind] at h
    cases hr : (resolve ρ c o.type).run P w with
    | ok d w2 => rw [hr] at h; simp only [Result.andThen_ok, Sem.run_pure] at h; cases h; exact hx _ rfl
    | halt e w2 => rw [hr] at h; cases h

theorem wpIn_of {P : Program} {ro : Option Nat} {n : Nat} {o : Oper} {a : Act} {w w' : World} {x : Next} {K : Act → World → Prop} {Q : Exit → Act → World → Prop} (h : (execOp a.eval o).run P w = .ok x w') (hx : ∀ d, x ≠ .defer d)
    (hu : o.uponIn (FW ro) n P a K Q (.ok x w')) : o.wpIn (FW ro) n P a w K Q :=
  ⟨fun _ _ => trivial, by rw [semAt_run h hx]; exact hu⟩

structure St (ro : Option Nat) (lg : Option (T Bool)) (dst : Option Tmp) (γ : Gh) (a : Act) (w : World) (γ' : Gh) (a' : Act) (w' : World) : Prop where
  g : G ro γ' a' w'
  fr : Fr (wrtn lg) γ γ' w w'
  sz : a'.tmps.size = a.tmps.size
  df : a'.defers = a.defers
  sl : ∀ s, dst ≠ some s → a'.tmps.getD s undef = a.tmps.getD s undef

structure OpOk (P : Program) (nt : Nat) (o : Oper) (names : List Pos) (x Z : X) : Prop where
  lg : LgLe x.lg Z.lg
  nx : x.nx.nat ≤ Z.nx.nat
  obf : Keeps Z.lg x.ob Z.ob
  slf : ∀ s : Pos, o.dst ≠ some s.ix → Z.sl.get s = x.sl.get s
  ok : ∀ V : Sel, (∀ s, s ∈ names → V.ss s) → (∀ id, tchd Z.lg id → V.so id) → ∀ (ro : Option Nat) (γ : Gh) (a : Act) (w : World), a.tmps.size = nt → G ro γ a w → Rep P V γ a w x →
    ∀ (n : Nat) (K : Act → World → Prop) (Q : Exit → Act → World → Prop), (∀ γ' a' w', St ro Z.lg o.dst γ a w γ' a' w' → Rep P V γ' a' w' Z → K a' w') → o.wpIn (FW ro) n P a w K Q

theorem getD_put_same {a : Act} {s : Nat} {v : Value} (h : s < a.tmps.size) : (a.put (some s) v).tmps.getD s undef = v := by
  simp [Act.put, h]
theorem getD_put_other {a : Act} {s t : Nat} {v : Value} (h : s ≠ t) : (a.put (some s) v).tmps.getD t undef = a.tmps.getD t undef := by
  simp [Act.put, Array.getElem?_setIfInBounds_ne h]
theorem put_size (a : Act) (d : Option Tmp) (v : Value) : (a.put d v).tmps.size = a.tmps.size := by
  cases d <;> simp [Act.put]
theorem put_defers (a : Act) (d : Option Tmp) (v : Value) : (a.put d v).defers = a.defers := by
  cases d <;> rfl

section
variable {P : Program} {nt : Nat} {o : Oper} {names : List Pos} {sl : T D} {ob : T C} {nx : Pos} {lg : Option (T Bool)}

theorem St.value {V : Sel} {ro : Option Nat} {lg' : Option (T Bool)} {γ γ' : Gh} {a : Act} {w w' : World} {ob' : T C} {nx' : Pos} {d : Pos} {v : D} {u : Value} (hlt : d.ix < a.tmps.size) (hd : o.dst = some d.ix) (R : Rep P V γ a w ⟨sl, ob, nx, lg⟩)
    (F : Fr (wrtn lg') γ γ' w w') (g' : ∀ a' : Act, a'.defers = a.defers → G ro γ' a' w') (hv : DV γ' w' v u)
    (ho : ∀ id c, V.so id → ob'.get id = some c → HoldsO P γ' w' id c) (hn : ∀ id, V.so id → nx'.nat ≤ id.nat → γ'.cur id = 0) :
    St ro lg' o.dst γ a w γ' (a.put o.dst u) w' ∧ Rep P V γ' (a.put o.dst u) w' ⟨T.set d v sl, ob', nx', lg'⟩ := by
  refine ⟨⟨g' _ (put_defers _ _ _), F, put_size _ _ _, put_defers _ _ _, fun s hs => ?_⟩, ⟨fun s e hss he => ?_, ho, hn, R.gl.up F.up⟩⟩
  · rw [hd] at hs ⊢
    exact getD_put_other fun e => hs (by rw [e])
  · rw [put_size]
    by_cases es : s = d
    · subst es
      have he : (T.set s v sl).get s = some e := he
      rw [T.get_set_same] at he
      cases he
      rw [hd, getD_put_same hlt]
      exact ⟨hlt, hv⟩
    · have he : (T.set d v sl).get s = some e := he
      rw [T.get_set_ne es] at he
      obtain ⟨h1, h2⟩ := R.sl s e hss he
      refine ⟨h1, ?_⟩
      rw [hd, getD_put_other (fun h => es (Pos.ix_inj h.symm))]
      exact DV.mono F.up _ _ h2

theorem OpOk.value {lg' : Option (T Bool)} {ob' : T C} {nx' : Pos} {d : Pos} {v : D} (hd : o.dst = some d.ix) (hlt : d.ix < nt) (hl : LgLe lg lg') (hx : nx.nat ≤ nx'.nat) (hkp : Keeps lg' ob ob')
    (h : ∀ V : Sel, (∀ s, s ∈ names → V.ss s) → (∀ id, tchd lg' id → V.so id) → ∀ (ro : Option Nat) (γ : Gh) (a : Act) (w : World), G ro γ a w → Rep P V γ a w ⟨sl, ob, nx, lg⟩ →
      ∃ u w' γ', (execOp a.eval o).run P w = .ok (.value u) w' ∧ Fr (wrtn lg') γ γ' w w' ∧ (∀ a' : Act, a'.defers = a.defers → G ro γ' a' w') ∧ DV γ' w' v u ∧
        (∀ id c, V.so id → ob'.get id = some c → HoldsO P γ' w' id c) ∧ (∀ id, V.so id → nx'.nat ≤ id.nat → γ'.cur id = 0)) :
    OpOk P nt o names ⟨sl, ob, nx, lg⟩ ⟨T.set d v sl, ob', nx', lg'⟩ := by
  refine ⟨hl, hx, hkp, fun s hs => T.get_set_ne (fun e => hs (by rw [e]; exact hd)) _ _, fun V hs ho ro γ a w hn g R n K Q hK => ?_⟩
  obtain ⟨u, w', γ', h1, h2, h3, h4, h5, h6⟩ := h V hs ho ro γ a w g R
  refine wpIn_of h1 (fun _ h => by cases h) ?_
  rw [Oper.uponIn_value]
  obtain ⟨s1, r1⟩ := St.value (sl := sl) (o := o) (by rw [hn]; exact hlt) hd R h2 h3 h4 h5 h6
  exact hK _ _ _ s1 r1

theorem OpOk.pure {lg' : Option (T Bool)} {d : Pos} {v : D} (hd : o.dst = some d.ix) (hlt : d.ix < nt) (hl : LgLe lg lg')
    (h : ∀ V : Sel, (∀ s, s ∈ names → V.ss s) → (∀ id, tchd lg' id → V.so id) → ∀ (γ : Gh) (a : Act) (w : World), Rep P V γ a w ⟨sl, ob, nx, lg⟩ → ∃ u, (execOp a.eval o).run P w = .ok (.value u) w ∧ DV γ w v u) :
    OpOk P nt o names ⟨sl, ob, nx, lg⟩ ⟨T.set d v sl, ob, nx, lg'⟩ :=
  OpOk.value hd hlt hl (Nat.le_refl _) (Keeps.refl _ _) fun V hs ho ro γ a w g R => by
    obtain ⟨u, h1, h2⟩ := h V hs ho γ a w R
    exact ⟨u, w, γ, h1, Fr.refl _ _ _, fun a' ha => { g with df := by rw [ha]; exact g.df }, h2, R.ob, R.nx⟩

theorem OpOk.skip {lg' : Option (T Bool)} {ob' : T C} (hd : o.dst = none) (hl : LgLe lg lg') (hkp : Keeps lg' ob ob')
    (h : ∀ V : Sel, (∀ s, s ∈ names → V.ss s) → (∀ id, tchd lg' id → V.so id) → ∀ (ro : Option Nat) (γ : Gh) (a : Act) (w : World), G ro γ a w → Rep P V γ a w ⟨sl, ob, nx, lg⟩ →
      ∃ w', ((execOp a.eval o).run P w = .ok .skip w' ∨ ∃ u, (execOp a.eval o).run P w = .ok (.value u) w') ∧ Fr (wrtn lg') γ γ w w' ∧ (∀ a' : Act, a'.defers = a.defers → G ro γ a' w') ∧
        (∀ id c, V.so id → ob'.get id = some c → HoldsO P γ w' id c)) :
    OpOk P nt o names ⟨sl, ob, nx, lg⟩ ⟨sl, ob', nx, lg'⟩ := by
  refine ⟨hl, Nat.le_refl _, hkp, fun _ _ => rfl, fun V hs ho ro γ a w hn g R n K Q hK => ?_⟩
  obtain ⟨w', h1, h2, h3, h4⟩ := h V hs ho ro γ a w g R
  have fin : ∀ u, K (a.put o.dst u) w' := fun u => by
    rw [hd]
    refine hK γ _ w' ⟨h3 _ rfl, h2, rfl, rfl, fun s _ => rfl⟩ ⟨fun s e hss he => ?_, h4, R.nx, R.gl.up h2.up⟩
    obtain ⟨h5, h6⟩ := R.sl s e hss he
    exact ⟨h5, DV.mono h2.up _ _ h6⟩
  rcases h1 with h1 | ⟨u, h1⟩
  · refine wpIn_of h1 (fun _ h => by cases h) ?_
    rw [Oper.uponIn_skip]; exact fin _
  · refine wpIn_of h1 (fun _ h => by cases h) ?_
    rw [Oper.uponIn_value]; exact fin _
end


theorem constD_ok {γ : Gh} {w : World} {v : Value} {d : D} (h : constD v = some d) : DV γ w d v := by
  unfold constD at h
  split at h <;> first | (cases h; unfold DV; rfl) | cases h
theorem constD_one {v : Value} {d : D} (h : constD v = some d) : v.oneCell' = true := by
  unfold constD at h
  split at h <;> first | rfl | cases h
theorem constDs_ok {γ : Gh} {w : World} : ∀ {vs : List Value} {ds : List D}, constDs vs = some ds → DVL γ w ds vs ∧ ∀ u ∈ vs, u.oneCell' = true
  | [], ds, h => by cases h; exact ⟨DVL.nil, by simp⟩
  | v :: vs, ds, h => by
    simp only [constDs] at h
    split at h
    · rename_i d ds' h1 h2
      cases h
      obtain ⟨h3, h4⟩ := constDs_ok (γ := γ) (w := w) h2
      refine ⟨DVL.cons (constD_ok h1) h3, fun u hu => ?_⟩
      rcases List.mem_cons.1 hu with rfl | hu
      · exact constD_one h1
      · exact h4 u hu
    · cases h

section
variable {P : Program} {V : Sel} {γ : Gh} {a : Act} {w : World} {sl : T D} {ob : T C} {nx : Pos} {lg : Option (T Bool)}
theorem opd_ok {x : Operand} {r : RX} {d : D} (hx : rx x = some r) (h : opd sl r = some d) (R : Rep P V γ a w ⟨sl, ob, nx, lg⟩) (hs : ∀ s, s ∈ r.ss → V.ss s) : DV γ w d (a.eval x) := by
  cases x with
  | tmp t =>
    simp only [rx] at hx
    split at hx
    · rename_i p hp
      cases hx
      have := (R.sl p d (hs p (by simp [RX.ss])) h).2
      rw [slot_ix hp] at this
      exact this
    · cases hx
  | const v =>
    simp only [rx] at hx
    split at hx
    · rename_i d' hd
      cases hx
      cases h
      exact constD_ok hd
    · split at hx
      · rename_i cs _
        split at hx
        · rename_i ds hds
          cases hx
          cases h
          obtain ⟨h1, h2⟩ := constDs_ok (γ := γ) (w := w) hds
          unfold DV
          exact ⟨cs, rfl, h1, h2⟩
        · cases hx
      · cases hx
  | func f =>
    simp only [rx] at hx
    split at hx
    · rename_i p hp
      cases hx
      cases h
      unfold DV
      refine ⟨#[], #[], ?_, DVL.nil, DVL.nil⟩
      rw [slot_ix hp]; rfl
    · cases hx
  | global g =>
    simp only [rx] at hx
    split at hx
    · rename_i q hq
      cases hx
      cases h
      exact R.gl.dv hq
    · cases hx
theorem opds_ok : ∀ {xs : List Operand} {rs : List RX} {ds : List D}, rxs xs = some rs → opds sl rs = some ds → Rep P V γ a w ⟨sl, ob, nx, lg⟩ → (∀ s, s ∈ RX.sss rs → V.ss s) → DVL γ w ds (xs.map a.eval)
  | [], rs, ds, hx, h, R, hs => by
    cases hx; cases h; exact DVL.nil
  | x :: xs, rs, ds, hx, h, R, hs => by
    simp only [rxs] at hx
    split at hx
    · rename_i r rs' h1 h2
      cases hx
      have h : (Option.casesOn (opd sl r) none fun d => Option.casesOn (opds sl rs') none fun ds => some (d :: ds) : Option (List D)) = some ds := h
      cases ho : opd sl r with
      | none => rw [ho] at h; cases h
      | some d =>
        rw [ho] at h
        cases hos : opds sl rs' with
        | none => rw [hos] at h; cases h
        | some ds' =>
          rw [hos] at h
          cases h
          exact DVL.cons (opd_ok h1 ho R fun s hs' => hs s (by simp [RX.sss, hs'])) (opds_ok h2 hos R fun s hs' => hs s (by simp [RX.sss, hs']))
    · cases hx
end

theorem dst_ok {nt : Nat} {o : Oper} {s : Nat} {r : RO} {f : Pos → RO} (hd : o.dst = some s) (h : (slotN nt s).map f = some r) : ∃ d, r = f d ∧ o.dst = some d.ix ∧ d.ix < nt := by
  cases hs : slotN nt s with
  | none => rw [hs] at h; cases h
  | some d =>
    rw [hs] at h
    cases h
    obtain ⟨h1, h2⟩ := slotN_ix hs
    exact ⟨d, rfl, by rw [h1]; exact hd, by rw [h1]; exact h2⟩
theorem outK_eq {sl : T D} {ob : T C} {nx : Pos} {lg : Option (T Bool)} {d : Pos} {v : D} {Z : X} (h : outK sl ob nx lg d v = some Z) : Z = ⟨T.set d v sl, ob, nx, lg⟩ := by
  unfold outK at h
  rw [T.setK_eq] at h
  cases h; rfl
end Go.Ev

namespace Go.Ev
open Go.RowKit (Below)

theorem run_isAgg {P : Program} {t : TypeId} {b : Bool} (h : isRow P t = some b) (w : World) : (isAgg t).run P w = .ok b w := by
  unfold isRow at h
  unfold isAgg
  rw [Sem.run_bind]
  split at h
  · rename_i fs hu; cases h; rw [run_underlying hu w]; rfl
  · rename_i hu; cases h; rw [run_underlying hu w]; rfl
  · rename_i d h1 h2 hu
    cases h
    rw [run_underlying hu w]
    cases d <;> first | rfl | (exact absurd rfl (h1 _)) | (exact absurd rfl (h2 _ _))
  · cases h
theorem run_sizeOf' {P : Program} {t : TypeId} {n : Nat} (h : szOf P t = some n) (w : World) : (sizeOf t).run P w = .ok n w := by
  unfold szOf at h
  cases hi : P.info? t with
  | none => rw [hi] at h; cases h
  | some i => rw [hi] at h; cases h; simp [sizeOf, typeInfo, hi]

section
variable {P : Program} {V : Sel} {γ : Gh} {a : Act} {w : World} {sl : T D} {ob : T C} {nx : Pos} {lg : Option (T Bool)} {nt : Nat} {o : Oper}

theorem DV_i {k : IntKind} {n : Int} {v : Value} (h : DV γ w (.i k n) v) : v = .int k n := by unfold DV at h; exact h
theorem DV_b {b : Bool} {v : Value} (h : DV γ w (.b b) v) : v = .bool b := by unfold DV at h; exact h
theorem DV_of_i (k : IntKind) (n : Int) : DV γ w (.i k n) (.int k n) := by unfold DV; rfl
theorem DV_of_b (b : Bool) : DV γ w (.b b) (.bool b) := by unfold DV; rfl

theorem mv_ok {x : Operand} {d : Pos} {r : RX} {Z : X} (ho : o.op = .move x ∨ o.op = .assign x) (hd : o.dst = some d.ix) (hlt : d.ix < nt) (hx : rx x = some r) (h : s_mv d r sl ob nx lg = some Z) : OpOk P nt o r.ss ⟨sl, ob, nx, lg⟩ Z := by
  unfold s_mv at h
  split at h
  · rename_i v hv
    rw [outK_eq h]
    refine OpOk.pure hd hlt (LgLe.refl _) fun V hs _ γ a w R => ⟨a.eval x, ?_, opd_ok hx hv R hs⟩
    rcases ho with ho | ho <;> simp [execOp, ho]
  · cases h

theorem pick_ok {c x y : Operand} {d : Pos} {rc r1 r2 : RX} {Z : X} (ho : o.op = .pick c x y) (hd : o.dst = some d.ix) (hlt : d.ix < nt) (hc : rx c = some rc) (hx : rx x = some r1) (hy : rx y = some r2) (h : s_pick d rc r1 r2 sl ob nx lg = some Z) :
    OpOk P nt o (rc.ss ++ (r1.ss ++ r2.ss)) ⟨sl, ob, nx, lg⟩ Z := by
  unfold s_pick at h
  split at h
  · rename_i hb
    split at h
    · rename_i v hv
      rw [outK_eq h]
      refine OpOk.pure hd hlt (LgLe.refl _) fun V hs _ γ a w R => ⟨a.eval x, ?_, opd_ok hx hv R fun s h => hs s (by simp [h])⟩
      have := DV_b (opd_ok hc hb R fun s h => hs s (by simp [h]))
      simp [execOp, ho, this, asBool]
    · cases h
  · rename_i hb
    split at h
    · rename_i v hv
      rw [outK_eq h]
      refine OpOk.pure hd hlt (LgLe.refl _) fun V hs _ γ a w R => ⟨a.eval y, ?_, opd_ok hy hv R fun s h => hs s (by simp [h])⟩
      have := DV_b (opd_ok hc hb R fun s h => hs s (by simp [h]))
      simp [execOp, ho, this, asBool]
    · cases h
  · cases h

theorem arithK_ok {op : BinOp} {k : IntKind} {x y : Int} {f : D → Option X} {Z : X} (h : arithK op k x y f = some Z) (t : TypeId) (w : World) :
    ∃ v u, f v = some Z ∧ (binOp op t (.int k x) (.int k y)).run P w = .ok u w ∧ ∀ γ w', DV γ w' v u := by
  unfold arithK at h
  split at h
  · rw [wrapK_eq, iadd_eq] at h; exact ⟨_, _, h, by simp [binOp, Op.intArith], fun _ _ => DV_of_i _ _⟩
  · rw [wrapK_eq, isub_eq] at h; exact ⟨_, _, h, by simp [binOp, Op.intArith], fun _ _ => DV_of_i _ _⟩
  · rw [wrapK_eq, imul_eq] at h; exact ⟨_, _, h, by simp [binOp, Op.intArith], fun _ _ => DV_of_i _ _⟩
  · cases hb : eqB y (.ofNat 0) with
    | true => rw [hb] at h; cases h
    | false =>
      rw [hb] at h
      simp only [cond_false] at h
      have hy : y ≠ 0 := fun e => by rw [eqB_iff.2 (show y = Int.ofNat 0 from e)] at hb; cases hb
      rw [wrapK_eq, iquo_eq] at h; exact ⟨_, _, h, by simp [binOp, Op.intDiv, hy], fun _ _ => DV_of_i _ _⟩
  · cases hb : eqB y (.ofNat 0) with
    | true => rw [hb] at h; cases h
    | false =>
      rw [hb] at h
      simp only [cond_false] at h
      have hy : y ≠ 0 := fun e => by rw [eqB_iff.2 (show y = Int.ofNat 0 from e)] at hb; cases hb
      rw [intK_eq, irem_eq] at h; exact ⟨_, _, h, by simp [binOp, Op.intDiv, hy], fun _ _ => DV_of_i _ _⟩
  · rw [wrapK_eq, iand, ibit_eq slowAnd_eq] at h; exact ⟨_, _, h, by simp [binOp, Op.intBits, slowAnd], fun _ _ => DV_of_i _ _⟩
  · rw [wrapK_eq, ior, ibit_eq slowOr_eq] at h; exact ⟨_, _, h, by simp [binOp, Op.intBits, slowOr], fun _ _ => DV_of_i _ _⟩
  · rw [wrapK_eq, ixor, ibit_eq slowXor_eq] at h; exact ⟨_, _, h, by simp [binOp, Op.intBits, slowXor], fun _ _ => DV_of_i _ _⟩
  · rw [wrapK_eq, inot, ibit_eq slowNot_eq] at h; exact ⟨_, _, h, by simp [binOp, Op.intBits, slowNot], fun _ _ => DV_of_i _ _⟩
  · rw [boolK_eq, eqB_eq] at h; exact ⟨_, _, h, by simp [binOp, Op.intCmp], fun _ _ => DV_of_b _⟩
  · rw [boolK_eq, eqB_eq] at h; exact ⟨_, .bool (x != y), h, by simp [binOp, Op.intCmp], fun _ _ => by unfold DV; rfl⟩
  · rw [boolK_eq, ltB_eq] at h; exact ⟨_, _, h, by simp [binOp, Op.intCmp], fun _ _ => DV_of_b _⟩
  · rw [boolK_eq, ltB_eq] at h; exact ⟨_, .bool (decide (x ≤ y)), h, by simp [binOp, Op.intCmp], fun _ _ => by unfold DV; rw [← decide_not]; simp only [Int.not_lt]⟩
  · rw [boolK_eq, ltB_eq] at h; exact ⟨_, _, h, by simp [binOp, Op.intCmp], fun _ _ => DV_of_b _⟩
  · rw [boolK_eq, ltB_eq] at h; exact ⟨_, .bool (decide (y ≤ x)), h, by simp [binOp, Op.intCmp], fun _ _ => by unfold DV; rw [← decide_not]; simp only [Int.not_lt]⟩
  · cases h
  · cases h
theorem binK_ok {op : BinOp} {x y : D} {f : D → Option X} {Z : X} (h : binK op x y f = some Z) (t : TypeId) (w : World) {vx vy : Value} (hx : DV γ w x vx) (hy : DV γ w y vy) :
    ∃ v u, f v = some Z ∧ (binOp op t vx vy).run P w = .ok u w ∧ ∀ γ w', DV γ w' v u := by
  unfold binK at h
  split at h
  · rename_i k m k' n
    cases DV_i hx
    cases DV_i hy
    have shift : ∀ op : BinOp, (op = .shl ∨ op = .shr) → shiftK op k m n f = some Z → ∃ v u, f v = some Z ∧ (binOp op t (.int k m) (.int k' n)).run P w = .ok u w ∧ ∀ γ w', DV γ w' v u := by
      intro op hop h
      cases n with
      | negSucc n => cases h
      | ofNat n =>
        rcases hop with rfl | rfl
        · have h : wrapK k (ishl m (minN n (kbits k))) f = some Z := h
          rw [wrapK_eq, ishl_eq, minN_eq, kbits_eq] at h
          have hn : ¬ ((n : Int) < 0) := by omega
          exact ⟨_, _, h, by simp [binOp, Op.shift, hn], fun _ _ => DV_of_i _ _⟩
        · have h : intK k (ishr m (minN n (kbits k))) f = some Z := h
          rw [intK_eq, ishr_eq, minN_eq, kbits_eq] at h
          have hn : ¬ ((n : Int) < 0) := by omega
          exact ⟨_, _, h, by simp [binOp, Op.shift, hn], fun _ _ => DV_of_i _ _⟩
    split at h
    · exact shift _ (.inl rfl) h
    · exact shift _ (.inr rfl) h
    · cases hk : kEq k k' with
      | false => rw [hk] at h; cases h
      | true =>
        rw [hk] at h
        cases kEq_iff.1 hk
        exact arithK_ok h t w
  · cases h
theorem run_eqGuard_int {op : BinOp} {t : TypeId} {x y : Operand} {k k' : IntKind} {m n : Int} (w : World) : (eqGuard op t x y (.int k m) (.int k' n)).run P w = .ok () w := by
  cases op <;> simp [eqGuard]
theorem bin_ok {op : BinOp} {t t' : TypeId} {x y : Operand} {d : Pos} {r1 r2 : RX} {Z : X} (ho : o.op = .binOp op t x y t') (hd : o.dst = some d.ix) (hlt : d.ix < nt) (hx : rx x = some r1) (hy : rx y = some r2) (h : s_bin d op r1 r2 sl ob nx lg = some Z) :
    OpOk P nt o (r1.ss ++ r2.ss) ⟨sl, ob, nx, lg⟩ Z := by
  unfold s_bin at h
  split at h
  · rename_i p q hp hq
    have key : ∃ v, outK sl ob nx lg d v = some Z ∧ ∀ (γ : Gh) (w : World) vx vy, DV γ w p vx → DV γ w q vy → ∃ u, (binOp op t vx vy).run P w = .ok u w ∧ (eqGuard op t x y vx vy).run P w = .ok () w ∧ DV γ w v u := by
      have h0 := h
      unfold binK at h0
      split at h0
      · rename_i k m k' n
        obtain ⟨v, u, h1, h2, h3⟩ := binK_ok (P := P) (γ := ⟨fun _ => 0, fun _ _ => (0, 0), fun _ => False⟩) h t (default : World) (DV_of_i k m) (DV_of_i k' n)
        refine ⟨v, h1, fun γ w vx vy hx hy => ?_⟩
        obtain ⟨v', u', h1', h2', h3'⟩ := binK_ok (P := P) h t w hx hy
        have e1 := outK_eq h1
        have e2 := outK_eq h1'
        have : v' = v := by
          have e : T.set d v' sl = T.set d v sl := by rw [e1] at e2; exact (X.mk.inj e2).1.symm
          have := congrArg (fun t => T.get t d) e
          simp only [T.get_set_same, Option.some.injEq] at this
          exact this
        subst this
        cases DV_i hx
        cases DV_i hy
        exact ⟨u', h2', run_eqGuard_int w, h3' γ w⟩
      · cases h0
    obtain ⟨v, h1, h2⟩ := key
    rw [outK_eq h1]
    refine OpOk.pure hd hlt (LgLe.refl _) fun V hs _ γ a w R => ?_
    obtain ⟨u, h3, h4, h5⟩ := h2 γ w _ _ (opd_ok hx hp R fun s h => hs s (by simp [h])) (opd_ok hy hq R fun s h => hs s (by simp [h]))
    exact ⟨u, by simp [execOp, ho, h3, h4], h5⟩
  · cases h
theorem un_ok {op : UnOp} {t : TypeId} {x : Operand} {d : Pos} {r : RX} {Z : X} (ho : o.op = .unOp op t x) (hd : o.dst = some d.ix) (hlt : d.ix < nt) (hx : rx x = some r) (h : s_un d op r sl ob nx lg = some Z) :
    OpOk P nt o r.ss ⟨sl, ob, nx, lg⟩ Z := by
  unfold s_un at h
  split at h
  · rename_i b hb
    rw [boolK_eq] at h
    rw [outK_eq h]
    refine OpOk.pure hd hlt (LgLe.refl _) fun V hs _ γ a w R => ⟨.bool !b, ?_, DV_of_b _⟩
    have := DV_b (opd_ok hx hb R hs)
    simp [execOp, ho, this, Op.unary]
  · rename_i k n hb
    rw [wrapK_eq, isub_eq] at h
    rw [outK_eq h]
    refine OpOk.pure hd hlt (LgLe.refl _) fun V hs _ γ a w R => ⟨.int k (k.wrap (0 - n)), ?_, DV_of_i _ _⟩
    have := DV_i (opd_ok hx hb R hs)
    simp [execOp, ho, this, Op.unary, Op.intArith]
  · cases h
theorem cvi_ok {t' t : TypeId} {x : Operand} {d : Pos} {k k' : IntKind} {r : RX} {Z : X} (ho : o.op = .convert t' t x) (hu' : P.underlying t' = some (.int k')) (hu : P.underlying t = some (.int k)) (hd : o.dst = some d.ix) (hlt : d.ix < nt) (hx : rx x = some r) (h : s_cvi d k r sl ob nx lg = some Z) :
    OpOk P nt o r.ss ⟨sl, ob, nx, lg⟩ Z := by
  unfold s_cvi at h
  split at h
  · rename_i kk n hb
    rw [wrapK_eq] at h
    rw [outK_eq h]
    refine OpOk.pure hd hlt (LgLe.refl _) fun V hs _ γ a w R => ⟨.int k (k.wrap n), ?_, DV_of_i _ _⟩
    have := DV_i (opd_ok hx hb R hs)
    simp [execOp, ho, this, convert, run_underlying hu, run_underlying hu', Conv.intToInt]
  · cases h
theorem maxmin_ok {b : Builtin} {args : Array Operand} {tys : Array TypeId} {x y : Operand} {d : Pos} {r1 r2 : RX} {Z : X} (ho : o.op = .call { callee := .builtin b, args := args, argTypes := tys }) (ha : args.toList = [x, y]) (hd : o.dst = some d.ix) (hlt : d.ix < nt) (hx : rx x = some r1) (hy : rx y = some r2)
    (h : (b = .max ∧ s_mx d r1 r2 sl ob nx lg = some Z) ∨ (b = .min ∧ s_mn d r1 r2 sl ob nx lg = some Z)) : OpOk P nt o (r1.ss ++ r2.ss) ⟨sl, ob, nx, lg⟩ Z := by
  have hargs : args = #[x, y] := by rw [← Array.toArray_toList (xs := args), ha]
  subst hargs
  rcases h with ⟨rfl, h⟩ | ⟨rfl, h⟩
  · unfold s_mx at h
    split at h
    · rename_i k m k' n hp hq
      cases hk : kEq k k' with
      | false => rw [hk] at h; cases h
      | true =>
        rw [hk] at h
        cases kEq_iff.1 hk
        simp only [cond_true, ltB_eq] at h
        have h : outK sl ob nx lg d (.i k (max m n)) = some Z := by
          by_cases hlt : m < n
          · simp only [hlt, decide_true, cond_true] at h
            rw [show max m n = n by omega]; exact h
          · simp only [hlt, decide_false, cond_false] at h
            rw [show max m n = m by omega]; exact h
        rw [outK_eq h]
        refine OpOk.pure hd hlt (LgLe.refl _) fun V hs _ γ a w R => ⟨.int k (max m n), ?_, DV_of_i _ _⟩
        have e1 := DV_i (opd_ok hx hp R fun s h => hs s (by simp [h]))
        have e2 := DV_i (opd_ok hy hq R fun s h => hs s (by simp [h]))
        simp only [execOp, ho, resolve, Sem.run_bind, Sem.run_pure, Result.andThen_ok, invoke, builtin, List.map_toArray, List.map_cons, List.map_nil, e1, e2]
        have hm : (if m < n then n else m) = max m n := by split <;> omega
        simp [Builtin.max_, Builtin.max2, hm]
    · cases h
  · unfold s_mn at h
    split at h
    · rename_i k m k' n hp hq
      cases hk : kEq k k' with
      | false => rw [hk] at h; cases h
      | true =>
        rw [hk] at h
        cases kEq_iff.1 hk
        simp only [cond_true, ltB_eq] at h
        have h : outK sl ob nx lg d (.i k (min m n)) = some Z := by
          by_cases hlt : n < m
          · simp only [hlt, decide_true, cond_true] at h
            rw [show min m n = n by omega]; exact h
          · simp only [hlt, decide_false, cond_false] at h
            rw [show min m n = m by omega]; exact h
        rw [outK_eq h]
        refine OpOk.pure hd hlt (LgLe.refl _) fun V hs _ γ a w R => ⟨.int k (min m n), ?_, DV_of_i _ _⟩
        have e1 := DV_i (opd_ok hx hp R fun s h => hs s (by simp [h]))
        have e2 := DV_i (opd_ok hy hq R fun s h => hs s (by simp [h]))
        simp only [execOp, ho, resolve, Sem.run_bind, Sem.run_pure, Result.andThen_ok, invoke, builtin, List.map_toArray, List.map_cons, List.map_nil, e1, e2]
        have hm : (if n < m then n else m) = min m n := by split <;> omega
        simp [Builtin.min_, Builtin.min2, hm]
    · cases h
end
end Go.Ev
