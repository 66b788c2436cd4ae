import Derived.Test.YtihlllachfonoaaGreatDoorEvE
set_option linter.all false
namespace Go.Ev
open Go.RowKit (Below)

theorem slowAnd_eq (k : IntKind) (m n : Nat) (h : m ≤ ubits k) (h' : n ≤ ubits k) : slowAnd k (.ofNat m) (.ofNat n) = .ofNat (Nat.land m n) := by
  unfold slowAnd
  rw [BitVec.toNat_and, ofInt_toNat h, ofInt_toNat h']; rfl
theorem slowOr_eq (k : IntKind) (m n : Nat) (h : m ≤ ubits k) (h' : n ≤ ubits k) : slowOr k (.ofNat m) (.ofNat n) = .ofNat (Nat.lor m n) := by
  unfold slowOr
  rw [BitVec.toNat_or, ofInt_toNat h, ofInt_toNat h']; rfl
theorem slowXor_eq (k : IntKind) (m n : Nat) (h : m ≤ ubits k) (h' : n ≤ ubits k) : slowXor k (.ofNat m) (.ofNat n) = .ofNat (Nat.xor m n) := by
  unfold slowXor
  rw [BitVec.toNat_xor, ofInt_toNat h, ofInt_toNat h']; rfl
theorem ubits_eq (k : IntKind) : ubits k = 2 ^ k.bits - 1 := by cases k <;> rfl
theorem slowNot_eq (k : IntKind) (m n : Nat) (h : m ≤ ubits k) (h' : n ≤ ubits k) : slowNot k (.ofNat m) (.ofNat n) = .ofNat (Nat.land m (Nat.sub (ubits k) n)) := by
  unfold slowNot
  rw [BitVec.toNat_and, BitVec.toNat_not, ofInt_toNat h, ofInt_toNat h', ubits_eq]; rfl

/-! ### an operation -/
/-- The wide fence, in a frame or in a round. -/
def FW (ro : Option Nat) : Fence := { Fence.wide with round := ro }

theorem semAt_run {P : Program} {ro : Option Nat} {ρ : Operand → Value} {o : Oper} {w w' : World} {x : Next} (h : (execOp ρ o).run P w = .ok x w') (hx : ∀ d, x ≠ .defer d) : (Oper.semAt ro ρ o).run P w = .ok x w' := by
  rw [Oper.semAt_eq]
  · exact h
  · intro c hc
    simp only [execOp, hc, Sem.run_bind] at h
    cases hr : (resolve ρ c o.type).run P w with
    | ok d w2 => rw [hr] at h; simp only [Result.andThen_ok, Sem.run_pure] at h; cases h; exact hx _ rfl
    | halt e w2 => rw [hr] at h; cases h

theorem wpIn_of {P : Program} {ro : Option Nat} {n : Nat} {o : Oper} {a : Act} {w w' : World} {x : Next} {K : Act → World → Prop} {Q : Exit → Act → World → Prop} (h : (execOp a.eval o).run P w = .ok x w') (hx : ∀ d, x ≠ .defer d)
    (hu : o.uponIn (FW ro) n P a K Q (.ok x w')) : o.wpIn (FW ro) n P a w K Q :=
  ⟨fun _ _ => trivial, by rw [semAt_run h hx]; exact hu⟩

/-- What an operation leaves. -/
structure St (ro : Option Nat) (lg : Option (T Bool)) (dst : Option Tmp) (γ : Gh) (a : Act) (w : World) (γ' : Gh) (a' : Act) (w' : World) : Prop where
  g : G ro γ' a' w'
  fr : Fr (wrtn lg) γ γ' w w'
  sz : a'.tmps.size = a.tmps.size
  df : a'.defers = a.defers
  sl : ∀ s, dst ≠ some s → a'.tmps.getD s undef = a.tmps.getD s undef

/-- An operation takes the state x to the state Z: whatever the slots that it reads and the objects that it touches lie among. -/
structure OpOk (P : Program) (nt : Nat) (o : Oper) (names : List Pos) (x Z : X) : Prop where
  lg : LgLe x.lg Z.lg
  nx : x.nx.nat ≤ Z.nx.nat
  obf : Keeps Z.lg x.ob Z.ob
  slf : ∀ s : Pos, o.dst ≠ some s.ix → Z.sl.get s = x.sl.get s
  ok : ∀ V : Sel, (∀ s, s ∈ names → V.ss s) → (∀ id, tchd Z.lg id → V.so id) → ∀ (ro : Option Nat) (γ : Gh) (a : Act) (w : World), a.tmps.size = nt → G ro γ a w → Rep P V γ a w x →
    ∀ (n : Nat) (K : Act → World → Prop) (Q : Exit → Act → World → Prop), (∀ γ' a' w', St ro Z.lg o.dst γ a w γ' a' w' → Rep P V γ' a' w' Z → K a' w') → o.wpIn (FW ro) n P a w K Q

theorem getD_put_same {a : Act} {s : Nat} {v : Value} (h : s < a.tmps.size) : (a.put (some s) v).tmps.getD s undef = v := by
  simp [Act.put, h]
theorem getD_put_other {a : Act} {s t : Nat} {v : Value} (h : s ≠ t) : (a.put (some s) v).tmps.getD t undef = a.tmps.getD t undef := by
  simp [Act.put, Array.getElem?_setIfInBounds_ne h]
theorem put_size (a : Act) (d : Option Tmp) (v : Value) : (a.put d v).tmps.size = a.tmps.size := by
  cases d <;> simp [Act.put]
theorem put_defers (a : Act) (d : Option Tmp) (v : Value) : (a.put d v).defers = a.defers := by
  cases d <;> rfl

section
variable {P : Program} {nt : Nat} {o : Oper} {names : List Pos} {sl : T D} {ob : T C} {nx : Pos} {lg : Option (T Bool)}

/-- A value into a slot, whatever else. -/
theorem St.value {V : Sel} {ro : Option Nat} {lg' : Option (T Bool)} {γ γ' : Gh} {a : Act} {w w' : World} {ob' : T C} {nx' : Pos} {d : Pos} {v : D} {u : Value} (hlt : d.ix < a.tmps.size) (hd : o.dst = some d.ix) (R : Rep P V γ a w ⟨sl, ob, nx, lg⟩)
    (F : Fr (wrtn lg') γ γ' w w') (g' : ∀ a' : Act, a'.defers = a.defers → G ro γ' a' w') (hv : DV γ' w' v u)
    (ho : ∀ id c, V.so id → ob'.get id = some c → HoldsO P γ' w' id c) (hn : ∀ id, V.so id → nx'.nat ≤ id.nat → γ'.cur id = 0) :
    St ro lg' o.dst γ a w γ' (a.put o.dst u) w' ∧ Rep P V γ' (a.put o.dst u) w' ⟨T.set d v sl, ob', nx', lg'⟩ := by
  refine ⟨⟨g' _ (put_defers _ _ _), F, put_size _ _ _, put_defers _ _ _, fun s hs => ?_⟩, ⟨fun s e hss he => ?_, ho, hn, R.gl.up F.up⟩⟩
  · rw [hd] at hs ⊢
    exact getD_put_other fun e => hs (by rw [e])
  · rw [put_size]
    by_cases es : s = d
    · subst es
      have he : (T.set s v sl).get s = some e := he
      rw [T.get_set_same] at he
      cases he
      rw [hd, getD_put_same hlt]
      exact ⟨hlt, hv⟩
    · have he : (T.set d v sl).get s = some e := he
      rw [T.get_set_ne es] at he
      obtain ⟨h1, h2⟩ := R.sl s e hss he
      refine ⟨h1, ?_⟩
      rw [hd, getD_put_other (fun h => es (Pos.ix_inj h.symm))]
      exact DV.mono F.up _ _ h2

theorem OpOk.value {lg' : Option (T Bool)} {ob' : T C} {nx' : Pos} {d : Pos} {v : D} (hd : o.dst = some d.ix) (hlt : d.ix < nt) (hl : LgLe lg lg') (hx : nx.nat ≤ nx'.nat) (hkp : Keeps lg' ob ob')
    (h : ∀ V : Sel, (∀ s, s ∈ names → V.ss s) → (∀ id, tchd lg' id → V.so id) → ∀ (ro : Option Nat) (γ : Gh) (a : Act) (w : World), G ro γ a w → Rep P V γ a w ⟨sl, ob, nx, lg⟩ →
      ∃ u w' γ', (execOp a.eval o).run P w = .ok (.value u) w' ∧ Fr (wrtn lg') γ γ' w w' ∧ (∀ a' : Act, a'.defers = a.defers → G ro γ' a' w') ∧ DV γ' w' v u ∧
        (∀ id c, V.so id → ob'.get id = some c → HoldsO P γ' w' id c) ∧ (∀ id, V.so id → nx'.nat ≤ id.nat → γ'.cur id = 0)) :
    OpOk P nt o names ⟨sl, ob, nx, lg⟩ ⟨T.set d v sl, ob', nx', lg'⟩ := by
  refine ⟨hl, hx, hkp, fun s hs => T.get_set_ne (fun e => hs (by rw [e]; exact hd)) _ _, fun V hs ho ro γ a w hn g R n K Q hK => ?_⟩
  obtain ⟨u, w', γ', h1, h2, h3, h4, h5, h6⟩ := h V hs ho ro γ a w g R
  refine wpIn_of h1 (fun _ h => by cases h) ?_
  rw [Oper.uponIn_value]
  obtain ⟨s1, r1⟩ := St.value (sl := sl) (o := o) (by rw [hn]; exact hlt) hd R h2 h3 h4 h5 h6
  exact hK _ _ _ s1 r1

/-- Where the world stays. -/
theorem OpOk.pure {lg' : Option (T Bool)} {d : Pos} {v : D} (hd : o.dst = some d.ix) (hlt : d.ix < nt) (hl : LgLe lg lg')
    (h : ∀ V : Sel, (∀ s, s ∈ names → V.ss s) → (∀ id, tchd lg' id → V.so id) → ∀ (γ : Gh) (a : Act) (w : World), Rep P V γ a w ⟨sl, ob, nx, lg⟩ → ∃ u, (execOp a.eval o).run P w = .ok (.value u) w ∧ DV γ w v u) :
    OpOk P nt o names ⟨sl, ob, nx, lg⟩ ⟨T.set d v sl, ob, nx, lg'⟩ :=
  OpOk.value hd hlt hl (Nat.le_refl _) (Keeps.refl _ _) fun V hs ho ro γ a w g R => by
    obtain ⟨u, h1, h2⟩ := h V hs ho γ a w R
    exact ⟨u, w, γ, h1, Fr.refl _ _ _, fun a' ha => { g with df := by rw [ha]; exact g.df }, h2, R.ob, R.nx⟩

/-- Where nothing is handed on. -/
theorem OpOk.skip {lg' : Option (T Bool)} {ob' : T C} (hd : o.dst = none) (hl : LgLe lg lg') (hkp : Keeps lg' ob ob')
    (h : ∀ V : Sel, (∀ s, s ∈ names → V.ss s) → (∀ id, tchd lg' id → V.so id) → ∀ (ro : Option Nat) (γ : Gh) (a : Act) (w : World), G ro γ a w → Rep P V γ a w ⟨sl, ob, nx, lg⟩ →
      ∃ w', ((execOp a.eval o).run P w = .ok .skip w' ∨ ∃ u, (execOp a.eval o).run P w = .ok (.value u) w') ∧ Fr (wrtn lg') γ γ w w' ∧ (∀ a' : Act, a'.defers = a.defers → G ro γ a' w') ∧
        (∀ id c, V.so id → ob'.get id = some c → HoldsO P γ w' id c)) :
    OpOk P nt o names ⟨sl, ob, nx, lg⟩ ⟨sl, ob', nx, lg'⟩ := by
  refine ⟨hl, Nat.le_refl _, hkp, fun _ _ => rfl, fun V hs ho ro γ a w hn g R n K Q hK => ?_⟩
  obtain ⟨w', h1, h2, h3, h4⟩ := h V hs ho ro γ a w g R
  have fin : ∀ u, K (a.put o.dst u) w' := fun u => by
    rw [hd]
    refine hK γ _ w' ⟨h3 _ rfl, h2, rfl, rfl, fun s _ => rfl⟩ ⟨fun s e hss he => ?_, h4, R.nx, R.gl.up h2.up⟩
    obtain ⟨h5, h6⟩ := R.sl s e hss he
    exact ⟨h5, DV.mono h2.up _ _ h6⟩
  rcases h1 with h1 | ⟨u, h1⟩
  · refine wpIn_of h1 (fun _ h => by cases h) ?_
    rw [Oper.uponIn_skip]; exact fin _
  · refine wpIn_of h1 (fun _ h => by cases h) ?_
    rw [Oper.uponIn_value]; exact fin _
end

/-! ### operands -/

theorem constD_ok {γ : Gh} {w : World} {v : Value} {d : D} (h : constD v = some d) : DV γ w d v := by
  unfold constD at h
  split at h <;> first | (cases h; unfold DV; rfl) | cases h
theorem constD_one {v : Value} {d : D} (h : constD v = some d) : v.oneCell' = true := by
  unfold constD at h
  split at h <;> first | rfl | cases h
theorem constDs_ok {γ : Gh} {w : World} : ∀ {vs : List Value} {ds : List D}, constDs vs = some ds → DVL γ w ds vs ∧ ∀ u ∈ vs, u.oneCell' = true
  | [], ds, h => by cases h; exact ⟨DVL.nil, by simp⟩
  | v :: vs, ds, h => by
    simp only [constDs] at h
    split at h
    · rename_i d ds' h1 h2
      cases h
      obtain ⟨h3, h4⟩ := constDs_ok (γ := γ) (w := w) h2
      refine ⟨DVL.cons (constD_ok h1) h3, fun u hu => ?_⟩
      rcases List.mem_cons.1 hu with rfl | hu
      · exact constD_one h1
      · exact h4 u hu
    · cases h

section
variable {P : Program} {V : Sel} {γ : Gh} {a : Act} {w : World} {sl : T D} {ob : T C} {nx : Pos} {lg : Option (T Bool)}
theorem opd_ok {x : Operand} {r : RX} {d : D} (hx : rx x = some r) (h : opd sl r = some d) (R : Rep P V γ a w ⟨sl, ob, nx, lg⟩) (hs : ∀ s, s ∈ r.ss → V.ss s) : DV γ w d (a.eval x) := by
  cases x with
  | tmp t =>
    simp only [rx] at hx
    split at hx
    · rename_i p hp
      cases hx
      have := (R.sl p d (hs p (by simp [RX.ss])) h).2
      rw [slot_ix hp] at this
      exact this
    · cases hx
  | const v =>
    simp only [rx] at hx
    split at hx
    · rename_i d' hd
      cases hx
      cases h
      exact constD_ok hd
    · split at hx
      · rename_i cs _
        split at hx
        · rename_i ds hds
          cases hx
          cases h
          obtain ⟨h1, h2⟩ := constDs_ok (γ := γ) (w := w) hds
          unfold DV
          exact ⟨cs, rfl, h1, h2⟩
        · cases hx
      · cases hx
  | func f =>
    simp only [rx] at hx
    split at hx
    · rename_i p hp
      cases hx
      cases h
      unfold DV
      refine ⟨#[], #[], ?_, DVL.nil, DVL.nil⟩
      rw [slot_ix hp]; rfl
    · cases hx
  | global g =>
    simp only [rx] at hx
    split at hx
    · rename_i q hq
      cases hx
      cases h
      exact R.gl.dv hq
    · cases hx
theorem opds_ok : ∀ {xs : List Operand} {rs : List RX} {ds : List D}, rxs xs = some rs → opds sl rs = some ds → Rep P V γ a w ⟨sl, ob, nx, lg⟩ → (∀ s, s ∈ RX.sss rs → V.ss s) → DVL γ w ds (xs.map a.eval)
  | [], rs, ds, hx, h, R, hs => by
    cases hx; cases h; exact DVL.nil
  | x :: xs, rs, ds, hx, h, R, hs => by
    simp only [rxs] at hx
    split at hx
    · rename_i r rs' h1 h2
      cases hx
      have h : (Option.casesOn (opd sl r) none fun d => Option.casesOn (opds sl rs') none fun ds => some (d :: ds) : Option (List D)) = some ds := h
      cases ho : opd sl r with
      | none => rw [ho] at h; cases h
      | some d =>
        rw [ho] at h
        cases hos : opds sl rs' with
        | none => rw [hos] at h; cases h
        | some ds' =>
          rw [hos] at h
          cases h
          exact DVL.cons (opd_ok h1 ho R fun s hs' => hs s (by simp [RX.sss, hs'])) (opds_ok h2 hos R fun s hs' => hs s (by simp [RX.sss, hs']))
    · cases hx
end

theorem dst_ok {nt : Nat} {o : Oper} {s : Nat} {r : RO} {f : Pos → RO} (hd : o.dst = some s) (h : (slotN nt s).map f = some r) : ∃ d, r = f d ∧ o.dst = some d.ix ∧ d.ix < nt := by
  cases hs : slotN nt s with
  | none => rw [hs] at h; cases h
  | some d =>
    rw [hs] at h
    cases h
    obtain ⟨h1, h2⟩ := slotN_ix hs
    exact ⟨d, rfl, by rw [h1]; exact hd, by rw [h1]; exact h2⟩
theorem outK_eq {sl : T D} {ob : T C} {nx : Pos} {lg : Option (T Bool)} {d : Pos} {v : D} {Z : X} (h : outK sl ob nx lg d v = some Z) : Z = ⟨T.set d v sl, ob, nx, lg⟩ := by
  unfold outK at h
  rw [T.setK_eq] at h
  cases h; rfl
end Go.Ev
