import Derived.Test.YtpemagogcagipaaEvS
import Derived.Scope
import Derived.LoopNIn
set_option linter.all false
namespace Go
theorem wpIn_scope_straight' {F : Fence} {n : Nat} {P : Program} {Q : Exit → Act → World → Prop} {a : Act} {w : World} {c : Code} (h : c.wpIn F n P (Exit.noGoto Q) a w) : (Code.scope c).wpIn F n P Q a w := by
  intro b k cs hro hb hr
  have h0 : (lone (b.atR a (.code (.scope c) :: k)) cs w).fenced P F := fenced_calm hb hr rfl
  have hs : step P (lone (b.atR a (.code (.scope c) :: k)) cs w) = .next (lone (b.atR a (.code c :: .inScope c :: k)) cs w) := step_lone_go (by simp [stepG, stepG.exec, Frame.atR])
  obtain ⟨e, a₁, w₁, hq, harr⟩ := h b (.inScope c :: k) cs hro hb hr
  cases e with
  | normal =>
    have he : step P (lone (b.atR a₁ (.inScope c :: k)) cs w₁) = .next (lone (b.atR a₁ k) cs w₁) := step_lone_go (by simp [stepG, stepG.exec, Frame.atR])
    exact ⟨.normal, a₁, w₁, hq, .head h0 hs (StepsIn.trans harr (.one (fenced_calm hb hr rfl) he))⟩
  | exit id =>
    have hx : exitTo id (.inScope c :: k) = exitTo id k := by simp [exitTo]
    exact ⟨.exit id, a₁, w₁, hq, fun k' hk => .head h0 hs (harr.1 k' (by rw [hx]; exact hk)), fun hr' hk => let ⟨k₁, h1, h2⟩ := harr.2 hr' (by rw [hx]; exact hk); ⟨k₁, h1, .head h0 hs h2⟩⟩
  | goto l => exact hq.elim
  | ret => exact ⟨_, a₁, w₁, hq, .of_steps (.one h0 hs) harr⟩
  | panic ch => exact ⟨_, a₁, w₁, hq, .of_steps (.one h0 hs) harr⟩
  | outgrown => exact ⟨_, a₁, w₁, hq, .of_steps (.one h0 hs) harr⟩
end Go
namespace Go.Ev
open Go.RowKit (Below)

def Ex.to : Ex → Exit
  | .normal => .normal
  | .ret => .ret
  | .exit id => .exit id

/-- What a run of code leaves. -/
structure CSt (ro : Option Nat) (lg : Option (T Bool)) (γ : Gh) (a : Act) (w : World) (γ' : Gh) (a' : Act) (w' : World) : Prop where
  g : G ro γ' a' w'
  fr : Fr (wrtn lg) γ γ' w w'
  sz : a'.tmps.size = a.tmps.size
  dn : ∀ r, mark r ∈ a'.defers → mark r ∈ a.defers ∨ w.heap.size ≤ r
theorem CSt.refl {ro : Option Nat} {lg : Option (T Bool)} {γ : Gh} {a : Act} {w : World} (g : G ro γ a w) : CSt ro lg γ a w γ a w := ⟨g, Fr.refl _ _ _, rfl, fun _ h => .inl h⟩
theorem CSt.trans {ro : Option Nat} {lg lg' : Option (T Bool)} {γ γ1 γ2 : Gh} {a a1 a2 : Act} {w w1 w2 : World} (hl : LgLe lg lg') (h : CSt ro lg γ a w γ1 a1 w1) (k : CSt ro lg' γ1 a1 w1 γ2 a2 w2) : CSt ro lg' γ a w γ2 a2 w2 :=
  ⟨k.g, (h.fr.mono hl.w).trans k.fr, k.sz.trans h.sz, fun r hr => by
    rcases k.dn r hr with h1 | h1
    · exact h.dn r h1
    · exact .inr (Nat.le_trans h.fr.size h1)⟩
theorem St.code {ro : Option Nat} {lg : Option (T Bool)} {dst : Option Tmp} {γ γ' : Gh} {a a' : Act} {w w' : World} (s : St ro lg dst γ a w γ' a' w') : CSt ro lg γ a w γ' a' w' :=
  ⟨s.g, s.fr, s.sz, fun r hr => .inl (by rw [← s.df]; exact hr)⟩

def allS (so : Pos → Prop) : Sel := ⟨fun _ => True, so⟩

/-- Code takes the state x to the state Z, by the exit ex. -/
structure XOk (P : Program) (nt : Nat) (c : Code) (x : X) (ex : Ex) (Z : X) : Prop where
  lg : LgLe x.lg Z.lg
  nx : x.nx.nat ≤ Z.nx.nat
  obf : Keeps Z.lg x.ob Z.ob
  ok : ∀ so : Pos → Prop, (∀ id, tchd Z.lg id → so id) → ∀ (ro : Option Nat) (γ : Gh) (a : Act) (w : World), a.tmps.size = nt → G ro γ a w → Rep P (allS so) γ a w x →
    ∀ (n : Nat) (Q : Exit → Act → World → Prop), (∀ γ' a' w', CSt ro Z.lg γ a w γ' a' w' → Rep P (allS so) γ' a' w' Z → Q ex.to a' w') → c.wpIn (FW ro) n P Q a w

section
variable {P : Program} {nt : Nat} {x y Z : X} {ex : Ex}
theorem XOk.here {c : Code} (h : ∀ {F : Fence} {n : Nat} {Q : Exit → Act → World → Prop} {a : Act} {w : World}, Q ex.to a w → c.wpIn F n P Q a w) : XOk P nt c x ex x :=
  ⟨LgLe.refl _, Nat.le_refl _, Keeps.refl _ _, fun _ _ _ _ _ _ _ g R _ _ hQ => h (hQ _ _ _ (CSt.refl g) R)⟩
theorem XOk.skip : XOk P nt .skip x .normal x := XOk.here wpIn_skip
theorem XOk.label {l : Nat} : XOk P nt (.label l) x .normal x := XOk.here wpIn_label
theorem XOk.exit {id : Nat} : XOk P nt (.exit id) x (.exit id) x := XOk.here wpIn_exit
theorem XOk.ret : XOk P nt .ret x .ret x := XOk.here wpIn_ret
theorem XOk.seq {a b : Code} (h1 : XOk P nt a x .normal y) (h2 : XOk P nt b y ex Z) : XOk P nt (.seq a b) x ex Z :=
  ⟨h1.lg.trans h2.lg, Nat.le_trans h1.nx h2.nx, h1.obf.trans h2.lg h2.obf, fun so hs ro γ a w hn g R n Q hQ => wpIn_seq (h1.ok so (fun id hid => hs id (h2.lg.t id hid)) ro γ a w hn g R n _ fun γ1 a1 w1 s1 R1 =>
    h2.ok so hs ro γ1 a1 w1 (s1.sz.trans hn) s1.g R1 n Q fun γ2 a2 w2 s2 R2 => hQ γ2 a2 w2 (CSt.trans h2.lg s1 s2) R2)⟩
theorem XOk.seqEnd {a b : Code} (h1 : XOk P nt a x ex Z) (hne : ex ≠ .normal) : XOk P nt (.seq a b) x ex Z :=
  ⟨h1.lg, h1.nx, h1.obf, fun so hs ro γ a w hn g R n Q hQ => wpIn_seq (h1.ok so hs ro γ a w hn g R n _ fun γ1 a1 w1 s1 R1 => by
    have := hQ γ1 a1 w1 s1 R1
    cases ex with
    | normal => exact absurd rfl hne
    | exit id => exact this
    | ret => exact this)⟩
theorem XOk.cond {c : Operand} {a b : Code} {r : RX} {t : Bool} (hc : rx c = some r) (hv : opd x.sl r = some (.b t)) (h : XOk P nt (bif t then a else b) x ex Z) : XOk P nt (.cond c a b) x ex Z :=
  ⟨h.lg, h.nx, h.obf, fun so hs ro γ a w hn g R n Q hQ => by
    have e := DV_b (opd_ok (sl := x.sl) (ob := x.ob) (nx := x.nx) (lg := x.lg) hc hv R fun _ _ => trivial)
    refine wpIn_cond e ?_
    have := h.ok so hs ro γ a w hn g R n Q hQ
    cases t <;> exact this⟩
theorem XOk.block {id : Nat} {c : Code} (h : XOk P nt c x (.exit id) Z) : XOk P nt (.block id c) x .normal Z :=
  ⟨h.lg, h.nx, h.obf, fun so hs ro γ a w hn g R n Q hQ => wpIn_block (h.ok so hs ro γ a w hn g R n _ fun γ1 a1 w1 s1 R1 => by
    simp only [Ex.to, Exit.inBlock, if_true]
    exact hQ γ1 a1 w1 s1 R1)⟩
theorem XOk.blockThrough {id : Nat} {c : Code} (h : XOk P nt c x ex Z) (hne : ex ≠ .exit id) : XOk P nt (.block id c) x ex Z :=
  ⟨h.lg, h.nx, h.obf, fun so hs ro γ a w hn g R n Q hQ => wpIn_block (h.ok so hs ro γ a w hn g R n _ fun γ1 a1 w1 s1 R1 => by
    have := hQ γ1 a1 w1 s1 R1
    cases ex with
    | normal => exact this
    | exit i =>
      have hi : ¬ i = id := fun e => hne (by rw [e])
      simp only [Ex.to, Exit.inBlock, hi, if_false]
      exact this
    | ret => exact this)⟩
theorem XOk.scope {c : Code} (h : XOk P nt c x ex Z) : XOk P nt (.scope c) x ex Z :=
  ⟨h.lg, h.nx, h.obf, fun so hs ro γ a w hn g R n Q hQ => wpIn_scope_straight' (h.ok so hs ro γ a w hn g R n _ fun γ1 a1 w1 s1 R1 => by
    have := hQ γ1 a1 w1 s1 R1
    cases ex <;> exact this)⟩

/-- The rounds of a loop. -/
inductive XRounds (P : Program) (nt : Nat) (c : Code) : X → Ex → X → Prop where
  | last {x Z : X} {ex : Ex} (h : XOk P nt c x ex Z) (hne : ex ≠ .normal) : XRounds P nt c x ex Z
  | more {x y Z : X} {ex : Ex} (h : XOk P nt c x .normal y) (r : XRounds P nt c y ex Z) : XRounds P nt c x ex Z
theorem XRounds.lg {c : Code} (h : XRounds P nt c x ex Z) : LgLe x.lg Z.lg ∧ x.nx.nat ≤ Z.nx.nat ∧ Keeps Z.lg x.ob Z.ob := by
  induction h with
  | last h _ => exact ⟨h.lg, h.nx, h.obf⟩
  | more h _ ih => exact ⟨h.lg.trans ih.1, Nat.le_trans h.nx ih.2.1, h.obf.trans ih.1 ih.2.2⟩
theorem XRounds.rounds {c : Code} (h : XRounds P nt c x ex Z) (so : Pos → Prop) (hs : ∀ id, tchd Z.lg id → so id) (ro : Option Nat) (n : Nat) (Q : Exit → Act → World → Prop) : ∃ m, ∀ γ a w, a.tmps.size = nt → G ro γ a w → Rep P (allS so) γ a w x →
    (∀ γ' a' w', CSt ro Z.lg γ a w γ' a' w' → Rep P (allS so) γ' a' w' Z → Q ex.to a' w') → Code.roundsIn (FW ro) n P c Q m a w := by
  induction h with
  | last hx hne =>
    refine ⟨1, fun γ a w hn g R hq => ?_⟩
    rw [roundsIn_succ]
    refine hx.ok so hs ro γ a w hn g R n _ fun γ' a' w' s1 R1 => ?_
    have := hq γ' a' w' s1 R1
    rename_i ex'
    cases ex' with
    | normal => exact absurd rfl hne
    | exit id => exact this
    | ret => exact this
  | more hx r ih =>
    obtain ⟨m, hm⟩ := ih hs
    refine ⟨m + 1, fun γ a w hn g R hq => ?_⟩
    rw [roundsIn_succ]
    refine hx.ok so (fun id hid => hs id (r.lg.1.t id hid)) ro γ a w hn g R n _ fun γ' a' w' s1 R1 => ?_
    exact hm γ' a' w' (s1.sz.trans hn) s1.g R1 fun γ2 a2 w2 s2 R2 => hq γ2 a2 w2 (CSt.trans r.lg.1 s1 s2) R2
theorem XOk.loop {c : Code} (h : XRounds P nt c x ex Z) : XOk P nt (.loop c) x ex Z :=
  ⟨h.lg.1, h.lg.2.1, h.lg.2.2, fun so hs ro γ a w hn g R n Q hQ => by
    obtain ⟨m, hm⟩ := h.rounds so hs ro n Q
    exact wpIn_loop_rounds m (hm γ a w hn g R hQ)⟩
end

/-! ### calls -/
structure GH (γ : Gh) (w : World) : Prop where
  ob : ∀ id st, st < γ.cur id → (γ.β id st).1 < w.heap.size
  inj : ∀ id st id' st', st < γ.cur id → st' < γ.cur id' → (γ.β id st).1 = (γ.β id' st').1 → id = id' ∧ (γ.β id st).2 = (γ.β id' st').2
  im : ∀ b, γ.im b → (∃ vs e fr, w.heap[b]? = some (.cells vs e fr)) ∧ ∀ id st, st < γ.cur id → (γ.β id st).1 ≠ b
  gl : GLok γ w
theorem G.gh {ro : Option Nat} {γ : Gh} {a : Act} {w : World} (g : G ro γ a w) : GH γ w := ⟨g.ob, g.inj, g.im, g.gl⟩

structure CallOk (P : Program) (f : FuncId) (ds : List D) (ob : T C) (nx : Pos) (lg : Option (T Bool)) (v : D) (ob' : T C) (nx' : Pos) (lg' : Option (T Bool)) : Prop where
  hl : LgLe lg lg'
  hx : nx.nat ≤ nx'.nat
  hk : Keeps lg' ob ob'
  ok : ∀ so : Pos → Prop, (∀ id, tchd lg' id → so id) → ∀ (γ : Gh) (args : Array Value) (w : World), GH γ w → DVL γ w ds args.toList → (∀ id c, so id → ob.get id = some c → HoldsO P γ w id c) → (∀ id, so id → nx.nat ≤ id.nat → γ.cur id = 0) →
    (∀ w, (callFunc f args).run P w = .ok (.enter f args) w) ∧ ∀ (ro : Option Nat) (n : Nat) (R : Ending → World → Prop), (∀ γ' w' u, GH γ' w' → Fr (wrtn lg') γ γ' w w' → DV γ' w' v u → (∀ id c, so id → ob'.get id = some c → HoldsO P γ' w' id c) → (∀ id, so id → nx'.nat ≤ id.nat → γ'.cur id = 0) → R (.returned u) w') →
      CallsIn (FW ro) n P f args w R

def FPok (P : Program) (FP : T RF) : Prop := ∀ p rf, FP.get p = some rf → (rf.kn = none → compF P p.ix = some rf) ∧ ∀ v, rf.kn = some v → ∀ ob nx lg, CallOk P p.ix [] ob nx lg v ob nx lg

theorem argsK_ok {β : Type} : ∀ {ds : List D} {p : Pos} {t : T D} {k : T D → Option β} {z : β}, argsK ds p t k = some z → ∃ t', k t' = some z ∧ ∀ s d, t'.get s = some d → t.get s = some d ∨ ∃ i : Nat, s.nat = p.nat + i ∧ ds[i]? = some d
  | [], p, t, k, z, h => ⟨t, h, fun s d hd => .inl hd⟩
  | d :: ds, p, t, k, z, h => by
    have h : T.setK p d t (fun t => Pos.succK p fun p => argsK ds p t k) = some z := h
    rw [T.setK_eq, Pos.succK_eq] at h
    obtain ⟨t', h1, h2⟩ := argsK_ok h
    refine ⟨t', h1, fun s e hs => ?_⟩
    rcases h2 s e hs with h3 | ⟨i, h3, h4⟩
    · by_cases hsp : s = p
      · subst hsp
        rw [T.get_set_same] at h3
        cases h3
        exact .inr ⟨0, rfl, rfl⟩
      · rw [T.get_set_ne hsp] at h3
        exact .inl h3
    · rw [Pos.succ_nat] at h3
      exact .inr ⟨i + 1, by omega, by simpa using h4⟩

theorem run_callFunc {P : Program} {f : FuncId} {fn : Func} {c : Code} (hf : P.funcs[f]? = some fn) (hb : fn.body = some c) (hn : (fn.name == "runtime.NumGoroutine") = false) (args : Array Value) (w : World) : (callFunc f args).run P w = .ok (.enter f args) w := by
  simp [callFunc, Sem.run, hf, hb, hn]
  have : fn.name ≠ "runtime.NumGoroutine" := by simpa using hn
  simp [this]

/-- Results, read off the slots. -/
theorem results_ok {P : Program} : ∀ {rs : List ResultVar} {rr : List RR} {sl : T D} {ob : T C} {lg : Option (T Bool)} {k : List D → Option (T Bool) → Option X} {Z : X}, compR P rs = some rr → results rr sl ob lg k = some Z →
    ∃ ds lg', k ds lg' = some Z ∧ LgLe lg lg' ∧ ∀ {so : Pos → Prop} {γ : Gh} {tmps : Array Value} {w : World}, (∀ id, tchd lg' id → so id) → (∀ s d, sl.get s = some d → s.ix < tmps.size ∧ DV γ w d (tmps.getD s.ix undef)) → (∀ id c, so id → ob.get id = some c → HoldsO P γ w id c) →
      ∃ vs : List Value, (rs.mapM fun
        | .tmp t => pure (tmps.getD t undef)
        | .cell a t => do loadVar t (← asAddr (tmps.getD a undef)) : Sem (List Value)).run P w = .ok vs w ∧ DVL γ w ds vs
  | [], rr, sl, ob, lg, k, Z, hc, h => by
    cases hc
    exact ⟨[], lg, h, LgLe.refl _, fun _ _ _ => ⟨[], rfl, DVL.nil⟩⟩
  | .tmp t :: rs, rr, sl, ob, lg, k, Z, hc, h => by
    simp only [compR] at hc
    split at hc
    · rename_i p l hp hl
      cases hc
      have h : (match sl.get p with
        | some d => results l sl ob lg fun ds lg => k (d :: ds) lg
        | none => none) = some Z := h
      split at h
      · rename_i d hd
        obtain ⟨ds, lg', h1, h2, h3⟩ := results_ok hl h
        refine ⟨d :: ds, lg', h1, h2, fun hso hsl hob => ?_⟩
        obtain ⟨vs, h4, h5⟩ := h3 hso hsl hob
        have := (hsl p d hd).2
        rw [slot_ix hp] at this
        refine ⟨_ :: vs, ?_, DVL.cons this h5⟩
        rw [List.mapM_cons]
        simp only [Sem.run_bind, Sem.run_pure, Result.andThen_ok, h4]
      · cases h
    · cases hc
  | .cell a t :: rs, rr, sl, ob, lg, k, Z, hc, h => by
    simp only [compR] at hc
    split at hc
    · rename_i p n l hp ht hn hl
      cases hc
      have h : (match sl.get p with
        | some (.pt id off st) => match ob.get id with
          | some (.cells _ cs _) => readK st n (dropC off cs) fun es => results l sl ob lg fun ds lg => logR lg id fun lg => k (.ag es :: ds) lg
          | _ => none
        | _ => none) = some Z := h
      split at h
      · rename_i id off st hd
        split at h
        · rename_i q cs cur hob
          obtain ⟨es, h1, h2, h3⟩ := readK_ok h
          rw [dropC_eq] at h3
          obtain ⟨ds, lg1, h4, h5, h6⟩ := results_ok hl h1
          obtain ⟨lg2, h7, h8, h9⟩ := logR_ok h4
          refine ⟨.ag es :: ds, lg2, h7, h5.trans h8, fun {so γ tmps w} hso hsl hobs => ?_⟩
          obtain ⟨vs, g1, g2⟩ := h6 (fun id hid => hso id (h8.t id hid)) hsl hobs
          have hv := (hsl p _ hd).2
          rw [slot_ix hp] at hv
          obtain ⟨e1, e2, e3⟩ := DV_pt hv
          obtain ⟨us, q1, q2, q3, q4⟩ := cells_at (hobs id _ (hso id h9) hob) e1 e2 h2 h3
          refine ⟨.agg us.toArray :: vs, ?_, DVL.cons (by unfold DV; exact ⟨_, rfl, q3, q4⟩) g2⟩
          have ha : (asAddr (tmps.getD a undef)).run P w = .ok ⟨(γ.β id st).1, off - (γ.β id st).2, none⟩ w := by rw [e3]; rfl
          rw [List.mapM_cons]
          simp only [Sem.run_bind, ha, Sem.run_pure, Result.andThen_ok, run_loadVar_row' ht hn q2 q1, g1]
        · cases h
      · cases h
    · rename_i p n l hp ht hn hl
      cases hc
      have h : (match sl.get p with
        | some (.pt id off st) => match ob.get id with
          | some (.cells _ cs _) => match nthC cs off with
            | some c => cellK st c fun v => results l sl ob lg fun ds lg => logR lg id fun lg => k (v :: ds) lg
            | none => none
          | _ => none
        | _ => none) = some Z := h
      split at h
      · rename_i id off st hd
        split at h
        · rename_i q cs cur hob
          split at h
          · rename_i c hcc
            rw [nthC_eq] at hcc
            obtain ⟨h1, h2⟩ := cellK_ok h
            obtain ⟨ds, lg1, h4, h5, h6⟩ := results_ok hl h2
            obtain ⟨lg2, h7, h8, h9⟩ := logR_ok h4
            refine ⟨c.d :: ds, lg2, h7, h5.trans h8, fun {so γ tmps w} hso hsl hobs => ?_⟩
            obtain ⟨vs, g1, g2⟩ := h6 (fun id hid => hso id (h8.t id hid)) hsl hobs
            have hv := (hsl p _ hd).2
            rw [slot_ix hp] at hv
            obtain ⟨e1, e2, e3⟩ := DV_pt hv
            obtain ⟨u, q1, q2, q3⟩ := cell_at (hobs id _ (hso id h9) hob) e1 hcc h1 e2
            refine ⟨u :: vs, ?_, DVL.cons q2 g2⟩
            have ha : (asAddr (tmps.getD a undef)).run P w = .ok ⟨(γ.β id st).1, off - (γ.β id st).2, none⟩ w := by rw [e3]; rfl
            rw [List.mapM_cons]
            simp only [Sem.run_bind, ha, Sem.run_pure, Result.andThen_ok, run_loadVar_one ht q1, g1]
          · cases h
        · cases h
      · cases h
    · cases hc
end Go.Ev
