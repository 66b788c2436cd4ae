import Derived.Test.YtihlllachfonoaaGreatDoorEvS
import Derived.Scope
import Derived.LoopNIn
set_option linter.all false
namespace Go
theorem wpIn_scope_straight' {F : Fence} {n : Nat} {P : Program} {Q : Exit → Act → World → Prop} {a : Act} {w : World} {c : Code} (h : c.wpIn F n P (Exit.noGoto Q) a w) : (Code.scope c).wpIn F n P Q a w := by
  intro b k cs hro hb hr
  have h0 : (lone (b.atR a (.code (.scope c) :: k)) cs w).fenced P F := fenced_calm hb hr rfl
  have hs : step P (lone (b.atR a (.code (.scope c) :: k)) cs w) = .next (lone (b.atR a (.code c :: .inScope c :: k)) cs w) := step_lone_go (by simp [stepG, stepG.exec, Frame.atR])
  obtain ⟨e, a₁, w₁, hq, harr⟩ := h b (.inScope c :: k) cs hro hb hr
  cases e with
  | normal =>
    have he : step P (lone (b.atR a₁ (.inScope c :: k)) cs w₁) = .next (lone (b.atR a₁ k) cs w₁) := step_lone_go (by simp [stepG, stepG.exec, Frame.atR])
    exact ⟨.normal, a₁, w₁, hq, .head h0 hs (StepsIn.trans harr (.one (fenced_calm hb hr rfl) he))⟩
  | exit id =>
    have hx : exitTo id (.inScope c :: k) = exitTo id k := by simp [exitTo]
    exact ⟨.exit id, a₁, w₁, hq, fun k' hk => .head h0 hs (harr.1 k' (by rw [hx]; exact hk)), fun hr' hk => let ⟨k₁, h1, h2⟩ := harr.2 hr' (by rw [hx]; exact hk); ⟨k₁, h1, .head h0 hs h2⟩⟩
  | goto l => exact hq.elim
  | ret => exact ⟨_, a₁, w₁, hq, .of_steps (.one h0 hs) harr⟩
  | panic ch => exact ⟨_, a₁, w₁, hq, .of_steps (.one h0 hs) harr⟩
  | outgrown => exact ⟨_, a₁, w₁, hq, .of_steps (.one h0 hs) harr⟩
end Go
namespace Go.Ev
open Go.RowKit (Below)

def Ex.to : Ex → Exit
  | .normal => .normal
  | .ret => .ret
  | .exit id => .exit id

/-- What a run of code leaves. -/
structure CSt (ro : Option Nat) (lg : Option (T Bool)) (γ : Gh) (a : Act) (w : World) (γ' : Gh) (a' : Act) (w' : World) : Prop where
  g : G ro γ' a' w'
  fr : Fr (wrtn lg) γ γ' w w'
  sz : a'.tmps.size = a.tmps.size
  dn : ∀ r, mark r ∈ a'.defers → mark r ∈ a.defers ∨ w.heap.size ≤ r
theorem CSt.refl {ro : Option Nat} {lg : Option (T Bool)} {γ : Gh} {a : Act} {w : World} (g : G ro γ a w) : CSt ro lg γ a w γ a w := ⟨g, Fr.refl _ _ _, rfl, fun _ h => .inl h⟩
theorem CSt.trans {ro : Option Nat} {lg lg' : Option (T Bool)} {γ γ1 γ2 : Gh} {a a1 a2 : Act} {w w1 w2 : World} (hl : LgLe lg lg') (h : CSt ro lg γ a w γ1 a1 w1) (k : CSt ro lg' γ1 a1 w1 γ2 a2 w2) : CSt ro lg' γ a w γ2 a2 w2 :=
  ⟨k.g, (h.fr.mono hl.w).trans k.fr, k.sz.trans h.sz, fun r hr => by
    rcases k.dn r hr with h1 | h1
    · exact h.dn r h1
    · exact .inr (Nat.le_trans h.fr.size h1)⟩
theorem St.code {ro : Option Nat} {lg : Option (T Bool)} {dst : Option Tmp} {γ γ' : Gh} {a a' : Act} {w w' : World} (s : St ro lg dst γ a w γ' a' w') : CSt ro lg γ a w γ' a' w' :=
  ⟨s.g, s.fr, s.sz, fun r hr => .inl (by rw [← s.df]; exact hr)⟩

def allS (so : Pos → Prop) : Sel := ⟨fun _ => True, so⟩

/-- Code takes the state x to the state Z, by the exit ex. -/
structure XOk (P : Program) (nt : Nat) (c : Code) (x : X) (ex : Ex) (Z : X) : Prop where
  lg : LgLe x.lg Z.lg
  nx : x.nx.nat ≤ Z.nx.nat
  obf : Keeps Z.lg x.ob Z.ob
  ok : ∀ so : Pos → Prop, (∀ id, tchd Z.lg id → so id) → ∀ (ro : Option Nat) (γ : Gh) (a : Act) (w : World), a.tmps.size = nt → G ro γ a w → Rep P (allS so) γ a w x →
    ∀ (n : Nat) (Q : Exit → Act → World → Prop), (∀ γ' a' w', CSt ro Z.lg γ a w γ' a' w' → Rep P (allS so) γ' a' w' Z → Q ex.to a' w') → c.wpIn (FW ro) n P Q a w

section
variable {P : Program} {nt : Nat} {x y Z : X} {ex : Ex}
theorem XOk.here {c : Code} (h : ∀ {F : Fence} {n : Nat} {Q : Exit → Act → World → Prop} {a : Act} {w : World}, Q ex.to a w → c.wpIn F n P Q a w) : XOk P nt c x ex x :=
  ⟨LgLe.refl _, Nat.le_refl _, Keeps.refl _ _, fun _ _ _ _ _ _ _ g R _ _ hQ => h (hQ _ _ _ (CSt.refl g) R)⟩
theorem XOk.skip : XOk P nt .skip x .normal x := XOk.here wpIn_skip
theorem XOk.label {l : Nat} : XOk P nt (.label l) x .normal x := XOk.here wpIn_label
theorem XOk.exit {id : Nat} : XOk P nt (.exit id) x (.exit id) x := XOk.here wpIn_exit
theorem XOk.ret : XOk P nt .ret x .ret x := XOk.here wpIn_ret
theorem XOk.seq {a b : Code} (h1 : XOk P nt a x .normal y) (h2 : XOk P nt b y ex Z) : XOk P nt (.seq a b) x ex Z :=
  ⟨h1.lg.trans h2.lg, Nat.le_trans h1.nx h2.nx, h1.obf.trans h2.lg h2.obf, fun so hs ro γ a w hn g R n Q hQ => wpIn_seq (h1.ok so (fun id hid => hs id (h2.lg.t id hid)) ro γ a w hn g R n _ fun γ1 a1 w1 s1 R1 =>
    h2.ok so hs ro γ1 a1 w1 (s1.sz.trans hn) s1.g R1 n Q fun γ2 a2 w2 s2 R2 => hQ γ2 a2 w2 (CSt.trans h2.lg s1 s2) R2)⟩
theorem XOk.seqEnd {a b : Code} (h1 : XOk P nt a x ex Z) (hne : ex ≠ .normal) : XOk P nt (.seq a b) x ex Z :=
  ⟨h1.lg, h1.nx, h1.obf, fun so hs ro γ a w hn g R n Q hQ => wpIn_seq (h1.ok so hs ro γ a w hn g R n _ fun γ1 a1 w1 s1 R1 => by
    have := hQ γ1 a1 w1 s1 R1
    cases ex with
    | normal => exact absurd rfl hne
    | exit id => exact this
    | ret => exact this)⟩
theorem XOk.cond {c : Operand} {a b : Code} {r : RX} {t : Bool} (hc : rx c = some r) (hv : opd x.sl r = some (.b t)) (h : XOk P nt (bif t then a else b) x ex Z) : XOk P nt (.cond c a b) x ex Z :=
  ⟨h.lg, h.nx, h.obf, fun so hs ro γ a w hn g R n Q hQ => by
    have e := DV_b (opd_ok (sl := x.sl) (ob := x.ob) (nx := x.nx) (lg := x.lg) hc hv R fun _ _ => trivial)
    refine wpIn_cond e ?_
    have := h.ok so hs ro γ a w hn g R n Q hQ
    cases t <;> exact this⟩
theorem XOk.block {id : Nat} {c : Code} (h : XOk P nt c x (.exit id) Z) : XOk P nt (.block id c) x .normal Z :=
  ⟨h.lg, h.nx, h.obf, fun so hs ro γ a w hn g R n Q hQ => wpIn_block (h.ok so hs ro γ a w hn g R n _ fun γ1 a1 w1 s1 R1 => by
    simp only [Ex.to, Exit.inBlock, if_true]
    exact hQ γ1 a1 w1 s1 R1)⟩
theorem XOk.blockThrough {id : Nat} {c : Code} (h : XOk P nt c x ex Z) (hne : ex ≠ .exit id) : XOk P nt (.block id c) x ex Z :=
  ⟨h.lg, h.nx, h.obf, fun so hs ro γ a w hn g R n Q hQ => wpIn_block (h.ok so hs ro γ a w hn g R n _ fun γ1 a1 w1 s1 R1 => by
    have := hQ γ1 a1 w1 s1 R1
    cases ex with
    | normal => exact this
    | exit i =>
      have hi : ¬ i = id := fun e => hne (by rw [e])
      simp only [Ex.to, Exit.inBlock, hi, if_false]
      exact this
    | ret => exact this)⟩
theorem XOk.scope {c : Code} (h : XOk P nt c x ex Z) : XOk P nt (.scope c) x ex Z :=
  ⟨h.lg, h.nx, h.obf, fun so hs ro γ a w hn g R n Q hQ => wpIn_scope_straight' (h.ok so hs ro γ a w hn g R n _ fun γ1 a1 w1 s1 R1 => by
    have := hQ γ1 a1 w1 s1 R1
    cases ex <;> exact this)⟩

/-- The rounds of a loop. -/
inductive XRounds (P : Program) (nt : Nat) (c : Code) : X → Ex → X → Prop where
  | last {x Z : X} {ex : Ex} (h : XOk P nt c x ex Z) (hne : ex ≠ .normal) : XRounds P nt c x ex Z
  | more {x y Z : X} {ex : Ex} (h : XOk P nt c x .normal y) (r : XRounds P nt c y ex Z) : XRounds P nt c x ex Z
theorem XRounds.lg {c : Code} (h : XRounds P nt c x ex Z) : LgLe x.lg Z.lg ∧ x.nx.nat ≤ Z.nx.nat ∧ Keeps Z.lg x.ob Z.ob := by
  induction h with
  | last h _ => exact ⟨h.lg, h.nx, h.obf⟩
  | more h _ ih => exact ⟨h.lg.trans ih.1, Nat.le_trans h.nx ih.2.1, h.obf.trans ih.1 ih.2.2⟩
theorem XRounds.rounds {c : Code} (h : XRounds P nt c x ex Z) (so : Pos → Prop) (hs : ∀ id, tchd Z.lg id → so id) (ro : Option Nat) (n : Nat) (Q : Exit → Act → World → Prop) : ∃ m, ∀ γ a w, a.tmps.size = nt → G ro γ a w → Rep P (allS so) γ a w x →
    (∀ γ' a' w', CSt ro Z.lg γ a w γ' a' w' → Rep P (allS so) γ' a' w' Z → Q ex.to a' w') → Code.roundsIn (FW ro) n P c Q m a w := by
  induction h with
  | last hx hne =>
    refine ⟨1, fun γ a w hn g R hq => ?_⟩
    rw [roundsIn_succ]
    refine hx.ok so hs ro γ a w hn g R n _ fun γ' a' w' s1 R1 => ?_
    have := hq γ' a' w' s1 R1
    rename_i ex'
    cases ex' with
    | normal => exact absurd rfl hne
    | exit id => exact this
    | ret => exact this
  | more hx r ih =>
    obtain ⟨m, hm⟩ := ih hs
    refine ⟨m + 1, fun γ a w hn g R hq => ?_⟩
    rw [roundsIn_succ]
    refine hx.ok so (fun id hid => hs id (r.lg.1.t id hid)) ro γ a w hn g R n _ fun γ' a' w' s1 R1 => ?_
    exact hm γ' a' w' (s1.sz.trans hn) s1.g R1 fun γ2 a2 w2 s2 R2 => hq γ2 a2 w2 (CSt.trans r.lg.1 s1 s2) R2
theorem XOk.loop {c : Code} (h : XRounds P nt c x ex Z) : XOk P nt (.loop c) x ex Z :=
  ⟨h.lg.1, h.lg.2.1, h.lg.2.2, fun so hs ro γ a w hn g R n Q hQ => by
    obtain ⟨m, hm⟩ := h.rounds so hs ro n Q
    exact wpIn_loop_rounds m (hm γ a w hn g R hQ)⟩
end

/-! ### calls -/
structure GH (γ : Gh) (w : World) : Prop where
  ob : ∀ id st, st < γ.cur id → (γ.β id st).1 < w.heap.size
  inj : ∀ id st id' st', st < γ.cur id → st' < γ.cur id' → (γ.β id st).1 = (γ.β id' st').1 → id = id' ∧ (γ.β id st).2 = (γ.β id' st').2
  im : ∀ b, γ.im b → (∃ vs e fr, w.heap[b]? = some (.cells vs e fr)) ∧ ∀ id st, st < γ.cur id → (γ.β id st).1 ≠ b
  gl : GLok γ w
theorem G.gh {ro : Option Nat} {γ : Gh} {a : Act} {w : World} (g : G ro γ a w) : GH γ w := ⟨g.ob, g.inj, g.im, g.gl⟩

structure CallOk (P : Program) (f : FuncId) (ds : List D) (ob : T C) (nx : Pos) (lg : Option (T Bool)) (v : D) (ob' : T C) (nx' : Pos) (lg' : Option (T Bool)) : Prop where
  hl : LgLe lg lg'
  hx : nx.nat ≤ nx'.nat
  hk : Keeps lg' ob ob'
  ok : ∀ so : Pos → Prop, (∀ id, tchd lg' id → so id) → ∀ (γ : Gh) (args : Array Value) (w : World), GH γ w → DVL γ w ds args.toList → (∀ id c, so id → ob.get id = some c → HoldsO P γ w id c) → (∀ id, so id → nx.nat ≤ id.nat → γ.cur id = 0) →
    (∀ w, (callFunc f args).run P w = .ok (.enter f args) w) ∧ ∀ (ro : Option Nat) (n : Nat) (R : Ending → World → Prop), (∀ γ' w' u, GH γ' w' → Fr (wrtn lg') γ γ' w w' → DV γ' w' v u → (∀ id c, so id → ob'.get id = some c → HoldsO P γ' w' id c) → (∀ id, so id → nx'.nat ≤ id.nat → γ'.cur id = 0) → R (.returned u) w') →
      CallsIn (FW ro) n P f args w R

/-- A call that is known, for what its arguments read as. -/
def MemOk (P : Program) (f : FuncId) (es : List D) (v : D) : Prop := ∀ (ob1 : T C) (ds : List D) (ob : T C) (nx : Pos) (lg lg' : Option (T Bool)), mpO (fzD ob1 12) ds = some es → (∀ id c, ob1.get id = some c → ob.get id = some c) → LgLe lg lg' → (∀ id c, ob1.get id = some c → tchd lg' id) → CallOk P f ds ob nx lg v ob nx lg'
def EntOk (P : Program) (k : Nat) (rf : RF) : Prop := (rf.kn = none → compF P k = some ⟨rf.nt, rf.body, rf.res, none, []⟩) ∧ (∀ v, rf.kn = some v → ∀ ob nx lg, CallOk P k [] ob nx lg v ob nx lg) ∧ ∀ m ∈ rf.mem, MemOk P k m.1 m.2
def FPok (P : Program) (FP : T RF) : Prop := ∀ p rf, FP.get p = some rf → EntOk P p.ix rf

theorem argsK_ok {β : Type} : ∀ {ds : List D} {p : Pos} {t : T D} {k : T D → Option β} {z : β}, argsK ds p t k = some z → ∃ t', k t' = some z ∧ ∀ s d, t'.get s = some d → t.get s = some d ∨ ∃ i : Nat, s.nat = p.nat + i ∧ ds[i]? = some d
  | [], p, t, k, z, h => ⟨t, h, fun s d hd => .inl hd⟩
  | d :: ds, p, t, k, z, h => by
    have h : T.setK p d t (fun t => Pos.succK p fun p => argsK ds p t k) = some z := h
    rw [T.setK_eq, Pos.succK_eq] at h
    obtain ⟨t', h1, h2⟩ := argsK_ok h
    refine ⟨t', h1, fun s e hs => ?_⟩
    rcases h2 s e hs with h3 | ⟨i, h3, h4⟩
    · by_cases hsp : s = p
      · subst hsp
        rw [T.get_set_same] at h3
        cases h3
        exact .inr ⟨0, rfl, rfl⟩
      · rw [T.get_set_ne hsp] at h3
        exact .inl h3
    · rw [Pos.succ_nat] at h3
      exact .inr ⟨i + 1, by omega, by simpa using h4⟩

theorem run_callFunc {P : Program} {f : FuncId} {fn : Func} {c : Code} (hf : P.funcs[f]? = some fn) (hb : fn.body = some c) (hn : (fn.name == "runtime.NumGoroutine") = false) (args : Array Value) (w : World) : (callFunc f args).run P w = .ok (.enter f args) w := by
  simp [callFunc, Sem.run, hf, hb, hn]
  have : fn.name ≠ "runtime.NumGoroutine" := by simpa using hn
  simp [this]

/-- Results, read off the slots. -/
theorem results_ok {P : Program} : ∀ {rs : List ResultVar} {rr : List RR} {sl : T D} {ob : T C} {lg : Option (T Bool)} {k : List D → Option (T Bool) → Option X} {Z : X}, compR P rs = some rr → results rr sl ob lg k = some Z →
    ∃ ds lg', k ds lg' = some Z ∧ LgLe lg lg' ∧ ∀ {so : Pos → Prop} {γ : Gh} {tmps : Array Value} {w : World}, (∀ id, tchd lg' id → so id) → (∀ s d, sl.get s = some d → s.ix < tmps.size ∧ DV γ w d (tmps.getD s.ix undef)) → (∀ id c, so id → ob.get id = some c → HoldsO P γ w id c) →
      ∃ vs : List Value, (rs.mapM fun
        | .tmp t => pure (tmps.getD t undef)
        | .cell a t => do loadVar t (← asAddr (tmps.getD a undef)) : Sem (List Value)).run P w = .ok vs w ∧ DVL γ w ds vs
  | [], rr, sl, ob, lg, k, Z, hc, h => by
    cases hc
    exact ⟨[], lg, h, LgLe.refl _, fun _ _ _ => ⟨[], rfl, DVL.nil⟩⟩
  | .tmp t :: rs, rr, sl, ob, lg, k, Z, hc, h => by
    simp only [compR] at hc
    split at hc
    · rename_i p l hp hl
      cases hc
      have h : (match sl.get p with
        | some d => results l sl ob lg fun ds lg => k (d :: ds) lg
        | none => none) = some Z := h
      split at h
      · rename_i d hd
        obtain ⟨ds, lg', h1, h2, h3⟩ := results_ok hl h
        refine ⟨d :: ds, lg', h1, h2, fun hso hsl hob => ?_⟩
        obtain ⟨vs, h4, h5⟩ := h3 hso hsl hob
        have := (hsl p d hd).2
        rw [slot_ix hp] at this
        refine ⟨_ :: vs, ?_, DVL.cons this h5⟩
        rw [List.mapM_cons]
        simp only [Sem.run_bind, Sem.run_pure, Result.andThen_ok, h4]
      · cases h
    · cases hc
  | .cell a t :: rs, rr, sl, ob, lg, k, Z, hc, h => by
    simp only [compR] at hc
    split at hc
    · rename_i p n l hp ht hn hl
      cases hc
      have h : (match sl.get p with
        | some (.pt id off st) => match ob.get id with
          | some (.cells _ cs _) => readK st n (dropC off cs) fun es => results l sl ob lg fun ds lg => logR lg id fun lg => k (.ag es :: ds) lg
          | _ => none
        | _ => none) = some Z := h
      split at h
      · rename_i id off st hd
        split at h
        · rename_i q cs cur hob
          obtain ⟨es, h1, h2, h3⟩ := readK_ok h
          rw [dropC_eq] at h3
          obtain ⟨ds, lg1, h4, h5, h6⟩ := results_ok hl h1
          obtain ⟨lg2, h7, h8, h9⟩ := logR_ok h4
          refine ⟨.ag es :: ds, lg2, h7, h5.trans h8, fun {so γ tmps w} hso hsl hobs => ?_⟩
          obtain ⟨vs, g1, g2⟩ := h6 (fun id hid => hso id (h8.t id hid)) hsl hobs
          have hv := (hsl p _ hd).2
          rw [slot_ix hp] at hv
          obtain ⟨e1, e2, e3⟩ := DV_pt hv
          obtain ⟨us, q1, q2, q3, q4⟩ := cells_at (hobs id _ (hso id h9) hob) e1 e2 h2 h3
          refine ⟨.agg us.toArray :: vs, ?_, DVL.cons (by unfold DV; exact ⟨_, rfl, q3, q4⟩) g2⟩
          have ha : (asAddr (tmps.getD a undef)).run P w = .ok ⟨(γ.β id st).1, off - (γ.β id st).2, none⟩ w := by rw [e3]; rfl
          rw [List.mapM_cons]
          simp only [Sem.run_bind, ha, Sem.run_pure, Result.andThen_ok, run_loadVar_row' ht hn q2 q1, g1]
        · cases h
      · cases h
    · rename_i p n l hp ht hn hl
      cases hc
      have h : (match sl.get p with
        | some (.pt id off st) => match ob.get id with
          | some (.cells _ cs _) => match nthC cs off with
            | some c => cellK st c fun v => results l sl ob lg fun ds lg => logR lg id fun lg => k (v :: ds) lg
            | none => none
          | _ => none
        | _ => none) = some Z := h
      split at h
      · rename_i id off st hd
        split at h
        · rename_i q cs cur hob
          split at h
          · rename_i c hcc
            rw [nthC_eq] at hcc
            obtain ⟨h1, h2⟩ := cellK_ok h
            obtain ⟨ds, lg1, h4, h5, h6⟩ := results_ok hl h2
            obtain ⟨lg2, h7, h8, h9⟩ := logR_ok h4
            refine ⟨c.d :: ds, lg2, h7, h5.trans h8, fun {so γ tmps w} hso hsl hobs => ?_⟩
            obtain ⟨vs, g1, g2⟩ := h6 (fun id hid => hso id (h8.t id hid)) hsl hobs
            have hv := (hsl p _ hd).2
            rw [slot_ix hp] at hv
            obtain ⟨e1, e2, e3⟩ := DV_pt hv
            obtain ⟨u, q1, q2, q3⟩ := cell_at (hobs id _ (hso id h9) hob) e1 hcc h1 e2
            refine ⟨u :: vs, ?_, DVL.cons q2 g2⟩
            have ha : (asAddr (tmps.getD a undef)).run P w = .ok ⟨(γ.β id st).1, off - (γ.β id st).2, none⟩ w := by rw [e3]; rfl
            rw [List.mapM_cons]
            simp only [Sem.run_bind, ha, Sem.run_pure, Result.andThen_ok, run_loadVar_one ht q1, g1]
          · cases h
        · cases h
      · cases h
    · cases hc
end Go.Ev

namespace Go.Ev
open Go.RowKit (Below)

/-- The marks are met, one after the other: each block is shut. -/
theorem leaveM {F : Fence} {n : Nat} {P : Program} {fn : Func} {tmps : Array Value} {R : Ending → World → Prop} : ∀ (ms : List Nat) (w : World), ms.Nodup → (∀ r, r ∈ ms → w.heap[r]? = some (.deferred (some []))) →
    (∀ w2 : World, (∀ b, b ∉ ms → w2.heap[b]? = w.heap[b]?) → w2.heap.size = w.heap.size → (w2.os = w.os ∧ w2.tape = w.tape ∧ w2.output = w.output ∧ ∀ a : Addr, w2.frozen? a = w.frozen? a) → LeavesInM F n P fn tmps R [] .returning w2) → LeavesInM F n P fn tmps R (ms.map mark) .returning w
  | [], w, _, _, h => h w (fun _ _ => rfl) rfl ⟨rfl, rfl, rfl, fun _ => rfl⟩
  | r :: ms, w, hn, hm, h => by
    have hr := hm r (by simp)
    rw [List.nodup_cons] at hn
    refine ⟨by simp, .inl ⟨r, w.putObj r (.deferred none), rfl, run_takeDeferred hr, ?_⟩⟩
    refine leaveM ms _ hn.2 (fun q hq => ?_) fun w2 h1 h2 h3 => ?_
    · rw [World.putObj_heap_other (show q ≠ r from fun e => hn.1 (e ▸ hq))]
      exact hm q (by simp [hq])
    · refine h w2 (fun b hb => ?_) (by rw [h2]; simp [World.putObj]) ⟨h3.1, h3.2.1, h3.2.2.1, fun a => (h3.2.2.2 a).trans (frozen_put w r _ (fun _ _ _ h => by cases h) (fun _ _ _ h => by rw [hr] at h; cases h) a)⟩
      simp only [List.mem_cons, not_or] at hb
      rw [h1 b hb.2, World.putObj_heap_other hb.1]

theorem results_run {P : Program} {fn : Func} {tmps : Array Value} {w : World} {vs : List Value} (h : (fn.results.toList.mapM fun
        | .tmp t => pure (tmps.getD t undef)
        | .cell a t => do loadVar t (← asAddr (tmps.getD a undef)) : Sem (List Value)).run P w = .ok vs w) : (_root_.Go.results fn tmps).run P w = .ok (if h : vs.length = 1 then vs[0] else .tuple vs.toArray) w := by
  unfold _root_.Go.results
  rw [Sem.run_bind, Array.mapM_eq_mapM_toList]
  simp only [Sem.run_map]
  erw [h]
  simp only [Result.andThen_ok, Sem.run_pure]
  congr 1
theorem DV_one {γ : Gh} {w : World} {ds : List D} {vs : List Value} (h : DVL γ w ds vs) : DV γ w (one ds) (if h : vs.length = 1 then vs[0] else .tuple vs.toArray) := by
  obtain ⟨h1, h2⟩ := DVL_iff.1 h
  unfold one
  split
  · rename_i d
    have h3 : vs.length = 1 := by rw [← h1]; rfl
    rw [dif_pos h3]
    exact h2 0 d _ rfl (List.getElem?_eq_getElem (by omega))
  · rename_i hne
    have h3 : vs.length ≠ 1 := by
      intro h3
      rw [← h1] at h3
      obtain ⟨d, hd⟩ := List.length_eq_one_iff.1 h3
      exact hne d hd
    rw [dif_neg h3]
    unfold DV
    exact ⟨_, rfl, h⟩

theorem compF_ok {P : Program} {f : Nat} {rf : RF} (h : compF P f = some rf) : ∃ fn c rs, P.funcs[f]? = some fn ∧ fn.body = some c ∧ compR P fn.results.toList = some rs ∧ (fn.name == "runtime.NumGoroutine") = false ∧ rf = ⟨fn.ntmps, comp P fn.ntmps c, rs, none, []⟩ := by
  unfold compF at h
  split at h
  · rename_i fn hf
    split at h
    · rename_i c rs hb hr
      cases hn : (fn.name == "runtime.NumGoroutine") with
      | true => rw [hn] at h; cases h
      | false =>
        rw [hn] at h
        cases h
        exact ⟨fn, c, rs, hf, hb, hr, hn, rfl⟩
    · cases h
  · cases h

theorem callsIn_ro {ro : Option Nat} {n : Nat} {P : Program} {f : FuncId} {args : Array Value} {w : World} {R : Ending → World → Prop} (h : CallsIn (FW none) n P f args w R) : CallsIn (FW ro) n P f args w R := h

/-- A mark in a list of marks. -/
theorem mark_mem {r : Nat} {ms : List Nat} : mark r ∈ ms.map mark ↔ r ∈ ms := by
  constructor
  · intro h
    obtain ⟨q, h1, h2⟩ := List.mem_map.1 h
    have : q = r := by
      unfold mark at h2
      cases h2; rfl
    exact this ▸ h1
  · exact fun h => List.mem_map.2 ⟨r, h, rfl⟩

section
variable {P : Program} {FP : T RF} {ex : RC → X → Option (Ex × X)}

/-- A call, off a run of its body. -/
theorem body_ok {f : Nat} {fn : Func} {c : Code} {rs : List RR} {ds : List D} {sl : T D} {ob : T C} {nx : Pos} {lg : Option (T Bool)} {k : D → T C → Pos → Option (T Bool) → Option X} {Z : X} (hf : P.funcs[f]? = some fn) (hb : fn.body = some c) (hr : compR P fn.results.toList = some rs) (hname : (fn.name == "runtime.NumGoroutine") = false)
    (hlen : ds.length ≤ fn.ntmps) (hsl : ∀ s d, sl.get s = some d → (T.e : T D).get s = some d ∨ ∃ i : Nat, s.nat = Pos.h.nat + i ∧ ds[i]? = some d) {e : Ex} {sl' : T D} {ob1 : T C} {nx1 : Pos} {lg1 : Option (T Bool)} (he : e = .normal ∨ e = .ret)
    (X1 : XOk P fn.ntmps c ⟨sl, ob, nx, lg⟩ e ⟨sl', ob1, nx1, lg1⟩) (hres : results rs sl' ob1 lg1 (fun ds lg => k (one ds) ob1 nx1 lg) = some Z) :
    ∃ v ob' nx' lg', k v ob' nx' lg' = some Z ∧ CallOk P f ds ob nx lg v ob' nx' lg' := by
  obtain ⟨rds, lg2, h2, h3, h4⟩ := results_ok hr hres
  refine ⟨one rds, ob1, nx1, lg2, h2, X1.lg.trans h3, X1.nx, (fun id hn => X1.obf id fun hw => hn (h3.w id hw)), fun so hso γ args w gh hargs hob hnx => ⟨run_callFunc hf hb hname args, fun ro n R hR => callsIn_ro ?_⟩⟩
  have hasz : args.size = ds.length := by have := (DVL_iff.1 hargs).1; simpa using this.symm
  have hsz : (args ++ Array.replicate (fn.ntmps - args.size) undef).size = fn.ntmps := by simp; omega
  have g0 : G none γ { tmps := args ++ Array.replicate (fn.ntmps - args.size) undef, defers := [] } w := ⟨gh.ob, gh.inj, ⟨[], rfl, List.nodup_nil, fun r hr => by cases hr⟩, (fun l hl => by cases hl), gh.im, gh.gl⟩
  refine callsIn_of_wp_marks hf hb trivial (X1.ok so (fun id hid => hso id (h3.t id hid)) none γ _ w hsz g0 ⟨fun s d _ hd => ?_, hob, hnx, gh.gl⟩ n _ fun γ' a' w' cst rep => ?_) rfl
  · rcases hsl s d hd with h5 | ⟨i, h5, h6⟩
    · rw [T.get_e] at h5; cases h5
    · have hi : i < args.size := by have := (List.getElem?_eq_some_iff.1 h6).1; omega
      have hix : s.ix = i := by
        unfold Pos.ix
        rw [h5]
        show 1 + i - 1 = i
        omega
      rw [hix]
      refine ⟨by rw [hsz]; omega, ?_⟩
      have hav : (args ++ Array.replicate (fn.ntmps - args.size) undef).getD i undef = args[i] := by
        simp [Array.getD, hi, Array.getElem_append_left]
        omega
      show DV γ w d ((args ++ Array.replicate (fn.ntmps - args.size) undef).getD i undef)
      rw [hav]
      exact (DVL_iff.1 hargs).2 i d _ h6 (by simp [hi])
  · have fin : LeavesInM (FW none) n P fn a'.tmps R a'.defers .returning w' := by
      obtain ⟨ms, d1, d2, d3⟩ := cst.g.df
      rw [d1]
      refine leaveM ms w' d2 (fun r hr => (d3 r hr).1) fun w2 e1 e2 e3 => ?_
      have hnew : ∀ r, r ∈ ms → w.heap.size ≤ r := by
        intro r hr
        rcases cst.dn r (by rw [d1]; exact mark_mem.2 hr) with h5 | h5
        · cases h5
        · exact h5
      have hown : ∀ id st, st < γ'.cur id → (γ'.β id st).1 ∉ ms := fun id st hst hm => (d3 _ hm).2 id st hst rfl
      have U : Up γ' γ' w' w2 := ⟨fun _ => Nat.le_refl _, fun _ _ _ => rfl, fun b x hx => by
        have hb : b ∉ ms := by
          intro hm
          have := (d3 b hm).1
          unfold World.shape? at hx
          rw [this] at hx
          cases hx
        rw [shape_same (e1 b hb)]; exact hx, fun b hb => ⟨hb, fun o ho => by
        rw [e1 b (fun hm => ?_)]; exact ho
        obtain ⟨⟨vs, e, fr, k1⟩, _⟩ := cst.g.im b hb
        have := (d3 b hm).1
        rw [k1] at this
        cases this⟩⟩
      have hold : ∀ id c, so id → ob1.get id = some c → HoldsO P γ' w2 id c := fun id c hid hc => HoldsO.mono U rfl (fun st hst => e1 _ (hown id st hst)) (rep.ob id c hid hc)
      have hsl2 : ∀ s d, sl'.get s = some d → s.ix < a'.tmps.size ∧ DV γ' w2 d (a'.tmps.getD s.ix undef) := fun s d hd => ⟨(rep.sl s d trivial hd).1, DV.mono U _ _ (rep.sl s d trivial hd).2⟩
      obtain ⟨vs, q1, q2⟩ := h4 hso hsl2 hold
      refine ⟨_, results_run q1, hR γ' w2 _ ⟨fun id st hst => by rw [e2]; exact cst.g.ob id st hst, cst.g.inj, fun b hb => ⟨let ⟨⟨vs, e, fr, k1⟩, _⟩ := cst.g.im b hb; ⟨vs, e, fr, (U.im b hb).2 _ k1⟩, (cst.g.im b hb).2⟩, cst.g.gl.up U⟩ ?_ (DV_one q2) hold rep.nx⟩
      have F := cst.fr.mono h3.w
      exact ⟨F.up.trans U, F.cur, fun b hb hn => by
          rw [e1 b (fun hm => by have := hnew b hm; omega)]
          exact F.blk b hb hn, F.new, F.imn, fun b r hr => by
          obtain ⟨r', hr'⟩ := F.lp b r hr
          refine ⟨r', ?_⟩
          rw [e1 b (fun hm => by have := (d3 b hm).1; rw [hr'] at this; cases this)]
          exact hr', by rw [e2]; exact F.size, e3.1.trans F.os, e3.2.1.trans F.tape, e3.2.2.1.trans F.output, fun a => (e3.2.2.2 a).trans (F.fz a)⟩
    rcases he with rfl | rfl <;> exact fin

theorem maskP_get : ∀ {l : List Pos} {p : Pos} {u : Unit}, (maskP l).get p = some u → p ∈ l
  | [], p, u, h => by
    have h : (T.e : T Unit).get p = some u := h
    rw [T.get_e] at h; cases h
  | q :: l, p, u, h => by
    have h : (T.set q () (maskP l)).get p = some u := h
    by_cases e : p = q
    · subst e; exact List.mem_cons_self ..
    · rw [T.get_set_ne e] at h
      exact List.mem_cons_of_mem _ (maskP_get h)
theorem restr_mask {α : Type} : ∀ (m : T Unit) (t : T α) (p : Pos) {x : α}, (restr m t).get p = some x → ∃ u, m.get p = some u
  | .e, t, p, x, h => by
    have h : (T.e : T α).get p = some x := h
    rw [T.get_e] at h; cases h
  | .n _ _ _, .e, p, x, h => by
    have h : (T.e : T α).get p = some x := h
    rw [T.get_e] at h; cases h
  | .n l v r, .n l' v' r', p, x, h => by
    cases p with
    | h =>
      have h : (Option.casesOn v none fun _ => v' : Option α) = some x := h
      cases v with
      | none => cases h
      | some u => exact ⟨u, rfl⟩
    | o p => exact restr_mask l l' p h
    | i p => exact restr_mask r r' p h
theorem alq_eq {α : Type} {f : α → α → Bool} (hf : ∀ a b, f a b = true → a = b) : ∀ {x y : List α}, alq f x y = true → x = y
  | [], [], _ => rfl
  | [], _ :: _, h => by cases h
  | _ :: _, [], h => by cases h
  | a :: l, b :: m, h => by
    have h : (f a b && alq f l m) = true := h
    rw [Bool.and_eq_true] at h
    rw [hf a b h.1, alq_eq hf h.2]
theorem sameI_eq : ∀ {m n : Int}, sameI m n = true → m = n
  | .ofNat m, .ofNat n, h => by rw [Nat.eq_of_beq_eq_true h]
  | .ofNat m, .negSucc n, h => by cases h
  | .negSucc m, .ofNat n, h => by cases h
  | .negSucc m, .negSucc n, h => by rw [Nat.eq_of_beq_eq_true h]
theorem ikN_eq {k l : IntKind} (h : Nat.beq (ikN k) (ikN l) = true) : k = l := by
  cases k <;> cases l <;> first | rfl | cases h
theorem sameD_eq : ∀ {n : Nat} {a b : D}, sameD n a b = true → a = b
  | 0, _, _, h => by cases h
  | n + 1, a, b, h => by
    have ih : ∀ a b, sameD n a b = true → a = b := fun a b => sameD_eq
    unfold sameD at h
    cases a <;> cases b <;> first | rfl | (cases h; done) | skip
    · rw [eq_of_beq h]
    · simp only [Bool.and_eq_true] at h
      rw [ikN_eq h.1, sameI_eq h.2]
    · rw [alq_eq ih h]
    · rw [alq_eq ih h]
    · simp only [Bool.and_eq_true] at h
      rw [Nat.eq_of_beq_eq_true h.1, alq_eq (fun _ _ => alq_eq ih) h.2]
theorem fdM_ok {ds : List D} {v : D} : ∀ {l : List (List D × D)}, fdM ds l = some v → (ds, v) ∈ l
  | [], h => by cases h
  | m :: l, h => by
    unfold fdM at h
    cases hm : alq (sameD 12) ds m.1 with
    | true =>
      rw [hm] at h
      cases h
      rw [alq_eq (fun _ _ => sameD_eq) hm]
      exact List.mem_cons_self ..
    | false =>
      rw [hm] at h
      exact List.mem_cons_of_mem _ (fdM_ok h)
theorem logAll_ok : ∀ {ids : List Pos} {lg : Option (T Bool)} {k : Option (T Bool) → Option X} {Z : X}, logAll ids lg k = some Z → ∃ lg', k lg' = some Z ∧ LgLe lg lg' ∧ ∀ id ∈ ids, tchd lg' id
  | [], lg, k, Z, h => ⟨lg, h, LgLe.refl _, fun id hid => by cases hid⟩
  | p :: l, lg, k, Z, h => by
    obtain ⟨lg1, h1, h2, h3⟩ := logR_ok (show logR lg p (fun lg => logAll l lg k) = some Z from h)
    obtain ⟨lg2, h4, h5, h6⟩ := logAll_ok h1
    refine ⟨lg2, h4, h2.trans h5, fun id hid => ?_⟩
    rcases List.mem_cons.1 hid with e | hid
    · rw [e]; exact h5.t _ h3
    · exact h6 id hid
theorem memK_ok {mem : List (List D × D)} {ob : T C} {args : List D} {v : D} {ids : List Pos} (h : memK mem ob args = some (v, ids)) : ∃ ds, mpO (fzD (restr (maskP ids) ob) 12) args = some ds ∧ (ds, v) ∈ mem := by
  unfold memK at h
  split at h
  · cases h
  · split at h
    · rename_i ds hds
      split at h
      · rename_i v' hv
        cases h
        exact ⟨ds, hds, fdM_ok hv⟩
      · cases h
    · cases h
theorem callF_ok (hFP : FPok P FP) (IH : ∀ nt c x e Z, ex (comp P nt c) x = some (e, Z) → XOk P nt c x e Z) {f : Pos} {ds : List D} {ob : T C} {nx : Pos} {lg : Option (T Bool)} {k : D → T C → Pos → Option (T Bool) → Option X} {Z : X} (h : callF FP ex f ds ob nx lg k = some Z) :
    ∃ v ob' nx' lg', k v ob' nx' lg' = some Z ∧ CallOk P f.ix ds ob nx lg v ob' nx' lg' := by
  unfold callF at h
  split at h
  · rename_i rf hrf
    split at h
    · rename_i v hkn
      split at h
      · exact ⟨v, ob, nx, lg, h, (hFP f rf hrf).2.1 v hkn ob nx lg⟩
      · cases h
    rename_i hkn
    split at h
    · rename_i v ids hmem
      obtain ⟨es, h1, h2⟩ := memK_ok hmem
      obtain ⟨lg', h3, h4, h5⟩ := logAll_ok h
      refine ⟨v, ob, nx, lg', h3, (hFP f rf hrf).2.2 _ h2 (restr (maskP ids) ob) ds ob nx lg lg' h1 (fun id c hc => restr_get _ _ _ hc) h4 fun id c hc => ?_⟩
      obtain ⟨u, hu⟩ := restr_mask _ _ _ hc
      exact h5 id (maskP_get hu)
    obtain ⟨fn, c, rs, hf, hb, hr, hname, hrfe⟩ := compF_ok ((hFP f rf hrf).1 hkn)
    obtain ⟨rfnt, rfbody, rfres, rfkn, rfmem⟩ := rf
    cases hrfe
    cases hle : Nat.ble (List.length ds) fn.ntmps with
    | false => rw [hle] at h; cases h
    | true =>
      rw [hle] at h
      simp only [cond_true] at h
      have hlen := Nat.le_of_ble_eq_true hle
      obtain ⟨sl, h1, hsl⟩ := argsK_ok h
      have main : ∀ e sl' ob1 nx1 lg1, (e = .normal ∨ e = .ret) → ex (comp P fn.ntmps c) ⟨sl, ob, nx, lg⟩ = some (e, ⟨sl', ob1, nx1, lg1⟩) → results rfres sl' ob1 lg1 (fun ds lg => k (one ds) ob1 nx1 lg) = some Z →
          ∃ v ob' nx' lg', k v ob' nx' lg' = some Z ∧ CallOk P f.ix ds ob nx lg v ob' nx' lg' := by
        exact fun e sl' ob1 nx1 lg1 he hex hres => body_ok hf hb hr hname hlen hsl he (IH _ _ _ _ _ hex) hres
      split at h1
      · rename_i sl' ob1 nx1 lg1 hex
        exact main .normal sl' ob1 nx1 lg1 (.inl rfl) hex h1
      · rename_i sl' ob1 nx1 lg1 hex
        exact main .ret sl' ob1 nx1 lg1 (.inr rfl) hex h1
      · cases h1
  · cases h
end
end Go.Ev
