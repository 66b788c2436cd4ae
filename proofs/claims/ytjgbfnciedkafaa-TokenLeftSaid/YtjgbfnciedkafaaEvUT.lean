import Derived.Test.YtjgbfnciedkafaaEvUP
import Derived.Scope
import Derived.LoopNIn
set_option linter.all false
namespace Go
theorem wpIn_scope_straight' {F : Fence} {n : Nat} {P : Program} {Q : Exit → Act → World → Prop} {a : Act} {w : World} {c : Code} (h : c.wpIn F n P (Exit.noGoto Q) a w) : (Code.scope c).wpIn F n P Q a w := by
  intro b k cs hro hb hr
  have h0 : (lone (b.atR a (.code (.scope c) :: k)) cs w).fenced P F := fenced_calm hb hr rfl
  have hs : step P (lone (b.atR a (.code (.scope c) :: k)) cs w) = .next (lone (b.atR a (.code c :: .inScope c :: k)) cs w) := step_lone_go (by simp [stepG, stepG.exec, Frame.atR])
  obtain ⟨e, a₁, w₁, hq, harr⟩ := h b (.inScope c :: k) cs hro hb hr
  cases e with
  | normal =>
    have he : step P (lone (b.atR a₁ (.inScope c :: k)) cs w₁) = .next (lone (b.atR a₁ k) cs w₁) := step_lone_go (by simp [stepG, stepG.exec, Frame.atR])
    exact ⟨.normal, a₁, w₁, hq, .head h0 hs (StepsIn.trans harr (.one (fenced_calm hb hr rfl) he))⟩
  | exit id =>
    have hx : exitTo id (.inScope c :: k) = exitTo id k := by simp [exitTo]
    exact ⟨.exit id, a₁, w₁, hq, fun k' hk => .head h0 hs (harr.1 k' (by rw [hx]; exact hk)), fun hr' hk => let ⟨k₁, h1, h2⟩ := harr.2 hr' (by rw [hx]; exact hk); ⟨k₁, h1, .head h0 hs h2⟩⟩
  | goto l => exact hq.elim
  | ret => exact ⟨_, a₁, w₁, hq, .of_steps (.one h0 hs) harr⟩
  | panic ch => exact ⟨_, a₁, w₁, hq, .of_steps (.one h0 hs) harr⟩
  | outgrown => exact ⟨_, a₁, w₁, hq, .of_steps (.one h0 hs) harr⟩
end Go
namespace Go.Ev
open Go.RowKit (Below)
def Ex.to : Ex → Exit
  | .normal => .normal
  | .ret => .ret
  | .exit id => .exit id
structure CSt (ro : Option Nat) (lg : Option (T Bool)) (γ : Gh) (a : Act) (w : World) (γ' : Gh) (a' : Act) (w' : World) : Prop where
  g : G ro γ' a' w'
  fr : Fr (wrtn lg) γ γ' w w'
  sz : a'.tmps.size = a.tmps.size
  dn : ∀ r, mark r ∈ a'.defers → mark r ∈ a.defers ∨ w.heap.size ≤ r
theorem CSt.refl {ro : Option Nat} {lg : Option (T Bool)} {γ : Gh} {a : Act} {w : World} (g : G ro γ a w) : CSt ro lg γ a w γ a w := ⟨g, Fr.refl _ _ _, rfl, fun _ h => .inl h⟩
theorem CSt.trans {ro : Option Nat} {lg lg' : Option (T Bool)} {γ γ1 γ2 : Gh} {a a1 a2 : Act} {w w1 w2 : World} (hl : LgLe lg lg') (h : CSt ro lg γ a w γ1 a1 w1) (k : CSt ro lg' γ1 a1 w1 γ2 a2 w2) : CSt ro lg' γ a w γ2 a2 w2 :=
  ⟨k.g, (h.fr.mono hl.w).trans k.fr, k.sz.trans h.sz, fun r hr => by
    rcases k.dn r hr with h1 | h1
    · exact h.dn r h1
    · exact .inr (Nat.le_trans h.fr.size h1)⟩
theorem St.code {ro : Option Nat} {lg : Option (T Bool)} {dst : Option Tmp} {γ γ' : Gh} {a a' : Act} {w w' : World} (s : St ro lg dst γ a w γ' a' w') : CSt ro lg γ a w γ' a' w' :=
  ⟨s.g, s.fr, s.sz, fun r hr => .inl (by rw [← s.df]; exact hr)⟩
def allS (so : Pos → Prop) : Sel := ⟨fun _ => True, so⟩
structure XOk (P : Program) (nt : Nat) (c : Code) (x : X) (ex : Ex) (Z : X) : Prop where
  lg : LgLe x.lg Z.lg
  nx : x.nx.nat ≤ Z.nx.nat
  obf : Keeps Z.lg x.ob Z.ob
  ok : ∀ so : Pos → Prop, (∀ id, tchd Z.lg id → so id) → ∀ (ro : Option Nat) (γ : Gh) (a : Act) (w : World), a.tmps.size = nt → G ro γ a w → Rep P (allS so) γ a w x →
    ∀ (n : Nat) (Q : Exit → Act → World → Prop), (∀ γ' a' w', CSt ro Z.lg γ a w γ' a' w' → Rep P (allS so) γ' a' w' Z → Q ex.to a' w') → c.wpIn (FW ro) n P Q a w
section
variable {P : Program} {nt : Nat} {x y Z : X} {ex : Ex}
theorem XOk.here {c : Code} (h : ∀ {F : Fence} {n : Nat} {Q : Exit → Act → World → Prop} {a : Act} {w : World}, Q ex.to a w → c.wpIn F n P Q a w) : XOk P nt c x ex x :=
  ⟨LgLe.refl _, Nat.le_refl _, Keeps.refl _ _, fun _ _ _ _ _ _ _ g R _ _ hQ => h (hQ _ _ _ (CSt.refl g) R)⟩
theorem XOk.skip : XOk P nt .skip x .normal x := XOk.here wpIn_skip
theorem XOk.label {l : Nat} : XOk P nt (.label l) x .normal x := XOk.here wpIn_label
theorem XOk.exit {id : Nat} : XOk P nt (.exit id) x (.exit id) x := XOk.here wpIn_exit
theorem XOk.ret : XOk P nt .ret x .ret x := XOk.here wpIn_ret
theorem XOk.seq {a b : Code} (h1 : XOk P nt a x .normal y) (h2 : XOk P nt b y ex Z) : XOk P nt (.seq a b) x ex Z :=
  ⟨h1.lg.trans h2.lg, Nat.le_trans h1.nx h2.nx, h1.obf.trans h2.lg h2.obf, fun so hs ro γ a w hn g R n Q hQ => wpIn_seq (h1.ok so (fun id hid => hs id (h2.lg.t id hid)) ro γ a w hn g R n _ fun γ1 a1 w1 s1 R1 =>
    h2.ok so hs ro γ1 a1 w1 (s1.sz.trans hn) s1.g R1 n Q fun γ2 a2 w2 s2 R2 => hQ γ2 a2 w2 (CSt.trans h2.lg s1 s2) R2)⟩
theorem XOk.seqEnd {a b : Code} (h1 : XOk P nt a x ex Z) (hne : ex ≠ .normal) : XOk P nt (.seq a b) x ex Z :=
  ⟨h1.lg, h1.nx, h1.obf, fun so hs ro γ a w hn g R n Q hQ => wpIn_seq (h1.ok so hs ro γ a w hn g R n _ fun γ1 a1 w1 s1 R1 => by
    have := hQ γ1 a1 w1 s1 R1
    cases ex with
    | normal => exact absurd rfl hne
    | exit id => exact this
    | ret => exact this)⟩
theorem XOk.cond {c : Operand} {a b : Code} {r : RX} {t : Bool} (hc : rx c = some r) (hv : opd x.sl r = some (.b t)) (h : XOk P nt (bif t then a else b) x ex Z) : XOk P nt (.cond c a b) x ex Z :=
  ⟨h.lg, h.nx, h.obf, fun so hs ro γ a w hn g R n Q hQ => by
    have e := DV_b (opd_ok (sl := x.sl) (ob := x.ob) (nx := x.nx) (lg := x.lg) hc hv R fun _ _ => trivial)
    refine wpIn_cond e ?_
    have := h.ok so hs ro γ a w hn g R n Q hQ
    cases t <;> exact this⟩
theorem XOk.block {id : Nat} {c : Code} (h : XOk P nt c x (.exit id) Z) : XOk P nt (.block id c) x .normal Z :=
  ⟨h.lg, h.nx, h.obf, fun so hs ro γ a w hn g R n Q hQ => wpIn_block (h.ok so hs ro γ a w hn g R n _ fun γ1 a1 w1 s1 R1 => by
    simp only [Ex.to, Exit.inBlock, if_true]
    exact hQ γ1 a1 w1 s1 R1)⟩
theorem XOk.blockThrough {id : Nat} {c : Code} (h : XOk P nt c x ex Z) (hne : ex ≠ .exit id) : XOk P nt (.block id c) x ex Z :=
  ⟨h.lg, h.nx, h.obf, fun so hs ro γ a w hn g R n Q hQ => wpIn_block (h.ok so hs ro γ a w hn g R n _ fun γ1 a1 w1 s1 R1 => by
    have := hQ γ1 a1 w1 s1 R1
    cases ex with
    | normal => exact this
    | exit i =>
      have hi : ¬ i = id := fun e => hne (by rw [e])
      simp only [Ex.to, Exit.inBlock, hi, if_false]
      exact this
    | ret => exact this)⟩
theorem XOk.scope {c : Code} (h : XOk P nt c x ex Z) : XOk P nt (.scope c) x ex Z :=
  ⟨h.lg, h.nx, h.obf, fun so hs ro γ a w hn g R n Q hQ => wpIn_scope_straight' (h.ok so hs ro γ a w hn g R n _ fun γ1 a1 w1 s1 R1 => by
    have := hQ γ1 a1 w1 s1 R1
    cases ex <;> exact this)⟩
inductive XRounds (P : Program) (nt : Nat) (c : Code) : X → Ex → X → Prop where
  | last {x Z : X} {ex : Ex} (h : XOk P nt c x ex Z) (hne : ex ≠ .normal) : XRounds P nt c x ex Z
  | more {x y Z : X} {ex : Ex} (h : XOk P nt c x .normal y) (r : XRounds P nt c y ex Z) : XRounds P nt c x ex Z
theorem XRounds.lg {c : Code} (h : XRounds P nt c x ex Z) : LgLe x.lg Z.lg ∧ x.nx.nat ≤ Z.nx.nat ∧ Keeps Z.lg x.ob Z.ob := by
  induction h with
  | last h _ => exact ⟨h.lg, h.nx, h.obf⟩
  | more h _ ih => exact ⟨h.lg.trans ih.1, Nat.le_trans h.nx ih.2.1, h.obf.trans ih.1 ih.2.2⟩
theorem XRounds.rounds {c : Code} (h : XRounds P nt c x ex Z) (so : Pos → Prop) (hs : ∀ id, tchd Z.lg id → so id) (ro : Option Nat) (n : Nat) (Q : Exit → Act → World → Prop) : ∃ m, ∀ γ a w, a.tmps.size = nt → G ro γ a w → Rep P (allS so) γ a w x →
    (∀ γ' a' w', CSt ro Z.lg γ a w γ' a' w' → Rep P (allS so) γ' a' w' Z → Q ex.to a' w') → Code.roundsIn (FW ro) n P c Q m a w := by
  induction h with
  | last hx hne =>
    refine ⟨1, fun γ a w hn g R hq => ?_⟩
    rw [roundsIn_succ]
    refine hx.ok so hs ro γ a w hn g R n _ fun γ' a' w' s1 R1 => ?_
    have := hq γ' a' w' s1 R1
    rename_i ex'
    cases ex' with
    | normal => exact absurd rfl hne
    | exit id => exact this
    | ret => exact this
  | more hx r ih =>
    obtain ⟨m, hm⟩ := ih hs
    refine ⟨m + 1, fun γ a w hn g R hq => ?_⟩
    rw [roundsIn_succ]
    refine hx.ok so (fun id hid => hs id (r.lg.1.t id hid)) ro γ a w hn g R n _ fun γ' a' w' s1 R1 => ?_
    exact hm γ' a' w' (s1.sz.trans hn) s1.g R1 fun γ2 a2 w2 s2 R2 => hq γ2 a2 w2 (CSt.trans r.lg.1 s1 s2) R2
theorem XOk.loop {c : Code} (h : XRounds P nt c x ex Z) : XOk P nt (.loop c) x ex Z :=
  ⟨h.lg.1, h.lg.2.1, h.lg.2.2, fun so hs ro γ a w hn g R n Q hQ => by
    obtain ⟨m, hm⟩ := h.rounds so hs ro n Q
    exact wpIn_loop_rounds m (hm γ a w hn g R hQ)⟩
end
structure GH (γ : Gh) (w : World) : Prop where
  ob : ∀ id st, st < γ.cur id → (γ.β id st).1 < w.heap.size
  inj : ∀ id st id' st', st < γ.cur id → st' < γ.cur id' → (γ.β id st).1 = (γ.β id' st').1 → id = id' ∧ (γ.β id st).2 = (γ.β id' st').2
  im : ∀ b, γ.im b → (∃ vs e fr, w.heap[b]? = some (.cells vs e fr)) ∧ ∀ id st, st < γ.cur id → (γ.β id st).1 ≠ b
  gl : GLok γ w
theorem G.gh {ro : Option Nat} {γ : Gh} {a : Act} {w : World} (g : G ro γ a w) : GH γ w := ⟨g.ob, g.inj, g.im, g.gl⟩
structure CallOk (P : Program) (f : FuncId) (ds : List D) (ob : T C) (nx : Pos) (lg : Option (T Bool)) (v : D) (ob' : T C) (nx' : Pos) (lg' : Option (T Bool)) : Prop where
  hl : LgLe lg lg'
  hx : nx.nat ≤ nx'.nat
  hk : Keeps lg' ob ob'
  ok : ∀ so : Pos → Prop, (∀ id, tchd lg' id → so id) → ∀ (γ : Gh) (args : Array Value) (w : World), GH γ w → DVL γ w ds args.toList → (∀ id c, so id → ob.get id = some c → HoldsO P γ w id c) → (∀ id, so id → nx.nat ≤ id.nat → γ.cur id = 0) →
    (∀ w, (callFunc f args).run P w = .ok (.enter f args) w) ∧ ∀ (ro : Option Nat) (n : Nat) (R : Ending → World → Prop), (∀ γ' w' u, GH γ' w' → Fr (wrtn lg') γ γ' w w' → DV γ' w' v u → (∀ id c, so id → ob'.get id = some c → HoldsO P γ' w' id c) → (∀ id, so id → nx'.nat ≤ id.nat → γ'.cur id = 0) → R (.returned u) w') →
      CallsIn (FW ro) n P f args w R
def FPok (P : Program) (FP : T RF) : Prop := ∀ p rf, FP.get p = some rf → (rf.kn = none → compF P p.ix = some rf) ∧ ∀ v, rf.kn = some v → ∀ ob nx lg, CallOk P p.ix [] ob nx lg v ob nx lg
theorem argsK_ok {β : Type} : ∀ {ds : List D} {p : Pos} {t : T D} {k : T D → Option β} {z : β}, argsK ds p t k = some z → ∃ t', k t' = some z ∧ ∀ s d, t'.get s = some d → t.get s = some d ∨ ∃ i : Nat, s.nat = p.nat + i ∧ ds[i]? = some d
  | [], p, t, k, z, h => ⟨t, h, fun s d hd => .inl hd⟩
  | d :: ds, p, t, k, z, h => by
    have h : T.setK p d t (fun t => Pos.succK p fun p => argsK ds p t k) = some z := h
    rw [T.setK_eq, Pos.succK_eq] at h
    obtain ⟨t', h1, h2⟩ := argsK_ok h
    refine ⟨t', h1, fun s e hs => ?_⟩
    rcases h2 s e hs with h3 | ⟨i, h3, h4⟩
    · by_cases hsp : s = p
      · subst hsp
        rw [T.get_set_same] at h3
        cases h3
        exact .inr ⟨0, rfl, rfl⟩
      · rw [T.get_set_ne hsp] at h3
        exact .inl h3
    · rw [Pos.succ_nat] at h3
      exact .inr ⟨i + 1, by omega, by simpa using h4⟩
theorem run_callFunc {P : Program} {f : FuncId} {fn : Func} {c : Code} (hf : P.funcs[f]? = some fn) (hb : fn.body = some c) (hn : (fn.name == "runtime.NumGoroutine") = false) (args : Array Value) (w : World) : (callFunc f args).run P w = .ok (.enter f args) w := by
  simp [callFunc, Sem.run, hf, hb, hn]
  have : fn.name ≠ "runtime.NumGoroutine" := by simpa using hn
  simp [this]
theorem results_ok {P : Program} : ∀ {rs : List ResultVar} {rr : List RR} {sl : T D} {ob : T C} {lg : Option (T Bool)} {k : List D → Option (T Bool) → Option X} {Z : X}, compR P rs = some rr → results rr sl ob lg k = some Z →
    ∃ ds lg', k ds lg' = some Z ∧ LgLe lg lg' ∧ ∀ {so : Pos → Prop} {γ : Gh} {tmps : Array Value} {w : World}, (∀ id, tchd lg' id → so id) → (∀ s d, sl.get s = some d → s.ix < tmps.size ∧ DV γ w d (tmps.getD s.ix undef)) → (∀ id c, so id → ob.get id = some c → HoldsO P γ w id c) →
      ∃ vs : List Value, (rs.mapM fun
        | .tmp t => pure (tmps.getD t undef)
        | .cell a t => do loadVar t (← asAddr (tmps.getD a undef)) : Sem (List Value)).run P w = .ok vs w ∧ DVL γ w ds vs
  | [], rr, sl, ob, lg, k, Z, hc, h => by
    cases hc
    exact ⟨[], lg, h, LgLe.refl _, fun _ _ _ => ⟨[], rfl, DVL.nil⟩⟩
  | .tmp t :: rs, rr, sl, ob, lg, k, Z, hc, h => by
    simp only [compR] at hc
    split at hc
    · rename_i p l hp hl
      cases hc
      have h : (match sl.get p with
        | some d => results l sl ob lg fun ds lg => k (d :: ds) lg
        | none => none) = some Z := h
      split at h
      · rename_i d hd
        obtain ⟨ds, lg', h1, h2, h3⟩ := results_ok hl h
        refine ⟨d :: ds, lg', h1, h2, fun hso hsl hob => ?_⟩
        obtain ⟨vs, h4, h5⟩ := h3 hso hsl hob
        have := (hsl p d hd).2
        rw [slot_ix hp] at this
        refine ⟨_ :: vs, ?_, DVL.cons this h5⟩
        rw [List.mapM_cons]
        simp only [Sem.run_bind, Sem.run_pure, Result.andThen_ok, h4]
      · cases h
    · cases hc
  | .cell a t :: rs, rr, sl, ob, lg, k, Z, hc, h => by
    simp only [compR] at hc
    split at hc
    · rename_i p n l hp ht hn hl
      cases hc
      have h : (match sl.get p with
        | some (.pt id off st) => match ob.get id with
          | some (.cells _ cs _) => readK st n (dropC off cs) fun es => results l sl ob lg fun ds lg => logR lg id fun lg => k (.ag es :: ds) lg
          | _ => none
        | _ => none) = some Z := h
      split at h
      · rename_i id off st hd
        split at h
        · rename_i q cs cur hob
          obtain ⟨es, h1, h2, h3⟩ := readK_ok h
          rw [dropC_eq] at h3
          obtain ⟨ds, lg1, h4, h5, h6⟩ := results_ok hl h1
          obtain ⟨lg2, h7, h8, h9⟩ := logR_ok h4
          refine ⟨.ag es :: ds, lg2, h7, h5.trans h8, fun {so γ tmps w} hso hsl hobs => ?_⟩
          obtain ⟨vs, g1, g2⟩ := h6 (fun id hid => hso id (h8.t id hid)) hsl hobs
          have hv := (hsl p _ hd).2
          rw [slot_ix hp] at hv
          obtain ⟨e1, e2, e3⟩ := DV_pt hv
          obtain ⟨us, q1, q2, q3, q4⟩ := cells_at (hobs id _ (hso id h9) hob) e1 e2 h2 h3
          refine ⟨.agg us.toArray :: vs, ?_, DVL.cons (by unfold DV; exact ⟨_, rfl, q3, q4⟩) g2⟩
          have ha : (asAddr (tmps.getD a undef)).run P w = .ok ⟨(γ.β id st).1, off - (γ.β id st).2, none⟩ w := by rw [e3]; rfl
          rw [List.mapM_cons]
          simp only [Sem.run_bind, ha, Sem.run_pure, Result.andThen_ok, run_loadVar_row' ht hn q2 q1, g1]
        · cases h
      · cases h
    · rename_i p n l hp ht hn hl
      cases hc
      have h : (match sl.get p with
        | some (.pt id off st) => match ob.get id with
          | some (.cells _ cs _) => match nthC cs off with
            | some c => cellK st c fun v => results l sl ob lg fun ds lg => logR lg id fun lg => k (v :: ds) lg
            | none => none
          | _ => none
        | _ => none) = some Z := h
      split at h
      · rename_i id off st hd
        split at h
        · rename_i q cs cur hob
          split at h
          · rename_i c hcc
            rw [nthC_eq] at hcc
            obtain ⟨h1, h2⟩ := cellK_ok h
            obtain ⟨ds, lg1, h4, h5, h6⟩ := results_ok hl h2
            obtain ⟨lg2, h7, h8, h9⟩ := logR_ok h4
            refine ⟨c.d :: ds, lg2, h7, h5.trans h8, fun {so γ tmps w} hso hsl hobs => ?_⟩
            obtain ⟨vs, g1, g2⟩ := h6 (fun id hid => hso id (h8.t id hid)) hsl hobs
            have hv := (hsl p _ hd).2
            rw [slot_ix hp] at hv
            obtain ⟨e1, e2, e3⟩ := DV_pt hv
            obtain ⟨u, q1, q2, q3⟩ := cell_at (hobs id _ (hso id h9) hob) e1 hcc h1 e2
            refine ⟨u :: vs, ?_, DVL.cons q2 g2⟩
            have ha : (asAddr (tmps.getD a undef)).run P w = .ok ⟨(γ.β id st).1, off - (γ.β id st).2, none⟩ w := by rw [e3]; rfl
            rw [List.mapM_cons]
            simp only [Sem.run_bind, ha, Sem.run_pure, Result.andThen_ok, run_loadVar_one ht q1, g1]
          · cases h
        · cases h
      · cases h
    · cases hc
end Go.Ev
namespace Go.Ev
open Go.RowKit (Below)
theorem leaveM {F : Fence} {n : Nat} {P : Program} {fn : Func} {tmps : Array Value} {R : Ending → World → Prop} : ∀ (ms : List Nat) (w : World), ms.Nodup → (∀ r, r ∈ ms → w.heap[r]? = some (.deferred (some []))) →
    (∀ w2 : World, (∀ b, b ∉ ms → w2.heap[b]? = w.heap[b]?) → w2.heap.size = w.heap.size → (w2.os = w.os ∧ w2.tape = w.tape ∧ w2.output = w.output ∧ ∀ a : Addr, w2.frozen? a = w.frozen? a) → LeavesInM F n P fn tmps R [] .returning w2) → LeavesInM F n P fn tmps R (ms.map mark) .returning w
  | [], w, _, _, h => h w (fun _ _ => rfl) rfl ⟨rfl, rfl, rfl, fun _ => rfl⟩
  | r :: ms, w, hn, hm, h => by
    have hr := hm r (by simp)
    rw [List.nodup_cons] at hn
    refine ⟨by simp, .inl ⟨r, w.putObj r (.deferred none), rfl, run_takeDeferred hr, ?_⟩⟩
    refine leaveM ms _ hn.2 (fun q hq => ?_) fun w2 h1 h2 h3 => ?_
    · rw [World.putObj_heap_other (show q ≠ r from fun e => hn.1 (e ▸ hq))]
      exact hm q (by simp [hq])
    · refine h w2 (fun b hb => ?_) (by rw [h2]; simp [World.putObj]) ⟨h3.1, h3.2.1, h3.2.2.1, fun a => (h3.2.2.2 a).trans (frozen_put w r _ (fun _ _ _ h => by cases h) (fun _ _ _ h => by rw [hr] at h; cases h) a)⟩
      simp only [List.mem_cons, not_or] at hb
      rw [h1 b hb.2, World.putObj_heap_other hb.1]
theorem results_run {P : Program} {fn : Func} {tmps : Array Value} {w : World} {vs : List Value} (h : (fn.results.toList.mapM fun
        | .tmp t => pure (tmps.getD t undef)
        | .cell a t => do loadVar t (← asAddr (tmps.getD a undef)) : Sem (List Value)).run P w = .ok vs w) : (_root_.Go.results fn tmps).run P w = .ok (if h : vs.length = 1 then vs[0] else .tuple vs.toArray) w := by
  unfold _root_.Go.results
  rw [Sem.run_bind, Array.mapM_eq_mapM_toList]
  simp only [Sem.run_map]
  erw [h]
  simp only [Result.andThen_ok, Sem.run_pure]
  congr 1
theorem DV_one {γ : Gh} {w : World} {ds : List D} {vs : List Value} (h : DVL γ w ds vs) : DV γ w (one ds) (if h : vs.length = 1 then vs[0] else .tuple vs.toArray) := by
  obtain ⟨h1, h2⟩ := DVL_iff.1 h
  unfold one
  split
  · rename_i d
    have h3 : vs.length = 1 := by rw [← h1]; rfl
    rw [dif_pos h3]
    exact h2 0 d _ rfl (List.getElem?_eq_getElem (by omega))
  · rename_i hne
    have h3 : vs.length ≠ 1 := by
      intro h3
      rw [← h1] at h3
      obtain ⟨d, hd⟩ := List.length_eq_one_iff.1 h3
      exact hne d hd
    rw [dif_neg h3]
    unfold DV
    exact ⟨_, rfl, h⟩
theorem compF_ok {P : Program} {f : Nat} {rf : RF} (h : compF P f = some rf) : ∃ fn c rs, P.funcs[f]? = some fn ∧ fn.body = some c ∧ compR P fn.results.toList = some rs ∧ (fn.name == "runtime.NumGoroutine") = false ∧ rf = ⟨fn.ntmps, comp P fn.ntmps c, rs, none⟩ := by
  unfold compF at h
  split at h
  · rename_i fn hf
    split at h
    · rename_i c rs hb hr
      cases hn : (fn.name == "runtime.NumGoroutine") with
      | true => rw [hn] at h; cases h
      | false =>
        rw [hn] at h
        cases h
        exact ⟨fn, c, rs, hf, hb, hr, hn, rfl⟩
    · cases h
  · cases h
theorem callsIn_ro {ro : Option Nat} {n : Nat} {P : Program} {f : FuncId} {args : Array Value} {w : World} {R : Ending → World → Prop} (h : CallsIn (FW none) n P f args w R) : CallsIn (FW ro) n P f args w R := h
theorem mark_mem {r : Nat} {ms : List Nat} : mark r ∈ ms.map mark ↔ r ∈ ms := by
  constructor
  · intro h
    obtain ⟨q, h1, h2⟩ := List.mem_map.1 h
    have : q = r := by
      unfold mark at h2
      cases h2; rfl
    exact this ▸ h1
  · exact fun h => List.mem_map.2 ⟨r, h, rfl⟩
section
variable {P : Program} {FP : T RF} {ex : RC → X → Option (Ex × X)}
theorem body_ok {f : Nat} {fn : Func} {c : Code} {rs : List RR} {ds : List D} {sl : T D} {ob : T C} {nx : Pos} {lg : Option (T Bool)} {k : D → T C → Pos → Option (T Bool) → Option X} {Z : X} (hf : P.funcs[f]? = some fn) (hb : fn.body = some c) (hr : compR P fn.results.toList = some rs) (hname : (fn.name == "runtime.NumGoroutine") = false)
    (hlen : ds.length ≤ fn.ntmps) (hsl : ∀ s d, sl.get s = some d → (T.e : T D).get s = some d ∨ ∃ i : Nat, s.nat = Pos.h.nat + i ∧ ds[i]? = some d) {e : Ex} {sl' : T D} {ob1 : T C} {nx1 : Pos} {lg1 : Option (T Bool)} (he : e = .normal ∨ e = .ret)
    (X1 : XOk P fn.ntmps c ⟨sl, ob, nx, lg⟩ e ⟨sl', ob1, nx1, lg1⟩) (hres : results rs sl' ob1 lg1 (fun ds lg => k (one ds) ob1 nx1 lg) = some Z) :
    ∃ v ob' nx' lg', k v ob' nx' lg' = some Z ∧ CallOk P f ds ob nx lg v ob' nx' lg' := by
  obtain ⟨rds, lg2, h2, h3, h4⟩ := results_ok hr hres
  refine ⟨one rds, ob1, nx1, lg2, h2, X1.lg.trans h3, X1.nx, (fun id hn => X1.obf id fun hw => hn (h3.w id hw)), fun so hso γ args w gh hargs hob hnx => ⟨run_callFunc hf hb hname args, fun ro n R hR => callsIn_ro ?_⟩⟩
  have hasz : args.size = ds.length := by have := (DVL_iff.1 hargs).1; simpa using this.symm
  have hsz : (args ++ Array.replicate (fn.ntmps - args.size) undef).size = fn.ntmps := by simp; omega
  have g0 : G none γ { tmps := args ++ Array.replicate (fn.ntmps - args.size) undef, defers := [] } w := ⟨gh.ob, gh.inj, ⟨[], rfl, List.nodup_nil, fun r hr => by cases hr⟩, (fun l hl => by cases hl), gh.im, gh.gl⟩
  refine callsIn_of_wp_marks hf hb trivial (X1.ok so (fun id hid => hso id (h3.t id hid)) none γ _ w hsz g0 ⟨fun s d _ hd => ?_, hob, hnx, gh.gl⟩ n _ fun γ' a' w' cst rep => ?_) rfl
  · rcases hsl s d hd with h5 | ⟨i, h5, h6⟩
    · rw [T.get_e] at h5; cases h5
    · have hi : i < args.size := by have := (List.getElem?_eq_some_iff.1 h6).1; omega
      have hix : s.ix = i := by
        unfold Pos.ix
        rw [h5]
        show 1 + i - 1 = i
        omega
      rw [hix]
      refine ⟨by rw [hsz]; omega, ?_⟩
      have hav : (args ++ Array.replicate (fn.ntmps - args.size) undef).getD i undef = args[i] := by
        simp [Array.getD, hi, Array.getElem_append_left]
        omega
      show DV γ w d ((args ++ Array.replicate (fn.ntmps - args.size) undef).getD i undef)
      rw [hav]
      exact (DVL_iff.1 hargs).2 i d _ h6 (by simp [hi])
  · have fin : LeavesInM (FW none) n P fn a'.tmps R a'.defers .returning w' := by
      obtain ⟨ms, d1, d2, d3⟩ := cst.g.df
      rw [d1]
      refine leaveM ms w' d2 (fun r hr => (d3 r hr).1) fun w2 e1 e2 e3 => ?_
      have hnew : ∀ r, r ∈ ms → w.heap.size ≤ r := by
        intro r hr
        rcases cst.dn r (by rw [d1]; exact mark_mem.2 hr) with h5 | h5
        · cases h5
        · exact h5
      have hown : ∀ id st, st < γ'.cur id → (γ'.β id st).1 ∉ ms := fun id st hst hm => (d3 _ hm).2 id st hst rfl
      have U : Up γ' γ' w' w2 := ⟨fun _ => Nat.le_refl _, fun _ _ _ => rfl, fun b x hx => by
        have hb : b ∉ ms := by
          intro hm
          have := (d3 b hm).1
          unfold World.shape? at hx
          rw [this] at hx
          cases hx
        rw [shape_same (e1 b hb)]; exact hx, fun b hb => ⟨hb, fun o ho => by
        rw [e1 b (fun hm => ?_)]; exact ho
        obtain ⟨⟨vs, e, fr, k1⟩, _⟩ := cst.g.im b hb
        have := (d3 b hm).1
        rw [k1] at this
        cases this⟩⟩
      have hold : ∀ id c, so id → ob1.get id = some c → HoldsO P γ' w2 id c := fun id c hid hc => HoldsO.mono U rfl (fun st hst => e1 _ (hown id st hst)) (rep.ob id c hid hc)
      have hsl2 : ∀ s d, sl'.get s = some d → s.ix < a'.tmps.size ∧ DV γ' w2 d (a'.tmps.getD s.ix undef) := fun s d hd => ⟨(rep.sl s d trivial hd).1, DV.mono U _ _ (rep.sl s d trivial hd).2⟩
      obtain ⟨vs, q1, q2⟩ := h4 hso hsl2 hold
      refine ⟨_, results_run q1, hR γ' w2 _ ⟨fun id st hst => by rw [e2]; exact cst.g.ob id st hst, cst.g.inj, fun b hb => ⟨let ⟨⟨vs, e, fr, k1⟩, _⟩ := cst.g.im b hb; ⟨vs, e, fr, (U.im b hb).2 _ k1⟩, (cst.g.im b hb).2⟩, cst.g.gl.up U⟩ ?_ (DV_one q2) hold rep.nx⟩
      have F := cst.fr.mono h3.w
      exact ⟨F.up.trans U, F.cur, fun b hb hn => by
          rw [e1 b (fun hm => by have := hnew b hm; omega)]
          exact F.blk b hb hn, F.new, F.imn, fun b r hr => by
          obtain ⟨r', hr'⟩ := F.lp b r hr
          refine ⟨r', ?_⟩
          rw [e1 b (fun hm => by have := (d3 b hm).1; rw [hr'] at this; cases this)]
          exact hr', by rw [e2]; exact F.size, e3.1.trans F.os, e3.2.1.trans F.tape, e3.2.2.1.trans F.output, fun a => (e3.2.2.2 a).trans (F.fz a)⟩
    rcases he with rfl | rfl <;> exact fin
theorem callF_ok (hFP : FPok P FP) (IH : ∀ nt c x e Z, ex (comp P nt c) x = some (e, Z) → XOk P nt c x e Z) {f : Pos} {ds : List D} {ob : T C} {nx : Pos} {lg : Option (T Bool)} {k : D → T C → Pos → Option (T Bool) → Option X} {Z : X} (h : callF FP ex f ds ob nx lg k = some Z) :
    ∃ v ob' nx' lg', k v ob' nx' lg' = some Z ∧ CallOk P f.ix ds ob nx lg v ob' nx' lg' := by
  unfold callF at h
  split at h
  · rename_i rf hrf
    split at h
    · rename_i v hkn
      split at h
      · exact ⟨v, ob, nx, lg, h, (hFP f rf hrf).2 v hkn ob nx lg⟩
      · cases h
    rename_i hkn
    obtain ⟨fn, c, rs, hf, hb, hr, hname, rfl⟩ := compF_ok ((hFP f rf hrf).1 hkn)
    cases hle : Nat.ble (List.length ds) fn.ntmps with
    | false => rw [hle] at h; cases h
    | true =>
      rw [hle] at h
      simp only [cond_true] at h
      have hlen := Nat.le_of_ble_eq_true hle
      obtain ⟨sl, h1, hsl⟩ := argsK_ok h
      have main : ∀ e sl' ob1 nx1 lg1, (e = .normal ∨ e = .ret) → ex (comp P fn.ntmps c) ⟨sl, ob, nx, lg⟩ = some (e, ⟨sl', ob1, nx1, lg1⟩) → results rs sl' ob1 lg1 (fun ds lg => k (one ds) ob1 nx1 lg) = some Z →
          ∃ v ob' nx' lg', k v ob' nx' lg' = some Z ∧ CallOk P f.ix ds ob nx lg v ob' nx' lg' := by
        exact fun e sl' ob1 nx1 lg1 he hex hres => body_ok hf hb hr hname hlen hsl he (IH _ _ _ _ _ hex) hres
      split at h1
      · rename_i sl' ob1 nx1 lg1 hex
        exact main .normal sl' ob1 nx1 lg1 (.inl rfl) hex h1
      · rename_i sl' ob1 nx1 lg1 hex
        exact main .ret sl' ob1 nx1 lg1 (.inr rfl) hex h1
      · cases h1
  · cases h
end
end Go.Ev
namespace Go.Ev
open Go.RowKit (Below)
structure RndOk (P : Program) (id : Pos) (ds : List D) (ob : T C) (nx : Pos) (lg : Option (T Bool)) (v : D) (ob' : T C) (nx' : Pos) (lg' : Option (T Bool)) : Prop where
  hl : LgLe lg lg'
  hx : nx.nat ≤ nx'.nat
  hk : Keeps lg' ob ob'
  ok : ∀ so : Pos → Prop, (∀ id, tchd lg' id → so id) → ∀ (γ : Gh) (args : Array Value) (w : World), GH γ w → DVL γ w ds args.toList → (∀ id c, so id → ob.get id = some c → HoldsO P γ w id c) → (∀ id, so id → nx.nat ≤ id.nat → γ.cur id = 0) → 0 < γ.cur id →
    ∃ fn tmps asg body, (Instr.yield (γ.β id 0).1 args).run P w = .ok (.round (γ.β id 0).1 fn tmps asg body) w ∧ ∀ (ro : Option Nat) (n : Nat) (R : Ending → World → Prop),
      (∀ γ' w' u, GH γ' w' → Fr (wrtn lg') γ γ' w w' → DV γ' w' v u → (∀ id c, so id → ob'.get id = some c → HoldsO P γ' w' id c) → (∀ id, so id → nx'.nat ≤ id.nat → γ'.cur id = 0) → R (.returned u) w') →
      RoundIn (FW ro) n P (γ.β id 0).1 fn tmps asg body w R
theorem parmK_ok {γ : Gh} {w : World} : ∀ {ps : List Pos} {ds : List D} {t : T D} {k : T D → Option X} {Z : X}, parmK ps ds t k = some Z → ∃ t', k t' = some Z ∧ ps.length = ds.length ∧
    ∀ {γ : Gh} {w : World} {args : List Value} {tmps : Array Value}, DVL γ w ds args → (∀ p, p ∈ ps → p.ix < tmps.size) → (∀ s d, t.get s = some d → s.ix < tmps.size ∧ DV γ w d (tmps.getD s.ix undef)) →
      (((ps.map Pos.ix).zip args).foldl (fun tmps (t, a) => tmps.setIfInBounds t a) tmps).size = tmps.size ∧
      ∀ s d, t'.get s = some d → s.ix < tmps.size ∧ DV γ w d ((((ps.map Pos.ix).zip args).foldl (fun tmps (t, a) => tmps.setIfInBounds t a) tmps).getD s.ix undef)
  | [], [], t, k, Z, h => ⟨t, h, rfl, fun {γ w args tmps} ha _ hs => by
      unfold DVL at ha
      subst ha
      exact ⟨rfl, hs⟩⟩
  | [], d :: ds, t, k, Z, h => by cases h
  | p :: ps, [], t, k, Z, h => by cases h
  | p :: ps, d :: ds, t, k, Z, h => by
    have h : T.setK p d t (fun t => parmK ps ds t k) = some Z := h
    rw [T.setK_eq] at h
    obtain ⟨t', h1, h2, h3⟩ := parmK_ok (γ := γ) (w := w) h
    refine ⟨t', h1, by simp [h2], fun {γ w args tmps} ha hp hs => ?_⟩
    unfold DVL at ha
    obtain ⟨v, r, rfl, ha1, ha2⟩ := ha
    have hpl := hp p (by simp)
    obtain ⟨h4, h5⟩ := h3 (tmps := tmps.setIfInBounds p.ix v) ha2 (fun q hq => by rw [Array.size_setIfInBounds]; exact hp q (by simp [hq])) (fun s e hs' => by
      rw [Array.size_setIfInBounds]
      by_cases es : s = p
      · subst es
        rw [T.get_set_same] at hs'
        cases hs'
        refine ⟨hpl, ?_⟩
        simp [hpl]; exact ha1
      · rw [T.get_set_ne es] at hs'
        obtain ⟨q1, q2⟩ := hs s e hs'
        refine ⟨q1, ?_⟩
        have hne : p.ix ≠ s.ix := fun e => es (Pos.ix_inj e.symm)
        simp [Array.getElem?_setIfInBounds_ne hne]
        simpa using q2)
    simp only [List.map_cons, List.zip_cons_cons, List.foldl_cons]
    rw [Array.size_setIfInBounds] at h4 h5
    exact ⟨h4, h5⟩
section
variable {P : Program} {FP : T RF} {ex : RC → X → Option (Ex × X)}
theorem loop_put {ro : Option Nat} {γ : Gh} {a : Act} {w : World} {id : Pos} {l l' : Loop} (g : G ro γ a w) (hst : 0 < γ.cur id) (hob : w.heap[(γ.β id 0).1]? = some (.loop l)) :
    Fr (fun j => j = id) γ γ w (w.putObj (γ.β id 0).1 (.loop l')) ∧ ∀ a' : Act, a'.defers = a.defers → G ro γ a' (w.putObj (γ.β id 0).1 (.loop l')) :=
  same_all g id (by simp [World.putObj]) (fun c hc hn => World.putObj_heap_other (fun e => hn 0 hst e.symm))
    (fun c x hx => by
      have hne : c ≠ (γ.β id 0).1 := by
        rintro rfl
        unfold World.shape? at hx
        rw [hob] at hx
        cases hx
      rw [shape_same (World.putObj_heap_other hne)]; exact hx)
    (fun c r hr => by
      by_cases e : c = (γ.β id 0).1
      · subst e
        exact ⟨l', World.putObj_heap_same (Array.getElem?_eq_some_iff.1 hob).1⟩
      · exact ⟨r, by rw [World.putObj_heap_other e]; exact hr⟩) ⟨rfl, rfl, rfl⟩ (frozen_put w _ _ (fun _ _ _ h => by cases h) fun vs e fr h => by rw [hob] at h; cases h)
theorem callV_ok (hFP : FPok P FP) (IH : ∀ nt c x e Z, ex (comp P nt c) x = some (e, Z) → XOk P nt c x e Z) {v0 : D} {ds : List D} {ob : T C} {nx : Pos} {lg : Option (T Bool)} {k : D → T C → Pos → Option (T Bool) → Option X} {Z : X} (h : callV P FP ex v0 ds ob nx lg k = some Z) :
    (∃ f first caps v ob' nx' lg', v0 = .fn f first caps ∧ k v ob' nx' lg' = some Z ∧ CallOk P f.ix (first ++ (ds ++ caps)) ob nx lg v ob' nx' lg') ∨
    (∃ id v ob' nx' lg', v0 = .yl id ∧ k v ob' nx' lg' = some Z ∧ RndOk P id ds ob nx lg v ob' nx' lg') := by
  unfold callV at h
  split at h
  · rename_i f first caps
    obtain ⟨v, ob', nx', lg', h1, h2⟩ := callF_ok hFP IH h
    exact .inl ⟨f, first, caps, v, ob', nx', lg', rfl, h1, h2⟩
  · rename_i id
    right
    split at h
    · rename_i sl ps nt asg body j0 hob0
      obtain ⟨sl', h1, hplen, hpar⟩ := parmK_ok (γ := ⟨fun _ => 0, fun _ _ => (0, 0), fun _ => False⟩) (w := default) h
      split at h1
      · rename_i sl2 ob1 nx1 lg1 hasg
        split at h1
        · rename_i a1 b1 m1 c1 d1 j1 hob1
          rw [T.setK_eq] at h1
          obtain ⟨lg2, h2, hl2, hw2⟩ := logW_ok h1
          split at h2
          · rename_i e sl3 ob3 nx3 lg3 hbody
            split at h2
            · rename_i a3 b3 m3 c3 d3 s3 j3 hob3
              have X1 := IH _ _ _ _ _ hasg
              have X2 := IH _ _ _ _ _ hbody
              have main : ∀ (st' : LS) (jj : Option Ex) (bv : Bool), k (.b bv) (T.set id (.lp a3 b3 m3 c3 d3 st' jj) ob3) nx3 lg3 = some Z → ((e = .normal ∧ st' = .ready ∧ jj = none ∧ bv = true) ∨ (e ≠ .normal ∧ st' = .done ∧ jj = some e ∧ bv = false)) →
                  ∃ id' v ob' nx' lg', D.yl id = .yl id' ∧ k v ob' nx' lg' = some Z ∧ RndOk P id' ds ob nx lg v ob' nx' lg' := by
                intro st' jj bv hk hcase
                refine ⟨id, .b bv, _, nx3, lg3, rfl, hk, X1.lg.trans (hl2.trans X2.lg), Nat.le_trans X1.nx X2.nx, Keeps.set (Keeps.trans X2.lg (Keeps.set (a := ob) (b := ob1) (fun id hn => X1.obf id fun hw => hn (hl2.w id hw)) hw2 _) X2.obf) (X2.lg.w id hw2) _, fun so hso γ args w gh hargs hob hnx hcur => ?_⟩
                have hsoid : so id := hso id (X2.lg.t id hw2.tchd)
                obtain ⟨hc1, l, hl, hst, _, hsl, hps, hpb, hntl, rfl, rfl⟩ := hob id _ hsoid hob0
                obtain ⟨bk, hbk⟩ : ∃ bk, bk = (γ.β id 0).1 := ⟨_, rfl⟩
                rw [← hbk] at hl ⊢
                have hpsz : args.size = l.params.size := by
                  have e1 : l.params.toList.length = ps.length := by rw [hps]; simp
                  have e2 := (DVL_iff.1 hargs).1
                  simp at e1 e2
                  omega
                have hfold : (l.params.zip args).foldl (fun tmps (t, a) => tmps.setIfInBounds t a) l.tmps = ((ps.map Pos.ix).zip args.toList).foldl (fun tmps (t, a) => tmps.setIfInBounds t a) l.tmps := by
                  rw [← Array.foldl_toList, Array.toList_zip, hps]
                obtain ⟨hsz, hsl'⟩ := hpar (tmps := l.tmps) hargs hpb hsl
                refine ⟨l.fn, _, l.assign, l.body, run_yield hl hpsz, fun ro n R hR => ?_⟩
                rw [hfold]
                refine roundIn_of_wpIn trivial ?_
                have g0 : G (some bk) γ { tmps := ((ps.map Pos.ix).zip args.toList).foldl (fun tmps (t, a) => tmps.setIfInBounds t a) l.tmps, defers := [] } w :=
                  ⟨gh.ob, gh.inj, ⟨[], rfl, List.nodup_nil, fun r hr => by cases hr⟩, (fun l' hl' => by cases hl'; exact ⟨l, hl⟩), gh.im, gh.gl⟩
                refine X1.ok so (fun j hj => hso j (X2.lg.t j (hl2.t j hj))) (some bk) γ _ w (by show Array.size _ = nt; rw [hsz]; exact hntl) g0 ⟨fun s d _ hd => ?_, hob, hnx, gh.gl⟩ n _ fun γ1 a1' w1 cst1 rep1 => ?_
                · show s.ix < Array.size _ ∧ _
                  rw [hsz]; exact hsl' s d hd
                · -- the round begins
                  have hβ1 : (γ1.β id 0).1 = bk := by rw [cst1.fr.up.β id 0 hcur, hbk]
                  have hcur1 : 0 < γ1.cur id := Nat.lt_of_lt_of_le hcur (cst1.fr.up.cur id)
                  obtain ⟨hc2, l1, hl1, hst1, hpd1, hsl1, hps1, hpb1, hnt1, ha1, hb1⟩ := rep1.ob id _ hsoid hob1
                  rw [hβ1] at hl1
                  refine ⟨_, run_beginRound hl1 (by rw [hst1]; rfl), ?_⟩
                  have hlt1 : bk < w1.heap.size := (Array.getElem?_eq_some_iff.1 hl1).1
                  have LP := loop_put (l' := { l1 with state := .busy }) cst1.g hcur1 (by rw [hβ1]; exact hl1)
                  rw [hβ1] at LP
                  obtain ⟨F2, g2⟩ := LP
                  have rep2 : Rep P (allS so) γ1 a1' (w1.putObj bk (.loop { l1 with state := .busy })) ⟨sl2, T.set id (.lp a1 b1 m1 c1 d1 .busy j1) ob1, nx1, lg2⟩ := by
                    refine ⟨fun s d hs hd => ⟨(rep1.sl s d hs hd).1, DV.mono F2.up _ _ (rep1.sl s d hs hd).2⟩, others_hold rep1 cst1.g F2 fun _ => ?_, rep1.nx, rep1.gl.up F2.up⟩
                    refine ⟨hc2, { l1 with state := .busy }, by rw [hβ1]; exact World.putObj_heap_same hlt1, rfl, hpd1, fun s d hd => ⟨(hsl1 s d hd).1, DV.mono F2.up _ _ (hsl1 s d hd).2⟩, hps1, hpb1, hnt1, ha1, hb1⟩
                  have key := X2.ok so hso (some bk) γ1 a1' (w1.putObj bk (.loop { l1 with state := .busy })) (by rw [cst1.sz]; show Array.size _ = nt; rw [hsz]; exact hntl) (g2 _ rfl) rep2 n (roundPost P bk R)
                  refine key fun γ3 a3' w3 cst3 rep3 => ?_
                  have hβ3 : (γ3.β id 0).1 = bk := by rw [cst3.fr.up.β id 0 hcur1, hβ1]
                  have hcur3 : 0 < γ3.cur id := Nat.lt_of_lt_of_le hcur1 (cst3.fr.up.cur id)
                  obtain ⟨hc4, l3, hl3, hst3, hpd3, hsl3, hps3, hpb3, hnt3, ha3, hb3⟩ := rep3.ob id _ hsoid hob3
                  rw [hβ3] at hl3
                  have hlt3 : bk < w3.heap.size := (Array.getElem?_eq_some_iff.1 hl3).1
                  have fin : ∀ (jump : Option Code), jump = jj.bind Ex.code → (if jump.isNone then LoopState.ready else .done) = st'.st → jump.isNone = bv → ∃ v w', (Instr.endRound bk jump).run P w3 = .ok v w' ∧ R (.returned v) w' := by
                    intro jump hjump hstt hbv
                    refine ⟨_, _, run_endRound jump hl3, ?_⟩
                    have LP := loop_put (l' := { l3 with state := if jump.isNone then .ready else .done, pending := jump }) cst3.g hcur3 (by rw [hβ3]; exact hl3)
                    rw [hβ3] at LP
                    obtain ⟨F4, g4⟩ := LP
                    have hw3 : wrtn lg3 id := X2.lg.w id hw2
                    refine hR γ3 _ _ (g4 a3' rfl).gh ?_ (by rw [hbv]; exact DV_of_b _) (others_hold rep3 cst3.g F4 fun _ => ?_) rep3.nx
                    · have m1 := (cst1.fr.mono hl2.w).mono X2.lg.w
                      exact ((m1.trans (F2.mono fun j e => by rw [e]; exact hw3)).trans cst3.fr).trans (F4.mono fun j e => by rw [e]; exact hw3)
                    · refine ⟨hc4, { l3 with state := if jump.isNone then .ready else .done, pending := jump }, by rw [hβ3]; exact World.putObj_heap_same hlt3, hstt, hjump, fun s d hd => ⟨(hsl3 s d hd).1, DV.mono F4.up _ _ (hsl3 s d hd).2⟩, hps3, hpb3, hnt3, ha3, hb3⟩
                  rcases hcase with ⟨rfl, rfl, rfl, rfl⟩ | ⟨hne, rfl, rfl, rfl⟩
                  · exact fin none rfl rfl rfl
                  · cases e with
                    | normal => exact absurd rfl hne
                    | ret => exact fin (some .ret) rfl rfl rfl
                    | exit i => exact fin (some (.exit i)) rfl rfl rfl
              cases e with
              | normal =>
                simp only at h2
                rw [T.setK_eq] at h2
                exact main .ready none true h2 (.inl ⟨rfl, rfl, rfl, rfl⟩)
              | ret =>
                simp only at h2
                rw [T.setK_eq] at h2
                exact main .done (some .ret) false h2 (.inr ⟨by simp, rfl, rfl, rfl⟩)
              | exit i =>
                simp only at h2
                rw [T.setK_eq] at h2
                exact main .done (some (.exit i)) false h2 (.inr ⟨by simp, rfl, rfl, rfl⟩)
            · cases h2
          · cases h2
        · cases h1
      · cases h1
    · cases h
  · cases h
end
end Go.Ev
namespace Go.Ev
open Go.RowKit (Below)
section
variable {P : Program} {FP : T RF} {ex : RC → X → Option (Ex × X)} {sl : T D} {ob : T C} {nx : Pos} {lg : Option (T Bool)} {nt : Nat} {o : Oper}
theorem dst_fin {V : Sel} {ro : Option Nat} {lg' : Option (T Bool)} {γ γ' : Gh} {a : Act} {w w' : World} {ob' : T C} {nx' : Pos} {dst : Option Pos} {v : D} {u : Value} {Z : X} (hd : o.dst = dst.map Pos.ix) (hlt : ∀ d, dst = some d → d.ix < a.tmps.size) (R : Rep P V γ a w ⟨sl, ob, nx, lg⟩)
    (hz : dstK sl ob' nx' lg' dst v = some Z) (F : Fr (wrtn lg') γ γ' w w') (g' : ∀ a' : Act, a'.defers = a.defers → G ro γ' a' w') (hv : DV γ' w' v u)
    (ho : ∀ id c, V.so id → ob'.get id = some c → HoldsO P γ' w' id c) (hn : ∀ id, V.so id → nx'.nat ≤ id.nat → γ'.cur id = 0) :
    Z.lg = lg' ∧ Z.nx = nx' ∧ St ro lg' o.dst γ a w γ' (a.put o.dst u) w' ∧ Rep P V γ' (a.put o.dst u) w' Z := by
  cases dst with
  | some d =>
    obtain rfl := outK_eq hz
    obtain ⟨s1, r1⟩ := St.value (P := P) (sl := sl) (ob := ob) (nx := nx) (lg := lg) (o := o) (hlt d rfl) hd R F g' hv ho hn
    exact ⟨rfl, rfl, s1, r1⟩
  | none =>
    cases hz
    have hd : o.dst = none := hd
    rw [hd]
    exact ⟨rfl, rfl, ⟨g' _ rfl, F, rfl, rfl, fun s _ => rfl⟩, ⟨fun s e hss he => ⟨(R.sl s e hss he).1, DV.mono F.up _ _ (R.sl s e hss he).2⟩, ho, hn, R.gl.up F.up⟩⟩
theorem dstK_lg {ob' : T C} {nx' : Pos} {lg' : Option (T Bool)} {dst : Option Pos} {v : D} {Z : X} (hz : dstK sl ob' nx' lg' dst v = some Z) : Z.lg = lg' ∧ Z.nx = nx' ∧ Z.ob = ob' ∧ ∀ s : Pos, dst.map Pos.ix ≠ some s.ix → Z.sl.get s = sl.get s := by
  cases dst with
  | some d => obtain rfl := outK_eq hz; exact ⟨rfl, rfl, rfl, fun s hs => T.get_set_ne (fun e => hs (by rw [e]; rfl)) _ _⟩
  | none => cases hz; exact ⟨rfl, rfl, rfl, fun _ _ => rfl⟩
theorem call_op {names : List Pos} {dst : Option Pos} {f : FuncId} {ds : List D} {v : D} {ob' : T C} {nx' : Pos} {lg' : Option (T Bool)} {Z : X} (hd : o.dst = dst.map Pos.ix) (hlt : ∀ d, dst = some d → d.ix < nt) (hz : dstK sl ob' nx' lg' dst v = some Z) (C : CallOk P f ds ob nx lg v ob' nx' lg')
    (hrun : ∀ {V : Sel} {γ : Gh} {a : Act} {w : World}, Rep P V γ a w ⟨sl, ob, nx, lg⟩ → (∀ s, s ∈ names → V.ss s) → ∃ args : Array Value, DVL γ w ds args.toList ∧ ((callFunc f args).run P w = .ok (.enter f args) w → (execOp a.eval o).run P w = .ok (.enter f args) w)) :
    OpOk P nt o names ⟨sl, ob, nx, lg⟩ Z := by
  obtain ⟨h1, h2, h3, h4⟩ := dstK_lg hz
  refine ⟨h1.symm ▸ C.hl, h2.symm ▸ C.hx, by rw [h1, h3]; exact C.hk, fun s hs => h4 s (by rw [← hd]; exact hs), fun V hs hto ro γ a w hn g R n K Q hK => ?_⟩
  rw [h1] at hto hK
  obtain ⟨args, hargs, hr⟩ := hrun R hs
  obtain ⟨hc, hcalls⟩ := C.ok V.so hto γ args w g.gh hargs R.ob R.nx
  refine wpIn_of (hr (hc w)) (fun _ h => by cases h) ?_
  rw [Oper.uponIn_enter]
  refine ⟨(fun h => by cases h), hcalls ro (n - 1) _ fun γ' w' u gh' F hv ho hn' => ?_⟩
  obtain ⟨_, _, s1, r1⟩ := dst_fin (ro := ro) (a := a) hd (fun d e => by rw [hn]; exact hlt d e) R hz F (fun a' ha => g.of F ha gh'.ob gh'.inj gh'.im) hv ho hn'
  exact hK γ' _ w' s1 r1
theorem rnd_op {names : List Pos} {dst : Option Pos} {id : Pos} {ds : List D} {v : D} {ob' : T C} {nx' : Pos} {lg' : Option (T Bool)} {Z : X} (hd : o.dst = dst.map Pos.ix) (hlt : ∀ d, dst = some d → d.ix < nt) (hz : dstK sl ob' nx' lg' dst v = some Z) (C : RndOk P id ds ob nx lg v ob' nx' lg')
    (hrun : ∀ {V : Sel} {γ : Gh} {a : Act} {w : World}, Rep P V γ a w ⟨sl, ob, nx, lg⟩ → (∀ s, s ∈ names → V.ss s) → 0 < γ.cur id ∧ ∃ args : Array Value, DVL γ w ds args.toList ∧ ∀ x, (Instr.yield (γ.β id 0).1 args).run P w = .ok x w → (execOp a.eval o).run P w = .ok x w) :
    OpOk P nt o names ⟨sl, ob, nx, lg⟩ Z := by
  obtain ⟨h1, h2, h3, h4⟩ := dstK_lg hz
  refine ⟨h1.symm ▸ C.hl, h2.symm ▸ C.hx, by rw [h1, h3]; exact C.hk, fun s hs => h4 s (by rw [← hd]; exact hs), fun V hs hto ro γ a w hn g R n K Q hK => ?_⟩
  rw [h1] at hto hK
  obtain ⟨hcur, args, hargs, hr⟩ := hrun R hs
  obtain ⟨fn, tmps, asg, body, hy, hrounds⟩ := C.ok V.so hto γ args w g.gh hargs R.ob R.nx hcur
  refine wpIn_of (hr _ hy) (fun _ h => by cases h) ?_
  rw [Oper.uponIn_round]
  refine ⟨(fun h => by cases h), hrounds ro (n - 1) _ fun γ' w' u gh' F hv ho hn' => ?_⟩
  obtain ⟨_, _, s1, r1⟩ := dst_fin (ro := ro) (a := a) hd (fun d e => by rw [hn]; exact hlt d e) R hz F (fun a' ha => g.of F ha gh'.ob gh'.inj gh'.im) hv ho hn'
  exact hK γ' _ w' s1 r1
theorem dst_opt {d : Option Tmp} {r : RO} {f : Option Pos → RO} (h : (match d with
    | none => some (f none)
    | some s => (slotN nt s).map fun d => f (some d)) = some r) : ∃ dst : Option Pos, r = f dst ∧ d = dst.map Pos.ix ∧ ∀ e, dst = some e → e.ix < nt := by
  cases d with
  | none => cases h; exact ⟨none, rfl, rfl, fun e he => by cases he⟩
  | some s =>
    cases hs : slotN nt s with
    | none => simp only [hs] at h; cases h
    | some e =>
      simp only [hs, Option.map_some] at h
      cases h
      obtain ⟨h1, h2⟩ := slotN_ix hs
      exact ⟨some e, rfl, by simp [h1], fun e' he => by cases he; rw [h1]; exact h2⟩
theorem runO_ok (hFP : FPok P FP) (IH : ∀ nt c x e Z, ex (comp P nt c) x = some (e, Z) → XOk P nt c x e Z) {r : RO} {Z : X} (hc : compO P nt o = some r) (h : runO P FP ex r sl ob nx lg = some Z) : OpOk P nt o r.ss ⟨sl, ob, nx, lg⟩ Z := by
  cases hop : o.op with
  | move x =>
    simp only [compO, hop] at hc
    split at hc
    · rename_i s rxx hd hx
      obtain ⟨d, rfl, hd, hlt⟩ := dst_ok hd hc
      exact mv_ok (.inl hop) hd hlt hx h
    · cases hc
  | assign x =>
    simp only [compO, hop] at hc
    split at hc
    · rename_i s rxx hd hx
      obtain ⟨d, rfl, hd, hlt⟩ := dst_ok hd hc
      exact mv_ok (.inr hop) hd hlt hx h
    · cases hc
  | pick c x y =>
    simp only [compO, hop] at hc
    split at hc
    · rename_i s r1 r2 r3 hd h1 h2 h3
      obtain ⟨d, rfl, hd, hlt⟩ := dst_ok hd hc
      exact pick_ok hop hd hlt h1 h2 h3 h
    · cases hc
  | alloc t =>
    simp only [compO, hop] at hc
    split at hc
    · rename_i s zs hd hz
      obtain ⟨d, rfl, hd, hlt⟩ := dst_ok hd hc
      exact new_ok hop hd hlt hz h
    · cases hc
  | box t x =>
    simp only [compO, hop] at hc
    split at hc
    · rename_i s rxx hd hx
      obtain ⟨d, rfl, hd, hlt⟩ := dst_ok hd hc
      exact box_ok hop hd hlt hx h
    · cases hc
  | build t ps =>
    simp only [compO, hop] at hc
    split at hc
    · rename_i s zs pl hd hz hpl
      split at hc
      · rename_i rs hrs
        obtain ⟨d, rfl, hd, hlt⟩ := dst_ok hd hc
        exact bld_ok hop hd hlt hz hpl hrs h
      · cases hc
    · cases hc
  | buildSlice t len ps =>
    simp only [compO, hop] at hc
    split at hc
    · rename_i s el n hd hsl
      obtain ⟨hu, hs⟩ := sliceEl_ok hsl
      split at hc
      · rename_i z rs hz hrs
        cases hb : (Nat.ble (len * n) 16777216 && Nat.beq z.length n) with
        | false => rw [hb] at hc; cases hc
        | true =>
          rw [hb] at hc
          rw [Bool.and_eq_true] at hb
          obtain ⟨d, rfl, hd, hlt⟩ := dst_ok hd hc
          exact bsl_ok hop hd hlt hu hs hz hrs (Nat.le_of_ble_eq_true hb.1) (Nat.eq_of_beq_eq_true hb.2) h
      · cases hc
    · cases hc
  | load t x =>
    simp only [compO, hop] at hc
    split at hc
    · rename_i s rxx n hd hx ht hn
      obtain ⟨d, rfl, hd, hlt⟩ := dst_ok hd hc
      exact ldn_ok hop hd hlt hx ht hn h
    · rename_i s rxx n hd hx ht hn
      obtain ⟨d, rfl, hd, hlt⟩ := dst_ok hd hc
      exact ld1_ok hop hd hlt hx ht h
    · cases hc
  | store t x y =>
    simp only [compO, hop] at hc
    split at hc
    · rename_i r1 r2 n hd hx hy hn
      cases hc
      exact st_ok hop hd hx hy hn h
    · cases hc
  | nilCheck x =>
    simp only [compO, hop] at hc
    split at hc
    · rename_i s rxx hd hx
      obtain ⟨d, rfl, hd, hlt⟩ := dst_ok hd hc
      exact nilc_ok hop hd hlt hx h
    · cases hc
  | binOp op t x y t' =>
    simp only [compO, hop] at hc
    split at hc
    · rename_i s r1 r2 hd hx hy
      split at hc
      · rename_i k hu
        obtain ⟨d, rfl, hd, hlt⟩ := dst_ok hd hc
        exact bin_ok hop hd hlt hx hy h
      · split at hc
        · rename_i ks hk
          obtain ⟨d, rfl, hd, hlt⟩ := dst_ok hd hc
          exact eqr_ok hop rfl hk hd hlt hx hy h
        · rename_i ks hk
          obtain ⟨d, rfl, hd, hlt⟩ := dst_ok hd hc
          exact eqr_ok hop rfl hk hd hlt hx hy h
        · split at hc
          · rename_i tk htk
            obtain ⟨d, rfl, hd, hlt⟩ := dst_ok hd hc
            exact eq_ok hop rfl htk hd hlt hx hy h
          · cases hc
        · split at hc
          · rename_i tk htk
            obtain ⟨d, rfl, hd, hlt⟩ := dst_ok hd hc
            exact eq_ok hop rfl htk hd hlt hx hy h
          · cases hc
        · cases hc
    · cases hc
  | unOp op t x =>
    simp only [compO, hop] at hc
    split at hc
    · rename_i s rxx hd hx
      obtain ⟨d, rfl, hd, hlt⟩ := dst_ok hd hc
      exact un_ok hop hd hlt hx h
    · cases hc
  | convert t' t x =>
    simp only [compO, hop] at hc
    split at hc
    · rename_i s rxx k' k hd hx hu' hu
      obtain ⟨d, rfl, hd, hlt⟩ := dst_ok hd hc
      exact cvi_ok hop hu' hu hd hlt hx h
    · cases hc
  | makeFunc fn first caps =>
    cases fn with
    | func f =>
      simp only [compO, hop] at hc
      split at hc
      · rename_i s pf r1 r2 hd hf h1 h2
        obtain ⟨d, rfl, hd, hlt⟩ := dst_ok hd hc
        exact fnl_ok hop hd hlt hf h1 h2 h
      · cases hc
    | _ => simp only [compO, hop] at hc; cases hc
  | makeMap t res =>
    cases res with
    | none =>
      simp only [compO, hop] at hc
      split at hc
      · rename_i s hd
        obtain ⟨d, rfl, hd, hlt⟩ := dst_ok hd hc
        exact mkm_ok hop hd hlt h
      · cases hc
    | some q => simp only [compO, hop] at hc; cases hc
  | makeSlice t l c =>
    simp only [compO, hop] at hc
    split at hc
    · rename_i s el n r1 r2 hd hsl h1 h2
      obtain ⟨hu, hs⟩ := sliceEl_ok hsl
      split at hc
      · rename_i z i hz hi
        cases hb : (Nat.ble i.bytes 65536 && Nat.beq z.length n) with
        | false => rw [hb] at hc; cases hc
        | true =>
          rw [hb] at hc
          rw [Bool.and_eq_true] at hb
          obtain ⟨d, rfl, hd, hlt⟩ := dst_ok hd hc
          exact mks_ok hop hd hlt h1 h2 hu hs hz hi (Nat.le_of_ble_eq_true hb.1) (Nat.eq_of_beq_eq_true hb.2) h
      · cases hc
    · cases hc
  | slice t x lo hi mx =>
    simp only [compO, hop] at hc
    split at hc
    · rename_i s rxx rlo rhi rmx hd hx hlo hhi hmx
      cases hb : (rhi.isNone && rmx.isSome) with
      | true => rw [hb] at hc; cases hc
      | false =>
        rw [hb] at hc
        simp only [cond_false] at hc
        split at hc
        · rename_i el hu
          split at hc
          · rename_i n hn
            obtain ⟨d, rfl, hd, hlt⟩ := dst_ok hd hc
            exact slc_ok hop hd hlt hx hlo hhi hmx hb hu hn h
          · cases hc
        · rename_i len el hu
          split at hc
          · rename_i n hn
            obtain ⟨d, rfl, hd, hlt⟩ := dst_ok hd hc
            exact sla_ok hop hd hlt hx hlo hhi hmx hu hn h
          · cases hc
        · cases hc
    · cases hc
  | fieldAddr t x f =>
    simp only [compO, hop] at hc
    split at hc
    · rename_i s rxx k ft hd hx hf
      split at hc
      · rename_i n hn
        obtain ⟨d, rfl, hd, hlt⟩ := dst_ok hd hc
        exact fad_ok hop hd hlt hx hf hn h
      · cases hc
    · cases hc
  | field t x f =>
    simp only [compO, hop] at hc
    split at hc
    · rename_i s rxx k ft hd hx hf
      split at hc
      · rename_i row n hr hn
        obtain ⟨d, rfl, hd, hlt⟩ := dst_ok hd hc
        exact fld_ok hop hd hlt hx hf hr hn h
      · cases hc
    · cases hc
  | indexAddr t x i =>
    simp only [compO, hop] at hc
    split at hc
    · rename_i s r1 r2 el hd hx hi hu
      split at hc
      · rename_i n hn
        obtain ⟨d, rfl, hd, hlt⟩ := dst_ok hd hc
        exact ixs_ok hop hd hlt hx hi hu hn h
      · cases hc
    · rename_i s r1 r2 len el hd hx hi hu
      split at hc
      · rename_i n hn
        obtain ⟨d, rfl, hd, hlt⟩ := dst_ok hd hc
        exact ixa_ok hop hd hlt hx hi hu hn h
      · cases hc
    · cases hc
  | lookup t x i ok =>
    simp only [compO, hop] at hc
    split at hc
    · rename_i s r1 r2 k el hd hx hi hu
      split at hc
      · rename_i zero ks hz hk
        obtain ⟨d, rfl, hd, hlt⟩ := dst_ok hd hc
        exact lkp_ok hop hd hlt hx hi hu hz hk h
      · cases hc
    · cases hc
  | mapUpdate t m i v =>
    simp only [compO, hop] at hc
    split at hc
    · rename_i r1 r2 r3 k el hd h1 h2 h3 hu
      split at hc
      · rename_i ks hk
        cases hc
        exact mup_ok hop hd h1 h2 h3 hu hk h
      · cases hc
    · cases hc
  | extract x n =>
    simp only [compO, hop] at hc
    split at hc
    · rename_i s rxx hd hx
      obtain ⟨d, rfl, hd, hlt⟩ := dst_ok hd hc
      exact ext_ok hop hd hlt hx h
    · cases hc
  | index t x i =>
    simp only [compO, hop] at hc
    split at hc
    · rename_i s r1 r2 hd hx hi
      split at hc
      · rename_i len el hu
        split at hc
        · rename_i row z hr hz
          obtain ⟨d, rfl, hd, hlt⟩ := dst_ok hd hc
          exact ixv_ok hop hd hlt hx hi hu hr hz h
        · cases hc
      · rename_i hu
        obtain ⟨d, rfl, hd, hlt⟩ := dst_ok hd hc
        exact ixt_ok hop hd hlt hx hi hu h
      · cases hc
    · cases hc
  | call c =>
    obtain ⟨callee, args, tys⟩ := c
    cases callee with
    | value f =>
      -- a function value that is called
      have byValue : ∀ {y : Operand} {pf : RX} {xs' : List RX} {dst : Option Pos}, o.op = .call { callee := .value y, args := args, argTypes := tys } → rx y = some pf → rxs args.toList = some xs' → o.dst = dst.map Pos.ix → (∀ e, dst = some e → e.ix < nt) → r_cv P FP ex dst pf xs' sl ob nx lg = some Z → OpOk P nt o (pf.ss ++ RX.sss xs') ⟨sl, ob, nx, lg⟩ Z := by
        intro y pf xs' dst hop hf hxs hd hlt h
        unfold r_cv at h
        split at h
        · rename_i v0 ds hv hds
          rcases callV_ok hFP IH h with ⟨g, first, caps, v, ob', nx', lg', rfl, h1, h2⟩ | ⟨id, v, ob', nx', lg', rfl, h1, h2⟩
          · refine call_op hd hlt h1 h2 fun {V γ a w} R hs => ?_
            obtain ⟨vx, vy, e1, e2, e3⟩ := DV_fn (opd_ok hf hv R fun s h => hs s (by simp [h]))
            refine ⟨vx ++ args.map a.eval ++ vy, ?_, fun hr => ?_⟩
            · simp only [Array.toList_append, Array.toList_map, List.append_assoc]
              exact e2.append ((opds_ok hxs hds R fun s h => hs s (by simp [h])).append e3)
            · rw [Array.append_assoc] at hr
              simp [execOp, hop, resolve, Deferred.ofValue, e1, invoke, hr]
          · refine rnd_op hd hlt h1 h2 fun {V γ a w} R hs => ?_
            have e1 := opd_ok hf hv R fun s h => hs s (by simp [h])
            unfold DV at e1
            refine ⟨e1.1, args.map a.eval, ?_, fun x hr => ?_⟩
            · rw [Array.toList_map]
              exact opds_ok hxs hds R fun s h => hs s (by simp [h])
            · simp [execOp, hop, resolve, Deferred.ofValue, e1.2, invoke, hr]
        · cases h
      cases f with
      | func f =>
        simp only [compO, hop] at hc
        split at hc
        · rename_i pf xs' hf hxs
          obtain ⟨dst, rfl, hd, hlt⟩ := dst_opt (f := fun d => RO.cf d pf xs') hc
          have h : r_cf FP ex dst pf xs' sl ob nx lg = some Z := h
          unfold r_cf at h
          split at h
          · rename_i ds hds
            obtain ⟨v, ob', nx', lg', h1, h2⟩ := callF_ok hFP IH h
            refine call_op hd hlt h1 h2 fun {V γ a w} R hs => ?_
            refine ⟨args.map a.eval, ?_, fun hr => ?_⟩
            · rw [Array.toList_map]
              exact opds_ok hxs hds R fun s h => hs s h
            · rw [slot_ix hf] at hr
              rw [slot_ix hf]
              simp [execOp, hop, resolve, Deferred.ofValue, Act.eval, invoke, hr]
          · cases h
        · cases hc
      | _ =>
        simp only [compO, hop] at hc
        split at hc
        · rename_i pf xs' hf hxs
          obtain ⟨dst, rfl, hd, hlt⟩ := dst_opt (f := fun d => RO.cv d pf xs') hc
          exact byValue hop hf hxs hd hlt h
        · cases hc
    | invoke r m => simp only [compO, hop] at hc; cases hc
    | builtin b =>
      cases b with
      | len =>
        simp only [compO, hop] at hc
        split at hc
        · rename_i s x t hd ha ht
          split at hc
          · rename_i rxx el hx hu
            obtain ⟨d, rfl, hd, hlt⟩ := dst_ok hd hc
            exact len_ok hop ha ht hd hlt hx hu h
          · cases hc
        · cases hc
      | cap =>
        simp only [compO, hop] at hc
        split at hc
        · rename_i s x t hd ha ht
          split at hc
          · rename_i rxx el hx hu
            obtain ⟨d, rfl, hd, hlt⟩ := dst_ok hd hc
            exact cap_ok hop ha ht hd hlt hx hu h
          · cases hc
        · cases hc
      | append =>
        simp only [compO, hop] at hc
        split at hc
        · rename_i s x y t t' hd ha ht
          split at hc
          · rename_i r1 r2 el n e' hx hy hsl hu'
            obtain ⟨hu, hs⟩ := sliceEl_ok hsl
            split at hc
            · rename_i z i hz hi
              cases hb : (Nat.beq z.length n && Nat.ble i.bytes 65536) with
              | false => rw [hb] at hc; cases hc
              | true =>
                rw [hb] at hc
                rw [Bool.and_eq_true] at hb
                obtain ⟨d, rfl, hd, hlt⟩ := dst_ok hd hc
                exact app_ok hop ha ht hd hlt hx hy hu hs hu' hz hi (Nat.eq_of_beq_eq_true hb.1) (Nat.le_of_ble_eq_true hb.2) h
            · cases hc
          · rename_i r1 r2 el n e' hx hy hsl hu'
            obtain ⟨hu, hs⟩ := sliceEl_ok hsl
            split at hc
            · rename_i z i hz hi
              cases hb : (Nat.beq z.length n && Nat.ble i.bytes 65536) with
              | false => rw [hb] at hc; cases hc
              | true =>
                rw [hb] at hc
                rw [Bool.and_eq_true] at hb
                obtain ⟨d, rfl, hd, hlt⟩ := dst_ok hd hc
                exact apn_ok hop ha ht hd hlt hx hy hu hs hu' hz hi (Nat.eq_of_beq_eq_true hb.1) (Nat.le_of_ble_eq_true hb.2) h
            · cases hc
          · cases hc
        · cases hc
      | copy =>
        simp only [compO, hop] at hc
        split at hc
        · rename_i x y t t' ha ht
          split at hc
          · rename_i r1 r2 el n e' hx hy hsl hu'
            obtain ⟨hu, hs⟩ := sliceEl_ok hsl
            split at hc
            · rename_i hd
              cases hc
              exact cpy_ok (dst := none) hop ha ht hd (fun d e => by cases e) hx hy hu hs hu' h
            · rename_i s hd
              obtain ⟨d, rfl, hd, hlt⟩ := dst_ok hd hc
              exact cpy_ok (dst := some d) hop ha ht hd (fun d' e => by cases e; exact hlt) hx hy hu hs hu' h
          · cases hc
        · cases hc
      | clear =>
        simp only [compO, hop] at hc
        split at hc
        · rename_i x t hd ha ht
          split at hc
          · rename_i r1 el n hx hsl
            obtain ⟨hu, hs⟩ := sliceEl_ok hsl
            split at hc
            · rename_i z hz
              cases hb : Nat.beq z.length n with
              | false => rw [hb] at hc; cases hc
              | true =>
                rw [hb] at hc
                cases hc
                exact clr_ok hop ha ht hd hx hu hs hz (Nat.eq_of_beq_eq_true hb) h
            · cases hc
          · cases hc
        · cases hc
      | max =>
        simp only [compO, hop] at hc
        split at hc
        · rename_i s x y _ hd ha
          split at hc
          · rename_i r1 r2 hx hy
            obtain ⟨d, rfl, hd, hlt⟩ := dst_ok hd hc
            exact maxmin_ok hop ha hd hlt hx hy (.inl ⟨rfl, h⟩)
          · cases hc
        · cases hc
      | min =>
        simp only [compO, hop] at hc
        split at hc
        · rename_i s x y _ hd ha
          split at hc
          · rename_i r1 r2 hx hy
            obtain ⟨d, rfl, hd, hlt⟩ := dst_ok hd hc
            exact maxmin_ok hop ha hd hlt hx hy (.inr ⟨rfl, h⟩)
          · cases hc
        · cases hc
      | _ => simp only [compO, hop] at hc; cases hc
  | _ => simp only [compO, hop] at hc; cases hc
end
end Go.Ev