import Derived.Test.YtihlllachfonoaaGreatDoorEvT
set_option linter.all false
namespace Go.Ev
open Go.RowKit (Below)

/-- A call of yield: one round. -/
structure RndOk (P : Program) (id : Pos) (ds : List D) (ob : T C) (nx : Pos) (lg : Option (T Bool)) (v : D) (ob' : T C) (nx' : Pos) (lg' : Option (T Bool)) : Prop where
  hl : LgLe lg lg'
  hx : nx.nat ≤ nx'.nat
  hk : Keeps lg' ob ob'
  ok : ∀ so : Pos → Prop, (∀ id, tchd lg' id → so id) → ∀ (γ : Gh) (args : Array Value) (w : World), GH γ w → DVL γ w ds args.toList → (∀ id c, so id → ob.get id = some c → HoldsO P γ w id c) → (∀ id, so id → nx.nat ≤ id.nat → γ.cur id = 0) → 0 < γ.cur id →
    ∃ fn tmps asg body, (Instr.yield (γ.β id 0).1 args).run P w = .ok (.round (γ.β id 0).1 fn tmps asg body) w ∧ ∀ (ro : Option Nat) (n : Nat) (R : Ending → World → Prop),
      (∀ γ' w' u, GH γ' w' → Fr (wrtn lg') γ γ' w w' → DV γ' w' v u → (∀ id c, so id → ob'.get id = some c → HoldsO P γ' w' id c) → (∀ id, so id → nx'.nat ≤ id.nat → γ'.cur id = 0) → R (.returned u) w') →
      RoundIn (FW ro) n P (γ.β id 0).1 fn tmps asg body w R

theorem parmK_ok {γ : Gh} {w : World} : ∀ {ps : List Pos} {ds : List D} {t : T D} {k : T D → Option X} {Z : X}, parmK ps ds t k = some Z → ∃ t', k t' = some Z ∧ ps.length = ds.length ∧
    ∀ {γ : Gh} {w : World} {args : List Value} {tmps : Array Value}, DVL γ w ds args → (∀ p, p ∈ ps → p.ix < tmps.size) → (∀ s d, t.get s = some d → s.ix < tmps.size ∧ DV γ w d (tmps.getD s.ix undef)) →
      (((ps.map Pos.ix).zip args).foldl (fun tmps (t, a) => tmps.setIfInBounds t a) tmps).size = tmps.size ∧
      ∀ s d, t'.get s = some d → s.ix < tmps.size ∧ DV γ w d ((((ps.map Pos.ix).zip args).foldl (fun tmps (t, a) => tmps.setIfInBounds t a) tmps).getD s.ix undef)
  | [], [], t, k, Z, h => ⟨t, h, rfl, fun {γ w args tmps} ha _ hs => by
      unfold DVL at ha
      subst ha
      exact ⟨rfl, hs⟩⟩
  | [], d :: ds, t, k, Z, h => by cases h
  | p :: ps, [], t, k, Z, h => by cases h
  | p :: ps, d :: ds, t, k, Z, h => by
    have h : T.setK p d t (fun t => parmK ps ds t k) = some Z := h
    rw [T.setK_eq] at h
    obtain ⟨t', h1, h2, h3⟩ := parmK_ok (γ := γ) (w := w) h
    refine ⟨t', h1, by simp [h2], fun {γ w args tmps} ha hp hs => ?_⟩
    unfold DVL at ha
    obtain ⟨v, r, rfl, ha1, ha2⟩ := ha
    have hpl := hp p (by simp)
    obtain ⟨h4, h5⟩ := h3 (tmps := tmps.setIfInBounds p.ix v) ha2 (fun q hq => by rw [Array.size_setIfInBounds]; exact hp q (by simp [hq])) (fun s e hs' => by
      rw [Array.size_setIfInBounds]
      by_cases es : s = p
      · subst es
        rw [T.get_set_same] at hs'
        cases hs'
        refine ⟨hpl, ?_⟩
        simp [hpl]; exact ha1
      · rw [T.get_set_ne es] at hs'
        obtain ⟨q1, q2⟩ := hs s e hs'
        refine ⟨q1, ?_⟩
        have hne : p.ix ≠ s.ix := fun e => es (Pos.ix_inj e.symm)
        simp [Array.getElem?_setIfInBounds_ne hne]
        simpa using q2)
    simp only [List.map_cons, List.zip_cons_cons, List.foldl_cons]
    rw [Array.size_setIfInBounds] at h4 h5
    exact ⟨h4, h5⟩

section
variable {P : Program} {FP : T RF} {ex : RC → X → Option (Ex × X)}

/-- The record is written. -/
theorem loop_put {ro : Option Nat} {γ : Gh} {a : Act} {w : World} {id : Pos} {l l' : Loop} (g : G ro γ a w) (hst : 0 < γ.cur id) (hob : w.heap[(γ.β id 0).1]? = some (.loop l)) :
    Fr (fun j => j = id) γ γ w (w.putObj (γ.β id 0).1 (.loop l')) ∧ ∀ a' : Act, a'.defers = a.defers → G ro γ a' (w.putObj (γ.β id 0).1 (.loop l')) :=
  same_all g id (by simp [World.putObj]) (fun c hc hn => World.putObj_heap_other (fun e => hn 0 hst e.symm))
    (fun c x hx => by
      have hne : c ≠ (γ.β id 0).1 := by
        rintro rfl
        unfold World.shape? at hx
        rw [hob] at hx
        cases hx
      rw [shape_same (World.putObj_heap_other hne)]; exact hx)
    (fun c r hr => by
      by_cases e : c = (γ.β id 0).1
      · subst e
        exact ⟨l', World.putObj_heap_same (Array.getElem?_eq_some_iff.1 hob).1⟩
      · exact ⟨r, by rw [World.putObj_heap_other e]; exact hr⟩) ⟨rfl, rfl, rfl⟩ (frozen_put w _ _ (fun _ _ _ h => by cases h) fun vs e fr h => by rw [hob] at h; cases h)

theorem callV_ok (hFP : FPok P FP) (IH : ∀ nt c x e Z, ex (comp P nt c) x = some (e, Z) → XOk P nt c x e Z) {v0 : D} {ds : List D} {ob : T C} {nx : Pos} {lg : Option (T Bool)} {k : D → T C → Pos → Option (T Bool) → Option X} {Z : X} (h : callV P FP ex v0 ds ob nx lg k = some Z) :
    (∃ f first caps v ob' nx' lg', v0 = .fn f first caps ∧ k v ob' nx' lg' = some Z ∧ CallOk P f.ix (first ++ (ds ++ caps)) ob nx lg v ob' nx' lg') ∨
    (∃ id v ob' nx' lg', v0 = .yl id ∧ k v ob' nx' lg' = some Z ∧ RndOk P id ds ob nx lg v ob' nx' lg') := by
  unfold callV at h
  split at h
  · rename_i f first caps
    obtain ⟨v, ob', nx', lg', h1, h2⟩ := callF_ok hFP IH h
    exact .inl ⟨f, first, caps, v, ob', nx', lg', rfl, h1, h2⟩
  · rename_i id
    right
    split at h
    · rename_i sl ps nt asg body j0 hob0
      obtain ⟨sl', h1, hplen, hpar⟩ := parmK_ok (γ := ⟨fun _ => 0, fun _ _ => (0, 0), fun _ => False⟩) (w := default) h
      split at h1
      · rename_i sl2 ob1 nx1 lg1 hasg
        split at h1
        · rename_i a1 b1 m1 c1 d1 j1 hob1
          rw [T.setK_eq] at h1
          obtain ⟨lg2, h2, hl2, hw2⟩ := logW_ok h1
          split at h2
          · rename_i e sl3 ob3 nx3 lg3 hbody
            split at h2
            · rename_i a3 b3 m3 c3 d3 s3 j3 hob3
              have X1 := IH _ _ _ _ _ hasg
              have X2 := IH _ _ _ _ _ hbody
              have main : ∀ (st' : LS) (jj : Option Ex) (bv : Bool), k (.b bv) (T.set id (.lp a3 b3 m3 c3 d3 st' jj) ob3) nx3 lg3 = some Z → ((e = .normal ∧ st' = .ready ∧ jj = none ∧ bv = true) ∨ (e ≠ .normal ∧ st' = .done ∧ jj = some e ∧ bv = false)) →
                  ∃ id' v ob' nx' lg', D.yl id = .yl id' ∧ k v ob' nx' lg' = some Z ∧ RndOk P id' ds ob nx lg v ob' nx' lg' := by
                intro st' jj bv hk hcase
                refine ⟨id, .b bv, _, nx3, lg3, rfl, hk, X1.lg.trans (hl2.trans X2.lg), Nat.le_trans X1.nx X2.nx, Keeps.set (Keeps.trans X2.lg (Keeps.set (a := ob) (b := ob1) (fun id hn => X1.obf id fun hw => hn (hl2.w id hw)) hw2 _) X2.obf) (X2.lg.w id hw2) _, fun so hso γ args w gh hargs hob hnx hcur => ?_⟩
                have hsoid : so id := hso id (X2.lg.t id hw2.tchd)
                obtain ⟨hc1, l, hl, hst, _, hsl, hps, hpb, hntl, rfl, rfl⟩ := hob id _ hsoid hob0
                obtain ⟨bk, hbk⟩ : ∃ bk, bk = (γ.β id 0).1 := ⟨_, rfl⟩
                rw [← hbk] at hl ⊢
                have hpsz : args.size = l.params.size := by
                  have e1 : l.params.toList.length = ps.length := by rw [hps]; simp
                  have e2 := (DVL_iff.1 hargs).1
                  simp at e1 e2
                  omega
                have hfold : (l.params.zip args).foldl (fun tmps (t, a) => tmps.setIfInBounds t a) l.tmps = ((ps.map Pos.ix).zip args.toList).foldl (fun tmps (t, a) => tmps.setIfInBounds t a) l.tmps := by
                  rw [← Array.foldl_toList, Array.toList_zip, hps]
                obtain ⟨hsz, hsl'⟩ := hpar (tmps := l.tmps) hargs hpb hsl
                refine ⟨l.fn, _, l.assign, l.body, run_yield hl hpsz, fun ro n R hR => ?_⟩
                rw [hfold]
                refine roundIn_of_wpIn trivial ?_
                have g0 : G (some bk) γ { tmps := ((ps.map Pos.ix).zip args.toList).foldl (fun tmps (t, a) => tmps.setIfInBounds t a) l.tmps, defers := [] } w :=
                  ⟨gh.ob, gh.inj, ⟨[], rfl, List.nodup_nil, fun r hr => by cases hr⟩, (fun l' hl' => by cases hl'; exact ⟨l, hl⟩), gh.im, gh.gl⟩
                refine X1.ok so (fun j hj => hso j (X2.lg.t j (hl2.t j hj))) (some bk) γ _ w (by show Array.size _ = nt; rw [hsz]; exact hntl) g0 ⟨fun s d _ hd => ?_, hob, hnx, gh.gl⟩ n _ fun γ1 a1' w1 cst1 rep1 => ?_
                · show s.ix < Array.size _ ∧ _
                  rw [hsz]; exact hsl' s d hd
                · -- the round begins
                  have hβ1 : (γ1.β id 0).1 = bk := by rw [cst1.fr.up.β id 0 hcur, hbk]
                  have hcur1 : 0 < γ1.cur id := Nat.lt_of_lt_of_le hcur (cst1.fr.up.cur id)
                  obtain ⟨hc2, l1, hl1, hst1, hpd1, hsl1, hps1, hpb1, hnt1, ha1, hb1⟩ := rep1.ob id _ hsoid hob1
                  rw [hβ1] at hl1
                  refine ⟨_, run_beginRound hl1 (by rw [hst1]; rfl), ?_⟩
                  have hlt1 : bk < w1.heap.size := (Array.getElem?_eq_some_iff.1 hl1).1
                  have LP := loop_put (l' := { l1 with state := .busy }) cst1.g hcur1 (by rw [hβ1]; exact hl1)
                  rw [hβ1] at LP
                  obtain ⟨F2, g2⟩ := LP
                  have rep2 : Rep P (allS so) γ1 a1' (w1.putObj bk (.loop { l1 with state := .busy })) ⟨sl2, T.set id (.lp a1 b1 m1 c1 d1 .busy j1) ob1, nx1, lg2⟩ := by
                    refine ⟨fun s d hs hd => ⟨(rep1.sl s d hs hd).1, DV.mono F2.up _ _ (rep1.sl s d hs hd).2⟩, others_hold rep1 cst1.g F2 fun _ => ?_, rep1.nx, rep1.gl.up F2.up⟩
                    refine ⟨hc2, { l1 with state := .busy }, by rw [hβ1]; exact World.putObj_heap_same hlt1, rfl, hpd1, fun s d hd => ⟨(hsl1 s d hd).1, DV.mono F2.up _ _ (hsl1 s d hd).2⟩, hps1, hpb1, hnt1, ha1, hb1⟩
                  have key := X2.ok so hso (some bk) γ1 a1' (w1.putObj bk (.loop { l1 with state := .busy })) (by rw [cst1.sz]; show Array.size _ = nt; rw [hsz]; exact hntl) (g2 _ rfl) rep2 n (roundPost P bk R)
                  refine key fun γ3 a3' w3 cst3 rep3 => ?_
                  have hβ3 : (γ3.β id 0).1 = bk := by rw [cst3.fr.up.β id 0 hcur1, hβ1]
                  have hcur3 : 0 < γ3.cur id := Nat.lt_of_lt_of_le hcur1 (cst3.fr.up.cur id)
                  obtain ⟨hc4, l3, hl3, hst3, hpd3, hsl3, hps3, hpb3, hnt3, ha3, hb3⟩ := rep3.ob id _ hsoid hob3
                  rw [hβ3] at hl3
                  have hlt3 : bk < w3.heap.size := (Array.getElem?_eq_some_iff.1 hl3).1
                  have fin : ∀ (jump : Option Code), jump = jj.bind Ex.code → (if jump.isNone then LoopState.ready else .done) = st'.st → jump.isNone = bv → ∃ v w', (Instr.endRound bk jump).run P w3 = .ok v w' ∧ R (.returned v) w' := by
                    intro jump hjump hstt hbv
                    refine ⟨_, _, run_endRound jump hl3, ?_⟩
                    have LP := loop_put (l' := { l3 with state := if jump.isNone then .ready else .done, pending := jump }) cst3.g hcur3 (by rw [hβ3]; exact hl3)
                    rw [hβ3] at LP
                    obtain ⟨F4, g4⟩ := LP
                    have hw3 : wrtn lg3 id := X2.lg.w id hw2
                    refine hR γ3 _ _ (g4 a3' rfl).gh ?_ (by rw [hbv]; exact DV_of_b _) (others_hold rep3 cst3.g F4 fun _ => ?_) rep3.nx
                    · have m1 := (cst1.fr.mono hl2.w).mono X2.lg.w
                      exact ((m1.trans (F2.mono fun j e => by rw [e]; exact hw3)).trans cst3.fr).trans (F4.mono fun j e => by rw [e]; exact hw3)
                    · refine ⟨hc4, { l3 with state := if jump.isNone then .ready else .done, pending := jump }, by rw [hβ3]; exact World.putObj_heap_same hlt3, hstt, hjump, fun s d hd => ⟨(hsl3 s d hd).1, DV.mono F4.up _ _ (hsl3 s d hd).2⟩, hps3, hpb3, hnt3, ha3, hb3⟩
                  rcases hcase with ⟨rfl, rfl, rfl, rfl⟩ | ⟨hne, rfl, rfl, rfl⟩
                  · exact fin none rfl rfl rfl
                  · cases e with
                    | normal => exact absurd rfl hne
                    | ret => exact fin (some .ret) rfl rfl rfl
                    | exit i => exact fin (some (.exit i)) rfl rfl rfl
              cases e with
              | normal =>
                simp only at h2
                rw [T.setK_eq] at h2
                exact main .ready none true h2 (.inl ⟨rfl, rfl, rfl, rfl⟩)
              | ret =>
                simp only at h2
                rw [T.setK_eq] at h2
                exact main .done (some .ret) false h2 (.inr ⟨by simp, rfl, rfl, rfl⟩)
              | exit i =>
                simp only at h2
                rw [T.setK_eq] at h2
                exact main .done (some (.exit i)) false h2 (.inr ⟨by simp, rfl, rfl, rfl⟩)
            · cases h2
          · cases h2
        · cases h1
      · cases h1
    · cases h
  · cases h
end
end Go.Ev
