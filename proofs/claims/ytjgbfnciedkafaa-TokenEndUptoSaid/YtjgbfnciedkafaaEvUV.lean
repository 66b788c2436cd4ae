import Derived.Test.YtjgbfnciedkafaaEvUS
import Derived.OrdersIn
set_option linter.all false
namespace Go.Ev
open Go.RowKit (Below)

structure RndOk (P : Program) (id : Pos) (ds : List D) (ob : T C) (nx : Pos) (lg : Option (T Bool)) (v : D) (ob' : T C) (nx' : Pos) (lg' : Option (T Bool)) : Prop where
  hl : LgLe lg lg'
  hx : nx.nat ≤ nx'.nat
  hk : Keeps lg' ob ob'
  ok : ∀ so : Pos → Prop, (∀ id, tchd lg' id → so id) → ∀ (γ : Gh) (args : Array Value) (w : World), GH γ w → DVL γ w ds args.toList → (∀ id c, so id → ob.get id = some c → HoldsO P γ w id c) → (∀ id, so id → nx.nat ≤ id.nat → γ.cur id = 0) → 0 < γ.cur id →
    ∃ fn tmps asg body, (Instr.yield (γ.β id 0).1 args).run P w = .ok (.round (γ.β id 0).1 fn tmps asg body) w ∧ ∀ (ro : Option Nat) (n : Nat) (R : Ending → World → Prop),
      (∀ γ' w' u, GH γ' w' → Fr (wrtn lg') γ γ' w w' → DV γ' w' v u → (∀ id c, so id → ob'.get id = some c → HoldsO P γ' w' id c) → (∀ id, so id → nx'.nat ≤ id.nat → γ'.cur id = 0) → R (.returned u) w') →
      RoundIn (FW ro) n P (γ.β id 0).1 fn tmps asg body w R

theorem parmK_ok {γ : Gh} {w : World} : ∀ {ps : List Pos} {ds : List D} {t : T D} {k : T D → Option X} {Z : X}, parmK ps ds t k = some Z → ∃ t', k t' = some Z ∧ ps.length = ds.length ∧
    ∀ {γ : Gh} {w : World} {args : List Value} {tmps : Array Value}, DVL γ w ds args → (∀ p, p ∈ ps → p.ix < tmps.size) → (∀ s d, t.get s = some d → s.ix < tmps.size ∧ DV γ w d (tmps.getD s.ix undef)) →
      (((ps.map Pos.ix).zip args).foldl (fun tmps (t, a) => tmps.setIfInBounds t a) tmps).size = tmps.size ∧
      ∀ s d, t'.get s = some d → s.ix < tmps.size ∧ DV γ w d ((((ps.map Pos.ix).zip args).foldl (fun tmps (t, a) => tmps.setIfInBounds t a) tmps).getD s.ix undef)
  | [], [], t, k, Z, h => ⟨t, h, rfl, fun {γ w args tmps} ha _ hs => by
      unfold DVL at ha
      subst ha
      exact ⟨rfl, hs⟩⟩
  | [], d :: ds, t, k, Z, h => by cases h
  | p :: ps, [], t, k, Z, h => by cases h
  | p :: ps, d :: ds, t, k, Z, h => by
    have h : T.setK p d t (fun t => parmK ps ds t k) = some Z := h
    rw [T.setK_eq] at h
    obtain ⟨t', h1, h2, h3⟩ := parmK_ok (γ := γ) (w := w) h
    refine ⟨t', h1, by simp [h2], fun {γ w args tmps} ha hp hs => ?_⟩
    unfold DVL at ha
    obtain ⟨v, r, rfl, ha1, ha2⟩ := ha
    have hpl := hp p (by simp)
    obtain ⟨h4, h5⟩ := h3 (tmps := tmps.setIfInBounds p.ix v) ha2 (fun q hq => by rw [Array.size_setIfInBounds]; exact hp q (by simp [hq])) (fun s e hs' => by
      rw [Array.size_setIfInBounds]
      by_cases es : s = p
      · subst es
        rw [T.get_set_same] at hs'
        cases hs'
        refine ⟨hpl, ?_⟩
        simp [hpl]; exact ha1
      · rw [T.get_set_ne es] at hs'
        obtain ⟨q1, q2⟩ := hs s e hs'
        refine ⟨q1, ?_⟩
        have hne : p.ix ≠ s.ix := fun e => es (Pos.ix_inj e.symm)
        simp [Array.getElem?_setIfInBounds_ne hne]
        simpa using q2)
    simp only [List.map_cons, List.zip_cons_cons, List.foldl_cons]
    rw [Array.size_setIfInBounds] at h4 h5
    exact ⟨h4, h5⟩

section
variable {P : Program} {FP : T RF} {ex : RC → X → Option (Ex × X)}

theorem loop_put {ro : Option Nat} {γ : Gh} {a : Act} {w : World} {id : Pos} {l l' : Loop} (g : G ro γ a w) (hst : 0 < γ.cur id) (hob : w.heap[(γ.β id 0).1]? = some (.loop l)) :
    Fr (fun j => j = id) γ γ w (w.putObj (γ.β id 0).1 (.loop l')) ∧ ∀ a' : Act, a'.defers = a.defers → G ro γ a' (w.putObj (γ.β id 0).1 (.loop l')) :=
  same_all g id (by simp [World.putObj]) (fun c hc hn => World.putObj_heap_other (fun e => hn 0 hst e.symm))
    (fun c x hx => by
      have hne : c ≠ (γ.β id 0).1 := by
        rintro rfl
        unfold World.shape? at hx
        rw [hob] at hx
        cases hx
      rw [shape_same (World.putObj_heap_other hne)]; exact hx)
    (fun c r hr => by
      by_cases e : c = (γ.β id 0).1
      · subst e
        exact ⟨l', World.putObj_heap_same (Array.getElem?_eq_some_iff.1 hob).1⟩
      · exact ⟨r, by rw [World.putObj_heap_other e]; exact hr⟩) ⟨rfl, rfl, rfl⟩ (frozen_put w _ _ (fun _ _ _ h => by cases h) fun vs e fr h => by rw [hob] at h; cases h)

theorem callV_ok (hFP : FPok P FP) (IH : ∀ nt c x e Z, ex (comp P nt c) x = some (e, Z) → XOk P nt c x e Z) {v0 : D} {ds : List D} {ob : T C} {nx : Pos} {lg : Option (T Bool)} {k : D → T C → Pos → Option (T Bool) → Option X} {Z : X} (h : callV P FP ex v0 ds ob nx lg k = some Z) :
    (∃ f first caps v ob' nx' lg', v0 = .fn f first caps ∧ k v ob' nx' lg' = some Z ∧ CallOk P f.ix (first ++ (ds ++ caps)) ob nx lg v ob' nx' lg') ∨
    (∃ id v ob' nx' lg', v0 = .yl id ∧ k v ob' nx' lg' = some Z ∧ RndOk P id ds ob nx lg v ob' nx' lg') := by
  unfold callV at h
  split at h
  · rename_i f first caps
    obtain ⟨v, ob', nx', lg', h1, h2⟩ := callF_ok hFP IH h
    exact .inl ⟨f, first, caps, v, ob', nx', lg', rfl, h1, h2⟩
  · rename_i id
    right
    split at h
    · rename_i sl ps nt asg body j0 hob0
      obtain ⟨sl', h1, hplen, hpar⟩ := parmK_ok (γ := ⟨fun _ => 0, fun _ _ => (0, 0), fun _ => False⟩) (w := default) h
      split at h1
      · rename_i sl2 ob1 nx1 lg1 hasg
        split at h1
        · rename_i a1 b1 m1 c1 d1 j1 hob1
          rw [T.setK_eq] at h1
          obtain ⟨lg2, h2, hl2, hw2⟩ := logW_ok h1
          split at h2
          · rename_i e sl3 ob3 nx3 lg3 hbody
            split at h2
            · rename_i a3 b3 m3 c3 d3 s3 j3 hob3
              have X1 := IH _ _ _ _ _ hasg
              have X2 := IH _ _ _ _ _ hbody
              have main : ∀ (st' : LS) (jj : Option Ex) (bv : Bool), k (.b bv) (T.set id (.lp a3 b3 m3 c3 d3 st' jj) ob3) nx3 lg3 = some Z → ((e = .normal ∧ st' = .ready ∧ jj = none ∧ bv = true) ∨ (e ≠ .normal ∧ st' = .done ∧ jj = some e ∧ bv = false)) →
                  ∃ id' v ob' nx' lg', D.yl id = .yl id' ∧ k v ob' nx' lg' = some Z ∧ RndOk P id' ds ob nx lg v ob' nx' lg' := by
                intro st' jj bv hk hcase
                refine ⟨id, .b bv, _, nx3, lg3, rfl, hk, X1.lg.trans (hl2.trans X2.lg), Nat.le_trans X1.nx X2.nx, Keeps.set (Keeps.trans X2.lg (Keeps.set (a := ob) (b := ob1) (fun id hn => X1.obf id fun hw => hn (hl2.w id hw)) hw2 _) X2.obf) (X2.lg.w id hw2) _, fun so hso γ args w gh hargs hob hnx hcur => ?_⟩
                have hsoid : so id := hso id (X2.lg.t id hw2.tchd)
                obtain ⟨hc1, l, hl, hst, _, hsl, hps, hpb, hntl, rfl, rfl⟩ := hob id _ hsoid hob0
                obtain ⟨bk, hbk⟩ : ∃ bk, bk = (γ.β id 0).1 := ⟨_, rfl⟩
                rw [← hbk] at hl ⊢
                have hpsz : args.size = l.params.size := by
                  have e1 : l.params.toList.length = ps.length := by rw [hps]; simp
                  have e2 := (DVL_iff.1 hargs).1
                  simp at e1 e2
                  omega
                have hfold : (l.params.zip args).foldl (fun tmps (t, a) => tmps.setIfInBounds t a) l.tmps = ((ps.map Pos.ix).zip args.toList).foldl (fun tmps (t, a) => tmps.setIfInBounds t a) l.tmps := by
                  rw [← Array.foldl_toList, Array.toList_zip, hps]
                obtain ⟨hsz, hsl'⟩ := hpar (tmps := l.tmps) hargs hpb hsl
                refine ⟨l.fn, _, l.assign, l.body, run_yield hl hpsz, fun ro n R hR => ?_⟩
                rw [hfold]
                refine roundIn_of_wpIn trivial ?_
                have g0 : G (some bk) γ { tmps := ((ps.map Pos.ix).zip args.toList).foldl (fun tmps (t, a) => tmps.setIfInBounds t a) l.tmps, defers := [] } w :=
                  ⟨gh.ob, gh.inj, ⟨[], rfl, List.nodup_nil, fun r hr => by cases hr⟩, (fun l' hl' => by cases hl'; exact ⟨l, hl⟩), gh.im, gh.gl⟩
                refine X1.ok so (fun j hj => hso j (X2.lg.t j (hl2.t j hj))) (some bk) γ _ w (by show Array.size _ = nt; rw [hsz]; exact hntl) g0 ⟨fun s d _ hd => ?_, hob, hnx, gh.gl⟩ n _ fun γ1 a1' w1 cst1 rep1 => ?_
                · show s.ix < Array.size _ ∧ _
                  rw [hsz]; exact hsl' s d hd
                · -- the round begins
                  have hβ1 : (γ1.β id 0).1 = bk := by rw [cst1.fr.up.β id 0 hcur, hbk]
                  have hcur1 : 0 < γ1.cur id := Nat.lt_of_lt_of_le hcur (cst1.fr.up.cur id)
                  obtain ⟨hc2, l1, hl1, hst1, hpd1, hsl1, hps1, hpb1, hnt1, ha1, hb1⟩ := rep1.ob id _ hsoid hob1
                  rw [hβ1] at hl1
                  refine ⟨_, run_beginRound hl1 (by rw [hst1]; rfl), ?_⟩
                  have hlt1 : bk < w1.heap.size := (Array.getElem?_eq_some_iff.1 hl1).1
                  have LP := loop_put (l' := { l1 with state := .busy }) cst1.g hcur1 (by rw [hβ1]; exact hl1)
                  rw [hβ1] at LP
                  obtain ⟨F2, g2⟩ := LP
                  have rep2 : Rep P (allS so) γ1 a1' (w1.putObj bk (.loop { l1 with state := .busy })) ⟨sl2, T.set id (.lp a1 b1 m1 c1 d1 .busy j1) ob1, nx1, lg2⟩ := by
                    refine ⟨fun s d hs hd => ⟨(rep1.sl s d hs hd).1, DV.mono F2.up _ _ (rep1.sl s d hs hd).2⟩, others_hold rep1 cst1.g F2 fun _ => ?_, rep1.nx, rep1.gl.up F2.up⟩
                    refine ⟨hc2, { l1 with state := .busy }, by rw [hβ1]; exact World.putObj_heap_same hlt1, rfl, hpd1, fun s d hd => ⟨(hsl1 s d hd).1, DV.mono F2.up _ _ (hsl1 s d hd).2⟩, hps1, hpb1, hnt1, ha1, hb1⟩
                  have key := X2.ok so hso (some bk) γ1 a1' (w1.putObj bk (.loop { l1 with state := .busy })) (by rw [cst1.sz]; show Array.size _ = nt; rw [hsz]; exact hntl) (g2 _ rfl) rep2 n (roundPost P bk R)
                  refine key fun γ3 a3' w3 cst3 rep3 => ?_
                  have hβ3 : (γ3.β id 0).1 = bk := by rw [cst3.fr.up.β id 0 hcur1, hβ1]
                  have hcur3 : 0 < γ3.cur id := Nat.lt_of_lt_of_le hcur1 (cst3.fr.up.cur id)
                  obtain ⟨hc4, l3, hl3, hst3, hpd3, hsl3, hps3, hpb3, hnt3, ha3, hb3⟩ := rep3.ob id _ hsoid hob3
                  rw [hβ3] at hl3
                  have hlt3 : bk < w3.heap.size := (Array.getElem?_eq_some_iff.1 hl3).1
                  have fin : ∀ (jump : Option Code), jump = jj.bind Ex.code → (if jump.isNone then LoopState.ready else .done) = st'.st → jump.isNone = bv → ∃ v w', (Instr.endRound bk jump).run P w3 = .ok v w' ∧ R (.returned v) w' := by
                    intro jump hjump hstt hbv
                    refine ⟨_, _, run_endRound jump hl3, ?_⟩
                    have LP := loop_put (l' := { l3 with state := if jump.isNone then .ready else .done, pending := jump }) cst3.g hcur3 (by rw [hβ3]; exact hl3)
                    rw [hβ3] at LP
                    obtain ⟨F4, g4⟩ := LP
                    have hw3 : wrtn lg3 id := X2.lg.w id hw2
                    refine hR γ3 _ _ (g4 a3' rfl).gh ?_ (by rw [hbv]; exact DV_of_b _) (others_hold rep3 cst3.g F4 fun _ => ?_) rep3.nx
                    · have m1 := (cst1.fr.mono hl2.w).mono X2.lg.w
                      exact ((m1.trans (F2.mono fun j e => by rw [e]; exact hw3)).trans cst3.fr).trans (F4.mono fun j e => by rw [e]; exact hw3)
                    · refine ⟨hc4, { l3 with state := if jump.isNone then .ready else .done, pending := jump }, by rw [hβ3]; exact World.putObj_heap_same hlt3, hstt, hjump, fun s d hd => ⟨(hsl3 s d hd).1, DV.mono F4.up _ _ (hsl3 s d hd).2⟩, hps3, hpb3, hnt3, ha3, hb3⟩
                  rcases hcase with ⟨rfl, rfl, rfl, rfl⟩ | ⟨hne, rfl, rfl, rfl⟩
                  · exact fin none rfl rfl rfl
                  · cases e with
                    | normal => exact absurd rfl hne
                    | ret => exact fin (some .ret) rfl rfl rfl
                    | exit i => exact fin (some (.exit i)) rfl rfl rfl
              cases e with
              | normal =>
                simp only at h2
                rw [T.setK_eq] at h2
                exact main .ready none true h2 (.inl ⟨rfl, rfl, rfl, rfl⟩)
              | ret =>
                simp only at h2
                rw [T.setK_eq] at h2
                exact main .done (some .ret) false h2 (.inr ⟨by simp, rfl, rfl, rfl⟩)
              | exit i =>
                simp only at h2
                rw [T.setK_eq] at h2
                exact main .done (some (.exit i)) false h2 (.inr ⟨by simp, rfl, rfl, rfl⟩)
            · cases h2
          · cases h2
        · cases h1
      · cases h1
    · cases h
  · cases h
end
end Go.Ev

namespace Go.Ev
open Go.RowKit (Below)

section
variable {P : Program} {FP : T RF} {ex : RC → X → Option (Ex × X)} {sl : T D} {ob : T C} {nx : Pos} {lg : Option (T Bool)} {nt : Nat} {o : Oper}

theorem dst_fin {V : Sel} {ro : Option Nat} {lg' : Option (T Bool)} {γ γ' : Gh} {a : Act} {w w' : World} {ob' : T C} {nx' : Pos} {dst : Option Pos} {v : D} {u : Value} {Z : X} (hd : o.dst = dst.map Pos.ix) (hlt : ∀ d, dst = some d → d.ix < a.tmps.size) (R : Rep P V γ a w ⟨sl, ob, nx, lg⟩)
    (hz : dstK sl ob' nx' lg' dst v = some Z) (F : Fr (wrtn lg') γ γ' w w') (g' : ∀ a' : Act, a'.defers = a.defers → G ro γ' a' w') (hv : DV γ' w' v u)
    (ho : ∀ id c, V.so id → ob'.get id = some c → HoldsO P γ' w' id c) (hn : ∀ id, V.so id → nx'.nat ≤ id.nat → γ'.cur id = 0) :
    Z.lg = lg' ∧ Z.nx = nx' ∧ St ro lg' o.dst γ a w γ' (a.put o.dst u) w' ∧ Rep P V γ' (a.put o.dst u) w' Z := by
  cases dst with
  | some d =>
    obtain rfl := outK_eq hz
    obtain ⟨s1, r1⟩ := St.value (P := P) (sl := sl) (ob := ob) (nx := nx) (lg := lg) (o := o) (hlt d rfl) hd R F g' hv ho hn
    exact ⟨rfl, rfl, s1, r1⟩
  | none =>
    cases hz
    have hd : o.dst = none := hd
    rw [hd]
    exact ⟨rfl, rfl, ⟨g' _ rfl, F, rfl, rfl, fun s _ => rfl⟩, ⟨fun s e hss he => ⟨(R.sl s e hss he).1, DV.mono F.up _ _ (R.sl s e hss he).2⟩, ho, hn, R.gl.up F.up⟩⟩
theorem dstK_lg {ob' : T C} {nx' : Pos} {lg' : Option (T Bool)} {dst : Option Pos} {v : D} {Z : X} (hz : dstK sl ob' nx' lg' dst v = some Z) : Z.lg = lg' ∧ Z.nx = nx' ∧ Z.ob = ob' ∧ ∀ s : Pos, dst.map Pos.ix ≠ some s.ix → Z.sl.get s = sl.get s := by
  cases dst with
  | some d => obtain rfl := outK_eq hz; exact ⟨rfl, rfl, rfl, fun s hs => T.get_set_ne (fun e => hs (by rw [e]; rfl)) _ _⟩
  | none => cases hz; exact ⟨rfl, rfl, rfl, fun _ _ => rfl⟩

theorem call_op {names : List Pos} {dst : Option Pos} {f : FuncId} {ds : List D} {v : D} {ob' : T C} {nx' : Pos} {lg' : Option (T Bool)} {Z : X} (hd : o.dst = dst.map Pos.ix) (hlt : ∀ d, dst = some d → d.ix < nt) (hz : dstK sl ob' nx' lg' dst v = some Z) (C : CallOk P f ds ob nx lg v ob' nx' lg')
    (hrun : ∀ {V : Sel} {γ : Gh} {a : Act} {w : World}, Rep P V γ a w ⟨sl, ob, nx, lg⟩ → (∀ s, s ∈ names → V.ss s) → ∃ args : Array Value, DVL γ w ds args.toList ∧ ((callFunc f args).run P w = .ok (.enter f args) w → (execOp a.eval o).run P w = .ok (.enter f args) w)) :
    OpOk P nt o names ⟨sl, ob, nx, lg⟩ Z := by
  obtain ⟨h1, h2, h3, h4⟩ := dstK_lg hz
  refine ⟨h1.symm ▸ C.hl, h2.symm ▸ C.hx, by rw [h1, h3]; exact C.hk, fun s hs => h4 s (by rw [← hd]; exact hs), fun V hs hto ro γ a w hn g R n K Q hK => ?_⟩
  rw [h1] at hto hK
  obtain ⟨args, hargs, hr⟩ := hrun R hs
  obtain ⟨hc, hcalls⟩ := C.ok V.so hto γ args w g.gh hargs R.ob R.nx
  refine wpIn_of (hr (hc w)) (fun _ h => by cases h) ?_
  rw [Oper.uponIn_enter]
  refine ⟨(fun h => by cases h), hcalls ro (n - 1) _ fun γ' w' u gh' F hv ho hn' => ?_⟩
  obtain ⟨_, _, s1, r1⟩ := dst_fin (ro := ro) (a := a) hd (fun d e => by rw [hn]; exact hlt d e) R hz F (fun a' ha => g.of F ha gh'.ob gh'.inj gh'.im) hv ho hn'
  exact hK γ' _ w' s1 r1

theorem rnd_op {names : List Pos} {dst : Option Pos} {id : Pos} {ds : List D} {v : D} {ob' : T C} {nx' : Pos} {lg' : Option (T Bool)} {Z : X} (hd : o.dst = dst.map Pos.ix) (hlt : ∀ d, dst = some d → d.ix < nt) (hz : dstK sl ob' nx' lg' dst v = some Z) (C : RndOk P id ds ob nx lg v ob' nx' lg')
    (hrun : ∀ {V : Sel} {γ : Gh} {a : Act} {w : World}, Rep P V γ a w ⟨sl, ob, nx, lg⟩ → (∀ s, s ∈ names → V.ss s) → 0 < γ.cur id ∧ ∃ args : Array Value, DVL γ w ds args.toList ∧ ∀ x, (Instr.yield (γ.β id 0).1 args).run P w = .ok x w → (execOp a.eval o).run P w = .ok x w) :
    OpOk P nt o names ⟨sl, ob, nx, lg⟩ Z := by
  obtain ⟨h1, h2, h3, h4⟩ := dstK_lg hz
  refine ⟨h1.symm ▸ C.hl, h2.symm ▸ C.hx, by rw [h1, h3]; exact C.hk, fun s hs => h4 s (by rw [← hd]; exact hs), fun V hs hto ro γ a w hn g R n K Q hK => ?_⟩
  rw [h1] at hto hK
  obtain ⟨hcur, args, hargs, hr⟩ := hrun R hs
  obtain ⟨fn, tmps, asg, body, hy, hrounds⟩ := C.ok V.so hto γ args w g.gh hargs R.ob R.nx hcur
  refine wpIn_of (hr _ hy) (fun _ h => by cases h) ?_
  rw [Oper.uponIn_round]
  refine ⟨(fun h => by cases h), hrounds ro (n - 1) _ fun γ' w' u gh' F hv ho hn' => ?_⟩
  obtain ⟨_, _, s1, r1⟩ := dst_fin (ro := ro) (a := a) hd (fun d e => by rw [hn]; exact hlt d e) R hz F (fun a' ha => g.of F ha gh'.ob gh'.inj gh'.im) hv ho hn'
  exact hK γ' _ w' s1 r1

theorem dst_opt {d : Option Tmp} {r : RO} {f : Option Pos → RO} (h : (match d with
    | none => some (f none)
    | some s => (slotN nt s).map fun d => f (some d)) = some r) : ∃ dst : Option Pos, r = f dst ∧ d = dst.map Pos.ix ∧ ∀ e, dst = some e → e.ix < nt := by
  cases d with
  | none => cases h; exact ⟨none, rfl, rfl, fun e he => by cases he⟩
  | some s =>
    cases hs : slotN nt s with
    | none => simp only [hs] at h; cases h
    | some e =>
      simp only [hs, Option.map_some] at h
      cases h
      obtain ⟨h1, h2⟩ := slotN_ix hs
      exact ⟨some e, rfl, by simp [h1], fun e' he => by cases he; rw [h1]; exact h2⟩

theorem runO_ok (hFP : FPok P FP) (IH : ∀ nt c x e Z, ex (comp P nt c) x = some (e, Z) → XOk P nt c x e Z) {r : RO} {Z : X} (hc : compO P nt o = some r) (h : runO P FP ex r sl ob nx lg = some Z) : OpOk P nt o r.ss ⟨sl, ob, nx, lg⟩ Z := by
  cases hop : o.op with
  | move x =>
    simp only [compO, hop] at hc
    split at hc
    · rename_i s rxx hd hx
      obtain ⟨d, rfl, hd, hlt⟩ := dst_ok hd hc
      exact mv_ok (.inl hop) hd hlt hx h
    · cases hc
  | assign x =>
    simp only [compO, hop] at hc
    split at hc
    · rename_i s rxx hd hx
      obtain ⟨d, rfl, hd, hlt⟩ := dst_ok hd hc
      exact mv_ok (.inr hop) hd hlt hx h
    · cases hc
  | pick c x y =>
    simp only [compO, hop] at hc
    split at hc
    · rename_i s r1 r2 r3 hd h1 h2 h3
      obtain ⟨d, rfl, hd, hlt⟩ := dst_ok hd hc
      exact pick_ok hop hd hlt h1 h2 h3 h
    · cases hc
  | alloc t =>
    simp only [compO, hop] at hc
    split at hc
    · rename_i s zs hd hz
      obtain ⟨d, rfl, hd, hlt⟩ := dst_ok hd hc
      exact new_ok hop hd hlt hz h
    · cases hc
  | box t x =>
    simp only [compO, hop] at hc
    split at hc
    · rename_i s rxx hd hx
      obtain ⟨d, rfl, hd, hlt⟩ := dst_ok hd hc
      exact box_ok hop hd hlt hx h
    · cases hc
  | build t ps =>
    simp only [compO, hop] at hc
    split at hc
    · rename_i s zs pl hd hz hpl
      split at hc
      · rename_i rs hrs
        obtain ⟨d, rfl, hd, hlt⟩ := dst_ok hd hc
        exact bld_ok hop hd hlt hz hpl hrs h
      · cases hc
    · cases hc
  | buildSlice t len ps =>
    simp only [compO, hop] at hc
    split at hc
    · rename_i s el n hd hsl
      obtain ⟨hu, hs⟩ := sliceEl_ok hsl
      split at hc
      · rename_i z rs hz hrs
        cases hb : (Nat.ble (len * n) 16777216 && Nat.beq z.length n) with
        | false => rw [hb] at hc; cases hc
        | true =>
          rw [hb] at hc
          rw [Bool.and_eq_true] at hb
          obtain ⟨d, rfl, hd, hlt⟩ := dst_ok hd hc
          exact bsl_ok hop hd hlt hu hs hz hrs (Nat.le_of_ble_eq_true hb.1) (Nat.eq_of_beq_eq_true hb.2) h
      · cases hc
    · cases hc
  | load t x =>
    simp only [compO, hop] at hc
    split at hc
    · rename_i s rxx n hd hx ht hn
      obtain ⟨d, rfl, hd, hlt⟩ := dst_ok hd hc
      exact ldn_ok hop hd hlt hx ht hn h
    · rename_i s rxx n hd hx ht hn
      obtain ⟨d, rfl, hd, hlt⟩ := dst_ok hd hc
      exact ld1_ok hop hd hlt hx ht h
    · cases hc
  | store t x y =>
    simp only [compO, hop] at hc
    split at hc
    · rename_i r1 r2 n hd hx hy hn
      cases hc
      exact st_ok hop hd hx hy hn h
    · cases hc
  | nilCheck x =>
    simp only [compO, hop] at hc
    split at hc
    · rename_i s rxx hd hx
      obtain ⟨d, rfl, hd, hlt⟩ := dst_ok hd hc
      exact nilc_ok hop hd hlt hx h
    · cases hc
  | binOp op t x y t' =>
    simp only [compO, hop] at hc
    split at hc
    · rename_i s r1 r2 hd hx hy
      split at hc
      · rename_i k hu
        obtain ⟨d, rfl, hd, hlt⟩ := dst_ok hd hc
        exact bin_ok hop hd hlt hx hy h
      · split at hc
        · rename_i ks hk
          obtain ⟨d, rfl, hd, hlt⟩ := dst_ok hd hc
          exact eqr_ok hop rfl hk hd hlt hx hy h
        · rename_i ks hk
          obtain ⟨d, rfl, hd, hlt⟩ := dst_ok hd hc
          exact eqr_ok hop rfl hk hd hlt hx hy h
        · split at hc
          · rename_i tk htk
            obtain ⟨d, rfl, hd, hlt⟩ := dst_ok hd hc
            exact eq_ok hop rfl htk hd hlt hx hy h
          · cases hc
        · split at hc
          · rename_i tk htk
            obtain ⟨d, rfl, hd, hlt⟩ := dst_ok hd hc
            exact eq_ok hop rfl htk hd hlt hx hy h
          · cases hc
        · cases hc
    · cases hc
  | unOp op t x =>
    simp only [compO, hop] at hc
    split at hc
    · rename_i s rxx hd hx
      obtain ⟨d, rfl, hd, hlt⟩ := dst_ok hd hc
      exact un_ok hop hd hlt hx h
    · cases hc
  | convert t' t x =>
    simp only [compO, hop] at hc
    split at hc
    · rename_i s rxx k' k hd hx hu' hu
      obtain ⟨d, rfl, hd, hlt⟩ := dst_ok hd hc
      exact cvi_ok hop hu' hu hd hlt hx h
    · cases hc
  | makeFunc fn first caps =>
    cases fn with
    | func f =>
      simp only [compO, hop] at hc
      split at hc
      · rename_i s pf r1 r2 hd hf h1 h2
        obtain ⟨d, rfl, hd, hlt⟩ := dst_ok hd hc
        exact fnl_ok hop hd hlt hf h1 h2 h
      · cases hc
    | _ => simp only [compO, hop] at hc; cases hc
  | makeMap t res =>
    cases res with
    | none =>
      simp only [compO, hop] at hc
      split at hc
      · rename_i s hd
        obtain ⟨d, rfl, hd, hlt⟩ := dst_ok hd hc
        exact mkm_ok hop hd hlt h
      · cases hc
    | some q => simp only [compO, hop] at hc; cases hc
  | makeSlice t l c =>
    simp only [compO, hop] at hc
    split at hc
    · rename_i s el n r1 r2 hd hsl h1 h2
      obtain ⟨hu, hs⟩ := sliceEl_ok hsl
      split at hc
      · rename_i z i hz hi
        cases hb : (Nat.ble i.bytes 65536 && Nat.beq z.length n) with
        | false => rw [hb] at hc; cases hc
        | true =>
          rw [hb] at hc
          rw [Bool.and_eq_true] at hb
          obtain ⟨d, rfl, hd, hlt⟩ := dst_ok hd hc
          exact mks_ok hop hd hlt h1 h2 hu hs hz hi (Nat.le_of_ble_eq_true hb.1) (Nat.eq_of_beq_eq_true hb.2) h
      · cases hc
    · cases hc
  | slice t x lo hi mx =>
    simp only [compO, hop] at hc
    split at hc
    · rename_i s rxx rlo rhi rmx hd hx hlo hhi hmx
      cases hb : (rhi.isNone && rmx.isSome) with
      | true => rw [hb] at hc; cases hc
      | false =>
        rw [hb] at hc
        simp only [cond_false] at hc
        split at hc
        · rename_i el hu
          split at hc
          · rename_i n hn
            obtain ⟨d, rfl, hd, hlt⟩ := dst_ok hd hc
            exact slc_ok hop hd hlt hx hlo hhi hmx hb hu hn h
          · cases hc
        · rename_i len el hu
          split at hc
          · rename_i n hn
            obtain ⟨d, rfl, hd, hlt⟩ := dst_ok hd hc
            exact sla_ok hop hd hlt hx hlo hhi hmx hu hn h
          · cases hc
        · cases hc
    · cases hc
  | fieldAddr t x f =>
    simp only [compO, hop] at hc
    split at hc
    · rename_i s rxx k ft hd hx hf
      split at hc
      · rename_i n hn
        obtain ⟨d, rfl, hd, hlt⟩ := dst_ok hd hc
        exact fad_ok hop hd hlt hx hf hn h
      · cases hc
    · cases hc
  | field t x f =>
    simp only [compO, hop] at hc
    split at hc
    · rename_i s rxx k ft hd hx hf
      split at hc
      · rename_i row n hr hn
        obtain ⟨d, rfl, hd, hlt⟩ := dst_ok hd hc
        exact fld_ok hop hd hlt hx hf hr hn h
      · cases hc
    · cases hc
  | indexAddr t x i =>
    simp only [compO, hop] at hc
    split at hc
    · rename_i s r1 r2 el hd hx hi hu
      split at hc
      · rename_i n hn
        obtain ⟨d, rfl, hd, hlt⟩ := dst_ok hd hc
        exact ixs_ok hop hd hlt hx hi hu hn h
      · cases hc
    · rename_i s r1 r2 len el hd hx hi hu
      split at hc
      · rename_i n hn
        obtain ⟨d, rfl, hd, hlt⟩ := dst_ok hd hc
        exact ixa_ok hop hd hlt hx hi hu hn h
      · cases hc
    · cases hc
  | lookup t x i ok =>
    simp only [compO, hop] at hc
    split at hc
    · rename_i s r1 r2 k el hd hx hi hu
      split at hc
      · rename_i zero ks hz hk
        obtain ⟨d, rfl, hd, hlt⟩ := dst_ok hd hc
        exact lkp_ok hop hd hlt hx hi hu hz hk h
      · cases hc
    · cases hc
  | mapUpdate t m i v =>
    simp only [compO, hop] at hc
    split at hc
    · rename_i r1 r2 r3 k el hd h1 h2 h3 hu
      split at hc
      · rename_i ks hk
        cases hc
        exact mup_ok hop hd h1 h2 h3 hu hk h
      · cases hc
    · cases hc
  | extract x n =>
    simp only [compO, hop] at hc
    split at hc
    · rename_i s rxx hd hx
      obtain ⟨d, rfl, hd, hlt⟩ := dst_ok hd hc
      exact ext_ok hop hd hlt hx h
    · cases hc
  | index t x i =>
    simp only [compO, hop] at hc
    split at hc
    · rename_i s r1 r2 hd hx hi
      split at hc
      · rename_i len el hu
        split at hc
        · rename_i row z hr hz
          obtain ⟨d, rfl, hd, hlt⟩ := dst_ok hd hc
          exact ixv_ok hop hd hlt hx hi hu hr hz h
        · cases hc
      · rename_i hu
        obtain ⟨d, rfl, hd, hlt⟩ := dst_ok hd hc
        exact ixt_ok hop hd hlt hx hi hu h
      · cases hc
    · cases hc
  | call c =>
    obtain ⟨callee, args, tys⟩ := c
    cases callee with
    | value f =>
      -- a function value that is called
      have byValue : ∀ {y : Operand} {pf : RX} {xs' : List RX} {dst : Option Pos}, o.op = .call { callee := .value y, args := args, argTypes := tys } → rx y = some pf → rxs args.toList = some xs' → o.dst = dst.map Pos.ix → (∀ e, dst = some e → e.ix < nt) → r_cv P FP ex dst pf xs' sl ob nx lg = some Z → OpOk P nt o (pf.ss ++ RX.sss xs') ⟨sl, ob, nx, lg⟩ Z := by
        intro y pf xs' dst hop hf hxs hd hlt h
        unfold r_cv at h
        split at h
        · rename_i v0 ds hv hds
          rcases callV_ok hFP IH h with ⟨g, first, caps, v, ob', nx', lg', rfl, h1, h2⟩ | ⟨id, v, ob', nx', lg', rfl, h1, h2⟩
          · refine call_op hd hlt h1 h2 fun {V γ a w} R hs => ?_
            obtain ⟨vx, vy, e1, e2, e3⟩ := DV_fn (opd_ok hf hv R fun s h => hs s (by simp [h]))
            refine ⟨vx ++ args.map a.eval ++ vy, ?_, fun hr => ?_⟩
            · simp only [Array.toList_append, Array.toList_map, List.append_assoc]
              exact e2.append ((opds_ok hxs hds R fun s h => hs s (by simp [h])).append e3)
            · rw [Array.append_assoc] at hr
              simp [execOp, hop, resolve, Deferred.ofValue, e1, invoke, hr]
          · refine rnd_op hd hlt h1 h2 fun {V γ a w} R hs => ?_
            have e1 := opd_ok hf hv R fun s h => hs s (by simp [h])
            unfold DV at e1
            refine ⟨e1.1, args.map a.eval, ?_, fun x hr => ?_⟩
            · rw [Array.toList_map]
              exact opds_ok hxs hds R fun s h => hs s (by simp [h])
            · simp [execOp, hop, resolve, Deferred.ofValue, e1.2, invoke, hr]
        · cases h
      cases f with
      | func f =>
        simp only [compO, hop] at hc
        split at hc
        · rename_i pf xs' hf hxs
          obtain ⟨dst, rfl, hd, hlt⟩ := dst_opt (f := fun d => RO.cf d pf xs') hc
          have h : r_cf FP ex dst pf xs' sl ob nx lg = some Z := h
          unfold r_cf at h
          split at h
          · rename_i ds hds
            obtain ⟨v, ob', nx', lg', h1, h2⟩ := callF_ok hFP IH h
            refine call_op hd hlt h1 h2 fun {V γ a w} R hs => ?_
            refine ⟨args.map a.eval, ?_, fun hr => ?_⟩
            · rw [Array.toList_map]
              exact opds_ok hxs hds R fun s h => hs s h
            · rw [slot_ix hf] at hr
              rw [slot_ix hf]
              simp [execOp, hop, resolve, Deferred.ofValue, Act.eval, invoke, hr]
          · cases h
        · cases hc
      | _ =>
        simp only [compO, hop] at hc
        split at hc
        · rename_i pf xs' hf hxs
          obtain ⟨dst, rfl, hd, hlt⟩ := dst_opt (f := fun d => RO.cv d pf xs') hc
          exact byValue hop hf hxs hd hlt h
        · cases hc
    | invoke r m => simp only [compO, hop] at hc; cases hc
    | builtin b =>
      cases b with
      | len =>
        simp only [compO, hop] at hc
        split at hc
        · rename_i s x t hd ha ht
          split at hc
          · rename_i rxx el hx hu
            obtain ⟨d, rfl, hd, hlt⟩ := dst_ok hd hc
            exact len_ok hop ha ht hd hlt hx hu h
          · cases hc
        · cases hc
      | cap =>
        simp only [compO, hop] at hc
        split at hc
        · rename_i s x t hd ha ht
          split at hc
          · rename_i rxx el hx hu
            obtain ⟨d, rfl, hd, hlt⟩ := dst_ok hd hc
            exact cap_ok hop ha ht hd hlt hx hu h
          · cases hc
        · cases hc
      | append =>
        simp only [compO, hop] at hc
        split at hc
        · rename_i s x y t t' hd ha ht
          split at hc
          · rename_i r1 r2 el n e' hx hy hsl hu'
            obtain ⟨hu, hs⟩ := sliceEl_ok hsl
            split at hc
            · rename_i z i hz hi
              cases hb : (Nat.beq z.length n && Nat.ble i.bytes 65536) with
              | false => rw [hb] at hc; cases hc
              | true =>
                rw [hb] at hc
                rw [Bool.and_eq_true] at hb
                obtain ⟨d, rfl, hd, hlt⟩ := dst_ok hd hc
                exact app_ok hop ha ht hd hlt hx hy hu hs hu' hz hi (Nat.eq_of_beq_eq_true hb.1) (Nat.le_of_ble_eq_true hb.2) h
            · cases hc
          · rename_i r1 r2 el n e' hx hy hsl hu'
            obtain ⟨hu, hs⟩ := sliceEl_ok hsl
            split at hc
            · rename_i z i hz hi
              cases hb : (Nat.beq z.length n && Nat.ble i.bytes 65536) with
              | false => rw [hb] at hc; cases hc
              | true =>
                rw [hb] at hc
                rw [Bool.and_eq_true] at hb
                obtain ⟨d, rfl, hd, hlt⟩ := dst_ok hd hc
                exact apn_ok hop ha ht hd hlt hx hy hu hs hu' hz hi (Nat.eq_of_beq_eq_true hb.1) (Nat.le_of_ble_eq_true hb.2) h
            · cases hc
          · cases hc
        · cases hc
      | copy =>
        simp only [compO, hop] at hc
        split at hc
        · rename_i x y t t' ha ht
          split at hc
          · rename_i r1 r2 el n e' hx hy hsl hu'
            obtain ⟨hu, hs⟩ := sliceEl_ok hsl
            split at hc
            · rename_i hd
              cases hc
              exact cpy_ok (dst := none) hop ha ht hd (fun d e => by cases e) hx hy hu hs hu' h
            · rename_i s hd
              obtain ⟨d, rfl, hd, hlt⟩ := dst_ok hd hc
              exact cpy_ok (dst := some d) hop ha ht hd (fun d' e => by cases e; exact hlt) hx hy hu hs hu' h
          · cases hc
        · cases hc
      | clear =>
        simp only [compO, hop] at hc
        split at hc
        · rename_i x t hd ha ht
          split at hc
          · rename_i r1 el n hx hsl
            obtain ⟨hu, hs⟩ := sliceEl_ok hsl
            split at hc
            · rename_i z hz
              cases hb : Nat.beq z.length n with
              | false => rw [hb] at hc; cases hc
              | true =>
                rw [hb] at hc
                cases hc
                exact clr_ok hop ha ht hd hx hu hs hz (Nat.eq_of_beq_eq_true hb) h
            · cases hc
          · cases hc
        · cases hc
      | max =>
        simp only [compO, hop] at hc
        split at hc
        · rename_i s x y _ hd ha
          split at hc
          · rename_i r1 r2 hx hy
            obtain ⟨d, rfl, hd, hlt⟩ := dst_ok hd hc
            exact maxmin_ok hop ha hd hlt hx hy (.inl ⟨rfl, h⟩)
          · cases hc
        · cases hc
      | min =>
        simp only [compO, hop] at hc
        split at hc
        · rename_i s x y _ hd ha
          split at hc
          · rename_i r1 r2 hx hy
            obtain ⟨d, rfl, hd, hlt⟩ := dst_ok hd hc
            exact maxmin_ok hop ha hd hlt hx hy (.inr ⟨rfl, h⟩)
          · cases hc
        · cases hc
      | _ => simp only [compO, hop] at hc; cases hc
  | _ => simp only [compO, hop] at hc; cases hc
end
end Go.Ev

namespace Go.Ev
open Go.RowKit (Below)

structure IOk (P : Program) (nt : Nat) (ops : Array Oper) (i : Nat) (names : List Pos) (x Z : X) : Prop where
  lg : LgLe x.lg Z.lg
  nx : x.nx.nat ≤ Z.nx.nat
  obf : Keeps Z.lg x.ob Z.ob
  slf : ∀ s : Pos, (ops[i]?).bind (·.dst) ≠ some s.ix → Z.sl.get s = x.sl.get s
  ok : ∀ V : Sel, (∀ s, s ∈ names → V.ss s) → (∀ id, tchd Z.lg id → V.so id) → ∀ (ro : Option Nat) (γ : Gh) (a : Act) (w : World), a.tmps.size = nt → G ro γ a w → Rep P V γ a w x →
    ∀ (n : Nat) (K : Act → World → Prop) (Q : Exit → Act → World → Prop), (∀ γ' a' w', St ro Z.lg ((ops[i]?).bind (·.dst)) γ a w γ' a' w' → Rep P V γ' a' w' Z → K a' w') → wpOpIn (FW ro) n P ops Q i K a w

section
variable {P : Program} {FP : T RF} {ex : RC → X → Option (Ex × X)} {nt : Nat} {ops : Array Oper} {o : Oper}

theorem runG_bad {x Z : X} (h : runG P FP ex (.u .bad) x = some Z) : False := by
  cases x; cases h

theorem IOk.of_op {i : Nat} {names names' : List Pos} {x Z : X} (ho : ops[i]? = some o) (hg : ∀ V : Sel, (∀ s, s ∈ names' → V.ss s) → ∀ γ a w, Rep P V γ a w x → Region.wanted o (yielded ops a.tmps) = true) (hs : ∀ s, s ∈ names → s ∈ names') (h : OpOk P nt o names x Z) : IOk P nt ops i names' x Z :=
  ⟨h.lg, h.nx, h.obf, fun s hs => h.slf s (by rw [ho] at hs; exact hs), fun V hV hto ro γ a w hn g R n K Q hK => by
    simp only [wpOpIn, ho, hg V hV γ a w R, if_true]
    simp only [ho, Option.bind_some] at hK
    exact h.ok V (fun s hs' => hV s (hs s hs')) hto ro γ a w hn g R n K Q hK⟩

theorem DV_undef {γ : Gh} {w : World} : DV γ w (.tp []) undef := by
  unfold DV
  exact ⟨#[], rfl, DVL.nil⟩
theorem DV_tp_nil {γ : Gh} {w : World} {v : Value} (h : DV γ w (.tp []) v) : v = .tuple #[] := by
  obtain ⟨vs, rfl, h2⟩ := DV_tp h
  unfold DVL at h2
  rw [show vs = #[] by cases vs; simp at h2; rw [h2]]

theorem runG_ok (hFP : FPok P FP) (IH : ∀ nt c x e Z, ex (comp P nt c) x = some (e, Z) → XOk P nt c x e Z) {i : Nat} {x Z : X} (ho : ops[i]? = some o) (h : runG P FP ex (compG P nt ops o) x = some Z) : IOk P nt ops i (compG P nt ops o).ss x Z := by
  obtain ⟨sl, ob, nx, lg⟩ := x
  unfold compG at h ⊢
  split at h
  · exact (runG_bad h).elim
  · rename_i r hr
    split at h
    · rename_i hg
      exact IOk.of_op ho (fun V hV γ a w R => by simp [Region.wanted, hg]) (fun s hs => hs) (runO_ok hFP IH hr h)
    · rename_i j want hg
      -- guarded
      have main : ∀ {oj : Oper} {t : Nat} {p : Pos} {d : Option Pos}, ops[j]? = some oj → oj.dst = some t → slot t = some p → o.dst = d.map Pos.ix → (∀ e, d = some e → e.ix < nt) → runG P FP ex (.g p want d r) ⟨sl, ob, nx, lg⟩ = some Z → IOk P nt ops i (RG.g p want d r).ss ⟨sl, ob, nx, lg⟩ Z := by
        intro oj t p d hoj ht hp hd hlt h
        have h : g_g P FP ex p want d r ⟨sl, ob, nx, lg⟩ = some Z := h
        simp only [g_g] at h
        split at h
        · rename_i b hb
          have hy : ∀ V : Sel, (∀ s, s ∈ (RG.g p want d r).ss → V.ss s) → ∀ γ a w, Rep P V γ a w ⟨sl, ob, nx, lg⟩ → yielded ops a.tmps j = some b := by
            intro V hV γ a w R
            obtain ⟨h1, h2⟩ := R.sl p _ (hV p List.mem_cons_self) hb
            rw [slot_ix hp] at h1 h2
            have h2 := DV_b h2
            simp only [yielded, hoj, ht, Option.bind_some]
            rw [Array.getD_eq_getD_getElem?] at h2
            rw [Array.getElem?_eq_getElem h1] at h2 ⊢
            simp only [Option.getD_some] at h2
            rw [h2]
          cases hw : (bif want then b else !b) with
          | true =>
            rw [hw] at h
            refine IOk.of_op ho (fun V hV γ a w R => ?_) (fun s hs => List.mem_cons_of_mem _ hs) (runO_ok hFP IH hr h)
            simp only [Region.wanted, hg, hy V hV γ a w R]
            cases want <;> cases b <;> first | rfl | cases hw
          | false =>
            rw [hw] at h
            have h : dstK sl ob nx lg d (.tp []) = some Z := h
            have hl := dstK_lg h
            refine ⟨hl.1 ▸ LgLe.refl _, hl.2.1 ▸ Nat.le_refl _, by rw [hl.2.2.1]; exact Keeps.refl _ _, fun s hs => hl.2.2.2 s (by rw [ho] at hs; rw [← hd]; exact hs), fun V hV hto ro γ a w hn g R n K Q hK => ?_⟩
            have hwn : Region.wanted o (yielded ops a.tmps) = false := by
              simp only [Region.wanted, hg, hy V hV γ a w R]
              cases want <;> cases b <;> first | rfl | cases hw
            simp only [wpOpIn, ho, hwn]
            simp only [ho, Option.bind_some] at hK
            refine ⟨fun _ _ => trivial, ?_⟩
            obtain ⟨_, _, s1, r1⟩ := dst_fin (ro := ro) (u := undef) (a := a) hd (fun e he => by rw [hn]; exact hlt e he) R h (Fr.refl _ _ _) (fun a' ha => { g with df := by rw [ha]; exact g.df }) DV_undef R.ob R.nx
            rw [← hl.1] at s1
            exact hK γ _ w s1 r1
        · rename_i hb
          have hy : ∀ V : Sel, (∀ s, s ∈ (RG.g p want d r).ss → V.ss s) → ∀ γ a w, Rep P V γ a w ⟨sl, ob, nx, lg⟩ → yielded ops a.tmps j = none := by
            intro V hV γ a w R
            obtain ⟨h1, h2⟩ := R.sl p _ (hV p List.mem_cons_self) hb
            rw [slot_ix hp] at h1 h2
            have h2 := DV_tp_nil h2
            simp only [yielded, hoj, ht, Option.bind_some]
            rw [Array.getD_eq_getD_getElem?] at h2
            rw [Array.getElem?_eq_getElem h1] at h2 ⊢
            simp only [Option.getD_some] at h2
            rw [h2]
          have h : dstK sl ob nx lg d (.tp []) = some Z := h
          have hl := dstK_lg h
          refine ⟨hl.1 ▸ LgLe.refl _, hl.2.1 ▸ Nat.le_refl _, by rw [hl.2.2.1]; exact Keeps.refl _ _, fun s hs => hl.2.2.2 s (by rw [ho] at hs; rw [← hd]; exact hs), fun V hV hto ro γ a w hn g R n K Q hK => ?_⟩
          have hwn : Region.wanted o (yielded ops a.tmps) = false := by
            simp only [Region.wanted, hg, hy V hV γ a w R]
            rfl
          simp only [wpOpIn, ho, hwn]
          simp only [ho, Option.bind_some] at hK
          refine ⟨fun _ _ => trivial, ?_⟩
          obtain ⟨_, _, s1, r1⟩ := dst_fin (ro := ro) (u := undef) (a := a) hd (fun e he => by rw [hn]; exact hlt e he) R h (Fr.refl _ _ _) (fun a' ha => { g with df := by rw [ha]; exact g.df }) DV_undef R.ob R.nx
          rw [← hl.1] at s1
          exact hK γ _ w s1 r1
        · cases h
      split at h
      · rename_i oj hoj
        split at h
        · rename_i t ht
          split at h
          · rename_i p hp
            split at h
            · rename_i hd
              exact main hoj ht hp hd (fun e he => by cases he) h
            · rename_i s hd
              split at h
              · rename_i d hs
                obtain ⟨h1, h2⟩ := slotN_ix hs
                exact main (d := some d) hoj ht hp (by rw [hd, ← h1]; rfl) (fun e he => by cases he; rw [h1]; exact h2) h
              · exact (runG_bad h).elim
          · exact (runG_bad h).elim
        · exact (runG_bad h).elim
      · exact (runG_bad h).elim
end
end Go.Ev
