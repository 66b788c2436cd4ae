import Derived.Test.YtkbgaadfednjpaaGreatDoorEvUR
import Derived.OrdersIn
import Derived.RangeFuncNested
set_option linter.all false
set_option maxHeartbeats 8000000
noncomputable section
namespace Go.Ev
open Go.RowKit (Below)
structure RndOk (P : Program) (id : Pos) (ds : List D) (ob : T C) (nx : Pos) (lg : Option (T Bool)) (v : D) (ob' : T C) (nx' : Pos) (lg' : Option (T Bool)) : Prop where
 hl : LgLe lg lg'
 hx : nx.nat <= nx'.nat
 hk : Keeps lg' ob ob'
 ok : ∀ so : Pos -> Prop, (∀ id, tchd lg' id -> so id) -> ∀ (γ : Gh) (args : Array Value) (w : World), GH γ w -> DVL γ w ds args.toList -> (∀ id c, so id -> ob.get id = some c -> HoldsO P γ w id c) -> (∀ id, so id -> nx.nat <= id.nat -> γ.cur id = 0) -> 0 < γ.cur id ->
  ∃ fn tmps asg body, (Instr.yield (γ.β id 0).1 args).run P w = .ok (.round (γ.β id 0).1 fn tmps asg body) w /\ ∀ (ro : Option Nat) (n : Nat) (R : Ending -> World -> Prop),
    (∀ γ' w' u, GH γ' w' -> Fr (wrtn lg') γ γ' w w' -> DV γ' w' v u -> (∀ id c, so id -> ob'.get id = some c -> HoldsO P γ' w' id c) -> (∀ id, so id -> nx'.nat <= id.nat -> γ'.cur id = 0) -> R (.returned u) w') ->
    RoundIn (FW ro) n P (γ.β id 0).1 fn tmps asg body w R
theorem qZ {γ : Gh} {w : World} : ∀ {ps : List Pos} {ds : List D} {t : T D} {k : T D -> Option X} {Z : X}, vT ps ds t k = some Z -> ∃ t', k t' = some Z /\ ps.length = ds.length /\
 ∀ {γ : Gh} {w : World} {args : List Value} {tmps : Array Value}, DVL γ w ds args -> (∀ p, p ∈ ps -> p.ix < tmps.size) -> (∀ s d, t.get s = some d -> s.ix < tmps.size /\ DV γ w d (tmps.getD s.ix undef)) ->
   (((ps.map Pos.ix).zip args).foldl (fun tmps (t, a) => tmps.setIfInBounds t a) tmps).size = tmps.size /\
   ∀ s d, t'.get s = some d -> s.ix < tmps.size /\ DV γ w d ((((ps.map Pos.ix).zip args).foldl (fun tmps (t, a) => tmps.setIfInBounds t a) tmps).getD s.ix undef)
 | [], [], t, k, Z, h => ⟨t, h, rfl, fun {γ w args tmps} ha _ hs => by
    unfold DVL at ha
    subst ha
    exact ⟨rfl, hs⟩⟩
 | [], d :: ds, t, k, Z, h => by cases h
 | p :: ps, [], t, k, Z, h => by cases h
 | p :: ps, d :: ds, t, k, Z, h => by
   have h : T.setK p d t (fun t => vT ps ds t k) = some Z := h
   rw [T.setK_eq] at h
   obtain ⟨t', h1, h2, h3⟩ := qZ (γ := γ) (w := w) h
   refine ⟨t', h1, by simp [h2], fun {γ w args tmps} ha hp hs => ?_⟩
   unfold DVL at ha
   obtain ⟨v, r, rfl, ha1, ha2⟩ := ha
   have hpl := hp p (by simp)
   obtain ⟨h4, h5⟩ := h3 (tmps := tmps.setIfInBounds p.ix v) ha2 (fun q hq => by rw [Array.size_setIfInBounds]; exact hp q (by simp [hq])) (fun s e hs' => by
    rw [Array.size_setIfInBounds]
    by_cases es : s = p
    ·subst es
     rw [T.get_set_same] at hs'
     cases hs'
     refine ⟨hpl, ?_⟩
     simp [hpl]; exact ha1
    ·rw [T.get_set_ne es] at hs'
     obtain ⟨q1, q2⟩ := hs s e hs'
     refine ⟨q1, ?_⟩
     have hne : p.ix ≠ s.ix := fun e => es (Pos.ix_inj e.symm)
     simp [Array.getElem?_setIfInBounds_ne hne]
     simpa using q2)
   simp only [List.map_cons, List.zip_cons_cons, List.foldl_cons]
   rw [Array.size_setIfInBounds] at h4 h5
   exact ⟨h4, h5⟩
section
variable {P : Program} {FP : T RF} {ex : RC -> X -> Option (Ex × X)}
theorem gR {ro : Option Nat} {γ : Gh} {a : Act} {w : World} {id : Pos} {l l' : Loop} (g : G ro γ a w) (hst : 0 < γ.cur id) (hob : w.heap[(γ.β id 0).1]? = some (.loop l)) :
 Fr (fun j => j = id) γ γ w (w.putObj (γ.β id 0).1 (.loop l')) /\ ∀ a' : Act, a'.defers = a.defers -> G ro γ a' (w.putObj (γ.β id 0).1 (.loop l')) :=
 nO g id (by simp [World.putObj]) (fun c hc hn => World.putObj_heap_other (fun e => hn 0 hst e.symm))
  (fun c x hx => by
    have hne : c ≠ (γ.β id 0).1 := by
     rintro rfl
     unfold World.shape? at hx
     rw [hob] at hx
     cases hx
    rw [cY (World.putObj_heap_other hne)]; exact hx)
  (fun c r hr => by
    by_cases e : c = (γ.β id 0).1
    ·subst e
     exact ⟨l', World.putObj_heap_same (Array.getElem?_eq_some_iff.1 hob).1⟩
    ·exact ⟨r, by rw [World.putObj_heap_other e]; exact hr⟩) ⟨rfl, rfl, rfl⟩ (lF w _ _ (fun _ _ _ h => by cases h) fun vs e fr h => by rw [hob] at h; cases h)
theorem El (hFP : FPok P FP) (IH : ∀ nt c x e Z, ex (aY P nt c) x = some (e, Z) -> XOk P nt c x e Z) {v0 : D} {ds : List D} {ob : T C} {nx : Pos} {lg : Option (T Bool)} {k : D -> T C -> Pos -> Option (T Bool) -> Option X} {Z : X} (h : Cy P FP ex v0 ds ob nx lg k = some Z) :
 (∃ f first caps v ob' nx' lg', v0 = .fn f first caps /\ k v ob' nx' lg' = some Z /\ CallOk P f.ix (first ++ (ds ++ caps)) ob nx lg v ob' nx' lg') \/
 (∃ id v ob' nx' lg', v0 = .yl id /\ k v ob' nx' lg' = some Z /\ RndOk P id ds ob nx lg v ob' nx' lg') := by
 unfold Cy at h
 split at h
 ·rename_i f first caps
  obtain ⟨v, ob', nx', lg', h1, h2⟩ := gY hFP IH h
  exact .inl ⟨f, first, caps, v, ob', nx', lg', rfl, h1, h2⟩
 ·rename_i id
  right
  split at h
  ·rename_i sl ps nt asg body j0 hob0
   obtain ⟨sl', h1, hplen, hpar⟩ := qZ (γ := ⟨fun _ => 0, fun _ _ => (0, 0), fun _ => False⟩) (w := default) h
   split at h1
   ·rename_i sl2 ob1 nx1 lg1 hasg
    split at h1
    ·rename_i a1 b1 m1 c1 d1 j1 hob1
     rw [T.setK_eq] at h1
     obtain ⟨lg2, h2, hl2, hw2⟩ := mB h1
     split at h2
     ·rename_i e sl3 ob3 nx3 lg3 hbody
      split at h2
      ·rename_i a3 b3 m3 c3 d3 s3 j3 hob3
       have X1 := IH _ _ _ _ _ hasg
       have X2 := IH _ _ _ _ _ hbody
       have main : ∀ (st' : LS) (jj : Option Ex) (bv : Bool), k (.b bv) (T.set id (.lp a3 b3 m3 c3 d3 st' jj) ob3) nx3 lg3 = some Z -> ((e = .normal /\ st' = .ready /\ jj = none /\ bv = true) \/ (e ≠ .normal /\ st' = .done /\ jj = some e /\ bv = false)) ->
        ∃ id' v ob' nx' lg', D.yl id = .yl id' /\ k v ob' nx' lg' = some Z /\ RndOk P id' ds ob nx lg v ob' nx' lg' := by
        intro st' jj bv hk hcase
        refine ⟨id, .b bv, _, nx3, lg3, rfl, hk, X1.lg.trans (hl2.trans X2.lg), Nat.le_trans X1.nx X2.nx, Keeps.set (Keeps.trans X2.lg (Keeps.set (a := ob) (b := ob1) (fun id hn => X1.obf id fun hw => hn (hl2.w id hw)) hw2 _) X2.obf) (X2.lg.w id hw2) _, fun so hso γ args w gh hargs hob hnx hcur => ?_⟩
        have hsoid : so id := hso id (X2.lg.t id hw2.tchd)
        obtain ⟨hc1, l, hl, hst, _, hsl, hps, hpb, hntl, rfl, rfl⟩ := hob id _ hsoid hob0
        obtain ⟨bk, hbk⟩ : ∃ bk, bk = (γ.β id 0).1 := ⟨_, rfl⟩
        rw [<- hbk] at hl ⊢
        have hpsz : args.size = l.params.size := by
         have e1 : l.params.toList.length = ps.length := by rw [hps]; simp
         have e2 := (aK.1 hargs).1
         simp at e1 e2
         omega
        have hfold : (l.params.zip args).foldl (fun tmps (t, a) => tmps.setIfInBounds t a) l.tmps = ((ps.map Pos.ix).zip args.toList).foldl (fun tmps (t, a) => tmps.setIfInBounds t a) l.tmps := by
         rw [<- Array.foldl_toList, Array.toList_zip, hps]
        obtain ⟨hsz, hsl'⟩ := hpar (tmps := l.tmps) hargs hpb hsl
        refine ⟨l.fn, _, l.assign, l.body, run_yield hl hpsz, fun ro n R hR => ?_⟩
        rw [hfold]
        refine roundIn_of_wpIn trivial ?_
        have g0 : G (some bk) γ { tmps := ((ps.map Pos.ix).zip args.toList).foldl (fun tmps (t, a) => tmps.setIfInBounds t a) l.tmps, defers := [] } w :=
         ⟨gh.ob, gh.inj, ⟨[], rfl, List.nodup_nil, fun r hr => by cases hr⟩, (fun l' hl' => by cases hl'; exact ⟨l, hl⟩), gh.im, gh.gl⟩
        refine X1.ok so (fun j hj => hso j (X2.lg.t j (hl2.t j hj))) (some bk) γ _ w (by show Array.size _ = nt; rw [hsz]; exact hntl) g0 ⟨fun s d _ hd => ?_, hob, hnx, gh.gl⟩ n _ fun γ1 a1' w1 cst1 rep1 => ?_
        ·show s.ix < Array.size _ /\ _
         rw [hsz]; exact hsl' s d hd
        ·-- the round begins
         have hβ1 : (γ1.β id 0).1 = bk := by rw [cst1.fr.up.β id 0 hcur, hbk]
         have hcur1 : 0 < γ1.cur id := Nat.lt_of_lt_of_le hcur (cst1.fr.up.cur id)
         obtain ⟨hc2, l1, hl1, hst1, hpd1, hsl1, hps1, hpb1, hnt1, ha1, hb1⟩ := rep1.ob id _ hsoid hob1
         rw [hβ1] at hl1
         refine ⟨_, run_beginRound hl1 (by rw [hst1]; rfl), ?_⟩
         have hlt1 : bk < w1.heap.size := (Array.getElem?_eq_some_iff.1 hl1).1
         have LP := gR (l' := { l1 with state := .busy }) cst1.g hcur1 (by rw [hβ1]; exact hl1)
         rw [hβ1] at LP
         obtain ⟨F2, g2⟩ := LP
         have rep2 : Rep P (eH so) γ1 a1' (w1.putObj bk (.loop { l1 with state := .busy })) ⟨sl2, T.set id (.lp a1 b1 m1 c1 d1 .busy j1) ob1, nx1, lg2⟩ := by
          refine ⟨fun s d hs hd => ⟨(rep1.sl s d hs hd).1, DV.mono F2.up _ _ (rep1.sl s d hs hd).2⟩, aQ rep1 cst1.g F2 fun _ => ?_, rep1.nx, rep1.gl.up F2.up⟩
          refine ⟨hc2, { l1 with state := .busy }, by rw [hβ1]; exact World.putObj_heap_same hlt1, rfl, hpd1, fun s d hd => ⟨(hsl1 s d hd).1, DV.mono F2.up _ _ (hsl1 s d hd).2⟩, hps1, hpb1, hnt1, ha1, hb1⟩
         have key := X2.ok so hso (some bk) γ1 a1' (w1.putObj bk (.loop { l1 with state := .busy })) (by rw [cst1.sz]; show Array.size _ = nt; rw [hsz]; exact hntl) (g2 _ rfl) rep2 n (roundPost P bk R)
         refine key fun γ3 a3' w3 cst3 rep3 => ?_
         have hβ3 : (γ3.β id 0).1 = bk := by rw [cst3.fr.up.β id 0 hcur1, hβ1]
         have hcur3 : 0 < γ3.cur id := Nat.lt_of_lt_of_le hcur1 (cst3.fr.up.cur id)
         obtain ⟨hc4, l3, hl3, hst3, hpd3, hsl3, hps3, hpb3, hnt3, ha3, hb3⟩ := rep3.ob id _ hsoid hob3
         rw [hβ3] at hl3
         have hlt3 : bk < w3.heap.size := (Array.getElem?_eq_some_iff.1 hl3).1
         have fin : ∀ (jump : Option Code), jump = jj.bind Ex.code -> (if jump.isNone then LoopState.ready else .done) = st'.st -> jump.isNone = bv -> ∃ v w', (Instr.endRound bk jump).run P w3 = .ok v w' /\ R (.returned v) w' := by
          intro jump hjump hstt hbv
          refine ⟨_, _, run_endRound jump hl3, ?_⟩
          have LP := gR (l' := { l3 with state := if jump.isNone then .ready else .done, pending := jump }) cst3.g hcur3 (by rw [hβ3]; exact hl3)
          rw [hβ3] at LP
          obtain ⟨F4, g4⟩ := LP
          have hw3 : wrtn lg3 id := X2.lg.w id hw2
          refine hR γ3 _ _ (g4 a3' rfl).gh ?_ (by rw [hbv]; exact dD _) (aQ rep3 cst3.g F4 fun _ => ?_) rep3.nx
          ·have m1 := (cst1.fr.mono hl2.w).mono X2.lg.w
           exact ((m1.trans (F2.mono fun j e => by rw [e]; exact hw3)).trans cst3.fr).trans (F4.mono fun j e => by rw [e]; exact hw3)
          ·refine ⟨hc4, { l3 with state := if jump.isNone then .ready else .done, pending := jump }, by rw [hβ3]; exact World.putObj_heap_same hlt3, hstt, hjump, fun s d hd => ⟨(hsl3 s d hd).1, DV.mono F4.up _ _ (hsl3 s d hd).2⟩, hps3, hpb3, hnt3, ha3, hb3⟩
         rcases hcase with ⟨rfl, rfl, rfl, rfl⟩ | ⟨hne, rfl, rfl, rfl⟩
         ·exact fin none rfl rfl rfl
         ·cases e with
          | normal => exact absurd rfl hne
          | ret => exact fin (some .ret) rfl rfl rfl
          | exit i => exact fin (some (.exit i)) rfl rfl rfl
       cases e with
       | normal =>
         simp only at h2
         rw [T.setK_eq] at h2
         exact main .ready none true h2 (.inl ⟨rfl, rfl, rfl, rfl⟩)
       | ret =>
         simp only at h2
         rw [T.setK_eq] at h2
         exact main .done (some .ret) false h2 (.inr ⟨by simp, rfl, rfl, rfl⟩)
       | exit i =>
         simp only at h2
         rw [T.setK_eq] at h2
         exact main .done (some (.exit i)) false h2 (.inr ⟨by simp, rfl, rfl, rfl⟩)
      ·cases h2
     ·cases h2
    ·cases h1
   ·cases h1
  ·cases h
 ·cases h
end
open Go.RowKit (Below)
section
variable {P : Program} {FP : T RF} {ex : RC -> X -> Option (Ex × X)} {sl : T D} {ob : T C} {nx : Pos} {lg : Option (T Bool)} {nt : Nat} {o : Oper}
theorem kG {V : Sel} {ro : Option Nat} {lg' : Option (T Bool)} {γ γ' : Gh} {a : Act} {w w' : World} {ob' : T C} {nx' : Pos} {dst : Option Pos} {v : D} {u : Value} {Z : X} (hd : o.dst = dst.map Pos.ix) (hlt : ∀ d, dst = some d -> d.ix < a.tmps.size) (R : Rep P V γ a w ⟨sl, ob, nx, lg⟩)
 (hz : iY sl ob' nx' lg' dst v = some Z) (F : Fr (wrtn lg') γ γ' w w') (g' : ∀ a' : Act, a'.defers = a.defers -> G ro γ' a' w') (hv : DV γ' w' v u)
 (ho : ∀ id c, V.so id -> ob'.get id = some c -> HoldsO P γ' w' id c) (hn : ∀ id, V.so id -> nx'.nat <= id.nat -> γ'.cur id = 0) :
 Z.lg = lg' /\ Z.nx = nx' /\ St ro lg' o.dst γ a w γ' (a.put o.dst u) w' /\ Rep P V γ' (a.put o.dst u) w' Z := by
 cases dst with
 | some d =>
   obtain rfl := aE hz
   obtain ⟨s1, r1⟩ := St.value (P := P) (sl := sl) (ob := ob) (nx := nx) (lg := lg) (o := o) (hlt d rfl) hd R F g' hv ho hn
   exact ⟨rfl, rfl, s1, r1⟩
 | none =>
   cases hz
   have hd : o.dst = none := hd
   rw [hd]
   exact ⟨rfl, rfl, ⟨g' _ rfl, F, rfl, rfl, fun s _ => rfl⟩, ⟨fun s e hss he => ⟨(R.sl s e hss he).1, DV.mono F.up _ _ (R.sl s e hss he).2⟩, ho, hn, R.gl.up F.up⟩⟩
theorem jW {ob' : T C} {nx' : Pos} {lg' : Option (T Bool)} {dst : Option Pos} {v : D} {Z : X} (hz : iY sl ob' nx' lg' dst v = some Z) : Z.lg = lg' /\ Z.nx = nx' /\ Z.ob = ob' /\ ∀ s : Pos, dst.map Pos.ix ≠ some s.ix -> Z.sl.get s = sl.get s := by
 cases dst with
 | some d => obtain rfl := aE hz; exact ⟨rfl, rfl, rfl, fun s hs => T.get_set_ne (fun e => hs (by rw [e]; rfl)) _ _⟩
 | none => cases hz; exact ⟨rfl, rfl, rfl, fun _ _ => rfl⟩
theorem pP {names : List Pos} {dst : Option Pos} {f : FuncId} {ds : List D} {v : D} {ob' : T C} {nx' : Pos} {lg' : Option (T Bool)} {Z : X} (hd : o.dst = dst.map Pos.ix) (hlt : ∀ d, dst = some d -> d.ix < nt) (hz : iY sl ob' nx' lg' dst v = some Z) (C : CallOk P f ds ob nx lg v ob' nx' lg')
 (hrun : ∀ {V : Sel} {γ : Gh} {a : Act} {w : World}, Rep P V γ a w ⟨sl, ob, nx, lg⟩ -> (∀ s, s ∈ names -> V.ss s) -> ∃ args : Array Value, DVL γ w ds args.toList /\ ((callFunc f args).run P w = .ok (.enter f args) w -> (execOp a.eval o).run P w = .ok (.enter f args) w)) :
 OpOk P nt o names ⟨sl, ob, nx, lg⟩ Z := by
 obtain ⟨h1, h2, h3, h4⟩ := jW hz
 refine ⟨h1.symm ▸ C.hl, h2.symm ▸ C.hx, by rw [h1, h3]; exact C.hk, fun s hs => h4 s (by rw [<- hd]; exact hs), fun V hs hto ro γ a w hn g R n K Q hK => ?_⟩
 rw [h1] at hto hK
 obtain ⟨args, hargs, hr⟩ := hrun R hs
 obtain ⟨hc, hcalls⟩ := C.ok V.so hto γ args w g.gh hargs R.ob R.nx
 refine mC (hr (hc w)) (fun _ h => by cases h) ?_
 rw [Oper.uponIn_enter]
 refine ⟨(fun h => by cases h), hcalls ro (n - 1) _ fun γ' w' u gh' F hv ho hn' => ?_⟩
 obtain ⟨_, _, s1, r1⟩ := kG (ro := ro) (a := a) hd (fun d e => by rw [hn]; exact hlt d e) R hz F (fun a' ha => g.of F ha gh'.ob gh'.inj gh'.im) hv ho hn'
 exact hK γ' _ w' s1 r1
theorem Co {names : List Pos} {dst : Option Pos} {id : Pos} {ds : List D} {v : D} {ob' : T C} {nx' : Pos} {lg' : Option (T Bool)} {Z : X} (hd : o.dst = dst.map Pos.ix) (hlt : ∀ d, dst = some d -> d.ix < nt) (hz : iY sl ob' nx' lg' dst v = some Z) (C : RndOk P id ds ob nx lg v ob' nx' lg')
 (hrun : ∀ {V : Sel} {γ : Gh} {a : Act} {w : World}, Rep P V γ a w ⟨sl, ob, nx, lg⟩ -> (∀ s, s ∈ names -> V.ss s) -> 0 < γ.cur id /\ ∃ args : Array Value, DVL γ w ds args.toList /\ ∀ x, (Instr.yield (γ.β id 0).1 args).run P w = .ok x w -> (execOp a.eval o).run P w = .ok x w) :
 OpOk P nt o names ⟨sl, ob, nx, lg⟩ Z := by
 obtain ⟨h1, h2, h3, h4⟩ := jW hz
 refine ⟨h1.symm ▸ C.hl, h2.symm ▸ C.hx, by rw [h1, h3]; exact C.hk, fun s hs => h4 s (by rw [<- hd]; exact hs), fun V hs hto ro γ a w hn g R n K Q hK => ?_⟩
 rw [h1] at hto hK
 obtain ⟨hcur, args, hargs, hr⟩ := hrun R hs
 obtain ⟨fn, tmps, asg, body, hy, hrounds⟩ := C.ok V.so hto γ args w g.gh hargs R.ob R.nx hcur
 refine mC (hr _ hy) (fun _ h => by cases h) ?_
 rw [Oper.uponIn_round]
 refine ⟨(fun h => by cases h), hrounds ro (n - 1) _ fun γ' w' u gh' F hv ho hn' => ?_⟩
 obtain ⟨_, _, s1, r1⟩ := kG (ro := ro) (a := a) hd (fun d e => by rw [hn]; exact hlt d e) R hz F (fun a' ha => g.of F ha gh'.ob gh'.inj gh'.im) hv ho hn'
 exact hK γ' _ w' s1 r1
theorem gG {d : Option Tmp} {r : RO} {f : Option Pos -> RO} (h : (match d with
 | none => some (f none)
 | some s => (aU nt s).map fun d => f (some d)) = some r) : ∃ dst : Option Pos, r = f dst /\ d = dst.map Pos.ix /\ ∀ e, dst = some e -> e.ix < nt := by
 cases d with
 | none => cases h; exact ⟨none, rfl, rfl, fun e he => by cases he⟩
 | some s =>
   cases hs : aU nt s with
   | none => simp only [hs] at h; cases h
   | some e =>
     simp only [hs, Option.map_some] at h
     cases h
     obtain ⟨h1, h2⟩ := jP hs
     exact ⟨some e, rfl, by simp [h1], fun e' he => by cases he; rw [h1]; exact h2⟩
theorem At (hFP : FPok P FP) (IH : ∀ nt c x e Z, ex (aY P nt c) x = some (e, Z) -> XOk P nt c x e Z) {r : RO} {Z : X} (hc : aH P nt o = some r) (h : HP P FP ex r sl ob nx lg = some Z) : OpOk P nt o r.ss ⟨sl, ob, nx, lg⟩ Z := by
 cases hop : o.op with
 | move x =>
   simp only [aH, hop] at hc
   split at hc
   ·rename_i s rxx hd hx
    obtain ⟨d, rfl, hd, hlt⟩ := aD hd hc
    exact Ao (.inl hop) hd hlt hx h
   ·cases hc
 | assign x =>
   simp only [aH, hop] at hc
   split at hc
   ·rename_i s rxx hd hx
    obtain ⟨d, rfl, hd, hlt⟩ := aD hd hc
    exact Ao (.inr hop) hd hlt hx h
   ·cases hc
 | pick c x y =>
   simp only [aH, hop] at hc
   split at hc
   ·rename_i s r1 r2 r3 hd h1 h2 h3
    obtain ⟨d, rfl, hd, hlt⟩ := aD hd hc
    exact Av hop hd hlt h1 h2 h3 h
   ·cases hc
 | alloc t =>
   simp only [aH, hop] at hc
   split at hc
   ·rename_i s zs hd hz
    obtain ⟨d, rfl, hd, hlt⟩ := aD hd hc
    exact DN hop hd hlt hz h
   ·cases hc
 | box t x =>
   simp only [aH, hop] at hc
   split at hc
   ·rename_i s rxx hd hx
    obtain ⟨d, rfl, hd, hlt⟩ := aD hd hc
    exact Cb hop hd hlt hx h
   ·cases hc
 | build t ps =>
   simp only [aH, hop] at hc
   split at hc
   ·rename_i s zs pl hd hz hpl
    split at hc
    ·rename_i rs hrs
     obtain ⟨d, rfl, hd, hlt⟩ := aD hd hc
     exact Eq hop hd hlt hz hpl hrs h
    ·cases hc
   ·cases hc
 | buildSlice t len ps =>
   simp only [aH, hop] at hc
   split at hc
   ·rename_i s el n hd hsl
    obtain ⟨hu, hs⟩ := bN hsl
    split at hc
    ·rename_i z rs hz hrs
     cases hb : (Nat.ble (len * n) 16777216 && Nat.beq z.length n) with
     | false => rw [hb] at hc; cases hc
     | true =>
       rw [hb] at hc
       rw [Bool.and_eq_true] at hb
       obtain ⟨d, rfl, hd, hlt⟩ := aD hd hc
       exact Em hop hd hlt hu hs hz hrs (Nat.le_of_ble_eq_true hb.1) (Nat.eq_of_beq_eq_true hb.2) h
    ·cases hc
   ·cases hc
 | load t x =>
   simp only [aH, hop] at hc
   split at hc
   ·rename_i s rxx n hd hx ht hn
    obtain ⟨d, rfl, hd, hlt⟩ := aD hd hc
    exact Ce hop hd hlt hx ht hn h
   ·rename_i s rxx n hd hx ht hn
    obtain ⟨d, rfl, hd, hlt⟩ := aD hd hc
    exact Er hop hd hlt hx ht h
   ·cases hc
 | store t x y =>
   simp only [aH, hop] at hc
   split at hc
   ·rename_i r1 r2 n hd hx hy hn
    cases hc
    exact GA hop hd hx hy hn h
   ·cases hc
 | nilCheck x =>
   simp only [aH, hop] at hc
   split at hc
   ·rename_i s rxx hd hx
    obtain ⟨d, rfl, hd, hlt⟩ := aD hd hc
    exact Ap hop hd hlt hx h
   ·cases hc
 | binOp op t x y t' =>
   simp only [aH, hop] at hc
   split at hc
   ·rename_i s r1 r2 hd hx hy
    split at hc
    ·rename_i k hu
     obtain ⟨d, rfl, hd, hlt⟩ := aD hd hc
     exact Dt hop hd hlt hx hy h
    ·split at hc
     ·rename_i ks hk
      obtain ⟨d, rfl, hd, hlt⟩ := aD hd hc
      exact vA hop rfl hk hd hlt hx hy h
     ·rename_i ks hk
      obtain ⟨d, rfl, hd, hlt⟩ := aD hd hc
      exact vA hop rfl hk hd hlt hx hy h
     ·split at hc
      ·rename_i tk htk
       obtain ⟨d, rfl, hd, hlt⟩ := aD hd hc
       exact AB hop rfl htk hd hlt hx hy h
      ·cases hc
     ·split at hc
      ·rename_i tk htk
       obtain ⟨d, rfl, hd, hlt⟩ := aD hd hc
       exact AB hop rfl htk hd hlt hx hy h
      ·cases hc
     ·cases hc
   ·cases hc
 | unOp op t x =>
   simp only [aH, hop] at hc
   split at hc
   ·rename_i s rxx hd hx
    obtain ⟨d, rfl, hd, hlt⟩ := aD hd hc
    exact Gy hop hd hlt hx h
   ·cases hc
 | convert t' t x =>
   simp only [aH, hop] at hc
   split at hc
   ·rename_i s rxx k' k hd hx hu' hu
    obtain ⟨d, rfl, hd, hlt⟩ := aD hd hc
    exact Cc hop hu' hu hd hlt hx h
   ·cases hc
 | makeFunc fn first caps =>
   cases fn with
   | func f =>
     simp only [aH, hop] at hc
     split at hc
     ·rename_i s pf r1 r2 hd hf h1 h2
      obtain ⟨d, rfl, hd, hlt⟩ := aD hd hc
      exact DA hop hd hlt hf h1 h2 h
     ·cases hc
   | _ => simp only [aH, hop] at hc; cases hc
 | makeMap t res =>
   cases res with
   | none =>
     simp only [aH, hop] at hc
     split at hc
     ·rename_i s hd
      obtain ⟨d, rfl, hd, hlt⟩ := aD hd hc
      exact CC hop hd hlt h
     ·cases hc
   | some q => simp only [aH, hop] at hc; cases hc
 | makeSlice t l c =>
   simp only [aH, hop] at hc
   split at hc
   ·rename_i s el n r1 r2 hd hsl h1 h2
    obtain ⟨hu, hs⟩ := bN hsl
    split at hc
    ·rename_i z i hz hi
     cases hb : (Nat.ble i.bytes 65536 && Nat.beq z.length n) with
     | false => rw [hb] at hc; cases hc
     | true =>
       rw [hb] at hc
       rw [Bool.and_eq_true] at hb
       obtain ⟨d, rfl, hd, hlt⟩ := aD hd hc
       exact Dw hop hd hlt h1 h2 hu hs hz hi (Nat.le_of_ble_eq_true hb.1) (Nat.eq_of_beq_eq_true hb.2) h
    ·cases hc
   ·cases hc
 | slice t x lo hi mx =>
   simp only [aH, hop] at hc
   split at hc
   ·rename_i s rxx rlo rhi rmx hd hx hlo hhi hmx
    cases hb : (rhi.isNone && rmx.isSome) with
    | true => rw [hb] at hc; cases hc
    | false =>
      rw [hb] at hc
      simp only [cond_false] at hc
      split at hc
      ·rename_i el hu
       split at hc
       ·rename_i n hn
        obtain ⟨d, rfl, hd, hlt⟩ := aD hd hc
        exact ED hop hd hlt hx hlo hhi hmx hb hu hn h
       ·cases hc
      ·rename_i len el hu
       split at hc
       ·rename_i n hn
        obtain ⟨d, rfl, hd, hlt⟩ := aD hd hc
        exact Eb hop hd hlt hx hlo hhi hmx hu hn h
       ·cases hc
      ·cases hc
   ·cases hc
 | fieldAddr t x f =>
   simp only [aH, hop] at hc
   split at hc
   ·rename_i s rxx k ft hd hx hf
    split at hc
    ·rename_i n hn
     obtain ⟨d, rfl, hd, hlt⟩ := aD hd hc
     exact ET hop hd hlt hx hf hn h
    ·cases hc
   ·cases hc
 | field t x f =>
   simp only [aH, hop] at hc
   split at hc
   ·rename_i s rxx k ft hd hx hf
    split at hc
    ·rename_i row n hr hn
     obtain ⟨d, rfl, hd, hlt⟩ := aD hd hc
     exact CJ hop hd hlt hx hf hr hn h
    ·cases hc
   ·cases hc
 | indexAddr t x i =>
   simp only [aH, hop] at hc
   split at hc
   ·rename_i s r1 r2 el hd hx hi hu
    split at hc
    ·rename_i n hn
     obtain ⟨d, rfl, hd, hlt⟩ := aD hd hc
     exact Dy hop hd hlt hx hi hu hn h
    ·cases hc
   ·rename_i s r1 r2 len el hd hx hi hu
    split at hc
    ·rename_i n hn
     obtain ⟨d, rfl, hd, hlt⟩ := aD hd hc
     exact CY hop hd hlt hx hi hu hn h
    ·cases hc
   ·cases hc
 | lookup t x i ok =>
   simp only [aH, hop] at hc
   split at hc
   ·rename_i s r1 r2 k el hd hx hi hu
    split at hc
    ·rename_i zero ks hz hk
     obtain ⟨d, rfl, hd, hlt⟩ := aD hd hc
     exact DG hop hd hlt hx hi hu hz hk h
    ·cases hc
   ·cases hc
 | mapUpdate t m i v =>
   simp only [aH, hop] at hc
   split at hc
   ·rename_i r1 r2 r3 k el hd h1 h2 h3 hu
    split at hc
    ·rename_i ks hk
     cases hc
     exact uB (.inl hop) hd h1 h2 h3 hu hk h
    ·cases hc
   ·cases hc
 | insert t m i v =>
   simp only [aH, hop] at hc
   split at hc
   ·rename_i r1 r2 r3 k el hd h1 h2 h3 hu
    split at hc
    ·rename_i ks hk
     cases hc
     exact uB (.inr hop) hd h1 h2 h3 hu hk h
    ·cases hc
   ·cases hc
 | extract x n =>
   simp only [aH, hop] at hc
   split at hc
   ·rename_i s rxx hd hx
    obtain ⟨d, rfl, hd, hlt⟩ := aD hd hc
    exact CU hop hd hlt hx h
   ·cases hc
 | index t x i =>
   simp only [aH, hop] at hc
   split at hc
   ·rename_i s r1 r2 hd hx hi
    split at hc
    ·rename_i len el hu
     split at hc
     ·rename_i row z hr hz
      obtain ⟨d, rfl, hd, hlt⟩ := aD hd hc
      exact Cj hop hd hlt hx hi hu hr hz h
     ·cases hc
    ·rename_i hu
     obtain ⟨d, rfl, hd, hlt⟩ := aD hd hc
     exact Dz hop hd hlt hx hi hu h
    ·cases hc
   ·cases hc
 | call c =>
   obtain ⟨callee, args, tys⟩ := c
   cases callee with
   | value f =>
     -- a function value that is called
     have byValue : ∀ {y : Operand} {pf : RX} {xs' : List RX} {dst : Option Pos}, o.op = .call { callee := .value y, args := args, argTypes := tys } -> rx y = some pf -> BP args.toList = some xs' -> o.dst = dst.map Pos.ix -> (∀ e, dst = some e -> e.ix < nt) -> It P FP ex dst pf xs' sl ob nx lg = some Z -> OpOk P nt o (pf.ss ++ RX.sss xs') ⟨sl, ob, nx, lg⟩ Z := by
      intro y pf xs' dst hop hf hxs hd hlt h
      unfold It at h
      split at h
      ·rename_i v0 ds hv hds
       rcases El hFP IH h with ⟨g, first, caps, v, ob', nx', lg', rfl, h1, h2⟩ | ⟨id, v, ob', nx', lg', rfl, h1, h2⟩
       ·refine pP hd hlt h1 h2 fun {V γ a w} R hs => ?_
        obtain ⟨vx, vy, e1, e2, e3⟩ := qV (aB hf hv R fun s h => hs s (by simp [h]))
        refine ⟨vx ++ args.map a.eval ++ vy, ?_, fun hr => ?_⟩
        ·simp only [Array.toList_append, Array.toList_map, List.append_assoc]
         exact e2.append ((fK hxs hds R fun s h => hs s (by simp [h])).append e3)
        ·rw [Array.append_assoc] at hr
         simp [execOp, hop, resolve, Deferred.ofValue, e1, invoke, hr]
       ·refine Co hd hlt h1 h2 fun {V γ a w} R hs => ?_
        have e1 := aB hf hv R fun s h => hs s (by simp [h])
        unfold DV at e1
        refine ⟨e1.1, args.map a.eval, ?_, fun x hr => ?_⟩
        ·rw [Array.toList_map]
         exact fK hxs hds R fun s h => hs s (by simp [h])
        ·simp [execOp, hop, resolve, Deferred.ofValue, e1.2, invoke, hr]
      ·cases h
     cases f with
     | func f =>
       simp only [aH, hop] at hc
       split at hc
       ·rename_i pf xs' hf hxs
        obtain ⟨dst, rfl, hd, hlt⟩ := gG (f := fun d => RO.cf d pf xs') hc
        have h : Hf FP ex dst pf xs' sl ob nx lg = some Z := h
        unfold Hf at h
        split at h
        ·rename_i ds hds
         obtain ⟨v, ob', nx', lg', h1, h2⟩ := gY hFP IH h
         refine pP hd hlt h1 h2 fun {V γ a w} R hs => ?_
         refine ⟨args.map a.eval, ?_, fun hr => ?_⟩
         ·rw [Array.toList_map]
          exact fK hxs hds R fun s h => hs s h
         ·rw [cQ hf] at hr
          rw [cQ hf]
          simp [execOp, hop, resolve, Deferred.ofValue, Act.eval, invoke, hr]
        ·cases h
       ·cases hc
     | _ =>
       simp only [aH, hop] at hc
       split at hc
       ·rename_i pf xs' hf hxs
        obtain ⟨dst, rfl, hd, hlt⟩ := gG (f := fun d => RO.cv d pf xs') hc
        exact byValue hop hf hxs hd hlt h
       ·cases hc
   | invoke r m => simp only [aH, hop] at hc; cases hc
   | builtin b =>
     cases b with
     | len =>
       simp only [aH, hop] at hc
       split at hc
       ·rename_i s x t hd ha ht
        split at hc
        ·rename_i rxx el hx hu
         obtain ⟨d, rfl, hd, hlt⟩ := aD hd hc
         exact DS hop ha ht hd hlt hx hu h
        ·cases hc
       ·cases hc
     | cap =>
       simp only [aH, hop] at hc
       split at hc
       ·rename_i s x t hd ha ht
        split at hc
        ·rename_i rxx el hx hu
         obtain ⟨d, rfl, hd, hlt⟩ := aD hd hc
         exact CR hop ha ht hd hlt hx hu h
        ·cases hc
       ·cases hc
     | append =>
       simp only [aH, hop] at hc
       split at hc
       ·rename_i s x y t t' hd ha ht
        split at hc
        ·rename_i r1 r2 el n e' hx hy hsl hu'
         obtain ⟨hu, hs⟩ := bN hsl
         split at hc
         ·rename_i z i hz hi
          cases hb : (Nat.beq z.length n && Nat.ble i.bytes 65536) with
          | false => rw [hb] at hc; cases hc
          | true =>
            rw [hb] at hc
            rw [Bool.and_eq_true] at hb
            obtain ⟨d, rfl, hd, hlt⟩ := aD hd hc
            exact DD hop ha ht hd hlt hx hy hu hs hu' hz hi (Nat.eq_of_beq_eq_true hb.1) (Nat.le_of_ble_eq_true hb.2) h
         ·cases hc
        ·rename_i r1 r2 el n e' hx hy hsl hu'
         obtain ⟨hu, hs⟩ := bN hsl
         split at hc
         ·rename_i z i hz hi
          cases hb : (Nat.beq z.length n && Nat.ble i.bytes 65536) with
          | false => rw [hb] at hc; cases hc
          | true =>
            rw [hb] at hc
            rw [Bool.and_eq_true] at hb
            obtain ⟨d, rfl, hd, hlt⟩ := aD hd hc
            exact CL hop ha ht hd hlt hx hy hu hs hu' hz hi (Nat.eq_of_beq_eq_true hb.1) (Nat.le_of_ble_eq_true hb.2) h
         ·cases hc
        ·cases hc
       ·cases hc
     | copy =>
       simp only [aH, hop] at hc
       split at hc
       ·rename_i x y t t' ha ht
        split at hc
        ·rename_i r1 r2 el n e' hx hy hsl hu'
         obtain ⟨hu, hs⟩ := bN hsl
         split at hc
         ·rename_i hd
          cases hc
          exact uK (dst := none) hop ha ht hd (fun d e => by cases e) hx hy hu hs hu' h
         ·rename_i s hd
          obtain ⟨d, rfl, hd, hlt⟩ := aD hd hc
          exact uK (dst := some d) hop ha ht hd (fun d' e => by cases e; exact hlt) hx hy hu hs hu' h
        ·cases hc
       ·cases hc
     | clear =>
       simp only [aH, hop] at hc
       split at hc
       ·rename_i x t hd ha ht
        split at hc
        ·rename_i r1 el n hx hsl
         obtain ⟨hu, hs⟩ := bN hsl
         split at hc
         ·rename_i z hz
          cases hb : Nat.beq z.length n with
          | false => rw [hb] at hc; cases hc
          | true =>
            rw [hb] at hc
            cases hc
            exact Cq hop ha ht hd hx hu hs hz (Nat.eq_of_beq_eq_true hb) h
         ·cases hc
        ·cases hc
       ·cases hc
     | max =>
       simp only [aH, hop] at hc
       split at hc
       ·rename_i s x y _ hd ha
        split at hc
        ·rename_i r1 r2 hx hy
         obtain ⟨d, rfl, hd, hlt⟩ := aD hd hc
         exact kI hop ha hd hlt hx hy (.inl ⟨rfl, h⟩)
        ·cases hc
       ·cases hc
     | min =>
       simp only [aH, hop] at hc
       split at hc
       ·rename_i s x y _ hd ha
        split at hc
        ·rename_i r1 r2 hx hy
         obtain ⟨d, rfl, hd, hlt⟩ := aD hd hc
         exact kI hop ha hd hlt hx hy (.inr ⟨rfl, h⟩)
        ·cases hc
       ·cases hc
     | _ => simp only [aH, hop] at hc; cases hc
 | _ => simp only [aH, hop] at hc; cases hc
end
open Go.RowKit (Below)
structure IOk (P : Program) (nt : Nat) (ops : Array Oper) (i : Nat) (names : List Pos) (x Z : X) : Prop where
 lg : LgLe x.lg Z.lg
 nx : x.nx.nat <= Z.nx.nat
 obf : Keeps Z.lg x.ob Z.ob
 slf : ∀ s : Pos, (ops[i]?).bind (·.dst) ≠ some s.ix -> Z.sl.get s = x.sl.get s
 ok : ∀ V : Sel, (∀ s, s ∈ names -> V.ss s) -> (∀ id, tchd Z.lg id -> V.so id) -> ∀ (ro : Option Nat) (γ : Gh) (a : Act) (w : World), a.tmps.size = nt -> G ro γ a w -> Rep P V γ a w x ->
  ∀ (n : Nat) (K : Act -> World -> Prop) (Q : Exit -> Act -> World -> Prop), (∀ γ' a' w', St ro Z.lg ((ops[i]?).bind (·.dst)) γ a w γ' a' w' -> Rep P V γ' a' w' Z -> K a' w') -> wpOpIn (FW ro) n P ops Q i K a w
section
variable {P : Program} {FP : T RF} {ex : RC -> X -> Option (Ex × X)} {nt : Nat} {ops : Array Oper} {o : Oper}
theorem jI {x Z : X} (h : yG P FP ex (.u .bad) x = some Z) : False := by
 cases x; cases h
theorem IOk.of_op {i : Nat} {names names' : List Pos} {x Z : X} (ho : ops[i]? = some o) (hg : ∀ V : Sel, (∀ s, s ∈ names' -> V.ss s) -> ∀ γ a w, Rep P V γ a w x -> Region.wanted o (yielded ops a.tmps) = true) (hs : ∀ s, s ∈ names -> s ∈ names') (h : OpOk P nt o names x Z) : IOk P nt ops i names' x Z :=
 ⟨h.lg, h.nx, h.obf, fun s hs => h.slf s (by rw [ho] at hs; exact hs), fun V hV hto ro γ a w hn g R n K Q hK => by
  simp only [wpOpIn, ho, hg V hV γ a w R, if_true]
  simp only [ho, Option.bind_some] at hK
  exact h.ok V (fun s hs' => hV s (hs s hs')) hto ro γ a w hn g R n K Q hK⟩
theorem mN {γ : Gh} {w : World} : DV γ w (.tp []) undef := by
 unfold DV
 exact ⟨#[], rfl, DVL.nil⟩
theorem tD {γ : Gh} {w : World} {v : Value} (h : DV γ w (.tp []) v) : v = .tuple #[] := by
 obtain ⟨vs, rfl, h2⟩ := tC h
 unfold DVL at h2
 rw [show vs = #[] by cases vs; simp at h2; rw [h2]]
theorem Aw (hFP : FPok P FP) (IH : ∀ nt c x e Z, ex (aY P nt c) x = some (e, Z) -> XOk P nt c x e Z) {i : Nat} {x Z : X} (ho : ops[i]? = some o) (h : yG P FP ex (eS P nt ops o) x = some Z) : IOk P nt ops i (eS P nt ops o).ss x Z := by
 obtain ⟨sl, ob, nx, lg⟩ := x
 unfold eS at h ⊢
 split at h
 ·exact (jI h).elim
 ·rename_i r hr
  split at h
  ·rename_i hg
   exact IOk.of_op ho (fun V hV γ a w R => by simp [Region.wanted, hg]) (fun s hs => hs) (At hFP IH hr h)
  ·rename_i j want hg
   -- guarded
   have main : ∀ {oj : Oper} {t : Nat} {p : Pos} {d : Option Pos}, ops[j]? = some oj -> oj.dst = some t -> oN t = some p -> o.dst = d.map Pos.ix -> (∀ e, d = some e -> e.ix < nt) -> yG P FP ex (.g p want d r) ⟨sl, ob, nx, lg⟩ = some Z -> IOk P nt ops i (RG.g p want d r).ss ⟨sl, ob, nx, lg⟩ Z := by
    intro oj t p d hoj ht hp hd hlt h
    have h : Nt P FP ex p want d r ⟨sl, ob, nx, lg⟩ = some Z := h
    simp only [Nt] at h
    split at h
    ·rename_i b hb
     have hy : ∀ V : Sel, (∀ s, s ∈ (RG.g p want d r).ss -> V.ss s) -> ∀ γ a w, Rep P V γ a w ⟨sl, ob, nx, lg⟩ -> yielded ops a.tmps j = some b := by
      intro V hV γ a w R
      obtain ⟨h1, h2⟩ := R.sl p _ (hV p List.mem_cons_self) hb
      rw [cQ hp] at h1 h2
      have h2 := pL h2
      simp only [yielded, hoj, ht, Option.bind_some]
      rw [Array.getD_eq_getD_getElem?] at h2
      rw [Array.getElem?_eq_getElem h1] at h2 ⊢
      simp only [Option.getD_some] at h2
      rw [h2]
     cases hw : (bif want then b else !b) with
     | true =>
       rw [hw] at h
       refine IOk.of_op ho (fun V hV γ a w R => ?_) (fun s hs => List.mem_cons_of_mem _ hs) (At hFP IH hr h)
       simp only [Region.wanted, hg, hy V hV γ a w R]
       cases want <;> cases b <;> first | rfl | cases hw
     | false =>
       rw [hw] at h
       have h : iY sl ob nx lg d (.tp []) = some Z := h
       have hl := jW h
       refine ⟨hl.1 ▸ LgLe.refl _, hl.2.1 ▸ Nat.le_refl _, by rw [hl.2.2.1]; exact Keeps.refl _ _, fun s hs => hl.2.2.2 s (by rw [ho] at hs; rw [<- hd]; exact hs), fun V hV hto ro γ a w hn g R n K Q hK => ?_⟩
       have hwn : Region.wanted o (yielded ops a.tmps) = false := by
        simp only [Region.wanted, hg, hy V hV γ a w R]
        cases want <;> cases b <;> first | rfl | cases hw
       simp only [wpOpIn, ho, hwn]
       simp only [ho, Option.bind_some] at hK
       refine ⟨fun _ _ => trivial, ?_⟩
       obtain ⟨_, _, s1, r1⟩ := kG (ro := ro) (u := undef) (a := a) hd (fun e he => by rw [hn]; exact hlt e he) R h (Fr.refl _ _ _) (fun a' ha => { g with df := by rw [ha]; exact g.df }) mN R.ob R.nx
       rw [<- hl.1] at s1
       exact hK γ _ w s1 r1
    ·rename_i hb
     have hy : ∀ V : Sel, (∀ s, s ∈ (RG.g p want d r).ss -> V.ss s) -> ∀ γ a w, Rep P V γ a w ⟨sl, ob, nx, lg⟩ -> yielded ops a.tmps j = none := by
      intro V hV γ a w R
      obtain ⟨h1, h2⟩ := R.sl p _ (hV p List.mem_cons_self) hb
      rw [cQ hp] at h1 h2
      have h2 := tD h2
      simp only [yielded, hoj, ht, Option.bind_some]
      rw [Array.getD_eq_getD_getElem?] at h2
      rw [Array.getElem?_eq_getElem h1] at h2 ⊢
      simp only [Option.getD_some] at h2
      rw [h2]
     have h : iY sl ob nx lg d (.tp []) = some Z := h
     have hl := jW h
     refine ⟨hl.1 ▸ LgLe.refl _, hl.2.1 ▸ Nat.le_refl _, by rw [hl.2.2.1]; exact Keeps.refl _ _, fun s hs => hl.2.2.2 s (by rw [ho] at hs; rw [<- hd]; exact hs), fun V hV hto ro γ a w hn g R n K Q hK => ?_⟩
     have hwn : Region.wanted o (yielded ops a.tmps) = false := by
      simp only [Region.wanted, hg, hy V hV γ a w R]
      rfl
     simp only [wpOpIn, ho, hwn]
     simp only [ho, Option.bind_some] at hK
     refine ⟨fun _ _ => trivial, ?_⟩
     obtain ⟨_, _, s1, r1⟩ := kG (ro := ro) (u := undef) (a := a) hd (fun e he => by rw [hn]; exact hlt e he) R h (Fr.refl _ _ _) (fun a' ha => { g with df := by rw [ha]; exact g.df }) mN R.ob R.nx
     rw [<- hl.1] at s1
     exact hK γ _ w s1 r1
    ·cases h
   split at h
   ·rename_i oj hoj
    split at h
    ·rename_i t ht
     split at h
     ·rename_i p hp
      split at h
      ·rename_i hd
       exact main hoj ht hp hd (fun e he => by cases he) h
      ·rename_i s hd
       split at h
       ·rename_i d hs
        obtain ⟨h1, h2⟩ := jP hs
        exact main (d := some d) hoj ht hp (by rw [hd, <- h1]; rfl) (fun e he => by cases he; rw [h1]; exact h2) h
       ·exact (jI h).elim
     ·exact (jI h).elim
    ·exact (jI h).elim
   ·exact (jI h).elim
end
open Go.RowKit (Below)
section
variable {P : Program} {FP : T RF} {ex : RC -> X -> Option (Ex × X)} {nt : Nat} {ops : Array Oper} {o : Oper}
theorem AM (hFP : FPok P FP) (IH : ∀ nt c x e Z, ex (aY P nt c) x = some (e, Z) -> XOk P nt c x e Z) : ∀ (l pre : List Oper) {x Z : X}, ops.toList = pre ++ l -> Ho P FP ex (bS P nt ops l) x = some Z ->
 LgLe x.lg Z.lg /\ x.nx.nat <= Z.nx.nat /\ Keeps Z.lg x.ob Z.ob /\ ∀ so : Pos -> Prop, (∀ id, tchd Z.lg id -> so id) -> ∀ (ro : Option Nat) (γ : Gh) (a : Act) (w : World), a.tmps.size = nt -> G ro γ a w -> Rep P (eH so) γ a w x ->
 ∀ (n : Nat) (Q : Exit -> Act -> World -> Prop), (∀ γ' a' w', CSt ro Z.lg γ a w γ' a' w' -> Rep P (eH so) γ' a' w' Z -> Q .normal a' w') -> wpOpsIn (FW ro) n P ops Q (List.range' pre.length l.length) a w
 | [], pre, x, Z, ho, h => by
   cases h
   exact ⟨LgLe.refl _, Nat.le_refl _, Keeps.refl _ _, fun so hs ro γ a w hn g R n Q hQ => hQ γ a w (CSt.refl g) R⟩
 | o :: l, pre, x, Z, ho, h => by
   have h : (match yG P FP ex (eS P nt ops o) x with
    | some x => Ho P FP ex (bS P nt ops l) x
    | none => none) = some Z := h
   split at h
   ·rename_i y hy
    have hoi : ops[pre.length]? = some o := by
     rw [<- Array.getElem?_toList, ho]; simp
    have I := Aw hFP IH hoi hy
    obtain ⟨h1, h2, hk, h3⟩ := AM hFP IH l (pre ++ [o]) (by rw [ho]; simp) h
    refine ⟨I.lg.trans h1, Nat.le_trans I.nx h2, I.obf.trans h1 hk, fun so hs ro γ a w hn g R n Q hQ => ?_⟩
    rw [List.length_cons, List.range'_succ, wpOpsIn_cons]
    refine I.ok (eH so) (fun _ _ => trivial) (fun id hid => hs id (h1.t id hid)) ro γ a w hn g R n _ Q fun γ1 a1 w1 s1 R1 => ?_
    have := h3 so hs ro γ1 a1 w1 (s1.sz.trans hn) s1.g R1 n Q fun γ2 a2 w2 s2 R2 => hQ γ2 a2 w2 (CSt.trans h1 s1.code s2) R2
    rw [List.length_append, List.length_singleton] at this
    exact this
   ·cases h
theorem XOk.reg (hFP : FPok P FP) (IH : ∀ nt c x e Z, ex (aY P nt c) x = some (e, Z) -> XOk P nt c x e Z) {id : Nat} {x Z : X} {e : Ex} (h : Es P FP ex (bS P nt ops ops.toList) x = some (e, Z)) : XOk P nt (.region id ops false) x e Z := by
 unfold Es at h
 split at h
 ·rename_i y hy
  cases h
  obtain ⟨h1, h2, hk, h3⟩ := AM hFP IH ops.toList [] rfl hy
  refine ⟨h1, h2, hk, fun so hs ro γ a w hn g R n Q hQ => wpIn_region ?_⟩
  have := h3 so hs ro γ a w hn g R n Q hQ
  rw [List.range_eq_range']
  rw [Array.length_toList] at this
  exact this
 ·cases h
end
open Go.RowKit (Below)
theorem qF {nt : Nat} : ∀ {l : List Nat} {ps : List Pos}, oX nt l = some ps -> l = ps.map Pos.ix /\ ∀ p, p ∈ ps -> p.ix < nt
 | [], ps, h => by cases h; exact ⟨rfl, fun p hp => by cases hp⟩
 | s :: l, ps, h => by
   simp only [oX] at h
   split at h
   ·rename_i p ps' h1 h2
    cases h
    obtain ⟨h3, h4⟩ := jP h1
    obtain ⟨h5, h6⟩ := qF h2
    refine ⟨by rw [List.map_cons, h3, <- h5], fun q hq => ?_⟩
    rcases List.mem_cons.1 hq with e | hq
    ·rw [e, h3]; exact h4
    ·exact h6 q hq
   ·cases h
section
variable {P : Program} {FP : T RF} {ex : RC -> X -> Option (Ex × X)} {nt : Nat}
theorem lX {ro : Option Nat} {γ : Gh} {a : Act} {w : World} (g : G ro γ a w) (fn : FuncId) (ps : Array Tmp) (asg body : Code) :
 ∃ (l : Nat) (mk : List Deferred) (w0 : World) (r : Loop), (Instr.enterLoop fn a.tmps ps asg body ro).run P w = .ok (l, mk) (w0.alloc (.loop r)) /\ l = w0.heap.size /\ w.heap.size <= l /\
   r.state = .ready /\ r.pending = none /\ r.tmps = a.tmps /\ r.params = ps /\ r.assign = asg /\ r.body = body /\
   (∀ id, Fr (fun j => j = id) γ γ w w0) /\ G ro γ { a with defers := mk ++ a.defers } w0 /\ ∀ r, pH r ∈ mk ++ a.defers -> pH r ∈ a.defers \/ w.heap.size <= r := by
 cases ro with
 | some l0 =>
   obtain ⟨r0, hr0⟩ := g.rd l0 rfl
   exact ⟨_, [], w, _, run_enterLoop_inner hr0 _ _ _ _ _, rfl, Nat.le_refl _, rfl, rfl, rfl, rfl, rfl, rfl, fun id => Fr.refl _ _ _, g, fun r hr => .inl hr⟩
 | none =>
   have key : ∀ id, Fr (fun j => j = id) γ γ w (w.alloc (.deferred (some []))) /\ ∀ a' : Act, a'.defers = a.defers -> G none γ a' (w.alloc (.deferred (some []))) := fun id =>
    nO g id (by rw [dR]; omega) (fun c hc _ => aX w _ hc)
     (fun c x hx => by rw [cY (aX w _ (mF hx))]; exact hx)
     (fun c r hr => ⟨r, by rw [aX w _ (Array.getElem?_eq_some_iff.1 hr).1]; exact hr⟩) ⟨rfl, rfl, rfl⟩ (iJ w _ (fun _ _ _ h => by cases h))
   refine ⟨_, [pH w.heap.size], w.alloc (.deferred (some [])), _, run_enterLoop_outer _ _ _ _ _, by rw [dR], by omega, rfl, rfl, rfl, rfl, rfl, rfl, fun id => (key id).1, ?_, fun r hr => ?_⟩
   ·have g1 := (key .h).2 a rfl
    refine ⟨g1.ob, g1.inj, ?_, (fun l hl => by cases hl), g1.im, g1.gl⟩
    obtain ⟨ms, h1, h2, h3⟩ := g1.df
    obtain ⟨ms', h1', h2', h3'⟩ := g.df
    have hms : ∀ q, q ∈ ms -> q ≠ w.heap.size := by
     intro q hq e
     have : pH q ∈ a.defers := by rw [h1]; exact qI.2 hq
     rw [h1'] at this
     have := (h3' q (qI.1 this)).1
     have := (Array.getElem?_eq_some_iff.1 this).1
     omega
    refine ⟨w.heap.size :: ms, by simp [h1], List.nodup_cons.2 ⟨fun h => hms _ h rfl, h2⟩, fun q hq => ?_⟩
    rcases List.mem_cons.1 hq with e | hq
    ·subst e
     exact ⟨aW w _, fun id st hst e => by have := g.ob id st hst; omega⟩
    ·exact h3 q hq
   ·rcases List.mem_cons.1 hr with e | hr
    ·right
     have : r = w.heap.size := by
      unfold pH at e
      cases e; rfl
     omega
    ·exact .inl hr
theorem XOk.rf (hFP : FPok P FP) (IH : ∀ nt c x e Z, ex (aY P nt c) x = some (e, Z) -> XOk P nt c x e Z) {f : Operand} {psT : Array Tmp} {asg body : Code} {rf : RX} {ps : List Pos} {x Z : X} {e : Ex} (hf : rx f = some rf) (hps : oX nt psT.toList = some ps)
 (h : GZ FP ex rf ps nt asg body x = some (e, Z)) : XOk P nt (.rangeFunc f psT asg body) x e Z := by
 obtain ⟨sl, ob, nx, lg⟩ := x
 obtain ⟨hps1, hps2⟩ := qF hps
 simp only [GZ] at h
 split at h
 ·rename_i f' first caps hv
  rw [T.setK_eq, Pos.succK_eq] at h
  split at h
  ·rename_i sl2 ob2 nx2 lg2 hcall
   obtain ⟨lg1, h1, hl1, hw1⟩ := mB hcall
   obtain ⟨v, ob', nx', lg', h2, C⟩ := gY hFP IH h1
   cases h2
   have main : ∀ {tm : T D} {pp : List Pos} {nt' : Nat} {c1 c2 : Code} {st : LS} {j : Option Ex}, ob2.get nx = some (.lp tm pp nt' c1 c2 st j) -> st ≠ .busy -> j.getD .normal = e -> Z = ⟨sl, T.set nx (.lp tm pp nt' c1 c2 .gone j) ob2, nx2, lg2⟩ -> XOk P nt (.rangeFunc f psT asg body) ⟨sl, ob, nx, lg⟩ e Z := by
    intro tm pp nt' c1 c2 st j hob hst he hZ
    subst hZ
    have hhl := C.hl
    have hhx := C.hx
    rw [Pos.succ_nat] at hhx
    refine ⟨hl1.trans hhl, by show nx.nat <= nx2.nat; omega, (((Keeps.refl _ _).set hw1 _).trans hhl C.hk).set (hhl.w nx hw1) _, fun so hso ro γ a w hn g R n Q hQ => wpIn_rangeFunc fun fn _ => ?_⟩
    have hsn : so nx := hso nx (hhl.w nx hw1).tchd
    obtain ⟨l, mk, w0, r, he1, rfl, hle, hr1, hr2, hr3, hr4, hr5, hr6, F0, g0, hmk⟩ := lX (P := P) g fn psT asg body
    obtain ⟨F1, g1⟩ := lP g0 nx (.loop r) (fun _ _ _ h => by cases h)
    have h0 := R.nx nx hsn (Nat.le_refl _)
    have U1 : Up γ (γ.push nx (w0.heap.size, 0)) w (w0.alloc (.loop r)) := (F0 nx).up.trans F1.up
    have F01 : Fr (fun j => j = nx) γ (γ.push nx (w0.heap.size, 0)) w (w0.alloc (.loop r)) := (F0 nx).trans F1
    have hcur : (γ.push nx (w0.heap.size, 0)).cur nx = 1 := by rw [γ.push_cur, h0]
    have hβ : (γ.push nx (w0.heap.size, 0)).β nx 0 = (w0.heap.size, 0) := by rw [<- h0]; exact γ.push_β nx _
    obtain ⟨vx, vy, ev, hvx, hvy⟩ := qV (aB hf hv R fun _ _ => trivial)
    have hargs : DVL (γ.push nx (w0.heap.size, 0)) (w0.alloc (.loop r)) (first ++ (.yl nx :: caps)) (vx ++ #[Value.func (.yield w0.heap.size) #[] #[]] ++ vy).toList := by
     simp only [Array.toList_append, List.append_assoc]
     refine (DVL.mono U1 _ _ hvx).append ?_
     refine DVL.cons ?_ (DVL.mono U1 _ _ hvy)
     unfold DV
     exact ⟨by rw [hcur]; exact Nat.one_pos, by rw [hβ]⟩
    have hobs : ∀ id c, so id -> (T.set nx (Ev.C.lp sl ps nt asg body .ready none) ob).get id = some c -> HoldsO P (γ.push nx (w0.heap.size, 0)) (w0.alloc (.loop r)) id c :=
     aQ (V := eH so) R g F01 fun _ => by
      refine ⟨hcur, r, by rw [hβ]; exact aW w0 _, by rw [hr1]; rfl, by rw [hr2]; rfl, fun s d hd => ?_, by rw [hr4]; exact hps1, fun p hp => by rw [hr3, hn]; exact hps2 p hp, by rw [hr3]; exact hn, hr5, hr6⟩
      obtain ⟨q1, q2⟩ := R.sl s d trivial hd
      rw [hr3]
      exact ⟨q1, DV.mono U1 _ _ q2⟩
    have hnx : ∀ id, so id -> nx.succ.nat <= id.nat -> (γ.push nx (w0.heap.size, 0)).cur id = 0 := by
     intro id hid hle
     rw [Pos.succ_nat] at hle
     have hne : id ≠ nx := by rintro rfl; omega
     rw [γ.push_cur_ne _ hne]
     exact R.nx id hid (by show nx.nat <= id.nat; omega)
    have G1 := g1 { a with defers := mk ++ a.defers } rfl
    obtain ⟨hc, hcalls⟩ := C.ok so hso _ _ _ G1.gh hargs hobs hnx
    refine ⟨w0.heap.size, mk, _, { target := .fn (.func f'.ix) vy, args := vx ++ #[.func (.yield w0.heap.size) #[] #[]] }, w0.alloc (.loop r), f'.ix, _, _, he1, ?_, fun _ _ => trivial, ?_, (fun h => by cases h), hcalls ro (n - 1) _ fun γ2 w2 u gh2 F2 _ ho2 hn2 => ?_⟩
    ·simp only [resolve, rangeCall, ev]
     simp [Deferred.ofValue, Act.eval]
    ·simp only [invoke]
     exact hc _
    ·have G2 : G ro γ2 { a with defers := mk ++ a.defers } w2 := G1.of F2 rfl gh2.ob gh2.inj gh2.im
     have hcur2 : 0 < γ2.cur nx := Nat.lt_of_lt_of_le (by rw [hcur]; exact Nat.one_pos) (F2.up.cur nx)
     have hβ2 : (γ2.β nx 0).1 = w0.heap.size := by rw [F2.up.β nx 0 (by rw [hcur]; exact Nat.one_pos), hβ]
     obtain ⟨hc3, l3, hl3, hst3, hpd3, hsl3, hps3, hpb3, hnt3, ha3, hb3⟩ := ho2 nx _ hsn hob
     rw [hβ2] at hl3
     have hlt3 : w0.heap.size < w2.heap.size := (Array.getElem?_eq_some_iff.1 hl3).1
     have hnb : l3.state ≠ .busy := by
      rw [hst3]
      cases st <;> first | exact absurd rfl hst | (intro h; cases h)
     refine ⟨_, _, run_endLoop hl3 hnb, ?_⟩
     have LP := gR (l' := { l3 with state := .exhausted }) G2 hcur2 (by rw [hβ2]; exact hl3)
     rw [hβ2] at LP
     obtain ⟨F3, g3⟩ := LP
     have rep2 : Rep P (eH so) γ2 { a with defers := mk ++ a.defers } w2 ⟨sl, ob2, nx2, lg2⟩ :=
      ⟨fun s d hs hd => ⟨(R.sl s d hs hd).1, DV.mono F2.up _ _ (DV.mono U1 _ _ (R.sl s d hs hd).2)⟩, ho2, hn2, gh2.gl⟩
     have hwn : ∀ j, j = nx -> wrtn lg2 j := fun j e => by rw [e]; exact hhl.w nx hw1
     have fin := hQ γ2 { a with defers := mk ++ a.defers } (w2.putObj w0.heap.size (.loop { l3 with state := .exhausted }))
      ⟨g3 _ rfl, ((F01.mono hwn).trans F2).trans (F3.mono hwn), rfl, hmk⟩
      ⟨fun s d hs hd => ⟨(rep2.sl s d hs hd).1, DV.mono F3.up _ _ (rep2.sl s d hs hd).2⟩, aQ rep2 G2 F3 (fun _ => by
       refine ⟨hc3, { l3 with state := .exhausted }, by rw [hβ2]; exact World.putObj_heap_same hlt3, rfl, hpd3, fun s d hd => ⟨(hsl3 s d hd).1, DV.mono F3.up _ _ (hsl3 s d hd).2⟩, hps3, hpb3, hnt3, ha3, hb3⟩), rep2.nx, rep2.gl.up F3.up⟩
     generalize w2.putObj w0.heap.size (.loop { l3 with state := .exhausted }) = w4 at fin ⊢
     rw [hpd3]
     cases j with
     | none => subst he; exact fin
     | some e' =>
       cases e' with
       | normal => subst he; exact fin
       | ret => subst he; exact wpIn_ret fin
       | exit i => subst he; exact wpIn_exit fin
   split at h
   ·cases h
   ·rename_i tm pp nt' c1 c2 st j hne hob
    rw [T.setK_eq] at h
    split at h
    ·cases h
     exact main hob (fun e => by subst e; exact hne rfl) rfl rfl
    ·rename_i e'
     cases h
     exact main hob (fun e => by subst e; exact hne rfl) rfl rfl
   ·cases h
  ·cases h
 ·cases h
end
open Go.RowKit (Below)
theorem Bz {a b : Option Bool} (h : tU a b = true) {x y : Bool} (ha : a = some x) (hb : b = some y) : x = false /\ y = false := by
 subst ha hb
 cases x <;> cases y <;> first | exact ⟨rfl, rfl⟩ | cases h
theorem Am (b : T Bool) : fI .e b = true := rfl
theorem vO (a : T Bool) : fI a .e = true := by cases a <;> rfl
theorem FL {l r l' r' : T Bool} {v v' : Option Bool} : fI (.n l v r) (.n l' v' r') = (bif tU v v' then (bif fI l l' then fI r r' else false) else false) := rfl
theorem mX : ∀ {a b : T Bool}, fI a b = true -> ∀ (p : Pos) {x y : Bool}, a.get p = some x -> b.get p = some y -> x = false /\ y = false
 | .e, b, _, p, x, y, ha, _ => by rw [T.get_e] at ha; cases ha
 | .n l v r, .e, _, p, x, y, _, hb => by rw [T.get_e] at hb; cases hb
 | .n l v r, .n l' v' r', h, p, x, y, ha, hb => by
   rw [FL] at h
   cases h1 : tU v v' with
   | false => rw [h1] at h; cases h
   | true =>
     cases h2 : fI l l' with
     | false => rw [h1, h2] at h; cases h
     | true =>
       rw [h1, h2] at h
       cases p with
       | h => exact Bz h1 ha hb
       | o p => exact mX h2 p ha hb
       | i p => exact mX h p ha hb
def uM (a b : Option Bool) : Option Bool :=
 match a, b with
 | none, b => b
 | some x, none => some x
 | some true, some _ => some true
 | some false, some y => some y
theorem qT {β : Type} (a b : Option Bool) (k : Option Bool -> β) : kA a b k = k (uM a b) := by
 cases a with
 | none => rfl
 | some x => cases b with
   | none => cases x <;> rfl
   | some y => cases x <;> rfl
theorem nX {β : Type} : ∀ (a b : T Bool) (k : T Bool -> β), ∃ u, gK a b k = k u /\ ∀ p, u.get p = uM (a.get p) (b.get p)
 | .e, b, k => ⟨b, rfl, fun p => by rw [T.get_e]; rfl⟩
 | .n l v r, .e, k => ⟨_, rfl, fun p => by rw [T.get_e]; cases (T.n l v r).get p with
   | none => rfl
   | some x => cases x <;> rfl⟩
 | .n l v r, .n l' v' r', k => by
   have h0 : gK (.n l v r) (.n l' v' r') k = gK l l' fun l2 => gK r r' fun r2 => kA v v' fun v2 => k (.n l2 v2 r2) := rfl
   obtain ⟨u1, h1, h2⟩ := nX l l' fun l2 => gK r r' fun r2 => kA v v' fun v2 => k (.n l2 v2 r2)
   obtain ⟨u2, h3, h4⟩ := nX r r' fun r2 => kA v v' fun v2 => k (.n u1 v2 r2)
   refine ⟨.n u1 (uM v v') u2, by rw [h0, h1, h3, qT], fun p => ?_⟩
   cases p with
   | h => rfl
   | o p => exact h2 p
   | i p => exact h4 p
theorem tB {β : Type} (lg : Option (T Bool)) (L : T Bool) (k : Option (T Bool) -> β) : ∃ lg', jV lg L k = k lg' /\ LgLe lg lg' /\ (∀ id, tchd (some L) id -> tchd lg' id) /\ ∀ id, wrtn (some L) id -> wrtn lg' id := by
 cases lg with
 | none => exact ⟨none, rfl, LgLe.refl _, fun _ _ => trivial, fun _ _ => trivial⟩
 | some A =>
   obtain ⟨u, h1, h2⟩ := nX A L fun L => k (some L)
   refine ⟨some u, h1, ⟨by simp, fun id ⟨b, hb⟩ => ?_, fun id hb => ?_⟩, fun id ⟨b, hb⟩ => ?_, fun id hb => ?_⟩
   ·show ∃ b, u.get id = some b
    rw [h2, hb]
    cases hL : L.get id with
    | none => cases b <;> exact ⟨_, rfl⟩
    | some y => cases b <;> exact ⟨_, rfl⟩
   ·show u.get id = some true
    have hb : A.get id = some true := hb
    rw [h2, hb]
    cases L.get id <;> rfl
   ·show ∃ b, u.get id = some b
    rw [h2, hb]
    cases A.get id with
    | none => exact ⟨_, rfl⟩
    | some y => cases y <;> exact ⟨_, rfl⟩
   ·show u.get id = some true
    have hb : L.get id = some true := hb
    rw [h2, hb]
    cases A.get id with
    | none => rfl
    | some y => cases y <;> rfl
theorem mO {m : Nat} {L : T Bool} : ∀ {acc : List (Nat × T Bool)}, jU m L acc = true -> ∀ i A, (i, A) ∈ acc -> cU m i = true \/ fI A L = true
 | [], _, i, A, h => by cases h
 | (j, B) :: acc, h, i, A, hm => by
   have h : (bif cU m j then jU m L acc else bif fI B L then jU m L acc else false) = true := h
   cases h1 : cU m j with
   | true =>
     rw [h1] at h
     rcases List.mem_cons.1 hm with e | hm
     ·cases e; exact .inl h1
     ·exact mO h i A hm
   | false =>
     cases h2 : fI B L with
     | false => rw [h1, h2] at h; cases h
     | true =>
       rw [h1, h2] at h
       rcases List.mem_cons.1 hm with e | hm
       ·cases e; exact .inr h2
       ·exact mO h i A hm
theorem zT (ms : List Nat) (j : Nat) : cK (vY ms) j = cK ms (j + 1) := by
 cases ms with
 | nil => cases j <;> rfl
 | cons x l => rfl
section
variable {P : Program} {FP : T RF} {ex : RC -> X -> Option (Ex × X)} {nt : Nat} {ops : Array Oper} {o : Oper}
def X.at (x : X) (lg : Option (T Bool)) : X := ⟨x.sl, x.ob, x.nx, lg⟩
def dT (P : Program) (nt : Nat) (ops : Array Oper) (i : Nat) : List Pos :=
 match ops[i]? with
 | some o => (eS P nt ops o).ss
 | none => []
structure DRun (P : Program) (nt : Nat) (ops : Array Oper) (M : List Nat) (p : Nat) (acc : List (Nat × T Bool)) (x Z : X) (xs : Nat -> X) (Ls : Nat -> T Bool) : Prop where
 b : (xs p).sl = x.sl /\ (xs p).ob = x.ob /\ (xs p).nx = x.nx
 e : (xs ops.size).sl = Z.sl /\ (xs ops.size).ob = Z.ob /\ (xs ops.size).nx = Z.nx
 ok : ∀ i, p <= i -> i < ops.size -> IOk P nt ops i (dT P nt ops i) ((xs i).at (some .e)) ((xs (i + 1)).at (some (Ls i)))
 lg : LgLe x.lg Z.lg
 t : ∀ i, p <= i -> i < ops.size -> ∀ id, tchd (some (Ls i)) id -> tchd Z.lg id
 w : ∀ i, p <= i -> i < ops.size -> ∀ id, wrtn (some (Ls i)) id -> wrtn Z.lg id
 ac : ∀ j, p <= j -> j < ops.size -> ∀ i A, (i, A) ∈ acc -> cU (cK M j) i = true \/ fI A (Ls j) = true
 pr : ∀ i j, p <= i -> i < j -> j < ops.size -> cU (cK M j) i = true \/ fI (Ls i) (Ls j) = true
theorem AC (hFP : FPok P FP) (IH : ∀ nt c x e Z, ex (aY P nt c) x = some (e, Z) -> XOk P nt c x e Z) {M : List Nat} : ∀ (l pre : List Oper) {ms : List Nat} {acc : List (Nat × T Bool)} {x Z : X}, ops.toList = pre ++ l -> (∀ j, cK ms j = cK M (pre.length + j)) ->
 Bc P FP ex (bS P nt ops l) ms pre.length acc x = some Z -> ∃ xs Ls, DRun P nt ops M pre.length acc x Z xs Ls
 | [], pre, ms, acc, x, Z, ho, hms, h => by
   cases h
   have hsz : ops.size = pre.length := by rw [<- Array.length_toList, ho]; simp
   exact ⟨fun _ => x, fun _ => .e, ⟨rfl, rfl, rfl⟩, ⟨rfl, rfl, rfl⟩, fun i h1 h2 => by omega, LgLe.refl _, fun i h1 h2 => by omega, fun i h1 h2 => by omega, fun i h1 h2 => by omega, fun i j h1 h2 h3 => by omega⟩
 | o :: l, pre, ms, acc, x, Z, ho, hms, h => by
   obtain ⟨sl, ob, nx, lg⟩ := x
   have hp : ops[pre.length]? = some o := by
    rw [<- Array.getElem?_toList, ho]; simp
   have hlt : pre.length < ops.size := (Array.getElem?_eq_some_iff.1 hp).1
   have hn : dT P nt ops pre.length = (eS P nt ops o).ss := by unfold dT; rw [hp]
   have hlen : (pre ++ [o]).length = pre.length + 1 := by simp
   have step : ∀ {sl1 : T D} {ob1 : T C} {nx1 : Pos} {L : T Bool} {lg1 : Option (T Bool)} {acc1 : List (Nat × T Bool)}, IOk P nt ops pre.length (eS P nt ops o).ss ⟨sl, ob, nx, some .e⟩ ⟨sl1, ob1, nx1, some L⟩ ->
    LgLe lg lg1 -> (∀ id, tchd (some L) id -> tchd lg1 id) -> (∀ id, wrtn (some L) id -> wrtn lg1 id) -> (∀ i A, (i, A) ∈ acc -> (i, A) ∈ acc1 /\ (cU (cK M pre.length) i = true \/ fI A L = true)) -> (L = .e \/ (pre.length, L) ∈ acc1) ->
    Bc P FP ex (bS P nt ops l) (vY ms) (Nat.succ pre.length) acc1 ⟨sl1, ob1, nx1, lg1⟩ = some Z -> ∃ xs Ls, DRun P nt ops M pre.length acc ⟨sl, ob, nx, lg⟩ Z xs Ls := by
    intro sl1 ob1 nx1 L lg1 acc1 I hl ht hw hacc hL hrun
    obtain ⟨xs, Ls, R⟩ := AC hFP IH (M := M) l (pre ++ [o]) (ms := vY ms) (acc := acc1) (x := ⟨sl1, ob1, nx1, lg1⟩) (by rw [ho]; simp) (fun j => by rw [zT, hms, hlen]; congr 1; omega) (by rw [hlen]; exact hrun)
    rw [hlen] at R
    have hx1 : (xs (pre.length + 1)).at (some L) = ⟨sl1, ob1, nx1, some L⟩ := by
     obtain ⟨b1, b2, b3⟩ := R.b
     unfold X.at
     rw [b1, b2, b3]
    refine ⟨fun i => if i = pre.length then ⟨sl, ob, nx, lg⟩ else xs i, fun i => if i = pre.length then L else Ls i, ⟨by simp, by simp, by simp⟩, ?_, fun i h1 h2 => ?_, hl.trans R.lg, fun i h1 h2 id => ?_, fun i h1 h2 id => ?_, fun j h1 h2 i A hA => ?_, fun i j h1 h2 h3 => ?_⟩
    ·rw [if_neg (by omega)]; exact R.e
    ·by_cases e : i = pre.length
     ·subst e
      rw [if_pos rfl, if_pos rfl, if_neg (by omega), hx1, hn]
      exact I
     ·rw [if_neg e, if_neg e, if_neg (by omega)]
      exact R.ok i (by omega) h2
    ·by_cases e : i = pre.length
     ·rw [if_pos e]; exact fun h => R.lg.t id (ht id h)
     ·rw [if_neg e]; exact R.t i (by omega) h2 id
    ·by_cases e : i = pre.length
     ·rw [if_pos e]; exact fun h => R.lg.w id (hw id h)
     ·rw [if_neg e]; exact R.w i (by omega) h2 id
    ·by_cases e : j = pre.length
     ·rw [if_pos e, e]; exact (hacc i A hA).2
     ·rw [if_neg e]; exact R.ac j (by omega) h2 i A (hacc i A hA).1
    ·rw [if_neg (show j ≠ pre.length by omega)]
     by_cases e : i = pre.length
     ·rw [if_pos e, e]
      rcases hL with rfl | hL
      ·exact .inr (Am _)
      ·exact R.ac j (by omega) h3 _ _ hL
     ·rw [if_neg e]; exact R.pr i j (by omega) h2 h3
   have h : (match yG P FP ex (eS P nt ops o) ⟨sl, ob, nx, some .e⟩ with
    | some ⟨sl, ob, nx, some L⟩ => match L with
      | .e => Bc P FP ex (bS P nt ops l) (vY ms) (Nat.succ pre.length) acc ⟨sl, ob, nx, lg⟩
      | .n l' v r => bif jU (cK ms 0) (.n l' v r) acc then jV lg (.n l' v r) fun lg => Bc P FP ex (bS P nt ops l) (vY ms) (Nat.succ pre.length) ((pre.length, .n l' v r) :: acc) ⟨sl, ob, nx, lg⟩ else none
    | _ => none) = some Z := h
   split at h
   ·rename_i sl1 ob1 nx1 L hg
    have I := Aw hFP IH hp hg
    split at h
    ·refine step I (LgLe.refl _) (fun id ⟨b, hb⟩ => ?_) (fun id hb => ?_) (fun i A hA => ⟨hA, .inr (vO _)⟩) (.inl rfl) h
     ·rw [T.get_e] at hb; cases hb
     ·have hb : (T.e : T Bool).get id = some true := hb
      rw [T.get_e] at hb; cases hb
    ·rename_i l' v r
     cases ha : jU (cK ms 0) (.n l' v r) acc with
     | false => rw [ha] at h; cases h
     | true =>
       rw [ha] at h
       simp only [cond_true] at h
       obtain ⟨lg1, h1, h2, h3, h4⟩ := tB lg (.n l' v r) fun lg => Bc P FP ex (bS P nt ops l) (vY ms) (Nat.succ pre.length) ((pre.length, .n l' v r) :: acc) ⟨sl1, ob1, nx1, lg⟩
       rw [h1] at h
       exact step I h2 h3 h4 (fun i A hA => ⟨List.mem_cons_of_mem _ hA, by
        have := mO ha i A hA
        rw [hms, Nat.add_zero] at this
        exact this⟩) (.inr List.mem_cons_self) h
   ·cases h
end
end Go.Ev
end
