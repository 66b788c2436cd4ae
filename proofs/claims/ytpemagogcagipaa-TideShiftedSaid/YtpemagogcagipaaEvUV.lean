import Derived.Test.YtpemagogcagipaaEvT
set_option linter.all false
namespace Go.Ev
open Go.RowKit (Below)

/-- The marks are met, one after the other: each block is shut. -/
theorem leaveM {F : Fence} {n : Nat} {P : Program} {fn : Func} {tmps : Array Value} {R : Ending → World → Prop} : ∀ (ms : List Nat) (w : World), ms.Nodup → (∀ r, r ∈ ms → w.heap[r]? = some (.deferred (some []))) →
    (∀ w2 : World, (∀ b, b ∉ ms → w2.heap[b]? = w.heap[b]?) → w2.heap.size = w.heap.size → (w2.os = w.os ∧ w2.tape = w.tape ∧ w2.output = w.output ∧ ∀ a : Addr, w2.frozen? a = w.frozen? a) → LeavesInM F n P fn tmps R [] .returning w2) → LeavesInM F n P fn tmps R (ms.map mark) .returning w
  | [], w, _, _, h => h w (fun _ _ => rfl) rfl ⟨rfl, rfl, rfl, fun _ => rfl⟩
  | r :: ms, w, hn, hm, h => by
    have hr := hm r (by simp)
    rw [List.nodup_cons] at hn
    refine ⟨by simp, .inl ⟨r, w.putObj r (.deferred none), rfl, run_takeDeferred hr, ?_⟩⟩
    refine leaveM ms _ hn.2 (fun q hq => ?_) fun w2 h1 h2 h3 => ?_
    · rw [World.putObj_heap_other (show q ≠ r from fun e => hn.1 (e ▸ hq))]
      exact hm q (by simp [hq])
    · refine h w2 (fun b hb => ?_) (by rw [h2]; simp [World.putObj]) ⟨h3.1, h3.2.1, h3.2.2.1, fun a => (h3.2.2.2 a).trans (frozen_put w r _ (fun _ _ _ h => by cases h) (fun _ _ _ h => by rw [hr] at h; cases h) a)⟩
      simp only [List.mem_cons, not_or] at hb
      rw [h1 b hb.2, World.putObj_heap_other hb.1]

theorem results_run {P : Program} {fn : Func} {tmps : Array Value} {w : World} {vs : List Value} (h : (fn.results.toList.mapM fun
        | .tmp t => pure (tmps.getD t undef)
        | .cell a t => do loadVar t (← asAddr (tmps.getD a undef)) : Sem (List Value)).run P w = .ok vs w) : (_root_.Go.results fn tmps).run P w = .ok (if h : vs.length = 1 then vs[0] else .tuple vs.toArray) w := by
  unfold _root_.Go.results
  rw [Sem.run_bind, Array.mapM_eq_mapM_toList]
  simp only [Sem.run_map]
  erw [h]
  simp only [Result.andThen_ok, Sem.run_pure]
  congr 1
theorem DV_one {γ : Gh} {w : World} {ds : List D} {vs : List Value} (h : DVL γ w ds vs) : DV γ w (one ds) (if h : vs.length = 1 then vs[0] else .tuple vs.toArray) := by
  obtain ⟨h1, h2⟩ := DVL_iff.1 h
  unfold one
  split
  · rename_i d
    have h3 : vs.length = 1 := by rw [← h1]; rfl
    rw [dif_pos h3]
    exact h2 0 d _ rfl (List.getElem?_eq_getElem (by omega))
  · rename_i hne
    have h3 : vs.length ≠ 1 := by
      intro h3
      rw [← h1] at h3
      obtain ⟨d, hd⟩ := List.length_eq_one_iff.1 h3
      exact hne d hd
    rw [dif_neg h3]
    unfold DV
    exact ⟨_, rfl, h⟩

theorem compF_ok {P : Program} {f : Nat} {rf : RF} (h : compF P f = some rf) : ∃ fn c rs, P.funcs[f]? = some fn ∧ fn.body = some c ∧ compR P fn.results.toList = some rs ∧ (fn.name == "runtime.NumGoroutine") = false ∧ rf = ⟨fn.ntmps, comp P fn.ntmps c, rs, none⟩ := by
  unfold compF at h
  split at h
  · rename_i fn hf
    split at h
    · rename_i c rs hb hr
      cases hn : (fn.name == "runtime.NumGoroutine") with
      | true => rw [hn] at h; cases h
      | false =>
        rw [hn] at h
        cases h
        exact ⟨fn, c, rs, hf, hb, hr, hn, rfl⟩
    · cases h
  · cases h

theorem callsIn_ro {ro : Option Nat} {n : Nat} {P : Program} {f : FuncId} {args : Array Value} {w : World} {R : Ending → World → Prop} (h : CallsIn (FW none) n P f args w R) : CallsIn (FW ro) n P f args w R := h

/-- A mark in a list of marks. -/
theorem mark_mem {r : Nat} {ms : List Nat} : mark r ∈ ms.map mark ↔ r ∈ ms := by
  constructor
  · intro h
    obtain ⟨q, h1, h2⟩ := List.mem_map.1 h
    have : q = r := by
      unfold mark at h2
      cases h2; rfl
    exact this ▸ h1
  · exact fun h => List.mem_map.2 ⟨r, h, rfl⟩

section
variable {P : Program} {FP : T RF} {ex : RC → X → Option (Ex × X)}

/-- A call, off a run of its body. -/
theorem body_ok {f : Nat} {fn : Func} {c : Code} {rs : List RR} {ds : List D} {sl : T D} {ob : T C} {nx : Pos} {lg : Option (T Bool)} {k : D → T C → Pos → Option (T Bool) → Option X} {Z : X} (hf : P.funcs[f]? = some fn) (hb : fn.body = some c) (hr : compR P fn.results.toList = some rs) (hname : (fn.name == "runtime.NumGoroutine") = false)
    (hlen : ds.length ≤ fn.ntmps) (hsl : ∀ s d, sl.get s = some d → (T.e : T D).get s = some d ∨ ∃ i : Nat, s.nat = Pos.h.nat + i ∧ ds[i]? = some d) {e : Ex} {sl' : T D} {ob1 : T C} {nx1 : Pos} {lg1 : Option (T Bool)} (he : e = .normal ∨ e = .ret)
    (X1 : XOk P fn.ntmps c ⟨sl, ob, nx, lg⟩ e ⟨sl', ob1, nx1, lg1⟩) (hres : results rs sl' ob1 lg1 (fun ds lg => k (one ds) ob1 nx1 lg) = some Z) :
    ∃ v ob' nx' lg', k v ob' nx' lg' = some Z ∧ CallOk P f ds ob nx lg v ob' nx' lg' := by
  obtain ⟨rds, lg2, h2, h3, h4⟩ := results_ok hr hres
  refine ⟨one rds, ob1, nx1, lg2, h2, X1.lg.trans h3, X1.nx, (fun id hn => X1.obf id fun hw => hn (h3.w id hw)), fun so hso γ args w gh hargs hob hnx => ⟨run_callFunc hf hb hname args, fun ro n R hR => callsIn_ro ?_⟩⟩
  have hasz : args.size = ds.length := by have := (DVL_iff.1 hargs).1; simpa using this.symm
  have hsz : (args ++ Array.replicate (fn.ntmps - args.size) undef).size = fn.ntmps := by simp; omega
  have g0 : G none γ { tmps := args ++ Array.replicate (fn.ntmps - args.size) undef, defers := [] } w := ⟨gh.ob, gh.inj, ⟨[], rfl, List.nodup_nil, fun r hr => by cases hr⟩, (fun l hl => by cases hl), gh.im, gh.gl⟩
  refine callsIn_of_wp_marks hf hb trivial (X1.ok so (fun id hid => hso id (h3.t id hid)) none γ _ w hsz g0 ⟨fun s d _ hd => ?_, hob, hnx, gh.gl⟩ n _ fun γ' a' w' cst rep => ?_) rfl
  · rcases hsl s d hd with h5 | ⟨i, h5, h6⟩
    · rw [T.get_e] at h5; cases h5
    · have hi : i < args.size := by have := (List.getElem?_eq_some_iff.1 h6).1; omega
      have hix : s.ix = i := by
        unfold Pos.ix
        rw [h5]
        show 1 + i - 1 = i
        omega
      rw [hix]
      refine ⟨by rw [hsz]; omega, ?_⟩
      have hav : (args ++ Array.replicate (fn.ntmps - args.size) undef).getD i undef = args[i] := by
        simp [Array.getD, hi, Array.getElem_append_left]
        omega
      show DV γ w d ((args ++ Array.replicate (fn.ntmps - args.size) undef).getD i undef)
      rw [hav]
      exact (DVL_iff.1 hargs).2 i d _ h6 (by simp [hi])
  · have fin : LeavesInM (FW none) n P fn a'.tmps R a'.defers .returning w' := by
      obtain ⟨ms, d1, d2, d3⟩ := cst.g.df
      rw [d1]
      refine leaveM ms w' d2 (fun r hr => (d3 r hr).1) fun w2 e1 e2 e3 => ?_
      have hnew : ∀ r, r ∈ ms → w.heap.size ≤ r := by
        intro r hr
        rcases cst.dn r (by rw [d1]; exact mark_mem.2 hr) with h5 | h5
        · cases h5
        · exact h5
      have hown : ∀ id st, st < γ'.cur id → (γ'.β id st).1 ∉ ms := fun id st hst hm => (d3 _ hm).2 id st hst rfl
      have U : Up γ' γ' w' w2 := ⟨fun _ => Nat.le_refl _, fun _ _ _ => rfl, fun b x hx => by
        have hb : b ∉ ms := by
          intro hm
          have := (d3 b hm).1
          unfold World.shape? at hx
          rw [this] at hx
          cases hx
        rw [shape_same (e1 b hb)]; exact hx, fun b hb => ⟨hb, fun o ho => by
        rw [e1 b (fun hm => ?_)]; exact ho
        obtain ⟨⟨vs, e, fr, k1⟩, _⟩ := cst.g.im b hb
        have := (d3 b hm).1
        rw [k1] at this
        cases this⟩⟩
      have hold : ∀ id c, so id → ob1.get id = some c → HoldsO P γ' w2 id c := fun id c hid hc => HoldsO.mono U rfl (fun st hst => e1 _ (hown id st hst)) (rep.ob id c hid hc)
      have hsl2 : ∀ s d, sl'.get s = some d → s.ix < a'.tmps.size ∧ DV γ' w2 d (a'.tmps.getD s.ix undef) := fun s d hd => ⟨(rep.sl s d trivial hd).1, DV.mono U _ _ (rep.sl s d trivial hd).2⟩
      obtain ⟨vs, q1, q2⟩ := h4 hso hsl2 hold
      refine ⟨_, results_run q1, hR γ' w2 _ ⟨fun id st hst => by rw [e2]; exact cst.g.ob id st hst, cst.g.inj, fun b hb => ⟨let ⟨⟨vs, e, fr, k1⟩, _⟩ := cst.g.im b hb; ⟨vs, e, fr, (U.im b hb).2 _ k1⟩, (cst.g.im b hb).2⟩, cst.g.gl.up U⟩ ?_ (DV_one q2) hold rep.nx⟩
      have F := cst.fr.mono h3.w
      exact ⟨F.up.trans U, F.cur, fun b hb hn => by
          rw [e1 b (fun hm => by have := hnew b hm; omega)]
          exact F.blk b hb hn, F.new, F.imn, fun b r hr => by
          obtain ⟨r', hr'⟩ := F.lp b r hr
          refine ⟨r', ?_⟩
          rw [e1 b (fun hm => by have := (d3 b hm).1; rw [hr'] at this; cases this)]
          exact hr', by rw [e2]; exact F.size, e3.1.trans F.os, e3.2.1.trans F.tape, e3.2.2.1.trans F.output, fun a => (e3.2.2.2 a).trans (F.fz a)⟩
    rcases he with rfl | rfl <;> exact fin

theorem callF_ok (hFP : FPok P FP) (IH : ∀ nt c x e Z, ex (comp P nt c) x = some (e, Z) → XOk P nt c x e Z) {f : Pos} {ds : List D} {ob : T C} {nx : Pos} {lg : Option (T Bool)} {k : D → T C → Pos → Option (T Bool) → Option X} {Z : X} (h : callF FP ex f ds ob nx lg k = some Z) :
    ∃ v ob' nx' lg', k v ob' nx' lg' = some Z ∧ CallOk P f.ix ds ob nx lg v ob' nx' lg' := by
  unfold callF at h
  split at h
  · rename_i rf hrf
    split at h
    · rename_i v hkn
      split at h
      · exact ⟨v, ob, nx, lg, h, (hFP f rf hrf).2 v hkn ob nx lg⟩
      · cases h
    rename_i hkn
    obtain ⟨fn, c, rs, hf, hb, hr, hname, rfl⟩ := compF_ok ((hFP f rf hrf).1 hkn)
    cases hle : Nat.ble (List.length ds) fn.ntmps with
    | false => rw [hle] at h; cases h
    | true =>
      rw [hle] at h
      simp only [cond_true] at h
      have hlen := Nat.le_of_ble_eq_true hle
      obtain ⟨sl, h1, hsl⟩ := argsK_ok h
      have main : ∀ e sl' ob1 nx1 lg1, (e = .normal ∨ e = .ret) → ex (comp P fn.ntmps c) ⟨sl, ob, nx, lg⟩ = some (e, ⟨sl', ob1, nx1, lg1⟩) → results rs sl' ob1 lg1 (fun ds lg => k (one ds) ob1 nx1 lg) = some Z →
          ∃ v ob' nx' lg', k v ob' nx' lg' = some Z ∧ CallOk P f.ix ds ob nx lg v ob' nx' lg' := by
        exact fun e sl' ob1 nx1 lg1 he hex hres => body_ok hf hb hr hname hlen hsl he (IH _ _ _ _ _ hex) hres
      split at h1
      · rename_i sl' ob1 nx1 lg1 hex
        exact main .normal sl' ob1 nx1 lg1 (.inl rfl) hex h1
      · rename_i sl' ob1 nx1 lg1 hex
        exact main .ret sl' ob1 nx1 lg1 (.inr rfl) hex h1
      · cases h1
  · cases h
end
end Go.Ev

namespace Go.Ev
open Go.RowKit (Below)

/-- A call of yield: one round. -/
structure RndOk (P : Program) (id : Pos) (ds : List D) (ob : T C) (nx : Pos) (lg : Option (T Bool)) (v : D) (ob' : T C) (nx' : Pos) (lg' : Option (T Bool)) : Prop where
  hl : LgLe lg lg'
  hx : nx.nat ≤ nx'.nat
  hk : Keeps lg' ob ob'
  ok : ∀ so : Pos → Prop, (∀ id, tchd lg' id → so id) → ∀ (γ : Gh) (args : Array Value) (w : World), GH γ w → DVL γ w ds args.toList → (∀ id c, so id → ob.get id = some c → HoldsO P γ w id c) → (∀ id, so id → nx.nat ≤ id.nat → γ.cur id = 0) → 0 < γ.cur id →
    ∃ fn tmps asg body, (Instr.yield (γ.β id 0).1 args).run P w = .ok (.round (γ.β id 0).1 fn tmps asg body) w ∧ ∀ (ro : Option Nat) (n : Nat) (R : Ending → World → Prop),
      (∀ γ' w' u, GH γ' w' → Fr (wrtn lg') γ γ' w w' → DV γ' w' v u → (∀ id c, so id → ob'.get id = some c → HoldsO P γ' w' id c) → (∀ id, so id → nx'.nat ≤ id.nat → γ'.cur id = 0) → R (.returned u) w') →
      RoundIn (FW ro) n P (γ.β id 0).1 fn tmps asg body w R

theorem parmK_ok {γ : Gh} {w : World} : ∀ {ps : List Pos} {ds : List D} {t : T D} {k : T D → Option X} {Z : X}, parmK ps ds t k = some Z → ∃ t', k t' = some Z ∧ ps.length = ds.length ∧
    ∀ {γ : Gh} {w : World} {args : List Value} {tmps : Array Value}, DVL γ w ds args → (∀ p, p ∈ ps → p.ix < tmps.size) → (∀ s d, t.get s = some d → s.ix < tmps.size ∧ DV γ w d (tmps.getD s.ix undef)) →
      (((ps.map Pos.ix).zip args).foldl (fun tmps (t, a) => tmps.setIfInBounds t a) tmps).size = tmps.size ∧
      ∀ s d, t'.get s = some d → s.ix < tmps.size ∧ DV γ w d ((((ps.map Pos.ix).zip args).foldl (fun tmps (t, a) => tmps.setIfInBounds t a) tmps).getD s.ix undef)
  | [], [], t, k, Z, h => ⟨t, h, rfl, fun {γ w args tmps} ha _ hs => by
      unfold DVL at ha
      subst ha
      exact ⟨rfl, hs⟩⟩
  | [], d :: ds, t, k, Z, h => by cases h
  | p :: ps, [], t, k, Z, h => by cases h
  | p :: ps, d :: ds, t, k, Z, h => by
    have h : T.setK p d t (fun t => parmK ps ds t k) = some Z := h
    rw [T.setK_eq] at h
    obtain ⟨t', h1, h2, h3⟩ := parmK_ok (γ := γ) (w := w) h
    refine ⟨t', h1, by simp [h2], fun {γ w args tmps} ha hp hs => ?_⟩
    unfold DVL at ha
    obtain ⟨v, r, rfl, ha1, ha2⟩ := ha
    have hpl := hp p (by simp)
    obtain ⟨h4, h5⟩ := h3 (tmps := tmps.setIfInBounds p.ix v) ha2 (fun q hq => by rw [Array.size_setIfInBounds]; exact hp q (by simp [hq])) (fun s e hs' => by
      rw [Array.size_setIfInBounds]
      by_cases es : s = p
      · subst es
        rw [T.get_set_same] at hs'
        cases hs'
        refine ⟨hpl, ?_⟩
        simp [hpl]; exact ha1
      · rw [T.get_set_ne es] at hs'
        obtain ⟨q1, q2⟩ := hs s e hs'
        refine ⟨q1, ?_⟩
        have hne : p.ix ≠ s.ix := fun e => es (Pos.ix_inj e.symm)
        simp [Array.getElem?_setIfInBounds_ne hne]
        simpa using q2)
    simp only [List.map_cons, List.zip_cons_cons, List.foldl_cons]
    rw [Array.size_setIfInBounds] at h4 h5
    exact ⟨h4, h5⟩

section
variable {P : Program} {FP : T RF} {ex : RC → X → Option (Ex × X)}

/-- The record is written. -/
theorem loop_put {ro : Option Nat} {γ : Gh} {a : Act} {w : World} {id : Pos} {l l' : Loop} (g : G ro γ a w) (hst : 0 < γ.cur id) (hob : w.heap[(γ.β id 0).1]? = some (.loop l)) :
    Fr (fun j => j = id) γ γ w (w.putObj (γ.β id 0).1 (.loop l')) ∧ ∀ a' : Act, a'.defers = a.defers → G ro γ a' (w.putObj (γ.β id 0).1 (.loop l')) :=
  same_all g id (by simp [World.putObj]) (fun c hc hn => World.putObj_heap_other (fun e => hn 0 hst e.symm))
    (fun c x hx => by
      have hne : c ≠ (γ.β id 0).1 := by
        rintro rfl
        unfold World.shape? at hx
        rw [hob] at hx
        cases hx
      rw [shape_same (World.putObj_heap_other hne)]; exact hx)
    (fun c r hr => by
      by_cases e : c = (γ.β id 0).1
      · subst e
        exact ⟨l', World.putObj_heap_same (Array.getElem?_eq_some_iff.1 hob).1⟩
      · exact ⟨r, by rw [World.putObj_heap_other e]; exact hr⟩) ⟨rfl, rfl, rfl⟩ (frozen_put w _ _ (fun _ _ _ h => by cases h) fun vs e fr h => by rw [hob] at h; cases h)

theorem callV_ok (hFP : FPok P FP) (IH : ∀ nt c x e Z, ex (comp P nt c) x = some (e, Z) → XOk P nt c x e Z) {v0 : D} {ds : List D} {ob : T C} {nx : Pos} {lg : Option (T Bool)} {k : D → T C → Pos → Option (T Bool) → Option X} {Z : X} (h : callV P FP ex v0 ds ob nx lg k = some Z) :
    (∃ f first caps v ob' nx' lg', v0 = .fn f first caps ∧ k v ob' nx' lg' = some Z ∧ CallOk P f.ix (first ++ (ds ++ caps)) ob nx lg v ob' nx' lg') ∨
    (∃ id v ob' nx' lg', v0 = .yl id ∧ k v ob' nx' lg' = some Z ∧ RndOk P id ds ob nx lg v ob' nx' lg') := by
  unfold callV at h
  split at h
  · rename_i f first caps
    obtain ⟨v, ob', nx', lg', h1, h2⟩ := callF_ok hFP IH h
    exact .inl ⟨f, first, caps, v, ob', nx', lg', rfl, h1, h2⟩
  · rename_i id
    right
    split at h
    · rename_i sl ps nt asg body j0 hob0
      obtain ⟨sl', h1, hplen, hpar⟩ := parmK_ok (γ := ⟨fun _ => 0, fun _ _ => (0, 0), fun _ => False⟩) (w := default) h
      split at h1
      · rename_i sl2 ob1 nx1 lg1 hasg
        split at h1
        · rename_i a1 b1 m1 c1 d1 j1 hob1
          rw [T.setK_eq] at h1
          obtain ⟨lg2, h2, hl2, hw2⟩ := logW_ok h1
          split at h2
          · rename_i e sl3 ob3 nx3 lg3 hbody
            split at h2
            · rename_i a3 b3 m3 c3 d3 s3 j3 hob3
              have X1 := IH _ _ _ _ _ hasg
              have X2 := IH _ _ _ _ _ hbody
              have main : ∀ (st' : LS) (jj : Option Ex) (bv : Bool), k (.b bv) (T.set id (.lp a3 b3 m3 c3 d3 st' jj) ob3) nx3 lg3 = some Z → ((e = .normal ∧ st' = .ready ∧ jj = none ∧ bv = true) ∨ (e ≠ .normal ∧ st' = .done ∧ jj = some e ∧ bv = false)) →
                  ∃ id' v ob' nx' lg', D.yl id = .yl id' ∧ k v ob' nx' lg' = some Z ∧ RndOk P id' ds ob nx lg v ob' nx' lg' := by
                intro st' jj bv hk hcase
                refine ⟨id, .b bv, _, nx3, lg3, rfl, hk, X1.lg.trans (hl2.trans X2.lg), Nat.le_trans X1.nx X2.nx, Keeps.set (Keeps.trans X2.lg (Keeps.set (a := ob) (b := ob1) (fun id hn => X1.obf id fun hw => hn (hl2.w id hw)) hw2 _) X2.obf) (X2.lg.w id hw2) _, fun so hso γ args w gh hargs hob hnx hcur => ?_⟩
                have hsoid : so id := hso id (X2.lg.t id hw2.tchd)
                obtain ⟨hc1, l, hl, hst, _, hsl, hps, hpb, hntl, rfl, rfl⟩ := hob id _ hsoid hob0
                obtain ⟨bk, hbk⟩ : ∃ bk, bk = (γ.β id 0).1 := ⟨_, rfl⟩
                rw [← hbk] at hl ⊢
                have hpsz : args.size = l.params.size := by
                  have e1 : l.params.toList.length = ps.length := by rw [hps]; simp
                  have e2 := (DVL_iff.1 hargs).1
                  simp at e1 e2
                  omega
                have hfold : (l.params.zip args).foldl (fun tmps (t, a) => tmps.setIfInBounds t a) l.tmps = ((ps.map Pos.ix).zip args.toList).foldl (fun tmps (t, a) => tmps.setIfInBounds t a) l.tmps := by
                  rw [← Array.foldl_toList, Array.toList_zip, hps]
                obtain ⟨hsz, hsl'⟩ := hpar (tmps := l.tmps) hargs hpb hsl
                refine ⟨l.fn, _, l.assign, l.body, run_yield hl hpsz, fun ro n R hR => ?_⟩
                rw [hfold]
                refine roundIn_of_wpIn trivial ?_
                have g0 : G (some bk) γ { tmps := ((ps.map Pos.ix).zip args.toList).foldl (fun tmps (t, a) => tmps.setIfInBounds t a) l.tmps, defers := [] } w :=
                  ⟨gh.ob, gh.inj, ⟨[], rfl, List.nodup_nil, fun r hr => by cases hr⟩, (fun l' hl' => by cases hl'; exact ⟨l, hl⟩), gh.im, gh.gl⟩
                refine X1.ok so (fun j hj => hso j (X2.lg.t j (hl2.t j hj))) (some bk) γ _ w (by show Array.size _ = nt; rw [hsz]; exact hntl) g0 ⟨fun s d _ hd => ?_, hob, hnx, gh.gl⟩ n _ fun γ1 a1' w1 cst1 rep1 => ?_
                · show s.ix < Array.size _ ∧ _
                  rw [hsz]; exact hsl' s d hd
                · -- the round begins
                  have hβ1 : (γ1.β id 0).1 = bk := by rw [cst1.fr.up.β id 0 hcur, hbk]
                  have hcur1 : 0 < γ1.cur id := Nat.lt_of_lt_of_le hcur (cst1.fr.up.cur id)
                  obtain ⟨hc2, l1, hl1, hst1, hpd1, hsl1, hps1, hpb1, hnt1, ha1, hb1⟩ := rep1.ob id _ hsoid hob1
                  rw [hβ1] at hl1
                  refine ⟨_, run_beginRound hl1 (by rw [hst1]; rfl), ?_⟩
                  have hlt1 : bk < w1.heap.size := (Array.getElem?_eq_some_iff.1 hl1).1
                  have LP := loop_put (l' := { l1 with state := .busy }) cst1.g hcur1 (by rw [hβ1]; exact hl1)
                  rw [hβ1] at LP
                  obtain ⟨F2, g2⟩ := LP
                  have rep2 : Rep P (allS so) γ1 a1' (w1.putObj bk (.loop { l1 with state := .busy })) ⟨sl2, T.set id (.lp a1 b1 m1 c1 d1 .busy j1) ob1, nx1, lg2⟩ := by
                    refine ⟨fun s d hs hd => ⟨(rep1.sl s d hs hd).1, DV.mono F2.up _ _ (rep1.sl s d hs hd).2⟩, others_hold rep1 cst1.g F2 fun _ => ?_, rep1.nx, rep1.gl.up F2.up⟩
                    refine ⟨hc2, { l1 with state := .busy }, by rw [hβ1]; exact World.putObj_heap_same hlt1, rfl, hpd1, fun s d hd => ⟨(hsl1 s d hd).1, DV.mono F2.up _ _ (hsl1 s d hd).2⟩, hps1, hpb1, hnt1, ha1, hb1⟩
                  have key := X2.ok so hso (some bk) γ1 a1' (w1.putObj bk (.loop { l1 with state := .busy })) (by rw [cst1.sz]; show Array.size _ = nt; rw [hsz]; exact hntl) (g2 _ rfl) rep2 n (roundPost P bk R)
                  refine key fun γ3 a3' w3 cst3 rep3 => ?_
                  have hβ3 : (γ3.β id 0).1 = bk := by rw [cst3.fr.up.β id 0 hcur1, hβ1]
                  have hcur3 : 0 < γ3.cur id := Nat.lt_of_lt_of_le hcur1 (cst3.fr.up.cur id)
                  obtain ⟨hc4, l3, hl3, hst3, hpd3, hsl3, hps3, hpb3, hnt3, ha3, hb3⟩ := rep3.ob id _ hsoid hob3
                  rw [hβ3] at hl3
                  have hlt3 : bk < w3.heap.size := (Array.getElem?_eq_some_iff.1 hl3).1
                  have fin : ∀ (jump : Option Code), jump = jj.bind Ex.code → (if jump.isNone then LoopState.ready else .done) = st'.st → jump.isNone = bv → ∃ v w', (Instr.endRound bk jump).run P w3 = .ok v w' ∧ R (.returned v) w' := by
                    intro jump hjump hstt hbv
                    refine ⟨_, _, run_endRound jump hl3, ?_⟩
                    have LP := loop_put (l' := { l3 with state := if jump.isNone then .ready else .done, pending := jump }) cst3.g hcur3 (by rw [hβ3]; exact hl3)
                    rw [hβ3] at LP
                    obtain ⟨F4, g4⟩ := LP
                    have hw3 : wrtn lg3 id := X2.lg.w id hw2
                    refine hR γ3 _ _ (g4 a3' rfl).gh ?_ (by rw [hbv]; exact DV_of_b _) (others_hold rep3 cst3.g F4 fun _ => ?_) rep3.nx
                    · have m1 := (cst1.fr.mono hl2.w).mono X2.lg.w
                      exact ((m1.trans (F2.mono fun j e => by rw [e]; exact hw3)).trans cst3.fr).trans (F4.mono fun j e => by rw [e]; exact hw3)
                    · refine ⟨hc4, { l3 with state := if jump.isNone then .ready else .done, pending := jump }, by rw [hβ3]; exact World.putObj_heap_same hlt3, hstt, hjump, fun s d hd => ⟨(hsl3 s d hd).1, DV.mono F4.up _ _ (hsl3 s d hd).2⟩, hps3, hpb3, hnt3, ha3, hb3⟩
                  rcases hcase with ⟨rfl, rfl, rfl, rfl⟩ | ⟨hne, rfl, rfl, rfl⟩
                  · exact fin none rfl rfl rfl
                  · cases e with
                    | normal => exact absurd rfl hne
                    | ret => exact fin (some .ret) rfl rfl rfl
                    | exit i => exact fin (some (.exit i)) rfl rfl rfl
              cases e with
              | normal =>
                simp only at h2
                rw [T.setK_eq] at h2
                exact main .ready none true h2 (.inl ⟨rfl, rfl, rfl, rfl⟩)
              | ret =>
                simp only at h2
                rw [T.setK_eq] at h2
                exact main .done (some .ret) false h2 (.inr ⟨by simp, rfl, rfl, rfl⟩)
              | exit i =>
                simp only at h2
                rw [T.setK_eq] at h2
                exact main .done (some (.exit i)) false h2 (.inr ⟨by simp, rfl, rfl, rfl⟩)
            · cases h2
          · cases h2
        · cases h1
      · cases h1
    · cases h
  · cases h
end
end Go.Ev
